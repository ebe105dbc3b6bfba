/-
  Cmp of quarterdaybig's Int where either may be -1.
-/
import Derived.Test.YtiolkeipgpkbmaaGreatDoorZg9
import Derived.Test.YtiolkeipgpkbmaaGreatDoorZg0
import Derived.Deep.QuietTactic
import Derived.BigQuiet
import Derived.Test.YtiolkeipgpkbmaaGreatDoorZg8
import Derived.Test.YtiolkeipgpkbmaaGreatDoorZg6
import Derived.Test.YtiolkeipgpkbmaaGreatDoorZg7
namespace Go.Proofs.YtiolkeipgpkbmaaGreatDoor
set_option linter.unusedVariables false
open Go.RowKit Big

/-- A number of few words. -/
def Few (x : Int) : Prop := -340282366920938463463374607431768211456 < x ∧ x < 340282366920938463463374607431768211456

theorem BigIs.blk {w : World} {p : Nat} {x : Int} (h : BigIs w p x) : ∃ n v, w.heap[p]? = some (.cells #[.bool n, v] 83 (0, 0)) ∧ ∀ k i, v ≠ .int k i := by
  obtain ⟨n, v, l, hb, _⟩ := h
  exact ⟨n, v, hb.blk, hb.wd.noInt⟩
theorem BigIs.lt {w : World} {p : Nat} {x : Int} (h : BigIs w p x) : p < w.heap.size := by
  obtain ⟨n, v, hb, _⟩ := h.blk
  exact blk_lt hb
theorem BigIs.kept {w w' : World} {p q : Nat} {x y : Int} (h : BigIs w p x) (hne : p ≠ q) (hq : BigIs w q y) (hg : w.grownBy w' (some q)) : BigIs w' p x := by
  obtain ⟨n, v, hb, hv⟩ := hq.blk
  exact h.keepBy hne hb hv hg
theorem bigis_new (w : World) : BigIs (w.alloc (.cells #[.bool false, .slice none 0 0] 83)) w.heap.size 0 :=
  ⟨false, .slice none 0 0, [], ⟨alloc_blk _ _, wd_nil _ _ _, .inl rfl, fun h => by cases h⟩, rfl⟩

theorem sub_big (pz px py : Nat) (z x y : Int) (w : World) (hz : BigIs w pz z) (hx : BigIs w px x) (hy : BigIs w py y) (bx : Few x) (by_ : Few y) :
    Calls Tryz.prog 43 #[.pointer (some ⟨pz, 0, none⟩), .pointer (some ⟨px, 0, none⟩), .pointer (some ⟨py, 0, none⟩)] w fun e w' => e = .returned (.pointer (some ⟨pz, 0, none⟩)) ∧ Hid (BigIs w' pz (x - y) ∧ w.grownBy w' (some pz)) := by
  obtain ⟨nz, vz, hb, hv⟩ := hz.blk
  obtain ⟨nx, vx, lx, hx, rfl⟩ := hx
  obtain ⟨ny, vy, ly, hy, rfl⟩ := hy
  exact Sub_any pz px py nz nx ny vz vx vy lx ly w hb hv hx hy (few_words hx.nrm bx.1 bx.2) (few_words hy.nrm by_.1 by_.2)

theorem mul_big (pz px py : Nat) (z x y : Int) (w : World) (hz : BigIs w pz z) (hx : BigIs w px x) (hy : BigIs w py y) (bx : Few x) (by_ : Few y) :
    Calls Tryz.prog 40 #[.pointer (some ⟨pz, 0, none⟩), .pointer (some ⟨px, 0, none⟩), .pointer (some ⟨py, 0, none⟩)] w fun e w' => e = .returned (.pointer (some ⟨pz, 0, none⟩)) ∧ Hid (BigIs w' pz (x * y) ∧ w.grownBy w' (some pz)) := by
  obtain ⟨nz, vz, hb, hv⟩ := hz.blk
  obtain ⟨nx, vx, lx, hx, rfl⟩ := hx
  obtain ⟨ny, vy, ly, hy, rfl⟩ := hy
  exact Mul_any pz px py nz nx ny vz vx vy lx ly w hb hv hx hy (few_words hx.nrm bx.1 bx.2) (few_words hy.nrm by_.1 by_.2)

/-- A number's sign is told by its first cell. -/
theorem BigIs.neg {w : World} {p : Nat} {x : Int} (h : BigIs w p x) : w.cell? ⟨p, 0, none⟩ = some (.bool (decide (x < 0))) := by
  obtain ⟨n, v, l, hb, rfl⟩ := h
  rw [blk_cell0 hb.blk]
  have : n = decide (sg n (val l) < 0) := by
    cases n
    · simp [sg]
    · have h0 := hb.sgn rfl
      have h1 := val_ge hb.nrm h0
      have h2 := Nat.pow_pos (n := l.length - 1) (by omega : 0 < 4294967296)
      simp [sg]; omega
  rw [← this]

theorem one_word {n : Bool} {l : List Nat} (hn : Nrm l) (ho : Ok l) (y : Int) (h : sg n (val l) = y) (h0 : 0 < y) (h1 : y < 4294967296) : l.length = 1 ∧ n = false ∧ (val l : Int) = y := by
  have hf : n = false := by
    cases n
    · rfl
    · simp [sg] at h; omega
  subst hf
  have hv : (val l : Int) = y := by simpa [sg] using h
  refine ⟨?_, rfl, hv⟩
  have p0 : 0 < l.length := by
    rcases Nat.eq_zero_or_pos l.length with h | h
    · rw [List.eq_nil_of_length_eq_zero h] at hv; simp [val] at hv; omega
    · exact h
  have h2 := val_ge hn p0
  apply Classical.byContradiction
  intro hc
  have h3 : 4294967296 ^ 1 ≤ 4294967296 ^ (l.length - 1) := Nat.pow_le_pow_right (by omega) (by omega)
  omega

theorem sg_tdiv (n : Bool) (a b : Nat) : sg n (a / b) = (sg n a).tdiv b := by
  cases n
  · show ((a / b : Nat) : Int) = (a : Int).tdiv b
    rw [Int.tdiv_eq_ediv_of_nonneg (by omega)]; rfl
  · show -((a / b : Nat) : Int) = (-(a : Int)).tdiv b
    rw [Int.neg_tdiv, Int.tdiv_eq_ediv_of_nonneg (by omega)]; rfl
theorem sg_tmod (n : Bool) (a b : Nat) : sg n (a % b) = (sg n a).tmod b := by
  cases n
  · show ((a % b : Nat) : Int) = (a : Int).tmod b
    rw [Int.tmod_eq_emod_of_nonneg (by omega)]; rfl
  · show -((a % b : Nat) : Int) = (-(a : Int)).tmod b
    rw [Int.neg_tmod, Int.tmod_eq_emod_of_nonneg (by omega)]; rfl

theorem quoRem_big (pz px py pr : Nat) (z r x y : Int) (w : World) (hz : BigIs w pz z) (hr : BigIs w pr r) (hne : pz ≠ pr) (hx : BigIs w px x) (hy : BigIs w py y) (bx : Few x) (y0 : 0 < y) (y1 : y < 4294967296) :
    Calls Tryz.prog 41 #[.pointer (some ⟨pz, 0, none⟩), .pointer (some ⟨px, 0, none⟩), .pointer (some ⟨py, 0, none⟩), .pointer (some ⟨pr, 0, none⟩)] w fun e w' => e = .returned (.tuple #[.pointer (some ⟨pz, 0, none⟩), .pointer (some ⟨pr, 0, none⟩)]) ∧ Hid (QREnd w w' pz pr (x.tdiv y) (x.tmod y)) := by
  obtain ⟨nz, vz, hb, hv⟩ := hz.blk
  obtain ⟨nr, vr, hb2, hv2⟩ := hr.blk
  obtain ⟨nx, vx, lx, hx, ex⟩ := hx
  obtain ⟨ny, vy, ly, hy, ey⟩ := hy
  obtain ⟨l1, l2, l3⟩ := one_word hy.nrm hy.wd.ok y ey y0 y1
  have key := QuoRem_any pz px py pr nz nr nx ny vz vr vx vy lx ly w hb hv hb2 hv2 hne hx hy (by subst ex; exact few_words hx.nrm bx.1 bx.2) (.inl l1)
  subst l2
  have e0 : (nx != false) = nx := by cases nx <;> rfl
  have e1 : sg (nx != false) (val lx / val ly) = x.tdiv y := by rw [e0, ← ex, ← l3]; exact sg_tdiv _ _ _
  have e2 : sg nx (val lx % val ly) = x.tmod y := by rw [← ex, ← l3]; exact sg_tmod _ _ _
  rw [e1, e2] at key
  exact key

/-- The quotient rounded down, and its rest, by the quotient rounded to nought. -/
theorem floor_of (x y : Int) (h : 0 < y) : (x.tmod y < 0 → x / y = x.tdiv y - 1 ∧ x % y = x.tmod y + y) ∧ (¬ x.tmod y < 0 → x / y = x.tdiv y ∧ x % y = x.tmod y) := by
  have e1 := Int.mul_tdiv_add_tmod x y
  have e2 := Int.mul_ediv_add_emod x y
  have b1 := Int.emod_nonneg x (b := y) (by omega)
  have b2 := Int.emod_lt_of_pos x h
  have b3 : -y < x.tmod y ∧ x.tmod y < y := by
    rcases Int.le_total 0 x with hx | hx
    · have := Int.tmod_nonneg y hx
      have := Int.tmod_lt_of_pos x h
      omega
    · have h1 := Int.tmod_nonneg y (a := -x) (by omega)
      have h2 := Int.tmod_lt_of_pos (-x) h
      rw [Int.neg_tmod] at h1 h2
      omega
  generalize x.tdiv y = q at *
  generalize x.tmod y = r at *
  generalize x / y = Q at *
  generalize x % y = R at *
  have key : ∀ k : Int, y * Q - y * q = y * k → -y < y * k - 0 → True := fun _ _ _ => trivial
  constructor
  · intro hr
    have : y * (Q - (q - 1)) = r + y - R := by rw [Int.mul_sub, Int.mul_sub, Int.mul_one]; omega
    have hk : Q - (q - 1) = 0 := by
      apply Classical.byContradiction
      intro hc
      rcases (by omega : Q - (q - 1) ≤ -1 ∨ 1 ≤ Q - (q - 1)) with h' | h'
      · have := Int.mul_le_mul_of_nonneg_left h' (by omega : 0 ≤ y); omega
      · have := Int.mul_le_mul_of_nonneg_left h' (by omega : 0 ≤ y); omega
    rw [hk] at this
    omega
  · intro hr
    have : y * (Q - q) = r - R := by rw [Int.mul_sub]; omega
    have hk : Q - q = 0 := by
      apply Classical.byContradiction
      intro hc
      rcases (by omega : Q - q ≤ -1 ∨ 1 ≤ Q - q) with h' | h'
      · have := Int.mul_le_mul_of_nonneg_left h' (by omega : 0 ≤ y); omega
      · have := Int.mul_le_mul_of_nonneg_left h' (by omega : 0 ≤ y); omega
    rw [hk] at this
    omega

theorem few_tdiv {x y : Int} (h : Few x) (hy : 0 < y) : Few (x.tdiv y) ∧ Few (x.tmod y) := by
  have b : ∀ a : Int, 0 ≤ a → 0 ≤ a.tdiv y ∧ a.tdiv y ≤ a ∧ 0 ≤ a.tmod y ∧ a.tmod y ≤ a := fun a ha => by
    rw [Int.tdiv_eq_ediv_of_nonneg ha, Int.tmod_eq_emod_of_nonneg ha]
    have h1 := Int.ediv_nonneg ha (by omega : 0 ≤ y)
    have h2 : a / y ≤ a := Int.ediv_le_self _ ha
    have h3 := Int.emod_nonneg a (b := y) (by omega)
    have h4 := Int.mul_ediv_add_emod a y
    have h5 := Int.mul_nonneg (by omega : 0 ≤ y) h1
    omega
  unfold Few at *
  rcases Int.le_total 0 x with hx | hx
  · have := b x hx; omega
  · have := b (-x) (by omega)
    rw [Int.neg_tdiv, Int.neg_tmod] at this
    omega

/-- What DivMod leaves. -/
def DMEnd (w w' : World) (pz pm : Nat) (X Y : Int) : Prop := BigIs w' pz X ∧ BigIs w' pm Y ∧ Grown2 w w' pz pm ∧ ∀ p x, p ≠ pz → p ≠ pm → BigIs w p x → BigIs w' p x

theorem Grown2.first {a b c : World} {p q : Nat} (h : a.grownBy b none) (k : Grown2 b c p q) : Grown2 a c p q :=
  ⟨k.os.trans h.os, k.tape.trans h.tape, k.output.trans h.output, Nat.le_trans h.size k.size, fun i hi hp hq => (k.block i (Nat.lt_of_lt_of_le hi h.size) hp hq).trans (h.block i hi (by simp))⟩
theorem Grown2.then {a b c : World} {p q r : Nat} (h : Grown2 a b p q) (k : b.grownBy c (some r)) (hr : r = p ∨ r = q ∨ a.heap.size ≤ r) : Grown2 a c p q :=
  ⟨k.os.trans h.os, k.tape.trans h.tape, k.output.trans h.output, Nat.le_trans h.size k.size, fun i hi hp hq => (k.block i (Nat.lt_of_lt_of_le hi h.size) (fun e => by have := Option.some.inj e; omega)).trans (h.block i hi hp hq)⟩
theorem Grown2.none {a b c : World} {p q : Nat} (h : Grown2 a b p q) (k : b.grownBy c none) : Grown2 a c p q :=
  ⟨k.os.trans h.os, k.tape.trans h.tape, k.output.trans h.output, Nat.le_trans h.size k.size, fun i hi hp hq => (k.block i (Nat.lt_of_lt_of_le hi h.size) (by simp)).trans (h.block i hi hp hq)⟩

end Go.Proofs.YtiolkeipgpkbmaaGreatDoor

namespace Go.Proofs.YtiolkeipgpkbmaaGreatDoor
set_option linter.unusedVariables false
set_option linter.unusedSimpArgs false
open Go.RowKit Big

/-- A number of 63 bits, no less than 0. -/
def Mid63 (x : Int) : Prop := 0 ≤ x ∧ x < 9223372036854775808
theorem Mid63.few {x : Int} (h : Mid63 x) : Few x := by unfold Mid63 at h; unfold Few; omega

theorem mid_open {w : World} {p : Nat} {x : Int} (h : BigIs w p x) (hm : Mid63 x) : ∃ v l, IsBig w p false v l ∧ (val l : Int) = x ∧ l.length ≤ 2 := by
  obtain ⟨n, v, l, hb, hx⟩ := h
  have hn : n = false := by
    cases n
    · rfl
    · have h0 := hb.sgn rfl
      have h1 := val_ge hb.nrm h0
      have h2 := Nat.pow_pos (n := l.length - 1) (by omega : 0 < 4294967296)
      have : sg true (val l) = -(val l : Int) := rfl
      rw [this] at hx
      have := hm.1
      omega
  subst hn
  have hv : (val l : Int) = x := hx
  exact ⟨v, l, hb, hv, len_two hb.wd.ok hb.nrm (by have := hm.2; omega)⟩

theorem quoRem_mid (pz px py pr : Nat) (z r x y : Int) (w : World) (hz : BigIs w pz z) (hr : BigIs w pr r) (hne : pz ≠ pr) (hx : BigIs w px x) (hy : BigIs w py y) (bx : Mid63 x) (by_ : Mid63 y) (y0 : 0 < y) :
    Calls Tryz.prog 41 #[.pointer (some ⟨pz, 0, none⟩), .pointer (some ⟨px, 0, none⟩), .pointer (some ⟨py, 0, none⟩), .pointer (some ⟨pr, 0, none⟩)] w fun e w' => e = .returned (.tuple #[.pointer (some ⟨pz, 0, none⟩), .pointer (some ⟨pr, 0, none⟩)]) ∧ Hid (QREnd w w' pz pr (x / y) (x % y)) := by
  obtain ⟨nz, vz, hb, hv⟩ := hz.blk
  obtain ⟨nr, vr, hb2, hv2⟩ := hr.blk
  obtain ⟨vx, lx, hx, ex, l2⟩ := mid_open hx bx
  obtain ⟨vy, ly, hy, ey, l3⟩ := mid_open hy by_
  have p0 : 0 < ly.length := by
    rcases Nat.eq_zero_or_pos ly.length with h | h
    · rw [List.eq_nil_of_length_eq_zero h] at ey; simp [val] at ey; omega
    · exact h
  have key := QuoRem_any pz px py pr nz nr false false vz vr vx vy lx ly w hb hv hb2 hv2 hne hx hy (by omega) (.inr ⟨p0, l2⟩)
  have e1 : sg (false != false) (val lx / val ly) = x / y := by rw [← ex, ← ey]; rfl
  have e2 : sg false (val lx % val ly) = x % y := by rw [← ex, ← ey]; rfl
  rw [e1, e2] at key
  exact key

theorem abs_big (pz px : Nat) (z x : Int) (w : World) (hz : BigIs w pz z) (hx : BigIs w px x) (bx : Mid63 x) :
    Calls Tryz.prog 42 #[.pointer (some ⟨pz, 0, none⟩), .pointer (some ⟨px, 0, none⟩)] w fun e w' => e = .returned (.pointer (some ⟨pz, 0, none⟩)) ∧ Hid (BigIs w' pz x ∧ w.grownBy w' (some pz)) := by
  obtain ⟨nz, vz, hb, hv⟩ := hz.blk
  obtain ⟨vx, lx, hx, ex, l2⟩ := mid_open hx bx
  have cx1 := blk_cell1 hx.blk
  have twinC : Hid (Calls Tryz.prog 82 #[vx] w fun e w' => ∃ v, e = .returned v ∧ Mid w w' false v lx (sg false (val lx))) := twin_mid false vx lx w w (grefl _ _) hx.wd hx.nrm (by omega)
  have giveC : Hid (∀ v w1, Mid w w1 false v lx (sg false (val lx)) → Calls Tryz.prog 79 #[.pointer (some ⟨pz, 0, none⟩), .bool false, v] w1 fun e w' => e = .returned (.pointer (some ⟨pz, 0, none⟩)) ∧ Hid (BigIs w' pz (sg false (val lx)) ∧ w.grownBy w' (some pz))) := fun v w1 h => give_mid pz false nz vz v lx _ w w1 hb hv h
  have eX : sg false (val lx) = x := ex
  rw [eX] at twinC giveC
  obtain ⟨a, cap, rfl⟩ := hx.wd.slice
  clear hb hv hx ex eX hz
  go_enter Tryz.func42, Tryz.ntmps42
  go_wp2_with fail
  refine twinC.out.mono ?_
  rintro e w1 ⟨v, rfl, hm⟩
  have Hm : Hid (Mid w w1 false v lx x) := hm
  clear hm
  go_wp2_with fail
  refine (giveC.out v w1 Hm.out).mono ?_
  rintro e w2 ⟨rfl, hR⟩
  clear Hm giveC twinC
  go_wp2
  go_ret
  exact ⟨rfl, hR⟩

set_option maxHeartbeats 1000000 in
theorem cmp_big (px py : Nat) (x y : Int) (w : World) (hx : BigIs w px x) (hy : BigIs w py y) (bx : Mid63 x) (by_ : Mid63 y) :
    Calls Tryz.prog 46 #[.pointer (some ⟨px, 0, none⟩), .pointer (some ⟨py, 0, none⟩)] w fun e w' => e = .returned (.int .i64 (cmpV x.toNat y.toNat)) ∧ ∃ n, w' = w.drewN n := by
  obtain ⟨vx, lx, hx, ex, l2⟩ := mid_open hx bx
  obtain ⟨vy, ly, hy, ey, l3⟩ := mid_open hy by_
  have e1 : x.toNat = val lx := by omega
  have e2 : y.toNat = val ly := by omega
  rw [e1, e2]
  have cx0 := blk_cell0 hx.blk
  have cx1 := blk_cell1 hx.blk
  have cy0 := blk_cell0 hy.blk
  have cy1 := blk_cell1 hy.blk
  have C : Hid (∀ W, (∃ n, W = w.drewN n) → Calls Tryz.prog 86 #[vx, vy] W fun e w' => e = .returned (.int .i64 (cmpV (val lx) (val ly))) ∧ ∃ n, w' = W.drewN n) := fun W hW => by
    obtain ⟨n, rfl⟩ := hW
    exact cmp_any vx vy lx ly (w.drewN n) (hx.wd.grow (gdrewN (grefl _ _) n)) (hy.wd.grow (gdrewN (grefl _ _) n)) hx.nrm hy.nrm
  obtain ⟨a1, c1, rfl⟩ := hx.wd.slice
  obtain ⟨a2, c2, rfl⟩ := hy.wd.slice
  clear hx hy ex ey e1 e2 bx by_
  generalize cmpV (val lx) (val ly) = c at *
  go_enter Tryz.func46, Tryz.ntmps46
  go_wp2
  go_quiet (fail)
  go_wp2
  refine wp_region_any (by kernel_rfl) ?_
  refine wpAny_take (i := 0) (v := .pointer (some ⟨px, 0, none⟩)) rfl (by kernel_rfl) (by kernel_rfl) (by kernel_rfl) (fun _ _ _ h => h) (Or.inl ⟨by rfl, fun w => by go_simp⟩) ?_
  simp only [Act.put, List.setIfInBounds_toArray, List.set_cons_zero, List.set_cons_succ]
  refine wpAny_take (i := 1) (v := .pointer (some ⟨px, 0, none⟩)) rfl (by kernel_rfl) (by kernel_rfl) (by kernel_rfl) (fun _ _ _ h => h) (Or.inl ⟨by rfl, fun w => by go_simp⟩) ?_
  simp only [Act.put, List.setIfInBounds_toArray, List.set_cons_zero, List.set_cons_succ]
  refine wpAny_take (i := 2) (v := .pointer (some ⟨px, 1, none⟩)) rfl (by kernel_rfl) (by kernel_rfl) (by kernel_rfl) (fun _ _ _ h => h) (Or.inl ⟨by rfl, fun w => by go_simp⟩) ?_
  simp only [Act.put, List.setIfInBounds_toArray, List.set_cons_zero, List.set_cons_succ]
  refine wpAny_take (i := 4) (v := .pointer (some ⟨py, 0, none⟩)) rfl (by kernel_rfl) (by kernel_rfl) (by kernel_rfl) (fun _ _ _ h => h) (Or.inl ⟨by rfl, fun w => by go_simp⟩) ?_
  simp only [Act.put, List.setIfInBounds_toArray, List.set_cons_zero, List.set_cons_succ]
  refine wpAny_take (i := 5) (v := .pointer (some ⟨py, 0, none⟩)) rfl (by kernel_rfl) (by kernel_rfl) (by kernel_rfl) (fun _ _ _ h => h) (Or.inl ⟨by rfl, fun w => by go_simp⟩) ?_
  simp only [Act.put, List.setIfInBounds_toArray, List.set_cons_zero, List.set_cons_succ]
  refine wpAny_take (i := 6) (v := .pointer (some ⟨py, 1, none⟩)) rfl (by kernel_rfl) (by kernel_rfl) (by kernel_rfl) (fun _ _ _ h => h) (Or.inl ⟨by rfl, fun w => by go_simp⟩) ?_
  simp only [Act.put, List.setIfInBounds_toArray, List.set_cons_zero, List.set_cons_succ]
  refine any_of_L (g := 8) (T := fun w' => w' = (w.drewN nq).drew) _ _ _ _ ?_
  refine L_take (i := 3) (v := .slice a1 lx.length c1) rfl rfl (by kernel_rfl) (by decide) (by kernel_rfl) (by kernel_rfl) (by kernel_rfl) (by kernel_rfl) (fun _ _ _ h => h) (Or.inl ⟨by rfl, fun w' hw' => by subst hw'; go_simp⟩) rfl ?_
  simp only [Act.put, List.setIfInBounds_toArray, List.set_cons_zero, List.set_cons_succ]
  refine L_take (i := 7) (v := .slice a2 ly.length c2) rfl rfl (by kernel_rfl) (by decide) (by kernel_rfl) (by kernel_rfl) (by kernel_rfl) (by kernel_rfl) (fun _ _ _ h => h) (Or.inl ⟨by rfl, fun w' hw' => by subst hw'; go_simp⟩) rfl ?_
  simp only [Act.put, List.setIfInBounds_toArray, List.set_cons_zero, List.set_cons_succ]
  refine L_go (by kernel_rfl) (by kernel_rfl) ?_
  refine wpOp_step rfl (fun K hK => ?_)
  rw [if_pos (by rfl)]
  go_wp2_with fail
  refine (C.out _ ⟨nq + 1, rfl⟩).mono ?_
  rintro e w1 ⟨rfl, m, hw⟩
  have HW : Hid (w1 = w.drewN (nq + 1 + m)) := by
    unfold Hid
    rw [hw]
    exact drew2 w (nq + 1) m
  have cz : w1.cell? ⟨px, 0, none⟩ = some (.bool false) := by rw [HW.out]; exact cx0
  clear hw
  refine hK _ _ ?_
  clear hK K C cx1 cy1 cy0
  refine any_one (i := 9) (by kernel_rfl) ?_
  refine wpOp_step rfl (fun K hK => ?_)
  rw [if_pos (by rfl)]
  have hK' : Shut (∀ a w, wpAny _ _ _ _ _ _ a w → K a w) := hK
  clear hK
  go_wp2
  refine hK'.out _ _ ?_
  clear hK' K
  refine wpAny_done (by kernel_rfl) ?_ _
  go_wp2
  go_ret
  exact ⟨rfl, _, HW.out⟩
end Go.Proofs.YtiolkeipgpkbmaaGreatDoor

namespace Go.Proofs.YtiolkeipgpkbmaaGreatDoor
set_option linter.unusedVariables false
set_option linter.unusedSimpArgs false
open Go.RowKit Big

theorem div_any3 (va vb : Value) (a b : List Nat) (w : World) (ha : Wd w va a) (hb : Wd w vb b) (na : Nrm a) (nb : Nrm b) (h1 : 0 < b.length ∧ b.length ≤ 2) (hl : a.length ≤ 3) :
    Calls Tryz.prog 81 #[va, vb] w (DivEnd w (val a) (val b)) := by
  by_cases c0 : b.length = 1 ∨ (0 < b.length ∧ a.length ≤ 2)
  · exact div_any2 va vb a b w ha hb na nb c0 (by omega)
  · by_cases c1 : val a < val b
    · exact div_less va vb a b w ha hb na nb h1.1 (by omega) c1
    · exact div_long va vb a b w ha hb na nb (by omega) (by omega) (by omega)
set_option maxHeartbeats 4000000 in
theorem QuoRem_three (pz px py pr : Nat) (nz nr nx ny : Bool) (vz vr vx vy : Value) (lx ly : List Nat) (w : World) (hz : w.heap[pz]? = some (.cells #[.bool nz, vz] 83 (0, 0))) (hzi : ∀ k n, vz ≠ .int k n)
    (hr : w.heap[pr]? = some (.cells #[.bool nr, vr] 83 (0, 0))) (hri : ∀ k n, vr ≠ .int k n) (hne : pz ≠ pr)
    (hx : IsBig w px nx vx lx) (hy : IsBig w py ny vy ly) (h1 : lx.length ≤ 3) (h2 : 0 < ly.length ∧ ly.length ≤ 2) :
    Calls Tryz.prog 41 #[.pointer (some ⟨pz, 0, none⟩), .pointer (some ⟨px, 0, none⟩), .pointer (some ⟨py, 0, none⟩), .pointer (some ⟨pr, 0, none⟩)] w fun e w' => e = .returned (.tuple #[.pointer (some ⟨pz, 0, none⟩), .pointer (some ⟨pr, 0, none⟩)]) ∧ Hid (QREnd w w' pz pr (sg (nx != ny) (val lx / val ly)) (sg nx (val lx % val ly))) := by
  have cx0 := blk_cell0 hx.blk
  have cx1 := blk_cell1 hx.blk
  have cy0 := blk_cell0 hy.blk
  have cy1 := blk_cell1 hy.blk
  have divC : Hid (∀ W, w.grownBy W none → Calls Tryz.prog 81 #[vx, vy] W (DivEnd w (val lx) (val ly))) := fun W hW => by
    refine (div_any3 vx vy lx ly W (hx.wd.grow hW) (hy.wd.grow hW) hx.nrm hy.nrm h2 h1).mono ?_
    rintro e w' ⟨q, r, lq, lr, rfl, hR⟩
    obtain ⟨a1, a2, a3, a4, a5, a6, a7⟩ := hR.out
    exact ⟨q, r, lq, lr, rfl, a1, a2, a3, a4, a5, a6, gtrans hW a7⟩
  have G1 : Hid (∀ w1 q lq, w.grownBy w1 none → Wd w1 q lq → Nrm lq → Calls Tryz.prog 79 #[.pointer (some ⟨pz, 0, none⟩), .bool (nx != ny), q] w1 fun e w' => e = .returned (.pointer (some ⟨pz, 0, none⟩)) ∧ IsBig w' pz ((nx != ny) && decide (0 < lq.length)) q lq ∧ w1.grownBy w' (some pz)) := fun w1 q lq hg hq hn => give_any pz (nx != ny) nz vz q lq w1 ((hg.block pz (blk_lt hz) (by simp)).trans hz) hzi hq hn
  have G2 : Hid (∀ w1 w2 r lr, w.grownBy w1 none → w1.grownBy w2 (some pz) → Wd w2 r lr → Nrm lr → Calls Tryz.prog 79 #[.pointer (some ⟨pr, 0, none⟩), .bool nx, r] w2 fun e w' => e = .returned (.pointer (some ⟨pr, 0, none⟩)) ∧ IsBig w' pr (nx && decide (0 < lr.length)) r lr ∧ w2.grownBy w' (some pr)) := fun w1 w2 r lr hg hg2 hq hn =>
    give_any pr nx nr vr r lr w2 ((hg2.block pr (Nat.lt_of_lt_of_le (blk_lt hr) hg.size) (fun e => hne (Option.some.inj e).symm)).trans ((hg.block pr (blk_lt hr) (by simp)).trans hr)) hri hq hn
  have Fin : Hid (∀ w1 w2 w3 q r lq lr, w.grownBy w1 none → w1.grownBy w2 (some pz) → w2.grownBy w3 (some pr) → IsBig w2 pz ((nx != ny) && decide (0 < lq.length)) q lq → IsBig w3 pr (nx && decide (0 < lr.length)) r lr → val lq = val lx / val ly → val lr = val lx % val ly → QREnd w w3 pz pr (sg (nx != ny) (val lx / val ly)) (sg nx (val lx % val ly))) := by
    intro w1 w2 w3 q r lq lr g1 g2 g3 b1 b2 e1 e2
    have hz1 := (g1.block pz (blk_lt hz) (by simp)).trans hz
    have hr2 := (g2.block pr (Nat.lt_of_lt_of_le (blk_lt hr) g1.size) (fun e => hne (Option.some.inj e).symm)).trans ((g1.block pr (blk_lt hr) (by simp)).trans hr)
    refine ⟨⟨_, q, lq, b1.keepBy hne hr2 hri g3, ?_⟩, ⟨_, r, lr, b2, ?_⟩, grown2_of g1 g2 g3, fun p x hp hq hb => ?_⟩
    · rw [sg_cut _ _ _ (fun h => by rw [List.eq_nil_of_length_eq_zero h]; rfl), e1]
    · rw [sg_cut _ _ _ (fun h => by rw [List.eq_nil_of_length_eq_zero h]; rfl), e2]
    · exact ((hb.growBy g1).keepBy hp hz1 hzi g2).keepBy hq hr2 hri g3
  have KW : Hid (∀ w1 w2 r lr, w.grownBy w1 none → w1.grownBy w2 (some pz) → Wd w1 r lr → Wd w2 r lr) := fun w1 w2 r lr g1 g2 hw => hw.keepP ((g1.block pz (blk_lt hz) (by simp)).trans hz) hzi g2
  have gx1 : Hid (∀ w', w.grownBy w' none → w'.cell? ⟨px, 1, none⟩ = some vx) := fun w' h => h.cell cx1 (by simp)
  have gy1 : Hid (∀ w', w.grownBy w' none → w'.cell? ⟨py, 1, none⟩ = some vy) := fun w' h => h.cell cy1 (by simp)
  clear hz hzi hr hri hx hy h1 h2 cx1 cy1
  generalize sg (nx != ny) (val lx / val ly) = X at *
  generalize sg nx (val lx % val ly) = Y at *
  go_enter Tryz.func41, Tryz.ntmps41
  go_wp2
  go_quiet (fail)
  go_wp2
  have hgn : Hid (w.grownBy (w.drewN nq).drew none) := ⟨rfl, rfl, rfl, Nat.le_refl _, fun _ _ _ => rfl⟩
  clear cx0 cy0
  refine wp_region_any (by kernel_rfl) ?_
  refine wpAny_take (i := 0) (v := .pointer (some ⟨px, 0, none⟩)) rfl (by kernel_rfl) (by kernel_rfl) (by kernel_rfl) (fun _ _ _ h => h) (Or.inl ⟨by rfl, fun w => by go_simp⟩) ?_
  simp only [Act.put, List.setIfInBounds_toArray, List.set_cons_zero, List.set_cons_succ]
  refine wpAny_take (i := 1) (v := .pointer (some ⟨px, 0, none⟩)) rfl (by kernel_rfl) (by kernel_rfl) (by kernel_rfl) (fun _ _ _ h => h) (Or.inl ⟨by rfl, fun w => by go_simp⟩) ?_
  simp only [Act.put, List.setIfInBounds_toArray, List.set_cons_zero, List.set_cons_succ]
  refine wpAny_take (i := 2) (v := .pointer (some ⟨px, 1, none⟩)) rfl (by kernel_rfl) (by kernel_rfl) (by kernel_rfl) (fun _ _ _ h => h) (Or.inl ⟨by rfl, fun w => by go_simp⟩) ?_
  simp only [Act.put, List.setIfInBounds_toArray, List.set_cons_zero, List.set_cons_succ]
  refine wpAny_take (i := 4) (v := .pointer (some ⟨py, 0, none⟩)) rfl (by kernel_rfl) (by kernel_rfl) (by kernel_rfl) (fun _ _ _ h => h) (Or.inl ⟨by rfl, fun w => by go_simp⟩) ?_
  simp only [Act.put, List.setIfInBounds_toArray, List.set_cons_zero, List.set_cons_succ]
  refine wpAny_take (i := 5) (v := .pointer (some ⟨py, 0, none⟩)) rfl (by kernel_rfl) (by kernel_rfl) (by kernel_rfl) (fun _ _ _ h => h) (Or.inl ⟨by rfl, fun w => by go_simp⟩) ?_
  simp only [Act.put, List.setIfInBounds_toArray, List.set_cons_zero, List.set_cons_succ]
  refine wpAny_take (i := 6) (v := .pointer (some ⟨py, 1, none⟩)) rfl (by kernel_rfl) (by kernel_rfl) (by kernel_rfl) (fun _ _ _ h => h) (Or.inl ⟨by rfl, fun w => by go_simp⟩) ?_
  simp only [Act.put, List.setIfInBounds_toArray, List.set_cons_zero, List.set_cons_succ]
  refine any_of_L (g := 8) (T := fun w' => w.grownBy w' none) _ _ _ _ ?_
  refine L_take (i := 3) (v := vx) rfl rfl (by kernel_rfl) (by decide) (by kernel_rfl) (by kernel_rfl) (by kernel_rfl) (by kernel_rfl) (fun _ _ _ h => h) (Or.inl ⟨by rfl, fun w' hw' => by have c := gx1.out w' hw'; go_simp⟩) hgn.out ?_
  simp only [Act.put, List.setIfInBounds_toArray, List.set_cons_zero, List.set_cons_succ]
  refine L_take (i := 7) (v := vy) rfl rfl (by kernel_rfl) (by decide) (by kernel_rfl) (by kernel_rfl) (by kernel_rfl) (by kernel_rfl) (fun _ _ _ h => h) (Or.inl ⟨by rfl, fun w' hw' => by have c := gy1.out w' hw'; go_simp⟩) hgn.out ?_
  simp only [Act.put, List.setIfInBounds_toArray, List.set_cons_zero, List.set_cons_succ]
  refine L_go (by kernel_rfl) (by kernel_rfl) ?_
  refine wpOp_step rfl (fun K hK => ?_)
  rw [if_pos (by rfl)]
  go_wp2_with fail
  refine (divC.out _ hgn.out).mono ?_
  rintro e w1 ⟨q, r, lq, lr, rfl, hD⟩
  refine hK _ _ ?_
  clear hK K divC gx1 gy1 hgn
  refine wpAny_take (i := 9) (v := .tuple #[q, r]) rfl (by kernel_rfl) (by kernel_rfl) (by kernel_rfl) (fun _ _ _ h => h) (Or.inl ⟨by rfl, fun w => by go_simp⟩) ?_
  simp only [Act.put, List.setIfInBounds_toArray, List.set_cons_zero, List.set_cons_succ]
  refine wpAny_take (i := 10) (v := q) rfl (by kernel_rfl) (by kernel_rfl) (by kernel_rfl) (fun _ _ _ h => h) (Or.inl ⟨by rfl, fun w => by go_simp⟩) ?_
  simp only [Act.put, List.setIfInBounds_toArray, List.set_cons_zero, List.set_cons_succ]
  refine wpAny_take (i := 11) (v := r) rfl (by kernel_rfl) (by kernel_rfl) (by kernel_rfl) (fun _ _ _ h => h) (Or.inl ⟨by rfl, fun w => by go_simp⟩) ?_
  simp only [Act.put, List.setIfInBounds_toArray, List.set_cons_zero, List.set_cons_succ]
  refine any_one (i := 12) (by kernel_rfl) ?_
  refine wpOp_step rfl (fun K hK => ?_)
  rw [if_pos (by rfl)]
  have hK' : Shut (∀ a w, wpAny _ _ _ _ _ _ a w → K a w) := hK
  clear hK
  go_wp2
  refine hK'.out _ _ ?_
  clear hK' K
  refine any_one (i := 13) (by kernel_rfl) ?_
  refine wpOp_step rfl (fun K hK => ?_)
  rw [if_pos (by rfl)]
  have hK' : Shut (∀ a w, wpAny _ _ _ _ _ _ a w → K a w) := hK
  clear hK
  go_wp2
  refine hK'.out _ _ ?_
  clear hK' K
  refine wpAny_done (by kernel_rfl) ?_ _
  go_wp2_with fail
  refine (G1.out w1 q lq hD.out.2.2.2.2.2.2 hD.out.1 hD.out.2.2.1).mono ?_
  rintro e w2 ⟨rfl, b1, g2⟩
  have H1 : Hid (IsBig w2 pz ((nx != ny) && decide (0 < lq.length)) q lq ∧ w1.grownBy w2 (some pz)) := ⟨b1, g2⟩
  clear b1 g2 G1
  go_wp2_with fail
  refine (G2.out w1 w2 r lr hD.out.2.2.2.2.2.2 H1.out.2 (KW.out w1 w2 r lr hD.out.2.2.2.2.2.2 H1.out.2 hD.out.2.1) hD.out.2.2.2.1).mono ?_
  rintro e w3 ⟨rfl, b2, g3⟩
  have H2 : Hid (QREnd w w3 pz pr X Y) := Fin.out w1 w2 w3 q r lq lr hD.out.2.2.2.2.2.2 H1.out.2 g3 H1.out.1 b2 hD.out.2.2.2.2.1 hD.out.2.2.2.2.2.1
  clear b2 g3 G2 Fin KW H1 hD
  go_wp2
  go_ret2
  exact ⟨rfl, H2⟩
theorem len_three {l : List Nat} (hn : Nrm l) (h2 : val l < 79228162514264337593543950336) : l.length ≤ 3 := by
  rcases Nat.eq_zero_or_pos l.length with h0 | h0
  · omega
  · have h3 := val_ge hn h0
    apply Classical.byContradiction
    intro hc
    have h4 : 4294967296 ^ 3 ≤ 4294967296 ^ (l.length - 1) := Nat.pow_le_pow_right (by omega) (by omega)
    have h5 : (4294967296 : Nat) ^ 3 = 79228162514264337593543950336 := by decide
    omega
theorem sg_abs (n : Bool) (a : Nat) (x : Int) (h : sg n a = x) : (a : Int) = x ∨ (a : Int) = -x := by
  cases n
  · exact .inl h
  · right
    have : sg true a = -(a : Int) := rfl
    omega
theorem quoRem_long (pz px py pr : Nat) (z r x y : Int) (w : World) (hz : BigIs w pz z) (hr : BigIs w pr r) (hne : pz ≠ pr) (hx : BigIs w px x) (hy : BigIs w py y) (bx : -79228162514264337593543950336 < x ∧ x < 79228162514264337593543950336) (y0 : 0 < y) (y1 : y < 18446744073709551616) :
    Calls Tryz.prog 41 #[.pointer (some ⟨pz, 0, none⟩), .pointer (some ⟨px, 0, none⟩), .pointer (some ⟨py, 0, none⟩), .pointer (some ⟨pr, 0, none⟩)] w fun e w' => e = .returned (.tuple #[.pointer (some ⟨pz, 0, none⟩), .pointer (some ⟨pr, 0, none⟩)]) ∧ Hid (QREnd w w' pz pr (x.tdiv y) (x.tmod y)) := by
  obtain ⟨nz, vz, hb, hv⟩ := hz.blk
  obtain ⟨nr, vr, hb2, hv2⟩ := hr.blk
  obtain ⟨nx, vx, lx, hx, ex⟩ := hx
  obtain ⟨ny, vy, ly, hy, ey⟩ := hy
  have hny : ny = false := by
    cases ny
    · rfl
    · have : sg true (val ly) = -(val ly : Int) := rfl
      omega
  subst hny
  have ey' : (val ly : Int) = y := ey
  have hly : 0 < ly.length ∧ ly.length ≤ 2 := by
    refine ⟨?_, len_two hy.wd.ok hy.nrm (by omega)⟩
    rcases Nat.eq_zero_or_pos ly.length with h0 | h0
    · rw [List.eq_nil_of_length_eq_zero h0] at ey'
      have : val [] = 0 := rfl
      omega
    · exact h0
  have hlx : lx.length ≤ 3 := len_three hx.nrm (by rcases sg_abs nx (val lx) x ex with h | h <;> omega)
  have key := QuoRem_three pz px py pr nz nr nx false vz vr vx vy lx ly w hb hv hb2 hv2 hne hx hy hlx hly
  have e0 : (nx != false) = nx := by cases nx <;> rfl
  have e1 : sg (nx != false) (val lx / val ly) = x.tdiv y := by rw [e0, ← ex, ← ey']; exact sg_tdiv _ _ _
  have e2 : sg nx (val lx % val ly) = x.tmod y := by rw [← ex, ← ey']; exact sg_tmod _ _ _
  rw [e1, e2] at key
  exact key
end Go.Proofs.YtiolkeipgpkbmaaGreatDoor

namespace Go.Proofs.YtiolkeipgpkbmaaGreatDoor
set_option linter.unusedVariables false
set_option linter.unusedSimpArgs false
set_option maxRecDepth 100000
open Go.RowKit Big

def sgnJ (x : Int) : Int := if x = 0 then 0 else if x < 0 then -1 else 1
theorem signJ_big (p : Nat) (x : Int) (w : World) (h : BigIs w p x) :
    Calls Tryz.prog 45 #[.pointer (some ⟨p, 0, none⟩)] w fun e w' => e = .returned (.int .i64 (sgnJ x)) ∧ w' = w := by
  obtain ⟨neg, v, l, hb, rfl⟩ := h
  have := sign_any p neg v l w hb
  have e : sgnV neg (val l) = sgnJ (sg neg (val l)) := by
    unfold sgnV sgnJ sg
    cases neg
    · by_cases h0 : val l = 0
      · simp [h0]
      · simp [h0] <;> omega
    · by_cases h0 : val l = 0
      · simp [h0]
      · simp [h0] <;> omega
  rw [e] at this
  exact this
theorem absJ_big (p : Nat) (x : Int) (w : World) (h : BigIs w p x) (bx : Few x) :
    Calls Tryz.prog 42 #[.pointer (some ⟨p, 0, none⟩), .pointer (some ⟨p, 0, none⟩)] w fun e w' => e = .returned (.pointer (some ⟨p, 0, none⟩)) ∧ Hid (BigIs w' p (if x < 0 then -x else x) ∧ w.grownBy w' (some p)) := by
  obtain ⟨neg, v, l, hb, hx⟩ := h
  have hl : l.length < 35184372088832 := by subst hx; exact few_words hb.nrm bx.1 bx.2
  have c1 := blk_cell1 hb.blk
  have HT : Hid (Calls _ _ _ _ _) := twin_any v l w hb.wd hl
  have e : sg false (val l) = if x < 0 then -x else x := by
    have h1 : sg false (val l) = (val l : Int) := rfl
    rw [h1, ← hx]
    cases neg
    · have : sg false (val l) = (val l : Int) := rfl
      rw [this, if_neg (by omega)]
    · have : sg true (val l) = -(val l : Int) := rfl
      rw [this]
      split <;> omega
  have HGv : Hid (∀ w1 v1, Wd w1 v1 l → w.grownBy w1 none → Calls Tryz.prog 79 #[.pointer (some ⟨p, 0, none⟩), .bool false, v1] w1 fun e w' => e = .returned (.pointer (some ⟨p, 0, none⟩)) ∧ Hid (BigIs w' p (if x < 0 then -x else x) ∧ w.grownBy w' (some p))) := fun w1 v1 h1 hg => by
    refine (give_any p false neg v v1 l w1 ((hg.block p (blk_lt hb.blk) (by simp)).trans hb.blk) hb.wd.noInt h1 hb.nrm).mono ?_
    rintro e' w' ⟨rfl, h2, h3⟩
    refine ⟨rfl, ⟨_, v1, l, h2, ?_⟩, ⟨h3.os.trans hg.os, h3.tape.trans hg.tape, h3.output.trans hg.output, Nat.le_trans hg.size h3.size, fun i hi hp => (h3.block i (Nat.lt_of_lt_of_le hi hg.size) hp).trans (hg.block i hi (by simp))⟩⟩
    rw [← e]; rfl
  obtain ⟨a, cap, rfl⟩ := hb.wd.slice
  clear hb hx e bx
  generalize (if x < 0 then -x else x) = ax at *
  go_enter Tryz.func42, Tryz.ntmps42
  go_wp2_with fail
  refine HT.out.mono ?_
  rintro e w1 ⟨v1, rfl, hw1⟩
  obtain ⟨a1, cap1, rfl⟩ := hw1.out.1.slice
  have HC : Hid (Calls _ _ _ _ _) := HGv.out w1 _ hw1.out.1 hw1.out.2
  clear HT HGv hw1
  go_wp2_with fail
  refine HC.out.mono ?_
  rintro e w2 ⟨rfl, hB⟩
  clear HC
  go_wp2
  go_ret
  exact ⟨rfl, hB⟩
/-- A number that is not negative, or -1. -/
def Mark (x : Int) : Prop := x = -1 ∨ Mid63 x
theorem mark_open {w : World} {p : Nat} (h : BigIs w p (-1)) : ∃ v, IsBig w p true v [1] := by
  obtain ⟨n, v, l, hb, hx⟩ := h
  have hn : n = true := by
    cases n
    · have : sg false (val l) = (val l : Int) := rfl
      omega
    · rfl
  subst hn
  have hv : val l = 1 := by
    have : sg true (val l) = -(val l : Int) := rfl
    omega
  have hl : l.length = 1 := by
    rcases Nat.eq_zero_or_pos l.length with h0 | h0
    · rw [List.eq_nil_of_length_eq_zero h0] at hv; simp [val] at hv
    · have h3 := val_ge hb.nrm h0
      apply Classical.byContradiction
      intro hc
      have h4 : 4294967296 ^ 1 ≤ 4294967296 ^ (l.length - 1) := Nat.pow_le_pow_right (by omega) (by omega)
      omega
  match l, hl with
  | [d], _ =>
    have : val [d] = d := by simp [val]
    rw [this] at hv
    subst hv
    exact ⟨v, hb⟩
end Go.Proofs.YtiolkeipgpkbmaaGreatDoor

namespace Go.Proofs.YtiolkeipgpkbmaaGreatDoor
set_option linter.unusedVariables false
set_option linter.unusedSimpArgs false
set_option maxRecDepth 100000
open Go.RowKit Big

/-- -1, 0 or 1. -/
def cmpJ (x y : Int) : Int := if x < y then -1 else if y < x then 1 else 0
theorem cmpJ_pos (x y : Int) : (0 < cmpJ x y) ↔ y < x := by
  unfold cmpJ
  split
  · omega
  · split <;> omega
theorem cmpJ_nat {x y : Int} (hx : 0 ≤ x) (hy : 0 ≤ y) : cmpV x.toNat y.toNat = cmpJ x y := by
  unfold cmpV cmpJ
  by_cases h : x < y
  · rw [if_pos h, if_pos (by omega)]
  · rw [if_neg h, if_neg (by omega)]
    by_cases h2 : y < x
    · rw [if_pos h2, if_pos (by omega)]
    · rw [if_neg h2, if_neg (by omega)]
set_option maxHeartbeats 1000000 in
theorem cmp_mark (px py : Nat) (x y : Int) (w : World) (hx : BigIs w px x) (hy : BigIs w py y) (bx : Mark x) (by_ : Mark y) :
    Calls Tryz.prog 46 #[.pointer (some ⟨px, 0, none⟩), .pointer (some ⟨py, 0, none⟩)] w fun e w' => e = .returned (.int .i64 (cmpJ x y)) ∧ ∃ n, w' = w.drewN n := by
  rcases bx with rfl | bx <;> rcases by_ with rfl | by_
  · obtain ⟨vx, hx⟩ := mark_open hx
    obtain ⟨vy, hy⟩ := mark_open hy
    have cx0 := blk_cell0 hx.blk
    have cx1 := blk_cell1 hx.blk
    have cy0 := blk_cell0 hy.blk
    have cy1 := blk_cell1 hy.blk
    have C : Hid (∀ W, (∃ n, W = w.drewN n) → Calls Tryz.prog 86 #[vx, vy] W fun e w' => e = .returned (.int .i64 0) ∧ ∃ n, w' = W.drewN n) := fun W hW => by
      obtain ⟨n, rfl⟩ := hW
      exact cmp_any vx vy [1] [1] (w.drewN n) (hx.wd.grow (gdrewN (grefl _ _) n)) (hy.wd.grow (gdrewN (grefl _ _) n)) hx.nrm hy.nrm
    obtain ⟨a1, c1, rfl⟩ := hx.wd.slice
    obtain ⟨a2, c2, rfl⟩ := hy.wd.slice
    have R : cmpJ (-1) (-1) = 0 := by unfold cmpJ; simp
    rw [R]
    clear hx hy R
    go_enter Tryz.func46, Tryz.ntmps46
    go_wp2
    go_quiet (fail)
    go_wp2
    refine wp_region_any (by kernel_rfl) ?_
    refine wpAny_take (i := 0) (v := .pointer (some ⟨px, 0, none⟩)) rfl (by kernel_rfl) (by kernel_rfl) (by kernel_rfl) (fun _ _ _ h => h) (Or.inl ⟨by rfl, fun w => by go_simp⟩) ?_
    simp only [Act.put, List.setIfInBounds_toArray, List.set_cons_zero, List.set_cons_succ]
    refine wpAny_take (i := 1) (v := .pointer (some ⟨px, 0, none⟩)) rfl (by kernel_rfl) (by kernel_rfl) (by kernel_rfl) (fun _ _ _ h => h) (Or.inl ⟨by rfl, fun w => by go_simp⟩) ?_
    simp only [Act.put, List.setIfInBounds_toArray, List.set_cons_zero, List.set_cons_succ]
    refine wpAny_take (i := 2) (v := .pointer (some ⟨px, 1, none⟩)) rfl (by kernel_rfl) (by kernel_rfl) (by kernel_rfl) (fun _ _ _ h => h) (Or.inl ⟨by rfl, fun w => by go_simp⟩) ?_
    simp only [Act.put, List.setIfInBounds_toArray, List.set_cons_zero, List.set_cons_succ]
    refine wpAny_take (i := 4) (v := .pointer (some ⟨py, 0, none⟩)) rfl (by kernel_rfl) (by kernel_rfl) (by kernel_rfl) (fun _ _ _ h => h) (Or.inl ⟨by rfl, fun w => by go_simp⟩) ?_
    simp only [Act.put, List.setIfInBounds_toArray, List.set_cons_zero, List.set_cons_succ]
    refine wpAny_take (i := 5) (v := .pointer (some ⟨py, 0, none⟩)) rfl (by kernel_rfl) (by kernel_rfl) (by kernel_rfl) (fun _ _ _ h => h) (Or.inl ⟨by rfl, fun w => by go_simp⟩) ?_
    simp only [Act.put, List.setIfInBounds_toArray, List.set_cons_zero, List.set_cons_succ]
    refine wpAny_take (i := 6) (v := .pointer (some ⟨py, 1, none⟩)) rfl (by kernel_rfl) (by kernel_rfl) (by kernel_rfl) (fun _ _ _ h => h) (Or.inl ⟨by rfl, fun w => by go_simp⟩) ?_
    simp only [Act.put, List.setIfInBounds_toArray, List.set_cons_zero, List.set_cons_succ]
    refine any_of_L (g := 8) (T := fun w' => w' = (w.drewN nq).drew) _ _ _ _ ?_
    refine L_take (i := 3) (v := .slice a1 1 c1) rfl rfl (by kernel_rfl) (by decide) (by kernel_rfl) (by kernel_rfl) (by kernel_rfl) (by kernel_rfl) (fun _ _ _ h => h) (Or.inl ⟨by rfl, fun w' hw' => by subst hw'; go_simp⟩) rfl ?_
    simp only [Act.put, List.setIfInBounds_toArray, List.set_cons_zero, List.set_cons_succ]
    refine L_take (i := 7) (v := .slice a2 1 c2) rfl rfl (by kernel_rfl) (by decide) (by kernel_rfl) (by kernel_rfl) (by kernel_rfl) (by kernel_rfl) (fun _ _ _ h => h) (Or.inl ⟨by rfl, fun w' hw' => by subst hw'; go_simp⟩) rfl ?_
    simp only [Act.put, List.setIfInBounds_toArray, List.set_cons_zero, List.set_cons_succ]
    refine L_go (by kernel_rfl) (by kernel_rfl) ?_
    refine wpOp_step rfl (fun K hK => ?_)
    rw [if_pos (by rfl)]
    go_wp2_with fail
    refine (C.out _ ⟨nq + 1, rfl⟩).mono ?_
    rintro e w1 ⟨rfl, m, hw⟩
    have HW : Hid (w1 = w.drewN (nq + 1 + m)) := by
      unfold Hid
      rw [hw]
      exact drew2 w (nq + 1) m
    have cz : w1.cell? ⟨px, 0, none⟩ = some (.bool true) := by rw [HW.out]; exact cx0
    clear hw
    refine hK _ _ ?_
    clear hK K C cx1 cy1 cy0
    refine any_one (i := 9) (by kernel_rfl) ?_
    refine wpOp_step rfl (fun K hK => ?_)
    rw [if_pos (by rfl)]
    have hK' : Shut (∀ a w, wpAny _ _ _ _ _ _ a w → K a w) := hK
    clear hK
    go_wp2
    refine hK'.out _ _ ?_
    clear hK' K
    refine wpAny_done (by kernel_rfl) ?_ _
    go_wp2
    go_ret
    exact ⟨rfl, _, HW.out⟩
  · obtain ⟨vx, hx⟩ := mark_open hx
    obtain ⟨vy, ly, hy, ey, l3⟩ := mid_open hy by_
    have cx0 := blk_cell0 hx.blk
    have cy0 := blk_cell0 hy.blk
    have R : cmpJ (-1) y = -1 := by unfold cmpJ; rw [if_pos (by have := by_.1; omega)]
    rw [R]
    clear hx hy R ey l3 by_
    go_enter Tryz.func46, Tryz.ntmps46
    go_wp2
    go_quiet (fail)
    go_wp2
    go_ret
    exact ⟨rfl, _, rfl⟩
  · obtain ⟨vy, hy⟩ := mark_open hy
    obtain ⟨vx, lx, hx, ex, l3⟩ := mid_open hx bx
    have cx0 := blk_cell0 hx.blk
    have cy0 := blk_cell0 hy.blk
    have R : cmpJ x (-1) = 1 := by
      have := bx.1
      unfold cmpJ; rw [if_neg (by omega), if_pos (by omega)]
    rw [R]
    clear hx hy R ex l3 bx
    go_enter Tryz.func46, Tryz.ntmps46
    go_wp2
    go_quiet (fail)
    go_wp2
    go_ret
    exact ⟨rfl, _, rfl⟩
  · rw [← cmpJ_nat bx.1 by_.1]
    exact cmp_big px py x y w hx hy bx by_
end Go.Proofs.YtiolkeipgpkbmaaGreatDoor
