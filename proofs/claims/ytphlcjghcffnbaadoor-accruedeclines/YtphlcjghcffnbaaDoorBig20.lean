/-
  Whole numbers by their values: the contracts of quarterdaybig's Sub, Mul, QuoRem, DivMod, Sign and Bit, for numbers of few words.
-/
import Derived.Test.YtphlcjghcffnbaaDoorBig19
import Derived.Test.YtphlcjghcffnbaaDoorBig16
import Derived.Test.YtphlcjghcffnbaaDoorRefSmall
namespace Go.Proofs.YtphlcjghcffnbaaDoor
set_option linter.unusedVariables false
open Go.RowKit Big

/-- A number of few words. -/
def Few (x : Int) : Prop := -340282366920938463463374607431768211456 < x ∧ x < 340282366920938463463374607431768211456

theorem BigIs.blk {w : World} {p : Nat} {x : Int} (h : BigIs w p x) : ∃ n v, w.heap[p]? = some (.cells #[.bool n, v] 40 (0, 0)) ∧ ∀ k i, v ≠ .int k i := by
  obtain ⟨n, v, l, hb, _⟩ := h
  exact ⟨n, v, hb.blk, hb.wd.noInt⟩
theorem BigIs.lt {w : World} {p : Nat} {x : Int} (h : BigIs w p x) : p < w.heap.size := by
  obtain ⟨n, v, hb, _⟩ := h.blk
  exact blk_lt hb
theorem BigIs.kept {w w' : World} {p q : Nat} {x y : Int} (h : BigIs w p x) (hne : p ≠ q) (hq : BigIs w q y) (hg : w.grownBy w' (some q)) : BigIs w' p x := by
  obtain ⟨n, v, hb, hv⟩ := hq.blk
  exact h.keepBy hne hb hv hg
theorem bigis_new (w : World) : BigIs (w.alloc (.cells #[.bool false, .slice none 0 0] 40)) w.heap.size 0 :=
  ⟨false, .slice none 0 0, [], ⟨alloc_blk _ _, wd_nil _ _ _, .inl rfl, fun h => by cases h⟩, rfl⟩

theorem sub_big (pz px py : Nat) (z x y : Int) (w : World) (hz : BigIs w pz z) (hx : BigIs w px x) (hy : BigIs w py y) (bx : Few x) (by_ : Few y) :
    Calls Tryd.prog 16 #[.pointer (some ⟨pz, 0, none⟩), .pointer (some ⟨px, 0, none⟩), .pointer (some ⟨py, 0, none⟩)] w fun e w' => e = .returned (.pointer (some ⟨pz, 0, none⟩)) ∧ Hid (BigIs w' pz (x - y) ∧ w.grownBy w' (some pz)) := by
  obtain ⟨nz, vz, hb, hv⟩ := hz.blk
  obtain ⟨nx, vx, lx, hx, rfl⟩ := hx
  obtain ⟨ny, vy, ly, hy, rfl⟩ := hy
  exact Sub_any pz px py nz nx ny vz vx vy lx ly w hb hv hx hy (few_words hx.nrm bx.1 bx.2) (few_words hy.nrm by_.1 by_.2)

theorem add_big (pz px py : Nat) (z x y : Int) (w : World) (hz : BigIs w pz z) (hx : BigIs w px x) (hy : BigIs w py y) (bx : Few x) (by_ : Few y) :
    Calls Tryd.prog 12 #[.pointer (some ⟨pz, 0, none⟩), .pointer (some ⟨px, 0, none⟩), .pointer (some ⟨py, 0, none⟩)] w fun e w' => e = .returned (.pointer (some ⟨pz, 0, none⟩)) ∧ Hid (BigIs w' pz (x + y) ∧ w.grownBy w' (some pz)) := by
  obtain ⟨nz, vz, hb, hv⟩ := hz.blk
  obtain ⟨nx, vx, lx, hx, rfl⟩ := hx
  obtain ⟨ny, vy, ly, hy, rfl⟩ := hy
  exact Add_any pz px py nz nx ny vz vx vy lx ly w hb hv hx hy (few_words hx.nrm bx.1 bx.2) (few_words hy.nrm by_.1 by_.2)

theorem mul_big (pz px py : Nat) (z x y : Int) (w : World) (hz : BigIs w pz z) (hx : BigIs w px x) (hy : BigIs w py y) (bx : Few x) (by_ : Few y) :
    Calls Tryd.prog 11 #[.pointer (some ⟨pz, 0, none⟩), .pointer (some ⟨px, 0, none⟩), .pointer (some ⟨py, 0, none⟩)] w fun e w' => e = .returned (.pointer (some ⟨pz, 0, none⟩)) ∧ Hid (BigIs w' pz (x * y) ∧ w.grownBy w' (some pz)) := by
  obtain ⟨nz, vz, hb, hv⟩ := hz.blk
  obtain ⟨nx, vx, lx, hx, rfl⟩ := hx
  obtain ⟨ny, vy, ly, hy, rfl⟩ := hy
  exact Mul_any pz px py nz nx ny vz vx vy lx ly w hb hv hx hy (few_words hx.nrm bx.1 bx.2) (few_words hy.nrm by_.1 by_.2)

theorem set_big (pz px : Nat) (z x : Int) (w : World) (hz : BigIs w pz z) (hx : BigIs w px x) (bx : Few x) :
    Calls Tryd.prog 27 #[.pointer (some ⟨pz, 0, none⟩), .pointer (some ⟨px, 0, none⟩)] w fun e w' => e = .returned (.pointer (some ⟨pz, 0, none⟩)) ∧ Hid (BigIs w' pz x ∧ w.grownBy w' (some pz)) := by
  obtain ⟨nz, vz, hb, hv⟩ := hz.blk
  obtain ⟨nx, vx, lx, hx, rfl⟩ := hx
  exact Set_any pz px nz nx vz vx lx w hb hv hx (few_words hx.nrm bx.1 bx.2)

/-- A number's sign is told by its first cell. -/
theorem BigIs.neg {w : World} {p : Nat} {x : Int} (h : BigIs w p x) : w.cell? ⟨p, 0, none⟩ = some (.bool (decide (x < 0))) := by
  obtain ⟨n, v, l, hb, rfl⟩ := h
  rw [blk_cell0 hb.blk]
  have : n = decide (sg n (val l) < 0) := by
    cases n
    · simp [sg]
    · have h0 := hb.sgn rfl
      have h1 := val_ge hb.nrm h0
      have h2 := Nat.pow_pos (n := l.length - 1) (by omega : 0 < 4294967296)
      simp [sg]; omega
  rw [← this]

theorem one_word {n : Bool} {l : List Nat} (hn : Nrm l) (ho : Ok l) (y : Int) (h : sg n (val l) = y) (h0 : 0 < y) (h1 : y < 4294967296) : l.length = 1 ∧ n = false ∧ (val l : Int) = y := by
  have hf : n = false := by
    cases n
    · rfl
    · simp [sg] at h; omega
  subst hf
  have hv : (val l : Int) = y := by simpa [sg] using h
  refine ⟨?_, rfl, hv⟩
  have p0 : 0 < l.length := by
    rcases Nat.eq_zero_or_pos l.length with h | h
    · rw [List.eq_nil_of_length_eq_zero h] at hv; simp [val] at hv; omega
    · exact h
  have h2 := val_ge hn p0
  apply Classical.byContradiction
  intro hc
  have h3 : 4294967296 ^ 1 ≤ 4294967296 ^ (l.length - 1) := Nat.pow_le_pow_right (by omega) (by omega)
  omega

theorem sg_tdiv (n : Bool) (a b : Nat) : sg n (a / b) = (sg n a).tdiv b := by
  cases n
  · show ((a / b : Nat) : Int) = (a : Int).tdiv b
    rw [Int.tdiv_eq_ediv_of_nonneg (by omega)]; rfl
  · show -((a / b : Nat) : Int) = (-(a : Int)).tdiv b
    rw [Int.neg_tdiv, Int.tdiv_eq_ediv_of_nonneg (by omega)]; rfl
theorem sg_tmod (n : Bool) (a b : Nat) : sg n (a % b) = (sg n a).tmod b := by
  cases n
  · show ((a % b : Nat) : Int) = (a : Int).tmod b
    rw [Int.tmod_eq_emod_of_nonneg (by omega)]; rfl
  · show -((a % b : Nat) : Int) = (-(a : Int)).tmod b
    rw [Int.neg_tmod, Int.tmod_eq_emod_of_nonneg (by omega)]; rfl

theorem quoRem_big (pz px py pr : Nat) (z r x y : Int) (w : World) (hz : BigIs w pz z) (hr : BigIs w pr r) (hne : pz ≠ pr) (hx : BigIs w px x) (hy : BigIs w py y) (bx : Few x) (y0 : 0 < y) (y1 : y < 4294967296) :
    Calls Tryd.prog 28 #[.pointer (some ⟨pz, 0, none⟩), .pointer (some ⟨px, 0, none⟩), .pointer (some ⟨py, 0, none⟩), .pointer (some ⟨pr, 0, none⟩)] w fun e w' => e = .returned (.tuple #[.pointer (some ⟨pz, 0, none⟩), .pointer (some ⟨pr, 0, none⟩)]) ∧ Hid (QREnd w w' pz pr (x.tdiv y) (x.tmod y)) := by
  obtain ⟨nz, vz, hb, hv⟩ := hz.blk
  obtain ⟨nr, vr, hb2, hv2⟩ := hr.blk
  obtain ⟨nx, vx, lx, hx, ex⟩ := hx
  obtain ⟨ny, vy, ly, hy, ey⟩ := hy
  obtain ⟨l1, l2, l3⟩ := one_word hy.nrm hy.wd.ok y ey y0 y1
  have key := QuoRem_any pz px py pr nz nr nx ny vz vr vx vy lx ly w hb hv hb2 hv2 hne hx hy (by subst ex; exact few_words hx.nrm bx.1 bx.2) (.inl l1)
  subst l2
  have e0 : (nx != false) = nx := by cases nx <;> rfl
  have e1 : sg (nx != false) (val lx / val ly) = x.tdiv y := by rw [e0, ← ex, ← l3]; exact sg_tdiv _ _ _
  have e2 : sg nx (val lx % val ly) = x.tmod y := by rw [← ex, ← l3]; exact sg_tmod _ _ _
  rw [e1, e2] at key
  exact key

/-- The quotient rounded down, and its rest, by the quotient rounded to nought. -/
theorem floor_of (x y : Int) (h : 0 < y) : (x.tmod y < 0 → x / y = x.tdiv y - 1 ∧ x % y = x.tmod y + y) ∧ (¬ x.tmod y < 0 → x / y = x.tdiv y ∧ x % y = x.tmod y) := by
  have e1 := Int.mul_tdiv_add_tmod x y
  have e2 := Int.mul_ediv_add_emod x y
  have b1 := Int.emod_nonneg x (b := y) (by omega)
  have b2 := Int.emod_lt_of_pos x h
  have b3 : -y < x.tmod y ∧ x.tmod y < y := by
    rcases Int.le_total 0 x with hx | hx
    · have := Int.tmod_nonneg y hx
      have := Int.tmod_lt_of_pos x h
      omega
    · have h1 := Int.tmod_nonneg y (a := -x) (by omega)
      have h2 := Int.tmod_lt_of_pos (-x) h
      rw [Int.neg_tmod] at h1 h2
      omega
  generalize x.tdiv y = q at *
  generalize x.tmod y = r at *
  generalize x / y = Q at *
  generalize x % y = R at *
  have key : ∀ k : Int, y * Q - y * q = y * k → -y < y * k - 0 → True := fun _ _ _ => trivial
  constructor
  · intro hr
    have : y * (Q - (q - 1)) = r + y - R := by rw [Int.mul_sub, Int.mul_sub, Int.mul_one]; omega
    have hk : Q - (q - 1) = 0 := by
      apply Classical.byContradiction
      intro hc
      rcases (by omega : Q - (q - 1) ≤ -1 ∨ 1 ≤ Q - (q - 1)) with h' | h'
      · have := Int.mul_le_mul_of_nonneg_left h' (by omega : 0 ≤ y); omega
      · have := Int.mul_le_mul_of_nonneg_left h' (by omega : 0 ≤ y); omega
    rw [hk] at this
    omega
  · intro hr
    have : y * (Q - q) = r - R := by rw [Int.mul_sub]; omega
    have hk : Q - q = 0 := by
      apply Classical.byContradiction
      intro hc
      rcases (by omega : Q - q ≤ -1 ∨ 1 ≤ Q - q) with h' | h'
      · have := Int.mul_le_mul_of_nonneg_left h' (by omega : 0 ≤ y); omega
      · have := Int.mul_le_mul_of_nonneg_left h' (by omega : 0 ≤ y); omega
    rw [hk] at this
    omega

theorem few_tdiv {x y : Int} (h : Few x) (hy : 0 < y) : Few (x.tdiv y) ∧ Few (x.tmod y) := by
  have b : ∀ a : Int, 0 ≤ a → 0 ≤ a.tdiv y ∧ a.tdiv y ≤ a ∧ 0 ≤ a.tmod y ∧ a.tmod y ≤ a := fun a ha => by
    rw [Int.tdiv_eq_ediv_of_nonneg ha, Int.tmod_eq_emod_of_nonneg ha]
    have h1 := Int.ediv_nonneg ha (by omega : 0 ≤ y)
    have h2 : a / y ≤ a := Int.ediv_le_self _ ha
    have h3 := Int.emod_nonneg a (b := y) (by omega)
    have h4 := Int.mul_ediv_add_emod a y
    have h5 := Int.mul_nonneg (by omega : 0 ≤ y) h1
    omega
  unfold Few at *
  rcases Int.le_total 0 x with hx | hx
  · have := b x hx; omega
  · have := b (-x) (by omega)
    rw [Int.neg_tdiv, Int.neg_tmod] at this
    omega

/-- What DivMod leaves. -/
def DMEnd (w w' : World) (pz pm : Nat) (X Y : Int) : Prop := BigIs w' pz X ∧ BigIs w' pm Y ∧ Grown2 w w' pz pm ∧ ∀ p x, p ≠ pz → p ≠ pm → BigIs w p x → BigIs w' p x

theorem Grown2.first {a b c : World} {p q : Nat} (h : a.grownBy b none) (k : Grown2 b c p q) : Grown2 a c p q :=
  ⟨k.os.trans h.os, k.tape.trans h.tape, k.output.trans h.output, Nat.le_trans h.size k.size, fun i hi hp hq => (k.block i (Nat.lt_of_lt_of_le hi h.size) hp hq).trans (h.block i hi (by simp))⟩
theorem Grown2.then {a b c : World} {p q r : Nat} (h : Grown2 a b p q) (k : b.grownBy c (some r)) (hr : r = p ∨ r = q ∨ a.heap.size ≤ r) : Grown2 a c p q :=
  ⟨k.os.trans h.os, k.tape.trans h.tape, k.output.trans h.output, Nat.le_trans h.size k.size, fun i hi hp hq => (k.block i (Nat.lt_of_lt_of_le hi h.size) (fun e => by have := Option.some.inj e; omega)).trans (h.block i hi hp hq)⟩
theorem Grown2.none {a b c : World} {p q : Nat} (h : Grown2 a b p q) (k : b.grownBy c none) : Grown2 a c p q :=
  ⟨k.os.trans h.os, k.tape.trans h.tape, k.output.trans h.output, Nat.le_trans h.size k.size, fun i hi hp hq => (k.block i (Nat.lt_of_lt_of_le hi h.size) (by simp)).trans (h.block i hi hp hq)⟩

set_option maxHeartbeats 2000000 in
theorem divMod_big (pz px py pm : Nat) (z m x y : Int) (w : World) (hz : BigIs w pz z) (hm : BigIs w pm m) (hne : pz ≠ pm) (hx : BigIs w px x) (hy : BigIs w py y) (bx : Few x) (y0 : 0 < y) (y1 : y < 4294967296) :
    Calls Tryd.prog 13 #[.pointer (some ⟨pz, 0, none⟩), .pointer (some ⟨px, 0, none⟩), .pointer (some ⟨py, 0, none⟩), .pointer (some ⟨pm, 0, none⟩)] w fun e w' => e = .returned (.tuple #[.pointer (some ⟨pz, 0, none⟩), .pointer (some ⟨pm, 0, none⟩)]) ∧ Hid (DMEnd w w' pz pm (x / y) (x % y)) := by
  have fy : Few y := by unfold Few; omega
  obtain ⟨f1, f2⟩ := few_tdiv bx y0
  obtain ⟨fl1, fl2⟩ := floor_of x y y0
  have ga := World.grownBy_alloc w (.cells #[.bool false, .slice none 0 0] 40) Option.none
  have s1 : Hid (Calls Tryd.prog 27 #[.pointer (some ⟨w.heap.size, 0, none⟩), .pointer (some ⟨py, 0, none⟩)] (w.alloc (.cells #[.bool false, .slice none 0 0] 40)) fun e w' => e = .returned (.pointer (some ⟨w.heap.size, 0, none⟩)) ∧ Hid (BigIs w' w.heap.size y ∧ w.grownBy w' none)) := by
    refine (set_big w.heap.size py 0 y _ (bigis_new w) (hy.growBy ga) fy).mono ?_
    rintro e w' ⟨rfl, hR⟩
    exact ⟨rfl, hR.out.1, gnew hR.out.2⟩
  have s2 : Hid (∀ w1, w.grownBy w1 none → Calls Tryd.prog 28 #[.pointer (some ⟨pz, 0, none⟩), .pointer (some ⟨px, 0, none⟩), .pointer (some ⟨py, 0, none⟩), .pointer (some ⟨pm, 0, none⟩)] w1 fun e w' => e = .returned (.tuple #[.pointer (some ⟨pz, 0, none⟩), .pointer (some ⟨pm, 0, none⟩)]) ∧ Hid (QREnd w1 w' pz pm (x.tdiv y) (x.tmod y))) := fun w1 g1 =>
    quoRem_big pz px py pm z m x y w1 (hz.growBy g1) (hm.growBy g1) hne (hx.growBy g1) (hy.growBy g1) bx y0 y1
  have lz := hz.lt
  have lm := hm.lt
  have K0 : Hid (∀ w1 p x, w.grownBy w1 none → BigIs w p x → BigIs w1 p x) := fun w1 p x g h => h.growBy g
  clear hz hm hx hy bx ga
  generalize x.tdiv y = q at *
  generalize x.tmod y = r at *
  generalize x / y = Q at *
  generalize x % y = R at *
  by_cases hneg : r < 0
  · obtain ⟨eQ, eR⟩ := fl1 hneg
    subst eQ
    subst eR
    clear fl1 fl2
    have dn : decide (r < 0) = true := decide_eq_true hneg
    have dy : decide (y < 0) = false := decide_eq_false (by omega)
    go_enter Tryd.func13, Tryd.ntmps13
    go_wp2_with fail
    refine s1.out.mono ?_
    rintro e w1 ⟨rfl, H1⟩
    clear s1
    go_wp2_with fail
    refine (s2.out w1 H1.out.2).mono ?_
    rintro e w2 ⟨rfl, H2⟩
    clear s2
    have d2 := H2.out.2.2.2 w.heap.size y (by omega) (by omega) H1.out.1
    have c1 := H2.out.2.1.neg
    have c2 := d2.neg
    rw [dn] at c1
    rw [dy] at c2
    have HD2 : Hid (BigIs w2 w.heap.size y) := d2
    clear d2
    go_wp2_with fail
    refine (newInt_any 1 w2 (by omega) (by omega)).mono ?_
    rintro e w3 ⟨rfl, b3, g3⟩
    have l2 : w.heap.size < w2.heap.size := HD2.out.lt
    have H3 : Hid (BigIs w3 w2.heap.size 1 ∧ w2.grownBy w3 Option.none) := ⟨b3, g3⟩
    clear b3 g3 c1 c2
    go_wp2_with fail
    refine (sub_big pz pz w2.heap.size q q 1 w3 (H2.out.1.growBy H3.out.2) (H2.out.1.growBy H3.out.2) H3.out.1 f1 (by unfold Few; omega)).mono ?_
    rintro e w4 ⟨rfl, H4⟩
    have m3 : Hid (BigIs w3 pm r) := H2.out.2.1.growBy H3.out.2
    have d3 : Hid (BigIs w3 w.heap.size y) := HD2.out.growBy H3.out.2
    have m4 : Hid (BigIs w4 pm r) := m3.out.kept (Ne.symm hne) (H2.out.1.growBy H3.out.2) H4.out.2
    have d4 : Hid (BigIs w4 w.heap.size y) := d3.out.kept (by omega) (H2.out.1.growBy H3.out.2) H4.out.2
    go_wp2_with fail
    refine (add_big pm pm w.heap.size r r y w4 m4.out m4.out d4.out f2 fy).mono ?_
    rintro e w5 ⟨rfl, H5⟩
    have R : Hid (DMEnd w w5 pz pm (q - 1) (r + y)) := by
      refine ⟨H4.out.1.kept hne m4.out H5.out.2, H5.out.1, ?_, fun p x hp hq hb => ?_⟩
      · exact (((Grown2.first H1.out.2 H2.out.2.2.1).none H3.out.2).then H4.out.2 (.inl rfl)).then H5.out.2 (.inr (.inl rfl))
      · have k2 := H2.out.2.2.2 p x hp hq (K0.out w1 p x H1.out.2 hb)
        exact ((k2.growBy H3.out.2).kept hp (H2.out.1.growBy H3.out.2) H4.out.2).kept hq m4.out H5.out.2
    clear H1 H2 H3 H4 H5 HD2 m3 d3 m4 d4 K0
    go_wp2
    go_ret2
    exact ⟨rfl, R⟩
  · obtain ⟨eQ, eR⟩ := fl2 hneg
    subst eQ
    subst eR
    clear fl1 fl2
    have dn : decide (R < 0) = false := decide_eq_false hneg
    go_enter Tryd.func13, Tryd.ntmps13
    go_wp2_with fail
    refine s1.out.mono ?_
    rintro e w1 ⟨rfl, H1⟩
    clear s1
    go_wp2_with fail
    refine (s2.out w1 H1.out.2).mono ?_
    rintro e w2 ⟨rfl, H2⟩
    clear s2
    have c1 := H2.out.2.1.neg
    rw [dn] at c1
    have R' : Hid (DMEnd w w2 pz pm Q R) := ⟨H2.out.1, H2.out.2.1, Grown2.first H1.out.2 H2.out.2.2.1, fun p x hp hq hb => H2.out.2.2.2 p x hp hq (K0.out w1 p x H1.out.2 hb)⟩
    clear H1 H2 K0
    go_wp2
    go_ret2
    exact ⟨rfl, R'⟩
end Go.Proofs.YtphlcjghcffnbaaDoor
