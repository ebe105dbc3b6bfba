/-
  Numbers of few words, and the contract of dayref1's Small.
-/
import Derived.Test.YtiolkeipgpkbmaaGreatDoorZg7
import Derived.Test.YtiolkeipgpkbmaaGreatDoorZg8
import Derived.Test.YtiolkeipgpkbmaaGreatDoorZg0
import Derived.Deep.QuietTactic
import Derived.BigQuiet
import Derived.Test.YtiolkeipgpkbmaaGreatDoorZg6
import Derived.Test.YtiolkeipgpkbmaaGreatDoorZg3
namespace Go.Proofs.YtiolkeipgpkbmaaGreatDoor
set_option linter.unusedVariables false
set_option linter.unusedSimpArgs false
open Go.RowKit Big

set_option maxRecDepth 1000000 in
set_option maxHeartbeats 4000000 in
theorem div_word (va vb : Value) (a : List Nat) (d : Nat) (w : World) (ha : Wd w va a) (hb : Wd w vb [d]) (na : Nrm a) (hd : 0 < d) (hd2 : d < 4294967296) (hl : a.length < 35184372088832) (hl2 : 2 < a.length) (hge : d ≤ val a) :
    Calls Tryz.prog 81 #[va, vb] w (DivEnd w (val a) d) := by
  have vb1 : val [d] = d := by simp [val]
  have nb : Nrm [d] := .inr (by simp; omega)
  have Cm : Hid (∃ c : Int, (c = 0 ∨ c = 1) ∧ Calls Tryz.prog 86 #[va, vb] w fun e w' => e = .returned (.int .i64 c) ∧ ∃ n, w' = w.drewN n) := ⟨_, cmp_ge (by rw [vb1]; exact hge), cmp_any va vb a [d] w ha hb na nb⟩
  have Sm : Hid (∀ n, Calls Tryz.prog 110 #[va, .int .u32 (d : Int)] (w.drewN n) fun e w' => ∃ v l, e = .returned (.tuple #[v, .int .u32 ((val a % d : Nat) : Int)]) ∧ Wd w' v l ∧ Nrm l ∧ val l = val a / d ∧ w.grownBy w' none) := fun n => by
    refine (small_div va a d _ (ha.grow (gdrewN (grefl _ _) n)) hd hd2 hl).mono ?_
    rintro e w' ⟨v, l, rfl, h1, h2, h3, h4⟩
    exact ⟨v, l, rfl, h1, h2, h3, gtrans (gdrewN (grefl _ _) n) h4⟩
  obtain ⟨aa, ca, rfl, la, Oa, Fa⟩ := ha.form
  obtain ⟨ab, cb, rfl, lb, Ob, Fb⟩ := hb.form
  obtain ⟨bb, ob, rfl, hbb, hcb⟩ := Fb.out (by simp)
  have hb0 : w.cell? ⟨bb, ob, none⟩ = some (.int .u32 (d : Int)) := by simpa using hcb 0 (by simp)
  have n3 : (2 : Int) < a.length := by omega
  clear ha hb na nb hge Fa Fb Oa Ob hcb vb1 lb
  obtain ⟨c, hc, Cm⟩ := Cm.out
  have Cm2 : Hid (Calls Tryz.prog 86 #[.slice aa a.length ca, .slice (some ⟨bb, ob, none⟩) 1 cb] w fun e w' => e = .returned (.int .i64 c) ∧ ∃ n, w' = w.drewN n) := Cm
  clear Cm
  have rlt : val a % d < d := Nat.mod_lt _ hd
  generalize val a = x at *
  obtain ⟨r, hr⟩ : ∃ r, x % d = r := ⟨_, rfl⟩
  rw [hr] at Sm rlt
  have HR : Hid (x % d = r) := hr
  clear hr
  have Hr1 : Hid (r < 4294967296) := by unfold Hid; omega
  clear rlt
  simp only [List.length_singleton]
  rcases hc with rfl | rfl
  all_goals
    go_enter Tryz.func81, Tryz.ntmps81
    go_wp2_with fail
    refine Cm2.out.mono ?_
    rintro e w' ⟨rfl, n, hw⟩
    rw [hw]; clear hw w' Cm2
    go_wp2_with fail
    refine (Sm.out n).mono ?_
    rintro e w1 ⟨v1, l1, rfl, hv1, hn1, hl1, hg1⟩
    clear Sm
    have H1 : Hid (Wd w1 v1 l1 ∧ Nrm l1 ∧ val l1 = x / d ∧ w.grownBy w1 none) := ⟨hv1, hn1, hl1, hg1⟩
    clear hv1 hn1 hl1 hg1
    have Hrow : Hid (Wd (w1.alloc (.cells #[.int .u32 (r : Int)] 166)) (.slice (some ⟨w1.heap.size, 0, none⟩) 1 1) [r]) := by
      have := row_wd (w := w1.alloc (.cells #[.int .u32 (r : Int)] 166)) (g := w1.heap.size) (r := [r]) (by unfold RowAt; rw [alloc_blk]; rfl) (fun i hi => by simp at hi; subst hi; exact Hr1.out) (by simp) 1 (by simp)
      exact this
    go_wp2_with fail
    refine (trim_any _ [r] _ Hrow.out).mono ?_
    rintro e w' ⟨⟨v', rfl, hv⟩, hw⟩
    rw [hw]; clear hw w' Hrow
    have R : Hid (Wd (w1.alloc (.cells #[.int .u32 (r : Int)] 166)) v1 l1 ∧ Wd (w1.alloc (.cells #[.int .u32 (r : Int)] 166)) v' ([r].take (tl [r] [r].length)) ∧ Nrm l1 ∧ Nrm ([r].take (tl [r] [r].length)) ∧ val l1 = x / d ∧ val ([r].take (tl [r] [r].length)) = x % d ∧ w.grownBy (w1.alloc (.cells #[.int .u32 (r : Int)] 166)) none) := by
      refine ⟨H1.out.1.grow (World.grownBy_alloc _ _ _), hv, H1.out.2.1, nrm_tl _ _ (Nat.le_refl _), H1.out.2.2.1, ?_, gtrans H1.out.2.2.2 (World.grownBy_alloc _ _ _)⟩
      rw [val_tl _ _ (Nat.le_refl _), List.take_length, HR.out]; simp [val]
    clear hv H1
    go_wp2
    go_ret2
    exact ⟨_, _, _, _, rfl, R⟩

/-- A divisor of one word. -/
theorem div_any1 (va vb : Value) (a b : List Nat) (w : World) (ha : Wd w va a) (hb : Wd w vb b) (na : Nrm a) (nb : Nrm b) (h1 : b.length = 1) (hl : a.length < 35184372088832) :
    Calls Tryz.prog 81 #[va, vb] w (DivEnd w (val a) (val b)) := by
  by_cases c1 : val a < val b
  · exact div_less va vb a b w ha hb na nb (by omega) hl c1
  by_cases c2 : a.length ≤ 2
  · exact div_two va vb a b w ha hb na nb (by omega) c2 (by omega)
  match b, h1 with
  | [d], _ =>
    have e : val [d] = d := by simp [val]
    have hd : 0 < d := by
      rcases nb with h | h
      · simp at h
      · simp at h; omega
    have hd2 : d < 4294967296 := by simpa using hb.ok 0 (by simp)
    rw [e] at c1 ⊢
    exact div_word va vb a d w ha hb na hd hd2 hl (by omega) (by omega)
/-- A divisor of one word, or both of two words at most. -/
theorem div_any2 (va vb : Value) (a b : List Nat) (w : World) (ha : Wd w va a) (hb : Wd w vb b) (na : Nrm a) (nb : Nrm b) (h1 : b.length = 1 ∨ (0 < b.length ∧ a.length ≤ 2)) (hl : a.length < 35184372088832) :
    Calls Tryz.prog 81 #[va, vb] w (DivEnd w (val a) (val b)) := by
  rcases h1 with h1 | ⟨h1, h2⟩
  · exact div_any1 va vb a b w ha hb na nb h1 hl
  · by_cases c1 : val a < val b
    · exact div_less va vb a b w ha hb na nb h1 hl c1
    · exact div_two va vb a b w ha hb na nb h1 h2 (by omega)

theorem IsBig.keepBy {w w' : World} {p q : Nat} {neg n0 : Bool} {v u : Value} {l : List Nat} (h : IsBig w p neg v l) (hne : p ≠ q) (hq : w.heap[q]? = some (.cells #[.bool n0, u] 83 (0, 0))) (hu : ∀ k n, u ≠ .int k n) (hg : w.grownBy w' (some q)) : IsBig w' p neg v l :=
  ⟨(hg.block p (blk_lt h.blk) (fun e => hne (Option.some.inj e))).trans h.blk, h.wd.keepP hq hu hg, h.nrm, h.sgn⟩
theorem BigIs.keepBy {w w' : World} {p q : Nat} {n0 : Bool} {u : Value} {x : Int} (h : BigIs w p x) (hne : p ≠ q) (hq : w.heap[q]? = some (.cells #[.bool n0, u] 83 (0, 0))) (hu : ∀ k n, u ≠ .int k n) (hg : w.grownBy w' (some q)) : BigIs w' p x := by
  obtain ⟨neg, v, l, hb, hx⟩ := h
  exact ⟨neg, v, l, hb.keepBy hne hq hu hg, hx⟩
theorem IsBig.growBy {w w' : World} {p : Nat} {neg : Bool} {v : Value} {l : List Nat} (h : IsBig w p neg v l) (hg : w.grownBy w' none) : IsBig w' p neg v l :=
  ⟨(hg.block p (blk_lt h.blk) (by simp)).trans h.blk, h.wd.grow hg, h.nrm, h.sgn⟩
theorem BigIs.growBy {w w' : World} {p : Nat} {x : Int} (h : BigIs w p x) (hg : w.grownBy w' none) : BigIs w' p x := by
  obtain ⟨neg, v, l, hb, hx⟩ := h
  exact ⟨neg, v, l, hb.growBy hg, hx⟩

theorem twin_mid (nx : Bool) (vx : Value) (lx : List Nat) (w W : World) (hW : w.grownBy W none) (hx : Wd w vx lx) (kx : Nrm lx) (h1 : lx.length < 35184372088832) :
    Calls Tryz.prog 82 #[vx] W fun e w' => ∃ v, e = .returned v ∧ Mid w w' nx v lx (sg nx (val lx)) := by
  refine (twin_any vx lx W (hx.grow hW) h1).mono ?_
  rintro e w1 ⟨v, rfl, hR⟩
  exact ⟨v, rfl, hR.out.1, kx, rfl, gtrans hW hR.out.2⟩

end Go.Proofs.YtiolkeipgpkbmaaGreatDoor

namespace Go.Proofs.YtiolkeipgpkbmaaGreatDoor
set_option linter.unusedVariables false
set_option linter.unusedSimpArgs false
open Go.RowKit Big

/-- Nothing that was there is written but two blocks. -/
structure Grown2 (w w' : World) (p q : Nat) : Prop where
  os : w'.os = w.os
  tape : w'.tape = w.tape
  output : w'.output = w.output
  size : w.heap.size ≤ w'.heap.size
  block : ∀ i, i < w.heap.size → i ≠ p → i ≠ q → w'.heap[i]? = w.heap[i]?

theorem grown2_of {a b c d : World} {p q : Nat} (h1 : a.grownBy b none) (h2 : b.grownBy c (some p)) (h3 : c.grownBy d (some q)) : Grown2 a d p q :=
  ⟨h3.os.trans (h2.os.trans h1.os), h3.tape.trans (h2.tape.trans h1.tape), h3.output.trans (h2.output.trans h1.output), Nat.le_trans h1.size (Nat.le_trans h2.size h3.size), fun i hi hp hq => by
    rw [h3.block i (Nat.lt_of_lt_of_le hi (Nat.le_trans h1.size h2.size)) (fun e => hq (Option.some.inj e)), h2.block i (Nat.lt_of_lt_of_le hi h1.size) (fun e => hp (Option.some.inj e)), h1.block i hi (by simp)]⟩

/-- What QuoRem leaves. -/
def QREnd (w w' : World) (pz pr : Nat) (X Y : Int) : Prop := BigIs w' pz X ∧ BigIs w' pr Y ∧ Grown2 w w' pz pr ∧ ∀ p x, p ≠ pz → p ≠ pr → BigIs w p x → BigIs w' p x

set_option maxHeartbeats 4000000 in
theorem QuoRem_any (pz px py pr : Nat) (nz nr nx ny : Bool) (vz vr vx vy : Value) (lx ly : List Nat) (w : World) (hz : w.heap[pz]? = some (.cells #[.bool nz, vz] 83 (0, 0))) (hzi : ∀ k n, vz ≠ .int k n)
    (hr : w.heap[pr]? = some (.cells #[.bool nr, vr] 83 (0, 0))) (hri : ∀ k n, vr ≠ .int k n) (hne : pz ≠ pr)
    (hx : IsBig w px nx vx lx) (hy : IsBig w py ny vy ly) (h1 : lx.length < 35184372088832) (h2 : ly.length = 1 ∨ (0 < ly.length ∧ lx.length ≤ 2)) :
    Calls Tryz.prog 41 #[.pointer (some ⟨pz, 0, none⟩), .pointer (some ⟨px, 0, none⟩), .pointer (some ⟨py, 0, none⟩), .pointer (some ⟨pr, 0, none⟩)] w fun e w' => e = .returned (.tuple #[.pointer (some ⟨pz, 0, none⟩), .pointer (some ⟨pr, 0, none⟩)]) ∧ Hid (QREnd w w' pz pr (sg (nx != ny) (val lx / val ly)) (sg nx (val lx % val ly))) := by
  have cx0 := blk_cell0 hx.blk
  have cx1 := blk_cell1 hx.blk
  have cy0 := blk_cell0 hy.blk
  have cy1 := blk_cell1 hy.blk
  have divC : Hid (∀ W, w.grownBy W none → Calls Tryz.prog 81 #[vx, vy] W (DivEnd w (val lx) (val ly))) := fun W hW => by
    refine (div_any2 vx vy lx ly W (hx.wd.grow hW) (hy.wd.grow hW) hx.nrm hy.nrm h2 h1).mono ?_
    rintro e w' ⟨q, r, lq, lr, rfl, hR⟩
    obtain ⟨a1, a2, a3, a4, a5, a6, a7⟩ := hR.out
    exact ⟨q, r, lq, lr, rfl, a1, a2, a3, a4, a5, a6, gtrans hW a7⟩
  have G1 : Hid (∀ w1 q lq, w.grownBy w1 none → Wd w1 q lq → Nrm lq → Calls Tryz.prog 79 #[.pointer (some ⟨pz, 0, none⟩), .bool (nx != ny), q] w1 fun e w' => e = .returned (.pointer (some ⟨pz, 0, none⟩)) ∧ IsBig w' pz ((nx != ny) && decide (0 < lq.length)) q lq ∧ w1.grownBy w' (some pz)) := fun w1 q lq hg hq hn => give_any pz (nx != ny) nz vz q lq w1 ((hg.block pz (blk_lt hz) (by simp)).trans hz) hzi hq hn
  have G2 : Hid (∀ w1 w2 r lr, w.grownBy w1 none → w1.grownBy w2 (some pz) → Wd w2 r lr → Nrm lr → Calls Tryz.prog 79 #[.pointer (some ⟨pr, 0, none⟩), .bool nx, r] w2 fun e w' => e = .returned (.pointer (some ⟨pr, 0, none⟩)) ∧ IsBig w' pr (nx && decide (0 < lr.length)) r lr ∧ w2.grownBy w' (some pr)) := fun w1 w2 r lr hg hg2 hq hn =>
    give_any pr nx nr vr r lr w2 ((hg2.block pr (Nat.lt_of_lt_of_le (blk_lt hr) hg.size) (fun e => hne (Option.some.inj e).symm)).trans ((hg.block pr (blk_lt hr) (by simp)).trans hr)) hri hq hn
  have Fin : Hid (∀ w1 w2 w3 q r lq lr, w.grownBy w1 none → w1.grownBy w2 (some pz) → w2.grownBy w3 (some pr) → IsBig w2 pz ((nx != ny) && decide (0 < lq.length)) q lq → IsBig w3 pr (nx && decide (0 < lr.length)) r lr → val lq = val lx / val ly → val lr = val lx % val ly → QREnd w w3 pz pr (sg (nx != ny) (val lx / val ly)) (sg nx (val lx % val ly))) := by
    intro w1 w2 w3 q r lq lr g1 g2 g3 b1 b2 e1 e2
    have hz1 := (g1.block pz (blk_lt hz) (by simp)).trans hz
    have hr2 := (g2.block pr (Nat.lt_of_lt_of_le (blk_lt hr) g1.size) (fun e => hne (Option.some.inj e).symm)).trans ((g1.block pr (blk_lt hr) (by simp)).trans hr)
    refine ⟨⟨_, q, lq, b1.keepBy hne hr2 hri g3, ?_⟩, ⟨_, r, lr, b2, ?_⟩, grown2_of g1 g2 g3, fun p x hp hq hb => ?_⟩
    · rw [sg_cut _ _ _ (fun h => by rw [List.eq_nil_of_length_eq_zero h]; rfl), e1]
    · rw [sg_cut _ _ _ (fun h => by rw [List.eq_nil_of_length_eq_zero h]; rfl), e2]
    · exact ((hb.growBy g1).keepBy hp hz1 hzi g2).keepBy hq hr2 hri g3
  have KW : Hid (∀ w1 w2 r lr, w.grownBy w1 none → w1.grownBy w2 (some pz) → Wd w1 r lr → Wd w2 r lr) := fun w1 w2 r lr g1 g2 hw => hw.keepP ((g1.block pz (blk_lt hz) (by simp)).trans hz) hzi g2
  have gx1 : Hid (∀ w', w.grownBy w' none → w'.cell? ⟨px, 1, none⟩ = some vx) := fun w' h => h.cell cx1 (by simp)
  have gy1 : Hid (∀ w', w.grownBy w' none → w'.cell? ⟨py, 1, none⟩ = some vy) := fun w' h => h.cell cy1 (by simp)
  clear hz hzi hr hri hx hy h1 h2 cx1 cy1
  generalize sg (nx != ny) (val lx / val ly) = X at *
  generalize sg nx (val lx % val ly) = Y at *
  go_enter Tryz.func41, Tryz.ntmps41
  go_wp2
  go_quiet (fail)
  go_wp2
  have hgn : Hid (w.grownBy (w.drewN nq).drew none) := ⟨rfl, rfl, rfl, Nat.le_refl _, fun _ _ _ => rfl⟩
  clear cx0 cy0
  refine wp_region_any (by kernel_rfl) ?_
  refine wpAny_take (i := 0) (v := .pointer (some ⟨px, 0, none⟩)) rfl (by kernel_rfl) (by kernel_rfl) (by kernel_rfl) (fun _ _ _ h => h) (Or.inl ⟨by rfl, fun w => by go_simp⟩) ?_
  simp only [Act.put, List.setIfInBounds_toArray, List.set_cons_zero, List.set_cons_succ]
  refine wpAny_take (i := 1) (v := .pointer (some ⟨px, 0, none⟩)) rfl (by kernel_rfl) (by kernel_rfl) (by kernel_rfl) (fun _ _ _ h => h) (Or.inl ⟨by rfl, fun w => by go_simp⟩) ?_
  simp only [Act.put, List.setIfInBounds_toArray, List.set_cons_zero, List.set_cons_succ]
  refine wpAny_take (i := 2) (v := .pointer (some ⟨px, 1, none⟩)) rfl (by kernel_rfl) (by kernel_rfl) (by kernel_rfl) (fun _ _ _ h => h) (Or.inl ⟨by rfl, fun w => by go_simp⟩) ?_
  simp only [Act.put, List.setIfInBounds_toArray, List.set_cons_zero, List.set_cons_succ]
  refine wpAny_take (i := 4) (v := .pointer (some ⟨py, 0, none⟩)) rfl (by kernel_rfl) (by kernel_rfl) (by kernel_rfl) (fun _ _ _ h => h) (Or.inl ⟨by rfl, fun w => by go_simp⟩) ?_
  simp only [Act.put, List.setIfInBounds_toArray, List.set_cons_zero, List.set_cons_succ]
  refine wpAny_take (i := 5) (v := .pointer (some ⟨py, 0, none⟩)) rfl (by kernel_rfl) (by kernel_rfl) (by kernel_rfl) (fun _ _ _ h => h) (Or.inl ⟨by rfl, fun w => by go_simp⟩) ?_
  simp only [Act.put, List.setIfInBounds_toArray, List.set_cons_zero, List.set_cons_succ]
  refine wpAny_take (i := 6) (v := .pointer (some ⟨py, 1, none⟩)) rfl (by kernel_rfl) (by kernel_rfl) (by kernel_rfl) (fun _ _ _ h => h) (Or.inl ⟨by rfl, fun w => by go_simp⟩) ?_
  simp only [Act.put, List.setIfInBounds_toArray, List.set_cons_zero, List.set_cons_succ]
  refine any_of_L (g := 8) (T := fun w' => w.grownBy w' none) _ _ _ _ ?_
  refine L_take (i := 3) (v := vx) rfl rfl (by kernel_rfl) (by decide) (by kernel_rfl) (by kernel_rfl) (by kernel_rfl) (by kernel_rfl) (fun _ _ _ h => h) (Or.inl ⟨by rfl, fun w' hw' => by have c := gx1.out w' hw'; go_simp⟩) hgn.out ?_
  simp only [Act.put, List.setIfInBounds_toArray, List.set_cons_zero, List.set_cons_succ]
  refine L_take (i := 7) (v := vy) rfl rfl (by kernel_rfl) (by decide) (by kernel_rfl) (by kernel_rfl) (by kernel_rfl) (by kernel_rfl) (fun _ _ _ h => h) (Or.inl ⟨by rfl, fun w' hw' => by have c := gy1.out w' hw'; go_simp⟩) hgn.out ?_
  simp only [Act.put, List.setIfInBounds_toArray, List.set_cons_zero, List.set_cons_succ]
  refine L_go (by kernel_rfl) (by kernel_rfl) ?_
  refine wpOp_step rfl (fun K hK => ?_)
  rw [if_pos (by rfl)]
  go_wp2_with fail
  refine (divC.out _ hgn.out).mono ?_
  rintro e w1 ⟨q, r, lq, lr, rfl, hD⟩
  refine hK _ _ ?_
  clear hK K divC gx1 gy1 hgn
  refine wpAny_take (i := 9) (v := .tuple #[q, r]) rfl (by kernel_rfl) (by kernel_rfl) (by kernel_rfl) (fun _ _ _ h => h) (Or.inl ⟨by rfl, fun w => by go_simp⟩) ?_
  simp only [Act.put, List.setIfInBounds_toArray, List.set_cons_zero, List.set_cons_succ]
  refine wpAny_take (i := 10) (v := q) rfl (by kernel_rfl) (by kernel_rfl) (by kernel_rfl) (fun _ _ _ h => h) (Or.inl ⟨by rfl, fun w => by go_simp⟩) ?_
  simp only [Act.put, List.setIfInBounds_toArray, List.set_cons_zero, List.set_cons_succ]
  refine wpAny_take (i := 11) (v := r) rfl (by kernel_rfl) (by kernel_rfl) (by kernel_rfl) (fun _ _ _ h => h) (Or.inl ⟨by rfl, fun w => by go_simp⟩) ?_
  simp only [Act.put, List.setIfInBounds_toArray, List.set_cons_zero, List.set_cons_succ]
  refine any_one (i := 12) (by kernel_rfl) ?_
  refine wpOp_step rfl (fun K hK => ?_)
  rw [if_pos (by rfl)]
  have hK' : Shut (∀ a w, wpAny _ _ _ _ _ _ a w → K a w) := hK
  clear hK
  go_wp2
  refine hK'.out _ _ ?_
  clear hK' K
  refine any_one (i := 13) (by kernel_rfl) ?_
  refine wpOp_step rfl (fun K hK => ?_)
  rw [if_pos (by rfl)]
  have hK' : Shut (∀ a w, wpAny _ _ _ _ _ _ a w → K a w) := hK
  clear hK
  go_wp2
  refine hK'.out _ _ ?_
  clear hK' K
  refine wpAny_done (by kernel_rfl) ?_ _
  go_wp2_with fail
  refine (G1.out w1 q lq hD.out.2.2.2.2.2.2 hD.out.1 hD.out.2.2.1).mono ?_
  rintro e w2 ⟨rfl, b1, g2⟩
  have H1 : Hid (IsBig w2 pz ((nx != ny) && decide (0 < lq.length)) q lq ∧ w1.grownBy w2 (some pz)) := ⟨b1, g2⟩
  clear b1 g2 G1
  go_wp2_with fail
  refine (G2.out w1 w2 r lr hD.out.2.2.2.2.2.2 H1.out.2 (KW.out w1 w2 r lr hD.out.2.2.2.2.2.2 H1.out.2 hD.out.2.1) hD.out.2.2.2.1).mono ?_
  rintro e w3 ⟨rfl, b2, g3⟩
  have H2 : Hid (QREnd w w3 pz pr X Y) := Fin.out w1 w2 w3 q r lq lr hD.out.2.2.2.2.2.2 H1.out.2 g3 H1.out.1 b2 hD.out.2.2.2.2.1 hD.out.2.2.2.2.2.1
  clear b2 g3 G2 Fin KW H1 hD
  go_wp2
  go_ret2
  exact ⟨rfl, H2⟩
end Go.Proofs.YtiolkeipgpkbmaaGreatDoor

namespace Go.Proofs.YtiolkeipgpkbmaaGreatDoor
set_option linter.unusedVariables false
open Go.RowKit Big

theorem val_setw (r : List Nat) (k d : Nat) (h : k < r.length) : val (r.set k d) + 4294967296 ^ k * r.getD k 0 = val r + 4294967296 ^ k * d := by
  have e1 := val_append (r.take (k + 1)) (r.drop (k + 1))
  rw [List.take_append_drop] at e1
  have e2 := val_append ((r.set k d).take (k + 1)) ((r.set k d).drop (k + 1))
  rw [List.take_append_drop, List.drop_set_of_lt (by omega)] at e2
  rw [e1, e2, val_set r k d h, val_take_succ r k h]
  have l1 : ((r.set k d).take (k + 1)).length = (r.take (k + 1)).length := by simp
  rw [l1]
  omega

/-- A round of the inner loop. -/
theorem mul_step (r : List Nat) (k c p z q d base : Nat) (hk : k < r.length) (hz : r.getD k 0 = z) (hc : d + 4294967296 * q = c + (p + z)) (h : val r + 4294967296 ^ k * c = base) :
    val (r.set k d) + 4294967296 ^ (k + 1) * q = base + 4294967296 ^ k * p := by
  have e := val_setw r k d hk
  rw [hz] at e
  have e2 : 4294967296 ^ k * (d + 4294967296 * q) = 4294967296 ^ k * (c + (p + z)) := by rw [hc]
  rw [Nat.mul_add, Nat.mul_add, Nat.mul_add, ← Nat.mul_assoc] at e2
  rw [show 4294967296 ^ (k + 1) = 4294967296 ^ k * 4294967296 from Nat.pow_succ _ _]
  generalize 4294967296 ^ k = P at *
  rw [← h]
  omega

theorem word_mul (x y z c : Nat) (hx : x < 4294967296) (hy : y < 4294967296) (hz : z < 4294967296) (hc : c < 4294967296) :
    x * y ≤ 18446744065119617025 ∧ (c + (x * y + z)) / 4294967296 < 4294967296 := by
  have : x * y ≤ 4294967295 * 4294967295 := Nat.mul_le_mul (by omega) (by omega)
  omega

theorem getD_set_ne2 (r : List Nat) (k i d : Nat) (h : i ≠ k) : (r.set k d).getD i 0 = r.getD i 0 := by
  simp only [List.getD, List.getElem?_set_ne (fun e => h e.symm)]

/-- What the inner loop keeps. -/
def MulIn (a b r : List Nat) (i j c : Nat) : Prop := val r + 4294967296 ^ (i + j) * c = val (a.take i) * val b + 4294967296 ^ i * (a.getD i 0 * val (b.take j)) ∧ ∀ k, i + b.length ≤ k → r.getD k 0 = 0
/-- What the outer loop keeps. -/
def MulOut (a b r : List Nat) (i : Nat) : Prop := val r = val (a.take i) * val b ∧ ∀ k, i + b.length ≤ k → r.getD k 0 = 0

theorem mulOut_start (a b : List Nat) (n : Nat) : MulOut a b (List.replicate n 0) 0 := by
  constructor
  · have : ∀ n, val (List.replicate n 0) = 0 := fun n => by
      induction n with
      | zero => rfl
      | succ n ih => simp [List.replicate_succ, val, ih]
    rw [this]; simp [val]
  · intro k _
    simp only [List.getD]
    rw [List.getElem?_replicate]
    split <;> rfl

theorem mulIn_start {a b r : List Nat} {i : Nat} (h : MulOut a b r i) : MulIn a b r i 0 0 := by
  refine ⟨?_, h.2⟩
  rw [h.1]; simp [val]

theorem mulIn_step {a b r : List Nat} {i j c x y z d q : Nat} (h : MulIn a b r i j c) (hj : j < b.length) (hk : i + j < r.length) (hx : a.getD i 0 = x) (hy : b.getD j 0 = y) (hz : r.getD (i + j) 0 = z) (hc : d + 4294967296 * q = c + (x * y + z)) :
    MulIn a b (r.set (i + j) d) i (j + 1) q := by
  refine ⟨?_, fun k hk' => by rw [getD_set_ne2 _ _ _ _ (by omega)]; exact h.2 k hk'⟩
  have e := mul_step r (i + j) c (x * y) z q d _ hk hz hc h.1
  rw [← Nat.add_assoc, e, val_take_succ b j hj, hx, hy, Nat.mul_add, Nat.mul_add, Nat.add_assoc]
  congr 2
  rw [Nat.pow_add]
  rw [Nat.mul_assoc (4294967296 ^ i), Nat.mul_left_comm x]

theorem mulIn_done {a b r : List Nat} {i c : Nat} (h : MulIn a b r i b.length c) (hi : i < a.length) (hk : i + b.length < r.length) : MulOut a b (r.set (i + b.length) c) (i + 1) := by
  refine ⟨?_, fun k hk' => by rw [getD_set_ne2 _ _ _ _ (by omega)]; exact h.2 k (by omega)⟩
  have e := val_setw r (i + b.length) c hk
  rw [h.2 _ (Nat.le_refl _), Nat.mul_zero, Nat.add_zero] at e
  rw [e, h.1, List.take_length, val_take_succ a i hi, Nat.add_mul, Nat.mul_assoc]

theorem mul_none (va vb : Value) (a b : List Nat) (w : World) (ha : Wd w va a) (hb : Wd w vb b) (h : a.length = 0 ∨ b.length = 0) :
    Calls Tryz.prog 80 #[va, vb] w fun e w' => ∃ v l, e = .returned v ∧ Wd w' v l ∧ Nrm l ∧ val l = val a * val b ∧ w.grownBy w' none := by
  obtain ⟨aa, ca, rfl, _, _, _⟩ := ha.form
  obtain ⟨ab, cb, rfl, _, _, _⟩ := hb.form
  have e0 : val a * val b = 0 := by
    rcases h with h | h
    · rw [List.eq_nil_of_length_eq_zero h]; simp [val]
    · rw [List.eq_nil_of_length_eq_zero h]; simp [val]
  have E : Hid (val a * val b = 0) := e0
  clear e0 ha hb
  by_cases h1 : a.length = 0
  · rw [h1]
    go_enter Tryz.func80, Tryz.ntmps80
    go_wp2
    go_ret
    exact ⟨_, [], rfl, wd_nil _ _ _, .inl rfl, by rw [E.out]; rfl, belowg (Below.refl _ _)⟩
  · have h2 : b.length = 0 := by omega
    have n1 : ((a.length : Int) == 0) = false := by rw [beq_eq_false_iff_ne]; omega
    rw [h2]
    go_enter Tryz.func80, Tryz.ntmps80
    go_wp2
    go_ret
    exact ⟨_, [], rfl, wd_nil _ _ _, .inl rfl, by rw [E.out]; rfl, belowg (Below.refl _ _)⟩

set_option maxHeartbeats 4000000 in
theorem mul_some (va vb : Value) (a b : List Nat) (w : World) (ha : Wd w va a) (hb : Wd w vb b) (h1 : 0 < a.length) (h2 : 0 < b.length) (h3 : a.length < 35184372088832) (h4 : b.length < 35184372088832) :
    Calls Tryz.prog 80 #[va, vb] w fun e w' => ∃ v l, e = .returned v ∧ Wd w' v l ∧ Nrm l ∧ val l = val a * val b ∧ w.grownBy w' none := by
  obtain ⟨aa, ca, rfl, la, Oa, Fa⟩ := ha.form
  obtain ⟨ab, cb, rfl, lb, Ob, Fb⟩ := hb.form
  obtain ⟨ba, oa, rfl, hba, hca⟩ := Fa.out h1
  obtain ⟨bb, ob, rfl, hbb, hcb⟩ := Fb.out h2
  have Ha : Hid (∀ i, i < a.length → w.cell? ⟨ba, oa + i, none⟩ = some (.int .u32 (a.getD i 0 : Nat))) := hca
  have Hb : Hid (∀ i, i < b.length → w.cell? ⟨bb, ob + i, none⟩ = some (.int .u32 (b.getD i 0 : Nat))) := hcb
  clear ha hb la lb Fa Fb hca hcb
  obtain ⟨L, hL⟩ : ∃ L, a.length + b.length = L := ⟨_, rfl⟩
  have eL : (a.length : Int) + (b.length : Int) = (L : Int) := by omega
  have hmk := fun w => run_make_row' (P := Tryz.prog) 81 166 (.int .u32 0) 4 Tryz.underlying81 Tryz.infoW rfl .i64 .i64 L (by omega) (by omega) w
  have n1 : ((a.length : Int) == 0) = false := by rw [beq_eq_false_iff_ne]; omega
  have n2 : ((b.length : Int) == 0) = false := by rw [beq_eq_false_iff_ne]; omega
  have n3 : (a.length : Int) < 35184372088832 := by omega
  have n4 : (b.length : Int) < 35184372088832 := by omega
  go_enter Tryz.func80, Tryz.ntmps80
  go_wp2
  clear hmk
  go_loopw [6] (fun ti wr => ∃ i : Nat, ∃ r : List Nat, i ≤ a.length ∧ ti = .int .i64 i ∧ r.length = L ∧ Hid (RowAt wr w.heap.size r) ∧ Hid (Ok r) ∧ Hid (w.grownBy wr none) ∧ Hid (MulOut a b r i)) (fun ti _ => a.length - (RowKit.intOf ti).toNat)
  case atStart =>
    refine ⟨0, List.replicate L 0, by omega, rfl, by simp, ?_, ok_replicate _, World.grownBy_alloc _ _ _, mulOut_start a b _⟩
    show (w.alloc _).heap[w.heap.size]? = _
    rw [alloc_blk, made_row]
  case round =>
    obtain ⟨i, r, hi, rfl, hr, Hrow, Hok, Hg, Hv⟩ := hrel
    by_cases hlt : i < a.length
    · have hx := Oa.out i hlt
      have i1 : (i : Int) < a.length := by omega
      go_wp2
      go_loopw [7, 8] (fun tc tj wr => ∃ j c : Nat, ∃ r : List Nat, j ≤ b.length ∧ (c : Int) < 4294967296 ∧ tc = .int .u64 c ∧ tj = .int .i64 j ∧ r.length = L ∧ Hid (RowAt wr w.heap.size r) ∧ Hid (Ok r) ∧ Hid (w.grownBy wr none) ∧ Hid (MulIn a b r i j c)) (fun _ tj _ => b.length - (RowKit.intOf tj).toNat)
      case atStart => exact ⟨0, 0, r, by omega, by omega, rfl, rfl, hr, Hrow, Hok, Hg, mulIn_start Hv.out⟩
      case round =>
        obtain ⟨j, c, r', hj, hc, rfl, rfl, hr', Hrow', Hok', Hg', Hv'⟩ := hrel
        by_cases hlj : j < b.length
        · have hxa := Hg'.out.cell (Ha.out i hlt) (by simp)
          have hya := Hg'.out.cell (Hb.out j hlj) (by simp)
          have hyb := Ob.out j hlj
          have i2 : (j : Int) < b.length := by omega
          have hst : ∀ d q, d + 4294967296 * q = c + (a.getD i 0 * b.getD j 0 + r'.getD (i + j) 0) → MulIn a b (r'.set (i + j) d) i (j + 1) q := fun d q h => mulIn_step Hv'.out hlj (by omega) rfl rfl rfl h
          obtain ⟨s, hs⟩ : ∃ s, i + j = s := ⟨_, rfl⟩
          rw [hs] at hst
          have es : (i : Int) + (j : Int) = (s : Int) := by omega
          have i3 : (s : Int) < (L : Int) := by omega
          have rc := row_cell Hrow'.out (i := s) (by omega)
          have rf := row_frozen Hrow'.out s
          have hzb := Hok'.out s (by omega)
          generalize a.getD i 0 = x at *
          generalize b.getD j 0 = y at *
          generalize r'.getD s 0 = z at *
          obtain ⟨w1, w2⟩ := word_mul x y z c hx hyb hzb (by omega)
          obtain ⟨p, hp⟩ : ∃ p, x * y = p := ⟨_, rfl⟩
          rw [hp] at w1 w2 hst
          have ep : (x : Int) * (y : Int) = (p : Int) := by rw [← hp]; simp
          obtain ⟨m, hm⟩ : ∃ m, p + z = m := ⟨_, rfl⟩
          have em : (p : Int) + (z : Int) = (m : Int) := by omega
          rw [hm] at w2 hst
          obtain ⟨n, hn⟩ : ∃ n, c + m = n := ⟨_, rfl⟩
          have en : (c : Int) + (m : Int) = (n : Int) := by omega
          rw [hn] at w2 hst
          have e1 : IntKind.u32.wrap (n : Int) = ((n % 4294967296 : Nat) : Int) := by rw [IntKind.wrap_u32]; omega
          have e2 : (n : Int) / 4294967296 = ((n / 4294967296 : Nat) : Int) := by omega
          have b4 : n % 4294967296 < 4294967296 := Nat.mod_lt _ (by omega)
          have hs2 := hst (n % 4294967296) (n / 4294967296) (by omega)
          have b1 : (x : Int) < 4294967296 := by omega
          have b2 : (y : Int) < 4294967296 := by omega
          have b3 : (z : Int) < 4294967296 := by omega
          have b5 : (p : Int) ≤ 18446744065119617025 := by omega
          have b6 : (m : Int) < 18446744073709551616 := by omega
          have b7 : (n : Int) < 18446744073709551616 := by omega
          generalize n % 4294967296 = d at *
          generalize n / 4294967296 = q at *
          have HS : Hid (MulIn a b (r'.set s d) i (j + 1) q) := hs2
          clear hst hs2 hp w1 Hv' hx hyb hzb hm hn
          go_wp2
          go_quiet (fail)
          go_wp2
          go_roundw
          case rel => exact ⟨j + 1, q, r'.set s d, by omega, by omega, rfl, by go_num, by simpa using hr', row_set (w := wr.drewN nq) Hrow'.out s d, ok_set Hok'.out s d b4, gset (gdrewN Hg'.out nq) (Nat.le_refl _) _, HS⟩
          case measure => simp [RowKit.intOf]; omega
        · have hj2 : j = b.length := by omega
          subst hj2
          have HD : Hid (MulOut a b (r'.set (i + b.length) c) (i + 1)) := mulIn_done Hv'.out hlt (by omega)
          obtain ⟨s, hs⟩ : ∃ s, i + b.length = s := ⟨_, rfl⟩
          rw [hs] at HD
          have es : (i : Int) + (b.length : Int) = (s : Int) := by omega
          have i3 : (s : Int) < (L : Int) := by omega
          have rc := row_cell Hrow'.out (i := s) (by omega)
          have rf := row_frozen Hrow'.out s
          generalize r'.getD s 0 = z at *
          clear Hv'
          go_wp2
          go_roundw
          case rel => exact ⟨i + 1, r'.set s c, by omega, by go_num, by simpa using hr', row_set Hrow'.out s c, ok_set Hok'.out s c (by omega), gset Hg'.out (Nat.le_refl _) _, HD⟩
          case measure => simp [RowKit.intOf]; omega
    · have hia : i = a.length := by omega
      subst hia
      have Hw : Hid (Wd wr (.slice (some ⟨w.heap.size, 0, none⟩) L L) r) := by
        have := row_wd Hrow.out Hok.out (by omega) L (by omega)
        rw [hr] at this
        exact this
      have Hval : Hid (val r = val a * val b) := by
        have := Hv.out.1
        rw [List.take_length] at this
        exact this
      clear Hv Hrow Hok
      go_wp2_with fail
      refine (trim_any _ r _ Hw.out).mono ?_
      rintro e w' ⟨⟨v', rfl, hv⟩, hw⟩
      rw [hw]; clear hw w' Hw
      have R : Hid (Wd wr v' (r.take (tl r r.length)) ∧ Nrm (r.take (tl r r.length)) ∧ val (r.take (tl r r.length)) = val a * val b) := by
        refine ⟨hv, nrm_tl _ _ (Nat.le_refl _), ?_⟩
        rw [val_tl _ _ (Nat.le_refl _), List.take_length]
        exact Hval.out
      clear hv
      go_wp2
      go_ret
      exact ⟨_, _, rfl, R.out.1, R.out.2.1, R.out.2.2, Hg.out⟩

theorem mul_any (va vb : Value) (a b : List Nat) (w : World) (ha : Wd w va a) (hb : Wd w vb b) (h3 : a.length < 35184372088832) (h4 : b.length < 35184372088832) :
    Calls Tryz.prog 80 #[va, vb] w fun e w' => ∃ v l, e = .returned v ∧ Wd w' v l ∧ Nrm l ∧ val l = val a * val b ∧ w.grownBy w' none := by
  by_cases h : a.length = 0 ∨ b.length = 0
  · exact mul_none va vb a b w ha hb h
  · exact mul_some va vb a b w ha hb (by omega) (by omega) h3 h4
end Go.Proofs.YtiolkeipgpkbmaaGreatDoor

namespace Go.Proofs.YtiolkeipgpkbmaaGreatDoor
set_option linter.unusedVariables false
set_option linter.unusedSimpArgs false
open Go.RowKit Big

theorem mul_mid (nx ny : Bool) (vx vy : Value) (lx ly : List Nat) (w W : World) (hW : w.grownBy W none) (hx : Wd w vx lx) (hy : Wd w vy ly) (h1 : lx.length < 35184372088832) (h2 : ly.length < 35184372088832) :
    Calls Tryz.prog 80 #[vx, vy] W fun e w' => ∃ v l, e = .returned v ∧ Mid w w' (nx != ny) v l (sg nx (val lx) * sg ny (val ly)) := by
  refine (mul_any vx vy lx ly W (hx.grow hW) (hy.grow hW) h1 h2).mono ?_
  rintro e w1 ⟨v, l, rfl, hv, hn, hval, hg⟩
  refine ⟨v, l, rfl, hv, hn, ?_, gtrans hW hg⟩
  rw [hval]
  unfold sg
  cases nx <;> cases ny <;> simp [Int.neg_mul, Int.mul_neg]

set_option maxHeartbeats 4000000 in
theorem Mul_any (pz px py : Nat) (nz nx ny : Bool) (vz vx vy : Value) (lx ly : List Nat) (w : World) (hz : w.heap[pz]? = some (.cells #[.bool nz, vz] 83 (0, 0))) (hzi : ∀ k n, vz ≠ .int k n)
    (hx : IsBig w px nx vx lx) (hy : IsBig w py ny vy ly) (h1 : lx.length < 35184372088832) (h2 : ly.length < 35184372088832) :
    Calls Tryz.prog 40 #[.pointer (some ⟨pz, 0, none⟩), .pointer (some ⟨px, 0, none⟩), .pointer (some ⟨py, 0, none⟩)] w fun e w' => e = .returned (.pointer (some ⟨pz, 0, none⟩)) ∧ Hid (BigIs w' pz (sg nx (val lx) * sg ny (val ly)) ∧ w.grownBy w' (some pz)) := by
  have cx0 := blk_cell0 hx.blk
  have cx1 := blk_cell1 hx.blk
  have cy0 := blk_cell0 hy.blk
  have cy1 := blk_cell1 hy.blk
  have mulC : Hid (∀ W, w.grownBy W none → Calls Tryz.prog 80 #[vx, vy] W fun e w' => ∃ v l, e = .returned v ∧ Mid w w' (nx != ny) v l (sg nx (val lx) * sg ny (val ly))) := fun W hW => mul_mid nx ny vx vy lx ly w W hW hx.wd hy.wd h1 h2
  have giveC : Hid (∀ neg v l w1 x, Mid w w1 neg v l x → Calls Tryz.prog 79 #[.pointer (some ⟨pz, 0, none⟩), .bool neg, v] w1 fun e w' => e = .returned (.pointer (some ⟨pz, 0, none⟩)) ∧ Hid (BigIs w' pz x ∧ w.grownBy w' (some pz))) := fun neg v l w1 x h => give_mid pz neg nz vz v l x w w1 hz hzi h
  have bx : px < w.heap.size := blk_lt hx.blk
  have bY : py < w.heap.size := blk_lt hy.blk
  have gx0 : Hid (∀ w', w.grownBy w' none → w'.cell? ⟨px, 0, none⟩ = some (.bool nx)) := fun w' h => h.cell cx0 (by simp)
  have gx1 : Hid (∀ w', w.grownBy w' none → w'.cell? ⟨px, 1, none⟩ = some vx) := fun w' h => h.cell cx1 (by simp)
  have gy0 : Hid (∀ w', w.grownBy w' none → w'.cell? ⟨py, 0, none⟩ = some (.bool ny)) := fun w' h => h.cell cy0 (by simp)
  have gy1 : Hid (∀ w', w.grownBy w' none → w'.cell? ⟨py, 1, none⟩ = some vy) := fun w' h => h.cell cy1 (by simp)
  clear hz hzi hx hy h1 h2 cx0 cx1 cy0 cy1
  generalize sg nx (val lx) * sg ny (val ly) = X at *
  go_enter Tryz.func40, Tryz.ntmps40
  go_wp2
  refine wp_region_any (by kernel_rfl) ?_
  refine wpAny_take (i := 0) (v := .pointer (some ⟨pz, 0, none⟩)) rfl (by kernel_rfl) (by kernel_rfl) (by kernel_rfl) (fun _ _ _ h => h) (Or.inl ⟨by rfl, fun w => by go_simp⟩) ?_
  simp only [Act.put, List.setIfInBounds_toArray, List.set_cons_zero, List.set_cons_succ]
  refine wpAny_take (i := 1) (v := .pointer (some ⟨px, 0, none⟩)) rfl (by kernel_rfl) (by kernel_rfl) (by kernel_rfl) (fun _ _ _ h => h) (Or.inl ⟨by rfl, fun w => by go_simp⟩) ?_
  simp only [Act.put, List.setIfInBounds_toArray, List.set_cons_zero, List.set_cons_succ]
  refine wpAny_take (i := 2) (v := .pointer (some ⟨px, 0, none⟩)) rfl (by kernel_rfl) (by kernel_rfl) (by kernel_rfl) (fun _ _ _ h => h) (Or.inl ⟨by rfl, fun w => by go_simp⟩) ?_
  simp only [Act.put, List.setIfInBounds_toArray, List.set_cons_zero, List.set_cons_succ]
  refine wpAny_take (i := 3) (v := .pointer (some ⟨px, 0, none⟩)) rfl (by kernel_rfl) (by kernel_rfl) (by kernel_rfl) (fun _ _ _ h => h) (Or.inl ⟨by rfl, fun w => by go_simp⟩) ?_
  simp only [Act.put, List.setIfInBounds_toArray, List.set_cons_zero, List.set_cons_succ]
  refine wpAny_take (i := 5) (v := .pointer (some ⟨py, 0, none⟩)) rfl (by kernel_rfl) (by kernel_rfl) (by kernel_rfl) (fun _ _ _ h => h) (Or.inl ⟨by rfl, fun w => by go_simp⟩) ?_
  simp only [Act.put, List.setIfInBounds_toArray, List.set_cons_zero, List.set_cons_succ]
  refine wpAny_take (i := 6) (v := .pointer (some ⟨py, 0, none⟩)) rfl (by kernel_rfl) (by kernel_rfl) (by kernel_rfl) (fun _ _ _ h => h) (Or.inl ⟨by rfl, fun w => by go_simp⟩) ?_
  simp only [Act.put, List.setIfInBounds_toArray, List.set_cons_zero, List.set_cons_succ]
  refine wpAny_take (i := 7) (v := .pointer (some ⟨py, 0, none⟩)) rfl (by kernel_rfl) (by kernel_rfl) (by kernel_rfl) (fun _ _ _ h => h) (Or.inl ⟨by rfl, fun w => by go_simp⟩) ?_
  simp only [Act.put, List.setIfInBounds_toArray, List.set_cons_zero, List.set_cons_succ]
  refine wpAny_take (i := 10) (v := .pointer (some ⟨px, 0, none⟩)) rfl (by kernel_rfl) (by kernel_rfl) (by kernel_rfl) (fun _ _ _ h => h) (Or.inl ⟨by rfl, fun w => by go_simp⟩) ?_
  simp only [Act.put, List.setIfInBounds_toArray, List.set_cons_zero, List.set_cons_succ]
  refine wpAny_take (i := 11) (v := .pointer (some ⟨px, 0, none⟩)) rfl (by kernel_rfl) (by kernel_rfl) (by kernel_rfl) (fun _ _ _ h => h) (Or.inl ⟨by rfl, fun w => by go_simp⟩) ?_
  simp only [Act.put, List.setIfInBounds_toArray, List.set_cons_zero, List.set_cons_succ]
  refine wpAny_take (i := 12) (v := .pointer (some ⟨px, 1, none⟩)) rfl (by kernel_rfl) (by kernel_rfl) (by kernel_rfl) (fun _ _ _ h => h) (Or.inl ⟨by rfl, fun w => by go_simp⟩) ?_
  simp only [Act.put, List.setIfInBounds_toArray, List.set_cons_zero, List.set_cons_succ]
  refine wpAny_take (i := 14) (v := .pointer (some ⟨py, 0, none⟩)) rfl (by kernel_rfl) (by kernel_rfl) (by kernel_rfl) (fun _ _ _ h => h) (Or.inl ⟨by rfl, fun w => by go_simp⟩) ?_
  simp only [Act.put, List.setIfInBounds_toArray, List.set_cons_zero, List.set_cons_succ]
  refine wpAny_take (i := 15) (v := .pointer (some ⟨py, 0, none⟩)) rfl (by kernel_rfl) (by kernel_rfl) (by kernel_rfl) (fun _ _ _ h => h) (Or.inl ⟨by rfl, fun w => by go_simp⟩) ?_
  simp only [Act.put, List.setIfInBounds_toArray, List.set_cons_zero, List.set_cons_succ]
  refine wpAny_take (i := 16) (v := .pointer (some ⟨py, 1, none⟩)) rfl (by kernel_rfl) (by kernel_rfl) (by kernel_rfl) (fun _ _ _ h => h) (Or.inl ⟨by rfl, fun w => by go_simp⟩) ?_
  simp only [Act.put, List.setIfInBounds_toArray, List.set_cons_zero, List.set_cons_succ]
  refine any_of_L (g := 19) (T := fun w' => w.grownBy w' none) _ _ _ _ ?_
  refine L_take2 (i := 4) (m := 9) (v := .bool nx) rfl rfl rfl (by kernel_rfl) (by kernel_rfl) (by decide) (by kernel_rfl) (by kernel_rfl) (by kernel_rfl) (by kernel_rfl) (by kernel_rfl) (fun _ _ _ h => h) (Or.inl ⟨by rfl, fun w' hw' => by have c := gx0.out w' hw'; go_simp⟩) (gdr w) ?_
  simp only [Act.put, List.setIfInBounds_toArray, List.set_cons_zero, List.set_cons_succ]
  refine L_take2 (i := 8) (m := 9) (v := .bool ny) rfl rfl rfl (by kernel_rfl) (by kernel_rfl) (by decide) (by kernel_rfl) (by kernel_rfl) (by kernel_rfl) (by kernel_rfl) (by kernel_rfl) (fun _ _ _ h => h) (Or.inl ⟨by rfl, fun w' hw' => by have c := gy0.out w' hw'; go_simp⟩) (gdr w) ?_
  simp only [Act.put, List.setIfInBounds_toArray, List.set_cons_zero, List.set_cons_succ]
  refine L_take (i := 9) (v := .bool (nx != ny)) rfl rfl (by kernel_rfl) (by decide) (by kernel_rfl) (by kernel_rfl) (by kernel_rfl) (by kernel_rfl) (fun _ _ _ h => h) (Or.inl ⟨by rfl, fun w' hw' => by go_simp; cases nx <;> cases ny <;> rfl⟩) (gdr w) ?_
  simp only [Act.put, List.setIfInBounds_toArray, List.set_cons_zero, List.set_cons_succ]
  refine L_take2 (i := 13) (m := 18) (v := vx) rfl rfl rfl (by kernel_rfl) (by kernel_rfl) (by decide) (by kernel_rfl) (by kernel_rfl) (by kernel_rfl) (by kernel_rfl) (by kernel_rfl) (fun _ _ _ h => h) (Or.inl ⟨by rfl, fun w' hw' => by have c := gx1.out w' hw'; go_simp⟩) (gdr w) ?_
  simp only [Act.put, List.setIfInBounds_toArray, List.set_cons_zero, List.set_cons_succ]
  refine L_take2 (i := 17) (m := 18) (v := vy) rfl rfl rfl (by kernel_rfl) (by kernel_rfl) (by decide) (by kernel_rfl) (by kernel_rfl) (by kernel_rfl) (by kernel_rfl) (by kernel_rfl) (fun _ _ _ h => h) (Or.inl ⟨by rfl, fun w' hw' => by have c := gy1.out w' hw'; go_simp⟩) (gdr w) ?_
  simp only [Act.put, List.setIfInBounds_toArray, List.set_cons_zero, List.set_cons_succ]
  refine L_one (i := 18) (by kernel_rfl) ?_
  refine wpOp_step rfl (fun K hK => ?_)
  rw [if_pos (by rfl)]
  go_wp2_with fail
  refine (mulC.out _ (gdr w)).mono ?_
  rintro e w1 ⟨v, l, rfl, hm⟩
  refine hK _ _ ⟨hm.2.2.2, ?_⟩
  clear hK K
  have Hm : Hid (Mid w w1 (nx != ny) v l X) := hm
  clear hm
  refine L_go (by kernel_rfl) (by kernel_rfl) ?_
  refine wpOp_step rfl (fun K hK => ?_)
  rw [if_pos (by rfl)]
  go_wp2_with fail
  refine (giveC.out _ v l w1 X Hm.out).mono ?_
  rintro e w2 ⟨rfl, hR⟩
  refine hK _ _ ?_
  clear hK K Hm
  refine any_one (i := 20) (by kernel_rfl) ?_
  refine wpOp_step rfl (fun K hK => ?_)
  rw [if_pos (by rfl)]
  have hK' : Shut (∀ a w, wpAny _ _ _ _ _ _ a w → K a w) := hK
  clear hK
  go_wp2
  refine hK'.out _ _ ?_
  clear hK' K
  refine wpAny_done (by kernel_rfl) ?_ _
  go_wp2
  go_ret
  exact ⟨rfl, hR⟩
end Go.Proofs.YtiolkeipgpkbmaaGreatDoor

namespace Go.Proofs.YtiolkeipgpkbmaaGreatDoor
set_option linter.unusedVariables false
open Go.RowKit Big

theorem few_words {neg : Bool} {l : List Nat} (hn : Nrm l) (h1 : -340282366920938463463374607431768211456 < sg neg (val l)) (h2 : sg neg (val l) < 340282366920938463463374607431768211456) : l.length < 35184372088832 := by
  have hv : val l < 4294967296 ^ 4 := by
    have : (val l : Int) < 340282366920938463463374607431768211456 := by unfold sg at *; cases neg <;> simp at h1 h2 <;> omega
    have e : (4294967296 : Nat) ^ 4 = 340282366920938463463374607431768211456 := by decide
    rw [e]; omega
  rcases Nat.eq_zero_or_pos l.length with h0 | h0
  · omega
  · have h3 := val_ge hn h0
    apply Classical.byContradiction
    intro hc
    have : 4294967296 ^ 4 ≤ 4294967296 ^ (l.length - 1) := Nat.pow_le_pow_right (by omega) (by omega)
    omega

/-- The sum, or 0; 0, or the fault's number. -/
def rV (s : Int) : Int := if -9223372036854775808 ≤ s ∧ s ≤ 9223372036854775807 then s else 0
def rE (s : Int) : Int := if -9223372036854775808 ≤ s ∧ s ≤ 9223372036854775807 then 0 else 10

/-- dayref1.Small, either way. -/
theorem small_any (p : Nat) (x : Int) (w : World) (h : BigIs w p x) (h1 : -340282366920938463463374607431768211456 < x) (h2 : x < 340282366920938463463374607431768211456) :
    Calls Tryz.prog 44 #[.pointer (some ⟨p, 0, none⟩)] w fun e w' => e = .returned (.tuple #[.int .i64 (rV x), .int .i64 (rE x)]) ∧ w' = w := by
  obtain ⟨neg, v, l, hb, rfl⟩ := h
  by_cases hf : Fits (sg neg (val l))
  · have e : rV (sg neg (val l)) = sg neg (val l) ∧ rE (sg neg (val l)) = 0 := by unfold rV rE; exact ⟨if_pos hf, if_pos hf⟩
    rw [e.1, e.2]
    exact small_yes p neg v l w hb (few_words hb.nrm h1 h2) hf
  · have e : rV (sg neg (val l)) = 0 ∧ rE (sg neg (val l)) = 10 := by unfold rV rE; exact ⟨if_neg hf, if_neg hf⟩
    rw [e.1, e.2]
    exact small_no p neg v l w hb (few_words hb.nrm h1 h2) hf

end Go.Proofs.YtiolkeipgpkbmaaGreatDoor
