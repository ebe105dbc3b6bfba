/-
  The contract of the method QuoRem of quarterdaybig's Int, where the divisor is of one word.
-/
import Derived.Test.YtphlcjghcffnbaaDoorBig18
import Derived.Deep.QuietTactic
import Derived.BigQuiet
namespace Go.Proofs.YtphlcjghcffnbaaDoor
set_option linter.unusedVariables false
set_option linter.unusedSimpArgs false
open Go.RowKit Big

/-- Nothing that was there is written but two blocks. -/
structure Grown2 (w w' : World) (p q : Nat) : Prop where
  os : w'.os = w.os
  tape : w'.tape = w.tape
  output : w'.output = w.output
  size : w.heap.size ≤ w'.heap.size
  block : ∀ i, i < w.heap.size → i ≠ p → i ≠ q → w'.heap[i]? = w.heap[i]?

theorem grown2_of {a b c d : World} {p q : Nat} (h1 : a.grownBy b none) (h2 : b.grownBy c (some p)) (h3 : c.grownBy d (some q)) : Grown2 a d p q :=
  ⟨h3.os.trans (h2.os.trans h1.os), h3.tape.trans (h2.tape.trans h1.tape), h3.output.trans (h2.output.trans h1.output), Nat.le_trans h1.size (Nat.le_trans h2.size h3.size), fun i hi hp hq => by
    rw [h3.block i (Nat.lt_of_lt_of_le hi (Nat.le_trans h1.size h2.size)) (fun e => hq (Option.some.inj e)), h2.block i (Nat.lt_of_lt_of_le hi h1.size) (fun e => hp (Option.some.inj e)), h1.block i hi (by simp)]⟩

/-- What QuoRem leaves. -/
def QREnd (w w' : World) (pz pr : Nat) (X Y : Int) : Prop := BigIs w' pz X ∧ BigIs w' pr Y ∧ Grown2 w w' pz pr ∧ ∀ p x, p ≠ pz → p ≠ pr → BigIs w p x → BigIs w' p x

set_option maxHeartbeats 4000000 in
theorem QuoRem_any (pz px py pr : Nat) (nz nr nx ny : Bool) (vz vr vx vy : Value) (lx ly : List Nat) (w : World) (hz : w.heap[pz]? = some (.cells #[.bool nz, vz] 40 (0, 0))) (hzi : ∀ k n, vz ≠ .int k n)
    (hr : w.heap[pr]? = some (.cells #[.bool nr, vr] 40 (0, 0))) (hri : ∀ k n, vr ≠ .int k n) (hne : pz ≠ pr)
    (hx : IsBig w px nx vx lx) (hy : IsBig w py ny vy ly) (h1 : lx.length < 35184372088832) (h2 : ly.length = 1 ∨ (0 < ly.length ∧ lx.length ≤ 2)) :
    Calls Tryd.prog 28 #[.pointer (some ⟨pz, 0, none⟩), .pointer (some ⟨px, 0, none⟩), .pointer (some ⟨py, 0, none⟩), .pointer (some ⟨pr, 0, none⟩)] w fun e w' => e = .returned (.tuple #[.pointer (some ⟨pz, 0, none⟩), .pointer (some ⟨pr, 0, none⟩)]) ∧ Hid (QREnd w w' pz pr (sg (nx != ny) (val lx / val ly)) (sg nx (val lx % val ly))) := by
  have cx0 := blk_cell0 hx.blk
  have cx1 := blk_cell1 hx.blk
  have cy0 := blk_cell0 hy.blk
  have cy1 := blk_cell1 hy.blk
  have divC : Hid (∀ W, w.grownBy W none → Calls Tryd.prog 45 #[vx, vy] W (DivEnd w (val lx) (val ly))) := fun W hW => by
    refine (div_any2 vx vy lx ly W (hx.wd.grow hW) (hy.wd.grow hW) hx.nrm hy.nrm h2 h1).mono ?_
    rintro e w' ⟨q, r, lq, lr, rfl, hR⟩
    obtain ⟨a1, a2, a3, a4, a5, a6, a7⟩ := hR.out
    exact ⟨q, r, lq, lr, rfl, a1, a2, a3, a4, a5, a6, gtrans hW a7⟩
  have G1 : Hid (∀ w1 q lq, w.grownBy w1 none → Wd w1 q lq → Nrm lq → Calls Tryd.prog 24 #[.pointer (some ⟨pz, 0, none⟩), .bool (nx != ny), q] w1 fun e w' => e = .returned (.pointer (some ⟨pz, 0, none⟩)) ∧ IsBig w' pz ((nx != ny) && decide (0 < lq.length)) q lq ∧ w1.grownBy w' (some pz)) := fun w1 q lq hg hq hn => give_any pz (nx != ny) nz vz q lq w1 ((hg.block pz (blk_lt hz) (by simp)).trans hz) hzi hq hn
  have G2 : Hid (∀ w1 w2 r lr, w.grownBy w1 none → w1.grownBy w2 (some pz) → Wd w2 r lr → Nrm lr → Calls Tryd.prog 24 #[.pointer (some ⟨pr, 0, none⟩), .bool nx, r] w2 fun e w' => e = .returned (.pointer (some ⟨pr, 0, none⟩)) ∧ IsBig w' pr (nx && decide (0 < lr.length)) r lr ∧ w2.grownBy w' (some pr)) := fun w1 w2 r lr hg hg2 hq hn =>
    give_any pr nx nr vr r lr w2 ((hg2.block pr (Nat.lt_of_lt_of_le (blk_lt hr) hg.size) (fun e => hne (Option.some.inj e).symm)).trans ((hg.block pr (blk_lt hr) (by simp)).trans hr)) hri hq hn
  have Fin : Hid (∀ w1 w2 w3 q r lq lr, w.grownBy w1 none → w1.grownBy w2 (some pz) → w2.grownBy w3 (some pr) → IsBig w2 pz ((nx != ny) && decide (0 < lq.length)) q lq → IsBig w3 pr (nx && decide (0 < lr.length)) r lr → val lq = val lx / val ly → val lr = val lx % val ly → QREnd w w3 pz pr (sg (nx != ny) (val lx / val ly)) (sg nx (val lx % val ly))) := by
    intro w1 w2 w3 q r lq lr g1 g2 g3 b1 b2 e1 e2
    have hz1 := (g1.block pz (blk_lt hz) (by simp)).trans hz
    have hr2 := (g2.block pr (Nat.lt_of_lt_of_le (blk_lt hr) g1.size) (fun e => hne (Option.some.inj e).symm)).trans ((g1.block pr (blk_lt hr) (by simp)).trans hr)
    refine ⟨⟨_, q, lq, b1.keepBy hne hr2 hri g3, ?_⟩, ⟨_, r, lr, b2, ?_⟩, grown2_of g1 g2 g3, fun p x hp hq hb => ?_⟩
    · rw [sg_cut _ _ _ (fun h => by rw [List.eq_nil_of_length_eq_zero h]; rfl), e1]
    · rw [sg_cut _ _ _ (fun h => by rw [List.eq_nil_of_length_eq_zero h]; rfl), e2]
    · exact ((hb.growBy g1).keepBy hp hz1 hzi g2).keepBy hq hr2 hri g3
  have KW : Hid (∀ w1 w2 r lr, w.grownBy w1 none → w1.grownBy w2 (some pz) → Wd w1 r lr → Wd w2 r lr) := fun w1 w2 r lr g1 g2 hw => hw.keepP ((g1.block pz (blk_lt hz) (by simp)).trans hz) hzi g2
  have gx1 : Hid (∀ w', w.grownBy w' none → w'.cell? ⟨px, 1, none⟩ = some vx) := fun w' h => h.cell cx1 (by simp)
  have gy1 : Hid (∀ w', w.grownBy w' none → w'.cell? ⟨py, 1, none⟩ = some vy) := fun w' h => h.cell cy1 (by simp)
  clear hz hzi hr hri hx hy h1 h2 cx1 cy1
  generalize sg (nx != ny) (val lx / val ly) = X at *
  generalize sg nx (val lx % val ly) = Y at *
  go_enter Tryd.func28, Tryd.ntmps28
  go_wp2
  go_quiet (fail)
  go_wp2
  have hgn : Hid (w.grownBy (w.drewN nq).drew none) := ⟨rfl, rfl, rfl, Nat.le_refl _, fun _ _ _ => rfl⟩
  clear cx0 cy0
  refine wp_region_any (by kernel_rfl) ?_
  refine wpAny_take (i := 0) (v := .pointer (some ⟨px, 0, none⟩)) rfl (by kernel_rfl) (by kernel_rfl) (by kernel_rfl) (fun _ _ _ h => h) (Or.inl ⟨by rfl, fun w => by go_simp⟩) ?_
  simp only [Act.put, List.setIfInBounds_toArray, List.set_cons_zero, List.set_cons_succ]
  refine wpAny_take (i := 1) (v := .pointer (some ⟨px, 0, none⟩)) rfl (by kernel_rfl) (by kernel_rfl) (by kernel_rfl) (fun _ _ _ h => h) (Or.inl ⟨by rfl, fun w => by go_simp⟩) ?_
  simp only [Act.put, List.setIfInBounds_toArray, List.set_cons_zero, List.set_cons_succ]
  refine wpAny_take (i := 2) (v := .pointer (some ⟨px, 1, none⟩)) rfl (by kernel_rfl) (by kernel_rfl) (by kernel_rfl) (fun _ _ _ h => h) (Or.inl ⟨by rfl, fun w => by go_simp⟩) ?_
  simp only [Act.put, List.setIfInBounds_toArray, List.set_cons_zero, List.set_cons_succ]
  refine wpAny_take (i := 4) (v := .pointer (some ⟨py, 0, none⟩)) rfl (by kernel_rfl) (by kernel_rfl) (by kernel_rfl) (fun _ _ _ h => h) (Or.inl ⟨by rfl, fun w => by go_simp⟩) ?_
  simp only [Act.put, List.setIfInBounds_toArray, List.set_cons_zero, List.set_cons_succ]
  refine wpAny_take (i := 5) (v := .pointer (some ⟨py, 0, none⟩)) rfl (by kernel_rfl) (by kernel_rfl) (by kernel_rfl) (fun _ _ _ h => h) (Or.inl ⟨by rfl, fun w => by go_simp⟩) ?_
  simp only [Act.put, List.setIfInBounds_toArray, List.set_cons_zero, List.set_cons_succ]
  refine wpAny_take (i := 6) (v := .pointer (some ⟨py, 1, none⟩)) rfl (by kernel_rfl) (by kernel_rfl) (by kernel_rfl) (fun _ _ _ h => h) (Or.inl ⟨by rfl, fun w => by go_simp⟩) ?_
  simp only [Act.put, List.setIfInBounds_toArray, List.set_cons_zero, List.set_cons_succ]
  refine any_of_L (g := 8) (T := fun w' => w.grownBy w' none) _ _ _ _ ?_
  refine L_take (i := 3) (v := vx) rfl rfl (by kernel_rfl) (by decide) (by kernel_rfl) (by kernel_rfl) (by kernel_rfl) (by kernel_rfl) (fun _ _ _ h => h) (Or.inl ⟨by rfl, fun w' hw' => by have c := gx1.out w' hw'; go_simp⟩) hgn.out ?_
  simp only [Act.put, List.setIfInBounds_toArray, List.set_cons_zero, List.set_cons_succ]
  refine L_take (i := 7) (v := vy) rfl rfl (by kernel_rfl) (by decide) (by kernel_rfl) (by kernel_rfl) (by kernel_rfl) (by kernel_rfl) (fun _ _ _ h => h) (Or.inl ⟨by rfl, fun w' hw' => by have c := gy1.out w' hw'; go_simp⟩) hgn.out ?_
  simp only [Act.put, List.setIfInBounds_toArray, List.set_cons_zero, List.set_cons_succ]
  refine L_go (by kernel_rfl) (by kernel_rfl) ?_
  refine wpOp_step rfl (fun K hK => ?_)
  rw [if_pos (by rfl)]
  go_wp2_with fail
  refine (divC.out _ hgn.out).mono ?_
  rintro e w1 ⟨q, r, lq, lr, rfl, hD⟩
  refine hK _ _ ?_
  clear hK K divC gx1 gy1 hgn
  refine wpAny_take (i := 9) (v := .tuple #[q, r]) rfl (by kernel_rfl) (by kernel_rfl) (by kernel_rfl) (fun _ _ _ h => h) (Or.inl ⟨by rfl, fun w => by go_simp⟩) ?_
  simp only [Act.put, List.setIfInBounds_toArray, List.set_cons_zero, List.set_cons_succ]
  refine wpAny_take (i := 10) (v := q) rfl (by kernel_rfl) (by kernel_rfl) (by kernel_rfl) (fun _ _ _ h => h) (Or.inl ⟨by rfl, fun w => by go_simp⟩) ?_
  simp only [Act.put, List.setIfInBounds_toArray, List.set_cons_zero, List.set_cons_succ]
  refine wpAny_take (i := 11) (v := r) rfl (by kernel_rfl) (by kernel_rfl) (by kernel_rfl) (fun _ _ _ h => h) (Or.inl ⟨by rfl, fun w => by go_simp⟩) ?_
  simp only [Act.put, List.setIfInBounds_toArray, List.set_cons_zero, List.set_cons_succ]
  refine any_one (i := 12) (by kernel_rfl) ?_
  refine wpOp_step rfl (fun K hK => ?_)
  rw [if_pos (by rfl)]
  have hK' : Shut (∀ a w, wpAny _ _ _ _ _ _ a w → K a w) := hK
  clear hK
  go_wp2
  refine hK'.out _ _ ?_
  clear hK' K
  refine any_one (i := 13) (by kernel_rfl) ?_
  refine wpOp_step rfl (fun K hK => ?_)
  rw [if_pos (by rfl)]
  have hK' : Shut (∀ a w, wpAny _ _ _ _ _ _ a w → K a w) := hK
  clear hK
  go_wp2
  refine hK'.out _ _ ?_
  clear hK' K
  refine wpAny_done (by kernel_rfl) ?_ _
  go_wp2_with fail
  refine (G1.out w1 q lq hD.out.2.2.2.2.2.2 hD.out.1 hD.out.2.2.1).mono ?_
  rintro e w2 ⟨rfl, b1, g2⟩
  have H1 : Hid (IsBig w2 pz ((nx != ny) && decide (0 < lq.length)) q lq ∧ w1.grownBy w2 (some pz)) := ⟨b1, g2⟩
  clear b1 g2 G1
  go_wp2_with fail
  refine (G2.out w1 w2 r lr hD.out.2.2.2.2.2.2 H1.out.2 (KW.out w1 w2 r lr hD.out.2.2.2.2.2.2 H1.out.2 hD.out.2.1) hD.out.2.2.2.1).mono ?_
  rintro e w3 ⟨rfl, b2, g3⟩
  have H2 : Hid (QREnd w w3 pz pr X Y) := Fin.out w1 w2 w3 q r lq lr hD.out.2.2.2.2.2.2 H1.out.2 g3 H1.out.1 b2 hD.out.2.2.2.2.1 hD.out.2.2.2.2.2.1
  clear b2 g3 G2 Fin KW H1 hD
  go_wp2
  go_ret2
  exact ⟨rfl, H2⟩
end Go.Proofs.YtphlcjghcffnbaaDoor
