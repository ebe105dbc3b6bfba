/-
  The contracts of the methods Abs, Quo, Cmp and GCD of quarterdaybig's Int, for numbers of two words at most.
-/
import Derived.Test.YtoggclbhjoodoaaDoorBig20
import Derived.Test.YtoggclbhjoodoaaDoorRegionL2
import Derived.Deep.QuietTactic
import Derived.BigQuiet
namespace Go.Proofs.YtoggclbhjoodoaaDoor
set_option linter.unusedVariables false
set_option linter.unusedSimpArgs false
open Go.RowKit Big

/-- A number of 63 bits, no less than 0. -/
def Mid63 (x : Int) : Prop := 0 ≤ x ∧ x < 9223372036854775808
theorem Mid63.few {x : Int} (h : Mid63 x) : Few x := by unfold Mid63 at h; unfold Few; omega

theorem mid_open {w : World} {p : Nat} {x : Int} (h : BigIs w p x) (hm : Mid63 x) : ∃ v l, IsBig w p false v l ∧ (val l : Int) = x ∧ l.length ≤ 2 := by
  obtain ⟨n, v, l, hb, hx⟩ := h
  have hn : n = false := by
    cases n
    · rfl
    · have h0 := hb.sgn rfl
      have h1 := val_ge hb.nrm h0
      have h2 := Nat.pow_pos (n := l.length - 1) (by omega : 0 < 4294967296)
      have : sg true (val l) = -(val l : Int) := rfl
      rw [this] at hx
      have := hm.1
      omega
  subst hn
  have hv : (val l : Int) = x := hx
  exact ⟨v, l, hb, hv, len_two hb.wd.ok hb.nrm (by have := hm.2; omega)⟩

theorem quoRem_mid (pz px py pr : Nat) (z r x y : Int) (w : World) (hz : BigIs w pz z) (hr : BigIs w pr r) (hne : pz ≠ pr) (hx : BigIs w px x) (hy : BigIs w py y) (bx : Mid63 x) (by_ : Mid63 y) (y0 : 0 < y) :
    Calls Tryd.prog 37 #[.pointer (some ⟨pz, 0, none⟩), .pointer (some ⟨px, 0, none⟩), .pointer (some ⟨py, 0, none⟩), .pointer (some ⟨pr, 0, none⟩)] w fun e w' => e = .returned (.tuple #[.pointer (some ⟨pz, 0, none⟩), .pointer (some ⟨pr, 0, none⟩)]) ∧ Hid (QREnd w w' pz pr (x / y) (x % y)) := by
  obtain ⟨nz, vz, hb, hv⟩ := hz.blk
  obtain ⟨nr, vr, hb2, hv2⟩ := hr.blk
  obtain ⟨vx, lx, hx, ex, l2⟩ := mid_open hx bx
  obtain ⟨vy, ly, hy, ey, l3⟩ := mid_open hy by_
  have p0 : 0 < ly.length := by
    rcases Nat.eq_zero_or_pos ly.length with h | h
    · rw [List.eq_nil_of_length_eq_zero h] at ey; simp [val] at ey; omega
    · exact h
  have key := QuoRem_any pz px py pr nz nr false false vz vr vx vy lx ly w hb hv hb2 hv2 hne hx hy (by omega) (.inr ⟨p0, l2⟩)
  have e1 : sg (false != false) (val lx / val ly) = x / y := by rw [← ex, ← ey]; rfl
  have e2 : sg false (val lx % val ly) = x % y := by rw [← ex, ← ey]; rfl
  rw [e1, e2] at key
  exact key

theorem abs_big (pz px : Nat) (z x : Int) (w : World) (hz : BigIs w pz z) (hx : BigIs w px x) (bx : Mid63 x) :
    Calls Tryd.prog 35 #[.pointer (some ⟨pz, 0, none⟩), .pointer (some ⟨px, 0, none⟩)] w fun e w' => e = .returned (.pointer (some ⟨pz, 0, none⟩)) ∧ Hid (BigIs w' pz x ∧ w.grownBy w' (some pz)) := by
  obtain ⟨nz, vz, hb, hv⟩ := hz.blk
  obtain ⟨vx, lx, hx, ex, l2⟩ := mid_open hx bx
  have cx1 := blk_cell1 hx.blk
  have twinC : Hid (Calls Tryd.prog 61 #[vx] w fun e w' => ∃ v, e = .returned v ∧ Mid w w' false v lx (sg false (val lx))) := twin_mid false vx lx w w (grefl _ _) hx.wd hx.nrm (by omega)
  have giveC : Hid (∀ v w1, Mid w w1 false v lx (sg false (val lx)) → Calls Tryd.prog 33 #[.pointer (some ⟨pz, 0, none⟩), .bool false, v] w1 fun e w' => e = .returned (.pointer (some ⟨pz, 0, none⟩)) ∧ Hid (BigIs w' pz (sg false (val lx)) ∧ w.grownBy w' (some pz))) := fun v w1 h => give_mid pz false nz vz v lx _ w w1 hb hv h
  have eX : sg false (val lx) = x := ex
  rw [eX] at twinC giveC
  obtain ⟨a, cap, rfl⟩ := hx.wd.slice
  clear hb hv hx ex eX hz
  go_enter Tryd.func35, Tryd.ntmps35
  go_wp2_with fail
  refine twinC.out.mono ?_
  rintro e w1 ⟨v, rfl, hm⟩
  have Hm : Hid (Mid w w1 false v lx x) := hm
  clear hm
  go_wp2_with fail
  refine (giveC.out v w1 Hm.out).mono ?_
  rintro e w2 ⟨rfl, hR⟩
  clear Hm giveC twinC
  go_wp2
  go_ret
  exact ⟨rfl, hR⟩

theorem quo_big (pz px py : Nat) (z x y : Int) (w : World) (hz : BigIs w pz z) (hx : BigIs w px x) (hy : BigIs w py y) (bx : Mid63 x) (by_ : Mid63 y) (y0 : 0 < y) :
    Calls Tryd.prog 22 #[.pointer (some ⟨pz, 0, none⟩), .pointer (some ⟨px, 0, none⟩), .pointer (some ⟨py, 0, none⟩)] w fun e w' => e = .returned (.pointer (some ⟨pz, 0, none⟩)) ∧ Hid (BigIs w' pz (x / y) ∧ w.grownBy w' (some pz) ∧ ∀ p u, p ≠ pz → BigIs w p u → BigIs w' p u) := by
  have ga := World.grownBy_alloc w (.cells #[.bool false, .slice none 0 0] 55) Option.none
  have lz := hz.lt
  have Q : Hid (Calls Tryd.prog 37 #[.pointer (some ⟨pz, 0, none⟩), .pointer (some ⟨px, 0, none⟩), .pointer (some ⟨py, 0, none⟩), .pointer (some ⟨w.heap.size, 0, none⟩)] (w.alloc (.cells #[.bool false, .slice none 0 0] 55)) fun e w' => e = .returned (.tuple #[.pointer (some ⟨pz, 0, none⟩), .pointer (some ⟨w.heap.size, 0, none⟩)]) ∧ Hid (BigIs w' pz (x / y) ∧ w.grownBy w' (some pz) ∧ ∀ p u, p ≠ pz → BigIs w p u → BigIs w' p u)) := by
    refine (quoRem_mid pz px py w.heap.size z 0 x y _ (hz.growBy ga) (bigis_new w) (by omega) (hx.growBy ga) (hy.growBy ga) bx by_ y0).mono ?_
    rintro e w' ⟨rfl, hR⟩
    obtain ⟨a1, a2, a3, a4⟩ := hR.out
    refine ⟨rfl, a1, ⟨a3.os.trans ga.os, a3.tape.trans ga.tape, a3.output.trans ga.output, Nat.le_trans ga.size a3.size, fun i hi hp => ?_⟩, fun p u hp hb => a4 p u hp (by have := hb.lt; omega) (hb.growBy ga)⟩
    rw [a3.block i (by simp; omega) (fun e => hp (by rw [e])) (by omega)]
    exact ga.block i hi (by simp)
  clear hz hx hy bx by_ y0 ga
  go_enter Tryd.func22, Tryd.ntmps22
  go_wp2_with fail
  refine Q.out.mono ?_
  rintro e w1 ⟨rfl, hR⟩
  clear Q
  go_wp2
  go_ret
  exact ⟨rfl, hR⟩

set_option maxHeartbeats 1000000 in
theorem cmp_big (px py : Nat) (x y : Int) (w : World) (hx : BigIs w px x) (hy : BigIs w py y) (bx : Mid63 x) (by_ : Mid63 y) :
    Calls Tryd.prog 23 #[.pointer (some ⟨px, 0, none⟩), .pointer (some ⟨py, 0, none⟩)] w fun e w' => e = .returned (.int .i64 (cmpV x.toNat y.toNat)) ∧ ∃ n, w' = w.drewN n := by
  obtain ⟨vx, lx, hx, ex, l2⟩ := mid_open hx bx
  obtain ⟨vy, ly, hy, ey, l3⟩ := mid_open hy by_
  have e1 : x.toNat = val lx := by omega
  have e2 : y.toNat = val ly := by omega
  rw [e1, e2]
  have cx0 := blk_cell0 hx.blk
  have cx1 := blk_cell1 hx.blk
  have cy0 := blk_cell0 hy.blk
  have cy1 := blk_cell1 hy.blk
  have C : Hid (∀ W, (∃ n, W = w.drewN n) → Calls Tryd.prog 41 #[vx, vy] W fun e w' => e = .returned (.int .i64 (cmpV (val lx) (val ly))) ∧ ∃ n, w' = W.drewN n) := fun W hW => by
    obtain ⟨n, rfl⟩ := hW
    exact cmp_any vx vy lx ly (w.drewN n) (hx.wd.grow (gdrewN (grefl _ _) n)) (hy.wd.grow (gdrewN (grefl _ _) n)) hx.nrm hy.nrm
  obtain ⟨a1, c1, rfl⟩ := hx.wd.slice
  obtain ⟨a2, c2, rfl⟩ := hy.wd.slice
  clear hx hy ex ey e1 e2 bx by_
  generalize cmpV (val lx) (val ly) = c at *
  go_enter Tryd.func23, Tryd.ntmps23
  go_wp2
  go_quiet (fail)
  go_wp2
  refine wp_region_any (by kernel_rfl) ?_
  refine wpAny_take (i := 0) (v := .pointer (some ⟨px, 0, none⟩)) rfl (by kernel_rfl) (by kernel_rfl) (by kernel_rfl) (fun _ _ _ h => h) (Or.inl ⟨by rfl, fun w => by go_simp⟩) ?_
  simp only [Act.put, List.setIfInBounds_toArray, List.set_cons_zero, List.set_cons_succ]
  refine wpAny_take (i := 1) (v := .pointer (some ⟨px, 0, none⟩)) rfl (by kernel_rfl) (by kernel_rfl) (by kernel_rfl) (fun _ _ _ h => h) (Or.inl ⟨by rfl, fun w => by go_simp⟩) ?_
  simp only [Act.put, List.setIfInBounds_toArray, List.set_cons_zero, List.set_cons_succ]
  refine wpAny_take (i := 2) (v := .pointer (some ⟨px, 1, none⟩)) rfl (by kernel_rfl) (by kernel_rfl) (by kernel_rfl) (fun _ _ _ h => h) (Or.inl ⟨by rfl, fun w => by go_simp⟩) ?_
  simp only [Act.put, List.setIfInBounds_toArray, List.set_cons_zero, List.set_cons_succ]
  refine wpAny_take (i := 4) (v := .pointer (some ⟨py, 0, none⟩)) rfl (by kernel_rfl) (by kernel_rfl) (by kernel_rfl) (fun _ _ _ h => h) (Or.inl ⟨by rfl, fun w => by go_simp⟩) ?_
  simp only [Act.put, List.setIfInBounds_toArray, List.set_cons_zero, List.set_cons_succ]
  refine wpAny_take (i := 5) (v := .pointer (some ⟨py, 0, none⟩)) rfl (by kernel_rfl) (by kernel_rfl) (by kernel_rfl) (fun _ _ _ h => h) (Or.inl ⟨by rfl, fun w => by go_simp⟩) ?_
  simp only [Act.put, List.setIfInBounds_toArray, List.set_cons_zero, List.set_cons_succ]
  refine wpAny_take (i := 6) (v := .pointer (some ⟨py, 1, none⟩)) rfl (by kernel_rfl) (by kernel_rfl) (by kernel_rfl) (fun _ _ _ h => h) (Or.inl ⟨by rfl, fun w => by go_simp⟩) ?_
  simp only [Act.put, List.setIfInBounds_toArray, List.set_cons_zero, List.set_cons_succ]
  refine any_of_L (g := 8) (T := fun w' => w' = (w.drewN nq).drew) _ _ _ _ ?_
  refine L_take (i := 3) (v := .slice a1 lx.length c1) rfl rfl (by kernel_rfl) (by decide) (by kernel_rfl) (by kernel_rfl) (by kernel_rfl) (by kernel_rfl) (fun _ _ _ h => h) (Or.inl ⟨by rfl, fun w' hw' => by subst hw'; go_simp⟩) rfl ?_
  simp only [Act.put, List.setIfInBounds_toArray, List.set_cons_zero, List.set_cons_succ]
  refine L_take (i := 7) (v := .slice a2 ly.length c2) rfl rfl (by kernel_rfl) (by decide) (by kernel_rfl) (by kernel_rfl) (by kernel_rfl) (by kernel_rfl) (fun _ _ _ h => h) (Or.inl ⟨by rfl, fun w' hw' => by subst hw'; go_simp⟩) rfl ?_
  simp only [Act.put, List.setIfInBounds_toArray, List.set_cons_zero, List.set_cons_succ]
  refine L_go (by kernel_rfl) (by kernel_rfl) ?_
  refine wpOp_step rfl (fun K hK => ?_)
  rw [if_pos (by rfl)]
  go_wp2_with fail
  refine (C.out _ ⟨nq + 1, rfl⟩).mono ?_
  rintro e w1 ⟨rfl, m, hw⟩
  have HW : Hid (w1 = w.drewN (nq + 1 + m)) := by
    unfold Hid
    rw [hw]
    exact drew2 w (nq + 1) m
  have cz : w1.cell? ⟨px, 0, none⟩ = some (.bool false) := by rw [HW.out]; exact cx0
  clear hw
  refine hK _ _ ?_
  clear hK K C cx1 cy1 cy0
  refine any_one (i := 9) (by kernel_rfl) ?_
  refine wpOp_step rfl (fun K hK => ?_)
  rw [if_pos (by rfl)]
  have hK' : Shut (∀ a w, wpAny _ _ _ _ _ _ a w → K a w) := hK
  clear hK
  go_wp2
  refine hK'.out _ _ ?_
  clear hK' K
  refine wpAny_done (by kernel_rfl) ?_ _
  go_wp2
  go_ret
  exact ⟨rfl, _, HW.out⟩
end Go.Proofs.YtoggclbhjoodoaaDoor
