/-
  The contract of quarterdaybig's div, where the divisor is of one word; and the methods Set, QuoRem, DivMod.
-/
import Derived.Test.YtphlcjghcffnbaaDoorBig17
import Derived.Test.YtphlcjghcffnbaaDoorBig13
import Derived.Test.YtphlcjghcffnbaaDoorRegionL2
namespace Go.Proofs.YtphlcjghcffnbaaDoor
set_option linter.unusedVariables false
set_option linter.unusedSimpArgs false
open Go.RowKit Big

set_option maxRecDepth 1000000 in
set_option maxHeartbeats 4000000 in
theorem div_word (va vb : Value) (a : List Nat) (d : Nat) (w : World) (ha : Wd w va a) (hb : Wd w vb [d]) (na : Nrm a) (hd : 0 < d) (hd2 : d < 4294967296) (hl : a.length < 35184372088832) (hl2 : 2 < a.length) (hge : d ≤ val a) :
    Calls Tryd.prog 45 #[va, vb] w (DivEnd w (val a) d) := by
  have vb1 : val [d] = d := by simp [val]
  have nb : Nrm [d] := .inr (by simp; omega)
  have Cm : Hid (∃ c : Int, (c = 0 ∨ c = 1) ∧ Calls Tryd.prog 43 #[va, vb] w fun e w' => e = .returned (.int .i64 c) ∧ ∃ n, w' = w.drewN n) := ⟨_, cmp_ge (by rw [vb1]; exact hge), cmp_any va vb a [d] w ha hb na nb⟩
  have Sm : Hid (∀ n, Calls Tryd.prog 57 #[va, .int .u32 (d : Int)] (w.drewN n) fun e w' => ∃ v l, e = .returned (.tuple #[v, .int .u32 ((val a % d : Nat) : Int)]) ∧ Wd w' v l ∧ Nrm l ∧ val l = val a / d ∧ w.grownBy w' none) := fun n => by
    refine (small_div va a d _ (ha.grow (gdrewN (grefl _ _) n)) hd hd2 hl).mono ?_
    rintro e w' ⟨v, l, rfl, h1, h2, h3, h4⟩
    exact ⟨v, l, rfl, h1, h2, h3, gtrans (gdrewN (grefl _ _) n) h4⟩
  obtain ⟨aa, ca, rfl, la, Oa, Fa⟩ := ha.form
  obtain ⟨ab, cb, rfl, lb, Ob, Fb⟩ := hb.form
  obtain ⟨bb, ob, rfl, hbb, hcb⟩ := Fb.out (by simp)
  have hb0 : w.cell? ⟨bb, ob, none⟩ = some (.int .u32 (d : Int)) := by simpa using hcb 0 (by simp)
  have n3 : (2 : Int) < a.length := by omega
  clear ha hb na nb hge Fa Fb Oa Ob hcb vb1 lb
  obtain ⟨c, hc, Cm⟩ := Cm.out
  have Cm2 : Hid (Calls Tryd.prog 43 #[.slice aa a.length ca, .slice (some ⟨bb, ob, none⟩) 1 cb] w fun e w' => e = .returned (.int .i64 c) ∧ ∃ n, w' = w.drewN n) := Cm
  clear Cm
  have rlt : val a % d < d := Nat.mod_lt _ hd
  generalize val a = x at *
  obtain ⟨r, hr⟩ : ∃ r, x % d = r := ⟨_, rfl⟩
  rw [hr] at Sm rlt
  have HR : Hid (x % d = r) := hr
  clear hr
  have Hr1 : Hid (r < 4294967296) := by unfold Hid; omega
  clear rlt
  simp only [List.length_singleton]
  rcases hc with rfl | rfl
  all_goals
    go_enter Tryd.func45, Tryd.ntmps45
    go_wp2_with fail
    refine Cm2.out.mono ?_
    rintro e w' ⟨rfl, n, hw⟩
    rw [hw]; clear hw w' Cm2
    go_wp2_with fail
    refine (Sm.out n).mono ?_
    rintro e w1 ⟨v1, l1, rfl, hv1, hn1, hl1, hg1⟩
    clear Sm
    have H1 : Hid (Wd w1 v1 l1 ∧ Nrm l1 ∧ val l1 = x / d ∧ w.grownBy w1 none) := ⟨hv1, hn1, hl1, hg1⟩
    clear hv1 hn1 hl1 hg1
    have Hrow : Hid (Wd (w1.alloc (.cells #[.int .u32 (r : Int)] 61)) (.slice (some ⟨w1.heap.size, 0, none⟩) 1 1) [r]) := by
      have := row_wd (w := w1.alloc (.cells #[.int .u32 (r : Int)] 61)) (g := w1.heap.size) (r := [r]) (by unfold RowAt; rw [alloc_blk]; rfl) (fun i hi => by simp at hi; subst hi; exact Hr1.out) (by simp) 1 (by simp)
      exact this
    go_wp2_with fail
    refine (trim_any _ [r] _ Hrow.out).mono ?_
    rintro e w' ⟨⟨v', rfl, hv⟩, hw⟩
    rw [hw]; clear hw w' Hrow
    have R : Hid (Wd (w1.alloc (.cells #[.int .u32 (r : Int)] 61)) v1 l1 ∧ Wd (w1.alloc (.cells #[.int .u32 (r : Int)] 61)) v' ([r].take (tl [r] [r].length)) ∧ Nrm l1 ∧ Nrm ([r].take (tl [r] [r].length)) ∧ val l1 = x / d ∧ val ([r].take (tl [r] [r].length)) = x % d ∧ w.grownBy (w1.alloc (.cells #[.int .u32 (r : Int)] 61)) none) := by
      refine ⟨H1.out.1.grow (World.grownBy_alloc _ _ _), hv, H1.out.2.1, nrm_tl _ _ (Nat.le_refl _), H1.out.2.2.1, ?_, gtrans H1.out.2.2.2 (World.grownBy_alloc _ _ _)⟩
      rw [val_tl _ _ (Nat.le_refl _), List.take_length, HR.out]; simp [val]
    clear hv H1
    go_wp2
    go_ret2
    exact ⟨_, _, _, _, rfl, R⟩

/-- A divisor of one word. -/
theorem div_any1 (va vb : Value) (a b : List Nat) (w : World) (ha : Wd w va a) (hb : Wd w vb b) (na : Nrm a) (nb : Nrm b) (h1 : b.length = 1) (hl : a.length < 35184372088832) :
    Calls Tryd.prog 45 #[va, vb] w (DivEnd w (val a) (val b)) := by
  by_cases c1 : val a < val b
  · exact div_less va vb a b w ha hb na nb (by omega) hl c1
  by_cases c2 : a.length ≤ 2
  · exact div_two va vb a b w ha hb na nb (by omega) c2 (by omega)
  match b, h1 with
  | [d], _ =>
    have e : val [d] = d := by simp [val]
    have hd : 0 < d := by
      rcases nb with h | h
      · simp at h
      · simp at h; omega
    have hd2 : d < 4294967296 := by simpa using hb.ok 0 (by simp)
    rw [e] at c1 ⊢
    exact div_word va vb a d w ha hb na hd hd2 hl (by omega) (by omega)
/-- A divisor of one word, or both of two words at most. -/
theorem div_any2 (va vb : Value) (a b : List Nat) (w : World) (ha : Wd w va a) (hb : Wd w vb b) (na : Nrm a) (nb : Nrm b) (h1 : b.length = 1 ∨ (0 < b.length ∧ a.length ≤ 2)) (hl : a.length < 35184372088832) :
    Calls Tryd.prog 45 #[va, vb] w (DivEnd w (val a) (val b)) := by
  rcases h1 with h1 | ⟨h1, h2⟩
  · exact div_any1 va vb a b w ha hb na nb h1 hl
  · by_cases c1 : val a < val b
    · exact div_less va vb a b w ha hb na nb h1 hl c1
    · exact div_two va vb a b w ha hb na nb h1 h2 (by omega)

theorem IsBig.keepBy {w w' : World} {p q : Nat} {neg n0 : Bool} {v u : Value} {l : List Nat} (h : IsBig w p neg v l) (hne : p ≠ q) (hq : w.heap[q]? = some (.cells #[.bool n0, u] 40 (0, 0))) (hu : ∀ k n, u ≠ .int k n) (hg : w.grownBy w' (some q)) : IsBig w' p neg v l :=
  ⟨(hg.block p (blk_lt h.blk) (fun e => hne (Option.some.inj e))).trans h.blk, h.wd.keepP hq hu hg, h.nrm, h.sgn⟩
theorem BigIs.keepBy {w w' : World} {p q : Nat} {n0 : Bool} {u : Value} {x : Int} (h : BigIs w p x) (hne : p ≠ q) (hq : w.heap[q]? = some (.cells #[.bool n0, u] 40 (0, 0))) (hu : ∀ k n, u ≠ .int k n) (hg : w.grownBy w' (some q)) : BigIs w' p x := by
  obtain ⟨neg, v, l, hb, hx⟩ := h
  exact ⟨neg, v, l, hb.keepBy hne hq hu hg, hx⟩
theorem IsBig.growBy {w w' : World} {p : Nat} {neg : Bool} {v : Value} {l : List Nat} (h : IsBig w p neg v l) (hg : w.grownBy w' none) : IsBig w' p neg v l :=
  ⟨(hg.block p (blk_lt h.blk) (by simp)).trans h.blk, h.wd.grow hg, h.nrm, h.sgn⟩
theorem BigIs.growBy {w w' : World} {p : Nat} {x : Int} (h : BigIs w p x) (hg : w.grownBy w' none) : BigIs w' p x := by
  obtain ⟨neg, v, l, hb, hx⟩ := h
  exact ⟨neg, v, l, hb.growBy hg, hx⟩

theorem twin_mid (nx : Bool) (vx : Value) (lx : List Nat) (w W : World) (hW : w.grownBy W none) (hx : Wd w vx lx) (kx : Nrm lx) (h1 : lx.length < 35184372088832) :
    Calls Tryd.prog 44 #[vx] W fun e w' => ∃ v, e = .returned v ∧ Mid w w' nx v lx (sg nx (val lx)) := by
  refine (twin_any vx lx W (hx.grow hW) h1).mono ?_
  rintro e w1 ⟨v, rfl, hR⟩
  exact ⟨v, rfl, hR.out.1, kx, rfl, gtrans hW hR.out.2⟩

set_option maxHeartbeats 4000000 in
theorem Set_any (pz px : Nat) (nz nx : Bool) (vz vx : Value) (lx : List Nat) (w : World) (hz : w.heap[pz]? = some (.cells #[.bool nz, vz] 40 (0, 0))) (hzi : ∀ k n, vz ≠ .int k n)
    (hx : IsBig w px nx vx lx) (h1 : lx.length < 35184372088832) :
    Calls Tryd.prog 27 #[.pointer (some ⟨pz, 0, none⟩), .pointer (some ⟨px, 0, none⟩)] w fun e w' => e = .returned (.pointer (some ⟨pz, 0, none⟩)) ∧ Hid (BigIs w' pz (sg nx (val lx)) ∧ w.grownBy w' (some pz)) := by
  have cx0 := blk_cell0 hx.blk
  have cx1 := blk_cell1 hx.blk
  have twinC : Hid (∀ W, w.grownBy W none → Calls Tryd.prog 44 #[vx] W fun e w' => ∃ v, e = .returned v ∧ Mid w w' nx v lx (sg nx (val lx))) := fun W hW => twin_mid nx vx lx w W hW hx.wd hx.nrm h1
  have giveC : Hid (∀ neg v l w1 x, Mid w w1 neg v l x → Calls Tryd.prog 24 #[.pointer (some ⟨pz, 0, none⟩), .bool neg, v] w1 fun e w' => e = .returned (.pointer (some ⟨pz, 0, none⟩)) ∧ Hid (BigIs w' pz x ∧ w.grownBy w' (some pz))) := fun neg v l w1 x h => give_mid pz neg nz vz v l x w w1 hz hzi h
  have gx0 : Hid (∀ w', w.grownBy w' none → w'.cell? ⟨px, 0, none⟩ = some (.bool nx)) := fun w' h => h.cell cx0 (by simp)
  have gx1 : Hid (∀ w', w.grownBy w' none → w'.cell? ⟨px, 1, none⟩ = some vx) := fun w' h => h.cell cx1 (by simp)
  clear hz hzi hx h1 cx0 cx1
  generalize sg nx (val lx) = X at *
  go_enter Tryd.func27, Tryd.ntmps27
  go_wp2
  refine wp_region_any (by kernel_rfl) ?_
  refine wpAny_take (i := 0) (v := .pointer (some ⟨pz, 0, none⟩)) rfl (by kernel_rfl) (by kernel_rfl) (by kernel_rfl) (fun _ _ _ h => h) (Or.inl ⟨by rfl, fun w => by go_simp⟩) ?_
  simp only [Act.put, List.setIfInBounds_toArray, List.set_cons_zero, List.set_cons_succ]
  refine wpAny_take (i := 1) (v := .pointer (some ⟨px, 0, none⟩)) rfl (by kernel_rfl) (by kernel_rfl) (by kernel_rfl) (fun _ _ _ h => h) (Or.inl ⟨by rfl, fun w => by go_simp⟩) ?_
  simp only [Act.put, List.setIfInBounds_toArray, List.set_cons_zero, List.set_cons_succ]
  refine wpAny_take (i := 2) (v := .pointer (some ⟨px, 0, none⟩)) rfl (by kernel_rfl) (by kernel_rfl) (by kernel_rfl) (fun _ _ _ h => h) (Or.inl ⟨by rfl, fun w => by go_simp⟩) ?_
  simp only [Act.put, List.setIfInBounds_toArray, List.set_cons_zero, List.set_cons_succ]
  refine wpAny_take (i := 3) (v := .pointer (some ⟨px, 0, none⟩)) rfl (by kernel_rfl) (by kernel_rfl) (by kernel_rfl) (fun _ _ _ h => h) (Or.inl ⟨by rfl, fun w => by go_simp⟩) ?_
  simp only [Act.put, List.setIfInBounds_toArray, List.set_cons_zero, List.set_cons_succ]
  refine wpAny_take (i := 5) (v := .pointer (some ⟨px, 0, none⟩)) rfl (by kernel_rfl) (by kernel_rfl) (by kernel_rfl) (fun _ _ _ h => h) (Or.inl ⟨by rfl, fun w => by go_simp⟩) ?_
  simp only [Act.put, List.setIfInBounds_toArray, List.set_cons_zero, List.set_cons_succ]
  refine wpAny_take (i := 6) (v := .pointer (some ⟨px, 0, none⟩)) rfl (by kernel_rfl) (by kernel_rfl) (by kernel_rfl) (fun _ _ _ h => h) (Or.inl ⟨by rfl, fun w => by go_simp⟩) ?_
  simp only [Act.put, List.setIfInBounds_toArray, List.set_cons_zero, List.set_cons_succ]
  refine wpAny_take (i := 7) (v := .pointer (some ⟨px, 1, none⟩)) rfl (by kernel_rfl) (by kernel_rfl) (by kernel_rfl) (fun _ _ _ h => h) (Or.inl ⟨by rfl, fun w => by go_simp⟩) ?_
  simp only [Act.put, List.setIfInBounds_toArray, List.set_cons_zero, List.set_cons_succ]
  refine any_of_L (g := 10) (T := fun w' => w.grownBy w' none) _ _ _ _ ?_
  refine L_take (i := 4) (v := .bool nx) rfl rfl (by kernel_rfl) (by decide) (by kernel_rfl) (by kernel_rfl) (by kernel_rfl) (by kernel_rfl) (fun _ _ _ h => h) (Or.inl ⟨by rfl, fun w' hw' => by have c := gx0.out w' hw'; go_simp⟩) (gdr w) ?_
  simp only [Act.put, List.setIfInBounds_toArray, List.set_cons_zero, List.set_cons_succ]
  refine L_take2 (i := 8) (m := 9) (v := vx) rfl rfl rfl (by kernel_rfl) (by kernel_rfl) (by decide) (by kernel_rfl) (by kernel_rfl) (by kernel_rfl) (by kernel_rfl) (by kernel_rfl) (fun _ _ _ h => h) (Or.inl ⟨by rfl, fun w' hw' => by have c := gx1.out w' hw'; go_simp⟩) (gdr w) ?_
  simp only [Act.put, List.setIfInBounds_toArray, List.set_cons_zero, List.set_cons_succ]
  refine L_one (i := 9) (by kernel_rfl) ?_
  refine wpOp_step rfl (fun K hK => ?_)
  rw [if_pos (by rfl)]
  go_wp2_with fail
  refine (twinC.out _ (gdr w)).mono ?_
  rintro e w1 ⟨v, rfl, hm⟩
  refine hK _ _ ⟨hm.2.2.2, ?_⟩
  clear hK K
  have Hm : Hid (Mid w w1 nx v lx X) := hm
  clear hm
  refine L_go (by kernel_rfl) (by kernel_rfl) ?_
  refine wpOp_step rfl (fun K hK => ?_)
  rw [if_pos (by rfl)]
  go_wp2_with fail
  refine (giveC.out _ v lx w1 X Hm.out).mono ?_
  rintro e w2 ⟨rfl, hR⟩
  refine hK _ _ ?_
  clear hK K Hm
  refine any_one (i := 11) (by kernel_rfl) ?_
  refine wpOp_step rfl (fun K hK => ?_)
  rw [if_pos (by rfl)]
  have hK' : Shut (∀ a w, wpAny _ _ _ _ _ _ a w → K a w) := hK
  clear hK
  go_wp2
  refine hK'.out _ _ ?_
  clear hK' K
  refine wpAny_done (by kernel_rfl) ?_ _
  go_wp2
  go_ret
  exact ⟨rfl, hR⟩
end Go.Proofs.YtphlcjghcffnbaaDoor
