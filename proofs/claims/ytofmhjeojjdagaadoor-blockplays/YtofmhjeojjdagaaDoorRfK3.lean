/-
  The contracts of Flush on dayref2's disk, and of dayref2.New.
-/
import Derived.Test.YtofmhjeojjdagaaDoorRfK2
namespace Go.Proofs.YtofmhjeojjdagaaDoor
set_option linter.unusedVariables false
set_option linter.unusedSimpArgs false
set_option maxRecDepth 100000
open Go.RowKit Go.Lib

section
variable {W w' : World} {lo kp : Nat} {vn vs vw v : Value} {ns ss : List Value} {ws : List (Nat × Value)} {D : Dk}
theorem KAt.safeNil (h : KAt W lo kp vn vs vw ns ss ws D) : KAt (W.setCell ⟨kp, 1, none⟩ (.slice none 0 0)) lo kp vn (.slice none 0 0) vw ns [] ws { D with safe := [] } := by
  have hk : ∀ (b : Nat) (cs : Array Value) (t : TypeId), W.heap[b]? = some (.cells cs t (0, 0)) → t ≠ 44 → (W.setCell ⟨kp, 1, none⟩ (.slice none 0 0)).heap[b]? = W.heap[b]? := fun b cs t e ht => Below.heap_setCell _ _ _ _ (tag_ne e h.box ht)
  have hu : KeepU W (W.setCell ⟨kp, 1, none⟩ (.slice none 0 0)) := fun g cs e => hk g cs _ e (by decide)
  exact ⟨(box_set h.box 1 _).trans rfl, h.lk, ownsRow_keep h.now (fun b cs e _ => hk b cs _ e (by decide)), World.ownsRow_nil _ _ _ _, ownsRow_keep h.since (fun b cs e _ => hk b cs _ e (by decide)), (fun j hj e => by cases e), h.hn.keep hu, ⟨rfl, (fun j hj => by simp at hj)⟩, h.hw.keep hu, h.o1, by simp⟩
theorem KAt.sinceNil (h : KAt W lo kp vn vs vw ns ss ws D) : KAt (W.setCell ⟨kp, 2, none⟩ (.slice none 0 0)) lo kp vn vs (.slice none 0 0) ns ss [] { D with chg := [] } := by
  have hk : ∀ (b : Nat) (cs : Array Value) (t : TypeId), W.heap[b]? = some (.cells cs t (0, 0)) → t ≠ 44 → (W.setCell ⟨kp, 2, none⟩ (.slice none 0 0)).heap[b]? = W.heap[b]? := fun b cs t e ht => Below.heap_setCell _ _ _ _ (tag_ne e h.box ht)
  have hu : KeepU W (W.setCell ⟨kp, 2, none⟩ (.slice none 0 0)) := fun g cs e => hk g cs _ e (by decide)
  exact ⟨(box_set h.box 2 _).trans rfl, h.lk, ownsRow_keep h.now (fun b cs e _ => hk b cs _ e (by decide)), ownsRow_keep h.safe (fun b cs e _ => hk b cs _ e (by decide)), World.ownsRow_nil _ _ _ _, h.ne, h.hn.keep hu, h.hs.keep hu, ⟨rfl, (fun j hj => by simp at hj)⟩, h.o1, h.o2⟩
theorem KAt.safeCopy (h : KAt W lo kp vn (.slice none 0 0) vw ns [] ws D) (hg : W.grownBy w' none) (hr : w'.ownsRow lo 33 1 v ns.length ns) (hat : v.ownBlock = none ∨ v.ownBlock = some W.heap.size) : KAt (w'.setCell ⟨kp, 1, none⟩ v) lo kp vn v vw ns ns ws { D with safe := D.now } := by
  have hk1 : ∀ (b : Nat) (cs : Array Value) (t : TypeId), W.heap[b]? = some (.cells cs t (0, 0)) → w'.heap[b]? = W.heap[b]? := fun b cs t e => hg.block b (Array.getElem?_eq_some_iff.1 e).1 (by simp)
  have hbox := (hk1 _ _ _ h.box).trans h.box
  have hk2 : ∀ (b : Nat) (cs : Array Value) (t : TypeId), w'.heap[b]? = some (.cells cs t (0, 0)) → t ≠ 44 → (w'.setCell ⟨kp, 1, none⟩ v).heap[b]? = w'.heap[b]? := fun b cs t e ht => Below.heap_setCell _ _ _ _ (tag_ne e hbox ht)
  have hk : ∀ (b : Nat) (cs : Array Value) (t : TypeId), W.heap[b]? = some (.cells cs t (0, 0)) → t ≠ 44 → (w'.setCell ⟨kp, 1, none⟩ v).heap[b]? = W.heap[b]? := fun b cs t e h2 => (hk2 b cs t ((hk1 b cs t e).trans e) h2).trans (hk1 b cs t e)
  have hu : KeepU W (w'.setCell ⟨kp, 1, none⟩ v) := fun g cs e => hk g cs _ e (by decide)
  refine ⟨(box_set hbox 1 v).trans rfl, h.lk, ownsRow_keep h.now (fun b cs e _ => hk b cs _ e (by decide)), ownsRow_keep hr (fun b cs e _ => hk2 b cs _ e (by decide)), ownsRow_keep h.since (fun b cs e _ => hk b cs _ e (by decide)), fun j hj e => ?_, h.hn.keep hu, h.hn.keep hu, h.hw.keep hu, h.o1, h.o1⟩
  obtain ⟨_, cs, hh⟩ := own_tag h.now j hj
  have hlt := (Array.getElem?_eq_some_iff.1 hh).1
  rcases hat with ha | ha
  · rw [ha] at e; cases e
  · rw [ha] at e; cases e; omega
end
theorem b_tinfo : ∃ q, Tryd.prog.info? 33 = some q ∧ q.zero = some (.slice none 0 0) ∧ q.size = 1 ∧ q.bytes = 24 := by
  have h : (Tryd.prog.info? 33).map (fun i => (i.zero, i.size, i.bytes)) = some (some (.slice none 0 0), 1, 24) := by kernel_rfl
  obtain ⟨q, hq, hz⟩ := Option.map_eq_some_iff.1 h
  simp only [Prod.mk.injEq] at hz
  exact ⟨q, hq, hz.1, hz.2.1, hz.2.2⟩
/-- append(nil, row...): a row of one's own. -/
theorem append_copy (W : World) (lo : Nat) (vn : Value) (ns : List Value) (h : W.ownsRow lo 33 1 vn ns.length ns) (ho : ∀ v ∈ ns, v.oneCell' = true) (hl : ns.length ≤ 1000000) (hlo : lo ≤ W.heap.size) (ty : TypeId) :
    ∃ v w', (Builtin.append_ #[41, 41] ty #[.slice none 0 0, vn]).run Tryd.prog W = .ok v w' ∧ w'.ownsRow lo 33 1 v ns.length ns ∧ W.grownBy w' none ∧ (v.ownBlock = none ∨ v.ownBlock = some W.heap.size) := by
  obtain ⟨qi, hqi, hqz⟩ := b_tinfo
  rcases h.2 with ⟨rfl, h0⟩ | ⟨g, cap, cur, rfl, hb, hg, hm, hc, hs, ht⟩
  · have e : ns = [] := List.eq_nil_of_length_eq_zero h0
    subst e
    refine ⟨.slice none 0 0, W, ?_, World.ownsRow_nil _ _ _ _, ⟨rfl, rfl, rfl, Nat.le_refl _, fun _ _ _ => rfl⟩, .inl rfl⟩
    simp [Builtin.append_, run_underlying Tryd.underlying41, sizeOf, typeInfo, hqi, Builtin.lenOf, Builtin.firstCells, loadCells, loadCellsFrom]
  · obtain ⟨v, w', h1, h2, h3, h4, h5⟩ := run_append_own_at (P := Tryd.prog) W lo 41 ty 33 qi (.slice none 0 0) 1 24 Tryd.underlying41 hqi hqz.1 hqz.2.1 hqz.2.2 rfl (by omega) (.slice none 0 0) 0 [] (World.ownsRow_nil _ _ _ _) ⟨g, 0, none⟩ ns.length cap ns (by omega) (h.cells (g := g) rfl) ho (by unfold maxLen; omega) (by omega) hlo
    rw [Nat.zero_add, List.nil_append] at h2
    exact ⟨v, w', h1, h2, h3, h5⟩

theorem kflush_bad (lo kp : Nat) (D : Dk) (w : World) (h : IsK w lo kp D) (h0 : D.failing = true) :
    Calls Tryd.prog 11 #[.pointer (some ⟨kp, 0, none⟩)] w fun e w' => e = .returned (.int .i64 7) ∧ Still w w' := by
  obtain ⟨vn, vs, vw, ns, ss, ws, h⟩ := h
  have c3 := h.c3
  have c4 := h.c4
  obtain ⟨s1, s2⟩ := stop_fail D h0
  generalize stopOf D.fail = f at *
  generalize (D.steps : Int) = st at *
  clear h h0
  go_enter Tryd.func11, Tryd.ntmps11
  go_wp2
  go_region_held3 (fun u => u.cell? ⟨kp, 3, none⟩ = some (.int .i64 st) ∧ u.cell? ⟨kp, 4, none⟩ = some (.int .i64 f)) (go_keep) (fail)
  go_wp2
  go_ret
  exact ⟨rfl, Still.drew _⟩

set_option maxHeartbeats 8000000 in
theorem kflush_ok (lo kp : Nat) (D : Dk) (w : World) (h : IsK w lo kp D) (hlo : lo ≤ w.heap.size) (hf : D.failing = false) (hs0 : D.steps ≤ 1000000) (hnn : D.now.length ≤ 1000000) :
    Calls Tryd.prog 11 #[.pointer (some ⟨kp, 0, none⟩)] w fun e w' => e = .returned (.int .i64 0) ∧ Hid (IsK w' lo kp D.flush ∧ Keeps lo kT w w') := by
  obtain ⟨vn, vs, vw, ns, ss, ws, h⟩ := h
  have c3 := h.c3
  have c4 := h.c4
  generalize hff : stopOf D.fail = f at *
  rcases stop_not D hf with hs | ⟨hs1, hs2⟩
  · rw [hff] at hs
    have hd0 : decide (0 ≤ f) = false := decide_eq_false (by omega)
    go_enter Tryd.func11, Tryd.ntmps11
    go_wp2
    go_quiet (fail)
    rename Nat => nq
    have hst : Still w (w.drewN nq) := Still.drewN w nq
    generalize w.drewN nq = U at *
    have hd1 := h.below (hst.below _)
    have hk1 : Keeps lo kT w U := hst.keeps _ _
    have c3' := hd1.c3
    have f3' := hd1.fz 3
    have hst1 : (D.steps : Int) + 1 = ((D.steps + 1 : Nat) : Int) := by omega
    have hd2 := hd1.setSteps (D.steps + 1)
    have hk2 := hk1.setCell (o := 3) hd1.box (by simp [kT]) hd1.lk (.int .i64 ((D.steps + 1 : Nat) : Int))
    rw [← hst1] at hd2 hk2
    have c1' := hd2.c1
    have f1' := hd2.fz 1
    have hd3 := hd2.safeNil
    have hk3 := hk2.setCell (o := 1) hd2.box (by simp [kT]) hd2.lk (.slice none 0 0)
    obtain ⟨as', ls', cs', hvs⟩ := slice_of h.safe
    subst hvs
    obtain ⟨an', ln', cn', hvn⟩ := slice_of h.now
    subst hvn
    obtain ⟨W3, hW3⟩ : ∃ W3, (U.setCell ⟨kp, 3, none⟩ (.int .i64 ((D.steps : Int) + 1))).setCell ⟨kp, 1, none⟩ (.slice none 0 0) = W3 := ⟨_, rfl⟩
    rw [hW3] at hd3 hk3
    have HD3 : Hid (KAt _ _ _ _ _ _ _ _ _ _) := hd3
    have HK3 : Hid (Keeps lo kT w W3) := hk3
    have hs7 : (D.steps : Int) ≤ 1000000 := by omega
    clear hd1 hk1 hd2 hk2 hd3 hk3 h hst c3 c4 hst1
    go_wp2
    have c0d : W3.drew.cell? ⟨kp, 0, none⟩ = some (.slice an' ln' cn') := HD3.out.c0
    have c1d : W3.drew.cell? ⟨kp, 1, none⟩ = some (.slice none 0 0) := HD3.out.c1
    have hd4 := HD3.out.below ((Still.drew W3).below _)
    have hlo4 : lo ≤ W3.drew.heap.size := Nat.le_trans hlo HK3.out.size
    obtain ⟨v', w5, hrun, hr5, hg5, hat5⟩ := append_copy W3.drew lo _ ns hd4.now hd4.o1 (by rw [hd4.hn.1]; exact hnn) hlo4 41
    have hd5 := hd4.safeCopy hg5 hr5 hat5
    have hb5 : w5.heap[kp]? = _ := (hg5.block kp hd4.lt (by simp)).trans hd4.box
    have c15 : w5.cell? ⟨kp, 1, none⟩ = some (.slice none 0 0) := by simp [World.cell?, hb5]
    have f15 : w5.frozen? ⟨kp, 1, none⟩ = false := by simp [World.frozen?, hb5]
    have hk5 : Keeps lo kT w w5 := HK3.out.drew.grown hg5 (fun j hj => by cases hj)
    have hk6 := hk5.setCell (o := 1) hb5 (by simp [kT]) hd4.lk v'
    obtain ⟨av, lv, cpv, rfl⟩ := slice_of hr5
    have hd7 := hd5.sinceNil
    have c26 := hd5.c2
    have f26 := hd5.fz 2
    obtain ⟨aw, lw, cw, hvw⟩ := slice_of hd5.since
    rw [hvw] at c26
    have hk7 := hk6.setCell (o := 2) hd5.box (by simp [kT]) hd5.lk (.slice none 0 0)
    have HD7 : Hid (KAt _ _ _ _ _ _ _ _ _ _) := hd7
    have HK7 : Hid (Keeps _ _ _ _) := hk7
    clear hd4 hd5 hk5 hk6 hd7 hk7 hr5 hg5 hat5 hb5 HD3 HK3 hvw
    refine wp_region_drawn (by kernel_rfl) ?_
    refine wpAny_take (i := 0) (v := .pointer (some ⟨kp, 0, none⟩)) rfl (by kernel_rfl) (by kernel_rfl) (by kernel_rfl) (fun _ _ _ h => h) (Or.inl ⟨by rfl, fun w => by go_simp⟩) ?_
    simp only [Act.put, List.getElem_toArray, List.getElem_cons_succ, List.getElem_cons_zero, List.setIfInBounds_toArray, List.set_cons_zero, List.set_cons_succ]
    refine wpAny_take (i := 1) (v := .pointer (some ⟨kp, 0, none⟩)) rfl (by kernel_rfl) (by kernel_rfl) (by kernel_rfl) (fun _ _ _ h => h) (Or.inl ⟨by rfl, fun w => by go_simp⟩) ?_
    simp only [Act.put, List.getElem_toArray, List.getElem_cons_succ, List.getElem_cons_zero, List.setIfInBounds_toArray, List.set_cons_zero, List.set_cons_succ]
    refine wpAny_take (i := 2) (v := .pointer (some ⟨kp, 0, none⟩)) rfl (by kernel_rfl) (by kernel_rfl) (by kernel_rfl) (fun _ _ _ h => h) (Or.inl ⟨by rfl, fun w => by go_simp⟩) ?_
    simp only [Act.put, List.getElem_toArray, List.getElem_cons_succ, List.getElem_cons_zero, List.setIfInBounds_toArray, List.set_cons_zero, List.set_cons_succ]
    refine wpAny_take (i := 3) (v := .pointer (some ⟨kp, 1, none⟩)) rfl (by kernel_rfl) (by kernel_rfl) (by kernel_rfl) (fun _ _ _ h => h) (Or.inl ⟨by rfl, fun w => by go_simp⟩) ?_
    simp only [Act.put, List.getElem_toArray, List.getElem_cons_succ, List.getElem_cons_zero, List.setIfInBounds_toArray, List.set_cons_zero, List.set_cons_succ]
    refine wpAny_take (i := 5) (v := .pointer (some ⟨kp, 0, none⟩)) rfl (by kernel_rfl) (by kernel_rfl) (by kernel_rfl) (fun _ _ _ h => h) (Or.inl ⟨by rfl, fun w => by go_simp⟩) ?_
    simp only [Act.put, List.getElem_toArray, List.getElem_cons_succ, List.getElem_cons_zero, List.setIfInBounds_toArray, List.set_cons_zero, List.set_cons_succ]
    refine wpAny_take (i := 6) (v := .pointer (some ⟨kp, 0, none⟩)) rfl (by kernel_rfl) (by kernel_rfl) (by kernel_rfl) (fun _ _ _ h => h) (Or.inl ⟨by rfl, fun w => by go_simp⟩) ?_
    simp only [Act.put, List.getElem_toArray, List.getElem_cons_succ, List.getElem_cons_zero, List.setIfInBounds_toArray, List.set_cons_zero, List.set_cons_succ]
    refine wpAny_take (i := 7) (v := .pointer (some ⟨kp, 0, none⟩)) rfl (by kernel_rfl) (by kernel_rfl) (by kernel_rfl) (fun _ _ _ h => h) (Or.inl ⟨by rfl, fun w => by go_simp⟩) ?_
    simp only [Act.put, List.getElem_toArray, List.getElem_cons_succ, List.getElem_cons_zero, List.setIfInBounds_toArray, List.set_cons_zero, List.set_cons_succ]
    refine any_of_L (g := 9) (T := fun u => u = W3.drew) _ _ _ _ ?_
    refine L_take (i := 4) (v := .slice none 0 0) rfl rfl (by kernel_rfl) (by decide) (by kernel_rfl) (by kernel_rfl) (by kernel_rfl) (by kernel_rfl) (fun _ _ _ h => h) (Or.inl ⟨by rfl, fun w' hw' => by subst hw'; go_simp⟩) rfl ?_
    simp only [Act.put, List.getElem_toArray, List.getElem_cons_succ, List.getElem_cons_zero, List.setIfInBounds_toArray, List.set_cons_zero, List.set_cons_succ]
    refine L_take (i := 8) (v := .slice an' ln' cn') rfl rfl (by kernel_rfl) (by decide) (by kernel_rfl) (by kernel_rfl) (by kernel_rfl) (by kernel_rfl) (fun _ _ _ h => h) (Or.inl ⟨by rfl, fun w' hw' => by subst hw'; go_simp⟩) rfl ?_
    simp only [Act.put, List.getElem_toArray, List.getElem_cons_succ, List.getElem_cons_zero, List.setIfInBounds_toArray, List.set_cons_zero, List.set_cons_succ]
    refine L_go (by kernel_rfl) (by kernel_rfl) ?_
    refine wpOp_step rfl ?_
    intro K hK
    rw [if_pos (by rfl)]
    refine wp_append_run (.tmp 33) (.tmp 37) 41 41 (by rfl) (.slice none 0 0) (.slice an' ln' cn') (by rfl) (by rfl) hrun ?_
    refine hK _ _ ?_
    clear hK K hrun c0d c1d
    simp only [Act.put, List.getElem_toArray, List.getElem_cons_succ, List.getElem_cons_zero, List.setIfInBounds_toArray, List.set_cons_zero, List.set_cons_succ]
    refine any_one (i := 10) (by kernel_rfl) ?_
    refine wpOp_step rfl ?_
    intro K hK
    rw [if_pos (by rfl)]
    have hK' : Shut (∀ a w, _ → K a w) := hK
    clear hK
    go_wp2
    refine hK'.out _ _ ?_
    clear hK' K
    refine any_one (i := 11) (by kernel_rfl) ?_
    refine wpOp_step rfl ?_
    intro K hK
    rw [if_pos (by rfl)]
    have hK' : Shut (∀ a w, _ → K a w) := hK
    clear hK
    go_wp2
    refine hK'.out _ _ ?_
    clear hK' K
    refine any_one (i := 12) (by kernel_rfl) ?_
    refine wpOp_step rfl ?_
    intro K hK
    rw [if_pos (by rfl)]
    have hK' : Shut (∀ a w, _ → K a w) := hK
    clear hK
    go_wp2
    refine hK'.out _ _ ?_
    clear hK' K
    refine wpAny_done (by kernel_rfl) ?_ _
    go_wp2
    go_ret
    exact ⟨rfl, ⟨_, _, _, _, _, _, HD7.out⟩, HK7.out⟩
  · rw [hff] at hs1 hs2
    have hd1' : decide (f ≤ (D.steps : Int)) = false := decide_eq_false (by omega)
    go_enter Tryd.func11, Tryd.ntmps11
    go_wp2
    go_region_held3 (fun u => u.cell? ⟨kp, 3, none⟩ = some (.int .i64 (D.steps : Int)) ∧ u.cell? ⟨kp, 4, none⟩ = some (.int .i64 f)) (go_keep) (fail)
    have hst : Still w w.drew := Still.drew w
    clear hd1'
    generalize w.drew = U at *
    have hd1 := h.below (hst.below _)
    have hk1 : Keeps lo kT w U := hst.keeps _ _
    have c3' := hd1.c3
    have f3' := hd1.fz 3
    have hst1 : (D.steps : Int) + 1 = ((D.steps + 1 : Nat) : Int) := by omega
    have hd2 := hd1.setSteps (D.steps + 1)
    have hk2 := hk1.setCell (o := 3) hd1.box (by simp [kT]) hd1.lk (.int .i64 ((D.steps + 1 : Nat) : Int))
    rw [← hst1] at hd2 hk2
    have c1' := hd2.c1
    have f1' := hd2.fz 1
    have hd3 := hd2.safeNil
    have hk3 := hk2.setCell (o := 1) hd2.box (by simp [kT]) hd2.lk (.slice none 0 0)
    obtain ⟨as', ls', cs', hvs⟩ := slice_of h.safe
    subst hvs
    obtain ⟨an', ln', cn', hvn⟩ := slice_of h.now
    subst hvn
    obtain ⟨W3, hW3⟩ : ∃ W3, (U.setCell ⟨kp, 3, none⟩ (.int .i64 ((D.steps : Int) + 1))).setCell ⟨kp, 1, none⟩ (.slice none 0 0) = W3 := ⟨_, rfl⟩
    rw [hW3] at hd3 hk3
    have HD3 : Hid (KAt _ _ _ _ _ _ _ _ _ _) := hd3
    have HK3 : Hid (Keeps lo kT w W3) := hk3
    have hs7 : (D.steps : Int) ≤ 1000000 := by omega
    clear hd1 hk1 hd2 hk2 hd3 hk3 h hst c3 c4 hst1
    go_wp2
    have c0d : W3.drew.cell? ⟨kp, 0, none⟩ = some (.slice an' ln' cn') := HD3.out.c0
    have c1d : W3.drew.cell? ⟨kp, 1, none⟩ = some (.slice none 0 0) := HD3.out.c1
    have hd4 := HD3.out.below ((Still.drew W3).below _)
    have hlo4 : lo ≤ W3.drew.heap.size := Nat.le_trans hlo HK3.out.size
    obtain ⟨v', w5, hrun, hr5, hg5, hat5⟩ := append_copy W3.drew lo _ ns hd4.now hd4.o1 (by rw [hd4.hn.1]; exact hnn) hlo4 41
    have hd5 := hd4.safeCopy hg5 hr5 hat5
    have hb5 : w5.heap[kp]? = _ := (hg5.block kp hd4.lt (by simp)).trans hd4.box
    have c15 : w5.cell? ⟨kp, 1, none⟩ = some (.slice none 0 0) := by simp [World.cell?, hb5]
    have f15 : w5.frozen? ⟨kp, 1, none⟩ = false := by simp [World.frozen?, hb5]
    have hk5 : Keeps lo kT w w5 := HK3.out.drew.grown hg5 (fun j hj => by cases hj)
    have hk6 := hk5.setCell (o := 1) hb5 (by simp [kT]) hd4.lk v'
    obtain ⟨av, lv, cpv, rfl⟩ := slice_of hr5
    have hd7 := hd5.sinceNil
    have c26 := hd5.c2
    have f26 := hd5.fz 2
    obtain ⟨aw, lw, cw, hvw⟩ := slice_of hd5.since
    rw [hvw] at c26
    have hk7 := hk6.setCell (o := 2) hd5.box (by simp [kT]) hd5.lk (.slice none 0 0)
    have HD7 : Hid (KAt _ _ _ _ _ _ _ _ _ _) := hd7
    have HK7 : Hid (Keeps _ _ _ _) := hk7
    clear hd4 hd5 hk5 hk6 hd7 hk7 hr5 hg5 hat5 hb5 HD3 HK3 hvw
    refine wp_region_drawn (by kernel_rfl) ?_
    refine wpAny_take (i := 0) (v := .pointer (some ⟨kp, 0, none⟩)) rfl (by kernel_rfl) (by kernel_rfl) (by kernel_rfl) (fun _ _ _ h => h) (Or.inl ⟨by rfl, fun w => by go_simp⟩) ?_
    simp only [Act.put, List.getElem_toArray, List.getElem_cons_succ, List.getElem_cons_zero, List.setIfInBounds_toArray, List.set_cons_zero, List.set_cons_succ]
    refine wpAny_take (i := 1) (v := .pointer (some ⟨kp, 0, none⟩)) rfl (by kernel_rfl) (by kernel_rfl) (by kernel_rfl) (fun _ _ _ h => h) (Or.inl ⟨by rfl, fun w => by go_simp⟩) ?_
    simp only [Act.put, List.getElem_toArray, List.getElem_cons_succ, List.getElem_cons_zero, List.setIfInBounds_toArray, List.set_cons_zero, List.set_cons_succ]
    refine wpAny_take (i := 2) (v := .pointer (some ⟨kp, 0, none⟩)) rfl (by kernel_rfl) (by kernel_rfl) (by kernel_rfl) (fun _ _ _ h => h) (Or.inl ⟨by rfl, fun w => by go_simp⟩) ?_
    simp only [Act.put, List.getElem_toArray, List.getElem_cons_succ, List.getElem_cons_zero, List.setIfInBounds_toArray, List.set_cons_zero, List.set_cons_succ]
    refine wpAny_take (i := 3) (v := .pointer (some ⟨kp, 1, none⟩)) rfl (by kernel_rfl) (by kernel_rfl) (by kernel_rfl) (fun _ _ _ h => h) (Or.inl ⟨by rfl, fun w => by go_simp⟩) ?_
    simp only [Act.put, List.getElem_toArray, List.getElem_cons_succ, List.getElem_cons_zero, List.setIfInBounds_toArray, List.set_cons_zero, List.set_cons_succ]
    refine wpAny_take (i := 5) (v := .pointer (some ⟨kp, 0, none⟩)) rfl (by kernel_rfl) (by kernel_rfl) (by kernel_rfl) (fun _ _ _ h => h) (Or.inl ⟨by rfl, fun w => by go_simp⟩) ?_
    simp only [Act.put, List.getElem_toArray, List.getElem_cons_succ, List.getElem_cons_zero, List.setIfInBounds_toArray, List.set_cons_zero, List.set_cons_succ]
    refine wpAny_take (i := 6) (v := .pointer (some ⟨kp, 0, none⟩)) rfl (by kernel_rfl) (by kernel_rfl) (by kernel_rfl) (fun _ _ _ h => h) (Or.inl ⟨by rfl, fun w => by go_simp⟩) ?_
    simp only [Act.put, List.getElem_toArray, List.getElem_cons_succ, List.getElem_cons_zero, List.setIfInBounds_toArray, List.set_cons_zero, List.set_cons_succ]
    refine wpAny_take (i := 7) (v := .pointer (some ⟨kp, 0, none⟩)) rfl (by kernel_rfl) (by kernel_rfl) (by kernel_rfl) (fun _ _ _ h => h) (Or.inl ⟨by rfl, fun w => by go_simp⟩) ?_
    simp only [Act.put, List.getElem_toArray, List.getElem_cons_succ, List.getElem_cons_zero, List.setIfInBounds_toArray, List.set_cons_zero, List.set_cons_succ]
    refine any_of_L (g := 9) (T := fun u => u = W3.drew) _ _ _ _ ?_
    refine L_take (i := 4) (v := .slice none 0 0) rfl rfl (by kernel_rfl) (by decide) (by kernel_rfl) (by kernel_rfl) (by kernel_rfl) (by kernel_rfl) (fun _ _ _ h => h) (Or.inl ⟨by rfl, fun w' hw' => by subst hw'; go_simp⟩) rfl ?_
    simp only [Act.put, List.getElem_toArray, List.getElem_cons_succ, List.getElem_cons_zero, List.setIfInBounds_toArray, List.set_cons_zero, List.set_cons_succ]
    refine L_take (i := 8) (v := .slice an' ln' cn') rfl rfl (by kernel_rfl) (by decide) (by kernel_rfl) (by kernel_rfl) (by kernel_rfl) (by kernel_rfl) (fun _ _ _ h => h) (Or.inl ⟨by rfl, fun w' hw' => by subst hw'; go_simp⟩) rfl ?_
    simp only [Act.put, List.getElem_toArray, List.getElem_cons_succ, List.getElem_cons_zero, List.setIfInBounds_toArray, List.set_cons_zero, List.set_cons_succ]
    refine L_go (by kernel_rfl) (by kernel_rfl) ?_
    refine wpOp_step rfl ?_
    intro K hK
    rw [if_pos (by rfl)]
    refine wp_append_run (.tmp 33) (.tmp 37) 41 41 (by rfl) (.slice none 0 0) (.slice an' ln' cn') (by rfl) (by rfl) hrun ?_
    refine hK _ _ ?_
    clear hK K hrun c0d c1d
    simp only [Act.put, List.getElem_toArray, List.getElem_cons_succ, List.getElem_cons_zero, List.setIfInBounds_toArray, List.set_cons_zero, List.set_cons_succ]
    refine any_one (i := 10) (by kernel_rfl) ?_
    refine wpOp_step rfl ?_
    intro K hK
    rw [if_pos (by rfl)]
    have hK' : Shut (∀ a w, _ → K a w) := hK
    clear hK
    go_wp2
    refine hK'.out _ _ ?_
    clear hK' K
    refine any_one (i := 11) (by kernel_rfl) ?_
    refine wpOp_step rfl ?_
    intro K hK
    rw [if_pos (by rfl)]
    have hK' : Shut (∀ a w, _ → K a w) := hK
    clear hK
    go_wp2
    refine hK'.out _ _ ?_
    clear hK' K
    refine any_one (i := 12) (by kernel_rfl) ?_
    refine wpOp_step rfl ?_
    intro K hK
    rw [if_pos (by rfl)]
    have hK' : Shut (∀ a w, _ → K a w) := hK
    clear hK
    go_wp2
    refine hK'.out _ _ ?_
    clear hK' K
    refine wpAny_done (by kernel_rfl) ?_ _
    go_wp2
    go_ret
    exact ⟨rfl, ⟨_, _, _, _, _, _, HD7.out⟩, HK7.out⟩
end Go.Proofs.YtofmhjeojjdagaaDoor
