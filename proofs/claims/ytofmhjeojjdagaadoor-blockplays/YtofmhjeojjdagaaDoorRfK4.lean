/-
  The contract of dayref2.New.
-/
import Derived.Test.YtofmhjeojjdagaaDoorRfK3
namespace Go.Proofs.YtofmhjeojjdagaaDoor
set_option linter.unusedVariables false
set_option linter.unusedSimpArgs false
set_option maxRecDepth 100000
open Go.RowKit Go.Lib

theorem KAt.nowMore {W w' : World} {lo kp : Nat} {vn v x : Value} {ns : List Value} {D : Dk} {b : Bk} (h : KAt W lo kp vn (.slice none 0 0) (.slice none 0 0) ns [] [] D) (hx : Hb W x b) (ho : x.oneCell' = true) (hg : W.grownBy w' vn.ownBlock) (hr : w'.ownsRow lo 33 1 v (ns.length + 1) (ns ++ [x])) :
    KAt (w'.setCell ⟨kp, 0, none⟩ v) lo kp v (.slice none 0 0) (.slice none 0 0) (ns ++ [x]) [] [] { D with now := D.now ++ [b] } := by
  have hk1 : ∀ (b : Nat) (cs : Array Value) (t : TypeId), W.heap[b]? = some (.cells cs t (0, 0)) → t ≠ 33 → w'.heap[b]? = W.heap[b]? := fun b cs t e ht => hg.block b (Array.getElem?_eq_some_iff.1 e).1 (fun eb => by
    obtain ⟨_, cs', hh⟩ := own_tag h.now b eb.symm
    exact tag_ne e hh ht rfl)
  have hbox := (hk1 _ _ _ h.box (by decide)).trans h.box
  have hk2 : ∀ (b : Nat) (cs : Array Value) (t : TypeId), w'.heap[b]? = some (.cells cs t (0, 0)) → t ≠ 44 → (w'.setCell ⟨kp, 0, none⟩ v).heap[b]? = w'.heap[b]? := fun b cs t e ht => Below.heap_setCell _ _ _ _ (tag_ne e hbox ht)
  have hu : KeepU W (w'.setCell ⟨kp, 0, none⟩ v) := fun g cs e => (hk2 g cs _ ((hk1 g cs _ e (by decide)).trans e) (by decide)).trans (hk1 g cs _ e (by decide))
  refine ⟨(box_set hbox 0 v).trans rfl, h.lk, ?_, World.ownsRow_nil _ _ _ _, World.ownsRow_nil _ _ _ _, (fun j hj e => by cases e), (h.hn.keep hu).snoc x b (hx.keep hu), h.hs.keep hu, h.hw.keep hu, fun y hy => ?_, h.o2⟩
  · rw [List.length_append, List.length_singleton]
    exact ownsRow_keep hr (fun b cs e _ => hk2 b cs _ e (by decide))
  · rcases List.mem_append.1 hy with hy | hy
    · exact h.o1 y hy
    · rw [List.mem_singleton.1 hy]; exact ho

def dkN (m : Nat) : Dk := ⟨List.replicate m bk0, [], [], 0, -1⟩
theorem dkN_succ (m : Nat) : ({ dkN m with now := (dkN m).now ++ [bk0] } : Dk) = dkN (m + 1) := by simp [dkN, List.replicate_succ']

set_option maxHeartbeats 8000000 in
theorem knew_ok (n : Nat) (w : World) (hn : n ≤ 200) :
    Calls Tryd.prog 6 #[.int .i64 (n : Int)] w fun e w' => ∃ kp, e = .returned (.pointer (some ⟨kp, 0, none⟩)) ∧ Hid (IsK w' w.heap.size kp (dk0 n) ∧ Below w.heap.size w w') := by
  have hmk : ∀ W, (Instr.makeSlice 33 (.int .i64 64) (.int .i64 64)).run Tryd.prog W = .ok (.slice (some ⟨W.heap.size, 0, none⟩) 64 64) (W.alloc (.cells (byC (List.replicate 64 0)).toArray 5)) := fun W => by
    have eZ : madeCells #[Value.int .u8 0] 64 = (byC (List.replicate 64 0)).toArray := by kernel_rfl
    rw [← eZ]
    exact run_make_row' (P := Tryd.prog) 33 5 (.int .u8 0) 1 Tryd.underlying33 u8_info rfl .i64 .i64 64 (by omega) (by omega) W
  have Hx : Hid (∀ W : World, Hb (W.alloc (.cells (byC (List.replicate 64 0)).toArray 5)) (.slice (some ⟨W.heap.size, 0, none⟩) 64 64) bk0) := fun W => .inr ⟨rfl, _, rfl, new_heap W _⟩
  generalize (byC (List.replicate 64 0)).toArray = Z at *
  have hd0 : KAt (w.alloc (.cells #[.slice none 0 0, .slice none 0 0, .slice none 0 0, .int .i64 0, .int .i64 (-1)] 44)) w.heap.size w.heap.size (.slice none 0 0) (.slice none 0 0) (.slice none 0 0) [] [] [] (dkN 0) :=
    ⟨new_heap w _, Nat.le_refl _, World.ownsRow_nil _ _ _ _, World.ownsRow_nil _ _ _ _, World.ownsRow_nil _ _ _ _, (fun j hj e => by cases e), ⟨rfl, (fun j hj => by simp [dkN] at hj)⟩, ⟨rfl, (fun j hj => by simp [dkN] at hj)⟩, ⟨rfl, (fun j hj => by simp [dkN] at hj)⟩, by simp, by simp⟩
  have hb0 := (Below.refl w.heap.size w).alloc (Nat.le_refl _) (.cells #[.slice none 0 0, .slice none 0 0, .slice none 0 0, .int .i64 0, .int .i64 (-1)] 44)
  have H0 : Hid (∃ vn ns, KAt (w.alloc (.cells #[.slice none 0 0, .slice none 0 0, .slice none 0 0, .int .i64 0, .int .i64 (-1)] 44)) w.heap.size w.heap.size vn (.slice none 0 0) (.slice none 0 0) ns [] [] (dkN 0) ∧ Below w.heap.size w (w.alloc (.cells #[.slice none 0 0, .slice none 0 0, .slice none 0 0, .int .i64 0, .int .i64 (-1)] 44))) := ⟨_, _, hd0, hb0⟩
  have n0 : (n : Int) ≤ 200 := by omega
  clear hd0 hb0
  obtain ⟨qi, hqi, hqz⟩ := b_tinfo
  go_enter Tryd.func6, Tryd.ntmps6
  go_wp2
  generalize w.alloc (.cells #[.slice none 0 0, .slice none 0 0, .slice none 0 0, .int .i64 0, .int .i64 (-1)] 44) = W1 at *
  generalize hkp : w.heap.size = kp at *
  have Hkp : Hid (w.heap.size = kp) := hkp
  clear hkp
  go_loopw [4] (fun i wr => ∃ m : Nat, m ≤ n ∧ i = .int .i64 m ∧ Hid (∃ vn ns, KAt wr kp kp vn (.slice none 0 0) (.slice none 0 0) ns [] [] (dkN m) ∧ Below kp w wr)) (fun i _ => n - (intOf i).toNat)
  case atStart => exact ⟨0, Nat.zero_le _, rfl, H0⟩
  case round =>
    obtain ⟨m, hm, rfl, H⟩ := hrel
    obtain ⟨vn, ns, hd, hb⟩ := H.out
    by_cases hlt : m < n
    · have m0 : (0 : Int) ≤ m := by omega
      have m1 : (m : Int) < n := by omega
      have hnl : ns.length = m := by rw [hd.hn.1]; simp [dkN]
      obtain ⟨an, ln, cn, rfl⟩ := slice_of hd.now
      have c0 : wr.drew.cell? ⟨kp, 0, none⟩ = some (.slice an ln cn) := hd.c0
      have hkl : kp < wr.drew.heap.size := hd.lt
      have HD : Hid (KAt wr kp kp (.slice an ln cn) (.slice none 0 0) (.slice none 0 0) ns [] [] (dkN m)) := hd
      have HB : Hid (Below kp w wr) := hb
      clear hd hb H
      go_wp2
      refine wp_region_drawn (by kernel_rfl) ?_
      refine wpAny_take (i := 0) (v := .pointer (some ⟨kp, 0, none⟩)) rfl (by kernel_rfl) (by kernel_rfl) (by kernel_rfl) (fun _ _ _ h => h) (Or.inl ⟨by rfl, fun w => by go_simp⟩) ?_
      simp only [Act.put, List.getElem_toArray, List.getElem_cons_succ, List.getElem_cons_zero, List.setIfInBounds_toArray, List.set_cons_zero, List.set_cons_succ]
      refine wpAny_take (i := 1) (v := .pointer (some ⟨kp, 0, none⟩)) rfl (by kernel_rfl) (by kernel_rfl) (by kernel_rfl) (fun _ _ _ h => h) (Or.inl ⟨by rfl, fun w => by go_simp⟩) ?_
      simp only [Act.put, List.getElem_toArray, List.getElem_cons_succ, List.getElem_cons_zero, List.setIfInBounds_toArray, List.set_cons_zero, List.set_cons_succ]
      refine wpAny_take (i := 2) (v := .pointer (some ⟨kp, 0, none⟩)) rfl (by kernel_rfl) (by kernel_rfl) (by kernel_rfl) (fun _ _ _ h => h) (Or.inl ⟨by rfl, fun w => by go_simp⟩) ?_
      simp only [Act.put, List.getElem_toArray, List.getElem_cons_succ, List.getElem_cons_zero, List.setIfInBounds_toArray, List.set_cons_zero, List.set_cons_succ]
      refine wpAny_take (i := 3) (v := .pointer (some ⟨kp, 0, none⟩)) rfl (by kernel_rfl) (by kernel_rfl) (by kernel_rfl) (fun _ _ _ h => h) (Or.inl ⟨by rfl, fun w => by go_simp⟩) ?_
      simp only [Act.put, List.getElem_toArray, List.getElem_cons_succ, List.getElem_cons_zero, List.setIfInBounds_toArray, List.set_cons_zero, List.set_cons_succ]
      refine any_of_L (g := 7) (T := fun u => u.cell? ⟨kp, 0, none⟩ = some (.slice an ln cn)) _ _ _ _ ?_
      refine L_take (i := 4) (v := .slice an ln cn) rfl rfl (by kernel_rfl) (by decide) (by kernel_rfl) (by kernel_rfl) (by kernel_rfl) (by kernel_rfl) (fun _ _ _ h => h) (Or.inl ⟨by rfl, fun w' hw' => by go_simp⟩) c0 ?_
      simp only [Act.put, List.getElem_toArray, List.getElem_cons_succ, List.getElem_cons_zero, List.setIfInBounds_toArray, List.set_cons_zero, List.set_cons_succ]
      refine L_one (i := 5) (by kernel_rfl) ?_
      refine wpOp_step rfl ?_
      intro K hK
      rw [if_pos (by rfl)]
      have hK' : Shut (∀ a w, _ → K a w) := hK
      clear hK
      go_wp2
      refine hK'.out _ _ ⟨(World.cell?_alloc_lt _ _ _ hkl).trans c0, ?_⟩
      clear hK' K
      try simp only [Act.put, List.getElem_toArray, List.getElem_cons_succ, List.getElem_cons_zero, List.setIfInBounds_toArray, List.set_cons_zero, List.set_cons_succ]
      refine L_one (i := 6) (by kernel_rfl) ?_
      refine wpOp_step rfl ?_
      intro K hK
      rw [if_pos (by rfl)]
      have hK' : Shut (∀ a w, _ → K a w) := hK
      clear hK
      go_wp2
      refine hK'.out _ _ ⟨(World.cell?_alloc_lt _ _ _ (by rw [World.size_alloc]; exact Nat.lt_succ_of_lt hkl)).trans ((World.cell?_alloc_lt _ _ _ hkl).trans c0), ?_⟩
      clear hK' K
      try simp only [Act.put, List.getElem_toArray, List.getElem_cons_succ, List.getElem_cons_zero, List.setIfInBounds_toArray, List.set_cons_zero, List.set_cons_succ]
      have hd2 := (HD.out.below ((Still.drew wr).below _)).below ((Below.refl _ wr.drew).alloc (Nat.le_refl _) (.cells Z 5))
      have hx2 := Hx.out wr.drew
      have hd3 := hd2.below ((Below.refl _ (wr.drew.alloc (.cells Z 5))).alloc (Nat.le_refl _) (.cells #[.slice (some ⟨wr.heap.size, 0, none⟩) 64 64] 33))
      have hx3 := hx2.keep (KeepU.of_below ((Below.refl _ (wr.drew.alloc (.cells Z 5))).alloc (Nat.le_refl _) (.cells #[.slice (some ⟨wr.heap.size, 0, none⟩) 64 64] 33)))
      have hb3 : Below kp w ((wr.drew.alloc (.cells Z 5)).alloc (.cells #[.slice (some ⟨wr.heap.size, 0, none⟩) 64 64] 33)) := (HB.out.drew.alloc (Nat.le_of_lt hkl) _).alloc (by rw [World.size_alloc]; exact Nat.le_succ_of_le (Nat.le_of_lt hkl)) _
      have hnew := new_heap (wr.drew.alloc (.cells Z 5)) (.cells #[.slice (some ⟨wr.heap.size, 0, none⟩) 64 64] 33)
      have hsz : (wr.drew.alloc (.cells Z 5)).heap.size = wr.heap.size + 1 := by rw [World.size_alloc]; rfl
      rw [hsz] at hnew
      have hkl3 : kp ≤ ((wr.drew.alloc (.cells Z 5)).alloc (.cells #[.slice (some ⟨wr.heap.size, 0, none⟩) 64 64] 33)).heap.size := by
        rw [World.size_alloc, hsz]
        have : kp < wr.heap.size := hkl
        omega
      have eW : (wr.drew.alloc (.cells Z 5)).alloc (.cells #[.slice (some ⟨wr.heap.size, 0, none⟩) 64 64] 33) = ((wr.alloc (.cells Z 5)).alloc (.cells #[.slice (some ⟨wr.heap.size, 0, none⟩) 64 64] 33)).drew := rfl
      rw [eW] at hd3 hx3 hb3 hnew hkl3
      clear eW hd2 hx2
      generalize ((wr.alloc (.cells Z 5)).alloc (.cells #[.slice (some ⟨wr.heap.size, 0, none⟩) 64 64] 33)).drew = W3 at *
      obtain ⟨v', w6, hrun, hr6, hg6, _, _⟩ := run_append_own_at (P := Tryd.prog) W3 kp 41 41 33 qi (.slice none 0 0) 1 24 Tryd.underlying41 hqi hqz.1 hqz.2.1 hqz.2.2 rfl (by omega) (.slice an ln cn) ns.length ns hd3.now ⟨wr.heap.size + 1, 0, none⟩ 1 1 [.slice (some ⟨wr.heap.size, 0, none⟩) 64 64] rfl (fun j u hj => by
        rw [Addr.add_mid, cell_of_row _ _ _ _ _ (0, 0) hnew]
        simpa using hj) (by simp [Value.oneCell']) (by unfold maxLen; omega) (by omega) hkl3
      have hd7 := hd3.nowMore hx3 rfl hg6 hr6
      rw [dkN_succ] at hd7
      have hbox6 := (hg6.block kp hd3.lt (fun eb => by
        obtain ⟨_, cs', hh⟩ := own_tag hd3.now kp eb.symm
        exact tag_ne hd3.box hh (by decide) rfl)).trans hd3.box
      have c6 : w6.cell? ⟨kp, 0, none⟩ = some (.slice an ln cn) := by simp [World.cell?, hbox6]
      have f6 : w6.frozen? ⟨kp, 0, none⟩ = false := by simp [World.frozen?, hbox6]
      have hb6 : Below kp w w6 := hb3.grown hg6 hkl3 (fun j hj => (own_tag hd3.now j hj).1)
      obtain ⟨av, lv, cpv, rfl⟩ := slice_of hr6
      have hb7 := hb6.setCell (p := ⟨kp, 0, none⟩) (Nat.le_refl _) (.slice av lv cpv)
      have HR : Hid (∃ vn ns, KAt (w6.setCell ⟨kp, 0, none⟩ (.slice av lv cpv)) kp kp vn (.slice none 0 0) (.slice none 0 0) ns [] [] (dkN (m + 1)) ∧ Below kp w (w6.setCell ⟨kp, 0, none⟩ (.slice av lv cpv))) := ⟨_, _, hd7, hb7⟩
      refine L_go (by kernel_rfl) (by kernel_rfl) ?_
      refine wpOp_step rfl ?_
      intro K hK
      rw [if_pos (by rfl)]
      refine wp_append_run (.tmp 16) (.tmp 18) 41 41 (by rfl) (.slice an ln cn) (.slice (some ⟨wr.heap.size + 1, 0, none⟩) 1 1) (by rfl) (by rfl) hrun ?_
      refine hK _ _ ?_
      clear hK K hrun hd3 hd7 hx3 hb3 hb6 hb7 hnew hr6 hg6 hbox6 HD HB c0
      simp only [Act.put, List.getElem_toArray, List.getElem_cons_succ, List.getElem_cons_zero, List.setIfInBounds_toArray, List.set_cons_zero, List.set_cons_succ]
      refine any_one (i := 8) (by kernel_rfl) ?_
      refine wpOp_step rfl ?_
      intro K hK
      rw [if_pos (by rfl)]
      have hK' : Shut (∀ a w, _ → K a w) := hK
      clear hK
      go_wp2
      refine hK'.out _ _ ?_
      clear hK' K
      refine any_one (i := 9) (by kernel_rfl) ?_
      refine wpOp_step rfl ?_
      intro K hK
      rw [if_pos (by rfl)]
      have hK' : Shut (∀ a w, _ → K a w) := hK
      clear hK
      go_wp2
      refine hK'.out _ _ ?_
      clear hK' K
      refine any_one (i := 10) (by kernel_rfl) ?_
      refine wpOp_step rfl ?_
      intro K hK
      rw [if_pos (by rfl)]
      have hK' : Shut (∀ a w, _ → K a w) := hK
      clear hK
      go_wp2
      refine hK'.out _ _ ?_
      clear hK' K
      refine wpAny_done (by kernel_rfl) ?_ _
      go_wp2
      go_roundw
      case rel => exact ⟨m + 1, by omega, by go_num, HR⟩
      case measure => simp [intOf]; omega
    · have em : m = n := by omega
      subst em
      have m1 : ¬ (m : Int) < m := by omega
      obtain ⟨an, ln, cn, rfl⟩ := slice_of hd.now
      have hd1 := hd.below ((Still.drew wr).below _)
      have c0d : wr.drew.cell? ⟨kp, 0, none⟩ = some (.slice an ln cn) := hd1.c0
      have c1d : wr.drew.cell? ⟨kp, 1, none⟩ = some (.slice none 0 0) := hd1.c1
      have hkl : kp ≤ wr.drew.heap.size := Nat.le_of_lt hd1.lt
      obtain ⟨v', w5, hrun, hr5, hg5, hat5⟩ := append_copy wr.drew kp _ ns hd1.now hd1.o1 (by rw [hd1.hn.1]; simp [dkN]; omega) hkl 41
      have hd5 := hd1.safeCopy hg5 hr5 hat5
      have hb5 : w5.heap[kp]? = _ := (hg5.block kp hd1.lt (by simp)).trans hd1.box
      have c15 : w5.cell? ⟨kp, 1, none⟩ = some (.slice none 0 0) := by simp [World.cell?, hb5]
      have f15 : w5.frozen? ⟨kp, 1, none⟩ = false := by simp [World.frozen?, hb5]
      have hbe5 : Below kp w w5 := hb.drew.grown hg5 hkl (fun j hj => by cases hj)
      obtain ⟨av, lv, cpv, rfl⟩ := slice_of hr5
      have hbe6 := hbe5.setCell (p := ⟨kp, 1, none⟩) (Nat.le_refl _) (.slice av lv cpv)
      have HR : Hid (IsK (w5.setCell ⟨kp, 1, none⟩ (.slice av lv cpv)) kp kp (dk0 m) ∧ Below kp w (w5.setCell ⟨kp, 1, none⟩ (.slice av lv cpv))) := ⟨⟨_, _, _, _, _, _, hd5⟩, hbe6⟩
      clear hd hb H hd1 hd5 hb5 hbe5 hbe6 hr5 hg5 hat5
      go_wp2
      refine wp_region_drawn (by kernel_rfl) ?_
      refine wpAny_take (i := 0) (v := .pointer (some ⟨kp, 0, none⟩)) rfl (by kernel_rfl) (by kernel_rfl) (by kernel_rfl) (fun _ _ _ h => h) (Or.inl ⟨by rfl, fun w => by go_simp⟩) ?_
      simp only [Act.put, List.getElem_toArray, List.getElem_cons_succ, List.getElem_cons_zero, List.setIfInBounds_toArray, List.set_cons_zero, List.set_cons_succ]
      refine wpAny_take (i := 1) (v := .pointer (some ⟨kp, 0, none⟩)) rfl (by kernel_rfl) (by kernel_rfl) (by kernel_rfl) (fun _ _ _ h => h) (Or.inl ⟨by rfl, fun w => by go_simp⟩) ?_
      simp only [Act.put, List.getElem_toArray, List.getElem_cons_succ, List.getElem_cons_zero, List.setIfInBounds_toArray, List.set_cons_zero, List.set_cons_succ]
      refine wpAny_take (i := 2) (v := .pointer (some ⟨kp, 0, none⟩)) rfl (by kernel_rfl) (by kernel_rfl) (by kernel_rfl) (fun _ _ _ h => h) (Or.inl ⟨by rfl, fun w => by go_simp⟩) ?_
      simp only [Act.put, List.getElem_toArray, List.getElem_cons_succ, List.getElem_cons_zero, List.setIfInBounds_toArray, List.set_cons_zero, List.set_cons_succ]
      refine wpAny_take (i := 3) (v := .pointer (some ⟨kp, 1, none⟩)) rfl (by kernel_rfl) (by kernel_rfl) (by kernel_rfl) (fun _ _ _ h => h) (Or.inl ⟨by rfl, fun w => by go_simp⟩) ?_
      simp only [Act.put, List.getElem_toArray, List.getElem_cons_succ, List.getElem_cons_zero, List.setIfInBounds_toArray, List.set_cons_zero, List.set_cons_succ]
      refine wpAny_take (i := 5) (v := .pointer (some ⟨kp, 0, none⟩)) rfl (by kernel_rfl) (by kernel_rfl) (by kernel_rfl) (fun _ _ _ h => h) (Or.inl ⟨by rfl, fun w => by go_simp⟩) ?_
      simp only [Act.put, List.getElem_toArray, List.getElem_cons_succ, List.getElem_cons_zero, List.setIfInBounds_toArray, List.set_cons_zero, List.set_cons_succ]
      refine wpAny_take (i := 6) (v := .pointer (some ⟨kp, 0, none⟩)) rfl (by kernel_rfl) (by kernel_rfl) (by kernel_rfl) (fun _ _ _ h => h) (Or.inl ⟨by rfl, fun w => by go_simp⟩) ?_
      simp only [Act.put, List.getElem_toArray, List.getElem_cons_succ, List.getElem_cons_zero, List.setIfInBounds_toArray, List.set_cons_zero, List.set_cons_succ]
      refine wpAny_take (i := 7) (v := .pointer (some ⟨kp, 0, none⟩)) rfl (by kernel_rfl) (by kernel_rfl) (by kernel_rfl) (fun _ _ _ h => h) (Or.inl ⟨by rfl, fun w => by go_simp⟩) ?_
      simp only [Act.put, List.getElem_toArray, List.getElem_cons_succ, List.getElem_cons_zero, List.setIfInBounds_toArray, List.set_cons_zero, List.set_cons_succ]
      refine any_of_L (g := 9) (T := fun u => u = wr.drew) _ _ _ _ ?_
      refine L_take (i := 4) (v := .slice none 0 0) rfl rfl (by kernel_rfl) (by decide) (by kernel_rfl) (by kernel_rfl) (by kernel_rfl) (by kernel_rfl) (fun _ _ _ h => h) (Or.inl ⟨by rfl, fun w' hw' => by subst hw'; go_simp⟩) rfl ?_
      simp only [Act.put, List.getElem_toArray, List.getElem_cons_succ, List.getElem_cons_zero, List.setIfInBounds_toArray, List.set_cons_zero, List.set_cons_succ]
      refine L_take (i := 8) (v := .slice an ln cn) rfl rfl (by kernel_rfl) (by decide) (by kernel_rfl) (by kernel_rfl) (by kernel_rfl) (by kernel_rfl) (fun _ _ _ h => h) (Or.inl ⟨by rfl, fun w' hw' => by subst hw'; go_simp⟩) rfl ?_
      simp only [Act.put, List.getElem_toArray, List.getElem_cons_succ, List.getElem_cons_zero, List.setIfInBounds_toArray, List.set_cons_zero, List.set_cons_succ]
      refine L_go (by kernel_rfl) (by kernel_rfl) ?_
      refine wpOp_step rfl ?_
      intro K hK
      rw [if_pos (by rfl)]
      refine wp_append_run (.tmp 26) (.tmp 30) 41 41 (by rfl) (.slice none 0 0) (.slice an ln cn) (by rfl) (by rfl) hrun ?_
      refine hK _ _ ?_
      clear hK K hrun c0d c1d
      simp only [Act.put, List.getElem_toArray, List.getElem_cons_succ, List.getElem_cons_zero, List.setIfInBounds_toArray, List.set_cons_zero, List.set_cons_succ]
      refine any_one (i := 10) (by kernel_rfl) ?_
      refine wpOp_step rfl ?_
      intro K hK
      rw [if_pos (by rfl)]
      have hK' : Shut (∀ a w, _ → K a w) := hK
      clear hK
      go_wp2
      refine hK'.out _ _ ?_
      clear hK' K
      refine any_one (i := 11) (by kernel_rfl) ?_
      refine wpOp_step rfl ?_
      intro K hK
      rw [if_pos (by rfl)]
      have hK' : Shut (∀ a w, _ → K a w) := hK
      clear hK
      go_wp2
      refine hK'.out _ _ ?_
      clear hK' K
      refine any_one (i := 12) (by kernel_rfl) ?_
      refine wpOp_step rfl ?_
      intro K hK
      rw [if_pos (by rfl)]
      have hK' : Shut (∀ a w, _ → K a w) := hK
      clear hK
      go_wp2
      refine hK'.out _ _ ?_
      clear hK' K
      refine wpAny_done (by kernel_rfl) ?_ _
      go_wp2
      go_ret
      rw [Hkp.out]
      exact ⟨kp, rfl, HR⟩
end Go.Proofs.YtofmhjeojjdagaaDoor
