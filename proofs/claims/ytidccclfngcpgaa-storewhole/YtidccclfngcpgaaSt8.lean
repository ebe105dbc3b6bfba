/-
  The contract of store.Format.
-/
import Derived.Test.YtidccclfngcpgaaSt7
import Derived.Test.YtidccclfngcpgaaSt6
namespace Go.Proofs.Ytidccclfngcpgaa
set_option linter.unusedVariables false
set_option linter.unusedSimpArgs false
set_option maxRecDepth 100000
open Go.RowKit Go.Lib
section
variable {w W : World} {p nb sb : Nat} {cv : Value} {n : Nat} {D : Dk}
theorem format_few (a : Tn w W p nb sb cv n D) (hn : n < 90) :
    Calls Try.prog 5 #[.pointer (some ⟨p, 0, none⟩)] W fun e w' => e = .returned (enE 4) ∧ Hid (Still W w') := by
  have HB : Hid (Calls _ _ _ _ _) := blocks_any a
  have n1 : (n : Int) < 90 := by omega
  rw [enE_ne (by decide)]
  clear a
  go_enter Try.func5, Try.ntmps5
  go_wp2_with fail
  refine HB.out.mono ?_
  rintro e w1 ⟨rfl, hs⟩
  go_wp2
  go_ret
  exact ⟨rfl, hs⟩
/-- The head that Format writes. -/
def fmtH (o : Option Hd) : Hd := ⟨1 - (o.getD hd0).blk, (o.getD hd0).turn + 1, 0, List.replicate 40 0⟩
theorem fmtH_ok (o : Option Hd) : (fmtH o).ok := ⟨by unfold fmtH; simp, by simp [fmtH], by simp [fmtH]⟩
set_option maxHeartbeats 1000000 in
theorem format_any (a : Tn w W p nb sb cv n D) (hn : 90 ≤ n) (hn2 : n ≤ 200) (hs : D.lim 999980) (o0 o1 : Option Hd) (h0 : hdAt D 0 o0) (h1 : hdAt D 1 o1) :
    Calls Try.prog 5 #[.pointer (some ⟨p, 0, none⟩)] W fun e w' => e = .returned (enE (hwR D (fmtH (newer o0 o1))).1) ∧ ∃ cv', Hid (Tn w w' p nb sb cv' n (hwR D (fmtH (newer o0 o1))).2) ∧ Hid (Keeps w.heap.size dkT W w') := by
  have HB : Hid (Calls _ _ _ _ _) := blocks_any a
  have n1 : ¬ (n : Int) < 90 := by omega
  have HN : Hid (∀ U, Still W U → Calls _ _ _ U _) := fun U hU => newest_any (a.still hU) (by omega) o0 o1 h0 h1
  have hal := alloc_head
  have ko : ((newer o0 o1).getD hd0).ok := getD_okH (fun x e => by
    unfold newer at e
    cases o1 with
    | none => exact hdAt_ok h0 x e
    | some y =>
      cases o0 with
      | none => exact hdAt_ok h1 x e
      | some z =>
        simp only at e
        split at e
        · exact hdAt_ok h1 x e
        · exact hdAt_ok h0 x e)
  have HW : Hid (∀ U, Below W.heap.size W U → Calls _ _ _ U _) := fun U hU => hwrite_any (a.below hU) (fmtH (newer o0 o1)) (fmtH_ok _) hn2 (by omega) (hs.mono (by omega))
  unfold hdV at HN
  have eh0 : fmtH (newer o0 o1) = ⟨1 - ((newer o0 o1).getD hd0).blk, ((newer o0 o1).getD hd0).turn + 1, 0, List.replicate 40 0⟩ := rfl
  have kf := fmtH_ok (newer o0 o1)
  have eh : Hid (_ = _) := eh0
  clear eh0
  generalize fmtH (newer o0 o1) = fh at *
  generalize (newer o0 o1).isSome = sm at *
  generalize (newer o0 o1).getD hd0 = x at *
  have hst := fun U => run_storeAt_new (P := Try.prog) U 50 hd0.cells.toArray x.cells.toArray (by rw [List.size_toArray, Hd.cells_length ko]; exact head_size) (by rw [List.size_toArray, List.size_toArray, Hd.cells_length hd0_ok, Hd.cells_length ko]) (all_oneCell_toArray (Hd.cells_one _))
  have HO : Hid (∀ U, Calls _ _ _ U _) := fun U => other_any x U ko
  obtain ⟨C0, hC0⟩ : ∃ C0, hd0.cells.toArray = C0 := ⟨_, rfl⟩
  rw [hC0] at hal hst
  clear a h0 h1
  go_enter Try.func5, Try.ntmps5
  go_wp2_with fail
  refine HB.out.mono ?_
  rintro e w1 ⟨rfl, hs1⟩
  clear HB
  go_wp2_with fail
  refine (HN.out w1 hs1).mono ?_
  rintro e w2 ⟨rfl, hb2⟩
  clear HN
  go_wp2_with (first | (refine wpList_alloc_run rfl 50 rfl (hal _) ?_) | (refine wpList_store_run rfl 50 _ _ rfl _ _ (by rfl) (by rfl) (hst _) ?_))
  obtain ⟨B, hB⟩ : ∃ B, w2.heap.size = B := ⟨_, rfl⟩
  obtain ⟨v2, hv2⟩ : ∃ v2, (w2.alloc (.cells x.cells.toArray 50)).drew = v2 := ⟨_, rfl⟩
  have hbW : Below W.heap.size W w2 := (hs1.below _).trans (hb2.out.mono (by rw [hs1.heap]; exact Nat.le_refl _))
  have Hv2 : Hid (v2.heap[B]? = some (.cells x.cells.toArray 50 (0, 0)) ∧ Below W.heap.size W v2 ∧ B < v2.heap.size) := by
    rw [← hv2, ← hB]
    refine ⟨new_heap w2 _, (hbW.alloc hbW.size _).trans ⟨rfl, rfl, rfl, Nat.le_refl _, fun _ _ => rfl⟩, ?_⟩
    show w2.heap.size < (w2.alloc (.cells x.cells.toArray 50)).heap.size
    simp
  have Hx : Hid (∀ u : World, u.heap[B]? = some (.cells x.cells.toArray 50 (0, 0)) → u.cell? ⟨B, 1, none⟩ = some (.int .u8 (x.turn.toNat : Int)) ∧ (Instr.loadAt 50 (.pointer (some ⟨B, 0, none⟩))).run Try.prog u = .ok (.agg x.cells.toArray) u) := fun u hu => ⟨by rw [cell_of_row u _ _ _ _ (0, 0) hu]; rfl, load_head ko (range0 hu)⟩
  have hbd : ∀ u : World, (Instr.build 50 #[(0, .int .i64 ((1 - x.blk : Nat) : Int)), (1, .int .u8 (((x.turn.toNat : Int) + 1) % 256))]).run Try.prog u = .ok (.agg fh.cells.toArray) u := fun u => by
    have := build_head (1 - x.blk) (x.turn + 1) u
    rw [← eh.out, turn_add] at this
    exact this
  have hfst := fun U => run_storeAt_new (P := Try.prog) U 50 hd0.cells.toArray fh.cells.toArray (by rw [List.size_toArray, Hd.cells_length kf]; exact head_size) (by rw [List.size_toArray, List.size_toArray, Hd.cells_length hd0_ok, Hd.cells_length kf]) (all_oneCell_toArray (Hd.cells_one _))
  have Hst5 : Hid (∀ (U : World) (B5 : Nat), U.heap[B5]? = some (.cells C0 50 (0, 0)) → (Instr.storeAt 50 (.pointer (some ⟨B5, 0, none⟩)) (.agg fh.cells.toArray)).run Try.prog U = .ok () (U.setRow B5 fh.cells.toArray)) := fun U B5 hU => by
    rw [← hC0] at hU
    exact store_box kf hd0_ok hU
  refine wp_region_drawn (by kernel_rfl) ?_
  rw [hv2, hB]
  have t0 : (0 : Int) ≤ (x.turn.toNat : Int) := by omega
  have t1 : (x.turn.toNat : Int) < 256 := by have := UInt8.toNat_lt x.turn; omega
  clear hv2 hs1 hb2 hst hfst hbW
  refine wpAny_take (i := 2) (v := .pointer (some ⟨B, 1, none⟩)) rfl (by kernel_rfl) (by kernel_rfl) (by kernel_rfl) (fun _ _ _ h => h) (Or.inl ⟨by rfl, fun w => by go_simp⟩) ?_
  simp only [Act.put, List.getElem_toArray, List.getElem_cons_succ, List.getElem_cons_zero, List.setIfInBounds_toArray, List.set_cons_zero, List.set_cons_succ]
  refine any_of_L (g := 7) (T := fun u => u.heap[B]? = some (.cells x.cells.toArray 50 (0, 0)) ∧ Below W.heap.size W u) _ _ _ _ ?_
  refine L_take (i := 0) (v := .agg x.cells.toArray) rfl rfl (by kernel_rfl) (by decide) (by kernel_rfl) (by kernel_rfl) (by kernel_rfl) (by kernel_rfl) (fun _ _ _ h => h) ?_ ⟨Hv2.out.1, Hv2.out.2.1⟩ ?_
  · refine yields_load_run (by rfl) 50 (.tmp 3) (by rfl) (.pointer (some ⟨B, 0, none⟩)) (by rfl) ?_
    exact fun u hu => (Hx.out u hu.1).2
  simp only [Act.put, List.getElem_toArray, List.getElem_cons_succ, List.getElem_cons_zero, List.setIfInBounds_toArray, List.set_cons_zero, List.set_cons_succ]
  refine L_take (i := 3) (v := .int .u8 (x.turn.toNat : Int)) rfl rfl (by kernel_rfl) (by decide) (by kernel_rfl) (by kernel_rfl) (by kernel_rfl) (by kernel_rfl) (fun _ _ _ h => h) (Or.inl ⟨by rfl, fun w' hw' => by have c0 := (Hx.out w' hw'.1).1; clear hw'; go_simp⟩) ⟨Hv2.out.1, Hv2.out.2.1⟩ ?_
  simp only [Act.put, List.getElem_toArray, List.getElem_cons_succ, List.getElem_cons_zero, List.setIfInBounds_toArray, List.set_cons_zero, List.set_cons_succ]
  refine L_take (i := 4) (v := .int .u8 (((x.turn.toNat : Int) + 1) % 256)) rfl rfl (by kernel_rfl) (by decide) (by kernel_rfl) (by kernel_rfl) (by kernel_rfl) (by kernel_rfl) (fun _ _ _ h => h) (Or.inl ⟨by rfl, fun w' hw' => by clear hw'; go_simp; rw [IntKind.wrap_u8]⟩) ⟨Hv2.out.1, Hv2.out.2.1⟩ ?_
  simp only [Act.put, List.getElem_toArray, List.getElem_cons_succ, List.getElem_cons_zero, List.setIfInBounds_toArray, List.set_cons_zero, List.set_cons_succ]
  refine L_two (i := 1) (j := 6) (by kernel_rfl) ?_ ?_
  · refine wpOp_step rfl (fun K hK => ?_)
    rw [if_pos (by rfl)]
    go_wp2_with fail
    refine (HO.out v2).mono ?_
    rintro e w3 ⟨rfl, hb3⟩
    have H3 : Hid (w3.heap[B]? = some (.cells x.cells.toArray 50 (0, 0)) ∧ Below W.heap.size W w3) := ⟨(hb3.block _ Hv2.out.2.2).trans Hv2.out.1, Hv2.out.2.1.trans (hb3.mono Hv2.out.2.1.size)⟩
    refine hK _ _ ⟨H3.out, ?_⟩
    clear hK K hb3
    refine L_take (i := 5) (v := .agg fh.cells.toArray) rfl rfl (by kernel_rfl) (by decide) (by kernel_rfl) (by kernel_rfl) (by kernel_rfl) (by kernel_rfl) (fun _ _ _ h => h) ?_ H3.out ?_
    · refine yields_build_run (by rfl) 50 #[(0, .tmp 16), (1, .tmp 19)] (by rfl) #[(0, .int .i64 ((1 - x.blk : Nat) : Int)), (1, .int .u8 (((x.turn.toNat : Int) + 1) % 256))] (by simp [Act.eval]) ?_
      exact fun u _ => hbd u
    try simp only [Act.put, List.getElem_toArray, List.getElem_cons_succ, List.getElem_cons_zero, List.setIfInBounds_toArray, List.set_cons_zero, List.set_cons_succ]
    refine L_one (i := 6) (by kernel_rfl) ?_
    refine wpOp_step rfl (fun K hK => ?_)
    rw [if_pos (by rfl)]
    refine wp_alloc_run 50 (by rfl) (hal _) ?_
    have hW3 := H3.out.2.size
    obtain ⟨B5, hB5⟩ : ∃ B5, w3.heap.size = B5 := ⟨_, rfl⟩
    obtain ⟨V5, hV5⟩ : ∃ V5, w3.alloc (.cells C0 50) = V5 := ⟨_, rfl⟩
    have HE5 : Hid (V5.heap[B5]? = some (.cells C0 50 (0, 0)) ∧ Below W.heap.size W V5 ∧ W.heap.size ≤ B5) := by
      rw [← hV5, ← hB5]
      exact ⟨new_heap w3 _, H3.out.2.alloc hW3 _, hW3⟩
    have hT5 : V5.heap[B]? = some (.cells x.cells.toArray 50 (0, 0)) ∧ Below W.heap.size W V5 := by
      rw [← hV5]
      exact ⟨(Below.heap_alloc _ _ _ (Array.getElem?_eq_some_iff.1 H3.out.1).1).trans H3.out.1, H3.out.2.alloc hW3 _⟩
    rw [hV5, hB5]
    refine hK _ _ ⟨hT5, ?_⟩
    clear hK K hT5 hV5
    try simp only [Act.put, List.getElem_toArray, List.getElem_cons_succ, List.getElem_cons_zero, List.setIfInBounds_toArray, List.set_cons_zero, List.set_cons_succ]
    refine L_go (by kernel_rfl) (by kernel_rfl) ?_
    refine wpOp_step rfl (fun K hK => ?_)
    rw [if_pos (by rfl)]
    refine wp_store_run 50 (.tmp 5) (.tmp 20) (by rfl) (.pointer (some ⟨B5, 0, none⟩)) (.agg fh.cells.toArray) (by rfl) (by rfl) (Hst5.out V5 B5 HE5.out.1) ?_
    refine hK _ _ ?_
    clear hK K
    refine wpAny_done (by kernel_rfl) ?_ _
    have HE : Hid ((V5.setRow B5 fh.cells.toArray).heap[B5]? = some (.cells fh.cells.toArray 50 (0, 0)) ∧ Below W.heap.size W (V5.setRow B5 fh.cells.toArray)) := ⟨setRow_heap _ _ _ _ _ _ HE5.out.1, setRow_below HE5.out.2.1 HE5.out.2.2⟩
    generalize V5.setRow B5 fh.cells.toArray = W9 at *
    have hld := load_head (o := 0) kf (range0 HE.out.1)
    have HWc : Hid (Calls _ _ _ W9 _) := HW.out W9 HE.out.2
    have Hk9 : Hid (Keeps w.heap.size dkT W W9) := Keeps.of_below HE.out.2
    clear HW
    go_wp2_with (first | (refine wpList_load_run rfl 50 _ rfl _ (by rfl) hld ?_))
    refine HWc.out.mono ?_
    rintro e w9 ⟨rfl, cv9, ht9, hk9⟩
    go_wp2
    go_ret
    first | exact ⟨rfl, cv9, ht9, Hk9.out.trans hk9.out⟩ | exact ⟨rfl, ⟨cv9, ht9⟩, Hk9.out.trans hk9.out⟩
  · refine wpOp_step rfl (fun K hK => ?_)
    rw [if_pos (by rfl)]
    refine wp_alloc_run 50 (by rfl) (hal _) ?_
    have hW2 := Hv2.out.2.1.size
    obtain ⟨B5, hB5⟩ : ∃ B5, v2.heap.size = B5 := ⟨_, rfl⟩
    obtain ⟨V4, hV4⟩ : ∃ V4, v2.alloc (.cells C0 50) = V4 := ⟨_, rfl⟩
    have HE4 : Hid (V4.heap[B5]? = some (.cells C0 50 (0, 0)) ∧ Below W.heap.size W V4 ∧ W.heap.size ≤ B5 ∧ V4.heap[B]? = some (.cells x.cells.toArray 50 (0, 0))) := by
      rw [← hV4, ← hB5]
      exact ⟨new_heap v2 _, Hv2.out.2.1.alloc hW2 _, hW2, (Below.heap_alloc _ _ _ Hv2.out.2.2).trans Hv2.out.1⟩
    rw [hV4, hB5]
    refine hK _ _ ⟨⟨HE4.out.2.2.2, HE4.out.2.1⟩, ?_⟩
    clear hK K hV4
    try simp only [Act.put, List.getElem_toArray, List.getElem_cons_succ, List.getElem_cons_zero, List.setIfInBounds_toArray, List.set_cons_zero, List.set_cons_succ]
    refine L_one (i := 1) (by kernel_rfl) ?_
    refine wpOp_step rfl (fun K hK => ?_)
    rw [if_pos (by rfl)]
    go_wp2_with fail
    refine (HO.out V4).mono ?_
    rintro e V5 ⟨rfl, hb3⟩
    have HE5 : Hid (V5.heap[B5]? = some (.cells C0 50 (0, 0)) ∧ Below W.heap.size W V5 ∧ W.heap.size ≤ B5) := ⟨(hb3.block _ (Array.getElem?_eq_some_iff.1 HE4.out.1).1).trans HE4.out.1, HE4.out.2.1.trans (hb3.mono HE4.out.2.1.size), HE4.out.2.2.1⟩
    have H3 : Hid (V5.heap[B]? = some (.cells x.cells.toArray 50 (0, 0)) ∧ Below W.heap.size W V5) := ⟨(hb3.block _ (Array.getElem?_eq_some_iff.1 HE4.out.2.2.2).1).trans HE4.out.2.2.2, HE5.out.2.1⟩
    refine hK _ _ ⟨H3.out, ?_⟩
    clear hK K hb3
    refine L_take1 (i := 5) (v := .agg fh.cells.toArray) rfl (by kernel_rfl) ?_ H3.out ?_
    · refine yields_build_run (by rfl) 50 #[(0, .tmp 16), (1, .tmp 19)] (by rfl) #[(0, .int .i64 ((1 - x.blk : Nat) : Int)), (1, .int .u8 (((x.turn.toNat : Int) + 1) % 256))] (by simp [Act.eval]) ?_
      exact fun u _ => hbd u
    try simp only [Act.put, List.getElem_toArray, List.getElem_cons_succ, List.getElem_cons_zero, List.setIfInBounds_toArray, List.set_cons_zero, List.set_cons_succ]
    refine L_go (by kernel_rfl) (by kernel_rfl) ?_
    refine wpOp_step rfl (fun K hK => ?_)
    rw [if_pos (by rfl)]
    refine wp_store_run 50 (.tmp 5) (.tmp 20) (by rfl) (.pointer (some ⟨B5, 0, none⟩)) (.agg fh.cells.toArray) (by rfl) (by rfl) (Hst5.out V5 B5 HE5.out.1) ?_
    refine hK _ _ ?_
    clear hK K
    refine wpAny_done (by kernel_rfl) ?_ _
    have HE : Hid ((V5.setRow B5 fh.cells.toArray).heap[B5]? = some (.cells fh.cells.toArray 50 (0, 0)) ∧ Below W.heap.size W (V5.setRow B5 fh.cells.toArray)) := ⟨setRow_heap _ _ _ _ _ _ HE5.out.1, setRow_below HE5.out.2.1 HE5.out.2.2⟩
    generalize V5.setRow B5 fh.cells.toArray = W9 at *
    have hld := load_head (o := 0) kf (range0 HE.out.1)
    have HWc : Hid (Calls _ _ _ W9 _) := HW.out W9 HE.out.2
    have Hk9 : Hid (Keeps w.heap.size dkT W W9) := Keeps.of_below HE.out.2
    clear HW
    go_wp2_with (first | (refine wpList_load_run rfl 50 _ rfl _ (by rfl) hld ?_))
    refine HWc.out.mono ?_
    rintro e w9 ⟨rfl, cv9, ht9, hk9⟩
    go_wp2
    go_ret
    first | exact ⟨rfl, cv9, ht9, Hk9.out.trans hk9.out⟩ | exact ⟨rfl, ⟨cv9, ht9⟩, Hk9.out.trans hk9.out⟩
end
end Go.Proofs.Ytidccclfngcpgaa
