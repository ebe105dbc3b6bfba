/-
  The walk of a store's Commit, where the disk does not fail.
-/
import Derived.Test.YtidccclfngcpgaaSt14
namespace Go.Proofs.Ytidccclfngcpgaa
set_option linter.unusedVariables false
set_option linter.unusedSimpArgs false
set_option maxRecDepth 100000
open Go.RowKit Go.Lib
section
variable {w W : World} {p nb sb : Nat} {cv : Value} {n : Nat} {D : Dk} {s mb : Nat} {h : Hd} {P : List (Nat × List UInt8)} {lost : Bool}
set_option maxHeartbeats 8000000 in
theorem commit_ok (a : StAt w W p nb sb cv n D s mb h P false) (hf : D.fail < 0) (hlim : D.lim 998000) (hn : 90 ≤ n) (hn2 : n ≤ 200) (hP : ∀ k l, look P k = some l → l.length ≤ 60) (hv : h.ver + 1 ≤ 1000000) :
    Calls Try.prog 12 #[.pointer (some ⟨s, 0, none⟩)] W fun e w' => e = .returned .nilIface ∧ ∃ cv', Hid (StAt w w' p nb sb cv' n (nxD D h P) s mb (nxH h P) [] false) ∧ Hid (KeepC w.heap.size stT W w') := by
  have cl := a.cl
  have k := a.ok
  have hld0 := load_head k a.range
  have hal := alloc_head
  obtain ⟨nx, hnx⟩ : ∃ nx, W.heap.size = nx := ⟨_, rfl⟩
  obtain ⟨V0, hV0⟩ : ∃ V0, W.alloc (.cells h.cells.toArray 50) = V0 := ⟨_, rfl⟩
  have hst0 := run_storeAt_new (P := Try.prog) W 50 hd0.cells.toArray h.cells.toArray (by rw [List.size_toArray, Hd.cells_length k]; exact head_size) (by rw [List.size_toArray, List.size_toArray, Hd.cells_length hd0_ok, Hd.cells_length k]) (all_oneCell_toArray (Hd.cells_one _))
  rw [hV0] at hst0
  have hbV : Below W.heap.size W V0 := by rw [← hV0]; exact (Below.refl _ W).alloc (Nat.le_refl _) _
  have a0 : StAt w V0.drew p nb sb cv n D s mb h P false := (a.below hbV).below (drewB V0)
  have b0 : NxAt w V0.drew nx h := by
    refine ⟨?_, by rw [← hnx]; exact a.tn.2.size, k⟩
    show V0.heap[nx]? = _
    rw [← hV0, ← hnx]
    exact new_heap W _
  have K0 : KeepC w.heap.size stT W V0.drew := (KeepC.of_below hbV).trans (drewK _ _ V0)
  have HO : Hid (∀ U, Calls _ _ _ U _) := fun U => other_any h U k
  have HT : Hid (∀ u : World, u.heap[s]? = some (.cells (stCells p h mb false).toArray 55 (0, 0)) → u.cell? ⟨s, 2, none⟩ = some (.int .u8 (h.turn.toNat : Int)) ∧ u.cell? ⟨s, 3, none⟩ = some (.int .i64 (h.ver : Int)) ∧ (Instr.loadAt 50 (.pointer (some ⟨s, 1, none⟩))).run Try.prog u = .ok (.agg h.cells.toArray) u) := fun u hu => by
    refine ⟨by rw [cell_of_row u _ _ _ _ (0, 0) hu]; rfl, by rw [cell_of_row u _ _ _ _ (0, 0) hu]; rfl, load_head k ?_⟩
    intro j v hv
    rw [cell_of_row u _ _ _ _ (0, 0) hu, List.getElem?_toArray]
    unfold stCells
    rw [Nat.add_comm 1 j, List.getElem?_cons_succ, List.getElem?_append_left ((List.getElem?_eq_some_iff.1 hv).1)]
    exact hv
  have ht1 := turn_add h.turn
  have tl := UInt8.toNat_lt h.turn
  have t0 : (0 : Int) ≤ (h.turn.toNat : Int) := by omega
  have t1 : (h.turn.toNat : Int) < 256 := by omega
  have v0 : (0 : Int) ≤ (h.ver : Int) := by omega
  have v1 : (h.ver : Int) ≤ 999999 := by omega
  have hbl := k.b
  have hwv : IntKind.i64.wrap ((h.ver : Int) + 1) = (h.ver : Int) + 1 := by rw [IntKind.wrap_i64]; omega
  -- what the rest asks
  have HR : Hid (∀ U, StAt w U p nb sb cv n D s mb h P false → NxAt w U nx ⟨1 - h.blk, h.turn + 1, h.ver + 1, h.whr⟩ → KeepC w.heap.size stT W U → Calls Try.prog 21 #[.pointer (some ⟨s, 0, none⟩), .pointer (some ⟨nx, 0, none⟩)] U fun e w' => e = .returned .nilIface ∧ Hid (∃ cv2, StAt w w' p nb sb cv2 n (wpD h P D.flush 40) s mb h P false ∧ NxAt w w' nx (nxH h P) ∧ KeepC w.heap.size stT W w')) := fun U hU hN hK => by
    refine (writePages_ok hU nx _ hN hf (hlim.mono (by omega)) hn hn2 hP).mono ?_
    rintro e w' ⟨rfl, hh⟩
    obtain ⟨cv2, q1, q2, q3⟩ := hh.out
    exact ⟨rfl, cv2, q1, q2, hK.trans q3⟩
  have HWr : Hid (∀ U cv2, Tn w U p nb sb cv2 n (wpD h P D.flush 40) → Calls Try.prog 17 #[.agg (nxH h P).cells.toArray, .pointer (some ⟨p, 0, none⟩)] U fun e w' => e = .returned .nilIface ∧ ∃ cv', Hid (Tn w w' p nb sb cv' n (nxD D h P)) ∧ Hid (Keeps w.heap.size dkT U w')) := fun U cv2 hU => by
    have hf2 : (wpD h P D.flush 40).fail < 0 := by rw [wpD_fail]; exact hf
    have kn : (nxH h P).ok := ⟨by unfold nxH; simp, hv, by unfold nxH; rw [wpW_length]; exact k.w⟩
    refine (hwrite_any hU (nxH h P) kn hn2 (by omega) ((wpD_lim (j := 998001) ⟨Nat.succ_le_succ hlim.s, by simp [Dk.flush]⟩ 40).mono (by omega))).mono ?_
    rintro e w' ⟨rfl, h1⟩
    refine ⟨?_, h1⟩
    rw [neg_hwR hf2]
    rfl
  have Hst : Hid (StAt w V0.drew p nb sb cv n D s mb h P false ∧ NxAt w V0.drew nx h ∧ KeepC w.heap.size stT W V0.drew) := ⟨a0, b0, K0⟩
  have Ha0 : Hid (V0.drew.heap[s]? = some (.cells (stCells p h mb false).toArray 55 (0, 0))) := a0.box
  clear a a0 b0 K0 hbV hf hlim hP tl
  obtain ⟨C0, hC0⟩ : ∃ C0, hd0.cells.toArray = C0 := ⟨_, rfl⟩
  rw [hC0] at hal hst0
  clear hC0
  obtain ⟨A0, hA0⟩ : ∃ A0, h.cells.toArray = A0 := ⟨_, rfl⟩
  rw [hA0] at hst0 hld0 HT HO
  go_enter Try.func12, Try.ntmps12
  go_wp2_with (first | (refine wpList_load_run rfl 50 _ rfl _ (by rfl) hld0 ?_) | (refine wpList_alloc_run rfl 50 rfl (hal _) ?_) | (refine wpList_store_run rfl 50 _ _ rfl _ _ (by rfl) (by rfl) hst0 ?_))
  refine wp_region_drawn (by kernel_rfl) ?_
  clear hV0 hld0 hst0 hal hA0
  refine wpAny_take (i := 0) (v := .pointer (some ⟨s, 0, none⟩)) rfl (by kernel_rfl) (by kernel_rfl) (by kernel_rfl) (fun _ _ _ h => h) (Or.inl ⟨by rfl, fun w => by go_simp⟩) ?_
  simp only [Act.put, List.getElem_toArray, List.getElem_cons_succ, List.getElem_cons_zero, List.setIfInBounds_toArray, List.set_cons_zero, List.set_cons_succ]
  refine wpAny_take (i := 1) (v := .pointer (some ⟨s, 0, none⟩)) rfl (by kernel_rfl) (by kernel_rfl) (by kernel_rfl) (fun _ _ _ h => h) (Or.inl ⟨by rfl, fun w => by go_simp⟩) ?_
  simp only [Act.put, List.getElem_toArray, List.getElem_cons_succ, List.getElem_cons_zero, List.setIfInBounds_toArray, List.set_cons_zero, List.set_cons_succ]
  refine wpAny_take (i := 2) (v := .pointer (some ⟨s, 1, none⟩)) rfl (by kernel_rfl) (by kernel_rfl) (by kernel_rfl) (fun _ _ _ h => h) (Or.inl ⟨by rfl, fun w => by go_simp⟩) ?_
  simp only [Act.put, List.getElem_toArray, List.getElem_cons_succ, List.getElem_cons_zero, List.setIfInBounds_toArray, List.set_cons_zero, List.set_cons_succ]
  refine wpAny_take (i := 5) (v := .pointer (some ⟨s, 0, none⟩)) rfl (by kernel_rfl) (by kernel_rfl) (by kernel_rfl) (fun _ _ _ h => h) (Or.inl ⟨by rfl, fun w => by go_simp⟩) ?_
  simp only [Act.put, List.getElem_toArray, List.getElem_cons_succ, List.getElem_cons_zero, List.setIfInBounds_toArray, List.set_cons_zero, List.set_cons_succ]
  refine wpAny_take (i := 6) (v := .pointer (some ⟨s, 0, none⟩)) rfl (by kernel_rfl) (by kernel_rfl) (by kernel_rfl) (fun _ _ _ h => h) (Or.inl ⟨by rfl, fun w => by go_simp⟩) ?_
  simp only [Act.put, List.getElem_toArray, List.getElem_cons_succ, List.getElem_cons_zero, List.setIfInBounds_toArray, List.set_cons_zero, List.set_cons_succ]
  refine wpAny_take (i := 7) (v := .pointer (some ⟨s, 1, none⟩)) rfl (by kernel_rfl) (by kernel_rfl) (by kernel_rfl) (fun _ _ _ h => h) (Or.inl ⟨by rfl, fun w => by go_simp⟩) ?_
  simp only [Act.put, List.getElem_toArray, List.getElem_cons_succ, List.getElem_cons_zero, List.setIfInBounds_toArray, List.set_cons_zero, List.set_cons_succ]
  refine wpAny_take (i := 8) (v := .pointer (some ⟨s, 2, none⟩)) rfl (by kernel_rfl) (by kernel_rfl) (by kernel_rfl) (fun _ _ _ h => h) (Or.inl ⟨by rfl, fun w => by go_simp⟩) ?_
  simp only [Act.put, List.getElem_toArray, List.getElem_cons_succ, List.getElem_cons_zero, List.setIfInBounds_toArray, List.set_cons_zero, List.set_cons_succ]
  refine wpAny_take (i := 11) (v := .pointer (some ⟨s, 0, none⟩)) rfl (by kernel_rfl) (by kernel_rfl) (by kernel_rfl) (fun _ _ _ h => h) (Or.inl ⟨by rfl, fun w => by go_simp⟩) ?_
  simp only [Act.put, List.getElem_toArray, List.getElem_cons_succ, List.getElem_cons_zero, List.setIfInBounds_toArray, List.set_cons_zero, List.set_cons_succ]
  refine wpAny_take (i := 12) (v := .pointer (some ⟨s, 0, none⟩)) rfl (by kernel_rfl) (by kernel_rfl) (by kernel_rfl) (fun _ _ _ h => h) (Or.inl ⟨by rfl, fun w => by go_simp⟩) ?_
  simp only [Act.put, List.getElem_toArray, List.getElem_cons_succ, List.getElem_cons_zero, List.setIfInBounds_toArray, List.set_cons_zero, List.set_cons_succ]
  refine wpAny_take (i := 13) (v := .pointer (some ⟨s, 1, none⟩)) rfl (by kernel_rfl) (by kernel_rfl) (by kernel_rfl) (fun _ _ _ h => h) (Or.inl ⟨by rfl, fun w => by go_simp⟩) ?_
  simp only [Act.put, List.getElem_toArray, List.getElem_cons_succ, List.getElem_cons_zero, List.setIfInBounds_toArray, List.set_cons_zero, List.set_cons_succ]
  refine wpAny_take (i := 14) (v := .pointer (some ⟨s, 3, none⟩)) rfl (by kernel_rfl) (by kernel_rfl) (by kernel_rfl) (fun _ _ _ h => h) (Or.inl ⟨by rfl, fun w => by go_simp⟩) ?_
  simp only [Act.put, List.getElem_toArray, List.getElem_cons_succ, List.getElem_cons_zero, List.setIfInBounds_toArray, List.set_cons_zero, List.set_cons_succ]
  refine any_of_L (g := 22) (T := fun u => u.heap[s]? = some (.cells (stCells p h mb false).toArray 55 (0, 0))) _ _ _ _ ?_
  refine L_take (i := 3) (v := .agg A0) rfl rfl (by kernel_rfl) (by decide) (by kernel_rfl) (by kernel_rfl) (by kernel_rfl) (by kernel_rfl) (fun _ _ _ h => h) ?_ Ha0.out ?_
  · refine yields_load_run (by rfl) 50 (.tmp 16) (by rfl) (.pointer (some ⟨s, 1, none⟩)) (by rfl) ?_
    exact fun u hu => (HT.out u hu).2.2
  simp only [Act.put, List.getElem_toArray, List.getElem_cons_succ, List.getElem_cons_zero, List.setIfInBounds_toArray, List.set_cons_zero, List.set_cons_succ]
  refine L_take (i := 9) (v := .int .u8 (h.turn.toNat : Int)) rfl rfl (by kernel_rfl) (by decide) (by kernel_rfl) (by kernel_rfl) (by kernel_rfl) (by kernel_rfl) (fun _ _ _ h => h) (Or.inl ⟨by rfl, fun w' hw' => by have c0 := (HT.out w' hw').1; clear hw'; go_simp⟩) Ha0.out ?_
  simp only [Act.put, List.getElem_toArray, List.getElem_cons_succ, List.getElem_cons_zero, List.setIfInBounds_toArray, List.set_cons_zero, List.set_cons_succ]
  refine L_take (i := 10) (v := .int .u8 (((h.turn.toNat : Int) + 1) % 256)) rfl rfl (by kernel_rfl) (by decide) (by kernel_rfl) (by kernel_rfl) (by kernel_rfl) (by kernel_rfl) (fun _ _ _ h => h) (Or.inl ⟨by rfl, fun w' hw' => by clear hw'; go_simp; rw [IntKind.wrap_u8]⟩) Ha0.out ?_
  simp only [Act.put, List.getElem_toArray, List.getElem_cons_succ, List.getElem_cons_zero, List.setIfInBounds_toArray, List.set_cons_zero, List.set_cons_succ]
  refine L_take (i := 15) (v := .int .i64 (h.ver : Int)) rfl rfl (by kernel_rfl) (by decide) (by kernel_rfl) (by kernel_rfl) (by kernel_rfl) (by kernel_rfl) (fun _ _ _ h => h) (Or.inl ⟨by rfl, fun w' hw' => by have c0 := (HT.out w' hw').2.1; clear hw'; go_simp⟩) Ha0.out ?_
  simp only [Act.put, List.getElem_toArray, List.getElem_cons_succ, List.getElem_cons_zero, List.setIfInBounds_toArray, List.set_cons_zero, List.set_cons_succ]
  refine L_take (i := 16) (v := .int .i64 ((h.ver : Int) + 1)) rfl rfl (by kernel_rfl) (by decide) (by kernel_rfl) (by kernel_rfl) (by kernel_rfl) (by kernel_rfl) (fun _ _ _ h => h) (Or.inl ⟨by rfl, fun w' hw' => by clear hw'; go_simp⟩) Ha0.out ?_
  simp only [Act.put, List.getElem_toArray, List.getElem_cons_succ, List.getElem_cons_zero, List.setIfInBounds_toArray, List.set_cons_zero, List.set_cons_succ]
  refine L_one (i := 4) (by kernel_rfl) ?_
  refine wpOp_step rfl (fun K hK => ?_)
  rw [if_pos (by rfl)]
  go_wp2_with fail
  refine (HO.out _).mono ?_
  rintro e U1 ⟨rfl, hb1⟩
  have a1 : StAt w U1 p nb sb cv n D s mb h P false := Hst.out.1.below hb1
  have b1 : NxAt w U1 nx h := Hst.out.2.1.below hb1
  have K1 : KeepC w.heap.size stT W U1 := Hst.out.2.2.trans (.of_below hb1)
  have b4 := b1.set3 (1 - h.blk) (by omega) (h.turn + 1) (h.ver + 1) hv
  have q1 : NxAt w (U1.setCell ⟨nx, 0, none⟩ (.int .i64 ((1 - h.blk : Nat) : Int))) nx ⟨1 - h.blk, h.turn, h.ver, h.whr⟩ := by
    refine ⟨?_, b1.2.1, ⟨by show 1 - h.blk ≤ 1; omega, b1.2.2.v, b1.2.2.w⟩⟩
    rw [setCell_eq_setRow U1 nx _ _ _ (0, 0) _ b1.1, setRow_heap U1 nx _ _ _ (0, 0) b1.1]
    simp [Hd.cells]
  have q2 : NxAt w ((U1.setCell ⟨nx, 0, none⟩ (.int .i64 ((1 - h.blk : Nat) : Int))).setCell ⟨nx, 1, none⟩ (.int .u8 ((h.turn + 1).toNat : Int))) nx ⟨1 - h.blk, h.turn + 1, h.ver, h.whr⟩ := by
    refine ⟨?_, b1.2.1, ⟨by show 1 - h.blk ≤ 1; omega, b1.2.2.v, b1.2.2.w⟩⟩
    rw [setCell_eq_setRow _ nx _ _ _ (0, 0) _ q1.1, setRow_heap _ nx _ _ _ (0, 0) q1.1]
    simp [Hd.cells]
  have a4 := ((a1.setNx b1 0 (.int .i64 ((1 - h.blk : Nat) : Int))).setNx q1 1 (.int .u8 ((h.turn + 1).toNat : Int))).setNx q2 2 (.int .i64 ((h.ver + 1 : Nat) : Int))
  have K4 := ((K1.setCell (o := 0) b1.1 (by decide) b1.2.1 (.int .i64 ((1 - h.blk : Nat) : Int))).setCell (o := 1) q1.1 (by decide) q1.2.1 (.int .u8 ((h.turn + 1).toNat : Int))).setCell (o := 2) q2.1 (by decide) q2.2.1 (.int .i64 ((h.ver + 1 : Nat) : Int))
  have c0 : U1.cell? ⟨nx, 0, none⟩ = some (.int .i64 (h.blk : Int)) := by rw [cell_of_row U1 _ _ _ _ (0, 0) b1.1]; rfl
  have f0 := b1.fz 0
  have c1 : (U1.setCell ⟨nx, 0, none⟩ (.int .i64 ((1 - h.blk : Nat) : Int))).cell? ⟨nx, 1, none⟩ = some (.int .u8 (h.turn.toNat : Int)) := by rw [cell_of_row _ _ _ _ _ (0, 0) q1.1]; rfl
  have f1 := q1.fz 1
  have c2 : ((U1.setCell ⟨nx, 0, none⟩ (.int .i64 ((1 - h.blk : Nat) : Int))).setCell ⟨nx, 1, none⟩ (.int .u8 ((h.turn + 1).toNat : Int))).cell? ⟨nx, 2, none⟩ = some (.int .i64 (h.ver : Int)) := by rw [cell_of_row _ _ _ _ _ (0, 0) q2.1]; rfl
  have f2 := q2.fz 2
  rw [ht1] at a4 b4 K4 c2 f2
  have ev : ((h.ver + 1 : Nat) : Int) = (h.ver : Int) + 1 := by omega
  rw [ev] at a4 b4 K4
  have H4 : Hid (_ ∧ _ ∧ _) := ⟨a4, b4, K4⟩
  have TB1 : Hid (U1.heap[s]? = some (.cells (stCells p h mb false).toArray 55 (0, 0))) := a1.box
  have TB2 : Hid ((U1.setCell ⟨nx, 0, none⟩ (.int .i64 ((1 - h.blk : Nat) : Int))).heap[s]? = some (.cells (stCells p h mb false).toArray 55 (0, 0))) := (a1.setNx b1 0 _).box
  have TB3 : Hid (((U1.setCell ⟨nx, 0, none⟩ (.int .i64 ((1 - h.blk : Nat) : Int))).setCell ⟨nx, 1, none⟩ (.int .u8 (((h.turn.toNat : Int) + 1) % 256))).heap[s]? = some (.cells (stCells p h mb false).toArray 55 (0, 0))) := by rw [← ht1]; exact ((a1.setNx b1 0 _).setNx q1 1 _).box
  refine hK _ _ ⟨a1.box, ?_⟩
  clear hK K a1 b1 K1 a4 b4 K4 q1 q2 hb1 Hst ev
  generalize ((1 - h.blk : Nat) : Int) = bb at *
  refine L_take (i := 17) (v := .pointer (some ⟨nx, 0, none⟩)) rfl rfl (by kernel_rfl) (by decide) (by kernel_rfl) (by kernel_rfl) (by kernel_rfl) (by kernel_rfl) (fun _ _ _ h => h) (Or.inl ⟨by rfl, fun w' hw' => by clear hw'; go_simp⟩) TB1.out ?_
  try simp only [Act.put, List.getElem_toArray, List.getElem_cons_succ, List.getElem_cons_zero, List.setIfInBounds_toArray, List.set_cons_zero, List.set_cons_succ]
  refine L_one (i := 18) (by kernel_rfl) ?_
  refine wpOp_step rfl ?_
  intro K hK
  rw [if_pos (by rfl)]
  have hK' : Shut (∀ a w, _ → K a w) := hK
  clear hK
  go_wp2
  refine hK'.out _ _ ⟨TB2.out, ?_⟩
  clear hK' K
  generalize U1.setCell ⟨nx, 0, none⟩ (.int .i64 bb) = U2 at *
  refine L_take (i := 19) (v := .pointer (some ⟨nx, 1, none⟩)) rfl rfl (by kernel_rfl) (by decide) (by kernel_rfl) (by kernel_rfl) (by kernel_rfl) (by kernel_rfl) (fun _ _ _ h => h) (Or.inl ⟨by rfl, fun w' hw' => by clear hw'; go_simp⟩) TB2.out ?_
  try simp only [Act.put, List.getElem_toArray, List.getElem_cons_succ, List.getElem_cons_zero, List.setIfInBounds_toArray, List.set_cons_zero, List.set_cons_succ]
  refine L_one (i := 20) (by kernel_rfl) ?_
  refine wpOp_step rfl ?_
  intro K hK
  rw [if_pos (by rfl)]
  have hK' : Shut (∀ a w, _ → K a w) := hK
  clear hK
  go_wp2
  refine hK'.out _ _ ⟨TB3.out, ?_⟩
  clear hK' K
  generalize U2.setCell ⟨nx, 1, none⟩ (.int .u8 (((h.turn.toNat : Int) + 1) % 256)) = U3 at *
  refine L_take (i := 21) (v := .pointer (some ⟨nx, 2, none⟩)) rfl rfl (by kernel_rfl) (by decide) (by kernel_rfl) (by kernel_rfl) (by kernel_rfl) (by kernel_rfl) (fun _ _ _ h => h) (Or.inl ⟨by rfl, fun w' hw' => by clear hw'; go_simp⟩) TB3.out ?_
  try simp only [Act.put, List.getElem_toArray, List.getElem_cons_succ, List.getElem_cons_zero, List.setIfInBounds_toArray, List.set_cons_zero, List.set_cons_succ]
  refine L_go (by kernel_rfl) (by kernel_rfl) ?_
  refine wpOp_step rfl ?_
  intro K hK
  rw [if_pos (by rfl)]
  have hK' : Shut (∀ a w, _ → K a w) := hK
  clear hK
  go_wp2
  refine hK'.out _ _ ?_
  clear hK' K
  generalize U3.setCell ⟨nx, 2, none⟩ (.int .i64 ((h.ver : Int) + 1)) = U4 at *
  refine wpAny_done (by kernel_rfl) ?_ _
  have HWp : Hid (Calls _ _ _ U4 _) := HR.out U4 H4.out.1 H4.out.2.1 H4.out.2.2
  clear HR H4 c0 f0 c1 f1 c2 f2
  go_wp2_with fail
  refine HWp.out.mono ?_
  rintro e U5 ⟨rfl, hh⟩
  obtain ⟨cv5, a5, b5, K5⟩ := hh.out
  clear HWp hh
  have H5 : Hid (StAt w U5 p nb sb cv5 n (wpD h P D.flush 40) s mb h P false ∧ NxAt w U5 nx (nxH h P) ∧ KeepC w.heap.size stT W U5) := ⟨a5, b5, K5⟩
  have HWc : Hid (Calls _ _ _ U5.drew _) := HWr.out U5.drew cv5 (a5.tn.below (drewB U5))
  have c50 : U5.drew.cell? ⟨s, 0, none⟩ = some (.pointer (some ⟨p, 0, none⟩)) := a5.c0
  have hld5 : (Instr.loadAt 50 (.pointer (some ⟨nx, 0, none⟩))).run Try.prog U5.drew = .ok (.agg (nxH h P).cells.toArray) U5.drew := load_head b5.2.2 (range0 b5.1)
  have kn := b5.2.2
  generalize hY : nxH h P = Y at *
  clear a5 b5 K5 HWr
  go_wp2
  refine wp_region_drawn (by kernel_rfl) ?_
  refine wpAny_take (i := 1) (v := .pointer (some ⟨s, 0, none⟩)) rfl (by kernel_rfl) (by kernel_rfl) (by kernel_rfl) (fun _ _ _ h => h) (Or.inl ⟨by rfl, fun w => by go_simp⟩) ?_
  simp only [Act.put, List.getElem_toArray, List.getElem_cons_succ, List.getElem_cons_zero, List.setIfInBounds_toArray, List.set_cons_zero, List.set_cons_succ]
  refine wpAny_take (i := 2) (v := .pointer (some ⟨s, 0, none⟩)) rfl (by kernel_rfl) (by kernel_rfl) (by kernel_rfl) (fun _ _ _ h => h) (Or.inl ⟨by rfl, fun w => by go_simp⟩) ?_
  simp only [Act.put, List.getElem_toArray, List.getElem_cons_succ, List.getElem_cons_zero, List.setIfInBounds_toArray, List.set_cons_zero, List.set_cons_succ]
  refine wpAny_take (i := 3) (v := .pointer (some ⟨s, 0, none⟩)) rfl (by kernel_rfl) (by kernel_rfl) (by kernel_rfl) (fun _ _ _ h => h) (Or.inl ⟨by rfl, fun w => by go_simp⟩) ?_
  simp only [Act.put, List.getElem_toArray, List.getElem_cons_succ, List.getElem_cons_zero, List.setIfInBounds_toArray, List.set_cons_zero, List.set_cons_succ]
  refine any_of_L (g := 5) (T := fun u => u = U5.drew) _ _ _ _ ?_
  refine L_take (i := 0) (v := .agg Y.cells.toArray) rfl rfl (by kernel_rfl) (by decide) (by kernel_rfl) (by kernel_rfl) (by kernel_rfl) (by kernel_rfl) (fun _ _ _ h => h) ?_ rfl ?_
  · refine yields_load_run (by rfl) 50 (.tmp 3) (by rfl) (.pointer (some ⟨nx, 0, none⟩)) (by rfl) ?_
    exact (fun u hu => by subst hu; exact hld5)
  simp only [Act.put, List.getElem_toArray, List.getElem_cons_succ, List.getElem_cons_zero, List.setIfInBounds_toArray, List.set_cons_zero, List.set_cons_succ]
  refine L_take (i := 4) (v := .pointer (some ⟨p, 0, none⟩)) rfl rfl (by kernel_rfl) (by decide) (by kernel_rfl) (by kernel_rfl) (by kernel_rfl) (by kernel_rfl) (fun _ _ _ h => h) (Or.inl ⟨by rfl, fun w' hw' => by subst hw'; go_simp⟩) rfl ?_
  simp only [Act.put, List.getElem_toArray, List.getElem_cons_succ, List.getElem_cons_zero, List.setIfInBounds_toArray, List.set_cons_zero, List.set_cons_succ]
  refine L_go (by kernel_rfl) (by kernel_rfl) ?_
  refine wpOp_step rfl (fun K hK => ?_)
  rw [if_pos (by rfl)]
  go_wp2_with fail
  refine HWc.out.mono ?_
  rintro e U6 ⟨rfl, cv6, ht6, hk6⟩
  refine hK _ _ ?_
  have a6 : StAt w U6 p nb sb cv6 n (nxD D h P) s mb h P false := (H5.out.1.below (drewB U5)).disk ht6.out hk6.out
  have b6 : NxAt w U6 nx Y := (H5.out.2.1.below (drewB U5)).keeps hk6.out
  have K6 : KeepC w.heap.size stT W U6 := (H5.out.2.2.trans (drewK _ _ U5)).trans (.of_keeps hk6.out dk_st)
  have HRb : Hid (Calls _ _ _ U6 _) := rollback_any a6
  have H6 : Hid (StAt w U6 p nb sb cv6 n (nxD D h P) s mb h P false ∧ NxAt w U6 nx Y ∧ KeepC w.heap.size stT W U6) := ⟨a6, b6, K6⟩
  clear hK K HWc ht6 hk6 H5 a6 b6 K6 c50 hld5
  refine wpAny_take (i := 6) (v := .nilIface) rfl (by kernel_rfl) (by kernel_rfl) (by kernel_rfl) (fun _ _ _ h => h) (Or.inl ⟨by rfl, fun w => by go_simp⟩) ?_
  simp only [Act.put, List.getElem_toArray, List.getElem_cons_succ, List.getElem_cons_zero, List.setIfInBounds_toArray, List.set_cons_zero, List.set_cons_succ]
  refine wpAny_done (by kernel_rfl) ?_ _
  go_wp2_with fail
  refine HRb.out.mono ?_
  rintro e U7 ⟨rfl, a7, K7, ho7⟩
  obtain ⟨es, mc, hmb, _⟩ := H6.out.1.mp
  have b7 : NxAt w U7 nx Y := by
    refine ⟨?_, H6.out.2.1.2⟩
    rw [ho7.out nx (fun e => by have := H6.out.2.1.1; rw [e, hmb] at this; cases this)]
    exact H6.out.2.1.1
  have hld7 := load_head (o := 0) b7.2.2 (range0 b7.1)
  obtain ⟨hst7, a8, K8⟩ := a7.out.setBox Y kn
  have HE : Hid (StAt w (U7.setRow s (stCells p Y mb false).toArray) p nb sb cv6 n (nxD D h P) s mb Y [] false ∧ KeepC w.heap.size stT W (U7.setRow s (stCells p Y mb false).toArray)) := ⟨a8, (H6.out.2.2.trans K7.out).trans K8⟩
  clear HRb H6 a7 K7 ho7 b7 a8 K8 hmb
  generalize (P.length : Int) = PL at *
  go_wp2_with (first | (refine wpList_load_run rfl 50 _ rfl _ (by rfl) hld7 ?_) | (refine wpList_store_run rfl 50 _ _ rfl _ _ (by rfl) (by rfl) hst7 ?_))
  go_ret
  refine ⟨rfl, cv6, ?_, HE.out.2⟩
  rw [hY]
  exact HE.out.1
end
end Go.Proofs.Ytidccclfngcpgaa
