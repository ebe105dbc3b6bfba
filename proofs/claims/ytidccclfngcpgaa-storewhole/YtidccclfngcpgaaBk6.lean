/-
  The contracts of a disk's Read and Flush.
-/
import Derived.Test.YtidccclfngcpgaaBk5
namespace Go.Proofs.Ytidccclfngcpgaa
set_option linter.unusedVariables false
set_option linter.unusedSimpArgs false
set_option maxRecDepth 100000
open Go.RowKit Go.Lib

theorem Still.trans {a b c : World} (h : Still a b) (k : Still b c) : Still a c := ⟨k.os.trans h.os, k.tape.trans h.tape, k.output.trans h.output, k.heap.trans h.heap⟩

theorem read_range (lo p nb sb : Nat) (cv : Value) (n : Nat) (D : Dk) (i : Int) (w : World) (h : DkAt w lo p nb sb cv n D) (h0 : hasB n i = false) :
    Calls Try.prog 27 #[.pointer (some ⟨p, 0, none⟩), .int .i64 i] w fun e w' => e = .returned (.tuple #[.slice none 0 0, enE 1]) ∧ Still w w' := by
  have HH : Hid (Calls _ _ _ _ _) := has_any lo p nb sb cv n D i w h
  rw [h0] at HH
  rw [enE_ne (by decide)]
  clear h h0
  go_enter Try.func27, Try.ntmps27
  go_wp2_with fail
  refine HH.out.mono ?_
  rintro e w1 ⟨rfl, hs⟩
  clear HH
  go_wp2
  go_ret2
  exact ⟨rfl, hs⟩

theorem torn_cell {w : World} {g : Nat} {l : List Bk} {t : TypeId} (h : w.heap[g]? = some (.cells (rowOf Bk.cells l).toArray t (0, 0))) (ho : ∀ x ∈ l, x.ok) (i : Nat) (hi : i < l.length) : w.cell? ⟨g, i * 65 + 64, none⟩ = some (.bool (l.getD i bk0).torn) := by
  refine row_range h ho i hi 64 _ ?_
  have hk := getD_ok ho i
  unfold Bk.ok at hk
  generalize l.getD i bk0 = b at *
  rw [Bk.cells, List.getElem?_append_right (by rw [byC_length, hk]; exact Nat.le_refl _), byC_length, hk]
  rfl

theorem read_torn (lo p nb sb : Nat) (cv : Value) (n : Nat) (D : Dk) (i : Nat) (w : World) (h : DkAt w lo p nb sb cv n D) (hi : i < n) (ht : (D.now.getD i bk0).torn = true) :
    Calls Try.prog 27 #[.pointer (some ⟨p, 0, none⟩), .int .i64 (i : Int)] w fun e w' => e = .returned (.tuple #[.slice none 0 0, enE 9]) ∧ Still w w' := by
  have HH : Hid (Calls _ _ _ _ _) := has_any lo p nb sb cv n D (i : Int) w h
  have hh : hasB n (i : Int) = true := by simp [hasB]; omega
  rw [hh] at HH
  rw [enE_ne (by decide)]
  have HC : Hid (∀ W, Still w W → W.cell? ⟨p, 0, none⟩ = some (.slice (some ⟨nb, 0, none⟩) n n) ∧ W.cell? ⟨nb, i * 65 + 64, none⟩ = some (.bool true)) := fun W hW => by
    have h' := h.still hW
    have := torn_cell h'.now h'.ok.nowO i (by rw [h'.ok.nowL]; exact hi)
    rw [ht] at this
    exact ⟨h'.p0, this⟩
  have i0 : (0 : Int) ≤ i := by omega
  have i1 : (i : Int) < n := by omega
  clear h ht hh
  go_enter Try.func27, Try.ntmps27
  go_wp2_with fail
  refine HH.out.mono ?_
  rintro e w1 ⟨rfl, hs⟩
  obtain ⟨c0, c1⟩ := HC.out w1 hs
  clear HH HC
  go_wp2
  go_ret2
  exact ⟨rfl, hs⟩

theorem u8_info : (Try.prog.info? 5).map (fun i => (i.zero, i.size, i.bytes)) = some (some (.int .u8 0), 1, 1) := by kernel_rfl
theorem copy_read (W : World) (g i : Nat) (l : List Bk) (t : TypeId) (Z : Array Value) (hZ : Z.size = 64) (h : W.heap[g]? = some (.cells (rowOf Bk.cells l).toArray t (0, 0))) (ho : ∀ x ∈ l, x.ok) (hi : i < l.length) (ty : TypeId) :
    (Builtin.copy_ #[33, 33] ty #[.slice (some ⟨W.heap.size, 0, none⟩) 64 64, .slice (some ⟨g, i * 65, none⟩) 64 64]).run Try.prog (W.alloc (.cells Z 5)) =
      .ok (goInt 64) (W.alloc (.cells (byC (l.getD i bk0).byt).toArray 5)) := by
  have hb := getD_ok ho i
  have hL : (byC (l.getD i bk0).byt).length = 64 := by rw [byC_length]; exact hb
  have := run_copy_row Try.prog (W.alloc (.cells Z 5)) 33 33 ty 5 W.heap.size 0 64 64 ⟨g, i * 65, none⟩ 64 64 Z 5 (byC (l.getD i bk0).byt) Try.underlying33 u8_one
    (new_heap W _) (by rw [hL]; rfl) (fun j v hj => by
      rw [Addr.add_mid, World.cell?_alloc_lt _ _ _ (show g < W.heap.size from (Array.getElem?_eq_some_iff.1 h).1)]
      refine row_range h ho i hi j v ?_
      have hjl := (List.getElem?_eq_some_iff.1 hj).1
      rw [Bk.cells, List.getElem?_append_left hjl]
      exact hj) (by rw [hL]; omega) (byC_one _)
  rw [this, hL, World.setRow_alloc_new]
  have e : Z.toList.drop 64 = [] := List.drop_eq_nil_of_le (by simp [hZ])
  simp [e]

set_option maxHeartbeats 2000000 in
theorem read_ok (lo p nb sb : Nat) (cv : Value) (n : Nat) (D : Dk) (i : Nat) (w : World) (h : DkAt w lo p nb sb cv n D) (hi : i < n) (ht : (D.now.getD i bk0).torn = false) :
    Calls Try.prog 27 #[.pointer (some ⟨p, 0, none⟩), .int .i64 (i : Int)] w fun e w' => e = .returned (.tuple #[.slice (some ⟨w.heap.size, 0, none⟩) 64 64, .nilIface]) ∧ w'.heap[w.heap.size]? = some (.cells (byC (D.now.getD i bk0).byt).toArray 5 (0, 0)) ∧ Below w.heap.size w w' := by
  have HH : Hid (Calls _ _ _ _ _) := has_any lo p nb sb cv n D (i : Int) w h
  have hh : hasB n (i : Int) = true := by simp [hasB]; omega
  rw [hh] at HH
  have HC : Hid (∀ W, Still w W → W.cell? ⟨p, 0, none⟩ = some (.slice (some ⟨nb, 0, none⟩) n n) ∧ W.cell? ⟨nb, i * 65 + 64, none⟩ = some (.bool false) ∧ p < W.heap.size) := fun W hW => by
    have h' := h.still hW
    have := torn_cell h'.now h'.ok.nowO i (by rw [h'.ok.nowL]; exact hi)
    rw [ht] at this
    exact ⟨h'.p0, this, h'.lt⟩
  have hmk : ∀ W, (Instr.makeSlice 33 (.int .i64 64) (.int .i64 64)).run Try.prog W = .ok (.slice (some ⟨W.heap.size, 0, none⟩) 64 64) (W.alloc (.cells (madeCells #[.int .u8 0] 64) 5)) := fun W => run_make_row' (P := Try.prog) 33 5 (.int .u8 0) 1 Try.underlying33 u8_info rfl .i64 .i64 64 (by omega) (by omega) W
  have HP : Hid (∀ W, Still w W → ∀ ty, (Builtin.copy_ #[33, 33] ty #[.slice (some ⟨W.heap.size, 0, none⟩) 64 64, .slice (some ⟨nb, i * 65, none⟩) 64 64]).run Try.prog (W.alloc (.cells (madeCells #[.int .u8 0] 64) 5)) =
      .ok (goInt 64) (W.alloc (.cells (byC (D.now.getD i bk0).byt).toArray 5))) := fun W hW ty => by
    have h' := h.still hW
    exact copy_read W nb i D.now 66 _ (size_madeCells _ _) h'.now h'.ok.nowO (by rw [h'.ok.nowL]; exact hi) ty
  generalize madeCells #[.int .u8 0] 64 = Z at *
  generalize (byC (D.now.getD i bk0).byt).toArray = X at *
  have i0 : (0 : Int) ≤ i := by omega
  have i1 : (i : Int) < n := by omega
  clear h ht hh
  go_enter Try.func27, Try.ntmps27
  go_wp2_with fail
  refine HH.out.mono ?_
  rintro e w1 ⟨rfl, hs⟩
  obtain ⟨c0, c1, hp⟩ := HC.out w1 hs
  have hcp := HP.out w1 hs
  have ez : w1.heap.size = w.heap.size := by rw [hs.heap]
  have hend : (w1.alloc (.cells X 5)).heap[w.heap.size]? = some (.cells X 5 (0, 0)) := by rw [← ez]; exact new_heap w1 _
  have hbel : Below w.heap.size w (w1.alloc (.cells X 5)) := (hs.below _).alloc (by rw [ez]; exact Nat.le_refl _) _
  have HE : Hid (_ ∧ _) := ⟨hend, hbel⟩
  have HZ : Hid (w1.heap.size = w.heap.size) := ez
  clear HH HC HP hs hend hbel ez
  go_wp2_with (refine wpList_copy_run rfl (.tmp 22) (.tmp 30) _ _ rfl (.slice (some ⟨w1.heap.size, 0, none⟩) 64 64) (.slice (some ⟨nb, i * 65, none⟩) 64 64) rfl rfl (hcp _) ?_)
  go_ret2
  rw [HZ.out]
  exact ⟨rfl, HE.out.1, HE.out.2⟩

/-- copy, of elements of z cells. -/
theorem run_copyZ {P : Program} (w : World) (dT sT ty elem : TypeId) (z g o dLen dCap : Nat) (a : Addr) (sLen sCap : Nat) (cur : Array Value) (t : TypeId) (cs : List Value)
    (hu : P.underlying dT = some (.slice elem)) (hs : (P.info? elem).map (·.size) = some z)
    (hg : w.heap[g]? = some (.cells cur t (0, 0))) (hn : Nat.min sLen dLen * z = cs.length)
    (hsrc : ∀ j v, cs[j]? = some v → w.cell? (a.add j) = some v) (hfit : o + cs.length ≤ cur.size) (h1 : ∀ v ∈ cs, v.oneCell' = true) :
    (Builtin.copy_ #[dT, sT] ty #[.slice (some ⟨g, o, none⟩) dLen dCap, .slice (some a) sLen sCap]).run P w =
      .ok (goInt (Nat.min sLen dLen)) (w.setRow g (cur.toList.take o ++ cs ++ cur.toList.drop (o + cs.length)).toArray) := by
  have hl := run_loadCells_list (P := P) w a cs hsrc
  have hst := run_storeCells_at P g o t cs 0 cur w hg (by simpa using hfit) h1
  cases hq : P.info? elem with
  | none => simp [hq] at hs
  | some i =>
    have hi : i.size = z := by simpa [hq] using hs
    have hm : Nat.min sLen dLen * i.size = cs.length := by rw [hi]; exact hn
    simp only [hi] at hm
    simp [Builtin.copy_, run_underlying hu, Builtin.lenOf, Builtin.firstCells, sizeOf, typeInfo, hq, hi, hm, hl, hst]
/-- All blocks are copied. -/
theorem copy_blocks (W : World) (g g' n : Nat) (l m : List Bk) (hl : l.length = n) (hm : m.length = n) (ol : ∀ x ∈ l, x.ok) (om : ∀ x ∈ m, x.ok) (h : W.heap[g]? = some (.cells (rowOf Bk.cells l).toArray 66 (0, 0))) (h' : W.heap[g']? = some (.cells (rowOf Bk.cells m).toArray 66 (0, 0))) (ty : TypeId) :
    (Builtin.copy_ #[44, 44] ty #[.slice (some ⟨g, 0, none⟩) n n, .slice (some ⟨g', 0, none⟩) n n]).run Try.prog W = .ok (goInt n) (W.setRow g (rowOf Bk.cells m).toArray) := by
  have L1 := rowOf_length Bk.cells 65 l (fun y hy => Bk.cells_length (ol y hy))
  have L2 := rowOf_length Bk.cells 65 m (fun y hy => Bk.cells_length (om y hy))
  have := run_copyZ (P := Try.prog) W 44 44 ty 66 65 g 0 n n ⟨g', 0, none⟩ n n (rowOf Bk.cells l).toArray 66 (rowOf Bk.cells m) Try.underlying44 content_size h (by rw [L2, hm]; simp only [Nat.min_def, Nat.le_refl, if_true]) (fun j v hj => by
    rw [Addr.add_mid, cell_of_row _ _ _ _ _ (0, 0) h']
    simpa using hj) (by rw [L2, hm, List.size_toArray, L1, hl]; omega) (rowOf_oneC _ _ (fun x _ => x.cells_one))
  rw [this]
  have e : (rowOf Bk.cells l).drop (0 + (rowOf Bk.cells m).length) = [] := List.drop_eq_nil_of_le (by rw [L1, L2, hl, hm]; omega)
  have en : Nat.min n n = n := by simp only [Nat.min_def, Nat.le_refl, if_true]
  rw [en]
  rw [Nat.zero_add] at e
  simp [e]

def Dk.flush (D : Dk) : Dk := ⟨D.now, D.now, [], D.steps + 1, D.fail⟩
theorem flush_bad (lo p nb sb : Nat) (cv : Value) (n : Nat) (D : Dk) (w : World) (h : DkAt w lo p nb sb cv n D) (h0 : D.failing = true) :
    Calls Try.prog 24 #[.pointer (some ⟨p, 0, none⟩)] w fun e w' => e = .returned (enE 7) ∧ Still w w' := by
  have HF : Hid (Calls _ _ _ _ _) := failing_any lo p nb sb cv n D w h
  rw [h0] at HF
  rw [enE_ne (by decide)]
  clear h h0
  go_enter Try.func24, Try.ntmps24
  go_wp2_with fail
  refine HF.out.mono ?_
  rintro e w1 ⟨rfl, hs⟩
  clear HF
  go_wp2
  go_ret
  exact ⟨rfl, hs⟩

set_option maxHeartbeats 4000000 in
theorem flush_ok (lo p nb sb : Nat) (cv : Value) (n : Nat) (D : Dk) (w : World) (h : DkAt w lo p nb sb cv n D) (hf : D.failing = false) (hs0 : D.steps ≤ 1000000) :
    Calls Try.prog 24 #[.pointer (some ⟨p, 0, none⟩)] w fun e w' => e = .returned .nilIface ∧ DkAt w' lo p nb sb (.slice none 0 0) n D.flush ∧ Keeps lo dkT w w' := by
  have HF : Hid (Calls _ _ _ _ _) := failing_any lo p nb sb cv n D w h
  rw [hf] at HF
  have HD : Hid (DkAt w lo p nb sb cv n D) := h
  clear h hf
  go_enter Try.func24, Try.ntmps24
  go_wp2_with fail
  refine HF.out.mono ?_
  rintro e w1 ⟨rfl, hs⟩
  clear HF
  have hd1 := HD.out.still hs
  have hk1 : Keeps lo dkT w w1 := hs.keeps _ _
  have c0 : w1.drew.cell? ⟨p, 0, none⟩ = some (.slice (some ⟨nb, 0, none⟩) n n) := hd1.p0
  have c1 : w1.drew.cell? ⟨p, 1, none⟩ = some (.slice (some ⟨sb, 0, none⟩) n n) := hd1.p1
  have hcp := fun ty => copy_blocks w1.drew sb nb n D.safe D.now hd1.ok.safeL hd1.ok.nowL hd1.ok.safeO hd1.ok.nowO hd1.drew.safe hd1.drew.now ty
  have hd2 : DkAt (w1.drew.setRow sb (rowOf Bk.cells D.now).toArray) lo p nb sb cv n { D with safe := D.now } := hd1.drew.setSafe D.now hd1.ok.nowL hd1.ok.nowO
  have hk2 : Keeps lo dkT w (w1.drew.setRow sb (rowOf Bk.cells D.now).toArray) := hk1.drew.setRow hd1.drew.safe (by simp [dkT]) hd1.ls _
  have HD2 : Hid (DkAt _ _ _ _ _ _ _ _) := hd2
  have HK2 : Hid (Keeps _ _ _ _) := hk2
  generalize (rowOf Bk.cells D.now).toArray = R at *
  clear hd1 hk1 hd2 hk2 HD hs
  go_wp2
  refine wp_region_drawn (by kernel_rfl) ?_
  refine wpAny_take (i := 0) (v := .pointer (some ⟨p, 0, none⟩)) rfl (by kernel_rfl) (by kernel_rfl) (by kernel_rfl) (fun _ _ _ h => h) (Or.inl ⟨by rfl, fun w => by go_simp⟩) ?_
  simp only [Act.put, List.getElem_toArray, List.getElem_cons_succ, List.getElem_cons_zero, List.setIfInBounds_toArray, List.set_cons_zero, List.set_cons_succ]
  refine wpAny_take (i := 1) (v := .pointer (some ⟨p, 0, none⟩)) rfl (by kernel_rfl) (by kernel_rfl) (by kernel_rfl) (fun _ _ _ h => h) (Or.inl ⟨by rfl, fun w => by go_simp⟩) ?_
  simp only [Act.put, List.getElem_toArray, List.getElem_cons_succ, List.getElem_cons_zero, List.setIfInBounds_toArray, List.set_cons_zero, List.set_cons_succ]
  refine wpAny_take (i := 2) (v := .pointer (some ⟨p, 1, none⟩)) rfl (by kernel_rfl) (by kernel_rfl) (by kernel_rfl) (fun _ _ _ h => h) (Or.inl ⟨by rfl, fun w => by go_simp⟩) ?_
  simp only [Act.put, List.getElem_toArray, List.getElem_cons_succ, List.getElem_cons_zero, List.setIfInBounds_toArray, List.set_cons_zero, List.set_cons_succ]
  refine wpAny_take (i := 4) (v := .pointer (some ⟨p, 0, none⟩)) rfl (by kernel_rfl) (by kernel_rfl) (by kernel_rfl) (fun _ _ _ h => h) (Or.inl ⟨by rfl, fun w => by go_simp⟩) ?_
  simp only [Act.put, List.getElem_toArray, List.getElem_cons_succ, List.getElem_cons_zero, List.setIfInBounds_toArray, List.set_cons_zero, List.set_cons_succ]
  refine wpAny_take (i := 5) (v := .pointer (some ⟨p, 0, none⟩)) rfl (by kernel_rfl) (by kernel_rfl) (by kernel_rfl) (fun _ _ _ h => h) (Or.inl ⟨by rfl, fun w => by go_simp⟩) ?_
  simp only [Act.put, List.getElem_toArray, List.getElem_cons_succ, List.getElem_cons_zero, List.setIfInBounds_toArray, List.set_cons_zero, List.set_cons_succ]
  refine wpAny_take (i := 6) (v := .pointer (some ⟨p, 0, none⟩)) rfl (by kernel_rfl) (by kernel_rfl) (by kernel_rfl) (fun _ _ _ h => h) (Or.inl ⟨by rfl, fun w => by go_simp⟩) ?_
  simp only [Act.put, List.getElem_toArray, List.getElem_cons_succ, List.getElem_cons_zero, List.setIfInBounds_toArray, List.set_cons_zero, List.set_cons_succ]
  refine any_of_L (g := 8) (T := fun u => u = w1.drew) _ _ _ _ ?_
  refine L_take (i := 3) (v := .slice (some ⟨sb, 0, none⟩) n n) rfl rfl (by kernel_rfl) (by decide) (by kernel_rfl) (by kernel_rfl) (by kernel_rfl) (by kernel_rfl) (fun _ _ _ h => h) (Or.inl ⟨by rfl, fun w' hw' => by subst hw'; go_simp⟩) rfl ?_
  simp only [Act.put, List.getElem_toArray, List.getElem_cons_succ, List.getElem_cons_zero, List.setIfInBounds_toArray, List.set_cons_zero, List.set_cons_succ]
  refine L_take (i := 7) (v := .slice (some ⟨nb, 0, none⟩) n n) rfl rfl (by kernel_rfl) (by decide) (by kernel_rfl) (by kernel_rfl) (by kernel_rfl) (by kernel_rfl) (fun _ _ _ h => h) (Or.inl ⟨by rfl, fun w' hw' => by subst hw'; go_simp⟩) rfl ?_
  simp only [Act.put, List.getElem_toArray, List.getElem_cons_succ, List.getElem_cons_zero, List.setIfInBounds_toArray, List.set_cons_zero, List.set_cons_succ]
  refine L_go (by kernel_rfl) (by kernel_rfl) ?_
  refine wpOp_step rfl ?_
  intro K hK
  rw [if_pos (by rfl)]
  refine wp_copy_run (.tmp 9) (.tmp 13) 44 44 (by rfl) (.slice (some ⟨sb, 0, none⟩) n n) (.slice (some ⟨nb, 0, none⟩) n n) (by rfl) (by rfl) (hcp _) ?_
  refine hK _ _ ?_
  clear hK K hcp c0 c1
  refine wpAny_done (by kernel_rfl) ?_ _
  generalize w1.drew.setRow sb R = W2 at *
  have c2 := HD2.out.p2
  have f2 := HD2.out.fz 2
  have hd3 := HD2.out.setNone
  have hk3 := HK2.out.setCell (o := 2) HD2.out.box (by simp [dkT]) HD2.out.lp (.slice none 0 0)
  have c3 := hd3.p3
  have f3 := hd3.fz 3
  have hst : (D.steps : Int) + 1 = ((D.steps + 1 : Nat) : Int) := by omega
  have hd4 := hd3.setSteps (D.steps + 1)
  have hk4 := hk3.setCell (o := 3) hd3.box (by simp [dkT]) hd3.lp (.int .i64 ((D.steps + 1 : Nat) : Int))
  have HD4 : Hid (DkAt _ _ _ _ _ _ _ _) := hd4
  have HK4 : Hid (Keeps _ _ _ _) := hk4
  rw [← hst] at HD4 HK4
  have hs7 : (D.steps : Int) ≤ 1000000 := by omega
  clear hd3 hk3 hd4 hk4 hst HD2 HK2
  go_wp2
  go_ret
  exact ⟨rfl, HD4.out, HK4.out⟩
end Go.Proofs.Ytidccclfngcpgaa
