/-
  The contract of store.readHead where there is a head.
-/
import Derived.Test.YtidccclfngcpgaaSt4
import Derived.Deep.WholeRow
namespace Go.Proofs.Ytidccclfngcpgaa
set_option linter.unusedVariables false
set_option linter.unusedSimpArgs false
set_option maxRecDepth 100000
open Go.RowKit Go.Lib
section
variable {w W : World} {p nb sb : Nat} {cv : Value} {n : Nat} {D : Dk}
theorem ver_step (v k : Nat) (hv : v ≤ 1000000) (hk : k < 8) : bits .or .i64 (((v / 2 ^ (64 - 8 * k) : Nat) : Int) * 256) ((v / 2 ^ (56 - 8 * k) % 256 : Nat) : Int) = ((v / 2 ^ (64 - 8 * (k + 1)) : Nat) : Int) := by
  have h1 : v / 2 ^ (64 - 8 * k) ≤ v := Nat.div_le_self _ _
  rw [or_byte _ _ (by omega) (by omega)]
  have e1 : 64 - 8 * k = (56 - 8 * k) + 8 := by omega
  have e2 : 64 - 8 * (k + 1) = 56 - 8 * k := by omega
  rw [e1, e2, Nat.pow_add, ← Nat.div_div_eq_div_mul]
  omega
set_option maxHeartbeats 4000000 in
theorem readHead_some (a : Tn w W p nb sb cv n D) (i : Nat) (hi : i < n) (h : Hd) (k : h.ok) (hb : h.blk = i) (hp : D.now.getD i bk0 = ⟨padB (hdB h), false⟩) :
    Calls Try.prog 23 #[.pointer (some ⟨p, 0, none⟩), .int .i64 (i : Int)] W fun e w' => e = .returned (.tuple #[.agg h.cells.toArray, .bool true]) ∧ Hid (Below W.heap.size W w') := by
  have hal := alloc_head
  obtain ⟨W0, hW0⟩ : ∃ W0, W.alloc (.cells hd0.cells.toArray 50) = W0 := ⟨_, rfl⟩
  have hb0 : Below W.heap.size W W0 := by rw [← hW0]; exact (Below.refl _ W).alloc (Nat.le_refl _) _
  have hr0 : W0.heap[W.heap.size]? = some (.cells hd0.cells.toArray 50 (0, 0)) := by rw [← hW0]; exact new_heap W _
  have HR : Hid (Calls _ _ _ W0 _) := tn_read (a.below hb0) i hi (by rw [hp])
  rw [hp] at HR
  have hbd := build_head i h.turn
  have HB : Hid (Below W.heap.size W W0) := hb0
  have Hr0 : Hid (W0.heap[W.heap.size]? = some (.cells hd0.cells.toArray 50 (0, 0))) := hr0
  have hs0 : W0.heap.size = W.heap.size + 1 := by rw [← hW0]; simp
  obtain ⟨T, hT⟩ : ∃ T, txt markB = T := ⟨_, rfl⟩
  have hmk := mark_mark
  rw [hT] at hmk
  obtain ⟨h1, hh1⟩ : ∃ h1 : Hd, Hd.mk i h.turn 0 (List.replicate 40 0) = h1 := ⟨_, rfl⟩
  have k1 : h1.ok := by rw [← hh1]; exact ⟨by rw [← hb]; exact k.b, by simp, by simp⟩
  rw [hh1] at hbd
  have HK : Hid h.ok := k
  clear a hp hb0 hr0
  go_enter Try.func23, Try.ntmps23
  go_wp2_with (refine wpList_alloc_run rfl 50 rfl (hal _) ?_)
  refine HR.out.mono ?_
  rintro e w1 ⟨rfl, _, hrow, hs⟩
  have hr1 : w1.heap[W.heap.size]? = some (.cells hd0.cells.toArray 50 (0, 0)) := (hs.out.block _ (by rw [hs0]; exact Nat.lt_succ_self _)).trans Hr0.out
  have hstr := run_str w1 (some ⟨W0.heap.size, 0, none⟩) markB 64 (by
    have := isBy_row hrow.out 8 (by show 8 ≤ (padB (hdB h)).length; rw [padB_length _ (by rw [hdB_length k]; omega)]; omega) 64 (by omega)
    rw [hd_take h k] at this
    exact this)
  rw [hs0, hT] at hstr
  have hstr8 : (convert 33 9 (.slice (some ⟨W.heap.size + 1, 0, none⟩) 8 64)).run Try.prog w1 = .ok (.string T) w1 := hstr
  have Hcell : Hid (∀ (U : World), U.heap[W.heap.size + 1]? = w1.heap[W.heap.size + 1]? → ∀ j x, (padB (hdB h))[j]? = some x → U.cell? ⟨W.heap.size + 1, j, none⟩ = some (.int .u8 (x.toNat : Int))) := fun U hU j x hx => by
    rw [cell_of_row U _ _ _ _ (0, 0) (hU.trans (by rw [← hs0]; exact hrow.out)), List.getElem?_toArray]
    have hj := (List.getElem?_eq_some_iff.1 hx).1
    have he := (List.getElem?_eq_some_iff.1 hx).2
    rw [byC_get _ _ hj, he]
  have c8 := Hcell.out w1 rfl 8 h.turn (hd_turn h k)
  have B1 : Hid (Below W.heap.size W w1) := HB.out.trans (hs.out.mono HB.out.size)
  obtain ⟨B, hB⟩ : ∃ B, w1.heap.size = B := ⟨_, rfl⟩
  have hB2 : W.heap.size + 1 < B := by
    have := (Array.getElem?_eq_some_iff.1 hrow.out).1
    rw [hs0] at this
    omega
  have hstn := fun U => run_storeAt_new (P := Try.prog) U 50 hd0.cells.toArray h1.cells.toArray (by rw [List.size_toArray, Hd.cells_length k1]; exact head_size) (by rw [List.size_toArray, List.size_toArray, Hd.cells_length hd0_ok, Hd.cells_length k1]) (all_oneCell_toArray (Hd.cells_one _))
  have H1 : Hid ((w1.alloc (.cells h1.cells.toArray 50)).heap[B]? = some (.cells (Hd.mk i h.turn (h.ver / 2 ^ 64) (List.replicate 40 0)).cells.toArray 50 (0, 0)) ∧ Below w1.heap.size w1 (w1.alloc (.cells h1.cells.toArray 50))) := by
    refine ⟨?_, (Below.refl _ w1).alloc (Nat.le_refl _) _⟩
    rw [← hB, new_heap, ← hh1, show h.ver / 2 ^ 64 = 0 from Nat.div_eq_of_lt (by have := k.v; omega)]
  have Hr1 : Hid (w1.heap[W.heap.size]? = some (.cells hd0.cells.toArray 50 (0, 0))) := hr1
  clear HR hrow hs hstr HB Hr0 hr1
  generalize h1.cells.toArray = C1 at *
  obtain ⟨C0, hC0⟩ : ∃ C0, hd0.cells.toArray = C0 := ⟨_, rfl⟩
  rw [hC0] at hal hstn hW0
  clear hW0
  go_wp2_with (first | (refine wpList_build_run rfl 50 #[(0, .tmp 26), (1, .tmp 29)] rfl #[(0, .int .i64 (i : Int)), (1, .int .u8 (h.turn.toNat : Int))] (by simp [Act.eval]) (hbd _) ?_) | (refine wpList_alloc_run rfl 50 rfl (hal _) ?_) | (refine wpList_store_run rfl 50 _ _ rfl _ _ (by rfl) (by rfl) (hstn _) ?_))
  obtain ⟨w2, hw2⟩ : ∃ w2, w1.alloc (.cells C1 50) = w2 := ⟨_, rfl⟩
  rw [hw2] at H1 ⊢
  clear hw2 hstn hbd hal hstr8 c8
  go_loopw [34] (fun v wr => ∃ q : Nat, q ≤ 8 ∧ v = .int .i64 q ∧ Hid (wr.heap[B]? = some (.cells (Hd.mk i h.turn (h.ver / 2 ^ (64 - 8 * q)) (List.replicate 40 0)).cells.toArray 50 (0, 0)) ∧ (∀ b, b ≠ B → b < wr.heap.size → wr.heap[b]? = w2.heap[b]?) ∧ wr.heap.size = w2.heap.size ∧ wr.os = w2.os ∧ wr.tape = w2.tape ∧ wr.output = w2.output)) (fun v _ => 8 - (intOf v).toNat)
  case atStart => exact ⟨0, by omega, rfl, H1.out.1, fun _ _ _ => rfl, rfl, rfl, rfl, rfl⟩
  case round =>
    obtain ⟨q, hq, rfl, H⟩ := hrel
    obtain ⟨r1, r2, r3, r4⟩ := H.out
    have hBs : B < wr.heap.size := (Array.getElem?_eq_some_iff.1 r1).1
    have hrow : wr.heap[W.heap.size + 1]? = w1.heap[W.heap.size + 1]? := (r2 _ (by omega) (by omega)).trans (H1.out.2.block _ (by omega))
    by_cases hlt : q < 8
    · have cx := Hcell.out wr hrow (9 + q) _ (hd_ver h HK.out q hlt)
      rw [UInt8.toNat_ofNat', show (2 : Nat) ^ 8 = 256 from rfl] at cx
      have cv2 : wr.cell? ⟨B, 2, none⟩ = some (.int .i64 ((h.ver / 2 ^ (64 - 8 * q) : Nat) : Int)) := by
        rw [cell_of_row wr B _ _ _ (0, 0) r1]; rfl
      have fv2 : wr.frozen? ⟨B, 2, none⟩ = false := by simp [World.frozen?, r1]
      have hst := ver_step h.ver q HK.out.v hlt
      have hlev : h.ver / 2 ^ (64 - 8 * q) ≤ 1000000 := Nat.le_trans (Nat.div_le_self _ _) HK.out.v
      have HN : Hid ((wr.setCell ⟨B, 2, none⟩ (.int .i64 ((h.ver / 2 ^ (64 - 8 * (q + 1)) : Nat) : Int))).heap[B]? = some (.cells (Hd.mk i h.turn (h.ver / 2 ^ (64 - 8 * (q + 1))) (List.replicate 40 0)).cells.toArray 50 (0, 0)) ∧ (∀ b, b ≠ B → b < (wr.setCell ⟨B, 2, none⟩ (.int .i64 ((h.ver / 2 ^ (64 - 8 * (q + 1)) : Nat) : Int))).heap.size → (wr.setCell ⟨B, 2, none⟩ (.int .i64 ((h.ver / 2 ^ (64 - 8 * (q + 1)) : Nat) : Int))).heap[b]? = w2.heap[b]?) ∧ (wr.setCell ⟨B, 2, none⟩ (.int .i64 ((h.ver / 2 ^ (64 - 8 * (q + 1)) : Nat) : Int))).heap.size = w2.heap.size ∧ wr.os = w2.os ∧ wr.tape = w2.tape ∧ wr.output = w2.output) := by
        refine ⟨?_, fun b hb hbs => ?_, ?_, r4⟩
        · rw [setCell_eq_setRow wr B 2 _ _ (0, 0) _ r1, setRow_heap wr B _ _ _ (0, 0) r1]
          simp [Hd.cells]
        · rw [Below.heap_setCell _ _ _ _ hb]
          exact r2 b hb (by simpa [World.setCell] using hbs)
        · rw [← r3]; simp [World.setCell]
      have q0 : (0 : Int) ≤ q := by omega
      have q1 : (q : Int) < 8 := by omega
      have q2 : ((9 + q : Nat) : Int) = 9 + (q : Int) := by omega
      clear H r1 r2 r3 r4 hrow
      obtain ⟨V', hV'⟩ : ∃ V', h.ver / 2 ^ (64 - 8 * (q + 1)) = V' := ⟨_, rfl⟩
      rw [hV'] at hst HN
      have HV' : Hid (h.ver / 2 ^ (64 - 8 * (q + 1)) = V') := hV'
      clear hV'
      generalize h.ver / 2 ^ (64 - 8 * q) = V at *
      have hX : h.ver / 2 ^ (56 - 8 * q) % 256 < 256 := Nat.mod_lt _ (by omega)
      generalize h.ver / 2 ^ (56 - 8 * q) % 256 = X at *
      have x0 : (0 : Int) ≤ X := by omega
      have x1 : (X : Int) < 256 := by omega
      have v0 : (0 : Int) ≤ V := by omega
      have v1 : (V : Int) ≤ 1000000 := by omega
      go_wp2
      go_roundw
      case rel => exact ⟨q + 1, by omega, by go_num, by unfold Hid; rw [HV'.out]; exact HN.out⟩
      case measure => simp [intOf]; omega
    · have eq : q = 8 := by omega
      subst eq
      rw [show h.ver / 2 ^ (64 - 8 * 8) = h.ver by simp] at r1
      have hcp : ∀ ty, (Builtin.copy_ #[33, 33] ty #[.slice (some ⟨B, 3, none⟩) 40 40, .slice (some ⟨W.heap.size + 1, 17, none⟩) 40 47]).run Try.prog wr.drew = .ok (goInt 40) (wr.drew.setRow B h.cells.toArray) := fun ty => by
        have hw := HK.out.w
        have := run_copy_row Try.prog wr.drew 33 33 ty 5 B 3 40 40 ⟨W.heap.size + 1, 17, none⟩ 40 47 _ 50 (byC h.whr) Try.underlying33 u8_one r1 (by rw [byC_length, hw]; rfl) (fun j v hj => by
          have hjl : j < h.whr.length := by
            have := (List.getElem?_eq_some_iff.1 hj).1
            rwa [byC_length] at this
          rw [Addr.add_mid]
          have := Hcell.out wr.drew hrow (17 + j) _ (hd_whr h HK.out j hjl)
          rw [this]
          rw [byC_get _ _ hjl] at hj
          exact hj) (by rw [byC_length, hw, List.size_toArray, Hd.cells_length (h := Hd.mk i h.turn h.ver (List.replicate 40 0)) ⟨by show i ≤ 1; rw [← hb]; exact HK.out.b, HK.out.v, by simp⟩]; omega) (byC_one _)
        rw [byC_length, hw] at this
        rw [this]
        congr 3
        have e1 : (Hd.mk i h.turn h.ver (List.replicate 40 0)).cells = [.int .i64 (i : Int), .int .u8 (h.turn.toNat : Int), .int .i64 (h.ver : Int)] ++ byC (List.replicate 40 0) := rfl
        have e2 : h.cells = [.int .i64 (i : Int), .int .u8 (h.turn.toNat : Int), .int .i64 (h.ver : Int)] ++ byC h.whr := by rw [← hb]; rfl
        rw [List.toList_toArray, e1, e2, List.take_left' (by rfl), List.drop_eq_nil_of_le (by simp [byC_length]), List.append_nil]
      have HN : Hid ((wr.drew.setRow B h.cells.toArray).heap[B]? = some (.cells h.cells.toArray 50 (0, 0)) ∧ (wr.drew.setRow B h.cells.toArray).heap[W.heap.size]? = some (.cells hd0.cells.toArray 50 (0, 0)) ∧ Below W.heap.size W (wr.drew.setRow B h.cells.toArray)) := by
        have hx : (wr.drew.setRow B h.cells.toArray).heap[W.heap.size]? = w2.heap[W.heap.size]? := (setRow_other _ _ _ _ (by omega)).trans (r2 _ (by omega) (by omega))
        refine ⟨setRow_heap wr.drew _ _ _ _ _ r1, hx.trans ((H1.out.2.block _ (by omega)).trans Hr1.out), ?_⟩
        have hb2 := B1.out.trans (H1.out.2.mono (by have := B1.out.size; omega))
        exact hb2.trans ⟨r4.1, r4.2.1, r4.2.2, by simp [r3], fun b hbb => (setRow_other _ _ _ _ (by omega)).trans (r2 b (by omega) (by omega))⟩
      clear H r1 r2 r3 r4 hrow
      go_wp2
      refine wp_region_drawn (by kernel_rfl) ?_
      refine wpAny_take (i := 0) (v := .pointer (some ⟨B, 3, none⟩)) rfl (by kernel_rfl) (by kernel_rfl) (by kernel_rfl) (fun _ _ _ h => h) (Or.inl ⟨by rfl, fun w => by go_simp⟩) ?_
      simp only [Act.put, List.getElem_toArray, List.getElem_cons_succ, List.getElem_cons_zero, List.setIfInBounds_toArray, List.set_cons_zero, List.set_cons_succ]
      refine wpAny_take (i := 1) (v := .slice (some ⟨B, 3, none⟩) 40 40) rfl (by kernel_rfl) (by kernel_rfl) (by kernel_rfl) (fun _ _ _ h => h) (Or.inl ⟨by rfl, fun w => by go_simp⟩) ?_
      simp only [Act.put, List.getElem_toArray, List.getElem_cons_succ, List.getElem_cons_zero, List.setIfInBounds_toArray, List.set_cons_zero, List.set_cons_succ]
      refine wpAny_take (i := 2) (v := .slice (some ⟨W.heap.size + 1, 0, none⟩) 64 64) rfl (by kernel_rfl) (by kernel_rfl) (by kernel_rfl) (fun _ _ _ h => h) (Or.inl ⟨by rfl, fun w => by go_simp⟩) ?_
      simp only [Act.put, List.getElem_toArray, List.getElem_cons_succ, List.getElem_cons_zero, List.setIfInBounds_toArray, List.set_cons_zero, List.set_cons_succ]
      refine wpAny_take (i := 3) (v := .slice (some ⟨W.heap.size + 1, 17, none⟩) 40 47) rfl (by kernel_rfl) (by kernel_rfl) (by kernel_rfl) (fun _ _ _ h => h) (Or.inl ⟨by rfl, fun w => by go_simp⟩) ?_
      simp only [Act.put, List.getElem_toArray, List.getElem_cons_succ, List.getElem_cons_zero, List.setIfInBounds_toArray, List.set_cons_zero, List.set_cons_succ]
      refine any_one (i := 4) (by kernel_rfl) ?_
      refine wpOp_step rfl ?_
      intro K hK
      rw [if_pos (by rfl)]
      refine wp_copy_run (.tmp 47) (.tmp 49) 33 33 (by rfl) (.slice (some ⟨B, 3, none⟩) 40 40) (.slice (some ⟨W.heap.size + 1, 17, none⟩) 40 47) (by rfl) (by rfl) (hcp _) ?_
      refine hK _ _ ?_
      clear hK K hcp
      refine wpAny_done (by kernel_rfl) ?_ _
      have hld := load_head (o := 0) HK.out (range0 HN.out.1)
      have hst := store_box HK.out hd0_ok HN.out.2.1
      have HE : Hid (((wr.drew.setRow B h.cells.toArray).setRow W.heap.size h.cells.toArray).heap[W.heap.size]? = some (.cells h.cells.toArray 50 (0, 0)) ∧ Below W.heap.size W ((wr.drew.setRow B h.cells.toArray).setRow W.heap.size h.cells.toArray)) := ⟨setRow_heap _ _ _ _ _ _ HN.out.2.1, setRow_below HN.out.2.2 (Nat.le_refl _)⟩
      generalize wr.drew.setRow B h.cells.toArray = W3 at *
      go_wp2_with (first | (refine wpList_load_run rfl 50 _ rfl _ (by rfl) hld ?_) | (refine wpList_store_run rfl 50 _ _ rfl _ _ (by rfl) (by rfl) hst ?_))
      refine bodyPost_ret (head_results rfl _ HK.out (by rfl) HE.out.1) rfl ?_
      exact ⟨rfl, HE.out.2⟩
end
end Go.Proofs.Ytidccclfngcpgaa
