/-
  The contract of a head's write.
-/
import Derived.Test.YtidccclfngcpgaaSt5
namespace Go.Proofs.Ytidccclfngcpgaa
set_option linter.unusedVariables false
set_option linter.unusedSimpArgs false
set_option maxRecDepth 100000
open Go.RowKit Go.Lib

/-- Behind a Flush, with an error or without. -/
def flR (D : Dk) : Int × Dk := if D.failing = true then (7, D) else (0, D.flush)
/-- Behind a Write of bytes that fit into a block that is there. -/
def wrR (D : Dk) (i : Nat) (l : List UInt8) : Int × Dk := if D.failing = true then (7, D) else (0, D.write i l)
/-- What a disk has done, at most. -/
structure Dk.lim (D : Dk) (k : Nat) : Prop where
  s : D.steps ≤ k
  c : D.chg.length ≤ k
theorem Dk.lim.mono {D : Dk} {j k : Nat} (h : D.lim j) (hk : j ≤ k) : D.lim k := ⟨Nat.le_trans h.s hk, Nat.le_trans h.c hk⟩
theorem flR_lim {D : Dk} {k : Nat} (h : D.lim k) : (flR D).2.lim (k + 1) := by
  unfold flR
  split
  · exact h.mono (Nat.le_succ _)
  · exact ⟨Nat.succ_le_succ h.s, by simp [Dk.flush]⟩
theorem wrR_lim {D : Dk} {k : Nat} (h : D.lim k) (i : Nat) (l : List UInt8) : (wrR D i l).2.lim (k + 1) := by
  unfold wrR
  split
  · exact h.mono (Nat.le_succ _)
  · exact ⟨Nat.succ_le_succ h.s, by have := h.c; simp [Dk.write]; omega⟩
section
variable {w W : World} {p nb sb : Nat} {cv : Value} {n : Nat} {D : Dk}
theorem tn_fl (h : Tn w W p nb sb cv n D) (hs : D.lim 1000000) :
    Calls Try.prog 24 #[.pointer (some ⟨p, 0, none⟩)] W fun e w' => e = .returned (enE (flR D).1) ∧ ∃ cv', Hid (Tn w w' p nb sb cv' n (flR D).2) ∧ Hid (Keeps w.heap.size dkT W w') := by
  unfold flR
  by_cases hf : D.failing = true
  · rw [if_pos hf]
    refine (flush_bad w.heap.size p nb sb cv n D W h.1 hf).mono ?_
    rintro e w' ⟨rfl, hs⟩
    exact ⟨rfl, cv, h.still hs, hs.keeps _ _⟩
  · rw [if_neg hf]
    refine (tn_flush h (by simpa using hf) hs.s).mono ?_
    rintro e w' ⟨rfl, h1, h2⟩
    exact ⟨rfl, _, h1, h2⟩
theorem tn_wrR (h : Tn w W p nb sb cv n D) (i : Nat) (a : Option Addr) (l : List UInt8) (cap : Nat) (hi : i < n) (hl : l.length ≤ 64) (hn : n ≤ 200) (hs : D.lim 1000000) (hB : IsBy W a l cap) :
    Calls Try.prog 25 #[.pointer (some ⟨p, 0, none⟩), .int .i64 (i : Int), .slice a l.length cap] W fun e w' => e = .returned (enE (wrR D i l).1) ∧ ∃ cv', Hid (Tn w w' p nb sb cv' n (wrR D i l).2) ∧ Hid (Keeps w.heap.size dkT W w') := by
  unfold wrR
  by_cases hf : D.failing = true
  · rw [if_pos hf]
    have e7 : wrBad D n (i : Int) l = 7 := by unfold wrBad; rw [if_pos hf]
    refine (tn_writeBad h i a l cap (by rw [e7]; decide)).mono ?_
    rintro e w' ⟨rfl, h1, h2⟩
    exact ⟨by rw [e7], cv, h1, h2.out.keeps _ _⟩
  · rw [if_neg hf]
    refine (tn_write h i a l cap (by simpa using hf) hi hl hn hs.s hs.c hB).mono ?_
    rintro e w' ⟨rfl, h1⟩
    exact ⟨rfl, h1⟩
/-- Behind a head's write. -/
def hwR (D : Dk) (h : Hd) : Int × Dk :=
  let r1 := flR D
  if r1.1 = 0 then
    let r2 := wrR r1.2 h.blk (hdB h)
    if r2.1 = 0 then flR r2.2 else r2
  else r1
theorem flR_code (D : Dk) : (flR D).1 = 0 ∨ (flR D).1 = 7 := by unfold flR; split <;> simp
theorem wrR_code (D : Dk) (i : Nat) (l : List UInt8) : (wrR D i l).1 = 0 ∨ (wrR D i l).1 = 7 := by unfold wrR; split <;> simp
theorem box_range (u : World) (h : Hd) : (u.alloc (.cells h.cells.toArray 50)).heap[u.heap.size]? = some (.cells h.cells.toArray 50 (0, 0)) := new_heap u _
set_option maxHeartbeats 4000000 in
theorem hwrite_any (a : Tn w W p nb sb cv n D) (h : Hd) (k : h.ok) (hn : n ≤ 200) (hn2 : 2 ≤ n) (hs : D.lim 999990) :
    Calls Try.prog 17 #[.agg h.cells.toArray, .pointer (some ⟨p, 0, none⟩)] W fun e w' => e = .returned (enE (hwR D h).1) ∧ ∃ cv', Hid (Tn w w' p nb sb cv' n (hwR D h).2) ∧ Hid (Keeps w.heap.size dkT W w') := by
  obtain ⟨W0, hW0⟩ : ∃ W0, W.alloc (.cells h.cells.toArray 50) = W0 := ⟨_, rfl⟩
  have hb0 : Below W.heap.size W W0 := by rw [← hW0]; exact (Below.refl _ W).alloc (Nat.le_refl _) _
  have hr0 : W0.heap[W.heap.size]? = some (.cells h.cells.toArray 50 (0, 0)) := by rw [← hW0]; exact new_heap W _
  have HF1 : Hid (Calls _ _ _ W0 _) := tn_fl (a.below hb0) (hs.mono (by omega))
  have Hk0 : Hid (Keeps w.heap.size dkT W W0) := Keeps.of_below hb0
  have Hr0 : Hid (W0.heap[W.heap.size]? = some (.cells h.cells.toArray 50 (0, 0))) := hr0
  have L1 := flR_lim hs
  rcases flR_code D with e1 | e1
  · have eR : hwR D h = (if (wrR (flR D).2 h.blk (hdB h)).1 = 0 then flR (wrR (flR D).2 h.blk (hdB h)).2 else wrR (flR D).2 h.blk (hdB h)) := by
      unfold hwR; simp only; rw [if_pos e1]
    rw [eR]
    rw [e1] at HF1
    have L2 := wrR_lim L1 h.blk (hdB h)
    have hblk : h.blk < n := by have := k.b; omega
    have HWr : Hid (∀ U V cv1 v, Tn w U p nb sb cv1 n (flR D).2 → Below U.heap.size U V → ByRow V U.heap.size v (hdB h) → ∃ a' c', v = .slice a' (hdB h).length c' ∧ Calls Try.prog 25 #[.pointer (some ⟨p, 0, none⟩), .int .i64 (h.blk : Int), .slice a' (hdB h).length c'] V fun e w' => e = .returned (enE (wrR (flR D).2 h.blk (hdB h)).1) ∧ ∃ cv', Hid (Tn w w' p nb sb cv' n (wrR (flR D).2 h.blk (hdB h)).2) ∧ Hid (Keeps w.heap.size dkT V w')) := fun U V cv1 v hU hV hv => by
      obtain ⟨a', c', rfl, hb⟩ := hv.isBy
      exact ⟨a', c', rfl, tn_wrR (hU.below hV) h.blk a' (hdB h) c' hblk (by rw [hdB_length k]; omega) hn (L1.mono (by omega)) hb⟩
    have HF2 : Hid (∀ V cv2, Tn w V p nb sb cv2 n (wrR (flR D).2 h.blk (hdB h)).2 → Calls _ _ _ V _) := fun V cv2 hV => tn_fl hV (L2.mono (by omega))
    have HBy : Hid (∀ U, Calls _ _ _ U _) := fun U => bytes_any h U k
    have HK : Hid h.ok := k
    generalize (flR D).2 = D1 at *
    have HC := wrR_code D1 h.blk (hdB h)
    have Hh : Hid (∀ u : World, u.heap[W.heap.size]? = some (.cells h.cells.toArray 50 (0, 0)) → u.cell? ⟨W.heap.size, 0, none⟩ = some (.int .i64 (h.blk : Int)) ∧ (Instr.loadAt 50 (.pointer (some ⟨W.heap.size, 0, none⟩))).run Try.prog u = .ok (.agg h.cells.toArray) u) := fun u hu => ⟨by rw [cell_of_row u _ _ _ _ (0, 0) hu]; rfl, load_head HK.out (range0 hu)⟩
    clear a hs L1 L2 k hb0 hr0 e1 eR
    generalize hA : h.cells.toArray = A0 at *
    clear hA
    go_enter Try.func17, Try.ntmps17
    go_wp2_with fail
    refine HF1.out.mono ?_
    rintro e w1 ⟨rfl, cv1, ht1, hk1⟩
    rw [enE_zero]
    have Hr1 : Hid (w1.drew.heap[W.heap.size]? = some (.cells A0 50 (0, 0))) := hk1.out.row Hr0.out (by decide)
    clear HF1
    go_wp2
    refine wp_region_drawn (by kernel_rfl) ?_
    refine wpAny_take (i := 0) (v := .pointer (some ⟨p, 0, none⟩)) rfl (by kernel_rfl) (by kernel_rfl) (by kernel_rfl) (fun _ _ _ h => h) (Or.inl ⟨by rfl, fun w => by go_simp⟩) ?_
    simp only [Act.put, List.getElem_toArray, List.getElem_cons_succ, List.getElem_cons_zero, List.setIfInBounds_toArray, List.set_cons_zero, List.set_cons_succ]
    refine wpAny_take (i := 1) (v := .pointer (some ⟨W.heap.size, 0, none⟩)) rfl (by kernel_rfl) (by kernel_rfl) (by kernel_rfl) (fun _ _ _ h => h) (Or.inl ⟨by rfl, fun w => by go_simp⟩) ?_
    simp only [Act.put, List.getElem_toArray, List.getElem_cons_succ, List.getElem_cons_zero, List.setIfInBounds_toArray, List.set_cons_zero, List.set_cons_succ]
    refine any_of_L (g := 5) (T := fun u => u.heap[W.heap.size]? = some (.cells A0 50 (0, 0))) _ _ _ _ ?_
    refine L_take (i := 2) (v := .int .i64 (h.blk : Int)) rfl rfl (by kernel_rfl) (by decide) (by kernel_rfl) (by kernel_rfl) (by kernel_rfl) (by kernel_rfl) (fun _ _ _ h => h) (Or.inl ⟨by rfl, fun w' hw' => by have c0 := (Hh.out w' hw').1; clear hw'; go_simp⟩) Hr1.out ?_
    simp only [Act.put, List.getElem_toArray, List.getElem_cons_succ, List.getElem_cons_zero, List.setIfInBounds_toArray, List.set_cons_zero, List.set_cons_succ]
    refine L_take2 (i := 3) (m := 4) (v := .agg A0) rfl rfl rfl (by kernel_rfl) (by kernel_rfl) (by decide) (by kernel_rfl) (by kernel_rfl) (by kernel_rfl) (by kernel_rfl) (by kernel_rfl) (fun _ _ _ h => h) ?_ Hr1.out ?_
    · refine yields_load_run (by rfl) 50 (.tmp 2) (by rfl) (.pointer (some ⟨W.heap.size, 0, none⟩)) (by rfl) ?_
      exact fun u hu => (Hh.out u hu).2
    simp only [Act.put, List.getElem_toArray, List.getElem_cons_succ, List.getElem_cons_zero, List.setIfInBounds_toArray, List.set_cons_zero, List.set_cons_succ]
    refine L_one (i := 4) (by kernel_rfl) ?_
    refine wpOp_step rfl (fun K hK => ?_)
    rw [if_pos (by rfl)]
    go_wp2_with fail
    refine (HBy.out _).mono ?_
    rintro e w2 ⟨v, rfl, hv, hb2⟩
    have hr2 : w2.heap[W.heap.size]? = some (.cells A0 50 (0, 0)) := (hb2.out.block _ ((Array.getElem?_eq_some_iff.1 Hr1.out).1)).trans Hr1.out
    have ht1d : Tn w w1.drew p nb sb cv1 n D1 := ht1.out.below ⟨rfl, rfl, rfl, Nat.le_refl _, fun _ _ => rfl⟩
    obtain ⟨a', c', rfl, hcall⟩ := HWr.out w1.drew w2 cv1 v ht1d hb2.out hv.out
    have HCall : Hid (Calls _ _ _ w2 _) := hcall
    have Hk2 : Hid (Keeps w.heap.size dkT W w2) := ((Hk0.out.trans hk1.out).drew).trans (Keeps.of_below hb2.out)
    refine hK _ _ ⟨hr2, ?_⟩
    clear hK K hr2 hcall hv hb2 ht1 ht1d hk1 HBy HWr
    try simp only [Act.put, List.getElem_toArray, List.getElem_cons_succ, List.getElem_cons_zero, List.setIfInBounds_toArray, List.set_cons_zero, List.set_cons_succ]
    refine L_go (by kernel_rfl) (by kernel_rfl) ?_
    refine wpOp_step rfl (fun K hK => ?_)
    rw [if_pos (by rfl)]
    go_wp2_with fail
    refine HCall.out.mono ?_
    rintro e w3 ⟨rfl, cv3, ht3, hk3⟩
    refine hK _ _ ?_
    clear hK K HCall
    refine any_one (i := 6) (by kernel_rfl) ?_
    refine wpOp_step rfl ?_
    intro K hK
    rw [if_pos (by rfl)]
    have hK' : Shut (∀ a w, _ → K a w) := hK
    clear hK
    go_wp2
    refine hK'.out _ _ ?_
    clear hK' K
    refine wpAny_done (by kernel_rfl) ?_ _
    have Hk4 : Hid (Keeps w.heap.size dkT W w3) := Hk2.out.trans hk3.out
    rcases HC with e2 | e2
    · have HF3 : Hid (Calls _ _ _ w3 _) := HF2.out w3 cv3 ht3.out
      have He2 : Hid ((wrR D1 h.blk (hdB h)).1 = 0) := e2
      rw [e2, enE_zero]
      clear HF2 hk3 ht3 e2
      go_wp2_with fail
      refine HF3.out.mono ?_
      rintro e w5 ⟨rfl, cv5, ht5, hk5⟩
      go_wp2
      go_ret
      first | exact ⟨rfl, cv5, ht5, Hk4.out.trans hk5.out⟩ | exact ⟨rfl, ⟨cv5, ht5⟩, Hk4.out.trans hk5.out⟩
    · have He2 : Hid ((wrR D1 h.blk (hdB h)).1 = 7) := e2
      rw [e2, enE_ne (by decide)]
      clear HF2 hk3 e2
      go_wp2
      all_goals go_ret
      all_goals first | exact ⟨rfl, cv3, ht3, Hk4⟩ | exact ⟨rfl, ⟨cv3, ht3⟩, Hk4⟩ | (rw [He2.out]; exact ⟨rfl, ⟨cv3, ht3⟩, Hk4⟩) | (exfalso; rw [He2.out] at h; revert h; decide)
  · have eR : hwR D h = flR D := by
      unfold hwR; simp only; rw [if_neg (by rw [e1]; decide)]
    rw [eR]
    rw [e1] at HF1 ⊢
    rw [enE_ne (by decide)] at HF1 ⊢
    generalize (flR D).2 = D1 at *
    generalize h.cells.toArray = A0 at *
    clear a hs L1 k hb0 hr0 e1 eR
    go_enter Try.func17, Try.ntmps17
    go_wp2_with fail
    refine HF1.out.mono ?_
    rintro e w1 ⟨rfl, cv1, ht1, hk1⟩
    go_wp2
    go_ret
    exact ⟨rfl, cv1, ht1, Hk0.out.trans hk1.out⟩
end
end Go.Proofs.Ytidccclfngcpgaa
