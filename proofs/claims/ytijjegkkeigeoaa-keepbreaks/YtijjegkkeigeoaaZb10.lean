/-
  The contract of a log's Room.
-/
import Derived.Test.YtijjegkkeigeoaaZb9
import Derived.Test.YtijjegkkeigeoaaZb5
namespace Go.Proofs.Ytijjegkkeigeoaa
set_option linter.unusedVariables false
set_option linter.unusedSimpArgs false
set_option maxRecDepth 100000
set_option maxHeartbeats 2000000
open Go.RowKit Go.Lib
/-- What is not safe is written once more, and made safe. -/
def flW (fr : Nat) (s : Ls) (tx : List UInt8) (wh : List Nat) : Nat → Nat → Dk → Int × Dk
  | 0, _, D => flR D
  | m + 1, k, D => if hasP D (fr + wh.getD k 0) (pcB (pcAt s tx k)) = true then flW fr s tx wh m (k + 1) D else if (wrR D (fr + wh.getD k 0) (pcB (pcAt s tx k))).1 = 0 then flW fr s tx wh m (k + 1) (wrR D (fr + wh.getD k 0) (pcB (pcAt s tx k))).2 else wrR D (fr + wh.getD k 0) (pcB (pcAt s tx k))
theorem wrR_two (D : Dk) (i : Nat) (l : List UInt8) : (wrR D i l).1 = 0 ∨ (wrR D i l).1 = 7 := by unfold wrR; split <;> simp
theorem flR_two (D : Dk) : (flR D).1 = 0 ∨ (flR D).1 = 7 := by unfold flR; split <;> simp
/-- A log's numbers are within bounds. -/
structure LgB (n fr : Nat) (s : Ls) (tx : List UInt8) (wh : List Nat) : Prop where
  nn : n ≤ 200
  wl : wh.length ≤ 250
  wp : wh.length * 60 ≤ tx.length + 59
  at_ : ∀ k, k < wh.length → fr + wh.getD k 0 < n
  tl : tx.length ≤ 100000
  sit : s.sit < 65536
  st : s.st ≤ 100000
  sf : s.sf ≤ wh.length
theorem ByRow.some {W : World} {base : Nat} {a : Option Addr} {m cap : Nat} {l : List UInt8} (h : ByRow W base (.slice a m cap) l) : cap = 0 ∨ a ≠ none := by
  rcases h.2 with ⟨e, _⟩ | ⟨g, c, cur, e, _⟩
  · cases e; exact .inl rfl
  · cases e; right; simp
section
variable {w W U : World} {p nb sb : Nat} {cv : Value} {n : Nat} {D : Dk} {lb fr mn : Nat} {tv wv : Value} {s : Ls} {tx : List UInt8} {wh : List Nat}
theorem flush_any (a : LgAt w W p nb sb cv n D lb fr mn tv wv s tx wh) (hB : LgB n fr s tx wh) (hs : D.lim 900000) :
    Calls Try.prog 43 #[.pointer (some ⟨lb, 0, none⟩)] W fun e w' => e = .returned (enE (flW fr s tx wh (wh.length - s.sf) s.sf D).1) ∧ ∃ cv', Hid (LgAt w w' p nb sb cv' n (flW fr s tx wh (wh.length - s.sf) s.sf D).2 lb fr mn tv wv s tx wh) ∧ Hid (Keeps w.heap.size dkT W w') := by
  obtain ⟨F, hF⟩ : ∃ F, flW fr s tx wh (wh.length - s.sf) s.sf D = F := ⟨_, rfl⟩
  obtain ⟨wa, wc, hwv⟩ := a.wh.shape
  obtain ⟨ta, tc, htv, _⟩ := a.tx.isBy
  subst hwv htv
  have c8 : W.cell? ⟨lb, 8, none⟩ = some (.int .i64 (s.sf : Int)) := by rw [a.box.at]; rfl
  have HA : Hid (LgAt w W p nb sb cv n D lb fr mn (.slice ta tx.length tc) (.slice wa wh.length wc) s tx wh) := a
  have HB : Hid (LgB n fr s tx wh) := hB
  have HF0 : Hid (flW fr s tx wh (wh.length - s.sf) s.sf D = F) := hF
  have HL0 : Hid (D.lim 900000) := hs
  have HC : Hid (∀ (V : World) (cv1 : Value) (D1 : Dk), LgAt w V p nb sb cv1 n D1 lb fr mn (.slice ta tx.length tc) (.slice wa wh.length wc) s tx wh → V.cell? ⟨lb, 0, none⟩ = some (.pointer (some ⟨p, 0, none⟩)) ∧ V.cell? ⟨lb, 3, none⟩ = some (.slice ta tx.length tc) ∧ V.cell? ⟨lb, 7, none⟩ = some (.slice wa wh.length wc)) := fun V cv1 D1 h => ⟨by rw [h.box.at]; rfl, by rw [h.box.at]; rfl, by rw [h.box.at]; rfl⟩
  have b1 : s.sf ≤ wh.length := hB.sf
  have b2 : wh.length ≤ 250 := hB.wl
  rw [hF]
  clear a hB hF hs
  go_enter Try.func43, Try.ntmps43
  go_wp2_with fail
  go_loopw [3] (fun t wr => ∃ (k : Nat) (cv1 : Value) (D1 : Dk), k ≤ wh.length ∧ t = .int .i64 k ∧ Hid (LgAt w wr p nb sb cv1 n D1 lb fr mn (.slice ta tx.length tc) (.slice wa wh.length wc) s tx wh ∧ Keeps w.heap.size dkT W wr ∧ flW fr s tx wh (wh.length - k) k D1 = F ∧ D1.lim (900000 + k))) (fun t _ => wh.length - (RowKit.intOf t).toNat)
  case atStart => exact ⟨s.sf, cv, D, b1, rfl, HA.out, Keeps.refl _ _ _, HF0.out, HL0.out.mono (by omega)⟩
  case round =>
    obtain ⟨k, cv1, D1, hk, rfl, H⟩ := hrel
    obtain ⟨a1, k1, hF1, hl1⟩ := H.out
    obtain ⟨c0, c3, c7⟩ := HC.out wr cv1 D1 a1
    have HK1 : Hid (Keeps w.heap.size dkT W wr) := k1
    have k0 : (0 : Int) ≤ k := by omega
    clear c8 HC HA HF0 HL0 H k1
    by_cases hlt : k < wh.length
    · have klt : (k : Int) < (wh.length : Int) := by omega
      obtain ⟨m, hm⟩ : ∃ m, wh.length - k = m + 1 := ⟨wh.length - k - 1, by omega⟩
      have hm' : wh.length - (k + 1) = m := by omega
      rw [hm] at hF1
      obtain ⟨x, hx⟩ := pcw_any a1 ta tx tc a1.tx.isBy' a1.tx.some k hlt (by have := HB.out.wp; omega) (by omega) HB.out.tl (HB.out.at_ k hlt) HB.out.nn HB.out.sit (hl1.mono (by omega))
      have hl2 := wrR_lim hl1 (fr + wh.getD k 0) (pcB (pcAt s tx k))
      have h2 := wrR_two D1 (fr + wh.getD k 0) (pcB (pcAt s tx k))
      unfold flW at hF1
      have HLb : Hid (∀ u, Below wr.heap.size wr u → LgAt w u p nb sb cv1 n D1 lb fr mn (.slice ta tx.length tc) (.slice wa wh.length wc) s tx wh ∧ Keeps w.heap.size dkT W u) := fun u hu => ⟨a1.below hu, HK1.out.trans (Keeps.of_below hu)⟩
      generalize wrR D1 (fr + wh.getD k 0) (pcB (pcAt s tx k)) = R at *
      generalize hasP D1 (fr + wh.getD k 0) (pcB (pcAt s tx k)) = hp at *
      have HPi : Hid (Calls _ _ _ wr _) := (hx wr (Below.refl _ _)).2.1.out
      have HX : Hid (∀ u, Below wr.heap.size wr u → _) := hx
      have hal := alloc_pc
      cases hp
      · rw [if_neg (by decide)] at hF1
        rcases h2 with h2 | h2
        · rw [if_pos h2] at hF1
          rw [h2, enE_zero] at HX
          have HN : Hid (flW fr s tx wh (wh.length - (k + 1)) (k + 1) R.2 = F ∧ R.2.lim (900000 + (k + 1))) := ⟨by rw [hm']; exact hF1, hl2.mono (by omega)⟩
          clear a1 hF1 hl1 hl2 h2 hx hm hm'
          go_wp2_with fail
          refine HPi.out.mono ?_
          rintro e w1 ⟨rfl, b1⟩
          have hst := store_pcs (cs := x.cells) (cs' := pc0C.toList) x.cells_length rfl x.cells_one (new_heap w1 (.cells pc0C 106))
          have HV : Hid (Below wr.heap.size wr ((w1.alloc (.cells pc0C 106)).setRow w1.heap.size x.cells.toArray).drew ∧ ((w1.alloc (.cells pc0C 106)).setRow w1.heap.size x.cells.toArray).drew.heap[w1.heap.size]? = some (.cells x.cells.toArray 106 (0, 0))) := by
            refine ⟨?_, setRow_heap _ _ _ _ _ _ (new_heap w1 (.cells pc0C 106))⟩
            have h1 : Below w1.heap.size w1 ((w1.alloc (.cells pc0C 106)).setRow w1.heap.size x.cells.toArray) := setRow_below ((Below.refl _ w1).alloc (Nat.le_refl _) _) (Nat.le_refl _)
            exact (b1.out.trans (h1.mono b1.out.size)).trans ⟨rfl, rfl, rfl, Nat.le_refl _, fun _ _ => rfl⟩
          clear HPi b1
          go_upto_region 5 with (first | (refine wpList_alloc_run rfl 106 rfl (hal _) ?_) | (refine wpList_store_run rfl 106 _ _ rfl _ _ (by rfl) (by rfl) hst ?_))
          clear hst hal c0 c3 c7
          refine wp_region_drawn (by kernel_rfl) ?_
          obtain ⟨PB, hPB⟩ : ∃ PB, w1.heap.size = PB := ⟨_, rfl⟩
          generalize hV : ((w1.alloc (.cells pc0C 106)).setRow w1.heap.size x.cells.toArray).drew = V at *
          rw [hPB] at HV
          try rw [hPB]
          clear hV hPB
          have HHs : Hid (Calls _ _ _ V _) := (HX.out V HV.out.1).2.2.1.out
          refine wpAny_take (i := 0) (v := .pointer (some ⟨lb, 0, none⟩)) rfl (by kernel_rfl) (by kernel_rfl) (by kernel_rfl) (fun _ _ _ h => h) (Or.inl ⟨by rfl, fun w => by go_simp⟩) ?_
          simp only [Act.put, List.getElem_toArray, List.getElem_cons_succ, List.getElem_cons_zero, List.setIfInBounds_toArray, List.set_cons_zero, List.set_cons_succ]
          refine wpAny_take (i := 1) (v := .pointer (some ⟨lb, 0, none⟩)) rfl (by kernel_rfl) (by kernel_rfl) (by kernel_rfl) (fun _ _ _ h => h) (Or.inl ⟨by rfl, fun w => by go_simp⟩) ?_
          simp only [Act.put, List.getElem_toArray, List.getElem_cons_succ, List.getElem_cons_zero, List.setIfInBounds_toArray, List.set_cons_zero, List.set_cons_succ]
          refine wpAny_take (i := 2) (v := .pointer (some ⟨lb, 0, none⟩)) rfl (by kernel_rfl) (by kernel_rfl) (by kernel_rfl) (fun _ _ _ h => h) (Or.inl ⟨by rfl, fun w => by go_simp⟩) ?_
          simp only [Act.put, List.getElem_toArray, List.getElem_cons_succ, List.getElem_cons_zero, List.setIfInBounds_toArray, List.set_cons_zero, List.set_cons_succ]
          refine any_of_L (g := 5) (T := fun u => u = V) _ _ _ _ ?_
          refine L_takeC [5] (i := 3) (v := .agg #[.pointer (some ⟨p, 0, none⟩), .int .i64 (fr : Int), .int .i64 (mn : Int)]) rfl (by kernel_rfl) (by kernel_rfl) (by decide) (by kernel_rfl) (by kernel_rfl) (by kernel_rfl) (by kernel_rfl) (fun _ _ _ h => h) ?_ rfl ?_
          · refine yields_load_run (by rfl) 77 (.tmp 28) (by rfl) (.pointer (some ⟨lb, 0, none⟩)) (by rfl) ?_
            exact fun w' hw' => by rw [hw']; exact (HX.out V HV.out.1).1
          simp only [Act.put, List.getElem_toArray, List.getElem_cons_succ, List.getElem_cons_zero, List.setIfInBounds_toArray, List.set_cons_zero, List.set_cons_succ]
          refine L_takeC [5] (i := 4) (v := .agg x.cells.toArray) rfl (by kernel_rfl) (by kernel_rfl) (by decide) (by kernel_rfl) (by kernel_rfl) (by kernel_rfl) (by kernel_rfl) (fun _ _ _ h => h) ?_ rfl ?_
          · refine yields_load_run (by rfl) 106 (.tmp 4) (by rfl) (.pointer (some ⟨PB, 0, none⟩)) (by rfl) ?_
            exact fun w' hw' => by rw [hw']; exact load_pm x (range0 HV.out.2)
          simp only [Act.put, List.getElem_toArray, List.getElem_cons_succ, List.getElem_cons_zero, List.setIfInBounds_toArray, List.set_cons_zero, List.set_cons_succ]
          refine L_go (by kernel_rfl) (by kernel_rfl) ?_
          refine wpOp_step rfl ?_
          intro K hK
          rw [if_pos (by rfl)]
          have hK' : Shut (∀ a w, _ → K a w) := hK
          clear hK
          go_wp2_with fail
          refine HHs.out.mono ?_
          rintro e w4 ⟨rfl, b4⟩
          have HB4 : Hid (Below wr.heap.size wr w4 ∧ w4.heap[PB]? = some (.cells x.cells.toArray 106 (0, 0))) := ⟨HV.out.1.trans (b4.out.mono HV.out.1.size), (b4.out.block _ (Array.getElem?_eq_some_iff.1 HV.out.2).1).trans HV.out.2⟩
          clear HHs b4 HV
          refine hK'.out _ _ ?_
          clear hK' K
          try simp only [Act.put, List.getElem_toArray, List.getElem_cons_succ, List.getElem_cons_zero, List.setIfInBounds_toArray, List.set_cons_zero, List.set_cons_succ]
          refine wpAny_done (by kernel_rfl) ?_ _
          go_upto_region 6 with fail
          refine wp_region_drawn (by kernel_rfl) ?_
          have HV2 : Hid (Below wr.heap.size wr w4.drew ∧ w4.drew.heap[PB]? = some (.cells x.cells.toArray 106 (0, 0))) := ⟨HB4.out.1.trans ⟨rfl, rfl, rfl, Nat.le_refl _, fun _ _ => rfl⟩, HB4.out.2⟩
          clear HB4
          generalize w4.drew = V2 at *
          have HWs : Hid (Calls _ _ _ V2 _) := (HX.out V2 HV2.out.1).2.2.2.out
          refine wpAny_take (i := 0) (v := .pointer (some ⟨lb, 0, none⟩)) rfl (by kernel_rfl) (by kernel_rfl) (by kernel_rfl) (fun _ _ _ h => h) (Or.inl ⟨by rfl, fun w => by go_simp⟩) ?_
          simp only [Act.put, List.getElem_toArray, List.getElem_cons_succ, List.getElem_cons_zero, List.setIfInBounds_toArray, List.set_cons_zero, List.set_cons_succ]
          refine wpAny_take (i := 1) (v := .pointer (some ⟨lb, 0, none⟩)) rfl (by kernel_rfl) (by kernel_rfl) (by kernel_rfl) (fun _ _ _ h => h) (Or.inl ⟨by rfl, fun w => by go_simp⟩) ?_
          simp only [Act.put, List.getElem_toArray, List.getElem_cons_succ, List.getElem_cons_zero, List.setIfInBounds_toArray, List.set_cons_zero, List.set_cons_succ]
          refine wpAny_take (i := 2) (v := .pointer (some ⟨lb, 0, none⟩)) rfl (by kernel_rfl) (by kernel_rfl) (by kernel_rfl) (fun _ _ _ h => h) (Or.inl ⟨by rfl, fun w => by go_simp⟩) ?_
          simp only [Act.put, List.getElem_toArray, List.getElem_cons_succ, List.getElem_cons_zero, List.setIfInBounds_toArray, List.set_cons_zero, List.set_cons_succ]
          refine any_of_L (g := 5) (T := fun u => u = V2) _ _ _ _ ?_
          refine L_takeC [5] (i := 3) (v := .agg #[.pointer (some ⟨p, 0, none⟩), .int .i64 (fr : Int), .int .i64 (mn : Int)]) rfl (by kernel_rfl) (by kernel_rfl) (by decide) (by kernel_rfl) (by kernel_rfl) (by kernel_rfl) (by kernel_rfl) (fun _ _ _ h => h) ?_ rfl ?_
          · refine yields_load_run (by rfl) 77 (.tmp 34) (by rfl) (.pointer (some ⟨lb, 0, none⟩)) (by rfl) ?_
            exact fun w' hw' => by rw [hw']; exact (HX.out V2 HV2.out.1).1
          simp only [Act.put, List.getElem_toArray, List.getElem_cons_succ, List.getElem_cons_zero, List.setIfInBounds_toArray, List.set_cons_zero, List.set_cons_succ]
          refine L_takeC [5] (i := 4) (v := .agg x.cells.toArray) rfl (by kernel_rfl) (by kernel_rfl) (by decide) (by kernel_rfl) (by kernel_rfl) (by kernel_rfl) (by kernel_rfl) (fun _ _ _ h => h) ?_ rfl ?_
          · refine yields_load_run (by rfl) 106 (.tmp 4) (by rfl) (.pointer (some ⟨PB, 0, none⟩)) (by rfl) ?_
            exact fun w' hw' => by rw [hw']; exact load_pm x (range0 HV2.out.2)
          simp only [Act.put, List.getElem_toArray, List.getElem_cons_succ, List.getElem_cons_zero, List.setIfInBounds_toArray, List.set_cons_zero, List.set_cons_succ]
          refine L_go (by kernel_rfl) (by kernel_rfl) ?_
          refine wpOp_step rfl ?_
          intro K hK
          rw [if_pos (by rfl)]
          have hK' : Shut (∀ a w, _ → K a w) := hK
          clear hK
          go_wp2_with fail
          refine HWs.out.mono ?_
          rintro e w7 ⟨rfl, cv7, h7, k7⟩
          clear HWs HV2 HX HLb
          refine hK'.out _ _ ?_
          clear hK' K
          try simp only [Act.put, List.getElem_toArray, List.getElem_cons_succ, List.getElem_cons_zero, List.setIfInBounds_toArray, List.set_cons_zero, List.set_cons_succ]
          refine any_one (i := 6) (by kernel_rfl) ?_
          refine wpOp_step rfl ?_
          intro K hK
          rw [if_pos (by rfl)]
          have hK' : Shut (∀ a w, _ → K a w) := hK
          clear hK
          go_wp2_with fail
          refine hK'.out _ _ ?_
          clear hK' K
          refine wpAny_done (by kernel_rfl) ?_ _
          have HX7 : Hid (LgAt w w7 p nb sb cv7 n R.2 lb fr mn (.slice ta tx.length tc) (.slice wa wh.length wc) s tx wh ∧ Keeps w.heap.size dkT W w7 ∧ flW fr s tx wh (wh.length - (k + 1)) (k + 1) R.2 = F ∧ R.2.lim (900000 + (k + 1))) := ⟨h7.out, HK1.out.trans k7.out, HN.out.1, HN.out.2⟩
          clear h7 k7 HN HK1
          go_wp2_with fail
          go_roundw
          case rel => exact ⟨k + 1, cv7, R.2, by omega, by go_num, HX7⟩
          case measure => simp [RowKit.intOf]; omega
        · have h2' : ¬ R.1 = 0 := by omega
          rw [if_neg h2'] at hF1
          have HE : Hid (R = F) := hF1
          rw [h2, enE_ne (show (7 : Int) ≠ 0 by decide)] at HX
          have H7 : Hid (R.1 = 7) := h2
          clear a1 hF1 hl1 hl2 h2 h2' hx hm hm'
          go_wp2_with fail
          refine HPi.out.mono ?_
          rintro e w1 ⟨rfl, b1⟩
          have hst := store_pcs (cs := x.cells) (cs' := pc0C.toList) x.cells_length rfl x.cells_one (new_heap w1 (.cells pc0C 106))
          have HV : Hid (Below wr.heap.size wr ((w1.alloc (.cells pc0C 106)).setRow w1.heap.size x.cells.toArray).drew ∧ ((w1.alloc (.cells pc0C 106)).setRow w1.heap.size x.cells.toArray).drew.heap[w1.heap.size]? = some (.cells x.cells.toArray 106 (0, 0))) := by
            refine ⟨?_, setRow_heap _ _ _ _ _ _ (new_heap w1 (.cells pc0C 106))⟩
            have h1 : Below w1.heap.size w1 ((w1.alloc (.cells pc0C 106)).setRow w1.heap.size x.cells.toArray) := setRow_below ((Below.refl _ w1).alloc (Nat.le_refl _) _) (Nat.le_refl _)
            exact (b1.out.trans (h1.mono b1.out.size)).trans ⟨rfl, rfl, rfl, Nat.le_refl _, fun _ _ => rfl⟩
          clear HPi b1
          go_upto_region 5 with (first | (refine wpList_alloc_run rfl 106 rfl (hal _) ?_) | (refine wpList_store_run rfl 106 _ _ rfl _ _ (by rfl) (by rfl) hst ?_))
          clear hst hal c0 c3 c7
          refine wp_region_drawn (by kernel_rfl) ?_
          obtain ⟨PB, hPB⟩ : ∃ PB, w1.heap.size = PB := ⟨_, rfl⟩
          generalize hV : ((w1.alloc (.cells pc0C 106)).setRow w1.heap.size x.cells.toArray).drew = V at *
          rw [hPB] at HV
          try rw [hPB]
          clear hV hPB
          have HHs : Hid (Calls _ _ _ V _) := (HX.out V HV.out.1).2.2.1.out
          refine wpAny_take (i := 0) (v := .pointer (some ⟨lb, 0, none⟩)) rfl (by kernel_rfl) (by kernel_rfl) (by kernel_rfl) (fun _ _ _ h => h) (Or.inl ⟨by rfl, fun w => by go_simp⟩) ?_
          simp only [Act.put, List.getElem_toArray, List.getElem_cons_succ, List.getElem_cons_zero, List.setIfInBounds_toArray, List.set_cons_zero, List.set_cons_succ]
          refine wpAny_take (i := 1) (v := .pointer (some ⟨lb, 0, none⟩)) rfl (by kernel_rfl) (by kernel_rfl) (by kernel_rfl) (fun _ _ _ h => h) (Or.inl ⟨by rfl, fun w => by go_simp⟩) ?_
          simp only [Act.put, List.getElem_toArray, List.getElem_cons_succ, List.getElem_cons_zero, List.setIfInBounds_toArray, List.set_cons_zero, List.set_cons_succ]
          refine wpAny_take (i := 2) (v := .pointer (some ⟨lb, 0, none⟩)) rfl (by kernel_rfl) (by kernel_rfl) (by kernel_rfl) (fun _ _ _ h => h) (Or.inl ⟨by rfl, fun w => by go_simp⟩) ?_
          simp only [Act.put, List.getElem_toArray, List.getElem_cons_succ, List.getElem_cons_zero, List.setIfInBounds_toArray, List.set_cons_zero, List.set_cons_succ]
          refine any_of_L (g := 5) (T := fun u => u = V) _ _ _ _ ?_
          refine L_takeC [5] (i := 3) (v := .agg #[.pointer (some ⟨p, 0, none⟩), .int .i64 (fr : Int), .int .i64 (mn : Int)]) rfl (by kernel_rfl) (by kernel_rfl) (by decide) (by kernel_rfl) (by kernel_rfl) (by kernel_rfl) (by kernel_rfl) (fun _ _ _ h => h) ?_ rfl ?_
          · refine yields_load_run (by rfl) 77 (.tmp 28) (by rfl) (.pointer (some ⟨lb, 0, none⟩)) (by rfl) ?_
            exact fun w' hw' => by rw [hw']; exact (HX.out V HV.out.1).1
          simp only [Act.put, List.getElem_toArray, List.getElem_cons_succ, List.getElem_cons_zero, List.setIfInBounds_toArray, List.set_cons_zero, List.set_cons_succ]
          refine L_takeC [5] (i := 4) (v := .agg x.cells.toArray) rfl (by kernel_rfl) (by kernel_rfl) (by decide) (by kernel_rfl) (by kernel_rfl) (by kernel_rfl) (by kernel_rfl) (fun _ _ _ h => h) ?_ rfl ?_
          · refine yields_load_run (by rfl) 106 (.tmp 4) (by rfl) (.pointer (some ⟨PB, 0, none⟩)) (by rfl) ?_
            exact fun w' hw' => by rw [hw']; exact load_pm x (range0 HV.out.2)
          simp only [Act.put, List.getElem_toArray, List.getElem_cons_succ, List.getElem_cons_zero, List.setIfInBounds_toArray, List.set_cons_zero, List.set_cons_succ]
          refine L_go (by kernel_rfl) (by kernel_rfl) ?_
          refine wpOp_step rfl ?_
          intro K hK
          rw [if_pos (by rfl)]
          have hK' : Shut (∀ a w, _ → K a w) := hK
          clear hK
          go_wp2_with fail
          refine HHs.out.mono ?_
          rintro e w4 ⟨rfl, b4⟩
          have HB4 : Hid (Below wr.heap.size wr w4 ∧ w4.heap[PB]? = some (.cells x.cells.toArray 106 (0, 0))) := ⟨HV.out.1.trans (b4.out.mono HV.out.1.size), (b4.out.block _ (Array.getElem?_eq_some_iff.1 HV.out.2).1).trans HV.out.2⟩
          clear HHs b4 HV
          refine hK'.out _ _ ?_
          clear hK' K
          try simp only [Act.put, List.getElem_toArray, List.getElem_cons_succ, List.getElem_cons_zero, List.setIfInBounds_toArray, List.set_cons_zero, List.set_cons_succ]
          refine wpAny_done (by kernel_rfl) ?_ _
          go_upto_region 6 with fail
          refine wp_region_drawn (by kernel_rfl) ?_
          have HV2 : Hid (Below wr.heap.size wr w4.drew ∧ w4.drew.heap[PB]? = some (.cells x.cells.toArray 106 (0, 0))) := ⟨HB4.out.1.trans ⟨rfl, rfl, rfl, Nat.le_refl _, fun _ _ => rfl⟩, HB4.out.2⟩
          clear HB4
          generalize w4.drew = V2 at *
          have HWs : Hid (Calls _ _ _ V2 _) := (HX.out V2 HV2.out.1).2.2.2.out
          refine wpAny_take (i := 0) (v := .pointer (some ⟨lb, 0, none⟩)) rfl (by kernel_rfl) (by kernel_rfl) (by kernel_rfl) (fun _ _ _ h => h) (Or.inl ⟨by rfl, fun w => by go_simp⟩) ?_
          simp only [Act.put, List.getElem_toArray, List.getElem_cons_succ, List.getElem_cons_zero, List.setIfInBounds_toArray, List.set_cons_zero, List.set_cons_succ]
          refine wpAny_take (i := 1) (v := .pointer (some ⟨lb, 0, none⟩)) rfl (by kernel_rfl) (by kernel_rfl) (by kernel_rfl) (fun _ _ _ h => h) (Or.inl ⟨by rfl, fun w => by go_simp⟩) ?_
          simp only [Act.put, List.getElem_toArray, List.getElem_cons_succ, List.getElem_cons_zero, List.setIfInBounds_toArray, List.set_cons_zero, List.set_cons_succ]
          refine wpAny_take (i := 2) (v := .pointer (some ⟨lb, 0, none⟩)) rfl (by kernel_rfl) (by kernel_rfl) (by kernel_rfl) (fun _ _ _ h => h) (Or.inl ⟨by rfl, fun w => by go_simp⟩) ?_
          simp only [Act.put, List.getElem_toArray, List.getElem_cons_succ, List.getElem_cons_zero, List.setIfInBounds_toArray, List.set_cons_zero, List.set_cons_succ]
          refine any_of_L (g := 5) (T := fun u => u = V2) _ _ _ _ ?_
          refine L_takeC [5] (i := 3) (v := .agg #[.pointer (some ⟨p, 0, none⟩), .int .i64 (fr : Int), .int .i64 (mn : Int)]) rfl (by kernel_rfl) (by kernel_rfl) (by decide) (by kernel_rfl) (by kernel_rfl) (by kernel_rfl) (by kernel_rfl) (fun _ _ _ h => h) ?_ rfl ?_
          · refine yields_load_run (by rfl) 77 (.tmp 34) (by rfl) (.pointer (some ⟨lb, 0, none⟩)) (by rfl) ?_
            exact fun w' hw' => by rw [hw']; exact (HX.out V2 HV2.out.1).1
          simp only [Act.put, List.getElem_toArray, List.getElem_cons_succ, List.getElem_cons_zero, List.setIfInBounds_toArray, List.set_cons_zero, List.set_cons_succ]
          refine L_takeC [5] (i := 4) (v := .agg x.cells.toArray) rfl (by kernel_rfl) (by kernel_rfl) (by decide) (by kernel_rfl) (by kernel_rfl) (by kernel_rfl) (by kernel_rfl) (fun _ _ _ h => h) ?_ rfl ?_
          · refine yields_load_run (by rfl) 106 (.tmp 4) (by rfl) (.pointer (some ⟨PB, 0, none⟩)) (by rfl) ?_
            exact fun w' hw' => by rw [hw']; exact load_pm x (range0 HV2.out.2)
          simp only [Act.put, List.getElem_toArray, List.getElem_cons_succ, List.getElem_cons_zero, List.setIfInBounds_toArray, List.set_cons_zero, List.set_cons_succ]
          refine L_go (by kernel_rfl) (by kernel_rfl) ?_
          refine wpOp_step rfl ?_
          intro K hK
          rw [if_pos (by rfl)]
          have hK' : Shut (∀ a w, _ → K a w) := hK
          clear hK
          go_wp2_with fail
          refine HWs.out.mono ?_
          rintro e w7 ⟨rfl, cv7, h7, k7⟩
          clear HWs HV2 HX HLb
          refine hK'.out _ _ ?_
          clear hK' K
          try simp only [Act.put, List.getElem_toArray, List.getElem_cons_succ, List.getElem_cons_zero, List.setIfInBounds_toArray, List.set_cons_zero, List.set_cons_succ]
          refine any_one (i := 6) (by kernel_rfl) ?_
          refine wpOp_step rfl ?_
          intro K hK
          rw [if_pos (by rfl)]
          have hK' : Shut (∀ a w, _ → K a w) := hK
          clear hK
          go_wp2_with fail
          refine hK'.out _ _ ?_
          clear hK' K
          refine wpAny_done (by kernel_rfl) ?_ _
          go_wp2
          go_ret
          refine ⟨?_, cv7, ?_, HK1.out.trans k7.out⟩
          · rw [← HE.out, H7.out, enE_ne (show (7 : Int) ≠ 0 by decide)]
            rfl
          · rw [← HE.out]
            exact h7
      · rw [if_pos rfl] at hF1
        have HN : Hid (flW fr s tx wh (wh.length - (k + 1)) (k + 1) D1 = F ∧ D1.lim (900000 + (k + 1))) := ⟨by rw [hm']; exact hF1, hl1.mono (by omega)⟩
        clear a1 hF1 hl1 hl2 h2 hx hm hm' HK1
        go_wp2_with fail
        refine HPi.out.mono ?_
        rintro e w1 ⟨rfl, b1⟩
        have hst := store_pcs (cs := x.cells) (cs' := pc0C.toList) x.cells_length rfl x.cells_one (new_heap w1 (.cells pc0C 106))
        have HV : Hid (Below wr.heap.size wr ((w1.alloc (.cells pc0C 106)).setRow w1.heap.size x.cells.toArray).drew ∧ ((w1.alloc (.cells pc0C 106)).setRow w1.heap.size x.cells.toArray).drew.heap[w1.heap.size]? = some (.cells x.cells.toArray 106 (0, 0))) := by
          refine ⟨?_, setRow_heap _ _ _ _ _ _ (new_heap w1 (.cells pc0C 106))⟩
          have h1 : Below w1.heap.size w1 ((w1.alloc (.cells pc0C 106)).setRow w1.heap.size x.cells.toArray) := setRow_below ((Below.refl _ w1).alloc (Nat.le_refl _) _) (Nat.le_refl _)
          exact (b1.out.trans (h1.mono b1.out.size)).trans ⟨rfl, rfl, rfl, Nat.le_refl _, fun _ _ => rfl⟩
        clear HPi b1
        go_upto_region 5 with (first | (refine wpList_alloc_run rfl 106 rfl (hal _) ?_) | (refine wpList_store_run rfl 106 _ _ rfl _ _ (by rfl) (by rfl) hst ?_))
        clear hst hal c0 c3 c7
        refine wp_region_drawn (by kernel_rfl) ?_
        obtain ⟨PB, hPB⟩ : ∃ PB, w1.heap.size = PB := ⟨_, rfl⟩
        generalize hV : ((w1.alloc (.cells pc0C 106)).setRow w1.heap.size x.cells.toArray).drew = V at *
        rw [hPB] at HV
        try rw [hPB]
        clear hV hPB
        have HHs : Hid (Calls _ _ _ V _) := (HX.out V HV.out.1).2.2.1.out
        refine wpAny_take (i := 0) (v := .pointer (some ⟨lb, 0, none⟩)) rfl (by kernel_rfl) (by kernel_rfl) (by kernel_rfl) (fun _ _ _ h => h) (Or.inl ⟨by rfl, fun w => by go_simp⟩) ?_
        simp only [Act.put, List.getElem_toArray, List.getElem_cons_succ, List.getElem_cons_zero, List.setIfInBounds_toArray, List.set_cons_zero, List.set_cons_succ]
        refine wpAny_take (i := 1) (v := .pointer (some ⟨lb, 0, none⟩)) rfl (by kernel_rfl) (by kernel_rfl) (by kernel_rfl) (fun _ _ _ h => h) (Or.inl ⟨by rfl, fun w => by go_simp⟩) ?_
        simp only [Act.put, List.getElem_toArray, List.getElem_cons_succ, List.getElem_cons_zero, List.setIfInBounds_toArray, List.set_cons_zero, List.set_cons_succ]
        refine wpAny_take (i := 2) (v := .pointer (some ⟨lb, 0, none⟩)) rfl (by kernel_rfl) (by kernel_rfl) (by kernel_rfl) (fun _ _ _ h => h) (Or.inl ⟨by rfl, fun w => by go_simp⟩) ?_
        simp only [Act.put, List.getElem_toArray, List.getElem_cons_succ, List.getElem_cons_zero, List.setIfInBounds_toArray, List.set_cons_zero, List.set_cons_succ]
        refine any_of_L (g := 5) (T := fun u => u = V) _ _ _ _ ?_
        refine L_takeC [5] (i := 3) (v := .agg #[.pointer (some ⟨p, 0, none⟩), .int .i64 (fr : Int), .int .i64 (mn : Int)]) rfl (by kernel_rfl) (by kernel_rfl) (by decide) (by kernel_rfl) (by kernel_rfl) (by kernel_rfl) (by kernel_rfl) (fun _ _ _ h => h) ?_ rfl ?_
        · refine yields_load_run (by rfl) 77 (.tmp 28) (by rfl) (.pointer (some ⟨lb, 0, none⟩)) (by rfl) ?_
          exact fun w' hw' => by rw [hw']; exact (HX.out V HV.out.1).1
        simp only [Act.put, List.getElem_toArray, List.getElem_cons_succ, List.getElem_cons_zero, List.setIfInBounds_toArray, List.set_cons_zero, List.set_cons_succ]
        refine L_takeC [5] (i := 4) (v := .agg x.cells.toArray) rfl (by kernel_rfl) (by kernel_rfl) (by decide) (by kernel_rfl) (by kernel_rfl) (by kernel_rfl) (by kernel_rfl) (fun _ _ _ h => h) ?_ rfl ?_
        · refine yields_load_run (by rfl) 106 (.tmp 4) (by rfl) (.pointer (some ⟨PB, 0, none⟩)) (by rfl) ?_
          exact fun w' hw' => by rw [hw']; exact load_pm x (range0 HV.out.2)
        simp only [Act.put, List.getElem_toArray, List.getElem_cons_succ, List.getElem_cons_zero, List.setIfInBounds_toArray, List.set_cons_zero, List.set_cons_succ]
        refine L_go (by kernel_rfl) (by kernel_rfl) ?_
        refine wpOp_step rfl ?_
        intro K hK
        rw [if_pos (by rfl)]
        have hK' : Shut (∀ a w, _ → K a w) := hK
        clear hK
        go_wp2_with fail
        refine HHs.out.mono ?_
        rintro e w4 ⟨rfl, b4⟩
        have HB4 : Hid (Below wr.heap.size wr w4 ∧ w4.heap[PB]? = some (.cells x.cells.toArray 106 (0, 0))) := ⟨HV.out.1.trans (b4.out.mono HV.out.1.size), (b4.out.block _ (Array.getElem?_eq_some_iff.1 HV.out.2).1).trans HV.out.2⟩
        clear HHs b4 HV
        refine hK'.out _ _ ?_
        clear hK' K
        try simp only [Act.put, List.getElem_toArray, List.getElem_cons_succ, List.getElem_cons_zero, List.setIfInBounds_toArray, List.set_cons_zero, List.set_cons_succ]
        refine wpAny_done (by kernel_rfl) ?_ _
        have HX7 : Hid (LgAt w w4 p nb sb cv1 n D1 lb fr mn (.slice ta tx.length tc) (.slice wa wh.length wc) s tx wh ∧ Keeps w.heap.size dkT W w4 ∧ flW fr s tx wh (wh.length - (k + 1)) (k + 1) D1 = F ∧ D1.lim (900000 + (k + 1))) := ⟨(HLb.out w4 HB4.out.1).1, (HLb.out w4 HB4.out.1).2, HN.out.1, HN.out.2⟩
        clear HN HB4 HX
        go_wp2_with fail
        go_roundw
        case rel => exact ⟨k + 1, cv1, D1, by omega, by go_num, HX7⟩
        case measure => simp [RowKit.intOf]; omega
    · have klt : ¬ (k : Int) < (wh.length : Int) := by omega
      have hk0 : wh.length - k = 0 := by omega
      rw [hk0] at hF1
      have hFl := tn_fl a1.tn (hl1.mono (by omega))
      unfold flW at hF1
      rw [hF1] at hFl
      have HFl : Hid (Calls _ _ _ wr _) := hFl
      have H1 : Hid (LgAt w wr p nb sb cv1 n D1 lb fr mn (.slice ta tx.length tc) (.slice wa wh.length wc) s tx wh) := a1
      clear a1 hF1 hl1 hFl
      go_wp2_with fail
      refine HFl.out.mono ?_
      rintro e w7 ⟨rfl, cv7, h7, k7⟩
      go_wp2
      go_ret
      exact ⟨rfl, cv7, H1.out.disk h7.out k7.out, HK1.out.trans k7.out⟩
end
end Go.Proofs.Ytijjegkkeigeoaa

namespace Go.Proofs.Ytijjegkkeigeoaa
set_option linter.unusedVariables false
set_option linter.unusedSimpArgs false
set_option maxRecDepth 100000
set_option maxHeartbeats 2000000
open Go.RowKit Go.Lib
theorem IsFree.unique {old : Nat} {wh : List Nat} {f g : Nat} (h : IsFree old wh f) (k : IsFree old wh g) : f = g := by
  rcases Nat.lt_trichotomy f g with hl | hl | hl
  · rcases k.all f h.pos hl with e | e
    · exact absurd e h.no
    · exact absurd e h.out
  · exact hl
  · rcases h.all g k.pos hl with e | e
    · exact absurd e k.no
    · exact absurd e k.out
/-- The free block. -/
def freeN (old : Nat) (wh : List Nat) : Nat := ((List.range (wh.length + 3)).find? fun i => decide (1 ≤ i) && (decide (i ≠ old) && decide (i ∉ wh))).getD 0
theorem freeN_eq {old : Nat} {wh : List Nat} {f : Nat} (h : IsFree old wh f) : freeN old wh = f := by
  have hle := h.le.1
  unfold freeN
  have : (List.range (wh.length + 3)).find? (fun i => decide (1 ≤ i) && (decide (i ≠ old) && decide (i ∉ wh))) = some f := by
    rw [List.find?_range_eq_some]
    refine ⟨?_, by simp; omega, fun j hj => ?_⟩
    · simp only [Bool.and_eq_true, decide_eq_true_eq]
      exact ⟨h.pos, h.no, h.out⟩
    · by_cases h1 : 1 ≤ j
      · rcases h.all j h1 hj with e | e
        · simp [e]
        · simp [e]
      · simp [h1]
  rw [this]
  rfl
/-- Behind place. -/
def plc (s : Ls) (wh : List Nat) (k : Nat) : Ls × List Nat := if k = wh.length then (s, wh ++ [freeN s.old wh]) else if k < s.sf then ({ s with old := wh.getD k 0, sf := k }, wh.set k (freeN s.old wh)) else (s, wh)
/-- Behind write's loop. -/
def wrL (fr : Nat) (tt : List UInt8) : Nat → Nat → Ls → List Nat → Dk → Int × Ls × List Nat × Dk
  | 0, _, s, wh, D => (0, s, wh, D)
  | m + 1, k, s, wh, D =>
    if (wrR D (fr + (plc s wh k).2.getD k 0) (pcB (pcAt (plc s wh k).1 tt k))).1 = 0 then wrL fr tt m (k + 1) (plc s wh k).1 (plc s wh k).2 (wrR D (fr + (plc s wh k).2.getD k 0) (pcB (pcAt (plc s wh k).1 tt k))).2
    else ((wrR D (fr + (plc s wh k).2.getD k 0) (pcB (pcAt (plc s wh k).1 tt k))).1, (plc s wh k).1, (plc s wh k).2, (wrR D (fr + (plc s wh k).2.getD k 0) (pcB (pcAt (plc s wh k).1 tt k))).2)
section
variable {w W U : World} {p nb sb : Nat} {cv : Value} {n : Nat} {D : Dk} {lb fr mn : Nat} {tv wv : Value} {s : Ls} {tx : List UInt8} {wh : List Nat}
theorem place_any (a : LgAt w W p nb sb cv n D lb fr mn tv wv s tx wh) (k : Nat) (hk : k ≤ wh.length) (hl : wh.length ≤ 1000) :
    Calls Try.prog 64 #[.pointer (some ⟨lb, 0, none⟩), .int .i64 (k : Int)] W fun e w' => e = .returned (.tuple #[]) ∧ ∃ wv', Hid (LgAt w w' p nb sb cv n D lb fr mn tv wv' (plc s wh k).1 tx (plc s wh k).2) ∧ Hid (LKeep w.heap.size lb .nilIface wv .nilIface wv' W w') := by
  unfold plc
  by_cases h1 : k = wh.length
  · rw [if_pos h1, h1]
    refine (place_new a hl).mono ?_
    rintro e w' ⟨rfl, f, wv', hf, h2, h3⟩
    rw [freeN_eq hf]
    exact ⟨rfl, wv', h2, h3⟩
  · rw [if_neg h1]
    by_cases h2 : k < s.sf
    · rw [if_pos h2]
      refine (place_move a k (by omega) h2 hl).mono ?_
      rintro e w' ⟨rfl, f, hf, h2, h3⟩
      rw [freeN_eq hf]
      exact ⟨rfl, wv, h2, h3⟩
    · rw [if_neg h2]
      refine (place_none a k (by omega) (by omega) hl).mono ?_
      rintro e w' ⟨rfl, hs⟩
      exact ⟨rfl, wv, a.still hs, .of_below (hs.below _)⟩
end
end Go.Proofs.Ytijjegkkeigeoaa

namespace Go.Proofs.Ytijjegkkeigeoaa
set_option linter.unusedVariables false
set_option linter.unusedSimpArgs false
set_option maxRecDepth 100000
set_option maxHeartbeats 2000000
open Go.RowKit Go.Lib
section
variable {w W U : World} {p nb sb : Nat} {cv : Value} {n : Nat} {D : Dk} {lb fr mn : Nat} {tv wv : Value} {s : Ls} {tx : List UInt8} {wh : List Nat}
/-- What is begun is begun. -/
theorem begin_yes (a : LgAt w W p nb sb cv n D lb fr mn tv wv s tx wh) (hb : s.bg = true) :
    Calls Try.prog 62 #[.pointer (some ⟨lb, 0, none⟩)] W fun e w' => e = .returned .nilIface ∧ Hid (LgAt w w' p nb sb cv n D lb fr mn tv wv s tx wh) ∧ Hid (LKeep w.heap.size lb .nilIface wv .nilIface wv W w') := by
  have c11 : W.cell? ⟨lb, 11, none⟩ = some (.bool true) := by rw [a.box.at]; simp [lgC, hb]
  have hset := a.set 11 (.bool true) (s' := s) (by simp [lgC, hb])
  have HKp : Hid (LKeep w.heap.size lb .nilIface wv .nilIface wv W (W.setCell ⟨lb, 11, none⟩ (.bool true))) := by
    have hbs : Below w.heap.size W (W.setCell ⟨lb, 11, none⟩ (.bool true)) := (Below.refl _ W).setCell (p := ⟨lb, 11, none⟩) a.llb _
    exact (LKeep.refl _ _ _ _ _).setBox a.llb 11 _ hbs.size hbs.os hbs.tape hbs.output
  have HA : Hid (LgAt w (W.setCell ⟨lb, 11, none⟩ (.bool true)) p nb sb cv n D lb fr mn tv wv s tx wh) := hset
  have hf : W.frozen? ⟨lb, 11, none⟩ = false := a.box.fz 11
  clear a hset hb
  go_enter Try.func62, Try.ntmps62
  go_wp2
  go_ret
  exact ⟨rfl, HA, HKp⟩
/-- Nothing was done since a Crash: what Open found is safe. -/
theorem begin_zero (a : LgAt w W p nb sb cv n D lb fr mn tv wv s tx wh) (hb : s.bg = false) (hl : s.ld = true) (h0 : D.steps = 0) :
    Calls Try.prog 62 #[.pointer (some ⟨lb, 0, none⟩)] W fun e w' => e = .returned .nilIface ∧ Hid (LgAt w w' p nb sb cv n D lb fr mn tv wv { s with bg := true } tx wh) ∧ Hid (LKeep w.heap.size lb .nilIface wv .nilIface wv W w') := by
  have c11 : W.cell? ⟨lb, 11, none⟩ = some (.bool false) := by rw [a.box.at]; simp [lgC, hb]
  have c10 : W.cell? ⟨lb, 10, none⟩ = some (.bool true) := by rw [a.box.at]; simp [lgC, hl]
  have c0 : W.cell? ⟨lb, 0, none⟩ = some (.pointer (some ⟨p, 0, none⟩)) := by rw [a.box.at]; rfl
  have HSt : Hid (Calls _ _ _ W _) := steps_any w.heap.size p nb sb cv n D W a.tn.1
  rw [h0] at HSt
  have hset := a.set 11 (.bool true) (s' := { s with bg := true }) rfl
  have HKp : Hid (LKeep w.heap.size lb .nilIface wv .nilIface wv W (W.setCell ⟨lb, 11, none⟩ (.bool true))) := by
    have hbs : Below w.heap.size W (W.setCell ⟨lb, 11, none⟩ (.bool true)) := (Below.refl _ W).setCell (p := ⟨lb, 11, none⟩) a.llb _
    exact (LKeep.refl _ _ _ _ _).setBox a.llb 11 _ hbs.size hbs.os hbs.tape hbs.output
  have HA : Hid (LgAt w (W.setCell ⟨lb, 11, none⟩ (.bool true)) p nb sb cv n D lb fr mn tv wv { s with bg := true } tx wh) := hset
  have hf : W.frozen? ⟨lb, 11, none⟩ = false := a.box.fz 11
  clear a hset hb hl h0
  go_enter Try.func62, Try.ntmps62
  go_wp2_with fail
  refine HSt.out.mono ?_
  rintro e w6 ⟨rfl, rfl⟩
  clear HSt
  go_wp2
  go_ret
  exact ⟨rfl, HA, HKp⟩
/-- What Open found is made safe. -/
theorem begin_no (a : LgAt w W p nb sb cv n D lb fr mn tv wv s tx wh) (hb : s.bg = false) (hl : s.ld = true) (hs : D.lim 1000000) (hp : D.steps ≠ 0) :
    Calls Try.prog 62 #[.pointer (some ⟨lb, 0, none⟩)] W fun e w' => e = .returned (enE (flR D).1) ∧ ∃ cv', Hid (LgAt w w' p nb sb cv' n (flR D).2 lb fr mn tv wv { s with bg := decide ((flR D).1 = 0) } tx wh) ∧ Hid (LKeep w.heap.size lb .nilIface wv .nilIface wv W w') := by
  have c11 : W.cell? ⟨lb, 11, none⟩ = some (.bool false) := by rw [a.box.at]; simp [lgC, hb]
  have c10 : W.cell? ⟨lb, 10, none⟩ = some (.bool true) := by rw [a.box.at]; simp [lgC, hl]
  have c0 : W.cell? ⟨lb, 0, none⟩ = some (.pointer (some ⟨p, 0, none⟩)) := by rw [a.box.at]; rfl
  have HF : Hid (Calls _ _ _ W _) := tn_fl a.tn hs
  have HSt : Hid (Calls _ _ _ W _) := steps_any w.heap.size p nb sb cv n D W a.tn.1
  have hgt : (0 : Int) < (D.steps : Int) := by omega
  have HN : Hid (∀ (U : World) (cv' : Value), Tn w U p nb sb cv' n (flR D).2 → Keeps w.heap.size dkT W U → LgAt w (U.setCell ⟨lb, 11, none⟩ (.bool (decide ((flR D).1 = 0)))) p nb sb cv' n (flR D).2 lb fr mn tv wv { s with bg := decide ((flR D).1 = 0) } tx wh ∧ U.cell? ⟨lb, 11, none⟩ = some (.bool false) ∧ U.frozen? ⟨lb, 11, none⟩ = false ∧ LKeep w.heap.size lb .nilIface wv .nilIface wv W (U.setCell ⟨lb, 11, none⟩ (.bool (decide ((flR D).1 = 0))))) := fun U cv' ht hk => by
    have a' := a.disk ht hk
    refine ⟨a'.set 11 _ rfl, by rw [a'.box.at]; simp [lgC, hb], a'.box.fz 11, ?_⟩
    have hbs : Below w.heap.size U (U.setCell ⟨lb, 11, none⟩ (.bool (decide ((flR D).1 = 0)))) := (Below.refl _ U).setCell (p := ⟨lb, 11, none⟩) a'.llb _
    exact (LKeep.of_keeps hk).setBox a'.llb 11 _ hbs.size hbs.os hbs.tape hbs.output
  have hfl : (flR D).1 = 0 ∨ (flR D).1 = 7 := by unfold flR; split <;> simp
  clear a hb hl hp
  generalize flR D = R at *
  rcases hfl with h0 | h0
  · rw [h0] at HF HN ⊢
    rw [enE_zero] at HF ⊢
    rw [show decide ((0 : Int) = 0) = true from rfl] at HN ⊢
    go_enter Try.func62, Try.ntmps62
    go_wp2_with fail
    refine HSt.out.mono ?_
    rintro e w6 ⟨rfl, rfl⟩
    clear HSt
    go_wp2_with fail
    refine HF.out.mono ?_
    rintro e w7 ⟨rfl, cv7, h7, k7⟩
    obtain ⟨h1, c11', f11, hk⟩ := HN.out w7 cv7 h7.out k7.out
    have H1 : Hid (LgAt _ _ _ _ _ _ _ _ _ _ _ _ _ _ _ _) := h1
    have HK : Hid (LKeep _ _ _ _ _ _ _ _) := hk
    clear HF HN h7 k7 h1 hk
    go_wp2
    go_ret
    exact ⟨rfl, cv7, H1, HK⟩
  · rw [h0] at HF HN ⊢
    rw [enE_ne (show (7 : Int) ≠ 0 by decide)] at HF ⊢
    rw [show decide ((7 : Int) = 0) = false from rfl] at HN ⊢
    go_enter Try.func62, Try.ntmps62
    go_wp2_with fail
    refine HSt.out.mono ?_
    rintro e w6 ⟨rfl, rfl⟩
    clear HSt
    go_wp2_with fail
    refine HF.out.mono ?_
    rintro e w7 ⟨rfl, cv7, h7, k7⟩
    obtain ⟨h1, c11', f11, hk⟩ := HN.out w7 cv7 h7.out k7.out
    have H1 : Hid (LgAt _ _ _ _ _ _ _ _ _ _ _ _ _ _ _ _) := h1
    have HK : Hid (LKeep _ _ _ _ _ _ _ _) := hk
    clear HF HN h7 k7 h1 hk
    go_wp2
    go_ret
    exact ⟨rfl, cv7, H1, HK⟩
/-- Behind begin. -/
def bgn (s : Ls) (D : Dk) : Int × Ls × Dk := if s.bg = true then (0, s, D) else if D.steps = 0 then (0, { s with bg := true }, D) else ((flR D).1, { s with bg := decide ((flR D).1 = 0) }, (flR D).2)
theorem begin_any (a : LgAt w W p nb sb cv n D lb fr mn tv wv s tx wh) (hl : s.bg = true ∨ s.ld = true) (hs : D.lim 1000000) :
    Calls Try.prog 62 #[.pointer (some ⟨lb, 0, none⟩)] W fun e w' => e = .returned (enE (bgn s D).1) ∧ ∃ cv', Hid (LgAt w w' p nb sb cv' n (bgn s D).2.2 lb fr mn tv wv (bgn s D).2.1 tx wh) ∧ Hid (LKeep w.heap.size lb .nilIface wv .nilIface wv W w') := by
  unfold bgn
  by_cases h : s.bg = true
  · rw [if_pos h]
    refine (begin_yes a h).mono ?_
    rintro e w' ⟨rfl, h1, h2⟩
    exact ⟨rfl, cv, h1, h2⟩
  · rw [if_neg h]
    by_cases h0 : D.steps = 0
    · rw [if_pos h0]
      refine (begin_zero a (by simpa using h) (hl.resolve_left h) h0).mono ?_
      rintro e w' ⟨rfl, h1, h2⟩
      exact ⟨rfl, cv, h1, h2⟩
    · rw [if_neg h0]
      exact begin_no a (by simpa using h) (hl.resolve_left h) hs h0
theorem bgn_two (s : Ls) (D : Dk) : (bgn s D).1 = 0 ∨ (bgn s D).1 = 7 := by
  unfold bgn
  split
  · exact .inl rfl
  · split
    · exact .inl rfl
    · exact flR_two D
theorem bgn_same (s : Ls) (D : Dk) : (bgn s D).2.1.sit = s.sit ∧ (bgn s D).2.1.st = s.st ∧ (bgn s D).2.1.sf = s.sf ∧ (bgn s D).2.1.old = s.old := by
  unfold bgn
  split
  · exact ⟨rfl, rfl, rfl, rfl⟩
  · split <;> exact ⟨rfl, rfl, rfl, rfl⟩
theorem bgn_lim {s : Ls} {D : Dk} {k : Nat} (h : D.lim k) : (bgn s D).2.2.lim (k + 1) := by
  unfold bgn
  split
  · exact h.mono (Nat.le_succ _)
  · split
    · exact h.mono (Nat.le_succ _)
    · exact flR_lim h
end
end Go.Proofs.Ytijjegkkeigeoaa

namespace Go.Proofs.Ytijjegkkeigeoaa
set_option linter.unusedVariables false
set_option linter.unusedSimpArgs false
set_option maxRecDepth 100000
set_option maxHeartbeats 2000000
open Go.RowKit Go.Lib
/-- What write asks of a log's numbers. -/
def wrOk (n fr : Nat) : Nat → Nat → Ls → List Nat → Prop
  | 0, _, _, _ => True
  | m + 1, k, s, wh => (k ≤ wh.length ∧ wh.length ≤ 240 ∧ s.sit < 65536 ∧ s.st ≤ 100000 ∧ fr + (plc s wh k).2.getD k 0 < n) ∧ wrOk n fr m (k + 1) (plc s wh k).1 (plc s wh k).2
/-- Behind write. -/
def wrT (fr : Nat) (tt tx : List UInt8) (s : Ls) (wh : List Nat) (D : Dk) : Int × Ls × List Nat × Dk :=
  if (bgn s D).1 = 0 then wrL fr tt (pcs tt.length - tx.length / 60) (tx.length / 60) (bgn s D).2.1 wh (bgn s D).2.2 else ((bgn s D).1, (bgn s D).2.1, wh, (bgn s D).2.2)
theorem plc_len (s : Ls) (wh : List Nat) (k : Nat) (h : k ≤ wh.length) : k < (plc s wh k).2.length := by
  unfold plc
  split
  · simp; omega
  · split
    · simp; omega
    · simp only; omega
theorem plc_same (s : Ls) (wh : List Nat) (k : Nat) : (plc s wh k).1.sit = s.sit ∧ (plc s wh k).1.st = s.st := by
  unfold plc
  split
  · exact ⟨rfl, rfl⟩
  · split <;> exact ⟨rfl, rfl⟩
section
variable {w W U : World} {p nb sb : Nat} {cv : Value} {n : Nat} {D : Dk} {lb fr mn : Nat} {tv wv wv' : Value} {s : Ls} {tx : List UInt8} {wh : List Nat}
theorem LgAt.bytes (a : LgAt w W p nb sb cv n D lb fr mn tv wv s tx wh) {v : Value} {l : List UInt8} (h : ByRow W w.heap.size v l) (k : LKeep w.heap.size lb .nilIface wv .nilIface wv' W U) : ByRow U w.heap.size v l :=
  ownsRow_keep h (fun b cs e _ => by
    have h1 : b ≠ lb := fun e2 => by
      have hh := a.box
      unfold LgBox at hh
      rw [← e2, e] at hh
      cases hh
    have h2 : (Value.nilIface).ownBlock ≠ some b := fun e2 => by cases e2
    have h3 : ∀ (cs' : Array Value) (t : TypeId) (fr' : Nat × Nat), W.heap[b]? = some (.cells cs' t fr') → t ∉ dkT := fun cs' t fr' e' => by
      rw [e] at e'
      cases e'
      decide
    exact k.block b (Array.getElem?_eq_some_iff.1 e).1 (.inr ⟨h1, h2, a.wh.own_ne e (by decide), h3⟩))
theorem write_any (a : LgAt w W p nb sb cv n D lb fr mn tv wv s tx wh) (ttv : Value) (tt : List UInt8) (htt : ByRow W w.heap.size ttv tt) (hl : s.bg = true ∨ s.ld = true) (hs : D.lim 900000) (hn : n ≤ 200) (htl : tt.length ≤ 14000) (htx : tx.length ≤ tt.length) (hok : wrOk n fr (pcs tt.length - tx.length / 60) (tx.length / 60) (bgn s D).2.1 wh) :
    Calls Try.prog 42 #[.pointer (some ⟨lb, 0, none⟩), ttv] W fun e w' => e = .returned (enE (wrT fr tt tx s wh D).1) ∧ ∃ cv' wv', Hid (LgAt w w' p nb sb cv' n (wrT fr tt tx s wh D).2.2.2 lb fr mn tv wv' (wrT fr tt tx s wh D).2.1 tx (wrT fr tt tx s wh D).2.2.1) ∧ Hid (LKeep w.heap.size lb .nilIface wv .nilIface wv' W w') := by
  obtain ⟨ta, tc, htv, _⟩ := htt.isBy
  obtain ⟨xa, xc, hxv, _⟩ := a.tx.isBy
  subst htv hxv
  have hB := begin_any a hl (hs.mono (by omega))
  have hlim := bgn_lim (s := s) hs
  have h2 := bgn_two s D
  obtain ⟨F, hF⟩ : ∃ F, wrT fr tt tx s wh D = F := ⟨_, rfl⟩
  obtain ⟨P, hP⟩ : ∃ P, pcs tt.length = P := ⟨_, rfl⟩
  have hP1 : P * 60 ≤ tt.length + 59 := by rw [← hP]; unfold pcs; omega
  have hP2 : tx.length / 60 ≤ P := by rw [← hP]; unfold pcs; omega
  have HPc : Hid (∀ V : World, Calls Try.prog 63 #[.slice ta tt.length tc] V fun e w' => e = .returned (.int .i64 (P : Nat)) ∧ w' = V) := fun V => by
    rw [← hP]
    exact pieces_any ta tt.length tc V (by omega)
  have HT : Hid (∀ (V : World) (wv1 : Value), LKeep w.heap.size lb .nilIface wv .nilIface wv1 W V → ByRow V w.heap.size (.slice ta tt.length tc) tt) := fun V wv1 h => a.bytes htt h
  rw [hF]
  unfold wrT at hF
  rw [hP] at hF hok
  generalize bgn s D = G at *
  have P1 : (P : Int) ≤ 240 := by omega
  have P0 : P ≤ 240 := by omega
  have xl : (tx.length : Int) ≤ 14000 := by omega
  have HP1 : Hid (P * 60 ≤ tt.length + 59) := hP1
  have HTl : Hid (tt.length ≤ 14000 ∧ n ≤ 200) := ⟨htl, hn⟩
  rcases h2 with h2 | h2
  · rw [if_pos h2] at hF
    rw [h2, enE_zero] at hB
    have HB : Hid (Calls _ _ _ W _) := hB
    have HF : Hid (wrL fr tt (P - tx.length / 60) (tx.length / 60) G.2.1 wh G.2.2 = F ∧ wrOk n fr (P - tx.length / 60) (tx.length / 60) G.2.1 wh ∧ G.2.2.lim 900001) := ⟨hF, hok, hlim⟩
    clear a htt hl hs hn htl htx hok hlim hF hB h2 hP hP1
    go_enter Try.func42, Try.ntmps42
    go_wp2_with fail
    refine HB.out.mono ?_
    rintro e w3 ⟨rfl, cv3, h3, k3⟩
    have c3 : w3.cell? ⟨lb, 3, none⟩ = some (.slice xa tx.length xc) := by rw [h3.out.box.at]; rfl
    have hdiv : (tx.length : Int) / 60 = ((tx.length / 60 : Nat) : Int) := by omega
    obtain ⟨q, hq⟩ : ∃ q : Nat, tx.length / 60 = q := ⟨_, rfl⟩
    rw [hq] at hdiv HF hP2
    have HS : Hid (LgAt w w3 p nb sb cv3 n G.2.2 lb fr mn (.slice xa tx.length xc) wv G.2.1 tx wh ∧ LKeep w.heap.size lb .nilIface wv .nilIface wv W w3) := ⟨h3.out, k3.out⟩
    clear HB h3 k3 hq
    go_wp2_with fail
    have HQ : Hid ((tx.length : Int) / 60 = (q : Int)) := hdiv
    clear c3
    go_loopw [6] (fun t wr => ∃ (k : Nat) (cv1 wv1 : Value) (s1 : Ls) (wh1 : List Nat) (D1 : Dk), k ≤ P ∧ t = .int .i64 k ∧ Hid (LgAt w wr p nb sb cv1 n D1 lb fr mn (.slice xa tx.length xc) wv1 s1 tx wh1 ∧ LKeep w.heap.size lb .nilIface wv .nilIface wv1 W wr ∧ wrL fr tt (P - k) k s1 wh1 D1 = F ∧ wrOk n fr (P - k) k s1 wh1 ∧ D1.lim (900001 + k))) (fun t _ => P - (RowKit.intOf t).toNat)
    case atStart => exact ⟨q, cv3, wv, G.2.1, wh, G.2.2, hP2, by first | rfl | rw [HQ.out], HS.out.1, HS.out.2, HF.out.1, HF.out.2.1, HF.out.2.2.mono (by omega)⟩
    case round =>
      obtain ⟨k, cv1, wv1, s1, wh1, D1, hk, rfl, H⟩ := hrel
      obtain ⟨a1, k1, hF1, ho1, hl1⟩ := H.out
      have HPw : Hid (Calls _ _ _ wr _) := HPc.out wr
      have k0 : (0 : Int) ≤ k := by omega
      clear H HS HF hdiv HQ HPc
      by_cases hlt : k < P
      · have klt : (k : Int) < (P : Int) := by omega
        obtain ⟨m, hm⟩ : ∃ m, P - k = m + 1 := ⟨P - k - 1, by omega⟩
        have hm' : P - (k + 1) = m := by omega
        rw [hm] at hF1 ho1
        unfold wrOk at ho1
        obtain ⟨⟨o1, o2, o3, o4, o5⟩, ho2⟩ := ho1
        have hpl := place_any a1 k o1 (by omega)
        have hW : ∀ (V : World) (wv2 : Value), LgAt w V p nb sb cv1 n D1 lb fr mn (.slice xa tx.length xc) wv2 (plc s1 wh1 k).1 tx (plc s1 wh1 k).2 → LKeep w.heap.size lb .nilIface wv1 .nilIface wv2 wr V → ∃ x : Pm, ∀ u, Below V.heap.size V u → (Instr.loadAt 77 (.pointer (some ⟨lb, 0, none⟩))).run Try.prog u = .ok (.agg #[.pointer (some ⟨p, 0, none⟩), .int .i64 (fr : Int), .int .i64 (mn : Int)]) u ∧ Hid (Calls Try.prog 66 #[.pointer (some ⟨lb, 0, none⟩), .slice ta tt.length tc, .int .i64 (k : Int)] u fun e w' => e = .returned (.agg x.cells.toArray) ∧ Hid (Below u.heap.size u w')) ∧ Hid (Calls Try.prog 65 #[.agg #[.pointer (some ⟨p, 0, none⟩), .int .i64 (fr : Int), .int .i64 (mn : Int)], .agg x.cells.toArray] u fun e w' => e = .returned (enE (wrR D1 (fr + (plc s1 wh1 k).2.getD k 0) (pcB (pcAt (plc s1 wh1 k).1 tt k))).1) ∧ ∃ cv', Hid (LgAt w w' p nb sb cv' n (wrR D1 (fr + (plc s1 wh1 k).2.getD k 0) (pcB (pcAt (plc s1 wh1 k).1 tt k))).2 lb fr mn (.slice xa tx.length xc) wv2 (plc s1 wh1 k).1 tx (plc s1 wh1 k).2) ∧ Hid (LKeep w.heap.size lb .nilIface wv .nilIface wv2 W w')) := fun V wv2 a2 k2 => by
          have k12 := k1.trans k2
          have hby := HT.out V wv2 k12
          obtain ⟨x, hx⟩ := pcw_any a2 ta tt tc hby.isBy' hby.some k (plc_len s1 wh1 k o1) (by have := HP1.out; omega) (by omega) (by have := HTl.out.1; omega) o5 HTl.out.2 (by rw [(plc_same s1 wh1 k).1]; exact o3) (hl1.mono (by omega))
          refine ⟨x, fun u hu => ?_⟩
          obtain ⟨p1, p2, _, p4⟩ := hx u hu
          refine ⟨p1, p2, p4.out.mono ?_⟩
          rintro e w' ⟨rfl, cv', h1, h2⟩
          exact ⟨rfl, cv', h1, k12.trans (.of_keeps h2.out)⟩
        have hl2 := wrR_lim hl1 (fr + (plc s1 wh1 k).2.getD k 0) (pcB (pcAt (plc s1 wh1 k).1 tt k))
        have h2 := wrR_two D1 (fr + (plc s1 wh1 k).2.getD k 0) (pcB (pcAt (plc s1 wh1 k).1 tt k))
        unfold wrL at hF1
        generalize wrR D1 (fr + (plc s1 wh1 k).2.getD k 0) (pcB (pcAt (plc s1 wh1 k).1 tt k)) = R at *
        generalize plc s1 wh1 k = S1 at *
        have HPl : Hid (Calls _ _ _ wr _) := hpl
        rcases h2 with h2 | h2
        · rw [if_pos h2] at hF1
          simp only [h2, enE_zero] at hW
          have HW : Hid (∀ (V : World) (wv2 : Value), _ → _ → ∃ x : Pm, _) := hW
          have HN : Hid (wrL fr tt (P - (k + 1)) (k + 1) S1.1 S1.2 R.2 = F ∧ wrOk n fr (P - (k + 1)) (k + 1) S1.1 S1.2 ∧ R.2.lim (900001 + (k + 1))) := ⟨by rw [hm']; exact hF1, by rw [hm']; exact ho2, hl2.mono (by omega)⟩
          clear a1 k1 hF1 ho2 hl1 hl2 h2 hW hm hm' o1 o2 o3 o4 o5 hpl
          go_wp2_with fail
          refine HPw.out.mono ?_
          rintro e w4 ⟨rfl, rfl⟩
          go_wp2_with fail
          refine HPl.out.mono ?_
          rintro e w5 ⟨rfl, wv2, h5, k5⟩
          obtain ⟨x, hx⟩ := HW.out w5 wv2 h5.out k5.out
          have HX : Hid (∀ u, Below w5.heap.size w5 u → _) := hx
          clear HPl HPw HW h5 k5 hx
          go_upto_region 8 with fail
          refine wp_region_drawn (by kernel_rfl) ?_
          have HV : Hid (Below w5.heap.size w5 w5.drew) := ⟨rfl, rfl, rfl, Nat.le_refl _, fun _ _ => rfl⟩
          generalize w5.drew = V at *
          have HPi : Hid (Calls _ _ _ V _) := (HX.out V HV.out).2.1.out
          refine wpAny_take (i := 0) (v := .pointer (some ⟨lb, 0, none⟩)) rfl (by kernel_rfl) (by kernel_rfl) (by kernel_rfl) (fun _ _ _ h => h) (Or.inl ⟨by rfl, fun w => by go_simp⟩) ?_
          simp only [Act.put, List.getElem_toArray, List.getElem_cons_succ, List.getElem_cons_zero, List.setIfInBounds_toArray, List.set_cons_zero, List.set_cons_succ]
          refine wpAny_take (i := 1) (v := .pointer (some ⟨lb, 0, none⟩)) rfl (by kernel_rfl) (by kernel_rfl) (by kernel_rfl) (fun _ _ _ h => h) (Or.inl ⟨by rfl, fun w => by go_simp⟩) ?_
          simp only [Act.put, List.getElem_toArray, List.getElem_cons_succ, List.getElem_cons_zero, List.setIfInBounds_toArray, List.set_cons_zero, List.set_cons_succ]
          refine wpAny_take (i := 2) (v := .pointer (some ⟨lb, 0, none⟩)) rfl (by kernel_rfl) (by kernel_rfl) (by kernel_rfl) (fun _ _ _ h => h) (Or.inl ⟨by rfl, fun w => by go_simp⟩) ?_
          simp only [Act.put, List.getElem_toArray, List.getElem_cons_succ, List.getElem_cons_zero, List.setIfInBounds_toArray, List.set_cons_zero, List.set_cons_succ]
          refine wpAny_take (i := 4) (v := .pointer (some ⟨lb, 0, none⟩)) rfl (by kernel_rfl) (by kernel_rfl) (by kernel_rfl) (fun _ _ _ h => h) (Or.inl ⟨by rfl, fun w => by go_simp⟩) ?_
          simp only [Act.put, List.getElem_toArray, List.getElem_cons_succ, List.getElem_cons_zero, List.setIfInBounds_toArray, List.set_cons_zero, List.set_cons_succ]
          refine wpAny_take (i := 5) (v := .slice ta tt.length tc) rfl (by kernel_rfl) (by kernel_rfl) (by kernel_rfl) (fun _ _ _ h => h) (Or.inl ⟨by rfl, fun w => by go_simp⟩) ?_
          simp only [Act.put, List.getElem_toArray, List.getElem_cons_succ, List.getElem_cons_zero, List.setIfInBounds_toArray, List.set_cons_zero, List.set_cons_succ]
          refine wpAny_take (i := 6) (v := .int .i64 (k : Int)) rfl (by kernel_rfl) (by kernel_rfl) (by kernel_rfl) (fun _ _ _ h => h) (Or.inl ⟨by rfl, fun w => by go_simp⟩) ?_
          simp only [Act.put, List.getElem_toArray, List.getElem_cons_succ, List.getElem_cons_zero, List.setIfInBounds_toArray, List.set_cons_zero, List.set_cons_succ]
          refine any_of_L (g := 8) (T := fun u => Below w5.heap.size w5 u) _ _ _ _ ?_
          refine L_takeC [8] (i := 3) (v := .agg #[.pointer (some ⟨p, 0, none⟩), .int .i64 (fr : Int), .int .i64 (mn : Int)]) rfl (by kernel_rfl) (by kernel_rfl) (by decide) (by kernel_rfl) (by kernel_rfl) (by kernel_rfl) (by kernel_rfl) (fun _ _ _ h => h) ?_ HV.out ?_
          · refine yields_load_run (by rfl) 77 (.tmp 30) (by rfl) (.pointer (some ⟨lb, 0, none⟩)) (by rfl) ?_
            exact fun w' hw' => (HX.out w' hw').1
          simp only [Act.put, List.getElem_toArray, List.getElem_cons_succ, List.getElem_cons_zero, List.setIfInBounds_toArray, List.set_cons_zero, List.set_cons_succ]
          refine L_one (i := 7) (by kernel_rfl) ?_
          refine wpOp_step rfl ?_
          intro K hK
          rw [if_pos (by rfl)]
          have hK' : Shut (∀ a w, _ → K a w) := hK
          clear hK
          go_wp2_with fail
          refine HPi.out.mono ?_
          rintro e w6 ⟨rfl, b6⟩
          have HB6 : Hid (Below w5.heap.size w5 w6) := HV.out.trans (b6.out.mono HV.out.size)
          have HW6 : Hid (Calls _ _ _ w6 _) := (HX.out w6 HB6.out).2.2.out
          refine hK'.out _ _ ⟨HB6.out, ?_⟩
          clear hK' K b6 HPi HV HX
          try simp only [Act.put, List.getElem_toArray, List.getElem_cons_succ, List.getElem_cons_zero, List.setIfInBounds_toArray, List.set_cons_zero, List.set_cons_succ]
          refine L_go (by kernel_rfl) (by kernel_rfl) ?_
          refine wpOp_step rfl ?_
          intro K hK
          rw [if_pos (by rfl)]
          have hK' : Shut (∀ a w, _ → K a w) := hK
          clear hK
          go_wp2_with fail
          refine HW6.out.mono ?_
          rintro e w7 ⟨rfl, cv7, h7, k7⟩
          refine hK'.out _ _ ?_
          clear hK' K
          try simp only [Act.put, List.getElem_toArray, List.getElem_cons_succ, List.getElem_cons_zero, List.setIfInBounds_toArray, List.set_cons_zero, List.set_cons_succ]
          refine any_one (i := 9) (by kernel_rfl) ?_
          refine wpOp_step rfl ?_
          intro K hK
          rw [if_pos (by rfl)]
          have hK' : Shut (∀ a w, _ → K a w) := hK
          clear hK
          go_wp2_with fail
          refine hK'.out _ _ ?_
          clear hK' K
          refine wpAny_done (by kernel_rfl) ?_ _
          clear HW6 HB6
          have HX : Hid (LgAt w w7 p nb sb cv7 n R.2 lb fr mn (.slice xa tx.length xc) wv2 S1.1 tx S1.2 ∧ LKeep w.heap.size lb .nilIface wv .nilIface wv2 W w7 ∧ wrL fr tt (P - (k + 1)) (k + 1) S1.1 S1.2 R.2 = F ∧ wrOk n fr (P - (k + 1)) (k + 1) S1.1 S1.2 ∧ R.2.lim (900001 + (k + 1))) := ⟨h7.out, k7.out, HN.out⟩
          clear h7 k7 HN
          go_wp2_with fail
          go_roundw
          case rel => exact ⟨k + 1, cv7, wv2, S1.1, S1.2, R.2, by omega, by go_num, HX⟩
          case measure => simp [RowKit.intOf]; omega
        · have h2' : ¬ R.1 = 0 := by omega
          rw [if_neg h2'] at hF1
          have HE : Hid ((R.1, S1.1, S1.2, R.2) = F) := hF1
          simp only [h2, enE_ne (show (7 : Int) ≠ 0 by decide)] at hW
          have HW : Hid (∀ (V : World) (wv2 : Value), _ → _ → ∃ x : Pm, _) := hW
          have H7 : Hid (R.1 = 7) := h2
          clear a1 k1 hF1 ho2 hl1 hl2 h2 h2' hW hm hm' o1 o2 o3 o4 o5 hpl
          go_wp2_with fail
          refine HPw.out.mono ?_
          rintro e w4 ⟨rfl, rfl⟩
          go_wp2_with fail
          refine HPl.out.mono ?_
          rintro e w5 ⟨rfl, wv2, h5, k5⟩
          obtain ⟨x, hx⟩ := HW.out w5 wv2 h5.out k5.out
          have HX : Hid (∀ u, Below w5.heap.size w5 u → _) := hx
          clear HPl HPw HW h5 k5 hx
          go_upto_region 8 with fail
          refine wp_region_drawn (by kernel_rfl) ?_
          have HV : Hid (Below w5.heap.size w5 w5.drew) := ⟨rfl, rfl, rfl, Nat.le_refl _, fun _ _ => rfl⟩
          generalize w5.drew = V at *
          have HPi : Hid (Calls _ _ _ V _) := (HX.out V HV.out).2.1.out
          refine wpAny_take (i := 0) (v := .pointer (some ⟨lb, 0, none⟩)) rfl (by kernel_rfl) (by kernel_rfl) (by kernel_rfl) (fun _ _ _ h => h) (Or.inl ⟨by rfl, fun w => by go_simp⟩) ?_
          simp only [Act.put, List.getElem_toArray, List.getElem_cons_succ, List.getElem_cons_zero, List.setIfInBounds_toArray, List.set_cons_zero, List.set_cons_succ]
          refine wpAny_take (i := 1) (v := .pointer (some ⟨lb, 0, none⟩)) rfl (by kernel_rfl) (by kernel_rfl) (by kernel_rfl) (fun _ _ _ h => h) (Or.inl ⟨by rfl, fun w => by go_simp⟩) ?_
          simp only [Act.put, List.getElem_toArray, List.getElem_cons_succ, List.getElem_cons_zero, List.setIfInBounds_toArray, List.set_cons_zero, List.set_cons_succ]
          refine wpAny_take (i := 2) (v := .pointer (some ⟨lb, 0, none⟩)) rfl (by kernel_rfl) (by kernel_rfl) (by kernel_rfl) (fun _ _ _ h => h) (Or.inl ⟨by rfl, fun w => by go_simp⟩) ?_
          simp only [Act.put, List.getElem_toArray, List.getElem_cons_succ, List.getElem_cons_zero, List.setIfInBounds_toArray, List.set_cons_zero, List.set_cons_succ]
          refine wpAny_take (i := 4) (v := .pointer (some ⟨lb, 0, none⟩)) rfl (by kernel_rfl) (by kernel_rfl) (by kernel_rfl) (fun _ _ _ h => h) (Or.inl ⟨by rfl, fun w => by go_simp⟩) ?_
          simp only [Act.put, List.getElem_toArray, List.getElem_cons_succ, List.getElem_cons_zero, List.setIfInBounds_toArray, List.set_cons_zero, List.set_cons_succ]
          refine wpAny_take (i := 5) (v := .slice ta tt.length tc) rfl (by kernel_rfl) (by kernel_rfl) (by kernel_rfl) (fun _ _ _ h => h) (Or.inl ⟨by rfl, fun w => by go_simp⟩) ?_
          simp only [Act.put, List.getElem_toArray, List.getElem_cons_succ, List.getElem_cons_zero, List.setIfInBounds_toArray, List.set_cons_zero, List.set_cons_succ]
          refine wpAny_take (i := 6) (v := .int .i64 (k : Int)) rfl (by kernel_rfl) (by kernel_rfl) (by kernel_rfl) (fun _ _ _ h => h) (Or.inl ⟨by rfl, fun w => by go_simp⟩) ?_
          simp only [Act.put, List.getElem_toArray, List.getElem_cons_succ, List.getElem_cons_zero, List.setIfInBounds_toArray, List.set_cons_zero, List.set_cons_succ]
          refine any_of_L (g := 8) (T := fun u => Below w5.heap.size w5 u) _ _ _ _ ?_
          refine L_takeC [8] (i := 3) (v := .agg #[.pointer (some ⟨p, 0, none⟩), .int .i64 (fr : Int), .int .i64 (mn : Int)]) rfl (by kernel_rfl) (by kernel_rfl) (by decide) (by kernel_rfl) (by kernel_rfl) (by kernel_rfl) (by kernel_rfl) (fun _ _ _ h => h) ?_ HV.out ?_
          · refine yields_load_run (by rfl) 77 (.tmp 30) (by rfl) (.pointer (some ⟨lb, 0, none⟩)) (by rfl) ?_
            exact fun w' hw' => (HX.out w' hw').1
          simp only [Act.put, List.getElem_toArray, List.getElem_cons_succ, List.getElem_cons_zero, List.setIfInBounds_toArray, List.set_cons_zero, List.set_cons_succ]
          refine L_one (i := 7) (by kernel_rfl) ?_
          refine wpOp_step rfl ?_
          intro K hK
          rw [if_pos (by rfl)]
          have hK' : Shut (∀ a w, _ → K a w) := hK
          clear hK
          go_wp2_with fail
          refine HPi.out.mono ?_
          rintro e w6 ⟨rfl, b6⟩
          have HB6 : Hid (Below w5.heap.size w5 w6) := HV.out.trans (b6.out.mono HV.out.size)
          have HW6 : Hid (Calls _ _ _ w6 _) := (HX.out w6 HB6.out).2.2.out
          refine hK'.out _ _ ⟨HB6.out, ?_⟩
          clear hK' K b6 HPi HV HX
          try simp only [Act.put, List.getElem_toArray, List.getElem_cons_succ, List.getElem_cons_zero, List.setIfInBounds_toArray, List.set_cons_zero, List.set_cons_succ]
          refine L_go (by kernel_rfl) (by kernel_rfl) ?_
          refine wpOp_step rfl ?_
          intro K hK
          rw [if_pos (by rfl)]
          have hK' : Shut (∀ a w, _ → K a w) := hK
          clear hK
          go_wp2_with fail
          refine HW6.out.mono ?_
          rintro e w7 ⟨rfl, cv7, h7, k7⟩
          refine hK'.out _ _ ?_
          clear hK' K
          try simp only [Act.put, List.getElem_toArray, List.getElem_cons_succ, List.getElem_cons_zero, List.setIfInBounds_toArray, List.set_cons_zero, List.set_cons_succ]
          refine any_one (i := 9) (by kernel_rfl) ?_
          refine wpOp_step rfl ?_
          intro K hK
          rw [if_pos (by rfl)]
          have hK' : Shut (∀ a w, _ → K a w) := hK
          clear hK
          go_wp2_with fail
          refine hK'.out _ _ ?_
          clear hK' K
          refine wpAny_done (by kernel_rfl) ?_ _
          clear HW6 HB6
          go_wp2
          go_ret
          rw [← HE.out]
          refine ⟨?_, cv7, wv2, h7, k7⟩
          simp only [H7.out, enE_ne (show (7 : Int) ≠ 0 by decide)]
          rfl
      · have klt : ¬ (k : Int) < (P : Int) := by omega
        have hk0 : P - k = 0 := by omega
        rw [hk0] at hF1
        unfold wrL at hF1
        have HE : Hid ((0, s1, wh1, D1) = F) := hF1
        have HA1 : Hid (LgAt w wr p nb sb cv1 n D1 lb fr mn (.slice xa tx.length xc) wv1 s1 tx wh1 ∧ LKeep w.heap.size lb .nilIface wv .nilIface wv1 W wr) := ⟨a1, k1⟩
        clear a1 k1 hF1 ho1 hl1
        go_wp2_with fail
        refine HPw.out.mono ?_
        rintro e w4 ⟨rfl, rfl⟩
        go_wp2
        go_ret
        rw [← HE.out]
        exact ⟨rfl, cv1, wv1, HA1.out.1, HA1.out.2⟩
  · have h2' : ¬ G.1 = 0 := by omega
    rw [if_neg h2'] at hF
    have HE : Hid ((G.1, G.2.1, wh, G.2.2) = F) := hF
    rw [h2, enE_ne (show (7 : Int) ≠ 0 by decide)] at hB
    have HB : Hid (Calls _ _ _ W _) := hB
    have H7 : Hid (G.1 = 7) := h2
    clear a htt hl hs hn htl htx hok hlim hF hB h2 h2' hP hP1
    go_enter Try.func42, Try.ntmps42
    go_wp2_with fail
    refine HB.out.mono ?_
    rintro e w7 ⟨rfl, cv7, h7, k7⟩
    go_wp2
    go_ret
    rw [← HE.out]
    refine ⟨?_, cv7, wv, h7, k7⟩
    simp only [H7.out, enE_ne (show (7 : Int) ≠ 0 by decide)]
    rfl
end
end Go.Proofs.Ytijjegkkeigeoaa

namespace Go.Proofs.Ytijjegkkeigeoaa
set_option linter.unusedVariables false
set_option linter.unusedSimpArgs false
set_option maxRecDepth 100000
set_option maxHeartbeats 2000000
open Go.RowKit Go.Lib
theorem flW_two (fr : Nat) (s : Ls) (tx : List UInt8) (wh : List Nat) : ∀ (m k : Nat) (D : Dk), (flW fr s tx wh m k D).1 = 0 ∨ (flW fr s tx wh m k D).1 = 7
  | 0, _, D => flR_two D
  | m + 1, k, D => by
    unfold flW
    split
    · exact flW_two fr s tx wh m (k + 1) _
    · split
      · exact flW_two fr s tx wh m (k + 1) _
      · exact wrR_two _ _ _
/-- Behind Sync. -/
def snc (fr : Nat) (s : Ls) (tx : List UInt8) (wh : List Nat) (D : Dk) : Int × Ls × Dk :=
  if s.lo = true then (7, s, D) else if (flW fr s tx wh (wh.length - s.sf) s.sf D).1 = 0 then (0, { s with sf := wh.length, old := 0 }, (flW fr s tx wh (wh.length - s.sf) s.sf D).2) else (7, { s with lo := true }, (flW fr s tx wh (wh.length - s.sf) s.sf D).2)
section
variable {w W U : World} {p nb sb : Nat} {cv : Value} {n : Nat} {D : Dk} {lb fr mn : Nat} {tv wv wv' : Value} {s : Ls} {tx : List UInt8} {wh : List Nat}
theorem sync_any (a : LgAt w W p nb sb cv n D lb fr mn tv wv s tx wh) (hB : LgB n fr s tx wh) (hs : D.lim 900000) :
    Calls Try.prog 21 #[.pointer (some ⟨lb, 0, none⟩)] W fun e w' => e = .returned (enE (snc fr s tx wh D).1) ∧ ∃ cv', Hid (LgAt w w' p nb sb cv' n (snc fr s tx wh D).2.2 lb fr mn tv wv (snc fr s tx wh D).2.1 tx wh) ∧ Hid (LKeep w.heap.size lb .nilIface wv .nilIface wv W w') := by
  have c12 : W.cell? ⟨lb, 12, none⟩ = some (.bool s.lo) := by rw [a.box.at]; rfl
  unfold snc
  by_cases hlo : s.lo = true
  · rw [if_pos hlo]
    rw [hlo] at c12
    have HA : Hid (LgAt w W p nb sb cv n D lb fr mn tv wv s tx wh) := a
    clear a hB hs hlo
    rw [enE_ne (show (7 : Int) ≠ 0 by decide)]
    go_enter Try.func21, Try.ntmps21
    go_wp2
    go_ret
    exact ⟨rfl, cv, HA, LKeep.refl _ _ _ _ _⟩
  · rw [if_neg hlo]
    have hlo' : s.lo = false := by simpa using hlo
    rw [hlo'] at c12
    have hFl := flush_any a hB hs
    have h2 := flW_two fr s tx wh (wh.length - s.sf) s.sf D
    obtain ⟨wa, wc, hwv⟩ := a.wh.shape
    clear hlo hB hs a
    generalize flW fr s tx wh (wh.length - s.sf) s.sf D = R at *
    rcases h2 with h2 | h2
    · rw [if_pos h2]
      rw [h2, enE_zero] at hFl
      have HF : Hid (Calls _ _ _ W _) := hFl
      have HN : Hid (∀ (V : World) (cv1 : Value), LgAt w V p nb sb cv1 n R.2 lb fr mn tv wv s tx wh → LgAt w ((V.setCell ⟨lb, 8, none⟩ (.int .i64 (wh.length : Int))).setCell ⟨lb, 9, none⟩ (.int .i64 0)) p nb sb cv1 n R.2 lb fr mn tv wv { s with sf := wh.length, old := 0 } tx wh ∧ LKeep w.heap.size lb .nilIface wv .nilIface wv V ((V.setCell ⟨lb, 8, none⟩ (.int .i64 (wh.length : Int))).setCell ⟨lb, 9, none⟩ (.int .i64 0)) ∧ V.cell? ⟨lb, 7, none⟩ = some (.slice wa wh.length wc) ∧ V.cell? ⟨lb, 8, none⟩ = some (.int .i64 (s.sf : Int)) ∧ V.frozen? ⟨lb, 8, none⟩ = false ∧ (V.setCell ⟨lb, 8, none⟩ (.int .i64 (wh.length : Int))).cell? ⟨lb, 9, none⟩ = some (.int .i64 (s.old : Int)) ∧ (V.setCell ⟨lb, 8, none⟩ (.int .i64 (wh.length : Int))).frozen? ⟨lb, 9, none⟩ = false) := fun V cv1 a1 => by
        have a2 := a1.set 8 (.int .i64 (wh.length : Int)) (s' := { s with sf := wh.length }) rfl
        have a3 := a2.set 9 (.int .i64 0) (s' := { s with sf := wh.length, old := 0 }) rfl
        have b1 : Below w.heap.size V (V.setCell ⟨lb, 8, none⟩ (.int .i64 (wh.length : Int))) := (Below.refl _ V).setCell (p := ⟨lb, 8, none⟩) a1.llb _
        have b2 : Below w.heap.size (V.setCell ⟨lb, 8, none⟩ (.int .i64 (wh.length : Int))) ((V.setCell ⟨lb, 8, none⟩ (.int .i64 (wh.length : Int))).setCell ⟨lb, 9, none⟩ (.int .i64 0)) := (Below.refl _ _).setCell (p := ⟨lb, 9, none⟩) a1.llb _
        exact ⟨a3, ((LKeep.refl _ _ _ _ _).setBox a1.llb 8 _ b1.size b1.os b1.tape b1.output).setBox a1.llb 9 _ b2.size b2.os b2.tape b2.output, by rw [a1.box.at, ← hwv]; rfl, by rw [a1.box.at]; rfl, a1.box.fz 8, by rw [a2.box.at]; rfl, a2.box.fz 9⟩
      clear hFl h2 hwv
      go_enter Try.func21, Try.ntmps21
      go_wp2_with fail
      refine HF.out.mono ?_
      rintro e w7 ⟨rfl, cv7, h7, k7⟩
      obtain ⟨n1, n2, d7, d8, f8, d9, f9⟩ := HN.out w7 cv7 h7.out
      have H1 : Hid (LgAt _ _ _ _ _ _ _ _ _ _ _ _ _ _ _ _) := n1
      have HK : Hid (LKeep _ _ _ _ _ _ _ _) := (LKeep.of_keeps k7.out).trans n2
      clear HF HN h7 k7 n1 n2 c12
      go_wp2
      go_ret
      exact ⟨rfl, cv7, H1, HK⟩
    · have h2' : ¬ R.1 = 0 := by omega
      rw [if_neg h2', enE_ne (show (7 : Int) ≠ 0 by decide)]
      rw [h2, enE_ne (show (7 : Int) ≠ 0 by decide)] at hFl
      have HF : Hid (Calls _ _ _ W _) := hFl
      have HN : Hid (∀ (V : World) (cv1 : Value), LgAt w V p nb sb cv1 n R.2 lb fr mn tv wv s tx wh → LgAt w (V.setCell ⟨lb, 12, none⟩ (.bool true)) p nb sb cv1 n R.2 lb fr mn tv wv { s with lo := true } tx wh ∧ LKeep w.heap.size lb .nilIface wv .nilIface wv V (V.setCell ⟨lb, 12, none⟩ (.bool true)) ∧ V.cell? ⟨lb, 12, none⟩ = some (.bool s.lo) ∧ V.frozen? ⟨lb, 12, none⟩ = false) := fun V cv1 a1 => by
        have b1 : Below w.heap.size V (V.setCell ⟨lb, 12, none⟩ (.bool true)) := (Below.refl _ V).setCell (p := ⟨lb, 12, none⟩) a1.llb _
        exact ⟨a1.set 12 (.bool true) rfl, (LKeep.refl _ _ _ _ _).setBox a1.llb 12 _ b1.size b1.os b1.tape b1.output, by rw [a1.box.at]; rfl, a1.box.fz 12⟩
      clear hFl h2 h2' hwv
      go_enter Try.func21, Try.ntmps21
      go_wp2_with fail
      refine HF.out.mono ?_
      rintro e w7 ⟨rfl, cv7, h7, k7⟩
      obtain ⟨n1, n2, d12, f12⟩ := HN.out w7 cv7 h7.out
      have H1 : Hid (LgAt _ _ _ _ _ _ _ _ _ _ _ _ _ _ _ _) := n1
      have HK : Hid (LKeep _ _ _ _ _ _ _ _) := (LKeep.of_keeps k7.out).trans n2
      clear HF HN h7 k7 n1 n2 c12
      go_wp2
      go_ret
      exact ⟨rfl, cv7, H1, HK⟩
end
end Go.Proofs.Ytijjegkkeigeoaa

namespace Go.Proofs.Ytijjegkkeigeoaa
set_option linter.unusedVariables false
set_option linter.unusedSimpArgs false
set_option maxRecDepth 100000
set_option maxHeartbeats 2000000
open Go.RowKit Go.Lib
section
variable {w W U : World} {p nb sb : Nat} {cv : Value} {n : Nat} {D : Dk} {lb fr mn : Nat} {tv wv wv' : Value} {s : Ls} {tx : List UInt8} {wh : List Nat}
theorem room_any (a : LgAt w W p nb sb cv n D lb fr mn tv wv s tx wh) (hm : mn ≤ 200) (hx : tx.length ≤ (mn - 2) * 60) :
    Calls Try.prog 38 #[.pointer (some ⟨lb, 0, none⟩)] W fun e w' => e = .returned (.int .i64 (((mn - 2) * 60 - tx.length : Nat) : Int)) ∧ Below W.heap.size W w' := by
  obtain ⟨xa, xc, hxv, _⟩ := a.tx.isBy
  have HAt : Hid (∀ U, Below W.heap.size W U → LgBox U lb p fr mn (.slice xa tx.length xc) wv s) := fun U hU => by rw [← hxv]; exact (a.below hU).box
  have HDr : Hid (Below W.heap.size W W.drew) := ⟨rfl, rfl, rfl, Nat.le_refl _, fun _ _ => rfl⟩
  have HSz : Hid (∀ V : World, Calls Try.prog 56 #[.agg #[.pointer (some ⟨p, 0, none⟩), .int .i64 (fr : Int), .int .i64 (mn : Int)]] V fun e w' => e = .returned (.int .i64 (((mn - 2) * 60 : Nat) : Int)) ∧ Below V.heap.size V w') := fun V => size_any p fr mn V hm
  obtain ⟨z, hz⟩ : ∃ z, (mn - 2) * 60 = z := ⟨_, rfl⟩
  rw [hz] at HSz hx ⊢
  have z1 : (z : Int) ≤ 12000 := by omega
  have z2 : (tx.length : Int) ≤ (z : Int) := by omega
  have e1 : ((z - tx.length : Nat) : Int) = (z : Int) - (tx.length : Int) := by omega
  rw [e1]
  clear a hxv hm hx hz e1
  go_enter Try.func38, Try.ntmps38
  go_upto_region 1 with fail
  refine wp_region_drawn (by kernel_rfl) ?_
  generalize W.drew = v2 at *
  refine wpAny_take (i := 0) (v := .pointer (some ⟨lb, 0, none⟩)) rfl (by kernel_rfl) (by kernel_rfl) (by kernel_rfl) (fun _ _ _ h => h) (Or.inl ⟨by rfl, fun w => by go_simp⟩) ?_
  simp only [Act.put, List.getElem_toArray, List.getElem_cons_succ, List.getElem_cons_zero, List.setIfInBounds_toArray, List.set_cons_zero, List.set_cons_succ]
  refine wpAny_take (i := 1) (v := .pointer (some ⟨lb, 0, none⟩)) rfl (by kernel_rfl) (by kernel_rfl) (by kernel_rfl) (fun _ _ _ h => h) (Or.inl ⟨by rfl, fun w => by go_simp⟩) ?_
  simp only [Act.put, List.getElem_toArray, List.getElem_cons_succ, List.getElem_cons_zero, List.setIfInBounds_toArray, List.set_cons_zero, List.set_cons_succ]
  refine wpAny_take (i := 2) (v := .pointer (some ⟨lb, 0, none⟩)) rfl (by kernel_rfl) (by kernel_rfl) (by kernel_rfl) (fun _ _ _ h => h) (Or.inl ⟨by rfl, fun w => by go_simp⟩) ?_
  simp only [Act.put, List.getElem_toArray, List.getElem_cons_succ, List.getElem_cons_zero, List.setIfInBounds_toArray, List.set_cons_zero, List.set_cons_succ]
  refine wpAny_take (i := 5) (v := .pointer (some ⟨lb, 0, none⟩)) rfl (by kernel_rfl) (by kernel_rfl) (by kernel_rfl) (fun _ _ _ h => h) (Or.inl ⟨by rfl, fun w => by go_simp⟩) ?_
  simp only [Act.put, List.getElem_toArray, List.getElem_cons_succ, List.getElem_cons_zero, List.setIfInBounds_toArray, List.set_cons_zero, List.set_cons_succ]
  refine wpAny_take (i := 6) (v := .pointer (some ⟨lb, 0, none⟩)) rfl (by kernel_rfl) (by kernel_rfl) (by kernel_rfl) (fun _ _ _ h => h) (Or.inl ⟨by rfl, fun w => by go_simp⟩) ?_
  simp only [Act.put, List.getElem_toArray, List.getElem_cons_succ, List.getElem_cons_zero, List.setIfInBounds_toArray, List.set_cons_zero, List.set_cons_succ]
  refine wpAny_take (i := 7) (v := .pointer (some ⟨lb, 3, none⟩)) rfl (by kernel_rfl) (by kernel_rfl) (by kernel_rfl) (fun _ _ _ h => h) (Or.inl ⟨by rfl, fun w => by go_simp⟩) ?_
  simp only [Act.put, List.getElem_toArray, List.getElem_cons_succ, List.getElem_cons_zero, List.setIfInBounds_toArray, List.set_cons_zero, List.set_cons_succ]
  refine any_of_L (g := 10) (T := fun u => Below W.heap.size W u) _ _ _ _ ?_
  refine L_takeC [10, 4] (i := 3) (v := .agg #[.pointer (some ⟨p, 0, none⟩), .int .i64 (fr : Int), .int .i64 (mn : Int)]) rfl (by kernel_rfl) (by kernel_rfl) (by decide) (by kernel_rfl) (by kernel_rfl) (by kernel_rfl) (by kernel_rfl) (fun _ _ _ h => h) ?_ HDr.out ?_
  · refine yields_load_run (by rfl) 77 (.tmp 5) (by rfl) (.pointer (some ⟨lb, 0, none⟩)) (by rfl) ?_
    exact fun w' hw' => load_area (HAt.out w' hw')
  simp only [Act.put, List.getElem_toArray, List.getElem_cons_succ, List.getElem_cons_zero, List.setIfInBounds_toArray, List.set_cons_zero, List.set_cons_succ]
  refine L_takeC [10, 9] (i := 8) (v := .slice xa tx.length xc) rfl (by kernel_rfl) (by kernel_rfl) (by decide) (by kernel_rfl) (by kernel_rfl) (by kernel_rfl) (by kernel_rfl) (fun _ _ _ h => h) (Or.inl ⟨by rfl, fun w' hw' => by have c0 : w'.cell? ⟨lb, 3, none⟩ = some (.slice xa tx.length xc) := (by rw [(HAt.out w' hw').at]; rfl); clear hw'; go_simp⟩) HDr.out ?_
  simp only [Act.put, List.getElem_toArray, List.getElem_cons_succ, List.getElem_cons_zero, List.setIfInBounds_toArray, List.set_cons_zero, List.set_cons_succ]
  refine L_takeC [10] (i := 9) (v := .int .i64 (tx.length : Int)) rfl (by kernel_rfl) (by kernel_rfl) (by decide) (by kernel_rfl) (by kernel_rfl) (by kernel_rfl) (by kernel_rfl) (fun _ _ _ h => h) (Or.inl ⟨by rfl, fun w' hw' => by clear hw'; go_simp⟩) HDr.out ?_
  simp only [Act.put, List.getElem_toArray, List.getElem_cons_succ, List.getElem_cons_zero, List.setIfInBounds_toArray, List.set_cons_zero, List.set_cons_succ]
  refine L_one (i := 4) (by kernel_rfl) ?_
  refine wpOp_step rfl ?_
  intro K hK
  rw [if_pos (by rfl)]
  have hK' : Shut (∀ a w, _ → K a w) := hK
  clear hK
  go_wp2_with fail
  refine (HSz.out v2).mono ?_
  rintro e v5 ⟨rfl, hs5⟩
  have H5 : Hid (Below W.heap.size W v5) := HDr.out.trans (hs5.mono HDr.out.size)
  refine hK'.out _ _ ⟨H5.out, ?_⟩
  clear hK' K hs5 HSz HDr HAt
  try simp only [Act.put, List.getElem_toArray, List.getElem_cons_succ, List.getElem_cons_zero, List.setIfInBounds_toArray, List.set_cons_zero, List.set_cons_succ]
  refine L_go (by kernel_rfl) (by kernel_rfl) ?_
  refine wpOp_step rfl ?_
  intro K hK
  rw [if_pos (by rfl)]
  have hK' : Shut (∀ a w, _ → K a w) := hK
  clear hK
  go_wp2_with fail
  refine hK'.out _ _ ?_
  clear hK' K
  try simp only [Act.put, List.getElem_toArray, List.getElem_cons_succ, List.getElem_cons_zero, List.setIfInBounds_toArray, List.set_cons_zero, List.set_cons_succ]
  refine any_one (i := 11) (by kernel_rfl) ?_
  refine wpOp_step rfl ?_
  intro K hK
  rw [if_pos (by rfl)]
  have hK' : Shut (∀ a w, _ → K a w) := hK
  clear hK
  go_wp2_with fail
  refine hK'.out _ _ ?_
  clear hK' K
  refine wpAny_done (by kernel_rfl) ?_ _
  go_wp2
  go_ret
  exact ⟨rfl, H5.out⟩
end
end Go.Proofs.Ytijjegkkeigeoaa
