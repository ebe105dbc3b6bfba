/-
  The contract of a head's bytes.
-/
import Derived.Test.YtidccclfngcpgaaSt2
namespace Go.Proofs.Ytidccclfngcpgaa
set_option linter.unusedVariables false
set_option linter.unusedSimpArgs false
set_option maxRecDepth 100000
open Go.RowKit Go.Lib
set_option maxHeartbeats 4000000 in
theorem bytes_any (h : Hd) (w : World) (k : h.ok) : Calls Try.prog 26 #[.agg h.cells.toArray] w fun e w' => ∃ v, e = .returned v ∧ Hid (ByRow w' w.heap.size v (hdB h)) ∧ Hid (Below w.heap.size w w') := by
  obtain ⟨w0, hw0⟩ : ∃ w0, w.alloc (.cells h.cells.toArray 50) = w0 := ⟨_, rfl⟩
  have hb0 : w0.heap[w.heap.size]? = some (.cells h.cells.toArray 50 (0, 0)) := by rw [← hw0]; exact new_heap w _
  have hs0 : w0.heap.size = w.heap.size + 1 := by rw [← hw0]; simp
  have B0 : Below w.heap.size w w0 := by rw [← hw0]; exact (Below.refl _ w).alloc (Nat.le_refl _) _
  have HC : Hid (∀ W : World, W.heap[w.heap.size]? = w0.heap[w.heap.size]? → W.cell? ⟨w.heap.size, 1, none⟩ = some (.int .u8 (h.turn.toNat : Int)) ∧ W.cell? ⟨w.heap.size, 2, none⟩ = some (.int .i64 (h.ver : Int)) ∧ IsBy W (some ⟨w.heap.size, 3, none⟩) h.whr 40) := fun W hW => by
    have hb := hW.trans hb0
    refine ⟨by rw [cell_of_row W _ _ _ _ (0, 0) hb]; rfl, by rw [cell_of_row W _ _ _ _ (0, 0) hb]; rfl, ⟨by rw [k.w]; exact Nat.le_refl _, .inr ⟨w.heap.size, 3, rfl, (Array.getElem?_eq_some_iff.1 hb).1, fun j hj => ?_⟩⟩⟩
    rw [cell_of_row W _ _ _ _ (0, 0) hb, List.getElem?_toArray]
    unfold Hd.cells
    rw [show 3 + j = ((j + 1) + 1) + 1 by omega, List.getElem?_cons_succ, List.getElem?_cons_succ, List.getElem?_cons_succ, byC_get _ _ hj]
  obtain ⟨c1, _, _⟩ := HC.out w0 rfl
  have HB0 : Hid (Below w.heap.size w w0) := B0
  have hcv := run_convert_bytes_const (P := Try.prog) w0 33 5 (byC markB).toArray 8 8 Try.underlying33 Try.underlying5
  rw [hs0] at hcv
  have hv := k.v
  have hw40 := k.w
  have HK : Hid h.ok := k
  clear hb0 B0 k
  go_enter Try.func26, Try.ntmps26
  obtain ⟨wm, hwm⟩ : ∃ wm, w0.alloc (.cells (byC markB).toArray 5 ((byC markB).toArray.size, (byC markB).toArray.size + 1)) = wm := ⟨_, rfl⟩
  have Bm : Below w0.heap.size w0 wm := by rw [← hwm]; exact (Below.refl _ w0).alloc (Nat.le_refl _) _
  have hsm : wm.heap.size = w.heap.size + 2 := by rw [← hwm]; simp [hs0]
  have Hmk : Hid (∀ W : World, Below wm.heap.size wm W → ∀ k (h : k < markB.length), W.cell? ⟨w.heap.size + 1, k, none⟩ = some (.int .u8 (markB[k]'h).toNat)) := fun W hW k hk => by
    rw [hW.cell (p := ⟨w.heap.size + 1, k, none⟩) (by rw [hsm]; exact Nat.lt_succ_self _), ← hwm, cell_of_row _ _ _ _ _ ((byC markB).toArray.size, (byC markB).toArray.size + 1) (by rw [← hs0]; exact new_heap w0 _), List.getElem?_toArray, byC_get markB k hk]
  have c1m : wm.cell? ⟨w.heap.size, 1, none⟩ = some (.int .u8 (h.turn.toNat : Int)) := (Bm.cell (p := ⟨w.heap.size, 1, none⟩) (by rw [hs0]; exact Nat.lt_succ_self _)).trans c1
  rw [hwm] at hcv
  rw [show (byC markB).toArray = #[.int .u8 113, .int .u8 100, .int .u8 32, .int .u8 112, .int .u8 97, .int .u8 103, .int .u8 101, .int .u8 115] from rfl] at hcv
  have HBm : Hid (Below w0.heap.size w0 wm) := Bm
  clear hwm Bm
  go_wp2_with (first | (at_builtin; refine wpList_appFull rfl (.tmp 6) (.tmp 9) rfl w.heap.size (w.heap.size + 1) markB (w.heap.size + 2) [h.turn] 1 8 1 (by rfl) (by rfl) rfl rfl ?c1 ?c2 Nat.zero_lt_one ?c3 (by show 8 + 1 ≤ 1000; decide) (by show Builtin.nextslicecap (8 + 1) 8 * 1 ≤ 281474976710656; decide) ?_))
  case c1 => exact Hmk.out _ ((Below.refl _ wm).alloc (Nat.le_refl _) _)
  case c2 =>
    intro k hk
    have := (isBy_new wm [h.turn]).lies
    rcases this with e | ⟨b, off, e, _, hc⟩
    · cases e
    · cases e
      have := hc k hk
      rw [Nat.zero_add, hsm] at this
      exact this
  case c3 => simp [hsm]; omega
  intro v1 w1 hr1 hb1 ho1
  have Bt : Below wm.heap.size wm (wm.alloc (.cells #[.int .u8 (h.turn.toNat : Int)] 5)) := (Below.refl _ wm).alloc (Nat.le_refl _) _
  have hst : (wm.alloc (.cells #[.int .u8 (h.turn.toNat : Int)] 5)).heap.size = w.heap.size + 3 := by simp [hsm]
  have HE1 : Hid (ByRow w1 (w.heap.size + 1) v1 ((markB ++ [h.turn]) ++ (verB h.ver).take 0) ∧ Below w.heap.size w w1 ∧ w1.heap[w.heap.size]? = w0.heap[w.heap.size]? ∧ w.heap.size + 1 ≤ w1.heap.size) := by
    have hob := hb1.size
    rw [hst] at hob
    have hb1 : Below (w.heap.size + 3) (wm.alloc (.cells #[.int .u8 (h.turn.toNat : Int)] 5)) w1 := by simpa [hsm] using hb1
    rw [hsm] at Bt
    have hBm := HBm.out
    rw [hs0] at hBm
    refine ⟨?_, ?_, ?_, by omega⟩
    · rw [List.take_zero, List.append_nil]
      obtain ⟨hlen, ⟨rfl, h0⟩ | ⟨g, cap, cur, rfl, hb, r⟩⟩ := hr1
      · cases ho1
      · cases ho1
        refine ⟨hlen, .inr ⟨_, cap, cur, rfl, ?_, r⟩⟩
        show w.heap.size + 1 ≤ w.heap.size + 2 + 1; omega
    · exact HB0.out.trans (((hBm.mono (by omega)).trans (Bt.mono (by omega))).trans (hb1.mono (by omega)))
    · rw [hb1.block _ (by omega), Bt.block _ (by omega), hBm.block _ (by omega)]
  clear hr1 hb1 ho1 Bt hst c1m hcv Hmk HBm c1
  go_wp2
  go_loopw [3, 4] (fun v sh wr => ∃ i : Nat, i ≤ 8 ∧ sh = .int .i64 (56 - 8 * (i : Int)) ∧ Hid (ByRow wr (w.heap.size + 1) v ((markB ++ [h.turn]) ++ (verB h.ver).take i) ∧ Below w.heap.size w wr ∧ wr.heap[w.heap.size]? = w0.heap[w.heap.size]? ∧ w.heap.size + 1 ≤ wr.heap.size)) (fun _ sh _ => (intOf sh + 8).toNat)
  case atStart => exact ⟨0, by omega, rfl, HE1⟩
  case round =>
    obtain ⟨i, hi, rfl, H⟩ := hrel
    by_cases hlt : i < 8
    · obtain ⟨r1, r2, r3, r4⟩ := H.out
      obtain ⟨_, c2, _⟩ := HC.out wr r3
      have i0 : (0 : Int) ≤ i := by omega
      have i1 : (i : Int) < 8 := by omega
      have hsh : (0 : Int) ≤ 56 - 8 * (i : Int) := by omega
      have hsh2 : 56 - 8 * (i : Int) ≤ 56 := by omega
      have HR : Hid (ByRow wr (w.heap.size + 1) _ ((markB ++ [h.turn]) ++ (verB h.ver).take i)) := r1
      have Hrest : Hid (Below w.heap.size w wr ∧ wr.heap[w.heap.size]? = w0.heap[w.heap.size]?) := ⟨r2, r3⟩
      have hvt := verB_take h.ver i hlt
      have hby : ((UInt8.ofNat (h.ver / 2 ^ (56 - 8 * i))).toNat : Int) = (h.ver : Int) / 2 ^ (56 - 8 * i) % 256 := by
        rw [UInt8.toNat_ofNat', show (2 : Int) ^ (56 - 8 * i) = ((2 ^ (56 - 8 * i) : Nat) : Int) by simp, ← Int.natCast_ediv]
        omega
      have Hvt : Hid ((verB h.ver).take (i + 1) = (verB h.ver).take i ++ [UInt8.ofNat (h.ver / 2 ^ (56 - 8 * i))] ∧ ((UInt8.ofNat (h.ver / 2 ^ (56 - 8 * i))).toNat : Int) = (h.ver : Int) / 2 ^ (56 - 8 * i) % 256) := ⟨hvt, hby⟩
      have Htl : Hid (((markB ++ [h.turn]) ++ (verB h.ver).take i).length ≤ 100) := by
        unfold Hid
        simp [markB, verB_length]
        omega
      clear H r1 r2 r3 hvt hby
      go_wp2_with (at_builtin; refine wpList_appB rfl (.tmp 15) (.tmp 21) rfl (w.heap.size + 1) _ ((markB ++ [h.turn]) ++ (verB h.ver).take i) (some ⟨wr.heap.size, 0, none⟩) [UInt8.ofNat (h.ver / 2 ^ (56 - 8 * i))] 1 1 (by rfl) (by rfl) rfl (HR.out.below ((Below.refl _ wr).alloc (Nat.le_refl _) _)) ?c2 (.inr (by simp)) ?c3 ?c4 ?_)
      case c2 =>
        have := isBy_new wr [UInt8.ofNat (h.ver / 2 ^ (56 - 8 * i))]
        rw [show (byC [UInt8.ofNat (h.ver / 2 ^ (56 - 8 * i))]).toArray = #[.int .u8 ((h.ver : Int) / 2 ^ (56 - 8 * i) % 256)] by rw [← Hvt.out.2]; rfl] at this
        exact this
      case c3 => simp; omega
      case c4 => have := Htl.out; simp at this ⊢; omega
      intro v2 w2 hr2 hb2 ho2
      have HE2 : Hid (ByRow w2 (w.heap.size + 1) v2 ((markB ++ [h.turn]) ++ (verB h.ver).take (i + 1)) ∧ Below w.heap.size w w2 ∧ w2.heap[w.heap.size]? = w0.heap[w.heap.size]? ∧ w.heap.size + 1 ≤ w2.heap.size) := by
        refine ⟨by rw [Hvt.out.1, ← List.append_assoc]; exact hr2, ?_, ?_, ?_⟩
        · exact (Hrest.out.1.alloc Hrest.out.1.size _).trans (hb2.mono (Nat.le_succ _))
        · rw [hb2.block _ (Nat.lt_succ_self _), Below.heap_alloc _ _ _ (by omega)]
          exact Hrest.out.2
        · have := hb2.size; simp at this; omega
      clear hr2 hb2 ho2 HR Hrest Hvt Htl
      go_wp2
      go_roundw
      case rel => exact ⟨i + 1, by omega, by first | (congr 1; omega) | go_num, HE2⟩
      case measure => simp [intOf]; omega
    · have ei : i = 8 := by omega
      subst ei
      obtain ⟨r1, r2, r3, r4⟩ := H.out
      obtain ⟨_, _, hw⟩ := HC.out wr r3
      have HR : Hid (ByRow wr (w.heap.size + 1) _ ((markB ++ [h.turn]) ++ (verB h.ver).take 8)) := r1
      have HW : Hid (IsBy wr (some ⟨w.heap.size, 3, none⟩) h.whr 40) := hw
      have Hrest : Hid (Below w.heap.size w wr) := r2
      clear H r1 r2 r3 hw
      go_wp2_with (at_builtin; refine wpList_appB rfl (.tmp 23) (.tmp 25) rfl (w.heap.size + 1) _ ((markB ++ [h.turn]) ++ (verB h.ver).take 8) (some ⟨w.heap.size, 3, none⟩) h.whr 40 40 (by rfl) (by rfl) hw40 HR.out HW.out (.inr (by simp)) ?c3 ?c4 ?_)
      case c3 => omega
      case c4 => simp [markB, verB_length, hw40]
      intro v2 w2 hr2 hb2 ho2
      have HE2 : Hid (ByRow w2 w.heap.size v2 (hdB h) ∧ Below w.heap.size w w2) := by
        refine ⟨?_, Hrest.out.trans (hb2.mono (Nat.le_succ _))⟩
        rw [List.take_of_length_le (by rw [verB_length]; exact Nat.le_refl _)] at hr2
        obtain ⟨hlen, hr | ⟨g, cap, cur, e, hb, r⟩⟩ := hr2
        · exact ⟨hlen, .inl hr⟩
        · exact ⟨hlen, .inr ⟨g, cap, cur, e, by omega, r⟩⟩
      clear hr2 hb2 ho2 HR HW Hrest
      go_wp2
      go_ret
      exact ⟨_, rfl, HE2.out.1, HE2.out.2⟩
end Go.Proofs.Ytidccclfngcpgaa
