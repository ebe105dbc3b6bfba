/-
  The contracts of quarterdaybig's trim and small, with where what they give lies.
-/
import Derived.Test.YtikifooomeikgaaGreatDoorWBig14
namespace Go.Proofs.YtikifooomeikgaaGreatDoor
set_option linter.unusedVariables false
set_option linter.unusedSimpArgs false
open Go.RowKit Big

set_option maxHeartbeats 1000000 in
theorem trim_at (b off cap : Nat) (l : List Nat) (w : World) (h : Wd w (.slice (some ⟨b, off, none⟩) l.length cap) l) (h0 : 0 < l.length) :
    Calls Tryz.prog 65 #[.slice (some ⟨b, off, none⟩) l.length cap] w fun e w' => e = .returned (.slice (some ⟨b, off, none⟩) (tl l l.length) cap) ∧ Wd w (.slice (some ⟨b, off, none⟩) (tl l l.length) cap) (l.take (tl l l.length)) ∧ w' = w := by
  have hlen := h.len
  obtain ⟨hcap, hc⟩ : l.length ≤ cap ∧ ∀ i, i < l.length → w.cell? ⟨b, off + i, none⟩ = some (.int .u32 (l.getD i 0 : Nat)) := by
    rcases h.at_ with ⟨h1, _⟩ | ⟨_, b', off', cap', e, _, hcap, hc⟩
    · rw [h1] at h0; simp at h0
    · cases e; exact ⟨hcap, hc⟩
  have Hc : Hid (∀ i, i < l.length → w.cell? ⟨b, off + i, none⟩ = some (.int .u32 (l.getD i 0 : Nat))) := hc
  have Ho : Hid (Ok l) := h.ok
  have Hr : Hid (Wd w (.slice (some ⟨b, off, none⟩) l.length cap) l) := h
  clear hc h
  go_enter Tryz.func65, Tryz.ntmps65
  go_wp2
  go_loop [3] (fun n => ∃ k : Nat, k ≤ l.length ∧ n = .int .i64 k ∧ Hid (tl l k = tl l l.length)) (fun n => (intOf n).toNat)
  case atStart => exact ⟨l.length, Nat.le_refl _, rfl, rfl⟩
  case round =>
    obtain ⟨k, hk, rfl, Hk⟩ := hrel
    cases k with
    | zero =>
      go_wp2
      go_ret
      refine ⟨by rw [← Hk.out]; rfl, ?_, rfl⟩
      rw [← Hk.out]
      exact wd_take Hr.out 0 (by omega)
    | succ j =>
      have hcj := Hc.out j (by omega)
      by_cases hz : l.getD j 0 = 0
      · rw [hz] at hcj
        have Hk2 : Hid (tl l j = tl l l.length) := by
          have := Hk.out; rw [tl_zero l j hz] at this; exact this
        clear Hk hz
        go_wp2
        go_round
        case rel => exact ⟨j, by omega, by go_num, Hk2⟩
        case measure => simp [intOf]
      · have hb1 := Ho.out j (by omega)
        have Hk2 : Hid (j + 1 = tl l l.length) := by
          have := Hk.out; rw [tl_pos l j hz] at this; exact this
        generalize l.getD j 0 = x at *
        have hx : ((x : Int) == 0) = false := by simp; omega
        go_wp2
        go_ret
        refine ⟨by rw [← Hk2.out]; rfl, ?_, rfl⟩
        rw [← Hk2.out]
        exact wd_take Hr.out (j + 1) hk

set_option maxHeartbeats 2000000 in
theorem small_at (va : Value) (a : List Nat) (d : Nat) (w : World) (ha : Wd w va a) (hd : 0 < d) (hd2 : d < 4294967296) (hlen : a.length < 35184372088832) (h0 : 0 < a.length) :
    Calls Tryz.prog 51 #[va, .int .u32 (d : Int)] w fun e w' => ∃ l cap, e = .returned (.tuple #[.slice (some ⟨w.heap.size, 0, none⟩) l.length cap, .int .u32 ((val a % d : Nat) : Int)]) ∧ Wd w' (.slice (some ⟨w.heap.size, 0, none⟩) l.length cap) l ∧ Nrm l ∧ val l = val a / d ∧ l.length ≤ a.length ∧ w.grownBy w' none := by
  obtain ⟨aa, ca, rfl, la, Oa, Fa⟩ := ha.form
  clear ha la
  have hmk := fun w => run_make_row' (P := Tryz.prog) 45 82 (.int .u32 0) 4 Tryz.underlying45 Tryz.infoW rfl .i64 .i64 a.length (by omega) (by omega) w
  have hdz : ((d : Int) == 0) = false := by simp; omega
  have hdp : (0 : Int) < d := by omega
  have hd3 : (d : Int) < 4294967296 := by omega
  go_enter Tryz.func51, Tryz.ntmps51
  go_wp2
  clear hmk
  go_loopw [7, 8] (fun tr ti wr => ∃ m r : Nat, ∃ q : List Nat, m ≤ a.length ∧ (r : Int) < d ∧ tr = .int .u64 r ∧ ti = .int .i64 ((m : Int) - 1) ∧ q.length = a.length ∧ Hid (RowAt wr w.heap.size q) ∧ Hid (Ok q) ∧ Hid (w.grownBy wr none) ∧ Hid (val (q.drop m) = val (a.drop m) / d ∧ r = val (a.drop m) % d)) (fun _ ti _ => (intOf ti + 1).toNat)
  case atStart =>
    refine ⟨a.length, 0, List.replicate a.length 0, Nat.le_refl _, by omega, rfl, rfl, by simp, ?_, ok_replicate _, World.grownBy_alloc _ _ _, ?_⟩
    · show (w.alloc _).heap[w.heap.size]? = _
      rw [alloc_blk, made_row]
    · refine ⟨?_, ?_⟩
      · rw [List.drop_of_length_le (by simp), List.drop_length]; simp [val]
      · rw [List.drop_length]; simp [val]
  case round =>
    obtain ⟨m, r, q, hm, hr, rfl, rfl, hq, Hrow, Hok, Hg, Hv⟩ := hrel
    cases m with
    | succ j =>
      rw [show ((j + 1 : Nat) : Int) - 1 = (j : Int) by omega]
      obtain ⟨ba, oa, rfl, hba, hca⟩ := Fa.out (by omega)
      have hxa := (Hg.out.cell (hca j (by omega)) (by simp))
      have hxb := Oa.out j (by omega)
      have S := small_step a q j d r hd (by omega) (by omega) Hv.out.1 Hv.out.2
      have rc := row_cell Hrow.out (i := j) (by omega)
      have rf := row_frozen Hrow.out j
      generalize a.getD j 0 = x at *
      generalize q.getD j 0 = z at *
      have e1 : (r : Int) * 4294967296 = ((r * 4294967296 : Nat) : Int) := by omega
      have e2 := or_word' r x (by omega) hxb
      have b1 : (r * 4294967296 + x) / d < 4294967296 := by
        rw [Nat.div_lt_iff_lt_mul hd]
        have : (r + 1) * 4294967296 ≤ d * 4294967296 := Nat.mul_le_mul_right _ (by omega)
        omega
      have b2 : (r * 4294967296 + x) % d < d := Nat.mod_lt _ hd
      have b3 := (shl_lt r x (by omega) hxb).1
      have b4 := (shl_lt r x (by omega) hxb).2
      obtain ⟨s, hs⟩ : ∃ s, s = r * 4294967296 := ⟨_, rfl⟩
      rw [← hs] at e1 e2 S b1 b2 b3 b4
      obtain ⟨t, ht⟩ : ∃ t, t = s + x := ⟨_, rfl⟩
      rw [← ht] at e2 S b1 b2 b3
      have e3 : (t : Int) / d = ((t / d : Nat) : Int) := by rw [Int.natCast_ediv]
      have e4 : (t : Int) % d = ((t % d : Nat) : Int) := by rw [Int.natCast_emod]
      generalize t / d = qd at *
      generalize t % d = rd at *
      have HS : Hid (val ((q.set j qd).drop j) = val (a.drop j) / d ∧ rd = val (a.drop j) % d) := S
      have i1 : (x : Int) < 4294967296 := by omega
      have i2 : (t : Int) < 18446744073709551616 := by omega
      have i3 : (s : Int) < 18446744073709551616 := by omega
      have i4 : (qd : Int) < 4294967296 := by omega
      have i5 : (j : Int) < a.length := by omega
      have B1 : Hid (qd < 4294967296) := b1
      have B2 : Hid (rd < d) := b2
      clear S hca Hv hxb hs ht b1 b2 b3 b4
      go_wp2
      go_roundw
      case rel => exact ⟨j, rd, q.set j qd, by omega, by have := B2.out; omega, by rw [e4], by go_num, by simpa using hq, row_set Hrow.out j qd, ok_set Hok.out j qd B1.out, gset Hg.out (Nat.le_refl _) _, HS⟩
      case measure => simp [intOf]
    | zero =>
      have hV := Hv.out
      simp only [List.drop_zero] at hV
      have Hnew : Hid (Wd wr (.slice (some ⟨w.heap.size, 0, none⟩) a.length a.length) q) := by
        have := row_wd Hrow.out Hok.out (by omega) a.length (by omega)
        rw [hq] at this
        exact this
      have HV : Hid (val q = val a / d ∧ r = val a % d) := hV
      clear Hv Hrow Hok hV
      have i1 : (r : Int) < 4294967296 := by omega
      go_wp2_with fail
      have hTr := trim_at w.heap.size 0 a.length q wr (by rw [hq]; exact Hnew.out) (by omega)
      rw [hq] at hTr
      refine hTr.mono ?_
      rintro e w' ⟨rfl, hv, hw⟩
      rw [hw]; clear hw w' Hnew hTr
      have hlt : (q.take (tl q a.length)).length = tl q a.length := by rw [List.length_take, Nat.min_eq_left]; have := tl_le q a.length; omega
      have R : Hid (Wd wr (.slice (some ⟨w.heap.size, 0, none⟩) (tl q a.length) a.length) (q.take (tl q a.length)) ∧ Nrm (q.take (tl q a.length)) ∧ val (q.take (tl q a.length)) = val a / d) := by
        refine ⟨hv, nrm_tl _ _ (by omega), ?_⟩
        rw [val_tl _ _ (by omega), ← hq, List.take_length]
        exact HV.out.1
      have Htl : Hid (tl q a.length ≤ a.length) := tl_le q a.length
      clear hv
      go_wp2
      go_ret2
      exact ⟨_, _, by rw [← HV.out.2, hlt]; rfl, by rw [hlt]; exact R.out.1, R.out.2.1, R.out.2.2, by rw [hlt]; exact Htl.out, Hg.out⟩
end Go.Proofs.YtikifooomeikgaaGreatDoor
