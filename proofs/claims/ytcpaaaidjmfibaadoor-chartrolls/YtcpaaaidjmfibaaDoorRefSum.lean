/-
  The contract of dayref1's Sum.
-/
import Derived.Test.YtcpaaaidjmfibaaDoorRefSmall
namespace Go.Proofs.YtcpaaaidjmfibaaDoor
set_option linter.unusedVariables false
open Go.RowKit Big

theorem rtake_sum (l : List Int) (k : Nat) (h : k < l.length) : (l.take (k + 1)).sum = (l.take k).sum + l.getD k 0 := by
  rw [List.take_succ_eq_append_getElem h, List.sum_append]
  simp [h]
theorem rsum_bound (l : List Int) (k : Nat) (h : k ≤ l.length) (hI : ∀ i, i < l.length → Math.I64 (l.getD i 0)) :
    -((k : Int) * 9223372036854775808) ≤ (l.take k).sum ∧ (l.take k).sum ≤ (k : Int) * 9223372036854775808 := by
  induction k with
  | zero => simp
  | succ k ih =>
    have := ih (by omega)
    have h2 := hI k (by omega)
    unfold Math.I64 at h2
    rw [rtake_sum l k (by omega)]
    omega

set_option maxHeartbeats 2000000 in
theorem refSum_run (b off cap n : Nat) (l : List Int) (w : World) (hn : l.length = n) (hlen : l.length ≤ 140737488355328) (hI : Hid (∀ i, i < l.length → Math.I64 (l.getD i 0)))
    (hc : Hid (∀ i, i < l.length → b < w.heap.size ∧ w.cell? ⟨b, off + i, none⟩ = some (.int .i64 (l.getD i 0)))) :
    Calls Tryd.prog 11 #[.slice (some ⟨b, off, none⟩) n cap] w fun e w' => e = .returned (.tuple #[.int .i64 (rV l.sum), .int .i64 (rE l.sum)]) ∧ Hid (w.grownBy w' none) := by
  subst hn
  go_enter Tryd.func11, Tryd.ntmps11
  go_wp2_with fail
  refine (big_any 0 w (by omega) (by omega)).mono ?_
  rintro e w0 ⟨rfl, hb0, hg0⟩
  have Hb0 : Hid (BigIs w0 w.heap.size 0 ∧ w.grownBy w0 none) := ⟨hb0, hg0⟩
  clear hb0 hg0
  go_wp2
  go_loopw [5] (fun ti wr => ∃ k : Nat, k ≤ l.length ∧ ti = .int .i64 k ∧ Hid (BigIs wr w.heap.size (l.take k).sum ∧ w.grownBy wr none ∧ w.heap.size < wr.heap.size)) (fun ti _ => l.length - (intOf ti).toNat)
  case atStart =>
    obtain ⟨_, _, _, hbb, _⟩ := Hb0.out.1
    exact ⟨0, Nat.zero_le _, rfl, by simpa using Hb0.out.1, Hb0.out.2, blk_lt hbb.blk⟩
  case round =>
    obtain ⟨k, hk, rfl, Hr⟩ := hrel
    by_cases hlt : k < l.length
    · have hck := Hr.out.2.1.cell (hc.out k hlt).2 (by simp)
      have hik := hI.out k hlt
      have hts := rtake_sum l k hlt
      have hbd := rsum_bound l k hk hI.out
      generalize l.getD k 0 = x at *
      generalize (l.take k).sum = s at *
      have Hts : Hid ((l.take (k + 1)).sum = s + x) := hts
      have Hbd : Hid (-1298074214633706907132624082305024 ≤ s ∧ s ≤ 1298074214633706907132624082305024) := by
        refine ⟨?_, ?_⟩ <;> omega
      have Hik : Hid (Math.I64 x) := hik
      clear hts hbd hik
      go_wp2_with fail
      refine (big_any x wr Hik.out.1 Hik.out.2).mono ?_
      rintro e w1 ⟨rfl, hb1, hg1⟩
      have Hx : Hid (BigIs w1 wr.heap.size x ∧ BigIs w1 w.heap.size s ∧ w.grownBy w1 none ∧ wr.grownBy w1 none) := by
        obtain ⟨nx, vx, lx, hbx, hsx⟩ := Hr.out.1
        have hblk := (hg1.block w.heap.size Hr.out.2.2 (by simp)).trans hbx.blk
        exact ⟨hb1, ⟨nx, vx, lx, ⟨hblk, hbx.wd.grow hg1, hbx.nrm, hbx.sgn⟩, hsx⟩, gtrans Hr.out.2.1 hg1, hg1⟩
      clear hb1 hg1
      go_wp2_with fail
      refine (addTo_any w.heap.size wr.heap.size s x w1 Hx.out.2.1 Hx.out.1 (by have := Hbd.out; omega) (by have := Hik.out; unfold Math.I64 at this; omega)).mono ?_
      rintro e w2 ⟨rfl, hR⟩
      have HR : Hid (BigIs w2 w.heap.size (l.take (k + 1)).sum ∧ w.grownBy w2 none ∧ w.heap.size < w2.heap.size) := by
        refine ⟨by rw [Hts.out]; exact hR.out.1, ?_, ?_⟩
        · have h1 := hR.out.2
          exact ⟨h1.os.trans Hx.out.2.2.1.os, h1.tape.trans Hx.out.2.2.1.tape, h1.output.trans Hx.out.2.2.1.output, Nat.le_trans Hx.out.2.2.1.size h1.size, fun i hi _ => (h1.block i (Nat.lt_of_lt_of_le hi Hx.out.2.2.1.size) (by simp; omega)).trans (Hx.out.2.2.1.block i hi (by simp))⟩
        · obtain ⟨_, _, _, hbb, _⟩ := hR.out.1
          exact blk_lt hbb.blk
      clear hR Hx Hr
      go_wp2
      go_roundw
      case rel => exact ⟨k + 1, by omega, by go_num, HR⟩
      case measure => simp [intOf]; omega
    · have hk2 : k = l.length := by omega
      subst hk2
      have hbd := rsum_bound l l.length (Nat.le_refl _) hI.out
      rw [List.take_length] at hbd
      have Hr' : Hid (BigIs wr w.heap.size l.sum ∧ w.grownBy wr none) := by
        have := Hr.out
        rw [List.take_length] at this
        exact ⟨this.1, this.2.1⟩
      have Hbd : Hid (-1298074214633706907132624082305024 ≤ l.sum ∧ l.sum ≤ 1298074214633706907132624082305024) := by
        refine ⟨?_, ?_⟩ <;> omega
      clear hbd Hr
      go_wp2_with fail
      refine (small_any w.heap.size l.sum wr Hr'.out.1 (by have := Hbd.out; omega) (by have := Hbd.out; omega)).mono ?_
      rintro e w1 ⟨rfl, hw⟩
      rw [hw]; clear hw w1
      go_wp2
      go_ret2
      exact ⟨rfl, Hr'.out.2⟩
end Go.Proofs.YtcpaaaidjmfibaaDoor
