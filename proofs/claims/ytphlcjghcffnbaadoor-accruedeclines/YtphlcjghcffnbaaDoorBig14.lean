/-
  The contracts of quarterdaybig's plain and small, and of the method Sign: short numbers, and the division by one word.
-/
import Derived.Test.YtphlcjghcffnbaaDoorBig10
import Derived.Test.YtphlcjghcffnbaaDoorBig5
namespace Go.Proofs.YtphlcjghcffnbaaDoor
set_option linter.unusedVariables false
open Go.RowKit Big

set_option maxHeartbeats 1000000 in
theorem plain_any (v : Value) (l : List Nat) (w : World) (h : Wd w v l) (hl : l.length ≤ 2) :
    Calls Tryd.prog 56 #[v] w fun e w' => e = .returned (.int .u64 (val l : Nat)) ∧ w' = w := by
  have ho := h.ok
  rcases h.at_ with ⟨h0, a, cap, hv⟩ | ⟨h0, b, off, cap, hv, hb, hcap, hc⟩
  · subst h0; subst hv
    clear h ho
    go_enter Tryd.func56, Tryd.ntmps56
    go_wp2
    go_ret
    exact ⟨rfl, rfl⟩
  · subst hv
    match l, h0, hl with
    | [x0], _, _ =>
      have k0 : w.cell? ⟨b, off, none⟩ = some (.int .u32 (x0 : Nat)) := by first | (simp; done) | simpa using hc 0 (by simp)
      have b0 : x0 < 4294967296 := by simpa using ho 0 (by simp)
      have b0' : (x0 : Int) < 4294967296 := by omega
      have E : Hid (val [x0] = x0) := by simp [Hid, val]
      show Calls _ _ #[.slice (some ⟨b, off, none⟩) 1 cap] _ _
      clear h ho hc b0
      go_enter Tryd.func56, Tryd.ntmps56
      go_wp2
      go_ret
      exact ⟨by rw [E.out]; rfl, rfl⟩
    | [x0, x1], _, _ =>
      have k0 : w.cell? ⟨b, off, none⟩ = some (.int .u32 (x0 : Nat)) := by first | (simp; done) | simpa using hc 0 (by simp)
      have k1 : w.cell? ⟨b, off + 1, none⟩ = some (.int .u32 (x1 : Nat)) := by simpa using hc 1 (by simp)
      have b0 : x0 < 4294967296 := by simpa using ho 0 (by simp)
      have b1 : x1 < 4294967296 := by simpa using ho 1 (by simp)
      have e1 : (x1 : Int) * 4294967296 = ((x1 * 4294967296 : Nat) : Int) := by omega
      have e2 := or_word x0 x1 b0 b1
      have E : Hid (val [x0, x1] = x0 + 4294967296 * x1) := by simp [Hid, val]
      have b0' : (x0 : Int) < 4294967296 := by omega
      have b1' : (x1 : Int) < 4294967296 := by omega
      generalize x1 * 4294967296 = s at *
      generalize x0 + 4294967296 * x1 = t at *
      show Calls _ _ #[.slice (some ⟨b, off, none⟩) 2 cap] _ _
      clear h ho hc b0 b1
      go_enter Tryd.func56, Tryd.ntmps56
      go_wp2
      go_ret
      exact ⟨by rw [E.out]; rfl, rfl⟩

/-- The sign of a number. -/
def sgnV (neg : Bool) (n : Nat) : Int := if n = 0 then 0 else if neg then -1 else 1

theorem sign_any (p : Nat) (neg : Bool) (v : Value) (l : List Nat) (w : World) (h : IsBig w p neg v l) :
    Calls Tryd.prog 14 #[.pointer (some ⟨p, 0, none⟩)] w fun e w' => e = .returned (.int .i64 (sgnV neg (val l))) ∧ w' = w := by
  have c0 := blk_cell0 h.blk
  have c1 := blk_cell1 h.blk
  obtain ⟨a, cap, hv⟩ := h.wd.slice
  have hz : val l = 0 ↔ l.length = 0 := (val_zero h.nrm).trans ⟨fun e => by rw [e]; rfl, List.eq_nil_of_length_eq_zero⟩
  have hlen := h.wd.len
  subst hv
  clear h
  generalize val l = m at *
  generalize l.length = n at *
  by_cases hn : n = 0
  · have E : Hid (sgnV neg m = 0) := by unfold Hid sgnV; rw [if_pos (hz.2 hn)]
    subst hn
    clear hz
    go_enter Tryd.func14, Tryd.ntmps14
    go_wp2
    go_ret
    exact ⟨by rw [E.out]; rfl, rfl⟩
  · have t1 : ((n : Int) == 0) = false := by simp; omega
    have E : Hid (sgnV neg m = if neg then -1 else 1) := by unfold Hid sgnV; rw [if_neg (fun e => hn (hz.1 e))]
    clear hz
    cases neg
    · go_enter Tryd.func14, Tryd.ntmps14
      go_wp2
      go_ret
      exact ⟨by rw [E.out]; rfl, rfl⟩
    · go_enter Tryd.func14, Tryd.ntmps14
      go_wp2
      go_ret
      exact ⟨by rw [E.out]; rfl, rfl⟩

theorem val_drop (l : List Nat) (j : Nat) (h : j < l.length) : val (l.drop j) = l.getD j 0 + 4294967296 * val (l.drop (j + 1)) := by
  have h2 : l.drop j = l.getD j 0 :: l.drop (j + 1) := by rw [List.drop_eq_getElem_cons h]; simp [h]
  rw [h2]; rfl

/-- A round of the division by one word. -/
theorem small_step (a q : List Nat) (j d r : Nat) (hd : 0 < d) (ha : j < a.length) (hq : j < q.length) (hv : val (q.drop (j + 1)) = val (a.drop (j + 1)) / d) (hr : r = val (a.drop (j + 1)) % d) :
    val ((q.set j ((r * 4294967296 + a.getD j 0) / d)).drop j) = val (a.drop j) / d ∧ (r * 4294967296 + a.getD j 0) % d = val (a.drop j) % d := by
  have e1 := val_drop a j ha
  have e2 := val_drop (q.set j ((r * 4294967296 + a.getD j 0) / d)) j (by simpa using hq)
  have e5 : (q.set j ((r * 4294967296 + a.getD j 0) / d)).drop (j + 1) = q.drop (j + 1) := List.drop_set_of_lt (by omega)
  rw [getD_set_same q j _ hq, e5, hv] at e2
  have e3 := Nat.div_add_mod (val (a.drop (j + 1))) d
  rw [← hr] at e3
  generalize val (a.drop (j + 1)) / d = Q at *
  generalize val (a.drop (j + 1)) = V at *
  generalize a.getD j 0 = x at *
  have e4 : x + 4294967296 * V = r * 4294967296 + x + d * (4294967296 * Q) := by
    rw [← e3, Nat.mul_add, ← Nat.mul_assoc, Nat.mul_comm 4294967296 d, Nat.mul_assoc]
    omega
  rw [e1, e2, e4, Nat.add_mul_div_left _ _ hd, Nat.add_mul_mod_self_left]
  exact ⟨rfl, rfl⟩

theorem or_word' (r x : Nat) (h0 : r < 4294967296) (h1 : x < 4294967296) : bits .or .u64 ((r * 4294967296 : Nat) : Int) (x : Int) = ((r * 4294967296 + x : Nat) : Int) := by
  rw [bits_or_u64_nat _ _ (by omega) (by omega)]
  have := Nat.two_pow_add_eq_or_of_lt (i := 32) (b := x) (by omega) r
  rw [Nat.mul_comm r 4294967296]
  exact congrArg _ this.symm

theorem shl_lt (r x : Nat) (hr : r < 4294967296) (hx : x < 4294967296) : r * 4294967296 + x < 18446744073709551616 ∧ r * 4294967296 < 18446744073709551616 := by omega

set_option maxHeartbeats 2000000 in
theorem small_div (va : Value) (a : List Nat) (d : Nat) (w : World) (ha : Wd w va a) (hd : 0 < d) (hd2 : d < 4294967296) (hlen : a.length < 35184372088832) :
    Calls Tryd.prog 57 #[va, .int .u32 (d : Int)] w fun e w' => ∃ v l, e = .returned (.tuple #[v, .int .u32 ((val a % d : Nat) : Int)]) ∧ Wd w' v l ∧ Nrm l ∧ val l = val a / d ∧ w.grownBy w' none := by
  obtain ⟨aa, ca, rfl, la, Oa, Fa⟩ := ha.form
  clear ha la
  have hmk := fun w => run_make_row' (P := Tryd.prog) 38 61 (.int .u32 0) 4 Tryd.underlying38 Tryd.infoW rfl .i64 .i64 a.length (by omega) (by omega) w
  have hdz : ((d : Int) == 0) = false := by simp; omega
  have hdp : (0 : Int) < d := by omega
  have hd3 : (d : Int) < 4294967296 := by omega
  go_enter Tryd.func57, Tryd.ntmps57
  go_wp2
  clear hmk
  go_loopw [7, 8] (fun tr ti wr => ∃ m r : Nat, ∃ q : List Nat, m ≤ a.length ∧ (r : Int) < d ∧ tr = .int .u64 r ∧ ti = .int .i64 ((m : Int) - 1) ∧ q.length = a.length ∧ Hid (RowAt wr w.heap.size q) ∧ Hid (Ok q) ∧ Hid (w.grownBy wr none) ∧ Hid (val (q.drop m) = val (a.drop m) / d ∧ r = val (a.drop m) % d)) (fun _ ti _ => (intOf ti + 1).toNat)
  case atStart =>
    refine ⟨a.length, 0, List.replicate a.length 0, Nat.le_refl _, by omega, rfl, rfl, by simp, ?_, ok_replicate _, World.grownBy_alloc _ _ _, ?_⟩
    · show (w.alloc _).heap[w.heap.size]? = _
      rw [alloc_blk, made_row]
    · refine ⟨?_, ?_⟩
      · rw [List.drop_of_length_le (by simp), List.drop_length]; simp [val]
      · rw [List.drop_length]; simp [val]
  case round =>
    obtain ⟨m, r, q, hm, hr, rfl, rfl, hq, Hrow, Hok, Hg, Hv⟩ := hrel
    cases m with
    | succ j =>
      rw [show ((j + 1 : Nat) : Int) - 1 = (j : Int) by omega]
      obtain ⟨ba, oa, rfl, hba, hca⟩ := Fa.out (by omega)
      have hxa := (Hg.out.cell (hca j (by omega)) (by simp))
      have hxb := Oa.out j (by omega)
      have S := small_step a q j d r hd (by omega) (by omega) Hv.out.1 Hv.out.2
      have rc := row_cell Hrow.out (i := j) (by omega)
      have rf := row_frozen Hrow.out j
      generalize a.getD j 0 = x at *
      generalize q.getD j 0 = z at *
      have e1 : (r : Int) * 4294967296 = ((r * 4294967296 : Nat) : Int) := by omega
      have e2 := or_word' r x (by omega) hxb
      have b1 : (r * 4294967296 + x) / d < 4294967296 := by
        rw [Nat.div_lt_iff_lt_mul hd]
        have : (r + 1) * 4294967296 ≤ d * 4294967296 := Nat.mul_le_mul_right _ (by omega)
        omega
      have b2 : (r * 4294967296 + x) % d < d := Nat.mod_lt _ hd
      have b3 := (shl_lt r x (by omega) hxb).1
      have b4 := (shl_lt r x (by omega) hxb).2
      obtain ⟨s, hs⟩ : ∃ s, s = r * 4294967296 := ⟨_, rfl⟩
      rw [← hs] at e1 e2 S b1 b2 b3 b4
      obtain ⟨t, ht⟩ : ∃ t, t = s + x := ⟨_, rfl⟩
      rw [← ht] at e2 S b1 b2 b3
      have e3 : (t : Int) / d = ((t / d : Nat) : Int) := by rw [Int.natCast_ediv]
      have e4 : (t : Int) % d = ((t % d : Nat) : Int) := by rw [Int.natCast_emod]
      generalize t / d = qd at *
      generalize t % d = rd at *
      have HS : Hid (val ((q.set j qd).drop j) = val (a.drop j) / d ∧ rd = val (a.drop j) % d) := S
      have i1 : (x : Int) < 4294967296 := by omega
      have i2 : (t : Int) < 18446744073709551616 := by omega
      have i3 : (s : Int) < 18446744073709551616 := by omega
      have i4 : (qd : Int) < 4294967296 := by omega
      have i5 : (j : Int) < a.length := by omega
      have B1 : Hid (qd < 4294967296) := b1
      have B2 : Hid (rd < d) := b2
      clear S hca Hv hxb hs ht b1 b2 b3 b4
      go_wp2
      go_roundw
      case rel => exact ⟨j, rd, q.set j qd, by omega, by have := B2.out; omega, by rw [e4], by go_num, by simpa using hq, row_set Hrow.out j qd, ok_set Hok.out j qd B1.out, gset Hg.out (Nat.le_refl _) _, HS⟩
      case measure => simp [intOf]
    | zero =>
      have hV := Hv.out
      simp only [List.drop_zero] at hV
      have Hnew : Hid (Wd wr (.slice (some ⟨w.heap.size, 0, none⟩) a.length a.length) q) := by
        have := row_wd Hrow.out Hok.out (by omega) a.length (by omega)
        rw [hq] at this
        exact this
      have HV : Hid (val q = val a / d ∧ r = val a % d) := hV
      clear Hv Hrow Hok hV
      have i1 : (r : Int) < 4294967296 := by omega
      go_wp2_with fail
      refine (trim_any _ q _ Hnew.out).mono ?_
      rintro e w' ⟨⟨v', rfl, hv⟩, hw⟩
      rw [hw]; clear hw w' Hnew
      have R : Hid (Wd wr v' (q.take (tl q q.length)) ∧ Nrm (q.take (tl q q.length)) ∧ val (q.take (tl q q.length)) = val a / d) := by
        refine ⟨hv, nrm_tl _ _ (Nat.le_refl _), ?_⟩
        rw [val_tl _ _ (Nat.le_refl _), List.take_length]
        exact HV.out.1
      clear hv
      go_wp2
      go_ret2
      exact ⟨_, _, by rw [← HV.out.2]; rfl, R.out.1, R.out.2.1, R.out.2.2, Hg.out⟩
end Go.Proofs.YtphlcjghcffnbaaDoor
