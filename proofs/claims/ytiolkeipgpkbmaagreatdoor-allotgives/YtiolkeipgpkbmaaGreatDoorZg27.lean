/-
  The contract of quarterdaybig's Text, at numbers of 64 bits that are not below 0.
-/
import Derived.Test.YtiolkeipgpkbmaaGreatDoorZg7
import Derived.Test.YtiolkeipgpkbmaaGreatDoorProg
import Derived.WalkKit
import Derived.WalkSpells
import Derived.ShutString
import Derived.Lib.OthersKept
import Derived.Lib.TrimU
import Derived.Deep.LoopGhost
import Derived.Deep.QuietTactic
import Derived.BigQuiet
import Derived.Lib.ItoaNum
import Derived.Lib.ParseIntB
import Derived.Lib.Strings
import Derived.Test.YtiolkeipgpkbmaaGreatDoorZg6
import Derived.Maps.AppendAt
import Derived.Laws.BytesArg
namespace Go.Proofs.YtiolkeipgpkbmaaGreatDoor
set_option linter.unusedVariables false
set_option linter.unusedSimpArgs false
open Go.RowKit Big

set_option maxHeartbeats 1000000 in
theorem trim_at (b off cap : Nat) (l : List Nat) (w : World) (h : Wd w (.slice (some ⟨b, off, none⟩) l.length cap) l) (h0 : 0 < l.length) :
    Calls Tryz.prog 107 #[.slice (some ⟨b, off, none⟩) l.length cap] w fun e w' => e = .returned (.slice (some ⟨b, off, none⟩) (tl l l.length) cap) ∧ Wd w (.slice (some ⟨b, off, none⟩) (tl l l.length) cap) (l.take (tl l l.length)) ∧ w' = w := by
  have hlen := h.len
  obtain ⟨hcap, hc⟩ : l.length ≤ cap ∧ ∀ i, i < l.length → w.cell? ⟨b, off + i, none⟩ = some (.int .u32 (l.getD i 0 : Nat)) := by
    rcases h.at_ with ⟨h1, _⟩ | ⟨_, b', off', cap', e, _, hcap, hc⟩
    · rw [h1] at h0; simp at h0
    · cases e; exact ⟨hcap, hc⟩
  have Hc : Hid (∀ i, i < l.length → w.cell? ⟨b, off + i, none⟩ = some (.int .u32 (l.getD i 0 : Nat))) := hc
  have Ho : Hid (Ok l) := h.ok
  have Hr : Hid (Wd w (.slice (some ⟨b, off, none⟩) l.length cap) l) := h
  clear hc h
  go_enter Tryz.func107, Tryz.ntmps107
  go_wp2
  go_loop [3] (fun n => ∃ k : Nat, k ≤ l.length ∧ n = .int .i64 k ∧ Hid (tl l k = tl l l.length)) (fun n => (RowKit.intOf n).toNat)
  case atStart => exact ⟨l.length, Nat.le_refl _, rfl, rfl⟩
  case round =>
    obtain ⟨k, hk, rfl, Hk⟩ := hrel
    cases k with
    | zero =>
      go_wp2
      go_ret
      refine ⟨by rw [← Hk.out]; rfl, ?_, rfl⟩
      rw [← Hk.out]
      exact wd_take Hr.out 0 (by omega)
    | succ j =>
      have hcj := Hc.out j (by omega)
      by_cases hz : l.getD j 0 = 0
      · rw [hz] at hcj
        have Hk2 : Hid (tl l j = tl l l.length) := by
          have := Hk.out; rw [tl_zero l j hz] at this; exact this
        clear Hk hz
        go_wp2
        go_round
        case rel => exact ⟨j, by omega, by go_num, Hk2⟩
        case measure => simp [RowKit.intOf]
      · have hb1 := Ho.out j (by omega)
        have Hk2 : Hid (j + 1 = tl l l.length) := by
          have := Hk.out; rw [tl_pos l j hz] at this; exact this
        generalize l.getD j 0 = x at *
        have hx : ((x : Int) == 0) = false := by simp; omega
        go_wp2
        go_ret
        refine ⟨by rw [← Hk2.out]; rfl, ?_, rfl⟩
        rw [← Hk2.out]
        exact wd_take Hr.out (j + 1) hk

set_option maxHeartbeats 2000000 in
theorem small_at (va : Value) (a : List Nat) (d : Nat) (w : World) (ha : Wd w va a) (hd : 0 < d) (hd2 : d < 4294967296) (hlen : a.length < 35184372088832) (h0 : 0 < a.length) :
    Calls Tryz.prog 110 #[va, .int .u32 (d : Int)] w fun e w' => ∃ l cap, e = .returned (.tuple #[.slice (some ⟨w.heap.size, 0, none⟩) l.length cap, .int .u32 ((val a % d : Nat) : Int)]) ∧ Wd w' (.slice (some ⟨w.heap.size, 0, none⟩) l.length cap) l ∧ Nrm l ∧ val l = val a / d ∧ l.length ≤ a.length ∧ w.grownBy w' none := by
  obtain ⟨aa, ca, rfl, la, Oa, Fa⟩ := ha.form
  clear ha la
  have hmk := fun w => run_make_row' (P := Tryz.prog) 81 166 (.int .u32 0) 4 Tryz.underlying81 Tryz.infoW rfl .i64 .i64 a.length (by omega) (by omega) w
  have hdz : ((d : Int) == 0) = false := by simp; omega
  have hdp : (0 : Int) < d := by omega
  have hd3 : (d : Int) < 4294967296 := by omega
  go_enter Tryz.func110, Tryz.ntmps110
  go_wp2
  clear hmk
  go_loopw [7, 8] (fun tr ti wr => ∃ m r : Nat, ∃ q : List Nat, m ≤ a.length ∧ (r : Int) < d ∧ tr = .int .u64 r ∧ ti = .int .i64 ((m : Int) - 1) ∧ q.length = a.length ∧ Hid (RowAt wr w.heap.size q) ∧ Hid (Ok q) ∧ Hid (w.grownBy wr none) ∧ Hid (val (q.drop m) = val (a.drop m) / d ∧ r = val (a.drop m) % d)) (fun _ ti _ => (RowKit.intOf ti + 1).toNat)
  case atStart =>
    refine ⟨a.length, 0, List.replicate a.length 0, Nat.le_refl _, by omega, rfl, rfl, by simp, ?_, ok_replicate _, World.grownBy_alloc _ _ _, ?_⟩
    · show (w.alloc _).heap[w.heap.size]? = _
      rw [alloc_blk, made_row]
    · refine ⟨?_, ?_⟩
      · rw [List.drop_of_length_le (by simp), List.drop_length]; simp [val]
      · rw [List.drop_length]; simp [val]
  case round =>
    obtain ⟨m, r, q, hm, hr, rfl, rfl, hq, Hrow, Hok, Hg, Hv⟩ := hrel
    cases m with
    | succ j =>
      rw [show ((j + 1 : Nat) : Int) - 1 = (j : Int) by omega]
      obtain ⟨ba, oa, rfl, hba, hca⟩ := Fa.out (by omega)
      have hxa := (Hg.out.cell (hca j (by omega)) (by simp))
      have hxb := Oa.out j (by omega)
      have S := small_step a q j d r hd (by omega) (by omega) Hv.out.1 Hv.out.2
      have rc := row_cell Hrow.out (i := j) (by omega)
      have rf := row_frozen Hrow.out j
      generalize a.getD j 0 = x at *
      generalize q.getD j 0 = z at *
      have e1 : (r : Int) * 4294967296 = ((r * 4294967296 : Nat) : Int) := by omega
      have e2 := or_word' r x (by omega) hxb
      have b1 : (r * 4294967296 + x) / d < 4294967296 := by
        rw [Nat.div_lt_iff_lt_mul hd]
        have : (r + 1) * 4294967296 ≤ d * 4294967296 := Nat.mul_le_mul_right _ (by omega)
        omega
      have b2 : (r * 4294967296 + x) % d < d := Nat.mod_lt _ hd
      have b3 := (shl_lt r x (by omega) hxb).1
      have b4 := (shl_lt r x (by omega) hxb).2
      obtain ⟨s, hs⟩ : ∃ s, s = r * 4294967296 := ⟨_, rfl⟩
      rw [← hs] at e1 e2 S b1 b2 b3 b4
      obtain ⟨t, ht⟩ : ∃ t, t = s + x := ⟨_, rfl⟩
      rw [← ht] at e2 S b1 b2 b3
      have e3 : (t : Int) / d = ((t / d : Nat) : Int) := by rw [Int.natCast_ediv]
      have e4 : (t : Int) % d = ((t % d : Nat) : Int) := by rw [Int.natCast_emod]
      generalize t / d = qd at *
      generalize t % d = rd at *
      have HS : Hid (val ((q.set j qd).drop j) = val (a.drop j) / d ∧ rd = val (a.drop j) % d) := S
      have i1 : (x : Int) < 4294967296 := by omega
      have i2 : (t : Int) < 18446744073709551616 := by omega
      have i3 : (s : Int) < 18446744073709551616 := by omega
      have i4 : (qd : Int) < 4294967296 := by omega
      have i5 : (j : Int) < a.length := by omega
      have B1 : Hid (qd < 4294967296) := b1
      have B2 : Hid (rd < d) := b2
      clear S hca Hv hxb hs ht b1 b2 b3 b4
      go_wp2
      go_roundw
      case rel => exact ⟨j, rd, q.set j qd, by omega, by have := B2.out; omega, by rw [e4], by go_num, by simpa using hq, row_set Hrow.out j qd, ok_set Hok.out j qd B1.out, gset Hg.out (Nat.le_refl _) _, HS⟩
      case measure => simp [RowKit.intOf]
    | zero =>
      have hV := Hv.out
      simp only [List.drop_zero] at hV
      have Hnew : Hid (Wd wr (.slice (some ⟨w.heap.size, 0, none⟩) a.length a.length) q) := by
        have := row_wd Hrow.out Hok.out (by omega) a.length (by omega)
        rw [hq] at this
        exact this
      have HV : Hid (val q = val a / d ∧ r = val a % d) := hV
      clear Hv Hrow Hok hV
      have i1 : (r : Int) < 4294967296 := by omega
      go_wp2_with fail
      have hTr := trim_at w.heap.size 0 a.length q wr (by rw [hq]; exact Hnew.out) (by omega)
      rw [hq] at hTr
      refine hTr.mono ?_
      rintro e w' ⟨rfl, hv, hw⟩
      rw [hw]; clear hw w' Hnew hTr
      have hlt : (q.take (tl q a.length)).length = tl q a.length := by rw [List.length_take, Nat.min_eq_left]; have := tl_le q a.length; omega
      have R : Hid (Wd wr (.slice (some ⟨w.heap.size, 0, none⟩) (tl q a.length) a.length) (q.take (tl q a.length)) ∧ Nrm (q.take (tl q a.length)) ∧ val (q.take (tl q a.length)) = val a / d) := by
        refine ⟨hv, nrm_tl _ _ (by omega), ?_⟩
        rw [val_tl _ _ (by omega), ← hq, List.take_length]
        exact HV.out.1
      have Htl : Hid (tl q a.length ≤ a.length) := tl_le q a.length
      clear hv
      go_wp2
      go_ret2
      exact ⟨_, _, by rw [← HV.out.2, hlt]; rfl, by rw [hlt]; exact R.out.1, R.out.2.1, R.out.2.2, by rw [hlt]; exact Htl.out, Hg.out⟩
end Go.Proofs.YtiolkeipgpkbmaaGreatDoor

namespace Go.Proofs.YtiolkeipgpkbmaaGreatDoor
set_option linter.unusedVariables false
set_option linter.unusedSimpArgs false
open Go.RowKit

/-- A text out of its bytes. -/
def txt (l : List UInt8) : ByteArray := ⟨l.toArray⟩

theorem txt_size (l : List UInt8) : (txt l).size = l.length := size_of_list l
theorem txt_list (l : List UInt8) : (txt l).data.toList = l := rfl
theorem txt_of (s : ByteArray) : s = txt s.data.toList := rfl
theorem txt_app (a b : List UInt8) : txt a ++ txt b = txt (a ++ b) := by
  apply ByteArray.ext
  simp [txt]
theorem txt_take (l : List UInt8) (k : Nat) : (txt l).extract 0 k = txt (l.take k) := by
  apply ByteArray.ext
  simp [txt]
theorem txm_drop (l : List UInt8) (k : Nat) : (txt l).extract k (txt l).size = txt (l.drop k) := by
  apply ByteArray.ext
  rw [txt_size]
  simp [txt]
  exact List.take_of_length_le (by simp)

theorem run_take (l : List UInt8) (k : Nat) (hk : k ≤ l.length) (W : World) : (Instr.slice 9 (.string (txt l)) none (some (.int .i64 (k : Int))) none).run Tryz.prog W = .ok (.string (txt (l.take k))) W := by
  rw [run_slice_string_h W 9 (txt l) Tryz.underlying9 .i64 k (by omega) (by rw [txt_size]; omega), Int.toNat_natCast, txt_take]
theorem run_drop (l : List UInt8) (k : Nat) (hk : k ≤ l.length) (W : World) : (Instr.slice 9 (.string (txt l)) (some (.int .i64 (k : Int))) none none).run Tryz.prog W = .ok (.string (txt (l.drop k))) W := by
  rw [run_slice_string_l W 9 (txt l) Tryz.underlying9 .i64 k (by omega) (by rw [txt_size]; omega), Int.toNat_natCast, txm_drop]
theorem run_app (a b : List UInt8) (h : a.length + b.length ≤ 9223372036854775807) (W : World) : (Op.stringOp .add (txt a) (txt b)).run Tryz.prog W = .ok (.string (txt (a ++ b))) W := by
  rw [run_string_add_sum W (txt a) (txt b) (by rw [txt_size, txt_size]; exact h), txt_app]

/-- The point, so many places ahead of the end. -/
def pointL (l : List UInt8) (p : Nat) : List UInt8 := if p = 0 then l else l.take (l.length - p) ++ 46 :: l.drop (l.length - p)

/-- The text without its point, so many places ahead of the end. -/
def unL (l : List UInt8) (p : Nat) : Option (List UInt8) :=
  if p = 0 then some l else if p + 1 ≤ l.length ∧ l[l.length - p - 1]? = some 46 then some (l.take (l.length - p - 1) ++ l.drop (l.length - p)) else none

end Go.Proofs.YtiolkeipgpkbmaaGreatDoor

namespace Go.Proofs.YtiolkeipgpkbmaaGreatDoor
set_option linter.unusedVariables false
set_option linter.unusedSimpArgs false
open Go.RowKit Go.Lib

/-- A sign that is no digit. -/
def noDig (r : Nat) : Bool := decide (r < 48) || decide (57 < r)

/-- Is there such a sign, from a place on, among at most so many? -/
def noDigFrom (s : ByteArray) : Nat → Nat → Int
  | 0, _ => -1
  | f + 1, pos => if pos < s.size then (if noDig (Utf8.decode s pos).1 = true then (pos : Int) else noDigFrom s f (pos + (Utf8.decode s pos).2)) else -1

theorem noDigFrom_end (s : ByteArray) (f pos : Nat) (h : ¬ pos < s.size) : noDigFrom s f pos = -1 := by cases f <;> simp [noDigFrom, h]

theorem noDigFrom_ge (s : ByteArray) : ∀ (f pos : Nat), -1 ≤ noDigFrom s f pos
  | 0, _ => by simp [noDigFrom]
  | f + 1, pos => by
    unfold noDigFrom
    split
    · split
      · omega
      · exact noDigFrom_ge s f _
    · omega

/-- A digit. -/
def isDig (b : UInt8) : Bool := decide (48 ≤ b.toNat) && decide (b.toNat ≤ 57)

theorem noDig_at (s : ByteArray) (pos f : Nat) (h : pos < s.size) : noDigFrom s (f + 1) pos = if isDig (s[pos]'h) = true then noDigFrom s f (pos + 1) else (pos : Int) := by
  rw [noDigFrom, if_pos h]
  by_cases ha : (s[pos]'h).toNat < 128
  · rw [decode_ascii s pos h ha]
    by_cases hc : 48 ≤ (s[pos]'h).toNat ∧ (s[pos]'h).toNat ≤ 57
    · have e1 : noDig (s[pos]'h).toNat = false := by simp [noDig]; omega
      have e2 : isDig (s[pos]'h) = true := by simp [isDig]; omega
      simp [e1, e2]
    · have e1 : noDig (s[pos]'h).toNat = true := by simp [noDig]; omega
      have e2 : isDig (s[pos]'h) = false := by simp [isDig]; omega
      simp [e1, e2]
  · have hd := (decode_high s pos h (by omega)).1
    have e1 : noDig (Utf8.decode s pos).1 = true := by simp [noDig]; omega
    have e2 : isDig (s[pos]'h) = false := by simp [isDig]; omega
    simp [e1, e2]

theorem noDig_all (s : ByteArray) : ∀ (f pos : Nat), s.size ≤ pos + f → (noDigFrom s f pos < 0 ↔ (s.data.toList.drop pos).all isDig = true)
  | 0, pos, hf => by
    have : s.data.toList.drop pos = [] := List.drop_eq_nil_of_le (by rw [Array.length_toList]; exact hf)
    simp [this, noDigFrom]
  | f + 1, pos, hf => by
    by_cases h : pos < s.size
    · have hl : pos < s.data.toList.length := by rw [Array.length_toList]; exact h
      have hc : s.data.toList.drop pos = s[pos]'h :: s.data.toList.drop (pos + 1) := by
        rw [List.drop_eq_getElem_cons hl]; rfl
      rw [noDig_at s pos f h, hc, List.all_cons]
      by_cases hd : isDig (s[pos]'h) = true
      · rw [if_pos hd, hd, Bool.true_and]
        exact noDig_all s f (pos + 1) (by omega)
      · rw [if_neg hd]
        constructor
        · intro h'; omega
        · intro h'; rw [Bool.and_eq_true] at h'; exact absurd h'.1 hd
    · have : s.data.toList.drop pos = [] := List.drop_eq_nil_of_le (by rw [Array.length_toList]; exact Nat.le_of_not_lt h)
      rw [noDigFrom_end s _ pos h]
      simp [this]

/-- Are these digits shown so, with so many places? -/
def shownL (l : List UInt8) (p : Nat) : Bool := decide (p + 1 ≤ l.length) && !(decide (p + 1 < l.length) && l.head? == some 48) && l.all isDig

end Go.Proofs.YtiolkeipgpkbmaaGreatDoor

namespace Go.Proofs.YtiolkeipgpkbmaaGreatDoor
open Go.Lib
set_option linter.unusedVariables false
set_option linter.unusedSimpArgs false

/-- What digits spell behind a number. -/
def stepA (a : Nat) (c : UInt8) : Nat := a * 10 + (c.toNat - 48)
def valA (acc : Nat) (l : List UInt8) : Nat := l.foldl stepA acc

theorem pow_step (a b k : Nat) (h : a * 10 ≤ b) : a * 10 ^ (k + 1) ≤ b * 10 ^ k := by
  rw [Nat.pow_succ, Nat.mul_comm (10 ^ k) 10, ← Nat.mul_assoc]
  exact Nat.mul_le_mul_right _ h

theorem valA_cons (acc : Nat) (c : UInt8) (r : List UInt8) : valA acc (c :: r) = valA (acc * 10 + (c.toNat - 48)) r := by unfold valA; rw [List.foldl_cons]; unfold stepA; exact Eq.refl _
theorem valA_nil (acc : Nat) : valA acc [] = acc := List.foldl_nil

theorem valA_app (acc : Nat) (l m : List UInt8) : valA acc (l ++ m) = valA (valA acc l) m := by
  induction l generalizing acc with
  | nil => rw [List.nil_append, valA_nil]
  | cons c r ih => rw [List.cons_append, valA_cons, valA_cons]; exact ih _

theorem valA_ge : ∀ (l : List UInt8) (acc : Nat), acc * 10 ^ l.length ≤ valA acc l
  | [], acc => by rw [valA_nil, List.length_nil, Nat.pow_zero, Nat.mul_one]; exact Nat.le_refl _
  | c :: r, acc => by
    rw [valA_cons, List.length_cons]
    exact Nat.le_trans (pow_step acc _ r.length (Nat.le_add_right _ _)) (valA_ge r _)

theorem pow_step2 (a b k : Nat) (h : b + 1 ≤ (a + 1) * 10) : (b + 1) * 10 ^ k ≤ (a + 1) * 10 ^ (k + 1) := by
  rw [Nat.pow_succ, Nat.mul_comm (10 ^ k) 10, ← Nat.mul_assoc]
  exact Nat.mul_le_mul_right _ h

theorem valA_lt : ∀ (l : List UInt8) (acc : Nat), l.all isDig = true → valA acc l < (acc + 1) * 10 ^ l.length
  | [], acc, _ => by rw [valA_nil, List.length_nil, Nat.pow_zero, Nat.mul_one]; exact Nat.lt_succ_self _
  | c :: r, acc, hd => by
    rw [List.all_cons, Bool.and_eq_true] at hd
    have hc : c.toNat ≤ 57 := by have := hd.1; simp [isDig] at this; omega
    rw [valA_cons, List.length_cons]
    exact Nat.lt_of_lt_of_le (valA_lt r _ hd.2) (pow_step2 acc _ r.length (by omega))

theorem valA_zeros (k : Nat) (l : List UInt8) : valA 0 (List.replicate k 48 ++ l) = valA 0 l := by
  induction k with
  | zero => rfl
  | succ k ih => rw [List.replicate_succ, List.cons_append, valA_cons]; exact ih

theorem parse_digits (l : List UInt8) (hd : l.all isDig = true) : ∀ acc, valA acc l < 10000000000000000000 → parseUintM (2 ^ 64 - 1) acc l = .ok (valA acc l) := by
  induction l with
  | nil => intro acc _; rw [valA_nil]; rfl
  | cons c r ih =>
    intro acc h
    rw [List.all_cons, Bool.and_eq_true] at hd
    have hc : 48 ≤ c.toNat ∧ c.toNat ≤ 57 := by have := hd.1; simp [isDig] at this; exact this
    have hg := valA_ge r (acc * 10 + (c.toNat - 48))
    have hp : 1 ≤ 10 ^ r.length := Nat.one_le_pow _ _ (by decide)
    have hg2 : acc * 10 + (c.toNat - 48) ≤ valA (acc * 10 + (c.toNat - 48)) r := Nat.le_trans (Nat.le_mul_of_pos_right _ hp) hg
    rw [valA_cons] at h ⊢
    rw [parseUintM, if_pos hc, if_neg (by omega), if_neg (by omega), ih hd.2 _ h]

theorem parse_all (l : List UInt8) (h0 : l ≠ []) (hd : l.all isDig = true) (hl : l.length ≤ 19) : parseUintB 64 l = .ok (valA 0 l) := by
  have h := valA_lt l 0 hd
  have h2 : 10 ^ l.length ≤ 10 ^ 19 := Nat.pow_le_pow_right (by decide) hl
  have h3 : (10 : Nat) ^ 19 = 10000000000000000000 := by decide
  rw [parseUintB, if_neg h0, parse_digits l hd 0 (by omega)]

theorem dec_ne (u : Nat) : decDigits u ≠ [] := by
  intro h
  have h1 := decDigits_length u
  have h2 := nDigits_pos u
  rw [h, List.length_nil] at h1; omega

theorem dig_of (k : Nat) (h : k < 10) : (UInt8.ofNat (48 + k)).toNat = 48 + k := by
  rw [UInt8.toNat_ofNat']; omega

theorem dec_val (u : Nat) : valA 0 (decDigits u) = u := by
  induction u using Nat.strongRecOn with
  | _ u ih =>
    by_cases h : u < 10
    · rw [decDigits, dif_pos h]
      simp only [valA_cons, valA_nil]
      rw [dig_of u h]; omega
    · rw [decDigits, dif_neg h, valA_app, ih (u / 10) (by omega)]
      simp only [valA_cons, valA_nil]
      rw [dig_of _ (by omega)]; omega

theorem dec_digits (u : Nat) : (decDigits u).all isDig = true := by
  induction u using Nat.strongRecOn with
  | _ u ih =>
    by_cases h : u < 10
    · rw [decDigits, dif_pos h]
      simp only [List.all_cons, List.all_nil, Bool.and_true, isDig]
      rw [dig_of u h]; simp; omega
    · rw [decDigits, dif_neg h, List.all_append, ih (u / 10) (by omega)]
      simp only [List.all_cons, List.all_nil, Bool.and_true, Bool.true_and, isDig]
      rw [dig_of _ (by omega)]; simp; omega

theorem dec_head (u : Nat) (h1 : 1 ≤ u) : (decDigits u).head? ≠ some 48 := by
  induction u using Nat.strongRecOn with
  | _ u ih =>
    by_cases h : u < 10
    · rw [decDigits, dif_pos h]
      intro h'
      have h2 := congrArg UInt8.toNat (Option.some.inj h')
      rw [dig_of u h] at h2
      have h3 : (48 : UInt8).toNat = 48 := rfl
      omega
    · rw [decDigits, dif_neg h]
      have h2 := ih (u / 10) (by omega) (by omega)
      cases hq : decDigits (u / 10) with
      | nil => exact absurd hq (dec_ne _)
      | cons c r => rw [hq] at h2; exact h2

theorem dec_low (u : Nat) (h1 : 1 ≤ u) : 10 ^ (nDigits u - 1) ≤ u := by
  induction u using Nat.strongRecOn with
  | _ u ih =>
    by_cases h : u < 10
    · rw [nDigits_small h]; simpa using h1
    · have := ih (u / 10) (by omega) (by omega)
      have hp := nDigits_pos (u / 10)
      obtain ⟨k, hk⟩ : ∃ k, nDigits (u / 10) = k + 1 := ⟨nDigits (u / 10) - 1, by omega⟩
      rw [hk, Nat.add_sub_cancel] at this
      rw [nDigits_big h, hk, Nat.add_sub_cancel, Nat.pow_succ]; omega

/-- So few digits. -/
theorem dec_few (u L : Nat) (hL : 1 ≤ L) (h : u < 10 ^ L) : nDigits u ≤ L := by
  by_cases h1 : 1 ≤ u
  · have h2 := dec_low u h1
    have h3 : nDigits u - 1 < L := by
      rcases Nat.lt_or_ge (nDigits u - 1) L with h' | h'
      · exact h'
      · have := Nat.pow_le_pow_right (n := 10) (by decide) h'
        omega
    omega
  · rw [nDigits_small (by omega)]; exact hL

/-- Digits of one length that spell the same are the same. -/
theorem dig_unique : ∀ (n : Nat) (l m : List UInt8), l.length = n → m.length = n → l.all isDig = true → m.all isDig = true → valA 0 l = valA 0 m → l = m
  | 0, l, m, hl, hm, _, _, _ => by rw [List.length_eq_zero_iff.1 hl, List.length_eq_zero_iff.1 hm]
  | n + 1, l, m, hl, hm, dl, dm, h => by
    have nl : l ≠ [] := by intro h'; rw [h'] at hl; simp at hl
    have nm : m ≠ [] := by intro h'; rw [h'] at hm; simp at hm
    have el := List.dropLast_concat_getLast nl
    have em := List.dropLast_concat_getLast nm
    generalize l.getLast nl = c at el
    generalize m.getLast nm = d at em
    have hl' : l.dropLast.length = n := by rw [List.length_dropLast]; omega
    have hm' : m.dropLast.length = n := by rw [List.length_dropLast]; omega
    rw [← el, List.all_append, Bool.and_eq_true] at dl
    rw [← em, List.all_append, Bool.and_eq_true] at dm
    rw [← el, ← em, valA_app, valA_app] at h
    have hc : 48 ≤ c.toNat ∧ c.toNat ≤ 57 := by have := dl.2; simp [isDig] at this; exact this
    have hd : 48 ≤ d.toNat ∧ d.toNat ≤ 57 := by have := dm.2; simp [isDig] at this; exact this
    simp only [valA_cons, valA_nil] at h
    have h1 : valA 0 l.dropLast = valA 0 m.dropLast := by omega
    have h2 : c = d := UInt8.toNat_inj.1 (by omega)
    rw [← el, ← em, dig_unique n _ _ hl' hm' dl.1 dm.1 h1, h2]

/-- Zeros ahead, for one digit more than the places. -/
def padTo (p : Nat) (l : List UInt8) : List UInt8 := List.replicate (p + 1 - l.length) 48 ++ l

theorem pad_length (p : Nat) (l : List UInt8) : (padTo p l).length = max (p + 1) l.length := by
  simp [padTo]; omega
theorem pad_val (p : Nat) (l : List UInt8) : valA 0 (padTo p l) = valA 0 l := valA_zeros _ _
theorem pad_digits (p : Nat) (l : List UInt8) (h : l.all isDig = true) : (padTo p l).all isDig = true := by
  rw [padTo, List.all_append, h, Bool.and_true, List.all_replicate]
  split <;> simp [isDig]

/-- What is shown is of the form that is read. -/
theorem pad_shown (p u : Nat) : shownL (padTo p (decDigits u)) p = true := by
  have hl := pad_length p (decDigits u)
  have h1 : p + 1 ≤ (padTo p (decDigits u)).length := by omega
  rw [shownL, pad_digits p _ (dec_digits u), decide_eq_true h1]
  by_cases h2 : p + 1 < (padTo p (decDigits u)).length
  · have h3 : p + 1 < (decDigits u).length := by omega
    have e : padTo p (decDigits u) = decDigits u := by simp [padTo, show p + 1 - (decDigits u).length = 0 by omega]
    have hu : 1 ≤ u := by
      rcases Nat.lt_or_ge u 10 with h' | h'
      · rw [decDigits_length, nDigits_small h'] at h3; omega
      · omega
    have h4 := dec_head u hu
    rw [e]
    simp [h4]
  · rw [decide_eq_false h2]; rfl

/-- Digits that are read are those of their number. -/
theorem pad_back (p : Nat) (d : List UInt8) (hs : shownL d p = true) : padTo p (decDigits (valA 0 d)) = d := by
  simp only [shownL, Bool.and_eq_true, decide_eq_true_eq, Bool.not_eq_true'] at hs
  obtain ⟨⟨h1, h2⟩, hd⟩ := hs
  have hlt := valA_lt d 0 hd
  rw [Nat.zero_add, Nat.one_mul] at hlt
  refine dig_unique d.length _ _ ?_ rfl (pad_digits p _ (dec_digits _)) hd (by rw [pad_val, dec_val])
  rw [pad_length, decDigits_length]
  by_cases h3 : p + 1 < d.length
  · obtain ⟨c, r, rfl⟩ : ∃ c r, d = c :: r := by
      cases d with
      | nil => simp at h1
      | cons c r => exact ⟨c, r, rfl⟩
    have hc : c ≠ 48 := by
      rw [decide_eq_true h3, Bool.true_and] at h2
      simpa using h2
    rw [List.all_cons, Bool.and_eq_true] at hd
    have hc1 : 48 ≤ c.toNat := by have := hd.1; simp [isDig] at this; exact this.1
    have hc2 : c.toNat ≠ 48 := fun h' => hc (UInt8.toNat_inj.1 h')
    have hge : 10 ^ r.length ≤ valA 0 (c :: r) := by
      have := valA_ge r (0 * 10 + (c.toNat - 48))
      have h5 : 1 * 10 ^ r.length ≤ (0 * 10 + (c.toNat - 48)) * 10 ^ r.length := Nat.mul_le_mul_right _ (by omega)
      have h6 := valA_cons 0 c r
      omega
    rw [List.length_cons] at hlt h3 ⊢
    rw [nDigits_unique r.length _ hge hlt]
    omega
  · have h4 : d.length = p + 1 := by omega
    have := dec_few (valA 0 d) (p + 1) (by omega) (by rw [← h4]; exact hlt)
    omega

theorem point_back (d : List UInt8) (p : Nat) (h : p + 1 ≤ d.length) : unL (pointL d p) p = some d := by
  by_cases h0 : p = 0
  · simp [unL, pointL, h0]
  · have hk : d.length - p ≤ d.length := by omega
    have hl : (pointL d p).length = d.length + 1 := by simp [pointL, h0]; omega
    have e1 : (pointL d p).length - p - 1 = d.length - p := by omega
    have e2 : (pointL d p).length - p = d.length - p + 1 := by omega
    have ht : (d.take (d.length - p)).length = d.length - p := by simp
    have e3 : pointL d p = d.take (d.length - p) ++ 46 :: d.drop (d.length - p) := by simp [pointL, h0]
    unfold unL
    rw [if_neg h0, e1, e2, if_pos ⟨by omega, by rw [e3, List.getElem?_append_right (by omega), ht, Nat.sub_self]; rfl⟩]
    congr 1
    rw [e3, List.take_append_of_le_length (by omega), List.take_of_length_le (by omega), List.drop_append, ht]
    have e4 : d.length - p + 1 - (d.length - p) = 1 := by omega
    rw [List.drop_of_length_le (by omega), e4]
    simp

theorem un_back (t d : List UInt8) (p : Nat) (h : unL t p = some d) : pointL d p = t := by
  by_cases h0 : p = 0
  · simp [unL, h0] at h; simp [pointL, h0, h]
  · unfold unL at h
    rw [if_neg h0] at h
    split at h
    · rename_i hc
      have h := Option.some.inj h
      subst h
      obtain ⟨h1, h2⟩ := hc
      obtain ⟨k, hk⟩ : ∃ k, t.length - p - 1 = k := ⟨_, rfl⟩
      have hk1 : t.length - p = k + 1 := by omega
      rw [hk] at h2
      rw [hk, hk1]
      have hl : (t.take k ++ t.drop (k + 1)).length - p = k := by simp; omega
      have ht : (t.take k).length = k := by simp; omega
      rw [pointL, if_neg h0, hl, List.take_append_of_le_length (by omega), List.take_of_length_le (by omega), List.drop_append, ht, List.drop_of_length_le (by omega), Nat.sub_self]
      have hk2 : k < t.length := by omega
      rw [List.getElem?_eq_getElem hk2] at h2
      have h3 : t[k]'hk2 = 46 := Option.some.inj h2
      rw [List.drop_zero, List.nil_append, ← h3, ← List.drop_eq_getElem_cons hk2, List.take_append_drop]
    · cases h

/-- An amount as text. -/
def showS (a : Int) (p : Nat) : List UInt8 := if a < 0 then 45 :: pointL (padTo p (decDigits a.natAbs)) p else pointL (padTo p (decDigits a.natAbs)) p

/-- A text as an amount. -/
def readS (l : List UInt8) (p : Nat) : Option Int :=
  match unL (trimPrefix l [45]) p with
  | none => none
  | some d => if shownL d p = true ∧ d.length ≤ 19 then
      (if hasPrefix l [45] = true then (if 1 ≤ valA 0 d ∧ valA 0 d ≤ 9223372036854775808 then some (-(valA 0 d : Int)) else none)
       else (if valA 0 d ≤ 9223372036854775807 then some (valA 0 d : Int) else none))
    else none

theorem point_head (d : List UInt8) (p : Nat) (h : p + 1 ≤ d.length) : (pointL d p).head? = d.head? := by
  by_cases h0 : p = 0
  · simp [pointL, h0]
  · rw [pointL, if_neg h0]
    cases d with
    | nil => simp at h
    | cons c r =>
      have : (c :: r).length - p = (r.length - p) + 1 := by simp at h ⊢; omega
      rw [this]; rfl

theorem show_read (a : Int) (p : Nat) (h1 : -9223372036854775808 ≤ a) (h2 : a ≤ 9223372036854775807) (hp : p ≤ 6) : readS (showS a p) p = some a := by
  obtain ⟨u, hu⟩ : ∃ u, a.natAbs = u := ⟨_, rfl⟩
  have hul : u ≤ 9223372036854775808 := by omega
  have hn : nDigits u ≤ 19 := dec_few u 19 (by decide) (by have : (10 : Nat) ^ 19 = 10000000000000000000 := by decide
                                                           omega)
  have hP : p + 1 ≤ (padTo p (decDigits u)).length := by rw [pad_length]; omega
  have hP19 : (padTo p (decDigits u)).length ≤ 19 := by rw [pad_length, decDigits_length]; omega
  have hb := point_back _ p hP
  have hs := pad_shown p u
  have hv : valA 0 (padTo p (decDigits u)) = u := by rw [pad_val, dec_val]
  have hh := point_head _ p hP
  have hd := pad_digits p _ (dec_digits u)
  unfold showS
  rw [hu]
  obtain ⟨Q, hQ⟩ : ∃ Q, padTo p (decDigits u) = Q := ⟨_, rfl⟩
  rw [hQ] at hP hP19 hb hs hv hh hd ⊢
  by_cases hneg : a < 0
  · rw [if_pos hneg]
    have e1 : hasPrefix (45 :: pointL Q p) [45] = true := by simp [hasPrefix, List.isPrefixOf]
    have e2 : trimPrefix (45 :: pointL Q p) [45] = pointL Q p := by simp [trimPrefix, e1]
    unfold readS
    rw [e1, e2, hb]
    simp only [hs, hP19, hv, and_self, if_true]
    rw [if_pos (by omega)]
    congr 1; omega
  · rw [if_neg hneg]
    have e1 : hasPrefix (pointL Q p) [45] = false := by
      cases hq : pointL Q p with
      | nil => rfl
      | cons c r =>
        cases Q with
        | nil => simp at hP
        | cons c' r' =>
          rw [hq] at hh
          have hcc : c = c' := Option.some.inj hh
          rw [List.all_cons, Bool.and_eq_true] at hd
          have hc1 : 48 ≤ c'.toNat := by have := hd.1; simp [isDig] at this; exact this.1
          have hc2 : ¬ c = 45 := by
            intro h'; rw [hcc] at h'; rw [h'] at hc1
            have : (45 : UInt8).toNat = 45 := rfl
            omega
          have hc3 : ¬ (45 : UInt8) = c := fun h => hc2 h.symm
          simp [hasPrefix, List.isPrefixOf, hc3]
    have e2 : trimPrefix (pointL Q p) [45] = pointL Q p := by simp [trimPrefix, e1]
    unfold readS
    rw [e1, e2, hb]
    simp only [hs, hP19, hv, and_self, if_true, Bool.false_eq_true, if_false]
    rw [if_pos (by omega)]
    congr 1; omega

theorem read_show (l : List UInt8) (p : Nat) (n : Int) (h : readS l p = some n) : showS n p = l := by
  unfold readS at h
  cases hu : unL (trimPrefix l [45]) p with
  | none => rw [hu] at h; cases h
  | some d =>
    rw [hu] at h
    have hb := un_back _ _ _ hu
    simp only at h
    split at h
    · rename_i hc
      have hpb := pad_back p d hc.1
      split at h
      · rename_i hp
        split at h
        · rename_i hv
          obtain rfl := Option.some.inj h
          unfold showS
          have e : (-(valA 0 d : Int)).natAbs = valA 0 d := by omega
          rw [if_pos (by omega), e, hpb, hb]
          cases l with
          | nil => simp [hasPrefix, List.isPrefixOf] at hp
          | cons c r =>
            have hcc : c = 45 := by simp [hasPrefix, List.isPrefixOf] at hp; exact hp.symm
            rw [hcc]
            rw [hcc] at hp
            simp [trimPrefix, hp]
        · cases h
      · rename_i hp
        split at h
        · rename_i hv
          obtain rfl := Option.some.inj h
          unfold showS
          have e : ((valA 0 d : Nat) : Int).natAbs = valA 0 d := by omega
          rw [if_neg (by omega), e, hpb, hb]
          simp [trimPrefix, hp]
        · cases h
    · cases h
end Go.Proofs.YtiolkeipgpkbmaaGreatDoor

namespace Go.Proofs.YtiolkeipgpkbmaaGreatDoor
set_option linter.unusedVariables false
set_option linter.unusedSimpArgs false
set_option maxRecDepth 100000
open Go.RowKit Big

/-- Bytes in a row of one's own. -/
def BRow (w : World) (n : Nat) (v : Value) (l : List UInt8) : Prop := w.ownsRow n 5 1 v l.length (l.map fun b => Value.int .u8 b.toNat)
theorem BRow.own {w : World} {n : Nat} {v : Value} {xs : List UInt8} (h : BRow w n v xs) : ∀ j, v.ownBlock = some j → n ≤ j ∧ j < w.heap.size := fun j ej => by
  rcases h.2 with ⟨rfl, _⟩ | ⟨g1, c1, cur, rfl, hg1, hh, _⟩
  · cases ej
  · cases ej; exact ⟨hg1, (Array.getElem?_eq_some_iff.1 hh).1⟩
theorem BRow.grow {w w' : World} {n : Nat} {v : Value} {xs : List UInt8} (h : BRow w n v xs) (hg : w.grownBy w' none) : BRow w' n v xs := by
  rcases h.2 with ⟨hv, hn⟩ | ⟨g1, c1, cur, hv, hb1, hh, r⟩
  · exact ⟨h.1, .inl ⟨hv, hn⟩⟩
  · exact ⟨h.1, .inr ⟨g1, c1, cur, hv, hb1, (hg.block g1 (Array.getElem?_eq_some_iff.1 hh).1 (by simp)).trans hh, r⟩⟩
theorem u8_info : (Tryz.prog.info? 5).map (fun i => (i.zero, i.size, i.bytes)) = some (some (.int .u8 0), 1, 1) := by kernel_rfl
theorem one_new (W : World) (v : Value) (t : TypeId) : ∀ j u, ([v] : List Value)[j]? = some u → (W.alloc (.cells #[v] t)).cell? ((⟨W.heap.size, 0, none⟩ : Addr).add j) = some u := by
  intro j u hj
  rcases j with _ | j
  · simp at hj
    subst hj
    simp [Addr.add]
  · simp at hj

/-- The digits of what is left. -/
def decL (u : Nat) : List UInt8 := if u = 0 then [] else Lib.decDigits u
theorem decL_step {u : Nat} (h : 0 < u) : decL u = decL (u / 10) ++ [UInt8.ofNat (48 + u % 10)] := by
  unfold decL
  rw [if_neg (by omega), Lib.decDigits]
  by_cases h10 : u < 10
  · rw [dif_pos h10, if_pos (by omega)]
    simp
    rw [Nat.mod_eq_of_lt h10]
  · rw [dif_neg h10, if_neg (by omega)]

/-- A block of bytes. -/
def BAt (w : World) (g : Nat) (cs : Array Value) : Prop := w.heap[g]? = some (.cells cs 5 (0, 0))
theorem BAt.cell {w : World} {g : Nat} {cs : Array Value} (h : BAt w g cs) (i : Nat) : w.cell? ⟨g, i, none⟩ = cs[i]? := by unfold BAt at h; simp [World.cell?, h]
theorem BAt.fz {w : World} {g : Nat} {cs : Array Value} (h : BAt w g cs) (i : Nat) : w.frozen? ⟨g, i, none⟩ = false := by unfold BAt at h; simp [World.frozen?, h]
theorem BAt.set {w : World} {g : Nat} {cs : Array Value} (h : BAt w g cs) (i : Nat) (v : Value) : BAt (w.setCell ⟨g, i, none⟩ v) g (cs.setIfInBounds i v) := by
  unfold BAt at *
  rw [setCell_eq_setRow w g i _ 5 (0, 0) _ h, setRow_heap w g _ _ 5 (0, 0) h]
/-- A byte of a text that is turned round so far. -/
def turnB (bs : List UInt8) (k m : Nat) : UInt8 := if m < k ∨ bs.length - 1 - k < m then bs.getD (bs.length - 1 - m) 0 else bs.getD m 0
def Turned (bs : List UInt8) (k : Nat) (cs : Array Value) : Prop := ∀ m, m < bs.length → cs[m]? = some (.int .u8 ((turnB bs k m).toNat : Nat))
theorem turned_start (bs : List UInt8) {cs : Array Value} (h : ∀ m, m < bs.length → cs[m]? = some (.int .u8 ((bs.getD m 0).toNat : Nat))) : Turned bs 0 cs := by
  intro m hm
  rw [h m hm]
  unfold turnB
  rw [if_neg (by omega)]
theorem turned_step {bs : List UInt8} {k : Nat} {cs : Array Value} (h : Turned bs k cs) (hk : k < bs.length - 1 - k) :
    Turned bs (k + 1) ((cs.setIfInBounds k (.int .u8 ((turnB bs k (bs.length - 1 - k)).toNat : Nat))).setIfInBounds (bs.length - 1 - k) (.int .u8 ((turnB bs k k).toNat : Nat))) := by
  intro m hm
  have hc : ∀ i, i < bs.length → i < cs.size := fun i hi => by
    have := h i hi
    exact (Array.getElem?_eq_some_iff.1 this).1
  have e1 : turnB bs k k = bs.getD k 0 := by unfold turnB; rw [if_neg (by omega)]
  have e2 : turnB bs k (bs.length - 1 - k) = bs.getD (bs.length - 1 - k) 0 := by unfold turnB; rw [if_neg (by omega)]
  rw [e1, e2, Array.getElem?_setIfInBounds]
  by_cases hm1 : bs.length - 1 - k = m
  · have := hc m hm
    rw [if_pos hm1, if_pos (by simp; omega)]
    unfold turnB
    rw [if_pos (by omega), show bs.length - 1 - m = k by omega]
  · rw [if_neg hm1, Array.getElem?_setIfInBounds]
    by_cases hm2 : k = m
    · have := hc m hm
      rw [if_pos hm2, if_pos (by omega)]
      unfold turnB
      rw [if_pos (by omega), ← hm2]
    · rw [if_neg hm2, h m hm]
      unfold turnB
      by_cases hh : m < k ∨ bs.length - 1 - k < m
      · rw [if_pos hh, if_pos (by omega)]
      · rw [if_neg hh, if_neg (by omega)]
theorem turned_done {bs : List UInt8} {k : Nat} {cs : Array Value} (h : Turned bs k cs) (hk : ¬ k < bs.length - 1 - k) : ∀ m, m < bs.length → cs[m]? = some (.int .u8 ((bs.reverse.getD m 0).toNat : Nat)) := by
  intro m hm
  rw [h m hm]
  have er : bs.reverse.getD m 0 = bs.getD (bs.length - 1 - m) 0 := by
    simp [List.getD, List.getElem?_reverse hm]
  rw [er]
  unfold turnB
  by_cases hh : m < k ∨ bs.length - 1 - k < m
  · rw [if_pos hh]
  · rw [if_neg hh, show bs.length - 1 - m = m by omega]
end Go.Proofs.YtiolkeipgpkbmaaGreatDoor
