/-
  Rows of words that a call makes and writes, and the contract of quarterdaybig's add.
-/
import Derived.Test.YtiolkeipgpkbmaaGreatDoorZg4
import Derived.Test.YtiolkeipgpkbmaaGreatDoorProg
import Derived.WalkKit
import Derived.WalkSpells
import Derived.Below
import Derived.WalkSmall
import Derived.Laws.Rows
import Derived.Deep.OwnRows
namespace Go.Proofs.YtiolkeipgpkbmaaGreatDoor
set_option linter.unusedVariables false
set_option linter.unusedSimpArgs false
open Go.RowKit Go.Lib

/-- What is cut, with a mark where one was given. -/
def markK (cut : List Int) (s : List Nat) (k : Nat) : List Int := (List.range cut.length).map fun i => if i ∈ s.take k then -1 else cut.getD i 0
theorem markK_len (cut : List Int) (s : List Nat) (k : Nat) : (markK cut s k).length = cut.length := by simp [markK]
theorem markK_at (cut : List Int) (s : List Nat) (k : Nat) {i : Nat} (h : i < cut.length) : (markK cut s k).getD i 0 = if i ∈ s.take k then -1 else cut.getD i 0 := by
  simp [markK, List.getD_eq_getElem?_getD, h]
theorem markK_zero (cut : List Int) (s : List Nat) : markK cut s 0 = cut := by
  unfold markK
  have := range_getD cut
  conv => rhs; rw [← this]
  apply List.map_congr_left
  intro i hi
  simp
theorem markK_step (cut : List Int) (s : List Nat) (k : Nat) (hk : k < s.length) : (markK cut s k).set (s.getD k 0) (-1) = markK cut s (k + 1) := by
  have e : s.take (k + 1) = s.take k ++ [s.getD k 0] := take_one hk
  apply List.ext_getElem
  · simp [markK_len]
  · intro i h1 h2
    have gk : ∀ k (h : i < (markK cut s k).length), (markK cut s k)[i]'h = if i ∈ s.take k then -1 else cut.getD i 0 := fun k h => by simp [markK]
    rw [List.getElem_set, gk, gk, e]
    by_cases hi : s.getD k 0 = i
    · rw [if_pos hi, if_pos (by rw [← hi]; simp)]
    · rw [if_neg hi]
      have : i ∈ s.take k ++ [s.getD k 0] ↔ i ∈ s.take k := by
        rw [List.mem_append, List.mem_singleton]
        constructor
        · rintro (h | h)
          · exact h
          · exact absurd h.symm hi
        · exact Or.inl
      simp only [this]
theorem lt_total {cut : List Int} {i j : Nat} (h : ¬ LT cut i j) (hne : i ≠ j) : LT cut j i := by
  unfold LT at *; omega
/-- The greatest that is left is the next. -/
theorem mark_first {cut : List Int} {s : List Nat} (h1 : s.Perm (List.range cut.length)) (h2 : s.Pairwise (LT cut)) (h0 : ∀ x ∈ cut, 0 ≤ x) {k at_ : Nat} (hk : k < cut.length) (ha : at_ < cut.length) (h : ∀ j, j < cut.length → j ≠ at_ → LT (markK cut s k) at_ j) : at_ = s.getD k 0 := by
  have hl : s.length = cut.length := by rw [h1.length_eq]; simp
  have hnd : s.Nodup := h1.nodup_iff.2 List.nodup_range
  have hks : k < s.length := by omega
  have hm : s.getD k 0 < cut.length := by
    have : s.getD k 0 ∈ s := by
      rw [List.getD_eq_getElem?_getD, List.getElem?_eq_getElem hks]; exact List.getElem_mem hks
    exact List.mem_range.1 (h1.mem_iff.1 this)
  have hn := not_ahead hnd hks
  apply Classical.byContradiction
  intro hne
  have hL := h _ hm (fun e => hne e.symm)
  have hc : 0 ≤ cut.getD (s.getD k 0) 0 := by
    refine h0 _ ?_
    rw [List.getD_eq_getElem?_getD (l := cut), List.getElem?_eq_getElem hm]; exact List.getElem_mem hm
  have hR : LT (markK cut s k) (s.getD k 0) at_ := by
    by_cases hg : at_ ∈ s.take k
    · left
      rw [markK_at _ _ _ ha, markK_at _ _ _ hm, if_pos hg, if_neg hn]
      omega
    · have hin : at_ ∈ s := h1.mem_iff.2 (List.mem_range.2 ha)
      have e : s = s.take k ++ (s.getD k 0 :: s.drop (k + 1)) := by rw [← drop_one hks, List.take_append_drop]
      have hd : at_ ∈ s.drop (k + 1) := by
        have h3 : at_ ∈ s.take k ++ (s.getD k 0 :: s.drop (k + 1)) := by rw [← e]; exact hin
        rw [List.mem_append, List.mem_cons] at h3
        rcases h3 with h3 | h3 | h3
        · exact absurd h3 hg
        · exact absurd h3 hne
        · exact h3
      have hp : LT cut (s.getD k 0) at_ := by
        generalize s.getD k 0 = x at *
        rw [e] at h2
        exact (List.pairwise_cons.1 (List.pairwise_append.1 h2).2.1).1 at_ hd
      unfold LT at hp ⊢
      rw [markK_at _ _ _ ha, markK_at _ _ _ hm, if_neg hg, if_neg hn]
      exact hp
  exact hL.asymm hR
/-- The total's sign. -/
def sgS (t : Int) : Int := if t < 0 then -1 else 1
theorem sgS_size (t : Int) : sgS t * sizeI t = t := by unfold sgS sizeI; split <;> omega
theorem size_nonneg (t : Int) : 0 ≤ sizeI t := by unfold sizeI; split <;> omega
theorem sgS_two (t : Int) : sgS t = -1 ∨ sgS t = 1 := by unfold sgS; split <;> omega
theorem quot_sg (t x S : Int) (hx : 0 ≤ x) (hS : 0 < S) : (t * x).tdiv S = sgS t * (sizeI t * x / S) := by
  have hn : 0 ≤ sizeI t * x := Int.mul_nonneg (size_nonneg t) hx
  unfold sgS sizeI at *
  by_cases h : t < 0
  · rw [if_pos h] at *
    rw [if_pos h]
    have e : t * x = -(-t * x) := by rw [Int.neg_mul, Int.neg_neg]
    rw [e, Int.neg_tdiv, Int.tdiv_eq_ediv_of_nonneg hn]
    omega
  · rw [if_neg h] at *
    rw [if_neg h, Int.tdiv_eq_ediv_of_nonneg hn]
    omega
theorem rem_sg (t x S : Int) (hx : 0 ≤ x) (hS : 0 < S) : (if (t * x).tmod S < 0 then -(t * x).tmod S else (t * x).tmod S) = sizeI t * x % S := by
  have hn : 0 ≤ sizeI t * x := Int.mul_nonneg (size_nonneg t) hx
  unfold sizeI at *
  by_cases h : t < 0
  · rw [if_pos h] at *
    have e : t * x = -(-t * x) := by rw [Int.neg_mul, Int.neg_neg]
    have h1 : (t * x).tmod S = -(-t * x % S) := by
      rw [e, Int.neg_tmod, Int.tmod_eq_emod_of_nonneg hn]
    have h2 := Int.emod_nonneg (-t * x) (by omega : S ≠ 0)
    rw [h1]
    split <;> omega
  · rw [if_neg h] at *
    rw [Int.tmod_eq_emod_of_nonneg hn]
    have h2 := Int.emod_nonneg (t * x) (by omega : S ≠ 0)
    rw [if_neg (by omega)]
theorem part_le {T x S : Int} (hT : 0 ≤ T) (hx : 0 ≤ x) (hS : 0 < S) (hxS : x ≤ S) : 0 ≤ T * x / S ∧ T * x / S ≤ T := by
  refine ⟨Int.ediv_nonneg (Int.mul_nonneg hT hx) (by omega), ?_⟩
  have h1 : T * x ≤ T * S := Int.mul_le_mul_of_nonneg_left hxS hT
  have h2 := Int.ediv_le_ediv hS h1
  rw [Int.mul_ediv_cancel _ (by omega)] at h2
  exact h2
/-- What each has, with the sign. -/
def outK (t : Int) (ws : List Int) (s : List Nat) (k : Nat) : List Int := (rowK (sizeI t) ws s k).map (sgS t * ·)
theorem outK_len (t : Int) (ws : List Int) (s : List Nat) (k : Nat) : (outK t ws s k).length = ws.length := by simp [outK, rowK_len]
theorem outK_step (t : Int) (ws : List Int) (s : List Nat) (k : Nat) (hs : s.Nodup) (hk : k < s.length) (hb : s.getD k 0 < ws.length) : (outK t ws s k).set (s.getD k 0) ((outK t ws s k).getD (s.getD k 0) 0 + sgS t) = outK t ws s (k + 1) := by
  have h1 : (outK t ws s k).getD (s.getD k 0) 0 = sgS t * (partL (sizeI t) ws).getD (s.getD k 0) 0 := by
    have h2 := rowK_at (sizeI t) ws s k (s.getD k 0) hb
    rw [if_neg (not_ahead hs hk)] at h2
    unfold outK
    rw [List.getD_eq_getElem?_getD, List.getElem?_map]
    rw [List.getD_eq_getElem?_getD, List.getElem?_eq_getElem (by rw [rowK_len]; exact hb)] at h2
    rw [List.getElem?_eq_getElem (by rw [rowK_len]; exact hb)]
    simp only [Option.map_some, Option.getD_some] at h2 ⊢
    rw [h2, Int.add_zero]
  have h3 := rowK_step (sizeI t) ws s k hs hk hb
  unfold outK at h1 ⊢
  rw [h1, ← h3, List.map_set]
  congr 1
  rw [Int.mul_add, Int.mul_one]
theorem shareI_gross (t : Int) (ws : List Int) (i : Nat) : shareI t ws i = sgS t * grossI (sizeI t) ws i := by
  unfold shareI grossI sgS
  split <;> omega
theorem outK_all {t : Int} {ws : List Int} (h : GoodW ws) {s : List Nat} (h1 : s.Perm (List.range ws.length)) (h2 : s.Pairwise (LT (cutL (sizeI t) ws))) : outK t ws s (leftI (sizeI t) ws).toNat = (List.range ws.length).map (shareI t ws) := by
  unfold outK
  rw [rowK_all h h1 h2, List.map_map]
  apply List.map_congr_left
  intro i hi
  exact (shareI_gross t ws i).symm
theorem outK_zero (t : Int) (ws : List Int) (s : List Nat) : outK t ws s 0 = (partL (sizeI t) ws).map (sgS t * ·) := by unfold outK; rw [rowK_zero]
end Go.Proofs.YtiolkeipgpkbmaaGreatDoor

namespace Go.Proofs.YtiolkeipgpkbmaaGreatDoor.Big
set_option linter.unusedVariables false

/-- The number of some words. -/
def val : List Nat → Nat
  | [] => 0
  | x :: t => x + 4294967296 * val t

/-- How many words are left without the noughts at the end. -/
def tl (l : List Nat) : Nat → Nat
  | 0 => 0
  | n + 1 => if l.getD n 0 = 0 then tl l n else n + 1

/-- Each is a word. -/
def Ok (l : List Nat) : Prop := ∀ i, i < l.length → l.getD i 0 < 4294967296
/-- No nought at the end. -/
def Nrm (l : List Nat) : Prop := l.length = 0 ∨ l.getD (l.length - 1) 0 ≠ 0

theorem tl_zero (l : List Nat) (n : Nat) (h : l.getD n 0 = 0) : tl l (n + 1) = tl l n := by rw [tl, if_pos h]
theorem tl_pos (l : List Nat) (n : Nat) (h : l.getD n 0 ≠ 0) : tl l (n + 1) = n + 1 := by rw [tl, if_neg h]

theorem val_append (a b : List Nat) : val (a ++ b) = val a + 4294967296 ^ a.length * val b := by
  induction a with
  | nil => simp [val]
  | cons x t ih =>
    simp only [List.cons_append, val, ih, List.length_cons, Nat.pow_succ]
    rw [Nat.mul_add, ← Nat.mul_assoc, Nat.mul_comm 4294967296 (4294967296 ^ t.length), Nat.add_assoc]

theorem take_snoc (l : List Nat) (k : Nat) (h : k < l.length) : l.take (k + 1) = l.take k ++ [l.getD k 0] := by
  rw [List.take_succ_eq_append_getElem h]
  simp [h]

theorem val_take_succ (l : List Nat) (k : Nat) (h : k < l.length) : val (l.take (k + 1)) = val (l.take k) + 4294967296 ^ k * l.getD k 0 := by
  rw [take_snoc l k h, val_append]
  simp [val, Nat.min_eq_left (Nat.le_of_lt h)]

theorem tl_le (l : List Nat) (n : Nat) : tl l n ≤ n := by
  induction n with
  | zero => simp [tl]
  | succ n ih => unfold tl; split <;> omega

theorem val_tl (l : List Nat) (n : Nat) (h : n ≤ l.length) : val (l.take (tl l n)) = val (l.take n) := by
  induction n with
  | zero => simp [tl]
  | succ n ih =>
    unfold tl
    split
    · rename_i h0
      rw [ih (by omega), val_take_succ l n (by omega), h0]
      simp
    · rfl

theorem getD_take (l : List Nat) (n i : Nat) (h : i < n) : (l.take n).getD i 0 = l.getD i 0 := by
  simp [List.getD, h]

theorem ok_take {l : List Nat} (h : Ok l) (n : Nat) : Ok (l.take n) := by
  intro i hi
  have h1 : i < n := by simp at hi; omega
  have h2 : i < l.length := by simp at hi; omega
  rw [getD_take l n i h1]
  exact h i h2

theorem nrm_tl (l : List Nat) (n : Nat) (h : n ≤ l.length) : Nrm (l.take (tl l n)) := by
  induction n with
  | zero => exact .inl (by simp [tl])
  | succ n ih =>
    unfold tl
    split
    · exact ih (by omega)
    · rename_i h0
      right
      have e : (l.take (n + 1)).length = n + 1 := by simp; omega
      rw [e, Nat.add_sub_cancel, getD_take l (n + 1) n (by omega)]
      exact h0

theorem val_lt {l : List Nat} (h : Ok l) : val l < 4294967296 ^ l.length := by
  induction l with
  | nil => simp [val]
  | cons x t ih =>
    have hx : x < 4294967296 := by simpa using h 0 (by simp)
    have ht : Ok t := fun i hi => by simpa using h (i + 1) (by simp; omega)
    have := ih ht
    simp only [val, List.length_cons, Nat.pow_succ]
    omega

theorem val_ge {l : List Nat} (h : Nrm l) (hn : 0 < l.length) : 4294967296 ^ (l.length - 1) ≤ val l := by
  have h0 : l.getD (l.length - 1) 0 ≠ 0 := by
    rcases h with h | h
    · omega
    · exact h
  have e := val_take_succ l (l.length - 1) (by omega)
  rw [Nat.sub_add_cancel hn, List.take_length] at e
  rw [e]
  have h1 : 4294967296 ^ (l.length - 1) * 1 ≤ 4294967296 ^ (l.length - 1) * l.getD (l.length - 1) 0 := Nat.mul_le_mul_left _ (by omega)
  omega

theorem val_zero {l : List Nat} (h : Nrm l) : val l = 0 ↔ l = [] := by
  constructor
  · intro e
    rcases Nat.eq_zero_or_pos l.length with h0 | h0
    · exact List.eq_nil_of_length_eq_zero h0
    · have := val_ge h h0
      have := Nat.pow_pos (n := l.length - 1) (by omega : 0 < 4294967296)
      omega
  · rintro rfl; rfl

theorem take_set_lt (r : List Nat) (k d : Nat) : (r.set k d).take k = r.take k := by
  rw [List.take_set, List.set_eq_of_length_le (by simp; omega)]
theorem getD_set_same (r : List Nat) (k d : Nat) (h : k < r.length) : (r.set k d).getD k 0 = d := by simp [List.getD, h]
theorem val_set (r : List Nat) (k d : Nat) (h : k < r.length) : val ((r.set k d).take (k + 1)) = val (r.take k) + 4294967296 ^ k * d := by
  rw [val_take_succ _ k (by simpa using h), take_set_lt, getD_set_same r k d h]
theorem ok_set {r : List Nat} (h : Ok r) (k d : Nat) (hd : d < 4294967296) : Ok (r.set k d) := by
  intro i hi
  rw [List.length_set] at hi
  rcases Nat.decEq i k with hne | rfl
  · have := h i hi
    simp only [List.getD, List.getElem?_set_ne (fun e => hne e.symm)] at this ⊢
    exact this
  · rw [getD_set_same r i d hi]; exact hd
theorem ok_replicate (n : Nat) : Ok (List.replicate n 0) := by
  intro i hi
  simp at hi
  simp [List.getD, hi]
/-- A list beyond its end. -/
theorem take_getD (l : List Nat) (k : Nat) : val (l.take (k + 1)) = val (l.take k) + 4294967296 ^ k * l.getD k 0 := by
  rcases Nat.lt_or_ge k l.length with h | h
  · exact val_take_succ l k h
  · rw [List.take_of_length_le (by omega), List.take_of_length_le h]
    simp [List.getD, List.getElem?_eq_none h]

theorem split_word (c : Nat) : 4294967296 * (c / 4294967296) + c % 4294967296 = c := Nat.div_add_mod c 4294967296

/-- A round of the sum of two. -/
theorem add_step (a b r : List Nat) (k c : Nat) (hk : k < r.length) (h : val (r.take k) + 4294967296 ^ k * c = val (a.take k) + val (b.take k)) :
    val ((r.set k ((c + a.getD k 0 + b.getD k 0) % 4294967296)).take (k + 1)) + 4294967296 ^ (k + 1) * ((c + a.getD k 0 + b.getD k 0) / 4294967296) = val (a.take (k + 1)) + val (b.take (k + 1)) := by
  rw [val_set r k _ hk, take_getD a k, take_getD b k, Nat.pow_succ, Nat.mul_assoc, Nat.add_assoc, ← Nat.mul_add, Nat.add_comm (_ % _), split_word]
  rw [Nat.mul_add, Nat.mul_add]
  omega

/-- A round of the difference of two. -/
theorem sub_step (a b r : List Nat) (k c t c' : Nat) (hk : k < r.length) (h : val (r.take k) + val (b.take k) = val (a.take k) + 4294967296 ^ k * c) (ht : c' * 4294967296 + a.getD k 0 = t + c + b.getD k 0) :
    val ((r.set k t).take (k + 1)) + val (b.take (k + 1)) = val (a.take (k + 1)) + 4294967296 ^ (k + 1) * c' := by
  rw [val_set r k _ hk, take_getD a k, take_getD b k, Nat.pow_succ, Nat.mul_assoc]
  have e : 4294967296 ^ k * (c' * 4294967296 + a.getD k 0) = 4294967296 ^ k * (t + c + b.getD k 0) := by rw [ht]
  rw [Nat.mul_add, Nat.mul_add, Nat.mul_add] at e
  rw [Nat.mul_comm 4294967296 c']
  omega

/-- The longer of two is the greater. -/
theorem len_le {a b : List Nat} (ha : Ok a) (hb : Nrm b) (h : val b ≤ val a) : b.length ≤ a.length := by
  rcases Nat.eq_zero_or_pos b.length with h0 | h0
  · omega
  · apply Classical.byContradiction
    intro hn
    have h1 := val_lt ha
    have h2 := val_ge hb h0
    have h3 : 4294967296 ^ a.length ≤ 4294967296 ^ (b.length - 1) := Nat.pow_le_pow_right (by omega) (by omega)
    omega
theorem len_lt {a b : List Nat} (ha : Ok a) (hb : Nrm b) (h : a.length < b.length) : val a < val b := by
  apply Classical.byContradiction
  intro hn
  have := len_le ha hb (by omega)
  omega

/-- Two of one length, the same from word k on, differ as their first words do. -/
theorem top_lt {a b : List Nat} (ha : Ok a) (j : Nat) (h1 : j < a.length) (h2 : j < b.length) (hlen : a.length = b.length) (hs : a.drop (j + 1) = b.drop (j + 1)) (hlt : a.getD j 0 < b.getD j 0) : val a < val b := by
  have e1 : val a = val (a.take (j + 1)) + 4294967296 ^ (j + 1) * val (a.drop (j + 1)) := by
    have := val_append (a.take (j + 1)) (a.drop (j + 1))
    rw [List.take_append_drop] at this
    rw [this]; simp [Nat.min_eq_left h1]
  have e2 : val b = val (b.take (j + 1)) + 4294967296 ^ (j + 1) * val (b.drop (j + 1)) := by
    have := val_append (b.take (j + 1)) (b.drop (j + 1))
    rw [List.take_append_drop] at this
    rw [this]; simp [Nat.min_eq_left h2]
  rw [e1, e2, hs, val_take_succ a j h1, val_take_succ b j h2]
  have h3 := val_lt (ok_take ha j)
  rw [List.length_take, Nat.min_eq_left (Nat.le_of_lt h1)] at h3
  have h4 : 4294967296 ^ j * (a.getD j 0 + 1) ≤ 4294967296 ^ j * b.getD j 0 := Nat.mul_le_mul_left _ hlt
  rw [Nat.mul_add, Nat.mul_one] at h4
  omega
end Go.Proofs.YtiolkeipgpkbmaaGreatDoor.Big

namespace Go.Proofs.YtiolkeipgpkbmaaGreatDoor
namespace Big
set_option linter.unusedVariables false

/-- Words shifted to the left, with what comes in. -/
def shlL (s : Nat) : Nat → List Nat → List Nat
  | c, [] => [c]
  | c, x :: t => (c + x * 2 ^ s % 4294967296) :: shlL s (x * 2 ^ s / 4294967296) t
theorem shlL_len (s : Nat) : ∀ (c : Nat) (l : List Nat), (shlL s c l).length = l.length + 1
  | _, [] => rfl
  | c, x :: t => by rw [shlL, List.length_cons, shlL_len s _ t, List.length_cons]
theorem shlL_val (s : Nat) : ∀ (c : Nat) (l : List Nat), val (shlL s c l) = c + val l * 2 ^ s
  | c, [] => by simp [shlL, val]
  | c, x :: t => by
    rw [shlL, val, shlL_val s _ t, val]
    have h := Nat.div_add_mod (x * 2 ^ s) 4294967296
    generalize x * 2 ^ s / 4294967296 = q at *
    generalize x * 2 ^ s % 4294967296 = r at *
    rw [Nat.mul_add, Nat.add_mul, ← h]
    have e : 4294967296 * val t * 2 ^ s = 4294967296 * (val t * 2 ^ s) := Nat.mul_assoc _ _ _
    omega
theorem pow_split32 {s : Nat} (hs : s < 32) : 2 ^ s * 2 ^ (32 - s) = 4294967296 := by
  rw [← Nat.pow_add, show s + (32 - s) = 32 by omega]
theorem mod_mult {s x : Nat} (hs : s < 32) : x * 2 ^ s % 4294967296 + 2 ^ s ≤ 4294967296 := by
  have h1 : x * 2 ^ s % 4294967296 = x % 2 ^ (32 - s) * 2 ^ s := by
    rw [← pow_split32 hs, Nat.mul_comm (2 ^ s), Nat.mul_mod_mul_right]
  have h2 : x % 2 ^ (32 - s) < 2 ^ (32 - s) := Nat.mod_lt _ (Nat.pow_pos (by omega))
  have h3 : (x % 2 ^ (32 - s) + 1) * 2 ^ s ≤ 2 ^ (32 - s) * 2 ^ s := Nat.mul_le_mul_right _ h2
  rw [h1]
  rw [Nat.mul_comm (2 ^ (32 - s)), pow_split32 hs, Nat.add_mul] at h3
  omega
theorem carry_lt {s x : Nat} (hs : s < 32) (hx : x < 4294967296) : x * 2 ^ s / 4294967296 < 2 ^ s := by
  rw [Nat.div_lt_iff_lt_mul (by omega)]
  rw [Nat.mul_comm (2 ^ s)]
  exact Nat.mul_lt_mul_of_pos_right hx (Nat.pow_pos (by omega))
theorem ok_cons {x : Nat} {l : List Nat} (hx : x < 4294967296) (h : Ok l) : Ok (x :: l) := fun i hi => by
  cases i with
  | zero => simpa using hx
  | succ i => simpa using h i (by simpa using hi)
theorem ok_tail {x : Nat} {l : List Nat} (h : Ok (x :: l)) : x < 4294967296 ∧ Ok l := ⟨by simpa using h 0 (by simp), fun i hi => by simpa using h (i + 1) (by simpa using hi)⟩
theorem pow_le_32 {s : Nat} (hs : s < 32) : 2 ^ s ≤ 4294967296 := by
  have := Nat.pow_le_pow_right (n := 2) (by omega) (show s ≤ 32 by omega)
  simpa using this
theorem shlL_ok {s : Nat} (hs : s < 32) : ∀ (c : Nat) (l : List Nat), c < 2 ^ s → Ok l → Ok (shlL s c l)
  | c, [], hc, _ => ok_cons (Nat.lt_of_lt_of_le hc (pow_le_32 hs)) (fun i hi => by simp at hi)
  | c, x :: t, hc, h => by
    obtain ⟨hx, ht⟩ := ok_tail h
    rw [shlL]
    refine ok_cons ?_ (shlL_ok hs _ t (carry_lt hs hx) ht)
    have := mod_mult (x := x) hs
    omega

/-- One word more is shifted. -/
theorem shl_snoc {s : Nat} (hs : s < 32) (x : Nat) (hx : x < 4294967296) : ∀ (l : List Nat) (c : Nat), c < 2 ^ s → Ok l → ∃ pre cy, shlL s c l = pre ++ [cy] ∧ pre.length = l.length ∧ cy < 2 ^ s ∧ shlL s c (l ++ [x]) = pre ++ [cy + x * 2 ^ s % 4294967296, x * 2 ^ s / 4294967296]
  | [], c, hc, _ => ⟨[], c, rfl, rfl, hc, rfl⟩
  | y :: t, c, hc, h => by
    obtain ⟨hy, ht⟩ := ok_tail h
    obtain ⟨pre, cy, e1, e2, e3, e4⟩ := shl_snoc hs x hx t (y * 2 ^ s / 4294967296) (carry_lt hs hy) ht
    refine ⟨(c + y * 2 ^ s % 4294967296) :: pre, cy, ?_, by simp [e2], e3, ?_⟩
    · rw [shlL, e1]; rfl
    · rw [List.cons_append, shlL, e4]; rfl
/-- The row between the rounds. -/
def shlSt (s : Nat) (l : List Nat) (i : Nat) : List Nat := shlL s 0 (l.take i) ++ List.replicate (l.length - i) 0
theorem shlSt_len (s : Nat) (l : List Nat) (i : Nat) (h : i ≤ l.length) : (shlSt s l i).length = l.length + 1 := by
  unfold shlSt
  rw [List.length_append, shlL_len, List.length_take, List.length_replicate]
  omega
theorem shlSt_zero (s : Nat) (l : List Nat) : shlSt s l 0 = List.replicate (l.length + 1) 0 := by
  unfold shlSt
  rw [List.take_zero, shlL, Nat.sub_zero]
  rfl
theorem shlSt_all (s : Nat) (l : List Nat) : shlSt s l l.length = shlL s 0 l := by
  unfold shlSt
  rw [List.take_length, Nat.sub_self, List.replicate_zero, List.append_nil]
theorem shlSt_next {s : Nat} (hs : s < 32) (l : List Nat) (ho : Ok l) (i : Nat) (h : i < l.length) : ∃ cy, cy < 2 ^ s ∧ (shlSt s l i).getD i 0 = cy ∧ (shlSt s l i).getD (i + 1) 0 = 0 ∧ ((shlSt s l i).set i (cy + l.getD i 0 * 2 ^ s % 4294967296)).set (i + 1) (l.getD i 0 * 2 ^ s / 4294967296) = shlSt s l (i + 1) := by
  obtain ⟨pre, cy, e1, e2, e3, e4⟩ := shl_snoc hs (l.getD i 0) (ho i h) (l.take i) 0 (Nat.pow_pos (by omega)) (ok_take ho i)
  have hpl : pre.length = i := by rw [e2, List.length_take]; omega
  have hrep : List.replicate (l.length - i) 0 = 0 :: List.replicate (l.length - (i + 1)) 0 := by
    rw [show l.length - i = (l.length - (i + 1)) + 1 by omega, List.replicate_succ]
  have est : shlSt s l i = pre ++ cy :: 0 :: List.replicate (l.length - (i + 1)) 0 := by
    unfold shlSt; rw [e1, hrep, List.append_assoc]; rfl
  refine ⟨cy, e3, ?_, ?_, ?_⟩
  · rw [est, List.getD_eq_getElem?_getD, List.getElem?_append_right (by omega), hpl, Nat.sub_self]; rfl
  · rw [est, List.getD_eq_getElem?_getD, List.getElem?_append_right (by omega), hpl, show i + 1 - i = 1 by omega]; rfl
  · have e5 : shlSt s l (i + 1) = pre ++ [cy + l.getD i 0 * 2 ^ s % 4294967296, l.getD i 0 * 2 ^ s / 4294967296] ++ List.replicate (l.length - (i + 1)) 0 := by
      unfold shlSt; rw [take_snoc l i h, e4]
    rw [est, e5, List.set_append_right _ _ (by omega), hpl, Nat.sub_self, List.set_cons_zero, List.set_append_right _ _ (by omega), hpl, show i + 1 - i = 1 by omega, List.set_cons_succ, List.set_cons_zero, List.append_assoc]
    rfl
/-- Words shifted to the right. -/
def shrL (s : Nat) : List Nat → List Nat
  | [] => []
  | [x] => [x / 2 ^ s]
  | x :: y :: t => ((x + 4294967296 * y) / 2 ^ s % 4294967296) :: shrL s (y :: t)
theorem shrL_len (s : Nat) : ∀ l : List Nat, (shrL s l).length = l.length
  | [] => rfl
  | [x] => rfl
  | x :: y :: t => by rw [shrL, List.length_cons, shrL_len s (y :: t)]; rfl
theorem shr_step (s x y z : Nat) (hs : s < 32) (hx : x < 4294967296) : (x + 4294967296 * y) / 2 ^ s % 4294967296 + 4294967296 * ((y + 4294967296 * z) / 2 ^ s) = (x + 4294967296 * (y + 4294967296 * z)) / 2 ^ s := by
  have hp : 0 < 2 ^ s := Nat.pow_pos (by omega)
  have e1 := pow_split32 hs
  generalize hP : 2 ^ s = P at *
  generalize 2 ^ (32 - s) = Q at *
  -- 4294967296 = P * Q
  have hy := Nat.div_add_mod y P
  generalize y / P = yq at *
  generalize hyr : y % P = yr at *
  have hyrl : yr < P := by rw [← hyr]; exact Nat.mod_lt _ hp
  have a1 : (y + 4294967296 * z) / P = yq + Q * z := by
    rw [← e1, ← hy, show P * yq + yr + P * Q * z = yr + P * (yq + Q * z) by rw [Nat.mul_add, Nat.mul_assoc]; omega, Nat.add_mul_div_left _ _ hp, Nat.div_eq_of_lt hyrl, Nat.zero_add]
  have a2 : (x + 4294967296 * y) / P = x / P + Q * y := by
    rw [← e1, Nat.mul_assoc, Nat.add_mul_div_left _ _ hp]
  have a3 : (x + 4294967296 * (y + 4294967296 * z)) / P = x / P + Q * (y + 4294967296 * z) := by
    rw [show 4294967296 * (y + 4294967296 * z) = P * (Q * (y + 4294967296 * z)) by rw [← Nat.mul_assoc, e1], Nat.add_mul_div_left _ _ hp]
  rw [a1, a2, a3]
  have a4 : x / P + Q * y = (x / P + Q * yr) + 4294967296 * yq := by
    rw [← hy, Nat.mul_add, ← Nat.mul_assoc, Nat.mul_comm Q P, e1]; omega
  rw [a4, Nat.add_mul_mod_self_left, Nat.mul_add Q, ← Nat.mul_assoc Q, Nat.mul_comm Q 4294967296, Nat.mul_assoc 4294967296 Q z]
  have a5 : Q * y = Q * yr + 4294967296 * yq := by
    rw [← hy, Nat.mul_add, ← Nat.mul_assoc, Nat.mul_comm Q P, e1]; omega
  rw [a5, Nat.mul_add 4294967296 yq]
  have a6 : x / P < Q := by
    rw [Nat.div_lt_iff_lt_mul hp, Nat.mul_comm, e1]; exact hx
  have a7 : Q * (yr + 1) ≤ Q * P := Nat.mul_le_mul_left _ hyrl
  rw [Nat.mul_comm Q P, e1, Nat.mul_add] at a7
  rw [Nat.mod_eq_of_lt (by omega)]
  omega
theorem shrL_val {s : Nat} (hs : s < 32) : ∀ l : List Nat, Ok l → val (shrL s l) = val l / 2 ^ s
  | [], _ => by simp [shrL, val]
  | [x], _ => by simp [shrL, val]
  | x :: y :: t, h => by
    obtain ⟨hx, ht⟩ := ok_tail h
    have ih := shrL_val hs (y :: t) ht
    rw [shrL, val, ih]
    have := shr_step s x y (val t) hs hx
    simp only [val]
    exact this
theorem shrL_ok {s : Nat} (hs : s < 32) : ∀ l : List Nat, Ok l → Ok (shrL s l)
  | [], _ => fun i hi => by simp [shrL] at hi
  | [x], h => by
    obtain ⟨hx, _⟩ := ok_tail h
    exact ok_cons (Nat.lt_of_le_of_lt (Nat.div_le_self _ _) hx) (fun i hi => by simp at hi)
  | x :: y :: t, h => by
    obtain ⟨hx, ht⟩ := ok_tail h
    rw [shrL]
    exact ok_cons (Nat.mod_lt _ (by omega)) (shrL_ok hs (y :: t) ht)

theorem shrL_at (s : Nat) : ∀ (l : List Nat) (i : Nat), i < l.length → (shrL s l).getD i 0 = if i + 1 < l.length then (l.getD i 0 + 4294967296 * l.getD (i + 1) 0) / 2 ^ s % 4294967296 else l.getD i 0 / 2 ^ s
  | [x], 0, _ => by simp [shrL]
  | x :: y :: t, 0, _ => by simp [shrL]
  | x :: y :: t, i + 1, h => by
    have ih := shrL_at s (y :: t) i (by simpa using h)
    rw [shrL, List.getD_cons_succ, ih]
    simp only [List.length_cons, List.getD_cons_succ]
    by_cases c : i + 1 < t.length + 1
    · rw [if_pos c, if_pos (by omega)]
    · rw [if_neg c, if_neg (by omega)]
/-- The row between the rounds. -/
def shrSt (s : Nat) (l : List Nat) (i : Nat) : List Nat := (shrL s l).take i ++ List.replicate (l.length - i) 0
theorem shrSt_len (s : Nat) (l : List Nat) (i : Nat) (h : i ≤ l.length) : (shrSt s l i).length = l.length := by
  unfold shrSt
  rw [List.length_append, List.length_take, shrL_len, List.length_replicate]
  omega
theorem shrSt_zero (s : Nat) (l : List Nat) : shrSt s l 0 = List.replicate l.length 0 := by
  unfold shrSt
  rw [List.take_zero, Nat.sub_zero]
  rfl
theorem shrSt_all (s : Nat) (l : List Nat) : shrSt s l l.length = shrL s l := by
  unfold shrSt
  rw [List.take_of_length_le (by rw [shrL_len]; exact Nat.le_refl _), Nat.sub_self, List.replicate_zero, List.append_nil]
theorem shrSt_next (s : Nat) (l : List Nat) (i : Nat) (h : i < l.length) : (shrSt s l i).set i ((shrL s l).getD i 0) = shrSt s l (i + 1) := by
  unfold shrSt
  have hl : ((shrL s l).take i).length = i := by rw [List.length_take, shrL_len]; omega
  rw [List.set_append_right _ _ (by omega), hl, Nat.sub_self, show l.length - i = (l.length - (i + 1)) + 1 by omega, List.replicate_succ, List.set_cons_zero, take_snoc _ i (by rw [shrL_len]; exact h), List.append_assoc]
  rfl

/-- The guess, and what holds of it as it goes down: g * top + r = h, and it is not too small. -/
structure Guess (B U top nxt h uj g r : Nat) : Prop where
  eq : g * top + r = h
  ge : U / (top * B + nxt) ≤ g
theorem guess_mul {B top nxt h uj g r U : Nat} (e : g * top + r = h) (hU : U = h * B + uj) : g * (top * B + nxt) + (r * B + uj) = U + g * nxt := by
  rw [hU, ← e, Nat.mul_add, Nat.add_mul, ← Nat.mul_assoc]
  omega
/-- Where the test says that it is right, it is. -/
theorem guess_exit {B U top nxt h uj g r : Nat} (hg : Guess B U top nxt h uj g r) (hU : U = h * B + uj) (hV : 0 < top * B + nxt) (ht : g * nxt ≤ r * B + uj) : g = U / (top * B + nxt) := by
  refine Nat.le_antisymm ?_ hg.ge
  have := guess_mul (nxt := nxt) hg.eq hU
  rw [Nat.le_div_iff_mul_le hV]
  omega
theorem guess_less {B U top nxt h uj g r : Nat} (hg : Guess B U top nxt h uj g r) (h0 : 0 < g) (hlt : U / (top * B + nxt) < g) : Guess B U top nxt h uj (g - 1) (r + top) := by
  refine ⟨?_, by omega⟩
  obtain ⟨k, rfl⟩ : ∃ k, g = k + 1 := ⟨g - 1, by omega⟩
  have e := hg.eq
  rw [Nat.add_mul, Nat.one_mul] at e
  rw [Nat.add_sub_cancel]
  omega
theorem guess_next {B U top nxt h uj g r : Nat} (hg : Guess B U top nxt h uj g r) (hU : U = h * B + uj) (hV : 0 < top * B + nxt) (hbad : r * B + uj < g * nxt) : Guess B U top nxt h uj (g - 1) (r + top) ∧ 0 < g := by
  have g0 : 0 < g := by
    rcases Nat.eq_zero_or_pos g with h0 | h0
    · rw [h0, Nat.zero_mul] at hbad; omega
    · exact h0
  have hlt : U / (top * B + nxt) < g := by
    have := guess_mul (nxt := nxt) hg.eq hU
    rw [Nat.div_lt_iff_lt_mul hV]
    omega
  exact ⟨guess_less hg g0 hlt, g0⟩
theorem guess_great {B U top nxt h uj g r : Nat} (hg : Guess B U top nxt h uj g r) (hV : 0 < top * B + nxt) (hlt : U < (top * B + nxt) * B) (hbad : B ≤ g) (hB : 0 < B) : Guess B U top nxt h uj (g - 1) (r + top) ∧ 0 < g := by
  have hq : U / (top * B + nxt) < B := by
    rw [Nat.div_lt_iff_lt_mul hV, Nat.mul_comm]; exact hlt
  exact ⟨guess_less hg (by omega) (by omega), by omega⟩
/-- Where the rest has grown past a word, the guess is right. -/
theorem guess_break {B U top nxt h uj g r : Nat} (hg : Guess B U top nxt h uj g r) (hU : U = h * B + uj) (hV : 0 < top * B + nxt) (hn : nxt < B) (hgB : g ≤ B) (hr : B ≤ r) : g = U / (top * B + nxt) := by
  refine guess_exit hg hU hV ?_
  have h1 : g * nxt ≤ B * nxt := Nat.mul_le_mul_right _ hgB
  have h2 : B * nxt ≤ B * B := Nat.mul_le_mul_left _ (by omega)
  have h3 : B * B ≤ r * B := Nat.mul_le_mul_right _ hr
  omega
/-- The first guess is at most one more than a word. -/
theorem guess_first {B top nxt h : Nat} (ht : B ≤ 2 * top) (hn : nxt < B) (hh : h < top * B + nxt) : h / top ≤ B + 1 := by
  have h0 : 0 < top := by omega
  have h1 : h / top < B + 2 := by
    rw [Nat.div_lt_iff_lt_mul h0, Nat.add_mul, Nat.mul_comm B top]
    omega
  omega
theorem guess_start {B U top nxt h uj : Nat} (hU : U = h * B + uj) (hu : uj < B) (h0 : 0 < top) : Guess B U top nxt h uj (h / top) (h % top) := by
  refine ⟨by rw [Nat.mul_comm]; exact Nat.div_add_mod h top, ?_⟩
  have hB : 0 < B := by omega
  have h1 : U / (top * B + nxt) ≤ U / (top * B) := Nat.div_le_div_left (by omega) (Nat.mul_pos h0 hB)
  have h2 : U / (top * B) = h / top := by
    rw [Nat.mul_comm top B, ← Nat.div_div_eq_div_mul, hU, Nat.mul_comm h B, Nat.mul_add_div hB, Nat.div_eq_of_lt hu, Nat.add_zero]
  omega

/-- What holds between the rounds of the long division. -/
structure Long (A V : Nat) (u q : List Nat) (j : Nat) : Prop where
  lu : u.length = 5
  lq : q.length = 3
  ou : Ok u
  oq : Ok q
  eq : val u + V * (4294967296 ^ j * val (q.drop j)) = A
  lt : val (u.drop j) < V
end Big
end Go.Proofs.YtiolkeipgpkbmaaGreatDoor

namespace Go.Proofs.YtiolkeipgpkbmaaGreatDoor
set_option linter.unusedVariables false
open Go.RowKit Big

/-- A list of words in memory. -/
structure Wd (w : World) (v : Value) (l : List Nat) : Prop where
  ok : Ok l
  len : l.length ≤ 140737488355328
  at_ : (l = [] ∧ ∃ a cap, v = .slice a 0 cap) ∨ (0 < l.length ∧ ∃ b off cap, v = .slice (some ⟨b, off, none⟩) l.length cap ∧ b < w.heap.size ∧ l.length ≤ cap ∧ ∀ i, i < l.length → w.cell? ⟨b, off + i, none⟩ = some (.int .u32 (l.getD i 0 : Nat)))

/-- Words stay where nothing but a block that is not theirs is written. -/
theorem Wd.keep {w w' : World} {v : Value} {l : List Nat} {row : Option Nat} (h : Wd w v l) (hg : w.grownBy w' row) (hr : ∀ b off n cap, v = .slice (some ⟨b, off, none⟩) n cap → some b ≠ row) : Wd w' v l := by
  refine ⟨h.ok, h.len, ?_⟩
  rcases h.at_ with ⟨h0, a, cap, hv⟩ | ⟨h0, b, off, cap, hv, hb, hcap, hc⟩
  · exact .inl ⟨h0, a, cap, hv⟩
  · exact .inr ⟨h0, b, off, cap, hv, Nat.lt_of_lt_of_le hb hg.size, hcap, fun i hi => hg.cell (hc i hi) (hr b off _ cap hv)⟩

theorem Wd.grow {w w' : World} {v : Value} {l : List Nat} (h : Wd w v l) (hg : w.grownBy w' none) : Wd w' v l := h.keep hg (fun _ _ _ _ _ => by simp)

theorem wd_nil (w : World) (a : Option Addr) (cap : Nat) : Wd w (.slice a 0 cap) [] := ⟨fun i hi => by simp at hi, by simp, .inl ⟨rfl, a, cap, rfl⟩⟩
theorem wd_take {w : World} {b off n cap : Nat} {l : List Nat} (h : Wd w (.slice (some ⟨b, off, none⟩) n cap) l) (k : Nat) (hk : k ≤ l.length) : Wd w (.slice (some ⟨b, off, none⟩) k cap) (l.take k) := by
  rcases Nat.eq_zero_or_pos k with rfl | hp
  · exact wd_nil w _ _
  · have e : (l.take k).length = k := by simp; omega
    refine ⟨ok_take h.ok k, by rw [e]; have := h.len; omega, .inr ?_⟩
    rcases h.at_ with ⟨h0, a, cap', hv⟩ | ⟨h0, b', off', cap', hv, hb, hcap, hc⟩
    · subst h0; simp at hk; omega
    · cases hv
      refine ⟨by omega, b, off, cap, by rw [e], hb, by omega, fun i hi => ?_⟩
      rw [e] at hi
      rw [getD_take l k i hi]
      exact hc i (by omega)

set_option maxHeartbeats 1000000 in
theorem trim_any (v : Value) (l : List Nat) (w : World) (h : Wd w v l) :
    Calls Tryz.prog 107 #[v] w fun e w' => (∃ v', e = .returned v' ∧ Wd w v' (l.take (tl l l.length))) ∧ w' = w := by
  have hlen := h.len
  rcases h.at_ with ⟨h0, a, cap, hv⟩ | ⟨h0, b, off, cap, hv, hb, hcap, hc⟩
  · subst h0; subst hv
    go_enter Tryz.func107, Tryz.ntmps107
    go_wp2
    refine wp_loop_rounds 1 ?_
    rw [rounds_succ]
    cases a with
    | none =>
      go_wp2
      go_ret
      exact ⟨⟨_, rfl, wd_nil _ _ _⟩, rfl⟩
    | some a =>
      go_wp2
      go_ret
      exact ⟨⟨_, rfl, wd_nil _ _ _⟩, rfl⟩
  · subst hv
    have Hc : Hid (∀ i, i < l.length → w.cell? ⟨b, off + i, none⟩ = some (.int .u32 (l.getD i 0 : Nat))) := hc
    have Ho : Hid (Ok l) := h.ok
    have Hr : Hid (Wd w (.slice (some ⟨b, off, none⟩) l.length cap) l) := h
    clear hc h
    go_enter Tryz.func107, Tryz.ntmps107
    go_wp2
    go_loop [3] (fun n => ∃ k : Nat, k ≤ l.length ∧ n = .int .i64 k ∧ Hid (tl l k = tl l l.length)) (fun n => (RowKit.intOf n).toNat)
    case atStart => exact ⟨l.length, Nat.le_refl _, rfl, rfl⟩
    case round =>
      obtain ⟨k, hk, rfl, Hk⟩ := hrel
      cases k with
      | zero =>
        go_wp2
        go_ret
        refine ⟨⟨_, rfl, ?_⟩, rfl⟩
        rw [← Hk.out]
        exact wd_take Hr.out 0 (by omega)
      | succ j =>
        have hcj := Hc.out j (by omega)
        by_cases hz : l.getD j 0 = 0
        · rw [hz] at hcj
          have Hk2 : Hid (tl l j = tl l l.length) := by
            have := Hk.out; rw [tl_zero l j hz] at this; exact this
          clear Hk hz
          go_wp2
          go_round
          case rel => exact ⟨j, by omega, by go_num, Hk2⟩
          case measure => simp [RowKit.intOf]
        · have hb1 := Ho.out j (by omega)
          have Hk2 : Hid (j + 1 = tl l l.length) := by
            have := Hk.out; rw [tl_pos l j hz] at this; exact this
          generalize l.getD j 0 = x at *
          have hx : ((x : Int) == 0) = false := by simp; omega
          go_wp2
          go_ret
          refine ⟨⟨_, rfl, ?_⟩, rfl⟩
          rw [← Hk2.out]
          exact wd_take Hr.out (j + 1) hk
end Go.Proofs.YtiolkeipgpkbmaaGreatDoor

namespace Go.Proofs.YtiolkeipgpkbmaaGreatDoor
set_option linter.unusedVariables false
open Go.RowKit Big

/-- A number with its sign. -/
def sg (neg : Bool) (n : Nat) : Int := if neg then -(n : Int) else n

/-- A whole number of any size stands in block p. -/
structure IsBig (w : World) (p : Nat) (neg : Bool) (v : Value) (l : List Nat) : Prop where
  blk : w.heap[p]? = some (.cells #[.bool neg, v] 83 (0, 0))
  wd : Wd w v l
  nrm : Nrm l
  sgn : neg = true → 0 < l.length

theorem blk_lt {w : World} {p : Nat} {o : Obj} (h : w.heap[p]? = some o) : p < w.heap.size := by
  rcases Nat.lt_or_ge p w.heap.size with h1 | h1
  · exact h1
  · rw [Array.getElem?_eq_none h1] at h; cases h
theorem blk_cell0 {w : World} {p : Nat} {c0 c1 : Value} {t : TypeId} (h : w.heap[p]? = some (.cells #[c0, c1] t (0, 0))) : w.cell? ⟨p, 0, none⟩ = some c0 := by simp [World.cell?, h]
theorem blk_cell1 {w : World} {p : Nat} {c0 c1 : Value} {t : TypeId} (h : w.heap[p]? = some (.cells #[c0, c1] t (0, 0))) : w.cell? ⟨p, 1, none⟩ = some c1 := by simp [World.cell?, h]
theorem blk_frozen {w : World} {p i : Nat} {c : Array Value} {t : TypeId} (h : w.heap[p]? = some (.cells c t (0, 0))) : w.frozen? ⟨p, i, none⟩ = false := by simp [World.frozen?, h]

/-- The words of a list stand in no block of another kind. -/
theorem Wd.apart {w : World} {v : Value} {l : List Nat} (h : Wd w v l) {p : Nat} {neg : Bool} {u : Value} {t : TypeId} (hp : w.heap[p]? = some (.cells #[.bool neg, u] t (0, 0))) (hu : ∀ k n, u ≠ .int k n) :
    ∀ b off n cap, v = .slice (some ⟨b, off, none⟩) n cap → 0 < l.length → b ≠ p := by
  rintro b off n cap rfl h0 rfl
  rcases h.at_ with ⟨h1, _⟩ | ⟨h1, b', off', cap', hv, hb, hcap, hc⟩
  · subst h1; simp at h0
  · cases hv
    have h2 := hc 0 h1
    simp only [World.cell?, hp] at h2
    match off, h2 with
    | 0, h2 => simp at h2
    | 1, h2 => simp at h2; exact hu _ _ h2
    | n + 2, h2 => simp at h2

theorem Wd.keepP {w w' : World} {v : Value} {l : List Nat} (h : Wd w v l) {p : Nat} {neg : Bool} {u : Value} {t : TypeId} (hp : w.heap[p]? = some (.cells #[.bool neg, u] t (0, 0))) (hu : ∀ k n, u ≠ .int k n) (hg : w.grownBy w' (some p)) : Wd w' v l := by
  rcases Nat.eq_zero_or_pos l.length with h0 | h0
  · refine ⟨h.ok, h.len, ?_⟩
    rcases h.at_ with ⟨h1, a, cap, hv⟩ | ⟨h1, _⟩
    · exact .inl ⟨h1, a, cap, hv⟩
    · omega
  · exact h.keep hg (fun b off n cap hv => by have := h.apart hp hu b off n cap hv h0; simpa using this)

theorem Wd.noInt {w : World} {v : Value} {l : List Nat} (h : Wd w v l) : ∀ k n, v ≠ .int k n := by
  rintro k n rfl
  rcases h.at_ with ⟨_, _, _, hv⟩ | ⟨_, _, _, _, hv, _⟩ <;> cases hv

theorem Wd.slice {w : World} {v : Value} {l : List Nat} (h : Wd w v l) : ∃ a cap, v = .slice a l.length cap := by
  rcases h.at_ with ⟨h0, a, cap, hv⟩ | ⟨h0, b, off, cap, hv, _⟩
  · subst h0; exact ⟨a, cap, hv⟩
  · exact ⟨_, cap, hv⟩

theorem give_any (p : Nat) (neg n0 : Bool) (u v : Value) (l : List Nat) (w : World) (hp : w.heap[p]? = some (.cells #[.bool n0, u] 83 (0, 0))) (hu : ∀ k n, u ≠ .int k n) (hv : Wd w v l) (hn : Nrm l) :
    Calls Tryz.prog 79 #[.pointer (some ⟨p, 0, none⟩), .bool neg, v] w fun e w' => e = .returned (.pointer (some ⟨p, 0, none⟩)) ∧ IsBig w' p (neg && decide (0 < l.length)) v l ∧ w.grownBy w' (some p) := by
  obtain ⟨a, cap, rfl⟩ := hv.slice
  have c0 := blk_cell0 hp
  have c1 := blk_cell1 hp
  have f0 := blk_frozen (i := 0) hp
  have f1 := blk_frozen (i := 1) hp
  have hlt := blk_lt hp
  have key : ∀ b : Bool, ((w.setCell ⟨p, 1, none⟩ (.slice a l.length cap)).setCell ⟨p, 0, none⟩ (.bool b)).heap[p]? = some (.cells #[.bool b, .slice a l.length cap] 83 (0, 0)) := by
    intro b
    rw [heap_setCell_same _ p 0 #[.bool n0, .slice a l.length cap] 83 _ (by rw [heap_setCell_same _ p 1 _ _ _ hp]; rfl)]; rfl
  have grown : ∀ b : Bool, w.grownBy ((w.setCell ⟨p, 1, none⟩ (.slice a l.length cap)).setCell ⟨p, 0, none⟩ (.bool b)) (some p) := fun b =>
    ⟨rfl, rfl, rfl, by simp, fun k hk hne => by
      have hne : k ≠ p := fun e => hne (by rw [e])
      rw [heap_setCell_other _ _ _ _ hne, heap_setCell_other _ _ _ _ hne]⟩
  have fin : ∀ b : Bool, b = (neg && decide (0 < l.length)) → IsBig ((w.setCell ⟨p, 1, none⟩ (.slice a l.length cap)).setCell ⟨p, 0, none⟩ (.bool b)) p (neg && decide (0 < l.length)) (.slice a l.length cap) l := by
    rintro b rfl
    exact ⟨key _, hv.keepP hp hu (grown _), hn, by simp⟩
  have Fin : Hid (∀ b : Bool, b = (neg && decide (0 < l.length)) → IsBig ((w.setCell ⟨p, 1, none⟩ (.slice a l.length cap)).setCell ⟨p, 0, none⟩ (.bool b)) p (neg && decide (0 < l.length)) (.slice a l.length cap) l) := fin
  have Grown : Hid (∀ b : Bool, w.grownBy ((w.setCell ⟨p, 1, none⟩ (.slice a l.length cap)).setCell ⟨p, 0, none⟩ (.bool b)) (some p)) := grown
  clear key grown fin hp hu hv hn
  cases neg
  · go_enter Tryz.func79, Tryz.ntmps79
    go_wp2
    go_ret
    exact ⟨rfl, Fin.out _ rfl, Grown.out _⟩
  · go_enter Tryz.func79, Tryz.ntmps79
    go_wp2
    go_ret
    exact ⟨rfl, Fin.out _ (by simp), Grown.out _⟩
end Go.Proofs.YtiolkeipgpkbmaaGreatDoor

namespace Go.Proofs.YtiolkeipgpkbmaaGreatDoor
set_option linter.unusedVariables false
open Go.RowKit Big

theorem alloc_blk (w : World) (o : Obj) : (w.alloc o).heap[w.heap.size]? = some o := by
  show (w.heap.push o)[w.heap.size]? = some o
  exact Array.getElem?_push_size

theorem ret_val {a b : Value} (h : a = b) : Ending.returned a = .returned b := by rw [h]

theorem gtrans {a b c : World} {row : Option Nat} (h : a.grownBy b row) (k : b.grownBy c row) : a.grownBy c row :=
  ⟨k.os.trans h.os, k.tape.trans h.tape, k.output.trans h.output, Nat.le_trans h.size k.size, fun i hi hr => (k.block i (Nat.lt_of_lt_of_le hi h.size) hr).trans (h.block i hi hr)⟩
theorem gweak {a b : World} (h : a.grownBy b none) (row : Option Nat) : a.grownBy b row := ⟨h.os, h.tape, h.output, h.size, fun i hi _ => h.block i hi (by simp)⟩
theorem grefl (a : World) (row : Option Nat) : a.grownBy a row := ⟨rfl, rfl, rfl, Nat.le_refl _, fun _ _ _ => rfl⟩
theorem gnew {a b : World} {o : Obj} (h : (a.alloc o).grownBy b (some a.heap.size)) : a.grownBy b none :=
  ⟨h.os, h.tape, h.output, by have := h.size; simp at this; omega, fun i hi _ => by
    rw [h.block i (by simp; omega) (by simp; omega)]
    exact Below.heap_alloc a o i hi⟩
theorem gdrewN {a b : World} {row : Option Nat} (h : a.grownBy b row) (n : Nat) : a.grownBy (b.drewN n) row := ⟨h.os, h.tape, h.output, h.size, h.block⟩
theorem gbelow {a b : World} (h : a.grownBy b none) : Below a.heap.size a b := ⟨h.os, h.tape, h.output, h.size, fun k hk => h.block k hk (by simp)⟩
theorem belowg {a b : World} (h : Below a.heap.size a b) : a.grownBy b none := ⟨h.os, h.tape, h.output, h.size, fun k hk _ => h.block k hk⟩

/-- The number x stands in block p. -/
def BigIs (w : World) (p : Nat) (x : Int) : Prop := ∃ neg v l, IsBig w p neg v l ∧ sg neg (val l) = x

theorem words_any (x : Nat) (w : World) (hx : x < 18446744073709551616) :
    Calls Tryz.prog 109 #[.int .u64 x] w fun e w' => ∃ v l, e = .returned v ∧ Wd w' v l ∧ Nrm l ∧ val l = x ∧ w.grownBy w' none := by
  have e1 : IntKind.u32.wrap (x : Int) = ((x % 4294967296 : Nat) : Int) := by rw [IntKind.wrap_u32]; omega
  have e2 : (x : Int) / 4294967296 = ((x / 4294967296 : Nat) : Int) := by omega
  have hlo : x % 4294967296 < 4294967296 := Nat.mod_lt _ (by omega)
  have hhi : x / 4294967296 < 4294967296 := by omega
  have hs : x % 4294967296 + 4294967296 * (x / 4294967296) = x := Nat.mod_add_div x 4294967296
  generalize x % 4294967296 = lo at *
  generalize x / 4294967296 = hi at *
  have Hs : Hid (lo + 4294967296 * hi = x) := hs
  clear hs
  have hwd : Hid (∀ a : Nat, a = w.heap.size → Wd (w.alloc (.cells #[.int .u32 (lo : Int), .int .u32 (hi : Int)] 166)) (.slice (some ⟨a, 0, none⟩) 2 2) [lo, hi]) := by
    rintro a rfl
    refine ⟨?_, by simp, .inr ⟨by simp, w.heap.size, 0, 2, rfl, by simp, by simp, ?_⟩⟩
    · intro i hi'
      match i, hi' with
      | 0, _ => simpa using hlo
      | 1, _ => simpa using hhi
    · intro i hi'
      match i, hi' with
      | 0, _ => simp
      | 1, _ => simp
  go_enter Tryz.func109, Tryz.ntmps109
  go_wp2_with fail
  refine (trim_any _ [lo, hi] _ (hwd.out _ rfl)).mono ?_
  rintro e w' ⟨⟨v', rfl, hv⟩, hw⟩
  rw [hw]; clear hw w'
  have hn : Hid (Nrm ([lo, hi].take (tl [lo, hi] 2)) ∧ val ([lo, hi].take (tl [lo, hi] 2)) = x) := ⟨nrm_tl _ _ (by simp), by rw [val_tl _ _ (by simp)]; simp [val]; exact Hs.out⟩
  have Hv : Hid (Wd (w.alloc (.cells #[.int .u32 (lo : Int), .int .u32 (hi : Int)] 166)) v' ([lo, hi].take (tl [lo, hi] 2))) := hv
  clear hv hwd
  go_wp2
  go_ret
  exact ⟨v', _, rfl, Hv.out, hn.out.1, hn.out.2, World.grownBy_alloc _ _ _⟩

/-- The words that a number is made of, and give's two sides. -/
theorem setInt64_any (p : Nat) (x : Int) (n0 : Bool) (u : Value) (w : World) (hp : w.heap[p]? = some (.cells #[.bool n0, u] 83 (0, 0))) (hu : ∀ k n, u ≠ .int k n) (h1 : -9223372036854775808 ≤ x) (h2 : x ≤ 9223372036854775807) :
    Calls Tryz.prog 106 #[.pointer (some ⟨p, 0, none⟩), .int .i64 x] w fun e w' => e = .returned (.pointer (some ⟨p, 0, none⟩)) ∧ BigIs w' p x ∧ w.grownBy w' (some p) := by
  have Hp : Hid (w.heap[p]? = some (.cells #[.bool n0, u] 83 (0, 0))) := hp
  have Hu : Hid (∀ k n, u ≠ .int k n) := hu
  clear hp hu
  by_cases hx : x < 0
  · obtain ⟨m, rfl⟩ : ∃ m : Nat, x = -(m : Int) := ⟨(-x).toNat, by omega⟩
    have e1 : IntKind.u64.wrap (-IntKind.u64.wrap (-(m : Int))) = (m : Int) := by rw [IntKind.wrap_u64, IntKind.wrap_u64]; omega
    have hd : decide (-(m : Int) < 0) = true := by simpa using hx
    go_enter Tryz.func106, Tryz.ntmps106
    go_wp2_with fail
    refine (words_any m _ (by omega)).mono ?_
    rintro e w1 ⟨v, l, rfl, hv, hn, hval, hg⟩
    have Hv : Hid (Wd w1 v l) := hv
    have Hn : Hid (Nrm l) := hn
    have Hval : Hid (val l = m) := hval
    have Hg : Hid (w.grownBy w1 none) := hg
    clear hv hn hval hg
    go_wp2_with fail
    refine (give_any p true n0 u v l w1 ((Hg.out.block p (blk_lt Hp.out) (by simp)).trans Hp.out) Hu.out Hv.out Hn.out).mono ?_
    rintro e w2 ⟨rfl, hb, hg2⟩
    have R : Hid (BigIs w2 p (-(m : Int)) ∧ w.grownBy w2 (some p)) := by
      refine ⟨⟨_, v, l, hb, ?_⟩, gtrans (gweak Hg.out _) hg2⟩
      have hl : 0 < l.length := by
        rcases Nat.eq_zero_or_pos l.length with h0 | h0
        · have : l = [] := List.eq_nil_of_length_eq_zero h0
          have h3 := Hval.out
          rw [this] at h3
          simp only [val] at h3
          omega
        · exact h0
      simp only [hl, decide_true, Bool.and_true, sg, if_true, Hval.out]
    clear hb hg2
    go_wp2
    go_ret
    exact ⟨rfl, R.out.1, R.out.2⟩
  · have hd : decide (x < 0) = false := by simpa using hx
    have hx0 : 0 ≤ x := by omega
    obtain ⟨n, rfl⟩ := Int.eq_ofNat_of_zero_le hx0
    go_enter Tryz.func106, Tryz.ntmps106
    go_wp2_with fail
    refine (words_any n _ (by omega)).mono ?_
    rintro e w1 ⟨v, l, rfl, hv, hn, hval, hg⟩
    have Hv : Hid (Wd w1 v l) := hv
    have Hn : Hid (Nrm l) := hn
    have Hval : Hid (val l = n) := hval
    have Hg : Hid (w.grownBy w1 none) := hg
    clear hv hn hval hg
    go_wp2_with fail
    refine (give_any p false n0 u v l w1 ((Hg.out.block p (blk_lt Hp.out) (by simp)).trans Hp.out) Hu.out Hv.out Hn.out).mono ?_
    rintro e w2 ⟨rfl, hb, hg2⟩
    have R : Hid (BigIs w2 p (n : Int) ∧ w.grownBy w2 (some p)) := by
      refine ⟨⟨_, v, l, hb, ?_⟩, gtrans (gweak Hg.out _) hg2⟩
      simp [sg, Hval.out]
    clear hb hg2
    go_wp2
    go_ret
    exact ⟨rfl, R.out.1, R.out.2⟩

theorem newInt_any (x : Int) (w : World) (h1 : -9223372036854775808 ≤ x) (h2 : x ≤ 9223372036854775807) :
    Calls Tryz.prog 78 #[.int .i64 x] w fun e w' => e = .returned (.pointer (some ⟨w.heap.size, 0, none⟩)) ∧ BigIs w' w.heap.size x ∧ w.grownBy w' none := by
  go_enter Tryz.func78, Tryz.ntmps78
  go_wp2_with fail
  refine (setInt64_any w.heap.size x false (.slice none 0 0) _ (alloc_blk _ _) (by simp) h1 h2).mono ?_
  rintro e w1 ⟨rfl, hb, hg⟩
  have R : Hid (BigIs w1 w.heap.size x ∧ w.grownBy w1 none) := ⟨hb, gnew hg⟩
  clear hb hg
  go_wp2
  go_ret
  exact ⟨rfl, R.out.1, R.out.2⟩

theorem big_any (x : Int) (w : World) (h1 : -9223372036854775808 ≤ x) (h2 : x ≤ 9223372036854775807) :
    Calls Tryz.prog 39 #[.int .i64 x] w fun e w' => e = .returned (.pointer (some ⟨w.heap.size, 0, none⟩)) ∧ BigIs w' w.heap.size x ∧ w.grownBy w' none := by
  go_enter Tryz.func39, Tryz.ntmps39
  go_wp2_with fail
  refine (newInt_any x _ h1 h2).mono ?_
  rintro e w1 ⟨rfl, hb, hg⟩
  have R : Hid (BigIs w1 w.heap.size x ∧ w.grownBy w1 none) := ⟨hb, hg⟩
  clear hb hg
  go_wp2
  go_ret
  exact ⟨rfl, R.out.1, R.out.2⟩
end Go.Proofs.YtiolkeipgpkbmaaGreatDoor

namespace Go.Proofs.YtiolkeipgpkbmaaGreatDoor
set_option linter.unusedVariables false
open Go.RowKit Big

theorem Tryz.infoW : (Tryz.prog.info? 166).map (fun i => (i.zero, i.size, i.bytes)) = some (some (.int .u32 0), 1, 4) := by kernel_rfl

/-- A row of words as cells. -/
def rowA (r : List Nat) : Array Value := (r.map (fun x : Nat => Value.int .u32 (x : Int))).toArray
/-- The row r stands in block g. -/
def RowAt (w : World) (g : Nat) (r : List Nat) : Prop := w.heap[g]? = some (.cells (rowA r) 166 (0, 0))

theorem made_row (n : Nat) : madeCells #[.int .u32 0] n = rowA (List.replicate n 0) := by
  apply Array.ext
  · simp [madeCells, rowA]
  · intro i h1 h2
    simp [madeCells, rowA, Nat.mod_one]

theorem row_cell {w : World} {g : Nat} {r : List Nat} (h : RowAt w g r) {i : Nat} (hi : i < r.length) : w.cell? ⟨g, i, none⟩ = some (.int .u32 (r.getD i 0 : Nat)) := by
  unfold RowAt at h
  simp [World.cell?, h, rowA, hi]
theorem row_frozen {w : World} {g : Nat} {r : List Nat} (h : RowAt w g r) (i : Nat) : w.frozen? ⟨g, i, none⟩ = false := by
  unfold RowAt at h
  exact blk_frozen h
theorem row_set {w : World} {g : Nat} {r : List Nat} (h : RowAt w g r) (i x : Nat) : RowAt (w.setCell ⟨g, i, none⟩ (.int .u32 (x : Int))) g (r.set i x) := by
  unfold RowAt at *
  rw [heap_setCell_same _ g i _ _ _ h]
  congr 2
  simp [rowA, List.map_set]
theorem row_wd {w : World} {g : Nat} {r : List Nat} (h : RowAt w g r) (ho : Ok r) (hl : r.length ≤ 140737488355328) (cap : Nat) (hcap : r.length ≤ cap) : Wd w (.slice (some ⟨g, 0, none⟩) r.length cap) r := by
  rcases Nat.eq_zero_or_pos r.length with h0 | h0
  · have : r = [] := List.eq_nil_of_length_eq_zero h0
    subst this
    exact wd_nil w _ _
  · exact ⟨ho, hl, .inr ⟨h0, g, 0, cap, rfl, blk_lt h, hcap, fun i hi => by rw [Nat.zero_add]; exact row_cell h hi⟩⟩
theorem gset {a b : World} (h : a.grownBy b none) {p : Addr} (hp : a.heap.size ≤ p.block) (v : Value) : a.grownBy (b.setCell p v) none :=
  ⟨h.os, h.tape, h.output, by simpa using h.size, fun k hk hr => by rw [heap_setCell_other _ _ _ _ (by omega)]; exact h.block k hk hr⟩

/-- What a walk is told of words that came in. -/
theorem Wd.form {w : World} {v : Value} {l : List Nat} (h : Wd w v l) : ∃ aa cap, v = .slice aa l.length cap ∧ l.length ≤ 140737488355328 ∧
    Hid (Ok l) ∧ Hid (0 < l.length → ∃ b off, aa = some ⟨b, off, none⟩ ∧ b < w.heap.size ∧ ∀ i, i < l.length → w.cell? ⟨b, off + i, none⟩ = some (.int .u32 (l.getD i 0 : Nat))) := by
  rcases h.at_ with ⟨h0, a, cap, hv⟩ | ⟨h0, b, off, cap, hv, hb, hcap, hc⟩
  · subst h0
    exact ⟨a, cap, hv, by simp, h.ok, fun h => absurd h (by simp)⟩
  · exact ⟨_, cap, hv, h.len, h.ok, fun _ => ⟨b, off, rfl, hb, hc⟩⟩

set_option maxHeartbeats 2000000 in
theorem add_ge (va vb : Value) (a b : List Nat) (w : World) (ha : Wd w va a) (hb : Wd w vb b) (hge : b.length ≤ a.length) (hlen : a.length < 35184372088832) :
    Calls Tryz.prog 114 #[va, vb] w fun e w' => ∃ v l, e = .returned v ∧ Wd w' v l ∧ Nrm l ∧ val l = val a + val b ∧ w.grownBy w' none := by
  obtain ⟨aa, ca, rfl, la, Oa, Fa⟩ := ha.form
  obtain ⟨ab, cb, rfl, lb, Ob, Fb⟩ := hb.form
  clear ha hb la lb
  have hmk := fun w => run_make_row' (P := Tryz.prog) 81 166 (.int .u32 0) 4 Tryz.underlying81 Tryz.infoW rfl .i64 .i64 (a.length + 1) (by omega) (by omega) w
  rw [show ((a.length + 1 : Nat) : Int) = (a.length : Int) + 1 by omega] at hmk
  have hnl : ¬ ((a.length : Int) < b.length) := by omega
  go_enter Tryz.func114, Tryz.ntmps114
  go_wp2
  clear hmk
  go_loopw [6, 7] (fun tc ti wr => ∃ k c : Nat, ∃ r : List Nat, k ≤ a.length ∧ (c : Int) < 4294967296 ∧ tc = .int .u64 c ∧ ti = .int .i64 k ∧ r.length = a.length + 1 ∧ Hid (RowAt wr w.heap.size r) ∧ Hid (Ok r) ∧ Hid (w.grownBy wr none) ∧ Hid (val (r.take k) + 4294967296 ^ k * c = val (a.take k) + val (b.take k))) (fun _ ti _ => a.length - (RowKit.intOf ti).toNat)
  case atStart =>
    refine ⟨0, 0, List.replicate (a.length + 1) 0, by omega, by omega, rfl, rfl, by simp, ?_, ok_replicate _, World.grownBy_alloc _ _ _, ?_⟩
    · show (w.alloc _).heap[w.heap.size]? = _
      rw [alloc_blk, made_row]
    · simp [Hid, val]
  case round =>
    obtain ⟨k, c, r, hk, hc, rfl, rfl, hr, Hrow, Hok, Hg, Hv⟩ := hrel
    by_cases hlt : k < a.length
    · obtain ⟨ba, oa, rfl, hba, hca⟩ := Fa.out (by omega)
      have hxa := (Hg.out.cell (hca k hlt) (by simp))
      have hxb := Oa.out k hlt
      have S := add_step a b r k c (by omega) Hv.out
      have rc := row_cell Hrow.out (i := k) (by omega)
      have rf := row_frozen Hrow.out k
      by_cases hlb : k < b.length
      · obtain ⟨bb, ob, rfl, hbb, hcb⟩ := Fb.out (by omega)
        have hya := (Hg.out.cell (hcb k hlb) (by simp))
        have hyb := Ob.out k hlb
        generalize a.getD k 0 = x at *
        generalize b.getD k 0 = y at *
        generalize r.getD k 0 = z at *
        have e1 : IntKind.u32.wrap ((c : Int) + x + y) = ((c + x + y) % 4294967296 : Nat) := by rw [IntKind.wrap_u32]; omega
        have e2 : ((c : Int) + x + y) / 4294967296 = ((c + x + y) / 4294967296 : Nat) := by omega
        have b3 : (c + x + y) / 4294967296 < 4294967296 := by omega
        have b4 : (c + x + y) % 4294967296 < 4294967296 := Nat.mod_lt _ (by omega)
        generalize (c + x + y) % 4294967296 = d at *
        generalize (c + x + y) / 4294967296 = q at *
        have HS : Hid (val ((r.set k d).take (k + 1)) + 4294967296 ^ (k + 1) * q = val (a.take (k + 1)) + val (b.take (k + 1))) := S
        have b1 : (x : Int) < 4294967296 := by omega
        have b2 : (y : Int) < 4294967296 := by omega
        clear S hca hcb Hv hxb hyb
        go_wp2
        go_roundw
        case rel => exact ⟨k + 1, q, r.set k d, by omega, by omega, rfl, by go_num, by simpa using hr, row_set Hrow.out k d, ok_set Hok.out k d b4, gset Hg.out (Nat.le_refl _) _, HS⟩
        case measure => simp [RowKit.intOf]; omega
      · have hy0 : b.getD k 0 = 0 := by simp [List.getD, List.getElem?_eq_none (Nat.le_of_not_lt hlb)]
        rw [hy0, Nat.add_zero] at S
        generalize a.getD k 0 = x at *
        generalize r.getD k 0 = z at *
        have e1 : IntKind.u32.wrap ((c : Int) + x) = ((c + x) % 4294967296 : Nat) := by rw [IntKind.wrap_u32]; omega
        have e2 : ((c : Int) + x) / 4294967296 = ((c + x) / 4294967296 : Nat) := by omega
        have b3 : (c + x) / 4294967296 < 4294967296 := by omega
        have b4 : (c + x) % 4294967296 < 4294967296 := Nat.mod_lt _ (by omega)
        generalize (c + x) % 4294967296 = d at *
        generalize (c + x) / 4294967296 = q at *
        have HS : Hid (val ((r.set k d).take (k + 1)) + 4294967296 ^ (k + 1) * q = val (a.take (k + 1)) + val (b.take (k + 1))) := S
        have b1 : (x : Int) < 4294967296 := by omega
        clear S hca Hv hxb hy0
        go_wp2
        go_roundw
        case rel => exact ⟨k + 1, q, r.set k d, by omega, by omega, rfl, by go_num, by simpa using hr, row_set Hrow.out k d, ok_set Hok.out k d b4, gset Hg.out (Nat.le_refl _) _, HS⟩
        case measure => simp [RowKit.intOf]; omega
    · have hka : k = a.length := by omega
      subst hka
      have rc := row_cell Hrow.out (i := a.length) (by omega)
      have rf := row_frozen Hrow.out a.length
      generalize r.getD a.length 0 = z at *
      have Hnew : Hid (∀ wx, wx = wr.setCell ⟨w.heap.size, a.length, none⟩ (.int .u32 (c : Int)) → Wd wx (.slice (some ⟨w.heap.size, 0, none⟩) (a.length + 1) (a.length + 1)) (r.set a.length c)) := by
        rintro wx rfl
        have := row_wd (row_set Hrow.out a.length c) (ok_set Hok.out _ _ (by omega)) (by simp [hr]; omega) (a.length + 1) (by simp [hr])
        rw [List.length_set, hr] at this
        exact this
      have Hval : Hid (val (r.set a.length c) = val a + val b) := by
        have h1 := val_set r a.length c (by omega)
        have h2 := Hv.out
        rw [List.take_of_length_le (by simp; omega)] at h1
        rw [List.take_length, List.take_of_length_le (l := b) (by omega)] at h2
        exact h1.trans h2
      have Hg2 : Hid (w.grownBy (wr.setCell ⟨w.heap.size, a.length, none⟩ (.int .u32 (c : Int))) none) := gset Hg.out (Nat.le_refl _) _
      clear Hv Hrow Hok Hg
      go_wp2_with fail
      refine (trim_any _ (r.set a.length c) _ (Hnew.out _ rfl)).mono ?_
      rintro e w' ⟨⟨v', rfl, hv⟩, hw⟩
      rw [hw]; clear hw w' Hnew
      have R : Hid (Wd (wr.setCell ⟨w.heap.size, a.length, none⟩ (.int .u32 (c : Int))) v' ((r.set a.length c).take (tl (r.set a.length c) (r.set a.length c).length)) ∧ Nrm ((r.set a.length c).take (tl (r.set a.length c) (r.set a.length c).length)) ∧ val ((r.set a.length c).take (tl (r.set a.length c) (r.set a.length c).length)) = val a + val b) := by
        refine ⟨hv, nrm_tl _ _ (Nat.le_refl _), ?_⟩
        rw [val_tl _ _ (Nat.le_refl _), List.take_length]
        exact Hval.out
      clear hv
      go_wp2
      go_ret
      exact ⟨_, _, rfl, R.out.1, R.out.2.1, R.out.2.2, Hg2.out⟩
end Go.Proofs.YtiolkeipgpkbmaaGreatDoor
