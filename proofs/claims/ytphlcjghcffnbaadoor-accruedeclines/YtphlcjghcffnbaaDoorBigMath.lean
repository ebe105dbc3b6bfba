/-
  Plain arithmetic of numbers written in words of 32 bits, the least first. It names no program.
-/
namespace Go.Proofs.YtphlcjghcffnbaaDoor.Big
set_option linter.unusedVariables false

/-- The number of some words. -/
def val : List Nat → Nat
  | [] => 0
  | x :: t => x + 4294967296 * val t

/-- How many words are left without the noughts at the end. -/
def tl (l : List Nat) : Nat → Nat
  | 0 => 0
  | n + 1 => if l.getD n 0 = 0 then tl l n else n + 1

/-- Each is a word. -/
def Ok (l : List Nat) : Prop := ∀ i, i < l.length → l.getD i 0 < 4294967296
/-- No nought at the end. -/
def Nrm (l : List Nat) : Prop := l.length = 0 ∨ l.getD (l.length - 1) 0 ≠ 0

theorem tl_zero (l : List Nat) (n : Nat) (h : l.getD n 0 = 0) : tl l (n + 1) = tl l n := by rw [tl, if_pos h]
theorem tl_pos (l : List Nat) (n : Nat) (h : l.getD n 0 ≠ 0) : tl l (n + 1) = n + 1 := by rw [tl, if_neg h]

theorem val_append (a b : List Nat) : val (a ++ b) = val a + 4294967296 ^ a.length * val b := by
  induction a with
  | nil => simp [val]
  | cons x t ih =>
    simp only [List.cons_append, val, ih, List.length_cons, Nat.pow_succ]
    rw [Nat.mul_add, ← Nat.mul_assoc, Nat.mul_comm 4294967296 (4294967296 ^ t.length), Nat.add_assoc]

theorem take_snoc (l : List Nat) (k : Nat) (h : k < l.length) : l.take (k + 1) = l.take k ++ [l.getD k 0] := by
  rw [List.take_succ_eq_append_getElem h]
  simp [h]

theorem val_take_succ (l : List Nat) (k : Nat) (h : k < l.length) : val (l.take (k + 1)) = val (l.take k) + 4294967296 ^ k * l.getD k 0 := by
  rw [take_snoc l k h, val_append]
  simp [val, Nat.min_eq_left (Nat.le_of_lt h)]

theorem tl_le (l : List Nat) (n : Nat) : tl l n ≤ n := by
  induction n with
  | zero => simp [tl]
  | succ n ih => unfold tl; split <;> omega

theorem val_tl (l : List Nat) (n : Nat) (h : n ≤ l.length) : val (l.take (tl l n)) = val (l.take n) := by
  induction n with
  | zero => simp [tl]
  | succ n ih =>
    unfold tl
    split
    · rename_i h0
      rw [ih (by omega), val_take_succ l n (by omega), h0]
      simp
    · rfl

theorem getD_take (l : List Nat) (n i : Nat) (h : i < n) : (l.take n).getD i 0 = l.getD i 0 := by
  simp [List.getD, h]

theorem ok_take {l : List Nat} (h : Ok l) (n : Nat) : Ok (l.take n) := by
  intro i hi
  have h1 : i < n := by simp at hi; omega
  have h2 : i < l.length := by simp at hi; omega
  rw [getD_take l n i h1]
  exact h i h2

theorem nrm_tl (l : List Nat) (n : Nat) (h : n ≤ l.length) : Nrm (l.take (tl l n)) := by
  induction n with
  | zero => exact .inl (by simp [tl])
  | succ n ih =>
    unfold tl
    split
    · exact ih (by omega)
    · rename_i h0
      right
      have e : (l.take (n + 1)).length = n + 1 := by simp; omega
      rw [e, Nat.add_sub_cancel, getD_take l (n + 1) n (by omega)]
      exact h0

theorem val_lt {l : List Nat} (h : Ok l) : val l < 4294967296 ^ l.length := by
  induction l with
  | nil => simp [val]
  | cons x t ih =>
    have hx : x < 4294967296 := by simpa using h 0 (by simp)
    have ht : Ok t := fun i hi => by simpa using h (i + 1) (by simp; omega)
    have := ih ht
    simp only [val, List.length_cons, Nat.pow_succ]
    omega

theorem val_ge {l : List Nat} (h : Nrm l) (hn : 0 < l.length) : 4294967296 ^ (l.length - 1) ≤ val l := by
  have h0 : l.getD (l.length - 1) 0 ≠ 0 := by
    rcases h with h | h
    · omega
    · exact h
  have e := val_take_succ l (l.length - 1) (by omega)
  rw [Nat.sub_add_cancel hn, List.take_length] at e
  rw [e]
  have h1 : 4294967296 ^ (l.length - 1) * 1 ≤ 4294967296 ^ (l.length - 1) * l.getD (l.length - 1) 0 := Nat.mul_le_mul_left _ (by omega)
  omega

theorem val_zero {l : List Nat} (h : Nrm l) : val l = 0 ↔ l = [] := by
  constructor
  · intro e
    rcases Nat.eq_zero_or_pos l.length with h0 | h0
    · exact List.eq_nil_of_length_eq_zero h0
    · have := val_ge h h0
      have := Nat.pow_pos (n := l.length - 1) (by omega : 0 < 4294967296)
      omega
  · rintro rfl; rfl

theorem take_set_lt (r : List Nat) (k d : Nat) : (r.set k d).take k = r.take k := by
  rw [List.take_set, List.set_eq_of_length_le (by simp; omega)]
theorem getD_set_same (r : List Nat) (k d : Nat) (h : k < r.length) : (r.set k d).getD k 0 = d := by simp [List.getD, h]
theorem val_set (r : List Nat) (k d : Nat) (h : k < r.length) : val ((r.set k d).take (k + 1)) = val (r.take k) + 4294967296 ^ k * d := by
  rw [val_take_succ _ k (by simpa using h), take_set_lt, getD_set_same r k d h]
theorem ok_set {r : List Nat} (h : Ok r) (k d : Nat) (hd : d < 4294967296) : Ok (r.set k d) := by
  intro i hi
  rw [List.length_set] at hi
  rcases Nat.decEq i k with hne | rfl
  · have := h i hi
    simp only [List.getD, List.getElem?_set_ne (fun e => hne e.symm)] at this ⊢
    exact this
  · rw [getD_set_same r i d hi]; exact hd
theorem ok_replicate (n : Nat) : Ok (List.replicate n 0) := by
  intro i hi
  simp at hi
  simp [List.getD, hi]
/-- A list beyond its end. -/
theorem take_getD (l : List Nat) (k : Nat) : val (l.take (k + 1)) = val (l.take k) + 4294967296 ^ k * l.getD k 0 := by
  rcases Nat.lt_or_ge k l.length with h | h
  · exact val_take_succ l k h
  · rw [List.take_of_length_le (by omega), List.take_of_length_le h]
    simp [List.getD, List.getElem?_eq_none h]

theorem split_word (c : Nat) : 4294967296 * (c / 4294967296) + c % 4294967296 = c := Nat.div_add_mod c 4294967296

/-- A round of the sum of two. -/
theorem add_step (a b r : List Nat) (k c : Nat) (hk : k < r.length) (h : val (r.take k) + 4294967296 ^ k * c = val (a.take k) + val (b.take k)) :
    val ((r.set k ((c + a.getD k 0 + b.getD k 0) % 4294967296)).take (k + 1)) + 4294967296 ^ (k + 1) * ((c + a.getD k 0 + b.getD k 0) / 4294967296) = val (a.take (k + 1)) + val (b.take (k + 1)) := by
  rw [val_set r k _ hk, take_getD a k, take_getD b k, Nat.pow_succ, Nat.mul_assoc, Nat.add_assoc, ← Nat.mul_add, Nat.add_comm (_ % _), split_word]
  rw [Nat.mul_add, Nat.mul_add]
  omega

/-- A round of the difference of two. -/
theorem sub_step (a b r : List Nat) (k c t c' : Nat) (hk : k < r.length) (h : val (r.take k) + val (b.take k) = val (a.take k) + 4294967296 ^ k * c) (ht : c' * 4294967296 + a.getD k 0 = t + c + b.getD k 0) :
    val ((r.set k t).take (k + 1)) + val (b.take (k + 1)) = val (a.take (k + 1)) + 4294967296 ^ (k + 1) * c' := by
  rw [val_set r k _ hk, take_getD a k, take_getD b k, Nat.pow_succ, Nat.mul_assoc]
  have e : 4294967296 ^ k * (c' * 4294967296 + a.getD k 0) = 4294967296 ^ k * (t + c + b.getD k 0) := by rw [ht]
  rw [Nat.mul_add, Nat.mul_add, Nat.mul_add] at e
  rw [Nat.mul_comm 4294967296 c']
  omega

/-- The longer of two is the greater. -/
theorem len_le {a b : List Nat} (ha : Ok a) (hb : Nrm b) (h : val b ≤ val a) : b.length ≤ a.length := by
  rcases Nat.eq_zero_or_pos b.length with h0 | h0
  · omega
  · apply Classical.byContradiction
    intro hn
    have h1 := val_lt ha
    have h2 := val_ge hb h0
    have h3 : 4294967296 ^ a.length ≤ 4294967296 ^ (b.length - 1) := Nat.pow_le_pow_right (by omega) (by omega)
    omega
theorem len_lt {a b : List Nat} (ha : Ok a) (hb : Nrm b) (h : a.length < b.length) : val a < val b := by
  apply Classical.byContradiction
  intro hn
  have := len_le ha hb (by omega)
  omega

/-- Two of one length, the same from word k on, differ as their first words do. -/
theorem top_lt {a b : List Nat} (ha : Ok a) (j : Nat) (h1 : j < a.length) (h2 : j < b.length) (hlen : a.length = b.length) (hs : a.drop (j + 1) = b.drop (j + 1)) (hlt : a.getD j 0 < b.getD j 0) : val a < val b := by
  have e1 : val a = val (a.take (j + 1)) + 4294967296 ^ (j + 1) * val (a.drop (j + 1)) := by
    have := val_append (a.take (j + 1)) (a.drop (j + 1))
    rw [List.take_append_drop] at this
    rw [this]; simp [Nat.min_eq_left h1]
  have e2 : val b = val (b.take (j + 1)) + 4294967296 ^ (j + 1) * val (b.drop (j + 1)) := by
    have := val_append (b.take (j + 1)) (b.drop (j + 1))
    rw [List.take_append_drop] at this
    rw [this]; simp [Nat.min_eq_left h2]
  rw [e1, e2, hs, val_take_succ a j h1, val_take_succ b j h2]
  have h3 := val_lt (ok_take ha j)
  rw [List.length_take, Nat.min_eq_left (Nat.le_of_lt h1)] at h3
  have h4 : 4294967296 ^ j * (a.getD j 0 + 1) ≤ 4294967296 ^ j * b.getD j 0 := Nat.mul_le_mul_left _ hlt
  rw [Nat.mul_add, Nat.mul_one] at h4
  omega
end Go.Proofs.YtphlcjghcffnbaaDoor.Big
