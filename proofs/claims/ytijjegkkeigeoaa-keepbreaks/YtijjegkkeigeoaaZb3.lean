/-
  The contracts of a log's small functions.
-/
import Derived.Test.YtijjegkkeigeoaaZb2
namespace Go.Proofs.Ytijjegkkeigeoaa
set_option linter.unusedVariables false
set_option linter.unusedSimpArgs false

/-- A piece. -/
structure Pc where
  num : Nat
  sit : Nat
  fst : Bool
  byt : List UInt8
/-- One was written behind the other. -/
def Pc.over (p q : Pc) : Bool := decide (q.sit < p.sit) || (decide (p.sit = q.sit) && decide (q.byt.length < p.byt.length))
theorem over_true {p q : Pc} : p.over q = true ↔ q.sit < p.sit ∨ (p.sit = q.sit ∧ q.byt.length < p.byt.length) := by simp [Pc.over]
theorem over_false {p q : Pc} : p.over q = false ↔ ¬ (q.sit < p.sit ∨ (p.sit = q.sit ∧ q.byt.length < p.byt.length)) := by
  rw [← over_true]; simp
def startF (since : Nat) (l : List (Nat × Pc)) : Nat × Nat := l.foldl (fun s p => if p.2.fst = true ∧ s.1 < p.2.sit then (p.2.sit, p.2.num) else s) (since - 1, 0)
def cntF (since : Nat) (s : Nat × Nat) (p : Pc) : Bool := (decide (p.num < s.2) || decide (p.sit = s.1)) && decide (since ≤ p.sit)
def stepB (c : Pc → Bool) (n : Nat) (b : Option (Nat × Pc)) (p : Nat × Pc) : Option (Nat × Pc) :=
  if (decide (p.2.num = n) && c p.2 && (b.elim true (fun q => p.2.over q.2))) = true then some p else b
def bestF (c : Pc → Bool) (l : List (Nat × Pc)) (n : Nat) : Option (Nat × Pc) := l.foldl (stepB c n) none
def chainF (best : Nat → Option (Nat × Pc)) : Nat → Nat → List (Nat × Pc)
  | 0, _ => []
  | f + 1, n => (best n).elim [] (fun p => p :: (if p.2.byt.length < 60 then [] else chainF best f (n + 1)))

def InvB (c : Pc → Bool) (n : Nat) (l : List (Nat × Pc)) (b : Option (Nat × Pc)) : Prop :=
  match b with
  | none => ∀ p ∈ l, p.2.num = n → c p.2 = false
  | some q => q ∈ l ∧ q.2.num = n ∧ c q.2 = true ∧ ∀ p ∈ l, p.2.num = n → c p.2 = true → p.2.over q.2 = false ∧ (p.1 < q.1 → q.2.over p.2 = true)
theorem invB_step (c : Pc → Bool) (n : Nat) (l : List (Nat × Pc)) (b : Option (Nat × Pc)) (x : Nat × Pc) (hx : ∀ p ∈ l, p.1 < x.1) (h : InvB c n l b) : InvB c n (l ++ [x]) (stepB c n b x) := by
  unfold stepB
  by_cases h1 : x.2.num = n ∧ c x.2 = true
  · obtain ⟨hn, hc⟩ := h1
    cases b with
    | none =>
      rw [if_pos (by simp [hn, hc])]
      refine ⟨by simp, hn, hc, fun p hp e1 e2 => ?_⟩
      rcases List.mem_append.1 hp with hp | hp
      · rw [h p hp e1] at e2; cases e2
      · simp only [List.mem_singleton] at hp
        subst hp
        exact ⟨over_false.2 (by omega), fun h => absurd h (Nat.lt_irrefl _)⟩
    | some q =>
      obtain ⟨g1, g2, g3, g4⟩ := h
      by_cases ho : x.2.over q.2 = true
      · rw [if_pos (by simp [hn, hc, ho])]
        refine ⟨by simp, hn, hc, fun p hp e1 e2 => ?_⟩
        have hxq := over_true.1 ho
        rcases List.mem_append.1 hp with hp | hp
        · have hpq := over_false.1 (g4 p hp e1 e2).1
          exact ⟨over_false.2 (by omega), fun _ => over_true.2 (by omega)⟩
        · simp only [List.mem_singleton] at hp
          subst hp
          exact ⟨over_false.2 (by omega), fun h => absurd h (Nat.lt_irrefl _)⟩
      · rw [if_neg (by simp [ho])]
        refine ⟨by simp [g1], g2, g3, fun p hp e1 e2 => ?_⟩
        rcases List.mem_append.1 hp with hp | hp
        · exact g4 p hp e1 e2
        · simp only [List.mem_singleton] at hp
          subst hp
          exact ⟨by simpa using ho, fun h => absurd (Nat.lt_trans h (hx q g1)) (Nat.lt_irrefl _)⟩
  · rw [if_neg (by
      intro e
      simp only [Bool.and_eq_true, decide_eq_true_eq] at e
      exact h1 e.1)]
    cases b with
    | none =>
      intro p hp e1
      rcases List.mem_append.1 hp with hp | hp
      · exact h p hp e1
      · simp only [List.mem_singleton] at hp
        subst hp
        cases e : c p.2 with
        | true => exact absurd ⟨e1, e⟩ h1
        | false => rfl
    | some q =>
      obtain ⟨g1, g2, g3, g4⟩ := h
      refine ⟨by simp [g1], g2, g3, fun p hp e1 e2 => ?_⟩
      rcases List.mem_append.1 hp with hp | hp
      · exact g4 p hp e1 e2
      · simp only [List.mem_singleton] at hp
        subst hp
        exact absurd ⟨e1, e2⟩ h1
def Asc (l : List (Nat × Pc)) : Prop := l.Pairwise (fun a b => a.1 < b.1)
theorem invB_fold (c : Pc → Bool) (n : Nat) : ∀ (l l0 : List (Nat × Pc)) (b : Option (Nat × Pc)), Asc (l0 ++ l) → InvB c n l0 b → InvB c n (l0 ++ l) (l.foldl (stepB c n) b)
  | [], l0, b, _, h => by simpa using h
  | x :: l, l0, b, ha, h => by
    have := invB_fold c n l (l0 ++ [x]) (stepB c n b x) (by simpa using ha) (invB_step c n l0 b x (fun p hp => by
      unfold Asc at ha
      rw [List.pairwise_append] at ha
      exact ha.2.2 p hp x (by simp)) h)
    simpa using this
theorem bestF_inv (c : Pc → Bool) (n : Nat) (l : List (Nat × Pc)) (h : Asc l) : InvB c n l (bestF c l n) := by
  have := invB_fold c n l [] none (by simpa using h) (fun p hp => absurd hp (by simp))
  rw [List.nil_append] at this
  exact this
theorem asc_inj {l : List (Nat × Pc)} (h : Asc l) {p q : Nat × Pc} (hp : p ∈ l) (hq : q ∈ l) (e : p.1 = q.1) : p = q := by
  induction l with
  | nil => simp at hp
  | cons x l ih =>
    unfold Asc at h
    rw [List.pairwise_cons] at h
    rcases List.mem_cons.1 hp with e1 | hp'
    · rcases List.mem_cons.1 hq with e2 | hq'
      · rw [e1, e2]
      · have := h.1 q hq'; rw [← e1] at this; omega
    · rcases List.mem_cons.1 hq with e2 | hq'
      · have := h.1 p hp'; rw [← e2] at this; omega
      · exact ih h.2 hp' hq'

/-- What stands in the blocks: pieces, or none. -/
def allF (m : Nat) (P : Nat → Option Pc) : List (Nat × Pc) := (List.range' 1 (m - 1)).filterMap fun a => (P a).map fun q => (a, q)
def Dom (m : Nat) (P : Nat → Option Pc) : Prop := ∀ a q, P a = some q → 1 ≤ a ∧ a < m
theorem mem_allF {m : Nat} {P : Nat → Option Pc} (hd : Dom m P) (a : Nat) (q : Pc) : (a, q) ∈ allF m P ↔ P a = some q := by
  unfold allF
  rw [List.mem_filterMap]
  constructor
  · rintro ⟨b, _, hb⟩
    obtain ⟨q', h1, h2⟩ := Option.map_eq_some_iff.1 hb
    cases h2
    exact h1
  · intro h
    have := hd a q h
    refine ⟨a, ?_, by rw [h]; rfl⟩
    rw [List.mem_range'_1]
    omega
theorem asc_allF (m : Nat) (P : Nat → Option Pc) : Asc (allF m P) := by
  unfold Asc allF
  rw [List.pairwise_filterMap]
  refine List.Pairwise.imp ?_ (List.pairwise_lt_range' (s := 1) (n := m - 1))
  intro a b hab p hp q hq
  obtain ⟨p', _, rfl⟩ := Option.map_eq_some_iff.1 hp
  obtain ⟨q', _, rfl⟩ := Option.map_eq_some_iff.1 hq
  exact hab
def Bst (P : Nat → Option Pc) (c : Pc → Bool) (n a : Nat) (q : Pc) : Prop :=
  P a = some q ∧ q.num = n ∧ c q = true ∧ ∀ b p, P b = some p → p.num = n → c p = true → p.over q = false ∧ (b < a → q.over p = true)
section
variable {m : Nat} {P : Nat → Option Pc} {c : Pc → Bool} {n : Nat}
theorem best_some (hd : Dom m P) {a : Nat} {q : Pc} (h : bestF c (allF m P) n = some (a, q)) : Bst P c n a q := by
  have hi := bestF_inv c n _ (asc_allF m P)
  rw [h] at hi
  obtain ⟨h1, h2, h3, h4⟩ := hi
  exact ⟨(mem_allF hd a q).1 h1, h2, h3, fun b p hb e1 e2 => h4 (b, p) ((mem_allF hd b p).2 hb) e1 e2⟩
theorem best_none (hd : Dom m P) (h : bestF c (allF m P) n = none) : ∀ b p, P b = some p → p.num = n → c p = false := by
  have hi := bestF_inv c n _ (asc_allF m P)
  rw [h] at hi
  exact fun b p hb e => hi (b, p) ((mem_allF hd b p).2 hb) e
theorem best_of (hd : Dom m P) {a : Nat} {q : Pc} (h : Bst P c n a q) : bestF c (allF m P) n = some (a, q) := by
  obtain ⟨h1, h2, h3, h4⟩ := h
  cases e : bestF c (allF m P) n with
  | none => have := best_none hd e a q h1 h2; rw [h3] at this; cases this
  | some x =>
    obtain ⟨b, p⟩ := x
    obtain ⟨g1, g2, g3, g4⟩ := best_some hd e
    have e1 := h4 b p g1 g2 g3
    have e2 := g4 a q h1 h2 h3
    have : a = b := by
      rcases Nat.lt_trichotomy a b with h | h | h
      · have := e2.2 h
        rw [e1.1] at this
        cases this
      · exact h
      · have := e1.2 h
        rw [e2.1] at this
        cases this
    subst this
    rw [h1] at g1
    cases g1
    rfl
theorem best_no (hd : Dom m P) (h : ∀ b p, P b = some p → p.num = n → c p = false) : bestF c (allF m P) n = none := by
  cases e : bestF c (allF m P) n with
  | none => rfl
  | some x =>
    obtain ⟨b, p⟩ := x
    obtain ⟨g1, g2, g3, g4⟩ := best_some hd e
    rw [h b p g1 g2] at g3
    cases g3
theorem startF_fold (s0 : Nat × Nat) : ∀ (l : List (Nat × Pc)) (s : Nat × Nat),
    let r := l.foldl (fun s p => if p.2.fst = true ∧ s.1 < p.2.sit then (p.2.sit, p.2.num) else s) s
    s.1 ≤ r.1 ∧ (∀ p ∈ l, p.2.fst = true → p.2.sit ≤ r.1) ∧ (r = s ∨ ∃ p ∈ l, p.2.fst = true ∧ p.2.sit = r.1 ∧ p.2.num = r.2 ∧ s.1 < r.1)
  | [], s => ⟨Nat.le_refl _, fun p hp => absurd hp (by simp), .inl rfl⟩
  | x :: l, s => by
    simp only [List.foldl_cons]
    by_cases h : x.2.fst = true ∧ s.1 < x.2.sit
    · rw [if_pos h]
      obtain ⟨h1, h2, h3⟩ := startF_fold s0 l (x.2.sit, x.2.num)
      simp only at h1 h2 h3
      refine ⟨by omega, fun p hp hf => ?_, .inr ?_⟩
      · rcases List.mem_cons.1 hp with rfl | hp
        · exact h1
        · exact h2 p hp hf
      · rcases h3 with h3 | ⟨p, hp, g1, g2, g3, g4⟩
        · exact ⟨x, by simp, h.1, by rw [h3], by rw [h3], by rw [h3]; exact h.2⟩
        · exact ⟨p, by simp [hp], g1, g2, g3, by omega⟩
    · rw [if_neg h]
      obtain ⟨h1, h2, h3⟩ := startF_fold s0 l s
      refine ⟨h1, fun p hp hf => ?_, ?_⟩
      · rcases List.mem_cons.1 hp with rfl | hp
        · have : ¬ s.1 < p.2.sit := fun e => h ⟨hf, e⟩
          omega
        · exact h2 p hp hf
      · rcases h3 with h3 | ⟨p, hp, g⟩
        · exact .inl h3
        · exact .inr ⟨p, by simp [hp], g⟩
end
/-- The newest sitting whose first piece is there, and where it begins. -/
def vkF (m since : Nat) (P : Nat → Option Pc) : Nat × Nat := startF since (allF m P)
theorem vk_spec {m since : Nat} {P : Nat → Option Pc} (hd : Dom m P) : since - 1 ≤ (vkF m since P).1 ∧ (∀ b p, P b = some p → p.fst = true → p.sit ≤ (vkF m since P).1) ∧ (vkF m since P = (since - 1, 0) ∨ ∃ b p, P b = some p ∧ p.fst = true ∧ p.sit = (vkF m since P).1 ∧ p.num = (vkF m since P).2 ∧ since - 1 < (vkF m since P).1) := by
  obtain ⟨h1, h2, h3⟩ := startF_fold (0, 0) (allF m P) (since - 1, 0)
  refine ⟨h1, fun b p hb => h2 (b, p) ((mem_allF hd b p).2 hb), ?_⟩
  rcases h3 with h3 | ⟨⟨b, p⟩, hp, g⟩
  · exact .inl h3
  · exact .inr ⟨b, p, (mem_allF hd b p).1 hp, g⟩
def bsF (m since : Nat) (P : Nat → Option Pc) (n : Nat) : Option (Nat × Pc) := bestF (cntF since (vkF m since P)) (allF m P) n
def chF (m since : Nat) (P : Nat → Option Pc) : List (Nat × Pc) := chainF (bsF m since P) 200 0
def byts (l : List (Nat × Pc)) : List UInt8 := l.flatMap fun p => p.2.byt
def catF (m since : Nat) (P : Nat → Option Pc) : List UInt8 := byts (chF m since P)
/-- How many pieces so many bytes take. -/
def pcs (k : Nat) : Nat := (k + 59) / 60
def whF (m since : Nat) (P : Nat → Option Pc) : List Nat := ((chF m since P).take (pcs (enc (recs (catF m since P))).length)).map (·.1)
/-- Pieces are no longer than 60 bytes. -/
def Short (b : Nat → Option (Nat × Pc)) : Prop := ∀ n p, b n = some p → p.2.byt.length ≤ 60
theorem byts_cons (p : Nat × Pc) (l : List (Nat × Pc)) : byts (p :: l) = p.2.byt ++ byts l := by simp [byts]
theorem chainF_succ (b : Nat → Option (Nat × Pc)) (f n : Nat) : chainF b (f + 1) n = (b n).elim [] (fun p => p :: (if p.2.byt.length < 60 then [] else chainF b f (n + 1))) := rfl
theorem chainF_take {b b' : Nat → Option (Nat × Pc)} : ∀ (f n k : Nat), (∀ i, n ≤ i → i < n + k → b' i = b i) → (chainF b' f n).take k = (chainF b f n).take k
  | 0, n, k, _ => rfl
  | f + 1, n, 0, _ => by simp
  | f + 1, n, k + 1, h => by
    rw [chainF_succ, chainF_succ, h n (Nat.le_refl _) (by omega)]
    cases b n with
    | none => rfl
    | some p =>
      simp only [Option.elim_some, List.take_succ_cons]
      congr 1
      split
      · rfl
      · exact chainF_take f (n + 1) k (fun i h1 h2 => h i (by omega) (by omega))
/-- What is there of a text, piece by piece, is a beginning of it. -/
theorem chain_text {b : Nat → Option (Nat × Pc)} {T : List UInt8} : ∀ (f n : Nat), (∀ i p, n ≤ i → b i = some p → p.2.byt <+: T.drop (60 * i) ∧ p.2.byt.length ≤ 60) → byts (chainF b f n) <+: T.drop (60 * n)
  | 0, n, _ => List.nil_prefix
  | f + 1, n, h => by
    rw [chainF_succ]
    cases e : b n with
    | none => exact List.nil_prefix
    | some p =>
      obtain ⟨h1, h2⟩ := h n p (Nat.le_refl _) e
      simp only [Option.elim_some]
      rw [byts_cons]
      split
      · simpa [byts] using h1
      · rename_i h3
        have ih := chain_text f (n + 1) (fun i p hi => h i p (by omega))
        obtain ⟨z, hz⟩ := h1
        have hl : p.2.byt.length = 60 := by omega
        have e2 : T.drop (60 * (n + 1)) = z := by
          rw [show 60 * (n + 1) = 60 * n + 60 by omega, ← List.drop_drop, ← hz, List.drop_append_of_le_length (by omega), List.drop_eq_nil_of_le (by omega)]
          rfl
        rw [e2] at ih
        rw [← hz]
        exact (List.prefix_append_right_inj _).2 ih
/-- All of a text is there where each of its pieces is. -/
theorem chain_ge {b : Nat → Option (Nat × Pc)} {S : List UInt8} (hs : Short b) : ∀ (f n : Nat), (∀ i, n ≤ i → 60 * i < S.length → ∃ p, b i = some p ∧ (S.drop (60 * i)).take 60 <+: p.2.byt) → S.length ≤ 60 * (n + f) → S.drop (60 * n) <+: byts (chainF b f n)
  | 0, n, _, hf => by rw [List.drop_eq_nil_of_le (by omega)]; exact List.nil_prefix
  | f + 1, n, h, hf => by
    by_cases hn : 60 * n < S.length
    · obtain ⟨p, h1, h2⟩ := h n (Nat.le_refl _) hn
      have hp := hs n p h1
      rw [chainF_succ, h1]
      simp only [Option.elim_some]
      rw [byts_cons]
      have hl := h2.length_le
      rw [List.length_take, List.length_drop] at hl
      by_cases h6 : 60 * n + 60 ≤ S.length
      · have ep : (S.drop (60 * n)).take 60 = p.2.byt := h2.eq_of_length (by rw [List.length_take, List.length_drop]; omega)
        rw [if_neg (by omega)]
        have ih := chain_ge hs f (n + 1) (fun i hi => h i (by omega)) (by omega)
        rw [← List.take_append_drop 60 (S.drop (60 * n)), ep]
        refine (List.prefix_append_right_inj _).2 ?_
        rw [List.drop_drop, show 60 * n + 60 = 60 * (n + 1) by omega]
        exact ih
      · rw [List.take_of_length_le (by rw [List.length_drop]; omega)] at h2
        exact h2.trans (List.prefix_append _ _)
    · rw [List.drop_eq_nil_of_le (by omega)]
      exact List.nil_prefix
/-- Less of each piece: less of all. -/
theorem chain_le {b b' : Nat → Option (Nat × Pc)} (hs : Short b) : ∀ (f n : Nat), (∀ i p', n ≤ i → b' i = some p' → ∃ p, b i = some p ∧ p'.2.byt <+: p.2.byt) → byts (chainF b' f n) <+: byts (chainF b f n)
  | 0, n, _ => List.nil_prefix
  | f + 1, n, h => by
    rw [chainF_succ b' f n]
    cases e : b' n with
    | none => exact List.nil_prefix
    | some p' =>
      obtain ⟨p, h1, h2⟩ := h n p' (Nat.le_refl _) e
      have hp := hs n p h1
      have hl := h2.length_le
      rw [chainF_succ, h1]
      simp only [Option.elim_some]
      rw [byts_cons, byts_cons]
      by_cases h6 : p'.2.byt.length < 60
      · rw [if_pos h6]
        exact (by simpa [byts] using h2.trans (List.prefix_append _ _))
      · have ep : p'.2.byt = p.2.byt := h2.eq_of_length (by omega)
        rw [if_neg h6, if_neg (by omega), ep]
        exact (List.prefix_append_right_inj _).2 (chain_le hs f (n + 1) (fun i p' hi => h i p' (by omega)))
end Go.Proofs.Ytijjegkkeigeoaa

namespace Go.Proofs.Ytijjegkkeigeoaa
set_option linter.unusedVariables false
set_option linter.unusedSimpArgs false

theorem chain_len {b : Nat → Option (Nat × Pc)} : ∀ (f n i : Nat) (h : i < (chainF b f n).length), b (n + i) = some ((chainF b f n)[i])
  | 0, n, i, h => absurd h (by simp [chainF])
  | f + 1, n, i, h => by
    cases e : b n with
    | none =>
      have e2 : chainF b (f + 1) n = [] := by rw [chainF_succ, e]; rfl
      rw [e2] at h
      exact absurd h (by simp)
    | some p =>
      have e2 : chainF b (f + 1) n = p :: (if p.2.byt.length < 60 then [] else chainF b f (n + 1)) := by rw [chainF_succ, e]; rfl
      cases i with
      | zero =>
        have : (chainF b (f + 1) n)[0]'h = p := by simp [e2]
        rw [this, Nat.add_zero, e]
      | succ i =>
        by_cases h6 : p.2.byt.length < 60
        · rw [if_pos h6] at e2
          rw [e2] at h
          simp at h
        · rw [if_neg h6] at e2
          have hi : i < (chainF b f (n + 1)).length := by rw [e2] at h; simpa using h
          have := chain_len f (n + 1) i hi
          rw [show n + (i + 1) = n + 1 + i by omega, this]
          congr 1
          simp [e2]
/-- The bytes of a chain, piece by piece. -/
theorem chain_at {b : Nat → Option (Nat × Pc)} (hs : Short b) : ∀ (f n i : Nat) (h : i < (chainF b f n).length), ((byts (chainF b f n)).drop (60 * i)).take 60 = ((chainF b f n)[i]).2.byt
  | 0, n, i, h => absurd h (by simp [chainF])
  | f + 1, n, i, h => by
    cases e : b n with
    | none =>
      have e2 : chainF b (f + 1) n = [] := by rw [chainF_succ, e]; rfl
      rw [e2] at h
      exact absurd h (by simp)
    | some p =>
      have hp := hs n p e
      have e2 : chainF b (f + 1) n = p :: (if p.2.byt.length < 60 then [] else chainF b f (n + 1)) := by rw [chainF_succ, e]; rfl
      by_cases h6 : p.2.byt.length < 60
      · rw [if_pos h6] at e2
        have hi : i = 0 := by rw [e2] at h; simpa using h
        subst hi
        have : (chainF b (f + 1) n)[0]'h = p := by simp [e2]
        rw [this, e2]
        show (List.drop 0 (p.2.byt ++ [])).take 60 = p.2.byt
        rw [List.append_nil, List.drop_zero, List.take_of_length_le (by omega)]
      · rw [if_neg h6] at e2
        have hl : p.2.byt.length = 60 := by omega
        cases i with
        | zero =>
          have : (chainF b (f + 1) n)[0]'h = p := by simp [e2]
          rw [this, e2, byts_cons, Nat.mul_zero, List.drop_zero, List.take_append_of_le_length (by omega), List.take_of_length_le (by omega)]
        | succ i =>
          have hi : i < (chainF b f (n + 1)).length := by rw [e2] at h; simpa using h
          have ih := chain_at hs f (n + 1) i hi
          have e3 : (chainF b (f + 1) n)[i + 1]'h = (chainF b f (n + 1))[i] := by simp [e2]
          have e4 : (p.2.byt ++ byts (chainF b f (n + 1))).drop 60 = byts (chainF b f (n + 1)) := by rw [← hl, List.drop_left]
          rw [e3, ← ih, e2, byts_cons, show 60 * (i + 1) = 60 + 60 * i by omega, ← List.drop_drop, e4]
theorem chain_size {b : Nat → Option (Nat × Pc)} (hs : Short b) : ∀ (f n : Nat), (byts (chainF b f n)).length ≤ 60 * (chainF b f n).length
  | 0, n => by simp [chainF, byts]
  | f + 1, n => by
    rw [chainF_succ]
    cases e : b n with
    | none => simp [byts]
    | some p =>
      have hp := hs n p e
      simp only [Option.elim_some]
      rw [byts_cons, List.length_append, List.length_cons]
      split
      · simp [byts]; omega
      · have := chain_size hs f (n + 1)
        omega

def SubI (P' P : Nat → Option Pc) : Prop := ∀ a q, P' a = some q → P a = some q
structure GoodI (m since : Nat) (P : Nat → Option Pc) (rs : List (List UInt8)) (Wh : List Nat) : Prop where
  rc : recs (catF m since P) = rs
  wh : whF m since P = Wh
  gb : ∀ a q, P a = some q → (vkF m since P).1 < q.sit → (enc rs).length / 60 < q.num
  k3 : 60 * (vkF m since P).2 ≤ (enc rs).length
/-- What Open finds, and finds whatever else is lost. -/
structure RI (m since : Nat) (P : Nat → Option Pc) (rs : List (List UInt8)) (Wh : List Nat) : Prop where
  dom : Dom m P
  short : ∀ a q, P a = some q → q.byt.length ≤ 60
  sub : ∀ P', SubI P' P → (∀ a ∈ Wh, P' a = P a) → GoodI m since P' rs Wh
theorem SubI.refl (P : Nat → Option Pc) : SubI P P := fun _ _ h => h
theorem SubI.dom {P' P : Nat → Option Pc} {m : Nat} (h : SubI P' P) (hd : Dom m P) : Dom m P' := fun a q e => hd a q (h a q e)
theorem RI.good {m since : Nat} {P : Nat → Option Pc} {rs : List (List UInt8)} {Wh : List Nat} (h : RI m since P rs Wh) : GoodI m since P rs Wh := h.sub P (SubI.refl P) (fun _ _ => rfl)
theorem RI.shortB {m since : Nat} {P : Nat → Option Pc} (hd : Dom m P) (h : ∀ a q, P a = some q → q.byt.length ≤ 60) : Short (bsF m since P) := fun n p e => by
  obtain ⟨a, q⟩ := p
  exact h a q (best_some hd e).1
/-- The pieces of what is found. -/
theorem GoodI.piece {m since : Nat} {P : Nat → Option Pc} {rs : List (List UInt8)} {Wh : List Nat} (g : GoodI m since P rs Wh) (hd : Dom m P) (hs : ∀ a q, P a = some q → q.byt.length ≤ 60) : Wh.length = pcs (enc rs).length ∧ ∀ i, i < pcs (enc rs).length → ∃ q, bsF m since P i = some (Wh.getD i 0, q) ∧ P (Wh.getD i 0) = some q ∧ ((enc rs).drop (60 * i)).take 60 <+: q.byt := by
  have hS := RI.shortB (since := since) hd hs
  have hp : enc rs <+: catF m since P := by rw [← g.rc]; exact enc_recs _
  have hl := hp.length_le
  have hz := chain_size hS 200 0
  have hlen : pcs (enc rs).length ≤ (chF m since P).length := by
    unfold catF chF at hl
    unfold chF pcs
    omega
  have hw : Wh = ((chF m since P).take (pcs (enc rs).length)).map (·.1) := by
    rw [← g.wh]
    unfold whF
    rw [g.rc]
  refine ⟨by rw [hw, List.length_map, List.length_take, Nat.min_eq_left hlen], fun i hi => ?_⟩
  have hi' : i < (chF m since P).length := by omega
  have e1 := chain_len 200 0 i hi'
  rw [Nat.zero_add] at e1
  have e2 := chain_at hS 200 0 i hi'
  have e3 : Wh.getD i 0 = ((chF m since P)[i]).1 := by
    rw [hw, List.getD_eq_getElem?_getD, List.getElem?_map, List.getElem?_take, if_pos hi, List.getElem?_eq_getElem hi']
    rfl
  refine ⟨((chF m since P)[i]).2, by rw [e3]; exact e1, by rw [e3]; exact (best_some hd e1).1, ?_⟩
  have e4 : ((catF m since P).drop (60 * i)).take 60 = ((chF m since P)[i]).2.byt := e2
  rw [← e4]
  obtain ⟨z, hz⟩ := hp
  rw [← hz]
  by_cases h : 60 * i ≤ (enc rs).length
  · rw [List.drop_append_of_le_length h, List.take_append]
    exact List.prefix_append _ _
  · rw [List.drop_eq_nil_of_le (show (enc rs).length ≤ 60 * i by omega)]
    exact List.nil_prefix

/-- A piece that a sitting writes. -/
structure NewP (s st t0 : Nat) (T : List UInt8) (q : Pc) : Prop where
  sit : q.sit = s
  num : st ≤ q.num
  fst : q.fst = true ↔ q.num = st
  byt : q.byt <+: T.drop (60 * q.num)
  l2 : q.byt.length ≤ 60
  l0 : q.num = st → t0 ≤ 60 * st + q.byt.length
/-- What may be there behind a sitting. -/
structure Drawn (m : Nat) (P0 : Nat → Option Pc) (s st t0 : Nat) (T : List UInt8) (P : Nat → Option Pc) : Prop where
  dom : Dom m P
  each : ∀ a q, P a = some q → P0 a = some q ∨ NewP s st t0 T q
theorem Drawn.sub {m : Nat} {P0 : Nat → Option Pc} {s st t0 : Nat} {T : List UInt8} {P P' : Nat → Option Pc} (h : Drawn m P0 s st t0 T P) (k : SubI P' P) : Drawn m P0 s st t0 T P' := ⟨k.dom h.dom, fun a q e => h.each a q (k a q e)⟩
theorem Drawn.short {m : Nat} {P0 : Nat → Option Pc} {s st t0 : Nat} {T : List UInt8} {P : Nat → Option Pc} (h : Drawn m P0 s st t0 T P) (k : ∀ a q, P0 a = some q → q.byt.length ≤ 60) : ∀ a q, P a = some q → q.byt.length ≤ 60 := fun a q e => (h.each a q e).elim (k a q) (fun n => n.l2)
theorem startF_filter (since : Nat) (l : List (Nat × Pc)) : startF since l = startF since (l.filter fun p => p.2.fst) := by
  unfold startF
  generalize (since - 1, 0) = s
  induction l generalizing s with
  | nil => rfl
  | cons x l ih =>
    by_cases h : x.2.fst = true
    · rw [List.filter_cons_of_pos (p := fun p : Nat × Pc => p.2.fst) h]
      simp only [List.foldl_cons]
      exact ih _
    · rw [List.filter_cons_of_neg (p := fun p : Nat × Pc => p.2.fst) h]
      simp only [List.foldl_cons]
      rw [if_neg (fun e => h e.1)]
      exact ih _
theorem allF_filter (m : Nat) (P Q : Nat → Option Pc) (h : ∀ a q, q.fst = true → (P a = some q ↔ Q a = some q)) : (allF m P).filter (fun p => p.2.fst) = (allF m Q).filter (fun p => p.2.fst) := by
  unfold allF
  induction List.range' 1 (m - 1) with
  | nil => rfl
  | cons a l ih =>
    have key : ∀ (R : Nat → Option Pc), ((a :: l).filterMap fun a => (R a).map fun q => (a, q)).filter (fun p => p.2.fst) = (match R a with | some q => if q.fst = true then [(a, q)] else [] | none => []) ++ (l.filterMap fun a => (R a).map fun q => (a, q)).filter (fun p => p.2.fst) := by
      intro R
      rw [List.filterMap_cons]
      cases R a with
      | none => rfl
      | some q =>
        simp only [Option.map_some]
        by_cases hq : q.fst = true
        · rw [List.filter_cons_of_pos (p := fun p : Nat × Pc => p.2.fst) hq, if_pos hq]; rfl
        · rw [List.filter_cons_of_neg (p := fun p : Nat × Pc => p.2.fst) hq, if_neg hq]; rfl
    rw [key P, key Q, ih]
    congr 1
    cases hp : P a with
    | some q =>
      by_cases hq : q.fst = true
      · rw [(h a q hq).1 hp]
      · simp only [if_neg hq]
        cases hQ : Q a with
        | none => rfl
        | some r =>
          by_cases hr : r.fst = true
          · have := (h a r hr).2 hQ
            rw [hp] at this
            cases this
            exact absurd hr hq
          · simp only [if_neg hr]
    | none =>
      cases hQ : Q a with
      | none => rfl
      | some r =>
        by_cases hr : r.fst = true
        · have := (h a r hr).2 hQ
          rw [hp] at this
          cases this
        · simp only [if_neg hr]
/-- Where the first piece of a sitting is not there, none of it counts. -/
theorem ext_good {m since : Nat} {P0 : Nat → Option Pc} {rs0 : List (List UInt8)} {Wh0 : List Nat} (hR : RI m since P0 rs0 Wh0) {s : Nat} (hs : ∀ a q, P0 a = some q → q.sit < s) (h1 : 1 ≤ since) (h2 : since ≤ s) {T : List UInt8} {P : Nat → Option Pc} (hD : Drawn m P0 s ((enc rs0).length / 60) (enc rs0).length T P) (hf : ∀ a q, P a = some q → q.sit = s → q.fst = false) (hk : ∀ a ∈ Wh0, P a = P0 a) : GoodI m since P rs0 Wh0 := by
  obtain ⟨Q, hQ⟩ : ∃ Q : Nat → Option Pc, Q = fun a => (P a).bind fun q => if q.sit < s then some q else none := ⟨_, rfl⟩
  have q1 : ∀ a q, Q a = some q ↔ P a = some q ∧ q.sit < s := by
    intro a q
    rw [hQ]
    cases e : P a with
    | none => simp [e]
    | some r =>
      simp only [e, Option.bind_some]
      by_cases hr : r.sit < s
      · rw [if_pos hr]
        constructor
        · intro h; cases h; exact ⟨rfl, hr⟩
        · rintro ⟨h, _⟩; exact h
      · rw [if_neg hr]
        constructor
        · intro h; cases h
        · rintro ⟨h, h'⟩; cases h; exact absurd h' hr
  clear hQ
  have hsub : SubI Q P0 := fun a q e => by
    obtain ⟨e1, e2⟩ := (q1 a q).1 e
    rcases hD.each a q e1 with h | h
    · exact h
    · have := h.sit; omega
  have hdQ : Dom m Q := hsub.dom hR.dom
  have g : GoodI m since Q rs0 Wh0 := hR.sub Q hsub (fun a ha => by
    cases e : P0 a with
    | none =>
      cases e2 : Q a with
      | none => rfl
      | some r => have := hsub a r e2; rw [e] at this; cases this
    | some r => exact (q1 a r).2 ⟨(hk a ha).trans e, hs a r e⟩)
  have hvk : vkF m since P = vkF m since Q := by
    unfold vkF
    rw [startF_filter since (allF m P), startF_filter since (allF m Q), allF_filter m P Q (fun a q hq => ?_)]
    rw [q1]
    constructor
    · intro e
      refine ⟨e, ?_⟩
      rcases hD.each a q e with h | h
      · exact hs a q h
      · have := hf a q e h.sit
        rw [hq] at this
        cases this
    · exact fun e => e.1
  have hvs : (vkF m since Q).1 < s := by
    rcases (vk_spec (since := since) hdQ).2.2 with e | ⟨b, p, hb, _, e, _⟩
    · rw [e]; simp only; omega
    · rw [← e]; exact ((q1 b p).1 hb).2
  have hnew : ∀ a q, P a = some q → ¬ q.sit < s → q.sit = s ∧ (enc rs0).length / 60 < q.num := by
    intro a q e hn
    rcases hD.each a q e with h | h
    · exact absurd (hs a q h) hn
    · have h3 := hf a q e h.sit
      have h4 := h.num
      have h5 : ¬ q.num = (enc rs0).length / 60 := fun e => by
        have := h.fst.2 e
        rw [h3] at this
        cases this
      exact ⟨h.sit, by omega⟩
  have hk3 := g.k3
  have hnc : ∀ a q, P a = some q → ¬ q.sit < s → cntF since (vkF m since Q) q = false := by
    intro a q e hn
    obtain ⟨h3, h4⟩ := hnew a q e hn
    unfold cntF
    rw [decide_eq_false (show ¬ q.num < (vkF m since Q).2 by omega), decide_eq_false (show ¬ q.sit = (vkF m since Q).1 by omega)]
    rfl
  have hbs : bsF m since P = bsF m since Q := by
    funext n
    unfold bsF
    rw [hvk]
    cases e : bestF (cntF since (vkF m since Q)) (allF m Q) n with
    | some x =>
      obtain ⟨a, q⟩ := x
      obtain ⟨g1, g2, g3, g4⟩ := best_some hdQ e
      refine best_of hD.dom ⟨((q1 a q).1 g1).1, g2, g3, fun b p hb e1 e2 => ?_⟩
      by_cases hp : p.sit < s
      · exact g4 b p ((q1 b p).2 ⟨hb, hp⟩) e1 e2
      · rw [hnc b p hb hp] at e2; cases e2
    | none =>
      refine best_no hD.dom (fun b p hb e1 => ?_)
      by_cases hp : p.sit < s
      · exact best_none hdQ e b p ((q1 b p).2 ⟨hb, hp⟩) e1
      · exact hnc b p hb hp
  have hch : chF m since P = chF m since Q := by unfold chF; rw [hbs]
  have hcat : catF m since P = catF m since Q := by unfold catF; rw [hch]
  refine ⟨by rw [hcat]; exact g.rc, ?_, fun a q e hv => ?_, by rw [hvk]; exact hk3⟩
  · rw [← g.wh]
    unfold whF
    rw [hch, hcat]
  · by_cases hp : q.sit < s
    · exact g.gb a q ((q1 a q).2 ⟨e, hp⟩) (by rw [← hvk]; exact hv)
    · exact (hnew a q e hp).2
end Go.Proofs.Ytijjegkkeigeoaa

namespace Go.Proofs.Ytijjegkkeigeoaa
set_option linter.unusedVariables false
set_option linter.unusedSimpArgs false

/-- A sitting, and what may be there of it. -/
structure Sit (m since : Nat) (P0 : Nat → Option Pc) (rs0 : List (List UInt8)) (Wh0 : List Nat) (s : Nat) (T : List UInt8) (P : Nat → Option Pc) : Prop where
  R : RI m since P0 rs0 Wh0
  old : ∀ a q, P0 a = some q → q.sit < s
  h1 : 1 ≤ since
  h2 : since ≤ s
  t0 : enc rs0 <+: T
  tm : T.length ≤ 12000
  D : Drawn m P0 s ((enc rs0).length / 60) (enc rs0).length T P
  keep : ∀ n, n < (enc rs0).length / 60 → P (Wh0.getD n 0) = P0 (Wh0.getD n 0)
section
variable {m since : Nat} {P0 : Nat → Option Pc} {rs0 : List (List UInt8)} {Wh0 : List Nat} {s : Nat} {T : List UInt8} {P : Nat → Option Pc}
theorem Sit.short (h : Sit m since P0 rs0 Wh0 s T P) : ∀ a q, P a = some q → q.byt.length ≤ 60 := h.D.short h.R.short
theorem Sit.vk (h : Sit m since P0 rs0 Wh0 s T P) (hf : ∃ a q, P a = some q ∧ q.sit = s ∧ q.fst = true) : vkF m since P = (s, (enc rs0).length / 60) := by
  obtain ⟨a, q, ha, hq, hqf⟩ := hf
  have h1 := h.h1
  have h2 := h.h2
  obtain ⟨g1, g2, g3⟩ := vk_spec (since := since) h.D.dom
  have g4 := g2 a q ha hqf
  rcases g3 with e | ⟨b, p, hb, hpf, e1, e2, e3⟩
  · rw [e] at g4
    simp only at g4
    omega
  · rcases h.D.each b p hb with k | k
    · have := h.old b p k
      omega
    · have k1 := k.sit
      have k2 := k.fst.1 hpf
      rw [← k1, ← k2]
      exact Prod.ext e1.symm e2.symm
/-- The pieces ahead of it are as they were. -/
theorem Sit.ahead (h : Sit m since P0 rs0 Wh0 s T P) (hv : vkF m since P = (s, (enc rs0).length / 60)) (n : Nat) (hn : n < (enc rs0).length / 60) : ∃ q, bsF m since P n = some (Wh0.getD n 0, q) ∧ P0 (Wh0.getD n 0) = some q ∧ q.byt = ((enc rs0).drop (60 * n)).take 60 ∧ q.byt.length = 60 := by
  have g := h.R.good
  obtain ⟨_, hp⟩ := g.piece h.R.dom h.R.short
  obtain ⟨q, e1, e2, e3⟩ := hp n (by unfold pcs; omega)
  have hl := h.R.short _ _ e2
  have he : ((enc rs0).drop (60 * n)).take 60 = q.byt := e3.eq_of_length (by
    have := e3.length_le
    rw [List.length_take, List.length_drop] at this ⊢
    omega)
  have h60 : q.byt.length = 60 := by
    rw [← he, List.length_take, List.length_drop]
    omega
  refine ⟨q, ?_, e2, he.symm, h60⟩
  obtain ⟨b1, b2, b3, b4⟩ := best_some h.R.dom e1
  refine best_of h.D.dom ⟨(h.keep n hn).trans e2, b2, ?_, fun b p hb f1 f2 => ?_⟩
  · rw [hv]
    unfold cntF at b3 ⊢
    simp only [Bool.and_eq_true, decide_eq_true_eq] at b3
    rw [decide_eq_true (show q.num < (s, (enc rs0).length / 60).2 by simp only; omega), decide_eq_true b3.2]
    rfl
  · have hold : P0 b = some p := by
      rcases h.D.each b p hb with k | k
      · exact k
      · have := k.num; omega
    by_cases hc : cntF since (vkF m since P0) p = true
    · exact b4 b p hold f1 hc
    · have hgb := g.gb b p hold
      unfold cntF at b3 hc f2
      simp only [Bool.and_eq_true, Bool.or_eq_true, decide_eq_true_eq] at b3 hc f2
      have hlt : p.sit < q.sit := by
        have hq : ¬ q.num < (vkF m since P0).2 := fun e => hc ⟨.inl (by omega), f2.2⟩
        have hq2 : q.sit = (vkF m since P0).1 := b3.1.resolve_left hq
        have hp1 : ¬ p.sit = (vkF m since P0).1 := fun e => hc ⟨.inr e, f2.2⟩
        have hp2 : ¬ (vkF m since P0).1 < p.sit := fun e => by have := hgb e; omega
        omega
      exact ⟨over_false.2 (by omega), fun _ => over_true.2 (.inl hlt)⟩
/-- Those behind are its own. -/
theorem Sit.behind (h : Sit m since P0 rs0 Wh0 s T P) (hv : vkF m since P = (s, (enc rs0).length / 60)) {n : Nat} (hn : (enc rs0).length / 60 ≤ n) {q : Pc} {a : Nat} (e : P a = some q) (hq : q.num = n) (hc : cntF since (vkF m since P) q = true) : NewP s ((enc rs0).length / 60) (enc rs0).length T q := by
  rw [hv] at hc
  unfold cntF at hc
  simp only [Bool.and_eq_true, Bool.or_eq_true, decide_eq_true_eq] at hc
  have hs : q.sit = s := hc.1.resolve_left (by omega)
  rcases h.D.each a q e with k | k
  · have := h.old a q k; omega
  · exact k
theorem Sit.counts (h : Sit m since P0 rs0 Wh0 s T P) (hv : vkF m since P = (s, (enc rs0).length / 60)) {q : Pc} (hs : q.sit = s) : cntF since (vkF m since P) q = true := by
  have := h.h2
  rw [hv]
  unfold cntF
  simp only [Bool.and_eq_true, Bool.or_eq_true, decide_eq_true_eq]
  exact ⟨.inr hs, by omega⟩
theorem Sit.upper (h : Sit m since P0 rs0 Wh0 s T P) (hv : vkF m since P = (s, (enc rs0).length / 60)) : catF m since P <+: T := by
  have hT := h.t0
  have := chain_text (b := bsF m since P) (T := T) 200 0 (fun i p _ hp => by
    obtain ⟨a, q⟩ := p
    have hb := best_some h.D.dom hp
    by_cases hi : i < (enc rs0).length / 60
    · obtain ⟨q', e1, e2, e3, e4⟩ := h.ahead hv i hi
      rw [hp] at e1
      cases e1
      refine ⟨?_, by show q.byt.length ≤ 60; omega⟩
      show q.byt <+: _
      rw [e3]
      obtain ⟨z, rfl⟩ := hT
      rw [List.drop_append_of_le_length (by omega)]
      exact (List.take_prefix _ _).trans (List.prefix_append _ _)
    · have k := h.behind hv (n := i) (by omega) hb.1 hb.2.1 hb.2.2.1
      have := k.byt
      rw [hb.2.1] at this
      exact ⟨this, k.l2⟩)
  rwa [Nat.mul_zero, List.drop_zero] at this
/-- A text of which each piece is there. -/
theorem Sit.lower (h : Sit m since P0 rs0 Wh0 s T P) (hv : vkF m since P = (s, (enc rs0).length / 60)) {S : List UInt8} (hS : S <+: T) (h0 : enc rs0 <+: S) (hl : ∀ n, (enc rs0).length / 60 ≤ n → 60 * n < S.length → ∃ a q, P a = some q ∧ q.sit = s ∧ q.num = n ∧ (S.length ≤ 60 * n + q.byt.length ∨ q.byt.length = 60)) : S <+: catF m since P := by
  have hT := h.t0
  have htm := h.tm
  have hsl := hS.length_le
  have := chain_ge (b := bsF m since P) (S := S) (RI.shortB h.D.dom h.short) 200 0 (fun i _ hi => by
    by_cases hi2 : i < (enc rs0).length / 60
    · obtain ⟨q, e1, e2, e3, e4⟩ := h.ahead hv i hi2
      refine ⟨_, e1, ?_⟩
      show _ <+: q.byt
      rw [e3]
      obtain ⟨z, rfl⟩ := h0
      rw [List.drop_append_of_le_length (by omega), List.take_append_of_le_length (by rw [List.length_drop]; omega)]
      exact List.prefix_refl _
    · obtain ⟨a, q, e1, e2, e3, e4⟩ := hl i (by omega) hi
      have hc := h.counts hv e2
      cases e : bsF m since P i with
      | none => have := best_none h.D.dom e a q e1 e3; rw [hc] at this; cases this
      | some x =>
        obtain ⟨b, p⟩ := x
        obtain ⟨b1, b2, b3, b4⟩ := best_some h.D.dom e
        have ho := over_false.1 (b4 a q e1 e3 hc).1
        have k := h.behind hv (n := i) (by omega) b1 b2 b3
        have kb := k.byt
        have ks := k.sit
        rw [b2] at kb
        refine ⟨_, rfl, ?_⟩
        show _ <+: p.byt
        obtain ⟨z, rfl⟩ := hS
        rw [List.drop_append_of_le_length (by omega)] at kb
        refine List.prefix_of_prefix_length_le ((List.take_prefix _ _).trans (List.prefix_append _ _)) kb ?_
        rw [List.length_take, List.length_drop]
        have := h.short a q e1
        omega) (by omega)
  rwa [Nat.mul_zero, List.drop_zero] at this
theorem Sit.sub (h : Sit m since P0 rs0 Wh0 s T P) {P' : Nat → Option Pc} (hs : SubI P' P) (hk : ∀ n, n < (enc rs0).length / 60 → P' (Wh0.getD n 0) = P (Wh0.getD n 0)) : Sit m since P0 rs0 Wh0 s T P' :=
  ⟨h.R, h.old, h.h1, h.h2, h.t0, h.tm, h.D.sub hs, fun n hn => (hk n hn).trans (h.keep n hn)⟩
end
theorem enc_short {rs ss : List (List UInt8)} (h : rs <+: ss) (hl : (enc ss).length ≤ (enc rs).length) : rs = ss := by
  obtain ⟨t, rfl⟩ := h
  rw [enc_append, List.length_append] at hl
  cases t with
  | nil => simp
  | cons r t =>
    rw [enc_cons, List.length_append, enc1_length] at hl
    omega
theorem lgD_mem {l : List Nat} {i : Nat} (h : i < l.length) : l.getD i 0 ∈ l := by
  rw [List.getD_eq_getElem?_getD, List.getElem?_eq_getElem h]
  exact List.getElem_mem h
/-- What is found behind a sitting, whatever was lost. -/
theorem Sit.main {m since : Nat} {P0 : Nat → Option Pc} {rs0 : List (List UInt8)} {Wh0 : List Nat} {s : Nat} {rs rsm : List (List UInt8)} {P : Nat → Option Pc} (h : Sit m since P0 rs0 Wh0 s (enc rs) P) (hk : okL rs) (hm : rsm <+: rs) (h0 : rs0 <+: rsm)
    (hfirm : (enc rs0).length < (enc rsm).length → ∀ n, (enc rs0).length / 60 ≤ n → 60 * n < (enc rsm).length → ∃ a q, P a = some q ∧ q.sit = s ∧ q.num = n ∧ ((enc rsm).length ≤ 60 * n + q.byt.length ∨ q.byt.length = 60))
    (hopen : (enc rsm).length = (enc rs0).length → ∀ a ∈ Wh0, P a = P0 a) : ∃ rs', rsm <+: rs' ∧ rs' <+: rs ∧ RI m since P rs' (whF m since P) ∧ ∀ a q, P a = some q → q.sit ≤ s := by
  have hsit : ∀ a q, P a = some q → q.sit ≤ s := fun a q e => by
    rcases h.D.each a q e with k | k
    · have := h.old a q k; omega
    · have := k.sit; omega
  have h0l := (enc_prefix h0).length_le
  by_cases hf : ∃ a q, P a = some q ∧ q.sit = s ∧ q.fst = true
  · have hv := h.vk hf
    have hup := h.upper hv
    have hlow : enc rsm <+: catF m since P := h.lower hv (enc_prefix hm) (enc_prefix h0) (fun n hn hl => by
      by_cases hfm : (enc rs0).length < (enc rsm).length
      · exact hfirm hfm n hn hl
      · obtain ⟨a, q, ha, hq, hqf⟩ := hf
        have k : NewP s ((enc rs0).length / 60) (enc rs0).length (enc rs) q := by
          rcases h.D.each a q ha with k | k
          · have := h.old a q k; omega
          · exact k
        have k1 := k.fst.1 hqf
        exact ⟨a, q, ha, hq, by omega, .inl (by have := k.l0 k1; omega)⟩)
    obtain ⟨hb1, hb2⟩ := recs_between hk (okL_prefix hm hk) hlow hup
    obtain ⟨rs', hrs'⟩ : ∃ rs', recs (catF m since P) = rs' := ⟨_, rfl⟩
    rw [hrs'] at hb1 hb2
    have hrc : enc rs' <+: catF m since P := by rw [← hrs']; exact enc_recs _
    have h0' : rs0 <+: rs' := h0.trans hb1
    have h0l' := (enc_prefix h0').length_le
    have hg : GoodI m since P rs' (whF m since P) := ⟨hrs', rfl, fun a q e hx => by
      have := hsit a q e
      rw [hv] at hx
      simp only at hx
      omega, by rw [hv]; simp only; omega⟩
    obtain ⟨hwl, hpc⟩ := hg.piece h.D.dom h.short
    have hWh : ∀ n, n < (enc rs0).length / 60 → (whF m since P).getD n 0 = Wh0.getD n 0 ∧ n < (whF m since P).length := fun n hn => by
      have hn2 : n < pcs (enc rs').length := by unfold pcs; omega
      obtain ⟨q, e1, _⟩ := hpc n hn2
      obtain ⟨q', e2, _⟩ := h.ahead hv n hn
      have e3 := Option.some.inj (e1.symm.trans e2)
      exact ⟨congrArg Prod.fst e3, by rw [hwl]; exact hn2⟩
    refine ⟨rs', hb1, hb2, ⟨h.D.dom, h.short, fun P'' hsub hkeep => ?_⟩, hsit⟩
    have hS'' := h.sub hsub (fun n hn => by
      obtain ⟨e, hlt⟩ := hWh n hn
      rw [← e]
      exact hkeep _ (lgD_mem hlt))
    by_cases hf'' : ∃ a q, P'' a = some q ∧ q.sit = s ∧ q.fst = true
    · have hv'' := hS''.vk hf''
      have hlow'' : enc rs' <+: catF m since P'' := hS''.lower hv'' (enc_prefix hb2) (enc_prefix h0') (fun n hn hl => by
        have hn2 : n < pcs (enc rs').length := by unfold pcs; omega
        obtain ⟨q, e1, e2, e3⟩ := hpc n hn2
        obtain ⟨b1, b2, b3, b4⟩ := best_some h.D.dom e1
        have k := h.behind hv (n := n) hn b1 b2 b3
        refine ⟨_, q, (hkeep _ (lgD_mem (by rw [hwl]; exact hn2))).trans e2, k.sit, b2, ?_⟩
        have := e3.length_le
        rw [List.length_take, List.length_drop] at this
        have := k.l2
        omega)
      have hle : catF m since P'' <+: catF m since P := chain_le (RI.shortB h.D.dom h.short) 200 0 (fun i p'' _ hp'' => by
        obtain ⟨a'', q''⟩ := p''
        obtain ⟨c1, c2, c3, c4⟩ := best_some hS''.D.dom hp''
        by_cases hi : i < (enc rs0).length / 60
        · obtain ⟨q, e1, e2, e3, e4⟩ := h.ahead hv i hi
          obtain ⟨q2, f1, f2, f3, f4⟩ := hS''.ahead hv'' i hi
          rw [hp''] at f1
          cases f1
          refine ⟨_, e1, ?_⟩
          show q''.byt <+: q.byt
          rw [f3, e3]
          exact List.prefix_refl _
        · have k'' := hS''.behind hv'' (n := i) (by omega) c1 c2 c3
          have hcP := h.counts hv k''.sit
          cases e : bsF m since P i with
          | none => have := best_none h.D.dom e a'' q'' (hsub _ _ c1) c2; rw [hcP] at this; cases this
          | some x =>
            obtain ⟨b, p⟩ := x
            obtain ⟨b1, b2, b3, b4⟩ := best_some h.D.dom e
            have ho := over_false.1 (b4 a'' q'' (hsub _ _ c1) c2 hcP).1
            have k := h.behind hv (n := i) (by omega) b1 b2 b3
            have kb := k.byt
            have kb'' := k''.byt
            have ks := k.sit
            have ks'' := k''.sit
            rw [b2] at kb
            rw [c2] at kb''
            refine ⟨_, rfl, ?_⟩
            exact List.prefix_of_prefix_length_le kb'' kb (by show q''.byt.length ≤ p.byt.length; omega))
      have hrc'' : recs (catF m since P'') = rs' := by
        have := recs_less hle (by rw [hrs']; exact hlow'')
        rw [this, hrs']
      refine ⟨hrc'', ?_, fun a q e hx => ?_, by rw [hv'']; simp only; omega⟩
      · unfold whF
        rw [hrc'', hrs']
        congr 1
        refine chainF_take 200 0 _ (fun i _ hi => ?_)
        have hi2 : i < pcs (enc rs').length := by omega
        obtain ⟨q, e1, e2, e3⟩ := hpc i hi2
        obtain ⟨b1, b2, b3, b4⟩ := best_some h.D.dom e1
        rw [e1]
        refine best_of hS''.D.dom ⟨(hkeep _ (lgD_mem (by rw [hwl]; exact hi2))).trans e2, b2, by rw [hv'', ← hv]; exact b3, fun b p hb f1 f2 => b4 b p (hsub b p hb) f1 (by rw [hv, ← hv'']; exact f2)⟩
      · have := hsit a q (hsub a q e)
        rw [hv''] at hx
        simp only at hx
        omega
    · have hno : ∀ a q, P'' a = some q → q.sit = s → q.fst = false := fun a q e hq => by
        cases hh : q.fst with
        | false => rfl
        | true => exact absurd ⟨a, q, e, hq, hh⟩ hf''
      have hst : ¬ (enc rs0).length / 60 < pcs (enc rs').length := fun hlt => by
        obtain ⟨q, e1, e2, e3⟩ := hpc _ hlt
        obtain ⟨b1, b2, b3, b4⟩ := best_some h.D.dom e1
        have k := h.behind hv (Nat.le_refl _) b1 b2 b3
        have e'' := (hkeep _ (lgD_mem (by rw [hwl]; exact hlt))).trans e2
        have := hno _ _ e'' k.sit
        rw [k.fst.2 b2] at this
        cases this
      have hlen : (enc rs').length = (enc rs0).length ∧ (enc rs0).length = 60 * ((enc rs0).length / 60) := by unfold pcs at hst; omega
      have hrr : rs0 = rs' := enc_short h0' (by omega)
      have g0 := h.R.good
      obtain ⟨hw0, _⟩ := g0.piece h.R.dom h.R.short
      have hp0 : pcs (enc rs0).length = (enc rs0).length / 60 := by unfold pcs; omega
      have hkeep0 : ∀ a ∈ Wh0, P'' a = P0 a := fun a ha => by
        obtain ⟨i, hi, rfl⟩ := List.getElem_of_mem ha
        have hi2 : i < (enc rs0).length / 60 := by omega
        have := hS''.keep i hi2
        rw [List.getD_eq_getElem?_getD, List.getElem?_eq_getElem hi] at this
        exact this
      have hgood := ext_good h.R h.old h.h1 h.h2 hS''.D hno hkeep0
      have hWW : Wh0 = whF m since P := by
        refine List.ext_getElem? (fun i => ?_)
        by_cases hi : i < (enc rs0).length / 60
        · obtain ⟨e, hlt⟩ := hWh i hi
          have hi0 : i < Wh0.length := by omega
          rw [List.getElem?_eq_getElem hi0, List.getElem?_eq_getElem hlt]
          rw [List.getD_eq_getElem?_getD, List.getD_eq_getElem?_getD, List.getElem?_eq_getElem hi0, List.getElem?_eq_getElem hlt] at e
          exact congrArg some e.symm
        · rw [List.getElem?_eq_none (by omega), List.getElem?_eq_none (by rw [hwl]; unfold pcs; omega)]
      rw [← hrr, ← hWW]
      exact hgood
  · have hno : ∀ a q, P a = some q → q.sit = s → q.fst = false := fun a q e hq => by
      cases hh : q.fst with
      | false => rfl
      | true => exact absurd ⟨a, q, e, hq, hh⟩ hf
    have hnf : ¬ (enc rs0).length < (enc rsm).length := fun hfm => by
      obtain ⟨a, q, e1, e2, e3, _⟩ := hfirm hfm ((enc rs0).length / 60) (Nat.le_refl _) (by omega)
      have k : NewP s ((enc rs0).length / 60) (enc rs0).length (enc rs) q := by
        rcases h.D.each a q e1 with k | k
        · have := h.old a q k; omega
        · exact k
      have := hno a q e1 e2
      rw [k.fst.2 e3] at this
      cases this
    have hrr : rs0 = rsm := enc_short h0 (by omega)
    have hkeep := hopen (by omega)
    have hgood := ext_good h.R h.old h.h1 h.h2 h.D hno hkeep
    refine ⟨rs0, by rw [hrr]; exact List.prefix_refl _, h0.trans hm, ⟨h.D.dom, h.short, fun P'' hsub hk'' => ?_⟩, hsit⟩
    rw [hgood.wh] at hk'' ⊢
    exact ext_good h.R h.old h.h1 h.h2 (h.D.sub hsub) (fun a q e => hno a q (hsub a q e)) (fun a ha => (hk'' a ha).trans (hkeep a ha))
end Go.Proofs.Ytijjegkkeigeoaa

namespace Go.Proofs.Ytijjegkkeigeoaa
set_option linter.unusedVariables false
set_option linter.unusedSimpArgs false
set_option maxRecDepth 100000
open Go.RowKit Go.Lib

theorem word_any (a : Option Addr) (l : List UInt8) (cap : Nat) (w : World) (h : IsBy w a l cap) (hl : 2 ≤ l.length) (hm : l.length ≤ 1000000) :
    Calls Try.prog 52 #[.slice a l.length cap] w fun e w' => e = .returned (.int .i64 (wordN l : Nat)) ∧ Still w w' := by
  rcases h.lies with e | ⟨b, off, rfl, hlt, hc⟩
  · subst e; simp at hl
  have c0 := hc 0 (by omega)
  have c1 := hc 1 (by omega)
  rw [Nat.add_zero] at c0
  have l0 : (0 : Int) < l.length := by omega
  have l1 : (1 : Int) < l.length := by omega
  have l2 : (l.length : Int) ≤ 1000000 := by omega
  have ew : wordN l = (l[0]'(by omega)).toNat * 256 + (l[1]'(by omega)).toNat := by
    unfold wordN
    rw [List.getD_eq_getElem?_getD, List.getD_eq_getElem?_getD, List.getElem?_eq_getElem (by omega), List.getElem?_eq_getElem (by omega)]
    rfl
  have hx := (l[0]'(by omega)).toNat_lt
  have hy := (l[1]'(by omega)).toNat_lt
  generalize (l[0]'(by omega)).toNat = x at *
  generalize (l[1]'(by omega)).toNat = y at *
  have ho := or_byte x y (by omega) (by omega)
  rw [ew]
  obtain ⟨z, hz⟩ : ∃ z, x * 256 + y = z := ⟨_, rfl⟩
  rw [hz] at ho ⊢
  have x0 : (0 : Int) ≤ x := by omega
  have x1 : (x : Int) < 256 := by omega
  have y0 : (0 : Int) ≤ y := by omega
  have y1 : (y : Int) < 256 := by omega
  clear h hc ew hz hl hm hx hy
  generalize l.length = L at *
  go_enter Try.func52, Try.ntmps52
  go_wp2_with fail
  go_quiet (fail)
  rename Nat => nq
  go_wp2
  go_ret
  exact ⟨rfl, Still.drewN _ _⟩
theorem u8_hi (n : Nat) (h : n < 65536) : IntKind.u8.wrap ((n : Int) / 256) = ((UInt8.ofNat (n / 256)).toNat : Int) := by
  rw [UInt8.toNat_ofNat', IntKind.wrap_u8]; omega
theorem u8_lo (n : Nat) : IntKind.u8.wrap (n : Int) = ((UInt8.ofNat n).toNat : Int) := by
  rw [UInt8.toNat_ofNat', IntKind.wrap_u8]; omega
/-- A number of two bytes. -/
def w2B (n : Nat) : List UInt8 := [UInt8.ofNat (n / 256), UInt8.ofNat n]
theorem addWord_any (base : Nat) (v : Value) (l : List UInt8) (n : Nat) (w : World) (h : ByRow w base v l) (hb : base ≤ w.heap.size) (hl : l.length ≤ 100000) (hn : n < 65536) :
    Calls Try.prog 41 #[v, .int .i64 (n : Int)] w fun e w' => ∃ v', e = .returned v' ∧ Hid (ByRow w' base v' (l ++ w2B n)) ∧ Hid (Below base w w') ∧ Hid (∀ b, b < w.heap.size → v.ownBlock ≠ some b → w'.heap[b]? = w.heap[b]?) ∧ Hid (∀ j, v'.ownBlock = some j → v.ownBlock = some j ∨ w.heap.size ≤ j) := by
  have HR : Hid (ByRow w base v l) := h
  obtain ⟨av, cv, rfl, _⟩ := h.isBy
  have hi := u8_hi n hn
  have hlo := u8_lo n
  have n0 : (0 : Int) ≤ n := by omega
  have n1 : (n : Int) < 65536 := by omega
  obtain ⟨x1, hx1⟩ : ∃ x1 : Int, ((UInt8.ofNat (n / 256)).toNat : Int) = x1 := ⟨_, rfl⟩
  obtain ⟨x2, hx2⟩ : ∃ x2 : Int, ((UInt8.ofNat n).toNat : Int) = x2 := ⟨_, rfl⟩
  rw [hx1] at hi
  rw [hx2] at hlo
  have HX : Hid ((byC (w2B n)).toArray = #[.int .u8 x1, .int .u8 x2]) := by
    rw [← hx1, ← hx2]; rfl
  clear hx1 hx2
  have hb1 : Below w.heap.size w (w.alloc (.cells #[.int .u8 x1, .int .u8 x2] 5)) := (Below.refl _ w).alloc (Nat.le_refl _) _
  have HB1 : Hid (Below w.heap.size w (w.alloc (.cells #[.int .u8 x1, .int .u8 x2] 5))) := hb1
  have HR1 : Hid (ByRow (w.alloc (.cells #[.int .u8 x1, .int .u8 x2] 5)) base (.slice av l.length cv) l) := HR.out.below hb1
  have HN1 : Hid (IsBy (w.alloc (.cells #[.int .u8 x1, .int .u8 x2] 5)) (some ⟨w.heap.size, 0, none⟩) (w2B n) 2) := by
    have := isBy_new w (w2B n)
    rw [HX.out] at this
    exact this
  have hsz : (w.alloc (.cells #[.int .u8 x1, .int .u8 x2] 5)).heap.size = w.heap.size + 1 := by simp
  have HSZ : Hid ((w.alloc (.cells #[.int .u8 x1, .int .u8 x2] 5)).heap.size = w.heap.size + 1) := hsz
  clear h hb1 hsz
  go_enter Try.func41, Try.ntmps41
  go_wp2_with (at_builtin; refine wpList_appB rfl (.tmp 5) (.tmp 11) rfl base (.slice av l.length cv) l (some ⟨w.heap.size, 0, none⟩) (w2B n) 2 2 (by rfl) (by rfl) rfl HR1.out HN1.out (.inr (by simp)) (by rw [HSZ.out]; omega) (by simp [w2B]; omega) ?_; intro v' w2 hr2 hb2 ho2 hl2)
  have HE : Hid (ByRow w2 base v' (l ++ w2B n) ∧ Below base w w2 ∧ (∀ b, b < w.heap.size → (Value.slice av l.length cv).ownBlock ≠ some b → w2.heap[b]? = w.heap[b]?) ∧ (∀ j, v'.ownBlock = some j → (Value.slice av l.length cv).ownBlock = some j ∨ w.heap.size ≤ j)) := by
    refine ⟨hr2, (HB1.out.mono hb).trans hb2, fun b hbl hne => (ho2 b (by rw [HSZ.out]; omega) hne).trans (HB1.out.block b hbl), fun j hj => ?_⟩
    rcases hl2 with e | e
    · exact .inl (e ▸ hj)
    · rw [e, HSZ.out] at hj
      cases hj
      exact .inr (by omega)
  clear hr2 hb2 ho2 hl2
  go_wp2
  go_ret
  exact ⟨_, rfl, HE.out.1, HE.out.2.1, HE.out.2.2.1, HE.out.2.2.2⟩
section
variable {w W : World} {p nb sb : Nat} {cv : Value} {n : Nat} {D : Dk}
theorem lblocks_any (a : Tn w W p nb sb cv n D) : Calls Try.prog 13 #[.pointer (some ⟨p, 0, none⟩)] W fun e w' => e = .returned (.int .i64 (n : Int)) ∧ w' = W := by
  have c := a.1.p0
  clear a
  go_enter Try.func13, Try.ntmps13
  go_wp2
  go_ret
  exact ⟨rfl, rfl⟩
theorem valid_any (a : Tn w W p nb sb cv n D) (fr mn : Int) (hn : n ≤ 200) (hw : mn ≤ 9223372036854775807) :
    Calls Try.prog 27 #[.agg #[.pointer (some ⟨p, 0, none⟩), .int .i64 fr, .int .i64 mn]] W fun e w' => e = .returned (.bool (decide (1 ≤ mn ∧ 0 ≤ fr ∧ fr ≤ (n : Int) - mn))) ∧ Below W.heap.size W w' := by
  obtain ⟨W1, hW1⟩ : ∃ W1, W.alloc (.cells #[.pointer (some ⟨p, 0, none⟩), .int .i64 fr, .int .i64 mn] 77) = W1 := ⟨_, rfl⟩
  have hB : Below W.heap.size W W1 := by rw [← hW1]; exact (Below.refl _ W).alloc (Nat.le_refl _) _
  have HB : Hid (Below W.heap.size W W1) := hB
  have hbl : ∀ k, Calls Try.prog 13 #[.pointer (some ⟨p, 0, none⟩)] (W1.drewN k) fun e w' => e = .returned (.int .i64 (n : Int)) ∧ w' = W1.drewN k := fun k => lblocks_any ((a.below hB).below ((Still.drewN _ k).below _))
  have hr := new_heap W (.cells #[.pointer (some ⟨p, 0, none⟩), .int .i64 fr, .int .i64 mn] 77)
  rw [hW1] at hr
  have c0 : W1.cell? ⟨W.heap.size, 0, none⟩ = some (.pointer (some ⟨p, 0, none⟩)) := by simp [World.cell?, hr]
  have c1 : W1.cell? ⟨W.heap.size, 1, none⟩ = some (.int .i64 fr) := by simp [World.cell?, hr]
  have c2 : W1.cell? ⟨W.heap.size, 2, none⟩ = some (.int .i64 mn) := by simp [World.cell?, hr]
  have n0 : (0 : Int) ≤ n := by omega
  have n1 : (n : Int) ≤ 200 := by omega
  clear a hB hr
  by_cases h1 : 1 ≤ mn
  · by_cases h2 : 0 ≤ fr
    · rw [show (decide (1 ≤ mn ∧ 0 ≤ fr ∧ fr ≤ (n : Int) - mn)) = decide (fr ≤ (n : Int) - mn) by simp [h1, h2]]
      go_enter Try.func27, Try.ntmps27
      go_wp2_with fail
      go_quiet ((go_at_call 13; exact Calls.quiet_of_same (hbl _)))
      rename Nat => nq
      go_wp2
      go_ret
      exact ⟨rfl, HB.out.trans ((Still.drewN _ nq).below _)⟩
    · rw [show (decide (1 ≤ mn ∧ 0 ≤ fr ∧ fr ≤ (n : Int) - mn)) = false by rw [decide_eq_false]; omega]
      have hd : decide (0 ≤ fr) = false := decide_eq_false h2
      clear h2
      go_enter Try.func27, Try.ntmps27
      go_wp2_with fail
      go_quiet ((go_at_call 13; exact Calls.quiet_of_same (hbl _)))
      rename Nat => nq
      go_wp2
      go_ret
      exact ⟨rfl, HB.out.trans ((Still.drewN _ nq).below _)⟩
  · rw [show (decide (1 ≤ mn ∧ 0 ≤ fr ∧ fr ≤ (n : Int) - mn)) = false by rw [decide_eq_false]; omega]
    have hd : decide (1 ≤ mn) = false := decide_eq_false h1
    clear h1
    go_enter Try.func27, Try.ntmps27
    go_wp2_with fail
    go_quiet ((go_at_call 13; exact Calls.quiet_of_same (hbl _)))
    rename Nat => nq
    go_wp2
    go_ret
    exact ⟨rfl, HB.out.trans ((Still.drewN _ nq).below _)⟩
end
theorem size_any (p : Nat) (fr mn : Nat) (W : World) (hm : mn ≤ 200) :
    Calls Try.prog 56 #[.agg #[.pointer (some ⟨p, 0, none⟩), .int .i64 (fr : Int), .int .i64 (mn : Int)]] W fun e w' => e = .returned (.int .i64 (((mn - 2) * 60 : Nat) : Int)) ∧ Below W.heap.size W w' := by
  have m0 : (0 : Int) ≤ mn := by omega
  have m1 : (mn : Int) ≤ 200 := by omega
  by_cases h : 2 < mn
  · obtain ⟨k, rfl⟩ : ∃ k, mn = k + 2 := ⟨mn - 2, by omega⟩
    have h1 : 0 < k := by omega
    have h2 : (0 : Int) < (k : Int) := by omega
    rw [show (k + 2 - 2) * 60 = k * 60 by omega]
    go_enter Try.func56, Try.ntmps56
    go_wp2
    go_ret
    exact ⟨by go_num, (Below.refl _ W).alloc (Nat.le_refl _) _⟩
  · rw [show (mn - 2) * 60 = 0 by omega]
    rcases (show mn = 0 ∨ mn = 1 ∨ mn = 2 by omega) with rfl | rfl | rfl <;> (
      go_enter Try.func56, Try.ntmps56
      go_wp2
      go_ret
      exact ⟨rfl, (Below.refl _ W).alloc (Nat.le_refl _) _⟩)
theorem pieces_any (a : Option Addr) (k cap : Nat) (W : World) (hk : k ≤ 1000000) :
    Calls Try.prog 63 #[.slice a k cap] W fun e w' => e = .returned (.int .i64 (pcs k : Nat)) ∧ w' = W := by
  have k0 : (0 : Int) ≤ k := by omega
  have k1 : (k : Int) ≤ 1000000 := by omega
  unfold pcs
  go_enter Try.func63, Try.ntmps63
  go_wp2
  go_ret
  exact ⟨by go_num, rfl⟩
end Go.Proofs.Ytijjegkkeigeoaa
