/-
  Numbers: who has a part of itself by others, and what stays where holdings are left out again and again.
-/
import Derived.Test.YtmpjaogomabfiaaDoorGr9
namespace Go.Proofs.YtmpjaogomabfiaaDoor
set_option linter.unusedVariables false
set_option linter.unusedSimpArgs false
set_option maxRecDepth 100000
open Go.RowKit Go.Lib

/-- By so many holdings one behind the other. -/
def Rn (l : List Ho) : Nat → Int → Int → Prop
  | 0, e, x => x = e
  | n + 1, e, x => ∃ y, Rn l n e y ∧ ∃ h ∈ l, h.en = y ∧ h.of_ = x
theorem rn_trans {l : List Ho} {n : Nat} {e y : Int} (h : Rn l n e y) : ∀ (m : Nat) (x : Int), Rn l m y x → Rn l (n + m) e x
  | 0, x, hx => by
    have e1 : x = y := hx
    rw [e1]; exact h
  | m + 1, x, hx => by
    obtain ⟨z, hz, k, hk, h1, h2⟩ := hx
    exact ⟨z, rn_trans h m z hz, k, hk, h1, h2⟩
theorem rn_one {l : List Ho} {h : Ho} (hh : h ∈ l) : Rn l 1 h.en h.of_ := ⟨h.en, rfl, h, hh, rfl, rfl⟩
theorem lev_path {l : List Ho} (hok : HoOk l) : ∀ (k : Nat) (x : Int), Lev l k x → ∀ (n : Nat) (y : Int), Rn l n y x → n ≤ k
  | 0, x, hl, n, y, hr => by
    cases n with
    | zero => exact Nat.le_refl _
    | succ n =>
      obtain ⟨z, _, h, hh, _, h2⟩ := hr
      exact absurd h2 (hl h hh)
  | k + 1, x, hl, n, y, hr => by
    cases n with
    | zero => exact Nat.zero_le _
    | succ n =>
      obtain ⟨z, hz, h, hh, h1, h2⟩ := hr
      have h3 := lev_out hok k h hh (fun hm => hl h hm h2)
      rw [h1] at h3
      have := lev_path hok k z h3 n y hz
      omega
theorem rn_many {l : List Ho} {m : Nat} {e : Int} (h : Rn l m e e) : ∀ j, Rn l (m * j) e e
  | 0 => rfl
  | j + 1 => by
    have := rn_trans (rn_many h j) m e h
    rwa [Nat.mul_succ]
theorem no_cycle {l : List Ho} (hok : HoOk l) {N : Nat} (hn : prN N l = []) (m : Nat) (e : Int) (hm : 0 < m) (h : Rn l m e e) : False := by
  have hl : Lev l N e := fun x hx => by rw [hn] at hx; cases hx
  have h1 := lev_path hok N e hl _ e (rn_many h (N + 1))
  have h2 : 1 * (N + 1) ≤ m * (N + 1) := Nat.mul_le_mul_right _ hm
  omega
theorem hadL_none : ∀ (l : List Ho) (n : Nat), (∀ x ∈ l, x.of_ ≠ (n : Int)) → hadL l n = 0
  | [], _, _ => rfl
  | y :: l, n, h => by
    have e : hadL (y :: l) n = (if y.of_ = (n : Int) then y.pt else 0) + hadL l n := by simp [hadL]
    rw [e, if_neg (h y List.mem_cons_self), hadL_none l n (fun x hx => h x (List.mem_cons_of_mem _ hx))]
    rfl
theorem prn_fix (l : List Ho) : ∀ k, (∃ j, j ≤ k ∧ prn (prN j l) = prN j l) ∨ (prN k l).length + k ≤ l.length
  | 0 => .inr (by simp [prN])
  | k + 1 => by
    rcases prn_fix l k with ⟨j, hj, h⟩ | h
    · exact .inl ⟨j, by omega, h⟩
    · by_cases e : prn (prN k l) = prN k l
      · exact .inl ⟨k, by omega, e⟩
      · have h1 := (prn_sub (prN k l)).length_le
        have h2 : (prn (prN k l)).length ≠ (prN k l).length := fun h2 => e ((prn_sub (prN k l)).eq_of_length h2)
        exact .inr (by show (prn (prN k l)).length + (k + 1) ≤ _; omega)
theorem prn_stay {l : List Ho} {j : Nat} (h : prn (prN j l) = prN j l) : ∀ i, prN (j + i) l = prN j l
  | 0 => rfl
  | i + 1 => by
    show prn (prN (j + i) l) = _
    rw [prn_stay h i, h]
/-- Of so many in so few places two are in one. -/
theorem two_alike : ∀ (n : Nat) (v : Nat → Int), (∀ i, i ≤ n → 1 ≤ v i ∧ v i ≤ n) → ∃ i j, i < j ∧ j ≤ n ∧ v i = v j
  | 0, v, h => by have := h 0 (Nat.le_refl _); omega
  | n + 1, v, h => by
    by_cases h1 : ∃ i, i ≤ n ∧ v i = v (n + 1)
    · obtain ⟨i, hi, e⟩ := h1
      exact ⟨i, n + 1, by omega, Nat.le_refl _, e⟩
    · have h2 : ∀ i, i ≤ n → v i ≠ v (n + 1) := fun i hi e => h1 ⟨i, hi, e⟩
      have hl := h (n + 1) (Nat.le_refl _)
      obtain ⟨i, j, hij, hj, e⟩ := two_alike n (fun i => if v i = ((n + 1 : Nat) : Int) then v (n + 1) else v i) (fun i hi => by
        have := h i (by omega)
        have := h2 i hi
        show 1 ≤ (if v i = ((n + 1 : Nat) : Int) then v (n + 1) else v i) ∧ (if v i = ((n + 1 : Nat) : Int) then v (n + 1) else v i) ≤ (n : Int)
        split <;> omega)
      refine ⟨i, j, hij, by omega, ?_⟩
      have e : (if v i = ((n + 1 : Nat) : Int) then v (n + 1) else v i) = (if v j = ((n + 1 : Nat) : Int) then v (n + 1) else v j) := e
      have hi2 := h2 i (by omega)
      have hj2 := h2 j hj
      split at e <;> split at e <;> omega
theorem cycle_of {l : List Ho} (hok : HoOk l) (hne : prN l.length l ≠ []) : ∃ (e : Int) (m : Nat), 1 ≤ e ∧ e ≤ 12 ∧ 0 < m ∧ Rn l m e e := by
  obtain ⟨j, hj, hfix⟩ : ∃ j, j ≤ l.length ∧ prn (prN j l) = prN j l := by
    rcases prn_fix l l.length with h | h
    · exact h
    · exact absurd (List.eq_nil_of_length_eq_zero (by omega)) hne
  have hP : prN j l ≠ [] := by
    have := prn_stay hfix (l.length - j)
    rw [show j + (l.length - j) = l.length by omega] at this
    rwa [this] at hne
  have hsub := prN_sub j l
  generalize prN j l = P at *
  have hback : ∀ h : {h : Ho // h ∈ P}, ∃ h' : {h : Ho // h ∈ P}, h'.1.of_ = h.1.en := fun ⟨h, hh⟩ => by
    have hm := hh
    rw [← hfix] at hm
    have h1 := (List.mem_filter.1 hm).2
    have hen := hok.en h (hsub.subset hh)
    rcases Classical.em (∃ x ∈ P, x.of_ = h.en) with ⟨x, hx, e⟩ | hno
    · exact ⟨⟨x, hx⟩, e⟩
    · have h0 := hadL_none P h.en.toNat (fun x hx e => hno ⟨x, hx, by rw [e]; omega⟩)
      simp [outB, h0] at h1
  obtain ⟨h0, hh0⟩ : ∃ h, h ∈ P := by
    cases P with
    | nil => exact absurd rfl hP
    | cons x _ => exact ⟨x, List.mem_cons_self⟩
  obtain ⟨g, hg⟩ : ∃ g : {h : Ho // h ∈ P} → {h : Ho // h ∈ P}, ∀ h, (g h).1.of_ = h.1.en := ⟨fun h => (hback h).choose, fun h => (hback h).choose_spec⟩
  obtain ⟨it, hit⟩ : ∃ it : Nat → {h : Ho // h ∈ P}, ∀ n, it (n + 1) = g (it n) := ⟨fun n => Nat.rec ⟨h0, hh0⟩ (fun _ x => g x) n, fun n => rfl⟩
  have hpath : ∀ m i, Rn l m (it (i + m)).1.en (it i).1.en := fun m => by
    induction m with
    | zero => intro i; exact rfl
    | succ m ih =>
      intro i
      have h1 := rn_one (hsub.subset (it (i + m + 1)).2)
      have h2 : (it (i + m + 1)).1.of_ = (it (i + m)).1.en := by rw [hit]; exact hg _
      rw [h2] at h1
      have := rn_trans h1 m _ (ih i)
      rwa [Nat.add_comm 1 m] at this
  obtain ⟨i, k, hik, _, e⟩ := two_alike 12 (fun i => (it i).1.en) (fun i _ => hok.en _ (hsub.subset (it i).2))
  have hen := hok.en _ (hsub.subset (it i).2)
  refine ⟨(it i).1.en, k - i, hen.1, hen.2, by omega, ?_⟩
  have := hpath (k - i) i
  rw [show i + (k - i) = k by omega] at this
  have e : (it i).1.en = (it k).1.en := e
  rwa [← e] at this
/-- No two are alike. -/
def Apart (s : List Int) : Prop := ∀ i j, i < j → j < s.length → s.getD i 0 ≠ s.getD j 0
theorem apart_len {s : List Int} (h : Apart s) (hb : ∀ i, i < s.length → 1 ≤ s.getD i 0 ∧ s.getD i 0 ≤ 12) : s.length ≤ 12 := by
  rcases Nat.lt_or_ge 12 s.length with h1 | h1
  · obtain ⟨i, j, hij, hj, e⟩ := two_alike 12 (fun i => s.getD i 0) (fun i hi => hb i (by omega))
    exact absurd e (h i j hij (by omega))
  · exact h1
theorem getD_app (s : List Int) (x : Int) (i : Nat) : (s ++ [x]).getD i 0 = if i < s.length then s.getD i 0 else if i = s.length then x else 0 := by
  rw [List.getD_eq_getElem?_getD]
  split
  · rename_i h; rw [List.getElem?_append_left h, List.getD_eq_getElem?_getD]
  · rename_i h
    split
    · rename_i h2; subst h2; simp
    · rw [List.getElem?_eq_none (by simp; omega)]; rfl
theorem apart_app {s : List Int} {x : Int} (h : Apart s) (hx : ∀ i, i < s.length → s.getD i 0 ≠ x) : Apart (s ++ [x]) := by
  intro i j hij hj
  rw [List.length_append, List.length_singleton] at hj
  rw [getD_app, getD_app]
  by_cases e : j = s.length
  · subst e
    rw [if_pos hij, if_neg (by omega), if_pos rfl]
    exact hx i hij
  · rw [if_pos (by omega), if_pos (by omega)]
    exact h i j hij (by omega)
/-- What holds of those that are seen. -/
structure Seen (l : List Ho) (e : Int) (s : List Int) : Prop where
  ap : Apart s
  bd : ∀ i, i < s.length → 1 ≤ s.getD i 0 ∧ s.getD i 0 ≤ 12
  rc : ∀ i, i < s.length → ∃ n, Rn l n e (s.getD i 0)
  pos : 0 < s.length
  fst : s.getD 0 0 = e
/-- All that those ahead have a part of is seen, and is not the first. -/
def Shut (l : List Ho) (e : Int) (s : List Int) (k : Nat) : Prop := ∀ i, i < k → ∀ h ∈ l, h.en = s.getD i 0 → h.of_ ≠ e ∧ ∃ j, j < s.length ∧ s.getD j 0 = h.of_
theorem one_idx {e : Int} {i : Nat} (h : i < [e].length) : i = 0 := by rw [List.length_singleton] at h; omega
theorem seen_first {l : List Ho} {e : Int} (h1 : 1 ≤ e) (h2 : e ≤ 12) : Seen l e [e] := by
  refine ⟨fun i j hij hj => ?_, fun i hi => ?_, fun i hi => ?_, Nat.zero_lt_one, rfl⟩
  · have := one_idx hj
    omega
  · rw [one_idx hi]; exact ⟨h1, h2⟩
  · rw [one_idx hi]; exact ⟨0, rfl⟩
theorem Seen.add {l : List Ho} {e : Int} {s : List Int} (h : Seen l e s) {y : Ho} (hy : y ∈ l) (hb : 1 ≤ y.of_ ∧ y.of_ ≤ 12) {k : Nat} (hk : k < s.length) (hyk : y.en = s.getD k 0) (hno : ∀ i, i < s.length → s.getD i 0 ≠ y.of_) : Seen l e (s ++ [y.of_]) := by
  have C : ∀ (P : Int → Prop), (∀ i, i < s.length → P (s.getD i 0)) → P y.of_ → ∀ i, i < (s ++ [y.of_]).length → P ((s ++ [y.of_]).getD i 0) := fun P p1 p2 i hi => by
    rw [getD_app]
    rw [List.length_append, List.length_singleton] at hi
    by_cases e1 : i < s.length
    · rw [if_pos e1]; exact p1 i e1
    · rw [if_neg e1, if_pos (by omega)]; exact p2
  refine ⟨apart_app h.ap hno, C (fun z => 1 ≤ z ∧ z ≤ 12) h.bd hb, C (fun z => ∃ n, Rn l n e z) h.rc ?_, by simp, ?_⟩
  · obtain ⟨n, hn⟩ := h.rc k hk
    rw [← hyk] at hn
    exact ⟨n + 1, rn_trans hn 1 _ (rn_one hy)⟩
  · rw [getD_app, if_pos h.pos]; exact h.fst
theorem Shut.app {l : List Ho} {e : Int} {s : List Int} {k : Nat} (h : Shut l e s k) (hk : k ≤ s.length) (x : Int) : Shut l e (s ++ [x]) k := by
  intro i hi y hy hye
  rw [getD_app, if_pos (by omega)] at hye
  obtain ⟨h1, j, hj, h2⟩ := h i hi y hy hye
  exact ⟨h1, j, by simp; omega, by rw [getD_app, if_pos hj]; exact h2⟩
theorem shut_all {l : List Ho} {e : Int} {s : List Int} (hs : Seen l e s) (h : Shut l e s s.length) : ∀ (n : Nat) (x : Int), Rn l n e x → ∃ j, j < s.length ∧ s.getD j 0 = x
  | 0, x, hx => ⟨0, hs.pos, by rw [hs.fst]; exact hx.symm⟩
  | n + 1, x, hx => by
    obtain ⟨y, hy, k, hk, h1, h2⟩ := hx
    obtain ⟨j, hj, e1⟩ := shut_all hs h n y hy
    obtain ⟨_, i, hi, e2⟩ := h j hj k hk (by rw [h1, e1])
    exact ⟨i, hi, by rw [e2, h2]⟩
theorem shut_none {l : List Ho} {e : Int} {s : List Int} (hs : Seen l e s) (h : Shut l e s s.length) (m : Nat) (hm : 0 < m) (hr : Rn l m e e) : False := by
  cases m with
  | zero => omega
  | succ m =>
    obtain ⟨y, hy, k, hk, h1, h2⟩ := hr
    obtain ⟨j, hj, e1⟩ := shut_all hs h m y hy
    exact (h j hj k hk (by rw [h1, e1])).1 h2
end Go.Proofs.YtmpjaogomabfiaaDoor
