/-
  Whose entries are: numbers alone.
-/
import Derived.Test.YtgeophoghlgdiaaJn6
namespace Go.Proofs.Ytgeophoghlgdiaa
set_option linter.unusedVariables false
set_option linter.unusedSimpArgs false
open Go.RowKit Go.Lib

theorem asked_ent {e : Int} {x : Je} (he : e ≠ 0) : askedB e 0 x = decide (e = x.ent) := by
  unfold askedB isAskedB
  simp [he]
theorem asked_all {x : Je} : askedB 0 0 x = true := by
  unfold askedB isAskedB
  simp
theorem ofL_all (es : List Je) (k : Nat) : (ofL es 0 0 k).length = k := by
  unfold ofL
  rw [List.filter_eq_self.2 (fun i _ => asked_all)]
  simp
/-- How many entries the first m entities have, of the first k. -/
def cntE (es : List Je) (m k : Nat) : Nat := ((List.range m).map fun j : Nat => (ofL es ((j : Int) + 1) 0 k).length).sum
theorem cntE_succ (es : List Je) (m k : Nat) : cntE es (m + 1) k = cntE es m k + (ofL es ((m : Int) + 1) 0 k).length := by
  unfold cntE
  rw [List.range_succ, List.map_append, List.sum_append]
  simp
theorem ofL_len_succ (es : List Je) (e : Int) (he : e ≠ 0) (k : Nat) : (ofL es e 0 (k + 1)).length = (ofL es e 0 k).length + (if e = (es.getD k je0).ent then 1 else 0) := by
  by_cases h : e = (es.getD k je0).ent
  · rw [ofL_yes (by rw [asked_ent he]; exact decide_eq_true h), if_pos h]
    simp
  · rw [ofL_no (by rw [asked_ent he]; exact decide_eq_false h), if_neg h, Nat.add_zero]
theorem cntE_step (es : List Je) (k : Nat) : ∀ m, cntE es m (k + 1) = cntE es m k + (if 1 ≤ (es.getD k je0).ent ∧ (es.getD k je0).ent ≤ m then 1 else 0)
  | 0 => by
    rw [if_neg (by omega)]
    rfl
  | m + 1 => by
    rw [cntE_succ, cntE_succ, cntE_step es k m, ofL_len_succ es _ (by omega)]
    by_cases h : (m : Int) + 1 = (es.getD k je0).ent
    · rw [if_neg (by omega), if_pos h, if_pos (by omega)]
      omega
    · rw [if_neg h]
      by_cases h2 : 1 ≤ (es.getD k je0).ent ∧ (es.getD k je0).ent ≤ m
      · rw [if_pos h2, if_pos (by omega)]
        omega
      · rw [if_neg h2, if_neg (by omega)]
        omega
theorem cntE_zero (es : List Je) : ∀ m, cntE es m 0 = 0
  | 0 => rfl
  | m + 1 => by
    rw [cntE_succ, cntE_zero es m]
    rfl
theorem cntE_le (es : List Je) (m : Nat) : ∀ k, cntE es m k ≤ k
  | 0 => by rw [cntE_zero]; exact Nat.le_refl _
  | k + 1 => by
    rw [cntE_step]
    have := cntE_le es m k
    split <;> omega
theorem cntE_all {es : List Je} (h : ∀ x ∈ es, 1 ≤ x.ent ∧ x.ent ≤ 12) : ∀ k, k ≤ es.length → cntE es 12 k = k
  | 0, _ => cntE_zero es 12
  | k + 1, hk => by
    have := h _ (jes_mem es k (by omega))
    rw [cntE_step, cntE_all h k (by omega), if_pos ⟨this.1, by omega⟩]
theorem ofL_mem {es : List Je} {en pe : Int} {k m : Nat} : m ∈ ofL es en pe k ↔ m < k ∧ askedB en pe (es.getD m je0) = true := by
  unfold ofL
  rw [List.mem_filter, List.mem_range]
theorem ofL_rise (es : List Je) (en pe : Int) (k : Nat) : (ofL es en pe k).Pairwise (· < ·) := by
  unfold ofL
  exact List.Pairwise.filter _ List.pairwise_lt_range
theorem nat_getD (l : List Nat) (i : Nat) (h : i < l.length) : l.getD i 0 = l[i] := by
  rw [List.getD_eq_getElem?_getD, List.getElem?_eq_getElem h]
  rfl
theorem nat_mem (l : List Nat) (i : Nat) (h : i < l.length) : l.getD i 0 ∈ l := by
  rw [nat_getD l i h]
  exact List.getElem_mem h
theorem ofL_next {es : List Je} {en pe : Int} {k i : Nat} (h : i + 1 < (ofL es en pe k).length) : (ofL es en pe k).getD i 0 < (ofL es en pe k).getD (i + 1) 0 := by
  rw [nat_getD _ _ h, nat_getD _ _ (by omega)]
  exact List.pairwise_iff_getElem.1 (ofL_rise es en pe k) i (i + 1) (by omega) h (by omega)
/-- What one of an entity's numbers is. -/
theorem ofL_one {es : List Je} {e : Int} (he : e ≠ 0) {i : Nat} (h : i < (ofL es e 0 es.length).length) : (ofL es e 0 es.length).getD i 0 < es.length ∧ (es.getD ((ofL es e 0 es.length).getD i 0) je0).ent = e ∧ (ofL es e 0 es.length).getD i 0 ∈ ofL es e (es.getD ((ofL es e 0 es.length).getD i 0) je0).per es.length := by
  obtain ⟨h1, h2⟩ := ofL_mem.1 (nat_mem _ _ h)
  have h3 := h2
  rw [asked_ent he, decide_eq_true_eq] at h3
  refine ⟨h1, h3.symm, ofL_mem.2 ⟨h1, ?_⟩⟩
  unfold askedB isAskedB
  rw [decide_eq_true (.inr h3), decide_eq_true (.inr rfl)]
  rfl
/-- Is a number among the first k of some? -/
def inB (y : List Nat) (m k : Nat) : Bool := (y.take k).any fun x => x == m
theorem inB_zero (y : List Nat) (m : Nat) : inB y m 0 = false := by simp [inB]
theorem inB_succ (y : List Nat) (m k : Nat) (h : k < y.length) : inB y m (k + 1) = (inB y m k || decide (y.getD k 0 = m)) := by
  unfold inB
  rw [List.take_add_one, List.getElem?_eq_getElem h, nat_getD y k h, List.any_append]
  simp only [List.any_cons, List.any_nil, Bool.or_false, Option.toList_some]
  congr 1
theorem inB_all {y : List Nat} {m : Nat} (h : m ∈ y) : inB y m y.length = true := by
  unfold inB
  rw [List.take_length, List.any_eq_true]
  exact ⟨m, h, by simp⟩
end Go.Proofs.Ytgeophoghlgdiaa
