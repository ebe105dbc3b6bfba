/-
  A journal is even: numbers alone.
-/
import Derived.Test.YtffekgndlhleiaaDoorJn8
import Derived.Test.YtffekgndlhleiaaDoorChM0
namespace Go.Proofs.YtffekgndlhleiaaDoor
set_option linter.unusedVariables false
set_option linter.unusedSimpArgs false
open Go.RowKit Go.Lib

theorem dSum_cons (acc cur : ByteArray) (y : Ln) (l : List Ln) : dSum acc cur (y :: l) = (if (mB acc cur y && decide (0 < y.amt)) = true then y.amt else 0) + dSum acc cur l := by
  unfold dSum dOf
  rw [List.filter_cons]
  split
  · simp
  · simp
theorem cSum_cons (acc cur : ByteArray) (y : Ln) (l : List Ln) : cSum acc cur (y :: l) = (if (mB acc cur y && !decide (0 < y.amt)) = true then y.amt else 0) + cSum acc cur l := by
  unfold cSum cOf
  rw [List.filter_cons]
  split
  · simp
  · simp
/-- Of a currency. -/
def curP (cur : ByteArray) (x : Ln) : Bool := x.cur.toList == cur.toList
/-- All that is above 0, and all that is not. -/
def tD (cur : ByteArray) (l : List Ln) : Int := tot (fun x => curP cur x && decide (0 < x.amt)) l
def tC (cur : ByteArray) (l : List Ln) : Int := tot (fun x => curP cur x && !decide (0 < x.amt)) l
theorem tD_tC (cur : ByteArray) : ∀ l : List Ln, tD cur l + tC cur l = tot (curP cur) l
  | [] => rfl
  | x :: l => by
    have := tD_tC cur l
    unfold tD tC at *
    simp only [tot]
    by_cases h : curP cur x = true
    · by_cases h2 : 0 < x.amt
      · simp only [h, h2, decide_true, Bool.and_self, Bool.not_true, Bool.and_false, if_true, Bool.false_eq_true, if_false]
        omega
      · simp only [h, h2, decide_false, Bool.and_self, Bool.not_false, Bool.and_false, if_true, Bool.false_eq_true, if_false]
        omega
    · have h' : curP cur x = false := by simpa using h
      simp only [h', Bool.false_and, Bool.false_eq_true, if_false]
      omega
/-- One number out of a row. -/
theorem sum_only (a : Int) (i0 : Nat) : ∀ n, ((List.range n).map fun i => if i = i0 then a else 0).sum = if i0 < n then a else 0
  | 0 => by simp
  | n + 1 => by
    rw [List.range_succ, List.map_append, List.sum_append, sum_only a i0 n]
    simp only [List.map_cons, List.map_nil, List.sum_cons, List.sum_nil]
    by_cases h : n = i0
    · subst h
      simp
    · rw [if_neg h]
      by_cases h2 : i0 < n
      · rw [if_pos h2, if_pos (by omega)]; omega
      · rw [if_neg h2, if_neg (by omega)]; omega
theorem sum_add_map {f g : Nat → Int} : ∀ l : List Nat, (l.map fun i => f i + g i).sum = (l.map f).sum + (l.map g).sum
  | [] => rfl
  | x :: l => by
    have := sum_add_map (f := f) (g := g) l
    simp only [List.map_cons, List.sum_cons]
    omega
theorem sum_neg_map {f : Nat → Int} : ∀ l : List Nat, (l.map fun i => - f i).sum = -(l.map f).sum
  | [] => rfl
  | x :: l => by
    have := sum_neg_map (f := f) l
    simp only [List.map_cons, List.sum_cons]
    omega
theorem zero_map {f : Nat → Int} (h : ∀ i, f i = 0) : ∀ l : List Nat, (l.map f).sum = 0
  | [] => rfl
  | x :: l => by
    have := zero_map h l
    simp only [List.map_cons, List.sum_cons, h x]
    omega
/-- Each line's account is one of a chart, and one alone. -/
def OneAcc (c : List Ac) (l : List Ln) : Prop := ∀ y ∈ l, ∃ i0, i0 < c.length ∧ ∀ i, i < c.length → (((y.acc.toList == (c.getD i ac0).code.toList) = true) ↔ i = i0)
theorem sumD_eq {c : List Ac} (cur : ByteArray) : ∀ {l : List Ln}, OneAcc c l → ((List.range c.length).map fun i => dSum (c.getD i ac0).code cur l).sum = tD cur l
  | [], _ => zero_map (fun i => rfl) _
  | y :: l, h => by
    obtain ⟨i0, h1, h2⟩ := h y (by simp)
    have ih := sumD_eq cur (l := l) (fun z hz => h z (by simp [hz]))
    have e : ((List.range c.length).map fun i => dSum (c.getD i ac0).code cur (y :: l)) = (List.range c.length).map fun i => (if i = i0 then (if (curP cur y && decide (0 < y.amt)) = true then y.amt else 0) else 0) + dSum (c.getD i ac0).code cur l := by
      apply List.map_congr_left
      intro i hi
      rw [dSum_cons]
      congr 1
      have h3 := h2 i (List.mem_range.1 hi)
      by_cases hq : i = i0
      · rw [if_pos hq]
        unfold mB curP
        rw [h3.2 hq, Bool.true_and]
      · rw [if_neg hq]
        have h4 : (y.acc.toList == (c.getD i ac0).code.toList) = false := by
          cases hb : (y.acc.toList == (c.getD i ac0).code.toList) with
          | false => rfl
          | true => exact absurd (h3.1 hb) hq
        unfold mB
        rw [h4]
        simp
    rw [e, sum_add_map, ih, sum_only, if_pos h1]
    rfl
theorem sumC_eq {c : List Ac} (cur : ByteArray) : ∀ {l : List Ln}, OneAcc c l → ((List.range c.length).map fun i => cSum (c.getD i ac0).code cur l).sum = tC cur l
  | [], _ => zero_map (fun i => rfl) _
  | y :: l, h => by
    obtain ⟨i0, h1, h2⟩ := h y (by simp)
    have ih := sumC_eq cur (l := l) (fun z hz => h z (by simp [hz]))
    have e : ((List.range c.length).map fun i => cSum (c.getD i ac0).code cur (y :: l)) = (List.range c.length).map fun i => (if i = i0 then (if (curP cur y && !decide (0 < y.amt)) = true then y.amt else 0) else 0) + cSum (c.getD i ac0).code cur l := by
      apply List.map_congr_left
      intro i hi
      rw [cSum_cons]
      congr 1
      have h3 := h2 i (List.mem_range.1 hi)
      by_cases hq : i = i0
      · rw [if_pos hq]
        unfold mB curP
        rw [h3.2 hq, Bool.true_and]
      · rw [if_neg hq]
        have h4 : (y.acc.toList == (c.getD i ac0).code.toList) = false := by
          cases hb : (y.acc.toList == (c.getD i ac0).code.toList) with
          | false => rfl
          | true => exact absurd (h3.1 hb) hq
        unfold mB
        rw [h4]
        simp
    rw [e, sum_add_map, ih, sum_only, if_pos h1]
    rfl
theorem oneAcc {c : List Ac} {es : List Je} (h : JGood c es) : OneAcc c (allL es) := by
  intro y hy
  obtain ⟨x, hx, hyx⟩ := allL_mem hy
  obtain ⟨h1, _, h3, _⟩ := entBad_zero.1 (h.ok x hx)
  have h4 := linesBad_zero h3 y hyx
  have h5 : ¬ idxP (hasCode y.acc) c < 0 := fun e => by
    unfold lnBad at h4
    rw [if_pos e] at h4
    omega
  obtain ⟨j, hj, _, hc, _⟩ := idxP_some (by omega : 0 ≤ idxP (hasCode y.acc) c)
  have hcj : (c.getD j ac0).code = y.acc := by
    unfold hasCode at hc
    simpa using hc
  refine ⟨j, hj, fun i hi => ⟨fun e => ?_, fun e => ?_⟩⟩
  · have : y.acc = (c.getD i ac0).code := toList_inj (eq_of_beq e)
    exact code_inj h1 hi hj (this.symm.trans hcj.symm)
  · subst e
    rw [hcj]
    simp
theorem allL_even {c : List Ac} {cur : ByteArray} : ∀ {es : List Je}, (∀ x ∈ es, entBad c x.ref x.ent x.per x.lns = 0) → tot (curP cur) (allL es) = 0
  | [], _ => rfl
  | x :: es, h => by
    have ih := allL_even (c := c) (cur := cur) (es := es) (fun y hy => h y (by simp [hy]))
    obtain ⟨_, _, _, h4⟩ := entBad_zero.1 (h x (by simp))
    have hk : KeyP (curP cur) := fun a b hab => by
      have := (lnEq_iff.1 hab).2
      unfold curP
      rw [this]
    have h5 := h4 (curP cur) hk
    have h6 : ∀ l : List Ln, tot (curP cur) (l.map bareL) = tot (curP cur) l := fun l => by
      induction l with
      | nil => rfl
      | cons z l ih =>
        simp only [List.map_cons, tot, ih]
        rfl
    rw [h6] at h5
    have e : allL (x :: es) = x.lns ++ allL es := by simp [allL]
    rw [e, tot_append, h5, ih]
    rfl
/-- All debits are all credits. -/
theorem even_all {c : List Ac} {es : List Je} (h : JGood c es) (cur : ByteArray) : ((List.range c.length).map fun i => dSum (c.getD i ac0).code cur (allL es)).sum = ((List.range c.length).map fun i => - cSum (c.getD i ac0).code cur (allL es)).sum := by
  rw [sum_neg_map, sumD_eq cur (oneAcc h), sumC_eq cur (oneAcc h)]
  have h1 := tD_tC cur (allL es)
  have h2 := allL_even (cur := cur) h.ok
  omega
theorem JGood.amt {c : List Ac} {es : List Je} (h : JGood c es) : ∀ y ∈ allL es, -mostA ≤ y.amt ∧ y.amt ≤ mostA := fun y hy => by
  obtain ⟨x, hx, hyx⟩ := allL_mem hy
  exact lnBad_amt (linesBad_zero (entBad_zero.1 (h.ok x hx)).2.2.1 y hyx)
theorem tot_bd {p : Ln → Bool} {M : Int} (hM : 0 ≤ M) : ∀ {l : List Ln}, (∀ y ∈ l, -M ≤ y.amt ∧ y.amt ≤ M) → -(M * l.length) ≤ tot p l ∧ tot p l ≤ M * l.length
  | [], _ => by simp [tot]
  | x :: l, h => by
    have h1 := h x (by simp)
    have h2 := tot_bd (p := p) hM (l := l) (fun y hy => h y (by simp [hy]))
    simp only [tot, List.length_cons]
    have e : M * ((l.length + 1 : Nat) : Int) = M * (l.length : Int) + M := by rw [Int.natCast_add, Int.mul_add]; simp
    rw [e]
    split <;> omega
theorem even_bd {c : List Ac} {es : List Je} (h : JGood c es) (hl : es.length ≤ 200) (cur : ByteArray) : -4000000000000000000 ≤ ((List.range c.length).map fun i => dSum (c.getD i ac0).code cur (allL es)).sum ∧ ((List.range c.length).map fun i => dSum (c.getD i ac0).code cur (allL es)).sum ≤ 4000000000000000000 := by
  rw [sumD_eq cur (oneAcc h)]
  have h1 := tot_bd (p := fun x => curP cur x && decide (0 < x.amt)) (M := mostA) (by unfold mostA; omega) h.amt
  have h2 := allL_len (es := es) (fun x hx => (h.lns hx).2)
  unfold tD
  unfold mostA at h1
  omega
end Go.Proofs.YtffekgndlhleiaaDoor
