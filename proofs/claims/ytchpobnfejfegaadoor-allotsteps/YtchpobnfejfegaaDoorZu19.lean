/-
  One more law on a statement whose order of evaluation is left open: an operation for which the named one waits by a chain of others. It names no program.
-/
import Derived.Test.YtchpobnfejfegaaDoorZu18
import Derived.Test.YtchpobnfejfegaaDoorZu0
namespace Go.Proofs.YtchpobnfejfegaaDoor
set_option linter.unusedVariables false
set_option linter.unusedSimpArgs false
set_option maxRecDepth 100000
open Go.RowKit Go.Lib

theorem zero3_one (k : Nat) : ∀ u ∈ (Builtin.zeroCells (Value.agg #[.string ByteArray.empty, .string ByteArray.empty, .int .i64 0]).cells k).toList, u.oneCell' = true := by
  intro u hu
  simp only [Builtin.zeroCells, Value.cells, Array.toList_map, List.mem_map] at hu
  obtain ⟨i, _, rfl⟩ := hu
  have h3 : i % 3 = 0 ∨ i % 3 = 1 ∨ i % 3 = 2 := by omega
  rcases h3 with h | h | h <;> simp [h] <;> rfl

/-- What holds between the rounds of DeleteFunc. -/
structure DelAt (p : Ln → Bool) (l d : List Ln) (i j : Nat) : Prop where
  len : d.length = l.length
  lt : i < j
  le : j ≤ l.length
  pre : d.take i = (l.take j).filter fun x => !p x
  suf : d.drop j = l.drop j

theorem filter_out {p : Ln → Bool} {x : Ln} (h : p x = true) : [x].filter (fun y => !p y) = [] := by simp [h]
theorem filter_in {p : Ln → Bool} {x : Ln} (h : p x = false) : [x].filter (fun y => !p y) = [x] := by simp [h]

theorem DelAt.skip {p : Ln → Bool} {l d : List Ln} {i j : Nat} (h : DelAt p l d i j) (hj : j < l.length) (hp : p (l.getD j ln0) = true) : DelAt p l d i (j + 1) :=
  ⟨h.len, by have := h.lt; omega, by omega, by rw [h.pre, lns_take l j hj, List.filter_append, filter_out hp, List.append_nil], by have := congrArg (List.drop 1) h.suf; rwa [List.drop_drop, List.drop_drop] at this⟩
theorem DelAt.keep {p : Ln → Bool} {l d : List Ln} {i j : Nat} (h : DelAt p l d i j) (hj : j < l.length) (hp : p (l.getD j ln0) = false) : DelAt p l (d.set i (l.getD j ln0)) (i + 1) (j + 1) := by
  have h1 := h.lt
  have h2 := h.len
  refine ⟨by rw [List.length_set, h.len], by omega, by omega, ?_, ?_⟩
  · rw [lns_take l j hj, List.filter_append, ← h.pre, List.take_set, lns_take d i (by omega)]
    have hl : (d.take i).length = i := by rw [List.length_take]; omega
    rw [List.set_append_right _ _ (by omega), hl, Nat.sub_self, filter_in hp]
    rfl
  · rw [List.drop_set_of_lt (by omega)]
    have := congrArg (List.drop 1) h.suf
    rwa [List.drop_drop, List.drop_drop] at this
theorem DelAt.at {p : Ln → Bool} {l d : List Ln} {i j : Nat} (h : DelAt p l d i j) (hj : j < l.length) : d.getD j ln0 = l.getD j ln0 := by
  have h1 := lns_drop d j (by rw [h.len]; exact hj)
  rw [h.suf, lns_drop l j hj] at h1
  exact (List.cons.inj h1).1.symm

end Go.Proofs.YtchpobnfejfegaaDoor

namespace Go.Proofs.YtchpobnfejfegaaDoor
set_option linter.unusedVariables false
set_option linter.unusedSimpArgs false
set_option maxRecDepth 100000
open Go.RowKit Go.Lib

/-- A line of nothing. -/
def nullL (x : Ln) : Bool := decide (x.amt = 0)

/-- What is wrong with turning an entry round. -/
def revBad (ref : ByteArray) (l : List Ln) : Int := if isRefB ref = false then 2 else fewBad l
end Go.Proofs.YtchpobnfejfegaaDoor

namespace Go.Proofs.YtchpobnfejfegaaDoor
set_option linter.unusedVariables false
set_option linter.unusedSimpArgs false
set_option maxRecDepth 100000
open Go.RowKit Go.Lib

theorem en_get (s : ByteArray) (k : Nat) (h : k < s.size) : s.get! k = s[k]'h := by
  show s.data[k]! = s.data[k]'h
  exact getElem!_pos s.data k h

theorem refAmount_any (n : Int) (w : World) :
    Calls Tryd.prog 8 #[.int .i64 n] w fun e w' => e = .returned (.bool (isAmtB n)) ∧ w' = w := by
  by_cases h : -1000000000000000 ≤ n
  · have : isAmtB n = decide (n ≤ 1000000000000000) := by simp [isAmtB, h]
    rw [this]
    go_enter Tryd.func8, Tryd.ntmps8
    go_wp2
    go_ret
    exact ⟨rfl, rfl⟩
  · have : isAmtB n = false := by simp [isAmtB, h]
    rw [this]
    go_enter Tryd.func8, Tryd.ntmps8
    go_wp2
    go_ret
    exact ⟨rfl, rfl⟩

end Go.Proofs.YtchpobnfejfegaaDoor

namespace Go.Proofs.YtchpobnfejfegaaDoor
open Go
set_option linter.unusedVariables false

section
variable {P : Program} {ops : Array Oper} {Q : Exit → Act → World → Prop} {md : Region.Mode} {T : World → Prop} {g : Nat}

theorem L_firstC {i : Nat} {oi : Oper} {v : Value} {C : List Nat} (hi : ops[i]? = some oi) (hC : ∀ k ∈ C, ∃ ok, ops[k]? = some ok ∧ ∃ e ∈ ok.after, Region.binds md e = true ∧ (e.on = i ∨ e.on ∈ C)) (hgC : g ∈ C) (hgi : g ≠ i)
    (hsel : ∀ (j : Nat) (o : Oper) cs b, ops[j]? = some o → o.op ≠ .select cs b) (hQ : ∀ c a w, Q (.panic c) (a.put oi.dst v) w → Q (.panic c) a w) :
    ∀ (fuel : Nat) (listed : Array Bool) (a : Act) (w : World),
      (∀ j oj, ops[j]? = some oj → j ≠ i → listed.getD j true = false → (∀ e ∈ oj.after, Region.binds md e = true → e.on ≠ i) → oi.apart ops oj = true) →
      i ∈ Region.ready md ops listed → (∀ k ∈ C, listed.getD k true = false) → YieldsIf P ops T oi v a → T w →
      wpAnyL P md ops Q g T fuel (listed.setIfInBounds i true) (a.put oi.dst v) w → wpAnyL P md ops Q g T (fuel + 1) listed a w := by
  intro fuel
  induction fuel with
  | zero =>
    intro listed a w _ hr _ hy hT H
    refine ⟨fun h => (by rw [h] at hr; cases hr), fun j hj => ?_⟩
    by_cases hji : j = i
    · subst hji; exact hy.wpOp hi hT ⟨fun _ => hT, H⟩
    · have := ready_mono hj hji
      rw [H.1] at this
      cases this
  | succ fuel ih =>
    intro listed a w hfree hr hlC hy hT H
    refine ⟨fun h => (by rw [h] at hr; cases hr), fun j hj => ?_⟩
    by_cases hji : j = i
    · subst hji; exact hy.wpOp hi hT ⟨fun _ => hT, H⟩
    · have h1 := H.2 j (ready_mono hj hji)
      obtain ⟨hjun, oj, hoj, hall⟩ := mem_ready.1 hj
      have hnot : ∀ e ∈ oj.after, Region.binds md e = true → e.on ≠ i := fun e he hb heq => by
        have h1 := hall e he hb
        have h0 := (mem_ready.1 hr).1
        rw [heq] at h1
        rcases Nat.lt_or_ge i listed.size with h' | h'
        · simp [h'] at h0 h1; rw [h0] at h1; cases h1
        · simp [Array.getElem?_eq_none h'] at h1
      have hjC : ∀ k ∈ C, j ≠ k := fun k hk hjk => by
        obtain ⟨ok, hok, e, he, hb, ho⟩ := hC k hk
        rw [← hjk, hoj] at hok
        cases hok
        rcases ho with ho | ho
        · exact hnot e he hb ho
        · have h1 := hall e he hb
          have hl := hlC _ ho
          rcases Nat.lt_or_ge e.on listed.size with h' | h'
          · simp [h'] at hl h1; rw [hl] at h1; cases h1
          · simp [Array.getElem?_eq_none h'] at h1
      have h2 := wpOp_putIf hoj (hfree j oj hoj hji hjun hnot) (fun cs b => hsel i oi cs b hi) (fun cs b => hsel j oj cs b hoj) hQ hy h1
      have hfree' : ∀ k ok, ops[k]? = some ok → k ≠ i → (listed.setIfInBounds j true).getD k true = false →
          (∀ e ∈ ok.after, Region.binds md e = true → e.on ≠ i) → oi.apart ops ok = true := fun k ok hk hki hun hno => by
        refine hfree k ok hk hki ?_ hno
        by_cases hjk : j = k
        · subst hjk; exact hjun
        · rw [getD_set_ne true hjk] at hun; exact hun
      have hlC' : ∀ k ∈ C, (listed.setIfInBounds j true).getD k true = false := fun k hk => by rw [getD_set_ne true (hjC k hk)]; exact hlC k hk
      refine wpOp_mono (fun a' w' h3 => ?_) h2
      have hT' : T w' := h3.2.1 (by rw [getD_set_ne true (hjC g hgC), getD_set_ne true (Ne.symm hgi)]; exact hlC g hgC)
      refine ⟨fun _ => hT', ih (listed.setIfInBounds j true) a' w' hfree' (ready_mono hr (Ne.symm hji)) hlC' h3.1 hT' ?_⟩
      rw [Array.setIfInBounds_comm _ _ hji]
      exact h3.2.2

/-- One of a chain waits for the operation, or for another of the chain. -/
def waits (md : Region.Mode) (ops : Array Oper) (i : Nat) (C : List Nat) (k : Nat) : Bool := match ops[k]? with
  | some ok => ok.after.any fun e => Region.binds md e && (e.on == i || C.contains e.on)
  | none => false
/-- The move of a walk. -/
theorem L_takeC (C : List Nat) {i : Nat} {oi : Oper} {v : Value} {fuel : Nat} {listed : Array Bool} {a : Act} {w : World} (hi : ops[i]? = some oi)
    (hC : C.all (waits md ops i C) = true) (hgC : C.contains g = true) (hgi : g ≠ i)
    (hs : Region.noSelect ops = true) (hf : Region.free md ops listed i = true) (hr : (Region.ready md ops listed).contains i = true) (hl : C.all (fun k => !(listed.getD k true)) = true)
    (hQ : ∀ c a w, Q (.panic c) (a.put oi.dst v) w → Q (.panic c) a w) (hy : YieldsIf P ops T oi v a) (hT : T w)
    (h : wpAnyL P md ops Q g T fuel (listed.setIfInBounds i true) (a.put oi.dst v) w) : wpAnyL P md ops Q g T (fuel + 1) listed a w := by
  refine L_firstC hi (fun k hk => ?_) (by simpa using hgC) hgi (Region.noSelect_spec hs) hQ fuel listed a w (Region.free_spec hi hf) (by simpa using hr) (fun k hk => ?_) hy hT h
  · have := List.all_eq_true.1 hC k hk
    unfold waits at this
    split at this
    · rename_i ok hok
      rw [Array.any_eq_true] at this
      obtain ⟨q, hq, he⟩ := this
      simp only [Bool.and_eq_true, Bool.or_eq_true, beq_iff_eq, List.contains_iff_mem] at he
      exact ⟨ok, hok, ok.after[q], Array.getElem_mem hq, he.1, he.2⟩
    · cases this
  · have := List.all_eq_true.1 hl k hk
    simpa using this
end
end Go.Proofs.YtchpobnfejfegaaDoor
