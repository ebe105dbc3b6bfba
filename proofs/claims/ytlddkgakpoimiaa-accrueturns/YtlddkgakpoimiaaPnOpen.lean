/-
  Plans that came in, as they lie in memory.
-/
import Derived.Test.YtlddkgakpoimiaaPn1
import Derived.Deep.Slices
import Derived.OpenShut
namespace Go.Proofs.Ytlddkgakpoimiaa
set_option linter.unusedVariables false
set_option linter.unusedSimpArgs false
set_option maxRecDepth 100000
open Go.RowKit Go.Lib Go.Deep

section
variable {H : Type} {enc : TypeId × Value → H} {w : World} {base : Nat} {spare : Nat → Bool} {held : Bool}

theorem pl_string {m : Nat} {c : Value} {y : DataW H × List MemPlace} (h : DataW.trod enc Try.prog w base spare held m 9 [c] = some y) : ∃ s, c = .string s ∧ s.size ≤ maxLen := by
  cases m with
  | zero => simp [DataW.trod] at h
  | succ m =>
    rw [DataW.trod_step] at h
    unfold DataW.trodStep at h
    rw [Try.underlying9] at h
    cases c <;> simp at h
    exact ⟨_, rfl, h.1⟩
theorem pl_int {m : Nat} {c : Value} {y : DataW H × List MemPlace} (h : DataW.trod enc Try.prog w base spare held m 3 [c] = some y) : ∃ n, c = .int .i64 n ∧ (Lit.int .i64 n).wf = true := by
  cases m with
  | zero => simp [DataW.trod] at h
  | succ m =>
    rw [DataW.trod_step] at h
    unfold DataW.trodStep at h
    rw [Try.underlying3] at h
    cases c <;> simp at h
    rename_i k n
    obtain ⟨⟨rfl, h2⟩, _⟩ := h
    exact ⟨n, rfl, h2⟩
/-- What holds of a plan that came in. -/
structure PnOk (p : Pn) : Prop where
  ref : p.ref.size ≤ maxLen
  src : p.src.size ≤ maxLen
  dst : p.dst.size ≤ maxLen
  cur : p.cur.size ≤ maxLen
  ent : (Lit.int .i64 p.ent).wf = true
  amt : (Lit.int .i64 p.amt).wf = true
  fst : (Lit.int .i64 p.fst).wf = true
  per : (Lit.int .i64 p.per).wf = true
theorem plan_cells : Try.prog.cellsOf 23 = 8 := by kernel_rfl
theorem plan_str : Try.prog.cellsOf 9 = 1 := by kernel_rfl
theorem plan_int : Try.prog.cellsOf 3 = 1 := by kernel_rfl
theorem open_plan {m : Nat} {cs : List Value} {x : DataW H × List MemPlace} (h : DataW.trod enc Try.prog w base spare held m 23 cs = some x) : ∃ a : Pn, cs = a.cells.toList ∧ PnOk a := by
  cases m with
  | zero => simp [DataW.trod] at h
  | succ m =>
    rw [DataW.trod_step] at h
    unfold DataW.trodStep at h
    rw [Try.underlying23] at h
    simp only [plan_cells] at h
    split at h
    · rename_i hl
      match cs, hl with
      | [c0, c1, c2, c3, c4, c5, c6, c7], _ =>
        simp [plan_str, plan_int] at h
        cases h0 : DataW.trod enc Try.prog w base spare held m 9 [c0]
        · simp [h0] at h
        cases h1 : DataW.trod enc Try.prog w base spare held m 3 [c1]
        · simp [h0, h1] at h
        cases h2 : DataW.trod enc Try.prog w base spare held m 9 [c2]
        · simp [h0, h1, h2] at h
        cases h3 : DataW.trod enc Try.prog w base spare held m 9 [c3]
        · simp [h0, h1, h2, h3] at h
        cases h4 : DataW.trod enc Try.prog w base spare held m 9 [c4]
        · simp [h0, h1, h2, h3, h4] at h
        cases h5 : DataW.trod enc Try.prog w base spare held m 3 [c5]
        · simp [h0, h1, h2, h3, h4, h5] at h
        cases h6 : DataW.trod enc Try.prog w base spare held m 3 [c6]
        · simp [h0, h1, h2, h3, h4, h5, h6] at h
        cases h7 : DataW.trod enc Try.prog w base spare held m 3 [c7]
        · simp [h0, h1, h2, h3, h4, h5, h6, h7] at h
        obtain ⟨x0, rfl, k0⟩ := pl_string h0
        obtain ⟨x1, rfl, k1⟩ := pl_int h1
        obtain ⟨x2, rfl, k2⟩ := pl_string h2
        obtain ⟨x3, rfl, k3⟩ := pl_string h3
        obtain ⟨x4, rfl, k4⟩ := pl_string h4
        obtain ⟨x5, rfl, k5⟩ := pl_int h5
        obtain ⟨x6, rfl, k6⟩ := pl_int h6
        obtain ⟨x7, rfl, k7⟩ := pl_int h7
        exact ⟨⟨x0, x1, x2, x3, x4, x5, x6, x7⟩, rfl, ⟨k0, k2, k3, k4, k1, k5, k6, k7⟩⟩
    · cases h
/-- A plan that came in. -/
theorem plan_of_trod {W : World} {v : Value} {fuel : Nat} {x : DataW H × List MemPlace} (hv : ∃ cs, v = .agg cs ∧ cs.size = 8) (h : DataW.trod enc Try.prog W 0 (fun _ => true) true fuel 23 v.cells.toList = some x) : ∃ p : Pn, v = .agg p.cells ∧ PnOk p := by
  obtain ⟨cs, rfl, hs⟩ := hv
  obtain ⟨p, e, hp⟩ := open_plan h
  refine ⟨p, ?_, hp⟩
  have e2 : cs = p.cells := by
    simp only [Value.cells] at e
    cases cs
    simp only at e
    exact congrArg Array.mk e
  rw [e2]
theorem pl_add (b off n : Nat) : (⟨b, off, none⟩ : Addr).add n = ⟨b, off + n, none⟩ := by
  unfold Addr.add
  split
  · rename_i h; subst h; rfl
  · rfl
end
end Go.Proofs.Ytlddkgakpoimiaa
