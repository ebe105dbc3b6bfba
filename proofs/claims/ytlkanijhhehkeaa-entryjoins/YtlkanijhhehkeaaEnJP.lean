/-
  Two entries make one: for every chart and every two entries the call of daylaw5.EntryJoins returns true, and its arguments read as they did. No condition.
-/
import Derived.Test.YtlkanijhhehkeaaRows
import Derived.WalkKit
import Derived.Test.YtlkanijhhehkeaaEnJ
import Derived.Test.YtlkanijhhehkeaaChOpen
import Derived.Test.YtlkanijhhehkeaaEnOpen
import Derived.SizedLaws
import Derived.ProofKit
import Derived.OpenShut
import Derived.ShutString
import Derived.ChangeOld
import Derived.Below
namespace Go.Proofs.Ytlkanijhhehkeaa
open Go.ChangeShapes Go.WideShapes Go.ChangeAt Go.RowKit
open Go.ChangeMaps (open_string shut_string)
set_option linter.unusedVariables false
set_option linter.unusedSimpArgs false

theorem joins_own : ownKnob Try.prog.godebug = none := by kernel_rfl
theorem joins_laidOut : laidOutB Try.prog = true := by kernel_rfl

set_option maxRecDepth 100000 in
theorem joins_lifted (os : Os) (started : os.Started) (H : Type) (enc : TypeId × Value → H) :
    ReturnsInHanded {} Try.checked os 3 .any (Rows.entryJoinsSpec.pre6 enc Try.prog Try.f3 Rows.entryJoinsRow.domain false) (Rows.entryJoinsSpec.post enc Try.prog Try.f3 false true false false) := by
  refine returnsInHanded_of_change_sized (C := Try.checked) joins_own started (by kernel_rfl) Try.func3
    (ChangeSpec.witness6 (enc := enc) (C := Try.checked) false ⟨#[], #[.slice none 0 0, .agg #[.string ByteArray.empty, .int .i64 0, .int .i64 0, .slice none 0 0], .agg #[.string ByteArray.empty, .int .i64 0, .int .i64 0, .slice none 0 0]], []⟩ 8 (by kernel_rfl) (by kernel_rfl) (by kernel_rfl) (by kernel_rfl)) ?_
  intro W base args ds gs before hval0 hW hcnd hsz0 _
  have hval : ∀ (j : Nat) t v, Try.f3.params[j]? = some t → args[j]? = some v → Value.okWide Try.prog W .any base t v := hval0
  have hW' := hW
  obtain ⟨p, q, hA0, hV, rfl, hfz, hnd⟩ := hW
  have hA : DataW.TrodAll enc Try.prog W 0 (fun _ => true) true Try.f3.params.toList args.toList ds p := hA0
  rw [Try.params3] at hA hval
  obtain ⟨v0, vs0, d0, ds0, p0, q0, hargs, rfl, rfl, h0, r0⟩ := trodAll_cons hA
  obtain ⟨v1, vs1, d1, ds1, p1, q1, rfl, rfl, rfl, h1, r1⟩ := trodAll_cons r0
  obtain ⟨v2, vs2, d2, ds2, p2, q2, rfl, rfl, rfl, h2, r2⟩ := trodAll_cons r1
  obtain ⟨rfl, rfl, rfl⟩ := trodAll_nil r2
  obtain rfl : args = #[v0, v1, v2] := by cases args; simp_all
  obtain ⟨rfl, rfl⟩ := trodVars_none hV
  obtain ⟨a0, len0, cap0, rfl⟩ := okWide_slice Try.underlying22 (hval 0 22 v0 rfl rfl)
  have s1 := okWide_struct Try.underlying25 (hval 1 25 v1 rfl rfl)
  have s2 := okWide_struct Try.underlying25 (hval 2 25 v2 rfl rfl)
  rw [entry_cells] at s1 s2
  have k0 := h0
  have lt0 : ∀ x ∈ p0, x.block < W.heap.size := by obtain ⟨m, hm⟩ := k0; exact DataW.trod_lt m _ _ _ hm
  have k1 := h1
  have lt1 : ∀ x ∈ p1, x.block < W.heap.size := by obtain ⟨m, hm⟩ := k1; exact DataW.trod_lt m _ _ _ hm
  have k2 := h2
  have lt2 : ∀ x ∈ p2, x.block < W.heap.size := by obtain ⟨m, hm⟩ := k2; exact DataW.trod_lt m _ _ _ hm
  obtain ⟨c, hl, _, hsl⟩ : ∃ l : List Ac, l.length = len0 ∧ (∀ k, k < l.length → AcOk (l.getD k ac0)) ∧ IsSl W a0 l cap0 := by
    obtain ⟨fuel, hf⟩ := h0
    exact acs_of_trod hf
  obtain ⟨r, en, pe, a, l, cap, rfl, hsl1, _⟩ : ∃ (r : ByteArray) (en pe : Int) (a : Option Addr) (l : List Ln) (cap : Nat), v1 = .agg #[.string r, .int .i64 en, .int .i64 pe, .slice a l.length cap] ∧ IsLn W a l cap ∧ (∀ x ∈ l, (Lit.int .i64 x.amt).wf = true) := by
    obtain ⟨fuel, hf⟩ := h1
    exact entry_of_trod s1 hf
  obtain ⟨r', en', pe', a', l', cap', rfl, hsl2, _⟩ : ∃ (r : ByteArray) (en pe : Int) (a : Option Addr) (l : List Ln) (cap : Nat), v2 = .agg #[.string r, .int .i64 en, .int .i64 pe, .slice a l.length cap] ∧ IsLn W a l cap ∧ (∀ x ∈ l, (Lit.int .i64 x.amt).wf = true) := by
    obtain ⟨fuel, hf⟩ := h2
    exact entry_of_trod s2 hf
  clear hA0 hval0
  subst hl
  refine (joins_any a0 cap0 c r r' en pe en' pe' a a' cap cap' l l' W hsl hsl1 hsl2).mono fun e W' ⟨he, bel⟩ => ?_
  subst he
  exact ⟨_, rfl, _, _, _, [], _, [], hW', trodAll_mk1 (shut_bool Try.underlying4 _), (trodAll_cons_mk (Below.trod joins_laidOut (by kernel_rfl) (of_decide_eq_true (by kernel_rfl)) k0 bel lt0) (trodAll_cons_mk (Below.trod joins_laidOut (by kernel_rfl) (of_decide_eq_true (by kernel_rfl)) k1 bel lt1) (trodAll_cons_mk (Below.trod joins_laidOut (by kernel_rfl) (of_decide_eq_true (by kernel_rfl)) k2 bel lt2) trodAll_mk0))), rfl, bel.frame _, fun h => by cases h⟩

theorem joins_over : Rows.entryJoinsRow.holds Try.pinned (OpenSpec.ofChange Rows.entryJoinsSpec) :=
  OpenClaim.holds_of_wide 3 Try.f3 rfl rfl rfl rfl rfl rfl rfl ⟨rfl, rfl, rfl, rfl, rfl⟩ rfl rfl rfl rfl rfl (by kernel_rfl) Try.func3 (by kernel_rfl)
    (of_decide_eq_true (by kernel_rfl)) (by unfold Func.isWrapper; first | (rw [if_pos (by decide +kernel)]; kernel_rfl) | (rw [if_neg (by decide +kernel)]; exact ⟨rfl, rfl⟩))
    (fun os started H enc _ => joins_lifted os started H enc)

/-- The statement. -/
theorem entryJoins_holds : Rows.EntryJoinsSaid := joins_over
#print axioms entryJoins_holds
end Go.Proofs.Ytlkanijhhehkeaa
