/-
  Entries one behind the other are read one behind the other: for every list of entries the call of daylaw5.FrameRow returns true, and its argument reads as it did. No condition.
-/
import Derived.Test.YtbnoedndbehghaaRows
import Derived.WalkKit
import Derived.Test.YtbnoedndbehghaaFrR
import Derived.Test.YtbnoedndbehghaaFrOpen
import Derived.SizedLaws
import Derived.ProofKit
import Derived.OpenShut
import Derived.ShutString
import Derived.ChangeOld
import Derived.Below
namespace Go.Proofs.Ytbnoedndbehghaa
open Go.ChangeShapes Go.WideShapes Go.ChangeAt Go.RowKit
open Go.ChangeMaps (open_string shut_string)
set_option linter.unusedVariables false
set_option linter.unusedSimpArgs false

section
variable {H : Type} {enc : TypeId × Value → H}
/-- Entries that came in. -/
theorem ens_of_trod {W : World} {a : Option Addr} {len cap fuel : Nat} {x : DataW H × List MemPlace} (h : DataW.trod enc Try.prog W 0 (fun _ => true) true fuel 22 [.slice a len cap] = some x) :
    ∃ L : List En, L.length = len ∧ IsEns W a L cap ∧ len ≤ maxLen := by
  rcases Go.Deep.open_slice Try.underlying22 h with ⟨hcs, _⟩ | ⟨x, l, c, m, n, D, Pl, hcs, _, hl, hm, hmm, _, hx⟩
  · simp at hcs
    obtain ⟨rfl, rfl, rfl⟩ := hcs
    exact ⟨[], rfl, ⟨by simp, .inl rfl⟩, by unfold maxLen; omega⟩
  · simp at hcs
    obtain ⟨rfl, rfl, rfl⟩ := hcs
    have hmm2 : m = cap := hmm
    rw [entry_cells] at hx
    have hr : ∀ i, i < len → ∃ r : En, W.cell? ((x.add (i * 4)).add 0) = some (.string r.ref) ∧ W.cell? ((x.add (i * 4)).add 1) = some (.int .i64 r.ent) ∧ W.cell? ((x.add (i * 4)).add 2) = some (.int .i64 r.per) ∧ (∃ a' c', W.cell? ((x.add (i * 4)).add 3) = some (.slice a' r.lns.length c') ∧ IsLn W a' r.lns c') ∧ (I64 r.ent ∧ I64 r.per ∧ ∀ y ∈ r.lns, I64 y.amt) := fun i hi => by
      obtain ⟨cs', h1, h2⟩ := hx i (by omega)
      obtain ⟨r, en, pe, a', l', c', rfl, hsl, hw, hen, hpe, _⟩ := entry_of_cells h2
      have hc := (World.cells?_some h1).2.2
      exact ⟨⟨r, en, pe, l'⟩, hc 0 (by omega), hc 1 (by omega), hc 2 (by omega), ⟨a', c', hc 3 (by omega), hsl⟩, wf64 hen, wf64 hpe, fun y hy => wf64 (hw y hy)⟩
    obtain ⟨f, hf⟩ := @Go.Deep.choose_lt En ⟨en0⟩ _ _ hr
    have hget : ∀ k, k < len → ((List.range len).map f).getD k en0 = f k := fun k hk => by simp [List.getD, hk]
    have hlen : ((List.range len).map f).length = len := by simp
    refine ⟨(List.range len).map f, hlen, ⟨by rw [hlen]; exact hl, ?_⟩, Nat.le_trans hl hm⟩
    by_cases h0 : len = 0
    · subst h0
      exact .inl rfl
    · right
      obtain ⟨b, off, spot⟩ := x
      have hc : W.cell? ⟨b, off, spot⟩ = some (.string (f 0).ref) := (hf 0 (by omega)).1
      have hspot : spot = none := World.cell?_spot hc
      subst hspot
      have hlt : b < W.heap.size := World.block_lt_of_cell? _ _ hc
      refine ⟨b, off, rfl, hlt, fun k hk => ?_⟩
      rw [hlen] at hk
      rw [hget k hk]
      have := hf k hk
      simp only [en_add] at this
      exact ⟨this.1, this.2.1, this.2.2.1, this.2.2.2.1, this.2.2.2.2⟩
end

theorem frow_own : ownKnob Try.prog.godebug = none := by kernel_rfl
theorem frow_laidOut : laidOutB Try.prog = true := by kernel_rfl

set_option maxRecDepth 100000 in
theorem frow_lifted (os : Os) (started : os.Started) (H : Type) (enc : TypeId × Value → H) :
    ReturnsInHanded {} Try.checked os 3 .any (Rows.frameRowSpec.pre6 enc Try.prog Try.f3 Rows.frameRowRow.domain false) (Rows.frameRowSpec.post enc Try.prog Try.f3 false true false false) := by
  refine returnsInHanded_of_change_sized (C := Try.checked) frow_own started (by kernel_rfl) Try.func3
    (ChangeSpec.witness6 (enc := enc) (C := Try.checked) false ⟨#[], #[.slice none 0 0], []⟩ 8 (by kernel_rfl) (by kernel_rfl) (by kernel_rfl) (by kernel_rfl)) ?_
  intro W base args ds gs before hval0 hW hcnd hsz0 _
  have hval : ∀ (j : Nat) t v, Try.f3.params[j]? = some t → args[j]? = some v → Value.okWide Try.prog W .any base t v := hval0
  have hW' := hW
  obtain ⟨p, q, hA0, hV, rfl, hfz, hnd⟩ := hW
  have hA : DataW.TrodAll enc Try.prog W 0 (fun _ => true) true Try.f3.params.toList args.toList ds p := hA0
  rw [Try.params3] at hA hval
  obtain ⟨v0, vs0, d0, ds0, p0, q0, hargs, rfl, rfl, h0, r0⟩ := trodAll_cons hA
  obtain ⟨rfl, rfl, rfl⟩ := trodAll_nil r0
  obtain rfl : args = #[v0] := by cases args; simp_all
  obtain ⟨rfl, rfl⟩ := trodVars_none hV
  obtain ⟨a0, len0, cap0, rfl⟩ := okWide_slice Try.underlying22 (hval 0 22 v0 rfl rfl)
  have k0 := h0
  have lt0 : ∀ x ∈ p0, x.block < W.heap.size := by obtain ⟨m, hm⟩ := k0; exact DataW.trod_lt m _ _ _ hm
  obtain ⟨L, hl, hsl, hmx⟩ : ∃ L : List En, L.length = len0 ∧ IsEns W a0 L cap0 ∧ len0 ≤ maxLen := by
    obtain ⟨fuel, hf⟩ := h0
    exact ens_of_trod hf
  clear hA0 hval0
  subst hl
  refine (row_walk a0 cap0 L W hmx hsl).mono fun e W' ⟨he, bel⟩ => ?_
  subst he
  exact ⟨_, rfl, _, _, _, [], _, [], hW', trodAll_mk1 (shut_bool Try.underlying4 _), (trodAll_cons_mk (Below.trod frow_laidOut (by kernel_rfl) (of_decide_eq_true (by kernel_rfl)) k0 bel lt0) trodAll_mk0), rfl, bel.frame _, fun h => by cases h⟩

theorem frow_over : Rows.frameRowRow.holds Try.pinned (OpenSpec.ofChange Rows.frameRowSpec) :=
  OpenClaim.holds_of_wide 3 Try.f3 rfl rfl rfl rfl rfl rfl rfl ⟨rfl, rfl, rfl, rfl, rfl⟩ rfl rfl rfl rfl rfl (by kernel_rfl) Try.func3 (by kernel_rfl)
    (of_decide_eq_true (by kernel_rfl)) (by unfold Func.isWrapper; first | (rw [if_pos (by decide +kernel)]; kernel_rfl) | (rw [if_neg (by decide +kernel)]; exact ⟨rfl, rfl⟩))
    (fun os started H enc _ => frow_lifted os started H enc)

/-- The statement. -/
theorem frameRow_holds : Rows.FrameRowSaid := frow_over
#print axioms frameRow_holds
end Go.Proofs.Ytbnoedndbehghaa
