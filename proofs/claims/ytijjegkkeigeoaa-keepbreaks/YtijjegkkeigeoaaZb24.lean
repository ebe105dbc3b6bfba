/-
  What was kept is there, outright: for every list of breaks the call of daylaw2.KeepBreaks returns true, and its argument reads as it did. No condition.
-/
import Derived.Test.YtijjegkkeigeoaaRows
import Derived.WalkKit
import Derived.Test.YtijjegkkeigeoaaZb23
import Derived.SizedLaws
import Derived.Deep.Slices
import Derived.ProofKit
import Derived.OpenShut
import Derived.ShutString
import Derived.ChangeOld
import Derived.Below
namespace Go.Proofs.Ytijjegkkeigeoaa
open Go.ChangeShapes Go.WideShapes Go.ChangeAt Go.RowKit Go.Deep
open Go.ChangeMaps (open_string shut_string)
set_option linter.unusedVariables false
set_option linter.unusedSimpArgs false

/-- Numbers that came in. -/
theorem isIn_of {W : World} {x : Addr} {len cap : Nat} {zs : List Int} (hl : len ≤ cap) (hz : zs.length = cap) (hcell : ∀ i, i < zs.length → W.cell? (x.add i) = some (.int .i64 (zs.getD i 0))) :
    ∃ is : List Int, is.length = len ∧ IsIn W (some x) is cap := by
  have hlen : (zs.take len).length = len := by simp; omega
  refine ⟨zs.take len, hlen, by rw [hlen]; exact hl, ?_⟩
  by_cases h0 : len = 0
  · subst h0; exact .inl (by simp)
  · right
    obtain ⟨b, off, spot⟩ := x
    have hc : W.cell? ⟨b, off, spot⟩ = some (.int .i64 (zs.getD 0 0)) := hcell 0 (by omega)
    have hspot : spot = none := World.cell?_spot hc
    subst hspot
    refine ⟨b, off, rfl, World.block_lt_of_cell? _ _ hc, fun k hk => ?_⟩
    rw [hlen] at hk
    have h1 := hcell k (by omega)
    rw [Addr.add_mid] at h1
    rw [h1]
    simp [List.getD, List.getElem?_take, hk]

section
variable {H : Type} {enc : TypeId × Value → H}
theorem ints_cells : Try.prog.cellsOf 37 = 1 := by kernel_rfl
/-- Lists that came in. -/
theorem rows_of_trod {W : World} {a : Option Addr} {len cap fuel : Nat} {x : DataW H × List MemPlace} (h : DataW.trod enc Try.prog W 0 (fun _ => true) true fuel 22 [.slice a len cap] = some x) :
    ∃ rs : List Rw, rs.length = len ∧ IsRs W a rs cap ∧ rs.length ≤ 9223372036854775807 := by
  rcases open_slice1 Try.underlying22 ints_cells h with ⟨hcs, _⟩ | ⟨x, l, c, m, n, V, D, Pl, hcs, _, hl, hm, hmm, _, hx⟩
  · simp at hcs
    obtain ⟨rfl, rfl, rfl⟩ := hcs
    exact ⟨[], rfl, ⟨by simp, .inl rfl, by simp⟩, by simp⟩
  · simp at hcs
    obtain ⟨rfl, rfl, rfl⟩ := hcs
    have hmm2 : m = cap := hmm
    have hr : ∀ i, i < len → ∃ r : Rw, W.cell? (x.add i) = some (.slice r.ad r.l.length r.cap) ∧ IsIn W r.ad r.l r.cap ∧ r.l.length ≤ 9223372036854775807 := fun i hi => by
      obtain ⟨hc0, h2⟩ := hx i (by omega)
      rcases open_ints Try.underlying37 Try.underlying3 (by kernel_rfl) h2 with ⟨hcs, _⟩ | ⟨y, l, c, zs, hcs, _, hl', hm', hz, hy, hcell, hwz⟩
      · simp at hcs
        rw [hcs] at hc0
        exact ⟨⟨none, [], 0⟩, hc0, ⟨by simp, .inl rfl⟩, by simp⟩
      · simp at hcs
        rw [hcs] at hc0
        have hz' : zs.length = c := by simpa using hz
        obtain ⟨is, e1, e2⟩ := isIn_of hl' hz' hcell
        refine ⟨⟨some y, is, c⟩, by simp only [e1]; exact hc0, e2, ?_⟩
        unfold maxLen at hm'
        show is.length ≤ _
        omega
    obtain ⟨f, hf⟩ := @choose_lt Rw ⟨rw0⟩ _ _ hr
    have hget : ∀ k, k < len → ((List.range len).map f).getD k rw0 = f k := fun k hk => by simp [List.getD, hk]
    have hlen : ((List.range len).map f).length = len := by simp
    refine ⟨(List.range len).map f, hlen, ⟨by rw [hlen]; exact hl, ?_, ?_⟩, ?_⟩
    · by_cases h0 : len = 0
      · subst h0
        exact .inl rfl
      · right
        obtain ⟨b, off, spot⟩ := x
        have hc := (hf 0 (by omega)).1
        have ha0 : (⟨b, off, spot⟩ : Addr).add 0 = ⟨b, off, spot⟩ := by unfold Addr.add; simp
        rw [ha0] at hc
        have hspot : spot = none := World.cell?_spot hc
        subst hspot
        refine ⟨b, off, rfl, World.block_lt_of_cell? _ _ hc, fun k hk => ?_⟩
        rw [hlen] at hk
        rw [hget k hk]
        have := (hf k hk).1
        rw [Addr.add_mid] at this
        exact this
    · intro r hr'
      obtain ⟨k, hk, rfl⟩ := List.mem_map.1 hr'
      exact (hf k (List.mem_range.1 hk)).2
    · rw [hlen]
      unfold maxLen at hm
      omega
end

theorem kbreaks_own : ownKnob Try.prog.godebug = none := by kernel_rfl
theorem kbreaks_laidOut : laidOutB Try.prog = true := by kernel_rfl

set_option maxRecDepth 100000 in
theorem kbreaks_lifted (os : Os) (started : os.Started) (H : Type) (enc : TypeId × Value → H) :
    ReturnsInHanded {} Try.checked os 3 .any (Rows.keepBreaksSpec.pre6 enc Try.prog Try.f3 Rows.keepBreaksRow.domain false) (Rows.keepBreaksSpec.post enc Try.prog Try.f3 false true false false) := by
  refine returnsInHanded_of_change_sized (C := Try.checked) kbreaks_own started (by kernel_rfl) Try.func3
    (ChangeSpec.witness6 (enc := enc) (C := Try.checked) false ⟨#[], #[.slice none 0 0], []⟩ 8 (by kernel_rfl) (by kernel_rfl) (by kernel_rfl) (by kernel_rfl)) ?_
  intro W base args ds gs before hval0 hW hcnd hsz0 _
  have hsz : (DataW.weightsEach Try.prog (Try.f3.params.toList ++ Rows.keepBreaksSpec.plain.varTypes Try.prog) (ds ++ gs)).all (· ≤ reachBytes) = true := hsz0
  clear hsz0
  have hval : ∀ (j : Nat) t v, Try.f3.params[j]? = some t → args[j]? = some v → Value.okWide Try.prog W .any base t v := hval0
  have hW' := hW
  obtain ⟨p, q, hA0, hV, rfl, hfz, hnd⟩ := hW
  have hA : DataW.TrodAll enc Try.prog W 0 (fun _ => true) true Try.f3.params.toList args.toList ds p := hA0
  rw [Try.params3] at hA hval hsz
  obtain ⟨v0, vs0, d0, ds0, p0, q0, hargs, rfl, rfl, h0, r0⟩ := trodAll_cons hA
  obtain ⟨rfl, rfl, rfl⟩ := trodAll_nil r0
  obtain rfl : args = #[v0] := by cases args; simp_all
  obtain ⟨rfl, rfl⟩ := trodVars_none hV
  obtain ⟨a0, len0, cap0, rfl⟩ := okWide_slice Try.underlying22 (hval 0 22 v0 rfl rfl)
  have k0 := h0
  have lt0 : ∀ x ∈ p0, x.block < W.heap.size := by obtain ⟨m, hm⟩ := k0; exact DataW.trod_lt m _ _ _ hm
  obtain ⟨rs0, hrs0, hro0, hrl0⟩ : ∃ rs : List Rw, rs.length = len0 ∧ IsRs W a0 rs cap0 ∧ rs.length ≤ 9223372036854775807 := by
    obtain ⟨fuel, hf⟩ := h0
    exact rows_of_trod hf
  subst hrs0
  clear hA0 hval0
  refine (kbreaks_walk a0 cap0 rs0 W hro0).mono fun e W' ⟨he, bel⟩ => ?_
  subst he
  exact ⟨_, rfl, _, _, _, [], _, [], hW', trodAll_mk1 (shut_bool Try.underlying4 _), (trodAll_cons_mk (Below.trod kbreaks_laidOut (by kernel_rfl) (of_decide_eq_true (by kernel_rfl)) k0 bel lt0) trodAll_mk0), rfl, bel.frame _, fun h => by cases h⟩

theorem kbreaks_over : Rows.keepBreaksRow.holds Try.pinned (OpenSpec.ofChange Rows.keepBreaksSpec) :=
  OpenClaim.holds_of_wide 3 Try.f3 rfl rfl rfl rfl rfl rfl rfl ⟨rfl, rfl, rfl, rfl, rfl⟩ rfl rfl rfl rfl rfl (by kernel_rfl) Try.func3 (by kernel_rfl)
    (of_decide_eq_true (by kernel_rfl)) (by unfold Func.isWrapper; first | (rw [if_pos (by decide +kernel)]; kernel_rfl) | (rw [if_neg (by decide +kernel)]; exact ⟨rfl, rfl⟩))
    (fun os started H enc _ => kbreaks_lifted os started H enc)

/-- The statement. -/
theorem keepBreaks_holds : Rows.KeepBreaksSaid := kbreaks_over
#print axioms keepBreaks_holds
end Go.Proofs.Ytijjegkkeigeoaa
