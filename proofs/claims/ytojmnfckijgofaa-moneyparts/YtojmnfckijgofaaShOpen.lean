/-
  A list of numbers that came in.
-/
import Derived.Test.YtojmnfckijgofaaRows
import Derived.Test.YtojmnfckijgofaaShr2
import Derived.WalkKit
import Derived.SizedLaws
import Derived.ProofKit
import Derived.OpenShut
namespace Go.Proofs.Ytojmnfckijgofaa
open Go.ChangeShapes Go.WideShapes Go.ChangeAt Go.RowKit
set_option linter.unusedVariables false
set_option linter.unusedSimpArgs false
theorem w_add (b off i : Nat) : (⟨b, off, none⟩ : Addr).add i = ⟨b, off + i, none⟩ := by
  rcases Nat.eq_zero_or_pos i with rfl | hp
  · simp [Addr.add]
  · simp [Addr.add, Nat.ne_of_gt hp]
theorem isW_of {W : World} {a : Option Addr} {len cap : Nat} {zs : List Int} (h : (a = none ∧ len = 0 ∧ cap = 0 ∧ zs = []) ∨ ∃ x, a = some x ∧ len ≤ cap ∧ zs.length = cap ∧ (∀ i, i < zs.length → W.cell? (x.add i) = some (.int .i64 (zs.getD i 0))) ∧ ∀ n ∈ zs, (Lit.int .i64 n).wf = true) :
    ∃ am : List Int, am.length = len ∧ (∀ x ∈ am, Math.I64 x) ∧ IsW W a am cap := by
  rcases h with ⟨rfl, rfl, rfl, rfl⟩ | ⟨x, rfl, hl, hz, hcell, hwz⟩
  · exact ⟨[], rfl, by simp, ⟨by simp, .inl rfl⟩⟩
  · have hlen : (zs.take len).length = len := by simp; omega
    have hget : ∀ i, i < len → (zs.take len).getD i 0 = zs.getD i 0 := fun i hi => by simp [List.getD, hi]
    refine ⟨zs.take len, hlen, fun y hy => ?_, ⟨by omega, ?_⟩⟩
    · have := bounds_i64 (hwz _ (List.mem_of_mem_take hy))
      unfold Math.I64
      omega
    · by_cases h0 : len = 0
      · subst h0
        exact .inl (by simp)
      · right
        obtain ⟨b, off, spot⟩ := x
        have hc := hcell 0 (by omega)
        have hspot : spot = none := by simpa [Addr.add] using World.cell?_spot hc
        subst hspot
        have hlt : b < W.heap.size := by
          have := World.block_lt_of_cell? _ _ hc
          simpa [Addr.add] using this
        refine ⟨b, off, rfl, hlt, fun i hi => ?_⟩
        rw [hlen] at hi
        rw [hget i hi]
        have := hcell i (by omega)
        rw [w_add] at this
        exact this

end Go.Proofs.Ytojmnfckijgofaa
