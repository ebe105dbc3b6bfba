/-
  The laws' own chart.
-/
import Derived.Test.YtffekgndlhleiaaDoorCh2
import Derived.Laws.NewBlocks
import Derived.RangeFuncRecord
import Derived.KernelRfl
namespace Go.Proofs.YtffekgndlhleiaaDoor
set_option linter.unusedVariables false
set_option linter.unusedSimpArgs false
set_option maxRecDepth 100000
open Go.RowKit Go.Lib

/-- The laws' own chart. -/
def jC : List Ac := [⟨⟨#[49, 48]⟩, ⟨#[99, 97, 115, 104]⟩, 1, ⟨#[]⟩, true⟩, ⟨⟨#[50, 48]⟩, ⟨#[100, 101, 98, 116]⟩, 2, ⟨#[]⟩, true⟩, ⟨⟨#[51, 48]⟩, ⟨#[107, 101, 112, 116]⟩, 3, ⟨#[]⟩, false⟩, ⟨⟨#[52, 48]⟩, ⟨#[115, 97, 108, 101, 115]⟩, 4, ⟨#[]⟩, false⟩, ⟨⟨#[53, 48]⟩, ⟨#[99, 111, 115, 116]⟩, 5, ⟨#[]⟩, false⟩]
def jCells : Array Value := #[.string ⟨#[49, 48]⟩, .string ⟨#[99, 97, 115, 104]⟩, .int .i64 1, .string ⟨#[]⟩, .bool true, .string ⟨#[50, 48]⟩, .string ⟨#[100, 101, 98, 116]⟩, .int .i64 2, .string ⟨#[]⟩, .bool true, .string ⟨#[51, 48]⟩, .string ⟨#[107, 101, 112, 116]⟩, .int .i64 3, .string ⟨#[]⟩, .bool false, .string ⟨#[52, 48]⟩, .string ⟨#[115, 97, 108, 101, 115]⟩, .int .i64 4, .string ⟨#[]⟩, .bool false, .string ⟨#[53, 48]⟩, .string ⟨#[99, 111, 115, 116]⟩, .int .i64 5, .string ⟨#[]⟩, .bool false]
theorem jC_at (W : World) : IsSl (W.alloc (.cells jCells 39)) (some ⟨W.heap.size, 0, none⟩) jC 5 := by
  have h := World.alloc_heap_new W (.cells jCells 39)
  generalize W.alloc (.cells jCells 39) = V at *
  generalize W.heap.size = b at *
  refine ⟨Nat.le_refl _, .inr ⟨b, 0, rfl, (Array.getElem?_eq_some_iff.1 h).1, fun k hk => ?_⟩⟩
  rcases (by simp [jC] at hk; omega : k = 0 ∨ k = 1 ∨ k = 2 ∨ k = 3 ∨ k = 4) with rfl | rfl | rfl | rfl | rfl <;>
  exact ⟨by simp [World.cell?, h, jCells, jC], by simp [World.cell?, h, jCells, jC], by simp [World.cell?, h, jCells, jC], by simp [World.cell?, h, jCells, jC], by simp [World.cell?, h, jCells, jC]⟩
theorem accounts3_any (w : World) :
    Calls Tryd.prog 6 #[] w fun e w' => e = .returned (.slice (some ⟨w.heap.size, 0, none⟩) 5 5) ∧ IsSl w' (some ⟨w.heap.size, 0, none⟩) jC 5 ∧ Below w.heap.size w w' := by
  have h := jC_at w
  have b : Below w.heap.size w (w.alloc (.cells jCells 39)) := (Below.refl _ w).alloc (Nat.le_refl _) _
  have H : Hid (IsSl (w.alloc (.cells jCells 39)) (some ⟨w.heap.size, 0, none⟩) jC 5 ∧ Below w.heap.size w (w.alloc (.cells jCells 39))) := ⟨h, b⟩
  clear h b
  go_enter Tryd.func6, Tryd.ntmps6
  go_wp2
  go_ret
  exact ⟨rfl, H.out.1, H.out.2⟩
end Go.Proofs.YtffekgndlhleiaaDoor
