/-
  The contract of entry.each, for any function that makes a line of a line.
-/
import Derived.Test.YtdadhoangnkfeaaDoorEn2
import Derived.Deep.AppendLies
import Derived.Deep.RegionHeldLaw
import Derived.RangeFuncBox
namespace Go.Proofs.YtdadhoangnkfeaaDoor
set_option linter.unusedVariables false
set_option linter.unusedSimpArgs false
set_option maxRecDepth 100000
open Go.RowKit Go.Lib

/-- What is asked of a function that makes a line of a line. -/
structure LMakes (g : Nat) (f : Ln → Ln) (ok : Ln → Prop) : Prop where
  eg : ∀ args W, (callFunc g args).run Tryd.prog W = .ok (.enter g args) W
  call : ∀ (x : Ln) W, ok x → Calls Tryd.prog g #[.agg x.cells] W fun e w' => e = .returned (.agg (f x).cells) ∧ Below W.heap.size W w'

theorem ln_info : (Tryd.prog.info? 46).map (fun i => (i.zero, i.size, i.bytes)) = some (some (.agg #[.string ByteArray.empty, .string ByteArray.empty, .int .i64 0]), 3, 40) := by kernel_rfl

theorem cells_three (W : World) (y0 y1 : ByteArray) (y2 : Int) (b : Nat) (t : TypeId) (hb : b = W.heap.size) : ∀ j u, ([.string y0, .string y1, .int .i64 y2] : List Value)[j]? = some u → (W.alloc (.cells #[.string y0, .string y1, .int .i64 y2] t)).cell? ((⟨b, 0, none⟩ : Addr).add j) = some u := by
  subst hb
  intro j u hj
  have h := World.alloc_heap_new W (.cells #[.string y0, .string y1, .int .i64 y2] t)
  generalize W.alloc (.cells #[.string y0, .string y1, .int .i64 y2] t) = V at *
  generalize W.heap.size = b at *
  by_cases h0 : j = 0
  · subst h0
    simp [World.cell?, Addr.add, h] at hj ⊢
    exact hj
  · simp [World.cell?, Addr.add, h, h0]
    exact hj

/-- A line without its account. -/
def bareL (x : Ln) : Ln := ⟨ByteArray.empty, x.cur, x.amt⟩
/-- A line turned round. -/
def turnL (x : Ln) : Ln := ⟨x.acc, x.cur, -x.amt⟩

end Go.Proofs.YtdadhoangnkfeaaDoor
