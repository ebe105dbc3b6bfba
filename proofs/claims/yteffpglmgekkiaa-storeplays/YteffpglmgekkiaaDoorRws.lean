/-
  Lists of lists of numbers that came in, and the first three numbers of one.
-/
import Derived.Test.YteffpglmgekkiaaDoorBk3
import Derived.Below
namespace Go.Proofs.YteffpglmgekkiaaDoor
set_option linter.unusedVariables false
set_option linter.unusedSimpArgs false
set_option maxRecDepth 100000
open Go.RowKit Go.Lib

/-- Lists of numbers that came in. -/
structure Rw where
  ad : Option Addr
  l : List Int
  cap : Nat
def rw0 : Rw := ⟨none, [], 0⟩
structure IsRs (W : World) (a : Option Addr) (rs : List Rw) (cap : Nat) : Prop where
  cap : rs.length ≤ cap
  lies : rs = [] ∨ ∃ b off, a = some ⟨b, off, none⟩ ∧ b < W.heap.size ∧ ∀ k, k < rs.length → W.cell? ⟨b, off + k, none⟩ = some (.slice (rs.getD k rw0).ad (rs.getD k rw0).l.length (rs.getD k rw0).cap)
  rows : ∀ r ∈ rs, IsIn W r.ad r.l r.cap ∧ r.l.length ≤ 9223372036854775807
theorem IsRs.below {w w' : World} {a : Option Addr} {rs : List Rw} {cap : Nat} (h : IsRs w a rs cap) (hb : Below w.heap.size w w') : IsRs w' a rs cap := by
  refine ⟨h.cap, ?_, fun r hr => ⟨(h.rows r hr).1.below hb, (h.rows r hr).2⟩⟩
  rcases h.lies with h | ⟨b, off, e, hlt, hc⟩
  · exact .inl h
  · exact .inr ⟨b, off, e, by have := hb.size; omega, fun k hk => (hb.cell (p := ⟨b, off + k, none⟩) hlt).trans (hc k hk)⟩

/-- The first three numbers of a list, and 0. -/
def va (l : List Int) : Array Value := #[.int .i64 (l.getD 0 0), .int .i64 (l.getD 1 0), .int .i64 (l.getD 2 0)]
theorem va_set (l : List Int) (j : Nat) (hj : j < l.length) (h4 : j < 3) : (va (l.take j)).setIfInBounds j (.int .i64 (l.getD j 0)) = va (l.take (j + 1)) := by
  have e : ∀ i, i < j → (l.take j).getD i 0 = (l.take (j + 1)).getD i 0 := fun i hi => by
    simp only [List.getD_eq_getElem?_getD, List.getElem?_take]
    rw [if_pos hi, if_pos (by omega)]
  have e2 : (l.take (j + 1)).getD j 0 = l.getD j 0 := by
    simp only [List.getD_eq_getElem?_getD, List.getElem?_take]
    rw [if_pos (by omega)]
  have e3 : ∀ i, j < i → (l.take j).getD i 0 = (l.take (j + 1)).getD i 0 := fun i hi => by
    simp only [List.getD_eq_getElem?_getD, List.getElem?_take]
    rw [if_neg (by omega), if_neg (by omega)]
  match j, h4 with
  | 0, _ => simp only [va]; rw [← e2, e3 1 (by omega), e3 2 (by omega)]; rfl
  | 1, _ => simp only [va]; rw [← e2, e 0 (by omega), e3 2 (by omega)]; rfl
  | 2, _ => simp only [va]; rw [← e2, e 0 (by omega), e 1 (by omega)]; rfl
theorem va_get (l : List Int) (j : Nat) (h4 : j < 3) : (va l)[j]? = some (.int .i64 (l.getD j 0)) := by
  match j, h4 with
  | 0, _ => rfl
  | 1, _ => rfl
  | 2, _ => rfl
theorem va_take (l : List Int) (j : Nat) (h : j = 3 ∨ l.length ≤ j) : va (l.take j) = va l := by
  rcases h with rfl | h
  · have e : ∀ i, i < 3 → (l.take 3).getD i 0 = l.getD i 0 := fun i hi => by
      simp only [List.getD_eq_getElem?_getD, List.getElem?_take]
      rw [if_pos hi]
    simp only [va]
    rw [e 0 (by omega), e 1 (by omega), e 2 (by omega)]
  · rw [List.take_of_length_le h]
theorem alloc_v (w : World) : (Instr.alloc 36 true (.tuple #[])).run Tryd.prog w = .ok (.pointer (some ⟨w.heap.size, 0, none⟩)) (w.alloc (.cells (va []) 36)) := by
  have hz0 : (Tryd.prog.info? 36).map (·.zero) = some (some (.agg (va []))) := by kernel_rfl
  cases hq : Tryd.prog.info? 36 with
  | none => simp [hq] at hz0
  | some q =>
    have hz : q.zero = some (.agg (va [])) := by simpa [hq] using hz0
    simp [Instr.alloc, zeroValue, typeInfo, hq, hz, newVar, newRow, Value.cells]

end Go.Proofs.YteffpglmgekkiaaDoor
