/-
  The contract of slices.DeleteFunc over lines that are one's own.
-/
import Derived.Test.YtbbegoklikaphaaZs5
namespace Go.Proofs.Ytbbegoklikaphaa
set_option linter.unusedVariables false
set_option linter.unusedSimpArgs false
set_option maxRecDepth 100000
open Go.RowKit Go.Lib

theorem zero3_length (k : Nat) : (Builtin.zeroCells (Value.agg #[.string ByteArray.empty, .string ByteArray.empty, .int .i64 0]).cells k).toList.length = k * 3 := by
  simp [Builtin.zeroCells, Value.cells]

end Go.Proofs.Ytbbegoklikaphaa

namespace Go.Proofs.Ytbbegoklikaphaa
set_option linter.unusedVariables false
set_option linter.unusedSimpArgs false
set_option maxRecDepth 100000
open Go.RowKit Go.Lib

theorem grown_any {w w' : World} (h : w.grownBy w' none) (row : Option Nat) : w.grownBy w' row := ⟨h.os, h.tape, h.output, h.size, fun k hk _ => h.block k hk (by simp)⟩

/-- A line of a row that is one's own gets another amount. -/
theorem LnRow.setAmt {W : World} {n0 g cap : Nat} {l : List Ln} (h : LnRow W n0 (.slice (some ⟨g, 0, none⟩) l.length cap) l) (k : Nat) (hk : k < l.length) (a : Int) :
    LnRow (W.setCell ⟨g, k * 3 + 2, none⟩ (.int .i64 a)) n0 (.slice (some ⟨g, 0, none⟩) l.length cap) (l.set k ⟨(l.getD k ln0).acc, (l.getD k ln0).cur, a⟩) ∧ W.frozen? ⟨g, k * 3 + 2, none⟩ = false := by
  rcases h.2 with ⟨hv, _⟩ | ⟨g1, c1, cur, hv, hb, hg, hc, hm, hs, ht⟩
  · cases hv
  cases hv
  have e1 : lnRow (l.set k ⟨(l.getD k ln0).acc, (l.getD k ln0).cur, a⟩) = (lnRow l).set (k * 3 + 2) (.int .i64 a) := by
    apply List.ext_getElem?
    intro j
    obtain ⟨q, r, hr, rfl⟩ : ∃ q r, r < 3 ∧ j = q * 3 + r := ⟨j / 3, j % 3, Nat.mod_lt _ (by omega), by omega⟩
    by_cases hq : q < l.length
    · rw [lnRow_get _ q r (by simpa using hq) hr, List.getElem?_set]
      by_cases hqk : q = k
      · subst hqk
        rw [List.getD_eq_getElem?_getD, List.getElem?_set_self hq, Option.getD_some]
        by_cases hr2 : r = 2
        · subst hr2
          rw [if_pos rfl, if_pos (by rw [lnRow_length]; omega)]
          rfl
        · rw [if_neg (by omega), lnRow_get l q r hq hr]
          rcases (by omega : r = 0 ∨ r = 1) with rfl | rfl <;> rfl
      · rw [if_neg (by omega), lnRow_get l q r hq hr, List.getD_eq_getElem?_getD, List.getElem?_set_ne (fun e => hqk e.symm), ← List.getD_eq_getElem?_getD]
    · rw [List.getElem?_eq_none (by rw [lnRow_length, List.length_set]; omega), List.getElem?_eq_none (by rw [List.length_set, lnRow_length]; omega)]
  refine ⟨⟨by rw [lnRow_length, List.length_set], .inr ⟨g, cap, cur.setIfInBounds (k * 3 + 2) (.int .i64 a), by rw [List.length_set], hb, ?_, by rw [List.length_set]; exact hc, hm, by simpa using hs, ?_⟩⟩, by simp [World.frozen?, hg]⟩
  · rw [setCell_eq_setRow W g (k * 3 + 2) cur 36 (0, 0) _ hg]
    exact setRow_heap W g cur _ 36 (0, 0) hg
  · rw [e1, List.length_set, ← ht, Array.toList_setIfInBounds, List.take_set]

theorem grown_setCell (W : World) (g o : Nat) (v : Value) : W.grownBy (W.setCell ⟨g, o, none⟩ v) (some g) :=
  ⟨rfl, rfl, rfl, by simp, fun k hk hne => Below.heap_setCell _ _ _ k (fun e => hne (by rw [e]))⟩

/-- The sums of each currency. -/
def curSums (l : List Ln) : List Ln := grp (l.map bareL)
theorem within_bare {m : Int} {l : List Ln} (h : Within m l) : Within m (l.map bareL) := by
  intro z hz
  obtain ⟨y, hy, rfl⟩ := List.mem_map.1 hz
  exact h y hy

end Go.Proofs.Ytbbegoklikaphaa

namespace Go.Proofs.Ytbbegoklikaphaa
set_option linter.unusedVariables false
set_option linter.unusedSimpArgs false
set_option maxRecDepth 100000
open Go.RowKit Go.Lib

theorem ln_zero (w : World) : (zeroValue 36).run Try.prog w = .ok (.agg #[.string ByteArray.empty, .string ByteArray.empty, .int .i64 0]) w := by
  obtain ⟨i0, hi, hz0, hz1, hz2⟩ := info_parts ln_info
  simp [zeroValue, typeInfo, hi, hz0]

theorem zero3_one (k : Nat) : ∀ u ∈ (Builtin.zeroCells (Value.agg #[.string ByteArray.empty, .string ByteArray.empty, .int .i64 0]).cells k).toList, u.oneCell' = true := by
  intro u hu
  simp only [Builtin.zeroCells, Value.cells, Array.toList_map, List.mem_map] at hu
  obtain ⟨i, _, rfl⟩ := hu
  have h3 : i % 3 = 0 ∨ i % 3 = 1 ∨ i % 3 = 2 := by omega
  rcases h3 with h | h | h <;> simp [h] <;> rfl

/-- Clearing the end of a row that is known whole. -/
theorem run_clear3 (w : World) (ty : TypeId) (g o n c : Nat) (cur : Array Value) (t : TypeId) (hg : w.heap[g]? = some (.cells cur t (0, 0))) (hn : 0 < n) (hfit : o + n * 3 ≤ cur.size) :
    ∃ Z : List Value, Z.length = n * 3 ∧ (Builtin.clear_ #[37] ty #[.slice (some ⟨g, o, none⟩) n c]).run Try.prog w = .ok (.tuple #[]) (w.setRow g (cur.toList.take o ++ Z ++ cur.toList.drop (o + Z.length)).toArray) := by
  refine ⟨(Builtin.zeroCells (Value.agg #[.string ByteArray.empty, .string ByteArray.empty, .int .i64 0]).cells n).toList, zero3_length n, ?_⟩
  have hst := run_storeCells_at Try.prog g o t (Builtin.zeroCells (Value.agg #[.string ByteArray.empty, .string ByteArray.empty, .int .i64 0]).cells n).toList 0 cur w hg (by rw [zero3_length]; omega) (zero3_one n)
  obtain ⟨m, rfl⟩ : ∃ m, n = m + 1 := ⟨n - 1, by omega⟩
  simp only [Nat.add_zero] at hst
  have hz := ln_zero
  generalize Value.agg #[.string ByteArray.empty, .string ByteArray.empty, .int .i64 0] = zv at hz hst ⊢
  generalize hZ : (Builtin.zeroCells zv.cells (m + 1)).toList = Z at hst ⊢
  simp [Builtin.clear_, run_underlying Try.underlying37, hz, hZ, hst]

/-- A line of a row that is one's own is written anew. -/
theorem LnRow.setLn {W : World} {n0 g cap : Nat} {l : List Ln} (h : LnRow W n0 (.slice (some ⟨g, 0, none⟩) l.length cap) l) (k : Nat) (hk : k < l.length) (x : Ln) :
    LnRow (((W.setCell ⟨g, k * 3, none⟩ (.string x.acc)).setCell ⟨g, k * 3 + 1, none⟩ (.string x.cur)).setCell ⟨g, k * 3 + 2, none⟩ (.int .i64 x.amt)) n0 (.slice (some ⟨g, 0, none⟩) l.length cap) (l.set k x) ∧ ∀ o, W.frozen? ⟨g, o, none⟩ = false := by
  rcases h.2 with ⟨hv, _⟩ | ⟨g1, c1, cur, hv, hb, hg, hc, hm, hs, ht⟩
  · cases hv
  cases hv
  have e1 : lnRow (l.set k x) = (((lnRow l).set (k * 3) (.string x.acc)).set (k * 3 + 1) (.string x.cur)).set (k * 3 + 2) (.int .i64 x.amt) := by
    apply List.ext_getElem?
    intro j
    obtain ⟨q, r, hr, rfl⟩ : ∃ q r, r < 3 ∧ j = q * 3 + r := ⟨j / 3, j % 3, Nat.mod_lt _ (by omega), by omega⟩
    by_cases hq : q < l.length
    · rw [lnRow_get _ q r (by simpa using hq) hr]
      have hlr : k * 3 + 2 < (lnRow l).length := by rw [lnRow_length]; omega
      by_cases hqk : q = k
      · subst hqk
        rw [List.getD_eq_getElem?_getD, List.getElem?_set_self hq, Option.getD_some]
        rcases (by omega : r = 0 ∨ r = 1 ∨ r = 2) with rfl | rfl | rfl
        · rw [List.getElem?_set_ne (by omega), List.getElem?_set_ne (by omega), Nat.add_zero, List.getElem?_set_self (by omega)]; rfl
        · rw [List.getElem?_set_ne (by omega), List.getElem?_set_self (by rw [List.length_set]; omega)]; rfl
        · rw [List.getElem?_set_self (by rw [List.length_set, List.length_set]; omega)]; rfl
      · rw [List.getElem?_set_ne (by omega), List.getElem?_set_ne (by omega), List.getElem?_set_ne (by omega), lnRow_get l q r hq hr, List.getD_eq_getElem?_getD, List.getElem?_set_ne (fun e => hqk e.symm), ← List.getD_eq_getElem?_getD]
    · rw [List.getElem?_eq_none (by rw [lnRow_length, List.length_set]; omega), List.getElem?_eq_none (by rw [List.length_set, List.length_set, List.length_set, lnRow_length]; omega)]
  have g1 : (W.setCell ⟨g, k * 3, none⟩ (.string x.acc)).heap[g]? = some (.cells (cur.setIfInBounds (k * 3) (.string x.acc)) 36 (0, 0)) := by
    rw [setCell_eq_setRow W g (k * 3) cur 36 (0, 0) _ hg]
    exact setRow_heap W g cur _ 36 (0, 0) hg
  have g2 : ((W.setCell ⟨g, k * 3, none⟩ (.string x.acc)).setCell ⟨g, k * 3 + 1, none⟩ (.string x.cur)).heap[g]? = some (.cells ((cur.setIfInBounds (k * 3) (.string x.acc)).setIfInBounds (k * 3 + 1) (.string x.cur)) 36 (0, 0)) := by
    rw [setCell_eq_setRow _ g (k * 3 + 1) _ 36 (0, 0) _ g1]
    exact setRow_heap _ g _ _ 36 (0, 0) g1
  have g3 : (((W.setCell ⟨g, k * 3, none⟩ (.string x.acc)).setCell ⟨g, k * 3 + 1, none⟩ (.string x.cur)).setCell ⟨g, k * 3 + 2, none⟩ (.int .i64 x.amt)).heap[g]? = some (.cells (((cur.setIfInBounds (k * 3) (.string x.acc)).setIfInBounds (k * 3 + 1) (.string x.cur)).setIfInBounds (k * 3 + 2) (.int .i64 x.amt)) 36 (0, 0)) := by
    rw [setCell_eq_setRow _ g (k * 3 + 2) _ 36 (0, 0) _ g2]
    exact setRow_heap _ g _ _ 36 (0, 0) g2
  refine ⟨⟨by rw [lnRow_length, List.length_set], .inr ⟨g, cap, _, by rw [List.length_set], hb, g3, by rw [List.length_set]; exact hc, hm, by simpa using hs, ?_⟩⟩, fun o => by simp [World.frozen?, hg]⟩
  rw [e1, List.length_set, ← ht, Array.toList_setIfInBounds, Array.toList_setIfInBounds, Array.toList_setIfInBounds, List.take_set, List.take_set, List.take_set]

/-- What holds between the rounds of DeleteFunc. -/
structure DelAt (p : Ln → Bool) (l d : List Ln) (i j : Nat) : Prop where
  len : d.length = l.length
  lt : i < j
  le : j ≤ l.length
  pre : d.take i = (l.take j).filter fun x => !p x
  suf : d.drop j = l.drop j

theorem filter_out {p : Ln → Bool} {x : Ln} (h : p x = true) : [x].filter (fun y => !p y) = [] := by simp [h]
theorem filter_in {p : Ln → Bool} {x : Ln} (h : p x = false) : [x].filter (fun y => !p y) = [x] := by simp [h]

theorem DelAt.skip {p : Ln → Bool} {l d : List Ln} {i j : Nat} (h : DelAt p l d i j) (hj : j < l.length) (hp : p (l.getD j ln0) = true) : DelAt p l d i (j + 1) :=
  ⟨h.len, by have := h.lt; omega, by omega, by rw [h.pre, lns_take l j hj, List.filter_append, filter_out hp, List.append_nil], by have := congrArg (List.drop 1) h.suf; rwa [List.drop_drop, List.drop_drop] at this⟩
theorem DelAt.keep {p : Ln → Bool} {l d : List Ln} {i j : Nat} (h : DelAt p l d i j) (hj : j < l.length) (hp : p (l.getD j ln0) = false) : DelAt p l (d.set i (l.getD j ln0)) (i + 1) (j + 1) := by
  have h1 := h.lt
  have h2 := h.len
  refine ⟨by rw [List.length_set, h.len], by omega, by omega, ?_, ?_⟩
  · rw [lns_take l j hj, List.filter_append, ← h.pre, List.take_set, lns_take d i (by omega)]
    have hl : (d.take i).length = i := by rw [List.length_take]; omega
    rw [List.set_append_right _ _ (by omega), hl, Nat.sub_self, filter_in hp]
    rfl
  · rw [List.drop_set_of_lt (by omega)]
    have := congrArg (List.drop 1) h.suf
    rwa [List.drop_drop, List.drop_drop] at this
theorem DelAt.at {p : Ln → Bool} {l d : List Ln} {i j : Nat} (h : DelAt p l d i j) (hj : j < l.length) : d.getD j ln0 = l.getD j ln0 := by
  have h1 := lns_drop d j (by rw [h.len]; exact hj)
  rw [h.suf, lns_drop l j hj] at h1
  exact (List.cons.inj h1).1.symm

end Go.Proofs.Ytbbegoklikaphaa
