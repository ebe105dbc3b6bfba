/-
  The contract of slices.Insert of one line, where there is no room, and at the end.
-/
import Derived.Test.YtagimpmefodaeaaGreatDoorZl2
import Derived.Laws.Cover1
import Derived.Deep.RegionWith
import Derived.Deep.RegionHeld3
import Derived.BigRegion
import Derived.Laws.NewBlocks
import Derived.Laws.CopyRow
import Derived.Laws.Tables
import Derived.Laws.Externs
import Derived.Lib.Overlaps
import Derived.Lib.AppendZerosOnto
import Derived.Lib.SliceRun
import Derived.Deep.RegionLaw
namespace Go.Proofs.YtagimpmefodaeaaGreatDoor
set_option linter.unusedVariables false
set_option linter.unusedSimpArgs false
set_option maxRecDepth 100000
open Go.RowKit Go.Lib

/-- Two texts held against each other. -/
def cmpS (a b : ByteArray) : Int := if Op.bytesLess a.toList b.toList = true then -1 else if (a.toList == b.toList) = true then 0 else 1
/-- Two lines held against each other. -/
def cmpL (a b : Ln) : Int := if cmpS a.acc b.acc ≠ 0 then cmpS a.acc b.acc else cmpS a.cur b.cur

theorem cmpS_zero {a b : ByteArray} : cmpS a b = 0 ↔ (a.toList == b.toList) = true := by
  unfold cmpS
  split
  · rename_i h
    refine ⟨fun h => by omega, fun e => ?_⟩
    rw [beq_iff_eq] at e
    rw [e, bl_self] at h
    cases h
  · split
    · simp_all
    · simp_all
theorem cmpS_neg {a b : ByteArray} : cmpS a b < 0 ↔ Op.bytesLess a.toList b.toList = true := by
  unfold cmpS
  split
  · simp_all
  · split
    · simp_all
    · simp_all
theorem cmpL_neg (a b : Ln) : decide (cmpL a b < 0) = lnLt a b := by
  unfold cmpL lnLt
  by_cases h : cmpS a.acc b.acc = 0
  · rw [if_neg (by simp [h])]
    have e := cmpS_zero.1 h
    have h2 : Op.bytesLess a.acc.toList b.acc.toList = false := by
      cases hh : Op.bytesLess a.acc.toList b.acc.toList
      · rfl
      · have := cmpS_neg.2 hh; omega
    rw [h2, e, Bool.false_or, Bool.true_and]
    rw [Bool.eq_iff_iff, decide_eq_true_eq, cmpS_neg]
  · rw [if_pos h]
    have e : (a.acc.toList == b.acc.toList) = false := by
      cases hh : (a.acc.toList == b.acc.toList)
      · rfl
      · exact absurd (cmpS_zero.2 hh) h
    rw [e, Bool.false_and, Bool.or_false]
    rw [Bool.eq_iff_iff, decide_eq_true_eq, cmpS_neg]
theorem cmpL_zero (a b : Ln) : decide (cmpL a b = 0) = lnEq a b := by
  unfold cmpL lnEq
  by_cases h : cmpS a.acc b.acc = 0
  · rw [if_neg (by simp [h]), cmpS_zero.1 h, Bool.true_and]
    rw [Bool.eq_iff_iff, decide_eq_true_eq, cmpS_zero]
  · rw [if_pos h]
    have e : (a.acc.toList == b.acc.toList) = false := by
      cases hh : (a.acc.toList == b.acc.toList)
      · rfl
      · exact absurd (cmpS_zero.2 hh) h
    rw [e, Bool.false_and]
    simp [h]
theorem cmpS_range (a b : ByteArray) : cmpS a b = -1 ∨ cmpS a b = 0 ∨ cmpS a b = 1 := by
  unfold cmpS
  split
  · simp
  · split <;> simp
theorem cmpL_range (a b : Ln) : cmpL a b = -1 ∨ cmpL a b = 0 ∨ cmpL a b = 1 := by
  unfold cmpL
  split
  · exact cmpS_range _ _
  · exact cmpS_range _ _

theorem cmpNaN_any (s : ByteArray) (w : World) :
    Calls Tryz.prog 96 #[.string s] w fun e w' => e = .returned (.bool false) ∧ w' = w := by
  go_enter Tryz.func96, Tryz.ntmps96
  go_wp2
  go_ret
  exact ⟨rfl, rfl⟩

theorem cmpCompare_any (a b : ByteArray) (w : World) :
    Calls Tryz.prog 78 #[.string a, .string b] w fun e w' => e = .returned (.int .i64 (cmpS a b)) ∧ w' = w := by
  cases h1 : Op.bytesLess a.toList b.toList
  · cases h2 : (a.toList == b.toList)
    · have er : cmpS a b = 1 := by simp only [cmpS]; rw [h1, h2]; rfl
      rw [er]
      have h2' : ¬ a.toList = b.toList := by simpa using h2
      clear er
      go_enter Tryz.func78, Tryz.ntmps78
      go_wp2_with (go_at_call 96; refine (cmpNaN_any _ _).mono ?_; rintro e w' ⟨rfl, rfl⟩)
      go_ret
      exact ⟨rfl, rfl⟩
    · have er : cmpS a b = 0 := by simp only [cmpS]; rw [h1, h2]; rfl
      rw [er]
      have h2' : a = b := toList_inj (by simpa using h2)
      subst h2'
      clear er h2
      go_enter Tryz.func78, Tryz.ntmps78
      go_wp2_with (go_at_call 96; refine (cmpNaN_any _ _).mono ?_; rintro e w' ⟨rfl, rfl⟩)
      go_ret
      exact ⟨rfl, rfl⟩
  · have er : cmpS a b = -1 := by simp only [cmpS]; rw [h1]; rfl
    rw [er]
    clear er
    go_enter Tryz.func78, Tryz.ntmps78
    go_wp2_with (go_at_call 96; refine (cmpNaN_any _ _).mono ?_; rintro e w' ⟨rfl, rfl⟩)
    go_ret
    exact ⟨rfl, rfl⟩

theorem cmpOr_any (b : Nat) (x y : Int) (w : World) (h0 : w.cell? ⟨b, 0, none⟩ = some (.int .i64 x)) (h1 : w.cell? ⟨b, 1, none⟩ = some (.int .i64 y)) :
    Calls Tryz.prog 76 #[.slice (some ⟨b, 0, none⟩) 2 2] w fun e w' => e = .returned (.int .i64 (if x ≠ 0 then x else y)) ∧ w' = w := by
  by_cases hx : x = 0
  · subst hx
    rw [if_neg (by simp)]
    by_cases hy : y = 0
    · subst hy
      go_enter Tryz.func76, Tryz.ntmps76
      go_wp2
      refine wp_loop_rounds 3 ?_
      rw [rounds_succ]
      go_wp2
      rw [rounds_succ]
      go_wp2
      rw [rounds_succ]
      go_wp2
      go_ret
      exact ⟨rfl, rfl⟩
    · have hy' : (y != 0) = true := by simp [hy]
      go_enter Tryz.func76, Tryz.ntmps76
      go_wp2
      refine wp_loop_rounds 3 ?_
      rw [rounds_succ]
      go_wp2
      rw [rounds_succ]
      go_wp2
      go_ret
      exact ⟨rfl, rfl⟩
  · rw [if_pos hx]
    have hx' : (x != 0) = true := by simp [hx]
    go_enter Tryz.func76, Tryz.ntmps76
    go_wp2
    refine wp_loop_rounds 3 ?_
    rw [rounds_succ]
    go_wp2
    go_ret
    exact ⟨rfl, rfl⟩

theorem cell_new (W : World) (ROW : Array Value) (t : TypeId) (b j : Nat) (v : Value) (hb : b = W.heap.size) (hv : ROW[j]? = some v) : ((W.alloc (.cells ROW t)).drew).cell? ⟨b, j, none⟩ = some v :=
  (World.cell?_alloc_at (w := W) ROW t b j hb).trans hv

end Go.Proofs.YtagimpmefodaeaaGreatDoor

namespace Go.Proofs.YtagimpmefodaeaaGreatDoor
set_option linter.unusedVariables false
set_option linter.unusedSimpArgs false
set_option maxRecDepth 100000
open Go.RowKit Go.Lib

/-- Whether a line of its account and currency is there. -/
def hasL (x : Ln) (l : List Ln) : Bool := decide (posL x l < l.length) && lnEq (l.getD (posL x l) ln0) x

end Go.Proofs.YtagimpmefodaeaaGreatDoor

namespace Go.Proofs.YtagimpmefodaeaaGreatDoor
set_option linter.unusedVariables false
set_option linter.unusedSimpArgs false
set_option maxRecDepth 100000
open Go.RowKit Go.Lib

/-- copy of lines into a row that is known whole. -/
theorem run_copy3 {P : Program} (w : World) (dT sT ty elem : TypeId) (g o dLen dCap : Nat) (a : Addr) (sLen sCap : Nat) (cur : Array Value) (t : TypeId) (cs : List Value)
    (hu : P.underlying dT = some (.slice elem)) (hs : (P.info? elem).map (·.size) = some 3)
    (hg : w.heap[g]? = some (.cells cur t (0, 0))) (hn : Nat.min sLen dLen * 3 = cs.length)
    (hsrc : ∀ j v, cs[j]? = some v → w.cell? (a.add j) = some v) (hfit : o + cs.length ≤ cur.size) (h1 : ∀ v ∈ cs, v.oneCell' = true) :
    (Builtin.copy_ #[dT, sT] ty #[.slice (some ⟨g, o, none⟩) dLen dCap, .slice (some a) sLen sCap]).run P w =
      .ok (goInt (Nat.min sLen dLen)) (w.setRow g (cur.toList.take o ++ cs ++ cur.toList.drop (o + cs.length)).toArray) := by
  have hl := run_loadCells_list (P := P) w a cs hsrc
  have hst := run_storeCells_at P g o t cs 0 cur w hg (by simpa using hfit) h1
  cases hq : P.info? elem with
  | none => simp [hq] at hs
  | some i =>
    have hi : i.size = 3 := by simpa [hq] using hs
    have hm : Nat.min sLen dLen * i.size = cs.length := by rw [hi]; exact hn
    simp only [hi] at hm
    simp [Builtin.copy_, run_underlying hu, Builtin.lenOf, Builtin.firstCells, sizeOf, typeInfo, hq, hi, hm, hl, hst]

theorem wpList_copy_at {P : Program} (w : World) {ops : Array Oper} {rest : List Oper} {o : Oper} {a : Act} {Q : Exit → Act → World → Prop} (hgd : o.guard = none) (d s : Operand) (t t' : TypeId)
    (ho : o.op = .call { callee := .builtin .copy, args := #[d, s], argTypes := #[t, t'] }) (v u : Value) (hd : a.eval d = v) (hs : a.eval s = u) {v' : Value} {w' : World}
    (hr : (Builtin.copy_ #[t, t'] o.type #[v, u]).run P w = .ok v' w') (h : wpList P ops Q rest (a.put o.dst v') w') : wpList P ops Q (o :: rest) a w :=
  wpList_plain hgd fun _ hK => by
    unfold Oper.wp execOp
    simp only [ho, resolve, invoke, builtin, Sem.run_bind, Sem.run_pure, Result.andThen_ok, List.map_toArray, List.map_cons, List.map_nil, hd, hs, hr]
    exact hK _ _ h

theorem step_copy_at {P : Program} {ops : Array Oper} {o : Oper} {a : Act} {w : World} {K : Act → World → Prop} {Q : Exit → Act → World → Prop} {E : Prop}
    (hg : o.guard = none) (d x : Operand) (dT sT : TypeId) (hop : o.op = Op.call { callee := Callee.builtin Builtin.copy, args := #[d, x], argTypes := #[dT, sT] })
    (v u : Value) (hd : a.eval d = v) (hx : a.eval x = u) {v' : Value} {w' : World} (hr : (Builtin.copy_ #[dT, sT] o.type #[v, u]).run P w = .ok v' w') (hK : K (a.put o.dst v') w') :
    if Region.wanted o (yielded ops a.tmps) = true then Oper.wp P o a w K Q else E := by
  have hw : Region.wanted o (yielded ops a.tmps) = true := by simp [Region.wanted, hg]
  rw [if_pos hw]
  unfold Oper.wp
  simp [execOp, hop, resolve, invoke, builtin, hd, hx, hr, Result.andThen]
  exact hK

theorem ln_size3 : (Tryz.prog.info? 75).map (·.size) = some 3 := by
  obtain ⟨i0, hi, hz0, hz1, hz2⟩ := info_parts ln_info
  rw [hi]; simp [hz1]
theorem ln_sizeOf (w : World) : (Go.sizeOf 75).run Tryz.prog w = .ok 3 w := by
  obtain ⟨i0, hi, hz0, hz1, hz2⟩ := info_parts ln_info
  simp [Go.sizeOf, typeInfo, hi, hz1]

end Go.Proofs.YtagimpmefodaeaaGreatDoor

namespace Go.Proofs.YtagimpmefodaeaaGreatDoor
set_option linter.unusedVariables false
set_option linter.unusedSimpArgs false
set_option maxRecDepth 100000
open Go.RowKit Go.Lib

theorem zero3_length (k : Nat) : (Builtin.zeroCells (Value.agg #[.string ByteArray.empty, .string ByteArray.empty, .int .i64 0]).cells k).toList.length = k * 3 := by
  simp [Builtin.zeroCells, Value.cells]

end Go.Proofs.YtagimpmefodaeaaGreatDoor
