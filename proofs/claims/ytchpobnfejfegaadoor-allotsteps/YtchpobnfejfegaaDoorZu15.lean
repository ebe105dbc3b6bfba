/-
  Stepping down, numbers alone.
-/
import Derived.Test.YtchpobnfejfegaaDoorZu14
import Derived.Test.YtchpobnfejfegaaDoorProg
import Derived.WalkKit
import Derived.WalkSpells
import Derived.LaidEql
import Derived.Stop.Asserts
import Derived.RowKitTokens
import Derived.Below
import Derived.Test.YtchpobnfejfegaaDoorZu12
import Derived.Test.YtchpobnfejfegaaDoorZu13
import Derived.Test.YtchpobnfejfegaaDoorZu3
namespace Go.Proofs.YtchpobnfejfegaaDoor
set_option linter.unusedVariables false
set_option linter.unusedSimpArgs false
set_option maxRecDepth 100000
open Go.RowKit Go.Lib

/-- Numbers behind a slice. -/
def HasInts (w : World) (v : Value) (xs : List Int) : Prop := ∃ a cap, v = .slice a xs.length cap ∧ (xs = [] ∨ ∃ g off, a = some ⟨g, off, none⟩ ∧ ∀ k, k < xs.length → w.cell? ⟨g, off + k, none⟩ = some (.int .i64 (xs.getD k 0)))

theorem hasInts_nil (w : World) : HasInts w (.slice none 0 0) [] := ⟨none, 0, rfl, .inl rfl⟩

--@if{quarterday/daysame.Ints}
set_option maxHeartbeats 1000000 in
theorem sameInts_any (v1 v2 : Value) (xs : List Int) (w : World) (hlen : xs.length ≤ 1000) (h1 : HasInts w v1 xs) (h2 : HasInts w v2 xs) :
    Calls Tryd.prog 7 #[v1, v2] w fun e w' => e = .returned (.bool true) ∧ Below w.heap.size w w' := by
  obtain ⟨a1, c1, rfl, h1⟩ := h1
  obtain ⟨a2, c2, rfl, h2⟩ := h2
  have Hlen : (xs.length : Int) ≤ 1000 := by omega
  have H1 : Hid (xs = [] ∨ _) := h1
  have H2 : Hid (xs = [] ∨ _) := h2
  clear h1 h2
  go_enter Tryd.func7, Tryd.ntmps7
  go_wp2
  go_loopw [5] (fun i wr => ∃ k : Nat, k ≤ xs.length ∧ i = .int .i64 k ∧ ∃ n, wr = w.drewN n) (fun i _ => xs.length - (RowKit.intOf i).toNat)
  case atStart => exact ⟨0, Nat.zero_le _, rfl, 0, rfl⟩
  case round =>
    obtain ⟨k, hk, rfl, nd, rfl⟩ := hrel
    by_cases hlt : k < xs.length
    · rcases H1.out with h | ⟨g1, o1, rfl, q1⟩
      · rw [h] at hlt; simp at hlt
      rcases H2.out with h | ⟨g2, o2, rfl, q2⟩
      · rw [h] at hlt; simp at hlt
      have d1 := q1 k hlt
      have d2 := q2 k hlt
      clear q1 q2 H1 H2
      generalize xs.getD k 0 = x at *
      have i0 : (0 : Int) ≤ k := by omega
      have i1 : (k : Int) < xs.length := by omega
      go_wp2_with fail
      go_quiet (fail)
      go_wp2
      go_roundw
      case rel => exact ⟨k + 1, by omega, by go_num, _, rfl⟩
      case measure => simp [RowKit.intOf]; omega
    · have hk2 : k = xs.length := by omega
      subst hk2
      go_wp2
      go_ret
      exact ⟨rfl, ch_drewN (Below.refl _ _) _⟩
--@fi
end Go.Proofs.YtchpobnfejfegaaDoor

namespace Go.Proofs.YtchpobnfejfegaaDoor
set_option linter.unusedVariables false
open Go.RowKit Go.Extern.Stop Go.Stop Go.Extern

theorem valueOfP (t : Addr) (w : World) : (ReflectliteValue.unpack (.iface 59 (.pointer (some t)))).run Tryd.prog w
    = .ok (.agg #[.pointer (some ⟨3, 59, none⟩), .pointer (some ⟨w.heap.size, 0, none⟩), .int .u64 150]) (w.alloc (.cells #[.pointer (some t)] 59)) := by kernel_rfl
theorem typeP (a : Addr) (w : World) : (ReflectliteValue.methodAny (ReflectliteValue.valueError "reflectlite.Value.Type" 0) (fun t _ _ _ => ReflectliteType.toType t) #[.agg #[.pointer (some ⟨3, 59, none⟩), .pointer (some a), .int .u64 150]]).run Tryd.prog w
    = .ok (.iface 109 (.agg #[.pointer (some ⟨3, 59, none⟩)])) w := by kernel_rfl
theorem methodKind (h : Value) (w : World) : (Go.method 259 109 (.agg #[h]) "Kind").run Tryd.prog w = .ok (95, h) w := by kernel_rfl
theorem kindP (w : World) : ((ReflectliteType.abiMethod fun t => Functor.map (fun a : Nat => Value.int IntKind.u8 (a : Int)) (Rtype.kind t)) #[.pointer (some ⟨3, 59, none⟩)]).run Tryd.prog w = .ok (.int .u8 22) w := by kernel_rfl
theorem kindE (w : World) : ((ReflectliteType.abiMethod fun t => Functor.map (fun a : Nat => Value.int IntKind.u8 (a : Int)) (Rtype.kind t)) #[.pointer (some ⟨3, 38, none⟩)]).run Tryd.prog w = .ok (.int .u8 2) w := by kernel_rfl
theorem rlm (z : Sem Value) (f : TypeId → Addr → Nat → Nat → Sem Value) (v : Value) :
    ReflectliteValue.method z f #[v] = (do match ← ReflectliteValue.parts v with | none => z | some (t, a, fl) => f t a fl (fl % 32)) := rfl
theorem partsP (a : Addr) (w : World) : (ReflectliteValue.parts (.agg #[.pointer (some ⟨3, 59, none⟩), .pointer (some a), .int .u64 150])).run Tryd.prog w = .ok (some (59, a, 150)) w := by kernel_rfl
theorem isNilP (a p : Addr) (W : World) (ha : W.cell? a = some (.pointer (some p))) :
    (ReflectliteValue.method (ReflectliteValue.valueError "reflectlite.Value.IsNil" 0) ReflectliteValue.isNil #[.agg #[.pointer (some ⟨3, 59, none⟩), .pointer (some a), .int .u64 150]]).run Tryd.prog W = .ok (.bool false) W := by
  rw [rlm]
  simp only [Sem.run_bind, partsP, Result.andThen]
  simp [ReflectliteValue.isNil, loadVar, isAgg, underlying, Tryd.underlying59, ha, Result.andThen]
theorem methodElem (h : Value) (w : World) : (Go.method 259 109 (.agg #[h]) "Elem").run Tryd.prog w = .ok (107, .agg #[h]) w := by kernel_rfl
theorem methodImplements (h : Value) (w : World) : (Go.method 259 109 (.agg #[h]) "Implements").run Tryd.prog w = .ok (108, .agg #[h]) w := by kernel_rfl
theorem methodAssignableTo (h : Value) (w : World) : (Go.method 259 109 (.agg #[h]) "AssignableTo").run Tryd.prog w = .ok (105, .agg #[h]) w := by kernel_rfl
theorem elemP (w : World) : (ReflectliteType.method ReflectliteType.elem #[.agg #[.pointer (some ⟨3, 59, none⟩)]]).run Tryd.prog w = .ok (.iface 109 (.agg #[.pointer (some ⟨3, 38, none⟩)])) w := by kernel_rfl
theorem implementsE (w : World) : (ReflectliteType.relation "Implements" ReflectliteType.implements_ #[.agg #[.pointer (some ⟨3, 38, none⟩)], .iface 109 (.agg #[.pointer (some ⟨3, 27, none⟩)])]).run Tryd.prog w = .ok (.bool true) w := by kernel_rfl
theorem typeOfE (v : Value) (w : World) : (ReflectliteType.typeOf #[.iface 38 v]).run Tryd.prog w = .ok (.iface 109 (.agg #[.pointer (some ⟨3, 38, none⟩)])) w := by kernel_rfl
theorem assignableE (w : World) : (ReflectliteType.relation "AssignableTo" ReflectliteType.assignableTo #[.agg #[.pointer (some ⟨3, 38, none⟩)], .iface 109 (.agg #[.pointer (some ⟨3, 38, none⟩)])]).run Tryd.prog w = .ok (.bool true) w := by kernel_rfl
theorem valueOfE (n : Int) (w : World) : (ReflectliteValue.unpack (.iface 38 (.int .i64 n))).run Tryd.prog w
    = .ok (.agg #[.pointer (some ⟨3, 38, none⟩), .pointer (some ⟨w.heap.size, 0, none⟩), .int .u64 130]) (w.alloc (.cells #[.int .i64 n] 38)) := by kernel_rfl
theorem elemOfP (w : World) : (Rtype.elem? 59).run Tryd.prog w = .ok (some 38) w := by kernel_rfl
theorem mkE (p : Addr) (w : World) : (ReflectliteValue.mk 38 p ReflectliteValue.flagAddr).run Tryd.prog w = .ok (.agg #[.pointer (some ⟨3, 38, none⟩), .pointer (some p), .int .u64 386]) w := by kernel_rfl
theorem elemVP (a p : Addr) (W : World) (ha : W.cell? a = some (.pointer (some p))) :
    (ReflectliteValue.method (ReflectliteValue.valueError "reflectlite.Value.Elem" 0) ReflectliteValue.elem #[.agg #[.pointer (some ⟨3, 59, none⟩), .pointer (some a), .int .u64 150]]).run Tryd.prog W
      = .ok (.agg #[.pointer (some ⟨3, 38, none⟩), .pointer (some p), .int .u64 386]) W := by
  rw [rlm]
  simp only [Sem.run_bind, partsP, Result.andThen]
  simp [ReflectliteValue.elem, loadVar, isAgg, underlying, Tryd.underlying59, ha, Result.andThen, elemOfP, mkE]
theorem rls (v x : Value) : ∃ s1 s2 s3 s4 s5 : String, ReflectliteValue.set #[v, x] = (do
    let (some (dst, a, fl), some (src, b, _)) := (← ReflectliteValue.parts v, ← ReflectliteValue.parts x)
      | unsupported (.noEntry s1)
    if fl / ReflectliteValue.flagAddr % 2 == 0 then unsupported (.noEntry s2)
    let val ← loadVar src b
    if ← Rtype.directlyAssignable dst src then storeVar dst a val
    else if ← Rtype.implements dst src then
      if (← Rtype.kind src) == 20 then
        match val with
        | .nilIface => unsupported (.noEntry s3)
        | _ => storeVar dst a val
      else storeVar dst a (.iface src val)
    else panicString (s4 ++ (← Rtype.spelt src) ++ s5 ++ (← Rtype.spelt dst))
    pure (.tuple #[])) := ⟨_, _, _, _, _, rfl⟩
theorem partsEa (a : Addr) (w : World) : (ReflectliteValue.parts (.agg #[.pointer (some ⟨3, 38, none⟩), .pointer (some a), .int .u64 386])).run Tryd.prog w = .ok (some (38, a, 386)) w := by kernel_rfl
theorem partsE (a : Addr) (w : World) : (ReflectliteValue.parts (.agg #[.pointer (some ⟨3, 38, none⟩), .pointer (some a), .int .u64 130])).run Tryd.prog w = .ok (some (38, a, 130)) w := by kernel_rfl
theorem directE (w : World) : (Rtype.directlyAssignable 38 38).run Tryd.prog w = .ok true w := by kernel_rfl
theorem setE (ta b : Addr) (n : Int) (old : Value) (W : World) (hb : W.cell? b = some (.int .i64 n)) (ht : W.cell? ta = some old) (hf : W.frozen? ta = false) :
    (ReflectliteValue.set #[.agg #[.pointer (some ⟨3, 38, none⟩), .pointer (some ta), .int .u64 386], .agg #[.pointer (some ⟨3, 38, none⟩), .pointer (some b), .int .u64 130]]).run Tryd.prog W
      = .ok (.tuple #[]) (W.setCell ta (.int .i64 n)) := by
  obtain ⟨s1, s2, s3, s4, s5, h⟩ := rls (.agg #[.pointer (some ⟨3, 38, none⟩), .pointer (some ta), .int .u64 386]) (.agg #[.pointer (some ⟨3, 38, none⟩), .pointer (some b), .int .u64 130])
  rw [h]
  simp only [Sem.run_bind, partsEa, partsE, Result.andThen]
  simp [ReflectliteValue.flagAddr, loadVar, isAgg, underlying, Tryd.underlying38, hb, Result.andThen, directE, storeVar, Value.cells, storeCells, Addr.add]
  rw [run_store Tryd.prog W ta _ _ (by rfl)]
  simp [ht, hf]
end Go.Proofs.YtchpobnfejfegaaDoor

namespace Go.Proofs.YtchpobnfejfegaaDoor
set_option linter.unusedVariables false
open Go.RowKit Go.Extern.Stop Go.Stop Go.Extern

theorem as_nil (t : Value) (w : World) :
    Calls Tryd.prog 29 #[.nilIface, t] w fun e w' => e = .returned (.bool false) ∧ w' = w := by
  go_enter Tryd.func29, Tryd.ntmps29
  go_wp2
  go_ret
  exact ⟨rfl, rfl⟩

set_option maxHeartbeats 4000000 in
theorem as_hit (n : Int) (t : Addr) (old : Value) (w : World) (hg : w.cell? ⟨0, 0, none⟩ = some (.iface 109 (.agg #[.pointer (some ⟨3, 27, none⟩)]))) (ht0 : w.cell? t = some old) (hf0 : w.frozen? t = false) :
    Calls Tryd.prog 29 #[.iface 38 (.int .i64 n), .iface 59 (.pointer (some t))] w fun ev w' => ev = .returned (.bool true) ∧ ∃ o1 o2 o3 o4, w' = ((((w.alloc o1).alloc o2).alloc o3).alloc o4).setCell t (.int .i64 n) := by
  have h6 := @run_callFunc_extern Tryd.prog 46 _ (fun args => ReflectliteValue.unpack (args.getD 0 (.tuple #[]))) Tryd.func46 (by kernel_rfl) (by kernel_rfl) (by kernel_rfl) (by kernel_rfl)
  have h7 := @run_callFunc_extern Tryd.prog 47 _ (ReflectliteValue.methodAny (ReflectliteValue.valueError "reflectlite.Value.Type" 0) (fun t _ _ _ => ReflectliteType.toType t)) Tryd.func47 (by kernel_rfl) (by kernel_rfl) (by kernel_rfl) (by kernel_rfl)
  have h8 := @run_callFunc_extern Tryd.prog 48 _ (ReflectliteValue.method (ReflectliteValue.valueError "reflectlite.Value.IsNil" 0) ReflectliteValue.isNil) Tryd.func48 (by kernel_rfl) (by kernel_rfl) (by kernel_rfl) (by kernel_rfl)
  have h27 := @run_callFunc_extern Tryd.prog 95 _ (ReflectliteType.abiMethod fun t => do pure (.int .u8 (← Rtype.kind t))) Tryd.func95 (by kernel_rfl) (by kernel_rfl) (by kernel_rfl) (by kernel_rfl)
  have h37 := @run_callFunc_extern Tryd.prog 107 _ (ReflectliteType.method ReflectliteType.elem) Tryd.func107 (by kernel_rfl) (by kernel_rfl) (by kernel_rfl) (by kernel_rfl)
  have h38 := @run_callFunc_extern Tryd.prog 108 _ (ReflectliteType.relation "Implements" ReflectliteType.implements_) Tryd.func108 (by kernel_rfl) (by kernel_rfl) (by kernel_rfl) (by kernel_rfl)
  have h10 := @run_callFunc_extern Tryd.prog 69 _ ReflectliteType.typeOf Tryd.func69 (by kernel_rfl) (by kernel_rfl) (by kernel_rfl) (by kernel_rfl)
  have h35 := @run_callFunc_extern Tryd.prog 105 _ (ReflectliteType.relation "AssignableTo" ReflectliteType.assignableTo) Tryd.func105 (by kernel_rfl) (by kernel_rfl) (by kernel_rfl) (by kernel_rfl)
  have h11 := @run_callFunc_extern Tryd.prog 70 _ (ReflectliteValue.method (ReflectliteValue.valueError "reflectlite.Value.Elem" 0) ReflectliteValue.elem) Tryd.func70 (by kernel_rfl) (by kernel_rfl) (by kernel_rfl) (by kernel_rfl)
  have h12 := @run_callFunc_extern Tryd.prog 71 _ ReflectliteValue.set Tryd.func71 (by kernel_rfl) (by kernel_rfl) (by kernel_rfl) (by kernel_rfl)
  have tO := typeOfE
  have mA := methodAssignableTo
  have aE := assignableE
  have vE := valueOfE
  have f6 := valueOfP
  have f7 := typeP
  have mK := methodKind
  have mE := methodElem
  have mI := methodImplements
  have kP := kindP
  have kE := kindE
  have eP := elemP
  have iE := implementsE
  have n8 := isNilP ⟨w.heap.size, 0, none⟩ t ((w.alloc (.cells #[.pointer (some t)] 59)).alloc (.cells #[.pointer (some ⟨3, 59, none⟩), .pointer (some ⟨w.heap.size, 0, none⟩), .int .u64 150] 85)) (by simp)
  have hlt : 0 < w.heap.size := World.block_lt_of_cell? _ _ hg
  have hg2 : ((w.alloc (.cells #[.pointer (some t)] 59)).alloc (.cells #[.pointer (some ⟨3, 59, none⟩), .pointer (some ⟨w.heap.size, 0, none⟩), .int .u64 150] 85)).cell? ⟨0, 0, none⟩ = some (.iface 109 (.agg #[.pointer (some ⟨3, 27, none⟩)])) := by
    rw [World.cell?_alloc_lt _ _ ⟨0, 0, none⟩ (by simp <;> omega), World.cell?_alloc_lt _ _ ⟨0, 0, none⟩ hlt]; exact hg
  have htl : t.block < w.heap.size := World.block_lt_of_cell? _ _ ht0
  generalize hW3 : (((w.alloc (.cells #[.pointer (some t)] 59)).alloc (.cells #[.pointer (some ⟨3, 59, none⟩), .pointer (some ⟨w.heap.size, 0, none⟩), .int .u64 150] 85)).alloc (.cells #[.pointer (some ⟨3, 59, none⟩), .pointer (some ⟨w.heap.size, 0, none⟩), .int .u64 150] 85)) = W3
  have k0 : W3.cell? ⟨w.heap.size, 0, none⟩ = some (.pointer (some t)) := by
    rw [← hW3, World.cell?_alloc_lt _ _ _ (by simp <;> omega), World.cell?_alloc_lt _ _ _ (by simp)]; simp
  have ksz : W3.heap.size = w.heap.size + 1 + 1 + 1 := by rw [← hW3]; simp
  have k1 : W3.cell? t = some old := by
    rw [← hW3, World.cell?_alloc_lt _ _ t (by simp <;> omega), World.cell?_alloc_lt _ _ t (by simp <;> omega), World.cell?_alloc_lt _ _ t htl]; exact ht0
  have k2 : W3.frozen? t = false := by
    rw [← hW3, World.frozen?_alloc_old _ _ t (by simp <;> omega), World.frozen?_alloc_old _ _ t (by simp <;> omega), World.frozen?_alloc_old _ _ t (Nat.ne_of_lt htl)]; exact hf0
  have el := elemVP ⟨w.heap.size, 0, none⟩ t W3 k0
  have st := setE t ⟨w.heap.size + 1 + 1 + 1, 0, none⟩ n old (W3.alloc (.cells #[.int .i64 n] 38)) (by rw [← ksz]; simp)
    (by rw [World.cell?_alloc_lt _ _ t (by omega)]; exact k1) (by rw [World.frozen?_alloc_old _ _ t (by omega)]; exact k2)
  subst hW3
  clear k0 k1 k2 ksz
  go_enter Tryd.func29, Tryd.ntmps29
  go_wp2
  refine wp_loop_rounds 1 ?_
  rw [rounds_succ]
  go_wp2
  go_ret
  exact ⟨rfl, _, _, _, _, rfl⟩

/-- What is told of an error. -/
theorem told_nil (w : World) : Calls Tryd.prog 13 #[.nilIface] w fun e w' => e = .returned (.int .i64 0) ∧ w' = w := by
  go_enter Tryd.func13, Tryd.ntmps13
  go_wp2
  go_ret
  exact ⟨rfl, rfl⟩

theorem told_errno (n : Int) (w : World) (hg : w.cell? ⟨0, 0, none⟩ = some (.iface 109 (.agg #[.pointer (some ⟨3, 27, none⟩)]))) :
    Calls Tryd.prog 13 #[.iface 38 (.int .i64 n)] w fun e w' => e = .returned (.int .i64 n) ∧ Below w.heap.size w w' := by
  go_enter Tryd.func13, Tryd.ntmps13
  go_wp2_with fail
  have hlt : 0 < w.heap.size := World.block_lt_of_cell? _ _ hg
  refine (as_hit n ⟨w.heap.size, 0, none⟩ (.int .i64 0) _ (by rw [World.cell?_alloc_lt _ _ _ hlt]; exact hg) (by simp) (by simp)).mono ?_
  rintro e w' ⟨rfl, o1, o2, o3, o4, hw⟩
  have hc : w'.cell? ⟨w.heap.size, 0, none⟩ = some (.int .i64 n) := by
    rw [hw]
    refine World.cell?_setCell_same _ _ _ (?_ : _ = some (.int .i64 0))
    rw [World.cell?_alloc_lt _ _ _ (by simp <;> omega), World.cell?_alloc_lt _ _ _ (by simp <;> omega), World.cell?_alloc_lt _ _ _ (by simp <;> omega), World.cell?_alloc_lt _ _ _ (by simp)]
    simp
  have hb : Below w.heap.size w w' := by
    rw [hw]
    refine Below.setCell (p := ⟨w.heap.size, 0, none⟩) ?_ (Nat.le_refl w.heap.size) _
    exact ((((((Below.refl _ _).alloc (Nat.le_refl _) _).alloc (by simp) _).alloc (by simp <;> omega) _).alloc (by simp <;> omega) _).alloc (by simp <;> omega) _)
  clear hw o1 o2 o3 o4
  go_wp2
  go_ret
  exact ⟨rfl, hb⟩

theorem error_nil (m : Int) (w : World) : Calls Tryd.prog 6 #[.nilIface, .int .i64 m] w fun e w' => e = .returned (.bool ((0 : Int) == m)) ∧ w' = w := by
  go_enter Tryd.func6, Tryd.ntmps6
  go_wp2_with fail
  refine (told_nil _).mono ?_
  rintro e w' ⟨rfl, hw⟩
  rw [hw]; clear hw w'
  go_wp2
  go_ret
  exact ⟨rfl, rfl⟩

theorem error_errno (n m : Int) (w : World) (h1 : -9223372036854775808 ≤ n) (h2 : n ≤ 9223372036854775807) (hg : w.cell? ⟨0, 0, none⟩ = some (.iface 109 (.agg #[.pointer (some ⟨3, 27, none⟩)]))) :
    Calls Tryd.prog 6 #[.iface 38 (.int .i64 n), .int .i64 m] w fun e w' => e = .returned (.bool (n == m)) ∧ Below w.heap.size w w' := by
  go_enter Tryd.func6, Tryd.ntmps6
  go_wp2_with fail
  refine (told_errno n _ hg).mono ?_
  rintro e w' ⟨rfl, hb⟩
  go_wp2
  go_ret
  exact ⟨rfl, hb⟩
end Go.Proofs.YtchpobnfejfegaaDoor

namespace Go.Proofs.YtchpobnfejfegaaDoor
set_option linter.unusedVariables false
open Go.RowKit

/-- The variable for the type of errors is as it is laid. -/
def ErrT (w : World) : Prop := w.cell? ⟨0, 0, none⟩ = some (.iface 109 (.agg #[.pointer (some ⟨3, 27, none⟩)]))
theorem ErrT.lt {w : World} (h : ErrT w) : 0 < w.heap.size := World.block_lt_of_cell? _ _ h
theorem ErrT.below {w w' : World} {B : Nat} (h : ErrT w) (hb : Below B w w') (hB : w.heap.size ≤ B) : ErrT w' := by
  unfold ErrT
  rw [hb.cell (p := ⟨0, 0, none⟩) (Nat.lt_of_lt_of_le h.lt hB)]
  exact h

/-- An error and its number. -/
def ErrIs (E : Value) (c : Int) : Prop := (E = .nilIface ∧ c = 0) ∨ (E = .iface 38 (.int .i64 c) ∧ -9223372036854775808 ≤ c ∧ c ≤ 9223372036854775807)

theorem err_true {E : Value} {c : Int} (h : ErrIs E c) (w : World) (hg : ErrT w) :
    Calls Tryd.prog 6 #[E, .int .i64 c] w fun e w' => e = .returned (.bool true) ∧ Below w.heap.size w w' := by
  rcases h with ⟨rfl, rfl⟩ | ⟨rfl, h1, h2⟩
  · refine (error_nil 0 w).mono ?_
    rintro e w' ⟨rfl, rfl⟩
    exact ⟨rfl, Below.refl _ _⟩
  · refine (error_errno c c w h1 h2 hg).mono ?_
    rintro e w' ⟨rfl, hb⟩
    exact ⟨by simp, hb⟩

end Go.Proofs.YtchpobnfejfegaaDoor

namespace Go.Proofs.YtchpobnfejfegaaDoor
set_option linter.unusedVariables false
set_option linter.unusedSimpArgs false
set_option maxRecDepth 100000
open Go.RowKit Go.Lib Big

/-- The shares, or none. -/
def shL (t : Int) (l : List Int) : List Int := if shBad l = 0 then (List.range l.length).map (shareI t l) else []
/-- A slice of these numbers. -/
def HasW (w : World) (v : Value) (xs : List Int) : Prop := ∃ a cap, v = .slice a xs.length cap ∧ IsW w a xs cap
theorem HasW.ints {w : World} {v : Value} {xs : List Int} (h : HasW w v xs) : HasInts w v xs := by
  obtain ⟨a, c, e, hi⟩ := h
  refine ⟨a, c, e, ?_⟩
  rcases hi.lies with h0 | ⟨b, off, ea, _, hc⟩
  · exact .inl h0
  · exact .inr ⟨b, off, ea, hc⟩
theorem isW_nil (w : World) : IsW w none [] 0 := ⟨Nat.le_refl _, .inl rfl⟩
theorem refShares_any (t : Int) (a : Option Addr) (l : List Int) (cap : Nat) (w : World) (h : IsW w a l cap) (hl : l.length ≤ 9223372036854775807) (t1 : -9223372036854775808 ≤ t) (t2 : t ≤ 9223372036854775807) :
    Calls Tryd.prog 9 #[.int .i64 t, .slice a l.length cap] w fun e w' => ∃ v, e = .returned (.tuple #[v, .int .i64 (shBad l)]) ∧ Hid (Below w.heap.size w w' ∧ HasW w' v (shL t l)) := by
  by_cases hb : shBad l = 0
  · refine (refShares_ok t a l cap w h (shBad_zero hb) t1 t2).mono ?_
    rintro e w' ⟨g, c, rfl, hR⟩
    obtain ⟨r1, r2, r3, r4, r5⟩ := hR.out
    refine ⟨_, by rw [hb], r1, some ⟨g, 0, none⟩, c, ?_, ?_⟩
    · unfold shL; rw [if_pos hb]; simp
    · unfold shL; rw [if_pos hb]
      refine ⟨by simpa using r4, .inr ⟨g, 0, rfl, r3, fun k hk => ?_⟩⟩
      rw [Nat.zero_add, r5 k (by simpa using hk)]
      have hk' : k < l.length := by simpa using hk
      simp [List.getD_eq_getElem?_getD, hk']
  · refine (refShares_bad t a l cap w h hl hb).mono ?_
    rintro e w' ⟨rfl, rfl⟩
    refine ⟨_, rfl, Below.refl _ _, none, 0, ?_, ?_⟩
    · unfold shL; rw [if_neg hb]; rfl
    · unfold shL; rw [if_neg hb]; exact isW_nil _
theorem monShares_any (t : Int) (a : Option Addr) (l : List Int) (cap : Nat) (w : World) (h : IsW w a l cap) (hl : l.length ≤ 9223372036854775807) (ht : Math.I64 t) :
    Calls Tryd.prog 28 #[.int .i64 t, .slice a l.length cap] w fun e w' => ∃ v, e = .returned (.tuple #[v, shE (shBad l)]) ∧ Hid (Below w.heap.size w w' ∧ HasW w' v (shL t l)) := by
  refine (shares_any t a l cap w h hl ht).mono ?_
  rintro e w' ⟨hB, hbad, hok⟩
  by_cases hb : shBad l = 0
  · obtain ⟨g, hg, rfl, hN⟩ := hok hb
    refine ⟨_, by unfold shE; rw [if_pos hb], hB, some ⟨g, 0, none⟩, l.length, ?_, ?_⟩
    · unfold shL; rw [if_pos hb]; simp
    · unfold shL; rw [if_pos hb]
      exact hN.isW _ (by simp)
  · have he := hbad hb
    refine ⟨.slice none 0 0, by rw [he]; unfold shE; rw [if_neg hb], hB, none, 0, ?_, ?_⟩
    · unfold shL; rw [if_neg hb]; rfl
    · unfold shL; rw [if_neg hb]; exact isW_nil _
theorem shBad_is (l : List Int) : ErrIs (shE (shBad l)) (shBad l) := by
  unfold ErrIs shE
  by_cases hb : shBad l = 0
  · left; rw [if_pos hb]; exact ⟨rfl, hb⟩
  · right
    rw [if_neg hb]
    refine ⟨rfl, ?_⟩
    rw [shBad_def]
    split
    · omega
    · split
      · omega
      · split <;> omega
end Go.Proofs.YtchpobnfejfegaaDoor

namespace Go.Proofs.YtchpobnfejfegaaDoor
set_option linter.unusedVariables false
set_option linter.unusedSimpArgs false

/-- All sizes together. -/
def absS (l : List Int) : Int := (l.map sizeI).sum
/-- What comes to those behind. -/
def cameL (t : Int) (beh : List Int) : List Int := (List.range beh.length).map (shareI t beh)
def posB (x : Int) : Bool := decide (0 < x)
/-- One gives out what it has to those behind it. -/
def downL (has : List Int) (i : Nat) (beh : List Int) : List Int :=
  if beh.any posB = true then has.take i ++ 0 :: List.zipWith (· + ·) (has.drop (i + 1)) (cameL (has.getD i 0) beh) else has
/-- What each has behind the first steps. -/
def stepL (rows : Nat → List Int) (am : List Int) : Nat → List Int
  | 0 => am
  | k + 1 => downL (stepL rows am k) k ((rows k).drop (k + 1))

theorem has_parts (has : List Int) (i : Nat) (h : i < has.length) : has = has.take i ++ has.getD i 0 :: has.drop (i + 1) := by
  have h1 : has.drop i = has.getD i 0 :: has.drop (i + 1) := by
    rw [List.drop_eq_getElem_cons h, List.getD_eq_getElem?_getD, List.getElem?_eq_getElem h]; rfl
  rw [← h1, List.take_append_drop]
theorem came_len (t : Int) (beh : List Int) : (cameL t beh).length = beh.length := by simp [cameL]
theorem down_len {has : List Int} {i : Nat} {beh : List Int} (hi : i < has.length) (hb : beh.length = has.length - (i + 1)) : (downL has i beh).length = has.length := by
  unfold downL
  split
  · simp [came_len]; omega
  · rfl
theorem zip_sum : ∀ (a b : List Int), a.length = b.length → (List.zipWith (· + ·) a b).sum = a.sum + b.sum
  | [], [], _ => by simp
  | x :: a, y :: b, h => by
    have := zip_sum a b (by simpa using h)
    simp only [List.zipWith_cons_cons, List.sum_cons, this]
    omega
theorem size_add (x y : Int) : sizeI (x + y) ≤ sizeI x + sizeI y := by unfold sizeI; split <;> split <;> split <;> omega
theorem zip_abs : ∀ (a b : List Int), a.length = b.length → absS (List.zipWith (· + ·) a b) ≤ absS a + absS b
  | [], [], _ => by simp [absS]
  | x :: a, y :: b, h => by
    have h1 := zip_abs a b (by simpa using h)
    have h2 := size_add x y
    simp only [absS, List.zipWith_cons_cons, List.map_cons, List.sum_cons] at h1 ⊢
    omega
theorem absS_append (a b : List Int) : absS (a ++ b) = absS a + absS b := by simp [absS]
theorem absS_cons (x : Int) (a : List Int) : absS (x :: a) = sizeI x + absS a := by simp [absS]
theorem absS_nonneg : ∀ a : List Int, 0 ≤ absS a
  | [] => by simp [absS]
  | x :: a => by rw [absS_cons]; have := absS_nonneg a; have := sizeI_nonneg x; omega
theorem size_le_abs {a : List Int} {x : Int} (h : x ∈ a) : sizeI x ≤ absS a := by
  induction a with
  | nil => cases h
  | cons y a ih =>
    rw [absS_cons]
    have h1 := absS_nonneg a
    have h2 := sizeI_nonneg y
    rcases List.mem_cons.1 h with rfl | h
    · omega
    · have := ih h; omega
theorem absS_pos : ∀ {l : List Int}, (∀ x ∈ l, 0 ≤ x) → absS l = l.sum
  | [], _ => by simp [absS]
  | x :: l, h => by
    have h1 := absS_pos (l := l) fun y hy => h y (List.mem_cons_of_mem _ hy)
    have h2 := h x (List.mem_cons_self ..)
    rw [absS_cons, h1, List.sum_cons]
    unfold sizeI; rw [if_neg (by omega)]
theorem absS_neg : ∀ {l : List Int}, (∀ x ∈ l, x ≤ 0) → absS l = -l.sum
  | [], _ => by simp [absS]
  | x :: l, h => by
    have h1 := absS_neg (l := l) fun y hy => h y (List.mem_cons_of_mem _ hy)
    have h2 := h x (List.mem_cons_self ..)
    rw [absS_cons, h1, List.sum_cons]
    unfold sizeI; split <;> omega
theorem came_sum {t : Int} {beh : List Int} (h : GoodW beh) : (cameL t beh).sum = t := share_sum h
theorem came_mem {t : Int} {beh : List Int} {x : Int} (hx : x ∈ cameL t beh) : ∃ i, i < beh.length ∧ x = shareI t beh i := by
  obtain ⟨i, h1, h2⟩ := List.mem_map.1 hx
  exact ⟨i, List.mem_range.1 h1, h2.symm⟩
theorem came_abs {t : Int} {beh : List Int} (h : GoodW beh) : absS (cameL t beh) = sizeI t := by
  by_cases ht : 0 ≤ t
  · rw [absS_pos fun x hx => by obtain ⟨i, h1, rfl⟩ := came_mem hx; exact ((share_bd h h1).1 ht).1, came_sum h]
    unfold sizeI; rw [if_neg (by omega)]
  · rw [absS_neg fun x hx => by obtain ⟨i, h1, rfl⟩ := came_mem hx; exact ((share_bd h h1).2 (by omega)).2, came_sum h]
    unfold sizeI; rw [if_pos (by omega)]
theorem good_beh {beh : List Int} (hl : beh.length ≤ 40) (hw : ∀ x ∈ beh, 0 ≤ x ∧ x ≤ 1000000000) (hp : beh.any posB = true) : GoodW beh := by
  refine ⟨hl, hw, ?_⟩
  obtain ⟨x, hx, h1⟩ := List.any_eq_true.1 hp
  have h2 : 0 < x := of_decide_eq_true h1
  have h3 := mem_le_sum (fun y hy => (hw y hy).1) hx
  omega
/-- Nothing is lost, and nothing grows. -/
theorem down_keeps {has : List Int} {i : Nat} {beh : List Int} (hi : i < has.length) (hb : beh.length = has.length - (i + 1)) (hl : beh.length ≤ 40) (hw : ∀ x ∈ beh, 0 ≤ x ∧ x ≤ 1000000000) : (downL has i beh).sum = has.sum ∧ absS (downL has i beh) ≤ absS has := by
  unfold downL
  split
  · rename_i hp
    have hG := good_beh hl hw hp
    have e := has_parts has i hi
    have hz : (has.drop (i + 1)).length = (cameL (has.getD i 0) beh).length := by rw [came_len, List.length_drop, hb]
    have s1 := zip_sum _ _ hz
    have s2 := zip_abs _ _ hz
    rw [came_sum hG] at s1
    rw [came_abs hG] at s2
    have t1 : has.sum = (has.take i).sum + (has.getD i 0 + (has.drop (i + 1)).sum) := by
      rw [← List.sum_cons, ← List.sum_append, ← e]
    have t2 : absS has = absS (has.take i) + (sizeI (has.getD i 0) + absS (has.drop (i + 1))) := by
      rw [← absS_cons, ← absS_append, ← e]
    refine ⟨?_, ?_⟩
    · rw [List.sum_append, List.sum_cons, s1]; omega
    · rw [absS_append, absS_cons]
      have : sizeI 0 = 0 := rfl
      omega
  · exact ⟨rfl, Int.le_refl _⟩
/-- What is asked of the weights. -/
def GoodR (rows : Nat → List Int) (n : Nat) : Prop := n ≤ 20 ∧ ∀ k, k < n → (rows k).length = n ∧ ∀ x ∈ rows k, 0 ≤ x ∧ x ≤ 1000000000
theorem step_keeps {rows : Nat → List Int} {am : List Int} (hr : GoodR rows am.length) : ∀ k, k ≤ am.length → (stepL rows am k).length = am.length ∧ (stepL rows am k).sum = am.sum ∧ absS (stepL rows am k) ≤ absS am
  | 0, _ => ⟨rfl, rfl, Int.le_refl _⟩
  | k + 1, hk => by
    obtain ⟨h1, h2, h3⟩ := step_keeps hr k (by omega)
    obtain ⟨g1, g2⟩ := hr.2 k (by omega)
    have hb : ((rows k).drop (k + 1)).length = (stepL rows am k).length - (k + 1) := by rw [List.length_drop, g1, h1]
    have hn := hr.1
    obtain ⟨d1, d2⟩ := down_keeps (has := stepL rows am k) (i := k) (by omega) hb (by rw [List.length_drop, g1]; omega) (fun x hx => g2 x (List.mem_of_mem_drop hx))
    refine ⟨?_, ?_, ?_⟩
    · show (downL _ _ _).length = _
      rw [down_len (by omega) hb, h1]
    · show (downL _ _ _).sum = _
      rw [d1, h2]
    · show absS (downL _ _ _) ≤ _
      omega
theorem abs_le : ∀ {l : List Int} {M : Int}, (∀ x ∈ l, sizeI x ≤ M) → absS l ≤ M * l.length
  | [], M, _ => by simp [absS]
  | x :: l, M, h => by
    have h1 := abs_le (l := l) (M := M) fun y hy => h y (List.mem_cons_of_mem _ hy)
    have h2 := h x (List.mem_cons_self ..)
    rw [absS_cons, List.length_cons, Int.natCast_add, Int.mul_add]
    omega
/-- Between the rounds of a step. -/
def midL (has : List Int) (i : Nat) (beh : List Int) (k : Nat) : List Int := has.take i ++ 0 :: ((List.zipWith (· + ·) (has.drop (i + 1)) (cameL (has.getD i 0) beh)).take k ++ (has.drop (i + 1)).drop k)
theorem mid_zero (has : List Int) (i : Nat) (beh : List Int) (hi : i < has.length) : midL has i beh 0 = has.set i 0 := by
  unfold midL
  rw [List.take_zero, List.nil_append, List.drop_zero]
  conv => rhs; rw [has_parts has i hi]
  rw [List.set_append_right _ _ (by rw [List.length_take]; omega), List.length_take, Nat.min_eq_left (by omega), Nat.sub_self]
  rfl
theorem mid_len (has : List Int) (i : Nat) (beh : List Int) (k : Nat) (hi : i < has.length) (hb : beh.length = has.length - (i + 1)) (hk : k ≤ beh.length) : (midL has i beh k).length = has.length := by
  unfold midL
  simp [came_len]
  omega
theorem mid_at (has : List Int) (i : Nat) (beh : List Int) (k : Nat) (hi : i < has.length) (hb : beh.length = has.length - (i + 1)) (hk : k < beh.length) : (midL has i beh k).getD (i + 1 + k) 0 = (has.drop (i + 1)).getD k 0 := by
  unfold midL
  have hz : (List.zipWith (· + ·) (has.drop (i + 1)) (cameL (has.getD i 0) beh)).length = beh.length := by simp [came_len]; omega
  rw [List.getD_eq_getElem?_getD, List.getElem?_append_right (by rw [List.length_take]; omega), List.length_take, Nat.min_eq_left (by omega), show i + 1 + k - i = k + 1 by omega, List.getElem?_cons_succ, List.getElem?_append_right (by rw [List.length_take, hz]; omega), List.length_take, hz, Nat.min_eq_left (by omega), Nat.sub_self, List.getElem?_drop, ← List.getD_eq_getElem?_getD]
  rfl
theorem mid_next (has : List Int) (i : Nat) (beh : List Int) (k : Nat) (hi : i < has.length) (hb : beh.length = has.length - (i + 1)) (hk : k < beh.length) : (midL has i beh k).set (i + 1 + k) ((has.drop (i + 1)).getD k 0 + shareI (has.getD i 0) beh k) = midL has i beh (k + 1) := by
  have hz : (List.zipWith (· + ·) (has.drop (i + 1)) (cameL (has.getD i 0) beh)).length = beh.length := by simp [came_len]; omega
  have hd : (has.drop (i + 1)).length = beh.length := by rw [List.length_drop, hb]
  have e1 : (List.zipWith (· + ·) (has.drop (i + 1)) (cameL (has.getD i 0) beh)).take (k + 1) = (List.zipWith (· + ·) (has.drop (i + 1)) (cameL (has.getD i 0) beh)).take k ++ [(has.drop (i + 1)).getD k 0 + shareI (has.getD i 0) beh k] := by
    rw [List.take_succ_eq_append_getElem (by rw [hz]; exact hk)]
    congr 2
    have q : (has.drop (i + 1)).getD k 0 = (has.drop (i + 1))[k]'(by rw [hd]; exact hk) := by
      rw [List.getD_eq_getElem?_getD, List.getElem?_eq_getElem (by rw [hd]; exact hk)]; rfl
    rw [q, List.getElem_zipWith]
    simp [cameL]
  have e2 : (has.drop (i + 1)).drop k = (has.drop (i + 1)).getD k 0 :: (has.drop (i + 1)).drop (k + 1) := by
    rw [List.drop_eq_getElem_cons (by rw [hd]; exact hk), List.getD_eq_getElem?_getD, List.getElem?_eq_getElem (by rw [hd]; exact hk)]
    rfl
  unfold midL
  rw [e1, e2, List.set_append_right _ _ (by rw [List.length_take]; omega), List.length_take, Nat.min_eq_left (by omega), show i + 1 + k - i = k + 1 by omega, List.set_cons_succ, List.set_append_right _ _ (by rw [List.length_take, hz]; omega), List.length_take, hz, Nat.min_eq_left (by omega), Nat.sub_self, List.set_cons_zero, List.append_assoc]
  rfl
theorem mid_all (has : List Int) (i : Nat) (beh : List Int) (hb : beh.length = has.length - (i + 1)) (hp : beh.any posB = true) : midL has i beh beh.length = downL has i beh := by
  have hz : (List.zipWith (· + ·) (has.drop (i + 1)) (cameL (has.getD i 0) beh)).length = beh.length := by simp [came_len]; omega
  have h1 : (List.zipWith (· + ·) (has.drop (i + 1)) (cameL (has.getD i 0) beh)).take beh.length = List.zipWith (· + ·) (has.drop (i + 1)) (cameL (has.getD i 0) beh) := List.take_of_length_le (by omega)
  have h2 : (has.drop (i + 1)).drop beh.length = [] := List.drop_eq_nil_of_le (by rw [List.length_drop]; omega)
  unfold midL downL
  rw [if_pos hp, h1, h2, List.append_nil]
end Go.Proofs.YtchpobnfejfegaaDoor
