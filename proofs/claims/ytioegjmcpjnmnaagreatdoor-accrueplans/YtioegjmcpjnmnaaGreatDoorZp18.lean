/-
  What is wrong with any plans, their parts, and the entries of any entity and period: for every chart, all plans, every entity and period the call of daylaw3.AccruePlans returns true, and its arguments read as they did. The library's tables and its variable for the type of errors are as the program's text lays them (the card ties them). No other condition.
-/
import Derived.Test.YtioegjmcpjnmnaaGreatDoorProg
import Derived.WalkKit
import Derived.WalkSpells
import Derived.LaidEql
import Derived.Stop.Asserts
import Derived.RowKitTokens
import Derived.Below
import Derived.Test.YtioegjmcpjnmnaaGreatDoorZp17
import Derived.Test.YtioegjmcpjnmnaaGreatDoorZp1
import Derived.Deep.Slices
import Derived.OpenShut
import Derived.Test.YtioegjmcpjnmnaaGreatDoorZp0
import Derived.Test.YtioegjmcpjnmnaaGreatDoorRows
import Derived.Test.YtioegjmcpjnmnaaGreatDoorCards
import Derived.Test.YtioegjmcpjnmnaaGreatDoorTie
import Derived.ChangeSame
import Derived.ChangeVars
import Derived.JoinedOf
import Derived.RowKit
import Derived.LaidLaws
import Derived.LaidHandle
import Derived.Stop.Joined
import Derived.SevenTiedAt
import Derived.ProofKit
import Derived.ShutString
import Derived.ChangeOld
import Derived.SizedLaws
import Derived.Lib.LaidTab
import Derived.Stop.LaidErr
namespace Go.Proofs.YtioegjmcpjnmnaaGreatDoor
set_option linter.unusedVariables false
open Go.RowKit Go.Extern.Stop Go.Stop Go.Extern

theorem valueOfP (t : Addr) (w : World) : (ReflectliteValue.unpack (.iface 68 (.pointer (some t)))).run Tryz.prog w
    = .ok (.agg #[.pointer (some ⟨4, 68, none⟩), .pointer (some ⟨w.heap.size, 0, none⟩), .int .u64 150]) (w.alloc (.cells #[.pointer (some t)] 68)) := by kernel_rfl
theorem typeP (a : Addr) (w : World) : (ReflectliteValue.methodAny (ReflectliteValue.valueError "reflectlite.Value.Type" 0) (fun t _ _ _ => ReflectliteType.toType t) #[.agg #[.pointer (some ⟨4, 68, none⟩), .pointer (some a), .int .u64 150]]).run Tryz.prog w
    = .ok (.iface 122 (.agg #[.pointer (some ⟨4, 68, none⟩)])) w := by kernel_rfl
theorem methodKind (h : Value) (w : World) : (Go.method 287 122 (.agg #[h]) "Kind").run Tryz.prog w = .ok (127, h) w := by kernel_rfl
theorem kindP (w : World) : ((ReflectliteType.abiMethod fun t => Functor.map (fun a : Nat => Value.int IntKind.u8 (a : Int)) (Rtype.kind t)) #[.pointer (some ⟨4, 68, none⟩)]).run Tryz.prog w = .ok (.int .u8 22) w := by kernel_rfl
theorem kindE (w : World) : ((ReflectliteType.abiMethod fun t => Functor.map (fun a : Nat => Value.int IntKind.u8 (a : Int)) (Rtype.kind t)) #[.pointer (some ⟨4, 43, none⟩)]).run Tryz.prog w = .ok (.int .u8 2) w := by kernel_rfl
theorem rlm (z : Sem Value) (f : TypeId → Addr → Nat → Nat → Sem Value) (v : Value) :
    ReflectliteValue.method z f #[v] = (do match ← ReflectliteValue.parts v with | none => z | some (t, a, fl) => f t a fl (fl % 32)) := rfl
theorem partsP (a : Addr) (w : World) : (ReflectliteValue.parts (.agg #[.pointer (some ⟨4, 68, none⟩), .pointer (some a), .int .u64 150])).run Tryz.prog w = .ok (some (68, a, 150)) w := by kernel_rfl
theorem isNilP (a p : Addr) (W : World) (ha : W.cell? a = some (.pointer (some p))) :
    (ReflectliteValue.method (ReflectliteValue.valueError "reflectlite.Value.IsNil" 0) ReflectliteValue.isNil #[.agg #[.pointer (some ⟨4, 68, none⟩), .pointer (some a), .int .u64 150]]).run Tryz.prog W = .ok (.bool false) W := by
  rw [rlm]
  simp only [Sem.run_bind, partsP, Result.andThen]
  simp [ReflectliteValue.isNil, loadVar, isAgg, underlying, Tryz.underlying68, ha, Result.andThen]
theorem methodElem (h : Value) (w : World) : (Go.method 287 122 (.agg #[h]) "Elem").run Tryz.prog w = .ok (138, .agg #[h]) w := by kernel_rfl
theorem methodImplements (h : Value) (w : World) : (Go.method 287 122 (.agg #[h]) "Implements").run Tryz.prog w = .ok (139, .agg #[h]) w := by kernel_rfl
theorem methodAssignableTo (h : Value) (w : World) : (Go.method 287 122 (.agg #[h]) "AssignableTo").run Tryz.prog w = .ok (136, .agg #[h]) w := by kernel_rfl
theorem elemP (w : World) : (ReflectliteType.method ReflectliteType.elem #[.agg #[.pointer (some ⟨4, 68, none⟩)]]).run Tryz.prog w = .ok (.iface 122 (.agg #[.pointer (some ⟨4, 43, none⟩)])) w := by kernel_rfl
theorem implementsE (w : World) : (ReflectliteType.relation "Implements" ReflectliteType.implements_ #[.agg #[.pointer (some ⟨4, 43, none⟩)], .iface 122 (.agg #[.pointer (some ⟨4, 26, none⟩)])]).run Tryz.prog w = .ok (.bool true) w := by kernel_rfl
theorem typeOfE (v : Value) (w : World) : (ReflectliteType.typeOf #[.iface 43 v]).run Tryz.prog w = .ok (.iface 122 (.agg #[.pointer (some ⟨4, 43, none⟩)])) w := by kernel_rfl
theorem assignableE (w : World) : (ReflectliteType.relation "AssignableTo" ReflectliteType.assignableTo #[.agg #[.pointer (some ⟨4, 43, none⟩)], .iface 122 (.agg #[.pointer (some ⟨4, 43, none⟩)])]).run Tryz.prog w = .ok (.bool true) w := by kernel_rfl
theorem valueOfE (n : Int) (w : World) : (ReflectliteValue.unpack (.iface 43 (.int .i64 n))).run Tryz.prog w
    = .ok (.agg #[.pointer (some ⟨4, 43, none⟩), .pointer (some ⟨w.heap.size, 0, none⟩), .int .u64 130]) (w.alloc (.cells #[.int .i64 n] 43)) := by kernel_rfl
theorem elemOfP (w : World) : (Rtype.elem? 68).run Tryz.prog w = .ok (some 43) w := by kernel_rfl
theorem mkE (p : Addr) (w : World) : (ReflectliteValue.mk 43 p ReflectliteValue.flagAddr).run Tryz.prog w = .ok (.agg #[.pointer (some ⟨4, 43, none⟩), .pointer (some p), .int .u64 386]) w := by kernel_rfl
theorem elemVP (a p : Addr) (W : World) (ha : W.cell? a = some (.pointer (some p))) :
    (ReflectliteValue.method (ReflectliteValue.valueError "reflectlite.Value.Elem" 0) ReflectliteValue.elem #[.agg #[.pointer (some ⟨4, 68, none⟩), .pointer (some a), .int .u64 150]]).run Tryz.prog W
      = .ok (.agg #[.pointer (some ⟨4, 43, none⟩), .pointer (some p), .int .u64 386]) W := by
  rw [rlm]
  simp only [Sem.run_bind, partsP, Result.andThen]
  simp [ReflectliteValue.elem, loadVar, isAgg, underlying, Tryz.underlying68, ha, Result.andThen, elemOfP, mkE]
theorem rls (v x : Value) : ∃ s1 s2 s3 s4 s5 : String, ReflectliteValue.set #[v, x] = (do
    let (some (dst, a, fl), some (src, b, _)) := (← ReflectliteValue.parts v, ← ReflectliteValue.parts x)
      | unsupported (.noEntry s1)
    if fl / ReflectliteValue.flagAddr % 2 == 0 then unsupported (.noEntry s2)
    let val ← loadVar src b
    if ← Rtype.directlyAssignable dst src then storeVar dst a val
    else if ← Rtype.implements dst src then
      if (← Rtype.kind src) == 20 then
        match val with
        | .nilIface => unsupported (.noEntry s3)
        | _ => storeVar dst a val
      else storeVar dst a (.iface src val)
    else panicString (s4 ++ (← Rtype.spelt src) ++ s5 ++ (← Rtype.spelt dst))
    pure (.tuple #[])) := ⟨_, _, _, _, _, rfl⟩
theorem partsEa (a : Addr) (w : World) : (ReflectliteValue.parts (.agg #[.pointer (some ⟨4, 43, none⟩), .pointer (some a), .int .u64 386])).run Tryz.prog w = .ok (some (43, a, 386)) w := by kernel_rfl
theorem partsE (a : Addr) (w : World) : (ReflectliteValue.parts (.agg #[.pointer (some ⟨4, 43, none⟩), .pointer (some a), .int .u64 130])).run Tryz.prog w = .ok (some (43, a, 130)) w := by kernel_rfl
theorem directE (w : World) : (Rtype.directlyAssignable 43 43).run Tryz.prog w = .ok true w := by kernel_rfl
theorem setE (ta b : Addr) (n : Int) (old : Value) (W : World) (hb : W.cell? b = some (.int .i64 n)) (ht : W.cell? ta = some old) (hf : W.frozen? ta = false) :
    (ReflectliteValue.set #[.agg #[.pointer (some ⟨4, 43, none⟩), .pointer (some ta), .int .u64 386], .agg #[.pointer (some ⟨4, 43, none⟩), .pointer (some b), .int .u64 130]]).run Tryz.prog W
      = .ok (.tuple #[]) (W.setCell ta (.int .i64 n)) := by
  obtain ⟨s1, s2, s3, s4, s5, h⟩ := rls (.agg #[.pointer (some ⟨4, 43, none⟩), .pointer (some ta), .int .u64 386]) (.agg #[.pointer (some ⟨4, 43, none⟩), .pointer (some b), .int .u64 130])
  rw [h]
  simp only [Sem.run_bind, partsEa, partsE, Result.andThen]
  simp [ReflectliteValue.flagAddr, loadVar, isAgg, underlying, Tryz.underlying43, hb, Result.andThen, directE, storeVar, Value.cells, storeCells, Addr.add]
  rw [run_store Tryz.prog W ta _ _ (by rfl)]
  simp [ht, hf]
end Go.Proofs.YtioegjmcpjnmnaaGreatDoor

namespace Go.Proofs.YtioegjmcpjnmnaaGreatDoor
set_option linter.unusedVariables false
open Go.RowKit Go.Extern.Stop Go.Stop Go.Extern

theorem as_nil (t : Value) (w : World) :
    Calls Tryz.prog 37 #[.nilIface, t] w fun e w' => e = .returned (.bool false) ∧ w' = w := by
  go_enter Tryz.func37, Tryz.ntmps37
  go_wp2
  go_ret
  exact ⟨rfl, rfl⟩

set_option maxHeartbeats 4000000 in
theorem as_hit (n : Int) (t : Addr) (old : Value) (w : World) (hg : w.cell? ⟨0, 0, none⟩ = some (.iface 122 (.agg #[.pointer (some ⟨4, 26, none⟩)]))) (ht0 : w.cell? t = some old) (hf0 : w.frozen? t = false) :
    Calls Tryz.prog 37 #[.iface 43 (.int .i64 n), .iface 68 (.pointer (some t))] w fun ev w' => ev = .returned (.bool true) ∧ ∃ o1 o2 o3 o4, w' = ((((w.alloc o1).alloc o2).alloc o3).alloc o4).setCell t (.int .i64 n) := by
  have h6 := @run_callFunc_extern Tryz.prog 60 _ (fun args => ReflectliteValue.unpack (args.getD 0 (.tuple #[]))) Tryz.func60 (by kernel_rfl) (by kernel_rfl) (by kernel_rfl) (by kernel_rfl)
  have h7 := @run_callFunc_extern Tryz.prog 61 _ (ReflectliteValue.methodAny (ReflectliteValue.valueError "reflectlite.Value.Type" 0) (fun t _ _ _ => ReflectliteType.toType t)) Tryz.func61 (by kernel_rfl) (by kernel_rfl) (by kernel_rfl) (by kernel_rfl)
  have h8 := @run_callFunc_extern Tryz.prog 62 _ (ReflectliteValue.method (ReflectliteValue.valueError "reflectlite.Value.IsNil" 0) ReflectliteValue.isNil) Tryz.func62 (by kernel_rfl) (by kernel_rfl) (by kernel_rfl) (by kernel_rfl)
  have h27 := @run_callFunc_extern Tryz.prog 127 _ (ReflectliteType.abiMethod fun t => do pure (.int .u8 (← Rtype.kind t))) Tryz.func127 (by kernel_rfl) (by kernel_rfl) (by kernel_rfl) (by kernel_rfl)
  have h37 := @run_callFunc_extern Tryz.prog 138 _ (ReflectliteType.method ReflectliteType.elem) Tryz.func138 (by kernel_rfl) (by kernel_rfl) (by kernel_rfl) (by kernel_rfl)
  have h38 := @run_callFunc_extern Tryz.prog 139 _ (ReflectliteType.relation "Implements" ReflectliteType.implements_) Tryz.func139 (by kernel_rfl) (by kernel_rfl) (by kernel_rfl) (by kernel_rfl)
  have h10 := @run_callFunc_extern Tryz.prog 82 _ ReflectliteType.typeOf Tryz.func82 (by kernel_rfl) (by kernel_rfl) (by kernel_rfl) (by kernel_rfl)
  have h35 := @run_callFunc_extern Tryz.prog 136 _ (ReflectliteType.relation "AssignableTo" ReflectliteType.assignableTo) Tryz.func136 (by kernel_rfl) (by kernel_rfl) (by kernel_rfl) (by kernel_rfl)
  have h11 := @run_callFunc_extern Tryz.prog 83 _ (ReflectliteValue.method (ReflectliteValue.valueError "reflectlite.Value.Elem" 0) ReflectliteValue.elem) Tryz.func83 (by kernel_rfl) (by kernel_rfl) (by kernel_rfl) (by kernel_rfl)
  have h12 := @run_callFunc_extern Tryz.prog 84 _ ReflectliteValue.set Tryz.func84 (by kernel_rfl) (by kernel_rfl) (by kernel_rfl) (by kernel_rfl)
  have tO := typeOfE
  have mA := methodAssignableTo
  have aE := assignableE
  have vE := valueOfE
  have f6 := valueOfP
  have f7 := typeP
  have mK := methodKind
  have mE := methodElem
  have mI := methodImplements
  have kP := kindP
  have kE := kindE
  have eP := elemP
  have iE := implementsE
  have n8 := isNilP ⟨w.heap.size, 0, none⟩ t ((w.alloc (.cells #[.pointer (some t)] 68)).alloc (.cells #[.pointer (some ⟨4, 68, none⟩), .pointer (some ⟨w.heap.size, 0, none⟩), .int .u64 150] 97)) (by simp)
  have hlt : 0 < w.heap.size := World.block_lt_of_cell? _ _ hg
  have hg2 : ((w.alloc (.cells #[.pointer (some t)] 68)).alloc (.cells #[.pointer (some ⟨4, 68, none⟩), .pointer (some ⟨w.heap.size, 0, none⟩), .int .u64 150] 97)).cell? ⟨0, 0, none⟩ = some (.iface 122 (.agg #[.pointer (some ⟨4, 26, none⟩)])) := by
    rw [World.cell?_alloc_lt _ _ ⟨0, 0, none⟩ (by simp <;> omega), World.cell?_alloc_lt _ _ ⟨0, 0, none⟩ hlt]; exact hg
  have htl : t.block < w.heap.size := World.block_lt_of_cell? _ _ ht0
  generalize hW3 : (((w.alloc (.cells #[.pointer (some t)] 68)).alloc (.cells #[.pointer (some ⟨4, 68, none⟩), .pointer (some ⟨w.heap.size, 0, none⟩), .int .u64 150] 97)).alloc (.cells #[.pointer (some ⟨4, 68, none⟩), .pointer (some ⟨w.heap.size, 0, none⟩), .int .u64 150] 97)) = W3
  have k0 : W3.cell? ⟨w.heap.size, 0, none⟩ = some (.pointer (some t)) := by
    rw [← hW3, World.cell?_alloc_lt _ _ _ (by simp <;> omega), World.cell?_alloc_lt _ _ _ (by simp)]; simp
  have ksz : W3.heap.size = w.heap.size + 1 + 1 + 1 := by rw [← hW3]; simp
  have k1 : W3.cell? t = some old := by
    rw [← hW3, World.cell?_alloc_lt _ _ t (by simp <;> omega), World.cell?_alloc_lt _ _ t (by simp <;> omega), World.cell?_alloc_lt _ _ t htl]; exact ht0
  have k2 : W3.frozen? t = false := by
    rw [← hW3, World.frozen?_alloc_old _ _ t (by simp <;> omega), World.frozen?_alloc_old _ _ t (by simp <;> omega), World.frozen?_alloc_old _ _ t (Nat.ne_of_lt htl)]; exact hf0
  have el := elemVP ⟨w.heap.size, 0, none⟩ t W3 k0
  have st := setE t ⟨w.heap.size + 1 + 1 + 1, 0, none⟩ n old (W3.alloc (.cells #[.int .i64 n] 43)) (by rw [← ksz]; simp)
    (by rw [World.cell?_alloc_lt _ _ t (by omega)]; exact k1) (by rw [World.frozen?_alloc_old _ _ t (by omega)]; exact k2)
  subst hW3
  clear k0 k1 k2 ksz
  go_enter Tryz.func37, Tryz.ntmps37
  go_wp2
  refine wp_loop_rounds 1 ?_
  rw [rounds_succ]
  go_wp2
  go_ret
  exact ⟨rfl, _, _, _, _, rfl⟩

/-- What is told of an error. -/
theorem told_nil (w : World) : Calls Tryz.prog 14 #[.nilIface] w fun e w' => e = .returned (.int .i64 0) ∧ w' = w := by
  go_enter Tryz.func14, Tryz.ntmps14
  go_wp2
  go_ret
  exact ⟨rfl, rfl⟩

theorem told_errno (n : Int) (w : World) (hg : w.cell? ⟨0, 0, none⟩ = some (.iface 122 (.agg #[.pointer (some ⟨4, 26, none⟩)]))) :
    Calls Tryz.prog 14 #[.iface 43 (.int .i64 n)] w fun e w' => e = .returned (.int .i64 n) ∧ Below w.heap.size w w' := by
  go_enter Tryz.func14, Tryz.ntmps14
  go_wp2_with fail
  have hlt : 0 < w.heap.size := World.block_lt_of_cell? _ _ hg
  refine (as_hit n ⟨w.heap.size, 0, none⟩ (.int .i64 0) _ (by rw [World.cell?_alloc_lt _ _ _ hlt]; exact hg) (by simp) (by simp)).mono ?_
  rintro e w' ⟨rfl, o1, o2, o3, o4, hw⟩
  have hc : w'.cell? ⟨w.heap.size, 0, none⟩ = some (.int .i64 n) := by
    rw [hw]
    refine World.cell?_setCell_same _ _ _ (?_ : _ = some (.int .i64 0))
    rw [World.cell?_alloc_lt _ _ _ (by simp <;> omega), World.cell?_alloc_lt _ _ _ (by simp <;> omega), World.cell?_alloc_lt _ _ _ (by simp <;> omega), World.cell?_alloc_lt _ _ _ (by simp)]
    simp
  have hb : Below w.heap.size w w' := by
    rw [hw]
    refine Below.setCell (p := ⟨w.heap.size, 0, none⟩) ?_ (Nat.le_refl w.heap.size) _
    exact ((((((Below.refl _ _).alloc (Nat.le_refl _) _).alloc (by simp) _).alloc (by simp <;> omega) _).alloc (by simp <;> omega) _).alloc (by simp <;> omega) _)
  clear hw o1 o2 o3 o4
  go_wp2
  go_ret
  exact ⟨rfl, hb⟩

theorem error_nil (m : Int) (w : World) : Calls Tryz.prog 4 #[.nilIface, .int .i64 m] w fun e w' => e = .returned (.bool ((0 : Int) == m)) ∧ w' = w := by
  go_enter Tryz.func4, Tryz.ntmps4
  go_wp2_with fail
  refine (told_nil _).mono ?_
  rintro e w' ⟨rfl, hw⟩
  rw [hw]; clear hw w'
  go_wp2
  go_ret
  exact ⟨rfl, rfl⟩

theorem error_errno (n m : Int) (w : World) (h1 : -9223372036854775808 ≤ n) (h2 : n ≤ 9223372036854775807) (hg : w.cell? ⟨0, 0, none⟩ = some (.iface 122 (.agg #[.pointer (some ⟨4, 26, none⟩)]))) :
    Calls Tryz.prog 4 #[.iface 43 (.int .i64 n), .int .i64 m] w fun e w' => e = .returned (.bool (n == m)) ∧ Below w.heap.size w w' := by
  go_enter Tryz.func4, Tryz.ntmps4
  go_wp2_with fail
  refine (told_errno n _ hg).mono ?_
  rintro e w' ⟨rfl, hb⟩
  go_wp2
  go_ret
  exact ⟨rfl, hb⟩
end Go.Proofs.YtioegjmcpjnmnaaGreatDoor

namespace Go.Proofs.YtioegjmcpjnmnaaGreatDoor
set_option linter.unusedVariables false
open Go.RowKit

/-- The variable for the type of errors is as it is laid. -/
def ErrT (w : World) : Prop := w.cell? ⟨0, 0, none⟩ = some (.iface 122 (.agg #[.pointer (some ⟨4, 26, none⟩)]))
theorem ErrT.lt {w : World} (h : ErrT w) : 0 < w.heap.size := World.block_lt_of_cell? _ _ h
theorem ErrT.below {w w' : World} {B : Nat} (h : ErrT w) (hb : Below B w w') (hB : w.heap.size ≤ B) : ErrT w' := by
  unfold ErrT
  rw [hb.cell (p := ⟨0, 0, none⟩) (Nat.lt_of_lt_of_le h.lt hB)]
  exact h

/-- An error and its number. -/
def ErrIs (E : Value) (c : Int) : Prop := (E = .nilIface ∧ c = 0) ∨ (E = .iface 43 (.int .i64 c) ∧ -9223372036854775808 ≤ c ∧ c ≤ 9223372036854775807)

theorem err_true {E : Value} {c : Int} (h : ErrIs E c) (w : World) (hg : ErrT w) :
    Calls Tryz.prog 4 #[E, .int .i64 c] w fun e w' => e = .returned (.bool true) ∧ Below w.heap.size w w' := by
  rcases h with ⟨rfl, rfl⟩ | ⟨rfl, h1, h2⟩
  · refine (error_nil 0 w).mono ?_
    rintro e w' ⟨rfl, rfl⟩
    exact ⟨rfl, Below.refl _ _⟩
  · refine (error_errno c c w h1 h2 hg).mono ?_
    rintro e w' ⟨rfl, hb⟩
    exact ⟨by simp, hb⟩

end Go.Proofs.YtioegjmcpjnmnaaGreatDoor

namespace Go.Proofs.YtioegjmcpjnmnaaGreatDoor
set_option linter.unusedVariables false
set_option linter.unusedSimpArgs false
set_option maxRecDepth 100000
open Go.RowKit Go.Lib

theorem plPar_bd (pre : List Ac) (x : Ac) : 0 ≤ parBad pre x ∧ parBad pre x ≤ 12 := by
  unfold parBad
  split
  · omega
  · split
    · omega
    · split <;> omega
theorem plNext_bd (pre : List Ac) (x : Ac) : 0 ≤ nextBad pre x ∧ nextBad pre x ≤ 12 := by
  have := plPar_bd pre x
  unfold nextBad
  split
  · omega
  · split
    · omega
    · split <;> omega
theorem plGo_bd : ∀ (r pre : List Ac), 0 ≤ chGo pre r ∧ chGo pre r ≤ 12
  | [], _ => by simp [chGo]
  | x :: r, pre => by
    have := plNext_bd pre x
    rw [chGo]
    split
    · exact this
    · exact plGo_bd r _
theorem plCh_bd (l : List Ac) : 0 ≤ chBad l ∧ chBad l ≤ 12 := by
  unfold chBad
  split
  · omega
  · exact plGo_bd l []
theorem leaf_small (c : List Ac) (code : ByteArray) : 0 ≤ leafBad c code ∧ leafBad c code ≤ 12 := by
  unfold leafBad; split
  · omega
  · split <;> omega
theorem firstTo_small {f : Nat → Int} (h : ∀ k, 0 ≤ f k ∧ f k ≤ 100) : ∀ n, 0 ≤ firstTo f n ∧ firstTo f n ≤ 100
  | 0 => ⟨Int.le_refl _, by show (0 : Int) ≤ 100; omega⟩
  | n + 1 => by
    have ih := firstTo_small h n
    unfold firstTo
    split
    · exact ih
    · exact h n
theorem pnBad_small (c : List Ac) (l : List Pn) (k : Nat) : 0 ≤ pnBad c l k ∧ pnBad c l k ≤ 100 := by
  have h1 : 0 ≤ refBad (l.take k) (l.getD k pn0).ref ∧ refBad (l.take k) (l.getD k pn0).ref ≤ 100 := by
    unfold refBad; split
    · omega
    · split <;> omega
  have h2 : 0 ≤ accBad c (l.getD k pn0) ∧ accBad c (l.getD k pn0) ≤ 100 := by
    have a := leaf_small c (l.getD k pn0).src
    have b := leaf_small c (l.getD k pn0).dst
    unfold accBad; split
    · omega
    · split
      · omega
      · split <;> omega
  unfold pnBad
  split
  · exact h1
  · split
    · omega
    · split
      · exact h2
      · split <;> omega
theorem pnsBad_small (c : List Ac) (l : List Pn) (hc : 0 ≤ chBad c ∧ chBad c ≤ 100) : 0 ≤ pnsBad c l ∧ pnsBad c l ≤ 100 := by
  unfold pnsBad
  split
  · exact hc
  · split
    · omega
    · exact firstTo_small (pnBad_small c l) _
theorem plBad_small (c : List Ac) (l : List Pn) (en pe : Int) (hc : 0 ≤ chBad c ∧ chBad c ≤ 100) : 0 ≤ plBad c l en pe ∧ plBad c l en pe ≤ 100 := by
  unfold plBad
  split
  · exact pnsBad_small c l hc
  · split <;> omega
theorem chE_is (n : Int) (h : 0 ≤ n ∧ n ≤ 100) : ErrIs (chE n) n := by
  by_cases h0 : n = 0
  · subst h0; exact .inl ⟨rfl, rfl⟩
  · rw [chE_ne h0]; exact .inr ⟨rfl, by omega, by omega⟩
set_option maxHeartbeats 8000000 in
theorem plans_walk (a a2 : Option Addr) (cap cap2 : Nat) (c : List Ac) (l : List Pn) (en pe : Int) (w : World) (h : IsSl w a c cap) (hok : ∀ k, k < c.length → (c.getD k ac0).code.size ≤ maxLen ∧ (c.getD k ac0).name.size ≤ maxLen) (hl : IsPn w a2 l cap2) (hll : l.length ≤ 9223372036854775807) (hg : ErrT w) (ht : TabW w) :
    Calls Tryz.prog 3 #[.slice a c.length cap, .slice a2 l.length cap2, .int .i64 en, .int .i64 pe] w fun e w' => e = .returned (.bool true) ∧ Below w.heap.size w w' := by
  have hcb : 0 ≤ chBad c ∧ chBad c ≤ 100 := by have := plCh_bd c; omega
  have Err : Hid (∀ E c W, ErrIs E c → Below w.heap.size w W → Calls Tryz.prog 4 #[E, .int .i64 c] W fun e w' => e = .returned (.bool true) ∧ Below w.heap.size w w' ∧ Below W.heap.size W w') := fun E c W h hW => by
    refine (err_true h W (hg.below hW (Nat.le_refl _))).mono ?_
    rintro e w' ⟨rfl, hb⟩
    exact ⟨rfl, hW.trans (hb.mono hW.size), hb⟩
  have HC1 : Hid (Calls _ _ _ _ _) := plCheck_any a a2 cap cap2 c l w h hl hll
  have HC2 : Hid (∀ W, Below w.heap.size w W → Calls Tryz.prog 6 #[.slice a c.length cap, .slice a2 l.length cap2] W fun e w' => e = .returned (.int .i64 (pnsBad c l)) ∧ Below w.heap.size w w') := fun W hW => by
    refine (refPlans_any a a2 cap cap2 c l W (h.below hW) hok (hl.below hW) hll).mono ?_
    rintro e w' ⟨rfl, hb⟩
    exact ⟨rfl, hW.trans (hb.mono hW.size)⟩
  have HI1 : Hid (ErrIs (chE (pnsBad c l)) (pnsBad c l)) := chE_is _ (pnsBad_small c l hcb)
  have HI2 : Hid (ErrIs (chE (plBad c l en pe)) (plBad c l en pe)) := chE_is _ (plBad_small c l en pe hcb)
  have HA : Hid (∀ W, Below w.heap.size w W → Calls Tryz.prog 7 #[.slice a c.length cap, .slice a2 l.length cap2, .int .i64 en, .int .i64 pe] W fun e w' => ∃ av cv L, e = .returned (.tuple #[.slice av L.length cv, .int .i64 (plBad c l en pe)]) ∧ Hid (Below w.heap.size w w' ∧ IsJs w' av L cv ∧ L.map Je.ep = (if plBad c l en pe = 0 then plTo en pe l l.length else [])) ) := fun W hW => by
    refine (refAccrue_any a a2 cap cap2 c l en pe W (h.below hW) hok (hl.below hW) hll).mono ?_
    rintro e w' ⟨hb, k1, k2⟩
    by_cases hz : plBad c l en pe = 0
    · obtain ⟨v, L, rfl, hm, hL, hlen⟩ := k2 hz
      obtain ⟨av, cv, rfl, hj⟩ := hm.isJs
      exact ⟨av, cv, L, by rw [hz], hW.trans (hb.mono hW.size), hj, by rw [if_pos hz]; exact hL⟩
    · exact ⟨none, 0, [], k1 hz, hW.trans (hb.mono hW.size), ⟨Nat.le_refl _, .inl rfl, by simp⟩, by rw [if_neg hz]; rfl⟩
  have HE : Hid (∀ W, Below w.heap.size w W → Calls Tryz.prog 8 #[.slice a c.length cap, .slice a2 l.length cap2, .int .i64 en, .int .i64 pe] W fun e w' => ∃ av cv L E, e = .returned (.tuple #[.slice av L.length cv, E]) ∧ E = chE (plBad c l en pe) ∧ Hid (Below w.heap.size w w' ∧ Below W.heap.size W w' ∧ IsJs w' av L cv ∧ L.length ≤ 20 ∧ (∀ x ∈ L, x.lns.length ≤ 1000) ∧ L.map Je.ep = (if plBad c l en pe = 0 then plTo en pe l l.length else [])) ) := fun W hW => by
    refine (plEntries_any a a2 cap cap2 c l en pe W (h.below hW) (hl.below hW) hll (ht.below hW)).mono ?_
    rintro e w' ⟨hb, k1, k2⟩
    by_cases hz : plBad c l en pe = 0
    · obtain ⟨v, L, rfl, hm, hL, hlen⟩ := k2 hz
      obtain ⟨av, cv, rfl, hj⟩ := hm.isJs
      refine ⟨av, cv, L, .nilIface, rfl, by rw [hz]; rfl, hW.trans (hb.mono hW.size), hb, hj, hlen, fun x hx => ?_, by rw [if_pos hz]; exact hL⟩
      have hm : x.ep ∈ plTo en pe l l.length := by rw [← hL]; exact List.mem_map_of_mem hx
      obtain ⟨i, _, hi⟩ := List.mem_flatMap.1 hm
      unfold plE at hi
      split at hi
      · rw [List.mem_singleton] at hi
        have : x.lns = plLns _ _ := congrArg Ep.lns hi
        rw [this]; simp [plLns]
      · cases hi
    · exact ⟨none, 0, [], _, k1 hz, rfl, hW.trans (hb.mono hW.size), hb, ⟨Nat.le_refl _, .inl rfl, by simp⟩, by simp, by simp, by rw [if_neg hz]; rfl⟩
  have HPs : Hid (IsPn w a2 l cap2) := hl
  have HSm : Hid (∀ a1 a2 c1 c2 (L1 L2 : List Je) W, L1.length ≤ 20 → L1.map Je.ep = L2.map Je.ep → (∀ x ∈ L1, x.lns.length ≤ 1000) → IsJs W a1 L1 c1 → IsJs W a2 L2 c2 → Calls Tryz.prog 9 #[.slice a1 L1.length c1, .slice a2 L2.length c2] W fun e w' => e = .returned (.bool true) ∧ Below W.heap.size W w') := fun a1 a2 c1 c2 L1 L2 W k1 k2 k3 k4 k5 => sameEntries_any a1 a2 c1 c2 L1 L2 W (by omega) k2 k3 k4 k5
  clear h hl hg ht hok hcb
  generalize plBad c l en pe = pb at *
  generalize pnsBad c l = nb at *
  obtain ⟨X, hX⟩ : ∃ X, chE nb = X := ⟨_, rfl⟩
  rw [hX] at HC1 HI1
  clear hX
  go_enter Tryz.func3, Tryz.ntmps3
  go_wp2_with fail
  refine HC1.out.mono ?_
  rintro e w1 ⟨rfl, B1⟩
  clear HC1
  go_wp2_with fail
  refine (HC2.out w1 B1).mono ?_
  rintro e w2 ⟨rfl, B2⟩
  clear HC2 B1
  go_wp2_with fail
  refine (Err.out _ _ w2 HI1.out B2).mono ?_
  rintro e w3 ⟨rfl, B3, _⟩
  clear B2 HI1
  go_wp2_with fail
  refine (HA.out w3 B3).mono ?_
  rintro e w4 ⟨ra, rc, RL, rfl, h4⟩
  clear HA B3
  go_wp2_with fail
  refine (HE.out w4 h4.out.1).mono ?_
  rintro e w5 ⟨ea, ec, EL, E, rfl, hE, h5⟩
  rw [← hE] at HI2
  clear HE hE
  go_wp2_with fail
  refine (Err.out _ _ w5 HI2.out h5.out.1).mono ?_
  rintro e w6 ⟨rfl, B6, B6'⟩
  have HS : Hid (Calls _ _ _ _ _) := HSm.out ea ra ec rc EL RL w6 h5.out.2.2.2.1 (by rw [h5.out.2.2.2.2.2, h4.out.2.2]) h5.out.2.2.2.2.1 (h5.out.2.2.1.below B6') ((h4.out.2.1.below h5.out.2.1).below B6')
  clear HI2 HSm h4 h5 B6'
  go_wp2_with fail
  refine HS.out.mono ?_
  rintro e w7 ⟨rfl, hb7⟩
  have HB7 : Hid (Below w.heap.size w w7) := B6.trans (hb7.mono B6.size)
  clear HS hb7 B6
  go_wp2
  go_loopw [16] (fun i wr => ∃ k : Nat, k ≤ l.length ∧ i = .int .i64 k ∧ Hid (Below w.heap.size w wr)) (fun i _ => l.length - (RowKit.intOf i).toNat)
  case atStart => exact ⟨0, Nat.zero_le _, rfl, HB7⟩
  case round =>
    obtain ⟨k, hk, rfl, HB⟩ := hrel
    by_cases hkn : k < l.length
    · obtain ⟨bb, off, e, hblt, hc⟩ := ((HPs.out).below HB.out).at hkn
      subst e
      have HD : Hid (∀ W, Below wr.heap.size wr W → PnAt W bb (off + k * 8) (l.getD k pn0) ∧ Below w.heap.size w W) := fun W hW => ⟨hc.below hW hblt, HB.out.trans (hW.mono HB.out.size)⟩
      have HN : Hid (Calls Tryz.prog 10 #[.agg (l.getD k pn0).cells] wr fun e w' => e = .returned (.int .i64 (if spreadB (l.getD k pn0).amt (l.getD k pn0).fst (l.getD k pn0).per = true then 0 else 1)) ∧ Below wr.heap.size wr w') := refPlanNum_any _ wr
      have HPe : Hid (∀ W, Calls Tryz.prog 11 #[.int .i64 pe] W fun e w' => e = .returned (.bool (upTo pe 120)) ∧ w' = W) := fun W => period_any _ W
      have HRp : Hid (∀ W, Below wr.heap.size wr W → spreadB (l.getD k pn0).amt (l.getD k pn0).fst (l.getD k pn0).per = true → upTo pe 120 = true → Calls Tryz.prog 12 #[.agg (l.getD k pn0).cells, .int .i64 pe] W fun e w' => e = .returned (.int .i64 (partN (l.getD k pn0).amt (l.getD k pn0).fst (l.getD k pn0).per pe)) ∧ Below wr.heap.size wr w') := fun W hW s1 s2 => by
        refine (refPart_any _ pe W s1 s2).mono ?_
        rintro e w' ⟨rfl, hb⟩
        exact ⟨rfl, hW.trans (hb.mono hW.size)⟩
      have HPo : Hid (∀ W, Below wr.heap.size wr W → spreadB (l.getD k pn0).amt (l.getD k pn0).fst (l.getD k pn0).per = true → upTo pe 120 = true → Calls Tryz.prog 13 #[.agg (l.getD k pn0).cells, .int .i64 pe] W fun e w' => e = .returned (.tuple #[.int .i64 (partN (l.getD k pn0).amt (l.getD k pn0).fst (l.getD k pn0).per pe), .nilIface]) ∧ Below wr.heap.size wr w') := fun W hW s1 s2 => by
        refine (planPart_ok _ pe W s1 s2).mono ?_
        rintro e w' ⟨rfl, hb⟩
        exact ⟨rfl, hW.trans (hb.mono hW.size)⟩
      have HPb : Hid (∀ W, Below wr.heap.size wr W → (spreadB (l.getD k pn0).amt (l.getD k pn0).fst (l.getD k pn0).per && upTo pe 120) = false → Calls Tryz.prog 13 #[.agg (l.getD k pn0).cells, .int .i64 pe] W fun e w' => e = .returned (.tuple #[.int .i64 0, .iface 43 (.int .i64 1)]) ∧ Below wr.heap.size wr w') := fun W hW s1 => by
        refine (planPart_bad _ pe W s1).mono ?_
        rintro e w' ⟨rfl, hb⟩
        exact ⟨rfl, hW.trans (hb.mono hW.size)⟩
      generalize l.getD k pn0 = p at *
      obtain ⟨ref, ent, fr, tw, cu, am, fs, pr⟩ := p
      obtain ⟨d0, d1, d2, d3, d4, d5, d6, d7⟩ := hc
      simp only [Pn.cells] at d0 d1 d2 d3 d4 d5 d6 d7 HD HN HRp HPo HPb
      generalize partN am fs pr pe = pn at *
      have j0 : (0 : Int) ≤ k := by omega
      have j1 : (k : Int) < l.length := by omega
      cases u1 : spreadB am fs pr
      · rw [u1, if_neg (by simp)] at HN
        rw [u1] at HPb
        clear HRp HPo u1 HPe
        go_wp2_with fail
        refine HN.out.mono ?_
        rintro e v1 ⟨rfl, hv1⟩
        clear HN d0 d1 d2 d3 d4 d5 d6 d7
        obtain ⟨⟨d0, d1, d2, d3, d4, d5, d6, d7⟩, _⟩ := HD.out v1 hv1
        simp only at d0 d1 d2 d3 d4 d5 d6 d7
        go_wp2_with fail
        refine (HPb.out v1 hv1 (by rfl)).mono ?_
        rintro e v2 ⟨rfl, hv2⟩
        clear d0 d1 d2 d3 d4 d5 d6 d7 HPb hv1
        go_wp2_with fail
        refine (Err.out _ _ v2 (.inr ⟨rfl, by decide, by decide⟩) (HD.out v2 hv2).2).mono ?_
        rintro e v3 ⟨rfl, B, _⟩
        have HB3 : Hid (Below w.heap.size w v3) := B
        clear HD hv2 B
        go_wp2
        go_roundw
        case rel => exact ⟨k + 1, by omega, by go_num, HB3⟩
        case measure => simp [RowKit.intOf]; omega
      rw [u1, if_pos rfl] at HN
      rw [u1] at HPb HRp HPo
      cases u2 : upTo pe 120
      · rw [u2] at HPb HPe
        clear HRp HPo u1 u2
        go_wp2_with fail
        refine HN.out.mono ?_
        rintro e v1 ⟨rfl, hv1⟩
        clear HN d0 d1 d2 d3 d4 d5 d6 d7
        obtain ⟨⟨d0, d1, d2, d3, d4, d5, d6, d7⟩, _⟩ := HD.out v1 hv1
        simp only at d0 d1 d2 d3 d4 d5 d6 d7
        go_wp2_with fail
        refine (HPe.out _).mono ?_
        rintro e w' ⟨rfl, hw⟩
        rw [hw]; clear hw w' HPe
        go_wp2_with fail
        refine (HPb.out v1 hv1 (by rfl)).mono ?_
        rintro e v2 ⟨rfl, hv2⟩
        clear d0 d1 d2 d3 d4 d5 d6 d7 HPb hv1
        go_wp2_with fail
        refine (Err.out _ _ v2 (.inr ⟨rfl, by decide, by decide⟩) (HD.out v2 hv2).2).mono ?_
        rintro e v3 ⟨rfl, B, _⟩
        have HB3 : Hid (Below w.heap.size w v3) := B
        clear HD hv2 B
        go_wp2
        go_roundw
        case rel => exact ⟨k + 1, by omega, by go_num, HB3⟩
        case measure => simp [RowKit.intOf]; omega
      · rw [u2] at HPe HRp HPo
        clear HPb u1 u2
        go_wp2_with fail
        refine HN.out.mono ?_
        rintro e v1 ⟨rfl, hv1⟩
        clear HN d0 d1 d2 d3 d4 d5 d6 d7
        obtain ⟨⟨d0, d1, d2, d3, d4, d5, d6, d7⟩, _⟩ := HD.out v1 hv1
        simp only at d0 d1 d2 d3 d4 d5 d6 d7
        go_wp2_with fail
        refine (HPe.out _).mono ?_
        rintro e w' ⟨rfl, hw⟩
        rw [hw]; clear hw w' HPe
        go_wp2_with fail
        refine (HRp.out v1 hv1 (by first | rfl | trivial) (by first | rfl | trivial)).mono ?_
        rintro e v2 ⟨rfl, hv2⟩
        clear d0 d1 d2 d3 d4 d5 d6 d7 HRp hv1
        obtain ⟨⟨d0, d1, d2, d3, d4, d5, d6, d7⟩, _⟩ := HD.out v2 hv2
        simp only at d0 d1 d2 d3 d4 d5 d6 d7
        go_wp2_with fail
        refine (HPo.out v2 hv2 (by first | rfl | trivial) (by first | rfl | trivial)).mono ?_
        rintro e v3 ⟨rfl, hv3⟩
        clear d0 d1 d2 d3 d4 d5 d6 d7 HPo hv2
        go_wp2_with fail
        refine (Err.out _ _ v3 (.inl ⟨rfl, rfl⟩) (HD.out v3 hv3).2).mono ?_
        rintro e v4 ⟨rfl, B, _⟩
        have HB4 : Hid (Below w.heap.size w v4) := B
        clear HD hv3 B
        go_wp2
        go_roundw
        case rel => exact ⟨k + 1, by omega, by go_num, HB4⟩
        case measure => simp [RowKit.intOf]; omega
    · have ek : k = l.length := by omega
      subst ek
      have j1 : ¬ (l.length : Int) < l.length := by omega
      go_wp2
      go_ret
      exact ⟨rfl, HB.out⟩
end Go.Proofs.YtioegjmcpjnmnaaGreatDoor

namespace Go.Proofs.YtioegjmcpjnmnaaGreatDoor
set_option linter.unusedVariables false
set_option linter.unusedSimpArgs false
set_option maxRecDepth 100000
open Go.RowKit Go.Lib Go.Deep

section
variable {H : Type} {enc : TypeId × Value → H} {w : World} {base : Nat} {spare : Nat → Bool} {held : Bool}

theorem ch_string {m : Nat} {c : Value} {y : DataW H × List MemPlace} (h : DataW.trod enc Tryz.prog w base spare held m 9 [c] = some y) : ∃ s, c = .string s ∧ s.size ≤ maxLen := by
  cases m with
  | zero => simp [DataW.trod] at h
  | succ m =>
    rw [DataW.trod_step] at h
    unfold DataW.trodStep at h
    rw [Tryz.underlying9] at h
    cases c <;> simp at h
    exact ⟨_, rfl, h.1⟩

theorem ch_int {m : Nat} {c : Value} {y : DataW H × List MemPlace} (h : DataW.trod enc Tryz.prog w base spare held m 3 [c] = some y) : ∃ n, c = .int .i64 n ∧ (Lit.int .i64 n).wf = true := by
  cases m with
  | zero => simp [DataW.trod] at h
  | succ m =>
    rw [DataW.trod_step] at h
    unfold DataW.trodStep at h
    rw [Tryz.underlying3] at h
    cases c <;> simp at h
    rename_i k n
    obtain ⟨⟨rfl, h2⟩, _⟩ := h
    exact ⟨n, rfl, h2⟩

theorem ch_bool {m : Nat} {c : Value} {y : DataW H × List MemPlace} (h : DataW.trod enc Tryz.prog w base spare held m 4 [c] = some y) : ∃ n, c = .bool n := by
  cases m with
  | zero => simp [DataW.trod] at h
  | succ m =>
    rw [DataW.trod_step] at h
    unfold DataW.trodStep at h
    rw [Tryz.underlying4] at h
    cases c <;> simp at h
    exact ⟨_, rfl⟩

/-- What is asked of an account that came in. -/
def AcOk (a : Ac) : Prop := a.code.size ≤ maxLen ∧ a.name.size ≤ maxLen ∧ (Lit.int .i64 a.kind).wf = true ∧ a.par.size ≤ maxLen

theorem acct_cells : Tryz.prog.cellsOf 74 = 5 := by kernel_rfl
theorem acct_str : Tryz.prog.cellsOf 9 = 1 := by kernel_rfl
theorem acct_int : Tryz.prog.cellsOf 3 = 1 := by kernel_rfl
theorem acct_bool : Tryz.prog.cellsOf 4 = 1 := by kernel_rfl

theorem open_acct {m : Nat} {cs : List Value} {x : DataW H × List MemPlace} (h : DataW.trod enc Tryz.prog w base spare held m 74 cs = some x) : ∃ a : Ac, cs = a.cells.toList ∧ AcOk a := by
  cases m with
  | zero => simp [DataW.trod] at h
  | succ m =>
    rw [DataW.trod_step] at h
    unfold DataW.trodStep at h
    rw [Tryz.underlying74] at h
    simp only [acct_cells] at h
    split at h
    · rename_i hl
      match cs, hl with
      | [c0, c1, c2, c3, c4], _ =>
        simp [acct_str, acct_int, acct_bool] at h
        cases h0 : DataW.trod enc Tryz.prog w base spare held m 9 [c0]
        · simp [h0] at h
        cases h1 : DataW.trod enc Tryz.prog w base spare held m 9 [c1]
        · simp [h0, h1] at h
        cases h2 : DataW.trod enc Tryz.prog w base spare held m 3 [c2]
        · simp [h0, h1, h2] at h
        cases h3 : DataW.trod enc Tryz.prog w base spare held m 9 [c3]
        · simp [h0, h1, h2, h3] at h
        cases h4 : DataW.trod enc Tryz.prog w base spare held m 4 [c4]
        · simp [h0, h1, h2, h3, h4] at h
        obtain ⟨f, rfl, hf⟩ := ch_string h0
        obtain ⟨t, rfl, ht⟩ := ch_string h1
        obtain ⟨p, rfl, hp⟩ := ch_int h2
        obtain ⟨n, rfl, hn⟩ := ch_string h3
        obtain ⟨d, rfl⟩ := ch_bool h4
        exact ⟨⟨f, t, p, n, d⟩, rfl, hf, ht, hp, hn⟩
    · cases h

theorem ac_cells (w : World) (b off : Nat) (a : Ac) (h : ∀ i, i < 5 → w.cell? ⟨b, off + i, none⟩ = a.cells.toList[i]?) : AcAt w b off a :=
  ⟨h 0 (by omega), h 1 (by omega), h 2 (by omega), h 3 (by omega), h 4 (by omega)⟩

theorem ch_add (b off n : Nat) : (⟨b, off, none⟩ : Addr).add n = ⟨b, off + n, none⟩ := by
  unfold Addr.add
  split
  · rename_i h; subst h; rfl
  · rfl

/-- A chart that came in. -/
theorem acs_of_trod {W : World} {a : Option Addr} {len cap fuel : Nat} {x : DataW H × List MemPlace} (h : DataW.trod enc Tryz.prog W 0 (fun _ => true) true fuel 22 [.slice a len cap] = some x) :
    ∃ l : List Ac, l.length = len ∧ (∀ k, k < l.length → AcOk (l.getD k ac0)) ∧ IsSl W a l cap := by
  rcases open_slice Tryz.underlying22 h with ⟨hcs, _⟩ | ⟨x, l, c, m, n, D, Pl, hcs, _, hl, hm, hmm, _, hx⟩
  · simp at hcs
    obtain ⟨rfl, rfl, rfl⟩ := hcs
    exact ⟨[], rfl, by simp, ⟨by simp, .inl rfl⟩⟩
  · simp at hcs
    obtain ⟨rfl, rfl, rfl⟩ := hcs
    have hmm2 : m = cap := hmm
    rw [acct_cells] at hx
    have hr : ∀ i, i < len → ∃ r : Ac, (∀ j, j < 5 → W.cell? ((x.add (i * 5)).add j) = r.cells.toList[j]?) ∧ AcOk r := fun i hi => by
      obtain ⟨cs', h1, h2⟩ := hx i (by omega)
      obtain ⟨r, rfl, ok⟩ := open_acct h2
      exact ⟨r, (World.cells?_some h1).2.2, ok⟩
    obtain ⟨f, hf⟩ := @choose_lt Ac ⟨ac0⟩ _ _ hr
    have hget : ∀ k, k < len → ((List.range len).map f).getD k ac0 = f k := fun k hk => by simp [List.getD, hk]
    have hlen : ((List.range len).map f).length = len := by simp
    refine ⟨(List.range len).map f, hlen, fun k hk => ?_, ⟨by rw [hlen]; exact hl, ?_⟩⟩
    · rw [hlen] at hk
      rw [hget k hk]
      exact (hf k hk).2
    · by_cases h0 : len = 0
      · subst h0
        exact .inl rfl
      · right
        obtain ⟨b, off, spot⟩ := x
        have hc : W.cell? ⟨b, off, spot⟩ = some (.string (f 0).code) := (hf 0 (by omega)).1 0 (by omega)
        have hspot : spot = none := World.cell?_spot hc
        subst hspot
        have hlt : b < W.heap.size := World.block_lt_of_cell? _ _ hc
        refine ⟨b, off, rfl, hlt, fun k hk => ?_⟩
        rw [hlen] at hk
        rw [hget k hk]
        refine ac_cells W b (off + k * 5) (f k) (fun i hi => ?_)
        have := (hf k hk).1 i hi
        rw [ch_add, ch_add] at this
        exact this
end
end Go.Proofs.YtioegjmcpjnmnaaGreatDoor

namespace Go.Proofs.YtioegjmcpjnmnaaGreatDoor
set_option linter.unusedVariables false
set_option linter.unusedSimpArgs false
set_option maxRecDepth 100000
open Go.RowKit Go.Lib Go.Deep

section
variable {H : Type} {enc : TypeId × Value → H} {w : World} {base : Nat} {spare : Nat → Bool} {held : Bool}

theorem pl_string {m : Nat} {c : Value} {y : DataW H × List MemPlace} (h : DataW.trod enc Tryz.prog w base spare held m 9 [c] = some y) : ∃ s, c = .string s ∧ s.size ≤ maxLen := by
  cases m with
  | zero => simp [DataW.trod] at h
  | succ m =>
    rw [DataW.trod_step] at h
    unfold DataW.trodStep at h
    rw [Tryz.underlying9] at h
    cases c <;> simp at h
    exact ⟨_, rfl, h.1⟩
theorem pl_int {m : Nat} {c : Value} {y : DataW H × List MemPlace} (h : DataW.trod enc Tryz.prog w base spare held m 3 [c] = some y) : ∃ n, c = .int .i64 n ∧ (Lit.int .i64 n).wf = true := by
  cases m with
  | zero => simp [DataW.trod] at h
  | succ m =>
    rw [DataW.trod_step] at h
    unfold DataW.trodStep at h
    rw [Tryz.underlying3] at h
    cases c <;> simp at h
    rename_i k n
    obtain ⟨⟨rfl, h2⟩, _⟩ := h
    exact ⟨n, rfl, h2⟩
/-- What holds of a plan that came in. -/
structure PnOk (p : Pn) : Prop where
  ref : p.ref.size ≤ maxLen
  src : p.src.size ≤ maxLen
  dst : p.dst.size ≤ maxLen
  cur : p.cur.size ≤ maxLen
  ent : (Lit.int .i64 p.ent).wf = true
  amt : (Lit.int .i64 p.amt).wf = true
  fst : (Lit.int .i64 p.fst).wf = true
  per : (Lit.int .i64 p.per).wf = true
theorem plan_cells : Tryz.prog.cellsOf 37 = 8 := by kernel_rfl
theorem plan_str : Tryz.prog.cellsOf 9 = 1 := by kernel_rfl
theorem plan_int : Tryz.prog.cellsOf 3 = 1 := by kernel_rfl
theorem open_plan {m : Nat} {cs : List Value} {x : DataW H × List MemPlace} (h : DataW.trod enc Tryz.prog w base spare held m 37 cs = some x) : ∃ a : Pn, cs = a.cells.toList ∧ PnOk a := by
  cases m with
  | zero => simp [DataW.trod] at h
  | succ m =>
    rw [DataW.trod_step] at h
    unfold DataW.trodStep at h
    rw [Tryz.underlying37] at h
    simp only [plan_cells] at h
    split at h
    · rename_i hl
      match cs, hl with
      | [c0, c1, c2, c3, c4, c5, c6, c7], _ =>
        simp [plan_str, plan_int] at h
        cases h0 : DataW.trod enc Tryz.prog w base spare held m 9 [c0]
        · simp [h0] at h
        cases h1 : DataW.trod enc Tryz.prog w base spare held m 3 [c1]
        · simp [h0, h1] at h
        cases h2 : DataW.trod enc Tryz.prog w base spare held m 9 [c2]
        · simp [h0, h1, h2] at h
        cases h3 : DataW.trod enc Tryz.prog w base spare held m 9 [c3]
        · simp [h0, h1, h2, h3] at h
        cases h4 : DataW.trod enc Tryz.prog w base spare held m 9 [c4]
        · simp [h0, h1, h2, h3, h4] at h
        cases h5 : DataW.trod enc Tryz.prog w base spare held m 3 [c5]
        · simp [h0, h1, h2, h3, h4, h5] at h
        cases h6 : DataW.trod enc Tryz.prog w base spare held m 3 [c6]
        · simp [h0, h1, h2, h3, h4, h5, h6] at h
        cases h7 : DataW.trod enc Tryz.prog w base spare held m 3 [c7]
        · simp [h0, h1, h2, h3, h4, h5, h6, h7] at h
        obtain ⟨x0, rfl, k0⟩ := pl_string h0
        obtain ⟨x1, rfl, k1⟩ := pl_int h1
        obtain ⟨x2, rfl, k2⟩ := pl_string h2
        obtain ⟨x3, rfl, k3⟩ := pl_string h3
        obtain ⟨x4, rfl, k4⟩ := pl_string h4
        obtain ⟨x5, rfl, k5⟩ := pl_int h5
        obtain ⟨x6, rfl, k6⟩ := pl_int h6
        obtain ⟨x7, rfl, k7⟩ := pl_int h7
        exact ⟨⟨x0, x1, x2, x3, x4, x5, x6, x7⟩, rfl, ⟨k0, k2, k3, k4, k1, k5, k6, k7⟩⟩
    · cases h
/-- A plan that came in. -/
theorem plan_of_trod {W : World} {v : Value} {fuel : Nat} {x : DataW H × List MemPlace} (hv : ∃ cs, v = .agg cs ∧ cs.size = 8) (h : DataW.trod enc Tryz.prog W 0 (fun _ => true) true fuel 37 v.cells.toList = some x) : ∃ p : Pn, v = .agg p.cells ∧ PnOk p := by
  obtain ⟨cs, rfl, hs⟩ := hv
  obtain ⟨p, e, hp⟩ := open_plan h
  refine ⟨p, ?_, hp⟩
  have e2 : cs = p.cells := by
    simp only [Value.cells] at e
    cases cs
    simp only at e
    exact congrArg Array.mk e
  rw [e2]
theorem pl_add (b off n : Nat) : (⟨b, off, none⟩ : Addr).add n = ⟨b, off + n, none⟩ := by
  unfold Addr.add
  split
  · rename_i h; subst h; rfl
  · rfl
/-- Plans that came in. -/
theorem pns_of_trod {W : World} {a : Option Addr} {len cap fuel : Nat} {x : DataW H × List MemPlace} (h : DataW.trod enc Tryz.prog W 0 (fun _ => true) true fuel 23 [.slice a len cap] = some x) :
    ∃ l : List Pn, l.length = len ∧ IsPn W a l cap ∧ (∀ x ∈ l, PnOk x) ∧ len ≤ maxLen := by
  rcases open_slice Tryz.underlying23 h with ⟨hcs, _⟩ | ⟨x, l, c, m, n, D, Pl, hcs, hz, hl, hm, hmm, _, hx⟩
  · simp at hcs
    obtain ⟨rfl, rfl, rfl⟩ := hcs
    exact ⟨[], rfl, ⟨by simp, .inl rfl⟩, by simp, by unfold maxLen; omega⟩
  · simp at hcs
    obtain ⟨rfl, rfl, rfl⟩ := hcs
    have hmm2 : m = cap := hmm
    rw [plan_cells] at hx
    have hr : ∀ i, i < len → ∃ r : Pn, (∀ j, j < 8 → W.cell? ((x.add (i * 8)).add j) = r.cells.toList[j]?) ∧ PnOk r := fun i hi => by
      obtain ⟨cs', h1, h2⟩ := hx i (by omega)
      obtain ⟨r, rfl, hw⟩ := open_plan h2
      exact ⟨r, (World.cells?_some h1).2.2, hw⟩
    obtain ⟨f, hf⟩ := @choose_lt Pn ⟨pn0⟩ _ _ hr
    have hget : ∀ k, k < len → ((List.range len).map f).getD k pn0 = f k := fun k hk => by simp [List.getD, hk]
    have hlen : ((List.range len).map f).length = len := by simp
    refine ⟨(List.range len).map f, hlen, ⟨by rw [hlen]; exact hl, ?_⟩, ?_, by omega⟩
    · by_cases h0 : len = 0
      · subst h0
        exact .inl rfl
      · right
        obtain ⟨b, off, spot⟩ := x
        have hc : W.cell? ⟨b, off, spot⟩ = some (.string (f 0).ref) := (hf 0 (by omega)).1 0 (by omega)
        have hspot : spot = none := World.cell?_spot hc
        subst hspot
        have hlt : b < W.heap.size := World.block_lt_of_cell? _ _ hc
        refine ⟨b, off, rfl, hlt, fun k hk => ?_⟩
        rw [hlen] at hk
        rw [hget k hk]
        have C : ∀ i, i < 8 → W.cell? ⟨b, off + k * 8 + i, none⟩ = (f k).cells.toList[i]? := fun i hi => by
          have := (hf k hk).1 i hi
          rw [pl_add, pl_add] at this
          exact this
        exact ⟨C 0 (by omega), C 1 (by omega), C 2 (by omega), C 3 (by omega), C 4 (by omega), C 5 (by omega), C 6 (by omega), C 7 (by omega)⟩
    · intro y hy
      obtain ⟨k, hk, rfl⟩ := List.mem_map.1 hy
      exact (hf k (List.mem_range.1 hk)).2
end
end Go.Proofs.YtioegjmcpjnmnaaGreatDoor

namespace Go.Proofs.YtioegjmcpjnmnaaGreatDoor
open Go.ChangeShapes Go.WideShapes Go.RowKit Go.ChangeAt Go.Deep
open Go.ChangeMaps (open_string shut_string)
set_option linter.unusedVariables false
set_option linter.unusedSimpArgs false

theorem aplan_own : ownKnob Tryz.prog.godebug = none := by kernel_rfl
theorem aplan_laidOut : laidOutB Tryz.prog = true := by kernel_rfl
/-- A table's cells. -/
def aplan_cells (d : DataW Unit) : Array Value :=
  match d with
  | .agg l => (l.map fun x => match x with
    | .lit (.int k z) => Value.int k z
    | _ => .bool false).toArray
  | _ => #[]
def aplan_put (cs : Array Value) (o : Obj) : Obj :=
  match o with
  | .cells _ t frozen => .cells cs t frozen
  | o => o
theorem aplan_et : Tryz.prog.globalNamed "errors.errorType" = some 0 := by kernel_rfl
theorem aplan_rt : (Tryz.prog.cutTypes.find? (·.1 == "internal/reflectlite.rtype")).map (·.2) = some 122 := by kernel_rfl
theorem aplan_oneRow : ((List.range 187).filter fun t => Tryz.prog.rowNamed t [101, 114, 114, 111, 114]) = [26] := by kernel_rfl
theorem aplan_size : Tryz.prog.types.size = 187 := by kernel_rfl
/-- What the condition gives: the variable's one cell. -/
theorem aplan_handle {W : World} (h : laidMetH Tryz.prog Rows.accruePlansRow.laid W) : ErrT W := by
  have h' : laidMet Tryz.prog [("math/bits.deBruijn32tab", Rows.laid_math_bits_deBruijn32tab), ("math/bits.deBruijn64tab", Rows.laid_math_bits_deBruijn64tab), ("internal/strconv.uint64pow10", Rows.laid_internal_strconv_uint64pow10)] W ∧ handlesMet Tryz.prog [("errors.errorType", Rows.laid_errors_errorType)] W := h
  obtain ⟨name, u, ty, e1, e2, e3, e4, e5⟩ := h'.2 _ (List.mem_singleton.2 rfl)
  have en : name = [101, 114, 114, 111, 114] := (Option.some.inj e1).symm
  subst en
  obtain rfl := Option.some.inj (aplan_rt.symm.trans e2)
  have hm : ty ∈ (List.range 187).filter fun t => Tryz.prog.rowNamed t [101, 114, 114, 111, 114] := List.mem_filter.2 ⟨List.mem_range.2 (by rw [← aplan_size]; exact e3), e4⟩
  rw [aplan_oneRow] at hm
  obtain rfl := List.mem_singleton.1 hm
  have hh : typeHandle Tryz.prog 26 = .pointer (some ⟨4, 26, none⟩) := by kernel_rfl
  rw [hh] at e5
  unfold ErrT
  simpa using World.var?_cell aplan_et e5 0
theorem aplan_gTab : Tryz.prog.globalNamed "internal/strconv.uint64pow10" = some 1 := by kernel_rfl
theorem aplan_gType : (Tryz.prog.globals[1]?).map (·.type) = some 153 := by kernel_rfl
theorem aplan_cellsT : Tryz.prog.cellsOf 153 = 20 := by kernel_rfl
theorem aplan_cellsE : Tryz.prog.cellsOf 92 = 1 := by kernel_rfl
theorem aplan_table {W : World} (h : laidMetH Tryz.prog Rows.accruePlansRow.laid W) : TabW W := by
  have h1 : laidMet Tryz.prog [("math/bits.deBruijn32tab", Rows.laid_math_bits_deBruijn32tab), ("math/bits.deBruijn64tab", Rows.laid_math_bits_deBruijn64tab), ("internal/strconv.uint64pow10", Rows.laid_internal_strconv_uint64pow10)] W := (show laidMet Tryz.prog [("math/bits.deBruijn32tab", Rows.laid_math_bits_deBruijn32tab), ("math/bits.deBruijn64tab", Rows.laid_math_bits_deBruijn64tab), ("internal/strconv.uint64pow10", Rows.laid_internal_strconv_uint64pow10)] W ∧ handlesMet Tryz.prog [("errors.errorType", Rows.laid_errors_errorType)] W from h).1
  have h2 : laidMet Tryz.prog (("internal/strconv.uint64pow10", Lib.tabData .u64 Lib.pow10Tab) :: []) W := (laidMet.tail (laidMet.tail h1))
  exact Lib.tabIs_of_head aplan_gTab aplan_gType Tryz.underlying153 Tryz.underlying92 aplan_cellsE aplan_cellsT h2
/-- A world that meets the condition. -/
theorem aplan_met (os : Os) (args : Array Value) : laidMetH Tryz.prog Rows.accruePlansRow.laid ((({ World.holding Tryz.prog os ⟨#[], #[], []⟩ with heap := ((((World.holding Tryz.prog os ⟨#[], #[], []⟩).heap.modify 2 (aplan_put (aplan_cells Rows.laid_math_bits_deBruijn32tab))).modify 3 (aplan_put (aplan_cells Rows.laid_math_bits_deBruijn64tab))).modify 1 (aplan_put (aplan_cells Rows.laid_internal_strconv_uint64pow10))).modify 0 fun | .cells _ t frozen => .cells #[.iface 122 (.agg #[.pointer (some ⟨4, 26, none⟩)])] t frozen | o => o } : World).forCall (fun _ _ => 0) ⟨#[], args, []⟩).memory) :=
  laidMetH_of_parts (laidMet_of_run' 8 (by kernel_rfl) (by kernel_rfl)) (by kernel_rfl)

set_option maxRecDepth 100000 in
theorem aplan_lifted (os : Os) (started : os.Started) (H : Type) (enc : TypeId × Value → H) :
    ReturnsInHanded {} Tryz.checked os 3 .any (fun w args => (Rows.accruePlansSpec.pre enc Tryz.prog Tryz.f3 [] false w args ∧ laidMetH Tryz.prog Rows.accruePlansRow.laid w) ∧ sizedMet enc Tryz.prog Tryz.f3 (OpenSpec.ofChange Rows.accruePlansSpec) false w args)
      (Rows.accruePlansSpec.post enc Tryz.prog Tryz.f3 false true false false) := by
  refine returnsInHanded_of_change_and (C := Tryz.checked) (X := fun w _ => laidMetH Tryz.prog Rows.accruePlansRow.laid w) (fun _ _ _ hh h => h.of_heap hh) aplan_own started (by kernel_rfl) Tryz.func3
    (ChangeSpec.witness_at (enc := enc) (C := Tryz.checked) (os := os) (X := fun w _ => laidMetH Tryz.prog Rows.accruePlansRow.laid w) false ({ World.holding Tryz.prog os ⟨#[], #[], []⟩ with heap := ((((World.holding Tryz.prog os ⟨#[], #[], []⟩).heap.modify 2 (aplan_put (aplan_cells Rows.laid_math_bits_deBruijn32tab))).modify 3 (aplan_put (aplan_cells Rows.laid_math_bits_deBruijn64tab))).modify 1 (aplan_put (aplan_cells Rows.laid_internal_strconv_uint64pow10))).modify 0 fun | .cells _ t frozen => .cells #[.iface 122 (.agg #[.pointer (some ⟨4, 26, none⟩)])] t frozen | o => o } : World) #[.slice none 0 0, .slice none 0 0, .int .i64 0, .int .i64 0] 8 rfl (by kernel_rfl) (by kernel_rfl) (by kernel_rfl) (by kernel_rfl) (by kernel_rfl) (aplan_met os _)) ?_
  intro W base args ds gs before hval0 hW hcnd hsz0 hL _
  have hg := aplan_handle hL
  have ht := aplan_table hL
  clear hsz0
  have hval : ∀ (j : Nat) t v, Tryz.f3.params[j]? = some t → args[j]? = some v → Value.okWide Tryz.prog W .any base t v := hval0
  have hW' := hW
  obtain ⟨p, q, hA0, hV, rfl, hfz, hnd⟩ := hW
  have hA : DataW.TrodAll enc Tryz.prog W 0 (fun _ => true) true Tryz.f3.params.toList args.toList ds p := hA0
  rw [Tryz.params3] at hA hval
  obtain ⟨v0, vs0, d0, ds0, p0, q0, hargs, rfl, rfl, h0, r0⟩ := trodAll_cons hA
  obtain ⟨v1, vs1, d1, ds1, p1, q1, rfl, rfl, rfl, h1, r1⟩ := trodAll_cons r0
  obtain ⟨v2, vs2, d2, ds2, p2, q2, rfl, rfl, rfl, h2, r2⟩ := trodAll_cons r1
  obtain ⟨v3, vs3, d3, ds3, p3, q3, rfl, rfl, rfl, h3, r3⟩ := trodAll_cons r2
  obtain ⟨rfl, rfl, rfl⟩ := trodAll_nil r3
  obtain rfl : args = #[v0, v1, v2, v3] := by cases args; simp_all
  obtain ⟨rfl, rfl⟩ := trodVars_none hV
  obtain ⟨a0, len0, cap0, rfl⟩ := okWide_slice Tryz.underlying22 (hval 0 22 v0 rfl rfl)
  have k0 := h0
  have lt0 : ∀ x ∈ p0, x.block < W.heap.size := by obtain ⟨m, hm⟩ := k0; exact DataW.trod_lt m _ _ _ hm
  obtain ⟨l0, hl0, ho0, hi0⟩ : ∃ l : List Ac, l.length = len0 ∧ (∀ k, k < l.length → AcOk (l.getD k ac0)) ∧ IsSl W a0 l cap0 := by
    obtain ⟨fuel, hf⟩ := h0
    exact acs_of_trod hf
  subst hl0
  obtain ⟨a1, len1, cap1, rfl⟩ := okWide_slice Tryz.underlying23 (hval 1 23 v1 rfl rfl)
  have k1 := h1
  have lt1 : ∀ x ∈ p1, x.block < W.heap.size := by obtain ⟨m, hm⟩ := k1; exact DataW.trod_lt m _ _ _ hm
  obtain ⟨l1, hl1, hi1, ho1, hm1⟩ : ∃ l : List Pn, l.length = len1 ∧ IsPn W a1 l cap1 ∧ (∀ x ∈ l, PnOk x) ∧ len1 ≤ maxLen := by
    obtain ⟨fuel, hf⟩ := h1
    exact pns_of_trod hf
  subst hl1
  have hb1 : l1.length ≤ 9223372036854775807 := by unfold maxLen at hm1; exact hm1
  obtain ⟨x2, rfl, rfl, rfl, w2⟩ := open_int Tryz.underlying3 (hval 2 3 v2 rfl rfl) h2
  have wb2 := bounds_i64 w2
  obtain ⟨x3, rfl, rfl, rfl, w3⟩ := open_int Tryz.underlying3 (hval 3 3 v3 rfl rfl) h3
  have wb3 := bounds_i64 w3
  clear hA0 hval0
  refine (plans_walk a0 a1 cap0 cap1 l0 l1 x2 x3 W hi0 (fun k hk => ⟨(ho0 k hk).1, (ho0 k hk).2.1⟩) hi1 hb1 hg ht).mono fun e W' ⟨he, bel⟩ => ?_
  subst he
  exact ⟨_, rfl, _, _, _, [], _, [], hW', trodAll_mk1 (shut_bool Tryz.underlying4 _), (trodAll_cons_mk (Below.trod aplan_laidOut (by kernel_rfl) (of_decide_eq_true (by kernel_rfl)) k0 bel lt0) (trodAll_cons_mk (Below.trod aplan_laidOut (by kernel_rfl) (of_decide_eq_true (by kernel_rfl)) k1 bel lt1) (trodAll_cons_mk (shut_int Tryz.underlying3 w2) (trodAll_cons_mk (shut_int Tryz.underlying3 w3) trodAll_mk0)))), rfl, bel.frame _, fun h => by cases h⟩

theorem aplan_over : Rows.AccruePlansSaid :=
  OpenClaim.holds_of_wide 3 Tryz.f3 rfl rfl rfl rfl rfl rfl rfl ⟨rfl, rfl, rfl, rfl, rfl⟩ rfl rfl rfl rfl rfl (by kernel_rfl) Tryz.func3 (by kernel_rfl)
    (of_decide_eq_true (by kernel_rfl)) (by unfold Func.isWrapper; first | (rw [if_pos (by decide +kernel)]; kernel_rfl) | (rw [if_neg (by decide +kernel)]; exact ⟨rfl, rfl⟩))
    (fun os started H enc _ => aplan_lifted os started H enc)

/-- The statement. -/
theorem accruePlans_holds : Rows.AccruePlansCardSaid :=
  Claim7.holds_tied_plain_at .later [] [.data, .data, .data, .handle] true _ true
    aplan_over (fun _ h => by cases h) (by kernel_rfl) (fun _ h => by cases h) accruePlans_row_tie rfl ⟨rfl, rfl⟩ (by kernel_rfl) rfl
    (fun f fn hf hfn => by
      obtain rfl : f = 3 := Option.some.inj ((show Tryz.prog.funcNamed "quarterday/daylaw3.AccruePlans" = some 3 by kernel_rfl).symm.trans hf) |>.symm
      obtain rfl : fn = Tryz.f3 := (Option.some.inj (Tryz.func3.symm.trans hfn)).symm
      exact ⟨by kernel_rfl, fun j t ht => by
        rw [Tryz.params3] at ht
        have h3 : t = 22 ∨ t = 23 ∨ t = 3 := by
          rcases j with _ | _ | _ | _ | j
          · exact (.inl (by simpa using ht.symm))
          · exact (.inr (.inl (by simpa using ht.symm)))
          · exact (.inr (.inr (by simpa using ht.symm)))
          · exact (.inr (.inr (by simpa using ht.symm)))
          · simp at ht
        rcases h3 with rfl | rfl | rfl
        · exact (show Tryz.prog.wantsStandIn 22 = false by kernel_rfl)
        · exact (show Tryz.prog.wantsStandIn 23 = false by kernel_rfl)
        · exact (show Tryz.prog.wantsStandIn 3 = false by kernel_rfl)⟩)
    (by kernel_rfl)
#print axioms accruePlans_holds
end Go.Proofs.YtioegjmcpjnmnaaGreatDoor
