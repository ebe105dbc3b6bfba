/-
  CloseEmpty: whatever the input, the law returns true, and the input reads as it did (the tables and the handle of the errors laid as the program lays them).
-/
import Derived.Test.YteiidlapekocoaaGreatDoorProg
import Derived.WalkKit
import Derived.WalkSpells
import Derived.LaidEql
import Derived.Stop.Asserts
import Derived.RowKitTokens
import Derived.Below
import Derived.Test.YteiidlapekocoaaGreatDoorZd13
import Derived.Test.YteiidlapekocoaaGreatDoorZd4
import Derived.Test.YteiidlapekocoaaGreatDoorZd5
import Derived.Test.YteiidlapekocoaaGreatDoorZd3
import Derived.Test.YteiidlapekocoaaGreatDoorZd27
import Derived.Deep.Slices
import Derived.OpenShut
import Derived.Test.YteiidlapekocoaaGreatDoorRows
import Derived.Test.YteiidlapekocoaaGreatDoorCards
import Derived.Test.YteiidlapekocoaaGreatDoorTie
import Derived.ChangeSame
import Derived.ChangeVars
import Derived.JoinedOf
import Derived.RowKit
import Derived.LaidLaws
import Derived.LaidHandle
import Derived.Stop.Joined
import Derived.SevenTiedAt
import Derived.ProofKit
import Derived.ShutString
import Derived.ChangeOld
import Derived.SizedLaws
import Derived.Lib.LaidTab
import Derived.Stop.LaidErr
namespace Go.Proofs.YteiidlapekocoaaGreatDoor
set_option linter.unusedVariables false
open Go.RowKit Go.Extern.Stop Go.Stop Go.Extern

theorem valueOfP (t : Addr) (w : World) : (ReflectliteValue.unpack (.iface 109 (.pointer (some t)))).run Tryz.prog w
    = .ok (.agg #[.pointer (some ⟨6, 109, none⟩), .pointer (some ⟨w.heap.size, 0, none⟩), .int .u64 150]) (w.alloc (.cells #[.pointer (some t)] 109)) := by kernel_rfl
theorem typeP (a : Addr) (w : World) : (ReflectliteValue.methodAny (ReflectliteValue.valueError "reflectlite.Value.Type" 0) (fun t _ _ _ => ReflectliteType.toType t) #[.agg #[.pointer (some ⟨6, 109, none⟩), .pointer (some a), .int .u64 150]]).run Tryz.prog w
    = .ok (.iface 227 (.agg #[.pointer (some ⟨6, 109, none⟩)])) w := by kernel_rfl
theorem methodKind (h : Value) (w : World) : (Go.method 439 227 (.agg #[h]) "Kind").run Tryz.prog w = .ok (245, h) w := by kernel_rfl
theorem kindP (w : World) : ((ReflectliteType.abiMethod fun t => Functor.map (fun a : Nat => Value.int IntKind.u8 (a : Int)) (Rtype.kind t)) #[.pointer (some ⟨6, 109, none⟩)]).run Tryz.prog w = .ok (.int .u8 22) w := by kernel_rfl
theorem kindE (w : World) : ((ReflectliteType.abiMethod fun t => Functor.map (fun a : Nat => Value.int IntKind.u8 (a : Int)) (Rtype.kind t)) #[.pointer (some ⟨6, 48, none⟩)]).run Tryz.prog w = .ok (.int .u8 2) w := by kernel_rfl
theorem rlm (z : Sem Value) (f : TypeId → Addr → Nat → Nat → Sem Value) (v : Value) :
    ReflectliteValue.method z f #[v] = (do match ← ReflectliteValue.parts v with | none => z | some (t, a, fl) => f t a fl (fl % 32)) := rfl
theorem partsP (a : Addr) (w : World) : (ReflectliteValue.parts (.agg #[.pointer (some ⟨6, 109, none⟩), .pointer (some a), .int .u64 150])).run Tryz.prog w = .ok (some (109, a, 150)) w := by kernel_rfl
theorem isNilP (a p : Addr) (W : World) (ha : W.cell? a = some (.pointer (some p))) :
    (ReflectliteValue.method (ReflectliteValue.valueError "reflectlite.Value.IsNil" 0) ReflectliteValue.isNil #[.agg #[.pointer (some ⟨6, 109, none⟩), .pointer (some a), .int .u64 150]]).run Tryz.prog W = .ok (.bool false) W := by
  rw [rlm]
  simp only [Sem.run_bind, partsP, Result.andThen]
  simp [ReflectliteValue.isNil, loadVar, isAgg, underlying, Tryz.underlying109, ha, Result.andThen]
theorem methodElem (h : Value) (w : World) : (Go.method 439 227 (.agg #[h]) "Elem").run Tryz.prog w = .ok (255, .agg #[h]) w := by kernel_rfl
theorem methodImplements (h : Value) (w : World) : (Go.method 439 227 (.agg #[h]) "Implements").run Tryz.prog w = .ok (256, .agg #[h]) w := by kernel_rfl
theorem methodAssignableTo (h : Value) (w : World) : (Go.method 439 227 (.agg #[h]) "AssignableTo").run Tryz.prog w = .ok (253, .agg #[h]) w := by kernel_rfl
theorem elemP (w : World) : (ReflectliteType.method ReflectliteType.elem #[.agg #[.pointer (some ⟨6, 109, none⟩)]]).run Tryz.prog w = .ok (.iface 227 (.agg #[.pointer (some ⟨6, 48, none⟩)])) w := by kernel_rfl
theorem implementsE (w : World) : (ReflectliteType.relation "Implements" ReflectliteType.implements_ #[.agg #[.pointer (some ⟨6, 48, none⟩)], .iface 227 (.agg #[.pointer (some ⟨6, 25, none⟩)])]).run Tryz.prog w = .ok (.bool true) w := by kernel_rfl
theorem typeOfE (v : Value) (w : World) : (ReflectliteType.typeOf #[.iface 48 v]).run Tryz.prog w = .ok (.iface 227 (.agg #[.pointer (some ⟨6, 48, none⟩)])) w := by kernel_rfl
theorem assignableE (w : World) : (ReflectliteType.relation "AssignableTo" ReflectliteType.assignableTo #[.agg #[.pointer (some ⟨6, 48, none⟩)], .iface 227 (.agg #[.pointer (some ⟨6, 48, none⟩)])]).run Tryz.prog w = .ok (.bool true) w := by kernel_rfl
theorem valueOfE (n : Int) (w : World) : (ReflectliteValue.unpack (.iface 48 (.int .i64 n))).run Tryz.prog w
    = .ok (.agg #[.pointer (some ⟨6, 48, none⟩), .pointer (some ⟨w.heap.size, 0, none⟩), .int .u64 130]) (w.alloc (.cells #[.int .i64 n] 48)) := by kernel_rfl
theorem elemOfP (w : World) : (Rtype.elem? 109).run Tryz.prog w = .ok (some 48) w := by kernel_rfl
theorem mkE (p : Addr) (w : World) : (ReflectliteValue.mk 48 p ReflectliteValue.flagAddr).run Tryz.prog w = .ok (.agg #[.pointer (some ⟨6, 48, none⟩), .pointer (some p), .int .u64 386]) w := by kernel_rfl
theorem elemVP (a p : Addr) (W : World) (ha : W.cell? a = some (.pointer (some p))) :
    (ReflectliteValue.method (ReflectliteValue.valueError "reflectlite.Value.Elem" 0) ReflectliteValue.elem #[.agg #[.pointer (some ⟨6, 109, none⟩), .pointer (some a), .int .u64 150]]).run Tryz.prog W
      = .ok (.agg #[.pointer (some ⟨6, 48, none⟩), .pointer (some p), .int .u64 386]) W := by
  rw [rlm]
  simp only [Sem.run_bind, partsP, Result.andThen]
  simp [ReflectliteValue.elem, loadVar, isAgg, underlying, Tryz.underlying109, ha, Result.andThen, elemOfP, mkE]
theorem rls (v x : Value) : ∃ s1 s2 s3 s4 s5 : String, ReflectliteValue.set #[v, x] = (do
    let (some (dst, a, fl), some (src, b, _)) := (← ReflectliteValue.parts v, ← ReflectliteValue.parts x)
      | unsupported (.noEntry s1)
    if fl / ReflectliteValue.flagAddr % 2 == 0 then unsupported (.noEntry s2)
    let val ← loadVar src b
    if ← Rtype.directlyAssignable dst src then storeVar dst a val
    else if ← Rtype.implements dst src then
      if (← Rtype.kind src) == 20 then
        match val with
        | .nilIface => unsupported (.noEntry s3)
        | _ => storeVar dst a val
      else storeVar dst a (.iface src val)
    else panicString (s4 ++ (← Rtype.spelt src) ++ s5 ++ (← Rtype.spelt dst))
    pure (.tuple #[])) := ⟨_, _, _, _, _, rfl⟩
theorem partsEa (a : Addr) (w : World) : (ReflectliteValue.parts (.agg #[.pointer (some ⟨6, 48, none⟩), .pointer (some a), .int .u64 386])).run Tryz.prog w = .ok (some (48, a, 386)) w := by kernel_rfl
theorem partsE (a : Addr) (w : World) : (ReflectliteValue.parts (.agg #[.pointer (some ⟨6, 48, none⟩), .pointer (some a), .int .u64 130])).run Tryz.prog w = .ok (some (48, a, 130)) w := by kernel_rfl
theorem directE (w : World) : (Rtype.directlyAssignable 48 48).run Tryz.prog w = .ok true w := by kernel_rfl
theorem setE (ta b : Addr) (n : Int) (old : Value) (W : World) (hb : W.cell? b = some (.int .i64 n)) (ht : W.cell? ta = some old) (hf : W.frozen? ta = false) :
    (ReflectliteValue.set #[.agg #[.pointer (some ⟨6, 48, none⟩), .pointer (some ta), .int .u64 386], .agg #[.pointer (some ⟨6, 48, none⟩), .pointer (some b), .int .u64 130]]).run Tryz.prog W
      = .ok (.tuple #[]) (W.setCell ta (.int .i64 n)) := by
  obtain ⟨s1, s2, s3, s4, s5, h⟩ := rls (.agg #[.pointer (some ⟨6, 48, none⟩), .pointer (some ta), .int .u64 386]) (.agg #[.pointer (some ⟨6, 48, none⟩), .pointer (some b), .int .u64 130])
  rw [h]
  simp only [Sem.run_bind, partsEa, partsE, Result.andThen]
  simp [ReflectliteValue.flagAddr, loadVar, isAgg, underlying, Tryz.underlying48, hb, Result.andThen, directE, storeVar, Value.cells, storeCells, Addr.add]
  rw [run_store Tryz.prog W ta _ _ (by rfl)]
  simp [ht, hf]
end Go.Proofs.YteiidlapekocoaaGreatDoor

namespace Go.Proofs.YteiidlapekocoaaGreatDoor
set_option linter.unusedVariables false
open Go.RowKit Go.Extern.Stop Go.Stop Go.Extern

set_option maxHeartbeats 4000000 in
theorem as_hit (n : Int) (t : Addr) (old : Value) (w : World) (hg : w.cell? ⟨0, 0, none⟩ = some (.iface 227 (.agg #[.pointer (some ⟨6, 25, none⟩)]))) (ht0 : w.cell? t = some old) (hf0 : w.frozen? t = false) :
    Calls Tryz.prog 61 #[.iface 48 (.int .i64 n), .iface 109 (.pointer (some t))] w fun ev w' => ev = .returned (.bool true) ∧ ∃ o1 o2 o3 o4, w' = ((((w.alloc o1).alloc o2).alloc o3).alloc o4).setCell t (.int .i64 n) := by
  have h6 := @run_callFunc_extern Tryz.prog 103 _ (fun args => ReflectliteValue.unpack (args.getD 0 (.tuple #[]))) Tryz.func103 (by kernel_rfl) (by kernel_rfl) (by kernel_rfl) (by kernel_rfl)
  have h7 := @run_callFunc_extern Tryz.prog 104 _ (ReflectliteValue.methodAny (ReflectliteValue.valueError "reflectlite.Value.Type" 0) (fun t _ _ _ => ReflectliteType.toType t)) Tryz.func104 (by kernel_rfl) (by kernel_rfl) (by kernel_rfl) (by kernel_rfl)
  have h8 := @run_callFunc_extern Tryz.prog 105 _ (ReflectliteValue.method (ReflectliteValue.valueError "reflectlite.Value.IsNil" 0) ReflectliteValue.isNil) Tryz.func105 (by kernel_rfl) (by kernel_rfl) (by kernel_rfl) (by kernel_rfl)
  have h27 := @run_callFunc_extern Tryz.prog 245 _ (ReflectliteType.abiMethod fun t => do pure (.int .u8 (← Rtype.kind t))) Tryz.func245 (by kernel_rfl) (by kernel_rfl) (by kernel_rfl) (by kernel_rfl)
  have h37 := @run_callFunc_extern Tryz.prog 255 _ (ReflectliteType.method ReflectliteType.elem) Tryz.func255 (by kernel_rfl) (by kernel_rfl) (by kernel_rfl) (by kernel_rfl)
  have h38 := @run_callFunc_extern Tryz.prog 256 _ (ReflectliteType.relation "Implements" ReflectliteType.implements_) Tryz.func256 (by kernel_rfl) (by kernel_rfl) (by kernel_rfl) (by kernel_rfl)
  have h10 := @run_callFunc_extern Tryz.prog 143 _ ReflectliteType.typeOf Tryz.func143 (by kernel_rfl) (by kernel_rfl) (by kernel_rfl) (by kernel_rfl)
  have h35 := @run_callFunc_extern Tryz.prog 253 _ (ReflectliteType.relation "AssignableTo" ReflectliteType.assignableTo) Tryz.func253 (by kernel_rfl) (by kernel_rfl) (by kernel_rfl) (by kernel_rfl)
  have h11 := @run_callFunc_extern Tryz.prog 144 _ (ReflectliteValue.method (ReflectliteValue.valueError "reflectlite.Value.Elem" 0) ReflectliteValue.elem) Tryz.func144 (by kernel_rfl) (by kernel_rfl) (by kernel_rfl) (by kernel_rfl)
  have h12 := @run_callFunc_extern Tryz.prog 145 _ ReflectliteValue.set Tryz.func145 (by kernel_rfl) (by kernel_rfl) (by kernel_rfl) (by kernel_rfl)
  have tO := typeOfE
  have mA := methodAssignableTo
  have aE := assignableE
  have vE := valueOfE
  have f6 := valueOfP
  have f7 := typeP
  have mK := methodKind
  have mE := methodElem
  have mI := methodImplements
  have kP := kindP
  have kE := kindE
  have eP := elemP
  have iE := implementsE
  have n8 := isNilP ⟨w.heap.size, 0, none⟩ t ((w.alloc (.cells #[.pointer (some t)] 109)).alloc (.cells #[.pointer (some ⟨6, 109, none⟩), .pointer (some ⟨w.heap.size, 0, none⟩), .int .u64 150] 177)) (by simp)
  have hlt : 0 < w.heap.size := World.block_lt_of_cell? _ _ hg
  have hg2 : ((w.alloc (.cells #[.pointer (some t)] 109)).alloc (.cells #[.pointer (some ⟨6, 109, none⟩), .pointer (some ⟨w.heap.size, 0, none⟩), .int .u64 150] 177)).cell? ⟨0, 0, none⟩ = some (.iface 227 (.agg #[.pointer (some ⟨6, 25, none⟩)])) := by
    rw [World.cell?_alloc_lt _ _ ⟨0, 0, none⟩ (by simp <;> omega), World.cell?_alloc_lt _ _ ⟨0, 0, none⟩ hlt]; exact hg
  have htl : t.block < w.heap.size := World.block_lt_of_cell? _ _ ht0
  generalize hW3 : (((w.alloc (.cells #[.pointer (some t)] 109)).alloc (.cells #[.pointer (some ⟨6, 109, none⟩), .pointer (some ⟨w.heap.size, 0, none⟩), .int .u64 150] 177)).alloc (.cells #[.pointer (some ⟨6, 109, none⟩), .pointer (some ⟨w.heap.size, 0, none⟩), .int .u64 150] 177)) = W3
  have k0 : W3.cell? ⟨w.heap.size, 0, none⟩ = some (.pointer (some t)) := by
    rw [← hW3, World.cell?_alloc_lt _ _ _ (by simp <;> omega), World.cell?_alloc_lt _ _ _ (by simp)]; simp
  have ksz : W3.heap.size = w.heap.size + 1 + 1 + 1 := by rw [← hW3]; simp
  have k1 : W3.cell? t = some old := by
    rw [← hW3, World.cell?_alloc_lt _ _ t (by simp <;> omega), World.cell?_alloc_lt _ _ t (by simp <;> omega), World.cell?_alloc_lt _ _ t htl]; exact ht0
  have k2 : W3.frozen? t = false := by
    rw [← hW3, World.frozen?_alloc_old _ _ t (by simp <;> omega), World.frozen?_alloc_old _ _ t (by simp <;> omega), World.frozen?_alloc_old _ _ t (Nat.ne_of_lt htl)]; exact hf0
  have el := elemVP ⟨w.heap.size, 0, none⟩ t W3 k0
  have st := setE t ⟨w.heap.size + 1 + 1 + 1, 0, none⟩ n old (W3.alloc (.cells #[.int .i64 n] 48)) (by rw [← ksz]; simp)
    (by rw [World.cell?_alloc_lt _ _ t (by omega)]; exact k1) (by rw [World.frozen?_alloc_old _ _ t (by omega)]; exact k2)
  subst hW3
  clear k0 k1 k2 ksz
  go_enter Tryz.func61, Tryz.ntmps61
  go_wp2
  refine wp_loop_rounds 1 ?_
  rw [rounds_succ]
  go_wp2
  go_ret
  exact ⟨rfl, _, _, _, _, rfl⟩

theorem told_errno (n : Int) (w : World) (hg : w.cell? ⟨0, 0, none⟩ = some (.iface 227 (.agg #[.pointer (some ⟨6, 25, none⟩)]))) :
    Calls Tryz.prog 31 #[.iface 48 (.int .i64 n)] w fun e w' => e = .returned (.int .i64 n) ∧ Below w.heap.size w w' := by
  go_enter Tryz.func31, Tryz.ntmps31
  go_wp2_with fail
  have hlt : 0 < w.heap.size := World.block_lt_of_cell? _ _ hg
  refine (as_hit n ⟨w.heap.size, 0, none⟩ (.int .i64 0) _ (by rw [World.cell?_alloc_lt _ _ _ hlt]; exact hg) (by simp) (by simp)).mono ?_
  rintro e w' ⟨rfl, o1, o2, o3, o4, hw⟩
  have hc : w'.cell? ⟨w.heap.size, 0, none⟩ = some (.int .i64 n) := by
    rw [hw]
    refine World.cell?_setCell_same _ _ _ (?_ : _ = some (.int .i64 0))
    rw [World.cell?_alloc_lt _ _ _ (by simp <;> omega), World.cell?_alloc_lt _ _ _ (by simp <;> omega), World.cell?_alloc_lt _ _ _ (by simp <;> omega), World.cell?_alloc_lt _ _ _ (by simp)]
    simp
  have hb : Below w.heap.size w w' := by
    rw [hw]
    refine Below.setCell (p := ⟨w.heap.size, 0, none⟩) ?_ (Nat.le_refl w.heap.size) _
    exact ((((((Below.refl _ _).alloc (Nat.le_refl _) _).alloc (by simp) _).alloc (by simp <;> omega) _).alloc (by simp <;> omega) _).alloc (by simp <;> omega) _)
  clear hw o1 o2 o3 o4
  go_wp2
  go_ret
  exact ⟨rfl, hb⟩

theorem error_errno (n m : Int) (w : World) (h1 : -9223372036854775808 ≤ n) (h2 : n ≤ 9223372036854775807) (hg : w.cell? ⟨0, 0, none⟩ = some (.iface 227 (.agg #[.pointer (some ⟨6, 25, none⟩)]))) :
    Calls Tryz.prog 11 #[.iface 48 (.int .i64 n), .int .i64 m] w fun e w' => e = .returned (.bool (n == m)) ∧ Below w.heap.size w w' := by
  go_enter Tryz.func11, Tryz.ntmps11
  go_wp2_with fail
  refine (told_errno n _ hg).mono ?_
  rintro e w' ⟨rfl, hb⟩
  go_wp2
  go_ret
  exact ⟨rfl, hb⟩
end Go.Proofs.YteiidlapekocoaaGreatDoor

namespace Go.Proofs.YteiidlapekocoaaGreatDoor
set_option linter.unusedVariables false
open Go.RowKit

def ErrT (w : World) : Prop := w.cell? ⟨0, 0, none⟩ = some (.iface 227 (.agg #[.pointer (some ⟨6, 25, none⟩)]))
theorem ErrT.lt {w : World} (h : ErrT w) : 0 < w.heap.size := World.block_lt_of_cell? _ _ h
theorem ErrT.below {w w' : World} {B : Nat} (h : ErrT w) (hb : Below B w w') (hB : w.heap.size ≤ B) : ErrT w' := by
  unfold ErrT
  rw [hb.cell (p := ⟨0, 0, none⟩) (Nat.lt_of_lt_of_le h.lt hB)]
  exact h

end Go.Proofs.YteiidlapekocoaaGreatDoor

namespace Go.Proofs.YteiidlapekocoaaGreatDoor
set_option linter.unusedVariables false
set_option linter.unusedSimpArgs false
set_option maxRecDepth 100000
open Go.RowKit Go.Lib

end Go.Proofs.YteiidlapekocoaaGreatDoor

namespace Go.Proofs.YteiidlapekocoaaGreatDoor
set_option linter.unusedVariables false
set_option linter.unusedSimpArgs false
set_option maxRecDepth 100000
open Go.RowKit Go.Lib

theorem ce_chGo : ∀ (r pre : List Ac), -9223372036854775808 ≤ chGo pre r ∧ chGo pre r ≤ 9223372036854775807
  | [], _ => by simp [chGo]
  | x :: r, pre => by
    rw [chGo]
    split
    · unfold nextBad
      split
      · omega
      · split
        · omega
        · split
          · omega
          · unfold parBad
            split
            · omega
            · split
              · omega
              · split <;> omega
    · exact ce_chGo r _
theorem ce_lines (c : List Ac) : ∀ l : List Ln, -9223372036854775808 ≤ linesBad c l ∧ linesBad c l ≤ 9223372036854775807
  | [] => by simp [linesBad]
  | x :: l => by
    rw [linesBad]
    split
    · unfold lnBad
      split
      · omega
      · split
        · omega
        · split
          · omega
          · split <;> omega
    · exact ce_lines c l
theorem ce_entBad (c : List Ac) (r : ByteArray) (en pe : Int) (l : List Ln) : -9223372036854775808 ≤ entBad c r en pe l ∧ entBad c r en pe l ≤ 9223372036854775807 := by
  unfold entBad
  split
  · unfold chBad
    split
    · omega
    · exact ce_chGo c []
  · split
    · unfold headBad
      split
      · omega
      · split
        · omega
        · split
          · omega
          · split <;> omega
    · split
      · exact ce_lines c l
      · split <;> omega
end Go.Proofs.YteiidlapekocoaaGreatDoor

namespace Go.Proofs.YteiidlapekocoaaGreatDoor
set_option linter.unusedVariables false
set_option linter.unusedSimpArgs false
set_option maxRecDepth 100000
open Go.RowKit Go.Lib

set_option maxHeartbeats 16000000 in
theorem empty_walk (a : Option Addr) (cap : Nat) (c : List Ac) (pe : Int) (ref : ByteArray) (w : World) (h : IsSl w a c cap) (wf : -9223372036854775808 ≤ pe ∧ pe ≤ 9223372036854775807) (ht : TabW w) (hg : ErrT w) :
    Calls Tryz.prog 3 #[.slice a c.length cap, .int .i64 pe, .string ref] w fun e w' => e = .returned (.bool true) ∧ Below w.heap.size w w' := by
  have HA : Hid (Calls _ _ _ _ _) := accounts_any w
  have HN1 : Hid (∀ U a1 c1, IsSl U a1 jC c1 → Calls Tryz.prog 4 #[.slice a1 5 c1, .slice none 0 0, .string ⟨#[69, 85, 82]⟩, .string ⟨#[52, 48]⟩, .string ⟨#[51, 48]⟩] U fun e w' => ∃ B P, e = .returned (.tuple #[.pointer (some ⟨B, 0, none⟩), .nilIface]) ∧ Hid (ClAt w' U.heap.size w'.heap.size B P (emS jC ⟨#[69, 85, 82]⟩ ⟨#[52, 48]⟩ ⟨#[51, 48]⟩ (stN ((5 : Nat) : Int) 0)) ∧ Below U.heap.size U w')) := fun U a1 c1 hs => by
    refine (new_any a1 none c1 0 jC [] _ _ _ U hs ⟨Nat.le_refl _, .inl rfl⟩ (fun k hk => absurd hk (by simp))).mono ?_
    rintro e w' ⟨_, h2⟩
    obtain ⟨B, P, rfl, hh⟩ := h2 em_fact
    exact ⟨B, P, rfl, hh.out.1, hh.out.2.1⟩
  have HTw : Hid (∀ W U n, Below w.heap.size w W → w.heap.size ≤ n → Below n W U → TabW U) := fun W U n h1 h2 h3 => ht.below (h1.trans (h3.mono h2))
  have HSl : Hid (∀ U, Below w.heap.size w U → IsSl U a c cap) := fun U hU => h.below hU
  have HAd1 : Hid (∀ U n0 m0 B P, Below w.heap.size w U → w.heap.size ≤ n0 → ClAt U n0 m0 B P (emS jC ⟨#[69, 85, 82]⟩ ⟨#[52, 48]⟩ ⟨#[51, 48]⟩ (stN ((5 : Nat) : Int) 0)) → Calls Tryz.prog 6 #[.pointer (some ⟨B, 0, none⟩), .int .i64 5] U fun e w' => e = .returned (.tuple #[.int .i64 0, .nilIface]) ∧ ∃ P', Hid (ClAt w' n0 m0 B P' (emS jC ⟨#[69, 85, 82]⟩ ⟨#[52, 48]⟩ ⟨#[51, 48]⟩ (stN ((5 : Nat) : Int) 1)) ∧ Below w.heap.size w w')) := fun U n0 m0 B P hU hn hc => by
    refine (adv_em (p := 5) (i := 0) hc em_fact (by omega) (by omega) (fun V hV => HTw.out U V n0 hU hn hV)).mono ?_
    rintro e w' ⟨rfl, P', hh⟩
    exact ⟨rfl, P', hh.out.1, hU.trans (hh.out.2.mono hn)⟩
  have HSt1 : Hid (∀ U n0 m0 B P, ClAt U n0 m0 B P (emS jC ⟨#[69, 85, 82]⟩ ⟨#[52, 48]⟩ ⟨#[51, 48]⟩ (stN ((5 : Nat) : Int) 1)) → Calls Tryz.prog 7 #[.pointer (some ⟨B, 0, none⟩), .int .i64 5] U fun e w' => e = .returned (.int .i64 1) ∧ w' = U) := fun U n0 m0 B P hc => by
    refine (stage_any hc 5).mono ?_
    rintro e w' ⟨rfl, rfl⟩
    exact ⟨rfl, rfl⟩
  have HNw : Hid (∀ U, Below w.heap.size w U → Calls Tryz.prog 4 #[.slice a c.length cap, .slice none 0 0, .string ⟨#[69, 85, 82]⟩, .string ⟨#[52, 48]⟩, .string ⟨#[51, 48]⟩] U (NwEnd c [] ⟨#[69, 85, 82]⟩ ⟨#[52, 48]⟩ ⟨#[51, 48]⟩ (nwBad c [] ⟨#[69, 85, 82]⟩ ⟨#[52, 48]⟩ ⟨#[51, 48]⟩) U)) := fun U hU =>
    new_any a none cap 0 c [] _ _ _ U (h.below hU) ⟨Nat.le_refl _, .inl rfl⟩ (fun k hk => absurd hk (by simp))
  have HEr0 : Hid (∀ n U, -9223372036854775808 ≤ n → n ≤ 9223372036854775807 → Below w.heap.size w U → Calls Tryz.prog 11 #[.iface 48 (.int .i64 n), .int .i64 7] U fun e w' => e = .returned (.bool (n == 7)) ∧ Below U.heap.size U w') := fun n U h1 h2 hU => error_errno n 7 U h1 h2 (hg.below hU (Nat.le_refl _))
  obtain ⟨BA, hBA⟩ : ∃ BA : ByteArray, BA = ⟨#[69, 85, 82]⟩ := ⟨_, rfl⟩
  clear h ht hg hBA BA
  go_enter Tryz.func3, Tryz.ntmps3
  go_wp2_with fail
  refine HA.out.mono ?_
  rintro e w1 ⟨rfl, hs1, hb1⟩
  have HN2 : Hid (Calls _ _ _ _ _) := HN1.out w1 _ 5 hs1
  have HB1 : Hid (Below w.heap.size w w1) := hb1
  clear HA HN1 hs1 hb1
  go_wp2_with fail
  refine HN2.out.mono ?_
  rintro e w2 ⟨B1, P1, rfl, h2⟩
  have HB2 : Hid (Below w.heap.size w w2) := HB1.out.trans (h2.out.2.mono HB1.out.size)
  have HA2 : Hid (Calls _ _ _ _ _) := HAd1.out w2 w1.heap.size w2.heap.size B1 P1 HB2.out HB1.out.size h2.out.1
  clear HN2 h2 HAd1
  go_wp2_with fail
  refine HA2.out.mono ?_
  rintro e w3 ⟨rfl, P2, h3⟩
  have HS3 : Hid (Calls _ _ _ _ _) := HSt1.out w3 _ _ B1 P2 h3.out.1
  have HB3 : Hid (Below w.heap.size w w3) := h3.out.2
  clear HA2 h3 HSt1 HB1 HB2
  go_wp2_with fail
  refine HS3.out.mono ?_
  rintro e w' ⟨rfl, hw⟩
  rw [hw]; clear hw w' HS3
  have HN3 : Hid (Calls _ _ _ _ _) := HNw.out w3 HB3.out
  clear HNw
  by_cases cb : nwBad c [] ⟨#[69, 85, 82]⟩ ⟨#[52, 48]⟩ ⟨#[51, 48]⟩ ≠ 0
  · have HN4 : Hid (Calls Tryz.prog 4 #[.slice a c.length cap, .slice none 0 0, .string ⟨#[69, 85, 82]⟩, .string ⟨#[52, 48]⟩, .string ⟨#[51, 48]⟩] w3 fun e w' => ∃ n, e = .returned (.tuple #[.pointer none, .iface 48 (.int .i64 n)]) ∧ Below w.heap.size w w') := by
      refine HN3.out.mono ?_
      rintro e w' ⟨k1, _⟩
      obtain ⟨k2, k3⟩ := k1 cb
      rw [chE_ne cb] at k2
      exact ⟨_, k2, HB3.out.trans (k3.mono HB3.out.size)⟩
    clear HN3 cb HTw HEr0 HSl
    go_wp2_with fail
    refine HN4.out.mono ?_
    rintro e w4 ⟨n, rfl, hb4⟩
    have HB4 : Hid (Below w.heap.size w w4) := hb4
    clear HN4 hb4
    go_wp2
    go_ret
    exact ⟨rfl, HB4.out⟩
  have cb' := Decidable.of_not_not cb
  have HN4 : Hid (Calls Tryz.prog 4 #[.slice a c.length cap, .slice none 0 0, .string ⟨#[69, 85, 82]⟩, .string ⟨#[52, 48]⟩, .string ⟨#[51, 48]⟩] w3 fun e w' => ∃ B P, e = .returned (.tuple #[.pointer (some ⟨B, 0, none⟩), .nilIface]) ∧ Hid (ClAt w' w3.heap.size w'.heap.size B P (csNew c [] ⟨#[69, 85, 82]⟩ ⟨#[52, 48]⟩ ⟨#[51, 48]⟩) ∧ Below w.heap.size w w')) := by
    refine HN3.out.mono ?_
    rintro e w' ⟨_, k1⟩
    obtain ⟨B, P, rfl, hh⟩ := k1 cb'
    exact ⟨B, P, rfl, hh.out.1, HB3.out.trans (hh.out.2.1.mono HB3.out.size)⟩
  have HCb : Hid (nwBad c [] ⟨#[69, 85, 82]⟩ ⟨#[52, 48]⟩ ⟨#[51, 48]⟩ = 0) := cb'
  have HZ3 : Hid (w.heap.size ≤ w3.heap.size) := HB3.out.size
  clear HN3 cb cb' HB3
  go_wp2_with fail
  refine HN4.out.mono ?_
  rintro e w4 ⟨B, P, rfl, h4⟩
  have HB4 : Hid (Below w.heap.size w w4) := h4.out.2
  clear HN4
  by_cases p1 : pe < 2
  · clear h4 HTw HEr0 HSl HCb HZ3
    go_wp2
    go_ret
    exact ⟨rfl, HB4.out⟩
  by_cases p2 : 120 < pe
  · clear h4 HTw HEr0 HSl HCb HZ3
    go_wp2
    go_ret
    exact ⟨rfl, HB4.out⟩
  obtain ⟨p, rfl⟩ : ∃ p : Nat, pe = (p : Int) := ⟨pe.toNat, by omega⟩
  have hp : 2 ≤ p ∧ p ≤ 120 := by omega
  have HI0 : Hid (∃ P', ClAt w4 w3.heap.size w4.heap.size B P' (emS c ⟨#[69, 85, 82]⟩ ⟨#[52, 48]⟩ ⟨#[51, 48]⟩ (stN (p : Int) 0)) ∧ Below w.heap.size w w4) := ⟨P, h4.out.1, h4.out.2⟩
  obtain ⟨n0, hn0⟩ : ∃ n0, w3.heap.size = n0 := ⟨_, rfl⟩
  obtain ⟨m0, hm0⟩ : ∃ m0, w4.heap.size = m0 := ⟨_, rfl⟩
  rw [hn0, hm0] at HI0
  rw [hn0] at HZ3
  have wp : IntKind.i64.wrap ((p : Int) - 1) = (p : Int) - 1 := by
    simp only [IntKind.wrap, IntKind.bits, IntKind.signed]
    simp
    omega
  clear h4 hn0 hm0 wf HB4
  go_wp2
  go_loopw [12] (fun i wr => ∃ k : Nat, k ≤ 6 ∧ i = .int .i64 k ∧ Hid (∃ P', ClAt wr n0 m0 B P' (emS c ⟨#[69, 85, 82]⟩ ⟨#[52, 48]⟩ ⟨#[51, 48]⟩ (stN (p : Int) k)) ∧ Below w.heap.size w wr)) (fun i _ => 6 - (RowKit.intOf i).toNat)
  case atStart => exact ⟨0, by omega, rfl, HI0⟩
  case round =>
    obtain ⟨k, hk, rfl, HI⟩ := hrel
    clear HI0
    obtain ⟨P3, j3, b3⟩ := HI.out
    by_cases hk6 : k < 6
    · have i1 : (k : Int) < 6 := by omega
      have HAd : Hid (Calls _ _ _ _ _) := adv_em (p := p) (i := k) j3 HCb.out (by omega) hk6 (fun V hV => HTw.out wr V n0 b3 HZ3.out hV)
      have HAd2 : Hid (Calls Tryz.prog 6 #[.pointer (some ⟨B, 0, none⟩), .int .i64 (p : Int)] wr fun e w' => e = .returned (.tuple #[.int .i64 0, .nilIface]) ∧ Hid (∃ P', ClAt w' n0 m0 B P' (emS c ⟨#[69, 85, 82]⟩ ⟨#[52, 48]⟩ ⟨#[51, 48]⟩ (stN (p : Int) (k + 1))) ∧ Below w.heap.size w w')) := by
        refine HAd.out.mono ?_
        rintro e w' ⟨rfl, P', hh⟩
        exact ⟨rfl, P', hh.out.1, b3.trans (hh.out.2.mono HZ3.out)⟩
      clear HAd HI j3 b3
      go_wp2_with fail
      refine HAd2.out.mono ?_
      rintro e w5 ⟨rfl, H5⟩
      have HS5 : Hid (Calls Tryz.prog 7 #[.pointer (some ⟨B, 0, none⟩), .int .i64 (p : Int)] w5 fun e w' => e = .returned (.int .i64 ((k : Int) + 1)) ∧ w' = w5) := by
        obtain ⟨P5, j5, _⟩ := H5.out
        refine (stage_any j5 p).mono ?_
        rintro e w' ⟨rfl, rfl⟩
        refine ⟨?_, rfl⟩
        have : sgOf (emS c ⟨#[69, 85, 82]⟩ ⟨#[52, 48]⟩ ⟨#[51, 48]⟩ (stN (p : Int) (k + 1))).st p = ((k + 1 : Nat) : Int) := by show sgOf (stN (p : Int) (k + 1)) p = _; rw [stN_of, if_pos rfl]
        rw [this]
        rfl
      clear HAd2
      go_wp2_with fail
      refine HS5.out.mono ?_
      rintro e w' ⟨rfl, hw⟩
      rw [hw]; clear hw w' HS5
      go_wp2
      go_roundw
      case rel => exact ⟨k + 1, by omega, by go_num, H5⟩
      case measure => simp [RowKit.intOf]; omega
    · have ek : k = 6 := by omega
      subst ek
      have i1 : ¬ ((6 : Nat) : Int) < 6 := by omega
      have HTo : Hid (Calls _ _ _ _ _) := ce_two ref 1 ((p : Int) - 1) ⟨#[49, 48]⟩ ⟨#[52, 48]⟩ 5 wr rfl
      clear HI
      go_wp2_with fail
      refine HTo.out.mono ?_
      rintro e w5 ⟨la, lc, rfl, hl5, hb5⟩
      have b5 := b3.trans (hb5.mono b3.size)
      have j5 := j3.below hb5
      obtain ⟨w6, hw6⟩ : ∃ w6, w5.alloc (.cells #[.string ref, .int .i64 1, .int .i64 ((p : Int) - 1), .slice la 2 lc] 34) = w6 := ⟨_, rfl⟩
      have b56 : Below w5.heap.size w5 w6 := by rw [← hw6]; exact (Below.refl _ w5).alloc (Nat.le_refl _) _
      have x6 : Box4 w6 w5.heap.size ref 1 ((p : Int) - 1) (.slice la 2 lc) := by rw [← hw6]; exact Box4.new w5 ref 1 ((p : Int) - 1) (.slice la 2 lc)
      have hs6 : w5.heap.size < w6.heap.size := by rw [← hw6]; simp
      have HW6 : Hid (w5.alloc (.cells #[.string ref, .int .i64 1, .int .i64 ((p : Int) - 1), .slice la 2 lc] 34) = w6) := hw6
      have b6 := b5.trans (b56.mono b5.size)
      have HX : Hid (∀ U, Below w6.heap.size w6 U → ClAt U n0 m0 B P3 (emS c ⟨#[69, 85, 82]⟩ ⟨#[52, 48]⟩ ⟨#[51, 48]⟩ (stN (p : Int) 6)) ∧ Box4 U w5.heap.size ref 1 ((p : Int) - 1) (.slice la 2 lc) ∧ IsLn U la [⟨⟨#[49, 48]⟩, ⟨#[69, 85, 82]⟩, 5⟩, ⟨⟨#[52, 48]⟩, ⟨#[69, 85, 82]⟩, -5⟩] lc ∧ Below w.heap.size w U) := fun U hU => by
        have b6U := b56.trans (hU.mono b56.size)
        exact ⟨j5.below b6U, x6.below hU hs6, hl5.below b6U, b6.trans (hU.mono b6.size)⟩
      have HCk : Hid (Calls Tryz.prog 9 #[.slice a c.length cap, .agg #[.string ref, .int .i64 1, .int .i64 ((p : Int) - 1), .slice la 2 lc]] w6 fun e w' => e = .returned (enE (entBad c ref 1 ((p : Int) - 1) [⟨⟨#[49, 48]⟩, ⟨#[69, 85, 82]⟩, 5⟩, ⟨⟨#[52, 48]⟩, ⟨#[69, 85, 82]⟩, -5⟩])) ∧ Below w6.heap.size w6 w') := check_any a cap c ref 1 ((p : Int) - 1) la lc [⟨⟨#[49, 48]⟩, ⟨#[69, 85, 82]⟩, 5⟩, ⟨⟨#[52, 48]⟩, ⟨#[69, 85, 82]⟩, -5⟩] w6 (HSl.out w6 b6) (hl5.below b56)
      have HPo : Hid (∀ U, Below w6.heap.size w6 U → Calls Tryz.prog 10 #[.pointer (some ⟨B, 0, none⟩), .agg #[.string ref, .int .i64 1, .int .i64 ((p : Int) - 1), .slice la 2 lc]] U fun e w' => e = .returned (.tuple #[.int .i64 0, .iface 48 (.int .i64 (psE c ref 1 ((p : Int) - 1) [⟨⟨#[49, 48]⟩, ⟨#[69, 85, 82]⟩, 5⟩, ⟨⟨#[52, 48]⟩, ⟨#[69, 85, 82]⟩, -5⟩]))]) ∧ Below w6.heap.size w6 w') := fun U hU => by
        obtain ⟨y1, _, y3, _⟩ := HX.out U hU
        refine (post_state y1 ref 1 ((p : Int) - 1) la lc [⟨⟨#[49, 48]⟩, ⟨#[69, 85, 82]⟩, 5⟩, ⟨⟨#[52, 48]⟩, ⟨#[69, 85, 82]⟩, -5⟩] y3 ?_ ?_).mono ?_
        · show sgOf (stN (p : Int) 6) ((p : Int) - 1) < 5
          rw [stN_of, if_neg (by omega)]
          omega
        · show ((stN (p : Int) 6).any fun x => decide ((p : Int) - 1 < x.1)) = true
          unfold stN
          simp
          omega
        · rintro e w' ⟨rfl, hb⟩
          exact ⟨rfl, hU.trans (hb.mono hU.size)⟩
      have HEs : Hid (∀ U, Below w6.heap.size w6 U → Calls Tryz.prog 12 #[.pointer (some ⟨B, 0, none⟩)] U fun e w' => ∃ a c, e = .returned (.slice a 0 c) ∧ Below w.heap.size w w') := fun U hU => by
        obtain ⟨y1, _, _, y4⟩ := HX.out U hU
        refine (entries_none y1 rfl).mono ?_
        rintro e w' ⟨a', c', rfl, hb⟩
        exact ⟨a', c', rfl, y4.trans (hb.mono y4.size)⟩
      have HEr : Hid (∀ n U, -9223372036854775808 ≤ n → n ≤ 9223372036854775807 → Below w6.heap.size w6 U → Calls Tryz.prog 11 #[.iface 48 (.int .i64 n), .int .i64 7] U fun e w' => e = .returned (.bool (n == 7)) ∧ Below w6.heap.size w6 w') := fun n U h1 h2 hU => HEr0.out n U h1 h2 (HX.out U hU).2.2.2 |>.mono fun e w' hh => ⟨hh.1, hU.trans (hh.2.mono hU.size)⟩
      have HPb : Hid (psE c ref 1 ((p : Int) - 1) [⟨⟨#[49, 48]⟩, ⟨#[69, 85, 82]⟩, 5⟩, ⟨⟨#[52, 48]⟩, ⟨#[69, 85, 82]⟩, -5⟩] = if entBad c ref 1 ((p : Int) - 1) [⟨⟨#[49, 48]⟩, ⟨#[69, 85, 82]⟩, 5⟩, ⟨⟨#[52, 48]⟩, ⟨#[69, 85, 82]⟩, -5⟩] ≠ 0 then entBad c ref 1 ((p : Int) - 1) [⟨⟨#[49, 48]⟩, ⟨#[69, 85, 82]⟩, 5⟩, ⟨⟨#[52, 48]⟩, ⟨#[69, 85, 82]⟩, -5⟩] else 7) := rfl
      have HBd : Hid (-9223372036854775808 ≤ entBad c ref 1 ((p : Int) - 1) [⟨⟨#[49, 48]⟩, ⟨#[69, 85, 82]⟩, 5⟩, ⟨⟨#[52, 48]⟩, ⟨#[69, 85, 82]⟩, -5⟩] ∧ entBad c ref 1 ((p : Int) - 1) [⟨⟨#[49, 48]⟩, ⟨#[69, 85, 82]⟩, 5⟩, ⟨⟨#[52, 48]⟩, ⟨#[69, 85, 82]⟩, -5⟩] ≤ 9223372036854775807) := ce_entBad c ref 1 ((p : Int) - 1) _
      generalize psE c ref 1 ((p : Int) - 1) [⟨⟨#[49, 48]⟩, ⟨#[69, 85, 82]⟩, 5⟩, ⟨⟨#[52, 48]⟩, ⟨#[69, 85, 82]⟩, -5⟩] = ps at *
      generalize entBad c ref 1 ((p : Int) - 1) [⟨⟨#[49, 48]⟩, ⟨#[69, 85, 82]⟩, 5⟩, ⟨⟨#[52, 48]⟩, ⟨#[69, 85, 82]⟩, -5⟩] = eb at *
      have hpsb : -9223372036854775808 ≤ ps ∧ ps ≤ 9223372036854775807 := by
        have := HBd.out
        rw [HPb.out]
        split <;> omega
      obtain ⟨q, hq⟩ : ∃ q, w5.heap.size = q := ⟨_, rfl⟩
      rw [hq] at HX
      have Hq : Hid (w5.heap.size = q) := hq
      clear HTo hl5 hb5 b3 j3 b5 j5 hw6 b56 x6 hs6 b6 hq HEr0 HTw HSl HCb
      go_upto_region 17 with fail
      rw [HW6.out]
      try rw [Hq.out]
      clear HW6
      have x6 := (HX.out w6 (Below.refl _ _)).2.1
      have d0 := x6.c0
      have d1 := x6.c1
      have d2 := x6.c2
      have d3 := x6.c3
      clear x6
      go_wp2_with fail
      refine HCk.out.mono ?_
      rintro e w7 ⟨rfl, hb7⟩
      have x7 := (HX.out w7 hb7).2.1
      clear d0 d1 d2 d3
      have d0 := x7.c0
      have d1 := x7.c1
      have d2 := x7.c2
      have d3 := x7.c3
      have HP7 : Hid (Calls _ _ _ _ _) := HPo.out w7 hb7
      clear x7 HCk hb7 HPo
      obtain ⟨E, hE⟩ : ∃ E, enE eb = E := ⟨_, rfl⟩
      have HE : Hid (enE eb = E) := hE
      rw [hE]
      clear hE
      go_wp2_with fail
      refine HP7.out.mono ?_
      rintro e w8 ⟨rfl, hb8⟩
      have HR8 : Hid (Calls _ _ _ _ _) := HEr.out ps w8 hpsb.1 hpsb.2 hb8
      clear HP7 hb8 HEr d0 d1 d2 d3
      go_wp2_with fail
      refine HR8.out.mono ?_
      rintro e w9 ⟨rfl, hb9⟩
      have HE9 : Hid (Calls _ _ _ _ _) := HEs.out w9 hb9
      clear HR8 hb9 HEs HX
      by_cases c1 : eb = 0
      · have ep : ps = 7 := by rw [HPb.out, c1]; rfl
        have eE : E = .nilIface := by rw [← HE.out, c1]; rfl
        subst ep
        subst eE
        clear HPb HBd HE hpsb c1
        go_wp2_with fail
        refine HE9.out.mono ?_
        rintro e w10 ⟨a10, c10, rfl, hb10⟩
        have HB : Hid (Below w.heap.size w w10) := hb10
        clear HE9 hb10
        go_wp2
        go_ret
        exact ⟨rfl, HB.out⟩
      · have eE : E = .iface 48 (.int .i64 eb) := by rw [← HE.out, enE_ne c1]
        subst eE
        clear HPb HBd HE hpsb
        generalize (ps == 7) = bb at *
        go_wp2_with fail
        refine HE9.out.mono ?_
        rintro e w10 ⟨a10, c10, rfl, hb10⟩
        have HB : Hid (Below w.heap.size w w10) := hb10
        clear HE9 hb10
        go_wp2
        go_ret
        exact ⟨rfl, HB.out⟩
end Go.Proofs.YteiidlapekocoaaGreatDoor

namespace Go.Proofs.YteiidlapekocoaaGreatDoor
set_option linter.unusedVariables false
set_option linter.unusedSimpArgs false
set_option maxRecDepth 100000
open Go.RowKit Go.Lib Go.Deep

section
variable {H : Type} {enc : TypeId × Value → H} {w : World} {base : Nat} {spare : Nat → Bool} {held : Bool}

theorem ch_string {m : Nat} {c : Value} {y : DataW H × List MemPlace} (h : DataW.trod enc Tryz.prog w base spare held m 9 [c] = some y) : ∃ s, c = .string s ∧ s.size ≤ maxLen := by
  cases m with
  | zero => simp [DataW.trod] at h
  | succ m =>
    rw [DataW.trod_step] at h
    unfold DataW.trodStep at h
    rw [Tryz.underlying9] at h
    cases c <;> simp at h
    exact ⟨_, rfl, h.1⟩

theorem ch_int {m : Nat} {c : Value} {y : DataW H × List MemPlace} (h : DataW.trod enc Tryz.prog w base spare held m 3 [c] = some y) : ∃ n, c = .int .i64 n ∧ (Lit.int .i64 n).wf = true := by
  cases m with
  | zero => simp [DataW.trod] at h
  | succ m =>
    rw [DataW.trod_step] at h
    unfold DataW.trodStep at h
    rw [Tryz.underlying3] at h
    cases c <;> simp at h
    rename_i k n
    obtain ⟨⟨rfl, h2⟩, _⟩ := h
    exact ⟨n, rfl, h2⟩

theorem ch_bool {m : Nat} {c : Value} {y : DataW H × List MemPlace} (h : DataW.trod enc Tryz.prog w base spare held m 4 [c] = some y) : ∃ n, c = .bool n := by
  cases m with
  | zero => simp [DataW.trod] at h
  | succ m =>
    rw [DataW.trod_step] at h
    unfold DataW.trodStep at h
    rw [Tryz.underlying4] at h
    cases c <;> simp at h
    exact ⟨_, rfl⟩

def AcOk (a : Ac) : Prop := a.code.size ≤ maxLen ∧ a.name.size ≤ maxLen ∧ (Lit.int .i64 a.kind).wf = true ∧ a.par.size ≤ maxLen

theorem acct_cells : Tryz.prog.cellsOf 54 = 5 := by kernel_rfl
theorem acct_str : Tryz.prog.cellsOf 9 = 1 := by kernel_rfl
theorem acct_int : Tryz.prog.cellsOf 3 = 1 := by kernel_rfl
theorem acct_bool : Tryz.prog.cellsOf 4 = 1 := by kernel_rfl

theorem open_acct {m : Nat} {cs : List Value} {x : DataW H × List MemPlace} (h : DataW.trod enc Tryz.prog w base spare held m 54 cs = some x) : ∃ a : Ac, cs = a.cells.toList ∧ AcOk a := by
  cases m with
  | zero => simp [DataW.trod] at h
  | succ m =>
    rw [DataW.trod_step] at h
    unfold DataW.trodStep at h
    rw [Tryz.underlying54] at h
    simp only [acct_cells] at h
    split at h
    · rename_i hl
      match cs, hl with
      | [c0, c1, c2, c3, c4], _ =>
        simp [acct_str, acct_int, acct_bool] at h
        cases h0 : DataW.trod enc Tryz.prog w base spare held m 9 [c0]
        · simp [h0] at h
        cases h1 : DataW.trod enc Tryz.prog w base spare held m 9 [c1]
        · simp [h0, h1] at h
        cases h2 : DataW.trod enc Tryz.prog w base spare held m 3 [c2]
        · simp [h0, h1, h2] at h
        cases h3 : DataW.trod enc Tryz.prog w base spare held m 9 [c3]
        · simp [h0, h1, h2, h3] at h
        cases h4 : DataW.trod enc Tryz.prog w base spare held m 4 [c4]
        · simp [h0, h1, h2, h3, h4] at h
        obtain ⟨f, rfl, hf⟩ := ch_string h0
        obtain ⟨t, rfl, ht⟩ := ch_string h1
        obtain ⟨p, rfl, hp⟩ := ch_int h2
        obtain ⟨n, rfl, hn⟩ := ch_string h3
        obtain ⟨d, rfl⟩ := ch_bool h4
        exact ⟨⟨f, t, p, n, d⟩, rfl, hf, ht, hp, hn⟩
    · cases h

theorem ac_cells (w : World) (b off : Nat) (a : Ac) (h : ∀ i, i < 5 → w.cell? ⟨b, off + i, none⟩ = a.cells.toList[i]?) : AcAt w b off a :=
  ⟨h 0 (by omega), h 1 (by omega), h 2 (by omega), h 3 (by omega), h 4 (by omega)⟩

theorem ch_add (b off n : Nat) : (⟨b, off, none⟩ : Addr).add n = ⟨b, off + n, none⟩ := by
  unfold Addr.add
  split
  · rename_i h; subst h; rfl
  · rfl

theorem acs_of_trod {W : World} {a : Option Addr} {len cap fuel : Nat} {x : DataW H × List MemPlace} (h : DataW.trod enc Tryz.prog W 0 (fun _ => true) true fuel 22 [.slice a len cap] = some x) :
    ∃ l : List Ac, l.length = len ∧ (∀ k, k < l.length → AcOk (l.getD k ac0)) ∧ IsSl W a l cap := by
  rcases open_slice Tryz.underlying22 h with ⟨hcs, _⟩ | ⟨x, l, c, m, n, D, Pl, hcs, _, hl, hm, hmm, _, hx⟩
  · simp at hcs
    obtain ⟨rfl, rfl, rfl⟩ := hcs
    exact ⟨[], rfl, by simp, ⟨by simp, .inl rfl⟩⟩
  · simp at hcs
    obtain ⟨rfl, rfl, rfl⟩ := hcs
    have hmm2 : m = cap := hmm
    rw [acct_cells] at hx
    have hr : ∀ i, i < len → ∃ r : Ac, (∀ j, j < 5 → W.cell? ((x.add (i * 5)).add j) = r.cells.toList[j]?) ∧ AcOk r := fun i hi => by
      obtain ⟨cs', h1, h2⟩ := hx i (by omega)
      obtain ⟨r, rfl, ok⟩ := open_acct h2
      exact ⟨r, (World.cells?_some h1).2.2, ok⟩
    obtain ⟨f, hf⟩ := @choose_lt Ac ⟨ac0⟩ _ _ hr
    have hget : ∀ k, k < len → ((List.range len).map f).getD k ac0 = f k := fun k hk => by simp [List.getD, hk]
    have hlen : ((List.range len).map f).length = len := by simp
    refine ⟨(List.range len).map f, hlen, fun k hk => ?_, ⟨by rw [hlen]; exact hl, ?_⟩⟩
    · rw [hlen] at hk
      rw [hget k hk]
      exact (hf k hk).2
    · by_cases h0 : len = 0
      · subst h0
        exact .inl rfl
      · right
        obtain ⟨b, off, spot⟩ := x
        have hc : W.cell? ⟨b, off, spot⟩ = some (.string (f 0).code) := (hf 0 (by omega)).1 0 (by omega)
        have hspot : spot = none := World.cell?_spot hc
        subst hspot
        have hlt : b < W.heap.size := World.block_lt_of_cell? _ _ hc
        refine ⟨b, off, rfl, hlt, fun k hk => ?_⟩
        rw [hlen] at hk
        rw [hget k hk]
        refine ac_cells W b (off + k * 5) (f k) (fun i hi => ?_)
        have := (hf k hk).1 i hi
        rw [ch_add, ch_add] at this
        exact this
end
end Go.Proofs.YteiidlapekocoaaGreatDoor

namespace Go.Proofs.YteiidlapekocoaaGreatDoor
open Go.ChangeShapes Go.WideShapes Go.RowKit Go.ChangeAt Go.Deep
open Go.ChangeMaps (open_string shut_string)
set_option linter.unusedVariables false
set_option linter.unusedSimpArgs false

theorem cem_own : ownKnob Tryz.prog.godebug = none := by kernel_rfl
theorem cem_laidOut : laidOutB Tryz.prog = true := by kernel_rfl
def cem_cells (d : DataW Unit) : Array Value :=
  match d with
  | .agg l => (l.map fun x => match x with
    | .lit (.int k z) => Value.int k z
    | _ => .bool false).toArray
  | _ => #[]
def cem_put (cs : Array Value) (o : Obj) : Obj :=
  match o with
  | .cells _ t frozen => .cells cs t frozen
  | o => o
theorem cem_et : Tryz.prog.globalNamed "errors.errorType" = some 0 := by kernel_rfl
theorem cem_rt : (Tryz.prog.cutTypes.find? (·.1 == "internal/reflectlite.rtype")).map (·.2) = some 227 := by kernel_rfl
theorem cem_oneRow : ((List.range 339).filter fun t => Tryz.prog.rowNamed t [101, 114, 114, 111, 114]) = [25] := by kernel_rfl
theorem cem_size : Tryz.prog.types.size = 339 := by kernel_rfl
theorem cem_handle {W : World} (h : laidMetH Tryz.prog Rows.closeEmptyRow.laid W) : ErrT W := by
  have h' : laidMet Tryz.prog [("math/bits.deBruijn32tab", Rows.laid_math_bits_deBruijn32tab), ("math/bits.deBruijn64tab", Rows.laid_math_bits_deBruijn64tab), ("internal/strconv.uint64pow10", Rows.laid_internal_strconv_uint64pow10)] W ∧ handlesMet Tryz.prog [("errors.errorType", Rows.laid_errors_errorType)] W := h
  obtain ⟨name, u, ty, e1, e2, e3, e4, e5⟩ := h'.2 _ (List.mem_singleton.2 rfl)
  have en : name = [101, 114, 114, 111, 114] := (Option.some.inj e1).symm
  subst en
  obtain rfl := Option.some.inj (cem_rt.symm.trans e2)
  have hm : ty ∈ (List.range 339).filter fun t => Tryz.prog.rowNamed t [101, 114, 114, 111, 114] := List.mem_filter.2 ⟨List.mem_range.2 (by rw [← cem_size]; exact e3), e4⟩
  rw [cem_oneRow] at hm
  obtain rfl := List.mem_singleton.1 hm
  have hh : typeHandle Tryz.prog 25 = .pointer (some ⟨6, 25, none⟩) := by kernel_rfl
  rw [hh] at e5
  unfold ErrT
  simpa using World.var?_cell cem_et e5 0
theorem cem_gTab : Tryz.prog.globalNamed "internal/strconv.uint64pow10" = some 1 := by kernel_rfl
theorem cem_gType : (Tryz.prog.globals[1]?).map (·.type) = some 261 := by kernel_rfl
theorem cem_cellsT : Tryz.prog.cellsOf 261 = 20 := by kernel_rfl
theorem cem_cellsE : Tryz.prog.cellsOf 217 = 1 := by kernel_rfl
theorem cem_table {W : World} (h : laidMetH Tryz.prog Rows.closeEmptyRow.laid W) : TabW W := by
  have h1 : laidMet Tryz.prog [("math/bits.deBruijn32tab", Rows.laid_math_bits_deBruijn32tab), ("math/bits.deBruijn64tab", Rows.laid_math_bits_deBruijn64tab), ("internal/strconv.uint64pow10", Rows.laid_internal_strconv_uint64pow10)] W := (show laidMet Tryz.prog [("math/bits.deBruijn32tab", Rows.laid_math_bits_deBruijn32tab), ("math/bits.deBruijn64tab", Rows.laid_math_bits_deBruijn64tab), ("internal/strconv.uint64pow10", Rows.laid_internal_strconv_uint64pow10)] W ∧ handlesMet Tryz.prog [("errors.errorType", Rows.laid_errors_errorType)] W from h).1
  have h2 : laidMet Tryz.prog (("internal/strconv.uint64pow10", Lib.tabData .u64 Lib.pow10Tab) :: []) W := (laidMet.tail (laidMet.tail h1))
  exact Lib.tabIs_of_head cem_gTab cem_gType Tryz.underlying261 Tryz.underlying217 cem_cellsE cem_cellsT h2
theorem cem_met (os : Os) (args : Array Value) : laidMetH Tryz.prog Rows.closeEmptyRow.laid ((({ World.holding Tryz.prog os ⟨#[], #[], []⟩ with heap := ((((World.holding Tryz.prog os ⟨#[], #[], []⟩).heap.modify 4 (cem_put (cem_cells Rows.laid_math_bits_deBruijn32tab))).modify 5 (cem_put (cem_cells Rows.laid_math_bits_deBruijn64tab))).modify 1 (cem_put (cem_cells Rows.laid_internal_strconv_uint64pow10))).modify 0 fun | .cells _ t frozen => .cells #[.iface 227 (.agg #[.pointer (some ⟨6, 25, none⟩)])] t frozen | o => o } : World).forCall (fun _ _ => 0) ⟨#[], args, []⟩).memory) :=
  laidMetH_of_parts (laidMet_of_run' 8 (by kernel_rfl) (by kernel_rfl)) (by kernel_rfl)

set_option maxRecDepth 100000 in
theorem cem_lifted (os : Os) (started : os.Started) (H : Type) (enc : TypeId × Value → H) :
    ReturnsInHanded {} Tryz.checked os 3 .any (fun w args => (Rows.closeEmptySpec.pre enc Tryz.prog Tryz.f3 [] false w args ∧ laidMetH Tryz.prog Rows.closeEmptyRow.laid w) ∧ sizedMet enc Tryz.prog Tryz.f3 (OpenSpec.ofChange Rows.closeEmptySpec) false w args)
      (Rows.closeEmptySpec.post enc Tryz.prog Tryz.f3 false true false false) := by
  refine returnsInHanded_of_change_and (C := Tryz.checked) (X := fun w _ => laidMetH Tryz.prog Rows.closeEmptyRow.laid w) (fun _ _ _ hh h => h.of_heap hh) cem_own started (by kernel_rfl) Tryz.func3
    (ChangeSpec.witness_at (enc := enc) (C := Tryz.checked) (os := os) (X := fun w _ => laidMetH Tryz.prog Rows.closeEmptyRow.laid w) false ({ World.holding Tryz.prog os ⟨#[], #[], []⟩ with heap := ((((World.holding Tryz.prog os ⟨#[], #[], []⟩).heap.modify 4 (cem_put (cem_cells Rows.laid_math_bits_deBruijn32tab))).modify 5 (cem_put (cem_cells Rows.laid_math_bits_deBruijn64tab))).modify 1 (cem_put (cem_cells Rows.laid_internal_strconv_uint64pow10))).modify 0 fun | .cells _ t frozen => .cells #[.iface 227 (.agg #[.pointer (some ⟨6, 25, none⟩)])] t frozen | o => o } : World) #[.slice none 0 0, .int .i64 0, .string ByteArray.empty] 8 rfl (by kernel_rfl) (by kernel_rfl) (by kernel_rfl) (by kernel_rfl) (by kernel_rfl) (cem_met os _)) ?_
  intro W base args ds gs before hval0 hW hcnd hsz0 hL _
  have hg := cem_handle hL
  have ht := cem_table hL
  clear hsz0
  have hval : ∀ (j : Nat) t v, Tryz.f3.params[j]? = some t → args[j]? = some v → Value.okWide Tryz.prog W .any base t v := hval0
  have hW' := hW
  obtain ⟨p, q, hA0, hV, rfl, hfz, hnd⟩ := hW
  have hA : DataW.TrodAll enc Tryz.prog W 0 (fun _ => true) true Tryz.f3.params.toList args.toList ds p := hA0
  rw [Tryz.params3] at hA hval
  obtain ⟨v0, vs0, d0, ds0, p0, q0, hargs, rfl, rfl, h0, r0⟩ := trodAll_cons hA
  obtain ⟨v1, vs1, d1, ds1, p1, q1, rfl, rfl, rfl, h1, r1⟩ := trodAll_cons r0
  obtain ⟨v2, vs2, d2, ds2, p2, q2, rfl, rfl, rfl, h2, r2⟩ := trodAll_cons r1
  obtain ⟨rfl, rfl, rfl⟩ := trodAll_nil r2
  obtain rfl : args = #[v0, v1, v2] := by cases args; simp_all
  obtain ⟨rfl, rfl⟩ := trodVars_none hV
  obtain ⟨a0, len0, cap0, rfl⟩ := okWide_slice Tryz.underlying22 (hval 0 22 v0 rfl rfl)
  have k0 := h0
  have lt0 : ∀ x ∈ p0, x.block < W.heap.size := by obtain ⟨m, hm⟩ := k0; exact DataW.trod_lt m _ _ _ hm
  obtain ⟨l0, hl0, ho0, hi0⟩ : ∃ l : List Ac, l.length = len0 ∧ (∀ k, k < l.length → AcOk (l.getD k ac0)) ∧ IsSl W a0 l cap0 := by
    obtain ⟨fuel, hf⟩ := h0
    exact acs_of_trod hf
  subst hl0
  obtain ⟨x1, rfl, rfl, rfl, w1⟩ := open_int Tryz.underlying3 (hval 1 3 v1 rfl rfl) h1
  have wb1 := bounds_i64 w1
  obtain ⟨x2, rfl, rfl, rfl, w2⟩ := open_string Tryz.underlying9 (hval 2 9 v2 rfl rfl) h2
  clear hA0 hval0
  refine (empty_walk a0 cap0 l0 x1 x2 W hi0 wb1 ht hg).mono fun e W' ⟨he, bel⟩ => ?_
  subst he
  exact ⟨_, rfl, _, _, _, [], _, [], hW', trodAll_mk1 (shut_bool Tryz.underlying4 _), (trodAll_cons_mk (Below.trod cem_laidOut (by kernel_rfl) (of_decide_eq_true (by kernel_rfl)) k0 bel lt0) (trodAll_cons_mk (shut_int Tryz.underlying3 w1) (trodAll_cons_mk (shut_string Tryz.underlying9 w2) trodAll_mk0))), rfl, bel.frame _, fun h => by cases h⟩

theorem cem_over : Rows.CloseEmptySaid :=
  OpenClaim.holds_of_wide 3 Tryz.f3 rfl rfl rfl rfl rfl rfl rfl ⟨rfl, rfl, rfl, rfl, rfl⟩ rfl rfl rfl rfl rfl (by kernel_rfl) Tryz.func3 (by kernel_rfl)
    (of_decide_eq_true (by kernel_rfl)) (by unfold Func.isWrapper; first | (rw [if_pos (by decide +kernel)]; kernel_rfl) | (rw [if_neg (by decide +kernel)]; exact ⟨rfl, rfl⟩))
    (fun os started H enc _ => cem_lifted os started H enc)

theorem closeEmpty_holds : Rows.CloseEmptyCardSaid :=
  Claim7.holds_tied_plain_at .later [] [.data, .data, .data, .handle] true _ true
    cem_over (fun _ h => by cases h) (by kernel_rfl) (fun _ h => by cases h) closeEmpty_row_tie rfl ⟨rfl, rfl⟩ (by kernel_rfl) rfl
    (fun f fn hf hfn => by
      obtain rfl : f = 3 := Option.some.inj ((show Tryz.prog.funcNamed "quarterday/daylaw5.CloseEmpty" = some 3 by kernel_rfl).symm.trans hf) |>.symm
      obtain rfl : fn = Tryz.f3 := (Option.some.inj (Tryz.func3.symm.trans hfn)).symm
      exact ⟨by kernel_rfl, fun j t ht => by
        rw [Tryz.params3] at ht
        have h3 : t = 22 ∨ t = 3 ∨ t = 9 := by
          rcases j with _ | _ | _ | j
          · exact (.inl (by simpa using ht.symm))
          · exact (.inr (.inl (by simpa using ht.symm)))
          · exact (.inr (.inr (by simpa using ht.symm)))
          · simp at ht
        rcases h3 with rfl | rfl | rfl
        · exact (show Tryz.prog.wantsStandIn 22 = false by kernel_rfl)
        · exact (show Tryz.prog.wantsStandIn 3 = false by kernel_rfl)
        · exact (show Tryz.prog.wantsStandIn 9 = false by kernel_rfl)⟩)
    (by kernel_rfl)
#print axioms closeEmpty_holds
end Go.Proofs.YteiidlapekocoaaGreatDoor
