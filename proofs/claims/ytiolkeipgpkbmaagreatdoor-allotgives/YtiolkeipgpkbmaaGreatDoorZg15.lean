/-
  The contract of chart.eachUnder.
-/
import Derived.Test.YtiolkeipgpkbmaaGreatDoorZg14
import Derived.Test.YtiolkeipgpkbmaaGreatDoorProg
import Derived.WalkKit
import Derived.WalkSpells
import Derived.LaidEql
import Derived.Stop.Asserts
import Derived.RowKitTokens
import Derived.Below
import Derived.Test.YtiolkeipgpkbmaaGreatDoorZg12
import Derived.Test.YtiolkeipgpkbmaaGreatDoorZg13
import Derived.Deep.AppendLies
import Derived.Deep.RegionHeldLaw
import Derived.RangeFuncBox
namespace Go.Proofs.YtiolkeipgpkbmaaGreatDoor
set_option linter.unusedVariables false
set_option linter.unusedSimpArgs false
set_option maxRecDepth 100000
open Go.RowKit Go.Lib

theorem refChart_full (a : Option Addr) (len cap : Nat) (w : World) (h : 60 < len) :
    Calls Tryz.prog 13 #[.slice a len cap] w fun e w' => e = .returned (.int .i64 4) ∧ Below w.heap.size w w' := by
  have h' : (60 : Int) < len := by omega
  go_enter Tryz.func13, Tryz.ntmps13
  go_wp2
  go_ret
  exact ⟨rfl, Below.refl _ _⟩

theorem refChart_none (a : Option Addr) (cap : Nat) (w : World) :
    Calls Tryz.prog 13 #[.slice a 0 cap] w fun e w' => e = .returned (.int .i64 0) ∧ Below w.heap.size w w' := by
  go_enter Tryz.func13, Tryz.ntmps13
  go_wp2
  refine wp_loop_rounds 1 ?_
  rw [rounds_succ]
  go_wp2
  go_ret
  exact ⟨rfl, Below.refl _ _⟩

set_option maxHeartbeats 2000000 in
theorem refChart_some (b off cap : Nat) (l : List Ac) (w : World) (hb : b < w.heap.size) (hlen : l.length ≤ 60) (hcap : l.length ≤ cap) (hc : AcsAt w b off l) (hok : ∀ k, k < l.length → (l.getD k ac0).code.size ≤ maxLen ∧ (l.getD k ac0).name.size ≤ maxLen) :
    Calls Tryz.prog 13 #[.slice (some ⟨b, off, none⟩) l.length cap] w fun e w' => e = .returned (.int .i64 (chGo [] l)) ∧ Below w.heap.size w w' := by
  have Hlen : (l.length : Int) ≤ 60 := by omega
  have HA : Hid (∀ W, Below w.heap.size w W → ∀ i, i < l.length → Calls Tryz.prog 37 #[.slice (some ⟨b, off, none⟩) l.length cap, .int .i64 (i : Nat)] W fun e w' => e = .returned (.int .i64 (nextBad (l.take i) (l.getD i ac0))) ∧ Below w.heap.size w w') := fun W hW i hi => by
    refine (refAccount_any b off cap i l W hi (by omega) hcap (by have := hW.size; omega) (fun k hk => (hc k hk).below hW hb) (hok i hi)).mono ?_
    rintro e w' ⟨rfl, hb'⟩
    exact ⟨rfl, hW.trans (hb'.mono hW.size)⟩
  obtain ⟨res, hres⟩ : ∃ res, chGo [] l = res := ⟨_, rfl⟩
  have Hres : Hid (chGo [] l = res) := hres
  rw [hres]
  clear hres hc hok
  go_enter Tryz.func13, Tryz.ntmps13
  go_wp2
  go_loopw [3] (fun i wr => ∃ k : Nat, k ≤ l.length ∧ i = .int .i64 k ∧ Hid (chGo (l.take k) (l.drop k) = res) ∧ Below w.heap.size w wr) (fun i _ => l.length - (RowKit.intOf i).toNat)
  case atStart => exact ⟨0, Nat.zero_le _, rfl, by unfold Hid; simpa using Hres.out, Below.refl _ _⟩
  case round =>
    obtain ⟨k, hk, rfl, H, BW⟩ := hrel
    by_cases hlt : k < l.length
    · have E : Hid ((if nextBad (l.take k) (l.getD k ac0) ≠ 0 then nextBad (l.take k) (l.getD k ac0) else chGo (l.take (k + 1)) (l.drop (k + 1))) = res) := by
        have := H.out
        rw [acs_drop l k hlt] at this
        have e2 : l.take k ++ [l.getD k ac0] = l.take (k + 1) := by
          rw [List.take_succ_eq_append_getElem hlt, List.getD_eq_getElem?_getD, List.getElem?_eq_getElem hlt]; rfl
        unfold Hid
        rw [← e2]
        exact this
      have hcall := HA.out wr BW k hlt
      generalize nextBad (l.take k) (l.getD k ac0) = bad at *
      have Hcall : Hid (Calls _ _ _ _ _) := hcall
      clear hcall H
      by_cases hb0 : bad = 0
      · subst hb0
        have HN : Hid (chGo (l.take (k + 1)) (l.drop (k + 1)) = res) := by
          have := E.out; rw [if_neg (by simp)] at this; exact this
        go_wp2_with fail
        refine Hcall.out.mono ?_
        rintro e w' ⟨rfl, hb'⟩
        go_wp2
        go_roundw
        case rel => exact ⟨k + 1, by omega, by go_num, HN, hb'⟩
        case measure => simp [RowKit.intOf]; omega
      · have er : res = bad := by rw [← E.out, if_pos hb0]
        subst er
        have hb0' : (res != 0) = true := by simp [hb0]
        go_wp2_with fail
        refine Hcall.out.mono ?_
        rintro e w' ⟨rfl, hb'⟩
        go_wp2
        go_ret
        exact ⟨rfl, hb'⟩
    · have hk2 : k = l.length := by omega
      subst hk2
      have er : res = 0 := by rw [← H.out, List.drop_length]; rfl
      subst er
      go_wp2
      go_ret
      exact ⟨rfl, BW⟩

theorem refChart_any (a : Option Addr) (cap : Nat) (l : List Ac) (w : World) (h : IsSl w a l cap) (hok : ∀ k, k < l.length → (l.getD k ac0).code.size ≤ maxLen ∧ (l.getD k ac0).name.size ≤ maxLen) :
    Calls Tryz.prog 13 #[.slice a l.length cap] w fun e w' => e = .returned (.int .i64 (chBad l)) ∧ Below w.heap.size w w' := by
  unfold chBad
  by_cases h60 : 60 < l.length
  · rw [if_pos h60]
    exact refChart_full a l.length cap w h60
  · rw [if_neg h60]
    rcases h.lies with rfl | ⟨b, off, rfl, hlt, hc⟩
    · exact refChart_none a cap w
    · exact refChart_some b off cap l w hlt (by omega) h.cap hc hok


end Go.Proofs.YtiolkeipgpkbmaaGreatDoor

namespace Go.Proofs.YtiolkeipgpkbmaaGreatDoor
set_option linter.unusedVariables false
open Go.RowKit Go.Extern.Stop Go.Stop Go.Extern

theorem valueOfP (t : Addr) (w : World) : (ReflectliteValue.unpack (.iface 67 (.pointer (some t)))).run Tryz.prog w
    = .ok (.agg #[.pointer (some ⟨6, 67, none⟩), .pointer (some ⟨w.heap.size, 0, none⟩), .int .u64 150]) (w.alloc (.cells #[.pointer (some t)] 67)) := by kernel_rfl
theorem typeP (a : Addr) (w : World) : (ReflectliteValue.methodAny (ReflectliteValue.valueError "reflectlite.Value.Type" 0) (fun t _ _ _ => ReflectliteType.toType t) #[.agg #[.pointer (some ⟨6, 67, none⟩), .pointer (some a), .int .u64 150]]).run Tryz.prog w
    = .ok (.iface 147 (.agg #[.pointer (some ⟨6, 67, none⟩)])) w := by kernel_rfl
theorem methodKind (h : Value) (w : World) : (Go.method 328 147 (.agg #[h]) "Kind").run Tryz.prog w = .ok (162, h) w := by kernel_rfl
theorem kindP (w : World) : ((ReflectliteType.abiMethod fun t => Functor.map (fun a : Nat => Value.int IntKind.u8 (a : Int)) (Rtype.kind t)) #[.pointer (some ⟨6, 67, none⟩)]).run Tryz.prog w = .ok (.int .u8 22) w := by kernel_rfl
theorem kindE (w : World) : ((ReflectliteType.abiMethod fun t => Functor.map (fun a : Nat => Value.int IntKind.u8 (a : Int)) (Rtype.kind t)) #[.pointer (some ⟨6, 37, none⟩)]).run Tryz.prog w = .ok (.int .u8 2) w := by kernel_rfl
theorem rlm (z : Sem Value) (f : TypeId → Addr → Nat → Nat → Sem Value) (v : Value) :
    ReflectliteValue.method z f #[v] = (do match ← ReflectliteValue.parts v with | none => z | some (t, a, fl) => f t a fl (fl % 32)) := rfl
theorem partsP (a : Addr) (w : World) : (ReflectliteValue.parts (.agg #[.pointer (some ⟨6, 67, none⟩), .pointer (some a), .int .u64 150])).run Tryz.prog w = .ok (some (67, a, 150)) w := by kernel_rfl
theorem isNilP (a p : Addr) (W : World) (ha : W.cell? a = some (.pointer (some p))) :
    (ReflectliteValue.method (ReflectliteValue.valueError "reflectlite.Value.IsNil" 0) ReflectliteValue.isNil #[.agg #[.pointer (some ⟨6, 67, none⟩), .pointer (some a), .int .u64 150]]).run Tryz.prog W = .ok (.bool false) W := by
  rw [rlm]
  simp only [Sem.run_bind, partsP, Result.andThen]
  simp [ReflectliteValue.isNil, loadVar, isAgg, underlying, Tryz.underlying67, ha, Result.andThen]
theorem methodElem (h : Value) (w : World) : (Go.method 328 147 (.agg #[h]) "Elem").run Tryz.prog w = .ok (173, .agg #[h]) w := by kernel_rfl
theorem methodImplements (h : Value) (w : World) : (Go.method 328 147 (.agg #[h]) "Implements").run Tryz.prog w = .ok (174, .agg #[h]) w := by kernel_rfl
theorem methodAssignableTo (h : Value) (w : World) : (Go.method 328 147 (.agg #[h]) "AssignableTo").run Tryz.prog w = .ok (171, .agg #[h]) w := by kernel_rfl
theorem elemP (w : World) : (ReflectliteType.method ReflectliteType.elem #[.agg #[.pointer (some ⟨6, 67, none⟩)]]).run Tryz.prog w = .ok (.iface 147 (.agg #[.pointer (some ⟨6, 37, none⟩)])) w := by kernel_rfl
theorem implementsE (w : World) : (ReflectliteType.relation "Implements" ReflectliteType.implements_ #[.agg #[.pointer (some ⟨6, 37, none⟩)], .iface 147 (.agg #[.pointer (some ⟨6, 27, none⟩)])]).run Tryz.prog w = .ok (.bool true) w := by kernel_rfl
theorem typeOfE (v : Value) (w : World) : (ReflectliteType.typeOf #[.iface 37 v]).run Tryz.prog w = .ok (.iface 147 (.agg #[.pointer (some ⟨6, 37, none⟩)])) w := by kernel_rfl
theorem assignableE (w : World) : (ReflectliteType.relation "AssignableTo" ReflectliteType.assignableTo #[.agg #[.pointer (some ⟨6, 37, none⟩)], .iface 147 (.agg #[.pointer (some ⟨6, 37, none⟩)])]).run Tryz.prog w = .ok (.bool true) w := by kernel_rfl
theorem valueOfE (n : Int) (w : World) : (ReflectliteValue.unpack (.iface 37 (.int .i64 n))).run Tryz.prog w
    = .ok (.agg #[.pointer (some ⟨6, 37, none⟩), .pointer (some ⟨w.heap.size, 0, none⟩), .int .u64 130]) (w.alloc (.cells #[.int .i64 n] 37)) := by kernel_rfl
theorem elemOfP (w : World) : (Rtype.elem? 67).run Tryz.prog w = .ok (some 37) w := by kernel_rfl
theorem mkE (p : Addr) (w : World) : (ReflectliteValue.mk 37 p ReflectliteValue.flagAddr).run Tryz.prog w = .ok (.agg #[.pointer (some ⟨6, 37, none⟩), .pointer (some p), .int .u64 386]) w := by kernel_rfl
theorem elemVP (a p : Addr) (W : World) (ha : W.cell? a = some (.pointer (some p))) :
    (ReflectliteValue.method (ReflectliteValue.valueError "reflectlite.Value.Elem" 0) ReflectliteValue.elem #[.agg #[.pointer (some ⟨6, 67, none⟩), .pointer (some a), .int .u64 150]]).run Tryz.prog W
      = .ok (.agg #[.pointer (some ⟨6, 37, none⟩), .pointer (some p), .int .u64 386]) W := by
  rw [rlm]
  simp only [Sem.run_bind, partsP, Result.andThen]
  simp [ReflectliteValue.elem, loadVar, isAgg, underlying, Tryz.underlying67, ha, Result.andThen, elemOfP, mkE]
theorem rls (v x : Value) : ∃ s1 s2 s3 s4 s5 : String, ReflectliteValue.set #[v, x] = (do
    let (some (dst, a, fl), some (src, b, _)) := (← ReflectliteValue.parts v, ← ReflectliteValue.parts x)
      | unsupported (.noEntry s1)
    if fl / ReflectliteValue.flagAddr % 2 == 0 then unsupported (.noEntry s2)
    let val ← loadVar src b
    if ← Rtype.directlyAssignable dst src then storeVar dst a val
    else if ← Rtype.implements dst src then
      if (← Rtype.kind src) == 20 then
        match val with
        | .nilIface => unsupported (.noEntry s3)
        | _ => storeVar dst a val
      else storeVar dst a (.iface src val)
    else panicString (s4 ++ (← Rtype.spelt src) ++ s5 ++ (← Rtype.spelt dst))
    pure (.tuple #[])) := ⟨_, _, _, _, _, rfl⟩
theorem partsEa (a : Addr) (w : World) : (ReflectliteValue.parts (.agg #[.pointer (some ⟨6, 37, none⟩), .pointer (some a), .int .u64 386])).run Tryz.prog w = .ok (some (37, a, 386)) w := by kernel_rfl
theorem partsE (a : Addr) (w : World) : (ReflectliteValue.parts (.agg #[.pointer (some ⟨6, 37, none⟩), .pointer (some a), .int .u64 130])).run Tryz.prog w = .ok (some (37, a, 130)) w := by kernel_rfl
theorem directE (w : World) : (Rtype.directlyAssignable 37 37).run Tryz.prog w = .ok true w := by kernel_rfl
theorem setE (ta b : Addr) (n : Int) (old : Value) (W : World) (hb : W.cell? b = some (.int .i64 n)) (ht : W.cell? ta = some old) (hf : W.frozen? ta = false) :
    (ReflectliteValue.set #[.agg #[.pointer (some ⟨6, 37, none⟩), .pointer (some ta), .int .u64 386], .agg #[.pointer (some ⟨6, 37, none⟩), .pointer (some b), .int .u64 130]]).run Tryz.prog W
      = .ok (.tuple #[]) (W.setCell ta (.int .i64 n)) := by
  obtain ⟨s1, s2, s3, s4, s5, h⟩ := rls (.agg #[.pointer (some ⟨6, 37, none⟩), .pointer (some ta), .int .u64 386]) (.agg #[.pointer (some ⟨6, 37, none⟩), .pointer (some b), .int .u64 130])
  rw [h]
  simp only [Sem.run_bind, partsEa, partsE, Result.andThen]
  simp [ReflectliteValue.flagAddr, loadVar, isAgg, underlying, Tryz.underlying37, hb, Result.andThen, directE, storeVar, Value.cells, storeCells, Addr.add]
  rw [run_store Tryz.prog W ta _ _ (by rfl)]
  simp [ht, hf]
end Go.Proofs.YtiolkeipgpkbmaaGreatDoor

namespace Go.Proofs.YtiolkeipgpkbmaaGreatDoor
set_option linter.unusedVariables false
open Go.RowKit Go.Extern.Stop Go.Stop Go.Extern

theorem as_nil (t : Value) (w : World) :
    Calls Tryz.prog 29 #[.nilIface, t] w fun e w' => e = .returned (.bool false) ∧ w' = w := by
  go_enter Tryz.func29, Tryz.ntmps29
  go_wp2
  go_ret
  exact ⟨rfl, rfl⟩

set_option maxHeartbeats 4000000 in
theorem as_hit (n : Int) (t : Addr) (old : Value) (w : World) (hg : w.cell? ⟨0, 0, none⟩ = some (.iface 147 (.agg #[.pointer (some ⟨6, 27, none⟩)]))) (ht0 : w.cell? t = some old) (hf0 : w.frozen? t = false) :
    Calls Tryz.prog 29 #[.iface 37 (.int .i64 n), .iface 67 (.pointer (some t))] w fun ev w' => ev = .returned (.bool true) ∧ ∃ o1 o2 o3 o4, w' = ((((w.alloc o1).alloc o2).alloc o3).alloc o4).setCell t (.int .i64 n) := by
  have h6 := @run_callFunc_extern Tryz.prog 60 _ (fun args => ReflectliteValue.unpack (args.getD 0 (.tuple #[]))) Tryz.func60 (by kernel_rfl) (by kernel_rfl) (by kernel_rfl) (by kernel_rfl)
  have h7 := @run_callFunc_extern Tryz.prog 61 _ (ReflectliteValue.methodAny (ReflectliteValue.valueError "reflectlite.Value.Type" 0) (fun t _ _ _ => ReflectliteType.toType t)) Tryz.func61 (by kernel_rfl) (by kernel_rfl) (by kernel_rfl) (by kernel_rfl)
  have h8 := @run_callFunc_extern Tryz.prog 62 _ (ReflectliteValue.method (ReflectliteValue.valueError "reflectlite.Value.IsNil" 0) ReflectliteValue.isNil) Tryz.func62 (by kernel_rfl) (by kernel_rfl) (by kernel_rfl) (by kernel_rfl)
  have h27 := @run_callFunc_extern Tryz.prog 162 _ (ReflectliteType.abiMethod fun t => do pure (.int .u8 (← Rtype.kind t))) Tryz.func162 (by kernel_rfl) (by kernel_rfl) (by kernel_rfl) (by kernel_rfl)
  have h37 := @run_callFunc_extern Tryz.prog 173 _ (ReflectliteType.method ReflectliteType.elem) Tryz.func173 (by kernel_rfl) (by kernel_rfl) (by kernel_rfl) (by kernel_rfl)
  have h38 := @run_callFunc_extern Tryz.prog 174 _ (ReflectliteType.relation "Implements" ReflectliteType.implements_) Tryz.func174 (by kernel_rfl) (by kernel_rfl) (by kernel_rfl) (by kernel_rfl)
  have h10 := @run_callFunc_extern Tryz.prog 93 _ ReflectliteType.typeOf Tryz.func93 (by kernel_rfl) (by kernel_rfl) (by kernel_rfl) (by kernel_rfl)
  have h35 := @run_callFunc_extern Tryz.prog 171 _ (ReflectliteType.relation "AssignableTo" ReflectliteType.assignableTo) Tryz.func171 (by kernel_rfl) (by kernel_rfl) (by kernel_rfl) (by kernel_rfl)
  have h11 := @run_callFunc_extern Tryz.prog 94 _ (ReflectliteValue.method (ReflectliteValue.valueError "reflectlite.Value.Elem" 0) ReflectliteValue.elem) Tryz.func94 (by kernel_rfl) (by kernel_rfl) (by kernel_rfl) (by kernel_rfl)
  have h12 := @run_callFunc_extern Tryz.prog 95 _ ReflectliteValue.set Tryz.func95 (by kernel_rfl) (by kernel_rfl) (by kernel_rfl) (by kernel_rfl)
  have tO := typeOfE
  have mA := methodAssignableTo
  have aE := assignableE
  have vE := valueOfE
  have f6 := valueOfP
  have f7 := typeP
  have mK := methodKind
  have mE := methodElem
  have mI := methodImplements
  have kP := kindP
  have kE := kindE
  have eP := elemP
  have iE := implementsE
  have n8 := isNilP ⟨w.heap.size, 0, none⟩ t ((w.alloc (.cells #[.pointer (some t)] 67)).alloc (.cells #[.pointer (some ⟨6, 67, none⟩), .pointer (some ⟨w.heap.size, 0, none⟩), .int .u64 150] 105)) (by simp)
  have hlt : 0 < w.heap.size := World.block_lt_of_cell? _ _ hg
  have hg2 : ((w.alloc (.cells #[.pointer (some t)] 67)).alloc (.cells #[.pointer (some ⟨6, 67, none⟩), .pointer (some ⟨w.heap.size, 0, none⟩), .int .u64 150] 105)).cell? ⟨0, 0, none⟩ = some (.iface 147 (.agg #[.pointer (some ⟨6, 27, none⟩)])) := by
    rw [World.cell?_alloc_lt _ _ ⟨0, 0, none⟩ (by simp <;> omega), World.cell?_alloc_lt _ _ ⟨0, 0, none⟩ hlt]; exact hg
  have htl : t.block < w.heap.size := World.block_lt_of_cell? _ _ ht0
  generalize hW3 : (((w.alloc (.cells #[.pointer (some t)] 67)).alloc (.cells #[.pointer (some ⟨6, 67, none⟩), .pointer (some ⟨w.heap.size, 0, none⟩), .int .u64 150] 105)).alloc (.cells #[.pointer (some ⟨6, 67, none⟩), .pointer (some ⟨w.heap.size, 0, none⟩), .int .u64 150] 105)) = W3
  have k0 : W3.cell? ⟨w.heap.size, 0, none⟩ = some (.pointer (some t)) := by
    rw [← hW3, World.cell?_alloc_lt _ _ _ (by simp <;> omega), World.cell?_alloc_lt _ _ _ (by simp)]; simp
  have ksz : W3.heap.size = w.heap.size + 1 + 1 + 1 := by rw [← hW3]; simp
  have k1 : W3.cell? t = some old := by
    rw [← hW3, World.cell?_alloc_lt _ _ t (by simp <;> omega), World.cell?_alloc_lt _ _ t (by simp <;> omega), World.cell?_alloc_lt _ _ t htl]; exact ht0
  have k2 : W3.frozen? t = false := by
    rw [← hW3, World.frozen?_alloc_old _ _ t (by simp <;> omega), World.frozen?_alloc_old _ _ t (by simp <;> omega), World.frozen?_alloc_old _ _ t (Nat.ne_of_lt htl)]; exact hf0
  have el := elemVP ⟨w.heap.size, 0, none⟩ t W3 k0
  have st := setE t ⟨w.heap.size + 1 + 1 + 1, 0, none⟩ n old (W3.alloc (.cells #[.int .i64 n] 37)) (by rw [← ksz]; simp)
    (by rw [World.cell?_alloc_lt _ _ t (by omega)]; exact k1) (by rw [World.frozen?_alloc_old _ _ t (by omega)]; exact k2)
  subst hW3
  clear k0 k1 k2 ksz
  go_enter Tryz.func29, Tryz.ntmps29
  go_wp2
  refine wp_loop_rounds 1 ?_
  rw [rounds_succ]
  go_wp2
  go_ret
  exact ⟨rfl, _, _, _, _, rfl⟩

/-- What is told of an error. -/
theorem told_nil (w : World) : Calls Tryz.prog 10 #[.nilIface] w fun e w' => e = .returned (.int .i64 0) ∧ w' = w := by
  go_enter Tryz.func10, Tryz.ntmps10
  go_wp2
  go_ret
  exact ⟨rfl, rfl⟩

theorem told_errno (n : Int) (w : World) (hg : w.cell? ⟨0, 0, none⟩ = some (.iface 147 (.agg #[.pointer (some ⟨6, 27, none⟩)]))) :
    Calls Tryz.prog 10 #[.iface 37 (.int .i64 n)] w fun e w' => e = .returned (.int .i64 n) ∧ Below w.heap.size w w' := by
  go_enter Tryz.func10, Tryz.ntmps10
  go_wp2_with fail
  have hlt : 0 < w.heap.size := World.block_lt_of_cell? _ _ hg
  refine (as_hit n ⟨w.heap.size, 0, none⟩ (.int .i64 0) _ (by rw [World.cell?_alloc_lt _ _ _ hlt]; exact hg) (by simp) (by simp)).mono ?_
  rintro e w' ⟨rfl, o1, o2, o3, o4, hw⟩
  have hc : w'.cell? ⟨w.heap.size, 0, none⟩ = some (.int .i64 n) := by
    rw [hw]
    refine World.cell?_setCell_same _ _ _ (?_ : _ = some (.int .i64 0))
    rw [World.cell?_alloc_lt _ _ _ (by simp <;> omega), World.cell?_alloc_lt _ _ _ (by simp <;> omega), World.cell?_alloc_lt _ _ _ (by simp <;> omega), World.cell?_alloc_lt _ _ _ (by simp)]
    simp
  have hb : Below w.heap.size w w' := by
    rw [hw]
    refine Below.setCell (p := ⟨w.heap.size, 0, none⟩) ?_ (Nat.le_refl w.heap.size) _
    exact ((((((Below.refl _ _).alloc (Nat.le_refl _) _).alloc (by simp) _).alloc (by simp <;> omega) _).alloc (by simp <;> omega) _).alloc (by simp <;> omega) _)
  clear hw o1 o2 o3 o4
  go_wp2
  go_ret
  exact ⟨rfl, hb⟩

theorem error_nil (m : Int) (w : World) : Calls Tryz.prog 4 #[.nilIface, .int .i64 m] w fun e w' => e = .returned (.bool ((0 : Int) == m)) ∧ w' = w := by
  go_enter Tryz.func4, Tryz.ntmps4
  go_wp2_with fail
  refine (told_nil _).mono ?_
  rintro e w' ⟨rfl, hw⟩
  rw [hw]; clear hw w'
  go_wp2
  go_ret
  exact ⟨rfl, rfl⟩

theorem error_errno (n m : Int) (w : World) (h1 : -9223372036854775808 ≤ n) (h2 : n ≤ 9223372036854775807) (hg : w.cell? ⟨0, 0, none⟩ = some (.iface 147 (.agg #[.pointer (some ⟨6, 27, none⟩)]))) :
    Calls Tryz.prog 4 #[.iface 37 (.int .i64 n), .int .i64 m] w fun e w' => e = .returned (.bool (n == m)) ∧ Below w.heap.size w w' := by
  go_enter Tryz.func4, Tryz.ntmps4
  go_wp2_with fail
  refine (told_errno n _ hg).mono ?_
  rintro e w' ⟨rfl, hb⟩
  go_wp2
  go_ret
  exact ⟨rfl, hb⟩
end Go.Proofs.YtiolkeipgpkbmaaGreatDoor

namespace Go.Proofs.YtiolkeipgpkbmaaGreatDoor
set_option linter.unusedVariables false
open Go.RowKit

/-- The variable for the type of errors is as it is laid. -/
def ErrT (w : World) : Prop := w.cell? ⟨0, 0, none⟩ = some (.iface 147 (.agg #[.pointer (some ⟨6, 27, none⟩)]))
theorem ErrT.lt {w : World} (h : ErrT w) : 0 < w.heap.size := World.block_lt_of_cell? _ _ h
theorem ErrT.below {w w' : World} {B : Nat} (h : ErrT w) (hb : Below B w w') (hB : w.heap.size ≤ B) : ErrT w' := by
  unfold ErrT
  rw [hb.cell (p := ⟨0, 0, none⟩) (Nat.lt_of_lt_of_le h.lt hB)]
  exact h

/-- An error and its number. -/
def ErrIs (E : Value) (c : Int) : Prop := (E = .nilIface ∧ c = 0) ∨ (E = .iface 37 (.int .i64 c) ∧ -9223372036854775808 ≤ c ∧ c ≤ 9223372036854775807)

theorem err_true {E : Value} {c : Int} (h : ErrIs E c) (w : World) (hg : ErrT w) :
    Calls Tryz.prog 4 #[E, .int .i64 c] w fun e w' => e = .returned (.bool true) ∧ Below w.heap.size w w' := by
  rcases h with ⟨rfl, rfl⟩ | ⟨rfl, h1, h2⟩
  · refine (error_nil 0 w).mono ?_
    rintro e w' ⟨rfl, rfl⟩
    exact ⟨rfl, Below.refl _ _⟩
  · refine (error_errno c c w h1 h2 hg).mono ?_
    rintro e w' ⟨rfl, hb⟩
    exact ⟨by simp, hb⟩

end Go.Proofs.YtiolkeipgpkbmaaGreatDoor

namespace Go.Proofs.YtiolkeipgpkbmaaGreatDoor
set_option linter.unusedVariables false
set_option linter.unusedSimpArgs false
set_option maxRecDepth 100000
open Go.RowKit Go.Lib Big

/-- The shares, or none. -/
def shL (t : Int) (l : List Int) : List Int := if shBad l = 0 then (List.range l.length).map (shareI t l) else []
/-- A slice of these numbers. -/
def HasW (w : World) (v : Value) (xs : List Int) : Prop := ∃ a cap, v = .slice a xs.length cap ∧ IsW w a xs cap
theorem HasW.ints {w : World} {v : Value} {xs : List Int} (h : HasW w v xs) : HasInts w v xs := by
  obtain ⟨a, c, e, hi⟩ := h
  refine ⟨a, c, e, ?_⟩
  rcases hi.lies with h0 | ⟨b, off, ea, _, hc⟩
  · exact .inl h0
  · exact .inr ⟨b, off, ea, hc⟩
theorem isW_nil (w : World) : IsW w none [] 0 := ⟨Nat.le_refl _, .inl rfl⟩
theorem refShares_any (t : Int) (a : Option Addr) (l : List Int) (cap : Nat) (w : World) (h : IsW w a l cap) (hl : l.length ≤ 9223372036854775807) (t1 : -9223372036854775808 ≤ t) (t2 : t ≤ 9223372036854775807) :
    Calls Tryz.prog 16 #[.int .i64 t, .slice a l.length cap] w fun e w' => ∃ v, e = .returned (.tuple #[v, .int .i64 (shBad l)]) ∧ Hid (Below w.heap.size w w' ∧ HasW w' v (shL t l)) := by
  by_cases hb : shBad l = 0
  · refine (refShares_ok t a l cap w h (shBad_zero hb) t1 t2).mono ?_
    rintro e w' ⟨g, c, rfl, hR⟩
    obtain ⟨r1, r2, r3, r4, r5⟩ := hR.out
    refine ⟨_, by rw [hb], r1, some ⟨g, 0, none⟩, c, ?_, ?_⟩
    · unfold shL; rw [if_pos hb]; simp
    · unfold shL; rw [if_pos hb]
      refine ⟨by simpa using r4, .inr ⟨g, 0, rfl, r3, fun k hk => ?_⟩⟩
      rw [Nat.zero_add, r5 k (by simpa using hk)]
      have hk' : k < l.length := by simpa using hk
      simp [List.getD_eq_getElem?_getD, hk']
  · refine (refShares_bad t a l cap w h hl hb).mono ?_
    rintro e w' ⟨rfl, rfl⟩
    refine ⟨_, rfl, Below.refl _ _, none, 0, ?_, ?_⟩
    · unfold shL; rw [if_neg hb]; rfl
    · unfold shL; rw [if_neg hb]; exact isW_nil _
theorem monShares_any (t : Int) (a : Option Addr) (l : List Int) (cap : Nat) (w : World) (h : IsW w a l cap) (hl : l.length ≤ 9223372036854775807) (ht : Math.I64 t) :
    Calls Tryz.prog 36 #[.int .i64 t, .slice a l.length cap] w fun e w' => ∃ v, e = .returned (.tuple #[v, shE (shBad l)]) ∧ Hid (Below w.heap.size w w' ∧ HasW w' v (shL t l)) := by
  refine (shares_any t a l cap w h hl ht).mono ?_
  rintro e w' ⟨hB, hbad, hok⟩
  by_cases hb : shBad l = 0
  · obtain ⟨g, hg, rfl, hN⟩ := hok hb
    refine ⟨_, by unfold shE; rw [if_pos hb], hB, some ⟨g, 0, none⟩, l.length, ?_, ?_⟩
    · unfold shL; rw [if_pos hb]; simp
    · unfold shL; rw [if_pos hb]
      exact hN.isW _ (by simp)
  · have he := hbad hb
    refine ⟨.slice none 0 0, by rw [he]; unfold shE; rw [if_neg hb], hB, none, 0, ?_, ?_⟩
    · unfold shL; rw [if_neg hb]; rfl
    · unfold shL; rw [if_neg hb]; exact isW_nil _
theorem shBad_is (l : List Int) : ErrIs (shE (shBad l)) (shBad l) := by
  unfold ErrIs shE
  by_cases hb : shBad l = 0
  · left; rw [if_pos hb]; exact ⟨rfl, hb⟩
  · right
    rw [if_neg hb]
    refine ⟨rfl, ?_⟩
    rw [shBad_def]
    split
    · omega
    · split
      · omega
      · split <;> omega
end Go.Proofs.YtiolkeipgpkbmaaGreatDoor

namespace Go.Proofs.YtiolkeipgpkbmaaGreatDoor
set_option linter.unusedVariables false
set_option linter.unusedSimpArgs false
set_option maxRecDepth 100000
open Go.RowKit Go.Lib

/-- The place of a text among others, counted from a number on; else -1. -/
def txtFrom (c : ByteArray) : Nat → List ByteArray → Int
  | _, [] => -1
  | k, x :: l => if x = c then (k : Int) else txtFrom c (k + 1) l
def memB (c : ByteArray) (l : List ByteArray) : Bool := l.any fun x => decide (x = c)

theorem txtFrom_mem (c : ByteArray) : ∀ (l : List ByteArray) (k : Nat), decide (0 ≤ txtFrom c k l) = memB c l
  | [], k => by simp [txtFrom, memB]
  | x :: l, k => by
    have ih := txtFrom_mem c l (k + 1)
    by_cases h : x = c
    · rw [txtFrom, if_pos h]; simp [memB, h]
    · rw [txtFrom, if_neg h, ih]; simp [memB, h]

theorem txt_drop (l : List ByteArray) (k : Nat) (h : k < l.length) : l.drop k = l.getD k ByteArray.empty :: l.drop (k + 1) := by
  rw [List.drop_eq_getElem_cons h, List.getD_eq_getElem?_getD, List.getElem?_eq_getElem h]
  rfl

/-- Texts in a row of the call's own. -/
def TxtRow (w : World) (n : Nat) (v : Value) (fs : List ByteArray) : Prop := w.ownsRow n 9 1 v fs.length (fs.map Value.string)

theorem TxtRow.form {w : World} {n : Nat} {v : Value} {fs : List ByteArray} (h : TxtRow w n v fs) : (v = .slice none 0 0 ∧ fs = []) ∨ ∃ g cap, v = .slice (some ⟨g, 0, none⟩) fs.length cap ∧ n ≤ g ∧ g < w.heap.size ∧ fs.length ≤ cap ∧ ∀ k, k < fs.length → w.cell? ⟨g, k, none⟩ = some (.string (fs.getD k ByteArray.empty)) := by
  rcases h.2 with ⟨rfl, hn⟩ | ⟨g, cap, cur, rfl, hg, hh, hc, _⟩
  · exact .inl ⟨rfl, List.eq_nil_of_length_eq_zero hn⟩
  · refine .inr ⟨g, cap, rfl, hg, (Array.getElem?_eq_some_iff.1 hh).1, hc, fun k hk => ?_⟩
    have := World.ownsRow.cells h (g := g) rfl k (.string (fs.getD k ByteArray.empty)) (by simp [hk])
    rcases Nat.eq_zero_or_pos k with rfl | hp
    · simpa [Addr.add] using this
    · simpa [Addr.add, Nat.ne_of_gt hp] using this

set_option maxHeartbeats 1000000 in
theorem tIndex_some (g cap : Nat) (fs : List ByteArray) (c : ByteArray) (w : World) (hlen : fs.length ≤ 1000) (hc : ∀ k, k < fs.length → w.cell? ⟨g, k, none⟩ = some (.string (fs.getD k ByteArray.empty))) :
    Calls Tryz.prog 69 #[.slice (some ⟨g, 0, none⟩) fs.length cap, .string c] w fun e w' => e = .returned (.int .i64 (txtFrom c 0 fs)) ∧ w' = w := by
  have Hc : Hid (∀ k, k < fs.length → w.cell? ⟨g, k, none⟩ = some (.string (fs.getD k ByteArray.empty))) := hc
  have Hlen : (fs.length : Int) ≤ 1000 := by omega
  clear hc
  obtain ⟨res, hres⟩ : ∃ res, txtFrom c 0 fs = res := ⟨_, rfl⟩
  have Hres : Hid (txtFrom c 0 fs = res) := hres
  rw [hres]
  clear hres
  go_enter Tryz.func69, Tryz.ntmps69
  go_wp2
  go_loop [8] (fun i => ∃ k : Nat, k ≤ fs.length ∧ i = .int .i64 k ∧ Hid (txtFrom c k (fs.drop k) = res)) (fun i => fs.length - (RowKit.intOf i).toNat)
  case atStart => exact ⟨0, Nat.zero_le _, rfl, Hres.out⟩
  case round =>
    obtain ⟨k, hk, rfl, H⟩ := hrel
    by_cases hlt : k < fs.length
    · have hn := Hc.out k hlt
      have E : Hid ((if fs.getD k ByteArray.empty = c then (k : Int) else txtFrom c (k + 1) (fs.drop (k + 1))) = res) := by
        have := H.out
        rw [txt_drop fs k hlt] at this
        exact this
      clear H
      generalize fs.getD k ByteArray.empty = x at *
      have i0 : (0 : Int) ≤ k := by omega
      have i1 : (k : Int) < fs.length := by omega
      by_cases hx : x = c
      · have er : res = k := by rw [← E.out, if_pos hx]
        subst er
        subst hx
        go_wp2
        go_ret
        exact ⟨rfl, rfl⟩
      · have hx' := ch_ne (fun e => hx (Eq.symm e) : c ≠ x)
        have HN : Hid (txtFrom c (k + 1) (fs.drop (k + 1)) = res) := by
          have := E.out; rw [if_neg hx] at this; exact this
        go_wp2
        go_round
        case rel => exact ⟨k + 1, by omega, by go_num, HN⟩
        case measure => simp [RowKit.intOf]; omega
    · have hk2 : k = fs.length := by omega
      subst hk2
      have er : res = -1 := by rw [← H.out, List.drop_length]; rfl
      subst er
      go_wp2
      go_ret
      exact ⟨rfl, rfl⟩

theorem tIndex_none (c : ByteArray) (w : World) :
    Calls Tryz.prog 69 #[.slice none 0 0, .string c] w fun e w' => e = .returned (.int .i64 (-1)) ∧ w' = w := by
  go_enter Tryz.func69, Tryz.ntmps69
  go_wp2
  refine wp_loop_rounds 1 ?_
  rw [rounds_succ]
  go_wp2
  go_ret
  exact ⟨rfl, rfl⟩

theorem tContains_any (n : Nat) (v : Value) (fs : List ByteArray) (c : ByteArray) (w : World) (hlen : fs.length ≤ 1000) (h : TxtRow w n v fs) :
    Calls Tryz.prog 34 #[v, .string c] w fun e w' => e = .returned (.bool (memB c fs)) ∧ w' = w := by
  rw [← txtFrom_mem c fs 0]
  rcases h.form with ⟨rfl, rfl⟩ | ⟨g, cap, rfl, _, _, _, hc⟩
  · have hI := tIndex_none c w
    go_enter Tryz.func34, Tryz.ntmps34
    go_wp2_with fail
    refine hI.mono ?_
    rintro e w' ⟨rfl, rfl⟩
    go_wp2
    go_ret
    exact ⟨rfl, rfl⟩
  · have hI := tIndex_some g cap fs c w hlen hc
    clear hc h
    go_enter Tryz.func34, Tryz.ntmps34
    go_wp2_with fail
    refine hI.mono ?_
    rintro e w' ⟨rfl, rfl⟩
    go_wp2
    go_ret
    exact ⟨rfl, rfl⟩

/-- The places of those that are under a code, from one on. -/
def undGo (code : ByteArray) : List ByteArray → List Nat → Nat → List Ac → List Nat
  | _, pre, _, [] => pre
  | fs, pre, k, x :: r => if x.code = code ∨ memB x.par fs = true then undGo code (fs ++ [x.code]) (pre ++ [k]) (k + 1) r else undGo code fs pre (k + 1) r
def und (l : List Ac) (code : ByteArray) : List Nat := undGo code [] [] 0 l

/-- What is asked of a function that is told places, one by one. 'J gc pre W': in W, with a row of its own in block gc, these places have come. -/
structure Does (g : Nat) (lb : Value × Value) (n0 : Nat) (a : Option Addr) (l : List Ac) (cap : Nat) (J : Option Nat → List Nat → World → Prop) : Prop where
  eg : ∀ args W, (callFunc g args).run Tryz.prog W = .ok (.enter g args) W
  call : ∀ gc pre i W, J gc pre W → i < l.length → pre.length ≤ i → n0 ≤ W.heap.size → Calls Tryz.prog g #[.int .i64 (i : Nat), lb.1, lb.2] W fun e w' => e = .returned (.tuple #[]) ∧ ∃ gc', J gc' (pre ++ [i]) w' ∧ (gc' = gc ∨ ∃ h, gc' = some h ∧ W.heap.size ≤ h) ∧ W.heap.size ≤ w'.heap.size ∧ ∀ b, b < W.heap.size → n0 ≤ b → some b ≠ gc → w'.heap[b]? = W.heap[b]?
  keep : ∀ gc pre W W' row, J gc pre W → W.grownBy W' row → n0 ≤ W.heap.size → (∀ b, row = some b → n0 ≤ b ∧ gc ≠ some b) → J gc pre W'
  reads : ∀ gc pre W, J gc pre W → IsSl W a l cap
  lt : ∀ gc pre W, J gc pre W → ∀ b, gc = some b → b < W.heap.size

theorem str_info : (Tryz.prog.info? 9).map (fun i => (i.zero, i.size, i.bytes)) = some (some (.string ByteArray.empty), 1, 16) := by kernel_rfl

/-- What holds between two rounds. -/
structure UndAt (n0 : Nat) (J : Option Nat → List Nat → World → Prop) (gc : Option Nat) (pre : List Nat) (fs : List ByteArray) (v : Value) (W : World) : Prop where
  row : TxtRow W n0 v fs
  has : J gc pre W
  size : n0 ≤ W.heap.size
  apart : ∀ b, v.ownBlock = some b → gc ≠ some b

theorem heap_alloc_lt (W : World) (o : Obj) (b : Nat) (h : b < W.heap.size) : (W.alloc o).heap[b]? = W.heap[b]? := (World.grownBy_alloc W o none).block b h (by simp)

theorem UndAt.alloc {g : Nat} {lb : Value × Value} {n0 : Nat} {a : Option Addr} {l : List Ac} {cap : Nat} {J : Option Nat → List Nat → World → Prop} (D : Does g lb n0 a l cap J) {gc : Option Nat} {pre : List Nat} {fs : List ByteArray} {v : Value} {W : World} (h : UndAt n0 J gc pre fs v W) (o : Obj) : UndAt n0 J gc pre fs v (W.alloc o) :=
  ⟨World.ownsRow.alloc h.row o, D.keep gc pre W _ none h.has (World.grownBy_alloc W o none) h.size (fun b hb => by cases hb), by have := h.size; simp; omega, h.apart⟩

theorem UndAt.grown {g : Nat} {lb : Value × Value} {n0 : Nat} {a : Option Addr} {l : List Ac} {cap : Nat} {J : Option Nat → List Nat → World → Prop} (D : Does g lb n0 a l cap J) {gc : Option Nat} {pre : List Nat} {fs fs' : List ByteArray} {v : Value} {W w1 : World} (h : UndAt n0 J gc pre fs v W) {g' c' : Nat} (hown : TxtRow w1 n0 (.slice (some ⟨g', 0, none⟩) fs'.length c') fs') (hg : W.grownBy w1 v.ownBlock) (hat : v.ownBlock = some g' ∨ g' = W.heap.size) : UndAt n0 J gc pre fs' (.slice (some ⟨g', 0, none⟩) fs'.length c') w1 := by
  have hv : ∀ b, v.ownBlock = some b → n0 ≤ b := fun b hb => by
    rcases h.row.form with ⟨rfl, _⟩ | ⟨g, cp, rfl, hn, _⟩
    · cases hb
    · cases hb; exact hn
  refine ⟨hown, D.keep gc pre W w1 v.ownBlock h.has hg h.size (fun b hb => ⟨hv b hb, h.apart b hb⟩), by have := h.size; have := hg.size; omega, ?_⟩
  · intro b hb
    cases hb
    rcases hat with e | e
    · exact h.apart g' e
    · intro h2
      have := D.lt gc pre W h.has g' h2
      omega

/-- Behind a call of the function. -/
theorem UndAt.called {g : Nat} {lb : Value × Value} {n0 : Nat} {a : Option Addr} {l : List Ac} {cap : Nat} {J : Option Nat → List Nat → World → Prop} (D : Does g lb n0 a l cap J) {gc : Option Nat} {pre : List Nat} {fs : List ByteArray} {v : Value} {W : World} (h : UndAt n0 J gc pre fs v W) (i : Nat) (hi : i < l.length) (hp : pre.length ≤ i) :
    Calls Tryz.prog g #[.int .i64 (i : Nat), lb.1, lb.2] W fun e w' => e = .returned (.tuple #[]) ∧ ∃ gc', UndAt n0 J gc' (pre ++ [i]) fs v w' := by
  refine (D.call gc pre i W h.has hi hp h.size).mono ?_
  rintro e w' ⟨rfl, gc', hJ, hor, hs, hk⟩
  refine ⟨rfl, gc', ?_, hJ, Nat.le_trans h.size hs, ?_⟩
  · rcases h.row.2 with ⟨hv, hn⟩ | ⟨g1, c1, cur, hv, hb, hh, r1, r2, r3, r4⟩
    · exact ⟨h.row.1, .inl ⟨hv, hn⟩⟩
    · have hlt := (Array.getElem?_eq_some_iff.1 hh).1
      exact ⟨h.row.1, .inr ⟨g1, c1, cur, hv, hb, (hk g1 hlt hb (fun e => h.apart g1 (by rw [hv]; rfl) e.symm)).trans hh, r1, r2, r3, r4⟩⟩
  · intro b hb
    rcases hor with rfl | ⟨h1, rfl, h2⟩
    · exact h.apart b hb
    · intro e
      cases e
      rcases h.row.form with ⟨hv, _⟩ | ⟨g1, c1, hv, _, hlt, _⟩
      · rw [hv] at hb; cases hb
      · rw [hv] at hb; cases hb; simp only at h2; omega
end Go.Proofs.YtiolkeipgpkbmaaGreatDoor

namespace Go.Proofs.YtiolkeipgpkbmaaGreatDoor
set_option linter.unusedVariables false
set_option linter.unusedSimpArgs false
set_option maxRecDepth 100000
open Go.RowKit Go.Lib

end Go.Proofs.YtiolkeipgpkbmaaGreatDoor
