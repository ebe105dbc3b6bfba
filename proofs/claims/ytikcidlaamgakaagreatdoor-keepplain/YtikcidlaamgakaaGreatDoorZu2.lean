/-
  The contract of daylaw2.bytesOf.
-/
import Derived.Test.YtikcidlaamgakaaGreatDoorZu1
import Derived.Test.YtikcidlaamgakaaGreatDoorProg
import Derived.WalkKit
import Derived.WalkSpells
import Derived.LaidEql
import Derived.Stop.Asserts
import Derived.RowKitTokens
import Derived.Below
import Derived.Lib.AppendStr
import Derived.Laws.BytesArg
namespace Go.Proofs.YtikcidlaamgakaaGreatDoor
set_option linter.unusedVariables false
set_option linter.unusedSimpArgs false
set_option maxRecDepth 100000
open Go.RowKit Go.Lib

/-- What is safe behind a crash: of the changes from number k on those that are marked are done. -/
def crashS (mk : List Bool) (torn : Int) : Nat → List Cg → List Bk → List Bk
  | _, [], s => s
  | k, c :: cs, s => crashS mk torn (k + 1) cs (if mk.getD k false = true then s.set c.at_ ⟨c.tgt.byt, decide ((k : Int) = torn)⟩ else s)
def Dk.crash (D : Dk) (keep : List Int) (torn : Int) : Dk :=
  ⟨crashS (markL keep D.chg.length) torn 0 D.chg D.safe, crashS (markL keep D.chg.length) torn 0 D.chg D.safe, [], 0, -1⟩
theorem crashS_ok (mk : List Bool) (torn : Int) (n : Nat) : ∀ (cs : List Cg) (k : Nat) (s : List Bk), s.length = n → (∀ x ∈ s, x.ok) → (∀ c ∈ cs, c.tgt.ok ∧ c.at_ < n) → (crashS mk torn k cs s).length = n ∧ ∀ x ∈ crashS mk torn k cs s, x.ok
  | [], _, s, h1, h2, _ => ⟨h1, h2⟩
  | c :: cs, k, s, h1, h2, h3 => by
    unfold crashS
    refine crashS_ok mk torn n cs (k + 1) _ ?_ ?_ (fun x hx => h3 x (by simp [hx]))
    · split
      · rw [List.length_set]; exact h1
      · exact h1
    · intro x hx
      split at hx
      · rcases List.mem_or_eq_of_mem_set hx with hx | rfl
        · exact h2 x hx
        · exact (h3 c (by simp)).1
      · exact h2 x hx
theorem crashS_step {mk : List Bool} {torn : Int} {l : List Cg} {k : Nat} {s : List Bk} (hk : k < l.length) :
    crashS mk torn k (l.drop k) s = crashS mk torn (k + 1) (l.drop (k + 1)) (if mk.getD k false = true then s.set (l.getD k cg0).at_ ⟨(l.getD k cg0).tgt.byt, decide ((k : Int) = torn)⟩ else s) := by
  have hc : l.getD k cg0 = l[k] := by rw [List.getD_eq_getElem?_getD, List.getElem?_eq_getElem hk]; rfl
  rw [List.drop_eq_getElem_cons hk, hc]
  rfl

theorem set_torn (c : Cg) (h : c.tgt.ok) (b : Bool) : c.cells.toArray.setIfInBounds 65 (.bool b) = (Cg.mk c.at_ ⟨c.tgt.byt, b⟩).cells.toArray := by
  have hl : (byC c.tgt.byt).length = 64 := by rw [byC_length]; exact h
  simp only [List.setIfInBounds_toArray, Cg.cells, Bk.cells]
  congr 1
  rw [List.set_cons_succ]
  congr 1
  rw [List.set_append_right _ _ (by rw [hl]; exact Nat.le_refl _), hl]
  rfl

/-- A change's cells, in its row. -/
theorem chg_range {w : World} {g : Nat} {cur : Array Value} {t : TypeId} {l : List Cg} (h : w.heap[g]? = some (.cells cur t (0, 0))) (hr : cur.toList.take (l.length * 66) = rowOf Cg.cells l) (ho : ∀ c ∈ l, c.tgt.ok) (k : Nat) (hk : k < l.length) : w.rangeAt g (k * 66) (l.getD k cg0).cells := by
  intro j v hv
  have hc : (l.getD k cg0) = l[k] := by rw [List.getD_eq_getElem?_getD, List.getElem?_eq_getElem hk]; rfl
  rw [hc] at hv
  have hj : j < 66 := by
    have := (List.getElem?_eq_some_iff.1 hv).1
    rw [Cg.cells_length (ho _ (List.getElem_mem hk))] at this
    exact this
  have e := rowOf_get Cg.cells 66 l k j hk (fun x hx => Cg.cells_length (ho x hx)) hj
  rw [← hr, List.getElem?_take, if_pos (by omega)] at e
  rw [cell_of_row w g _ _ t (0, 0) h, ← Array.getElem?_toList, e]
  exact hv

end Go.Proofs.YtikcidlaamgakaaGreatDoor

namespace Go.Proofs.YtikcidlaamgakaaGreatDoor
set_option linter.unusedVariables false
open Go.RowKit Go.Extern.Stop Go.Stop Go.Extern

theorem valueOfP (t : Addr) (w : World) : (ReflectliteValue.unpack (.iface 83 (.pointer (some t)))).run Tryz.prog w
    = .ok (.agg #[.pointer (some ⟨1, 83, none⟩), .pointer (some ⟨w.heap.size, 0, none⟩), .int .u64 150]) (w.alloc (.cells #[.pointer (some t)] 83)) := by kernel_rfl
theorem typeP (a : Addr) (w : World) : (ReflectliteValue.methodAny (ReflectliteValue.valueError "reflectlite.Value.Type" 0) (fun t _ _ _ => ReflectliteType.toType t) #[.agg #[.pointer (some ⟨1, 83, none⟩), .pointer (some a), .int .u64 150]]).run Tryz.prog w
    = .ok (.iface 136 (.agg #[.pointer (some ⟨1, 83, none⟩)])) w := by kernel_rfl
theorem methodKind (h : Value) (w : World) : (Go.method 282 136 (.agg #[h]) "Kind").run Tryz.prog w = .ok (101, h) w := by kernel_rfl
theorem kindP (w : World) : ((ReflectliteType.abiMethod fun t => Functor.map (fun a : Nat => Value.int IntKind.u8 (a : Int)) (Rtype.kind t)) #[.pointer (some ⟨1, 83, none⟩)]).run Tryz.prog w = .ok (.int .u8 22) w := by kernel_rfl
theorem kindE (w : World) : ((ReflectliteType.abiMethod fun t => Functor.map (fun a : Nat => Value.int IntKind.u8 (a : Int)) (Rtype.kind t)) #[.pointer (some ⟨1, 41, none⟩)]).run Tryz.prog w = .ok (.int .u8 2) w := by kernel_rfl
theorem rlm (z : Sem Value) (f : TypeId → Addr → Nat → Nat → Sem Value) (v : Value) :
    ReflectliteValue.method z f #[v] = (do match ← ReflectliteValue.parts v with | none => z | some (t, a, fl) => f t a fl (fl % 32)) := rfl
theorem partsP (a : Addr) (w : World) : (ReflectliteValue.parts (.agg #[.pointer (some ⟨1, 83, none⟩), .pointer (some a), .int .u64 150])).run Tryz.prog w = .ok (some (83, a, 150)) w := by kernel_rfl
theorem isNilP (a p : Addr) (W : World) (ha : W.cell? a = some (.pointer (some p))) :
    (ReflectliteValue.method (ReflectliteValue.valueError "reflectlite.Value.IsNil" 0) ReflectliteValue.isNil #[.agg #[.pointer (some ⟨1, 83, none⟩), .pointer (some a), .int .u64 150]]).run Tryz.prog W = .ok (.bool false) W := by
  rw [rlm]
  simp only [Sem.run_bind, partsP, Result.andThen]
  simp [ReflectliteValue.isNil, loadVar, isAgg, underlying, Tryz.underlying83, ha, Result.andThen]
theorem methodElem (h : Value) (w : World) : (Go.method 282 136 (.agg #[h]) "Elem").run Tryz.prog w = .ok (112, .agg #[h]) w := by kernel_rfl
theorem methodImplements (h : Value) (w : World) : (Go.method 282 136 (.agg #[h]) "Implements").run Tryz.prog w = .ok (113, .agg #[h]) w := by kernel_rfl
theorem methodAssignableTo (h : Value) (w : World) : (Go.method 282 136 (.agg #[h]) "AssignableTo").run Tryz.prog w = .ok (110, .agg #[h]) w := by kernel_rfl
theorem elemP (w : World) : (ReflectliteType.method ReflectliteType.elem #[.agg #[.pointer (some ⟨1, 83, none⟩)]]).run Tryz.prog w = .ok (.iface 136 (.agg #[.pointer (some ⟨1, 41, none⟩)])) w := by kernel_rfl
theorem implementsE (w : World) : (ReflectliteType.relation "Implements" ReflectliteType.implements_ #[.agg #[.pointer (some ⟨1, 41, none⟩)], .iface 136 (.agg #[.pointer (some ⟨1, 25, none⟩)])]).run Tryz.prog w = .ok (.bool true) w := by kernel_rfl
theorem typeOfE (v : Value) (w : World) : (ReflectliteType.typeOf #[.iface 41 v]).run Tryz.prog w = .ok (.iface 136 (.agg #[.pointer (some ⟨1, 41, none⟩)])) w := by kernel_rfl
theorem assignableE (w : World) : (ReflectliteType.relation "AssignableTo" ReflectliteType.assignableTo #[.agg #[.pointer (some ⟨1, 41, none⟩)], .iface 136 (.agg #[.pointer (some ⟨1, 41, none⟩)])]).run Tryz.prog w = .ok (.bool true) w := by kernel_rfl
theorem valueOfE (n : Int) (w : World) : (ReflectliteValue.unpack (.iface 41 (.int .i64 n))).run Tryz.prog w
    = .ok (.agg #[.pointer (some ⟨1, 41, none⟩), .pointer (some ⟨w.heap.size, 0, none⟩), .int .u64 130]) (w.alloc (.cells #[.int .i64 n] 41)) := by kernel_rfl
theorem elemOfP (w : World) : (Rtype.elem? 83).run Tryz.prog w = .ok (some 41) w := by kernel_rfl
theorem mkE (p : Addr) (w : World) : (ReflectliteValue.mk 41 p ReflectliteValue.flagAddr).run Tryz.prog w = .ok (.agg #[.pointer (some ⟨1, 41, none⟩), .pointer (some p), .int .u64 386]) w := by kernel_rfl
theorem elemVP (a p : Addr) (W : World) (ha : W.cell? a = some (.pointer (some p))) :
    (ReflectliteValue.method (ReflectliteValue.valueError "reflectlite.Value.Elem" 0) ReflectliteValue.elem #[.agg #[.pointer (some ⟨1, 83, none⟩), .pointer (some a), .int .u64 150]]).run Tryz.prog W
      = .ok (.agg #[.pointer (some ⟨1, 41, none⟩), .pointer (some p), .int .u64 386]) W := by
  rw [rlm]
  simp only [Sem.run_bind, partsP, Result.andThen]
  simp [ReflectliteValue.elem, loadVar, isAgg, underlying, Tryz.underlying83, ha, Result.andThen, elemOfP, mkE]
theorem rls (v x : Value) : ∃ s1 s2 s3 s4 s5 : String, ReflectliteValue.set #[v, x] = (do
    let (some (dst, a, fl), some (src, b, _)) := (← ReflectliteValue.parts v, ← ReflectliteValue.parts x)
      | unsupported (.noEntry s1)
    if fl / ReflectliteValue.flagAddr % 2 == 0 then unsupported (.noEntry s2)
    let val ← loadVar src b
    if ← Rtype.directlyAssignable dst src then storeVar dst a val
    else if ← Rtype.implements dst src then
      if (← Rtype.kind src) == 20 then
        match val with
        | .nilIface => unsupported (.noEntry s3)
        | _ => storeVar dst a val
      else storeVar dst a (.iface src val)
    else panicString (s4 ++ (← Rtype.spelt src) ++ s5 ++ (← Rtype.spelt dst))
    pure (.tuple #[])) := ⟨_, _, _, _, _, rfl⟩
theorem partsEa (a : Addr) (w : World) : (ReflectliteValue.parts (.agg #[.pointer (some ⟨1, 41, none⟩), .pointer (some a), .int .u64 386])).run Tryz.prog w = .ok (some (41, a, 386)) w := by kernel_rfl
theorem partsE (a : Addr) (w : World) : (ReflectliteValue.parts (.agg #[.pointer (some ⟨1, 41, none⟩), .pointer (some a), .int .u64 130])).run Tryz.prog w = .ok (some (41, a, 130)) w := by kernel_rfl
theorem directE (w : World) : (Rtype.directlyAssignable 41 41).run Tryz.prog w = .ok true w := by kernel_rfl
theorem setE (ta b : Addr) (n : Int) (old : Value) (W : World) (hb : W.cell? b = some (.int .i64 n)) (ht : W.cell? ta = some old) (hf : W.frozen? ta = false) :
    (ReflectliteValue.set #[.agg #[.pointer (some ⟨1, 41, none⟩), .pointer (some ta), .int .u64 386], .agg #[.pointer (some ⟨1, 41, none⟩), .pointer (some b), .int .u64 130]]).run Tryz.prog W
      = .ok (.tuple #[]) (W.setCell ta (.int .i64 n)) := by
  obtain ⟨s1, s2, s3, s4, s5, h⟩ := rls (.agg #[.pointer (some ⟨1, 41, none⟩), .pointer (some ta), .int .u64 386]) (.agg #[.pointer (some ⟨1, 41, none⟩), .pointer (some b), .int .u64 130])
  rw [h]
  simp only [Sem.run_bind, partsEa, partsE, Result.andThen]
  simp [ReflectliteValue.flagAddr, loadVar, isAgg, underlying, Tryz.underlying41, hb, Result.andThen, directE, storeVar, Value.cells, storeCells, Addr.add]
  rw [run_store Tryz.prog W ta _ _ (by rfl)]
  simp [ht, hf]
end Go.Proofs.YtikcidlaamgakaaGreatDoor

namespace Go.Proofs.YtikcidlaamgakaaGreatDoor
set_option linter.unusedVariables false
open Go.RowKit Go.Extern.Stop Go.Stop Go.Extern

theorem as_nil (t : Value) (w : World) :
    Calls Tryz.prog 34 #[.nilIface, t] w fun e w' => e = .returned (.bool false) ∧ w' = w := by
  go_enter Tryz.func34, Tryz.ntmps34
  go_wp2
  go_ret
  exact ⟨rfl, rfl⟩

set_option maxHeartbeats 4000000 in
theorem as_hit (n : Int) (t : Addr) (old : Value) (w : World) (hg : w.cell? ⟨0, 0, none⟩ = some (.iface 136 (.agg #[.pointer (some ⟨1, 25, none⟩)]))) (ht0 : w.cell? t = some old) (hf0 : w.frozen? t = false) :
    Calls Tryz.prog 34 #[.iface 41 (.int .i64 n), .iface 83 (.pointer (some t))] w fun ev w' => ev = .returned (.bool true) ∧ ∃ o1 o2 o3 o4, w' = ((((w.alloc o1).alloc o2).alloc o3).alloc o4).setCell t (.int .i64 n) := by
  have h6 := @run_callFunc_extern Tryz.prog 57 _ (fun args => ReflectliteValue.unpack (args.getD 0 (.tuple #[]))) Tryz.func57 (by kernel_rfl) (by kernel_rfl) (by kernel_rfl) (by kernel_rfl)
  have h7 := @run_callFunc_extern Tryz.prog 58 _ (ReflectliteValue.methodAny (ReflectliteValue.valueError "reflectlite.Value.Type" 0) (fun t _ _ _ => ReflectliteType.toType t)) Tryz.func58 (by kernel_rfl) (by kernel_rfl) (by kernel_rfl) (by kernel_rfl)
  have h8 := @run_callFunc_extern Tryz.prog 59 _ (ReflectliteValue.method (ReflectliteValue.valueError "reflectlite.Value.IsNil" 0) ReflectliteValue.isNil) Tryz.func59 (by kernel_rfl) (by kernel_rfl) (by kernel_rfl) (by kernel_rfl)
  have h27 := @run_callFunc_extern Tryz.prog 101 _ (ReflectliteType.abiMethod fun t => do pure (.int .u8 (← Rtype.kind t))) Tryz.func101 (by kernel_rfl) (by kernel_rfl) (by kernel_rfl) (by kernel_rfl)
  have h37 := @run_callFunc_extern Tryz.prog 112 _ (ReflectliteType.method ReflectliteType.elem) Tryz.func112 (by kernel_rfl) (by kernel_rfl) (by kernel_rfl) (by kernel_rfl)
  have h38 := @run_callFunc_extern Tryz.prog 113 _ (ReflectliteType.relation "Implements" ReflectliteType.implements_) Tryz.func113 (by kernel_rfl) (by kernel_rfl) (by kernel_rfl) (by kernel_rfl)
  have h10 := @run_callFunc_extern Tryz.prog 77 _ ReflectliteType.typeOf Tryz.func77 (by kernel_rfl) (by kernel_rfl) (by kernel_rfl) (by kernel_rfl)
  have h35 := @run_callFunc_extern Tryz.prog 110 _ (ReflectliteType.relation "AssignableTo" ReflectliteType.assignableTo) Tryz.func110 (by kernel_rfl) (by kernel_rfl) (by kernel_rfl) (by kernel_rfl)
  have h11 := @run_callFunc_extern Tryz.prog 78 _ (ReflectliteValue.method (ReflectliteValue.valueError "reflectlite.Value.Elem" 0) ReflectliteValue.elem) Tryz.func78 (by kernel_rfl) (by kernel_rfl) (by kernel_rfl) (by kernel_rfl)
  have h12 := @run_callFunc_extern Tryz.prog 79 _ ReflectliteValue.set Tryz.func79 (by kernel_rfl) (by kernel_rfl) (by kernel_rfl) (by kernel_rfl)
  have tO := typeOfE
  have mA := methodAssignableTo
  have aE := assignableE
  have vE := valueOfE
  have f6 := valueOfP
  have f7 := typeP
  have mK := methodKind
  have mE := methodElem
  have mI := methodImplements
  have kP := kindP
  have kE := kindE
  have eP := elemP
  have iE := implementsE
  have n8 := isNilP ⟨w.heap.size, 0, none⟩ t ((w.alloc (.cells #[.pointer (some t)] 83)).alloc (.cells #[.pointer (some ⟨1, 83, none⟩), .pointer (some ⟨w.heap.size, 0, none⟩), .int .u64 150] 112)) (by simp)
  have hlt : 0 < w.heap.size := World.block_lt_of_cell? _ _ hg
  have hg2 : ((w.alloc (.cells #[.pointer (some t)] 83)).alloc (.cells #[.pointer (some ⟨1, 83, none⟩), .pointer (some ⟨w.heap.size, 0, none⟩), .int .u64 150] 112)).cell? ⟨0, 0, none⟩ = some (.iface 136 (.agg #[.pointer (some ⟨1, 25, none⟩)])) := by
    rw [World.cell?_alloc_lt _ _ ⟨0, 0, none⟩ (by simp <;> omega), World.cell?_alloc_lt _ _ ⟨0, 0, none⟩ hlt]; exact hg
  have htl : t.block < w.heap.size := World.block_lt_of_cell? _ _ ht0
  generalize hW3 : (((w.alloc (.cells #[.pointer (some t)] 83)).alloc (.cells #[.pointer (some ⟨1, 83, none⟩), .pointer (some ⟨w.heap.size, 0, none⟩), .int .u64 150] 112)).alloc (.cells #[.pointer (some ⟨1, 83, none⟩), .pointer (some ⟨w.heap.size, 0, none⟩), .int .u64 150] 112)) = W3
  have k0 : W3.cell? ⟨w.heap.size, 0, none⟩ = some (.pointer (some t)) := by
    rw [← hW3, World.cell?_alloc_lt _ _ _ (by simp <;> omega), World.cell?_alloc_lt _ _ _ (by simp)]; simp
  have ksz : W3.heap.size = w.heap.size + 1 + 1 + 1 := by rw [← hW3]; simp
  have k1 : W3.cell? t = some old := by
    rw [← hW3, World.cell?_alloc_lt _ _ t (by simp <;> omega), World.cell?_alloc_lt _ _ t (by simp <;> omega), World.cell?_alloc_lt _ _ t htl]; exact ht0
  have k2 : W3.frozen? t = false := by
    rw [← hW3, World.frozen?_alloc_old _ _ t (by simp <;> omega), World.frozen?_alloc_old _ _ t (by simp <;> omega), World.frozen?_alloc_old _ _ t (Nat.ne_of_lt htl)]; exact hf0
  have el := elemVP ⟨w.heap.size, 0, none⟩ t W3 k0
  have st := setE t ⟨w.heap.size + 1 + 1 + 1, 0, none⟩ n old (W3.alloc (.cells #[.int .i64 n] 41)) (by rw [← ksz]; simp)
    (by rw [World.cell?_alloc_lt _ _ t (by omega)]; exact k1) (by rw [World.frozen?_alloc_old _ _ t (by omega)]; exact k2)
  subst hW3
  clear k0 k1 k2 ksz
  go_enter Tryz.func34, Tryz.ntmps34
  go_wp2
  refine wp_loop_rounds 1 ?_
  rw [rounds_succ]
  go_wp2
  go_ret
  exact ⟨rfl, _, _, _, _, rfl⟩

/-- What is told of an error. -/
theorem told_nil (w : World) : Calls Tryz.prog 14 #[.nilIface] w fun e w' => e = .returned (.int .i64 0) ∧ w' = w := by
  go_enter Tryz.func14, Tryz.ntmps14
  go_wp2
  go_ret
  exact ⟨rfl, rfl⟩

theorem told_errno (n : Int) (w : World) (hg : w.cell? ⟨0, 0, none⟩ = some (.iface 136 (.agg #[.pointer (some ⟨1, 25, none⟩)]))) :
    Calls Tryz.prog 14 #[.iface 41 (.int .i64 n)] w fun e w' => e = .returned (.int .i64 n) ∧ Below w.heap.size w w' := by
  go_enter Tryz.func14, Tryz.ntmps14
  go_wp2_with fail
  have hlt : 0 < w.heap.size := World.block_lt_of_cell? _ _ hg
  refine (as_hit n ⟨w.heap.size, 0, none⟩ (.int .i64 0) _ (by rw [World.cell?_alloc_lt _ _ _ hlt]; exact hg) (by simp) (by simp)).mono ?_
  rintro e w' ⟨rfl, o1, o2, o3, o4, hw⟩
  have hc : w'.cell? ⟨w.heap.size, 0, none⟩ = some (.int .i64 n) := by
    rw [hw]
    refine World.cell?_setCell_same _ _ _ (?_ : _ = some (.int .i64 0))
    rw [World.cell?_alloc_lt _ _ _ (by simp <;> omega), World.cell?_alloc_lt _ _ _ (by simp <;> omega), World.cell?_alloc_lt _ _ _ (by simp <;> omega), World.cell?_alloc_lt _ _ _ (by simp)]
    simp
  have hb : Below w.heap.size w w' := by
    rw [hw]
    refine Below.setCell (p := ⟨w.heap.size, 0, none⟩) ?_ (Nat.le_refl w.heap.size) _
    exact ((((((Below.refl _ _).alloc (Nat.le_refl _) _).alloc (by simp) _).alloc (by simp <;> omega) _).alloc (by simp <;> omega) _).alloc (by simp <;> omega) _)
  clear hw o1 o2 o3 o4
  go_wp2
  go_ret
  exact ⟨rfl, hb⟩

theorem error_nil (m : Int) (w : World) : Calls Tryz.prog 6 #[.nilIface, .int .i64 m] w fun e w' => e = .returned (.bool ((0 : Int) == m)) ∧ w' = w := by
  go_enter Tryz.func6, Tryz.ntmps6
  go_wp2_with fail
  refine (told_nil _).mono ?_
  rintro e w' ⟨rfl, hw⟩
  rw [hw]; clear hw w'
  go_wp2
  go_ret
  exact ⟨rfl, rfl⟩

theorem error_errno (n m : Int) (w : World) (h1 : -9223372036854775808 ≤ n) (h2 : n ≤ 9223372036854775807) (hg : w.cell? ⟨0, 0, none⟩ = some (.iface 136 (.agg #[.pointer (some ⟨1, 25, none⟩)]))) :
    Calls Tryz.prog 6 #[.iface 41 (.int .i64 n), .int .i64 m] w fun e w' => e = .returned (.bool (n == m)) ∧ Below w.heap.size w w' := by
  go_enter Tryz.func6, Tryz.ntmps6
  go_wp2_with fail
  refine (told_errno n _ hg).mono ?_
  rintro e w' ⟨rfl, hb⟩
  go_wp2
  go_ret
  exact ⟨rfl, hb⟩
end Go.Proofs.YtikcidlaamgakaaGreatDoor

namespace Go.Proofs.YtikcidlaamgakaaGreatDoor
set_option linter.unusedVariables false
open Go.RowKit

/-- The variable for the type of errors is as it is laid. -/
def ErrT (w : World) : Prop := w.cell? ⟨0, 0, none⟩ = some (.iface 136 (.agg #[.pointer (some ⟨1, 25, none⟩)]))
theorem ErrT.lt {w : World} (h : ErrT w) : 0 < w.heap.size := World.block_lt_of_cell? _ _ h
theorem ErrT.below {w w' : World} {B : Nat} (h : ErrT w) (hb : Below B w w') (hB : w.heap.size ≤ B) : ErrT w' := by
  unfold ErrT
  rw [hb.cell (p := ⟨0, 0, none⟩) (Nat.lt_of_lt_of_le h.lt hB)]
  exact h

/-- An error and its number. -/
def ErrIs (E : Value) (c : Int) : Prop := (E = .nilIface ∧ c = 0) ∨ (E = .iface 41 (.int .i64 c) ∧ -9223372036854775808 ≤ c ∧ c ≤ 9223372036854775807)

theorem err_true {E : Value} {c : Int} (h : ErrIs E c) (w : World) (hg : ErrT w) :
    Calls Tryz.prog 6 #[E, .int .i64 c] w fun e w' => e = .returned (.bool true) ∧ Below w.heap.size w w' := by
  rcases h with ⟨rfl, rfl⟩ | ⟨rfl, h1, h2⟩
  · refine (error_nil 0 w).mono ?_
    rintro e w' ⟨rfl, rfl⟩
    exact ⟨rfl, Below.refl _ _⟩
  · refine (error_errno c c w h1 h2 hg).mono ?_
    rintro e w' ⟨rfl, hb⟩
    exact ⟨by simp, hb⟩

end Go.Proofs.YtikcidlaamgakaaGreatDoor

namespace Go.Proofs.YtikcidlaamgakaaGreatDoor
set_option linter.unusedVariables false
set_option linter.unusedSimpArgs false
set_option maxRecDepth 100000
open Go.RowKit Go.Lib

def txt (l : List UInt8) : ByteArray := ⟨l.toArray⟩
theorem strNums (l : List UInt8) : strOfNums (l.map fun b => (b.toNat : Int)) = txt l := by
  unfold strOfNums txt
  congr 1
  congr 1
  rw [List.map_map]
  conv => rhs; rw [← List.map_id l]
  apply List.map_congr_left
  intro b _
  simp
/-- 'string(b)'. -/
theorem run_str (W : World) (a : Option Addr) (l : List UInt8) (cap : Nat) (h : IsBy W a l cap) : (convert 35 9 (.slice a l.length cap)).run Tryz.prog W = .ok (.string (txt l)) W := by
  rcases h.lies with rfl | ⟨b, off, rfl, hlt, hc⟩
  · cases a with
    | none => exact run_convert_bytes_nil W 35 5 Tryz.underlying35 Tryz.underlying5 0 cap 9 Tryz.underlying9
    | some ad =>
      rw [run_convert_bytes_string W 35 9 5 _ _ _ Tryz.underlying35 Tryz.underlying5 Tryz.underlying9]
      have := run_bytesToString (P := Tryz.prog) W ad 0 cap [] (by
        have := run_loadCells_list (P := Tryz.prog) W ad [] (fun j v hj => by simp at hj)
        simpa using this)
      exact this
  · rw [run_convert_bytes_arg W 35 5 Tryz.underlying35 Tryz.underlying5 b off l.length cap (l.map fun b => (b.toNat : Int)) (by simp) (fun i hi => by
      rw [hc i hi]
      simp [List.getD, hi]) 9 Tryz.underlying9, strNums]
/-- A beginning of what was read. -/
theorem isBy_row {W : World} {g : Nat} {l : List UInt8} {t : TypeId} (h : W.heap[g]? = some (.cells (byC l).toArray t (0, 0))) (m : Nat) (hm : m ≤ l.length) (cap : Nat) (hc : m ≤ cap) : IsBy W (some ⟨g, 0, none⟩) (l.take m) cap := by
  refine ⟨by rw [List.length_take]; omega, .inr ⟨g, 0, rfl, (Array.getElem?_eq_some_iff.1 h).1, fun k hk => ?_⟩⟩
  rw [List.length_take] at hk
  rw [cell_of_row W g _ _ t (0, 0) h]
  have : k < l.length := by omega
  simp [byC, this]
theorem padB_take (l : List UInt8) : (padB l).take l.length = l := by simp [padB]

/-- A disk that a call has made. -/
def Tn (w W : World) (p nb sb : Nat) (cv : Value) (n : Nat) (D : Dk) : Prop := DkAt W w.heap.size p nb sb cv n D ∧ Below w.heap.size w W
theorem Tn.still {w W U : World} {p nb sb : Nat} {cv : Value} {n : Nat} {D : Dk} (h : Tn w W p nb sb cv n D) (hs : Still W U) : Tn w U p nb sb cv n D := ⟨h.1.still hs, h.2.trans (hs.below _)⟩
theorem Tn.below {w W U : World} {p nb sb : Nat} {cv : Value} {n : Nat} {D : Dk} (h : Tn w W p nb sb cv n D) (hs : Below W.heap.size W U) : Tn w U p nb sb cv n D := ⟨h.1.below hs, h.2.trans (hs.mono h.2.size)⟩
theorem Tn.keeps {w W U : World} {p nb sb : Nat} {cv cv' : Value} {n : Nat} {D D' : Dk} (h : Tn w W p nb sb cv n D) (hd : DkAt U w.heap.size p nb sb cv' n D') (hk : Keeps w.heap.size dkT W U) : Tn w U p nb sb cv' n D' := ⟨hd, h.2.trans (hk.below h.2.size)⟩

section
variable {w W : World} {p nb sb : Nat} {cv : Value} {n : Nat} {D : Dk}
theorem tn_write (h : Tn w W p nb sb cv n D) (i : Nat) (a : Option Addr) (l : List UInt8) (cap : Nat) (hf : D.failing = false) (hi : i < n) (hl : l.length ≤ 64) (hn : n ≤ 200) (hs0 : D.steps ≤ 1000000) (hc0 : D.chg.length ≤ 1000000) (hB : IsBy W a l cap) :
    Calls Tryz.prog 18 #[.pointer (some ⟨p, 0, none⟩), .int .i64 (i : Int), .slice a l.length cap] W fun e w' => e = .returned .nilIface ∧ ∃ cv', Hid (Tn w w' p nb sb cv' n (D.write i l)) ∧ Hid (Keeps w.heap.size dkT W w') := by
  refine (write_ok w.heap.size p nb sb cv n D i a l cap W h.1 h.2.size hf hi hl hn hs0 hc0 hB).mono ?_
  rintro e w' ⟨rfl, cv', hd, hk⟩
  exact ⟨rfl, cv', h.keeps hd hk, hk⟩
theorem tn_writeBad (h : Tn w W p nb sb cv n D) (i : Int) (a : Option Addr) (l : List UInt8) (cap : Nat) (h0 : wrBad D n i l ≠ 0) :
    Calls Tryz.prog 18 #[.pointer (some ⟨p, 0, none⟩), .int .i64 i, .slice a l.length cap] W fun e w' => e = .returned (enE (wrBad D n i l)) ∧ Hid (Tn w w' p nb sb cv n D) ∧ Hid (Still W w') := by
  refine (write_bad w.heap.size p nb sb cv n D i a l cap W h.1 h0).mono ?_
  rintro e w' ⟨rfl, hs⟩
  exact ⟨rfl, h.still hs, hs⟩
theorem tn_readTorn (h : Tn w W p nb sb cv n D) (i : Nat) (hi : i < n) (ht : (D.now.getD i bk0).torn = true) :
    Calls Tryz.prog 41 #[.pointer (some ⟨p, 0, none⟩), .int .i64 (i : Int)] W fun e w' => e = .returned (.tuple #[.slice none 0 0, enE 9]) ∧ Hid (Tn w w' p nb sb cv n D) ∧ Hid (Still W w') := by
  refine (read_torn w.heap.size p nb sb cv n D i W h.1 hi ht).mono ?_
  rintro e w' ⟨rfl, hs⟩
  exact ⟨rfl, h.still hs, hs⟩
theorem tn_read (h : Tn w W p nb sb cv n D) (i : Nat) (hi : i < n) (ht : (D.now.getD i bk0).torn = false) :
    Calls Tryz.prog 41 #[.pointer (some ⟨p, 0, none⟩), .int .i64 (i : Int)] W fun e w' => e = .returned (.tuple #[.slice (some ⟨W.heap.size, 0, none⟩) 64 64, .nilIface]) ∧ Hid (Tn w w' p nb sb cv n D) ∧ Hid (w'.heap[W.heap.size]? = some (.cells (byC (D.now.getD i bk0).byt).toArray 5 (0, 0))) ∧ Hid (Below W.heap.size W w') := by
  refine (read_ok w.heap.size p nb sb cv n D i W h.1 hi ht).mono ?_
  rintro e w' ⟨rfl, h1, h2⟩
  exact ⟨rfl, h.below h2, h1, h2⟩
end
theorem tn_new (n : Nat) (w : World) (h1 : 1 ≤ n) (h2 : n ≤ 200) :
    Calls Tryz.prog 4 #[.int .i64 (n : Int)] w fun e w' => ∃ p nb sb, e = .returned (.tuple #[.pointer (some ⟨p, 0, none⟩), .nilIface]) ∧ Hid (Tn w w' p nb sb (.slice none 0 0) n (dk0 n)) := by
  refine (new_ok n w h1 h2).mono ?_
  rintro e w' ⟨p, nb, sb, rfl, hd, hb⟩
  exact ⟨p, nb, sb, rfl, hd, hb⟩
theorem IsBy.belowN {w w' : World} {n : Nat} {a : Option Addr} {l : List UInt8} {cap : Nat} (h : IsBy w a l cap) (hb : Below n w w') (hn : w.heap.size ≤ n) : IsBy w' a l cap := h.below (hb.mono hn)
theorem isIn_new (W : World) (l : List Int) (t : TypeId) : IsIn (W.alloc (.cells (l.map (Value.int .i64)).toArray t)) (some ⟨W.heap.size, 0, none⟩) l l.length := by
  refine ⟨Nat.le_refl _, .inr ⟨W.heap.size, 0, rfl, by simp, fun k hk => ?_⟩⟩
  rw [cell_of_row _ _ _ _ _ (0, 0) (new_heap W _)]
  simp [hk]
end Go.Proofs.YtikcidlaamgakaaGreatDoor

namespace Go.Proofs.YtikcidlaamgakaaGreatDoor
set_option linter.unusedVariables false
set_option linter.unusedSimpArgs false
set_option maxRecDepth 100000
open Go.RowKit Go.Lib

/-- So many bytes, rising. -/
def bysN (n m : Nat) : List UInt8 := (List.range m).map fun i => UInt8.ofNat (i + n)
theorem bysN_length (n m : Nat) : (bysN n m).length = m := by simp [bysN]
theorem bysN_succ (n m : Nat) : bysN n (m + 1) = bysN n m ++ [UInt8.ofNat (m + n)] := by simp [bysN, List.range_succ]
/-- How many bytes are made of a number. -/
def cutN (n : Int) : Nat := if n < 0 then 0 else if 65 < n then 65 else n.toNat
theorem cutN_le (n : Int) : cutN n ≤ 65 := by unfold cutN; split <;> (try split) <;> omega
def bysOf (n : Int) : List UInt8 := bysN (cutN n) (cutN n)
theorem bysOf_length (n : Int) : (bysOf n).length = cutN n := bysN_length _ _

/-- Bytes in a row of one's own. -/
def ByRow (w : World) (n : Nat) (v : Value) (l : List UInt8) : Prop := w.ownsRow n 5 1 v l.length (byC l)
theorem ByRow.nil (w : World) (n : Nat) : ByRow w n (.slice none 0 0) [] := World.ownsRow_nil _ _ _ _
theorem ByRow.isBy {W : World} {n0 : Nat} {v : Value} {l : List UInt8} (h : ByRow W n0 v l) : ∃ a cap, v = .slice a l.length cap ∧ IsBy W a l cap := by
  obtain ⟨hlen, ⟨rfl, h0⟩ | ⟨g, cap, cur, rfl, hb, hg, hc, hm, hs, ht⟩⟩ := h
  · have : l = [] := List.eq_nil_of_length_eq_zero h0
    subst this
    exact ⟨none, 0, rfl, Nat.le_refl _, .inl rfl⟩
  · refine ⟨_, cap, rfl, hc, .inr ⟨g, 0, rfl, (Array.getElem?_eq_some_iff.1 hg).1, ?_⟩⟩
    intro k hk
    have e1 : (byC l)[k]? = cur[k]? := by
      rw [← ht, List.getElem?_take, if_pos (by omega)]
      simp
    rw [← byC_get l k hk, e1]
    simp [World.cell?, hg]
theorem u8_tinfo : ∃ q, Tryz.prog.info? 5 = some q ∧ q.zero = some (.int .u8 0) ∧ q.size = 1 ∧ q.bytes = 1 := by
  obtain ⟨q, hq, hz⟩ := Option.map_eq_some_iff.1 u8_info
  simp only [Prod.mk.injEq] at hz
  exact ⟨q, hq, hz.1, hz.2.1, hz.2.2⟩

/-- Behind a Write, with an error or without. -/
def Dk.wr (D : Dk) (n : Nat) (i : Int) (l : List UInt8) : Dk := if wrBad D n i l = 0 then D.write i.toNat l else D
theorem wrBad_zero {D : Dk} {n : Nat} {i : Int} {l : List UInt8} (h : wrBad D n i l = 0) : D.failing = false ∧ hasK n i = true ∧ l.length ≤ 64 := by
  unfold wrBad at h
  split at h
  · cases h
  · rename_i h1
    split at h
    · cases h
    · rename_i h2
      split at h
      · cases h
      · exact ⟨by simpa using h1, by simpa using h2, by omega⟩
theorem tn_wr {w W : World} {p nb sb : Nat} {cv : Value} {n : Nat} {D : Dk} (h : Tn w W p nb sb cv n D) (i : Int) (a : Option Addr) (l : List UInt8) (cap : Nat) (hn : n ≤ 200) (hs0 : D.steps ≤ 1000000) (hc0 : D.chg.length ≤ 1000000) (hB : IsBy W a l cap) :
    Calls Tryz.prog 18 #[.pointer (some ⟨p, 0, none⟩), .int .i64 i, .slice a l.length cap] W fun e w' => e = .returned (enE (wrBad D n i l)) ∧ ∃ cv', Hid (Tn w w' p nb sb cv' n (D.wr n i l)) ∧ Hid (Keeps w.heap.size dkT W w') := by
  by_cases h0 : wrBad D n i l = 0
  · obtain ⟨h1, h2, h3⟩ := wrBad_zero h0
    have h2' : 0 ≤ i ∧ i < n := by simpa [hasK] using h2
    have e : D.wr n i l = D.write i.toNat l := if_pos h0
    rw [e, h0, enE_zero]
    have := tn_write h i.toNat a l cap h1 (by omega) h3 hn hs0 hc0 hB
    rwa [Int.toNat_of_nonneg h2'.1] at this
  · have e : D.wr n i l = D := if_neg h0
    rw [e]
    refine (tn_writeBad h i a l cap h0).mono ?_
    rintro e w' ⟨rfl, h1, h2⟩
    exact ⟨rfl, cv, h1, h2.out.keeps _ _⟩
/-- How much has been done, at most. -/
structure Dk.few (D : Dk) (k : Nat) : Prop where
  steps : D.steps ≤ k
  chg : D.chg.length ≤ k
theorem Dk.few.wr {D : Dk} {k : Nat} (h : D.few k) (n : Nat) (i : Int) (l : List UInt8) : (D.wr n i l).few (k + 1) := by
  unfold Dk.wr
  split
  · exact ⟨by simp only [Dk.write]; have := h.steps; omega, by simp only [Dk.write, List.length_append, List.length_singleton]; have := h.chg; omega⟩
  · exact ⟨by have := h.steps; omega, by have := h.chg; omega⟩
theorem Dk.fail_wr (D : Dk) (n : Nat) (i : Int) (l : List UInt8) : (D.wr n i l).fail = D.fail := by
  unfold Dk.wr
  split <;> rfl
theorem failing_neg {D : Dk} (h : D.fail < 0) : D.failing = false := by
  unfold Dk.failing
  exact decide_eq_false (by omega)
theorem tn_flush {w W : World} {p nb sb : Nat} {cv : Value} {n : Nat} {D : Dk} (h : Tn w W p nb sb cv n D) (hf : D.failing = false) (hs0 : D.steps ≤ 1000000) :
    Calls Tryz.prog 19 #[.pointer (some ⟨p, 0, none⟩)] W fun e w' => e = .returned .nilIface ∧ Hid (Tn w w' p nb sb (.slice none 0 0) n D.flush) ∧ Hid (Keeps w.heap.size dkT W w') := by
  refine (flush_ok w.heap.size p nb sb cv n D W h.1 hf hs0).mono ?_
  rintro e w' ⟨rfl, hd, hk⟩
  exact ⟨rfl, h.keeps hd hk, hk⟩
theorem ByRow.isBy' {W : World} {n0 : Nat} {a : Option Addr} {m cap : Nat} {l : List UInt8} (h : ByRow W n0 (.slice a m cap) l) : IsBy W a l cap := by
  obtain ⟨a', c', e, hs⟩ := h.isBy
  cases e
  exact hs
theorem ByRow.keeps {w W : World} {lo n0 : Nat} {v : Value} {l : List UInt8} (h : ByRow w n0 v l) (hk : Keeps lo dkT w W) : ByRow W n0 v l :=
  ownsRow_keep h (fun b cs e _ => (hk.row e (by simp [dkT])).trans e.symm)
theorem ByRow.below {w W : World} {n0 : Nat} {v : Value} {l : List UInt8} (h : ByRow w n0 v l) (hb : Below w.heap.size w W) : ByRow W n0 v l :=
  ownsRow_keep h (fun b cs e _ => hb.block b (Array.getElem?_eq_some_iff.1 e).1)
end Go.Proofs.YtikcidlaamgakaaGreatDoor
