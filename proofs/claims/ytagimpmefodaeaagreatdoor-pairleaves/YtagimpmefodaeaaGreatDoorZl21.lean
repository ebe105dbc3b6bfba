/-
  PairLeaves: whatever the input, the law returns true, and the input reads as it did (the tables and the handle of the errors laid as the program lays them).
-/
import Derived.Test.YtagimpmefodaeaaGreatDoorZl20
import Derived.Test.YtagimpmefodaeaaGreatDoorZl7
import Derived.Test.YtagimpmefodaeaaGreatDoorZl1
import Derived.Test.YtagimpmefodaeaaGreatDoorZl19
import Derived.Test.YtagimpmefodaeaaGreatDoorZl0
import Derived.Deep.Slices
import Derived.OpenShut
import Derived.KernelRfl
import Derived.Test.YtagimpmefodaeaaGreatDoorZl6
import Derived.Test.YtagimpmefodaeaaGreatDoorRows
import Derived.Test.YtagimpmefodaeaaGreatDoorCards
import Derived.Test.YtagimpmefodaeaaGreatDoorTie
import Derived.ChangeSame
import Derived.ChangeVars
import Derived.JoinedOf
import Derived.RowKit
import Derived.RowKitTokens
import Derived.LaidLaws
import Derived.LaidHandle
import Derived.Stop.Joined
import Derived.SevenTiedAt
import Derived.ProofKit
import Derived.Below
import Derived.ShutString
import Derived.ChangeOld
import Derived.SizedLaws
import Derived.Lib.LaidTab
import Derived.Stop.LaidErr
namespace Go.Proofs.YtagimpmefodaeaaGreatDoor
set_option linter.unusedVariables false
open Go.RowKit Go.Extern.Stop Go.Stop Go.Extern

theorem as_nil (t : Value) (w : World) :
    Calls Tryz.prog 37 #[.nilIface, t] w fun e w' => e = .returned (.bool false) ∧ w' = w := by
  go_enter Tryz.func37, Tryz.ntmps37
  go_wp2
  go_ret
  exact ⟨rfl, rfl⟩

set_option maxHeartbeats 4000000 in
theorem as_hit (n : Int) (t : Addr) (old : Value) (w : World) (hg : w.cell? ⟨0, 0, none⟩ = some (.iface 142 (.agg #[.pointer (some ⟨4, 27, none⟩)]))) (ht0 : w.cell? t = some old) (hf0 : w.frozen? t = false) :
    Calls Tryz.prog 37 #[.iface 43 (.int .i64 n), .iface 79 (.pointer (some t))] w fun ev w' => ev = .returned (.bool true) ∧ ∃ o1 o2 o3 o4, w' = ((((w.alloc o1).alloc o2).alloc o3).alloc o4).setCell t (.int .i64 n) := by
  have h6 := @run_callFunc_extern Tryz.prog 60 _ (fun args => ReflectliteValue.unpack (args.getD 0 (.tuple #[]))) Tryz.func60 (by kernel_rfl) (by kernel_rfl) (by kernel_rfl) (by kernel_rfl)
  have h7 := @run_callFunc_extern Tryz.prog 61 _ (ReflectliteValue.methodAny (ReflectliteValue.valueError "reflectlite.Value.Type" 0) (fun t _ _ _ => ReflectliteType.toType t)) Tryz.func61 (by kernel_rfl) (by kernel_rfl) (by kernel_rfl) (by kernel_rfl)
  have h8 := @run_callFunc_extern Tryz.prog 62 _ (ReflectliteValue.method (ReflectliteValue.valueError "reflectlite.Value.IsNil" 0) ReflectliteValue.isNil) Tryz.func62 (by kernel_rfl) (by kernel_rfl) (by kernel_rfl) (by kernel_rfl)
  have h27 := @run_callFunc_extern Tryz.prog 135 _ (ReflectliteType.abiMethod fun t => do pure (.int .u8 (← Rtype.kind t))) Tryz.func135 (by kernel_rfl) (by kernel_rfl) (by kernel_rfl) (by kernel_rfl)
  have h37 := @run_callFunc_extern Tryz.prog 146 _ (ReflectliteType.method ReflectliteType.elem) Tryz.func146 (by kernel_rfl) (by kernel_rfl) (by kernel_rfl) (by kernel_rfl)
  have h38 := @run_callFunc_extern Tryz.prog 147 _ (ReflectliteType.relation "Implements" ReflectliteType.implements_) Tryz.func147 (by kernel_rfl) (by kernel_rfl) (by kernel_rfl) (by kernel_rfl)
  have h10 := @run_callFunc_extern Tryz.prog 84 _ ReflectliteType.typeOf Tryz.func84 (by kernel_rfl) (by kernel_rfl) (by kernel_rfl) (by kernel_rfl)
  have h35 := @run_callFunc_extern Tryz.prog 144 _ (ReflectliteType.relation "AssignableTo" ReflectliteType.assignableTo) Tryz.func144 (by kernel_rfl) (by kernel_rfl) (by kernel_rfl) (by kernel_rfl)
  have h11 := @run_callFunc_extern Tryz.prog 85 _ (ReflectliteValue.method (ReflectliteValue.valueError "reflectlite.Value.Elem" 0) ReflectliteValue.elem) Tryz.func85 (by kernel_rfl) (by kernel_rfl) (by kernel_rfl) (by kernel_rfl)
  have h12 := @run_callFunc_extern Tryz.prog 86 _ ReflectliteValue.set Tryz.func86 (by kernel_rfl) (by kernel_rfl) (by kernel_rfl) (by kernel_rfl)
  have tO := typeOfE
  have mA := methodAssignableTo
  have aE := assignableE
  have vE := valueOfE
  have f6 := valueOfP
  have f7 := typeP
  have mK := methodKind
  have mE := methodElem
  have mI := methodImplements
  have kP := kindP
  have kE := kindE
  have eP := elemP
  have iE := implementsE
  have n8 := isNilP ⟨w.heap.size, 0, none⟩ t ((w.alloc (.cells #[.pointer (some t)] 79)).alloc (.cells #[.pointer (some ⟨4, 79, none⟩), .pointer (some ⟨w.heap.size, 0, none⟩), .int .u64 150] 110)) (by simp)
  have hlt : 0 < w.heap.size := World.block_lt_of_cell? _ _ hg
  have hg2 : ((w.alloc (.cells #[.pointer (some t)] 79)).alloc (.cells #[.pointer (some ⟨4, 79, none⟩), .pointer (some ⟨w.heap.size, 0, none⟩), .int .u64 150] 110)).cell? ⟨0, 0, none⟩ = some (.iface 142 (.agg #[.pointer (some ⟨4, 27, none⟩)])) := by
    rw [World.cell?_alloc_lt _ _ ⟨0, 0, none⟩ (by simp <;> omega), World.cell?_alloc_lt _ _ ⟨0, 0, none⟩ hlt]; exact hg
  have htl : t.block < w.heap.size := World.block_lt_of_cell? _ _ ht0
  generalize hW3 : (((w.alloc (.cells #[.pointer (some t)] 79)).alloc (.cells #[.pointer (some ⟨4, 79, none⟩), .pointer (some ⟨w.heap.size, 0, none⟩), .int .u64 150] 110)).alloc (.cells #[.pointer (some ⟨4, 79, none⟩), .pointer (some ⟨w.heap.size, 0, none⟩), .int .u64 150] 110)) = W3
  have k0 : W3.cell? ⟨w.heap.size, 0, none⟩ = some (.pointer (some t)) := by
    rw [← hW3, World.cell?_alloc_lt _ _ _ (by simp <;> omega), World.cell?_alloc_lt _ _ _ (by simp)]; simp
  have ksz : W3.heap.size = w.heap.size + 1 + 1 + 1 := by rw [← hW3]; simp
  have k1 : W3.cell? t = some old := by
    rw [← hW3, World.cell?_alloc_lt _ _ t (by simp <;> omega), World.cell?_alloc_lt _ _ t (by simp <;> omega), World.cell?_alloc_lt _ _ t htl]; exact ht0
  have k2 : W3.frozen? t = false := by
    rw [← hW3, World.frozen?_alloc_old _ _ t (by simp <;> omega), World.frozen?_alloc_old _ _ t (by simp <;> omega), World.frozen?_alloc_old _ _ t (Nat.ne_of_lt htl)]; exact hf0
  have el := elemVP ⟨w.heap.size, 0, none⟩ t W3 k0
  have st := setE t ⟨w.heap.size + 1 + 1 + 1, 0, none⟩ n old (W3.alloc (.cells #[.int .i64 n] 43)) (by rw [← ksz]; simp)
    (by rw [World.cell?_alloc_lt _ _ t (by omega)]; exact k1) (by rw [World.frozen?_alloc_old _ _ t (by omega)]; exact k2)
  subst hW3
  clear k0 k1 k2 ksz
  go_enter Tryz.func37, Tryz.ntmps37
  go_wp2
  refine wp_loop_rounds 1 ?_
  rw [rounds_succ]
  go_wp2
  go_ret
  exact ⟨rfl, _, _, _, _, rfl⟩

/-- What is told of an error. -/
theorem told_nil (w : World) : Calls Tryz.prog 13 #[.nilIface] w fun e w' => e = .returned (.int .i64 0) ∧ w' = w := by
  go_enter Tryz.func13, Tryz.ntmps13
  go_wp2
  go_ret
  exact ⟨rfl, rfl⟩

theorem told_errno (n : Int) (w : World) (hg : w.cell? ⟨0, 0, none⟩ = some (.iface 142 (.agg #[.pointer (some ⟨4, 27, none⟩)]))) :
    Calls Tryz.prog 13 #[.iface 43 (.int .i64 n)] w fun e w' => e = .returned (.int .i64 n) ∧ Below w.heap.size w w' := by
  go_enter Tryz.func13, Tryz.ntmps13
  go_wp2_with fail
  have hlt : 0 < w.heap.size := World.block_lt_of_cell? _ _ hg
  refine (as_hit n ⟨w.heap.size, 0, none⟩ (.int .i64 0) _ (by rw [World.cell?_alloc_lt _ _ _ hlt]; exact hg) (by simp) (by simp)).mono ?_
  rintro e w' ⟨rfl, o1, o2, o3, o4, hw⟩
  have hc : w'.cell? ⟨w.heap.size, 0, none⟩ = some (.int .i64 n) := by
    rw [hw]
    refine World.cell?_setCell_same _ _ _ (?_ : _ = some (.int .i64 0))
    rw [World.cell?_alloc_lt _ _ _ (by simp <;> omega), World.cell?_alloc_lt _ _ _ (by simp <;> omega), World.cell?_alloc_lt _ _ _ (by simp <;> omega), World.cell?_alloc_lt _ _ _ (by simp)]
    simp
  have hb : Below w.heap.size w w' := by
    rw [hw]
    refine Below.setCell (p := ⟨w.heap.size, 0, none⟩) ?_ (Nat.le_refl w.heap.size) _
    exact ((((((Below.refl _ _).alloc (Nat.le_refl _) _).alloc (by simp) _).alloc (by simp <;> omega) _).alloc (by simp <;> omega) _).alloc (by simp <;> omega) _)
  clear hw o1 o2 o3 o4
  go_wp2
  go_ret
  exact ⟨rfl, hb⟩

theorem error_nil (m : Int) (w : World) : Calls Tryz.prog 4 #[.nilIface, .int .i64 m] w fun e w' => e = .returned (.bool ((0 : Int) == m)) ∧ w' = w := by
  go_enter Tryz.func4, Tryz.ntmps4
  go_wp2_with fail
  refine (told_nil _).mono ?_
  rintro e w' ⟨rfl, hw⟩
  rw [hw]; clear hw w'
  go_wp2
  go_ret
  exact ⟨rfl, rfl⟩

theorem error_errno (n m : Int) (w : World) (h1 : -9223372036854775808 ≤ n) (h2 : n ≤ 9223372036854775807) (hg : w.cell? ⟨0, 0, none⟩ = some (.iface 142 (.agg #[.pointer (some ⟨4, 27, none⟩)]))) :
    Calls Tryz.prog 4 #[.iface 43 (.int .i64 n), .int .i64 m] w fun e w' => e = .returned (.bool (n == m)) ∧ Below w.heap.size w w' := by
  go_enter Tryz.func4, Tryz.ntmps4
  go_wp2_with fail
  refine (told_errno n _ hg).mono ?_
  rintro e w' ⟨rfl, hb⟩
  go_wp2
  go_ret
  exact ⟨rfl, hb⟩
end Go.Proofs.YtagimpmefodaeaaGreatDoor

namespace Go.Proofs.YtagimpmefodaeaaGreatDoor
set_option linter.unusedVariables false
open Go.RowKit

/-- The variable for the type of errors is as it is laid. -/
def ErrT (w : World) : Prop := w.cell? ⟨0, 0, none⟩ = some (.iface 142 (.agg #[.pointer (some ⟨4, 27, none⟩)]))
theorem ErrT.lt {w : World} (h : ErrT w) : 0 < w.heap.size := World.block_lt_of_cell? _ _ h
theorem ErrT.below {w w' : World} {B : Nat} (h : ErrT w) (hb : Below B w w') (hB : w.heap.size ≤ B) : ErrT w' := by
  unfold ErrT
  rw [hb.cell (p := ⟨0, 0, none⟩) (Nat.lt_of_lt_of_le h.lt hB)]
  exact h

/-- An error and its number. -/
def ErrIs (E : Value) (c : Int) : Prop := (E = .nilIface ∧ c = 0) ∨ (E = .iface 43 (.int .i64 c) ∧ -9223372036854775808 ≤ c ∧ c ≤ 9223372036854775807)

theorem err_true {E : Value} {c : Int} (h : ErrIs E c) (w : World) (hg : ErrT w) :
    Calls Tryz.prog 4 #[E, .int .i64 c] w fun e w' => e = .returned (.bool true) ∧ Below w.heap.size w w' := by
  rcases h with ⟨rfl, rfl⟩ | ⟨rfl, h1, h2⟩
  · refine (error_nil 0 w).mono ?_
    rintro e w' ⟨rfl, rfl⟩
    exact ⟨rfl, Below.refl _ _⟩
  · refine (error_errno c c w h1 h2 hg).mono ?_
    rintro e w' ⟨rfl, hb⟩
    exact ⟨by simp, hb⟩

end Go.Proofs.YtagimpmefodaeaaGreatDoor

namespace Go.Proofs.YtagimpmefodaeaaGreatDoor
set_option linter.unusedVariables false
set_option linter.unusedSimpArgs false
set_option maxRecDepth 100000
open Go.RowKit Go.Lib

theorem bd_par_bd (pre : List Ac) (x : Ac) : 0 ≤ parBad pre x ∧ parBad pre x ≤ 12 := by
  unfold parBad
  split
  · omega
  · split
    · omega
    · split <;> omega
theorem bd_next_bd (pre : List Ac) (x : Ac) : 0 ≤ nextBad pre x ∧ nextBad pre x ≤ 12 := by
  have := bd_par_bd pre x
  unfold nextBad
  split
  · omega
  · split
    · omega
    · split <;> omega
theorem bd_go_bd : ∀ (r pre : List Ac), 0 ≤ chGo pre r ∧ chGo pre r ≤ 12
  | [], _ => by simp [chGo]
  | x :: r, pre => by
    have := bd_next_bd pre x
    rw [chGo]
    split
    · exact this
    · exact bd_go_bd r _
theorem bd_ch_bd (l : List Ac) : 0 ≤ chBad l ∧ chBad l ≤ 12 := by
  unfold chBad
  split
  · omega
  · exact bd_go_bd l []
theorem bd_leaf_bd (c : List Ac) (code : ByteArray) : 0 ≤ leafBad c code ∧ leafBad c code ≤ 12 := by
  unfold leafBad; split
  · omega
  · split <;> omega
theorem bd_first_bd {f : Nat → Int} (h : ∀ k, 0 ≤ f k ∧ f k ≤ 100) : ∀ n, 0 ≤ firstTo f n ∧ firstTo f n ≤ 100
  | 0 => ⟨Int.le_refl _, by show (0 : Int) ≤ 100; omega⟩
  | n + 1 => by
    have ih := bd_first_bd h n
    unfold firstTo
    split
    · exact ih
    · exact h n
theorem bd_chk_bd (b : List Bl) : 0 ≤ chk b ∧ chk b ≤ 100 := by
  have h1 : ∀ n, 0 ≤ chkTo b n ∧ chkTo b n ≤ 100 := fun n => by
    by_cases h : chkTo b n = 0
    · rw [h]; omega
    · induction n with
      | zero => exact absurd rfl h
      | succ n ih =>
        by_cases h0 : chkTo b n = 0
        · by_cases h2 : chkAt b n = 0
          · have := (chkTo_zero b (n + 1)).2 (fun k hk => by
              by_cases e : k = n
              · subst e; exact h2
              · exact (chkTo_zero b n).1 h0 k (by omega))
            exact absurd this h
          · rw [chkTo_first h0 h2 (Nat.lt_succ_self n)]
            unfold chkAt
            split
            · omega
            · split
              · omega
              · split <;> omega
        · have hk : ∃ k, k < n ∧ chkTo b k = 0 ∧ chkAt b k ≠ 0 := by
            have : ∀ m, chkTo b m ≠ 0 → ∃ k, k < m ∧ chkTo b k = 0 ∧ chkAt b k ≠ 0 := fun m => by
              induction m with
              | zero => intro hh; exact absurd rfl hh
              | succ m im =>
                intro hh
                by_cases hm : chkTo b m = 0
                · refine ⟨m, Nat.lt_succ_self m, hm, fun h3 => hh ((chkTo_zero b (m + 1)).2 fun k hk => ?_)⟩
                  by_cases e : k = m
                  · subst e; exact h3
                  · exact (chkTo_zero b m).1 hm k (by omega)
                · obtain ⟨k, k1, k2, k3⟩ := im hm
                  exact ⟨k, by omega, k2, k3⟩
            exact this n h0
          obtain ⟨k, k1, k2, k3⟩ := hk
          rw [chkTo_first k2 k3 (by omega : k < n + 1), ← chkTo_first k2 k3 k1]
          exact ih h0
  unfold chk
  split
  · omega
  · exact h1 _
theorem bd_is (n : Int) (h : 0 ≤ n ∧ n ≤ 100) : ErrIs (chE n) n := by
  by_cases h0 : n = 0
  · subst h0; exact .inl ⟨rfl, rfl⟩
  · rw [chE_ne h0]; exact .inr ⟨rfl, by omega, by omega⟩
end Go.Proofs.YtagimpmefodaeaaGreatDoor

namespace Go.Proofs.YtagimpmefodaeaaGreatDoor
set_option linter.unusedVariables false
set_option linter.unusedSimpArgs false
set_option maxRecDepth 100000
open Go.RowKit Go.Lib

theorem pl_prBad_bd (c : List Ac) (p : Pr) : 0 ≤ prBad c p ∧ prBad c p ≤ 100 := by
  have h1 := bd_leaf_bd c p.one
  have h2 := bd_leaf_bd c p.oth
  have h3 := bd_leaf_bd c p.dif
  unfold prBad
  split
  · omega
  · split
    · omega
    · split
      · omega
      · split
        · omega
        · split
          · omega
          · split <;> omega
theorem pl_prs_bd (c : List Ac) (l : List Pr) : 0 ≤ prsBad c l ∧ prsBad c l ≤ 100 := by
  have h1 := bd_ch_bd c
  unfold prsBad
  split
  · omega
  · split
    · omega
    · exact bd_first_bd (fun k => by
        have := pl_prBad_bd c (l.getD k pr0)
        unfold prAtBad
        split
        · exact this
        · split <;> omega) _
theorem pl_lf_bd (l : List Pr) (b : List Bl) (cur : ByteArray) : 0 ≤ lfE l b cur ∧ lfE l b cur ≤ 100 := by
  have h1 := bd_chk_bd b
  unfold lfE
  split
  · omega
  · split
    · exact h1
    · split <;> omega
theorem pl_pe_bd (c : List Ac) (l : List Pr) (b : List Bl) (cur : ByteArray) (pe : Int) : 0 ≤ peBad c l b cur pe ∧ peBad c l b cur pe ≤ 100 := by
  have h1 := pl_prs_bd c l
  have h2 := pl_lf_bd l b cur
  unfold peBad
  split
  · exact h1
  · split
    · exact h2
    · split
      · omega
      · exact bd_first_bd (fun k => by unfold peAt; split <;> omega) _
theorem pl_isE (n : Int) (h : 0 ≤ n ∧ n ≤ 100) : ErrIs (enE n) n := by
  by_cases h0 : n = 0
  · subst h0; exact .inl ⟨rfl, rfl⟩
  · rw [enE_ne h0]; exact .inr ⟨rfl, by omega, by omega⟩
theorem pl_lns {b : List Bl} {cur : ByteArray} {pe : Int} {l : List Pr} {m : Nat} : ∀ x ∈ peTo b cur pe l m, x.lns.length ≤ 1000 := by
  intro x hx
  obtain ⟨i, _, hx⟩ := List.mem_flatMap.1 hx
  unfold peE at hx
  split at hx
  · cases hx
  · rw [List.mem_singleton] at hx
    subst hx
    show (mvL _ _ _ _).length ≤ 1000
    unfold mvL
    simp
theorem pl_has {W W' : World} {v : Value} {xs : List Int} (h : HasInts W v xs) (hb : Below W.heap.size W W') : HasInts W' v xs := by
  obtain ⟨a, cap, rfl, h⟩ := h
  refine ⟨a, cap, rfl, ?_⟩
  rcases h with h | ⟨g, off, rfl, hc⟩
  · exact .inl h
  · exact .inr ⟨g, off, rfl, fun k hk => (hb.cell (p := ⟨g, off + k, none⟩) (World.block_lt_of_cell? _ _ (hc k hk))).trans (hc k hk)⟩
set_option maxHeartbeats 8000000 in
theorem leaves_walk (a a2 a3 : Option Addr) (cap cap2 cap3 : Nat) (c : List Ac) (l : List Pr) (b : List Bl) (cur : ByteArray) (pe : Int) (w : World) (h : IsSl w a c cap) (hok : ∀ k, k < c.length → (c.getD k ac0).code.size ≤ maxLen ∧ (c.getD k ac0).name.size ≤ maxLen) (hl : IsPr w a2 l cap2) (hll : l.length ≤ 9223372036854775807) (hb : IsBl w a3 b cap3) (hbl : b.length ≤ 9223372036854775807) (hg : ErrT w) :
    Calls Tryz.prog 3 #[.slice a c.length cap, .slice a2 l.length cap2, .slice a3 b.length cap3, .string cur, .int .i64 pe] w fun e w' => e = .returned (.bool true) ∧ Below w.heap.size w w' := by
  have Err : Hid (∀ E c W, ErrIs E c → Below w.heap.size w W → Calls Tryz.prog 4 #[E, .int .i64 c] W fun e w' => e = .returned (.bool true) ∧ Below w.heap.size w w' ∧ Below W.heap.size W w') := fun E c W h hW => by
    refine (err_true h W (hg.below hW (Nat.le_refl _))).mono ?_
    rintro e w' ⟨rfl, hb⟩
    exact ⟨rfl, hW.trans (hb.mono hW.size), hb⟩
  have HC1 : Hid (Calls Tryz.prog 5 #[.slice a c.length cap, .slice a2 l.length cap2] w fun e w' => e = .returned (chE (prsBad c l)) ∧ Below w.heap.size w w') := prCheck_any a a2 cap cap2 c l w h hl hll
  have HC2 : Hid (∀ W, Below w.heap.size w W → Calls Tryz.prog 6 #[.slice a c.length cap, .slice a2 l.length cap2] W fun e w' => e = .returned (.int .i64 (prsBad c l)) ∧ Below w.heap.size w w') := fun W hW => by
    refine (refPairs_any a a2 cap cap2 c l W (h.below hW) hok (hl.below hW) hll).mono ?_
    rintro e w' ⟨rfl, hb⟩
    exact ⟨rfl, hW.trans (hb.mono hW.size)⟩
  have HI1 : Hid (ErrIs (chE (prsBad c l)) (prsBad c l)) := bd_is _ (pl_prs_bd c l)
  have HI2 : Hid (ErrIs (chE (peBad c l b cur pe)) (peBad c l b cur pe)) := bd_is _ (pl_pe_bd c l b cur pe)
  have HI3 : Hid (ErrIs (enE (lfE l b cur)) (lfE l b cur)) := pl_isE _ (pl_lf_bd l b cur)
  have HL1 : Hid (∀ W, Below w.heap.size w W → Calls Tryz.prog 7 #[.slice a2 l.length cap2, .slice a3 b.length cap3, .string cur] W fun e w' => ∃ v n q, e = .returned (.tuple #[.slice v n q, .int .i64 (lfE l b cur)]) ∧ Hid (Below w.heap.size w w' ∧ HasInts w' (.slice v n q) (if lfE l b cur = 0 then l.map (lfV b cur) else []))) := fun W hW => by
    refine (refLeft_any a2 a3 cap2 cap3 l b cur W (hl.below hW) hll (hb.below hW) hbl).mono ?_
    rintro e w' ⟨v, rfl, hb1, hh⟩
    obtain ⟨a', c', rfl, hh⟩ := hh
    exact ⟨_, _, _, rfl, hW.trans (hb1.mono hW.size), _, _, rfl, hh⟩
  have HL2 : Hid (∀ W, Below w.heap.size w W → Calls Tryz.prog 8 #[.slice a2 l.length cap2, .slice a3 b.length cap3, .string cur] W fun e w' => ∃ v n q E, e = .returned (.tuple #[.slice v n q, E]) ∧ E = enE (lfE l b cur) ∧ Hid (Below w.heap.size w w' ∧ Below W.heap.size W w' ∧ HasInts w' (.slice v n q) (if lfE l b cur = 0 then l.map (lfV b cur) else []))) := fun W hW => by
    refine (left_any a2 a3 cap2 cap3 l b cur W (hl.below hW) hll (hb.below hW) hbl).mono ?_
    rintro e w' ⟨hb1, k1, k2⟩
    by_cases hz : lfE l b cur = 0
    · obtain ⟨g, rfl, _, hr⟩ := k2 hz
      refine ⟨_, _, _, _, rfl, by rw [hz]; rfl, hW.trans (hb1.mono hW.size), hb1, ?_⟩
      rw [if_pos hz]
      exact ⟨_, _, by rw [List.length_map], .inr ⟨g, 0, rfl, fun k hk => by rw [Nat.zero_add]; exact hr.cell hk⟩⟩
    · exact ⟨_, _, _, _, k1 hz, rfl, hW.trans (hb1.mono hW.size), hb1, by rw [if_neg hz]; exact hasInts_nil w'⟩
  have HA : Hid (∀ W, Below w.heap.size w W → Calls Tryz.prog 10 #[.slice a c.length cap, .slice a2 l.length cap2, .slice a3 b.length cap3, .string cur, .int .i64 pe] W fun e w' => ∃ av cv L, e = .returned (.tuple #[.slice av L.length cv, .int .i64 (peBad c l b cur pe)]) ∧ Hid (Below w.heap.size w w' ∧ IsJs w' av L cv ∧ L.map Je.ep = (if peBad c l b cur pe = 0 then peTo b cur pe l (l.length * 2) else []))) := fun W hW => by
    refine (refElim_any a a2 a3 cap cap2 cap3 c l b cur pe W (h.below hW) hok (hl.below hW) hll (hb.below hW) hbl).mono ?_
    rintro e w' ⟨hbb, k1, k2⟩
    by_cases hz : peBad c l b cur pe = 0
    · obtain ⟨v, L, rfl, hm, hL⟩ := k2 hz
      obtain ⟨av, cv, rfl, hj⟩ := hm.isJs
      exact ⟨av, cv, L, by rw [hz], hW.trans (hbb.mono hW.size), hj, by rw [if_pos hz]; exact hL⟩
    · exact ⟨none, 0, [], k1 hz, hW.trans (hbb.mono hW.size), ⟨Nat.le_refl _, .inl rfl, by simp⟩, by rw [if_neg hz]; rfl⟩
  have HE : Hid (∀ W, Below w.heap.size w W → Calls Tryz.prog 11 #[.slice a c.length cap, .slice a2 l.length cap2, .slice a3 b.length cap3, .string cur, .int .i64 pe] W fun e w' => ∃ av cv L E, e = .returned (.tuple #[.slice av L.length cv, E]) ∧ E = chE (peBad c l b cur pe) ∧ Hid (Below w.heap.size w w' ∧ Below W.heap.size W w' ∧ IsJs w' av L cv ∧ L.length ≤ 1000 ∧ (∀ x ∈ L, x.lns.length ≤ 1000) ∧ L.map Je.ep = (if peBad c l b cur pe = 0 then peTo b cur pe l (l.length * 2) else []))) := fun W hW => by
    refine (peEntries_any a a2 a3 cap cap2 cap3 c l b cur pe W (h.below hW) (hl.below hW) hll (hb.below hW) hbl).mono ?_
    rintro e w' ⟨hbb, k1, k2⟩
    by_cases hz : peBad c l b cur pe = 0
    · obtain ⟨v, L, rfl, hm, hL, h40⟩ := k2 hz
      obtain ⟨av, cv, rfl, hj⟩ := hm.isJs
      refine ⟨av, cv, L, .nilIface, rfl, by rw [hz]; rfl, hW.trans (hbb.mono hW.size), hbb, hj, by omega, fun x hx => ?_, by rw [if_pos hz]; exact hL⟩
      exact pl_lns x.ep (by rw [← hL]; exact List.mem_map_of_mem hx)
    · exact ⟨none, 0, [], _, k1 hz, rfl, hW.trans (hbb.mono hW.size), hbb, ⟨Nat.le_refl _, .inl rfl, by simp⟩, by simp, by simp, by rw [if_neg hz]; rfl⟩
  have HSm : Hid (∀ a1 a2 c1 c2 (L1 L2 : List Je) W, L1.length ≤ 1000 → L1.map Je.ep = L2.map Je.ep → (∀ x ∈ L1, x.lns.length ≤ 1000) → IsJs W a1 L1 c1 → IsJs W a2 L2 c2 → Calls Tryz.prog 12 #[.slice a1 L1.length c1, .slice a2 L2.length c2] W fun e w' => e = .returned (.bool true) ∧ Below W.heap.size W w') := fun a1 a2 c1 c2 L1 L2 W k1 k2 k3 k4 k5 => sameEntries_any a1 a2 c1 c2 L1 L2 W k1 k2 k3 k4 k5
  have HLn : Hid ((if lfE l b cur = 0 then l.map (lfV b cur) else []).length ≤ 1000) := by
    unfold Hid
    by_cases hz : lfE l b cur = 0
    · rw [if_pos hz, List.length_map]; have := (lfE_ok.1 hz).1; omega
    · rw [if_neg hz]; simp
  generalize (if lfE l b cur = 0 then l.map (lfV b cur) else []) = XS at *
  clear h hl hb hg hok
  generalize peBad c l b cur pe = pb at *
  generalize prsBad c l = nb at *
  generalize lfE l b cur = fb at *
  obtain ⟨X, hX⟩ : ∃ X, chE nb = X := ⟨_, rfl⟩
  rw [hX] at HC1 HI1
  clear hX
  go_enter Tryz.func3, Tryz.ntmps3
  go_wp2_with fail
  refine HC1.out.mono ?_
  rintro e w1 ⟨rfl, B1⟩
  clear HC1
  go_wp2_with fail
  refine (HC2.out w1 B1).mono ?_
  rintro e w2 ⟨rfl, B2⟩
  clear HC2 B1
  go_wp2_with fail
  refine (Err.out _ _ w2 HI1.out B2).mono ?_
  rintro e w3 ⟨rfl, B3, _⟩
  clear B2 HI1
  go_wp2_with fail
  refine (HL1.out w3 B3).mono ?_
  rintro e w4 ⟨v4, n4, q4, rfl, h4⟩
  clear HL1 B3
  go_wp2_with fail
  refine (HL2.out w4 h4.out.1).mono ?_
  rintro e w5 ⟨v5, n5, q5, E5, rfl, hE5, h5⟩
  rw [← hE5] at HI3
  clear HL2 hE5
  go_wp2_with fail
  refine (Err.out _ _ w5 HI3.out h5.out.1).mono ?_
  rintro e w6 ⟨rfl, B6, B6'⟩
  have HSi : Hid (Calls _ _ _ _ _) := sameInts_any (.slice v5 n5 q5) (.slice v4 n4 q4) XS w6 HLn.out (pl_has h5.out.2.2 B6') (pl_has (pl_has h4.out.2 h5.out.2.1) B6')
  clear HI3 h4 h5 B6' HLn
  go_wp2_with fail
  refine HSi.out.mono ?_
  rintro e w7 ⟨rfl, hb7⟩
  have B7 : Below w.heap.size w w7 := B6.trans (hb7.mono B6.size)
  clear HSi hb7 B6
  go_wp2_with fail
  refine (HA.out w7 B7).mono ?_
  rintro e w8 ⟨ra, rc, RL, rfl, h8⟩
  clear HA B7
  go_wp2_with fail
  refine (HE.out w8 h8.out.1).mono ?_
  rintro e w9 ⟨ea, ec, EL, E, rfl, hE, h9⟩
  rw [← hE] at HI2
  clear HE hE
  go_wp2_with fail
  refine (Err.out _ _ w9 HI2.out h9.out.1).mono ?_
  rintro e wA ⟨rfl, BA, BA'⟩
  have HS : Hid (Calls _ _ _ _ _) := HSm.out ea ra ec rc EL RL wA h9.out.2.2.2.1 (by rw [h9.out.2.2.2.2.2, h8.out.2.2]) h9.out.2.2.2.2.1 (h9.out.2.2.1.below BA') ((h8.out.2.1.below h9.out.2.1).below BA')
  clear HI2 HSm h8 h9 BA'
  go_wp2_with fail
  refine HS.out.mono ?_
  rintro e wB ⟨rfl, hbB⟩
  have HBB : Hid (Below w.heap.size w wB) := BA.trans (hbB.mono BA.size)
  clear HS hbB BA
  go_wp2
  go_ret
  exact ⟨rfl, HBB.out⟩
end Go.Proofs.YtagimpmefodaeaaGreatDoor

namespace Go.Proofs.YtagimpmefodaeaaGreatDoor
set_option linter.unusedVariables false
set_option linter.unusedSimpArgs false
set_option maxRecDepth 100000
open Go.RowKit Go.Lib Go.Deep

section
variable {H : Type} {enc : TypeId × Value → H} {w : World} {base : Nat} {spare : Nat → Bool} {held : Bool}

theorem ch_string {m : Nat} {c : Value} {y : DataW H × List MemPlace} (h : DataW.trod enc Tryz.prog w base spare held m 9 [c] = some y) : ∃ s, c = .string s ∧ s.size ≤ maxLen := by
  cases m with
  | zero => simp [DataW.trod] at h
  | succ m =>
    rw [DataW.trod_step] at h
    unfold DataW.trodStep at h
    rw [Tryz.underlying9] at h
    cases c <;> simp at h
    exact ⟨_, rfl, h.1⟩

theorem ch_int {m : Nat} {c : Value} {y : DataW H × List MemPlace} (h : DataW.trod enc Tryz.prog w base spare held m 3 [c] = some y) : ∃ n, c = .int .i64 n ∧ (Lit.int .i64 n).wf = true := by
  cases m with
  | zero => simp [DataW.trod] at h
  | succ m =>
    rw [DataW.trod_step] at h
    unfold DataW.trodStep at h
    rw [Tryz.underlying3] at h
    cases c <;> simp at h
    rename_i k n
    obtain ⟨⟨rfl, h2⟩, _⟩ := h
    exact ⟨n, rfl, h2⟩

theorem ch_bool {m : Nat} {c : Value} {y : DataW H × List MemPlace} (h : DataW.trod enc Tryz.prog w base spare held m 4 [c] = some y) : ∃ n, c = .bool n := by
  cases m with
  | zero => simp [DataW.trod] at h
  | succ m =>
    rw [DataW.trod_step] at h
    unfold DataW.trodStep at h
    rw [Tryz.underlying4] at h
    cases c <;> simp at h
    exact ⟨_, rfl⟩

/-- What is asked of an account that came in. -/
def AcOk (a : Ac) : Prop := a.code.size ≤ maxLen ∧ a.name.size ≤ maxLen ∧ (Lit.int .i64 a.kind).wf = true ∧ a.par.size ≤ maxLen

theorem acct_cells : Tryz.prog.cellsOf 85 = 5 := by kernel_rfl
theorem acct_str : Tryz.prog.cellsOf 9 = 1 := by kernel_rfl
theorem acct_int : Tryz.prog.cellsOf 3 = 1 := by kernel_rfl
theorem acct_bool : Tryz.prog.cellsOf 4 = 1 := by kernel_rfl

theorem open_acct {m : Nat} {cs : List Value} {x : DataW H × List MemPlace} (h : DataW.trod enc Tryz.prog w base spare held m 85 cs = some x) : ∃ a : Ac, cs = a.cells.toList ∧ AcOk a := by
  cases m with
  | zero => simp [DataW.trod] at h
  | succ m =>
    rw [DataW.trod_step] at h
    unfold DataW.trodStep at h
    rw [Tryz.underlying85] at h
    simp only [acct_cells] at h
    split at h
    · rename_i hl
      match cs, hl with
      | [c0, c1, c2, c3, c4], _ =>
        simp [acct_str, acct_int, acct_bool] at h
        cases h0 : DataW.trod enc Tryz.prog w base spare held m 9 [c0]
        · simp [h0] at h
        cases h1 : DataW.trod enc Tryz.prog w base spare held m 9 [c1]
        · simp [h0, h1] at h
        cases h2 : DataW.trod enc Tryz.prog w base spare held m 3 [c2]
        · simp [h0, h1, h2] at h
        cases h3 : DataW.trod enc Tryz.prog w base spare held m 9 [c3]
        · simp [h0, h1, h2, h3] at h
        cases h4 : DataW.trod enc Tryz.prog w base spare held m 4 [c4]
        · simp [h0, h1, h2, h3, h4] at h
        obtain ⟨f, rfl, hf⟩ := ch_string h0
        obtain ⟨t, rfl, ht⟩ := ch_string h1
        obtain ⟨p, rfl, hp⟩ := ch_int h2
        obtain ⟨n, rfl, hn⟩ := ch_string h3
        obtain ⟨d, rfl⟩ := ch_bool h4
        exact ⟨⟨f, t, p, n, d⟩, rfl, hf, ht, hp, hn⟩
    · cases h

theorem ac_cells (w : World) (b off : Nat) (a : Ac) (h : ∀ i, i < 5 → w.cell? ⟨b, off + i, none⟩ = a.cells.toList[i]?) : AcAt w b off a :=
  ⟨h 0 (by omega), h 1 (by omega), h 2 (by omega), h 3 (by omega), h 4 (by omega)⟩

theorem ch_add (b off n : Nat) : (⟨b, off, none⟩ : Addr).add n = ⟨b, off + n, none⟩ := by
  unfold Addr.add
  split
  · rename_i h; subst h; rfl
  · rfl

/-- A chart that came in. -/
theorem acs_of_trod {W : World} {a : Option Addr} {len cap fuel : Nat} {x : DataW H × List MemPlace} (h : DataW.trod enc Tryz.prog W 0 (fun _ => true) true fuel 22 [.slice a len cap] = some x) :
    ∃ l : List Ac, l.length = len ∧ (∀ k, k < l.length → AcOk (l.getD k ac0)) ∧ IsSl W a l cap := by
  rcases open_slice Tryz.underlying22 h with ⟨hcs, _⟩ | ⟨x, l, c, m, n, D, Pl, hcs, _, hl, hm, hmm, _, hx⟩
  · simp at hcs
    obtain ⟨rfl, rfl, rfl⟩ := hcs
    exact ⟨[], rfl, by simp, ⟨by simp, .inl rfl⟩⟩
  · simp at hcs
    obtain ⟨rfl, rfl, rfl⟩ := hcs
    have hmm2 : m = cap := hmm
    rw [acct_cells] at hx
    have hr : ∀ i, i < len → ∃ r : Ac, (∀ j, j < 5 → W.cell? ((x.add (i * 5)).add j) = r.cells.toList[j]?) ∧ AcOk r := fun i hi => by
      obtain ⟨cs', h1, h2⟩ := hx i (by omega)
      obtain ⟨r, rfl, ok⟩ := open_acct h2
      exact ⟨r, (World.cells?_some h1).2.2, ok⟩
    obtain ⟨f, hf⟩ := @choose_lt Ac ⟨ac0⟩ _ _ hr
    have hget : ∀ k, k < len → ((List.range len).map f).getD k ac0 = f k := fun k hk => by simp [List.getD, hk]
    have hlen : ((List.range len).map f).length = len := by simp
    refine ⟨(List.range len).map f, hlen, fun k hk => ?_, ⟨by rw [hlen]; exact hl, ?_⟩⟩
    · rw [hlen] at hk
      rw [hget k hk]
      exact (hf k hk).2
    · by_cases h0 : len = 0
      · subst h0
        exact .inl rfl
      · right
        obtain ⟨b, off, spot⟩ := x
        have hc : W.cell? ⟨b, off, spot⟩ = some (.string (f 0).code) := (hf 0 (by omega)).1 0 (by omega)
        have hspot : spot = none := World.cell?_spot hc
        subst hspot
        have hlt : b < W.heap.size := World.block_lt_of_cell? _ _ hc
        refine ⟨b, off, rfl, hlt, fun k hk => ?_⟩
        rw [hlen] at hk
        rw [hget k hk]
        refine ac_cells W b (off + k * 5) (f k) (fun i hi => ?_)
        have := (hf k hk).1 i hi
        rw [ch_add, ch_add] at this
        exact this
end
end Go.Proofs.YtagimpmefodaeaaGreatDoor

namespace Go.Proofs.YtagimpmefodaeaaGreatDoor
set_option linter.unusedVariables false
set_option linter.unusedSimpArgs false
set_option maxRecDepth 100000
open Go.RowKit Go.Lib
theorem ldP_str : Tryz.prog.cellsOf 9 = 1 := by kernel_rfl
theorem ldP_int : Tryz.prog.cellsOf 3 = 1 := by kernel_rfl
/-- A place as it can be in memory. -/
structure PkOk (k : Pk) : Prop where
  ent : -9223372036854775808 ≤ k.1 ∧ k.1 ≤ 9223372036854775807
  acc : k.2.1.size ≤ maxLen
  cur : k.2.2.size ≤ maxLen
/-- A balance as it can be in memory. -/
structure BlOk (x : Bl) : Prop where
  key : PkOk x.key
  amt : -9223372036854775808 ≤ x.amt ∧ x.amt ≤ 9223372036854775807
end Go.Proofs.YtagimpmefodaeaaGreatDoor

namespace Go.Proofs.YtagimpmefodaeaaGreatDoor
set_option linter.unusedVariables false
set_option linter.unusedSimpArgs false
set_option maxRecDepth 100000
open Go.RowKit Go.Lib

theorem ld_add (b off i : Nat) : (⟨b, off, none⟩ : Addr).add i = ⟨b, off + i, none⟩ := by
  rcases Nat.eq_zero_or_pos i with h | h
  · subst h; simp [Addr.add]
  · simp [Addr.add]; omega
theorem ld_wf {n : Int} (h : (Lit.int .i64 n).wf = true) : -9223372036854775808 ≤ n ∧ n ≤ 9223372036854775807 := by
  simp [Lit.wf, IntKind.min, IntKind.max, IntKind.bits, IntKind.signed] at h
  omega
section
variable {H : Type} {enc : TypeId × Value → H}
theorem ld_cell_string {w : World} {base : Nat} {spare : Nat → Bool} {held : Bool} {m : Nat} {c : Value} {y : DataW H × List MemPlace} (h : DataW.trod enc Tryz.prog w base spare held m 9 [c] = some y) : ∃ s, c = .string s ∧ s.size ≤ maxLen := by
  cases m with
  | zero => simp [DataW.trod] at h
  | succ m =>
    rw [DataW.trod_step] at h
    unfold DataW.trodStep at h
    rw [Tryz.underlying9] at h
    cases c <;> simp at h
    exact ⟨_, rfl, h.1⟩

theorem ld_cell_int {w : World} {base : Nat} {spare : Nat → Bool} {held : Bool} {m : Nat} {c : Value} {y : DataW H × List MemPlace} (h : DataW.trod enc Tryz.prog w base spare held m 3 [c] = some y) : ∃ n, c = .int .i64 n ∧ (Lit.int .i64 n).wf = true := by
  cases m with
  | zero => simp [DataW.trod] at h
  | succ m =>
    rw [DataW.trod_step] at h
    unfold DataW.trodStep at h
    rw [Tryz.underlying3] at h
    cases c <;> simp at h
    rename_i k n
    obtain ⟨⟨rfl, h2⟩, _⟩ := h
    exact ⟨n, rfl, h2⟩

theorem ld_bal_cells : Tryz.prog.cellsOf 92 = 4 := by kernel_rfl
theorem ld_open_bal {w : World} {base : Nat} {spare : Nat → Bool} {held : Bool} {m : Nat} {cs : List Value} {x : DataW H × List MemPlace} (h : DataW.trod enc Tryz.prog w base spare held m 92 cs = some x) : ∃ a : Bl, cs = a.cells.toList ∧ BlOk a := by
  cases m with
  | zero => simp [DataW.trod] at h
  | succ m =>
    rw [DataW.trod_step] at h
    unfold DataW.trodStep at h
    rw [Tryz.underlying92] at h
    simp only [ld_bal_cells] at h
    split at h
    · rename_i hl
      match cs, hl with
      | [c0, c1, c2, c3], _ =>
        simp [ldP_str, ldP_int] at h
        cases h0 : DataW.trod enc Tryz.prog w base spare held m 3 [c0]
        · simp [h0] at h
        cases h1 : DataW.trod enc Tryz.prog w base spare held m 9 [c1]
        · simp [h0, h1] at h
        cases h2 : DataW.trod enc Tryz.prog w base spare held m 9 [c2]
        · simp [h0, h1, h2] at h
        cases h3 : DataW.trod enc Tryz.prog w base spare held m 3 [c3]
        · simp [h0, h1, h2, h3] at h
        obtain ⟨f, rfl, hf⟩ := ld_cell_int h0
        obtain ⟨s, rfl, hs⟩ := ld_cell_string h1
        obtain ⟨t, rfl, ht⟩ := ld_cell_string h2
        obtain ⟨p, rfl, hp⟩ := ld_cell_int h3
        exact ⟨⟨f, s, t, p⟩, rfl, ⟨ld_wf hf, hs, ht⟩, ld_wf hp⟩
    · cases h

/-- Balances that came in. -/
theorem ld_bls_of_trod {W : World} {a : Option Addr} {len cap fuel : Nat} {x : DataW H × List MemPlace} (h : DataW.trod enc Tryz.prog W 0 (fun _ => true) true fuel 24 [.slice a len cap] = some x) :
    ∃ l : List Bl, l.length = len ∧ IsBl W a l cap ∧ (∀ x ∈ l, BlOk x) ∧ len ≤ maxLen := by
  rcases Go.Deep.open_slice Tryz.underlying24 h with ⟨hcs, _⟩ | ⟨x, l, c, m, n, D, Pl, hcs, _, hl, hm, hmm, _, hx⟩
  · simp at hcs
    obtain ⟨rfl, rfl, rfl⟩ := hcs
    exact ⟨[], rfl, ⟨by simp, .inl rfl⟩, by simp, by unfold maxLen; omega⟩
  · simp at hcs
    obtain ⟨rfl, rfl, rfl⟩ := hcs
    have hmm2 : m = cap := hmm
    rw [ld_bal_cells] at hx
    have hr : ∀ i, i < len → ∃ r : Bl, (∀ j, j < 4 → W.cell? ((x.add (i * 4)).add j) = r.cells.toList[j]?) ∧ BlOk r := fun i hi => by
      obtain ⟨cs', h1, h2⟩ := hx i (by omega)
      obtain ⟨r, rfl, hw⟩ := ld_open_bal h2
      exact ⟨r, (World.cells?_some h1).2.2, hw⟩
    obtain ⟨f, hf⟩ := @Go.Deep.choose_lt Bl ⟨bl0⟩ _ _ hr
    have hget : ∀ k, k < len → ((List.range len).map f).getD k bl0 = f k := fun k hk => by simp [List.getD, hk]
    have hlen : ((List.range len).map f).length = len := by simp
    refine ⟨(List.range len).map f, hlen, ⟨by rw [hlen]; exact hl, ?_⟩, ?_, Nat.le_trans hl hm⟩
    · by_cases h0 : len = 0
      · subst h0
        exact .inl rfl
      · right
        obtain ⟨b, off, spot⟩ := x
        have hc : W.cell? ⟨b, off, spot⟩ = some (.int .i64 (f 0).ent) := (hf 0 (by omega)).1 0 (by omega)
        have hspot : spot = none := World.cell?_spot hc
        subst hspot
        have hlt : b < W.heap.size := World.block_lt_of_cell? _ _ hc
        refine ⟨b, off, rfl, hlt, fun k hk => ?_⟩
        rw [hlen] at hk
        rw [hget k hk]
        have C : ∀ i, i < 4 → W.cell? ⟨b, off + k * 4 + i, none⟩ = (f k).cells.toList[i]? := fun i hi => by
          have := (hf k hk).1 i hi
          rw [ld_add, ld_add] at this
          exact this
        exact ⟨C 0 (by omega), C 1 (by omega), C 2 (by omega), C 3 (by omega)⟩
    · intro y hy
      obtain ⟨k, hk, rfl⟩ := List.mem_map.1 hy
      exact (hf k (List.mem_range.1 hk)).2

end

end Go.Proofs.YtagimpmefodaeaaGreatDoor

namespace Go.Proofs.YtagimpmefodaeaaGreatDoor
set_option linter.unusedVariables false
set_option linter.unusedSimpArgs false
set_option maxRecDepth 100000
open Go.RowKit Go.Lib

/-- A pair that came in. -/
def PrOk (x : Pr) : Prop := (-9223372036854775808 ≤ x.ea ∧ x.ea ≤ 9223372036854775807) ∧ (-9223372036854775808 ≤ x.eb ∧ x.eb ≤ 9223372036854775807) ∧ x.one.size ≤ maxLen ∧ x.oth.size ≤ maxLen ∧ x.dif.size ≤ maxLen
section
variable {H : Type} {enc : TypeId × Value → H}
theorem pr_cells : Tryz.prog.cellsOf 50 = 5 := by kernel_rfl
theorem pr_open {w : World} {base : Nat} {spare : Nat → Bool} {held : Bool} {m : Nat} {cs : List Value} {x : DataW H × List MemPlace} (h : DataW.trod enc Tryz.prog w base spare held m 50 cs = some x) : ∃ a : Pr, cs = a.cells.toList ∧ PrOk a := by
  cases m with
  | zero => simp [DataW.trod] at h
  | succ m =>
    rw [DataW.trod_step] at h
    unfold DataW.trodStep at h
    rw [Tryz.underlying50] at h
    simp only [pr_cells] at h
    split at h
    · rename_i hl
      match cs, hl with
      | [c0, c1, c2, c3, c4], _ =>
        simp [ldP_str, ldP_int] at h
        cases h0 : DataW.trod enc Tryz.prog w base spare held m 3 [c0]
        · simp [h0] at h
        cases h1 : DataW.trod enc Tryz.prog w base spare held m 3 [c1]
        · simp [h0, h1] at h
        cases h2 : DataW.trod enc Tryz.prog w base spare held m 9 [c2]
        · simp [h0, h1, h2] at h
        cases h3 : DataW.trod enc Tryz.prog w base spare held m 9 [c3]
        · simp [h0, h1, h2, h3] at h
        cases h4 : DataW.trod enc Tryz.prog w base spare held m 9 [c4]
        · simp [h0, h1, h2, h3, h4] at h
        obtain ⟨f, rfl, hf⟩ := ld_cell_int h0
        obtain ⟨p, rfl, hp⟩ := ld_cell_int h1
        obtain ⟨s, rfl, hs⟩ := ld_cell_string h2
        obtain ⟨t, rfl, ht⟩ := ld_cell_string h3
        obtain ⟨u, rfl, hu⟩ := ld_cell_string h4
        exact ⟨⟨f, p, s, t, u⟩, rfl, ld_wf hf, ld_wf hp, hs, ht, hu⟩
    · cases h

/-- Pairs that came in. -/
theorem prs_of_trod {W : World} {a : Option Addr} {len cap fuel : Nat} {x : DataW H × List MemPlace} (h : DataW.trod enc Tryz.prog W 0 (fun _ => true) true fuel 23 [.slice a len cap] = some x) :
    ∃ l : List Pr, l.length = len ∧ IsPr W a l cap ∧ (∀ x ∈ l, PrOk x) ∧ len ≤ maxLen := by
  rcases Go.Deep.open_slice Tryz.underlying23 h with ⟨hcs, _⟩ | ⟨x, l, c, m, n, D, Pl, hcs, _, hl, hm, hmm, _, hx⟩
  · simp at hcs
    obtain ⟨rfl, rfl, rfl⟩ := hcs
    exact ⟨[], rfl, ⟨by simp, .inl rfl⟩, by simp, by unfold maxLen; omega⟩
  · simp at hcs
    obtain ⟨rfl, rfl, rfl⟩ := hcs
    have hmm2 : m = cap := hmm
    rw [pr_cells] at hx
    have hr : ∀ i, i < len → ∃ r : Pr, (∀ j, j < 5 → W.cell? ((x.add (i * 5)).add j) = r.cells.toList[j]?) ∧ PrOk r := fun i hi => by
      obtain ⟨cs', h1, h2⟩ := hx i (by omega)
      obtain ⟨r, rfl, hw⟩ := pr_open h2
      exact ⟨r, (World.cells?_some h1).2.2, hw⟩
    obtain ⟨f, hf⟩ := @Go.Deep.choose_lt Pr ⟨pr0⟩ _ _ hr
    have hget : ∀ k, k < len → ((List.range len).map f).getD k pr0 = f k := fun k hk => by simp [List.getD, hk]
    have hlen : ((List.range len).map f).length = len := by simp
    refine ⟨(List.range len).map f, hlen, ⟨by rw [hlen]; exact hl, ?_⟩, ?_, Nat.le_trans hl hm⟩
    · by_cases h0 : len = 0
      · subst h0
        exact .inl rfl
      · right
        obtain ⟨b, off, spot⟩ := x
        have hc : W.cell? ⟨b, off, spot⟩ = some (.int .i64 (f 0).ea) := (hf 0 (by omega)).1 0 (by omega)
        have hspot : spot = none := World.cell?_spot hc
        subst hspot
        have hlt : b < W.heap.size := World.block_lt_of_cell? _ _ hc
        refine ⟨b, off, rfl, hlt, fun k hk => ?_⟩
        rw [hlen] at hk
        rw [hget k hk]
        have C : ∀ i, i < 5 → W.cell? ⟨b, off + k * 5 + i, none⟩ = (f k).cells.toList[i]? := fun i hi => by
          have := (hf k hk).1 i hi
          rw [ld_add, ld_add] at this
          exact this
        exact ⟨C 0 (by omega), C 1 (by omega), C 2 (by omega), C 3 (by omega), C 4 (by omega)⟩
    · intro y hy
      obtain ⟨k, hk, rfl⟩ := List.mem_map.1 hy
      exact (hf k (List.mem_range.1 hk)).2

end

end Go.Proofs.YtagimpmefodaeaaGreatDoor

namespace Go.Proofs.YtagimpmefodaeaaGreatDoor
open Go.ChangeShapes Go.WideShapes Go.RowKit Go.ChangeAt Go.Deep
open Go.ChangeMaps (open_string shut_string)
set_option linter.unusedVariables false
set_option linter.unusedSimpArgs false

theorem plv_own : ownKnob Tryz.prog.godebug = none := by kernel_rfl
theorem plv_laidOut : laidOutB Tryz.prog = true := by kernel_rfl
/-- A table's cells. -/
def plv_cells (d : DataW Unit) : Array Value :=
  match d with
  | .agg l => (l.map fun x => match x with
    | .lit (.int k z) => Value.int k z
    | _ => .bool false).toArray
  | _ => #[]
def plv_put (cs : Array Value) (o : Obj) : Obj :=
  match o with
  | .cells _ t frozen => .cells cs t frozen
  | o => o
theorem plv_et : Tryz.prog.globalNamed "errors.errorType" = some 0 := by kernel_rfl
theorem plv_rt : (Tryz.prog.cutTypes.find? (·.1 == "internal/reflectlite.rtype")).map (·.2) = some 142 := by kernel_rfl
theorem plv_oneRow : ((List.range 211).filter fun t => Tryz.prog.rowNamed t [101, 114, 114, 111, 114]) = [27] := by kernel_rfl
theorem plv_size : Tryz.prog.types.size = 211 := by kernel_rfl
/-- What the condition gives: the variable's one cell. -/
theorem plv_handle {W : World} (h : laidMetH Tryz.prog Rows.pairLeavesRow.laid W) : ErrT W := by
  have h' : laidMet Tryz.prog [("math/bits.deBruijn32tab", Rows.laid_math_bits_deBruijn32tab), ("math/bits.deBruijn64tab", Rows.laid_math_bits_deBruijn64tab), ("internal/strconv.uint64pow10", Rows.laid_internal_strconv_uint64pow10)] W ∧ handlesMet Tryz.prog [("errors.errorType", Rows.laid_errors_errorType)] W := h
  obtain ⟨name, u, ty, e1, e2, e3, e4, e5⟩ := h'.2 _ (List.mem_singleton.2 rfl)
  have en : name = [101, 114, 114, 111, 114] := (Option.some.inj e1).symm
  subst en
  obtain rfl := Option.some.inj (plv_rt.symm.trans e2)
  have hm : ty ∈ (List.range 211).filter fun t => Tryz.prog.rowNamed t [101, 114, 114, 111, 114] := List.mem_filter.2 ⟨List.mem_range.2 (by rw [← plv_size]; exact e3), e4⟩
  rw [plv_oneRow] at hm
  obtain rfl := List.mem_singleton.1 hm
  have hh : typeHandle Tryz.prog 27 = .pointer (some ⟨4, 27, none⟩) := by kernel_rfl
  rw [hh] at e5
  unfold ErrT
  simpa using World.var?_cell plv_et e5 0
/-- A world that meets the condition. -/
theorem plv_met (os : Os) (args : Array Value) : laidMetH Tryz.prog Rows.pairLeavesRow.laid ((({ World.holding Tryz.prog os ⟨#[], #[], []⟩ with heap := ((((World.holding Tryz.prog os ⟨#[], #[], []⟩).heap.modify 2 (plv_put (plv_cells Rows.laid_math_bits_deBruijn32tab))).modify 3 (plv_put (plv_cells Rows.laid_math_bits_deBruijn64tab))).modify 1 (plv_put (plv_cells Rows.laid_internal_strconv_uint64pow10))).modify 0 fun | .cells _ t frozen => .cells #[.iface 142 (.agg #[.pointer (some ⟨4, 27, none⟩)])] t frozen | o => o } : World).forCall (fun _ _ => 0) ⟨#[], args, []⟩).memory) :=
  laidMetH_of_parts (laidMet_of_run' 8 (by kernel_rfl) (by kernel_rfl)) (by kernel_rfl)

set_option maxRecDepth 100000 in
theorem plv_lifted (os : Os) (started : os.Started) (H : Type) (enc : TypeId × Value → H) :
    ReturnsInHanded {} Tryz.checked os 3 .any (fun w args => (Rows.pairLeavesSpec.pre enc Tryz.prog Tryz.f3 [] false w args ∧ laidMetH Tryz.prog Rows.pairLeavesRow.laid w) ∧ sizedMet enc Tryz.prog Tryz.f3 (OpenSpec.ofChange Rows.pairLeavesSpec) false w args)
      (Rows.pairLeavesSpec.post enc Tryz.prog Tryz.f3 false true false false) := by
  refine returnsInHanded_of_change_and (C := Tryz.checked) (X := fun w _ => laidMetH Tryz.prog Rows.pairLeavesRow.laid w) (fun _ _ _ hh h => h.of_heap hh) plv_own started (by kernel_rfl) Tryz.func3
    (ChangeSpec.witness_at (enc := enc) (C := Tryz.checked) (os := os) (X := fun w _ => laidMetH Tryz.prog Rows.pairLeavesRow.laid w) false ({ World.holding Tryz.prog os ⟨#[], #[], []⟩ with heap := ((((World.holding Tryz.prog os ⟨#[], #[], []⟩).heap.modify 2 (plv_put (plv_cells Rows.laid_math_bits_deBruijn32tab))).modify 3 (plv_put (plv_cells Rows.laid_math_bits_deBruijn64tab))).modify 1 (plv_put (plv_cells Rows.laid_internal_strconv_uint64pow10))).modify 0 fun | .cells _ t frozen => .cells #[.iface 142 (.agg #[.pointer (some ⟨4, 27, none⟩)])] t frozen | o => o } : World) #[.slice none 0 0, .slice none 0 0, .slice none 0 0, .string ByteArray.empty, .int .i64 0] 8 rfl (by kernel_rfl) (by kernel_rfl) (by kernel_rfl) (by kernel_rfl) (by kernel_rfl) (plv_met os _)) ?_
  intro W base args ds gs before hval0 hW hcnd hsz0 hL _
  have hg := plv_handle hL
  clear hsz0
  have hval : ∀ (j : Nat) t v, Tryz.f3.params[j]? = some t → args[j]? = some v → Value.okWide Tryz.prog W .any base t v := hval0
  have hW' := hW
  obtain ⟨p, q, hA0, hV, rfl, hfz, hnd⟩ := hW
  have hA : DataW.TrodAll enc Tryz.prog W 0 (fun _ => true) true Tryz.f3.params.toList args.toList ds p := hA0
  rw [Tryz.params3] at hA hval
  obtain ⟨v0, vs0, d0, ds0, p0, q0, hargs, rfl, rfl, h0, r0⟩ := trodAll_cons hA
  obtain ⟨v1, vs1, d1, ds1, p1, q1, rfl, rfl, rfl, h1, r1⟩ := trodAll_cons r0
  obtain ⟨v2, vs2, d2, ds2, p2, q2, rfl, rfl, rfl, h2, r2⟩ := trodAll_cons r1
  obtain ⟨v3, vs3, d3, ds3, p3, q3, rfl, rfl, rfl, h3, r3⟩ := trodAll_cons r2
  obtain ⟨v4, vs4, d4, ds4, p4, q4, rfl, rfl, rfl, h4, r4⟩ := trodAll_cons r3
  obtain ⟨rfl, rfl, rfl⟩ := trodAll_nil r4
  obtain rfl : args = #[v0, v1, v2, v3, v4] := by cases args; simp_all
  obtain ⟨rfl, rfl⟩ := trodVars_none hV
  obtain ⟨a0, len0, cap0, rfl⟩ := okWide_slice Tryz.underlying22 (hval 0 22 v0 rfl rfl)
  have k0 := h0
  have lt0 : ∀ x ∈ p0, x.block < W.heap.size := by obtain ⟨m, hm⟩ := k0; exact DataW.trod_lt m _ _ _ hm
  obtain ⟨l0, hl0, ho0, hi0⟩ : ∃ l : List Ac, l.length = len0 ∧ (∀ k, k < l.length → AcOk (l.getD k ac0)) ∧ IsSl W a0 l cap0 := by
    obtain ⟨fuel, hf⟩ := h0
    exact acs_of_trod hf
  subst hl0
  obtain ⟨a1, len1, cap1, rfl⟩ := okWide_slice Tryz.underlying23 (hval 1 23 v1 rfl rfl)
  have k1 := h1
  have lt1 : ∀ x ∈ p1, x.block < W.heap.size := by obtain ⟨m, hm⟩ := k1; exact DataW.trod_lt m _ _ _ hm
  obtain ⟨l1, hl1, hi1, ho1, hm1⟩ : ∃ l : List Pr, l.length = len1 ∧ IsPr W a1 l cap1 ∧ (∀ x ∈ l, PrOk x) ∧ len1 ≤ maxLen := by
    obtain ⟨fuel, hf⟩ := h1
    exact prs_of_trod hf
  subst hl1
  have hb1 : l1.length ≤ 9223372036854775807 := by unfold maxLen at hm1; exact hm1
  obtain ⟨a2, len2, cap2, rfl⟩ := okWide_slice Tryz.underlying24 (hval 2 24 v2 rfl rfl)
  have k2 := h2
  have lt2 : ∀ x ∈ p2, x.block < W.heap.size := by obtain ⟨m, hm⟩ := k2; exact DataW.trod_lt m _ _ _ hm
  obtain ⟨l2, hl2, hi2, ho2, hm2⟩ : ∃ l : List Bl, l.length = len2 ∧ IsBl W a2 l cap2 ∧ (∀ x ∈ l, BlOk x) ∧ len2 ≤ maxLen := by
    obtain ⟨fuel, hf⟩ := h2
    exact ld_bls_of_trod hf
  subst hl2
  have hb2 : l2.length ≤ 9223372036854775807 := by unfold maxLen at hm2; exact hm2
  obtain ⟨x3, rfl, rfl, rfl, w3⟩ := open_string Tryz.underlying9 (hval 3 9 v3 rfl rfl) h3
  obtain ⟨x4, rfl, rfl, rfl, w4⟩ := open_int Tryz.underlying3 (hval 4 3 v4 rfl rfl) h4
  have wb4 := bounds_i64 w4
  clear hA0 hval0
  refine (leaves_walk a0 a1 a2 cap0 cap1 cap2 l0 l1 l2 x3 x4 W hi0 (fun k hk => ⟨(ho0 k hk).1, (ho0 k hk).2.1⟩) hi1 hb1 hi2 hb2 hg).mono fun e W' ⟨he, bel⟩ => ?_
  subst he
  exact ⟨_, rfl, _, _, _, [], _, [], hW', trodAll_mk1 (shut_bool Tryz.underlying4 _), (trodAll_cons_mk (Below.trod plv_laidOut (by kernel_rfl) (of_decide_eq_true (by kernel_rfl)) k0 bel lt0) (trodAll_cons_mk (Below.trod plv_laidOut (by kernel_rfl) (of_decide_eq_true (by kernel_rfl)) k1 bel lt1) (trodAll_cons_mk (Below.trod plv_laidOut (by kernel_rfl) (of_decide_eq_true (by kernel_rfl)) k2 bel lt2) (trodAll_cons_mk (shut_string Tryz.underlying9 w3) (trodAll_cons_mk (shut_int Tryz.underlying3 w4) trodAll_mk0))))), rfl, bel.frame _, fun h => by cases h⟩

theorem plv_over : Rows.PairLeavesSaid :=
  OpenClaim.holds_of_wide 3 Tryz.f3 rfl rfl rfl rfl rfl rfl rfl ⟨rfl, rfl, rfl, rfl, rfl⟩ rfl rfl rfl rfl rfl (by kernel_rfl) Tryz.func3 (by kernel_rfl)
    (of_decide_eq_true (by kernel_rfl)) (by unfold Func.isWrapper; first | (rw [if_pos (by decide +kernel)]; kernel_rfl) | (rw [if_neg (by decide +kernel)]; exact ⟨rfl, rfl⟩))
    (fun os started H enc _ => plv_lifted os started H enc)

/-- The statement. -/
theorem pairLeaves_holds : Rows.PairLeavesCardSaid :=
  Claim7.holds_tied_plain_at .later [] [.data, .data, .data, .handle] true _ true
    plv_over (fun _ h => by cases h) (by kernel_rfl) (fun _ h => by cases h) pairLeaves_row_tie rfl ⟨rfl, rfl⟩ (by kernel_rfl) rfl
    (fun f fn hf hfn => by
      obtain rfl : f = 3 := Option.some.inj ((show Tryz.prog.funcNamed "quarterday/daylaw3.PairLeaves" = some 3 by kernel_rfl).symm.trans hf) |>.symm
      obtain rfl : fn = Tryz.f3 := (Option.some.inj (Tryz.func3.symm.trans hfn)).symm
      exact ⟨by kernel_rfl, fun j t ht => by
        rw [Tryz.params3] at ht
        have h3 : t = 22 ∨ t = 23 ∨ t = 24 ∨ t = 9 ∨ t = 3 := by
          rcases j with _ | _ | _ | _ | _ | j
          · exact (.inl (by simpa using ht.symm))
          · exact (.inr (.inl (by simpa using ht.symm)))
          · exact (.inr (.inr (.inl (by simpa using ht.symm))))
          · exact (.inr (.inr (.inr (.inl (by simpa using ht.symm)))))
          · exact (.inr (.inr (.inr (.inr (by simpa using ht.symm)))))
          · simp at ht
        rcases h3 with rfl | rfl | rfl | rfl | rfl
        · exact (show Tryz.prog.wantsStandIn 22 = false by kernel_rfl)
        · exact (show Tryz.prog.wantsStandIn 23 = false by kernel_rfl)
        · exact (show Tryz.prog.wantsStandIn 24 = false by kernel_rfl)
        · exact (show Tryz.prog.wantsStandIn 9 = false by kernel_rfl)
        · exact (show Tryz.prog.wantsStandIn 3 = false by kernel_rfl)⟩)
    (by kernel_rfl)
#print axioms pairLeaves_holds
end Go.Proofs.YtagimpmefodaeaaGreatDoor
