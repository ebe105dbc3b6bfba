/-
  The lines of a text: chart.lines and the function that it gives.
-/
import Derived.RangeFuncNested
import Derived.RangeFuncBound
import Derived.RangeFuncCalls
import Derived.RangeFuncLeaves
import Derived.Shelf.Abstract
import Derived.Shelf.RegionOpen
import Derived.WalkKit
import Derived.OwnWalkIn
import Derived.TacticsInMore
import Derived.LoopNIn
import Derived.LoopIn
import Derived.Test.YtgpddkajlkckjaaDoorChR4
namespace Go.Proofs.YtgpddkajlkckjaaDoor
set_option linter.unusedVariables false
set_option linter.unusedSimpArgs false
set_option maxRecDepth 100000
open Go.RowKit Go.Shelf
attribute [local go_sem] Oper.semAt_some

/-- The size of the first line. -/
def lineLen (s : ByteArray) : Nat := if Lib.indexByte s.data.toList 10 + 1 = 0 then s.size else (Lib.indexByte s.data.toList 10 + 1).toNat
/-- The lines by their numbers. -/
def linesGo : Nat → Nat → ByteArray → List (Nat × ByteArray)
  | 0, _, _ => []
  | f + 1, k, s => if s.size = 0 then [] else (k, s.extract 0 (lineLen s)) :: linesGo f (k + 1) (s.extract (lineLen s) s.size)
def linesOf (s : ByteArray) : List (Nat × ByteArray) := linesGo s.size 0 s
def lineV (x : Nat × ByteArray) : Array Value := #[.int .i64 x.1, .string x.2]

theorem indexB_lt : ∀ (l : List UInt8) (c : UInt8), Lib.indexByte l c < l.length
  | [], _ => by simp [Lib.indexByte]
  | b :: l, c => by
    have := indexB_lt l c
    have := Lib.indexByte_ge l c
    simp only [Lib.indexByte, List.length_cons]
    split
    · omega
    · split <;> omega
theorem lineLen_pos {s : ByteArray} (h : s.size ≠ 0) : 1 ≤ lineLen s := by
  have := Lib.indexByte_ge s.data.toList 10
  unfold lineLen
  split <;> omega
theorem lineLen_le (s : ByteArray) : lineLen s ≤ s.size := by
  have := indexB_lt s.data.toList 10
  have e : s.data.toList.length = s.size := by simp
  unfold lineLen
  split <;> omega
theorem rest_size (s : ByteArray) : (s.extract (lineLen s) s.size).size = s.size - lineLen s := by simp
theorem linesGo_fuel : ∀ (f g k : Nat) (s : ByteArray), s.size ≤ f → s.size ≤ g → linesGo f k s = linesGo g k s
  | 0, 0, _, _, _, _ => rfl
  | 0, g + 1, k, s, hf, _ => by
    unfold linesGo
    rw [if_pos (by omega)]
  | f + 1, 0, k, s, _, hg => by
    unfold linesGo
    rw [if_pos (by omega)]
  | f + 1, g + 1, k, s, hf, hg => by
    unfold linesGo
    by_cases h : s.size = 0
    · rw [if_pos h, if_pos h]
    · have := lineLen_pos h
      rw [if_neg h, if_neg h, linesGo_fuel f g (k + 1) _ (by rw [rest_size]; omega) (by rw [rest_size]; omega)]
theorem linesGo_step {k : Nat} {s : ByteArray} (h : s.size ≠ 0) :
    linesGo s.size k s = (k, s.extract 0 (lineLen s)) :: linesGo (s.extract (lineLen s) s.size).size (k + 1) (s.extract (lineLen s) s.size) := by
  obtain ⟨m, hm⟩ : ∃ m, s.size = m + 1 := ⟨s.size - 1, by omega⟩
  have hp := lineLen_pos h
  have e : linesGo s.size k s = linesGo (m + 1) k s := by rw [hm]
  rw [e]
  rw [linesGo, if_neg h, linesGo_fuel m _ (k + 1) _ (by rw [rest_size]; omega) (Nat.le_refl _)]
theorem linesGo_nil {k : Nat} {s : ByteArray} (h : s.size = 0) : linesGo s.size k s = [] := by
  rw [h]; rfl

set_option maxHeartbeats 8000000 in
theorem lines1_in (n : Nat) (hn : 3 ≤ n) (l Bn n₀ : Nat) (t : ByteArray) (ht : t.size < 4294967281) (J Jx : List (Nat × ByteArray) → World → Prop)
    (hY : ∀ pre x W, x.2.size ≤ t.size → J pre W → pre.length < (linesOf t).length → YieldAt Fence.wide (n - 1) Tryd.prog l (lineV x) W fun e W' =>
      (e = .returned (.bool true) ∧ J (pre ++ [x]) W' ∧ Below n₀ W W') ∨ (e = .returned (.bool false) ∧ Jx (pre ++ [x]) W'))
    (W : World) (hBn : W.cell? ⟨Bn, 0, none⟩ = some (.string t)) (h0 : J [] W) :
    CallsIn Fence.wide n Tryd.prog 21 #[.func (.yield l) #[] #[], .pointer (some ⟨Bn, 0, none⟩)] W fun e W' => (∃ v, e = .returned v) ∧
      ((∃ ys, ys = linesOf t ∧ J ys W') ∨ (∃ pre, pre <+: linesOf t ∧ Jx pre W')) := by
  refine callsIn_of_wp Tryd.func21 rfl trivial ?_ rfl
  simp only [Tryd.ntmps21, List.size_toArray, List.length_cons, List.length_nil, Nat.reduceAdd, Nat.reduceSub, Array.replicate_succ, Array.replicate_zero, List.push_toArray, List.append_toArray, List.nil_append, List.cons_append]
  gi_wp2
  gi_loopw [3, 4] (fun r i wr => ∃ (pre : List (Nat × ByteArray)) (k : Nat) (s : ByteArray), r = .string s ∧ i = .int .i64 k ∧ linesOf t = pre ++ linesGo s.size k s ∧ k + s.size ≤ t.size ∧ J pre wr)
    (fun r _ _ => match r with | .string s => s.size | _ => 0)
  case atStart =>
    exact ⟨[], 0, t, rfl, rfl, rfl, by omega, h0⟩
  case round =>
    obtain ⟨pre, k, s, rfl, rfl, hx, hk, hJs⟩ := hrel
    by_cases hz : s.size = 0
    · have e0 := ch_empty hz
      gi_wp2
      go_end0
      exact ⟨⟨_, rfl⟩, .inl ⟨pre, by rw [hx, linesGo_nil hz, List.append_nil], hJs⟩⟩
    · have e0 := ch_some hz
      have e0' : s.toList.isEmpty = false := by simpa using e0
      rw [linesGo_step hz] at hx
      have hI : Calls Tryd.prog 22 #[.string s, .int .u8 10] wr fun e w' => e = .returned (.int .i64 (Lib.indexByte s.data.toList 10)) ∧ w' = wr := shelf_strings_IndexByte s 10 wr
      have hlp := lineLen_pos hz
      have hll := lineLen_le s
      have hrs := rest_size s
      have hcs : (Lib.indexByte s.data.toList 10 = -1 ∧ lineLen s = s.size) ∨ Lib.indexByte s.data.toList 10 = (lineLen s : Int) - 1 := by
        have := Lib.indexByte_ge s.data.toList 10
        unfold lineLen
        split
        · exact .inl ⟨by omega, rfl⟩
        · exact .inr (by omega)
      generalize lineLen s = L at *
      generalize Lib.indexByte s.data.toList 10 = i at *
      have HI : Hid (Calls _ _ _ _ _) := hI
      clear hI
      obtain ⟨fn, tmps, assign, body, hy, hR⟩ := hY pre (k, s.extract 0 L) wr (by simp; omega) hJs (by rw [hx]; simp)
      simp only [lineV] at hy
      rcases hcs with ⟨rfl, rfl⟩ | rfl
      · have es : s.extract 0 s.size = s := by simp
        have ee : s.extract s.size s.size = ByteArray.empty := by simp
        rw [es] at hy hR hx
        rw [ee] at hx
        have hrs : ByteArray.empty.size = 0 := rfl
        gi_wp2
        refine ⟨trivial, fun h => by omega, ?_⟩
        refine (callsIn_wide.2 HI.out).mono ?_
        rintro e w1 ⟨rfl, hw⟩
        rw [hw]; clear hw w1
        gi_wp2
        refine ⟨fun h => by omega, ?_⟩
        refine hR.mono ?_
        rintro e W3 (⟨rfl, hJ3, hk3⟩ | ⟨rfl, hJx3⟩)
        · gi_wp2
          go_roundw
          case rel => exact ⟨pre ++ [(k, s)], k + 1, _, rfl, by go_num, by rw [hx, List.append_assoc]; rfl, by rw [hrs]; omega, hJ3⟩
          case measure => simp only [Array.getD_eq_getD_getElem?]; simp; omega
        · gi_wp2
          refine bodyPost_ret (results_none rfl _ _ _) rfl ?_
          exact ⟨⟨_, rfl⟩, .inr ⟨pre ++ [(k, s)], ⟨_, by rw [hx, List.append_assoc]; rfl⟩, hJx3⟩⟩
      · gi_wp2
        refine ⟨trivial, fun h => by omega, ?_⟩
        refine (callsIn_wide.2 HI.out).mono ?_
        rintro e w1 ⟨rfl, hw⟩
        rw [hw]; clear hw w1
        gi_wp2
        refine ⟨fun h => by omega, ?_⟩
        refine hR.mono ?_
        rintro e W3 (⟨rfl, hJ3, hk3⟩ | ⟨rfl, hJx3⟩)
        · gi_wp2
          go_roundw
          case rel => exact ⟨pre ++ [(k, s.extract 0 L)], k + 1, _, rfl, by go_num, by rw [hx, List.append_assoc]; rfl, by rw [hrs]; omega, hJ3⟩
          case measure => simp only [Array.getD_eq_getD_getElem?]; simp; omega
        · gi_wp2
          refine bodyPost_ret (results_none rfl _ _ _) rfl ?_
          exact ⟨⟨_, rfl⟩, .inr ⟨pre ++ [(k, s.extract 0 L)], ⟨_, by rw [hx, List.append_assoc]; rfl⟩, hJx3⟩⟩

/-- A line by its number, no longer than the text. -/
abbrev LineOf (t : ByteArray) := { x : Nat × ByteArray // x.2.size ≤ t.size }

/-- The function that chart.lines gives, as a sequence. -/
theorem lines_stops (n : Nat) (hn : 3 ≤ n) (Bn n₀ : Nat) (t : ByteArray) (ht : t.size < 4294967281) (w : World) (hlt : Bn < w.heap.size) (hBn : w.cell? ⟨Bn, 0, none⟩ = some (.string t)) :
    SeqStopsK (α := LineOf t) Fence.wide n Tryd.prog 21 #[.pointer (some ⟨Bn, 0, none⟩)] (fun x => lineV x.1) (Below n₀) (fun xs => xs.map (·.1) = linesOf t) (fun pre => pre.map (·.1) <+: linesOf t) (linesOf t).length w := by
  intro l J Jx W hW hJ hJx hY h0
  refine (lines1_in n hn l Bn n₀ t ht (fun pre W => ∃ q : List (LineOf t), q.map (·.1) = pre ∧ J q W) (fun pre W => ∃ q : List (LineOf t), q.map (·.1) = pre ∧ Jx q W) ?_ W ((hW.cell (p := ⟨Bn, 0, none⟩) hlt).trans hBn) ⟨[], rfl, h0⟩).mono ?_
  · rintro pre x W1 hx ⟨q, rfl, hq⟩ hlen
    refine (hY q ⟨x, hx⟩ W1 hq (by simpa using hlen)).mono ?_
    rintro e W' (⟨he, hj, hb⟩ | ⟨he, hj⟩)
    · exact .inl ⟨he, ⟨q ++ [⟨x, hx⟩], by simp, hj⟩, hb⟩
    · exact .inr ⟨he, ⟨q ++ [⟨x, hx⟩], by simp, hj⟩⟩
  · rintro e W' ⟨hv, ⟨ys, rfl, q, hq, hj⟩ | ⟨pre, hp, q, rfl, hj⟩⟩
    · exact ⟨hv, .inl ⟨q, hq, hj⟩⟩
    · exact ⟨hv, .inr ⟨q, hp, hj⟩⟩

/-- chart.lines. -/
theorem lines_any (t : ByteArray) (w : World) :
    Calls Tryd.prog 13 #[.string t] w fun e w' => e = .returned (.func (.func 21) #[] #[.pointer (some ⟨w.heap.size, 0, none⟩)]) ∧ w' = w.alloc (.cells #[.string t] 9) := by
  go_enter Tryd.func13, Tryd.ntmps13
  go_wp2
  go_ret
  exact ⟨rfl, rfl⟩
end Go.Proofs.YtgpddkajlkckjaaDoor
