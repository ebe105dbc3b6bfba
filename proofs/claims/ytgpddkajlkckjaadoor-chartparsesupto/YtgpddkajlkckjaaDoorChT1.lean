/-
  The line of an account, and the contract of chart.written.
-/
import Derived.Test.YtgpddkajlkckjaaDoorCh3
import Derived.Test.YtgpddkajlkckjaaDoorShelf
import Derived.ShutString
import Derived.Laws.Strings2
import Derived.Deep.RegionHeld3
namespace Go.Proofs.YtgpddkajlkckjaaDoor
set_option linter.unusedVariables false
set_option linter.unusedSimpArgs false
set_option maxRecDepth 100000
open Go.RowKit Go.Lib

/-- A text out of its bytes. -/
def txt (l : List UInt8) : ByteArray := ⟨l.toArray⟩
theorem txt_list (l : List UInt8) : (txt l).data.toList = l := rfl
theorem txt_of (s : ByteArray) : s = txt s.data.toList := rfl
theorem txt_size (l : List UInt8) : (txt l).size = l.length := size_of_list l
theorem txt_app (a b : List UInt8) : txt a ++ txt b = txt (a ++ b) := by
  apply ByteArray.ext
  simp [txt]

/-- The letter of a kind. -/
def kindB (k : Int) : ByteArray := if k = 1 then ⟨#[65]⟩ else if k = 2 then ⟨#[76]⟩ else if k = 3 then ⟨#[69]⟩ else if k = 4 then ⟨#[73]⟩ else ⟨#[88]⟩
def monB (m : Bool) : ByteArray := if m = true then ⟨#[109]⟩ else ⟨#[45]⟩
def parB (p : ByteArray) : ByteArray := if p.size = 0 then ⟨#[45]⟩ else p
/-- The five words of a line. -/
def wordsB (a : Ac) : List ByteArray := [a.code, a.name, kindB a.kind, monB a.mon, parB a.par]
def lineL (a : Ac) : List UInt8 := Lib.join ((wordsB a).map (·.data.toList)) [32] ++ [10]

theorem line_eq (a : Ac) : lineL a = a.code.data.toList ++ 32 :: (a.name.data.toList ++ 32 :: ((kindB a.kind).data.toList ++ 32 :: ((monB a.mon).data.toList ++ 32 :: ((parB a.par).data.toList ++ [10])))) := by
  simp [lineL, wordsB, Lib.join, List.intercalate]

theorem kindB_size (k : Int) : (kindB k).data.toList.length = 1 := by
  unfold kindB
  split
  · rfl
  · split
    · rfl
    · split
      · rfl
      · split <;> rfl
theorem monB_size (m : Bool) : (monB m).data.toList.length = 1 := by cases m <;> rfl
theorem parB_size {p : ByteArray} (h : p.size ≤ 6) : (parB p).data.toList.length ≤ 6 := by
  unfold parB
  split
  · decide
  · exact h

theorem line_len {a : Ac} (h1 : a.code.size ≤ 6) (h2 : a.name.size ≤ 24) (h3 : a.par.size ≤ 6) : (lineL a).length ≤ 43 := by
  rw [line_eq]
  have k1 : a.code.data.toList.length ≤ 6 := h1
  have k2 : a.name.data.toList.length ≤ 24 := h2
  have k3 := parB_size h3
  have k4 := kindB_size a.kind
  have k5 := monB_size a.mon
  simp only [List.length_append, List.length_cons, List.length_nil]
  omega

/-- A piece of the letters. -/
theorem run_letter (k : Int) (h1 : 1 ≤ k) (h2 : k ≤ 5) (W : World) : (Instr.slice 9 (.string ⟨#[65, 76, 69, 73, 88]⟩) (some (.int .i64 (k - 1))) (some (.int .i64 k)) none).run Tryd.prog W = .ok (.string (kindB k)) W := by
  rcases (by omega : k = 1 ∨ k = 2 ∨ k = 3 ∨ k = 4 ∨ k = 5) with rfl | rfl | rfl | rfl | rfl <;> rfl
theorem run_letter2 (k : Int) (h1 : 1 ≤ k) (h2 : k ≤ 5) (W : World) : (Instr.slice 9 (.string ⟨#[45, 65, 76, 69, 73, 88]⟩) (some (.int .i64 k)) (some (.int .i64 (k + 1))) none).run Tryd.prog W = .ok (.string (kindB k)) W := by
  rcases (by omega : k = 1 ∨ k = 2 ∨ k = 3 ∨ k = 4 ∨ k = 5) with rfl | rfl | rfl | rfl | rfl <;> rfl

theorem join_at (bk c : Nat) (x0 x1 x2 x3 x4 : ByteArray) (w : World) (hbk : bk < w.heap.size) (h0 : w.cell? ⟨bk, 0, none⟩ = some (.string x0)) (h1 : w.cell? ⟨bk, 1, none⟩ = some (.string x1)) (h2 : w.cell? ⟨bk, 2, none⟩ = some (.string x2)) (h3 : w.cell? ⟨bk, 3, none⟩ = some (.string x3)) (h4 : w.cell? ⟨bk, 4, none⟩ = some (.string x4)) (hc : 5 ≤ c)
    (hlen : (Lib.join ([x0, x1, x2, x3, x4].map (·.data.toList)) [32]).length ≤ 1000) :
    Calls Tryd.prog 27 #[.slice (some ⟨bk, 0, none⟩) 5 c, .string ⟨#[32]⟩] w fun e w' => e = .returned (.string (txt (Lib.join ([x0, x1, x2, x3, x4].map (·.data.toList)) [32]))) ∧ Below w.heap.size w w' := by
  refine shelf_strings_Join bk 0 c [x0, x1, x2, x3, x4] ⟨#[32]⟩ w (fun j x hj => ?_) hbk (by simp) hc (by have : (⟨#[32]⟩ : ByteArray).data.toList = [32] := rfl; rw [this]; omega)
  rw [Nat.zero_add]
  match j, hj with
  | 0, hj => simp at hj; subst hj; exact h0
  | 1, hj => simp at hj; subst hj; exact h1
  | 2, hj => simp at hj; subst hj; exact h2
  | 3, hj => simp at hj; subst hj; exact h3
  | 4, hj => simp at hj; subst hj; exact h4

set_option maxHeartbeats 4000000 in
theorem written_any (a : Ac) (w : World) (h1 : a.code.size ≤ 6) (h2 : a.name.size ≤ 24) (h3 : a.par.size ≤ 6) (k1 : 1 ≤ a.kind) (k2 : a.kind ≤ 5) :
    Calls Tryd.prog 18 #[.agg a.cells] w fun e w' => e = .returned (.string (txt (lineL a))) ∧ Below w.heap.size w w' := by
  have hll := line_len h1 h2 h3
  have hn := AcAt.new w a 33
  have hL := run_letter a.kind k1 k2
  have hJ : ∀ (W : World) (bk : Nat), bk < W.heap.size → W.cell? ⟨bk, 0, none⟩ = some (.string a.code) → W.cell? ⟨bk, 1, none⟩ = some (.string a.name) → W.cell? ⟨bk, 2, none⟩ = some (.string (kindB a.kind)) → W.cell? ⟨bk, 3, none⟩ = some (.string (monB a.mon)) → W.cell? ⟨bk, 4, none⟩ = some (.string (parB a.par)) →
      Calls Tryd.prog 27 #[.slice (some ⟨bk, 0, none⟩) 5 5, .string ⟨#[32]⟩] W fun e w' => e = .returned (.string (txt (Lib.join ((wordsB a).map (·.data.toList)) [32]))) ∧ Below W.heap.size W w' := fun W bk hb c0 c1 c2 c3 c4 => by
    refine join_at bk 5 _ _ _ _ _ W hb c0 c1 c2 c3 c4 (by omega) ?_
    have : (lineL a).length = (Lib.join ((wordsB a).map (·.data.toList)) [32]).length + 1 := by unfold lineL; simp
    have e : Lib.join ((wordsB a).map (·.data.toList)) [32] = Lib.join ([a.code, a.name, kindB a.kind, monB a.mon, parB a.par].map (·.data.toList)) [32] := rfl
    rw [e] at this
    omega
  have hA : ∀ W, (Op.stringOp .add (txt (Lib.join ((wordsB a).map (·.data.toList)) [32])) ⟨#[10]⟩).run Tryd.prog W = .ok (.string (txt (lineL a))) W := fun W => by
    have e10 : (⟨#[10]⟩ : ByteArray) = txt [10] := rfl
    have : (lineL a).length = (Lib.join ((wordsB a).map (·.data.toList)) [32]).length + 1 := by unfold lineL; simp
    rw [e10, run_string_add_sum W _ _ (by rw [txt_size, txt_size]; simp; omega), txt_app]
    rfl
  obtain ⟨x0, x1, x2, x3, x4⟩ := a
  simp only [Ac.cells] at hn hL hJ k1 k2 ⊢
  generalize txt (Lib.join ((wordsB ⟨x0, x1, x2, x3, x4⟩).map (·.data.toList)) [32]) = jn at *
  generalize txt (lineL ⟨x0, x1, x2, x3, x4⟩) = ln at *
  generalize hkb : kindB x2 = kb at *
  clear hkb hll h1 h2
  obtain ⟨c0, c1, c2, c3, c4⟩ := hn
  simp only [Nat.zero_add] at c0 c1 c2 c3 c4
  have HJ : Hid (∀ (W : World) (bk : Nat), _) := hJ
  clear hJ
  have b0 : Below w.heap.size w (w.alloc (.cells #[.string x0, .string x1, .int .i64 x2, .string x3, .bool x4] 33)) := (Below.refl _ w).alloc (Nat.le_refl _) _
  cases x4
  · by_cases hp : x3.size = 0
    · have e0 := ch_empty hp
      have ep : parB x3 = ⟨#[45]⟩ := by unfold parB; rw [if_pos hp]
      have em : monB false = ⟨#[45]⟩ := rfl
      rw [em, ep] at HJ
      clear ep em
      go_enter Tryd.func18, Tryd.ntmps18
      go_wp2_with fail
      go_region
      all_goals
        go_wp2_with fail
        refine (HJ.out _ (w.heap.size + 1) ?_ ?_ ?_ ?_ ?_ ?_).mono ?_
        · simp
        · simp
        · simp
        · simp
        · simp
        · simp
        rintro e w1 ⟨rfl, hb1⟩
        have B1 := (b0.alloc (by simp) (.cells #[.string x0, .string x1, .string kb, .string ⟨#[45]⟩, .string ⟨#[45]⟩] 9)).drew.trans (hb1.mono (by simp; omega))
        go_wp2
        go_ret
        exact ⟨rfl, B1⟩
    · have e0 := ch_some hp
      have e0' : x3.toList.isEmpty = false := by simpa using e0
      have ep : parB x3 = x3 := by unfold parB; rw [if_neg hp]
      have em : monB false = ⟨#[45]⟩ := rfl
      rw [em, ep] at HJ
      clear ep em
      go_enter Tryd.func18, Tryd.ntmps18
      go_wp2_with fail
      go_region
      all_goals
        go_wp2_with fail
        refine (HJ.out _ (w.heap.size + 1) ?_ ?_ ?_ ?_ ?_ ?_).mono ?_
        · simp
        · simp
        · simp
        · simp
        · simp
        · simp
        rintro e w1 ⟨rfl, hb1⟩
        have B1 := (b0.alloc (by simp) (.cells #[.string x0, .string x1, .string kb, .string ⟨#[45]⟩, .string x3] 9)).drew.trans (hb1.mono (by simp; omega))
        go_wp2
        go_ret
        exact ⟨rfl, B1⟩
  · by_cases hp : x3.size = 0
    · have e0 := ch_empty hp
      have ep : parB x3 = ⟨#[45]⟩ := by unfold parB; rw [if_pos hp]
      have em : monB true = ⟨#[109]⟩ := rfl
      rw [em, ep] at HJ
      clear ep em
      go_enter Tryd.func18, Tryd.ntmps18
      go_wp2_with fail
      go_region
      all_goals
        go_wp2_with fail
        refine (HJ.out _ (w.heap.size + 1) ?_ ?_ ?_ ?_ ?_ ?_).mono ?_
        · simp
        · simp
        · simp
        · simp
        · simp
        · simp
        rintro e w1 ⟨rfl, hb1⟩
        have B1 := (b0.alloc (by simp) (.cells #[.string x0, .string x1, .string kb, .string ⟨#[109]⟩, .string ⟨#[45]⟩] 9)).drew.trans (hb1.mono (by simp; omega))
        go_wp2
        go_ret
        exact ⟨rfl, B1⟩
    · have e0 := ch_some hp
      have e0' : x3.toList.isEmpty = false := by simpa using e0
      have ep : parB x3 = x3 := by unfold parB; rw [if_neg hp]
      have em : monB true = ⟨#[109]⟩ := rfl
      rw [em, ep] at HJ
      clear ep em
      go_enter Tryd.func18, Tryd.ntmps18
      go_wp2_with fail
      go_region
      all_goals
        go_wp2_with fail
        refine (HJ.out _ (w.heap.size + 1) ?_ ?_ ?_ ?_ ?_ ?_).mono ?_
        · simp
        · simp
        · simp
        · simp
        · simp
        · simp
        rintro e w1 ⟨rfl, hb1⟩
        have B1 := (b0.alloc (by simp) (.cells #[.string x0, .string x1, .string kb, .string ⟨#[109]⟩, .string x3] 9)).drew.trans (hb1.mono (by simp; omega))
        go_wp2
        go_ret
        exact ⟨rfl, B1⟩
end Go.Proofs.YtgpddkajlkckjaaDoor
