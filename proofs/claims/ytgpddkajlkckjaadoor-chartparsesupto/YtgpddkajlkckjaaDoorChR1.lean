/-
  The contracts of chart.readKind and chart.readParent.
-/
import Derived.Test.YtgpddkajlkckjaaDoorCh3
import Derived.Test.YtgpddkajlkckjaaDoorShelf
namespace Go.Proofs.YtgpddkajlkckjaaDoor
set_option linter.unusedVariables false
set_option linter.unusedSimpArgs false
set_option maxRecDepth 100000
open Go.RowKit

/-- The library's variable by which it looks for a text in a text holds a number. -/
def MaxL (w : World) : Prop := ∃ m, w.cell? ⟨1, 0, none⟩ = some (.int .i64 m)
theorem MaxL.below {w w' : World} {B : Nat} (h : MaxL w) (hb : Below B w w') (hB : w.heap.size ≤ B) : MaxL w' := by
  obtain ⟨m, h⟩ := h
  exact ⟨m, (hb.cell (p := ⟨1, 0, none⟩) (Nat.lt_of_lt_of_le (World.block_lt_of_cell? _ _ h) hB)).trans h⟩

/-- The kind of a letter; 0: it is none. -/
def kindOf (s : ByteArray) : Int := if s = ⟨#[65]⟩ then 1 else if s = ⟨#[76]⟩ then 2 else if s = ⟨#[69]⟩ then 3 else if s = ⟨#[73]⟩ then 4 else if s = ⟨#[88]⟩ then 5 else 0

theorem kindOf_one (c : UInt8) : kindOf ⟨#[c]⟩ = Lib.indexByte [65, 76, 69, 73, 88] c + 1 := by
  have inj : ∀ d : UInt8, ((⟨#[c]⟩ : ByteArray) = ⟨#[d]⟩) ↔ c = d := fun d => by simp
  simp only [kindOf, inj]
  by_cases h1 : c = 65
  · subst h1; decide
  by_cases h2 : c = 76
  · subst h2; decide
  by_cases h3 : c = 69
  · subst h3; decide
  by_cases h4 : c = 73
  · subst h4; decide
  by_cases h5 : c = 88
  · subst h5; decide
  rw [if_neg h1, if_neg h2, if_neg h3, if_neg h4, if_neg h5]
  simp [Lib.indexByte, Ne.symm h1, Ne.symm h2, Ne.symm h3, Ne.symm h4, Ne.symm h5]

theorem kindOf_long {s : ByteArray} (h : s.size ≠ 1) : kindOf s = 0 := by
  have ne : ∀ d : UInt8, s ≠ ⟨#[d]⟩ := fun d e => h (by rw [e]; rfl)
  simp [kindOf, ne]

theorem one_byte {s : ByteArray} (h : s.size = 1) : ∃ c, s = ⟨#[c]⟩ := by
  obtain ⟨d⟩ := s
  have : d.size = 1 := h
  obtain ⟨l⟩ := d
  match l, this with
  | [c], _ => exact ⟨c, rfl⟩

theorem readKind_any (s : ByteArray) (w : World) (hg : MaxL w) :
    Calls Tryd.prog 31 #[.string s] w fun e w' => e = .returned (.tuple #[.int .i64 (kindOf s), .bool (decide (kindOf s ≠ 0))]) ∧ w' = w := by
  by_cases h : s.size = 1
  · obtain ⟨c, rfl⟩ := one_byte h
    have hI := shelf_strings_Index_one ⟨#[65, 76, 69, 73, 88]⟩ c w
    have hk := kindOf_one c
    have hI2 : Calls Tryd.prog 45 #[.string ⟨#[65, 76, 69, 73, 88]⟩, .string ⟨#[c]⟩] w fun e w' => e = .returned (.int .i64 (Lib.indexByte [65, 76, 69, 73, 88] c)) ∧ w' = w := hI
    obtain ⟨k, hkk⟩ : ∃ k, Lib.indexByte [65, 76, 69, 73, 88] c = k := ⟨_, rfl⟩
    rw [hkk] at hI2 hk
    have hb : -1 ≤ k ∧ k ≤ 4 := by
      rw [← hkk]
      simp only [Lib.indexByte]
      repeat (first | omega | split)
    rw [hk]
    clear hI hk hkk hg h
    by_cases h0 : k < 0
    · have e : k = -1 := by omega
      subst e
      go_enter Tryd.func31, Tryd.ntmps31
      go_wp2_with (go_at_call 45; refine hI2.mono ?_; rintro e w' ⟨rfl, rfl⟩)
      go_ret2
      exact ⟨rfl, rfl⟩
    · have e1 : decide (k + 1 ≠ 0) = true := by simp; omega
      rw [e1]
      have k0 : 0 ≤ k := by omega
      have k4 : k ≤ 4 := hb.2
      have es : (1 : Int) + k = k + 1 := by omega
      go_enter Tryd.func31, Tryd.ntmps31
      go_wp2_with (go_at_call 45; refine hI2.mono ?_; rintro e w' ⟨rfl, rfl⟩)
      go_ret2
      first | exact ⟨rfl, rfl⟩ | exact ⟨by simp [es], rfl⟩
  · obtain ⟨m, hm⟩ := hg
    have hI := shelf_strings_Index ⟨#[65, 76, 69, 73, 88]⟩ s m w (by decide) hm
    have hk := kindOf_long h
    rw [hk]
    have h' : ((s.size : Int) != 1) = true := by simp; omega
    generalize Lib.index (⟨#[65, 76, 69, 73, 88]⟩ : ByteArray).data.toList s.data.toList = r at hI
    clear hm hk
    by_cases h0 : r < 0
    all_goals
      go_enter Tryd.func31, Tryd.ntmps31
      go_wp2_with (go_at_call 45; refine hI.mono ?_; rintro e w' ⟨rfl, rfl⟩)
      go_ret2
      exact ⟨rfl, rfl⟩

theorem text_eq {s : ByteArray} {l : List UInt8} (e : s.toList = l) : s = ⟨l.toArray⟩ := by
  rw [Lib.toList_data] at e
  rw [← e]

theorem readParent_any (s : ByteArray) (w : World) :
    Calls Tryd.prog 32 #[.string s] w fun e w' => e = .returned (.tuple #[.string (if s = ⟨#[45]⟩ then ⟨#[]⟩ else s), .bool (decide (s = ⟨#[45]⟩) || isCodeB s)]) ∧ Below w.heap.size w w' := by
  by_cases h : s = ⟨#[45]⟩
  · subst h
    go_enter Tryd.func32, Tryd.ntmps32
    go_wp2
    go_ret2
    exact ⟨by simp, Below.refl _ _⟩
  · have h' : ¬ s.toList = [45] := fun e => h (text_eq e)
    have h'' : (s.toList == [45]) = false := by simpa using h'
    rw [if_neg h, decide_eq_false h, Bool.false_or]
    have hC := isCode_any s w
    generalize isCodeB s = b at *
    go_enter Tryd.func32, Tryd.ntmps32
    go_wp2_with (go_at_call 33; refine hC.mono ?_; rintro e w' ⟨rfl, hb⟩)
    go_ret2
    exact ⟨rfl, hb⟩
end Go.Proofs.YtgpddkajlkckjaaDoor
