/-
  The contract of chart.read: the account of a line.
-/
import Derived.Test.YtgpddkajlkckjaaDoorChR1
import Derived.Deep.RegionHeld3
import Derived.ShutString
import Derived.RangeFuncBox
namespace Go.Proofs.YtgpddkajlkckjaaDoor
set_option linter.unusedVariables false
set_option linter.unusedSimpArgs false
set_option maxRecDepth 100000
open Go.RowKit

/-- A line without its end, and its words. -/
def cutNl (s : ByteArray) : ByteArray := ⟨(Lib.trimSuffix s.data.toList [10]).toArray⟩
def wordsOf (s : ByteArray) : List ByteArray := Lib.splitB ⟨#[32]⟩ 0 (min 6 ((cutNl s).size + 1) - 1) (cutNl s)

/-- The account of five words. -/
def ofWords (a b c d e : ByteArray) : Option Ac :=
  if kindOf c ≠ 0 ∧ (d = ⟨#[109]⟩ ∨ d = ⟨#[45]⟩) ∧ (decide (e = ⟨#[45]⟩) || isCodeB e) = true then some ⟨a, b, kindOf c, if e = ⟨#[45]⟩ then ⟨#[]⟩ else e, decide (d = ⟨#[109]⟩)⟩ else none
/-- The account of a line. -/
def readS (s : ByteArray) : Option Ac :=
  if Lib.hasSuffix s.data.toList [10] = true then (match wordsOf s with | [a, b, c, d, e] => ofWords a b c d e | _ => none) else none

theorem cutNl_size (s : ByteArray) : (cutNl s).size ≤ s.size := by
  have e : (cutNl s).size = (Lib.trimSuffix s.data.toList [10]).length := size_of_list _
  rw [e]
  unfold Lib.trimSuffix
  split
  · rw [List.length_take]
    have : s.data.toList.length = s.size := rfl
    omega
  · exact Nat.le_refl _

theorem splitN_at (s : ByteArray) (w : World) (hs : s.size < 4294967281) (hg : MaxL w) :
    Calls Tryd.prog 30 #[.string (cutNl s), .string ⟨#[32]⟩, .int .i64 6] w fun e w' => e = .returned (.slice (some ⟨w.heap.size, 0, none⟩) (wordsOf s).length (min 6 ((cutNl s).size + 1))) ∧ Below w.heap.size w w' ∧ w.heap.size < w'.heap.size ∧ ∀ k, k < (wordsOf s).length → w'.cell? ⟨w.heap.size, k, none⟩ = some (.string ((wordsOf s).getD k ByteArray.empty)) := by
  obtain ⟨m, hm⟩ := hg
  have hc := cutNl_size s
  refine (shelf_strings_SplitN (cutNl s) ⟨#[32]⟩ 6 m w (by omega) hm (by decide) (by omega) (by omega)).mono ?_
  rintro e w' ⟨rfl, rfl⟩
  refine ⟨rfl, (Below.refl _ w).alloc (Nat.le_refl _) _, by simp, fun k hk => ?_⟩
  have hk' : k < (Lib.splitB ⟨#[32]⟩ 0 (min 6 ((cutNl s).size + 1) - 1) (cutNl s)).length := hk
  have h1 : (w.alloc (.cells (Lib.cellsOf (wordsOf s) (min 6 ((cutNl s).size + 1))) 9)).heap[w.heap.size]? = some (.cells (Lib.cellsOf (wordsOf s) (min 6 ((cutNl s).size + 1))) 9) := World.alloc_heap_new w _
  have h2 : (Lib.cellsOf (wordsOf s) (min 6 ((cutNl s).size + 1)))[k]? = some (.string ((wordsOf s).getD k ByteArray.empty)) := by
    unfold Lib.cellsOf
    rw [List.getElem?_toArray, List.getElem?_append_left (by simpa using hk)]
    simp [hk]
  show (w.alloc (.cells (Lib.cellsOf (wordsOf s) (min 6 ((cutNl s).size + 1))) 9)).cell? ⟨w.heap.size, k, none⟩ = _
  simp only [World.cell?, h1]
  exact h2

theorem cut_at (s : ByteArray) (w : World) (hs : s.size < 4294967281) :
    Calls Tryd.prog 29 #[.string s, .string ⟨#[10]⟩] w fun e w' => e = .returned (.tuple #[.string (cutNl s), .bool (Lib.hasSuffix s.data.toList [10])]) ∧ w' = w :=
  shelf_strings_CutSuffix s ⟨#[10]⟩ w (by omega)

/-- What a call of chart.read hands back. -/
def ReadEnd (s : ByteArray) (w : World) (e : Ending) (w' : World) : Prop := e = .returned (.tuple #[.agg ((readS s).getD ac0).cells, .bool (readS s).isSome]) ∧ Below w.heap.size w w'

set_option maxHeartbeats 4000000 in
theorem read_few (s : ByteArray) (w : World) (hs : s.size < 4294967281) (hg : MaxL w) (h : ¬ (Lib.hasSuffix s.data.toList [10] = true ∧ (wordsOf s).length = 5)) :
    Calls Tryd.prog 23 #[.string s] w (ReadEnd s w) := by
  have er : readS s = none := by
    unfold readS
    split
    · rename_i h1
      split
      · rename_i h2
        exact absurd ⟨h1, by rw [h2]; rfl⟩ h
      · rfl
    · rfl
  have HC := cut_at s (w.alloc (.cells ac0.cells 33)) hs
  have b0 : Below w.heap.size w (w.alloc (.cells ac0.cells 33)) := (Below.refl _ w).alloc (Nat.le_refl _) _
  have HS := splitN_at s (w.alloc (.cells ac0.cells 33)) hs (hg.below b0 (Nat.le_refl _))
  have hsz : (w.alloc (.cells ac0.cells 33)).heap.size = w.heap.size + 1 := by simp
  have hblk : (w.alloc (.cells ac0.cells 33)).heap[w.heap.size]? = some (.cells ac0.cells 33) := World.alloc_heap_new w _
  have hwl : (wordsOf s).length ≤ 100000 ∨ True := .inr trivial
  unfold ReadEnd
  rw [er]
  simp only [Option.getD_none, Option.isSome_none, Ac.cells, ac0] at HC HS b0 hsz hblk ⊢
  rw [hsz] at HS
  generalize Lib.hasSuffix s.data.toList [10] = en at *
  generalize cutNl s = cn at *
  generalize (wordsOf s).length = n at *
  have HHC : Hid (Calls _ _ _ _ _) := HC
  have HHS : Hid (Calls _ _ _ _ _) := HS
  have Hblk : Hid (_ = _) := hblk
  clear HC HS hg er hwl hblk
  have fin : ∀ w2 : World, Below (w.heap.size + 1) (w.alloc (.cells #[.string ByteArray.empty, .string ByteArray.empty, .int .i64 0, .string ByteArray.empty, .bool false] 33)) w2 → w2.heap[w.heap.size]? = some (.cells #[.string ByteArray.empty, .string ByteArray.empty, .int .i64 0, .string ByteArray.empty, .bool false] 33) := fun w2 hb => (hb.block w.heap.size (Nat.lt_succ_self _)).trans Hblk.out
  have Hfin : Hid (∀ w2 : World, _) := fin
  clear fin Hblk
  cases en
  all_goals
    go_enter Tryd.func23, Tryd.ntmps23
    go_wp2_with fail
    refine HHC.out.mono ?_
    rintro e w1 ⟨rfl, hw⟩
    rw [hw]; clear hw w1
    go_wp2_with fail
    refine HHS.out.mono ?_
    rintro e w2 ⟨rfl, hb2, hs2, _⟩
    have hk2 := Hfin.out w2 hb2
    have B2 := b0.trans (hb2.mono (Nat.le_succ _))
    have d : ∀ i, i < 5 → ∃ v, w2.cell? ⟨w.heap.size, i, none⟩ = some v := fun i hi => by
      rcases (by omega : i = 0 ∨ i = 1 ∨ i = 2 ∨ i = 3 ∨ i = 4) with rfl | rfl | rfl | rfl | rfl <;> exact ⟨_, by simp [World.cell?, hk2]; rfl⟩
    have f : ∀ i, w2.frozen? ⟨w.heap.size, i, none⟩ = false := fun i => by simp [World.frozen?, hk2]
    obtain ⟨v0, d0⟩ := d 0 (by omega)
    obtain ⟨v1, d1⟩ := d 1 (by omega)
    obtain ⟨v2, d2⟩ := d 2 (by omega)
    obtain ⟨v3, d3⟩ := d 3 (by omega)
    obtain ⟨v4, d4⟩ := d 4 (by omega)
    have f0 := f 0
    have f1 := f 1
    have f2 := f 2
    have f3 := f 3
    have f4 := f 4
    clear d f hk2 HHC HHS Hfin hb2
    try (have hn5 : ((n : Int) != 5) = true := by simp at h ⊢; omega)
    go_wp2
    exact bodyPost_ret (v := .tuple #[.agg #[.string ByteArray.empty, .string ByteArray.empty, .int .i64 0, .string ByteArray.empty, .bool false], .bool false]) (by simp [results, Tryd.results23, go_sem, d0, d1, d2, d3, d4]; rfl) rfl ⟨rfl, ((((B2.setCell (p := ⟨w.heap.size, 0, none⟩) (Nat.le_refl _) _).setCell (p := ⟨w.heap.size, 1, none⟩) (Nat.le_refl _) _).setCell (p := ⟨w.heap.size, 2, none⟩) (Nat.le_refl _) _).setCell (p := ⟨w.heap.size, 3, none⟩) (Nat.le_refl _) _).setCell (p := ⟨w.heap.size, 4, none⟩) (Nat.le_refl _) _⟩
end Go.Proofs.YtgpddkajlkckjaaDoor
