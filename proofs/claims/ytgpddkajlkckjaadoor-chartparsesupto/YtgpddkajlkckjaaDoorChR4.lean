/-
  The contract of chart.readNext.
-/
import Derived.Test.YtgpddkajlkckjaaDoorChR3
namespace Go.Proofs.YtgpddkajlkckjaaDoor
set_option linter.unusedVariables false
set_option linter.unusedSimpArgs false
set_option maxRecDepth 100000
open Go.RowKit

/-- What is wrong with a line that follows others: 0 is nothing. -/
def lineBad (pre : List Ac) (s : ByteArray) : Int :=
  match readS s with
  | none => 2
  | some x => if 60 ≤ pre.length then 4 else nextBad pre x
/-- The account of the line. -/
def lineAc (pre : List Ac) (s : ByteArray) : Ac := if lineBad pre s = 0 then (readS s).getD ac0 else ac0

set_option maxHeartbeats 8000000 in
theorem readNext_any (a : Option Addr) (cap : Nat) (pre : List Ac) (s : ByteArray) (w : World) (hs : s.size < 4294967281) (hg : MaxL w) (hlen : pre.length ≤ 60) (h : IsSl w a pre cap) :
    Calls Tryd.prog 14 #[.slice a pre.length cap, .string s] w fun e w' => e = .returned (.tuple #[.agg (lineAc pre s).cells, chE (lineBad pre s)]) ∧ Below w.heap.size w w' := by
  have b0 : Below w.heap.size w (w.alloc (.cells ac0.cells 33)) := (Below.refl _ w).alloc (Nat.le_refl _) _
  have hsz : (w.alloc (.cells ac0.cells 33)).heap.size = w.heap.size + 1 := by simp
  have hblk : (w.alloc (.cells ac0.cells 33)).heap[w.heap.size]? = some (.cells ac0.cells 33) := World.alloc_heap_new w _
  have HR := read_any s (w.alloc (.cells ac0.cells 33)) hs (hg.below b0 (Nat.le_refl _))
  have HN : Hid (∀ (x : Ac) (W : World), Below w.heap.size w W → Calls Tryd.prog 24 #[.slice a pre.length cap, .agg x.cells] W fun e w' => e = .returned (chE (nextBad pre x)) ∧ Below W.heap.size W w') := fun x W hW => checkNext_any a cap pre x W (by omega) (h.below hW)
  unfold ReadEnd at HR
  rw [hsz] at HR
  have Hblk : Hid (_ = _) := hblk
  have hfin : ∀ w2 : World, Below (w.heap.size + 1) (w.alloc (.cells ac0.cells 33)) w2 → w2.heap[w.heap.size]? = some (.cells ac0.cells 33) := fun w2 hb => (hb.block w.heap.size (Nat.lt_succ_self _)).trans Hblk.out
  clear hblk Hblk hg h
  unfold lineAc lineBad
  generalize readS s = rs at *
  simp only [Ac.cells, ac0] at b0 hsz hfin HR
  have HHR : Hid (Calls _ _ _ _ _) := HR
  have Hfin : Hid (∀ w2 : World, _) := hfin
  clear HR hfin
  cases rs with
  | none =>
    simp only [Option.getD_none, Option.isSome_none] at HHR
    go_enter Tryd.func14, Tryd.ntmps14
    go_wp2_with fail
    refine HHR.out.mono ?_
    rintro e w1 ⟨rfl, hb1⟩
    have hk1 := Hfin.out w1 hb1
    have B := b0.trans (hb1.mono (Nat.le_succ _))
    have hs1 := hb1.size
    rw [hsz] at hs1
    clear HHR Hfin HN hb1
    have b1 : Below (w.heap.size + 1) w1 (w1.alloc (.cells #[.string ByteArray.empty, .string ByteArray.empty, .int .i64 0, .string ByteArray.empty, .bool false] 33)) := (Below.refl _ w1).alloc hs1 _
    have hk2 := (b1.block w.heap.size (Nat.lt_succ_self _)).trans hk1
    have B1 := B.trans (b1.mono (Nat.le_succ _))
    have d : ∀ i, i < 5 → ∃ v, (w1.alloc (.cells #[.string ByteArray.empty, .string ByteArray.empty, .int .i64 0, .string ByteArray.empty, .bool false] 33)).cell? ⟨w.heap.size, i, none⟩ = some v := fun i hi => by
      rcases (by omega : i = 0 ∨ i = 1 ∨ i = 2 ∨ i = 3 ∨ i = 4) with rfl | rfl | rfl | rfl | rfl <;> exact ⟨_, by simp [World.cell?, hk2]; rfl⟩
    have f : ∀ i, (w1.alloc (.cells #[.string ByteArray.empty, .string ByteArray.empty, .int .i64 0, .string ByteArray.empty, .bool false] 33)).frozen? ⟨w.heap.size, i, none⟩ = false := fun i => by simp [World.frozen?, hk2]
    obtain ⟨v0, d0⟩ := d 0 (by omega)
    obtain ⟨v1, d1⟩ := d 1 (by omega)
    obtain ⟨v2, d2⟩ := d 2 (by omega)
    obtain ⟨v3, d3⟩ := d 3 (by omega)
    obtain ⟨v4, d4⟩ := d 4 (by omega)
    have f0 := f 0
    have f1 := f 1
    have f2 := f 2
    have f3 := f 3
    have f4 := f 4
    clear d f hk2 hk1 b1
    go_wp2
    exact bodyPost_ret (v := .tuple #[.agg #[.string ByteArray.empty, .string ByteArray.empty, .int .i64 0, .string ByteArray.empty, .bool false], chE 2]) (by simp [results, Tryd.results14, go_sem, d0, d1, d2, d3, d4, f0, f1, f2, f3, f4]; first | done | rfl | exact ⟨rfl, rfl⟩) rfl ⟨rfl, (((((B1.setCell (p := ⟨w.heap.size, 0, none⟩) (Nat.le_refl _) _).setCell (p := ⟨w.heap.size, 1, none⟩) (Nat.le_refl _) _).setCell (p := ⟨w.heap.size, 2, none⟩) (Nat.le_refl _) _).setCell (p := ⟨w.heap.size, 3, none⟩) (Nat.le_refl _) _).setCell (p := ⟨w.heap.size, 4, none⟩) (Nat.le_refl _) _)⟩
  | some x =>
    simp only [Option.getD_some, Option.isSome_some] at HHR ⊢
    have HX := HN.out x
    generalize nextBad pre x = bad at *
    obtain ⟨x0, x1, x2, x3, x4⟩ := x
    simp only [Ac.cells] at HHR HX
    have HHX : Hid (∀ W : World, _) := HX
    clear HX HN
    by_cases h60 : 60 ≤ pre.length
    · have hi : (60 : Int) ≤ pre.length := by omega
      rw [if_pos h60]
      go_enter Tryd.func14, Tryd.ntmps14
      go_wp2_with fail
      refine HHR.out.mono ?_
      rintro e w1 ⟨rfl, hb1⟩
      have hk1 := Hfin.out w1 hb1
      have B := b0.trans (hb1.mono (Nat.le_succ _))
      have hs1 := hb1.size
      rw [hsz] at hs1
      clear HHR Hfin HHX hb1
      have b1 : Below (w.heap.size + 1) w1 (w1.alloc (.cells #[.string x0, .string x1, .int .i64 x2, .string x3, .bool x4] 33)) := (Below.refl _ w1).alloc hs1 _
      have hk2 := (b1.block w.heap.size (Nat.lt_succ_self _)).trans hk1
      have B1 := B.trans (b1.mono (Nat.le_succ _))
      clear b1 hk1
      have d : ∀ i, i < 5 → ∃ v, (w1.alloc (.cells #[.string x0, .string x1, .int .i64 x2, .string x3, .bool x4] 33)).cell? ⟨w.heap.size, i, none⟩ = some v := fun i hi => by
        rcases (by omega : i = 0 ∨ i = 1 ∨ i = 2 ∨ i = 3 ∨ i = 4) with rfl | rfl | rfl | rfl | rfl <;> exact ⟨_, by simp [World.cell?, hk2]; rfl⟩
      have f : ∀ i, (w1.alloc (.cells #[.string x0, .string x1, .int .i64 x2, .string x3, .bool x4] 33)).frozen? ⟨w.heap.size, i, none⟩ = false := fun i => by simp [World.frozen?, hk2]
      obtain ⟨v0, d0⟩ := d 0 (by omega)
      obtain ⟨v1, d1⟩ := d 1 (by omega)
      obtain ⟨v2, d2⟩ := d 2 (by omega)
      obtain ⟨v3, d3⟩ := d 3 (by omega)
      obtain ⟨v4, d4⟩ := d 4 (by omega)
      have f0 := f 0
      have f1 := f 1
      have f2 := f 2
      have f3 := f 3
      have f4 := f 4
      clear d f hk2
      go_wp2
      exact bodyPost_ret (v := .tuple #[.agg #[.string ByteArray.empty, .string ByteArray.empty, .int .i64 0, .string ByteArray.empty, .bool false], chE 4]) (by simp [results, Tryd.results14, go_sem, d0, d1, d2, d3, d4, f0, f1, f2, f3, f4]; first | done | rfl | exact ⟨rfl, rfl⟩) rfl ⟨rfl, (((((B1.setCell (p := ⟨w.heap.size, 0, none⟩) (Nat.le_refl _) _).setCell (p := ⟨w.heap.size, 1, none⟩) (Nat.le_refl _) _).setCell (p := ⟨w.heap.size, 2, none⟩) (Nat.le_refl _) _).setCell (p := ⟨w.heap.size, 3, none⟩) (Nat.le_refl _) _).setCell (p := ⟨w.heap.size, 4, none⟩) (Nat.le_refl _) _)⟩
    · have hi : ¬ (60 : Int) ≤ pre.length := by omega
      rw [if_neg h60]
      by_cases hb0 : bad = 0
      · subst hb0
        rw [if_pos rfl]
        simp only [chE_zero] at HHX ⊢
        go_enter Tryd.func14, Tryd.ntmps14
        go_wp2_with fail
        refine HHR.out.mono ?_
        rintro e w1 ⟨rfl, hb1⟩
        have hk1 := Hfin.out w1 hb1
        have B := b0.trans (hb1.mono (Nat.le_succ _))
        have hs1 := hb1.size
        rw [hsz] at hs1
        clear HHR Hfin hb1
        have hsz2 : (w1.alloc (.cells #[.string x0, .string x1, .int .i64 x2, .string x3, .bool x4] 33)).heap.size = w1.heap.size + 1 := by simp
        have hn := World.alloc_heap_new w1 (.cells #[.string x0, .string x1, .int .i64 x2, .string x3, .bool x4] 33)
        have b1 : Below (w.heap.size + 1) w1 (w1.alloc (.cells #[.string x0, .string x1, .int .i64 x2, .string x3, .bool x4] 33)) := (Below.refl _ w1).alloc hs1 _
        have hk2 := (b1.block w.heap.size (Nat.lt_succ_self _)).trans hk1
        have B2 := B.trans (b1.mono (Nat.le_succ _))
        clear b1 hk1
        go_wp2_with fail
        refine (HHX.out _ B2).mono ?_
        rintro e w2 ⟨rfl, hb2⟩
        rw [hsz2] at hb2
        have hk3 := (hb2.block w.heap.size (by omega)).trans hk2
        have hn3 := (hb2.block w1.heap.size (by omega)).trans hn
        have B1 := B2.trans (hb2.mono (by omega))
        clear hk2 hn hb2 HHX
        have c0 : w2.cell? ⟨w1.heap.size, 0, none⟩ = some (.string x0) := by simp [World.cell?, hn3]
        have c1 : w2.cell? ⟨w1.heap.size, 1, none⟩ = some (.string x1) := by simp [World.cell?, hn3]
        have c2 : w2.cell? ⟨w1.heap.size, 2, none⟩ = some (.int .i64 x2) := by simp [World.cell?, hn3]
        have c3 : w2.cell? ⟨w1.heap.size, 3, none⟩ = some (.string x3) := by simp [World.cell?, hn3]
        have c4 : w2.cell? ⟨w1.heap.size, 4, none⟩ = some (.bool x4) := by simp [World.cell?, hn3]
        clear hn3
        have d : ∀ i, i < 5 → ∃ v, (w2).cell? ⟨w.heap.size, i, none⟩ = some v := fun i hi => by
          rcases (by omega : i = 0 ∨ i = 1 ∨ i = 2 ∨ i = 3 ∨ i = 4) with rfl | rfl | rfl | rfl | rfl <;> exact ⟨_, by simp [World.cell?, hk3]; rfl⟩
        have f : ∀ i, (w2).frozen? ⟨w.heap.size, i, none⟩ = false := fun i => by simp [World.frozen?, hk3]
        obtain ⟨v0, d0⟩ := d 0 (by omega)
        obtain ⟨v1, d1⟩ := d 1 (by omega)
        obtain ⟨v2, d2⟩ := d 2 (by omega)
        obtain ⟨v3, d3⟩ := d 3 (by omega)
        obtain ⟨v4, d4⟩ := d 4 (by omega)
        have f0 := f 0
        have f1 := f 1
        have f2 := f 2
        have f3 := f 3
        have f4 := f 4
        clear d f hk3
        go_wp2
        exact bodyPost_ret (v := .tuple #[.agg #[.string x0, .string x1, .int .i64 x2, .string x3, .bool x4], .nilIface]) (by simp [results, Tryd.results14, go_sem, d0, d1, d2, d3, d4, f0, f1, f2, f3, f4]; first | done | rfl | exact ⟨rfl, rfl⟩) rfl ⟨rfl, (((((B1.setCell (p := ⟨w.heap.size, 0, none⟩) (Nat.le_refl _) _).setCell (p := ⟨w.heap.size, 1, none⟩) (Nat.le_refl _) _).setCell (p := ⟨w.heap.size, 2, none⟩) (Nat.le_refl _) _).setCell (p := ⟨w.heap.size, 3, none⟩) (Nat.le_refl _) _).setCell (p := ⟨w.heap.size, 4, none⟩) (Nat.le_refl _) _)⟩
      · rw [if_neg hb0]
        have hE := chE_ne hb0
        rw [hE] at HHX ⊢
        clear hE
        go_enter Tryd.func14, Tryd.ntmps14
        go_wp2_with fail
        refine HHR.out.mono ?_
        rintro e w1 ⟨rfl, hb1⟩
        have hk1 := Hfin.out w1 hb1
        have B := b0.trans (hb1.mono (Nat.le_succ _))
        have hs1 := hb1.size
        rw [hsz] at hs1
        clear HHR Hfin hb1
        have hsz2 : (w1.alloc (.cells #[.string x0, .string x1, .int .i64 x2, .string x3, .bool x4] 33)).heap.size = w1.heap.size + 1 := by simp
        have hn := World.alloc_heap_new w1 (.cells #[.string x0, .string x1, .int .i64 x2, .string x3, .bool x4] 33)
        have b1 : Below (w.heap.size + 1) w1 (w1.alloc (.cells #[.string x0, .string x1, .int .i64 x2, .string x3, .bool x4] 33)) := (Below.refl _ w1).alloc hs1 _
        have hk2 := (b1.block w.heap.size (Nat.lt_succ_self _)).trans hk1
        have B2 := B.trans (b1.mono (Nat.le_succ _))
        clear b1 hk1
        go_wp2_with fail
        refine (HHX.out _ B2).mono ?_
        rintro e w2 ⟨rfl, hb2⟩
        rw [hsz2] at hb2
        have hk3 := (hb2.block w.heap.size (by omega)).trans hk2
        have hn3 := (hb2.block w1.heap.size (by omega)).trans hn
        have B1 := B2.trans (hb2.mono (by omega))
        clear hk2 hn hb2 HHX
        have c0 : w2.cell? ⟨w1.heap.size, 0, none⟩ = some (.string x0) := by simp [World.cell?, hn3]
        have c1 : w2.cell? ⟨w1.heap.size, 1, none⟩ = some (.string x1) := by simp [World.cell?, hn3]
        have c2 : w2.cell? ⟨w1.heap.size, 2, none⟩ = some (.int .i64 x2) := by simp [World.cell?, hn3]
        have c3 : w2.cell? ⟨w1.heap.size, 3, none⟩ = some (.string x3) := by simp [World.cell?, hn3]
        have c4 : w2.cell? ⟨w1.heap.size, 4, none⟩ = some (.bool x4) := by simp [World.cell?, hn3]
        clear hn3
        have d : ∀ i, i < 5 → ∃ v, (w2).cell? ⟨w.heap.size, i, none⟩ = some v := fun i hi => by
          rcases (by omega : i = 0 ∨ i = 1 ∨ i = 2 ∨ i = 3 ∨ i = 4) with rfl | rfl | rfl | rfl | rfl <;> exact ⟨_, by simp [World.cell?, hk3]; rfl⟩
        have f : ∀ i, (w2).frozen? ⟨w.heap.size, i, none⟩ = false := fun i => by simp [World.frozen?, hk3]
        obtain ⟨v0, d0⟩ := d 0 (by omega)
        obtain ⟨v1, d1⟩ := d 1 (by omega)
        obtain ⟨v2, d2⟩ := d 2 (by omega)
        obtain ⟨v3, d3⟩ := d 3 (by omega)
        obtain ⟨v4, d4⟩ := d 4 (by omega)
        have f0 := f 0
        have f1 := f 1
        have f2 := f 2
        have f3 := f 3
        have f4 := f 4
        clear d f hk3
        go_wp2
        exact bodyPost_ret (v := .tuple #[.agg #[.string ByteArray.empty, .string ByteArray.empty, .int .i64 0, .string ByteArray.empty, .bool false], .iface 46 (.int .i64 bad)]) (by simp [results, Tryd.results14, go_sem, d0, d1, d2, d3, d4, f0, f1, f2, f3, f4]; first | done | rfl | exact ⟨rfl, rfl⟩) rfl ⟨rfl, (((((B1.setCell (p := ⟨w.heap.size, 0, none⟩) (Nat.le_refl _) _).setCell (p := ⟨w.heap.size, 1, none⟩) (Nat.le_refl _) _).setCell (p := ⟨w.heap.size, 2, none⟩) (Nat.le_refl _) _).setCell (p := ⟨w.heap.size, 3, none⟩) (Nat.le_refl _) _).setCell (p := ⟨w.heap.size, 4, none⟩) (Nat.le_refl _) _)⟩
end Go.Proofs.YtgpddkajlkckjaaDoor
