/-
  The contract of chart.read at a line of five words.
-/
import Derived.Test.YtgpddkajlkckjaaDoorChR2
namespace Go.Proofs.YtgpddkajlkckjaaDoor
set_option linter.unusedVariables false
set_option linter.unusedSimpArgs false
set_option maxRecDepth 100000
open Go.RowKit

theorem not_one {s : ByteArray} {c : UInt8} (h : s ≠ ⟨#[c]⟩) : ¬ s.toList = [c] := fun e => h (text_eq e)

set_option maxHeartbeats 8000000 in
theorem read_five (s a b c d e : ByteArray) (w : World) (hs : s.size < 4294967281) (hg : MaxL w) (h : Lib.hasSuffix s.data.toList [10] = true) (hw : wordsOf s = [a, b, c, d, e]) :
    Calls Tryd.prog 23 #[.string s] w (ReadEnd s w) := by
  have er : readS s = ofWords a b c d e := by
    unfold readS
    rw [if_pos h, hw]
  have HC := cut_at s (w.alloc (.cells ac0.cells 33)) hs
  have b0 : Below w.heap.size w (w.alloc (.cells ac0.cells 33)) := (Below.refl _ w).alloc (Nat.le_refl _) _
  have HS := splitN_at s (w.alloc (.cells ac0.cells 33)) hs (hg.below b0 (Nat.le_refl _))
  have hsz : (w.alloc (.cells ac0.cells 33)).heap.size = w.heap.size + 1 := by simp
  have hblk : (w.alloc (.cells ac0.cells 33)).heap[w.heap.size]? = some (.cells ac0.cells 33) := World.alloc_heap_new w _
  have HM : Hid (∀ W, Below w.heap.size w W → MaxL W) := fun W hW => hg.below hW (Nat.le_refl _)
  rw [h] at HC
  rw [hw] at HS
  unfold ReadEnd
  rw [er]
  simp only [Ac.cells, ac0] at HC HS b0 hsz hblk
  rw [hsz] at HS
  generalize cutNl s = cn at *
  have HHC : Hid (Calls _ _ _ _ _) := HC
  have HHS : Hid (Calls _ _ _ _ _) := HS
  have Hblk : Hid (_ = _) := hblk
  have fin : ∀ w2 : World, Below (w.heap.size + 1) (w.alloc (.cells #[.string ByteArray.empty, .string ByteArray.empty, .int .i64 0, .string ByteArray.empty, .bool false] 33)) w2 → w2.heap[w.heap.size]? = some (.cells #[.string ByteArray.empty, .string ByteArray.empty, .int .i64 0, .string ByteArray.empty, .bool false] 33) := fun w2 hb => (hb.block w.heap.size (Nat.lt_succ_self _)).trans Hblk.out
  have Hfin : Hid (∀ w2 : World, _) := fin
  clear HC HS hg er fin Hblk hblk h hw
  obtain ⟨ok, hok⟩ : ∃ ok, (decide (e = ⟨#[45]⟩) || isCodeB e) = ok := ⟨_, rfl⟩
  have HP := readParent_any e
  rw [hok] at HP
  obtain ⟨pe, hpe⟩ : ∃ pe, (if e = ⟨#[45]⟩ then (⟨#[]⟩ : ByteArray) else e) = pe := ⟨_, rfl⟩
  rw [hpe] at HP
  have HK := readKind_any c
  obtain ⟨res, hres⟩ : ∃ res, ofWords a b c d e = res := ⟨_, rfl⟩
  have Hres : Hid ((if kindOf c ≠ 0 ∧ (d = ⟨#[109]⟩ ∨ d = ⟨#[45]⟩) ∧ ok = true then some (⟨a, b, kindOf c, pe, decide (d = ⟨#[109]⟩)⟩ : Ac) else none) = res) := by
    unfold Hid
    rw [← hok, ← hpe]
    exact hres
  rw [hres]
  clear hres hok hpe
  generalize kindOf c = kc at *
  have HHP : Hid (∀ W, _) := HP
  have HHK : Hid (∀ W, _) := HK
  clear HP HK
  go_enter Tryd.func23, Tryd.ntmps23
  go_wp2_with fail
  refine HHC.out.mono ?_
  rintro e w1 ⟨rfl, hw⟩
  rw [hw]; clear hw w1
  go_wp2_with fail
  refine HHS.out.mono ?_
  rintro e w2 ⟨rfl, hb2, hs2, hcell⟩
  have hk2 := Hfin.out w2 hb2
  have B2 := b0.trans (hb2.mono (Nat.le_succ _))
  have c0 := hcell 0 (by simp)
  have c1 := hcell 1 (by simp)
  have c2 := hcell 2 (by simp)
  have c3 := hcell 3 (by simp)
  have c4 := hcell 4 (by simp)
  simp only [List.getD_cons_zero, List.getD_cons_succ] at c0 c1 c2 c3 c4
  have hN : w.heap.size + 1 < w2.heap.size := by have := hb2.size; omega
  clear hcell HHC HHS Hfin hb2
  go_wp2_with fail
  refine (HHK.out w2 (HM.out w2 B2)).mono ?_
  rintro e w3 ⟨rfl, hw⟩
  rw [hw]; clear hw w3 HHK HM
  go_wp2_with fail
  refine (HHP.out w2).mono ?_
  rintro e w3 ⟨rfl, hb3⟩
  have hk3 : w3.heap[w.heap.size]? = _ := (hb3.block w.heap.size (by omega)).trans hk2
  have B3 := B2.trans (hb3.mono B2.size)
  have C : ∀ k v, w2.cell? ⟨w.heap.size + 1, k, none⟩ = some v → w3.cell? ⟨w.heap.size + 1, k, none⟩ = some v := fun k v hv => (hb3.cell (p := ⟨w.heap.size + 1, k, none⟩) (by simp only; omega)).trans hv
  have c0 := C 0 _ c0
  have c1 := C 1 _ c1
  have c2 := C 2 _ c2
  have c3 := C 3 _ c3
  have c4 := C 4 _ c4
  clear C hb3 hk2 HHP
  have d : ∀ i, i < 5 → ∃ v, w3.cell? ⟨w.heap.size, i, none⟩ = some v := fun i hi => by
    rcases (by omega : i = 0 ∨ i = 1 ∨ i = 2 ∨ i = 3 ∨ i = 4) with rfl | rfl | rfl | rfl | rfl <;> exact ⟨_, by simp [World.cell?, hk3]; rfl⟩
  have f : ∀ i, w3.frozen? ⟨w.heap.size, i, none⟩ = false := fun i => by simp [World.frozen?, hk3]
  obtain ⟨v0, d0⟩ := d 0 (by omega)
  obtain ⟨v1, d1⟩ := d 1 (by omega)
  obtain ⟨v2, d2⟩ := d 2 (by omega)
  obtain ⟨v3, d3⟩ := d 3 (by omega)
  obtain ⟨v4, d4⟩ := d 4 (by omega)
  have f0 := f 0
  have f1 := f 1
  have f2 := f 2
  have f3 := f 3
  have f4 := f 4
  clear d f hk3
  by_cases hk : kc = 0
  · have hk' : (kc != 0) = false := by simp [hk]
    have hr : res = none := by have h := Hres.out; rw [← h]; simp [hk]
    clear Hres
    subst hr
    go_wp2
    exact bodyPost_ret (v := .tuple #[.agg #[.string ByteArray.empty, .string ByteArray.empty, .int .i64 0, .string ByteArray.empty, .bool false], .bool false]) (by simp [results, Tryd.results23, go_sem, d0, d1, d2, d3, d4, f0, f1, f2, f3, f4]; rfl) rfl ⟨rfl, ((((B3.setCell (p := ⟨w.heap.size, 0, none⟩) (Nat.le_refl _) _).setCell (p := ⟨w.heap.size, 1, none⟩) (Nat.le_refl _) _).setCell (p := ⟨w.heap.size, 2, none⟩) (Nat.le_refl _) _).setCell (p := ⟨w.heap.size, 3, none⟩) (Nat.le_refl _) _).setCell (p := ⟨w.heap.size, 4, none⟩) (Nat.le_refl _) _⟩
  · have hk' : (kc != 0) = true := by simp [hk]
    cases ok
    · have hr : res = none := by have h := Hres.out; rw [← h]; simp
      clear Hres
      subst hr
      by_cases hm : d = ⟨#[109]⟩
      · subst hm
        go_wp2
        exact bodyPost_ret (v := .tuple #[.agg #[.string ByteArray.empty, .string ByteArray.empty, .int .i64 0, .string ByteArray.empty, .bool false], .bool false]) (by simp [results, Tryd.results23, go_sem, d0, d1, d2, d3, d4, f0, f1, f2, f3, f4]; rfl) rfl ⟨rfl, ((((B3.setCell (p := ⟨w.heap.size, 0, none⟩) (Nat.le_refl _) _).setCell (p := ⟨w.heap.size, 1, none⟩) (Nat.le_refl _) _).setCell (p := ⟨w.heap.size, 2, none⟩) (Nat.le_refl _) _).setCell (p := ⟨w.heap.size, 3, none⟩) (Nat.le_refl _) _).setCell (p := ⟨w.heap.size, 4, none⟩) (Nat.le_refl _) _⟩
      · have hm' := not_one hm
        by_cases hn : d = ⟨#[45]⟩
        · subst hn
          go_wp2
          exact bodyPost_ret (v := .tuple #[.agg #[.string ByteArray.empty, .string ByteArray.empty, .int .i64 0, .string ByteArray.empty, .bool false], .bool false]) (by simp [results, Tryd.results23, go_sem, d0, d1, d2, d3, d4, f0, f1, f2, f3, f4]; rfl) rfl ⟨rfl, ((((B3.setCell (p := ⟨w.heap.size, 0, none⟩) (Nat.le_refl _) _).setCell (p := ⟨w.heap.size, 1, none⟩) (Nat.le_refl _) _).setCell (p := ⟨w.heap.size, 2, none⟩) (Nat.le_refl _) _).setCell (p := ⟨w.heap.size, 3, none⟩) (Nat.le_refl _) _).setCell (p := ⟨w.heap.size, 4, none⟩) (Nat.le_refl _) _⟩
        · have hn' := not_one hn
          go_wp2
          exact bodyPost_ret (v := .tuple #[.agg #[.string ByteArray.empty, .string ByteArray.empty, .int .i64 0, .string ByteArray.empty, .bool false], .bool false]) (by simp [results, Tryd.results23, go_sem, d0, d1, d2, d3, d4, f0, f1, f2, f3, f4]; rfl) rfl ⟨rfl, ((((B3.setCell (p := ⟨w.heap.size, 0, none⟩) (Nat.le_refl _) _).setCell (p := ⟨w.heap.size, 1, none⟩) (Nat.le_refl _) _).setCell (p := ⟨w.heap.size, 2, none⟩) (Nat.le_refl _) _).setCell (p := ⟨w.heap.size, 3, none⟩) (Nat.le_refl _) _).setCell (p := ⟨w.heap.size, 4, none⟩) (Nat.le_refl _) _⟩
    · by_cases hm : d = ⟨#[109]⟩
      · subst hm
        have hr : res = some ⟨a, b, kc, pe, true⟩ := by have h := Hres.out; rw [← h]; simp [hk]
        clear Hres
        subst hr
        go_wp2
        go_region
        go_wp2
        exact bodyPost_ret (v := .tuple #[.agg #[.string a, .string b, .int .i64 kc, .string pe, .bool true], .bool true]) (by simp [results, Tryd.results23, go_sem, d0, d1, d2, d3, d4, f0, f1, f2, f3, f4]) rfl ⟨rfl, (((((B3.setCell (p := ⟨w.heap.size, 0, none⟩) (Nat.le_refl _) _).setCell (p := ⟨w.heap.size, 1, none⟩) (Nat.le_refl _) _).setCell (p := ⟨w.heap.size, 2, none⟩) (Nat.le_refl _) _).setCell (p := ⟨w.heap.size, 3, none⟩) (Nat.le_refl _) _).setCell (p := ⟨w.heap.size, 4, none⟩) (Nat.le_refl _) _).drew⟩
      · have hm' := not_one hm
        by_cases hn : d = ⟨#[45]⟩
        · subst hn
          have hr : res = some ⟨a, b, kc, pe, false⟩ := by have h := Hres.out; rw [← h]; simp [hk]
          clear Hres
          subst hr
          go_wp2
          go_region
          go_wp2
          exact bodyPost_ret (v := .tuple #[.agg #[.string a, .string b, .int .i64 kc, .string pe, .bool false], .bool true]) (by simp [results, Tryd.results23, go_sem, d0, d1, d2, d3, d4, f0, f1, f2, f3, f4]) rfl ⟨rfl, (((((B3.setCell (p := ⟨w.heap.size, 0, none⟩) (Nat.le_refl _) _).setCell (p := ⟨w.heap.size, 1, none⟩) (Nat.le_refl _) _).setCell (p := ⟨w.heap.size, 2, none⟩) (Nat.le_refl _) _).setCell (p := ⟨w.heap.size, 3, none⟩) (Nat.le_refl _) _).setCell (p := ⟨w.heap.size, 4, none⟩) (Nat.le_refl _) _).drew⟩
        · have hn' := not_one hn
          have hr : res = none := by have h := Hres.out; rw [← h]; simp [hm, hn]
          clear Hres
          subst hr
          go_wp2
          exact bodyPost_ret (v := .tuple #[.agg #[.string ByteArray.empty, .string ByteArray.empty, .int .i64 0, .string ByteArray.empty, .bool false], .bool false]) (by simp [results, Tryd.results23, go_sem, d0, d1, d2, d3, d4, f0, f1, f2, f3, f4]; rfl) rfl ⟨rfl, ((((B3.setCell (p := ⟨w.heap.size, 0, none⟩) (Nat.le_refl _) _).setCell (p := ⟨w.heap.size, 1, none⟩) (Nat.le_refl _) _).setCell (p := ⟨w.heap.size, 2, none⟩) (Nat.le_refl _) _).setCell (p := ⟨w.heap.size, 3, none⟩) (Nat.le_refl _) _).setCell (p := ⟨w.heap.size, 4, none⟩) (Nat.le_refl _) _⟩

/-- chart.read at every line. -/
theorem read_any (s : ByteArray) (w : World) (hs : s.size < 4294967281) (hg : MaxL w) : Calls Tryd.prog 23 #[.string s] w (ReadEnd s w) := by
  by_cases h : Lib.hasSuffix s.data.toList [10] = true ∧ (wordsOf s).length = 5
  · obtain ⟨h1, h2⟩ := h
    match hw : wordsOf s, h2 with
    | [a, b, c, d, e], _ => exact read_five s a b c d e w hs hg h1 hw
  · exact read_few s w hs hg h
end Go.Proofs.YtgpddkajlkckjaaDoor
