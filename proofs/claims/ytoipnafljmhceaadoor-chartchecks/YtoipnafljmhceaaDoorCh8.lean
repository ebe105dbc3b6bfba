/-
  The contracts of chart.Find and of dayref1.At.
-/
import Derived.Test.YtoipnafljmhceaaDoorChM
namespace Go.Proofs.YtoipnafljmhceaaDoor
set_option linter.unusedVariables false
set_option linter.unusedSimpArgs false
set_option maxRecDepth 100000
open Go.RowKit Go.Lib

/-- What is found. -/
def findA (l : List Ac) (c : ByteArray) : Ac := if placeBad l c = 0 then l.getD (idxP (hasCode c) l).toNat ac0 else ac0

set_option maxHeartbeats 1000000 in
theorem chFind_any (a : Option Addr) (cap : Nat) (l : List Ac) (c : ByteArray) (w : World) (h : IsSl w a l cap) :
    Calls Tryd.prog 13 #[.slice a l.length cap, .string c] w fun e w' => e = .returned (.tuple #[.agg (findA l c).cells, chE (placeBad l c)]) ∧ Below w.heap.size w w' := by
  have b0 : Below w.heap.size w (w.alloc (.cells ac0.cells 30)) := (Below.refl _ w).alloc (Nat.le_refl _) _
  have HP := chPlace_any a cap l c (w.alloc (.cells ac0.cells 30)) (h.below b0)
  have hn0 := AcAt.new w ac0 30
  have hz : w.heap.size < (w.alloc (.cells ac0.cells 30)).heap.size := by simp
  by_cases h0 : placeBad l c = 0
  · obtain ⟨q1, q2⟩ := placeBad_ok h0
    obtain ⟨j, hj, ej, _, _⟩ := idxP_some q2
    have hlen := chBad_len q1
    have eA : findA l c = l.getD j ac0 := by unfold findA; rw [if_pos h0, ej]; rfl
    have eP : placeAt l c = j := by unfold placeAt; rw [if_pos h0, ej]
    rw [eP] at HP
    rw [eA, h0, chE_zero]
    rw [h0, chE_zero] at HP
    rcases h.lies with rfl | ⟨b, off, rfl, hlt, hc⟩
    · simp at hj
    have Hx : Hid (∀ W, Below w.heap.size w W → AcAt W b (off + j * 5) (l.getD j ac0)) := fun W hW => (hc j hj).below hW hlt
    clear hc h ej q1 q2 eA eP h0
    generalize l.getD j ac0 = x at *
    obtain ⟨x0, x1, x2, x3, x4⟩ := x
    have j0 : (0 : Int) ≤ j := by omega
    have j1 : (j : Int) < l.length := by omega
    simp only [Ac.cells, ac0] at HP b0 hn0 hz ⊢
    have HHP : Hid (Calls _ _ _ _ _) := HP
    clear HP
    go_enter Tryd.func13, Tryd.ntmps13
    go_wp2_with fail
    refine HHP.out.mono ?_
    rintro e w1 ⟨rfl, hb1⟩
    have B1 := b0.trans (hb1.mono (by simp))
    obtain ⟨c0, c1, c2, c3, c4⟩ := Hx.out w1 B1
    have hs1 : w.heap.size < w1.heap.size := by have := hb1.size; omega
    have hk := hb1.block w.heap.size hz
    have hk2 : w1.heap[w.heap.size]? = some (.cells #[.string ByteArray.empty, .string ByteArray.empty, .int .i64 0, .string ByteArray.empty, .bool false] 30) := hk.trans (World.alloc_heap_new w _)
    have d : ∀ i, i < 5 → ∃ v, w1.cell? ⟨w.heap.size, i, none⟩ = some v := fun i hi => by
      rcases (by omega : i = 0 ∨ i = 1 ∨ i = 2 ∨ i = 3 ∨ i = 4) with rfl | rfl | rfl | rfl | rfl <;> exact ⟨_, by simp [World.cell?, hk2]; rfl⟩
    have f : ∀ i, w1.frozen? ⟨w.heap.size, i, none⟩ = false := fun i => by simp [World.frozen?, hk2]
    obtain ⟨v0, d0⟩ := d 0 (by omega)
    obtain ⟨v1, d1⟩ := d 1 (by omega)
    obtain ⟨v2, d2⟩ := d 2 (by omega)
    obtain ⟨v3, d3⟩ := d 3 (by omega)
    obtain ⟨v4, d4⟩ := d 4 (by omega)
    have f0 := f 0
    have f1 := f 1
    have f2 := f 2
    have f3 := f 3
    have f4 := f 4
    clear hk HHP Hx hn0 d f hk2
    simp only at c0 c1 c2 c3 c4
    go_wp2
    exact bodyPost_ret (v := .tuple #[.agg #[.string x0, .string x1, .int .i64 x2, .string x3, .bool x4], .nilIface]) (by simp [results, Tryd.results13, go_sem, d0, d1, d2, d3, d4]) rfl ⟨rfl, ((((B1.setCell (p := ⟨w.heap.size, 0, none⟩) (Nat.le_refl _) _).setCell (p := ⟨w.heap.size, 1, none⟩) (Nat.le_refl _) _).setCell (p := ⟨w.heap.size, 2, none⟩) (Nat.le_refl _) _).setCell (p := ⟨w.heap.size, 3, none⟩) (Nat.le_refl _) _).setCell (p := ⟨w.heap.size, 4, none⟩) (Nat.le_refl _) _⟩
  · have eA : findA l c = ac0 := by unfold findA; rw [if_neg h0]
    have eP : placeAt l c = 0 := by unfold placeAt; rw [if_neg h0]
    rw [eP, chE_ne h0] at HP
    rw [eA, chE_ne h0]
    clear h eA eP h0
    generalize placeBad l c = bad at *
    simp only [Ac.cells, ac0] at HP b0 hn0 hz ⊢
    have HHP : Hid (Calls _ _ _ _ _) := HP
    clear HP
    go_enter Tryd.func13, Tryd.ntmps13
    go_wp2_with fail
    refine HHP.out.mono ?_
    rintro e w1 ⟨rfl, hb1⟩
    have B1 := b0.trans (hb1.mono (by simp))
    have hs1 : w.heap.size < w1.heap.size := by have := hb1.size; omega
    have hk := hb1.block w.heap.size hz
    have hk2 : w1.heap[w.heap.size]? = some (.cells #[.string ByteArray.empty, .string ByteArray.empty, .int .i64 0, .string ByteArray.empty, .bool false] 30) := hk.trans (World.alloc_heap_new w _)
    have d : ∀ i, i < 5 → ∃ v, w1.cell? ⟨w.heap.size, i, none⟩ = some v := fun i hi => by
      rcases (by omega : i = 0 ∨ i = 1 ∨ i = 2 ∨ i = 3 ∨ i = 4) with rfl | rfl | rfl | rfl | rfl <;> exact ⟨_, by simp [World.cell?, hk2]; rfl⟩
    have f : ∀ i, w1.frozen? ⟨w.heap.size, i, none⟩ = false := fun i => by simp [World.frozen?, hk2]
    obtain ⟨v0, d0⟩ := d 0 (by omega)
    obtain ⟨v1, d1⟩ := d 1 (by omega)
    obtain ⟨v2, d2⟩ := d 2 (by omega)
    obtain ⟨v3, d3⟩ := d 3 (by omega)
    obtain ⟨v4, d4⟩ := d 4 (by omega)
    have f0 := f 0
    have f1 := f 1
    have f2 := f 2
    have f3 := f 3
    have f4 := f 4
    clear hk HHP hn0 d f hk2
    go_wp2
    exact bodyPost_ret (v := .tuple #[.agg #[.string ByteArray.empty, .string ByteArray.empty, .int .i64 0, .string ByteArray.empty, .bool false], .iface 44 (.int .i64 bad)]) (by simp [results, Tryd.results13, go_sem, d0, d1, d2, d3, d4]; rfl) rfl ⟨rfl, ((((B1.setCell (p := ⟨w.heap.size, 0, none⟩) (Nat.le_refl _) _).setCell (p := ⟨w.heap.size, 1, none⟩) (Nat.le_refl _) _).setCell (p := ⟨w.heap.size, 2, none⟩) (Nat.le_refl _) _).setCell (p := ⟨w.heap.size, 3, none⟩) (Nat.le_refl _) _).setCell (p := ⟨w.heap.size, 4, none⟩) (Nat.le_refl _) _⟩

theorem refAt_none (a : Option Addr) (cap : Nat) (c : ByteArray) (w : World) :
    Calls Tryd.prog 8 #[.slice a 0 cap, .string c] w fun e w' => e = .returned (.int .i64 (-1)) ∧ w' = w := by
  go_enter Tryd.func8, Tryd.ntmps8
  go_wp2
  refine wp_loop_rounds 1 ?_
  rw [rounds_succ]
  go_wp2
  go_ret
  exact ⟨rfl, rfl⟩

set_option maxHeartbeats 1000000 in
theorem refAt_some (b off cap : Nat) (l : List Ac) (c : ByteArray) (w : World) (hlen : l.length ≤ 1000) (hc : AcsAt w b off l) :
    Calls Tryd.prog 8 #[.slice (some ⟨b, off, none⟩) l.length cap, .string c] w fun e w' => e = .returned (.int .i64 (idxP (hasCode c) l)) ∧ w' = w := by
  have Hc : Hid (AcsAt w b off l) := hc
  have Hlen : (l.length : Int) ≤ 1000 := by omega
  clear hc
  obtain ⟨res, hres⟩ : ∃ res, idxP (hasCode c) l = res := ⟨_, rfl⟩
  have Hres : Hid (idxP (hasCode c) l = res) := hres
  rw [hres]
  clear hres
  go_enter Tryd.func8, Tryd.ntmps8
  go_wp2
  go_loop [5] (fun i => ∃ k : Nat, k ≤ l.length ∧ i = .int .i64 k ∧ Hid (idxFrom (hasCode c) k (l.drop k) = res)) (fun i => l.length - (intOf i).toNat)
  case atStart => exact ⟨0, Nat.zero_le _, rfl, Hres.out⟩
  case round =>
    obtain ⟨k, hk, rfl, H⟩ := hrel
    by_cases hlt : k < l.length
    · have hn := Hc.out k hlt
      have E : Hid ((if hasCode c (l.getD k ac0) = true then (k : Int) else idxFrom (hasCode c) (k + 1) (l.drop (k + 1))) = res) := by
        have := H.out
        rw [acs_drop l k hlt] at this
        exact this
      clear H
      generalize l.getD k ac0 = x at *
      obtain ⟨x0, x1, x2, x3, x4⟩ := x
      obtain ⟨c0, c1, c2, c3, c4⟩ := hn
      simp only at c0 c1 c2 c3 c4
      have i0 : (0 : Int) ≤ k := by omega
      have i1 : (k : Int) < l.length := by omega
      by_cases hx : x0 = c
      · have er : res = k := by rw [← E.out, if_pos (by simp [hasCode, hx])]
        subst er
        subst hx
        go_wp2
        go_ret
        exact ⟨rfl, rfl⟩
      · have hx' := ch_ne hx
        have HN : Hid (idxFrom (hasCode c) (k + 1) (l.drop (k + 1)) = res) := by
          have := E.out; rw [if_neg (by simp [hasCode, hx])] at this; exact this
        go_wp2
        go_round
        case rel => exact ⟨k + 1, by omega, by go_num, HN⟩
        case measure => simp [intOf]; omega
    · have hk2 : k = l.length := by omega
      subst hk2
      have er : res = -1 := by rw [← H.out, List.drop_length]; rfl
      subst er
      go_wp2
      go_ret
      exact ⟨rfl, rfl⟩

theorem refAt_any (a : Option Addr) (cap : Nat) (l : List Ac) (c : ByteArray) (w : World) (hlen : l.length ≤ 1000) (h : IsSl w a l cap) :
    Calls Tryd.prog 8 #[.slice a l.length cap, .string c] w fun e w' => e = .returned (.int .i64 (idxP (hasCode c) l)) ∧ w' = w := by
  rcases h.lies with rfl | ⟨b, off, rfl, hlt, hc⟩
  · exact refAt_none a cap c w
  · exact refAt_some b off cap l c w hlen hc
end Go.Proofs.YtoipnafljmhceaaDoor
