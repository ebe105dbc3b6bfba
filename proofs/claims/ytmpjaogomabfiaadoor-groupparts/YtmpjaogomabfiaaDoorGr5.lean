/-
  What is wrong with one holding behind others: the contract of group.checkNext.
-/
import Derived.Test.YtmpjaogomabfiaaDoorGr3
import Derived.Test.YtmpjaogomabfiaaDoorIs
import Derived.Deep.Cut
namespace Go.Proofs.YtmpjaogomabfiaaDoor
set_option linter.unusedVariables false
set_option linter.unusedSimpArgs false
set_option maxRecDepth 100000
open Go.RowKit Go.Lib

/-- An error by its number. -/
def grE (n : Int) : Value := if n = 0 then .nilIface else .iface 35 (.int .i64 n)
theorem grE_zero : grE 0 = .nilIface := rfl
theorem grE_ne {n : Int} (h : n ≠ 0) : grE n = .iface 35 (.int .i64 n) := if_neg h
/-- Are both of the same two? -/
def hSame (x y : Ho) : Bool := decide (y.en = x.en) && decide (y.of_ = x.of_)
/-- What is wrong with a holding behind others. -/
def nxBad (l : List Ho) (x : Ho) : Int :=
  if upTo x.en 12 = false then 1 else if upTo x.of_ 12 = false then 1 else if x.pt < 1 then 1 else if 1000 < x.pt then 1 else
  if x.en = x.of_ then 8 else if l.any (hSame x) then 8 else 0
theorem nxBad_ok {l : List Ho} {x : Ho} : nxBad l x = 0 ↔ (1 ≤ x.en ∧ x.en ≤ 12) ∧ (1 ≤ x.of_ ∧ x.of_ ≤ 12) ∧ (1 ≤ x.pt ∧ x.pt ≤ 1000) ∧ x.en ≠ x.of_ ∧ l.any (hSame x) = false := by
  unfold nxBad
  rw [← upTo_iff, ← upTo_iff]
  constructor
  · intro h
    split at h
    · omega
    · rename_i h1
      split at h
      · omega
      · rename_i h2
        split at h
        · omega
        · split at h
          · omega
          · split at h
            · omega
            · rename_i h5
              split at h
              · omega
              · rename_i h6
                exact ⟨by simpa using h1, by simpa using h2, by omega, h5, by simpa using h6⟩
  · rintro ⟨h1, h2, h3, h4, h5⟩
    rw [if_neg (by simp [h1]), if_neg (by simp [h2]), if_neg (by omega), if_neg (by omega), if_neg h4, if_neg (by simp [h5])]

theorem same_tells (x : Ho) (bx : Nat) (l : List Ho) : HTells 19 (.pointer (some ⟨bx, 0, none⟩)) (hSame x) l (fun W => HoAt W bx 0 x ∧ bx < W.heap.size) := by
  refine ⟨fun args W => rfl, fun y W hy hT => ?_, fun W W' hT hb => ⟨hT.1.below hb hT.2, Nat.lt_of_lt_of_le hT.2 hb.size⟩⟩
  obtain ⟨⟨c0, c1, c2⟩, hlt⟩ := hT
  have hW : (W.alloc (.cells y.cells 38)).heap.size = W.heap.size + 1 := by simp
  have hb := (Below.refl W.heap.size W).alloc (Nat.le_refl _) (.cells y.cells 38)
  have d0 := (hb.cell (p := ⟨bx, 0, none⟩) hlt).trans c0
  have d1 := (hb.cell (p := ⟨bx, 0 + 1, none⟩) hlt).trans c1
  obtain ⟨x0, x1, x2⟩ := x
  obtain ⟨y0, y1, y2⟩ := y
  simp only [Ho.cells, Nat.zero_add] at d0 d1 hb ⊢
  unfold hSame
  by_cases e0 : y0 = x0
  · have : (decide (y0 = x0) && decide (y1 = x1)) = decide (y1 = x1) := by simp [e0]
    simp only [this]
    subst e0
    by_cases e1 : y1 = x1
    · subst e1
      simp only [decide_true]
      go_enter Tryd.func19, Tryd.ntmps19
      go_wp2
      go_ret
      exact ⟨rfl, hb⟩
    · have e1' : decide (y1 = x1) = false := by simp [e1]
      simp only [e1']
      have e2 : (y1 == x1) = false := beq_eq_false_iff_ne.2 e1
      go_enter Tryd.func19, Tryd.ntmps19
      go_wp2
      go_ret
      exact ⟨by simp [e2], hb⟩
  · have : (decide (y0 = x0) && decide (y1 = x1)) = false := by simp [e0]
    simp only [this]
    go_enter Tryd.func19, Tryd.ntmps19
    go_wp2
    go_ret
    exact ⟨rfl, hb⟩

set_option maxHeartbeats 4000000 in
theorem checkNext_any (a : Option Addr) (cap : Nat) (l : List Ho) (x : Ho) (w : World) (hl : l.length ≤ 20) (h : IsHo w a l cap) :
    Calls Tryd.prog 11 #[.slice a l.length cap, .agg x.cells] w fun e w' => e = .returned (grE (nxBad l x)) ∧ Below w.heap.size w w' := by
  have H1 : Hid (∀ n W, Calls Tryd.prog 16 #[.int .i64 n] W fun e w' => e = .returned (.bool (upTo n 12)) ∧ w' = W) := fun n W => isEntity_any n W
  obtain ⟨W0, hW0⟩ : ∃ W0, w.alloc (.cells x.cells 38) = W0 := ⟨_, rfl⟩
  have hb0 : Below w.heap.size w W0 := by rw [← hW0]; exact (Below.refl _ w).alloc (Nat.le_refl _) _
  have hx0 : HoAt W0 w.heap.size 0 x := by rw [← hW0]; exact HoAt.new w x _
  have hs0 : w.heap.size < W0.heap.size := by rw [← hW0]; simp
  have H2 : Hid (Calls Tryd.prog 20 #[.slice a l.length cap, .func (.func 19) #[] #[.pointer (some ⟨w.heap.size, 0, none⟩)]] W0 fun e w' => e = .returned (.bool (l.any (hSame x))) ∧ Below W0.heap.size W0 w') :=
    hContains_any _ _ (hSame x) _ a cap l W0 ⟨hx0, hs0⟩ (same_tells x w.heap.size l) (by omega) (h.below hb0)
  have HW0 : Hid (w.alloc (.cells x.cells 38) = W0) := hW0
  have HB0 : Hid (Below w.heap.size w W0 ∧ Below w.heap.size W0 W0) := ⟨hb0, Below.refl _ _⟩
  have HS0 : Hid (w.heap.size ≤ W0.heap.size) := by unfold Hid; omega
  have HN : Hid (nxBad l x = if upTo x.en 12 = false then 1 else if upTo x.of_ 12 = false then 1 else if x.pt < 1 then 1 else if 1000 < x.pt then 1 else if x.en = x.of_ then 8 else if l.any (hSame x) then 8 else 0) := rfl
  generalize nxBad l x = res at *
  generalize l.any (hSame x) = an at *
  obtain ⟨x0, x1, x2⟩ := x
  obtain ⟨d0, d1, d2⟩ := hx0
  simp only [Ho.cells, Nat.zero_add] at d0 d1 d2 HW0 HN ⊢
  clear h hb0 hs0 hW0 hl
  go_enter Tryd.func11, Tryd.ntmps11
  go_upto_region 1 with fail
  rw [HW0.out]
  clear HW0
  cases c1 : upTo x0 12
  · rw [c1, if_pos rfl] at HN
    have er : res = 1 := HN.out
    subst er
    go_wp2_with (go_at_call 16; refine (H1.out _ _).mono ?_; rintro e w' ⟨rfl, rfl⟩; simp only [c1])
    go_ret
    exact ⟨rfl, HB0.out.1⟩
  rw [c1, if_neg (by decide)] at HN
  cases c2 : upTo x1 12
  · rw [c2, if_pos rfl] at HN
    have er : res = 1 := HN.out
    subst er
    go_wp2_with fail
    refine (H1.out _ _).mono ?_
    rintro e w' ⟨rfl, hw⟩
    rw [hw, c1]; clear hw w'
    go_wp2_with fail
    refine (H1.out _ _).mono ?_
    rintro e w' ⟨rfl, hw⟩
    rw [hw, c2]; clear hw w'
    go_wp2
    go_ret
    exact ⟨rfl, HB0.out.1⟩
  rw [c2, if_neg (by decide)] at HN
  go_wp2_with fail
  refine (H1.out _ _).mono ?_
  rintro e w' ⟨rfl, hw⟩
  rw [hw, c1]; clear hw w' c1
  go_wp2_with fail
  refine (H1.out _ _).mono ?_
  rintro e w' ⟨rfl, hw⟩
  rw [hw, c2]; clear hw w' c2 H1
  by_cases c3 : x2 < 1
  · rw [if_pos c3] at HN
    have er : res = 1 := HN.out
    subst er
    go_wp2
    go_ret
    exact ⟨rfl, HB0.out.1⟩
  rw [if_neg c3] at HN
  by_cases c4 : 1000 < x2
  · rw [if_pos c4] at HN
    have er : res = 1 := HN.out
    subst er
    go_wp2
    go_ret
    exact ⟨rfl, HB0.out.1⟩
  rw [if_neg c4] at HN
  by_cases c5 : x0 = x1
  · rw [if_pos c5] at HN
    have er : res = 8 := HN.out
    subst er
    subst c5
    go_wp2
    go_ret
    exact ⟨rfl, HB0.out.1⟩
  rw [if_neg c5] at HN
  have c6 : (x0 == x1) = false := beq_eq_false_iff_ne.2 c5
  cases an
  · have er : res = 0 := HN.out
    subst er
    clear HN
    go_wp2_with fail
    refine H2.out.mono ?_
    rintro e w1 ⟨rfl, hb1⟩
    have HB1 : Hid (Below w.heap.size w w1) := HB0.out.1.trans (hb1.mono HS0.out)
    clear hb1 d0 d1 d2 H2
    go_wp2
    go_ret
    exact ⟨rfl, HB1.out⟩
  · have er : res = 8 := HN.out
    subst er
    clear HN
    go_wp2_with fail
    refine H2.out.mono ?_
    rintro e w1 ⟨rfl, hb1⟩
    have HB1 : Hid (Below w.heap.size w w1) := HB0.out.1.trans (hb1.mono HS0.out)
    clear hb1 d0 d1 d2 H2
    go_wp2
    go_ret
    exact ⟨rfl, HB1.out⟩
end Go.Proofs.YtmpjaogomabfiaaDoor
