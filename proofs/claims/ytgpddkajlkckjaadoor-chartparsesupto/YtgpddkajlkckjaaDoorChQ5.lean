/-
  daylaw1.ChartParses, walked.
-/
import Derived.Test.YtgpddkajlkckjaaDoorChQ4
import Derived.Test.YtgpddkajlkckjaaDoorChB3
import Derived.Test.YtgpddkajlkckjaaDoorErrT
namespace Go.Proofs.YtgpddkajlkckjaaDoor
set_option linter.unusedVariables false
set_option linter.unusedSimpArgs false
set_option maxRecDepth 100000
open Go.RowKit

theorem nextBad_le (pre : List Ac) (x : Ac) : nextBad pre x ≤ 12 := by
  unfold nextBad parBad
  split
  · omega
  split
  · omega
  split
  · omega
  split
  · omega
  split
  · omega
  split <;> omega
theorem lineBad_range (pre : List Ac) (s : ByteArray) : 0 ≤ lineBad pre s ∧ lineBad pre s ≤ 12 := by
  unfold lineBad
  split
  · omega
  · split
    · omega
    · exact ⟨nextBad_ge _ _, nextBad_le _ _⟩
theorem parseGo_range : ∀ (r : List (Nat × ByteArray)) (acc : List Ac), acc.length ≤ 60 → (0 ≤ (parseGo acc r).2.2 ∧ (parseGo acc r).2.2 ≤ 12) ∧ (parseGo acc r).1.length ≤ 60
  | [], acc, h => ⟨⟨by simp [parseGo], by simp [parseGo]⟩, h⟩
  | x :: r, acc, h => by
    rw [parseGo]
    by_cases hb : lineBad acc x.2 = 0
    · rw [if_pos hb]
      have hl : acc.length < 60 := by
        unfold lineBad at hb
        split at hb
        · omega
        · split at hb
          · omega
          · omega
      exact parseGo_range r _ (by simp; omega)
    · rw [if_neg hb]
      exact ⟨lineBad_range acc x.2, by simp⟩
theorem parse_range (t : ByteArray) : (0 ≤ (parseS t).2.2 ∧ (parseS t).2.2 ≤ 12) ∧ (parseS t).1.length ≤ 60 := parseGo_range _ [] (by simp)

theorem refParse_u (t : ByteArray) (w : World) (ht : t.size ≤ 1048576) :
    Calls Tryd.prog 5 #[.string t] w fun e w' => ∃ a c, e = .returned (.tuple #[.slice a (parseS t).1.length c, .int .i64 (parseS t).2.1, .int .i64 (parseS t).2.2]) ∧ IsSl w' a (parseS t).1 c ∧ Below w.heap.size w w' := by
  refine (refParse_any t w ht).mono ?_
  rintro e w' ⟨v, rfl, hr, hb⟩
  obtain ⟨a, c, rfl, hs⟩ := row_isSl hr
  exact ⟨a, c, rfl, hs, hb⟩
theorem chE_errIs {n : Int} (h1 : 0 ≤ n) (h2 : n ≤ 12) : ErrIs (chE n) n := by
  by_cases h0 : n = 0
  · subst h0; exact .inl ⟨rfl, rfl⟩
  · rw [chE_ne h0]; exact .inr ⟨rfl, by omega, by omega⟩

set_option maxHeartbeats 2000000 in
theorem parses_walk (t : ByteArray) (w : World) (hg : MaxL w) (he : ErrT w) (ht : t.size ≤ 1048576) :
    Calls Tryd.prog 3 #[.string t] w fun e w' => e = .returned (.bool true) ∧ Below w.heap.size w w' := by
  have HG : Hid (∀ W, Below w.heap.size w W → MaxL W) := fun W hW => hg.below hW (Nat.le_refl _)
  have HE : Hid (∀ W, Below w.heap.size w W → ErrT W) := fun W hW => he.below hW (Nat.le_refl _)
  have H1 : Hid (Calls _ _ _ _ _) := refParse_u t w ht
  have H2 : Hid (∀ W, Below w.heap.size w W → Calls _ _ _ W _) := fun W hW => parse_u t (by omega) W (HG.out W hW)
  obtain ⟨⟨r1, r2⟩, r3⟩ := parse_range t
  have Her : Hid (ErrIs _ _) := chE_errIs r1 r2
  generalize parseS t = pt at *
  obtain ⟨p1, p2, p3⟩ := pt
  simp only at H1 H2 Her r3
  obtain ⟨ev, hev⟩ : ∃ ev, chE p3 = ev := ⟨_, rfl⟩
  rw [hev] at H2 Her
  clear hg he hev r1 r2
  go_enter Tryd.func3, Tryd.ntmps3
  go_wp2_with fail
  refine H1.out.mono ?_
  rintro e w1 ⟨a1, c1, rfl, i1, b1⟩
  have HB1 : Hid (Below w.heap.size w w1) := b1
  have I1 : Hid (IsSl w1 a1 p1 c1) := i1
  clear H1 i1 b1
  go_wp2_with fail
  refine (H2.out w1 HB1.out).mono ?_
  rintro e w2 ⟨a2, c2, rfl, i2, b2⟩
  have HB2 : Hid (Below w.heap.size w w2) := HB1.out.trans (b2.mono HB1.out.size)
  have I1 : Hid (IsSl w2 a1 p1 c1) := I1.out.below b2
  have I2 : Hid (IsSl w2 a2 p1 c2) := i2
  clear H2 i2 b2 HB1
  go_wp2_with fail
  refine (err_true Her.out w2 (HE.out w2 HB2.out)).mono ?_
  rintro e w3 ⟨rfl, b3⟩
  have HB3 : Hid (Below w.heap.size w w3) := HB2.out.trans (b3.mono HB2.out.size)
  have HS : Hid (Calls _ _ _ _ _) := sameCharts_any a2 a1 c2 c1 p1 w3 (by omega) (I2.out.below b3) (I1.out.below b3)
  clear HB2 I1 I2 b3 Her
  go_wp2_with fail
  refine HS.out.mono ?_
  rintro e w4 ⟨rfl, b4⟩
  have HB4 : Hid (Below w.heap.size w w4) := HB3.out.trans (b4.mono HB3.out.size)
  clear HS HB3 b4
  go_wp2
  go_ret
  exact ⟨rfl, HB4.out⟩
end Go.Proofs.YtgpddkajlkckjaaDoor
