/-
  The walk of GroupParts.
-/
import Derived.Test.YtmpjaogomabfiaaDoorGq3
import Derived.Test.YtmpjaogomabfiaaDoorErrT
import Derived.Test.YtmpjaogomabfiaaDoorRfI
namespace Go.Proofs.YtmpjaogomabfiaaDoor
set_option linter.unusedVariables false
set_option linter.unusedSimpArgs false
set_option maxRecDepth 100000
open Go.RowKit Go.Lib

theorem grE_is {c : Int} (h : 0 ≤ c ∧ c ≤ 20) : ErrIs (grE c) c := by
  unfold ErrIs grE
  split
  · rename_i h0; exact .inl ⟨rfl, h0⟩
  · exact .inr ⟨rfl, by omega, by omega⟩
theorem nxGo_bd : ∀ (m a : List Ho), 0 ≤ nxGo a m ∧ nxGo a m ≤ 20
  | [], a => by simp [nxGo]
  | x :: m, a => by
    rw [nxGo]
    split
    · unfold nxBad
      repeat' split
      all_goals omega
    · exact nxGo_bd m _
theorem hBad_bd (l : List Ho) : 0 ≤ hBad l ∧ hBad l ≤ 20 := by
  unfold hBad hBad2
  split
  · omega
  · split
    · exact nxGo_bd l []
    · repeat' split
      all_goals omega
theorem ptsBad_bd (l : List Ho) (top : Int) : 0 ≤ ptsBad l top ∧ ptsBad l top ≤ 20 := by
  unfold ptsBad
  split
  · exact hBad_bd l
  · split <;> omega
theorem hasInts_n {w : World} {g : Nat} {r : List Int} (h : NRow w g r) (n c : Nat) (hn : r.length = n) : HasInts w (.slice (some ⟨g, 0, none⟩) n c) r := by
  subst hn
  exact ⟨_, _, rfl, .inr ⟨g, 0, rfl, fun k hk => by rw [Nat.zero_add]; exact h.cell hk⟩⟩
theorem hasInts_i {w : World} {n : Nat} {v : Value} {r : List Int} (h : IvRow w n v r) (h0 : 0 < r.length) : HasInts w v r := by
  obtain ⟨g, cap, rfl, _, _, _, hc⟩ := h.cells h0
  exact ⟨_, _, rfl, .inr ⟨g, 0, rfl, fun k hk => by rw [Nat.zero_add]; exact hc k hk⟩⟩

set_option maxHeartbeats 8000000 in
theorem gparts_walk (a : Option Addr) (cap : Nat) (l : List Ho) (top : Int) (w : World) (hll : l.length ≤ 9223372036854775807) (h : IsHo w a l cap) (hg : ErrT w) :
    Calls Tryd.prog 3 #[.slice a l.length cap, .int .i64 top] w fun e w' => e = .returned (.bool true) ∧ Below w.heap.size w w' := by
  have Hs : Hid (IsHo w a l cap ∧ ErrT w) := ⟨h, hg⟩
  have HS : Hid (∀ W, Below w.heap.size w W → IsHo W a l cap ∧ ErrT W) := fun W hW => ⟨Hs.out.1.below hW, Hs.out.2.below hW (Nat.le_refl _)⟩
  have HC1 : Hid (∀ W, Below w.heap.size w W → Calls Tryd.prog 5 #[.slice a l.length cap] W fun e w' => e = .returned (grE (hBad l)) ∧ Below w.heap.size w w') := fun W hW => by
    refine (grCheck_any a cap l W hll (HS.out W hW).1).mono ?_
    rintro e w' ⟨rfl, hb⟩
    exact ⟨rfl, hW.trans (hb.mono hW.size)⟩
  have HC2 : Hid (∀ W, Below w.heap.size w W → Calls Tryd.prog 6 #[.slice a l.length cap] W fun e w' => e = .returned (.int .i64 (hBad l)) ∧ Below w.heap.size w w') := fun W hW => by
    refine (refHold_any a cap l W hll (HS.out W hW).1).mono ?_
    rintro e w' ⟨rfl, hb⟩
    exact ⟨rfl, hW.trans (hb.mono hW.size)⟩
  have HER : Hid (∀ W (c : Int), (0 ≤ c ∧ c ≤ 20) → Below w.heap.size w W → Calls Tryd.prog 4 #[grE c, .int .i64 c] W fun e w' => e = .returned (.bool true) ∧ Below W.heap.size W w') := fun W c hc hW => err_true (grE_is hc) W (HS.out W hW).2
  have HP1 : Hid (∀ W, Below w.heap.size w W → Calls Tryd.prog 7 #[.slice a l.length cap, .int .i64 top] W (RPtsEnd l top W)) := fun W hW => rParts_any a cap l top W hll (HS.out W hW).1
  have HP2 : Hid (∀ W, Below w.heap.size w W → Calls Tryd.prog 8 #[.slice a l.length cap, .int .i64 top] W (PtsEnd l top W)) := fun W hW => grParts_any a cap l top W hll (HS.out W hW).1
  have HBa : Hid (0 ≤ hBad l ∧ hBad l ≤ 20) := hBad_bd l
  have HBp : Hid (0 ≤ ptsBad l top ∧ ptsBad l top ≤ 20) := ptsBad_bd l top
  clear h hg Hs
  generalize hBad l = c1 at *
  go_enter Tryd.func3, Tryd.ntmps3
  go_wp2_with fail
  refine (HC1.out w (Below.refl _ _)).mono ?_
  rintro e w1 ⟨rfl, hb1⟩
  have HB1 : Hid (Below w.heap.size w w1) := hb1
  clear hb1 HC1
  go_wp2_with fail
  refine (HC2.out w1 HB1.out).mono ?_
  rintro e w2 ⟨rfl, hb2⟩
  have HB2 : Hid (Below w.heap.size w w2) := hb2
  clear hb2 HC2 HB1
  go_wp2_with fail
  refine (HER.out w2 c1 HBa.out HB2.out).mono ?_
  rintro e w3 ⟨rfl, hb3⟩
  have HB3 : Hid (Below w.heap.size w w3) := HB2.out.trans (hb3.mono HB2.out.size)
  clear hb3 HB2 HBa
  go_wp2_with fail
  refine (HP1.out w3 HB3.out).mono ?_
  rintro e w4 ⟨hb4, v4, rfl, hv4, hi4⟩
  have HB4 : Hid (Below w.heap.size w w4) := HB3.out.trans (hb4.mono HB3.out.size)
  have HV4 : Hid ((ptsBad l top ≠ 0 → v4 = .slice none 0 0) ∧ (ptsBad l top = 0 → IvRow w4 w3.heap.size v4 (ptsL l top))) := ⟨hv4, hi4⟩
  clear hb4 hv4 hi4 HB3 HP1
  by_cases hp : ptsBad l top = 0
  · have HI4 : Hid (IvRow w4 w3.heap.size v4 (ptsL l top)) := HV4.out.2 hp
    have HP3 : Hid (Calls Tryd.prog 8 #[.slice a l.length cap, .int .i64 top] w4 fun e w' => ∃ g, e = .returned (.tuple #[.slice (some ⟨g, 0, none⟩) 12 12, .nilIface]) ∧ NRow w' g (ptsL l top) ∧ Below w4.heap.size w4 w') := by
      refine (HP2.out w4 HB4.out).mono ?_
      rintro e w' ⟨h1, _, h3⟩
      obtain ⟨g, h4, _, h5⟩ := h3 hp
      exact ⟨g, h4, h5, h1⟩
    rw [hp] at HBp ⊢
    have hl12 := ptsL_len l top
    obtain ⟨pl, hpl⟩ : ∃ pl, ptsL l top = pl := ⟨_, rfl⟩
    rw [hpl] at HI4 HP3 hl12
    clear HV4 HP2 hpl
    obtain ⟨a4, k4, hv4⟩ := HI4.out.shape
    rw [hl12] at hv4
    subst hv4
    have Hl12 : Hid (pl.length = 12) := hl12
    clear hl12
    go_wp2_with fail
    refine HP3.out.mono ?_
    rintro e w5 ⟨g, rfl, hr5, hb5⟩
    have HI5 : Hid (IvRow w5 w3.heap.size (.slice a4 12 k4) pl) := HI4.out.below hb5
    have HR5 : Hid (NRow w5 g pl) := hr5
    have HB5 : Hid (Below w.heap.size w w5) := HB4.out.trans (hb5.mono HB4.out.size)
    have HER5 : Hid (Calls Tryd.prog 4 #[.nilIface, .int .i64 0] w5 fun e w' => e = .returned (.bool true) ∧ Below w5.heap.size w5 w') := HER.out w5 0 HBp.out HB5.out
    clear hr5 hb5 HI4 HP3 HB4 HER HBp
    go_wp2_with fail
    refine HER5.out.mono ?_
    rintro e w6 ⟨rfl, hb6⟩
    have HI6 : Hid (HasInts w6 (.slice a4 12 k4) pl) := hasInts_i (HI5.out.below hb6) (by have := Hl12.out; omega)
    have HR6 : Hid (HasInts w6 (.slice (some ⟨g, 0, none⟩) 12 12) pl) := hasInts_n (HR5.out.belowS hb6 HR5.out.ltS) 12 12 Hl12.out
    have HB6 : Hid (Below w.heap.size w w6) := HB5.out.trans (hb6.mono HB5.out.size)
    clear hb6 HI5 HR5 HB5 HER5
    go_wp2_with fail
    refine (sameInts_any _ _ pl w6 (by have := Hl12.out; omega) HR6.out HI6.out).mono ?_
    rintro e w7 ⟨rfl, hb7⟩
    have HB7 : Hid (Below w.heap.size w w7) := HB6.out.trans (hb7.mono HB6.out.size)
    clear hb7 HI6 HR6 HB6
    go_wp2
    go_ret
    exact ⟨rfl, HB7.out⟩
  · have e4 := HV4.out.1 hp
    subst e4
    have HP3 : Hid (Calls Tryd.prog 8 #[.slice a l.length cap, .int .i64 top] w4 fun e w' => e = .returned (.tuple #[.slice none 0 0, grE (ptsBad l top)]) ∧ Below w4.heap.size w4 w') := by
      refine (HP2.out w4 HB4.out).mono ?_
      rintro e w' ⟨h1, h2, _⟩
      exact ⟨h2 hp, h1⟩
    have hER : ∀ W, Below w.heap.size w W → Calls _ _ _ _ _ := fun W hW => HER.out W _ HBp.out hW
    have HER5 : Hid (∀ W, Below w.heap.size w W → _) := hER
    obtain ⟨c2, hc2⟩ : ∃ c2, ptsBad l top = c2 := ⟨_, rfl⟩
    rw [hc2] at hp HP3 HER5 ⊢
    rw [grE_ne hp] at HP3 HER5
    clear HV4 HP2 hER HER HBp hc2
    go_wp2_with fail
    refine HP3.out.mono ?_
    rintro e w5 ⟨rfl, hb5⟩
    have HB5 : Hid (Below w.heap.size w w5) := HB4.out.trans (hb5.mono HB4.out.size)
    clear hb5 HP3 HB4
    go_wp2_with fail
    refine (HER5.out w5 HB5.out).mono ?_
    rintro e w6 ⟨rfl, hb6⟩
    have HB6 : Hid (Below w.heap.size w w6) := HB5.out.trans (hb6.mono HB5.out.size)
    clear hb6 HB5 HER5
    go_wp2_with fail
    refine (sameInts_any _ _ [] w6 (by decide) (hasInts_nil _) (hasInts_nil _)).mono ?_
    rintro e w7 ⟨rfl, hb7⟩
    have HB7 : Hid (Below w.heap.size w w7) := HB6.out.trans (hb7.mono HB6.out.size)
    clear hb7 HB6
    go_wp2
    go_ret
    exact ⟨rfl, HB7.out⟩
end Go.Proofs.YtmpjaogomabfiaaDoor
