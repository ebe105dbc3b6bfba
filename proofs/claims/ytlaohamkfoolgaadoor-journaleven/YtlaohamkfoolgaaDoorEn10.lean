/-
  The contracts of entry.checkHead, entry.checkLine, entry.Check.
-/
import Derived.Test.YtlaohamkfoolgaaDoorEn9
import Derived.Test.YtlaohamkfoolgaaDoorCh7
import Derived.Test.YtlaohamkfoolgaaDoorCur
namespace Go.Proofs.YtlaohamkfoolgaaDoor
set_option linter.unusedVariables false
set_option linter.unusedSimpArgs false
set_option maxRecDepth 100000
open Go.RowKit Go.Lib

theorem enE_chE (n : Int) : enE n = chE n := rfl

theorem enUpTo_any (n m : Int) (w : World) :
    Calls Tryd.prog 31 #[.int .i64 n, .int .i64 m] w fun e w' => e = .returned (.bool (upTo n m)) ∧ w' = w := by
  by_cases h : 1 ≤ n
  · have e1 : upTo n m = decide (n ≤ m) := by simp [upTo, h]
    go_enter Tryd.func31, Tryd.ntmps31
    go_wp2
    go_ret
    exact ⟨by rw [e1]; rfl, rfl⟩
  · have e1 : upTo n m = false := by simp [upTo, h]
    go_enter Tryd.func31, Tryd.ntmps31
    go_wp2
    go_ret
    exact ⟨rfl, rfl⟩

/-- What is wrong with an entry, whatever its lines have. -/
def headBad (r : ByteArray) (en pe : Int) (n : Nat) : Int :=
  if isRefB r = false then 2 else if upTo en 12 = false ∨ upTo pe 120 = false then 1 else if n < 2 then 3 else if 20 < n then 4 else 0

set_option maxHeartbeats 2000000 in
theorem checkHead_any (r : ByteArray) (en pe : Int) (a : Option Addr) (cap n : Nat) (w : World) :
    Calls Tryd.prog 20 #[.agg #[.string r, .int .i64 en, .int .i64 pe, .slice a n cap]] w fun e w' => e = .returned (enE (headBad r en pe n)) ∧ Below w.heap.size w w' := by
  have b0 : Below w.heap.size w (w.alloc (.cells #[.string r, .int .i64 en, .int .i64 pe, .slice a n cap] 33)) := (Below.refl _ w).alloc (Nat.le_refl _) _
  have x0 := Box4.new w r en pe (.slice a n cap)
  have hs0 : (w.alloc (.cells #[.string r, .int .i64 en, .int .i64 pe, .slice a n cap] 33)).heap.size = w.heap.size + 1 := by simp
  have HI : Hid (∀ W, Below w.heap.size w W → Calls Tryd.prog 30 #[.string r] W fun e w' => e = .returned (.bool (isRefB r)) ∧ Below W.heap.size W w') := fun W _ => isRef_any r W
  have HU := enUpTo_any
  obtain ⟨res, hres⟩ : ∃ res, headBad r en pe n = res := ⟨_, rfl⟩
  rw [hres]
  have Hres : Hid (headBad r en pe n = res) := hres
  clear hres
  cases hr : isRefB r
  · rw [hr] at HI
    have er : res = 2 := by rw [← Hres.out]; simp [headBad, hr]
    subst er
    clear HU
    go_enter Tryd.func20, Tryd.ntmps20
    go_wp2_with fail
    refine (HI.out _ b0).mono ?_
    rintro e w1 ⟨rfl, hb1⟩
    have B1 := b0.trans (hb1.mono (by simp))
    clear HI hb1
    go_wp2
    go_ret
    exact ⟨rfl, B1⟩
  rw [hr] at HI
  go_enter Tryd.func20, Tryd.ntmps20
  go_wp2_with fail
  refine (HI.out _ b0).mono ?_
  rintro e w1 ⟨rfl, hb1⟩
  rw [hs0] at hb1
  have B1 := b0.trans (hb1.mono (by omega))
  have y1 := x0.below hb1 (by omega)
  have c1 := y1.c1
  have c2 := y1.c2
  have c3 := y1.c3
  clear HI hb1 b0 x0 hs0 y1
  have HU1 := enUpTo_any en 12 w1
  have HU2 := enUpTo_any pe 120 w1
  cases h1 : upTo en 12
  · have er : res = 1 := by rw [← Hres.out]; simp [headBad, hr, h1]
    subst er
    rw [h1] at HU1
    go_wp2_with (go_at_call 31; refine HU1.mono ?_; rintro e w' ⟨rfl, rfl⟩)
    go_ret
    exact ⟨rfl, B1⟩
  rw [h1] at HU1
  cases h2 : upTo pe 120
  · have er : res = 1 := by rw [← Hres.out]; simp [headBad, hr, h1, h2]
    subst er
    rw [h2] at HU2
    go_wp2_with fail
    refine HU1.mono ?_
    rintro e w' ⟨rfl, rfl⟩
    go_wp2_with fail
    refine HU2.mono ?_
    rintro e w' ⟨rfl, rfl⟩
    go_wp2
    go_ret
    exact ⟨rfl, B1⟩
  rw [h2] at HU2
  by_cases h3 : n < 2
  · have er : res = 3 := by rw [← Hres.out]; simp [headBad, hr, h1, h2, h3]
    subst er
    have h3' : (n : Int) < 2 := by omega
    go_wp2_with fail
    refine HU1.mono ?_
    rintro e w' ⟨rfl, rfl⟩
    go_wp2_with fail
    refine HU2.mono ?_
    rintro e w' ⟨rfl, rfl⟩
    go_wp2
    go_ret
    exact ⟨rfl, B1⟩
  have h3' : ¬ (n : Int) < 2 := by omega
  by_cases h4 : 20 < n
  · have er : res = 4 := by rw [← Hres.out]; simp [headBad, hr, h1, h2, h3, h4]
    subst er
    have h4' : (20 : Int) < n := by omega
    go_wp2_with fail
    refine HU1.mono ?_
    rintro e w' ⟨rfl, rfl⟩
    go_wp2_with fail
    refine HU2.mono ?_
    rintro e w' ⟨rfl, rfl⟩
    go_wp2
    go_ret
    exact ⟨rfl, B1⟩
  · have er : res = 0 := by rw [← Hres.out]; simp [headBad, hr, h1, h2, h3, h4]
    subst er
    have h4' : ¬ (20 : Int) < n := by omega
    go_wp2_with fail
    refine HU1.mono ?_
    rintro e w' ⟨rfl, rfl⟩
    go_wp2_with fail
    refine HU2.mono ?_
    rintro e w' ⟨rfl, rfl⟩
    go_wp2
    go_ret
    exact ⟨rfl, B1⟩

theorem checkLine1_any (x : Ac) (c : ByteArray) (B : Nat) (w : World) (hB : w.cell? ⟨B, 0, none⟩ = some (.string c)) (hlt : B < w.heap.size) :
    Calls Tryd.prog 32 #[.agg x.cells, .pointer (some ⟨B, 0, none⟩)] w fun e w' => e = .returned (.bool (hasCode c x)) ∧ Below w.heap.size w w' := by
  obtain ⟨a0, a1, a2, a3, a4⟩ := x
  have b0 : Below w.heap.size w (w.alloc (.cells #[.string a0, .string a1, .int .i64 a2, .string a3, .bool a4] 39)) := (Below.refl _ w).alloc (Nat.le_refl _) _
  have hB2 : (w.alloc (.cells #[.string a0, .string a1, .int .i64 a2, .string a3, .bool a4] 39)).cell? ⟨B, 0, none⟩ = some (.string c) := (b0.cell (p := ⟨B, 0, none⟩) hlt).trans hB
  simp only [Ac.cells]
  by_cases h : a0 = c
  · subst h
    have e1 : hasCode a0 ⟨a0, a1, a2, a3, a4⟩ = true := by simp [hasCode]
    rw [e1]
    go_enter Tryd.func32, Tryd.ntmps32
    go_wp2
    go_ret
    exact ⟨rfl, b0⟩
  · have e1 : hasCode c ⟨a0, a1, a2, a3, a4⟩ = false := by simp [hasCode, h]
    have h' := ch_ne h
    rw [e1]
    go_enter Tryd.func32, Tryd.ntmps32
    go_wp2
    go_ret
    exact ⟨rfl, b0⟩
theorem checkLine1_tells (c : ByteArray) (B : Nat) (w : World) (hB : w.cell? ⟨B, 0, none⟩ = some (.string c)) (hlt : B < w.heap.size) : Tells 32 B (hasCode c) w :=
  ⟨fun args W => enters Tryd.func32 (by kernel_rfl) ⟨_, rfl⟩ args W, fun x W hW => checkLine1_any x c B W ((hW.cell (p := ⟨B, 0, none⟩) hlt).trans hB) (by have := hW.size; omega)⟩

/-- What is wrong with a line by itself. -/
def lnBad (c : List Ac) (x : Ln) : Int :=
  if idxP (hasCode x.acc) c < 0 then 6 else if memB x.acc (lvs c) = false then 12 else if isCur x.cur = false then 2 else if x.amt = 0 ∨ isAmtB x.amt = false then 1 else 0

set_option maxHeartbeats 2000000 in
theorem checkLine_any (ca : Option Addr) (cc : Nat) (c : List Ac) (n0 : Nat) (v : Value) (x : Ln) (w : World) (hc : IsSl w ca c cc) (hlen : c.length ≤ 60) (hv : TxtRow w n0 v (lvs c)) :
    Calls Tryd.prog 21 #[.slice ca c.length cc, v, .agg x.cells] w fun e w' => e = .returned (enE (lnBad c x)) ∧ Below w.heap.size w w' := by
  have b0 : Below w.heap.size w (w.alloc (.cells x.cells 55)) := (Below.refl _ w).alloc (Nat.le_refl _) _
  have x0 := LnAt.new w x 55
  have hs0 : (w.alloc (.cells x.cells 55)).heap.size = w.heap.size + 1 := by simp
  have hlv : (lvs c).length ≤ 1000 := by
    unfold lvs
    rw [List.length_map]
    have := List.length_filter_le (leafB c) c
    omega
  have hF := chContF_any _ w.heap.size (hasCode x.acc) ca cc c _ (checkLine1_tells x.acc w.heap.size _ x0.c0 (by simp)) (by omega) (hc.below b0)
  have HF : Hid (Calls _ _ _ _ _) := hF
  have HT : Hid (∀ W, Below w.heap.size w W → Calls Tryd.prog 33 #[v, .string x.acc] W fun e w' => e = .returned (.bool (memB x.acc (lvs c))) ∧ w' = W) := fun W hW => tContains_any n0 v (lvs c) x.acc W hlv (hv.below hW)
  have HU : Hid (∀ W, Calls Tryd.prog 34 #[.string x.cur] W fun e w' => e = .returned (.bool (isCur x.cur)) ∧ Below W.heap.size W w') := fun W => cur_any x.cur W
  have HA : Hid (∀ W, Calls Tryd.prog 35 #[.int .i64 x.amt] W fun e w' => e = .returned (.bool (isAmtB x.amt)) ∧ w' = W) := fun W => isAmount_any x.amt W
  obtain ⟨res, hres⟩ : ∃ res, lnBad c x = res := ⟨_, rfl⟩
  rw [hres]
  have Hres : Hid (lnBad c x = res) := hres
  clear hres hF hc hlv hv
  obtain ⟨x0', x1, x2⟩ := x
  simp only [Ln.cells] at b0 x0 hs0 HF ⊢
  by_cases h1 : 0 ≤ idxP (hasCode x0') c
  · rw [decide_eq_true h1] at HF
    go_enter Tryd.func21, Tryd.ntmps21
    go_wp2_with fail
    refine HF.out.mono ?_
    rintro e w1 ⟨rfl, hb1⟩
    rw [hs0] at hb1
    have B1 := b0.trans (hb1.mono (by omega))
    have hs1 := hb1.size
    rw [hs0] at hs1
    have y1 := x0.below hb1 (by omega)
    obtain ⟨c0, c1, c2⟩ := y1
    simp only [Nat.zero_add] at c0 c1 c2
    have HT1 := HT.out w1 B1
    clear HF hb1 b0 HT
    cases h2 : memB x0' (lvs c)
    · have er : res = 12 := by rw [← Hres.out]; simp only [lnBad]; rw [if_neg (by omega), if_pos h2]
      subst er
      rw [h2] at HT1
      go_wp2_with (go_at_call 33; refine HT1.mono ?_; rintro e w' ⟨rfl, rfl⟩)
      go_ret
      exact ⟨rfl, B1⟩
    rw [h2] at HT1
    go_wp2_with fail
    refine HT1.mono ?_
    rintro e w' ⟨rfl, rfl⟩
    go_wp2_with fail
    refine (HU.out w').mono ?_
    rintro e w2 ⟨rfl, hb2⟩
    have B2 := B1.trans (hb2.mono (by omega))
    have y2 := (LnAt.mk (off := 0) (x := ⟨x0', x1, x2⟩) c0 c1 c2).below hb2 (by omega)
    obtain ⟨d0, d1, d2⟩ := y2
    simp only [Nat.zero_add] at d0 d1 d2
    have HA1 := HA.out w2
    clear HT1 HU c0 c1 c2 hb2 HA
    cases h3 : isCur x1
    · have er : res = 2 := by rw [← Hres.out]; simp only [lnBad]; rw [if_neg (by omega), if_neg (by rw [h2]; simp), if_pos h3]
      subst er
      go_wp2
      go_ret
      exact ⟨rfl, B2⟩
    by_cases h4 : x2 = 0
    · have er : res = 1 := by rw [← Hres.out]; simp only [lnBad]; rw [if_neg (by omega), if_neg (by rw [h2]; simp), if_neg (by rw [h3]; simp), if_pos (.inl h4)]
      subst er
      subst h4
      go_wp2
      go_ret
      exact ⟨rfl, B2⟩
    have h4' : (x2 == 0) = false := by simpa using h4
    cases h5 : isAmtB x2
    · have er : res = 1 := by rw [← Hres.out]; simp only [lnBad]; rw [if_neg (by omega), if_neg (by rw [h2]; simp), if_neg (by rw [h3]; simp), if_pos (.inr h5)]
      subst er
      rw [h5] at HA1
      go_wp2_with (go_at_call 35; refine HA1.mono ?_; rintro e w' ⟨rfl, rfl⟩)
      go_ret
      exact ⟨rfl, B2⟩
    · have er : res = 0 := by rw [← Hres.out]; simp only [lnBad]; rw [if_neg (by omega), if_neg (by rw [h2]; simp), if_neg (by rw [h3]; simp), if_neg (by simp [h4, h5])]
      subst er
      rw [h5] at HA1
      go_wp2_with (go_at_call 35; refine HA1.mono ?_; rintro e w' ⟨rfl, rfl⟩)
      go_ret
      exact ⟨rfl, B2⟩
  · rw [decide_eq_false h1] at HF
    have er : res = 6 := by rw [← Hres.out]; simp only [lnBad]; rw [if_pos (by omega)]
    subst er
    clear HT HU HA
    go_enter Tryd.func21, Tryd.ntmps21
    go_wp2_with fail
    refine HF.out.mono ?_
    rintro e w1 ⟨rfl, hb1⟩
    have B1 := b0.trans (hb1.mono (by simp))
    clear HF hb1 b0
    go_wp2
    go_ret
    exact ⟨rfl, B1⟩
end Go.Proofs.YtlaohamkfoolgaaDoor
