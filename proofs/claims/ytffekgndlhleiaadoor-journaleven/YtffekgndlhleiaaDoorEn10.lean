/-
  The contracts of entry.checkHead, entry.checkLine, entry.Check.
-/
import Derived.Test.YtffekgndlhleiaaDoorEn9
import Derived.Test.YtffekgndlhleiaaDoorLf
import Derived.Test.YtffekgndlhleiaaDoorCur
namespace Go.Proofs.YtffekgndlhleiaaDoor
set_option linter.unusedVariables false
set_option linter.unusedSimpArgs false
set_option maxRecDepth 100000
open Go.RowKit Go.Lib

theorem enE_chE (n : Int) : enE n = chE n := rfl

/-- What is wrong with an entry, whatever its lines have. -/
def headBad (r : ByteArray) (en pe : Int) (n : Nat) : Int :=
  if isRefB r = false then 2 else if upTo en 12 = false ∨ upTo pe 120 = false then 1 else if n < 2 then 3 else if 20 < n then 4 else 0

set_option maxHeartbeats 2000000 in
theorem checkHead_any (r : ByteArray) (en pe : Int) (a : Option Addr) (cap n : Nat) (w : World) :
    Calls Tryd.prog 20 #[.agg #[.string r, .int .i64 en, .int .i64 pe, .slice a n cap]] w fun e w' => e = .returned (enE (headBad r en pe n)) ∧ Below w.heap.size w w' := by
  have b0 : Below w.heap.size w (w.alloc (.cells #[.string r, .int .i64 en, .int .i64 pe, .slice a n cap] 33)) := (Below.refl _ w).alloc (Nat.le_refl _) _
  have x0 := Box4.new w r en pe (.slice a n cap)
  have hs0 : (w.alloc (.cells #[.string r, .int .i64 en, .int .i64 pe, .slice a n cap] 33)).heap.size = w.heap.size + 1 := by simp
  have HI : Hid (∀ W, Below w.heap.size w W → Calls Tryd.prog 32 #[.string r] W fun e w' => e = .returned (.bool (isRefB r)) ∧ Below W.heap.size W w') := fun W _ => isRef_any r W
  obtain ⟨res, hres⟩ : ∃ res, headBad r en pe n = res := ⟨_, rfl⟩
  rw [hres]
  have Hres : Hid (headBad r en pe n = res) := hres
  clear hres
  cases hr : isRefB r
  · rw [hr] at HI
    have er : res = 2 := by rw [← Hres.out]; simp [headBad, hr]
    subst er
    go_enter Tryd.func20, Tryd.ntmps20
    go_wp2_with fail
    refine (HI.out _ b0).mono ?_
    rintro e w1 ⟨rfl, hb1⟩
    have B1 := b0.trans (hb1.mono (by simp))
    clear HI hb1
    go_wp2
    go_ret
    exact ⟨rfl, B1⟩
  rw [hr] at HI
  go_enter Tryd.func20, Tryd.ntmps20
  go_wp2_with fail
  refine (HI.out _ b0).mono ?_
  rintro e w1 ⟨rfl, hb1⟩
  rw [hs0] at hb1
  have B1 := b0.trans (hb1.mono (by omega))
  have y1 := x0.below hb1 (by omega)
  have c1 := y1.c1
  have c2 := y1.c2
  have c3 := y1.c3
  clear HI hb1 b0 x0 hs0 y1
  have HU1 := isEntity_any en w1
  have HU2 := isPeriod_any pe w1
  cases h1 : upTo en 12
  · have er : res = 1 := by rw [← Hres.out]; simp [headBad, hr, h1]
    subst er
    rw [h1] at HU1
    go_wp2_with (go_at_call 33; refine HU1.mono ?_; rintro e w' ⟨rfl, rfl⟩)
    go_ret
    exact ⟨rfl, B1⟩
  rw [h1] at HU1
  cases h2 : upTo pe 120
  · have er : res = 1 := by rw [← Hres.out]; simp [headBad, hr, h1, h2]
    subst er
    rw [h2] at HU2
    go_wp2_with fail
    refine HU1.mono ?_
    rintro e w' ⟨rfl, rfl⟩
    go_wp2_with fail
    refine HU2.mono ?_
    rintro e w' ⟨rfl, rfl⟩
    go_wp2
    go_ret
    exact ⟨rfl, B1⟩
  rw [h2] at HU2
  by_cases h3 : n < 2
  · have er : res = 3 := by rw [← Hres.out]; simp [headBad, hr, h1, h2, h3]
    subst er
    have h3' : (n : Int) < 2 := by omega
    go_wp2_with fail
    refine HU1.mono ?_
    rintro e w' ⟨rfl, rfl⟩
    go_wp2_with fail
    refine HU2.mono ?_
    rintro e w' ⟨rfl, rfl⟩
    go_wp2
    go_ret
    exact ⟨rfl, B1⟩
  have h3' : ¬ (n : Int) < 2 := by omega
  by_cases h4 : 20 < n
  · have er : res = 4 := by rw [← Hres.out]; simp [headBad, hr, h1, h2, h3, h4]
    subst er
    have h4' : (20 : Int) < n := by omega
    go_wp2_with fail
    refine HU1.mono ?_
    rintro e w' ⟨rfl, rfl⟩
    go_wp2_with fail
    refine HU2.mono ?_
    rintro e w' ⟨rfl, rfl⟩
    go_wp2
    go_ret
    exact ⟨rfl, B1⟩
  · have er : res = 0 := by rw [← Hres.out]; simp [headBad, hr, h1, h2, h3, h4]
    subst er
    have h4' : ¬ (20 : Int) < n := by omega
    go_wp2_with fail
    refine HU1.mono ?_
    rintro e w' ⟨rfl, rfl⟩
    go_wp2_with fail
    refine HU2.mono ?_
    rintro e w' ⟨rfl, rfl⟩
    go_wp2
    go_ret
    exact ⟨rfl, B1⟩

/-- What is wrong with a line by itself. -/
def lnBad (c : List Ac) (x : Ln) : Int :=
  if idxP (hasCode x.acc) c < 0 then 6 else if memB x.acc (lvs c) = false then 12 else if isCur x.cur = false then 2 else if x.amt = 0 ∨ isAmtB x.amt = false then 1 else 0
theorem lnBad_leaf (c : List Ac) (x : Ln) : lnBad c x = if leafBad c x.acc ≠ 0 then leafBad c x.acc else if isCur x.cur = false then 2 else if x.amt = 0 ∨ isAmtB x.amt = false then 1 else 0 := by
  unfold lnBad leafBad
  by_cases h1 : idxP (hasCode x.acc) c < 0
  · simp only [if_pos h1]; rfl
  · simp only [if_neg h1]
    cases h2 : memB x.acc (lvs c)
    · rfl
    · rfl

set_option maxHeartbeats 2000000 in
theorem checkLine_any (c : List Ac) (B1 B2 : Nat) (x : Ln) (w : World) (hL : Lfs w B1 B2 c) :
    Calls Tryd.prog 21 #[.agg x.cells, .func (.func 29) #[] #[.pointer (some ⟨B1, 0, none⟩), .pointer (some ⟨B2, 0, none⟩)]] w fun e w' => e = .returned (enE (lnBad c x)) ∧ Below w.heap.size w w' := by
  have eg : ∀ args W, (callFunc 29 args).run Tryd.prog W = .ok (.enter 29 args) W := fun args W => en_enters Tryd.func29 (by kernel_rfl) ⟨_, rfl⟩ args W
  have b0 : Below w.heap.size w (w.alloc (.cells x.cells 55)) := (Below.refl _ w).alloc (Nat.le_refl _) _
  have x0 := LnAt.new w x 55
  have hs0 : (w.alloc (.cells x.cells 55)).heap.size = w.heap.size + 1 := by simp
  have HF : Hid (Calls _ _ _ _ _) := leaf1_any c x.acc B1 B2 _ (hL.below b0)
  have HU : Hid (∀ W, Calls Tryd.prog 35 #[.string x.cur] W fun e w' => e = .returned (.bool (isCur x.cur)) ∧ Below W.heap.size W w') := fun W => cur_any x.cur W
  have HA : Hid (∀ W, Calls Tryd.prog 36 #[.int .i64 x.amt] W fun e w' => e = .returned (.bool (isAmtB x.amt)) ∧ w' = W) := fun W => isAmount_any x.amt W
  obtain ⟨res, hres⟩ : ∃ res, lnBad c x = res := ⟨_, rfl⟩
  rw [hres]
  have Hres : Hid ((if leafBad c x.acc ≠ 0 then leafBad c x.acc else if isCur x.cur = false then 2 else if x.amt = 0 ∨ isAmtB x.amt = false then 1 else 0) = res) := by
    rw [← lnBad_leaf]; exact hres
  clear hres hL
  obtain ⟨x0', x1, x2⟩ := x
  simp only [Ln.cells] at b0 x0 hs0 HF Hres HU HA ⊢
  generalize leafBad c x0' = lb at *
  obtain ⟨c0, c1, c2⟩ := x0
  simp only [Nat.zero_add] at c0 c1 c2
  by_cases h1 : lb = 0
  · subst h1
    rw [chE_zero] at HF
    go_enter Tryd.func21, Tryd.ntmps21
    go_wp2_with fail
    go_at_fn 29
    refine HF.out.mono ?_
    rintro e w1 ⟨rfl, hb1⟩
    rw [hs0] at hb1
    have B1 := b0.trans (hb1.mono (by omega))
    have hs1 := hb1.size
    rw [hs0] at hs1
    have y1 := (LnAt.new w ⟨x0', x1, x2⟩ 55).below hb1 (by omega)
    clear c0 c1 c2
    obtain ⟨c0, c1, c2⟩ := y1
    simp only [Nat.zero_add] at c0 c1 c2
    clear HF hb1 b0
    go_wp2_with fail
    refine (HU.out w1).mono ?_
    rintro e w2 ⟨rfl, hb2⟩
    have B2 := B1.trans (hb2.mono (by omega))
    have y2 := (LnAt.mk (off := 0) (x := ⟨x0', x1, x2⟩) c0 c1 c2).below hb2 (by omega)
    obtain ⟨d0, d1, d2⟩ := y2
    simp only [Nat.zero_add] at d0 d1 d2
    have HA1 := HA.out w2
    clear HU c0 c1 c2 hb2 HA
    cases h3 : isCur x1
    · have er : res = 2 := by rw [← Hres.out, if_neg (by simp), if_pos h3]
      subst er
      go_wp2
      go_ret
      exact ⟨rfl, B2⟩
    by_cases h4 : x2 = 0
    · have er : res = 1 := by rw [← Hres.out, if_neg (by simp), if_neg (by rw [h3]; simp), if_pos (.inl h4)]
      subst er
      subst h4
      go_wp2
      go_ret
      exact ⟨rfl, B2⟩
    have h4' : (x2 == 0) = false := by simpa using h4
    cases h5 : isAmtB x2
    · have er : res = 1 := by rw [← Hres.out, if_neg (by simp), if_neg (by rw [h3]; simp), if_pos (.inr h5)]
      subst er
      rw [h5] at HA1
      go_wp2_with (go_at_call 36; refine HA1.mono ?_; rintro e w' ⟨rfl, rfl⟩)
      go_ret
      exact ⟨rfl, B2⟩
    · have er : res = 0 := by rw [← Hres.out, if_neg (by simp), if_neg (by rw [h3]; simp), if_neg (by simp [h4, h5])]
      subst er
      rw [h5] at HA1
      go_wp2_with (go_at_call 36; refine HA1.mono ?_; rintro e w' ⟨rfl, rfl⟩)
      go_ret
      exact ⟨rfl, B2⟩
  · have er : res = lb := by rw [← Hres.out, if_pos h1]
    subst er
    rw [chE_ne h1] at HF
    rw [enE_ne h1]
    clear HU HA Hres
    go_enter Tryd.func21, Tryd.ntmps21
    go_wp2_with fail
    go_at_fn 29
    refine HF.out.mono ?_
    rintro e w1 ⟨rfl, hb1⟩
    have B1 := b0.trans (hb1.mono (by simp))
    clear HF hb1 b0 c0 c1 c2
    go_wp2
    go_ret
    exact ⟨rfl, B1⟩
end Go.Proofs.YtffekgndlhleiaaDoor
