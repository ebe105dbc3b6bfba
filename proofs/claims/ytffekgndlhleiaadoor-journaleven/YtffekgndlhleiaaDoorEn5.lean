/-
  The contract of slices.BinarySearchFunc over lines in order.
-/
import Derived.Test.YtffekgndlhleiaaDoorEn4
namespace Go.Proofs.YtffekgndlhleiaaDoor
set_option linter.unusedVariables false
set_option linter.unusedSimpArgs false
set_option maxRecDepth 100000
open Go.RowKit Go.Lib

/-- Whether a line of its account and currency is there. -/
def hasL (x : Ln) (l : List Ln) : Bool := decide (posL x l < l.length) && lnEq (l.getD (posL x l) ln0) x

set_option maxHeartbeats 2000000 in
theorem search_some (b off cap : Nat) (l : List Ln) (x : Ln) (w : World) (hb : b < w.heap.size) (hlen : l.length ≤ 1000) (hc : LnsAt w b off l) (hs : SortL l) :
    Calls Tryd.prog 54 #[.slice (some ⟨b, off, none⟩) l.length cap, .agg x.cells, .func (.func 55) #[] #[]] w fun e w' => e = .returned (.tuple #[.int .i64 (posL x l : Nat), .bool (hasL x l)]) ∧ Below w.heap.size w w' := by
  have eg : ∀ args W, (callFunc 55 args).run Tryd.prog W = .ok (.enter 55 args) W := fun args W => en_enters Tryd.func55 (by kernel_rfl) ⟨_, rfl⟩ args W
  have Hc : Hid (LnsAt w b off l) := hc
  have Hs : Hid (SortL l) := hs
  have Hlen : (l.length : Int) ≤ 1000 := by omega
  have hpl := posL_le x l
  have HC : Hid (∀ y W, Calls Tryd.prog 55 #[.agg y.cells, .agg x.cells] W fun e w' => e = .returned (.int .i64 (cmpL y x)) ∧ Below W.heap.size W w') := fun y W => compare_any y x W
  have HP : Hid (∀ h, h < l.length → lnLt (l.getD h ln0) x = decide (h < posL x l)) := fun h hh => pos_iff hs x hh
  obtain ⟨p, hp⟩ : ∃ p, posL x l = p := ⟨_, rfl⟩
  obtain ⟨res, hres⟩ : ∃ res, hasL x l = res := ⟨_, rfl⟩
  have HF : Hid (res = (decide (p < l.length) && lnEq (l.getD p ln0) x)) := by unfold Hid; rw [← hres]; unfold hasL; rw [hp]
  rw [hres]
  clear hres
  rw [hp] at HP hpl ⊢
  clear hc hs hp
  have hx0 := LnAt.new w x 55
  have hsz : (w.alloc (.cells x.cells 55)).heap.size = w.heap.size + 1 := by simp
  have b0 : Below w.heap.size w (w.alloc (.cells x.cells 55)) := (Below.refl _ w).alloc (Nat.le_refl _) _
  obtain ⟨x0, x1, x2⟩ := x
  simp only [Ln.cells] at HC hx0 hsz b0 ⊢
  obtain ⟨W0, hW0⟩ : ∃ W0, w.alloc (.cells #[.string x0, .string x1, .int .i64 x2] 55) = W0 := ⟨_, rfl⟩
  go_enter Tryd.func54, Tryd.ntmps54
  go_wp2
  rw [hW0] at hx0 hsz b0
  clear hW0
  have Hx0 : Hid (LnAt W0 w.heap.size 0 ⟨x0, x1, x2⟩) := hx0
  have Hb0 : Hid (Below w.heap.size w W0) := b0
  have Hsz : Hid (W0.heap.size = w.heap.size + 1) := hsz
  clear hx0 b0 hsz
  go_loopg [9, 10, 11] l.length (fun g s7 s8 _ wr => ∃ lo hi : Nat, s7 = .int .i64 lo ∧ s8 = .int .i64 hi ∧ lo ≤ p ∧ p ≤ hi ∧ hi ≤ l.length ∧ hi - lo ≤ g ∧ Below (w.heap.size + 1) W0 wr)
  case atStart => exact ⟨0, l.length, rfl, rfl, Nat.zero_le _, hpl, Nat.le_refl _, by omega, Below.refl _ _⟩
  case round =>
    obtain ⟨lo, hi, rfl, rfl, hlp, hph, hin, hg, BW⟩ := hrel
    have hsw := BW.size
    rw [Hsz.out] at hsw
    have B1 := Hb0.out.trans (BW.mono (Nat.le_succ _))
    obtain ⟨d0, d1, d2⟩ := Hx0.out.below BW (Nat.lt_succ_self _)
    simp only [Nat.zero_add] at d0 d1 d2
    by_cases hlt : lo < hi
    · obtain ⟨m, hm⟩ : ∃ m, (lo + hi) / 2 = m := ⟨_, rfl⟩
      have rm : ((lo : Int) + (hi : Int)) / 2 = (m : Int) := by omega
      have hml : m < l.length := by omega
      have hmi : (m : Int) < l.length := by omega
      have hm0 : (0 : Int) ≤ m := by omega
      have hn := (Hc.out m hml).below B1 hb
      have hcall := HC.out (l.getD m ln0)
      have hpos := HP.out m hml
      rw [← cmpL_neg] at hpos
      generalize cmpL (l.getD m ln0) _ = r at *
      generalize l.getD m ln0 = y at *
      obtain ⟨y0, y1, y2⟩ := y
      obtain ⟨c0, c1, c2⟩ := hn
      simp only at c0 c1 c2 hcall
      have Hcall : Hid _ := hcall
      clear hcall
      by_cases hyx : r < 0
      · have h1 : m < p := by rw [decide_eq_true hyx] at hpos; simpa using hpos.symm
        clear hpos
        go_wp2
        go_region_with (go_at_fn 55; refine (Hcall.out _).mono ?_; rintro e w' ⟨rfl, hb'⟩)
        all_goals
          go_wp2
          go_roundg (hi - (m + 1))
          case measure => omega
          case rel => exact ⟨m + 1, hi, by go_num, rfl, by omega, by omega, by omega, by omega, BW.drew.trans (hb'.mono (by simp; omega))⟩
      · have h1 : ¬ m < p := by rw [decide_eq_false hyx] at hpos; simpa using hpos.symm
        clear hpos
        go_wp2
        go_region_with (go_at_fn 55; refine (Hcall.out _).mono ?_; rintro e w' ⟨rfl, hb'⟩)
        all_goals
          go_wp2
          go_roundg (m - lo)
          case measure => omega
          case rel => exact ⟨lo, m, rfl, by go_num, by omega, by omega, by omega, by omega, BW.drew.trans (hb'.mono (by simp; omega))⟩
    · have : hi = lo := by omega
      subst this
      have : hi = p := by omega
      subst this
      by_cases hn : hi < l.length
      · have hni : decide ((hi : Int) < l.length) = true := by simp; omega
        have hn1 : (hi : Int) < l.length := by omega
        have hn0 : (0 : Int) ≤ hi := by omega
        have hnn := (Hc.out hi hn).below B1 hb
        have hcall := HC.out (l.getD hi ln0)
        have hF := HF.out
        rw [decide_eq_true hn, Bool.true_and, ← cmpL_zero] at hF
        clear HF HP
        generalize cmpL (l.getD hi ln0) _ = r at *
        generalize l.getD hi ln0 = y at *
        obtain ⟨y0, y1, y2⟩ := y
        obtain ⟨c0, c1, c2⟩ := hnn
        simp only at c0 c1 c2 hcall
        have Hcall : Hid _ := hcall
        clear hcall
        subst hF
        have hbw : b < wr.heap.size := by omega
        have hww : w.heap.size < wr.heap.size := by omega
        have HK : Hid (∀ w', Below wr.drew.heap.size wr.drew w' → (w'.cell? ⟨w.heap.size, 0, none⟩ = some (.string x0) ∧ w'.cell? ⟨w.heap.size, 1, none⟩ = some (.string x1) ∧ w'.cell? ⟨w.heap.size, 2, none⟩ = some (.int .i64 x2)) ∧ w'.cell? ⟨b, off + hi * 3, none⟩ = some (.string y0) ∧ w'.cell? ⟨b, off + hi * 3 + 1, none⟩ = some (.string y1) ∧ w'.cell? ⟨b, off + hi * 3 + 2, none⟩ = some (.int .i64 y2)) := fun w' h =>
          ⟨⟨(h.cell (p := ⟨w.heap.size, 0, none⟩) hww).trans d0, (h.cell (p := ⟨w.heap.size, 1, none⟩) hww).trans d1, (h.cell (p := ⟨w.heap.size, 2, none⟩) hww).trans d2⟩, (h.cell (p := ⟨b, off + hi * 3, none⟩) hbw).trans c0, (h.cell (p := ⟨b, off + hi * 3 + 1, none⟩) hbw).trans c1, (h.cell (p := ⟨b, off + hi * 3 + 2, none⟩) hbw).trans c2⟩
        go_wp2
        go_region_held3 (fun u => (u.cell? ⟨w.heap.size, 0, none⟩ = some (.string x0) ∧ u.cell? ⟨w.heap.size, 1, none⟩ = some (.string x1) ∧ u.cell? ⟨w.heap.size, 2, none⟩ = some (.int .i64 x2)) ∧ u.cell? ⟨b, off + hi * 3, none⟩ = some (.string y0) ∧ u.cell? ⟨b, off + hi * 3 + 1, none⟩ = some (.string y1) ∧ u.cell? ⟨b, off + hi * 3 + 2, none⟩ = some (.int .i64 y2)) (go_keep) (first | (go_at_fn 55; refine (Hcall.out _).mono ?_; rintro e w' ⟨rfl, hb'⟩; obtain ⟨⟨q0, q1, q2⟩, q3, q4, q5⟩ := HK.out _ hb'))
        all_goals
          go_wp2
          go_ret2
          refine ⟨?_, B1.drew.trans (hb'.mono (by simp; omega))⟩
          first | rfl | (by_cases hr : r = 0 <;> simp [hr]; done)
      · have hni : decide ((hi : Int) < l.length) = false := by simp; omega
        have hF := HF.out
        rw [decide_eq_false hn, Bool.false_and] at hF
        subst hF
        clear HF
        go_wp2
        go_quiet (fail)
        go_wp2
        go_ret2
        exact ⟨rfl, en_drewN B1 _⟩

theorem search_none (a : Option Addr) (cap : Nat) (x : Ln) (w : World) :
    Calls Tryd.prog 54 #[.slice a 0 cap, .agg x.cells, .func (.func 55) #[] #[]] w fun e w' => e = .returned (.tuple #[.int .i64 0, .bool false]) ∧ Below w.heap.size w w' := by
  have b0 : Below w.heap.size w (w.alloc (.cells x.cells 55)) := (Below.refl _ w).alloc (Nat.le_refl _) _
  obtain ⟨x0, x1, x2⟩ := x
  simp only [Ln.cells] at b0 ⊢
  go_enter Tryd.func54, Tryd.ntmps54
  go_wp2
  refine wp_loop_rounds 1 ?_
  rw [rounds_succ]
  go_wp2
  go_quiet (fail)
  go_wp2
  go_ret2
  exact ⟨rfl, en_drewN b0 _⟩

theorem search_any (a : Option Addr) (cap : Nat) (l : List Ln) (x : Ln) (w : World) (hlen : l.length ≤ 1000) (h : IsLn w a l cap) (hs : SortL l) :
    Calls Tryd.prog 54 #[.slice a l.length cap, .agg x.cells, .func (.func 55) #[] #[]] w fun e w' => e = .returned (.tuple #[.int .i64 (posL x l : Nat), .bool (hasL x l)]) ∧ Below w.heap.size w w' := by
  rcases h.lies with rfl | ⟨b, off, rfl, hlt, hc⟩
  · exact search_none a cap x w
  · exact search_some b off cap l x w hlt hlen hc hs
end Go.Proofs.YtffekgndlhleiaaDoor
