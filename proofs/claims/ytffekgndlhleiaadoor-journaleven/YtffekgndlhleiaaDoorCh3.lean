/-
  The contracts of chart.checkNext and chart.Check: what is wrong with a chart.
-/
import Derived.Test.YtffekgndlhleiaaDoorCh2
import Derived.Deep.RegionWith
import Derived.Laws.Cover1
import Derived.Laws.BitsLemmas
namespace Go.Proofs.YtffekgndlhleiaaDoor
set_option linter.unusedVariables false
set_option linter.unusedSimpArgs false
set_option maxRecDepth 100000
open Go.RowKit Go.Lib

/-- A text is not above another one. -/
def leB (a b : ByteArray) : Bool := Op.bytesLess a.toList b.toList || a.toList == b.toList

/-- What is wrong with an account that follows others. -/
def nextBad (pre : List Ac) (x : Ac) : Int :=
  if isCodeB x.code = false ∨ isNameB x.name = false then 2
  else if x.kind < 1 ∨ 5 < x.kind then 1
  else if pre.length ≠ 0 ∧ leB x.code (pre.getD (pre.length - 1) ac0).code = true then 5
  else parBad pre x

def chGo : List Ac → List Ac → Int
  | _, [] => 0
  | pre, x :: r => if nextBad pre x ≠ 0 then nextBad pre x else chGo (pre ++ [x]) r
/-- What is wrong with a chart. -/
def chBad (l : List Ac) : Int := if 60 < l.length then 4 else chGo [] l

set_option maxHeartbeats 2000000 in
theorem checkNext_any (a : Option Addr) (cap : Nat) (pre : List Ac) (x : Ac) (w : World) (hlen : pre.length ≤ 1000) (h : IsSl w a pre cap) :
    Calls Tryd.prog 60 #[.slice a pre.length cap, .agg x.cells] w fun e w' => e = .returned (chE (nextBad pre x)) ∧ Below w.heap.size w w' := by
  have hn := AcAt.new w x 39
  have b0 : Below w.heap.size w (w.alloc (.cells x.cells 39)) := (Below.refl _ w).alloc (Nat.le_refl _) _
  have hsz : (w.alloc (.cells x.cells 39)).heap.size = w.heap.size + 1 := by simp
  have HP : Hid (∀ W, Below w.heap.size w W → Calls Tryd.prog 68 #[.slice a pre.length cap, .agg x.cells] W fun e w' => e = .returned (chE (parBad pre x)) ∧ Below w.heap.size w w') := fun W hW => by
    refine (checkParent_any a cap pre x W hlen (h.below hW)).mono ?_
    rintro e w' ⟨rfl, hb⟩
    exact ⟨rfl, hW.trans (hb.mono hW.size)⟩
  have HL : Hid (pre.length ≠ 0 → ∃ b off, a = some ⟨b, off, none⟩ ∧ b < w.heap.size ∧ AcsAt w b off pre) := fun h0 => by
    rcases h.lies with rfl | h
    · exact absurd rfl h0
    · exact h
  clear h
  obtain ⟨res, hres⟩ : ∃ res, nextBad pre x = res := ⟨_, rfl⟩
  have Hres : Hid (nextBad pre x = res) := hres
  rw [hres]
  clear hres
  obtain ⟨x0, x1, x2, x3, x4⟩ := x
  simp only [Ac.cells] at hn b0 hsz HP ⊢
  have hn0 := hn
  obtain ⟨c0, c1, c2, c3, c4⟩ := hn
  simp only [Nat.zero_add] at c0 c1 c2 c3 c4
  go_enter Tryd.func60, Tryd.ntmps60
  go_wp2_with fail
  refine (isCode_any x0 _).mono ?_
  rintro e w1 ⟨rfl, hb1⟩
  rw [hsz] at hb1
  have hs1 := hb1.size
  rw [hsz] at hs1
  have B1 := b0.trans (hb1.mono (Nat.le_succ _))
  have hn1 := hn0.below hb1 (Nat.lt_succ_self _)
  clear c0 c1 c2 c3 c4 hn0 hb1 b0 hsz
  cases h1 : isCodeB x0
  · have er : res = 2 := by rw [← Hres.out]; simp [nextBad, h1]
    subst er
    go_wp2
    go_ret
    exact ⟨rfl, B1⟩
  have hn10 := hn1
  obtain ⟨c0, c1, c2, c3, c4⟩ := hn1
  simp only [Nat.zero_add] at c0 c1 c2 c3 c4
  go_wp2_with fail
  refine (isName_any x1 _).mono ?_
  rintro e w2 ⟨rfl, hb2⟩
  have hs2 := hb2.size
  have B2 := B1.trans (hb2.mono (by omega))
  have hn2 := hn10.below hb2 (by omega)
  clear c0 c1 c2 c3 c4 hn10 hb2 B1
  cases h2 : isNameB x1
  · have er : res = 2 := by rw [← Hres.out]; simp [nextBad, h2]
    subst er
    go_wp2
    go_ret
    exact ⟨rfl, B2⟩
  obtain ⟨c0, c1, c2, c3, c4⟩ := hn2
  simp only [Nat.zero_add] at c0 c1 c2 c3 c4
  by_cases h3 : x2 < 1
  · have er : res = 1 := by rw [← Hres.out]; simp [nextBad, h1, h2, h3]
    subst er
    go_wp2
    go_ret
    exact ⟨rfl, B2⟩
  by_cases h4 : 5 < x2
  · have er : res = 1 := by rw [← Hres.out]; simp [nextBad, h1, h2, h4]
    subst er
    go_wp2
    go_ret
    exact ⟨rfl, B2⟩
  have er : res = if pre.length ≠ 0 ∧ leB x0 (pre.getD (pre.length - 1) ac0).code = true then 5 else parBad pre ⟨x0, x1, x2, x3, x4⟩ := by
    rw [← Hres.out]; unfold nextBad
    rw [if_neg (by simp [h1, h2]), if_neg (by simp; omega)]
  have ER : Hid (res = if pre.length ≠ 0 ∧ leB x0 (pre.getD (pre.length - 1) ac0).code = true then 5 else parBad pre ⟨x0, x1, x2, x3, x4⟩) := er
  clear er Hres
  by_cases h5 : pre.length = 0
  · have er : parBad pre ⟨x0, x1, x2, x3, x4⟩ = res := by rw [ER.out, if_neg (fun h => h.1 h5)]
    have HP2 := HP.out
    rw [er, h5] at HP2
    have HP3 : Hid _ := HP2
    rw [h5]
    clear HP HP2 HL ER er
    go_wp2_with fail
    go_quiet (fail)
    go_wp2_with fail
    refine (HP3.out _ (ch_drewN B2 _)).mono ?_
    rintro e w3 ⟨rfl, B3⟩
    go_wp2
    go_ret
    exact ⟨rfl, B3⟩
  · obtain ⟨b, off, rfl, hlt, hc⟩ := HL.out h5
    obtain ⟨m, hm⟩ : ∃ m, pre.length = m + 1 := ⟨pre.length - 1, by omega⟩
    have hp := (hc m (by omega)).below B2 hlt
    have ER2 : Hid (res = if leB x0 (pre.getD m ac0).code = true then 5 else parBad pre ⟨x0, x1, x2, x3, x4⟩) := by
      unfold Hid; rw [ER.out, hm, show m + 1 - 1 = m by omega]; simp
    clear ER HL hc
    generalize pre.getD m ac0 = y at *
    obtain ⟨y0, y1, y2, y3, y4⟩ := y
    obtain ⟨d0, d1, d2, d3, d4⟩ := hp
    simp only at d0 d1 d2 d3 d4
    have hle : (m : Int) + 1 ≤ 1000 := by omega
    have hm0 : (0 : Int) ≤ m := by omega
    have hm1 : (m : Int) < (m : Int) + 1 := by omega
    have hmw : IntKind.i64.wrap (m : Int) = m := by rw [IntKind.wrap_i64]; omega
    rw [hm] at HP ⊢
    cases b1 : Op.bytesLess x0.toList y0.toList
    · cases b2 : (x0.toList == y0.toList)
      · have er : parBad pre ⟨x0, x1, x2, x3, x4⟩ = res := by rw [ER2.out, if_neg (by simp only [leB, b1, b2]; simp)]
        rw [er] at HP
        go_wp2_with fail
        go_quiet (fail)
        go_wp2_with fail
        refine (HP.out _ (ch_drewN B2 _)).mono ?_
        rintro e w3 ⟨rfl, B3⟩
        go_wp2
        go_ret
        exact ⟨rfl, B3⟩
      · have er : res = 5 := by rw [ER2.out, if_pos (by simp only [leB, b1, b2]; simp)]
        subst er
        clear HP
        go_wp2_with fail
        go_quiet (fail)
        go_wp2
        go_ret
        exact ⟨rfl, ch_drewN B2 _⟩
    · have er : res = 5 := by rw [ER2.out, if_pos (by simp only [leB, b1]; simp)]
      subst er
      clear HP
      go_wp2_with fail
      go_quiet (fail)
      go_wp2
      go_ret
      exact ⟨rfl, ch_drewN B2 _⟩

theorem chCheck_full (a : Option Addr) (len cap : Nat) (w : World) (h : 60 < len) :
    Calls Tryd.prog 45 #[.slice a len cap] w fun e w' => e = .returned (chE 4) ∧ Below w.heap.size w w' := by
  have h' : (60 : Int) < len := by omega
  go_enter Tryd.func45, Tryd.ntmps45
  go_wp2
  go_ret
  exact ⟨rfl, Below.refl _ _⟩

theorem chCheck_none (a : Option Addr) (cap : Nat) (w : World) :
    Calls Tryd.prog 45 #[.slice a 0 cap] w fun e w' => e = .returned (chE 0) ∧ Below w.heap.size w w' := by
  go_enter Tryd.func45, Tryd.ntmps45
  go_wp2
  refine wp_loop_rounds 1 ?_
  rw [rounds_succ]
  go_wp2
  go_ret
  exact ⟨rfl, Below.refl _ _⟩

set_option maxHeartbeats 2000000 in
theorem chCheck_some (b off cap : Nat) (l : List Ac) (w : World) (hb : b < w.heap.size) (hlen : l.length ≤ 60) (hcap : l.length ≤ cap) (hc : AcsAt w b off l) :
    Calls Tryd.prog 45 #[.slice (some ⟨b, off, none⟩) l.length cap] w fun e w' => e = .returned (chE (chGo [] l)) ∧ Below w.heap.size w w' := by
  have Hlen : (l.length : Int) ≤ 60 := by omega
  have Hsl : Hid (∀ k W, Below w.heap.size w W → IsSl W (some ⟨b, off, none⟩) (l.take k) cap) := fun k W hW => (IsSl.below ⟨hcap, .inr ⟨b, off, rfl, hb, hc⟩⟩ hW).take k
  have Hc : Hid (AcsAt w b off l) := hc
  clear hc
  obtain ⟨res, hres⟩ : ∃ res, chGo [] l = res := ⟨_, rfl⟩
  have Hres : Hid (chGo [] l = res) := hres
  rw [hres]
  clear hres
  go_enter Tryd.func45, Tryd.ntmps45
  go_wp2
  go_loopw [12] (fun i wr => ∃ k : Nat, k ≤ l.length ∧ i = .int .i64 k ∧ Hid (chGo (l.take k) (l.drop k) = res) ∧ Below w.heap.size w wr) (fun i _ => l.length - (intOf i).toNat)
  case atStart => exact ⟨0, Nat.zero_le _, rfl, by unfold Hid; simpa using Hres.out, Below.refl _ _⟩
  case round =>
    obtain ⟨k, hk, rfl, H, BW⟩ := hrel
    by_cases hlt : k < l.length
    · have hn := (Hc.out k hlt).below BW hb
      have E : Hid ((if nextBad (l.take k) (l.getD k ac0) ≠ 0 then nextBad (l.take k) (l.getD k ac0) else chGo (l.take (k + 1)) (l.drop (k + 1))) = res) := by
        have := H.out
        rw [acs_drop l k hlt] at this
        have e2 : l.take k ++ [l.getD k ac0] = l.take (k + 1) := by
          rw [List.take_succ_eq_append_getElem hlt, List.getD_eq_getElem?_getD, List.getElem?_eq_getElem hlt]; rfl
        unfold Hid
        rw [← e2]
        exact this
      have hcall : ∀ W, Below w.heap.size w W → Calls Tryd.prog 60 #[.slice (some ⟨b, off, none⟩) k cap, .agg (l.getD k ac0).cells] W fun e w' => e = .returned (chE (nextBad (l.take k) (l.getD k ac0))) ∧ Below w.heap.size w w' := fun W hW => by
        have := checkNext_any (some ⟨b, off, none⟩) cap (l.take k) (l.getD k ac0) W (by simp; omega) (Hsl.out k W hW)
        rw [show (l.take k).length = k by simp; omega] at this
        refine this.mono ?_
        rintro e w' ⟨rfl, hb'⟩
        exact ⟨rfl, hW.trans (hb'.mono hW.size)⟩
      clear H
      obtain ⟨bad, hbad⟩ : ∃ bad, nextBad (l.take k) (l.getD k ac0) = bad := ⟨_, rfl⟩
      rw [hbad] at hcall E
      clear hbad
      generalize l.getD k ac0 = x at *
      obtain ⟨x0, x1, x2, x3, x4⟩ := x
      obtain ⟨c0, c1, c2, c3, c4⟩ := hn
      simp only [Ac.cells] at c0 c1 c2 c3 c4 hcall
      have Hcall : Hid (∀ W, _) := hcall
      clear hcall
      have i0 : (0 : Int) ≤ k := by omega
      have i1 : (k : Int) < l.length := by omega
      have i2 : (k : Int) ≤ cap := by omega
      have B2 := BW.alloc BW.size (.cells #[.string x0, .string x1, .int .i64 x2, .string x3, .bool x4] 39)
      by_cases hb0 : bad = 0
      · subst hb0
        have HN : Hid (chGo (l.take (k + 1)) (l.drop (k + 1)) = res) := by
          have := E.out; rw [if_neg (by simp)] at this; exact this
        rw [chE_zero] at Hcall
        go_wp2_with fail
        go_region_with (go_at_call 60; refine (Hcall.out _ B2.drew).mono ?_; rintro e w' ⟨rfl, hb'⟩)
        all_goals
          go_wp2
          go_roundw
          case rel => exact ⟨k + 1, by omega, by go_num, HN, hb'⟩
          case measure => simp [intOf]; omega
      · have er : res = bad := by rw [← E.out, if_pos hb0]
        subst er
        have hE := chE_ne hb0
        rw [hE] at Hcall
        have HE : Hid (chE res = _) := hE
        clear hE
        go_wp2_with fail
        go_region_with (go_at_call 60; refine (Hcall.out _ B2.drew).mono ?_; rintro e w' ⟨rfl, hb'⟩)
        all_goals
          go_wp2
          go_ret
          exact ⟨by rw [HE.out]; rfl, hb'⟩
    · have hk2 : k = l.length := by omega
      subst hk2
      have er : res = 0 := by rw [← H.out, List.drop_length]; rfl
      subst er
      go_wp2
      go_ret
      exact ⟨rfl, BW⟩

theorem chCheck_any (a : Option Addr) (cap : Nat) (l : List Ac) (w : World) (h : IsSl w a l cap) :
    Calls Tryd.prog 45 #[.slice a l.length cap] w fun e w' => e = .returned (chE (chBad l)) ∧ Below w.heap.size w w' := by
  unfold chBad
  by_cases h60 : 60 < l.length
  · rw [if_pos h60]
    exact chCheck_full a l.length cap w h60
  · rw [if_neg h60]
    rcases h.lies with rfl | ⟨b, off, rfl, hlt, hc⟩
    · exact chCheck_none a cap w
    · exact chCheck_some b off cap l w hlt (by omega) h.cap hc

theorem chBad_len {l : List Ac} (h : chBad l = 0) : l.length ≤ 60 := by
  unfold chBad at h
  split at h
  · omega
  · omega

/-- What is found: what is wrong, and the place. -/
def placeBad (l : List Ac) (c : ByteArray) : Int := if chBad l ≠ 0 then chBad l else if idxP (hasCode c) l < 0 then 6 else 0
def placeAt (l : List Ac) (c : ByteArray) : Int := if placeBad l c = 0 then idxP (hasCode c) l else 0

end Go.Proofs.YtffekgndlhleiaaDoor
