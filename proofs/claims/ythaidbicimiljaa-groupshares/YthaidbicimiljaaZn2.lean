/-
  The contract of chart.Under.
-/
import Derived.Test.YthaidbicimiljaaZn1
import Derived.Deep.RegionWith
import Derived.Laws.Cover1
import Derived.Laws.BitsLemmas
import Derived.Deep.AppendLies
import Derived.Deep.RegionHeldLaw
import Derived.RangeFuncBox
import Derived.Deep.RegionLaw
namespace Go.Proofs.Ythaidbicimiljaa
set_option linter.unusedVariables false
set_option linter.unusedSimpArgs false
set_option maxRecDepth 100000
open Go.RowKit Go.Lib

/-- A text is not above another one. -/
def leB (a b : ByteArray) : Bool := Op.bytesLess a.toList b.toList || a.toList == b.toList

/-- What is wrong with an account that follows others. -/
def nextBad (pre : List Ac) (x : Ac) : Int :=
  if isCodeB x.code = false ∨ isNameB x.name = false then 2
  else if x.kind < 1 ∨ 5 < x.kind then 1
  else if pre.length ≠ 0 ∧ leB x.code (pre.getD (pre.length - 1) ac0).code = true then 5
  else parBad pre x

def chGo : List Ac → List Ac → Int
  | _, [] => 0
  | pre, x :: r => if nextBad pre x ≠ 0 then nextBad pre x else chGo (pre ++ [x]) r
/-- What is wrong with a chart. -/
def chBad (l : List Ac) : Int := if 60 < l.length then 4 else chGo [] l

set_option maxHeartbeats 2000000 in
theorem checkNext_any (a : Option Addr) (cap : Nat) (pre : List Ac) (x : Ac) (w : World) (hlen : pre.length ≤ 1000) (h : IsSl w a pre cap) :
    Calls Try.prog 23 #[.slice a pre.length cap, .agg x.cells] w fun e w' => e = .returned (chE (nextBad pre x)) ∧ Below w.heap.size w w' := by
  have hn := AcAt.new w x 53
  have b0 : Below w.heap.size w (w.alloc (.cells x.cells 53)) := (Below.refl _ w).alloc (Nat.le_refl _) _
  have hsz : (w.alloc (.cells x.cells 53)).heap.size = w.heap.size + 1 := by simp
  have HP : Hid (∀ W, Below w.heap.size w W → Calls Try.prog 44 #[.slice a pre.length cap, .agg x.cells] W fun e w' => e = .returned (chE (parBad pre x)) ∧ Below w.heap.size w w') := fun W hW => by
    refine (checkParent_any a cap pre x W hlen (h.below hW)).mono ?_
    rintro e w' ⟨rfl, hb⟩
    exact ⟨rfl, hW.trans (hb.mono hW.size)⟩
  have HL : Hid (pre.length ≠ 0 → ∃ b off, a = some ⟨b, off, none⟩ ∧ b < w.heap.size ∧ AcsAt w b off pre) := fun h0 => by
    rcases h.lies with rfl | h
    · exact absurd rfl h0
    · exact h
  clear h
  obtain ⟨res, hres⟩ : ∃ res, nextBad pre x = res := ⟨_, rfl⟩
  have Hres : Hid (nextBad pre x = res) := hres
  rw [hres]
  clear hres
  obtain ⟨x0, x1, x2, x3, x4⟩ := x
  simp only [Ac.cells] at hn b0 hsz HP ⊢
  have hn0 := hn
  obtain ⟨c0, c1, c2, c3, c4⟩ := hn
  simp only [Nat.zero_add] at c0 c1 c2 c3 c4
  go_enter Try.func23, Try.ntmps23
  go_wp2_with fail
  refine (isCode_any x0 _).mono ?_
  rintro e w1 ⟨rfl, hb1⟩
  rw [hsz] at hb1
  have hs1 := hb1.size
  rw [hsz] at hs1
  have B1 := b0.trans (hb1.mono (Nat.le_succ _))
  have hn1 := hn0.below hb1 (Nat.lt_succ_self _)
  clear c0 c1 c2 c3 c4 hn0 hb1 b0 hsz
  cases h1 : isCodeB x0
  · have er : res = 2 := by rw [← Hres.out]; simp [nextBad, h1]
    subst er
    go_wp2
    go_ret
    exact ⟨rfl, B1⟩
  have hn10 := hn1
  obtain ⟨c0, c1, c2, c3, c4⟩ := hn1
  simp only [Nat.zero_add] at c0 c1 c2 c3 c4
  go_wp2_with fail
  refine (isName_any x1 _).mono ?_
  rintro e w2 ⟨rfl, hb2⟩
  have hs2 := hb2.size
  have B2 := B1.trans (hb2.mono (by omega))
  have hn2 := hn10.below hb2 (by omega)
  clear c0 c1 c2 c3 c4 hn10 hb2 B1
  cases h2 : isNameB x1
  · have er : res = 2 := by rw [← Hres.out]; simp [nextBad, h2]
    subst er
    go_wp2
    go_ret
    exact ⟨rfl, B2⟩
  obtain ⟨c0, c1, c2, c3, c4⟩ := hn2
  simp only [Nat.zero_add] at c0 c1 c2 c3 c4
  by_cases h3 : x2 < 1
  · have er : res = 1 := by rw [← Hres.out]; simp [nextBad, h1, h2, h3]
    subst er
    go_wp2
    go_ret
    exact ⟨rfl, B2⟩
  by_cases h4 : 5 < x2
  · have er : res = 1 := by rw [← Hres.out]; simp [nextBad, h1, h2, h4]
    subst er
    go_wp2
    go_ret
    exact ⟨rfl, B2⟩
  have er : res = if pre.length ≠ 0 ∧ leB x0 (pre.getD (pre.length - 1) ac0).code = true then 5 else parBad pre ⟨x0, x1, x2, x3, x4⟩ := by
    rw [← Hres.out]; unfold nextBad
    rw [if_neg (by simp [h1, h2]), if_neg (by simp; omega)]
  have ER : Hid (res = if pre.length ≠ 0 ∧ leB x0 (pre.getD (pre.length - 1) ac0).code = true then 5 else parBad pre ⟨x0, x1, x2, x3, x4⟩) := er
  clear er Hres
  by_cases h5 : pre.length = 0
  · have er : parBad pre ⟨x0, x1, x2, x3, x4⟩ = res := by rw [ER.out, if_neg (fun h => h.1 h5)]
    have HP2 := HP.out
    rw [er, h5] at HP2
    have HP3 : Hid _ := HP2
    rw [h5]
    clear HP HP2 HL ER er
    go_wp2_with fail
    go_quiet (fail)
    go_wp2_with fail
    refine (HP3.out _ (ch_drewN B2 _)).mono ?_
    rintro e w3 ⟨rfl, B3⟩
    go_wp2
    go_ret
    exact ⟨rfl, B3⟩
  · obtain ⟨b, off, rfl, hlt, hc⟩ := HL.out h5
    obtain ⟨m, hm⟩ : ∃ m, pre.length = m + 1 := ⟨pre.length - 1, by omega⟩
    have hp := (hc m (by omega)).below B2 hlt
    have ER2 : Hid (res = if leB x0 (pre.getD m ac0).code = true then 5 else parBad pre ⟨x0, x1, x2, x3, x4⟩) := by
      unfold Hid; rw [ER.out, hm, show m + 1 - 1 = m by omega]; simp
    clear ER HL hc
    generalize pre.getD m ac0 = y at *
    obtain ⟨y0, y1, y2, y3, y4⟩ := y
    obtain ⟨d0, d1, d2, d3, d4⟩ := hp
    simp only at d0 d1 d2 d3 d4
    have hle : (m : Int) + 1 ≤ 1000 := by omega
    have hm0 : (0 : Int) ≤ m := by omega
    have hm1 : (m : Int) < (m : Int) + 1 := by omega
    have hmw : IntKind.i64.wrap (m : Int) = m := by rw [IntKind.wrap_i64]; omega
    rw [hm] at HP ⊢
    cases b1 : Op.bytesLess x0.toList y0.toList
    · cases b2 : (x0.toList == y0.toList)
      · have er : parBad pre ⟨x0, x1, x2, x3, x4⟩ = res := by rw [ER2.out, if_neg (by simp only [leB, b1, b2]; simp)]
        rw [er] at HP
        go_wp2_with fail
        go_quiet (fail)
        go_wp2_with fail
        refine (HP.out _ (ch_drewN B2 _)).mono ?_
        rintro e w3 ⟨rfl, B3⟩
        go_wp2
        go_ret
        exact ⟨rfl, B3⟩
      · have er : res = 5 := by rw [ER2.out, if_pos (by simp only [leB, b1, b2]; simp)]
        subst er
        clear HP
        go_wp2_with fail
        go_quiet (fail)
        go_wp2
        go_ret
        exact ⟨rfl, ch_drewN B2 _⟩
    · have er : res = 5 := by rw [ER2.out, if_pos (by simp only [leB, b1]; simp)]
      subst er
      clear HP
      go_wp2_with fail
      go_quiet (fail)
      go_wp2
      go_ret
      exact ⟨rfl, ch_drewN B2 _⟩

theorem chCheck_full (a : Option Addr) (len cap : Nat) (w : World) (h : 60 < len) :
    Calls Try.prog 11 #[.slice a len cap] w fun e w' => e = .returned (chE 4) ∧ Below w.heap.size w w' := by
  have h' : (60 : Int) < len := by omega
  go_enter Try.func11, Try.ntmps11
  go_wp2
  go_ret
  exact ⟨rfl, Below.refl _ _⟩

theorem chCheck_none (a : Option Addr) (cap : Nat) (w : World) :
    Calls Try.prog 11 #[.slice a 0 cap] w fun e w' => e = .returned (chE 0) ∧ Below w.heap.size w w' := by
  go_enter Try.func11, Try.ntmps11
  go_wp2
  refine wp_loop_rounds 1 ?_
  rw [rounds_succ]
  go_wp2
  go_ret
  exact ⟨rfl, Below.refl _ _⟩

set_option maxHeartbeats 2000000 in
theorem chCheck_some (b off cap : Nat) (l : List Ac) (w : World) (hb : b < w.heap.size) (hlen : l.length ≤ 60) (hcap : l.length ≤ cap) (hc : AcsAt w b off l) :
    Calls Try.prog 11 #[.slice (some ⟨b, off, none⟩) l.length cap] w fun e w' => e = .returned (chE (chGo [] l)) ∧ Below w.heap.size w w' := by
  have Hlen : (l.length : Int) ≤ 60 := by omega
  have Hsl : Hid (∀ k W, Below w.heap.size w W → IsSl W (some ⟨b, off, none⟩) (l.take k) cap) := fun k W hW => (IsSl.below ⟨hcap, .inr ⟨b, off, rfl, hb, hc⟩⟩ hW).take k
  have Hc : Hid (AcsAt w b off l) := hc
  clear hc
  obtain ⟨res, hres⟩ : ∃ res, chGo [] l = res := ⟨_, rfl⟩
  have Hres : Hid (chGo [] l = res) := hres
  rw [hres]
  clear hres
  go_enter Try.func11, Try.ntmps11
  go_wp2
  go_loopw [12] (fun i wr => ∃ k : Nat, k ≤ l.length ∧ i = .int .i64 k ∧ Hid (chGo (l.take k) (l.drop k) = res) ∧ Below w.heap.size w wr) (fun i _ => l.length - (RowKit.intOf i).toNat)
  case atStart => exact ⟨0, Nat.zero_le _, rfl, by unfold Hid; simpa using Hres.out, Below.refl _ _⟩
  case round =>
    obtain ⟨k, hk, rfl, H, BW⟩ := hrel
    by_cases hlt : k < l.length
    · have hn := (Hc.out k hlt).below BW hb
      have E : Hid ((if nextBad (l.take k) (l.getD k ac0) ≠ 0 then nextBad (l.take k) (l.getD k ac0) else chGo (l.take (k + 1)) (l.drop (k + 1))) = res) := by
        have := H.out
        rw [acs_drop l k hlt] at this
        have e2 : l.take k ++ [l.getD k ac0] = l.take (k + 1) := by
          rw [List.take_succ_eq_append_getElem hlt, List.getD_eq_getElem?_getD, List.getElem?_eq_getElem hlt]; rfl
        unfold Hid
        rw [← e2]
        exact this
      have hcall : ∀ W, Below w.heap.size w W → Calls Try.prog 23 #[.slice (some ⟨b, off, none⟩) k cap, .agg (l.getD k ac0).cells] W fun e w' => e = .returned (chE (nextBad (l.take k) (l.getD k ac0))) ∧ Below w.heap.size w w' := fun W hW => by
        have := checkNext_any (some ⟨b, off, none⟩) cap (l.take k) (l.getD k ac0) W (by simp; omega) (Hsl.out k W hW)
        rw [show (l.take k).length = k by simp; omega] at this
        refine this.mono ?_
        rintro e w' ⟨rfl, hb'⟩
        exact ⟨rfl, hW.trans (hb'.mono hW.size)⟩
      clear H
      obtain ⟨bad, hbad⟩ : ∃ bad, nextBad (l.take k) (l.getD k ac0) = bad := ⟨_, rfl⟩
      rw [hbad] at hcall E
      clear hbad
      generalize l.getD k ac0 = x at *
      obtain ⟨x0, x1, x2, x3, x4⟩ := x
      obtain ⟨c0, c1, c2, c3, c4⟩ := hn
      simp only [Ac.cells] at c0 c1 c2 c3 c4 hcall
      have Hcall : Hid (∀ W, _) := hcall
      clear hcall
      have i0 : (0 : Int) ≤ k := by omega
      have i1 : (k : Int) < l.length := by omega
      have i2 : (k : Int) ≤ cap := by omega
      have B2 := BW.alloc BW.size (.cells #[.string x0, .string x1, .int .i64 x2, .string x3, .bool x4] 53)
      by_cases hb0 : bad = 0
      · subst hb0
        have HN : Hid (chGo (l.take (k + 1)) (l.drop (k + 1)) = res) := by
          have := E.out; rw [if_neg (by simp)] at this; exact this
        rw [chE_zero] at Hcall
        go_wp2_with fail
        go_region_with (go_at_call 23; refine (Hcall.out _ B2.drew).mono ?_; rintro e w' ⟨rfl, hb'⟩)
        all_goals
          go_wp2
          go_roundw
          case rel => exact ⟨k + 1, by omega, by go_num, HN, hb'⟩
          case measure => simp [RowKit.intOf]; omega
      · have er : res = bad := by rw [← E.out, if_pos hb0]
        subst er
        have hE := chE_ne hb0
        rw [hE] at Hcall
        have HE : Hid (chE res = _) := hE
        clear hE
        go_wp2_with fail
        go_region_with (go_at_call 23; refine (Hcall.out _ B2.drew).mono ?_; rintro e w' ⟨rfl, hb'⟩)
        all_goals
          go_wp2
          go_ret
          exact ⟨by rw [HE.out]; rfl, hb'⟩
    · have hk2 : k = l.length := by omega
      subst hk2
      have er : res = 0 := by rw [← H.out, List.drop_length]; rfl
      subst er
      go_wp2
      go_ret
      exact ⟨rfl, BW⟩

theorem chCheck_any (a : Option Addr) (cap : Nat) (l : List Ac) (w : World) (h : IsSl w a l cap) :
    Calls Try.prog 11 #[.slice a l.length cap] w fun e w' => e = .returned (chE (chBad l)) ∧ Below w.heap.size w w' := by
  unfold chBad
  by_cases h60 : 60 < l.length
  · rw [if_pos h60]
    exact chCheck_full a l.length cap w h60
  · rw [if_neg h60]
    rcases h.lies with rfl | ⟨b, off, rfl, hlt, hc⟩
    · exact chCheck_none a cap w
    · exact chCheck_some b off cap l w hlt (by omega) h.cap hc

theorem chBad_len {l : List Ac} (h : chBad l = 0) : l.length ≤ 60 := by
  unfold chBad at h
  split at h
  · omega
  · omega

/-- What is found: what is wrong, and the place. -/
def placeBad (l : List Ac) (c : ByteArray) : Int := if chBad l ≠ 0 then chBad l else if idxP (hasCode c) l < 0 then 6 else 0
def placeAt (l : List Ac) (c : ByteArray) : Int := if placeBad l c = 0 then idxP (hasCode c) l else 0

theorem chPlace_any (a : Option Addr) (cap : Nat) (l : List Ac) (c : ByteArray) (w : World) (h : IsSl w a l cap) :
    Calls Try.prog 50 #[.slice a l.length cap, .string c] w fun e w' => e = .returned (.tuple #[.int .i64 (placeAt l c), chE (placeBad l c)]) ∧ Below w.heap.size w w' := by
  have HC := chCheck_any a cap l w h
  by_cases h0 : chBad l = 0
  · have HI : Hid (∀ W, Below w.heap.size w W → Calls Try.prog 67 #[.slice a l.length cap, .string c] W fun e w' => e = .returned (.int .i64 (idxP (hasCode c) l)) ∧ Below w.heap.size w w') := fun W hW => by
      refine (chIndex_any a cap l c W (by have := chBad_len h0; omega) (h.below hW)).mono ?_
      rintro e w' ⟨rfl, hb⟩
      exact ⟨rfl, hW.trans (hb.mono hW.size)⟩
    rw [h0, chE_zero] at HC
    by_cases h1 : idxP (hasCode c) l < 0
    · have e1 : placeBad l c = 6 := by simp [placeBad, h0, h1]
      have e2 : placeAt l c = 0 := by simp [placeAt, e1]
      rw [e1, e2]
      clear h
      go_enter Try.func50, Try.ntmps50
      go_wp2_with fail
      refine HC.mono ?_
      rintro e w1 ⟨rfl, hb1⟩
      go_wp2_with fail
      refine (HI.out w1 hb1).mono ?_
      rintro e w2 ⟨rfl, hb2⟩
      go_wp2
      go_ret2
      exact ⟨rfl, hb2⟩
    · have e1 : placeBad l c = 0 := by simp [placeBad, h0, h1]
      have e2 : placeAt l c = idxP (hasCode c) l := by simp [placeAt, e1]
      rw [e1, e2, chE_zero]
      clear h
      go_enter Try.func50, Try.ntmps50
      go_wp2_with fail
      refine HC.mono ?_
      rintro e w1 ⟨rfl, hb1⟩
      go_wp2_with fail
      refine (HI.out w1 hb1).mono ?_
      rintro e w2 ⟨rfl, hb2⟩
      go_wp2
      go_ret2
      exact ⟨rfl, hb2⟩
  · have e1 : placeBad l c = chBad l := by simp [placeBad, h0]
    have e2 : placeAt l c = 0 := by simp [placeAt, e1, h0]
    rw [e1, e2]
    rw [chE_ne h0] at HC ⊢
    clear h
    go_enter Try.func50, Try.ntmps50
    go_wp2_with fail
    refine HC.mono ?_
    rintro e w1 ⟨rfl, hb1⟩
    go_wp2
    go_ret2
    exact ⟨rfl, hb1⟩
end Go.Proofs.Ythaidbicimiljaa

namespace Go.Proofs.Ythaidbicimiljaa
set_option linter.unusedVariables false
set_option linter.unusedSimpArgs false
set_option maxRecDepth 100000
open Go.RowKit Go.Lib

/-- The place of a text among others, counted from a number on; else -1. -/
def txtFrom (c : ByteArray) : Nat → List ByteArray → Int
  | _, [] => -1
  | k, x :: l => if x = c then (k : Int) else txtFrom c (k + 1) l
def memB (c : ByteArray) (l : List ByteArray) : Bool := l.any fun x => decide (x = c)

theorem txtFrom_mem (c : ByteArray) : ∀ (l : List ByteArray) (k : Nat), decide (0 ≤ txtFrom c k l) = memB c l
  | [], k => by simp [txtFrom, memB]
  | x :: l, k => by
    have ih := txtFrom_mem c l (k + 1)
    by_cases h : x = c
    · rw [txtFrom, if_pos h]; simp [memB, h]
    · rw [txtFrom, if_neg h, ih]; simp [memB, h]

theorem txt_drop (l : List ByteArray) (k : Nat) (h : k < l.length) : l.drop k = l.getD k ByteArray.empty :: l.drop (k + 1) := by
  rw [List.drop_eq_getElem_cons h, List.getD_eq_getElem?_getD, List.getElem?_eq_getElem h]
  rfl

/-- Texts in a row of the call's own. -/
def TxtRow (w : World) (n : Nat) (v : Value) (fs : List ByteArray) : Prop := w.ownsRow n 9 1 v fs.length (fs.map Value.string)

theorem TxtRow.form {w : World} {n : Nat} {v : Value} {fs : List ByteArray} (h : TxtRow w n v fs) : (v = .slice none 0 0 ∧ fs = []) ∨ ∃ g cap, v = .slice (some ⟨g, 0, none⟩) fs.length cap ∧ n ≤ g ∧ g < w.heap.size ∧ fs.length ≤ cap ∧ ∀ k, k < fs.length → w.cell? ⟨g, k, none⟩ = some (.string (fs.getD k ByteArray.empty)) := by
  rcases h.2 with ⟨rfl, hn⟩ | ⟨g, cap, cur, rfl, hg, hh, hc, _⟩
  · exact .inl ⟨rfl, List.eq_nil_of_length_eq_zero hn⟩
  · refine .inr ⟨g, cap, rfl, hg, (Array.getElem?_eq_some_iff.1 hh).1, hc, fun k hk => ?_⟩
    have := World.ownsRow.cells h (g := g) rfl k (.string (fs.getD k ByteArray.empty)) (by simp [hk])
    rcases Nat.eq_zero_or_pos k with rfl | hp
    · simpa [Addr.add] using this
    · simpa [Addr.add, Nat.ne_of_gt hp] using this

set_option maxHeartbeats 1000000 in
theorem tIndex_some (g cap : Nat) (fs : List ByteArray) (c : ByteArray) (w : World) (hlen : fs.length ≤ 1000) (hc : ∀ k, k < fs.length → w.cell? ⟨g, k, none⟩ = some (.string (fs.getD k ByteArray.empty))) :
    Calls Try.prog 77 #[.slice (some ⟨g, 0, none⟩) fs.length cap, .string c] w fun e w' => e = .returned (.int .i64 (txtFrom c 0 fs)) ∧ w' = w := by
  have Hc : Hid (∀ k, k < fs.length → w.cell? ⟨g, k, none⟩ = some (.string (fs.getD k ByteArray.empty))) := hc
  have Hlen : (fs.length : Int) ≤ 1000 := by omega
  clear hc
  obtain ⟨res, hres⟩ : ∃ res, txtFrom c 0 fs = res := ⟨_, rfl⟩
  have Hres : Hid (txtFrom c 0 fs = res) := hres
  rw [hres]
  clear hres
  go_enter Try.func77, Try.ntmps77
  go_wp2
  go_loop [8] (fun i => ∃ k : Nat, k ≤ fs.length ∧ i = .int .i64 k ∧ Hid (txtFrom c k (fs.drop k) = res)) (fun i => fs.length - (RowKit.intOf i).toNat)
  case atStart => exact ⟨0, Nat.zero_le _, rfl, Hres.out⟩
  case round =>
    obtain ⟨k, hk, rfl, H⟩ := hrel
    by_cases hlt : k < fs.length
    · have hn := Hc.out k hlt
      have E : Hid ((if fs.getD k ByteArray.empty = c then (k : Int) else txtFrom c (k + 1) (fs.drop (k + 1))) = res) := by
        have := H.out
        rw [txt_drop fs k hlt] at this
        exact this
      clear H
      generalize fs.getD k ByteArray.empty = x at *
      have i0 : (0 : Int) ≤ k := by omega
      have i1 : (k : Int) < fs.length := by omega
      by_cases hx : x = c
      · have er : res = k := by rw [← E.out, if_pos hx]
        subst er
        subst hx
        go_wp2
        go_ret
        exact ⟨rfl, rfl⟩
      · have hx' := ch_ne (fun e => hx (Eq.symm e) : c ≠ x)
        have HN : Hid (txtFrom c (k + 1) (fs.drop (k + 1)) = res) := by
          have := E.out; rw [if_neg hx] at this; exact this
        go_wp2
        go_round
        case rel => exact ⟨k + 1, by omega, by go_num, HN⟩
        case measure => simp [RowKit.intOf]; omega
    · have hk2 : k = fs.length := by omega
      subst hk2
      have er : res = -1 := by rw [← H.out, List.drop_length]; rfl
      subst er
      go_wp2
      go_ret
      exact ⟨rfl, rfl⟩

theorem tIndex_none (c : ByteArray) (w : World) :
    Calls Try.prog 77 #[.slice none 0 0, .string c] w fun e w' => e = .returned (.int .i64 (-1)) ∧ w' = w := by
  go_enter Try.func77, Try.ntmps77
  go_wp2
  refine wp_loop_rounds 1 ?_
  rw [rounds_succ]
  go_wp2
  go_ret
  exact ⟨rfl, rfl⟩

theorem tContains_any (n : Nat) (v : Value) (fs : List ByteArray) (c : ByteArray) (w : World) (hlen : fs.length ≤ 1000) (h : TxtRow w n v fs) :
    Calls Try.prog 61 #[v, .string c] w fun e w' => e = .returned (.bool (memB c fs)) ∧ w' = w := by
  rw [← txtFrom_mem c fs 0]
  rcases h.form with ⟨rfl, rfl⟩ | ⟨g, cap, rfl, _, _, _, hc⟩
  · have hI := tIndex_none c w
    go_enter Try.func61, Try.ntmps61
    go_wp2_with fail
    refine hI.mono ?_
    rintro e w' ⟨rfl, rfl⟩
    go_wp2
    go_ret
    exact ⟨rfl, rfl⟩
  · have hI := tIndex_some g cap fs c w hlen hc
    clear hc h
    go_enter Try.func61, Try.ntmps61
    go_wp2_with fail
    refine hI.mono ?_
    rintro e w' ⟨rfl, rfl⟩
    go_wp2
    go_ret
    exact ⟨rfl, rfl⟩

/-- The places of those that are under a code, from one on. -/
def undGo (code : ByteArray) : List ByteArray → List Nat → Nat → List Ac → List Nat
  | _, pre, _, [] => pre
  | fs, pre, k, x :: r => if x.code = code ∨ memB x.par fs = true then undGo code (fs ++ [x.code]) (pre ++ [k]) (k + 1) r else undGo code fs pre (k + 1) r
def und (l : List Ac) (code : ByteArray) : List Nat := undGo code [] [] 0 l

/-- What is asked of a function that is told places, one by one. 'J gc pre W': in W, with a row of its own in block gc, these places have come. -/
structure Does (g : Nat) (lb : Value × Value) (n0 : Nat) (a : Option Addr) (l : List Ac) (cap : Nat) (J : Option Nat → List Nat → World → Prop) : Prop where
  eg : ∀ args W, (callFunc g args).run Try.prog W = .ok (.enter g args) W
  call : ∀ gc pre i W, J gc pre W → i < l.length → pre.length ≤ i → n0 ≤ W.heap.size → Calls Try.prog g #[.int .i64 (i : Nat), lb.1, lb.2] W fun e w' => e = .returned (.tuple #[]) ∧ ∃ gc', J gc' (pre ++ [i]) w' ∧ (gc' = gc ∨ ∃ h, gc' = some h ∧ W.heap.size ≤ h) ∧ W.heap.size ≤ w'.heap.size ∧ ∀ b, b < W.heap.size → n0 ≤ b → some b ≠ gc → w'.heap[b]? = W.heap[b]?
  keep : ∀ gc pre W W' row, J gc pre W → W.grownBy W' row → n0 ≤ W.heap.size → (∀ b, row = some b → n0 ≤ b ∧ gc ≠ some b) → J gc pre W'
  reads : ∀ gc pre W, J gc pre W → IsSl W a l cap
  lt : ∀ gc pre W, J gc pre W → ∀ b, gc = some b → b < W.heap.size

theorem str_info : (Try.prog.info? 9).map (fun i => (i.zero, i.size, i.bytes)) = some (some (.string ByteArray.empty), 1, 16) := by kernel_rfl

/-- What holds between two rounds. -/
structure UndAt (n0 : Nat) (J : Option Nat → List Nat → World → Prop) (gc : Option Nat) (pre : List Nat) (fs : List ByteArray) (v : Value) (W : World) : Prop where
  row : TxtRow W n0 v fs
  has : J gc pre W
  size : n0 ≤ W.heap.size
  apart : ∀ b, v.ownBlock = some b → gc ≠ some b

theorem heap_alloc_lt (W : World) (o : Obj) (b : Nat) (h : b < W.heap.size) : (W.alloc o).heap[b]? = W.heap[b]? := (World.grownBy_alloc W o none).block b h (by simp)

theorem UndAt.alloc {g : Nat} {lb : Value × Value} {n0 : Nat} {a : Option Addr} {l : List Ac} {cap : Nat} {J : Option Nat → List Nat → World → Prop} (D : Does g lb n0 a l cap J) {gc : Option Nat} {pre : List Nat} {fs : List ByteArray} {v : Value} {W : World} (h : UndAt n0 J gc pre fs v W) (o : Obj) : UndAt n0 J gc pre fs v (W.alloc o) :=
  ⟨World.ownsRow.alloc h.row o, D.keep gc pre W _ none h.has (World.grownBy_alloc W o none) h.size (fun b hb => by cases hb), by have := h.size; simp; omega, h.apart⟩

theorem UndAt.grown {g : Nat} {lb : Value × Value} {n0 : Nat} {a : Option Addr} {l : List Ac} {cap : Nat} {J : Option Nat → List Nat → World → Prop} (D : Does g lb n0 a l cap J) {gc : Option Nat} {pre : List Nat} {fs fs' : List ByteArray} {v : Value} {W w1 : World} (h : UndAt n0 J gc pre fs v W) {g' c' : Nat} (hown : TxtRow w1 n0 (.slice (some ⟨g', 0, none⟩) fs'.length c') fs') (hg : W.grownBy w1 v.ownBlock) (hat : v.ownBlock = some g' ∨ g' = W.heap.size) : UndAt n0 J gc pre fs' (.slice (some ⟨g', 0, none⟩) fs'.length c') w1 := by
  have hv : ∀ b, v.ownBlock = some b → n0 ≤ b := fun b hb => by
    rcases h.row.form with ⟨rfl, _⟩ | ⟨g, cp, rfl, hn, _⟩
    · cases hb
    · cases hb; exact hn
  refine ⟨hown, D.keep gc pre W w1 v.ownBlock h.has hg h.size (fun b hb => ⟨hv b hb, h.apart b hb⟩), by have := h.size; have := hg.size; omega, ?_⟩
  · intro b hb
    cases hb
    rcases hat with e | e
    · exact h.apart g' e
    · intro h2
      have := D.lt gc pre W h.has g' h2
      omega

/-- Behind a call of the function. -/
theorem UndAt.called {g : Nat} {lb : Value × Value} {n0 : Nat} {a : Option Addr} {l : List Ac} {cap : Nat} {J : Option Nat → List Nat → World → Prop} (D : Does g lb n0 a l cap J) {gc : Option Nat} {pre : List Nat} {fs : List ByteArray} {v : Value} {W : World} (h : UndAt n0 J gc pre fs v W) (i : Nat) (hi : i < l.length) (hp : pre.length ≤ i) :
    Calls Try.prog g #[.int .i64 (i : Nat), lb.1, lb.2] W fun e w' => e = .returned (.tuple #[]) ∧ ∃ gc', UndAt n0 J gc' (pre ++ [i]) fs v w' := by
  refine (D.call gc pre i W h.has hi hp h.size).mono ?_
  rintro e w' ⟨rfl, gc', hJ, hor, hs, hk⟩
  refine ⟨rfl, gc', ?_, hJ, Nat.le_trans h.size hs, ?_⟩
  · rcases h.row.2 with ⟨hv, hn⟩ | ⟨g1, c1, cur, hv, hb, hh, r1, r2, r3, r4⟩
    · exact ⟨h.row.1, .inl ⟨hv, hn⟩⟩
    · have hlt := (Array.getElem?_eq_some_iff.1 hh).1
      exact ⟨h.row.1, .inr ⟨g1, c1, cur, hv, hb, (hk g1 hlt hb (fun e => h.apart g1 (by rw [hv]; rfl) e.symm)).trans hh, r1, r2, r3, r4⟩⟩
  · intro b hb
    rcases hor with rfl | ⟨h1, rfl, h2⟩
    · exact h.apart b hb
    · intro e
      cases e
      rcases h.row.form with ⟨hv, _⟩ | ⟨g1, c1, hv, _, hlt, _⟩
      · rw [hv] at hb; cases hb
      · rw [hv] at hb; cases hb; simp only at h2; omega
end Go.Proofs.Ythaidbicimiljaa

namespace Go.Proofs.Ythaidbicimiljaa
set_option linter.unusedVariables false
set_option linter.unusedSimpArgs false
set_option maxRecDepth 100000
open Go.RowKit Go.Lib

theorem eachUnder_none (a : Option Addr) (cap : Nat) (code : ByteArray) (f : Value) (w : World) :
    Calls Try.prog 34 #[.slice a 0 cap, .string code, f] w fun e w' => e = .returned (.tuple #[]) ∧ w' = w := by
  go_enter Try.func34, Try.ntmps34
  go_wp2
  refine wp_loop_rounds 1 ?_
  rw [rounds_succ]
  go_wp2
  go_end0
  exact ⟨rfl, rfl⟩

set_option maxHeartbeats 4000000 in
theorem eachUnder_some (g : Nat) (lb : Value × Value) (b off cap : Nat) (l : List Ac) (code : ByteArray) (J : Option Nat → List Nat → World → Prop) (w : World) (hlen : l.length ≤ 60) (D : Does g lb w.heap.size (some ⟨b, off, none⟩) l cap J) (h0 : J none [] w) :
    Calls Try.prog 34 #[.slice (some ⟨b, off, none⟩) l.length cap, .string code, .func (.func g) #[] #[lb.1, lb.2]] w fun e w' => e = .returned (.tuple #[]) ∧ ∃ gc, J gc (und l code) w' ∧ w.heap.size ≤ w'.heap.size := by
  have Hlen : (l.length : Int) ≤ 60 := by omega
  have eg := D.eg
  have HD : Hid (Does g lb w.heap.size (some ⟨b, off, none⟩) l cap J) := D
  have H0 : Hid (J none [] w) := h0
  clear D h0
  obtain ⟨l1, l2⟩ := lb
  obtain ⟨i0, hi, hz0, hz1, hz2⟩ := info_parts str_info
  obtain ⟨res, hres⟩ : ∃ res, und l code = res := ⟨_, rfl⟩
  have Hres : Hid (und l code = res) := hres
  rw [hres]
  clear hres
  go_enter Try.func34, Try.ntmps34
  go_wp2
  go_loopw [6, 11] (fun s6 i wr => ∃ (k : Nat) (fs : List ByteArray) (pre : List Nat) (gc : Option Nat), k ≤ l.length ∧ i = .int .i64 k ∧ Hid (UndAt w.heap.size J gc pre fs s6 wr ∧ fs.length ≤ k ∧ pre.length ≤ k ∧ undGo code fs pre k (l.drop k) = res)) (fun _ i _ => l.length - (RowKit.intOf i).toNat)
  case atStart => exact ⟨0, [], [], none, Nat.zero_le _, rfl, ⟨World.ownsRow_nil _ _ _ _, H0.out, Nat.le_refl _, fun b hb => by cases hb⟩, by simp, by simp, Hres.out⟩
  case round =>
    obtain ⟨k, fs, pre, gc, hk, rfl, H⟩ := hrel
    by_cases hlt : k < l.length
    · obtain ⟨U, hf, hp, hg⟩ := H.out
      clear H
      have hn : AcAt wr b (off + k * 5) (l.getD k ac0) := by
        rcases (HD.out.reads gc pre wr U.has).lies with h | ⟨b', off', e, _, hc⟩
        · rw [h] at hlt; simp at hlt
        · cases e
          exact hc k hlt
      rw [acs_drop l k hlt] at hg
      simp only [undGo] at hg
      generalize l.getD k ac0 = x at *
      have U1 := U.alloc HD.out (.cells x.cells 53)
      have hx := AcAt.new wr x 53
      have hsz : (wr.alloc (.cells x.cells 53)).heap.size = wr.heap.size + 1 := by simp
      obtain ⟨x0, x1, x2, x3, x4⟩ := x
      obtain ⟨c0, c1, c2, c3, c4⟩ := hn
      obtain ⟨d0, d1, d2, d3, d4⟩ := hx
      simp only [Ac.cells, Nat.zero_add] at c0 c1 c2 c3 c4 d0 d1 d2 d3 d4 U1 hg hsz
      have U2 := U1.alloc HD.out (.cells #[.string x0] 9)
      have HU2 : Hid (UndAt w.heap.size J gc pre fs _ _) := U2
      have HU1 : Hid (UndAt w.heap.size J gc pre fs _ _) := U1
      have Hg : Hid (_ = res) := hg
      clear U U1 U2 hg
      have i0' : (0 : Int) ≤ k := by omega
      have i1' : (k : Int) < l.length := by omega
      by_cases h1 : x0 = code
      · have HN : Hid (undGo code (fs ++ [x0]) (pre ++ [k]) (k + 1) (l.drop (k + 1)) = res) := by
          have := Hg.out; rw [if_pos (.inl h1)] at this; exact this
        clear Hg
        subst h1
        go_wp2_with (first | (at_builtin; refine wpList_append_lies _ rfl _ _ 97 rfl w.heap.size 9 i0 (.string ByteArray.empty) 1 16 Try.underlying97 hi hz0 hz1 hz2 rfl (by decide) _ _ _ rfl HU2.out.row ⟨wr.heap.size + 1, 0, none⟩ 1 1 [.string x0] rfl rfl ?c1 ?c2 (by decide) ?c3 ?c4 ?c5 (wr.heap.size + 1 + 1) ?c6 ?_))
        case c1 =>
          intro j u hj
          match j, hj with
          | 0, hj => simp at hj; subst hj; simp [Addr.add]
        case c2 => intro u hu; simp at hu; subst hu; rfl
        case c3 => unfold maxLen; omega
        case c4 => omega
        case c5 => have := HU2.out.size; exact this
        case c6 => simp
        intro g' cap' w1 hown hgrow hat hlt2
        have U3 := HU2.out.grown HD.out (fs' := fs ++ [x0]) (g' := g') (c' := cap') (by unfold TxtRow; simpa using hown) hgrow (by simpa using hat)
        have hcall := U3.called HD.out k hlt hp
        dsimp only at hcall
        clear U3 HU1 HU2 hown hgrow hat
        have Hcall : Hid (Calls _ _ _ _ _) := hcall
        clear hcall
        rw [show (fs ++ [x0]).length = fs.length + 1 by simp] at Hcall
        go_wp2_with (go_at_fn g; refine Hcall.out.mono ?_; rintro e w2 ⟨rfl, gc', U4⟩)
        go_roundw
        case rel => exact ⟨k + 1, fs ++ [x0], pre ++ [k], gc', by omega, by go_num, U4, by simp; omega, by simp; omega, HN.out⟩
        case measure => simp [RowKit.intOf]; omega
      have h1' := ch_ne h1
      cases h2 : memB x3 fs
      · have HN : Hid (undGo code fs pre (k + 1) (l.drop (k + 1)) = res) := by
          have := Hg.out; rw [if_neg (by simp [h1, h2])] at this; exact this
        clear Hg HU2
        go_wp2_with (go_at_call 61; refine (tContains_any w.heap.size _ fs x3 _ (by omega) HU1.out.row).mono ?_; rintro e w' ⟨rfl, rfl⟩; rw [h2])
        go_roundw
        case rel => exact ⟨k + 1, fs, pre, gc, by omega, by go_num, HU1.out, by omega, by omega, HN.out⟩
        case measure => simp [RowKit.intOf]; omega
      · have HN : Hid (undGo code (fs ++ [x0]) (pre ++ [k]) (k + 1) (l.drop (k + 1)) = res) := by
          have := Hg.out; rw [if_pos (.inr h2)] at this; exact this
        clear Hg
        go_wp2_with (first | (at_builtin; refine wpList_append_lies _ rfl _ _ 97 rfl w.heap.size 9 i0 (.string ByteArray.empty) 1 16 Try.underlying97 hi hz0 hz1 hz2 rfl (by decide) _ _ _ rfl HU2.out.row ⟨wr.heap.size + 1, 0, none⟩ 1 1 [.string x0] rfl rfl ?c1 ?c2 (by decide) ?c3 ?c4 ?c5 (wr.heap.size + 1 + 1) ?c6 ?_) | (go_at_call 61; refine (tContains_any w.heap.size _ fs x3 _ (by omega) HU1.out.row).mono ?_; rintro e w' ⟨rfl, rfl⟩; rw [h2]))
        case c1 =>
          intro j u hj
          match j, hj with
          | 0, hj => simp at hj; subst hj; simp [Addr.add]
        case c2 => intro u hu; simp at hu; subst hu; rfl
        case c3 => unfold maxLen; omega
        case c4 => omega
        case c5 => have := HU2.out.size; exact this
        case c6 => simp
        intro g' cap' w1 hown hgrow hat hlt2
        have U3 := HU2.out.grown HD.out (fs' := fs ++ [x0]) (g' := g') (c' := cap') (by unfold TxtRow; simpa using hown) hgrow (by simpa using hat)
        have hcall := U3.called HD.out k hlt hp
        dsimp only at hcall
        clear U3 HU1 HU2 hown hgrow hat
        have Hcall : Hid (Calls _ _ _ _ _) := hcall
        clear hcall
        rw [show (fs ++ [x0]).length = fs.length + 1 by simp] at Hcall
        go_wp2_with (go_at_fn g; refine Hcall.out.mono ?_; rintro e w2 ⟨rfl, gc', U4⟩)
        go_roundw
        case rel => exact ⟨k + 1, fs ++ [x0], pre ++ [k], gc', by omega, by go_num, U4, by simp; omega, by simp; omega, HN.out⟩
        case measure => simp [RowKit.intOf]; omega
    · have hk2 : k = l.length := by omega
      subst hk2
      obtain ⟨U, hf, hp, hg⟩ := H.out
      have er : pre = res := by rw [List.drop_length] at hg; exact hg
      go_wp2
      go_end0
      exact ⟨rfl, gc, by rw [← er]; exact U.has, U.size⟩

theorem eachUnder_any (g : Nat) (lb : Value × Value) (a : Option Addr) (cap : Nat) (l : List Ac) (code : ByteArray) (J : Option Nat → List Nat → World → Prop) (w : World) (hlen : l.length ≤ 60) (D : Does g lb w.heap.size a l cap J) (h0 : J none [] w) :
    Calls Try.prog 34 #[.slice a l.length cap, .string code, .func (.func g) #[] #[lb.1, lb.2]] w fun e w' => e = .returned (.tuple #[]) ∧ ∃ gc, J gc (und l code) w' ∧ w.heap.size ≤ w'.heap.size := by
  rcases (D.reads _ _ _ h0).lies with rfl | ⟨b, off, rfl, hlt, hc⟩
  · refine (eachUnder_none a cap code _ w).mono ?_
    rintro e w' ⟨rfl, rfl⟩
    exact ⟨rfl, none, h0, Nat.le_refl _⟩
  · exact eachUnder_some g lb b off cap l code J w hlen D h0
end Go.Proofs.Ythaidbicimiljaa

namespace Go.Proofs.Ythaidbicimiljaa
set_option linter.unusedVariables false
set_option linter.unusedSimpArgs false
set_option maxRecDepth 100000
open Go.RowKit Go.Lib

/-- What chart.Under's function has done. -/
def UJ (w0 : World) (n0 B1 B2 : Nat) (a : Option Addr) (l : List Ac) (cap : Nat) (gc : Option Nat) (pre : List Nat) (W : World) : Prop :=
  ∃ v, Boxed W B1 97 v ∧ TxtRow W n0 v (pre.map fun i => (l.getD i ac0).code) ∧ v.ownBlock = gc ∧ W.cell? ⟨B2, 0, none⟩ = some (.slice a l.length cap) ∧ Below w0.heap.size w0 W

theorem cell_grown {W W' : World} {row : Option Nat} {b o : Nat} {v : Value} (h : W.cell? ⟨b, o, none⟩ = some v) (hg : W.grownBy W' row) (hr : row ≠ some b) : W'.cell? ⟨b, o, none⟩ = some v := by
  have hlt : b < W.heap.size := World.block_lt_of_cell? _ _ h
  exact (World.cell?_of_block (w := W) (a := ⟨b, o, none⟩) (hg.block b hlt (fun e => hr e.symm))).trans h

/-- Behind 'x = append(x, y)' in a box. -/
theorem box_end {W w1 : World} {n0 B1 : Nat} {T e : TypeId} (hte : T ≠ e) {v : Value} {g' cap' k : Nat} {xs ys : List Value} {o : Obj} (bx : Boxed W B1 T v) (hB : B1 < n0) (hn : n0 ≤ W.heap.size) (hrow : W.ownsRow n0 e 1 v k xs)
    (hown' : w1.ownsRow n0 e 1 (.slice (some ⟨g', 0, none⟩) (k + 1) cap') (k + 1) ys) (hgrow : (W.alloc o).drew.grownBy w1 v.ownBlock) (hat : v.ownBlock = some g' ∨ g' = W.heap.size + 1) :
    Boxed (w1.setCell ⟨B1, 0, none⟩ (.slice (some ⟨g', 0, none⟩) (k + 1) cap')) B1 T (.slice (some ⟨g', 0, none⟩) (k + 1) cap') ∧ (w1.setCell ⟨B1, 0, none⟩ (.slice (some ⟨g', 0, none⟩) (k + 1) cap')).ownsRow n0 e 1 (.slice (some ⟨g', 0, none⟩) (k + 1) cap') (k + 1) ys ∧
    (some g' = v.ownBlock ∨ ∃ h, some g' = some h ∧ W.heap.size ≤ h) ∧ W.heap.size ≤ (w1.setCell ⟨B1, 0, none⟩ (.slice (some ⟨g', 0, none⟩) (k + 1) cap')).heap.size ∧
    (∀ b, b < W.heap.size → b ≠ B1 → some b ≠ v.ownBlock → (w1.setCell ⟨B1, 0, none⟩ (.slice (some ⟨g', 0, none⟩) (k + 1) cap')).heap[b]? = W.heap[b]?) ∧
    ∀ m w0, m ≤ B1 → Below m w0 W → Below m w0 (w1.setCell ⟨B1, 0, none⟩ (.slice (some ⟨g', 0, none⟩) (k + 1) cap')) := by
  have hown : ∀ x, v.ownBlock = some x → n0 ≤ x := fun x hx => by
    rcases hrow.2 with ⟨rfl, _⟩ | ⟨g, cp, cur, rfl, hg, _⟩
    · cases hx
    · cases hx; exact hg
  have bx2 : Boxed (W.alloc o).drew B1 T v := bx.alloc o
  have hrow2 : (W.alloc o).drew.ownsRow n0 e 1 v k xs := World.ownsRow.drew (World.ownsRow.alloc hrow o)
  have bx3 : Boxed w1 B1 T v := bx2.kept hgrow (bx2.not_row hte hrow2)
  have hs0 : (W.alloc o).drew.heap.size = W.heap.size + 1 := by simp
  have hs1 := hgrow.size
  have hs2 := (grownBy_setCell' w1 B1 (.slice (some ⟨g', 0, none⟩) (k + 1) cap')).size
  refine ⟨bx3.set _, hown'.kept (grownBy_setCell' w1 B1 _) (.inr (bx3.not_row hte hown').symm), ?_, by omega, ?_, ?_⟩
  · rcases hat with h | h
    · exact .inl h.symm
    · exact .inr ⟨g', rfl, by omega⟩
  · intro b hb hne hr
    rw [Below.heap_setCell _ _ _ b (fun e => hne e), hgrow.block b (by omega) hr]
    exact heap_alloc_lt W o b hb
  · intro m w0 hm hbel
    refine hbel.trans ((((Below.refl m W).alloc (by omega) o).drew.grown hgrow (by omega) (fun j ej => ?_)).setCell (p := ⟨B1, 0, none⟩) hm _)
    have := hown j ej
    omega

end Go.Proofs.Ythaidbicimiljaa
