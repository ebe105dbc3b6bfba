/-
  Numbers behind a slice; the contract of daysame.Ints.
-/
import Derived.Test.YtiolkeipgpkbmaaGreatDoorZg13
import Derived.Deep.RegionWith
import Derived.Laws.Cover1
import Derived.Laws.BitsLemmas
import Derived.Deep.QuietTactic
import Derived.BigQuiet
namespace Go.Proofs.YtiolkeipgpkbmaaGreatDoor
set_option linter.unusedVariables false
set_option linter.unusedSimpArgs false
set_option maxRecDepth 100000
open Go.RowKit Go.Lib

/-- A text is not above another one. -/
def leB (a b : ByteArray) : Bool := Op.bytesLess a.toList b.toList || a.toList == b.toList

/-- What is wrong with an account that follows others. -/
def nextBad (pre : List Ac) (x : Ac) : Int :=
  if isCodeB x.code = false ∨ isNameB x.name = false then 2
  else if x.kind < 1 ∨ 5 < x.kind then 1
  else if pre.length ≠ 0 ∧ leB x.code (pre.getD (pre.length - 1) ac0).code = true then 5
  else parBad pre x

def chGo : List Ac → List Ac → Int
  | _, [] => 0
  | pre, x :: r => if nextBad pre x ≠ 0 then nextBad pre x else chGo (pre ++ [x]) r
/-- What is wrong with a chart. -/
def chBad (l : List Ac) : Int := if 60 < l.length then 4 else chGo [] l

set_option maxHeartbeats 2000000 in
theorem checkNext_any (a : Option Addr) (cap : Nat) (pre : List Ac) (x : Ac) (w : World) (hlen : pre.length ≤ 1000) (h : IsSl w a pre cap) :
    Calls Tryz.prog 96 #[.slice a pre.length cap, .agg x.cells] w fun e w' => e = .returned (chE (nextBad pre x)) ∧ Below w.heap.size w w' := by
  have hn := AcAt.new w x 72
  have b0 : Below w.heap.size w (w.alloc (.cells x.cells 72)) := (Below.refl _ w).alloc (Nat.le_refl _) _
  have hsz : (w.alloc (.cells x.cells 72)).heap.size = w.heap.size + 1 := by simp
  have HP : Hid (∀ W, Below w.heap.size w W → Calls Tryz.prog 126 #[.slice a pre.length cap, .agg x.cells] W fun e w' => e = .returned (chE (parBad pre x)) ∧ Below w.heap.size w w') := fun W hW => by
    refine (checkParent_any a cap pre x W hlen (h.below hW)).mono ?_
    rintro e w' ⟨rfl, hb⟩
    exact ⟨rfl, hW.trans (hb.mono hW.size)⟩
  have HL : Hid (pre.length ≠ 0 → ∃ b off, a = some ⟨b, off, none⟩ ∧ b < w.heap.size ∧ AcsAt w b off pre) := fun h0 => by
    rcases h.lies with rfl | h
    · exact absurd rfl h0
    · exact h
  clear h
  obtain ⟨res, hres⟩ : ∃ res, nextBad pre x = res := ⟨_, rfl⟩
  have Hres : Hid (nextBad pre x = res) := hres
  rw [hres]
  clear hres
  obtain ⟨x0, x1, x2, x3, x4⟩ := x
  simp only [Ac.cells] at hn b0 hsz HP ⊢
  have hn0 := hn
  obtain ⟨c0, c1, c2, c3, c4⟩ := hn
  simp only [Nat.zero_add] at c0 c1 c2 c3 c4
  go_enter Tryz.func96, Tryz.ntmps96
  go_wp2_with fail
  refine (isCode_any x0 _).mono ?_
  rintro e w1 ⟨rfl, hb1⟩
  rw [hsz] at hb1
  have hs1 := hb1.size
  rw [hsz] at hs1
  have B1 := b0.trans (hb1.mono (Nat.le_succ _))
  have hn1 := hn0.below hb1 (Nat.lt_succ_self _)
  clear c0 c1 c2 c3 c4 hn0 hb1 b0 hsz
  cases h1 : isCodeB x0
  · have er : res = 2 := by rw [← Hres.out]; simp [nextBad, h1]
    subst er
    go_wp2
    go_ret
    exact ⟨rfl, B1⟩
  have hn10 := hn1
  obtain ⟨c0, c1, c2, c3, c4⟩ := hn1
  simp only [Nat.zero_add] at c0 c1 c2 c3 c4
  go_wp2_with fail
  refine (isName_any x1 _).mono ?_
  rintro e w2 ⟨rfl, hb2⟩
  have hs2 := hb2.size
  have B2 := B1.trans (hb2.mono (by omega))
  have hn2 := hn10.below hb2 (by omega)
  clear c0 c1 c2 c3 c4 hn10 hb2 B1
  cases h2 : isNameB x1
  · have er : res = 2 := by rw [← Hres.out]; simp [nextBad, h2]
    subst er
    go_wp2
    go_ret
    exact ⟨rfl, B2⟩
  obtain ⟨c0, c1, c2, c3, c4⟩ := hn2
  simp only [Nat.zero_add] at c0 c1 c2 c3 c4
  by_cases h3 : x2 < 1
  · have er : res = 1 := by rw [← Hres.out]; simp [nextBad, h1, h2, h3]
    subst er
    go_wp2
    go_ret
    exact ⟨rfl, B2⟩
  by_cases h4 : 5 < x2
  · have er : res = 1 := by rw [← Hres.out]; simp [nextBad, h1, h2, h4]
    subst er
    go_wp2
    go_ret
    exact ⟨rfl, B2⟩
  have er : res = if pre.length ≠ 0 ∧ leB x0 (pre.getD (pre.length - 1) ac0).code = true then 5 else parBad pre ⟨x0, x1, x2, x3, x4⟩ := by
    rw [← Hres.out]; unfold nextBad
    rw [if_neg (by simp [h1, h2]), if_neg (by simp; omega)]
  have ER : Hid (res = if pre.length ≠ 0 ∧ leB x0 (pre.getD (pre.length - 1) ac0).code = true then 5 else parBad pre ⟨x0, x1, x2, x3, x4⟩) := er
  clear er Hres
  by_cases h5 : pre.length = 0
  · have er : parBad pre ⟨x0, x1, x2, x3, x4⟩ = res := by rw [ER.out, if_neg (fun h => h.1 h5)]
    have HP2 := HP.out
    rw [er, h5] at HP2
    have HP3 : Hid _ := HP2
    rw [h5]
    clear HP HP2 HL ER er
    go_wp2_with fail
    go_quiet (fail)
    go_wp2_with fail
    refine (HP3.out _ (ch_drewN B2 _)).mono ?_
    rintro e w3 ⟨rfl, B3⟩
    go_wp2
    go_ret
    exact ⟨rfl, B3⟩
  · obtain ⟨b, off, rfl, hlt, hc⟩ := HL.out h5
    obtain ⟨m, hm⟩ : ∃ m, pre.length = m + 1 := ⟨pre.length - 1, by omega⟩
    have hp := (hc m (by omega)).below B2 hlt
    have ER2 : Hid (res = if leB x0 (pre.getD m ac0).code = true then 5 else parBad pre ⟨x0, x1, x2, x3, x4⟩) := by
      unfold Hid; rw [ER.out, hm, show m + 1 - 1 = m by omega]; simp
    clear ER HL hc
    generalize pre.getD m ac0 = y at *
    obtain ⟨y0, y1, y2, y3, y4⟩ := y
    obtain ⟨d0, d1, d2, d3, d4⟩ := hp
    simp only at d0 d1 d2 d3 d4
    have hle : (m : Int) + 1 ≤ 1000 := by omega
    have hm0 : (0 : Int) ≤ m := by omega
    have hm1 : (m : Int) < (m : Int) + 1 := by omega
    have hmw : IntKind.i64.wrap (m : Int) = m := by rw [IntKind.wrap_i64]; omega
    rw [hm] at HP ⊢
    cases b1 : Op.bytesLess x0.toList y0.toList
    · cases b2 : (x0.toList == y0.toList)
      · have er : parBad pre ⟨x0, x1, x2, x3, x4⟩ = res := by rw [ER2.out, if_neg (by simp only [leB, b1, b2]; simp)]
        rw [er] at HP
        go_wp2_with fail
        go_quiet (fail)
        go_wp2_with fail
        refine (HP.out _ (ch_drewN B2 _)).mono ?_
        rintro e w3 ⟨rfl, B3⟩
        go_wp2
        go_ret
        exact ⟨rfl, B3⟩
      · have er : res = 5 := by rw [ER2.out, if_pos (by simp only [leB, b1, b2]; simp)]
        subst er
        clear HP
        go_wp2_with fail
        go_quiet (fail)
        go_wp2
        go_ret
        exact ⟨rfl, ch_drewN B2 _⟩
    · have er : res = 5 := by rw [ER2.out, if_pos (by simp only [leB, b1]; simp)]
      subst er
      clear HP
      go_wp2_with fail
      go_quiet (fail)
      go_wp2
      go_ret
      exact ⟨rfl, ch_drewN B2 _⟩

theorem chCheck_full (a : Option Addr) (len cap : Nat) (w : World) (h : 60 < len) :
    Calls Tryz.prog 64 #[.slice a len cap] w fun e w' => e = .returned (chE 4) ∧ Below w.heap.size w w' := by
  have h' : (60 : Int) < len := by omega
  go_enter Tryz.func64, Tryz.ntmps64
  go_wp2
  go_ret
  exact ⟨rfl, Below.refl _ _⟩

theorem chCheck_none (a : Option Addr) (cap : Nat) (w : World) :
    Calls Tryz.prog 64 #[.slice a 0 cap] w fun e w' => e = .returned (chE 0) ∧ Below w.heap.size w w' := by
  go_enter Tryz.func64, Tryz.ntmps64
  go_wp2
  refine wp_loop_rounds 1 ?_
  rw [rounds_succ]
  go_wp2
  go_ret
  exact ⟨rfl, Below.refl _ _⟩

set_option maxHeartbeats 2000000 in
theorem chCheck_some (b off cap : Nat) (l : List Ac) (w : World) (hb : b < w.heap.size) (hlen : l.length ≤ 60) (hcap : l.length ≤ cap) (hc : AcsAt w b off l) :
    Calls Tryz.prog 64 #[.slice (some ⟨b, off, none⟩) l.length cap] w fun e w' => e = .returned (chE (chGo [] l)) ∧ Below w.heap.size w w' := by
  have Hlen : (l.length : Int) ≤ 60 := by omega
  have Hsl : Hid (∀ k W, Below w.heap.size w W → IsSl W (some ⟨b, off, none⟩) (l.take k) cap) := fun k W hW => (IsSl.below ⟨hcap, .inr ⟨b, off, rfl, hb, hc⟩⟩ hW).take k
  have Hc : Hid (AcsAt w b off l) := hc
  clear hc
  obtain ⟨res, hres⟩ : ∃ res, chGo [] l = res := ⟨_, rfl⟩
  have Hres : Hid (chGo [] l = res) := hres
  rw [hres]
  clear hres
  go_enter Tryz.func64, Tryz.ntmps64
  go_wp2
  go_loopw [12] (fun i wr => ∃ k : Nat, k ≤ l.length ∧ i = .int .i64 k ∧ Hid (chGo (l.take k) (l.drop k) = res) ∧ Below w.heap.size w wr) (fun i _ => l.length - (RowKit.intOf i).toNat)
  case atStart => exact ⟨0, Nat.zero_le _, rfl, by unfold Hid; simpa using Hres.out, Below.refl _ _⟩
  case round =>
    obtain ⟨k, hk, rfl, H, BW⟩ := hrel
    by_cases hlt : k < l.length
    · have hn := (Hc.out k hlt).below BW hb
      have E : Hid ((if nextBad (l.take k) (l.getD k ac0) ≠ 0 then nextBad (l.take k) (l.getD k ac0) else chGo (l.take (k + 1)) (l.drop (k + 1))) = res) := by
        have := H.out
        rw [acs_drop l k hlt] at this
        have e2 : l.take k ++ [l.getD k ac0] = l.take (k + 1) := by
          rw [List.take_succ_eq_append_getElem hlt, List.getD_eq_getElem?_getD, List.getElem?_eq_getElem hlt]; rfl
        unfold Hid
        rw [← e2]
        exact this
      have hcall : ∀ W, Below w.heap.size w W → Calls Tryz.prog 96 #[.slice (some ⟨b, off, none⟩) k cap, .agg (l.getD k ac0).cells] W fun e w' => e = .returned (chE (nextBad (l.take k) (l.getD k ac0))) ∧ Below w.heap.size w w' := fun W hW => by
        have := checkNext_any (some ⟨b, off, none⟩) cap (l.take k) (l.getD k ac0) W (by simp; omega) (Hsl.out k W hW)
        rw [show (l.take k).length = k by simp; omega] at this
        refine this.mono ?_
        rintro e w' ⟨rfl, hb'⟩
        exact ⟨rfl, hW.trans (hb'.mono hW.size)⟩
      clear H
      obtain ⟨bad, hbad⟩ : ∃ bad, nextBad (l.take k) (l.getD k ac0) = bad := ⟨_, rfl⟩
      rw [hbad] at hcall E
      clear hbad
      generalize l.getD k ac0 = x at *
      obtain ⟨x0, x1, x2, x3, x4⟩ := x
      obtain ⟨c0, c1, c2, c3, c4⟩ := hn
      simp only [Ac.cells] at c0 c1 c2 c3 c4 hcall
      have Hcall : Hid (∀ W, _) := hcall
      clear hcall
      have i0 : (0 : Int) ≤ k := by omega
      have i1 : (k : Int) < l.length := by omega
      have i2 : (k : Int) ≤ cap := by omega
      have B2 := BW.alloc BW.size (.cells #[.string x0, .string x1, .int .i64 x2, .string x3, .bool x4] 72)
      by_cases hb0 : bad = 0
      · subst hb0
        have HN : Hid (chGo (l.take (k + 1)) (l.drop (k + 1)) = res) := by
          have := E.out; rw [if_neg (by simp)] at this; exact this
        rw [chE_zero] at Hcall
        go_wp2_with fail
        go_region_with (go_at_call 96; refine (Hcall.out _ B2.drew).mono ?_; rintro e w' ⟨rfl, hb'⟩)
        all_goals
          go_wp2
          go_roundw
          case rel => exact ⟨k + 1, by omega, by go_num, HN, hb'⟩
          case measure => simp [RowKit.intOf]; omega
      · have er : res = bad := by rw [← E.out, if_pos hb0]
        subst er
        have hE := chE_ne hb0
        rw [hE] at Hcall
        have HE : Hid (chE res = _) := hE
        clear hE
        go_wp2_with fail
        go_region_with (go_at_call 96; refine (Hcall.out _ B2.drew).mono ?_; rintro e w' ⟨rfl, hb'⟩)
        all_goals
          go_wp2
          go_ret
          exact ⟨by rw [HE.out]; rfl, hb'⟩
    · have hk2 : k = l.length := by omega
      subst hk2
      have er : res = 0 := by rw [← H.out, List.drop_length]; rfl
      subst er
      go_wp2
      go_ret
      exact ⟨rfl, BW⟩

theorem chCheck_any (a : Option Addr) (cap : Nat) (l : List Ac) (w : World) (h : IsSl w a l cap) :
    Calls Tryz.prog 64 #[.slice a l.length cap] w fun e w' => e = .returned (chE (chBad l)) ∧ Below w.heap.size w w' := by
  unfold chBad
  by_cases h60 : 60 < l.length
  · rw [if_pos h60]
    exact chCheck_full a l.length cap w h60
  · rw [if_neg h60]
    rcases h.lies with rfl | ⟨b, off, rfl, hlt, hc⟩
    · exact chCheck_none a cap w
    · exact chCheck_some b off cap l w hlt (by omega) h.cap hc

theorem chBad_len {l : List Ac} (h : chBad l = 0) : l.length ≤ 60 := by
  unfold chBad at h
  split at h
  · omega
  · omega

/-- What is found: what is wrong, and the place. -/
def placeBad (l : List Ac) (c : ByteArray) : Int := if chBad l ≠ 0 then chBad l else if idxP (hasCode c) l < 0 then 6 else 0
def placeAt (l : List Ac) (c : ByteArray) : Int := if placeBad l c = 0 then idxP (hasCode c) l else 0

end Go.Proofs.YtiolkeipgpkbmaaGreatDoor

namespace Go.Proofs.YtiolkeipgpkbmaaGreatDoor
set_option linter.unusedVariables false
set_option linter.unusedSimpArgs false
open Go.RowKit Go.Lib

theorem less_self : ∀ a : List UInt8, Op.bytesLess a a = false
  | [] => rfl
  | x :: a => by
    have := less_self a
    simp [Op.bytesLess, this]

theorem less_total : ∀ a b : List UInt8, Op.bytesLess a b = false → a ≠ b → Op.bytesLess b a = true
  | [], [], _, h => absurd rfl h
  | [], _ :: _, h, _ => by simp [Op.bytesLess] at h
  | _ :: _, [], _, _ => by simp [Op.bytesLess]
  | x :: a, y :: b, h, hne => by
    simp only [Op.bytesLess, Bool.or_eq_false_iff, decide_eq_false_iff_not, Bool.and_eq_false_iff, beq_eq_false_iff_ne] at h
    obtain ⟨h1, h2⟩ := h
    by_cases e : x = y
    · subst e
      have := less_total a b (by simpa using h2) (fun e => hne (by rw [e]))
      simp [Op.bytesLess, this]
    · have : y < x := by
        rw [UInt8.lt_iff_toNat_lt] at h1 ⊢
        have : x.toNat ≠ y.toNat := fun h => e (UInt8.toNat_inj.1 h)
        omega
      simp [Op.bytesLess, this]

theorem less_trans : ∀ a b c : List UInt8, Op.bytesLess a b = true → Op.bytesLess b c = true → Op.bytesLess a c = true
  | _, [], _, h, _ => by cases ‹List UInt8› <;> simp [Op.bytesLess] at h
  | _, _ :: _, [], _, h => by simp [Op.bytesLess] at h
  | [], _ :: _, _ :: _, _, _ => by simp [Op.bytesLess]
  | x :: a, y :: b, z :: c, h1, h2 => by
    simp only [Op.bytesLess, Bool.or_eq_true, decide_eq_true_eq, Bool.and_eq_true, beq_iff_eq] at h1 h2 ⊢
    simp only [UInt8.lt_iff_toNat_lt] at h1 h2 ⊢
    rcases h1 with h1 | ⟨rfl, h1⟩
    · rcases h2 with h2 | ⟨rfl, h2⟩
      · exact .inl (by omega)
      · exact .inl h1
    · rcases h2 with h2 | ⟨rfl, h2⟩
      · exact .inl h2
      · exact .inr ⟨rfl, less_trans a b c h1 h2⟩

theorem nextBad_zero {pre : List Ac} {x : Ac} (h : nextBad pre x = 0) : isCodeB x.code = true ∧ isNameB x.name = true ∧ 1 ≤ x.kind ∧ x.kind ≤ 5 ∧ (pre.length ≠ 0 → leB x.code (pre.getD (pre.length - 1) ac0).code = false) ∧ parBad pre x = 0 := by
  unfold nextBad at h
  split at h
  · omega
  · rename_i h1
    simp only [not_or, Bool.not_eq_false] at h1
    split at h
    · omega
    · rename_i h2
      split at h
      · omega
      · rename_i h3
        refine ⟨h1.1, h1.2, by omega, by omega, fun h0 => ?_, h⟩
        cases hl : leB x.code (pre.getD (pre.length - 1) ac0).code
        · rfl
        · exact absurd ⟨h0, hl⟩ h3

theorem chGo_zero : ∀ (r pre : List Ac), chGo pre r = 0 → ∀ k, k < r.length → nextBad (pre ++ r.take k) (r.getD k ac0) = 0
  | [], _, _, k, hk => by simp at hk
  | x :: r, pre, h, k, hk => by
    rw [chGo] at h
    split at h
    · rename_i hb; exact absurd h hb
    · rename_i hb
      cases k with
      | zero => simpa using hb
      | succ k =>
        have := chGo_zero r (pre ++ [x]) h k (by simpa using hk)
        simpa using this

theorem chBad_next {l : List Ac} (h : chBad l = 0) (k : Nat) (hk : k < l.length) : nextBad (l.take k) (l.getD k ac0) = 0 := by
  have hl := chBad_len h
  unfold chBad at h
  rw [if_neg (by omega)] at h
  have := chGo_zero l [] h k hk
  simpa using this

theorem take_getD (l : List Ac) (k j : Nat) (h : j < k) : (l.take k).getD j ac0 = l.getD j ac0 := by
  rw [List.getD_eq_getElem?_getD, List.getD_eq_getElem?_getD, List.getElem?_take, if_pos h]

theorem code_step {l : List Ac} (h : chBad l = 0) (k : Nat) (hk : k + 1 < l.length) : Op.bytesLess (l.getD k ac0).code.toList (l.getD (k + 1) ac0).code.toList = true := by
  obtain ⟨_, _, _, _, h5, _⟩ := nextBad_zero (chBad_next h (k + 1) hk)
  have hl : (l.take (k + 1)).length = k + 1 := by simp; omega
  have := h5 (by omega)
  rw [hl, show k + 1 - 1 = k by omega, take_getD l (k + 1) k (by omega)] at this
  simp only [leB, Bool.or_eq_false_iff, beq_eq_false_iff_ne] at this
  exact less_total _ _ this.1 this.2

theorem code_less {l : List Ac} (h : chBad l = 0) (i : Nat) : ∀ j, i < j → j < l.length → Op.bytesLess (l.getD i ac0).code.toList (l.getD j ac0).code.toList = true
  | 0, hi, _ => absurd hi (Nat.not_lt_zero _)
  | j + 1, hi, hj => by
    have hs := code_step h j hj
    by_cases e : i = j
    · subst e; exact hs
    · exact less_trans _ _ _ (code_less h i j (by omega) (by omega)) hs

theorem code_inj {l : List Ac} (h : chBad l = 0) {i j : Nat} (hi : i < l.length) (hj : j < l.length) (e : (l.getD i ac0).code = (l.getD j ac0).code) : i = j := by
  rcases Nat.lt_trichotomy i j with hlt | he | hlt
  · have := code_less h i j hlt hj
    rw [e, less_self] at this
    cases this
  · exact he
  · have := code_less h j i hlt hi
    rw [e, less_self] at this
    cases this

theorem code_size {l : List Ac} (h : chBad l = 0) {i : Nat} (hi : i < l.length) : (l.getD i ac0).code.size ≠ 0 := by
  obtain ⟨h1, _⟩ := nextBad_zero (chBad_next h i hi)
  exact ((madeOf_iff (fun r => digR_low)).1 h1).1

theorem idx_code {l : List Ac} (h : chBad l = 0) {i : Nat} (hi : i < l.length) : idxP (hasCode (l.getD i ac0).code) l = (i : Int) := by
  by_cases hn : idxP (hasCode (l.getD i ac0).code) l < 0
  · have := idxP_none hn i hi
    simp [hasCode] at this
  · obtain ⟨j, hj, e, hp, _⟩ := idxP_some (p := hasCode (l.getD i ac0).code) (l := l) (by omega)
    have : (l.getD j ac0).code = (l.getD i ac0).code := by simpa only [hasCode, decide_eq_true_eq] using hp
    rw [e, code_inj h hj hi this]

theorem place_code {l : List Ac} (h : chBad l = 0) {i : Nat} (hi : i < l.length) : placeBad l (l.getD i ac0).code = 0 := by
  have := idx_code h hi
  unfold placeBad
  rw [if_neg (by omega), if_neg (by omega)]

/-- The place of an account's parent. -/
def parOf (l : List Ac) (k : Nat) : Option Nat := if (l.getD k ac0).par.size = 0 then none else some (idxP (hasCode (l.getD k ac0).par) l).toNat

theorem parOf_none {l : List Ac} {k : Nat} : parOf l k = none ↔ (l.getD k ac0).par.size = 0 := by
  unfold parOf
  split <;> simp_all

theorem parOf_some {l : List Ac} (h : chBad l = 0) {k j : Nat} (hk : k < l.length) (e : parOf l k = some j) : j < k ∧ (l.getD j ac0).code = (l.getD k ac0).par ∧ (l.getD j ac0).kind = (l.getD k ac0).kind := by
  unfold parOf at e
  split at e
  · cases e
  rename_i h0
  obtain ⟨_, _, _, _, _, hp⟩ := nextBad_zero (chBad_next h k hk)
  unfold parBad at hp
  rw [if_neg h0] at hp
  split at hp
  · omega
  rename_i h1
  obtain ⟨m, hm, em, hc, _⟩ := idxP_some (p := hasCode (l.getD k ac0).par) (l := l.take k) (by omega)
  have hmk : m < k := by simp only [List.length_take] at hm; omega
  rw [em] at hp
  simp only [Int.toNat_natCast] at hp
  have hp' : ((l.take k).getD m ac0).kind = (l.getD k ac0).kind := by
    split at hp
    · omega
    · rename_i h2
      exact Decidable.not_not.1 h2
  rw [take_getD l k m hmk] at hp' hc
  have hcode : (l.getD m ac0).code = (l.getD k ac0).par := by simpa only [hasCode, decide_eq_true_eq] using hc
  have hi := idx_code h (show m < l.length by omega)
  rw [hcode] at hi
  rw [hi] at e
  simp only [Int.toNat_natCast, Option.some.injEq] at e
  subst e
  exact ⟨hmk, hcode, hp'⟩

/-- Is a place under another one? By so many steps at most. -/
def inU (P : Nat → Option Nat) : Nat → Nat → Nat → Bool
  | 0, _, _ => false
  | f + 1, i, k => k == i || (match P k with | none => false | some j => inU P f i j)

theorem inU_fuel {P : Nat → Option Nat} {n : Nat} (hP : ∀ k j, k < n → P k = some j → j < k) : ∀ (f g k i : Nat), k < n → k < f → k < g → inU P f i k = inU P g i k
  | 0, _, k, i, _, h, _ => absurd h (Nat.not_lt_zero _)
  | _ + 1, 0, k, i, _, _, h => absurd h (Nat.not_lt_zero _)
  | f + 1, g + 1, k, i, hn, h1, h2 => by
    simp only [inU]
    cases hk : P k with
    | none => rfl
    | some j =>
      have := hP k j hn hk
      simp only
      rw [inU_fuel hP f g j i (by omega) (by omega) (by omega)]

end Go.Proofs.YtiolkeipgpkbmaaGreatDoor

namespace Go.Proofs.YtiolkeipgpkbmaaGreatDoor
set_option linter.unusedVariables false
set_option linter.unusedSimpArgs false
set_option maxRecDepth 100000
open Go.RowKit Go.Lib

/-- What is found. -/
def findA (l : List Ac) (c : ByteArray) : Ac := if placeBad l c = 0 then l.getD (idxP (hasCode c) l).toNat ac0 else ac0

theorem refAt_none (a : Option Addr) (cap : Nat) (c : ByteArray) (w : World) :
    Calls Tryz.prog 38 #[.slice a 0 cap, .string c] w fun e w' => e = .returned (.int .i64 (-1)) ∧ w' = w := by
  go_enter Tryz.func38, Tryz.ntmps38
  go_wp2
  refine wp_loop_rounds 1 ?_
  rw [rounds_succ]
  go_wp2
  go_ret
  exact ⟨rfl, rfl⟩

set_option maxHeartbeats 1000000 in
theorem refAt_some (b off cap : Nat) (l : List Ac) (c : ByteArray) (w : World) (hlen : l.length ≤ 1000) (hc : AcsAt w b off l) :
    Calls Tryz.prog 38 #[.slice (some ⟨b, off, none⟩) l.length cap, .string c] w fun e w' => e = .returned (.int .i64 (idxP (hasCode c) l)) ∧ w' = w := by
  have Hc : Hid (AcsAt w b off l) := hc
  have Hlen : (l.length : Int) ≤ 1000 := by omega
  clear hc
  obtain ⟨res, hres⟩ : ∃ res, idxP (hasCode c) l = res := ⟨_, rfl⟩
  have Hres : Hid (idxP (hasCode c) l = res) := hres
  rw [hres]
  clear hres
  go_enter Tryz.func38, Tryz.ntmps38
  go_wp2
  go_loop [5] (fun i => ∃ k : Nat, k ≤ l.length ∧ i = .int .i64 k ∧ Hid (idxFrom (hasCode c) k (l.drop k) = res)) (fun i => l.length - (RowKit.intOf i).toNat)
  case atStart => exact ⟨0, Nat.zero_le _, rfl, Hres.out⟩
  case round =>
    obtain ⟨k, hk, rfl, H⟩ := hrel
    by_cases hlt : k < l.length
    · have hn := Hc.out k hlt
      have E : Hid ((if hasCode c (l.getD k ac0) = true then (k : Int) else idxFrom (hasCode c) (k + 1) (l.drop (k + 1))) = res) := by
        have := H.out
        rw [acs_drop l k hlt] at this
        exact this
      clear H
      generalize l.getD k ac0 = x at *
      obtain ⟨x0, x1, x2, x3, x4⟩ := x
      obtain ⟨c0, c1, c2, c3, c4⟩ := hn
      simp only at c0 c1 c2 c3 c4
      have i0 : (0 : Int) ≤ k := by omega
      have i1 : (k : Int) < l.length := by omega
      by_cases hx : x0 = c
      · have er : res = k := by rw [← E.out, if_pos (by simp [hasCode, hx])]
        subst er
        subst hx
        go_wp2
        go_ret
        exact ⟨rfl, rfl⟩
      · have hx' := ch_ne hx
        have HN : Hid (idxFrom (hasCode c) (k + 1) (l.drop (k + 1)) = res) := by
          have := E.out; rw [if_neg (by simp [hasCode, hx])] at this; exact this
        go_wp2
        go_round
        case rel => exact ⟨k + 1, by omega, by go_num, HN⟩
        case measure => simp [RowKit.intOf]; omega
    · have hk2 : k = l.length := by omega
      subst hk2
      have er : res = -1 := by rw [← H.out, List.drop_length]; rfl
      subst er
      go_wp2
      go_ret
      exact ⟨rfl, rfl⟩

theorem refAt_any (a : Option Addr) (cap : Nat) (l : List Ac) (c : ByteArray) (w : World) (hlen : l.length ≤ 1000) (h : IsSl w a l cap) :
    Calls Tryz.prog 38 #[.slice a l.length cap, .string c] w fun e w' => e = .returned (.int .i64 (idxP (hasCode c) l)) ∧ w' = w := by
  rcases h.lies with rfl | ⟨b, off, rfl, hlt, hc⟩
  · exact refAt_none a cap c w
  · exact refAt_some b off cap l c w hlen hc
end Go.Proofs.YtiolkeipgpkbmaaGreatDoor

namespace Go.Proofs.YtiolkeipgpkbmaaGreatDoor
set_option linter.unusedVariables false
set_option linter.unusedSimpArgs false
set_option maxRecDepth 100000
open Go.RowKit Go.Lib

theorem get_at (s : ByteArray) (k : Nat) (h : k < s.size) : s.get! k = s[k]'h := by
  show s.data[k]! = s.data[k]'h
  exact getElem!_pos s.data k h

theorem refDigits_any (s : ByteArray) (most : Nat) (w : World) (hs : s.size ≤ maxLen) :
    Calls Tryz.prog 77 #[.string s, .int .i64 most] w fun e w' => e = .returned (.bool (madeOf digR most s)) ∧ w' = w := by
  unfold maxLen at hs
  by_cases h0 : s.size = 0
  · have e0 := ch_empty h0
    have e1 : madeOf digR most s = false := by simp [madeOf, h0]
    rw [e1]
    go_enter Tryz.func77, Tryz.ntmps77
    go_wp2
    go_ret
    exact ⟨rfl, rfl⟩
  have e0 := ch_some h0
  have e0' : s.toList.isEmpty = false := by simpa using e0
  by_cases h1 : s.size ≤ most
  · have h1' : decide ((most : Int) < s.size) = false := by simp; omega
    have h1'' : ¬ ((most : Int) < s.size) := by omega
    obtain ⟨res, hres⟩ : ∃ res, madeOf digR most s = res := ⟨_, rfl⟩
    have Hres : Hid (madeOf digR most s = res) := hres
    rw [hres]
    clear hres
    go_enter Tryz.func77, Tryz.ntmps77
    go_wp2
    go_loop [5] (fun i => ∃ k : Nat, k ≤ s.size ∧ i = .int .i64 k ∧ Hid (∀ j, j < k → digR (s.get! j).toNat = true)) (fun i => s.size - (RowKit.intOf i).toNat)
    case atStart => exact ⟨0, Nat.zero_le _, rfl, fun j hj => absurd hj (Nat.not_lt_zero _)⟩
    case round =>
      obtain ⟨k, hk, rfl, Hk⟩ := hrel
      by_cases hlt : k < s.size
      · have i0 : (0 : Int) ≤ k := by omega
        have i1 : (k : Int) < s.size := by omega
        obtain ⟨c, hc⟩ : ∃ c, (s[k]'hlt).toNat = c := ⟨_, rfl⟩
        have Hg : Hid (digR (s.get! k).toNat = digR c) := by unfold Hid; rw [get_at s k hlt, hc]
        have bad : digR c = false → res = false := fun hb => by
          rw [← Hres.out]
          cases hm : madeOf digR most s
          · rfl
          · have := ((madeOf_iff (fun r => digR_low)).1 hm).2.2 k hlt
            rw [Hg.out, hb] at this
            cases this
        by_cases h48 : (c : Int) < 48
        · have e1 := bad (by simp [digR]; omega)
          subst e1
          clear bad
          go_wp2
          go_ret
          exact ⟨rfl, rfl⟩
        by_cases h57 : 57 < (c : Int)
        · have e1 := bad (by simp [digR]; omega)
          subst e1
          clear bad
          go_wp2
          go_ret
          exact ⟨rfl, rfl⟩
        have HN : Hid (∀ j, j < k + 1 → digR (s.get! j).toNat = true) := fun j hj => by
          rcases (by omega : j < k ∨ j = k) with h' | rfl
          · exact Hk.out j h'
          · rw [Hg.out]; simp [digR]; omega
        clear bad
        go_wp2
        go_round
        case rel => exact ⟨k + 1, by omega, by go_num, HN⟩
        case measure => simp [RowKit.intOf]; omega
      · have hk2 : k = s.size := by omega
        have er : res = true := by
          rw [← Hres.out]
          exact (madeOf_iff (fun r => digR_low)).2 ⟨h0, h1, fun i hi => Hk.out i (by omega)⟩
        subst er
        go_wp2
        go_ret
        exact ⟨rfl, rfl⟩
  · have h1' : decide ((most : Int) < s.size) = true := by simp; omega
    have h1'' : (most : Int) < s.size := by omega
    have e1 : madeOf digR most s = false := by simp [madeOf, h1]
    rw [e1]
    go_enter Tryz.func77, Tryz.ntmps77
    go_wp2
    go_ret
    exact ⟨rfl, rfl⟩

theorem leB_ge {a b : ByteArray} (h : leB a b = true) : Op.bytesLess b.toList a.toList = false := by
  cases hb : Op.bytesLess b.toList a.toList
  · rfl
  · unfold leB at h
    rw [Bool.or_eq_true, beq_iff_eq] at h
    rcases h with h | h
    · have := less_trans _ _ _ h hb
      rw [less_self] at this
      cases this
    · rw [h, less_self] at hb
      cases hb
theorem leB_lt {a b : ByteArray} (h : ¬ leB a b = true) : Op.bytesLess b.toList a.toList = true := by
  unfold leB at h
  rw [Bool.or_eq_true, beq_iff_eq, not_or] at h
  exact less_total _ _ (by simpa using h.1) h.2

set_option maxHeartbeats 4000000 in
theorem refAccount_any (b off cap i : Nat) (l : List Ac) (w : World) (hi : i < l.length) (hlen : l.length ≤ 1000) (hcap : l.length ≤ cap) (hb : b < w.heap.size) (hc : AcsAt w b off l) (hsz : (l.getD i ac0).code.size ≤ maxLen ∧ (l.getD i ac0).name.size ≤ maxLen) :
    Calls Tryz.prog 37 #[.slice (some ⟨b, off, none⟩) l.length cap, .int .i64 (i : Nat)] w fun e w' => e = .returned (.int .i64 (nextBad (l.take i) (l.getD i ac0))) ∧ Below w.heap.size w w' := by
  have hx := hc i hi
  have hn := AcAt.new w (l.getD i ac0) 72
  have b0 : Below w.heap.size w (w.alloc (.cells (l.getD i ac0).cells 72)) := (Below.refl _ w).alloc (Nat.le_refl _) _
  have HA : Hid (∀ W, Below w.heap.size w W → Calls Tryz.prog 38 #[.slice (some ⟨b, off, none⟩) i cap, .string (l.getD i ac0).par] W fun e w' => e = .returned (.int .i64 (idxP (hasCode (l.getD i ac0).par) (l.take i))) ∧ w' = W) := fun W hW => by
    have h2 : IsSl W (some ⟨b, off, none⟩) (l.take i) cap := (IsSl.below ⟨hcap, .inr ⟨b, off, rfl, hb, hc⟩⟩ hW).take i
    have := refAt_any (some ⟨b, off, none⟩) cap (l.take i) (l.getD i ac0).par W (by simp; omega) h2
    rw [show (l.take i).length = i by simp; omega] at this
    exact this
  have Hc : Hid (∀ W, Below w.heap.size w W → ∀ k, k < l.length → AcAt W b (off + k * 5) (l.getD k ac0)) := fun W hW k hk => (hc k hk).below hW hb
  have Htk : Hid (∀ k, k < i → (l.take i).getD k ac0 = l.getD k ac0) := fun k hk => take_getD l i k hk
  have hli : (l.take i).length = i := by simp; omega
  obtain ⟨res, hres⟩ : ∃ res, nextBad (l.take i) (l.getD i ac0) = res := ⟨_, rfl⟩
  have Hres : Hid (nextBad (l.take i) (l.getD i ac0) = res) := hres
  rw [hres]
  clear hres hc
  have Hlen : (l.length : Int) ≤ 1000 := by omega
  have j0 : (0 : Int) ≤ i := by omega
  have j1 : (i : Int) < l.length := by omega
  have j2 : (i : Int) ≤ cap := by omega
  generalize l.getD i ac0 = x at *
  obtain ⟨x0, x1, x2, x3, x4⟩ := x
  obtain ⟨s1, s2⟩ := hsz
  simp only [Ac.cells] at hn b0 HA s1 s2
  obtain ⟨c0, c1, c2, c3, c4⟩ := hx
  obtain ⟨d0, d1, d2, d3, d4⟩ := hn
  simp only [Nat.zero_add] at c0 c1 c2 c3 c4 d0 d1 d2 d3 d4
  have S1 : Hid (x0.size ≤ maxLen) := s1
  clear s1 s2
  go_enter Tryz.func37, Tryz.ntmps37
  go_wp2_with fail
  refine (refDigits_any x0 6 _ S1.out).mono ?_
  rintro e w' ⟨rfl, hw⟩
  rw [hw]; clear hw w' c0 c1 c2 c3 c4
  cases h1 : madeOf digR 6 x0
  · have er : res = 2 := by rw [← Hres.out]; simp [nextBad, isCodeB, h1]
    subst er
    go_wp2
    go_ret
    exact ⟨rfl, b0⟩
  by_cases hn0 : x1.size = 0
  · have e0 := ch_empty hn0
    have e0' : x1.toList.isEmpty = true := by rw [e0]; rfl
    have er : res = 2 := by rw [← Hres.out]; simp [nextBad, isNameB, madeOf, hn0]
    subst er
    go_wp2
    go_ret
    exact ⟨rfl, b0⟩
  have e0 := ch_some hn0
  have e0' : x1.toList.isEmpty = false := by simpa using e0
  by_cases h24 : 24 < (x1.size : Int)
  · have er : res = 2 := by rw [← Hres.out]; unfold nextBad; rw [if_pos]; right; simp [isNameB, madeOf]; omega
    subst er
    go_wp2
    go_ret
    exact ⟨rfl, b0⟩
  go_wp2
  go_loop [7] (fun i => ∃ k : Nat, k ≤ x1.size ∧ i = .int .i64 k ∧ Hid (∀ j, j < k → namR (x1.get! j).toNat = true)) (fun i => x1.size - (RowKit.intOf i).toNat)
  case atStart => exact ⟨0, Nat.zero_le _, rfl, fun j hj => absurd hj (Nat.not_lt_zero _)⟩
  case round =>
    obtain ⟨k, hk, rfl, Hk⟩ := hrel
    by_cases hlt : k < x1.size
    · have i0 : (0 : Int) ≤ k := by omega
      have i1 : (k : Int) < x1.size := by omega
      obtain ⟨c, hc⟩ : ∃ c, (x1[k]'hlt).toNat = c := ⟨_, rfl⟩
      have Hg : Hid (namR (x1.get! k).toNat = namR c) := by unfold Hid; rw [get_at x1 k hlt, hc]
      have bad : namR c = false → res = 2 := fun hb => by
        rw [← Hres.out]; unfold nextBad; rw [if_pos]
        right
        cases hm : isNameB x1
        · rfl
        · have := ((madeOf_iff (fun r => namR_low)).1 hm).2.2 k hlt
          rw [Hg.out, hb] at this
          cases this
      have good : namR c = true → Hid (∀ j, j < k + 1 → namR (x1.get! j).toNat = true) := fun hb j hj => by
        rcases (by omega : j < k ∨ j = k) with h' | rfl
        · exact Hk.out j h'
        · rw [Hg.out]; exact hb
      rcases (by omega : c ≤ 44 ∨ c = 45 ∨ 46 ≤ c ∧ c ≤ 47 ∨ 48 ≤ c ∧ c ≤ 57 ∨ 58 ≤ c ∧ c ≤ 64 ∨ 65 ≤ c ∧ c ≤ 90 ∨ 91 ≤ c ∧ c ≤ 96 ∨ 97 ≤ c ∧ c ≤ 122 ∨ 123 ≤ c) with hcl | hcl | hcl | hcl | hcl | hcl | hcl | hcl | hcl
      · have er := bad (by simp [namR, digR]; omega)
        subst er
        have t0 : ((c : Int) != 45) = true := by simp; omega
        have t1 : decide ((c : Int) < 48) = true := by simp; omega
        have t2 : decide (57 < (c : Int)) = false := by simp; omega
        have t3 : decide ((c : Int) < 65) = true := by simp; omega
        have t4 : decide (90 < (c : Int)) = false := by simp; omega
        have t5 : decide ((c : Int) < 97) = true := by simp; omega
        have t6 : decide (122 < (c : Int)) = false := by simp; omega
        clear bad good hcl
        go_wp2
        go_ret
        exact ⟨rfl, b0⟩
      · have HN := good (by simp [namR, digR]; omega)
        have t0 : ((c : Int) != 45) = false := by simp; omega
        have t1 : decide ((c : Int) < 48) = true := by simp; omega
        have t2 : decide (57 < (c : Int)) = false := by simp; omega
        have t3 : decide ((c : Int) < 65) = true := by simp; omega
        have t4 : decide (90 < (c : Int)) = false := by simp; omega
        have t5 : decide ((c : Int) < 97) = true := by simp; omega
        have t6 : decide (122 < (c : Int)) = false := by simp; omega
        clear bad good hcl
        go_wp2
        go_round
        case rel => exact ⟨k + 1, by omega, by go_num, HN⟩
        case measure => simp [RowKit.intOf]; omega
      · have er := bad (by simp [namR, digR]; omega)
        subst er
        have t0 : ((c : Int) != 45) = true := by simp; omega
        have t1 : decide ((c : Int) < 48) = true := by simp; omega
        have t2 : decide (57 < (c : Int)) = false := by simp; omega
        have t3 : decide ((c : Int) < 65) = true := by simp; omega
        have t4 : decide (90 < (c : Int)) = false := by simp; omega
        have t5 : decide ((c : Int) < 97) = true := by simp; omega
        have t6 : decide (122 < (c : Int)) = false := by simp; omega
        clear bad good hcl
        go_wp2
        go_ret
        exact ⟨rfl, b0⟩
      · have HN := good (by simp [namR, digR]; omega)
        have t0 : ((c : Int) != 45) = true := by simp; omega
        have t1 : decide ((c : Int) < 48) = false := by simp; omega
        have t2 : decide (57 < (c : Int)) = false := by simp; omega
        have t3 : decide ((c : Int) < 65) = true := by simp; omega
        have t4 : decide (90 < (c : Int)) = false := by simp; omega
        have t5 : decide ((c : Int) < 97) = true := by simp; omega
        have t6 : decide (122 < (c : Int)) = false := by simp; omega
        clear bad good hcl
        go_wp2
        go_round
        case rel => exact ⟨k + 1, by omega, by go_num, HN⟩
        case measure => simp [RowKit.intOf]; omega
      · have er := bad (by simp [namR, digR]; omega)
        subst er
        have t0 : ((c : Int) != 45) = true := by simp; omega
        have t1 : decide ((c : Int) < 48) = false := by simp; omega
        have t2 : decide (57 < (c : Int)) = true := by simp; omega
        have t3 : decide ((c : Int) < 65) = true := by simp; omega
        have t4 : decide (90 < (c : Int)) = false := by simp; omega
        have t5 : decide ((c : Int) < 97) = true := by simp; omega
        have t6 : decide (122 < (c : Int)) = false := by simp; omega
        clear bad good hcl
        go_wp2
        go_ret
        exact ⟨rfl, b0⟩
      · have HN := good (by simp [namR, digR]; omega)
        have t0 : ((c : Int) != 45) = true := by simp; omega
        have t1 : decide ((c : Int) < 48) = false := by simp; omega
        have t2 : decide (57 < (c : Int)) = true := by simp; omega
        have t3 : decide ((c : Int) < 65) = false := by simp; omega
        have t4 : decide (90 < (c : Int)) = false := by simp; omega
        have t5 : decide ((c : Int) < 97) = true := by simp; omega
        have t6 : decide (122 < (c : Int)) = false := by simp; omega
        clear bad good hcl
        go_wp2
        go_round
        case rel => exact ⟨k + 1, by omega, by go_num, HN⟩
        case measure => simp [RowKit.intOf]; omega
      · have er := bad (by simp [namR, digR]; omega)
        subst er
        have t0 : ((c : Int) != 45) = true := by simp; omega
        have t1 : decide ((c : Int) < 48) = false := by simp; omega
        have t2 : decide (57 < (c : Int)) = true := by simp; omega
        have t3 : decide ((c : Int) < 65) = false := by simp; omega
        have t4 : decide (90 < (c : Int)) = true := by simp; omega
        have t5 : decide ((c : Int) < 97) = true := by simp; omega
        have t6 : decide (122 < (c : Int)) = false := by simp; omega
        clear bad good hcl
        go_wp2
        go_ret
        exact ⟨rfl, b0⟩
      · have HN := good (by simp [namR, digR]; omega)
        have t0 : ((c : Int) != 45) = true := by simp; omega
        have t1 : decide ((c : Int) < 48) = false := by simp; omega
        have t2 : decide (57 < (c : Int)) = true := by simp; omega
        have t3 : decide ((c : Int) < 65) = false := by simp; omega
        have t4 : decide (90 < (c : Int)) = true := by simp; omega
        have t5 : decide ((c : Int) < 97) = false := by simp; omega
        have t6 : decide (122 < (c : Int)) = false := by simp; omega
        clear bad good hcl
        go_wp2
        go_round
        case rel => exact ⟨k + 1, by omega, by go_num, HN⟩
        case measure => simp [RowKit.intOf]; omega
      · have er := bad (by simp [namR, digR]; omega)
        subst er
        have t0 : ((c : Int) != 45) = true := by simp; omega
        have t1 : decide ((c : Int) < 48) = false := by simp; omega
        have t2 : decide (57 < (c : Int)) = true := by simp; omega
        have t3 : decide ((c : Int) < 65) = false := by simp; omega
        have t4 : decide (90 < (c : Int)) = true := by simp; omega
        have t5 : decide ((c : Int) < 97) = false := by simp; omega
        have t6 : decide (122 < (c : Int)) = true := by simp; omega
        clear bad good hcl
        go_wp2
        go_ret
        exact ⟨rfl, b0⟩
    · have hk2 : k = x1.size := by omega
      have hnm : isNameB x1 = true := (madeOf_iff (fun r => namR_low)).2 ⟨hn0, by omega, fun i hi => Hk.out i (by omega)⟩
      have hcd : isCodeB x0 = true := h1
      clear hk2 Hk
      by_cases h3 : x2 < 1
      · have er : res = 1 := by rw [← Hres.out]; simp [nextBad, hcd, hnm, h3]
        subst er
        go_wp2
        go_ret
        exact ⟨rfl, b0⟩
      by_cases h4 : 5 < x2
      · have er : res = 1 := by rw [← Hres.out]; simp [nextBad, hcd, hnm, h4]
        subst er
        go_wp2
        go_ret
        exact ⟨rfl, b0⟩
      have er : res = if (l.take i).length ≠ 0 ∧ leB x0 ((l.take i).getD ((l.take i).length - 1) ac0).code = true then 5 else parBad (l.take i) ⟨x0, x1, x2, x3, x4⟩ := by
        rw [← Hres.out]; unfold nextBad
        rw [if_neg (by simp [hcd, hnm]), if_neg (by simp; omega)]
      rw [hli] at er
      have ER : Hid (res = if i ≠ 0 ∧ leB x0 ((l.take i).getD (i - 1) ac0).code = true then 5 else parBad (l.take i) ⟨x0, x1, x2, x3, x4⟩) := er
      clear er Hres hcd hnm hli h24 hn0 e0 e0' h1
      have par : res = parBad (l.take i) ⟨x0, x1, x2, x3, x4⟩ → ∃ kk, res = kk ∧ ((x3.size = 0 ∧ kk = 0) ∨ (x3.size ≠ 0 ∧ idxP (hasCode x3) (l.take i) < 0 ∧ kk = 6) ∨ ∃ m : Nat, x3.size ≠ 0 ∧ idxP (hasCode x3) (l.take i) = (m : Int) ∧ m < i ∧ ((kk = 12 ∧ (l.getD m ac0).kind ≠ x2) ∨ (kk = 0 ∧ (l.getD m ac0).kind = x2))) := fun e => by
        refine ⟨_, rfl, ?_⟩
        rw [e]
        unfold parBad
        by_cases p0 : x3.size = 0
        · exact .inl ⟨p0, if_pos p0⟩
        · rw [if_neg p0]
          by_cases p1 : idxP (hasCode x3) (l.take i) < 0
          · exact .inr (.inl ⟨p0, p1, if_pos p1⟩)
          · rw [if_neg p1]
            obtain ⟨m, hm, em, _, _⟩ := idxP_some (p := hasCode x3) (l := l.take i) (by omega)
            have hmi : m < i := by simp only [List.length_take] at hm; omega
            refine .inr (.inr ⟨m, p0, em, hmi, ?_⟩)
            rw [em, Int.toNat_natCast, Htk.out m hmi]
            by_cases p2 : (l.getD m ac0).kind = x2
            · exact .inr ⟨by simp only; rw [if_neg (fun h => h p2)], p2⟩
            · exact .inl ⟨by simp only; rw [if_pos p2], p2⟩
      have Hpar : Hid (res = parBad (l.take i) ⟨x0, x1, x2, x3, x4⟩ → _) := par
      clear par
      by_cases hi0 : i = 0
      · subst hi0
        obtain ⟨kk, rfl, hkk⟩ := Hpar.out (by rw [ER.out, if_neg (fun h => h.1 rfl)])
        clear Hpar ER
        rcases hkk with ⟨p0, e⟩ | ⟨p0, p1, e⟩ | ⟨m, p0, em, hm, _⟩
        · have p0' := ch_empty p0
          subst e
          go_wp2_with fail
          go_quiet (fail)
          go_wp2
          go_ret
          exact ⟨rfl, ch_drewN b0 _⟩
        · have p0' := ch_some p0
          have p0'' : x3.toList.isEmpty = false := by simpa using p0'
          subst e
          go_wp2_with fail
          go_quiet (fail)
          go_wp2_with fail
          go_region_with (go_at_call 38; refine (HA.out _ (ch_drewN b0 _).drew).mono ?_; rintro e w' ⟨rfl, rfl⟩)
          all_goals
            go_wp2
            go_ret
            first | exact ⟨rfl, (ch_drewN b0 _).drew⟩ | exact ⟨rfl, ch_drewN b0 _⟩ | exact ⟨rfl, ch_drewN (ch_drewN b0 _).drew _⟩
        · omega
      · obtain ⟨q, hq⟩ : ∃ q, i = q + 1 := ⟨i - 1, by omega⟩
        have hp := (Hc.out _ b0 q (by omega)).c0
        have hcq : (l.take i).getD (i - 1) ac0 = l.getD q ac0 := by rw [show i - 1 = q by omega]; exact Htk.out q (by omega)
        rw [hcq] at ER
        have HcL : Hid (∀ m, m < i → (w.alloc (.cells #[.string x0, .string x1, .int .i64 x2, .string x3, .bool x4] 72)).cell? ⟨b, off + m * 5 + 2, none⟩ = some (.int .i64 (l.getD m ac0).kind)) := fun m hm => (Hc.out _ b0 m (by omega)).c2
        clear hcq
        subst hq
        generalize (l.getD q ac0).code = y0 at *
        have hq0 : (0 : Int) ≤ q := by omega
        have hqw : IntKind.i64.wrap (q : Int) = q := by rw [IntKind.wrap_i64]; omega
        have hq1 : (q : Int) < l.length := by omega
        by_cases hle : leB x0 y0 = true
        · have er : res = 5 := by rw [ER.out, if_pos ⟨by omega, hle⟩]
          subst er
          have hge : Op.bytesLess y0.toList x0.toList = false := leB_ge hle
          clear Hpar ER
          go_wp2_with fail
          go_quiet (fail)
          go_wp2
          go_ret
          exact ⟨rfl, ch_drewN b0 _⟩
        · have hge : Op.bytesLess y0.toList x0.toList = true := leB_lt hle
          obtain ⟨kk, rfl, hkk⟩ := Hpar.out (by rw [ER.out, if_neg (fun h => hle h.2)])
          clear Hpar ER
          rcases hkk with ⟨p0, e⟩ | ⟨p0, p1, e⟩ | ⟨m, p0, em, hm, he⟩
          · have p0' := ch_empty p0
            subst e
            go_wp2_with fail
            go_quiet (fail)
            go_wp2
            go_ret
            exact ⟨rfl, ch_drewN b0 _⟩
          · have p0' := ch_some p0
            have p0'' : x3.toList.isEmpty = false := by simpa using p0'
            subst e
            go_wp2_with fail
            go_quiet (fail)
            go_wp2_with fail
            go_region_with (go_at_call 38; refine (HA.out _ (ch_drewN b0 _).drew).mono ?_; rintro e w' ⟨rfl, rfl⟩)
            all_goals
              go_wp2
              go_ret
              first | exact ⟨rfl, (ch_drewN b0 _).drew⟩ | exact ⟨rfl, ch_drewN b0 _⟩ | exact ⟨rfl, ch_drewN (ch_drewN b0 _).drew _⟩
          · have p0' := ch_some p0
            have p0'' : x3.toList.isEmpty = false := by simpa using p0'
            have hk2 := HcL.out m hm
            have hA := fun W hW => HA.out W hW
            rw [em] at hA
            have HHA : Hid (∀ W, _) := hA
            clear hA HA em HcL
            generalize (l.getD m ac0).kind = y2 at *
            have m0 : (0 : Int) ≤ m := by omega
            have m1 : (m : Int) < l.length := by omega
            rcases he with ⟨e, hne⟩ | ⟨e, heq⟩
            · subst e
              have hne' : (y2 != x2) = true := by simp [hne]
              go_wp2_with fail
              go_quiet (fail)
              go_wp2_with fail
              go_region_with (go_at_call 38; refine (HHA.out _ (ch_drewN b0 _).drew).mono ?_; rintro e w' ⟨rfl, rfl⟩)
              all_goals
                go_wp2_with fail
                go_quiet (fail)
                go_wp2
                go_ret
                first | exact ⟨rfl, (ch_drewN b0 _).drew⟩ | exact ⟨rfl, ch_drewN b0 _⟩ | exact ⟨rfl, ch_drewN (ch_drewN b0 _).drew _⟩
            · subst e
              subst heq
              go_wp2_with fail
              go_quiet (fail)
              go_wp2_with fail
              go_region_with (go_at_call 38; refine (HHA.out _ (ch_drewN b0 _).drew).mono ?_; rintro e w' ⟨rfl, rfl⟩)
              all_goals
                go_wp2_with fail
                go_quiet (fail)
                go_wp2
                go_ret
                first | exact ⟨rfl, (ch_drewN b0 _).drew⟩ | exact ⟨rfl, ch_drewN b0 _⟩ | exact ⟨rfl, ch_drewN (ch_drewN b0 _).drew _⟩
end Go.Proofs.YtiolkeipgpkbmaaGreatDoor

namespace Go.Proofs.YtiolkeipgpkbmaaGreatDoor
set_option linter.unusedVariables false
set_option linter.unusedSimpArgs false
set_option maxRecDepth 100000
open Go.RowKit Go.Lib

/-- Numbers behind a slice. -/
def HasInts (w : World) (v : Value) (xs : List Int) : Prop := ∃ a cap, v = .slice a xs.length cap ∧ (xs = [] ∨ ∃ g off, a = some ⟨g, off, none⟩ ∧ ∀ k, k < xs.length → w.cell? ⟨g, off + k, none⟩ = some (.int .i64 (xs.getD k 0)))

theorem hasInts_nil (w : World) : HasInts w (.slice none 0 0) [] := ⟨none, 0, rfl, .inl rfl⟩

--@fi
end Go.Proofs.YtiolkeipgpkbmaaGreatDoor
