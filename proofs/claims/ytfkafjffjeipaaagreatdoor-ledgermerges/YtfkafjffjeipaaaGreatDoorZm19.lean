/-
  A chart, and a list of numbers, that came in, as they lie in memory.
-/
import Derived.Test.YtfkafjffjeipaaaGreatDoorZm7
import Derived.Test.YtfkafjffjeipaaaGreatDoorZm12
import Derived.Test.YtfkafjffjeipaaaGreatDoorZm13
import Derived.Test.YtfkafjffjeipaaaGreatDoorZm18
import Derived.Test.YtfkafjffjeipaaaGreatDoorZm8
import Derived.Deep.Slices
import Derived.OpenShut
namespace Go.Proofs.YtfkafjffjeipaaaGreatDoor
set_option linter.unusedVariables false
set_option linter.unusedSimpArgs false
set_option maxRecDepth 100000
open Go.RowKit Go.Lib Math

theorem chkAt_bd (l : List Bl) (k : Nat) : 0 ≤ chkAt l k ∧ chkAt l k ≤ 12 := by
  unfold chkAt
  split
  · omega
  · split
    · omega
    · split <;> omega
theorem chkTo_bd (l : List Bl) : ∀ k, 0 ≤ chkTo l k ∧ chkTo l k ≤ 12
  | 0 => by simp [chkTo]
  | k + 1 => by
    have h1 := chkAt_bd l k
    have h2 := chkTo_bd l k
    unfold chkTo
    split <;> assumption
theorem chk_bd (l : List Bl) : 0 ≤ chk l ∧ chk l ≤ 12 := by
  have := chkTo_bd l l.length
  unfold chk
  split <;> omega
theorem mgE_bd (a b : List Bl) : 0 ≤ mgE a b ∧ mgE a b ≤ 12 := by
  have h1 := chk_bd a
  have h2 := chk_bd b
  unfold mgE
  split
  · exact h1
  · split
    · exact h2
    · split
      · omega
      · split <;> omega
theorem stE_bd (c : List Ac) (l : List Bl) (ent : Int) (cur : ByteArray) : 0 ≤ stE c l ent cur ∧ stE c l ent cur ≤ 12 := by
  have h1 := chBad_bd c
  have h2 := chk_bd l
  unfold stE
  split
  · exact h1
  · split
    · exact h2
    · split
      · omega
      · split <;> omega
theorem enE_is {c : Int} (h : 0 ≤ c ∧ c ≤ 12) : ErrIs (enE c) c := by
  by_cases h0 : c = 0
  · subst h0; exact .inl ⟨rfl, rfl⟩
  · rw [enE_ne h0]; exact .inr ⟨rfl, by omega, by omega⟩
theorem hasInts_below {w w' : World} {v : Value} {xs : List Int} (h : HasInts w v xs) (hb : Below w.heap.size w w') : HasInts w' v xs := by
  obtain ⟨a, cap, rfl, h⟩ := h
  refine ⟨a, cap, rfl, ?_⟩
  rcases h with h | ⟨g, off, rfl, hc⟩
  · exact .inl h
  · exact .inr ⟨g, off, rfl, fun k hk => (hb.cell (p := ⟨g, off + k, none⟩) (World.block_lt_of_cell? _ _ (hc k hk))).trans (hc k hk)⟩

/-- What comes of a merge. -/
def mgL2 (a b : List Bl) : List Bl := if mgE a b = 0 then full (putL a b) else []
theorem mgL2_len (a b : List Bl) : (mgL2 a b).length ≤ 1000 := by
  unfold mgL2
  split
  · rename_i h
    have h1 := (mgE_zero.1 h)
    have h2 := full_length (putL a b)
    have h3 := putL_count (b := b) h1.1.rises
    have h4 := h1.2.2.1
    omega
  · simp
theorem lmM1 (a1 a2 : Option Addr) (c1 c2 : Nat) (a b : List Bl) (W : World) (ha : IsBl W a1 a c1) (hb : IsBl W a2 b c2) (la : a.length ≤ 9223372036854775807) (lb : b.length ≤ 9223372036854775807) :
    Calls Tryz.prog 7 #[.slice a1 a.length c1, .slice a2 b.length c2] W fun e w' => ∃ va vc, e = .returned (.tuple #[.slice va (mgL2 a b).length vc, .int .i64 (mgE a b)]) ∧ Hid (Below W.heap.size W w' ∧ IsBl w' va (mgL2 a b) vc) := by
  refine (lmMerge_any a1 a2 c1 c2 a b W ha hb la lb).mono ?_
  rintro e w' ⟨hB, h1, h2⟩
  unfold mgL2
  by_cases h0 : mgE a b = 0
  · obtain ⟨v, rfl, hr⟩ := h2 h0
    obtain ⟨va, vc, rfl, hi⟩ := hr.out.isBl
    rw [if_pos h0]
    exact ⟨va, vc, by rw [h0], hB, hi⟩
  · rw [if_neg h0]
    exact ⟨none, 0, h1 h0, hB, isBl_nil _⟩
theorem lmM2 (a1 a2 : Option Addr) (c1 c2 : Nat) (a b : List Bl) (W : World) (ha : IsBl W a1 a c1) (hb : IsBl W a2 b c2) (la : a.length ≤ 9223372036854775807) (lb : b.length ≤ 9223372036854775807) (oka : ∀ x ∈ a, BlOk x) (okb : ∀ x ∈ b, BlOk x) :
    Calls Tryz.prog 8 #[.slice a1 a.length c1, .slice a2 b.length c2] W fun e w' => ∃ va vc, e = .returned (.tuple #[.slice va (mgL2 a b).length vc, enE (mgE a b)]) ∧ Hid (Below W.heap.size W w' ∧ IsBl w' va (mgL2 a b) vc) := by
  refine (merge_any a1 a2 c1 c2 a b W ha hb la lb oka okb).mono ?_
  rintro e w' ⟨hB, h1, h2⟩
  unfold mgL2
  by_cases h0 : mgE a b = 0
  · obtain ⟨v, R, rfl, hr⟩ := h2 h0
    have hR : R = full (putL a b) := hr.out.2.sums.uniq (putL_sums (b := b) (mgE_zero.1 h0).1.rises) (fun _ => rfl)
    subst hR
    obtain ⟨va, vc, rfl, hi⟩ := hr.out.1.isBl
    rw [if_pos h0]
    exact ⟨va, vc, by rw [h0]; rfl, hB, hi⟩
  · rw [if_neg h0]
    exact ⟨none, 0, h1 h0, hB, isBl_nil _⟩
/-- What comes of a statement. -/
def stL (c : List Ac) (l : List Bl) (ent : Int) (cur : ByteArray) : List Int := if stE c l ent cur = 0 then (List.range c.length).map (rollI c (amTo c ent cur l)) else []
theorem stE_ok {c : List Ac} {l : List Bl} {ent : Int} {cur : ByteArray} (h : stE c l ent cur = 0) : chBad c = 0 ∧ chk l = 0 ∧ l.any (amNo c ent cur) = false ∧ rollOk c (amTo c ent cur l) c.length = true := by
  unfold stE at h
  split at h
  · rename_i h1; exact absurd h h1
  · rename_i h1
    split at h
    · rename_i h2; exact absurd h h2
    · rename_i h2
      split at h
      · omega
      · rename_i h3
        split at h
        · rename_i h4
          exact ⟨by simpa using h1, by simpa using h2, by simpa using h3, h4⟩
        · omega
theorem stL_len (c : List Ac) (l : List Bl) (ent : Int) (cur : ByteArray) : (stL c l ent cur).length ≤ 1000 := by
  unfold stL
  split
  · rename_i h
    have := chBad_len (stE_ok h).1
    simp; omega
  · simp
theorem lmSt (a1 a2 : Option Addr) (c1 c2 : Nat) (c : List Ac) (l : List Bl) (ent : Int) (cur : ByteArray) (w : World) (hc : IsSl w a1 c c1) (hl : IsBl w a2 l c2) (ll : l.length ≤ 9223372036854775807) :
    Calls Tryz.prog 13 #[.slice a1 c.length c1, .slice a2 l.length c2, .int .i64 ent, .string cur] w fun e w' => ∃ v, e = .returned (.tuple #[v, enE (stE c l ent cur)]) ∧ Hid (Below w.heap.size w w' ∧ HasInts w' v (stL c l ent cur)) := by
  refine (statement_any a1 a2 c1 c2 c l ent cur w hc hl ll).mono ?_
  rintro e w' ⟨hB, h1, h2⟩
  unfold stL
  by_cases h0 : stE c l ent cur = 0
  · obtain ⟨g, rfl, hr⟩ := h2 h0
    rw [if_pos h0]
    have := hasInts_irow hr.out
    rw [show ((List.range c.length).map (rollI c (amTo c ent cur l))).length = c.length by simp] at this
    exact ⟨_, by rw [h0]; rfl, hB, this⟩
  · rw [if_neg h0]
    exact ⟨_, h1 h0, hB, hasInts_nil _⟩
theorem lmRoll (a1 : Option Addr) (c1 : Nat) (c : List Ac) (l : List Bl) (ent : Int) (cur : ByteArray) (G : Nat) (w : World) (hc : IsSl w a1 c c1) (hr : IRow w G (amTo c ent cur l)) (h0 : chBad c = 0) (h1 : chk l = 0) (h2 : l.any (amNo c ent cur) = false) :
    Calls Tryz.prog 12 #[.slice a1 c.length c1, .slice (some ⟨G, 0, none⟩) c.length c.length] w fun e w' => ∃ v, e = .returned (.tuple #[v, .int .i64 (stE c l ent cur)]) ∧ Hid (Below w.heap.size w w' ∧ HasInts w' v (stL c l ent cur)) := by
  have hal := amTo_length c ent cur l
  have hF := chk_zero.1 h1
  have hft := amTo_fits c ent cur l (fun x hx => by have := hF.amt x hx; exact ⟨by omega, by omega⟩)
  have hin : IsInts w (some ⟨G, 0, none⟩) (amTo c ent cur l) c.length := ⟨by omega, hft, .inr ⟨G, 0, rfl, irow_lt hr, fun k hk => by rw [Nat.zero_add]; exact irow_cell hr hk⟩⟩
  have hs : stE c l ent cur = if rollOk c (amTo c ent cur l) c.length = true then 0 else 10 := by
    unfold stE
    rw [if_neg (by simp [h0]), if_neg (by simp [h1]), if_neg (by simp [h2])]
  refine (refRoll_any a1 c1 c (some ⟨G, 0, none⟩) (amTo c ent cur l) c.length w hc hin h0 hal).mono ?_
  rintro e w' ⟨hB, e1, e2⟩
  unfold stL
  cases hk : rollOk c (amTo c ent cur l) c.length
  · rw [hk, if_neg (by simp)] at hs
    rw [hs, if_neg (by omega)]
    exact ⟨_, e1 hk, hB, hasInts_nil _⟩
  · rw [hk, if_pos rfl] at hs
    obtain ⟨v, rfl, hrow⟩ := e2 hk
    rw [hs, if_pos rfl]
    exact ⟨v, rfl, hB, hasInts_row hrow⟩
theorem lmAm (a1 a2 : Option Addr) (c1 c2 : Nat) (c : List Ac) (l : List Bl) (ent : Int) (cur : ByteArray) (w : World) (hc : IsSl w a1 c c1) (hl : IsBl w a2 l c2) (lc : c.length ≤ 60) (ll : l.length ≤ 200) (h2 : l.any (amNo c ent cur) = false) :
    Calls Tryz.prog 11 #[.slice a1 c.length c1, .slice a2 l.length c2, .int .i64 ent, .string cur] w fun e w' => ∃ g, e = .returned (.tuple #[.slice (some ⟨g, 0, none⟩) c.length c.length, .int .i64 0]) ∧ Hid (Below w.heap.size w w' ∧ IRow w' g (amTo c ent cur l)) := by
  refine (lmAmounts_any a1 a2 c1 c2 c l ent cur w hc hl lc ll).mono ?_
  rintro e w' ⟨hB, -, e2⟩
  obtain ⟨g, rfl, hr⟩ := e2 h2
  exact ⟨g, rfl, hB, hr.out.2⟩
theorem lmAmNo (a1 a2 : Option Addr) (c1 c2 : Nat) (c : List Ac) (l : List Bl) (ent : Int) (cur : ByteArray) (w : World) (hc : IsSl w a1 c c1) (hl : IsBl w a2 l c2) (lc : c.length ≤ 60) (ll : l.length ≤ 200) (h2 : l.any (amNo c ent cur) = true) :
    Calls Tryz.prog 11 #[.slice a1 c.length c1, .slice a2 l.length c2, .int .i64 ent, .string cur] w fun e w' => e = .returned (.tuple #[.slice none 0 0, .int .i64 6]) ∧ Hid (Below w.heap.size w w') := by
  refine (lmAmounts_any a1 a2 c1 c2 c l ent cur w hc hl lc ll).mono ?_
  rintro e w' ⟨hB, e1, -⟩
  exact ⟨e1 h2, hB⟩

set_option maxHeartbeats 8000000 in
theorem lmerges_walk (a1 a2 a3 : Option Addr) (c1 c2 c3 : Nat) (a b : List Bl) (c : List Ac) (ent : Int) (cur : ByteArray) (w : World) (ha : IsBl w a1 a c1) (hb : IsBl w a2 b c2) (hc : IsSl w a3 c c3) (la : a.length ≤ 9223372036854775807) (lb : b.length ≤ 9223372036854775807) (oka : ∀ x ∈ a, BlOk x) (okb : ∀ x ∈ b, BlOk x)
    (hok : ∀ k, k < c.length → (c.getD k ac0).code.size ≤ maxLen ∧ (c.getD k ac0).name.size ≤ maxLen) (hg : ErrT w) :
    Calls Tryz.prog 3 #[.slice a1 a.length c1, .slice a2 b.length c2, .slice a3 c.length c3, .int .i64 ent, .string cur] w fun e w' => e = .returned (.bool true) ∧ Below w.heap.size w w' := by
  have Err : Hid (∀ E n W, ErrIs E n → Below w.heap.size w W → Calls Tryz.prog 4 #[E, .int .i64 n] W fun e w' => e = .returned (.bool true) ∧ Below W.heap.size W w') := fun E n W h hW => err_true h W (hg.below hW (Nat.le_refl _))
  have K1 : Hid (∀ W, Below w.heap.size w W → Calls Tryz.prog 5 #[.slice a1 a.length c1] W fun e w' => e = .returned (enE (chk a)) ∧ Below W.heap.size W w') := fun W hW => ldCheck_any a1 c1 a W la (ha.below hW)
  have K2 : Hid (∀ W, Below w.heap.size w W → Calls Tryz.prog 6 #[.slice a1 a.length c1] W fun e w' => e = .returned (.int .i64 (chk a)) ∧ Below W.heap.size W w') := fun W hW => lmCheck_any a1 c1 a W la (ha.below hW)
  have M1 : Hid (∀ W, Below w.heap.size w W → Calls Tryz.prog 7 #[.slice a1 a.length c1, .slice a2 b.length c2] W fun e w' => ∃ va vc, e = .returned (.tuple #[.slice va (mgL2 a b).length vc, .int .i64 (mgE a b)]) ∧ Hid (Below W.heap.size W w' ∧ IsBl w' va (mgL2 a b) vc)) := fun W hW => lmM1 a1 a2 c1 c2 a b W (ha.below hW) (hb.below hW) la lb
  have M2 : Hid (∀ W, Below w.heap.size w W → Calls Tryz.prog 8 #[.slice a1 a.length c1, .slice a2 b.length c2] W fun e w' => ∃ va vc, e = .returned (.tuple #[.slice va (mgL2 a b).length vc, enE (mgE a b)]) ∧ Hid (Below W.heap.size W w' ∧ IsBl w' va (mgL2 a b) vc)) := fun W hW => lmM2 a1 a2 c1 c2 a b W (ha.below hW) (hb.below hW) la lb oka okb
  have CH : Hid (∀ W, Below w.heap.size w W → Calls Tryz.prog 10 #[.slice a3 c.length c3] W fun e w' => e = .returned (.int .i64 (chBad c)) ∧ Below W.heap.size W w') := fun W hW => refChart_any a3 c3 c W (hc.below hW) hok
  have ST : Hid (∀ W, Below w.heap.size w W → Calls Tryz.prog 13 #[.slice a3 c.length c3, .slice a1 a.length c1, .int .i64 ent, .string cur] W fun e w' => ∃ v, e = .returned (.tuple #[v, enE (stE c a ent cur)]) ∧ Hid (Below W.heap.size W w' ∧ HasInts w' v (stL c a ent cur))) := fun W hW => lmSt a3 a1 c3 c1 c a ent cur W (hc.below hW) (ha.below hW) la
  have I1 : Hid (ErrIs (enE (chk a)) (chk a)) := enE_is (chk_bd a)
  have I2 : Hid (ErrIs (enE (mgE a b)) (mgE a b)) := enE_is (mgE_bd a b)
  have I3 : Hid (ErrIs (enE (stE c a ent cur)) (stE c a ent cur)) := enE_is (stE_bd c a ent cur)
  have SB : Hid (∀ va1 va2 vc1 vc2 W, IsBl W va1 (mgL2 a b) vc1 → IsBl W va2 (mgL2 a b) vc2 → Calls Tryz.prog 9 #[.slice va1 (mgL2 a b).length vc1, .slice va2 (mgL2 a b).length vc2] W fun e w' => e = .returned (.bool true) ∧ Below W.heap.size W w') := fun va1 va2 vc1 vc2 W h1 h2 => sameBals_any va1 va2 vc1 vc2 (mgL2 a b) W (mgL2_len a b) h1 h2
  have SI : Hid (∀ v1 v2 W, HasInts W v1 (stL c a ent cur) → HasInts W v2 (stL c a ent cur) → Calls Tryz.prog 14 #[v1, v2] W fun e w' => e = .returned (.bool true) ∧ Below W.heap.size W w') := fun v1 v2 W h1 h2 => sameInts_any v1 v2 (stL c a ent cur) W (stL_len c a ent cur) h1 h2
  have HIa : Hid (IsBl w a1 a c1) := ha
  have HIc : Hid (IsSl w a3 c c3) := hc
  clear ha hb hc hok hg oka okb
  by_cases h1 : chBad c = 0
  case neg =>
    have es : stE c a ent cur = chBad c := by unfold stE; rw [if_pos h1]
    have sl : stL c a ent cur = [] := by unfold stL; rw [if_neg (by rw [es]; exact h1)]
    have h1' : (chBad c == 0) = false := by simp [h1]
    rw [es] at ST I3
    have HSL : Hid (stL c a ent cur = []) := sl
    clear es sl
    generalize chBad c = q at *
    generalize chk a = q1 at *
    generalize mgE a b = q2 at *
    go_enter Tryz.func3, Tryz.ntmps3
    go_wp2_with fail
    refine (K1.out w (Below.refl _ _)).mono ?_
    rintro e w1 ⟨rfl, hb1⟩
    have B1 : Hid (Below w.heap.size w w1) := hb1
    clear hb1
    go_wp2_with fail
    refine (K2.out w1 B1.out).mono ?_
    rintro e w2 ⟨rfl, hb2⟩
    have B2 : Hid (Below w.heap.size w w2) := B1.out.trans (hb2.mono B1.out.size)
    clear hb2 B1
    go_wp2_with fail
    refine (Err.out _ _ w2 I1.out B2.out).mono ?_
    rintro e w3 ⟨rfl, hb3⟩
    have B3 : Hid (Below w.heap.size w w3) := B2.out.trans (hb3.mono B2.out.size)
    clear hb3 B2
    go_wp2_with fail
    refine (M1.out w3 B3.out).mono ?_
    rintro e w4 ⟨va4, vc4, rfl, hb4⟩
    have B4 : Hid (Below w.heap.size w w4) := B3.out.trans (hb4.out.1.mono B3.out.size)
    go_wp2_with fail
    refine (M2.out w4 B4.out).mono ?_
    rintro e w5 ⟨va5, vc5, rfl, hb5⟩
    have B5 : Hid (Below w.heap.size w w5) := B4.out.trans (hb5.out.1.mono B4.out.size)
    have R5 : Hid (IsBl w5 va4 (mgL2 a b) vc4 ∧ IsBl w5 va5 (mgL2 a b) vc5) := ⟨hb4.out.2.below hb5.out.1, hb5.out.2⟩
    clear hb4 hb5 B3 B4
    go_wp2_with fail
    refine (Err.out _ _ w5 I2.out B5.out).mono ?_
    rintro e w6 ⟨rfl, hb6⟩
    have B6 : Hid (Below w.heap.size w w6) := B5.out.trans (hb6.mono B5.out.size)
    have R6 : Hid (IsBl w6 va4 (mgL2 a b) vc4 ∧ IsBl w6 va5 (mgL2 a b) vc5) := ⟨R5.out.1.below hb6, R5.out.2.below hb6⟩
    clear hb6 B5 R5
    go_wp2_with fail
    refine (SB.out va5 va4 vc5 vc4 w6 R6.out.2 R6.out.1).mono ?_
    rintro e w7 ⟨rfl, hb7⟩
    have B7 : Hid (Below w.heap.size w w7) := B6.out.trans (hb7.mono B6.out.size)
    clear hb7 B6 R6 SB M1 M2 I1 I2
    go_wp2_with fail
    refine (CH.out w7 B7.out).mono ?_
    rintro e w8 ⟨rfl, hb8⟩
    have B8 : Hid (Below w.heap.size w w8) := B7.out.trans (hb8.mono B7.out.size)
    clear hb8 B7 CH
    have RV : Hid (HasInts w8 (.slice none 0 0) (stL c a ent cur)) := by unfold Hid; rw [HSL.out]; exact hasInts_nil _
    go_wp2_with fail
    refine (ST.out w8 B8.out).mono ?_
    rintro e w20 ⟨v20, rfl, hb20⟩
    have B20 : Hid (Below w.heap.size w w20) := B8.out.trans (hb20.out.1.mono B8.out.size)
    have R20 : Hid (HasInts w20 v20 (stL c a ent cur) ∧ HasInts w20 (.slice none 0 0) (stL c a ent cur)) := ⟨hb20.out.2, hasInts_below RV.out hb20.out.1⟩
    clear hb20
    go_wp2_with fail
    refine (Err.out _ _ w20 I3.out B20.out).mono ?_
    rintro e w21 ⟨rfl, hb21⟩
    have B21 : Hid (Below w.heap.size w w21) := B20.out.trans (hb21.mono B20.out.size)
    have R21 : Hid (HasInts w21 v20 (stL c a ent cur) ∧ HasInts w21 (.slice none 0 0) (stL c a ent cur)) := ⟨hasInts_below R20.out.1 hb21, hasInts_below R20.out.2 hb21⟩
    clear hb21 R20
    go_wp2_with fail
    refine (SI.out v20 (.slice none 0 0) w21 R21.out.1 R21.out.2).mono ?_
    rintro e w22 ⟨rfl, hb22⟩
    have B22 : Hid (Below w.heap.size w w22) := B21.out.trans (hb22.mono B21.out.size)
    clear hb22 R21
    go_wp2
    go_ret
    exact ⟨rfl, B22.out⟩
  by_cases h2 : chk a = 0
  case neg =>
    have es : stE c a ent cur = chk a := by unfold stE; rw [if_neg (by simp [h1]), if_pos h2]
    have sl : stL c a ent cur = [] := by unfold stL; rw [if_neg (by rw [es]; exact h2)]
    have h2' : (chk a == 0) = false := by simp [h2]
    rw [es] at ST I3
    have HSL : Hid (stL c a ent cur = []) := sl
    rw [h1] at CH
    clear es sl h1
    generalize chk a = q1 at *
    generalize mgE a b = q2 at *
    go_enter Tryz.func3, Tryz.ntmps3
    go_wp2_with fail
    refine (K1.out w (Below.refl _ _)).mono ?_
    rintro e w1 ⟨rfl, hb1⟩
    have B1 : Hid (Below w.heap.size w w1) := hb1
    clear hb1
    go_wp2_with fail
    refine (K2.out w1 B1.out).mono ?_
    rintro e w2 ⟨rfl, hb2⟩
    have B2 : Hid (Below w.heap.size w w2) := B1.out.trans (hb2.mono B1.out.size)
    clear hb2 B1
    go_wp2_with fail
    refine (Err.out _ _ w2 I1.out B2.out).mono ?_
    rintro e w3 ⟨rfl, hb3⟩
    have B3 : Hid (Below w.heap.size w w3) := B2.out.trans (hb3.mono B2.out.size)
    clear hb3 B2
    go_wp2_with fail
    refine (M1.out w3 B3.out).mono ?_
    rintro e w4 ⟨va4, vc4, rfl, hb4⟩
    have B4 : Hid (Below w.heap.size w w4) := B3.out.trans (hb4.out.1.mono B3.out.size)
    go_wp2_with fail
    refine (M2.out w4 B4.out).mono ?_
    rintro e w5 ⟨va5, vc5, rfl, hb5⟩
    have B5 : Hid (Below w.heap.size w w5) := B4.out.trans (hb5.out.1.mono B4.out.size)
    have R5 : Hid (IsBl w5 va4 (mgL2 a b) vc4 ∧ IsBl w5 va5 (mgL2 a b) vc5) := ⟨hb4.out.2.below hb5.out.1, hb5.out.2⟩
    clear hb4 hb5 B3 B4
    go_wp2_with fail
    refine (Err.out _ _ w5 I2.out B5.out).mono ?_
    rintro e w6 ⟨rfl, hb6⟩
    have B6 : Hid (Below w.heap.size w w6) := B5.out.trans (hb6.mono B5.out.size)
    have R6 : Hid (IsBl w6 va4 (mgL2 a b) vc4 ∧ IsBl w6 va5 (mgL2 a b) vc5) := ⟨R5.out.1.below hb6, R5.out.2.below hb6⟩
    clear hb6 B5 R5
    go_wp2_with fail
    refine (SB.out va5 va4 vc5 vc4 w6 R6.out.2 R6.out.1).mono ?_
    rintro e w7 ⟨rfl, hb7⟩
    have B7 : Hid (Below w.heap.size w w7) := B6.out.trans (hb7.mono B6.out.size)
    clear hb7 B6 R6 SB M1 M2 I1 I2
    go_wp2_with fail
    refine (CH.out w7 B7.out).mono ?_
    rintro e w8 ⟨rfl, hb8⟩
    have B8 : Hid (Below w.heap.size w w8) := B7.out.trans (hb8.mono B7.out.size)
    clear hb8 B7 CH
    go_wp2_with fail
    refine (K2.out w8 B8.out).mono ?_
    rintro e w9 ⟨rfl, hb9⟩
    have B9 : Hid (Below w.heap.size w w9) := B8.out.trans (hb9.mono B8.out.size)
    clear hb9
    have RV : Hid (HasInts w9 (.slice none 0 0) (stL c a ent cur)) := by unfold Hid; rw [HSL.out]; exact hasInts_nil _
    go_wp2_with fail
    refine (ST.out w9 B9.out).mono ?_
    rintro e w20 ⟨v20, rfl, hb20⟩
    have B20 : Hid (Below w.heap.size w w20) := B9.out.trans (hb20.out.1.mono B9.out.size)
    have R20 : Hid (HasInts w20 v20 (stL c a ent cur) ∧ HasInts w20 (.slice none 0 0) (stL c a ent cur)) := ⟨hb20.out.2, hasInts_below RV.out hb20.out.1⟩
    clear hb20
    go_wp2_with fail
    refine (Err.out _ _ w20 I3.out B20.out).mono ?_
    rintro e w21 ⟨rfl, hb21⟩
    have B21 : Hid (Below w.heap.size w w21) := B20.out.trans (hb21.mono B20.out.size)
    have R21 : Hid (HasInts w21 v20 (stL c a ent cur) ∧ HasInts w21 (.slice none 0 0) (stL c a ent cur)) := ⟨hasInts_below R20.out.1 hb21, hasInts_below R20.out.2 hb21⟩
    clear hb21 R20
    go_wp2_with fail
    refine (SI.out v20 (.slice none 0 0) w21 R21.out.1 R21.out.2).mono ?_
    rintro e w22 ⟨rfl, hb22⟩
    have B22 : Hid (Below w.heap.size w w22) := B21.out.trans (hb22.mono B21.out.size)
    clear hb22 R21
    go_wp2
    go_ret
    exact ⟨rfl, B22.out⟩
  cases h3 : a.any (amNo c ent cur)
  case true =>
    have es : stE c a ent cur = 6 := by unfold stE; rw [if_neg (by simp [h1]), if_neg (by simp [h2]), if_pos h3]
    have sl : stL c a ent cur = [] := by unfold stL; rw [if_neg (by rw [es]; decide)]
    have AM : Hid (∀ W, Below w.heap.size w W → Calls Tryz.prog 11 #[.slice a3 c.length c3, .slice a1 a.length c1, .int .i64 ent, .string cur] W fun e w' => e = .returned (.tuple #[.slice none 0 0, .int .i64 6]) ∧ Hid (Below W.heap.size W w')) := fun W hW => lmAmNo a3 a1 c3 c1 c a ent cur W (HIc.out.below hW) (HIa.out.below hW) (chBad_len h1) (chk_zero.1 h2).len h3
    rw [es] at ST I3
    have HSL : Hid (stL c a ent cur = []) := sl
    rw [h1] at CH
    rw [h2] at K1 K2 I1
    clear es sl h1 h2 h3
    generalize mgE a b = q2 at *
    go_enter Tryz.func3, Tryz.ntmps3
    go_wp2_with fail
    refine (K1.out w (Below.refl _ _)).mono ?_
    rintro e w1 ⟨rfl, hb1⟩
    have B1 : Hid (Below w.heap.size w w1) := hb1
    clear hb1
    go_wp2_with fail
    refine (K2.out w1 B1.out).mono ?_
    rintro e w2 ⟨rfl, hb2⟩
    have B2 : Hid (Below w.heap.size w w2) := B1.out.trans (hb2.mono B1.out.size)
    clear hb2 B1
    go_wp2_with fail
    refine (Err.out _ _ w2 I1.out B2.out).mono ?_
    rintro e w3 ⟨rfl, hb3⟩
    have B3 : Hid (Below w.heap.size w w3) := B2.out.trans (hb3.mono B2.out.size)
    clear hb3 B2
    go_wp2_with fail
    refine (M1.out w3 B3.out).mono ?_
    rintro e w4 ⟨va4, vc4, rfl, hb4⟩
    have B4 : Hid (Below w.heap.size w w4) := B3.out.trans (hb4.out.1.mono B3.out.size)
    go_wp2_with fail
    refine (M2.out w4 B4.out).mono ?_
    rintro e w5 ⟨va5, vc5, rfl, hb5⟩
    have B5 : Hid (Below w.heap.size w w5) := B4.out.trans (hb5.out.1.mono B4.out.size)
    have R5 : Hid (IsBl w5 va4 (mgL2 a b) vc4 ∧ IsBl w5 va5 (mgL2 a b) vc5) := ⟨hb4.out.2.below hb5.out.1, hb5.out.2⟩
    clear hb4 hb5 B3 B4
    go_wp2_with fail
    refine (Err.out _ _ w5 I2.out B5.out).mono ?_
    rintro e w6 ⟨rfl, hb6⟩
    have B6 : Hid (Below w.heap.size w w6) := B5.out.trans (hb6.mono B5.out.size)
    have R6 : Hid (IsBl w6 va4 (mgL2 a b) vc4 ∧ IsBl w6 va5 (mgL2 a b) vc5) := ⟨R5.out.1.below hb6, R5.out.2.below hb6⟩
    clear hb6 B5 R5
    go_wp2_with fail
    refine (SB.out va5 va4 vc5 vc4 w6 R6.out.2 R6.out.1).mono ?_
    rintro e w7 ⟨rfl, hb7⟩
    have B7 : Hid (Below w.heap.size w w7) := B6.out.trans (hb7.mono B6.out.size)
    clear hb7 B6 R6 SB M1 M2 I1 I2
    go_wp2_with fail
    refine (CH.out w7 B7.out).mono ?_
    rintro e w8 ⟨rfl, hb8⟩
    have B8 : Hid (Below w.heap.size w w8) := B7.out.trans (hb8.mono B7.out.size)
    clear hb8 B7 CH
    go_wp2_with fail
    refine (K2.out w8 B8.out).mono ?_
    rintro e w9 ⟨rfl, hb9⟩
    have B9 : Hid (Below w.heap.size w w9) := B8.out.trans (hb9.mono B8.out.size)
    clear hb9
    go_wp2_with fail
    refine (AM.out w9 B9.out).mono ?_
    rintro e w10 ⟨rfl, hb10⟩
    have B10 : Hid (Below w.heap.size w w10) := B9.out.trans (hb10.out.mono B9.out.size)
    clear hb10
    have RV : Hid (HasInts w10 (.slice none 0 0) (stL c a ent cur)) := by unfold Hid; rw [HSL.out]; exact hasInts_nil _
    go_wp2_with fail
    refine (ST.out w10 B10.out).mono ?_
    rintro e w20 ⟨v20, rfl, hb20⟩
    have B20 : Hid (Below w.heap.size w w20) := B10.out.trans (hb20.out.1.mono B10.out.size)
    have R20 : Hid (HasInts w20 v20 (stL c a ent cur) ∧ HasInts w20 (.slice none 0 0) (stL c a ent cur)) := ⟨hb20.out.2, hasInts_below RV.out hb20.out.1⟩
    clear hb20
    go_wp2_with fail
    refine (Err.out _ _ w20 I3.out B20.out).mono ?_
    rintro e w21 ⟨rfl, hb21⟩
    have B21 : Hid (Below w.heap.size w w21) := B20.out.trans (hb21.mono B20.out.size)
    have R21 : Hid (HasInts w21 v20 (stL c a ent cur) ∧ HasInts w21 (.slice none 0 0) (stL c a ent cur)) := ⟨hasInts_below R20.out.1 hb21, hasInts_below R20.out.2 hb21⟩
    clear hb21 R20
    go_wp2_with fail
    refine (SI.out v20 (.slice none 0 0) w21 R21.out.1 R21.out.2).mono ?_
    rintro e w22 ⟨rfl, hb22⟩
    have B22 : Hid (Below w.heap.size w w22) := B21.out.trans (hb22.mono B21.out.size)
    clear hb22 R21
    go_wp2
    go_ret
    exact ⟨rfl, B22.out⟩
  case false =>
    have AM : Hid (∀ W, Below w.heap.size w W → Calls Tryz.prog 11 #[.slice a3 c.length c3, .slice a1 a.length c1, .int .i64 ent, .string cur] W fun e w' => ∃ g, e = .returned (.tuple #[.slice (some ⟨g, 0, none⟩) c.length c.length, .int .i64 0]) ∧ Hid (Below W.heap.size W w' ∧ IRow w' g (amTo c ent cur a))) := fun W hW => lmAm a3 a1 c3 c1 c a ent cur W (HIc.out.below hW) (HIa.out.below hW) (chBad_len h1) (chk_zero.1 h2).len h3
    have RO : Hid (∀ G W, Below w.heap.size w W → IRow W G (amTo c ent cur a) → Calls Tryz.prog 12 #[.slice a3 c.length c3, .slice (some ⟨G, 0, none⟩) c.length c.length] W fun e w' => ∃ v, e = .returned (.tuple #[v, .int .i64 (stE c a ent cur)]) ∧ Hid (Below W.heap.size W w' ∧ HasInts w' v (stL c a ent cur))) := fun G W hW hr => lmRoll a3 c3 c a ent cur G W (HIc.out.below hW) hr h1 h2 h3
    rw [h1] at CH
    rw [h2] at K1 K2 I1
    clear h1 h2 h3
    generalize mgE a b = q2 at *
    generalize stE c a ent cur = q3 at *
    go_enter Tryz.func3, Tryz.ntmps3
    go_wp2_with fail
    refine (K1.out w (Below.refl _ _)).mono ?_
    rintro e w1 ⟨rfl, hb1⟩
    have B1 : Hid (Below w.heap.size w w1) := hb1
    clear hb1
    go_wp2_with fail
    refine (K2.out w1 B1.out).mono ?_
    rintro e w2 ⟨rfl, hb2⟩
    have B2 : Hid (Below w.heap.size w w2) := B1.out.trans (hb2.mono B1.out.size)
    clear hb2 B1
    go_wp2_with fail
    refine (Err.out _ _ w2 I1.out B2.out).mono ?_
    rintro e w3 ⟨rfl, hb3⟩
    have B3 : Hid (Below w.heap.size w w3) := B2.out.trans (hb3.mono B2.out.size)
    clear hb3 B2
    go_wp2_with fail
    refine (M1.out w3 B3.out).mono ?_
    rintro e w4 ⟨va4, vc4, rfl, hb4⟩
    have B4 : Hid (Below w.heap.size w w4) := B3.out.trans (hb4.out.1.mono B3.out.size)
    go_wp2_with fail
    refine (M2.out w4 B4.out).mono ?_
    rintro e w5 ⟨va5, vc5, rfl, hb5⟩
    have B5 : Hid (Below w.heap.size w w5) := B4.out.trans (hb5.out.1.mono B4.out.size)
    have R5 : Hid (IsBl w5 va4 (mgL2 a b) vc4 ∧ IsBl w5 va5 (mgL2 a b) vc5) := ⟨hb4.out.2.below hb5.out.1, hb5.out.2⟩
    clear hb4 hb5 B3 B4
    go_wp2_with fail
    refine (Err.out _ _ w5 I2.out B5.out).mono ?_
    rintro e w6 ⟨rfl, hb6⟩
    have B6 : Hid (Below w.heap.size w w6) := B5.out.trans (hb6.mono B5.out.size)
    have R6 : Hid (IsBl w6 va4 (mgL2 a b) vc4 ∧ IsBl w6 va5 (mgL2 a b) vc5) := ⟨R5.out.1.below hb6, R5.out.2.below hb6⟩
    clear hb6 B5 R5
    go_wp2_with fail
    refine (SB.out va5 va4 vc5 vc4 w6 R6.out.2 R6.out.1).mono ?_
    rintro e w7 ⟨rfl, hb7⟩
    have B7 : Hid (Below w.heap.size w w7) := B6.out.trans (hb7.mono B6.out.size)
    clear hb7 B6 R6 SB M1 M2 I1 I2
    go_wp2_with fail
    refine (CH.out w7 B7.out).mono ?_
    rintro e w8 ⟨rfl, hb8⟩
    have B8 : Hid (Below w.heap.size w w8) := B7.out.trans (hb8.mono B7.out.size)
    clear hb8 B7 CH
    go_wp2_with fail
    refine (K2.out w8 B8.out).mono ?_
    rintro e w9 ⟨rfl, hb9⟩
    have B9 : Hid (Below w.heap.size w w9) := B8.out.trans (hb9.mono B8.out.size)
    clear hb9
    go_wp2_with fail
    refine (AM.out w9 B9.out).mono ?_
    rintro e w10 ⟨G, rfl, hb10⟩
    have B10 : Hid (Below w.heap.size w w10) := B9.out.trans (hb10.out.1.mono B9.out.size)
    go_wp2_with fail
    refine (RO.out G w10 B10.out hb10.out.2).mono ?_
    rintro e w11 ⟨v11, rfl, hb11⟩
    have B11 : Hid (Below w.heap.size w w11) := B10.out.trans (hb11.out.1.mono B10.out.size)
    have RV : Hid (HasInts w11 v11 (stL c a ent cur)) := hb11.out.2
    clear hb10 hb11
    go_wp2_with fail
    refine (ST.out w11 B11.out).mono ?_
    rintro e w20 ⟨v20, rfl, hb20⟩
    have B20 : Hid (Below w.heap.size w w20) := B11.out.trans (hb20.out.1.mono B11.out.size)
    have R20 : Hid (HasInts w20 v20 (stL c a ent cur) ∧ HasInts w20 v11 (stL c a ent cur)) := ⟨hb20.out.2, hasInts_below RV.out hb20.out.1⟩
    clear hb20
    go_wp2_with fail
    refine (Err.out _ _ w20 I3.out B20.out).mono ?_
    rintro e w21 ⟨rfl, hb21⟩
    have B21 : Hid (Below w.heap.size w w21) := B20.out.trans (hb21.mono B20.out.size)
    have R21 : Hid (HasInts w21 v20 (stL c a ent cur) ∧ HasInts w21 v11 (stL c a ent cur)) := ⟨hasInts_below R20.out.1 hb21, hasInts_below R20.out.2 hb21⟩
    clear hb21 R20
    go_wp2_with fail
    refine (SI.out v20 v11 w21 R21.out.1 R21.out.2).mono ?_
    rintro e w22 ⟨rfl, hb22⟩
    have B22 : Hid (Below w.heap.size w w22) := B21.out.trans (hb22.mono B21.out.size)
    clear hb22 R21
    go_wp2
    go_ret
    exact ⟨rfl, B22.out⟩
end Go.Proofs.YtfkafjffjeipaaaGreatDoor

namespace Go.Proofs.YtfkafjffjeipaaaGreatDoor
set_option linter.unusedVariables false
set_option linter.unusedSimpArgs false
set_option maxRecDepth 100000
open Go.RowKit Go.Lib Go.Deep

section
variable {H : Type} {enc : TypeId × Value → H} {w : World} {base : Nat} {spare : Nat → Bool} {held : Bool}

theorem ch_string {m : Nat} {c : Value} {y : DataW H × List MemPlace} (h : DataW.trod enc Tryz.prog w base spare held m 9 [c] = some y) : ∃ s, c = .string s ∧ s.size ≤ maxLen := by
  cases m with
  | zero => simp [DataW.trod] at h
  | succ m =>
    rw [DataW.trod_step] at h
    unfold DataW.trodStep at h
    rw [Tryz.underlying9] at h
    cases c <;> simp at h
    exact ⟨_, rfl, h.1⟩

theorem ch_int {m : Nat} {c : Value} {y : DataW H × List MemPlace} (h : DataW.trod enc Tryz.prog w base spare held m 3 [c] = some y) : ∃ n, c = .int .i64 n ∧ (Lit.int .i64 n).wf = true := by
  cases m with
  | zero => simp [DataW.trod] at h
  | succ m =>
    rw [DataW.trod_step] at h
    unfold DataW.trodStep at h
    rw [Tryz.underlying3] at h
    cases c <;> simp at h
    rename_i k n
    obtain ⟨⟨rfl, h2⟩, _⟩ := h
    exact ⟨n, rfl, h2⟩

theorem ch_bool {m : Nat} {c : Value} {y : DataW H × List MemPlace} (h : DataW.trod enc Tryz.prog w base spare held m 4 [c] = some y) : ∃ n, c = .bool n := by
  cases m with
  | zero => simp [DataW.trod] at h
  | succ m =>
    rw [DataW.trod_step] at h
    unfold DataW.trodStep at h
    rw [Tryz.underlying4] at h
    cases c <;> simp at h
    exact ⟨_, rfl⟩

/-- What is asked of an account that came in. -/
def AcOk (a : Ac) : Prop := a.code.size ≤ maxLen ∧ a.name.size ≤ maxLen ∧ (Lit.int .i64 a.kind).wf = true ∧ a.par.size ≤ maxLen

theorem acct_cells : Tryz.prog.cellsOf 67 = 5 := by kernel_rfl
theorem acct_str : Tryz.prog.cellsOf 9 = 1 := by kernel_rfl
theorem acct_int : Tryz.prog.cellsOf 3 = 1 := by kernel_rfl
theorem acct_bool : Tryz.prog.cellsOf 4 = 1 := by kernel_rfl

theorem open_acct {m : Nat} {cs : List Value} {x : DataW H × List MemPlace} (h : DataW.trod enc Tryz.prog w base spare held m 67 cs = some x) : ∃ a : Ac, cs = a.cells.toList ∧ AcOk a := by
  cases m with
  | zero => simp [DataW.trod] at h
  | succ m =>
    rw [DataW.trod_step] at h
    unfold DataW.trodStep at h
    rw [Tryz.underlying67] at h
    simp only [acct_cells] at h
    split at h
    · rename_i hl
      match cs, hl with
      | [c0, c1, c2, c3, c4], _ =>
        simp [acct_str, acct_int, acct_bool] at h
        cases h0 : DataW.trod enc Tryz.prog w base spare held m 9 [c0]
        · simp [h0] at h
        cases h1 : DataW.trod enc Tryz.prog w base spare held m 9 [c1]
        · simp [h0, h1] at h
        cases h2 : DataW.trod enc Tryz.prog w base spare held m 3 [c2]
        · simp [h0, h1, h2] at h
        cases h3 : DataW.trod enc Tryz.prog w base spare held m 9 [c3]
        · simp [h0, h1, h2, h3] at h
        cases h4 : DataW.trod enc Tryz.prog w base spare held m 4 [c4]
        · simp [h0, h1, h2, h3, h4] at h
        obtain ⟨f, rfl, hf⟩ := ch_string h0
        obtain ⟨t, rfl, ht⟩ := ch_string h1
        obtain ⟨p, rfl, hp⟩ := ch_int h2
        obtain ⟨n, rfl, hn⟩ := ch_string h3
        obtain ⟨d, rfl⟩ := ch_bool h4
        exact ⟨⟨f, t, p, n, d⟩, rfl, hf, ht, hp, hn⟩
    · cases h

theorem ac_cells (w : World) (b off : Nat) (a : Ac) (h : ∀ i, i < 5 → w.cell? ⟨b, off + i, none⟩ = a.cells.toList[i]?) : AcAt w b off a :=
  ⟨h 0 (by omega), h 1 (by omega), h 2 (by omega), h 3 (by omega), h 4 (by omega)⟩

theorem ch_add (b off n : Nat) : (⟨b, off, none⟩ : Addr).add n = ⟨b, off + n, none⟩ := by
  unfold Addr.add
  split
  · rename_i h; subst h; rfl
  · rfl

/-- A chart that came in. -/
theorem acs_of_trod {W : World} {a : Option Addr} {len cap fuel : Nat} {x : DataW H × List MemPlace} (h : DataW.trod enc Tryz.prog W 0 (fun _ => true) true fuel 23 [.slice a len cap] = some x) :
    ∃ l : List Ac, l.length = len ∧ (∀ k, k < l.length → AcOk (l.getD k ac0)) ∧ IsSl W a l cap := by
  rcases open_slice Tryz.underlying23 h with ⟨hcs, _⟩ | ⟨x, l, c, m, n, D, Pl, hcs, _, hl, hm, hmm, _, hx⟩
  · simp at hcs
    obtain ⟨rfl, rfl, rfl⟩ := hcs
    exact ⟨[], rfl, by simp, ⟨by simp, .inl rfl⟩⟩
  · simp at hcs
    obtain ⟨rfl, rfl, rfl⟩ := hcs
    have hmm2 : m = cap := hmm
    rw [acct_cells] at hx
    have hr : ∀ i, i < len → ∃ r : Ac, (∀ j, j < 5 → W.cell? ((x.add (i * 5)).add j) = r.cells.toList[j]?) ∧ AcOk r := fun i hi => by
      obtain ⟨cs', h1, h2⟩ := hx i (by omega)
      obtain ⟨r, rfl, ok⟩ := open_acct h2
      exact ⟨r, (World.cells?_some h1).2.2, ok⟩
    obtain ⟨f, hf⟩ := @choose_lt Ac ⟨ac0⟩ _ _ hr
    have hget : ∀ k, k < len → ((List.range len).map f).getD k ac0 = f k := fun k hk => by simp [List.getD, hk]
    have hlen : ((List.range len).map f).length = len := by simp
    refine ⟨(List.range len).map f, hlen, fun k hk => ?_, ⟨by rw [hlen]; exact hl, ?_⟩⟩
    · rw [hlen] at hk
      rw [hget k hk]
      exact (hf k hk).2
    · by_cases h0 : len = 0
      · subst h0
        exact .inl rfl
      · right
        obtain ⟨b, off, spot⟩ := x
        have hc : W.cell? ⟨b, off, spot⟩ = some (.string (f 0).code) := (hf 0 (by omega)).1 0 (by omega)
        have hspot : spot = none := World.cell?_spot hc
        subst hspot
        have hlt : b < W.heap.size := World.block_lt_of_cell? _ _ hc
        refine ⟨b, off, rfl, hlt, fun k hk => ?_⟩
        rw [hlen] at hk
        rw [hget k hk]
        refine ac_cells W b (off + k * 5) (f k) (fun i hi => ?_)
        have := (hf k hk).1 i hi
        rw [ch_add, ch_add] at this
        exact this
end
end Go.Proofs.YtfkafjffjeipaaaGreatDoor
