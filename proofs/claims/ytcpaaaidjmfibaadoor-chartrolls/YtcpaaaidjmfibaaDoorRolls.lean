/-
  The walk of daylaw1.ChartRolls.
-/
import Derived.Test.YtcpaaaidjmfibaaDoorRf3
import Derived.Test.YtcpaaaidjmfibaaDoorErrT
namespace Go.Proofs.YtcpaaaidjmfibaaDoor
set_option linter.unusedVariables false
set_option linter.unusedSimpArgs false
set_option maxRecDepth 100000
open Go.RowKit Go.Lib Math

theorem parBad_bd (pre : List Ac) (x : Ac) : 0 ≤ parBad pre x ∧ parBad pre x ≤ 12 := by
  unfold parBad
  split
  · omega
  · split
    · omega
    · split <;> omega
theorem nextBad_bd (pre : List Ac) (x : Ac) : 0 ≤ nextBad pre x ∧ nextBad pre x ≤ 12 := by
  have := parBad_bd pre x
  unfold nextBad
  split
  · omega
  · split
    · omega
    · split <;> omega
theorem chGo_bd : ∀ (r pre : List Ac), 0 ≤ chGo pre r ∧ chGo pre r ≤ 12
  | [], _ => by simp [chGo]
  | x :: r, pre => by
    have := nextBad_bd pre x
    rw [chGo]
    split
    · exact this
    · exact chGo_bd r _
theorem chBad_bd (l : List Ac) : 0 ≤ chBad l ∧ chBad l ≤ 12 := by
  unfold chBad
  split
  · omega
  · exact chGo_bd l []

theorem chE_is {c : Int} (h : 0 ≤ c ∧ c ≤ 12) : ErrIs (chE c) c := by
  by_cases h0 : c = 0
  · subst h0; exact .inl ⟨rfl, rfl⟩
  · rw [chE_ne h0]; exact .inr ⟨rfl, by omega, by omega⟩

theorem hasInts_irow {w : World} {g : Nat} {r : List Int} (h : IRow w g r) : HasInts w (.slice (some ⟨g, 0, none⟩) r.length r.length) r :=
  ⟨_, _, rfl, .inr ⟨g, 0, rfl, fun k hk => by rw [Nat.zero_add]; exact irow_cell h hk⟩⟩

theorem hasInts_row {w : World} {n : Nat} {v : Value} {r : List Int} (h : IntRow w n v r) : HasInts w v r := by
  rcases h.form with ⟨rfl, rfl⟩ | ⟨g, cap, rfl, _, _, hc⟩
  · exact hasInts_nil w
  · exact ⟨_, cap, rfl, .inr ⟨g, 0, rfl, fun k hk => by rw [Nat.zero_add]; exact hc k hk⟩⟩

set_option maxHeartbeats 4000000 in
theorem rolls_walk (a : Option Addr) (cap : Nat) (l : List Ac) (a2 : Option Addr) (am : List Int) (cap2 : Nat) (w : World) (h : IsSl w a l cap) (hin : IsInts w a2 am cap2) (hok : ∀ k, k < l.length → (l.getD k ac0).code.size ≤ maxLen ∧ (l.getD k ac0).name.size ≤ maxLen) (hg : ErrT w) :
    Calls Tryd.prog 3 #[.slice a l.length cap, .slice a2 am.length cap2] w fun e w' => e = .returned (.bool true) ∧ Below w.heap.size w w' := by
  have Err : Hid (∀ E c W, ErrIs E c → Below w.heap.size w W → Calls Tryd.prog 7 #[E, .int .i64 c] W fun e w' => e = .returned (.bool true) ∧ Below W.heap.size W w') := fun E c W h hW =>
    err_true h W (hg.below hW (Nat.le_refl _))
  have C1 : Hid (Calls Tryd.prog 4 #[.slice a l.length cap] w fun e w' => e = .returned (.int .i64 (chBad l)) ∧ Below w.heap.size w w') := refChart_any a cap l w h hok
  have C2 : Hid (∀ W, Below w.heap.size w W → Calls Tryd.prog 6 #[.slice a l.length cap, .slice a2 am.length cap2] W (RollEnd l am W)) := fun W hW => roll_any a cap l a2 am cap2 W (h.below hW) (hin.below hW)
  have C3 : Hid (∀ W, Below w.heap.size w W → chBad l = 0 → am.length = l.length → Calls Tryd.prog 5 #[.slice a l.length cap, .slice a2 l.length cap2] W (RRollEnd l am W)) := fun W hW h0 hal => refRoll_any a cap l a2 am cap2 W (h.below hW) (hin.below hW) h0 hal
  have CN : Hid (∀ W, Calls Tryd.prog 8 #[.slice none 0 0, .slice none 0 0] W fun e w' => e = .returned (.bool true) ∧ Below W.heap.size W w') := fun W => sameInts_any _ _ [] W (by simp) (hasInts_nil W) (hasInts_nil W)
  have bd := chBad_bd l
  clear h hin hok hg
  by_cases h0 : chBad l = 0
  case neg =>
    have er : rollBad l am = chBad l := by unfold rollBad; rw [if_pos h0]
    have E1 : Hid (ErrIs (chE (chBad l)) (chBad l)) := chE_is bd
    have HR : Hid (∀ W, Below w.heap.size w W → Calls Tryd.prog 6 #[.slice a l.length cap, .slice a2 am.length cap2] W fun e w' => e = .returned (.tuple #[.slice none 0 0, chE (chBad l)]) ∧ Below W.heap.size W w') := fun W hW => by
      refine (C2.out W hW).mono ?_
      rintro e w' ⟨B, hb, _⟩
      rw [er] at hb
      exact ⟨hb h0, B⟩
    have h0' : (chBad l == 0) = false := by simp [h0]
    clear C2 C3 er bd
    generalize chE (chBad l) = E at *
    generalize chBad l = c at *
    go_enter Tryd.func3, Tryd.ntmps3
    go_wp2_with fail
    refine C1.out.mono ?_
    rintro e w1 ⟨rfl, B1⟩
    go_wp2_with fail
    refine (HR.out w1 B1).mono ?_
    rintro e w2 ⟨rfl, hb2⟩
    have B2 := B1.trans (hb2.mono B1.size)
    clear hb2
    go_wp2_with fail
    refine (Err.out _ _ w2 E1.out B2).mono ?_
    rintro e w3 ⟨rfl, hb3⟩
    have B3 := B2.trans (hb3.mono B2.size)
    clear hb3
    go_wp2_with fail
    refine (CN.out w3).mono ?_
    rintro e w4 ⟨rfl, hb4⟩
    have B4 := B3.trans (hb4.mono B3.size)
    clear hb4
    go_wp2
    go_ret
    exact ⟨rfl, B4⟩
  have hlen := chBad_len h0
  rw [h0] at C1
  by_cases hal : am.length = l.length
  case neg =>
    have er : rollBad l am = 3 := by unfold rollBad; rw [if_neg (by omega), if_pos hal]
    have HR : Hid (∀ W, Below w.heap.size w W → Calls Tryd.prog 6 #[.slice a l.length cap, .slice a2 am.length cap2] W fun e w' => e = .returned (.tuple #[.slice none 0 0, .iface 39 (.int .i64 3)]) ∧ Below W.heap.size W w') := fun W hW => by
      refine (C2.out W hW).mono ?_
      rintro e w' ⟨B, hb, _⟩
      rw [er] at hb
      exact ⟨hb (by omega), B⟩
    have E1 : Hid (ErrIs (.iface 39 (.int .i64 3)) 3) := .inr ⟨rfl, by omega, by omega⟩
    have hal' : ((am.length : Int) != l.length) = true := by simp; omega
    clear C2 C3 er bd h0
    go_enter Tryd.func3, Tryd.ntmps3
    go_wp2_with fail
    refine C1.out.mono ?_
    rintro e w1 ⟨rfl, B1⟩
    go_wp2_with fail
    refine (HR.out w1 B1).mono ?_
    rintro e w2 ⟨rfl, hb2⟩
    have B2 := B1.trans (hb2.mono B1.size)
    clear hb2
    go_wp2_with fail
    refine (Err.out _ _ w2 E1.out B2).mono ?_
    rintro e w3 ⟨rfl, hb3⟩
    have B3 := B2.trans (hb3.mono B2.size)
    clear hb3
    go_wp2_with fail
    refine (CN.out w3).mono ?_
    rintro e w4 ⟨rfl, hb4⟩
    have B4 := B3.trans (hb4.mono B3.size)
    clear hb4
    go_wp2
    go_ret
    exact ⟨rfl, B4⟩
  have H3 : Hid (∀ W, Below w.heap.size w W → Calls Tryd.prog 5 #[.slice a l.length cap, .slice a2 l.length cap2] W (RRollEnd l am W)) := fun W hW => C3.out W hW h0 hal
  have C2' : Hid (∀ W, Below w.heap.size w W → Calls Tryd.prog 6 #[.slice a l.length cap, .slice a2 l.length cap2] W (RollEnd l am W)) := fun W hW => by
    have := C2.out W hW
    rw [hal] at this
    exact this
  have er : rollBad l am = if rollOk l am l.length = true then 0 else 10 := by unfold rollBad; rw [if_neg (by omega), if_neg (by omega)]
  have ER : Hid (_ = _) := er
  rw [hal]
  clear C2 C3 bd h0 hal er
  cases hrk : rollOk l am l.length
  · have e10 : rollBad l am = 10 := by rw [ER.out, hrk]; rfl
    have E1 : Hid (ErrIs (.iface 39 (.int .i64 10)) 10) := .inr ⟨rfl, by omega, by omega⟩
    go_enter Tryd.func3, Tryd.ntmps3
    go_wp2_with fail
    refine C1.out.mono ?_
    rintro e w1 ⟨rfl, B1⟩
    go_wp2_with fail
    refine (H3.out w1 B1).mono ?_
    rintro e w2 ⟨hb2, hf, _⟩
    obtain rfl := hf hrk
    have B2 := B1.trans (hb2.mono B1.size)
    clear hb2 hf
    go_wp2_with fail
    refine (C2'.out w2 B2).mono ?_
    rintro e w3 ⟨hb3, hf, _⟩
    rw [e10] at hf
    obtain rfl := hf (by omega)
    have B3 := B2.trans (hb3.mono B2.size)
    clear hb3 hf
    rw [chE_ne (show (10 : Int) ≠ 0 by omega)]
    go_wp2_with fail
    refine (Err.out _ _ w3 E1.out B3).mono ?_
    rintro e w4 ⟨rfl, hb4⟩
    have B4 := B3.trans (hb4.mono B3.size)
    clear hb4
    go_wp2_with fail
    refine (CN.out w4).mono ?_
    rintro e w5 ⟨rfl, hb5⟩
    have B5 := B4.trans (hb5.mono B4.size)
    clear hb5
    go_wp2
    go_ret
    exact ⟨rfl, B5⟩
  · have e0 : rollBad l am = 0 := by rw [ER.out, hrk]; rfl
    have E1 : Hid (ErrIs .nilIface 0) := .inl ⟨rfl, rfl⟩
    go_enter Tryd.func3, Tryd.ntmps3
    go_wp2_with fail
    refine C1.out.mono ?_
    rintro e w1 ⟨rfl, B1⟩
    go_wp2_with fail
    refine (H3.out w1 B1).mono ?_
    rintro e w2 ⟨hb2, _, hf⟩
    obtain ⟨v, rfl, row⟩ := hf hrk
    have B2 := B1.trans (hb2.mono B1.size)
    clear hb2 hf
    have Hrow : Hid (IntRow w2 w1.heap.size v _) := row
    clear row
    go_wp2_with fail
    refine (C2'.out w2 B2).mono ?_
    rintro e w3 ⟨hb3, _, hf⟩
    obtain ⟨g, rfl, _, hr3⟩ := hf e0
    have B3 := B2.trans (hb3.mono B2.size)
    have Hrow3 : Hid (IntRow w3 w1.heap.size v _) := IntRow.keep Hrow.out hb3
    have Hr3 : Hid (IRow _ _ _) := hr3
    clear hb3 hf hr3 Hrow
    go_wp2_with fail
    refine (Err.out _ _ w3 E1.out B3).mono ?_
    rintro e w4 ⟨rfl, hb4⟩
    have B4 := B3.trans (hb4.mono B3.size)
    have hs := sameInts_any (.slice (some ⟨g, 0, none⟩) l.length l.length) v ((List.range l.length).map (rollI l am)) w4 (by simp; omega) (by
      have := hasInts_irow (irow_below Hr3.out hb4 (irow_lt Hr3.out))
      rw [show ((List.range l.length).map (rollI l am)).length = l.length by simp] at this
      exact this) (hasInts_row (IntRow.keep Hrow3.out hb4))
    have HS : Hid (Calls _ _ _ _ _) := hs
    clear hb4 hs Hr3 Hrow3
    go_wp2_with fail
    refine HS.out.mono ?_
    rintro e w5 ⟨rfl, hb5⟩
    have B5 := B4.trans (hb5.mono B4.size)
    clear hb5
    go_wp2
    go_ret
    exact ⟨rfl, B5⟩
end Go.Proofs.YtcpaaaidjmfibaaDoor
