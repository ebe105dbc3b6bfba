/-
  The contract of dayref1's Roll.
-/
import Derived.Test.YtcpaaaidjmfibaaDoorRf2
import Derived.Test.YtcpaaaidjmfibaaDoorChN
import Derived.Test.YtcpaaaidjmfibaaDoorRefSum
namespace Go.Proofs.YtcpaaaidjmfibaaDoor
set_option linter.unusedVariables false
set_option linter.unusedSimpArgs false
set_option maxRecDepth 100000
open Go.RowKit Go.Lib Math

/-- What a call of dayref1.Roll hands back. -/
def RRollEnd (l : List Ac) (am : List Int) (w : World) (e : Ending) (w' : World) : Prop :=
  Below w.heap.size w w' ∧ (rollOk l am l.length = false → e = .returned (.tuple #[.slice none 0 0, .int .i64 10])) ∧
  (rollOk l am l.length = true → ∃ v, e = .returned (.tuple #[v, .int .i64 0]) ∧ IntRow w' w.heap.size v ((List.range l.length).map (rollI l am)))

theorem below_of_grown {w w' : World} (h : w.grownBy w' none) : Below w.heap.size w w' := (Below.refl _ w).grown h (Nat.le_refl _) (fun j e => by cases e)

theorem IntRow.keep {w w' : World} {n : Nat} {v : Value} {xs : List Int} (h : IntRow w n v xs) (hb : Below w.heap.size w w') : IntRow w' n v xs := by
  rcases h.2 with ⟨hv, hn⟩ | ⟨g1, c1, cur, hv, hb1, hh, r⟩
  · exact ⟨h.1, .inl ⟨hv, hn⟩⟩
  · exact ⟨h.1, .inr ⟨g1, c1, cur, hv, hb1, (hb.block g1 (Array.getElem?_eq_some_iff.1 hh).1).trans hh, r⟩⟩

theorem IntRow.form {w : World} {n : Nat} {v : Value} {xs : List Int} (h : IntRow w n v xs) : (v = .slice none 0 0 ∧ xs = []) ∨ ∃ g cap, v = .slice (some ⟨g, 0, none⟩) xs.length cap ∧ n ≤ g ∧ g < w.heap.size ∧ ∀ k, k < xs.length → w.cell? ⟨g, k, none⟩ = some (.int .i64 (xs.getD k 0)) := by
  rcases h.2 with ⟨rfl, hn⟩ | ⟨g, cap, cur, rfl, hg, hh, hc, _⟩
  · exact .inl ⟨rfl, List.eq_nil_of_length_eq_zero hn⟩
  · refine .inr ⟨g, cap, rfl, hg, (Array.getElem?_eq_some_iff.1 hh).1, fun k hk => ?_⟩
    have := World.ownsRow.cells h (g := g) rfl k (.int .i64 (xs.getD k 0)) (by simp [hk])
    rcases Nat.eq_zero_or_pos k with rfl | hp
    · simpa [Addr.add] using this
    · simpa [Addr.add, Nat.ne_of_gt hp] using this

theorem IntRow.own {w : World} {n : Nat} {v : Value} {xs : List Int} (h : IntRow w n v xs) : ∀ j, v.ownBlock = some j → n ≤ j := fun j ej => by
  rcases h.2 with ⟨rfl, _⟩ | ⟨g1, c1, cur, rfl, hg1, _⟩
  · cases ej
  · cases ej; exact hg1

/-- The amounts of those under an account, among the first so many. -/
def someL (l : List Ac) (am : List Int) (i k : Nat) : List Int := ((List.range k).filter (isU l i)).map fun j => am.getD j 0
theorem someL_succ (l : List Ac) (am : List Int) (i k : Nat) : someL l am i (k + 1) = someL l am i k ++ if isU l i k = true then [am.getD k 0] else [] := by
  unfold someL
  rw [List.range_succ, List.filter_append, List.map_append]
  congr 1
  by_cases h : isU l i k = true
  · rw [if_pos h, List.filter_cons_of_pos h]; rfl
  · rw [if_neg h, List.filter_cons_of_neg h]; rfl
theorem someL_len (l : List Ac) (am : List Int) (i k : Nat) : (someL l am i k).length ≤ k := by
  unfold someL
  rw [List.length_map]
  have := List.length_filter_le (isU l i) (List.range k)
  simpa using this
theorem someL_sum {l : List Ac} (h0 : chBad l = 0) (am : List Int) {i : Nat} (hi : i < l.length) : (someL l am i l.length).sum = rollI l am i := by
  unfold rollI
  rw [und_eq h0 hi]
  rfl
theorem someL_ne {l : List Ac} (h0 : chBad l = 0) (am : List Int) {i : Nat} (hi : i < l.length) : someL l am i l.length ≠ [] := by
  obtain ⟨r, hr⟩ := undL_head h0 hi
  unfold undL at hr
  unfold someL
  rw [hr]
  simp

set_option maxHeartbeats 8000000 in
theorem refRoll_any (a : Option Addr) (cap : Nat) (l : List Ac) (a2 : Option Addr) (am : List Int) (cap2 : Nat) (w : World) (h : IsSl w a l cap) (hin : IsInts w a2 am cap2) (h0 : chBad l = 0) (hal : am.length = l.length) :
    Calls Tryd.prog 5 #[.slice a l.length cap, .slice a2 l.length cap2] w (RRollEnd l am w) := by
  have hlen := chBad_len h0
  have Hlen : (l.length : Int) ≤ 60 := by omega
  have HI : Hid (∀ W, Below w.heap.size w W → ∀ k i : Nat, k < l.length → Calls Tryd.prog 10 #[.slice a l.length cap, .int .i64 (k : Nat), .int .i64 (i : Nat)] W fun e w' => e = .returned (.bool (isU l i k)) ∧ w' = W) := fun W hW k i hk => refIn_any a cap l k i W (h.below hW) h0 hk
  have HC : Hid (∀ W, Below w.heap.size w W → ∀ k, k < l.length → ∃ b off, a2 = some ⟨b, off, none⟩ ∧ W.cell? ⟨b, off + k, none⟩ = some (.int .i64 (am.getD k 0))) := fun W hW k hk => by
    rcases (hin.below hW).lies with h | ⟨b, off, e, _, hc⟩
    · rw [h] at hal; simp at hal; omega
    · exact ⟨b, off, e, hc k (by omega)⟩
  have HS : Hid (∀ W v n i, i < l.length → IntRow W n v (someL l am i l.length) → Calls Tryd.prog 11 #[v] W fun e w' => e = .returned (.tuple #[.int .i64 (rV (rollI l am i)), .int .i64 (rE (rollI l am i))]) ∧ Below W.heap.size W w') := fun W v n i hi hr => by
    rcases hr.form with ⟨_, e⟩ | ⟨g, cp, rfl, _, hlt, hc⟩
    · exact absurd e (someL_ne h0 am hi)
    · have hll := someL_len l am i l.length
      have := refSum_run g 0 cp (someL l am i l.length).length (someL l am i l.length) W rfl (by omega) (fun j hj => by
        unfold someL
        unfold someL at hj
        rw [List.length_map] at hj
        rw [List.getD_eq_getElem?_getD, List.getElem?_map, List.getElem?_eq_getElem hj]
        exact am_fits hin _) (fun j hj => ⟨hlt, by rw [Nat.zero_add]; exact hc j hj⟩)
      rw [someL_sum h0 am hi] at this
      refine this.mono ?_
      rintro e w' ⟨rfl, hg⟩
      exact ⟨rfl, below_of_grown hg.out⟩
  obtain ⟨i0, hi0, hz0, hz1, hz2⟩ := info_parts int_info
  clear h hin h0 hal
  go_enter Tryd.func5, Tryd.ntmps5
  go_wp2
  go_loopw [6, 7] (fun s6 s7 wr => ∃ i : Nat, i ≤ l.length ∧ s7 = .int .i64 i ∧ Hid (IntRow wr w.heap.size s6 ((List.range i).map (rollI l am)) ∧ Below w.heap.size w wr ∧ rollOk l am i = true)) (fun _ s7 _ => l.length - (intOf s7).toNat)
  case atStart => exact ⟨0, Nat.zero_le _, rfl, World.ownsRow_nil _ _ _ _, Below.refl _ _, rfl⟩
  case round =>
    obtain ⟨i, hi, rfl, H⟩ := hrel
    obtain ⟨O, BW, hok⟩ := H.out
    clear H
    by_cases hlt : i < l.length
    · have j0 : (0 : Int) ≤ i := by omega
      have j1 : (i : Int) < l.length := by omega
      have HO : Hid (IntRow wr w.heap.size _ _) := O
      have Hok : Hid (rollOk l am i = true) := hok
      clear O hok
      go_wp2
      rename World => w1
      go_loopw [8, 9] (fun s8 s9 wx => ∃ k : Nat, k ≤ l.length ∧ s9 = .int .i64 k ∧ Hid (IntRow wx w1.heap.size s8 (someL l am i k) ∧ Below w1.heap.size w1 wx)) (fun _ s9 _ => l.length - (intOf s9).toNat)
      case atStart => exact ⟨0, Nat.zero_le _, rfl, World.ownsRow_nil _ _ _ _, Below.refl _ _⟩
      case round =>
        obtain ⟨k, hk, rfl, H⟩ := hrel
        obtain ⟨S, BX⟩ := H.out
        have BW2 := BW.trans (BX.mono BW.size)
        have hs1 := BX.size
        clear H
        have HSr : Hid (IntRow wr w1.heap.size _ (someL l am i k)) := S
        clear S
        by_cases hkl : k < l.length
        · obtain ⟨b2, off2, rfl, d0⟩ := HC.out wr BW2 k hkl
          have hI := HI.out wr BW2 k i hkl
          have hsu := someL_succ l am i k
          have hsl := someL_len l am i k
          generalize am.getD k 0 = av at *
          have k0 : (0 : Int) ≤ k := by omega
          have k1 : (k : Int) < l.length := by omega
          cases hu : isU l i k
          · rw [hu] at hI hsu
            rw [if_neg (by simp), List.append_nil] at hsu
            have hSn := HSr.out
            rw [← hsu] at hSn
            have HSn : Hid (IntRow wr w1.heap.size _ (someL l am i (k + 1))) := hSn
            clear hSn
            have HHI : Hid (Calls _ _ _ _ _) := hI
            clear hI hsu HSr
            go_wp2_with fail
            refine HHI.out.mono ?_
            rintro e w' ⟨rfl, hw⟩
            rw [hw]; clear hw w' HHI
            go_wp2
            go_roundw
            case rel => exact ⟨k + 1, by omega, by go_num, HSn.out, BX⟩
            case measure => simp [intOf]; omega
          · rw [hu] at hI hsu
            rw [if_pos rfl] at hsu
            have HHI : Hid (Calls _ _ _ _ _) := hI
            have Hsu : Hid (_ = _) := hsu
            clear hI hsu
            go_wp2_with fail
            refine HHI.out.mono ?_
            rintro e w' ⟨rfl, hw⟩
            rw [hw]; clear hw w' HHI
            go_wp2_with (at_builtin; refine wpList_append_own _ rfl _ _ 23 rfl w1.heap.size 3 i0 (.int .i64 0) 1 8 Tryd.underlying23 hi0 hz0 hz1 hz2 rfl (by decide) _ _ _ rfl (World.ownsRow.alloc HSr.out _) ⟨wr.heap.size, 0, none⟩ 1 1 [.int .i64 av] rfl rfl (cell_one_new _ _ _) ?c2 ?c3 ?c4 ?c5 ?_)
            case c2 => intro u hu; simp at hu; subst hu; rfl
            case c3 => unfold maxLen; omega
            case c4 => omega
            case c5 => simp; omega
            intro v' w4 hown' hgrow _
            have hob := IntRow.own HSr.out
            have B4 : Below w1.heap.size w1 w4 := (BX.alloc hs1 (.cells #[.int .i64 av] 3)).grown hgrow (by simp; omega) (fun j ej => hob j ej)
            have T4 : Hid (IntRow w4 w1.heap.size v' (someL l am i (k + 1))) := by
              unfold Hid
              rw [Hsu.out]
              unfold IntRow
              simpa using hown'
            clear hown' hgrow hob HSr
            go_wp2
            go_roundw
            case rel => exact ⟨k + 1, by omega, by go_num, T4.out, B4⟩
            case measure => simp [intOf]; omega
        · have hk2 : k = l.length := by omega
          subst hk2
          have hS := HS.out wr _ _ i hlt HSr.out
          have hsc := rollOk_succ l am i
          rw [Hok.out, Bool.true_and] at hsc
          have hrng : (List.range (i + 1)).map (rollI l am) = (List.range i).map (rollI l am) ++ [rollI l am i] := by rw [List.range_succ, List.map_append]; rfl
          have hbd := @rollOk_false l am i l.length hlt
          generalize rollI l am i = s at *
          have HHS : Hid (Calls _ _ _ _ _) := hS
          have Hsc : Hid (rollOk l am (i + 1) = fitB s) := hsc
          have Hrng : Hid (_ = _) := hrng
          have Hbd : Hid (fitB s = false → rollOk l am l.length = false) := hbd
          clear hS hsc hrng hbd HSr
          by_cases hf : -9223372036854775808 ≤ s ∧ s ≤ 9223372036854775807
          · have e1 : rV s = s ∧ rE s = 0 := by unfold rV rE; exact ⟨if_pos hf, if_pos hf⟩
            rw [e1.1, e1.2] at HHS
            have hfb : fitB s = true := by simp [fitB, hf]
            clear e1 hf
            go_wp2_with fail
            refine HHS.out.mono ?_
            rintro e w3 ⟨rfl, hb3⟩
            have B3 : Below w1.heap.size w1 w3 := BX.trans (hb3.mono hs1)
            have O3 : Hid (IntRow w3 w.heap.size _ _) := IntRow.keep HO.out B3
            have BW3 := BW.trans (B3.mono BW.size)
            have hs3 := BW3.size
            clear hb3 B3 HHS BX BW2
            go_wp2_with (at_builtin; refine wpList_append_own _ rfl _ _ 23 rfl w.heap.size 3 i0 (.int .i64 0) 1 8 Tryd.underlying23 hi0 hz0 hz1 hz2 rfl (by decide) _ _ _ rfl (World.ownsRow.alloc O3.out _) ⟨w3.heap.size, 0, none⟩ 1 1 [.int .i64 s] rfl rfl (cell_one_new _ _ _) ?c2 ?c3 ?c4 ?c5 ?_)
            case c2 => intro u hu; simp at hu; subst hu; rfl
            case c3 => unfold maxLen; simp; omega
            case c4 => simp; omega
            case c5 => simp; omega
            intro v' w4 hown' hgrow _
            have hob := IntRow.own O3.out
            have B4 : Below w.heap.size w w4 := (BW3.alloc hs3 (.cells #[.int .i64 s] 3)).grown hgrow (by simp; omega) (fun j ej => hob j ej)
            have T4 : Hid (IntRow w4 w.heap.size v' ((List.range (i + 1)).map (rollI l am))) := by
              unfold Hid
              rw [Hrng.out]
              unfold IntRow
              simpa using hown'
            clear hown' hgrow hob O3
            go_wp2
            go_roundw
            case rel => exact ⟨i + 1, by omega, by go_num, T4.out, B4, by rw [Hsc.out]; exact hfb⟩
            case measure => simp [intOf]; omega
          · have e1 : rV s = 0 ∧ rE s = 10 := by unfold rV rE; exact ⟨if_neg hf, if_neg hf⟩
            rw [e1.1, e1.2] at HHS
            have hfb : fitB s = false := by simp [fitB]; omega
            have er := Hbd.out hfb
            have ER : Hid (rollOk l am l.length = false) := er
            clear e1 hf er
            go_wp2_with fail
            refine HHS.out.mono ?_
            rintro e w3 ⟨rfl, hb3⟩
            have BW3 := BW2.trans (hb3.mono BW2.size)
            clear HHS
            go_wp2
            go_ret2
            refine ⟨BW3, fun _ => rfl, fun h => ?_⟩
            rw [ER.out] at h
            cases h
    · have hk2 : i = l.length := by omega
      subst hk2
      have HO : Hid (IntRow wr w.heap.size _ _) := O
      have Hok : Hid (rollOk l am l.length = true) := hok
      clear O hok
      go_wp2
      go_ret2
      refine ⟨BW, fun h => ?_, fun _ => ⟨_, rfl, HO.out⟩⟩
      rw [Hok.out] at h
      cases h
end Go.Proofs.YtcpaaaidjmfibaaDoor
