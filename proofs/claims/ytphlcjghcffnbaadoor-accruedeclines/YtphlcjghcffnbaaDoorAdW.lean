/-
  The walk of daylaw3.AccrueDeclines, where nothing is wrong.
-/
import Derived.Test.YtphlcjghcffnbaaDoorAdB
import Derived.Deep.AppendLies
import Derived.RangeFuncRecord
namespace Go.Proofs.YtphlcjghcffnbaaDoor
set_option linter.unusedVariables false
set_option linter.unusedSimpArgs false
set_option maxRecDepth 100000
open Go.RowKit Go.Lib Big Math

/-- What holds between the rounds of the law's own loop. -/
structure DwAt (w W : World) (rest n d cost left : Int) (p k : Nat) (v : Value) (r : List Int) : Prop where
  row : World.ownsRow W w.heap.size 3 1 v r.length (r.map (Value.int .i64))
  len : r.length = k
  take : r ++ decL rest n d (p - k) left = decL rest n d p cost
  below : Below w.heap.size w W
  lo : rest ≤ left
  hi : left ≤ cost
theorem dw_own {W : World} {n0 k : Nat} {e : TypeId} {v : Value} {xs : List Value} (h : World.ownsRow W n0 e 1 v k xs) : ∀ j, v.ownBlock = some j → n0 ≤ j := fun j ej => by
  rcases h.2 with ⟨rfl, _⟩ | ⟨g, cp, cur, rfl, hg, _⟩
  · cases ej
  · cases ej; exact hg
theorem dw_isW {W : World} {n0 : Nat} {v : Value} {l : List Int} (h : World.ownsRow W n0 3 1 v l.length (l.map (Value.int .i64))) : ∃ a cap, v = .slice a l.length cap ∧ IsW W a l cap := by
  obtain ⟨hlen, ⟨rfl, h0⟩ | ⟨g, cap, cur, rfl, hb, hg, hc, hm, hs, ht⟩⟩ := h
  · have : l = [] := List.eq_nil_of_length_eq_zero h0
    subst this
    exact ⟨none, 0, rfl, Nat.le_refl _, .inl rfl⟩
  · refine ⟨_, cap, rfl, hc, .inr ⟨g, 0, rfl, (Array.getElem?_eq_some_iff.1 hg).1, ?_⟩⟩
    intro k hk
    have e1 : (l.map (Value.int .i64))[k]? = cur[k]? := by
      rw [← ht, List.getElem?_take, if_pos (by omega)]
      simp
    have e2 : (l.map (Value.int .i64))[k]? = some (.int .i64 (l.getD k 0)) := by
      rw [List.getElem?_map, List.getElem?_eq_getElem hk, List.getD_eq_getElem?_getD, List.getElem?_eq_getElem hk]; rfl
    simp [World.cell?, hg, ← e1, e2]
set_option maxHeartbeats 8000000 in
theorem declines_ok (cost rest n d : Int) (p : Nat) (w : World) (hg : ErrT w) (h : decBad cost rest n d (p : Int) = false) :
    Calls Tryd.prog 3 #[.int .i64 cost, .int .i64 rest, .int .i64 n, .int .i64 d, .int .i64 (p : Int)] w fun e w' => e = .returned (.bool true) ∧ Below w.heap.size w w' := by
  have hh := h
  unfold decBad at hh
  simp only [Bool.not_eq_false', Bool.and_eq_true, decide_eq_true_eq, upTo_iff] at hh
  obtain ⟨h1, h2, h3, h4, h5⟩ := hh
  have HA : Hid (Calls Tryd.prog 4 #[.int .i64 cost] w fun e w' => e = .returned (.bool (isAmtB cost)) ∧ w' = w) := adAmount_any cost w
  rw [isAmtB_iff.2 (by unfold mostA at *; omega)] at HA
  obtain ⟨hs1, hs2⟩ : (decL rest n d p cost).sum = cost - rest ∧ ∀ x ∈ decL rest n d p cost, 0 ≤ x ∧ x ≤ mostA := by
    obtain ⟨q, rfl⟩ : ∃ q, p = q + 1 := ⟨p - 1, by omega⟩
    exact decL_sum h2.1 h3.1 h3.2 h4.1 q cost h2.2 h1.2
  have hl := decL_len rest n d p cost
  have HD : Hid (∀ W, Below w.heap.size w W → Calls Tryd.prog 6 #[.int .i64 cost, .int .i64 rest, .int .i64 n, .int .i64 d, .int .i64 (p : Int)] W fun e w' => e = .returned (.tuple #[.slice (some ⟨W.heap.size, 0, none⟩) p p, .nilIface]) ∧ Hid (NRow w' W.heap.size (decL rest n d p cost) ∧ Below W.heap.size W w')) := fun W hW => declining_ok cost rest n d p W h
  have HE : Hid (∀ W, Below w.heap.size w W → Calls Tryd.prog 7 #[.nilIface, .int .i64 0] W fun e w' => e = .returned (.bool true) ∧ Below W.heap.size W w') := fun W hW => err_true (.inl ⟨rfl, rfl⟩) W (hg.below hW (Nat.le_refl _))
  have HI : Hid (∀ W a1 a2 c1 c2, IsW W a1 (decL rest n d p cost) c1 → IsW W a2 (decL rest n d p cost) c2 → Calls Tryd.prog 8 #[.slice a1 p c1, .slice a2 p c2] W fun e w' => e = .returned (.bool true) ∧ Below W.heap.size W w') := fun W a1 a2 c1 c2 k1 k2 => by
    have := adInts_any a1 a2 c1 c2 _ W (by rw [hl]; omega) k1 k2
    rw [hl] at this
    exact this
  have HS : Hid (∀ W g, NRow W g (decL rest n d p cost) → Calls Tryd.prog 9 #[.slice (some ⟨g, 0, none⟩) p p] W fun e w' => e = .returned (.tuple #[.int .i64 (cost - rest), .nilIface]) ∧ w' = W) := fun W g hr => by
    unfold mostA at hs2 h1
    have := sum_run g 0 p p (decL rest n d p cost) W hl (by omega) (fun i hi => by
      have := hs2 ((decL rest n d p cost).getD i 0) (by rw [List.getD_eq_getElem?_getD, List.getElem?_eq_getElem hi]; exact List.getElem_mem hi)
      exact ⟨by omega, by omega⟩) (fun i hi => by rw [Nat.zero_add]; exact hr.cell hi)
    rw [hs1, (sum_fit (cost - rest) (by omega)).1, (sum_fit (cost - rest) (by omega)).2] at this
    exact this
  have HRat : Hid (∀ left W, rest ≤ left → left ≤ cost → Below w.heap.size w W → Calls Tryd.prog 5 #[.int .i64 left, .int .i64 n, .int .i64 d] W fun e w' => (∃ c, e = .returned (.tuple #[.int .i64 (ratV left n d), .int .i64 c])) ∧ Hid (Below w.heap.size w w' ∧ W.grownBy w' none)) := fun left W a b hW => by
    unfold mostA at h1
    have e1 := (ratio_same left n d h3.1 h4.1).1
    refine (ref_in left n d W (by omega) (by omega) h3.1 (by omega) h4.1 h4.2).mono ?_
    rintro e w' ⟨rfl, hb⟩
    rw [e1]
    exact ⟨⟨_, rfl⟩, below_g hW hb.out hW.size (by simp), hb.out⟩
  have HTb : Hid (∀ left last, rest ≤ left → left ≤ cost → 0 ≤ tookN rest n d left last ∧ tookN rest n d left last ≤ left - rest) := fun left last a b => took_bd last h2.1 a (by omega) h3.1 h3.2 h4.1
  have HRb : Hid (∀ left, rest ≤ left → left ≤ cost → 0 ≤ ratV left n d ∧ ratV left n d ≤ 1000000000000001) := fun left a b => by
    have := (rat_fit (left := left) (by omega) (by omega) h3.1 h3.2 h4.1).2
    unfold mostA at this; omega
  have H0 : Hid (DwAt w w rest n d cost cost p 0 (.slice none 0 0) []) := ⟨⟨rfl, .inl ⟨rfl, rfl⟩⟩, rfl, by simp, Below.refl _ _, h2.2, Int.le_refl _⟩
  have i0 : ¬ cost < 0 := by omega
  have i2 : ¬ rest < 0 := by omega
  have i3 : ¬ cost < rest := by omega
  have i4 : ¬ d < 1 := by omega
  have i5 : ¬ 1000000000 < d := by omega
  have i6 : ¬ n < 0 := by omega
  have i7 : ¬ d < n := by omega
  have i8 : ¬ (p : Int) < 1 := by omega
  have i9 : ¬ 120 < (p : Int) := by omega
  have hp : p ≤ 120 := by omega
  unfold mostA at h1
  have HB : Hid (0 ≤ rest ∧ cost ≤ 1000000000000000) := ⟨h2.1, h1.2⟩
  have wc : IntKind.i64.wrap (cost - rest) = cost - rest := by rw [IntKind.wrap_i64]; omega
  obtain ⟨j0, hi, hz0, hz1, hz2⟩ := info_parts dec_int
  clear hs1 hs2 hl h h1 h2 h3 h4 h5 hg
  go_enter Tryd.func3, Tryd.ntmps3
  go_wp2_with fail
  refine HA.out.mono ?_
  rintro e w' ⟨rfl, hw⟩
  rw [hw]; clear hw w' HA
  go_wp2
  go_loopw [13, 14, 15] (fun v lf i wr => ∃ (k : Nat) (left : Int) (r : List Int), k ≤ p ∧ i = .int .i64 ((k : Int) + 1) ∧ lf = .int .i64 left ∧ Hid (DwAt w wr rest n d cost left p k v r)) (fun _ _ i _ => p + 1 - (RowKit.intOf i).toNat)
  case atStart => exact ⟨0, cost, _, Nat.zero_le _, rfl, rfl, H0⟩
  case round =>
    obtain ⟨k, left, r, hk, rfl, rfl, H⟩ := hrel
    obtain ⟨av, cv, rfl, hisw⟩ := dw_isW H.out.row
    by_cases hkp : k < p
    · have HR : Hid (Calls _ _ _ _ _) := HRat.out left wr H.out.lo H.out.hi H.out.below
      have hb := HTb.out left (p - (k + 1) == 0) H.out.lo H.out.hi
      have hr := HRb.out left H.out.lo H.out.hi
      have hl := H.out.lo
      have hl2 := H.out.hi
      obtain ⟨hB1, hB2⟩ := HB.out
      have HTe : Hid (tookN rest n d left (p - (k + 1) == 0) = if (p - (k + 1) == 0) = true ∨ left - rest < ratV left n d then left - rest else ratV left n d) := rfl
      have hL : r.length = k := H.out.len
      rw [hL]
      have HStep : Hid (∀ W v' W', Below w.heap.size w W → (∀ W, wr.grownBy W none → True) → wr.grownBy W none → World.ownsRow W' w.heap.size 3 1 v' (k + 1) (r.map (Value.int .i64) ++ [.int .i64 (tookN rest n d left (p - (k + 1) == 0))]) → (W.alloc (.cells #[.int .i64 (tookN rest n d left (p - (k + 1) == 0))] 3)).grownBy W' (Value.slice av k cv).ownBlock → DwAt w W' rest n d cost (left - tookN rest n d left (p - (k + 1) == 0)) p (k + 1) v' (r ++ [tookN rest n d left (p - (k + 1) == 0)])) := fun W v' W' hW _ hgr hown hgrow => by
        have hob := dw_own H.out.row
        rw [hL] at hob
        refine ⟨?_, by rw [List.length_append, H.out.len]; rfl, ?_, (hW.alloc hW.size _).grown hgrow (by have := hW.size; simp; omega) hob, by omega, by omega⟩
        · rw [List.length_append, List.map_append, hL]; exact hown
        · have := H.out.take
          rw [show p - k = (p - (k + 1)) + 1 by omega, decL] at this
          rw [← this, List.append_assoc]
          rfl
      have HRow : Hid (∀ W x, Below w.heap.size w W → wr.grownBy W none → World.ownsRow (W.alloc (.cells #[.int .i64 x] 3)) w.heap.size 3 1 (.slice av k cv) k (r.map (Value.int .i64))) := fun W x hW hgr => by
        have := H.out.row
        rw [hL] at this
        exact World.ownsRow.alloc (this.kept hgr (by cases (Value.slice av k cv).ownBlock <;> simp)) _
      have Hm : Hid (k + 1 ≤ maxLen ∧ (k + 1) * 8 ≤ 140737488355328) := by unfold Hid maxLen; omega
      have Hsz : Hid (∀ W x, Below w.heap.size w W → w.heap.size ≤ (W.alloc (.cells #[.int .i64 x] 3)).heap.size) := fun W x hW => by have := hW.size; simp; omega
      have Hlen : Hid ((r.map (Value.int .i64)).length = k * 1) := by unfold Hid; rw [List.length_map, hL]; omega
      generalize ratV left n d = rv at *
      generalize tookN rest n d left (p - (k + 1) == 0) = tk at *
      have w1 : IntKind.i64.wrap (left - rest) = left - rest := by rw [IntKind.wrap_i64]; omega
      have w2 : IntKind.i64.wrap (left - tk) = left - tk := by rw [IntKind.wrap_i64]; omega
      have j1 : (k : Int) + 1 ≤ p := by omega
      clear H HRat HTb HRb hb hr hl hl2 hB1 hB2 hisw hL HD HE HI HS
      by_cases cl : left - rest < rv ∨ k + 1 = p
      · have et : tk = left - rest := by
          rw [HTe.out, if_pos]
          rcases cl with cl | cl
          · exact .inr cl
          · exact .inl (by rw [beq_iff_eq]; omega)
        have HC : Hid (left - rest < rv ∨ k + 1 = p) := cl
        clear HTe cl
        subst et
        by_cases cr : left - rest < rv
        · go_wp2_with fail
          refine HR.out.mono ?_
          rintro e W ⟨⟨c, rfl⟩, hW⟩
          have HW : Hid (Below w.heap.size w W ∧ wr.grownBy W none) := hW.out
          have HRw : Hid (World.ownsRow _ _ _ _ _ _ _) := HRow.out W (left - rest) HW.out.1 HW.out.2
          have Hz : Hid (_ ≤ _) := Hsz.out W (left - rest) HW.out.1
          clear HR hW HRow Hsz
          go_wp2_with (at_builtin; refine wpList_append_own _ rfl _ _ 23 rfl w.heap.size 3 j0 (.int .i64 0) 1 8 Tryd.underlying23 hi hz0 hz1 hz2 rfl (by decide) _ _ _ rfl HRw.out ⟨W.heap.size, 0, none⟩ 1 1 [.int .i64 (left - rest)] rfl rfl (World.news_of_block (World.alloc_heap_new W _)) ?c2 Hm.out.1 Hm.out.2 Hz.out ?_)
          case c2 => (intro u hu; simp at hu; subst hu; rfl)
          intro v' W' hown' hgrow _
          have HS' : Hid (DwAt _ _ _ _ _ _ _ _ _ _ _) := HStep.out W v' W' HW.out.1 (fun _ _ => trivial) HW.out.2 hown' hgrow
          clear hown' hgrow HStep HRw Hz HW
          go_wp2
          go_roundw
          case rel => exact ⟨k + 1, _, _, by omega, by go_num, rfl, HS'⟩
          case measure => simp [RowKit.intOf]; omega
        · have jl : ((k : Int) + 1 == (p : Int)) = true := by rw [beq_iff_eq]; have := HC.out; omega
          go_wp2_with fail
          refine HR.out.mono ?_
          rintro e W ⟨⟨c, rfl⟩, hW⟩
          have HW : Hid (Below w.heap.size w W ∧ wr.grownBy W none) := hW.out
          have HRw : Hid (World.ownsRow _ _ _ _ _ _ _) := HRow.out W (left - rest) HW.out.1 HW.out.2
          have Hz : Hid (_ ≤ _) := Hsz.out W (left - rest) HW.out.1
          clear HR hW HRow Hsz
          go_wp2_with (at_builtin; refine wpList_append_own _ rfl _ _ 23 rfl w.heap.size 3 j0 (.int .i64 0) 1 8 Tryd.underlying23 hi hz0 hz1 hz2 rfl (by decide) _ _ _ rfl HRw.out ⟨W.heap.size, 0, none⟩ 1 1 [.int .i64 (left - rest)] rfl rfl (World.news_of_block (World.alloc_heap_new W _)) ?c2 Hm.out.1 Hm.out.2 Hz.out ?_)
          case c2 => (intro u hu; simp at hu; subst hu; rfl)
          intro v' W' hown' hgrow _
          have HS' : Hid (DwAt _ _ _ _ _ _ _ _ _ _ _) := HStep.out W v' W' HW.out.1 (fun _ _ => trivial) HW.out.2 hown' hgrow
          clear hown' hgrow HStep HRw Hz HW
          go_wp2
          go_roundw
          case rel => exact ⟨k + 1, _, _, by omega, by go_num, rfl, HS'⟩
          case measure => simp [RowKit.intOf]; omega
      · simp only [not_or] at cl
        obtain ⟨cr, cp⟩ := cl
        have et : tk = rv := by rw [HTe.out, if_neg]; simp only [not_or]; exact ⟨by rw [beq_iff_eq]; omega, cr⟩
        have jl : ((k : Int) + 1 == (p : Int)) = false := by rw [beq_eq_false_iff_ne]; omega
        clear HTe cp
        subst et
        go_wp2_with fail
        refine HR.out.mono ?_
        rintro e W ⟨⟨c, rfl⟩, hW⟩
        have HW : Hid (Below w.heap.size w W ∧ wr.grownBy W none) := hW.out
        have HRw : Hid (World.ownsRow _ _ _ _ _ _ _) := HRow.out W tk HW.out.1 HW.out.2
        have Hz : Hid (_ ≤ _) := Hsz.out W tk HW.out.1
        clear HR hW HRow Hsz
        go_wp2_with (at_builtin; refine wpList_append_own _ rfl _ _ 23 rfl w.heap.size 3 j0 (.int .i64 0) 1 8 Tryd.underlying23 hi hz0 hz1 hz2 rfl (by decide) _ _ _ rfl HRw.out ⟨W.heap.size, 0, none⟩ 1 1 [.int .i64 tk] rfl rfl (World.news_of_block (World.alloc_heap_new W _)) ?c2 Hm.out.1 Hm.out.2 Hz.out ?_)
        case c2 => (intro u hu; simp at hu; subst hu; rfl)
        intro v' W' hown' hgrow _
        have HS' : Hid (DwAt _ _ _ _ _ _ _ _ _ _ _) := HStep.out W v' W' HW.out.1 (fun _ _ => trivial) HW.out.2 hown' hgrow
        clear hown' hgrow HStep HRw Hz HW
        go_wp2
        go_roundw
        case rel => exact ⟨k + 1, _, _, by omega, by go_num, rfl, HS'⟩
        case measure => simp [RowKit.intOf]; omega
    · have ek : k = p := by omega
      subst ek
      have HF : Hid (IsW wr av (decL rest n d k cost) cv ∧ r.length = k ∧ Below w.heap.size w wr) := by
        refine ⟨?_, H.out.len, H.out.below⟩
        have := H.out.take
        rw [Nat.sub_self, decL, List.append_nil] at this
        rw [← this]; exact hisw
      have el : r.length = k := H.out.len
      rw [el]
      have j1 : ¬ (k : Int) + 1 ≤ k := by omega
      clear H hisw HRat HTb HRb el
      go_wp2_with fail
      refine (HD.out wr HF.out.2.2).mono ?_
      rintro e w1 ⟨rfl, h1⟩
      have HB1 : Hid (Below w.heap.size w w1) := HF.out.2.2.trans (h1.out.2.mono HF.out.2.2.size)
      clear HD
      go_wp2_with fail
      refine (HE.out w1 HB1.out).mono ?_
      rintro e w2 ⟨rfl, hb2⟩
      have hlt1 : wr.heap.size < w1.heap.size := h1.out.1.ltS
      have HN2 : Hid (NRow w2 wr.heap.size (decL rest n d k cost)) := h1.out.1.belowS hb2 hlt1
      have HB2 : Hid (Below w.heap.size w w2) := HB1.out.trans (hb2.mono HB1.out.size)
      have HI2 : Hid (Calls _ _ _ _ _) := HI.out w2 _ _ k cv (HN2.out.isW k (by rw [decL_len]; exact Nat.le_refl _)) ((HF.out.1.below h1.out.2).below hb2)
      clear HE HI hb2 h1 HB1 HF
      go_wp2_with fail
      refine HI2.out.mono ?_
      rintro e w3 ⟨rfl, hb3⟩
      have hlt2 : wr.heap.size < w2.heap.size := HN2.out.ltS
      have HS3 : Hid (Calls _ _ _ _ _) := HS.out w3 wr.heap.size (HN2.out.belowS hb3 hlt2)
      have HB3 : Hid (Below w.heap.size w w3) := HB2.out.trans (hb3.mono HB2.out.size)
      clear HI2 HS hb3 HN2 HB2 hlt1 hlt2
      go_wp2_with fail
      refine HS3.out.mono ?_
      rintro e w' ⟨rfl, hw⟩
      rw [hw]; clear hw w' HS3
      go_wp2
      go_ret
      exact ⟨rfl, HB3.out⟩
theorem declines_any (cost rest n d pr : Int) (w : World) (hg : ErrT w) :
    Calls Tryd.prog 3 #[.int .i64 cost, .int .i64 rest, .int .i64 n, .int .i64 d, .int .i64 pr] w fun e w' => e = .returned (.bool true) ∧ Below w.heap.size w w' := by
  cases h : decBad cost rest n d pr
  · have hp : 1 ≤ pr := by
      have hh := h
      unfold decBad at hh
      simp only [Bool.not_eq_false', Bool.and_eq_true, decide_eq_true_eq, upTo_iff] at hh
      exact hh.2.2.2.2.1
    obtain ⟨p, rfl⟩ : ∃ p : Nat, pr = (p : Int) := ⟨pr.toNat, by omega⟩
    exact declines_ok cost rest n d p w hg h
  · exact declines_bad cost rest n d pr w hg h
end Go.Proofs.YtphlcjghcffnbaaDoor
