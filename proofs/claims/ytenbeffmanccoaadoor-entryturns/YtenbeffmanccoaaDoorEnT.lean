/-
  daylaw1.EntryTurns, walked.
-/
import Derived.Test.YtenbeffmanccoaaDoorRfE3b
import Derived.Test.YtenbeffmanccoaaDoorEnS
import Derived.Test.YtenbeffmanccoaaDoorErrT
namespace Go.Proofs.YtenbeffmanccoaaDoor
set_option linter.unusedVariables false
set_option linter.unusedSimpArgs false
set_option maxRecDepth 100000
open Go.RowKit Go.Lib

theorem en_errIs (n : Int) (h : -9223372036854775808 ≤ n ∧ n ≤ 9223372036854775807) : ErrIs (enE n) n := by
  by_cases h0 : n = 0
  · subst h0; exact .inl ⟨rfl, rfl⟩
  · rw [enE_ne h0]; exact .inr ⟨rfl, h.1, h.2⟩
theorem fewBad_range (l : List Ln) : -9223372036854775808 ≤ fewBad l ∧ fewBad l ≤ 9223372036854775807 := by
  unfold fewBad
  split
  · omega
  · split <;> omega
/-- All that was there stays, but for one block. -/
structure KeepBut (tb : Nat) (V W : World) : Prop where
  size : V.heap.size ≤ W.heap.size
  block : ∀ b, b < V.heap.size → b ≠ tb → W.heap[b]? = V.heap[b]?
theorem KeepBut.refl (tb : Nat) (V : World) : KeepBut tb V V := ⟨Nat.le_refl _, fun _ _ _ => rfl⟩
theorem KeepBut.alloc {tb : Nat} {V W : World} (h : KeepBut tb V W) (o : Obj) : KeepBut tb V (W.alloc o) :=
  ⟨by have := h.size; simp; omega, fun b hb hn => ((World.grownBy_alloc W o none).block b (by have := h.size; omega) (by simp)).trans (h.block b hb hn)⟩
theorem KeepBut.grown {tb : Nat} {V W W' : World} {row : Option Nat} (h : KeepBut tb V W) (hg : W.grownBy W' row) (hr : ∀ j, row = some j → V.heap.size ≤ j) : KeepBut tb V W' :=
  ⟨by have := h.size; have := hg.size; omega, fun b hb hn => (hg.block b (by have := h.size; omega) (fun e => by have := hr b e.symm; omega)).trans (h.block b hb hn)⟩
theorem KeepBut.set {tb : Nat} {V W : World} (h : KeepBut tb V W) (o : Nat) (v : Value) : KeepBut tb V (W.setCell ⟨tb, o, none⟩ v) :=
  ⟨by have := h.size; simp; omega, fun b hb hn => (Below.heap_setCell _ _ _ b (fun e => hn e)).trans (h.block b hb hn)⟩
theorem KeepBut.box {tb : Nat} {V W : World} (h : KeepBut tb V W) {b : Nat} {r : ByteArray} {en pe : Int} {v : Value} (hb : Box4 V b r en pe v) (hn : b ≠ tb) : Box4 W b r en pe v :=
  (h.block b (Array.getElem?_eq_some_iff.1 hb).1 hn).trans hb
theorem KeepBut.row {tb : Nat} {V W : World} (h : KeepBut tb V W) {n : Nat} {v : Value} {l : List Ln} (hr : LnRow V n v l) (hn : tb < n) : LnRow W n v l := by
  rcases hr.2 with ⟨hv, h0⟩ | ⟨g1, c1, cur, hv, hb1, hh, r⟩
  · exact ⟨hr.1, .inl ⟨hv, h0⟩⟩
  · exact ⟨hr.1, .inr ⟨g1, c1, cur, hv, hb1, (h.block g1 (Array.getElem?_eq_some_iff.1 hh).1 (by omega)).trans hh, r⟩⟩
theorem Box4.grow {W W' : World} {b : Nat} {row : Option Nat} {r : ByteArray} {en pe : Int} {v : Value} (h : Box4 W b r en pe v) (hg : W.grownBy W' row) (hr : ∀ j, row = some j → b < j) : Box4 W' b r en pe v :=
  (hg.block b (Array.getElem?_eq_some_iff.1 h).1 (fun e => by have := hr b e.symm; omega)).trans h
theorem isLn_nil (W : World) : IsLn W none [] 0 := ⟨Nat.le_refl _, .inl rfl⟩
theorem LnRow.isLn' {W : World} {n0 : Nat} {a : Option Addr} {m cap : Nat} {l : List Ln} (h : LnRow W n0 (.slice a m cap) l) : m = l.length ∧ IsLn W a l cap := by
  obtain ⟨a', c', e, hs⟩ := h.isLn
  cases e
  exact ⟨rfl, hs⟩

set_option maxHeartbeats 8000000 in
theorem turns_walk (r ref : ByteArray) (en pe : Int) (a : Option Addr) (cap : Nat) (l : List Ln) (w : World) (hg : ErrT w) (h : IsLn w a l cap) :
    Calls Tryd.prog 3 #[.agg #[.string r, .int .i64 en, .int .i64 pe, .slice a l.length cap], .string ref] w fun e w' => e = .returned (.bool true) ∧ Below w.heap.size w w' := by
  have b0 : Below w.heap.size w (w.alloc (.cells #[.string r, .int .i64 en, .int .i64 pe, .slice a l.length cap] 24)) := (Below.refl _ w).alloc (Nat.le_refl _) _
  have x0 := Box4.new w r en pe (.slice a l.length cap)
  have hs0 : (w.alloc (.cells #[.string r, .int .i64 en, .int .i64 pe, .slice a l.length cap] 24)).heap.size = w.heap.size + 1 := by simp
  have hF := refFew_any a cap l _ (h.below b0)
  have HF : Hid (Calls _ _ _ _ _) := hF
  have Hg : Hid (∀ W, Below w.heap.size w W → ErrT W) := fun W hW => hg.below hW (Nat.le_refl _)
  have Hsl : Hid (IsLn w a l cap) := h
  have HR := refRef_any ref
  clear hF hg h
  go_enter Tryd.func3, Tryd.ntmps3
  go_wp2_with fail
  refine HF.out.mono ?_
  rintro e w1 ⟨rfl, hb1⟩
  rw [hs0] at hb1
  have B1 := b0.trans (hb1.mono (by omega))
  have hs1 := hb1.size
  rw [hs0] at hs1
  have y1 := x0.below hb1 (by omega)
  clear HF hb1 b0 x0 hs0
  obtain ⟨bad, hbad⟩ : ∃ bad, fewBad l = bad := ⟨_, rfl⟩
  have Hbad : Hid (fewBad l = bad) := hbad
  rw [hbad]
  clear hbad
  obtain ⟨ok, hok⟩ : ∃ ok, isRefB ref = ok := ⟨_, rfl⟩
  have Hok : Hid (isRefB ref = ok) := hok
  rw [hok] at HR
  clear hok
  have xt := (Box4.new w1 ByteArray.empty 0 0 (.slice none 0 0)).alloc (.cells #[.string ByteArray.empty, .int .i64 0, .int .i64 0, .slice none 0 0] 24)
  have xs := Box4.new (w1.alloc (.cells #[.string ByteArray.empty, .int .i64 0, .int .i64 0, .slice none 0 0] 24)) ByteArray.empty 0 0 (.slice none 0 0)
  have y2 := (y1.alloc (.cells #[.string ByteArray.empty, .int .i64 0, .int .i64 0, .slice none 0 0] 24)).alloc (.cells #[.string ByteArray.empty, .int .i64 0, .int .i64 0, .slice none 0 0] 24)
  have B2 := (B1.alloc B1.size (.cells #[.string ByteArray.empty, .int .i64 0, .int .i64 0, .slice none 0 0] 24)).alloc (by simp; omega) (.cells #[.string ByteArray.empty, .int .i64 0, .int .i64 0, .slice none 0 0] 24)
  have hs2 : ((w1.alloc (.cells #[.string ByteArray.empty, .int .i64 0, .int .i64 0, .slice none 0 0] 24)).alloc (.cells #[.string ByteArray.empty, .int .i64 0, .int .i64 0, .slice none 0 0] 24)).heap.size = w1.heap.size + 2 := by simp
  rw [World.size_alloc] at xs
  have HR2 := HR ((w1.alloc (.cells #[.string ByteArray.empty, .int .i64 0, .int .i64 0, .slice none 0 0] 24)).alloc (.cells #[.string ByteArray.empty, .int .i64 0, .int .i64 0, .slice none 0 0] 24))
  obtain ⟨W, hW⟩ : ∃ W, (w1.alloc (.cells #[.string ByteArray.empty, .int .i64 0, .int .i64 0, .slice none 0 0] 24)).alloc (.cells #[.string ByteArray.empty, .int .i64 0, .int .i64 0, .slice none 0 0] 24) = W := ⟨_, rfl⟩
  clear HR
  go_wp2_with fail
  refine HR2.mono ?_
  rintro e w' ⟨rfl, rfl⟩
  rw [hW] at xt xs y2 B2 hs2 ⊢
  have HW : Hid (_ = W) := hW
  clear HR2 hW
  have hrng : -9223372036854775808 ≤ bad ∧ bad ≤ 9223372036854775807 := by rw [← Hbad.out]; exact fewBad_range l
  have HE : Hid (∀ V, Below w.heap.size w V → Calls Tryd.prog 9 #[enE bad, .int .i64 bad] V fun e w' => e = .returned (.bool true) ∧ Below V.heap.size V w') := fun V hV => err_true (en_errIs bad hrng) V (Hg.out V hV)
  have hWs : w1.heap.size + 2 ≤ W.heap.size := by omega
  by_cases h1 : bad = 0
  · subst h1
    obtain ⟨q1, q2⟩ := fewBad_zero Hbad.out
    have hgl : (grp l).length ≤ 20 := by have := grp_length l; omega
    have hgli : ((grp l).length : Int) ≤ 20 := by omega
    have hS := refSums_all r en pe a cap l W q1 q2 (Hsl.out.below B2)
    have HSm : Hid (Calls _ _ _ _ _) := hS
    have HGr : Hid (∀ V, Below w.heap.size w V → Calls Tryd.prog 7 #[.slice a l.length cap] V fun e w' => ∃ v, e = .returned v ∧ LnRow w' V.heap.size v (grp l) ∧ Below V.heap.size V w') := fun V hV => refGrouped_any a cap l V q1 q2 (Hsl.out.below hV)
    clear hS
    have c0 := y2.c0
    have c1 := y2.c1
    have c2 := y2.c2
    have c3 := y2.c3
    cases ok
    · go_wp2_with fail
      refine HSm.out.mono ?_
      rintro e u1 ⟨vu, rfl, ru, bu⟩
      obtain ⟨ua, uc, rfl, hu⟩ := ru.isLn
      have Bu := B2.trans (bu.mono B2.size)
      have hzu := bu.size
      have yu := y2.below bu (by omega)
      have xtu := xt.below bu (by omega)
      have xsu := xs.below bu (by omega)
      have HU1 : Hid (LnRow u1 W.heap.size (.slice ua (curSums l).length uc) (curSums l)) := ru
      clear c0 c1 c2 c3 ru hu bu y2 xt xs HSm
      have c3 := yu.c3
      go_wp2_with fail
      refine (HGr.out u1 Bu).mono ?_
      rintro e u2 ⟨vg, rfl, rg, bg⟩
      obtain ⟨ga, gc, rfl, hgL⟩ := rg.isLn
      have Bg := Bu.trans (bg.mono Bu.size)
      have hzg := bg.size
      have yg := yu.below bg (by omega)
      have xtg := xtu.below bg (by omega)
      have xsg := xsu.below bg (by omega)
      have HU2 : Hid (LnRow u2 W.heap.size (.slice ua (curSums l).length uc) (curSums l)) := LnRow.below HU1.out bg
      have HG2 : Hid (IsLn u2 ga (grp l) gc) := hgL
      clear c3 rg hgL bg yu xtu xsu HGr HU1
      obtain ⟨i0, hi, hz0, hz1, hz2⟩ := info_parts ln_info
      go_wp2
      go_loopw [7, 13] (fun s i wr => ∃ k : Nat, k ≤ (grp l).length ∧ i = .int .i64 k ∧ Hid (LnRow wr u2.heap.size s (((grp l).take k).filter fun x => !nullL x)) ∧ Below u2.heap.size u2 wr) (fun _ i _ => (grp l).length - (intOf i).toNat)
      case atStart => exact ⟨0, Nat.zero_le _, rfl, LnRow.nil _ _, Below.refl _ _⟩
      case round =>
        obtain ⟨k, hk, rfl, R, BW⟩ := hrel
        have hzr := BW.size
        by_cases hlt : k < (grp l).length
        · rcases HG2.out.lies with h0 | ⟨gb, go, rfl, hgb, hgc⟩
          · rw [h0] at hlt; simp at hlt
          have hn := (hgc k hlt).below BW hgb
          have hst : ((grp l).take (k + 1)).filter (fun x => !nullL x) = ((grp l).take k).filter (fun x => !nullL x) ++ [(grp l).getD k ln0].filter (fun x => !nullL x) := by rw [lns_take (grp l) k hlt, List.filter_append]
          have hfl : (((grp l).take k).filter fun x => !nullL x).length ≤ 20 := by
            have := List.length_filter_le (fun x => !nullL x) ((grp l).take k)
            rw [List.length_take] at this
            omega
          generalize (grp l).getD k ln0 = x at *
          generalize ((grp l).take k).filter (fun x => !nullL x) = fs at *
          have Hst : Hid (_ = fs ++ [x].filter (fun x => !nullL x)) := hst
          clear hst hgc
          obtain ⟨x0, x1, x2⟩ := x
          obtain ⟨c0, c1, c2⟩ := hn
          simp only at c0 c1 c2
          have j0 : (0 : Int) ≤ k := by omega
          have j1 : (k : Int) < (grp l).length := by omega
          by_cases g : x2 = 0
          · have eqs : ((grp l).take (k + 1)).filter (fun x => !nullL x) = fs := by
              rw [Hst.out, filter_out (p := nullL) (by simp [nullL, g]), List.append_nil]
            have HN0 := R.out
            rw [← eqs] at HN0
            have HN : Hid (LnRow _ _ _ _) := HN0
            subst g
            clear Hst R HN0 eqs
            go_wp2
            go_roundw
            case rel => exact ⟨k + 1, by omega, by go_num, HN, BW⟩
            case measure => simp [intOf]; omega
          · have g' : (x2 != 0) = true := by simpa using g
            have e1 : [(⟨x0, x1, x2⟩ : Ln)].filter (fun x => !nullL x) = [⟨x0, x1, x2⟩] := filter_in (p := nullL) (by simp [nullL, g])
            have Hm3 : Hid (u2.heap.size ≤ (wr.alloc (.cells #[.string x0, .string x1, .int .i64 x2] 30)).heap.size) := by unfold Hid; simp; omega
            have Hm1 : Hid (fs.length + 1 ≤ maxLen) := by unfold Hid maxLen; omega
            have Hm2 : Hid ((fs.length + 1) * 40 ≤ 140737488355328) := by unfold Hid; omega
            have hone : ∀ u ∈ ([.string x0, .string x1, .int .i64 x2] : List Value), u.oneCell' = true := by intro u hu; simp at hu; rcases hu with rfl | rfl | rfl <;> rfl
            have BW2 := BW.alloc hzr (.cells #[.string x0, .string x1, .int .i64 x2] 30)
            have hoj := R.out.own
            go_wp2_with (at_builtin; refine wpList_append_own _ rfl _ _ 22 rfl u2.heap.size 30 i0 (.agg #[.string ByteArray.empty, .string ByteArray.empty, .int .i64 0]) 3 40 Tryd.underlying22 hi hz0 hz1 hz2 rfl (by decide) _ _ _ rfl (World.ownsRow.alloc R.out _) ⟨wr.heap.size, 0, none⟩ 1 1 [.string x0, .string x1, .int .i64 x2] rfl rfl (cells_three _ _ _ _ _ _ rfl) hone Hm1.out Hm2.out Hm3.out ?_)
            intro v' w3 hown hgrow _
            have B4 : Below u2.heap.size u2 w3 := BW2.grown hgrow (by simp; omega) (fun j e => hoj j e)
            have HN : Hid (LnRow w3 u2.heap.size v' (((grp l).take (k + 1)).filter fun x => !nullL x)) := by
              unfold Hid
              rw [Hst.out, e1]
              unfold LnRow
              rw [lnRow_append, lnRow_one, List.length_append]
              exact hown
            clear hown hgrow R Hst
            go_wp2
            go_roundw
            case rel => exact ⟨k + 1, by omega, by go_num, HN, B4⟩
            case measure => simp [intOf]; omega
        · have hk2 : k = (grp l).length := by omega
          subst hk2
          have rn := R.out
          rw [List.take_length] at rn
          have rn2 : LnRow wr u2.heap.size _ (netL l) := rn
          obtain ⟨na, nc, rfl, _⟩ := rn2.isLn
          have yr := yg.below BW (by omega)
          have tr := xtg.below BW (by omega)
          have sr := xsg.below BW (by omega)
          have Br := Bg.trans (BW.mono (by omega))
          have Hur : LnRow wr W.heap.size (.slice ua (curSums l).length uc) (curSums l) := LnRow.below HU2.out BW
          have d0 := yr.c0
          have d1 := yr.c1
          have d2 := yr.c2
          have d3 := yr.c3
          have e0 := sr.c0
          have e1 := sr.c1
          have e2 := sr.c2
          have e3 := sr.c3
          have f0 := sr.fz 0
          have f1 := sr.fz 1
          have f2 := sr.fz 2
          have f3 := sr.fz 3
          have sv : Box4 (((((wr.setCell ⟨w1.heap.size + 1, 0, none⟩ (.string r)).setCell ⟨w1.heap.size + 1, 1, none⟩ (.int .i64 en)).setCell ⟨w1.heap.size + 1, 2, none⟩ (.int .i64 pe)).setCell ⟨w1.heap.size + 1, 3, none⟩ (.slice a l.length cap)).setCell ⟨w1.heap.size + 1, 3, none⟩ (.slice na (netL l).length nc)) (w1.heap.size + 1) r en pe (.slice na (netL l).length nc) := (sr.set r en pe (.slice a l.length cap)).put3 (.slice na (netL l).length nc)
          have tv : Box4 (((((wr.setCell ⟨w1.heap.size + 1, 0, none⟩ (.string r)).setCell ⟨w1.heap.size + 1, 1, none⟩ (.int .i64 en)).setCell ⟨w1.heap.size + 1, 2, none⟩ (.int .i64 pe)).setCell ⟨w1.heap.size + 1, 3, none⟩ (.slice a l.length cap)).setCell ⟨w1.heap.size + 1, 3, none⟩ (.slice na (netL l).length nc)) w1.heap.size ByteArray.empty 0 0 (.slice none 0 0) := (((((tr.other (b' := w1.heap.size + 1) (o := 0) (by omega)).other (b' := w1.heap.size + 1) (o := 1) (by omega)).other (b' := w1.heap.size + 1) (o := 2) (by omega)).other (b' := w1.heap.size + 1) (o := 3) (by omega)).other (b' := w1.heap.size + 1) (o := 3) (by omega))
          have yv : Box4 (((((wr.setCell ⟨w1.heap.size + 1, 0, none⟩ (.string r)).setCell ⟨w1.heap.size + 1, 1, none⟩ (.int .i64 en)).setCell ⟨w1.heap.size + 1, 2, none⟩ (.int .i64 pe)).setCell ⟨w1.heap.size + 1, 3, none⟩ (.slice a l.length cap)).setCell ⟨w1.heap.size + 1, 3, none⟩ (.slice na (netL l).length nc)) w.heap.size r en pe (.slice a l.length cap) := (((((yr.other (b' := w1.heap.size + 1) (o := 0) (by omega)).other (b' := w1.heap.size + 1) (o := 1) (by omega)).other (b' := w1.heap.size + 1) (o := 2) (by omega)).other (b' := w1.heap.size + 1) (o := 3) (by omega)).other (b' := w1.heap.size + 1) (o := 3) (by omega))
          have rv : LnRow (((((wr.setCell ⟨w1.heap.size + 1, 0, none⟩ (.string r)).setCell ⟨w1.heap.size + 1, 1, none⟩ (.int .i64 en)).setCell ⟨w1.heap.size + 1, 2, none⟩ (.int .i64 pe)).setCell ⟨w1.heap.size + 1, 3, none⟩ (.slice a l.length cap)).setCell ⟨w1.heap.size + 1, 3, none⟩ (.slice na (netL l).length nc)) u2.heap.size (.slice na (netL l).length nc) (netL l) := (LnRow.setOther (b := w1.heap.size + 1) (o := 3) (LnRow.setOther (b := w1.heap.size + 1) (o := 3) (LnRow.setOther (b := w1.heap.size + 1) (o := 2) (LnRow.setOther (b := w1.heap.size + 1) (o := 1) (LnRow.setOther (b := w1.heap.size + 1) (o := 0) rn2 (by omega)) (by omega)) (by omega)) (by omega)) (by omega))
          have uv : LnRow (((((wr.setCell ⟨w1.heap.size + 1, 0, none⟩ (.string r)).setCell ⟨w1.heap.size + 1, 1, none⟩ (.int .i64 en)).setCell ⟨w1.heap.size + 1, 2, none⟩ (.int .i64 pe)).setCell ⟨w1.heap.size + 1, 3, none⟩ (.slice a l.length cap)).setCell ⟨w1.heap.size + 1, 3, none⟩ (.slice na (netL l).length nc)) W.heap.size (.slice ua (curSums l).length uc) (curSums l) := (LnRow.setOther (b := w1.heap.size + 1) (o := 3) (LnRow.setOther (b := w1.heap.size + 1) (o := 3) (LnRow.setOther (b := w1.heap.size + 1) (o := 2) (LnRow.setOther (b := w1.heap.size + 1) (o := 1) (LnRow.setOther (b := w1.heap.size + 1) (o := 0) Hur (by omega)) (by omega)) (by omega)) (by omega)) (by omega))
          have Bv : Below w.heap.size w (((((wr.setCell ⟨w1.heap.size + 1, 0, none⟩ (.string r)).setCell ⟨w1.heap.size + 1, 1, none⟩ (.int .i64 en)).setCell ⟨w1.heap.size + 1, 2, none⟩ (.int .i64 pe)).setCell ⟨w1.heap.size + 1, 3, none⟩ (.slice a l.length cap)).setCell ⟨w1.heap.size + 1, 3, none⟩ (.slice na (netL l).length nc)) := (((((Br.setCell (p := ⟨w1.heap.size + 1, 0, none⟩) (by simp only; omega) _).setCell (p := ⟨w1.heap.size + 1, 1, none⟩) (by simp only; omega) _).setCell (p := ⟨w1.heap.size + 1, 2, none⟩) (by simp only; omega) _).setCell (p := ⟨w1.heap.size + 1, 3, none⟩) (by simp only; omega) _).setCell (p := ⟨w1.heap.size + 1, 3, none⟩) (by simp only; omega) _)
          have hVs : (((((wr.setCell ⟨w1.heap.size + 1, 0, none⟩ (.string r)).setCell ⟨w1.heap.size + 1, 1, none⟩ (.int .i64 en)).setCell ⟨w1.heap.size + 1, 2, none⟩ (.int .i64 pe)).setCell ⟨w1.heap.size + 1, 3, none⟩ (.slice a l.length cap)).setCell ⟨w1.heap.size + 1, 3, none⟩ (.slice na (netL l).length nc)).heap.size = wr.heap.size := by simp
          obtain ⟨V, hV⟩ : ∃ V, (((((wr.setCell ⟨w1.heap.size + 1, 0, none⟩ (.string r)).setCell ⟨w1.heap.size + 1, 1, none⟩ (.int .i64 en)).setCell ⟨w1.heap.size + 1, 2, none⟩ (.int .i64 pe)).setCell ⟨w1.heap.size + 1, 3, none⟩ (.slice a l.length cap)).setCell ⟨w1.heap.size + 1, 3, none⟩ (.slice na (netL l).length nc)) = V := ⟨_, rfl⟩
          rw [hV] at sv tv yv rv uv Bv hVs
          have hVz : wr.heap.size ≤ V.heap.size := by rw [hVs]; exact Nat.le_refl _
          clear hVs
          clear B2 rn rn2 R Hur
          have hUn : (curSums l).length ≤ 1000 := by have := grp_length (l.map bareL); rw [List.length_map] at this; unfold curSums; omega
          have hSn : (netL l).length ≤ 1000 := by have := List.length_filter_le (fun x => !nullL x) (grp l); unfold netL; omega
          rw [enE_zero] at HE
          have HC1 : Hid (∀ V, Below w.heap.size w V → Calls Tryd.prog 8 #[.agg #[.string r, .int .i64 en, .int .i64 pe, .slice a l.length cap]] V fun e w' => ∃ a1 c1, e = .returned (.tuple #[.slice a1 (curSums l).length c1, .nilIface]) ∧ IsLn w' a1 (curSums l) c1 ∧ Below V.heap.size V w') := fun V hV => by
            refine (sums_ok r en pe a cap l V (Hsl.out.below hV) Hbad.out).mono ?_
            rintro e w' ⟨v, rfl, hr, hb⟩
            obtain ⟨a1, c1, rfl, hs⟩ := hr.isLn
            exact ⟨a1, c1, rfl, hs, hb⟩
          have HC3 : Hid (∀ V, Below w.heap.size w V → Calls Tryd.prog 13 #[.agg #[.string r, .int .i64 en, .int .i64 pe, .slice a l.length cap]] V fun e w' => ∃ a1 c1, e = .returned (.tuple #[.agg #[.string r, .int .i64 en, .int .i64 pe, .slice a1 (netL l).length c1], .nilIface]) ∧ IsLn w' a1 (netL l) c1 ∧ Below V.heap.size V w') := fun V hV => by
            refine (net_ok r en pe a cap l V (Hsl.out.below hV) Hbad.out).mono ?_
            rintro e w' ⟨v, rfl, hr, hb⟩
            obtain ⟨a1, c1, rfl, hs⟩ := hr.isLn
            exact ⟨a1, c1, rfl, hs, hb⟩
          have B2 := Bv
          have y2 := yv
          have xt := tv
          have xs := sv
          have HU : Hid (IsLn V ua (curSums l) uc) := uv.isLn'.2
          have HT : Hid (IsLn V none [] 0) := isLn_nil _
          have HS : Hid (IsLn V na (netL l) nc) := rv.isLn'.2
          have hTn : ([] : List Ln).length ≤ 1000 := by simp
          have HC2 : Hid (∀ V, Below w.heap.size w V → Calls Tryd.prog 11 #[.agg #[.string r, .int .i64 en, .int .i64 pe, .slice a l.length cap], .string ref] V fun e w' => ∃ a1 c1, e = .returned (.tuple #[.agg #[.string ByteArray.empty, .int .i64 0, .int .i64 0, .slice a1 0 c1], enE 2]) ∧ IsLn w' a1 [] c1 ∧ Below V.heap.size V w') := fun V hV => by
            have hf : revBad ref l = 2 := by unfold revBad; rw [Hok.out, if_pos rfl]
            refine (rev_bad r ref en pe a cap l V (Hsl.out.below hV) (by rw [hf]; decide)).mono ?_
            rintro e w' ⟨rfl, hb⟩
            exact ⟨none, 0, by rw [hf], isLn_nil _, hb⟩
          have HEf : Hid (∀ V, Below w.heap.size w V → Calls Tryd.prog 9 #[enE 2, .int .i64 2] V fun e w' => e = .returned (.bool true) ∧ Below V.heap.size V w') := fun V hV => err_true (en_errIs 2 (by omega)) V (Hg.out V hV)
          obtain ⟨evf, hevf⟩ : ∃ evf, enE 2 = evf := ⟨_, rfl⟩
          rw [hevf] at HC2 HEf
          clear hevf rv uv HG2 HU2 Bv yv tv sv
          have c0 := y2.c0
          have c1 := y2.c1
          have c2 := y2.c2
          have c3 := y2.c3
          go_wp2_with fail
          refine (HC1.out _ B2).mono ?_
          rintro e w3 ⟨a3, k3, rfl, l3, b3⟩
          have B3 := B2.trans (b3.mono B2.size)
          have hz3 := b3.size
          have y3 := y2.below b3 (by omega)
          have t3 := xt.below b3 (by omega)
          have s3 := xs.below b3 (by omega)
          have HU3 : Hid (IsLn w3 _ (curSums l) _) := HU.out.below b3
          have HT3 : Hid (IsLn w3 _ ([] : List Ln) _) := HT.out.below b3
          have HS3 : Hid (IsLn w3 _ (netL l) _) := HS.out.below b3
          have HL3 : Hid (IsLn w3 a3 (curSums l) k3) := l3
          clear HC1 c0 c1 c2 c3 y2 xt xs b3 l3 HU HT HS
          go_wp2_with fail
          refine (HE.out w3 B3).mono ?_
          rintro e w4 ⟨rfl, b4⟩
          have B4 := B3.trans (b4.mono B3.size)
          have hz4 := b4.size
          have y4 := y3.below b4 (by omega)
          have t4 := t3.below b4 (by omega)
          have s4 := s3.below b4 (by omega)
          have HT4 : Hid (IsLn w4 _ ([] : List Ln) _) := HT3.out.below b4
          have HS4 : Hid (IsLn w4 _ (netL l) _) := HS3.out.below b4
          have hLL := sameLines_any _ _ _ _ (curSums l) w4 hUn (HL3.out.below b4) (HU3.out.below b4)
          have HLL : Hid (Calls _ _ _ _ _) := hLL
          clear hLL HL3 HU3 b4 y3 t3 s3 HT3 HS3
          go_wp2_with fail
          refine HLL.out.mono ?_
          rintro e w5 ⟨rfl, b5⟩
          have B5 := B4.trans (b5.mono B4.size)
          have hz5 := b5.size
          have y5 := y4.below b5 (by omega)
          have t5 := t4.below b5 (by omega)
          have s5 := s4.below b5 (by omega)
          have HT5 : Hid (IsLn w5 _ ([] : List Ln) _) := HT4.out.below b5
          have HS5 : Hid (IsLn w5 _ (netL l) _) := HS4.out.below b5
          clear HLL b5 y4 t4 s4 HT4 HS4
          have c0 := y5.c0
          have c1 := y5.c1
          have c2 := y5.c2
          have c3 := y5.c3
          go_wp2_with fail
          refine (HC2.out w5 B5).mono ?_
          rintro e w6 ⟨a6, k6, rfl, l6, b6⟩
          have hz6 := b6.size
          have B6 := (B5.trans (b6.mono B5.size)).alloc (by omega) (.cells #[.string ByteArray.empty, .int .i64 0, .int .i64 0, .slice a6 0 k6] 24)
          have y6 := (y5.below b6 (by omega)).alloc (.cells #[.string ByteArray.empty, .int .i64 0, .int .i64 0, .slice a6 0 k6] 24)
          have t6 := (t5.below b6 (by omega)).alloc (.cells #[.string ByteArray.empty, .int .i64 0, .int .i64 0, .slice a6 0 k6] 24)
          have s6 := (s5.below b6 (by omega)).alloc (.cells #[.string ByteArray.empty, .int .i64 0, .int .i64 0, .slice a6 0 k6] 24)
          have r6 := Box4.new w6 ByteArray.empty 0 0 (.slice a6 0 k6)
          have hb6 : Below w6.heap.size w6 (w6.alloc (.cells #[.string ByteArray.empty, .int .i64 0, .int .i64 0, .slice a6 0 k6] 24)) := (Below.refl _ w6).alloc (Nat.le_refl _) _
          have HT6 : Hid (IsLn (w6.alloc (.cells #[.string ByteArray.empty, .int .i64 0, .int .i64 0, .slice a6 0 k6] 24)) _ ([] : List Ln) _) := (HT5.out.below b6).below hb6
          have HS6 : Hid (IsLn (w6.alloc (.cells #[.string ByteArray.empty, .int .i64 0, .int .i64 0, .slice a6 0 k6] 24)) _ (netL l) _) := (HS5.out.below b6).below hb6
          have HL6 : Hid (IsLn (w6.alloc (.cells #[.string ByteArray.empty, .int .i64 0, .int .i64 0, .slice a6 0 k6] 24)) a6 ([] : List Ln) k6) := l6.below hb6
          have hz6b : (w6.alloc (.cells #[.string ByteArray.empty, .int .i64 0, .int .i64 0, .slice a6 0 k6] 24)).heap.size = w6.heap.size + 1 := by simp
          clear HC2 c0 c1 c2 c3 y5 t5 s5 b6 l6 HT5 HS5 hb6
          go_wp2_with fail
          refine (HEf.out _ B6).mono ?_
          rintro e w7 ⟨rfl, b7⟩
          rw [hz6b] at b7
          have B7 := B6.trans (b7.mono (by omega))
          have hz7 := b7.size
          rw [hz6b] at hz7
          have y7 := y6.below b7 (by omega)
          have t7 := t6.below b7 (by omega)
          have s7 := s6.below b7 (by omega)
          have r7 := r6.below b7 (by omega)
          have b7' := b7
          rw [← hz6b] at b7'
          have HS7 : Hid (IsLn w7 _ (netL l) _) := HS6.out.below b7'
          have hEn := sameEntry_any ByteArray.empty 0 0 _ _ _ _ ([] : List Ln) w7 hTn (HL6.out.below b7') (HT6.out.below b7')
          have HEn : Hid (Calls _ _ _ _ _) := hEn
          clear hEn HL6 HT6 HS6 b7 b7' y6 t6 s6 r6 hz6b
          have d0 := r7.c0
          have d1 := r7.c1
          have d2 := r7.c2
          have d3 := r7.c3
          have e0 := t7.c0
          have e1 := t7.c1
          have e2 := t7.c2
          have e3 := t7.c3
          go_wp2_with fail
          refine HEn.out.mono ?_
          rintro e w8 ⟨rfl, b8⟩
          have B8 := B7.trans (b8.mono (by omega))
          have hz8 := b8.size
          have y8 := y7.below b8 (by omega)
          have s8 := s7.below b8 (by omega)
          have HS8 : Hid (IsLn w8 _ (netL l) _) := HS7.out.below b8
          clear HEn b8 y7 t7 s7 r7 d0 d1 d2 d3 e0 e1 e2 e3 HS7
          have c0 := y8.c0
          have c1 := y8.c1
          have c2 := y8.c2
          have c3 := y8.c3
          go_wp2_with fail
          refine (HC3.out w8 B8).mono ?_
          rintro e w9 ⟨a9, k9, rfl, l9, b9⟩
          have hz9 := b9.size
          have B9 := (B8.trans (b9.mono B8.size)).alloc (by omega) (.cells #[.string r, .int .i64 en, .int .i64 pe, .slice a9 (netL l).length k9] 24)
          have s9 := (s8.below b9 (by omega)).alloc (.cells #[.string r, .int .i64 en, .int .i64 pe, .slice a9 (netL l).length k9] 24)
          have r9 := Box4.new w9 r en pe (.slice a9 (netL l).length k9)
          have hb9 : Below w9.heap.size w9 (w9.alloc (.cells #[.string r, .int .i64 en, .int .i64 pe, .slice a9 (netL l).length k9] 24)) := (Below.refl _ w9).alloc (Nat.le_refl _) _
          have HS9 : Hid (IsLn (w9.alloc (.cells #[.string r, .int .i64 en, .int .i64 pe, .slice a9 (netL l).length k9] 24)) _ (netL l) _) := (HS8.out.below b9).below hb9
          have HL9 : Hid (IsLn (w9.alloc (.cells #[.string r, .int .i64 en, .int .i64 pe, .slice a9 (netL l).length k9] 24)) a9 (netL l) k9) := l9.below hb9
          have hz9b : (w9.alloc (.cells #[.string r, .int .i64 en, .int .i64 pe, .slice a9 (netL l).length k9] 24)).heap.size = w9.heap.size + 1 := by simp
          clear HC3 c0 c1 c2 c3 y8 s8 b9 l9 HS8 hb9
          go_wp2_with fail
          refine (HE.out _ B9).mono ?_
          rintro e w10 ⟨rfl, b10⟩
          rw [hz9b] at b10
          have B10 := B9.trans (b10.mono (by omega))
          have hz10 := b10.size
          rw [hz9b] at hz10
          have s10 := s9.below b10 (by omega)
          have r10 := r9.below b10 (by omega)
          have b10' := b10
          rw [← hz9b] at b10'
          have hEn := sameEntry_any r en pe _ _ _ _ (netL l) w10 hSn (HL9.out.below b10') (HS9.out.below b10')
          have HEn : Hid (Calls _ _ _ _ _) := hEn
          clear hEn HL9 HS9 b10 b10' s9 r9 hz9b
          have d0 := r10.c0
          have d1 := r10.c1
          have d2 := r10.c2
          have d3 := r10.c3
          have e0 := s10.c0
          have e1 := s10.c1
          have e2 := s10.c2
          have e3 := s10.c3
          go_wp2_with fail
          refine HEn.out.mono ?_
          rintro e w11 ⟨rfl, b11⟩
          have B11 := B10.trans (b11.mono (by omega))
          clear HEn b11 s10 r10 d0 d1 d2 d3 e0 e1 e2 e3
          go_wp2
          go_ret
          exact ⟨rfl, B11⟩
    · go_wp2_with fail
      refine HSm.out.mono ?_
      rintro e u1 ⟨vu, rfl, ru, bu⟩
      obtain ⟨ua, uc, rfl, hu⟩ := ru.isLn
      have Bu := B2.trans (bu.mono B2.size)
      have hzu := bu.size
      have yu := y2.below bu (by omega)
      have xtu := xt.below bu (by omega)
      have xsu := xs.below bu (by omega)
      have HU1 : Hid (LnRow u1 W.heap.size (.slice ua (curSums l).length uc) (curSums l)) := ru
      clear c0 c1 c2 c3 ru hu bu y2 xt xs HSm
      have c3 := yu.c3
      go_wp2_with fail
      refine (HGr.out u1 Bu).mono ?_
      rintro e u2 ⟨vg, rfl, rg, bg⟩
      obtain ⟨ga, gc, rfl, hgL⟩ := rg.isLn
      have Bg := Bu.trans (bg.mono Bu.size)
      have hzg := bg.size
      have yg := yu.below bg (by omega)
      have xtg := xtu.below bg (by omega)
      have xsg := xsu.below bg (by omega)
      have HU2 : Hid (LnRow u2 W.heap.size (.slice ua (curSums l).length uc) (curSums l)) := LnRow.below HU1.out bg
      have HG2 : Hid (IsLn u2 ga (grp l) gc) := hgL
      clear c3 rg hgL bg yu xtu xsu HGr HU1
      obtain ⟨i0, hi, hz0, hz1, hz2⟩ := info_parts ln_info
      go_wp2
      go_loopw [7, 13] (fun s i wr => ∃ k : Nat, k ≤ (grp l).length ∧ i = .int .i64 k ∧ Hid (LnRow wr u2.heap.size s (((grp l).take k).filter fun x => !nullL x)) ∧ Below u2.heap.size u2 wr) (fun _ i _ => (grp l).length - (intOf i).toNat)
      case atStart => exact ⟨0, Nat.zero_le _, rfl, LnRow.nil _ _, Below.refl _ _⟩
      case round =>
        obtain ⟨k, hk, rfl, R, BW⟩ := hrel
        have hzr := BW.size
        by_cases hlt : k < (grp l).length
        · rcases HG2.out.lies with h0 | ⟨gb, go, rfl, hgb, hgc⟩
          · rw [h0] at hlt; simp at hlt
          have hn := (hgc k hlt).below BW hgb
          have hst : ((grp l).take (k + 1)).filter (fun x => !nullL x) = ((grp l).take k).filter (fun x => !nullL x) ++ [(grp l).getD k ln0].filter (fun x => !nullL x) := by rw [lns_take (grp l) k hlt, List.filter_append]
          have hfl : (((grp l).take k).filter fun x => !nullL x).length ≤ 20 := by
            have := List.length_filter_le (fun x => !nullL x) ((grp l).take k)
            rw [List.length_take] at this
            omega
          generalize (grp l).getD k ln0 = x at *
          generalize ((grp l).take k).filter (fun x => !nullL x) = fs at *
          have Hst : Hid (_ = fs ++ [x].filter (fun x => !nullL x)) := hst
          clear hst hgc
          obtain ⟨x0, x1, x2⟩ := x
          obtain ⟨c0, c1, c2⟩ := hn
          simp only at c0 c1 c2
          have j0 : (0 : Int) ≤ k := by omega
          have j1 : (k : Int) < (grp l).length := by omega
          by_cases g : x2 = 0
          · have eqs : ((grp l).take (k + 1)).filter (fun x => !nullL x) = fs := by
              rw [Hst.out, filter_out (p := nullL) (by simp [nullL, g]), List.append_nil]
            have HN0 := R.out
            rw [← eqs] at HN0
            have HN : Hid (LnRow _ _ _ _) := HN0
            subst g
            clear Hst R HN0 eqs
            go_wp2
            go_roundw
            case rel => exact ⟨k + 1, by omega, by go_num, HN, BW⟩
            case measure => simp [intOf]; omega
          · have g' : (x2 != 0) = true := by simpa using g
            have e1 : [(⟨x0, x1, x2⟩ : Ln)].filter (fun x => !nullL x) = [⟨x0, x1, x2⟩] := filter_in (p := nullL) (by simp [nullL, g])
            have Hm3 : Hid (u2.heap.size ≤ (wr.alloc (.cells #[.string x0, .string x1, .int .i64 x2] 30)).heap.size) := by unfold Hid; simp; omega
            have Hm1 : Hid (fs.length + 1 ≤ maxLen) := by unfold Hid maxLen; omega
            have Hm2 : Hid ((fs.length + 1) * 40 ≤ 140737488355328) := by unfold Hid; omega
            have hone : ∀ u ∈ ([.string x0, .string x1, .int .i64 x2] : List Value), u.oneCell' = true := by intro u hu; simp at hu; rcases hu with rfl | rfl | rfl <;> rfl
            have BW2 := BW.alloc hzr (.cells #[.string x0, .string x1, .int .i64 x2] 30)
            have hoj := R.out.own
            go_wp2_with (at_builtin; refine wpList_append_own _ rfl _ _ 22 rfl u2.heap.size 30 i0 (.agg #[.string ByteArray.empty, .string ByteArray.empty, .int .i64 0]) 3 40 Tryd.underlying22 hi hz0 hz1 hz2 rfl (by decide) _ _ _ rfl (World.ownsRow.alloc R.out _) ⟨wr.heap.size, 0, none⟩ 1 1 [.string x0, .string x1, .int .i64 x2] rfl rfl (cells_three _ _ _ _ _ _ rfl) hone Hm1.out Hm2.out Hm3.out ?_)
            intro v' w3 hown hgrow _
            have B4 : Below u2.heap.size u2 w3 := BW2.grown hgrow (by simp; omega) (fun j e => hoj j e)
            have HN : Hid (LnRow w3 u2.heap.size v' (((grp l).take (k + 1)).filter fun x => !nullL x)) := by
              unfold Hid
              rw [Hst.out, e1]
              unfold LnRow
              rw [lnRow_append, lnRow_one, List.length_append]
              exact hown
            clear hown hgrow R Hst
            go_wp2
            go_roundw
            case rel => exact ⟨k + 1, by omega, by go_num, HN, B4⟩
            case measure => simp [intOf]; omega
        · have hk2 : k = (grp l).length := by omega
          subst hk2
          have rn := R.out
          rw [List.take_length] at rn
          have rn2 : LnRow wr u2.heap.size _ (netL l) := rn
          obtain ⟨na, nc, rfl, _⟩ := rn2.isLn
          have yr := yg.below BW (by omega)
          have tr := xtg.below BW (by omega)
          have sr := xsg.below BW (by omega)
          have Br := Bg.trans (BW.mono (by omega))
          have Hur : LnRow wr W.heap.size (.slice ua (curSums l).length uc) (curSums l) := LnRow.below HU2.out BW
          have d0 := yr.c0
          have d1 := yr.c1
          have d2 := yr.c2
          have d3 := yr.c3
          have e0 := sr.c0
          have e1 := sr.c1
          have e2 := sr.c2
          have e3 := sr.c3
          have f0 := sr.fz 0
          have f1 := sr.fz 1
          have f2 := sr.fz 2
          have f3 := sr.fz 3
          have sv : Box4 (((((wr.setCell ⟨w1.heap.size + 1, 0, none⟩ (.string r)).setCell ⟨w1.heap.size + 1, 1, none⟩ (.int .i64 en)).setCell ⟨w1.heap.size + 1, 2, none⟩ (.int .i64 pe)).setCell ⟨w1.heap.size + 1, 3, none⟩ (.slice a l.length cap)).setCell ⟨w1.heap.size + 1, 3, none⟩ (.slice na (netL l).length nc)) (w1.heap.size + 1) r en pe (.slice na (netL l).length nc) := (sr.set r en pe (.slice a l.length cap)).put3 (.slice na (netL l).length nc)
          have tv : Box4 (((((wr.setCell ⟨w1.heap.size + 1, 0, none⟩ (.string r)).setCell ⟨w1.heap.size + 1, 1, none⟩ (.int .i64 en)).setCell ⟨w1.heap.size + 1, 2, none⟩ (.int .i64 pe)).setCell ⟨w1.heap.size + 1, 3, none⟩ (.slice a l.length cap)).setCell ⟨w1.heap.size + 1, 3, none⟩ (.slice na (netL l).length nc)) w1.heap.size ByteArray.empty 0 0 (.slice none 0 0) := (((((tr.other (b' := w1.heap.size + 1) (o := 0) (by omega)).other (b' := w1.heap.size + 1) (o := 1) (by omega)).other (b' := w1.heap.size + 1) (o := 2) (by omega)).other (b' := w1.heap.size + 1) (o := 3) (by omega)).other (b' := w1.heap.size + 1) (o := 3) (by omega))
          have yv : Box4 (((((wr.setCell ⟨w1.heap.size + 1, 0, none⟩ (.string r)).setCell ⟨w1.heap.size + 1, 1, none⟩ (.int .i64 en)).setCell ⟨w1.heap.size + 1, 2, none⟩ (.int .i64 pe)).setCell ⟨w1.heap.size + 1, 3, none⟩ (.slice a l.length cap)).setCell ⟨w1.heap.size + 1, 3, none⟩ (.slice na (netL l).length nc)) w.heap.size r en pe (.slice a l.length cap) := (((((yr.other (b' := w1.heap.size + 1) (o := 0) (by omega)).other (b' := w1.heap.size + 1) (o := 1) (by omega)).other (b' := w1.heap.size + 1) (o := 2) (by omega)).other (b' := w1.heap.size + 1) (o := 3) (by omega)).other (b' := w1.heap.size + 1) (o := 3) (by omega))
          have rv : LnRow (((((wr.setCell ⟨w1.heap.size + 1, 0, none⟩ (.string r)).setCell ⟨w1.heap.size + 1, 1, none⟩ (.int .i64 en)).setCell ⟨w1.heap.size + 1, 2, none⟩ (.int .i64 pe)).setCell ⟨w1.heap.size + 1, 3, none⟩ (.slice a l.length cap)).setCell ⟨w1.heap.size + 1, 3, none⟩ (.slice na (netL l).length nc)) u2.heap.size (.slice na (netL l).length nc) (netL l) := (LnRow.setOther (b := w1.heap.size + 1) (o := 3) (LnRow.setOther (b := w1.heap.size + 1) (o := 3) (LnRow.setOther (b := w1.heap.size + 1) (o := 2) (LnRow.setOther (b := w1.heap.size + 1) (o := 1) (LnRow.setOther (b := w1.heap.size + 1) (o := 0) rn2 (by omega)) (by omega)) (by omega)) (by omega)) (by omega))
          have uv : LnRow (((((wr.setCell ⟨w1.heap.size + 1, 0, none⟩ (.string r)).setCell ⟨w1.heap.size + 1, 1, none⟩ (.int .i64 en)).setCell ⟨w1.heap.size + 1, 2, none⟩ (.int .i64 pe)).setCell ⟨w1.heap.size + 1, 3, none⟩ (.slice a l.length cap)).setCell ⟨w1.heap.size + 1, 3, none⟩ (.slice na (netL l).length nc)) W.heap.size (.slice ua (curSums l).length uc) (curSums l) := (LnRow.setOther (b := w1.heap.size + 1) (o := 3) (LnRow.setOther (b := w1.heap.size + 1) (o := 3) (LnRow.setOther (b := w1.heap.size + 1) (o := 2) (LnRow.setOther (b := w1.heap.size + 1) (o := 1) (LnRow.setOther (b := w1.heap.size + 1) (o := 0) Hur (by omega)) (by omega)) (by omega)) (by omega)) (by omega))
          have Bv : Below w.heap.size w (((((wr.setCell ⟨w1.heap.size + 1, 0, none⟩ (.string r)).setCell ⟨w1.heap.size + 1, 1, none⟩ (.int .i64 en)).setCell ⟨w1.heap.size + 1, 2, none⟩ (.int .i64 pe)).setCell ⟨w1.heap.size + 1, 3, none⟩ (.slice a l.length cap)).setCell ⟨w1.heap.size + 1, 3, none⟩ (.slice na (netL l).length nc)) := (((((Br.setCell (p := ⟨w1.heap.size + 1, 0, none⟩) (by simp only; omega) _).setCell (p := ⟨w1.heap.size + 1, 1, none⟩) (by simp only; omega) _).setCell (p := ⟨w1.heap.size + 1, 2, none⟩) (by simp only; omega) _).setCell (p := ⟨w1.heap.size + 1, 3, none⟩) (by simp only; omega) _).setCell (p := ⟨w1.heap.size + 1, 3, none⟩) (by simp only; omega) _)
          have hVs : (((((wr.setCell ⟨w1.heap.size + 1, 0, none⟩ (.string r)).setCell ⟨w1.heap.size + 1, 1, none⟩ (.int .i64 en)).setCell ⟨w1.heap.size + 1, 2, none⟩ (.int .i64 pe)).setCell ⟨w1.heap.size + 1, 3, none⟩ (.slice a l.length cap)).setCell ⟨w1.heap.size + 1, 3, none⟩ (.slice na (netL l).length nc)).heap.size = wr.heap.size := by simp
          obtain ⟨V, hV⟩ : ∃ V, (((((wr.setCell ⟨w1.heap.size + 1, 0, none⟩ (.string r)).setCell ⟨w1.heap.size + 1, 1, none⟩ (.int .i64 en)).setCell ⟨w1.heap.size + 1, 2, none⟩ (.int .i64 pe)).setCell ⟨w1.heap.size + 1, 3, none⟩ (.slice a l.length cap)).setCell ⟨w1.heap.size + 1, 3, none⟩ (.slice na (netL l).length nc)) = V := ⟨_, rfl⟩
          rw [hV] at sv tv yv rv uv Bv hVs
          have hVz : wr.heap.size ≤ V.heap.size := by rw [hVs]; exact Nat.le_refl _
          clear hVs
          clear B2 rn rn2 R Hur
          have hUn : (curSums l).length ≤ 1000 := by have := grp_length (l.map bareL); rw [List.length_map] at this; unfold curSums; omega
          have hSn : (netL l).length ≤ 1000 := by have := List.length_filter_le (fun x => !nullL x) (grp l); unfold netL; omega
          rw [enE_zero] at HE
          have HC1 : Hid (∀ V, Below w.heap.size w V → Calls Tryd.prog 8 #[.agg #[.string r, .int .i64 en, .int .i64 pe, .slice a l.length cap]] V fun e w' => ∃ a1 c1, e = .returned (.tuple #[.slice a1 (curSums l).length c1, .nilIface]) ∧ IsLn w' a1 (curSums l) c1 ∧ Below V.heap.size V w') := fun V hV => by
            refine (sums_ok r en pe a cap l V (Hsl.out.below hV) Hbad.out).mono ?_
            rintro e w' ⟨v, rfl, hr, hb⟩
            obtain ⟨a1, c1, rfl, hs⟩ := hr.isLn
            exact ⟨a1, c1, rfl, hs, hb⟩
          have HC3 : Hid (∀ V, Below w.heap.size w V → Calls Tryd.prog 13 #[.agg #[.string r, .int .i64 en, .int .i64 pe, .slice a l.length cap]] V fun e w' => ∃ a1 c1, e = .returned (.tuple #[.agg #[.string r, .int .i64 en, .int .i64 pe, .slice a1 (netL l).length c1], .nilIface]) ∧ IsLn w' a1 (netL l) c1 ∧ Below V.heap.size V w') := fun V hV => by
            refine (net_ok r en pe a cap l V (Hsl.out.below hV) Hbad.out).mono ?_
            rintro e w' ⟨v, rfl, hr, hb⟩
            obtain ⟨a1, c1, rfl, hs⟩ := hr.isLn
            exact ⟨a1, c1, rfl, hs, hb⟩
          have tv2 : Box4 ((((((V.setCell ⟨w1.heap.size, 0, none⟩ (.string r)).setCell ⟨w1.heap.size, 1, none⟩ (.int .i64 en)).setCell ⟨w1.heap.size, 2, none⟩ (.int .i64 pe)).setCell ⟨w1.heap.size, 3, none⟩ (.slice a l.length cap)).setCell ⟨w1.heap.size, 0, none⟩ (.string ref)).setCell ⟨w1.heap.size, 3, none⟩ (.slice none 0 0)) w1.heap.size ref en pe (.slice none 0 0) := ((tv.set r en pe (.slice a l.length cap)).set0 ref).put3 (.slice none 0 0)
          have sv2 : Box4 ((((((V.setCell ⟨w1.heap.size, 0, none⟩ (.string r)).setCell ⟨w1.heap.size, 1, none⟩ (.int .i64 en)).setCell ⟨w1.heap.size, 2, none⟩ (.int .i64 pe)).setCell ⟨w1.heap.size, 3, none⟩ (.slice a l.length cap)).setCell ⟨w1.heap.size, 0, none⟩ (.string ref)).setCell ⟨w1.heap.size, 3, none⟩ (.slice none 0 0)) (w1.heap.size + 1) r en pe (.slice na (netL l).length nc) := ((((((sv.other (b' := w1.heap.size) (o := 0) (by omega)).other (b' := w1.heap.size) (o := 1) (by omega)).other (b' := w1.heap.size) (o := 2) (by omega)).other (b' := w1.heap.size) (o := 3) (by omega)).other (b' := w1.heap.size) (o := 0) (by omega)).other (b' := w1.heap.size) (o := 3) (by omega))
          have yv2 : Box4 ((((((V.setCell ⟨w1.heap.size, 0, none⟩ (.string r)).setCell ⟨w1.heap.size, 1, none⟩ (.int .i64 en)).setCell ⟨w1.heap.size, 2, none⟩ (.int .i64 pe)).setCell ⟨w1.heap.size, 3, none⟩ (.slice a l.length cap)).setCell ⟨w1.heap.size, 0, none⟩ (.string ref)).setCell ⟨w1.heap.size, 3, none⟩ (.slice none 0 0)) w.heap.size r en pe (.slice a l.length cap) := ((((((yv.other (b' := w1.heap.size) (o := 0) (by omega)).other (b' := w1.heap.size) (o := 1) (by omega)).other (b' := w1.heap.size) (o := 2) (by omega)).other (b' := w1.heap.size) (o := 3) (by omega)).other (b' := w1.heap.size) (o := 0) (by omega)).other (b' := w1.heap.size) (o := 3) (by omega))
          have rv2 : LnRow ((((((V.setCell ⟨w1.heap.size, 0, none⟩ (.string r)).setCell ⟨w1.heap.size, 1, none⟩ (.int .i64 en)).setCell ⟨w1.heap.size, 2, none⟩ (.int .i64 pe)).setCell ⟨w1.heap.size, 3, none⟩ (.slice a l.length cap)).setCell ⟨w1.heap.size, 0, none⟩ (.string ref)).setCell ⟨w1.heap.size, 3, none⟩ (.slice none 0 0)) u2.heap.size (.slice na (netL l).length nc) (netL l) := (LnRow.setOther (b := w1.heap.size) (o := 3) (LnRow.setOther (b := w1.heap.size) (o := 0) (LnRow.setOther (b := w1.heap.size) (o := 3) (LnRow.setOther (b := w1.heap.size) (o := 2) (LnRow.setOther (b := w1.heap.size) (o := 1) (LnRow.setOther (b := w1.heap.size) (o := 0) rv (by omega)) (by omega)) (by omega)) (by omega)) (by omega)) (by omega))
          have uv2 : LnRow ((((((V.setCell ⟨w1.heap.size, 0, none⟩ (.string r)).setCell ⟨w1.heap.size, 1, none⟩ (.int .i64 en)).setCell ⟨w1.heap.size, 2, none⟩ (.int .i64 pe)).setCell ⟨w1.heap.size, 3, none⟩ (.slice a l.length cap)).setCell ⟨w1.heap.size, 0, none⟩ (.string ref)).setCell ⟨w1.heap.size, 3, none⟩ (.slice none 0 0)) W.heap.size (.slice ua (curSums l).length uc) (curSums l) := (LnRow.setOther (b := w1.heap.size) (o := 3) (LnRow.setOther (b := w1.heap.size) (o := 0) (LnRow.setOther (b := w1.heap.size) (o := 3) (LnRow.setOther (b := w1.heap.size) (o := 2) (LnRow.setOther (b := w1.heap.size) (o := 1) (LnRow.setOther (b := w1.heap.size) (o := 0) uv (by omega)) (by omega)) (by omega)) (by omega)) (by omega)) (by omega))
          have Bv2 : Below w.heap.size w ((((((V.setCell ⟨w1.heap.size, 0, none⟩ (.string r)).setCell ⟨w1.heap.size, 1, none⟩ (.int .i64 en)).setCell ⟨w1.heap.size, 2, none⟩ (.int .i64 pe)).setCell ⟨w1.heap.size, 3, none⟩ (.slice a l.length cap)).setCell ⟨w1.heap.size, 0, none⟩ (.string ref)).setCell ⟨w1.heap.size, 3, none⟩ (.slice none 0 0)) := ((((((Bv.setCell (p := ⟨w1.heap.size, 0, none⟩) (by simp only; omega) _).setCell (p := ⟨w1.heap.size, 1, none⟩) (by simp only; omega) _).setCell (p := ⟨w1.heap.size, 2, none⟩) (by simp only; omega) _).setCell (p := ⟨w1.heap.size, 3, none⟩) (by simp only; omega) _).setCell (p := ⟨w1.heap.size, 0, none⟩) (by simp only; omega) _).setCell (p := ⟨w1.heap.size, 3, none⟩) (by simp only; omega) _)
          have hVs2 : ((((((V.setCell ⟨w1.heap.size, 0, none⟩ (.string r)).setCell ⟨w1.heap.size, 1, none⟩ (.int .i64 en)).setCell ⟨w1.heap.size, 2, none⟩ (.int .i64 pe)).setCell ⟨w1.heap.size, 3, none⟩ (.slice a l.length cap)).setCell ⟨w1.heap.size, 0, none⟩ (.string ref)).setCell ⟨w1.heap.size, 3, none⟩ (.slice none 0 0)).heap.size = V.heap.size := by simp
          have p0 := yv.c0
          have p1 := yv.c1
          have p2 := yv.c2
          have p3 := yv.c3
          have q0' := tv.c0
          have q1' := tv.c1
          have q2' := tv.c2
          have q3' := tv.c3
          have g0 := tv.fz 0
          have g1 := tv.fz 1
          have g2 := tv.fz 2
          have g3 := tv.fz 3
          obtain ⟨V2, hV2⟩ : ∃ V2, ((((((V.setCell ⟨w1.heap.size, 0, none⟩ (.string r)).setCell ⟨w1.heap.size, 1, none⟩ (.int .i64 en)).setCell ⟨w1.heap.size, 2, none⟩ (.int .i64 pe)).setCell ⟨w1.heap.size, 3, none⟩ (.slice a l.length cap)).setCell ⟨w1.heap.size, 0, none⟩ (.string ref)).setCell ⟨w1.heap.size, 3, none⟩ (.slice none 0 0)) = V2 := ⟨_, rfl⟩
          rw [hV2] at tv2 sv2 yv2 rv2 uv2 Bv2 hVs2
          have hVz2 : V.heap.size ≤ V2.heap.size := by rw [hVs2]; exact Nat.le_refl _
          clear hVs2
          obtain ⟨lt, hlt'⟩ : ∃ lt, l.map turnL = lt := ⟨_, rfl⟩
          have Hlt : Hid (l.map turnL = lt) := hlt'
          have Hltn : Hid (lt.length = l.length) := by unfold Hid; rw [← hlt', List.length_map]
          have hTn : lt.length ≤ 1000 := by rw [Hltn.out]; omega
          have HC2 : Hid (∀ V, Below w.heap.size w V → Calls Tryd.prog 11 #[.agg #[.string r, .int .i64 en, .int .i64 pe, .slice a l.length cap], .string ref] V fun e w' => ∃ a1 c1, e = .returned (.tuple #[.agg #[.string ref, .int .i64 en, .int .i64 pe, .slice a1 lt.length c1], .nilIface]) ∧ IsLn w' a1 lt c1 ∧ Below V.heap.size V w') := fun V hV => by
            have hf : revBad ref l = 0 := by unfold revBad; rw [Hok.out, if_neg (by simp)]; exact Hbad.out
            refine (rev_ok r ref en pe a cap l V (Hsl.out.below hV) hf).mono ?_
            rintro e w' ⟨v, rfl, hr, hb⟩
            rw [hlt'] at hr
            obtain ⟨a1, c1, rfl, hs⟩ := hr.isLn
            exact ⟨a1, c1, rfl, hs, hb⟩
          have HEf := HE
          have Hq2 : Hid (Within mostA l) := q2
          have hli : (l.length : Int) ≤ 20 := by omega
          have Hm0 : Hid ((l.take 0).map turnL = []) := rfl
          clear hlt' rv uv HG2 HU2 q2
          go_wp2
          clear hV hV2 p0 p1 p2 p3 q0' q1' q2' q3' g0 g1 g2 g3 d0 d1 d2 d3 e0 e1 e2 e3 f0 f1 f2 f3 sv tv yv Bv
          go_loopw [14] (fun i wz => ∃ (k : Nat) (v : Value), k ≤ l.length ∧ i = .int .i64 k ∧ Hid (Box4 wz w1.heap.size ref en pe v) ∧ Hid (LnRow wz V2.heap.size v ((l.take k).map turnL)) ∧ Hid (KeepBut w1.heap.size V2 wz) ∧ Below w.heap.size w wz) (fun i _ => l.length - (intOf i).toNat)
          case atStart => exact ⟨0, .slice none 0 0, Nat.zero_le _, rfl, tv2, LnRow.nil _ _, KeepBut.refl _ _, Bv2⟩
          case round =>
            obtain ⟨k, v, hk, rfl, HBx, HRw, HKb, BZ⟩ := hrel
            have hzz := HKb.out.size
            have ye := HKb.out.box yv2 (by omega)
            have de := ye.c3
            by_cases hlt : k < l.length
            · rcases Hsl.out.lies with h0 | ⟨b, off, rfl, hbl, hcl⟩
              · rw [h0] at hlt; simp at hlt
              have hn := (hcl k hlt).below BZ hbl
              have hst : (l.take (k + 1)).map turnL = (l.take k).map turnL ++ [turnL (l.getD k ln0)] := by rw [lns_take l k hlt, List.map_append]; rfl
              have hfl : ((l.take k).map turnL).length = k := by rw [List.length_map, List.length_take]; omega
              have hxw := Hq2.out _ (lns_mem l k hlt)
              generalize l.getD k ln0 = x at *
              generalize (l.take k).map turnL = fs at *
              have Hst : Hid (_ = fs ++ [turnL x]) := hst
              have Hfl : Hid (fs.length = k) := hfl
              obtain ⟨x0, x1, x2⟩ := x
              have hwrap : IntKind.i64.wrap (-x2) = -x2 := by
                simp only [mostA] at hxw
                rw [IntKind.wrap_i64]; omega
              obtain ⟨c0, c1, c2⟩ := hn
              simp only [turnL] at c0 c1 c2 Hst
              obtain ⟨ta, tc, rfl, _⟩ := HRw.out.isLn
              rw [hfl] at HRw HBx
              clear hst hfl hcl hxw
              have j0 : (0 : Int) ≤ k := by omega
              have j1 : (k : Int) < l.length := by omega
              have bx1 := HBx.out.alloc (.cells #[.string x0, .string x1, .int .i64 (-x2)] 30)
              have m3 := bx1.c3
              have ro : World.ownsRow ((wr.alloc (.cells #[.string x0, .string x1, .int .i64 (-x2)] 30)).alloc (.cells #[.string x0, .string x1, .int .i64 (-x2)] 30)) V2.heap.size 30 3 (.slice ta k tc) k (lnRow fs) := by
                have := World.ownsRow.alloc (World.ownsRow.alloc HRw.out (.cells #[.string x0, .string x1, .int .i64 (-x2)] 30)) (.cells #[.string x0, .string x1, .int .i64 (-x2)] 30)
                rw [Hfl.out] at this
                exact this
              have Ho : Hid (World.ownsRow _ _ _ _ _ _ _) := ro
              have hoj : ∀ j, (Value.slice ta k tc).ownBlock = some j → V2.heap.size ≤ j := fun j e => (World.ownsRow.lt ro j e).1
              have hsa : (wr.alloc (.cells #[.string x0, .string x1, .int .i64 (-x2)] 30)).heap.size = wr.heap.size + 1 := by simp
              have Hm3 : Hid (V2.heap.size ≤ ((wr.alloc (.cells #[.string x0, .string x1, .int .i64 (-x2)] 30)).alloc (.cells #[.string x0, .string x1, .int .i64 (-x2)] 30)).heap.size) := by unfold Hid; simp; omega
              have Hm1 : Hid (k + 1 ≤ maxLen) := by unfold Hid maxLen; omega
              have Hm2 : Hid ((k + 1) * 40 ≤ 140737488355328) := by unfold Hid; omega
              have hone : ∀ u ∈ ([.string x0, .string x1, .int .i64 (-x2)] : List Value), u.oneCell' = true := by intro u hu; simp at hu; rcases hu with rfl | rfl | rfl <;> rfl
              have K2 := (HKb.out.alloc (.cells #[.string x0, .string x1, .int .i64 (-x2)] 30)).alloc (.cells #[.string x0, .string x1, .int .i64 (-x2)] 30)
              have BZ2 := (BZ.alloc BZ.size (.cells #[.string x0, .string x1, .int .i64 (-x2)] 30)).alloc (by simp; omega) (.cells #[.string x0, .string x1, .int .i64 (-x2)] 30)
              have bx2 := bx1.alloc (.cells #[.string x0, .string x1, .int .i64 (-x2)] 30)
              have c3x := cells_three (wr.alloc (.cells #[.string x0, .string x1, .int .i64 (-x2)] 30)) x0 x1 (-x2) (wr.heap.size + 1) 30 hsa.symm
              clear ro
              go_wp2_with (at_builtin; refine wpList_append_own _ rfl _ _ 22 rfl V2.heap.size 30 i0 (.agg #[.string ByteArray.empty, .string ByteArray.empty, .int .i64 0]) 3 40 Tryd.underlying22 hi hz0 hz1 hz2 rfl (by decide) _ _ _ rfl Ho.out ⟨wr.heap.size + 1, 0, none⟩ 1 1 [.string x0, .string x1, .int .i64 (-x2)] rfl rfl c3x hone Hm1.out Hm2.out Hm3.out ?_)
              intro v' w3 hown hgrow _
              have r3 : LnRow w3 V2.heap.size v' ((l.take (k + 1)).map turnL) := by
                rw [Hst.out]
                unfold LnRow
                rw [lnRow_append, lnRow_one, List.length_append, Hfl.out]
                exact hown
              obtain ⟨a3, k3, rfl, _⟩ := r3.isLn
              generalize ((l.take (k + 1)).map turnL).length = mm at *
              have K3 := (K2.grown hgrow hoj).set 3 (.slice a3 mm k3)
              have B3 := (BZ2.grown hgrow (by simp; omega) (fun j e => by have := hoj j e; omega)).setCell (p := ⟨w1.heap.size, 3, none⟩) (by simp only; omega) (.slice a3 mm k3)
              have bx3 := bx2.grow hgrow (fun j e => by have := hoj j e; omega)
              have n3 := bx3.c3
              have z3 := bx3.fz 3
              have bx4 := bx3.put3 (.slice a3 mm k3)
              have r4 := r3.setOther (b := w1.heap.size) (o := 3) (u := .slice a3 mm k3) (by omega)
              have HB4 : Hid (Box4 _ _ _ _ _ _) := bx4
              have HR4 : Hid (LnRow _ _ _ _) := r4
              have HK4 : Hid (KeepBut _ _ _) := K3
              clear hown hgrow r3 bx3 bx4 r4 K3 K2 BZ2 bx2 bx1 Ho HRw HBx HKb c3x m3
              go_wp2
              go_roundw
              case rel => exact ⟨k + 1, .slice a3 mm k3, by omega, by go_num, HB4.out, HR4.out, HK4.out, B3⟩
              case measure => simp [intOf]; omega
            · have hk2 : k = l.length := by omega
              subst hk2
              have rt := HRw.out
              rw [List.take_length, Hlt.out] at rt
              obtain ⟨ta, tc, rfl, hts⟩ := rt.isLn
              have B2 := BZ
              have y2 := ye
              have xt := HBx.out
              have xs := HKb.out.box sv2 (by omega)
              have HU : Hid (IsLn wr ua (curSums l) uc) := (HKb.out.row uv2 (by omega)).isLn'.2
              have HT : Hid (IsLn wr ta lt tc) := hts
              have HS : Hid (IsLn wr na (netL l) nc) := (HKb.out.row rv2 (by omega)).isLn'.2
              clear rt hts HRw HBx HKb BZ ye rv2 uv2 tv2 sv2 yv2 Bv2
              have c0 := y2.c0
              have c1 := y2.c1
              have c2 := y2.c2
              have c3 := y2.c3
              go_wp2_with fail
              refine (HC1.out _ B2).mono ?_
              rintro e w3 ⟨a3, k3, rfl, l3, b3⟩
              have B3 := B2.trans (b3.mono B2.size)
              have hz3 := b3.size
              have y3 := y2.below b3 (by omega)
              have t3 := xt.below b3 (by omega)
              have s3 := xs.below b3 (by omega)
              have HU3 : Hid (IsLn w3 _ (curSums l) _) := HU.out.below b3
              have HT3 : Hid (IsLn w3 _ lt _) := HT.out.below b3
              have HS3 : Hid (IsLn w3 _ (netL l) _) := HS.out.below b3
              have HL3 : Hid (IsLn w3 a3 (curSums l) k3) := l3
              clear HC1 c0 c1 c2 c3 y2 xt xs b3 l3 HU HT HS
              go_wp2_with fail
              refine (HE.out w3 B3).mono ?_
              rintro e w4 ⟨rfl, b4⟩
              have B4 := B3.trans (b4.mono B3.size)
              have hz4 := b4.size
              have y4 := y3.below b4 (by omega)
              have t4 := t3.below b4 (by omega)
              have s4 := s3.below b4 (by omega)
              have HT4 : Hid (IsLn w4 _ lt _) := HT3.out.below b4
              have HS4 : Hid (IsLn w4 _ (netL l) _) := HS3.out.below b4
              have hLL := sameLines_any _ _ _ _ (curSums l) w4 hUn (HL3.out.below b4) (HU3.out.below b4)
              have HLL : Hid (Calls _ _ _ _ _) := hLL
              clear hLL HL3 HU3 b4 y3 t3 s3 HT3 HS3
              go_wp2_with fail
              refine HLL.out.mono ?_
              rintro e w5 ⟨rfl, b5⟩
              have B5 := B4.trans (b5.mono B4.size)
              have hz5 := b5.size
              have y5 := y4.below b5 (by omega)
              have t5 := t4.below b5 (by omega)
              have s5 := s4.below b5 (by omega)
              have HT5 : Hid (IsLn w5 _ lt _) := HT4.out.below b5
              have HS5 : Hid (IsLn w5 _ (netL l) _) := HS4.out.below b5
              clear HLL b5 y4 t4 s4 HT4 HS4
              have c0 := y5.c0
              have c1 := y5.c1
              have c2 := y5.c2
              have c3 := y5.c3
              go_wp2_with fail
              refine (HC2.out w5 B5).mono ?_
              rintro e w6 ⟨a6, k6, rfl, l6, b6⟩
              have hz6 := b6.size
              have B6 := (B5.trans (b6.mono B5.size)).alloc (by omega) (.cells #[.string ref, .int .i64 en, .int .i64 pe, .slice a6 lt.length k6] 24)
              have y6 := (y5.below b6 (by omega)).alloc (.cells #[.string ref, .int .i64 en, .int .i64 pe, .slice a6 lt.length k6] 24)
              have t6 := (t5.below b6 (by omega)).alloc (.cells #[.string ref, .int .i64 en, .int .i64 pe, .slice a6 lt.length k6] 24)
              have s6 := (s5.below b6 (by omega)).alloc (.cells #[.string ref, .int .i64 en, .int .i64 pe, .slice a6 lt.length k6] 24)
              have r6 := Box4.new w6 ref en pe (.slice a6 lt.length k6)
              have hb6 : Below w6.heap.size w6 (w6.alloc (.cells #[.string ref, .int .i64 en, .int .i64 pe, .slice a6 lt.length k6] 24)) := (Below.refl _ w6).alloc (Nat.le_refl _) _
              have HT6 : Hid (IsLn (w6.alloc (.cells #[.string ref, .int .i64 en, .int .i64 pe, .slice a6 lt.length k6] 24)) _ lt _) := (HT5.out.below b6).below hb6
              have HS6 : Hid (IsLn (w6.alloc (.cells #[.string ref, .int .i64 en, .int .i64 pe, .slice a6 lt.length k6] 24)) _ (netL l) _) := (HS5.out.below b6).below hb6
              have HL6 : Hid (IsLn (w6.alloc (.cells #[.string ref, .int .i64 en, .int .i64 pe, .slice a6 lt.length k6] 24)) a6 lt k6) := l6.below hb6
              have hz6b : (w6.alloc (.cells #[.string ref, .int .i64 en, .int .i64 pe, .slice a6 lt.length k6] 24)).heap.size = w6.heap.size + 1 := by simp
              clear HC2 c0 c1 c2 c3 y5 t5 s5 b6 l6 HT5 HS5 hb6
              go_wp2_with fail
              refine (HEf.out _ B6).mono ?_
              rintro e w7 ⟨rfl, b7⟩
              rw [hz6b] at b7
              have B7 := B6.trans (b7.mono (by omega))
              have hz7 := b7.size
              rw [hz6b] at hz7
              have y7 := y6.below b7 (by omega)
              have t7 := t6.below b7 (by omega)
              have s7 := s6.below b7 (by omega)
              have r7 := r6.below b7 (by omega)
              have b7' := b7
              rw [← hz6b] at b7'
              have HS7 : Hid (IsLn w7 _ (netL l) _) := HS6.out.below b7'
              have hEn := sameEntry_any ref en pe _ _ _ _ lt w7 hTn (HL6.out.below b7') (HT6.out.below b7')
              have HEn : Hid (Calls _ _ _ _ _) := hEn
              clear hEn HL6 HT6 HS6 b7 b7' y6 t6 s6 r6 hz6b
              have d0 := r7.c0
              have d1 := r7.c1
              have d2 := r7.c2
              have d3 := r7.c3
              have e0 := t7.c0
              have e1 := t7.c1
              have e2 := t7.c2
              have e3 := t7.c3
              go_wp2_with fail
              refine HEn.out.mono ?_
              rintro e w8 ⟨rfl, b8⟩
              have B8 := B7.trans (b8.mono (by omega))
              have hz8 := b8.size
              have y8 := y7.below b8 (by omega)
              have s8 := s7.below b8 (by omega)
              have HS8 : Hid (IsLn w8 _ (netL l) _) := HS7.out.below b8
              clear HEn b8 y7 t7 s7 r7 d0 d1 d2 d3 e0 e1 e2 e3 HS7
              have c0 := y8.c0
              have c1 := y8.c1
              have c2 := y8.c2
              have c3 := y8.c3
              go_wp2_with fail
              refine (HC3.out w8 B8).mono ?_
              rintro e w9 ⟨a9, k9, rfl, l9, b9⟩
              have hz9 := b9.size
              have B9 := (B8.trans (b9.mono B8.size)).alloc (by omega) (.cells #[.string r, .int .i64 en, .int .i64 pe, .slice a9 (netL l).length k9] 24)
              have s9 := (s8.below b9 (by omega)).alloc (.cells #[.string r, .int .i64 en, .int .i64 pe, .slice a9 (netL l).length k9] 24)
              have r9 := Box4.new w9 r en pe (.slice a9 (netL l).length k9)
              have hb9 : Below w9.heap.size w9 (w9.alloc (.cells #[.string r, .int .i64 en, .int .i64 pe, .slice a9 (netL l).length k9] 24)) := (Below.refl _ w9).alloc (Nat.le_refl _) _
              have HS9 : Hid (IsLn (w9.alloc (.cells #[.string r, .int .i64 en, .int .i64 pe, .slice a9 (netL l).length k9] 24)) _ (netL l) _) := (HS8.out.below b9).below hb9
              have HL9 : Hid (IsLn (w9.alloc (.cells #[.string r, .int .i64 en, .int .i64 pe, .slice a9 (netL l).length k9] 24)) a9 (netL l) k9) := l9.below hb9
              have hz9b : (w9.alloc (.cells #[.string r, .int .i64 en, .int .i64 pe, .slice a9 (netL l).length k9] 24)).heap.size = w9.heap.size + 1 := by simp
              clear HC3 c0 c1 c2 c3 y8 s8 b9 l9 HS8 hb9
              go_wp2_with fail
              refine (HE.out _ B9).mono ?_
              rintro e w10 ⟨rfl, b10⟩
              rw [hz9b] at b10
              have B10 := B9.trans (b10.mono (by omega))
              have hz10 := b10.size
              rw [hz9b] at hz10
              have s10 := s9.below b10 (by omega)
              have r10 := r9.below b10 (by omega)
              have b10' := b10
              rw [← hz9b] at b10'
              have hEn := sameEntry_any r en pe _ _ _ _ (netL l) w10 hSn (HL9.out.below b10') (HS9.out.below b10')
              have HEn : Hid (Calls _ _ _ _ _) := hEn
              clear hEn HL9 HS9 b10 b10' s9 r9 hz9b
              have d0 := r10.c0
              have d1 := r10.c1
              have d2 := r10.c2
              have d3 := r10.c3
              have e0 := s10.c0
              have e1 := s10.c1
              have e2 := s10.c2
              have e3 := s10.c3
              go_wp2_with fail
              refine HEn.out.mono ?_
              rintro e w11 ⟨rfl, b11⟩
              have B11 := B10.trans (b11.mono (by omega))
              clear HEn b11 s10 r10 d0 d1 d2 d3 e0 e1 e2 e3
              go_wp2
              go_ret
              exact ⟨rfl, B11⟩
  · have h1' : (bad == 0) = false := by simpa using h1
    have HC1 : Hid (∀ V, Below w.heap.size w V → Calls Tryd.prog 8 #[.agg #[.string r, .int .i64 en, .int .i64 pe, .slice a l.length cap]] V fun e w' => ∃ a1 c1, e = .returned (.tuple #[.slice a1 0 c1, enE bad]) ∧ IsLn w' a1 [] c1 ∧ Below V.heap.size V w') := fun V hV => by
      refine (sums_bad r en pe a cap l V (Hsl.out.below hV) (by rw [Hbad.out]; exact h1)).mono ?_
      rintro e w' ⟨rfl, hb⟩
      exact ⟨none, 0, by rw [Hbad.out], isLn_nil _, hb⟩
    have HC3 : Hid (∀ V, Below w.heap.size w V → Calls Tryd.prog 13 #[.agg #[.string r, .int .i64 en, .int .i64 pe, .slice a l.length cap]] V fun e w' => ∃ a1 c1, e = .returned (.tuple #[.agg #[.string ByteArray.empty, .int .i64 0, .int .i64 0, .slice a1 0 c1], enE bad]) ∧ IsLn w' a1 [] c1 ∧ Below V.heap.size V w') := fun V hV => by
      refine (net_bad r en pe a cap l V (Hsl.out.below hV) (by rw [Hbad.out]; exact h1)).mono ?_
      rintro e w' ⟨rfl, hb⟩
      exact ⟨none, 0, by rw [Hbad.out], isLn_nil _, hb⟩
    have HU : Hid (IsLn W none [] 0) := isLn_nil _
    have HT : Hid (IsLn W none [] 0) := isLn_nil _
    have HS : Hid (IsLn W none [] 0) := isLn_nil _
    have hUn : ([] : List Ln).length ≤ 1000 := by simp
    have hTn : ([] : List Ln).length ≤ 1000 := by simp
    have hSn : ([] : List Ln).length ≤ 1000 := by simp
    have HC2f : ∀ f, revBad ref l = f → f ≠ 0 → Hid (∀ V, Below w.heap.size w V → Calls Tryd.prog 11 #[.agg #[.string r, .int .i64 en, .int .i64 pe, .slice a l.length cap], .string ref] V fun e w' => ∃ a1 c1, e = .returned (.tuple #[.agg #[.string ByteArray.empty, .int .i64 0, .int .i64 0, .slice a1 0 c1], enE f]) ∧ IsLn w' a1 [] c1 ∧ Below V.heap.size V w') := fun f hf h0 V hV => by
      refine (rev_bad r ref en pe a cap l V (Hsl.out.below hV) (by rw [hf]; exact h0)).mono ?_
      rintro e w' ⟨rfl, hb⟩
      exact ⟨none, 0, by rw [hf], isLn_nil _, hb⟩
    cases ok
    · have HC2 := HC2f 2 (by unfold revBad; rw [Hok.out, if_pos rfl]) (by decide)
      have HEf : Hid (∀ V, Below w.heap.size w V → Calls Tryd.prog 9 #[enE 2, .int .i64 2] V fun e w' => e = .returned (.bool true) ∧ Below V.heap.size V w') := fun V hV => err_true (en_errIs 2 (by omega)) V (Hg.out V hV)
      clear HC2f
      obtain ⟨ev, hev⟩ : ∃ ev, enE bad = ev := ⟨_, rfl⟩
      obtain ⟨evf, hevf⟩ : ∃ evf, enE 2 = evf := ⟨_, rfl⟩
      rw [hev] at HC1 HC3 HE
      rw [hevf] at HC2 HEf
      clear hev hevf
      have c0 := y2.c0
      have c1 := y2.c1
      have c2 := y2.c2
      have c3 := y2.c3
      go_wp2_with fail
      refine (HC1.out _ B2).mono ?_
      rintro e w3 ⟨a3, k3, rfl, l3, b3⟩
      have B3 := B2.trans (b3.mono B2.size)
      have hz3 := b3.size
      have y3 := y2.below b3 (by omega)
      have t3 := xt.below b3 (by omega)
      have s3 := xs.below b3 (by omega)
      have HU3 : Hid (IsLn w3 _ ([] : List Ln) _) := HU.out.below b3
      have HT3 : Hid (IsLn w3 _ ([] : List Ln) _) := HT.out.below b3
      have HS3 : Hid (IsLn w3 _ ([] : List Ln) _) := HS.out.below b3
      have HL3 : Hid (IsLn w3 a3 ([] : List Ln) k3) := l3
      clear HC1 c0 c1 c2 c3 y2 xt xs b3 l3 HU HT HS
      go_wp2_with fail
      refine (HE.out w3 B3).mono ?_
      rintro e w4 ⟨rfl, b4⟩
      have B4 := B3.trans (b4.mono B3.size)
      have hz4 := b4.size
      have y4 := y3.below b4 (by omega)
      have t4 := t3.below b4 (by omega)
      have s4 := s3.below b4 (by omega)
      have HT4 : Hid (IsLn w4 _ ([] : List Ln) _) := HT3.out.below b4
      have HS4 : Hid (IsLn w4 _ ([] : List Ln) _) := HS3.out.below b4
      have hLL := sameLines_any _ _ _ _ ([] : List Ln) w4 hUn (HL3.out.below b4) (HU3.out.below b4)
      have HLL : Hid (Calls _ _ _ _ _) := hLL
      clear hLL HL3 HU3 b4 y3 t3 s3 HT3 HS3
      go_wp2_with fail
      refine HLL.out.mono ?_
      rintro e w5 ⟨rfl, b5⟩
      have B5 := B4.trans (b5.mono B4.size)
      have hz5 := b5.size
      have y5 := y4.below b5 (by omega)
      have t5 := t4.below b5 (by omega)
      have s5 := s4.below b5 (by omega)
      have HT5 : Hid (IsLn w5 _ ([] : List Ln) _) := HT4.out.below b5
      have HS5 : Hid (IsLn w5 _ ([] : List Ln) _) := HS4.out.below b5
      clear HLL b5 y4 t4 s4 HT4 HS4
      have c0 := y5.c0
      have c1 := y5.c1
      have c2 := y5.c2
      have c3 := y5.c3
      go_wp2_with fail
      refine (HC2.out w5 B5).mono ?_
      rintro e w6 ⟨a6, k6, rfl, l6, b6⟩
      have hz6 := b6.size
      have B6 := (B5.trans (b6.mono B5.size)).alloc (by omega) (.cells #[.string ByteArray.empty, .int .i64 0, .int .i64 0, .slice a6 0 k6] 24)
      have y6 := (y5.below b6 (by omega)).alloc (.cells #[.string ByteArray.empty, .int .i64 0, .int .i64 0, .slice a6 0 k6] 24)
      have t6 := (t5.below b6 (by omega)).alloc (.cells #[.string ByteArray.empty, .int .i64 0, .int .i64 0, .slice a6 0 k6] 24)
      have s6 := (s5.below b6 (by omega)).alloc (.cells #[.string ByteArray.empty, .int .i64 0, .int .i64 0, .slice a6 0 k6] 24)
      have r6 := Box4.new w6 ByteArray.empty 0 0 (.slice a6 0 k6)
      have hb6 : Below w6.heap.size w6 (w6.alloc (.cells #[.string ByteArray.empty, .int .i64 0, .int .i64 0, .slice a6 0 k6] 24)) := (Below.refl _ w6).alloc (Nat.le_refl _) _
      have HT6 : Hid (IsLn (w6.alloc (.cells #[.string ByteArray.empty, .int .i64 0, .int .i64 0, .slice a6 0 k6] 24)) _ ([] : List Ln) _) := (HT5.out.below b6).below hb6
      have HS6 : Hid (IsLn (w6.alloc (.cells #[.string ByteArray.empty, .int .i64 0, .int .i64 0, .slice a6 0 k6] 24)) _ ([] : List Ln) _) := (HS5.out.below b6).below hb6
      have HL6 : Hid (IsLn (w6.alloc (.cells #[.string ByteArray.empty, .int .i64 0, .int .i64 0, .slice a6 0 k6] 24)) a6 ([] : List Ln) k6) := l6.below hb6
      have hz6b : (w6.alloc (.cells #[.string ByteArray.empty, .int .i64 0, .int .i64 0, .slice a6 0 k6] 24)).heap.size = w6.heap.size + 1 := by simp
      clear HC2 c0 c1 c2 c3 y5 t5 s5 b6 l6 HT5 HS5 hb6
      go_wp2_with fail
      refine (HEf.out _ B6).mono ?_
      rintro e w7 ⟨rfl, b7⟩
      rw [hz6b] at b7
      have B7 := B6.trans (b7.mono (by omega))
      have hz7 := b7.size
      rw [hz6b] at hz7
      have y7 := y6.below b7 (by omega)
      have t7 := t6.below b7 (by omega)
      have s7 := s6.below b7 (by omega)
      have r7 := r6.below b7 (by omega)
      have b7' := b7
      rw [← hz6b] at b7'
      have HS7 : Hid (IsLn w7 _ ([] : List Ln) _) := HS6.out.below b7'
      have hEn := sameEntry_any ByteArray.empty 0 0 _ _ _ _ ([] : List Ln) w7 hTn (HL6.out.below b7') (HT6.out.below b7')
      have HEn : Hid (Calls _ _ _ _ _) := hEn
      clear hEn HL6 HT6 HS6 b7 b7' y6 t6 s6 r6 hz6b
      have d0 := r7.c0
      have d1 := r7.c1
      have d2 := r7.c2
      have d3 := r7.c3
      have e0 := t7.c0
      have e1 := t7.c1
      have e2 := t7.c2
      have e3 := t7.c3
      go_wp2_with fail
      refine HEn.out.mono ?_
      rintro e w8 ⟨rfl, b8⟩
      have B8 := B7.trans (b8.mono (by omega))
      have hz8 := b8.size
      have y8 := y7.below b8 (by omega)
      have s8 := s7.below b8 (by omega)
      have HS8 : Hid (IsLn w8 _ ([] : List Ln) _) := HS7.out.below b8
      clear HEn b8 y7 t7 s7 r7 d0 d1 d2 d3 e0 e1 e2 e3 HS7
      have c0 := y8.c0
      have c1 := y8.c1
      have c2 := y8.c2
      have c3 := y8.c3
      go_wp2_with fail
      refine (HC3.out w8 B8).mono ?_
      rintro e w9 ⟨a9, k9, rfl, l9, b9⟩
      have hz9 := b9.size
      have B9 := (B8.trans (b9.mono B8.size)).alloc (by omega) (.cells #[.string ByteArray.empty, .int .i64 0, .int .i64 0, .slice a9 0 k9] 24)
      have s9 := (s8.below b9 (by omega)).alloc (.cells #[.string ByteArray.empty, .int .i64 0, .int .i64 0, .slice a9 0 k9] 24)
      have r9 := Box4.new w9 ByteArray.empty 0 0 (.slice a9 0 k9)
      have hb9 : Below w9.heap.size w9 (w9.alloc (.cells #[.string ByteArray.empty, .int .i64 0, .int .i64 0, .slice a9 0 k9] 24)) := (Below.refl _ w9).alloc (Nat.le_refl _) _
      have HS9 : Hid (IsLn (w9.alloc (.cells #[.string ByteArray.empty, .int .i64 0, .int .i64 0, .slice a9 0 k9] 24)) _ ([] : List Ln) _) := (HS8.out.below b9).below hb9
      have HL9 : Hid (IsLn (w9.alloc (.cells #[.string ByteArray.empty, .int .i64 0, .int .i64 0, .slice a9 0 k9] 24)) a9 ([] : List Ln) k9) := l9.below hb9
      have hz9b : (w9.alloc (.cells #[.string ByteArray.empty, .int .i64 0, .int .i64 0, .slice a9 0 k9] 24)).heap.size = w9.heap.size + 1 := by simp
      clear HC3 c0 c1 c2 c3 y8 s8 b9 l9 HS8 hb9
      go_wp2_with fail
      refine (HE.out _ B9).mono ?_
      rintro e w10 ⟨rfl, b10⟩
      rw [hz9b] at b10
      have B10 := B9.trans (b10.mono (by omega))
      have hz10 := b10.size
      rw [hz9b] at hz10
      have s10 := s9.below b10 (by omega)
      have r10 := r9.below b10 (by omega)
      have b10' := b10
      rw [← hz9b] at b10'
      have hEn := sameEntry_any ByteArray.empty 0 0 _ _ _ _ ([] : List Ln) w10 hSn (HL9.out.below b10') (HS9.out.below b10')
      have HEn : Hid (Calls _ _ _ _ _) := hEn
      clear hEn HL9 HS9 b10 b10' s9 r9 hz9b
      have d0 := r10.c0
      have d1 := r10.c1
      have d2 := r10.c2
      have d3 := r10.c3
      have e0 := s10.c0
      have e1 := s10.c1
      have e2 := s10.c2
      have e3 := s10.c3
      go_wp2_with fail
      refine HEn.out.mono ?_
      rintro e w11 ⟨rfl, b11⟩
      have B11 := B10.trans (b11.mono (by omega))
      clear HEn b11 s10 r10 d0 d1 d2 d3 e0 e1 e2 e3
      go_wp2
      go_ret
      exact ⟨rfl, B11⟩
    · have HC2 := HC2f bad (by unfold revBad; rw [Hok.out, if_neg (by simp)]; exact Hbad.out) h1
      have HEf := HE
      clear HC2f
      obtain ⟨ev, hev⟩ : ∃ ev, enE bad = ev := ⟨_, rfl⟩
      rw [hev] at HC1 HC3 HE HC2 HEf
      clear hev
      have c0 := y2.c0
      have c1 := y2.c1
      have c2 := y2.c2
      have c3 := y2.c3
      go_wp2_with fail
      refine (HC1.out _ B2).mono ?_
      rintro e w3 ⟨a3, k3, rfl, l3, b3⟩
      have B3 := B2.trans (b3.mono B2.size)
      have hz3 := b3.size
      have y3 := y2.below b3 (by omega)
      have t3 := xt.below b3 (by omega)
      have s3 := xs.below b3 (by omega)
      have HU3 : Hid (IsLn w3 _ ([] : List Ln) _) := HU.out.below b3
      have HT3 : Hid (IsLn w3 _ ([] : List Ln) _) := HT.out.below b3
      have HS3 : Hid (IsLn w3 _ ([] : List Ln) _) := HS.out.below b3
      have HL3 : Hid (IsLn w3 a3 ([] : List Ln) k3) := l3
      clear HC1 c0 c1 c2 c3 y2 xt xs b3 l3 HU HT HS
      go_wp2_with fail
      refine (HE.out w3 B3).mono ?_
      rintro e w4 ⟨rfl, b4⟩
      have B4 := B3.trans (b4.mono B3.size)
      have hz4 := b4.size
      have y4 := y3.below b4 (by omega)
      have t4 := t3.below b4 (by omega)
      have s4 := s3.below b4 (by omega)
      have HT4 : Hid (IsLn w4 _ ([] : List Ln) _) := HT3.out.below b4
      have HS4 : Hid (IsLn w4 _ ([] : List Ln) _) := HS3.out.below b4
      have hLL := sameLines_any _ _ _ _ ([] : List Ln) w4 hUn (HL3.out.below b4) (HU3.out.below b4)
      have HLL : Hid (Calls _ _ _ _ _) := hLL
      clear hLL HL3 HU3 b4 y3 t3 s3 HT3 HS3
      go_wp2_with fail
      refine HLL.out.mono ?_
      rintro e w5 ⟨rfl, b5⟩
      have B5 := B4.trans (b5.mono B4.size)
      have hz5 := b5.size
      have y5 := y4.below b5 (by omega)
      have t5 := t4.below b5 (by omega)
      have s5 := s4.below b5 (by omega)
      have HT5 : Hid (IsLn w5 _ ([] : List Ln) _) := HT4.out.below b5
      have HS5 : Hid (IsLn w5 _ ([] : List Ln) _) := HS4.out.below b5
      clear HLL b5 y4 t4 s4 HT4 HS4
      have c0 := y5.c0
      have c1 := y5.c1
      have c2 := y5.c2
      have c3 := y5.c3
      go_wp2_with fail
      refine (HC2.out w5 B5).mono ?_
      rintro e w6 ⟨a6, k6, rfl, l6, b6⟩
      have hz6 := b6.size
      have B6 := (B5.trans (b6.mono B5.size)).alloc (by omega) (.cells #[.string ByteArray.empty, .int .i64 0, .int .i64 0, .slice a6 0 k6] 24)
      have y6 := (y5.below b6 (by omega)).alloc (.cells #[.string ByteArray.empty, .int .i64 0, .int .i64 0, .slice a6 0 k6] 24)
      have t6 := (t5.below b6 (by omega)).alloc (.cells #[.string ByteArray.empty, .int .i64 0, .int .i64 0, .slice a6 0 k6] 24)
      have s6 := (s5.below b6 (by omega)).alloc (.cells #[.string ByteArray.empty, .int .i64 0, .int .i64 0, .slice a6 0 k6] 24)
      have r6 := Box4.new w6 ByteArray.empty 0 0 (.slice a6 0 k6)
      have hb6 : Below w6.heap.size w6 (w6.alloc (.cells #[.string ByteArray.empty, .int .i64 0, .int .i64 0, .slice a6 0 k6] 24)) := (Below.refl _ w6).alloc (Nat.le_refl _) _
      have HT6 : Hid (IsLn (w6.alloc (.cells #[.string ByteArray.empty, .int .i64 0, .int .i64 0, .slice a6 0 k6] 24)) _ ([] : List Ln) _) := (HT5.out.below b6).below hb6
      have HS6 : Hid (IsLn (w6.alloc (.cells #[.string ByteArray.empty, .int .i64 0, .int .i64 0, .slice a6 0 k6] 24)) _ ([] : List Ln) _) := (HS5.out.below b6).below hb6
      have HL6 : Hid (IsLn (w6.alloc (.cells #[.string ByteArray.empty, .int .i64 0, .int .i64 0, .slice a6 0 k6] 24)) a6 ([] : List Ln) k6) := l6.below hb6
      have hz6b : (w6.alloc (.cells #[.string ByteArray.empty, .int .i64 0, .int .i64 0, .slice a6 0 k6] 24)).heap.size = w6.heap.size + 1 := by simp
      clear HC2 c0 c1 c2 c3 y5 t5 s5 b6 l6 HT5 HS5 hb6
      go_wp2_with fail
      refine (HEf.out _ B6).mono ?_
      rintro e w7 ⟨rfl, b7⟩
      rw [hz6b] at b7
      have B7 := B6.trans (b7.mono (by omega))
      have hz7 := b7.size
      rw [hz6b] at hz7
      have y7 := y6.below b7 (by omega)
      have t7 := t6.below b7 (by omega)
      have s7 := s6.below b7 (by omega)
      have r7 := r6.below b7 (by omega)
      have b7' := b7
      rw [← hz6b] at b7'
      have HS7 : Hid (IsLn w7 _ ([] : List Ln) _) := HS6.out.below b7'
      have hEn := sameEntry_any ByteArray.empty 0 0 _ _ _ _ ([] : List Ln) w7 hTn (HL6.out.below b7') (HT6.out.below b7')
      have HEn : Hid (Calls _ _ _ _ _) := hEn
      clear hEn HL6 HT6 HS6 b7 b7' y6 t6 s6 r6 hz6b
      have d0 := r7.c0
      have d1 := r7.c1
      have d2 := r7.c2
      have d3 := r7.c3
      have e0 := t7.c0
      have e1 := t7.c1
      have e2 := t7.c2
      have e3 := t7.c3
      go_wp2_with fail
      refine HEn.out.mono ?_
      rintro e w8 ⟨rfl, b8⟩
      have B8 := B7.trans (b8.mono (by omega))
      have hz8 := b8.size
      have y8 := y7.below b8 (by omega)
      have s8 := s7.below b8 (by omega)
      have HS8 : Hid (IsLn w8 _ ([] : List Ln) _) := HS7.out.below b8
      clear HEn b8 y7 t7 s7 r7 d0 d1 d2 d3 e0 e1 e2 e3 HS7
      have c0 := y8.c0
      have c1 := y8.c1
      have c2 := y8.c2
      have c3 := y8.c3
      go_wp2_with fail
      refine (HC3.out w8 B8).mono ?_
      rintro e w9 ⟨a9, k9, rfl, l9, b9⟩
      have hz9 := b9.size
      have B9 := (B8.trans (b9.mono B8.size)).alloc (by omega) (.cells #[.string ByteArray.empty, .int .i64 0, .int .i64 0, .slice a9 0 k9] 24)
      have s9 := (s8.below b9 (by omega)).alloc (.cells #[.string ByteArray.empty, .int .i64 0, .int .i64 0, .slice a9 0 k9] 24)
      have r9 := Box4.new w9 ByteArray.empty 0 0 (.slice a9 0 k9)
      have hb9 : Below w9.heap.size w9 (w9.alloc (.cells #[.string ByteArray.empty, .int .i64 0, .int .i64 0, .slice a9 0 k9] 24)) := (Below.refl _ w9).alloc (Nat.le_refl _) _
      have HS9 : Hid (IsLn (w9.alloc (.cells #[.string ByteArray.empty, .int .i64 0, .int .i64 0, .slice a9 0 k9] 24)) _ ([] : List Ln) _) := (HS8.out.below b9).below hb9
      have HL9 : Hid (IsLn (w9.alloc (.cells #[.string ByteArray.empty, .int .i64 0, .int .i64 0, .slice a9 0 k9] 24)) a9 ([] : List Ln) k9) := l9.below hb9
      have hz9b : (w9.alloc (.cells #[.string ByteArray.empty, .int .i64 0, .int .i64 0, .slice a9 0 k9] 24)).heap.size = w9.heap.size + 1 := by simp
      clear HC3 c0 c1 c2 c3 y8 s8 b9 l9 HS8 hb9
      go_wp2_with fail
      refine (HE.out _ B9).mono ?_
      rintro e w10 ⟨rfl, b10⟩
      rw [hz9b] at b10
      have B10 := B9.trans (b10.mono (by omega))
      have hz10 := b10.size
      rw [hz9b] at hz10
      have s10 := s9.below b10 (by omega)
      have r10 := r9.below b10 (by omega)
      have b10' := b10
      rw [← hz9b] at b10'
      have hEn := sameEntry_any ByteArray.empty 0 0 _ _ _ _ ([] : List Ln) w10 hSn (HL9.out.below b10') (HS9.out.below b10')
      have HEn : Hid (Calls _ _ _ _ _) := hEn
      clear hEn HL9 HS9 b10 b10' s9 r9 hz9b
      have d0 := r10.c0
      have d1 := r10.c1
      have d2 := r10.c2
      have d3 := r10.c3
      have e0 := s10.c0
      have e1 := s10.c1
      have e2 := s10.c2
      have e3 := s10.c3
      go_wp2_with fail
      refine HEn.out.mono ?_
      rintro e w11 ⟨rfl, b11⟩
      have B11 := B10.trans (b11.mono (by omega))
      clear HEn b11 s10 r10 d0 d1 d2 d3 e0 e1 e2 e3
      go_wp2
      go_ret
      exact ⟨rfl, B11⟩
end Go.Proofs.YtenbeffmanccoaaDoor
