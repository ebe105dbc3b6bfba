/-
  The contract of dayref1.Read, no minus ahead. Written by genrdr.py.
-/
import Derived.Test.YtikifooomeikgaaGreatDoorWRdH
namespace Go.Proofs.YtikifooomeikgaaGreatDoor
set_option linter.unusedVariables false
set_option linter.unusedSimpArgs false
set_option maxRecDepth 100000
open Go.RowKit Big Go.Lib

set_option maxHeartbeats 4000000 in
theorem refRead_pos (l t : List UInt8) (p : Nat) (w : World) (hp : p ≤ 6) (hl : l.length ≤ 140737488351232) (ht : l.drop 0 = t) (hT : trimPrefix l [45] = t) (hN : hasPrefix l [45] = false) (h0 : 0 < l.length) (hc : ¬ l[0] = 45) :
    Calls Tryz.prog 7 #[.string (txt l), .int .i64 p] w fun e w' => e = rdOut (rdC l p) ∧ w.grownBy w' none := by
  have hp' : (p : Int) ≤ 6 := by omega
  have hsz := txt_size l
  have hp0 : 0 < (txt l).size := by omega
  obtain ⟨c9, hc9⟩ : ∃ c9, (l[0]'h0).toNat = c9 := ⟨_, rfl⟩
  have hg0 : ((txt l)[0]'hp0).toNat = c9 := hc9
  have h45 : ¬ (c9 : Int) = 45 := fun e => hc (UInt8.toNat_inj.1 (by rw [hc9]; show c9 = 45; omega))
  have hne : ¬ (txt l).toList = [] := rd_some (by omega)
  have hni : (txt l).toList.isEmpty = false := by
    cases h : (txt l).toList with
    | nil => exact absurd h hne
    | cons => rfl
  have q45 : ((c9 : Int) == 45) = false := by rw [beq_eq_false_iff_ne]; exact h45
  clear hc hc9 h45
  have hbad : ∀ x : Option (List UInt8 × Option Nat), rGo t [] none = x → (∀ d pt, x = some (d, pt) → ¬ rGood d pt p) → rdC l p = (0, 2) := fun x hx hb => rdC_bad (fun d pt e => hb d pt (by rw [← hx, ← hT]; exact e))
  have hgood : ∀ d pt, rGo t [] none = some (d, pt) → rGood d pt p → rdC l p = rdV false (valA 0 d) := fun d pt e g => by rw [← hN]; exact rdC_good hp (by rw [hT]; exact e) g
  obtain ⟨a, ha⟩ : ∃ a, rdC l p = a := ⟨_, rfl⟩
  rw [ha] at hbad hgood ⊢
  have Hbad : Hid (∀ x : Option (List UInt8 × Option Nat), rGo t [] none = x → (∀ d pt, x = some (d, pt) → ¬ rGood d pt p) → a = (0, 2)) := hbad
  have Hgood : Hid (∀ d pt, rGo t [] none = some (d, pt) → rGood d pt p → a = rdV false (valA 0 d)) := hgood
  have hget : ∀ k (h : k < (txt l).size) (h' : k < l.length), ((txt l)[k]'h).toNat = (l[k]'h').toNat := fun k h h' => rfl
  have Hget : Hid (∀ k (h : k < (txt l).size) (h' : k < l.length), ((txt l)[k]'h).toNat = (l[k]'h').toNat) := hget
  have Ht : Hid (l.drop 0 = t) := ht
  have Hsz : Hid ((txt l).size = l.length) := hsz
  have hls : ((txt l).size : Int) ≤ 140737488351232 := by omega
  clear ha hbad hgood hget ht hT hN hsz
  go_enter Tryz.func7, Tryz.ntmps7
  go_wp2
  go_loopw [6, 7, 8] (fun dv pv iv wr => ∃ (k : Nat) (d : List UInt8) (pt : Option Nat), k ≤ l.length ∧ iv = .int .i64 k ∧ dv = .string (txt d) ∧ pv = .int .i64 (ptV pt) ∧ Hid (d.length ≤ k) ∧ Hid (∀ q, pt = some q → q ≤ d.length) ∧ Hid (d.all isDig = true) ∧ Hid (rGo (l.drop k) d pt = rGo t [] none) ∧ Hid (w.grownBy wr none)) (fun _ _ iv _ => l.length - (intOf iv).toNat)
  case atStart => exact ⟨0, [], none, by omega, rfl, rfl, rfl, Nat.zero_le _, fun q h => (by cases h), rfl, by rw [Ht.out]; rfl, grefl _ _⟩
  case round =>
    obtain ⟨k, d, pt, hk, rfl, rfl, rfl, HL, HQ, HD, HR, HG⟩ := hrel
    by_cases hlt : k < l.length
    · have hks : k < (txt l).size := by rw [Hsz.out]; exact hlt
      have j0 : (0 : Int) ≤ k := by omega
      have j1 : (k : Int) < (txt l).size := by omega
      have hgk := Hget.out k hks hlt
      have hB := fun W => run_byte l k hlt W
      have hA := fun W => run_app d [l[k]'hlt] (by have := HL.out; simp; omega) W
      have hR := rGo_drop l d pt k hlt
      rw [HR.out] at hR
      obtain ⟨c, hc⟩ : ∃ c, l[k]'hlt = c := ⟨_, rfl⟩
      rw [hc] at hgk hB hA hR
      obtain ⟨b, hb⟩ : ∃ b, c.toNat = b := ⟨_, rfl⟩
      rw [hb] at hgk
      have HRn : Hid (rGo t [] none = _) := hR
      have Hc : Hid (isDig c = true ↔ 48 ≤ b ∧ b ≤ 57) := by unfold Hid; rw [← hb]; simp [isDig]
      have Hc6 : Hid (c = 46 ↔ b = 46) := by
        unfold Hid
        rw [← hb]
        exact ⟨fun e => by rw [e]; rfl, fun e => UInt8.toNat_inj.1 e⟩
      have hb8 : (b : Int) ≤ 255 := by have := c.toNat_lt; omega
      have hb0 : (0 : Int) ≤ b := by omega
      obtain ⟨xc, hxc⟩ : ∃ x, txt [c] = x := ⟨_, rfl⟩
      rw [hxc] at hA hB
      clear hc hb hR HR hxc
      by_cases h46 : b = 46
      · subst h46
        cases pt with
        | none =>
          have q0 : (ptV none : Int) = -1 := rfl
          rw [q0]
          have HN : Hid (rGo t [] none = rGo (l.drop (k + 1)) d (some d.length)) := by
            unfold Hid
            rw [HRn.out, if_pos ⟨Hc6.out.2 rfl, rfl⟩]
          have hds : ((txt d).size : Int) = ((d.length : Nat) : Int) := by rw [txt_size]
          clear hA hB HRn q0
          go_wp2
          go_roundw
          case rel => exact ⟨k + 1, d, some d.length, by omega, rfl, rfl, rfl, Nat.le_succ_of_le HL.out, fun q h => by cases h; exact Nat.le_refl _, HD.out, HN.out.symm, HG.out⟩
          case measure =>
            simp only [intOf]
            omega
        | some q =>
          have q0 : (ptV (some q) : Int) = (q : Int) := rfl
          rw [q0]
          have HB : Hid (a = (0, 2)) := Hbad.out _ HRn.out (fun d' pt' e => by
            rw [if_neg (fun x => by cases x.2), if_neg (fun x => by have := Hc.out.1 x; omega)] at e
            cases e)
          clear hA hB HRn q0
          have j2 : ¬ (q : Int) < 0 := by omega
          go_wp2
          go_ret2
          exact ⟨by rw [HB.out]; rfl, HG.out⟩
      · have i46 : ¬ (b : Int) = 46 := by omega
        by_cases hdg : 48 ≤ b ∧ b ≤ 57
        · have b1 : (48 : Int) ≤ b := by omega
          have b2 : (b : Int) ≤ 57 := by omega
          have HN : Hid (rGo t [] none = rGo (l.drop (k + 1)) (d ++ [c]) pt) := by
            unfold Hid
            rw [HRn.out, if_neg (fun x => h46 (Hc6.out.1 x.1)), if_pos (Hc.out.2 hdg)]
          have HDn : Hid ((d ++ [c]).all isDig = true) := by
            unfold Hid
            rw [List.all_append, HD.out]
            simp [Hc.out.2 hdg]
          obtain ⟨y, hy⟩ : ∃ y, txt (d ++ [c]) = y := ⟨_, rfl⟩
          rw [hy] at hA
          have Hy : Hid (txt (d ++ [c]) = y) := hy
          generalize txt d = x at *
          clear HRn hy
          go_wp2
          go_roundw
          case rel => exact ⟨k + 1, d ++ [c], pt, by omega, rfl, by rw [Hy.out], rfl, by have := HL.out; unfold Hid; simp; omega, fun q h => by have := HQ.out q h; simp; omega, HDn.out, HN.out.symm, HG.out⟩
          case measure =>
            simp only [intOf]
            omega
        · have HB : Hid (a = (0, 2)) := Hbad.out _ HRn.out (fun d' pt' e => by
            rw [if_neg (fun x => h46 (Hc6.out.1 x.1)), if_neg (fun x => hdg (Hc.out.1 x))] at e
            cases e)
          have j3 : ¬ ((48 : Int) ≤ b ∧ (b : Int) ≤ 57) := by omega
          clear hA hB HRn
          by_cases b1 : (48 : Int) ≤ b
          · have b2 : ¬ (b : Int) ≤ 57 := by omega
            go_wp2
            go_ret2
            exact ⟨by rw [HB.out]; rfl, HG.out⟩
          · go_wp2
            go_ret2
            exact ⟨by rw [HB.out]; rfl, HG.out⟩
    · have hke : k = l.length := by omega
      have j1 : ¬ ((k : Int) < (txt l).size) := by have := Hsz.out; omega
      have HE : Hid (rGo t [] none = some (d, pt)) := by
        unfold Hid
        rw [← HR.out, hke]
        exact rGo_end _ _ _
      have HB : Hid (¬ rGood d pt p → a = (0, 2)) := fun h => Hbad.out _ HE.out (fun d' pt' e => by cases e; exact h)
      have HGd : Hid (rGood d pt p → a = rdV false (valA 0 d)) := fun g => Hgood.out d pt HE.out g
      have hds : ((txt d).size : Int) = ((d.length : Nat) : Int) := by rw [txt_size]
      have hdl : (d.length : Int) ≤ 140737488351232 := by have := HL.out; omega
      clear HE HR Hget Hbad Hgood Ht
      cases pt with
      | none =>
        have q0 : (ptV none : Int) = -1 := rfl
        rw [q0]
        clear q0
        have hh : hdL d none = d.length := rfl
        have hqd : d.length ≤ d.length := Nat.le_refl _
        have k9 : True := trivial
        by_cases e1 : d.length = 0
        · have i1 : (d.length : Int) = 0 := by omega
          have hB := HB.out (fun g => g.1 (by rw [hh]; exact e1))
          subst hB
          go_wp2
          go_ret2
          exact ⟨rfl, HG.out⟩
        · have i1 : ¬ (d.length : Int) = 0 := by omega
          by_cases e2 : 0 < p
          · have i2 : (0 : Int) < p := by omega
            have hB := HB.out (fun g => by have := g.2.1; simp at this; omega)
            subst hB
            go_wp2
            go_ret2
            exact ⟨rfl, HG.out⟩
          · have i2 : ¬ (0 : Int) < p := by omega
            by_cases e3 : d.length = d.length + p
            · have i3 : (p : Int) = 0 := by omega
              have hd0 : 0 < d.length := by omega
              have hz0 : 0 < (txt d).size := by rw [txt_size]; exact hd0
              obtain ⟨c0, hc0⟩ : ∃ c0, (d[0]'hd0).toNat = c0 := ⟨_, rfl⟩
              have hg9 : ((txt d)[0]'hz0).toNat = c0 := hc0
              have hhead : d.head? = some 48 ↔ c0 = 48 := by
                rw [← hc0, List.head?_eq_getElem?, List.getElem?_eq_getElem hd0]
                exact ⟨fun e => by rw [Option.some.inj e]; rfl, fun e => by rw [show d[0]'hd0 = 48 from UInt8.toNat_inj.1 e]⟩
              have Hhd : Hid (d.head? = some 48 ↔ c0 = 48) := hhead
              have hz1 : (0 : Int) < (txt d).size := by omega
              clear hc0 hhead
              by_cases e4 : c0 = 48 ∧ 1 < d.length
              · have i4 : (c0 : Int) = 48 := by omega
                have i5 : (1 : Int) < d.length := by omega
                have hB := HB.out (fun g => g.2.2.2 ⟨Hhd.out.2 e4.1, by rw [hh]; exact e4.2⟩)
                subst hB
                clear e3 hqd hh
                go_wp2
                go_ret2
                exact ⟨rfl, HG.out⟩
              · have HA : Hid (a = rdV false (valA 0 d)) := HGd.out ⟨by rw [hh]; exact e1, by simp; omega, by rw [hh]; exact e3, fun g => e4 ⟨Hhd.out.1 g.1, by have := g.2; rw [hh] at this; exact this⟩⟩
                have HS : Hid (Calls _ _ _ _ _) := setString_any wr.heap.size false (.slice none 0 0) d (wr.alloc (.cells #[.bool false, .slice none 0 0] 47)) (alloc_blk _ _) (fun _ _ e => by cases e) HD.out (List.length_pos_iff.1 hd0) (by omega)
                have HGa : Hid (w.grownBy (wr.alloc (.cells #[.bool false, .slice none 0 0] 47)) none) := gtrans HG.out (World.grownBy_alloc _ _ _)
                have HSz : Hid (w.heap.size ≤ wr.heap.size) := HG.out.size
                have HV : Hid (valA 0 d < 10 ^ d.length) := by
                  have := valA_few d HD.out d.length
                  rw [List.take_length] at this
                  exact this
                clear HGd HB HG e3 hqd hh
                by_cases i4 : (c0 : Int) = 48
                · have i5 : ¬ (1 : Int) < d.length := by omega
                  clear e4
                  go_wp2_with fail
                  refine HS.out.mono ?_
                  rintro e w1 ⟨v, lw, rfl, hb, hv, hg⟩
                  have hlw : lw.length < 35184372088832 := words_few hb.nrm (k := d.length) (by rw [hv]; exact HV.out) (by omega)
                  have HG1 : Hid (w.grownBy w1 none) := grow_own HGa.out hg HSz.out
                  have HAv : Hid (a = rdV false (val lw)) := by unfold Hid; rw [hv]; exact HA.out
                  have HBi : Hid (IsBig w1 wr.heap.size false v lw) := hb
                  clear HS hb hv hg HGa HV HA
                  by_cases hf : val lw ≤ 9223372036854775807
                  · have HF : Hid (Calls _ _ _ _ _) := small_yes _ _ _ _ w1 HBi.out hlw (by rw [show sg false (val lw) = (val lw : Int) from rfl]; exact ⟨by omega, by omega⟩)
                    have hB : a = ((val lw : Int), 0) := by rw [HAv.out, rdV, if_neg (by simp), if_pos hf]
                    subst hB
                    clear HAv
                    go_wp2_with fail
                    refine HF.out.mono ?_
                    rintro e w4 ⟨rfl, rfl⟩
                    go_wp2
                    go_ret2
                    exact ⟨rfl, HG1.out⟩
                  · have HF : Hid (Calls _ _ _ _ _) := small_no _ _ _ _ w1 HBi.out hlw (fun h => by have h2 : (val lw : Int) ≤ 9223372036854775807 := h.2; omega)
                    have hB : a = (0, 10) := by rw [HAv.out, rdV, if_neg (by simp), if_neg hf]
                    subst hB
                    clear HAv
                    go_wp2_with fail
                    refine HF.out.mono ?_
                    rintro e w4 ⟨rfl, rfl⟩
                    go_wp2
                    go_ret2
                    exact ⟨rfl, HG1.out⟩
                · clear e4
                  go_wp2_with fail
                  refine HS.out.mono ?_
                  rintro e w1 ⟨v, lw, rfl, hb, hv, hg⟩
                  have hlw : lw.length < 35184372088832 := words_few hb.nrm (k := d.length) (by rw [hv]; exact HV.out) (by omega)
                  have HG1 : Hid (w.grownBy w1 none) := grow_own HGa.out hg HSz.out
                  have HAv : Hid (a = rdV false (val lw)) := by unfold Hid; rw [hv]; exact HA.out
                  have HBi : Hid (IsBig w1 wr.heap.size false v lw) := hb
                  clear HS hb hv hg HGa HV HA
                  by_cases hf : val lw ≤ 9223372036854775807
                  · have HF : Hid (Calls _ _ _ _ _) := small_yes _ _ _ _ w1 HBi.out hlw (by rw [show sg false (val lw) = (val lw : Int) from rfl]; exact ⟨by omega, by omega⟩)
                    have hB : a = ((val lw : Int), 0) := by rw [HAv.out, rdV, if_neg (by simp), if_pos hf]
                    subst hB
                    clear HAv
                    go_wp2_with fail
                    refine HF.out.mono ?_
                    rintro e w4 ⟨rfl, rfl⟩
                    go_wp2
                    go_ret2
                    exact ⟨rfl, HG1.out⟩
                  · have HF : Hid (Calls _ _ _ _ _) := small_no _ _ _ _ w1 HBi.out hlw (fun h => by have h2 : (val lw : Int) ≤ 9223372036854775807 := h.2; omega)
                    have hB : a = (0, 10) := by rw [HAv.out, rdV, if_neg (by simp), if_neg hf]
                    subst hB
                    clear HAv
                    go_wp2_with fail
                    refine HF.out.mono ?_
                    rintro e w4 ⟨rfl, rfl⟩
                    go_wp2
                    go_ret2
                    exact ⟨rfl, HG1.out⟩
            · exact absurd (show d.length = d.length + p by omega) e3
      | some q =>
        have q0 : (ptV (some q) : Int) = (q : Int) := rfl
        rw [q0]
        clear q0
        have hh : hdL d (some q) = q := rfl
        have hqd : q ≤ d.length := HQ.out q rfl
        have k9 : ¬ (q : Int) < 0 := by omega
        by_cases e1 : q = 0
        · have i1 : (q : Int) = 0 := by omega
          have hB := HB.out (fun g => g.1 (by rw [hh]; exact e1))
          subst hB
          go_wp2
          go_ret2
          exact ⟨rfl, HG.out⟩
        · have i1 : ¬ (q : Int) = 0 := by omega
          by_cases e2 : p = 0
          · have i2 : ¬ (0 : Int) < p := by omega
            have hB := HB.out (fun g => by have := g.2.1; simp at this; omega)
            subst hB
            go_wp2
            go_ret2
            exact ⟨rfl, HG.out⟩
          · have i2 : (0 : Int) < p := by omega
            by_cases e3 : d.length = q + p
            · have i3 : (d.length : Int) - q = p := by omega
              have hd0 : 0 < d.length := by omega
              have hz0 : 0 < (txt d).size := by rw [txt_size]; exact hd0
              obtain ⟨c0, hc0⟩ : ∃ c0, (d[0]'hd0).toNat = c0 := ⟨_, rfl⟩
              have hg9 : ((txt d)[0]'hz0).toNat = c0 := hc0
              have hhead : d.head? = some 48 ↔ c0 = 48 := by
                rw [← hc0, List.head?_eq_getElem?, List.getElem?_eq_getElem hd0]
                exact ⟨fun e => by rw [Option.some.inj e]; rfl, fun e => by rw [show d[0]'hd0 = 48 from UInt8.toNat_inj.1 e]⟩
              have Hhd : Hid (d.head? = some 48 ↔ c0 = 48) := hhead
              have hz1 : (0 : Int) < (txt d).size := by omega
              clear hc0 hhead
              by_cases e4 : c0 = 48 ∧ 1 < q
              · have i4 : (c0 : Int) = 48 := by omega
                have i5 : (1 : Int) < q := by omega
                have hB := HB.out (fun g => g.2.2.2 ⟨Hhd.out.2 e4.1, by rw [hh]; exact e4.2⟩)
                subst hB
                clear e3 hqd hh
                go_wp2
                go_ret2
                exact ⟨rfl, HG.out⟩
              · have HA : Hid (a = rdV false (valA 0 d)) := HGd.out ⟨by rw [hh]; exact e1, by simp; omega, by rw [hh]; exact e3, fun g => e4 ⟨Hhd.out.1 g.1, by have := g.2; rw [hh] at this; exact this⟩⟩
                have HS : Hid (Calls _ _ _ _ _) := setString_any wr.heap.size false (.slice none 0 0) d (wr.alloc (.cells #[.bool false, .slice none 0 0] 47)) (alloc_blk _ _) (fun _ _ e => by cases e) HD.out (List.length_pos_iff.1 hd0) (by omega)
                have HGa : Hid (w.grownBy (wr.alloc (.cells #[.bool false, .slice none 0 0] 47)) none) := gtrans HG.out (World.grownBy_alloc _ _ _)
                have HSz : Hid (w.heap.size ≤ wr.heap.size) := HG.out.size
                have HV : Hid (valA 0 d < 10 ^ d.length) := by
                  have := valA_few d HD.out d.length
                  rw [List.take_length] at this
                  exact this
                clear HGd HB HG e3 hqd hh
                by_cases i4 : (c0 : Int) = 48
                · have i5 : ¬ (1 : Int) < q := by omega
                  clear e4
                  go_wp2_with fail
                  refine HS.out.mono ?_
                  rintro e w1 ⟨v, lw, rfl, hb, hv, hg⟩
                  have hlw : lw.length < 35184372088832 := words_few hb.nrm (k := d.length) (by rw [hv]; exact HV.out) (by omega)
                  have HG1 : Hid (w.grownBy w1 none) := grow_own HGa.out hg HSz.out
                  have HAv : Hid (a = rdV false (val lw)) := by unfold Hid; rw [hv]; exact HA.out
                  have HBi : Hid (IsBig w1 wr.heap.size false v lw) := hb
                  clear HS hb hv hg HGa HV HA
                  by_cases hf : val lw ≤ 9223372036854775807
                  · have HF : Hid (Calls _ _ _ _ _) := small_yes _ _ _ _ w1 HBi.out hlw (by rw [show sg false (val lw) = (val lw : Int) from rfl]; exact ⟨by omega, by omega⟩)
                    have hB : a = ((val lw : Int), 0) := by rw [HAv.out, rdV, if_neg (by simp), if_pos hf]
                    subst hB
                    clear HAv
                    go_wp2_with fail
                    refine HF.out.mono ?_
                    rintro e w4 ⟨rfl, rfl⟩
                    go_wp2
                    go_ret2
                    exact ⟨rfl, HG1.out⟩
                  · have HF : Hid (Calls _ _ _ _ _) := small_no _ _ _ _ w1 HBi.out hlw (fun h => by have h2 : (val lw : Int) ≤ 9223372036854775807 := h.2; omega)
                    have hB : a = (0, 10) := by rw [HAv.out, rdV, if_neg (by simp), if_neg hf]
                    subst hB
                    clear HAv
                    go_wp2_with fail
                    refine HF.out.mono ?_
                    rintro e w4 ⟨rfl, rfl⟩
                    go_wp2
                    go_ret2
                    exact ⟨rfl, HG1.out⟩
                · clear e4
                  go_wp2_with fail
                  refine HS.out.mono ?_
                  rintro e w1 ⟨v, lw, rfl, hb, hv, hg⟩
                  have hlw : lw.length < 35184372088832 := words_few hb.nrm (k := d.length) (by rw [hv]; exact HV.out) (by omega)
                  have HG1 : Hid (w.grownBy w1 none) := grow_own HGa.out hg HSz.out
                  have HAv : Hid (a = rdV false (val lw)) := by unfold Hid; rw [hv]; exact HA.out
                  have HBi : Hid (IsBig w1 wr.heap.size false v lw) := hb
                  clear HS hb hv hg HGa HV HA
                  by_cases hf : val lw ≤ 9223372036854775807
                  · have HF : Hid (Calls _ _ _ _ _) := small_yes _ _ _ _ w1 HBi.out hlw (by rw [show sg false (val lw) = (val lw : Int) from rfl]; exact ⟨by omega, by omega⟩)
                    have hB : a = ((val lw : Int), 0) := by rw [HAv.out, rdV, if_neg (by simp), if_pos hf]
                    subst hB
                    clear HAv
                    go_wp2_with fail
                    refine HF.out.mono ?_
                    rintro e w4 ⟨rfl, rfl⟩
                    go_wp2
                    go_ret2
                    exact ⟨rfl, HG1.out⟩
                  · have HF : Hid (Calls _ _ _ _ _) := small_no _ _ _ _ w1 HBi.out hlw (fun h => by have h2 : (val lw : Int) ≤ 9223372036854775807 := h.2; omega)
                    have hB : a = (0, 10) := by rw [HAv.out, rdV, if_neg (by simp), if_neg hf]
                    subst hB
                    clear HAv
                    go_wp2_with fail
                    refine HF.out.mono ?_
                    rintro e w4 ⟨rfl, rfl⟩
                    go_wp2
                    go_ret2
                    exact ⟨rfl, HG1.out⟩
            · have i3 : ¬ (d.length : Int) - q = p := by omega
              have hB := HB.out (fun g => e3 (by have := g.2.2.1; rw [hh] at this; exact this))
              subst hB
              go_wp2
              go_ret2
              exact ⟨rfl, HG.out⟩
end Go.Proofs.YtikifooomeikgaaGreatDoor
