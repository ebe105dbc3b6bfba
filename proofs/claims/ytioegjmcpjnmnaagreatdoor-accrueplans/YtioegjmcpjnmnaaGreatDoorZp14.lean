/-
  The contracts of dayref2.PlanNumbers, dayref2.When, dayref2.Part and dayref1.Digits.
-/
import Derived.Test.YtioegjmcpjnmnaaGreatDoorZp13
import Derived.Test.YtioegjmcpjnmnaaGreatDoorZp10
import Derived.Test.YtioegjmcpjnmnaaGreatDoorZp7
import Derived.Deep.RegionHeld
import Derived.Test.YtioegjmcpjnmnaaGreatDoorZp8
import Derived.Test.YtioegjmcpjnmnaaGreatDoorZp9
import Derived.Test.YtioegjmcpjnmnaaGreatDoorZp12
import Derived.Deep.CutBlock
namespace Go.Proofs.YtioegjmcpjnmnaaGreatDoor
set_option linter.unusedVariables false
set_option linter.unusedSimpArgs false
set_option maxRecDepth 100000
open Go.RowKit Big

theorem nums_txt (l : List UInt8) : strOfNums (l.map fun b => (b.toNat : Int)) = txt l := by
  unfold strOfNums txt
  congr 1
  congr 1
  rw [List.map_map]
  conv => rhs; rw [← List.map_id l]
  apply List.map_congr_left
  intro b _
  simp
theorem bytes_str (W : World) (g cap : Nat) (l : List UInt8) (hc : ∀ m, m < l.length → W.cell? ⟨g, m, none⟩ = some (.int .u8 ((l.getD m 0).toNat : Nat))) : (convert 137 9 (.slice (some ⟨g, 0, none⟩) l.length cap)).run Tryz.prog W = .ok (.string (txt l)) W := by
  rw [run_convert_bytes_arg W 137 5 Tryz.underlying137 Tryz.underlying5 g 0 l.length cap (l.map fun b => (b.toNat : Int)) (by simp) (fun i hi => by
    rw [Nat.zero_add, hc i hi]
    simp [List.getD, hi]) 9 Tryz.underlying9, nums_txt]

/-- The length of a slice. -/
def slLen : Value → Nat
  | .slice _ n _ => n
  | _ => 0
theorem BRow.len {w : World} {n : Nat} {v : Value} {xs : List UInt8} (h : BRow w n v xs) : slLen v = xs.length := by
  rcases h.2 with ⟨rfl, h0⟩ | ⟨g1, c1, cur, rfl, _⟩
  · exact h0.symm
  · rfl

set_option maxHeartbeats 4000000 in
theorem text_any (p : Nat) (v : Value) (l : List Nat) (w : World) (h : IsBig w p false v l) (hl2 : l.length ≤ 2) :
    Calls Tryz.prog 74 #[.pointer (some ⟨p, 0, none⟩), .int .i64 10] w fun e w' => e = .returned (.string (txt (Lib.decDigits (val l)))) ∧ w.grownBy w' none := by
  have c0 := blk_cell0 h.blk
  have c1 := blk_cell1 h.blk
  have hp := blk_lt h.blk
  have Hblk : Hid (w.heap[p]? = some (.cells #[.bool false, v] 86 (0, 0))) := h.blk
  have hTw := twin_any v l w h.wd (by omega)
  have Hn : Hid (Nrm l) := h.nrm
  have hval : val l < 18446744073709551616 := by
    have := val_lt h.wd.ok
    rcases (by omega : l.length = 0 ∨ l.length = 1 ∨ l.length = 2) with e | e | e <;> rw [e] at this <;> omega
  obtain ⟨aa, ca, rfl, la, Oa, Fa⟩ := h.wd.form
  have hz := val_zero h.nrm
  clear h la Oa Fa
  by_cases h0 : l.length = 0
  · have hl : l = [] := List.eq_nil_of_length_eq_zero h0
    subst hl
    have e0 : txt (Lib.decDigits (val [])) = ⟨#[48]⟩ := by
      have : Lib.decDigits (val []) = [48] := by
        show Lib.decDigits 0 = _
        rw [Lib.decDigits]
        rfl
      rw [this]; rfl
    rw [e0]
    clear e0 hTw hz
    go_enter Tryz.func74, Tryz.ntmps74
    go_wp2
    go_ret
    exact ⟨rfl, grefl _ _⟩
  have hv0 : val l ≠ 0 := fun e => h0 (by rw [hz.1 e]; rfl)
  have hlz : ((l.length : Int) == 0) = false := by rw [beq_eq_false_iff_ne]; omega
  have HTw : Hid (Calls _ _ _ _ _) := hTw
  obtain ⟨dd, hdd⟩ : ∃ dd, Lib.decDigits (val l) = dd := ⟨_, rfl⟩
  have hd20 : dd.length ≤ 20 := by
    rw [← hdd, Lib.decDigits_length]
    exact dec_few _ 20 (by decide) (Nat.lt_of_lt_of_le hval (by decide))
  have hd0 : dd ≠ [] := by rw [← hdd]; exact dec_ne _
  have Hstart : Hid (decL (val l) ++ ([] : List UInt8).reverse = dd) := by
    unfold Hid decL
    rw [if_neg hv0, hdd]
    simp
  rw [hdd]
  clear hdd hTw hz hv0 hval
  obtain ⟨i0, hi, hz0, hz1, hz2⟩ := info_parts u8_info
  go_enter Tryz.func74, Tryz.ntmps74
  go_wp2_with fail
  refine HTw.out.mono ?_
  rintro e w1 ⟨v1, rfl, hw1⟩
  obtain ⟨aw, cw, ew, _⟩ := hw1.out.1.form
  subst ew
  have Hw1 : Hid (Wd w1 (.slice aw l.length cw) l) := hw1.out.1
  have G1 : Hid (w.grownBy w1 none) := hw1.out.2
  clear HTw hw1
  go_wp2
  go_loopw [5, 6, 7] (fun bv av _ wr => ∃ (lq : List Nat) (bs : List UInt8) (aq : Option Addr) (cq : Nat), av = .slice aq lq.length cq ∧ lq.length ≤ 2 ∧ Hid (Wd wr av lq) ∧ Hid (Nrm lq) ∧ Hid (decL (val lq) ++ bs.reverse = dd) ∧ Hid (BRow wr w.heap.size bv bs) ∧ Hid (∀ j, bv.ownBlock = some j → ∀ o, aq ≠ some ⟨j, o, none⟩) ∧ Hid (w.grownBy wr none)) (fun bv _ _ _ => 21 - slLen bv)
  case atStart => exact ⟨l, [], aw, cw, rfl, hl2, Hw1, Hn, Hstart, World.ownsRow_nil _ _ _ _, fun j e => (by cases e), G1⟩
  case round =>
    obtain ⟨lq, bs, aq, cq, rfl, hq2, HW, HN, HD, HB, HA, HG⟩ := hrel
    by_cases hq0 : 0 < lq.length
    · have hq0' : (0 : Int) < lq.length := by omega
      have hu0 : 0 < val lq := Nat.pos_of_ne_zero (fun e => by
        have := (val_zero HN.out).1 e
        rw [this] at hq0
        simp at hq0)
      have hSm := small_at _ lq 10 wr HW.out (by decide) (by decide) (by omega) hq0
      have e10 : ((10 : Nat) : Int) = 10 := rfl
      rw [e10] at hSm
      have HSm : Hid (Calls _ _ _ _ _) := hSm
      have Hst := decL_step hu0
      have Hst : Hid (decL (val lq) = _) := Hst
      have hr10 : val lq % 10 < 10 := Nat.mod_lt _ (by decide)
      generalize val lq % 10 = rr at *
      have hbl : bs.length + 1 ≤ 20 := by
        have h1 := congrArg List.length HD.out
        rw [Hst.out] at h1
        simp at h1
        omega
      clear hSm e10 hu0
      go_wp2_with fail
      refine HSm.out.mono ?_
      rintro e w2 ⟨lx, cx, rfl, hW2, hN2, hV2, hL2, hG2⟩
      have hX : (48 : Int) + rr = ((UInt8.ofNat (48 + rr)).toNat : Int) := by simp; omega
      have HX : Hid (_ = _) := hX
      have HV2 : Hid (val lx = val lq / 10) := hV2
      have HN2 : Hid (Nrm lx) := hN2
      have HW2 : Hid (Wd w2 _ lx) := hW2
      have hsz2 : wr.heap.size ≤ w2.heap.size := hG2.size
      have hszw := HG.out.size
      have HG2 : Hid (w.grownBy w2 none) := gtrans HG.out hG2
      have HB2 : Hid (BRow w2 w.heap.size _ bs) := HB.out.grow hG2
      have hoj := HB.out.own
      have s2 : Hid (bs.length + 1 ≤ maxLen) := by unfold Hid maxLen; omega
      have s3 : Hid ((bs.length + 1) * 1 ≤ 140737488355328) := by unfold Hid; omega
      have r1 : (rr : Int) < 10 := by omega
      have r2 : (0 : Int) ≤ rr := by omega
      have HSl : Hid _ := HB.out.len
      clear HSm hX hV2 hN2 hW2 hG2 HW HN HA HG HB
      go_wp2_with (at_builtin; refine wpList_append_own_at _ rfl _ _ 137 rfl w.heap.size 5 i0 (.int .u8 0) 1 1 Tryz.underlying137 hi hz0 hz1 hz2 rfl (by decide) _ _ _ rfl (World.ownsRow.alloc HB2.out _) ⟨w2.heap.size, 0, none⟩ 1 1 [.int .u8 ((48 : Int) + rr)] rfl rfl (one_new _ _ _) (by simp [Value.oneCell']) s2.out s3.out (by simp; omega) ?_)
      intro v' w3 hown hgrow _ hob
      have hgr : w2.grownBy w3 _ := gtrans (gweak (World.grownBy_alloc w2 (.cells #[.int .u8 ((48 : Int) + rr)] 5) none) _) hgrow
      have HB3 : Hid (BRow w3 w.heap.size v' (bs ++ [UInt8.ofNat (48 + rr)])) := by
        unfold Hid BRow
        rw [List.map_append, List.length_append]
        have e1 : [UInt8.ofNat (48 + rr)].map (fun b => Value.int .u8 (b.toNat : Nat)) = [.int .u8 ((48 : Int) + rr)] := by rw [HX.out]; rfl
        rw [e1]
        exact hown
      have HW3 : Hid (Wd w3 (.slice (some ⟨wr.heap.size, 0, none⟩) lx.length cx) lx) := HW2.out.keep hgr (fun b off n cap e hh => by
        cases e
        have := (hoj _ hh.symm).2
        omega)
      have HG3 : Hid (w.grownBy w3 none) := by
        unfold Hid
        have g2 := HG2.out
        refine ⟨hgr.os.trans g2.os, hgr.tape.trans g2.tape, hgr.output.trans g2.output, Nat.le_trans g2.size hgr.size, fun b hb _ => ?_⟩
        refine (hgr.block b (Nat.lt_of_lt_of_le hb g2.size) (fun e => ?_)).trans (g2.block b hb (by simp))
        have := (hoj b e.symm).1
        omega
      have HA3 : Hid (∀ j, v'.ownBlock = some j → ∀ o, some (⟨wr.heap.size, 0, none⟩ : Addr) ≠ some ⟨j, o, none⟩) := fun j hj o e => by
        cases e
        rcases hob with hob | hob
        · rw [hj] at hob
          have := (hoj _ hob.symm).2
          omega
        · rw [hj] at hob
          have := Option.some.inj hob
          try simp at this
          omega
      have HD3 : Hid (decL (val lx) ++ (bs ++ [UInt8.ofNat (48 + rr)]).reverse = dd) := by
        unfold Hid
        rw [← HD.out, Hst.out, HV2.out]
        simp
      have HL3 := HB3.out.len
      clear hown hgrow hgr hob HB2 HW2 HG2 HV2 HX HD Hst hoj s2 s3
      go_wp2
      go_roundw
      case rel => exact ⟨lx, _, _, cx, rfl, by omega, HW3, HN2, HD3, HB3, HA3, HG3⟩
      case measure =>
        have := HSl.out
        rw [HL3, this, List.length_append]
        simp only [List.length_cons, List.length_nil]
        omega
    · have hlq : lq = [] := List.eq_nil_of_length_eq_zero (by omega)
      have hbd : bs.reverse = dd := by
        have := HD.out
        rw [hlq] at this
        simpa [decL, val] using this
      have hbl : bs.length = dd.length := by rw [← hbd, List.length_reverse]
      have hb0 : 0 < bs.length := by rw [hbl]; exact List.length_pos_iff.2 hd0
      rcases HB.out.2 with ⟨_, h1⟩ | ⟨g, cap, cur, hbv, hg, hh, hcap, hcs, hsz, htk⟩
      · omega
      subst hbv
      have hcur : ∀ m, m < bs.length → cur[m]? = some (.int .u8 ((bs.getD m 0).toNat : Nat)) := fun m hm => by
        have h1 : (cur.toList.take (bs.length * 1))[m]? = (bs.map fun b => Value.int .u8 (b.toNat : Nat))[m]? := by rw [htk]
        rw [List.getElem?_take, if_pos (by omega)] at h1
        simp [hm] at h1
        simp [List.getD, hm]
        simpa using h1
      have HT0 : Hid (Turned bs 0 cur) := turned_start bs hcur
      have HBt : Hid (BAt wr g cur) := hh
      have d0 : wr.cell? ⟨p, 0, none⟩ = some (.bool false) := HG.out.cell c0 (by simp)
      have hq0' : ¬ (0 : Int) < lq.length := by omega
      have n20 : (bs.length : Int) ≤ 20 := by omega
      have n1 : (1 : Int) ≤ bs.length := by omega
      have Hbd : Hid (bs.reverse = dd) := hbd
      obtain ⟨n, hn⟩ : ∃ n, bs.length = n := ⟨_, rfl⟩
      have Hn' : Hid (bs.length = n) := hn
      rw [hn] at n20 n1 hb0 hcap
      have HGw : Hid (w.grownBy wr none) := HG.out
      have hgw := hg
      rw [hn]
      clear HW HN HD HB HA HG hh hcur htk hsz hcs hbd hbl hn hlq Hblk c0 c1
      obtain ⟨wE, hwE⟩ : ∃ wE, wE = wr := ⟨_, rfl⟩
      subst hwE
      go_wp2
      go_loopw [8, 9, 10] (fun iv jv _ wq => ∃ k : Nat, ∃ cs : Array Value, k ≤ n ∧ iv = .int .i64 k ∧ jv = .int .i64 ((n : Int) - 1 - k) ∧ Hid (Turned bs k cs) ∧ Hid (BAt wq g cs) ∧ Hid (w.grownBy wq none)) (fun iv _ _ _ => n - (RowKit.intOf iv).toNat)
      case atStart => exact ⟨0, cur, Nat.zero_le _, rfl, by simp, HT0, HBt, HGw⟩
      case round =>
        obtain ⟨k, cs, hkn, rfl, rfl, T, A, G⟩ := hrel
        by_cases hlt : k < n - 1 - k
        · obtain ⟨j, hj⟩ : ∃ j : Nat, n - 1 - k = j := ⟨_, rfl⟩
          have hjI : (n : Int) - 1 - k = (j : Int) := by omega
          rw [hjI]
          have hbn := Hn'.out
          have tk := T.out k (by omega)
          have tj := T.out j (by omega)
          have hSt := turned_step T.out (by omega)
          rw [hbn, hj] at hSt
          generalize turnB bs k k = x at *
          generalize turnB bs k j = y at *
          have ck := (A.out.cell k).trans tk
          have cj := (A.out.cell j).trans tj
          have fk := A.out.fz k
          have A1 := A.out.set k (.int .u8 ((y.toNat : Nat) : Int))
          have cj1 : (wr.setCell ⟨g, k, none⟩ (.int .u8 ((y.toNat : Nat) : Int))).cell? ⟨g, j, none⟩ = some (.int .u8 ((y.toNat : Nat) : Int)) := by
            rw [A1.cell j, Array.getElem?_setIfInBounds, if_neg (by omega)]
            exact tj
          have fj1 := A1.fz j
          have HA2 : Hid (BAt _ g _) := A1.set j (.int .u8 ((x.toNat : Nat) : Int))
          have HSt : Hid (Turned bs (k + 1) _) := hSt
          have HG2 : Hid (w.grownBy ((wr.setCell ⟨g, k, none⟩ (.int .u8 ((y.toNat : Nat) : Int))).setCell ⟨g, j, none⟩ (.int .u8 ((x.toNat : Nat) : Int))) none) := gset (gset G.out (p := ⟨g, k, none⟩) hgw _) (p := ⟨g, j, none⟩) hgw _
          have i0 : (0 : Int) ≤ k := by omega
          have i1 : (k : Int) < j := by omega
          have i2 : (k : Int) < n := by omega
          have i3 : (0 : Int) ≤ j := by omega
          have i4 : (j : Int) < n := by omega
          clear A1 hSt tk tj T A G hbn hj
          generalize x.toNat = xn at *
          generalize y.toNat = yn at *
          go_wp2
          go_roundw
          case rel => exact ⟨k + 1, _, by omega, by go_num, by go_num, HSt, HA2, HG2⟩
          case measure => simp [RowKit.intOf]; omega
        · have hbn := Hn'.out
          have hfin := turned_done T.out (by rw [hbn]; exact hlt)
          have hstr := bytes_str wr g cap bs.reverse (fun m hm => by
            rw [List.length_reverse] at hm
            exact (A.out.cell m).trans (hfin m hm))
          rw [Hbd.out] at hstr
          have hdl : dd.length = n := by rw [← Hbd.out, List.length_reverse, hbn]
          rw [hdl] at hstr
          have i1 : ¬ (k : Int) < (n : Int) - 1 - k := by omega
          have HGz := G
          clear hfin T A G hbn hdl
          go_wp2
          go_ret
          exact ⟨rfl, HGz.out⟩
end Go.Proofs.YtioegjmcpjnmnaaGreatDoor

namespace Go.Proofs.YtioegjmcpjnmnaaGreatDoor
set_option linter.unusedVariables false
set_option linter.unusedSimpArgs false
set_option maxRecDepth 100000
open Go.RowKit Big

theorem grow_blk {w w' : World} {p : Nat} {o : Obj} (h : w.heap[p]? = some o) (hg : w.grownBy w' none) : w'.heap[p]? = some o := (hg.block p (blk_lt h) (by simp)).trans h
theorem grow_then {a b c : World} {p : Nat} (h : a.grownBy b none) (k : b.grownBy c (some p)) : a.grownBy c (some p) := gtrans (gweak h _) k

theorem string_any (p : Nat) (v : Value) (l : List Nat) (w : World) (h : IsBig w p false v l) (hl2 : l.length ≤ 2) :
    Calls Tryz.prog 51 #[.pointer (some ⟨p, 0, none⟩)] w fun e w' => e = .returned (.string (txt (Lib.decDigits (val l)))) ∧ w.grownBy w' none := by
  have HT : Hid (Calls _ _ _ _ _) := text_any p v l w h hl2
  clear h
  generalize txt (Lib.decDigits (val l)) = x at *
  go_enter Tryz.func51, Tryz.ntmps51
  go_wp2_with fail
  refine HT.out.mono ?_
  rintro e w1 ⟨rfl, hg⟩
  clear HT
  go_wp2
  go_ret
  exact ⟨rfl, hg⟩
end Go.Proofs.YtioegjmcpjnmnaaGreatDoor

namespace Go.Proofs.YtioegjmcpjnmnaaGreatDoor
set_option linter.unusedVariables false
set_option linter.unusedSimpArgs false
set_option maxRecDepth 100000
open Go.RowKit Go.Lib Big

theorem ap_below {B : Nat} {w a b : World} {row : Option Nat} (h : Below B w a) (k : a.grownBy b row) (hs : B ≤ a.heap.size) (hr : ∀ p, row = some p → B ≤ p) : Below B w b := h.grown k hs hr
theorem refPlanNum_any (p : Pn) (w : World) :
    Calls Tryz.prog 10 #[.agg p.cells] w fun e w' => e = .returned (.int .i64 (if spreadB p.amt p.fst p.per = true then 0 else 1)) ∧ Below w.heap.size w w' := by
  have b0 : Below w.heap.size w (w.alloc (.cells p.cells 37)) := (Below.refl _ w).alloc (Nat.le_refl _) _
  have H1 : Hid (∀ W, Calls Tryz.prog 31 #[.int .i64 p.amt] W fun e w' => e = .returned (.bool (isAmtB p.amt)) ∧ w' = W) := fun W => refAmount_any _ W
  have H2 : Hid (∀ W, Calls Tryz.prog 11 #[.int .i64 p.fst] W fun e w' => e = .returned (.bool (upTo p.fst 120)) ∧ w' = W) := fun W => period_any _ W
  have H3 : Hid (∀ W, Calls Tryz.prog 11 #[.int .i64 p.per] W fun e w' => e = .returned (.bool (upTo p.per 120)) ∧ w' = W) := fun W => period_any _ W
  obtain ⟨ref, en, fr, tw, cu, am, fs, pr⟩ := p
  obtain ⟨d0, d1, d2, d3, d4, d5, d6, d7⟩ := PnAt.new w ⟨ref, en, fr, tw, cu, am, fs, pr⟩ 37
  simp only [Pn.cells, Nat.zero_add] at b0 d0 d1 d2 d3 d4 d5 d6 d7 H1 H2 H3 ⊢
  obtain ⟨res, hres⟩ : ∃ res, (if spreadB am fs pr = true then (0 : Int) else 1) = res := ⟨_, rfl⟩
  have Hres : Hid ((if spreadB am fs pr = true then (0 : Int) else 1) = res) := hres
  rw [hres]
  clear hres
  have HE : Hid (spreadB am fs pr = (decide (am ≠ 0) && (isAmtB am && (upTo pr 120 && upTo fs 120)))) := rfl
  generalize spreadB am fs pr = sp at *
  go_enter Tryz.func10, Tryz.ntmps10
  go_wp2_with fail
  refine (H1.out _).mono ?_
  rintro e w' ⟨rfl, hw⟩
  rw [hw]; clear hw w' H1
  go_wp2_with fail
  refine (H2.out _).mono ?_
  rintro e w' ⟨rfl, hw⟩
  rw [hw]; clear hw w' H2
  go_wp2_with fail
  refine (H3.out _).mono ?_
  rintro e w' ⟨rfl, hw⟩
  rw [hw]; clear hw w' H3
  generalize isAmtB am = x1 at *
  generalize upTo pr 120 = x2 at *
  generalize upTo fs 120 = x3 at *
  by_cases h0 : am = 0
  · have er : res = 1 := by rw [← Hres.out, HE.out]; simp [h0]
    subst er
    subst h0
    clear Hres HE
    go_wp2
    go_ret
    exact ⟨rfl, b0⟩
  have h0' : (am == 0) = false := by simpa using h0
  cases x1
  · have er : res = 1 := by rw [← Hres.out, HE.out]; simp
    subst er
    clear Hres HE
    go_wp2
    go_ret
    exact ⟨rfl, b0⟩
  cases x3
  · have er : res = 1 := by rw [← Hres.out, HE.out]; simp
    subst er
    clear Hres HE
    go_wp2
    go_ret
    exact ⟨rfl, b0⟩
  cases x2
  · have er : res = 1 := by rw [← Hres.out, HE.out]; simp
    subst er
    clear Hres HE
    go_wp2
    go_ret
    exact ⟨rfl, b0⟩
  · have er : res = 0 := by rw [← Hres.out, HE.out]; simp [h0]
    subst er
    clear Hres HE
    go_wp2
    go_ret
    exact ⟨rfl, b0⟩
theorem refWhen_any (en pe : Int) (w : World) :
    Calls Tryz.prog 25 #[.int .i64 en, .int .i64 pe] w fun e w' => e = .returned (.int .i64 (if (upTo en 12 && upTo pe 120) = false then 1 else 0)) ∧ w' = w := by
  have H1 := entity_any en w
  have H2 := period_any pe w
  cases u1 : upTo en 12
  · rw [u1] at H1
    go_enter Tryz.func25, Tryz.ntmps25
    go_wp2_with fail
    refine H1.mono ?_
    rintro e w' ⟨rfl, hw⟩
    rw [hw]; clear hw w'
    go_wp2_with fail
    refine H2.mono ?_
    rintro e w' ⟨rfl, hw⟩
    rw [hw]; clear hw w'
    go_wp2
    go_ret
    exact ⟨rfl, rfl⟩
  · rw [u1] at H1
    cases u2 : upTo pe 120
    · rw [u2] at H2
      go_enter Tryz.func25, Tryz.ntmps25
      go_wp2_with fail
      refine H1.mono ?_
      rintro e w' ⟨rfl, hw⟩
      rw [hw]; clear hw w'
      go_wp2_with fail
      refine H2.mono ?_
      rintro e w' ⟨rfl, hw⟩
      rw [hw]; clear hw w'
      go_wp2
      go_ret
      exact ⟨rfl, rfl⟩
    · rw [u2] at H2
      go_enter Tryz.func25, Tryz.ntmps25
      go_wp2_with fail
      refine H1.mono ?_
      rintro e w' ⟨rfl, hw⟩
      rw [hw]; clear hw w'
      go_wp2_with fail
      refine H2.mono ?_
      rintro e w' ⟨rfl, hw⟩
      rw [hw]; clear hw w'
      go_wp2
      go_ret
      exact ⟨rfl, rfl⟩
theorem quo_word (pz px py : Nat) (z x y : Int) (w : World) (hz : BigIs w pz z) (hx : BigIs w px x) (hy : BigIs w py y) (bx : Few x) (y0 : 0 < y) (y1 : y < 4294967296) :
    Calls Tryz.prog 34 #[.pointer (some ⟨pz, 0, none⟩), .pointer (some ⟨px, 0, none⟩), .pointer (some ⟨py, 0, none⟩)] w fun e w' => e = .returned (.pointer (some ⟨pz, 0, none⟩)) ∧ Hid (BigIs w' pz (x.tdiv y) ∧ w.grownBy w' (some pz) ∧ ∀ p u, p ≠ pz → BigIs w p u → BigIs w' p u) := by
  have ga := World.grownBy_alloc w (.cells #[.bool false, .slice none 0 0] 86) Option.none
  have lz := hz.lt
  have Q : Hid (Calls Tryz.prog 57 #[.pointer (some ⟨pz, 0, none⟩), .pointer (some ⟨px, 0, none⟩), .pointer (some ⟨py, 0, none⟩), .pointer (some ⟨w.heap.size, 0, none⟩)] (w.alloc (.cells #[.bool false, .slice none 0 0] 86)) fun e w' => e = .returned (.tuple #[.pointer (some ⟨pz, 0, none⟩), .pointer (some ⟨w.heap.size, 0, none⟩)]) ∧ Hid (BigIs w' pz (x.tdiv y) ∧ w.grownBy w' (some pz) ∧ ∀ p u, p ≠ pz → BigIs w p u → BigIs w' p u)) := by
    refine (quoRem_big pz px py w.heap.size z 0 x y _ (hz.growBy ga) (bigis_new w) (by omega) (hx.growBy ga) (hy.growBy ga) bx y0 y1).mono ?_
    rintro e w' ⟨rfl, hR⟩
    obtain ⟨a1, a2, a3, a4⟩ := hR.out
    refine ⟨rfl, a1, ⟨a3.os.trans ga.os, a3.tape.trans ga.tape, a3.output.trans ga.output, Nat.le_trans ga.size a3.size, fun i hi hp => ?_⟩, fun p u hp hb => a4 p u hp (by have := hb.lt; omega) (hb.growBy ga)⟩
    rw [a3.block i (by simp; omega) (fun e => hp (by rw [e])) (by omega)]
    exact ga.block i hi (by simp)
  clear hz hx hy bx y0 ga
  go_enter Tryz.func34, Tryz.ntmps34
  go_wp2_with fail
  refine Q.out.mono ?_
  rintro e w1 ⟨rfl, hR⟩
  clear Q
  go_wp2
  go_ret
  exact ⟨rfl, hR⟩

theorem plDigits_any (n : Int) (h1 : 1 ≤ n) (h2 : n ≤ 120) (w : World) :
    Calls Tryz.prog 26 #[.int .i64 n] w fun e w' => e = .returned (.string (itS n)) ∧ Below w.heap.size w w' := by
  have HB : Hid (Calls _ _ _ _ _) := big_any n w (by omega) (by omega)
  have HS : Hid (∀ W, BigIs W w.heap.size n → Calls Tryz.prog 51 #[.pointer (some ⟨w.heap.size, 0, none⟩)] W fun e w' => e = .returned (.string (itS n)) ∧ W.grownBy w' none) := fun W hW => by
    obtain ⟨v, l, hb, hv, hl⟩ := mid_open hW (by unfold Mid63; omega)
    have := string_any w.heap.size v l W hb hl
    have e : txt (Lib.decDigits (val l)) = itS n := by
      have e1 : val l = n.toNat := by omega
      unfold itS Lib.itoa
      rw [if_neg (by omega), e1]
      rfl
    rw [e] at this
    exact this
  go_enter Tryz.func26, Tryz.ntmps26
  go_wp2_with fail
  refine HB.out.mono ?_
  rintro e w1 ⟨rfl, hb1, hg1⟩
  have HS1 : Hid (Calls _ _ _ _ _) := HS.out w1 hb1
  have B1 : Hid (Below w.heap.size w w1) := gbelow hg1
  clear HS HB hb1 hg1
  go_wp2_with fail
  refine HS1.out.mono ?_
  rintro e w2 ⟨rfl, hg2⟩
  have B2 : Hid (Below w.heap.size w w2) := ap_below B1.out hg2 B1.out.size (by simp)
  clear HS1 hg2 B1
  go_wp2
  go_ret
  exact ⟨rfl, B2.out⟩
theorem int64_big (p : Nat) (x : Int) (w : World) (h : BigIs w p x) (h1 : -9223372036854775808 ≤ x) (h2 : x ≤ 9223372036854775807) :
    Calls Tryz.prog 36 #[.pointer (some ⟨p, 0, none⟩)] w fun e w' => e = .returned (.int .i64 x) ∧ w' = w := by
  obtain ⟨neg, v, l, hb, rfl⟩ := h
  have hv : (val l : Int) ≤ 9223372036854775808 := by
    cases neg
    · have : sg false (val l) = (val l : Int) := rfl
      rw [this] at h2; omega
    · have : sg true (val l) = -(val l : Int) := rfl
      rw [this] at h1; omega
  exact int64_any p neg v l w hb (len_two hb.wd.ok hb.nrm (by omega)) h1 h2
set_option maxHeartbeats 4000000 in
theorem refPart_any (p : Pn) (pe : Int) (w : World) (h : spreadB p.amt p.fst p.per = true) (hp : upTo pe 120 = true) :
    Calls Tryz.prog 12 #[.agg p.cells, .int .i64 pe] w fun e w' => e = .returned (.int .i64 (partN p.amt p.fst p.per pe)) ∧ Below w.heap.size w w' := by
  have b0 : Below w.heap.size w (w.alloc (.cells p.cells 37)) := (Below.refl _ w).alloc (Nat.le_refl _) _
  have hx := PnAt.new w p 37
  obtain ⟨ref, en, fr, tw, cu, am, fs, pr⟩ := p
  simp only [Pn.cells] at b0 hx h ⊢
  obtain ⟨_, ha, hq, hf⟩ := spreadB_iff.1 h
  have hp' := upTo_iff.1 hp
  have e0 : IntKind.i64.wrap (fs + pr) = fs + pr := pn_wrap (by omega) (by omega)
  obtain ⟨d0, d1, d2, d3, d4, d5, d6, d7⟩ := hx
  simp only [Nat.zero_add] at d0 d1 d2 d3 d4 d5 d6 d7
  by_cases c1 : pe < fs
  · have er : partN am fs pr pe = 0 := by unfold partN; rw [if_pos (.inl (by omega))]
    rw [er]
    clear h hp er
    go_enter Tryz.func12, Tryz.ntmps12
    go_wp2
    go_ret
    exact ⟨rfl, b0⟩
  by_cases c2 : fs + pr ≤ pe
  · have er : partN am fs pr pe = 0 := by unfold partN; rw [if_pos (.inr (by omega))]
    rw [er]
    clear h hp er
    go_enter Tryz.func12, Tryz.ntmps12
    go_wp2
    go_ret
    exact ⟨rfl, b0⟩
  have er : partN am fs pr pe = (am * (pe - fs + 1)).tdiv pr - (am * (pe - fs)).tdiv pr := by unfold partN; rw [if_neg (by omega)]
  rw [er]
  obtain ⟨k, hk⟩ : ∃ k, pe - fs = k := ⟨_, rfl⟩
  have f0 : IntKind.i64.wrap (pe - fs) = k := by rw [hk]; exact pn_wrap (by omega) (by omega)
  rw [hk]
  have m1 := pn_mul ha (k := k + 1) (by omega) (by omega)
  have m0 := pn_mul ha (k := k) (by omega) (by omega)
  have q1 := pn_tdiv m1 hq.1
  have q0 := pn_tdiv m0 hq.1
  have e1 : IntKind.i64.wrap (k + 1) = k + 1 := pn_wrap (by omega) (by omega)
  have e2 : IntKind.i64.wrap k = k := pn_wrap (by omega) (by omega)
  have Hn : Hid ((-1000000000000000 ≤ am ∧ am ≤ 1000000000000000) ∧ (0 ≤ k ∧ k ≤ 119) ∧ (1 ≤ pr ∧ pr ≤ 120)) := ⟨by unfold mostA at ha; exact ha, by omega, hq⟩
  have Hm : Hid ((-120000000000000000 ≤ am * (k + 1) ∧ am * (k + 1) ≤ 120000000000000000) ∧ (-120000000000000000 ≤ am * k ∧ am * k ≤ 120000000000000000) ∧ (-120000000000000000 ≤ (am * (k + 1)).tdiv pr ∧ (am * (k + 1)).tdiv pr ≤ 120000000000000000) ∧ (-120000000000000000 ≤ (am * k).tdiv pr ∧ (am * k).tdiv pr ≤ 120000000000000000)) := ⟨m1, m0, q1, q0⟩
  obtain ⟨w0, hw0⟩ : ∃ w0, w.alloc (.cells #[.string ref, .int .i64 en, .string fr, .string tw, .string cu, .int .i64 am, .int .i64 fs, .int .i64 pr] 37) = w0 := ⟨_, rfl⟩
  have hsz : w.heap.size < w0.heap.size := by rw [← hw0]; simp
  have HD : Hid (∀ W, Below w0.heap.size w0 W → W.cell? ⟨w.heap.size, 5, none⟩ = some (.int .i64 am) ∧ W.cell? ⟨w.heap.size, 6, none⟩ = some (.int .i64 fs) ∧ W.cell? ⟨w.heap.size, 7, none⟩ = some (.int .i64 pr) ∧ Below w.heap.size w W) := fun W hW => by
    rw [hw0] at d5 d6 d7 b0
    exact ⟨(hW.cell (p := ⟨w.heap.size, 5, none⟩) hsz).trans d5, (hW.cell (p := ⟨w.heap.size, 6, none⟩) hsz).trans d6, (hW.cell (p := ⟨w.heap.size, 7, none⟩) hsz).trans d7, b0.trans (hW.mono (by omega))⟩
  have HB : Hid (∀ (x : Int) W, -1000000000000000 ≤ x → x ≤ 1000000000000000 → Calls Tryz.prog 32 #[.int .i64 x] W fun e w' => e = .returned (.pointer (some ⟨W.heap.size, 0, none⟩)) ∧ Hid (BigIs w' W.heap.size x ∧ W.grownBy w' none)) := fun x W a b => by
    refine (big_any x W (by omega) (by omega)).mono ?_
    rintro e w' ⟨rfl, h1, h2⟩
    exact ⟨rfl, h1, h2⟩
  clear h hp er hf hp' hk m1 m0 q1 q0 ha hq b0
  have c1' : ¬ pe < fs := c1
  have c2' : ¬ fs + pr ≤ pe := c2
  rw [hw0] at d0 d1 d2 d3 d4 d5 d6 d7
  have HW0 : Hid (_ = w0) := hw0
  clear hw0
  go_enter Tryz.func12, Tryz.ntmps12
  go_upto_region 1 with fail
  rw [HW0.out]
  clear HW0
  go_wp2_with fail
  refine (HB.out am w0 Hn.out.1.1 Hn.out.1.2).mono ?_
  rintro e w1 ⟨rfl, h1⟩
  have H1 : Hid (BigIs w1 w0.heap.size am ∧ Below w0.heap.size w0 w1 ∧ w0.heap.size < w1.heap.size) := ⟨h1.out.1, gbelow h1.out.2, h1.out.1.lt⟩
  clear h1 d0 d1 d2 d3 d4 d5 d6 d7 hsz
  obtain ⟨d5, d6, d7, _⟩ := HD.out w1 H1.out.2.1
  go_wp2_with fail
  refine (HB.out (k + 1) w1 (by have := Hn.out; omega) (by have := Hn.out; omega)).mono ?_
  rintro e w2 ⟨rfl, h2⟩
  have H2 : Hid (BigIs w2 w0.heap.size am ∧ BigIs w2 w1.heap.size (k + 1) ∧ Below w0.heap.size w0 w2 ∧ w1.heap.size < w2.heap.size ∧ w0.heap.size < w1.heap.size) :=
    ⟨H1.out.1.growBy h2.out.2, h2.out.1, ap_below H1.out.2.1 h2.out.2 H1.out.2.1.size (by simp), h2.out.1.lt, H1.out.2.2⟩
  clear h2 H1 d5 d6 d7
  obtain ⟨d5, d6, d7, _⟩ := HD.out w2 H2.out.2.2.1
  go_wp2_with fail
  refine (mul_big w0.heap.size w0.heap.size w1.heap.size am am (k + 1) w2 H2.out.1 H2.out.1 H2.out.2.1 (by have := Hn.out; unfold Few; omega) (by have := Hn.out; unfold Few; omega)).mono ?_
  rintro e w3 ⟨rfl, h3⟩
  have H3 : Hid (BigIs w3 w0.heap.size (am * (k + 1)) ∧ Below w0.heap.size w0 w3 ∧ w0.heap.size < w3.heap.size) :=
    ⟨h3.out.1, ap_below H2.out.2.2.1 h3.out.2 H2.out.2.2.1.size (fun p e => by cases e; exact Nat.le_refl _), h3.out.1.lt⟩
  clear h3 H2 d5 d6 d7
  obtain ⟨d5, d6, d7, _⟩ := HD.out w3 H3.out.2.1
  go_wp2_with fail
  refine (HB.out pr w3 (by have := Hn.out; omega) (by have := Hn.out; omega)).mono ?_
  rintro e w4 ⟨rfl, h4⟩
  have H4 : Hid (BigIs w4 w0.heap.size (am * (k + 1)) ∧ BigIs w4 w3.heap.size pr ∧ Below w0.heap.size w0 w4) :=
    ⟨H3.out.1.growBy h4.out.2, h4.out.1, ap_below H3.out.2.1 h4.out.2 H3.out.2.1.size (by simp)⟩
  clear h4 H3 d5 d6 d7
  obtain ⟨d5, d6, d7, _⟩ := HD.out w4 H4.out.2.2
  go_wp2_with fail
  refine (quo_word w0.heap.size w0.heap.size w3.heap.size (am * (k + 1)) (am * (k + 1)) pr w4 H4.out.1 H4.out.1 H4.out.2.1 (by have := Hm.out; unfold Few; omega) (by have := Hn.out; omega) (by have := Hn.out; omega)).mono ?_
  rintro e w5 ⟨rfl, h5⟩
  have H5 : Hid (BigIs w5 w0.heap.size ((am * (k + 1)).tdiv pr) ∧ Below w0.heap.size w0 w5 ∧ w0.heap.size < w5.heap.size) :=
    ⟨h5.out.1, ap_below H4.out.2.2 h5.out.2.1 H4.out.2.2.size (fun p e => by cases e; exact Nat.le_refl _), h5.out.1.lt⟩
  clear h5 H4 d5 d6 d7
  obtain ⟨d5, d6, d7, _⟩ := HD.out w5 H5.out.2.1
  go_wp2_with fail
  refine (HB.out am w5 Hn.out.1.1 Hn.out.1.2).mono ?_
  rintro e w6 ⟨rfl, h6⟩
  have H6 : Hid (BigIs w6 w0.heap.size ((am * (k + 1)).tdiv pr) ∧ BigIs w6 w5.heap.size am ∧ Below w0.heap.size w0 w6 ∧ w0.heap.size < w5.heap.size ∧ w5.heap.size < w6.heap.size) :=
    ⟨H5.out.1.growBy h6.out.2, h6.out.1, ap_below H5.out.2.1 h6.out.2 H5.out.2.1.size (by simp), H5.out.2.2, h6.out.1.lt⟩
  clear h6 H5 d5 d6 d7
  obtain ⟨d5, d6, d7, _⟩ := HD.out w6 H6.out.2.2.1
  go_wp2_with fail
  refine (HB.out k w6 (by have := Hn.out; omega) (by have := Hn.out; omega)).mono ?_
  rintro e w7 ⟨rfl, h7⟩
  have H7 : Hid (BigIs w7 w0.heap.size ((am * (k + 1)).tdiv pr) ∧ BigIs w7 w5.heap.size am ∧ BigIs w7 w6.heap.size k ∧ Below w0.heap.size w0 w7 ∧ w0.heap.size < w5.heap.size) :=
    ⟨H6.out.1.growBy h7.out.2, H6.out.2.1.growBy h7.out.2, h7.out.1, ap_below H6.out.2.2.1 h7.out.2 H6.out.2.2.1.size (by simp), H6.out.2.2.2.1⟩
  clear h7 H6 d5 d6 d7
  obtain ⟨d5, d6, d7, _⟩ := HD.out w7 H7.out.2.2.2.1
  go_wp2_with fail
  refine (mul_big w5.heap.size w5.heap.size w6.heap.size am am k w7 H7.out.2.1 H7.out.2.1 H7.out.2.2.1 (by have := Hn.out; unfold Few; omega) (by have := Hn.out; unfold Few; omega)).mono ?_
  rintro e w8 ⟨rfl, h8⟩
  have H8 : Hid (BigIs w8 w0.heap.size ((am * (k + 1)).tdiv pr) ∧ BigIs w8 w5.heap.size (am * k) ∧ Below w0.heap.size w0 w8 ∧ w0.heap.size < w5.heap.size) :=
    ⟨H7.out.1.kept (by have := H7.out.2.2.2.2; omega) H7.out.2.1 h8.out.2, h8.out.1, ap_below H7.out.2.2.2.1 h8.out.2 H7.out.2.2.2.1.size (fun p e => by cases e; exact Nat.le_of_lt H7.out.2.2.2.2), H7.out.2.2.2.2⟩
  clear h8 H7 d5 d6 d7
  obtain ⟨d5, d6, d7, _⟩ := HD.out w8 H8.out.2.2.1
  go_wp2_with fail
  refine (HB.out pr w8 (by have := Hn.out; omega) (by have := Hn.out; omega)).mono ?_
  rintro e w9 ⟨rfl, h9⟩
  have H9 : Hid (BigIs w9 w0.heap.size ((am * (k + 1)).tdiv pr) ∧ BigIs w9 w5.heap.size (am * k) ∧ BigIs w9 w8.heap.size pr ∧ Below w0.heap.size w0 w9 ∧ w0.heap.size < w5.heap.size) :=
    ⟨H8.out.1.growBy h9.out.2, H8.out.2.1.growBy h9.out.2, h9.out.1, ap_below H8.out.2.2.1 h9.out.2 H8.out.2.2.1.size (by simp), H8.out.2.2.2⟩
  clear h9 H8 d5 d6 d7
  obtain ⟨d5, d6, d7, _⟩ := HD.out w9 H9.out.2.2.2.1
  go_wp2_with fail
  refine (quo_word w5.heap.size w5.heap.size w8.heap.size (am * k) (am * k) pr w9 H9.out.2.1 H9.out.2.1 H9.out.2.2.1 (by have := Hm.out; unfold Few; omega) (by have := Hn.out; omega) (by have := Hn.out; omega)).mono ?_
  rintro e w10 ⟨rfl, h10⟩
  have H10 : Hid (BigIs w10 w0.heap.size ((am * (k + 1)).tdiv pr) ∧ BigIs w10 w5.heap.size ((am * k).tdiv pr) ∧ Below w0.heap.size w0 w10) :=
    ⟨h10.out.2.2 _ _ (by have := H9.out.2.2.2.2; omega) H9.out.1, h10.out.1, ap_below H9.out.2.2.2.1 h10.out.2.1 H9.out.2.2.2.1.size (fun p e => by cases e; exact Nat.le_of_lt H9.out.2.2.2.2)⟩
  clear h10 H9 d5 d6 d7
  go_wp2_with fail
  refine (sub_big w0.heap.size w0.heap.size w5.heap.size _ _ _ w10 H10.out.1 H10.out.1 H10.out.2.1 (by have := Hm.out; unfold Few; omega) (by have := Hm.out; unfold Few; omega)).mono ?_
  rintro e w11 ⟨rfl, h11⟩
  have H11 : Hid (BigIs w11 w0.heap.size ((am * (k + 1)).tdiv pr - (am * k).tdiv pr) ∧ Below w0.heap.size w0 w11) :=
    ⟨h11.out.1, ap_below H10.out.2.2 h11.out.2 H10.out.2.2.size (fun p e => by cases e; exact Nat.le_refl _)⟩
  clear h11 H10
  have hB := (HD.out w11 H11.out.2).2.2.2
  go_wp2_with fail
  refine (int64_big w0.heap.size _ w11 H11.out.1 (by have := Hm.out; omega) (by have := Hm.out; omega)).mono ?_
  rintro e w' ⟨rfl, hw⟩
  rw [hw]; clear hw w' H11
  go_wp2
  go_ret
  exact ⟨rfl, hB⟩
end Go.Proofs.YtioegjmcpjnmnaaGreatDoor
