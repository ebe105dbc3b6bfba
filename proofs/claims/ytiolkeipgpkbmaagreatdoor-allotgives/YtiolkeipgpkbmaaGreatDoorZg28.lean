/-
  One more law on a statement whose order of evaluation is left open: an operation that yields its value in every world may be taken first. It names no program.
-/
import Derived.Test.YtiolkeipgpkbmaaGreatDoorZg27
import Derived.Test.YtiolkeipgpkbmaaGreatDoorZg7
import Derived.Test.YtiolkeipgpkbmaaGreatDoorZg0
import Derived.Deep.RegionHeld
import Derived.Test.YtiolkeipgpkbmaaGreatDoorZg26
import Derived.Test.YtiolkeipgpkbmaaGreatDoorZg10
import Derived.Test.YtiolkeipgpkbmaaGreatDoorZg23
import Derived.Test.YtiolkeipgpkbmaaGreatDoorZg20
namespace Go.Proofs.YtiolkeipgpkbmaaGreatDoor
set_option linter.unusedVariables false
set_option linter.unusedSimpArgs false
set_option maxRecDepth 100000
open Go.RowKit Big

theorem nums_txt (l : List UInt8) : strOfNums (l.map fun b => (b.toNat : Int)) = txt l := by
  unfold strOfNums txt
  congr 1
  congr 1
  rw [List.map_map]
  conv => rhs; rw [← List.map_id l]
  apply List.map_congr_left
  intro b _
  simp
theorem bytes_str (W : World) (g cap : Nat) (l : List UInt8) (hc : ∀ m, m < l.length → W.cell? ⟨g, m, none⟩ = some (.int .u8 ((l.getD m 0).toNat : Nat))) : (convert 176 9 (.slice (some ⟨g, 0, none⟩) l.length cap)).run Tryz.prog W = .ok (.string (txt l)) W := by
  rw [run_convert_bytes_arg W 176 5 Tryz.underlying176 Tryz.underlying5 g 0 l.length cap (l.map fun b => (b.toNat : Int)) (by simp) (fun i hi => by
    rw [Nat.zero_add, hc i hi]
    simp [List.getD, hi]) 9 Tryz.underlying9, nums_txt]

/-- The length of a slice. -/
def slLen : Value → Nat
  | .slice _ n _ => n
  | _ => 0
theorem BRow.len {w : World} {n : Nat} {v : Value} {xs : List UInt8} (h : BRow w n v xs) : slLen v = xs.length := by
  rcases h.2 with ⟨rfl, h0⟩ | ⟨g1, c1, cur, rfl, _⟩
  · exact h0.symm
  · rfl

set_option maxHeartbeats 4000000 in
theorem text_any (p : Nat) (v : Value) (l : List Nat) (w : World) (h : IsBig w p false v l) (hl2 : l.length ≤ 2) :
    Calls Tryz.prog 87 #[.pointer (some ⟨p, 0, none⟩), .int .i64 10] w fun e w' => e = .returned (.string (txt (Lib.decDigits (val l)))) ∧ w.grownBy w' none := by
  have c0 := blk_cell0 h.blk
  have c1 := blk_cell1 h.blk
  have hp := blk_lt h.blk
  have Hblk : Hid (w.heap[p]? = some (.cells #[.bool false, v] 83 (0, 0))) := h.blk
  have hTw := twin_any v l w h.wd (by omega)
  have Hn : Hid (Nrm l) := h.nrm
  have hval : val l < 18446744073709551616 := by
    have := val_lt h.wd.ok
    rcases (by omega : l.length = 0 ∨ l.length = 1 ∨ l.length = 2) with e | e | e <;> rw [e] at this <;> omega
  obtain ⟨aa, ca, rfl, la, Oa, Fa⟩ := h.wd.form
  have hz := val_zero h.nrm
  clear h la Oa Fa
  by_cases h0 : l.length = 0
  · have hl : l = [] := List.eq_nil_of_length_eq_zero h0
    subst hl
    have e0 : txt (Lib.decDigits (val [])) = ⟨#[48]⟩ := by
      have : Lib.decDigits (val []) = [48] := by
        show Lib.decDigits 0 = _
        rw [Lib.decDigits]
        rfl
      rw [this]; rfl
    rw [e0]
    clear e0 hTw hz
    go_enter Tryz.func87, Tryz.ntmps87
    go_wp2
    go_ret
    exact ⟨rfl, grefl _ _⟩
  have hv0 : val l ≠ 0 := fun e => h0 (by rw [hz.1 e]; rfl)
  have hlz : ((l.length : Int) == 0) = false := by rw [beq_eq_false_iff_ne]; omega
  have HTw : Hid (Calls _ _ _ _ _) := hTw
  obtain ⟨dd, hdd⟩ : ∃ dd, Lib.decDigits (val l) = dd := ⟨_, rfl⟩
  have hd20 : dd.length ≤ 20 := by
    rw [← hdd, Lib.decDigits_length]
    exact dec_few _ 20 (by decide) (Nat.lt_of_lt_of_le hval (by decide))
  have hd0 : dd ≠ [] := by rw [← hdd]; exact dec_ne _
  have Hstart : Hid (decL (val l) ++ ([] : List UInt8).reverse = dd) := by
    unfold Hid decL
    rw [if_neg hv0, hdd]
    simp
  rw [hdd]
  clear hdd hTw hz hv0 hval
  obtain ⟨i0, hi, hz0, hz1, hz2⟩ := info_parts u8_info
  go_enter Tryz.func87, Tryz.ntmps87
  go_wp2_with fail
  refine HTw.out.mono ?_
  rintro e w1 ⟨v1, rfl, hw1⟩
  obtain ⟨aw, cw, ew, _⟩ := hw1.out.1.form
  subst ew
  have Hw1 : Hid (Wd w1 (.slice aw l.length cw) l) := hw1.out.1
  have G1 : Hid (w.grownBy w1 none) := hw1.out.2
  clear HTw hw1
  go_wp2
  go_loopw [5, 6, 7] (fun bv av _ wr => ∃ (lq : List Nat) (bs : List UInt8) (aq : Option Addr) (cq : Nat), av = .slice aq lq.length cq ∧ lq.length ≤ 2 ∧ Hid (Wd wr av lq) ∧ Hid (Nrm lq) ∧ Hid (decL (val lq) ++ bs.reverse = dd) ∧ Hid (BRow wr w.heap.size bv bs) ∧ Hid (∀ j, bv.ownBlock = some j → ∀ o, aq ≠ some ⟨j, o, none⟩) ∧ Hid (w.grownBy wr none)) (fun bv _ _ _ => 21 - slLen bv)
  case atStart => exact ⟨l, [], aw, cw, rfl, hl2, Hw1, Hn, Hstart, World.ownsRow_nil _ _ _ _, fun j e => (by cases e), G1⟩
  case round =>
    obtain ⟨lq, bs, aq, cq, rfl, hq2, HW, HN, HD, HB, HA, HG⟩ := hrel
    by_cases hq0 : 0 < lq.length
    · have hq0' : (0 : Int) < lq.length := by omega
      have hu0 : 0 < val lq := Nat.pos_of_ne_zero (fun e => by
        have := (val_zero HN.out).1 e
        rw [this] at hq0
        simp at hq0)
      have hSm := small_at _ lq 10 wr HW.out (by decide) (by decide) (by omega) hq0
      have e10 : ((10 : Nat) : Int) = 10 := rfl
      rw [e10] at hSm
      have HSm : Hid (Calls _ _ _ _ _) := hSm
      have Hst := decL_step hu0
      have Hst : Hid (decL (val lq) = _) := Hst
      have hr10 : val lq % 10 < 10 := Nat.mod_lt _ (by decide)
      generalize val lq % 10 = rr at *
      have hbl : bs.length + 1 ≤ 20 := by
        have h1 := congrArg List.length HD.out
        rw [Hst.out] at h1
        simp at h1
        omega
      clear hSm e10 hu0
      go_wp2_with fail
      refine HSm.out.mono ?_
      rintro e w2 ⟨lx, cx, rfl, hW2, hN2, hV2, hL2, hG2⟩
      have hX : (48 : Int) + rr = ((UInt8.ofNat (48 + rr)).toNat : Int) := by simp; omega
      have HX : Hid (_ = _) := hX
      have HV2 : Hid (val lx = val lq / 10) := hV2
      have HN2 : Hid (Nrm lx) := hN2
      have HW2 : Hid (Wd w2 _ lx) := hW2
      have hsz2 : wr.heap.size ≤ w2.heap.size := hG2.size
      have hszw := HG.out.size
      have HG2 : Hid (w.grownBy w2 none) := gtrans HG.out hG2
      have HB2 : Hid (BRow w2 w.heap.size _ bs) := HB.out.grow hG2
      have hoj := HB.out.own
      have s2 : Hid (bs.length + 1 ≤ maxLen) := by unfold Hid maxLen; omega
      have s3 : Hid ((bs.length + 1) * 1 ≤ 140737488355328) := by unfold Hid; omega
      have r1 : (rr : Int) < 10 := by omega
      have r2 : (0 : Int) ≤ rr := by omega
      have HSl : Hid _ := HB.out.len
      clear HSm hX hV2 hN2 hW2 hG2 HW HN HA HG HB
      go_wp2_with (at_builtin; refine wpList_append_own_at _ rfl _ _ 176 rfl w.heap.size 5 i0 (.int .u8 0) 1 1 Tryz.underlying176 hi hz0 hz1 hz2 rfl (by decide) _ _ _ rfl (World.ownsRow.alloc HB2.out _) ⟨w2.heap.size, 0, none⟩ 1 1 [.int .u8 ((48 : Int) + rr)] rfl rfl (one_new _ _ _) (by simp [Value.oneCell']) s2.out s3.out (by simp; omega) ?_)
      intro v' w3 hown hgrow _ hob
      have hgr : w2.grownBy w3 _ := gtrans (gweak (World.grownBy_alloc w2 (.cells #[.int .u8 ((48 : Int) + rr)] 5) none) _) hgrow
      have HB3 : Hid (BRow w3 w.heap.size v' (bs ++ [UInt8.ofNat (48 + rr)])) := by
        unfold Hid BRow
        rw [List.map_append, List.length_append]
        have e1 : [UInt8.ofNat (48 + rr)].map (fun b => Value.int .u8 (b.toNat : Nat)) = [.int .u8 ((48 : Int) + rr)] := by rw [HX.out]; rfl
        rw [e1]
        exact hown
      have HW3 : Hid (Wd w3 (.slice (some ⟨wr.heap.size, 0, none⟩) lx.length cx) lx) := HW2.out.keep hgr (fun b off n cap e hh => by
        cases e
        have := (hoj _ hh.symm).2
        omega)
      have HG3 : Hid (w.grownBy w3 none) := by
        unfold Hid
        have g2 := HG2.out
        refine ⟨hgr.os.trans g2.os, hgr.tape.trans g2.tape, hgr.output.trans g2.output, Nat.le_trans g2.size hgr.size, fun b hb _ => ?_⟩
        refine (hgr.block b (Nat.lt_of_lt_of_le hb g2.size) (fun e => ?_)).trans (g2.block b hb (by simp))
        have := (hoj b e.symm).1
        omega
      have HA3 : Hid (∀ j, v'.ownBlock = some j → ∀ o, some (⟨wr.heap.size, 0, none⟩ : Addr) ≠ some ⟨j, o, none⟩) := fun j hj o e => by
        cases e
        rcases hob with hob | hob
        · rw [hj] at hob
          have := (hoj _ hob.symm).2
          omega
        · rw [hj] at hob
          have := Option.some.inj hob
          try simp at this
          omega
      have HD3 : Hid (decL (val lx) ++ (bs ++ [UInt8.ofNat (48 + rr)]).reverse = dd) := by
        unfold Hid
        rw [← HD.out, Hst.out, HV2.out]
        simp
      have HL3 := HB3.out.len
      clear hown hgrow hgr hob HB2 HW2 HG2 HV2 HX HD Hst hoj s2 s3
      go_wp2
      go_roundw
      case rel => exact ⟨lx, _, _, cx, rfl, by omega, HW3, HN2, HD3, HB3, HA3, HG3⟩
      case measure =>
        have := HSl.out
        rw [HL3, this, List.length_append]
        simp only [List.length_cons, List.length_nil]
        omega
    · have hlq : lq = [] := List.eq_nil_of_length_eq_zero (by omega)
      have hbd : bs.reverse = dd := by
        have := HD.out
        rw [hlq] at this
        simpa [decL, val] using this
      have hbl : bs.length = dd.length := by rw [← hbd, List.length_reverse]
      have hb0 : 0 < bs.length := by rw [hbl]; exact List.length_pos_iff.2 hd0
      rcases HB.out.2 with ⟨_, h1⟩ | ⟨g, cap, cur, hbv, hg, hh, hcap, hcs, hsz, htk⟩
      · omega
      subst hbv
      have hcur : ∀ m, m < bs.length → cur[m]? = some (.int .u8 ((bs.getD m 0).toNat : Nat)) := fun m hm => by
        have h1 : (cur.toList.take (bs.length * 1))[m]? = (bs.map fun b => Value.int .u8 (b.toNat : Nat))[m]? := by rw [htk]
        rw [List.getElem?_take, if_pos (by omega)] at h1
        simp [hm] at h1
        simp [List.getD, hm]
        simpa using h1
      have HT0 : Hid (Turned bs 0 cur) := turned_start bs hcur
      have HBt : Hid (BAt wr g cur) := hh
      have d0 : wr.cell? ⟨p, 0, none⟩ = some (.bool false) := HG.out.cell c0 (by simp)
      have hq0' : ¬ (0 : Int) < lq.length := by omega
      have n20 : (bs.length : Int) ≤ 20 := by omega
      have n1 : (1 : Int) ≤ bs.length := by omega
      have Hbd : Hid (bs.reverse = dd) := hbd
      obtain ⟨n, hn⟩ : ∃ n, bs.length = n := ⟨_, rfl⟩
      have Hn' : Hid (bs.length = n) := hn
      rw [hn] at n20 n1 hb0 hcap
      have HGw : Hid (w.grownBy wr none) := HG.out
      have hgw := hg
      rw [hn]
      clear HW HN HD HB HA HG hh hcur htk hsz hcs hbd hbl hn hlq Hblk c0 c1
      obtain ⟨wE, hwE⟩ : ∃ wE, wE = wr := ⟨_, rfl⟩
      subst hwE
      go_wp2
      go_loopw [8, 9, 10] (fun iv jv _ wq => ∃ k : Nat, ∃ cs : Array Value, k ≤ n ∧ iv = .int .i64 k ∧ jv = .int .i64 ((n : Int) - 1 - k) ∧ Hid (Turned bs k cs) ∧ Hid (BAt wq g cs) ∧ Hid (w.grownBy wq none)) (fun iv _ _ _ => n - (RowKit.intOf iv).toNat)
      case atStart => exact ⟨0, cur, Nat.zero_le _, rfl, by simp, HT0, HBt, HGw⟩
      case round =>
        obtain ⟨k, cs, hkn, rfl, rfl, T, A, G⟩ := hrel
        by_cases hlt : k < n - 1 - k
        · obtain ⟨j, hj⟩ : ∃ j : Nat, n - 1 - k = j := ⟨_, rfl⟩
          have hjI : (n : Int) - 1 - k = (j : Int) := by omega
          rw [hjI]
          have hbn := Hn'.out
          have tk := T.out k (by omega)
          have tj := T.out j (by omega)
          have hSt := turned_step T.out (by omega)
          rw [hbn, hj] at hSt
          generalize turnB bs k k = x at *
          generalize turnB bs k j = y at *
          have ck := (A.out.cell k).trans tk
          have cj := (A.out.cell j).trans tj
          have fk := A.out.fz k
          have A1 := A.out.set k (.int .u8 ((y.toNat : Nat) : Int))
          have cj1 : (wr.setCell ⟨g, k, none⟩ (.int .u8 ((y.toNat : Nat) : Int))).cell? ⟨g, j, none⟩ = some (.int .u8 ((y.toNat : Nat) : Int)) := by
            rw [A1.cell j, Array.getElem?_setIfInBounds, if_neg (by omega)]
            exact tj
          have fj1 := A1.fz j
          have HA2 : Hid (BAt _ g _) := A1.set j (.int .u8 ((x.toNat : Nat) : Int))
          have HSt : Hid (Turned bs (k + 1) _) := hSt
          have HG2 : Hid (w.grownBy ((wr.setCell ⟨g, k, none⟩ (.int .u8 ((y.toNat : Nat) : Int))).setCell ⟨g, j, none⟩ (.int .u8 ((x.toNat : Nat) : Int))) none) := gset (gset G.out (p := ⟨g, k, none⟩) hgw _) (p := ⟨g, j, none⟩) hgw _
          have i0 : (0 : Int) ≤ k := by omega
          have i1 : (k : Int) < j := by omega
          have i2 : (k : Int) < n := by omega
          have i3 : (0 : Int) ≤ j := by omega
          have i4 : (j : Int) < n := by omega
          clear A1 hSt tk tj T A G hbn hj
          generalize x.toNat = xn at *
          generalize y.toNat = yn at *
          go_wp2
          go_roundw
          case rel => exact ⟨k + 1, _, by omega, by go_num, by go_num, HSt, HA2, HG2⟩
          case measure => simp [RowKit.intOf]; omega
        · have hbn := Hn'.out
          have hfin := turned_done T.out (by rw [hbn]; exact hlt)
          have hstr := bytes_str wr g cap bs.reverse (fun m hm => by
            rw [List.length_reverse] at hm
            exact (A.out.cell m).trans (hfin m hm))
          rw [Hbd.out] at hstr
          have hdl : dd.length = n := by rw [← Hbd.out, List.length_reverse, hbn]
          rw [hdl] at hstr
          have i1 : ¬ (k : Int) < (n : Int) - 1 - k := by omega
          have HGz := G
          clear hfin T A G hbn hdl
          go_wp2
          go_ret
          exact ⟨rfl, HGz.out⟩
end Go.Proofs.YtiolkeipgpkbmaaGreatDoor

namespace Go.Proofs.YtiolkeipgpkbmaaGreatDoor
set_option linter.unusedVariables false
set_option linter.unusedSimpArgs false
set_option maxRecDepth 100000
open Go.RowKit Big

theorem grow_blk {w w' : World} {p : Nat} {o : Obj} (h : w.heap[p]? = some o) (hg : w.grownBy w' none) : w'.heap[p]? = some o := (hg.block p (blk_lt h) (by simp)).trans h
theorem grow_then {a b c : World} {p : Nat} (h : a.grownBy b none) (k : b.grownBy c (some p)) : a.grownBy c (some p) := gtrans (gweak h _) k

theorem abs_self (p : Nat) (neg : Bool) (v : Value) (l : List Nat) (w : World) (h : IsBig w p neg v l) (hl : l.length < 35184372088832) :
    Calls Tryz.prog 42 #[.pointer (some ⟨p, 0, none⟩), .pointer (some ⟨p, 0, none⟩)] w fun e w' => ∃ v', e = .returned (.pointer (some ⟨p, 0, none⟩)) ∧ IsBig w' p false v' l ∧ w.grownBy w' (some p) := by
  have c1 := blk_cell1 h.blk
  have HT : Hid (Calls _ _ _ _ _) := twin_any v l w h.wd hl
  have HGv : Hid (∀ w1 v1, Wd w1 v1 l → w.grownBy w1 none → Calls Tryz.prog 79 #[.pointer (some ⟨p, 0, none⟩), .bool false, v1] w1 fun e w' => e = .returned (.pointer (some ⟨p, 0, none⟩)) ∧ IsBig w' p (false && decide (0 < l.length)) v1 l ∧ w1.grownBy w' (some p)) := fun w1 v1 hw hg => give_any p false neg v v1 l w1 (grow_blk h.blk hg) h.wd.noInt hw h.nrm
  obtain ⟨a, cap, rfl⟩ := h.wd.slice
  clear h
  go_enter Tryz.func42, Tryz.ntmps42
  go_wp2_with fail
  refine HT.out.mono ?_
  rintro e w1 ⟨v1, rfl, hw1⟩
  obtain ⟨a1, cap1, rfl⟩ := hw1.out.1.slice
  have HC : Hid (Calls _ _ _ _ _) := HGv.out w1 _ hw1.out.1 hw1.out.2
  have HG1 : Hid (w.grownBy w1 none) := hw1.out.2
  clear HT HGv hw1
  go_wp2_with fail
  refine HC.out.mono ?_
  rintro e w2 ⟨rfl, hB, hg⟩
  have HB : Hid (IsBig w2 p _ _ l) := hB
  have HG2 : Hid (w.grownBy w2 (some p)) := grow_then HG1.out hg
  clear HC hB hg HG1
  go_wp2
  go_ret
  exact ⟨_, rfl, HB.out, HG2.out⟩
theorem string_any (p : Nat) (v : Value) (l : List Nat) (w : World) (h : IsBig w p false v l) (hl2 : l.length ≤ 2) :
    Calls Tryz.prog 50 #[.pointer (some ⟨p, 0, none⟩)] w fun e w' => e = .returned (.string (txt (Lib.decDigits (val l)))) ∧ w.grownBy w' none := by
  have HT : Hid (Calls _ _ _ _ _) := text_any p v l w h hl2
  clear h
  generalize txt (Lib.decDigits (val l)) = x at *
  go_enter Tryz.func50, Tryz.ntmps50
  go_wp2_with fail
  refine HT.out.mono ?_
  rintro e w1 ⟨rfl, hg⟩
  clear HT
  go_wp2
  go_ret
  exact ⟨rfl, hg⟩
end Go.Proofs.YtiolkeipgpkbmaaGreatDoor

namespace Go.Proofs.YtiolkeipgpkbmaaGreatDoor
set_option linter.unusedVariables false
set_option linter.unusedSimpArgs false
set_option maxRecDepth 100000
open Go.RowKit Go.Lib Big

theorem dig_text (k : Nat) (hk : k < 20) : txt (Lib.decDigits k) = digS k := by
  revert k
  refine lt20 (p := fun k => txt (Lib.decDigits k) = digS k) ?_ ?_ ?_ ?_ ?_ ?_ ?_ ?_ ?_ ?_ ?_ ?_ ?_ ?_ ?_ ?_ ?_ ?_ ?_ ?_ <;> kernel_rfl
theorem refDig_any (k : Nat) (hk : k < 20) (w : World) :
    Calls Tryz.prog 21 #[.int .i64 ((k : Nat) : Int)] w fun e w' => e = .returned (.string (digS k)) ∧ Below w.heap.size w w' := by
  have HB : Hid (Calls _ _ _ _ _) := big_any (k : Int) w (by omega) (by omega)
  have HS : Hid (∀ W, BigIs W w.heap.size (k : Int) → Calls Tryz.prog 50 #[.pointer (some ⟨w.heap.size, 0, none⟩)] W fun e w' => e = .returned (.string (digS k)) ∧ W.grownBy w' none) := fun W hW => by
    obtain ⟨v, l, hb, hv, hl⟩ := mid_open hW (by unfold Mid63; omega)
    have := string_any w.heap.size v l W hb hl
    have e1 : val l = k := by omega
    rw [e1, dig_text k hk] at this
    exact this
  clear hk
  go_enter Tryz.func21, Tryz.ntmps21
  go_wp2_with fail
  refine HB.out.mono ?_
  rintro e w1 ⟨rfl, hb1, hg1⟩
  have HS1 : Hid (Calls _ _ _ _ _) := HS.out w1 hb1
  have B1 : Hid (Below w.heap.size w w1) := gbelow hg1
  clear HS HB hb1 hg1
  go_wp2_with fail
  refine HS1.out.mono ?_
  rintro e w2 ⟨rfl, hg2⟩
  have B2 : Hid (Below w.heap.size w w2) := ap_below B1.out hg2 B1.out.size (by simp)
  clear HS1 hg2 B1
  go_wp2
  go_ret
  exact ⟨rfl, B2.out⟩
end Go.Proofs.YtiolkeipgpkbmaaGreatDoor

namespace Go.Proofs.YtiolkeipgpkbmaaGreatDoor
set_option linter.unusedVariables false
set_option linter.unusedSimpArgs false
set_option maxRecDepth 100000
open Go.RowKit Go.Lib

theorem Box4.grown {W W' : World} {b : Nat} {r : ByteArray} {en pe : Int} {v : Value} {row : Option Nat} (h : Box4 W b r en pe v) (hg : W.grownBy W' row) (hr : ∀ j, row = some j → b ≠ j) : Box4 W' b r en pe v :=
  (hg.block b (Array.getElem?_eq_some_iff.1 h).1 (fun e => hr b e.symm rfl)).trans h
theorem Box4.set3 {W : World} {b : Nat} {r : ByteArray} {en pe : Int} {v : Value} (h : Box4 W b r en pe v) (u : Value) : Box4 (W.setCell ⟨b, 3, none⟩ u) b r en pe u := by
  unfold Box4 at *
  rw [setCell_eq_setRow W b 3 _ 59 (0, 0) _ h, setRow_heap W b _ _ 59 (0, 0) h]
  simp
end Go.Proofs.YtiolkeipgpkbmaaGreatDoor

namespace Go.Proofs.YtiolkeipgpkbmaaGreatDoor
open Go
set_option linter.unusedVariables false

section
variable {P : Program} {ops : Array Oper} {Q : Exit → Act → World → Prop} {md : Region.Mode} {T : World → Prop} {g : Nat}

theorem L_firstC {i : Nat} {oi : Oper} {v : Value} {C : List Nat} (hi : ops[i]? = some oi) (hC : ∀ k ∈ C, ∃ ok, ops[k]? = some ok ∧ ∃ e ∈ ok.after, Region.binds md e = true ∧ (e.on = i ∨ e.on ∈ C)) (hgC : g ∈ C) (hgi : g ≠ i)
    (hsel : ∀ (j : Nat) (o : Oper) cs b, ops[j]? = some o → o.op ≠ .select cs b) (hQ : ∀ c a w, Q (.panic c) (a.put oi.dst v) w → Q (.panic c) a w) :
    ∀ (fuel : Nat) (listed : Array Bool) (a : Act) (w : World),
      (∀ j oj, ops[j]? = some oj → j ≠ i → listed.getD j true = false → (∀ e ∈ oj.after, Region.binds md e = true → e.on ≠ i) → oi.apart ops oj = true) →
      i ∈ Region.ready md ops listed → (∀ k ∈ C, listed.getD k true = false) → YieldsIf P ops T oi v a → T w →
      wpAnyL P md ops Q g T fuel (listed.setIfInBounds i true) (a.put oi.dst v) w → wpAnyL P md ops Q g T (fuel + 1) listed a w := by
  intro fuel
  induction fuel with
  | zero =>
    intro listed a w _ hr _ hy hT H
    refine ⟨fun h => (by rw [h] at hr; cases hr), fun j hj => ?_⟩
    by_cases hji : j = i
    · subst hji; exact hy.wpOp hi hT ⟨fun _ => hT, H⟩
    · have := ready_mono hj hji
      rw [H.1] at this
      cases this
  | succ fuel ih =>
    intro listed a w hfree hr hlC hy hT H
    refine ⟨fun h => (by rw [h] at hr; cases hr), fun j hj => ?_⟩
    by_cases hji : j = i
    · subst hji; exact hy.wpOp hi hT ⟨fun _ => hT, H⟩
    · have h1 := H.2 j (ready_mono hj hji)
      obtain ⟨hjun, oj, hoj, hall⟩ := mem_ready.1 hj
      have hnot : ∀ e ∈ oj.after, Region.binds md e = true → e.on ≠ i := fun e he hb heq => by
        have h1 := hall e he hb
        have h0 := (mem_ready.1 hr).1
        rw [heq] at h1
        rcases Nat.lt_or_ge i listed.size with h' | h'
        · simp [h'] at h0 h1; rw [h0] at h1; cases h1
        · simp [Array.getElem?_eq_none h'] at h1
      have hjC : ∀ k ∈ C, j ≠ k := fun k hk hjk => by
        obtain ⟨ok, hok, e, he, hb, ho⟩ := hC k hk
        rw [← hjk, hoj] at hok
        cases hok
        rcases ho with ho | ho
        · exact hnot e he hb ho
        · have h1 := hall e he hb
          have hl := hlC _ ho
          rcases Nat.lt_or_ge e.on listed.size with h' | h'
          · simp [h'] at hl h1; rw [hl] at h1; cases h1
          · simp [Array.getElem?_eq_none h'] at h1
      have h2 := wpOp_putIf hoj (hfree j oj hoj hji hjun hnot) (fun cs b => hsel i oi cs b hi) (fun cs b => hsel j oj cs b hoj) hQ hy h1
      have hfree' : ∀ k ok, ops[k]? = some ok → k ≠ i → (listed.setIfInBounds j true).getD k true = false →
          (∀ e ∈ ok.after, Region.binds md e = true → e.on ≠ i) → oi.apart ops ok = true := fun k ok hk hki hun hno => by
        refine hfree k ok hk hki ?_ hno
        by_cases hjk : j = k
        · subst hjk; exact hjun
        · rw [getD_set_ne true hjk] at hun; exact hun
      have hlC' : ∀ k ∈ C, (listed.setIfInBounds j true).getD k true = false := fun k hk => by rw [getD_set_ne true (hjC k hk)]; exact hlC k hk
      refine wpOp_mono (fun a' w' h3 => ?_) h2
      have hT' : T w' := h3.2.1 (by rw [getD_set_ne true (hjC g hgC), getD_set_ne true (Ne.symm hgi)]; exact hlC g hgC)
      refine ⟨fun _ => hT', ih (listed.setIfInBounds j true) a' w' hfree' (ready_mono hr (Ne.symm hji)) hlC' h3.1 hT' ?_⟩
      rw [Array.setIfInBounds_comm _ _ hji]
      exact h3.2.2

/-- One of a chain waits for the operation, or for another of the chain. -/
def waits (md : Region.Mode) (ops : Array Oper) (i : Nat) (C : List Nat) (k : Nat) : Bool := match ops[k]? with
  | some ok => ok.after.any fun e => Region.binds md e && (e.on == i || C.contains e.on)
  | none => false
/-- The move of a walk. -/
theorem L_takeC (C : List Nat) {i : Nat} {oi : Oper} {v : Value} {fuel : Nat} {listed : Array Bool} {a : Act} {w : World} (hi : ops[i]? = some oi)
    (hC : C.all (waits md ops i C) = true) (hgC : C.contains g = true) (hgi : g ≠ i)
    (hs : Region.noSelect ops = true) (hf : Region.free md ops listed i = true) (hr : (Region.ready md ops listed).contains i = true) (hl : C.all (fun k => !(listed.getD k true)) = true)
    (hQ : ∀ c a w, Q (.panic c) (a.put oi.dst v) w → Q (.panic c) a w) (hy : YieldsIf P ops T oi v a) (hT : T w)
    (h : wpAnyL P md ops Q g T fuel (listed.setIfInBounds i true) (a.put oi.dst v) w) : wpAnyL P md ops Q g T (fuel + 1) listed a w := by
  refine L_firstC hi (fun k hk => ?_) (by simpa using hgC) hgi (Region.noSelect_spec hs) hQ fuel listed a w (Region.free_spec hi hf) (by simpa using hr) (fun k hk => ?_) hy hT h
  · have := List.all_eq_true.1 hC k hk
    unfold waits at this
    split at this
    · rename_i ok hok
      rw [Array.any_eq_true] at this
      obtain ⟨q, hq, he⟩ := this
      simp only [Bool.and_eq_true, Bool.or_eq_true, beq_iff_eq, List.contains_iff_mem] at he
      exact ⟨ok, hok, ok.after[q], Array.getElem_mem hq, he.1, he.2⟩
    · cases this
  · have := List.all_eq_true.1 hl k hk
    simpa using this
end
end Go.Proofs.YtiolkeipgpkbmaaGreatDoor

namespace Go.Proofs.YtiolkeipgpkbmaaGreatDoor
open Go
set_option linter.unusedVariables false

section
variable {P : Program} {ops : Array Oper} {Q : Exit → Act → World → Prop} {md : Region.Mode} {T : World → Prop} {g : Nat}

theorem L_firstP {i : Nat} {oi : Oper} {v : Value} (hi : ops[i]? = some oi) (hgi : g ≠ i)
    (hsel : ∀ (j : Nat) (o : Oper) cs b, ops[j]? = some o → o.op ≠ .select cs b) (hQ : ∀ c a w, Q (.panic c) (a.put oi.dst v) w → Q (.panic c) a w) :
    ∀ (fuel : Nat) (listed : Array Bool) (a : Act) (w : World),
      (∀ j oj, ops[j]? = some oj → j ≠ i → listed.getD j true = false → (∀ e ∈ oj.after, Region.binds md e = true → e.on ≠ i) → oi.apart ops oj = true) →
      i ∈ Region.ready md ops listed → YieldsIf P ops (fun _ => True) oi v a → (listed.getD g true = false → T w) →
      wpAnyL P md ops Q g T fuel (listed.setIfInBounds i true) (a.put oi.dst v) w → wpAnyL P md ops Q g T (fuel + 1) listed a w := by
  have hset : ∀ listed : Array Bool, (listed.setIfInBounds i true).getD g true = listed.getD g true := fun listed => getD_set_ne true (Ne.symm hgi)
  intro fuel
  induction fuel with
  | zero =>
    intro listed a w _ hr hy hT H
    refine ⟨fun h => (by rw [h] at hr; cases hr), fun j hj => ?_⟩
    by_cases hji : j = i
    · subst hji; exact hy.wpOp hi trivial ⟨fun h => hT (by rw [← hset]; exact h), H⟩
    · have := ready_mono hj hji
      rw [H.1] at this
      cases this
  | succ fuel ih =>
    intro listed a w hfree hr hy hT H
    refine ⟨fun h => (by rw [h] at hr; cases hr), fun j hj => ?_⟩
    by_cases hji : j = i
    · subst hji; exact hy.wpOp hi trivial ⟨fun h => hT (by rw [← hset]; exact h), H⟩
    · have h1 := H.2 j (ready_mono hj hji)
      obtain ⟨hjun, oj, hoj, hall⟩ := mem_ready.1 hj
      have hnot : ∀ e ∈ oj.after, Region.binds md e = true → e.on ≠ i := fun e he hb heq => by
        have h1 := hall e he hb
        have h0 := (mem_ready.1 hr).1
        rw [heq] at h1
        rcases Nat.lt_or_ge i listed.size with h' | h'
        · simp [h'] at h0 h1; rw [h0] at h1; cases h1
        · simp [Array.getElem?_eq_none h'] at h1
      have h2 := wpOp_putIf hoj (hfree j oj hoj hji hjun hnot) (fun cs b => hsel i oi cs b hi) (fun cs b => hsel j oj cs b hoj) hQ hy h1
      have hfree' : ∀ k ok, ops[k]? = some ok → k ≠ i → (listed.setIfInBounds j true).getD k true = false →
          (∀ e ∈ ok.after, Region.binds md e = true → e.on ≠ i) → oi.apart ops ok = true := fun k ok hk hki hun hno => by
        refine hfree k ok hk hki ?_ hno
        by_cases hjk : j = k
        · subst hjk; exact hjun
        · rw [getD_set_ne true hjk] at hun; exact hun
      refine wpOp_mono (fun a' w' h3 => ?_) h2
      have hT' : (listed.setIfInBounds j true).getD g true = false → T w' := fun hg => h3.2.1 (by
        rw [Array.setIfInBounds_comm _ _ (Ne.symm hji), hset]
        exact hg)
      refine ⟨hT', ih (listed.setIfInBounds j true) a' w' hfree' (ready_mono hr (Ne.symm hji)) h3.1 hT' ?_⟩
      rw [Array.setIfInBounds_comm _ _ hji]
      exact h3.2.2

/-- The move of a walk. -/
theorem L_takeP {i : Nat} {oi : Oper} {v : Value} {fuel : Nat} {listed : Array Bool} {a : Act} {w : World} (hi : ops[i]? = some oi) (hgi : g ≠ i)
    (hs : Region.noSelect ops = true) (hf : Region.free md ops listed i = true) (hr : (Region.ready md ops listed).contains i = true)
    (hQ : ∀ c a w, Q (.panic c) (a.put oi.dst v) w → Q (.panic c) a w) (hy : YieldsIf P ops (fun _ => True) oi v a) (hT : T w)
    (h : wpAnyL P md ops Q g T fuel (listed.setIfInBounds i true) (a.put oi.dst v) w) : wpAnyL P md ops Q g T (fuel + 1) listed a w :=
  L_firstP hi hgi (Region.noSelect_spec hs) hQ fuel listed a w (Region.free_spec hi hf) (by simpa using hr) hy (fun _ => hT) h
end
end Go.Proofs.YtiolkeipgpkbmaaGreatDoor
