/-
  The contract of ledger's together: the sums, in order.
-/
import Derived.Test.YtmlooibihjfahaaGreatDoorZt15
import Derived.Test.YtmlooibihjfahaaGreatDoorShelf
import Derived.Test.YtmlooibihjfahaaGreatDoorZt6
namespace Go.Proofs.YtmlooibihjfahaaGreatDoor
set_option linter.unusedVariables false
set_option linter.unusedSimpArgs false
set_option maxRecDepth 100000
open Go.RowKit Go.Lib

def blA (a : Option Addr) (cap k : Nat) : Option Addr := if cap = k then a else a.map (·.add (k * 4))
theorem bls_under : Tryz.prog.underlying 24 = some (.slice (Tryz.prog.elem 24)) := by kernel_rfl
theorem bls_size (W : World) : (sizeOf (Tryz.prog.elem 24)).run Tryz.prog W = .ok 4 W := by
  obtain ⟨i, hi, hz0, hz1, hz2⟩ := info_parts bl_info
  rw [show Tryz.prog.elem 24 = 36 by kernel_rfl]
  simp [sizeOf, typeInfo, hi, hz1]
theorem run_blH (a : Option Addr) (L cap m : Nat) (hm : m ≤ cap) (W : World) : (Instr.slice 24 (.slice a L cap) none (some (.int .i64 (m : Int))) none).run Tryz.prog W = .ok (.slice (blA a cap 0) m cap) W := by
  rw [run_slice_h W 24 a L cap bls_under .i64 m (by omega) (by omega), bls_size]
  simp [Result.andThen, sliced, blA]
theorem run_blL (a : Option Addr) (L cap k : Nat) (hk : k ≤ L) (W : World) : (Instr.slice 24 (.slice a L cap) (some (.int .i64 (k : Int))) none none).run Tryz.prog W = .ok (.slice (blA a cap k) (L - k) (cap - k)) W := by
  rw [run_slice_l W 24 a L cap bls_under .i64 k (by omega) (by omega), bls_size]
  simp [Result.andThen, sliced, blA]
theorem IsBl.take {W : World} {a : Option Addr} {l : List Bl} {cap : Nat} (h : IsBl W a l cap) (k : Nat) (hk : k ≤ l.length) : IsBl W (blA a cap 0) (l.take k) cap := by
  refine ⟨by have := h.cap; rw [List.length_take]; omega, ?_⟩
  rcases h.lies with h0 | ⟨b, off, rfl, hb, hc⟩
  · subst h0; exact .inl (by simp)
  · right
    refine ⟨b, off, ?_, hb, fun j hj => ?_⟩
    · unfold blA
      split
      · rfl
      · simp [Addr.add]
    · rw [List.length_take] at hj
      have := hc j (by omega)
      rw [List.getD_eq_getElem?_getD, List.getElem?_take, if_pos (by omega), ← List.getD_eq_getElem?_getD]
      exact this
theorem IsBl.drop {W : World} {a : Option Addr} {l : List Bl} {cap : Nat} (h : IsBl W a l cap) (k : Nat) (hk : k ≤ l.length) : IsBl W (blA a cap k) (l.drop k) (cap - k) := by
  have hcap := h.cap
  refine ⟨by rw [List.length_drop]; omega, ?_⟩
  by_cases he : cap = k
  · exact .inl (List.drop_eq_nil_of_le (by omega))
  · rcases h.lies with h0 | ⟨b, off, rfl, hb, hc⟩
    · subst h0; exact .inl (by simp)
    · refine .inr ⟨b, off + k * 4, by unfold blA; rw [if_neg he]; simp [Addr.add], hb, fun j hj => ?_⟩
      rw [List.length_drop] at hj
      have := hc (k + j) (by omega)
      rw [List.getD_eq_getElem?_getD, List.getElem?_drop, ← List.getD_eq_getElem?_getD]
      rw [show off + k * 4 + j * 4 = off + (k + j) * 4 by omega]
      exact this

set_option maxHeartbeats 8000000 in
theorem lmPut_any (a : Option Addr) (cap : Nat) (l : List Bl) (x : Bl) (w : World) (hlen : l.length ≤ 400) (h : IsBl w a l cap)
    (hov : ∀ y ∈ l, y.key = x.key → -9223372036854775808 ≤ y.amt + x.amt ∧ y.amt + x.amt ≤ 9223372036854775807) :
    Calls Tryz.prog 6 #[.slice a l.length cap, .agg x.cells] w fun e w' => ∃ v, e = .returned v ∧ Hid (BlRow w' w.heap.size v (putB l x) ∧ Below w.heap.size w w') := by
  have HL : Hid (IsBl w a l cap) := h
  have Hov : Hid (∀ y ∈ l, y.key = x.key → -9223372036854775808 ≤ y.amt + x.amt ∧ y.amt + x.amt ≤ 9223372036854775807) := hov
  have hcap := h.cap
  clear h hov
  obtain ⟨x0, x1, x2, x3⟩ := x
  simp only [Bl.cells]
  obtain ⟨W1, hW1⟩ : ∃ W1, w.alloc (.cells #[.int .i64 x0, .string x1, .string x2, .int .i64 x3] 36) = W1 := ⟨_, rfl⟩
  have hbx : W1.heap[w.heap.size]? = some (.cells #[.int .i64 x0, .string x1, .string x2, .int .i64 x3] 36 (0, 0)) := by rw [← hW1]; exact ld_new_heap w _
  have HB0 : Hid (Below w.heap.size w W1) := by rw [← hW1]; exact (Below.refl _ _).alloc (Nat.le_refl _) _
  have HX : Hid (∀ U, Below W1.heap.size W1 U → U.cell? ⟨w.heap.size, 0, none⟩ = some (.int .i64 x0) ∧ U.cell? ⟨w.heap.size, 1, none⟩ = some (.string x1) ∧ U.cell? ⟨w.heap.size, 2, none⟩ = some (.string x2) ∧ U.cell? ⟨w.heap.size, 3, none⟩ = some (.int .i64 x3)) := fun U hU => by
    have hlt' : w.heap.size < W1.heap.size := (Array.getElem?_eq_some_iff.1 hbx).1
    have e := (hU.block _ hlt').trans hbx
    simp [World.cell?, e]
  have HW1 : Hid (w.alloc (.cells #[.int .i64 x0, .string x1, .string x2, .int .i64 x3] 36) = W1) := hW1
  have HSz : Hid (w.heap.size < W1.heap.size) := (Array.getElem?_eq_some_iff.1 hbx).1
  clear hW1 hbx
  go_enter Tryz.func6, Tryz.ntmps6
  go_wp2
  rw [HW1.out]
  clear HW1
  obtain ⟨B, hB⟩ : ∃ B, w.heap.size = B := ⟨_, rfl⟩
  have HBn : Hid (w.heap.size = B) := hB
  have Hbl : Hid (Below B w W1) := by unfold Hid; rw [← hB]; exact HB0.out
  rw [hB] at HX HSz ⊢
  clear hB
  go_loopw [5] (fun i wr => ∃ k : Nat, k ≤ l.length ∧ i = .int .i64 k ∧ Hid (∀ j, j < k → cmpB (l.getD j bl0) ⟨x0, x1, x2, x3⟩ < 0) ∧ Hid (Below W1.heap.size W1 wr)) (fun i _ => l.length - (RowKit.intOf i).toNat)
  case atStart => exact ⟨0, Nat.zero_le _, rfl, fun j hj => by omega, Below.refl _ _⟩
  case round =>
    obtain ⟨k, hk, rfl, HA, HWx⟩ := hrel
    have HWb : Hid (Below w.heap.size w wr) := HB0.out.trans (HWx.out.mono HB0.out.size)
    go_upto_region 2 with fail
    go_cut [19] from 8 to 19 (fun t wx => t = .bool (decide (k < l.length ∧ cmpB (l.getD k bl0) ⟨x0, x1, x2, x3⟩ < 0)) ∧ Hid (Below wr.heap.size wr wx))
    case first =>
      by_cases hlt : k < l.length
      · obtain ⟨b, off, rfl, hb, hc⟩ := HL.out.some hlt
        have hy := (hc k hlt).below HWb.out hb
        obtain ⟨c, hcc⟩ : ∃ c, decide (cmpB (l.getD k bl0) ⟨x0, x1, x2, x3⟩ < 0) = c := ⟨_, rfl⟩
        have HER : Hid (decide (k < l.length ∧ cmpB (l.getD k bl0) ⟨x0, x1, x2, x3⟩ < 0) = c) := by
          unfold Hid
          rw [← hcc, Bool.eq_iff_iff]
          simp [hlt]
        have HCm : Hid (∀ W, Calls Tryz.prog 16 #[.agg (l.getD k bl0).cells, .agg (Bl.mk x0 x1 x2 x3).cells] W fun e w' => e = .returned (.bool c) ∧ Below W.heap.size W w') := fun W => by
          have := lmAhead_any (l.getD k bl0) (Bl.mk x0 x1 x2 x3) W
          rw [hcc] at this
          exact this
        clear hcc
        generalize l.getD k bl0 = y at hy HCm
        obtain ⟨y0, y1, y2, y3⟩ := y
        obtain ⟨d0, d1, d2, d3⟩ := hy
        obtain ⟨f0, f1, f2, f3⟩ := HX.out wr HWx.out
        simp only [Bl.cells] at d0 d1 d2 d3 f0 f1 f2 f3 HCm
        have hbW : b < wr.heap.size := Nat.lt_of_lt_of_le hb HWb.out.size
        have hBW : B < wr.heap.size := Nat.lt_of_lt_of_le HSz.out HWx.out.size
        have HK : Hid (∀ W V, Below W.heap.size W V → b < W.heap.size → B < W.heap.size → (W.cell? ⟨b, off + k * 4, none⟩ = some (.int .i64 y0) ∧ W.cell? ⟨b, off + k * 4 + 1, none⟩ = some (.string y1) ∧ W.cell? ⟨b, off + k * 4 + 2, none⟩ = some (.string y2) ∧ W.cell? ⟨b, off + k * 4 + 3, none⟩ = some (.int .i64 y3)) ∧ W.cell? ⟨B, 0, none⟩ = some (.int .i64 x0) ∧ W.cell? ⟨B, 1, none⟩ = some (.string x1) ∧ W.cell? ⟨B, 2, none⟩ = some (.string x2) ∧ W.cell? ⟨B, 3, none⟩ = some (.int .i64 x3) → (V.cell? ⟨b, off + k * 4, none⟩ = some (.int .i64 y0) ∧ V.cell? ⟨b, off + k * 4 + 1, none⟩ = some (.string y1) ∧ V.cell? ⟨b, off + k * 4 + 2, none⟩ = some (.string y2) ∧ V.cell? ⟨b, off + k * 4 + 3, none⟩ = some (.int .i64 y3)) ∧ V.cell? ⟨B, 0, none⟩ = some (.int .i64 x0) ∧ V.cell? ⟨B, 1, none⟩ = some (.string x1) ∧ V.cell? ⟨B, 2, none⟩ = some (.string x2) ∧ V.cell? ⟨B, 3, none⟩ = some (.int .i64 x3)) := fun W V hB hlt hlt2 hh => by
          have C : ∀ o, V.cell? ⟨b, o, none⟩ = W.cell? ⟨b, o, none⟩ := fun o => hB.cell (p := ⟨b, o, none⟩) hlt
          have C2 : ∀ o, V.cell? ⟨B, o, none⟩ = W.cell? ⟨B, o, none⟩ := fun o => hB.cell (p := ⟨B, o, none⟩) hlt2
          simp only [C, C2]
          exact hh
        have j0 : (0 : Int) ≤ k := by omega
        have j1 : (k : Int) < l.length := by omega
        clear HX HL HSz HWb HWx HB0 hc
        go_wp2_with fail
        go_region_held3 (fun u => (u.cell? ⟨b, off + k * 4, none⟩ = some (.int .i64 y0) ∧ u.cell? ⟨b, off + k * 4 + 1, none⟩ = some (.string y1) ∧ u.cell? ⟨b, off + k * 4 + 2, none⟩ = some (.string y2) ∧ u.cell? ⟨b, off + k * 4 + 3, none⟩ = some (.int .i64 y3)) ∧ u.cell? ⟨B, 0, none⟩ = some (.int .i64 x0) ∧ u.cell? ⟨B, 1, none⟩ = some (.string x1) ∧ u.cell? ⟨B, 2, none⟩ = some (.string x2) ∧ u.cell? ⟨B, 3, none⟩ = some (.int .i64 x3)) (go_keep) (first | (go_at_call 16; refine (HCm.out _).mono ?_; rintro e w' ⟨rfl, hb'⟩; obtain ⟨⟨p0, p1, p2, p3⟩, p4, p5, p6, p7⟩ := HK.out _ _ hb' (by simpa using hbW) (by simpa using hBW) (by simpa using ⟨⟨d0, d1, d2, d3⟩, f0, f1, f2, f3⟩)))
        all_goals
          go_wp2
          go_meet
          case rel => exact ⟨by rw [HER.out], (Below.refl _ _).drew.trans hb'⟩
      · have j1 : ¬ (k : Int) < l.length := by omega
        have HER : Hid (decide (k < l.length ∧ cmpB (l.getD k bl0) ⟨x0, x1, x2, x3⟩ < 0) = false) := by
          unfold Hid
          simp [hlt]
        go_wp2_with fail
        go_quiet (fail)
        rename Nat => nk
        have HZ : Hid (Below wr.heap.size wr (wr.drewN nk)) := en_drewN (Below.refl _ _) nk
        go_wp2
        go_meet
        case rel => exact ⟨by rw [HER.out], HZ⟩
    case rest =>
      obtain ⟨rfl, HBc⟩ := hcut
      have HCx : Hid (Below W1.heap.size W1 wc) := HWx.out.trans (HBc.out.mono HWx.out.size)
      clear HBc HWx HWb
      by_cases c1 : k < l.length ∧ cmpB (l.getD k bl0) ⟨x0, x1, x2, x3⟩ < 0
      · rw [decide_eq_true c1]
        have hlt := c1.1
        have HA2 : Hid (∀ j, j < k + 1 → cmpB (l.getD j bl0) ⟨x0, x1, x2, x3⟩ < 0) := fun j hj => by
          rcases (by omega : j < k ∨ j = k) with h | rfl
          · exact HA.out j h
          · exact c1.2
        clear c1 HA
        go_wp2
        go_roundw
        case rel => exact ⟨k + 1, by omega, by go_num, HA2, HCx⟩
        case measure => simp [RowKit.intOf]; omega
      · rw [decide_eq_false c1]
        have HKA : Hid (k = putAt l ⟨x0, x1, x2, x3⟩) := putAt_eq HA.out (fun h1 h2 => c1 ⟨h1, h2⟩) hk
        have HWb : Hid (Below w.heap.size w wc) := HB0.out.trans (HCx.out.mono HB0.out.size)
        have HIL : Hid (IsBl wc a l cap) := HL.out.below HWb.out
        have HNil : Hid (BlRow wc B (.slice none 0 0) []) := BlRow.nil _ _
        have Hsz : Hid (B ≤ wc.heap.size) := by have := HWb.out.size; rw [HBn.out] at this; exact this
        have Hle : Hid (([] : List Bl).length + l.length ≤ 1000) := by unfold Hid; simp; omega
        clear c1 HA
        go_wp2_with (at_builtin; refine wpList_appBl rfl _ _ rfl B _ [] rfl HNil.out a l.length cap l rfl rfl HIL.out Hle.out Hsz.out ?_)
        intro vo wo ho hg
        have HO : Hid (BlRow wo B vo l) := ho
        have HOb : Hid (Below wc.heap.size wc wo) := (Below.refl _ _).grown hg (Nat.le_refl _) (fun g e => by cases e)
        have HWx : Hid (Below W1.heap.size W1 wo) := HCx.out.trans (HOb.out.mono HCx.out.size)
        have HWb2 : Hid (Below w.heap.size w wo) := HB0.out.trans (HWx.out.mono HB0.out.size)
        clear ho hg HNil HIL HOb HCx HWb Hsz Hle
        have HWb := HWb2
        clear HWb2
        go_upto_region 6 with fail
        go_cut [37] from 25 to 37 (fun t wx => t = .bool (decide (k < l.length ∧ ¬ cmpB ⟨x0, x1, x2, x3⟩ (l.getD k bl0) < 0)) ∧ Hid (Below wo.heap.size wo wx))
        case first =>
          by_cases hlt : k < l.length
          · obtain ⟨b, off, rfl, hb, hc⟩ := HL.out.some hlt
            have hy := (hc k hlt).below HWb.out hb
            obtain ⟨c, hcc⟩ : ∃ c, decide (cmpB ⟨x0, x1, x2, x3⟩ (l.getD k bl0) < 0) = c := ⟨_, rfl⟩
            have HER : Hid (decide (k < l.length ∧ ¬ cmpB ⟨x0, x1, x2, x3⟩ (l.getD k bl0) < 0) = !c) := by
              unfold Hid
              rw [← hcc, Bool.eq_iff_iff]
              simp [hlt]
            have HCm : Hid (∀ W, Calls Tryz.prog 16 #[.agg (Bl.mk x0 x1 x2 x3).cells, .agg (l.getD k bl0).cells] W fun e w' => e = .returned (.bool c) ∧ Below W.heap.size W w') := fun W => by
              have := lmAhead_any (Bl.mk x0 x1 x2 x3) (l.getD k bl0) W
              rw [hcc] at this
              exact this
            clear hcc
            generalize l.getD k bl0 = y at hy HCm
            obtain ⟨y0, y1, y2, y3⟩ := y
            obtain ⟨d0, d1, d2, d3⟩ := hy
            obtain ⟨f0, f1, f2, f3⟩ := HX.out wo HWx.out
            simp only [Bl.cells] at d0 d1 d2 d3 f0 f1 f2 f3 HCm
            have hbW : b < wo.heap.size := Nat.lt_of_lt_of_le hb HWb.out.size
            have hBW : B < wo.heap.size := Nat.lt_of_lt_of_le HSz.out HWx.out.size
            have HK : Hid (∀ W V, Below W.heap.size W V → b < W.heap.size → B < W.heap.size → (W.cell? ⟨b, off + k * 4, none⟩ = some (.int .i64 y0) ∧ W.cell? ⟨b, off + k * 4 + 1, none⟩ = some (.string y1) ∧ W.cell? ⟨b, off + k * 4 + 2, none⟩ = some (.string y2) ∧ W.cell? ⟨b, off + k * 4 + 3, none⟩ = some (.int .i64 y3)) ∧ W.cell? ⟨B, 0, none⟩ = some (.int .i64 x0) ∧ W.cell? ⟨B, 1, none⟩ = some (.string x1) ∧ W.cell? ⟨B, 2, none⟩ = some (.string x2) ∧ W.cell? ⟨B, 3, none⟩ = some (.int .i64 x3) → (V.cell? ⟨b, off + k * 4, none⟩ = some (.int .i64 y0) ∧ V.cell? ⟨b, off + k * 4 + 1, none⟩ = some (.string y1) ∧ V.cell? ⟨b, off + k * 4 + 2, none⟩ = some (.string y2) ∧ V.cell? ⟨b, off + k * 4 + 3, none⟩ = some (.int .i64 y3)) ∧ V.cell? ⟨B, 0, none⟩ = some (.int .i64 x0) ∧ V.cell? ⟨B, 1, none⟩ = some (.string x1) ∧ V.cell? ⟨B, 2, none⟩ = some (.string x2) ∧ V.cell? ⟨B, 3, none⟩ = some (.int .i64 x3)) := fun W V hB hlt hlt2 hh => by
              have C : ∀ o, V.cell? ⟨b, o, none⟩ = W.cell? ⟨b, o, none⟩ := fun o => hB.cell (p := ⟨b, o, none⟩) hlt
              have C2 : ∀ o, V.cell? ⟨B, o, none⟩ = W.cell? ⟨B, o, none⟩ := fun o => hB.cell (p := ⟨B, o, none⟩) hlt2
              simp only [C, C2]
              exact hh
            have j0 : (0 : Int) ≤ k := by omega
            have j1 : (k : Int) < l.length := by omega
            clear HX HL HSz HWb HWx HB0 hc
            go_wp2_with fail
            go_region_held3 (fun u => (u.cell? ⟨b, off + k * 4, none⟩ = some (.int .i64 y0) ∧ u.cell? ⟨b, off + k * 4 + 1, none⟩ = some (.string y1) ∧ u.cell? ⟨b, off + k * 4 + 2, none⟩ = some (.string y2) ∧ u.cell? ⟨b, off + k * 4 + 3, none⟩ = some (.int .i64 y3)) ∧ u.cell? ⟨B, 0, none⟩ = some (.int .i64 x0) ∧ u.cell? ⟨B, 1, none⟩ = some (.string x1) ∧ u.cell? ⟨B, 2, none⟩ = some (.string x2) ∧ u.cell? ⟨B, 3, none⟩ = some (.int .i64 x3)) (go_keep) (first | (go_at_call 16; refine (HCm.out _).mono ?_; rintro e w' ⟨rfl, hb'⟩; obtain ⟨⟨p0, p1, p2, p3⟩, p4, p5, p6, p7⟩ := HK.out _ _ hb' (by simpa using hbW) (by simpa using hBW) (by simpa using ⟨⟨d0, d1, d2, d3⟩, f0, f1, f2, f3⟩)))
            all_goals
              go_wp2
              go_meet
              case rel => exact ⟨by rw [HER.out], (Below.refl _ _).drew.trans hb'⟩
          · have j1 : ¬ (k : Int) < l.length := by omega
            have HER : Hid (decide (k < l.length ∧ ¬ cmpB ⟨x0, x1, x2, x3⟩ (l.getD k bl0) < 0) = false) := by
              unfold Hid
              simp [hlt]
            go_wp2_with fail
            go_quiet (fail)
            rename Nat => nk
            have HZ : Hid (Below wo.heap.size wo (wo.drewN nk)) := en_drewN (Below.refl _ _) nk
            go_wp2
            go_meet
            case rel => exact ⟨by rw [HER.out], HZ⟩
        case rest =>
          obtain ⟨rfl, HBc⟩ := hcut
          have HCx : Hid (Below W1.heap.size W1 wc) := HWx.out.trans (HBc.out.mono HWx.out.size)
          have HWc : Hid (Below w.heap.size w wc) := HWb.out.trans (HBc.out.mono HWb.out.size)
          have HOc : Hid (BlRow wc B vo l) := HO.out.below HBc.out
          obtain ⟨f0, f1, f2, f3⟩ := HX.out wc HCx.out
          clear HBc HWx HWb HO
          by_cases c2 : k < l.length ∧ ¬ cmpB ⟨x0, x1, x2, x3⟩ (l.getD k bl0) < 0
          · rw [decide_eq_true c2]
            have hlt := c2.1
            have hst := putAt_stop l ⟨x0, x1, x2, x3⟩ (by rw [← HKA.out]; exact hlt)
            rw [← HKA.out] at hst
            have hke : (l.getD k bl0).key = (⟨x0, x1, x2, x3⟩ : Bl).key := by
              false_or_by_contra
              rename_i hne
              exact c2.2 (cmpB_total hst hne)
            have hov := Hov.out _ (bls_mem l k hlt) hke
            have HPut : Hid (putB l ⟨x0, x1, x2, x3⟩ = l.set k ((l.getD k bl0).plus ⟨x0, x1, x2, x3⟩)) := by
              unfold Hid
              rw [putB_eq, ← HKA.out, if_pos c2, List.set_eq_take_append_cons_drop, if_pos hlt]
            obtain ⟨g, vc, rfl⟩ : ∃ g vc, vo = .slice (some ⟨g, 0, none⟩) l.length vc := by
              rcases HOc.out.2 with ⟨_, h0⟩ | ⟨g, cp, cur, rfl, _⟩
              · omega
              · exact ⟨g, cp, rfl⟩
            have hy : BlAt wc g (k * 4) (l.getD k bl0) := by
              obtain ⟨a', cq', hv, hsl'⟩ := HOc.out.isBl
              cases hv
              rcases hsl'.lies with h | ⟨b', off', e, _, hc'⟩
              · rw [h] at hlt; simp at hlt
              · cases e
                have := hc' k hlt
                rwa [Nat.zero_add] at this
            have hgb := HOc.out.own g rfl
            obtain ⟨R3, hfz⟩ := BlRow.setAmt HOc.out k hlt ((l.getD k bl0).amt + x3)
            have HR3 : Hid (BlRow (wc.setCell ⟨g, k * 4 + 3, none⟩ (.int .i64 ((l.getD k bl0).amt + x3))).drew w.heap.size (.slice (some ⟨g, 0, none⟩) l.length vc) (putB l ⟨x0, x1, x2, x3⟩) ∧ Below w.heap.size w (wc.setCell ⟨g, k * 4 + 3, none⟩ (.int .i64 ((l.getD k bl0).amt + x3))).drew) := by
              refine ⟨?_, (HWc.out.setCell (p := ⟨g, k * 4 + 3, none⟩) (by rw [HBn.out]; exact hgb) _).drew⟩
              rw [HPut.out, HBn.out]
              exact R3
            obtain ⟨y, hyy⟩ : ∃ y, l.getD k bl0 = y := ⟨_, rfl⟩
            rw [hyy] at hy HR3 hov
            obtain ⟨y0, y1, y2, y3⟩ := y
            obtain ⟨d0, d1, d2, d3⟩ := hy
            simp only at d0 d1 d2 d3 HR3 hov
            have hwrap : IntKind.i64.wrap (y3 + x3) = y3 + x3 := by
              obtain ⟨o1, o2⟩ := hov
              rw [IntKind.wrap_i64]; omega
            have j0 : (0 : Int) ≤ k := by omega
            have j1 : (k : Int) < l.length := by omega
            clear R3 hyy hov hke hst HKA Hov HOc c2 HPut
            go_wp2
            go_region
            all_goals
              go_wp2
              go_ret
              exact ⟨_, rfl, HR3⟩
          · rw [decide_eq_false c2]
            have HPut : Hid (putB l ⟨x0, x1, x2, x3⟩ = l.take k ++ ⟨x0, x1, x2, x3⟩ :: l.drop k) := by
              unfold Hid
              rw [putB_eq, ← HKA.out, if_neg c2]
            have s1 : ∀ U, (Instr.slice 24 (.slice a l.length cap) none (some (.int .i64 (k : Int))) none).run Tryz.prog U = .ok (.slice (blA a cap 0) k cap) U := fun U => run_blH a l.length cap k (by omega) U
            have s2 : ∀ U, (Instr.slice 24 (.slice a l.length cap) (some (.int .i64 (k : Int))) none none).run Tryz.prog U = .ok (.slice (blA a cap k) (l.length - k) (cap - k)) U := fun U => run_blL a l.length cap k hk U
            have HIL : Hid (IsBl wc a l cap) := HL.out.below HWc.out
            have HIT : Hid (IsBl wc (blA a cap 0) (l.take k) cap) := HIL.out.take k hk
            have Hlt : Hid ((l.take k).length = k) := by unfold Hid; rw [List.length_take]; omega
            have Hld : Hid ((l.drop k).length = l.length - k) := by unfold Hid; rw [List.length_drop]
            have HNil : Hid (BlRow wc B (.slice none 0 0) []) := BlRow.nil _ _
            have Hsz : Hid (B ≤ wc.heap.size) := by have := HWc.out.size; rw [HBn.out] at this; exact this
            have Hle : Hid (([] : List Bl).length + (l.take k).length ≤ 1000) := by have := Hlt.out; unfold Hid; simp only [List.length_nil]; omega
            clear c2 HOc HKA Hov
            go_wp2_with (at_builtin; refine wpList_appBl rfl _ _ rfl B _ [] rfl HNil.out _ k cap (l.take k) rfl Hlt.out HIT.out Hle.out Hsz.out ?_)
            intro v1 w1 h1 g1
            have HO1 : Hid (BlRow w1 B v1 (l.take k)) := h1
            have HW1b : Hid (Below wc.heap.size wc w1) := (Below.refl _ _).grown g1 (Nat.le_refl _) (fun g e => by cases e)
            obtain ⟨f0, f1, f2, f3⟩ := HX.out w1 (HCx.out.trans (HW1b.out.mono HCx.out.size))
            obtain ⟨Z, hZ⟩ : ∃ Z, w1.alloc (.cells #[.int .i64 x0, .string x1, .string x2, .int .i64 x3] 36) = Z := ⟨_, rfl⟩
            have hbZ : Below w1.heap.size w1 Z := by rw [← hZ]; exact (Below.refl _ _).alloc (Nat.le_refl _) _
            have HSrc : Hid (IsBl Z (some ⟨w1.heap.size, 0, none⟩) [⟨x0, x1, x2, x3⟩] 1) := by
              refine ⟨Nat.le_refl _, .inr ⟨_, _, rfl, by rw [← hZ]; simp, fun j hj => ?_⟩⟩
              have : j = 0 := by simpa using hj
              subst this
              rw [← hZ]
              exact BlAt.new w1 ⟨x0, x1, x2, x3⟩ 36
            have HO1Z : Hid (BlRow Z B v1 (l.take k)) := HO1.out.below hbZ
            have HWZ : Hid (Below wc.heap.size wc Z) := HW1b.out.trans (hbZ.mono HW1b.out.size)
            have HszZ : Hid (B ≤ Z.heap.size) := Nat.le_trans Hsz.out HWZ.out.size
            have HZ : Hid (w1.alloc (.cells #[.int .i64 x0, .string x1, .string x2, .int .i64 x3] 36) = Z) := hZ
            have Hle2 : Hid ((l.take k).length + [(⟨x0, x1, x2, x3⟩ : Bl)].length ≤ 1000) := by have := Hlt.out; unfold Hid; simp only [List.length_cons, List.length_nil]; omega
            clear hbZ hZ h1 g1 HIT HO1 HW1b
            go_wp2_with (at_builtin; rw [HZ.out]; refine wpList_appBl rfl _ _ rfl B _ _ rfl HO1Z.out _ 1 1 _ rfl rfl HSrc.out Hle2.out HszZ.out ?_)
            intro v2 w2 h2 g2
            have HO2 : Hid (BlRow w2 B v2 (l.take k ++ [⟨x0, x1, x2, x3⟩])) := h2
            have HWcB : Hid (Below w.heap.size w Z) := HWc.out.trans (HWZ.out.mono HWc.out.size)
            have HW2 : Hid (Below w.heap.size w w2) := HWcB.out.grown g2 HWcB.out.size (fun g e => by rw [HBn.out]; exact HO1Z.out.own g e)
            have HID : Hid (IsBl w2 (blA a cap k) (l.drop k) (cap - k)) := (HL.out.below HW2.out).drop k hk
            have Hsz2 : Hid (B ≤ w2.heap.size) := by have := HW2.out.size; rw [HBn.out] at this; exact this
            have Hle3 : Hid ((l.take k ++ [(⟨x0, x1, x2, x3⟩ : Bl)]).length + (l.drop k).length ≤ 1000) := by
              have h1 := Hlt.out
              have h2 := Hld.out
              unfold Hid
              simp only [List.length_append, List.length_cons, List.length_nil]
              omega
            clear h2 g2 HSrc HO1Z HZ HWZ
            go_wp2_with (at_builtin; refine wpList_appBl rfl _ _ rfl B _ _ rfl HO2.out _ _ _ (l.drop k) rfl Hld.out HID.out Hle3.out Hsz2.out ?_)
            intro v3 w3 h3 g3
            have HE : Hid (BlRow w3 w.heap.size v3 (putB l ⟨x0, x1, x2, x3⟩) ∧ Below w.heap.size w w3) := by
              refine ⟨?_, HW2.out.grown g3 HW2.out.size (fun g e => by rw [HBn.out]; exact HO2.out.own g e)⟩
              rw [HPut.out, HBn.out]
              simpa using h3
            clear h3 g3
            go_wp2
            go_ret
            exact ⟨_, rfl, HE⟩
end Go.Proofs.YtmlooibihjfahaaGreatDoor

namespace Go.Proofs.YtmlooibihjfahaaGreatDoor
set_option linter.unusedVariables false
set_option linter.unusedSimpArgs false
set_option maxRecDepth 100000
open Go.RowKit Go.Lib Go.Sort
def blEnc (x : Bl) : List Value := x.cells.toList
theorem bl_swo : SWO (ltOf cmpB) where
  irrefl x := decide_eq_false (cmpB_irr x)
  trans x y z h1 h2 := decide_eq_true (cmpB_trans (of_decide_eq_true h1) (of_decide_eq_true h2))
  ntrans x y z h1 h2 := by
    refine decide_eq_false (fun h => ?_)
    have h1' := of_decide_eq_false h1
    have h2' := of_decide_eq_false h2
    by_cases e1 : x.key = y.key
    · refine h2' ?_
      rw [cmpB_lt] at h ⊢
      unfold Bl.key at e1
      rw [Prod.mk.injEq, Prod.mk.injEq] at e1
      rw [← e1.1, ← e1.2.1, ← e1.2.2]
      exact h
    · have h3 := cmpB_total h1' e1
      by_cases e2 : y.key = z.key
      · refine h1' ?_
        rw [cmpB_lt] at h ⊢
        unfold Bl.key at e2
        rw [Prod.mk.injEq, Prod.mk.injEq] at e2
        rw [e2.1, e2.2.1, e2.2.2]
        exact h
      · have h4 := cmpB_total h2' e2
        exact cmpB_irr x (cmpB_trans h (cmpB_trans h4 h3))
theorem bl_holds {W : World} {n g cap : Nat} {L : List Bl} (h : BlRow W n (.slice (some ⟨g, 0, none⟩) L.length cap) L) (hi : Inhabited Bl) : HoldsK blEnc 4 W g 0 L.toArray := by
  rcases h.2 with ⟨e, _⟩ | ⟨g1, c1, cur, e, hb1, hh, hc, hm, hs, ht⟩
  · cases e
  · cases e
    intro t htt
    rw [size_flatK, List.size_toArray] at htt
    rw [get_flatK _ _ _ t (by simpa using htt)]
    have hk : t / 4 < L.length := by omega
    have hb := blRow_get L (t / 4) (t % 4) hk (by omega)
    have e1 : t / 4 * 4 + t % 4 = t := by omega
    rw [e1] at hb
    have e2 : (blRow L)[t]? = cur[t]? := by
      rw [← ht, List.getElem?_take, if_pos (by omega)]
      simp
    have e3 : L.toArray[t / 4]! = L.getD (t / 4) bl0 := by
      rw [List.getD_eq_getElem?_getD, List.getElem?_eq_getElem hk, getElem!_pos L.toArray (t / 4) (by simpa using hk)]
      simp
    refine ⟨?_, by simp [World.frozen?, hh]⟩
    rw [e3]
    simp only [World.cell?, hh, Nat.zero_add]
    rw [← e2, hb]
    unfold blEnc
    have hl : t % 4 < (L.getD (t / 4) bl0).cells.toList.length := by rw [Bl.cells_length]; omega
    rw [List.getElem?_eq_getElem hl, getElem!_pos (L.getD (t / 4) bl0).cells.toList (t % 4) hl]
    rfl
/-- What a sort leaves. -/
theorem bl_sorted {W : World} {n g cap : Nat} {L : List Bl} (h : BlRow W n (.slice (some ⟨g, 0, none⟩) L.length cap) L) (hi : Inhabited Bl) (d : Array Bl) (hd : d.size = L.length) (m : Nat) (os : Array Obj) :
    BlRow (sortWorldK blEnc 4 W g 0 m d os) n (.slice (some ⟨g, 0, none⟩) d.toList.length cap) d.toList ∧ W.grownBy (sortWorldK blEnc 4 W g 0 m d os) (some g) := by
  rcases h.2 with ⟨e, _⟩ | ⟨g1, c1, cur, e, hb1, hh, hc, hm, hs, ht⟩
  · cases e
  · cases e
    have hlt : g < W.heap.size := (Array.getElem?_eq_some_iff.1 hh).1
    have hg : (sortWorldK blEnc 4 W g 0 m d os).heap[g]? = some (.cells (putCells id 0 (flatK blEnc 4 d) cur) 36 (0, 0)) := by
      unfold sortWorldK putRowK putRow mapBlock
      rw [heap_grow_old _ _ (by simpa [ahead] using hlt)]
      show (W.heap.modify g _)[g]? = _
      rw [Array.getElem?_modify, if_pos rfl, hh]
      rfl
    refine ⟨⟨blRow_length _, .inr ⟨g, cap, _, rfl, hb1, hg, by simp [hd, hc], hm, by simp [putCells, hs], ?_⟩⟩, rfl, rfl, rfl, ?_, fun b hb hne => ?_⟩
    · apply List.ext_getElem?
      intro t
      rw [List.getElem?_take]
      by_cases htt : t < d.toList.length * 4
      · rw [if_pos htt]
        have hk : t / 4 < d.toList.length := by omega
        have hb := blRow_get d.toList (t / 4) (t % 4) hk (by omega)
        have e1 : t / 4 * 4 + t % 4 = t := by omega
        rw [e1] at hb
        rw [hb]
        have hts : t < cur.size := by rw [hs]; simp [hd] at htt; omega
        have hF : t < (flatK blEnc 4 d).size := by simpa using htt
        have e3 : d[t / 4]! = d.toList.getD (t / 4) bl0 := by
          rw [List.getD_eq_getElem?_getD, List.getElem?_eq_getElem hk, getElem!_pos d (t / 4) (by simpa using hk)]
          simp
        have hl : t % 4 < (d.toList.getD (t / 4) bl0).cells.toList.length := by rw [Bl.cells_length]; omega
        rw [Array.getElem?_toList]
        unfold putCells
        rw [Array.getElem?_mapIdx, Array.getElem?_eq_getElem hts]
        simp only [Option.map_some, Nat.zero_le, true_and, Nat.zero_add, hF, if_true, Nat.sub_zero, id]
        rw [get_flatK _ _ _ t (by simpa using htt), e3, List.getElem?_eq_getElem hl]
        unfold blEnc
        rw [getElem!_pos (d.toList.getD (t / 4) bl0).cells.toList (t % 4) hl]
      · rw [if_neg htt, List.getElem?_eq_none (by rw [blRow_length]; omega)]
    · unfold sortWorldK putRowK putRow mapBlock
      simp [ahead]
    · unfold sortWorldK putRowK putRow mapBlock
      rw [heap_grow_old _ _ (by simpa [ahead] using hb)]
      have : g ≠ b := fun e => hne (by rw [e])
      simp [ahead, Array.getElem?_modify, this]
theorem cmp_lays (hi : Inhabited Bl) (blk off size : Nat) (w : World) : CmpLays Tryz.prog 24 #[] blEnc 4 cmpB blk off size w :=
  fun m os dk _ x y => ldCompareB_at x y _
/-- A row of balances is sorted. -/
theorem sort_any (W : World) (n : Nat) (v : Value) (L : List Bl) (h : BlRow W n v L) (hl : L.length ≤ 1000000) (hnd : (L.map Bl.key).Nodup) :
    Calls Tryz.prog 33 #[v, .func (.func 24) #[] #[]] W fun e w' => e = .returned (.tuple #[]) ∧ ∃ R, R.Perm L ∧ Rises R ∧ BlRow w' n v R ∧ W.grownBy w' v.ownBlock := by
  have hi : Inhabited Bl := ⟨bl0⟩
  by_cases h0 : L = []
  · subst h0
    obtain ⟨a, cap, rfl, _⟩ := h.isBl
    refine (AnyF.slices_SortFunc_none { sortLays with } a cap _ W).mono ?_
    rintro e w' ⟨rfl, rfl⟩
    exact ⟨rfl, [], .nil, .nil, h, rfl, rfl, rfl, Nat.le_refl _, fun _ _ _ => rfl⟩
  · obtain ⟨g, cap, rfl, hlt⟩ : ∃ g cap, v = .slice (some ⟨g, 0, none⟩) L.length cap ∧ g < W.heap.size := by
      rcases h.2 with ⟨e, hn⟩ | ⟨g1, c1, cur, e, hb1, hh, _⟩
      · exact absurd (List.eq_nil_of_length_eq_zero hn) h0
      · exact ⟨g1, c1, e, (Array.getElem?_eq_some_iff.1 hh).1⟩
    have eg : ∀ args w, (callFunc 24 args).run Tryz.prog w = .ok (.enter 24 args) w := fun args w => en_enters Tryz.func24 (by kernel_rfl) ⟨_, rfl⟩ args w
    have hcon := AnyQ.slices_SortFunc sortLays 4 Tryz.isAgg36 Tryz.sizeOf36 blEnc (fun _ => rfl) (fun x v hv => by simp [blEnc, Bl.cells] at hv; rcases hv with rfl | rfl | rfl | rfl <;> rfl) cmpB bl_swo 24 #[] g 0 cap L.toArray W eg (cmp_lays hi g 0 _ W) (bl_holds h hi) hlt (by simp; omega)
    refine Calls.mono hcon ?_
    rintro e w' ⟨rfl, d, m, os, hp, hs, rfl⟩
    obtain ⟨p1, _, p3⟩ := hp
    have hsz : d.size = L.length := by rw [p1]; simp
    have hpm : d.toList.Perm L := by
      simp only [List.size_toArray] at p3
      have e1 : (d.extract 0 L.length).toList = d.toList := by
        rw [← hsz]; simp
      have e2 : (L.toArray.extract 0 L.length).toList = L := by simp
      rw [e1, e2] at p3
      exact p3
    obtain ⟨b1, b2⟩ := bl_sorted h hi d hsz m os
    refine ⟨rfl, d.toList, hpm, ?_, ?_, b2⟩
    · have hnd' : (d.toList.map Bl.key).Nodup := ((hpm.map Bl.key).nodup_iff).2 hnd
      refine List.pairwise_iff_getElem.2 (fun i j hi' hj' hij => ?_)
      have h1 := hs i j (Nat.zero_le _) hij (by simp at hj'; simp; omega)
      have hi2 : i < d.size := by simpa using hi'
      have hj2 : j < d.size := by simpa using hj'
      rw [getElem!_pos d i hi2, getElem!_pos d j hj2] at h1
      have h2 : ¬ cmpB d[j] d[i] < 0 := of_decide_eq_false h1
      have h3 : d[j].key ≠ d[i].key := fun e => by
        have := (List.pairwise_iff_getElem.1 hnd') i j (by simpa using hi2) (by simpa using hj2) hij
        simp at this
        exact this e.symm
      have := cmpB_total h2 h3
      simpa using this
    · have e : d.toList.length = L.length := by simpa using hsz
      rw [e] at b1
      exact b1

/-- A step of a range over the map. -/
theorem parts_next {W : World} {n mb r : Nat} {ps : List Pt} {vs : Nat → Value} (h : PMp W n mb ps vs) {sn : List Nat} (hr : W.heap[r]? = some (.mapIter (some mb) ps.length sn.toArray ps.length)) (ty : TypeId) :
    ((∀ i, i < ps.length → i ∈ sn) ∧ (Instr.next (.pointer (some ⟨r, 0, none⟩)) false ty).run Tryz.prog W = .ok (.tuple #[.bool false]) W) ∨
    ∃ i, ∃ hi : i < ps.length, i ∉ sn ∧ ∃ W', (Instr.next (.pointer (some ⟨r, 0, none⟩)) false ty).run Tryz.prog W = .ok (.tuple #[.bool true, plV (ps[i]).key, vs i]) W' ∧ W'.heap[r]? = some (.mapIter (some mb) ps.length (sn ++ [i]).toArray ps.length) ∧ W.grownBy W' (some r) ∧ W'.heap.size = W.heap.size ∧
      (Instr.entry (.pointer (some ⟨r, 0, none⟩))).run Tryz.prog W' = .ok (.tuple #[plV (ps[i]).key, vs i]) W' := by
  have hold : ∀ x ∈ (ents ps vs).toArray.toList, x.born < ps.length := fun x hx => by
    obtain ⟨i, hi, rfl⟩ := ents_mem (by simpa using hx)
    exact hi
  have hne : r ≠ mb := fun e => by rw [e, h.map] at hr; cases hr
  have hlt : r < W.heap.size := (Array.getElem?_eq_some_iff.1 hr).1
  rcases run_next_at (P := Tryz.prog) W ty r mb ps.length ps.length sn.toArray (ents ps vs).toArray ps.length hr h.map hold (Nat.le_refl _) with ⟨h0, hrun⟩ | ⟨e, he, w1, hal, hrun⟩
  · refine .inl ⟨fun i hi => ?_, hrun⟩
    have h1 := all_seen _ _ h0 ⟨plV (ps[i]).key, vs i, i⟩ (by simpa using List.mem_of_getElem? (ents_get ps vs i hi))
    simpa using h1
  · obtain ⟨hem, hes⟩ := mem_left he
    obtain ⟨i, hi, rfl⟩ := ents_mem (by simpa using hem)
    have hns : i ∉ sn := by simpa using hes
    have hr1 : w1.heap[r]? = some (.mapIter (some mb) ps.length sn.toArray ps.length) := by rcases hal with rfl | rfl <;> exact hr
    have hb1 : w1.heap[mb]? = some (.map (ents ps vs).toArray ps.length) := by rcases hal with rfl | rfl <;> exact h.map
    have hlt1 : r < w1.heap.size := (Array.getElem?_eq_some_iff.1 hr1).1
    have hset := setBlock_at hlt1 (.mapIter (some mb) ps.length (sn.toArray.push i) ps.length)
    have hb' : (ChangeMaps.setBlock w1 r (.mapIter (some mb) ps.length (sn.toArray.push i) ps.length)).heap[mb]? = some (.map (ents ps vs).toArray ps.length) := (setBlock_ne hne _).trans hb1
    refine .inr ⟨i, hi, hns, _, hrun, by rw [hset]; simp, ?_, ?_, run_entry_at _ r mb ps.length sn.toArray (ents ps vs).toArray ps.length ⟨plV (ps[i]).key, vs i, i⟩ hset hb' hem (by simp only [ents_born]; exact List.nodup_range)⟩
    · rcases hal with rfl | rfl <;> exact ⟨rfl, rfl, rfl, by simp [ChangeMaps.setBlock], fun b _ hb => setBlock_ne (fun e1 => hb (by rw [e1])) _⟩
    · rcases hal with rfl | rfl <;> simp [ChangeMaps.setBlock]
end Go.Proofs.YtmlooibihjfahaaGreatDoor

namespace Go.Proofs.YtmlooibihjfahaaGreatDoor
set_option linter.unusedVariables false
set_option linter.unusedSimpArgs false
set_option maxRecDepth 100000
open Go.RowKit Go.Lib Math
/-- What is wrong with all the sums. -/
def tgE (ps : List Pt) : Int := if 200 < ps.length then 4 else if ps.all (fun p => decide (-9223372036854775808 ≤ p.zs.sum ∧ p.zs.sum ≤ 9223372036854775807)) = true then 0 else 10
def balAt (ps : List Pt) (i : Nat) : Bl := (ps.map Pt.bal).getD i bl0
theorem balAt_get (ps : List Pt) (i : Nat) (h : i < ps.length) : balAt ps i = (ps[i]).bal := by
  unfold balAt
  rw [List.getD_eq_getElem?_getD, List.getElem?_map, List.getElem?_eq_getElem h]
  rfl
theorem balAt_all (ps : List Pt) : (List.range ps.length).map (balAt ps) = ps.map Pt.bal := by
  apply List.ext_getElem?
  intro i
  by_cases h : i < ps.length
  · rw [List.getElem?_map, List.getElem?_range h, Option.map_some, balAt_get ps i h, List.getElem?_map, List.getElem?_eq_getElem h]
    rfl
  · rw [List.getElem?_eq_none (by simp; omega), List.getElem?_eq_none (by simp; omega)]
theorem seen_perm {n : Nat} {sn : List Nat} (h1 : sn.Nodup) (h2 : ∀ i ∈ sn, i < n) (h3 : ∀ i, i < n → i ∈ sn) : sn.Perm (List.range n) :=
  (List.perm_ext_iff_of_nodup h1 List.nodup_range).2 (fun i => ⟨fun h => List.mem_range.2 (h2 i h), fun h => h3 i (List.mem_range.1 h)⟩)
theorem seen_le {n : Nat} {sn : List Nat} (h1 : sn.Nodup) (h2 : ∀ i ∈ sn, i < n) : sn.length ≤ n := by
  have key : ∀ (l m : List Nat), l.Nodup → (∀ k ∈ l, k ∈ m) → l.length ≤ m.length := by
    intro l
    induction l with
    | nil => intro m _ _; exact Nat.zero_le _
    | cons k l ih =>
      intro m h hs
      obtain ⟨g1, g2⟩ := List.nodup_cons.1 h
      obtain ⟨s, t, rfl⟩ := List.append_of_mem (hs k (List.mem_cons_self ..))
      have := ih (s ++ t) g2 (fun q hq => by
        have h3 := hs q (List.mem_cons_of_mem _ hq)
        simp only [List.mem_append, List.mem_cons] at h3 ⊢
        rcases h3 with h3 | h3 | h3
        · exact .inl h3
        · exact absurd (h3 ▸ hq) g1
        · exact .inr h3)
      simp only [List.length_append, List.length_cons] at this ⊢
      omega
  have := key sn (List.range n) h1 (fun k hk => List.mem_range.2 (h2 k hk))
  simpa using this
/-- How many an iterator has given out. -/
def itLen (W : World) (r : Nat) : Nat := match W.heap[r]? with | some (.mapIter _ _ seen _) => seen.size | _ => 0
theorem itLen_eq {W : World} {r : Nat} {m : Option Nat} {s c : Nat} {sn : List Nat} (h : W.heap[r]? = some (.mapIter m s sn.toArray c)) : itLen W r = sn.length := by
  unfold itLen
  rw [h]
  simp
/-- What the loop keeps. -/
structure Tg (W : World) (n mb : Nat) (ps : List Pt) (vs : Nat → Value) (r : Nat) (sn : List Nat) (lv : Value) (U : World) : Prop where
  nd : sn.Nodup
  lt : ∀ i ∈ sn, i < ps.length
  ok : ∀ i ∈ sn, -9223372036854775808 ≤ (balAt ps i).amt ∧ (balAt ps i).amt ≤ 9223372036854775807
  it : U.heap[r]? = some (.mapIter (some mb) ps.length sn.toArray ps.length)
  pm : PMp U n mb ps vs
  row : BlRow U W.heap.size lv (full (sn.map (balAt ps)))
  bel : Below W.heap.size W U
theorem full_len (l : List Bl) : (full l).length ≤ l.length := List.length_filter_le _ _
theorem run_pmlen {W : World} {n mb : Nat} {ps : List Pt} {vs : Nat → Value} (h : PMp W n mb ps vs) (ty : TypeId) : (Builtin.len_ #[59] ty #[.map (some mb)]).run Tryz.prog W = .ok (.int .i64 (ps.length : Int)) W := by
  have e : (ents ps vs).toArray.size = ps.length := by simp [ents_length]
  simp [Builtin.len_, run_underlying pt_under, MapKept.run_getObj_map h.map, Result.andThen, goInt, ents_length]

theorem PMp.keep {W U : World} {n mb : Nat} {ps : List Pt} {vs : Nat → Value} (h : PMp W n mb ps vs) (h1 : ∀ (es : Array MapEntry) (c : Nat), W.heap[mb]? = some (Obj.map es c) → U.heap[mb]? = W.heap[mb]?) (h2 : ∀ (g : Nat) (cs : Array Value), W.heap[g]? = some (Obj.cells cs 3 (0, 0)) → U.heap[g]? = W.heap[g]?) : PMp U n mb ps vs :=
  ⟨(h1 _ _ h.map).trans h.map, h.mbn, h.keys, h.nodup, fun i hi => row_keep (h.rows i hi) (fun g eg => by
    obtain ⟨_, _, cs, e⟩ := row_block (h.rows i hi) eg
    exact h2 g cs e), h.apart, h.i64⟩
theorem full_snoc (l : List Bl) (x : Bl) : full (l ++ [x]) = if x.amt = 0 then full l else full l ++ [x] := by
  unfold full
  rw [List.filter_append]
  by_cases h : x.amt = 0
  · rw [if_pos h]; simp [h]
  · rw [if_neg h]; simp [h]
/-- One more has come. -/
theorem Tg.more {W U : World} {n mb : Nat} {ps : List Pt} {vs : Nat → Value} {r : Nat} {sn : List Nat} {lv lv' : Value} {V : World} (h : Tg W n mb ps vs r sn lv V) {i : Nat} (hi : i < ps.length) (hns : i ∉ sn) (hok : -9223372036854775808 ≤ (ps[i]).zs.sum ∧ (ps[i]).zs.sum ≤ 9223372036854775807)
    (hit : U.heap[r]? = some (.mapIter (some mb) ps.length (sn ++ [i]).toArray ps.length)) (hpm : PMp U n mb ps vs) (hrow : BlRow U W.heap.size lv' (if (ps[i]).zs.sum = 0 then full (sn.map (balAt ps)) else full (sn.map (balAt ps)) ++ [(ps[i]).bal])) (hbel : Below W.heap.size W U) : Tg W n mb ps vs r (sn ++ [i]) lv' U := by
  refine ⟨?_, fun j hj => ?_, fun j hj => ?_, hit, hpm, ?_, hbel⟩
  · rw [List.nodup_append]
    exact ⟨h.nd, by simp, fun a ha b hb e => hns (by rw [List.mem_singleton.1 hb] at e; rw [← e]; exact ha)⟩
  · rcases List.mem_append.1 hj with hj | hj
    · exact h.lt j hj
    · rw [List.mem_singleton.1 hj]; exact hi
  · rcases List.mem_append.1 hj with hj | hj
    · exact h.ok j hj
    · rw [List.mem_singleton.1 hj, balAt_get ps i hi]; exact hok
  · rw [List.map_append, List.map_cons, List.map_nil, full_snoc, balAt_get ps i hi]
    exact hrow

set_option maxHeartbeats 4000000 in
theorem ldTogether_any (W : World) (n mb : Nat) (ps : List Pt) (vs : Nat → Value) (h : PMp W n mb ps vs) (hz : ∀ p ∈ ps, p.zs.length ≤ 17592186044416) (hn : ps.length ≤ 4611686018427387904) :
    Calls Tryz.prog 18 #[.map (some mb)] W fun e w' => Below W.heap.size W w' ∧ (tgE ps ≠ 0 → e = .returned (.tuple #[.slice none 0 0, enE (tgE ps)])) ∧ (tgE ps = 0 → ∃ v R, e = .returned (.tuple #[v, .nilIface]) ∧ Hid (BlRow w' W.heap.size v R ∧ Rises R ∧ R.Perm (full (ps.map Pt.bal)))) := by
  have hln := fun ty => run_pmlen h ty
  by_cases h2 : 200 < ps.length
  · have e4 : tgE ps = 4 := if_pos h2
    rw [e4]
    have i1 : (200 : Int) < ps.length := by omega
    clear h e4
    go_enter Tryz.func18, Tryz.ntmps18
    go_wp2
    go_ret2
    exact ⟨Below.refl _ _, fun _ => rfl, fun h => by cases h⟩
  have i1 : ¬ (200 : Int) < ps.length := by omega
  have hrg := run_range_map W 59 77 26 mb _ _ pt_under h.map
  have HT0 : Hid (Tg W n mb ps vs W.heap.size [] (.slice none 0 0) (W.alloc (.mapIter (some mb) ps.length #[] ps.length))) := by
    have hb : Below W.heap.size W (W.alloc (.mapIter (some mb) ps.length #[] ps.length)) := (Below.refl _ W).alloc (Nat.le_refl _) _
    exact ⟨List.nodup_nil, fun i hi => by simp at hi, fun i hi => by simp at hi, ld_new_heap W _, h.below hb, BlRow.nil _ _, hb⟩
  have Hz : Hid (∀ p ∈ ps, p.zs.length ≤ 17592186044416) := hz
  clear h hz
  go_enter Tryz.func18, Tryz.ntmps18
  go_wp2_with fail
  go_loopw [4] (fun lv wr => ∃ sn, Hid (Tg W n mb ps vs W.heap.size sn lv wr)) (fun _ wr => ps.length - itLen wr W.heap.size)
  case atStart => exact ⟨[], HT0⟩
  case round =>
    obtain ⟨sn, HT⟩ := hrel
    obtain ⟨a4, c4, rfl, _⟩ := HT.out.row.isBl
    obtain ⟨L4, hL4⟩ : ∃ L4, (full (sn.map (balAt ps))).length = L4 := ⟨_, rfl⟩
    have HL4 : Hid ((full (sn.map (balAt ps))).length = L4) := hL4
    rw [hL4] at HT ⊢
    clear hL4
    rcases parts_next HT.out.pm HT.out.it 0 with ⟨hall, hrun⟩ | ⟨i, hi, hns, W1, hrun, hit, hgr, hsz, hent⟩
    · -- all were there
      have hok : tgE ps = 0 := by
        unfold tgE
        rw [if_neg h2, if_pos (List.all_eq_true.2 (fun p hp => ?_))]
        obtain ⟨i, hi, rfl⟩ := List.getElem_of_mem hp
        have := HT.out.ok i (hall i hi)
        rw [balAt_get ps i hi] at this
        exact decide_eq_true this
      have hpm : (sn.map (balAt ps)).Perm (ps.map Pt.bal) := by
        rw [← balAt_all]
        exact (seen_perm HT.out.nd HT.out.lt hall).map _
      have hfp : (full (sn.map (balAt ps))).Perm (full (ps.map Pt.bal)) := hpm.filter _
      have hnd : ((full (sn.map (balAt ps))).map Bl.key).Nodup := by
        have h3 : ((ps.map Pt.bal).map Bl.key).Nodup := by
          rw [List.map_map]
          exact HT.out.pm.nodup
        have h4 := ((hpm.map Bl.key).nodup_iff).2 h3
        exact (List.Sublist.map Bl.key List.filter_sublist).nodup h4
      have hle : (full (sn.map (balAt ps))).length ≤ 1000000 := by
        have h5 := full_len (sn.map (balAt ps))
        have h6 := seen_le HT.out.nd HT.out.lt
        simp only [List.length_map] at h5
        omega
      have HS : Hid (Calls _ _ _ wr _) := sort_any wr W.heap.size (.slice a4 L4 c4) _ HT.out.row hle hnd
      have HQ : Hid (Below W.heap.size W wr ∧ (∀ j, (Value.slice a4 L4 c4).ownBlock = some j → W.heap.size ≤ j)) := ⟨HT.out.bel, fun j e => (row_block HT.out.row e).1⟩
      have HP : Hid ((full (sn.map (balAt ps))).Perm (full (ps.map Pt.bal))) := hfp
      have HOK : Hid (tgE ps = 0) := hok
      clear HT hpm hfp hnd hle hall hln hrg HT0 hok
      go_wp2_with (go_at_call 33; refine HS.out.mono ?_; rintro e w' ⟨rfl, R, hR1, hR2, hR3, hR4⟩)
      go_ret2
      exact ⟨HQ.out.1.grown hR4 HQ.out.1.size HQ.out.2, fun h => absurd HOK.out h, fun _ => ⟨_, R, rfl, hR3, hR2, hR1.trans HP.out⟩⟩
    · have hrI := HT.out.it
      have hrlt : W.heap.size < wr.heap.size := (Array.getElem?_eq_some_iff.1 hrI).1
      have hpm1 : PMp W1 n mb ps vs := HT.out.pm.keep (fun es c e => hgr.block mb (Array.getElem?_eq_some_iff.1 e).1 (fun e2 => by cases e2; rw [hrI] at e; cases e)) (fun g cs e => hgr.block g (Array.getElem?_eq_some_iff.1 e).1 (fun e2 => by cases e2; rw [hrI] at e; cases e))
      have hrow1 : BlRow W1 W.heap.size (.slice a4 L4 c4) (full (sn.map (balAt ps))) := row_keep HT.out.row (fun g eg => by
        obtain ⟨_, g2, cs, e⟩ := row_block HT.out.row eg
        exact hgr.block g g2 (fun e2 => by cases e2; rw [hrI] at e; cases e))
      have hbel1 : Below W.heap.size W W1 := HT.out.bel.grown hgr HT.out.bel.size (fun j e => by cases e; exact Nat.le_refl _)
      have HTg : Hid (Tg W n mb ps vs W.heap.size sn (.slice a4 L4 c4) wr) := HT
      obtain ⟨⟨k0, k1, k2⟩, hkk⟩ : ∃ kk : Pk, (ps[i]).key = kk := ⟨_, rfl⟩
      obtain ⟨V, hV⟩ : ∃ V, W1.alloc (.cells #[.int .i64 k0, .string k1, .string k2] 77) = V := ⟨_, rfl⟩
      have hbV : Below W1.heap.size W1 V := by rw [← hV]; exact (Below.refl _ _).alloc (Nat.le_refl _) _
      have hVh : V.heap[W1.heap.size]? = some (.cells #[.int .i64 k0, .string k1, .string k2] 77 (0, 0)) := by rw [← hV]; exact ld_new_heap W1 _
      have c0 : V.cell? ⟨W1.heap.size, 0, none⟩ = some (.int .i64 k0) := by simp [World.cell?, hVh]
      have c1 : V.cell? ⟨W1.heap.size, 1, none⟩ = some (.string k1) := by simp [World.cell?, hVh]
      have c2 : V.cell? ⟨W1.heap.size, 2, none⟩ = some (.string k2) := by simp [World.cell?, hVh]
      have hpmV := hpm1.below hbV
      have hrowV : BlRow V W.heap.size (.slice a4 L4 c4) (full (sn.map (balAt ps))) := hrow1.below hbV
      have hitV : V.heap[W.heap.size]? = some (.mapIter (some mb) ps.length (sn ++ [i]).toArray ps.length) := (hbV.block _ (Array.getElem?_eq_some_iff.1 hit).1).trans hit
      have hbelV : Below W.heap.size W V := hbel1.trans (hbV.mono hbel1.size)
      have HSum : Hid (Calls _ _ _ V _) := sum_own n (ps[i]).zs.length 3 (vs i) (ps[i]).zs V (by have := Hz.out _ (List.getElem_mem hi); omega) (fun j hj => hpmV.i64 _ (List.getElem_mem hi) _ (by rw [List.getD_eq_getElem?_getD, List.getElem?_eq_getElem hj]; exact List.getElem_mem hj)) (hpmV.rows i hi)
      simp only [plV, hkk] at hrun hent
      obtain ⟨S, hS⟩ : ∃ S, (ps[i]).zs.sum = S := ⟨_, rfl⟩
      rw [hS] at HSum
      have HV : Hid (W1.alloc (.cells #[.int .i64 k0, .string k1, .string k2] 77) = V) := hV
      have HVS : Hid (PMp V n mb ps vs ∧ BlRow V W.heap.size (.slice a4 L4 c4) (full (sn.map (balAt ps))) ∧ V.heap[W.heap.size]? = some (.mapIter (some mb) ps.length (sn ++ [i]).toArray ps.length) ∧ Below W.heap.size W V) := ⟨hpmV, hrowV, hitV, hbelV⟩
      have HI : Hid (itLen wr W.heap.size = sn.length ∧ sn.length + 1 ≤ ps.length) := ⟨itLen_eq hrI, by
        have := seen_le (n := ps.length) (sn := sn ++ [i]) (by
          rw [List.nodup_append]
          exact ⟨HTg.out.nd, by simp, fun a ha b hb e => hns (by rw [List.mem_singleton.1 hb] at e; rw [← e]; exact ha)⟩) (fun j hj => by
          rcases List.mem_append.1 hj with hj | hj
          · exact HTg.out.lt j hj
          · rw [List.mem_singleton.1 hj]; exact hi)
        simpa using this⟩
      clear hpmV hrowV hitV hbelV hpm1 hrow1 hbel1 hbV hV hit hgr hsz hrlt hrI HT HT0 hrg hln hVh
      by_cases hfit : -9223372036854775808 ≤ S ∧ S ≤ 9223372036854775807
      · obtain ⟨e1, e2⟩ := sum_fit S hfit
        rw [e1, e2] at HSum
        clear e1 e2
        have HBal : Hid ((ps[i]).bal = ⟨k0, k1, k2, S⟩) := by
          unfold Hid Pt.bal
          rw [hkk, hS]
        by_cases h0 : S = 0
        · subst h0
          have HN : Hid (Tg W n mb ps vs W.heap.size (sn ++ [i]) (.slice a4 L4 c4) V) := HTg.out.more hi hns (by rw [hS]; exact hfit) HVS.out.2.2.1 HVS.out.1 (by rw [hS, if_pos rfl]; exact HVS.out.2.1) HVS.out.2.2.2
          have HM : Hid (ps.length - itLen V W.heap.size < ps.length - itLen wr W.heap.size) := by
            have e1 := itLen_eq HVS.out.2.2.1
            have := HI.out
            unfold Hid
            rw [e1, List.length_append]
            simp only [List.length_cons, List.length_nil]
            omega
          clear HVS HTg c0 c1 c2
          go_wp2_with (first | (go_at_call 32; rw [HV.out]; refine HSum.out.mono ?_; rintro e w' ⟨rfl, hw⟩; obtain rfl := hw.symm))
          go_roundw
          case rel => exact ⟨_, HN⟩
          case measure => exact HM.out
        · have h0' : (S != 0) = true := by simp [h0]
          obtain ⟨X, hX⟩ : ∃ X, V.alloc (.cells #[.int .i64 k0, .string k1, .string k2, .int .i64 S] 36) = X := ⟨_, rfl⟩
          have hbX : Below V.heap.size V X := by rw [← hX]; exact (Below.refl _ _).alloc (Nat.le_refl _) _
          have hXh : X.heap[V.heap.size]? = some (.cells #[.int .i64 k0, .string k1, .string k2, .int .i64 S] 36 (0, 0)) := by rw [← hX]; exact ld_new_heap V _
          have Hsrc : Hid (∀ j' u, [Value.int .i64 k0, .string k1, .string k2, .int .i64 S][j']? = some u → X.cell? ((⟨V.heap.size, 0, none⟩ : Addr).add j') = some u) := World.news_of_block hXh
          have HXr : Hid (X.ownsRow W.heap.size 36 4 (.slice a4 L4 c4) L4 (blRow (full (sn.map (balAt ps))))) := by
            have := HVS.out.2.1.below hbX
            unfold BlRow at this
            rw [HL4.out] at this
            exact this
          have Hle : Hid ((full (sn.map (balAt ps))).length ≤ 200) := by
            have h5 := full_len (sn.map (balAt ps))
            have := HI.out
            simp only [List.length_map] at h5
            unfold Hid
            omega
          have HN : Hid (∀ v' U, U.ownsRow W.heap.size 36 4 v' (L4 + 1) (blRow (full (sn.map (balAt ps))) ++ [Value.int .i64 k0, .string k1, .string k2, .int .i64 S]) → X.grownBy U (Value.slice a4 L4 c4).ownBlock → Tg W n mb ps vs W.heap.size (sn ++ [i]) v' U ∧ ps.length - itLen U W.heap.size < ps.length - itLen wr W.heap.size) := fun v' U ho hg => by
            have hblk : ∀ g, (Value.slice a4 L4 c4).ownBlock = some g → ∃ cs, X.heap[g]? = some (.cells cs 36 (0, 0)) := fun g e => (row_block HXr.out e).2.2
            have hitX : X.heap[W.heap.size]? = some (.mapIter (some mb) ps.length (sn ++ [i]).toArray ps.length) := (hbX.block _ (Array.getElem?_eq_some_iff.1 HVS.out.2.2.1).1).trans HVS.out.2.2.1
            have hitU : U.heap[W.heap.size]? = some (.mapIter (some mb) ps.length (sn ++ [i]).toArray ps.length) := (hg.block _ (Array.getElem?_eq_some_iff.1 hitX).1 (fun e => by
              obtain ⟨cs, e2⟩ := hblk _ e.symm
              rw [hitX] at e2
              cases e2)).trans hitX
            have hpmU : PMp U n mb ps vs := (HVS.out.1.below hbX).keep (fun es c e => hg.block mb (Array.getElem?_eq_some_iff.1 e).1 (fun e1 => by
              obtain ⟨cs, e2⟩ := hblk _ e1.symm
              rw [e] at e2
              cases e2)) (fun g cs e => hg.block g (Array.getElem?_eq_some_iff.1 e).1 (fun e1 => by
              obtain ⟨cs', e2⟩ := hblk _ e1.symm
              rw [e] at e2
              simp only [Option.some.injEq, Obj.cells.injEq] at e2
              exact absurd e2.2.1 (by decide)))
            refine ⟨HTg.out.more hi hns (by rw [hS]; exact hfit) hitU hpmU ?_ ?_, ?_⟩
            · rw [hS, if_neg h0, HBal.out]
              unfold BlRow
              rw [blRow_append, blRow_one, List.length_append, HL4.out]
              exact ho
            · exact (HVS.out.2.2.2.trans (hbX.mono HVS.out.2.2.2.size)).grown hg (Nat.le_trans HVS.out.2.2.2.size hbX.size) (fun g e => (row_block HXr.out e).1)
            · rw [itLen_eq hitU, List.length_append]
              have := HI.out
              simp only [List.length_cons, List.length_nil]
              omega
          have Hsz : Hid (W.heap.size ≤ X.heap.size) := Nat.le_trans HVS.out.2.2.2.size hbX.size
          have HX : Hid (V.alloc (.cells #[.int .i64 k0, .string k1, .string k2, .int .i64 S] 36) = X) := hX
          obtain ⟨qi, hq, hz0, hz1, hz2⟩ := info_parts bl_info
          have Hm1 : Hid (L4 + 1 ≤ maxLen) := by have := Hle.out; rw [HL4.out] at this; unfold Hid maxLen; omega
          have Hm2 : Hid ((L4 + 1) * 48 ≤ 140737488355328) := by have := Hle.out; rw [HL4.out] at this; unfold Hid; omega
          have Hs1 : Hid (∀ u ∈ [Value.int .i64 k0, .string k1, .string k2, .int .i64 S], u.oneCell' = true) := by
            intro u hu
            simp at hu
            rcases hu with rfl | rfl | rfl | rfl <;> rfl
          clear hbX hXh hX HTg HVS Hle HBal HL4
          generalize full (sn.map (balAt ps)) = F at *
          go_wp2_with (first | (go_at_call 32; rw [HV.out]; refine HSum.out.mono ?_; rintro e w' ⟨rfl, hw⟩; obtain rfl := hw.symm) | (at_builtin; rw [HX.out]; refine wpList_append_own _ rfl _ _ 24 rfl W.heap.size 36 qi (.agg #[.int .i64 0, .string ByteArray.empty, .string ByteArray.empty, .int .i64 0]) 4 48 Tryz.underlying24 hq hz0 hz1 hz2 rfl (by decide) _ _ _ rfl HXr.out ⟨V.heap.size, 0, none⟩ 1 1 [Value.int .i64 k0, .string k1, .string k2, .int .i64 S] rfl rfl Hsrc.out Hs1.out Hm1.out Hm2.out Hsz.out ?_))
          intro v' U ho hg _
          obtain ⟨g1, g2⟩ := HN.out v' U ho hg
          have G1 : Hid (Tg W n mb ps vs W.heap.size (sn ++ [i]) v' U) := g1
          have G2 : Hid (ps.length - itLen U W.heap.size < ps.length - itLen wr W.heap.size) := g2
          clear g1 g2 ho hg HN Hsrc HXr
          go_wp2_with fail
          go_roundw
          case rel => exact ⟨_, G1⟩
          case measure => exact G2.out
      · obtain ⟨e1, e2⟩ := sum_nofit S hfit
        rw [e1, e2] at HSum
        have HE : Hid (tgE ps = 10) := by
          unfold Hid tgE
          rw [if_neg h2, if_neg]
          intro hall
          have := List.all_eq_true.1 hall _ (List.getElem_mem hi)
          rw [hS] at this
          exact hfit (of_decide_eq_true this)
        have HB : Hid (Below W.heap.size W V) := HVS.out.2.2.2
        clear e1 e2 HVS HTg c0 c1 c2
        go_wp2_with (first | (go_at_call 32; rw [HV.out]; refine HSum.out.mono ?_; rintro e w' ⟨rfl, hw⟩; obtain rfl := hw.symm))
        go_ret2
        exact ⟨HB.out, fun _ => by rw [HE.out]; rfl, fun h => by rw [HE.out] at h; cases h⟩
end Go.Proofs.YtmlooibihjfahaaGreatDoor
