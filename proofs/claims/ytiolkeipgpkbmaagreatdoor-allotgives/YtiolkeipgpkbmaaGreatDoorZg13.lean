/-
  Accounts in memory; the contracts of slices.IndexFunc over them, of chart.index and chart.checkParent.
-/
import Derived.Test.YtiolkeipgpkbmaaGreatDoorZg4
import Derived.Test.YtiolkeipgpkbmaaGreatDoorProg
import Derived.WalkKit
import Derived.WalkSpells
import Derived.Lib.OthersKept
import Derived.Lib.TrimU
import Derived.Deep.LoopGhost
import Derived.Conc.MuLone
import Derived.Shelf.Abstract
import Derived.Deep.QuietTactic
import Derived.BigQuiet
namespace Go.Proofs.YtiolkeipgpkbmaaGreatDoor
set_option linter.unusedVariables false
set_option linter.unusedSimpArgs false
set_option maxRecDepth 100000
open Go.RowKit Go.Lib Math

theorem absI_size (t : Int) : absI t = sizeI t := rfl
/-- Both rows of the first loop. -/
structure Two1 (w W : World) (g : Nat) (P C : List Int) : Prop where
  p : URow W g P
  c : URow W (g + 1) C
  b : Below g w W
  s : W.heap.size = g + 2
theorem Two1.drewN {w W : World} {g : Nat} {P C : List Int} (h : Two1 w W g P C) (n : Nat) : Two1 w (W.drewN n) g P C := ⟨h.p, h.c, h.b.trans ⟨rfl, rfl, rfl, Nat.le_refl _, fun _ _ => rfl⟩, h.s⟩
theorem Two1.step {w W : World} {g : Nat} {P C : List Int} (h : Two1 w W g P C) (k : Nat) (x y : Int) : Two1 w ((W.setCell ⟨g, k, none⟩ (.int .u64 x)).setCell ⟨g + 1, k, none⟩ (.int .u64 y)) g (P.set k x) (C.set k y) :=
  ⟨(h.p.set k x).other (by omega) k _, (h.c.other (by omega) k _).set k y, (h.b.setCell (p := ⟨g, k, none⟩) (Nat.le_refl _) _).setCell (p := ⟨g + 1, k, none⟩) (Nat.le_succ _) _, by simp [World.setCell, h.s]⟩

theorem shares_bad (t : Int) (a : Option Addr) (ws : List Int) (cap : Nat) (w : World) (h : IsW w a ws cap) (hl : ws.length ≤ 9223372036854775807) (hb : shBad ws ≠ 0) :
    Calls Tryz.prog 36 #[.int .i64 t, .slice a ws.length cap] w (SharesEnd t ws w) := by
  have HC : Hid (Calls _ _ _ _ _) := weigh_any a ws cap w h hl
  have eE : shE (shBad ws) = .iface 37 (.int .i64 (shBad ws)) := by unfold shE; rw [if_neg hb]
  rw [eE] at HC
  have HE : Hid (SharesEnd t ws w (.returned (.tuple #[.slice none 0 0, .iface 37 (.int .i64 (shBad ws))])) w) := ⟨Below.refl _ _, fun _ => rfl, fun e => absurd e hb⟩
  generalize shBad ws = n at *
  clear h eE
  go_enter Tryz.func36, Tryz.ntmps36
  go_wp2_with fail
  refine HC.out.mono ?_
  rintro e w' ⟨rfl, hw⟩
  rw [hw]; clear hw w'
  go_wp2
  go_ret2
  exact HE.out

set_option maxHeartbeats 8000000 in
theorem shares_good (t : Int) (a : Option Addr) (ws : List Int) (cap : Nat) (w : World) (h : IsW w a ws cap) (hb : shBad ws = 0) (ht : I64 t) :
    Calls Tryz.prog 36 #[.int .i64 t, .slice a ws.length cap] w (SharesEnd t ws w) := by
  have hG := shBad_zero hb
  have HG : Hid (GoodW ws) := hG
  have hT0 := sizeI_nonneg t
  obtain ⟨n, hn⟩ : ∃ n, ws.length = n := ⟨_, rfl⟩
  have hn40 : n ≤ 40 := hn ▸ hG.1
  have hn1 : 0 < n := by
    rcases Nat.eq_zero_or_pos n with e | e
    · rw [e] at hn
      have h3 := hG.2.2
      rw [List.length_eq_zero_iff.1 hn] at h3
      simp at h3
    · exact e
  have HCw : Hid (Calls _ _ _ _ _) := weigh_any a ws cap w h (by omega)
  have eV : weighV ws = ws.sum := by unfold weighV; rw [if_pos hb]
  have eE : shE (shBad ws) = .nilIface := by unfold shE; rw [if_pos hb]
  rw [eV, eE] at HCw
  have HSz : Hid (∀ W, Calls Tryz.prog 73 #[.int .i64 t] W fun e w' => e = .returned (.int .u64 (sizeI t)) ∧ w' = W) := fun W => size_any t W ht.1 ht.2
  have hTt : sizeI t ≤ 9223372036854775808 := by have := ht.1; have := ht.2; unfold sizeI; split <;> omega
  have hA1 := hG.2.2
  have hA2 : ws.sum ≤ 40000000000 := by
    have := sum_le (l := ws) (M := 1000000000) fun x hx => (hG.2.1 x hx).2
    omega
  have Hw : Hid (∀ k, k < n → 0 ≤ ws.getD k 0 ∧ ws.getD k 0 ≤ 1000000000 ∧ ws.getD k 0 ≤ ws.sum) := fun k hk => by
    have hm := w_mem ws k (by omega)
    exact ⟨(hG.2.1 _ hm).1, (hG.2.1 _ hm).2, mem_le_sum (fun x hx => (hG.2.1 x hx).1) hm⟩
  obtain ⟨T, hT⟩ : ∃ T, sizeI t = T := ⟨_, rfl⟩
  have HT : Hid (sizeI t = T) := hT
  rw [hT] at hT0 HSz hTt
  obtain ⟨A, hA⟩ : ∃ A, ws.sum = A := ⟨_, rfl⟩
  have HA : Hid (ws.sum = A) := hA
  rw [hA] at hA1 hA2 HCw Hw
  have HPt : Hid (∀ k W, k < n → Calls Tryz.prog 74 #[.int .u64 T, .int .u64 (ws.getD k 0), .int .u64 A] W fun e w' => e = .returned (.tuple #[.int .u64 ((partL T ws).getD k 0), .int .u64 ((cutL T ws).getD k 0)]) ∧ ∃ n, w' = W.drewN n) := fun k W hk => by
    obtain ⟨x0, x1, x2⟩ := Hw.out k hk
    have := part_any T (ws.getD k 0) A W hT0 (by omega) x0 x2 (by omega) (by omega)
    rw [partL_at T ws (by omega), cutL_at T ws (by omega), hA]
    exact this
  have HL : Hid (∀ k, k ≤ n → 0 ≤ leftK T ws k ∧ leftK T ws k ≤ T) := fun k hk => leftK_bd hT0 hG k (by omega)
  have HLs : Hid (∀ k, leftK T ws (k + 1) = leftK T ws k - (partL T ws).getD k 0) := fun k => leftK_succ T ws k
  have HP0 : Hid (∀ k, k < n → 0 ≤ (partL T ws).getD k 0 ∧ (partL T ws).getD k 0 ≤ T) := fun k hk => by
    have h1 := part_nonneg' hT0 hG (i := k) (by omega)
    have h2 := leftK_bd hT0 hG k (by omega)
    have h3 := leftK_bd hT0 hG (k + 1) (by omega)
    rw [leftK_succ] at h3
    omega
  have Hc : Hid (∀ W, Below w.heap.size w W → ∀ k, k < n → ∃ b off, a = some ⟨b, off, none⟩ ∧ b < w.heap.size ∧ W.cell? ⟨b, off + k, none⟩ = some (.int .i64 (ws.getD k 0))) := fun W hW k hk => by
    obtain ⟨b, off, e, hlt, hc⟩ := h.at (k := k) (by omega)
    exact ⟨b, off, e, hlt, (hW.cell (p := ⟨b, off + k, none⟩) hlt).trans hc⟩
  have hmk := fun w => run_make_row' (P := Tryz.prog) 125 122 (.int .u64 0) 8 Tryz.underlying125 srt_u64 rfl .i64 .i64 n (by omega) (by omega) w
  have hmi := fun w => run_make_row' (P := Tryz.prog) 43 3 (.int .i64 0) 8 Tryz.underlying43 srt_int rfl .i64 .i64 n (by omega) (by omega) w
  have H2 : Hid (Two1 w ((w.alloc (.cells (madeCells #[.int .u64 0] n) 122)).alloc (.cells (madeCells #[.int .u64 0] n) 122)) w.heap.size (List.replicate n 0) (List.replicate n 0)) := by
    refine ⟨(URow.made w n).alloc _, ?_, ((Below.refl _ w).alloc (Nat.le_refl _) _).alloc (by simp) _, by simp⟩
    have := URow.made (w.alloc (.cells (madeCells #[.int .u64 0] n) 122)) n
    rw [show (w.alloc (.cells (madeCells #[.int .u64 0] n) 122)).heap.size = w.heap.size + 1 by simp] at this
    exact this
  have HBy : Hid (∀ W, Two1 w W w.heap.size (partL T ws) (cutL T ws) → Calls Tryz.prog 75 #[.slice (some ⟨w.heap.size + 1, 0, none⟩) n n] W fun e w' => e = .returned (.slice (some ⟨w.heap.size + 3, 0, none⟩) n n) ∧ Hid (∃ s : List Nat, s.Perm (List.range n) ∧ s.Pairwise (LT (cutL T ws)) ∧ NRow w' (w.heap.size + 3) (toI s) ∧ URow w' w.heap.size (rowK T ws s 0) ∧ Below w.heap.size w w')) := fun W hW => by
    have hcl : (cutL T ws).length = n := by rw [cutL_len]; exact hn
    have c := byCut_any (w.heap.size + 1) n (cutL T ws) W (by have := hW.s; omega) (fun i hi => hW.c.cell hi) (by omega) (by omega)
    rw [hcl, hW.s] at c
    refine c.mono ?_
    rintro e w' ⟨rfl, hh⟩
    obtain ⟨hbl, s, p1, p2, p3⟩ := hh.out
    exact ⟨rfl, s, p1, p2, p3, by rw [rowK_zero]; exact hW.p.below hbl (by omega), hW.b.trans (hbl.mono (by omega))⟩
  have HEnd : Hid (∀ g W, w.heap.size ≤ g → Below w.heap.size w W → NRow W g ((List.range n).map (shareI t ws)) → SharesEnd t ws w (.returned (.tuple #[.slice (some ⟨g, 0, none⟩) n n, .nilIface])) W) := fun g W h1 h2 h3 => ⟨h2, fun e => absurd hb e, fun _ => ⟨g, h1, by rw [hn], by rw [hn]; exact h3⟩⟩
  have HAll : Hid (∀ s : List Nat, s.Perm (List.range n) → s.Pairwise (LT (cutL T ws)) → rowK T ws s (leftI T ws).toNat = (List.range n).map (grossI T ws)) := fun s h1 h2 => by
    rw [← hn]; rw [← hn] at h1
    exact rowK_all hG h1 h2
  have HKa : Hid (leftK T ws n = ((leftI T ws).toNat : Nat) ∧ (leftI T ws).toNat ≤ n) := by
    have h1 := leftK_all T ws
    rw [hn] at h1
    have h2 := left_nonneg (T := T) hG
    have h3 := left_le (T := T) hG
    refine ⟨by rw [h1]; omega, by omega⟩
  have HRow0 : Hid ((List.range n).map (fun i => (partL T ws).getD i 0) = partL T ws ∧ (List.range n).map (fun i => (cutL T ws).getD i 0) = cutL T ws) := by
    have h1 := range_getD (partL T ws)
    have h2 := range_getD (cutL T ws)
    rw [partL_len, hn] at h1
    rw [cutL_len, hn] at h2
    exact ⟨h1, h2⟩
  have HLen : Hid (ws.length = n) := hn
  have HGr : Hid (∀ k, k < n → 0 ≤ grossI T ws k ∧ grossI T ws k ≤ T) := fun k hk => ⟨gross_nonneg hT0 hG (by omega), gross_le hT0 hG (by omega)⟩
  have HSg : Hid (∀ k W, k < n → Calls Tryz.prog 76 #[.int .u64 (grossI T ws k), .bool (decide (t < 0))] W fun e w' => e = .returned (.int .i64 (shareI t ws k)) ∧ w' = W) := fun k W hk => by
    obtain ⟨g0, g1⟩ := HGr.out k hk
    rw [share_gross, hT]
    have h1 := ht.1
    have h2 := ht.2
    by_cases hneg : t < 0
    · rw [decide_eq_true hneg, if_pos hneg]
      exact withSign_yes _ W g0 (by omega)
    · rw [decide_eq_false hneg, if_neg hneg]
      refine withSign_no _ W g0 ?_
      unfold sizeI at hT
      rw [if_neg hneg] at hT
      omega
  have n0 : (0 : Int) < n := by omega
  have n1 : (n : Int) ≤ 40 := by omega
  obtain ⟨g, hg⟩ : ∃ g, w.heap.size = g := ⟨_, rfl⟩
  rw [hn]
  rw [hn] at HCw
  rw [hg] at H2 HBy HEnd Hc
  clear h hb hG eV eE hn hA hT HG
  go_enter Tryz.func36, Tryz.ntmps36
  go_wp2_with (first | (go_at_call 72; refine HCw.out.mono ?_; rintro e w' ⟨rfl, hw⟩; rw [hw]; clear hw w') | (go_at_call 73; refine (HSz.out _).mono ?_; rintro e w' ⟨rfl, hw⟩; rw [hw]; clear hw w'))
  clear hmk
  obtain ⟨wB, hwB⟩ : ∃ wB, (w.alloc (.cells (madeCells #[.int .u64 0] n) 122)).alloc (.cells (madeCells #[.int .u64 0] n) 122) = wB := ⟨_, rfl⟩
  rw [hwB] at H2 ⊢
  clear hwB
  go_loopw [10, 36] (fun lf i wr => ∃ k : Nat, k ≤ n ∧ i = .int .i64 k ∧ lf = .int .u64 (leftK T ws k) ∧ Hid (Two1 w wr g ((List.range k).map (fun i => (partL T ws).getD i 0) ++ List.replicate (n - k) 0) ((List.range k).map (fun i => (cutL T ws).getD i 0) ++ List.replicate (n - k) 0))) (fun _ i _ => n - (RowKit.intOf i).toNat)
  case atStart => exact ⟨0, Nat.zero_le _, rfl, by rw [leftK_zero], by unfold Hid; simpa using H2.out⟩
  case round =>
    obtain ⟨k, hk, rfl, rfl, H⟩ := hrel
    by_cases hlt : k < n
    · obtain ⟨b, off, rfl, hb, hc⟩ := Hc.out wr H.out.b k hlt
      have HPk : Hid (∀ W, Calls _ _ _ W _) := fun W => HPt.out k W hlt
      have HLk := HLs.out k
      obtain ⟨x0, x1, x2⟩ := Hw.out k hlt
      obtain ⟨p0, p1⟩ := HP0.out k hlt
      obtain ⟨l0, l1⟩ := HL.out k hk
      have l2 := (HL.out (k + 1) hlt).1
      rw [HLk] at l2
      have i0 : (0 : Int) ≤ k := by omega
      have i1 : (k : Int) < n := by omega
      have HLk' : Hid (leftK T ws (k + 1) = leftK T ws k - (partL T ws).getD k 0) := HLk
      have HS : Hid (∀ m, Two1 w (((wr.drewN m).setCell ⟨g, k, none⟩ (.int .u64 ((partL T ws).getD k 0))).setCell ⟨g + 1, k, none⟩ (.int .u64 ((cutL T ws).getD k 0))) g ((List.range (k + 1)).map (fun i => (partL T ws).getD i 0) ++ List.replicate (n - (k + 1)) 0) ((List.range (k + 1)).map (fun i => (cutL T ws).getD i 0) ++ List.replicate (n - (k + 1)) 0)) := fun m => by
        have := (H.out.drewN m).step k ((partL T ws).getD k 0) ((cutL T ws).getD k 0)
        rw [srow_step (fun i => (partL T ws).getD i 0) n k hlt, srow_step (fun i => (cutL T ws).getD i 0) n k hlt] at this
        exact this
      have hrl : ∀ f : Nat → Int, ((List.range k).map f ++ List.replicate (n - k) 0).length = n := fun f => by simp; omega
      have Hc1 : Hid (∀ m, (∃ z, (wr.drewN m).cell? ⟨g, k, none⟩ = some (.int .u64 z)) ∧ (wr.drewN m).frozen? ⟨g, k, none⟩ = false) := fun m => ⟨⟨_, (H.out.drewN m).p.cell (by rw [hrl]; exact hlt)⟩, (H.out.drewN m).p.frozen k⟩
      have Hc2 : Hid (∀ m x, (∃ z, ((wr.drewN m).setCell ⟨g, k, none⟩ (.int .u64 x)).cell? ⟨g + 1, k, none⟩ = some (.int .u64 z)) ∧ ((wr.drewN m).setCell ⟨g, k, none⟩ (.int .u64 x)).frozen? ⟨g + 1, k, none⟩ = false) := fun m x => by
        have := (H.out.drewN m).c.other (g' := g) (by omega) k (.int .u64 x)
        exact ⟨⟨_, this.cell (by rw [hrl]; exact hlt)⟩, this.frozen k⟩
      have Hc3 : Hid (∀ m x y, (((wr.drewN m).setCell ⟨g, k, none⟩ (.int .u64 x)).setCell ⟨g + 1, k, none⟩ (.int .u64 y)).cell? ⟨g, k, none⟩ = some (.int .u64 x)) := fun m x y => by
        have := ((H.out.drewN m).step k x y).p.cell (i := k) (by rw [List.length_set, hrl]; exact hlt)
        rw [List.getD_eq_getElem?_getD, List.getElem?_set_self (by rw [hrl]; exact hlt)] at this
        exact this
      clear H HLk hrl
      generalize (partL T ws).getD k 0 = P at *
      generalize (cutL T ws).getD k 0 = C at *
      generalize leftK T ws k = Lk at *
      generalize ws.getD k 0 = x at *
      go_wp2_with fail
      refine (HSz.out _).mono ?_
      rintro e w' ⟨rfl, hw⟩
      rw [hw]; clear hw w'
      go_wp2_with fail
      go_at_call 74
      refine (HPk.out _).mono ?_
      rintro e w' ⟨rfl, m, hw⟩
      rw [hw]; clear hw w'
      have HS1 := HS.out m
      obtain ⟨⟨z1, c1⟩, f1⟩ := Hc1.out m
      obtain ⟨⟨z2, c2⟩, f2⟩ := Hc2.out m P
      have c3 := Hc3.out m P C
      have HS2 : Hid (Two1 _ _ _ _ _) := HS1
      clear HS HS1 Hc1 Hc2 Hc3
      obtain ⟨W1, hW1⟩ : ∃ W1, wr.drewN m = W1 := ⟨_, rfl⟩
      rw [hW1] at c1 f1 c2 f2 c3 HS2 ⊢
      clear hW1 hc
      go_wp2
      go_roundw
      case rel => exact ⟨k + 1, by omega, by go_num, by rw [HLk'.out], HS2⟩
      case measure => simp [RowKit.intOf]; omega
    · have ek : k = n := by omega
      subst ek
      have HB2 : Hid (Calls _ _ _ wr _) := HBy.out wr (by
        have h1 := H.out
        rw [Nat.sub_self, List.replicate_zero, List.append_nil, List.append_nil, HRow0.out.1, HRow0.out.2] at h1
        exact h1)
      obtain ⟨eL, hLn⟩ := HKa.out
      obtain ⟨Lf, hLf⟩ : ∃ Lf, (leftI T ws).toNat = Lf := ⟨_, rfl⟩
      rw [hLf] at eL hLn HAll
      rw [eL]
      have l0 : (0 : Int) ≤ Lf := by omega
      have l1 : (Lf : Int) ≤ k := by omega
      have k1 : ¬ (k : Int) < k := by omega
      clear H HBy HKa hLf H2
      go_wp2_with fail
      refine HB2.out.mono ?_
      rintro e wS ⟨rfl, hh⟩
      obtain ⟨s, s1, s2, s3, s4, s5⟩ := hh.out
      clear HB2 hh
      have sl : s.length = k := by rw [s1.length_eq, List.length_range]
      have HAl : Hid (rowK T ws s Lf = (List.range k).map (grossI T ws)) := HAll.out s s1 s2
      have Hsb : Hid (∀ q, q < k → s.getD q 0 < k) := fun q hq => List.mem_range.1 (s1.mem_iff.1 (getD_mem0 (by omega)))
      have hnd : s.Nodup := s1.symm.nodup List.nodup_range
      have Hst : Hid (∀ q, q < k → (rowK T ws s q).set (s.getD q 0) ((partL T ws).getD (s.getD q 0) 0 + 1) = rowK T ws s (q + 1)) := fun q hq => rowK_step T ws s q hnd (by omega) (by rw [HLen.out]; exact Hsb.out q hq)
      have Hat : Hid (∀ q, q < k → (rowK T ws s q).getD (s.getD q 0) 0 = (partL T ws).getD (s.getD q 0) 0) := fun q hq => by
        rw [rowK_at T ws s q _ (by rw [HLen.out]; exact Hsb.out q hq), if_neg (not_ahead hnd (by omega))]
        omega
      have Hrow : Hid (NRow wS (g + 3) (toI s) ∧ URow wS g (rowK T ws s 0) ∧ Below g w wS) := ⟨s3, s4, s5⟩
      have Hsl : Hid (s.length = k) := sl
      have Htoi : Hid (∀ q, q < k → (toI s).getD q 0 = ((s.getD q 0 : Nat) : Int)) := fun q hq => by
        simp [toI, List.getD_eq_getElem?_getD, List.getElem?_map, List.getElem?_eq_getElem (show q < s.length by omega)]
      clear s1 s2 s3 s4 s5 sl HAll hnd
      go_wp2
      go_loopw [68] (fun i wr => ∃ q : Nat, q ≤ Lf ∧ i = .int .i64 q ∧ Hid (NRow wr (g + 3) (toI s) ∧ URow wr g (rowK T ws s q) ∧ Below g w wr)) (fun i _ => Lf - (RowKit.intOf i).toNat)
      case atStart => exact ⟨0, Nat.zero_le _, rfl, Hrow⟩
      case round =>
        rename World => wq
        obtain ⟨q, hq, rfl, H⟩ := hrel
        by_cases hlt : q < Lf
        · obtain ⟨r1, r2, r3⟩ := H.out
          have hqk : q < k := by omega
          have cs := r1.cell (i := q) (by rw [toI_len, Hsl.out]; exact hqk)
          rw [Htoi.out q hqk] at cs
          have hb := Hsb.out q hqk
          have cp := r2.cell (i := s.getD q 0) (by rw [rowK_len, HLen.out]; exact hb)
          have fp := r2.frozen (s.getD q 0)
          rw [Hat.out q hqk] at cp
          have hst := Hst.out q hqk
          have R2 := r2.set (s.getD q 0) ((partL T ws).getD (s.getD q 0) 0 + 1)
          rw [hst] at R2
          obtain ⟨p0, p1⟩ := HP0.out _ hb
          have HN : Hid (NRow (wq.setCell ⟨g, s.getD q 0, none⟩ (.int .u64 ((partL T ws).getD (s.getD q 0) 0 + 1))) (g + 3) (toI s) ∧ URow (wq.setCell ⟨g, s.getD q 0, none⟩ (.int .u64 ((partL T ws).getD (s.getD q 0) 0 + 1))) g (rowK T ws s (q + 1)) ∧ Below g w (wq.setCell ⟨g, s.getD q 0, none⟩ (.int .u64 ((partL T ws).getD (s.getD q 0) 0 + 1)))) := ⟨r1.other (by omega) _ _, R2, r3.setCell (p := ⟨g, s.getD q 0, none⟩) (Nat.le_refl _) _⟩
          have b0 : (0 : Int) ≤ (s.getD q 0 : Nat) := by omega
          have b1 : ((s.getD q 0 : Nat) : Int) < k := by omega
          have q0 : (0 : Int) ≤ q := by omega
          have q1 : (q : Int) < Lf := by omega
          clear H r1 r2 r3 R2 hst
          generalize (partL T ws).getD (s.getD q 0) 0 = P at *
          generalize s.getD q 0 = j at *
          go_wp2
          go_roundw
          case rel => exact ⟨q + 1, by omega, by go_num, HN⟩
          case measure => simp [RowKit.intOf]; omega
        · have ek : q = Lf := by omega
          subst ek
          obtain ⟨r1, r2, r3⟩ := H.out
          rw [HAl.out] at r2
          have q1 : ¬ (q : Int) < q := by omega
          have Hm : Hid (NRow (wq.alloc (.cells (madeCells #[.int .i64 0] k) 3)) wq.heap.size (List.replicate k 0) ∧ URow (wq.alloc (.cells (madeCells #[.int .i64 0] k) 3)) g ((List.range k).map (grossI T ws)) ∧ Below g w (wq.alloc (.cells (madeCells #[.int .i64 0] k) 3))) := ⟨nrow_made wq k, r2.alloc _, r3.alloc (by have := r2.lt; omega) _⟩
          have hgm : g < wq.heap.size := r2.lt
          clear H r1 r2 r3 HAl Hsb Hst Hat Hrow Htoi
          go_wp2
          obtain ⟨wC, hwC⟩ : ∃ wC, wq.alloc (.cells (madeCells #[.int .i64 0] k) 3) = wC := ⟨_, rfl⟩
          rw [hwC] at Hm ⊢
          obtain ⟨gm, hgm2⟩ : ∃ gm, wq.heap.size = gm := ⟨_, rfl⟩
          rw [hgm2] at Hm hgm ⊢
          clear hwC hmi
          go_loopw [84] (fun i wr => ∃ q : Nat, q ≤ k ∧ i = .int .i64 q ∧ Hid (NRow wr gm ((List.range q).map (shareI t ws) ++ List.replicate (k - q) 0) ∧ URow wr g ((List.range k).map (grossI T ws)) ∧ Below g w wr)) (fun i _ => k - (RowKit.intOf i).toNat)
          case atStart => exact ⟨0, Nat.zero_le _, rfl, by unfold Hid; simpa using Hm.out⟩
          case round =>
            rename World => wv
            obtain ⟨q', hq', rfl, H⟩ := hrel
            by_cases hlt : q' < k
            · obtain ⟨r1, r2, r3⟩ := H.out
              have cg := r2.cell (i := q') (by simp; exact hlt)
              rw [show ((List.range k).map (grossI T ws)).getD q' 0 = grossI T ws q' by simp [List.getD_eq_getElem?_getD, hlt]] at cg
              have hrl : ((List.range q').map (shareI t ws) ++ List.replicate (k - q') 0).length = k := by simp; omega
              have cs := r1.cell (i := q') (by rw [hrl]; exact hlt)
              have fs := r1.frozen q'
              have R1 := r1.set q' (shareI t ws q')
              rw [srow_step (shareI t ws) k q' hlt] at R1
              have HSk : Hid (Calls _ _ _ wv _) := HSg.out q' wv hlt
              have HN : Hid (NRow (wv.setCell ⟨gm, q', none⟩ (.int .i64 (shareI t ws q'))) gm ((List.range (q' + 1)).map (shareI t ws) ++ List.replicate (k - (q' + 1)) 0) ∧ URow (wv.setCell ⟨gm, q', none⟩ (.int .i64 (shareI t ws q'))) g ((List.range k).map (grossI T ws)) ∧ Below g w (wv.setCell ⟨gm, q', none⟩ (.int .i64 (shareI t ws q')))) := ⟨R1, r2.other (by omega) _ _, r3.setCell (p := ⟨gm, q', none⟩) (by simp; omega) _⟩
              obtain ⟨g0, g1⟩ := HGr.out q' hlt
              have i0 : (0 : Int) ≤ q' := by omega
              have i1 : (q' : Int) < k := by omega
              generalize ((List.range q').map (shareI t ws) ++ List.replicate (k - q') 0).getD q' 0 = z at cs
              clear H r1 r2 r3 R1 hrl
              generalize grossI T ws q' = G at *
              generalize shareI t ws q' = V at *
              go_wp2_with fail
              refine HSk.out.mono ?_
              rintro e w' ⟨rfl, hw⟩
              rw [hw]; clear hw w'
              go_wp2
              go_roundw
              case rel => exact ⟨q' + 1, by omega, by go_num, HN⟩
              case measure => simp [RowKit.intOf]; omega
            · have ek : q' = k := by omega
              subst ek
              obtain ⟨r1, r2, r3⟩ := H.out
              rw [Nat.sub_self, List.replicate_zero, List.append_nil] at r1
              have HE : Hid (SharesEnd _ _ _ _ _) := HEnd.out gm wv (by omega) r3 r1
              have i1 : ¬ (q' : Int) < q' := by omega
              clear H r1 r2 r3
              go_wp2
              go_ret2
              exact HE.out
theorem shares_any (t : Int) (a : Option Addr) (ws : List Int) (cap : Nat) (w : World) (h : IsW w a ws cap) (hl : ws.length ≤ 9223372036854775807) (ht : I64 t) :
    Calls Tryz.prog 36 #[.int .i64 t, .slice a ws.length cap] w (SharesEnd t ws w) := by
  by_cases hb : shBad ws = 0
  · exact shares_good t a ws cap w h hb ht
  · exact shares_bad t a ws cap w h hl hb
end Go.Proofs.YtiolkeipgpkbmaaGreatDoor

namespace Go.Proofs.YtiolkeipgpkbmaaGreatDoor
set_option linter.unusedVariables false
set_option linter.unusedSimpArgs false
open Go.RowKit Go.Lib Math

theorem nrow_get {w : World} {g n : Nat} {f : Nat → Int} (h : NRow w g ((List.range n).map f)) {i : Nat} (hi : i < n) : w.cell? ⟨g, i, none⟩ = some (.int .i64 (f i)) := by
  have := h.cell (i := i) (by simp; exact hi)
  rw [show ((List.range n).map f).getD i 0 = f i by simp [List.getD_eq_getElem?_getD, hi]] at this
  exact this
theorem isW_lit (w : World) (l : List Int) : IsW (w.alloc (.cells (l.map (Value.int .i64)).toArray 3)) (some ⟨w.heap.size, 0, none⟩) l l.length :=
  ⟨Nat.le_refl _, .inr ⟨w.heap.size, 0, rfl, by simp, fun k hk => by
    rw [Nat.zero_add]
    exact NRow.cell (w := w.alloc _) (g := w.heap.size) (r := l) (by unfold NRow World.alloc; simp only [Array.getElem?_push_size]) hk⟩⟩
theorem drew_twice (w : World) (a b : Nat) : (w.drewN a).drewN b = w.drewN (a + b) := by simp [World.drewN, Nat.add_assoc]
theorem drewN_below (w : World) (n : Nat) : Below w.heap.size w (w.drewN n) := ⟨rfl, rfl, rfl, Nat.le_refl _, fun _ _ => rfl⟩
end Go.Proofs.YtiolkeipgpkbmaaGreatDoor

namespace Go.Proofs.YtiolkeipgpkbmaaGreatDoor
set_option linter.unusedVariables false
set_option linter.unusedSimpArgs false
open Go.RowKit Go.Lib

/-- A digit. -/
def digR (r : Nat) : Bool := decide (48 ≤ r) && decide (r ≤ 57)
/-- A sign of a name. -/
def namR (r : Nat) : Bool := (decide (97 ≤ r) && decide (r ≤ 122)) || (decide (65 ≤ r) && decide (r ≤ 90)) || digR r || decide (r = 45)

theorem digR_low {r : Nat} (h : digR r = true) : r < 128 := by simp [digR] at h; omega
theorem namR_low {r : Nat} (h : namR r = true) : r < 128 := by simp [namR, digR] at h; omega

/-- Where the first sign stands that does not fit, from a place on, among at most so many; else -1. -/
def strayFrom (p : Nat → Bool) (s : ByteArray) : Nat → Nat → Int
  | 0, _ => -1
  | f + 1, pos => if pos < s.size then (if p (Utf8.decode s pos).1 = true then strayFrom p s f (pos + (Utf8.decode s pos).2) else (pos : Int)) else -1

theorem strayFrom_end (p : Nat → Bool) (s : ByteArray) (f pos : Nat) (h : ¬ pos < s.size) : strayFrom p s f pos = -1 := by cases f <;> simp [strayFrom, h]

/-- All signs from a place on fit. -/
def fitsFrom (p : Nat → Bool) (s : ByteArray) (pos : Nat) : Prop := ∀ i, pos ≤ i → i < s.size → p (s.get! i).toNat = true

theorem stray_fits (p : Nat → Bool) (hp : ∀ r, p r = true → r < 128) (s : ByteArray) : ∀ (f pos : Nat), s.size ≤ pos + f → (strayFrom p s f pos < 0 ↔ fitsFrom p s pos)
  | 0, pos, h => by
    simp only [strayFrom]
    exact ⟨fun _ i h1 h2 => by omega, fun _ => by omega⟩
  | f + 1, pos, h => by
    by_cases hlt : pos < s.size
    · have hg : s.get! pos = s[pos]'hlt := by
        show s.data[pos]! = s.data[pos]'hlt
        exact getElem!_pos s.data pos hlt
      rw [strayFrom, if_pos hlt]
      by_cases ha : (s[pos]'hlt).toNat < 128
      · rw [decode_ascii s pos hlt ha]
        by_cases hc : p (s[pos]'hlt).toNat = true
        · rw [if_pos hc, stray_fits p hp s f (pos + 1) (by omega)]
          constructor
          · intro hf i h1 h2
            by_cases e : i = pos
            · subst e; rw [hg]; exact hc
            · exact hf i (by omega) h2
          · intro hf i h1 h2
            exact hf i (by omega) h2
        · rw [if_neg hc]
          refine ⟨fun h => by omega, fun hf => ?_⟩
          have := hf pos (Nat.le_refl _) hlt
          rw [hg] at this
          exact absurd this hc
      · have hd := (decode_high s pos hlt (by omega)).1
        rw [if_neg (fun h => by have := hp _ h; omega)]
        refine ⟨fun h => by omega, fun hf => ?_⟩
        have := hp _ (hf pos (Nat.le_refl _) hlt)
        rw [hg] at this
        omega
    · rw [strayFrom_end p s _ _ hlt]
      exact ⟨fun _ i h1 h2 => by omega, fun _ => by omega⟩

/-- Is a text of 1 to so many bytes, all of which fit? -/
def madeOf (p : Nat → Bool) (most : Nat) (s : ByteArray) : Bool := decide (s.size ≠ 0) && (decide (s.size ≤ most) && decide (strayFrom p s s.size 0 < 0))

theorem madeOf_iff {p : Nat → Bool} (hp : ∀ r, p r = true → r < 128) {most : Nat} {s : ByteArray} : madeOf p most s = true ↔ s.size ≠ 0 ∧ s.size ≤ most ∧ ∀ i, i < s.size → p (s.get! i).toNat = true := by
  unfold madeOf
  simp only [Bool.and_eq_true, decide_eq_true_eq]
  rw [stray_fits p hp s s.size 0 (by omega)]
  exact ⟨fun ⟨a, b, c⟩ => ⟨a, b, fun i hi => c i (Nat.zero_le _) hi⟩, fun ⟨a, b, c⟩ => ⟨a, b, fun i _ hi => c i hi⟩⟩

def isCodeB (s : ByteArray) : Bool := madeOf digR 6 s
def isNameB (s : ByteArray) : Bool := madeOf namR 24 s

theorem digit_any (r : Nat) (w : World) :
    Calls Tryz.prog 139 #[.int .i32 r] w fun e w' => e = .returned (.bool (digR r)) ∧ w' = w := by
  by_cases h1 : (48 : Int) ≤ r
  · have : digR r = decide ((r : Int) ≤ 57) := by
      have e1 : decide (48 ≤ r) = true := by simp; omega
      have e2 : decide (r ≤ 57) = decide ((r : Int) ≤ 57) := by simp; omega
      unfold digR; rw [e1, e2]; rfl
    rw [this]
    go_enter Tryz.func139, Tryz.ntmps139
    go_wp2
    go_ret
    exact ⟨rfl, rfl⟩
  · have : digR r = false := by simp [digR]; omega
    rw [this]
    go_enter Tryz.func139, Tryz.ntmps139
    go_wp2
    go_ret
    exact ⟨rfl, rfl⟩

theorem nameSign_any (r : Nat) (w : World) :
    Calls Tryz.prog 140 #[.int .i32 r] w fun e w' => e = .returned (.bool (namR r)) ∧ w' = w := by
  have h1 : (97 : Int) ≤ r ∧ (r : Int) ≤ 122 ∨ 122 < (r : Int) ∨ (90 : Int) < r ∧ (r : Int) < 97 ∨ (65 : Int) ≤ r ∧ (r : Int) ≤ 90 ∨ (r : Int) < 65 := by omega
  rcases h1 with ⟨a, b⟩ | a | ⟨a, b⟩ | ⟨a, b⟩ | a
  · have : namR r = true := by simp [namR]; omega
    rw [this]
    go_enter Tryz.func140, Tryz.ntmps140
    go_wp2
    go_ret
    exact ⟨rfl, rfl⟩
  · have d : digR r = false := by simp [digR]; omega
    have : namR r = false := by simp [namR, d]; omega
    rw [this]
    have n45 : ((r : Int) == 45) = false := by simp; omega
    have n90 : decide ((r : Int) ≤ 90) = false := by simp; omega
    have n122 : decide ((r : Int) ≤ 122) = false := by simp; omega
    go_enter Tryz.func140, Tryz.ntmps140
    go_wp2_with (go_at_call 139; refine (digit_any r _).mono ?_; rintro e w' ⟨rfl, rfl⟩; rw [d])
    go_ret
    exact ⟨rfl, rfl⟩
  · have d : digR r = false := by simp [digR]; omega
    have : namR r = false := by simp [namR, d]; omega
    rw [this]
    have n45 : ((r : Int) == 45) = false := by simp; omega
    have n90 : decide ((r : Int) ≤ 90) = false := by simp; omega
    go_enter Tryz.func140, Tryz.ntmps140
    go_wp2_with (go_at_call 139; refine (digit_any r _).mono ?_; rintro e w' ⟨rfl, rfl⟩; rw [d])
    go_ret
    exact ⟨rfl, rfl⟩
  · have : namR r = true := by simp [namR]; omega
    rw [this]
    go_enter Tryz.func140, Tryz.ntmps140
    go_wp2
    go_ret
    exact ⟨rfl, rfl⟩
  · cases d : digR r
    · have : namR r = ((r : Int) == 45) := by
        have e1 : decide (r = 45) = ((r : Int) == 45) := by rw [Bool.eq_iff_iff]; simp; omega
        have e2 : (decide (97 ≤ r) && decide (r ≤ 122)) = false := by simp; omega
        have e3 : (decide (65 ≤ r) && decide (r ≤ 90)) = false := by simp; omega
        unfold namR; rw [e1, e2, e3, d]; rfl
      rw [this]
      go_enter Tryz.func140, Tryz.ntmps140
      go_wp2_with (go_at_call 139; refine (digit_any r _).mono ?_; rintro e w' ⟨rfl, rfl⟩; rw [d])
      go_ret
      exact ⟨rfl, rfl⟩
    · have : namR r = true := by simp [namR, d]
      rw [this]
      go_enter Tryz.func140, Tryz.ntmps140
      go_wp2_with (go_at_call 139; refine (digit_any r _).mono ?_; rintro e w' ⟨rfl, rfl⟩; rw [d])
      go_ret
      exact ⟨rfl, rfl⟩

/-- What is asked of a function that says which signs fit. -/
structure ChFits (g : Nat) (p : Nat → Bool) : Prop where
  eg : ∀ args w, (callFunc g args).run Tryz.prog w = .ok (.enter g args) w
  call : ∀ (r : Nat) w, Calls Tryz.prog g #[.int .i32 r] w fun e w' => e = .returned (.bool (p r)) ∧ w' = w

theorem enters {f : FuncId} {fn : Func} (hf : Tryz.prog.funcs[f]? = some fn) (hn : (fn.name == "runtime.NumGoroutine") = false) (hb : ∃ c, fn.body = some c) (args : Array Value) (w : World) : (callFunc f args).run Tryz.prog w = .ok (.enter f args) w := by
  obtain ⟨c, hc⟩ := hb
  exact MuLone.run_callFunc_enter hf hn hc args w
theorem digit_fits : ChFits 139 digR := ⟨fun args w => enters Tryz.func139 (by kernel_rfl) ⟨_, rfl⟩ args w, digit_any⟩
theorem name_fits : ChFits 140 namR := ⟨fun args w => enters Tryz.func140 (by kernel_rfl) ⟨_, rfl⟩ args w, nameSign_any⟩

theorem madeOf1_any (g : Nat) (p : Nat → Bool) (hf : ChFits g p) (B r : Nat) (w : World) (hB : w.cell? ⟨B, 0, none⟩ = some (.func (.func g) #[] #[])) :
    Calls Tryz.prog 145 #[.int .i32 r, .pointer (some ⟨B, 0, none⟩)] w fun e w' => e = .returned (.bool (!p r)) ∧ w' = w := by
  have eg := hf.eg
  have hc := hf.call r w
  clear hf
  go_enter Tryz.func145, Tryz.ntmps145
  go_wp2_with (go_at_fn g; refine hc.mono ?_; rintro e w' ⟨rfl, rfl⟩)
  go_ret
  exact ⟨rfl, rfl⟩

set_option maxHeartbeats 1000000 in
theorem chIndexFunc_any (g : Nat) (p : Nat → Bool) (hf : ChFits g p) (B : Nat) (s : ByteArray) (w : World) (hb : B < w.heap.size) (hB : w.cell? ⟨B, 0, none⟩ = some (.func (.func g) #[] #[])) :
    Calls Tryz.prog 127 #[.string s, .func (.func 145) #[] #[.pointer (some ⟨B, 0, none⟩)], .bool true] w fun e w' => e = .returned (.int .i64 (strayFrom p s s.size 0)) ∧ Below w.heap.size w w' := by
  have HB : Hid (w.cell? ⟨B, 0, none⟩ = some (.func (.func g) #[] #[])) := hB
  have HF : Hid (ChFits g p) := hf
  clear hB hf
  go_enter Tryz.func127, Tryz.ntmps127
  go_wp2
  go_loopg [] s.size (fun gf wx => ∃ pos : Nat, wx.heap[w.heap.size]? = some (.stringIter s pos) ∧ Below w.heap.size w wx ∧ strayFrom p s gf pos = strayFrom p s s.size 0 ∧ s.size ≤ pos + gf)
  case atStart => exact ⟨0, World.iter_heap w s 0, (Below.refl _ w).alloc (Nat.le_refl _) _, rfl, by omega⟩
  case round =>
    obtain ⟨pos, hit, hbw, hleft, hfu⟩ := hrel
    by_cases hps : pos < s.size
    · obtain ⟨g', rfl⟩ : ∃ g', gk = g' + 1 := ⟨gk - 1, by omega⟩
      have hnx : ∀ ty, (Instr.next (.pointer (some ⟨w.heap.size, 0, none⟩)) true ty).run Tryz.prog wr = _ := fun ty => Lib.run_next_any_at wr w.heap.size s pos ty hit hps
      have hwd := Lib.width_pos s pos
      obtain ⟨R, hR⟩ : ∃ R, (Utf8.decode s pos).1 = R := ⟨_, rfl⟩
      obtain ⟨K, hK⟩ : ∃ K, (Utf8.decode s pos).2 = K := ⟨_, rfl⟩
      simp only [strayFrom, hps, if_true, hR, hK] at hleft
      rw [hR, hK] at hnx
      rw [hK] at hwd
      have hit2 := Lib.iterAt_heap wr w.heap.size s pos (pos + K) hit
      have hbw2 := Lib.below_iterAt hbw (k := w.heap.size) (Nat.le_refl _) s (pos + K)
      obtain ⟨W, hWd⟩ : ∃ W, wr.iterAt w.heap.size s (pos + K) = W := ⟨_, rfl⟩
      rw [hWd] at hnx hit2 hbw2
      have hcall := madeOf1_any g p HF.out B R W ((hbw2.cell (p := ⟨B, 0, none⟩) hb).trans HB.out)
      cases hsp : p R <;> simp only [hsp, if_true, Bool.false_eq_true, if_false] at hleft
      · rw [hsp] at hcall
        go_wp2_with (go_at_call 145; refine hcall.mono ?_; rintro e W' ⟨rfl, rfl⟩)
        go_ret
        exact ⟨by rw [← hleft]; rfl, hbw2⟩
      · rw [hsp] at hcall
        go_wp2_with (go_at_call 145; refine hcall.mono ?_; rintro e W' ⟨rfl, rfl⟩)
        go_roundg g'
        case measure => omega
        case rel => exact ⟨pos + K, hit2, hbw2, hleft, by omega⟩
    · have hnx : ∀ ty, (Instr.next (.pointer (some ⟨w.heap.size, 0, none⟩)) true ty).run Tryz.prog wr = _ := fun ty => Lib.run_next_end_at wr w.heap.size s pos ty hit hps
      rw [strayFrom_end p s gk pos hps] at hleft
      go_wp2
      go_ret
      exact ⟨by rw [← hleft]; rfl, hbw⟩

theorem chContainsFunc_any (g : Nat) (p : Nat → Bool) (hf : ChFits g p) (B : Nat) (s : ByteArray) (w : World) (hb : B < w.heap.size) (hB : w.cell? ⟨B, 0, none⟩ = some (.func (.func g) #[] #[])) :
    Calls Tryz.prog 70 #[.string s, .func (.func 145) #[] #[.pointer (some ⟨B, 0, none⟩)]] w fun e w' => e = .returned (.bool (decide (0 ≤ strayFrom p s s.size 0))) ∧ Below w.heap.size w w' := by
  have hI : Calls Tryz.prog 97 #[.string s, .func (.func 145) #[] #[.pointer (some ⟨B, 0, none⟩)]] w fun e w' => e = .returned (.int .i64 (strayFrom p s s.size 0)) ∧ Below w.heap.size w w' := by
    have hc := chIndexFunc_any g p hf B s w hb hB
    clear hf hB
    go_enter Tryz.func97, Tryz.ntmps97
    go_wp2_with fail
    refine hc.mono ?_
    rintro e w' ⟨rfl, hb⟩
    go_wp2
    go_ret
    exact ⟨rfl, hb⟩
  clear hf hB
  go_enter Tryz.func70, Tryz.ntmps70
  go_wp2_with fail
  refine hI.mono ?_
  rintro e w' ⟨rfl, hb⟩
  go_wp2
  go_ret
  exact ⟨rfl, hb⟩

theorem isMadeOf_any (g : Nat) (p : Nat → Bool) (hf : ChFits g p) (most : Nat) (s : ByteArray) (w : World) :
    Calls Tryz.prog 138 #[.string s, .int .i64 most, .func (.func g) #[] #[]] w fun e w' => e = .returned (.bool (madeOf p most s)) ∧ Below w.heap.size w w' := by
  have b0 : Below w.heap.size w (w.alloc (.cells #[.func (.func g) #[] #[]] 121)) := (Below.refl _ w).alloc (Nat.le_refl _) _
  have hc := chContainsFunc_any g p hf w.heap.size s (w.alloc (.cells #[.func (.func g) #[] #[]] 121)) (by simp) (by simp)
  have Hc : Hid (Calls _ _ _ _ _) := hc
  clear hf hc
  by_cases h0 : s.size = 0
  · have e0 : s.toList = [] := by
      rw [Lib.toList_data]
      exact List.eq_nil_of_length_eq_zero h0
    have e1 : madeOf p most s = false := by simp [madeOf, h0]
    rw [e1]
    go_enter Tryz.func138, Tryz.ntmps138
    go_wp2
    go_ret
    exact ⟨rfl, b0⟩
  have e0 : ¬ s.toList = [] := by
    rw [Lib.toList_data]
    intro e
    exact h0 (congrArg List.length e)
  have e0' : s.toList.isEmpty = false := by simpa using e0
  by_cases h1 : s.size ≤ most
  · have h1' : decide ((s.size : Int) ≤ most) = true := by simp; omega
    have e1 : madeOf p most s = !decide (0 ≤ strayFrom p s s.size 0) := by
      have d1 : decide (s.size ≠ 0) = true := by simp [h0]
      have d2 : decide (s.size ≤ most) = true := by simp [h1]
      have d3 : decide (strayFrom p s s.size 0 < 0) = !decide (0 ≤ strayFrom p s s.size 0) := by
        by_cases hh : 0 ≤ strayFrom p s s.size 0
        · rw [decide_eq_true hh, decide_eq_false (by omega)]; rfl
        · rw [decide_eq_false hh, decide_eq_true (by omega)]; rfl
      unfold madeOf; rw [d1, d2, d3]; rfl
    rw [e1]
    go_enter Tryz.func138, Tryz.ntmps138
    go_wp2_with fail
    refine Hc.out.mono ?_
    rintro e w' ⟨rfl, hb⟩
    go_wp2
    go_ret
    exact ⟨rfl, b0.trans (hb.mono (by simp))⟩
  · have h1' : decide ((s.size : Int) ≤ most) = false := by simp; omega
    have e1 : madeOf p most s = false := by simp [madeOf, h1]
    rw [e1]
    go_enter Tryz.func138, Tryz.ntmps138
    go_wp2
    go_ret
    exact ⟨rfl, b0⟩

theorem isCode_any (s : ByteArray) (w : World) :
    Calls Tryz.prog 124 #[.string s] w fun e w' => e = .returned (.bool (isCodeB s)) ∧ Below w.heap.size w w' := by
  go_enter Tryz.func124, Tryz.ntmps124
  go_wp2_with fail
  refine (isMadeOf_any _ digR digit_fits 6 s w).mono ?_
  rintro e w' ⟨rfl, hb⟩
  go_wp2
  go_ret
  exact ⟨rfl, hb⟩

theorem isName_any (s : ByteArray) (w : World) :
    Calls Tryz.prog 125 #[.string s] w fun e w' => e = .returned (.bool (isNameB s)) ∧ Below w.heap.size w w' := by
  go_enter Tryz.func125, Tryz.ntmps125
  go_wp2_with fail
  refine (isMadeOf_any _ namR name_fits 24 s w).mono ?_
  rintro e w' ⟨rfl, hb⟩
  go_wp2
  go_ret
  exact ⟨rfl, hb⟩
end Go.Proofs.YtiolkeipgpkbmaaGreatDoor

namespace Go.Proofs.YtiolkeipgpkbmaaGreatDoor
set_option linter.unusedVariables false
set_option linter.unusedSimpArgs false
set_option maxRecDepth 100000
open Go.RowKit Go.Lib

theorem ch_ne {a b : ByteArray} (h : a ≠ b) : (a.toList == b.toList) = false := by
  rw [beq_eq_false_iff_ne]
  intro e
  rw [Lib.toList_data, Lib.toList_data] at e
  exact h (WideShapes.bytes_inj e)

theorem ch_empty {a : ByteArray} (h : a.size = 0) : a.toList = [] := by
  rw [Lib.toList_data]
  exact List.eq_nil_of_length_eq_zero h
theorem ch_some {a : ByteArray} (h : a.size ≠ 0) : ¬ a.toList = [] := by
  rw [Lib.toList_data]
  exact fun e => h (congrArg List.length e)

theorem ch_drewN {B : Nat} {a w : World} (h : Below B a w) (n : Nat) : Below B a (w.drewN n) := h.trans ⟨rfl, rfl, rfl, Nat.le_refl _, fun _ _ => rfl⟩

/-- An account. -/
structure Ac where
  code : ByteArray
  name : ByteArray
  kind : Int
  par : ByteArray
  mon : Bool

def Ac.cells (a : Ac) : Array Value := #[.string a.code, .string a.name, .int .i64 a.kind, .string a.par, .bool a.mon]
/-- An account of nothing. -/
def ac0 : Ac := ⟨ByteArray.empty, ByteArray.empty, 0, ByteArray.empty, false⟩

/-- An error by its number. -/
def chE (n : Int) : Value := if n = 0 then .nilIface else .iface 37 (.int .i64 n)
theorem chE_zero : chE 0 = .nilIface := rfl
theorem chE_ne {n : Int} (h : n ≠ 0) : chE n = .iface 37 (.int .i64 n) := if_neg h

structure AcAt (w : World) (b off : Nat) (a : Ac) : Prop where
  c0 : w.cell? ⟨b, off, none⟩ = some (.string a.code)
  c1 : w.cell? ⟨b, off + 1, none⟩ = some (.string a.name)
  c2 : w.cell? ⟨b, off + 2, none⟩ = some (.int .i64 a.kind)
  c3 : w.cell? ⟨b, off + 3, none⟩ = some (.string a.par)
  c4 : w.cell? ⟨b, off + 4, none⟩ = some (.bool a.mon)

theorem AcAt.below {w w' : World} {b off n : Nat} {a : Ac} (h : AcAt w b off a) (hb : Below n w w') (hn : b < n) : AcAt w' b off a :=
  ⟨(hb.cell (p := ⟨b, off, none⟩) hn).trans h.c0, (hb.cell (p := ⟨b, off + 1, none⟩) hn).trans h.c1, (hb.cell (p := ⟨b, off + 2, none⟩) hn).trans h.c2, (hb.cell (p := ⟨b, off + 3, none⟩) hn).trans h.c3, (hb.cell (p := ⟨b, off + 4, none⟩) hn).trans h.c4⟩

theorem AcAt.new (w : World) (a : Ac) (t : TypeId) : AcAt (w.alloc (.cells a.cells t)) w.heap.size 0 a :=
  ⟨by simp [Ac.cells], by simp [Ac.cells], by simp [Ac.cells], by simp [Ac.cells], by simp [Ac.cells]⟩

/-- Accounts in memory. -/
def AcsAt (w : World) (b off : Nat) (l : List Ac) : Prop := ∀ k, k < l.length → AcAt w b (off + k * 5) (l.getD k ac0)

/-- A slice of accounts. -/
structure IsSl (w : World) (a : Option Addr) (l : List Ac) (cap : Nat) : Prop where
  cap : l.length ≤ cap
  lies : l = [] ∨ ∃ b off, a = some ⟨b, off, none⟩ ∧ b < w.heap.size ∧ AcsAt w b off l

theorem IsSl.below {w w' : World} {a : Option Addr} {l : List Ac} {cap : Nat} (h : IsSl w a l cap) (hb : Below w.heap.size w w') : IsSl w' a l cap := by
  refine ⟨h.cap, ?_⟩
  rcases h.lies with h | ⟨b, off, e, hlt, hc⟩
  · exact .inl h
  · exact .inr ⟨b, off, e, by have := hb.size; omega, fun k hk => (hc k hk).below hb hlt⟩

theorem IsSl.take {w : World} {a : Option Addr} {l : List Ac} {cap : Nat} (h : IsSl w a l cap) (k : Nat) : IsSl w a (l.take k) cap := by
  refine ⟨by have := h.cap; simp; omega, ?_⟩
  rcases h.lies with h | ⟨b, off, e, hlt, hc⟩
  · exact .inl (by rw [h]; simp)
  · refine .inr ⟨b, off, e, hlt, fun j hj => ?_⟩
    simp only [List.length_take] at hj
    have : (l.take k).getD j ac0 = l.getD j ac0 := by
      rw [List.getD_eq_getElem?_getD, List.getD_eq_getElem?_getD, List.getElem?_take, if_pos (by omega)]
    rw [this]
    exact hc j (by omega)

theorem acs_drop (l : List Ac) (k : Nat) (h : k < l.length) : l.drop k = l.getD k ac0 :: l.drop (k + 1) := by
  rw [List.drop_eq_getElem_cons h, List.getD_eq_getElem?_getD, List.getElem?_eq_getElem h]
  rfl

/-- The place of the first account for which something holds, counted from a number on; else -1. -/
def idxFrom (p : Ac → Bool) : Nat → List Ac → Int
  | _, [] => -1
  | k, a :: l => if p a = true then (k : Int) else idxFrom p (k + 1) l
def idxP (p : Ac → Bool) (l : List Ac) : Int := idxFrom p 0 l

/-- What is asked of a function that is told an account and says yes or no. -/
structure Tells (g B : Nat) (p : Ac → Bool) (w : World) : Prop where
  eg : ∀ args W, (callFunc g args).run Tryz.prog W = .ok (.enter g args) W
  call : ∀ x W, Below w.heap.size w W → Calls Tryz.prog g #[.agg x.cells, .pointer (some ⟨B, 0, none⟩)] W fun e w' => e = .returned (.bool (p x)) ∧ Below W.heap.size W w'

set_option maxHeartbeats 1000000 in
theorem chIdx_some (g B : Nat) (p : Ac → Bool) (b off cap : Nat) (l : List Ac) (w : World) (hp : Tells g B p w) (hb : b < w.heap.size) (hlen : l.length ≤ 1000) (hc : AcsAt w b off l) :
    Calls Tryz.prog 67 #[.slice (some ⟨b, off, none⟩) l.length cap, .func (.func g) #[] #[.pointer (some ⟨B, 0, none⟩)]] w fun e w' => e = .returned (.int .i64 (idxP p l)) ∧ Below w.heap.size w w' := by
  have eg := hp.eg
  have Hp : Hid (Tells g B p w) := hp
  have Hc : Hid (AcsAt w b off l) := hc
  have Hlen : (l.length : Int) ≤ 1000 := by omega
  clear hp hc
  obtain ⟨res, hres⟩ : ∃ res, idxP p l = res := ⟨_, rfl⟩
  have Hres : Hid (idxP p l = res) := hres
  rw [hres]
  clear hres
  go_enter Tryz.func67, Tryz.ntmps67
  go_wp2
  go_loopw [8] (fun i wr => ∃ k : Nat, k ≤ l.length ∧ i = .int .i64 k ∧ Hid (idxFrom p k (l.drop k) = res) ∧ Below w.heap.size w wr) (fun i _ => l.length - (RowKit.intOf i).toNat)
  case atStart => exact ⟨0, Nat.zero_le _, rfl, Hres.out, Below.refl _ _⟩
  case round =>
    obtain ⟨k, hk, rfl, H, BW⟩ := hrel
    by_cases hlt : k < l.length
    · have hn := (Hc.out k hlt).below BW hb
      have hcall := Hp.out.call (l.getD k ac0) wr BW
      have E : Hid ((if p (l.getD k ac0) = true then (k : Int) else idxFrom p (k + 1) (l.drop (k + 1))) = res) := by
        have := H.out
        rw [acs_drop l k hlt] at this
        exact this
      clear H
      generalize l.getD k ac0 = a at *
      obtain ⟨a0, a1, a2, a3, a4⟩ := a
      obtain ⟨c0, c1, c2, c3, c4⟩ := hn
      simp only [Ac.cells] at c0 c1 c2 c3 c4 hcall
      have i0 : (0 : Int) ≤ k := by omega
      have i1 : (k : Int) < l.length := by omega
      cases hq : p ⟨a0, a1, a2, a3, a4⟩
      · rw [hq] at hcall
        have HN : Hid (idxFrom p (k + 1) (l.drop (k + 1)) = res) := by
          have := E.out; rw [if_neg (by rw [hq]; simp)] at this; exact this
        go_wp2_with (go_at_fn g; refine hcall.mono ?_; rintro e w' ⟨rfl, hb'⟩)
        go_roundw
        case rel => exact ⟨k + 1, by omega, by go_num, HN, BW.trans (hb'.mono BW.size)⟩
        case measure => simp [RowKit.intOf]; omega
      · rw [hq] at hcall
        have er : res = k := by rw [← E.out, if_pos hq]
        subst er
        go_wp2_with (go_at_fn g; refine hcall.mono ?_; rintro e w' ⟨rfl, hb'⟩)
        go_ret
        exact ⟨rfl, BW.trans (hb'.mono BW.size)⟩
    · have hk2 : k = l.length := by omega
      subst hk2
      have er : res = -1 := by rw [← H.out, List.drop_length]; rfl
      subst er
      go_wp2
      go_ret
      exact ⟨rfl, BW⟩

theorem chIdx_none (a : Option Addr) (cap : Nat) (f : Value) (w : World) :
    Calls Tryz.prog 67 #[.slice a 0 cap, f] w fun e w' => e = .returned (.int .i64 (-1)) ∧ Below w.heap.size w w' := by
  go_enter Tryz.func67, Tryz.ntmps67
  go_wp2
  refine wp_loop_rounds 1 ?_
  rw [rounds_succ]
  go_wp2
  go_ret
  exact ⟨rfl, Below.refl _ _⟩

theorem chIdx_any (g B : Nat) (p : Ac → Bool) (a : Option Addr) (cap : Nat) (l : List Ac) (w : World) (hp : Tells g B p w) (hlen : l.length ≤ 1000) (h : IsSl w a l cap) :
    Calls Tryz.prog 67 #[.slice a l.length cap, .func (.func g) #[] #[.pointer (some ⟨B, 0, none⟩)]] w fun e w' => e = .returned (.int .i64 (idxP p l)) ∧ Below w.heap.size w w' := by
  rcases h.lies with rfl | ⟨b, off, rfl, hlt, hc⟩
  · exact chIdx_none a cap _ w
  · exact chIdx_some g B p b off cap l w hp hlt hlen hc

/-- An account with a code. -/
def hasCode (c : ByteArray) (a : Ac) : Bool := decide (a.code = c)

theorem index1_any (x : Ac) (c : ByteArray) (B : Nat) (w : World) (hB : w.cell? ⟨B, 0, none⟩ = some (.string c)) (hlt : B < w.heap.size) :
    Calls Tryz.prog 68 #[.agg x.cells, .pointer (some ⟨B, 0, none⟩)] w fun e w' => e = .returned (.bool (hasCode c x)) ∧ Below w.heap.size w w' := by
  obtain ⟨a0, a1, a2, a3, a4⟩ := x
  have b0 : Below w.heap.size w (w.alloc (.cells #[.string a0, .string a1, .int .i64 a2, .string a3, .bool a4] 72)) := (Below.refl _ w).alloc (Nat.le_refl _) _
  have hB2 : (w.alloc (.cells #[.string a0, .string a1, .int .i64 a2, .string a3, .bool a4] 72)).cell? ⟨B, 0, none⟩ = some (.string c) := (b0.cell (p := ⟨B, 0, none⟩) hlt).trans hB
  simp only [Ac.cells]
  by_cases h : a0 = c
  · subst h
    have e1 : hasCode a0 ⟨a0, a1, a2, a3, a4⟩ = true := by simp [hasCode]
    rw [e1]
    go_enter Tryz.func68, Tryz.ntmps68
    go_wp2
    go_ret
    exact ⟨rfl, b0⟩
  · have e1 : hasCode c ⟨a0, a1, a2, a3, a4⟩ = false := by simp [hasCode, h]
    have h' := ch_ne h
    rw [e1]
    go_enter Tryz.func68, Tryz.ntmps68
    go_wp2
    go_ret
    exact ⟨by rw [← h']; rfl, b0⟩

theorem index1_tells (c : ByteArray) (B : Nat) (w : World) (hB : w.cell? ⟨B, 0, none⟩ = some (.string c)) (hlt : B < w.heap.size) : Tells 68 B (hasCode c) w :=
  ⟨fun args W => enters Tryz.func68 (by kernel_rfl) ⟨_, rfl⟩ args W, fun x W hW => index1_any x c B W ((hW.cell (p := ⟨B, 0, none⟩) hlt).trans hB) (by have := hW.size; omega)⟩

theorem chIndex_any (a : Option Addr) (cap : Nat) (l : List Ac) (c : ByteArray) (w : World) (hlen : l.length ≤ 1000) (h : IsSl w a l cap) :
    Calls Tryz.prog 33 #[.slice a l.length cap, .string c] w fun e w' => e = .returned (.int .i64 (idxP (hasCode c) l)) ∧ Below w.heap.size w w' := by
  have b0 : Below w.heap.size w (w.alloc (.cells #[.string c] 9)) := (Below.refl _ w).alloc (Nat.le_refl _) _
  have hc := chIdx_any 68 w.heap.size (hasCode c) a cap l (w.alloc (.cells #[.string c] 9)) (index1_tells c w.heap.size _ (by simp) (by simp)) hlen (h.below b0)
  clear h
  go_enter Tryz.func33, Tryz.ntmps33
  go_wp2_with fail
  refine hc.mono ?_
  rintro e w' ⟨rfl, hb⟩
  go_wp2
  go_ret
  exact ⟨rfl, b0.trans (hb.mono (by simp))⟩

theorem idxFrom_some (p : Ac → Bool) : ∀ (l : List Ac) (k : Nat), 0 ≤ idxFrom p k l → ∃ j, j < l.length ∧ idxFrom p k l = ((k + j : Nat) : Int) ∧ p (l.getD j ac0) = true ∧ ∀ i, i < j → p (l.getD i ac0) = false
  | [], k, h => by simp [idxFrom] at h
  | a :: l, k, h => by
    by_cases hp : p a = true
    · refine ⟨0, by simp, ?_, ?_, fun i hi => absurd hi (Nat.not_lt_zero _)⟩
      · rw [idxFrom, if_pos hp]; rfl
      · simpa using hp
    · rw [idxFrom, if_neg hp] at h ⊢
      obtain ⟨j, h1, h2, h3, h4⟩ := idxFrom_some p l (k + 1) h
      refine ⟨j + 1, by simpa using h1, by rw [h2]; congr 1; omega, by simpa using h3, fun i hi => ?_⟩
      cases i with
      | zero => simpa using hp
      | succ i => simpa using h4 i (by omega)

theorem idxFrom_none (p : Ac → Bool) : ∀ (l : List Ac) (k : Nat), idxFrom p k l < 0 → ∀ i, i < l.length → p (l.getD i ac0) = false
  | [], k, h, i, hi => by simp at hi
  | a :: l, k, h, i, hi => by
    by_cases hp : p a = true
    · rw [idxFrom, if_pos hp] at h; omega
    · rw [idxFrom, if_neg hp] at h
      cases i with
      | zero => simpa using hp
      | succ i => simpa using idxFrom_none p l (k + 1) h i (by simpa using hi)

theorem idxP_some {p : Ac → Bool} {l : List Ac} (h : 0 ≤ idxP p l) : ∃ j, j < l.length ∧ idxP p l = (j : Int) ∧ p (l.getD j ac0) = true ∧ ∀ i, i < j → p (l.getD i ac0) = false := by
  obtain ⟨j, h1, h2, h3, h4⟩ := idxFrom_some p l 0 h
  exact ⟨j, h1, by rw [idxP, h2]; congr 1; omega, h3, h4⟩
theorem idxP_none {p : Ac → Bool} {l : List Ac} (h : idxP p l < 0) : ∀ i, i < l.length → p (l.getD i ac0) = false := idxFrom_none p l 0 h

/-- What is wrong with an account's parent. -/
def parBad (pre : List Ac) (x : Ac) : Int :=
  if x.par.size = 0 then 0
  else if idxP (hasCode x.par) pre < 0 then 6
  else if (pre.getD (idxP (hasCode x.par) pre).toNat ac0).kind ≠ x.kind then 12 else 0

set_option maxHeartbeats 1000000 in
theorem checkParent_any (a : Option Addr) (cap : Nat) (pre : List Ac) (x : Ac) (w : World) (hlen : pre.length ≤ 1000) (h : IsSl w a pre cap) :
    Calls Tryz.prog 126 #[.slice a pre.length cap, .agg x.cells] w fun e w' => e = .returned (chE (parBad pre x)) ∧ Below w.heap.size w w' := by
  have hn := AcAt.new w x 72
  have b0 : Below w.heap.size w (w.alloc (.cells x.cells 72)) := (Below.refl _ w).alloc (Nat.le_refl _) _
  have hI := chIndex_any a cap pre x.par (w.alloc (.cells x.cells 72)) hlen (h.below b0)
  obtain ⟨res, hres⟩ : ∃ res, parBad pre x = res := ⟨_, rfl⟩
  have Hres : Hid (parBad pre x = res) := hres
  rw [hres]
  clear hres
  obtain ⟨x0, x1, x2, x3, x4⟩ := x
  simp only [Ac.cells] at hn hI b0 ⊢
  have hn0 := hn
  obtain ⟨c0, c1, c2, c3, c4⟩ := hn
  simp only [Nat.zero_add] at c0 c1 c2 c3 c4
  by_cases h0 : x3.size = 0
  · have e0 := ch_empty h0
    have er : res = 0 := by rw [← Hres.out]; simp [parBad, h0]
    subst er
    go_enter Tryz.func126, Tryz.ntmps126
    go_wp2
    go_ret
    exact ⟨rfl, b0⟩
  have e0 := ch_some h0
  have e0' : x3.toList.isEmpty = false := by simpa using e0
  have HI : Hid (Calls _ _ _ _ _) := hI
  clear hI
  go_enter Tryz.func126, Tryz.ntmps126
  go_wp2_with fail
  refine HI.out.mono ?_
  rintro e w1 ⟨rfl, hb1⟩
  have hsz : w.heap.size + 1 ≤ w1.heap.size := by have := hb1.size; simpa using this
  have B1 := b0.trans (hb1.mono (by simp))
  have hn1 := hn0.below hb1 (by simp)
  clear c0 c1 c2 c3 c4 hn0 HI hb1
  by_cases h1 : idxP (hasCode x3) pre < 0
  · have er : res = 6 := by rw [← Hres.out]; simp [parBad, h0, h1]
    subst er
    go_wp2
    go_ret
    exact ⟨rfl, B1⟩
  obtain ⟨j, hj, ej, hj2, hj3⟩ := idxP_some (p := hasCode x3) (l := pre) (by omega)
  have er : res = if (pre.getD j ac0).kind ≠ x2 then 12 else 0 := by
    rw [← Hres.out]; unfold parBad
    simp only
    rw [if_neg h0, if_neg h1, ej]; rfl
  have ER : Hid (res = if (pre.getD j ac0).kind ≠ x2 then 12 else 0) := er
  rw [ej]
  clear h1 ej hj2 hj3 er Hres
  rcases h.lies with rfl | ⟨b, off, rfl, hlt, hc⟩
  · simp at hj
  have hp := (hc j hj).below B1 hlt
  clear hc h
  generalize pre.getD j ac0 = y at *
  obtain ⟨y0, y1, y2, y3, y4⟩ := y
  obtain ⟨c0, c1, c2, c3, c4⟩ := hn1
  obtain ⟨d0, d1, d2, d3, d4⟩ := hp
  simp only [Nat.zero_add] at c0 c1 c2 c3 c4 d0 d1 d2 d3 d4
  have i0 : (0 : Int) ≤ j := by omega
  have i1 : (j : Int) < pre.length := by omega
  by_cases h2 : y2 = x2
  · subst h2
    have er : res = 0 := by rw [ER.out]; simp
    subst er
    go_wp2
    go_quiet (fail)
    go_wp2
    go_ret
    exact ⟨rfl, ch_drewN B1 _⟩
  · have er : res = 12 := by rw [ER.out]; simp [h2]
    subst er
    have h2' : (y2 != x2) = true := by simp [h2]
    go_wp2
    go_quiet (fail)
    go_wp2
    go_ret
    exact ⟨rfl, ch_drewN B1 _⟩
end Go.Proofs.YtiolkeipgpkbmaaGreatDoor
