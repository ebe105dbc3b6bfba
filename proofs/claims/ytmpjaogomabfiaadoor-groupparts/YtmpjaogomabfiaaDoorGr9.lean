/-
  How many thousandths a top has of each entity: the contract of group.Parts.
-/
import Derived.Test.YtmpjaogomabfiaaDoorGr8
import Derived.Test.YtmpjaogomabfiaaDoorNRow
import Derived.Deep.OwnRows
namespace Go.Proofs.YtmpjaogomabfiaaDoor
set_option linter.unusedVariables false
set_option linter.unusedSimpArgs false
set_option maxRecDepth 100000
open Go.RowKit Go.Lib

/-- How many thousandths, of all entities. -/
def ptsL (l : List Ho) (top : Int) : List Int := (List.range 12).map fun i => pv l top (l.length + 1) (((i + 1 : Nat) : Int))
theorem ptsL_len (l : List Ho) (top : Int) : (ptsL l top).length = 12 := by simp [ptsL]
theorem ptsL_get (l : List Ho) (top : Int) (i : Nat) (hi : i < 12) : (ptsL l top).getD i 0 = pv l top (l.length + 1) (((i + 1 : Nat) : Int)) := by
  unfold ptsL
  rw [List.getD_eq_getElem?_getD, List.getElem?_map, List.getElem?_range hi]
  rfl
/-- What is wrong with holdings and a top. -/
def ptsBad (l : List Ho) (top : Int) : Int := if hBad l ≠ 0 then hBad l else if upTo top 12 = false then 1 else 0
theorem ptsBad_ok {l : List Ho} {top : Int} : ptsBad l top = 0 ↔ hBad l = 0 ∧ 1 ≤ top ∧ top ≤ 12 := by
  unfold ptsBad
  rw [← upTo_iff]
  constructor
  · intro h
    split at h
    · contradiction
    · rename_i h1
      split at h
      · omega
      · rename_i h2
        exact ⟨Decidable.of_not_not h1, by simpa using h2⟩
  · rintro ⟨h1, h2⟩
    rw [if_neg (by simp [h1]), if_neg (by simp [h2])]
def PtsEnd (l : List Ho) (top : Int) (w : World) (e : Ending) (w' : World) : Prop :=
  Below w.heap.size w w' ∧ (ptsBad l top ≠ 0 → e = .returned (.tuple #[.slice none 0 0, grE (ptsBad l top)])) ∧ (ptsBad l top = 0 → ∃ g, e = .returned (.tuple #[.slice (some ⟨g, 0, none⟩) 12 12, .nilIface]) ∧ w.heap.size ≤ g ∧ NRow w' g (ptsL l top))
theorem over_ok {l : List Ho} (h : hadOver l = false) : ∀ n, n < 13 → hadL l n ≤ 1000 := by
  intro n hn
  unfold hadOver at h
  rw [List.any_eq_false] at h
  have := h n (List.mem_range.2 hn)
  simpa using this
theorem hBad_ok {l : List Ho} (h : hBad l = 0) : HoOk l ∧ nxGo [] l = 0 ∧ (∀ n, n < 13 → hadL l n ≤ 1000) ∧ prN l.length l = [] := by
  unfold hBad at h
  split at h
  · omega
  · rename_i h20
    split at h
    · contradiction
    · rename_i h1
      have h1' := Decidable.of_not_not h1
      unfold hBad2 at h
      split at h
      · omega
      · rename_i h2
        split at h
        · omega
        · rename_i h3
          exact ⟨nxGo_ok (by omega) h1', h1', over_ok (by simpa using h2), List.eq_nil_of_length_eq_zero (by omega)⟩
theorem gr_int : (Tryd.prog.info? 3).map (fun i => (i.zero, i.size, i.bytes)) = some (some (.int .i64 0), 1, 8) := by kernel_rfl
theorem row_set (f : Nat → Int) (k n : Nat) (hk : k < n) : ((List.range k).map f ++ List.replicate (n - k) 0).set k (f k) = (List.range (k + 1)).map f ++ List.replicate (n - (k + 1)) 0 := by
  obtain ⟨m, hm⟩ : ∃ m, n - k = m + 1 := ⟨n - k - 1, by omega⟩
  have hm2 : n - (k + 1) = m := by omega
  rw [hm, hm2, List.set_append_right _ _ (by simp), List.range_succ, List.map_append, List.append_assoc]
  simp [List.replicate_succ]

set_option maxHeartbeats 8000000 in
theorem grParts_any (a : Option Addr) (cap : Nat) (l : List Ho) (top : Int) (w : World) (hll : l.length ≤ 9223372036854775807) (h : IsHo w a l cap) :
    Calls Tryd.prog 8 #[.slice a l.length cap, .int .i64 top] w (PtsEnd l top w) := by
  obtain ⟨W0, hW0⟩ : ∃ W0, (w.alloc (.cells #[.slice a l.length cap] 22)).alloc (.cells #[.int .i64 top] 3) = W0 := ⟨_, rfl⟩
  have hb0 : Below w.heap.size w W0 := by rw [← hW0]; exact ((Below.refl _ w).alloc (Nat.le_refl _) _).alloc (by simp) _
  have hs0 : W0.heap.size = w.heap.size + 2 := by rw [← hW0]; simp
  have hc1 : W0.cell? ⟨w.heap.size, 0, none⟩ = some (.slice a l.length cap) := by rw [← hW0]; simp
  have hc2 : W0.cell? ⟨w.heap.size + 1, 0, none⟩ = some (.int .i64 top) := by rw [← hW0]; simp
  have HCk : Hid (Calls Tryd.prog 5 #[.slice a l.length cap] W0 fun e w' => e = .returned (grE (hBad l)) ∧ Below W0.heap.size W0 w') := grCheck_any a cap l W0 hll (h.below hb0)
  have HW0 : Hid ((w.alloc (.cells #[.slice a l.length cap] 22)).alloc (.cells #[.int .i64 top] 3) = W0) := hW0
  have HB0 : Hid (Below w.heap.size w W0 ∧ W0.heap.size = w.heap.size + 2) := ⟨hb0, hs0⟩
  have Hs : Hid (IsHo w a l cap) := h
  have HIs : Hid (∀ W, Calls Tryd.prog 16 #[.int .i64 top] W fun e w' => e = .returned (.bool (upTo top 12)) ∧ w' = W) := fun W => isEntity_any top W
  clear hb0 hW0 h hs0
  by_cases c1 : hBad l ≠ 0
  · have e1 : ptsBad l top = hBad l := if_pos c1
    unfold PtsEnd
    rw [e1, grE_ne c1]
    rw [grE_ne c1] at HCk
    clear e1
    generalize hBad l = z at *
    go_enter Tryd.func8, Tryd.ntmps8
    go_upto_region 1 with fail
    rw [HW0.out]
    go_wp2_with fail
    refine HCk.out.mono ?_
    rintro e w1 ⟨rfl, hb1⟩
    have HB1 : Hid (Below w.heap.size w w1) := HB0.out.1.trans (hb1.mono HB0.out.1.size)
    clear hb1 hc1 hc2
    go_wp2
    go_ret2
    exact ⟨HB1.out, fun _ => rfl, fun h => absurd h c1⟩
  have c1' := Decidable.of_not_not c1
  rw [c1', grE_zero] at HCk
  by_cases c2 : upTo top 12 = false
  · have e1 : ptsBad l top = 1 := by unfold ptsBad; rw [if_neg c1, if_pos c2]
    have e2 : grE 1 = .iface 35 (.int .i64 1) := rfl
    unfold PtsEnd
    rw [e1, e2]
    rw [c2] at HIs
    clear e1 e2
    go_enter Tryd.func8, Tryd.ntmps8
    go_upto_region 1 with fail
    rw [HW0.out]
    go_wp2_with fail
    refine HCk.out.mono ?_
    rintro e w1 ⟨rfl, hb1⟩
    have HB1 : Hid (Below w.heap.size w w1) := HB0.out.1.trans (hb1.mono HB0.out.1.size)
    have q2 := (hb1.cell (p := ⟨w.heap.size + 1, 0, none⟩) (by show w.heap.size + 1 < _; have := HB0.out.2; omega)).trans hc2
    clear hb1 hc1 hc2
    go_wp2_with fail
    refine (HIs.out _).mono ?_
    rintro e w' ⟨rfl, hw⟩
    rw [hw]; clear hw w'
    go_wp2
    go_ret2
    exact ⟨HB1.out, fun _ => rfl, fun h => absurd h (by decide)⟩
  have c2' : upTo top 12 = true := by simpa using c2
  have e1 : ptsBad l top = 0 := ptsBad_ok.2 ⟨c1', upTo_iff.1 c2'⟩
  rw [c2'] at HIs
  obtain ⟨hok, _, hs13, hnil⟩ := hBad_ok c1'
  have Hlev : Hid (∀ e, Lev l l.length e) := fun e x hx => by rw [hnil] at hx; cases hx
  have HP : Hid (∀ (B3 : Nat) (W : World) (i : Nat), i < 12 → PtAt W (w.heap.size + 1) w.heap.size B3 a l cap top → Calls Tryd.prog 17 #[.int .i64 (((i + 1 : Nat) : Int)), .pointer (some ⟨w.heap.size + 1, 0, none⟩), .pointer (some ⟨w.heap.size, 0, none⟩), .pointer (some ⟨B3, 0, none⟩)] W fun r w' => r = .returned (.int .i64 (pv l top (l.length + 1) (((i + 1 : Nat) : Int)))) ∧ Below W.heap.size W w') := fun B3 W i hi hW =>
    part_any _ _ B3 a l cap top hok hs13 l.length _ W (by omega) (by omega) (Hlev.out _) hW
  have HEnd : Hid (∀ e w', PtsEnd l top w e w' ↔ (Below w.heap.size w w' ∧ ∃ g, e = .returned (.tuple #[.slice (some ⟨g, 0, none⟩) 12 12, .nilIface]) ∧ w.heap.size ≤ g ∧ NRow w' g (ptsL l top))) := fun e w' => by
    unfold PtsEnd
    rw [e1]
    exact ⟨fun h => ⟨h.1, h.2.2 rfl⟩, fun h => ⟨h.1, fun h0 => absurd rfl h0, fun _ => h.2⟩⟩
  have hmk : ∀ w, (Instr.makeSlice 28 (.int .i64 12) (.int .i64 12)).run Tryd.prog w = .ok (.slice (some ⟨w.heap.size, 0, none⟩) 12 12) (w.alloc (.cells (madeCells #[.int .i64 0] 12) 3)) := fun w => run_make_row' (P := Tryd.prog) 28 3 (.int .i64 0) 8 Tryd.underlying28 gr_int rfl .i64 .i64 12 (by omega) (by omega) w
  have eg : ∀ args W, (callFunc 17 args).run Tryd.prog W = .ok (.enter 17 args) W := fun args W => rfl
  clear c1 c1' c2 c2' hok hs13 hnil Hlev e1
  obtain ⟨fpv, hfpv⟩ : ∃ fpv : Nat → Int, fpv = fun i => pv l top (l.length + 1) (((i + 1 : Nat) : Int)) := ⟨_, rfl⟩
  have HFin : Hid ((List.range 12).map fpv = ptsL l top) := by rw [hfpv]; rfl
  have HP2 : Hid (∀ (B3 : Nat) (W : World) (i : Nat), i < 12 → PtAt W (w.heap.size + 1) w.heap.size B3 a l cap top → Calls Tryd.prog 17 #[.int .i64 (((i + 1 : Nat) : Int)), .pointer (some ⟨w.heap.size + 1, 0, none⟩), .pointer (some ⟨w.heap.size, 0, none⟩), .pointer (some ⟨B3, 0, none⟩)] W fun r w' => r = .returned (.int .i64 (fpv i)) ∧ Below W.heap.size W w') := by rw [hfpv]; exact HP.out
  clear hfpv HP
  go_enter Tryd.func8, Tryd.ntmps8
  go_upto_region 1 with fail
  rw [HW0.out]
  go_wp2_with fail
  refine HCk.out.mono ?_
  rintro e w1 ⟨rfl, hb1⟩
  have HB1 : Hid (Below w.heap.size w w1) := HB0.out.1.trans (hb1.mono HB0.out.1.size)
  have q2 := (hb1.cell (p := ⟨w.heap.size + 1, 0, none⟩) (by show w.heap.size + 1 < _; have := HB0.out.2; omega)).trans hc2
  have q1 := (hb1.cell (p := ⟨w.heap.size, 0, none⟩) (by show w.heap.size < _; have := HB0.out.2; omega)).trans hc1
  have hlt1 : w.heap.size + 1 < w1.heap.size := by have := HB0.out.2; have := hb1.size; omega
  clear hb1 hc1 hc2 HCk
  go_wp2_with fail
  refine (HIs.out _).mono ?_
  rintro e w' ⟨rfl, hw⟩
  rw [hw]; clear hw w' HIs
  obtain ⟨w2, hw2⟩ : ∃ w2, (w1.alloc (.cells #[.nilFunc] 45)).setCell ⟨w1.heap.size, 0, none⟩ (.func (.func 17) #[] #[.pointer (some ⟨w.heap.size + 1, 0, none⟩), .pointer (some ⟨w.heap.size, 0, none⟩), .pointer (some ⟨w1.heap.size, 0, none⟩)]) = w2 := ⟨_, rfl⟩
  have hb2 : Below w1.heap.size w1 w2 := by rw [← hw2]; exact ((Below.refl _ w1).alloc (Nat.le_refl _) _).setCell (p := ⟨w1.heap.size, 0, none⟩) (Nat.le_refl _) _
  have HB2 : Hid (Below w.heap.size w w2) := HB1.out.trans (hb2.mono HB1.out.size)
  have hs2 : w2.heap.size = w1.heap.size + 1 := by rw [← hw2]; simp
  have hcn : (w1.alloc (.cells #[.nilFunc] 45)).cell? ⟨w1.heap.size, 0, none⟩ = some .nilFunc := by simp
  have hfn : (w1.alloc (.cells #[.nilFunc] 45)).frozen? ⟨w1.heap.size, 0, none⟩ = false := by simp
  have hst : (store ⟨w1.heap.size, 0, none⟩ (.func (.func 17) #[] #[.pointer (some ⟨w.heap.size + 1, 0, none⟩), .pointer (some ⟨w.heap.size, 0, none⟩), .pointer (some ⟨w1.heap.size, 0, none⟩)])).run Tryd.prog (w1.alloc (.cells #[.nilFunc] 45)) = .ok () w2 := by
    rw [run_store _ _ _ _ _ rfl, hw2, hcn]
    simp only [hfn]
    rfl
  have hc3 : w2.cell? ⟨w1.heap.size, 0, none⟩ = some (.func (.func 17) #[] #[.pointer (some ⟨w.heap.size + 1, 0, none⟩), .pointer (some ⟨w.heap.size, 0, none⟩), .pointer (some ⟨w1.heap.size, 0, none⟩)]) := by rw [← hw2]; exact World.cell?_setCell_same _ _ _ hcn
  have HPt : Hid (PtAt w2 (w.heap.size + 1) w.heap.size w1.heap.size a l cap top) :=
    ⟨(hb2.cell (p := ⟨w.heap.size + 1, 0, none⟩) hlt1).trans q2, (hb2.cell (p := ⟨w.heap.size, 0, none⟩) (by show w.heap.size < _; omega)).trans q1, hc3, by omega, by omega, by omega, Hs.out.below HB2.out⟩
  clear q1 q2 hw2 hc3 hb2 hs2 hcn hfn
  go_upto_region 8 with fail
  have HR0 : Hid (NRow (w2.alloc (.cells (madeCells #[.int .i64 0] 12) 3)) w2.heap.size ((List.range 0).map fpv ++ List.replicate (12 - 0) 0)) := nrow_made w2 12
  have HBr0 : Hid (Below w2.heap.size w2 (w2.alloc (.cells (madeCells #[.int .i64 0] 12) 3))) := (Below.refl _ w2).alloc (Nat.le_refl _) _
  have HG : Hid (w.heap.size ≤ w2.heap.size) := HB2.out.size
  clear hst HW0 HB0 HB1
  go_upto_region 9 with fail
  clear hmk
  go_wp2_with fail
  go_loopw [23] (fun i wr => ∃ k : Nat, k ≤ 12 ∧ i = .int .i64 k ∧ Hid (NRow wr w2.heap.size ((List.range k).map fpv ++ List.replicate (12 - k) 0)) ∧ Hid (Below w2.heap.size w2 wr)) (fun i _ => 12 - (intOf i).toNat)
  case atStart => exact ⟨0, Nat.zero_le _, rfl, HR0, HBr0⟩
  case round =>
    obtain ⟨k, hk, rfl, HR, HB⟩ := hrel
    clear HR0 HBr0
    by_cases hlt : k < 12
    · have HPw : Hid (PtAt wr (w.heap.size + 1) w.heap.size w1.heap.size a l cap top) := HPt.out.below HB.out
      obtain ⟨_, _, r3, _, _, _, _⟩ := HPw.out
      have HCc : Hid (Calls Tryd.prog 17 #[.int .i64 (((k + 1 : Nat) : Int)), .pointer (some ⟨w.heap.size + 1, 0, none⟩), .pointer (some ⟨w.heap.size, 0, none⟩), .pointer (some ⟨w1.heap.size, 0, none⟩)] wr fun r w' => r = .returned (.int .i64 (fpv k)) ∧ Below wr.heap.size wr w') := HP2.out _ wr k hlt HPw.out
      have HS : Hid (((List.range k).map fpv ++ List.replicate (12 - k) 0).set k (fpv k) = (List.range (k + 1)).map fpv ++ List.replicate (12 - (k + 1)) 0) := row_set fpv k 12 hlt
      have hlen : k < ((List.range k).map fpv ++ List.replicate (12 - k) 0).length := by simp; omega
      have e1 : (((k + 1 : Nat) : Int)) = (k : Int) + 1 := by omega
      rw [e1] at HCc
      generalize ((List.range k).map fpv ++ List.replicate (12 - k) 0) = R at *
      generalize fpv k = z at *
      have hgl := HR.out.ltS
      have k0 : (0 : Int) ≤ k := by omega
      have k1 : (k : Int) < 12 := by omega
      clear HP2 HPt HPw e1
      go_wp2_with (go_at_fn 17; refine HCc.out.mono ?_; rintro r w' ⟨rfl, hb'⟩; have hr2 := HR.out.belowS hb' hgl; have hq2 := hr2.cell hlen; have hz2 := hr2.frozen k)
      go_roundw
      case rel => exact ⟨k + 1, by omega, by go_num, by rw [← HS.out]; exact hr2.set k z, (HB.out.trans (hb'.mono HB.out.size)).setCell (p := ⟨w2.heap.size, k, none⟩) (Nat.le_refl _) _⟩
      case measure => simp [intOf]; omega
    · obtain rfl : k = 12 := by omega
      have HL : Hid (PtsEnd l top w (.returned (.tuple #[.slice (some ⟨w2.heap.size, 0, none⟩) 12 12, .nilIface])) wr) := by
        have h1 := HR.out
        rw [Nat.sub_self, List.replicate_zero, List.append_nil, HFin.out] at h1
        exact (HEnd.out _ _).2 ⟨HB2.out.trans (HB.out.mono HG.out), _, rfl, HG.out, h1⟩
      clear HR HB HEnd HP2 HPt
      go_wp2
      go_ret2
      exact HL.out
end Go.Proofs.YtmpjaogomabfiaaDoor
