/-
  The contracts of dayref3.part and dayref3.Parts.
-/
import Derived.Test.YtmpjaogomabfiaaDoorGq2
namespace Go.Proofs.YtmpjaogomabfiaaDoor
set_option linter.unusedVariables false
set_option linter.unusedSimpArgs false
set_option maxRecDepth 100000
open Go.RowKit Go.Lib

set_option maxHeartbeats 8000000 in
theorem rpart_step (a : Option Addr) (l : List Ho) (cap : Nat) (top e : Int) (v : Int → Int) (w : World) (hl : l.length ≤ 20) (hp : ∀ x ∈ l, 1 ≤ x.pt ∧ x.pt ≤ 1000) (hv : ∀ x ∈ l, x.of_ = e → 0 ≤ v x.en ∧ v x.en ≤ 1000)
    (hc : ∀ x ∈ l, x.of_ = e → Calls Tryd.prog 15 #[.slice a l.length cap, .int .i64 top, .int .i64 x.en] w fun r w' => r = .returned (.int .i64 (v x.en)) ∧ w' = w) (h : IsHo w a l cap) :
    Calls Tryd.prog 15 #[.slice a l.length cap, .int .i64 top, .int .i64 e] w fun r w' => r = .returned (.int .i64 (if e = top then 1000 else ptS l e v / 1000)) ∧ w' = w := by
  have H : Hid (IsHo w a l cap) := h
  by_cases he : e = top
  · subst he
    rw [if_pos rfl]
    clear hc hv hp H
    go_enter Tryd.func15, Tryd.ntmps15
    go_wp2
    go_ret
    exact ⟨rfl, rfl⟩
  rw [if_neg he]
  have he1 : (e == top) = false := beq_eq_false_iff_ne.2 he
  have Hc : Hid _ := hc
  have Hv : Hid (∀ x ∈ l, x.of_ = e → 0 ≤ v x.en ∧ v x.en ≤ 1000) := hv
  have Hp : Hid (∀ x ∈ l, 1 ≤ x.pt ∧ x.pt ≤ 1000) := hp
  have i2 : (l.length : Int) ≤ 20 := by omega
  have HQ : Hid (∀ k, 0 ≤ ptS (l.take k) e v ∧ ptS (l.take k) e v ≤ 20000000) := fun k => by
    have := ptS_bd v e (l.take k) (fun x hx => hp x (List.mem_of_mem_take hx)) (fun x hx => hv x (List.mem_of_mem_take hx))
    have h2 : (l.take k).length ≤ 20 := by rw [List.length_take]; omega
    omega
  obtain ⟨res, hres⟩ : ∃ res, ptS l e v = res := ⟨_, rfl⟩
  have HR : Hid (ptS l e v = res) := hres
  rw [hres]
  clear hres hc hv hp h
  go_enter Tryd.func15, Tryd.ntmps15
  go_wp2
  go_loop [7, 8] (fun s i => ∃ k : Nat, k ≤ l.length ∧ i = .int .i64 k ∧ s = .int .i64 (ptS (l.take k) e v)) (fun _ i => l.length - (intOf i).toNat)
  case atStart => exact ⟨0, Nat.zero_le _, rfl, rfl⟩
  case round =>
    obtain ⟨k, hk, rfl, rfl⟩ := hrel
    have hbd := HQ.out k
    by_cases hlt : k < l.length
    · obtain ⟨b, off, rfl, hb, hcc⟩ := H.out.some hlt
      obtain ⟨d0, d1, d2⟩ := hcc k hlt
      have hmem := hos_mem l k hlt
      have hp1 := Hp.out _ hmem
      have hv1 := Hv.out _ hmem
      have HT : Hid (ptS (l.take (k + 1)) e v = ptS (l.take k) e v + if (l.getD k ho0).of_ = e then v (l.getD k ho0).en * (l.getD k ho0).pt else 0) := by
        unfold Hid; rw [hos_take l k hlt, ptS_snoc]
      have hc1 := fun h => Hc.out (l.getD k ho0) hmem h
      clear hmem hcc
      generalize l.getD k ho0 = x at *
      have i0 : (0 : Int) ≤ k := by omega
      have i3 : (k : Int) < l.length := by omega
      by_cases hof : x.of_ = e
      · rw [if_pos hof] at HT
        obtain ⟨v0, v1⟩ := hv1 hof
        have hpr0 : 0 ≤ v x.en * x.pt := Int.mul_nonneg v0 (by omega)
        have hpr1 : v x.en * x.pt ≤ 1000 * 1000 := Int.mul_le_mul v1 hp1.2 (by omega) (by omega)
        have HCc : Hid (Calls _ _ _ _ _) := hc1 hof
        obtain ⟨S0, hS0⟩ : ∃ S0, ptS (l.take k) e v = S0 := ⟨_, rfl⟩
        rw [hS0] at hbd HT ⊢
        clear hc1 hv1 hS0 HQ Hc Hv Hp
        obtain ⟨x0, x1, x2⟩ := x
        simp only at d0 d1 d2 HT HCc hpr0 hpr1 hof hp1 v0 v1
        generalize v x0 = vx at *
        have hm1 : -9223372036854775808 ≤ vx * x2 := by omega
        have hm2 : vx * x2 ≤ 9223372036854775807 := by omega
        subst hof
        clear HR H
        go_wp2_with fail
        refine HCc.out.mono ?_
        rintro r w' ⟨rfl, hw⟩
        rw [hw]; clear hw w'
        go_wp2
        go_round
        case rel => exact ⟨k + 1, by omega, by go_num, by rw [HT.out]⟩
        case measure => simp [intOf]; omega
      · rw [if_neg hof, Int.add_zero] at HT
        have hof1 : (x.of_ == e) = false := beq_eq_false_iff_ne.2 hof
        obtain ⟨x0, x1, x2⟩ := x
        simp only at d0 d1 d2 hof hof1
        clear hc1
        go_wp2
        go_round
        case rel => exact ⟨k + 1, by omega, by go_num, by rw [HT.out]⟩
        case measure => simp [intOf]; omega
    · have hk2 : k = l.length := by omega
      subst hk2
      have er : ptS (l.take l.length) e v = res := by rw [List.take_length]; exact HR.out
      rw [er] at hbd
      rw [er]
      go_wp2
      go_ret
      exact ⟨rfl, rfl⟩
theorem rpart_any (a : Option Addr) (l : List Ho) (cap : Nat) (top : Int) (hok : HoOk l) (hs : ∀ n, n < 13 → hadL l n ≤ 1000) : ∀ (k : Nat) (e : Int) (w : World), 1 ≤ e → e ≤ 12 → Lev l k e → IsHo w a l cap →
    Calls Tryd.prog 15 #[.slice a l.length cap, .int .i64 top, .int .i64 e] w fun r w' => r = .returned (.int .i64 (pv l top (k + 1) e)) ∧ w' = w
  | 0, e, w, h1, h2, hl, h =>
    rpart_step a l cap top e (pv l top 0) w hok.len hok.pt (fun x hx _ => pv_bd hok hs top 0 x.en (hok.en x hx).1 (hok.en x hx).2) (fun x hx hx2 => absurd hx2 (hl x hx)) h
  | k + 1, e, w, h1, h2, hl, h =>
    rpart_step a l cap top e (pv l top (k + 1)) w hok.len hok.pt (fun x hx _ => pv_bd hok hs top (k + 1) x.en (hok.en x hx).1 (hok.en x hx).2)
      (fun x hx hx2 => rpart_any a l cap top hok hs k x.en w (hok.en x hx).1 (hok.en x hx).2 (lev_out hok k x hx (fun hm => hl x hm hx2)) h) h

/-- What dayref3.Parts answers. -/
def RPtsEnd (l : List Ho) (top : Int) (w : World) (e : Ending) (w' : World) : Prop :=
  Below w.heap.size w w' ∧ ∃ v, e = .returned (.tuple #[v, .int .i64 (ptsBad l top)]) ∧ (ptsBad l top ≠ 0 → v = .slice none 0 0) ∧ (ptsBad l top = 0 → IvRow w' w.heap.size v (ptsL l top))
set_option maxHeartbeats 8000000 in
theorem rParts_any (a : Option Addr) (cap : Nat) (l : List Ho) (top : Int) (w : World) (hll : l.length ≤ 9223372036854775807) (h : IsHo w a l cap) :
    Calls Tryd.prog 7 #[.slice a l.length cap, .int .i64 top] w (RPtsEnd l top w) := by
  have HCk : Hid (Calls Tryd.prog 6 #[.slice a l.length cap] w fun e w' => e = .returned (.int .i64 (hBad l)) ∧ Below w.heap.size w w') := refHold_any a cap l w hll h
  have Hs : Hid (IsHo w a l cap) := h
  have HIs : Hid (∀ W, Calls Tryd.prog 14 #[.int .i64 top] W fun e w' => e = .returned (.bool (upTo top 12)) ∧ w' = W) := fun W => entity_any top W
  clear h
  have hb13 : 0 ≤ hBad l ∧ hBad l ≤ 20 := by
    unfold hBad hBad2
    split
    · omega
    · split
      · rename_i h1
        clear h1
        have : ∀ (m a : List Ho), 0 ≤ nxGo a m ∧ nxGo a m ≤ 20 := fun m => by
          induction m with
          | nil => intro a; simp [nxGo]
          | cons x m ih =>
            intro a
            rw [nxGo]
            split
            · unfold nxBad
              repeat' split
              all_goals omega
            · exact ih _
        exact this l []
      · repeat' split
        all_goals omega
  by_cases c1 : hBad l ≠ 0
  · have e1 : ptsBad l top = hBad l := if_pos c1
    unfold RPtsEnd
    rw [e1]
    clear e1
    generalize hBad l = z at *
    have z1 : (z != 0) = true := by simp [c1]
    go_enter Tryd.func7, Tryd.ntmps7
    go_wp2_with fail
    refine HCk.out.mono ?_
    rintro e w1 ⟨rfl, hb1⟩
    have HB1 : Hid (Below w.heap.size w w1) := hb1
    clear hb1
    go_wp2
    go_ret2
    exact ⟨HB1.out, _, rfl, fun _ => rfl, fun h => absurd h c1⟩
  have c1' := Decidable.of_not_not c1
  rw [c1'] at HCk
  by_cases c2 : upTo top 12 = false
  · have e1 : ptsBad l top = 1 := by unfold ptsBad; rw [if_neg c1, if_pos c2]
    unfold RPtsEnd
    rw [e1]
    rw [c2] at HIs
    clear e1
    go_enter Tryd.func7, Tryd.ntmps7
    go_wp2_with fail
    refine HCk.out.mono ?_
    rintro e w1 ⟨rfl, hb1⟩
    have HB1 : Hid (Below w.heap.size w w1) := hb1
    clear hb1
    go_wp2_with fail
    refine (HIs.out _).mono ?_
    rintro e w' ⟨rfl, hw⟩
    rw [hw]; clear hw w'
    go_wp2
    go_ret2
    exact ⟨HB1.out, _, rfl, fun _ => rfl, fun h => absurd h (by decide)⟩
  have c2' : upTo top 12 = true := by simpa using c2
  have e1 : ptsBad l top = 0 := ptsBad_ok.2 ⟨c1', upTo_iff.1 c2'⟩
  rw [c2'] at HIs
  obtain ⟨hok, _, hs13, hnil⟩ := hBad_ok c1'
  have Hlev : Hid (∀ e, Lev l l.length e) := fun e x hx => by rw [hnil] at hx; cases hx
  obtain ⟨fpv, hfpv⟩ : ∃ fpv : Nat → Int, fpv = fun i => pv l top (l.length + 1) (((i + 1 : Nat) : Int)) := ⟨_, rfl⟩
  have HP : Hid (∀ (W : World) (i : Nat), i < 12 → Below w.heap.size w W → Calls Tryd.prog 15 #[.slice a l.length cap, .int .i64 top, .int .i64 (((i + 1 : Nat) : Int))] W fun r w' => r = .returned (.int .i64 (fpv i)) ∧ w' = W) := fun W i hi hW => by
    rw [hfpv]; exact rpart_any a l cap top hok hs13 l.length _ W (by omega) (by omega) (Hlev.out _) (Hs.out.below hW)
  have HFin : Hid ((List.range 12).map fpv = ptsL l top) := by rw [hfpv]; rfl
  have HEnd : Hid (∀ e w', RPtsEnd l top w e w' ↔ (Below w.heap.size w w' ∧ ∃ v, e = .returned (.tuple #[v, .int .i64 0]) ∧ IvRow w' w.heap.size v (ptsL l top))) := fun e w' => by
    unfold RPtsEnd
    rw [e1]
    exact ⟨fun ⟨h1, v, h2, _, h3⟩ => ⟨h1, v, h2, h3 rfl⟩, fun ⟨h1, v, h2, h3⟩ => ⟨h1, v, h2, fun h0 => absurd rfl h0, fun _ => h3⟩⟩
  clear c1 c1' c2 c2' hok hs13 hnil Hlev e1 hfpv hb13
  go_enter Tryd.func7, Tryd.ntmps7
  go_wp2_with fail
  refine HCk.out.mono ?_
  rintro e w1 ⟨rfl, hb1⟩
  have HB1 : Hid (Below w.heap.size w w1) := hb1
  clear hb1
  go_wp2_with fail
  refine (HIs.out _).mono ?_
  rintro e w' ⟨rfl, hw⟩
  rw [hw]; clear hw w' HIs HCk
  go_wp2
  go_loopw [8, 9] (fun v i wr => ∃ (k n' c : Nat) (a' : Option Addr), k ≤ 12 ∧ i = .int .i64 (((k + 1 : Nat) : Int)) ∧ v = .slice a' n' c ∧ Hid (IvRow wr w.heap.size (.slice a' n' c) ((List.range k).map fpv)) ∧ Hid (Below w.heap.size w wr)) (fun _ i _ => 13 - (intOf i).toNat)
  case atStart => exact ⟨0, 0, 0, none, Nat.zero_le _, rfl, rfl, IvRow.nil _ _, HB1⟩
  case round =>
    obtain ⟨k, n', c, a', hk, rfl, rfl, HI, HB⟩ := hrel
    clear HB1
    by_cases hlt : k < 12
    · have HCc : Hid (Calls _ _ _ _ _) := HP.out wr k hlt HB.out
      have k0 : (0 : Int) ≤ ((k + 1 : Nat) : Int) := by omega
      have k1 : ((k + 1 : Nat) : Int) ≤ 12 := by omega
      have HS : Hid ((List.range (k + 1)).map fpv = (List.range k).map fpv ++ [fpv k]) := by unfold Hid; rw [List.range_succ, List.map_append]; rfl
      have hl12 : ((List.range k).map fpv).length ≤ 12 := by simp; omega
      obtain ⟨z, hz⟩ : ∃ z, fpv k = z := ⟨_, rfl⟩
      rw [hz] at HCc HS
      clear hz HP
      obtain ⟨W2, hW2⟩ : ∃ W2, wr.alloc (.cells #[.int .i64 z] 3) = W2 := ⟨_, rfl⟩
      have hb2 : Below wr.heap.size wr W2 := by rw [← hW2]; exact (Below.refl _ _).alloc (Nat.le_refl _) _
      have HBw2 : Hid (Below w.heap.size w W2) := HB.out.trans (hb2.mono HB.out.size)
      have HRw2 : Hid (IvRow W2 w.heap.size (.slice a' n' c) ((List.range k).map fpv)) := HI.out.below hb2
      have Hcw2 : Hid (W2.heap[wr.heap.size]? = some (.cells #[.int .i64 z] 3 (0, 0))) := by rw [← hW2]; exact World.alloc_heap_new wr _
      have HW2 : Hid (wr.alloc (.cells #[.int .i64 z] 3) = W2) := hW2
      clear hW2 hb2 HB HI
      generalize hK : (((k + 1 : Nat) : Int)) = K at *
      go_wp2_with fail
      refine HCc.out.mono ?_
      rintro r w' ⟨rfl, hw⟩
      rw [hw]; clear hw w' HCc
      go_wp2_with (at_builtin; rw [HW2.out]; refine wpList_appI rfl _ _ rfl w.heap.size _ _ rfl HRw2.out wr.heap.size z rfl Hcw2.out HBw2.out.size (by omega) ?_)
      intro v3 w3 hr3 hb3
      obtain ⟨a3, c3, rfl⟩ := hr3.shape
      have HR3 : Hid (IvRow w3 w.heap.size (.slice a3 ((List.range k).map fpv ++ [z]).length c3) ((List.range (k + 1)).map fpv)) := by rw [HS.out]; exact hr3
      have HB3' : Hid (Below w.heap.size w w3) := HBw2.out.trans hb3
      clear hr3 hb3 HW2 HRw2 Hcw2 HBw2 HS
      go_wp2
      go_roundw
      case rel => exact ⟨k + 1, _, c3, a3, by omega, by rw [← hK]; go_num, rfl, HR3, HB3'⟩
      case measure => simp [intOf]; omega
    · obtain rfl : k = 12 := by omega
      have HL : Hid (RPtsEnd l top w (.returned (.tuple #[.slice a' n' c, .int .i64 0])) wr) := (HEnd.out _ _).2 ⟨HB.out, _, rfl, by rw [← HFin.out]; exact HI.out⟩
      clear HI HB HEnd HP
      go_wp2
      go_ret2
      exact HL.out
end Go.Proofs.YtmpjaogomabfiaaDoor
