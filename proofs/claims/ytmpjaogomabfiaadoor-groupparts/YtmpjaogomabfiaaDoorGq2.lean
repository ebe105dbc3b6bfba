/-
  The contract of dayref3.Holdings.
-/
import Derived.Test.YtmpjaogomabfiaaDoorGq1
import Derived.Test.YtmpjaogomabfiaaDoorIvR
import Derived.Test.YtmpjaogomabfiaaDoorRfCur
namespace Go.Proofs.YtmpjaogomabfiaaDoor
set_option linter.unusedVariables false
set_option linter.unusedSimpArgs false
set_option maxRecDepth 100000
open Go.RowKit Go.Lib

theorem gr_drewN {n : Nat} {w W : World} (h : Below n w W) (k : Nat) : Below n w (W.drewN k) := h.trans ⟨rfl, rfl, rfl, Nat.le_refl _, fun _ _ => rfl⟩
theorem IvRow.drewN {w : World} {n : Nat} {v : Value} {l : List Int} (h : IvRow w n v l) (k : Nat) : IvRow (w.drewN k) n v l := h.below (gr_drewN (Below.refl _ _) k)
theorem same_first {l : List Ho} {x : Ho} {j : Nat} (hj : j < l.length) (h : hSame x (l.getD j ho0) = true) : l.any (hSame x) = true := by
  rw [List.any_eq_true]
  exact ⟨_, hos_mem l j hj, h⟩
theorem same_none {l : List Ho} {x : Ho} (h : ∀ j, j < l.length → hSame x (l.getD j ho0) = false) : l.any (hSame x) = false := by
  rw [List.any_eq_false]
  intro y hy
  obtain ⟨k, hk, rfl⟩ := List.getElem_of_mem hy
  have := h k hk
  rw [List.getD_eq_getElem?_getD, List.getElem?_eq_getElem hk] at this
  rw [Option.getD_some] at this
  rw [this]; decide
theorem take_getD (l : List Ho) (k j : Nat) (h : j < k) : (l.take k).getD j ho0 = l.getD j ho0 := by
  rw [List.getD_eq_getElem?_getD, List.getElem?_take, if_pos h, ← List.getD_eq_getElem?_getD]
theorem hadL_zero {l : List Ho} (h : HoOk l) : hadL l 0 = 0 := hadL_none l 0 (fun x hx e => by have := h.of_ x hx; omega)
theorem over_some {l : List Ho} (h : HoOk l) {n : Nat} (h1 : ∀ m, 1 ≤ m → m < n → hadL l m ≤ 1000) (hn : n = 13) : hadOver l = false := by
  refine over_false (n := 13) (fun m hm => ?_) rfl
  by_cases e : m = 0
  · subst e; rw [hadL_zero h]; decide
  · exact h1 m (by omega) (by omega)
theorem hBad2_cycle {l : List Ho} (hok : HoOk l) (h0 : hadOver l = false) {e : Int} {m : Nat} (hm : 0 < m) (h : Rn l m e e) : hBad2 l = 5 := by
  unfold hBad2
  rw [h0, if_neg (by decide)]
  by_cases hz : 0 < (prN l.length l).length
  · rw [if_pos hz]
  · have hz2 : (prN l.length l).length = 0 := by omega
    exact absurd (no_cycle hok (List.eq_nil_of_length_eq_zero hz2) m e hm h) (fun h => h)
theorem hBad2_none {l : List Ho} (hok : HoOk l) (h0 : hadOver l = false) (h : ∀ e : Int, 1 ≤ e → e ≤ 12 → ∀ m, 0 < m → ¬ Rn l m e e) : hBad2 l = 0 := by
  unfold hBad2
  rw [h0, if_neg (by decide)]
  by_cases hz : 0 < (prN l.length l).length
  · obtain ⟨e, m, h1, h2, h3, h4⟩ := cycle_of hok (fun e => by rw [e] at hz; exact absurd hz (by decide))
    exact absurd h4 (h e h1 h2 m h3)
  · rw [if_neg hz]

/-- Whether it is seen, so far. -/
structure InQ (s : List Int) (y : Int) (bq : Bool) (j : Nat) : Prop where
  yes : bq = true → ∃ q, q < s.length ∧ s.getD q 0 = y
  no : bq = false → ∀ q, q < j → s.getD q 0 ≠ y

set_option maxHeartbeats 20000000 in
theorem refHold_any (a : Option Addr) (cap : Nat) (l : List Ho) (w : World) (hll : l.length ≤ 9223372036854775807) (h : IsHo w a l cap) :
    Calls Tryd.prog 6 #[.slice a l.length cap] w fun e w' => e = .returned (.int .i64 (hBad l)) ∧ Below w.heap.size w w' := by
  by_cases h20 : 20 < l.length
  · have e1 : hBad l = 4 := if_pos h20
    have i1 : (20 : Int) < l.length := by omega
    rw [e1]
    clear h e1
    go_enter Tryd.func6, Tryd.ntmps6
    go_wp2
    go_ret
    exact ⟨rfl, Below.refl _ _⟩
  have HRes : Hid (hBad l = if nxGo [] l ≠ 0 then nxGo [] l else hBad2 l) := if_neg h20
  obtain ⟨res, hres⟩ : ∃ res, hBad l = res := ⟨_, rfl⟩
  rw [hres] at HRes ⊢
  have i1 : ¬ (20 : Int) < l.length := by omega
  have i2 : (l.length : Int) ≤ 20 := by omega
  have Hs : Hid (IsHo w a l cap) := h
  have HE : Hid (∀ n W, Calls Tryd.prog 14 #[.int .i64 n] W fun e w' => e = .returned (.bool (upTo n 12)) ∧ w' = W) := fun n W => entity_any n W
  clear hres h
  go_enter Tryd.func6, Tryd.ntmps6
  go_wp2
  go_loopw [3] (fun i wr => ∃ k : Nat, k ≤ l.length ∧ i = .int .i64 k ∧ Hid (nxGo (l.take k) (l.drop k) = nxGo [] l) ∧ Hid (Below w.heap.size w wr)) (fun i _ => l.length - (intOf i).toNat)
  case atStart => exact ⟨0, Nat.zero_le _, rfl, by unfold Hid; simp, Below.refl _ _⟩
  case round =>
    obtain ⟨k, hk, rfl, H, BW⟩ := hrel
    by_cases hlt : k < l.length
    · obtain ⟨b, off, rfl, hb, hc⟩ := Hs.out.some hlt
      have hn := (hc k hlt).below BW.out hb
      have E : Hid ((if nxBad (l.take k) (l.getD k ho0) ≠ 0 then nxBad (l.take k) (l.getD k ho0) else nxGo (l.take (k + 1)) (l.drop (k + 1))) = nxGo [] l) := by
        have := H.out
        rw [hos_drop l k hlt] at this
        rw [hos_take l k hlt]
        exact this
      have HBad : Hid (∀ z, z ≠ 0 → nxBad (l.take k) (l.getD k ho0) = z → res = z) := fun z hz h1 => by
        have h2 := E.out
        rw [h1, if_pos hz] at h2
        rw [HRes.out, ← h2, if_pos hz]
      have HNx : Hid (nxBad (l.take k) (l.getD k ho0) = 0 → nxGo (l.take (k + 1)) (l.drop (k + 1)) = nxGo [] l) := fun h1 => by
        have h2 := E.out
        rwa [h1, if_neg (by decide)] at h2
      have HDe : Hid (nxBad (l.take k) (l.getD k ho0) = if upTo (l.getD k ho0).en 12 = false then 1 else if upTo (l.getD k ho0).of_ 12 = false then 1 else if (l.getD k ho0).pt < 1 then 1 else if 1000 < (l.getD k ho0).pt then 1 else if (l.getD k ho0).en = (l.getD k ho0).of_ then 8 else if (l.take k).any (hSame (l.getD k ho0)) then 8 else 0) := rfl
      have HAt : Hid (∀ j W, j < k → Below w.heap.size w W → HoAt W b (off + j * 3) (l.getD j ho0)) := fun j W hj hW => (hc j (by omega)).below hW hb
      have HSf : Hid (∀ j, j < k → hSame (l.getD k ho0) (l.getD j ho0) = true → (l.take k).any (hSame (l.getD k ho0)) = true) := fun j hj h1 => same_first (j := j) (by rw [List.length_take]; omega) (by rw [take_getD l k j hj]; exact h1)
      have HSn : Hid ((∀ j, j < k → hSame (l.getD k ho0) (l.getD j ho0) = false) → (l.take k).any (hSame (l.getD k ho0)) = false) := fun h1 => same_none (fun j hj => by
        rw [List.length_take] at hj
        rw [take_getD l k j (by omega)]
        exact h1 j (by omega))
      clear H E hc
      generalize nxBad (l.take k) (l.getD k ho0) = bad at *
      generalize l.getD k ho0 = x at *
      generalize (l.take k).any (hSame x) = an at *
      obtain ⟨x0, x1, x2⟩ := x
      obtain ⟨c0, c1, c2⟩ := hn
      simp only at c0 c1 c2 HDe
      have i0 : (0 : Int) ≤ k := by omega
      have i3 : (k : Int) < l.length := by omega
      obtain ⟨W0, hW0⟩ : ∃ W0, wr.alloc (.cells #[.int .i64 x0, .int .i64 x1, .int .i64 x2] 38) = W0 := ⟨_, rfl⟩
      have HW0 : Hid (wr.alloc (.cells #[.int .i64 x0, .int .i64 x1, .int .i64 x2] 38) = W0) := hW0
      have HB0 : Hid (Below w.heap.size w W0) := by rw [← hW0]; exact BW.out.alloc BW.out.size _
      have d0 : W0.cell? ⟨wr.heap.size, 0, none⟩ = some (.int .i64 x0) := by rw [← hW0]; simp
      have d1 : W0.cell? ⟨wr.heap.size, 1, none⟩ = some (.int .i64 x1) := by rw [← hW0]; simp
      have d2 : W0.cell? ⟨wr.heap.size, 2, none⟩ = some (.int .i64 x2) := by rw [← hW0]; simp
      clear hW0 BW
      go_upto_region 7 with fail
      rw [HW0.out]
      clear HW0 c0 c1 c2
      go_wp2_with fail
      refine (HE.out _ _).mono ?_
      rintro e w' ⟨rfl, hw⟩
      rw [hw]; clear hw w'
      go_wp2_with fail
      refine (HE.out _ _).mono ?_
      rintro e w' ⟨rfl, hw⟩
      rw [hw]; clear hw w' HE
      cases q1 : upTo x0 12
      · rw [q1, if_pos rfl] at HDe
        have er : res = 1 := HBad.out 1 (by decide) HDe.out
        subst er
        clear HBad HNx HDe HAt HSf HSn HRes Hs
        go_wp2
        go_ret
        exact ⟨rfl, HB0.out⟩
      rw [q1, if_neg (by decide)] at HDe
      cases q2 : upTo x1 12
      · rw [q2, if_pos rfl] at HDe
        have er : res = 1 := HBad.out 1 (by decide) HDe.out
        subst er
        clear HBad HNx HDe HAt HSf HSn HRes Hs
        go_wp2
        go_ret
        exact ⟨rfl, HB0.out⟩
      rw [q2, if_neg (by decide)] at HDe
      by_cases q3 : x2 < 1
      · rw [if_pos q3] at HDe
        have er : res = 1 := HBad.out 1 (by decide) HDe.out
        subst er
        clear HBad HNx HDe HAt HSf HSn HRes Hs
        go_wp2
        go_ret
        exact ⟨rfl, HB0.out⟩
      rw [if_neg q3] at HDe
      by_cases q4 : 1000 < x2
      · rw [if_pos q4] at HDe
        have er : res = 1 := HBad.out 1 (by decide) HDe.out
        subst er
        clear HBad HNx HDe HAt HSf HSn HRes Hs
        go_wp2
        go_ret
        exact ⟨rfl, HB0.out⟩
      rw [if_neg q4] at HDe
      by_cases q5 : x0 = x1
      · rw [if_pos q5] at HDe
        have er : res = 8 := HBad.out 8 (by decide) HDe.out
        subst er
        subst q5
        clear HBad HNx HDe HAt HSf HSn HRes Hs
        go_wp2
        go_ret
        exact ⟨rfl, HB0.out⟩
      rw [if_neg q5] at HDe
      have q6 : (x0 == x1) = false := beq_eq_false_iff_ne.2 q5
      go_wp2
      go_loopw [7] (fun i wq => ∃ j : Nat, j ≤ k ∧ i = .int .i64 j ∧ Hid (∀ m, m < j → hSame ⟨x0, x1, x2⟩ (l.getD m ho0) = false) ∧ ∃ n, wq = W0.drewN n) (fun i _ => k - (intOf i).toNat)
      case atStart => exact ⟨0, Nat.zero_le _, rfl, (fun m hm => absurd hm (Nat.not_lt_zero m)), 0, rfl⟩
      case round =>
        obtain ⟨j, hj, rfl, HF, nd, rfl⟩ := hrel
        have j0 : (0 : Int) ≤ j := by omega
        by_cases hjk : j < k
        · have j1 : (j : Int) < k := by omega
          have j2 : (j : Int) < l.length := by omega
          have hy := HAt.out j W0 hjk HB0.out
          have HY1 : Hid (hSame ⟨x0, x1, x2⟩ (l.getD j ho0) = true → res = 8) := fun h1 => by
            have h2 := HSf.out j hjk h1
            rw [h2, if_pos rfl] at HDe
            exact HBad.out 8 (by decide) HDe.out
          have HY2 : Hid (hSame ⟨x0, x1, x2⟩ (l.getD j ho0) = false → ∀ m, m < j + 1 → hSame ⟨x0, x1, x2⟩ (l.getD m ho0) = false) := fun h1 m hm => by
            by_cases e : m = j
            · subst e; exact h1
            · exact HF.out m (by omega)
          generalize l.getD j ho0 = y at *
          obtain ⟨y0, y1, y2⟩ := y
          obtain ⟨e0, e1, e2⟩ := hy
          simp only at e0 e1 e2
          unfold hSame at HY1 HY2
          simp only at HY1 HY2
          clear HF HAt HSf HSn HDe HNx HBad HRes Hs
          by_cases p0 : y0 = x0
          · by_cases p1 : y1 = x1
            · have er : res = 8 := HY1.out (by simp [p0, p1])
              subst er
              subst p0
              subst p1
              clear HY1 HY2
              go_wp2_with fail
              go_quiet (fail)
              go_wp2
              go_ret
              exact ⟨rfl, gr_drewN (gr_drewN HB0.out _) _⟩
            · have HN : Hid (∀ m, m < j + 1 → _) := HY2.out (by simp [p1])
              have p2 : (y1 == x1) = false := beq_eq_false_iff_ne.2 p1
              subst p0
              clear HY1 HY2
              go_wp2_with fail
              go_quiet (fail)
              go_wp2
              go_roundw
              case rel => exact ⟨j + 1, by omega, by go_num, HN, _, rfl⟩
              case measure => simp [intOf]; omega
          · have HN : Hid (∀ m, m < j + 1 → _) := HY2.out (by simp [p0])
            have p2 : (y0 == x0) = false := beq_eq_false_iff_ne.2 p0
            clear HY1 HY2
            go_wp2_with fail
            go_quiet (fail)
            go_wp2
            go_roundw
            case rel => exact ⟨j + 1, by omega, by go_num, HN, _, rfl⟩
            case measure => simp [intOf]; omega
        · have hjk2 : j = k := by omega
          subst hjk2
          have h2 := HSn.out HF.out
          have HNN : Hid (nxGo (l.take (j + 1)) (l.drop (j + 1)) = nxGo [] l) := HNx.out (by rw [HDe.out, h2]; rfl)
          have HBd : Hid (Below w.heap.size w (W0.drewN nd)) := gr_drewN HB0.out _
          clear HF HAt HSf HSn HDe HNx HBad HRes Hs HB0
          go_wp2
          go_roundw
          case rel => exact ⟨j + 1, by omega, by go_num, HNN, HBd⟩
          case measure => simp [intOf]; omega
    · have hk2 : k = l.length := by omega
      subst hk2
      have e0 : nxGo [] l = 0 := by rw [← H.out, List.drop_length]; rfl
      have hok := nxGo_ok (by omega) e0
      have HR2 : Hid (hBad2 l = res) := by unfold Hid; rw [HRes.out, if_neg (by simp [e0])]
      have Hok : Hid (HoOk l) := hok
      have HAt : Hid (∀ W, Below w.heap.size w W → 0 < l.length → ∃ b off, a = some ⟨b, off, none⟩ ∧ ∀ j, j < l.length → HoAt W b (off + j * 3) (l.getD j ho0)) := fun W hW h0 => by
        obtain ⟨b, off, e, hb, hc⟩ := Hs.out.some h0
        exact ⟨b, off, e, fun j hj => (hc j hj).below hW hb⟩
      have HTl : Hid (hBad2 l = res) := HR2
      clear HRes H e0 hok HE Hs HR2
      go_wp2
      go_loopw [8] (fun i wq => ∃ n : Nat, 1 ≤ n ∧ n ≤ 13 ∧ i = .int .i64 n ∧ Hid (∀ m, 1 ≤ m → m < n → hadL l m ≤ 1000) ∧ Hid (Below w.heap.size w wq)) (fun i _ => 13 - (intOf i).toNat)
      case atStart => exact ⟨1, Nat.le_refl _, by omega, rfl, (fun m h1 h2 => by omega), BW⟩
      case round =>
        obtain ⟨n, hn1, hn13, rfl, HF, HB⟩ := hrel
        clear BW
        by_cases hlt13 : n < 13
        · have n0 : (1 : Int) ≤ n := by omega
          have n1 : (n : Int) ≤ 12 := by omega
          have HOv : Hid (1000 < hadL l n → res = 11) := fun h1 => by rw [← HTl.out]; unfold hBad2; rw [over_true h1 hlt13]; rfl
          have HNx : Hid (hadL l n ≤ 1000 → ∀ m, 1 ≤ m → m < n + 1 → hadL l m ≤ 1000) := fun h1 m h2 h3 => by
            by_cases e : m = n
            · subst e; exact h1
            · exact HF.out m h2 (by omega)
          clear HF
          go_wp2
          go_loopw [9, 10] (fun s i wq2 => ∃ j : Nat, j ≤ l.length ∧ i = .int .i64 j ∧ s = .int .i64 (hadL (l.take j) n) ∧ Hid (Below w.heap.size w wq2)) (fun _ i _ => l.length - (intOf i).toNat)
          case atStart => exact ⟨0, Nat.zero_le _, rfl, rfl, HB⟩
          case round =>
            obtain ⟨j, hj, rfl, rfl, HB2⟩ := hrel
            clear HB
            have hbd := Hok.out.hadt j n
            by_cases hjl : j < l.length
            · obtain ⟨b, off, rfl, hc⟩ := HAt.out _ HB2.out (by omega)
              obtain ⟨c0, c1, c2⟩ := hc j hjl
              have hp := Hok.out.pt _ (hos_mem l j hjl)
              have HT : Hid (hadL (l.take (j + 1)) n = hadL (l.take j) n + if (l.getD j ho0).of_ = (n : Int) then (l.getD j ho0).pt else 0) := by
                unfold Hid; rw [hos_take l j hjl, hadL_snoc]
              generalize l.getD j ho0 = y at *
              obtain ⟨y0, y1, y2⟩ := y
              simp only at c0 c1 c2 hp HT
              generalize hadL (l.take j) n = S0 at *
              have j0 : (0 : Int) ≤ j := by omega
              have j1 : (j : Int) < l.length := by omega
              clear hc HAt HOv HNx HTl Hok
              by_cases p1 : y1 = n
              · rw [if_pos p1] at HT
                subst p1
                go_wp2
                go_roundw
                case rel => exact ⟨j + 1, by omega, by go_num, by rw [HT.out], HB2⟩
                case measure => simp [intOf]; omega
              · rw [if_neg p1, Int.add_zero] at HT
                have p2 : (y1 == (n : Int)) = false := beq_eq_false_iff_ne.2 p1
                go_wp2
                go_roundw
                case rel => exact ⟨j + 1, by omega, by go_num, by rw [HT.out], HB2⟩
                case measure => simp [intOf]; omega
            · have hj2 : j = l.length := by omega
              subst hj2
              rw [List.take_length] at hbd ⊢
              by_cases ho : 1000 < hadL l n
              · have er : res = 11 := HOv.out ho
                subst er
                clear HOv HNx HTl HAt
                generalize hadL l n = z at *
                go_wp2
                go_ret
                exact ⟨rfl, HB2.out⟩
              · have HN2 : Hid (∀ m, 1 ≤ m → m < n + 1 → hadL l m ≤ 1000) := HNx.out (by omega)
                clear HOv HNx HTl HAt
                generalize hadL l n = z at *
                go_wp2
                go_roundw
                case rel => exact ⟨n + 1, by omega, by omega, by go_num, HN2, HB2⟩
                case measure => simp [intOf]; omega
        · have e13 : n = 13 := by omega
          have h0 : hadOver l = false := over_some Hok.out HF.out e13
          have HCy : Hid (∀ (e : Int) (m : Nat), 0 < m → Rn l m e e → res = 5) := fun e m hm hr => by rw [← HTl.out]; exact hBad2_cycle Hok.out h0 hm hr
          have HNo : Hid ((∀ e : Int, 1 ≤ e → e ≤ 12 → ∀ m, 0 < m → ¬ Rn l m e e) → res = 0) := fun h1 => by rw [← HTl.out]; exact hBad2_none Hok.out h0 h1
          have nbig : (13 : Int) ≤ n := by omega
          clear HF HTl h0 e13
          go_wp2
          go_loopw [11] (fun i wq => ∃ n : Nat, 1 ≤ n ∧ n ≤ 13 ∧ i = .int .i64 n ∧ Hid (∀ e : Int, 1 ≤ e → e < n → ∀ m, 0 < m → ¬ Rn l m e e) ∧ Hid (Below w.heap.size w wq)) (fun i _ => 13 - (intOf i).toNat)
          case atStart => exact ⟨1, Nat.le_refl _, by omega, rfl, (fun e h1 h2 => by omega), HB⟩
          case round =>
            obtain ⟨n, hn1, hn13, rfl, HF, HB3⟩ := hrel
            clear HB
            by_cases hlt13 : n < 13
            · have n0 : (1 : Int) ≤ n := by omega
              have n1 : (n : Int) ≤ 12 := by omega
              obtain ⟨W1, hW1⟩ : ∃ W1, wr.alloc (.cells #[.int .i64 (n : Int)] 3) = W1 := ⟨_, rfl⟩
              have HI1 : Hid (IvRow W1 w.heap.size (.slice (some ⟨wr.heap.size, 0, none⟩) 1 1) [(n : Int)]) := iv_one hW1 HB3.out.size
              have HB1 : Hid (Below w.heap.size w W1) := by rw [← hW1]; exact HB3.out.alloc HB3.out.size _
              have HW1 : Hid (wr.alloc (.cells #[.int .i64 (n : Int)] 3) = W1) := hW1
              have HS1 : Hid (Seen l n [(n : Int)]) := seen_first n0 n1
              clear hW1
              go_upto_region 33 with fail
              rw [HW1.out]
              clear HW1
              go_wp2
              go_loopw [12, 13] (fun v i wq => ∃ (k n' c : Nat) (a' : Option Addr) (sn : List Int), k ≤ sn.length ∧ i = .int .i64 k ∧ v = .slice a' n' c ∧ Hid (n' = sn.length ∧ IvRow wq w.heap.size (.slice a' n' c) sn) ∧ Hid (Seen l n sn ∧ Shut l n sn k) ∧ Hid (Below w.heap.size w wq)) (fun _ i _ => 13 - (intOf i).toNat)
              case atStart => exact ⟨0, 1, 1, _, [(n : Int)], Nat.zero_le _, rfl, rfl, ⟨rfl, HI1.out⟩, ⟨HS1.out, fun i hi => absurd hi (Nat.not_lt_zero i)⟩, HB1⟩
              case round =>
                obtain ⟨k, n', c, a', sn, hk, rfl, rfl, HI, HS, HBk⟩ := hrel
                clear HI1 HS1 HB1 HB3
                have hsl := apart_len HS.out.1.ap HS.out.1.bd
                obtain ⟨hn', hIv⟩ := HI.out
                subst hn'
                have HI : Hid (sn.length = sn.length ∧ IvRow _ w.heap.size (.slice a' sn.length c) sn) := ⟨rfl, hIv⟩
                clear hIv
                by_cases hks : k < sn.length
                · have k0 : (0 : Int) ≤ k := by omega
                  have k1 : (k : Int) < sn.length := by omega
                  obtain ⟨sk, hsk⟩ : ∃ sk, sn.getD k 0 = sk := ⟨_, rfl⟩
                  go_wp2
                  go_loopw [12, 14] (fun v i wq => ∃ (i' n2 c2 : Nat) (a2 : Option Addr) (s2 : List Int), i' ≤ l.length ∧ i = .int .i64 i' ∧ v = .slice a2 n2 c2 ∧ Hid (n2 = s2.length ∧ IvRow wq w.heap.size (.slice a2 n2 c2) s2) ∧ Hid (Seen l n s2 ∧ Shut l n s2 k ∧ k < s2.length ∧ s2.getD k 0 = sk ∧ ∀ j, j < i' → (l.getD j ho0).en = sk → (l.getD j ho0).of_ ≠ n ∧ ∃ q, q < s2.length ∧ s2.getD q 0 = (l.getD j ho0).of_) ∧ Hid (Below w.heap.size w wq)) (fun _ i _ => l.length - (intOf i).toNat)
                  case atStart => exact ⟨0, sn.length, c, a', sn, Nat.zero_le _, rfl, rfl, ⟨rfl, HI.out.2⟩, ⟨HS.out.1, HS.out.2, hks, hsk, fun j hj => absurd hj (Nat.not_lt_zero j)⟩, HBk⟩
                  case round =>
                    obtain ⟨i', n2, c2, a2, s2, hi', rfl, rfl, HI2, HS2, HB2⟩ := hrel
                    clear HI HS HBk
                    have hsl2 := apart_len HS2.out.1.ap HS2.out.1.bd
                    by_cases hil : i' < l.length
                    · obtain ⟨b, off, rfl, hc⟩ := HAt.out _ HB2.out (by omega)
                      obtain ⟨d0, d1, d2⟩ := hc i' hil
                      have hmem := hos_mem l i' hil
                      have hob := Hok.out.of_ _ hmem
                      obtain ⟨hn2, hrow⟩ := HI2.out
                      subst hn2
                      obtain ⟨g, cg, e1, hg1, hg2, hg3, hgc⟩ := hrow.cells HS2.out.1.pos
                      cases e1
                      have hgk := hgc k HS2.out.2.2.1
                      rw [HS2.out.2.2.2.1] at hgk
                      have hks2 : (k : Int) < s2.length := by have := HS2.out.2.2.1; omega
                      have hi0 : (0 : Int) ≤ i' := by omega
                      have hi1 : (i' : Int) < l.length := by omega
                      have HCx : Hid ((l.getD i' ho0).en = sk → (l.getD i' ho0).of_ = n → res = 5) := fun h1 h2 => by
                        obtain ⟨m, hm⟩ := HS2.out.1.rc k HS2.out.2.2.1
                        rw [HS2.out.2.2.2.1, ← h1] at hm
                        have h3 := rn_trans hm 1 _ (rn_one hmem)
                        rw [h2] at h3
                        exact HCy.out n (m + 1) (Nat.succ_pos m) h3
                      have HAd : Hid ((l.getD i' ho0).en = sk → (∀ q, q < s2.length → s2.getD q 0 ≠ (l.getD i' ho0).of_) → Seen l n (s2 ++ [(l.getD i' ho0).of_])) := fun h1 h2 => HS2.out.1.add hmem hob HS2.out.2.2.1 (by rw [HS2.out.2.2.2.1]; exact h1) h2
                      have HNx : Hid (((l.getD i' ho0).en = sk → (l.getD i' ho0).of_ ≠ n ∧ ∃ q, q < s2.length ∧ s2.getD q 0 = (l.getD i' ho0).of_) → ∀ j, j < i' + 1 → (l.getD j ho0).en = sk → (l.getD j ho0).of_ ≠ n ∧ ∃ q, q < s2.length ∧ s2.getD q 0 = (l.getD j ho0).of_) := fun h1 j hj => by
                        by_cases e : j = i'
                        · subst e; exact h1
                        · exact HS2.out.2.2.2.2 j (by omega)
                      have HNa : Hid (∀ z : Int, (l.getD i' ho0).of_ = z → z ≠ n → Seen l n (s2 ++ [z]) → (Seen l n (s2 ++ [z]) ∧ Shut l n (s2 ++ [z]) k ∧ k < (s2 ++ [z]).length ∧ (s2 ++ [z]).getD k 0 = sk ∧ ∀ j, j < i' + 1 → (l.getD j ho0).en = sk → (l.getD j ho0).of_ ≠ n ∧ ∃ q, q < (s2 ++ [z]).length ∧ (s2 ++ [z]).getD q 0 = (l.getD j ho0).of_)) := fun z hz1 hz2 hz3 => by
                        have hl2 : (s2 ++ [z]).length = s2.length + 1 := by simp
                        refine ⟨hz3, HS2.out.2.1.app (by have := HS2.out.2.2.1; omega) z, by have := HS2.out.2.2.1; omega, ?_, fun j hj he => ?_⟩
                        · rw [getD_app, if_pos HS2.out.2.2.1]; exact HS2.out.2.2.2.1
                        · by_cases e : j = i'
                          · subst e
                            rw [hz1]
                            exact ⟨hz2, s2.length, by omega, by rw [getD_app, if_neg (by omega), if_pos rfl]⟩
                          · obtain ⟨g1, q, g2, g3⟩ := HS2.out.2.2.2.2 j (by omega) he
                            exact ⟨g1, q, by omega, by rw [getD_app, if_pos g2]; exact g3⟩
                      have HS3 : Hid (Seen l n s2 ∧ Shut l n s2 k ∧ k < s2.length ∧ s2.getD k 0 = sk) := ⟨HS2.out.1, HS2.out.2.1, HS2.out.2.2.1, HS2.out.2.2.2.1⟩
                      clear hc hmem HS2 HI2
                      generalize l.getD i' ho0 = y at *
                      obtain ⟨y0, y1, y2⟩ := y
                      simp only at d0 d1 d2 hob HCx HAd HNx HNa
                      by_cases p0 : y0 = sk
                      · subst p0
                        by_cases p1 : y1 = n
                        · have er : res = 5 := HCx.out rfl p1
                          subst er
                          subst p1
                          clear HCx HAd HNx HNa HAt HCy HNo HF HS3 hgc
                          go_wp2_with fail
                          go_quiet (fail)
                          go_wp2
                          go_ret
                          exact ⟨rfl, gr_drewN HB2.out _⟩
                        · have p2 : (y1 == (n : Int)) = false := beq_eq_false_iff_ne.2 p1
                          have hyb : (y1 ≤ 12) := hob.2
                          clear HCx HAt HCy HNo HF
                          go_wp2_with fail
                          go_quiet (fail)
                          go_wp2
                          go_loopw [15, 16] (fun s i wq => ∃ (j : Nat) (bq : Bool), j ≤ s2.length ∧ i = .int .i64 j ∧ s = .bool bq ∧ Hid (InQ s2 y1 bq j) ∧ ∃ nn, wq = wr.drewN nn) (fun _ i _ => s2.length - (intOf i).toNat)
                          case atStart => exact ⟨0, false, Nat.zero_le _, rfl, rfl, ⟨fun h => absurd h (by decide), fun _ q hq => absurd hq (Nat.not_lt_zero q)⟩, _, rfl⟩
                          case round =>
                            obtain ⟨j, bq, hj, rfl, rfl, HQ, nn, rfl⟩ := hrel
                            have j0 : (0 : Int) ≤ j := by omega
                            by_cases hjs : j < s2.length
                            · have j1 : (j : Int) < s2.length := by omega
                              have hgj := hgc j hjs
                              cases bq
                              · by_cases p3 : s2.getD j 0 = y1
                                · have HQ2 : Hid (InQ s2 y1 true (j + 1)) := ⟨fun _ => ⟨j, hjs, p3⟩, fun h => absurd h (by decide)⟩
                                  rw [p3] at hgj
                                  clear HQ HAd HNx HNa HS3 p3 hgc
                                  go_wp2_with fail
                                  go_quiet (fail)
                                  go_wp2
                                  go_roundw
                                  case rel => exact ⟨j + 1, true, by omega, by go_num, rfl, HQ2, _, rfl⟩
                                  case measure => simp [intOf]; omega
                                · have HQ2 : Hid (InQ s2 y1 false (j + 1)) := ⟨fun h => absurd h (by decide), fun _ q hq => by
                                    by_cases e : q = j
                                    · subst e; exact p3
                                    · exact HQ.out.no rfl q (by omega)⟩
                                  have p4 : (s2.getD j 0 == y1) = false := beq_eq_false_iff_ne.2 p3
                                  clear HQ HAd HNx HNa HS3 p3 hgc
                                  generalize s2.getD j 0 = z at *
                                  go_wp2_with fail
                                  go_quiet (fail)
                                  go_wp2
                                  go_roundw
                                  case rel => exact ⟨j + 1, false, by omega, by go_num, by first | rfl | rw [p4], HQ2, _, rfl⟩
                                  case measure => simp [intOf]; omega
                              · have HQ2 : Hid (InQ s2 y1 true (j + 1)) := ⟨fun _ => HQ.out.yes rfl, fun h => absurd h (by decide)⟩
                                clear HQ HAd HNx HNa HS3 hgc hgj
                                go_wp2_with fail
                                go_quiet (fail)
                                go_wp2
                                go_roundw
                                case rel => exact ⟨j + 1, true, by omega, by go_num, rfl, HQ2, _, rfl⟩
                                case measure => simp [intOf]; omega
                            · have hj2 : j = s2.length := by omega
                              subst hj2
                              have HBq : Hid (Below w.heap.size w (wr.drewN nn)) := gr_drewN HB2.out _
                              have HRq : Hid (IvRow (wr.drewN nn) w.heap.size (.slice (some ⟨g, 0, none⟩) s2.length c2) s2) := hrow.drewN _
                              cases bq
                              · have HN5 : Hid _ := HNa.out y1 rfl p1 (HAd.out (by first | rfl | trivial) (HQ.out.no rfl))
                                have hsz2 : (wr.drewN nn).heap.size = wr.heap.size := rfl
                                obtain ⟨W2, hW2⟩ : ∃ W2, (wr.drewN nn).alloc (.cells #[.int .i64 y1] 3) = W2 := ⟨_, rfl⟩
                                have hb2 : Below (wr.drewN nn).heap.size (wr.drewN nn) W2 := by rw [← hW2]; exact (Below.refl _ _).alloc (Nat.le_refl _) _
                                have HBw2 : Hid (Below w.heap.size w W2) := HBq.out.trans (hb2.mono HBq.out.size)
                                have HRw2 : Hid (IvRow W2 w.heap.size (.slice (some ⟨g, 0, none⟩) s2.length c2) s2) := HRq.out.below hb2
                                have Hcw2 : Hid (W2.heap[wr.heap.size]? = some (.cells #[.int .i64 y1] 3 (0, 0))) := by rw [← hW2]; exact World.alloc_heap_new (wr.drewN nn) _
                                have HW2 : Hid ((wr.drewN nn).alloc (.cells #[.int .i64 y1] 3) = W2) := hW2
                                clear hW2 hb2 HQ HAd HNx HNa HS3 hgc HBq HRq
                                go_wp2_with (at_builtin; rw [HW2.out]; refine wpList_appI rfl _ _ rfl w.heap.size _ s2 rfl HRw2.out wr.heap.size y1 rfl Hcw2.out HBw2.out.size (by omega) ?_)
                                intro v3 w3 hr3 hb3
                                obtain ⟨a3, c3, rfl⟩ := hr3.shape
                                have HR3 : Hid ((s2 ++ [y1]).length = (s2 ++ [y1]).length ∧ IvRow w3 w.heap.size (.slice a3 (s2 ++ [y1]).length c3) (s2 ++ [y1])) := ⟨rfl, hr3⟩
                                have HB3' : Hid (Below w.heap.size w w3) := HBw2.out.trans hb3
                                clear hr3 hb3 HW2 HRw2 Hcw2 HBw2 d0 d1 d2
                                go_wp2
                                go_roundw
                                case rel => exact ⟨i' + 1, _, c3, a3, s2 ++ [y1], by omega, by go_num, rfl, HR3, HN5, HB3'⟩
                                case measure => simp [intOf]; omega
                              · have HN5 : Hid (∀ j, j < i' + 1 → _) := HNx.out (fun _ => ⟨p1, HQ.out.yes rfl⟩)
                                clear HQ HAd HNx HNa hgc
                                go_wp2
                                go_roundw
                                case rel => exact ⟨i' + 1, s2.length, c2, _, s2, by omega, by go_num, rfl, ⟨rfl, HRq.out⟩, ⟨HS3.out.1, HS3.out.2.1, HS3.out.2.2.1, HS3.out.2.2.2, HN5.out⟩, HBq⟩
                                case measure => simp [intOf]; omega
                      · have p2 : (y0 != sk) = true := by simp [p0]
                        have HN3 : Hid (∀ j, j < i' + 1 → _) := HNx.out (fun h => absurd h p0)
                        clear HCx HAd HNx HNa HAt HCy HNo HF hgc
                        go_wp2_with fail
                        go_quiet (fail)
                        go_wp2
                        go_roundw
                        case rel => exact ⟨i' + 1, s2.length, c2, _, s2, by omega, by go_num, rfl, ⟨rfl, hrow.drewN _⟩, ⟨HS3.out.1, HS3.out.2.1, HS3.out.2.2.1, HS3.out.2.2.2, HN3.out⟩, gr_drewN HB2.out _⟩
                        case measure => simp [intOf]; omega
                    · have hi2 : i' = l.length := by omega
                      subst hi2
                      have HSh : Hid (Seen l n s2 ∧ Shut l n s2 (k + 1)) := ⟨HS2.out.1, fun i hi h hh he => by
                        by_cases e : i = k
                        · subst e
                          obtain ⟨j, hj, rfl⟩ := List.getElem_of_mem hh
                          have := HS2.out.2.2.2.2 j hj
                          rw [List.getD_eq_getElem?_getD, List.getElem?_eq_getElem hj] at this
                          exact this (he.trans HS2.out.2.2.2.1)
                        · exact HS2.out.2.1 i (by omega) h hh he⟩
                      have hk3 : k + 1 ≤ s2.length := HS2.out.2.2.1
                      clear HS2 HAt HCy HNo HF
                      go_wp2
                      go_roundw
                      case rel => exact ⟨k + 1, n2, c2, a2, s2, hk3, by go_num, rfl, HI2, HSh, HB2⟩
                      case measure => simp [intOf]; omega
                · have hks2 : k = sn.length := by omega
                  subst hks2
                  have HN4 : Hid (∀ e : Int, 1 ≤ e → e < ((n + 1 : Nat) : Int) → ∀ m, 0 < m → ¬ Rn l m e e) := fun e h1 h2 m hm hr => by
                    by_cases e2 : e = n
                    · subst e2
                      exact shut_none HS.out.1 HS.out.2 m hm hr
                    · exact HF.out e h1 (by omega) m hm hr
                  have k1 : ¬ (sn.length : Int) < sn.length := by omega
                  clear HF HS HI HAt HCy HNo
                  go_wp2
                  go_roundw
                  case rel => exact ⟨n + 1, by omega, by omega, by go_num, HN4, HBk⟩
                  case measure => simp [intOf]; omega
            · have e13 : n = 13 := by omega
              subst e13
              have er : res = 0 := HNo.out (fun e h1 h2 m hm => HF.out e h1 (by omega) m hm)
              subst er
              clear HF HNo HCy HAt
              go_wp2
              go_ret
              exact ⟨rfl, HB3.out⟩
end Go.Proofs.YtmpjaogomabfiaaDoor
