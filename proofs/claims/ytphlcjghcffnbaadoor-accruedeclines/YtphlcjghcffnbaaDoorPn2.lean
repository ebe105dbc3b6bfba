/-
  The contracts of accrue.isFrom and accrue.Declining.
-/
import Derived.Test.YtphlcjghcffnbaaDoorIs
import Derived.Test.YtphlcjghcffnbaaDoorNRow
import Derived.Test.YtphlcjghcffnbaaDoorRatio3
import Derived.Deep.OwnRows
import Derived.Shelf.Abstract
namespace Go.Proofs.YtphlcjghcffnbaaDoor
set_option linter.unusedVariables false
set_option linter.unusedSimpArgs false
set_option maxRecDepth 100000
open Go.RowKit Go.Lib Math

/-- What is taken of what is left. -/
def tookN (rest n d left : Int) (last : Bool) : Int := if last = true ∨ left - rest < ratV left n d then left - rest else ratV left n d
/-- What is taken in so many periods. -/
def decL (rest n d : Int) : Nat → Int → List Int
  | 0, _ => []
  | k + 1, left => tookN rest n d left (k == 0) :: decL rest n d k (left - tookN rest n d left (k == 0))
def decBad (cost rest n d pr : Int) : Bool := !(decide (0 ≤ cost ∧ cost ≤ mostA) && (decide (0 ≤ rest ∧ rest ≤ cost) && (decide (0 ≤ n ∧ n ≤ d) && (decide (1 ≤ d ∧ d ≤ 1000000000) && upTo pr 120))))
theorem decL_len (rest n d : Int) : ∀ k left, (decL rest n d k left).length = k
  | 0, _ => rfl
  | k + 1, left => by rw [decL, List.length_cons, decL_len]
theorem rat_fit {left n d : Int} (h0 : 0 ≤ left) (h1 : left ≤ mostA) (hn : 0 ≤ n) (hd : n ≤ d) (hd1 : 1 ≤ d) : ratE left n d = .nilIface ∧ 0 ≤ ratV left n d ∧ ratV left n d ≤ mostA + 1 := by
  have ea : absI left = left := by unfold absI; rw [if_neg (by omega)]
  have m0 : 0 ≤ left * n := Int.mul_nonneg h0 hn
  have m1 : left * n ≤ left * d := Int.mul_le_mul_of_nonneg_left hd h0
  have q0 : 0 ≤ left * n / d := Int.ediv_nonneg m0 (by omega)
  have q1 : left * n / d ≤ left := by
    have := Int.ediv_le_ediv (by omega : 0 < d) m1
    rwa [Int.mul_ediv_cancel left (by omega : d ≠ 0)] at this
  have u := upOf_bd (left * n / d) (left * n % d) d
  have hp : partOf left n d = left * n / d + upOf (left * n / d) (left * n % d) d := rfl
  unfold mostA at *
  have c : partOf (absI left) n d ≤ 9223372036854775807 + (if left < 0 then 1 else 0) := by
    rw [ea, if_neg (by omega), hp]; omega
  unfold ratE ratV
  rw [if_pos c, if_pos c]
  refine ⟨rfl, ?_⟩
  unfold ratioV
  rw [if_neg (by omega), ea, hp]
  omega
theorem took_bd {rest n d left : Int} (last : Bool) (h0 : 0 ≤ rest) (h1 : rest ≤ left) (h2 : left ≤ mostA) (hn : 0 ≤ n) (hd : n ≤ d) (hd1 : 1 ≤ d) : 0 ≤ tookN rest n d left last ∧ tookN rest n d left last ≤ left - rest := by
  have := (rat_fit (by omega : 0 ≤ left) h2 hn hd hd1).2
  unfold tookN
  split <;> omega
theorem decL_sum {rest n d : Int} (h0 : 0 ≤ rest) (hn : 0 ≤ n) (hd : n ≤ d) (hd1 : 1 ≤ d) : ∀ k left, rest ≤ left → left ≤ mostA → (decL rest n d (k + 1) left).sum = left - rest ∧ ∀ x ∈ decL rest n d (k + 1) left, 0 ≤ x ∧ x ≤ mostA
  | 0, left, h1, h2 => by
    have e : tookN rest n d left ((0 : Nat) == 0) = left - rest := by unfold tookN; rw [if_pos (.inl rfl)]
    rw [decL, decL, e]
    refine ⟨by simp, fun x hx => ?_⟩
    rw [List.mem_singleton] at hx
    subst hx; omega
  | k + 1, left, h1, h2 => by
    obtain ⟨b1, b2⟩ := took_bd (rest := rest) (n := n) (d := d) (left := left) (k + 1 == 0) h0 h1 h2 hn hd hd1
    obtain ⟨i1, i2⟩ := decL_sum h0 hn hd hd1 k (left - tookN rest n d left (k + 1 == 0)) (by omega) (by omega)
    rw [decL, List.sum_cons, i1]
    refine ⟨by omega, fun x hx => ?_⟩
    rcases List.mem_cons.1 hx with rfl | hx
    · omega
    · exact i2 x hx

theorem isFrom_any (a n b : Int) (w : World) :
    Calls Tryd.prog 18 #[.int .i64 a, .int .i64 n, .int .i64 b] w fun e w' => e = .returned (.bool (decide (a ≤ n ∧ n ≤ b))) ∧ w' = w := by
  by_cases h : a ≤ n
  · have e1 : decide (a ≤ n ∧ n ≤ b) = decide (n ≤ b) := by simp [h]
    rw [e1]
    go_enter Tryd.func18, Tryd.ntmps18
    go_wp2
    go_ret
    exact ⟨rfl, rfl⟩
  · have e1 : decide (a ≤ n ∧ n ≤ b) = false := by simp [h]
    rw [e1]
    go_enter Tryd.func18, Tryd.ntmps18
    go_wp2
    go_ret
    exact ⟨rfl, rfl⟩
theorem dec_int : (Tryd.prog.info? 3).map (fun i => (i.zero, i.size, i.bytes)) = some (some (.int .i64 0), 1, 8) := by kernel_rfl
set_option maxHeartbeats 4000000 in
theorem declining_bad (cost rest n d pr : Int) (w : World) (h : decBad cost rest n d pr = true) :
    Calls Tryd.prog 6 #[.int .i64 cost, .int .i64 rest, .int .i64 n, .int .i64 d, .int .i64 pr] w fun e w' => e = .returned (.tuple #[.slice none 0 0, .iface 48 (.int .i64 1)]) ∧ w' = w := by
  have H1 := isFrom_any 0 cost 1000000000000000 w
  have H2 := isFrom_any 0 rest cost w
  have H3 := isFrom_any 0 n d w
  have H4 := isFrom_any 1 d 1000000000 w
  have H5 := isPeriod_any pr w
  unfold decBad mostA at h
  cases c1 : decide (0 ≤ cost ∧ cost ≤ 1000000000000000)
  · rw [c1] at H1
    clear c1 h H2 H3 H4 H5
    go_enter Tryd.func6, Tryd.ntmps6
    go_wp2_with (go_at_call 18; refine H1.mono ?_; rintro e w' ⟨rfl, rfl⟩)
    go_ret2
    exact ⟨rfl, rfl⟩
  rw [c1, Bool.true_and] at h
  rw [c1] at H1
  clear c1
  cases c2 : decide (0 ≤ rest ∧ rest ≤ cost)
  · rw [c2] at H2
    clear c2 h H3 H4 H5
    go_enter Tryd.func6, Tryd.ntmps6
    go_wp2_with fail
    refine H1.mono ?_
    rintro e w' ⟨rfl, hw⟩
    rw [hw]; clear hw w' H1
    go_wp2_with fail
    refine H2.mono ?_
    rintro e w' ⟨rfl, hw⟩
    rw [hw]; clear hw w' H2
    go_wp2
    go_ret2
    exact ⟨rfl, rfl⟩
  rw [c2, Bool.true_and] at h
  rw [c2] at H2
  clear c2
  cases c3 : decide (0 ≤ n ∧ n ≤ d)
  · rw [c3] at H3
    clear c3 h H4 H5
    go_enter Tryd.func6, Tryd.ntmps6
    go_wp2_with fail
    refine H1.mono ?_
    rintro e w' ⟨rfl, hw⟩
    rw [hw]; clear hw w' H1
    go_wp2_with fail
    refine H2.mono ?_
    rintro e w' ⟨rfl, hw⟩
    rw [hw]; clear hw w' H2
    go_wp2_with fail
    refine H3.mono ?_
    rintro e w' ⟨rfl, hw⟩
    rw [hw]; clear hw w' H3
    go_wp2
    go_ret2
    exact ⟨rfl, rfl⟩
  rw [c3, Bool.true_and] at h
  rw [c3] at H3
  clear c3
  cases c4 : decide (1 ≤ d ∧ d ≤ 1000000000)
  · rw [c4] at H4
    clear c4 h H5
    go_enter Tryd.func6, Tryd.ntmps6
    go_wp2_with fail
    refine H1.mono ?_
    rintro e w' ⟨rfl, hw⟩
    rw [hw]; clear hw w' H1
    go_wp2_with fail
    refine H2.mono ?_
    rintro e w' ⟨rfl, hw⟩
    rw [hw]; clear hw w' H2
    go_wp2_with fail
    refine H3.mono ?_
    rintro e w' ⟨rfl, hw⟩
    rw [hw]; clear hw w' H3
    go_wp2_with fail
    refine H4.mono ?_
    rintro e w' ⟨rfl, hw⟩
    rw [hw]; clear hw w' H4
    go_wp2
    go_ret2
    exact ⟨rfl, rfl⟩
  rw [c4, Bool.true_and] at h
  rw [c4] at H4
  clear c4
  have c5 : upTo pr 120 = false := by simpa using h
  rw [c5] at H5
  clear c5 h
  go_enter Tryd.func6, Tryd.ntmps6
  go_wp2_with fail
  refine H1.mono ?_
  rintro e w' ⟨rfl, hw⟩
  rw [hw]; clear hw w' H1
  go_wp2_with fail
  refine H2.mono ?_
  rintro e w' ⟨rfl, hw⟩
  rw [hw]; clear hw w' H2
  go_wp2_with fail
  refine H3.mono ?_
  rintro e w' ⟨rfl, hw⟩
  rw [hw]; clear hw w' H3
  go_wp2_with fail
  refine H4.mono ?_
  rintro e w' ⟨rfl, hw⟩
  rw [hw]; clear hw w' H4
  go_wp2_with fail
  refine H5.mono ?_
  rintro e w' ⟨rfl, hw⟩
  rw [hw]; clear hw w' H5
  go_wp2
  go_ret2
  exact ⟨rfl, rfl⟩
theorem dec_drew {n : Nat} {w W : World} (h : Below n w W) (m : Nat) : Below n w (W.drewN m) := h.trans ⟨rfl, rfl, rfl, Nat.le_refl _, fun _ _ => rfl⟩
/-- What holds between the rounds. -/
structure DecAt (w W : World) (g : Nat) (rest n d cost left : Int) (p k : Nat) (r : List Int) : Prop where
  row : NRow W g r
  len : r.length = p
  take : r.take k ++ decL rest n d (p - k) left = decL rest n d p cost
  below : Below g w W
  lo : rest ≤ left
  hi : left ≤ cost
theorem dec_take (r : List Int) (k : Nat) (x : Int) (h : k < r.length) : (r.set k x).take (k + 1) = r.take k ++ [x] := by
  rw [List.take_add_one, List.take_set_of_le (Nat.le_refl _), List.getElem?_set_self h]
  rfl
set_option maxHeartbeats 4000000 in
theorem declining_ok (cost rest n d : Int) (p : Nat) (w : World) (h : decBad cost rest n d (p : Int) = false) :
    Calls Tryd.prog 6 #[.int .i64 cost, .int .i64 rest, .int .i64 n, .int .i64 d, .int .i64 (p : Int)] w fun e w' => e = .returned (.tuple #[.slice (some ⟨w.heap.size, 0, none⟩) p p, .nilIface]) ∧ NRow w' w.heap.size (decL rest n d p cost) ∧ Below w.heap.size w w' := by
  unfold decBad at h
  simp only [Bool.not_eq_false', Bool.and_eq_true, decide_eq_true_eq, upTo_iff] at h
  obtain ⟨h1, h2, h3, h4, h5⟩ := h
  have H1 := isFrom_any 0 cost 1000000000000000 w
  have H2 := isFrom_any 0 rest cost w
  have H3 := isFrom_any 0 n d w
  have H4 := isFrom_any 1 d 1000000000 w
  have H5 := isPeriod_any (p : Int) w
  rw [decide_eq_true (by unfold mostA at h1; exact h1)] at H1
  rw [decide_eq_true h2] at H2
  rw [decide_eq_true h3] at H3
  rw [decide_eq_true h4] at H4
  rw [upTo_iff.2 h5] at H5
  have hp1 : 1 ≤ p := by omega
  have hp2 : p ≤ 120 := by omega
  have hmi := fun w => run_make_row' (P := Tryd.prog) 23 3 (.int .i64 0) 8 Tryd.underlying23 dec_int rfl .i64 .i64 p (by omega) (by omega) w
  have HRat : Hid (∀ left W, rest ≤ left → left ≤ cost → Calls Tryd.prog 20 #[.int .i64 left, .int .i64 n, .int .i64 d] W fun e w' => e = .returned (.tuple #[.int .i64 (ratV left n d), .nilIface]) ∧ ∃ m, w' = W.drewN m) := fun left W a b => by
    unfold mostA at h1
    have := ratio_any left n d W (by omega) (by omega) h3.1 (by omega) h4.1 h4.2
    rw [(rat_fit (by omega) (by unfold mostA; omega) h3.1 h3.2 h4.1).1] at this
    exact this
  have HTb : Hid (∀ left last, rest ≤ left → left ≤ cost → 0 ≤ tookN rest n d left last ∧ tookN rest n d left last ≤ left - rest) := fun left last a b => took_bd last h2.1 a (by omega) h3.1 h3.2 h4.1
  have HRb : Hid (∀ left, rest ≤ left → left ≤ cost → 0 ≤ ratV left n d ∧ ratV left n d ≤ 1000000000000001) := fun left a b => by
    have := (rat_fit (left := left) (by omega) (by omega) h3.1 h3.2 h4.1).2
    unfold mostA at this; omega
  have H0 : Hid (∀ m, DecAt w ((w.alloc (.cells (madeCells #[.int .i64 0] p) 3)).drewN m) w.heap.size rest n d cost cost p 0 (List.replicate p 0)) := fun m =>
    ⟨nrow_made w p, by simp, by simp, ((Below.refl _ w).alloc (Nat.le_refl _) _).trans ⟨rfl, rfl, rfl, Nat.le_refl _, fun _ _ => rfl⟩, h2.2, Int.le_refl _⟩
  have HEnd : Hid (∀ W left r, DecAt w W w.heap.size rest n d cost left p p r → NRow W w.heap.size (decL rest n d p cost) ∧ Below w.heap.size w W) := fun W left r hd => by
    refine ⟨?_, hd.below⟩
    have := hd.take
    rw [Nat.sub_self, decL, List.append_nil, List.take_of_length_le (by rw [hd.len]; exact Nat.le_refl _)] at this
    rw [← this]; exact hd.row
  have HStep : Hid (∀ W m left k r, k < p → DecAt w W w.heap.size rest n d cost left p k r → DecAt w ((W.drewN m).setCell ⟨w.heap.size, k, none⟩ (.int .i64 (tookN rest n d left (p - (k + 1) == 0)))) w.heap.size rest n d cost (left - tookN rest n d left (p - (k + 1) == 0)) p (k + 1) (r.set k (tookN rest n d left (p - (k + 1) == 0)))) := fun W m left k r hk hd => by
    obtain ⟨b1, b2⟩ := HTb.out left (p - (k + 1) == 0) hd.lo hd.hi
    refine ⟨(show NRow (W.drewN m) w.heap.size r from hd.row).set k _, by rw [List.length_set]; exact hd.len, ?_, (dec_drew hd.below m).setCell (p := ⟨w.heap.size, k, none⟩) (Nat.le_refl _) _, by omega, by have := hd.hi; omega⟩
    rw [dec_take _ _ _ (by rw [hd.len]; exact hk)]
    have := hd.take
    rw [show p - k = (p - (k + 1)) + 1 by omega, decL] at this
    rw [← this, List.append_assoc]
    rfl
  have i1 : (1 : Int) ≤ p := by omega
  have i2 : (p : Int) ≤ 120 := by omega
  unfold mostA at h1
  have HB : Hid (0 ≤ rest ∧ cost ≤ 1000000000000000) := ⟨h2.1, h1.2⟩
  have wp : IntKind.i64.wrap ((p : Int) - 1) = (p : Int) - 1 := by rw [IntKind.wrap_i64]; omega
  clear h1 h2 h3 h4 h5
  go_enter Tryd.func6, Tryd.ntmps6
  go_wp2_with fail
  refine H1.mono ?_
  rintro e w' ⟨rfl, hw⟩
  rw [hw]; clear hw w' H1
  go_wp2_with fail
  refine H2.mono ?_
  rintro e w' ⟨rfl, hw⟩
  rw [hw]; clear hw w' H2
  go_wp2_with fail
  refine H3.mono ?_
  rintro e w' ⟨rfl, hw⟩
  rw [hw]; clear hw w' H3
  go_wp2_with fail
  refine H4.mono ?_
  rintro e w' ⟨rfl, hw⟩
  rw [hw]; clear hw w' H4
  go_wp2_with fail
  refine H5.mono ?_
  rintro e w' ⟨rfl, hw⟩
  rw [hw]; clear hw w' H5
  go_wp2_with fail
  go_region
  go_wp2
  have H0' : Hid (DecAt _ _ _ _ _ _ _ _ _ _ _) := H0.out 1
  clear hmi H0
  go_loopw [12, 47] (fun lf i wr => ∃ (k : Nat) (left : Int) (r : List Int), k ≤ p ∧ i = .int .i64 k ∧ lf = .int .i64 left ∧ Hid (DecAt w wr w.heap.size rest n d cost left p k r)) (fun _ i _ => p - (RowKit.intOf i).toNat)
  case atStart => exact ⟨0, cost, _, Nat.zero_le _, rfl, rfl, H0'⟩
  case round =>
    obtain ⟨k, left, r, hk, rfl, rfl, H⟩ := hrel
    by_cases hkp : k < p
    · have HR : Hid (Calls _ _ _ _ _) := HRat.out left wr H.out.lo H.out.hi
      have HS : Hid _ := fun m => HStep.out wr m left k r hkp H.out
      have hb := HTb.out left (p - (k + 1) == 0) H.out.lo H.out.hi
      have hr := HRb.out left H.out.lo H.out.hi
      have hl := H.out.lo
      have hl2 := H.out.hi
      obtain ⟨hB1, hB2⟩ := HB.out
      have HTe : Hid (tookN rest n d left (p - (k + 1) == 0) = if (p - (k + 1) == 0) = true ∨ left - rest < ratV left n d then left - rest else ratV left n d) := rfl
      have hfz : ∀ m, (wr.drewN m).frozen? ⟨w.heap.size, k, none⟩ = false := fun m => (show NRow (wr.drewN m) w.heap.size r from H.out.row).frozen k
      have hcl : ∀ m, (wr.drewN m).cell? ⟨w.heap.size, k, none⟩ = some (.int .i64 (r.getD k 0)) := fun m => (show NRow (wr.drewN m) w.heap.size r from H.out.row).cell (by rw [H.out.len]; exact hkp)
      generalize r.getD k 0 = old at *
      generalize ratV left n d = rv at *
      generalize tookN rest n d left (p - (k + 1) == 0) = tk at *
      have w1 : IntKind.i64.wrap (left - rest) = left - rest := by rw [IntKind.wrap_i64]; omega
      have w2 : IntKind.i64.wrap (left - tk) = left - tk := by rw [IntKind.wrap_i64]; omega
      have j0 : (0 : Int) ≤ k := by omega
      have j1 : (k : Int) < p := by omega
      clear H HRat HTb HRb HStep hb hr hl hl2 hB1 hB2
      by_cases cl : k = p - 1
      · have et : tk = left - rest := by rw [HTe.out, if_pos (.inl (by rw [beq_iff_eq]; omega))]
        have jl : ((k : Int) == (p : Int) - 1) = true := by rw [beq_iff_eq]; omega
        clear HTe cl
        subst et
        go_wp2_with fail
        refine HR.out.mono ?_
        rintro e w' ⟨rfl, m, hw⟩
        rw [hw]; clear hw w' HR
        have hf := hfz m
        have hc := hcl m
        have HS' : Hid (DecAt _ _ _ _ _ _ _ _ _ _ _) := HS.out m
        clear hfz hcl HS
        go_wp2
        go_roundw
        case rel => exact ⟨k + 1, _, _, by omega, by go_num, rfl, HS'⟩
        case measure => simp [RowKit.intOf]; omega
      · have jl : ((k : Int) == (p : Int) - 1) = false := by rw [beq_eq_false_iff_ne]; omega
        have nl : ¬ (p - (k + 1) == 0) = true := by rw [beq_iff_eq]; omega
        by_cases cr : left - rest < rv
        · have et : tk = left - rest := by rw [HTe.out, if_pos (.inr cr)]
          clear HTe
          subst et
          go_wp2_with fail
          refine HR.out.mono ?_
          rintro e w' ⟨rfl, m, hw⟩
          rw [hw]; clear hw w' HR
          have hf := hfz m
          have hc := hcl m
          have HS' : Hid (DecAt _ _ _ _ _ _ _ _ _ _ _) := HS.out m
          clear hfz hcl HS
          go_wp2
          go_roundw
          case rel => exact ⟨k + 1, _, _, by omega, by go_num, rfl, HS'⟩
          case measure => simp [RowKit.intOf]; omega
        · have et : tk = rv := by rw [HTe.out, if_neg (by simp only [not_or]; exact ⟨nl, cr⟩)]
          clear HTe
          subst et
          go_wp2_with fail
          refine HR.out.mono ?_
          rintro e w' ⟨rfl, m, hw⟩
          rw [hw]; clear hw w' HR
          have hf := hfz m
          have hc := hcl m
          have HS' : Hid (DecAt _ _ _ _ _ _ _ _ _ _ _) := HS.out m
          clear hfz hcl HS
          go_wp2
          go_roundw
          case rel => exact ⟨k + 1, _, _, by omega, by go_num, rfl, HS'⟩
          case measure => simp [RowKit.intOf]; omega
    · have ek : k = p := by omega
      subst ek
      have HE : Hid _ := HEnd.out wr left r H.out
      have j1 : ¬ (k : Int) < k := by omega
      clear H HEnd HRat HTb HRb HStep HB
      go_wp2
      go_ret2
      exact ⟨rfl, HE.out.1, HE.out.2⟩
end Go.Proofs.YtphlcjghcffnbaaDoor
