/-
  The contracts of money.weigh and money.part.
-/
import Derived.Test.YtojmnfckijgofaaShr4
import Derived.Test.YtojmnfckijgofaaRatio3
import Derived.Test.YtojmnfckijgofaaSum
namespace Go.Proofs.Ytojmnfckijgofaa
set_option linter.unusedVariables false
set_option linter.unusedSimpArgs false
set_option maxRecDepth 100000
open Go.RowKit Go.Lib

/-- A slice of numbers that is read. -/
structure IsW (w : World) (a : Option Addr) (l : List Int) (cap : Nat) : Prop where
  cap : l.length ≤ cap
  lies : l = [] ∨ ∃ b off, a = some ⟨b, off, none⟩ ∧ b < w.heap.size ∧ ∀ k, k < l.length → w.cell? ⟨b, off + k, none⟩ = some (.int .i64 (l.getD k 0))
theorem IsW.below {w w' : World} {a : Option Addr} {l : List Int} {cap : Nat} (h : IsW w a l cap) (hb : Below w.heap.size w w') : IsW w' a l cap := by
  refine ⟨h.cap, ?_⟩
  rcases h.lies with h | ⟨b, off, e, hlt, hc⟩
  · exact .inl h
  · exact .inr ⟨b, off, e, by have := hb.size; omega, fun k hk => (hb.cell (p := ⟨b, off + k, none⟩) hlt).trans (hc k hk)⟩
theorem IsW.at {w : World} {a : Option Addr} {l : List Int} {cap : Nat} (h : IsW w a l cap) {k : Nat} (hk : k < l.length) : ∃ b off, a = some ⟨b, off, none⟩ ∧ b < w.heap.size ∧ w.cell? ⟨b, off + k, none⟩ = some (.int .i64 (l.getD k 0)) := by
  rcases h.lies with h | ⟨b, off, e, hlt, hc⟩
  · subst h; simp at hk
  · exact ⟨b, off, e, hlt, hc k hk⟩
def wBad (x : Int) : Bool := decide (x < 0 ∨ 1000000000 < x)
theorem w_take (l : List Int) (k : Nat) (h : k < l.length) : l.take (k + 1) = l.take k ++ [l.getD k 0] := by
  rw [List.take_add_one, List.getElem?_eq_getElem h, List.getD_eq_getElem?_getD, List.getElem?_eq_getElem h]
  rfl
theorem w_mem (l : List Int) (k : Nat) (h : k < l.length) : l.getD k 0 ∈ l := by
  rw [List.getD_eq_getElem?_getD, List.getElem?_eq_getElem h]
  exact List.getElem_mem h

theorem weigh1_any (x : Int) (w : World) : Calls Try.prog 15 #[.int .i64 x] w fun e w' => e = .returned (.bool (wBad x)) ∧ w' = w := by
  unfold wBad
  by_cases h : x < 0 ∨ 1000000000 < x
  · have HC : Hid (Calls _ _ _ _ _) := isPart_no x w h
    rw [decide_eq_true h]
    clear h
    go_enter Try.func15, Try.ntmps15
    go_wp2_with fail
    refine HC.out.mono ?_
    rintro e w' ⟨rfl, hw⟩
    rw [hw]; clear hw w'
    go_wp2
    go_ret
    exact ⟨rfl, rfl⟩
  · have HC : Hid (Calls _ _ _ _ _) := isPart_yes x w (by omega) (by omega)
    rw [decide_eq_false h]
    clear h
    go_enter Try.func15, Try.ntmps15
    go_wp2_with fail
    refine HC.out.mono ?_
    rintro e w' ⟨rfl, hw⟩
    rw [hw]; clear hw w'
    go_wp2
    go_ret
    exact ⟨rfl, rfl⟩

set_option maxHeartbeats 2000000 in
theorem wIdx_any (a : Option Addr) (l : List Int) (cap : Nat) (w : World) (h : IsW w a l cap) (hl : l.length ≤ 1000000) :
    Calls Try.prog 22 #[.slice a l.length cap, .func (.func 15) #[] #[]] w fun e w' => (∃ r : Int, e = .returned (.int .i64 r) ∧ decide (0 ≤ r) = l.any wBad) ∧ w' = w := by
  have Hc : Hid (∀ k, k < l.length → ∃ b off, a = some ⟨b, off, none⟩ ∧ b < w.heap.size ∧ w.cell? ⟨b, off + k, none⟩ = some (.int .i64 (l.getD k 0))) := fun k hk => h.at hk
  have hl' : (l.length : Int) ≤ 1000000 := by omega
  clear h
  go_enter Try.func22, Try.ntmps22
  go_wp2
  go_loop [8] (fun i => ∃ k : Nat, k ≤ l.length ∧ i = .int .i64 k ∧ Hid (∀ z ∈ l.take k, wBad z = false)) (fun i => l.length - (RowKit.intOf i).toNat)
  case atStart => exact ⟨0, Nat.zero_le _, rfl, fun z hz => by simp at hz⟩
  case round =>
    obtain ⟨k, hk, rfl, H⟩ := hrel
    by_cases hlt : k < l.length
    · obtain ⟨b, off, rfl, hb, hc⟩ := Hc.out k hlt
      have et : Hid (l.take (k + 1) = l.take k ++ [l.getD k 0]) := w_take l k hlt
      have em : Hid (l.getD k 0 ∈ l) := w_mem l k hlt
      generalize l.getD k 0 = x at *
      have i0 : (0 : Int) ≤ k := by omega
      have i1 : (k : Int) < l.length := by omega
      have HC : Hid (Calls _ _ _ _ _) := weigh1_any x w
      cases hq : wBad x
      · rw [hq] at HC
        have HN : Hid (∀ z ∈ l.take (k + 1), wBad z = false) := by
          unfold Hid; rw [et.out]
          intro z hz
          rcases List.mem_append.1 hz with hz | hz
          · exact H.out z hz
          · rw [List.mem_singleton.1 hz]; exact hq
        clear H et em hq
        go_wp2_with (go_at_call 15; refine HC.out.mono ?_; rintro e w' ⟨rfl, rfl⟩)
        go_round
        case rel => exact ⟨k + 1, by omega, by go_num, HN⟩
        case measure => simp [RowKit.intOf]; omega
      · rw [hq] at HC
        have HE : Hid (decide (0 ≤ (k : Int)) = l.any wBad) := by
          unfold Hid
          rw [List.any_eq_true.2 ⟨x, em.out, hq⟩]; exact decide_eq_true i0
        clear H et em hq
        go_wp2_with (go_at_call 15; refine HC.out.mono ?_; rintro e w' ⟨rfl, rfl⟩)
        go_ret
        exact ⟨⟨k, rfl, HE.out⟩, rfl⟩
    · have hk2 : k = l.length := by omega
      subst hk2
      have HE : Hid (decide (0 ≤ (-1 : Int)) = l.any wBad) := by
        unfold Hid
        have h1 := H.out
        rw [List.take_length] at h1
        rw [show l.any wBad = false by rw [List.any_eq_false]; intro z hz; rw [h1 z hz]; simp]
        decide
      clear H
      go_wp2
      go_ret
      exact ⟨⟨-1, rfl, HE.out⟩, rfl⟩
theorem wHas_any (a : Option Addr) (l : List Int) (cap : Nat) (w : World) (h : IsW w a l cap) (hl : l.length ≤ 1000000) :
    Calls Try.prog 14 #[.slice a l.length cap, .func (.func 15) #[] #[]] w fun e w' => e = .returned (.bool (l.any wBad)) ∧ w' = w := by
  have HC : Hid (Calls _ _ _ _ _) := wIdx_any a l cap w h hl
  clear h
  generalize l.any wBad = q at *
  go_enter Try.func14, Try.ntmps14
  go_wp2_with fail
  refine HC.out.mono ?_
  rintro e w' ⟨⟨r, rfl, hr⟩, hw⟩
  rw [hw]; clear hw w'
  go_wp2
  go_ret
  refine ⟨?_, rfl⟩
  rw [← hr]
  rfl
theorem shBad_def (l : List Int) : shBad l = if 40 < l.length then 4 else if l.any wBad = true then 1 else if l.sum = 0 then 6 else 0 := rfl

/-- What weigh answers. -/
def weighV (l : List Int) : Int := if shBad l = 0 then l.sum else 0
def shE (n : Int) : Value := if n = 0 then .nilIface else .iface 42 (.int .i64 n)
set_option maxHeartbeats 2000000 in
theorem weigh_any (a : Option Addr) (l : List Int) (cap : Nat) (w : World) (h : IsW w a l cap) (hl : l.length ≤ 140737488355328) :
    Calls Try.prog 8 #[.slice a l.length cap] w fun e w' => e = .returned (.tuple #[.int .u64 (weighV l), shE (shBad l)]) ∧ w' = w := by
  have n0 : (0 : Int) ≤ l.length := by omega
  have n1 : (l.length : Int) ≤ 140737488355328 := by omega
  by_cases h1 : 40 < l.length
  · have e1 : shBad l = 4 := by rw [shBad_def, if_pos h1]
    unfold weighV
    rw [e1]
    have h1' : (40 : Int) < l.length := by omega
    clear h e1
    go_enter Try.func8, Try.ntmps8
    go_wp2
    go_ret2
    exact ⟨rfl, rfl⟩
  · have HC : Hid (Calls _ _ _ _ _) := wHas_any a l cap w h (by omega)
    have h1' : ¬ (40 : Int) < l.length := by omega
    cases h2 : l.any wBad
    · rw [h2] at HC
      have hb : ∀ z ∈ l, 0 ≤ z ∧ z ≤ 1000000000 := fun z hz => by
        have := List.any_eq_false.1 h2 z hz
        unfold wBad at this
        simp only [decide_eq_true_eq] at this
        omega
      have e1 : shBad l = if l.sum = 0 then 6 else 0 := by rw [shBad_def, if_neg h1, h2]; rfl
      have Hb : Hid (∀ k, k ≤ l.length → 0 ≤ (l.take k).sum ∧ (l.take k).sum ≤ 40000000000) := fun k hk => by
        refine ⟨sum_nonneg fun z hz => (hb z (List.mem_of_mem_take hz)).1, ?_⟩
        have := sum_le (l := l.take k) (M := 1000000000) fun z hz => (hb z (List.mem_of_mem_take hz)).2
        rw [List.length_take] at this
        omega
      have Hx : Hid (∀ k, k < l.length → 0 ≤ l.getD k 0 ∧ l.getD k 0 ≤ 1000000000) := fun k hk => hb _ (w_mem l k hk)
      have Hc : Hid (∀ k, k < l.length → ∃ b off, a = some ⟨b, off, none⟩ ∧ b < w.heap.size ∧ w.cell? ⟨b, off + k, none⟩ = some (.int .i64 (l.getD k 0))) := fun k hk => h.at hk
      have He : Hid (shBad l = if l.sum = 0 then 6 else 0) := e1
      clear h hb e1 h2
      go_enter Try.func8, Try.ntmps8
      go_wp2_with (go_at_call 14; refine HC.out.mono ?_; rintro e w' ⟨rfl, hw⟩; rw [hw]; clear hw w')
      clear HC
      go_loop [4, 16] (fun s i => ∃ k : Nat, k ≤ l.length ∧ i = .int .i64 k ∧ s = .int .u64 (l.take k).sum) (fun _ i => l.length - (RowKit.intOf i).toNat)
      case atStart => exact ⟨0, Nat.zero_le _, rfl, rfl⟩
      case round =>
        obtain ⟨k, hk, rfl, rfl⟩ := hrel
        by_cases hlt : k < l.length
        · obtain ⟨b, off, rfl, hb, hc⟩ := Hc.out k hlt
          have Ht : Hid ((l.take (k + 1)).sum = (l.take k).sum + l.getD k 0) := take_sum l k hlt
          obtain ⟨x0, x1⟩ := Hx.out k hlt
          obtain ⟨s0, s1⟩ := Hb.out k hk
          generalize l.getD k 0 = x at *
          generalize (l.take k).sum = s at *
          have i0 : (0 : Int) ≤ k := by omega
          have i1 : (k : Int) < l.length := by omega
          go_wp2
          go_round
          case rel => exact ⟨k + 1, by omega, by go_num, by rw [Ht.out]⟩
          case measure => simp [RowKit.intOf]; omega
        · have hk2 : k = l.length := by omega
          subst hk2
          obtain ⟨s0, s1⟩ := Hb.out l.length (Nat.le_refl _)
          rw [List.take_length] at s0 s1 ⊢
          have HV : Hid (weighV l = if (if l.sum = 0 then (6 : Int) else 0) = 0 then l.sum else 0) := by unfold Hid weighV; rw [He.out]
          have HW : Hid (shE (shBad l) = shE (if l.sum = 0 then 6 else 0)) := by unfold Hid; rw [He.out]
          clear Hb Hx Hc He
          by_cases hs : l.sum = 0
          · rw [hs] at HV HW ⊢
            go_wp2
            go_ret2
            refine ⟨?_, rfl⟩
            rw [HV.out, HW.out]
            rfl
          · have hs' : (l.sum == 0) = false := by simp [hs]
            rw [if_neg hs, if_pos rfl] at HV
            rw [if_neg hs] at HW
            generalize l.sum = s at *
            go_wp2
            go_ret2
            refine ⟨?_, rfl⟩
            rw [HV.out, HW.out]
            rfl
    · rw [h2] at HC
      have e1 : shBad l = 1 := by rw [shBad_def, if_neg h1, h2]; rfl
      unfold weighV
      rw [e1]
      clear h e1 h2
      go_enter Try.func8, Try.ntmps8
      go_wp2_with (go_at_call 14; refine HC.out.mono ?_; rintro e w' ⟨rfl, hw⟩; rw [hw]; clear hw w')
      go_ret2
      exact ⟨rfl, rfl⟩

theorem part_any (T x A : Int) (w : World) (hT0 : 0 ≤ T) (hT : T < 18446744073709551616) (hx0 : 0 ≤ x) (hx : x ≤ A) (hA : 1 ≤ A) (hA2 : A < 18446744073709551616) :
    Calls Try.prog 10 #[.int .u64 T, .int .u64 x, .int .u64 A] w fun e w' => e = .returned (.tuple #[.int .u64 (T * x / A), .int .u64 (T * x % A)]) ∧ ∃ n, w' = w.drewN n := by
  have hp0 : 0 ≤ T * x := Int.mul_nonneg hT0 hx0
  have hp1 : T * x ≤ T * A := Int.mul_le_mul_of_nonneg_left hx hT0
  have hp2 : T * A < 18446744073709551616 * A := Int.mul_lt_mul_of_pos_right hT (by omega)
  have hp3 : T * x / 18446744073709551616 < A := Int.ediv_lt_of_lt_mul (by omega) (by rw [Int.mul_comm A]; omega)
  have HM : Hid (Calls _ _ _ _ _) := mul64_any T x w hT0 hT hx0 (by omega)
  have HD : Hid (Calls _ _ _ _ _) := div64_any (T * x) A w hp0 hA hA2 hp3
  clear hp1 hp2 hp3
  generalize T * x = p at *
  go_enter Try.func10, Try.ntmps10
  go_wp2_with fail
  refine HM.out.mono ?_
  rintro e w' ⟨rfl, hw⟩
  rw [hw]; clear hw w'
  go_wp2_with fail
  refine HD.out.mono ?_
  rintro e w' ⟨rfl, n, hw⟩
  rw [hw]; clear hw w'
  go_wp2
  go_ret2
  exact ⟨rfl, n, rfl⟩
end Go.Proofs.Ytojmnfckijgofaa
