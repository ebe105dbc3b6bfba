/-
  The contract of money.Show.
-/
import Derived.Test.YtikifooomeikgaaGreatDoorFmt
import Derived.Test.YtikifooomeikgaaGreatDoorSigns
import Derived.Test.YtikifooomeikgaaGreatDoorNum
namespace Go.Proofs.YtikifooomeikgaaGreatDoor
set_option linter.unusedVariables false
set_option linter.unusedSimpArgs false
open Go.RowKit Go.Lib Math

theorem places_yes (p : Nat) (hp : p ≤ 6) (w : World) :
    Calls Tryz.prog 12 #[.int .i64 p] w fun e w' => e = .returned (.bool true) ∧ w' = w := by
  refine (arePlaces_any p w).mono ?_
  rintro e w' ⟨rfl, rfl⟩
  refine ⟨?_, rfl⟩
  rw [decide_eq_true (by omega), decide_eq_true (by omega)]; rfl

theorem places_no (p : Int) (hp : ¬ (0 ≤ p ∧ p ≤ 6)) (w : World) :
    Calls Tryz.prog 12 #[.int .i64 p] w fun e w' => e = .returned (.bool false) ∧ w' = w := by
  refine (arePlaces_any p w).mono ?_
  rintro e w' ⟨rfl, rfl⟩
  refine ⟨?_, rfl⟩
  by_cases h : 0 ≤ p
  · rw [decide_eq_true h, decide_eq_false (fun h' => hp ⟨h, h'⟩)]; rfl
  · rw [decide_eq_false h]; rfl

theorem size_nat (a : Int) (h1 : -9223372036854775808 ≤ a) (h2 : a ≤ 9223372036854775807) (w : World) :
    Calls Tryz.prog 14 #[.int .i64 a] w fun e w' => e = .returned (.int .u64 (a.natAbs : Int)) ∧ w' = w := by
  refine (size_any a w h1 h2).mono ?_
  rintro e w' ⟨rfl, rfl⟩
  refine ⟨ret_int ?_, rfl⟩
  unfold absI
  split <;> omega

theorem belowN (B : Nat) (w : World) (n : Nat) : Below B w (w.drewN n) := ⟨rfl, rfl, rfl, Nat.le_refl _, fun _ _ => rfl⟩

theorem rep_list (c : Nat) : Lib.repeatL [48] c = List.replicate c 48 := by
  induction c with
  | zero => rfl
  | succ c ih => rw [List.replicate_succ, ← ih]; rfl

theorem repeat_zero (c : Nat) (hc : c ≤ 7) (w : World) :
    Calls Tryz.prog 15 #[.string (txt [48]), .int .i64 c] w fun e w' => e = .returned (.string (txt (List.replicate c 48))) ∧ Below w.heap.size w w' := by
  refine (shelf_strings_Repeat (txt [48]) c w (by omega) (by rw [txt_size]; simp; omega)).mono ?_
  rintro e w' ⟨rfl, hb⟩
  refine ⟨?_, hb⟩
  rw [txt_list, rep_list]; rfl

set_option maxHeartbeats 3200000 in
theorem show_any (a : Int) (p : Nat) (h1 : -9223372036854775808 ≤ a) (h2 : a ≤ 9223372036854775807) (hp : p ≤ 6) (w : World) (htab : Lib.TabIs Tryz.prog w powName .u64 Lib.pow10Tab) :
    Calls Tryz.prog 5 #[.int .i64 a, .int .i64 p] w fun e w' => e = .returned (.tuple #[.string (txt (showS a p)), .nilIface]) ∧ Below w.heap.size w w' := by
  obtain ⟨u, hu⟩ : ∃ u, a.natAbs = u := ⟨_, rfl⟩
  have hsz := size_nat a h1 h2
  have hf := formatUint_any u (by omega) w htab
  have hn : nDigits u ≤ 19 := dec_few u 19 (by decide) (by have : (10 : Nat) ^ 19 = 10000000000000000000 := by decide
                                                           omega)
  have hn1 := nDigits_pos u
  have hdl := decDigits_length u
  have hpl := pad_length p (decDigits u)
  obtain ⟨c, hc⟩ : ∃ c, p + 1 - (decDigits u).length = c := ⟨_, rfl⟩
  have hc7 : c ≤ 7 := by omega
  have hR := repeat_zero c hc7
  have hmx : max (0 : Int) ((p : Int) + 1 - ((txt (decDigits u)).size : Int)) = c := by rw [txt_size]; omega
  have hA := run_app (List.replicate c 48) (decDigits u) (by rw [List.length_replicate]; omega)
  have ep : List.replicate c 48 ++ decDigits u = padTo p (decDigits u) := by rw [← hc]; rfl
  rw [ep] at hA
  have hW := withPoint_any (padTo p (decDigits u)) p (by omega) hp (by omega)
  have hM := run_app [45] (pointL (padTo p (decDigits u)) p) (by
    have : (pointL (padTo p (decDigits u)) p).length ≤ (padTo p (decDigits u)).length + 1 := by
      unfold pointL; split
      · omega
      · simp; omega
    simp only [List.length_cons, List.length_nil]; omega)
  have hsz20 : ((txt (decDigits u)).size : Int) ≤ 19 := by rw [txt_size]; omega
  have hsh : showS a p = if a < 0 then [45] ++ pointL (padTo p (decDigits u)) p else pointL (padTo p (decDigits u)) p := by
    unfold showS; rw [hu]; rfl
  rw [hsh]
  rw [hu] at hsz
  have hf' : Calls Tryz.prog 13 #[.int .u64 u, .int .i64 10] w fun e w' => e = .returned (.string (txt (decDigits u))) ∧ Below w.heap.size w w' := hf
  have e45 : txt [45] = ⟨#[45]⟩ := rfl
  have e48 : txt [48] = ⟨#[48]⟩ := rfl
  rw [e45] at hM
  rw [e48] at hR
  obtain ⟨sD, hsD⟩ : ∃ s, txt (decDigits u) = s := ⟨_, rfl⟩
  obtain ⟨sR, hsR⟩ : ∃ s, txt (List.replicate c 48) = s := ⟨_, rfl⟩
  obtain ⟨sP, hsP⟩ : ∃ s, txt (padTo p (decDigits u)) = s := ⟨_, rfl⟩
  obtain ⟨sT, hsT⟩ : ∃ s, txt (pointL (padTo p (decDigits u)) p) = s := ⟨_, rfl⟩
  obtain ⟨sM, hsM⟩ : ∃ s, txt ([45] ++ pointL (padTo p (decDigits u)) p) = s := ⟨_, rfl⟩
  have hfin : txt (if a < 0 then [45] ++ pointL (padTo p (decDigits u)) p else pointL (padTo p (decDigits u)) p) = if a < 0 then sM else sT := by
    split
    · exact hsM
    · exact hsT
  rw [hfin]
  rw [hsD] at hf' hmx hA hsz20; rw [hsR] at hR hA; rw [hsP] at hA hW; rw [hsT] at hW hM; rw [hsM] at hM
  clear hfin hsh hf hsD hsR hsP hsT hsM ep e45 e48 hdl hpl hn hn1 hc hu htab
  by_cases hneg : a < 0
  · rw [if_pos hneg]
    go_enter Tryz.func5, Tryz.ntmps5
    go_wp2_with (first
      | (go_at_call 12; refine (places_yes p hp _).mono ?_; rintro e w' ⟨rfl, rfl⟩)
      | (go_at_call 14; refine (hsz _).mono ?_; rintro e w' ⟨rfl, rfl⟩)
      | (go_at_call 13; refine hf'.mono ?_; rintro e w1 ⟨rfl, hb1⟩)
      | (go_at_call 15; refine (hR _).mono ?_; rintro e w2 ⟨rfl, hb2⟩)
      | (go_at_call 16; refine (hW _).mono ?_; rintro e w3 ⟨rfl, nd, rfl⟩))
    go_ret2
    exact ⟨rfl, hb1.trans ((hb2.mono hb1.size).trans (belowN _ _ nd))⟩
  · rw [if_neg hneg]
    go_enter Tryz.func5, Tryz.ntmps5
    go_wp2_with (first
      | (go_at_call 12; refine (places_yes p hp _).mono ?_; rintro e w' ⟨rfl, rfl⟩)
      | (go_at_call 14; refine (hsz _).mono ?_; rintro e w' ⟨rfl, rfl⟩)
      | (go_at_call 13; refine hf'.mono ?_; rintro e w1 ⟨rfl, hb1⟩)
      | (go_at_call 15; refine (hR _).mono ?_; rintro e w2 ⟨rfl, hb2⟩)
      | (go_at_call 16; refine (hW _).mono ?_; rintro e w3 ⟨rfl, nd, rfl⟩))
    go_ret2
    exact ⟨rfl, hb1.trans ((hb2.mono hb1.size).trans (belowN _ _ nd))⟩

theorem show_no (a p : Int) (hp : ¬ (0 ≤ p ∧ p ≤ 6)) (w : World) :
    Calls Tryz.prog 5 #[.int .i64 a, .int .i64 p] w fun e w' => e = .returned (.tuple #[.string (txt []), .iface 38 (.int .i64 1)]) ∧ w' = w := by
  go_enter Tryz.func5, Tryz.ntmps5
  go_wp2_with (first
    | (go_at_call 12; refine (places_no p hp _).mono ?_; rintro e w' ⟨rfl, rfl⟩))
  go_ret2
  exact ⟨rfl, rfl⟩
end Go.Proofs.YtikifooomeikgaaGreatDoor
