/-
  The contract of money.Read.
-/
import Derived.Test.YtikifooomeikgaaGreatDoorTxt2
import Derived.Lib.AtoiErrMem
namespace Go.Proofs.YtikifooomeikgaaGreatDoor
set_option linter.unusedVariables false
set_option linter.unusedSimpArgs false
open Go.RowKit Go.Lib Math

/-- What money.Read hands back. -/
def readEnd (o : Option Int) (e : Ending) : Prop :=
  match o with
  | some n => e = .returned (.tuple #[.int .i64 n, .nilIface])
  | none => ∃ c : Int, e = .returned (.tuple #[.int .i64 0, .iface 38 (.int .i64 c)])

theorem un_le (t d : List UInt8) (p : Nat) (h : unL t p = some d) : d.length ≤ t.length := by
  unfold unL at h
  split at h
  · rw [Option.some.inj h]; exact Nat.le_refl _
  · split at h
    · rw [← Option.some.inj h]; simp; omega
    · cases h

theorem parse_any (d : List UInt8) (p : Nat) (hs : shownL d p = true) (hl : d.length ≤ 19) (w : World) :
    Calls Tryz.prog 25 #[.string (txt d), .int .i64 10, .int .i64 64] w fun e w' => e = .returned (.tuple #[.int .u64 (valA 0 d), .nilIface]) ∧ Below w.heap.size w w' := by
  simp only [shownL, Bool.and_eq_true, decide_eq_true_eq] at hs
  have h0 : d ≠ [] := by intro h; rw [h] at hs; simp at hs
  refine (shelf_strconv_ParseUint_10_at64_ok (txt d) (by rw [txt_size]; omega) (valA 0 d) (parse_all d h0 hs.2 hl) w).mono ?_
  rintro e w' ⟨rfl, h⟩
  refine ⟨rfl, ?_⟩
  rcases h with rfl | rfl
  · exact Below.refl _ _
  · exact bytesWorld_below w _ _

set_option maxHeartbeats 3200000 in
theorem read_any (l : List UInt8) (p : Nat) (hp : p ≤ 6) (hl : l.length ≤ 9223372036854775807) (w : World) :
    Calls Tryz.prog 8 #[.string (txt l), .int .i64 p] w fun e w' => readEnd (readS l p) e ∧ Below w.heap.size w w' := by
  obtain ⟨neg, hneg⟩ : ∃ b, hasPrefix l [45] = b := ⟨_, rfl⟩
  obtain ⟨t, ht⟩ : ∃ t, trimPrefix l [45] = t := ⟨_, rfl⟩
  have htl : t.length ≤ l.length := by rw [← ht]; exact trimPrefix_le _ _
  have hC : ∀ W, Calls Tryz.prog 22 #[.string (txt l), .string ⟨#[45]⟩] W fun e w' => e = .returned (.tuple #[.string (txt t), .bool neg]) ∧ w' = W := fun W => by
    refine (shelf_strings_CutPrefix (txt l) ⟨#[45]⟩ W).mono ?_
    rintro e w' ⟨rfl, rfl⟩
    refine ⟨?_, rfl⟩
    rw [← ht, ← hneg]; rfl
  have hW := withoutPoint_any t p hp (by omega)
  obtain ⟨s, hs⟩ : ∃ s, txt l = s := ⟨_, rfl⟩
  rw [hs] at hC
  rw [hs]
  unfold readS
  rw [ht, hneg]
  obtain ⟨st, hst⟩ : ∃ s, txt t = s := ⟨_, rfl⟩
  rw [hst] at hC hW
  cases hu : unL t p with
  | none =>
    rw [hu] at hW
    simp only [Option.getD_none, Option.isSome_none] at hW
    obtain ⟨sn, hsn⟩ : ∃ s, txt [] = s := ⟨_, rfl⟩
    rw [hsn] at hW
    clear hs hst ht hneg hsn hu
    go_enter Tryz.func8, Tryz.ntmps8
    go_wp2_with (first
      | (go_at_call 12; refine (places_yes p hp _).mono ?_; rintro e w' ⟨rfl, rfl⟩)
      | (go_at_call 22; refine (hC _).mono ?_; rintro e w' ⟨rfl, rfl⟩)
      | (go_at_call 23; refine (hW _).mono ?_; rintro e w' ⟨rfl, nd, rfl⟩))
    go_ret2
    exact ⟨⟨2, rfl⟩, belowN _ _ nd⟩
  | some d =>
    have hdl := un_le t d p hu
    rw [hu] at hW
    simp only [Option.getD_some, Option.isSome_some] at hW
    have hI := isShown_any d p hp (by omega)
    simp only
    obtain ⟨sd, hsd⟩ : ∃ s, txt d = s := ⟨_, rfl⟩
    have hsz : sd.size = d.length := by rw [← hsd]; exact txt_size d
    rw [hsd] at hW hI
    cases hsh : shownL d p with
    | false =>
      rw [hsh] at hI
      rw [if_neg (by simp)]
      clear hs hst ht hneg hsd hu hsh hsz
      go_enter Tryz.func8, Tryz.ntmps8
      go_wp2_with (first
        | (go_at_call 12; refine (places_yes p hp _).mono ?_; rintro e w' ⟨rfl, rfl⟩)
        | (go_at_call 22; refine (hC _).mono ?_; rintro e w' ⟨rfl, rfl⟩)
        | (go_at_call 23; refine (hW _).mono ?_; rintro e w' ⟨rfl, nd, rfl⟩)
        | (go_at_call 24; refine (hI _).mono ?_; rintro e w2 ⟨rfl, hb2⟩))
      go_ret2
      exact ⟨⟨2, rfl⟩, (belowN _ _ nd).trans hb2⟩
    | true =>
      rw [hsh] at hI
      by_cases h19 : d.length ≤ 19
      · have g19 : ¬ (19 : Int) < (sd.size : Int) := by omega
        have hP := parse_any d p hsh h19
        have hv : valA 0 d < 10000000000000000000 := by
          have hdd : d.all isDig = true := by simp only [shownL, Bool.and_eq_true] at hsh; exact hsh.2
          have h1 := valA_lt d 0 hdd
          have h2 : 10 ^ d.length ≤ 10 ^ 19 := Nat.pow_le_pow_right (by decide) h19
          have h3 : (10 : Nat) ^ 19 = 10000000000000000000 := by decide
          omega
        rw [hsd] at hP
        rw [if_pos ⟨rfl, h19⟩]
        obtain ⟨v, hv'⟩ : ∃ v, valA 0 d = v := ⟨_, rfl⟩
        rw [hv'] at hP hv
        rw [hv']
        clear hs hst ht hneg hsd hu hsh hsz hv' h19 hdl htl
        cases neg with
        | true =>
          rw [if_pos rfl]
          by_cases hv0 : v = 0
          · subst hv0
            rw [if_neg (by omega)]
            go_enter Tryz.func8, Tryz.ntmps8
            go_wp2_with (first
              | (go_at_call 12; refine (places_yes p hp _).mono ?_; rintro e w' ⟨rfl, rfl⟩)
              | (go_at_call 22; refine (hC _).mono ?_; rintro e w' ⟨rfl, rfl⟩)
              | (go_at_call 23; refine (hW _).mono ?_; rintro e w' ⟨rfl, nd, rfl⟩)
              | (go_at_call 24; refine (hI _).mono ?_; rintro e w2 ⟨rfl, hb2⟩)
              | (go_at_call 25; refine (hP _).mono ?_; rintro e w3 ⟨rfl, hb3⟩))
            go_ret2
            exact ⟨⟨2, rfl⟩, (belowN _ _ nd).trans (hb2.trans (hb3.mono hb2.size))⟩
          · have hv1 : ¬ (v : Int) = 0 := by omega
            by_cases hvl : v ≤ 9223372036854775808
            · rw [if_pos ⟨by omega, hvl⟩]
              have hS := fun W => signed_yes (v : Int) 0 W (by omega) (by omega) (by omega) (by omega) (by omega)
              rw [Int.add_zero] at hS
              go_enter Tryz.func8, Tryz.ntmps8
              go_wp2_with (first
                | (go_at_call 12; refine (places_yes p hp _).mono ?_; rintro e w' ⟨rfl, rfl⟩)
                | (go_at_call 22; refine (hC _).mono ?_; rintro e w' ⟨rfl, rfl⟩)
                | (go_at_call 23; refine (hW _).mono ?_; rintro e w' ⟨rfl, nd, rfl⟩)
                | (go_at_call 24; refine (hI _).mono ?_; rintro e w2 ⟨rfl, hb2⟩)
                | (go_at_call 25; refine (hP _).mono ?_; rintro e w3 ⟨rfl, hb3⟩)
                | (go_at_call 26; refine (hS _).mono ?_; rintro e w' ⟨rfl, rfl⟩))
              go_ret2
              exact ⟨rfl, (belowN _ _ nd).trans (hb2.trans (hb3.mono hb2.size))⟩
            · rw [if_neg (by omega)]
              have hS := fun W => signed_yes_over (v : Int) 0 W (by omega) (by omega) (by omega) (by omega) (by omega)
              go_enter Tryz.func8, Tryz.ntmps8
              go_wp2_with (first
                | (go_at_call 12; refine (places_yes p hp _).mono ?_; rintro e w' ⟨rfl, rfl⟩)
                | (go_at_call 22; refine (hC _).mono ?_; rintro e w' ⟨rfl, rfl⟩)
                | (go_at_call 23; refine (hW _).mono ?_; rintro e w' ⟨rfl, nd, rfl⟩)
                | (go_at_call 24; refine (hI _).mono ?_; rintro e w2 ⟨rfl, hb2⟩)
                | (go_at_call 25; refine (hP _).mono ?_; rintro e w3 ⟨rfl, hb3⟩)
                | (go_at_call 26; refine (hS _).mono ?_; rintro e w' ⟨rfl, rfl⟩))
              go_ret2
              exact ⟨⟨10, rfl⟩, (belowN _ _ nd).trans (hb2.trans (hb3.mono hb2.size))⟩
        | false =>
          rw [if_neg (by simp)]
          by_cases hvl : v ≤ 9223372036854775807
          · rw [if_pos hvl]
            have hS := fun W => signed_no (v : Int) 0 W (by omega) (by omega) (by omega) (by omega) (by omega)
            rw [Int.add_zero] at hS
            go_enter Tryz.func8, Tryz.ntmps8
            go_wp2_with (first
              | (go_at_call 12; refine (places_yes p hp _).mono ?_; rintro e w' ⟨rfl, rfl⟩)
              | (go_at_call 22; refine (hC _).mono ?_; rintro e w' ⟨rfl, rfl⟩)
              | (go_at_call 23; refine (hW _).mono ?_; rintro e w' ⟨rfl, nd, rfl⟩)
              | (go_at_call 24; refine (hI _).mono ?_; rintro e w2 ⟨rfl, hb2⟩)
              | (go_at_call 25; refine (hP _).mono ?_; rintro e w3 ⟨rfl, hb3⟩)
              | (go_at_call 26; refine (hS _).mono ?_; rintro e w' ⟨rfl, rfl⟩))
            go_ret2
            exact ⟨rfl, (belowN _ _ nd).trans (hb2.trans (hb3.mono hb2.size))⟩
          · rw [if_neg hvl]
            have hS := fun W => signed_no_over (v : Int) 0 W (by omega) (by omega) (by omega) (by omega) (by omega)
            go_enter Tryz.func8, Tryz.ntmps8
            go_wp2_with (first
              | (go_at_call 12; refine (places_yes p hp _).mono ?_; rintro e w' ⟨rfl, rfl⟩)
              | (go_at_call 22; refine (hC _).mono ?_; rintro e w' ⟨rfl, rfl⟩)
              | (go_at_call 23; refine (hW _).mono ?_; rintro e w' ⟨rfl, nd, rfl⟩)
              | (go_at_call 24; refine (hI _).mono ?_; rintro e w2 ⟨rfl, hb2⟩)
              | (go_at_call 25; refine (hP _).mono ?_; rintro e w3 ⟨rfl, hb3⟩)
              | (go_at_call 26; refine (hS _).mono ?_; rintro e w' ⟨rfl, rfl⟩))
            go_ret2
            exact ⟨⟨10, rfl⟩, (belowN _ _ nd).trans (hb2.trans (hb3.mono hb2.size))⟩
      · have g19 : (19 : Int) < (sd.size : Int) := by omega
        rw [if_neg (fun h => h19 h.2)]
        clear hs hst ht hneg hsd hu hsh hsz
        go_enter Tryz.func8, Tryz.ntmps8
        go_wp2_with (first
          | (go_at_call 12; refine (places_yes p hp _).mono ?_; rintro e w' ⟨rfl, rfl⟩)
          | (go_at_call 22; refine (hC _).mono ?_; rintro e w' ⟨rfl, rfl⟩)
          | (go_at_call 23; refine (hW _).mono ?_; rintro e w' ⟨rfl, nd, rfl⟩)
          | (go_at_call 24; refine (hI _).mono ?_; rintro e w2 ⟨rfl, hb2⟩))
        go_ret2
        exact ⟨⟨10, rfl⟩, (belowN _ _ nd).trans hb2⟩

theorem read_no (s : ByteArray) (p : Int) (hp : ¬ (0 ≤ p ∧ p ≤ 6)) (w : World) :
    Calls Tryz.prog 8 #[.string s, .int .i64 p] w fun e w' => e = .returned (.tuple #[.int .i64 0, .iface 38 (.int .i64 1)]) ∧ w' = w := by
  go_enter Tryz.func8, Tryz.ntmps8
  go_wp2_with (first
    | (go_at_call 12; refine (places_no p hp _).mono ?_; rintro e w' ⟨rfl, rfl⟩))
  go_ret2
  exact ⟨rfl, rfl⟩
end Go.Proofs.YtikifooomeikgaaGreatDoor
