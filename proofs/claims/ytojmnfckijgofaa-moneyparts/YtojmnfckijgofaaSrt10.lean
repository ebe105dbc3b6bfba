/-
  The contracts of slices.stableCmpFunc and slices.SortStableFunc by money.byCut's function, up to forty numbers that rise.
-/
import Derived.Test.YtojmnfckijgofaaSrt9
import Derived.Shelf.Abstract
namespace Go.Proofs.Ytojmnfckijgofaa
set_option linter.unusedVariables false
set_option linter.unusedSimpArgs false
set_option maxRecDepth 100000
open Go.RowKit Go.Lib

/-- What sorting leaves. -/
def Sorted (cut : List Int) (w w' : World) (g : Nat) (s : List Nat) : Prop := ∃ s' : List Nat, s'.Perm s ∧ s'.Pairwise (LT cut) ∧ NRow w' g (toI s') ∧ But g w w'
/-- The first k are sorted. -/
def Half1 (cut : List Int) (w w' : World) (g k : Nat) (s : List Nat) : Prop := ∃ P : List Nat, P.Perm (s.take k) ∧ P.Pairwise (LT cut) ∧ NRow w' g (toI (P ++ s.drop k)) ∧ But g w w'
/-- Both parts are sorted. -/
def Half2 (cut : List Int) (w w' : World) (g k : Nat) (s : List Nat) : Prop := ∃ P Q : List Nat, P.Perm (s.take k) ∧ P.Pairwise (LT cut) ∧ Q.Perm (s.drop k) ∧ Q.Pairwise (LT cut) ∧ NRow w' g (toI (P ++ Q)) ∧ But g w w'

theorem half1_call (g cap cb gc ccap k : Nat) (cut : List Int) (s : List Nat) (w : World) (h : NRow w g (toI s)) (hl : s.length ≤ 1000000) (hc : CutAt w cb gc cut ccap) (h1 : cb ≠ g) (h2 : gc ≠ g) (hb : ∀ z ∈ s, z < cut.length) (hs : s.Pairwise (· < ·)) (hk0 : 0 < k) (hk : k ≤ s.length) :
    Calls Try.prog 27 #[.slice (some ⟨g, 0, none⟩) s.length cap, .int .i64 0, .int .i64 (k : Int), byF cb] w fun e w' => e = .returned (.tuple #[]) ∧ Hid (Half1 cut w w' g k s) := by
  have e0 : [] ++ (s.take k ++ s.drop k) = s := by rw [List.nil_append, List.take_append_drop]
  have hl1 : (s.take k).length = k := by rw [List.length_take]; omega
  have c := insSort_any g cap cb gc ccap cut [] (s.take k) (s.drop k) w (by rw [e0]; exact h) (by rw [e0]; exact hl) hc h1 h2 (fun z hz => hb z (List.mem_of_mem_take hz)) (hs.sublist (List.take_sublist _ _)) (by omega)
  rw [e0, hl1] at c
  simp only [List.length_nil, Nat.zero_add] at c
  refine c.mono ?_
  rintro e w' ⟨rfl, hh⟩
  obtain ⟨s', p1, p2, p3, p4⟩ := hh.out
  exact ⟨rfl, s', p1, p2, p3, p4⟩
theorem half2_call (g cap cb gc ccap k : Nat) (cut : List Int) (s : List Nat) (w W : World) (h : Half1 cut w W g k s) (hl : s.length ≤ 1000000) (hc : CutAt w cb gc cut ccap) (h1 : cb ≠ g) (h2 : gc ≠ g) (hb : ∀ z ∈ s, z < cut.length) (hs : s.Pairwise (· < ·)) (hk : k < s.length) :
    Calls Try.prog 27 #[.slice (some ⟨g, 0, none⟩) s.length cap, .int .i64 (k : Int), .int .i64 (s.length : Int), byF cb] W fun e w' => e = .returned (.tuple #[]) ∧ Hid (Half2 cut w w' g k s) := by
  obtain ⟨P, p1, p2, p3, p4⟩ := h
  have hP : P.length = k := by rw [p1.length_eq, List.length_take]; omega
  have hQ : (s.drop k).length = s.length - k := by rw [List.length_drop]
  have hl2 : (P ++ (s.drop k ++ [])).length = s.length := by rw [List.append_nil, List.length_append, hP, hQ]; omega
  have c := insSort_any g cap cb gc ccap cut P (s.drop k) [] W (by rw [List.append_nil]; exact p3) (by rw [hl2]; exact hl) (hc.but p4 h1 h2) h1 h2 (fun z hz => hb z (List.mem_of_mem_drop hz)) (hs.sublist (List.drop_sublist _ _)) (by omega)
  rw [hl2, hP, hQ, show k + (s.length - k) = s.length by omega] at c
  refine c.mono ?_
  rintro e w' ⟨rfl, hh⟩
  obtain ⟨Q, q1, q2, q3, q4⟩ := hh.out
  exact ⟨rfl, P, Q, p1, p2, q1, q2, by rw [List.append_nil] at q3; exact q3, p4.trans q4⟩
theorem whole_call (g cap cb gc ccap k : Nat) (cut : List Int) (s : List Nat) (w W : World) (h : Half2 cut w W g k s) (hl : s.length ≤ 1000000) (hc : CutAt w cb gc cut ccap) (h1 : cb ≠ g) (h2 : gc ≠ g) (hb : ∀ z ∈ s, z < cut.length) (hs : s.Pairwise (· < ·)) (hk0 : 0 < k) (hk : k < s.length) :
    Calls Try.prog 28 #[.slice (some ⟨g, 0, none⟩) s.length cap, .int .i64 0, .int .i64 (k : Int), .int .i64 (s.length : Int), byF cb] W fun e w' => e = .returned (.tuple #[]) ∧ Hid (Sorted cut w w' g s) := by
  obtain ⟨P, Q, p1, p2, q1, q2, p3, p4⟩ := h
  have hP : P.length = k := by rw [p1.length_eq, List.length_take]; omega
  have hQ : Q.length = s.length - k := by rw [q1.length_eq, List.length_drop]
  have hl2 : ([] ++ (P ++ (Q ++ []))).length = s.length := by rw [List.nil_append, List.append_nil, List.length_append, hP, hQ]; omega
  have hM : MG cut P Q := by
    refine ⟨p2, q2, fun x hx y hy => ?_, fun z hz => hb z (List.mem_of_mem_take (p1.mem_iff.1 hz)), fun z hz => hb z (List.mem_of_mem_drop (q1.mem_iff.1 hz))⟩
    have hp := hs
    rw [← List.take_append_drop k s] at hp
    exact (List.pairwise_append.1 hp).2.2 x (p1.mem_iff.1 hx) y (q1.mem_iff.1 hy)
  have c := sym_any g cap cb gc ccap cut h1 h2 (P.length + Q.length) [] P Q [] W rfl (by omega) (by omega) (by rw [List.append_nil]; exact p3) (by rw [hl2]; exact hl) (hc.but p4 h1 h2) hM
  rw [hl2, hP, hQ] at c
  simp only [List.length_nil, Nat.zero_add] at c
  rw [show k + (s.length - k) = s.length by omega] at c
  refine c.mono ?_
  rintro e w' ⟨rfl, hh⟩
  obtain ⟨s', r1, r2, r3, r4⟩ := hh.out
  refine ⟨rfl, s', r1.trans ((p1.append q1).trans (by rw [List.take_append_drop])), r2, by rw [List.append_nil] at r3; exact r3, p4.trans r4⟩
theorem Half1.all {cut : List Int} {w w' : World} {g : Nat} {s : List Nat} (h : Half1 cut w w' g s.length s) : Sorted cut w w' g s := by
  obtain ⟨P, p1, p2, p3, p4⟩ := h
  rw [List.take_length] at p1
  rw [List.drop_length, List.append_nil] at p3
  exact ⟨P, p1, p2, p3, p4⟩

set_option maxHeartbeats 2000000 in
theorem stable_any (g cap cb gc ccap : Nat) (cut : List Int) (s : List Nat) (w : World) (h : NRow w g (toI s)) (hn0 : 0 < s.length) (hn : s.length ≤ 40) (hc : CutAt w cb gc cut ccap) (h1 : cb ≠ g) (h2 : gc ≠ g) (hb : ∀ z ∈ s, z < cut.length) (hs : s.Pairwise (· < ·)) :
    Calls Try.prog 24 #[.slice (some ⟨g, 0, none⟩) s.length cap, .int .i64 (s.length : Int), byF cb] w fun e w' => e = .returned (.tuple #[]) ∧ Hid (Sorted cut w w' g s) := by
  have hl : s.length ≤ 1000000 := by omega
  have HC1 : Hid (∀ k, 0 < k → k ≤ s.length → Calls Try.prog 27 #[.slice (some ⟨g, 0, none⟩) s.length cap, .int .i64 0, .int .i64 (k : Int), byF cb] w fun e w' => e = .returned (.tuple #[]) ∧ Hid (Half1 cut w w' g k s)) := fun k k0 k1 => half1_call g cap cb gc ccap k cut s w h hl hc h1 h2 hb hs k0 k1
  have HC2 : Hid (∀ k W, Half1 cut w W g k s → k < s.length → Calls Try.prog 27 #[.slice (some ⟨g, 0, none⟩) s.length cap, .int .i64 (k : Int), .int .i64 (s.length : Int), byF cb] W fun e w' => e = .returned (.tuple #[]) ∧ Hid (Half2 cut w w' g k s)) := fun k W hW k1 => half2_call g cap cb gc ccap k cut s w W hW hl hc h1 h2 hb hs k1
  have HC3 : Hid (∀ k W, Half2 cut w W g k s → 0 < k → k < s.length → Calls Try.prog 28 #[.slice (some ⟨g, 0, none⟩) s.length cap, .int .i64 0, .int .i64 (k : Int), .int .i64 (s.length : Int), byF cb] W fun e w' => e = .returned (.tuple #[]) ∧ Hid (Sorted cut w w' g s)) := fun k W hW k0 k1 => whole_call g cap cb gc ccap k cut s w W hW hl hc h1 h2 hb hs k0 k1
  have HC4 : Hid (∀ (a : Nat) (W : World), a ≤ 1000000 → Calls Try.prog 27 #[.slice (some ⟨g, 0, none⟩) s.length cap, .int .i64 (a : Int), .int .i64 (a : Int), byF cb] W fun e w' => e = .returned (.tuple #[]) ∧ w' = W) := fun a W ha => insSort_none g cap s.length a (byF cb) W ha
  have HSo : Hid (∀ W, Half1 cut w W g s.length s → Sorted cut w W g s) := fun W hW => hW.all
  generalize s.length = n at *
  clear h hc h1 h2 hb hs
  by_cases c1 : n < 20
  · have i1 : ¬ (20 : Int) ≤ n := by omega
    have i2 : ¬ (20 : Int) < n := by omega
    have HCC : Hid (Calls _ _ _ _ _) := HC1.out n hn0 (Nat.le_refl _)
    go_enter Try.func24, Try.ntmps24
    go_wp2
    refine wp_loop_rounds 1 ?_
    rw [rounds_succ]
    go_wp2_with fail
    refine HCC.out.mono ?_
    rintro e w1 ⟨rfl, hh⟩
    go_wp2_with fail
    refine wp_loop_rounds 1 ?_
    rw [rounds_succ]
    go_wp2
    go_end0
    exact ⟨rfl, HSo.out w1 hh.out⟩
  · have i1 : (20 : Int) ≤ n := by omega
    have HCC : Hid (Calls _ _ _ _ _) := HC1.out 20 (by omega) (by omega)
    by_cases c2 : n = 20
    · subst c2
      go_enter Try.func24, Try.ntmps24
      go_wp2
      refine wp_loop_rounds 2 ?_
      rw [rounds_succ]
      go_wp2_with fail
      refine HCC.out.mono ?_
      rintro e w1 ⟨rfl, hh⟩
      have HCD : Hid (Calls _ _ _ _ _) := HC4.out 20 w1 (by omega)
      go_wp2_with fail
      rw [rounds_succ]
      go_wp2_with fail
      refine HCD.out.mono ?_
      rintro e w2 ⟨rfl, hw⟩
      rw [hw]; clear hw w2
      go_wp2_with fail
      refine wp_loop_rounds 1 ?_
      rw [rounds_succ]
      go_wp2
      go_end0
      exact ⟨rfl, HSo.out w1 hh.out⟩
    · by_cases c3 : n < 40
      · have i2 : ¬ (40 : Int) ≤ n := by omega
        have i3 : (20 : Int) < n := by omega
        have i4 : ¬ (40 : Int) < n := by omega
        go_enter Try.func24, Try.ntmps24
        go_wp2
        refine wp_loop_rounds 2 ?_
        rw [rounds_succ]
        go_wp2_with fail
        refine HCC.out.mono ?_
        rintro e w1 ⟨rfl, hh⟩
        have HCD : Hid (Calls _ _ _ _ _) := HC2.out 20 w1 hh.out (by omega)
        go_wp2_with fail
        rw [rounds_succ]
        go_wp2_with fail
        refine HCD.out.mono ?_
        rintro e w2 ⟨rfl, hh2⟩
        have HCE : Hid (Calls _ _ _ _ _) := HC3.out 20 w2 hh2.out (by omega) (by omega)
        go_wp2_with fail
        refine wp_loop_rounds 2 ?_
        rw [rounds_succ]
        go_wp2_with fail
        refine wp_loop_rounds 1 ?_
        rw [rounds_succ]
        go_wp2_with fail
        refine HCE.out.mono ?_
        rintro e w3 ⟨rfl, hh3⟩
        go_wp2_with fail
        rw [rounds_succ]
        go_wp2
        go_end0
        exact ⟨rfl, hh3⟩
      · have e4 : n = 40 := by omega
        subst e4
        go_enter Try.func24, Try.ntmps24
        go_wp2
        refine wp_loop_rounds 3 ?_
        rw [rounds_succ]
        go_wp2_with fail
        refine HCC.out.mono ?_
        rintro e w1 ⟨rfl, hh⟩
        have HCD : Hid (Calls _ _ _ _ _) := HC2.out 20 w1 hh.out (by omega)
        go_wp2_with fail
        rw [rounds_succ]
        go_wp2_with fail
        refine HCD.out.mono ?_
        rintro e w2 ⟨rfl, hh2⟩
        have HCE : Hid (Calls _ _ _ _ _) := HC3.out 20 w2 hh2.out (by omega) (by omega)
        have HCF : Hid (Calls _ _ _ _ _) := HC4.out 40 w2 (by omega)
        go_wp2_with fail
        rw [rounds_succ]
        go_wp2_with fail
        refine HCF.out.mono ?_
        rintro e w5 ⟨rfl, hw⟩
        rw [hw]; clear hw w5
        go_wp2_with fail
        refine wp_loop_rounds 2 ?_
        rw [rounds_succ]
        go_wp2_with fail
        refine wp_loop_rounds 2 ?_
        rw [rounds_succ]
        go_wp2_with fail
        refine HCE.out.mono ?_
        rintro e w3 ⟨rfl, hh3⟩
        go_wp2_with fail
        rw [rounds_succ]
        go_wp2_with fail
        rw [rounds_succ]
        go_wp2
        go_end0
        exact ⟨rfl, hh3⟩

theorem sortStable_any (g cap cb gc ccap : Nat) (cut : List Int) (s : List Nat) (w : World) (h : NRow w g (toI s)) (hn0 : 0 < s.length) (hn : s.length ≤ 40) (hc : CutAt w cb gc cut ccap) (h1 : cb ≠ g) (h2 : gc ≠ g) (hb : ∀ z ∈ s, z < cut.length) (hs : s.Pairwise (· < ·)) :
    Calls Try.prog 19 #[.slice (some ⟨g, 0, none⟩) s.length cap, byF cb] w fun e w' => e = .returned (.tuple #[]) ∧ Hid (Sorted cut w w' g s) := by
  have HC : Hid (Calls _ _ _ _ _) := stable_any g cap cb gc ccap cut s w h hn0 hn hc h1 h2 hb hs
  clear h hc h1 h2 hb hs
  generalize s.length = n at *
  go_enter Try.func19, Try.ntmps19
  go_wp2_with fail
  refine HC.out.mono ?_
  rintro e w1 ⟨rfl, hh⟩
  go_wp2
  go_end0
  exact ⟨rfl, hh⟩
end Go.Proofs.Ytojmnfckijgofaa
