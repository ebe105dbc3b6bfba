/-
  slices.symMergeCmpFunc: what the parts of a merge leave, ahead of its walk.
-/
import Derived.Test.YtojmnfckijgofaaSrt7
namespace Go.Proofs.Ytojmnfckijgofaa
set_option linter.unusedVariables false
set_option linter.unusedSimpArgs false
set_option maxRecDepth 100000
open Go.RowKit Go.Lib

/-- What is asked of a merge of so many numbers. -/
def SymOk (g cap cb gc ccap : Nat) (cut : List Int) (n : Nat) : Prop := ∀ (A u v Z : List Nat) (w : World), u.length + v.length = n → 0 < u.length → 0 < v.length → NRow w g (toI (A ++ (u ++ (v ++ Z)))) → (A ++ (u ++ (v ++ Z))).length ≤ 1000000 → CutAt w cb gc cut ccap → MG cut u v →
    Calls Try.prog 28 #[.slice (some ⟨g, 0, none⟩) (A ++ (u ++ (v ++ Z))).length cap, .int .i64 (A.length : Int), .int .i64 ((A.length + u.length : Nat) : Int), .int .i64 ((A.length + u.length + v.length : Nat) : Int), byF cb] w fun e w' => e = .returned (.tuple #[]) ∧ Hid (MOut cut w w' g A u v Z)

/-- Where both rows are parted. -/
structure Ctx (cut : List Int) (A u v Z : List Nat) (a m b S mid E L : Nat) : Prop where
  ha : A.length = a
  hm : a + u.length = m
  hb : m + v.length = b
  hmid : mid = (a + b) / 2
  hS : a ≤ S ∧ S ≤ m ∧ S ≤ mid ∧ mid - S ≤ v.length
  hE : E = mid + m - S
  hL : (A ++ (u ++ (v ++ Z))).length = L
  hl : L ≤ 1000000
  hu2 : 2 ≤ u.length
  hv2 : 2 ≤ v.length
  hM : MG cut u v
  hx : ∀ x ∈ u.take (S - a), ∀ y ∈ v.drop (mid - S), LT cut x y
  hy : ∀ x ∈ v.take (mid - S), ∀ y ∈ u.drop (S - a), LT cut x y
/-- Behind the turn. -/
def St1 (A u v Z : List Nat) (i j : Nat) (g : Nat) (w W : World) : Prop := NRow W g (toI (A ++ (u.take i ++ (v.take j ++ (u.drop i ++ (v.drop j ++ Z)))))) ∧ But g w W
/-- Behind the first half. -/
def St2 (cut : List Int) (A u v Z : List Nat) (i j : Nat) (g : Nat) (w W : World) : Prop := ∃ s1 : List Nat, s1.Perm (u.take i ++ v.take j) ∧ s1.Pairwise (LT cut) ∧ NRow W g (toI (A ++ (s1 ++ (u.drop i ++ (v.drop j ++ Z))))) ∧ But g w W

theorem parts_eq (u v Z : List Nat) (i j : Nat) : u ++ (v ++ Z) = u.take i ++ (u.drop i ++ (v.take j ++ (v.drop j ++ Z))) := by
  rw [← List.append_assoc (v.take j), List.take_append_drop, ← List.append_assoc (u.take i), List.take_append_drop]
theorem st1_no {A u v Z : List Nat} {i j g : Nat} {w W : World} (h : NRow W g (toI (A ++ (u ++ (v ++ Z))))) (hB : But g w W) (hn : u.length ≤ i ∨ j = 0) : St1 A u v Z i j g w W := by
  refine ⟨?_, hB⟩
  rcases hn with hn | rfl
  · rw [List.take_of_length_le hn, List.drop_eq_nil_of_le hn, List.nil_append, ← List.append_assoc (v.take j), List.take_append_drop]; exact h
  · rw [List.take_zero, List.nil_append, List.drop_zero, ← List.append_assoc (u.take i), List.take_append_drop]; exact h
theorem st1_rot {cut : List Int} {A u v Z : List Nat} {a m b S mid E L : Nat} (c : Ctx cut A u v Z a m b S mid E L) (g cap : Nat) (w W : World) (f : Value) (h : NRow W g (toI (A ++ (u ++ (v ++ Z))))) (hB : But g w W) (h1 : S < m) (h2 : S < mid) :
    Calls Try.prog 29 #[.slice (some ⟨g, 0, none⟩) L cap, .int .i64 (S : Int), .int .i64 (m : Int), .int .i64 (E : Int), f] W fun e w' => e = .returned (.tuple #[]) ∧ Hid (St1 A u v Z (S - a) (mid - S) g w w') := by
  have e0 : toI (A ++ (u ++ (v ++ Z))) = toI (A ++ u.take (S - a)) ++ (toI (u.drop (S - a)) ++ (toI (v.take (mid - S)) ++ toI (v.drop (mid - S) ++ Z))) := by
    rw [← toI_app, ← toI_app, ← toI_app, List.append_assoc, ← parts_eq]
  have hL := c.hL
  rw [← toI_len, e0] at hL
  rw [e0] at h
  have l1 : (toI (A ++ u.take (S - a))).length = S := by rw [toI_len, List.length_append, List.length_take]; have := c.ha; have := c.hm; have := c.hS; omega
  have l2 : S + (toI (u.drop (S - a))).length = m := by rw [toI_len, List.length_drop]; have := c.ha; have := c.hm; have := c.hS; omega
  have l3 : m + (toI (v.take (mid - S))).length = E := by rw [toI_len, List.length_take]; have := c.hE; have := c.hS; omega
  have hc := rotate_any g cap (toI (A ++ u.take (S - a))) (toI (u.drop (S - a))) (toI (v.take (mid - S))) (toI (v.drop (mid - S) ++ Z)) f W h (by rw [hL]; exact c.hl) (by omega) (by have := c.hE; omega)
  rw [hL, l1, l2, l3] at hc
  refine hc.mono ?_
  rintro e w' ⟨rfl, hh⟩
  obtain ⟨h3, h4⟩ := hh.out
  refine ⟨rfl, ?_, hB.trans h4⟩
  rw [← toI_app, ← toI_app, ← toI_app, List.append_assoc] at h3
  exact h3
theorem st2_no {cut : List Int} {A u v Z : List Nat} {a m b S mid E L : Nat} (c : Ctx cut A u v Z a m b S mid E L) {g : Nat} {w W : World} (h : St1 A u v Z (S - a) (mid - S) g w W) (hn : S = a ∨ S = mid) : St2 cut A u v Z (S - a) (mid - S) g w W := by
  refine ⟨u.take (S - a) ++ v.take (mid - S), List.Perm.refl _, ?_, by rw [List.append_assoc]; exact h.1, h.2⟩
  rcases hn with rfl | rfl
  · rw [Nat.sub_self, List.take_zero, List.nil_append]; exact c.hM.sv.sublist (List.take_sublist _ _)
  · rw [Nat.sub_self, List.take_zero, List.append_nil]; exact c.hM.su.sublist (List.take_sublist _ _)
theorem st2_call {cut : List Int} {A u v Z : List Nat} {a m b S mid E L : Nat} (c : Ctx cut A u v Z a m b S mid E L) {g cap cb gc ccap : Nat} (IH : ∀ k, k < u.length + v.length → SymOk g cap cb gc ccap cut k) {w W : World} (hc : CutAt w cb gc cut ccap) (n1 : cb ≠ g) (n2 : gc ≠ g) (h : St1 A u v Z (S - a) (mid - S) g w W) (h1 : a < S) (h2 : S < mid) :
    Calls Try.prog 28 #[.slice (some ⟨g, 0, none⟩) L cap, .int .i64 (a : Int), .int .i64 (S : Int), .int .i64 (mid : Int), byF cb] W fun e w' => e = .returned (.tuple #[]) ∧ Hid (St2 cut A u v Z (S - a) (mid - S) g w w') := by
  have hS := c.hS
  have hm := c.hm
  have hb := c.hb
  have hmid := c.hmid
  have hu2 := c.hu2
  have hv2 := c.hv2
  have l1 : (u.take (S - a)).length = S - a := by rw [List.length_take]; omega
  have l2 : (v.take (mid - S)).length = mid - S := by rw [List.length_take]; omega
  have hL : (A ++ (u.take (S - a) ++ (v.take (mid - S) ++ (u.drop (S - a) ++ (v.drop (mid - S) ++ Z))))).length = L := by
    rw [← c.hL]
    simp only [List.length_append, List.length_take, List.length_drop]
    omega
  have k := IH ((u.take (S - a)).length + (v.take (mid - S)).length) (by rw [l1, l2]; omega) A (u.take (S - a)) (v.take (mid - S)) (u.drop (S - a) ++ (v.drop (mid - S) ++ Z)) W rfl (by omega) (by omega) h.1 (by rw [hL]; exact c.hl) (hc.but h.2 n1 n2) (c.hM.parts (List.take_sublist _ _) (List.take_sublist _ _))
  rw [hL, l1, l2, c.ha, show a + (S - a) = S by omega, show S + (mid - S) = mid by omega] at k
  refine k.mono ?_
  rintro e w' ⟨rfl, hh⟩
  obtain ⟨s1, p1, p2, p3, p4⟩ := hh.out
  exact ⟨rfl, s1, p1, p2, p3, h.2.trans p4⟩
theorem st3_no {cut : List Int} {A u v Z : List Nat} {a m b S mid E L : Nat} (c : Ctx cut A u v Z a m b S mid E L) {g : Nat} {w W : World} (h : St2 cut A u v Z (S - a) (mid - S) g w W) (hn : S = m ∨ E = b) : MOut cut w W g A u v Z := by
  obtain ⟨s1, p1, p2, p3, p4⟩ := h
  have hm := c.hm
  have hb := c.hb
  have hE := c.hE
  have hS := c.hS
  have p5 : (u.drop (S - a) ++ v.drop (mid - S)).Pairwise (LT cut) := by
    rcases hn with hn | hn
    · rw [List.drop_eq_nil_of_le (by omega), List.nil_append]; exact c.hM.sv.sublist (List.drop_sublist _ _)
    · rw [show v.drop (mid - S) = [] from List.drop_eq_nil_of_le (by omega), List.append_nil]; exact c.hM.su.sublist (List.drop_sublist _ _)
  obtain ⟨q1, q2⟩ := halves c.hM.su c.hM.sv p1 (List.Perm.refl _) p2 p5 c.hx c.hy
  refine ⟨_, q1, q2, ?_, p4⟩
  rw [List.append_assoc, List.append_assoc]; exact p3
theorem st3_call {cut : List Int} {A u v Z : List Nat} {a m b S mid E L : Nat} (c : Ctx cut A u v Z a m b S mid E L) {g cap cb gc ccap : Nat} (IH : ∀ k, k < u.length + v.length → SymOk g cap cb gc ccap cut k) {w W : World} (hc : CutAt w cb gc cut ccap) (n1 : cb ≠ g) (n2 : gc ≠ g) (h : St2 cut A u v Z (S - a) (mid - S) g w W) (h1 : S < m) (h2 : E < b) :
    Calls Try.prog 28 #[.slice (some ⟨g, 0, none⟩) L cap, .int .i64 (mid : Int), .int .i64 (E : Int), .int .i64 (b : Int), byF cb] W fun e w' => e = .returned (.tuple #[]) ∧ Hid (MOut cut w w' g A u v Z) := by
  obtain ⟨s1, p1, p2, p3, p4⟩ := h
  have ha := c.ha
  have hm := c.hm
  have hb := c.hb
  have hE := c.hE
  have hS := c.hS
  have hmid := c.hmid
  have hu2 := c.hu2
  have hv2 := c.hv2
  have l0 : (A ++ s1).length = mid := by rw [List.length_append, p1.length_eq, List.length_append, List.length_take, List.length_take, ha]; omega
  have l1 : (u.drop (S - a)).length = m - S := by rw [List.length_drop]; omega
  have l2 : (v.drop (mid - S)).length = b - E := by rw [List.length_drop]; omega
  have e0 : A ++ (s1 ++ (u.drop (S - a) ++ (v.drop (mid - S) ++ Z))) = (A ++ s1) ++ (u.drop (S - a) ++ (v.drop (mid - S) ++ Z)) := by rw [List.append_assoc]
  rw [e0] at p3
  have hL : ((A ++ s1) ++ (u.drop (S - a) ++ (v.drop (mid - S) ++ Z))).length = L := by
    have hLL := c.hL
    rw [← hLL, List.length_append, l0]
    simp only [List.length_append, l1, l2]
    omega
  have k := IH ((u.drop (S - a)).length + (v.drop (mid - S)).length) (by rw [l1, l2]; omega) (A ++ s1) (u.drop (S - a)) (v.drop (mid - S)) Z W rfl (by omega) (by omega) p3 (by rw [hL]; exact c.hl) (hc.but p4 n1 n2) (c.hM.parts (List.drop_sublist _ _) (List.drop_sublist _ _))
  rw [hL, l0, l1, l2, show mid + (m - S) = E by omega, show E + (b - E) = b by omega] at k
  refine k.mono ?_
  rintro e w' ⟨rfl, hh⟩
  obtain ⟨s2, r1, r2, r3, r4⟩ := hh.out
  obtain ⟨q1, q2⟩ := halves c.hM.su c.hM.sv p1 r1 p2 r2 c.hx c.hy
  refine ⟨rfl, _, q1, q2, ?_, p4.trans r4⟩
  rw [List.append_assoc] at r3 ⊢
  exact r3
end Go.Proofs.Ytojmnfckijgofaa
