/-
  The contract of money.byCut: the numbers of the parts, those of which most was cut off first.
-/
import Derived.Test.YtiolkeipgpkbmaaGreatDoorZg1
import Derived.Shelf.Abstract
import Derived.Deep.Cut
import Derived.Deep.OwnRows
import Derived.Below
namespace Go.Proofs.YtiolkeipgpkbmaaGreatDoor
set_option linter.unusedVariables false
set_option linter.unusedSimpArgs false
set_option maxRecDepth 100000
open Go.RowKit Go.Lib

/-- What is asked of a merge of so many numbers. -/
def SymOk (g cap cb gc ccap : Nat) (cut : List Int) (n : Nat) : Prop := ∀ (A u v Z : List Nat) (w : World), u.length + v.length = n → 0 < u.length → 0 < v.length → NRow w g (toI (A ++ (u ++ (v ++ Z)))) → (A ++ (u ++ (v ++ Z))).length ≤ 1000000 → CutAt w cb gc cut ccap → MG cut u v →
    Calls Tryz.prog 142 #[.slice (some ⟨g, 0, none⟩) (A ++ (u ++ (v ++ Z))).length cap, .int .i64 (A.length : Int), .int .i64 ((A.length + u.length : Nat) : Int), .int .i64 ((A.length + u.length + v.length : Nat) : Int), byF cb] w fun e w' => e = .returned (.tuple #[]) ∧ Hid (MOut cut w w' g A u v Z)

/-- Where both rows are parted. -/
structure Ctx (cut : List Int) (A u v Z : List Nat) (a m b S mid E L : Nat) : Prop where
  ha : A.length = a
  hm : a + u.length = m
  hb : m + v.length = b
  hmid : mid = (a + b) / 2
  hS : a ≤ S ∧ S ≤ m ∧ S ≤ mid ∧ mid - S ≤ v.length
  hE : E = mid + m - S
  hL : (A ++ (u ++ (v ++ Z))).length = L
  hl : L ≤ 1000000
  hu2 : 2 ≤ u.length
  hv2 : 2 ≤ v.length
  hM : MG cut u v
  hx : ∀ x ∈ u.take (S - a), ∀ y ∈ v.drop (mid - S), LT cut x y
  hy : ∀ x ∈ v.take (mid - S), ∀ y ∈ u.drop (S - a), LT cut x y
/-- Behind the turn. -/
def St1 (A u v Z : List Nat) (i j : Nat) (g : Nat) (w W : World) : Prop := NRow W g (toI (A ++ (u.take i ++ (v.take j ++ (u.drop i ++ (v.drop j ++ Z)))))) ∧ But g w W
/-- Behind the first half. -/
def St2 (cut : List Int) (A u v Z : List Nat) (i j : Nat) (g : Nat) (w W : World) : Prop := ∃ s1 : List Nat, s1.Perm (u.take i ++ v.take j) ∧ s1.Pairwise (LT cut) ∧ NRow W g (toI (A ++ (s1 ++ (u.drop i ++ (v.drop j ++ Z))))) ∧ But g w W

theorem parts_eq (u v Z : List Nat) (i j : Nat) : u ++ (v ++ Z) = u.take i ++ (u.drop i ++ (v.take j ++ (v.drop j ++ Z))) := by
  rw [← List.append_assoc (v.take j), List.take_append_drop, ← List.append_assoc (u.take i), List.take_append_drop]
theorem st1_no {A u v Z : List Nat} {i j g : Nat} {w W : World} (h : NRow W g (toI (A ++ (u ++ (v ++ Z))))) (hB : But g w W) (hn : u.length ≤ i ∨ j = 0) : St1 A u v Z i j g w W := by
  refine ⟨?_, hB⟩
  rcases hn with hn | rfl
  · rw [List.take_of_length_le hn, List.drop_eq_nil_of_le hn, List.nil_append, ← List.append_assoc (v.take j), List.take_append_drop]; exact h
  · rw [List.take_zero, List.nil_append, List.drop_zero, ← List.append_assoc (u.take i), List.take_append_drop]; exact h
theorem st1_rot {cut : List Int} {A u v Z : List Nat} {a m b S mid E L : Nat} (c : Ctx cut A u v Z a m b S mid E L) (g cap : Nat) (w W : World) (f : Value) (h : NRow W g (toI (A ++ (u ++ (v ++ Z))))) (hB : But g w W) (h1 : S < m) (h2 : S < mid) :
    Calls Tryz.prog 146 #[.slice (some ⟨g, 0, none⟩) L cap, .int .i64 (S : Int), .int .i64 (m : Int), .int .i64 (E : Int), f] W fun e w' => e = .returned (.tuple #[]) ∧ Hid (St1 A u v Z (S - a) (mid - S) g w w') := by
  have e0 : toI (A ++ (u ++ (v ++ Z))) = toI (A ++ u.take (S - a)) ++ (toI (u.drop (S - a)) ++ (toI (v.take (mid - S)) ++ toI (v.drop (mid - S) ++ Z))) := by
    rw [← toI_app, ← toI_app, ← toI_app, List.append_assoc, ← parts_eq]
  have hL := c.hL
  rw [← toI_len, e0] at hL
  rw [e0] at h
  have l1 : (toI (A ++ u.take (S - a))).length = S := by rw [toI_len, List.length_append, List.length_take]; have := c.ha; have := c.hm; have := c.hS; omega
  have l2 : S + (toI (u.drop (S - a))).length = m := by rw [toI_len, List.length_drop]; have := c.ha; have := c.hm; have := c.hS; omega
  have l3 : m + (toI (v.take (mid - S))).length = E := by rw [toI_len, List.length_take]; have := c.hE; have := c.hS; omega
  have hc := rotate_any g cap (toI (A ++ u.take (S - a))) (toI (u.drop (S - a))) (toI (v.take (mid - S))) (toI (v.drop (mid - S) ++ Z)) f W h (by rw [hL]; exact c.hl) (by omega) (by have := c.hE; omega)
  rw [hL, l1, l2, l3] at hc
  refine hc.mono ?_
  rintro e w' ⟨rfl, hh⟩
  obtain ⟨h3, h4⟩ := hh.out
  refine ⟨rfl, ?_, hB.trans h4⟩
  rw [← toI_app, ← toI_app, ← toI_app, List.append_assoc] at h3
  exact h3
theorem st2_no {cut : List Int} {A u v Z : List Nat} {a m b S mid E L : Nat} (c : Ctx cut A u v Z a m b S mid E L) {g : Nat} {w W : World} (h : St1 A u v Z (S - a) (mid - S) g w W) (hn : S = a ∨ S = mid) : St2 cut A u v Z (S - a) (mid - S) g w W := by
  refine ⟨u.take (S - a) ++ v.take (mid - S), List.Perm.refl _, ?_, by rw [List.append_assoc]; exact h.1, h.2⟩
  rcases hn with rfl | rfl
  · rw [Nat.sub_self, List.take_zero, List.nil_append]; exact c.hM.sv.sublist (List.take_sublist _ _)
  · rw [Nat.sub_self, List.take_zero, List.append_nil]; exact c.hM.su.sublist (List.take_sublist _ _)
theorem st2_call {cut : List Int} {A u v Z : List Nat} {a m b S mid E L : Nat} (c : Ctx cut A u v Z a m b S mid E L) {g cap cb gc ccap : Nat} (IH : ∀ k, k < u.length + v.length → SymOk g cap cb gc ccap cut k) {w W : World} (hc : CutAt w cb gc cut ccap) (n1 : cb ≠ g) (n2 : gc ≠ g) (h : St1 A u v Z (S - a) (mid - S) g w W) (h1 : a < S) (h2 : S < mid) :
    Calls Tryz.prog 142 #[.slice (some ⟨g, 0, none⟩) L cap, .int .i64 (a : Int), .int .i64 (S : Int), .int .i64 (mid : Int), byF cb] W fun e w' => e = .returned (.tuple #[]) ∧ Hid (St2 cut A u v Z (S - a) (mid - S) g w w') := by
  have hS := c.hS
  have hm := c.hm
  have hb := c.hb
  have hmid := c.hmid
  have hu2 := c.hu2
  have hv2 := c.hv2
  have l1 : (u.take (S - a)).length = S - a := by rw [List.length_take]; omega
  have l2 : (v.take (mid - S)).length = mid - S := by rw [List.length_take]; omega
  have hL : (A ++ (u.take (S - a) ++ (v.take (mid - S) ++ (u.drop (S - a) ++ (v.drop (mid - S) ++ Z))))).length = L := by
    rw [← c.hL]
    simp only [List.length_append, List.length_take, List.length_drop]
    omega
  have k := IH ((u.take (S - a)).length + (v.take (mid - S)).length) (by rw [l1, l2]; omega) A (u.take (S - a)) (v.take (mid - S)) (u.drop (S - a) ++ (v.drop (mid - S) ++ Z)) W rfl (by omega) (by omega) h.1 (by rw [hL]; exact c.hl) (hc.but h.2 n1 n2) (c.hM.parts (List.take_sublist _ _) (List.take_sublist _ _))
  rw [hL, l1, l2, c.ha, show a + (S - a) = S by omega, show S + (mid - S) = mid by omega] at k
  refine k.mono ?_
  rintro e w' ⟨rfl, hh⟩
  obtain ⟨s1, p1, p2, p3, p4⟩ := hh.out
  exact ⟨rfl, s1, p1, p2, p3, h.2.trans p4⟩
theorem st3_no {cut : List Int} {A u v Z : List Nat} {a m b S mid E L : Nat} (c : Ctx cut A u v Z a m b S mid E L) {g : Nat} {w W : World} (h : St2 cut A u v Z (S - a) (mid - S) g w W) (hn : S = m ∨ E = b) : MOut cut w W g A u v Z := by
  obtain ⟨s1, p1, p2, p3, p4⟩ := h
  have hm := c.hm
  have hb := c.hb
  have hE := c.hE
  have hS := c.hS
  have p5 : (u.drop (S - a) ++ v.drop (mid - S)).Pairwise (LT cut) := by
    rcases hn with hn | hn
    · rw [List.drop_eq_nil_of_le (by omega), List.nil_append]; exact c.hM.sv.sublist (List.drop_sublist _ _)
    · rw [show v.drop (mid - S) = [] from List.drop_eq_nil_of_le (by omega), List.append_nil]; exact c.hM.su.sublist (List.drop_sublist _ _)
  obtain ⟨q1, q2⟩ := halves c.hM.su c.hM.sv p1 (List.Perm.refl _) p2 p5 c.hx c.hy
  refine ⟨_, q1, q2, ?_, p4⟩
  rw [List.append_assoc, List.append_assoc]; exact p3
theorem st3_call {cut : List Int} {A u v Z : List Nat} {a m b S mid E L : Nat} (c : Ctx cut A u v Z a m b S mid E L) {g cap cb gc ccap : Nat} (IH : ∀ k, k < u.length + v.length → SymOk g cap cb gc ccap cut k) {w W : World} (hc : CutAt w cb gc cut ccap) (n1 : cb ≠ g) (n2 : gc ≠ g) (h : St2 cut A u v Z (S - a) (mid - S) g w W) (h1 : S < m) (h2 : E < b) :
    Calls Tryz.prog 142 #[.slice (some ⟨g, 0, none⟩) L cap, .int .i64 (mid : Int), .int .i64 (E : Int), .int .i64 (b : Int), byF cb] W fun e w' => e = .returned (.tuple #[]) ∧ Hid (MOut cut w w' g A u v Z) := by
  obtain ⟨s1, p1, p2, p3, p4⟩ := h
  have ha := c.ha
  have hm := c.hm
  have hb := c.hb
  have hE := c.hE
  have hS := c.hS
  have hmid := c.hmid
  have hu2 := c.hu2
  have hv2 := c.hv2
  have l0 : (A ++ s1).length = mid := by rw [List.length_append, p1.length_eq, List.length_append, List.length_take, List.length_take, ha]; omega
  have l1 : (u.drop (S - a)).length = m - S := by rw [List.length_drop]; omega
  have l2 : (v.drop (mid - S)).length = b - E := by rw [List.length_drop]; omega
  have e0 : A ++ (s1 ++ (u.drop (S - a) ++ (v.drop (mid - S) ++ Z))) = (A ++ s1) ++ (u.drop (S - a) ++ (v.drop (mid - S) ++ Z)) := by rw [List.append_assoc]
  rw [e0] at p3
  have hL : ((A ++ s1) ++ (u.drop (S - a) ++ (v.drop (mid - S) ++ Z))).length = L := by
    have hLL := c.hL
    rw [← hLL, List.length_append, l0]
    simp only [List.length_append, l1, l2]
    omega
  have k := IH ((u.drop (S - a)).length + (v.drop (mid - S)).length) (by rw [l1, l2]; omega) (A ++ s1) (u.drop (S - a)) (v.drop (mid - S)) Z W rfl (by omega) (by omega) p3 (by rw [hL]; exact c.hl) (hc.but p4 n1 n2) (c.hM.parts (List.drop_sublist _ _) (List.drop_sublist _ _))
  rw [hL, l0, l1, l2, show mid + (m - S) = E by omega, show E + (b - E) = b by omega] at k
  refine k.mono ?_
  rintro e w' ⟨rfl, hh⟩
  obtain ⟨s2, r1, r2, r3, r4⟩ := hh.out
  obtain ⟨q1, q2⟩ := halves c.hM.su c.hM.sv p1 r1 p2 r2 c.hx c.hy
  refine ⟨rfl, _, q1, q2, ?_, p4.trans r4⟩
  rw [List.append_assoc] at r3 ⊢
  exact r3
end Go.Proofs.YtiolkeipgpkbmaaGreatDoor

namespace Go.Proofs.YtiolkeipgpkbmaaGreatDoor
set_option linter.unusedVariables false
set_option linter.unusedSimpArgs false
set_option maxRecDepth 100000
open Go.RowKit Go.Lib

set_option maxHeartbeats 16000000 in
theorem sym_step (g cap cb gc ccap : Nat) (cut : List Int) (A u v Z : List Nat) (w : World) (IH : ∀ k, k < u.length + v.length → SymOk g cap cb gc ccap cut k) (hu2 : 2 ≤ u.length) (hv2 : 2 ≤ v.length) (h : NRow w g (toI (A ++ (u ++ (v ++ Z))))) (hl : (A ++ (u ++ (v ++ Z))).length ≤ 1000000) (hc : CutAt w cb gc cut ccap) (h1 : cb ≠ g) (h2 : gc ≠ g) (hM : MG cut u v) :
    Calls Tryz.prog 142 #[.slice (some ⟨g, 0, none⟩) (A ++ (u ++ (v ++ Z))).length cap, .int .i64 (A.length : Int), .int .i64 ((A.length + u.length : Nat) : Int), .int .i64 ((A.length + u.length + v.length : Nat) : Int), byF cb] w fun e w' => e = .returned (.tuple #[]) ∧ Hid (MOut cut w w' g A u v Z) := by
  have HR : Hid (NRow w g (toI (A ++ (u ++ (v ++ Z))))) := h
  have HCu : Hid (∀ W, But g w W → ∀ x y, x < cut.length → y < cut.length → Calls Tryz.prog 104 #[.int .i64 (x : Int), .int .i64 (y : Int), .pointer (some ⟨cb, 0, none⟩)] W fun e w' => e = .returned (.int .i64 (cutC cut x y)) ∧ ∃ k, w' = W.drewN k) := fun W hW x y hx hy => byCut1_any x y cb gc cut ccap W (hc.but hW h1 h2) hx hy
  have HM : Hid (MG cut u v) := hM
  have HLs : Hid ((A ++ (u ++ (v ++ Z))).length = A.length + u.length + v.length + Z.length) := by unfold Hid; simp only [List.length_append]; omega
  obtain ⟨L, hL⟩ : ∃ L, (A ++ (u ++ (v ++ Z))).length = L := ⟨_, rfl⟩
  rw [hL] at hl HLs ⊢
  have HLr : Hid ((toI (A ++ (u ++ (v ++ Z)))).length = L) := by unfold Hid; rw [toI_len]; exact hL
  obtain ⟨a, ha⟩ : ∃ a, A.length = a := ⟨_, rfl⟩
  obtain ⟨m, hm⟩ : ∃ m, a + u.length = m := ⟨_, rfl⟩
  obtain ⟨b, hb⟩ : ∃ b, m + v.length = b := ⟨_, rfl⟩
  obtain ⟨mid, hmid⟩ : ∃ mid, (a + b) / 2 = mid := ⟨_, rfl⟩
  obtain ⟨N, hN⟩ : ∃ N, mid + m = N := ⟨_, rfl⟩
  obtain ⟨p, hp⟩ : ∃ p, N - 1 = p := ⟨_, rfl⟩
  rw [ha, hm, hb] at HLs ⊢
  have hbL : b ≤ L := by have := HLs.out; omega
  have HCtx : Hid (∀ S E, a ≤ S → S ≤ m → S ≤ mid → mid - S ≤ v.length → E = mid + m - S → (∀ x ∈ u.take (S - a), ∀ y ∈ v.drop (mid - S), LT cut x y) → (∀ x ∈ v.take (mid - S), ∀ y ∈ u.drop (S - a), LT cut x y) → Ctx cut A u v Z a m b S mid E L) := fun S E s1 s2 s3 s4 e hx hy => ⟨ha, hm, hb, hmid.symm, ⟨s1, s2, s3, s4⟩, e, hL, hl, hu2, hv2, hM, hx, hy⟩
  have HC1 : Hid (∀ S E W, Ctx cut A u v Z a m b S mid E L → St1 A u v Z (S - a) (mid - S) g w W → a < S → S < mid → Calls Tryz.prog 142 #[.slice (some ⟨g, 0, none⟩) L cap, .int .i64 (a : Int), .int .i64 (S : Int), .int .i64 (mid : Int), byF cb] W fun e w' => e = .returned (.tuple #[]) ∧ Hid (St2 cut A u v Z (S - a) (mid - S) g w w')) := fun S E W c hs q1 q2 => st2_call c IH hc h1 h2 hs q1 q2
  have HC2 : Hid (∀ S E W, Ctx cut A u v Z a m b S mid E L → St2 cut A u v Z (S - a) (mid - S) g w W → S < m → E < b → Calls Tryz.prog 142 #[.slice (some ⟨g, 0, none⟩) L cap, .int .i64 (mid : Int), .int .i64 (E : Int), .int .i64 (b : Int), byF cb] W fun e w' => e = .returned (.tuple #[]) ∧ Hid (MOut cut w w' g A u v Z)) := fun S E W c hs q1 q2 => st3_call c IH hc h1 h2 hs q1 q2
  have HC0 : Hid (∀ S E W, Ctx cut A u v Z a m b S mid E L → NRow W g (toI (A ++ (u ++ (v ++ Z)))) → But g w W → S < m → S < mid → Calls Tryz.prog 146 #[.slice (some ⟨g, 0, none⟩) L cap, .int .i64 (S : Int), .int .i64 (m : Int), .int .i64 (E : Int), byF cb] W fun e w' => e = .returned (.tuple #[]) ∧ Hid (St1 A u v Z (S - a) (mid - S) g w w')) := fun S E W c hr hB q1 q2 => st1_rot c g cap w W (byF cb) hr hB q1 q2
  have HA : Hid (A.length = a) := ha
  have ma : ((m : Int) - a == 1) = false := by rw [beq_eq_false_iff_ne]; omega
  have ma2 : ¬ (m : Int) - a = 1 := by omega
  have bm : ((b : Int) - m == 1) = false := by rw [beq_eq_false_iff_ne]; omega
  have bm2 : ¬ (b : Int) - m = 1 := by omega
  have rm0 : ((a : Int) + (b : Int)) / 2 = (mid : Int) := by omega
  have rN : (mid : Int) + (m : Int) = (N : Int) := by omega
  have rp : (N : Int) - 1 = (p : Int) := by omega
  have a0 : (0 : Int) ≤ a := by omega
  have bL : (b : Int) ≤ L := by omega
  have lL : (L : Int) ≤ 1000000 := by omega
  have m0 : (0 : Int) ≤ m := by omega
  have am : (a : Int) ≤ m := by omega
  have mb : (m : Int) < b := by omega
  have mL : (m : Int) < L := by omega
  have mi0 : (0 : Int) ≤ mid := by omega
  have miL : (mid : Int) < L := by omega
  have N0 : (0 : Int) ≤ N := by omega
  have NL : (N : Int) ≤ 2000000 := by omega
  have p0 : (0 : Int) ≤ p := by omega
  have pL : (p : Int) ≤ 2000000 := by omega
  clear h hc hM hL ha h1 h2 IH hl
  unfold byF at *
  go_enter Tryz.func142, Tryz.ntmps142
  go_upto_if 140 with fail
  go_cut [20, 21] from 129 (fun s r wx => w = wx ∧ ∃ lo hi : Nat, s = .int .i64 lo ∧ r = .int .i64 hi ∧ Hid ((lo = N - b ∧ hi = mid ∧ mid < m) ∨ (lo = a ∧ hi = m ∧ m ≤ mid)))
  case first =>
    by_cases hmm : mid < m
    · have q1 : (mid : Int) < m := by omega
      have q2 : (N : Int) - b = ((N - b : Nat) : Int) := by omega
      go_wp2
      go_meet
      case rel => exact ⟨rfl, N - b, mid, by first | rfl | (rw [q2]), rfl, Or.inl ⟨rfl, rfl, hmm⟩⟩
    · have q1 : ¬ (mid : Int) < m := by omega
      go_wp2
      go_meet
      case rel => exact ⟨rfl, a, m, rfl, rfl, Or.inr ⟨rfl, rfl, by omega⟩⟩
  case rest =>
    obtain ⟨rfl, lo, hi, rfl, rfl, HB⟩ := hcut
    have hB : a ≤ lo ∧ lo ≤ hi ∧ hi ≤ mid ∧ hi ≤ m ∧ (∀ c, lo ≤ c → c < hi → m ≤ p - c ∧ p - c < b ∧ c < m) := by
      rcases HB.out with ⟨e1, e2, e3⟩ | ⟨e1, e2, e3⟩
      · refine ⟨by omega, by omega, by omega, by omega, fun c c1 c2 => ?_⟩
        omega
      · refine ⟨by omega, by omega, by omega, by omega, fun c c1 c2 => ?_⟩
        omega
    obtain ⟨b1, b2, b3, b4, b5⟩ := hB
    have Hb5 : Hid (∀ c, lo ≤ c → c < hi → m ≤ p - c ∧ p - c < b ∧ c < m) := b5
    clear b5
    go_wp2
    go_loopw [20, 21] (fun ts tr wr => ∃ S R : Nat, lo ≤ S ∧ S ≤ R ∧ R ≤ hi ∧ ts = .int .i64 S ∧ tr = .int .i64 R ∧ Hid ((S = lo ∨ LT cut (u.getD (S - 1 - a) 0) (v.getD (p - (S - 1) - m) 0)) ∧ (R = hi ∨ LT cut (v.getD (p - R - m) 0) (u.getD (R - a) 0))) ∧ Hid (∃ k, wr = w.drewN k)) (fun ts tr _ => (RowKit.intOf tr).toNat - (RowKit.intOf ts).toNat)
    case atStart => exact ⟨lo, hi, Nat.le_refl _, b2, Nat.le_refl _, rfl, rfl, ⟨Or.inl rfl, Or.inl rfl⟩, ⟨0, rfl⟩⟩
    case round =>
      obtain ⟨S, R, hS, hSR, hR, rfl, rfl, HLo, HW⟩ := hrel
      obtain ⟨k, hk⟩ := HW.out
      have HkB : Hid (But g w wr) := by unfold Hid; rw [hk]; exact (But.refl g w).drewN k
      have HkN : Hid (∀ n, ∃ q, wr.drewN n = w.drewN q) := fun n => ⟨k + n, by rw [hk]; exact World.drewN_drewN _ _ _⟩
      by_cases hlt : S < R
      · obtain ⟨c, hcc⟩ : ∃ c, (S + R) / 2 = c := ⟨_, rfl⟩
        obtain ⟨e1, e2, e3⟩ := Hb5.out c (by omega) (by omega)
        obtain ⟨d, hd⟩ : ∃ d, p - c = d := ⟨_, rfl⟩
        rw [hd] at e1 e2
        have rm : ((S : Int) + (R : Int)) / 2 = (c : Int) := by omega
        have pc : (p : Int) - (c : Int) = (d : Int) := by omega
        have d0 : (0 : Int) ≤ d := by omega
        have dL : (d : Int) < L := by omega
        have c0 : (0 : Int) ≤ c := by omega
        have cL : (c : Int) < L := by omega
        have i1 : (S : Int) < R := by omega
        have i2 : (0 : Int) ≤ S := by omega
        have i3 : (R : Int) ≤ 1000000 := by omega
        have hcu : c - a < u.length := by omega
        have hdv : d - m < v.length := by omega
        have hxm : u.getD (c - a) 0 ∈ u := getD_mem0 hcu
        have hym : v.getD (d - m) 0 ∈ v := getD_mem0 hdv
        have cx : wr.cell? ⟨g, c, none⟩ = some (.int .i64 ((u.getD (c - a) 0 : Nat) : Int)) := by
          have := HR.out.cell (i := c) (by rw [HLr.out]; omega)
          have e : c = A.length + (c - a) := by rw [HA.out]; omega
          rw [e, row_at A u (v ++ Z) hcu] at this
          rw [← e] at this
          rw [hk]
          exact this
        have cy : wr.cell? ⟨g, d, none⟩ = some (.int .i64 ((v.getD (d - m) 0 : Nat) : Int)) := by
          have := HR.out.cell (i := d) (by rw [HLr.out]; omega)
          rw [show A ++ (u ++ (v ++ Z)) = (A ++ u) ++ (v ++ Z) by simp] at this
          have e : d = (A ++ u).length + (d - m) := by rw [List.length_append, HA.out]; omega
          rw [e, row_at (A ++ u) v Z hdv] at this
          rw [← e] at this
          rw [hk]
          exact this
        have HCc : Hid (∀ n, Calls Tryz.prog 104 #[.int .i64 ((v.getD (d - m) 0 : Nat) : Int), .int .i64 ((u.getD (c - a) 0 : Nat) : Int), .pointer (some ⟨cb, 0, none⟩)] (wr.drewN n) fun e w' => e = .returned (.int .i64 (cutC cut (v.getD (d - m) 0) (u.getD (c - a) 0))) ∧ ∃ q, w' = (wr.drewN n).drewN q) := fun n => HCu.out _ (HkB.out.drewN n) _ _ (HM.out.bv _ hym) (HM.out.bu _ hxm)
        by_cases hless : cutC cut (v.getD (d - m) 0) (u.getD (c - a) 0) < 0
        · have hhi := HM.out.less hxm hym hless
          have HN : Hid ((S = lo ∨ LT cut (u.getD (S - 1 - a) 0) (v.getD (p - (S - 1) - m) 0)) ∧ (c = hi ∨ LT cut (v.getD (p - c - m) 0) (u.getD (c - a) 0))) := ⟨HLo.out.1, Or.inr (by rw [hd]; exact hhi)⟩
          have hd1 : decide (cutC cut (v.getD (d - m) 0) (u.getD (c - a) 0) < 0) = true := decide_eq_true hless
          clear hhi hxm hym HLo HW hless hk
          generalize cutC cut (v.getD (d - m) 0) (u.getD (c - a) 0) = r at HCc hd1
          generalize v.getD (d - m) 0 = y at HCc cy
          generalize u.getD (c - a) 0 = x at HCc cx
          go_wp2
          go_quiet ((go_at_call 104; exact Calls.quiet_of (HCc.out _)))
          go_wp2
          go_roundw
          case rel => exact ⟨S, c, hS, by omega, by omega, rfl, by go_num, HN, HkN.out _⟩
          case measure => simp [RowKit.intOf]; omega
        · have hlo := HM.out.more hxm hym hless
          have HN : Hid ((c + 1 = lo ∨ LT cut (u.getD (c + 1 - 1 - a) 0) (v.getD (p - (c + 1 - 1) - m) 0)) ∧ (R = hi ∨ LT cut (v.getD (p - R - m) 0) (u.getD (R - a) 0))) := ⟨Or.inr (by rw [show c + 1 - 1 = c by omega, hd]; exact hlo), HLo.out.2⟩
          have hd1 : decide (cutC cut (v.getD (d - m) 0) (u.getD (c - a) 0) < 0) = false := decide_eq_false hless
          clear hlo hxm hym HLo HW hless hk
          generalize cutC cut (v.getD (d - m) 0) (u.getD (c - a) 0) = r at HCc hd1
          generalize v.getD (d - m) 0 = y at HCc cy
          generalize u.getD (c - a) 0 = x at HCc cx
          go_wp2
          go_quiet ((go_at_call 104; exact Calls.quiet_of (HCc.out _)))
          go_wp2
          go_roundw
          case rel => exact ⟨c + 1, R, by omega, by omega, hR, by go_num, rfl, HN, HkN.out _⟩
          case measure => simp [RowKit.intOf]; omega
      · have eR : R = S := by omega
        subst eR
        have i1 : ¬ (R : Int) < R := by omega
        obtain ⟨E, hE⟩ : ∃ E, N - R = E := ⟨_, rfl⟩
        have rE : (N : Int) - (R : Int) = (E : Int) := by omega
        have HX : Hid (Ctx cut A u v Z a m b R mid E L) := by
          have hbb := HB.out
          refine HCtx.out R E (by omega) (by omega) (by omega) (by omega) (by omega) ?_ ?_
          · refine cross HM.out.su HM.out.sv (by omega) (fun q1 q2 => ?_)
            rcases HLo.out.1 with e | e
            · exfalso; omega
            · rw [show R - a - 1 = R - 1 - a by omega, show mid - R = p - (R - 1) - m by omega]; exact e
          · refine cross HM.out.sv HM.out.su (by omega) (fun q1 q2 => ?_)
            rcases HLo.out.2 with e | e
            · exfalso; omega
            · rw [show mid - R - 1 = p - R - m by omega]; exact e
        have HRw : Hid (NRow wr g (toI (A ++ (u ++ (v ++ Z)))) ∧ But g w wr) := ⟨by rw [hk]; exact HR.out, HkB.out⟩
        have R0 : (0 : Int) ≤ R := by omega
        have E0 : (0 : Int) ≤ E := by omega
        have Eb : E ≤ b := by have hbb := HB.out; omega
        have EL : (E : Int) ≤ 1000000 := by omega
        clear HLo HW hk HkN HkB HR HCu HCtx HM HLr HLs HB Hb5
        by_cases s1 : R < m
        · by_cases s2 : R < mid
          · have HCC1 : Hid (Calls _ _ _ _ _) := HC0.out R E wr HX.out HRw.out.1 HRw.out.2 s1 s2
            by_cases s3 : a < R
            · by_cases s4 : E < b
              · clear HRw
                have f1 : decide ((R : Int) < m) = true := decide_eq_true (by omega)
                have f1p : (R : Int) < m := by omega
                have f2 : decide ((m : Int) < E) = true := decide_eq_true (by omega)
                have f2p : (m : Int) < E := by omega
                have f3 : decide ((a : Int) < R) = true := decide_eq_true (by omega)
                have f3p : (a : Int) < R := by omega
                have f4 : decide ((R : Int) < mid) = true := decide_eq_true (by omega)
                have f4p : (R : Int) < mid := by omega
                have f5 : decide ((mid : Int) < E) = true := decide_eq_true (by omega)
                have f5p : (mid : Int) < E := by omega
                have f6 : decide ((E : Int) < b) = true := decide_eq_true (by omega)
                have f6p : (E : Int) < b := by omega
                go_wp2_with fail
                refine HCC1.out.mono ?_
                rintro e w1 ⟨rfl, hh1⟩
                have HCC2 : Hid (Calls _ _ _ _ _) := HC1.out R E w1 HX.out hh1.out (by omega) (by omega)
                go_wp2_with fail
                refine HCC2.out.mono ?_
                rintro e w2 ⟨rfl, hh2⟩
                have HCC3 : Hid (Calls _ _ _ _ _) := HC2.out R E w2 HX.out hh2.out (by omega) (by omega)
                go_wp2_with fail
                refine HCC3.out.mono ?_
                rintro e w3 ⟨rfl, hh3⟩
                go_wp2_with fail
                first | go_end0 | ((try simp only [Exit.inBlock, Exit.then]); refine bodyPost_ret (results_none rfl _ _ _) rfl ?_)
                exact ⟨rfl, hh3⟩
              · clear HRw
                have f1 : decide ((R : Int) < m) = true := decide_eq_true (by omega)
                have f1p : (R : Int) < m := by omega
                have f2 : decide ((m : Int) < E) = true := decide_eq_true (by omega)
                have f2p : (m : Int) < E := by omega
                have f3 : decide ((a : Int) < R) = true := decide_eq_true (by omega)
                have f3p : (a : Int) < R := by omega
                have f4 : decide ((R : Int) < mid) = true := decide_eq_true (by omega)
                have f4p : (R : Int) < mid := by omega
                have f5 : decide ((mid : Int) < E) = true := decide_eq_true (by omega)
                have f5p : (mid : Int) < E := by omega
                have f6 : decide ((E : Int) < b) = false := decide_eq_false (by omega)
                have f6p : ¬ (E : Int) < b := by omega
                go_wp2_with fail
                refine HCC1.out.mono ?_
                rintro e w1 ⟨rfl, hh1⟩
                have HCC2 : Hid (Calls _ _ _ _ _) := HC1.out R E w1 HX.out hh1.out (by omega) (by omega)
                go_wp2_with fail
                refine HCC2.out.mono ?_
                rintro e w2 ⟨rfl, hh2⟩
                have HE : Hid (MOut cut w w2 g A u v Z) := st3_no HX.out hh2.out (by omega)
                clear HX
                go_wp2_with fail
                first | go_end0 | ((try simp only [Exit.inBlock, Exit.then]); refine bodyPost_ret (results_none rfl _ _ _) rfl ?_)
                exact ⟨rfl, HE⟩
            · by_cases s4 : E < b
              · clear HRw
                have f1 : decide ((R : Int) < m) = true := decide_eq_true (by omega)
                have f1p : (R : Int) < m := by omega
                have f2 : decide ((m : Int) < E) = true := decide_eq_true (by omega)
                have f2p : (m : Int) < E := by omega
                have f3 : decide ((a : Int) < R) = false := decide_eq_false (by omega)
                have f3p : ¬ (a : Int) < R := by omega
                have f4 : decide ((R : Int) < mid) = true := decide_eq_true (by omega)
                have f4p : (R : Int) < mid := by omega
                have f5 : decide ((mid : Int) < E) = true := decide_eq_true (by omega)
                have f5p : (mid : Int) < E := by omega
                have f6 : decide ((E : Int) < b) = true := decide_eq_true (by omega)
                have f6p : (E : Int) < b := by omega
                go_wp2_with fail
                refine HCC1.out.mono ?_
                rintro e w1 ⟨rfl, hh1⟩
                have hh2 : Hid (St2 cut A u v Z (R - a) (mid - R) g w w1) := st2_no HX.out hh1.out (by omega)
                have HCC3 : Hid (Calls _ _ _ _ _) := HC2.out R E w1 HX.out hh2.out (by omega) (by omega)
                go_wp2_with fail
                refine HCC3.out.mono ?_
                rintro e w3 ⟨rfl, hh3⟩
                go_wp2_with fail
                first | go_end0 | ((try simp only [Exit.inBlock, Exit.then]); refine bodyPost_ret (results_none rfl _ _ _) rfl ?_)
                exact ⟨rfl, hh3⟩
              · clear HRw
                have f1 : decide ((R : Int) < m) = true := decide_eq_true (by omega)
                have f1p : (R : Int) < m := by omega
                have f2 : decide ((m : Int) < E) = true := decide_eq_true (by omega)
                have f2p : (m : Int) < E := by omega
                have f3 : decide ((a : Int) < R) = false := decide_eq_false (by omega)
                have f3p : ¬ (a : Int) < R := by omega
                have f4 : decide ((R : Int) < mid) = true := decide_eq_true (by omega)
                have f4p : (R : Int) < mid := by omega
                have f5 : decide ((mid : Int) < E) = true := decide_eq_true (by omega)
                have f5p : (mid : Int) < E := by omega
                have f6 : decide ((E : Int) < b) = false := decide_eq_false (by omega)
                have f6p : ¬ (E : Int) < b := by omega
                go_wp2_with fail
                refine HCC1.out.mono ?_
                rintro e w1 ⟨rfl, hh1⟩
                have hh2 : Hid (St2 cut A u v Z (R - a) (mid - R) g w w1) := st2_no HX.out hh1.out (by omega)
                have HE : Hid (MOut cut w w1 g A u v Z) := st3_no HX.out hh2.out (by omega)
                clear HX
                go_wp2_with fail
                first | go_end0 | ((try simp only [Exit.inBlock, Exit.then]); refine bodyPost_ret (results_none rfl _ _ _) rfl ?_)
                exact ⟨rfl, HE⟩
          · have hh1 : Hid (St1 A u v Z (R - a) (mid - R) g w wr) := st1_no HRw.out.1 HRw.out.2 (by omega)
            clear HRw
            by_cases s3 : a < R
            · skip
              have f1 : decide ((R : Int) < m) = true := decide_eq_true (by omega)
              have f1p : (R : Int) < m := by omega
              have f2 : decide ((m : Int) < E) = false := decide_eq_false (by omega)
              have f2p : ¬ (m : Int) < E := by omega
              have f3 : decide ((a : Int) < R) = true := decide_eq_true (by omega)
              have f3p : (a : Int) < R := by omega
              have f4 : decide ((R : Int) < mid) = false := decide_eq_false (by omega)
              have f4p : ¬ (R : Int) < mid := by omega
              have f5 : decide ((mid : Int) < E) = true := decide_eq_true (by omega)
              have f5p : (mid : Int) < E := by omega
              have f6 : decide ((E : Int) < b) = true := decide_eq_true (by omega)
              have f6p : (E : Int) < b := by omega
              have hh2 : Hid (St2 cut A u v Z (R - a) (mid - R) g w wr) := st2_no HX.out hh1.out (by omega)
              have HCC3 : Hid (Calls _ _ _ _ _) := HC2.out R E wr HX.out hh2.out (by omega) (by omega)
              go_wp2_with fail
              refine HCC3.out.mono ?_
              rintro e w3 ⟨rfl, hh3⟩
              go_wp2_with fail
              first | go_end0 | ((try simp only [Exit.inBlock, Exit.then]); refine bodyPost_ret (results_none rfl _ _ _) rfl ?_)
              exact ⟨rfl, hh3⟩
            · skip
              have f1 : decide ((R : Int) < m) = true := decide_eq_true (by omega)
              have f1p : (R : Int) < m := by omega
              have f2 : decide ((m : Int) < E) = false := decide_eq_false (by omega)
              have f2p : ¬ (m : Int) < E := by omega
              have f3 : decide ((a : Int) < R) = false := decide_eq_false (by omega)
              have f3p : ¬ (a : Int) < R := by omega
              have f4 : decide ((R : Int) < mid) = false := decide_eq_false (by omega)
              have f4p : ¬ (R : Int) < mid := by omega
              have f5 : decide ((mid : Int) < E) = true := decide_eq_true (by omega)
              have f5p : (mid : Int) < E := by omega
              have f6 : decide ((E : Int) < b) = true := decide_eq_true (by omega)
              have f6p : (E : Int) < b := by omega
              have hh2 : Hid (St2 cut A u v Z (R - a) (mid - R) g w wr) := st2_no HX.out hh1.out (by omega)
              have HCC3 : Hid (Calls _ _ _ _ _) := HC2.out R E wr HX.out hh2.out (by omega) (by omega)
              go_wp2_with fail
              refine HCC3.out.mono ?_
              rintro e w3 ⟨rfl, hh3⟩
              go_wp2_with fail
              first | go_end0 | ((try simp only [Exit.inBlock, Exit.then]); refine bodyPost_ret (results_none rfl _ _ _) rfl ?_)
              exact ⟨rfl, hh3⟩
        · have hh1 : Hid (St1 A u v Z (R - a) (mid - R) g w wr) := st1_no HRw.out.1 HRw.out.2 (by omega)
          clear HRw
          by_cases s2 : R < mid
          · skip
            have f1 : decide ((R : Int) < m) = false := decide_eq_false (by omega)
            have f1p : ¬ (R : Int) < m := by omega
            have f2 : decide ((m : Int) < E) = true := decide_eq_true (by omega)
            have f2p : (m : Int) < E := by omega
            have f3 : decide ((a : Int) < R) = true := decide_eq_true (by omega)
            have f3p : (a : Int) < R := by omega
            have f4 : decide ((R : Int) < mid) = true := decide_eq_true (by omega)
            have f4p : (R : Int) < mid := by omega
            have f5 : decide ((mid : Int) < E) = false := decide_eq_false (by omega)
            have f5p : ¬ (mid : Int) < E := by omega
            have HCC2 : Hid (Calls _ _ _ _ _) := HC1.out R E wr HX.out hh1.out (by omega) (by omega)
            go_wp2_with fail
            refine HCC2.out.mono ?_
            rintro e w2 ⟨rfl, hh2⟩
            have HE : Hid (MOut cut w w2 g A u v Z) := st3_no HX.out hh2.out (by omega)
            clear HX
            go_wp2_with fail
            first | go_end0 | ((try simp only [Exit.inBlock, Exit.then]); refine bodyPost_ret (results_none rfl _ _ _) rfl ?_)
            exact ⟨rfl, HE⟩
          · skip
            have f1 : decide ((R : Int) < m) = false := decide_eq_false (by omega)
            have f1p : ¬ (R : Int) < m := by omega
            have f2 : decide ((m : Int) < E) = false := decide_eq_false (by omega)
            have f2p : ¬ (m : Int) < E := by omega
            have f3 : decide ((a : Int) < R) = true := decide_eq_true (by omega)
            have f3p : (a : Int) < R := by omega
            have f4 : decide ((R : Int) < mid) = false := decide_eq_false (by omega)
            have f4p : ¬ (R : Int) < mid := by omega
            have f5 : decide ((mid : Int) < E) = false := decide_eq_false (by omega)
            have f5p : ¬ (mid : Int) < E := by omega
            have hh2 : Hid (St2 cut A u v Z (R - a) (mid - R) g w wr) := st2_no HX.out hh1.out (by omega)
            have HE : Hid (MOut cut w wr g A u v Z) := st3_no HX.out hh2.out (by omega)
            clear HX
            go_wp2_with fail
            first | go_end0 | ((try simp only [Exit.inBlock, Exit.then]); refine bodyPost_ret (results_none rfl _ _ _) rfl ?_)
            exact ⟨rfl, HE⟩

/-- slices.symMergeCmpFunc: two sorted rows, one behind the other, become one. -/
theorem sym_any (g cap cb gc ccap : Nat) (cut : List Int) (h1 : cb ≠ g) (h2 : gc ≠ g) : ∀ n, SymOk g cap cb gc ccap cut n := by
  intro n
  induction n using Nat.strongRecOn with
  | _ n ih =>
    intro A u v Z w hn hu hv h hl hc hM
    by_cases u1 : u.length = 1
    · obtain ⟨x, rfl⟩ : ∃ x, u = [x] := List.length_eq_one_iff.1 u1
      exact sym_left g cap cb gc ccap cut A v Z x w h hl hc h1 h2 hM
    · by_cases v1 : v.length = 1
      · obtain ⟨y, rfl⟩ : ∃ y, v = [y] := List.length_eq_one_iff.1 v1
        exact sym_right g cap cb gc ccap cut A u Z y w h hl hc h1 h2 hM u1
      · exact sym_step g cap cb gc ccap cut A u v Z w (by rw [hn]; exact ih) (by omega) (by omega) h hl hc h1 h2 hM
end Go.Proofs.YtiolkeipgpkbmaaGreatDoor

namespace Go.Proofs.YtiolkeipgpkbmaaGreatDoor
set_option linter.unusedVariables false
set_option linter.unusedSimpArgs false
set_option maxRecDepth 100000
open Go.RowKit Go.Lib

/-- What sorting leaves. -/
def Sorted (cut : List Int) (w w' : World) (g : Nat) (s : List Nat) : Prop := ∃ s' : List Nat, s'.Perm s ∧ s'.Pairwise (LT cut) ∧ NRow w' g (toI s') ∧ But g w w'
/-- The first k are sorted. -/
def Half1 (cut : List Int) (w w' : World) (g k : Nat) (s : List Nat) : Prop := ∃ P : List Nat, P.Perm (s.take k) ∧ P.Pairwise (LT cut) ∧ NRow w' g (toI (P ++ s.drop k)) ∧ But g w w'
/-- Both parts are sorted. -/
def Half2 (cut : List Int) (w w' : World) (g k : Nat) (s : List Nat) : Prop := ∃ P Q : List Nat, P.Perm (s.take k) ∧ P.Pairwise (LT cut) ∧ Q.Perm (s.drop k) ∧ Q.Pairwise (LT cut) ∧ NRow w' g (toI (P ++ Q)) ∧ But g w w'

theorem half1_call (g cap cb gc ccap k : Nat) (cut : List Int) (s : List Nat) (w : World) (h : NRow w g (toI s)) (hl : s.length ≤ 1000000) (hc : CutAt w cb gc cut ccap) (h1 : cb ≠ g) (h2 : gc ≠ g) (hb : ∀ z ∈ s, z < cut.length) (hs : s.Pairwise (· < ·)) (hk0 : 0 < k) (hk : k ≤ s.length) :
    Calls Tryz.prog 141 #[.slice (some ⟨g, 0, none⟩) s.length cap, .int .i64 0, .int .i64 (k : Int), byF cb] w fun e w' => e = .returned (.tuple #[]) ∧ Hid (Half1 cut w w' g k s) := by
  have e0 : [] ++ (s.take k ++ s.drop k) = s := by rw [List.nil_append, List.take_append_drop]
  have hl1 : (s.take k).length = k := by rw [List.length_take]; omega
  have c := insSort_any g cap cb gc ccap cut [] (s.take k) (s.drop k) w (by rw [e0]; exact h) (by rw [e0]; exact hl) hc h1 h2 (fun z hz => hb z (List.mem_of_mem_take hz)) (hs.sublist (List.take_sublist _ _)) (by omega)
  rw [e0, hl1] at c
  simp only [List.length_nil, Nat.zero_add] at c
  refine c.mono ?_
  rintro e w' ⟨rfl, hh⟩
  obtain ⟨s', p1, p2, p3, p4⟩ := hh.out
  exact ⟨rfl, s', p1, p2, p3, p4⟩
theorem half2_call (g cap cb gc ccap k : Nat) (cut : List Int) (s : List Nat) (w W : World) (h : Half1 cut w W g k s) (hl : s.length ≤ 1000000) (hc : CutAt w cb gc cut ccap) (h1 : cb ≠ g) (h2 : gc ≠ g) (hb : ∀ z ∈ s, z < cut.length) (hs : s.Pairwise (· < ·)) (hk : k < s.length) :
    Calls Tryz.prog 141 #[.slice (some ⟨g, 0, none⟩) s.length cap, .int .i64 (k : Int), .int .i64 (s.length : Int), byF cb] W fun e w' => e = .returned (.tuple #[]) ∧ Hid (Half2 cut w w' g k s) := by
  obtain ⟨P, p1, p2, p3, p4⟩ := h
  have hP : P.length = k := by rw [p1.length_eq, List.length_take]; omega
  have hQ : (s.drop k).length = s.length - k := by rw [List.length_drop]
  have hl2 : (P ++ (s.drop k ++ [])).length = s.length := by rw [List.append_nil, List.length_append, hP, hQ]; omega
  have c := insSort_any g cap cb gc ccap cut P (s.drop k) [] W (by rw [List.append_nil]; exact p3) (by rw [hl2]; exact hl) (hc.but p4 h1 h2) h1 h2 (fun z hz => hb z (List.mem_of_mem_drop hz)) (hs.sublist (List.drop_sublist _ _)) (by omega)
  rw [hl2, hP, hQ, show k + (s.length - k) = s.length by omega] at c
  refine c.mono ?_
  rintro e w' ⟨rfl, hh⟩
  obtain ⟨Q, q1, q2, q3, q4⟩ := hh.out
  exact ⟨rfl, P, Q, p1, p2, q1, q2, by rw [List.append_nil] at q3; exact q3, p4.trans q4⟩
theorem whole_call (g cap cb gc ccap k : Nat) (cut : List Int) (s : List Nat) (w W : World) (h : Half2 cut w W g k s) (hl : s.length ≤ 1000000) (hc : CutAt w cb gc cut ccap) (h1 : cb ≠ g) (h2 : gc ≠ g) (hb : ∀ z ∈ s, z < cut.length) (hs : s.Pairwise (· < ·)) (hk0 : 0 < k) (hk : k < s.length) :
    Calls Tryz.prog 142 #[.slice (some ⟨g, 0, none⟩) s.length cap, .int .i64 0, .int .i64 (k : Int), .int .i64 (s.length : Int), byF cb] W fun e w' => e = .returned (.tuple #[]) ∧ Hid (Sorted cut w w' g s) := by
  obtain ⟨P, Q, p1, p2, q1, q2, p3, p4⟩ := h
  have hP : P.length = k := by rw [p1.length_eq, List.length_take]; omega
  have hQ : Q.length = s.length - k := by rw [q1.length_eq, List.length_drop]
  have hl2 : ([] ++ (P ++ (Q ++ []))).length = s.length := by rw [List.nil_append, List.append_nil, List.length_append, hP, hQ]; omega
  have hM : MG cut P Q := by
    refine ⟨p2, q2, fun x hx y hy => ?_, fun z hz => hb z (List.mem_of_mem_take (p1.mem_iff.1 hz)), fun z hz => hb z (List.mem_of_mem_drop (q1.mem_iff.1 hz))⟩
    have hp := hs
    rw [← List.take_append_drop k s] at hp
    exact (List.pairwise_append.1 hp).2.2 x (p1.mem_iff.1 hx) y (q1.mem_iff.1 hy)
  have c := sym_any g cap cb gc ccap cut h1 h2 (P.length + Q.length) [] P Q [] W rfl (by omega) (by omega) (by rw [List.append_nil]; exact p3) (by rw [hl2]; exact hl) (hc.but p4 h1 h2) hM
  rw [hl2, hP, hQ] at c
  simp only [List.length_nil, Nat.zero_add] at c
  rw [show k + (s.length - k) = s.length by omega] at c
  refine c.mono ?_
  rintro e w' ⟨rfl, hh⟩
  obtain ⟨s', r1, r2, r3, r4⟩ := hh.out
  refine ⟨rfl, s', r1.trans ((p1.append q1).trans (by rw [List.take_append_drop])), r2, by rw [List.append_nil] at r3; exact r3, p4.trans r4⟩
theorem Half1.all {cut : List Int} {w w' : World} {g : Nat} {s : List Nat} (h : Half1 cut w w' g s.length s) : Sorted cut w w' g s := by
  obtain ⟨P, p1, p2, p3, p4⟩ := h
  rw [List.take_length] at p1
  rw [List.drop_length, List.append_nil] at p3
  exact ⟨P, p1, p2, p3, p4⟩

set_option maxHeartbeats 2000000 in
theorem stable_any (g cap cb gc ccap : Nat) (cut : List Int) (s : List Nat) (w : World) (h : NRow w g (toI s)) (hn0 : 0 < s.length) (hn : s.length ≤ 40) (hc : CutAt w cb gc cut ccap) (h1 : cb ≠ g) (h2 : gc ≠ g) (hb : ∀ z ∈ s, z < cut.length) (hs : s.Pairwise (· < ·)) :
    Calls Tryz.prog 130 #[.slice (some ⟨g, 0, none⟩) s.length cap, .int .i64 (s.length : Int), byF cb] w fun e w' => e = .returned (.tuple #[]) ∧ Hid (Sorted cut w w' g s) := by
  have hl : s.length ≤ 1000000 := by omega
  have HC1 : Hid (∀ k, 0 < k → k ≤ s.length → Calls Tryz.prog 141 #[.slice (some ⟨g, 0, none⟩) s.length cap, .int .i64 0, .int .i64 (k : Int), byF cb] w fun e w' => e = .returned (.tuple #[]) ∧ Hid (Half1 cut w w' g k s)) := fun k k0 k1 => half1_call g cap cb gc ccap k cut s w h hl hc h1 h2 hb hs k0 k1
  have HC2 : Hid (∀ k W, Half1 cut w W g k s → k < s.length → Calls Tryz.prog 141 #[.slice (some ⟨g, 0, none⟩) s.length cap, .int .i64 (k : Int), .int .i64 (s.length : Int), byF cb] W fun e w' => e = .returned (.tuple #[]) ∧ Hid (Half2 cut w w' g k s)) := fun k W hW k1 => half2_call g cap cb gc ccap k cut s w W hW hl hc h1 h2 hb hs k1
  have HC3 : Hid (∀ k W, Half2 cut w W g k s → 0 < k → k < s.length → Calls Tryz.prog 142 #[.slice (some ⟨g, 0, none⟩) s.length cap, .int .i64 0, .int .i64 (k : Int), .int .i64 (s.length : Int), byF cb] W fun e w' => e = .returned (.tuple #[]) ∧ Hid (Sorted cut w w' g s)) := fun k W hW k0 k1 => whole_call g cap cb gc ccap k cut s w W hW hl hc h1 h2 hb hs k0 k1
  have HC4 : Hid (∀ (a : Nat) (W : World), a ≤ 1000000 → Calls Tryz.prog 141 #[.slice (some ⟨g, 0, none⟩) s.length cap, .int .i64 (a : Int), .int .i64 (a : Int), byF cb] W fun e w' => e = .returned (.tuple #[]) ∧ w' = W) := fun a W ha => insSort_none g cap s.length a (byF cb) W ha
  have HSo : Hid (∀ W, Half1 cut w W g s.length s → Sorted cut w W g s) := fun W hW => hW.all
  generalize s.length = n at *
  clear h hc h1 h2 hb hs
  by_cases c1 : n < 20
  · have i1 : ¬ (20 : Int) ≤ n := by omega
    have i2 : ¬ (20 : Int) < n := by omega
    have HCC : Hid (Calls _ _ _ _ _) := HC1.out n hn0 (Nat.le_refl _)
    go_enter Tryz.func130, Tryz.ntmps130
    go_wp2
    refine wp_loop_rounds 1 ?_
    rw [rounds_succ]
    go_wp2_with fail
    refine HCC.out.mono ?_
    rintro e w1 ⟨rfl, hh⟩
    go_wp2_with fail
    refine wp_loop_rounds 1 ?_
    rw [rounds_succ]
    go_wp2
    go_end0
    exact ⟨rfl, HSo.out w1 hh.out⟩
  · have i1 : (20 : Int) ≤ n := by omega
    have HCC : Hid (Calls _ _ _ _ _) := HC1.out 20 (by omega) (by omega)
    by_cases c2 : n = 20
    · subst c2
      go_enter Tryz.func130, Tryz.ntmps130
      go_wp2
      refine wp_loop_rounds 2 ?_
      rw [rounds_succ]
      go_wp2_with fail
      refine HCC.out.mono ?_
      rintro e w1 ⟨rfl, hh⟩
      have HCD : Hid (Calls _ _ _ _ _) := HC4.out 20 w1 (by omega)
      go_wp2_with fail
      rw [rounds_succ]
      go_wp2_with fail
      refine HCD.out.mono ?_
      rintro e w2 ⟨rfl, hw⟩
      rw [hw]; clear hw w2
      go_wp2_with fail
      refine wp_loop_rounds 1 ?_
      rw [rounds_succ]
      go_wp2
      go_end0
      exact ⟨rfl, HSo.out w1 hh.out⟩
    · by_cases c3 : n < 40
      · have i2 : ¬ (40 : Int) ≤ n := by omega
        have i3 : (20 : Int) < n := by omega
        have i4 : ¬ (40 : Int) < n := by omega
        go_enter Tryz.func130, Tryz.ntmps130
        go_wp2
        refine wp_loop_rounds 2 ?_
        rw [rounds_succ]
        go_wp2_with fail
        refine HCC.out.mono ?_
        rintro e w1 ⟨rfl, hh⟩
        have HCD : Hid (Calls _ _ _ _ _) := HC2.out 20 w1 hh.out (by omega)
        go_wp2_with fail
        rw [rounds_succ]
        go_wp2_with fail
        refine HCD.out.mono ?_
        rintro e w2 ⟨rfl, hh2⟩
        have HCE : Hid (Calls _ _ _ _ _) := HC3.out 20 w2 hh2.out (by omega) (by omega)
        go_wp2_with fail
        refine wp_loop_rounds 2 ?_
        rw [rounds_succ]
        go_wp2_with fail
        refine wp_loop_rounds 1 ?_
        rw [rounds_succ]
        go_wp2_with fail
        refine HCE.out.mono ?_
        rintro e w3 ⟨rfl, hh3⟩
        go_wp2_with fail
        rw [rounds_succ]
        go_wp2
        go_end0
        exact ⟨rfl, hh3⟩
      · have e4 : n = 40 := by omega
        subst e4
        go_enter Tryz.func130, Tryz.ntmps130
        go_wp2
        refine wp_loop_rounds 3 ?_
        rw [rounds_succ]
        go_wp2_with fail
        refine HCC.out.mono ?_
        rintro e w1 ⟨rfl, hh⟩
        have HCD : Hid (Calls _ _ _ _ _) := HC2.out 20 w1 hh.out (by omega)
        go_wp2_with fail
        rw [rounds_succ]
        go_wp2_with fail
        refine HCD.out.mono ?_
        rintro e w2 ⟨rfl, hh2⟩
        have HCE : Hid (Calls _ _ _ _ _) := HC3.out 20 w2 hh2.out (by omega) (by omega)
        have HCF : Hid (Calls _ _ _ _ _) := HC4.out 40 w2 (by omega)
        go_wp2_with fail
        rw [rounds_succ]
        go_wp2_with fail
        refine HCF.out.mono ?_
        rintro e w5 ⟨rfl, hw⟩
        rw [hw]; clear hw w5
        go_wp2_with fail
        refine wp_loop_rounds 2 ?_
        rw [rounds_succ]
        go_wp2_with fail
        refine wp_loop_rounds 2 ?_
        rw [rounds_succ]
        go_wp2_with fail
        refine HCE.out.mono ?_
        rintro e w3 ⟨rfl, hh3⟩
        go_wp2_with fail
        rw [rounds_succ]
        go_wp2_with fail
        rw [rounds_succ]
        go_wp2
        go_end0
        exact ⟨rfl, hh3⟩

theorem sortStable_any (g cap cb gc ccap : Nat) (cut : List Int) (s : List Nat) (w : World) (h : NRow w g (toI s)) (hn0 : 0 < s.length) (hn : s.length ≤ 40) (hc : CutAt w cb gc cut ccap) (h1 : cb ≠ g) (h2 : gc ≠ g) (hb : ∀ z ∈ s, z < cut.length) (hs : s.Pairwise (· < ·)) :
    Calls Tryz.prog 103 #[.slice (some ⟨g, 0, none⟩) s.length cap, byF cb] w fun e w' => e = .returned (.tuple #[]) ∧ Hid (Sorted cut w w' g s) := by
  have HC : Hid (Calls _ _ _ _ _) := stable_any g cap cb gc ccap cut s w h hn0 hn hc h1 h2 hb hs
  clear h hc h1 h2 hb hs
  generalize s.length = n at *
  go_enter Tryz.func103, Tryz.ntmps103
  go_wp2_with fail
  refine HC.out.mono ?_
  rintro e w1 ⟨rfl, hh⟩
  go_wp2
  go_end0
  exact ⟨rfl, hh⟩
end Go.Proofs.YtiolkeipgpkbmaaGreatDoor

namespace Go.Proofs.YtiolkeipgpkbmaaGreatDoor
set_option linter.unusedVariables false
set_option linter.unusedSimpArgs false
set_option maxRecDepth 100000
open Go.RowKit Go.Lib

theorem srt_int : (Tryz.prog.info? 3).map (fun i => (i.zero, i.size, i.bytes)) = some (some (.int .i64 0), 1, 8) := by kernel_rfl
theorem srt_u64 : (Tryz.prog.info? 122).map (fun i => (i.zero, i.size, i.bytes)) = some (some (.int .u64 0), 1, 8) := by kernel_rfl
theorem srow_step (f : Nat → Int) (n k : Nat) (h : k < n) : ((List.range k).map f ++ List.replicate (n - k) 0).set k (f k) = (List.range (k + 1)).map f ++ List.replicate (n - (k + 1)) 0 := by
  rw [List.set_append_right _ _ (by simp)]
  simp only [List.length_map, List.length_range, Nat.sub_self]
  obtain ⟨m, hm⟩ : ∃ m, n - k = m + 1 := ⟨n - k - 1, by omega⟩
  rw [hm, List.replicate_succ, List.set_cons_zero, List.range_succ, List.map_append, List.append_assoc, show n - (k + 1) = m by omega]
  rfl
theorem But.below {g n : Nat} {A B : World} (h : But g A B) (hn : n ≤ g) : Below n A B := ⟨h.os, h.tape, h.output, Nat.le_of_eq h.size, fun b hb => h.block b (by omega)⟩

set_option maxHeartbeats 4000000 in
theorem byCut_any (gc ccap : Nat) (cut : List Int) (w : World) (hg : gc < w.heap.size) (hc : ∀ i, i < cut.length → w.cell? ⟨gc, i, none⟩ = some (.int .u64 (cut.getD i 0))) (hn0 : 0 < cut.length) (hn : cut.length ≤ 40) :
    Calls Tryz.prog 75 #[.slice (some ⟨gc, 0, none⟩) cut.length ccap] w fun e w' => e = .returned (.slice (some ⟨w.heap.size + 1, 0, none⟩) cut.length cut.length) ∧ Hid (Below w.heap.size w w' ∧ ∃ s : List Nat, s.Perm (List.range cut.length) ∧ s.Pairwise (LT cut) ∧ NRow w' (w.heap.size + 1) (toI s)) := by
  have hmk := fun w => run_make_row' (P := Tryz.prog) 43 3 (.int .i64 0) 8 Tryz.underlying43 srt_int rfl .i64 .i64 cut.length (by omega) (by omega) w
  obtain ⟨wA, hwA⟩ : ∃ wA, w.alloc (.cells #[.slice (some ⟨gc, 0, none⟩) cut.length ccap] 125) = wA := ⟨_, rfl⟩
  have hA1 : wA.heap.size = w.heap.size + 1 := by rw [← hwA]; simp
  have hA2 : wA.cell? ⟨w.heap.size, 0, none⟩ = some (.slice (some ⟨gc, 0, none⟩) cut.length ccap) := by rw [← hwA]; simp
  have bA : Below w.heap.size w wA := by rw [← hwA]; exact (Below.refl _ w).alloc (Nat.le_refl _) _
  have hrow := nrow_made wA cut.length
  have bB : Below wA.heap.size wA (wA.alloc (.cells (madeCells #[.int .i64 0] cut.length) 3)) := (Below.refl _ wA).alloc (Nat.le_refl _) _
  have hsB : (wA.alloc (.cells (madeCells #[.int .i64 0] cut.length) 3)).heap.size = w.heap.size + 2 := by simp [hA1]
  have HS : Hid (∀ W, But (w.heap.size + 1) (wA.alloc (.cells (madeCells #[.int .i64 0] cut.length) 3)) W → NRow W (w.heap.size + 1) (toI (List.range cut.length)) → Calls Tryz.prog 103 #[.slice (some ⟨w.heap.size + 1, 0, none⟩) cut.length cut.length, byF w.heap.size] W fun e w' => e = .returned (.tuple #[]) ∧ Hid (Below w.heap.size w w' ∧ ∃ s : List Nat, s.Perm (List.range cut.length) ∧ s.Pairwise (LT cut) ∧ NRow w' (w.heap.size + 1) (toI s))) := fun W hW hR => by
    have hb : Below (w.heap.size + 1) wA W := by
      have := bB.trans (hW.below (n := wA.heap.size) (by omega))
      rw [hA1] at this; exact this
    have hca : CutAt W w.heap.size gc cut ccap := ⟨(hb.cell (p := ⟨w.heap.size, 0, none⟩) (Nat.lt_succ_self _)).trans hA2, fun i hi => ((bA.trans (hb.mono (Nat.le_succ _))).cell (p := ⟨gc, i, none⟩) hg).trans (hc i hi)⟩
    have c := sortStable_any (w.heap.size + 1) cut.length w.heap.size gc ccap cut (List.range cut.length) W hR (by simpa using hn0) (by simpa using hn) hca (by omega) (by omega) (fun z hz => List.mem_range.1 hz) List.pairwise_lt_range
    rw [List.length_range] at c
    refine c.mono ?_
    rintro e w' ⟨rfl, hh⟩
    obtain ⟨s, p1, p2, p3, p4⟩ := hh.out
    refine ⟨rfl, (bA.trans (hb.mono (Nat.le_succ _))).trans (p4.below (by omega)), s, p1, p2, p3⟩
  have HB0 : Hid (NRow (wA.alloc (.cells (madeCells #[.int .i64 0] cut.length) 3)) wA.heap.size (List.replicate cut.length 0)) := hrow
  unfold byF at HS
  rw [hA1] at HB0
  generalize cut.length = n at *
  have n0 : (0 : Int) ≤ n := by omega
  have n1 : (n : Int) ≤ 40 := by omega
  clear hc hrow bB bA
  go_enter Tryz.func75, Tryz.ntmps75
  go_wp2
  clear hmk
  obtain ⟨wB, hwB⟩ : ∃ wB, wA.alloc (.cells (madeCells #[.int .i64 0] n) 3) = wB := ⟨_, rfl⟩
  rw [hwB] at HS HB0 ⊢
  obtain ⟨g, hgg⟩ : ∃ g, w.heap.size + 1 = g := ⟨_, rfl⟩
  rw [hgg] at HS HB0 ⊢
  clear hwB hwA hA2
  go_loopw [10] (fun t wr => ∃ k : Nat, k ≤ n ∧ t = .int .i64 k ∧ Hid (NRow wr g ((List.range k).map (fun i : Nat => (i : Int)) ++ List.replicate (n - k) 0) ∧ But g wB wr)) (fun t _ => n - (RowKit.intOf t).toNat)
  case atStart => exact ⟨0, Nat.zero_le _, rfl, by simpa using HB0.out, But.refl _ _⟩
  case round =>
    obtain ⟨k, hk, rfl, H⟩ := hrel
    obtain ⟨R, B⟩ := H.out
    by_cases hlt : k < n
    · have hrl : ((List.range k).map (fun i : Nat => (i : Int)) ++ List.replicate (n - k) 0).length = n := by simp; omega
      have ck := R.cell (i := k) (by rw [hrl]; exact hlt)
      have fk := R.frozen k
      have R2 := R.set k (k : Int)
      rw [srow_step (fun i : Nat => (i : Int)) n k hlt] at R2
      have HR2 : Hid (NRow (wr.setCell ⟨g, k, none⟩ (.int .i64 (k : Int))) g ((List.range (k + 1)).map (fun i : Nat => (i : Int)) ++ List.replicate (n - (k + 1)) 0) ∧ But g wB (wr.setCell ⟨g, k, none⟩ (.int .i64 (k : Int)))) := ⟨R2, B.set k _⟩
      have k0 : (0 : Int) ≤ k := by omega
      have k1 : (k : Int) < n := by omega
      generalize ((List.range k).map (fun i : Nat => (i : Int)) ++ List.replicate (n - k) 0).getD k 0 = z at ck
      clear R B R2 H hrl
      go_wp2
      go_roundw
      case rel => exact ⟨k + 1, by omega, by go_num, HR2⟩
      case measure => simp [RowKit.intOf]; omega
    · have ek : k = n := by omega
      subst ek
      have k1 : ¬ (k : Int) < k := by omega
      have HC : Hid (Calls _ _ _ _ _) := HS.out wr B (by have R' := R; rw [Nat.sub_self, List.replicate_zero, List.append_nil] at R'; exact R')
      clear R B H
      go_wp2_with fail
      refine HC.out.mono ?_
      rintro e w1 ⟨rfl, hh⟩
      go_wp2
      go_ret
      rw [← hgg] at hh
      refine ⟨?_, hh⟩
      rw [hgg]; rfl
end Go.Proofs.YtiolkeipgpkbmaaGreatDoor
