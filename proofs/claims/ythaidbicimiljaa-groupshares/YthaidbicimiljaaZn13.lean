/-
  The top has all of itself and no more than all of any; without holdings nothing is others, and a house of one entity is its own statement (group.Parts, group.Whole, ledger.Statement).
-/
import Derived.Test.YthaidbicimiljaaZn12
import Derived.Test.YthaidbicimiljaaZn2
import Derived.Deep.Slices
import Derived.OpenShut
import Derived.Test.YthaidbicimiljaaZn10
import Derived.Test.YthaidbicimiljaaZn8
import Derived.Test.YthaidbicimiljaaRows
import Derived.WalkKit
import Derived.SizedLaws
import Derived.ProofKit
import Derived.ShutString
import Derived.ChangeOld
import Derived.Below
namespace Go.Proofs.Ythaidbicimiljaa
set_option linter.unusedVariables false
set_option linter.unusedSimpArgs false
set_option maxRecDepth 100000
open Go.RowKit Go.Lib Go.Maps Math

def cl2 : List Ho := [⟨1, 2, 600⟩, ⟨2, 3, 500⟩]
theorem cl2_ok : ptsBad cl2 1 = 0 := by kernel_rfl
theorem cl2_1 : (ptsL cl2 1).getD 1 0 = 600 := by kernel_rfl
theorem cl2_2 : (ptsL cl2 1).getD 2 0 = 300 := by kernel_rfl
theorem nil_ok : hBad [] = 0 := by kernel_rfl
theorem nil_pts {top : Int} (h : 1 ≤ top ∧ top ≤ 12) : ptsBad [] top = 0 := ptsBad_ok.2 ⟨nil_ok, h⟩
theorem nil_get (top : Int) (k : Nat) (hk : k < 12) : (ptsL [] top).getD k 0 = if (((k + 1 : Nat) : Int)) = top then 1000 else 0 := by
  rw [ptsL_get _ _ k hk]
  show pv [] top 1 _ = _
  unfold pv
  split
  · rfl
  · simp [ptS]
theorem nil_two (top : Int) : ∀ k, k < 12 → (ptsL [] top).getD k 0 = 0 ∨ (ptsL [] top).getD k 0 = 1000 := fun k hk => by
  rw [nil_get top k hk]
  split <;> simp
/-- The parts, added up so far. -/
def tkS (l : List Int) (k : Nat) : Int := (l.take k).sum
theorem tkS_next (l : List Int) (k : Nat) (h : k < l.length) : tkS l (k + 1) = tkS l k + l.getD k 0 := by
  unfold tkS
  rw [List.take_succ_eq_append_getElem h, List.sum_append, List.getD_eq_getElem?_getD, List.getElem?_eq_getElem h]
  simp
theorem nil_sum {top : Int} (h : 1 ≤ top ∧ top ≤ 12) : ∀ k, k ≤ 12 → tkS (ptsL [] top) k = if top ≤ k then 1000 else 0
  | 0, _ => by
    have e : tkS (ptsL [] top) 0 = 0 := rfl
    rw [e, if_neg (by omega)]
  | k + 1, hk => by
    rw [tkS_next _ _ (by rw [ptsL_len]; omega), nil_sum h k (by omega), nil_get top k (by omega)]
    by_cases e1 : top ≤ k
    · rw [if_pos e1, if_neg (by omega), if_pos (by omega)]; rfl
    · by_cases e2 : (((k + 1 : Nat) : Int)) = top
      · rw [if_neg e1, if_pos e2, if_pos (by omega)]; rfl
      · rw [if_neg e1, if_neg e2, if_neg (by omega)]; rfl
theorem addL_zero {n : Nat} {u : List Int} (h : u.length = n) : addL (List.replicate n 0) u = u := by
  subst h
  apply List.ext_getElem
  · rw [addL_len]; simp
  · intro i h1 h2
    have e1 : (addL (List.replicate u.length 0) u)[i] = (addL (List.replicate u.length 0) u).getD i 0 := by
      rw [List.getD_eq_getElem?_getD, List.getElem?_eq_getElem h1]; rfl
    rw [e1, addL_get _ _ i (by simpa using h2), List.getD_eq_getElem?_getD, List.getElem?_replicate, if_pos h2, Option.getD_some, List.getD_eq_getElem?_getD, List.getElem?_eq_getElem h2, Option.getD_some, Int.zero_add]
theorem one_to {pl : List Int} {c : List Ac} {s : List Bl} {t : Nat} (h0 : ∀ j, j ≠ t → j < 12 → pl.getD j 0 = 0) (h1 : pl.getD t 0 ≠ 0) : ∀ k, k ≤ 12 → whTo pl c s k = if k ≤ t then List.replicate c.length 0 else uL c s t
  | 0, _ => by rw [if_pos (Nat.zero_le _)]; rfl
  | k + 1, hk => by
    have ih := one_to (c := c) (s := s) h0 h1 k (by omega)
    show (if pl.getD k 0 = 0 then whTo pl c s k else addL (whTo pl c s k) (uL c s k)) = _
    by_cases e : k = t
    · subst e
      rw [if_neg h1, ih, if_pos (Nat.le_refl _), if_neg (by omega), addL_zero (uL_len c s k)]
    · rw [if_pos (h0 k e (by omega)), ih]
      by_cases e2 : k ≤ t
      · rw [if_pos e2, if_pos (by omega)]
      · rw [if_neg e2, if_neg (by omega)]
theorem one_bad {pl : List Int} {c : List Ac} {s : List Bl} {t : Nat} (h0 : ∀ j, j ≠ t → j < 12 → pl.getD j 0 = 0) (h1 : pl.getD t 0 ≠ 0) : ∀ k, k ≤ 12 → whBad pl c s k = if k ≤ t then 0 else uBad c s t (List.replicate c.length 0)
  | 0, _ => by rw [if_pos (Nat.zero_le _)]; rfl
  | k + 1, hk => by
    have ih := one_bad (c := c) (s := s) h0 h1 k (by omega)
    show (if whBad pl c s k ≠ 0 then whBad pl c s k else if pl.getD k 0 = 0 then 0 else uBad c s k (whTo pl c s k)) = _
    by_cases e : k = t
    · subst e
      rw [ih, if_pos (Nat.le_refl _), if_neg (by simp), if_neg h1, if_neg (by omega), one_to h0 h1 k (by omega), if_pos (Nat.le_refl _)]
    · by_cases e2 : k ≤ t
      · rw [ih, if_pos e2, if_neg (by simp), if_pos (h0 k e (by omega)), if_pos (by omega)]
      · rw [ih, if_neg e2, if_neg (show ¬ k + 1 ≤ t by omega)]
        by_cases e3 : uBad c s t (List.replicate c.length 0) ≠ 0
        · rw [if_pos e3]
        · rw [if_neg e3, if_pos (h0 k e (by omega))]
          exact (Decidable.of_not_not e3).symm
theorem add_fits {c : List Ac} {s : List Bl} {t : Nat} (h : rollOk c (amTo c (((t + 1 : Nat) : Int)) eurB s) c.length = true) : addOk (List.replicate c.length 0) (uL c s t) = true := by
  refine addOk_yes (fun k hk => ?_)
  have hk2 : k < c.length := by simpa using hk
  have h1 := uL_fit h k (by rw [uL_len]; exact hk2)
  rw [List.getD_eq_getElem?_getD, List.getElem?_replicate, if_pos hk2, Option.getD_some, Int.zero_add]
  exact fitB_iff.2 h1
/-- A house of one entity is its own statement. -/
theorem one_state {c : List Ac} {s : List Bl} {top : Int} (h : 1 ≤ top ∧ top ≤ 12) : gwBad (ptsL [] top) c s = stE c s top eurB ∧ whTo (ptsL [] top) c s 12 = (List.range c.length).map (rollI c (amTo c top eurB s)) := by
  obtain ⟨t, rfl⟩ : ∃ t : Nat, top = (((t + 1 : Nat) : Int)) := ⟨(top - 1).toNat, by omega⟩
  have ht : t < 12 := by omega
  have h0 : ∀ j, j ≠ t → j < 12 → (ptsL [] (((t + 1 : Nat) : Int))).getD j 0 = 0 := fun j hj hj2 => by rw [nil_get _ _ hj2, if_neg (by omega)]
  have h1 : (ptsL [] (((t + 1 : Nat) : Int))).getD t 0 ≠ 0 := by rw [nil_get _ _ ht, if_pos rfl]; decide
  refine ⟨?_, ?_⟩
  · unfold gwBad stE
    rw [one_bad h0 h1 12 (Nat.le_refl _), if_neg (show ¬ 12 ≤ t by omega)]
    unfold uBad
    by_cases c1 : chBad c ≠ 0
    · rw [if_pos c1, if_pos c1]
    · by_cases c2 : chk s ≠ 0
      · rw [if_neg c1, if_neg c1, if_pos c2, if_pos c2]
      · rw [if_neg c1, if_neg c1, if_neg c2, if_neg c2]
        cases hn : s.any (amNo c (((t + 1 : Nat) : Int)) eurB)
        · cases hr : rollOk c (amTo c (((t + 1 : Nat) : Int)) eurB s) c.length
          · simp
          · simp [add_fits hr]
        · simp
  · rw [one_to h0 h1 12 (Nat.le_refl _), if_neg (show ¬ 12 ≤ t by omega)]
    rfl
theorem enE_i {z : Int} (h : z ≠ 0) : enE z = .iface 41 (.int .i64 z) := if_neg h
theorem hasInts_ir {w : World} {g : Nat} {r : List Int} (h : IRow w g r) (n : Nat) (hn : r.length = n) : HasInts w (.slice (some ⟨g, 0, none⟩) n n) r := by
  subst hn
  exact ⟨_, _, rfl, .inr ⟨g, 0, rfl, fun k hk => by rw [Nat.zero_add]; exact irow_cell h hk⟩⟩
end Go.Proofs.Ythaidbicimiljaa

namespace Go.Proofs.Ythaidbicimiljaa
set_option linter.unusedVariables false
set_option linter.unusedSimpArgs false
set_option maxRecDepth 100000
open Go.RowKit Go.Lib Go.Maps Math

def isE (x : Bl) : Bool := decide (x.cur = eurB)
theorem isE_next (b : List Bl) (k : Nat) (h : k < b.length) : (b.take (k + 1)).filter isE = (b.take k).filter isE ++ (if (b.getD k bl0).cur = eurB then [b.getD k bl0] else []) := by
  rw [bls_take b k h, List.filter_append]
  congr 1
  by_cases hh : (b.getD k bl0).cur = eurB
  · rw [List.filter_cons_of_pos (by unfold isE; exact decide_eq_true hh), if_pos hh]; rfl
  · rw [List.filter_cons_of_neg (by unfold isE; simpa using hh), if_neg hh]; rfl
theorem isE_len (b : List Bl) (k : Nat) : ((b.take k).filter isE).length ≤ k := by
  have h1 := List.length_filter_le isE (b.take k)
  have h2 : (b.take k).length ≤ k := by rw [List.length_take]; omega
  omega

set_option maxHeartbeats 20000000 in
theorem shares_walk' (a a2 a3 : Option Addr) (cap cap2 cap3 : Nat) (c : List Ac) (hs : List Ho) (top : Int) (b : List Bl) (w : World) (h : IsSl w a c cap) (hh : IsHo w a2 hs cap2) (hhl : hs.length ≤ 9223372036854775807) (hb : IsBl w a3 b cap3) (hbs : b.length * 48 ≤ 140737488355328) :
    Calls Try.prog 3 #[.slice a c.length cap, .slice a2 hs.length cap2, .int .i64 top, .slice a3 b.length cap3] w fun e w' => e = .returned (.bool true) ∧ Below w.heap.size w w' := by
  have HSl : Hid (IsSl w a c cap) := h
  have HHo : Hid (IsHo w a2 hs cap2) := hh
  have HBl : Hid (IsBl w a3 b cap3) := hb
  have HBs : Hid (b.length * 48 ≤ 140737488355328) := hbs
  obtain ⟨W0, hW0⟩ : ∃ W0, w.alloc (.cells #[.int .i64 1, .int .i64 2, .int .i64 600, .int .i64 2, .int .i64 3, .int .i64 500] 31) = W0 := ⟨_, rfl⟩
  have hb0 : Below w.heap.size w W0 := by rw [← hW0]; exact (Below.refl _ w).alloc (Nat.le_refl _) _
  have his : IsHo W0 (some ⟨w.heap.size, 0, none⟩) cl2 2 := by
    refine ⟨Nat.le_refl _, .inr ⟨w.heap.size, 0, rfl, by rw [← hW0]; simp, fun k hk => ?_⟩⟩
    rw [← hW0]
    rcases (by simp [cl2] at hk; omega : k = 0 ∨ k = 1) with rfl | rfl
    · exact ⟨by simp [cl2], by simp [cl2], by simp [cl2]⟩
    · exact ⟨by simp [cl2], by simp [cl2], by simp [cl2]⟩
  have HP0 : Hid (Calls Try.prog 4 #[.slice (some ⟨w.heap.size, 0, none⟩) 2 2, .int .i64 1] W0 fun e w' => ∃ g, e = .returned (.tuple #[.slice (some ⟨g, 0, none⟩) 12 12, .nilIface]) ∧ w'.cell? ⟨g, 1, none⟩ = some (.int .i64 600) ∧ w'.cell? ⟨g, 2, none⟩ = some (.int .i64 300) ∧ Below w.heap.size w w') := by
    refine (grParts_any (some ⟨w.heap.size, 0, none⟩) 2 cl2 1 W0 (by decide) his).mono ?_
    rintro e w' ⟨h1, _, h3⟩
    obtain ⟨g, h4, h5, h6⟩ := h3 cl2_ok
    have q1 := h6.cell (i := 1) (by rw [ptsL_len]; decide)
    have q2 := h6.cell (i := 2) (by rw [ptsL_len]; decide)
    rw [cl2_1] at q1
    rw [cl2_2] at q2
    exact ⟨g, h4, q1, q2, hb0.trans (h1.mono hb0.size)⟩
  have HP1 : Hid (∀ W, Below w.heap.size w W → Calls Try.prog 4 #[.slice a2 hs.length cap2, .int .i64 top] W (PtsEnd hs top W)) := fun W hW => grParts_any a2 cap2 hs top W hhl (HHo.out.below hW)
  have HW0 : Hid (w.alloc (.cells #[.int .i64 1, .int .i64 2, .int .i64 600, .int .i64 2, .int .i64 3, .int .i64 500] 31) = W0) := hW0
  have hn6 : ((600 : Int) != 600) = false := rfl
  have hn3 : ((300 : Int) != 300) = false := rfl
  clear h hh hb hbs hb0 his hW0
  by_cases hpb : ptsBad hs top ≠ 0
  · have HP1' : Hid (∀ W, Below w.heap.size w W → Calls Try.prog 4 #[.slice a2 hs.length cap2, .int .i64 top] W fun e w' => e = .returned (.tuple #[.slice none 0 0, .iface 41 (.int .i64 (ptsBad hs top))]) ∧ Below w.heap.size w w') := fun W hW => by
      refine (HP1.out W hW).mono ?_
      rintro e w' ⟨h1, h2, _⟩
      rw [grE_ne hpb] at h2
      exact ⟨h2 hpb, hW.trans (h1.mono hW.size)⟩
    clear HP1
    generalize ptsBad hs top = z at *
    go_enter Try.func3, Try.ntmps3
    go_wp2_with (go_at_call 4; rw [HW0.out]; refine HP0.out.mono ?_; rintro e w1 ⟨g, rfl, q1, q2, hb1⟩)
    go_wp2_with fail
    refine (HP1'.out w1 hb1).mono ?_
    rintro e w2 ⟨rfl, hb2⟩
    have HB2 : Hid (Below w.heap.size w w2) := hb2
    clear hb2
    go_wp2
    go_ret
    exact ⟨rfl, HB2.out⟩
  have hp0 := Decidable.of_not_not hpb
  have htop := (ptsBad_ok.1 hp0).2
  have HP1' : Hid (∀ W, Below w.heap.size w W → Calls Try.prog 4 #[.slice a2 hs.length cap2, .int .i64 top] W fun e w' => ∃ g, e = .returned (.tuple #[.slice (some ⟨g, 0, none⟩) 12 12, .nilIface]) ∧ NRow w' g (ptsL hs top) ∧ Below w.heap.size w w') := fun W hW => by
    refine (HP1.out W hW).mono ?_
    rintro e w' ⟨h1, _, h3⟩
    obtain ⟨g, h4, h5, h6⟩ := h3 hp0
    exact ⟨g, h4, h6, hW.trans (h1.mono hW.size)⟩
  have HPn : Hid (∀ W, Below w.heap.size w W → Calls Try.prog 4 #[.slice none 0 0, .int .i64 top] W fun e w' => ∃ g, e = .returned (.tuple #[.slice (some ⟨g, 0, none⟩) 12 12, .nilIface]) ∧ NRow w' g (ptsL [] top) ∧ Below w.heap.size w w') := fun W hW => by
    refine (grParts_any none 0 [] top W (by decide) (isHo_nil W)).mono ?_
    rintro e w' ⟨h1, _, h3⟩
    obtain ⟨g, h4, h5, h6⟩ := h3 (nil_pts htop)
    exact ⟨g, h4, h6, hW.trans (h1.mono hW.size)⟩
  have HWh : Hid (∀ W a' c' (S : List Bl), Below w.heap.size w W → IsBl W a' S c' → S.length ≤ 9223372036854775807 → (∀ x ∈ S, x.cur = eurB) → Calls Try.prog 5 #[.slice a c.length cap, .slice none 0 0, .string eurB, .slice none 0 0, .int .i64 top, .slice a' S.length c', .int .i64 1] W (GwEnd (ptsL [] top) c S W)) := fun W a' c' S hW hS hl hcu =>
    whole_any a a' none cap c' 0 c [] top S W (HSl.out.below hW) (isHo_nil W) (by decide) hS hl hcu (nil_pts htop) (nil_two top)
  have HSt : Hid (∀ W a' c' (S : List Bl), Below w.heap.size w W → IsBl W a' S c' → S.length ≤ 9223372036854775807 → Calls Try.prog 6 #[.slice a c.length cap, .slice a' S.length c', .int .i64 top, .string eurB] W (StEnd c S top eurB W)) := fun W a' c' S hW hS hl => statement_any a a' cap c' c S top eurB W (HSl.out.below hW) hS hl
  have HSame : Hid (∀ S, gwBad (ptsL [] top) c S = stE c S top eurB ∧ whTo (ptsL [] top) c S 12 = (List.range c.length).map (rollI c (amTo c top eurB S))) := fun S => one_state htop
  have hbd : ∀ k, k < 12 → 0 ≤ (ptsL hs top).getD k 0 ∧ (ptsL hs top).getD k 0 ≤ 1000 ∧ ((((k + 1 : Nat) : Int)) = top → (ptsL hs top).getD k 0 = 1000) := fun k hk => by
    obtain ⟨hok, _, hs13, _⟩ := hBad_ok (ptsBad_ok.1 hp0).1
    have h1 := pv_bd hok hs13 top (hs.length + 1) (((k + 1 : Nat) : Int)) (by omega) (by omega)
    rw [ptsL_get _ _ k hk]
    refine ⟨h1.1, h1.2, fun e => ?_⟩
    rw [e]
    unfold pv
    rw [if_pos rfl]
  have HBd : Hid (∀ k, k < 12 → _) := hbd
  have HSm : Hid (∀ k, k ≤ 12 → tkS (ptsL [] top) k = if top ≤ k then 1000 else 0) := nil_sum htop
  have HGt : Hid (∀ k, k < 12 → tkS (ptsL [] top) (k + 1) = tkS (ptsL [] top) k + (ptsL [] top).getD k 0) := fun k hk => tkS_next _ _ (by rw [ptsL_len]; exact hk)
  have HL1 : Hid ((ptsL hs top).length = 12 ∧ (ptsL [] top).length = 12) := ⟨ptsL_len _ _, ptsL_len _ _⟩
  clear hpb hp0 HP1 hbd
  generalize ptsL hs top = p1 at *
  go_enter Try.func3, Try.ntmps3
  go_wp2_with (go_at_call 4; rw [HW0.out]; refine HP0.out.mono ?_; rintro e w1 ⟨g, rfl, q1, q2, hb1⟩)
  go_wp2_with fail
  refine (HP1'.out w1 hb1).mono ?_
  rintro e w2 ⟨g1, rfl, hr2, hb2⟩
  have HR2 : Hid (NRow w2 g1 p1) := hr2
  have HB2 : Hid (Below w.heap.size w w2) := hb2
  clear hr2 hb2 hb1 q1 q2 HP0 HP1' HW0
  go_wp2
  go_loop [13] (fun i => ∃ k : Nat, k ≤ 12 ∧ i = .int .i64 k) (fun i => 12 - (RowKit.intOf i).toNat)
  case atStart => exact ⟨0, Nat.zero_le _, rfl⟩
  case round =>
    obtain ⟨k, hk, rfl⟩ := hrel
    by_cases hlt : k < 12
    · have qk := HR2.out.cell (i := k) (by have := HL1.out.1; omega)
      obtain ⟨b1, b2, b3⟩ := HBd.out k hlt
      generalize p1.getD k 0 = z at *
      have i0 : (0 : Int) ≤ k := by omega
      have i1 : (k : Int) < 12 := by omega
      by_cases ht : (k : Int) + 1 = top
      · have hz := b3 (by omega)
        subst hz
        subst ht
        go_wp2
        go_round
        case rel => exact ⟨k + 1, by omega, by go_num⟩
        case measure => simp [RowKit.intOf]; omega
      · have ht2 : ((k : Int) + 1 == top) = false := beq_eq_false_iff_ne.2 ht
        clear b3
        go_wp2
        go_round
        case rel => exact ⟨k + 1, by omega, by go_num⟩
        case measure => simp [RowKit.intOf]; omega
    · have hk12 : (12 : Int) ≤ k := by omega
      clear HBd HR2 hlt hk
      go_wp2_with fail
      refine (HPn.out w2 HB2.out).mono ?_
      rintro e w3 ⟨g3, rfl, hr3, hb3⟩
      have HR3 : Hid (NRow w3 g3 (ptsL [] top)) := hr3
      have HB3 : Hid (Below w.heap.size w w3) := hb3
      clear hr3 hb3 HPn HB2
      go_wp2
      go_loop [16, 17] (fun v i => ∃ j : Nat, j ≤ 12 ∧ i = .int .i64 j ∧ v = .int .i64 (tkS (ptsL [] top) j)) (fun _ i => 12 - (RowKit.intOf i).toNat)
      case atStart => exact ⟨0, Nat.zero_le _, rfl, rfl⟩
      case round =>
        obtain ⟨j, hj, rfl, rfl⟩ := hrel
        have hsj := HSm.out j hj
        by_cases hlj : j < 12
        · have qj := HR3.out.cell (i := j) (by have := HL1.out.2; omega)
          have hnx := HGt.out j hlj
          have hsj2 := HSm.out (j + 1) (by omega)
          have HNx : Hid (tkS (ptsL [] top) (j + 1) = tkS (ptsL [] top) j + (ptsL [] top).getD j 0) := hnx
          have b1 : 0 ≤ tkS (ptsL [] top) j ∧ tkS (ptsL [] top) j ≤ 1000 := by rw [hsj]; split <;> omega
          have b2 : -1000 ≤ (ptsL [] top).getD j 0 ∧ (ptsL [] top).getD j 0 ≤ 1000 := by
            have : 0 ≤ tkS (ptsL [] top) (j + 1) ∧ tkS (ptsL [] top) (j + 1) ≤ 1000 := by rw [hsj2]; split <;> omega
            omega
          clear hsj hsj2 hnx
          generalize (ptsL [] top).getD j 0 = z at *
          generalize tkS (ptsL [] top) j = S0 at *
          have j0 : (0 : Int) ≤ j := by omega
          have j1 : (j : Int) < 12 := by omega
          go_wp2
          go_round
          case rel => exact ⟨j + 1, by omega, by go_num, by rw [HNx.out]⟩
          case measure => simp [RowKit.intOf]; omega
        · have hj12 : (12 : Int) ≤ j := by omega
          have e1 : tkS (ptsL [] top) j = 1000 := by rw [hsj, if_pos (by omega)]
          rw [e1]
          clear hsj hlj hj e1 HSm HGt HR3
          have hn1 : ((1000 : Int) != 1000) = false := rfl
          go_wp2
          go_loopw [18, 19] (fun v i wr => ∃ (k : Nat) (sa : Option Addr) (sn sc : Nat), k ≤ b.length ∧ i = .int .i64 k ∧ v = .slice sa sn sc ∧ Hid (sn = ((b.take k).filter isE).length ∧ BlRow wr w3.heap.size (.slice sa sn sc) ((b.take k).filter isE) ∧ Below w3.heap.size w3 wr)) (fun _ i _ => b.length - (RowKit.intOf i).toNat)
          case atStart => exact ⟨0, none, 0, 0, Nat.zero_le _, rfl, rfl, rfl, BlRow.nil _ _, Below.refl _ _⟩
          case round =>
            obtain ⟨k, sa, sn, sc, hk, rfl, rfl, HR⟩ := hrel
            by_cases hkb : k < b.length
            · obtain ⟨bb, off, rfl, hbb, hcc⟩ := HBl.out.some hkb
              have hbw : Below w.heap.size w wr := HB3.out.trans (HR.out.2.2.mono HB3.out.size)
              have hx := (hcc k hkb).below hbw hbb
              have hnx := isE_next b k hkb
              have hln := isE_len b k
              have i0 : (0 : Int) ≤ k := by omega
              have i1 : (k : Int) < b.length := by omega
              have hbl9 : (b.length : Int) ≤ 9223372036854775807 := by have := HBs.out; omega
              obtain ⟨x, hxx⟩ : ∃ x, b.getD k bl0 = x := ⟨_, rfl⟩
              rw [hxx] at hx hnx
              have HNx : Hid ((b.take (k + 1)).filter isE = (b.take k).filter isE ++ (if x.cur = eurB then [x] else [])) := hnx
              clear hxx hcc hnx HWh HSt HSame
              by_cases hc : x.cur = eurB
              · have hbZ : Below wr.heap.size wr (wr.alloc (.cells x.cells 33)) := (Below.refl _ _).alloc (Nat.le_refl _) _
                have HAdd : Hid (∀ v' w6, World.ownsRow w6 w3.heap.size 33 4 v' (((b.take k).filter isE).length + 1) (blRow ((b.take k).filter isE) ++ x.cells.toList) → (wr.alloc (.cells x.cells 33)).grownBy w6 (Value.slice sa sn sc).ownBlock → ∃ ta tn tc, v' = .slice ta tn tc ∧ tn = ((b.take (k + 1)).filter isE).length ∧ BlRow w6 w3.heap.size (.slice ta tn tc) ((b.take (k + 1)).filter isE) ∧ Below w3.heap.size w3 w6) := fun v' w6 h1 h2 => by
                  have e1 : (b.take (k + 1)).filter isE = (b.take k).filter isE ++ [x] := by rw [HNx.out, if_pos hc]
                  have h3 : BlRow w6 w3.heap.size v' ((b.take (k + 1)).filter isE) := by
                    rw [e1]
                    unfold BlRow
                    rw [blRow_append, blRow_one, List.length_append]
                    exact h1
                  obtain ⟨ta, tc, rfl, _⟩ := h3.isBl
                  exact ⟨ta, _, tc, rfl, rfl, h3, (HR.out.2.2.trans (hbZ.mono HR.out.2.2.size)).grown h2 (Nat.le_trans HR.out.2.2.size hbZ.size) fun j e => HR.out.2.1.own j e⟩
                have HRow : Hid (World.ownsRow (wr.alloc (.cells x.cells 33)) w3.heap.size 33 4 (.slice sa sn sc) ((b.take k).filter isE).length (blRow ((b.take k).filter isE))) := World.ownsRow.alloc HR.out.2.1 _
                have s2 : Hid (((b.take k).filter isE).length + 1 ≤ maxLen ∧ (((b.take k).filter isE).length + 1) * 48 ≤ 140737488355328) := by
                  have h1 := HBs.out
                  unfold Hid maxLen
                  omega
                have s4 : Hid (w3.heap.size ≤ (wr.alloc (.cells x.cells 33)).heap.size) := Nat.le_trans HR.out.2.2.size hbZ.size
                have s5 : Hid (∀ u ∈ x.cells.toList, u.oneCell' = true) := by have := blRow_one_cell [x]; rw [blRow_one] at this; exact this
                obtain ⟨qi, hq, hz0, hz1, hz2⟩ := info_parts bl_info
                obtain ⟨x0, x1, x2, x3⟩ := x
                obtain ⟨d0, d1, d2, d3⟩ := hx
                simp only [Bl.cells] at d0 d1 d2 d3 hc HAdd HRow s4 s5
                subst hc
                have el : eurB.toList = [69, 85, 82] := by kernel_rfl
                clear HNx HR hbZ hbw hln
                generalize blRow ((b.take k).filter isE) = OL at HAdd HRow
                generalize ((b.take k).filter isE).length = ON at HAdd HRow s2
                go_wp2_with (at_builtin; refine wpList_append_own _ rfl _ _ 24 rfl w3.heap.size 33 qi (.agg #[.int .i64 0, .string ByteArray.empty, .string ByteArray.empty, .int .i64 0]) 4 48 Try.underlying24 hq hz0 hz1 hz2 rfl (by decide) _ _ _ rfl HRow.out ⟨wr.heap.size, 0, none⟩ 1 1 [.int .i64 x0, .string x1, .string ⟨#[69, 85, 82]⟩, .int .i64 x3] rfl rfl (World.news_of_block (World.alloc_heap_new wr _)) s5.out s2.out.1 s2.out.2 s4.out ?_)
                intro v' w6 hown' hgrow _
                obtain ⟨ta, tn, tc, rfl, hn1', hn2', hn3'⟩ := HAdd.out v' w6 hown' hgrow
                have HN2 : Hid _ := And.intro hn1' (And.intro hn2' hn3')
                clear HAdd HRow hown' hgrow hn1' hn2' hn3' d0 d1 d2 d3
                go_wp2
                go_roundw
                case rel => exact ⟨k + 1, ta, tn, tc, by omega, by go_num, rfl, HN2⟩
                case measure => simp [RowKit.intOf]; omega
              · have HN2 : Hid (sn = ((b.take (k + 1)).filter isE).length ∧ BlRow wr w3.heap.size (.slice sa sn sc) ((b.take (k + 1)).filter isE) ∧ Below w3.heap.size w3 wr) := by
                  have e1 : (b.take (k + 1)).filter isE = (b.take k).filter isE := by rw [HNx.out, if_neg hc, List.append_nil]
                  rw [e1]; exact HR.out
                have hc' := ch_ne hc
                have el : eurB.toList = [69, 85, 82] := by kernel_rfl
                rw [el] at hc'
                have hc2 : ¬ x.cur.toList = [69, 85, 82] := by simpa using hc'
                obtain ⟨x0, x1, x2, x3⟩ := x
                obtain ⟨d0, d1, d2, d3⟩ := hx
                simp only at d0 d1 d2 d3 hc' hc2
                clear HNx HR hbw hln hc el
                go_wp2
                go_roundw
                case rel => exact ⟨k + 1, sa, sn, sc, by omega, by go_num, rfl, HN2⟩
                case measure => simp [RowKit.intOf]; omega
            · have hkb2 : k = b.length := by omega
              subst hkb2
              rw [List.take_length] at HR
              obtain ⟨hsn, hrow, hbw⟩ := HR.out
              have hSl : (b.filter isE).length ≤ b.length := List.length_filter_le _ _
              have hlS : (b.filter isE).length ≤ 9223372036854775807 := by have := HBs.out; omega
              have hcuS : ∀ x ∈ b.filter isE, x.cur = eurB := fun x hx => by simpa [isE] using (List.mem_filter.1 hx).2
              obtain ⟨S, hS⟩ : ∃ S, b.filter isE = S := ⟨_, rfl⟩
              rw [hS] at hsn hrow hlS hcuS
              subst hsn
              obtain ⟨_, hisS⟩ := hrow.isBl'
              have HB4 : Hid (Below w.heap.size w wr) := HB3.out.trans (hbw.mono HB3.out.size)
              have HW4 : Hid (Calls Try.prog 5 #[.slice a c.length cap, .slice none 0 0, .string eurB, .slice none 0 0, .int .i64 top, .slice sa S.length sc, .int .i64 1] wr (GwEnd (ptsL [] top) c S wr)) := HWh.out wr sa sc S HB4.out hisS hlS hcuS
              have HSt4 : Hid (∀ W, Below wr.heap.size wr W → Calls Try.prog 6 #[.slice a c.length cap, .slice sa S.length sc, .int .i64 top, .string eurB] W (StEnd c S top eurB W)) := fun W hW => HSt.out W sa sc S (HB4.out.trans (hW.mono HB4.out.size)) (hisS.below hW) hlS
              obtain ⟨hs1, hs2⟩ := HSame.out S
              have HSame2 : Hid (whTo (ptsL [] top) c S 12 = (List.range c.length).map (rollI c (amTo c top eurB S))) := hs2
              clear HR hbw hSl hcuS hS hrow HWh HSt HSame hisS hs2
              by_cases hz : stE c S top eurB ≠ 0
              · have HW5 : Hid (Calls Try.prog 5 #[.slice a c.length cap, .slice none 0 0, .string eurB, .slice none 0 0, .int .i64 top, .slice sa S.length sc, .int .i64 1] wr fun e w' => e = .returned (.tuple #[.slice none 0 0, .slice none 0 0, .iface 41 (.int .i64 (stE c S top eurB))]) ∧ Below wr.heap.size wr w') := by
                  refine HW4.out.mono ?_
                  rintro e w' ⟨r1, r2, _⟩
                  rw [hs1] at r2
                  exact ⟨r2 hz, r1⟩
                have HSt5 : Hid (∀ W, Below wr.heap.size wr W → Calls Try.prog 6 #[.slice a c.length cap, .slice sa S.length sc, .int .i64 top, .string eurB] W fun e w' => e = .returned (.tuple #[.slice none 0 0, .iface 41 (.int .i64 (stE c S top eurB))]) ∧ Below wr.heap.size wr w') := fun W hW => by
                  refine (HSt4.out W hW).mono ?_
                  rintro e w' ⟨r1, r2, _⟩
                  rw [enE_i hz] at r2
                  exact ⟨r2 hz, hW.trans (r1.mono hW.size)⟩
                clear HW4 HSt4 HSame2 hs1
                generalize stE c S top eurB = z at *
                go_wp2_with fail
                refine HW5.out.mono ?_
                rintro e w5 ⟨rfl, hb5⟩
                have HB5 : Hid (Below wr.heap.size wr w5) := hb5
                clear hb5 HW5
                go_wp2_with fail
                refine (HSt5.out w5 HB5.out).mono ?_
                rintro e w6 ⟨rfl, hb6⟩
                have HB6 : Hid (Below w.heap.size w w6) := HB4.out.trans (hb6.mono HB4.out.size)
                clear hb6 HSt5 HB5
                go_wp2_with fail
                go_quiet (fail)
                go_wp2
                go_ret
                exact ⟨by first | rfl | simp, ga_drewN HB6.out _⟩
              · have hz0 := Decidable.of_not_not hz
                have HW5 : Hid (Calls Try.prog 5 #[.slice a c.length cap, .slice none 0 0, .string eurB, .slice none 0 0, .int .i64 top, .slice sa S.length sc, .int .i64 1] wr fun e w' => ∃ g1 g2, e = .returned (.tuple #[.slice (some ⟨g1, 0, none⟩) c.length c.length, .slice (some ⟨g2, 0, none⟩) c.length c.length, .nilIface]) ∧ IRow w' g1 ((List.range c.length).map (rollI c (amTo c top eurB S))) ∧ IRow w' g2 (List.replicate c.length 0) ∧ Below wr.heap.size wr w') := by
                  refine HW4.out.mono ?_
                  rintro e w' ⟨r1, _, r3⟩
                  obtain ⟨g1, g2, r4, r5, r6⟩ := r3 (hs1.trans hz0)
                  rw [HSame2.out] at r5
                  exact ⟨g1, g2, r4, r5, r6, r1⟩
                have HSt5 : Hid (∀ W, Below wr.heap.size wr W → Calls Try.prog 6 #[.slice a c.length cap, .slice sa S.length sc, .int .i64 top, .string eurB] W fun e w' => ∃ g, e = .returned (.tuple #[.slice (some ⟨g, 0, none⟩) c.length c.length, .nilIface]) ∧ IRow w' g ((List.range c.length).map (rollI c (amTo c top eurB S))) ∧ Below W.heap.size W w') := fun W hW => by
                  refine (HSt4.out W hW).mono ?_
                  rintro e w' ⟨r1, _, r3⟩
                  obtain ⟨g, r4, r5⟩ := r3 hz0
                  exact ⟨g, r4, r5.out, r1⟩
                have hc0 : chBad c = 0 := by
                  unfold stE at hz0
                  by_cases e : chBad c ≠ 0
                  · rw [if_pos e] at hz0; exact absurd hz0 e
                  · exact Decidable.of_not_not e
                have h60 := chBad_len hc0
                have hcl : (c.length : Int) ≤ 60 := by omega
                have hRl : ((List.range c.length).map (rollI c (amTo c top eurB S))).length = c.length := by simp
                have HRl : Hid (((List.range c.length).map (rollI c (amTo c top eurB S))).length = c.length) := hRl
                clear HW4 HSt4 HSame2 hs1 hz hz0 hc0 hRl
                generalize (List.range c.length).map (rollI c (amTo c top eurB S)) = R at *
                go_wp2_with fail
                refine HW5.out.mono ?_
                rintro e w5 ⟨g1, g2, rfl, hr5, ho5, hb5⟩
                have HR5 : Hid (IRow w5 g1 R ∧ IRow w5 g2 (List.replicate c.length 0) ∧ Below wr.heap.size wr w5) := ⟨hr5, ho5, hb5⟩
                clear hr5 ho5 hb5 HW5
                go_wp2_with fail
                refine (HSt5.out w5 HR5.out.2.2).mono ?_
                rintro e w6 ⟨g, rfl, hr6, hb6⟩
                have HR6 : Hid (IRow w6 g1 R ∧ IRow w6 g2 (List.replicate c.length 0) ∧ IRow w6 g R ∧ Below w.heap.size w w6) :=
                  ⟨irow_below HR5.out.1 hb6 (irow_lt HR5.out.1), irow_below HR5.out.2.1 hb6 (irow_lt HR5.out.2.1), hr6, HB4.out.trans ((HR5.out.2.2.trans (hb6.mono HR5.out.2.2.size)).mono HB4.out.size)⟩
                clear hr6 hb6 HSt5 HR5
                go_wp2
                go_loop [24] (fun i => ∃ q : Nat, q ≤ c.length ∧ i = .int .i64 q) (fun i => c.length - (RowKit.intOf i).toNat)
                case atStart => exact ⟨0, Nat.zero_le _, rfl⟩
                case round =>
                  obtain ⟨q, hq, rfl⟩ := hrel
                  have q0 : (0 : Int) ≤ q := by omega
                  by_cases hqc : q < c.length
                  · have q1 : (q : Int) < c.length := by omega
                    have qz := irow_cell HR6.out.2.1 (i := q) (by simpa using hqc)
                    rw [List.getD_eq_getElem?_getD, List.getElem?_replicate, if_pos hqc, Option.getD_some] at qz
                    go_wp2
                    go_round
                    case rel => exact ⟨q + 1, by omega, by go_num⟩
                    case measure => simp [RowKit.intOf]; omega
                  · have q1 : ¬ (q : Int) < c.length := by omega
                    have HI : Hid (HasInts w6 (.slice (some ⟨g1, 0, none⟩) c.length c.length) R ∧ HasInts w6 (.slice (some ⟨g, 0, none⟩) c.length c.length) R) := ⟨hasInts_ir HR6.out.1 _ HRl.out, hasInts_ir HR6.out.2.2.1 _ HRl.out⟩
                    have HSm2 : Hid (Calls Try.prog 7 #[.slice (some ⟨g1, 0, none⟩) c.length c.length, .slice (some ⟨g, 0, none⟩) c.length c.length] w6 fun e w' => e = .returned (.bool true) ∧ Below w6.heap.size w6 w') := sameInts_any _ _ R w6 (by rw [HRl.out]; omega) HI.out.1 HI.out.2
                    go_wp2_with fail
                    refine HSm2.out.mono ?_
                    rintro e w7 ⟨rfl, hb7⟩
                    have HB7 : Hid (Below w.heap.size w w7) := HR6.out.2.2.2.trans (hb7.mono HR6.out.2.2.2.size)
                    clear hb7 HSm2 HI HR6
                    go_wp2
                    go_ret
                    exact ⟨rfl, HB7.out⟩
end Go.Proofs.Ythaidbicimiljaa

namespace Go.Proofs.Ythaidbicimiljaa
set_option linter.unusedVariables false
set_option linter.unusedSimpArgs false
set_option maxRecDepth 100000
open Go.RowKit Go.Lib Go.Deep

section
variable {H : Type} {enc : TypeId × Value → H} {w : World} {base : Nat} {spare : Nat → Bool} {held : Bool}

theorem ch_string {m : Nat} {c : Value} {y : DataW H × List MemPlace} (h : DataW.trod enc Try.prog w base spare held m 9 [c] = some y) : ∃ s, c = .string s ∧ s.size ≤ maxLen := by
  cases m with
  | zero => simp [DataW.trod] at h
  | succ m =>
    rw [DataW.trod_step] at h
    unfold DataW.trodStep at h
    rw [Try.underlying9] at h
    cases c <;> simp at h
    exact ⟨_, rfl, h.1⟩

theorem ch_int {m : Nat} {c : Value} {y : DataW H × List MemPlace} (h : DataW.trod enc Try.prog w base spare held m 3 [c] = some y) : ∃ n, c = .int .i64 n ∧ (Lit.int .i64 n).wf = true := by
  cases m with
  | zero => simp [DataW.trod] at h
  | succ m =>
    rw [DataW.trod_step] at h
    unfold DataW.trodStep at h
    rw [Try.underlying3] at h
    cases c <;> simp at h
    rename_i k n
    obtain ⟨⟨rfl, h2⟩, _⟩ := h
    exact ⟨n, rfl, h2⟩

theorem ch_bool {m : Nat} {c : Value} {y : DataW H × List MemPlace} (h : DataW.trod enc Try.prog w base spare held m 4 [c] = some y) : ∃ n, c = .bool n := by
  cases m with
  | zero => simp [DataW.trod] at h
  | succ m =>
    rw [DataW.trod_step] at h
    unfold DataW.trodStep at h
    rw [Try.underlying4] at h
    cases c <;> simp at h
    exact ⟨_, rfl⟩

/-- What is asked of an account that came in. -/
def AcOk (a : Ac) : Prop := a.code.size ≤ maxLen ∧ a.name.size ≤ maxLen ∧ (Lit.int .i64 a.kind).wf = true ∧ a.par.size ≤ maxLen

theorem acct_cells : Try.prog.cellsOf 53 = 5 := by kernel_rfl
theorem acct_str : Try.prog.cellsOf 9 = 1 := by kernel_rfl
theorem acct_int : Try.prog.cellsOf 3 = 1 := by kernel_rfl
theorem acct_bool : Try.prog.cellsOf 4 = 1 := by kernel_rfl

theorem open_acct {m : Nat} {cs : List Value} {x : DataW H × List MemPlace} (h : DataW.trod enc Try.prog w base spare held m 53 cs = some x) : ∃ a : Ac, cs = a.cells.toList ∧ AcOk a := by
  cases m with
  | zero => simp [DataW.trod] at h
  | succ m =>
    rw [DataW.trod_step] at h
    unfold DataW.trodStep at h
    rw [Try.underlying53] at h
    simp only [acct_cells] at h
    split at h
    · rename_i hl
      match cs, hl with
      | [c0, c1, c2, c3, c4], _ =>
        simp [acct_str, acct_int, acct_bool] at h
        cases h0 : DataW.trod enc Try.prog w base spare held m 9 [c0]
        · simp [h0] at h
        cases h1 : DataW.trod enc Try.prog w base spare held m 9 [c1]
        · simp [h0, h1] at h
        cases h2 : DataW.trod enc Try.prog w base spare held m 3 [c2]
        · simp [h0, h1, h2] at h
        cases h3 : DataW.trod enc Try.prog w base spare held m 9 [c3]
        · simp [h0, h1, h2, h3] at h
        cases h4 : DataW.trod enc Try.prog w base spare held m 4 [c4]
        · simp [h0, h1, h2, h3, h4] at h
        obtain ⟨f, rfl, hf⟩ := ch_string h0
        obtain ⟨t, rfl, ht⟩ := ch_string h1
        obtain ⟨p, rfl, hp⟩ := ch_int h2
        obtain ⟨n, rfl, hn⟩ := ch_string h3
        obtain ⟨d, rfl⟩ := ch_bool h4
        exact ⟨⟨f, t, p, n, d⟩, rfl, hf, ht, hp, hn⟩
    · cases h

theorem ac_cells (w : World) (b off : Nat) (a : Ac) (h : ∀ i, i < 5 → w.cell? ⟨b, off + i, none⟩ = a.cells.toList[i]?) : AcAt w b off a :=
  ⟨h 0 (by omega), h 1 (by omega), h 2 (by omega), h 3 (by omega), h 4 (by omega)⟩

theorem ch_add (b off n : Nat) : (⟨b, off, none⟩ : Addr).add n = ⟨b, off + n, none⟩ := by
  unfold Addr.add
  split
  · rename_i h; subst h; rfl
  · rfl

/-- A chart that came in. -/
theorem acs_of_trod {W : World} {a : Option Addr} {len cap fuel : Nat} {x : DataW H × List MemPlace} (h : DataW.trod enc Try.prog W 0 (fun _ => true) true fuel 22 [.slice a len cap] = some x) :
    ∃ l : List Ac, l.length = len ∧ (∀ k, k < l.length → AcOk (l.getD k ac0)) ∧ IsSl W a l cap := by
  rcases open_slice Try.underlying22 h with ⟨hcs, _⟩ | ⟨x, l, c, m, n, D, Pl, hcs, _, hl, hm, hmm, _, hx⟩
  · simp at hcs
    obtain ⟨rfl, rfl, rfl⟩ := hcs
    exact ⟨[], rfl, by simp, ⟨by simp, .inl rfl⟩⟩
  · simp at hcs
    obtain ⟨rfl, rfl, rfl⟩ := hcs
    have hmm2 : m = cap := hmm
    rw [acct_cells] at hx
    have hr : ∀ i, i < len → ∃ r : Ac, (∀ j, j < 5 → W.cell? ((x.add (i * 5)).add j) = r.cells.toList[j]?) ∧ AcOk r := fun i hi => by
      obtain ⟨cs', h1, h2⟩ := hx i (by omega)
      obtain ⟨r, rfl, ok⟩ := open_acct h2
      exact ⟨r, (World.cells?_some h1).2.2, ok⟩
    obtain ⟨f, hf⟩ := @choose_lt Ac ⟨ac0⟩ _ _ hr
    have hget : ∀ k, k < len → ((List.range len).map f).getD k ac0 = f k := fun k hk => by simp [List.getD, hk]
    have hlen : ((List.range len).map f).length = len := by simp
    refine ⟨(List.range len).map f, hlen, fun k hk => ?_, ⟨by rw [hlen]; exact hl, ?_⟩⟩
    · rw [hlen] at hk
      rw [hget k hk]
      exact (hf k hk).2
    · by_cases h0 : len = 0
      · subst h0
        exact .inl rfl
      · right
        obtain ⟨b, off, spot⟩ := x
        have hc : W.cell? ⟨b, off, spot⟩ = some (.string (f 0).code) := (hf 0 (by omega)).1 0 (by omega)
        have hspot : spot = none := World.cell?_spot hc
        subst hspot
        have hlt : b < W.heap.size := World.block_lt_of_cell? _ _ hc
        refine ⟨b, off, rfl, hlt, fun k hk => ?_⟩
        rw [hlen] at hk
        rw [hget k hk]
        refine ac_cells W b (off + k * 5) (f k) (fun i hi => ?_)
        have := (hf k hk).1 i hi
        rw [ch_add, ch_add] at this
        exact this
end
end Go.Proofs.Ythaidbicimiljaa

namespace Go.Proofs.Ythaidbicimiljaa
set_option linter.unusedVariables false
set_option linter.unusedSimpArgs false
set_option maxRecDepth 100000
open Go.RowKit Go.Lib

/-- A holding that came in. -/
def HoW (x : Ho) : Prop := (-9223372036854775808 ≤ x.en ∧ x.en ≤ 9223372036854775807) ∧ (-9223372036854775808 ≤ x.of_ ∧ x.of_ ≤ 9223372036854775807) ∧ (-9223372036854775808 ≤ x.pt ∧ x.pt ≤ 9223372036854775807)
theorem ho_wf {n : Int} (h : (Lit.int .i64 n).wf = true) : -9223372036854775808 ≤ n ∧ n ≤ 9223372036854775807 := by
  simp [Lit.wf, IntKind.min, IntKind.max, IntKind.bits, IntKind.signed] at h
  omega
theorem ho_add (b off : Nat) (n : Nat) : (⟨b, off, none⟩ : Addr).add n = ⟨b, off + n, none⟩ := by simp [Addr.add]
section
variable {H : Type} {enc : TypeId × Value → H}
theorem ho_cell_int {w : World} {base : Nat} {spare : Nat → Bool} {held : Bool} {m : Nat} {c : Value} {y : DataW H × List MemPlace} (h : DataW.trod enc Try.prog w base spare held m 3 [c] = some y) : ∃ n, c = .int .i64 n ∧ (Lit.int .i64 n).wf = true := by
  cases m with
  | zero => simp [DataW.trod] at h
  | succ m =>
    rw [DataW.trod_step] at h
    unfold DataW.trodStep at h
    rw [Try.underlying3] at h
    cases c <;> simp at h
    rename_i k n
    obtain ⟨⟨rfl, h2⟩, _⟩ := h
    exact ⟨n, rfl, h2⟩

theorem hoP_int : Try.prog.cellsOf 3 = 1 := by kernel_rfl
theorem ho_cellsOf : Try.prog.cellsOf 31 = 3 := by kernel_rfl
theorem ho_open {w : World} {base : Nat} {spare : Nat → Bool} {held : Bool} {m : Nat} {cs : List Value} {x : DataW H × List MemPlace} (h : DataW.trod enc Try.prog w base spare held m 31 cs = some x) : ∃ a : Ho, cs = a.cells.toList ∧ HoW a := by
  cases m with
  | zero => simp [DataW.trod] at h
  | succ m =>
    rw [DataW.trod_step] at h
    unfold DataW.trodStep at h
    rw [Try.underlying31] at h
    simp only [ho_cellsOf] at h
    split at h
    · rename_i hl
      match cs, hl with
      | [c0, c1, c2], _ =>
        simp [hoP_int] at h
        cases h0 : DataW.trod enc Try.prog w base spare held m 3 [c0]
        · simp [h0] at h
        cases h1 : DataW.trod enc Try.prog w base spare held m 3 [c1]
        · simp [h0, h1] at h
        cases h2 : DataW.trod enc Try.prog w base spare held m 3 [c2]
        · simp [h0, h1, h2] at h
        obtain ⟨f, rfl, hf⟩ := ho_cell_int h0
        obtain ⟨p, rfl, hp⟩ := ho_cell_int h1
        obtain ⟨q, rfl, hq⟩ := ho_cell_int h2
        exact ⟨⟨f, p, q⟩, rfl, ho_wf hf, ho_wf hp, ho_wf hq⟩
    · cases h

/-- Holdings that came in. -/
theorem hos_of_trod {W : World} {a : Option Addr} {len cap fuel : Nat} {x : DataW H × List MemPlace} (h : DataW.trod enc Try.prog W 0 (fun _ => true) true fuel 23 [.slice a len cap] = some x) :
    ∃ l : List Ho, l.length = len ∧ IsHo W a l cap ∧ (∀ x ∈ l, HoW x) ∧ len ≤ maxLen := by
  rcases Go.Deep.open_slice Try.underlying23 h with ⟨hcs, _⟩ | ⟨x, l, c, m, n, D, Pl, hcs, _, hl, hm, hmm, _, hx⟩
  · simp at hcs
    obtain ⟨rfl, rfl, rfl⟩ := hcs
    exact ⟨[], rfl, ⟨by simp, .inl rfl⟩, by simp, by unfold maxLen; omega⟩
  · simp at hcs
    obtain ⟨rfl, rfl, rfl⟩ := hcs
    have hmm2 : m = cap := hmm
    rw [ho_cellsOf] at hx
    have hr : ∀ i, i < len → ∃ r : Ho, (∀ j, j < 3 → W.cell? ((x.add (i * 3)).add j) = r.cells.toList[j]?) ∧ HoW r := fun i hi => by
      obtain ⟨cs', h1, h2⟩ := hx i (by omega)
      obtain ⟨r, rfl, hw⟩ := ho_open h2
      exact ⟨r, (World.cells?_some h1).2.2, hw⟩
    obtain ⟨f, hf⟩ := @Go.Deep.choose_lt Ho ⟨ho0⟩ _ _ hr
    have hget : ∀ k, k < len → ((List.range len).map f).getD k ho0 = f k := fun k hk => by simp [List.getD, hk]
    have hlen : ((List.range len).map f).length = len := by simp
    refine ⟨(List.range len).map f, hlen, ⟨by rw [hlen]; exact hl, ?_⟩, ?_, Nat.le_trans hl hm⟩
    · by_cases h0 : len = 0
      · subst h0
        exact .inl rfl
      · right
        obtain ⟨b, off, spot⟩ := x
        have hc : W.cell? ⟨b, off, spot⟩ = some (.int .i64 (f 0).en) := (hf 0 (by omega)).1 0 (by omega)
        have hspot : spot = none := World.cell?_spot hc
        subst hspot
        have hlt : b < W.heap.size := World.block_lt_of_cell? _ _ hc
        refine ⟨b, off, rfl, hlt, fun k hk => ?_⟩
        rw [hlen] at hk
        rw [hget k hk]
        have C : ∀ i, i < 3 → W.cell? ⟨b, off + k * 3 + i, none⟩ = (f k).cells.toList[i]? := fun i hi => by
          have := (hf k hk).1 i hi
          rw [ho_add, ho_add] at this
          exact this
        exact ⟨C 0 (by omega), C 1 (by omega), C 2 (by omega)⟩
    · intro y hy
      obtain ⟨k, hk, rfl⟩ := List.mem_map.1 hy
      exact (hf k (List.mem_range.1 hk)).2

end

end Go.Proofs.Ythaidbicimiljaa

namespace Go.Proofs.Ythaidbicimiljaa
set_option linter.unusedVariables false
set_option linter.unusedSimpArgs false
set_option maxRecDepth 100000
open Go.RowKit Go.Lib

theorem ld_add (b off i : Nat) : (⟨b, off, none⟩ : Addr).add i = ⟨b, off + i, none⟩ := by
  rcases Nat.eq_zero_or_pos i with h | h
  · subst h; simp [Addr.add]
  · simp [Addr.add]; omega
theorem ld_wf {n : Int} (h : (Lit.int .i64 n).wf = true) : -9223372036854775808 ≤ n ∧ n ≤ 9223372036854775807 := by
  simp [Lit.wf, IntKind.min, IntKind.max, IntKind.bits, IntKind.signed] at h
  omega
section
variable {H : Type} {enc : TypeId × Value → H}
theorem ld_cell_string {w : World} {base : Nat} {spare : Nat → Bool} {held : Bool} {m : Nat} {c : Value} {y : DataW H × List MemPlace} (h : DataW.trod enc Try.prog w base spare held m 9 [c] = some y) : ∃ s, c = .string s ∧ s.size ≤ maxLen := by
  cases m with
  | zero => simp [DataW.trod] at h
  | succ m =>
    rw [DataW.trod_step] at h
    unfold DataW.trodStep at h
    rw [Try.underlying9] at h
    cases c <;> simp at h
    exact ⟨_, rfl, h.1⟩

theorem ld_cell_int {w : World} {base : Nat} {spare : Nat → Bool} {held : Bool} {m : Nat} {c : Value} {y : DataW H × List MemPlace} (h : DataW.trod enc Try.prog w base spare held m 3 [c] = some y) : ∃ n, c = .int .i64 n ∧ (Lit.int .i64 n).wf = true := by
  cases m with
  | zero => simp [DataW.trod] at h
  | succ m =>
    rw [DataW.trod_step] at h
    unfold DataW.trodStep at h
    rw [Try.underlying3] at h
    cases c <;> simp at h
    rename_i k n
    obtain ⟨⟨rfl, h2⟩, _⟩ := h
    exact ⟨n, rfl, h2⟩

theorem ld_bal_cells : Try.prog.cellsOf 33 = 4 := by kernel_rfl
theorem ld_open_bal {w : World} {base : Nat} {spare : Nat → Bool} {held : Bool} {m : Nat} {cs : List Value} {x : DataW H × List MemPlace} (h : DataW.trod enc Try.prog w base spare held m 33 cs = some x) : ∃ a : Bl, cs = a.cells.toList ∧ BlOk a := by
  cases m with
  | zero => simp [DataW.trod] at h
  | succ m =>
    rw [DataW.trod_step] at h
    unfold DataW.trodStep at h
    rw [Try.underlying33] at h
    simp only [ld_bal_cells] at h
    split at h
    · rename_i hl
      match cs, hl with
      | [c0, c1, c2, c3], _ =>
        simp [ldP_str, ldP_int] at h
        cases h0 : DataW.trod enc Try.prog w base spare held m 3 [c0]
        · simp [h0] at h
        cases h1 : DataW.trod enc Try.prog w base spare held m 9 [c1]
        · simp [h0, h1] at h
        cases h2 : DataW.trod enc Try.prog w base spare held m 9 [c2]
        · simp [h0, h1, h2] at h
        cases h3 : DataW.trod enc Try.prog w base spare held m 3 [c3]
        · simp [h0, h1, h2, h3] at h
        obtain ⟨f, rfl, hf⟩ := ld_cell_int h0
        obtain ⟨s, rfl, hs⟩ := ld_cell_string h1
        obtain ⟨t, rfl, ht⟩ := ld_cell_string h2
        obtain ⟨p, rfl, hp⟩ := ld_cell_int h3
        exact ⟨⟨f, s, t, p⟩, rfl, ⟨ld_wf hf, hs, ht⟩, ld_wf hp⟩
    · cases h

/-- Balances that came in. -/
theorem ld_bls_of_trod {W : World} {a : Option Addr} {len cap fuel : Nat} {x : DataW H × List MemPlace} (h : DataW.trod enc Try.prog W 0 (fun _ => true) true fuel 24 [.slice a len cap] = some x) :
    ∃ l : List Bl, l.length = len ∧ IsBl W a l cap ∧ (∀ x ∈ l, BlOk x) ∧ len ≤ maxLen := by
  rcases Go.Deep.open_slice Try.underlying24 h with ⟨hcs, _⟩ | ⟨x, l, c, m, n, D, Pl, hcs, _, hl, hm, hmm, _, hx⟩
  · simp at hcs
    obtain ⟨rfl, rfl, rfl⟩ := hcs
    exact ⟨[], rfl, ⟨by simp, .inl rfl⟩, by simp, by unfold maxLen; omega⟩
  · simp at hcs
    obtain ⟨rfl, rfl, rfl⟩ := hcs
    have hmm2 : m = cap := hmm
    rw [ld_bal_cells] at hx
    have hr : ∀ i, i < len → ∃ r : Bl, (∀ j, j < 4 → W.cell? ((x.add (i * 4)).add j) = r.cells.toList[j]?) ∧ BlOk r := fun i hi => by
      obtain ⟨cs', h1, h2⟩ := hx i (by omega)
      obtain ⟨r, rfl, hw⟩ := ld_open_bal h2
      exact ⟨r, (World.cells?_some h1).2.2, hw⟩
    obtain ⟨f, hf⟩ := @Go.Deep.choose_lt Bl ⟨bl0⟩ _ _ hr
    have hget : ∀ k, k < len → ((List.range len).map f).getD k bl0 = f k := fun k hk => by simp [List.getD, hk]
    have hlen : ((List.range len).map f).length = len := by simp
    refine ⟨(List.range len).map f, hlen, ⟨by rw [hlen]; exact hl, ?_⟩, ?_, Nat.le_trans hl hm⟩
    · by_cases h0 : len = 0
      · subst h0
        exact .inl rfl
      · right
        obtain ⟨b, off, spot⟩ := x
        have hc : W.cell? ⟨b, off, spot⟩ = some (.int .i64 (f 0).ent) := (hf 0 (by omega)).1 0 (by omega)
        have hspot : spot = none := World.cell?_spot hc
        subst hspot
        have hlt : b < W.heap.size := World.block_lt_of_cell? _ _ hc
        refine ⟨b, off, rfl, hlt, fun k hk => ?_⟩
        rw [hlen] at hk
        rw [hget k hk]
        have C : ∀ i, i < 4 → W.cell? ⟨b, off + k * 4 + i, none⟩ = (f k).cells.toList[i]? := fun i hi => by
          have := (hf k hk).1 i hi
          rw [ld_add, ld_add] at this
          exact this
        exact ⟨C 0 (by omega), C 1 (by omega), C 2 (by omega), C 3 (by omega)⟩
    · intro y hy
      obtain ⟨k, hk, rfl⟩ := List.mem_map.1 hy
      exact (hf k (List.mem_range.1 hk)).2

end

end Go.Proofs.Ythaidbicimiljaa

namespace Go.Proofs.Ythaidbicimiljaa
open Go.ChangeShapes Go.WideShapes Go.ChangeAt Go.RowKit Go.Deep
open Go.ChangeMaps (open_string shut_string)
set_option linter.unusedVariables false
set_option linter.unusedSimpArgs false

theorem gap_own : ownKnob Try.prog.godebug = none := by kernel_rfl
theorem gap_laidOut : laidOutB Try.prog = true := by kernel_rfl

set_option maxRecDepth 100000 in
theorem gap_lifted (os : Os) (started : os.Started) (H : Type) (enc : TypeId × Value → H) :
    ReturnsInHanded {} Try.checked os 3 .any (Rows.groupSharesSpec.pre6 enc Try.prog Try.f3 Rows.groupSharesRow.domain false) (Rows.groupSharesSpec.post enc Try.prog Try.f3 false true false false) := by
  refine returnsInHanded_of_change_sized (C := Try.checked) gap_own started (by kernel_rfl) Try.func3
    (ChangeSpec.witness6 (enc := enc) (C := Try.checked) false ⟨#[], #[.slice none 0 0, .slice none 0 0, .int .i64 0, .slice none 0 0], []⟩ 8 (by kernel_rfl) (by kernel_rfl) (by kernel_rfl) (by kernel_rfl)) ?_
  intro W base args ds gs before hval0 hW hcnd hsz0 _
  have hsz : (DataW.weightsEach Try.prog (Try.f3.params.toList ++ Rows.groupSharesSpec.plain.varTypes Try.prog) (ds ++ gs)).all (· ≤ reachBytes) = true := hsz0
  clear hsz0
  have hval : ∀ (j : Nat) t v, Try.f3.params[j]? = some t → args[j]? = some v → Value.okWide Try.prog W .any base t v := hval0
  have hW' := hW
  obtain ⟨p, q, hA0, hV, rfl, hfz, hnd⟩ := hW
  have hA : DataW.TrodAll enc Try.prog W 0 (fun _ => true) true Try.f3.params.toList args.toList ds p := hA0
  rw [Try.params3] at hA hval hsz
  obtain ⟨v0, vs0, d0, ds0, p0, q0, hargs, rfl, rfl, h0, r0⟩ := trodAll_cons hA
  obtain ⟨v1, vs1, d1, ds1, p1, q1, rfl, rfl, rfl, h1, r1⟩ := trodAll_cons r0
  obtain ⟨v2, vs2, d2, ds2, p2, q2, rfl, rfl, rfl, h2, r2⟩ := trodAll_cons r1
  obtain ⟨v3, vs3, d3, ds3, p3, q3, rfl, rfl, rfl, h3, r3⟩ := trodAll_cons r2
  obtain ⟨rfl, rfl, rfl⟩ := trodAll_nil r3
  obtain rfl : args = #[v0, v1, v2, v3] := by cases args; simp_all
  obtain ⟨rfl, rfl⟩ := trodVars_none hV
  obtain ⟨a0, len0, cap0, rfl⟩ := okWide_slice Try.underlying22 (hval 0 22 v0 rfl rfl)
  have k0 := h0
  have lt0 : ∀ x ∈ p0, x.block < W.heap.size := by obtain ⟨m, hm⟩ := k0; exact DataW.trod_lt m _ _ _ hm
  obtain ⟨c0, hl0, hac0, hsl0⟩ : ∃ l : List Ac, l.length = len0 ∧ (∀ k, k < l.length → AcOk (l.getD k ac0)) ∧ IsSl W a0 l cap0 := by
    obtain ⟨fuel, hf⟩ := h0
    exact acs_of_trod hf
  subst hl0
  obtain ⟨a1, len1, cap1, rfl⟩ := okWide_slice Try.underlying23 (hval 1 23 v1 rfl rfl)
  have k1 := h1
  have lt1 : ∀ x ∈ p1, x.block < W.heap.size := by obtain ⟨m, hm⟩ := k1; exact DataW.trod_lt m _ _ _ hm
  obtain ⟨l1, hl1, hi1, ho1, hm1⟩ : ∃ l : List Ho, l.length = len1 ∧ IsHo W a1 l cap1 ∧ (∀ x ∈ l, HoW x) ∧ len1 ≤ maxLen := by
    obtain ⟨fuel, hf⟩ := h1
    exact hos_of_trod hf
  subst hl1
  have hb1 : l1.length ≤ 9223372036854775807 := by unfold maxLen at hm1; exact hm1
  obtain ⟨x2, rfl, rfl, rfl, w2⟩ := open_int Try.underlying3 (hval 2 3 v2 rfl rfl) h2
  obtain ⟨a3, len3, cap3, rfl⟩ := okWide_slice Try.underlying24 (hval 3 24 v3 rfl rfl)
  have k3 := h3
  have lt3 : ∀ x ∈ p3, x.block < W.heap.size := by obtain ⟨m, hm⟩ := k3; exact DataW.trod_lt m _ _ _ hm
  have hz3 : len3 * 48 ≤ 140737488355328 := by
    obtain ⟨fuel, hf⟩ := h3
    rcases open_slice Try.underlying24 hf with ⟨hcs, _⟩ | ⟨x, l, cp, m, n, D, Pl, hcs, _, hl, hm, hmm, hx, _⟩
    · simp [Value.cells] at hcs
      omega
    · simp [Value.cells] at hcs
      obtain ⟨rfl, rfl, rfl⟩ := hcs
      simp only [Prod.mk.injEq] at hx
      obtain ⟨rfl, _⟩ := hx
      have := sized_slice hsz (j := 3) (t := 24) (e := 33) rfl rfl Try.underlying24
      rw [show Try.prog.bytesOf 33 = 48 from by kernel_rfl] at this
      simp only [List.length_map, List.length_range, reachBytes] at this
      omega
  obtain ⟨l3, hl3, hi3, ho3, hm3⟩ : ∃ l : List Bl, l.length = len3 ∧ IsBl W a3 l cap3 ∧ (∀ x ∈ l, BlOk x) ∧ len3 ≤ maxLen := by
    obtain ⟨fuel, hf⟩ := h3
    exact ld_bls_of_trod hf
  subst hl3
  clear hA0 hval0
  refine (shares_walk' a0 a1 a3 cap0 cap1 cap3 c0 l1 x2 l3 W hsl0 hi1 hb1 hi3 hz3).mono fun e W' ⟨he, bel⟩ => ?_
  subst he
  exact ⟨_, rfl, _, _, _, [], _, [], hW', trodAll_mk1 (shut_bool Try.underlying4 _), (trodAll_cons_mk (Below.trod gap_laidOut (by kernel_rfl) (of_decide_eq_true (by kernel_rfl)) k0 bel lt0) (trodAll_cons_mk (Below.trod gap_laidOut (by kernel_rfl) (of_decide_eq_true (by kernel_rfl)) k1 bel lt1) (trodAll_cons_mk (shut_int Try.underlying3 w2) (trodAll_cons_mk (Below.trod gap_laidOut (by kernel_rfl) (of_decide_eq_true (by kernel_rfl)) k3 bel lt3) trodAll_mk0)))), rfl, bel.frame _, fun h => by cases h⟩

theorem gap_over : Rows.groupSharesRow.holds Try.pinned (OpenSpec.ofChange Rows.groupSharesSpec) :=
  OpenClaim.holds_of_wide 3 Try.f3 rfl rfl rfl rfl rfl rfl rfl ⟨rfl, rfl, rfl, rfl, rfl⟩ rfl rfl rfl rfl rfl (by kernel_rfl) Try.func3 (by kernel_rfl)
    (of_decide_eq_true (by kernel_rfl)) (by unfold Func.isWrapper; first | (rw [if_pos (by decide +kernel)]; kernel_rfl) | (rw [if_neg (by decide +kernel)]; exact ⟨rfl, rfl⟩))
    (fun os started H enc _ => gap_lifted os started H enc)

/-- The statement. -/
theorem groupShares_holds : Rows.GroupSharesSaid := gap_over
#print axioms groupShares_holds
end Go.Proofs.Ythaidbicimiljaa
