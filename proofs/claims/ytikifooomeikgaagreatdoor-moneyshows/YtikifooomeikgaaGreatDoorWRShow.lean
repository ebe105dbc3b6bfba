/-
  The contract of dayref1.Show.
-/
import Derived.Test.YtikifooomeikgaaGreatDoorWBigT3
namespace Go.Proofs.YtikifooomeikgaaGreatDoor
set_option linter.unusedVariables false
set_option linter.unusedSimpArgs false
set_option maxRecDepth 100000
open Go.RowKit Big

/-- The length of a text. -/
def stLen : Value → Nat
  | .string s => s.size
  | _ => 0
theorem sg_abs {neg : Bool} {n : Nat} {a : Int} (h : sg neg n = a) : n = a.natAbs := by
  unfold sg at h
  cases neg <;> simp at h <;> omega
theorem grow_own {a b c : World} {p : Nat} (h : a.grownBy b none) (k : b.grownBy c (some p)) (hp : a.heap.size ≤ p) : a.grownBy c none :=
  ⟨k.os.trans h.os, k.tape.trans h.tape, k.output.trans h.output, Nat.le_trans h.size k.size, fun i hi _ => (k.block i (Nat.lt_of_lt_of_le hi h.size) (fun e => by cases e; omega)).trans (h.block i hi (by simp))⟩

set_option maxHeartbeats 4000000 in
theorem refShow_any (a : Int) (p : Nat) (w : World) (h1 : -9223372036854775808 ≤ a) (h2 : a ≤ 9223372036854775807) (hp : p ≤ 6) :
    Calls Tryz.prog 4 #[.int .i64 a, .int .i64 p] w fun e w' => e = .returned (.string (txt (showS a p))) ∧ w.grownBy w' none := by
  have HB : Hid (Calls _ _ _ _ _) := big_any a w h1 h2
  obtain ⟨d, hd⟩ : ∃ d, Lib.decDigits a.natAbs = d := ⟨_, rfl⟩
  have hd20 : d.length ≤ 20 := by
    rw [← hd, Lib.decDigits_length]
    exact dec_few _ 20 (by decide) (Nat.lt_of_lt_of_le (show a.natAbs < 18446744073709551616 by omega) (by decide))
  have hd1 : 1 ≤ d.length := by rw [← hd]; exact List.length_pos_iff.2 (dec_ne _)
  have hsh : showS a p = if a < 0 then 45 :: pointL (padTo p d) p else pointL (padTo p d) p := by unfold showS; rw [hd]
  rw [hsh]
  obtain ⟨res, hres⟩ : ∃ res, txt (if a < 0 then 45 :: pointL (padTo p d) p else pointL (padTo p d) p) = res := ⟨_, rfl⟩
  have Hres : Hid (txt (if a < 0 then 45 :: pointL (padTo p d) p else pointL (padTo p d) p) = res) := hres
  rw [hres]
  clear hres
  have Hd : Hid (Lib.decDigits a.natAbs = d) := hd
  clear hd hsh
  have hp' : (p : Int) ≤ 6 := by omega
  go_enter Tryz.func4, Tryz.ntmps4
  go_wp2_with fail
  refine HB.out.mono ?_
  rintro e w1 ⟨rfl, ⟨neg, v, l, hb, hs⟩, hg⟩
  have hva := sg_abs hs
  have hl2 : l.length ≤ 2 := len_two hb.wd.ok hb.nrm (by omega)
  have HA : Hid (Calls _ _ _ _ _) := abs_self w.heap.size neg v l w1 hb (by omega)
  have HG1 : Hid (w.grownBy w1 none) := hg
  have Hva : Hid (val l = a.natAbs) := hva
  clear HB hb hs hg hva
  go_wp2_with fail
  refine HA.out.mono ?_
  rintro e w2 ⟨v2, rfl, hb2, hg2⟩
  have HS : Hid (Calls _ _ _ _ _) := string_any w.heap.size v2 l w2 hb2 hl2
  rw [Hva.out, Hd.out] at HS
  have HG2 : Hid (w.grownBy w2 none) := grow_own HG1.out hg2 (Nat.le_refl _)
  clear HA hb2 hg2 HG1
  go_wp2_with fail
  refine HS.out.mono ?_
  rintro e w3 ⟨rfl, hg3⟩
  have HG3 : Hid (w.grownBy w3 none) := gtrans HG2.out hg3
  clear HS HG2 hg3 Hva Hd
  go_wp2
  go_loopw [6] (fun sv wr => ∃ k : Nat, k ≤ p + 1 - d.length ∧ sv = .string (txt (List.replicate k 48 ++ d)) ∧ wr = w3) (fun sv _ => p + 1 - stLen sv)
  case atStart => exact ⟨0, Nat.zero_le _, rfl, rfl⟩
  case round =>
    obtain ⟨k, hk, rfl, rfl⟩ := hrel
    have hlen : (txt (List.replicate k 48 ++ d)).size = k + d.length := by rw [txt_size, List.length_append, List.length_replicate]
    by_cases hlt : k + d.length < p + 1
    · have hA := fun W => run_app [48] (List.replicate k 48 ++ d) (by simp; omega) W
      have hR : txt ([48] ++ (List.replicate k 48 ++ d)) = txt (List.replicate (k + 1) 48 ++ d) := by rw [List.replicate_succ]; rfl
      rw [hR] at hA
      have hlen2 : (txt (List.replicate (k + 1) 48 ++ d)).size = k + 1 + d.length := by rw [txt_size, List.length_append, List.length_replicate]
      have h48 : txt [48] = ⟨#[48]⟩ := rfl
      rw [h48] at hA
      obtain ⟨x, hx⟩ : ∃ x, txt (List.replicate k 48 ++ d) = x := ⟨_, rfl⟩
      obtain ⟨y, hy⟩ : ∃ y, txt (List.replicate (k + 1) 48 ++ d) = y := ⟨_, rfl⟩
      rw [hx] at hA hlen ⊢
      rw [hy] at hA hlen2
      have Hy : Hid (y = txt (List.replicate (k + 1) 48 ++ d)) := hy.symm
      have Hlen : Hid (x.size = k + d.length) := hlen
      have Hlen2 : Hid (y.size = k + 1 + d.length) := hlen2
      have j1 : (x.size : Int) < (p : Int) + 1 := by omega
      clear hR h48 hx hy hlen hlen2
      go_wp2
      go_roundw
      case rel => exact ⟨k + 1, by omega, by rw [Hy.out], trivial⟩
      case measure =>
        have := Hlen.out
        have := Hlen2.out
        simp only [stLen]
        omega
    · have hk2 : k = p + 1 - d.length := by omega
      have hpad : List.replicate k 48 ++ d = padTo p d := by rw [hk2]; rfl
      rw [hpad] at hlen ⊢
      have hpl : (padTo p d).length = k + d.length := by rw [← hpad, List.length_append, List.length_replicate]
      have hpp : p ≤ (padTo p d).length := by omega
      generalize padTo p d = P at *
      have hP : P.length ≤ 30 := by omega
      have j1 : ¬ (((txt P).size : Int) < (p : Int) + 1) := by rw [hlen]; omega
      have HGw : Hid (w.grownBy wr none) := HG3.out
      clear HG3 hpad hk2
      by_cases hp0 : p = 0
      · subst hp0
        have hpo : pointL P 0 = P := by simp [pointL]
        by_cases ha : a < 0
        · have hA := fun W => run_app [45] P (by simp; omega) W
          have h45 : txt [45] = ⟨#[45]⟩ := rfl
          rw [h45] at hA
          have er : res = txt ([45] ++ P) := by rw [← Hres.out, if_pos ha, hpo]; rfl
          clear h45 hlen hpo Hres
          generalize txt ([45] ++ P) = y at *
          generalize txt P = x at *
          subst er
          go_wp2
          go_ret
          exact ⟨rfl, HGw.out⟩
        · have er : res = txt P := by rw [← Hres.out, if_neg ha, hpo]
          clear hlen hpo Hres
          generalize txt P = x at *
          subst er
          go_wp2
          go_ret
          exact ⟨rfl, HGw.out⟩
      · have hpo : pointL P p = P.take (P.length - p) ++ 46 :: P.drop (P.length - p) := by unfold pointL; rw [if_neg hp0]
        have j2 : (0 : Int) < p := by omega
        have hSz : ((txt P).size : Int) - p = ((P.length - p : Nat) : Int) := by rw [txt_size]; omega
        have hT := fun W => run_take P (P.length - p) (by omega) W
        have hD := fun W => run_drop P (P.length - p) (by omega) W
        have hA1 := fun W => run_app (P.take (P.length - p)) [46] (by simp; omega) W
        have h46 : txt [46] = ⟨#[46]⟩ := rfl
        rw [h46] at hA1
        have hA2 := fun W => run_app (P.take (P.length - p) ++ [46]) (P.drop (P.length - p)) (by simp; omega) W
        have hR : (P.take (P.length - p) ++ [46]) ++ P.drop (P.length - p) = pointL P p := by rw [hpo]; simp
        rw [hR] at hA2
        have hAm := fun W => run_app [45] (pointL P p) (by rw [hpo]; simp; omega) W
        have h45 : txt [45] = ⟨#[45]⟩ := rfl
        rw [h45] at hAm
        have er1 : a < 0 → res = txt ([45] ++ pointL P p) := fun ha => by rw [← Hres.out, if_pos ha]; rfl
        have er2 : ¬ a < 0 → res = txt (pointL P p) := fun ha => by rw [← Hres.out, if_neg ha]
        have hN : P.length - p ≤ 30 := by omega
        obtain ⟨n, hn⟩ : ∃ n, P.length - p = n := ⟨_, rfl⟩
        rw [hn] at hT hD hA1 hA2 hSz hN
        clear hpo hR h46 h45 Hres hn
        generalize txt ([45] ++ pointL P p) = y5 at *
        generalize txt (pointL P p) = y4 at *
        generalize txt (P.take n ++ [46]) = y3 at *
        generalize txt (P.take n) = y2 at *
        generalize txt (P.drop n) = y1 at *
        generalize txt P = x at *
        clear hlen hpl hpp hP
        by_cases ha : a < 0
        · have er := er1 ha
          subst er
          clear er1 er2
          go_wp2_with fail
          go_quiet (fail)
          go_wp2
          go_ret
          exact ⟨rfl, gdrewN HGw.out _⟩
        · have er := er2 ha
          subst er
          clear er1 er2
          go_wp2_with fail
          go_quiet (fail)
          go_wp2
          go_ret
          exact ⟨rfl, gdrewN HGw.out _⟩
end Go.Proofs.YtikifooomeikgaaGreatDoor
