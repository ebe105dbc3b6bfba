/-
  Numbers of daylaw3.AccrueAll: all comes, a part at a time.
-/
import Derived.Test.YtdadhoangnkfeaaDoorPn5
import Derived.Test.YtdadhoangnkfeaaDoorEnN
namespace Go.Proofs.YtdadhoangnkfeaaDoor
set_option linter.unusedVariables false
set_option linter.unusedSimpArgs false
set_option maxRecDepth 100000
open Go.RowKit Go.Lib

theorem all_fact : partN 10 1 4 2 = 3 := by kernel_rfl
theorem step_pos {a p x : Int} (ha : 0 ≤ a) (hp : 1 ≤ p) (hx : 0 ≤ x) : a / p ≤ (x + a) / p - x / p ∧ (x + a) / p - x / p ≤ a / p + 1 ∧ (x + a) / p - x / p ≤ a := by
  have e1 := Int.mul_ediv_add_emod x p
  have e2 := Int.mul_ediv_add_emod a p
  have e3 := Int.mul_ediv_add_emod (x + a) p
  have r1 := Int.emod_nonneg x (by omega : p ≠ 0)
  have r2 := Int.emod_nonneg a (by omega : p ≠ 0)
  have r3 := Int.emod_nonneg (x + a) (by omega : p ≠ 0)
  have t1 := Int.emod_lt_of_pos x (by omega : 0 < p)
  have t2 := Int.emod_lt_of_pos a (by omega : 0 < p)
  have t3 := Int.emod_lt_of_pos (x + a) (by omega : 0 < p)
  have q2 : 0 ≤ a / p := Int.ediv_nonneg ha (by omega)
  generalize (x + a) / p = s at *
  generalize x / p = t at *
  generalize a / p = u at *
  have k : p * (s - t - u) = x % p + a % p - (x + a) % p := by rw [Int.mul_sub, Int.mul_sub]; omega
  have k1 : p * (s - t - u) < p * 2 := by omega
  have k2 : p * (-1) < p * (s - t - u) := by omega
  have j1 := Int.lt_of_mul_lt_mul_left k1 (by omega)
  have j2 := Int.lt_of_mul_lt_mul_left k2 (by omega)
  refine ⟨by omega, by omega, ?_⟩
  by_cases hd : s - t - u = 1
  · by_cases ha0 : u + 1 ≤ a
    · omega
    · exfalso
      -- u ≥ a: then p * u ≤ a gives p = 1 or a = 0
      have h1 : p * u ≤ a := by omega
      have h2 : a ≤ u := by omega
      rw [hd] at k
      by_cases hp1 : p = 1
      · subst hp1; omega
      · have h3 : 2 * u ≤ p * u := Int.mul_le_mul_of_nonneg_right (by omega) q2
        have h4 : u = 0 := by omega
        subst h4
        omega
  · have hd0 : s - t - u = 0 := by omega
    have h5 : u ≤ p * u := by
      have := Int.mul_le_mul_of_nonneg_right hp q2
      omega
    omega
/-- The least that a part is. -/
def loN (am pr : Int) : Int := if 0 < am then am / pr else -((-am) / pr) - 1
theorem part_at (am fs pr : Int) (k : Int) (h0 : 0 ≤ k) (h1 : k < pr) : partN am fs pr (fs + k) = (am * (k + 1)).tdiv pr - (am * k).tdiv pr := by
  unfold partN
  rw [show fs + k - fs = k by omega, if_neg (by omega)]
theorem part_after (am fs pr : Int) (h1 : 1 ≤ pr) : partN am fs pr (fs + pr) = 0 := by
  unfold partN
  rw [show fs + pr - fs = pr by omega, if_pos (.inr (Int.le_refl _))]
theorem part_is {am pr k : Int} (hp : 1 ≤ pr) (h0 : 0 ≤ k) : (0 < am → (0 ≤ (am * (k + 1)).tdiv pr - (am * k).tdiv pr ∧ loN am pr ≤ (am * (k + 1)).tdiv pr - (am * k).tdiv pr ∧ (am * (k + 1)).tdiv pr - (am * k).tdiv pr ≤ loN am pr + 1 ∧ (am * (k + 1)).tdiv pr - (am * k).tdiv pr ≤ am)) ∧ (am < 0 → ((am * (k + 1)).tdiv pr - (am * k).tdiv pr ≤ 0 ∧ loN am pr ≤ (am * (k + 1)).tdiv pr - (am * k).tdiv pr ∧ (am * (k + 1)).tdiv pr - (am * k).tdiv pr ≤ loN am pr + 1 ∧ am ≤ (am * (k + 1)).tdiv pr - (am * k).tdiv pr)) := by
  refine ⟨fun ha => ?_, fun ha => ?_⟩
  · have m0 := Int.mul_nonneg (by omega : 0 ≤ am) h0
    have m1 : am * (k + 1) = am * k + am := by rw [Int.mul_add, Int.mul_one]
    rw [m1, Int.tdiv_eq_ediv_of_nonneg (by omega), Int.tdiv_eq_ediv_of_nonneg m0]
    obtain ⟨s1, s2, s3⟩ := step_pos (by omega : 0 ≤ am) hp m0
    have q : 0 ≤ am / pr := Int.ediv_nonneg (by omega) (by omega)
    unfold loN
    rw [if_pos ha]
    omega
  · have m0 := Int.mul_nonneg (by omega : 0 ≤ -am) h0
    have m1 : -am * (k + 1) = -am * k + -am := by rw [Int.mul_add, Int.mul_one]
    have n1 : am * (k + 1) = -(-am * (k + 1)) := by rw [Int.neg_mul, Int.neg_neg]
    have n0 : am * k = -(-am * k) := by rw [Int.neg_mul, Int.neg_neg]
    rw [n1, n0, Int.neg_tdiv, Int.neg_tdiv, m1, Int.tdiv_eq_ediv_of_nonneg (by omega), Int.tdiv_eq_ediv_of_nonneg m0]
    obtain ⟨s1, s2, s3⟩ := step_pos (by omega : 0 ≤ -am) hp m0
    have q : 0 ≤ (-am) / pr := Int.ediv_nonneg (by omega) (by omega)
    unfold loN
    rw [if_neg (by omega)]
    omega
theorem part_most {am fs pr pe : Int} (h : spreadB am fs pr = true) (hp : upTo pe 120 = true) : -mostA ≤ partN am fs pr pe ∧ partN am fs pr pe ≤ mostA := by
  obtain ⟨h0, ha, hq, hf⟩ := spreadB_iff.1 h
  unfold partN
  split
  · unfold mostA; omega
  · obtain ⟨p1, p2⟩ := part_is (am := am) (pr := pr) (k := pe - fs) hq.1 (by omega)
    by_cases hs : 0 < am
    · have := p1 hs; omega
    · have := p2 (by omega); omega
theorem part_sum (am pr : Int) (h : 1 ≤ pr) : (am * pr).tdiv pr = am := Int.mul_tdiv_cancel am (by omega)
/-- Between the rounds: the least and the greatest so far. -/
def spanI (lo : Int) (k : Nat) (x y : Int) : Prop := k = 0 ∨ ((lo ≤ x ∧ x ≤ lo + 1) ∧ (lo ≤ y ∧ y ≤ lo + 1))
theorem pl_zero (p : Pn) (n : Int) (h : -mostA ≤ n ∧ n ≤ mostA) : 0 < (plLns p n).length ∧ (plLns p n).length ≤ 20 ∧ Within mostA (plLns p n) ∧ ∀ y ∈ curSums (plLns p n), y.amt = 0 := by
  refine ⟨by simp [plLns], by simp [plLns], ?_, ?_⟩
  · intro x hx
    simp only [plLns, List.mem_cons, List.not_mem_nil, or_false] at hx
    rcases hx with rfl | rfl
    · exact h
    · show -mostA ≤ -n ∧ -n ≤ mostA
      omega
  · have key : ∀ p' : Ln → Bool, KeyP p' → tot p' ((plLns p n).map bareL) = 0 := fun p' hp => by
      have e : (plLns p n).map bareL = [bareL ⟨p.src, p.cur, n⟩] ++ [bareL ⟨p.src, p.cur, n⟩].map turnL := rfl
      rw [e, tot_append, tot_turn hp]; omega
    exact grp_null.2 key
/-- What each of the entries is. -/
theorem plTo_mem {en pe : Int} {l : List Pn} {n : Nat} {x : Ep} (h : x ∈ plTo en pe l n) : ∃ k, k < n ∧ x.lns = plLns (l.getD k pn0) (partN (l.getD k pn0).amt (l.getD k pn0).fst (l.getD k pn0).per pe) := by
  obtain ⟨k, hk, hx⟩ := List.mem_flatMap.1 h
  refine ⟨k, List.mem_range.1 hk, ?_⟩
  unfold plE at hx
  split at hx
  · rw [List.mem_singleton] at hx
    subst hx
    rfl
  · cases hx
theorem pl_even {c : List Ac} {l : List Pn} {en pe : Int} (h : plBad c l en pe = 0) {L : List Je} (hL : L.map Je.ep = plTo en pe l l.length) : ∀ x ∈ L, 0 < x.lns.length ∧ x.lns.length ≤ 20 ∧ Within mostA x.lns ∧ ∀ y ∈ curSums x.lns, y.amt = 0 := fun x hx => by
  have hm : x.ep ∈ plTo en pe l l.length := by rw [← hL]; exact List.mem_map_of_mem hx
  obtain ⟨k, hk, e⟩ := plTo_mem hm
  have e' : x.lns = _ := e
  unfold plBad at h
  split at h
  · contradiction
  · rename_i h1
    split at h
    · omega
    · rename_i h2
      have h2' : upTo en 12 = true ∧ upTo pe 120 = true := by simpa using h2
      obtain ⟨_, _, p3⟩ := pnsBad_ok (Decidable.of_not_not h1)
      obtain ⟨_, _, q3, _⟩ := pnBad_ok (p3 k hk)
      rw [e']
      exact pl_zero _ _ (part_most q3 h2'.2)
end Go.Proofs.YtdadhoangnkfeaaDoor
