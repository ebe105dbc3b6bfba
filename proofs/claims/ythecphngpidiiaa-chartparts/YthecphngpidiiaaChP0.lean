/-
  Each account is a leaf or a parent, and under just one that has no parent: counts, as numbers alone.
-/
import Derived.Test.YthecphngpidiiaaChN
namespace Go.Proofs.Ythecphngpidiiaa
set_option linter.unusedVariables false
set_option linter.unusedSimpArgs false
open Go.RowKit Go.Lib Math

/-- Under how many of the first so many that have no parent a place is. -/
def cntI (l : List Ac) (i k : Nat) : Int := ((List.range i).map fun t => if (isTop l t && isU l t k) = true then (1 : Int) else 0).sum

theorem cntI_succ (l : List Ac) (i k : Nat) : cntI l (i + 1) k = cntI l i k + if (isTop l i && isU l i k) = true then 1 else 0 := by
  unfold cntI
  rw [List.range_succ, List.map_append, List.sum_append]
  simp

theorem cntI_bd (l : List Ac) (k : Nat) : ∀ i, 0 ≤ cntI l i k ∧ cntI l i k ≤ i
  | 0 => by simp [cntI]
  | i + 1 => by
    have := cntI_bd l k i
    rw [cntI_succ]
    split <;> omega

theorem cntI_one {l : List Ac} (h : chBad l = 0) {k : Nat} (hk : k < l.length) : cntI l l.length k = 1 := by
  obtain ⟨r, hr, ht, hu⟩ := root_ex h (k + 1) k (by omega) hk
  refine sum_one (fun i => isTop l i && isU l i k) _ r l.length (by omega) (by rw [Bool.and_eq_true]; exact ⟨isTop_iff.2 ht, hu⟩) (fun i hi hp => ?_)
  rw [Bool.and_eq_true] at hp
  exact root_one h (isTop_iff.1 hp.1) ht (k + 1) k (by omega) hk hp.2 hu

/-- The counts behind so many accounts, and so many of those under the next one. -/
def rowJ (l : List Ac) (i j : Nat) : List Int := (List.range l.length).map fun k => cntI l i k + if isTop l i = true ∧ k ∈ (undL l i).take j then 1 else 0

theorem rowJ_zero (l : List Ac) (i : Nat) : rowJ l i 0 = (List.range l.length).map (cntI l i) := by
  unfold rowJ
  apply List.map_congr_left
  intro k _
  simp

theorem rowJ_end (l : List Ac) (i : Nat) : rowJ l i (undL l i).length = rowJ l (i + 1) 0 := by
  rw [rowJ_zero]
  unfold rowJ
  apply List.map_congr_left
  intro k hk
  rw [cntI_succ, List.take_length]
  congr 1
  have : k ∈ undL l i ↔ isU l i k = true := by
    unfold undL
    rw [List.mem_filter]
    exact ⟨fun h => h.2, fun h => ⟨hk, h⟩⟩
  simp only [this, Bool.and_eq_true]

theorem rowJ_len (l : List Ac) (i j : Nat) : (rowJ l i j).length = l.length := by simp [rowJ]

theorem rowJ_same {l : List Ac} {i : Nat} (h : isTop l i ≠ true) (j j' : Nat) : rowJ l i j = rowJ l i j' := by
  unfold rowJ
  apply List.map_congr_left
  intro k _
  simp [h]

theorem undL_nodup (l : List Ac) (i : Nat) : (undL l i).Nodup := List.Pairwise.filter _ List.nodup_range

theorem undL_get {l : List Ac} {i j : Nat} (hj : j < (undL l i).length) : (undL l i).getD j 0 < l.length ∧ isU l i ((undL l i).getD j 0) = true := by
  have hm : (undL l i).getD j 0 ∈ undL l i := by
    rw [List.getD_eq_getElem?_getD, List.getElem?_eq_getElem hj]
    exact List.getElem_mem hj
  unfold undL at hm ⊢
  rw [List.mem_filter, List.mem_range] at hm
  exact hm

theorem rowJ_step {l : List Ac} {i j : Nat} (ht : isTop l i = true) (hj : j < (undL l i).length) : (rowJ l i j).getD ((undL l i).getD j 0) 0 = cntI l i ((undL l i).getD j 0) ∧ (rowJ l i j).set ((undL l i).getD j 0) (cntI l i ((undL l i).getD j 0) + 1) = rowJ l i (j + 1) := by
  have hget := undL_get hj
  have hx : (undL l i).getD j 0 = (undL l i)[j] := by rw [List.getD_eq_getElem?_getD, List.getElem?_eq_getElem hj]; rfl
  have htk : (undL l i).take (j + 1) = (undL l i).take j ++ [(undL l i)[j]] := List.take_succ_eq_append_getElem hj
  have hnd := undL_nodup l i
  have hni : (undL l i)[j] ∉ (undL l i).take j := by
    intro hm
    rw [List.mem_take_iff_getElem] at hm
    obtain ⟨m, hm, e⟩ := hm
    have := (List.getElem_inj hnd).1 e
    omega
  rw [hx] at hget ⊢
  generalize (undL l i)[j] = t at *
  constructor
  · unfold rowJ
    rw [List.getD_eq_getElem?_getD, List.getElem?_map, List.getElem?_range hget.1]
    simp [hni]
  · apply List.ext_getElem
    · simp [rowJ]
    · intro k h1 h2
      rw [List.getElem_set]
      have hk : k < l.length := by simpa [rowJ] using h2
      simp only [rowJ, List.getElem_map, List.getElem_range]
      by_cases e : t = k
      · subst e
        rw [if_pos rfl, htk]
        simp [ht]
      · rw [if_neg e, htk]
        have : (k ∈ (undL l i).take j ++ [t]) ↔ k ∈ (undL l i).take j := by
          simp [List.mem_append, fun h => e (Eq.symm h)]
          intro h
          exact absurd h.symm e
        simp only [this]

/-- How many leaves are among the first so many. -/
def lfs (l : List Ac) (i : Nat) : Nat := ((l.take i).filter (leafB l)).length

theorem lfs_le (l : List Ac) (i : Nat) : lfs l i ≤ i := by
  unfold lfs
  have := List.length_filter_le (leafB l) (l.take i)
  simp only [List.length_take] at this
  omega

theorem lfs_succ (l : List Ac) (i : Nat) (hi : i < l.length) : lfs l (i + 1) = lfs l i + if leafB l (l.getD i ac0) = true then 1 else 0 := by
  have := congrArg List.length (lvs_step l i hi)
  simp only [List.length_map, List.length_append] at this
  unfold lfs
  rw [this]
  split <;> rfl

theorem lfs_all (l : List Ac) : lfs l l.length = (lvs l).length := by simp [lfs, lvs]

theorem lvs_at {l : List Ac} {i : Nat} (hi : i < l.length) (h : leafB l (l.getD i ac0) = true) : lfs l i < (lvs l).length ∧ (lvs l).getD (lfs l i) ByteArray.empty = (l.getD i ac0).code := by
  have e : lvs l = ((l.take i).filter (leafB l)).map Ac.code ++ ((l.getD i ac0).code :: ((l.drop (i + 1)).filter (leafB l)).map Ac.code) := by
    have : l.filter (leafB l) = (l.take i).filter (leafB l) ++ (l.getD i ac0 :: (l.drop (i + 1)).filter (leafB l)) := by
      rw [← List.filter_cons_of_pos h, ← acs_drop l i hi, ← List.filter_append, List.take_append_drop]
    unfold lvs
    rw [this, List.map_append, List.map_cons]
  have hl : lfs l i = (((l.take i).filter (leafB l)).map Ac.code).length := by simp [lfs]
  constructor
  · rw [e, hl]; simp
  · rw [e, hl, List.getD_eq_getElem?_getD, List.getElem?_append_right (Nat.le_refl _)]
    simp
end Go.Proofs.Ythecphngpidiiaa
