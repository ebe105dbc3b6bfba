/-
  Appends of balances; the contracts of dayref2's Full and Put.
-/
import Derived.Test.YtmelleimijenfaaZs13
import Derived.Test.YtmelleimijenfaaZs8
import Derived.Test.YtmelleimijenfaaZs14
import Derived.Test.YtmelleimijenfaaZs10
import Derived.Laws.AppendOwnNone
import Derived.Laws.OwnMore
namespace Go.Proofs.Ytmelleimijenfaa
set_option linter.unusedVariables false
set_option linter.unusedSimpArgs false
set_option maxRecDepth 100000
open Go.RowKit Go.Lib Go.Maps Math

/-- All that holds where nothing is wrong. -/
theorem rvBad_ok {S : Int × DataW Unit} {c : List Ac} {base gain : ByteArray} {b : List Bl} {en pe : Int} : rvBad S c base gain b en pe = 0 ↔ chBad c = 0 ∧ (Fine b ∧ S.1 = 0 ∧ isCur base = true ∧ upTo en 12 = true ∧ upTo pe 120 = true) ∧ (∀ x ∈ b, wE S base en pe x = 0) ∧ leafBad c gain = 0 ∧ (∀ x ∈ b, x.ent = en → isAcc c x.acc = true) ∧ ∀ i, i < c.length → acBad (wV S base en pe) base gain b en (c.getD i ac0) = 0 := by
  have hw : wBad S base b en pe = 0 ↔ (Fine b ∧ S.1 = 0 ∧ isCur base = true ∧ upTo en 12 = true ∧ upTo pe 120 = true) ∧ ∀ x ∈ b, wE S base en pe x = 0 := by
    unfold wBad
    constructor
    · intro h
      split at h
      · contradiction
      · rename_i h1
        refine ⟨askBad_ok.1 (Decidable.of_not_not h1), fun x hx => ?_⟩
        obtain ⟨k, hk, rfl⟩ := mem_getD hx
        exact firstTo_zero h k hk
    · rintro ⟨h1, h2⟩
      rw [if_neg (by simp [askBad_ok.2 h1])]
      exact firstTo_of fun k hk => h2 _ (getD_mem b k hk)
  have hn : b.any (noAcc c en) = true ↔ ¬ ∀ x ∈ b, x.ent = en → isAcc c x.acc = true := by
    rw [List.any_eq_true]
    constructor
    · rintro ⟨x, hx, h⟩ hh
      unfold noAcc at h
      simp only [Bool.and_eq_true, decide_eq_true_eq, Bool.not_eq_true'] at h
      rw [hh x hx h.1] at h
      exact absurd h.2 (by simp)
    · intro h
      refine Classical.byContradiction fun h2 => h fun x hx he => ?_
      cases hh : isAcc c x.acc
      · exact absurd ⟨x, hx, by unfold noAcc; simp [he, hh]⟩ h2
      · rfl
  unfold rvBad
  constructor
  · intro h
    split at h
    · contradiction
    · rename_i h1
      split at h
      · contradiction
      · rename_i h2
        split at h
        · contradiction
        · rename_i h3
          split at h
          · omega
          · rename_i h4
            obtain ⟨w1, w2⟩ := hw.1 (Decidable.of_not_not h2)
            exact ⟨Decidable.of_not_not h1, w1, w2, Decidable.of_not_not h3, Classical.byContradiction fun hh => h4 (hn.2 hh), fun i hi => firstTo_zero h i hi⟩
  · rintro ⟨h1, h2, h3, h4, h5, h6⟩
    rw [if_neg (by simp [h1]), if_neg (by simp [hw.2 ⟨h2, h3⟩]), if_neg (by simp [h4]), if_neg (fun hh => (hn.1 hh) h5)]
    exact firstTo_of h6
theorem isAcc_mem {c : List Ac} (h : chBad c = 0) {i : Nat} (hi : i < c.length) : isAcc c (c.getD i ac0).code = true := by
  unfold isAcc
  rw [idx_code h hi]
  exact decide_eq_true (by omega)
theorem isAcc_leaf {c : List Ac} {gain : ByteArray} (h : leafBad c gain = 0) : isAcc c gain = true ∧ 0 ≤ idxP (hasCode gain) c := by
  unfold leafBad at h
  split at h
  · omega
  · rename_i h1
    exact ⟨decide_eq_true (by omega), by omega⟩
/-- An account's lines, as balances. -/
def acM (f : Bl → Int) (base gain : ByteArray) (b : List Bl) (en : Int) (x : Ac) : List Bl := if x.mon = true ∧ acAmt f base b en x ≠ 0 then [⟨en, x.code, base, acAmt f base b en x⟩, ⟨en, gain, base, -acAmt f base b en x⟩] else []
def mTo (f : Bl → Int) (base gain : ByteArray) (b : List Bl) (en : Int) (c : List Ac) (k : Nat) : List Bl := (List.range k).flatMap fun i => acM f base gain b en (c.getD i ac0)
theorem mTo_next (f : Bl → Int) (base gain : ByteArray) (b : List Bl) (en : Int) (c : List Ac) (k : Nat) : mTo f base gain b en c (k + 1) = mTo f base gain b en c k ++ acM f base gain b en (c.getD k ac0) := by
  unfold mTo; rw [List.range_succ, List.flatMap_append]; simp
theorem mTo_lines (f : Bl → Int) (base gain : ByteArray) (b : List Bl) (en pe : Int) (c : List Ac) : ∀ k, lnsBs en ((rvTo f base gain b en pe c k).flatMap Ep.lns) = mTo f base gain b en c k
  | 0 => rfl
  | k + 1 => by
    rw [rvTo_next, mTo_next, ← mTo_lines f base gain b en pe c k, List.flatMap_append]
    unfold lnsBs
    rw [List.map_append]
    congr 1
    unfold acE acM
    split
    · rfl
    · rfl
theorem rv_lines {f : Bl → Int} {base gain : ByteArray} {b : List Bl} {en pe : Int} {c : List Ac} {L : List Je} (hL : L.map Je.ep = rvTo f base gain b en pe c c.length) : lnsBs en (L.flatMap Je.lns) = mTo f base gain b en c c.length := by
  rw [← mTo_lines f base gain b en pe c, ← hL, List.flatMap_map]
  rfl
theorem mTo_mem {f : Bl → Int} {base gain : ByteArray} {b : List Bl} {en : Int} {c : List Ac} {k : Nat} {x : Bl} (h : x ∈ mTo f base gain b en c k) : ∃ i, i < k ∧ (c.getD i ac0).mon = true ∧ (x = ⟨en, (c.getD i ac0).code, base, acAmt f base b en (c.getD i ac0)⟩ ∨ x = ⟨en, gain, base, -acAmt f base b en (c.getD i ac0)⟩) := by
  obtain ⟨i, hi, hx⟩ := List.mem_flatMap.1 h
  refine ⟨i, List.mem_range.1 hi, ?_⟩
  unfold acM at hx
  split at hx
  · rename_i hh
    simp only [List.mem_cons, List.not_mem_nil, or_false] at hx
    exact ⟨hh.1, hx⟩
  · cases hx
theorem mTo_len (f : Bl → Int) (base gain : ByteArray) (b : List Bl) (en : Int) (c : List Ac) : ∀ k, (mTo f base gain b en c k).length ≤ 2 * k
  | 0 => by simp [mTo]
  | k + 1 => by
    have := mTo_len f base gain b en c k
    rw [mTo_next, List.length_append]
    unfold acM
    split
    · simp; omega
    · simp; omega
/-- What a line is at most. -/
theorem amt_of_ok {f : Bl → Int} {base gain : ByteArray} {b : List Bl} {en : Int} {x : Ac} (h : acBad f base gain b en x = 0) (hm : x.mon = true) : (-1000000000000000 ≤ acAmt f base b en x ∧ acAmt f base b en x ≤ 1000000000000000) ∧ acErr f base b en x = 0 := by
  unfold acBad at h
  rw [if_neg (by simp [hm])] at h
  split at h
  · contradiction
  · rename_i h1
    unfold brBad at h
    split at h
    · omega
    · rename_i h2
      have h3 : isAmtB (acAmt f base b en x) = true := by simpa using h2
      have := isAmtB_iff.1 h3
      unfold mostA at this
      exact ⟨this, Decidable.of_not_not h1⟩
theorem mTo_ok {S : Int × DataW Unit} {c : List Ac} {base gain : ByteArray} {b : List Bl} {en pe : Int} (h : rvBad S c base gain b en pe = 0) (hgs : gain.size ≤ maxLen) : PutOk (mTo (wV S base en pe) base gain b en c c.length) := by
  obtain ⟨h1, ⟨_, _, h2, h3, _⟩, _, _, _, h6⟩ := rvBad_ok.1 h
  have hl := chBad_len h1
  have hen := upTo_bd h3
  refine ⟨by have := mTo_len (wV S base en pe) base gain b en c c.length; omega, fun x hx => ?_, fun x hx => ?_⟩
  · obtain ⟨i, hi, hm, hx⟩ := mTo_mem hx
    obtain ⟨q1, _⟩ := amt_of_ok (h6 i hi) hm
    rcases hx with rfl | rfl
    · exact q1
    · show -1000000000000000 ≤ -_ ∧ -_ ≤ 1000000000000000
      omega
  · obtain ⟨i, hi, hm, hx⟩ := mTo_mem hx
    have q2 := code_six h1 hi
    have q3 := cur_size h2
    rcases hx with rfl | rfl
    · exact ⟨⟨by show -9223372036854775808 ≤ en; omega, by show en ≤ 9223372036854775807; omega⟩, by show (c.getD i ac0).code.size ≤ maxLen; unfold maxLen; omega, q3⟩
    · exact ⟨⟨by show -9223372036854775808 ≤ en; omega, by show en ≤ 9223372036854775807; omega⟩, hgs, q3⟩
/-- What the lines bring. -/
theorem mTo_cur {f : Bl → Int} {base gain : ByteArray} {b : List Bl} {en : Int} {c : List Ac} {k : Nat} {q : Pk} (h : q.2.2 ≠ base) : ltot q (mTo f base gain b en c k) = 0 := by
  refine ltot_none _ _ fun x hx e => ?_
  obtain ⟨i, _, _, hx⟩ := mTo_mem hx
  rcases hx with rfl | rfl
  · exact h (by rw [← e]; rfl)
  · exact h (by rw [← e]; rfl)
theorem mTo_acc {f : Bl → Int} {base gain : ByteArray} {b : List Bl} {en : Int} {c : List Ac} (hc : chBad c = 0) {j : Nat} (hj : j < c.length) (hm : (c.getD j ac0).mon = true) (hg : (c.getD j ac0).code ≠ gain) : ∀ k, k ≤ c.length → ltot (en, (c.getD j ac0).code, base) (mTo f base gain b en c k) = if j < k then acAmt f base b en (c.getD j ac0) else 0
  | 0, _ => by simp [mTo, ltot]
  | k + 1, hk => by
    rw [mTo_next, ltot_append, mTo_acc hc hj hm hg k (by omega)]
    by_cases e : k = j
    · subst e
      rw [if_neg (by omega), if_pos (by omega)]
      unfold acM
      by_cases h0 : acAmt f base b en (c.getD k ac0) = 0
      · rw [if_neg (fun h => h.2 h0), h0]; rfl
      · rw [if_pos ⟨hm, h0⟩]
        rw [ltot, if_pos (by rfl), ltot, if_neg (by
          intro e
          simp only [Bl.key, Prod.mk.injEq] at e
          exact hg e.2.1.symm), ltot]
        show 0 + (acAmt f base b en (c.getD k ac0) + (0 + 0)) = acAmt f base b en (c.getD k ac0)
        omega
    · have hz : ltot (en, (c.getD j ac0).code, base) (acM f base gain b en (c.getD k ac0)) = 0 := by
        refine ltot_none _ _ fun x hx e2 => ?_
        unfold acM at hx
        split at hx
        · simp only [List.mem_cons, List.not_mem_nil, or_false] at hx
          rcases hx with rfl | rfl
          · simp only [Bl.key, Prod.mk.injEq] at e2
            exact e (code_inj hc (by omega) hj e2.2.1)
          · simp only [Bl.key, Prod.mk.injEq] at e2
            exact hg e2.2.1.symm
        · cases hx
      rw [hz]
      by_cases h1 : j < k
      · rw [if_pos h1, if_pos (by omega)]; omega
      · rw [if_neg h1, if_neg (by omega)]; rfl
theorem ltot_filter (p : Bl → Bool) (P : Pk → Bool) (hp : ∀ x : Bl, p x = P x.key) (q : Pk) : ∀ l : List Bl, ltot q (l.filter p) = if P q = true then ltot q l else 0
  | [] => by simp [ltot]
  | x :: l => by
    have ih := ltot_filter p P hp q l
    by_cases hx : p x = true
    · rw [List.filter_cons_of_pos hx, ltot, ih, ltot]
      by_cases hk : x.key = q
      · rw [if_pos hk, ← hk, ← hp x, if_pos hx, if_pos hx]
      · rw [if_neg hk]
        split <;> simp
    · rw [List.filter_cons_of_neg hx, ih, ltot]
      by_cases hk : x.key = q
      · rw [← hk, ← hp x, if_neg hx, if_neg hx]
      · rw [if_neg hk]
        split <;> simp
def isOthK (en : Int) (code base : ByteArray) (q : Pk) : Bool := decide (q.1 = en) && (decide (q.2.1 = code) && !decide (q.2.2 = base))
/-- The others stay. -/
theorem oth_same {b R : List Bl} (hb : Fine b) (hR : Rises R) (hz : ∀ x ∈ R, x.amt ≠ 0) (en : Int) (code base : ByteArray) (h : ∀ q : Pk, q.2.2 ≠ base → ltot q R = ltot q b) : R.filter (isOth en code base) = b.filter (isOth en code base) := by
  refine rises_tot (hR.sublist List.filter_sublist) (hb.rises.sublist List.filter_sublist) (fun x hx => hz x (List.mem_filter.1 hx).1) (fun x hx => hb.ne x (List.mem_filter.1 hx).1) fun q => ?_
  rw [ltot_filter (isOth en code base) (isOthK en code base) (fun _ => rfl), ltot_filter (isOth en code base) (isOthK en code base) (fun _ => rfl)]
  by_cases hq : isOthK en code base q = true
  · rw [if_pos hq, if_pos hq]
    unfold isOthK at hq
    simp only [Bool.and_eq_true, decide_eq_true_eq, Bool.not_eq_true', decide_eq_false_iff_not] at hq
    exact h q hq.2.2
  · rw [if_neg hq, if_neg hq]
theorem rv_rests {S : Int × DataW Unit} {c : List Ac} {base gain : ByteArray} {b R : List Bl} {en pe : Int} (h : rvBad S c base gain b en pe = 0) (hg : ∀ i, i < c.length → (c.getD i ac0).mon = true → (c.getD i ac0).code ≠ gain) (hmg : mgE b (full (putL [] (mTo (wV S base en pe) base gain b en c c.length))) = 0) (hR : MgR b (full (putL [] (mTo (wV S base en pe) base gain b en c c.length))) R) :
    rvBad S c base gain R en pe = 0 ∧ rvTo (wV S base en pe) base gain R en pe c c.length = [] := by
  obtain ⟨h1, ⟨hfi, hs, hcur, hen, hpe⟩, h3, h4, h5, h6⟩ := rvBad_ok.1 h
  have hfR : Fine R := by
    obtain ⟨_, _, _, m4⟩ := mgE_zero.1 hmg
    exact ⟨hR.len, hR.sums.rises, hR.sums.amt (ltot_all m4), hR.sums.ne⟩
  have ht : ∀ q : Pk, ltot q R = ltot q b + ltot q (mTo (wV S base en pe) base gain b en c c.length) := fun q => by
    rw [hR.sums.ltot q, ltot_append, ltot_full, putL_tot, List.nil_append]
  have hcr : ∀ q : Pk, q.2.2 ≠ base → ltot q R = ltot q b := fun q hq => by rw [ht q, mTo_cur hq]; omega
  have hfil := fun code => oth_same hfi hfR.rises hfR.ne en code base hcr
  have hac : ∀ i, i < c.length → (c.getD i ac0).mon = true → acAmt (wV S base en pe) base R en (c.getD i ac0) = 0 ∧ acErr (wV S base en pe) base R en (c.getD i ac0) = 0 := fun i hi hm => by
    have hl := ht (en, (c.getD i ac0).code, base)
    rw [mTo_acc h1 hi hm (hg i hi hm) c.length (Nat.le_refl _), if_pos hi] at hl
    obtain ⟨_, e2⟩ := amt_of_ok (h6 i hi) hm
    unfold acAmt acErr at *
    have ho : othL (wV S base en pe) en (c.getD i ac0).code base R = othL (wV S base en pe) en (c.getD i ac0).code base b := by
      unfold othL; rw [hfil]
    rw [ho, hl]
    generalize othL (wV S base en pe) en (c.getD i ac0).code base b = o at *
    generalize ltot (en, (c.getD i ac0).code, base) b = hb at *
    unfold lkE at e2 ⊢
    unfold lkV
    by_cases c0 : o.length = 0
    · rw [if_pos c0, if_pos c0]; exact ⟨rfl, rfl⟩
    · rw [if_neg c0] at e2
      by_cases c1 : fit64 o.sum
      · have n1 : ¬ ¬ fit64 o.sum := fun hh => hh c1
        rw [if_neg n1] at e2
        by_cases c2 : fit64 (o.sum - hb)
        · have n2 : ¬ ¬ fit64 (o.sum - hb) := fun hh => hh c2
          simp only [if_neg c0, if_neg n1, if_neg n2]
          have e0 : o.sum - (hb + (o.sum - hb)) = 0 := by omega
          rw [e0]
          have n3 : ¬ ¬ fit64 0 := fun hh => hh ⟨by omega, by omega⟩
          simp only [if_neg n3]
          exact ⟨trivial, trivial⟩
        · rw [if_pos c2] at e2; omega
      · rw [if_pos c1] at e2; omega
  refine ⟨rvBad_ok.2 ⟨h1, ⟨hfR, hs, hcur, hen, hpe⟩, fun x hx => ?_, h4, fun x hx he => ?_, fun i hi => ?_⟩, rvTo_nil fun i hi hm => (hac i hi hm).1⟩
  · by_cases hc : x.cur = base
    · exact (wV_self hs hcur hpe hc (hfR.amt x hx)).2
    · have e1 := ltot_mem hfR.rises x hx
      rw [hcr x.key hc] at e1
      obtain ⟨y, hy, hk⟩ := ltot_ex (l := b) (k := x.key) (by rw [e1]; exact hfR.ne x hx)
      have e2 := ltot_mem hfi.rises y hy
      rw [hk, e1] at e2
      rw [← bl_ext hk e2.symm]
      exact h3 y hy
  · have e1 := ltot_mem hfR.rises x hx
    have e2 := hfR.ne x hx
    rw [ht x.key] at e1
    by_cases hb0 : ltot x.key b = 0
    · obtain ⟨y, hy, hk⟩ := ltot_ex (l := mTo (wV S base en pe) base gain b en c c.length) (k := x.key) (by omega)
      have ea : y.acc = x.acc := by simp only [Bl.key, Prod.mk.injEq] at hk; exact hk.2.1
      rw [← ea]
      obtain ⟨i, hi, _, hy⟩ := mTo_mem hy
      rcases hy with rfl | rfl
      · exact isAcc_mem h1 hi
      · exact (isAcc_leaf h4).1
    · obtain ⟨y, hy, hk⟩ := ltot_ex hb0
      simp only [Bl.key, Prod.mk.injEq] at hk
      rw [← hk.2.1]
      exact h5 y hy (hk.1.trans he)
  · unfold acBad
    cases hm : (c.getD i ac0).mon
    · rfl
    · obtain ⟨e1, e2⟩ := hac i hi hm
      rw [if_neg (by simp), if_neg (fun hh => hh e2), e1]
      unfold brBad
      rw [if_neg (by decide), if_neg (by simp)]
/-- The entries are even. -/
theorem br_zero (n : Int) (base code gain : ByteArray) (h : -mostA ≤ n ∧ n ≤ mostA) : 0 < (brL n base code gain).length ∧ (brL n base code gain).length ≤ 20 ∧ Within mostA (brL n base code gain) ∧ ∀ y ∈ curSums (brL n base code gain), y.amt = 0 := by
  refine ⟨by simp [brL], by simp [brL], ?_, ?_⟩
  · intro x hx
    simp only [brL, List.mem_cons, List.not_mem_nil, or_false] at hx
    rcases hx with rfl | rfl
    · exact h
    · show -mostA ≤ -n ∧ -n ≤ mostA
      omega
  · have key : ∀ p' : Ln → Bool, KeyP p' → tot p' ((brL n base code gain).map bareL) = 0 := fun p' hp => by
      have e : (brL n base code gain).map bareL = [bareL ⟨code, base, n⟩] ++ [bareL ⟨code, base, n⟩].map turnL := rfl
      rw [e, tot_append, tot_turn hp]; omega
    exact grp_null.2 key
theorem rvTo_mem {f : Bl → Int} {base gain : ByteArray} {b : List Bl} {en pe : Int} {c : List Ac} {n : Nat} {x : Ep} (h : x ∈ rvTo f base gain b en pe c n) : ∃ k, k < n ∧ (c.getD k ac0).mon = true ∧ x.ent = en ∧ x.lns = brL (acAmt f base b en (c.getD k ac0)) base (c.getD k ac0).code gain := by
  obtain ⟨k, hk, hx⟩ := List.mem_flatMap.1 h
  refine ⟨k, List.mem_range.1 hk, ?_⟩
  unfold acE at hx
  split at hx
  · rename_i hh
    rw [List.mem_singleton] at hx
    subst hx
    exact ⟨hh.1, rfl, rfl⟩
  · cases hx
theorem rv_even {S : Int × DataW Unit} {c : List Ac} {base gain : ByteArray} {b : List Bl} {en pe : Int} (h : rvBad S c base gain b en pe = 0) {L : List Je} (hL : L.map Je.ep = rvTo (wV S base en pe) base gain b en pe c c.length) : (∀ x ∈ L, x.ent = en) ∧ ∀ x ∈ L, 0 < x.lns.length ∧ x.lns.length ≤ 20 ∧ Within mostA x.lns ∧ ∀ y ∈ curSums x.lns, y.amt = 0 := by
  have key : ∀ x ∈ L, ∃ k, k < c.length ∧ (c.getD k ac0).mon = true ∧ x.ent = en ∧ x.lns = brL (acAmt (wV S base en pe) base b en (c.getD k ac0)) base (c.getD k ac0).code gain := fun x hx => by
    have hm : x.ep ∈ rvTo (wV S base en pe) base gain b en pe c c.length := by rw [← hL]; exact List.mem_map_of_mem hx
    exact rvTo_mem hm
  obtain ⟨_, _, _, _, _, h6⟩ := rvBad_ok.1 h
  refine ⟨fun x hx => (key x hx).choose_spec.2.2.1, fun x hx => ?_⟩
  obtain ⟨k, hk, hm, _, e⟩ := key x hx
  rw [e]
  obtain ⟨q, _⟩ := amt_of_ok (h6 k hk) hm
  exact br_zero _ _ _ _ (by unfold mostA; exact q)
end Go.Proofs.Ytmelleimijenfaa

namespace Go.Proofs.Ytmelleimijenfaa
set_option linter.unusedVariables false
set_option linter.unusedSimpArgs false
set_option maxRecDepth 100000
open Go.RowKit Go.Lib

set_option maxHeartbeats 1000000 in
theorem lmAhead_any (x y : Bl) (w : World) :
    Calls Try.prog 20 #[.agg x.cells, .agg y.cells] w fun e w' => e = .returned (.bool (decide (cmpB x y < 0))) ∧ Below w.heap.size w w' := by
  obtain ⟨x0, x1, x2, x3⟩ := x
  obtain ⟨y0, y1, y2, y3⟩ := y
  simp only [Bl.cells, cmpB]
  have bl : Below w.heap.size w ((w.alloc (.cells #[.int .i64 x0, .string x1, .string x2, .int .i64 x3] 34)).alloc (.cells #[.int .i64 y0, .string y1, .string y2, .int .i64 y3] 34)) := ((Below.refl _ w).alloc (Nat.le_refl _) _).alloc (by simp) _
  by_cases h0 : x0 = y0
  · subst h0
    have e0 : cmpI x0 x0 = 0 := by simp [cmpI]
    rw [e0, if_neg (by simp)]
    by_cases h1 : x1 = y1
    · subst h1
      rw [if_neg (by simp [ldCmpS_eq.2 rfl])]
      have er : decide (cmpS x2 y2 < 0) = Op.bytesLess x2.toList y2.toList := by rw [Bool.eq_iff_iff, decide_eq_true_eq, cmpS_neg]
      rw [er]
      clear er e0
      go_enter Try.func20, Try.ntmps20
      go_wp2
      go_ret
      exact ⟨rfl, bl⟩
    · have hc : cmpS x1 y1 ≠ 0 := fun h => h1 (ldCmpS_eq.1 h)
      rw [if_pos hc]
      have er : decide (cmpS x1 y1 < 0) = Op.bytesLess x1.toList y1.toList := by rw [Bool.eq_iff_iff, decide_eq_true_eq, cmpS_neg]
      rw [er]
      have h1' : ¬ x1.toList = y1.toList := fun e => h1 (toList_inj e)
      have h1b := en_ne h1
      clear er e0 hc h1
      go_enter Try.func20, Try.ntmps20
      go_wp2
      go_ret
      exact ⟨rfl, bl⟩
  · have hc : cmpI x0 y0 ≠ 0 := by unfold cmpI; split <;> (try split) <;> omega
    rw [if_pos hc]
    have er : decide (cmpI x0 y0 < 0) = decide (x0 < y0) := by
      unfold cmpI
      by_cases h : x0 < y0
      · simp [h]
      · rw [if_neg h]; simp [h]; split <;> omega
    rw [er]
    have h0' : (x0 != y0) = true := by simp [h0]
    clear er hc
    go_enter Try.func20, Try.ntmps20
    go_wp2
    go_ret
    exact ⟨rfl, bl⟩

end Go.Proofs.Ytmelleimijenfaa

namespace Go.Proofs.Ytmelleimijenfaa
set_option linter.unusedVariables false
set_option linter.unusedSimpArgs false
set_option maxRecDepth 100000
open Go.RowKit Go.Lib

theorem blsAt_cells {w : World} {b off : Nat} {l : List Bl} (h : BlsAt w b off l) : ∀ j u, (blRow l)[j]? = some u → w.cell? ((⟨b, off, none⟩ : Addr).add j) = some u := fun j u hu => by
  obtain ⟨q, r, hr, rfl⟩ : ∃ q r, r < 4 ∧ j = q * 4 + r := ⟨j / 4, j % 4, Nat.mod_lt _ (by omega), by omega⟩
  have hj : q * 4 + r < (blRow l).length := by
    false_or_by_contra
    rename_i hn
    rw [List.getElem?_eq_none (by omega)] at hu
    cases hu
  rw [blRow_length] at hj
  have hq : q < l.length := by omega
  rw [blRow_get l q r hq hr] at hu
  have hc := h q hq
  obtain ⟨c0, c1, c2, c3⟩ := hc
  have ea : (⟨b, off, none⟩ : Addr).add (q * 4 + r) = ⟨b, off + q * 4 + r, none⟩ := by simp [Addr.add, Nat.add_assoc]
  rw [ea]
  rcases (by omega : r = 0 ∨ r = 1 ∨ r = 2 ∨ r = 3) with rfl | rfl | rfl | rfl
  · rw [Nat.add_zero, c0]; exact hu
  · rw [c1]; exact hu
  · rw [c2]; exact hu
  · rw [c3]; exact hu

/-- Some balances behind a row of one's own. -/
theorem run_appBl (ty : TypeId) (base : Nat) (v : Value) (l1 : List Bl) (w : World) (hown : BlRow w base v l1) (a : Option Addr) (l2 : List Bl) (c : Nat) (h : IsBl w a l2 c) (hlen : l1.length + l2.length ≤ 1000) (hbase : base ≤ w.heap.size) :
    ∃ v' w', (Builtin.append_ #[24, 24] ty #[v, .slice a l2.length c]).run Try.prog w = .ok v' w' ∧ BlRow w' base v' (l1 ++ l2) ∧ w.grownBy w' v.ownBlock := by
  obtain ⟨i, hi, hz0, hz1, hz2⟩ := info_parts bl_info
  rcases a with _ | ⟨b, off, f⟩
  · have e : l2 = [] := by
      rcases h.lies with h | ⟨b, off, e, _⟩
      · exact h
      · cases e
    subst e
    refine ⟨v, w, ?_, by rw [List.append_nil]; exact hown, ⟨rfl, rfl, rfl, Nat.le_refl _, fun _ _ _ => rfl⟩⟩
    rcases hown.2 with ⟨rfl, hn⟩ | ⟨g, cap, cur, rfl, _, _, hnc, _⟩
    · simp [Builtin.append_, run_underlying Try.underlying24, sizeOf, typeInfo, hi, Builtin.lenOf, Builtin.firstCells]
    · simp [Builtin.append_, run_underlying Try.underlying24, sizeOf, typeInfo, hi, Builtin.lenOf, Builtin.firstCells, hnc, storeCells]
  · have hn : ∀ j u, (blRow l2)[j]? = some u → w.cell? ((⟨b, off, f⟩ : Addr).add j) = some u := by
      rcases h.lies with h | ⟨b', off', e, _, hc⟩
      · subst h
        intro j u hu
        simp [blRow] at hu
      · cases e
        exact blsAt_cells hc
    obtain ⟨v', w', hr, h2, h3, _⟩ := run_append_own (P := Try.prog) w base 24 ty 34 i (.agg #[.int .i64 0, .string ByteArray.empty, .string ByteArray.empty, .int .i64 0]) 4 48 Try.underlying24 hi hz0 hz1 hz2 rfl (by decide) v l1.length (blRow l1) hown ⟨b, off, f⟩ l2.length c (blRow l2) (blRow_length l2) hn (blRow_one_cell l2) (by unfold maxLen; omega) (by omega) hbase
    refine ⟨v', w', hr, ?_, h3⟩
    unfold BlRow
    rw [blRow_append, List.length_append]
    exact h2
theorem wpList_appBl {w : World} {ops : Array Oper} {rest : List Oper} {o : Oper} {a : Act} {Q : Exit → Act → World → Prop} (hgd : o.guard = none) (s x : Operand)
    (ho : o.op = .call { callee := .builtin .append, args := #[s, x], argTypes := #[24, 24] })
    (base : Nat) (v : Value) (l1 : List Bl) (hs : a.eval s = v) (hown : BlRow w base v l1) (ad : Option Addr) (m c : Nat) (l2 : List Bl) (hx : a.eval x = .slice ad m c) (hm : l2.length = m) (h : IsBl w ad l2 c) (hlen : l1.length + l2.length ≤ 1000) (hbase : base ≤ w.heap.size)
    (hh : ∀ v' w', BlRow w' base v' (l1 ++ l2) → w.grownBy w' v.ownBlock → wpList Try.prog ops Q rest (a.put o.dst v') w') : wpList Try.prog ops Q (o :: rest) a w := by
  subst hm
  refine wpList_plain hgd fun K hK => ?_
  obtain ⟨v', w', hr, h2, h3⟩ := run_appBl o.type base v l1 w hown ad l2 c h hlen hbase
  unfold Oper.wp execOp
  simp only [ho, resolve, invoke, builtin, Sem.run_bind, Sem.run_pure, Result.andThen_ok, List.map_toArray, List.map_cons, List.map_nil, hs, hx, hr]
  exact hK _ _ (hh v' w' h2 h3)

/-- A balance of a row that is one's own gets another amount. -/
theorem BlRow.setAmt {W : World} {n0 g cap : Nat} {l : List Bl} (h : BlRow W n0 (.slice (some ⟨g, 0, none⟩) l.length cap) l) (k : Nat) (hk : k < l.length) (a : Int) :
    BlRow (W.setCell ⟨g, k * 4 + 3, none⟩ (.int .i64 a)) n0 (.slice (some ⟨g, 0, none⟩) l.length cap) (l.set k ⟨(l.getD k bl0).ent, (l.getD k bl0).acc, (l.getD k bl0).cur, a⟩) ∧ W.frozen? ⟨g, k * 4 + 3, none⟩ = false := by
  rcases h.2 with ⟨hv, _⟩ | ⟨g1, c1, cur, hv, hb, hg, hc, hm, hs, ht⟩
  · cases hv
  cases hv
  have e1 : blRow (l.set k ⟨(l.getD k bl0).ent, (l.getD k bl0).acc, (l.getD k bl0).cur, a⟩) = (blRow l).set (k * 4 + 3) (.int .i64 a) := by
    apply List.ext_getElem?
    intro j
    obtain ⟨q, r, hr, rfl⟩ : ∃ q r, r < 4 ∧ j = q * 4 + r := ⟨j / 4, j % 4, Nat.mod_lt _ (by omega), by omega⟩
    by_cases hq : q < l.length
    · rw [blRow_get _ q r (by simpa using hq) hr, List.getElem?_set]
      by_cases hqk : q = k
      · subst hqk
        rw [List.getD_eq_getElem?_getD, List.getElem?_set_self hq, Option.getD_some]
        by_cases hr2 : r = 3
        · subst hr2
          rw [if_pos rfl, if_pos (by rw [blRow_length]; omega)]
          rfl
        · rw [if_neg (by omega), blRow_get l q r hq hr]
          rcases (by omega : r = 0 ∨ r = 1 ∨ r = 2) with rfl | rfl | rfl <;> rfl
      · rw [if_neg (by omega), blRow_get l q r hq hr, List.getD_eq_getElem?_getD, List.getElem?_set_ne (fun e => hqk e.symm), ← List.getD_eq_getElem?_getD]
    · rw [List.getElem?_eq_none (by rw [blRow_length, List.length_set]; omega), List.getElem?_eq_none (by rw [List.length_set, blRow_length]; omega)]
  refine ⟨⟨by rw [blRow_length, List.length_set], .inr ⟨g, cap, cur.setIfInBounds (k * 4 + 3) (.int .i64 a), by rw [List.length_set], hb, ?_, by rw [List.length_set]; exact hc, hm, by simpa using hs, ?_⟩⟩, by simp [World.frozen?, hg]⟩
  · rw [setCell_eq_setRow W g (k * 4 + 3) cur 34 (0, 0) _ hg]
    exact setRow_heap W g cur _ 34 (0, 0) hg
  · rw [e1, List.length_set, ← ht, Array.toList_setIfInBounds, List.take_set]

theorem full_take (l : List Bl) (k : Nat) (h : k < l.length) : full (l.take (k + 1)) = if (l.getD k bl0).amt = 0 then full (l.take k) else full (l.take k) ++ [l.getD k bl0] := by
  rw [bls_take l k h]
  generalize l.getD k bl0 = x
  unfold full
  rw [List.filter_append]
  by_cases h0 : x.amt = 0
  · rw [if_pos h0, List.filter_cons, if_neg (by simp [h0])]; simp
  · rw [if_neg h0, List.filter_cons, if_pos (by simp [h0])]; simp
theorem full_length (l : List Bl) : (full l).length ≤ l.length := List.length_filter_le _ _

set_option maxHeartbeats 4000000 in
theorem lmFull_any (a : Option Addr) (cap : Nat) (l : List Bl) (w : World) (hlen : l.length ≤ 400) (h : IsBl w a l cap) :
    Calls Try.prog 10 #[.slice a l.length cap] w fun e w' => ∃ v, e = .returned v ∧ Hid (BlRow w' w.heap.size v (full l) ∧ Below w.heap.size w w') := by
  have HL : Hid (IsBl w a l cap) := h
  clear h
  go_enter Try.func10, Try.ntmps10
  go_wp2
  go_loopw [3, 4] (fun v i wr => ∃ (k : Nat) (va : Option Addr) (vn vc : Nat), k ≤ l.length ∧ i = .int .i64 k ∧ v = .slice va vn vc ∧ Hid (BlRow wr w.heap.size (.slice va vn vc) (full (l.take k)) ∧ Below w.heap.size w wr)) (fun _ i _ => l.length - (RowKit.intOf i).toNat)
  case atStart => exact ⟨0, none, 0, 0, Nat.zero_le _, rfl, rfl, BlRow.nil _ _, Below.refl _ _⟩
  case round =>
    obtain ⟨k, va, vn, vc, hk, rfl, rfl, HR⟩ := hrel
    by_cases hlt : k < l.length
    · obtain ⟨b, off, rfl, hb, hc⟩ := HL.out.some hlt
      have hx := (hc k hlt).below HR.out.2 hb
      have i0 : (0 : Int) ≤ k := by omega
      have i3 : (k : Int) < l.length := by omega
      have hft := full_take l k hlt
      obtain ⟨x, hxx⟩ : ∃ x, l.getD k bl0 = x := ⟨_, rfl⟩
      rw [hxx] at hx hft
      have HFT : Hid (full (l.take (k + 1)) = if x.amt = 0 then full (l.take k) else full (l.take k) ++ [x]) := hft
      have Hfl : Hid ((full (l.take k)).length ≤ 400) := by
        have := full_length (l.take k)
        rw [List.length_take] at this
        unfold Hid
        omega
      clear hft hxx hc
      obtain ⟨x0, x1, x2, x3⟩ := x
      obtain ⟨d0, d1, d2, d3⟩ := hx
      simp only at d0 d1 d2 d3 HFT
      by_cases c0 : x3 = 0
      · have HN : Hid (BlRow wr w.heap.size (.slice va vn vc) (full (l.take (k + 1))) ∧ Below w.heap.size w wr) := by
          unfold Hid
          rw [HFT.out, if_pos c0]
          exact HR.out
        have c0' : (x3 != 0) = false := by simp [c0]
        subst c0
        clear HR
        go_wp2
        go_roundw
        case rel => exact ⟨k + 1, va, vn, vc, by omega, by go_num, rfl, HN⟩
        case measure => simp [RowKit.intOf]; omega
      · have c0' : (x3 != 0) = true := by simp [c0]
        obtain ⟨Z, hZ⟩ : ∃ Z, wr.alloc (.cells #[.int .i64 x0, .string x1, .string x2, .int .i64 x3] 34) = Z := ⟨_, rfl⟩
        have hbZ : Below wr.heap.size wr Z := by rw [← hZ]; exact (Below.refl _ _).alloc (Nat.le_refl _) _
        have HSrc : Hid (IsBl Z (some ⟨wr.heap.size, 0, none⟩) [⟨x0, x1, x2, x3⟩] 1) := by
          refine ⟨Nat.le_refl _, .inr ⟨_, _, rfl, by rw [← hZ]; simp, fun j hj => ?_⟩⟩
          have : j = 0 := by simpa using hj
          subst this
          rw [← hZ]
          exact BlAt.new wr ⟨x0, x1, x2, x3⟩ 34
        have HZr : Hid (BlRow Z w.heap.size (.slice va vn vc) (full (l.take k))) := HR.out.1.below hbZ
        have HNw : Hid (∀ v' U, BlRow U w.heap.size v' (full (l.take k) ++ [⟨x0, x1, x2, x3⟩]) → Z.grownBy U (Value.slice va vn vc).ownBlock → BlRow U w.heap.size v' (full (l.take (k + 1))) ∧ Below w.heap.size w U) := fun v' U ho hg => by
          refine ⟨?_, (HR.out.2.trans (hbZ.mono HR.out.2.size)).grown hg (Nat.le_trans HR.out.2.size hbZ.size) (fun g e => (row_block HZr.out e).1)⟩
          rw [HFT.out, if_neg c0]
          exact ho
        have Hsz : Hid (w.heap.size ≤ Z.heap.size) := Nat.le_trans HR.out.2.size hbZ.size
        have HZ : Hid (wr.alloc (.cells #[.int .i64 x0, .string x1, .string x2, .int .i64 x3] 34) = Z) := hZ
        have Hle : Hid ((full (l.take k)).length + [(⟨x0, x1, x2, x3⟩ : Bl)].length ≤ 1000) := by have := Hfl.out; unfold Hid; simp; omega
        clear hbZ hZ HR HFT
        go_wp2_with (at_builtin; rw [HZ.out]; refine wpList_appBl rfl _ _ rfl w.heap.size _ _ rfl HZr.out _ 1 1 _ rfl rfl HSrc.out Hle.out Hsz.out ?_)
        intro v' U ho hg
        have HG : Hid (BlRow U w.heap.size v' (full (l.take (k + 1))) ∧ Below w.heap.size w U) := HNw.out v' U ho hg
        obtain ⟨a9, c9, e9, -⟩ := HG.out.1.isBl
        subst e9
        clear ho hg HNw HSrc HZr
        go_wp2_with fail
        go_roundw
        case rel => exact ⟨k + 1, _, _, _, by omega, by go_num, rfl, HG⟩
        case measure => simp [RowKit.intOf]; omega
    · obtain rfl : k = l.length := by omega
      have HR2 : Hid (BlRow wr w.heap.size (.slice va vn vc) (full l) ∧ Below w.heap.size w wr) := by
        have := HR.out
        rw [List.take_length] at this
        exact this
      clear HR
      go_wp2
      go_ret
      exact ⟨_, rfl, HR2⟩
end Go.Proofs.Ytmelleimijenfaa
