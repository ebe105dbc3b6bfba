/-
  The contracts of slices.Contains over texts and of chart.eachUnder.
-/
import Derived.Test.YtchpobnfejfegaaDoorZu19
import Derived.Test.YtchpobnfejfegaaDoorZu15
import Derived.Test.YtchpobnfejfegaaDoorZu16
import Derived.Test.YtchpobnfejfegaaDoorZu0
import Derived.Laws.AppendOwnNone
import Derived.Test.YtchpobnfejfegaaDoorZu14
import Derived.Deep.AppendLies
import Derived.Deep.RegionHeldLaw
import Derived.RangeFuncBox
namespace Go.Proofs.YtchpobnfejfegaaDoor
open Go
set_option linter.unusedVariables false

section
variable {P : Program} {ops : Array Oper} {Q : Exit → Act → World → Prop} {md : Region.Mode} {T : World → Prop} {g : Nat}

theorem L_firstP {i : Nat} {oi : Oper} {v : Value} (hi : ops[i]? = some oi) (hgi : g ≠ i)
    (hsel : ∀ (j : Nat) (o : Oper) cs b, ops[j]? = some o → o.op ≠ .select cs b) (hQ : ∀ c a w, Q (.panic c) (a.put oi.dst v) w → Q (.panic c) a w) :
    ∀ (fuel : Nat) (listed : Array Bool) (a : Act) (w : World),
      (∀ j oj, ops[j]? = some oj → j ≠ i → listed.getD j true = false → (∀ e ∈ oj.after, Region.binds md e = true → e.on ≠ i) → oi.apart ops oj = true) →
      i ∈ Region.ready md ops listed → YieldsIf P ops (fun _ => True) oi v a → (listed.getD g true = false → T w) →
      wpAnyL P md ops Q g T fuel (listed.setIfInBounds i true) (a.put oi.dst v) w → wpAnyL P md ops Q g T (fuel + 1) listed a w := by
  have hset : ∀ listed : Array Bool, (listed.setIfInBounds i true).getD g true = listed.getD g true := fun listed => getD_set_ne true (Ne.symm hgi)
  intro fuel
  induction fuel with
  | zero =>
    intro listed a w _ hr hy hT H
    refine ⟨fun h => (by rw [h] at hr; cases hr), fun j hj => ?_⟩
    by_cases hji : j = i
    · subst hji; exact hy.wpOp hi trivial ⟨fun h => hT (by rw [← hset]; exact h), H⟩
    · have := ready_mono hj hji
      rw [H.1] at this
      cases this
  | succ fuel ih =>
    intro listed a w hfree hr hy hT H
    refine ⟨fun h => (by rw [h] at hr; cases hr), fun j hj => ?_⟩
    by_cases hji : j = i
    · subst hji; exact hy.wpOp hi trivial ⟨fun h => hT (by rw [← hset]; exact h), H⟩
    · have h1 := H.2 j (ready_mono hj hji)
      obtain ⟨hjun, oj, hoj, hall⟩ := mem_ready.1 hj
      have hnot : ∀ e ∈ oj.after, Region.binds md e = true → e.on ≠ i := fun e he hb heq => by
        have h1 := hall e he hb
        have h0 := (mem_ready.1 hr).1
        rw [heq] at h1
        rcases Nat.lt_or_ge i listed.size with h' | h'
        · simp [h'] at h0 h1; rw [h0] at h1; cases h1
        · simp [Array.getElem?_eq_none h'] at h1
      have h2 := wpOp_putIf hoj (hfree j oj hoj hji hjun hnot) (fun cs b => hsel i oi cs b hi) (fun cs b => hsel j oj cs b hoj) hQ hy h1
      have hfree' : ∀ k ok, ops[k]? = some ok → k ≠ i → (listed.setIfInBounds j true).getD k true = false →
          (∀ e ∈ ok.after, Region.binds md e = true → e.on ≠ i) → oi.apart ops ok = true := fun k ok hk hki hun hno => by
        refine hfree k ok hk hki ?_ hno
        by_cases hjk : j = k
        · subst hjk; exact hjun
        · rw [getD_set_ne true hjk] at hun; exact hun
      refine wpOp_mono (fun a' w' h3 => ?_) h2
      have hT' : (listed.setIfInBounds j true).getD g true = false → T w' := fun hg => h3.2.1 (by
        rw [Array.setIfInBounds_comm _ _ (Ne.symm hji), hset]
        exact hg)
      refine ⟨hT', ih (listed.setIfInBounds j true) a' w' hfree' (ready_mono hr (Ne.symm hji)) h3.1 hT' ?_⟩
      rw [Array.setIfInBounds_comm _ _ hji]
      exact h3.2.2

/-- The move of a walk. -/
theorem L_takeP {i : Nat} {oi : Oper} {v : Value} {fuel : Nat} {listed : Array Bool} {a : Act} {w : World} (hi : ops[i]? = some oi) (hgi : g ≠ i)
    (hs : Region.noSelect ops = true) (hf : Region.free md ops listed i = true) (hr : (Region.ready md ops listed).contains i = true)
    (hQ : ∀ c a w, Q (.panic c) (a.put oi.dst v) w → Q (.panic c) a w) (hy : YieldsIf P ops (fun _ => True) oi v a) (hT : T w)
    (h : wpAnyL P md ops Q g T fuel (listed.setIfInBounds i true) (a.put oi.dst v) w) : wpAnyL P md ops Q g T (fuel + 1) listed a w :=
  L_firstP hi hgi (Region.noSelect_spec hs) hQ fuel listed a w (Region.free_spec hi hf) (by simpa using hr) hy (fun _ => hT) h
end
end Go.Proofs.YtchpobnfejfegaaDoor

namespace Go.Proofs.YtchpobnfejfegaaDoor
set_option linter.unusedVariables false
set_option linter.unusedSimpArgs false
set_option maxRecDepth 100000
open Go.RowKit Go.Lib

/-- Some numbers behind a row of one's own. -/
theorem run_appW (ty : TypeId) (base : Nat) (v : Value) (l1 : List Int) (w : World) (hown : w.ownsRow base 3 1 v l1.length (l1.map (Value.int .i64))) (a : Option Addr) (l2 : List Int) (c : Nat) (h : IsW w a l2 c) (hlen : l1.length + l2.length ≤ 1000) (hbase : base ≤ w.heap.size) :
    ∃ v' w', (Builtin.append_ #[23, 23] ty #[v, .slice a l2.length c]).run Tryd.prog w = .ok v' w' ∧ w'.ownsRow base 3 1 v' (l1.length + l2.length) ((l1 ++ l2).map (Value.int .i64)) ∧ w.grownBy w' v.ownBlock := by
  obtain ⟨i, hi, hz0, hz1, hz2⟩ := info_parts st_int_info
  rcases a with _ | ⟨b, off, f⟩
  · have e : l2 = [] := by
      rcases h.lies with h | ⟨b, off, e, _⟩
      · exact h
      · cases e
    subst e
    refine ⟨v, w, ?_, by rw [List.append_nil]; exact hown, ⟨rfl, rfl, rfl, Nat.le_refl _, fun _ _ _ => rfl⟩⟩
    rcases hown.2 with ⟨rfl, hn⟩ | ⟨g, cap, cur, rfl, _, _, hnc, _⟩
    · simp [Builtin.append_, run_underlying Tryd.underlying23, sizeOf, typeInfo, hi, Builtin.lenOf, Builtin.firstCells]
    · simp [Builtin.append_, run_underlying Tryd.underlying23, sizeOf, typeInfo, hi, Builtin.lenOf, Builtin.firstCells, hnc, storeCells]
  · have hn : ∀ j u, (l2.map (Value.int .i64))[j]? = some u → w.cell? ((⟨b, off, f⟩ : Addr).add j) = some u := by
      rcases h.lies with h | ⟨b', off', e, _, hc⟩
      · subst h
        intro j u hu
        simp at hu
      · cases e
        intro j u hj
        have hlt2 := (List.getElem?_eq_some_iff.1 hj).1
        rw [List.length_map] at hlt2
        rw [Addr.add_lit]
        rw [hc j hlt2, ← hj, List.getElem?_map, List.getElem?_eq_getElem hlt2, List.getD_eq_getElem?_getD, List.getElem?_eq_getElem hlt2]
        rfl
    obtain ⟨v', w', hr, h2, h3, _⟩ := run_append_own (P := Tryd.prog) w base 23 ty 3 i (.int .i64 0) 1 8 Tryd.underlying23 hi hz0 hz1 hz2 rfl (by decide) v l1.length (l1.map (Value.int .i64)) hown ⟨b, off, f⟩ l2.length c (l2.map (Value.int .i64)) (by simp) hn (fun u hu => by obtain ⟨y, _, rfl⟩ := List.mem_map.1 hu; rfl) (by unfold maxLen; omega) (by omega) hbase
    refine ⟨v', w', hr, ?_, h3⟩
    rw [List.map_append]
    exact h2
theorem wpList_appW {w : World} {ops : Array Oper} {rest : List Oper} {o : Oper} {a : Act} {Q : Exit → Act → World → Prop} (hgd : o.guard = none) (s x : Operand)
    (ho : o.op = .call { callee := .builtin .append, args := #[s, x], argTypes := #[23, 23] })
    (base : Nat) (v : Value) (l1 : List Int) (hs : a.eval s = v) (hown : w.ownsRow base 3 1 v l1.length (l1.map (Value.int .i64))) (ad : Option Addr) (m c : Nat) (l2 : List Int) (hx : a.eval x = .slice ad m c) (hm : l2.length = m) (h : IsW w ad l2 c) (hlen : l1.length + l2.length ≤ 1000) (hbase : base ≤ w.heap.size)
    (hh : ∀ v' w', w'.ownsRow base 3 1 v' (l1.length + l2.length) ((l1 ++ l2).map (Value.int .i64)) → w.grownBy w' v.ownBlock → wpList Tryd.prog ops Q rest (a.put o.dst v') w') : wpList Tryd.prog ops Q (o :: rest) a w := by
  subst hm
  refine wpList_plain hgd fun K hK => ?_
  obtain ⟨v', w', hr, h2, h3⟩ := run_appW o.type base v l1 w hown ad l2 c h hlen hbase
  unfold Oper.wp execOp
  simp only [ho, resolve, invoke, builtin, Sem.run_bind, Sem.run_pure, Result.andThen_ok, List.map_toArray, List.map_cons, List.map_nil, hs, hx, hr]
  exact hK _ _ (hh v' w' h2 h3)
theorem sum_nonpos : ∀ l : List Int, (∀ x ∈ l, x ≤ 0) → l.sum ≤ 0
  | [], _ => by simp
  | x :: l, h => by
    have h1 := sum_nonpos l fun y hy => h y (List.mem_cons_of_mem _ hy)
    have h2 := h x (List.mem_cons_self ..)
    rw [List.sum_cons]; omega
theorem sh_beh {beh : List Int} (hl : beh.length ≤ 40) (hw : ∀ x ∈ beh, 0 ≤ x ∧ x ≤ 1000000000) : (beh.any posB = true → GoodW beh) ∧ (beh.any posB = false → shBad beh ≠ 0) := by
  refine ⟨fun h => good_beh hl hw h, fun h h0 => ?_⟩
  have hg := (shBad_zero h0).2.2
  rw [List.any_eq_false] at h
  have := sum_nonpos beh fun x hx => by
    have := h x hx
    simp [posB] at this
    omega
  omega
/-- What the reference leaves. -/
def RsEnd (l : List Wr) (am : List Int) (w : World) (e : Ending) (w' : World) : Prop :=
  ∃ v, e = .returned (.tuple #[v, .int .i64 (spBad l am)]) ∧ Below w.heap.size w w' ∧ HasW w' v (if spBad l am = 0 then stepL (fun k => (l.getD k wr0).xs) am am.length else [])
theorem any_take_bad {p : Int → Bool} {l : List Int} {k : Nat} (hk : k < l.length) (h : p (l.getD k 0) = true) : l.any p = true := List.any_eq_true.2 ⟨_, getD_mem_int hk, h⟩
theorem any_take_next {p : Int → Bool} {l : List Int} {k : Nat} (hk : k < l.length) (h : (l.take k).any p = false) (h2 : p (l.getD k 0) = false) : (l.take (k + 1)).any p = false := by
  rw [List.take_add_one, List.getElem?_eq_getElem hk, List.any_append, h]
  rw [List.getD_eq_getElem?_getD, List.getElem?_eq_getElem hk] at h2
  simpa using h2
set_option maxHeartbeats 16000000 in
theorem refSteps_any (a a2 : Option Addr) (l : List Wr) (am : List Int) (cap cap2 : Nat) (w : World) (h : IsWs w a l cap) (h2 : IsW w a2 am cap2) (hl : l.length ≤ 9223372036854775807) (hl2 : am.length ≤ 9223372036854775807) :
    Calls Tryd.prog 4 #[.slice a l.length cap, .slice a2 am.length cap2] w (RsEnd l am w) := by
  have HErr : Hid (∀ z W, z ≠ 0 → spBad l am = z → Below w.heap.size w W → RsEnd l am w (.returned (.tuple #[.slice none 0 0, .int .i64 z])) W) := fun z W h0 h1 hW => by
    refine ⟨.slice none 0 0, by rw [h1], hW, ?_⟩
    rw [if_neg (by rw [h1]; exact h0)]
    exact ⟨none, 0, rfl, isW_nil W⟩
  by_cases c1 : 20 < am.length
  · have HE : Hid (RsEnd l am w (.returned (.tuple #[.slice none 0 0, .int .i64 4])) w) := HErr.out 4 w (by decide) (by unfold spBad; rw [if_pos c1]) (Below.refl _ _)
    have i1 : (20 : Int) < am.length := by omega
    clear h h2 HErr
    go_enter Tryd.func4, Tryd.ntmps4
    go_wp2
    go_ret2
    exact HE.out
  have i1 : ¬ (20 : Int) < am.length := by omega
  by_cases c2 : l.length ≠ am.length
  · have HE : Hid (RsEnd l am w (.returned (.tuple #[.slice none 0 0, .int .i64 3])) w) := HErr.out 3 w (by decide) (by unfold spBad; rw [if_neg c1, if_pos (.inl c2)]) (Below.refl _ _)
    have i2 : ((l.length : Int) != am.length) = true := by
      simp only [bne_iff_ne, ne_eq]
      omega
    clear h h2 HErr
    go_enter Tryd.func4, Tryd.ntmps4
    go_wp2
    go_ret2
    exact HE.out
  have c2' : l.length = am.length := Decidable.of_not_not c2
  have HSp : Hid (spBad l am = if l.any (otherB am.length) = true then 3 else foundTo (rowBad l am) am.length) := by
    unfold spBad Hid
    rw [if_neg c1]
    by_cases ho : l.any (otherB am.length) = true
    · rw [if_pos (.inr ho), if_pos ho]
    · rw [if_neg (by rintro (hh | hh); exact c2 hh; exact ho hh), if_neg ho]
  have HOk : Hid (∀ v W, spBad l am = 0 → Below w.heap.size w W → HasW W v (stepL (fun k => (l.getD k wr0).xs) am am.length) → RsEnd l am w (.returned (.tuple #[v, .int .i64 0])) W) := fun v W h0 hW hv => ⟨v, by rw [h0], hW, by rw [if_pos h0]; exact hv⟩
  have HL : Hid (IsWs w a l cap) := h
  have HA : Hid (IsW w a2 am cap2) := h2
  have HAm : Hid (∀ (x : Int) W, Calls Tryd.prog 8 #[.int .i64 x] W fun e w' => e = .returned (.bool (isAmtB x)) ∧ w' = W) := fun x W => refAmount_any x W
  obtain ⟨n, hn⟩ : ∃ n, am.length = n := ⟨_, rfl⟩
  have Hn : Hid (am.length = n) := hn
  have Hln : Hid (l.length = n) := c2'.trans hn
  rw [hn] at HSp HOk i1
  rw [c2', hn]
  have n20 : n ≤ 20 := by omega
  have i2 : (n : Int) ≤ 20 := by omega
  have i3 : ((n : Int) != n) = false := by simp
  clear h h2 c1 c2 c2' hn hl hl2
  go_enter Tryd.func4, Tryd.ntmps4
  go_wp2
  go_loop [7] (fun i => ∃ k : Nat, k ≤ n ∧ i = .int .i64 k ∧ Hid (∀ j, j < k → (l.getD j wr0).xs.length = n)) (fun i => n - (RowKit.intOf i).toNat)
  case atStart => exact ⟨0, Nat.zero_le _, rfl, fun j hj => by omega⟩
  case round =>
    obtain ⟨k, hk, rfl, HK⟩ := hrel
    by_cases hkn : k < n
    · obtain ⟨b, off, e, hb, hc, _, hx⟩ := HL.out.at (k := k) (by rw [Hln.out]; exact hkn)
      subst e
      have j0 : (0 : Int) ≤ k := by omega
      have j1 : (k : Int) < n := by omega
      by_cases c3 : (l.getD k wr0).xs.length = n
      · rw [c3] at hc
        have HK2 : Hid (∀ j, j < k + 1 → (l.getD j wr0).xs.length = n) := fun j hj => by
          by_cases e : j = k
          · subst e; exact c3
          · exact HK.out j (by omega)
        clear HK c3
        generalize l.getD k wr0 = r at hc
        go_wp2
        go_round
        case rel => exact ⟨k + 1, by omega, by go_num, HK2⟩
        case measure => simp [RowKit.intOf]; omega
      · have HE : Hid (RsEnd l am w (.returned (.tuple #[.slice none 0 0, .int .i64 3])) w) := HErr.out 3 w (by decide) (by rw [HSp.out, if_pos (List.any_eq_true.2 ⟨_, wr_mem l k (by rw [Hln.out]; exact hkn), by unfold otherB; exact decide_eq_true c3⟩)]) (Below.refl _ _)
        have j2 : (((l.getD k wr0).xs.length : Int) != n) = true := by
          simp only [bne_iff_ne, ne_eq]
          omega
        clear HK HErr HOk HSp c3
        generalize l.getD k wr0 = r at *
        go_wp2
        go_ret2
        exact HE.out
    · obtain rfl : k = n := by omega
      have HKn := HK
      have HS2 : Hid (spBad l am = foundTo (rowBad l am) k) := by
        unfold Hid
        rw [HSp.out, if_neg]
        intro hh
        obtain ⟨r, hr, ho⟩ := List.any_eq_true.1 hh
        obtain ⟨j, hj, rfl⟩ := List.getElem_of_mem hr
        unfold otherB at ho
        have := HK.out j (by rw [← Hln.out]; exact hj)
        rw [List.getD_eq_getElem?_getD, List.getElem?_eq_getElem hj] at this
        exact (of_decide_eq_true ho) this
      have j1 : ¬ (k : Int) < k := by omega
      clear HK HSp
      go_wp2
      go_loop [8] (fun i => ∃ j : Nat, j ≤ k ∧ i = .int .i64 j ∧ Hid (foundTo (rowBad l am) j = 0)) (fun i => k - (RowKit.intOf i).toNat)
      case atStart => exact ⟨0, Nat.zero_le _, rfl, rfl⟩
      case round =>
        obtain ⟨j, hj, rfl, HJ⟩ := hrel
        by_cases hjn : j < k
        · obtain ⟨b, off, e, hb, hc, hw1, _⟩ := HL.out.at (k := j) (by rw [Hln.out]; exact hjn)
          subst e
          have hlen := HKn.out j hjn
          rw [hlen] at hc
          have HW1 : Hid (IsW w (l.getD j wr0).adr (l.getD j wr0).xs (l.getD j wr0).cap) := hw1
          have Hlen : Hid ((l.getD j wr0).xs.length = k) := hlen
          obtain ⟨b2, o2, e2, _, hc2⟩ := HA.out.at (k := j) (by rw [Hn.out]; exact hjn)
          subst e2
          have HRb : Hid (rowBad l am j = if (l.getD j wr0).xs.any wBad = true ∨ amtB (am.getD j 0) = false then 1 else 0) := rfl
          have HE : Hid (rowBad l am j = 1 → RsEnd l am w (.returned (.tuple #[.slice none 0 0, .int .i64 1])) w) := fun hh => HErr.out 1 w (by decide) (by rw [HS2.out, foundTo_first HJ.out (by rw [hh]; decide) hjn, hh]) (Below.refl _ _)
          have HN : Hid (rowBad l am j = 0 → foundTo (rowBad l am) (j + 1) = 0) := fun hh => by rw [foundTo_next HJ.out, hh]
          have j0 : (0 : Int) ≤ j := by omega
          have j2 : (j : Int) < k := by omega
          clear hw1 hlen HJ
          generalize rowBad l am j = rb at *
          generalize l.getD j wr0 = r at *
          generalize am.getD j 0 = aj at *
          obtain ⟨ra, rc, xs⟩ := r
          simp only at hc HW1 Hlen HRb
          go_wp2
          go_loop [9] (fun i => ∃ m : Nat, m ≤ k ∧ i = .int .i64 m ∧ Hid ((xs.take m).any wBad = false)) (fun i => k - (RowKit.intOf i).toNat)
          case atStart => exact ⟨0, Nat.zero_le _, rfl, by unfold Hid; simp⟩
          case round =>
            obtain ⟨m, hm, rfl, HM⟩ := hrel
            by_cases hmk : m < k
            · obtain ⟨b3, o3, e3, _, hc3⟩ := HW1.out.at (k := m) (by rw [Hlen.out]; exact hmk)
              subst e3
              have m0 : (0 : Int) ≤ m := by omega
              have m1 : (m : Int) < k := by omega
              have hbd := any_take_bad (p := wBad) (l := xs) (k := m) (by rw [Hlen.out]; exact hmk)
              have hnx := any_take_next (p := wBad) (l := xs) (k := m) (by rw [Hlen.out]; exact hmk) HM.out
              have HBd : Hid (wBad (xs.getD m 0) = true → xs.any wBad = true) := hbd
              have HNx : Hid (wBad (xs.getD m 0) = false → (xs.take (m + 1)).any wBad = false) := hnx
              clear hbd hnx HM
              generalize xs.getD m 0 = xm at *
              by_cases g1 : xm < 0
              · have HE2 : Hid (RsEnd l am w (.returned (.tuple #[.slice none 0 0, .int .i64 1])) w) := HE.out (by rw [HRb.out, if_pos (.inl (HBd.out (by simp [wBad, g1])))])
                clear HE HN HRb HBd HNx HErr HOk
                go_wp2
                go_ret2
                exact HE2.out
              by_cases g2 : 1000000000 < xm
              · have HE2 : Hid (RsEnd l am w (.returned (.tuple #[.slice none 0 0, .int .i64 1])) w) := HE.out (by rw [HRb.out, if_pos (.inl (HBd.out (by simp [wBad, g2])))])
                clear HE HN HRb HBd HNx HErr HOk
                go_wp2
                go_ret2
                exact HE2.out
              have HM2 : Hid ((xs.take (m + 1)).any wBad = false) := HNx.out (by simp [wBad, g1, g2])
              clear HBd HNx
              go_wp2
              go_round
              case rel => exact ⟨m + 1, by omega, by go_num, HM2⟩
              case measure => simp [RowKit.intOf]; omega
            · obtain rfl : m = k := by omega
              have hxs : xs.any wBad = false := by have := HM.out; rw [← Hlen.out, List.take_length] at this; exact this
              have m1 : ¬ (m : Int) < m := by omega
              have HB3 : Hid (Calls Tryd.prog 8 #[.int .i64 aj] w fun e w' => e = .returned (.bool (isAmtB aj)) ∧ w' = w) := HAm.out aj w
              have hab : isAmtB aj = amtB aj := by unfold isAmtB amtB; simp [Bool.decide_and]
              cases g3 : isAmtB aj
              · have HE2 : Hid (RsEnd l am w (.returned (.tuple #[.slice none 0 0, .int .i64 1])) w) := HE.out (by rw [HRb.out, if_pos (.inr (by rw [← hab, g3]))])
                rw [g3] at HB3
                clear HE HN HRb HErr HOk HM hab hxs g3
                go_wp2_with fail
                refine HB3.out.mono ?_
                rintro e w' ⟨rfl, hw⟩
                rw [hw]; clear hw w' HB3
                go_wp2
                go_ret2
                exact HE2.out
              · have HN2 : Hid (foundTo (rowBad l am) (j + 1) = 0) := HN.out (by rw [HRb.out, if_neg]; rintro (hh | hh); (rw [hxs] at hh; cases hh); (rw [← hab, g3] at hh; cases hh))
                rw [g3] at HB3
                clear HE HN HRb HM hab hxs g3
                go_wp2_with fail
                refine HB3.out.mono ?_
                rintro e w' ⟨rfl, hw⟩
                rw [hw]; clear hw w' HB3
                go_wp2
                go_round
                case rel => exact ⟨j + 1, by omega, by go_num, HN2⟩
                case measure => simp [RowKit.intOf]; omega
        · obtain rfl : j = k := by omega
          have HZ : Hid (spBad l am = 0) := by unfold Hid; rw [HS2.out, HJ.out]
          obtain ⟨p1, p2, p3⟩ := spBad_ok HZ.out
          have HK : Hid (∀ i, i ≤ j → (stepL (fun k => (l.getD k wr0).xs) am i).length = j ∧ absS (stepL (fun k => (l.getD k wr0).xs) am i) ≤ 1000000000000000000) := fun i hi => by
            obtain ⟨q1, _, q3⟩ := step_keeps p2 i (by rw [Hn.out]; exact hi)
            have q4 := abs_le (l := am) (M := 1000000000000000) fun x hx => by have := p3 x hx; unfold sizeI; split <;> omega
            have q5 := Hn.out
            exact ⟨q1.trans Hn.out, by omega⟩
          have HG : Hid (∀ i, i < j → (l.getD i wr0).xs.length = j ∧ ∀ x ∈ (l.getD i wr0).xs, 0 ≤ x ∧ x ≤ 1000000000) := fun i hi => by
            have := p2.2 i (by rw [Hn.out]; exact hi)
            rw [Hn.out] at this
            exact this
          obtain ⟨rw_, hrw⟩ : ∃ rw_ : Nat → List Int, (fun k => (l.getD k wr0).xs) = rw_ := ⟨_, rfl⟩
          rw [hrw] at HOk HK
          have HRw : Hid (∀ k, rw_ k = (l.getD k wr0).xs) := fun k => by rw [← hrw]
          have j2 : ¬ (j : Int) < j := by omega
          have Hle : Hid ((([] : List Int).length + am.length : Nat) ≤ 1000) := by have := Hn.out; unfold Hid; simp; omega
          clear p1 p2 p3 hrw HJ HS2 HErr HAm HKn j1
          go_wp2_with (at_builtin; refine wpList_appW rfl _ _ rfl w.heap.size _ [] rfl (World.ownsRow_nil _ _ _ _) a2 j cap2 am rfl Hn.out HA.out Hle.out (Nat.le_refl _) ?_)
          intro v' w1 hown hgrow
          have hB1 : Below w.heap.size w w1 := (Below.refl _ w).grown hgrow (Nat.le_refl _) (fun k e => by cases e)
          have hown2 : w1.ownsRow w.heap.size 3 1 v' j (am.map (Value.int .i64)) := by
            have := hown
            simp only [List.nil_append, List.length_nil, Nat.zero_add, Hn.out] at this
            exact this
          rcases hown2.2 with ⟨hv, hn0⟩ | ⟨g, cg, cur, hv, hg, hh, hg1, hg2, hg3, hg4⟩
          · subst hv
            subst hn0
            have e0 : am = [] := List.eq_nil_of_length_eq_zero Hn.out
            subst e0
            have HE : Hid (RsEnd l [] w (.returned (.tuple #[.slice none 0 0, .int .i64 0])) w1) := HOk.out _ w1 HZ.out hB1 ⟨none, 0, rfl, isW_nil w1⟩
            clear HOk HK HG HL HA hown hown2 hgrow
            go_wp2
            refine wp_loop_rounds 1 ?_
            rw [rounds_succ]
            go_wp2
            go_ret2
            exact HE.out
          subst hv
          have HR1 : Hid (HRow w1 g cg am) := ⟨cur, hh, by omega, by have := Hn.out; omega, by rw [Hn.out]; simpa using hg4⟩
          have HB1 : Hid (Below w.heap.size w w1) := hB1
          have Hgw : Hid (w.heap.size ≤ g) := hg
          have hcn : j ≤ cg := hg1
          clear hown hown2 hgrow hB1 hh hg2 hg3 hg4 hg
          go_wp2
          go_loopw [12] (fun ix wr => ∃ i : Nat, i ≤ j ∧ ix = .int .i64 i ∧ Hid (HRow wr g cg (stepL rw_ am i)) ∧ Hid (Below w.heap.size w wr)) (fun ix _ => j - (RowKit.intOf ix).toNat)
          case atStart => exact ⟨0, Nat.zero_le _, rfl, HR1, HB1⟩
          case round =>
            obtain ⟨i, hi, rfl, R, HB⟩ := hrel
            by_cases hij : i < j
            · obtain ⟨b, off, e, hb, hc, hw1, _⟩ := ((HL.out).below HB.out).at (k := i) (by rw [Hln.out]; exact hij)
              subst e
              obtain ⟨g1, g2⟩ := HG.out i hij
              obtain ⟨k1, k2⟩ := HK.out i hi
              have hd := hw1.drop (i + 1) (by omega)
              have hdl : ((l.getD i wr0).xs.drop (i + 1)).length = j - (i + 1) := by rw [List.length_drop, g1]
              have c0 := R.out.cell (i := i) (by rw [k1]; exact hij)
              have hgl := R.out.lt
              have HNx : Hid (stepL rw_ am (i + 1) = downL (stepL rw_ am i) i ((l.getD i wr0).xs.drop (i + 1))) := by
                show downL _ _ ((rw_ i).drop (i + 1)) = _
                rw [HRw.out i]
              have hb2 : ((l.getD i wr0).xs.drop (i + 1)).length = (stepL rw_ am i).length - (i + 1) := by rw [hdl, k1]
              have hg2 : ∀ x ∈ (l.getD i wr0).xs.drop (i + 1), 0 ≤ x ∧ x ≤ 1000000000 := fun x hx => g2 x (List.mem_of_mem_drop hx)
              obtain ⟨sb1, sb2⟩ := sh_beh (beh := (l.getD i wr0).xs.drop (i + 1)) (by rw [hdl]; omega) hg2
              have htb := size_bd (Int.le_trans (size_le_abs (getD_mem_int (l := stepL rw_ am i) (i := i) (by rw [k1]; exact hij))) k2)
              have e2 : ∀ W, (Instr.slice 23 (.slice (l.getD i wr0).adr j (l.getD i wr0).cap) (some (.int .i64 ((i + 1 : Nat) : Int))) none none).run Tryd.prog W = .ok (.slice (inA (l.getD i wr0).adr (l.getD i wr0).cap (i + 1)) (j - (i + 1)) ((l.getD i wr0).cap - (i + 1))) W := fun W => run_inL (l.getD i wr0).adr j (l.getD i wr0).cap (i + 1) (by omega) W
              have hdr : Below wr.heap.size wr wr.drew := (Below.refl _ wr).drew
              have HIW : Hid (IsW wr.drew (inA (l.getD i wr0).adr (l.getD i wr0).cap (i + 1)) ((l.getD i wr0).xs.drop (i + 1)) ((l.getD i wr0).cap - (i + 1))) := hd.below hdr
              have HRd : Hid (HRow wr.drew g cg (stepL rw_ am i)) := R.out.below hdr
              have HBd : Hid (Below w.heap.size w wr.drew) := HB.out.drew
              have HCell : Hid (∀ u, Below wr.drew.heap.size wr.drew u → u.cell? ⟨g, i, none⟩ = some (.int .i64 ((stepL rw_ am i).getD i 0)) ∧ u.cell? ⟨b, off + i, none⟩ = some (.slice (l.getD i wr0).adr j (l.getD i wr0).cap)) := fun u hu => by
                rw [g1] at hc
                exact ⟨(hu.cell (p := ⟨g, i, none⟩) hgl).trans c0, (hu.cell (p := ⟨b, off + i, none⟩) hb).trans hc⟩
              have HM : Hid (((l.getD i wr0).xs.drop (i + 1)).any posB = true → (∀ k, k < ((l.getD i wr0).xs.drop (i + 1)).length → (midL (stepL rw_ am i) i ((l.getD i wr0).xs.drop (i + 1)) k).getD (i + 1 + k) 0 = ((stepL rw_ am i).drop (i + 1)).getD k 0 ∧ (midL (stepL rw_ am i) i ((l.getD i wr0).xs.drop (i + 1)) k).set (i + 1 + k) (((stepL rw_ am i).drop (i + 1)).getD k 0 + shareI ((stepL rw_ am i).getD i 0) ((l.getD i wr0).xs.drop (i + 1)) k) = midL (stepL rw_ am i) i ((l.getD i wr0).xs.drop (i + 1)) (k + 1) ∧ (midL (stepL rw_ am i) i ((l.getD i wr0).xs.drop (i + 1)) k).length = j ∧ (-1000000000000000000 ≤ ((stepL rw_ am i).drop (i + 1)).getD k 0 ∧ ((stepL rw_ am i).drop (i + 1)).getD k 0 ≤ 1000000000000000000) ∧ -1000000000000000000 ≤ shareI ((stepL rw_ am i).getD i 0) ((l.getD i wr0).xs.drop (i + 1)) k ∧ shareI ((stepL rw_ am i).getD i 0) ((l.getD i wr0).xs.drop (i + 1)) k ≤ 1000000000000000000) ∧ midL (stepL rw_ am i) i ((l.getD i wr0).xs.drop (i + 1)) 0 = (stepL rw_ am i).set i 0 ∧ midL (stepL rw_ am i) i ((l.getD i wr0).xs.drop (i + 1)) ((l.getD i wr0).xs.drop (i + 1)).length = stepL rw_ am (i + 1)) := fun hp => by
                have hi' : i < (stepL rw_ am i).length := by rw [k1]; exact hij
                have hG := sb1 hp
                refine ⟨fun k hk => ⟨mid_at _ i _ k hi' hb2 hk, mid_next _ i _ k hi' hb2 hk, by rw [mid_len _ i _ k hi' hb2 (by omega)]; exact k1, size_bd (Int.le_trans (size_le_abs (List.mem_of_mem_drop (i := i + 1) (getD_mem_int (by rw [List.length_drop]; omega)))) k2), ?_⟩, mid_zero _ i _ hi', by rw [HNx.out]; exact mid_all _ i _ hb2 hp⟩
                have := share_bd hG hk (t := (stepL rw_ am i).getD i 0)
                by_cases h0 : 0 ≤ (stepL rw_ am i).getD i 0
                · have := this.1 h0; omega
                · have := this.2 (by omega); omega
              have HNo : Hid (((l.getD i wr0).xs.drop (i + 1)).any posB = false → stepL rw_ am (i + 1) = stepL rw_ am i) := fun hp => by
                rw [HNx.out]; unfold downL; rw [if_neg (by rw [hp]; simp)]
              have HSb : Hid ((((l.getD i wr0).xs.drop (i + 1)).any posB = true → GoodW ((l.getD i wr0).xs.drop (i + 1))) ∧ (((l.getD i wr0).xs.drop (i + 1)).any posB = false → shBad ((l.getD i wr0).xs.drop (i + 1)) ≠ 0)) := ⟨sb1, sb2⟩
              have Hk1 : Hid ((stepL rw_ am i).length = j) := k1
              have Hdl : Hid (((l.getD i wr0).xs.drop (i + 1)).length = j - (i + 1)) := hdl
              clear hd hdl g1 g2 k1 k2 hb2 hg2 sb1 sb2 HNx R HB hw1 hc c0 hdr
              generalize (l.getD i wr0).xs.drop (i + 1) = beh at *
              generalize stepL rw_ am i = has at *
              generalize l.getD i wr0 = r at *
              obtain ⟨p1, hp1⟩ : ∃ p1 : Nat, i + 1 = p1 := ⟨_, rfl⟩
              rw [hp1] at e2 HIW Hdl
              have Hp1 : Hid (i + 1 = p1) := hp1
              have iw : IntKind.i64.wrap ((i : Int) + 1) = (p1 : Int) := by
                simp only [IntKind.wrap, IntKind.bits, IntKind.signed]
                simp
                omega
              obtain ⟨nl, hnl⟩ : ∃ nl, j - p1 = nl := ⟨_, rfl⟩
              have Hnl : Hid (nl + p1 = j) := by unfold Hid; omega
              rw [hnl] at e2 Hdl
              have q0 : (0 : Int) ≤ i := by omega
              have q1 : (i : Int) < j := by omega
              have q2 : (0 : Int) ≤ p1 := by omega
              have q3 : (p1 : Int) ≤ j := by omega
              clear hp1 hnl
              generalize inA r.adr r.cap p1 = ia at *
              generalize r.cap - p1 = ic at *
              obtain ⟨t, ht⟩ : ∃ t, has.getD i 0 = t := ⟨_, rfl⟩
              rw [ht] at HCell htb HM
              clear ht
              go_upto_region 27 with fail
              refine wp_region_drawn (by kernel_rfl) ?_
              generalize wr.drew = U at *
              refine wpAny_take (i := 0) (v := .slice (some ⟨g, 0, none⟩) j cg) rfl (by kernel_rfl) (by kernel_rfl) (by kernel_rfl) (fun _ _ _ h => h) (Or.inl ⟨by rfl, fun w => by go_simp⟩) ?_
              simp only [Act.put, List.getElem_toArray, List.getElem_cons_succ, List.getElem_cons_zero, List.setIfInBounds_toArray, List.set_cons_zero, List.set_cons_succ]
              refine wpAny_take (i := 1) (v := .int .i64 i) rfl (by kernel_rfl) (by kernel_rfl) (by kernel_rfl) (fun _ _ _ h => h) (Or.inl ⟨by rfl, fun w => by go_simp⟩) ?_
              simp only [Act.put, List.getElem_toArray, List.getElem_cons_succ, List.getElem_cons_zero, List.setIfInBounds_toArray, List.set_cons_zero, List.set_cons_succ]
              refine wpAny_take (i := 2) (v := .pointer (some ⟨g, i, none⟩)) rfl (by kernel_rfl) (by kernel_rfl) (by kernel_rfl) (fun _ _ _ h => h) (Or.inl ⟨by rfl, fun w => by go_simp⟩) ?_
              simp only [Act.put, List.getElem_toArray, List.getElem_cons_succ, List.getElem_cons_zero, List.setIfInBounds_toArray, List.set_cons_zero, List.set_cons_succ]
              refine wpAny_take (i := 4) (v := .slice (some ⟨b, off, none⟩) j cap) rfl (by kernel_rfl) (by kernel_rfl) (by kernel_rfl) (fun _ _ _ h => h) (Or.inl ⟨by rfl, fun w => by go_simp⟩) ?_
              simp only [Act.put, List.getElem_toArray, List.getElem_cons_succ, List.getElem_cons_zero, List.setIfInBounds_toArray, List.set_cons_zero, List.set_cons_succ]
              refine wpAny_take (i := 5) (v := .int .i64 i) rfl (by kernel_rfl) (by kernel_rfl) (by kernel_rfl) (fun _ _ _ h => h) (Or.inl ⟨by rfl, fun w => by go_simp⟩) ?_
              simp only [Act.put, List.getElem_toArray, List.getElem_cons_succ, List.getElem_cons_zero, List.setIfInBounds_toArray, List.set_cons_zero, List.set_cons_succ]
              refine wpAny_take (i := 6) (v := .pointer (some ⟨b, off + i, none⟩)) rfl (by kernel_rfl) (by kernel_rfl) (by kernel_rfl) (fun _ _ _ h => h) (Or.inl ⟨by rfl, fun w => by go_simp⟩) ?_
              simp only [Act.put, List.getElem_toArray, List.getElem_cons_succ, List.getElem_cons_zero, List.setIfInBounds_toArray, List.set_cons_zero, List.set_cons_succ]
              refine wpAny_take (i := 8) (v := .int .i64 i) rfl (by kernel_rfl) (by kernel_rfl) (by kernel_rfl) (fun _ _ _ h => h) (Or.inl ⟨by rfl, fun w => by go_simp⟩) ?_
              simp only [Act.put, List.getElem_toArray, List.getElem_cons_succ, List.getElem_cons_zero, List.setIfInBounds_toArray, List.set_cons_zero, List.set_cons_succ]
              refine wpAny_take (i := 9) (v := .int .i64 p1) rfl (by kernel_rfl) (by kernel_rfl) (by kernel_rfl) (fun _ _ _ h => h) (Or.inl ⟨by rfl, fun w => by go_simp⟩) ?_
              simp only [Act.put, List.getElem_toArray, List.getElem_cons_succ, List.getElem_cons_zero, List.setIfInBounds_toArray, List.set_cons_zero, List.set_cons_succ]
              refine any_of_L (g := 11) (T := fun u => Below U.heap.size U u) _ _ _ _ ?_
              refine L_takeC [11] (i := 3) (v := .int .i64 t) rfl (by kernel_rfl) (by kernel_rfl) (by decide) (by kernel_rfl) (by kernel_rfl) (by kernel_rfl) (by kernel_rfl) (fun _ _ _ h => h) (Or.inl ⟨by rfl, fun w' hw' => by have c0 := (HCell.out w' hw').1; clear hw'; go_simp⟩) (Below.refl _ _) ?_
              simp only [Act.put, List.getElem_toArray, List.getElem_cons_succ, List.getElem_cons_zero, List.setIfInBounds_toArray, List.set_cons_zero, List.set_cons_succ]
              refine L_takeC [11, 10] (i := 7) (v := .slice r.adr j r.cap) rfl (by kernel_rfl) (by kernel_rfl) (by decide) (by kernel_rfl) (by kernel_rfl) (by kernel_rfl) (by kernel_rfl) (fun _ _ _ h => h) (Or.inl ⟨by rfl, fun w' hw' => by have c0 := (HCell.out w' hw').2; clear hw'; go_simp⟩) (Below.refl _ _) ?_
              simp only [Act.put, List.getElem_toArray, List.getElem_cons_succ, List.getElem_cons_zero, List.setIfInBounds_toArray, List.set_cons_zero, List.set_cons_succ]
              refine L_takeC [11] (i := 10) (v := .slice ia nl ic) rfl (by kernel_rfl) (by kernel_rfl) (by decide) (by kernel_rfl) (by kernel_rfl) (by kernel_rfl) (by kernel_rfl) (fun _ _ _ h => h) (Or.inl ⟨by rfl, fun w' hw' => by clear hw'; go_simp⟩) (Below.refl _ _) ?_
              simp only [Act.put, List.getElem_toArray, List.getElem_cons_succ, List.getElem_cons_zero, List.setIfInBounds_toArray, List.set_cons_zero, List.set_cons_succ]
              clear HCell e2
              cases hp : beh.any posB
              · have HS : Hid (Calls Tryd.prog 9 #[.int .i64 t, .slice ia nl ic] U fun e w' => e = .returned (.tuple #[.slice none 0 0, .int .i64 (shBad beh)]) ∧ w' = U) := by
                  have := refShares_bad t ia beh ic U HIW.out (by rw [Hdl.out]; have := Hnl.out; omega) (HSb.out.2 hp)
                  rw [Hdl.out] at this
                  exact this
                have hz := HSb.out.2 hp
                have hz' : (shBad beh != 0) = true := by simpa using hz
                have HR2 : Hid (HRow U g cg (stepL rw_ am (i + 1))) := by rw [HNo.out hp]; exact HRd.out
                clear HM HNo HSb HIW HRd hz hp
                generalize shBad beh = z at *
                refine L_go (by kernel_rfl) (by kernel_rfl) ?_
                refine wpOp_step rfl ?_
                intro K hK
                rw [if_pos (by rfl)]
                have hK' : Shut (∀ a w, _ → K a w) := hK
                clear hK
                go_wp2_with fail
                refine HS.out.mono ?_
                rintro e w' ⟨rfl, hw⟩
                rw [hw]; clear hw w' HS
                refine hK'.out _ _ ?_
                clear hK' K
                try simp only [Act.put, List.getElem_toArray, List.getElem_cons_succ, List.getElem_cons_zero, List.setIfInBounds_toArray, List.set_cons_zero, List.set_cons_succ]
                refine wpAny_take (i := 12) (v := .tuple #[.slice none 0 0, .int .i64 z]) rfl (by kernel_rfl) (by kernel_rfl) (by kernel_rfl) (fun _ _ _ h => h) (Or.inl ⟨by rfl, fun w => by go_simp⟩) ?_
                simp only [Act.put, List.getElem_toArray, List.getElem_cons_succ, List.getElem_cons_zero, List.setIfInBounds_toArray, List.set_cons_zero, List.set_cons_succ]
                refine wpAny_take (i := 13) (v := .slice none 0 0) rfl (by kernel_rfl) (by kernel_rfl) (by kernel_rfl) (fun _ _ _ h => h) (Or.inl ⟨by rfl, fun w => by go_simp⟩) ?_
                simp only [Act.put, List.getElem_toArray, List.getElem_cons_succ, List.getElem_cons_zero, List.setIfInBounds_toArray, List.set_cons_zero, List.set_cons_succ]
                refine wpAny_take (i := 14) (v := .int .i64 z) rfl (by kernel_rfl) (by kernel_rfl) (by kernel_rfl) (fun _ _ _ h => h) (Or.inl ⟨by rfl, fun w => by go_simp⟩) ?_
                simp only [Act.put, List.getElem_toArray, List.getElem_cons_succ, List.getElem_cons_zero, List.setIfInBounds_toArray, List.set_cons_zero, List.set_cons_succ]
                refine wpAny_take (i := 15) (v := .slice none 0 0) rfl (by kernel_rfl) (by kernel_rfl) (by kernel_rfl) (fun _ _ _ h => h) (Or.inl ⟨by rfl, fun w => by go_simp⟩) ?_
                simp only [Act.put, List.getElem_toArray, List.getElem_cons_succ, List.getElem_cons_zero, List.setIfInBounds_toArray, List.set_cons_zero, List.set_cons_succ]
                refine wpAny_take (i := 16) (v := .int .i64 z) rfl (by kernel_rfl) (by kernel_rfl) (by kernel_rfl) (fun _ _ _ h => h) (Or.inl ⟨by rfl, fun w => by go_simp⟩) ?_
                simp only [Act.put, List.getElem_toArray, List.getElem_cons_succ, List.getElem_cons_zero, List.setIfInBounds_toArray, List.set_cons_zero, List.set_cons_succ]
                refine wpAny_done (by kernel_rfl) ?_ _
                go_wp2
                go_roundw
                case rel => exact ⟨i + 1, by omega, by rw [Hp1.out], HR2, HBd⟩
                case measure => simp [RowKit.intOf]; have := Hp1.out; omega
              obtain ⟨m1, m2, m3⟩ := HM.out hp
              have HM1 : Hid _ := m1
              have HS : Hid (Calls Tryd.prog 9 #[.int .i64 t, .slice ia nl ic] U fun e w' => ∃ gs c, e = .returned (.tuple #[.slice (some ⟨gs, 0, none⟩) nl c, .int .i64 0]) ∧ Hid (nl ≤ c ∧ gs ≠ g ∧ (∀ k, k < nl → w'.cell? ⟨gs, k, none⟩ = some (.int .i64 (shareI t beh k))) ∧ HRow w' g cg has ∧ Below w.heap.size w w')) := by
                have := refShares_ok t ia beh ic U HIW.out (HSb.out.1 hp) (by omega) (by omega)
                rw [Hdl.out] at this
                refine this.mono ?_
                rintro e w' ⟨gs, c, rfl, hh⟩
                obtain ⟨z1, z2, z3, z4, z5⟩ := hh.out
                exact ⟨gs, c, rfl, z4, by have := HRd.out.lt; omega, z5, HRd.out.below z1, HBd.out.trans (z1.mono HBd.out.size)⟩
              have HM2 : Hid (midL has i beh 0 = has.set i 0) := m2
              have HM3 : Hid (midL has i beh nl = stepL rw_ am (i + 1)) := by rw [← Hdl.out]; exact m3
              rw [Hdl.out] at HM1
              clear HM HNo HSb HIW HRd HBd m1 m2 m3 hp htb
              refine L_go (by kernel_rfl) (by kernel_rfl) ?_
              refine wpOp_step rfl ?_
              intro K hK
              rw [if_pos (by rfl)]
              have hK' : Shut (∀ a w, _ → K a w) := hK
              clear hK
              go_wp2_with fail
              refine HS.out.mono ?_
              rintro e w3 ⟨gs, sc, rfl, hh⟩
              obtain ⟨z1, z2, z3, z4, z5⟩ := hh.out
              have HZ3 : Hid (∀ k, k < nl → w3.cell? ⟨gs, k, none⟩ = some (.int .i64 (shareI t beh k))) := z3
              have HR3 : Hid (HRow w3 g cg has) := z4
              have HB3 : Hid (Below w.heap.size w w3) := z5
              clear HS hh z3 z4 z5
              refine hK'.out _ _ ?_
              clear hK' K
              try simp only [Act.put, List.getElem_toArray, List.getElem_cons_succ, List.getElem_cons_zero, List.setIfInBounds_toArray, List.set_cons_zero, List.set_cons_succ]
              refine wpAny_take (i := 12) (v := .tuple #[.slice (some ⟨gs, 0, none⟩) nl sc, .int .i64 0]) rfl (by kernel_rfl) (by kernel_rfl) (by kernel_rfl) (fun _ _ _ h => h) (Or.inl ⟨by rfl, fun w => by go_simp⟩) ?_
              simp only [Act.put, List.getElem_toArray, List.getElem_cons_succ, List.getElem_cons_zero, List.setIfInBounds_toArray, List.set_cons_zero, List.set_cons_succ]
              refine wpAny_take (i := 13) (v := .slice (some ⟨gs, 0, none⟩) nl sc) rfl (by kernel_rfl) (by kernel_rfl) (by kernel_rfl) (fun _ _ _ h => h) (Or.inl ⟨by rfl, fun w => by go_simp⟩) ?_
              simp only [Act.put, List.getElem_toArray, List.getElem_cons_succ, List.getElem_cons_zero, List.setIfInBounds_toArray, List.set_cons_zero, List.set_cons_succ]
              refine wpAny_take (i := 14) (v := .int .i64 0) rfl (by kernel_rfl) (by kernel_rfl) (by kernel_rfl) (fun _ _ _ h => h) (Or.inl ⟨by rfl, fun w => by go_simp⟩) ?_
              simp only [Act.put, List.getElem_toArray, List.getElem_cons_succ, List.getElem_cons_zero, List.setIfInBounds_toArray, List.set_cons_zero, List.set_cons_succ]
              refine wpAny_take (i := 15) (v := .slice (some ⟨gs, 0, none⟩) nl sc) rfl (by kernel_rfl) (by kernel_rfl) (by kernel_rfl) (fun _ _ _ h => h) (Or.inl ⟨by rfl, fun w => by go_simp⟩) ?_
              simp only [Act.put, List.getElem_toArray, List.getElem_cons_succ, List.getElem_cons_zero, List.setIfInBounds_toArray, List.set_cons_zero, List.set_cons_succ]
              refine wpAny_take (i := 16) (v := .int .i64 0) rfl (by kernel_rfl) (by kernel_rfl) (by kernel_rfl) (fun _ _ _ h => h) (Or.inl ⟨by rfl, fun w => by go_simp⟩) ?_
              simp only [Act.put, List.getElem_toArray, List.getElem_cons_succ, List.getElem_cons_zero, List.setIfInBounds_toArray, List.set_cons_zero, List.set_cons_succ]
              refine wpAny_done (by kernel_rfl) ?_ _
              have c1 := HR3.out.cell (i := i) (by rw [Hk1.out]; exact hij)
              have f1 := HR3.out.frozen i
              generalize has.getD i 0 = zz at c1
              have HR4 : Hid (HRow (w3.setCell ⟨g, i, none⟩ (.int .i64 0)) g cg (midL has i beh 0) ∧ (w3.setCell ⟨g, i, none⟩ (.int .i64 0)).heap[gs]? = w3.heap[gs]? ∧ Below w.heap.size w (w3.setCell ⟨g, i, none⟩ (.int .i64 0))) := by
                rw [HM2.out]
                exact ⟨HR3.out.set i 0, Below.heap_setCell _ _ _ _ z2, HB3.out.setCell (p := ⟨g, i, none⟩) Hgw.out _⟩
              obtain ⟨w4, hw4⟩ : ∃ w4, w3.setCell ⟨g, i, none⟩ (.int .i64 0) = w4 := ⟨_, rfl⟩
              rw [hw4] at HR4
              have HW4 : Hid (w3.setCell ⟨g, i, none⟩ (.int .i64 0) = w4) := hw4
              have hnl20 : (nl : Int) ≤ 20 := by have := Hnl.out; omega
              clear hw4 HM2 HR3 HB3
              obtain ⟨wo, hwo⟩ : ∃ wo, wo = wr := ⟨_, rfl⟩
              subst hwo
              go_upto_region 30 with fail
              rw [HW4.out]
              clear HW4 c1 f1
              go_wp2
              go_loopw [15] (fun ix wr => ∃ k : Nat, k ≤ nl ∧ ix = .int .i64 k ∧ Hid (HRow wr g cg (midL has i beh k) ∧ wr.heap[gs]? = w3.heap[gs]? ∧ Below w.heap.size w wr)) (fun ix _ => nl - (RowKit.intOf ix).toNat)
              case atStart => exact ⟨0, Nat.zero_le _, rfl, HR4⟩
              case round =>
                obtain ⟨k, hk, rfl, H⟩ := hrel
                by_cases hkm : k < nl
                · have hdr : Below wr.heap.size wr wr.drew := (Below.refl _ wr).drew
                  obtain ⟨r1, r2, r3⟩ := H.out
                  obtain ⟨m1, m2, m3, ⟨b1, b2⟩, b3, b4⟩ := HM1.out k hkm
                  rw [show i + 1 + k = p1 + k by rw [Hp1.out]] at m1 m2
                  obtain ⟨p2, hp2⟩ : ∃ p2, p1 + k = p2 := ⟨_, rfl⟩
                  rw [hp2] at m1 m2
                  have hlt2 : p2 < j := by have := Hnl.out; omega
                  have hgl2 := r1.lt
                  have cs : wr.cell? ⟨gs, k, none⟩ = some (.int .i64 (shareI t beh k)) := (World.cell?_of_block (w := w3) (a := ⟨gs, k, none⟩) r2).trans (HZ3.out k hkm)
                  have ch := r1.cell (i := p2) (by rw [m3]; exact hlt2)
                  rw [m1] at ch
                  have hgs := World.block_lt_of_cell? _ _ cs
                  have hset := (r1.below hdr).set p2 ((has.drop (i + 1)).getD k 0 + shareI t beh k)
                  rw [m2] at hset
                  have HN : Hid (HRow (wr.drew.setCell ⟨g, p2, none⟩ (.int .i64 ((has.drop (i + 1)).getD k 0 + shareI t beh k))) g cg (midL has i beh (k + 1)) ∧ (wr.drew.setCell ⟨g, p2, none⟩ (.int .i64 ((has.drop (i + 1)).getD k 0 + shareI t beh k))).heap[gs]? = w3.heap[gs]? ∧ Below w.heap.size w (wr.drew.setCell ⟨g, p2, none⟩ (.int .i64 ((has.drop (i + 1)).getD k 0 + shareI t beh k)))) := ⟨hset, (Below.heap_setCell _ _ _ _ z2).trans r2, r3.drew.setCell (p := ⟨g, p2, none⟩) Hgw.out _⟩
                  have HCell : Hid (∀ u, Below wr.drew.heap.size wr.drew u → u.cell? ⟨g, p2, none⟩ = some (.int .i64 ((has.drop (i + 1)).getD k 0)) ∧ u.cell? ⟨gs, k, none⟩ = some (.int .i64 (shareI t beh k))) := fun u hu => ⟨(hu.cell (p := ⟨g, p2, none⟩) hgl2).trans ch, (hu.cell (p := ⟨gs, k, none⟩) hgs).trans cs⟩
                  have fh : wr.drew.frozen? ⟨g, p2, none⟩ = false := (r1.below hdr).frozen p2
                  have cW := (HCell.out wr.drew (Below.refl _ _)).1
                  have iw2 : IntKind.i64.wrap ((p1 : Int) + k) = (p2 : Int) := by
                    simp only [IntKind.wrap, IntKind.bits, IntKind.signed]
                    simp
                    omega
                  have j0 : (0 : Int) ≤ k := by omega
                  have j1 : (k : Int) < nl := by omega
                  have j3 : (0 : Int) ≤ p2 := by omega
                  have j4 : (p2 : Int) < j := by omega
                  clear H r1 r2 r3 m1 m2 m3 hset cs ch hp2 hgl2 hgs hdr
                  generalize (has.drop (i + 1)).getD k 0 = x at *
                  generalize shareI t beh k = y at *
                  have ws : IntKind.i64.wrap (x + y) = x + y := by
                    simp only [IntKind.wrap, IntKind.bits, IntKind.signed]
                    simp
                    omega
                  clear b1 b2 b3 b4
                  go_upto_region 33 with fail
                  refine wp_region_drawn (by kernel_rfl) ?_
                  generalize wr.drew = U2 at *
                  refine wpAny_take (i := 0) (v := .slice (some ⟨g, 0, none⟩) j cg) rfl (by kernel_rfl) (by kernel_rfl) (by kernel_rfl) (fun _ _ _ h => h) (Or.inl ⟨by rfl, fun w => by go_simp⟩) ?_
                  simp only [Act.put, List.getElem_toArray, List.getElem_cons_succ, List.getElem_cons_zero, List.setIfInBounds_toArray, List.set_cons_zero, List.set_cons_succ]
                  refine wpAny_take (i := 1) (v := .int .i64 i) rfl (by kernel_rfl) (by kernel_rfl) (by kernel_rfl) (fun _ _ _ h => h) (Or.inl ⟨by rfl, fun w => by go_simp⟩) ?_
                  simp only [Act.put, List.getElem_toArray, List.getElem_cons_succ, List.getElem_cons_zero, List.setIfInBounds_toArray, List.set_cons_zero, List.set_cons_succ]
                  refine wpAny_take (i := 2) (v := .int .i64 p1) rfl (by kernel_rfl) (by kernel_rfl) (by kernel_rfl) (fun _ _ _ h => h) (Or.inl ⟨by rfl, fun w => by go_simp⟩) ?_
                  simp only [Act.put, List.getElem_toArray, List.getElem_cons_succ, List.getElem_cons_zero, List.setIfInBounds_toArray, List.set_cons_zero, List.set_cons_succ]
                  refine wpAny_take (i := 3) (v := .int .i64 k) rfl (by kernel_rfl) (by kernel_rfl) (by kernel_rfl) (fun _ _ _ h => h) (Or.inl ⟨by rfl, fun w => by go_simp⟩) ?_
                  simp only [Act.put, List.getElem_toArray, List.getElem_cons_succ, List.getElem_cons_zero, List.setIfInBounds_toArray, List.set_cons_zero, List.set_cons_succ]
                  refine wpAny_take (i := 4) (v := .int .i64 p2) rfl (by kernel_rfl) (by kernel_rfl) (by kernel_rfl) (fun _ _ _ h => h) (Or.inl ⟨by rfl, fun w => by go_simp⟩) ?_
                  simp only [Act.put, List.getElem_toArray, List.getElem_cons_succ, List.getElem_cons_zero, List.setIfInBounds_toArray, List.set_cons_zero, List.set_cons_succ]
                  refine wpAny_take (i := 5) (v := .slice (some ⟨g, 0, none⟩) j cg) rfl (by kernel_rfl) (by kernel_rfl) (by kernel_rfl) (fun _ _ _ h => h) (Or.inl ⟨by rfl, fun w => by go_simp⟩) ?_
                  simp only [Act.put, List.getElem_toArray, List.getElem_cons_succ, List.getElem_cons_zero, List.setIfInBounds_toArray, List.set_cons_zero, List.set_cons_succ]
                  refine wpAny_take (i := 6) (v := .int .i64 i) rfl (by kernel_rfl) (by kernel_rfl) (by kernel_rfl) (fun _ _ _ h => h) (Or.inl ⟨by rfl, fun w => by go_simp⟩) ?_
                  simp only [Act.put, List.getElem_toArray, List.getElem_cons_succ, List.getElem_cons_zero, List.setIfInBounds_toArray, List.set_cons_zero, List.set_cons_succ]
                  refine wpAny_take (i := 7) (v := .int .i64 p1) rfl (by kernel_rfl) (by kernel_rfl) (by kernel_rfl) (fun _ _ _ h => h) (Or.inl ⟨by rfl, fun w => by go_simp⟩) ?_
                  simp only [Act.put, List.getElem_toArray, List.getElem_cons_succ, List.getElem_cons_zero, List.setIfInBounds_toArray, List.set_cons_zero, List.set_cons_succ]
                  refine wpAny_take (i := 8) (v := .int .i64 k) rfl (by kernel_rfl) (by kernel_rfl) (by kernel_rfl) (fun _ _ _ h => h) (Or.inl ⟨by rfl, fun w => by go_simp⟩) ?_
                  simp only [Act.put, List.getElem_toArray, List.getElem_cons_succ, List.getElem_cons_zero, List.setIfInBounds_toArray, List.set_cons_zero, List.set_cons_succ]
                  refine wpAny_take (i := 9) (v := .int .i64 p2) rfl (by kernel_rfl) (by kernel_rfl) (by kernel_rfl) (fun _ _ _ h => h) (Or.inl ⟨by rfl, fun w => by go_simp⟩) ?_
                  simp only [Act.put, List.getElem_toArray, List.getElem_cons_succ, List.getElem_cons_zero, List.setIfInBounds_toArray, List.set_cons_zero, List.set_cons_succ]
                  refine wpAny_take (i := 10) (v := .pointer (some ⟨g, p2, none⟩)) rfl (by kernel_rfl) (by kernel_rfl) (by kernel_rfl) (fun _ _ _ h => h) (Or.inl ⟨by rfl, fun w => by go_simp⟩) ?_
                  simp only [Act.put, List.getElem_toArray, List.getElem_cons_succ, List.getElem_cons_zero, List.setIfInBounds_toArray, List.set_cons_zero, List.set_cons_succ]
                  refine wpAny_take (i := 12) (v := .slice (some ⟨gs, 0, none⟩) nl sc) rfl (by kernel_rfl) (by kernel_rfl) (by kernel_rfl) (fun _ _ _ h => h) (Or.inl ⟨by rfl, fun w => by go_simp⟩) ?_
                  simp only [Act.put, List.getElem_toArray, List.getElem_cons_succ, List.getElem_cons_zero, List.setIfInBounds_toArray, List.set_cons_zero, List.set_cons_succ]
                  refine wpAny_take (i := 13) (v := .int .i64 k) rfl (by kernel_rfl) (by kernel_rfl) (by kernel_rfl) (fun _ _ _ h => h) (Or.inl ⟨by rfl, fun w => by go_simp⟩) ?_
                  simp only [Act.put, List.getElem_toArray, List.getElem_cons_succ, List.getElem_cons_zero, List.setIfInBounds_toArray, List.set_cons_zero, List.set_cons_succ]
                  refine wpAny_take (i := 14) (v := .pointer (some ⟨gs, k, none⟩)) rfl (by kernel_rfl) (by kernel_rfl) (by kernel_rfl) (fun _ _ _ h => h) (Or.inl ⟨by rfl, fun w => by go_simp⟩) ?_
                  simp only [Act.put, List.getElem_toArray, List.getElem_cons_succ, List.getElem_cons_zero, List.setIfInBounds_toArray, List.set_cons_zero, List.set_cons_succ]
                  refine any_of_L (g := 18) (T := fun u => Below U2.heap.size U2 u) _ _ _ _ ?_
                  refine L_takeC [18, 16] (i := 11) (v := .int .i64 x) rfl (by kernel_rfl) (by kernel_rfl) (by decide) (by kernel_rfl) (by kernel_rfl) (by kernel_rfl) (by kernel_rfl) (fun _ _ _ h => h) (Or.inl ⟨by rfl, fun w' hw' => by have c0 := (HCell.out w' hw').1; clear hw'; go_simp⟩) (Below.refl _ _) ?_
                  simp only [Act.put, List.getElem_toArray, List.getElem_cons_succ, List.getElem_cons_zero, List.setIfInBounds_toArray, List.set_cons_zero, List.set_cons_succ]
                  refine L_takeC [18, 16] (i := 15) (v := .int .i64 y) rfl (by kernel_rfl) (by kernel_rfl) (by decide) (by kernel_rfl) (by kernel_rfl) (by kernel_rfl) (by kernel_rfl) (fun _ _ _ h => h) (Or.inl ⟨by rfl, fun w' hw' => by have c0 := (HCell.out w' hw').2; clear hw'; go_simp⟩) (Below.refl _ _) ?_
                  simp only [Act.put, List.getElem_toArray, List.getElem_cons_succ, List.getElem_cons_zero, List.setIfInBounds_toArray, List.set_cons_zero, List.set_cons_succ]
                  refine L_takeC [18] (i := 16) (v := .int .i64 (x + y)) rfl (by kernel_rfl) (by kernel_rfl) (by decide) (by kernel_rfl) (by kernel_rfl) (by kernel_rfl) (by kernel_rfl) (fun _ _ _ h => h) (Or.inl ⟨by rfl, fun w' hw' => by clear hw'; go_simp⟩) (Below.refl _ _) ?_
                  simp only [Act.put, List.getElem_toArray, List.getElem_cons_succ, List.getElem_cons_zero, List.setIfInBounds_toArray, List.set_cons_zero, List.set_cons_succ]
                  refine L_takeC [18] (i := 17) (v := .pointer (some ⟨g, p2, none⟩)) rfl (by kernel_rfl) (by kernel_rfl) (by decide) (by kernel_rfl) (by kernel_rfl) (by kernel_rfl) (by kernel_rfl) (fun _ _ _ h => h) (Or.inl ⟨by rfl, fun w' hw' => by clear hw'; go_simp⟩) (Below.refl _ _) ?_
                  simp only [Act.put, List.getElem_toArray, List.getElem_cons_succ, List.getElem_cons_zero, List.setIfInBounds_toArray, List.set_cons_zero, List.set_cons_succ]
                  clear HCell
                  refine L_go (by kernel_rfl) (by kernel_rfl) ?_
                  refine wpOp_step rfl ?_
                  intro K hK
                  rw [if_pos (by rfl)]
                  have hK' : Shut (∀ a w, _ → K a w) := hK
                  clear hK
                  go_wp2_with fail
                  refine hK'.out _ _ ?_
                  clear hK' K
                  refine wpAny_done (by kernel_rfl) ?_ _
                  go_wp2
                  go_roundw
                  case rel => exact ⟨k + 1, by omega, by go_num, HN⟩
                  case measure => simp [RowKit.intOf]; omega
                · obtain rfl : k = nl := by omega
                  obtain ⟨r1, r2, r3⟩ := H.out
                  rw [HM3.out] at r1
                  have HR5 : Hid (HRow wr g cg (stepL rw_ am (i + 1))) := r1
                  have HB5 : Hid (Below w.heap.size w wr) := r3
                  have j1 : ¬ (k : Int) < k := by omega
                  clear H r1 r2 r3 HM1 HM3 HZ3
                  go_wp2
                  go_roundw
                  case rel => exact ⟨i + 1, by omega, by rw [Hp1.out], HR5, HB5⟩
                  case measure => simp [RowKit.intOf]; have := Hp1.out; omega
            · obtain rfl : i = j := by omega
              have HE : Hid (RsEnd l am w (.returned (.tuple #[.slice (some ⟨g, 0, none⟩) i cg, .int .i64 0])) wr) := HOk.out _ wr HZ.out HB.out ⟨some ⟨g, 0, none⟩, cg, by rw [(HK.out i (Nat.le_refl _)).1], by
                have := R.out.isW
                rw [← Hn.out] at this ⊢
                exact this⟩
              clear HOk HK HG HL HA R
              go_wp2
              go_ret2
              exact HE.out
end Go.Proofs.YtchpobnfejfegaaDoor

namespace Go.Proofs.YtchpobnfejfegaaDoor
set_option linter.unusedVariables false
set_option linter.unusedSimpArgs false
set_option maxRecDepth 100000
open Go.RowKit Go.Lib Big

/-- What both leave: the amounts behind all steps, or none. -/
def spL (l : List Wr) (am : List Int) : List Int := if spBad l am = 0 then stepL (fun k => (l.getD k wr0).xs) am am.length else []
theorem foundTo_one {f : Nat → Int} (hf : ∀ k, f k = 0 ∨ f k = 1) : ∀ n, foundTo f n = 0 ∨ foundTo f n = 1
  | 0 => .inl rfl
  | n + 1 => by
    unfold foundTo
    split
    · exact foundTo_one hf n
    · exact hf n
theorem spBad_range (l : List Wr) (am : List Int) : 0 ≤ spBad l am ∧ spBad l am ≤ 4 := by
  unfold spBad
  split
  · omega
  · split
    · omega
    · have := foundTo_one (f := rowBad l am) (fun k => by unfold rowBad; split; exact .inr rfl; exact .inl rfl) am.length
      omega
theorem spBad_is (l : List Wr) (am : List Int) : ErrIs (spE (spBad l am)) (spBad l am) := by
  have hr := spBad_range l am
  unfold ErrIs spE
  by_cases hb : spBad l am = 0
  · left; rw [if_pos hb]; exact ⟨rfl, hb⟩
  · right
    rw [if_neg hb]
    refine ⟨rfl, ?_⟩
    omega
theorem progSteps_any (a a2 : Option Addr) (l : List Wr) (am : List Int) (cap cap2 : Nat) (w : World) (h : IsWs w a l cap) (h2 : IsW w a2 am cap2) (hl : l.length ≤ 9223372036854775807) (hl2 : am.length ≤ 9223372036854775807) :
    Calls Tryd.prog 5 #[.slice a l.length cap, .slice a2 am.length cap2] w fun e w' => ∃ v, e = .returned (.tuple #[v, spE (spBad l am)]) ∧ Hid (Below w.heap.size w w' ∧ HasW w' v (spL l am)) := by
  refine (steps_any a a2 l am cap cap2 w h h2 hl hl2).mono ?_
  rintro e w' ⟨z1, z2, z3⟩
  by_cases hb : spBad l am = 0
  · obtain ⟨a', c', rfl, hi⟩ := z3 hb
    obtain ⟨p1, p2, _⟩ := spBad_ok hb
    have hlen := (step_keeps p2 am.length (Nat.le_refl _)).1
    refine ⟨_, by rw [hb, spE_zero], z1, a', c', ?_, ?_⟩
    · unfold spL; rw [if_pos hb, hlen]
    · unfold spL; rw [if_pos hb]; exact hi
  · refine ⟨.slice none 0 0, z2 hb, z1, none, 0, ?_, ?_⟩
    · unfold spL; rw [if_neg hb]; rfl
    · unfold spL; rw [if_neg hb]; exact isW_nil _
set_option maxHeartbeats 2000000 in
theorem allotSteps_walk (a a2 : Option Addr) (l : List Wr) (am : List Int) (cap cap2 : Nat) (w : World) (h : IsWs w a l cap) (h2 : IsW w a2 am cap2) (hl : l.length ≤ 9223372036854775807) (hl2 : am.length ≤ 9223372036854775807) (hg : ErrT w) :
    Calls Tryd.prog 3 #[.slice a l.length cap, .slice a2 am.length cap2] w fun e w' => e = .returned (.bool true) ∧ Below w.heap.size w w' := by
  have HR : Hid (Calls Tryd.prog 4 #[.slice a l.length cap, .slice a2 am.length cap2] w fun e w' => ∃ v, e = .returned (.tuple #[v, .int .i64 (spBad l am)]) ∧ Hid (Below w.heap.size w w' ∧ HasW w' v (spL l am))) := by
    refine (refSteps_any a a2 l am cap cap2 w h h2 hl hl2).mono ?_
    rintro e w' ⟨v, rfl, z1, z2⟩
    exact ⟨v, rfl, z1, z2⟩
  have HM : Hid (∀ W, Below w.heap.size w W → Calls Tryd.prog 5 #[.slice a l.length cap, .slice a2 am.length cap2] W fun e w' => ∃ v, e = .returned (.tuple #[v, spE (spBad l am)]) ∧ Hid (Below W.heap.size W w' ∧ HasW w' v (spL l am))) := fun W hW => progSteps_any a a2 l am cap cap2 W (h.below hW) (h2.below hW) hl hl2
  have HE : Hid (∀ W, Below w.heap.size w W → Calls Tryd.prog 6 #[spE (spBad l am), .int .i64 (spBad l am)] W fun e w' => e = .returned (.bool true) ∧ Below W.heap.size W w') := fun W hW => err_true (spBad_is l am) W (hg.below hW (Nat.le_refl _))
  have Hlen : Hid ((spL l am).length ≤ 1000) := by
    unfold Hid spL
    by_cases hb : spBad l am = 0
    · rw [if_pos hb]
      obtain ⟨p1, p2, _⟩ := spBad_ok hb
      have h1 := (step_keeps p2 am.length (Nat.le_refl _)).1
      have h2 := p2.1
      omega
    · rw [if_neg hb]; simp
  have HK : Hid (∀ {W W' : World} {v : Value}, HasW W v (spL l am) → Below W.heap.size W W' → HasW W' v (spL l am)) := fun {W W' v} hv hb => by
    obtain ⟨a, c, e, hi⟩ := hv
    exact ⟨a, c, e, hi.below hb⟩
  clear h h2 hl hl2 hg
  generalize spE (spBad l am) = E at *
  generalize spBad l am = er at *
  generalize spL l am = xs at *
  go_enter Tryd.func3, Tryd.ntmps3
  go_wp2_with fail
  refine HR.out.mono ?_
  rintro e w1 ⟨v1, rfl, h1⟩
  clear HR
  go_wp2_with fail
  refine (HM.out w1 h1.out.1).mono ?_
  rintro e w2 ⟨v2, rfl, h2⟩
  have H2 : Hid (Below w.heap.size w w2 ∧ HasW w2 v1 xs ∧ HasW w2 v2 xs) := ⟨h1.out.1.trans (h2.out.1.mono h1.out.1.size), HK.out h1.out.2 h2.out.1, h2.out.2⟩
  clear h1 h2 HM
  go_wp2_with fail
  refine (HE.out w2 H2.out.1).mono ?_
  rintro e w3 ⟨rfl, h3⟩
  have H3 : Hid (Below w.heap.size w w3 ∧ HasW w3 v1 xs ∧ HasW w3 v2 xs) := ⟨H2.out.1.trans (h3.mono H2.out.1.size), HK.out H2.out.2.1 h3, HK.out H2.out.2.2 h3⟩
  clear h3 H2 HE
  go_wp2_with fail
  refine (sameInts_any v2 v1 xs w3 Hlen.out H3.out.2.2.ints H3.out.2.1.ints).mono ?_
  rintro e w4 ⟨rfl, h4⟩
  have H4 : Hid (Below w.heap.size w w4) := H3.out.1.trans (h4.mono H3.out.1.size)
  clear h4 H3 HK
  go_wp2
  go_ret
  exact ⟨rfl, H4.out⟩
end Go.Proofs.YtchpobnfejfegaaDoor

namespace Go.Proofs.YtchpobnfejfegaaDoor
set_option linter.unusedVariables false
set_option linter.unusedSimpArgs false
set_option maxRecDepth 100000
open Go.RowKit Go.Lib

/-- The place of a text among others, counted from a number on; else -1. -/
def txtFrom (c : ByteArray) : Nat → List ByteArray → Int
  | _, [] => -1
  | k, x :: l => if x = c then (k : Int) else txtFrom c (k + 1) l
def memB (c : ByteArray) (l : List ByteArray) : Bool := l.any fun x => decide (x = c)

theorem txtFrom_mem (c : ByteArray) : ∀ (l : List ByteArray) (k : Nat), decide (0 ≤ txtFrom c k l) = memB c l
  | [], k => by simp [txtFrom, memB]
  | x :: l, k => by
    have ih := txtFrom_mem c l (k + 1)
    by_cases h : x = c
    · rw [txtFrom, if_pos h]; simp [memB, h]
    · rw [txtFrom, if_neg h, ih]; simp [memB, h]

theorem txt_drop (l : List ByteArray) (k : Nat) (h : k < l.length) : l.drop k = l.getD k ByteArray.empty :: l.drop (k + 1) := by
  rw [List.drop_eq_getElem_cons h, List.getD_eq_getElem?_getD, List.getElem?_eq_getElem h]
  rfl

/-- Texts in a row of the call's own. -/
def TxtRow (w : World) (n : Nat) (v : Value) (fs : List ByteArray) : Prop := w.ownsRow n 9 1 v fs.length (fs.map Value.string)

theorem TxtRow.form {w : World} {n : Nat} {v : Value} {fs : List ByteArray} (h : TxtRow w n v fs) : (v = .slice none 0 0 ∧ fs = []) ∨ ∃ g cap, v = .slice (some ⟨g, 0, none⟩) fs.length cap ∧ n ≤ g ∧ g < w.heap.size ∧ fs.length ≤ cap ∧ ∀ k, k < fs.length → w.cell? ⟨g, k, none⟩ = some (.string (fs.getD k ByteArray.empty)) := by
  rcases h.2 with ⟨rfl, hn⟩ | ⟨g, cap, cur, rfl, hg, hh, hc, _⟩
  · exact .inl ⟨rfl, List.eq_nil_of_length_eq_zero hn⟩
  · refine .inr ⟨g, cap, rfl, hg, (Array.getElem?_eq_some_iff.1 hh).1, hc, fun k hk => ?_⟩
    have := World.ownsRow.cells h (g := g) rfl k (.string (fs.getD k ByteArray.empty)) (by simp [hk])
    rcases Nat.eq_zero_or_pos k with rfl | hp
    · simpa [Addr.add] using this
    · simpa [Addr.add, Nat.ne_of_gt hp] using this

/-- The places of those that are under a code, from one on. -/
def undGo (code : ByteArray) : List ByteArray → List Nat → Nat → List Ac → List Nat
  | _, pre, _, [] => pre
  | fs, pre, k, x :: r => if x.code = code ∨ memB x.par fs = true then undGo code (fs ++ [x.code]) (pre ++ [k]) (k + 1) r else undGo code fs pre (k + 1) r
def und (l : List Ac) (code : ByteArray) : List Nat := undGo code [] [] 0 l

/-- What is asked of a function that is told places, one by one. 'J gc pre W': in W, with a row of its own in block gc, these places have come. -/
structure Does (g : Nat) (lb : Value × Value) (n0 : Nat) (a : Option Addr) (l : List Ac) (cap : Nat) (J : Option Nat → List Nat → World → Prop) : Prop where
  eg : ∀ args W, (callFunc g args).run Tryd.prog W = .ok (.enter g args) W
  call : ∀ gc pre i W, J gc pre W → i < l.length → pre.length ≤ i → n0 ≤ W.heap.size → Calls Tryd.prog g #[.int .i64 (i : Nat), lb.1, lb.2] W fun e w' => e = .returned (.tuple #[]) ∧ ∃ gc', J gc' (pre ++ [i]) w' ∧ (gc' = gc ∨ ∃ h, gc' = some h ∧ W.heap.size ≤ h) ∧ W.heap.size ≤ w'.heap.size ∧ ∀ b, b < W.heap.size → n0 ≤ b → some b ≠ gc → w'.heap[b]? = W.heap[b]?
  keep : ∀ gc pre W W' row, J gc pre W → W.grownBy W' row → n0 ≤ W.heap.size → (∀ b, row = some b → n0 ≤ b ∧ gc ≠ some b) → J gc pre W'
  reads : ∀ gc pre W, J gc pre W → IsSl W a l cap
  lt : ∀ gc pre W, J gc pre W → ∀ b, gc = some b → b < W.heap.size

theorem str_info : (Tryd.prog.info? 9).map (fun i => (i.zero, i.size, i.bytes)) = some (some (.string ByteArray.empty), 1, 16) := by kernel_rfl

/-- What holds between two rounds. -/
structure UndAt (n0 : Nat) (J : Option Nat → List Nat → World → Prop) (gc : Option Nat) (pre : List Nat) (fs : List ByteArray) (v : Value) (W : World) : Prop where
  row : TxtRow W n0 v fs
  has : J gc pre W
  size : n0 ≤ W.heap.size
  apart : ∀ b, v.ownBlock = some b → gc ≠ some b

theorem heap_alloc_lt (W : World) (o : Obj) (b : Nat) (h : b < W.heap.size) : (W.alloc o).heap[b]? = W.heap[b]? := (World.grownBy_alloc W o none).block b h (by simp)

theorem UndAt.alloc {g : Nat} {lb : Value × Value} {n0 : Nat} {a : Option Addr} {l : List Ac} {cap : Nat} {J : Option Nat → List Nat → World → Prop} (D : Does g lb n0 a l cap J) {gc : Option Nat} {pre : List Nat} {fs : List ByteArray} {v : Value} {W : World} (h : UndAt n0 J gc pre fs v W) (o : Obj) : UndAt n0 J gc pre fs v (W.alloc o) :=
  ⟨World.ownsRow.alloc h.row o, D.keep gc pre W _ none h.has (World.grownBy_alloc W o none) h.size (fun b hb => by cases hb), by have := h.size; simp; omega, h.apart⟩

theorem UndAt.grown {g : Nat} {lb : Value × Value} {n0 : Nat} {a : Option Addr} {l : List Ac} {cap : Nat} {J : Option Nat → List Nat → World → Prop} (D : Does g lb n0 a l cap J) {gc : Option Nat} {pre : List Nat} {fs fs' : List ByteArray} {v : Value} {W w1 : World} (h : UndAt n0 J gc pre fs v W) {g' c' : Nat} (hown : TxtRow w1 n0 (.slice (some ⟨g', 0, none⟩) fs'.length c') fs') (hg : W.grownBy w1 v.ownBlock) (hat : v.ownBlock = some g' ∨ g' = W.heap.size) : UndAt n0 J gc pre fs' (.slice (some ⟨g', 0, none⟩) fs'.length c') w1 := by
  have hv : ∀ b, v.ownBlock = some b → n0 ≤ b := fun b hb => by
    rcases h.row.form with ⟨rfl, _⟩ | ⟨g, cp, rfl, hn, _⟩
    · cases hb
    · cases hb; exact hn
  refine ⟨hown, D.keep gc pre W w1 v.ownBlock h.has hg h.size (fun b hb => ⟨hv b hb, h.apart b hb⟩), by have := h.size; have := hg.size; omega, ?_⟩
  · intro b hb
    cases hb
    rcases hat with e | e
    · exact h.apart g' e
    · intro h2
      have := D.lt gc pre W h.has g' h2
      omega

/-- Behind a call of the function. -/
theorem UndAt.called {g : Nat} {lb : Value × Value} {n0 : Nat} {a : Option Addr} {l : List Ac} {cap : Nat} {J : Option Nat → List Nat → World → Prop} (D : Does g lb n0 a l cap J) {gc : Option Nat} {pre : List Nat} {fs : List ByteArray} {v : Value} {W : World} (h : UndAt n0 J gc pre fs v W) (i : Nat) (hi : i < l.length) (hp : pre.length ≤ i) :
    Calls Tryd.prog g #[.int .i64 (i : Nat), lb.1, lb.2] W fun e w' => e = .returned (.tuple #[]) ∧ ∃ gc', UndAt n0 J gc' (pre ++ [i]) fs v w' := by
  refine (D.call gc pre i W h.has hi hp h.size).mono ?_
  rintro e w' ⟨rfl, gc', hJ, hor, hs, hk⟩
  refine ⟨rfl, gc', ?_, hJ, Nat.le_trans h.size hs, ?_⟩
  · rcases h.row.2 with ⟨hv, hn⟩ | ⟨g1, c1, cur, hv, hb, hh, r1, r2, r3, r4⟩
    · exact ⟨h.row.1, .inl ⟨hv, hn⟩⟩
    · have hlt := (Array.getElem?_eq_some_iff.1 hh).1
      exact ⟨h.row.1, .inr ⟨g1, c1, cur, hv, hb, (hk g1 hlt hb (fun e => h.apart g1 (by rw [hv]; rfl) e.symm)).trans hh, r1, r2, r3, r4⟩⟩
  · intro b hb
    rcases hor with rfl | ⟨h1, rfl, h2⟩
    · exact h.apart b hb
    · intro e
      cases e
      rcases h.row.form with ⟨hv, _⟩ | ⟨g1, c1, hv, _, hlt, _⟩
      · rw [hv] at hb; cases hb
      · rw [hv] at hb; cases hb; simp only at h2; omega
end Go.Proofs.YtchpobnfejfegaaDoor
