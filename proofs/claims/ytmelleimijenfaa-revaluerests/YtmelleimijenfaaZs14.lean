/-
  Merging is adding: numbers alone, and Merge's contract in two halves.
-/
import Derived.Test.YtmelleimijenfaaZs13
import Derived.Test.YtmelleimijenfaaZs11
namespace Go.Proofs.Ytmelleimijenfaa
set_option linter.unusedVariables false
set_option linter.unusedSimpArgs false
set_option maxRecDepth 100000
open Go.RowKit Go.Lib Math
/-- What is wrong with all the sums. -/
def tgE (ps : List Pt) : Int := if 200 < ps.length then 4 else if ps.all (fun p => decide (-9223372036854775808 ≤ p.zs.sum ∧ p.zs.sum ≤ 9223372036854775807)) = true then 0 else 10
def balAt (ps : List Pt) (i : Nat) : Bl := (ps.map Pt.bal).getD i bl0
theorem balAt_get (ps : List Pt) (i : Nat) (h : i < ps.length) : balAt ps i = (ps[i]).bal := by
  unfold balAt
  rw [List.getD_eq_getElem?_getD, List.getElem?_map, List.getElem?_eq_getElem h]
  rfl
theorem balAt_all (ps : List Pt) : (List.range ps.length).map (balAt ps) = ps.map Pt.bal := by
  apply List.ext_getElem?
  intro i
  by_cases h : i < ps.length
  · rw [List.getElem?_map, List.getElem?_range h, Option.map_some, balAt_get ps i h, List.getElem?_map, List.getElem?_eq_getElem h]
    rfl
  · rw [List.getElem?_eq_none (by simp; omega), List.getElem?_eq_none (by simp; omega)]
theorem seen_perm {n : Nat} {sn : List Nat} (h1 : sn.Nodup) (h2 : ∀ i ∈ sn, i < n) (h3 : ∀ i, i < n → i ∈ sn) : sn.Perm (List.range n) :=
  (List.perm_ext_iff_of_nodup h1 List.nodup_range).2 (fun i => ⟨fun h => List.mem_range.2 (h2 i h), fun h => h3 i (List.mem_range.1 h)⟩)
theorem seen_le {n : Nat} {sn : List Nat} (h1 : sn.Nodup) (h2 : ∀ i ∈ sn, i < n) : sn.length ≤ n := by
  have key : ∀ (l m : List Nat), l.Nodup → (∀ k ∈ l, k ∈ m) → l.length ≤ m.length := by
    intro l
    induction l with
    | nil => intro m _ _; exact Nat.zero_le _
    | cons k l ih =>
      intro m h hs
      obtain ⟨g1, g2⟩ := List.nodup_cons.1 h
      obtain ⟨s, t, rfl⟩ := List.append_of_mem (hs k (List.mem_cons_self ..))
      have := ih (s ++ t) g2 (fun q hq => by
        have h3 := hs q (List.mem_cons_of_mem _ hq)
        simp only [List.mem_append, List.mem_cons] at h3 ⊢
        rcases h3 with h3 | h3 | h3
        · exact .inl h3
        · exact absurd (h3 ▸ hq) g1
        · exact .inr h3)
      simp only [List.length_append, List.length_cons] at this ⊢
      omega
  have := key sn (List.range n) h1 (fun k hk => List.mem_range.2 (h2 k hk))
  simpa using this
/-- How many an iterator has given out. -/
def itLen (W : World) (r : Nat) : Nat := match W.heap[r]? with | some (.mapIter _ _ seen _) => seen.size | _ => 0
theorem itLen_eq {W : World} {r : Nat} {m : Option Nat} {s c : Nat} {sn : List Nat} (h : W.heap[r]? = some (.mapIter m s sn.toArray c)) : itLen W r = sn.length := by
  unfold itLen
  rw [h]
  simp
/-- What the loop keeps. -/
structure Tg (W : World) (n mb : Nat) (ps : List Pt) (vs : Nat → Value) (r : Nat) (sn : List Nat) (lv : Value) (U : World) : Prop where
  nd : sn.Nodup
  lt : ∀ i ∈ sn, i < ps.length
  ok : ∀ i ∈ sn, -9223372036854775808 ≤ (balAt ps i).amt ∧ (balAt ps i).amt ≤ 9223372036854775807
  it : U.heap[r]? = some (.mapIter (some mb) ps.length sn.toArray ps.length)
  pm : PMp U n mb ps vs
  row : BlRow U W.heap.size lv (full (sn.map (balAt ps)))
  bel : Below W.heap.size W U
theorem full_len (l : List Bl) : (full l).length ≤ l.length := List.length_filter_le _ _
theorem run_pmlen {W : World} {n mb : Nat} {ps : List Pt} {vs : Nat → Value} (h : PMp W n mb ps vs) (ty : TypeId) : (Builtin.len_ #[66] ty #[.map (some mb)]).run Try.prog W = .ok (.int .i64 (ps.length : Int)) W := by
  have e : (ents ps vs).toArray.size = ps.length := by simp [ents_length]
  simp [Builtin.len_, run_underlying pt_under, MapKept.run_getObj_map h.map, Result.andThen, goInt, ents_length]

theorem PMp.keep {W U : World} {n mb : Nat} {ps : List Pt} {vs : Nat → Value} (h : PMp W n mb ps vs) (h1 : ∀ (es : Array MapEntry) (c : Nat), W.heap[mb]? = some (Obj.map es c) → U.heap[mb]? = W.heap[mb]?) (h2 : ∀ (g : Nat) (cs : Array Value), W.heap[g]? = some (Obj.cells cs 3 (0, 0)) → U.heap[g]? = W.heap[g]?) : PMp U n mb ps vs :=
  ⟨(h1 _ _ h.map).trans h.map, h.mbn, h.keys, h.nodup, fun i hi => row_keep (h.rows i hi) (fun g eg => by
    obtain ⟨_, _, cs, e⟩ := row_block (h.rows i hi) eg
    exact h2 g cs e), h.apart, h.i64⟩
theorem full_snoc (l : List Bl) (x : Bl) : full (l ++ [x]) = if x.amt = 0 then full l else full l ++ [x] := by
  unfold full
  rw [List.filter_append]
  by_cases h : x.amt = 0
  · rw [if_pos h]; simp [h]
  · rw [if_neg h]; simp [h]
/-- One more has come. -/
theorem Tg.more {W U : World} {n mb : Nat} {ps : List Pt} {vs : Nat → Value} {r : Nat} {sn : List Nat} {lv lv' : Value} {V : World} (h : Tg W n mb ps vs r sn lv V) {i : Nat} (hi : i < ps.length) (hns : i ∉ sn) (hok : -9223372036854775808 ≤ (ps[i]).zs.sum ∧ (ps[i]).zs.sum ≤ 9223372036854775807)
    (hit : U.heap[r]? = some (.mapIter (some mb) ps.length (sn ++ [i]).toArray ps.length)) (hpm : PMp U n mb ps vs) (hrow : BlRow U W.heap.size lv' (if (ps[i]).zs.sum = 0 then full (sn.map (balAt ps)) else full (sn.map (balAt ps)) ++ [(ps[i]).bal])) (hbel : Below W.heap.size W U) : Tg W n mb ps vs r (sn ++ [i]) lv' U := by
  refine ⟨?_, fun j hj => ?_, fun j hj => ?_, hit, hpm, ?_, hbel⟩
  · rw [List.nodup_append]
    exact ⟨h.nd, by simp, fun a ha b hb e => hns (by rw [List.mem_singleton.1 hb] at e; rw [← e]; exact ha)⟩
  · rcases List.mem_append.1 hj with hj | hj
    · exact h.lt j hj
    · rw [List.mem_singleton.1 hj]; exact hi
  · rcases List.mem_append.1 hj with hj | hj
    · exact h.ok j hj
    · rw [List.mem_singleton.1 hj, balAt_get ps i hi]; exact hok
  · rw [List.map_append, List.map_cons, List.map_nil, full_snoc, balAt_get ps i hi]
    exact hrow

set_option maxHeartbeats 4000000 in
theorem ldTogether_any (W : World) (n mb : Nat) (ps : List Pt) (vs : Nat → Value) (h : PMp W n mb ps vs) (hz : ∀ p ∈ ps, p.zs.length ≤ 17592186044416) (hn : ps.length ≤ 4611686018427387904) :
    Calls Try.prog 23 #[.map (some mb)] W fun e w' => Below W.heap.size W w' ∧ (tgE ps ≠ 0 → e = .returned (.tuple #[.slice none 0 0, enE (tgE ps)])) ∧ (tgE ps = 0 → ∃ v R, e = .returned (.tuple #[v, .nilIface]) ∧ Hid (BlRow w' W.heap.size v R ∧ Rises R ∧ R.Perm (full (ps.map Pt.bal)))) := by
  have hln := fun ty => run_pmlen h ty
  by_cases h2 : 200 < ps.length
  · have e4 : tgE ps = 4 := if_pos h2
    rw [e4]
    have i1 : (200 : Int) < ps.length := by omega
    clear h e4
    go_enter Try.func23, Try.ntmps23
    go_wp2
    go_ret2
    exact ⟨Below.refl _ _, fun _ => rfl, fun h => by cases h⟩
  have i1 : ¬ (200 : Int) < ps.length := by omega
  have hrg := run_range_map W 66 88 52 mb _ _ pt_under h.map
  have HT0 : Hid (Tg W n mb ps vs W.heap.size [] (.slice none 0 0) (W.alloc (.mapIter (some mb) ps.length #[] ps.length))) := by
    have hb : Below W.heap.size W (W.alloc (.mapIter (some mb) ps.length #[] ps.length)) := (Below.refl _ W).alloc (Nat.le_refl _) _
    exact ⟨List.nodup_nil, fun i hi => by simp at hi, fun i hi => by simp at hi, ld_new_heap W _, h.below hb, BlRow.nil _ _, hb⟩
  have Hz : Hid (∀ p ∈ ps, p.zs.length ≤ 17592186044416) := hz
  clear h hz
  go_enter Try.func23, Try.ntmps23
  go_wp2_with fail
  go_loopw [4] (fun lv wr => ∃ sn, Hid (Tg W n mb ps vs W.heap.size sn lv wr)) (fun _ wr => ps.length - itLen wr W.heap.size)
  case atStart => exact ⟨[], HT0⟩
  case round =>
    obtain ⟨sn, HT⟩ := hrel
    obtain ⟨a4, c4, rfl, _⟩ := HT.out.row.isBl
    obtain ⟨L4, hL4⟩ : ∃ L4, (full (sn.map (balAt ps))).length = L4 := ⟨_, rfl⟩
    have HL4 : Hid ((full (sn.map (balAt ps))).length = L4) := hL4
    rw [hL4] at HT ⊢
    clear hL4
    rcases parts_next HT.out.pm HT.out.it 0 with ⟨hall, hrun⟩ | ⟨i, hi, hns, W1, hrun, hit, hgr, hsz, hent⟩
    · -- all were there
      have hok : tgE ps = 0 := by
        unfold tgE
        rw [if_neg h2, if_pos (List.all_eq_true.2 (fun p hp => ?_))]
        obtain ⟨i, hi, rfl⟩ := List.getElem_of_mem hp
        have := HT.out.ok i (hall i hi)
        rw [balAt_get ps i hi] at this
        exact decide_eq_true this
      have hpm : (sn.map (balAt ps)).Perm (ps.map Pt.bal) := by
        rw [← balAt_all]
        exact (seen_perm HT.out.nd HT.out.lt hall).map _
      have hfp : (full (sn.map (balAt ps))).Perm (full (ps.map Pt.bal)) := hpm.filter _
      have hnd : ((full (sn.map (balAt ps))).map Bl.key).Nodup := by
        have h3 : ((ps.map Pt.bal).map Bl.key).Nodup := by
          rw [List.map_map]
          exact HT.out.pm.nodup
        have h4 := ((hpm.map Bl.key).nodup_iff).2 h3
        exact (List.Sublist.map Bl.key List.filter_sublist).nodup h4
      have hle : (full (sn.map (balAt ps))).length ≤ 1000000 := by
        have h5 := full_len (sn.map (balAt ps))
        have h6 := seen_le HT.out.nd HT.out.lt
        simp only [List.length_map] at h5
        omega
      have HS : Hid (Calls _ _ _ wr _) := sort_any wr W.heap.size (.slice a4 L4 c4) _ HT.out.row hle hnd
      have HQ : Hid (Below W.heap.size W wr ∧ (∀ j, (Value.slice a4 L4 c4).ownBlock = some j → W.heap.size ≤ j)) := ⟨HT.out.bel, fun j e => (row_block HT.out.row e).1⟩
      have HP : Hid ((full (sn.map (balAt ps))).Perm (full (ps.map Pt.bal))) := hfp
      have HOK : Hid (tgE ps = 0) := hok
      clear HT hpm hfp hnd hle hall hln hrg HT0 hok
      go_wp2_with (go_at_call 41; refine HS.out.mono ?_; rintro e w' ⟨rfl, R, hR1, hR2, hR3, hR4⟩)
      go_ret2
      exact ⟨HQ.out.1.grown hR4 HQ.out.1.size HQ.out.2, fun h => absurd HOK.out h, fun _ => ⟨_, R, rfl, hR3, hR2, hR1.trans HP.out⟩⟩
    · have hrI := HT.out.it
      have hrlt : W.heap.size < wr.heap.size := (Array.getElem?_eq_some_iff.1 hrI).1
      have hpm1 : PMp W1 n mb ps vs := HT.out.pm.keep (fun es c e => hgr.block mb (Array.getElem?_eq_some_iff.1 e).1 (fun e2 => by cases e2; rw [hrI] at e; cases e)) (fun g cs e => hgr.block g (Array.getElem?_eq_some_iff.1 e).1 (fun e2 => by cases e2; rw [hrI] at e; cases e))
      have hrow1 : BlRow W1 W.heap.size (.slice a4 L4 c4) (full (sn.map (balAt ps))) := row_keep HT.out.row (fun g eg => by
        obtain ⟨_, g2, cs, e⟩ := row_block HT.out.row eg
        exact hgr.block g g2 (fun e2 => by cases e2; rw [hrI] at e; cases e))
      have hbel1 : Below W.heap.size W W1 := HT.out.bel.grown hgr HT.out.bel.size (fun j e => by cases e; exact Nat.le_refl _)
      have HTg : Hid (Tg W n mb ps vs W.heap.size sn (.slice a4 L4 c4) wr) := HT
      obtain ⟨⟨k0, k1, k2⟩, hkk⟩ : ∃ kk : Pk, (ps[i]).key = kk := ⟨_, rfl⟩
      obtain ⟨V, hV⟩ : ∃ V, W1.alloc (.cells #[.int .i64 k0, .string k1, .string k2] 88) = V := ⟨_, rfl⟩
      have hbV : Below W1.heap.size W1 V := by rw [← hV]; exact (Below.refl _ _).alloc (Nat.le_refl _) _
      have hVh : V.heap[W1.heap.size]? = some (.cells #[.int .i64 k0, .string k1, .string k2] 88 (0, 0)) := by rw [← hV]; exact ld_new_heap W1 _
      have c0 : V.cell? ⟨W1.heap.size, 0, none⟩ = some (.int .i64 k0) := by simp [World.cell?, hVh]
      have c1 : V.cell? ⟨W1.heap.size, 1, none⟩ = some (.string k1) := by simp [World.cell?, hVh]
      have c2 : V.cell? ⟨W1.heap.size, 2, none⟩ = some (.string k2) := by simp [World.cell?, hVh]
      have hpmV := hpm1.below hbV
      have hrowV : BlRow V W.heap.size (.slice a4 L4 c4) (full (sn.map (balAt ps))) := hrow1.below hbV
      have hitV : V.heap[W.heap.size]? = some (.mapIter (some mb) ps.length (sn ++ [i]).toArray ps.length) := (hbV.block _ (Array.getElem?_eq_some_iff.1 hit).1).trans hit
      have hbelV : Below W.heap.size W V := hbel1.trans (hbV.mono hbel1.size)
      have HSum : Hid (Calls _ _ _ V _) := sum_own n (ps[i]).zs.length 3 (vs i) (ps[i]).zs V (by have := Hz.out _ (List.getElem_mem hi); omega) (fun j hj => hpmV.i64 _ (List.getElem_mem hi) _ (by rw [List.getD_eq_getElem?_getD, List.getElem?_eq_getElem hj]; exact List.getElem_mem hj)) (hpmV.rows i hi)
      simp only [plV, hkk] at hrun hent
      obtain ⟨S, hS⟩ : ∃ S, (ps[i]).zs.sum = S := ⟨_, rfl⟩
      rw [hS] at HSum
      have HV : Hid (W1.alloc (.cells #[.int .i64 k0, .string k1, .string k2] 88) = V) := hV
      have HVS : Hid (PMp V n mb ps vs ∧ BlRow V W.heap.size (.slice a4 L4 c4) (full (sn.map (balAt ps))) ∧ V.heap[W.heap.size]? = some (.mapIter (some mb) ps.length (sn ++ [i]).toArray ps.length) ∧ Below W.heap.size W V) := ⟨hpmV, hrowV, hitV, hbelV⟩
      have HI : Hid (itLen wr W.heap.size = sn.length ∧ sn.length + 1 ≤ ps.length) := ⟨itLen_eq hrI, by
        have := seen_le (n := ps.length) (sn := sn ++ [i]) (by
          rw [List.nodup_append]
          exact ⟨HTg.out.nd, by simp, fun a ha b hb e => hns (by rw [List.mem_singleton.1 hb] at e; rw [← e]; exact ha)⟩) (fun j hj => by
          rcases List.mem_append.1 hj with hj | hj
          · exact HTg.out.lt j hj
          · rw [List.mem_singleton.1 hj]; exact hi)
        simpa using this⟩
      clear hpmV hrowV hitV hbelV hpm1 hrow1 hbel1 hbV hV hit hgr hsz hrlt hrI HT HT0 hrg hln hVh
      by_cases hfit : -9223372036854775808 ≤ S ∧ S ≤ 9223372036854775807
      · obtain ⟨e1, e2⟩ := sum_fit S hfit
        rw [e1, e2] at HSum
        clear e1 e2
        have HBal : Hid ((ps[i]).bal = ⟨k0, k1, k2, S⟩) := by
          unfold Hid Pt.bal
          rw [hkk, hS]
        by_cases h0 : S = 0
        · subst h0
          have HN : Hid (Tg W n mb ps vs W.heap.size (sn ++ [i]) (.slice a4 L4 c4) V) := HTg.out.more hi hns (by rw [hS]; exact hfit) HVS.out.2.2.1 HVS.out.1 (by rw [hS, if_pos rfl]; exact HVS.out.2.1) HVS.out.2.2.2
          have HM : Hid (ps.length - itLen V W.heap.size < ps.length - itLen wr W.heap.size) := by
            have e1 := itLen_eq HVS.out.2.2.1
            have := HI.out
            unfold Hid
            rw [e1, List.length_append]
            simp only [List.length_cons, List.length_nil]
            omega
          clear HVS HTg c0 c1 c2
          go_wp2_with (first | (go_at_call 36; rw [HV.out]; refine HSum.out.mono ?_; rintro e w' ⟨rfl, hw⟩; obtain rfl := hw.symm))
          go_roundw
          case rel => exact ⟨_, HN⟩
          case measure => exact HM.out
        · have h0' : (S != 0) = true := by simp [h0]
          obtain ⟨X, hX⟩ : ∃ X, V.alloc (.cells #[.int .i64 k0, .string k1, .string k2, .int .i64 S] 34) = X := ⟨_, rfl⟩
          have hbX : Below V.heap.size V X := by rw [← hX]; exact (Below.refl _ _).alloc (Nat.le_refl _) _
          have hXh : X.heap[V.heap.size]? = some (.cells #[.int .i64 k0, .string k1, .string k2, .int .i64 S] 34 (0, 0)) := by rw [← hX]; exact ld_new_heap V _
          have Hsrc : Hid (∀ j' u, [Value.int .i64 k0, .string k1, .string k2, .int .i64 S][j']? = some u → X.cell? ((⟨V.heap.size, 0, none⟩ : Addr).add j') = some u) := World.news_of_block hXh
          have HXr : Hid (X.ownsRow W.heap.size 34 4 (.slice a4 L4 c4) L4 (blRow (full (sn.map (balAt ps))))) := by
            have := HVS.out.2.1.below hbX
            unfold BlRow at this
            rw [HL4.out] at this
            exact this
          have Hle : Hid ((full (sn.map (balAt ps))).length ≤ 200) := by
            have h5 := full_len (sn.map (balAt ps))
            have := HI.out
            simp only [List.length_map] at h5
            unfold Hid
            omega
          have HN : Hid (∀ v' U, U.ownsRow W.heap.size 34 4 v' (L4 + 1) (blRow (full (sn.map (balAt ps))) ++ [Value.int .i64 k0, .string k1, .string k2, .int .i64 S]) → X.grownBy U (Value.slice a4 L4 c4).ownBlock → Tg W n mb ps vs W.heap.size (sn ++ [i]) v' U ∧ ps.length - itLen U W.heap.size < ps.length - itLen wr W.heap.size) := fun v' U ho hg => by
            have hblk : ∀ g, (Value.slice a4 L4 c4).ownBlock = some g → ∃ cs, X.heap[g]? = some (.cells cs 34 (0, 0)) := fun g e => (row_block HXr.out e).2.2
            have hitX : X.heap[W.heap.size]? = some (.mapIter (some mb) ps.length (sn ++ [i]).toArray ps.length) := (hbX.block _ (Array.getElem?_eq_some_iff.1 HVS.out.2.2.1).1).trans HVS.out.2.2.1
            have hitU : U.heap[W.heap.size]? = some (.mapIter (some mb) ps.length (sn ++ [i]).toArray ps.length) := (hg.block _ (Array.getElem?_eq_some_iff.1 hitX).1 (fun e => by
              obtain ⟨cs, e2⟩ := hblk _ e.symm
              rw [hitX] at e2
              cases e2)).trans hitX
            have hpmU : PMp U n mb ps vs := (HVS.out.1.below hbX).keep (fun es c e => hg.block mb (Array.getElem?_eq_some_iff.1 e).1 (fun e1 => by
              obtain ⟨cs, e2⟩ := hblk _ e1.symm
              rw [e] at e2
              cases e2)) (fun g cs e => hg.block g (Array.getElem?_eq_some_iff.1 e).1 (fun e1 => by
              obtain ⟨cs', e2⟩ := hblk _ e1.symm
              rw [e] at e2
              simp only [Option.some.injEq, Obj.cells.injEq] at e2
              exact absurd e2.2.1 (by decide)))
            refine ⟨HTg.out.more hi hns (by rw [hS]; exact hfit) hitU hpmU ?_ ?_, ?_⟩
            · rw [hS, if_neg h0, HBal.out]
              unfold BlRow
              rw [blRow_append, blRow_one, List.length_append, HL4.out]
              exact ho
            · exact (HVS.out.2.2.2.trans (hbX.mono HVS.out.2.2.2.size)).grown hg (Nat.le_trans HVS.out.2.2.2.size hbX.size) (fun g e => (row_block HXr.out e).1)
            · rw [itLen_eq hitU, List.length_append]
              have := HI.out
              simp only [List.length_cons, List.length_nil]
              omega
          have Hsz : Hid (W.heap.size ≤ X.heap.size) := Nat.le_trans HVS.out.2.2.2.size hbX.size
          have HX : Hid (V.alloc (.cells #[.int .i64 k0, .string k1, .string k2, .int .i64 S] 34) = X) := hX
          obtain ⟨qi, hq, hz0, hz1, hz2⟩ := info_parts bl_info
          have Hm1 : Hid (L4 + 1 ≤ maxLen) := by have := Hle.out; rw [HL4.out] at this; unfold Hid maxLen; omega
          have Hm2 : Hid ((L4 + 1) * 48 ≤ 140737488355328) := by have := Hle.out; rw [HL4.out] at this; unfold Hid; omega
          have Hs1 : Hid (∀ u ∈ [Value.int .i64 k0, .string k1, .string k2, .int .i64 S], u.oneCell' = true) := by
            intro u hu
            simp at hu
            rcases hu with rfl | rfl | rfl | rfl <;> rfl
          clear hbX hXh hX HTg HVS Hle HBal HL4
          generalize full (sn.map (balAt ps)) = F at *
          go_wp2_with (first | (go_at_call 36; rw [HV.out]; refine HSum.out.mono ?_; rintro e w' ⟨rfl, hw⟩; obtain rfl := hw.symm) | (at_builtin; rw [HX.out]; refine wpList_append_own _ rfl _ _ 24 rfl W.heap.size 34 qi (.agg #[.int .i64 0, .string ByteArray.empty, .string ByteArray.empty, .int .i64 0]) 4 48 Try.underlying24 hq hz0 hz1 hz2 rfl (by decide) _ _ _ rfl HXr.out ⟨V.heap.size, 0, none⟩ 1 1 [Value.int .i64 k0, .string k1, .string k2, .int .i64 S] rfl rfl Hsrc.out Hs1.out Hm1.out Hm2.out Hsz.out ?_))
          intro v' U ho hg _
          obtain ⟨g1, g2⟩ := HN.out v' U ho hg
          have G1 : Hid (Tg W n mb ps vs W.heap.size (sn ++ [i]) v' U) := g1
          have G2 : Hid (ps.length - itLen U W.heap.size < ps.length - itLen wr W.heap.size) := g2
          clear g1 g2 ho hg HN Hsrc HXr
          go_wp2_with fail
          go_roundw
          case rel => exact ⟨_, G1⟩
          case measure => exact G2.out
      · obtain ⟨e1, e2⟩ := sum_nofit S hfit
        rw [e1, e2] at HSum
        have HE : Hid (tgE ps = 10) := by
          unfold Hid tgE
          rw [if_neg h2, if_neg]
          intro hall
          have := List.all_eq_true.1 hall _ (List.getElem_mem hi)
          rw [hS] at this
          exact hfit (of_decide_eq_true this)
        have HB : Hid (Below W.heap.size W V) := HVS.out.2.2.2
        clear e1 e2 HVS HTg c0 c1 c2
        go_wp2_with (first | (go_at_call 36; rw [HV.out]; refine HSum.out.mono ?_; rintro e w' ⟨rfl, hw⟩; obtain rfl := hw.symm))
        go_ret2
        exact ⟨HB.out, fun _ => by rw [HE.out]; rfl, fun h => by rw [HE.out] at h; cases h⟩
end Go.Proofs.Ytmelleimijenfaa

namespace Go.Proofs.Ytmelleimijenfaa
set_option linter.unusedVariables false
set_option linter.unusedSimpArgs false
set_option maxRecDepth 100000
open Go.RowKit Go.Lib
/-- The place of the first balance for which something holds, counted from a number on; else -1. -/
def bidxFrom (p : Bl → Bool) : Nat → List Bl → Int
  | _, [] => -1
  | k, a :: l => if p a = true then (k : Int) else bidxFrom p (k + 1) l
theorem bidx_any (p : Bl → Bool) : ∀ (l : List Bl) (k : Nat), decide (0 ≤ bidxFrom p k l) = l.any p
  | [], k => by simp [bidxFrom]
  | x :: l, k => by
    rw [bidxFrom]
    cases h : p x
    · rw [if_neg (by simp), bidx_any p l (k + 1)]; simp [h]
    · rw [if_pos rfl]; simp [h]
theorem bidx_spec (p : Bl → Bool) : ∀ (l : List Bl) (k : Nat), (bidxFrom p k l = -1 ∧ l.any p = false) ∨ ∃ j, j < l.length ∧ bidxFrom p k l = ((k + j : Nat) : Int) ∧ p (l.getD j bl0) = true ∧ (l.take j).any p = false
  | [], k => .inl ⟨rfl, rfl⟩
  | x :: l, k => by
    cases h : p x
    · rcases bidx_spec p l (k + 1) with ⟨e, ha⟩ | ⟨j, hj, e, hp, ha⟩
      · exact .inl ⟨by rw [bidxFrom, if_neg (by simp [h]), e], by simp [h, ha]⟩
      · exact .inr ⟨j + 1, by simpa using hj, by rw [bidxFrom, if_neg (by simp [h]), e]; congr 1; omega, by simpa using hp, by simp [h, ha]⟩
    · exact .inr ⟨0, by simp, by rw [bidxFrom, if_pos h]; simp, by simpa using h, by simp⟩

/-- What is asked of a function that is told a balance and says yes or no. -/
structure BTells (g : Nat) (p : Bl → Bool) : Prop where
  eg : ∀ args W, (callFunc g args).run Try.prog W = .ok (.enter g args) W
  call : ∀ (x : Bl) W, Calls Try.prog g #[.agg x.cells] W fun e w' => e = .returned (.bool (p x)) ∧ Below W.heap.size W w'

set_option maxHeartbeats 1000000 in
theorem blIdx_some (g : Nat) (p : Bl → Bool) (b off cap : Nat) (l : List Bl) (w : World) (hp : BTells g p) (hb : b < w.heap.size) (hlen : (l.length : Int) ≤ 9223372036854775807) (hc : BlsAt w b off l) :
    Calls Try.prog 33 #[.slice (some ⟨b, off, none⟩) l.length cap, .func (.func g) #[] #[]] w fun e w' => e = .returned (.int .i64 (bidxFrom p 0 l)) ∧ Below w.heap.size w w' := by
  have eg := hp.eg
  have Hp : Hid (BTells g p) := hp
  have Hc : Hid (BlsAt w b off l) := hc
  clear hp hc
  obtain ⟨res, hres⟩ : ∃ res, bidxFrom p 0 l = res := ⟨_, rfl⟩
  have Hres : Hid (bidxFrom p 0 l = res) := hres
  rw [hres]
  clear hres
  go_enter Try.func33, Try.ntmps33
  go_wp2
  go_loopw [8] (fun i wr => ∃ k : Nat, k ≤ l.length ∧ i = .int .i64 k ∧ Hid (bidxFrom p k (l.drop k) = res) ∧ Below w.heap.size w wr) (fun i _ => l.length - (RowKit.intOf i).toNat)
  case atStart => exact ⟨0, Nat.zero_le _, rfl, Hres.out, Below.refl _ _⟩
  case round =>
    obtain ⟨k, hk, rfl, H, BW⟩ := hrel
    by_cases hlt : k < l.length
    · have hn := (Hc.out k hlt).below BW hb
      have hcall := Hp.out.call (l.getD k bl0) wr
      have E : Hid ((if p (l.getD k bl0) = true then (k : Int) else bidxFrom p (k + 1) (l.drop (k + 1))) = res) := by
        have := H.out
        rw [bls_drop l k hlt] at this
        exact this
      clear H
      generalize l.getD k bl0 = a at *
      obtain ⟨a0, a1, a2, a3⟩ := a
      obtain ⟨c0, c1, c2, c3⟩ := hn
      simp only [Bl.cells] at c0 c1 c2 c3 hcall
      have i0 : (0 : Int) ≤ k := by omega
      have i1 : (k : Int) < l.length := by omega
      cases hq : p ⟨a0, a1, a2, a3⟩
      · rw [hq] at hcall
        have HN : Hid (bidxFrom p (k + 1) (l.drop (k + 1)) = res) := by
          have := E.out; rw [if_neg (by rw [hq]; simp)] at this; exact this
        go_wp2_with (go_at_fn g; refine hcall.mono ?_; rintro e w' ⟨rfl, hb'⟩)
        go_roundw
        case rel => exact ⟨k + 1, by omega, by go_num, HN, BW.trans (hb'.mono BW.size)⟩
        case measure => simp [RowKit.intOf]; omega
      · rw [hq] at hcall
        have er : res = k := by rw [← E.out, if_pos hq]
        subst er
        go_wp2_with (go_at_fn g; refine hcall.mono ?_; rintro e w' ⟨rfl, hb'⟩)
        go_ret
        exact ⟨rfl, BW.trans (hb'.mono BW.size)⟩
    · have hk2 : k = l.length := by omega
      subst hk2
      have er : res = -1 := by rw [← H.out, List.drop_length]; rfl
      subst er
      go_wp2
      go_ret
      exact ⟨rfl, BW⟩

theorem blIdx_none (a : Option Addr) (cap : Nat) (f : Value) (w : World) :
    Calls Try.prog 33 #[.slice a 0 cap, f] w fun e w' => e = .returned (.int .i64 (-1)) ∧ Below w.heap.size w w' := by
  go_enter Try.func33, Try.ntmps33
  go_wp2
  refine wp_loop_rounds 1 ?_
  rw [rounds_succ]
  go_wp2
  go_ret
  exact ⟨rfl, Below.refl _ _⟩

theorem blIdx_any (g : Nat) (p : Bl → Bool) (a : Option Addr) (cap : Nat) (l : List Bl) (w : World) (hp : BTells g p) (hlen : (l.length : Int) ≤ 9223372036854775807) (h : IsBl w a l cap) :
    Calls Try.prog 33 #[.slice a l.length cap, .func (.func g) #[] #[]] w fun e w' => e = .returned (.int .i64 (bidxFrom p 0 l)) ∧ Below w.heap.size w w' := by
  rcases h.lies with rfl | ⟨b, off, rfl, hlt, hc⟩
  · exact blIdx_none a cap _ w
  · exact blIdx_some g p b off cap l w hp hlt hlen hc

theorem blContains_any (g : Nat) (p : Bl → Bool) (a : Option Addr) (cap : Nat) (l : List Bl) (w : World) (hp : BTells g p) (hlen : (l.length : Int) ≤ 9223372036854775807) (h : IsBl w a l cap) :
    Calls Try.prog 13 #[.slice a l.length cap, .func (.func g) #[] #[]] w fun e w' => e = .returned (.bool (l.any p)) ∧ Below w.heap.size w w' := by
  rw [← bidx_any p l 0]
  have hI := blIdx_any g p a cap l w hp hlen h
  clear h
  go_enter Try.func13, Try.ntmps13
  go_wp2_with fail
  refine hI.mono ?_
  rintro e w' ⟨rfl, hb⟩
  go_wp2
  go_ret
  exact ⟨rfl, hb⟩


/-- A balance that is too great. -/
def tooB (x : Bl) : Bool := !decide (-1000000000000000000 ≤ x.amt ∧ x.amt ≤ 1000000000000000000)
theorem merge1_any (x : Bl) (w : World) :
    Calls Try.prog 24 #[.agg x.cells] w fun e w' => e = .returned (.bool (tooB x)) ∧ Below w.heap.size w w' := by
  obtain ⟨a0, a1, a2, a3⟩ := x
  simp only [Bl.cells, tooB]
  have HI : Hid (∀ W, Calls Try.prog 25 #[.int .i64 a3, .int .i64 1000000000000000000] W fun e w' => e = .returned (.bool (decide (-1000000000000000000 ≤ a3 ∧ a3 ≤ 1000000000000000000))) ∧ w' = W) := fun W => isWithin_any a3 1000000000000000000 (by decide) W
  generalize decide (-1000000000000000000 ≤ a3 ∧ a3 ≤ 1000000000000000000) = r at *
  go_enter Try.func24, Try.ntmps24
  go_wp2_with (go_at_call 25; refine (HI.out _).mono ?_; rintro e w' ⟨rfl, rfl⟩)
  go_ret
  exact ⟨rfl, (Below.refl _ w).alloc (Nat.le_refl _) _⟩
theorem merge1_tells : BTells 24 tooB :=
  ⟨fun args W => en_enters Try.func24 (by kernel_rfl) ⟨_, rfl⟩ args W, merge1_any⟩
theorem addP_zs (x : Bl) (m : Nat) : ∀ ps : List Pt, (∀ p ∈ ps, p.zs.length ≤ m) → ∀ p ∈ addP ps x, p.zs.length ≤ m + 1
  | [], _, p, hp => by
    rw [addP, List.mem_singleton] at hp
    rw [hp]; simp
  | q :: ps, h, p, hp => by
    unfold addP at hp
    split at hp
    · rcases List.mem_cons.1 hp with rfl | hp
      · have := h q (List.mem_cons_self ..)
        simp; omega
      · have := h p (List.mem_cons_of_mem _ hp)
        omega
    · rcases List.mem_cons.1 hp with rfl | hp
      · have := h p (List.mem_cons_self ..)
        omega
      · exact addP_zs x m ps (fun q hq => h q (List.mem_cons_of_mem _ hq)) p hp
theorem parts_zs (l : List Bl) : ∀ p ∈ parts l, p.zs.length ≤ l.length := by
  have key : ∀ (l : List Bl) (ps : List Pt) (m : Nat), (∀ p ∈ ps, p.zs.length ≤ m) → ∀ p ∈ l.foldl addP ps, p.zs.length ≤ m + l.length := by
    intro l
    induction l with
    | nil => intro ps m h; simpa using h
    | cons x l ih =>
      intro ps m h p hp
      have := ih (addP ps x) (m + 1) (addP_zs x m ps h) p hp
      simp only [List.length_cons]
      omega
  have := key l [] 0 (by simp)
  simpa [parts] using this
/-- All that comes of places is of a place, and what comes of it. -/
theorem sums_of_perm {l R : List Bl} (hr : Rises R) (hp : R.Perm (full ((parts l).map Pt.bal))) : Sums l R :=
  ⟨hr, fun x hx => full_ne _ x (hp.mem_iff.1 hx), fun k => by rw [ltot_perm k hp, ltot_full, ltot_bal, parts_tot]⟩
theorem ok_of_perm {l R : List Bl} (hp : R.Perm (full ((parts l).map Pt.bal))) (hok : ∀ x ∈ l, BlOk x) (hi : ∀ p ∈ parts l, -9223372036854775808 ≤ p.zs.sum ∧ p.zs.sum ≤ 9223372036854775807) : ∀ x ∈ R, BlOk x := fun x hx => by
  have h1 := (List.mem_filter.1 (hp.mem_iff.1 hx)).1
  obtain ⟨p, hp1, rfl⟩ := List.mem_map.1 h1
  obtain ⟨y, hy, e⟩ := (parts_keys p.key l).1 (List.mem_map.2 ⟨p, hp1, rfl⟩)
  exact ⟨by rw [bal_key, ← e]; exact (hok y hy).key, hi p hp1⟩
theorem len_of_perm {l R : List Bl} (hp : R.Perm (full ((parts l).map Pt.bal))) : R.length ≤ (parts l).length := by
  rw [hp.length_eq]
  have := full_len ((parts l).map Pt.bal)
  simpa using this
/-- What comes of two lists. -/
structure MgR (a b R : List Bl) : Prop where
  sums : Sums (a ++ b) R
  len : R.length ≤ 200
  ok : ∀ x ∈ R, BlOk x
/-- Of two right lists, no place has more than two amounts. -/
theorem ltot_abs {l : List Bl} (h : Fine l) (k : Pk) : -1000000000000000000 ≤ ltot k l ∧ ltot k l ≤ 1000000000000000000 := by
  by_cases e : ltot k l = 0
  · rw [e]; omega
  · obtain ⟨x, hx, rfl⟩ := ltot_ex e
    rw [ltot_mem h.rises x hx]
    exact h.amt x hx
theorem two_fit {a b : List Bl} (ha : Fine a) (hb : Fine b) : ∀ p ∈ parts (a ++ b), -9223372036854775808 ≤ p.zs.sum ∧ p.zs.sum ≤ 9223372036854775807 :=
  (parts_all (l := a ++ b) (P := fun z => -9223372036854775808 ≤ z ∧ z ≤ 9223372036854775807)).2 (fun x _ => by
    rw [ltot_append]
    have h1 := ltot_abs ha x.key
    have h2 := ltot_abs hb x.key
    omega)
theorem tgE_two {a b : List Bl} (ha : Fine a) (hb : Fine b) : tgE (parts (a ++ b)) = if 200 < (parts (a ++ b)).length then 4 else 0 := by
  unfold tgE
  split
  · rfl
  · rw [if_pos (List.all_eq_true.2 (fun p hp => decide_eq_true (two_fit ha hb p hp)))]
/-- Something is too great. -/
theorem any_too {l R : List Bl} (hp : R.Perm (full ((parts l).map Pt.bal))) : R.any tooB = true ↔ ¬ (parts l).all (fun p => decide (-1000000000000000000 ≤ p.zs.sum ∧ p.zs.sum ≤ 1000000000000000000)) = true := by
  rw [List.all_eq_true]
  constructor
  · intro h h2
    obtain ⟨x, hx, hx2⟩ := List.any_eq_true.1 h
    obtain ⟨p, hp1, rfl⟩ := List.mem_map.1 (List.mem_filter.1 (hp.mem_iff.1 hx)).1
    have := h2 p hp1
    unfold tooB at hx2
    have e : p.bal.amt = p.zs.sum := rfl
    rw [e, this] at hx2
    cases hx2
  · intro h
    false_or_by_contra
    rename_i hn
    refine h (fun p hp1 => ?_)
    false_or_by_contra
    rename_i hn2
    refine hn (List.any_eq_true.2 ⟨p.bal, hp.mem_iff.2 (List.mem_filter.2 ⟨List.mem_map.2 ⟨p, hp1, rfl⟩, ?_⟩), ?_⟩)
    · have e : p.bal.amt = p.zs.sum := rfl
      by_cases h0 : p.zs.sum = 0
      · exact absurd (decide_eq_true (by rw [h0]; omega)) hn2
      · simp [e, h0]
    · unfold tooB
      have e : p.bal.amt = p.zs.sum := rfl
      rw [e]
      have h2 : decide (-1000000000000000000 ≤ p.zs.sum ∧ p.zs.sum ≤ 1000000000000000000) = false := by
        cases hq : decide (-1000000000000000000 ≤ p.zs.sum ∧ p.zs.sum ≤ 1000000000000000000)
        · rfl
        · exact absurd hq hn2
      rw [h2]
      rfl
end Go.Proofs.Ytmelleimijenfaa

namespace Go.Proofs.Ytmelleimijenfaa
set_option linter.unusedVariables false
set_option linter.unusedSimpArgs false
set_option maxRecDepth 100000
open Go.RowKit Go.Lib
theorem PMp.new (W : World) (n : Nat) (hn : n ≤ W.heap.size) (vs : Nat → Value) : PMp (W.alloc (.map #[] 0)) n W.heap.size [] vs :=
  ⟨ld_new_heap W _, hn, fun p hp => by simp at hp, by simp, fun i hi => by simp at hi, fun i j hi => by simp at hi, fun p hp => by simp at hp⟩
/-- A list of two. -/
def mgL (a b : List Bl) (i : Nat) : List Bl := if i = 0 then a else b
/-- What the outer loop keeps: so many lists are in. -/
structure Mo (W : World) (a b : List Bl) (i : Nat) (U : World) : Prop where
  pm : ∃ vs, PMp U W.heap.size W.heap.size (parts (if i = 0 then [] else if i = 1 then a else a ++ b)) vs
  keep : AKeep W.heap.size W.heap.size (W.alloc (.map #[] 0)) U
  fa : 1 ≤ i → Fine a
  fb : 2 ≤ i → Fine b
theorem parts_take (l m : List Bl) (k : Nat) (h : k < m.length) : parts (l ++ m.take (k + 1)) = addP (parts (l ++ m.take k)) (m.getD k bl0) := by
  rw [bls_take m k h, ← List.append_assoc, parts_snoc]
theorem AKeep.isBl {n mb : Nat} {V W : World} {a : Option Addr} {l : List Bl} {cap : Nat} (h : IsBl V a l cap) (hk : AKeep n mb V W) (hm : ∀ b off, a = some ⟨b, off, none⟩ → b < n ∧ b ≠ mb) : IsBl W a l cap := by
  refine ⟨h.cap, ?_⟩
  rcases h.lies with e | ⟨b, off, e, hlt, hc⟩
  · exact .inl e
  · refine .inr ⟨b, off, e, Nat.lt_of_lt_of_le hlt hk.size, fun k hk2 => ?_⟩
    obtain ⟨h1, h2⟩ := hm b off e
    have hb := hk.block b hlt h2 (.inl h1)
    have hcell : ∀ o, W.cell? ⟨b, o, none⟩ = V.cell? ⟨b, o, none⟩ := fun o => by simp only [World.cell?, hb]
    have := hc k hk2
    exact ⟨(hcell _).trans this.c0, (hcell _).trans this.c1, (hcell _).trans this.c2, (hcell _).trans this.c3⟩

set_option maxHeartbeats 8000000 in
theorem merge_any (a1 a2 : Option Addr) (c1 c2 : Nat) (a b : List Bl) (W : World) (ha : IsBl W a1 a c1) (hb : IsBl W a2 b c2) (la : a.length ≤ 9223372036854775807) (lb : b.length ≤ 9223372036854775807) (oka : ∀ x ∈ a, BlOk x) (okb : ∀ x ∈ b, BlOk x) :
    Calls Try.prog 9 #[.slice a1 a.length c1, .slice a2 b.length c2] W fun e w' => Below W.heap.size W w' ∧ (mgE a b ≠ 0 → e = .returned (.tuple #[.slice none 0 0, enE (mgE a b)])) ∧ (mgE a b = 0 → ∃ v R, e = .returned (.tuple #[v, .nilIface]) ∧ Hid (BlRow w' W.heap.size v R ∧ MgR a b R)) := by
  have hmm := @run_makeMap Try.prog
  obtain ⟨W2, hW2⟩ : ∃ W2, (W.alloc (.map #[] 0)).alloc (.cells #[.slice a1 a.length c1, .slice a2 b.length c2] 24) = W2 := ⟨_, rfl⟩
  have hb1 : Below W.heap.size W (W.alloc (.map #[] 0)) := (Below.refl _ W).alloc (Nat.le_refl _) _
  have hb2 : Below (W.alloc (.map #[] 0)).heap.size (W.alloc (.map #[] 0)) W2 := by rw [← hW2]; exact (Below.refl _ _).alloc (Nat.le_refl _) _
  have hrow : W2.heap[W.heap.size + 1]? = some (.cells #[.slice a1 a.length c1, .slice a2 b.length c2] 24 (0, 0)) := by
    rw [← hW2]
    have := ld_new_heap (W.alloc (.map #[] 0)) (.cells #[.slice a1 a.length c1, .slice a2 b.length c2] 24)
    simpa using this
  have HM0 : Hid (Mo W a b 0 W2) := ⟨⟨fun _ => .slice none 0 0, (PMp.new W _ (Nat.le_refl _) _).below hb2⟩, AKeep.of_below hb2, fun h => by omega, fun h => by omega⟩
  have HF : Hid (∀ U, AKeep W.heap.size W.heap.size (W.alloc (.map #[] 0)) U → Below W.heap.size W U) := fun U hk => hb1.trans (hk.below (Nat.le_refl _) (by simp))
  have HR : Hid (∀ U, AKeep W.heap.size W.heap.size W2 U → U.cell? ⟨W.heap.size + 1, 0, none⟩ = some (.slice a1 a.length c1) ∧ U.cell? ⟨W.heap.size + 1, 1, none⟩ = some (.slice a2 b.length c2)) := fun U hk => by
    have e := (hk.block (W.heap.size + 1) (Array.getElem?_eq_some_iff.1 hrow).1 (by omega) (.inr (fun cs e => by rw [hrow] at e; simp only [Option.some.injEq, Obj.cells.injEq] at e; exact absurd e.2.1 (by decide)))).trans hrow
    simp [World.cell?, e]
  have HA : Hid (IsBl W a1 a c1 ∧ IsBl W a2 b c2 ∧ (∀ x ∈ a, BlOk x) ∧ (∀ x ∈ b, BlOk x) ∧ a.length ≤ 9223372036854775807 ∧ b.length ≤ 9223372036854775807) := ⟨ha, hb, oka, okb, la, lb⟩
  have HW2 : Hid ((W.alloc (.map #[] 0)).alloc (.cells #[.slice a1 a.length c1, .slice a2 b.length c2] 24) = W2) := hW2
  have HK2 : Hid (AKeep W.heap.size W.heap.size W2 W2) := AKeep.refl _ _ _
  obtain ⟨la', hla⟩ : ∃ x, a.length = x := ⟨_, rfl⟩
  obtain ⟨lb', hlb⟩ : ∃ x, b.length = x := ⟨_, rfl⟩
  rw [hla, hlb] at HR HW2 ⊢
  have HLA : Hid (a.length = la' ∧ b.length = lb') := ⟨hla, hlb⟩
  clear ha hb la lb oka okb hb1 hb2 hrow hW2 hla hlb
  go_enter Try.func9, Try.ntmps9
  go_wp2_with fail
  rw [HW2.out]
  go_loopw [19] (fun iv wr => ∃ i : Nat, i ≤ 2 ∧ iv = .int .i64 i ∧ Hid (Mo W a b i wr ∧ AKeep W.heap.size W.heap.size W2 wr)) (fun iv _ => 2 - (RowKit.intOf iv).toNat)
  case atStart => exact ⟨0, by omega, rfl, HM0.out, HK2.out⟩
  case round =>
    obtain ⟨i, hi, rfl, HM⟩ := hrel
    by_cases hlt : i < 2
    · obtain ⟨ai, ci, hcell, hIs, hok, hll⟩ : ∃ ai ci, wr.cell? ⟨W.heap.size + 1, i, none⟩ = some (.slice ai (mgL a b i).length ci) ∧ IsBl W ai (mgL a b i) ci ∧ (∀ x ∈ mgL a b i, BlOk x) ∧ (mgL a b i).length ≤ 9223372036854775807 := by
        obtain ⟨r0, r1⟩ := HR.out wr HM.out.2
        rcases (by omega : i = 0 ∨ i = 1) with rfl | rfl
        · exact ⟨a1, c1, by rw [show mgL a b 0 = a from rfl, HLA.out.1]; exact r0, HA.out.1, HA.out.2.2.1, HA.out.2.2.2.2.1⟩
        · exact ⟨a2, c2, by rw [show mgL a b 1 = b from rfl, HLA.out.2]; exact r1, HA.out.2.1, HA.out.2.2.2.1, HA.out.2.2.2.2.2⟩
      have hIs1 : IsBl wr ai (mgL a b i) ci := hIs.below (HF.out wr HM.out.1.keep)
      have HCk : Hid (Calls _ _ _ wr _) := ldCheck_any ai ci (mgL a b i) wr hll hIs1
      have i0 : (0 : Int) ≤ i := by omega
      have i1 : (i : Int) < 2 := by omega
      obtain ⟨li, hli⟩ : ∃ li, mgL a b i = li := ⟨_, rfl⟩
      have HLi : Hid (mgL a b i = li) := hli
      rw [hli] at hcell hIs hok HCk hIs1 hll
      have HIs : Hid (IsBl W ai li ci ∧ ∀ x ∈ li, BlOk x) := ⟨hIs, hok⟩
      clear hli hIs hok hIs1
      by_cases hck : chk li = 0
      · rw [hck, enE_zero] at HCk
        have hfine : Fine li := chk_zero.1 hck
        have HFi : Hid (Fine li) := hfine
        have hl200 : (li.length : Int) ≤ 200 := by have := hfine.len; omega
        clear hfine hck
        go_wp2_with (go_at_call 21; refine HCk.out.mono ?_; rintro e w' ⟨rfl, hbc⟩)
        obtain ⟨pre, hpre⟩ : ∃ pre, (if i = 0 then [] else if i = 1 then a else a ++ b) = pre := ⟨_, rfl⟩
        have HPre : Hid ((if i = 0 then [] else if i = 1 then a else a ++ b) = pre) := hpre
        have hprel : pre.length ≤ 200 := by
          rw [← hpre]
          rcases (by omega : i = 0 ∨ i = 1) with rfl | rfl
          · simp
          · exact (HM.out.1.fa (Nat.le_refl _)).len
        have HP0 : Hid ((∃ vs, PMp w' W.heap.size W.heap.size (parts (pre ++ li.take 0)) vs) ∧ AKeep W.heap.size W.heap.size wr w') := by
          obtain ⟨vs, hvs⟩ := HM.out.1.pm
          rw [hpre] at hvs
          exact ⟨⟨vs, by rw [List.take_zero, List.append_nil]; exact hvs.below hbc⟩, AKeep.of_below hbc⟩
        clear hbc HCk hpre hcell
        go_loopw [30] (fun jv wq => ∃ j : Nat, j ≤ li.length ∧ jv = .int .i64 j ∧ Hid ((∃ vs, PMp wq W.heap.size W.heap.size (parts (pre ++ li.take j)) vs) ∧ AKeep W.heap.size W.heap.size wr wq)) (fun jv _ => li.length - (RowKit.intOf jv).toNat)
        case atStart => exact ⟨0, Nat.zero_le _, rfl, HP0⟩
        case round =>
          rename World => wq
          obtain ⟨j, hj, rfl, HJ⟩ := hrel
          have j0 : (0 : Int) ≤ j := by omega
          by_cases hjl : j < li.length
          · have j1 : (j : Int) < li.length := by omega
            obtain ⟨b0, off0, rfl, hb0, hc0⟩ := HIs.out.1.some hjl
            have hBq : Below W.heap.size W wq := HF.out wq (HM.out.1.keep.trans HJ.out.2)
            have hx := (hc0 j hjl).below hBq hb0
            obtain ⟨vs, hvs⟩ := HJ.out.1
            have hokx := HIs.out.2 _ (bls_mem li j hjl)
            obtain ⟨x, hxx⟩ : ∃ x, li.getD j bl0 = x := ⟨_, rfl⟩
            have HX : Hid (li.getD j bl0 = x) := hxx
            rw [hxx] at hx hokx
            obtain ⟨V, hV⟩ : ∃ V, wq.alloc (.cells x.cells 34) = V := ⟨_, rfl⟩
            have hbV : Below wq.heap.size wq V := by rw [← hV]; exact (Below.refl _ _).alloc (Nat.le_refl _) _
            have hVh : V.heap[wq.heap.size]? = some (.cells x.cells 34 (0, 0)) := by rw [← hV]; exact ld_new_heap wq _
            have HAdd : Hid (Calls _ _ _ V _) := ldAdd_any x V _ _ _ vs (hvs.below hbV) hokx.key hokx.amt (fun p hp => by
              have := parts_zs _ p hp
              simp only [List.length_append, List.length_take] at this
              omega)
            have HNx : Hid (∀ U, (∃ vs', Hid (PMp U W.heap.size W.heap.size (addP (parts (pre ++ li.take j)) x) vs' ∧ AKeep W.heap.size W.heap.size V U)) → (∃ vs, PMp U W.heap.size W.heap.size (parts (pre ++ li.take (j + 1))) vs) ∧ AKeep W.heap.size W.heap.size wr U) := fun U ⟨vs', h⟩ => by
              refine ⟨⟨vs', ?_⟩, HJ.out.2.trans ((AKeep.of_below hbV).trans h.out.2)⟩
              rw [parts_take pre li j hjl, HX.out]
              exact h.out.1
            have HV : Hid (wq.alloc (.cells x.cells 34) = V) := hV
            clear hvs hc0 hBq hokx hxx hbV hV HX
            obtain ⟨x0, x1, x2, x3⟩ := x
            obtain ⟨d0, d1, d2, d3⟩ := hx
            simp only [Bl.cells] at d0 d1 d2 d3 HV hVh HAdd
            have f0 : V.cell? ⟨wq.heap.size, 0, none⟩ = some (.int .i64 x0) := by simp [World.cell?, hVh]
            have f1 : V.cell? ⟨wq.heap.size, 1, none⟩ = some (.string x1) := by simp [World.cell?, hVh]
            have f2 : V.cell? ⟨wq.heap.size, 2, none⟩ = some (.string x2) := by simp [World.cell?, hVh]
            have f3 : V.cell? ⟨wq.heap.size, 3, none⟩ = some (.int .i64 x3) := by simp [World.cell?, hVh]
            clear hVh
            go_wp2_with (go_at_call 22; rw [HV.out]; refine HAdd.out.mono ?_; rintro e U ⟨rfl, hU⟩)
            have HU : Hid ((∃ vs, PMp U W.heap.size W.heap.size (parts (pre ++ li.take (j + 1))) vs) ∧ AKeep W.heap.size W.heap.size wr U) := HNx.out U hU
            clear hU HNx HAdd d0 d1 d2 d3 f0 f1 f2 f3
            go_roundw
            case rel => exact ⟨j + 1, by omega, by go_num, HU⟩
            case measure => simp [RowKit.intOf]; omega
          · have j1 : ¬ (j : Int) < li.length := by omega
            obtain rfl : j = li.length := by omega
            have HN : Hid (Mo W a b (i + 1) wq ∧ AKeep W.heap.size W.heap.size W2 wq) := by
              obtain ⟨vs, hvs⟩ := HJ.out.1
              rw [List.take_length] at hvs
              refine ⟨⟨⟨vs, ?_⟩, HM.out.1.keep.trans HJ.out.2, fun _ => ?_, fun h => ?_⟩, HM.out.2.trans HJ.out.2⟩
              · rcases (by omega : i = 0 ∨ i = 1) with rfl | rfl
                · rw [← HPre.out, ← HLi.out] at hvs
                  exact hvs
                · rw [← HPre.out, ← HLi.out] at hvs
                  exact hvs
              · rcases (by omega : i = 0 ∨ i = 1) with rfl | rfl
                · have := HFi.out; rw [← HLi.out] at this; exact this
                · exact HM.out.1.fa (Nat.le_refl _)
              · have e : i = 1 := by omega
                subst e
                have := HFi.out; rw [← HLi.out] at this; exact this
            clear HJ HP0
            go_wp2_with fail
            go_roundw
            case rel => exact ⟨i + 1, by omega, by go_num, HN⟩
            case measure => simp [RowKit.intOf]; omega
      · have HE : Hid (mgE a b = chk li) := by
          unfold Hid mgE
          rcases (by omega : i = 0 ∨ i = 1) with rfl | rfl
          · rw [← HLi.out] at hck ⊢
            exact if_pos hck
          · have h0 : chk a = 0 := chk_zero.2 (HM.out.1.fa (Nat.le_refl _))
            rw [← HLi.out] at hck ⊢
            rw [if_neg (by simp [h0])]
            exact if_pos hck
        have HB : Hid (Below W.heap.size W wr) := HF.out wr HM.out.1.keep
        rw [enE_ne hck] at HCk
        obtain ⟨cc, hcc⟩ : ∃ cc, chk li = cc := ⟨_, rfl⟩
        rw [hcc] at HCk HE hck
        clear hcc
        go_wp2_with (go_at_call 21; refine HCk.out.mono ?_; rintro e w' ⟨rfl, hbc⟩)
        go_ret2
        exact ⟨HB.out.trans (hbc.mono HB.out.size), fun _ => by rw [HE.out, enE_ne hck]; rfl, fun h => absurd (HE.out.symm.trans h) hck⟩
    · obtain rfl : i = 2 := by omega
      obtain ⟨vs, hvs⟩ := HM.out.1.pm
      have hvs' : PMp wr W.heap.size W.heap.size (parts (a ++ b)) vs := hvs
      have fa := HM.out.1.fa (by omega)
      have fb := HM.out.1.fb (by omega)
      have hpl := parts_length (a ++ b)
      have la := fa.len
      have lb := fb.len
      rw [List.length_append] at hpl
      have HTg : Hid (Calls _ _ _ wr _) := ldTogether_any wr _ _ _ vs hvs' (fun p hp => by
        have := parts_zs _ p hp
        simp only [List.length_append] at this
        omega) (by omega)
      have ht := tgE_two fa fb
      have hk1 : chk a = 0 := chk_zero.2 fa
      have hk2 : chk b = 0 := chk_zero.2 fb
      have HB : Hid (Below W.heap.size W wr) := HF.out wr HM.out.1.keep
      by_cases h200 : 200 < (parts (a ++ b)).length
      · rw [if_pos h200] at ht
        have HE : Hid (mgE a b = 4) := by
          unfold Hid mgE
          rw [if_neg (by simp [hk1]), if_neg (by simp [hk2]), if_pos h200]
        have HT2 : Hid (Calls Try.prog 23 #[.map (some W.heap.size)] wr fun e w' => e = .returned (.tuple #[.slice none 0 0, .iface 58 (.int .i64 4)]) ∧ Below wr.heap.size wr w') := HTg.out.mono (fun e w' ⟨h1, h2, _⟩ => ⟨by rw [h2 (by rw [ht]; decide), ht]; rfl, h1⟩)
        clear HTg hvs hvs' hpl la lb ht hk1 hk2 HM fa fb
        go_wp2_with (go_at_call 23; refine HT2.out.mono ?_; rintro e w' ⟨rfl, hbc⟩)
        go_ret2
        exact ⟨HB.out.trans (hbc.mono HB.out.size), fun _ => by rw [HE.out]; rfl, fun h => by rw [HE.out] at h; cases h⟩
      · rw [if_neg h200] at ht
        have hok2 : ∀ x ∈ a ++ b, BlOk x := fun x hx => by
          rcases List.mem_append.1 hx with hx | hx
          · exact HA.out.2.2.1 x hx
          · exact HA.out.2.2.2.1 x hx
        have HT2 : Hid (Calls Try.prog 23 #[.map (some W.heap.size)] wr fun e w' => ∃ sa sc R, e = .returned (.tuple #[.slice sa R.length sc, .nilIface]) ∧ Hid (Below W.heap.size W w' ∧ BlRow w' W.heap.size (.slice sa R.length sc) R ∧ MgR a b R ∧ (R.any tooB = true → mgE a b = 10) ∧ (R.any tooB = false → mgE a b = 0))) := by
          refine HTg.out.mono ?_
          rintro e w' ⟨h1, _, h3⟩
          obtain ⟨v, R, rfl, h4⟩ := h3 ht
          obtain ⟨h5, h6, h7⟩ := h4.out
          have hBw : Below W.heap.size W w' := HB.out.trans (h1.mono HB.out.size)
          have h8 : BlRow w' W.heap.size v R := by
            rcases h5.2 with ⟨hv, hn⟩ | ⟨g1, c1, cur, hv, hb1, r⟩
            · exact ⟨h5.1, .inl ⟨hv, hn⟩⟩
            · exact ⟨h5.1, .inr ⟨g1, c1, cur, hv, Nat.le_trans HB.out.size hb1, r⟩⟩
          obtain ⟨sa, sc, rfl, _⟩ := h8.isBl
          refine ⟨sa, sc, R, rfl, hBw, h8, ⟨sums_of_perm h6 h7, Nat.le_trans (len_of_perm h7) (by omega), ok_of_perm h7 hok2 (two_fit fa fb)⟩, fun h => ?_, fun h => ?_⟩
          · have := (any_too h7).1 h
            unfold mgE
            rw [if_neg (by simp [hk1]), if_neg (by simp [hk2]), if_neg h200, if_neg this]
          · have : ¬ R.any tooB = true := by rw [h]; simp
            unfold mgE
            rw [if_neg (by simp [hk1]), if_neg (by simp [hk2]), if_neg h200, if_pos]
            false_or_by_contra
            rename_i h9
            exact this ((any_too h7).2 h9)
        clear HTg hvs hvs' hpl la lb ht hk1 hk2 HM fa fb hok2 HB
        go_wp2_with (go_at_call 23; refine HT2.out.mono ?_; rintro e w' ⟨sa, sc, R, rfl, hR⟩)
        have HCf : Hid (Calls _ _ _ w' _) := blContains_any 24 tooB sa sc R w' merge1_tells (by have := hR.out.2.2.1.len; omega) (by
          obtain ⟨_, _, e, h⟩ := hR.out.2.1.isBl
          cases e
          exact h)
        cases hq : R.any tooB
        · rw [hq] at HCf
          have HE : Hid (mgE a b = 0) := hR.out.2.2.2.2 hq
          clear hq
          go_wp2_with (go_at_call 13; refine HCf.out.mono ?_; rintro e w9 ⟨rfl, hb9⟩)
          go_ret2
          exact ⟨hR.out.1.trans (hb9.mono hR.out.1.size), fun h => absurd HE.out h, fun _ => ⟨_, R, rfl, hR.out.2.1.below hb9, hR.out.2.2.1⟩⟩
        · rw [hq] at HCf
          have HE : Hid (mgE a b = 10) := hR.out.2.2.2.1 hq
          clear hq
          go_wp2_with (go_at_call 13; refine HCf.out.mono ?_; rintro e w9 ⟨rfl, hb9⟩)
          go_ret2
          exact ⟨hR.out.1.trans (hb9.mono hR.out.1.size), fun _ => by rw [HE.out]; rfl, fun h => by rw [HE.out] at h; cases h⟩
end Go.Proofs.Ytmelleimijenfaa

namespace Go.Proofs.Ytmelleimijenfaa
set_option linter.unusedVariables false
set_option linter.unusedSimpArgs false
set_option maxRecDepth 100000
open Go.RowKit Go.Lib
theorem merge_ok (a1 a2 : Option Addr) (c1 c2 : Nat) (a b : List Bl) (W : World) (ha : IsBl W a1 a c1) (hb : IsBl W a2 b c2) (oka : ∀ x ∈ a, BlOk x) (okb : ∀ x ∈ b, BlOk x) (h0 : mgE a b = 0) :
    Calls Try.prog 9 #[.slice a1 a.length c1, .slice a2 b.length c2] W fun e w' => ∃ sa sc R, e = .returned (.tuple #[.slice sa R.length sc, .nilIface]) ∧ Hid (Below W.heap.size W w' ∧ IsBl w' sa R sc ∧ MgR a b R) := by
  obtain ⟨fa, fb, _⟩ := mgE_zero.1 h0
  refine (merge_any a1 a2 c1 c2 a b W ha hb (by have := fa.len; omega) (by have := fb.len; omega) oka okb).mono ?_
  rintro e w' ⟨h1, _, h3⟩
  obtain ⟨v, R, rfl, h4⟩ := h3 h0
  obtain ⟨sa, sc, rfl, hI⟩ := h4.out.1.isBl
  exact ⟨sa, sc, R, rfl, h1, hI, h4.out.2⟩
theorem merge_bad (a1 a2 : Option Addr) (c1 c2 : Nat) (a b : List Bl) (W : World) (ha : IsBl W a1 a c1) (hb : IsBl W a2 b c2) (la : a.length ≤ 9223372036854775807) (lb : b.length ≤ 9223372036854775807) (oka : ∀ x ∈ a, BlOk x) (okb : ∀ x ∈ b, BlOk x) (h0 : mgE a b ≠ 0) :
    Calls Try.prog 9 #[.slice a1 a.length c1, .slice a2 b.length c2] W fun e w' => e = .returned (.tuple #[.slice none 0 0, .iface 58 (.int .i64 (mgE a b))]) ∧ Below W.heap.size W w' :=
  (merge_any a1 a2 c1 c2 a b W ha hb la lb oka okb).mono fun e w' ⟨h1, h2, _⟩ => ⟨by rw [h2 h0, enE_ne h0], h1⟩
theorem isBl_new {W : World} {b : Nat} {x : Bl} (h : W.heap[b]? = some (.cells x.cells 34 (0, 0))) : IsBl W (some ⟨b, 0, none⟩) [x] 1 := by
  refine ⟨Nat.le_refl _, .inr ⟨b, 0, rfl, (Array.getElem?_eq_some_iff.1 h).1, fun k hk => ?_⟩⟩
  have e : k = 0 := by simp at hk; omega
  subst e
  simp only [List.getD_cons_zero]
  exact ⟨by simp [World.cell?, h, Bl.cells], by simp [World.cell?, h, Bl.cells], by simp [World.cell?, h, Bl.cells], by simp [World.cell?, h, Bl.cells]⟩
theorem isBl_none (W : World) (a : Option Addr) (c : Nat) : IsBl W a [] c := ⟨Nat.zero_le _, .inl rfl⟩

theorem mg_comm {a b : List Bl} (h : mgE a b = 0) : mgE b a = 0 := by
  obtain ⟨fa, fb, h1, h2⟩ := mgE_zero.1 h
  refine mgE_zero.2 ⟨fb, fa, ?_, fun x hx => ?_⟩
  · rw [parts_count (l := b ++ a) (m := a ++ b) (fun k => by simp only [List.mem_append, or_comm])]
    exact h1
  · have := h2 x (by simp only [List.mem_append] at hx ⊢; exact hx.symm)
    rw [ltot_append] at this ⊢
    omega
theorem mg_comm_eq {a b R S : List Bl} (h : MgR a b R) (k : MgR b a S) : R = S := h.sums.uniq k.sums (fun q => by rw [ltot_append, ltot_append]; omega)
theorem mg_nil {a : List Bl} (h : Fine a) : mgE a [] = 0 := by
  refine mgE_zero.2 ⟨h, ⟨by simp, .nil, by simp, by simp⟩, ?_, fun x hx => ?_⟩
  · have := parts_length (a ++ [])
    have := h.len
    simp at *
    omega
  · rw [List.append_nil]; exact ltot_abs h x.key
theorem mg_nil_eq {a R : List Bl} (h : Fine a) (k : MgR a [] R) : R = a := k.sums.uniq h.sums (fun q => by rw [List.append_nil])
/-- A balance's contrary. -/
def Bl.neg (x : Bl) : Bl := ⟨x.ent, x.acc, x.cur, -x.amt⟩
def negL (l : List Bl) : List Bl := l.map Bl.neg
theorem negL_length (l : List Bl) : (negL l).length = l.length := by simp [negL]
theorem neg_fine {l : List Bl} (h : Fine l) : Fine (negL l) := by
  refine ⟨by rw [negL_length]; exact h.len, ?_, fun x hx => ?_, fun x hx => ?_⟩
  · unfold Rises negL
    rw [List.pairwise_map]
    exact h.rises
  · obtain ⟨y, hy, rfl⟩ := List.mem_map.1 hx
    have := h.amt y hy
    unfold Bl.neg
    simp only
    omega
  · obtain ⟨y, hy, rfl⟩ := List.mem_map.1 hx
    have := h.ne y hy
    unfold Bl.neg
    simp only
    omega
theorem neg_ok {l : List Bl} (h : Fine l) (hok : ∀ x ∈ l, BlOk x) : ∀ x ∈ negL l, BlOk x := fun x hx => by
  obtain ⟨y, hy, rfl⟩ := List.mem_map.1 hx
  have := h.amt y hy
  exact ⟨(hok y hy).key, by unfold Bl.neg; simp only; omega⟩
theorem neg_tot (k : Pk) : ∀ l : List Bl, ltot k (negL l) = - ltot k l
  | [] => rfl
  | x :: l => by
    have ih := neg_tot k l
    unfold negL at ih ⊢
    rw [List.map_cons, ltot, ltot, ih]
    have e : x.neg.key = x.key := rfl
    rw [e]
    split
    · unfold Bl.neg; simp only; omega
    · omega
theorem mg_neg {a : List Bl} (h : Fine a) : mgE a (negL a) = 0 := by
  refine mgE_zero.2 ⟨h, neg_fine h, ?_, fun x hx => ?_⟩
  · have e := parts_count (l := a ++ negL a) (m := a) (fun k => by
      constructor
      · rintro ⟨x, hx, rfl⟩
        rcases List.mem_append.1 hx with hx | hx
        · exact ⟨x, hx, rfl⟩
        · obtain ⟨y, hy, rfl⟩ := List.mem_map.1 hx
          exact ⟨y, hy, rfl⟩
      · rintro ⟨x, hx, rfl⟩
        exact ⟨x, List.mem_append_left _ hx, rfl⟩)
    rw [e]
    exact Nat.le_trans (parts_length a) h.len
  · rw [ltot_append, neg_tot]; omega
theorem mg_neg_eq {a R : List Bl} (k : MgR a (negL a) R) : R = [] := by
  have h : Sums [] [] := ⟨.nil, by simp, fun _ => rfl⟩
  exact k.sums.uniq h (fun q => by rw [ltot_append, neg_tot]; simp [ltot]; omega)
theorem mg_assoc {a b c x q p r : List Bl} (hx : MgR a b x) (hp : MgR x c p) (hq : MgR b c q) (hr : MgR a q r) : p = r :=
  hp.sums.uniq hr.sums (fun k => by
    rw [ltot_append, ltot_append, hx.sums.ltot, hq.sums.ltot, ltot_append, ltot_append]
    omega)
/-- The law's own two. -/
def lo2 (n : Int) : Bl := ⟨1, ⟨#[49]⟩, ⟨#[69, 85, 82]⟩, n⟩
theorem lo_fine (n : Int) (h : 1 ≤ n ∧ n ≤ 5) : Fine [lo2 n] := ⟨by simp, List.pairwise_singleton _ _, by simp [lo2]; omega, by simp [lo2]; omega⟩
theorem lo_ok (n : Int) (h : 1 ≤ n ∧ n ≤ 5) : ∀ x ∈ [lo2 n], BlOk x := fun x hx => by
  rw [List.mem_singleton.1 hx]
  exact ⟨⟨by show (-9223372036854775808 : Int) ≤ 1 ∧ (1 : Int) ≤ 9223372036854775807; decide, by show ByteArray.size ⟨#[49]⟩ ≤ maxLen; decide, by show ByteArray.size ⟨#[69, 85, 82]⟩ ≤ maxLen; decide⟩, by simp [lo2]; omega⟩
theorem lo_tot (k : Pk) : ltot k ([lo2 2] ++ [lo2 3]) = ltot k [lo2 5] := by
  have e : ∀ n m, (lo2 n).key = (lo2 m).key := fun _ _ => rfl
  simp only [List.cons_append, List.nil_append, ltot]
  rw [e 2 5, e 3 5]
  split <;> simp [lo2]
theorem lo_mg : mgE [lo2 2] [lo2 3] = 0 := by
  refine mgE_zero.2 ⟨lo_fine 2 (by omega), lo_fine 3 (by omega), ?_, fun x hx => ?_⟩
  · have := parts_length ([lo2 2] ++ [lo2 3])
    simp at *
    omega
  · rw [lo_tot]; exact ltot_abs (lo_fine 5 (by omega)) _
theorem lo_eq {R : List Bl} (h : MgR [lo2 2] [lo2 3] R) : R = [lo2 5] := h.sums.uniq (lo_fine 5 (by omega)).sums lo_tot
theorem negL_take (l : List Bl) (k : Nat) (h : k < l.length) : negL (l.take (k + 1)) = negL (l.take k) ++ [(l.getD k bl0).neg] := by
  rw [bls_take l k h]
  simp [negL]
end Go.Proofs.Ytmelleimijenfaa
