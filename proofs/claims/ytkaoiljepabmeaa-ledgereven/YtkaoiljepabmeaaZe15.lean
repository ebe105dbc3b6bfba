/-
  The contracts of ledger.checkEntries and ledger.ofEntries.
-/
import Derived.Test.YtkaoiljepabmeaaZe14
namespace Go.Proofs.Ytkaoiljepabmeaa
set_option linter.unusedVariables false
set_option linter.unusedSimpArgs false
set_option maxRecDepth 100000
open Go.RowKit Go.Lib
theorem PMp.new (W : World) (n : Nat) (hn : n ≤ W.heap.size) (vs : Nat → Value) : PMp (W.alloc (.map #[] 0)) n W.heap.size [] vs :=
  ⟨ld_new_heap W _, hn, fun p hp => by simp at hp, by simp, fun i hi => by simp at hi, fun i j hi => by simp at hi, fun p hp => by simp at hp⟩
/-- A list of two. -/
def mgL (a b : List Bl) (i : Nat) : List Bl := if i = 0 then a else b
/-- What the outer loop keeps: so many lists are in. -/
structure Mo (W : World) (a b : List Bl) (i : Nat) (U : World) : Prop where
  pm : ∃ vs, PMp U W.heap.size W.heap.size (parts (if i = 0 then [] else if i = 1 then a else a ++ b)) vs
  keep : AKeep W.heap.size W.heap.size (W.alloc (.map #[] 0)) U
  fa : 1 ≤ i → Fine a
  fb : 2 ≤ i → Fine b
theorem parts_take (l m : List Bl) (k : Nat) (h : k < m.length) : parts (l ++ m.take (k + 1)) = addP (parts (l ++ m.take k)) (m.getD k bl0) := by
  rw [bls_take m k h, ← List.append_assoc, parts_snoc]
theorem AKeep.isBl {n mb : Nat} {V W : World} {a : Option Addr} {l : List Bl} {cap : Nat} (h : IsBl V a l cap) (hk : AKeep n mb V W) (hm : ∀ b off, a = some ⟨b, off, none⟩ → b < n ∧ b ≠ mb) : IsBl W a l cap := by
  refine ⟨h.cap, ?_⟩
  rcases h.lies with e | ⟨b, off, e, hlt, hc⟩
  · exact .inl e
  · refine .inr ⟨b, off, e, Nat.lt_of_lt_of_le hlt hk.size, fun k hk2 => ?_⟩
    obtain ⟨h1, h2⟩ := hm b off e
    have hb := hk.block b hlt h2 (.inl h1)
    have hcell : ∀ o, W.cell? ⟨b, o, none⟩ = V.cell? ⟨b, o, none⟩ := fun o => by simp only [World.cell?, hb]
    have := hc k hk2
    exact ⟨(hcell _).trans this.c0, (hcell _).trans this.c1, (hcell _).trans this.c2, (hcell _).trans this.c3⟩

set_option maxHeartbeats 8000000 in
theorem merge_any (a1 a2 : Option Addr) (c1 c2 : Nat) (a b : List Bl) (W : World) (ha : IsBl W a1 a c1) (hb : IsBl W a2 b c2) (la : a.length ≤ 9223372036854775807) (lb : b.length ≤ 9223372036854775807) (oka : ∀ x ∈ a, BlOk x) (okb : ∀ x ∈ b, BlOk x) :
    Calls Try.prog 8 #[.slice a1 a.length c1, .slice a2 b.length c2] W fun e w' => Below W.heap.size W w' ∧ (mgE a b ≠ 0 → e = .returned (.tuple #[.slice none 0 0, enE (mgE a b)])) ∧ (mgE a b = 0 → ∃ v R, e = .returned (.tuple #[v, .nilIface]) ∧ Hid (BlRow w' W.heap.size v R ∧ MgR a b R)) := by
  have hmm := @run_makeMap Try.prog
  obtain ⟨W2, hW2⟩ : ∃ W2, (W.alloc (.map #[] 0)).alloc (.cells #[.slice a1 a.length c1, .slice a2 b.length c2] 24) = W2 := ⟨_, rfl⟩
  have hb1 : Below W.heap.size W (W.alloc (.map #[] 0)) := (Below.refl _ W).alloc (Nat.le_refl _) _
  have hb2 : Below (W.alloc (.map #[] 0)).heap.size (W.alloc (.map #[] 0)) W2 := by rw [← hW2]; exact (Below.refl _ _).alloc (Nat.le_refl _) _
  have hrow : W2.heap[W.heap.size + 1]? = some (.cells #[.slice a1 a.length c1, .slice a2 b.length c2] 24 (0, 0)) := by
    rw [← hW2]
    have := ld_new_heap (W.alloc (.map #[] 0)) (.cells #[.slice a1 a.length c1, .slice a2 b.length c2] 24)
    simpa using this
  have HM0 : Hid (Mo W a b 0 W2) := ⟨⟨fun _ => .slice none 0 0, (PMp.new W _ (Nat.le_refl _) _).below hb2⟩, AKeep.of_below hb2, fun h => by omega, fun h => by omega⟩
  have HF : Hid (∀ U, AKeep W.heap.size W.heap.size (W.alloc (.map #[] 0)) U → Below W.heap.size W U) := fun U hk => hb1.trans (hk.below (Nat.le_refl _) (by simp))
  have HR : Hid (∀ U, AKeep W.heap.size W.heap.size W2 U → U.cell? ⟨W.heap.size + 1, 0, none⟩ = some (.slice a1 a.length c1) ∧ U.cell? ⟨W.heap.size + 1, 1, none⟩ = some (.slice a2 b.length c2)) := fun U hk => by
    have e := (hk.block (W.heap.size + 1) (Array.getElem?_eq_some_iff.1 hrow).1 (by omega) (.inr (fun cs e => by rw [hrow] at e; simp only [Option.some.injEq, Obj.cells.injEq] at e; exact absurd e.2.1 (by decide)))).trans hrow
    simp [World.cell?, e]
  have HA : Hid (IsBl W a1 a c1 ∧ IsBl W a2 b c2 ∧ (∀ x ∈ a, BlOk x) ∧ (∀ x ∈ b, BlOk x) ∧ a.length ≤ 9223372036854775807 ∧ b.length ≤ 9223372036854775807) := ⟨ha, hb, oka, okb, la, lb⟩
  have HW2 : Hid ((W.alloc (.map #[] 0)).alloc (.cells #[.slice a1 a.length c1, .slice a2 b.length c2] 24) = W2) := hW2
  have HK2 : Hid (AKeep W.heap.size W.heap.size W2 W2) := AKeep.refl _ _ _
  obtain ⟨la', hla⟩ : ∃ x, a.length = x := ⟨_, rfl⟩
  obtain ⟨lb', hlb⟩ : ∃ x, b.length = x := ⟨_, rfl⟩
  rw [hla, hlb] at HR HW2 ⊢
  have HLA : Hid (a.length = la' ∧ b.length = lb') := ⟨hla, hlb⟩
  clear ha hb la lb oka okb hb1 hb2 hrow hW2 hla hlb
  go_enter Try.func8, Try.ntmps8
  go_wp2_with fail
  rw [HW2.out]
  go_loopw [19] (fun iv wr => ∃ i : Nat, i ≤ 2 ∧ iv = .int .i64 i ∧ Hid (Mo W a b i wr ∧ AKeep W.heap.size W.heap.size W2 wr)) (fun iv _ => 2 - (intOf iv).toNat)
  case atStart => exact ⟨0, by omega, rfl, HM0.out, HK2.out⟩
  case round =>
    obtain ⟨i, hi, rfl, HM⟩ := hrel
    by_cases hlt : i < 2
    · obtain ⟨ai, ci, hcell, hIs, hok, hll⟩ : ∃ ai ci, wr.cell? ⟨W.heap.size + 1, i, none⟩ = some (.slice ai (mgL a b i).length ci) ∧ IsBl W ai (mgL a b i) ci ∧ (∀ x ∈ mgL a b i, BlOk x) ∧ (mgL a b i).length ≤ 9223372036854775807 := by
        obtain ⟨r0, r1⟩ := HR.out wr HM.out.2
        rcases (by omega : i = 0 ∨ i = 1) with rfl | rfl
        · exact ⟨a1, c1, by rw [show mgL a b 0 = a from rfl, HLA.out.1]; exact r0, HA.out.1, HA.out.2.2.1, HA.out.2.2.2.2.1⟩
        · exact ⟨a2, c2, by rw [show mgL a b 1 = b from rfl, HLA.out.2]; exact r1, HA.out.2.1, HA.out.2.2.2.1, HA.out.2.2.2.2.2⟩
      have hIs1 : IsBl wr ai (mgL a b i) ci := hIs.below (HF.out wr HM.out.1.keep)
      have HCk : Hid (Calls _ _ _ wr _) := ldCheck_any ai ci (mgL a b i) wr hll hIs1
      have i0 : (0 : Int) ≤ i := by omega
      have i1 : (i : Int) < 2 := by omega
      obtain ⟨li, hli⟩ : ∃ li, mgL a b i = li := ⟨_, rfl⟩
      have HLi : Hid (mgL a b i = li) := hli
      rw [hli] at hcell hIs hok HCk hIs1 hll
      have HIs : Hid (IsBl W ai li ci ∧ ∀ x ∈ li, BlOk x) := ⟨hIs, hok⟩
      clear hli hIs hok hIs1
      by_cases hck : chk li = 0
      · rw [hck, enE_zero] at HCk
        have hfine : Fine li := chk_zero.1 hck
        have HFi : Hid (Fine li) := hfine
        have hl200 : (li.length : Int) ≤ 200 := by have := hfine.len; omega
        clear hfine hck
        go_wp2_with (go_at_call 21; refine HCk.out.mono ?_; rintro e w' ⟨rfl, hbc⟩)
        obtain ⟨pre, hpre⟩ : ∃ pre, (if i = 0 then [] else if i = 1 then a else a ++ b) = pre := ⟨_, rfl⟩
        have HPre : Hid ((if i = 0 then [] else if i = 1 then a else a ++ b) = pre) := hpre
        have hprel : pre.length ≤ 200 := by
          rw [← hpre]
          rcases (by omega : i = 0 ∨ i = 1) with rfl | rfl
          · simp
          · exact (HM.out.1.fa (Nat.le_refl _)).len
        have HP0 : Hid ((∃ vs, PMp w' W.heap.size W.heap.size (parts (pre ++ li.take 0)) vs) ∧ AKeep W.heap.size W.heap.size wr w') := by
          obtain ⟨vs, hvs⟩ := HM.out.1.pm
          rw [hpre] at hvs
          exact ⟨⟨vs, by rw [List.take_zero, List.append_nil]; exact hvs.below hbc⟩, AKeep.of_below hbc⟩
        clear hbc HCk hpre hcell
        go_loopw [30] (fun jv wq => ∃ j : Nat, j ≤ li.length ∧ jv = .int .i64 j ∧ Hid ((∃ vs, PMp wq W.heap.size W.heap.size (parts (pre ++ li.take j)) vs) ∧ AKeep W.heap.size W.heap.size wr wq)) (fun jv _ => li.length - (intOf jv).toNat)
        case atStart => exact ⟨0, Nat.zero_le _, rfl, HP0⟩
        case round =>
          rename World => wq
          obtain ⟨j, hj, rfl, HJ⟩ := hrel
          have j0 : (0 : Int) ≤ j := by omega
          by_cases hjl : j < li.length
          · have j1 : (j : Int) < li.length := by omega
            obtain ⟨b0, off0, rfl, hb0, hc0⟩ := HIs.out.1.some hjl
            have hBq : Below W.heap.size W wq := HF.out wq (HM.out.1.keep.trans HJ.out.2)
            have hx := (hc0 j hjl).below hBq hb0
            obtain ⟨vs, hvs⟩ := HJ.out.1
            have hokx := HIs.out.2 _ (bls_mem li j hjl)
            obtain ⟨x, hxx⟩ : ∃ x, li.getD j bl0 = x := ⟨_, rfl⟩
            have HX : Hid (li.getD j bl0 = x) := hxx
            rw [hxx] at hx hokx
            obtain ⟨V, hV⟩ : ∃ V, wq.alloc (.cells x.cells 34) = V := ⟨_, rfl⟩
            have hbV : Below wq.heap.size wq V := by rw [← hV]; exact (Below.refl _ _).alloc (Nat.le_refl _) _
            have hVh : V.heap[wq.heap.size]? = some (.cells x.cells 34 (0, 0)) := by rw [← hV]; exact ld_new_heap wq _
            have HAdd : Hid (Calls _ _ _ V _) := ldAdd_any x V _ _ _ vs (hvs.below hbV) hokx.key hokx.amt (fun p hp => by
              have := parts_zs _ p hp
              simp only [List.length_append, List.length_take] at this
              omega)
            have HNx : Hid (∀ U, (∃ vs', Hid (PMp U W.heap.size W.heap.size (addP (parts (pre ++ li.take j)) x) vs' ∧ AKeep W.heap.size W.heap.size V U)) → (∃ vs, PMp U W.heap.size W.heap.size (parts (pre ++ li.take (j + 1))) vs) ∧ AKeep W.heap.size W.heap.size wr U) := fun U ⟨vs', h⟩ => by
              refine ⟨⟨vs', ?_⟩, HJ.out.2.trans ((AKeep.of_below hbV).trans h.out.2)⟩
              rw [parts_take pre li j hjl, HX.out]
              exact h.out.1
            have HV : Hid (wq.alloc (.cells x.cells 34) = V) := hV
            clear hvs hc0 hBq hokx hxx hbV hV HX
            obtain ⟨x0, x1, x2, x3⟩ := x
            obtain ⟨d0, d1, d2, d3⟩ := hx
            simp only [Bl.cells] at d0 d1 d2 d3 HV hVh HAdd
            have f0 : V.cell? ⟨wq.heap.size, 0, none⟩ = some (.int .i64 x0) := by simp [World.cell?, hVh]
            have f1 : V.cell? ⟨wq.heap.size, 1, none⟩ = some (.string x1) := by simp [World.cell?, hVh]
            have f2 : V.cell? ⟨wq.heap.size, 2, none⟩ = some (.string x2) := by simp [World.cell?, hVh]
            have f3 : V.cell? ⟨wq.heap.size, 3, none⟩ = some (.int .i64 x3) := by simp [World.cell?, hVh]
            clear hVh
            go_wp2_with (go_at_call 22; rw [HV.out]; refine HAdd.out.mono ?_; rintro e U ⟨rfl, hU⟩)
            have HU : Hid ((∃ vs, PMp U W.heap.size W.heap.size (parts (pre ++ li.take (j + 1))) vs) ∧ AKeep W.heap.size W.heap.size wr U) := HNx.out U hU
            clear hU HNx HAdd d0 d1 d2 d3 f0 f1 f2 f3
            go_roundw
            case rel => exact ⟨j + 1, by omega, by go_num, HU⟩
            case measure => simp [intOf]; omega
          · have j1 : ¬ (j : Int) < li.length := by omega
            obtain rfl : j = li.length := by omega
            have HN : Hid (Mo W a b (i + 1) wq ∧ AKeep W.heap.size W.heap.size W2 wq) := by
              obtain ⟨vs, hvs⟩ := HJ.out.1
              rw [List.take_length] at hvs
              refine ⟨⟨⟨vs, ?_⟩, HM.out.1.keep.trans HJ.out.2, fun _ => ?_, fun h => ?_⟩, HM.out.2.trans HJ.out.2⟩
              · rcases (by omega : i = 0 ∨ i = 1) with rfl | rfl
                · rw [← HPre.out, ← HLi.out] at hvs
                  exact hvs
                · rw [← HPre.out, ← HLi.out] at hvs
                  exact hvs
              · rcases (by omega : i = 0 ∨ i = 1) with rfl | rfl
                · have := HFi.out; rw [← HLi.out] at this; exact this
                · exact HM.out.1.fa (Nat.le_refl _)
              · have e : i = 1 := by omega
                subst e
                have := HFi.out; rw [← HLi.out] at this; exact this
            clear HJ HP0
            go_wp2_with fail
            go_roundw
            case rel => exact ⟨i + 1, by omega, by go_num, HN⟩
            case measure => simp [intOf]; omega
      · have HE : Hid (mgE a b = chk li) := by
          unfold Hid mgE
          rcases (by omega : i = 0 ∨ i = 1) with rfl | rfl
          · rw [← HLi.out] at hck ⊢
            exact if_pos hck
          · have h0 : chk a = 0 := chk_zero.2 (HM.out.1.fa (Nat.le_refl _))
            rw [← HLi.out] at hck ⊢
            rw [if_neg (by simp [h0])]
            exact if_pos hck
        have HB : Hid (Below W.heap.size W wr) := HF.out wr HM.out.1.keep
        rw [enE_ne hck] at HCk
        obtain ⟨cc, hcc⟩ : ∃ cc, chk li = cc := ⟨_, rfl⟩
        rw [hcc] at HCk HE hck
        clear hcc
        go_wp2_with (go_at_call 21; refine HCk.out.mono ?_; rintro e w' ⟨rfl, hbc⟩)
        go_ret2
        exact ⟨HB.out.trans (hbc.mono HB.out.size), fun _ => by rw [HE.out, enE_ne hck]; rfl, fun h => absurd (HE.out.symm.trans h) hck⟩
    · obtain rfl : i = 2 := by omega
      obtain ⟨vs, hvs⟩ := HM.out.1.pm
      have hvs' : PMp wr W.heap.size W.heap.size (parts (a ++ b)) vs := hvs
      have fa := HM.out.1.fa (by omega)
      have fb := HM.out.1.fb (by omega)
      have hpl := parts_length (a ++ b)
      have la := fa.len
      have lb := fb.len
      rw [List.length_append] at hpl
      have HTg : Hid (Calls _ _ _ wr _) := ldTogether_any wr _ _ _ vs hvs' (fun p hp => by
        have := parts_zs _ p hp
        simp only [List.length_append] at this
        omega) (by omega)
      have ht := tgE_two fa fb
      have hk1 : chk a = 0 := chk_zero.2 fa
      have hk2 : chk b = 0 := chk_zero.2 fb
      have HB : Hid (Below W.heap.size W wr) := HF.out wr HM.out.1.keep
      by_cases h200 : 200 < (parts (a ++ b)).length
      · rw [if_pos h200] at ht
        have HE : Hid (mgE a b = 4) := by
          unfold Hid mgE
          rw [if_neg (by simp [hk1]), if_neg (by simp [hk2]), if_pos h200]
        have HT2 : Hid (Calls Try.prog 23 #[.map (some W.heap.size)] wr fun e w' => e = .returned (.tuple #[.slice none 0 0, .iface 58 (.int .i64 4)]) ∧ Below wr.heap.size wr w') := HTg.out.mono (fun e w' ⟨h1, h2, _⟩ => ⟨by rw [h2 (by rw [ht]; decide), ht]; rfl, h1⟩)
        clear HTg hvs hvs' hpl la lb ht hk1 hk2 HM fa fb
        go_wp2_with (go_at_call 23; refine HT2.out.mono ?_; rintro e w' ⟨rfl, hbc⟩)
        go_ret2
        exact ⟨HB.out.trans (hbc.mono HB.out.size), fun _ => by rw [HE.out]; rfl, fun h => by rw [HE.out] at h; cases h⟩
      · rw [if_neg h200] at ht
        have hok2 : ∀ x ∈ a ++ b, BlOk x := fun x hx => by
          rcases List.mem_append.1 hx with hx | hx
          · exact HA.out.2.2.1 x hx
          · exact HA.out.2.2.2.1 x hx
        have HT2 : Hid (Calls Try.prog 23 #[.map (some W.heap.size)] wr fun e w' => ∃ sa sc R, e = .returned (.tuple #[.slice sa R.length sc, .nilIface]) ∧ Hid (Below W.heap.size W w' ∧ BlRow w' W.heap.size (.slice sa R.length sc) R ∧ MgR a b R ∧ (R.any tooB = true → mgE a b = 10) ∧ (R.any tooB = false → mgE a b = 0))) := by
          refine HTg.out.mono ?_
          rintro e w' ⟨h1, _, h3⟩
          obtain ⟨v, R, rfl, h4⟩ := h3 ht
          obtain ⟨h5, h6, h7⟩ := h4.out
          have hBw : Below W.heap.size W w' := HB.out.trans (h1.mono HB.out.size)
          have h8 : BlRow w' W.heap.size v R := by
            rcases h5.2 with ⟨hv, hn⟩ | ⟨g1, c1, cur, hv, hb1, r⟩
            · exact ⟨h5.1, .inl ⟨hv, hn⟩⟩
            · exact ⟨h5.1, .inr ⟨g1, c1, cur, hv, Nat.le_trans HB.out.size hb1, r⟩⟩
          obtain ⟨sa, sc, rfl, _⟩ := h8.isBl
          refine ⟨sa, sc, R, rfl, hBw, h8, ⟨sums_of_perm h6 h7, Nat.le_trans (len_of_perm h7) (by omega), ok_of_perm h7 hok2 (two_fit fa fb)⟩, fun h => ?_, fun h => ?_⟩
          · have := (any_too h7).1 h
            unfold mgE
            rw [if_neg (by simp [hk1]), if_neg (by simp [hk2]), if_neg h200, if_neg this]
          · have : ¬ R.any tooB = true := by rw [h]; simp
            unfold mgE
            rw [if_neg (by simp [hk1]), if_neg (by simp [hk2]), if_neg h200, if_pos]
            false_or_by_contra
            rename_i h9
            exact this ((any_too h7).2 h9)
        clear HTg hvs hvs' hpl la lb ht hk1 hk2 HM fa fb hok2 HB
        go_wp2_with (go_at_call 23; refine HT2.out.mono ?_; rintro e w' ⟨sa, sc, R, rfl, hR⟩)
        have HCf : Hid (Calls _ _ _ w' _) := blContains_any 25 tooB sa sc R w' merge1_tells (by have := hR.out.2.2.1.len; omega) (by
          obtain ⟨_, _, e, h⟩ := hR.out.2.1.isBl
          cases e
          exact h)
        cases hq : R.any tooB
        · rw [hq] at HCf
          have HE : Hid (mgE a b = 0) := hR.out.2.2.2.2 hq
          clear hq
          go_wp2_with (go_at_call 24; refine HCf.out.mono ?_; rintro e w9 ⟨rfl, hb9⟩)
          go_ret2
          exact ⟨hR.out.1.trans (hb9.mono hR.out.1.size), fun h => absurd HE.out h, fun _ => ⟨_, R, rfl, hR.out.2.1.below hb9, hR.out.2.2.1⟩⟩
        · rw [hq] at HCf
          have HE : Hid (mgE a b = 10) := hR.out.2.2.2.1 hq
          clear hq
          go_wp2_with (go_at_call 24; refine HCf.out.mono ?_; rintro e w9 ⟨rfl, hb9⟩)
          go_ret2
          exact ⟨hR.out.1.trans (hb9.mono hR.out.1.size), fun _ => by rw [HE.out]; rfl, fun h => by rw [HE.out] at h; cases h⟩
end Go.Proofs.Ytkaoiljepabmeaa

namespace Go.Proofs.Ytkaoiljepabmeaa
set_option linter.unusedVariables false
set_option linter.unusedSimpArgs false
set_option maxRecDepth 100000
open Go.RowKit Go.Lib
theorem merge_ok (a1 a2 : Option Addr) (c1 c2 : Nat) (a b : List Bl) (W : World) (ha : IsBl W a1 a c1) (hb : IsBl W a2 b c2) (oka : ∀ x ∈ a, BlOk x) (okb : ∀ x ∈ b, BlOk x) (h0 : mgE a b = 0) :
    Calls Try.prog 8 #[.slice a1 a.length c1, .slice a2 b.length c2] W fun e w' => ∃ sa sc R, e = .returned (.tuple #[.slice sa R.length sc, .nilIface]) ∧ Hid (Below W.heap.size W w' ∧ IsBl w' sa R sc ∧ MgR a b R) := by
  obtain ⟨fa, fb, _⟩ := mgE_zero.1 h0
  refine (merge_any a1 a2 c1 c2 a b W ha hb (by have := fa.len; omega) (by have := fb.len; omega) oka okb).mono ?_
  rintro e w' ⟨h1, _, h3⟩
  obtain ⟨v, R, rfl, h4⟩ := h3 h0
  obtain ⟨sa, sc, rfl, hI⟩ := h4.out.1.isBl
  exact ⟨sa, sc, R, rfl, h1, hI, h4.out.2⟩
theorem merge_bad (a1 a2 : Option Addr) (c1 c2 : Nat) (a b : List Bl) (W : World) (ha : IsBl W a1 a c1) (hb : IsBl W a2 b c2) (la : a.length ≤ 9223372036854775807) (lb : b.length ≤ 9223372036854775807) (oka : ∀ x ∈ a, BlOk x) (okb : ∀ x ∈ b, BlOk x) (h0 : mgE a b ≠ 0) :
    Calls Try.prog 8 #[.slice a1 a.length c1, .slice a2 b.length c2] W fun e w' => e = .returned (.tuple #[.slice none 0 0, .iface 58 (.int .i64 (mgE a b))]) ∧ Below W.heap.size W w' :=
  (merge_any a1 a2 c1 c2 a b W ha hb la lb oka okb).mono fun e w' ⟨h1, h2, _⟩ => ⟨by rw [h2 h0, enE_ne h0], h1⟩
theorem isBl_new {W : World} {b : Nat} {x : Bl} (h : W.heap[b]? = some (.cells x.cells 34 (0, 0))) : IsBl W (some ⟨b, 0, none⟩) [x] 1 := by
  refine ⟨Nat.le_refl _, .inr ⟨b, 0, rfl, (Array.getElem?_eq_some_iff.1 h).1, fun k hk => ?_⟩⟩
  have e : k = 0 := by simp at hk; omega
  subst e
  simp only [List.getD_cons_zero]
  exact ⟨by simp [World.cell?, h, Bl.cells], by simp [World.cell?, h, Bl.cells], by simp [World.cell?, h, Bl.cells], by simp [World.cell?, h, Bl.cells]⟩
theorem isBl_none (W : World) (a : Option Addr) (c : Nat) : IsBl W a [] c := ⟨Nat.zero_le _, .inl rfl⟩

theorem mg_comm {a b : List Bl} (h : mgE a b = 0) : mgE b a = 0 := by
  obtain ⟨fa, fb, h1, h2⟩ := mgE_zero.1 h
  refine mgE_zero.2 ⟨fb, fa, ?_, fun x hx => ?_⟩
  · rw [parts_count (l := b ++ a) (m := a ++ b) (fun k => by simp only [List.mem_append, or_comm])]
    exact h1
  · have := h2 x (by simp only [List.mem_append] at hx ⊢; exact hx.symm)
    rw [ltot_append] at this ⊢
    omega
theorem mg_comm_eq {a b R S : List Bl} (h : MgR a b R) (k : MgR b a S) : R = S := h.sums.uniq k.sums (fun q => by rw [ltot_append, ltot_append]; omega)
theorem mg_nil {a : List Bl} (h : Fine a) : mgE a [] = 0 := by
  refine mgE_zero.2 ⟨h, ⟨by simp, .nil, by simp, by simp⟩, ?_, fun x hx => ?_⟩
  · have := parts_length (a ++ [])
    have := h.len
    simp at *
    omega
  · rw [List.append_nil]; exact ltot_abs h x.key
theorem mg_nil_eq {a R : List Bl} (h : Fine a) (k : MgR a [] R) : R = a := k.sums.uniq h.sums (fun q => by rw [List.append_nil])
/-- A balance's contrary. -/
def Bl.neg (x : Bl) : Bl := ⟨x.ent, x.acc, x.cur, -x.amt⟩
def negL (l : List Bl) : List Bl := l.map Bl.neg
theorem negL_length (l : List Bl) : (negL l).length = l.length := by simp [negL]
theorem neg_fine {l : List Bl} (h : Fine l) : Fine (negL l) := by
  refine ⟨by rw [negL_length]; exact h.len, ?_, fun x hx => ?_, fun x hx => ?_⟩
  · unfold Rises negL
    rw [List.pairwise_map]
    exact h.rises
  · obtain ⟨y, hy, rfl⟩ := List.mem_map.1 hx
    have := h.amt y hy
    unfold Bl.neg
    simp only
    omega
  · obtain ⟨y, hy, rfl⟩ := List.mem_map.1 hx
    have := h.ne y hy
    unfold Bl.neg
    simp only
    omega
theorem neg_ok {l : List Bl} (h : Fine l) (hok : ∀ x ∈ l, BlOk x) : ∀ x ∈ negL l, BlOk x := fun x hx => by
  obtain ⟨y, hy, rfl⟩ := List.mem_map.1 hx
  have := h.amt y hy
  exact ⟨(hok y hy).key, by unfold Bl.neg; simp only; omega⟩
theorem neg_tot (k : Pk) : ∀ l : List Bl, ltot k (negL l) = - ltot k l
  | [] => rfl
  | x :: l => by
    have ih := neg_tot k l
    unfold negL at ih ⊢
    rw [List.map_cons, ltot, ltot, ih]
    have e : x.neg.key = x.key := rfl
    rw [e]
    split
    · unfold Bl.neg; simp only; omega
    · omega
theorem mg_neg {a : List Bl} (h : Fine a) : mgE a (negL a) = 0 := by
  refine mgE_zero.2 ⟨h, neg_fine h, ?_, fun x hx => ?_⟩
  · have e := parts_count (l := a ++ negL a) (m := a) (fun k => by
      constructor
      · rintro ⟨x, hx, rfl⟩
        rcases List.mem_append.1 hx with hx | hx
        · exact ⟨x, hx, rfl⟩
        · obtain ⟨y, hy, rfl⟩ := List.mem_map.1 hx
          exact ⟨y, hy, rfl⟩
      · rintro ⟨x, hx, rfl⟩
        exact ⟨x, List.mem_append_left _ hx, rfl⟩)
    rw [e]
    exact Nat.le_trans (parts_length a) h.len
  · rw [ltot_append, neg_tot]; omega
theorem mg_neg_eq {a R : List Bl} (k : MgR a (negL a) R) : R = [] := by
  have h : Sums [] [] := ⟨.nil, by simp, fun _ => rfl⟩
  exact k.sums.uniq h (fun q => by rw [ltot_append, neg_tot]; simp [ltot]; omega)
theorem mg_assoc {a b c x q p r : List Bl} (hx : MgR a b x) (hp : MgR x c p) (hq : MgR b c q) (hr : MgR a q r) : p = r :=
  hp.sums.uniq hr.sums (fun k => by
    rw [ltot_append, ltot_append, hx.sums.ltot, hq.sums.ltot, ltot_append, ltot_append]
    omega)
/-- The law's own two. -/
def lo2 (n : Int) : Bl := ⟨1, ⟨#[49]⟩, ⟨#[69, 85, 82]⟩, n⟩
theorem lo_fine (n : Int) (h : 1 ≤ n ∧ n ≤ 5) : Fine [lo2 n] := ⟨by simp, List.pairwise_singleton _ _, by simp [lo2]; omega, by simp [lo2]; omega⟩
theorem lo_ok (n : Int) (h : 1 ≤ n ∧ n ≤ 5) : ∀ x ∈ [lo2 n], BlOk x := fun x hx => by
  rw [List.mem_singleton.1 hx]
  exact ⟨⟨by show (-9223372036854775808 : Int) ≤ 1 ∧ (1 : Int) ≤ 9223372036854775807; decide, by show ByteArray.size ⟨#[49]⟩ ≤ maxLen; decide, by show ByteArray.size ⟨#[69, 85, 82]⟩ ≤ maxLen; decide⟩, by simp [lo2]; omega⟩
theorem lo_tot (k : Pk) : ltot k ([lo2 2] ++ [lo2 3]) = ltot k [lo2 5] := by
  have e : ∀ n m, (lo2 n).key = (lo2 m).key := fun _ _ => rfl
  simp only [List.cons_append, List.nil_append, ltot]
  rw [e 2 5, e 3 5]
  split <;> simp [lo2]
theorem lo_mg : mgE [lo2 2] [lo2 3] = 0 := by
  refine mgE_zero.2 ⟨lo_fine 2 (by omega), lo_fine 3 (by omega), ?_, fun x hx => ?_⟩
  · have := parts_length ([lo2 2] ++ [lo2 3])
    simp at *
    omega
  · rw [lo_tot]; exact ltot_abs (lo_fine 5 (by omega)) _
theorem lo_eq {R : List Bl} (h : MgR [lo2 2] [lo2 3] R) : R = [lo2 5] := h.sums.uniq (lo_fine 5 (by omega)).sums lo_tot
theorem negL_take (l : List Bl) (k : Nat) (h : k < l.length) : negL (l.take (k + 1)) = negL (l.take k) ++ [(l.getD k bl0).neg] := by
  rw [bls_take l k h]
  simp [negL]
end Go.Proofs.Ytkaoiljepabmeaa

namespace Go.Proofs.Ytkaoiljepabmeaa
set_option linter.unusedVariables false
set_option linter.unusedSimpArgs false
set_option maxRecDepth 100000
open Go.RowKit Go.Lib
/-- A line whose amount is none. -/
def ldWrong (x : Ln) : Bool := !decide (-1000000000000000 ≤ x.amt ∧ x.amt ≤ 1000000000000000)
theorem ckE1_any (x : Ln) (w : World) :
    Calls Try.prog 36 #[.agg x.cells] w fun e w' => e = .returned (.bool (ldWrong x)) ∧ Below w.heap.size w w' := by
  obtain ⟨a0, a1, a3⟩ := x
  simp only [Ln.cells, ldWrong]
  have HI : Hid (∀ W, Calls Try.prog 26 #[.int .i64 a3, .int .i64 1000000000000000] W fun e w' => e = .returned (.bool (decide (-1000000000000000 ≤ a3 ∧ a3 ≤ 1000000000000000))) ∧ w' = W) := fun W => isWithin_any a3 1000000000000000 (by decide) W
  generalize decide (-1000000000000000 ≤ a3 ∧ a3 ≤ 1000000000000000) = r at *
  go_enter Try.func36, Try.ntmps36
  go_wp2_with (go_at_call 26; refine (HI.out _).mono ?_; rintro e w' ⟨rfl, rfl⟩)
  go_ret
  exact ⟨rfl, (Below.refl _ w).alloc (Nat.le_refl _) _⟩
theorem ckE1_tells : LTells 36 ldWrong :=
  ⟨fun args W => en_enters Try.func36 (by kernel_rfl) ⟨_, rfl⟩ args W, ckE1_any⟩
/-- What stands against adding entries up. -/
def ceE (L : List Je) : Int := if 200 < L.length then 4 else if L.any (fun x => x.lns.any ldWrong) = true then 1 else 0
theorem IsJs.some {w : World} {a : Option Addr} {L : List Je} {cap k : Nat} (h : IsJs w a L cap) (hk : k < L.length) : ∃ b off, a = some ⟨b, off, none⟩ ∧ b < w.heap.size ∧ ∀ k, k < L.length → JeAt w b (off + k * 4) (L.getD k je0) := by
  rcases h.lies with h | h
  · rw [h] at hk; simp at hk
  · exact h
/-- Lines are at most so many. -/
def JeFit (L : List Je) : Prop := ∀ x ∈ L, x.lns.length ≤ 9223372036854775807

set_option maxHeartbeats 4000000 in
theorem ckEntries_any (a : Option Addr) (cap : Nat) (L : List Je) (w : World) (hlen : L.length ≤ 9223372036854775807) (hfit : JeFit L) (h : IsJs w a L cap) :
    Calls Try.prog 27 #[.slice a L.length cap] w fun e w' => e = .returned (enE (ceE L)) ∧ Below w.heap.size w w' := by
  by_cases h2 : 200 < L.length
  · have e4 : ceE L = 4 := if_pos h2
    rw [e4, enE_ne (by decide)]
    have i1 : (200 : Int) < L.length := by omega
    clear h e4 hfit
    go_enter Try.func27, Try.ntmps27
    go_wp2
    go_ret
    exact ⟨rfl, Below.refl _ _⟩
  have i1 : ¬ (200 : Int) < L.length := by omega
  have i2 : (L.length : Int) ≤ 200 := by omega
  obtain ⟨res, hres⟩ : ∃ res, enE (ceE L) = res := ⟨_, rfl⟩
  have Hres : Hid (enE (if L.any (fun x => x.lns.any ldWrong) = true then 1 else 0) = res) := by
    rw [← hres]; unfold ceE; rw [if_neg h2]; exact rfl
  rw [hres]
  clear hres
  have HL : Hid (IsJs w a L cap ∧ JeFit L) := ⟨h, hfit⟩
  clear h hfit
  go_enter Try.func27, Try.ntmps27
  go_wp2
  go_loopw [11] (fun i wr => ∃ k : Nat, k ≤ L.length ∧ i = .int .i64 k ∧ Hid ((L.take k).any (fun x => x.lns.any ldWrong) = false) ∧ Hid (Below w.heap.size w wr)) (fun i _ => L.length - (intOf i).toNat)
  case atStart => exact ⟨0, Nat.zero_le _, rfl, by simp [Hid], Below.refl _ _⟩
  case round =>
    obtain ⟨k, hk, rfl, H0, HB⟩ := hrel
    by_cases hlt : k < L.length
    · obtain ⟨b, off, rfl, hb, hc⟩ := HL.out.1.some hlt
      have hy := (hc k hlt).below HB.out hb
      have hln := (HL.out.1.lns _ (jes_mem L k hlt)).below HB.out
      have hll := HL.out.2 _ (jes_mem L k hlt)
      have i0 : (0 : Int) ≤ k := by omega
      have i3 : (k : Int) < L.length := by omega
      obtain ⟨y, hyy⟩ : ∃ y, L.getD k je0 = y := ⟨_, rfl⟩
      have HY : Hid (L.getD k je0 = y) := hyy
      rw [hyy] at hy hln hll
      clear hyy hc
      obtain ⟨y0, y1, y2, ya, yc, yl⟩ := y
      obtain ⟨d0, d1, d2, d3⟩ := hy
      simp only at d0 d1 d2 d3 hln hll
      obtain ⟨V, hV⟩ : ∃ V, wr.alloc (.cells #[.string y0, .int .i64 y1, .int .i64 y2, .slice ya yl.length yc] 31) = V := ⟨_, rfl⟩
      have hbV : Below wr.heap.size wr V := by rw [← hV]; exact (Below.refl _ _).alloc (Nat.le_refl _) _
      have HC : Hid (Calls _ _ _ V _) := lnContains_any 36 ldWrong ya yc yl V ckE1_tells (by omega) (hln.below hbV)
      have HV : Hid (wr.alloc (.cells #[.string y0, .int .i64 y1, .int .i64 y2, .slice ya yl.length yc] 31) = V) := hV
      have HBV : Hid (Below w.heap.size w V) := HB.out.trans (hbV.mono HB.out.size)
      clear hV hbV hln
      cases hq : yl.any ldWrong
      · rw [hq] at HC
        have HN : Hid ((L.take (k + 1)).any (fun x => x.lns.any ldWrong) = false) := by
          unfold Hid
          rw [jes_take L k hlt, List.any_append, H0.out, HY.out]
          simp [hq]
        clear hq
        go_wp2_with (go_at_call 35; rw [HV.out]; refine HC.out.mono ?_; rintro e w' ⟨rfl, hbc⟩)
        have HB2 : Hid (Below w.heap.size w w') := HBV.out.trans (hbc.mono HBV.out.size)
        go_roundw
        case rel => exact ⟨k + 1, by omega, by go_num, HN, HB2⟩
        case measure => simp [intOf]; omega
      · rw [hq] at HC
        have er : res = enE 1 := by
          rw [← Hres.out, if_pos]
          exact List.any_eq_true.2 ⟨L.getD k je0, jes_mem L k hlt, by rw [HY.out]; exact hq⟩
        rw [enE_ne (by decide)] at er
        subst er
        clear hq Hres
        go_wp2_with (go_at_call 35; rw [HV.out]; refine HC.out.mono ?_; rintro e w' ⟨rfl, hbc⟩)
        go_ret
        exact ⟨rfl, HBV.out.trans (hbc.mono HBV.out.size)⟩
    · have hk2 : k = L.length := by omega
      subst hk2
      have er : res = enE 0 := by
        have h0 := H0.out
        rw [List.take_length] at h0
        rw [← Hres.out, h0]
        rfl
      rw [enE_zero] at er
      subst er
      clear Hres
      go_wp2
      go_ret
      exact ⟨rfl, HB.out⟩
/-- An entry's lines as balances. -/
def lnsB (x : Je) : List Bl := x.lns.map fun n => ⟨x.ent, n.acc, n.cur, n.amt⟩
/-- Those of entries that count. -/
def flatB (p : Je → Bool) (L : List Je) : List Bl := (L.filter p).flatMap lnsB
theorem lnsB_length (x : Je) : (lnsB x).length = x.lns.length := by simp [lnsB]
theorem lnsB_get (x : Je) (k : Nat) (h : k < x.lns.length) : (lnsB x).getD k bl0 = ⟨x.ent, (x.lns.getD k ln0).acc, (x.lns.getD k ln0).cur, (x.lns.getD k ln0).amt⟩ := by
  rw [List.getD_eq_getElem?_getD, List.getD_eq_getElem?_getD, lnsB, List.getElem?_map, List.getElem?_eq_getElem h]
  rfl
theorem flatB_snoc_no {p : Je → Bool} {L : List Je} {x : Je} (h : p x = false) : flatB p (L ++ [x]) = flatB p L := by
  unfold flatB
  rw [List.filter_append]
  simp [h]
theorem flatB_snoc {p : Je → Bool} {L : List Je} {x : Je} (h : p x = true) : flatB p (L ++ [x]) = flatB p L ++ lnsB x := by
  unfold flatB
  rw [List.filter_append, List.flatMap_append]
  simp [h]
/-- What is asked of a function that is told an entry and says yes or no. -/
structure JTells (g : Nat) (cb : Array Value) (p : Je → Bool) (n : Nat) (W0 : World) : Prop where
  eg : ∀ args W, (callFunc g args).run Try.prog W = .ok (.enter g args) W
  call : ∀ (x : Je) U, Below n W0 U → Calls Try.prog g (#[.agg x.cells] ++ cb) U fun e w' => e = .returned (.bool (p x)) ∧ Below U.heap.size U w'
/-- Entries as they can be in memory. -/
structure JsOk (L : List Je) : Prop where
  ent : ∀ x ∈ L, -9223372036854775808 ≤ x.ent ∧ x.ent ≤ 9223372036854775807
  per : ∀ x ∈ L, -9223372036854775808 ≤ x.per ∧ x.per ≤ 9223372036854775807
  lns : ∀ x ∈ L, ∀ n ∈ x.lns, n.acc.size ≤ maxLen ∧ n.cur.size ≤ maxLen
  all : (L.flatMap lnsB).length ≤ 17592186044400
theorem JsOk.fit {L : List Je} (h : JsOk L) : JeFit L := fun x hx => by
  have h1 := h.all
  obtain ⟨s, t, rfl⟩ := List.append_of_mem hx
  rw [List.flatMap_append, List.length_append, List.flatMap_cons, List.length_append, lnsB_length] at h1
  omega
theorem flatB_len (p : Je → Bool) : ∀ L : List Je, (flatB p L).length ≤ (L.flatMap lnsB).length
  | [] => by simp [flatB]
  | x :: L => by
    have ih := flatB_len p L
    unfold flatB at ih ⊢
    rw [List.filter_cons]
    split
    · rw [List.flatMap_cons, List.flatMap_cons, List.length_append, List.length_append]; omega
    · rw [List.flatMap_cons, List.length_append]; omega
theorem flatB_pre (p : Je → Bool) (L : List Je) (k : Nat) (h : k < L.length) : (flatB p (L.take k)).length + (L.getD k je0).lns.length ≤ (L.flatMap lnsB).length := by
  have h1 := flatB_len p (L.take k)
  have e : L = L.take k ++ L.getD k je0 :: L.drop (k + 1) := by rw [← jes_drop L k h, List.take_append_drop]
  have e2 : (L.flatMap lnsB).length = ((L.take k).flatMap lnsB).length + ((L.getD k je0).lns.length + ((L.drop (k + 1)).flatMap lnsB).length) := by
    conv => lhs; rw [e]
    rw [List.flatMap_append, List.length_append, List.flatMap_cons, List.length_append, lnsB_length]
  omega
theorem ce_zero {L : List Je} (h : ceE L = 0) : L.length ≤ 200 ∧ ∀ x ∈ L, ∀ n ∈ x.lns, -1000000000000000 ≤ n.amt ∧ n.amt ≤ 1000000000000000 := by
  unfold ceE at h
  split at h
  · omega
  · split at h
    · omega
    · rename_i h1 h2
      refine ⟨by omega, fun x hx n hn => ?_⟩
      false_or_by_contra
      rename_i h3
      refine h2 (List.any_eq_true.2 ⟨x, hx, List.any_eq_true.2 ⟨n, hn, ?_⟩⟩)
      unfold ldWrong
      rw [decide_eq_false h3]
      rfl
theorem flatB_mem {p : Je → Bool} {L : List Je} {y : Bl} (h : y ∈ flatB p L) : ∃ x ∈ L, p x = true ∧ ∃ n ∈ x.lns, y = ⟨x.ent, n.acc, n.cur, n.amt⟩ := by
  obtain ⟨x, hx, hy⟩ := List.mem_flatMap.1 h
  obtain ⟨h1, h2⟩ := List.mem_filter.1 hx
  obtain ⟨n, hn, rfl⟩ := List.mem_map.1 hy
  exact ⟨x, h1, h2, n, hn, rfl⟩
theorem flatB_ok {p : Je → Bool} {L : List Je} (h : JsOk L) (hc : ceE L = 0) : ∀ y ∈ flatB p L, BlOk y := fun y hy => by
  obtain ⟨x, hx, _, n, hn, rfl⟩ := flatB_mem hy
  have h1 := (ce_zero hc).2 x hx n hn
  exact ⟨⟨h.ent x hx, (h.lns x hx n hn).1, (h.lns x hx n hn).2⟩, by simp only; omega⟩
/-- What is wrong with the balances of entries. -/
def oeE (p : Je → Bool) (L : List Je) : Int := if ceE L ≠ 0 then ceE L else tgE (parts (flatB p L))
/-- What comes of entries. -/
structure OeR (p : Je → Bool) (L : List Je) (R : List Bl) : Prop where
  sums : Sums (flatB p L) R
  len : R.length ≤ 200
  ok : ∀ x ∈ R, BlOk x
end Go.Proofs.Ytkaoiljepabmeaa
