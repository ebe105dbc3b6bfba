/-
  The contracts of dayref1's digits, Account and Chart: they say what the program's own say.
-/
import Derived.Test.YtfkafjffjeipaaaGreatDoorZm6
import Derived.Test.YtfkafjffjeipaaaGreatDoorZm11
namespace Go.Proofs.YtfkafjffjeipaaaGreatDoor
set_option linter.unusedVariables false
set_option linter.unusedSimpArgs false
set_option maxRecDepth 100000
open Go.RowKit Go.Lib
theorem PMp.new (W : World) (n : Nat) (hn : n ≤ W.heap.size) (vs : Nat → Value) : PMp (W.alloc (.map #[] 0)) n W.heap.size [] vs :=
  ⟨ld_new_heap W _, hn, fun p hp => by simp at hp, by simp, fun i hi => by simp at hi, fun i j hi => by simp at hi, fun p hp => by simp at hp⟩
/-- A list of two. -/
def mgL (a b : List Bl) (i : Nat) : List Bl := if i = 0 then a else b
/-- What the outer loop keeps: so many lists are in. -/
structure Mo (W : World) (a b : List Bl) (i : Nat) (U : World) : Prop where
  pm : ∃ vs, PMp U W.heap.size W.heap.size (parts (if i = 0 then [] else if i = 1 then a else a ++ b)) vs
  keep : AKeep W.heap.size W.heap.size (W.alloc (.map #[] 0)) U
  fa : 1 ≤ i → Fine a
  fb : 2 ≤ i → Fine b
theorem parts_take (l m : List Bl) (k : Nat) (h : k < m.length) : parts (l ++ m.take (k + 1)) = addP (parts (l ++ m.take k)) (m.getD k bl0) := by
  rw [bls_take m k h, ← List.append_assoc, parts_snoc]
theorem AKeep.isBl {n mb : Nat} {V W : World} {a : Option Addr} {l : List Bl} {cap : Nat} (h : IsBl V a l cap) (hk : AKeep n mb V W) (hm : ∀ b off, a = some ⟨b, off, none⟩ → b < n ∧ b ≠ mb) : IsBl W a l cap := by
  refine ⟨h.cap, ?_⟩
  rcases h.lies with e | ⟨b, off, e, hlt, hc⟩
  · exact .inl e
  · refine .inr ⟨b, off, e, Nat.lt_of_lt_of_le hlt hk.size, fun k hk2 => ?_⟩
    obtain ⟨h1, h2⟩ := hm b off e
    have hb := hk.block b hlt h2 (.inl h1)
    have hcell : ∀ o, W.cell? ⟨b, o, none⟩ = V.cell? ⟨b, o, none⟩ := fun o => by simp only [World.cell?, hb]
    have := hc k hk2
    exact ⟨(hcell _).trans this.c0, (hcell _).trans this.c1, (hcell _).trans this.c2, (hcell _).trans this.c3⟩

set_option maxHeartbeats 8000000 in
theorem merge_any (a1 a2 : Option Addr) (c1 c2 : Nat) (a b : List Bl) (W : World) (ha : IsBl W a1 a c1) (hb : IsBl W a2 b c2) (la : a.length ≤ 9223372036854775807) (lb : b.length ≤ 9223372036854775807) (oka : ∀ x ∈ a, BlOk x) (okb : ∀ x ∈ b, BlOk x) :
    Calls Tryz.prog 8 #[.slice a1 a.length c1, .slice a2 b.length c2] W fun e w' => Below W.heap.size W w' ∧ (mgE a b ≠ 0 → e = .returned (.tuple #[.slice none 0 0, enE (mgE a b)])) ∧ (mgE a b = 0 → ∃ v R, e = .returned (.tuple #[v, .nilIface]) ∧ Hid (BlRow w' W.heap.size v R ∧ MgR a b R)) := by
  have hmm := @run_makeMap Tryz.prog
  obtain ⟨W2, hW2⟩ : ∃ W2, (W.alloc (.map #[] 0)).alloc (.cells #[.slice a1 a.length c1, .slice a2 b.length c2] 22) = W2 := ⟨_, rfl⟩
  have hb1 : Below W.heap.size W (W.alloc (.map #[] 0)) := (Below.refl _ W).alloc (Nat.le_refl _) _
  have hb2 : Below (W.alloc (.map #[] 0)).heap.size (W.alloc (.map #[] 0)) W2 := by rw [← hW2]; exact (Below.refl _ _).alloc (Nat.le_refl _) _
  have hrow : W2.heap[W.heap.size + 1]? = some (.cells #[.slice a1 a.length c1, .slice a2 b.length c2] 22 (0, 0)) := by
    rw [← hW2]
    have := ld_new_heap (W.alloc (.map #[] 0)) (.cells #[.slice a1 a.length c1, .slice a2 b.length c2] 22)
    simpa using this
  have HM0 : Hid (Mo W a b 0 W2) := ⟨⟨fun _ => .slice none 0 0, (PMp.new W _ (Nat.le_refl _) _).below hb2⟩, AKeep.of_below hb2, fun h => by omega, fun h => by omega⟩
  have HF : Hid (∀ U, AKeep W.heap.size W.heap.size (W.alloc (.map #[] 0)) U → Below W.heap.size W U) := fun U hk => hb1.trans (hk.below (Nat.le_refl _) (by simp))
  have HR : Hid (∀ U, AKeep W.heap.size W.heap.size W2 U → U.cell? ⟨W.heap.size + 1, 0, none⟩ = some (.slice a1 a.length c1) ∧ U.cell? ⟨W.heap.size + 1, 1, none⟩ = some (.slice a2 b.length c2)) := fun U hk => by
    have e := (hk.block (W.heap.size + 1) (Array.getElem?_eq_some_iff.1 hrow).1 (by omega) (.inr (fun cs e => by rw [hrow] at e; simp only [Option.some.injEq, Obj.cells.injEq] at e; exact absurd e.2.1 (by decide)))).trans hrow
    simp [World.cell?, e]
  have HA : Hid (IsBl W a1 a c1 ∧ IsBl W a2 b c2 ∧ (∀ x ∈ a, BlOk x) ∧ (∀ x ∈ b, BlOk x) ∧ a.length ≤ 9223372036854775807 ∧ b.length ≤ 9223372036854775807) := ⟨ha, hb, oka, okb, la, lb⟩
  have HW2 : Hid ((W.alloc (.map #[] 0)).alloc (.cells #[.slice a1 a.length c1, .slice a2 b.length c2] 22) = W2) := hW2
  have HK2 : Hid (AKeep W.heap.size W.heap.size W2 W2) := AKeep.refl _ _ _
  obtain ⟨la', hla⟩ : ∃ x, a.length = x := ⟨_, rfl⟩
  obtain ⟨lb', hlb⟩ : ∃ x, b.length = x := ⟨_, rfl⟩
  rw [hla, hlb] at HR HW2 ⊢
  have HLA : Hid (a.length = la' ∧ b.length = lb') := ⟨hla, hlb⟩
  clear ha hb la lb oka okb hb1 hb2 hrow hW2 hla hlb
  go_enter Tryz.func8, Tryz.ntmps8
  go_wp2_with fail
  rw [HW2.out]
  go_loopw [19] (fun iv wr => ∃ i : Nat, i ≤ 2 ∧ iv = .int .i64 i ∧ Hid (Mo W a b i wr ∧ AKeep W.heap.size W.heap.size W2 wr)) (fun iv _ => 2 - (intOf iv).toNat)
  case atStart => exact ⟨0, by omega, rfl, HM0.out, HK2.out⟩
  case round =>
    obtain ⟨i, hi, rfl, HM⟩ := hrel
    by_cases hlt : i < 2
    · obtain ⟨ai, ci, hcell, hIs, hok, hll⟩ : ∃ ai ci, wr.cell? ⟨W.heap.size + 1, i, none⟩ = some (.slice ai (mgL a b i).length ci) ∧ IsBl W ai (mgL a b i) ci ∧ (∀ x ∈ mgL a b i, BlOk x) ∧ (mgL a b i).length ≤ 9223372036854775807 := by
        obtain ⟨r0, r1⟩ := HR.out wr HM.out.2
        rcases (by omega : i = 0 ∨ i = 1) with rfl | rfl
        · exact ⟨a1, c1, by rw [show mgL a b 0 = a from rfl, HLA.out.1]; exact r0, HA.out.1, HA.out.2.2.1, HA.out.2.2.2.2.1⟩
        · exact ⟨a2, c2, by rw [show mgL a b 1 = b from rfl, HLA.out.2]; exact r1, HA.out.2.1, HA.out.2.2.2.1, HA.out.2.2.2.2.2⟩
      have hIs1 : IsBl wr ai (mgL a b i) ci := hIs.below (HF.out wr HM.out.1.keep)
      have HCk : Hid (Calls _ _ _ wr _) := ldCheck_any ai ci (mgL a b i) wr hll hIs1
      have i0 : (0 : Int) ≤ i := by omega
      have i1 : (i : Int) < 2 := by omega
      obtain ⟨li, hli⟩ : ∃ li, mgL a b i = li := ⟨_, rfl⟩
      have HLi : Hid (mgL a b i = li) := hli
      rw [hli] at hcell hIs hok HCk hIs1 hll
      have HIs : Hid (IsBl W ai li ci ∧ ∀ x ∈ li, BlOk x) := ⟨hIs, hok⟩
      clear hli hIs hok hIs1
      by_cases hck : chk li = 0
      · rw [hck, enE_zero] at HCk
        have hfine : Fine li := chk_zero.1 hck
        have HFi : Hid (Fine li) := hfine
        have hl200 : (li.length : Int) ≤ 200 := by have := hfine.len; omega
        clear hfine hck
        go_wp2_with (go_at_call 5; refine HCk.out.mono ?_; rintro e w' ⟨rfl, hbc⟩)
        obtain ⟨pre, hpre⟩ : ∃ pre, (if i = 0 then [] else if i = 1 then a else a ++ b) = pre := ⟨_, rfl⟩
        have HPre : Hid ((if i = 0 then [] else if i = 1 then a else a ++ b) = pre) := hpre
        have hprel : pre.length ≤ 200 := by
          rw [← hpre]
          rcases (by omega : i = 0 ∨ i = 1) with rfl | rfl
          · simp
          · exact (HM.out.1.fa (Nat.le_refl _)).len
        have HP0 : Hid ((∃ vs, PMp w' W.heap.size W.heap.size (parts (pre ++ li.take 0)) vs) ∧ AKeep W.heap.size W.heap.size wr w') := by
          obtain ⟨vs, hvs⟩ := HM.out.1.pm
          rw [hpre] at hvs
          exact ⟨⟨vs, by rw [List.take_zero, List.append_nil]; exact hvs.below hbc⟩, AKeep.of_below hbc⟩
        clear hbc HCk hpre hcell
        go_loopw [30] (fun jv wq => ∃ j : Nat, j ≤ li.length ∧ jv = .int .i64 j ∧ Hid ((∃ vs, PMp wq W.heap.size W.heap.size (parts (pre ++ li.take j)) vs) ∧ AKeep W.heap.size W.heap.size wr wq)) (fun jv _ => li.length - (intOf jv).toNat)
        case atStart => exact ⟨0, Nat.zero_le _, rfl, HP0⟩
        case round =>
          rename World => wq
          obtain ⟨j, hj, rfl, HJ⟩ := hrel
          have j0 : (0 : Int) ≤ j := by omega
          by_cases hjl : j < li.length
          · have j1 : (j : Int) < li.length := by omega
            obtain ⟨b0, off0, rfl, hb0, hc0⟩ := HIs.out.1.some hjl
            have hBq : Below W.heap.size W wq := HF.out wq (HM.out.1.keep.trans HJ.out.2)
            have hx := (hc0 j hjl).below hBq hb0
            obtain ⟨vs, hvs⟩ := HJ.out.1
            have hokx := HIs.out.2 _ (bls_mem li j hjl)
            obtain ⟨x, hxx⟩ : ∃ x, li.getD j bl0 = x := ⟨_, rfl⟩
            have HX : Hid (li.getD j bl0 = x) := hxx
            rw [hxx] at hx hokx
            obtain ⟨V, hV⟩ : ∃ V, wq.alloc (.cells x.cells 46) = V := ⟨_, rfl⟩
            have hbV : Below wq.heap.size wq V := by rw [← hV]; exact (Below.refl _ _).alloc (Nat.le_refl _) _
            have hVh : V.heap[wq.heap.size]? = some (.cells x.cells 46 (0, 0)) := by rw [← hV]; exact ld_new_heap wq _
            have HAdd : Hid (Calls _ _ _ V _) := ldAdd_any x V _ _ _ vs (hvs.below hbV) hokx.key hokx.amt (fun p hp => by
              have := parts_zs _ p hp
              simp only [List.length_append, List.length_take] at this
              omega)
            have HNx : Hid (∀ U, (∃ vs', Hid (PMp U W.heap.size W.heap.size (addP (parts (pre ++ li.take j)) x) vs' ∧ AKeep W.heap.size W.heap.size V U)) → (∃ vs, PMp U W.heap.size W.heap.size (parts (pre ++ li.take (j + 1))) vs) ∧ AKeep W.heap.size W.heap.size wr U) := fun U ⟨vs', h⟩ => by
              refine ⟨⟨vs', ?_⟩, HJ.out.2.trans ((AKeep.of_below hbV).trans h.out.2)⟩
              rw [parts_take pre li j hjl, HX.out]
              exact h.out.1
            have HV : Hid (wq.alloc (.cells x.cells 46) = V) := hV
            clear hvs hc0 hBq hokx hxx hbV hV HX
            obtain ⟨x0, x1, x2, x3⟩ := x
            obtain ⟨d0, d1, d2, d3⟩ := hx
            simp only [Bl.cells] at d0 d1 d2 d3 HV hVh HAdd
            have f0 : V.cell? ⟨wq.heap.size, 0, none⟩ = some (.int .i64 x0) := by simp [World.cell?, hVh]
            have f1 : V.cell? ⟨wq.heap.size, 1, none⟩ = some (.string x1) := by simp [World.cell?, hVh]
            have f2 : V.cell? ⟨wq.heap.size, 2, none⟩ = some (.string x2) := by simp [World.cell?, hVh]
            have f3 : V.cell? ⟨wq.heap.size, 3, none⟩ = some (.int .i64 x3) := by simp [World.cell?, hVh]
            clear hVh
            go_wp2_with (go_at_call 21; rw [HV.out]; refine HAdd.out.mono ?_; rintro e U ⟨rfl, hU⟩)
            have HU : Hid ((∃ vs, PMp U W.heap.size W.heap.size (parts (pre ++ li.take (j + 1))) vs) ∧ AKeep W.heap.size W.heap.size wr U) := HNx.out U hU
            clear hU HNx HAdd d0 d1 d2 d3 f0 f1 f2 f3
            go_roundw
            case rel => exact ⟨j + 1, by omega, by go_num, HU⟩
            case measure => simp [intOf]; omega
          · have j1 : ¬ (j : Int) < li.length := by omega
            obtain rfl : j = li.length := by omega
            have HN : Hid (Mo W a b (i + 1) wq ∧ AKeep W.heap.size W.heap.size W2 wq) := by
              obtain ⟨vs, hvs⟩ := HJ.out.1
              rw [List.take_length] at hvs
              refine ⟨⟨⟨vs, ?_⟩, HM.out.1.keep.trans HJ.out.2, fun _ => ?_, fun h => ?_⟩, HM.out.2.trans HJ.out.2⟩
              · rcases (by omega : i = 0 ∨ i = 1) with rfl | rfl
                · rw [← HPre.out, ← HLi.out] at hvs
                  exact hvs
                · rw [← HPre.out, ← HLi.out] at hvs
                  exact hvs
              · rcases (by omega : i = 0 ∨ i = 1) with rfl | rfl
                · have := HFi.out; rw [← HLi.out] at this; exact this
                · exact HM.out.1.fa (Nat.le_refl _)
              · have e : i = 1 := by omega
                subst e
                have := HFi.out; rw [← HLi.out] at this; exact this
            clear HJ HP0
            go_wp2_with fail
            go_roundw
            case rel => exact ⟨i + 1, by omega, by go_num, HN⟩
            case measure => simp [intOf]; omega
      · have HE : Hid (mgE a b = chk li) := by
          unfold Hid mgE
          rcases (by omega : i = 0 ∨ i = 1) with rfl | rfl
          · rw [← HLi.out] at hck ⊢
            exact if_pos hck
          · have h0 : chk a = 0 := chk_zero.2 (HM.out.1.fa (Nat.le_refl _))
            rw [← HLi.out] at hck ⊢
            rw [if_neg (by simp [h0])]
            exact if_pos hck
        have HB : Hid (Below W.heap.size W wr) := HF.out wr HM.out.1.keep
        rw [enE_ne hck] at HCk
        obtain ⟨cc, hcc⟩ : ∃ cc, chk li = cc := ⟨_, rfl⟩
        rw [hcc] at HCk HE hck
        clear hcc
        go_wp2_with (go_at_call 5; refine HCk.out.mono ?_; rintro e w' ⟨rfl, hbc⟩)
        go_ret2
        exact ⟨HB.out.trans (hbc.mono HB.out.size), fun _ => by rw [HE.out, enE_ne hck]; rfl, fun h => absurd (HE.out.symm.trans h) hck⟩
    · obtain rfl : i = 2 := by omega
      obtain ⟨vs, hvs⟩ := HM.out.1.pm
      have hvs' : PMp wr W.heap.size W.heap.size (parts (a ++ b)) vs := hvs
      have fa := HM.out.1.fa (by omega)
      have fb := HM.out.1.fb (by omega)
      have hpl := parts_length (a ++ b)
      have la := fa.len
      have lb := fb.len
      rw [List.length_append] at hpl
      have HTg : Hid (Calls _ _ _ wr _) := ldTogether_any wr _ _ _ vs hvs' (fun p hp => by
        have := parts_zs _ p hp
        simp only [List.length_append] at this
        omega) (by omega)
      have ht := tgE_two fa fb
      have hk1 : chk a = 0 := chk_zero.2 fa
      have hk2 : chk b = 0 := chk_zero.2 fb
      have HB : Hid (Below W.heap.size W wr) := HF.out wr HM.out.1.keep
      by_cases h200 : 200 < (parts (a ++ b)).length
      · rw [if_pos h200] at ht
        have HE : Hid (mgE a b = 4) := by
          unfold Hid mgE
          rw [if_neg (by simp [hk1]), if_neg (by simp [hk2]), if_pos h200]
        have HT2 : Hid (Calls Tryz.prog 22 #[.map (some W.heap.size)] wr fun e w' => e = .returned (.tuple #[.slice none 0 0, .iface 43 (.int .i64 4)]) ∧ Below wr.heap.size wr w') := HTg.out.mono (fun e w' ⟨h1, h2, _⟩ => ⟨by rw [h2 (by rw [ht]; decide), ht]; rfl, h1⟩)
        clear HTg hvs hvs' hpl la lb ht hk1 hk2 HM fa fb
        go_wp2_with (go_at_call 22; refine HT2.out.mono ?_; rintro e w' ⟨rfl, hbc⟩)
        go_ret2
        exact ⟨HB.out.trans (hbc.mono HB.out.size), fun _ => by rw [HE.out]; rfl, fun h => by rw [HE.out] at h; cases h⟩
      · rw [if_neg h200] at ht
        have hok2 : ∀ x ∈ a ++ b, BlOk x := fun x hx => by
          rcases List.mem_append.1 hx with hx | hx
          · exact HA.out.2.2.1 x hx
          · exact HA.out.2.2.2.1 x hx
        have HT2 : Hid (Calls Tryz.prog 22 #[.map (some W.heap.size)] wr fun e w' => ∃ sa sc R, e = .returned (.tuple #[.slice sa R.length sc, .nilIface]) ∧ Hid (Below W.heap.size W w' ∧ BlRow w' W.heap.size (.slice sa R.length sc) R ∧ MgR a b R ∧ (R.any tooB = true → mgE a b = 10) ∧ (R.any tooB = false → mgE a b = 0))) := by
          refine HTg.out.mono ?_
          rintro e w' ⟨h1, _, h3⟩
          obtain ⟨v, R, rfl, h4⟩ := h3 ht
          obtain ⟨h5, h6, h7⟩ := h4.out
          have hBw : Below W.heap.size W w' := HB.out.trans (h1.mono HB.out.size)
          have h8 : BlRow w' W.heap.size v R := by
            rcases h5.2 with ⟨hv, hn⟩ | ⟨g1, c1, cur, hv, hb1, r⟩
            · exact ⟨h5.1, .inl ⟨hv, hn⟩⟩
            · exact ⟨h5.1, .inr ⟨g1, c1, cur, hv, Nat.le_trans HB.out.size hb1, r⟩⟩
          obtain ⟨sa, sc, rfl, _⟩ := h8.isBl
          refine ⟨sa, sc, R, rfl, hBw, h8, ⟨sums_of_perm h6 h7, Nat.le_trans (len_of_perm h7) (by omega), ok_of_perm h7 hok2 (two_fit fa fb)⟩, fun h => ?_, fun h => ?_⟩
          · have := (any_too h7).1 h
            unfold mgE
            rw [if_neg (by simp [hk1]), if_neg (by simp [hk2]), if_neg h200, if_neg this]
          · have : ¬ R.any tooB = true := by rw [h]; simp
            unfold mgE
            rw [if_neg (by simp [hk1]), if_neg (by simp [hk2]), if_neg h200, if_pos]
            false_or_by_contra
            rename_i h9
            exact this ((any_too h7).2 h9)
        clear HTg hvs hvs' hpl la lb ht hk1 hk2 HM fa fb hok2 HB
        go_wp2_with (go_at_call 22; refine HT2.out.mono ?_; rintro e w' ⟨sa, sc, R, rfl, hR⟩)
        have HCf : Hid (Calls _ _ _ w' _) := blContains_any 24 tooB sa sc R w' merge1_tells (by have := hR.out.2.2.1.len; omega) (by
          obtain ⟨_, _, e, h⟩ := hR.out.2.1.isBl
          cases e
          exact h)
        cases hq : R.any tooB
        · rw [hq] at HCf
          have HE : Hid (mgE a b = 0) := hR.out.2.2.2.2 hq
          clear hq
          go_wp2_with (go_at_call 23; refine HCf.out.mono ?_; rintro e w9 ⟨rfl, hb9⟩)
          go_ret2
          exact ⟨hR.out.1.trans (hb9.mono hR.out.1.size), fun h => absurd HE.out h, fun _ => ⟨_, R, rfl, hR.out.2.1.below hb9, hR.out.2.2.1⟩⟩
        · rw [hq] at HCf
          have HE : Hid (mgE a b = 10) := hR.out.2.2.2.1 hq
          clear hq
          go_wp2_with (go_at_call 23; refine HCf.out.mono ?_; rintro e w9 ⟨rfl, hb9⟩)
          go_ret2
          exact ⟨hR.out.1.trans (hb9.mono hR.out.1.size), fun _ => by rw [HE.out]; rfl, fun h => by rw [HE.out] at h; cases h⟩
end Go.Proofs.YtfkafjffjeipaaaGreatDoor

namespace Go.Proofs.YtfkafjffjeipaaaGreatDoor
set_option linter.unusedVariables false
set_option linter.unusedSimpArgs false
set_option maxRecDepth 100000
open Go.RowKit Go.Lib

theorem get_at (s : ByteArray) (k : Nat) (h : k < s.size) : s.get! k = s[k]'h := by
  show s.data[k]! = s.data[k]'h
  exact getElem!_pos s.data k h

theorem refDigits_any (s : ByteArray) (most : Nat) (w : World) (hs : s.size ≤ maxLen) :
    Calls Tryz.prog 40 #[.string s, .int .i64 most] w fun e w' => e = .returned (.bool (madeOf digR most s)) ∧ w' = w := by
  unfold maxLen at hs
  by_cases h0 : s.size = 0
  · have e0 := ch_empty h0
    have e1 : madeOf digR most s = false := by simp [madeOf, h0]
    rw [e1]
    go_enter Tryz.func40, Tryz.ntmps40
    go_wp2
    go_ret
    exact ⟨rfl, rfl⟩
  have e0 := ch_some h0
  have e0' : s.toList.isEmpty = false := by simpa using e0
  by_cases h1 : s.size ≤ most
  · have h1' : decide ((most : Int) < s.size) = false := by simp; omega
    have h1'' : ¬ ((most : Int) < s.size) := by omega
    obtain ⟨res, hres⟩ : ∃ res, madeOf digR most s = res := ⟨_, rfl⟩
    have Hres : Hid (madeOf digR most s = res) := hres
    rw [hres]
    clear hres
    go_enter Tryz.func40, Tryz.ntmps40
    go_wp2
    go_loop [5] (fun i => ∃ k : Nat, k ≤ s.size ∧ i = .int .i64 k ∧ Hid (∀ j, j < k → digR (s.get! j).toNat = true)) (fun i => s.size - (intOf i).toNat)
    case atStart => exact ⟨0, Nat.zero_le _, rfl, fun j hj => absurd hj (Nat.not_lt_zero _)⟩
    case round =>
      obtain ⟨k, hk, rfl, Hk⟩ := hrel
      by_cases hlt : k < s.size
      · have i0 : (0 : Int) ≤ k := by omega
        have i1 : (k : Int) < s.size := by omega
        obtain ⟨c, hc⟩ : ∃ c, (s[k]'hlt).toNat = c := ⟨_, rfl⟩
        have Hg : Hid (digR (s.get! k).toNat = digR c) := by unfold Hid; rw [get_at s k hlt, hc]
        have bad : digR c = false → res = false := fun hb => by
          rw [← Hres.out]
          cases hm : madeOf digR most s
          · rfl
          · have := ((madeOf_iff (fun r => digR_low)).1 hm).2.2 k hlt
            rw [Hg.out, hb] at this
            cases this
        by_cases h48 : (c : Int) < 48
        · have e1 := bad (by simp [digR]; omega)
          subst e1
          clear bad
          go_wp2
          go_ret
          exact ⟨rfl, rfl⟩
        by_cases h57 : 57 < (c : Int)
        · have e1 := bad (by simp [digR]; omega)
          subst e1
          clear bad
          go_wp2
          go_ret
          exact ⟨rfl, rfl⟩
        have HN : Hid (∀ j, j < k + 1 → digR (s.get! j).toNat = true) := fun j hj => by
          rcases (by omega : j < k ∨ j = k) with h' | rfl
          · exact Hk.out j h'
          · rw [Hg.out]; simp [digR]; omega
        clear bad
        go_wp2
        go_round
        case rel => exact ⟨k + 1, by omega, by go_num, HN⟩
        case measure => simp [intOf]; omega
      · have hk2 : k = s.size := by omega
        have er : res = true := by
          rw [← Hres.out]
          exact (madeOf_iff (fun r => digR_low)).2 ⟨h0, h1, fun i hi => Hk.out i (by omega)⟩
        subst er
        go_wp2
        go_ret
        exact ⟨rfl, rfl⟩
  · have h1' : decide ((most : Int) < s.size) = true := by simp; omega
    have h1'' : (most : Int) < s.size := by omega
    have e1 : madeOf digR most s = false := by simp [madeOf, h1]
    rw [e1]
    go_enter Tryz.func40, Tryz.ntmps40
    go_wp2
    go_ret
    exact ⟨rfl, rfl⟩

theorem leB_ge {a b : ByteArray} (h : leB a b = true) : Op.bytesLess b.toList a.toList = false := by
  cases hb : Op.bytesLess b.toList a.toList
  · rfl
  · unfold leB at h
    rw [Bool.or_eq_true, beq_iff_eq] at h
    rcases h with h | h
    · have := less_trans _ _ _ h hb
      rw [less_self] at this
      cases this
    · rw [h, less_self] at hb
      cases hb
theorem leB_lt {a b : ByteArray} (h : ¬ leB a b = true) : Op.bytesLess b.toList a.toList = true := by
  unfold leB at h
  rw [Bool.or_eq_true, beq_iff_eq, not_or] at h
  exact less_total _ _ (by simpa using h.1) h.2

set_option maxHeartbeats 4000000 in
theorem refAccount_any (b off cap i : Nat) (l : List Ac) (w : World) (hi : i < l.length) (hlen : l.length ≤ 1000) (hcap : l.length ≤ cap) (hb : b < w.heap.size) (hc : AcsAt w b off l) (hsz : (l.getD i ac0).code.size ≤ maxLen ∧ (l.getD i ac0).name.size ≤ maxLen) :
    Calls Tryz.prog 25 #[.slice (some ⟨b, off, none⟩) l.length cap, .int .i64 (i : Nat)] w fun e w' => e = .returned (.int .i64 (nextBad (l.take i) (l.getD i ac0))) ∧ Below w.heap.size w w' := by
  have hx := hc i hi
  have hn := AcAt.new w (l.getD i ac0) 67
  have b0 : Below w.heap.size w (w.alloc (.cells (l.getD i ac0).cells 67)) := (Below.refl _ w).alloc (Nat.le_refl _) _
  have HA : Hid (∀ W, Below w.heap.size w W → Calls Tryz.prog 26 #[.slice (some ⟨b, off, none⟩) i cap, .string (l.getD i ac0).par] W fun e w' => e = .returned (.int .i64 (idxP (hasCode (l.getD i ac0).par) (l.take i))) ∧ w' = W) := fun W hW => by
    have h2 : IsSl W (some ⟨b, off, none⟩) (l.take i) cap := (IsSl.below ⟨hcap, .inr ⟨b, off, rfl, hb, hc⟩⟩ hW).take i
    have := refAt_any (some ⟨b, off, none⟩) cap (l.take i) (l.getD i ac0).par W (by simp; omega) h2
    rw [show (l.take i).length = i by simp; omega] at this
    exact this
  have Hc : Hid (∀ W, Below w.heap.size w W → ∀ k, k < l.length → AcAt W b (off + k * 5) (l.getD k ac0)) := fun W hW k hk => (hc k hk).below hW hb
  have Htk : Hid (∀ k, k < i → (l.take i).getD k ac0 = l.getD k ac0) := fun k hk => take_getD l i k hk
  have hli : (l.take i).length = i := by simp; omega
  obtain ⟨res, hres⟩ : ∃ res, nextBad (l.take i) (l.getD i ac0) = res := ⟨_, rfl⟩
  have Hres : Hid (nextBad (l.take i) (l.getD i ac0) = res) := hres
  rw [hres]
  clear hres hc
  have Hlen : (l.length : Int) ≤ 1000 := by omega
  have j0 : (0 : Int) ≤ i := by omega
  have j1 : (i : Int) < l.length := by omega
  have j2 : (i : Int) ≤ cap := by omega
  generalize l.getD i ac0 = x at *
  obtain ⟨x0, x1, x2, x3, x4⟩ := x
  obtain ⟨s1, s2⟩ := hsz
  simp only [Ac.cells] at hn b0 HA s1 s2
  obtain ⟨c0, c1, c2, c3, c4⟩ := hx
  obtain ⟨d0, d1, d2, d3, d4⟩ := hn
  simp only [Nat.zero_add] at c0 c1 c2 c3 c4 d0 d1 d2 d3 d4
  have S1 : Hid (x0.size ≤ maxLen) := s1
  clear s1 s2
  go_enter Tryz.func25, Tryz.ntmps25
  go_wp2_with fail
  refine (refDigits_any x0 6 _ S1.out).mono ?_
  rintro e w' ⟨rfl, hw⟩
  rw [hw]; clear hw w' c0 c1 c2 c3 c4
  cases h1 : madeOf digR 6 x0
  · have er : res = 2 := by rw [← Hres.out]; simp [nextBad, isCodeB, h1]
    subst er
    go_wp2
    go_ret
    exact ⟨rfl, b0⟩
  by_cases hn0 : x1.size = 0
  · have e0 := ch_empty hn0
    have e0' : x1.toList.isEmpty = true := by rw [e0]; rfl
    have er : res = 2 := by rw [← Hres.out]; simp [nextBad, isNameB, madeOf, hn0]
    subst er
    go_wp2
    go_ret
    exact ⟨rfl, b0⟩
  have e0 := ch_some hn0
  have e0' : x1.toList.isEmpty = false := by simpa using e0
  by_cases h24 : 24 < (x1.size : Int)
  · have er : res = 2 := by rw [← Hres.out]; unfold nextBad; rw [if_pos]; right; simp [isNameB, madeOf]; omega
    subst er
    go_wp2
    go_ret
    exact ⟨rfl, b0⟩
  go_wp2
  go_loop [7] (fun i => ∃ k : Nat, k ≤ x1.size ∧ i = .int .i64 k ∧ Hid (∀ j, j < k → namR (x1.get! j).toNat = true)) (fun i => x1.size - (intOf i).toNat)
  case atStart => exact ⟨0, Nat.zero_le _, rfl, fun j hj => absurd hj (Nat.not_lt_zero _)⟩
  case round =>
    obtain ⟨k, hk, rfl, Hk⟩ := hrel
    by_cases hlt : k < x1.size
    · have i0 : (0 : Int) ≤ k := by omega
      have i1 : (k : Int) < x1.size := by omega
      obtain ⟨c, hc⟩ : ∃ c, (x1[k]'hlt).toNat = c := ⟨_, rfl⟩
      have Hg : Hid (namR (x1.get! k).toNat = namR c) := by unfold Hid; rw [get_at x1 k hlt, hc]
      have bad : namR c = false → res = 2 := fun hb => by
        rw [← Hres.out]; unfold nextBad; rw [if_pos]
        right
        cases hm : isNameB x1
        · rfl
        · have := ((madeOf_iff (fun r => namR_low)).1 hm).2.2 k hlt
          rw [Hg.out, hb] at this
          cases this
      have good : namR c = true → Hid (∀ j, j < k + 1 → namR (x1.get! j).toNat = true) := fun hb j hj => by
        rcases (by omega : j < k ∨ j = k) with h' | rfl
        · exact Hk.out j h'
        · rw [Hg.out]; exact hb
      rcases (by omega : c ≤ 44 ∨ c = 45 ∨ 46 ≤ c ∧ c ≤ 47 ∨ 48 ≤ c ∧ c ≤ 57 ∨ 58 ≤ c ∧ c ≤ 64 ∨ 65 ≤ c ∧ c ≤ 90 ∨ 91 ≤ c ∧ c ≤ 96 ∨ 97 ≤ c ∧ c ≤ 122 ∨ 123 ≤ c) with hcl | hcl | hcl | hcl | hcl | hcl | hcl | hcl | hcl
      · have er := bad (by simp [namR, digR]; omega)
        subst er
        have t0 : ((c : Int) != 45) = true := by simp; omega
        have t1 : decide ((c : Int) < 48) = true := by simp; omega
        have t2 : decide (57 < (c : Int)) = false := by simp; omega
        have t3 : decide ((c : Int) < 65) = true := by simp; omega
        have t4 : decide (90 < (c : Int)) = false := by simp; omega
        have t5 : decide ((c : Int) < 97) = true := by simp; omega
        have t6 : decide (122 < (c : Int)) = false := by simp; omega
        clear bad good hcl
        go_wp2
        go_ret
        exact ⟨rfl, b0⟩
      · have HN := good (by simp [namR, digR]; omega)
        have t0 : ((c : Int) != 45) = false := by simp; omega
        have t1 : decide ((c : Int) < 48) = true := by simp; omega
        have t2 : decide (57 < (c : Int)) = false := by simp; omega
        have t3 : decide ((c : Int) < 65) = true := by simp; omega
        have t4 : decide (90 < (c : Int)) = false := by simp; omega
        have t5 : decide ((c : Int) < 97) = true := by simp; omega
        have t6 : decide (122 < (c : Int)) = false := by simp; omega
        clear bad good hcl
        go_wp2
        go_round
        case rel => exact ⟨k + 1, by omega, by go_num, HN⟩
        case measure => simp [intOf]; omega
      · have er := bad (by simp [namR, digR]; omega)
        subst er
        have t0 : ((c : Int) != 45) = true := by simp; omega
        have t1 : decide ((c : Int) < 48) = true := by simp; omega
        have t2 : decide (57 < (c : Int)) = false := by simp; omega
        have t3 : decide ((c : Int) < 65) = true := by simp; omega
        have t4 : decide (90 < (c : Int)) = false := by simp; omega
        have t5 : decide ((c : Int) < 97) = true := by simp; omega
        have t6 : decide (122 < (c : Int)) = false := by simp; omega
        clear bad good hcl
        go_wp2
        go_ret
        exact ⟨rfl, b0⟩
      · have HN := good (by simp [namR, digR]; omega)
        have t0 : ((c : Int) != 45) = true := by simp; omega
        have t1 : decide ((c : Int) < 48) = false := by simp; omega
        have t2 : decide (57 < (c : Int)) = false := by simp; omega
        have t3 : decide ((c : Int) < 65) = true := by simp; omega
        have t4 : decide (90 < (c : Int)) = false := by simp; omega
        have t5 : decide ((c : Int) < 97) = true := by simp; omega
        have t6 : decide (122 < (c : Int)) = false := by simp; omega
        clear bad good hcl
        go_wp2
        go_round
        case rel => exact ⟨k + 1, by omega, by go_num, HN⟩
        case measure => simp [intOf]; omega
      · have er := bad (by simp [namR, digR]; omega)
        subst er
        have t0 : ((c : Int) != 45) = true := by simp; omega
        have t1 : decide ((c : Int) < 48) = false := by simp; omega
        have t2 : decide (57 < (c : Int)) = true := by simp; omega
        have t3 : decide ((c : Int) < 65) = true := by simp; omega
        have t4 : decide (90 < (c : Int)) = false := by simp; omega
        have t5 : decide ((c : Int) < 97) = true := by simp; omega
        have t6 : decide (122 < (c : Int)) = false := by simp; omega
        clear bad good hcl
        go_wp2
        go_ret
        exact ⟨rfl, b0⟩
      · have HN := good (by simp [namR, digR]; omega)
        have t0 : ((c : Int) != 45) = true := by simp; omega
        have t1 : decide ((c : Int) < 48) = false := by simp; omega
        have t2 : decide (57 < (c : Int)) = true := by simp; omega
        have t3 : decide ((c : Int) < 65) = false := by simp; omega
        have t4 : decide (90 < (c : Int)) = false := by simp; omega
        have t5 : decide ((c : Int) < 97) = true := by simp; omega
        have t6 : decide (122 < (c : Int)) = false := by simp; omega
        clear bad good hcl
        go_wp2
        go_round
        case rel => exact ⟨k + 1, by omega, by go_num, HN⟩
        case measure => simp [intOf]; omega
      · have er := bad (by simp [namR, digR]; omega)
        subst er
        have t0 : ((c : Int) != 45) = true := by simp; omega
        have t1 : decide ((c : Int) < 48) = false := by simp; omega
        have t2 : decide (57 < (c : Int)) = true := by simp; omega
        have t3 : decide ((c : Int) < 65) = false := by simp; omega
        have t4 : decide (90 < (c : Int)) = true := by simp; omega
        have t5 : decide ((c : Int) < 97) = true := by simp; omega
        have t6 : decide (122 < (c : Int)) = false := by simp; omega
        clear bad good hcl
        go_wp2
        go_ret
        exact ⟨rfl, b0⟩
      · have HN := good (by simp [namR, digR]; omega)
        have t0 : ((c : Int) != 45) = true := by simp; omega
        have t1 : decide ((c : Int) < 48) = false := by simp; omega
        have t2 : decide (57 < (c : Int)) = true := by simp; omega
        have t3 : decide ((c : Int) < 65) = false := by simp; omega
        have t4 : decide (90 < (c : Int)) = true := by simp; omega
        have t5 : decide ((c : Int) < 97) = false := by simp; omega
        have t6 : decide (122 < (c : Int)) = false := by simp; omega
        clear bad good hcl
        go_wp2
        go_round
        case rel => exact ⟨k + 1, by omega, by go_num, HN⟩
        case measure => simp [intOf]; omega
      · have er := bad (by simp [namR, digR]; omega)
        subst er
        have t0 : ((c : Int) != 45) = true := by simp; omega
        have t1 : decide ((c : Int) < 48) = false := by simp; omega
        have t2 : decide (57 < (c : Int)) = true := by simp; omega
        have t3 : decide ((c : Int) < 65) = false := by simp; omega
        have t4 : decide (90 < (c : Int)) = true := by simp; omega
        have t5 : decide ((c : Int) < 97) = false := by simp; omega
        have t6 : decide (122 < (c : Int)) = true := by simp; omega
        clear bad good hcl
        go_wp2
        go_ret
        exact ⟨rfl, b0⟩
    · have hk2 : k = x1.size := by omega
      have hnm : isNameB x1 = true := (madeOf_iff (fun r => namR_low)).2 ⟨hn0, by omega, fun i hi => Hk.out i (by omega)⟩
      have hcd : isCodeB x0 = true := h1
      clear hk2 Hk
      by_cases h3 : x2 < 1
      · have er : res = 1 := by rw [← Hres.out]; simp [nextBad, hcd, hnm, h3]
        subst er
        go_wp2
        go_ret
        exact ⟨rfl, b0⟩
      by_cases h4 : 5 < x2
      · have er : res = 1 := by rw [← Hres.out]; simp [nextBad, hcd, hnm, h4]
        subst er
        go_wp2
        go_ret
        exact ⟨rfl, b0⟩
      have er : res = if (l.take i).length ≠ 0 ∧ leB x0 ((l.take i).getD ((l.take i).length - 1) ac0).code = true then 5 else parBad (l.take i) ⟨x0, x1, x2, x3, x4⟩ := by
        rw [← Hres.out]; unfold nextBad
        rw [if_neg (by simp [hcd, hnm]), if_neg (by simp; omega)]
      rw [hli] at er
      have ER : Hid (res = if i ≠ 0 ∧ leB x0 ((l.take i).getD (i - 1) ac0).code = true then 5 else parBad (l.take i) ⟨x0, x1, x2, x3, x4⟩) := er
      clear er Hres hcd hnm hli h24 hn0 e0 e0' h1
      have par : res = parBad (l.take i) ⟨x0, x1, x2, x3, x4⟩ → ∃ kk, res = kk ∧ ((x3.size = 0 ∧ kk = 0) ∨ (x3.size ≠ 0 ∧ idxP (hasCode x3) (l.take i) < 0 ∧ kk = 6) ∨ ∃ m : Nat, x3.size ≠ 0 ∧ idxP (hasCode x3) (l.take i) = (m : Int) ∧ m < i ∧ ((kk = 12 ∧ (l.getD m ac0).kind ≠ x2) ∨ (kk = 0 ∧ (l.getD m ac0).kind = x2))) := fun e => by
        refine ⟨_, rfl, ?_⟩
        rw [e]
        unfold parBad
        by_cases p0 : x3.size = 0
        · exact .inl ⟨p0, if_pos p0⟩
        · rw [if_neg p0]
          by_cases p1 : idxP (hasCode x3) (l.take i) < 0
          · exact .inr (.inl ⟨p0, p1, if_pos p1⟩)
          · rw [if_neg p1]
            obtain ⟨m, hm, em, _, _⟩ := idxP_some (p := hasCode x3) (l := l.take i) (by omega)
            have hmi : m < i := by simp only [List.length_take] at hm; omega
            refine .inr (.inr ⟨m, p0, em, hmi, ?_⟩)
            rw [em, Int.toNat_natCast, Htk.out m hmi]
            by_cases p2 : (l.getD m ac0).kind = x2
            · exact .inr ⟨by simp only; rw [if_neg (fun h => h p2)], p2⟩
            · exact .inl ⟨by simp only; rw [if_pos p2], p2⟩
      have Hpar : Hid (res = parBad (l.take i) ⟨x0, x1, x2, x3, x4⟩ → _) := par
      clear par
      by_cases hi0 : i = 0
      · subst hi0
        obtain ⟨kk, rfl, hkk⟩ := Hpar.out (by rw [ER.out, if_neg (fun h => h.1 rfl)])
        clear Hpar ER
        rcases hkk with ⟨p0, e⟩ | ⟨p0, p1, e⟩ | ⟨m, p0, em, hm, _⟩
        · have p0' := ch_empty p0
          subst e
          go_wp2_with fail
          go_quiet (fail)
          go_wp2
          go_ret
          exact ⟨rfl, ch_drewN b0 _⟩
        · have p0' := ch_some p0
          have p0'' : x3.toList.isEmpty = false := by simpa using p0'
          subst e
          go_wp2_with fail
          go_quiet (fail)
          go_wp2_with fail
          go_region_with (go_at_call 26; refine (HA.out _ (ch_drewN b0 _).drew).mono ?_; rintro e w' ⟨rfl, rfl⟩)
          all_goals
            go_wp2
            go_ret
            first | exact ⟨rfl, (ch_drewN b0 _).drew⟩ | exact ⟨rfl, ch_drewN b0 _⟩ | exact ⟨rfl, ch_drewN (ch_drewN b0 _).drew _⟩
        · omega
      · obtain ⟨q, hq⟩ : ∃ q, i = q + 1 := ⟨i - 1, by omega⟩
        have hp := (Hc.out _ b0 q (by omega)).c0
        have hcq : (l.take i).getD (i - 1) ac0 = l.getD q ac0 := by rw [show i - 1 = q by omega]; exact Htk.out q (by omega)
        rw [hcq] at ER
        have HcL : Hid (∀ m, m < i → (w.alloc (.cells #[.string x0, .string x1, .int .i64 x2, .string x3, .bool x4] 67)).cell? ⟨b, off + m * 5 + 2, none⟩ = some (.int .i64 (l.getD m ac0).kind)) := fun m hm => (Hc.out _ b0 m (by omega)).c2
        clear hcq
        subst hq
        generalize (l.getD q ac0).code = y0 at *
        have hq0 : (0 : Int) ≤ q := by omega
        have hqw : IntKind.i64.wrap (q : Int) = q := by rw [IntKind.wrap_i64]; omega
        have hq1 : (q : Int) < l.length := by omega
        by_cases hle : leB x0 y0 = true
        · have er : res = 5 := by rw [ER.out, if_pos ⟨by omega, hle⟩]
          subst er
          have hge : Op.bytesLess y0.toList x0.toList = false := leB_ge hle
          clear Hpar ER
          go_wp2_with fail
          go_quiet (fail)
          go_wp2
          go_ret
          exact ⟨rfl, ch_drewN b0 _⟩
        · have hge : Op.bytesLess y0.toList x0.toList = true := leB_lt hle
          obtain ⟨kk, rfl, hkk⟩ := Hpar.out (by rw [ER.out, if_neg (fun h => hle h.2)])
          clear Hpar ER
          rcases hkk with ⟨p0, e⟩ | ⟨p0, p1, e⟩ | ⟨m, p0, em, hm, he⟩
          · have p0' := ch_empty p0
            subst e
            go_wp2_with fail
            go_quiet (fail)
            go_wp2
            go_ret
            exact ⟨rfl, ch_drewN b0 _⟩
          · have p0' := ch_some p0
            have p0'' : x3.toList.isEmpty = false := by simpa using p0'
            subst e
            go_wp2_with fail
            go_quiet (fail)
            go_wp2_with fail
            go_region_with (go_at_call 26; refine (HA.out _ (ch_drewN b0 _).drew).mono ?_; rintro e w' ⟨rfl, rfl⟩)
            all_goals
              go_wp2
              go_ret
              first | exact ⟨rfl, (ch_drewN b0 _).drew⟩ | exact ⟨rfl, ch_drewN b0 _⟩ | exact ⟨rfl, ch_drewN (ch_drewN b0 _).drew _⟩
          · have p0' := ch_some p0
            have p0'' : x3.toList.isEmpty = false := by simpa using p0'
            have hk2 := HcL.out m hm
            have hA := fun W hW => HA.out W hW
            rw [em] at hA
            have HHA : Hid (∀ W, _) := hA
            clear hA HA em HcL
            generalize (l.getD m ac0).kind = y2 at *
            have m0 : (0 : Int) ≤ m := by omega
            have m1 : (m : Int) < l.length := by omega
            rcases he with ⟨e, hne⟩ | ⟨e, heq⟩
            · subst e
              have hne' : (y2 != x2) = true := by simp [hne]
              go_wp2_with fail
              go_quiet (fail)
              go_wp2_with fail
              go_region_with (go_at_call 26; refine (HHA.out _ (ch_drewN b0 _).drew).mono ?_; rintro e w' ⟨rfl, rfl⟩)
              all_goals
                go_wp2_with fail
                go_quiet (fail)
                go_wp2
                go_ret
                first | exact ⟨rfl, (ch_drewN b0 _).drew⟩ | exact ⟨rfl, ch_drewN b0 _⟩ | exact ⟨rfl, ch_drewN (ch_drewN b0 _).drew _⟩
            · subst e
              subst heq
              go_wp2_with fail
              go_quiet (fail)
              go_wp2_with fail
              go_region_with (go_at_call 26; refine (HHA.out _ (ch_drewN b0 _).drew).mono ?_; rintro e w' ⟨rfl, rfl⟩)
              all_goals
                go_wp2_with fail
                go_quiet (fail)
                go_wp2
                go_ret
                first | exact ⟨rfl, (ch_drewN b0 _).drew⟩ | exact ⟨rfl, ch_drewN b0 _⟩ | exact ⟨rfl, ch_drewN (ch_drewN b0 _).drew _⟩
end Go.Proofs.YtfkafjffjeipaaaGreatDoor
