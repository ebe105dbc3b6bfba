/-
  The contract of ledger.Merge.
-/
import Derived.Test.YtcamimjjmcdbcaaLd7
namespace Go.Proofs.Ytcamimjjmcdbcaa
set_option linter.unusedVariables false
set_option linter.unusedSimpArgs false
set_option maxRecDepth 100000
open Go.RowKit Go.Lib
theorem PMp.new (W : World) (n : Nat) (hn : n ≤ W.heap.size) (vs : Nat → Value) : PMp (W.alloc (.map #[] 0)) n W.heap.size [] vs :=
  ⟨ld_new_heap W _, hn, fun p hp => by simp at hp, by simp, fun i hi => by simp at hi, fun i j hi => by simp at hi, fun p hp => by simp at hp⟩
/-- A list of two. -/
def mgL (a b : List Bl) (i : Nat) : List Bl := if i = 0 then a else b
/-- What the outer loop keeps: so many lists are in. -/
structure Mo (W : World) (a b : List Bl) (i : Nat) (U : World) : Prop where
  pm : ∃ vs, PMp U W.heap.size W.heap.size (parts (if i = 0 then [] else if i = 1 then a else a ++ b)) vs
  keep : AKeep W.heap.size W.heap.size (W.alloc (.map #[] 0)) U
  fa : 1 ≤ i → Fine a
  fb : 2 ≤ i → Fine b
theorem parts_take (l m : List Bl) (k : Nat) (h : k < m.length) : parts (l ++ m.take (k + 1)) = addP (parts (l ++ m.take k)) (m.getD k bl0) := by
  rw [bls_take m k h, ← List.append_assoc, parts_snoc]
theorem AKeep.isBl {n mb : Nat} {V W : World} {a : Option Addr} {l : List Bl} {cap : Nat} (h : IsBl V a l cap) (hk : AKeep n mb V W) (hm : ∀ b off, a = some ⟨b, off, none⟩ → b < n ∧ b ≠ mb) : IsBl W a l cap := by
  refine ⟨h.cap, ?_⟩
  rcases h.lies with e | ⟨b, off, e, hlt, hc⟩
  · exact .inl e
  · refine .inr ⟨b, off, e, Nat.lt_of_lt_of_le hlt hk.size, fun k hk2 => ?_⟩
    obtain ⟨h1, h2⟩ := hm b off e
    have hb := hk.block b hlt h2 (.inl h1)
    have hcell : ∀ o, W.cell? ⟨b, o, none⟩ = V.cell? ⟨b, o, none⟩ := fun o => by simp only [World.cell?, hb]
    have := hc k hk2
    exact ⟨(hcell _).trans this.c0, (hcell _).trans this.c1, (hcell _).trans this.c2, (hcell _).trans this.c3⟩

set_option maxHeartbeats 8000000 in
theorem merge_any (a1 a2 : Option Addr) (c1 c2 : Nat) (a b : List Bl) (W : World) (ha : IsBl W a1 a c1) (hb : IsBl W a2 b c2) (la : a.length ≤ 9223372036854775807) (lb : b.length ≤ 9223372036854775807) (oka : ∀ x ∈ a, BlOk x) (okb : ∀ x ∈ b, BlOk x) :
    Calls Try.prog 5 #[.slice a1 a.length c1, .slice a2 b.length c2] W fun e w' => Below W.heap.size W w' ∧ (mgE a b ≠ 0 → e = .returned (.tuple #[.slice none 0 0, enE (mgE a b)])) ∧ (mgE a b = 0 → ∃ v R, e = .returned (.tuple #[v, .nilIface]) ∧ Hid (BlRow w' W.heap.size v R ∧ MgR a b R)) := by
  have hmm := @run_makeMap Try.prog
  obtain ⟨W2, hW2⟩ : ∃ W2, (W.alloc (.map #[] 0)).alloc (.cells #[.slice a1 a.length c1, .slice a2 b.length c2] 22) = W2 := ⟨_, rfl⟩
  have hb1 : Below W.heap.size W (W.alloc (.map #[] 0)) := (Below.refl _ W).alloc (Nat.le_refl _) _
  have hb2 : Below (W.alloc (.map #[] 0)).heap.size (W.alloc (.map #[] 0)) W2 := by rw [← hW2]; exact (Below.refl _ _).alloc (Nat.le_refl _) _
  have hrow : W2.heap[W.heap.size + 1]? = some (.cells #[.slice a1 a.length c1, .slice a2 b.length c2] 22 (0, 0)) := by
    rw [← hW2]
    have := ld_new_heap (W.alloc (.map #[] 0)) (.cells #[.slice a1 a.length c1, .slice a2 b.length c2] 22)
    simpa using this
  have HM0 : Hid (Mo W a b 0 W2) := ⟨⟨fun _ => .slice none 0 0, (PMp.new W _ (Nat.le_refl _) _).below hb2⟩, AKeep.of_below hb2, fun h => by omega, fun h => by omega⟩
  have HF : Hid (∀ U, AKeep W.heap.size W.heap.size (W.alloc (.map #[] 0)) U → Below W.heap.size W U) := fun U hk => hb1.trans (hk.below (Nat.le_refl _) (by simp))
  have HR : Hid (∀ U, AKeep W.heap.size W.heap.size W2 U → U.cell? ⟨W.heap.size + 1, 0, none⟩ = some (.slice a1 a.length c1) ∧ U.cell? ⟨W.heap.size + 1, 1, none⟩ = some (.slice a2 b.length c2)) := fun U hk => by
    have e := (hk.block (W.heap.size + 1) (Array.getElem?_eq_some_iff.1 hrow).1 (by omega) (.inr (fun cs e => by rw [hrow] at e; simp only [Option.some.injEq, Obj.cells.injEq] at e; exact absurd e.2.1 (by decide)))).trans hrow
    simp [World.cell?, e]
  have HA : Hid (IsBl W a1 a c1 ∧ IsBl W a2 b c2 ∧ (∀ x ∈ a, BlOk x) ∧ (∀ x ∈ b, BlOk x) ∧ a.length ≤ 9223372036854775807 ∧ b.length ≤ 9223372036854775807) := ⟨ha, hb, oka, okb, la, lb⟩
  have HW2 : Hid ((W.alloc (.map #[] 0)).alloc (.cells #[.slice a1 a.length c1, .slice a2 b.length c2] 22) = W2) := hW2
  have HK2 : Hid (AKeep W.heap.size W.heap.size W2 W2) := AKeep.refl _ _ _
  obtain ⟨la', hla⟩ : ∃ x, a.length = x := ⟨_, rfl⟩
  obtain ⟨lb', hlb⟩ : ∃ x, b.length = x := ⟨_, rfl⟩
  rw [hla, hlb] at HR HW2 ⊢
  have HLA : Hid (a.length = la' ∧ b.length = lb') := ⟨hla, hlb⟩
  clear ha hb la lb oka okb hb1 hb2 hrow hW2 hla hlb
  go_enter Try.func5, Try.ntmps5
  go_wp2_with fail
  rw [HW2.out]
  go_loopw [19] (fun iv wr => ∃ i : Nat, i ≤ 2 ∧ iv = .int .i64 i ∧ Hid (Mo W a b i wr ∧ AKeep W.heap.size W.heap.size W2 wr)) (fun iv _ => 2 - (intOf iv).toNat)
  case atStart => exact ⟨0, by omega, rfl, HM0.out, HK2.out⟩
  case round =>
    obtain ⟨i, hi, rfl, HM⟩ := hrel
    by_cases hlt : i < 2
    · obtain ⟨ai, ci, hcell, hIs, hok, hll⟩ : ∃ ai ci, wr.cell? ⟨W.heap.size + 1, i, none⟩ = some (.slice ai (mgL a b i).length ci) ∧ IsBl W ai (mgL a b i) ci ∧ (∀ x ∈ mgL a b i, BlOk x) ∧ (mgL a b i).length ≤ 9223372036854775807 := by
        obtain ⟨r0, r1⟩ := HR.out wr HM.out.2
        rcases (by omega : i = 0 ∨ i = 1) with rfl | rfl
        · exact ⟨a1, c1, by rw [show mgL a b 0 = a from rfl, HLA.out.1]; exact r0, HA.out.1, HA.out.2.2.1, HA.out.2.2.2.2.1⟩
        · exact ⟨a2, c2, by rw [show mgL a b 1 = b from rfl, HLA.out.2]; exact r1, HA.out.2.1, HA.out.2.2.2.1, HA.out.2.2.2.2.2⟩
      have hIs1 : IsBl wr ai (mgL a b i) ci := hIs.below (HF.out wr HM.out.1.keep)
      have HCk : Hid (Calls _ _ _ wr _) := check_any ai ci (mgL a b i) wr hll hIs1
      have i0 : (0 : Int) ≤ i := by omega
      have i1 : (i : Int) < 2 := by omega
      obtain ⟨li, hli⟩ : ∃ li, mgL a b i = li := ⟨_, rfl⟩
      have HLi : Hid (mgL a b i = li) := hli
      rw [hli] at hcell hIs hok HCk hIs1 hll
      have HIs : Hid (IsBl W ai li ci ∧ ∀ x ∈ li, BlOk x) := ⟨hIs, hok⟩
      clear hli hIs hok hIs1
      by_cases hck : chk li = 0
      · rw [hck, enE_zero] at HCk
        have hfine : Fine li := chk_zero.1 hck
        have HFi : Hid (Fine li) := hfine
        have hl200 : (li.length : Int) ≤ 200 := by have := hfine.len; omega
        clear hfine hck
        go_wp2_with (go_at_call 10; refine HCk.out.mono ?_; rintro e w' ⟨rfl, hbc⟩)
        obtain ⟨pre, hpre⟩ : ∃ pre, (if i = 0 then [] else if i = 1 then a else a ++ b) = pre := ⟨_, rfl⟩
        have HPre : Hid ((if i = 0 then [] else if i = 1 then a else a ++ b) = pre) := hpre
        have hprel : pre.length ≤ 200 := by
          rw [← hpre]
          rcases (by omega : i = 0 ∨ i = 1) with rfl | rfl
          · simp
          · exact (HM.out.1.fa (Nat.le_refl _)).len
        have HP0 : Hid ((∃ vs, PMp w' W.heap.size W.heap.size (parts (pre ++ li.take 0)) vs) ∧ AKeep W.heap.size W.heap.size wr w') := by
          obtain ⟨vs, hvs⟩ := HM.out.1.pm
          rw [hpre] at hvs
          exact ⟨⟨vs, by rw [List.take_zero, List.append_nil]; exact hvs.below hbc⟩, AKeep.of_below hbc⟩
        clear hbc HCk hpre hcell
        go_loopw [30] (fun jv wq => ∃ j : Nat, j ≤ li.length ∧ jv = .int .i64 j ∧ Hid ((∃ vs, PMp wq W.heap.size W.heap.size (parts (pre ++ li.take j)) vs) ∧ AKeep W.heap.size W.heap.size wr wq)) (fun jv _ => li.length - (intOf jv).toNat)
        case atStart => exact ⟨0, Nat.zero_le _, rfl, HP0⟩
        case round =>
          rename World => wq
          obtain ⟨j, hj, rfl, HJ⟩ := hrel
          have j0 : (0 : Int) ≤ j := by omega
          by_cases hjl : j < li.length
          · have j1 : (j : Int) < li.length := by omega
            obtain ⟨b0, off0, rfl, hb0, hc0⟩ := HIs.out.1.some hjl
            have hBq : Below W.heap.size W wq := HF.out wq (HM.out.1.keep.trans HJ.out.2)
            have hx := (hc0 j hjl).below hBq hb0
            obtain ⟨vs, hvs⟩ := HJ.out.1
            have hokx := HIs.out.2 _ (bls_mem li j hjl)
            obtain ⟨x, hxx⟩ : ∃ x, li.getD j bl0 = x := ⟨_, rfl⟩
            have HX : Hid (li.getD j bl0 = x) := hxx
            rw [hxx] at hx hokx
            obtain ⟨V, hV⟩ : ∃ V, wq.alloc (.cells x.cells 28) = V := ⟨_, rfl⟩
            have hbV : Below wq.heap.size wq V := by rw [← hV]; exact (Below.refl _ _).alloc (Nat.le_refl _) _
            have hVh : V.heap[wq.heap.size]? = some (.cells x.cells 28 (0, 0)) := by rw [← hV]; exact ld_new_heap wq _
            have HAdd : Hid (Calls _ _ _ V _) := add_any x V _ _ _ vs (hvs.below hbV) hokx.key hokx.amt (fun p hp => by
              have := parts_zs _ p hp
              simp only [List.length_append, List.length_take] at this
              omega)
            have HNx : Hid (∀ U, (∃ vs', Hid (PMp U W.heap.size W.heap.size (addP (parts (pre ++ li.take j)) x) vs' ∧ AKeep W.heap.size W.heap.size V U)) → (∃ vs, PMp U W.heap.size W.heap.size (parts (pre ++ li.take (j + 1))) vs) ∧ AKeep W.heap.size W.heap.size wr U) := fun U ⟨vs', h⟩ => by
              refine ⟨⟨vs', ?_⟩, HJ.out.2.trans ((AKeep.of_below hbV).trans h.out.2)⟩
              rw [parts_take pre li j hjl, HX.out]
              exact h.out.1
            have HV : Hid (wq.alloc (.cells x.cells 28) = V) := hV
            clear hvs hc0 hBq hokx hxx hbV hV HX
            obtain ⟨x0, x1, x2, x3⟩ := x
            obtain ⟨d0, d1, d2, d3⟩ := hx
            simp only [Bl.cells] at d0 d1 d2 d3 HV hVh HAdd
            have f0 : V.cell? ⟨wq.heap.size, 0, none⟩ = some (.int .i64 x0) := by simp [World.cell?, hVh]
            have f1 : V.cell? ⟨wq.heap.size, 1, none⟩ = some (.string x1) := by simp [World.cell?, hVh]
            have f2 : V.cell? ⟨wq.heap.size, 2, none⟩ = some (.string x2) := by simp [World.cell?, hVh]
            have f3 : V.cell? ⟨wq.heap.size, 3, none⟩ = some (.int .i64 x3) := by simp [World.cell?, hVh]
            clear hVh
            go_wp2_with (go_at_call 11; rw [HV.out]; refine HAdd.out.mono ?_; rintro e U ⟨rfl, hU⟩)
            have HU : Hid ((∃ vs, PMp U W.heap.size W.heap.size (parts (pre ++ li.take (j + 1))) vs) ∧ AKeep W.heap.size W.heap.size wr U) := HNx.out U hU
            clear hU HNx HAdd d0 d1 d2 d3 f0 f1 f2 f3
            go_roundw
            case rel => exact ⟨j + 1, by omega, by go_num, HU⟩
            case measure => simp [intOf]; omega
          · have j1 : ¬ (j : Int) < li.length := by omega
            obtain rfl : j = li.length := by omega
            have HN : Hid (Mo W a b (i + 1) wq ∧ AKeep W.heap.size W.heap.size W2 wq) := by
              obtain ⟨vs, hvs⟩ := HJ.out.1
              rw [List.take_length] at hvs
              refine ⟨⟨⟨vs, ?_⟩, HM.out.1.keep.trans HJ.out.2, fun _ => ?_, fun h => ?_⟩, HM.out.2.trans HJ.out.2⟩
              · rcases (by omega : i = 0 ∨ i = 1) with rfl | rfl
                · rw [← HPre.out, ← HLi.out] at hvs
                  exact hvs
                · rw [← HPre.out, ← HLi.out] at hvs
                  exact hvs
              · rcases (by omega : i = 0 ∨ i = 1) with rfl | rfl
                · have := HFi.out; rw [← HLi.out] at this; exact this
                · exact HM.out.1.fa (Nat.le_refl _)
              · have e : i = 1 := by omega
                subst e
                have := HFi.out; rw [← HLi.out] at this; exact this
            clear HJ HP0
            go_wp2_with fail
            go_roundw
            case rel => exact ⟨i + 1, by omega, by go_num, HN⟩
            case measure => simp [intOf]; omega
      · have HE : Hid (mgE a b = chk li) := by
          unfold Hid mgE
          rcases (by omega : i = 0 ∨ i = 1) with rfl | rfl
          · rw [← HLi.out] at hck ⊢
            exact if_pos hck
          · have h0 : chk a = 0 := chk_zero.2 (HM.out.1.fa (Nat.le_refl _))
            rw [← HLi.out] at hck ⊢
            rw [if_neg (by simp [h0])]
            exact if_pos hck
        have HB : Hid (Below W.heap.size W wr) := HF.out wr HM.out.1.keep
        rw [enE_ne hck] at HCk
        obtain ⟨cc, hcc⟩ : ∃ cc, chk li = cc := ⟨_, rfl⟩
        rw [hcc] at HCk HE hck
        clear hcc
        go_wp2_with (go_at_call 10; refine HCk.out.mono ?_; rintro e w' ⟨rfl, hbc⟩)
        go_ret2
        exact ⟨HB.out.trans (hbc.mono HB.out.size), fun _ => by rw [HE.out, enE_ne hck]; rfl, fun h => absurd (HE.out.symm.trans h) hck⟩
    · obtain rfl : i = 2 := by omega
      obtain ⟨vs, hvs⟩ := HM.out.1.pm
      have hvs' : PMp wr W.heap.size W.heap.size (parts (a ++ b)) vs := hvs
      have fa := HM.out.1.fa (by omega)
      have fb := HM.out.1.fb (by omega)
      have hpl := parts_length (a ++ b)
      have la := fa.len
      have lb := fb.len
      rw [List.length_append] at hpl
      have HTg : Hid (Calls _ _ _ wr _) := together_any wr _ _ _ vs hvs' (fun p hp => by
        have := parts_zs _ p hp
        simp only [List.length_append] at this
        omega) (by omega)
      have ht := tgE_two fa fb
      have hk1 : chk a = 0 := chk_zero.2 fa
      have hk2 : chk b = 0 := chk_zero.2 fb
      have HB : Hid (Below W.heap.size W wr) := HF.out wr HM.out.1.keep
      by_cases h200 : 200 < (parts (a ++ b)).length
      · rw [if_pos h200] at ht
        have HE : Hid (mgE a b = 4) := by
          unfold Hid mgE
          rw [if_neg (by simp [hk1]), if_neg (by simp [hk2]), if_pos h200]
        have HT2 : Hid (Calls Try.prog 12 #[.map (some W.heap.size)] wr fun e w' => e = .returned (.tuple #[.slice none 0 0, .iface 48 (.int .i64 4)]) ∧ Below wr.heap.size wr w') := HTg.out.mono (fun e w' ⟨h1, h2, _⟩ => ⟨by rw [h2 (by rw [ht]; decide), ht]; rfl, h1⟩)
        clear HTg hvs hvs' hpl la lb ht hk1 hk2 HM fa fb
        go_wp2_with (go_at_call 12; refine HT2.out.mono ?_; rintro e w' ⟨rfl, hbc⟩)
        go_ret2
        exact ⟨HB.out.trans (hbc.mono HB.out.size), fun _ => by rw [HE.out]; rfl, fun h => by rw [HE.out] at h; cases h⟩
      · rw [if_neg h200] at ht
        have hok2 : ∀ x ∈ a ++ b, BlOk x := fun x hx => by
          rcases List.mem_append.1 hx with hx | hx
          · exact HA.out.2.2.1 x hx
          · exact HA.out.2.2.2.1 x hx
        have HT2 : Hid (Calls Try.prog 12 #[.map (some W.heap.size)] wr fun e w' => ∃ sa sc R, e = .returned (.tuple #[.slice sa R.length sc, .nilIface]) ∧ Hid (Below W.heap.size W w' ∧ BlRow w' W.heap.size (.slice sa R.length sc) R ∧ MgR a b R ∧ (R.any tooB = true → mgE a b = 10) ∧ (R.any tooB = false → mgE a b = 0))) := by
          refine HTg.out.mono ?_
          rintro e w' ⟨h1, _, h3⟩
          obtain ⟨v, R, rfl, h4⟩ := h3 ht
          obtain ⟨h5, h6, h7⟩ := h4.out
          have hBw : Below W.heap.size W w' := HB.out.trans (h1.mono HB.out.size)
          have h8 : BlRow w' W.heap.size v R := by
            rcases h5.2 with ⟨hv, hn⟩ | ⟨g1, c1, cur, hv, hb1, r⟩
            · exact ⟨h5.1, .inl ⟨hv, hn⟩⟩
            · exact ⟨h5.1, .inr ⟨g1, c1, cur, hv, Nat.le_trans HB.out.size hb1, r⟩⟩
          obtain ⟨sa, sc, rfl, _⟩ := h8.isBl
          refine ⟨sa, sc, R, rfl, hBw, h8, ⟨sums_of_perm h6 h7, Nat.le_trans (len_of_perm h7) (by omega), ok_of_perm h7 hok2 (two_fit fa fb)⟩, fun h => ?_, fun h => ?_⟩
          · have := (any_too h7).1 h
            unfold mgE
            rw [if_neg (by simp [hk1]), if_neg (by simp [hk2]), if_neg h200, if_neg this]
          · have : ¬ R.any tooB = true := by rw [h]; simp
            unfold mgE
            rw [if_neg (by simp [hk1]), if_neg (by simp [hk2]), if_neg h200, if_pos]
            false_or_by_contra
            rename_i h9
            exact this ((any_too h7).2 h9)
        clear HTg hvs hvs' hpl la lb ht hk1 hk2 HM fa fb hok2 HB
        go_wp2_with (go_at_call 12; refine HT2.out.mono ?_; rintro e w' ⟨sa, sc, R, rfl, hR⟩)
        have HCf : Hid (Calls _ _ _ w' _) := blContains_any 14 tooB sa sc R w' merge1_tells (by have := hR.out.2.2.1.len; omega) (by
          obtain ⟨_, _, e, h⟩ := hR.out.2.1.isBl
          cases e
          exact h)
        cases hq : R.any tooB
        · rw [hq] at HCf
          have HE : Hid (mgE a b = 0) := hR.out.2.2.2.2 hq
          clear hq
          go_wp2_with (go_at_call 13; refine HCf.out.mono ?_; rintro e w9 ⟨rfl, hb9⟩)
          go_ret2
          exact ⟨hR.out.1.trans (hb9.mono hR.out.1.size), fun h => absurd HE.out h, fun _ => ⟨_, R, rfl, hR.out.2.1.below hb9, hR.out.2.2.1⟩⟩
        · rw [hq] at HCf
          have HE : Hid (mgE a b = 10) := hR.out.2.2.2.1 hq
          clear hq
          go_wp2_with (go_at_call 13; refine HCf.out.mono ?_; rintro e w9 ⟨rfl, hb9⟩)
          go_ret2
          exact ⟨hR.out.1.trans (hb9.mono hR.out.1.size), fun _ => by rw [HE.out]; rfl, fun h => by rw [HE.out] at h; cases h⟩
end Go.Proofs.Ytcamimjjmcdbcaa
