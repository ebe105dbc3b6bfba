/-
  What is wrong with any rates, what any currency is worth in any other one, and any amount: for every list of rates, every base, both currencies, every period and every amount the call of daylaw1.RateFinds returns true, and its arguments read as they did. The library's variable for the type of errors is as the program's text lays it (the card ties it). No other condition.
-/
import Derived.Test.YtoggclbhjoodoaaDoorRows
import Derived.Test.YtoggclbhjoodoaaDoorCards
import Derived.Test.YtoggclbhjoodoaaDoorTie
import Derived.Test.YtoggclbhjoodoaaDoorFinds
import Derived.ChangeSame
import Derived.ChangeVars
import Derived.JoinedOf
import Derived.RowKit
import Derived.RowKitTokens
import Derived.LaidLaws
import Derived.LaidHandle
import Derived.Stop.Joined
import Derived.SevenTiedAt
import Derived.ProofKit
import Derived.Below
import Derived.OpenShut
import Derived.ShutString
import Derived.ChangeOld
import Derived.SizedLaws
namespace Go.Proofs.YtoggclbhjoodoaaDoor
open Go.ChangeShapes Go.WideShapes Go.RowKit Go.ChangeAt Go.Deep
open Go.ChangeMaps (open_string shut_string)
set_option linter.unusedVariables false
set_option linter.unusedSimpArgs false

theorem finds_own : ownKnob Tryd.prog.godebug = none := by kernel_rfl
theorem finds_laidOut : laidOutB Tryd.prog = true := by kernel_rfl
theorem finds_et : Tryd.prog.globalNamed "errors.errorType" = some 0 := by kernel_rfl
theorem finds_rt : (Tryd.prog.cutTypes.find? (·.1 == "internal/reflectlite.rtype")).map (·.2) = some 117 := by kernel_rfl
theorem finds_oneRow : ((List.range 167).filter fun t => Tryd.prog.rowNamed t [101, 114, 114, 111, 114]) = [26] := by kernel_rfl
theorem finds_size : Tryd.prog.types.size = 167 := by kernel_rfl

/-- What the condition gives: the variable's one cell. -/
theorem handle_of_laid {W : World} (h : laidMetH Tryd.prog [("errors.errorType", Rows.laid_errors_errorType)] W) : ErrT W := by
  have h' : laidMet Tryd.prog [] W ∧ handlesMet Tryd.prog [("errors.errorType", Rows.laid_errors_errorType)] W := h
  obtain ⟨name, u, ty, e1, e2, e3, e4, e5⟩ := h'.2 _ (List.mem_singleton.2 rfl)
  have en : name = [101, 114, 114, 111, 114] := (Option.some.inj e1).symm
  subst en
  obtain rfl := Option.some.inj (finds_rt.symm.trans e2)
  have hm : ty ∈ (List.range 167).filter fun t => Tryd.prog.rowNamed t [101, 114, 114, 111, 114] := List.mem_filter.2 ⟨List.mem_range.2 (by rw [← finds_size]; exact e3), e4⟩
  rw [finds_oneRow] at hm
  obtain rfl := List.mem_singleton.1 hm
  have hh : typeHandle Tryd.prog 26 = .pointer (some ⟨3, 26, none⟩) := by kernel_rfl
  rw [hh] at e5
  unfold ErrT
  simpa using World.var?_cell finds_et e5 0

/-- A world that meets the condition. -/
theorem laidWorld_met (os : Os) (args : Array Value) : laidMetH Tryd.prog [("errors.errorType", Rows.laid_errors_errorType)] (({ World.holding Tryd.prog os ⟨#[], #[], []⟩ with heap := (World.holding Tryd.prog os ⟨#[], #[], []⟩).heap.modify 0 fun | .cells _ t frozen => .cells #[.iface 117 (.agg #[.pointer (some ⟨3, 26, none⟩)])] t frozen | o => o } : World).forCall (fun _ _ => 0) ⟨#[], args, []⟩).memory :=
  laidMetH_of_parts (laidMet_nil _ _) (by kernel_rfl)


theorem mem_of_trod {H : Type} {enc : TypeId × Value → H} {W : World} {a : Option Addr} {len cap fuel : Nat} {x : DataW H × List MemPlace} (h : DataW.trod enc Tryd.prog W 0 (fun _ => true) true fuel 22 [.slice a len cap] = some x) :
    ∃ rs : List Rt, rs.length = len ∧ (∀ k, k < rs.length → RtOk (rs.getD k rt0)) ∧ (len = 0 ∨ ∃ b off, a = some ⟨b, off, none⟩ ∧ b < W.heap.size ∧ len ≤ cap ∧ RtsAt W b off rs) := by
  rcases open_slice Tryd.underlying22 h with ⟨hcs, _⟩ | ⟨x, l, c, m, n, D, Pl, hcs, _, hl, hm, hmm, _, hx⟩
  · simp at hcs
    obtain ⟨rfl, rfl, rfl⟩ := hcs
    exact ⟨[], rfl, by simp, .inl rfl⟩
  · simp at hcs
    obtain ⟨rfl, rfl, rfl⟩ := hcs
    have hmm2 : m = cap := hmm
    rw [rate_cells] at hx
    have hr : ∀ i, i < len → ∃ r : Rt, (∀ j, j < 5 → W.cell? ((x.add (i * 5)).add j) = r.cells.toList[j]?) ∧ RtOk r := fun i hi => by
      obtain ⟨cs', h1, h2⟩ := hx i (by omega)
      obtain ⟨r, rfl, ok⟩ := open_rate h2
      exact ⟨r, (World.cells?_some h1).2.2, ok⟩
    obtain ⟨f, hf⟩ := @choose_lt Rt ⟨rt0⟩ _ _ hr
    have hget : ∀ k, k < len → ((List.range len).map f).getD k rt0 = f k := fun k hk => by simp [List.getD, hk]
    have hlen : ((List.range len).map f).length = len := by simp
    refine ⟨(List.range len).map f, hlen, fun k hk => by rw [hlen] at hk; rw [hget k hk]; exact (hf k hk).2, ?_⟩
    by_cases h0 : len = 0
    · exact .inl h0
    right
    obtain ⟨b, off, spot⟩ := x
    have hc : W.cell? ⟨b, off, spot⟩ = some (.string (f 0).frm) := (hf 0 (by omega)).1 0 (by omega)
    have hspot : spot = none := World.cell?_spot hc
    subst hspot
    have hlt : b < W.heap.size := World.block_lt_of_cell? _ _ hc
    refine ⟨b, off, rfl, hlt, hl, fun k hk => ?_⟩
    rw [hlen] at hk
    rw [hget k hk]
    refine rt_cells W b (off + k * 5) (f k) (fun i hi => ?_)
    have := (hf k hk).1 i hi
    rw [add_none, add_none] at this
    exact this

theorem rts_below {w w' : World} {b off : Nat} {rs : List Rt} (h : RtsAt w b off rs) (hb : Below w.heap.size w w') (hlt : b < w.heap.size) : RtsAt w' b off rs := fun k hk => (h k hk).below hb hlt

/-- What is asked of a list that came in. -/
theorem both_of {W : World} {a : Option Addr} {len cap : Nat} {rs : List Rt} (hl : rs.length = len) (ok : ∀ k, k < rs.length → RtOk (rs.getD k rt0)) (hm : len = 0 ∨ ∃ b off, a = some ⟨b, off, none⟩ ∧ b < W.heap.size ∧ len ≤ cap ∧ RtsAt W b off rs) :
    (∀ w', Below W.heap.size W w' → Calls Tryd.prog 14 #[.slice a len cap] w' (TabEnd w' (tabS rs))) ∧ RefC W a len cap rs := by
  rcases hm with h0 | ⟨b, off, rfl, hb, hcap, hc⟩
  · subst h0
    obtain rfl : rs = [] := List.eq_nil_of_length_eq_zero hl
    refine ⟨fun w' hw => table_none a cap w', ⟨fun w' hw => ?_, fun h0 f t p w' hw => ?_⟩⟩
    · refine (refRates_none a cap w').mono ?_
      rintro e w2 ⟨rfl, hb⟩
      exact ⟨rfl, hw.trans (hb.mono hw.size)⟩
    · refine (direct_none a cap f t p w').mono ?_
      rintro e w2 ⟨rfl, k, rfl⟩
      exact ⟨rfl, below_dr hw k⟩
  · subst hl
    by_cases h1 : 100 < rs.length
    · refine ⟨fun w' hw => table_full _ _ _ _ w' rfl h1, ⟨fun w' hw => ?_, fun h0 f t p w' hw => ?_⟩⟩
      · refine (refRates_full _ _ _ rs w' rfl h1).mono ?_
        rintro e w2 ⟨rfl, hb⟩
        exact ⟨rfl, hw.trans (hb.mono hw.size)⟩
      · unfold ratesS at h0
        rw [if_pos h1] at h0
        cases h0
    · refine ⟨fun w' hw => table_some b off cap rs w' (Nat.lt_of_lt_of_le hb hw.size) (by omega) hcap (rts_below hc hw hb) (fun k hk => ⟨(ok k hk).1, (ok k hk).2.1⟩) (fun k hk => (ok k hk).2.2.1), ⟨fun w' hw => ?_, fun h0 f t p w' hw => ?_⟩⟩
      · refine (refRates_some b off cap rs w' (Nat.lt_of_lt_of_le hb hw.size) (by omega) (rts_below hc hw hb)).mono ?_
        rintro e w2 ⟨rfl, hb⟩
        exact ⟨rfl, hw.trans (hb.mono hw.size)⟩
      · refine (direct_some b off cap rs f t p w' (by omega) (rts_below hc hw hb)).mono ?_
        rintro e w2 ⟨rfl, k, rfl⟩
        exact ⟨rfl, below_dr hw k⟩

set_option maxRecDepth 100000 in
theorem finds_lifted (os : Os) (started : os.Started) (H : Type) (enc : TypeId × Value → H) :
    ReturnsInHanded {} Tryd.checked os 3 .any (fun w args => (Rows.rateFindsSpec.pre enc Tryd.prog Tryd.f3 [] false w args ∧ laidMetH Tryd.prog [("errors.errorType", Rows.laid_errors_errorType)] w) ∧ sizedMet enc Tryd.prog Tryd.f3 (OpenSpec.ofChange Rows.rateFindsSpec) false w args)
      (Rows.rateFindsSpec.post enc Tryd.prog Tryd.f3 false true false false) := by
  refine returnsInHanded_of_change_and (C := Tryd.checked) (X := fun w _ => laidMetH Tryd.prog [("errors.errorType", Rows.laid_errors_errorType)] w) (fun _ _ _ hh h => h.of_heap hh) finds_own started (by kernel_rfl) Tryd.func3
    (ChangeSpec.witness_at (enc := enc) (C := Tryd.checked) (os := os) (X := fun w _ => laidMetH Tryd.prog [("errors.errorType", Rows.laid_errors_errorType)] w) false ({ World.holding Tryd.prog os ⟨#[], #[], []⟩ with heap := (World.holding Tryd.prog os ⟨#[], #[], []⟩).heap.modify 0 fun | .cells _ t frozen => .cells #[.iface 117 (.agg #[.pointer (some ⟨3, 26, none⟩)])] t frozen | o => o } : World) #[.slice none 0 0, .string ⟨#[]⟩, .string ⟨#[]⟩, .string ⟨#[]⟩, .int .i64 0, .int .i64 0] 8 rfl (by kernel_rfl) (by kernel_rfl) (by kernel_rfl) (by kernel_rfl) (by kernel_rfl) (laidWorld_met os _)) ?_
  intro W base args ds gs before hval0 hW hcnd hsz0 hL _
  have hval : ∀ (j : Nat) t v, Tryd.f3.params[j]? = some t → args[j]? = some v → Value.okWide Tryd.prog W .any base t v := hval0
  have hW' := hW
  obtain ⟨p, q, hA0, hV, rfl, hfz, hnd⟩ := hW
  have hA : DataW.TrodAll enc Tryd.prog W 0 (fun _ => true) true Tryd.f3.params.toList args.toList ds p := hA0
  rw [Tryd.params3] at hA hval
  obtain ⟨v0, vs0, d0, ds0, p0, q0, hargs, rfl, rfl, h0, r0⟩ := trodAll_cons hA
  obtain ⟨v1, vs1, d1, ds1, p1, q1, rfl, rfl, rfl, h1, r1⟩ := trodAll_cons r0
  obtain ⟨v2, vs2, d2, ds2, p2, q2, rfl, rfl, rfl, h2, r2⟩ := trodAll_cons r1
  obtain ⟨v3, vs3, d3, ds3, p3, q3, rfl, rfl, rfl, h3, r3⟩ := trodAll_cons r2
  obtain ⟨v4, vs4, d4, ds4, p4, q4, rfl, rfl, rfl, h4, r4⟩ := trodAll_cons r3
  obtain ⟨v5, vs5, d5, ds5, p5, q5, rfl, rfl, rfl, h5, r5⟩ := trodAll_cons r4
  obtain ⟨rfl, rfl, rfl⟩ := trodAll_nil r5
  obtain rfl : args = #[v0, v1, v2, v3, v4, v5] := by cases args; simp_all
  obtain ⟨rfl, rfl⟩ := trodVars_none hV
  obtain ⟨a0, len0, cap0, rfl⟩ := okWide_slice Tryd.underlying22 (hval 0 22 v0 rfl rfl)
  have k0 := h0
  have lt0 : ∀ x ∈ p0, x.block < W.heap.size := by obtain ⟨m, hm⟩ := k0; exact DataW.trod_lt m _ _ _ hm
  obtain ⟨rs, hl, ok, hmem⟩ : ∃ rs : List Rt, rs.length = len0 ∧ (∀ k, k < rs.length → RtOk (rs.getD k rt0)) ∧ (len0 = 0 ∨ ∃ b off, a0 = some ⟨b, off, none⟩ ∧ b < W.heap.size ∧ len0 ≤ cap0 ∧ RtsAt W b off rs) := by
    obtain ⟨fuel, hf⟩ := h0
    exact mem_of_trod hf
  obtain ⟨hT, hC⟩ := both_of hl ok hmem
  obtain ⟨a1, rfl, rfl, rfl, w1⟩ := open_string Tryd.underlying9 (hval 1 9 v1 rfl rfl) h1
  obtain ⟨a2, rfl, rfl, rfl, w2⟩ := open_string Tryd.underlying9 (hval 2 9 v2 rfl rfl) h2
  obtain ⟨a3, rfl, rfl, rfl, w3⟩ := open_string Tryd.underlying9 (hval 3 9 v3 rfl rfl) h3
  obtain ⟨a4, rfl, rfl, rfl, w4⟩ := open_int Tryd.underlying3 (hval 4 3 v4 rfl rfl) h4
  obtain ⟨a5, rfl, rfl, rfl, w5⟩ := open_int Tryd.underlying3 (hval 5 3 v5 rfl rfl) h5
  clear hA0 hval0
  obtain ⟨c1, c2⟩ := bounds_i64 w5
  have hg := handle_of_laid hL
  refine (finds_walk a0 len0 cap0 rs a1 a2 a3 a4 a5 W hT hC c1 c2 hg).mono fun e W' ⟨he, bel⟩ => ?_
  subst he
  exact ⟨_, rfl, _, _, _, [], _, [], hW', trodAll_mk1 (shut_bool Tryd.underlying4 _), (trodAll_cons_mk (Below.trod finds_laidOut (by kernel_rfl) (of_decide_eq_true (by kernel_rfl)) k0 bel lt0) (trodAll_cons_mk (shut_string Tryd.underlying9 w1) (trodAll_cons_mk (shut_string Tryd.underlying9 w2) (trodAll_cons_mk (shut_string Tryd.underlying9 w3) (trodAll_cons_mk (shut_int Tryd.underlying3 w4) (trodAll_cons_mk (shut_int Tryd.underlying3 w5) trodAll_mk0)))))), rfl, bel.frame _, fun h => by cases h⟩

theorem finds_over : Rows.RateFindsSaid :=
  OpenClaim.holds_of_wide 3 Tryd.f3 rfl rfl rfl rfl rfl rfl rfl ⟨rfl, rfl, rfl, rfl, rfl⟩ rfl rfl rfl rfl rfl (by kernel_rfl) Tryd.func3 (by kernel_rfl)
    (of_decide_eq_true (by kernel_rfl)) (by unfold Func.isWrapper; first | (rw [if_pos (by decide +kernel)]; kernel_rfl) | (rw [if_neg (by decide +kernel)]; exact ⟨rfl, rfl⟩))
    (fun os started H enc _ => finds_lifted os started H enc)

/-- The statement. -/
theorem rateFinds_holds : Rows.RateFindsCardSaid :=
  Claim7.holds_tied_plain_at .later [] [.handle] true _ true
    finds_over (fun _ h => by cases h) (by kernel_rfl) (fun _ h => by cases h) rateFinds_row_tie rfl ⟨rfl, rfl⟩ (by kernel_rfl) rfl
    (fun f fn hf hfn => by
      obtain rfl : f = 3 := Option.some.inj ((show Tryd.prog.funcNamed "quarterday/daylaw1.RateFinds" = some 3 by kernel_rfl).symm.trans hf) |>.symm
      obtain rfl : fn = Tryd.f3 := (Option.some.inj (Tryd.func3.symm.trans hfn)).symm
      exact ⟨by kernel_rfl, fun j t ht => by
        rw [Tryd.params3] at ht
        have h3 : t = 22 ∨ t = 9 ∨ t = 3 := by
          rcases j with _ | _ | _ | _ | _ | _ | j
          · exact .inl (by simpa using ht.symm)
          · exact .inr (.inl (by simpa using ht.symm))
          · exact .inr (.inl (by simpa using ht.symm))
          · exact .inr (.inl (by simpa using ht.symm))
          · exact .inr (.inr (by simpa using ht.symm))
          · exact .inr (.inr (by simpa using ht.symm))
          · simp at ht
        rcases h3 with rfl | rfl | rfl
        · exact (show Tryd.prog.wantsStandIn 22 = false by kernel_rfl)
        · exact (show Tryd.prog.wantsStandIn 9 = false by kernel_rfl)
        · exact (show Tryd.prog.wantsStandIn 3 = false by kernel_rfl)⟩)
    (by kernel_rfl)
#print axioms rateFinds_holds
end Go.Proofs.YtoggclbhjoodoaaDoor
