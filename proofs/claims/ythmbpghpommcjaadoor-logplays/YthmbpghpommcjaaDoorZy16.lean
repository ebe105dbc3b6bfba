/-
  Any steps on a log: for all numbers and all lists the call of daylaw2.LogPlays returns true, and its arguments read as they did. The library's variable for the type of errors is as the program's text lays it (the card ties it). No other condition.
-/
import Derived.Test.YthmbpghpommcjaaDoorRows
import Derived.Test.YthmbpghpommcjaaDoorCards
import Derived.Test.YthmbpghpommcjaaDoorTie
import Derived.Test.YthmbpghpommcjaaDoorZy15
import Derived.ChangeSlices
import Derived.WalkKit
import Derived.ChangeSame
import Derived.ChangeVars
import Derived.JoinedOf
import Derived.RowKit
import Derived.RowKitTokens
import Derived.LaidLaws
import Derived.LaidHandle
import Derived.Stop.Joined
import Derived.SevenTiedAt
import Derived.ProofKit
import Derived.Below
import Derived.OpenShut
import Derived.ShutString
import Derived.ChangeOld
import Derived.SizedLaws
import Derived.Deep.Slices
namespace Go.Proofs.YthmbpghpommcjaaDoor
open Go.ChangeShapes Go.WideShapes Go.RowKit Go.ChangeAt Go.Deep
open Go.ChangeMaps (open_string shut_string)
set_option linter.unusedVariables false
set_option linter.unusedSimpArgs false

/-- Numbers that came in. -/
theorem isIn_of {W : World} {x : Addr} {len cap : Nat} {zs : List Int} (hl : len ≤ cap) (hz : zs.length = cap) (hcell : ∀ i, i < zs.length → W.cell? (x.add i) = some (.int .i64 (zs.getD i 0))) :
    ∃ is : List Int, is.length = len ∧ IsIn W (some x) is cap := by
  have hlen : (zs.take len).length = len := by simp; omega
  refine ⟨zs.take len, hlen, by rw [hlen]; exact hl, ?_⟩
  by_cases h0 : len = 0
  · subst h0; exact .inl (by simp)
  · right
    obtain ⟨b, off, spot⟩ := x
    have hc : W.cell? ⟨b, off, spot⟩ = some (.int .i64 (zs.getD 0 0)) := hcell 0 (by omega)
    have hspot : spot = none := World.cell?_spot hc
    subst hspot
    refine ⟨b, off, rfl, World.block_lt_of_cell? _ _ hc, fun k hk => ?_⟩
    rw [hlen] at hk
    have h1 := hcell k (by omega)
    rw [Addr.add_mid] at h1
    rw [h1]
    simp [List.getD, List.getElem?_take, hk]

section
variable {H : Type} {enc : TypeId × Value → H}
theorem ints_cells : Tryd.prog.cellsOf 35 = 1 := by kernel_rfl
/-- Lists that came in. -/
theorem rows_of_trod {W : World} {a : Option Addr} {len cap fuel : Nat} {x : DataW H × List MemPlace} (h : DataW.trod enc Tryd.prog W 0 (fun _ => true) true fuel 22 [.slice a len cap] = some x) :
    ∃ rs : List Rw, rs.length = len ∧ IsRs W a rs cap ∧ rs.length ≤ 9223372036854775807 := by
  rcases open_slice1 Tryd.underlying22 ints_cells h with ⟨hcs, _⟩ | ⟨x, l, c, m, n, V, D, Pl, hcs, _, hl, hm, hmm, _, hx⟩
  · simp at hcs
    obtain ⟨rfl, rfl, rfl⟩ := hcs
    exact ⟨[], rfl, ⟨by simp, .inl rfl, by simp⟩, by simp⟩
  · simp at hcs
    obtain ⟨rfl, rfl, rfl⟩ := hcs
    have hmm2 : m = cap := hmm
    have hr : ∀ i, i < len → ∃ r : Rw, W.cell? (x.add i) = some (.slice r.ad r.l.length r.cap) ∧ IsIn W r.ad r.l r.cap ∧ r.l.length ≤ 9223372036854775807 := fun i hi => by
      obtain ⟨hc0, h2⟩ := hx i (by omega)
      rcases open_ints Tryd.underlying35 Tryd.underlying3 (by kernel_rfl) h2 with ⟨hcs, _⟩ | ⟨y, l, c, zs, hcs, _, hl', hm', hz, hy, hcell, hwz⟩
      · simp at hcs
        rw [hcs] at hc0
        exact ⟨⟨none, [], 0⟩, hc0, ⟨by simp, .inl rfl⟩, by simp⟩
      · simp at hcs
        rw [hcs] at hc0
        have hz' : zs.length = c := by simpa using hz
        obtain ⟨is, e1, e2⟩ := isIn_of hl' hz' hcell
        refine ⟨⟨some y, is, c⟩, by simp only [e1]; exact hc0, e2, ?_⟩
        unfold maxLen at hm'
        show is.length ≤ _
        omega
    obtain ⟨f, hf⟩ := @choose_lt Rw ⟨rw0⟩ _ _ hr
    have hget : ∀ k, k < len → ((List.range len).map f).getD k rw0 = f k := fun k hk => by simp [List.getD, hk]
    have hlen : ((List.range len).map f).length = len := by simp
    refine ⟨(List.range len).map f, hlen, ⟨by rw [hlen]; exact hl, ?_, ?_⟩, ?_⟩
    · by_cases h0 : len = 0
      · subst h0
        exact .inl rfl
      · right
        obtain ⟨b, off, spot⟩ := x
        have hc := (hf 0 (by omega)).1
        have ha0 : (⟨b, off, spot⟩ : Addr).add 0 = ⟨b, off, spot⟩ := by unfold Addr.add; simp
        rw [ha0] at hc
        have hspot : spot = none := World.cell?_spot hc
        subst hspot
        refine ⟨b, off, rfl, World.block_lt_of_cell? _ _ hc, fun k hk => ?_⟩
        rw [hlen] at hk
        rw [hget k hk]
        have := (hf k hk).1
        rw [Addr.add_mid] at this
        exact this
    · intro r hr'
      obtain ⟨k, hk, rfl⟩ := List.mem_map.1 hr'
      exact (hf k (List.mem_range.1 hk)).2
    · rw [hlen]
      unfold maxLen at hm
      omega
end

theorem lpb_own : ownKnob Tryd.prog.godebug = none := by kernel_rfl
theorem lpb_laidOut : laidOutB Tryd.prog = true := by kernel_rfl
theorem lpb_et : Tryd.prog.globalNamed "errors.errorType" = some 0 := by kernel_rfl
theorem lpb_rt : (Tryd.prog.cutTypes.find? (·.1 == "internal/reflectlite.rtype")).map (·.2) = some 104 := by kernel_rfl
theorem lpb_oneRow : ((List.range 147).filter fun t => Tryd.prog.rowNamed t [101, 114, 114, 111, 114]) = [25] := by kernel_rfl
theorem lpb_size : Tryd.prog.types.size = 147 := by kernel_rfl

/-- What the condition gives: the variable's one cell. -/
theorem handle_of_laid {W : World} (h : laidMetH Tryd.prog [("errors.errorType", Rows.laid_errors_errorType)] W) : ErrT W := by
  have h' : laidMet Tryd.prog [] W ∧ handlesMet Tryd.prog [("errors.errorType", Rows.laid_errors_errorType)] W := h
  obtain ⟨name, u, ty, e1, e2, e3, e4, e5⟩ := h'.2 _ (List.mem_singleton.2 rfl)
  have en : name = [101, 114, 114, 111, 114] := (Option.some.inj e1).symm
  subst en
  obtain rfl := Option.some.inj (lpb_rt.symm.trans e2)
  have hm : ty ∈ (List.range 147).filter fun t => Tryd.prog.rowNamed t [101, 114, 114, 111, 114] := List.mem_filter.2 ⟨List.mem_range.2 (by rw [← lpb_size]; exact e3), e4⟩
  rw [lpb_oneRow] at hm
  obtain rfl := List.mem_singleton.1 hm
  have hh : typeHandle Tryd.prog 25 = .pointer (some ⟨1, 25, none⟩) := by kernel_rfl
  rw [hh] at e5
  unfold ErrT
  simpa using World.var?_cell lpb_et e5 0

/-- A world that meets the condition. -/
theorem laidWorld_met (os : Os) (args : Array Value) : laidMetH Tryd.prog [("errors.errorType", Rows.laid_errors_errorType)] (({ World.holding Tryd.prog os ⟨#[], #[], []⟩ with heap := (World.holding Tryd.prog os ⟨#[], #[], []⟩).heap.modify 0 fun | .cells _ t frozen => .cells #[.iface 104 (.agg #[.pointer (some ⟨1, 25, none⟩)])] t frozen | o => o } : World).forCall (fun _ _ => 0) ⟨#[], args, []⟩).memory :=
  laidMetH_of_parts (laidMet_nil _ _) (by kernel_rfl)


set_option maxRecDepth 100000 in
theorem lpb_lifted (os : Os) (started : os.Started) (H : Type) (enc : TypeId × Value → H) :
    ReturnsInHanded {} Tryd.checked os 3 .any (fun w args => (Rows.logPlaysSpec.pre enc Tryd.prog Tryd.f3 [] false w args ∧ laidMetH Tryd.prog [("errors.errorType", Rows.laid_errors_errorType)] w) ∧ sizedMet enc Tryd.prog Tryd.f3 (OpenSpec.ofChange Rows.logPlaysSpec) false w args)
      (Rows.logPlaysSpec.post enc Tryd.prog Tryd.f3 false true false false) := by
  refine returnsInHanded_of_change_and (C := Tryd.checked) (X := fun w _ => laidMetH Tryd.prog [("errors.errorType", Rows.laid_errors_errorType)] w) (fun _ _ _ hh h => h.of_heap hh) lpb_own started (by kernel_rfl) Tryd.func3
    (ChangeSpec.witness_at (enc := enc) (C := Tryd.checked) (os := os) (X := fun w _ => laidMetH Tryd.prog [("errors.errorType", Rows.laid_errors_errorType)] w) false ({ World.holding Tryd.prog os ⟨#[], #[], []⟩ with heap := (World.holding Tryd.prog os ⟨#[], #[], []⟩).heap.modify 0 fun | .cells _ t frozen => .cells #[.iface 104 (.agg #[.pointer (some ⟨1, 25, none⟩)])] t frozen | o => o } : World) #[.int .i64 0, .int .i64 0, .slice none 0 0] 8 rfl (by kernel_rfl) (by kernel_rfl) (by kernel_rfl) (by kernel_rfl) (by kernel_rfl) (laidWorld_met os _)) ?_
  intro W base args ds gs before hval0 hW hcnd hsz0 hL _
  have hsz : (DataW.weightsEach Tryd.prog (Tryd.f3.params.toList ++ Rows.logPlaysSpec.plain.varTypes Tryd.prog) (ds ++ gs)).all (· ≤ reachBytes) = true := hsz0
  clear hsz0
  have hval : ∀ (j : Nat) t v, Tryd.f3.params[j]? = some t → args[j]? = some v → Value.okWide Tryd.prog W .any base t v := hval0
  have hW' := hW
  obtain ⟨p, q, hA0, hV, rfl, hfz, hnd⟩ := hW
  have hA : DataW.TrodAll enc Tryd.prog W 0 (fun _ => true) true Tryd.f3.params.toList args.toList ds p := hA0
  rw [Tryd.params3] at hA hval hsz
  obtain ⟨v0, vs0, d0, ds0, p0, q0, hargs, rfl, rfl, h0, r0⟩ := trodAll_cons hA
  obtain ⟨v1, vs1, d1, ds1, p1, q1, rfl, rfl, rfl, h1, r1⟩ := trodAll_cons r0
  obtain ⟨v2, vs2, d2, ds2, p2, q2, rfl, rfl, rfl, h2, r2⟩ := trodAll_cons r1
  obtain ⟨rfl, rfl, rfl⟩ := trodAll_nil r2
  obtain rfl : args = #[v0, v1, v2] := by cases args; simp_all
  obtain ⟨rfl, rfl⟩ := trodVars_none hV
  obtain ⟨x0, rfl, rfl, rfl, w0⟩ := open_int Tryd.underlying3 (hval 0 3 v0 rfl rfl) h0
  obtain ⟨x1, rfl, rfl, rfl, w1⟩ := open_int Tryd.underlying3 (hval 1 3 v1 rfl rfl) h1
  have wb1 := bounds_i64 w1
  obtain ⟨a2, len2, cap2, rfl⟩ := okWide_slice Tryd.underlying22 (hval 2 22 v2 rfl rfl)
  have k2 := h2
  have lt2 : ∀ x ∈ p2, x.block < W.heap.size := by obtain ⟨m, hm⟩ := k2; exact DataW.trod_lt m _ _ _ hm
  obtain ⟨rs2, hrs2, hro2, hrl2⟩ : ∃ rs : List Rw, rs.length = len2 ∧ IsRs W a2 rs cap2 ∧ rs.length ≤ 9223372036854775807 := by
    obtain ⟨fuel, hf⟩ := h2
    exact rows_of_trod hf
  subst hrs2
  clear hA0 hval0
  have hg := handle_of_laid hL
  refine (lplays_walk x0 x1 wb1.2 a2 rs2 cap2 W hg hro2 hrl2).mono fun e W' ⟨he, bel⟩ => ?_
  subst he
  exact ⟨_, rfl, _, _, _, [], _, [], hW', trodAll_mk1 (shut_bool Tryd.underlying4 _), (trodAll_cons_mk (shut_int Tryd.underlying3 w0) (trodAll_cons_mk (shut_int Tryd.underlying3 w1) (trodAll_cons_mk (Below.trod lpb_laidOut (by kernel_rfl) (of_decide_eq_true (by kernel_rfl)) k2 bel lt2) trodAll_mk0))), rfl, bel.frame _, fun h => by cases h⟩

theorem lpb_over : Rows.LogPlaysSaid :=
  OpenClaim.holds_of_wide 3 Tryd.f3 rfl rfl rfl rfl rfl rfl rfl ⟨rfl, rfl, rfl, rfl, rfl⟩ rfl rfl rfl rfl rfl (by kernel_rfl) Tryd.func3 (by kernel_rfl)
    (of_decide_eq_true (by kernel_rfl)) (by unfold Func.isWrapper; first | (rw [if_pos (by decide +kernel)]; kernel_rfl) | (rw [if_neg (by decide +kernel)]; exact ⟨rfl, rfl⟩))
    (fun os started H enc _ => lpb_lifted os started H enc)

/-- The statement. -/
theorem logPlays_holds : Rows.LogPlaysCardSaid :=
  Claim7.holds_tied_plain_at .later [] [.handle] true _ true
    lpb_over (fun _ h => by cases h) (by kernel_rfl) (fun _ h => by cases h) logPlays_row_tie rfl ⟨rfl, rfl⟩ (by kernel_rfl) rfl
    (fun f fn hf hfn => by
      obtain rfl : f = 3 := Option.some.inj ((show Tryd.prog.funcNamed "quarterday/daylaw2.LogPlays" = some 3 by kernel_rfl).symm.trans hf) |>.symm
      obtain rfl : fn = Tryd.f3 := (Option.some.inj (Tryd.func3.symm.trans hfn)).symm
      exact ⟨by kernel_rfl, fun j t ht => by
        rw [Tryd.params3] at ht
        have h3 : t = 3 ∨ t = 22 := by
          rcases j with _ | j
          · simp at ht; simp [← ht]
          rcases j with _ | j
          · simp at ht; simp [← ht]
          rcases j with _ | j
          · simp at ht; simp [← ht]
          simp at ht
        rcases h3 with rfl | rfl
        · exact (show Tryd.prog.wantsStandIn 3 = false by kernel_rfl)
        · exact (show Tryd.prog.wantsStandIn 22 = false by kernel_rfl)⟩)
    (by kernel_rfl)
#print axioms logPlays_holds
end Go.Proofs.YthmbpghpommcjaaDoor
