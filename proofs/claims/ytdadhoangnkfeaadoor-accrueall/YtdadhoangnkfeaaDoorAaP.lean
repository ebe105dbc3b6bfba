/-
  All comes, a part at a time: for every plan, every chart, all plans, every entity and period the call of daylaw3.AccrueAll returns true, and its arguments read as they did. The library's tables are as the program's text lays them (the card ties them). No other condition.
-/
import Derived.Test.YtdadhoangnkfeaaDoorRows
import Derived.Test.YtdadhoangnkfeaaDoorCards
import Derived.Test.YtdadhoangnkfeaaDoorTie
import Derived.Test.YtdadhoangnkfeaaDoorAaW
import Derived.Test.YtdadhoangnkfeaaDoorPnOpen
import Derived.Test.YtdadhoangnkfeaaDoorChOpen
import Derived.ChangeSame
import Derived.ChangeVars
import Derived.JoinedOf
import Derived.RowKit
import Derived.RowKitTokens
import Derived.LaidLaws
import Derived.LaidHandle
import Derived.Stop.Joined
import Derived.SevenTiedAt
import Derived.ProofKit
import Derived.Below
import Derived.OpenShut
import Derived.ShutString
import Derived.ChangeOld
import Derived.SizedLaws
import Derived.Lib.LaidTab
import Derived.Stop.LaidErr
namespace Go.Proofs.YtdadhoangnkfeaaDoor
open Go.ChangeShapes Go.WideShapes Go.RowKit Go.ChangeAt Go.Deep
open Go.ChangeMaps (open_string shut_string)
set_option linter.unusedVariables false
set_option linter.unusedSimpArgs false

theorem aall_own : ownKnob Tryd.prog.godebug = none := by kernel_rfl
theorem aall_laidOut : laidOutB Tryd.prog = true := by kernel_rfl
/-- A table's cells. -/
def aall_cells (d : DataW Unit) : Array Value :=
  match d with
  | .agg l => (l.map fun x => match x with
    | .lit (.int k z) => Value.int k z
    | _ => .bool false).toArray
  | _ => #[]
def aall_put (cs : Array Value) (o : Obj) : Obj :=
  match o with
  | .cells _ t frozen => .cells cs t frozen
  | o => o
theorem aall_gTab : Tryd.prog.globalNamed "internal/strconv.uint64pow10" = some 0 := by kernel_rfl
theorem aall_gType : (Tryd.prog.globals[0]?).map (·.type) = some 85 := by kernel_rfl
theorem aall_cellsT : Tryd.prog.cellsOf 85 = 20 := by kernel_rfl
theorem aall_cellsE : Tryd.prog.cellsOf 77 = 1 := by kernel_rfl
theorem aall_table {W : World} (h : laidMetH Tryd.prog Rows.accrueAllRow.laid W) : TabW W := by
  have h1 : laidMet Tryd.prog Rows.accrueAllRow.laid W := h
  have h2 : laidMet Tryd.prog (("internal/strconv.uint64pow10", Lib.tabData .u64 Lib.pow10Tab) :: []) W := (laidMet.tail (laidMet.tail h1))
  exact Lib.tabIs_of_head aall_gTab aall_gType Tryd.underlying85 Tryd.underlying77 aall_cellsE aall_cellsT h2
/-- A world that meets the condition. -/
theorem aall_met (os : Os) (args : Array Value) : laidMetH Tryd.prog Rows.accrueAllRow.laid ((({ World.holding Tryd.prog os ⟨#[], #[], []⟩ with heap := (((World.holding Tryd.prog os ⟨#[], #[], []⟩).heap.modify 1 (aall_put (aall_cells Rows.laid_math_bits_deBruijn32tab))).modify 2 (aall_put (aall_cells Rows.laid_math_bits_deBruijn64tab))).modify 0 (aall_put (aall_cells Rows.laid_internal_strconv_uint64pow10)) } : World).forCall (fun _ _ => 0) ⟨#[], args, []⟩).memory) :=
  (show laidMet Tryd.prog Rows.accrueAllRow.laid _ from laidMet_of_run' 8 (by kernel_rfl) (by kernel_rfl))

set_option maxRecDepth 100000 in
theorem aall_lifted (os : Os) (started : os.Started) (H : Type) (enc : TypeId × Value → H) :
    ReturnsInHanded {} Tryd.checked os 3 .any (fun w args => (Rows.accrueAllSpec.pre enc Tryd.prog Tryd.f3 [] false w args ∧ laidMetH Tryd.prog Rows.accrueAllRow.laid w) ∧ sizedMet enc Tryd.prog Tryd.f3 (OpenSpec.ofChange Rows.accrueAllSpec) false w args)
      (Rows.accrueAllSpec.post enc Tryd.prog Tryd.f3 false true false false) := by
  refine returnsInHanded_of_change_and (C := Tryd.checked) (X := fun w _ => laidMetH Tryd.prog Rows.accrueAllRow.laid w) (fun _ _ _ hh h => h.of_heap hh) aall_own started (by kernel_rfl) Tryd.func3
    (ChangeSpec.witness_at (enc := enc) (C := Tryd.checked) (os := os) (X := fun w _ => laidMetH Tryd.prog Rows.accrueAllRow.laid w) false ({ World.holding Tryd.prog os ⟨#[], #[], []⟩ with heap := (((World.holding Tryd.prog os ⟨#[], #[], []⟩).heap.modify 1 (aall_put (aall_cells Rows.laid_math_bits_deBruijn32tab))).modify 2 (aall_put (aall_cells Rows.laid_math_bits_deBruijn64tab))).modify 0 (aall_put (aall_cells Rows.laid_internal_strconv_uint64pow10)) } : World) #[.agg #[.string ByteArray.empty, .int .i64 0, .string ByteArray.empty, .string ByteArray.empty, .string ByteArray.empty, .int .i64 0, .int .i64 0, .int .i64 0], .slice none 0 0, .slice none 0 0, .int .i64 0, .int .i64 0] 8 rfl (by kernel_rfl) (by kernel_rfl) (by kernel_rfl) (by kernel_rfl) (by kernel_rfl) (aall_met os _)) ?_
  intro W base args ds gs before hval0 hW hcnd hsz0 hL _
  have ht := aall_table hL
  clear hsz0
  have hval : ∀ (j : Nat) t v, Tryd.f3.params[j]? = some t → args[j]? = some v → Value.okWide Tryd.prog W .any base t v := hval0
  have hW' := hW
  obtain ⟨p, q, hA0, hV, rfl, hfz, hnd⟩ := hW
  have hA : DataW.TrodAll enc Tryd.prog W 0 (fun _ => true) true Tryd.f3.params.toList args.toList ds p := hA0
  rw [Tryd.params3] at hA hval
  obtain ⟨v0, vs0, d0, ds0, p0, q0, hargs, rfl, rfl, h0, r0⟩ := trodAll_cons hA
  obtain ⟨v1, vs1, d1, ds1, p1, q1, rfl, rfl, rfl, h1, r1⟩ := trodAll_cons r0
  obtain ⟨v2, vs2, d2, ds2, p2, q2, rfl, rfl, rfl, h2, r2⟩ := trodAll_cons r1
  obtain ⟨v3, vs3, d3, ds3, p3, q3, rfl, rfl, rfl, h3, r3⟩ := trodAll_cons r2
  obtain ⟨v4, vs4, d4, ds4, p4, q4, rfl, rfl, rfl, h4, r4⟩ := trodAll_cons r3
  obtain ⟨rfl, rfl, rfl⟩ := trodAll_nil r4
  obtain rfl : args = #[v0, v1, v2, v3, v4] := by cases args; simp_all
  obtain ⟨rfl, rfl⟩ := trodVars_none hV
  have s0 := okWide_struct Tryd.underlying23 (hval 0 23 v0 rfl rfl)
  rw [plan_cells] at s0
  have k0 := h0
  have lt0 : ∀ x ∈ p0, x.block < W.heap.size := by obtain ⟨m, hm⟩ := k0; exact DataW.trod_lt m _ _ _ hm
  obtain ⟨l0, rfl, ho0⟩ : ∃ p : Pn, v0 = .agg p.cells ∧ PnOk p := by
    obtain ⟨fuel, hf⟩ := h0
    exact plan_of_trod s0 hf
  obtain ⟨a1, len1, cap1, rfl⟩ := okWide_slice Tryd.underlying24 (hval 1 24 v1 rfl rfl)
  have k1 := h1
  have lt1 : ∀ x ∈ p1, x.block < W.heap.size := by obtain ⟨m, hm⟩ := k1; exact DataW.trod_lt m _ _ _ hm
  obtain ⟨l1, hl1, ho1, hi1⟩ : ∃ l : List Ac, l.length = len1 ∧ (∀ k, k < l.length → AcOk (l.getD k ac0)) ∧ IsSl W a1 l cap1 := by
    obtain ⟨fuel, hf⟩ := h1
    exact acs_of_trod hf
  subst hl1
  obtain ⟨a2, len2, cap2, rfl⟩ := okWide_slice Tryd.underlying25 (hval 2 25 v2 rfl rfl)
  have k2 := h2
  have lt2 : ∀ x ∈ p2, x.block < W.heap.size := by obtain ⟨m, hm⟩ := k2; exact DataW.trod_lt m _ _ _ hm
  obtain ⟨l2, hl2, hi2, ho2, hm2⟩ : ∃ l : List Pn, l.length = len2 ∧ IsPn W a2 l cap2 ∧ (∀ x ∈ l, PnOk x) ∧ len2 ≤ maxLen := by
    obtain ⟨fuel, hf⟩ := h2
    exact pns_of_trod hf
  subst hl2
  have hb2 : l2.length ≤ 9223372036854775807 := by unfold maxLen at hm2; exact hm2
  obtain ⟨x3, rfl, rfl, rfl, w3⟩ := open_int Tryd.underlying3 (hval 3 3 v3 rfl rfl) h3
  have wb3 := bounds_i64 w3
  obtain ⟨x4, rfl, rfl, rfl, w4⟩ := open_int Tryd.underlying3 (hval 4 3 v4 rfl rfl) h4
  have wb4 := bounds_i64 w4
  clear hA0 hval0
  refine (all_walk l0 a1 a2 cap1 cap2 l1 l2 x3 x4 W hi1 hi2 hb2 ht).mono fun e W' ⟨he, bel⟩ => ?_
  subst he
  exact ⟨_, rfl, _, _, _, [], _, [], hW', trodAll_mk1 (shut_bool Tryd.underlying4 _), (trodAll_cons_mk (Below.trod aall_laidOut (by kernel_rfl) (of_decide_eq_true (by kernel_rfl)) k0 bel lt0) (trodAll_cons_mk (Below.trod aall_laidOut (by kernel_rfl) (of_decide_eq_true (by kernel_rfl)) k1 bel lt1) (trodAll_cons_mk (Below.trod aall_laidOut (by kernel_rfl) (of_decide_eq_true (by kernel_rfl)) k2 bel lt2) (trodAll_cons_mk (shut_int Tryd.underlying3 w3) (trodAll_cons_mk (shut_int Tryd.underlying3 w4) trodAll_mk0))))), rfl, bel.frame _, fun h => by cases h⟩

theorem aall_over : Rows.AccrueAllSaid :=
  OpenClaim.holds_of_wide 3 Tryd.f3 rfl rfl rfl rfl rfl rfl rfl ⟨rfl, rfl, rfl, rfl, rfl⟩ rfl rfl rfl rfl rfl (by kernel_rfl) Tryd.func3 (by kernel_rfl)
    (of_decide_eq_true (by kernel_rfl)) (by unfold Func.isWrapper; first | (rw [if_pos (by decide +kernel)]; kernel_rfl) | (rw [if_neg (by decide +kernel)]; exact ⟨rfl, rfl⟩))
    (fun os started H enc _ => aall_lifted os started H enc)

/-- The statement. -/
theorem accrueAll_holds : Rows.AccrueAllCardSaid :=
  Claim7.holds_tied_plain_at .later [] [.data, .data, .data] true _ false
    aall_over (fun _ h => by cases h) (by kernel_rfl) (fun _ h => by cases h) accrueAll_row_tie rfl ⟨rfl, rfl⟩ (by kernel_rfl) rfl
    (fun f fn hf hfn => by
      obtain rfl : f = 3 := Option.some.inj ((show Tryd.prog.funcNamed "quarterday/daylaw3.AccrueAll" = some 3 by kernel_rfl).symm.trans hf) |>.symm
      obtain rfl : fn = Tryd.f3 := (Option.some.inj (Tryd.func3.symm.trans hfn)).symm
      exact ⟨by kernel_rfl, fun j t ht => by
        rw [Tryd.params3] at ht
        have h3 : t = 23 ∨ t = 24 ∨ t = 25 ∨ t = 3 := by
          rcases j with _ | _ | _ | _ | _ | j
          · exact (.inl (by simpa using ht.symm))
          · exact (.inr (.inl (by simpa using ht.symm)))
          · exact (.inr (.inr (.inl (by simpa using ht.symm))))
          · exact (.inr (.inr (.inr (by simpa using ht.symm))))
          · exact (.inr (.inr (.inr (by simpa using ht.symm))))
          · simp at ht
        rcases h3 with rfl | rfl | rfl | rfl
        · exact (show Tryd.prog.wantsStandIn 23 = false by kernel_rfl)
        · exact (show Tryd.prog.wantsStandIn 24 = false by kernel_rfl)
        · exact (show Tryd.prog.wantsStandIn 25 = false by kernel_rfl)
        · exact (show Tryd.prog.wantsStandIn 3 = false by kernel_rfl)⟩)
    (by kernel_rfl)
#print axioms accrueAll_holds
end Go.Proofs.YtdadhoangnkfeaaDoor
