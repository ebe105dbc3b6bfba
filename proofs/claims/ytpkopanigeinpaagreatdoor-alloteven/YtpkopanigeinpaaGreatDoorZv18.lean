/-
  What is given out is given: for every chart, all pools, all balances, every entity, all rows of weights and all amounts the call of daylaw3.AllotEven returns true, and its arguments read as they did. The library's tables are as the program's text lays them (the card ties them). No other condition.
-/
import Derived.Test.YtpkopanigeinpaaGreatDoorZv7
import Derived.Test.YtpkopanigeinpaaGreatDoorZv17
import Derived.Test.YtpkopanigeinpaaGreatDoorZv15
import Derived.Test.YtpkopanigeinpaaGreatDoorRows
import Derived.Test.YtpkopanigeinpaaGreatDoorCards
import Derived.Test.YtpkopanigeinpaaGreatDoorTie
import Derived.ChangeSame
import Derived.ChangeVars
import Derived.JoinedOf
import Derived.RowKit
import Derived.RowKitTokens
import Derived.LaidLaws
import Derived.LaidHandle
import Derived.Stop.Joined
import Derived.SevenTiedAt
import Derived.ProofKit
import Derived.Below
import Derived.OpenShut
import Derived.ShutString
import Derived.ChangeOld
import Derived.SizedLaws
import Derived.Lib.LaidTab
import Derived.Stop.LaidErr
namespace Go.Proofs.YtpkopanigeinpaaGreatDoor
set_option linter.unusedVariables false
set_option linter.unusedSimpArgs false
set_option maxRecDepth 100000
open Go.RowKit Go.Lib
section
variable {H : Type} {enc : TypeId × Value → H}
theorem al_str_cells : Tryz.prog.cellsOf 9 = 1 := by kernel_rfl
theorem al_int_cells : Tryz.prog.cellsOf 3 = 1 := by kernel_rfl
/-- Texts that came in. -/
theorem txs_of_trod {W : World} {a : Option Addr} {len cap fuel : Nat} {x : DataW H × List MemPlace} (h : DataW.trod enc Tryz.prog W 0 (fun _ => true) true fuel 27 [.slice a len cap] = some x) :
    ∃ l : List ByteArray, l.length = len ∧ IsTx W a l cap ∧ (∀ t ∈ l, t.size ≤ maxLen) ∧ len ≤ maxLen := by
  rcases Go.Deep.open_slice Tryz.underlying27 h with ⟨hcs, _⟩ | ⟨x, l, c, m, n, D, Pl, hcs, _, hl, hm, hmm, _, hx⟩
  · simp at hcs
    obtain ⟨rfl, rfl, rfl⟩ := hcs
    exact ⟨[], rfl, ⟨by simp, .inl rfl⟩, by simp, by unfold maxLen; omega⟩
  · simp at hcs
    obtain ⟨rfl, rfl, rfl⟩ := hcs
    have hmm2 : m = cap := hmm
    rw [al_str_cells] at hx
    have hr : ∀ i, i < len → ∃ r : ByteArray, W.cell? (x.add (i * 1)) = some (.string r) ∧ r.size ≤ maxLen := fun i hi => by
      obtain ⟨cs', h1, h2⟩ := hx i (by omega)
      have hl1 : cs'.length = 1 := (World.cells?_some h1).2.1
      match cs', hl1 with
      | [c0], _ =>
        obtain ⟨s, rfl, hs⟩ := ld_cell_string h2
        have := (World.cells?_some h1).2.2 0 (by omega)
        simp [Addr.add] at this
        refine ⟨s, ?_, hs⟩
        simpa [Addr.add] using this
    obtain ⟨f, hf⟩ := @Go.Deep.choose_lt ByteArray ⟨ByteArray.empty⟩ _ _ hr
    have hget : ∀ k, k < len → ((List.range len).map f).getD k ByteArray.empty = f k := fun k hk => by simp [List.getD, hk]
    have hlen : ((List.range len).map f).length = len := by simp
    refine ⟨(List.range len).map f, hlen, ⟨by rw [hlen]; exact hl, ?_⟩, ?_, Nat.le_trans hl hm⟩
    · by_cases h0 : len = 0
      · subst h0
        exact .inl rfl
      · right
        obtain ⟨b, off, spot⟩ := x
        have hc := (hf 0 (by omega)).1
        simp only [Nat.zero_mul] at hc
        have hc' : W.cell? ⟨b, off, spot⟩ = some (.string (f 0)) := by simpa [Addr.add] using hc
        have hspot : spot = none := World.cell?_spot hc'
        subst hspot
        refine ⟨b, off, rfl, World.block_lt_of_cell? _ _ hc', fun k hk => ?_⟩
        rw [hlen] at hk
        rw [hget k hk]
        have := (hf k hk).1
        rw [Nat.mul_one, ld_add] at this
        exact this
    · intro y hy
      obtain ⟨k, hk, rfl⟩ := List.mem_map.1 hy
      exact (hf k (List.mem_range.1 hk)).2
/-- Numbers that came in. -/
theorem ws_of_trod {W : World} {a : Option Addr} {len cap fuel : Nat} {x : DataW H × List MemPlace} (h : DataW.trod enc Tryz.prog W 0 (fun _ => true) true fuel 26 [.slice a len cap] = some x) :
    ∃ l : List Int, l.length = len ∧ IsW W a l cap ∧ (∀ t ∈ l, -9223372036854775808 ≤ t ∧ t ≤ 9223372036854775807) ∧ len ≤ maxLen := by
  rcases Go.Deep.open_slice Tryz.underlying26 h with ⟨hcs, _⟩ | ⟨x, l, c, m, n, D, Pl, hcs, _, hl, hm, hmm, _, hx⟩
  · simp at hcs
    obtain ⟨rfl, rfl, rfl⟩ := hcs
    exact ⟨[], rfl, ⟨by simp, .inl rfl⟩, by simp, by unfold maxLen; omega⟩
  · simp at hcs
    obtain ⟨rfl, rfl, rfl⟩ := hcs
    have hmm2 : m = cap := hmm
    rw [al_int_cells] at hx
    have hr : ∀ i, i < len → ∃ r : Int, W.cell? (x.add (i * 1)) = some (.int .i64 r) ∧ (-9223372036854775808 ≤ r ∧ r ≤ 9223372036854775807) := fun i hi => by
      obtain ⟨cs', h1, h2⟩ := hx i (by omega)
      have hl1 : cs'.length = 1 := (World.cells?_some h1).2.1
      match cs', hl1 with
      | [c0], _ =>
        obtain ⟨s, rfl, hs⟩ := ld_cell_int h2
        have := (World.cells?_some h1).2.2 0 (by omega)
        simp [Addr.add] at this
        refine ⟨s, ?_, ld_wf hs⟩
        simpa [Addr.add] using this
    obtain ⟨f, hf⟩ := @Go.Deep.choose_lt Int ⟨0⟩ _ _ hr
    have hget : ∀ k, k < len → ((List.range len).map f).getD k 0 = f k := fun k hk => by simp [List.getD, hk]
    have hlen : ((List.range len).map f).length = len := by simp
    refine ⟨(List.range len).map f, hlen, ⟨by rw [hlen]; exact hl, ?_⟩, ?_, Nat.le_trans hl hm⟩
    · by_cases h0 : len = 0
      · subst h0
        exact .inl rfl
      · right
        obtain ⟨b, off, spot⟩ := x
        have hc := (hf 0 (by omega)).1
        simp only [Nat.zero_mul] at hc
        have hc' : W.cell? ⟨b, off, spot⟩ = some (.int .i64 (f 0)) := by simpa [Addr.add] using hc
        have hspot : spot = none := World.cell?_spot hc'
        subst hspot
        refine ⟨b, off, rfl, World.block_lt_of_cell? _ _ hc', fun k hk => ?_⟩
        rw [hlen] at hk
        rw [hget k hk]
        have := (hf k hk).1
        rw [Nat.mul_one, ld_add] at this
        exact this
    · intro y hy
      obtain ⟨k, hk, rfl⟩ := List.mem_map.1 hy
      exact (hf k (List.mem_range.1 hk)).2
theorem al_pool_cells : Tryz.prog.cellsOf 29 = 4 := by kernel_rfl
theorem al_txs_cells : Tryz.prog.cellsOf 27 = 1 := by kernel_rfl
theorem al_ws_cells : Tryz.prog.cellsOf 26 = 1 := by kernel_rfl
theorem al_cell_txs {w : World} {base : Nat} {spare : Nat → Bool} {held : Bool} {m : Nat} {c : Value} {y : DataW H × List MemPlace} (h : DataW.trod enc Tryz.prog w base spare held m 27 [c] = some y) : ∃ a len cap, c = .slice a len cap := by
  rcases Go.Deep.open_slice Tryz.underlying27 h with ⟨hcs, _⟩ | ⟨x, l, c', m, n, D, Pl, hcs, _⟩
  · simp at hcs; exact ⟨_, _, _, hcs⟩
  · simp at hcs; exact ⟨_, _, _, hcs⟩
theorem al_cell_ws {w : World} {base : Nat} {spare : Nat → Bool} {held : Bool} {m : Nat} {c : Value} {y : DataW H × List MemPlace} (h : DataW.trod enc Tryz.prog w base spare held m 26 [c] = some y) : ∃ a len cap, c = .slice a len cap := by
  rcases Go.Deep.open_slice Tryz.underlying26 h with ⟨hcs, _⟩ | ⟨x, l, c', m, n, D, Pl, hcs, _⟩
  · simp at hcs; exact ⟨_, _, _, hcs⟩
  · simp at hcs; exact ⟨_, _, _, hcs⟩
theorem al_open_pool {w : World} {m : Nat} {cs : List Value} {x : DataW H × List MemPlace} (h : DataW.trod enc Tryz.prog w 0 (fun _ => true) true m 29 cs = some x) :
    ∃ p : Po, cs = p.cells.toList ∧ PoOk w p ∧ PoTx p := by
  cases m with
  | zero => simp [DataW.trod] at h
  | succ m =>
    rw [DataW.trod_step] at h
    unfold DataW.trodStep at h
    rw [Tryz.underlying29] at h
    simp only [al_pool_cells] at h
    split at h
    · rename_i hl
      match cs, hl with
      | [c0, c1, c2, c3], _ =>
        simp [ldP_str, al_txs_cells, al_ws_cells] at h
        cases h0 : DataW.trod enc Tryz.prog w 0 (fun _ => true) true m 9 [c0]
        · simp [h0] at h
        cases h1 : DataW.trod enc Tryz.prog w 0 (fun _ => true) true m 9 [c1]
        · simp [h0, h1] at h
        cases h2 : DataW.trod enc Tryz.prog w 0 (fun _ => true) true m 27 [c2]
        · simp [h0, h1, h2] at h
        cases h3 : DataW.trod enc Tryz.prog w 0 (fun _ => true) true m 26 [c3]
        · simp [h0, h1, h2, h3] at h
        obtain ⟨s, rfl, hs⟩ := ld_cell_string h0
        obtain ⟨t, rfl, ht⟩ := ld_cell_string h1
        obtain ⟨a, len, cap, rfl⟩ := al_cell_txs h2
        obtain ⟨l, rfl, g1, g2, g3⟩ := txs_of_trod h2
        obtain ⟨a', len', cap', rfl⟩ := al_cell_ws h3
        obtain ⟨l', rfl, k1, k2, k3⟩ := ws_of_trod h3
        unfold maxLen at g3 k3
        exact ⟨⟨s, t, a, cap, l, a', cap', l'⟩, rfl, ⟨g1, k1, by show l.length ≤ _; omega, by show l'.length ≤ _; omega⟩, ⟨hs, ht, g2⟩⟩
    · cases h
/-- Pools that came in. -/
theorem pos_of_trod {W : World} {a : Option Addr} {len cap fuel : Nat} {x : DataW H × List MemPlace} (h : DataW.trod enc Tryz.prog W 0 (fun _ => true) true fuel 23 [.slice a len cap] = some x) :
    ∃ L : List Po, L.length = len ∧ IsPs W a L cap ∧ (∀ p ∈ L, PoTx p) ∧ len ≤ maxLen := by
  rcases Go.Deep.open_slice Tryz.underlying23 h with ⟨hcs, _⟩ | ⟨x, l, c, m, n, D, Pl, hcs, _, hl, hm, hmm, hxx, hx⟩
  · simp at hcs
    obtain ⟨rfl, rfl, rfl⟩ := hcs
    exact ⟨[], rfl, ⟨by simp, .inl rfl, by simp⟩, by simp, by unfold maxLen; omega⟩
  · simp at hcs
    obtain ⟨rfl, rfl, rfl⟩ := hcs
    have hmm2 : m = cap := hmm
    rw [al_pool_cells] at hx
    have hr : ∀ i, i < len → ∃ r : Po, (∀ j, j < 4 → W.cell? ((x.add (i * 4)).add j) = r.cells.toList[j]?) ∧ PoOk W r ∧ PoTx r := fun i hi => by
      obtain ⟨cs', h1, h2⟩ := hx i (by omega)
      obtain ⟨r, rfl, hw⟩ := al_open_pool h2
      exact ⟨r, (World.cells?_some h1).2.2, hw⟩
    obtain ⟨f, hf⟩ := @Go.Deep.choose_lt Po ⟨po0⟩ _ _ hr
    have hget : ∀ k, k < len → ((List.range len).map f).getD k po0 = f k := fun k hk => by simp [List.getD, hk]
    have hlen : ((List.range len).map f).length = len := by simp
    refine ⟨(List.range len).map f, hlen, ⟨by rw [hlen]; exact hl, ?_, ?_⟩, ?_, Nat.le_trans hl hm⟩
    · by_cases h0 : len = 0
      · subst h0
        exact .inl rfl
      · right
        obtain ⟨b, off, spot⟩ := x
        have hc : W.cell? ⟨b, off, spot⟩ = some (.string (f 0).acc) := (hf 0 (by omega)).1 0 (by omega)
        have hspot : spot = none := World.cell?_spot hc
        subst hspot
        refine ⟨b, off, rfl, World.block_lt_of_cell? _ _ hc, fun k hk => ?_⟩
        rw [hlen] at hk
        rw [hget k hk]
        have C : ∀ i, i < 4 → W.cell? ⟨b, off + k * 4 + i, none⟩ = (f k).cells.toList[i]? := fun i hi => by
          have := (hf k hk).1 i hi
          rw [ld_add, ld_add] at this
          exact this
        exact ⟨C 0 (by omega), C 1 (by omega), C 2 (by omega), C 3 (by omega)⟩
    · intro y hy
      obtain ⟨k, hk, rfl⟩ := List.mem_map.1 hy
      exact (hf k (List.mem_range.1 hk)).2.1
    · intro y hy
      obtain ⟨k, hk, rfl⟩ := List.mem_map.1 hy
      exact (hf k (List.mem_range.1 hk)).2.2
end
end Go.Proofs.YtpkopanigeinpaaGreatDoor

namespace Go.Proofs.YtpkopanigeinpaaGreatDoor
set_option linter.unusedVariables false
set_option linter.unusedSimpArgs false
set_option maxRecDepth 100000
open Go.RowKit Go.Lib
section
variable {H : Type} {enc : TypeId × Value → H}
/-- Rows that came in. -/
theorem wrs_of_trod {W : World} {a : Option Addr} {len cap fuel : Nat} {x : DataW H × List MemPlace} (h : DataW.trod enc Tryz.prog W 0 (fun _ => true) true fuel 25 [.slice a len cap] = some x) :
    ∃ L : List Wr, L.length = len ∧ IsWs W a L cap ∧ True ∧ len ≤ maxLen := by
  rcases Go.Deep.open_slice Tryz.underlying25 h with ⟨hcs, _⟩ | ⟨x, l, c, m, n, D, Pl, hcs, _, hl, hm, hmm, hxx, hx⟩
  · simp at hcs
    obtain ⟨rfl, rfl, rfl⟩ := hcs
    exact ⟨[], rfl, ⟨by simp, .inl rfl, by simp⟩, trivial, by unfold maxLen; omega⟩
  · simp at hcs
    obtain ⟨rfl, rfl, rfl⟩ := hcs
    have hmm2 : m = cap := hmm
    rw [al_ws_cells] at hx
    have hr : ∀ i, i < len → ∃ r : Wr, W.cell? (x.add (i * 1)) = some (.slice r.adr r.xs.length r.cap) ∧ IsW W r.adr r.xs r.cap ∧ r.xs.length ≤ 9223372036854775807 := fun i hi => by
      obtain ⟨cs', h1, h2⟩ := hx i (by omega)
      have hl1 : cs'.length = 1 := (World.cells?_some h1).2.1
      match cs', hl1 with
      | [c0], _ =>
        obtain ⟨a', len', cap', rfl⟩ := al_cell_ws h2
        obtain ⟨l', rfl, k1, k2, k3⟩ := ws_of_trod h2
        have := (World.cells?_some h1).2.2 0 (by omega)
        simp [Addr.add] at this
        unfold maxLen at k3
        refine ⟨⟨a', cap', l'⟩, ?_, k1, k3⟩
        simpa [Addr.add] using this
    obtain ⟨f, hf⟩ := @Go.Deep.choose_lt Wr ⟨wr0⟩ _ _ hr
    have hget : ∀ k, k < len → ((List.range len).map f).getD k wr0 = f k := fun k hk => by simp [List.getD, hk]
    have hlen : ((List.range len).map f).length = len := by simp
    refine ⟨(List.range len).map f, hlen, ⟨by rw [hlen]; exact hl, ?_, ?_⟩, trivial, Nat.le_trans hl hm⟩
    · by_cases h0 : len = 0
      · subst h0
        exact .inl rfl
      · right
        obtain ⟨b, off, spot⟩ := x
        have hc := (hf 0 (by omega)).1
        simp only [Nat.zero_mul] at hc
        have hc' : W.cell? ⟨b, off, spot⟩ = some (.slice (f 0).adr (f 0).xs.length (f 0).cap) := by simpa [Addr.add] using hc
        have hspot : spot = none := World.cell?_spot hc'
        subst hspot
        refine ⟨b, off, rfl, World.block_lt_of_cell? _ _ hc', fun k hk => ?_⟩
        rw [hlen] at hk
        rw [hget k hk]
        have := (hf k hk).1
        rw [Nat.mul_one, ld_add] at this
        exact this
    · intro y hy
      obtain ⟨k, hk, rfl⟩ := List.mem_map.1 hy
      exact (hf k (List.mem_range.1 hk)).2
end
end Go.Proofs.YtpkopanigeinpaaGreatDoor

namespace Go.Proofs.YtpkopanigeinpaaGreatDoor
open Go.ChangeShapes Go.WideShapes Go.RowKit Go.ChangeAt Go.Deep
open Go.ChangeMaps (open_string shut_string)
set_option linter.unusedVariables false
set_option linter.unusedSimpArgs false

theorem aev_own : ownKnob Tryz.prog.godebug = none := by kernel_rfl
theorem aev_laidOut : laidOutB Tryz.prog = true := by kernel_rfl
/-- A table's cells. -/
def aev_cells (d : DataW Unit) : Array Value :=
  match d with
  | .agg l => (l.map fun x => match x with
    | .lit (.int k z) => Value.int k z
    | _ => .bool false).toArray
  | _ => #[]
def aev_put (cs : Array Value) (o : Obj) : Obj :=
  match o with
  | .cells _ t frozen => .cells cs t frozen
  | o => o
/-- A world that meets the condition. -/
theorem aev_met (os : Os) (args : Array Value) : laidMetH Tryz.prog Rows.allotEvenRow.laid ((({ World.holding Tryz.prog os ⟨#[], #[], []⟩ with heap := (((World.holding Tryz.prog os ⟨#[], #[], []⟩).heap.modify 3 (aev_put (aev_cells Rows.laid_math_bits_deBruijn32tab))).modify 4 (aev_put (aev_cells Rows.laid_math_bits_deBruijn64tab))).modify 2 (aev_put (aev_cells Rows.laid_internal_strconv_uint64pow10)) } : World).forCall (fun _ _ => 0) ⟨#[], args, []⟩).memory) :=
  (show laidMet Tryz.prog Rows.allotEvenRow.laid _ from laidMet_of_run' 8 (by kernel_rfl) (by kernel_rfl))

set_option maxRecDepth 100000 in
theorem aev_lifted (os : Os) (started : os.Started) (H : Type) (enc : TypeId × Value → H) :
    ReturnsInHanded {} Tryz.checked os 3 .any (fun w args => (Rows.allotEvenSpec.pre enc Tryz.prog Tryz.f3 [] false w args ∧ laidMetH Tryz.prog Rows.allotEvenRow.laid w) ∧ sizedMet enc Tryz.prog Tryz.f3 (OpenSpec.ofChange Rows.allotEvenSpec) false w args)
      (Rows.allotEvenSpec.post enc Tryz.prog Tryz.f3 false true false false) := by
  refine returnsInHanded_of_change_and (C := Tryz.checked) (X := fun w _ => laidMetH Tryz.prog Rows.allotEvenRow.laid w) (fun _ _ _ hh h => h.of_heap hh) aev_own started (by kernel_rfl) Tryz.func3
    (ChangeSpec.witness_at (enc := enc) (C := Tryz.checked) (os := os) (X := fun w _ => laidMetH Tryz.prog Rows.allotEvenRow.laid w) false ({ World.holding Tryz.prog os ⟨#[], #[], []⟩ with heap := (((World.holding Tryz.prog os ⟨#[], #[], []⟩).heap.modify 3 (aev_put (aev_cells Rows.laid_math_bits_deBruijn32tab))).modify 4 (aev_put (aev_cells Rows.laid_math_bits_deBruijn64tab))).modify 2 (aev_put (aev_cells Rows.laid_internal_strconv_uint64pow10)) } : World) #[.slice none 0 0, .slice none 0 0, .slice none 0 0, .int .i64 0, .slice none 0 0, .slice none 0 0] 8 rfl (by kernel_rfl) (by kernel_rfl) (by kernel_rfl) (by kernel_rfl) (by kernel_rfl) (aev_met os _)) ?_
  intro W base args ds gs before hval0 hW hcnd hsz0 hL _
  clear hsz0
  have hval : ∀ (j : Nat) t v, Tryz.f3.params[j]? = some t → args[j]? = some v → Value.okWide Tryz.prog W .any base t v := hval0
  have hW' := hW
  obtain ⟨p, q, hA0, hV, rfl, hfz, hnd⟩ := hW
  have hA : DataW.TrodAll enc Tryz.prog W 0 (fun _ => true) true Tryz.f3.params.toList args.toList ds p := hA0
  rw [Tryz.params3] at hA hval
  obtain ⟨v0, vs0, d0, ds0, p0, q0, hargs, rfl, rfl, h0, r0⟩ := trodAll_cons hA
  obtain ⟨v1, vs1, d1, ds1, p1, q1, rfl, rfl, rfl, h1, r1⟩ := trodAll_cons r0
  obtain ⟨v2, vs2, d2, ds2, p2, q2, rfl, rfl, rfl, h2, r2⟩ := trodAll_cons r1
  obtain ⟨v3, vs3, d3, ds3, p3, q3, rfl, rfl, rfl, h3, r3⟩ := trodAll_cons r2
  obtain ⟨v4, vs4, d4, ds4, p4, q4, rfl, rfl, rfl, h4, r4⟩ := trodAll_cons r3
  obtain ⟨v5, vs5, d5, ds5, p5, q5, rfl, rfl, rfl, h5, r5⟩ := trodAll_cons r4
  obtain ⟨rfl, rfl, rfl⟩ := trodAll_nil r5
  obtain rfl : args = #[v0, v1, v2, v3, v4, v5] := by cases args; simp_all
  obtain ⟨rfl, rfl⟩ := trodVars_none hV
  obtain ⟨a0, len0, cap0, rfl⟩ := okWide_slice Tryz.underlying22 (hval 0 22 v0 rfl rfl)
  have k0 := h0
  have lt0 : ∀ x ∈ p0, x.block < W.heap.size := by obtain ⟨m, hm⟩ := k0; exact DataW.trod_lt m _ _ _ hm
  obtain ⟨l0, hl0, ho0, hi0⟩ : ∃ l : List Ac, l.length = len0 ∧ (∀ k, k < l.length → AcOk (l.getD k ac0)) ∧ IsSl W a0 l cap0 := by
    obtain ⟨fuel, hf⟩ := h0
    exact acs_of_trod hf
  subst hl0
  obtain ⟨a1, len1, cap1, rfl⟩ := okWide_slice Tryz.underlying23 (hval 1 23 v1 rfl rfl)
  have k1 := h1
  have lt1 : ∀ x ∈ p1, x.block < W.heap.size := by obtain ⟨m, hm⟩ := k1; exact DataW.trod_lt m _ _ _ hm
  obtain ⟨l1, hl1, hi1, ho1, hm1⟩ : ∃ l : List Po, l.length = len1 ∧ IsPs W a1 l cap1 ∧ (∀ p ∈ l, PoTx p) ∧ len1 ≤ maxLen := by
    obtain ⟨fuel, hf⟩ := h1
    exact pos_of_trod hf
  subst hl1
  have hb1 : l1.length ≤ 9223372036854775807 := by unfold maxLen at hm1; exact hm1
  obtain ⟨a2, len2, cap2, rfl⟩ := okWide_slice Tryz.underlying24 (hval 2 24 v2 rfl rfl)
  have k2 := h2
  have lt2 : ∀ x ∈ p2, x.block < W.heap.size := by obtain ⟨m, hm⟩ := k2; exact DataW.trod_lt m _ _ _ hm
  obtain ⟨l2, hl2, hi2, ho2, hm2⟩ : ∃ l : List Bl, l.length = len2 ∧ IsBl W a2 l cap2 ∧ (∀ x ∈ l, BlOk x) ∧ len2 ≤ maxLen := by
    obtain ⟨fuel, hf⟩ := h2
    exact ld_bls_of_trod hf
  subst hl2
  have hb2 : l2.length ≤ 9223372036854775807 := by unfold maxLen at hm2; exact hm2
  obtain ⟨x3, rfl, rfl, rfl, w3⟩ := open_int Tryz.underlying3 (hval 3 3 v3 rfl rfl) h3
  have wb3 := bounds_i64 w3
  obtain ⟨a4, len4, cap4, rfl⟩ := okWide_slice Tryz.underlying25 (hval 4 25 v4 rfl rfl)
  have k4 := h4
  have lt4 : ∀ x ∈ p4, x.block < W.heap.size := by obtain ⟨m, hm⟩ := k4; exact DataW.trod_lt m _ _ _ hm
  obtain ⟨l4, hl4, hi4, ho4, hm4⟩ : ∃ l : List Wr, l.length = len4 ∧ IsWs W a4 l cap4 ∧ True ∧ len4 ≤ maxLen := by
    obtain ⟨fuel, hf⟩ := h4
    exact wrs_of_trod hf
  subst hl4
  have hb4 : l4.length ≤ 9223372036854775807 := by unfold maxLen at hm4; exact hm4
  obtain ⟨a5, len5, cap5, rfl⟩ := okWide_slice Tryz.underlying26 (hval 5 26 v5 rfl rfl)
  have k5 := h5
  have lt5 : ∀ x ∈ p5, x.block < W.heap.size := by obtain ⟨m, hm⟩ := k5; exact DataW.trod_lt m _ _ _ hm
  obtain ⟨l5, hl5, hi5, ho5, hm5⟩ : ∃ l : List Int, l.length = len5 ∧ IsW W a5 l cap5 ∧ (∀ t ∈ l, -9223372036854775808 ≤ t ∧ t ≤ 9223372036854775807) ∧ len5 ≤ maxLen := by
    obtain ⟨fuel, hf⟩ := h5
    exact ws_of_trod hf
  subst hl5
  have hb5 : l5.length ≤ 9223372036854775807 := by unfold maxLen at hm5; exact hm5
  clear hA0 hval0
  refine (even_walk a0 a1 a2 a4 a5 cap0 cap1 cap2 cap4 cap5 l0 l1 l2 x3 l4 l5 W hi0 hi1 hb1 hi2 hb2 hi4 hb4 hi5 hb5).mono fun e W' ⟨he, bel⟩ => ?_
  subst he
  exact ⟨_, rfl, _, _, _, [], _, [], hW', trodAll_mk1 (shut_bool Tryz.underlying4 _), (trodAll_cons_mk (Below.trod aev_laidOut (by kernel_rfl) (of_decide_eq_true (by kernel_rfl)) k0 bel lt0) (trodAll_cons_mk (Below.trod aev_laidOut (by kernel_rfl) (of_decide_eq_true (by kernel_rfl)) k1 bel lt1) (trodAll_cons_mk (Below.trod aev_laidOut (by kernel_rfl) (of_decide_eq_true (by kernel_rfl)) k2 bel lt2) (trodAll_cons_mk (shut_int Tryz.underlying3 w3) (trodAll_cons_mk (Below.trod aev_laidOut (by kernel_rfl) (of_decide_eq_true (by kernel_rfl)) k4 bel lt4) (trodAll_cons_mk (Below.trod aev_laidOut (by kernel_rfl) (of_decide_eq_true (by kernel_rfl)) k5 bel lt5) trodAll_mk0)))))), rfl, bel.frame _, fun h => by cases h⟩

theorem aev_over : Rows.AllotEvenSaid :=
  OpenClaim.holds_of_wide 3 Tryz.f3 rfl rfl rfl rfl rfl rfl rfl ⟨rfl, rfl, rfl, rfl, rfl⟩ rfl rfl rfl rfl rfl (by kernel_rfl) Tryz.func3 (by kernel_rfl)
    (of_decide_eq_true (by kernel_rfl)) (by unfold Func.isWrapper; first | (rw [if_pos (by decide +kernel)]; kernel_rfl) | (rw [if_neg (by decide +kernel)]; exact ⟨rfl, rfl⟩))
    (fun os started H enc _ => aev_lifted os started H enc)

/-- The statement. -/
theorem allotEven_holds : Rows.AllotEvenCardSaid :=
  Claim7.holds_tied_plain_at .later [] [.data, .data, .data] true _ false
    aev_over (fun _ h => by cases h) (by kernel_rfl) (fun _ h => by cases h) allotEven_row_tie rfl ⟨rfl, rfl⟩ (by kernel_rfl) rfl
    (fun f fn hf hfn => by
      obtain rfl : f = 3 := Option.some.inj ((show Tryz.prog.funcNamed "quarterday/daylaw3.AllotEven" = some 3 by kernel_rfl).symm.trans hf) |>.symm
      obtain rfl : fn = Tryz.f3 := (Option.some.inj (Tryz.func3.symm.trans hfn)).symm
      exact ⟨by kernel_rfl, fun j t ht => by
        rw [Tryz.params3] at ht
        have h3 : t = 22 ∨ t = 23 ∨ t = 24 ∨ t = 3 ∨ t = 25 ∨ t = 26 := by
          rcases j with _ | _ | _ | _ | _ | _ | j
          · exact (.inl (by simpa using ht.symm))
          · exact (.inr (.inl (by simpa using ht.symm)))
          · exact (.inr (.inr (.inl (by simpa using ht.symm))))
          · exact (.inr (.inr (.inr (.inl (by simpa using ht.symm)))))
          · exact (.inr (.inr (.inr (.inr (.inl (by simpa using ht.symm))))))
          · exact (.inr (.inr (.inr (.inr (.inr (by simpa using ht.symm))))))
          · simp at ht
        rcases h3 with rfl | rfl | rfl | rfl | rfl | rfl
        · exact (show Tryz.prog.wantsStandIn 22 = false by kernel_rfl)
        · exact (show Tryz.prog.wantsStandIn 23 = false by kernel_rfl)
        · exact (show Tryz.prog.wantsStandIn 24 = false by kernel_rfl)
        · exact (show Tryz.prog.wantsStandIn 3 = false by kernel_rfl)
        · exact (show Tryz.prog.wantsStandIn 25 = false by kernel_rfl)
        · exact (show Tryz.prog.wantsStandIn 26 = false by kernel_rfl)⟩)
    (by kernel_rfl)
#print axioms allotEven_holds
end Go.Proofs.YtpkopanigeinpaaGreatDoor
