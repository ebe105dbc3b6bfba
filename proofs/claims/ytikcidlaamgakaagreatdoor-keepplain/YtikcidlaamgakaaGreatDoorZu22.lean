/-
  Without a crash what was saved is there: for every number of blocks and all entries the call of daylaw2.KeepPlain returns true, and its arguments read as they did. The library's variable for the type of errors is as the program's text lays it (the card ties it). No other condition.
-/
import Derived.Test.YtikcidlaamgakaaGreatDoorZu16
import Derived.Deep.Slices
import Derived.OpenShut
import Derived.Test.YtikcidlaamgakaaGreatDoorZu17
import Derived.Test.YtikcidlaamgakaaGreatDoorRows
import Derived.Test.YtikcidlaamgakaaGreatDoorCards
import Derived.Test.YtikcidlaamgakaaGreatDoorTie
import Derived.Test.YtikcidlaamgakaaGreatDoorZu21
import Derived.ChangeSame
import Derived.ChangeVars
import Derived.JoinedOf
import Derived.RowKit
import Derived.RowKitTokens
import Derived.LaidLaws
import Derived.LaidHandle
import Derived.Stop.Joined
import Derived.SevenTiedAt
import Derived.ProofKit
import Derived.Below
import Derived.ShutString
import Derived.ChangeOld
import Derived.SizedLaws
import Derived.Lib.LaidTab
import Derived.Stop.LaidErr
namespace Go.Proofs.YtikcidlaamgakaaGreatDoor
set_option linter.unusedVariables false
set_option linter.unusedSimpArgs false
set_option maxRecDepth 100000
open Go.RowKit Go.Lib Go.Deep

section
variable {H : Type} {enc : TypeId × Value → H} {w : World} {base : Nat} {spare : Nat → Bool} {held : Bool}

theorem en_string {m : Nat} {c : Value} {y : DataW H × List MemPlace} (h : DataW.trod enc Tryz.prog w base spare held m 9 [c] = some y) : ∃ s, c = .string s ∧ s.size ≤ maxLen := by
  cases m with
  | zero => simp [DataW.trod] at h
  | succ m =>
    rw [DataW.trod_step] at h
    unfold DataW.trodStep at h
    rw [Tryz.underlying9] at h
    cases c <;> simp at h
    exact ⟨_, rfl, h.1⟩

theorem en_int {m : Nat} {c : Value} {y : DataW H × List MemPlace} (h : DataW.trod enc Tryz.prog w base spare held m 3 [c] = some y) : ∃ n, c = .int .i64 n ∧ (Lit.int .i64 n).wf = true := by
  cases m with
  | zero => simp [DataW.trod] at h
  | succ m =>
    rw [DataW.trod_step] at h
    unfold DataW.trodStep at h
    rw [Tryz.underlying3] at h
    cases c <;> simp at h
    rename_i k n
    obtain ⟨⟨rfl, h2⟩, _⟩ := h
    exact ⟨n, rfl, h2⟩

theorem line_cells : Tryz.prog.cellsOf 62 = 3 := by kernel_rfl
theorem entry_cells : Tryz.prog.cellsOf 34 = 4 := by kernel_rfl
theorem line_str : Tryz.prog.cellsOf 9 = 1 := by kernel_rfl
theorem line_int : Tryz.prog.cellsOf 3 = 1 := by kernel_rfl
theorem line_sl : Tryz.prog.cellsOf 32 = 1 := by kernel_rfl

theorem open_line {m : Nat} {cs : List Value} {x : DataW H × List MemPlace} (h : DataW.trod enc Tryz.prog w base spare held m 62 cs = some x) : ∃ a : Ln, cs = a.cells.toList ∧ (Lit.int .i64 a.amt).wf = true := by
  cases m with
  | zero => simp [DataW.trod] at h
  | succ m =>
    rw [DataW.trod_step] at h
    unfold DataW.trodStep at h
    rw [Tryz.underlying62] at h
    simp only [line_cells] at h
    split at h
    · rename_i hl
      match cs, hl with
      | [c0, c1, c2], _ =>
        simp [line_str, line_int] at h
        cases h0 : DataW.trod enc Tryz.prog w base spare held m 9 [c0]
        · simp [h0] at h
        cases h1 : DataW.trod enc Tryz.prog w base spare held m 9 [c1]
        · simp [h0, h1] at h
        cases h2 : DataW.trod enc Tryz.prog w base spare held m 3 [c2]
        · simp [h0, h1, h2] at h
        obtain ⟨f, rfl, hf⟩ := en_string h0
        obtain ⟨t, rfl, ht⟩ := en_string h1
        obtain ⟨p, rfl, hp⟩ := en_int h2
        exact ⟨⟨f, t, p⟩, rfl, hp⟩
    · cases h

theorem en_add (b off n : Nat) : (⟨b, off, none⟩ : Addr).add n = ⟨b, off + n, none⟩ := by
  unfold Addr.add
  split
  · rename_i h; subst h; rfl
  · rfl

/-- Lines that came in. -/
theorem lns_of_trod {W : World} {a : Option Addr} {len cap fuel : Nat} {x : DataW H × List MemPlace} (h : DataW.trod enc Tryz.prog W 0 (fun _ => true) true fuel 32 [.slice a len cap] = some x) :
    ∃ l : List Ln, l.length = len ∧ IsLn W a l cap ∧ (∀ x ∈ l, (Lit.int .i64 x.amt).wf = true) := by
  rcases open_slice Tryz.underlying32 h with ⟨hcs, _⟩ | ⟨x, l, c, m, n, D, Pl, hcs, _, hl, hm, hmm, _, hx⟩
  · simp at hcs
    obtain ⟨rfl, rfl, rfl⟩ := hcs
    exact ⟨[], rfl, ⟨by simp, .inl rfl⟩, by simp⟩
  · simp at hcs
    obtain ⟨rfl, rfl, rfl⟩ := hcs
    have hmm2 : m = cap := hmm
    rw [line_cells] at hx
    have hr : ∀ i, i < len → ∃ r : Ln, (∀ j, j < 3 → W.cell? ((x.add (i * 3)).add j) = r.cells.toList[j]?) ∧ (Lit.int .i64 r.amt).wf = true := fun i hi => by
      obtain ⟨cs', h1, h2⟩ := hx i (by omega)
      obtain ⟨r, rfl, hw⟩ := open_line h2
      exact ⟨r, (World.cells?_some h1).2.2, hw⟩
    obtain ⟨f, hf⟩ := @choose_lt Ln ⟨ln0⟩ _ _ hr
    have hget : ∀ k, k < len → ((List.range len).map f).getD k ln0 = f k := fun k hk => by simp [List.getD, hk]
    have hlen : ((List.range len).map f).length = len := by simp
    refine ⟨(List.range len).map f, hlen, ⟨by rw [hlen]; exact hl, ?_⟩, ?_⟩
    · by_cases h0 : len = 0
      · subst h0
        exact .inl rfl
      · right
        obtain ⟨b, off, spot⟩ := x
        have hc : W.cell? ⟨b, off, spot⟩ = some (.string (f 0).acc) := (hf 0 (by omega)).1 0 (by omega)
        have hspot : spot = none := World.cell?_spot hc
        subst hspot
        have hlt : b < W.heap.size := World.block_lt_of_cell? _ _ hc
        refine ⟨b, off, rfl, hlt, fun k hk => ?_⟩
        rw [hlen] at hk
        rw [hget k hk]
        have C : ∀ i, i < 3 → W.cell? ⟨b, off + k * 3 + i, none⟩ = (f k).cells.toList[i]? := fun i hi => by
          have := (hf k hk).1 i hi
          rw [en_add, en_add] at this
          exact this
        exact ⟨C 0 (by omega), C 1 (by omega), C 2 (by omega)⟩
    · intro y hy
      obtain ⟨k, hk, rfl⟩ := List.mem_map.1 hy
      exact (hf k (List.mem_range.1 hk)).2

theorem entry_struct : ∃ fs, Tryz.prog.underlying 34 = some (.struct fs) := ⟨_, Tryz.underlying34⟩

theorem wf64 {n : Int} (h : (Lit.int .i64 n).wf = true) : -9223372036854775808 ≤ n ∧ n ≤ 9223372036854775807 := by
  simp [Lit.wf, IntKind.min, IntKind.max, IntKind.bits, IntKind.signed] at h
  omega
/-- An entry that came in, by its cells. -/
theorem entry_of_cells {W : World} {ls : List Value} {fuel : Nat} {x : DataW H × List MemPlace} (h : DataW.trod enc Tryz.prog W 0 (fun _ => true) true fuel 34 ls = some x) :
    ∃ (r : ByteArray) (en pe : Int) (a : Option Addr) (l : List Ln) (cap : Nat), ls = [.string r, .int .i64 en, .int .i64 pe, .slice a l.length cap] ∧ IsLn W a l cap ∧ (∀ x ∈ l, (Lit.int .i64 x.amt).wf = true) ∧ (Lit.int .i64 en).wf = true ∧ (Lit.int .i64 pe).wf = true ∧ l.length ≤ maxLen := by
  cases fuel with
  | zero => simp [DataW.trod] at h
  | succ m =>
    rw [DataW.trod_step] at h
    unfold DataW.trodStep at h
    rw [Tryz.underlying34] at h
    simp only [entry_cells] at h
    split at h
    · rename_i hl
      match ls, hl with
      | [c0, c1, c2, c3], _ =>
        simp [line_str, line_int, line_sl] at h
        cases h0 : DataW.trod enc Tryz.prog W 0 (fun _ => true) true m 9 [c0]
        · simp [h0] at h
        cases h1 : DataW.trod enc Tryz.prog W 0 (fun _ => true) true m 3 [c1]
        · simp [h0, h1] at h
        cases h2 : DataW.trod enc Tryz.prog W 0 (fun _ => true) true m 3 [c2]
        · simp [h0, h1, h2] at h
        cases h3 : DataW.trod enc Tryz.prog W 0 (fun _ => true) true m 32 [c3]
        · simp [h0, h1, h2, h3] at h
        obtain ⟨r, rfl, _⟩ := en_string h0
        obtain ⟨en, rfl, hen⟩ := en_int h1
        obtain ⟨pe, rfl, hpe⟩ := en_int h2
        obtain ⟨a, len, cap, rfl, hlm⟩ : ∃ a len cap, c3 = .slice a len cap ∧ len ≤ maxLen := by
          rcases open_slice Tryz.underlying32 h3 with ⟨hcs, _⟩ | ⟨x, l, c, m, n, D, Pl, hcs, _, hl, hm, _⟩
          · simp at hcs
            exact ⟨_, _, _, hcs, by unfold maxLen; omega⟩
          · simp at hcs
            exact ⟨_, _, _, hcs, Nat.le_trans hl hm⟩
        obtain ⟨l, hl, hsl, hw⟩ := lns_of_trod h3
        subst hl
        exact ⟨r, en, pe, a, l, cap, rfl, hsl, hw, hen, hpe, hlm⟩
    · cases h
end
end Go.Proofs.YtikcidlaamgakaaGreatDoor

namespace Go.Proofs.YtikcidlaamgakaaGreatDoor
set_option linter.unusedVariables false
set_option linter.unusedSimpArgs false
set_option maxRecDepth 100000
open Go.RowKit Go.Lib Go.Deep
section
variable {H : Type} {enc : TypeId × Value → H}
/-- Entries that came in. -/
theorem kjes_of_trod {W : World} {a : Option Addr} {len cap fuel : Nat} {x : DataW H × List MemPlace} (h : DataW.trod enc Tryz.prog W 0 (fun _ => true) true fuel 22 [.slice a len cap] = some x) :
    ∃ L : List Je, L.length = len ∧ IsJs W a L cap ∧ (∀ x ∈ L, I64 x.ent ∧ I64 x.per ∧ ∀ y ∈ x.lns, I64 y.amt) ∧ len ≤ maxLen := by
  rcases open_slice Tryz.underlying22 h with ⟨hcs, _⟩ | ⟨x, l, c, m, n, D, Pl, hcs, _, hl, hm, hmm, _, hx⟩
  · simp at hcs
    obtain ⟨rfl, rfl, rfl⟩ := hcs
    exact ⟨[], rfl, ⟨by simp, .inl rfl, by simp⟩, by simp, by unfold maxLen; omega⟩
  · simp at hcs
    obtain ⟨rfl, rfl, rfl⟩ := hcs
    have hmm2 : m = cap := hmm
    rw [entry_cells] at hx
    have hr : ∀ i, i < len → ∃ r : Je, W.cell? ((x.add (i * 4)).add 0) = some (.string r.ref) ∧ W.cell? ((x.add (i * 4)).add 1) = some (.int .i64 r.ent) ∧ W.cell? ((x.add (i * 4)).add 2) = some (.int .i64 r.per) ∧ W.cell? ((x.add (i * 4)).add 3) = some (.slice r.adr r.lns.length r.cap) ∧ IsLn W r.adr r.lns r.cap ∧ (I64 r.ent ∧ I64 r.per ∧ ∀ y ∈ r.lns, I64 y.amt) := fun i hi => by
      obtain ⟨cs', h1, h2⟩ := hx i (by omega)
      have hc := World.cells?_some h1
      obtain ⟨r, en, pe, a', l', c', he, hsl, hw1, hw2, hw3, _⟩ := entry_of_cells h2
      subst he
      have hc := hc.2.2
      exact ⟨⟨r, en, pe, a', c', l'⟩, hc 0 (by omega), hc 1 (by omega), hc 2 (by omega), hc 3 (by omega), hsl, wf64 hw2, wf64 hw3, fun y hy => wf64 (hw1 y hy)⟩
    obtain ⟨f, hf⟩ := @choose_lt Je ⟨je0⟩ _ _ hr
    have hget : ∀ k, k < len → ((List.range len).map f).getD k je0 = f k := fun k hk => by simp [List.getD, hk]
    have hlen : ((List.range len).map f).length = len := by simp
    refine ⟨(List.range len).map f, hlen, ⟨by rw [hlen]; exact hl, ?_, ?_⟩, ?_, Nat.le_trans hl hm⟩
    · by_cases h0 : len = 0
      · subst h0
        exact .inl rfl
      · right
        obtain ⟨b, off, spot⟩ := x
        have hc : W.cell? ⟨b, off, spot⟩ = some (.string (f 0).ref) := (hf 0 (by omega)).1
        have hspot : spot = none := World.cell?_spot hc
        subst hspot
        have hlt : b < W.heap.size := World.block_lt_of_cell? _ _ hc
        refine ⟨b, off, rfl, hlt, fun k hk => ?_⟩
        rw [hlen] at hk
        rw [hget k hk]
        have := hf k hk
        simp only [en_add] at this
        exact ⟨this.1, this.2.1, this.2.2.1, this.2.2.2.1⟩
    · intro y hy
      obtain ⟨k, hk, rfl⟩ := List.mem_map.1 hy
      exact (hf k (List.mem_range.1 hk)).2.2.2.2.1
    · intro y hy
      obtain ⟨k, hk, rfl⟩ := List.mem_map.1 hy
      exact (hf k (List.mem_range.1 hk)).2.2.2.2.2
end
end Go.Proofs.YtikcidlaamgakaaGreatDoor

namespace Go.Proofs.YtikcidlaamgakaaGreatDoor
open Go.ChangeShapes Go.WideShapes Go.RowKit Go.ChangeAt Go.Deep
open Go.ChangeMaps (open_string shut_string)
set_option linter.unusedVariables false
set_option linter.unusedSimpArgs false

theorem kpl_own : ownKnob Tryz.prog.godebug = none := by kernel_rfl
theorem kpl_laidOut : laidOutB Tryz.prog = true := by kernel_rfl
/-- A table's cells. -/
def kpl_cells (d : DataW Unit) : Array Value :=
  match d with
  | .agg l => (l.map fun x => match x with
    | .lit (.int k z) => Value.int k z
    | _ => .bool false).toArray
  | _ => #[]
def kpl_put (cs : Array Value) (o : Obj) : Obj :=
  match o with
  | .cells _ t frozen => .cells cs t frozen
  | o => o
theorem kpl_et : Tryz.prog.globalNamed "errors.errorType" = some 0 := by kernel_rfl
theorem kpl_rt : (Tryz.prog.cutTypes.find? (·.1 == "internal/reflectlite.rtype")).map (·.2) = some 136 := by kernel_rfl
theorem kpl_oneRow : ((List.range 182).filter fun t => Tryz.prog.rowNamed t [101, 114, 114, 111, 114]) = [25] := by kernel_rfl
theorem kpl_size : Tryz.prog.types.size = 182 := by kernel_rfl
/-- What the condition gives: the variable's one cell. -/
theorem kpl_handle {W : World} (h : laidMetH Tryz.prog Rows.keepPlainRow.laid W) : ErrT W := by
  have h' : laidMet Tryz.prog [] W ∧ handlesMet Tryz.prog [("errors.errorType", Rows.laid_errors_errorType)] W := h
  obtain ⟨name, u, ty, e1, e2, e3, e4, e5⟩ := h'.2 _ (List.mem_singleton.2 rfl)
  have en : name = [101, 114, 114, 111, 114] := (Option.some.inj e1).symm
  subst en
  obtain rfl := Option.some.inj (kpl_rt.symm.trans e2)
  have hm : ty ∈ (List.range 182).filter fun t => Tryz.prog.rowNamed t [101, 114, 114, 111, 114] := List.mem_filter.2 ⟨List.mem_range.2 (by rw [← kpl_size]; exact e3), e4⟩
  rw [kpl_oneRow] at hm
  obtain rfl := List.mem_singleton.1 hm
  have hh : typeHandle Tryz.prog 25 = .pointer (some ⟨1, 25, none⟩) := by kernel_rfl
  rw [hh] at e5
  unfold ErrT
  simpa using World.var?_cell kpl_et e5 0
/-- A world that meets the condition. -/
theorem kpl_met (os : Os) (args : Array Value) : laidMetH Tryz.prog Rows.keepPlainRow.laid ((({ World.holding Tryz.prog os ⟨#[], #[], []⟩ with heap := (World.holding Tryz.prog os ⟨#[], #[], []⟩).heap.modify 0 fun | .cells _ t frozen => .cells #[.iface 136 (.agg #[.pointer (some ⟨1, 25, none⟩)])] t frozen | o => o } : World).forCall (fun _ _ => 0) ⟨#[], args, []⟩).memory) :=
  laidMetH_of_parts (laidMet_nil _ _) (by kernel_rfl)

set_option maxRecDepth 100000 in
theorem kpl_lifted (os : Os) (started : os.Started) (H : Type) (enc : TypeId × Value → H) :
    ReturnsInHanded {} Tryz.checked os 3 .any (fun w args => (Rows.keepPlainSpec.pre enc Tryz.prog Tryz.f3 [] false w args ∧ laidMetH Tryz.prog Rows.keepPlainRow.laid w) ∧ sizedMet enc Tryz.prog Tryz.f3 (OpenSpec.ofChange Rows.keepPlainSpec) false w args)
      (Rows.keepPlainSpec.post enc Tryz.prog Tryz.f3 false true false false) := by
  refine returnsInHanded_of_change_and (C := Tryz.checked) (X := fun w _ => laidMetH Tryz.prog Rows.keepPlainRow.laid w) (fun _ _ _ hh h => h.of_heap hh) kpl_own started (by kernel_rfl) Tryz.func3
    (ChangeSpec.witness_at (enc := enc) (C := Tryz.checked) (os := os) (X := fun w _ => laidMetH Tryz.prog Rows.keepPlainRow.laid w) false ({ World.holding Tryz.prog os ⟨#[], #[], []⟩ with heap := (World.holding Tryz.prog os ⟨#[], #[], []⟩).heap.modify 0 fun | .cells _ t frozen => .cells #[.iface 136 (.agg #[.pointer (some ⟨1, 25, none⟩)])] t frozen | o => o } : World) #[.int .i64 0, .slice none 0 0, .slice none 0 0] 8 rfl (by kernel_rfl) (by kernel_rfl) (by kernel_rfl) (by kernel_rfl) (by kernel_rfl) (kpl_met os _)) ?_
  intro W base args ds gs before hval0 hW hcnd hsz0 hL _
  have hg := kpl_handle hL
  have hsz : (DataW.weightsEach Tryz.prog (Tryz.f3.params.toList ++ Rows.keepPlainSpec.plain.varTypes Tryz.prog) (ds ++ gs)).all (· ≤ reachBytes) = true := hsz0
  clear hsz0
  have hval : ∀ (j : Nat) t v, Tryz.f3.params[j]? = some t → args[j]? = some v → Value.okWide Tryz.prog W .any base t v := hval0
  have hW' := hW
  obtain ⟨p, q, hA0, hV, rfl, hfz, hnd⟩ := hW
  have hA : DataW.TrodAll enc Tryz.prog W 0 (fun _ => true) true Tryz.f3.params.toList args.toList ds p := hA0
  rw [Tryz.params3] at hA hval hsz
  obtain ⟨v0, vs0, d0, ds0, p0, q0, hargs, rfl, rfl, h0, r0⟩ := trodAll_cons hA
  obtain ⟨v1, vs1, d1, ds1, p1, q1, rfl, rfl, rfl, h1, r1⟩ := trodAll_cons r0
  obtain ⟨v2, vs2, d2, ds2, p2, q2, rfl, rfl, rfl, h2, r2⟩ := trodAll_cons r1
  obtain ⟨rfl, rfl, rfl⟩ := trodAll_nil r2
  obtain rfl : args = #[v0, v1, v2] := by cases args; simp_all
  obtain ⟨rfl, rfl⟩ := trodVars_none hV
  obtain ⟨x0, rfl, rfl, rfl, w0⟩ := open_int Tryz.underlying3 (hval 0 3 v0 rfl rfl) h0
  have wb0 := bounds_i64 w0
  obtain ⟨a1, len1, cap1, rfl⟩ := okWide_slice Tryz.underlying22 (hval 1 22 v1 rfl rfl)
  have k1 := h1
  have lt1 : ∀ x ∈ p1, x.block < W.heap.size := by obtain ⟨m, hm⟩ := k1; exact DataW.trod_lt m _ _ _ hm
  have hz1 : len1 * 56 ≤ 140737488355328 := by
    obtain ⟨fuel, hf⟩ := h1
    rcases open_slice Tryz.underlying22 hf with ⟨hcs, _⟩ | ⟨x, l, cp, m, n, D, Pl, hcs, _, hl, hm, hmm, hx, _⟩
    · simp [Value.cells] at hcs
      omega
    · simp [Value.cells] at hcs
      obtain ⟨rfl, rfl, rfl⟩ := hcs
      simp only [Prod.mk.injEq] at hx
      obtain ⟨rfl, _⟩ := hx
      have := sized_slice hsz (j := 1) (t := 22) (e := 34) rfl rfl Tryz.underlying22
      rw [show Tryz.prog.bytesOf 34 = 56 from by kernel_rfl] at this
      simp only [List.length_map, List.length_range, reachBytes] at this
      omega
  obtain ⟨l1, hl1, hi1, ho1, hm1⟩ : ∃ l : List Je, l.length = len1 ∧ IsJs W a1 l cap1 ∧ (∀ x ∈ l, I64 x.ent ∧ I64 x.per ∧ ∀ y ∈ x.lns, I64 y.amt) ∧ len1 ≤ maxLen := by
    obtain ⟨fuel, hf⟩ := h1
    exact kjes_of_trod hf
  subst hl1
  have hb1 : l1.length ≤ 9223372036854775807 := by unfold maxLen at hm1; exact hm1
  obtain ⟨a2, len2, cap2, rfl⟩ := okWide_slice Tryz.underlying22 (hval 2 22 v2 rfl rfl)
  have k2 := h2
  have lt2 : ∀ x ∈ p2, x.block < W.heap.size := by obtain ⟨m, hm⟩ := k2; exact DataW.trod_lt m _ _ _ hm
  have hz2 : len2 * 56 ≤ 140737488355328 := by
    obtain ⟨fuel, hf⟩ := h2
    rcases open_slice Tryz.underlying22 hf with ⟨hcs, _⟩ | ⟨x, l, cp, m, n, D, Pl, hcs, _, hl, hm, hmm, hx, _⟩
    · simp [Value.cells] at hcs
      omega
    · simp [Value.cells] at hcs
      obtain ⟨rfl, rfl, rfl⟩ := hcs
      simp only [Prod.mk.injEq] at hx
      obtain ⟨rfl, _⟩ := hx
      have := sized_slice hsz (j := 2) (t := 22) (e := 34) rfl rfl Tryz.underlying22
      rw [show Tryz.prog.bytesOf 34 = 56 from by kernel_rfl] at this
      simp only [List.length_map, List.length_range, reachBytes] at this
      omega
  obtain ⟨l2, hl2, hi2, ho2, hm2⟩ : ∃ l : List Je, l.length = len2 ∧ IsJs W a2 l cap2 ∧ (∀ x ∈ l, I64 x.ent ∧ I64 x.per ∧ ∀ y ∈ x.lns, I64 y.amt) ∧ len2 ≤ maxLen := by
    obtain ⟨fuel, hf⟩ := h2
    exact kjes_of_trod hf
  subst hl2
  have hb2 : l2.length ≤ 9223372036854775807 := by unfold maxLen at hm2; exact hm2
  clear hA0 hval0
  refine (kplain_walk x0 a1 cap1 l1 a2 cap2 l2 W hg (by have := wb0; unfold I64; omega) hi1 hi2 (by omega) (by omega) ho1 ho2).mono fun e W' ⟨he, bel⟩ => ?_
  subst he
  exact ⟨_, rfl, _, _, _, [], _, [], hW', trodAll_mk1 (shut_bool Tryz.underlying4 _), (trodAll_cons_mk (shut_int Tryz.underlying3 w0) (trodAll_cons_mk (Below.trod kpl_laidOut (by kernel_rfl) (of_decide_eq_true (by kernel_rfl)) k1 bel lt1) (trodAll_cons_mk (Below.trod kpl_laidOut (by kernel_rfl) (of_decide_eq_true (by kernel_rfl)) k2 bel lt2) trodAll_mk0))), rfl, bel.frame _, fun h => by cases h⟩

theorem kpl_over : Rows.KeepPlainSaid :=
  OpenClaim.holds_of_wide 3 Tryz.f3 rfl rfl rfl rfl rfl rfl rfl ⟨rfl, rfl, rfl, rfl, rfl⟩ rfl rfl rfl rfl rfl (by kernel_rfl) Tryz.func3 (by kernel_rfl)
    (of_decide_eq_true (by kernel_rfl)) (by unfold Func.isWrapper; first | (rw [if_pos (by decide +kernel)]; kernel_rfl) | (rw [if_neg (by decide +kernel)]; exact ⟨rfl, rfl⟩))
    (fun os started H enc _ => kpl_lifted os started H enc)

/-- The statement. -/
theorem keepPlain_holds : Rows.KeepPlainCardSaid :=
  Claim7.holds_tied_plain_at .later [] [.handle] true _ true
    kpl_over (fun _ h => by cases h) (by kernel_rfl) (fun _ h => by cases h) keepPlain_row_tie rfl ⟨rfl, rfl⟩ (by kernel_rfl) rfl
    (fun f fn hf hfn => by
      obtain rfl : f = 3 := Option.some.inj ((show Tryz.prog.funcNamed "quarterday/daylaw2.KeepPlain" = some 3 by kernel_rfl).symm.trans hf) |>.symm
      obtain rfl : fn = Tryz.f3 := (Option.some.inj (Tryz.func3.symm.trans hfn)).symm
      exact ⟨by kernel_rfl, fun j t ht => by
        rw [Tryz.params3] at ht
        have h3 : t = 3 ∨ t = 22 := by
          rcases j with _ | _ | _ | j
          · exact (.inl (by simpa using ht.symm))
          · exact (.inr (by simpa using ht.symm))
          · exact (.inr (by simpa using ht.symm))
          · simp at ht
        rcases h3 with rfl | rfl
        · exact (show Tryz.prog.wantsStandIn 3 = false by kernel_rfl)
        · exact (show Tryz.prog.wantsStandIn 22 = false by kernel_rfl)⟩)
    (by kernel_rfl)
#print axioms keepPlain_holds
end Go.Proofs.YtikcidlaamgakaaGreatDoor
