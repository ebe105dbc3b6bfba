/-
  Any entries, one after the other: for every chart, every list of entries, every two numbers and every two texts the call of daylaw3.JournalPlays returns true, and its arguments read as they did. The library's variable for the type of errors is as the program's text lays it (the card ties it). No other condition.
-/
import Derived.Test.YtpohlhejeaafdaaGreatDoorZj6
import Derived.Deep.Slices
import Derived.OpenShut
import Derived.Test.YtpohlhejeaafdaaGreatDoorZj1
import Derived.Test.YtpohlhejeaafdaaGreatDoorZj9
import Derived.Test.YtpohlhejeaafdaaGreatDoorRows
import Derived.Test.YtpohlhejeaafdaaGreatDoorCards
import Derived.Test.YtpohlhejeaafdaaGreatDoorTie
import Derived.Test.YtpohlhejeaafdaaGreatDoorZj22
import Derived.ChangeSame
import Derived.ChangeVars
import Derived.JoinedOf
import Derived.RowKit
import Derived.RowKitTokens
import Derived.LaidLaws
import Derived.LaidHandle
import Derived.Stop.Joined
import Derived.SevenTiedAt
import Derived.ProofKit
import Derived.Below
import Derived.ShutString
import Derived.ChangeOld
import Derived.SizedLaws
namespace Go.Proofs.YtpohlhejeaafdaaGreatDoor
set_option linter.unusedVariables false
set_option linter.unusedSimpArgs false
set_option maxRecDepth 100000
open Go.RowKit Go.Lib Go.Deep

section
variable {H : Type} {enc : TypeId × Value → H} {w : World} {base : Nat} {spare : Nat → Bool} {held : Bool}

theorem ch_string {m : Nat} {c : Value} {y : DataW H × List MemPlace} (h : DataW.trod enc Tryz.prog w base spare held m 9 [c] = some y) : ∃ s, c = .string s ∧ s.size ≤ maxLen := by
  cases m with
  | zero => simp [DataW.trod] at h
  | succ m =>
    rw [DataW.trod_step] at h
    unfold DataW.trodStep at h
    rw [Tryz.underlying9] at h
    cases c <;> simp at h
    exact ⟨_, rfl, h.1⟩

theorem ch_int {m : Nat} {c : Value} {y : DataW H × List MemPlace} (h : DataW.trod enc Tryz.prog w base spare held m 3 [c] = some y) : ∃ n, c = .int .i64 n ∧ (Lit.int .i64 n).wf = true := by
  cases m with
  | zero => simp [DataW.trod] at h
  | succ m =>
    rw [DataW.trod_step] at h
    unfold DataW.trodStep at h
    rw [Tryz.underlying3] at h
    cases c <;> simp at h
    rename_i k n
    obtain ⟨⟨rfl, h2⟩, _⟩ := h
    exact ⟨n, rfl, h2⟩

theorem ch_bool {m : Nat} {c : Value} {y : DataW H × List MemPlace} (h : DataW.trod enc Tryz.prog w base spare held m 4 [c] = some y) : ∃ n, c = .bool n := by
  cases m with
  | zero => simp [DataW.trod] at h
  | succ m =>
    rw [DataW.trod_step] at h
    unfold DataW.trodStep at h
    rw [Tryz.underlying4] at h
    cases c <;> simp at h
    exact ⟨_, rfl⟩

/-- What is asked of an account that came in. -/
def AcOk (a : Ac) : Prop := a.code.size ≤ maxLen ∧ a.name.size ≤ maxLen ∧ (Lit.int .i64 a.kind).wf = true ∧ a.par.size ≤ maxLen

theorem acct_cells : Tryz.prog.cellsOf 80 = 5 := by kernel_rfl
theorem acct_str : Tryz.prog.cellsOf 9 = 1 := by kernel_rfl
theorem acct_int : Tryz.prog.cellsOf 3 = 1 := by kernel_rfl
theorem acct_bool : Tryz.prog.cellsOf 4 = 1 := by kernel_rfl

theorem open_acct {m : Nat} {cs : List Value} {x : DataW H × List MemPlace} (h : DataW.trod enc Tryz.prog w base spare held m 80 cs = some x) : ∃ a : Ac, cs = a.cells.toList ∧ AcOk a := by
  cases m with
  | zero => simp [DataW.trod] at h
  | succ m =>
    rw [DataW.trod_step] at h
    unfold DataW.trodStep at h
    rw [Tryz.underlying80] at h
    simp only [acct_cells] at h
    split at h
    · rename_i hl
      match cs, hl with
      | [c0, c1, c2, c3, c4], _ =>
        simp [acct_str, acct_int, acct_bool] at h
        cases h0 : DataW.trod enc Tryz.prog w base spare held m 9 [c0]
        · simp [h0] at h
        cases h1 : DataW.trod enc Tryz.prog w base spare held m 9 [c1]
        · simp [h0, h1] at h
        cases h2 : DataW.trod enc Tryz.prog w base spare held m 3 [c2]
        · simp [h0, h1, h2] at h
        cases h3 : DataW.trod enc Tryz.prog w base spare held m 9 [c3]
        · simp [h0, h1, h2, h3] at h
        cases h4 : DataW.trod enc Tryz.prog w base spare held m 4 [c4]
        · simp [h0, h1, h2, h3, h4] at h
        obtain ⟨f, rfl, hf⟩ := ch_string h0
        obtain ⟨t, rfl, ht⟩ := ch_string h1
        obtain ⟨p, rfl, hp⟩ := ch_int h2
        obtain ⟨n, rfl, hn⟩ := ch_string h3
        obtain ⟨d, rfl⟩ := ch_bool h4
        exact ⟨⟨f, t, p, n, d⟩, rfl, hf, ht, hp, hn⟩
    · cases h

theorem ac_cells (w : World) (b off : Nat) (a : Ac) (h : ∀ i, i < 5 → w.cell? ⟨b, off + i, none⟩ = a.cells.toList[i]?) : AcAt w b off a :=
  ⟨h 0 (by omega), h 1 (by omega), h 2 (by omega), h 3 (by omega), h 4 (by omega)⟩

theorem ch_add (b off n : Nat) : (⟨b, off, none⟩ : Addr).add n = ⟨b, off + n, none⟩ := by
  unfold Addr.add
  split
  · rename_i h; subst h; rfl
  · rfl

/-- A chart that came in. -/
theorem acs_of_trod {W : World} {a : Option Addr} {len cap fuel : Nat} {x : DataW H × List MemPlace} (h : DataW.trod enc Tryz.prog W 0 (fun _ => true) true fuel 22 [.slice a len cap] = some x) :
    ∃ l : List Ac, l.length = len ∧ (∀ k, k < l.length → AcOk (l.getD k ac0)) ∧ IsSl W a l cap := by
  rcases open_slice Tryz.underlying22 h with ⟨hcs, _⟩ | ⟨x, l, c, m, n, D, Pl, hcs, _, hl, hm, hmm, _, hx⟩
  · simp at hcs
    obtain ⟨rfl, rfl, rfl⟩ := hcs
    exact ⟨[], rfl, by simp, ⟨by simp, .inl rfl⟩⟩
  · simp at hcs
    obtain ⟨rfl, rfl, rfl⟩ := hcs
    have hmm2 : m = cap := hmm
    rw [acct_cells] at hx
    have hr : ∀ i, i < len → ∃ r : Ac, (∀ j, j < 5 → W.cell? ((x.add (i * 5)).add j) = r.cells.toList[j]?) ∧ AcOk r := fun i hi => by
      obtain ⟨cs', h1, h2⟩ := hx i (by omega)
      obtain ⟨r, rfl, ok⟩ := open_acct h2
      exact ⟨r, (World.cells?_some h1).2.2, ok⟩
    obtain ⟨f, hf⟩ := @choose_lt Ac ⟨ac0⟩ _ _ hr
    have hget : ∀ k, k < len → ((List.range len).map f).getD k ac0 = f k := fun k hk => by simp [List.getD, hk]
    have hlen : ((List.range len).map f).length = len := by simp
    refine ⟨(List.range len).map f, hlen, fun k hk => ?_, ⟨by rw [hlen]; exact hl, ?_⟩⟩
    · rw [hlen] at hk
      rw [hget k hk]
      exact (hf k hk).2
    · by_cases h0 : len = 0
      · subst h0
        exact .inl rfl
      · right
        obtain ⟨b, off, spot⟩ := x
        have hc : W.cell? ⟨b, off, spot⟩ = some (.string (f 0).code) := (hf 0 (by omega)).1 0 (by omega)
        have hspot : spot = none := World.cell?_spot hc
        subst hspot
        have hlt : b < W.heap.size := World.block_lt_of_cell? _ _ hc
        refine ⟨b, off, rfl, hlt, fun k hk => ?_⟩
        rw [hlen] at hk
        rw [hget k hk]
        refine ac_cells W b (off + k * 5) (f k) (fun i hi => ?_)
        have := (hf k hk).1 i hi
        rw [ch_add, ch_add] at this
        exact this
end
end Go.Proofs.YtpohlhejeaafdaaGreatDoor

namespace Go.Proofs.YtpohlhejeaafdaaGreatDoor
set_option linter.unusedVariables false
set_option linter.unusedSimpArgs false
set_option maxRecDepth 100000
open Go.RowKit Go.Lib Go.Deep

section
variable {H : Type} {enc : TypeId × Value → H} {w : World} {base : Nat} {spare : Nat → Bool} {held : Bool}

theorem en_string {m : Nat} {c : Value} {y : DataW H × List MemPlace} (h : DataW.trod enc Tryz.prog w base spare held m 9 [c] = some y) : ∃ s, c = .string s ∧ s.size ≤ maxLen := by
  cases m with
  | zero => simp [DataW.trod] at h
  | succ m =>
    rw [DataW.trod_step] at h
    unfold DataW.trodStep at h
    rw [Tryz.underlying9] at h
    cases c <;> simp at h
    exact ⟨_, rfl, h.1⟩

theorem en_int {m : Nat} {c : Value} {y : DataW H × List MemPlace} (h : DataW.trod enc Tryz.prog w base spare held m 3 [c] = some y) : ∃ n, c = .int .i64 n ∧ (Lit.int .i64 n).wf = true := by
  cases m with
  | zero => simp [DataW.trod] at h
  | succ m =>
    rw [DataW.trod_step] at h
    unfold DataW.trodStep at h
    rw [Tryz.underlying3] at h
    cases c <;> simp at h
    rename_i k n
    obtain ⟨⟨rfl, h2⟩, _⟩ := h
    exact ⟨n, rfl, h2⟩

theorem line_cells : Tryz.prog.cellsOf 44 = 3 := by kernel_rfl
theorem entry_cells : Tryz.prog.cellsOf 29 = 4 := by kernel_rfl
theorem line_str : Tryz.prog.cellsOf 9 = 1 := by kernel_rfl
theorem line_int : Tryz.prog.cellsOf 3 = 1 := by kernel_rfl
theorem line_sl : Tryz.prog.cellsOf 27 = 1 := by kernel_rfl

theorem open_line {m : Nat} {cs : List Value} {x : DataW H × List MemPlace} (h : DataW.trod enc Tryz.prog w base spare held m 44 cs = some x) : ∃ a : Ln, cs = a.cells.toList ∧ (Lit.int .i64 a.amt).wf = true := by
  cases m with
  | zero => simp [DataW.trod] at h
  | succ m =>
    rw [DataW.trod_step] at h
    unfold DataW.trodStep at h
    rw [Tryz.underlying44] at h
    simp only [line_cells] at h
    split at h
    · rename_i hl
      match cs, hl with
      | [c0, c1, c2], _ =>
        simp [line_str, line_int] at h
        cases h0 : DataW.trod enc Tryz.prog w base spare held m 9 [c0]
        · simp [h0] at h
        cases h1 : DataW.trod enc Tryz.prog w base spare held m 9 [c1]
        · simp [h0, h1] at h
        cases h2 : DataW.trod enc Tryz.prog w base spare held m 3 [c2]
        · simp [h0, h1, h2] at h
        obtain ⟨f, rfl, hf⟩ := en_string h0
        obtain ⟨t, rfl, ht⟩ := en_string h1
        obtain ⟨p, rfl, hp⟩ := en_int h2
        exact ⟨⟨f, t, p⟩, rfl, hp⟩
    · cases h

theorem en_add (b off n : Nat) : (⟨b, off, none⟩ : Addr).add n = ⟨b, off + n, none⟩ := by
  unfold Addr.add
  split
  · rename_i h; subst h; rfl
  · rfl

/-- Lines that came in. -/
theorem lns_of_trod {W : World} {a : Option Addr} {len cap fuel : Nat} {x : DataW H × List MemPlace} (h : DataW.trod enc Tryz.prog W 0 (fun _ => true) true fuel 27 [.slice a len cap] = some x) :
    ∃ l : List Ln, l.length = len ∧ IsLn W a l cap ∧ (∀ x ∈ l, (Lit.int .i64 x.amt).wf = true) := by
  rcases open_slice Tryz.underlying27 h with ⟨hcs, _⟩ | ⟨x, l, c, m, n, D, Pl, hcs, _, hl, hm, hmm, _, hx⟩
  · simp at hcs
    obtain ⟨rfl, rfl, rfl⟩ := hcs
    exact ⟨[], rfl, ⟨by simp, .inl rfl⟩, by simp⟩
  · simp at hcs
    obtain ⟨rfl, rfl, rfl⟩ := hcs
    have hmm2 : m = cap := hmm
    rw [line_cells] at hx
    have hr : ∀ i, i < len → ∃ r : Ln, (∀ j, j < 3 → W.cell? ((x.add (i * 3)).add j) = r.cells.toList[j]?) ∧ (Lit.int .i64 r.amt).wf = true := fun i hi => by
      obtain ⟨cs', h1, h2⟩ := hx i (by omega)
      obtain ⟨r, rfl, hw⟩ := open_line h2
      exact ⟨r, (World.cells?_some h1).2.2, hw⟩
    obtain ⟨f, hf⟩ := @choose_lt Ln ⟨ln0⟩ _ _ hr
    have hget : ∀ k, k < len → ((List.range len).map f).getD k ln0 = f k := fun k hk => by simp [List.getD, hk]
    have hlen : ((List.range len).map f).length = len := by simp
    refine ⟨(List.range len).map f, hlen, ⟨by rw [hlen]; exact hl, ?_⟩, ?_⟩
    · by_cases h0 : len = 0
      · subst h0
        exact .inl rfl
      · right
        obtain ⟨b, off, spot⟩ := x
        have hc : W.cell? ⟨b, off, spot⟩ = some (.string (f 0).acc) := (hf 0 (by omega)).1 0 (by omega)
        have hspot : spot = none := World.cell?_spot hc
        subst hspot
        have hlt : b < W.heap.size := World.block_lt_of_cell? _ _ hc
        refine ⟨b, off, rfl, hlt, fun k hk => ?_⟩
        rw [hlen] at hk
        rw [hget k hk]
        have C : ∀ i, i < 3 → W.cell? ⟨b, off + k * 3 + i, none⟩ = (f k).cells.toList[i]? := fun i hi => by
          have := (hf k hk).1 i hi
          rw [en_add, en_add] at this
          exact this
        exact ⟨C 0 (by omega), C 1 (by omega), C 2 (by omega)⟩
    · intro y hy
      obtain ⟨k, hk, rfl⟩ := List.mem_map.1 hy
      exact (hf k (List.mem_range.1 hk)).2

theorem entry_struct : ∃ fs, Tryz.prog.underlying 29 = some (.struct fs) := ⟨_, Tryz.underlying29⟩

/-- An entry that came in. -/
theorem entry_of_trod {W : World} {v : Value} {fuel : Nat} {x : DataW H × List MemPlace} (hv : ∃ cs, v = .agg cs ∧ cs.size = 4) (h : DataW.trod enc Tryz.prog W 0 (fun _ => true) true fuel 29 v.cells.toList = some x) :
    ∃ (r : ByteArray) (en pe : Int) (a : Option Addr) (l : List Ln) (cap : Nat), v = .agg #[.string r, .int .i64 en, .int .i64 pe, .slice a l.length cap] ∧ IsLn W a l cap ∧ (∀ x ∈ l, (Lit.int .i64 x.amt).wf = true) := by
  obtain ⟨cs, rfl, hs⟩ := hv
  obtain ⟨ls⟩ := cs
  cases fuel with
  | zero => simp [DataW.trod] at h
  | succ m =>
    rw [DataW.trod_step] at h
    unfold DataW.trodStep at h
    rw [Tryz.underlying29] at h
    simp only [entry_cells, Value.cells] at h
    match ls, hs with
    | [c0, c1, c2, c3], _ =>
      simp [line_str, line_int, line_sl] at h
      cases h0 : DataW.trod enc Tryz.prog W 0 (fun _ => true) true m 9 [c0]
      · simp [h0] at h
      cases h1 : DataW.trod enc Tryz.prog W 0 (fun _ => true) true m 3 [c1]
      · simp [h0, h1] at h
      cases h2 : DataW.trod enc Tryz.prog W 0 (fun _ => true) true m 3 [c2]
      · simp [h0, h1, h2] at h
      cases h3 : DataW.trod enc Tryz.prog W 0 (fun _ => true) true m 27 [c3]
      · simp [h0, h1, h2, h3] at h
      obtain ⟨r, rfl, _⟩ := en_string h0
      obtain ⟨en, rfl, _⟩ := en_int h1
      obtain ⟨pe, rfl, _⟩ := en_int h2
      obtain ⟨a, len, cap, rfl⟩ : ∃ a len cap, c3 = .slice a len cap := by
        rcases open_slice Tryz.underlying27 h3 with ⟨hcs, _⟩ | ⟨x, l, c, m, n, D, Pl, hcs, _⟩
        · simp at hcs
          exact ⟨_, _, _, hcs⟩
        · simp at hcs
          exact ⟨_, _, _, hcs⟩
      obtain ⟨l, hl, hsl, hw⟩ := lns_of_trod h3
      subst hl
      exact ⟨r, en, pe, a, l, cap, rfl, hsl, hw⟩
end
end Go.Proofs.YtpohlhejeaafdaaGreatDoor

namespace Go.Proofs.YtpohlhejeaafdaaGreatDoor
set_option linter.unusedVariables false
set_option linter.unusedSimpArgs false
set_option maxRecDepth 100000
open Go.RowKit Go.Lib Go.Deep
section
variable {H : Type} {enc : TypeId × Value → H}
/-- Entries that came in. -/
theorem jes_of_trod {W : World} {a : Option Addr} {len cap fuel : Nat} {x : DataW H × List MemPlace} (h : DataW.trod enc Tryz.prog W 0 (fun _ => true) true fuel 23 [.slice a len cap] = some x) :
    ∃ L : List Je, L.length = len ∧ IsJs W a L cap ∧ len ≤ maxLen := by
  rcases open_slice Tryz.underlying23 h with ⟨hcs, _⟩ | ⟨x, l, c, m, n, D, Pl, hcs, _, hl, hm, hmm, _, hx⟩
  · simp at hcs
    obtain ⟨rfl, rfl, rfl⟩ := hcs
    exact ⟨[], rfl, ⟨by simp, .inl rfl, by simp⟩, by unfold maxLen; omega⟩
  · simp at hcs
    obtain ⟨rfl, rfl, rfl⟩ := hcs
    have hmm2 : m = cap := hmm
    rw [entry_cells] at hx
    have hr : ∀ i, i < len → ∃ r : Je, W.cell? ((x.add (i * 4)).add 0) = some (.string r.ref) ∧ W.cell? ((x.add (i * 4)).add 1) = some (.int .i64 r.ent) ∧ W.cell? ((x.add (i * 4)).add 2) = some (.int .i64 r.per) ∧ W.cell? ((x.add (i * 4)).add 3) = some (.slice r.adr r.lns.length r.cap) ∧ IsLn W r.adr r.lns r.cap := fun i hi => by
      obtain ⟨cs', h1, h2⟩ := hx i (by omega)
      have hc := World.cells?_some h1
      obtain ⟨r, en, pe, a', l', c', he, hsl, hw⟩ := entry_of_trod (v := .agg cs'.toArray) ⟨_, rfl, by simpa using hc.2.1⟩ (by simpa [Value.cells] using h2)
      have he' : cs' = [.string r, .int .i64 en, .int .i64 pe, .slice a' l'.length c'] := by
        have := Value.agg.inj he
        simpa using congrArg Array.toList this
      subst he'
      have hc := hc.2.2
      exact ⟨⟨r, en, pe, a', c', l'⟩, hc 0 (by omega), hc 1 (by omega), hc 2 (by omega), hc 3 (by omega), hsl⟩
    obtain ⟨f, hf⟩ := @choose_lt Je ⟨je0⟩ _ _ hr
    have hget : ∀ k, k < len → ((List.range len).map f).getD k je0 = f k := fun k hk => by simp [List.getD, hk]
    have hlen : ((List.range len).map f).length = len := by simp
    refine ⟨(List.range len).map f, hlen, ⟨by rw [hlen]; exact hl, ?_, ?_⟩, Nat.le_trans hl hm⟩
    · by_cases h0 : len = 0
      · subst h0
        exact .inl rfl
      · right
        obtain ⟨b, off, spot⟩ := x
        have hc : W.cell? ⟨b, off, spot⟩ = some (.string (f 0).ref) := (hf 0 (by omega)).1
        have hspot : spot = none := World.cell?_spot hc
        subst hspot
        have hlt : b < W.heap.size := World.block_lt_of_cell? _ _ hc
        refine ⟨b, off, rfl, hlt, fun k hk => ?_⟩
        rw [hlen] at hk
        rw [hget k hk]
        have := hf k hk
        simp only [en_add] at this
        exact ⟨this.1, this.2.1, this.2.2.1, this.2.2.2.1⟩
    · intro y hy
      obtain ⟨k, hk, rfl⟩ := List.mem_map.1 hy
      exact (hf k (List.mem_range.1 hk)).2.2.2.2
end
end Go.Proofs.YtpohlhejeaafdaaGreatDoor

namespace Go.Proofs.YtpohlhejeaafdaaGreatDoor
open Go.ChangeShapes Go.WideShapes Go.RowKit Go.ChangeAt Go.Deep
open Go.ChangeMaps (open_string shut_string)
set_option linter.unusedVariables false
set_option linter.unusedSimpArgs false

theorem jpl_own : ownKnob Tryz.prog.godebug = none := by kernel_rfl
theorem jpl_laidOut : laidOutB Tryz.prog = true := by kernel_rfl
theorem jpl_et : Tryz.prog.globalNamed "errors.errorType" = some 0 := by kernel_rfl
theorem jpl_rt : (Tryz.prog.cutTypes.find? (·.1 == "internal/reflectlite.rtype")).map (·.2) = some 133 := by kernel_rfl
theorem jpl_oneRow : ((List.range 182).filter fun t => Tryz.prog.rowNamed t [101, 114, 114, 111, 114]) = [31] := by kernel_rfl
theorem jpl_size : Tryz.prog.types.size = 182 := by kernel_rfl

/-- What the condition gives: the variable's one cell. -/
theorem handle_of_laid {W : World} (h : laidMetH Tryz.prog [("errors.errorType", Rows.laid_errors_errorType)] W) : ErrT W := by
  have h' : laidMet Tryz.prog [] W ∧ handlesMet Tryz.prog [("errors.errorType", Rows.laid_errors_errorType)] W := h
  obtain ⟨name, u, ty, e1, e2, e3, e4, e5⟩ := h'.2 _ (List.mem_singleton.2 rfl)
  have en : name = [101, 114, 114, 111, 114] := (Option.some.inj e1).symm
  subst en
  obtain rfl := Option.some.inj (jpl_rt.symm.trans e2)
  have hm : ty ∈ (List.range 182).filter fun t => Tryz.prog.rowNamed t [101, 114, 114, 111, 114] := List.mem_filter.2 ⟨List.mem_range.2 (by rw [← jpl_size]; exact e3), e4⟩
  rw [jpl_oneRow] at hm
  obtain rfl := List.mem_singleton.1 hm
  have hh : typeHandle Tryz.prog 31 = .pointer (some ⟨1, 31, none⟩) := by kernel_rfl
  rw [hh] at e5
  unfold ErrT
  simpa using World.var?_cell jpl_et e5 0

/-- A world that meets the condition. -/
theorem laidWorld_met (os : Os) (args : Array Value) : laidMetH Tryz.prog [("errors.errorType", Rows.laid_errors_errorType)] (({ World.holding Tryz.prog os ⟨#[], #[], []⟩ with heap := (World.holding Tryz.prog os ⟨#[], #[], []⟩).heap.modify 0 fun | .cells _ t frozen => .cells #[.iface 133 (.agg #[.pointer (some ⟨1, 31, none⟩)])] t frozen | o => o } : World).forCall (fun _ _ => 0) ⟨#[], args, []⟩).memory :=
  laidMetH_of_parts (laidMet_nil _ _) (by kernel_rfl)


set_option maxRecDepth 100000 in
theorem jpl_lifted (os : Os) (started : os.Started) (H : Type) (enc : TypeId × Value → H) :
    ReturnsInHanded {} Tryz.checked os 3 .any (fun w args => (Rows.journalPlaysSpec.pre enc Tryz.prog Tryz.f3 [] false w args ∧ laidMetH Tryz.prog [("errors.errorType", Rows.laid_errors_errorType)] w) ∧ sizedMet enc Tryz.prog Tryz.f3 (OpenSpec.ofChange Rows.journalPlaysSpec) false w args)
      (Rows.journalPlaysSpec.post enc Tryz.prog Tryz.f3 false true false false) := by
  refine returnsInHanded_of_change_and (C := Tryz.checked) (X := fun w _ => laidMetH Tryz.prog [("errors.errorType", Rows.laid_errors_errorType)] w) (fun _ _ _ hh h => h.of_heap hh) jpl_own started (by kernel_rfl) Tryz.func3
    (ChangeSpec.witness_at (enc := enc) (C := Tryz.checked) (os := os) (X := fun w _ => laidMetH Tryz.prog [("errors.errorType", Rows.laid_errors_errorType)] w) false ({ World.holding Tryz.prog os ⟨#[], #[], []⟩ with heap := (World.holding Tryz.prog os ⟨#[], #[], []⟩).heap.modify 0 fun | .cells _ t frozen => .cells #[.iface 133 (.agg #[.pointer (some ⟨1, 31, none⟩)])] t frozen | o => o } : World) #[.slice none 0 0, .slice none 0 0, .int .i64 0, .int .i64 0, .string ByteArray.empty, .string ByteArray.empty] 8 rfl (by kernel_rfl) (by kernel_rfl) (by kernel_rfl) (by kernel_rfl) (by kernel_rfl) (laidWorld_met os _)) ?_
  intro W base args ds gs before hval0 hW hcnd hsz0 hL _
  have hsz : (DataW.weightsEach Tryz.prog (Tryz.f3.params.toList ++ Rows.journalPlaysSpec.plain.varTypes Tryz.prog) (ds ++ gs)).all (· ≤ reachBytes) = true := hsz0
  clear hsz0
  have hval : ∀ (j : Nat) t v, Tryz.f3.params[j]? = some t → args[j]? = some v → Value.okWide Tryz.prog W .any base t v := hval0
  have hW' := hW
  obtain ⟨p, q, hA0, hV, rfl, hfz, hnd⟩ := hW
  have hA : DataW.TrodAll enc Tryz.prog W 0 (fun _ => true) true Tryz.f3.params.toList args.toList ds p := hA0
  rw [Tryz.params3] at hA hval hsz
  obtain ⟨v0, vs0, d0, ds0, p0, q0, hargs, rfl, rfl, h0, r0⟩ := trodAll_cons hA
  obtain ⟨v1, vs1, d1, ds1, p1, q1, rfl, rfl, rfl, h1, r1⟩ := trodAll_cons r0
  obtain ⟨v2, vs2, d2, ds2, p2, q2, rfl, rfl, rfl, h2, r2⟩ := trodAll_cons r1
  obtain ⟨v3, vs3, d3, ds3, p3, q3, rfl, rfl, rfl, h3, r3⟩ := trodAll_cons r2
  obtain ⟨v4, vs4, d4, ds4, p4, q4, rfl, rfl, rfl, h4, r4⟩ := trodAll_cons r3
  obtain ⟨v5, vs5, d5, ds5, p5, q5, rfl, rfl, rfl, h5, r5⟩ := trodAll_cons r4
  obtain ⟨rfl, rfl, rfl⟩ := trodAll_nil r5
  obtain rfl : args = #[v0, v1, v2, v3, v4, v5] := by cases args; simp_all
  obtain ⟨rfl, rfl⟩ := trodVars_none hV
  obtain ⟨a0, len0, cap0, rfl⟩ := okWide_slice Tryz.underlying22 (hval 0 22 v0 rfl rfl)
  obtain ⟨a1, len1, cap1, rfl⟩ := okWide_slice Tryz.underlying23 (hval 1 23 v1 rfl rfl)
  obtain ⟨en, rfl, rfl, rfl, wn⟩ := open_int Tryz.underlying3 (hval 2 3 v2 rfl rfl) h2
  obtain ⟨pe, rfl, rfl, rfl, wp⟩ := open_int Tryz.underlying3 (hval 3 3 v3 rfl rfl) h3
  obtain ⟨acc, rfl, rfl, rfl, wa⟩ := open_string Tryz.underlying9 (hval 4 9 v4 rfl rfl) h4
  obtain ⟨cur, rfl, rfl, rfl, ws⟩ := open_string Tryz.underlying9 (hval 5 9 v5 rfl rfl) h5
  have k0 := h0
  have lt0 : ∀ x ∈ p0, x.block < W.heap.size := by obtain ⟨m, hm⟩ := k0; exact DataW.trod_lt m _ _ _ hm
  have k1 := h1
  have lt1 : ∀ x ∈ p1, x.block < W.heap.size := by obtain ⟨m, hm⟩ := k1; exact DataW.trod_lt m _ _ _ hm
  obtain ⟨c, hl, hok, hsl⟩ : ∃ l : List Ac, l.length = len0 ∧ (∀ k, k < l.length → AcOk (l.getD k ac0)) ∧ IsSl W a0 l cap0 := by
    obtain ⟨fuel, hf⟩ := h0
    exact acs_of_trod hf
  obtain ⟨L, hl1, hsl1, hmx⟩ : ∃ L : List Je, L.length = len1 ∧ IsJs W a1 L cap1 ∧ len1 ≤ maxLen := by
    obtain ⟨fuel, hf⟩ := h1
    exact jes_of_trod hf
  clear hA0 hval0
  subst hl
  subst hl1
  have hg := handle_of_laid hL
  refine (jplays_any a0 cap0 c a1 cap1 L en pe acc cur W hmx hsl (fun k hk => ⟨(hok k hk).1, (hok k hk).2.1⟩) hsl1 hg).mono fun e W' ⟨he, bel⟩ => ?_
  subst he
  exact ⟨_, rfl, _, _, _, [], _, [], hW', trodAll_mk1 (shut_bool Tryz.underlying4 _), (trodAll_cons_mk (Below.trod jpl_laidOut (by kernel_rfl) (of_decide_eq_true (by kernel_rfl)) k0 bel lt0) (trodAll_cons_mk (Below.trod jpl_laidOut (by kernel_rfl) (of_decide_eq_true (by kernel_rfl)) k1 bel lt1) (trodAll_cons_mk (shut_int Tryz.underlying3 wn) (trodAll_cons_mk (shut_int Tryz.underlying3 wp) (trodAll_cons_mk (shut_string Tryz.underlying9 wa) (trodAll_cons_mk (shut_string Tryz.underlying9 ws) trodAll_mk0)))))), rfl, bel.frame _, fun h => by cases h⟩

theorem jpl_over : Rows.JournalPlaysSaid :=
  OpenClaim.holds_of_wide 3 Tryz.f3 rfl rfl rfl rfl rfl rfl rfl ⟨rfl, rfl, rfl, rfl, rfl⟩ rfl rfl rfl rfl rfl (by kernel_rfl) Tryz.func3 (by kernel_rfl)
    (of_decide_eq_true (by kernel_rfl)) (by unfold Func.isWrapper; first | (rw [if_pos (by decide +kernel)]; kernel_rfl) | (rw [if_neg (by decide +kernel)]; exact ⟨rfl, rfl⟩))
    (fun os started H enc _ => jpl_lifted os started H enc)

/-- The statement. -/
theorem journalPlays_holds : Rows.JournalPlaysCardSaid :=
  Claim7.holds_tied_plain_at .later [] [.handle] true _ true
    jpl_over (fun _ h => by cases h) (by kernel_rfl) (fun _ h => by cases h) journalPlays_row_tie rfl ⟨rfl, rfl⟩ (by kernel_rfl) rfl
    (fun f fn hf hfn => by
      obtain rfl : f = 3 := Option.some.inj ((show Tryz.prog.funcNamed "quarterday/daylaw3.JournalPlays" = some 3 by kernel_rfl).symm.trans hf) |>.symm
      obtain rfl : fn = Tryz.f3 := (Option.some.inj (Tryz.func3.symm.trans hfn)).symm
      exact ⟨by kernel_rfl, fun j t ht => by
        rw [Tryz.params3] at ht
        have h3 : t = 22 ∨ t = 23 ∨ t = 3 ∨ t = 9 := by
          rcases j with _ | _ | _ | _ | _ | _ | j
          · exact .inl (by simpa using ht.symm)
          · exact .inr (.inl (by simpa using ht.symm))
          · exact .inr (.inr (.inl (by simpa using ht.symm)))
          · exact .inr (.inr (.inl (by simpa using ht.symm)))
          · exact .inr (.inr (.inr (by simpa using ht.symm)))
          · exact .inr (.inr (.inr (by simpa using ht.symm)))
          · simp at ht
        rcases h3 with rfl | rfl | rfl | rfl
        · exact (show Tryz.prog.wantsStandIn 22 = false by kernel_rfl)
        · exact (show Tryz.prog.wantsStandIn 23 = false by kernel_rfl)
        · exact (show Tryz.prog.wantsStandIn 3 = false by kernel_rfl)
        · exact (show Tryz.prog.wantsStandIn 9 = false by kernel_rfl)⟩)
    (by kernel_rfl)
#print axioms journalPlays_holds
end Go.Proofs.YtpohlhejeaafdaaGreatDoor
