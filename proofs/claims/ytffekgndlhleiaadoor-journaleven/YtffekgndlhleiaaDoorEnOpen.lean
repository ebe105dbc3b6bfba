/-
  An entry that came in, as it lies in memory.
-/
import Derived.Test.YtffekgndlhleiaaDoorEn2
import Derived.Deep.Slices
import Derived.OpenShut
namespace Go.Proofs.YtffekgndlhleiaaDoor
set_option linter.unusedVariables false
set_option linter.unusedSimpArgs false
set_option maxRecDepth 100000
open Go.RowKit Go.Lib Go.Deep

section
variable {H : Type} {enc : TypeId × Value → H} {w : World} {base : Nat} {spare : Nat → Bool} {held : Bool}

theorem en_string {m : Nat} {c : Value} {y : DataW H × List MemPlace} (h : DataW.trod enc Tryd.prog w base spare held m 9 [c] = some y) : ∃ s, c = .string s ∧ s.size ≤ maxLen := by
  cases m with
  | zero => simp [DataW.trod] at h
  | succ m =>
    rw [DataW.trod_step] at h
    unfold DataW.trodStep at h
    rw [Tryd.underlying9] at h
    cases c <;> simp at h
    exact ⟨_, rfl, h.1⟩

theorem en_int {m : Nat} {c : Value} {y : DataW H × List MemPlace} (h : DataW.trod enc Tryd.prog w base spare held m 3 [c] = some y) : ∃ n, c = .int .i64 n ∧ (Lit.int .i64 n).wf = true := by
  cases m with
  | zero => simp [DataW.trod] at h
  | succ m =>
    rw [DataW.trod_step] at h
    unfold DataW.trodStep at h
    rw [Tryd.underlying3] at h
    cases c <;> simp at h
    rename_i k n
    obtain ⟨⟨rfl, h2⟩, _⟩ := h
    exact ⟨n, rfl, h2⟩

theorem line_cells : Tryd.prog.cellsOf 55 = 3 := by kernel_rfl
theorem entry_cells : Tryd.prog.cellsOf 33 = 4 := by kernel_rfl
theorem line_str : Tryd.prog.cellsOf 9 = 1 := by kernel_rfl
theorem line_int : Tryd.prog.cellsOf 3 = 1 := by kernel_rfl
theorem line_sl : Tryd.prog.cellsOf 31 = 1 := by kernel_rfl

theorem open_line {m : Nat} {cs : List Value} {x : DataW H × List MemPlace} (h : DataW.trod enc Tryd.prog w base spare held m 55 cs = some x) : ∃ a : Ln, cs = a.cells.toList ∧ (Lit.int .i64 a.amt).wf = true := by
  cases m with
  | zero => simp [DataW.trod] at h
  | succ m =>
    rw [DataW.trod_step] at h
    unfold DataW.trodStep at h
    rw [Tryd.underlying55] at h
    simp only [line_cells] at h
    split at h
    · rename_i hl
      match cs, hl with
      | [c0, c1, c2], _ =>
        simp [line_str, line_int] at h
        cases h0 : DataW.trod enc Tryd.prog w base spare held m 9 [c0]
        · simp [h0] at h
        cases h1 : DataW.trod enc Tryd.prog w base spare held m 9 [c1]
        · simp [h0, h1] at h
        cases h2 : DataW.trod enc Tryd.prog w base spare held m 3 [c2]
        · simp [h0, h1, h2] at h
        obtain ⟨f, rfl, hf⟩ := en_string h0
        obtain ⟨t, rfl, ht⟩ := en_string h1
        obtain ⟨p, rfl, hp⟩ := en_int h2
        exact ⟨⟨f, t, p⟩, rfl, hp⟩
    · cases h

theorem en_add (b off n : Nat) : (⟨b, off, none⟩ : Addr).add n = ⟨b, off + n, none⟩ := by
  unfold Addr.add
  split
  · rename_i h; subst h; rfl
  · rfl

/-- Lines that came in. -/
theorem lns_of_trod {W : World} {a : Option Addr} {len cap fuel : Nat} {x : DataW H × List MemPlace} (h : DataW.trod enc Tryd.prog W 0 (fun _ => true) true fuel 31 [.slice a len cap] = some x) :
    ∃ l : List Ln, l.length = len ∧ IsLn W a l cap ∧ (∀ x ∈ l, (Lit.int .i64 x.amt).wf = true) := by
  rcases open_slice Tryd.underlying31 h with ⟨hcs, _⟩ | ⟨x, l, c, m, n, D, Pl, hcs, _, hl, hm, hmm, _, hx⟩
  · simp at hcs
    obtain ⟨rfl, rfl, rfl⟩ := hcs
    exact ⟨[], rfl, ⟨by simp, .inl rfl⟩, by simp⟩
  · simp at hcs
    obtain ⟨rfl, rfl, rfl⟩ := hcs
    have hmm2 : m = cap := hmm
    rw [line_cells] at hx
    have hr : ∀ i, i < len → ∃ r : Ln, (∀ j, j < 3 → W.cell? ((x.add (i * 3)).add j) = r.cells.toList[j]?) ∧ (Lit.int .i64 r.amt).wf = true := fun i hi => by
      obtain ⟨cs', h1, h2⟩ := hx i (by omega)
      obtain ⟨r, rfl, hw⟩ := open_line h2
      exact ⟨r, (World.cells?_some h1).2.2, hw⟩
    obtain ⟨f, hf⟩ := @choose_lt Ln ⟨ln0⟩ _ _ hr
    have hget : ∀ k, k < len → ((List.range len).map f).getD k ln0 = f k := fun k hk => by simp [List.getD, hk]
    have hlen : ((List.range len).map f).length = len := by simp
    refine ⟨(List.range len).map f, hlen, ⟨by rw [hlen]; exact hl, ?_⟩, ?_⟩
    · by_cases h0 : len = 0
      · subst h0
        exact .inl rfl
      · right
        obtain ⟨b, off, spot⟩ := x
        have hc : W.cell? ⟨b, off, spot⟩ = some (.string (f 0).acc) := (hf 0 (by omega)).1 0 (by omega)
        have hspot : spot = none := World.cell?_spot hc
        subst hspot
        have hlt : b < W.heap.size := World.block_lt_of_cell? _ _ hc
        refine ⟨b, off, rfl, hlt, fun k hk => ?_⟩
        rw [hlen] at hk
        rw [hget k hk]
        have C : ∀ i, i < 3 → W.cell? ⟨b, off + k * 3 + i, none⟩ = (f k).cells.toList[i]? := fun i hi => by
          have := (hf k hk).1 i hi
          rw [en_add, en_add] at this
          exact this
        exact ⟨C 0 (by omega), C 1 (by omega), C 2 (by omega)⟩
    · intro y hy
      obtain ⟨k, hk, rfl⟩ := List.mem_map.1 hy
      exact (hf k (List.mem_range.1 hk)).2

theorem entry_struct : ∃ fs, Tryd.prog.underlying 33 = some (.struct fs) := ⟨_, Tryd.underlying33⟩

/-- An entry that came in. -/
theorem entry_of_trod {W : World} {v : Value} {fuel : Nat} {x : DataW H × List MemPlace} (hv : ∃ cs, v = .agg cs ∧ cs.size = 4) (h : DataW.trod enc Tryd.prog W 0 (fun _ => true) true fuel 33 v.cells.toList = some x) :
    ∃ (r : ByteArray) (en pe : Int) (a : Option Addr) (l : List Ln) (cap : Nat), v = .agg #[.string r, .int .i64 en, .int .i64 pe, .slice a l.length cap] ∧ IsLn W a l cap ∧ (∀ x ∈ l, (Lit.int .i64 x.amt).wf = true) := by
  obtain ⟨cs, rfl, hs⟩ := hv
  obtain ⟨ls⟩ := cs
  cases fuel with
  | zero => simp [DataW.trod] at h
  | succ m =>
    rw [DataW.trod_step] at h
    unfold DataW.trodStep at h
    rw [Tryd.underlying33] at h
    simp only [entry_cells, Value.cells] at h
    match ls, hs with
    | [c0, c1, c2, c3], _ =>
      simp [line_str, line_int, line_sl] at h
      cases h0 : DataW.trod enc Tryd.prog W 0 (fun _ => true) true m 9 [c0]
      · simp [h0] at h
      cases h1 : DataW.trod enc Tryd.prog W 0 (fun _ => true) true m 3 [c1]
      · simp [h0, h1] at h
      cases h2 : DataW.trod enc Tryd.prog W 0 (fun _ => true) true m 3 [c2]
      · simp [h0, h1, h2] at h
      cases h3 : DataW.trod enc Tryd.prog W 0 (fun _ => true) true m 31 [c3]
      · simp [h0, h1, h2, h3] at h
      obtain ⟨r, rfl, _⟩ := en_string h0
      obtain ⟨en, rfl, _⟩ := en_int h1
      obtain ⟨pe, rfl, _⟩ := en_int h2
      obtain ⟨a, len, cap, rfl⟩ : ∃ a len cap, c3 = .slice a len cap := by
        rcases open_slice Tryd.underlying31 h3 with ⟨hcs, _⟩ | ⟨x, l, c, m, n, D, Pl, hcs, _⟩
        · simp at hcs
          exact ⟨_, _, _, hcs⟩
        · simp at hcs
          exact ⟨_, _, _, hcs⟩
      obtain ⟨l, hl, hsl, hw⟩ := lns_of_trod h3
      subst hl
      exact ⟨r, en, pe, a, l, cap, rfl, hsl, hw⟩
end
end Go.Proofs.YtffekgndlhleiaaDoor
