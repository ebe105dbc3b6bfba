/-
  Balances that came in, as they lie in memory.
-/
import Derived.Test.YtcamimjjmcdbcaaLd7
import Derived.Deep.Slices
import Derived.OpenShut
namespace Go.Proofs.Ytcamimjjmcdbcaa
set_option linter.unusedVariables false
set_option linter.unusedSimpArgs false
set_option maxRecDepth 100000
open Go.RowKit Go.Lib

theorem ld_add (b off i : Nat) : (⟨b, off, none⟩ : Addr).add i = ⟨b, off + i, none⟩ := by
  rcases Nat.eq_zero_or_pos i with h | h
  · subst h; simp [Addr.add]
  · simp [Addr.add]; omega
theorem ld_wf {n : Int} (h : (Lit.int .i64 n).wf = true) : -9223372036854775808 ≤ n ∧ n ≤ 9223372036854775807 := by
  simp [Lit.wf, IntKind.min, IntKind.max, IntKind.bits, IntKind.signed] at h
  omega
section
variable {H : Type} {enc : TypeId × Value → H}
theorem ld_cell_string {w : World} {base : Nat} {spare : Nat → Bool} {held : Bool} {m : Nat} {c : Value} {y : DataW H × List MemPlace} (h : DataW.trod enc Try.prog w base spare held m 9 [c] = some y) : ∃ s, c = .string s ∧ s.size ≤ maxLen := by
  cases m with
  | zero => simp [DataW.trod] at h
  | succ m =>
    rw [DataW.trod_step] at h
    unfold DataW.trodStep at h
    rw [Try.underlying9] at h
    cases c <;> simp at h
    exact ⟨_, rfl, h.1⟩

theorem ld_cell_int {w : World} {base : Nat} {spare : Nat → Bool} {held : Bool} {m : Nat} {c : Value} {y : DataW H × List MemPlace} (h : DataW.trod enc Try.prog w base spare held m 3 [c] = some y) : ∃ n, c = .int .i64 n ∧ (Lit.int .i64 n).wf = true := by
  cases m with
  | zero => simp [DataW.trod] at h
  | succ m =>
    rw [DataW.trod_step] at h
    unfold DataW.trodStep at h
    rw [Try.underlying3] at h
    cases c <;> simp at h
    rename_i k n
    obtain ⟨⟨rfl, h2⟩, _⟩ := h
    exact ⟨n, rfl, h2⟩

theorem ld_bal_cells : Try.prog.cellsOf 28 = 4 := by kernel_rfl
theorem ld_open_bal {w : World} {base : Nat} {spare : Nat → Bool} {held : Bool} {m : Nat} {cs : List Value} {x : DataW H × List MemPlace} (h : DataW.trod enc Try.prog w base spare held m 28 cs = some x) : ∃ a : Bl, cs = a.cells.toList ∧ BlOk a := by
  cases m with
  | zero => simp [DataW.trod] at h
  | succ m =>
    rw [DataW.trod_step] at h
    unfold DataW.trodStep at h
    rw [Try.underlying28] at h
    simp only [ld_bal_cells] at h
    split at h
    · rename_i hl
      match cs, hl with
      | [c0, c1, c2, c3], _ =>
        simp [pl_str, pl_int] at h
        cases h0 : DataW.trod enc Try.prog w base spare held m 3 [c0]
        · simp [h0] at h
        cases h1 : DataW.trod enc Try.prog w base spare held m 9 [c1]
        · simp [h0, h1] at h
        cases h2 : DataW.trod enc Try.prog w base spare held m 9 [c2]
        · simp [h0, h1, h2] at h
        cases h3 : DataW.trod enc Try.prog w base spare held m 3 [c3]
        · simp [h0, h1, h2, h3] at h
        obtain ⟨f, rfl, hf⟩ := ld_cell_int h0
        obtain ⟨s, rfl, hs⟩ := ld_cell_string h1
        obtain ⟨t, rfl, ht⟩ := ld_cell_string h2
        obtain ⟨p, rfl, hp⟩ := ld_cell_int h3
        exact ⟨⟨f, s, t, p⟩, rfl, ⟨ld_wf hf, hs, ht⟩, ld_wf hp⟩
    · cases h

/-- Balances that came in. -/
theorem ld_bls_of_trod {W : World} {a : Option Addr} {len cap fuel : Nat} {x : DataW H × List MemPlace} (h : DataW.trod enc Try.prog W 0 (fun _ => true) true fuel 22 [.slice a len cap] = some x) :
    ∃ l : List Bl, l.length = len ∧ IsBl W a l cap ∧ (∀ x ∈ l, BlOk x) ∧ len ≤ maxLen := by
  rcases Go.Deep.open_slice Try.underlying22 h with ⟨hcs, _⟩ | ⟨x, l, c, m, n, D, Pl, hcs, _, hl, hm, hmm, _, hx⟩
  · simp at hcs
    obtain ⟨rfl, rfl, rfl⟩ := hcs
    exact ⟨[], rfl, ⟨by simp, .inl rfl⟩, by simp, by unfold maxLen; omega⟩
  · simp at hcs
    obtain ⟨rfl, rfl, rfl⟩ := hcs
    have hmm2 : m = cap := hmm
    rw [ld_bal_cells] at hx
    have hr : ∀ i, i < len → ∃ r : Bl, (∀ j, j < 4 → W.cell? ((x.add (i * 4)).add j) = r.cells.toList[j]?) ∧ BlOk r := fun i hi => by
      obtain ⟨cs', h1, h2⟩ := hx i (by omega)
      obtain ⟨r, rfl, hw⟩ := ld_open_bal h2
      exact ⟨r, (World.cells?_some h1).2.2, hw⟩
    obtain ⟨f, hf⟩ := @Go.Deep.choose_lt Bl ⟨bl0⟩ _ _ hr
    have hget : ∀ k, k < len → ((List.range len).map f).getD k bl0 = f k := fun k hk => by simp [List.getD, hk]
    have hlen : ((List.range len).map f).length = len := by simp
    refine ⟨(List.range len).map f, hlen, ⟨by rw [hlen]; exact hl, ?_⟩, ?_, Nat.le_trans hl hm⟩
    · by_cases h0 : len = 0
      · subst h0
        exact .inl rfl
      · right
        obtain ⟨b, off, spot⟩ := x
        have hc : W.cell? ⟨b, off, spot⟩ = some (.int .i64 (f 0).ent) := (hf 0 (by omega)).1 0 (by omega)
        have hspot : spot = none := World.cell?_spot hc
        subst hspot
        have hlt : b < W.heap.size := World.block_lt_of_cell? _ _ hc
        refine ⟨b, off, rfl, hlt, fun k hk => ?_⟩
        rw [hlen] at hk
        rw [hget k hk]
        have C : ∀ i, i < 4 → W.cell? ⟨b, off + k * 4 + i, none⟩ = (f k).cells.toList[i]? := fun i hi => by
          have := (hf k hk).1 i hi
          rw [ld_add, ld_add] at this
          exact this
        exact ⟨C 0 (by omega), C 1 (by omega), C 2 (by omega), C 3 (by omega)⟩
    · intro y hy
      obtain ⟨k, hk, rfl⟩ := List.mem_map.1 hy
      exact (hf k (List.mem_range.1 hk)).2

end

end Go.Proofs.Ytcamimjjmcdbcaa
