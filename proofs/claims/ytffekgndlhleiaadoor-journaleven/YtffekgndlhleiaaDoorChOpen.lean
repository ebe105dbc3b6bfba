/-
  A chart, and a list of numbers, that came in, as they lie in memory.
-/
import Derived.Test.YtffekgndlhleiaaDoorCh3
import Derived.Deep.Slices
import Derived.OpenShut
namespace Go.Proofs.YtffekgndlhleiaaDoor
set_option linter.unusedVariables false
set_option linter.unusedSimpArgs false
set_option maxRecDepth 100000
open Go.RowKit Go.Lib Go.Deep

section
variable {H : Type} {enc : TypeId × Value → H} {w : World} {base : Nat} {spare : Nat → Bool} {held : Bool}

theorem ch_string {m : Nat} {c : Value} {y : DataW H × List MemPlace} (h : DataW.trod enc Tryd.prog w base spare held m 9 [c] = some y) : ∃ s, c = .string s ∧ s.size ≤ maxLen := by
  cases m with
  | zero => simp [DataW.trod] at h
  | succ m =>
    rw [DataW.trod_step] at h
    unfold DataW.trodStep at h
    rw [Tryd.underlying9] at h
    cases c <;> simp at h
    exact ⟨_, rfl, h.1⟩

theorem ch_int {m : Nat} {c : Value} {y : DataW H × List MemPlace} (h : DataW.trod enc Tryd.prog w base spare held m 3 [c] = some y) : ∃ n, c = .int .i64 n ∧ (Lit.int .i64 n).wf = true := by
  cases m with
  | zero => simp [DataW.trod] at h
  | succ m =>
    rw [DataW.trod_step] at h
    unfold DataW.trodStep at h
    rw [Tryd.underlying3] at h
    cases c <;> simp at h
    rename_i k n
    obtain ⟨⟨rfl, h2⟩, _⟩ := h
    exact ⟨n, rfl, h2⟩

theorem ch_bool {m : Nat} {c : Value} {y : DataW H × List MemPlace} (h : DataW.trod enc Tryd.prog w base spare held m 4 [c] = some y) : ∃ n, c = .bool n := by
  cases m with
  | zero => simp [DataW.trod] at h
  | succ m =>
    rw [DataW.trod_step] at h
    unfold DataW.trodStep at h
    rw [Tryd.underlying4] at h
    cases c <;> simp at h
    exact ⟨_, rfl⟩

/-- What is asked of an account that came in. -/
def AcOk (a : Ac) : Prop := a.code.size ≤ maxLen ∧ a.name.size ≤ maxLen ∧ (Lit.int .i64 a.kind).wf = true ∧ a.par.size ≤ maxLen

theorem acct_cells : Tryd.prog.cellsOf 39 = 5 := by kernel_rfl
theorem acct_str : Tryd.prog.cellsOf 9 = 1 := by kernel_rfl
theorem acct_int : Tryd.prog.cellsOf 3 = 1 := by kernel_rfl
theorem acct_bool : Tryd.prog.cellsOf 4 = 1 := by kernel_rfl

theorem open_acct {m : Nat} {cs : List Value} {x : DataW H × List MemPlace} (h : DataW.trod enc Tryd.prog w base spare held m 39 cs = some x) : ∃ a : Ac, cs = a.cells.toList ∧ AcOk a := by
  cases m with
  | zero => simp [DataW.trod] at h
  | succ m =>
    rw [DataW.trod_step] at h
    unfold DataW.trodStep at h
    rw [Tryd.underlying39] at h
    simp only [acct_cells] at h
    split at h
    · rename_i hl
      match cs, hl with
      | [c0, c1, c2, c3, c4], _ =>
        simp [acct_str, acct_int, acct_bool] at h
        cases h0 : DataW.trod enc Tryd.prog w base spare held m 9 [c0]
        · simp [h0] at h
        cases h1 : DataW.trod enc Tryd.prog w base spare held m 9 [c1]
        · simp [h0, h1] at h
        cases h2 : DataW.trod enc Tryd.prog w base spare held m 3 [c2]
        · simp [h0, h1, h2] at h
        cases h3 : DataW.trod enc Tryd.prog w base spare held m 9 [c3]
        · simp [h0, h1, h2, h3] at h
        cases h4 : DataW.trod enc Tryd.prog w base spare held m 4 [c4]
        · simp [h0, h1, h2, h3, h4] at h
        obtain ⟨f, rfl, hf⟩ := ch_string h0
        obtain ⟨t, rfl, ht⟩ := ch_string h1
        obtain ⟨p, rfl, hp⟩ := ch_int h2
        obtain ⟨n, rfl, hn⟩ := ch_string h3
        obtain ⟨d, rfl⟩ := ch_bool h4
        exact ⟨⟨f, t, p, n, d⟩, rfl, hf, ht, hp, hn⟩
    · cases h

theorem ac_cells (w : World) (b off : Nat) (a : Ac) (h : ∀ i, i < 5 → w.cell? ⟨b, off + i, none⟩ = a.cells.toList[i]?) : AcAt w b off a :=
  ⟨h 0 (by omega), h 1 (by omega), h 2 (by omega), h 3 (by omega), h 4 (by omega)⟩

theorem ch_add (b off n : Nat) : (⟨b, off, none⟩ : Addr).add n = ⟨b, off + n, none⟩ := by
  unfold Addr.add
  split
  · rename_i h; subst h; rfl
  · rfl

/-- A chart that came in. -/
theorem acs_of_trod {W : World} {a : Option Addr} {len cap fuel : Nat} {x : DataW H × List MemPlace} (h : DataW.trod enc Tryd.prog W 0 (fun _ => true) true fuel 22 [.slice a len cap] = some x) :
    ∃ l : List Ac, l.length = len ∧ (∀ k, k < l.length → AcOk (l.getD k ac0)) ∧ IsSl W a l cap := by
  rcases open_slice Tryd.underlying22 h with ⟨hcs, _⟩ | ⟨x, l, c, m, n, D, Pl, hcs, _, hl, hm, hmm, _, hx⟩
  · simp at hcs
    obtain ⟨rfl, rfl, rfl⟩ := hcs
    exact ⟨[], rfl, by simp, ⟨by simp, .inl rfl⟩⟩
  · simp at hcs
    obtain ⟨rfl, rfl, rfl⟩ := hcs
    have hmm2 : m = cap := hmm
    rw [acct_cells] at hx
    have hr : ∀ i, i < len → ∃ r : Ac, (∀ j, j < 5 → W.cell? ((x.add (i * 5)).add j) = r.cells.toList[j]?) ∧ AcOk r := fun i hi => by
      obtain ⟨cs', h1, h2⟩ := hx i (by omega)
      obtain ⟨r, rfl, ok⟩ := open_acct h2
      exact ⟨r, (World.cells?_some h1).2.2, ok⟩
    obtain ⟨f, hf⟩ := @choose_lt Ac ⟨ac0⟩ _ _ hr
    have hget : ∀ k, k < len → ((List.range len).map f).getD k ac0 = f k := fun k hk => by simp [List.getD, hk]
    have hlen : ((List.range len).map f).length = len := by simp
    refine ⟨(List.range len).map f, hlen, fun k hk => ?_, ⟨by rw [hlen]; exact hl, ?_⟩⟩
    · rw [hlen] at hk
      rw [hget k hk]
      exact (hf k hk).2
    · by_cases h0 : len = 0
      · subst h0
        exact .inl rfl
      · right
        obtain ⟨b, off, spot⟩ := x
        have hc : W.cell? ⟨b, off, spot⟩ = some (.string (f 0).code) := (hf 0 (by omega)).1 0 (by omega)
        have hspot : spot = none := World.cell?_spot hc
        subst hspot
        have hlt : b < W.heap.size := World.block_lt_of_cell? _ _ hc
        refine ⟨b, off, rfl, hlt, fun k hk => ?_⟩
        rw [hlen] at hk
        rw [hget k hk]
        refine ac_cells W b (off + k * 5) (f k) (fun i hi => ?_)
        have := (hf k hk).1 i hi
        rw [ch_add, ch_add] at this
        exact this
end
end Go.Proofs.YtffekgndlhleiaaDoor
