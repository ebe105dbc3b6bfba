/-
  Entries that came in, as they lie in memory.
-/
import Derived.Test.YtffekgndlhleiaaDoorJn1
import Derived.Test.YtffekgndlhleiaaDoorEnOpen
namespace Go.Proofs.YtffekgndlhleiaaDoor
set_option linter.unusedVariables false
set_option linter.unusedSimpArgs false
set_option maxRecDepth 100000
open Go.RowKit Go.Lib Go.Deep
section
variable {H : Type} {enc : TypeId × Value → H}
/-- Entries that came in. -/
theorem jes_of_trod {W : World} {a : Option Addr} {len cap fuel : Nat} {x : DataW H × List MemPlace} (h : DataW.trod enc Tryd.prog W 0 (fun _ => true) true fuel 23 [.slice a len cap] = some x) :
    ∃ L : List Je, L.length = len ∧ IsJs W a L cap ∧ len ≤ maxLen := by
  rcases open_slice Tryd.underlying23 h with ⟨hcs, _⟩ | ⟨x, l, c, m, n, D, Pl, hcs, _, hl, hm, hmm, _, hx⟩
  · simp at hcs
    obtain ⟨rfl, rfl, rfl⟩ := hcs
    exact ⟨[], rfl, ⟨by simp, .inl rfl, by simp⟩, by unfold maxLen; omega⟩
  · simp at hcs
    obtain ⟨rfl, rfl, rfl⟩ := hcs
    have hmm2 : m = cap := hmm
    rw [entry_cells] at hx
    have hr : ∀ i, i < len → ∃ r : Je, W.cell? ((x.add (i * 4)).add 0) = some (.string r.ref) ∧ W.cell? ((x.add (i * 4)).add 1) = some (.int .i64 r.ent) ∧ W.cell? ((x.add (i * 4)).add 2) = some (.int .i64 r.per) ∧ W.cell? ((x.add (i * 4)).add 3) = some (.slice r.adr r.lns.length r.cap) ∧ IsLn W r.adr r.lns r.cap := fun i hi => by
      obtain ⟨cs', h1, h2⟩ := hx i (by omega)
      have hc := World.cells?_some h1
      obtain ⟨r, en, pe, a', l', c', he, hsl, hw⟩ := entry_of_trod (v := .agg cs'.toArray) ⟨_, rfl, by simpa using hc.2.1⟩ (by simpa [Value.cells] using h2)
      have he' : cs' = [.string r, .int .i64 en, .int .i64 pe, .slice a' l'.length c'] := by
        have := Value.agg.inj he
        simpa using congrArg Array.toList this
      subst he'
      have hc := hc.2.2
      exact ⟨⟨r, en, pe, a', c', l'⟩, hc 0 (by omega), hc 1 (by omega), hc 2 (by omega), hc 3 (by omega), hsl⟩
    obtain ⟨f, hf⟩ := @choose_lt Je ⟨je0⟩ _ _ hr
    have hget : ∀ k, k < len → ((List.range len).map f).getD k je0 = f k := fun k hk => by simp [List.getD, hk]
    have hlen : ((List.range len).map f).length = len := by simp
    refine ⟨(List.range len).map f, hlen, ⟨by rw [hlen]; exact hl, ?_, ?_⟩, Nat.le_trans hl hm⟩
    · by_cases h0 : len = 0
      · subst h0
        exact .inl rfl
      · right
        obtain ⟨b, off, spot⟩ := x
        have hc : W.cell? ⟨b, off, spot⟩ = some (.string (f 0).ref) := (hf 0 (by omega)).1
        have hspot : spot = none := World.cell?_spot hc
        subst hspot
        have hlt : b < W.heap.size := World.block_lt_of_cell? _ _ hc
        refine ⟨b, off, rfl, hlt, fun k hk => ?_⟩
        rw [hlen] at hk
        rw [hget k hk]
        have := hf k hk
        simp only [en_add] at this
        exact ⟨this.1, this.2.1, this.2.2.1, this.2.2.2.1⟩
    · intro y hy
      obtain ⟨k, hk, rfl⟩ := List.mem_map.1 hy
      exact (hf k (List.mem_range.1 hk)).2.2.2.2
end
end Go.Proofs.YtffekgndlhleiaaDoor
