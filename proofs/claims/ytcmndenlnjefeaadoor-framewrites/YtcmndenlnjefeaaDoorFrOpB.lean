/-
  Balances that came in, as they lie in memory.
-/
import Derived.Test.YtcmndenlnjefeaaDoorFrOpen
import Derived.Test.YtcmndenlnjefeaaDoorFrBM
namespace Go.Proofs.YtcmndenlnjefeaaDoor
set_option linter.unusedVariables false
set_option linter.unusedSimpArgs false
set_option maxRecDepth 100000
open Go.RowKit Go.Lib

section
variable {H : Type} {enc : TypeId × Value → H}
theorem bal_cells : Tryd.prog.cellsOf 50 = 4 := by kernel_rfl
theorem open_bal {w : World} {base : Nat} {spare : Nat → Bool} {held : Bool} {m : Nat} {cs : List Value} {x : DataW H × List MemPlace} (h : DataW.trod enc Tryd.prog w base spare held m 50 cs = some x) : ∃ a : Bl, cs = a.cells.toList ∧ I64B a := by
  cases m with
  | zero => simp [DataW.trod] at h
  | succ m =>
    rw [DataW.trod_step] at h
    unfold DataW.trodStep at h
    rw [Tryd.underlying50] at h
    simp only [bal_cells] at h
    split at h
    · rename_i hl
      match cs, hl with
      | [c0, c1, c2, c3], _ =>
        simp [line_str, line_int] at h
        cases h0 : DataW.trod enc Tryd.prog w base spare held m 3 [c0]
        · simp [h0] at h
        cases h1 : DataW.trod enc Tryd.prog w base spare held m 9 [c1]
        · simp [h0, h1] at h
        cases h2 : DataW.trod enc Tryd.prog w base spare held m 9 [c2]
        · simp [h0, h1, h2] at h
        cases h3 : DataW.trod enc Tryd.prog w base spare held m 3 [c3]
        · simp [h0, h1, h2, h3] at h
        obtain ⟨f, rfl, hf⟩ := en_int h0
        obtain ⟨s, rfl, _⟩ := en_string h1
        obtain ⟨t, rfl, _⟩ := en_string h2
        obtain ⟨p, rfl, hp⟩ := en_int h3
        exact ⟨⟨f, s, t, p⟩, rfl, wf64 hf, wf64 hp⟩
    · cases h

/-- Balances that came in. -/
theorem bls_of_trod {W : World} {a : Option Addr} {len cap fuel : Nat} {x : DataW H × List MemPlace} (h : DataW.trod enc Tryd.prog W 0 (fun _ => true) true fuel 25 [.slice a len cap] = some x) :
    ∃ l : List Bl, l.length = len ∧ IsBl W a l cap ∧ (∀ x ∈ l, I64B x) ∧ len ≤ maxLen := by
  rcases Go.Deep.open_slice Tryd.underlying25 h with ⟨hcs, _⟩ | ⟨x, l, c, m, n, D, Pl, hcs, _, hl, hm, hmm, _, hx⟩
  · simp at hcs
    obtain ⟨rfl, rfl, rfl⟩ := hcs
    exact ⟨[], rfl, ⟨by simp, .inl rfl⟩, by simp, by unfold maxLen; omega⟩
  · simp at hcs
    obtain ⟨rfl, rfl, rfl⟩ := hcs
    have hmm2 : m = cap := hmm
    rw [bal_cells] at hx
    have hr : ∀ i, i < len → ∃ r : Bl, (∀ j, j < 4 → W.cell? ((x.add (i * 4)).add j) = r.cells.toList[j]?) ∧ I64B r := fun i hi => by
      obtain ⟨cs', h1, h2⟩ := hx i (by omega)
      obtain ⟨r, rfl, hw⟩ := open_bal h2
      exact ⟨r, (World.cells?_some h1).2.2, hw⟩
    obtain ⟨f, hf⟩ := @Go.Deep.choose_lt Bl ⟨bl0⟩ _ _ hr
    have hget : ∀ k, k < len → ((List.range len).map f).getD k bl0 = f k := fun k hk => by simp [List.getD, hk]
    have hlen : ((List.range len).map f).length = len := by simp
    refine ⟨(List.range len).map f, hlen, ⟨by rw [hlen]; exact hl, ?_⟩, ?_, Nat.le_trans hl hm⟩
    · by_cases h0 : len = 0
      · subst h0
        exact .inl rfl
      · right
        obtain ⟨b, off, spot⟩ := x
        have hc : W.cell? ⟨b, off, spot⟩ = some (.int .i64 (f 0).ent) := (hf 0 (by omega)).1 0 (by omega)
        have hspot : spot = none := World.cell?_spot hc
        subst hspot
        have hlt : b < W.heap.size := World.block_lt_of_cell? _ _ hc
        refine ⟨b, off, rfl, hlt, fun k hk => ?_⟩
        rw [hlen] at hk
        rw [hget k hk]
        have C : ∀ i, i < 4 → W.cell? ⟨b, off + k * 4 + i, none⟩ = (f k).cells.toList[i]? := fun i hi => by
          have := (hf k hk).1 i hi
          rw [en_add, en_add] at this
          exact this
        exact ⟨C 0 (by omega), C 1 (by omega), C 2 (by omega), C 3 (by omega)⟩
    · intro y hy
      obtain ⟨k, hk, rfl⟩ := List.mem_map.1 hy
      exact (hf k (List.mem_range.1 hk)).2

end

end Go.Proofs.YtcmndenlnjefeaaDoor
