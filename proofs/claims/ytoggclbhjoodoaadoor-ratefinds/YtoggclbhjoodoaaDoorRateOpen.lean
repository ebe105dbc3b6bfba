/-
  A list of rates that came in, as it lies in memory.
-/
import Derived.Test.YtoggclbhjoodoaaDoorRate3
import Derived.Deep.Slices
import Derived.OpenShut
namespace Go.Proofs.YtoggclbhjoodoaaDoor
set_option linter.unusedVariables false
set_option maxRecDepth 100000
open Go.RowKit Go.Lib Go.Maps Go.Deep

section
variable {H : Type} {enc : TypeId × Value → H} {w : World} {base : Nat} {spare : Nat → Bool} {held : Bool}

theorem cell_string {m : Nat} {c : Value} {y : DataW H × List MemPlace} (h : DataW.trod enc Tryd.prog w base spare held m 9 [c] = some y) : ∃ s, c = .string s ∧ s.size ≤ maxLen := by
  cases m with
  | zero => simp [DataW.trod] at h
  | succ m =>
    rw [DataW.trod_step] at h
    unfold DataW.trodStep at h
    rw [Tryd.underlying9] at h
    cases c <;> simp at h
    exact ⟨_, rfl, h.1⟩

theorem cell_int {m : Nat} {c : Value} {y : DataW H × List MemPlace} (h : DataW.trod enc Tryd.prog w base spare held m 3 [c] = some y) : ∃ n, c = .int .i64 n ∧ (Lit.int .i64 n).wf = true := by
  cases m with
  | zero => simp [DataW.trod] at h
  | succ m =>
    rw [DataW.trod_step] at h
    unfold DataW.trodStep at h
    rw [Tryd.underlying3] at h
    cases c <;> simp at h
    rename_i k n
    obtain ⟨⟨rfl, h2⟩, _⟩ := h
    exact ⟨n, rfl, h2⟩

/-- What is asked of a rate that came in. -/
def RtOk (r : Rt) : Prop := r.frm.size ≤ maxLen ∧ r.dst.size ≤ maxLen ∧ (Lit.int .i64 r.per).wf = true ∧ (Lit.int .i64 r.num).wf = true ∧ (Lit.int .i64 r.den).wf = true

theorem rate_cells : Tryd.prog.cellsOf 39 = 5 := by kernel_rfl

theorem open_rate {m : Nat} {cs : List Value} {x : DataW H × List MemPlace} (h : DataW.trod enc Tryd.prog w base spare held m 39 cs = some x) : ∃ r : Rt, cs = r.cells.toList ∧ RtOk r := by
  cases m with
  | zero => simp [DataW.trod] at h
  | succ m =>
    rw [DataW.trod_step] at h
    unfold DataW.trodStep at h
    rw [Tryd.underlying39] at h
    simp only [rate_cells] at h
    split at h
    · rename_i hl
      match cs, hl with
      | [c0, c1, c2, c3, c4], _ =>
        simp [str_cells, int_cells] at h
        cases h0 : DataW.trod enc Tryd.prog w base spare held m 9 [c0]
        · simp [h0] at h
        cases h1 : DataW.trod enc Tryd.prog w base spare held m 9 [c1]
        · simp [h0, h1] at h
        cases h2 : DataW.trod enc Tryd.prog w base spare held m 3 [c2]
        · simp [h0, h1, h2] at h
        cases h3 : DataW.trod enc Tryd.prog w base spare held m 3 [c3]
        · simp [h0, h1, h2, h3] at h
        cases h4 : DataW.trod enc Tryd.prog w base spare held m 3 [c4]
        · simp [h0, h1, h2, h3, h4] at h
        obtain ⟨f, rfl, hf⟩ := cell_string h0
        obtain ⟨t, rfl, ht⟩ := cell_string h1
        obtain ⟨p, rfl, hp⟩ := cell_int h2
        obtain ⟨n, rfl, hn⟩ := cell_int h3
        obtain ⟨d, rfl, hd⟩ := cell_int h4
        exact ⟨⟨f, t, p, n, d⟩, rfl, hf, ht, hp, hn, hd⟩
    · cases h

theorem rt_cells (w : World) (b off : Nat) (r : Rt) (h : ∀ i, i < 5 → w.cell? ⟨b, off + i, none⟩ = r.cells.toList[i]?) : RtAt w b off r :=
  ⟨h 0 (by omega), h 1 (by omega), h 2 (by omega), h 3 (by omega), h 4 (by omega)⟩

theorem add_none (b off n : Nat) : (⟨b, off, none⟩ : Addr).add n = ⟨b, off + n, none⟩ := by
  unfold Addr.add
  split
  · rename_i h; subst h; rfl
  · rfl

/-- The table of a list that came in. -/
theorem table_of_trod {W : World} {a : Option Addr} {len cap fuel : Nat} {x : DataW H × List MemPlace} (h : DataW.trod enc Tryd.prog W 0 (fun _ => true) true fuel 22 [.slice a len cap] = some x) :
    ∃ rs : List Rt, rs.length = len ∧ (∀ r ∈ rs, RtOk r) ∧ ∀ w', Below W.heap.size W w' → Calls Tryd.prog 14 #[.slice a len cap] w' (TabEnd w' (tabS rs)) := by
  rcases open_slice Tryd.underlying22 h with ⟨hcs, _⟩ | ⟨x, l, c, m, n, D, Pl, hcs, _, hl, hm, hmm, _, hx⟩
  · simp at hcs
    obtain ⟨rfl, rfl, rfl⟩ := hcs
    exact ⟨[], rfl, by simp, fun w' _ => table_none none 0 w'⟩
  · simp at hcs
    obtain ⟨rfl, rfl, rfl⟩ := hcs
    have hmm2 : m = cap := hmm
    rw [rate_cells] at hx
    have hr : ∀ i, i < len → ∃ r : Rt, (∀ j, j < 5 → W.cell? ((x.add (i * 5)).add j) = r.cells.toList[j]?) ∧ RtOk r := fun i hi => by
      obtain ⟨cs', h1, h2⟩ := hx i (by omega)
      obtain ⟨r, rfl, ok⟩ := open_rate h2
      exact ⟨r, (World.cells?_some h1).2.2, ok⟩
    obtain ⟨f, hf⟩ := @choose_lt Rt ⟨rt0⟩ _ _ hr
    have hget : ∀ k, k < len → ((List.range len).map f).getD k rt0 = f k := fun k hk => by simp [List.getD, hk]
    refine ⟨(List.range len).map f, by simp, ?_, fun w' hw => ?_⟩
    · intro r hr
      simp only [List.mem_map, List.mem_range] at hr
      obtain ⟨i, hi, rfl⟩ := hr
      exact (hf i hi).2
    · by_cases h0 : len = 0
      · subst h0
        exact table_none _ _ w'
      by_cases h1 : 100 < len
      · exact table_full _ _ _ _ w' (by simp) h1
      obtain ⟨b, off, spot⟩ := x
      have hc : W.cell? ⟨b, off, spot⟩ = some (.string (f 0).frm) := (hf 0 (by omega)).1 0 (by omega)
      have hspot : spot = none := World.cell?_spot hc
      subst hspot
      have hlt : b < W.heap.size := World.block_lt_of_cell? _ _ hc
      have key := table_some b off cap ((List.range len).map f) w' (by have := hw.size; omega) (by simp; omega) (by simp; omega)
        (fun k hk => by
          simp only [List.length_map, List.length_range] at hk
          rw [hget k hk]
          refine (rt_cells W b (off + k * 5) (f k) (fun i hi => ?_)).below hw hlt
          have := (hf k hk).1 i hi
          rw [add_none, add_none] at this
          exact this)
        (fun k hk => by
          simp only [List.length_map, List.length_range] at hk
          rw [hget k hk]
          exact ⟨(hf k hk).2.1, (hf k hk).2.2.1⟩)
        (fun k hk => by
          simp only [List.length_map, List.length_range] at hk
          rw [hget k hk]
          exact (hf k hk).2.2.2.1)
      rw [show ((List.range len).map f).length = len by simp] at key
      exact key
end
end Go.Proofs.YtoggclbhjoodoaaDoor
