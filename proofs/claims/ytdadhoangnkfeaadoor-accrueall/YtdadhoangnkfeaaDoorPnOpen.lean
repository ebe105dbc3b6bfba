/-
  Plans that came in, as they lie in memory.
-/
import Derived.Test.YtdadhoangnkfeaaDoorPn1
import Derived.Deep.Slices
import Derived.OpenShut
namespace Go.Proofs.YtdadhoangnkfeaaDoor
set_option linter.unusedVariables false
set_option linter.unusedSimpArgs false
set_option maxRecDepth 100000
open Go.RowKit Go.Lib Go.Deep

section
variable {H : Type} {enc : TypeId × Value → H} {w : World} {base : Nat} {spare : Nat → Bool} {held : Bool}

theorem pl_string {m : Nat} {c : Value} {y : DataW H × List MemPlace} (h : DataW.trod enc Tryd.prog w base spare held m 9 [c] = some y) : ∃ s, c = .string s ∧ s.size ≤ maxLen := by
  cases m with
  | zero => simp [DataW.trod] at h
  | succ m =>
    rw [DataW.trod_step] at h
    unfold DataW.trodStep at h
    rw [Tryd.underlying9] at h
    cases c <;> simp at h
    exact ⟨_, rfl, h.1⟩
theorem pl_int {m : Nat} {c : Value} {y : DataW H × List MemPlace} (h : DataW.trod enc Tryd.prog w base spare held m 3 [c] = some y) : ∃ n, c = .int .i64 n ∧ (Lit.int .i64 n).wf = true := by
  cases m with
  | zero => simp [DataW.trod] at h
  | succ m =>
    rw [DataW.trod_step] at h
    unfold DataW.trodStep at h
    rw [Tryd.underlying3] at h
    cases c <;> simp at h
    rename_i k n
    obtain ⟨⟨rfl, h2⟩, _⟩ := h
    exact ⟨n, rfl, h2⟩
/-- What holds of a plan that came in. -/
structure PnOk (p : Pn) : Prop where
  ref : p.ref.size ≤ maxLen
  src : p.src.size ≤ maxLen
  dst : p.dst.size ≤ maxLen
  cur : p.cur.size ≤ maxLen
  ent : (Lit.int .i64 p.ent).wf = true
  amt : (Lit.int .i64 p.amt).wf = true
  fst : (Lit.int .i64 p.fst).wf = true
  per : (Lit.int .i64 p.per).wf = true
theorem plan_cells : Tryd.prog.cellsOf 23 = 8 := by kernel_rfl
theorem plan_str : Tryd.prog.cellsOf 9 = 1 := by kernel_rfl
theorem plan_int : Tryd.prog.cellsOf 3 = 1 := by kernel_rfl
theorem open_plan {m : Nat} {cs : List Value} {x : DataW H × List MemPlace} (h : DataW.trod enc Tryd.prog w base spare held m 23 cs = some x) : ∃ a : Pn, cs = a.cells.toList ∧ PnOk a := by
  cases m with
  | zero => simp [DataW.trod] at h
  | succ m =>
    rw [DataW.trod_step] at h
    unfold DataW.trodStep at h
    rw [Tryd.underlying23] at h
    simp only [plan_cells] at h
    split at h
    · rename_i hl
      match cs, hl with
      | [c0, c1, c2, c3, c4, c5, c6, c7], _ =>
        simp [plan_str, plan_int] at h
        cases h0 : DataW.trod enc Tryd.prog w base spare held m 9 [c0]
        · simp [h0] at h
        cases h1 : DataW.trod enc Tryd.prog w base spare held m 3 [c1]
        · simp [h0, h1] at h
        cases h2 : DataW.trod enc Tryd.prog w base spare held m 9 [c2]
        · simp [h0, h1, h2] at h
        cases h3 : DataW.trod enc Tryd.prog w base spare held m 9 [c3]
        · simp [h0, h1, h2, h3] at h
        cases h4 : DataW.trod enc Tryd.prog w base spare held m 9 [c4]
        · simp [h0, h1, h2, h3, h4] at h
        cases h5 : DataW.trod enc Tryd.prog w base spare held m 3 [c5]
        · simp [h0, h1, h2, h3, h4, h5] at h
        cases h6 : DataW.trod enc Tryd.prog w base spare held m 3 [c6]
        · simp [h0, h1, h2, h3, h4, h5, h6] at h
        cases h7 : DataW.trod enc Tryd.prog w base spare held m 3 [c7]
        · simp [h0, h1, h2, h3, h4, h5, h6, h7] at h
        obtain ⟨x0, rfl, k0⟩ := pl_string h0
        obtain ⟨x1, rfl, k1⟩ := pl_int h1
        obtain ⟨x2, rfl, k2⟩ := pl_string h2
        obtain ⟨x3, rfl, k3⟩ := pl_string h3
        obtain ⟨x4, rfl, k4⟩ := pl_string h4
        obtain ⟨x5, rfl, k5⟩ := pl_int h5
        obtain ⟨x6, rfl, k6⟩ := pl_int h6
        obtain ⟨x7, rfl, k7⟩ := pl_int h7
        exact ⟨⟨x0, x1, x2, x3, x4, x5, x6, x7⟩, rfl, ⟨k0, k2, k3, k4, k1, k5, k6, k7⟩⟩
    · cases h
/-- A plan that came in. -/
theorem plan_of_trod {W : World} {v : Value} {fuel : Nat} {x : DataW H × List MemPlace} (hv : ∃ cs, v = .agg cs ∧ cs.size = 8) (h : DataW.trod enc Tryd.prog W 0 (fun _ => true) true fuel 23 v.cells.toList = some x) : ∃ p : Pn, v = .agg p.cells ∧ PnOk p := by
  obtain ⟨cs, rfl, hs⟩ := hv
  obtain ⟨p, e, hp⟩ := open_plan h
  refine ⟨p, ?_, hp⟩
  have e2 : cs = p.cells := by
    simp only [Value.cells] at e
    cases cs
    simp only at e
    exact congrArg Array.mk e
  rw [e2]
theorem pl_add (b off n : Nat) : (⟨b, off, none⟩ : Addr).add n = ⟨b, off + n, none⟩ := by
  unfold Addr.add
  split
  · rename_i h; subst h; rfl
  · rfl
/-- Plans that came in. -/
theorem pns_of_trod {W : World} {a : Option Addr} {len cap fuel : Nat} {x : DataW H × List MemPlace} (h : DataW.trod enc Tryd.prog W 0 (fun _ => true) true fuel 25 [.slice a len cap] = some x) :
    ∃ l : List Pn, l.length = len ∧ IsPn W a l cap ∧ (∀ x ∈ l, PnOk x) ∧ len ≤ maxLen := by
  rcases open_slice Tryd.underlying25 h with ⟨hcs, _⟩ | ⟨x, l, c, m, n, D, Pl, hcs, hz, hl, hm, hmm, _, hx⟩
  · simp at hcs
    obtain ⟨rfl, rfl, rfl⟩ := hcs
    exact ⟨[], rfl, ⟨by simp, .inl rfl⟩, by simp, by unfold maxLen; omega⟩
  · simp at hcs
    obtain ⟨rfl, rfl, rfl⟩ := hcs
    have hmm2 : m = cap := hmm
    rw [plan_cells] at hx
    have hr : ∀ i, i < len → ∃ r : Pn, (∀ j, j < 8 → W.cell? ((x.add (i * 8)).add j) = r.cells.toList[j]?) ∧ PnOk r := fun i hi => by
      obtain ⟨cs', h1, h2⟩ := hx i (by omega)
      obtain ⟨r, rfl, hw⟩ := open_plan h2
      exact ⟨r, (World.cells?_some h1).2.2, hw⟩
    obtain ⟨f, hf⟩ := @choose_lt Pn ⟨pn0⟩ _ _ hr
    have hget : ∀ k, k < len → ((List.range len).map f).getD k pn0 = f k := fun k hk => by simp [List.getD, hk]
    have hlen : ((List.range len).map f).length = len := by simp
    refine ⟨(List.range len).map f, hlen, ⟨by rw [hlen]; exact hl, ?_⟩, ?_, by omega⟩
    · by_cases h0 : len = 0
      · subst h0
        exact .inl rfl
      · right
        obtain ⟨b, off, spot⟩ := x
        have hc : W.cell? ⟨b, off, spot⟩ = some (.string (f 0).ref) := (hf 0 (by omega)).1 0 (by omega)
        have hspot : spot = none := World.cell?_spot hc
        subst hspot
        have hlt : b < W.heap.size := World.block_lt_of_cell? _ _ hc
        refine ⟨b, off, rfl, hlt, fun k hk => ?_⟩
        rw [hlen] at hk
        rw [hget k hk]
        have C : ∀ i, i < 8 → W.cell? ⟨b, off + k * 8 + i, none⟩ = (f k).cells.toList[i]? := fun i hi => by
          have := (hf k hk).1 i hi
          rw [pl_add, pl_add] at this
          exact this
        exact ⟨C 0 (by omega), C 1 (by omega), C 2 (by omega), C 3 (by omega), C 4 (by omega), C 5 (by omega), C 6 (by omega), C 7 (by omega)⟩
    · intro y hy
      obtain ⟨k, hk, rfl⟩ := List.mem_map.1 hy
      exact (hf k (List.mem_range.1 hk)).2
end
end Go.Proofs.YtdadhoangnkfeaaDoor
