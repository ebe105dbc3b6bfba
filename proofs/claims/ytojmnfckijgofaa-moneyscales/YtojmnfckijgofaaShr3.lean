/-
  The contract of money.Shares.
-/
import Derived.Test.YtojmnfckijgofaaShr2
namespace Go.Proofs.Ytojmnfckijgofaa
set_option linter.unusedVariables false
set_option linter.unusedSimpArgs false
set_option maxRecDepth 100000
open Go.RowKit Go.Lib

/-- A row of numbers without a sign. -/
def URow (w : World) (g : Nat) (r : List Int) : Prop := w.heap[g]? = some (.cells (r.map (Value.int .u64)).toArray 32 (0, 0))
theorem URow.cell {w : World} {g : Nat} {r : List Int} (h : URow w g r) {i : Nat} (hi : i < r.length) : w.cell? ⟨g, i, none⟩ = some (.int .u64 (r.getD i 0)) := by
  unfold URow at h
  simp [World.cell?, h, List.getD_eq_getElem?_getD, List.getElem?_eq_getElem hi]
theorem URow.frozen {w : World} {g : Nat} {r : List Int} (h : URow w g r) (i : Nat) : w.frozen? ⟨g, i, none⟩ = false := by
  unfold URow at h
  simp [World.frozen?, h]
theorem URow.lt {w : World} {g : Nat} {r : List Int} (h : URow w g r) : g < w.heap.size := (Array.getElem?_eq_some_iff.1 h).1
theorem NRow.ltS {w : World} {g : Nat} {r : List Int} (h : NRow w g r) : g < w.heap.size := (Array.getElem?_eq_some_iff.1 h).1
theorem URow.made (w : World) (n : Nat) : URow (w.alloc (.cells (madeCells #[.int .u64 0] n) 32)) w.heap.size (List.replicate n 0) := by
  unfold URow
  rw [show (w.alloc (.cells (madeCells #[.int .u64 0] n) 32)).heap[w.heap.size]? = some (.cells (madeCells #[.int .u64 0] n) 32 (0, 0)) by unfold World.alloc; simp only [Array.getElem?_push_size]]
  congr 2
  apply Array.ext
  · simp [madeCells]
  · intro i h1 h2
    simp [madeCells, Nat.mod_one]
theorem URow.below {w w' : World} {g n : Nat} {r : List Int} (h : URow w g r) (hb : Below n w w') (hg : g < n) : URow w' g r := (hb.block g hg).trans h
theorem NRow.belowS {w w' : World} {g n : Nat} {r : List Int} (h : NRow w g r) (hb : Below n w w') (hg : g < n) : NRow w' g r := (hb.block g hg).trans h
theorem URow.alloc {w : World} {g : Nat} {r : List Int} (h : URow w g r) (o : Obj) : URow (w.alloc o) g r := h.below ((Below.refl w.heap.size w).alloc (Nat.le_refl _) o) h.lt
theorem URow.set {w : World} {g : Nat} {r : List Int} (h : URow w g r) (i : Nat) (x : Int) : URow (w.setCell ⟨g, i, none⟩ (.int .u64 x)) g (r.set i x) := by
  unfold URow at *
  rw [setCell_eq_setRow w g i _ 32 (0, 0) _ h, setRow_heap w g _ _ 32 (0, 0) h]
  simp [List.map_set]
theorem URow.other {w : World} {g g' : Nat} {r : List Int} (h : URow w g r) (hn : g ≠ g') (i : Nat) (v : Value) : URow (w.setCell ⟨g', i, none⟩ v) g r := (Below.heap_setCell _ _ _ _ hn).trans h
theorem NRow.other {w : World} {g g' : Nat} {r : List Int} (h : NRow w g r) (hn : g ≠ g') (i : Nat) (v : Value) : NRow (w.setCell ⟨g', i, none⟩ v) g r := (Below.heap_setCell _ _ _ _ hn).trans h
theorem take_sum_le {l : List Int} (h : ∀ x ∈ l, 0 ≤ x) (k : Nat) : (l.take k).sum ≤ l.sum := by
  have e : l.sum = (l.take k).sum + (l.drop k).sum := by rw [← List.sum_append, List.take_append_drop]
  have := sum_nonneg (l := l.drop k) fun x hx => h x (List.mem_of_mem_drop hx)
  omega
theorem range_take (l : List Int) (k : Nat) (h : k ≤ l.length) : (List.range k).map (fun i => l.getD i 0) = l.take k := by
  apply List.ext_getElem
  · simp; omega
  · intro i h1 h2
    have h3 : i < l.length := by simp at h1; omega
    simp [List.getD_eq_getElem?_getD, List.getElem?_eq_getElem h3]
/-- What is left behind k parts. -/
def leftK (T : Int) (ws : List Int) (k : Nat) : Int := T - ((List.range k).map (fun i => (partL T ws).getD i 0)).sum
theorem leftK_zero (T : Int) (ws : List Int) : leftK T ws 0 = T := by simp [leftK]
theorem leftK_succ (T : Int) (ws : List Int) (k : Nat) : leftK T ws (k + 1) = leftK T ws k - (partL T ws).getD k 0 := by
  unfold leftK
  rw [List.range_succ, List.map_append, List.sum_append]
  simp only [List.map_cons, List.map_nil, List.sum_cons, List.sum_nil]
  omega
theorem leftK_all (T : Int) (ws : List Int) : leftK T ws ws.length = leftI T ws := by
  unfold leftK leftI
  have := range_getD (partL T ws)
  rw [partL_len] at this
  rw [this]
theorem partL_nonneg {T : Int} {ws : List Int} (hT : 0 ≤ T) (h : GoodW ws) : ∀ x ∈ partL T ws, 0 ≤ x := by
  intro x hx
  unfold partL at hx
  obtain ⟨y, hy, rfl⟩ := List.mem_map.1 hx
  exact Int.ediv_nonneg (Int.mul_nonneg hT (h.2.1 y hy).1) (by have := h.2.2; omega)
theorem leftK_bd {T : Int} {ws : List Int} (hT : 0 ≤ T) (h : GoodW ws) (k : Nat) (hk : k ≤ ws.length) : 0 ≤ leftK T ws k ∧ leftK T ws k ≤ T := by
  unfold leftK
  rw [range_take _ _ (by rw [partL_len]; exact hk)]
  have h1 := take_sum_le (partL_nonneg hT h) k
  have h2 := left_nonneg (T := T) h
  have h3 := sum_nonneg (l := (partL T ws).take k) fun x hx => partL_nonneg hT h x (List.mem_of_mem_take hx)
  unfold leftI at h2
  omega
/-- The parts when k of those that were cut have got one more. -/
def rowK (T : Int) (ws : List Int) (s : List Nat) (k : Nat) : List Int := (List.range ws.length).map fun i => (partL T ws).getD i 0 + (if i ∈ s.take k then 1 else 0)
theorem rowK_len (T : Int) (ws : List Int) (s : List Nat) (k : Nat) : (rowK T ws s k).length = ws.length := by simp [rowK]
theorem rowK_at (T : Int) (ws : List Int) (s : List Nat) (k i : Nat) (h : i < ws.length) : (rowK T ws s k).getD i 0 = (partL T ws).getD i 0 + (if i ∈ s.take k then 1 else 0) := by
  simp [rowK, List.getD_eq_getElem?_getD, h]
theorem rowK_zero (T : Int) (ws : List Int) (s : List Nat) : rowK T ws s 0 = partL T ws := by
  unfold rowK
  have := range_getD (partL T ws)
  rw [partL_len] at this
  conv => rhs; rw [← this]
  apply List.map_congr_left
  intro i hi
  simp
theorem rowK_step (T : Int) (ws : List Int) (s : List Nat) (k : Nat) (hs : s.Nodup) (hk : k < s.length) (hb : s.getD k 0 < ws.length) : (rowK T ws s k).set (s.getD k 0) ((partL T ws).getD (s.getD k 0) 0 + 1) = rowK T ws s (k + 1) := by
  have e : s.take (k + 1) = s.take k ++ [s.getD k 0] := take_one hk
  apply List.ext_getElem
  · simp [rowK_len]
  · intro i h1 h2
    have gk : ∀ k (h : i < (rowK T ws s k).length), (rowK T ws s k)[i]'h = (partL T ws).getD i 0 + (if i ∈ s.take k then 1 else 0) := fun k h => by simp [rowK]
    rw [List.getElem_set, gk, gk, e]
    by_cases hi : s.getD k 0 = i
    · rw [if_pos hi, if_pos (by rw [← hi]; simp), hi]
    · rw [if_neg hi]
      congr 1
      have : i ∈ s.take k ++ [s.getD k 0] ↔ i ∈ s.take k := by
        rw [List.mem_append, List.mem_singleton]
        constructor
        · rintro (h | h)
          · exact h
          · exact absurd h.symm hi
        · exact Or.inl
      simp only [this]
theorem not_ahead {s : List Nat} {k : Nat} (hs : s.Nodup) (hk : k < s.length) : ¬ s.getD k 0 ∈ s.take k := by
  intro h
  have e : s = s.take k ++ (s.getD k 0 :: s.drop (k + 1)) := by rw [← drop_one hk, List.take_append_drop]
  generalize s.getD k 0 = x at *
  rw [e] at hs
  exact (List.nodup_append.1 hs).2.2 x h x (by simp) rfl
theorem rowK_all {T : Int} {ws : List Int} (h : GoodW ws) {s : List Nat} (h1 : s.Perm (List.range ws.length)) (h2 : s.Pairwise (LT (cutL T ws))) : rowK T ws s (leftI T ws).toNat = (List.range ws.length).map (grossI T ws) := by
  unfold rowK
  apply List.map_congr_left
  intro i hi
  unfold grossI moreI
  have h0 := left_nonneg (T := T) h
  have := take_rank (cut := cutL T ws) (l := s) (by rw [cutL_len]; exact h1) h2 (i := i) (by rw [cutL_len]; exact List.mem_range.1 hi) (leftI T ws).toNat
  congr 1
  by_cases hr : rank (cutL T ws) i < (leftI T ws).toNat
  · rw [if_pos (this.2 hr), if_pos (by omega)]
  · rw [if_neg (fun e => hr (this.1 e)), if_neg (by omega)]
/-- How Shares ends. -/
def SharesEnd (t : Int) (ws : List Int) (w : World) (e : Ending) (w' : World) : Prop :=
  Below w.heap.size w w' ∧ (shBad ws ≠ 0 → e = .returned (.tuple #[.slice none 0 0, .iface 42 (.int .i64 (shBad ws))])) ∧
    (shBad ws = 0 → ∃ g, w.heap.size ≤ g ∧ e = .returned (.tuple #[.slice (some ⟨g, 0, none⟩) ws.length ws.length, .nilIface]) ∧ NRow w' g ((List.range ws.length).map (shareI t ws)))
end Go.Proofs.Ytojmnfckijgofaa
