/-
  The contract of block.marked: which numbers below one are in a list.
-/
import Derived.Test.YtidccclfngcpgaaBk2
namespace Go.Proofs.Ytidccclfngcpgaa
set_option linter.unusedVariables false
set_option linter.unusedSimpArgs false
set_option maxRecDepth 100000
open Go.RowKit Go.Lib

/-- A slice of numbers. -/
structure IsIn (w : World) (a : Option Addr) (l : List Int) (cap : Nat) : Prop where
  cap : l.length ≤ cap
  lies : l = [] ∨ ∃ b off, a = some ⟨b, off, none⟩ ∧ b < w.heap.size ∧ ∀ k, k < l.length → w.cell? ⟨b, off + k, none⟩ = some (.int .i64 (l.getD k 0))
theorem IsIn.below {w w' : World} {a : Option Addr} {l : List Int} {cap : Nat} (h : IsIn w a l cap) (hb : Below w.heap.size w w') : IsIn w' a l cap := by
  refine ⟨h.cap, ?_⟩
  rcases h.lies with h | ⟨b, off, e, hlt, hc⟩
  · exact .inl h
  · exact .inr ⟨b, off, e, by have := hb.size; omega, fun k hk => (hb.cell (p := ⟨b, off + k, none⟩) hlt).trans (hc k hk)⟩

def markL (l : List Int) (n : Nat) : List Bool := (List.range n).map fun (i : Nat) => decide ((i : Int) ∈ l)
theorem markL_length (l : List Int) (n : Nat) : (markL l n).length = n := by simp [markL]
theorem markL_get (l : List Int) (n i : Nat) (h : i < n) : (markL l n).getD i false = decide ((i : Int) ∈ l) := by simp [markL, List.getD, h]
theorem markL_in (l : List Int) (n : Nat) (x : Int) (h0 : 0 ≤ x) (h1 : x < n) : (markL l n).set x.toNat true = markL (l ++ [x]) n := by
  apply List.ext_getElem
  · simp [markL]
  · intro i h2 h3
    simp only [markL, List.getElem_set, List.getElem_map, List.getElem_range, List.mem_append, List.mem_singleton]
    by_cases e : x.toNat = i
    · rw [if_pos e]
      have : (i : Int) = x := by omega
      simp [this]
    · rw [if_neg e]
      have : ¬ (i : Int) = x := by omega
      simp [this]
theorem markL_out (l : List Int) (n : Nat) (x : Int) (h : ¬ (0 ≤ x ∧ x < n)) : markL (l ++ [x]) n = markL l n := by
  apply List.ext_getElem
  · simp [markL]
  · intro i h2 h3
    have hi : i < n := by simpa [markL] using h3
    simp only [markL, List.getElem_map, List.getElem_range, List.mem_append, List.mem_singleton]
    have : ¬ (i : Int) = x := by omega
    simp [this]

def BoRow (w : World) (g : Nat) (bs : List Bool) : Prop := w.heap[g]? = some (.cells (bs.map Value.bool).toArray 4 (0, 0))
theorem BoRow.cell {w : World} {g : Nat} {r : List Bool} (h : BoRow w g r) {i : Nat} (hi : i < r.length) : w.cell? ⟨g, i, none⟩ = some (.bool (r.getD i false)) := by
  unfold BoRow at h
  simp [World.cell?, h, hi]
theorem BoRow.frozen {w : World} {g : Nat} {r : List Bool} (h : BoRow w g r) (i : Nat) : w.frozen? ⟨g, i, none⟩ = false := by
  unfold BoRow at h
  simp [World.frozen?, h]
theorem BoRow.set {w : World} {g : Nat} {r : List Bool} (h : BoRow w g r) (i : Nat) (x : Bool) : BoRow (w.setCell ⟨g, i, none⟩ (.bool x)) g (r.set i x) := by
  unfold BoRow at *
  rw [setCell_eq_setRow w g i _ 4 (0, 0) _ h, setRow_heap w g _ _ 4 (0, 0) h]
  simp [List.map_set]
theorem BoRow.lt {w : World} {g : Nat} {r : List Bool} (h : BoRow w g r) : g < w.heap.size := (Array.getElem?_eq_some_iff.1 h).1
theorem bool_info : (Try.prog.info? 4).map (fun i => (i.zero, i.size, i.bytes)) = some (some (.bool false), 1, 1) := by kernel_rfl
theorem BoRow.made (w : World) (n : Nat) : BoRow (w.alloc (.cells (madeCells #[.bool false] n) 4)) w.heap.size (markL [] n) := by
  unfold BoRow
  rw [new_heap]
  congr 2
  apply Array.ext
  · simp [madeCells, markL]
  · intro i h1 h2
    simp [madeCells, Nat.mod_one, markL]

theorem ints_take (l : List Int) (k : Nat) (h : k < l.length) : l.take (k + 1) = l.take k ++ [l.getD k 0] := by
  rw [List.take_add_one, List.getElem?_eq_getElem h, List.getD_eq_getElem?_getD, List.getElem?_eq_getElem h]
  rfl

set_option maxHeartbeats 2000000 in
theorem marked_any (a : Option Addr) (l : List Int) (cap n : Nat) (w : World) (h : IsIn w a l cap) (hn : n ≤ 1000000) (hl : l.length ≤ 9223372036854775807) :
    Calls Try.prog 22 #[.slice a l.length cap, .int .i64 (n : Int)] w fun e w' => e = .returned (.slice (some ⟨w.heap.size, 0, none⟩) n n) ∧ BoRow w' w.heap.size (markL l n) ∧ Below w.heap.size w w' := by
  have hmk := fun w => run_make_row' (P := Try.prog) 62 4 (.bool false) 1 Try.underlying62 bool_info rfl .i64 .i64 n (by omega) (by omega) w
  have Hl : Hid (∀ W, Below w.heap.size w W → ∀ k, k < l.length → ∃ b off, a = some ⟨b, off, none⟩ ∧ W.cell? ⟨b, off + k, none⟩ = some (.int .i64 (l.getD k 0))) := by
    intro W hW k hk
    rcases h.lies with h | ⟨b, off, e, hlt, hc⟩
    · subst h; simp at hk
    · exact ⟨b, off, e, (hW.cell (p := ⟨b, off + k, none⟩) hlt).trans (hc k hk)⟩
  have hr0 := BoRow.made w n
  have hb0 := (Below.refl w.heap.size w).alloc (Nat.le_refl _) (.cells (madeCells #[.bool false] n) 4)
  have n0 : (0 : Int) ≤ n := by omega
  have hl' : (l.length : Int) ≤ 9223372036854775807 := by omega
  clear h
  go_enter Try.func22, Try.ntmps22
  go_wp2
  clear hmk
  go_loopw [12] (fun i wr => ∃ k : Nat, k ≤ l.length ∧ i = .int .i64 k ∧ Hid (BoRow wr w.heap.size (markL (l.take k) n) ∧ Below w.heap.size w wr)) (fun i _ => l.length - (intOf i).toNat)
  case atStart => exact ⟨0, Nat.zero_le _, rfl, hr0, hb0⟩
  case round =>
    obtain ⟨k, hk, rfl, H⟩ := hrel
    obtain ⟨R, B⟩ := H.out
    clear H
    by_cases hlt : k < l.length
    · obtain ⟨b, off, rfl, hc⟩ := Hl.out wr B k hlt
      have et := ints_take l k hlt
      generalize l.getD k 0 = x at *
      have j0 : (0 : Int) ≤ k := by omega
      have j1 : (k : Int) < l.length := by omega
      by_cases hx0 : 0 ≤ x
      · by_cases hx1 : x < n
        · have em := markL_in (l.take k) n x hx0 hx1
          rw [← et] at em
          have rc := R.cell (i := x.toNat) (by rw [markL_length]; omega)
          have rf := R.frozen x.toNat
          have hset := R.set x.toNat true
          rw [em] at hset
          have HS : Hid (BoRow _ _ _) := hset
          have HB : Hid (Below w.heap.size w (wr.setCell ⟨w.heap.size, x.toNat, none⟩ (.bool true))) := B.setCell (p := ⟨w.heap.size, x.toNat, none⟩) (Nat.le_refl _) _
          generalize (markL (l.take k) n).getD x.toNat false = z at rc
          clear R B em et hset
          go_wp2
          go_roundw
          case rel => exact ⟨k + 1, by omega, by go_num, HS.out, HB.out⟩
          case measure => simp [intOf]; omega
        · have em := markL_out (l.take k) n x (by omega)
          rw [← et] at em
          have HR : Hid (BoRow wr w.heap.size (markL (l.take (k + 1)) n) ∧ Below w.heap.size w wr) := by rw [em]; exact ⟨R, B⟩
          clear R B em et
          go_wp2
          go_roundw
          case rel => exact ⟨k + 1, by omega, by go_num, HR⟩
          case measure => simp [intOf]; omega
      · have em := markL_out (l.take k) n x (by omega)
        rw [← et] at em
        have HR : Hid (BoRow wr w.heap.size (markL (l.take (k + 1)) n) ∧ Below w.heap.size w wr) := by rw [em]; exact ⟨R, B⟩
        clear R B em et
        go_wp2
        go_roundw
        case rel => exact ⟨k + 1, by omega, by go_num, HR⟩
        case measure => simp [intOf]; omega
    · have ek : k = l.length := by omega
      subst ek
      have j1 : ¬ (l.length : Int) < l.length := by omega
      rw [List.take_length] at R
      have HR : Hid (BoRow wr w.heap.size (markL l n) ∧ Below w.heap.size w wr) := ⟨R, B⟩
      clear R B
      go_wp2
      go_ret
      exact ⟨rfl, HR.out.1, HR.out.2⟩
end Go.Proofs.Ytidccclfngcpgaa
