/-
  Holdings in memory.
-/
import Derived.Test.YtmpjaogomabfiaaDoorProg
import Derived.WalkKit
import Derived.WalkSpells
import Derived.Lib.OthersKept
import Derived.Laws.NewBlocks
import Derived.Below
import Derived.Deep.LoopGhost
import Derived.Conc.MuLone
import Derived.Deep.QuietTactic
import Derived.BigQuiet
import Derived.Maps.AppendAt
import Derived.Deep.AppendLies
namespace Go.Proofs.YtmpjaogomabfiaaDoor
set_option linter.unusedVariables false
set_option linter.unusedSimpArgs false
set_option maxRecDepth 100000
open Go.RowKit Go.Lib

/-- A holding. -/
structure Ho where
  en : Int
  of_ : Int
  pt : Int
def Ho.cells (x : Ho) : Array Value := #[.int .i64 x.en, .int .i64 x.of_, .int .i64 x.pt]
def ho0 : Ho := ⟨0, 0, 0⟩
structure HoAt (w : World) (b off : Nat) (x : Ho) : Prop where
  c0 : w.cell? ⟨b, off, none⟩ = some (.int .i64 x.en)
  c1 : w.cell? ⟨b, off + 1, none⟩ = some (.int .i64 x.of_)
  c2 : w.cell? ⟨b, off + 2, none⟩ = some (.int .i64 x.pt)

theorem HoAt.below {w w' : World} {b off n : Nat} {a : Ho} (h : HoAt w b off a) (hb : Below n w w') (hn : b < n) : HoAt w' b off a :=
  ⟨(hb.cell (p := ⟨b, off, none⟩) hn).trans h.c0, (hb.cell (p := ⟨b, off + 1, none⟩) hn).trans h.c1, (hb.cell (p := ⟨b, off + 2, none⟩) hn).trans h.c2⟩
theorem HoAt.new (w : World) (a : Ho) (t : TypeId) : HoAt (w.alloc (.cells a.cells t)) w.heap.size 0 a :=
  ⟨by simp [Ho.cells], by simp [Ho.cells], by simp [Ho.cells]⟩

/-- Holdings in memory. -/
def HosAt (w : World) (b off : Nat) (l : List Ho) : Prop := ∀ k, k < l.length → HoAt w b (off + k * 3) (l.getD k ho0)

/-- A slice of holdings. -/
structure IsHo (w : World) (a : Option Addr) (l : List Ho) (cap : Nat) : Prop where
  cap : l.length ≤ cap
  lies : l = [] ∨ ∃ b off, a = some ⟨b, off, none⟩ ∧ b < w.heap.size ∧ HosAt w b off l

theorem IsHo.below {w w' : World} {a : Option Addr} {l : List Ho} {cap : Nat} (h : IsHo w a l cap) (hb : Below w.heap.size w w') : IsHo w' a l cap := by
  refine ⟨h.cap, ?_⟩
  rcases h.lies with h | ⟨b, off, e, hlt, hc⟩
  · exact .inl h
  · exact .inr ⟨b, off, e, by have := hb.size; omega, fun k hk => (hc k hk).below hb hlt⟩

theorem hos_drop (l : List Ho) (k : Nat) (h : k < l.length) : l.drop k = l.getD k ho0 :: l.drop (k + 1) := by
  rw [List.drop_eq_getElem_cons h, List.getD_eq_getElem?_getD, List.getElem?_eq_getElem h]
  rfl
theorem hos_take (l : List Ho) (k : Nat) (h : k < l.length) : l.take (k + 1) = l.take k ++ [l.getD k ho0] := by
  rw [List.take_add_one, List.getElem?_eq_getElem h, List.getD_eq_getElem?_getD, List.getElem?_eq_getElem h]
  rfl
theorem hos_mem (l : List Ho) (k : Nat) (h : k < l.length) : l.getD k ho0 ∈ l := by
  rw [List.getD_eq_getElem?_getD, List.getElem?_eq_getElem h]
  exact List.getElem_mem h

/-- The cells of holdings, one behind the other. -/
def hoRow (l : List Ho) : List Value := l.flatMap fun x => x.cells.toList
theorem Ho.cells_length (x : Ho) : x.cells.toList.length = 3 := rfl
theorem hoRow_length : ∀ l : List Ho, (hoRow l).length = l.length * 3
  | [] => rfl
  | x :: l => by
    have := hoRow_length l
    unfold hoRow at *
    simp only [List.flatMap_cons, List.length_append, Ho.cells_length, this, List.length_cons]
    omega
theorem hoRow_append (l m : List Ho) : hoRow (l ++ m) = hoRow l ++ hoRow m := by simp [hoRow]
theorem hoRow_one (x : Ho) : hoRow [x] = x.cells.toList := by simp [hoRow]
theorem hoRow_get : ∀ (l : List Ho) (k j : Nat), k < l.length → j < 3 → (hoRow l)[k * 3 + j]? = (l.getD k ho0).cells.toList[j]?
  | [], _, _, h, _ => absurd h (by simp)
  | x :: l, 0, j, _, hj => by
    simp only [hoRow, List.flatMap_cons, Nat.zero_mul, Nat.zero_add, List.getD_cons_zero]
    rw [List.getElem?_append_left (by rw [Ho.cells_length]; exact hj)]
  | x :: l, k + 1, j, h, hj => by
    have ih := hoRow_get l k j (by simpa using h) hj
    simp only [hoRow, List.flatMap_cons, List.getD_cons_succ] at ih ⊢
    rw [List.getElem?_append_right (by rw [Ho.cells_length]; omega), Ho.cells_length, ← ih]
    congr 1
    omega
theorem hoRow_one_cell (l : List Ho) : ∀ u ∈ hoRow l, u.oneCell' = true := by
  intro u hu
  simp only [hoRow, List.mem_flatMap] at hu
  obtain ⟨x, _, hx⟩ := hu
  simp [Ho.cells] at hx
  rcases hx with rfl | rfl | rfl <;> rfl
theorem hoRow_take (l : List Ho) (k : Nat) : hoRow (l.take k) = (hoRow l).take (k * 3) := by
  have h := hoRow_append (l.take k) (l.drop k)
  rw [List.take_append_drop] at h
  rw [h]
  by_cases hk : k ≤ l.length
  · have : (hoRow (l.take k)).length = k * 3 := by rw [hoRow_length, List.length_take, Nat.min_eq_left hk]
    rw [← this, List.take_left]
  · rw [List.take_of_length_le (by omega), List.drop_eq_nil_of_le (by omega)]
    rw [List.take_of_length_le]
    · show hoRow l = hoRow l ++ []
      simp
    · show (hoRow l ++ []).length ≤ _
      rw [List.append_nil, hoRow_length]
      omega
theorem hoRow_drop (l : List Ho) (k : Nat) : hoRow (l.drop k) = (hoRow l).drop (k * 3) := by
  have h := hoRow_append (l.take k) (l.drop k)
  rw [List.take_append_drop] at h
  have h2 := hoRow_take l k
  have h3 : hoRow l = (hoRow l).take (k * 3) ++ (hoRow l).drop (k * 3) := (List.take_append_drop _ _).symm
  rw [← h2] at h3
  rw [h] at h3
  have := List.append_cancel_left h3
  rw [this]
  rw [h]

/-- Holdings in a row of one's own. -/
def HoRow (w : World) (n : Nat) (v : Value) (l : List Ho) : Prop := w.ownsRow n 38 3 v l.length (hoRow l)

theorem HoRow.nil (w : World) (n : Nat) : HoRow w n (.slice none 0 0) [] := World.ownsRow_nil _ _ _ _
theorem HoRow.isHo {W : World} {n0 : Nat} {v : Value} {l : List Ho} (h : HoRow W n0 v l) :
    ∃ a cap, v = .slice a l.length cap ∧ IsHo W a l cap := by
  obtain ⟨hlen, ⟨rfl, h0⟩ | ⟨g, cap, cur, rfl, hb, hg, hc, hm, hs, ht⟩⟩ := h
  · have : l = [] := List.eq_nil_of_length_eq_zero h0
    subst this
    exact ⟨none, 0, rfl, Nat.le_refl _, .inl rfl⟩
  · refine ⟨_, cap, rfl, hc, .inr ⟨g, 0, rfl, (Array.getElem?_eq_some_iff.1 hg).1, ?_⟩⟩
    intro k hk
    have C : ∀ j, j < 3 → W.cell? ⟨g, 0 + k * 3 + j, none⟩ = (l.getD k ho0).cells.toList[j]? := fun j hj => by
      have e1 : (hoRow l)[k * 3 + j]? = cur[k * 3 + j]? := by
        rw [← ht, List.getElem?_take, if_pos (by omega)]
        simp
      rw [← hoRow_get l k j hk hj, e1]
      simp [World.cell?, hg]
    exact ⟨C 0 (by omega), C 1 (by omega), C 2 (by omega)⟩
theorem HoRow.below {w w' : World} {n : Nat} {v : Value} {l : List Ho} (h : HoRow w n v l) (hb : Below w.heap.size w w') : HoRow w' n v l := by
  rcases h.2 with ⟨hv, hn⟩ | ⟨g1, c1, cur, hv, hb1, hh, r⟩
  · exact ⟨h.1, .inl ⟨hv, hn⟩⟩
  · exact ⟨h.1, .inr ⟨g1, c1, cur, hv, hb1, (hb.block g1 (Array.getElem?_eq_some_iff.1 hh).1).trans hh, r⟩⟩
theorem HoRow.mono {w : World} {n m : Nat} {v : Value} {l : List Ho} (h : HoRow w n v l) (hm : m ≤ n) : HoRow w m v l := by
  rcases h.2 with ⟨hv, hn⟩ | ⟨g1, c1, cur, hv, hb1, r⟩
  · exact ⟨h.1, .inl ⟨hv, hn⟩⟩
  · exact ⟨h.1, .inr ⟨g1, c1, cur, hv, by omega, r⟩⟩
theorem HoRow.own {w : World} {n : Nat} {v : Value} {xs : List Ho} (h : HoRow w n v xs) : ∀ j, v.ownBlock = some j → n ≤ j := fun j ej => by
  rcases h.2 with ⟨rfl, _⟩ | ⟨g1, c1, cur, rfl, hg1, _⟩
  · cases ej
  · cases ej; exact hg1


theorem isHo_nil (W : World) : IsHo W none [] 0 := ⟨Nat.le_refl _, .inl rfl⟩
theorem HoRow.isHo' {W : World} {n0 : Nat} {a : Option Addr} {m cap : Nat} {l : List Ho} (h : HoRow W n0 (.slice a m cap) l) : m = l.length ∧ IsHo W a l cap := by
  obtain ⟨a', c', e, hs⟩ := h.isHo
  cases e
  exact ⟨rfl, hs⟩

theorem ho_info : (Tryd.prog.info? 38).map (fun i => (i.zero, i.size, i.bytes)) = some (some (.agg #[.int .i64 0, .int .i64 0, .int .i64 0]), 3, 24) := by kernel_rfl
theorem IsHo.some {w : World} {a : Option Addr} {l : List Ho} {cap k : Nat} (h : IsHo w a l cap) (hk : k < l.length) : ∃ b off, a = some ⟨b, off, none⟩ ∧ b < w.heap.size ∧ HosAt w b off l := by
  rcases h.lies with h | h
  · rw [h] at hk; simp at hk
  · exact h
theorem isHo_one {W : World} {b : Nat} {x : Ho} (h : HoAt W b 0 x) (hb : b < W.heap.size) : IsHo W (some ⟨b, 0, none⟩) [x] 1 := by
  refine ⟨Nat.le_refl _, .inr ⟨b, 0, rfl, hb, fun k hk => ?_⟩⟩
  have e : k = 0 := by simp at hk; omega
  subst e
  exact h
end Go.Proofs.YtmpjaogomabfiaaDoor
