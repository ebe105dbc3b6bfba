/-
  The contract of pair.checkPair.
-/
import Derived.Test.YtagimpmefodaeaaGreatDoorZl5
import Derived.Test.YtagimpmefodaeaaGreatDoorZl3
import Derived.Test.YtagimpmefodaeaaGreatDoorProg
import Derived.WalkKit
import Derived.WalkSpells
import Derived.Lib.OthersKept
import Derived.Lib.TrimU
import Derived.Deep.LoopGhost
import Derived.Conc.MuLone
import Derived.Shelf.Abstract
import Derived.Deep.QuietTactic
import Derived.BigQuiet
import Derived.Maps.AppendAt
import Derived.MapKept
import Derived.Deep.AppendLies
import Derived.Laws.NewBlocks
import Derived.Laws.StructEq
import Derived.Laws.Cover1
import Derived.Deep.RegionWith
import Derived.Deep.RegionHeld3
import Derived.BigRegion
import Derived.Test.YtagimpmefodaeaaGreatDoorZl1
import Derived.Test.YtagimpmefodaeaaGreatDoorZl2
import Derived.Deep.CutRange
import Derived.Deep.CutBlock
import Derived.WalkLawsBesides
namespace Go.Proofs.YtagimpmefodaeaaGreatDoor
set_option linter.unusedVariables false
set_option linter.unusedSimpArgs false
set_option maxRecDepth 100000
open Go.RowKit Go.Lib
/-- A balance. -/
structure Bl where
  ent : Int
  acc : ByteArray
  cur : ByteArray
  amt : Int
def Bl.cells (x : Bl) : Array Value := #[.int .i64 x.ent, .string x.acc, .string x.cur, .int .i64 x.amt]
def bl0 : Bl := ⟨0, ByteArray.empty, ByteArray.empty, 0⟩
/-- Two numbers held against each other. -/
def cmpI (a b : Int) : Int := if a < b then -1 else if b < a then 1 else 0
/-- Two balances held against each other. -/
def cmpB (a b : Bl) : Int := if cmpI a.ent b.ent ≠ 0 then cmpI a.ent b.ent else if cmpS a.acc b.acc ≠ 0 then cmpS a.acc b.acc else cmpS a.cur b.cur
structure BlAt (w : World) (b off : Nat) (x : Bl) : Prop where
  c0 : w.cell? ⟨b, off, none⟩ = some (.int .i64 x.ent)
  c1 : w.cell? ⟨b, off + 1, none⟩ = some (.string x.acc)
  c2 : w.cell? ⟨b, off + 2, none⟩ = some (.string x.cur)
  c3 : w.cell? ⟨b, off + 3, none⟩ = some (.int .i64 x.amt)

theorem BlAt.below {w w' : World} {b off n : Nat} {a : Bl} (h : BlAt w b off a) (hb : Below n w w') (hn : b < n) : BlAt w' b off a :=
  ⟨(hb.cell (p := ⟨b, off, none⟩) hn).trans h.c0, (hb.cell (p := ⟨b, off + 1, none⟩) hn).trans h.c1, (hb.cell (p := ⟨b, off + 2, none⟩) hn).trans h.c2, (hb.cell (p := ⟨b, off + 3, none⟩) hn).trans h.c3⟩
theorem BlAt.new (w : World) (a : Bl) (t : TypeId) : BlAt (w.alloc (.cells a.cells t)) w.heap.size 0 a :=
  ⟨by simp [Bl.cells], by simp [Bl.cells], by simp [Bl.cells], by simp [Bl.cells]⟩

/-- Balances in memory. -/
def BlsAt (w : World) (b off : Nat) (l : List Bl) : Prop := ∀ k, k < l.length → BlAt w b (off + k * 4) (l.getD k bl0)

/-- A slice of balances. -/
structure IsBl (w : World) (a : Option Addr) (l : List Bl) (cap : Nat) : Prop where
  cap : l.length ≤ cap
  lies : l = [] ∨ ∃ b off, a = some ⟨b, off, none⟩ ∧ b < w.heap.size ∧ BlsAt w b off l

theorem IsBl.below {w w' : World} {a : Option Addr} {l : List Bl} {cap : Nat} (h : IsBl w a l cap) (hb : Below w.heap.size w w') : IsBl w' a l cap := by
  refine ⟨h.cap, ?_⟩
  rcases h.lies with h | ⟨b, off, e, hlt, hc⟩
  · exact .inl h
  · exact .inr ⟨b, off, e, by have := hb.size; omega, fun k hk => (hc k hk).below hb hlt⟩

theorem bls_drop (l : List Bl) (k : Nat) (h : k < l.length) : l.drop k = l.getD k bl0 :: l.drop (k + 1) := by
  rw [List.drop_eq_getElem_cons h, List.getD_eq_getElem?_getD, List.getElem?_eq_getElem h]
  rfl
theorem bls_take (l : List Bl) (k : Nat) (h : k < l.length) : l.take (k + 1) = l.take k ++ [l.getD k bl0] := by
  rw [List.take_add_one, List.getElem?_eq_getElem h, List.getD_eq_getElem?_getD, List.getElem?_eq_getElem h]
  rfl
theorem bls_mem (l : List Bl) (k : Nat) (h : k < l.length) : l.getD k bl0 ∈ l := by
  rw [List.getD_eq_getElem?_getD, List.getElem?_eq_getElem h]
  exact List.getElem_mem h

/-- The cells of balances, one behind the other. -/
def blRow (l : List Bl) : List Value := l.flatMap fun x => x.cells.toList
theorem Bl.cells_length (x : Bl) : x.cells.toList.length = 4 := rfl
theorem blRow_length : ∀ l : List Bl, (blRow l).length = l.length * 4
  | [] => rfl
  | x :: l => by
    have := blRow_length l
    unfold blRow at *
    simp only [List.flatMap_cons, List.length_append, Bl.cells_length, this, List.length_cons]
    omega
theorem blRow_append (l m : List Bl) : blRow (l ++ m) = blRow l ++ blRow m := by simp [blRow]
theorem blRow_one (x : Bl) : blRow [x] = x.cells.toList := by simp [blRow]
theorem blRow_get : ∀ (l : List Bl) (k j : Nat), k < l.length → j < 4 → (blRow l)[k * 4 + j]? = (l.getD k bl0).cells.toList[j]?
  | [], _, _, h, _ => absurd h (by simp)
  | x :: l, 0, j, _, hj => by
    simp only [blRow, List.flatMap_cons, Nat.zero_mul, Nat.zero_add, List.getD_cons_zero]
    rw [List.getElem?_append_left (by rw [Bl.cells_length]; exact hj)]
  | x :: l, k + 1, j, h, hj => by
    have ih := blRow_get l k j (by simpa using h) hj
    simp only [blRow, List.flatMap_cons, List.getD_cons_succ] at ih ⊢
    rw [List.getElem?_append_right (by rw [Bl.cells_length]; omega), Bl.cells_length, ← ih]
    congr 1
    omega
theorem blRow_one_cell (l : List Bl) : ∀ u ∈ blRow l, u.oneCell' = true := by
  intro u hu
  simp only [blRow, List.mem_flatMap] at hu
  obtain ⟨x, _, hx⟩ := hu
  simp [Bl.cells] at hx
  rcases hx with rfl | rfl | rfl | rfl <;> rfl
theorem blRow_take (l : List Bl) (k : Nat) : blRow (l.take k) = (blRow l).take (k * 4) := by
  have h := blRow_append (l.take k) (l.drop k)
  rw [List.take_append_drop] at h
  rw [h]
  by_cases hk : k ≤ l.length
  · have : (blRow (l.take k)).length = k * 4 := by rw [blRow_length, List.length_take, Nat.min_eq_left hk]
    rw [← this, List.take_left]
  · rw [List.take_of_length_le (by omega), List.drop_eq_nil_of_le (by omega)]
    rw [List.take_of_length_le]
    · show blRow l = blRow l ++ []
      simp
    · show (blRow l ++ []).length ≤ _
      rw [List.append_nil, blRow_length]
      omega
theorem blRow_drop (l : List Bl) (k : Nat) : blRow (l.drop k) = (blRow l).drop (k * 4) := by
  have h := blRow_append (l.take k) (l.drop k)
  rw [List.take_append_drop] at h
  have h2 := blRow_take l k
  have h3 : blRow l = (blRow l).take (k * 4) ++ (blRow l).drop (k * 4) := (List.take_append_drop _ _).symm
  rw [← h2] at h3
  rw [h] at h3
  have := List.append_cancel_left h3
  rw [this]
  rw [h]

/-- Balances in a row of one's own. -/
def BlRow (w : World) (n : Nat) (v : Value) (l : List Bl) : Prop := w.ownsRow n 92 4 v l.length (blRow l)

theorem BlRow.nil (w : World) (n : Nat) : BlRow w n (.slice none 0 0) [] := World.ownsRow_nil _ _ _ _
theorem BlRow.isBl {W : World} {n0 : Nat} {v : Value} {l : List Bl} (h : BlRow W n0 v l) :
    ∃ a cap, v = .slice a l.length cap ∧ IsBl W a l cap := by
  obtain ⟨hlen, ⟨rfl, h0⟩ | ⟨g, cap, cur, rfl, hb, hg, hc, hm, hs, ht⟩⟩ := h
  · have : l = [] := List.eq_nil_of_length_eq_zero h0
    subst this
    exact ⟨none, 0, rfl, Nat.le_refl _, .inl rfl⟩
  · refine ⟨_, cap, rfl, hc, .inr ⟨g, 0, rfl, (Array.getElem?_eq_some_iff.1 hg).1, ?_⟩⟩
    intro k hk
    have C : ∀ j, j < 4 → W.cell? ⟨g, 0 + k * 4 + j, none⟩ = (l.getD k bl0).cells.toList[j]? := fun j hj => by
      have e1 : (blRow l)[k * 4 + j]? = cur[k * 4 + j]? := by
        rw [← ht, List.getElem?_take, if_pos (by omega)]
        simp
      rw [← blRow_get l k j hk hj, e1]
      simp [World.cell?, hg]
    exact ⟨C 0 (by omega), C 1 (by omega), C 2 (by omega), C 3 (by omega)⟩
theorem BlRow.below {w w' : World} {n : Nat} {v : Value} {l : List Bl} (h : BlRow w n v l) (hb : Below w.heap.size w w') : BlRow w' n v l := by
  rcases h.2 with ⟨hv, hn⟩ | ⟨g1, c1, cur, hv, hb1, hh, r⟩
  · exact ⟨h.1, .inl ⟨hv, hn⟩⟩
  · exact ⟨h.1, .inr ⟨g1, c1, cur, hv, hb1, (hb.block g1 (Array.getElem?_eq_some_iff.1 hh).1).trans hh, r⟩⟩
theorem BlRow.mono {w : World} {n m : Nat} {v : Value} {l : List Bl} (h : BlRow w n v l) (hm : m ≤ n) : BlRow w m v l := by
  rcases h.2 with ⟨hv, hn⟩ | ⟨g1, c1, cur, hv, hb1, r⟩
  · exact ⟨h.1, .inl ⟨hv, hn⟩⟩
  · exact ⟨h.1, .inr ⟨g1, c1, cur, hv, by omega, r⟩⟩
theorem BlRow.own {w : World} {n : Nat} {v : Value} {xs : List Bl} (h : BlRow w n v xs) : ∀ j, v.ownBlock = some j → n ≤ j := fun j ej => by
  rcases h.2 with ⟨rfl, _⟩ | ⟨g1, c1, cur, rfl, hg1, _⟩
  · cases ej
  · cases ej; exact hg1


theorem isBl_nil (W : World) : IsBl W none [] 0 := ⟨Nat.le_refl _, .inl rfl⟩
theorem BlRow.isBl' {W : World} {n0 : Nat} {a : Option Addr} {m cap : Nat} {l : List Bl} (h : BlRow W n0 (.slice a m cap) l) : m = l.length ∧ IsBl W a l cap := by
  obtain ⟨a', c', e, hs⟩ := h.isBl
  cases e
  exact ⟨rfl, hs⟩

theorem bl_info : (Tryz.prog.info? 92).map (fun i => (i.zero, i.size, i.bytes)) = some (some (.agg #[.int .i64 0, .string ByteArray.empty, .string ByteArray.empty, .int .i64 0]), 4, 48) := by kernel_rfl
def I64B (x : Bl) : Prop := (-9223372036854775808 ≤ x.ent ∧ x.ent ≤ 9223372036854775807) ∧ (-9223372036854775808 ≤ x.amt ∧ x.amt ≤ 9223372036854775807)
end Go.Proofs.YtagimpmefodaeaaGreatDoor

namespace Go.Proofs.YtagimpmefodaeaaGreatDoor
set_option linter.unusedVariables false
set_option linter.unusedSimpArgs false
set_option maxRecDepth 100000
open Go.RowKit Go.Lib

/-- A pair. -/
structure Pr where
  ea : Int
  eb : Int
  one : ByteArray
  oth : ByteArray
  dif : ByteArray
def Pr.cells (x : Pr) : Array Value := #[.int .i64 x.ea, .int .i64 x.eb, .string x.one, .string x.oth, .string x.dif]
def pr0 : Pr := ⟨0, 0, ByteArray.empty, ByteArray.empty, ByteArray.empty⟩
structure PrAt (w : World) (b off : Nat) (x : Pr) : Prop where
  c0 : w.cell? ⟨b, off, none⟩ = some (.int .i64 x.ea)
  c1 : w.cell? ⟨b, off + 1, none⟩ = some (.int .i64 x.eb)
  c2 : w.cell? ⟨b, off + 2, none⟩ = some (.string x.one)
  c3 : w.cell? ⟨b, off + 3, none⟩ = some (.string x.oth)
  c4 : w.cell? ⟨b, off + 4, none⟩ = some (.string x.dif)

theorem PrAt.below {w w' : World} {b off n : Nat} {a : Pr} (h : PrAt w b off a) (hb : Below n w w') (hn : b < n) : PrAt w' b off a :=
  ⟨(hb.cell (p := ⟨b, off, none⟩) hn).trans h.c0, (hb.cell (p := ⟨b, off + 1, none⟩) hn).trans h.c1, (hb.cell (p := ⟨b, off + 2, none⟩) hn).trans h.c2, (hb.cell (p := ⟨b, off + 3, none⟩) hn).trans h.c3, (hb.cell (p := ⟨b, off + 4, none⟩) hn).trans h.c4⟩
theorem PrAt.new (w : World) (a : Pr) (t : TypeId) : PrAt (w.alloc (.cells a.cells t)) w.heap.size 0 a :=
  ⟨by simp [Pr.cells], by simp [Pr.cells], by simp [Pr.cells], by simp [Pr.cells], by simp [Pr.cells]⟩

/-- Pairs in memory. -/
def PrsAt (w : World) (b off : Nat) (l : List Pr) : Prop := ∀ k, k < l.length → PrAt w b (off + k * 5) (l.getD k pr0)

/-- A slice of pairs. -/
structure IsPr (w : World) (a : Option Addr) (l : List Pr) (cap : Nat) : Prop where
  cap : l.length ≤ cap
  lies : l = [] ∨ ∃ b off, a = some ⟨b, off, none⟩ ∧ b < w.heap.size ∧ PrsAt w b off l

theorem IsPr.below {w w' : World} {a : Option Addr} {l : List Pr} {cap : Nat} (h : IsPr w a l cap) (hb : Below w.heap.size w w') : IsPr w' a l cap := by
  refine ⟨h.cap, ?_⟩
  rcases h.lies with h | ⟨b, off, e, hlt, hc⟩
  · exact .inl h
  · exact .inr ⟨b, off, e, by have := hb.size; omega, fun k hk => (hc k hk).below hb hlt⟩

theorem prs_drop (l : List Pr) (k : Nat) (h : k < l.length) : l.drop k = l.getD k pr0 :: l.drop (k + 1) := by
  rw [List.drop_eq_getElem_cons h, List.getD_eq_getElem?_getD, List.getElem?_eq_getElem h]
  rfl
theorem prs_take (l : List Pr) (k : Nat) (h : k < l.length) : l.take (k + 1) = l.take k ++ [l.getD k pr0] := by
  rw [List.take_add_one, List.getElem?_eq_getElem h, List.getD_eq_getElem?_getD, List.getElem?_eq_getElem h]
  rfl
theorem prs_mem (l : List Pr) (k : Nat) (h : k < l.length) : l.getD k pr0 ∈ l := by
  rw [List.getD_eq_getElem?_getD, List.getElem?_eq_getElem h]
  exact List.getElem_mem h

/-- The cells of pairs, one behind the other. -/
def prRow (l : List Pr) : List Value := l.flatMap fun x => x.cells.toList
theorem Pr.cells_length (x : Pr) : x.cells.toList.length = 5 := rfl
theorem prRow_length : ∀ l : List Pr, (prRow l).length = l.length * 5
  | [] => rfl
  | x :: l => by
    have := prRow_length l
    unfold prRow at *
    simp only [List.flatMap_cons, List.length_append, Pr.cells_length, this, List.length_cons]
    omega
theorem prRow_append (l m : List Pr) : prRow (l ++ m) = prRow l ++ prRow m := by simp [prRow]
theorem prRow_one (x : Pr) : prRow [x] = x.cells.toList := by simp [prRow]
theorem prRow_get : ∀ (l : List Pr) (k j : Nat), k < l.length → j < 5 → (prRow l)[k * 5 + j]? = (l.getD k pr0).cells.toList[j]?
  | [], _, _, h, _ => absurd h (by simp)
  | x :: l, 0, j, _, hj => by
    simp only [prRow, List.flatMap_cons, Nat.zero_mul, Nat.zero_add, List.getD_cons_zero]
    rw [List.getElem?_append_left (by rw [Pr.cells_length]; exact hj)]
  | x :: l, k + 1, j, h, hj => by
    have ih := prRow_get l k j (by simpa using h) hj
    simp only [prRow, List.flatMap_cons, List.getD_cons_succ] at ih ⊢
    rw [List.getElem?_append_right (by rw [Pr.cells_length]; omega), Pr.cells_length, ← ih]
    congr 1
    omega
theorem prRow_one_cell (l : List Pr) : ∀ u ∈ prRow l, u.oneCell' = true := by
  intro u hu
  simp only [prRow, List.mem_flatMap] at hu
  obtain ⟨x, _, hx⟩ := hu
  simp [Pr.cells] at hx
  rcases hx with rfl | rfl | rfl | rfl | rfl <;> rfl
theorem prRow_take (l : List Pr) (k : Nat) : prRow (l.take k) = (prRow l).take (k * 5) := by
  have h := prRow_append (l.take k) (l.drop k)
  rw [List.take_append_drop] at h
  rw [h]
  by_cases hk : k ≤ l.length
  · have : (prRow (l.take k)).length = k * 5 := by rw [prRow_length, List.length_take, Nat.min_eq_left hk]
    rw [← this, List.take_left]
  · rw [List.take_of_length_le (by omega), List.drop_eq_nil_of_le (by omega)]
    rw [List.take_of_length_le]
    · show prRow l = prRow l ++ []
      simp
    · show (prRow l ++ []).length ≤ _
      rw [List.append_nil, prRow_length]
      omega
theorem prRow_drop (l : List Pr) (k : Nat) : prRow (l.drop k) = (prRow l).drop (k * 5) := by
  have h := prRow_append (l.take k) (l.drop k)
  rw [List.take_append_drop] at h
  have h2 := prRow_take l k
  have h3 : prRow l = (prRow l).take (k * 5) ++ (prRow l).drop (k * 5) := (List.take_append_drop _ _).symm
  rw [← h2] at h3
  rw [h] at h3
  have := List.append_cancel_left h3
  rw [this]
  rw [h]

/-- Pairs in a row of one's own. -/
def PrRow (w : World) (n : Nat) (v : Value) (l : List Pr) : Prop := w.ownsRow n 50 5 v l.length (prRow l)

theorem PrRow.nil (w : World) (n : Nat) : PrRow w n (.slice none 0 0) [] := World.ownsRow_nil _ _ _ _
theorem PrRow.isPr {W : World} {n0 : Nat} {v : Value} {l : List Pr} (h : PrRow W n0 v l) :
    ∃ a cap, v = .slice a l.length cap ∧ IsPr W a l cap := by
  obtain ⟨hlen, ⟨rfl, h0⟩ | ⟨g, cap, cur, rfl, hb, hg, hc, hm, hs, ht⟩⟩ := h
  · have : l = [] := List.eq_nil_of_length_eq_zero h0
    subst this
    exact ⟨none, 0, rfl, Nat.le_refl _, .inl rfl⟩
  · refine ⟨_, cap, rfl, hc, .inr ⟨g, 0, rfl, (Array.getElem?_eq_some_iff.1 hg).1, ?_⟩⟩
    intro k hk
    have C : ∀ j, j < 5 → W.cell? ⟨g, 0 + k * 5 + j, none⟩ = (l.getD k pr0).cells.toList[j]? := fun j hj => by
      have e1 : (prRow l)[k * 5 + j]? = cur[k * 5 + j]? := by
        rw [← ht, List.getElem?_take, if_pos (by omega)]
        simp
      rw [← prRow_get l k j hk hj, e1]
      simp [World.cell?, hg]
    exact ⟨C 0 (by omega), C 1 (by omega), C 2 (by omega), C 3 (by omega), C 4 (by omega)⟩
theorem PrRow.below {w w' : World} {n : Nat} {v : Value} {l : List Pr} (h : PrRow w n v l) (hb : Below w.heap.size w w') : PrRow w' n v l := by
  rcases h.2 with ⟨hv, hn⟩ | ⟨g1, c1, cur, hv, hb1, hh, r⟩
  · exact ⟨h.1, .inl ⟨hv, hn⟩⟩
  · exact ⟨h.1, .inr ⟨g1, c1, cur, hv, hb1, (hb.block g1 (Array.getElem?_eq_some_iff.1 hh).1).trans hh, r⟩⟩
theorem PrRow.mono {w : World} {n m : Nat} {v : Value} {l : List Pr} (h : PrRow w n v l) (hm : m ≤ n) : PrRow w m v l := by
  rcases h.2 with ⟨hv, hn⟩ | ⟨g1, c1, cur, hv, hb1, r⟩
  · exact ⟨h.1, .inl ⟨hv, hn⟩⟩
  · exact ⟨h.1, .inr ⟨g1, c1, cur, hv, by omega, r⟩⟩
theorem PrRow.own {w : World} {n : Nat} {v : Value} {xs : List Pr} (h : PrRow w n v xs) : ∀ j, v.ownBlock = some j → n ≤ j := fun j ej => by
  rcases h.2 with ⟨rfl, _⟩ | ⟨g1, c1, cur, rfl, hg1, _⟩
  · cases ej
  · cases ej; exact hg1


theorem isPr_nil (W : World) : IsPr W none [] 0 := ⟨Nat.le_refl _, .inl rfl⟩
theorem PrRow.isPr' {W : World} {n0 : Nat} {a : Option Addr} {m cap : Nat} {l : List Pr} (h : PrRow W n0 (.slice a m cap) l) : m = l.length ∧ IsPr W a l cap := by
  obtain ⟨a', c', e, hs⟩ := h.isPr
  cases e
  exact ⟨rfl, hs⟩

theorem pr_info : (Tryz.prog.info? 50).map (fun i => (i.zero, i.size, i.bytes)) = some (some (.agg #[.int .i64 0, .int .i64 0, .string ByteArray.empty, .string ByteArray.empty, .string ByteArray.empty]), 5, 64) := by kernel_rfl
theorem IsPr.some {w : World} {a : Option Addr} {l : List Pr} {cap k : Nat} (h : IsPr w a l cap) (hk : k < l.length) : ∃ b off, a = some ⟨b, off, none⟩ ∧ b < w.heap.size ∧ PrsAt w b off l := by
  rcases h.lies with h | h
  · rw [h] at hk; simp at hk
  · exact h
theorem isPr_one {W : World} {b : Nat} {x : Pr} (h : PrAt W b 0 x) (hb : b < W.heap.size) : IsPr W (some ⟨b, 0, none⟩) [x] 1 := by
  refine ⟨Nat.le_refl _, .inr ⟨b, 0, rfl, hb, fun k hk => ?_⟩⟩
  have e : k = 0 := by simp at hk; omega
  subst e
  exact h
end Go.Proofs.YtagimpmefodaeaaGreatDoor

namespace Go.Proofs.YtagimpmefodaeaaGreatDoor
set_option linter.unusedVariables false
set_option linter.unusedSimpArgs false
set_option maxRecDepth 100000
open Go.RowKit Go.Lib

/-- What is wrong with a pair by itself. -/
def prBad (c : List Ac) (p : Pr) : Int :=
  if (upTo p.ea 12 && upTo p.eb 12) = false then 1 else if p.ea = p.eb then 8
  else if leafBad c p.one ≠ 0 then leafBad c p.one else if leafBad c p.oth ≠ 0 then leafBad c p.oth else if leafBad c p.dif ≠ 0 then leafBad c p.dif
  else if p.dif = p.one ∨ p.dif = p.oth then 8 else 0
theorem prBad_ok {c : List Ac} {p : Pr} (h : prBad c p = 0) : upTo p.ea 12 = true ∧ upTo p.eb 12 = true ∧ p.ea ≠ p.eb ∧ p.dif ≠ p.one ∧ p.dif ≠ p.oth := by
  unfold prBad at h
  split at h
  · cases h
  rename_i h1
  split at h
  · cases h
  rename_i h2
  split at h
  · rename_i h3; exact absurd h h3
  split at h
  · rename_i h3; exact absurd h h3
  split at h
  · rename_i h3; exact absurd h h3
  split at h
  · cases h
  rename_i h6
  have h1' : (upTo p.ea 12 && upTo p.eb 12) = true := by simpa using h1
  obtain ⟨u, v⟩ : upTo p.ea 12 = true ∧ upTo p.eb 12 = true := by simpa using h1'
  exact ⟨u, v, h2, fun e => h6 (.inl e), fun e => h6 (.inr e)⟩

set_option maxHeartbeats 4000000 in
theorem checkPair_any (c : List Ac) (p : Pr) (B1 B2 : Nat) (w : World) (hL : Lfs w B1 B2 c) :
    Calls Tryz.prog 15 #[.agg p.cells, .func (.func 40) #[] #[.pointer (some ⟨B1, 0, none⟩), .pointer (some ⟨B2, 0, none⟩)]] w fun e w' => e = .returned (chE (prBad c p)) ∧ Below w.heap.size w w' := by
  have eg : ∀ args W, (callFunc 40 args).run Tryz.prog W = .ok (.enter 40 args) W := fun args W => en_enters Tryz.func40 (by kernel_rfl) ⟨_, rfl⟩ args W
  obtain ⟨w0, hw0⟩ : ∃ w0, w.alloc (.cells p.cells 50) = w0 := ⟨_, rfl⟩
  have B0 : Below w.heap.size w w0 := by rw [← hw0]; exact (Below.refl _ w).alloc (Nat.le_refl _) _
  have hs0 : w.heap.size < w0.heap.size := by rw [← hw0]; simp
  have HA : Hid (∀ W, Below w0.heap.size w0 W → PrAt W w.heap.size 0 p ∧ Below w.heap.size w W) := fun W hW =>
    ⟨(by rw [← hw0]; exact PrAt.new w p _ : PrAt w0 w.heap.size 0 p).below hW hs0, B0.trans (hW.mono (by omega))⟩
  have HLf : Hid (∀ code W, Below w0.heap.size w0 W → Calls Tryz.prog 40 #[.string code, .pointer (some ⟨B1, 0, none⟩), .pointer (some ⟨B2, 0, none⟩)] W fun e w' => e = .returned (chE (leafBad c code)) ∧ Below w0.heap.size w0 w') := fun code W hW => by
    refine (leaf1_any c code B1 B2 W ((hL.below B0).below hW)).mono ?_
    rintro e w' ⟨rfl, hb⟩
    exact ⟨rfl, hW.trans (hb.mono hW.size)⟩
  have HEn : Hid (∀ n W, Calls Tryz.prog 43 #[.int .i64 n] W fun e w' => e = .returned (.bool (upTo n 12)) ∧ w' = W) := fun n W => isEntity_any n W
  obtain ⟨res, hres⟩ : ∃ res, chE (prBad c p) = res := ⟨_, rfl⟩
  have Hres : Hid (chE (prBad c p) = res) := hres
  rw [hres]
  have HW0 : Hid (w.alloc (.cells p.cells 50) = w0) := hw0
  clear hres hL hw0 B0 hs0
  obtain ⟨x0, x1, x2, x3, x4⟩ := p
  obtain ⟨⟨d0, d1, d2, d3, d4⟩, hbw⟩ := HA.out w0 (Below.refl _ _)
  simp only [Pr.cells, Nat.zero_add] at HW0 HA d0 d1 d2 d3 d4 ⊢
  have HR0 : Hid (chE (if (upTo x0 12 && upTo x1 12) = false then 1 else if x0 = x1 then 8 else if leafBad c x2 ≠ 0 then leafBad c x2 else if leafBad c x3 ≠ 0 then leafBad c x3 else if leafBad c x4 ≠ 0 then leafBad c x4 else if x4 = x2 ∨ x4 = x3 then 8 else 0) = res) := Hres.out
  clear Hres
  have HE0 : Hid (∀ W, Calls Tryz.prog 43 #[.int .i64 x0] W fun e w' => e = .returned (.bool (upTo x0 12)) ∧ w' = W) := HEn.out x0
  have HE1 : Hid (∀ W, Calls Tryz.prog 43 #[.int .i64 x1] W fun e w' => e = .returned (.bool (upTo x1 12)) ∧ w' = W) := HEn.out x1
  clear HEn
  go_enter Tryz.func15, Tryz.ntmps15
  go_upto_region 1 with fail
  rw [HW0.out]
  clear HW0
  go_wp2_with fail
  refine (HE0.out _).mono ?_
  rintro e w' ⟨rfl, hw⟩
  rw [hw]; clear hw w' HE0
  cases u0 : upTo x0 12
  · have er : res = chE 1 := by rw [← HR0.out, u0, Bool.false_and, if_pos rfl]
    rw [chE_ne (by decide)] at er
    subst er
    clear HR0 HLf HA HE1
    go_wp2
    go_ret
    exact ⟨rfl, hbw⟩
  rw [u0] at HR0
  go_wp2_with fail
  refine (HE1.out _).mono ?_
  rintro e w' ⟨rfl, hw⟩
  rw [hw]; clear hw w' HE1
  cases u1 : upTo x1 12
  · have er : res = chE 1 := by rw [← HR0.out, u1, Bool.and_false, if_pos rfl]
    rw [chE_ne (by decide)] at er
    subst er
    clear HR0 HLf HA
    go_wp2
    go_ret
    exact ⟨rfl, hbw⟩
  have HR1 : Hid (chE (if x0 = x1 then 8 else if leafBad c x2 ≠ 0 then leafBad c x2 else if leafBad c x3 ≠ 0 then leafBad c x3 else if leafBad c x4 ≠ 0 then leafBad c x4 else if x4 = x2 ∨ x4 = x3 then 8 else 0) = res) := by
    have := HR0.out; rw [u1, Bool.true_and, if_neg (by simp)] at this; exact this
  clear HR0 u0 u1
  by_cases c1 : x0 = x1
  · have er : res = chE 8 := by rw [← HR1.out, if_pos c1]
    rw [chE_ne (by decide)] at er
    subst er
    subst c1
    have c1' : (x0 == x0) = true := by simp
    clear HR1 HLf HA
    go_wp2
    go_ret
    exact ⟨rfl, hbw⟩
  have c1' : (x0 == x1) = false := by rw [beq_eq_false_iff_ne]; exact c1
  have HR2 : Hid (chE (if leafBad c x2 ≠ 0 then leafBad c x2 else if leafBad c x3 ≠ 0 then leafBad c x3 else if leafBad c x4 ≠ 0 then leafBad c x4 else if x4 = x2 ∨ x4 = x3 then 8 else 0) = res) := by
    have := HR1.out; rw [if_neg c1] at this; exact this
  clear HR1
  have i0 : ∀ W, (Instr.index 87 (.agg #[.string x2, .string x3, .string x4]) (.int .i64 0)).run Tryz.prog W = .ok (.string x2) W := fun _ => by kernel_rfl
  have i1 : ∀ W, (Instr.index 87 (.agg #[.string x2, .string x3, .string x4]) (.int .i64 1)).run Tryz.prog W = .ok (.string x3) W := fun _ => by kernel_rfl
  have i2 : ∀ W, (Instr.index 87 (.agg #[.string x2, .string x3, .string x4]) (.int .i64 2)).run Tryz.prog W = .ok (.string x4) W := fun _ => by kernel_rfl
  have HF : Hid (Calls _ _ _ _ _) := HLf.out x2 w0 (Below.refl _ _)
  go_wp2
  refine wp_loop_rounds 4 ?_
  rw [rounds_succ]
  by_cases c2 : leafBad c x2 ≠ 0
  · have er : res = chE (leafBad c x2) := by rw [← HR2.out, if_pos c2]
    rw [chE_ne c2] at HF er
    subst er
    clear HR2 HLf
    go_wp2_with (go_at_fn 40; refine HF.out.mono ?_; rintro e w' ⟨rfl, hb'⟩)
    go_ret
    exact ⟨rfl, (HA.out _ hb').2⟩
  have c2' := Decidable.of_not_not c2
  rw [c2', chE_zero] at HF
  have HR3 : Hid (chE (if leafBad c x3 ≠ 0 then leafBad c x3 else if leafBad c x4 ≠ 0 then leafBad c x4 else if x4 = x2 ∨ x4 = x3 then 8 else 0) = res) := by
    have := HR2.out; rw [if_neg c2] at this; exact this
  clear HR2 c2 c2'
  go_wp2_with fail
  go_at_fn 40
  refine HF.out.mono ?_
  rintro e w1 ⟨rfl, hb1⟩
  have HF : Hid (Calls _ _ _ _ _) := HLf.out x3 w1 hb1
  clear hb1 hbw d0 d1 d2 d3 d4
  go_wp2
  rw [rounds_succ]
  by_cases c3 : leafBad c x3 ≠ 0
  · have er : res = chE (leafBad c x3) := by rw [← HR3.out, if_pos c3]
    rw [chE_ne c3] at HF er
    subst er
    clear HR3 HLf
    go_wp2_with (go_at_fn 40; refine HF.out.mono ?_; rintro e w' ⟨rfl, hb'⟩)
    go_ret
    exact ⟨rfl, (HA.out _ hb').2⟩
  have c3' := Decidable.of_not_not c3
  rw [c3', chE_zero] at HF
  have HR4 : Hid (chE (if leafBad c x4 ≠ 0 then leafBad c x4 else if x4 = x2 ∨ x4 = x3 then 8 else 0) = res) := by
    have := HR3.out; rw [if_neg c3] at this; exact this
  clear HR3 c3 c3'
  go_wp2_with fail
  go_at_fn 40
  refine HF.out.mono ?_
  rintro e w2 ⟨rfl, hb2⟩
  have HF : Hid (Calls _ _ _ _ _) := HLf.out x4 w2 hb2
  clear hb2 HLf
  go_wp2
  rw [rounds_succ]
  by_cases c4 : leafBad c x4 ≠ 0
  · have er : res = chE (leafBad c x4) := by rw [← HR4.out, if_pos c4]
    rw [chE_ne c4] at HF er
    subst er
    clear HR4
    go_wp2_with (go_at_fn 40; refine HF.out.mono ?_; rintro e w' ⟨rfl, hb'⟩)
    go_ret
    exact ⟨rfl, (HA.out _ hb').2⟩
  have c4' := Decidable.of_not_not c4
  rw [c4', chE_zero] at HF
  have HR5 : Hid (chE (if x4 = x2 ∨ x4 = x3 then 8 else 0) = res) := by
    have := HR4.out; rw [if_neg c4] at this; exact this
  clear HR4 c4 c4'
  go_wp2_with fail
  go_at_fn 40
  refine HF.out.mono ?_
  rintro e w3 ⟨rfl, hb3⟩
  obtain ⟨⟨d0, d1, d2, d3, d4⟩, hbw⟩ := HA.out w3 hb3
  simp only [Nat.zero_add] at d0 d1 d2 d3 d4
  clear HA hb3 HF
  go_wp2
  rw [rounds_succ]
  by_cases c5 : x4 = x2
  · have er : res = chE 8 := by rw [← HR5.out, if_pos (.inl c5)]
    rw [chE_ne (by decide)] at er
    subst er
    subst c5
    clear HR5
    go_wp2
    go_ret
    exact ⟨rfl, hbw⟩
  have c5' := ch_ne c5
  by_cases c6 : x4 = x3
  · have er : res = chE 8 := by rw [← HR5.out, if_pos (.inr c6)]
    rw [chE_ne (by decide)] at er
    subst er
    subst c6
    clear HR5
    go_wp2
    go_ret
    exact ⟨rfl, hbw⟩
  have c6' := ch_ne c6
  have er : res = .nilIface := by rw [← HR5.out, if_neg (fun h => h.elim c5 c6), chE_zero]
  subst er
  clear HR5
  go_wp2
  go_ret
  exact ⟨rfl, hbw⟩
end Go.Proofs.YtagimpmefodaeaaGreatDoor
