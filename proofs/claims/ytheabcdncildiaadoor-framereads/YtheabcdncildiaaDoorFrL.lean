/-
  Bytes, lines, balances and entries in memory.
-/
import Derived.Test.YtheabcdncildiaaDoorFrM
import Derived.Maps.AppendAt
import Derived.Lib.AppendStr
import Derived.Laws.BytesArg
import Derived.Deep.QuietTactic
import Derived.Laws.NewBlocks
import Derived.BigQuiet
namespace Go.Proofs.YtheabcdncildiaaDoor
set_option linter.unusedVariables false
set_option linter.unusedSimpArgs false
set_option maxRecDepth 100000
open Go.RowKit Go.Lib

theorem en_ne {a b : ByteArray} (h : a ≠ b) : (a.toList == b.toList) = false := by
  rw [beq_eq_false_iff_ne]
  exact fun e => h (toList_inj e)
theorem en_empty {a : ByteArray} (h : a.size = 0) : a.toList = [] := by
  rw [Lib.toList_data]
  exact List.eq_nil_of_length_eq_zero h
theorem en_some {a : ByteArray} (h : a.size ≠ 0) : ¬ a.toList = [] := by
  rw [Lib.toList_data]
  exact fun e => h (congrArg List.length e)
theorem en_drewN {B : Nat} {a w : World} (h : Below B a w) (n : Nat) : Below B a (w.drewN n) := h.trans ⟨rfl, rfl, rfl, Nat.le_refl _, fun _ _ => rfl⟩
theorem en_enters {f : FuncId} {fn : Func} (hf : Tryd.prog.funcs[f]? = some fn) (hn : (fn.name == "runtime.NumGoroutine") = false) (hb : ∃ c, fn.body = some c) (args : Array Value) (w : World) : (callFunc f args).run Tryd.prog w = .ok (.enter f args) w := by
  obtain ⟨c, hc⟩ := hb
  exact MuLone.run_callFunc_enter hf hn hc args w

/-- An error by its number. -/
def enE (n : Int) : Value := if n = 0 then .nilIface else .iface 52 (.int .i64 n)
theorem enE_zero : enE 0 = .nilIface := rfl
theorem enE_ne {n : Int} (h : n ≠ 0) : enE n = .iface 52 (.int .i64 n) := if_neg h

structure LnAt (w : World) (b off : Nat) (x : Ln) : Prop where
  c0 : w.cell? ⟨b, off, none⟩ = some (.string x.acc)
  c1 : w.cell? ⟨b, off + 1, none⟩ = some (.string x.cur)
  c2 : w.cell? ⟨b, off + 2, none⟩ = some (.int .i64 x.amt)

theorem LnAt.below {w w' : World} {b off n : Nat} {a : Ln} (h : LnAt w b off a) (hb : Below n w w') (hn : b < n) : LnAt w' b off a :=
  ⟨(hb.cell (p := ⟨b, off, none⟩) hn).trans h.c0, (hb.cell (p := ⟨b, off + 1, none⟩) hn).trans h.c1, (hb.cell (p := ⟨b, off + 2, none⟩) hn).trans h.c2⟩
theorem LnAt.new (w : World) (a : Ln) (t : TypeId) : LnAt (w.alloc (.cells a.cells t)) w.heap.size 0 a :=
  ⟨by simp [Ln.cells], by simp [Ln.cells], by simp [Ln.cells]⟩

/-- Lines in memory. -/
def LnsAt (w : World) (b off : Nat) (l : List Ln) : Prop := ∀ k, k < l.length → LnAt w b (off + k * 3) (l.getD k ln0)

/-- A slice of lines. -/
structure IsLn (w : World) (a : Option Addr) (l : List Ln) (cap : Nat) : Prop where
  cap : l.length ≤ cap
  lies : l = [] ∨ ∃ b off, a = some ⟨b, off, none⟩ ∧ b < w.heap.size ∧ LnsAt w b off l

theorem IsLn.below {w w' : World} {a : Option Addr} {l : List Ln} {cap : Nat} (h : IsLn w a l cap) (hb : Below w.heap.size w w') : IsLn w' a l cap := by
  refine ⟨h.cap, ?_⟩
  rcases h.lies with h | ⟨b, off, e, hlt, hc⟩
  · exact .inl h
  · exact .inr ⟨b, off, e, by have := hb.size; omega, fun k hk => (hc k hk).below hb hlt⟩

theorem lns_drop (l : List Ln) (k : Nat) (h : k < l.length) : l.drop k = l.getD k ln0 :: l.drop (k + 1) := by
  rw [List.drop_eq_getElem_cons h, List.getD_eq_getElem?_getD, List.getElem?_eq_getElem h]
  rfl
theorem lns_take (l : List Ln) (k : Nat) (h : k < l.length) : l.take (k + 1) = l.take k ++ [l.getD k ln0] := by
  rw [List.take_add_one, List.getElem?_eq_getElem h, List.getD_eq_getElem?_getD, List.getElem?_eq_getElem h]
  rfl
theorem lns_mem (l : List Ln) (k : Nat) (h : k < l.length) : l.getD k ln0 ∈ l := by
  rw [List.getD_eq_getElem?_getD, List.getElem?_eq_getElem h]
  exact List.getElem_mem h

/-- The cells of lines, one behind the other. -/
def lnRow (l : List Ln) : List Value := l.flatMap fun x => x.cells.toList
theorem Ln.cells_length (x : Ln) : x.cells.toList.length = 3 := rfl
theorem lnRow_length : ∀ l : List Ln, (lnRow l).length = l.length * 3
  | [] => rfl
  | x :: l => by
    have := lnRow_length l
    unfold lnRow at *
    simp only [List.flatMap_cons, List.length_append, Ln.cells_length, this, List.length_cons]
    omega
theorem lnRow_append (l m : List Ln) : lnRow (l ++ m) = lnRow l ++ lnRow m := by simp [lnRow]
theorem lnRow_one (x : Ln) : lnRow [x] = x.cells.toList := by simp [lnRow]
theorem lnRow_get : ∀ (l : List Ln) (k j : Nat), k < l.length → j < 3 → (lnRow l)[k * 3 + j]? = (l.getD k ln0).cells.toList[j]?
  | [], _, _, h, _ => absurd h (by simp)
  | x :: l, 0, j, _, hj => by
    simp only [lnRow, List.flatMap_cons, Nat.zero_mul, Nat.zero_add, List.getD_cons_zero]
    rw [List.getElem?_append_left (by rw [Ln.cells_length]; exact hj)]
  | x :: l, k + 1, j, h, hj => by
    have ih := lnRow_get l k j (by simpa using h) hj
    simp only [lnRow, List.flatMap_cons, List.getD_cons_succ] at ih ⊢
    rw [List.getElem?_append_right (by rw [Ln.cells_length]; omega), Ln.cells_length, ← ih]
    congr 1
    omega
theorem lnRow_one_cell (l : List Ln) : ∀ u ∈ lnRow l, u.oneCell' = true := by
  intro u hu
  simp only [lnRow, List.mem_flatMap] at hu
  obtain ⟨x, _, hx⟩ := hu
  simp [Ln.cells] at hx
  rcases hx with rfl | rfl | rfl <;> rfl
theorem lnRow_take (l : List Ln) (k : Nat) : lnRow (l.take k) = (lnRow l).take (k * 3) := by
  have h := lnRow_append (l.take k) (l.drop k)
  rw [List.take_append_drop] at h
  rw [h]
  by_cases hk : k ≤ l.length
  · have : (lnRow (l.take k)).length = k * 3 := by rw [lnRow_length, List.length_take, Nat.min_eq_left hk]
    rw [← this, List.take_left]
  · rw [List.take_of_length_le (by omega), List.drop_eq_nil_of_le (by omega)]
    rw [List.take_of_length_le]
    · show lnRow l = lnRow l ++ []
      simp
    · show (lnRow l ++ []).length ≤ _
      rw [List.append_nil, lnRow_length]
      omega
theorem lnRow_drop (l : List Ln) (k : Nat) : lnRow (l.drop k) = (lnRow l).drop (k * 3) := by
  have h := lnRow_append (l.take k) (l.drop k)
  rw [List.take_append_drop] at h
  have h2 := lnRow_take l k
  have h3 : lnRow l = (lnRow l).take (k * 3) ++ (lnRow l).drop (k * 3) := (List.take_append_drop _ _).symm
  rw [← h2] at h3
  rw [h] at h3
  have := List.append_cancel_left h3
  rw [this]
  rw [h]

/-- Lines in a row of one's own. -/
def LnRow (w : World) (n : Nat) (v : Value) (l : List Ln) : Prop := w.ownsRow n 47 3 v l.length (lnRow l)

theorem LnRow.nil (w : World) (n : Nat) : LnRow w n (.slice none 0 0) [] := World.ownsRow_nil _ _ _ _
theorem LnRow.isLn {W : World} {n0 : Nat} {v : Value} {l : List Ln} (h : LnRow W n0 v l) :
    ∃ a cap, v = .slice a l.length cap ∧ IsLn W a l cap := by
  obtain ⟨hlen, ⟨rfl, h0⟩ | ⟨g, cap, cur, rfl, hb, hg, hc, hm, hs, ht⟩⟩ := h
  · have : l = [] := List.eq_nil_of_length_eq_zero h0
    subst this
    exact ⟨none, 0, rfl, Nat.le_refl _, .inl rfl⟩
  · refine ⟨_, cap, rfl, hc, .inr ⟨g, 0, rfl, (Array.getElem?_eq_some_iff.1 hg).1, ?_⟩⟩
    intro k hk
    have C : ∀ j, j < 3 → W.cell? ⟨g, 0 + k * 3 + j, none⟩ = (l.getD k ln0).cells.toList[j]? := fun j hj => by
      have e1 : (lnRow l)[k * 3 + j]? = cur[k * 3 + j]? := by
        rw [← ht, List.getElem?_take, if_pos (by omega)]
        simp
      rw [← lnRow_get l k j hk hj, e1]
      simp [World.cell?, hg]
    exact ⟨C 0 (by omega), C 1 (by omega), C 2 (by omega)⟩
theorem LnRow.below {w w' : World} {n : Nat} {v : Value} {l : List Ln} (h : LnRow w n v l) (hb : Below w.heap.size w w') : LnRow w' n v l := by
  rcases h.2 with ⟨hv, hn⟩ | ⟨g1, c1, cur, hv, hb1, hh, r⟩
  · exact ⟨h.1, .inl ⟨hv, hn⟩⟩
  · exact ⟨h.1, .inr ⟨g1, c1, cur, hv, hb1, (hb.block g1 (Array.getElem?_eq_some_iff.1 hh).1).trans hh, r⟩⟩
theorem LnRow.mono {w : World} {n m : Nat} {v : Value} {l : List Ln} (h : LnRow w n v l) (hm : m ≤ n) : LnRow w m v l := by
  rcases h.2 with ⟨hv, hn⟩ | ⟨g1, c1, cur, hv, hb1, r⟩
  · exact ⟨h.1, .inl ⟨hv, hn⟩⟩
  · exact ⟨h.1, .inr ⟨g1, c1, cur, hv, by omega, r⟩⟩
theorem LnRow.own {w : World} {n : Nat} {v : Value} {xs : List Ln} (h : LnRow w n v xs) : ∀ j, v.ownBlock = some j → n ≤ j := fun j ej => by
  rcases h.2 with ⟨rfl, _⟩ | ⟨g1, c1, cur, rfl, hg1, _⟩
  · cases ej
  · cases ej; exact hg1


/-- An entry in a box. -/
def Box4 (W : World) (b : Nat) (r : ByteArray) (en pe : Int) (v : Value) : Prop := W.heap[b]? = some (.cells #[.string r, .int .i64 en, .int .i64 pe, v] 25 (0, 0))
theorem Box4.c0 {W : World} {b : Nat} {r : ByteArray} {en pe : Int} {v : Value} (h : Box4 W b r en pe v) : W.cell? ⟨b, 0, none⟩ = some (.string r) := by unfold Box4 at h; simp [World.cell?, h]
theorem Box4.c1 {W : World} {b : Nat} {r : ByteArray} {en pe : Int} {v : Value} (h : Box4 W b r en pe v) : W.cell? ⟨b, 1, none⟩ = some (.int .i64 en) := by unfold Box4 at h; simp [World.cell?, h]
theorem Box4.c2 {W : World} {b : Nat} {r : ByteArray} {en pe : Int} {v : Value} (h : Box4 W b r en pe v) : W.cell? ⟨b, 2, none⟩ = some (.int .i64 pe) := by unfold Box4 at h; simp [World.cell?, h]
theorem Box4.c3 {W : World} {b : Nat} {r : ByteArray} {en pe : Int} {v : Value} (h : Box4 W b r en pe v) : W.cell? ⟨b, 3, none⟩ = some v := by unfold Box4 at h; simp [World.cell?, h]
theorem Box4.fz {W : World} {b : Nat} {r : ByteArray} {en pe : Int} {v : Value} (h : Box4 W b r en pe v) (o : Nat) : W.frozen? ⟨b, o, none⟩ = false := by unfold Box4 at h; simp [World.frozen?, h]
theorem Box4.below {W W' : World} {b n : Nat} {r : ByteArray} {en pe : Int} {v : Value} (h : Box4 W b r en pe v) (hb : Below n W W') (hn : b < n) : Box4 W' b r en pe v := (hb.block b hn).trans h
theorem new_heap (W : World) (o : Obj) : (W.alloc o).heap[W.heap.size]? = some o := by unfold World.alloc; simp only [Array.getElem?_push_size]
theorem Box4.new (W : World) (r : ByteArray) (en pe : Int) (v : Value) : Box4 (W.alloc (.cells #[.string r, .int .i64 en, .int .i64 pe, v] 25)) W.heap.size r en pe v := new_heap W _
theorem Box4.alloc {W : World} {b : Nat} {r : ByteArray} {en pe : Int} {v : Value} (h : Box4 W b r en pe v) (o : Obj) : Box4 (W.alloc o) b r en pe v := ((World.grownBy_alloc W o none).block b (Array.getElem?_eq_some_iff.1 h).1 (by simp)).trans h
theorem Box4.set0 {W : World} {b : Nat} {r : ByteArray} {en pe : Int} {v : Value} (h : Box4 W b r en pe v) (r' : ByteArray) : Box4 (W.setCell ⟨b, 0, none⟩ (.string r')) b r' en pe v := by
  unfold Box4 at *
  rw [setCell_eq_setRow W b 0 _ 25 (0, 0) _ h, setRow_heap W b _ _ 25 (0, 0) h]
  rfl
theorem Box4.other {W : World} {b b' o : Nat} {r : ByteArray} {en pe : Int} {v u : Value} (h : Box4 W b r en pe v) (hne : b ≠ b') : Box4 (W.setCell ⟨b', o, none⟩ u) b r en pe v :=
  (Below.heap_setCell _ _ _ b (fun e => hne e)).trans h
theorem LnRow.setOther {W : World} {n b o : Nat} {v u : Value} {l : List Ln} (h : LnRow W n v l) (hb : b < n) : LnRow (W.setCell ⟨b, o, none⟩ u) n v l := by
  rcases h.2 with ⟨hv, hn⟩ | ⟨g1, c1, cur, hv, hb1, hh, r⟩
  · exact ⟨h.1, .inl ⟨hv, hn⟩⟩
  · exact ⟨h.1, .inr ⟨g1, c1, cur, hv, hb1, (Below.heap_setCell _ _ _ g1 (fun e => by simp only at e; omega)).trans hh, r⟩⟩


/-- All that was there stays, but for one block. -/
structure KeepBut (tb : Nat) (V W : World) : Prop where
  os : W.os = V.os
  tape : W.tape = V.tape
  output : W.output = V.output
  size : V.heap.size ≤ W.heap.size
  block : ∀ b, b < V.heap.size → b ≠ tb → W.heap[b]? = V.heap[b]?
theorem KeepBut.refl (tb : Nat) (V : World) : KeepBut tb V V := ⟨rfl, rfl, rfl, Nat.le_refl _, fun _ _ _ => rfl⟩
theorem KeepBut.alloc {tb : Nat} {V W : World} (h : KeepBut tb V W) (o : Obj) : KeepBut tb V (W.alloc o) :=
  ⟨h.os, h.tape, h.output, by have := h.size; simp; omega, fun b hb hn => ((World.grownBy_alloc W o none).block b (by have := h.size; omega) (by simp)).trans (h.block b hb hn)⟩
theorem KeepBut.grown {tb : Nat} {V W W' : World} {row : Option Nat} (h : KeepBut tb V W) (hg : W.grownBy W' row) (hr : ∀ j, row = some j → V.heap.size ≤ j) : KeepBut tb V W' :=
  ⟨hg.os.trans h.os, hg.tape.trans h.tape, hg.output.trans h.output, by have := h.size; have := hg.size; omega, fun b hb hn => (hg.block b (by have := h.size; omega) (fun e => by have := hr b e.symm; omega)).trans (h.block b hb hn)⟩
theorem KeepBut.set {tb : Nat} {V W : World} (h : KeepBut tb V W) (o : Nat) (v : Value) : KeepBut tb V (W.setCell ⟨tb, o, none⟩ v) :=
  ⟨((Below.refl 0 W).setCell (p := ⟨tb, o, none⟩) (Nat.zero_le _) v).os.trans h.os, ((Below.refl 0 W).setCell (p := ⟨tb, o, none⟩) (Nat.zero_le _) v).tape.trans h.tape, ((Below.refl 0 W).setCell (p := ⟨tb, o, none⟩) (Nat.zero_le _) v).output.trans h.output, by have := h.size; simp; omega, fun b hb hn => (Below.heap_setCell _ _ _ b (fun e => hn e)).trans (h.block b hb hn)⟩
theorem KeepBut.box {tb : Nat} {V W : World} (h : KeepBut tb V W) {b : Nat} {r : ByteArray} {en pe : Int} {v : Value} (hb : Box4 V b r en pe v) (hn : b ≠ tb) : Box4 W b r en pe v :=
  (h.block b (Array.getElem?_eq_some_iff.1 hb).1 hn).trans hb
theorem KeepBut.row {tb : Nat} {V W : World} (h : KeepBut tb V W) {n : Nat} {v : Value} {l : List Ln} (hr : LnRow V n v l) (hn : tb < n) : LnRow W n v l := by
  rcases hr.2 with ⟨hv, h0⟩ | ⟨g1, c1, cur, hv, hb1, hh, r⟩
  · exact ⟨hr.1, .inl ⟨hv, h0⟩⟩
  · exact ⟨hr.1, .inr ⟨g1, c1, cur, hv, hb1, (h.block g1 (Array.getElem?_eq_some_iff.1 hh).1 (by omega)).trans hh, r⟩⟩
theorem Box4.grow {W W' : World} {b : Nat} {row : Option Nat} {r : ByteArray} {en pe : Int} {v : Value} (h : Box4 W b r en pe v) (hg : W.grownBy W' row) (hr : ∀ j, row = some j → b < j) : Box4 W' b r en pe v :=
  (hg.block b (Array.getElem?_eq_some_iff.1 h).1 (fun e => by have := hr b e.symm; omega)).trans h
theorem isLn_nil (W : World) : IsLn W none [] 0 := ⟨Nat.le_refl _, .inl rfl⟩
theorem LnRow.isLn' {W : World} {n0 : Nat} {a : Option Addr} {m cap : Nat} {l : List Ln} (h : LnRow W n0 (.slice a m cap) l) : m = l.length ∧ IsLn W a l cap := by
  obtain ⟨a', c', e, hs⟩ := h.isLn
  cases e
  exact ⟨rfl, hs⟩


/-- Bytes as cells. -/
def byC (l : List UInt8) : List Value := l.map fun b => Value.int .u8 b.toNat
theorem byC_length (l : List UInt8) : (byC l).length = l.length := by simp [byC]
theorem byC_append (l m : List UInt8) : byC (l ++ m) = byC l ++ byC m := by simp [byC]
theorem byC_one (l : List UInt8) : ∀ u ∈ byC l, u.oneCell' = true := by
  intro u hu
  simp only [byC, List.mem_map] at hu
  obtain ⟨b, _, rfl⟩ := hu
  rfl
theorem byC_get (l : List UInt8) (k : Nat) (h : k < l.length) : (byC l)[k]? = some (.int .u8 (l[k]'h).toNat) := by simp [byC, h]
/-- Bytes in a row of one's own. -/
def ByRow (w : World) (n : Nat) (v : Value) (l : List UInt8) : Prop := w.ownsRow n 5 1 v l.length (byC l)
theorem ByRow.nil (w : World) (n : Nat) : ByRow w n (.slice none 0 0) [] := World.ownsRow_nil _ _ _ _
/-- A slice of bytes. -/
structure IsBy (w : World) (a : Option Addr) (l : List UInt8) (cap : Nat) : Prop where
  cap : l.length ≤ cap
  lies : l = [] ∨ ∃ b off, a = some ⟨b, off, none⟩ ∧ b < w.heap.size ∧ ∀ k (h : k < l.length), w.cell? ⟨b, off + k, none⟩ = some (.int .u8 (l[k]'h).toNat)
theorem IsBy.below {w w' : World} {a : Option Addr} {l : List UInt8} {cap : Nat} (h : IsBy w a l cap) (hb : Below w.heap.size w w') : IsBy w' a l cap := by
  refine ⟨h.cap, ?_⟩
  rcases h.lies with h | ⟨b, off, e, hlt, hc⟩
  · exact .inl h
  · exact .inr ⟨b, off, e, by have := hb.size; omega, fun k hk => (hb.cell (p := ⟨b, off + k, none⟩) hlt).trans (hc k hk)⟩
theorem isBy_nil (W : World) (a : Option Addr) (c : Nat) : IsBy W a [] c := ⟨Nat.zero_le _, .inl rfl⟩
theorem ByRow.isBy {W : World} {n0 : Nat} {v : Value} {l : List UInt8} (h : ByRow W n0 v l) :
    ∃ a cap, v = .slice a l.length cap ∧ IsBy W a l cap := by
  obtain ⟨hlen, ⟨rfl, h0⟩ | ⟨g, cap, cur, rfl, hb, hg, hc, hm, hs, ht⟩⟩ := h
  · have : l = [] := List.eq_nil_of_length_eq_zero h0
    subst this
    exact ⟨none, 0, rfl, Nat.le_refl _, .inl rfl⟩
  · refine ⟨_, cap, rfl, hc, .inr ⟨g, 0, rfl, (Array.getElem?_eq_some_iff.1 hg).1, ?_⟩⟩
    intro k hk
    have e1 : (byC l)[k]? = cur[k]? := by
      rw [← ht, List.getElem?_take, if_pos (by omega)]
      simp
    rw [← byC_get l k hk, e1]
    simp [World.cell?, hg]
theorem ByRow.below {w w' : World} {n : Nat} {v : Value} {l : List UInt8} (h : ByRow w n v l) (hb : Below w.heap.size w w') : ByRow w' n v l := by
  rcases h.2 with ⟨hv, hn⟩ | ⟨g1, c1, cur, hv, hb1, hh, r⟩
  · exact ⟨h.1, .inl ⟨hv, hn⟩⟩
  · exact ⟨h.1, .inr ⟨g1, c1, cur, hv, hb1, (hb.block g1 (Array.getElem?_eq_some_iff.1 hh).1).trans hh, r⟩⟩
theorem ByRow.mono {w : World} {n m : Nat} {v : Value} {l : List UInt8} (h : ByRow w n v l) (hm : m ≤ n) : ByRow w m v l := by
  rcases h.2 with ⟨hv, hn⟩ | ⟨g1, c1, cur, hv, hb1, r⟩
  · exact ⟨h.1, .inl ⟨hv, hn⟩⟩
  · exact ⟨h.1, .inr ⟨g1, c1, cur, hv, by omega, r⟩⟩
theorem ByRow.own {w : World} {n : Nat} {v : Value} {xs : List UInt8} (h : ByRow w n v xs) : ∀ j, v.ownBlock = some j → n ≤ j := fun j ej => by
  rcases h.2 with ⟨rfl, _⟩ | ⟨g1, c1, cur, rfl, hg1, _⟩
  · cases ej
  · cases ej; exact hg1
theorem ByRow.setOther {W : World} {n b o : Nat} {v u : Value} {l : List UInt8} (h : ByRow W n v l) (hb : b < n) : ByRow (W.setCell ⟨b, o, none⟩ u) n v l := by
  rcases h.2 with ⟨hv, hn⟩ | ⟨g1, c1, cur, hv, hb1, hh, r⟩
  · exact ⟨h.1, .inl ⟨hv, hn⟩⟩
  · exact ⟨h.1, .inr ⟨g1, c1, cur, hv, hb1, (Below.heap_setCell _ _ _ g1 (fun e => by simp only at e; omega)).trans hh, r⟩⟩
/-- Any list of bytes as numbers. -/
theorem strNums (l : List UInt8) : strOfNums (l.map fun b => (b.toNat : Int)) = txt l := by
  unfold strOfNums txt
  congr 1
  congr 1
  rw [List.map_map]
  conv => rhs; rw [← List.map_id l]
  apply List.map_congr_left
  intro b _
  simp
theorem by_info : (Tryd.prog.info? 5).map (fun i => (i.zero, i.size, i.bytes)) = some (some (.int .u8 0), 1, 1) := by kernel_rfl
theorem ln_info : (Tryd.prog.info? 47).map (fun i => (i.zero, i.size, i.bytes)) = some (some (.agg #[.string ByteArray.empty, .string ByteArray.empty, .int .i64 0]), 3, 40) := by kernel_rfl
theorem bl_info : (Tryd.prog.info? 56).map (fun i => (i.zero, i.size, i.bytes)) = some (some (.agg #[.int .i64 0, .string ByteArray.empty, .string ByteArray.empty, .int .i64 0]), 4, 48) := by kernel_rfl
/-- 'string(b)'. -/
theorem run_str (W : World) (a : Option Addr) (l : List UInt8) (cap : Nat) (h : IsBy W a l cap) : (convert 22 9 (.slice a l.length cap)).run Tryd.prog W = .ok (.string (txt l)) W := by
  rcases h.lies with rfl | ⟨b, off, rfl, hlt, hc⟩
  · cases a with
    | none => exact run_convert_bytes_nil W 22 5 Tryd.underlying22 Tryd.underlying5 0 cap 9 Tryd.underlying9
    | some ad =>
      rw [run_convert_bytes_string W 22 9 5 _ _ _ Tryd.underlying22 Tryd.underlying5 Tryd.underlying9]
      have := run_bytesToString (P := Tryd.prog) W ad 0 cap [] (by
        have := run_loadCells_list (P := Tryd.prog) W ad [] (fun j v hj => by simp at hj)
        simpa using this)
      exact this
  · rw [run_convert_bytes_arg W 22 5 Tryd.underlying22 Tryd.underlying5 b off l.length cap (l.map fun b => (b.toNat : Int)) (by simp) (fun i hi => by
      rw [hc i hi]
      simp [List.getD, hi]) 9 Tryd.underlying9, strNums]
theorem KeepBut.byrow {tb : Nat} {V W : World} (h : KeepBut tb V W) {n : Nat} {v : Value} {l : List UInt8} (hr : ByRow V n v l) (hn : tb < n) : ByRow W n v l := by
  rcases hr.2 with ⟨hv, h0⟩ | ⟨g1, c1, cur, hv, hb1, hh, r⟩
  · exact ⟨hr.1, .inl ⟨hv, h0⟩⟩
  · exact ⟨hr.1, .inr ⟨g1, c1, cur, hv, hb1, (h.block g1 (Array.getElem?_eq_some_iff.1 hh).1 (by omega)).trans hh, r⟩⟩
structure BlAt (w : World) (b off : Nat) (x : Bl) : Prop where
  c0 : w.cell? ⟨b, off, none⟩ = some (.int .i64 x.ent)
  c1 : w.cell? ⟨b, off + 1, none⟩ = some (.string x.acc)
  c2 : w.cell? ⟨b, off + 2, none⟩ = some (.string x.cur)
  c3 : w.cell? ⟨b, off + 3, none⟩ = some (.int .i64 x.amt)

theorem BlAt.below {w w' : World} {b off n : Nat} {a : Bl} (h : BlAt w b off a) (hb : Below n w w') (hn : b < n) : BlAt w' b off a :=
  ⟨(hb.cell (p := ⟨b, off, none⟩) hn).trans h.c0, (hb.cell (p := ⟨b, off + 1, none⟩) hn).trans h.c1, (hb.cell (p := ⟨b, off + 2, none⟩) hn).trans h.c2, (hb.cell (p := ⟨b, off + 3, none⟩) hn).trans h.c3⟩
theorem BlAt.new (w : World) (a : Bl) (t : TypeId) : BlAt (w.alloc (.cells a.cells t)) w.heap.size 0 a :=
  ⟨by simp [Bl.cells], by simp [Bl.cells], by simp [Bl.cells], by simp [Bl.cells]⟩

/-- Balances in memory. -/
def BlsAt (w : World) (b off : Nat) (l : List Bl) : Prop := ∀ k, k < l.length → BlAt w b (off + k * 4) (l.getD k bl0)

/-- A slice of balances. -/
structure IsBl (w : World) (a : Option Addr) (l : List Bl) (cap : Nat) : Prop where
  cap : l.length ≤ cap
  lies : l = [] ∨ ∃ b off, a = some ⟨b, off, none⟩ ∧ b < w.heap.size ∧ BlsAt w b off l

theorem IsBl.below {w w' : World} {a : Option Addr} {l : List Bl} {cap : Nat} (h : IsBl w a l cap) (hb : Below w.heap.size w w') : IsBl w' a l cap := by
  refine ⟨h.cap, ?_⟩
  rcases h.lies with h | ⟨b, off, e, hlt, hc⟩
  · exact .inl h
  · exact .inr ⟨b, off, e, by have := hb.size; omega, fun k hk => (hc k hk).below hb hlt⟩

theorem bls_drop (l : List Bl) (k : Nat) (h : k < l.length) : l.drop k = l.getD k bl0 :: l.drop (k + 1) := by
  rw [List.drop_eq_getElem_cons h, List.getD_eq_getElem?_getD, List.getElem?_eq_getElem h]
  rfl
theorem bls_take (l : List Bl) (k : Nat) (h : k < l.length) : l.take (k + 1) = l.take k ++ [l.getD k bl0] := by
  rw [List.take_add_one, List.getElem?_eq_getElem h, List.getD_eq_getElem?_getD, List.getElem?_eq_getElem h]
  rfl
theorem bls_mem (l : List Bl) (k : Nat) (h : k < l.length) : l.getD k bl0 ∈ l := by
  rw [List.getD_eq_getElem?_getD, List.getElem?_eq_getElem h]
  exact List.getElem_mem h

/-- The cells of balances, one behind the other. -/
def blRow (l : List Bl) : List Value := l.flatMap fun x => x.cells.toList
theorem Bl.cells_length (x : Bl) : x.cells.toList.length = 4 := rfl
theorem blRow_length : ∀ l : List Bl, (blRow l).length = l.length * 4
  | [] => rfl
  | x :: l => by
    have := blRow_length l
    unfold blRow at *
    simp only [List.flatMap_cons, List.length_append, Bl.cells_length, this, List.length_cons]
    omega
theorem blRow_append (l m : List Bl) : blRow (l ++ m) = blRow l ++ blRow m := by simp [blRow]
theorem blRow_one (x : Bl) : blRow [x] = x.cells.toList := by simp [blRow]
theorem blRow_get : ∀ (l : List Bl) (k j : Nat), k < l.length → j < 4 → (blRow l)[k * 4 + j]? = (l.getD k bl0).cells.toList[j]?
  | [], _, _, h, _ => absurd h (by simp)
  | x :: l, 0, j, _, hj => by
    simp only [blRow, List.flatMap_cons, Nat.zero_mul, Nat.zero_add, List.getD_cons_zero]
    rw [List.getElem?_append_left (by rw [Bl.cells_length]; exact hj)]
  | x :: l, k + 1, j, h, hj => by
    have ih := blRow_get l k j (by simpa using h) hj
    simp only [blRow, List.flatMap_cons, List.getD_cons_succ] at ih ⊢
    rw [List.getElem?_append_right (by rw [Bl.cells_length]; omega), Bl.cells_length, ← ih]
    congr 1
    omega
theorem blRow_one_cell (l : List Bl) : ∀ u ∈ blRow l, u.oneCell' = true := by
  intro u hu
  simp only [blRow, List.mem_flatMap] at hu
  obtain ⟨x, _, hx⟩ := hu
  simp [Bl.cells] at hx
  rcases hx with rfl | rfl | rfl | rfl <;> rfl
theorem blRow_take (l : List Bl) (k : Nat) : blRow (l.take k) = (blRow l).take (k * 4) := by
  have h := blRow_append (l.take k) (l.drop k)
  rw [List.take_append_drop] at h
  rw [h]
  by_cases hk : k ≤ l.length
  · have : (blRow (l.take k)).length = k * 4 := by rw [blRow_length, List.length_take, Nat.min_eq_left hk]
    rw [← this, List.take_left]
  · rw [List.take_of_length_le (by omega), List.drop_eq_nil_of_le (by omega)]
    rw [List.take_of_length_le]
    · show blRow l = blRow l ++ []
      simp
    · show (blRow l ++ []).length ≤ _
      rw [List.append_nil, blRow_length]
      omega
theorem blRow_drop (l : List Bl) (k : Nat) : blRow (l.drop k) = (blRow l).drop (k * 4) := by
  have h := blRow_append (l.take k) (l.drop k)
  rw [List.take_append_drop] at h
  have h2 := blRow_take l k
  have h3 : blRow l = (blRow l).take (k * 4) ++ (blRow l).drop (k * 4) := (List.take_append_drop _ _).symm
  rw [← h2] at h3
  rw [h] at h3
  have := List.append_cancel_left h3
  rw [this]
  rw [h]

/-- Balances in a row of one's own. -/
def BlRow (w : World) (n : Nat) (v : Value) (l : List Bl) : Prop := w.ownsRow n 56 4 v l.length (blRow l)

theorem BlRow.nil (w : World) (n : Nat) : BlRow w n (.slice none 0 0) [] := World.ownsRow_nil _ _ _ _
theorem BlRow.isBl {W : World} {n0 : Nat} {v : Value} {l : List Bl} (h : BlRow W n0 v l) :
    ∃ a cap, v = .slice a l.length cap ∧ IsBl W a l cap := by
  obtain ⟨hlen, ⟨rfl, h0⟩ | ⟨g, cap, cur, rfl, hb, hg, hc, hm, hs, ht⟩⟩ := h
  · have : l = [] := List.eq_nil_of_length_eq_zero h0
    subst this
    exact ⟨none, 0, rfl, Nat.le_refl _, .inl rfl⟩
  · refine ⟨_, cap, rfl, hc, .inr ⟨g, 0, rfl, (Array.getElem?_eq_some_iff.1 hg).1, ?_⟩⟩
    intro k hk
    have C : ∀ j, j < 4 → W.cell? ⟨g, 0 + k * 4 + j, none⟩ = (l.getD k bl0).cells.toList[j]? := fun j hj => by
      have e1 : (blRow l)[k * 4 + j]? = cur[k * 4 + j]? := by
        rw [← ht, List.getElem?_take, if_pos (by omega)]
        simp
      rw [← blRow_get l k j hk hj, e1]
      simp [World.cell?, hg]
    exact ⟨C 0 (by omega), C 1 (by omega), C 2 (by omega), C 3 (by omega)⟩
theorem BlRow.below {w w' : World} {n : Nat} {v : Value} {l : List Bl} (h : BlRow w n v l) (hb : Below w.heap.size w w') : BlRow w' n v l := by
  rcases h.2 with ⟨hv, hn⟩ | ⟨g1, c1, cur, hv, hb1, hh, r⟩
  · exact ⟨h.1, .inl ⟨hv, hn⟩⟩
  · exact ⟨h.1, .inr ⟨g1, c1, cur, hv, hb1, (hb.block g1 (Array.getElem?_eq_some_iff.1 hh).1).trans hh, r⟩⟩
theorem BlRow.mono {w : World} {n m : Nat} {v : Value} {l : List Bl} (h : BlRow w n v l) (hm : m ≤ n) : BlRow w m v l := by
  rcases h.2 with ⟨hv, hn⟩ | ⟨g1, c1, cur, hv, hb1, r⟩
  · exact ⟨h.1, .inl ⟨hv, hn⟩⟩
  · exact ⟨h.1, .inr ⟨g1, c1, cur, hv, by omega, r⟩⟩
theorem BlRow.own {w : World} {n : Nat} {v : Value} {xs : List Bl} (h : BlRow w n v xs) : ∀ j, v.ownBlock = some j → n ≤ j := fun j ej => by
  rcases h.2 with ⟨rfl, _⟩ | ⟨g1, c1, cur, rfl, hg1, _⟩
  · cases ej
  · cases ej; exact hg1


theorem KeepBut.brow {tb : Nat} {V W : World} (h : KeepBut tb V W) {n : Nat} {v : Value} {l : List Bl} (hr : BlRow V n v l) (hn : tb < n) : BlRow W n v l := by
  rcases hr.2 with ⟨hv, h0⟩ | ⟨g1, c1, cur, hv, hb1, hh, r⟩
  · exact ⟨hr.1, .inl ⟨hv, h0⟩⟩
  · exact ⟨hr.1, .inr ⟨g1, c1, cur, hv, hb1, (h.block g1 (Array.getElem?_eq_some_iff.1 hh).1 (by omega)).trans hh, r⟩⟩
theorem isBl_nil (W : World) : IsBl W none [] 0 := ⟨Nat.le_refl _, .inl rfl⟩
theorem BlRow.isBl' {W : World} {n0 : Nat} {a : Option Addr} {m cap : Nat} {l : List Bl} (h : BlRow W n0 (.slice a m cap) l) : m = l.length ∧ IsBl W a l cap := by
  obtain ⟨a', c', e, hs⟩ := h.isBl
  cases e
  exact ⟨rfl, hs⟩

end Go.Proofs.YtheabcdncildiaaDoor
