/-
  The contracts of the writer's number, fail, within, small, amount, text, all.
-/
import Derived.Test.YtijjegkkeigeoaaZb14
import Derived.Maps.AppendAt
import Derived.Lib.AppendStr
import Derived.Laws.BytesArg
import Derived.Deep.QuietTactic
import Derived.Laws.NewBlocks
import Derived.BigQuiet
import Derived.Test.YtijjegkkeigeoaaZb2
namespace Go.Proofs.Ytijjegkkeigeoaa
set_option linter.unusedVariables false
set_option linter.unusedSimpArgs false
set_option maxRecDepth 100000
open Go.RowKit Go.Lib

theorem en_ne {a b : ByteArray} (h : a ≠ b) : (a.toList == b.toList) = false := by
  rw [beq_eq_false_iff_ne]
  exact fun e => h (toList_inj e)
theorem en_empty {a : ByteArray} (h : a.size = 0) : a.toList = [] := by
  rw [Lib.toList_data]
  exact List.eq_nil_of_length_eq_zero h
theorem en_some {a : ByteArray} (h : a.size ≠ 0) : ¬ a.toList = [] := by
  rw [Lib.toList_data]
  exact fun e => h (congrArg List.length e)
theorem en_drewN {B : Nat} {a w : World} (h : Below B a w) (n : Nat) : Below B a (w.drewN n) := h.trans ⟨rfl, rfl, rfl, Nat.le_refl _, fun _ _ => rfl⟩
theorem en_enters {f : FuncId} {fn : Func} (hf : Try.prog.funcs[f]? = some fn) (hn : (fn.name == "runtime.NumGoroutine") = false) (hb : ∃ c, fn.body = some c) (args : Array Value) (w : World) : (callFunc f args).run Try.prog w = .ok (.enter f args) w := by
  obtain ⟨c, hc⟩ := hb
  exact MuLone.run_callFunc_enter hf hn hc args w

structure LnAt (w : World) (b off : Nat) (x : Ln) : Prop where
  c0 : w.cell? ⟨b, off, none⟩ = some (.string x.acc)
  c1 : w.cell? ⟨b, off + 1, none⟩ = some (.string x.cur)
  c2 : w.cell? ⟨b, off + 2, none⟩ = some (.int .i64 x.amt)

theorem LnAt.below {w w' : World} {b off n : Nat} {a : Ln} (h : LnAt w b off a) (hb : Below n w w') (hn : b < n) : LnAt w' b off a :=
  ⟨(hb.cell (p := ⟨b, off, none⟩) hn).trans h.c0, (hb.cell (p := ⟨b, off + 1, none⟩) hn).trans h.c1, (hb.cell (p := ⟨b, off + 2, none⟩) hn).trans h.c2⟩
theorem LnAt.new (w : World) (a : Ln) (t : TypeId) : LnAt (w.alloc (.cells a.cells t)) w.heap.size 0 a :=
  ⟨by simp [Ln.cells], by simp [Ln.cells], by simp [Ln.cells]⟩

/-- Lines in memory. -/
def LnsAt (w : World) (b off : Nat) (l : List Ln) : Prop := ∀ k, k < l.length → LnAt w b (off + k * 3) (l.getD k ln0)

/-- A slice of lines. -/
structure IsLn (w : World) (a : Option Addr) (l : List Ln) (cap : Nat) : Prop where
  cap : l.length ≤ cap
  lies : l = [] ∨ ∃ b off, a = some ⟨b, off, none⟩ ∧ b < w.heap.size ∧ LnsAt w b off l

theorem IsLn.below {w w' : World} {a : Option Addr} {l : List Ln} {cap : Nat} (h : IsLn w a l cap) (hb : Below w.heap.size w w') : IsLn w' a l cap := by
  refine ⟨h.cap, ?_⟩
  rcases h.lies with h | ⟨b, off, e, hlt, hc⟩
  · exact .inl h
  · exact .inr ⟨b, off, e, by have := hb.size; omega, fun k hk => (hc k hk).below hb hlt⟩

theorem lns_drop (l : List Ln) (k : Nat) (h : k < l.length) : l.drop k = l.getD k ln0 :: l.drop (k + 1) := by
  rw [List.drop_eq_getElem_cons h, List.getD_eq_getElem?_getD, List.getElem?_eq_getElem h]
  rfl
theorem lns_take (l : List Ln) (k : Nat) (h : k < l.length) : l.take (k + 1) = l.take k ++ [l.getD k ln0] := by
  rw [List.take_add_one, List.getElem?_eq_getElem h, List.getD_eq_getElem?_getD, List.getElem?_eq_getElem h]
  rfl
theorem lns_mem (l : List Ln) (k : Nat) (h : k < l.length) : l.getD k ln0 ∈ l := by
  rw [List.getD_eq_getElem?_getD, List.getElem?_eq_getElem h]
  exact List.getElem_mem h

/-- The cells of lines, one behind the other. -/
def lnRow (l : List Ln) : List Value := l.flatMap fun x => x.cells.toList
theorem Ln.cells_length (x : Ln) : x.cells.toList.length = 3 := rfl
theorem lnRow_length : ∀ l : List Ln, (lnRow l).length = l.length * 3
  | [] => rfl
  | x :: l => by
    have := lnRow_length l
    unfold lnRow at *
    simp only [List.flatMap_cons, List.length_append, Ln.cells_length, this, List.length_cons]
    omega
theorem lnRow_append (l m : List Ln) : lnRow (l ++ m) = lnRow l ++ lnRow m := by simp [lnRow]
theorem lnRow_one (x : Ln) : lnRow [x] = x.cells.toList := by simp [lnRow]
theorem lnRow_get : ∀ (l : List Ln) (k j : Nat), k < l.length → j < 3 → (lnRow l)[k * 3 + j]? = (l.getD k ln0).cells.toList[j]?
  | [], _, _, h, _ => absurd h (by simp)
  | x :: l, 0, j, _, hj => by
    simp only [lnRow, List.flatMap_cons, Nat.zero_mul, Nat.zero_add, List.getD_cons_zero]
    rw [List.getElem?_append_left (by rw [Ln.cells_length]; exact hj)]
  | x :: l, k + 1, j, h, hj => by
    have ih := lnRow_get l k j (by simpa using h) hj
    simp only [lnRow, List.flatMap_cons, List.getD_cons_succ] at ih ⊢
    rw [List.getElem?_append_right (by rw [Ln.cells_length]; omega), Ln.cells_length, ← ih]
    congr 1
    omega
theorem lnRow_one_cell (l : List Ln) : ∀ u ∈ lnRow l, u.oneCell' = true := by
  intro u hu
  simp only [lnRow, List.mem_flatMap] at hu
  obtain ⟨x, _, hx⟩ := hu
  simp [Ln.cells] at hx
  rcases hx with rfl | rfl | rfl <;> rfl
theorem lnRow_take (l : List Ln) (k : Nat) : lnRow (l.take k) = (lnRow l).take (k * 3) := by
  have h := lnRow_append (l.take k) (l.drop k)
  rw [List.take_append_drop] at h
  rw [h]
  by_cases hk : k ≤ l.length
  · have : (lnRow (l.take k)).length = k * 3 := by rw [lnRow_length, List.length_take, Nat.min_eq_left hk]
    rw [← this, List.take_left]
  · rw [List.take_of_length_le (by omega), List.drop_eq_nil_of_le (by omega)]
    rw [List.take_of_length_le]
    · show lnRow l = lnRow l ++ []
      simp
    · show (lnRow l ++ []).length ≤ _
      rw [List.append_nil, lnRow_length]
      omega
theorem lnRow_drop (l : List Ln) (k : Nat) : lnRow (l.drop k) = (lnRow l).drop (k * 3) := by
  have h := lnRow_append (l.take k) (l.drop k)
  rw [List.take_append_drop] at h
  have h2 := lnRow_take l k
  have h3 : lnRow l = (lnRow l).take (k * 3) ++ (lnRow l).drop (k * 3) := (List.take_append_drop _ _).symm
  rw [← h2] at h3
  rw [h] at h3
  have := List.append_cancel_left h3
  rw [this]
  rw [h]

/-- Lines in a row of one's own. -/
def LnRow (w : World) (n : Nat) (v : Value) (l : List Ln) : Prop := w.ownsRow n 64 3 v l.length (lnRow l)

theorem LnRow.nil (w : World) (n : Nat) : LnRow w n (.slice none 0 0) [] := World.ownsRow_nil _ _ _ _
theorem LnRow.isLn {W : World} {n0 : Nat} {v : Value} {l : List Ln} (h : LnRow W n0 v l) :
    ∃ a cap, v = .slice a l.length cap ∧ IsLn W a l cap := by
  obtain ⟨hlen, ⟨rfl, h0⟩ | ⟨g, cap, cur, rfl, hb, hg, hc, hm, hs, ht⟩⟩ := h
  · have : l = [] := List.eq_nil_of_length_eq_zero h0
    subst this
    exact ⟨none, 0, rfl, Nat.le_refl _, .inl rfl⟩
  · refine ⟨_, cap, rfl, hc, .inr ⟨g, 0, rfl, (Array.getElem?_eq_some_iff.1 hg).1, ?_⟩⟩
    intro k hk
    have C : ∀ j, j < 3 → W.cell? ⟨g, 0 + k * 3 + j, none⟩ = (l.getD k ln0).cells.toList[j]? := fun j hj => by
      have e1 : (lnRow l)[k * 3 + j]? = cur[k * 3 + j]? := by
        rw [← ht, List.getElem?_take, if_pos (by omega)]
        simp
      rw [← lnRow_get l k j hk hj, e1]
      simp [World.cell?, hg]
    exact ⟨C 0 (by omega), C 1 (by omega), C 2 (by omega)⟩
theorem LnRow.below {w w' : World} {n : Nat} {v : Value} {l : List Ln} (h : LnRow w n v l) (hb : Below w.heap.size w w') : LnRow w' n v l := by
  rcases h.2 with ⟨hv, hn⟩ | ⟨g1, c1, cur, hv, hb1, hh, r⟩
  · exact ⟨h.1, .inl ⟨hv, hn⟩⟩
  · exact ⟨h.1, .inr ⟨g1, c1, cur, hv, hb1, (hb.block g1 (Array.getElem?_eq_some_iff.1 hh).1).trans hh, r⟩⟩
theorem LnRow.mono {w : World} {n m : Nat} {v : Value} {l : List Ln} (h : LnRow w n v l) (hm : m ≤ n) : LnRow w m v l := by
  rcases h.2 with ⟨hv, hn⟩ | ⟨g1, c1, cur, hv, hb1, r⟩
  · exact ⟨h.1, .inl ⟨hv, hn⟩⟩
  · exact ⟨h.1, .inr ⟨g1, c1, cur, hv, by omega, r⟩⟩
theorem LnRow.own {w : World} {n : Nat} {v : Value} {xs : List Ln} (h : LnRow w n v xs) : ∀ j, v.ownBlock = some j → n ≤ j := fun j ej => by
  rcases h.2 with ⟨rfl, _⟩ | ⟨g1, c1, cur, rfl, hg1, _⟩
  · cases ej
  · cases ej; exact hg1


/-- An entry in a box. -/
def Box4 (W : World) (b : Nat) (r : ByteArray) (en pe : Int) (v : Value) : Prop := W.heap[b]? = some (.cells #[.string r, .int .i64 en, .int .i64 pe, v] 32 (0, 0))
theorem Box4.c0 {W : World} {b : Nat} {r : ByteArray} {en pe : Int} {v : Value} (h : Box4 W b r en pe v) : W.cell? ⟨b, 0, none⟩ = some (.string r) := by unfold Box4 at h; simp [World.cell?, h]
theorem Box4.c1 {W : World} {b : Nat} {r : ByteArray} {en pe : Int} {v : Value} (h : Box4 W b r en pe v) : W.cell? ⟨b, 1, none⟩ = some (.int .i64 en) := by unfold Box4 at h; simp [World.cell?, h]
theorem Box4.c2 {W : World} {b : Nat} {r : ByteArray} {en pe : Int} {v : Value} (h : Box4 W b r en pe v) : W.cell? ⟨b, 2, none⟩ = some (.int .i64 pe) := by unfold Box4 at h; simp [World.cell?, h]
theorem Box4.c3 {W : World} {b : Nat} {r : ByteArray} {en pe : Int} {v : Value} (h : Box4 W b r en pe v) : W.cell? ⟨b, 3, none⟩ = some v := by unfold Box4 at h; simp [World.cell?, h]
theorem Box4.fz {W : World} {b : Nat} {r : ByteArray} {en pe : Int} {v : Value} (h : Box4 W b r en pe v) (o : Nat) : W.frozen? ⟨b, o, none⟩ = false := by unfold Box4 at h; simp [World.frozen?, h]
theorem Box4.below {W W' : World} {b n : Nat} {r : ByteArray} {en pe : Int} {v : Value} (h : Box4 W b r en pe v) (hb : Below n W W') (hn : b < n) : Box4 W' b r en pe v := (hb.block b hn).trans h
theorem Box4.new (W : World) (r : ByteArray) (en pe : Int) (v : Value) : Box4 (W.alloc (.cells #[.string r, .int .i64 en, .int .i64 pe, v] 32)) W.heap.size r en pe v := new_heap W _
theorem Box4.alloc {W : World} {b : Nat} {r : ByteArray} {en pe : Int} {v : Value} (h : Box4 W b r en pe v) (o : Obj) : Box4 (W.alloc o) b r en pe v := ((World.grownBy_alloc W o none).block b (Array.getElem?_eq_some_iff.1 h).1 (by simp)).trans h
theorem Box4.set0 {W : World} {b : Nat} {r : ByteArray} {en pe : Int} {v : Value} (h : Box4 W b r en pe v) (r' : ByteArray) : Box4 (W.setCell ⟨b, 0, none⟩ (.string r')) b r' en pe v := by
  unfold Box4 at *
  rw [setCell_eq_setRow W b 0 _ 32 (0, 0) _ h, setRow_heap W b _ _ 32 (0, 0) h]
  rfl
theorem Box4.other {W : World} {b b' o : Nat} {r : ByteArray} {en pe : Int} {v u : Value} (h : Box4 W b r en pe v) (hne : b ≠ b') : Box4 (W.setCell ⟨b', o, none⟩ u) b r en pe v :=
  (Below.heap_setCell _ _ _ b (fun e => hne e)).trans h
theorem LnRow.setOther {W : World} {n b o : Nat} {v u : Value} {l : List Ln} (h : LnRow W n v l) (hb : b < n) : LnRow (W.setCell ⟨b, o, none⟩ u) n v l := by
  rcases h.2 with ⟨hv, hn⟩ | ⟨g1, c1, cur, hv, hb1, hh, r⟩
  · exact ⟨h.1, .inl ⟨hv, hn⟩⟩
  · exact ⟨h.1, .inr ⟨g1, c1, cur, hv, hb1, (Below.heap_setCell _ _ _ g1 (fun e => by simp only at e; omega)).trans hh, r⟩⟩


/-- All that was there stays, but for one block. -/
structure KeepBut (tb : Nat) (V W : World) : Prop where
  os : W.os = V.os
  tape : W.tape = V.tape
  output : W.output = V.output
  size : V.heap.size ≤ W.heap.size
  block : ∀ b, b < V.heap.size → b ≠ tb → W.heap[b]? = V.heap[b]?
theorem KeepBut.refl (tb : Nat) (V : World) : KeepBut tb V V := ⟨rfl, rfl, rfl, Nat.le_refl _, fun _ _ _ => rfl⟩
theorem KeepBut.alloc {tb : Nat} {V W : World} (h : KeepBut tb V W) (o : Obj) : KeepBut tb V (W.alloc o) :=
  ⟨h.os, h.tape, h.output, by have := h.size; simp; omega, fun b hb hn => ((World.grownBy_alloc W o none).block b (by have := h.size; omega) (by simp)).trans (h.block b hb hn)⟩
theorem KeepBut.grown {tb : Nat} {V W W' : World} {row : Option Nat} (h : KeepBut tb V W) (hg : W.grownBy W' row) (hr : ∀ j, row = some j → V.heap.size ≤ j) : KeepBut tb V W' :=
  ⟨hg.os.trans h.os, hg.tape.trans h.tape, hg.output.trans h.output, by have := h.size; have := hg.size; omega, fun b hb hn => (hg.block b (by have := h.size; omega) (fun e => by have := hr b e.symm; omega)).trans (h.block b hb hn)⟩
theorem KeepBut.set {tb : Nat} {V W : World} (h : KeepBut tb V W) (o : Nat) (v : Value) : KeepBut tb V (W.setCell ⟨tb, o, none⟩ v) :=
  ⟨((Below.refl 0 W).setCell (p := ⟨tb, o, none⟩) (Nat.zero_le _) v).os.trans h.os, ((Below.refl 0 W).setCell (p := ⟨tb, o, none⟩) (Nat.zero_le _) v).tape.trans h.tape, ((Below.refl 0 W).setCell (p := ⟨tb, o, none⟩) (Nat.zero_le _) v).output.trans h.output, by have := h.size; simp; omega, fun b hb hn => (Below.heap_setCell _ _ _ b (fun e => hn e)).trans (h.block b hb hn)⟩
theorem KeepBut.box {tb : Nat} {V W : World} (h : KeepBut tb V W) {b : Nat} {r : ByteArray} {en pe : Int} {v : Value} (hb : Box4 V b r en pe v) (hn : b ≠ tb) : Box4 W b r en pe v :=
  (h.block b (Array.getElem?_eq_some_iff.1 hb).1 hn).trans hb
theorem KeepBut.row {tb : Nat} {V W : World} (h : KeepBut tb V W) {n : Nat} {v : Value} {l : List Ln} (hr : LnRow V n v l) (hn : tb < n) : LnRow W n v l := by
  rcases hr.2 with ⟨hv, h0⟩ | ⟨g1, c1, cur, hv, hb1, hh, r⟩
  · exact ⟨hr.1, .inl ⟨hv, h0⟩⟩
  · exact ⟨hr.1, .inr ⟨g1, c1, cur, hv, hb1, (h.block g1 (Array.getElem?_eq_some_iff.1 hh).1 (by omega)).trans hh, r⟩⟩
theorem Box4.grow {W W' : World} {b : Nat} {row : Option Nat} {r : ByteArray} {en pe : Int} {v : Value} (h : Box4 W b r en pe v) (hg : W.grownBy W' row) (hr : ∀ j, row = some j → b < j) : Box4 W' b r en pe v :=
  (hg.block b (Array.getElem?_eq_some_iff.1 h).1 (fun e => by have := hr b e.symm; omega)).trans h
theorem isLn_nil (W : World) : IsLn W none [] 0 := ⟨Nat.le_refl _, .inl rfl⟩
theorem LnRow.isLn' {W : World} {n0 : Nat} {a : Option Addr} {m cap : Nat} {l : List Ln} (h : LnRow W n0 (.slice a m cap) l) : m = l.length ∧ IsLn W a l cap := by
  obtain ⟨a', c', e, hs⟩ := h.isLn
  cases e
  exact ⟨rfl, hs⟩


theorem isBy_nil (W : World) (a : Option Addr) (c : Nat) : IsBy W a [] c := ⟨Nat.zero_le _, .inl rfl⟩
theorem ByRow.mono {w : World} {n m : Nat} {v : Value} {l : List UInt8} (h : ByRow w n v l) (hm : m ≤ n) : ByRow w m v l := by
  rcases h.2 with ⟨hv, hn⟩ | ⟨g1, c1, cur, hv, hb1, r⟩
  · exact ⟨h.1, .inl ⟨hv, hn⟩⟩
  · exact ⟨h.1, .inr ⟨g1, c1, cur, hv, by omega, r⟩⟩
theorem ByRow.setOther {W : World} {n b o : Nat} {v u : Value} {l : List UInt8} (h : ByRow W n v l) (hb : b < n) : ByRow (W.setCell ⟨b, o, none⟩ u) n v l := by
  rcases h.2 with ⟨hv, hn⟩ | ⟨g1, c1, cur, hv, hb1, hh, r⟩
  · exact ⟨h.1, .inl ⟨hv, hn⟩⟩
  · exact ⟨h.1, .inr ⟨g1, c1, cur, hv, hb1, (Below.heap_setCell _ _ _ g1 (fun e => by simp only at e; omega)).trans hh, r⟩⟩
theorem by_info : (Try.prog.info? 5).map (fun i => (i.zero, i.size, i.bytes)) = some (some (.int .u8 0), 1, 1) := by kernel_rfl
theorem ln_info : (Try.prog.info? 64).map (fun i => (i.zero, i.size, i.bytes)) = some (some (.agg #[.string ByteArray.empty, .string ByteArray.empty, .int .i64 0]), 3, 40) := by kernel_rfl
theorem KeepBut.byrow {tb : Nat} {V W : World} (h : KeepBut tb V W) {n : Nat} {v : Value} {l : List UInt8} (hr : ByRow V n v l) (hn : tb < n) : ByRow W n v l := by
  rcases hr.2 with ⟨hv, h0⟩ | ⟨g1, c1, cur, hv, hb1, hh, r⟩
  · exact ⟨hr.1, .inl ⟨hv, h0⟩⟩
  · exact ⟨hr.1, .inr ⟨g1, c1, cur, hv, hb1, (h.block g1 (Array.getElem?_eq_some_iff.1 hh).1 (by omega)).trans hh, r⟩⟩
end Go.Proofs.Ytijjegkkeigeoaa

namespace Go.Proofs.Ytijjegkkeigeoaa
set_option linter.unusedVariables false
set_option linter.unusedSimpArgs false
set_option maxRecDepth 100000
open Go.RowKit Go.Lib

/-- An entry, with the place of its lines. -/
structure Je where
  ref : ByteArray
  ent : Int
  per : Int
  adr : Option Addr
  cap : Nat
  lns : List Ln
def je0 : Je := ⟨ByteArray.empty, 0, 0, none, 0, []⟩
def Je.cells (x : Je) : Array Value := #[.string x.ref, .int .i64 x.ent, .int .i64 x.per, .slice x.adr x.lns.length x.cap]
theorem Je.cells_length (x : Je) : x.cells.toList.length = 4 := rfl
/-- An entry as it lies in memory. -/
structure JeAt (W : World) (b off : Nat) (x : Je) : Prop where
  c0 : W.cell? ⟨b, off, none⟩ = some (.string x.ref)
  c1 : W.cell? ⟨b, off + 1, none⟩ = some (.int .i64 x.ent)
  c2 : W.cell? ⟨b, off + 2, none⟩ = some (.int .i64 x.per)
  c3 : W.cell? ⟨b, off + 3, none⟩ = some (.slice x.adr x.lns.length x.cap)
theorem JeAt.below {W W' : World} {b off n : Nat} {x : Je} (h : JeAt W b off x) (hb : Below n W W') (hlt : b < n) : JeAt W' b off x :=
  ⟨(hb.cell (p := ⟨b, off, none⟩) hlt).trans h.c0, (hb.cell (p := ⟨b, off + 1, none⟩) hlt).trans h.c1, (hb.cell (p := ⟨b, off + 2, none⟩) hlt).trans h.c2, (hb.cell (p := ⟨b, off + 3, none⟩) hlt).trans h.c3⟩
/-- A slice of entries that is read. -/
structure IsJs (W : World) (a : Option Addr) (L : List Je) (cap : Nat) : Prop where
  cap : L.length ≤ cap
  lies : L = [] ∨ ∃ b off, a = some ⟨b, off, none⟩ ∧ b < W.heap.size ∧ ∀ k, k < L.length → JeAt W b (off + k * 4) (L.getD k je0)
  lns : ∀ x ∈ L, IsLn W x.adr x.lns x.cap
theorem IsJs.below {W W' : World} {a : Option Addr} {L : List Je} {cap : Nat} (h : IsJs W a L cap) (hb : Below W.heap.size W W') : IsJs W' a L cap := by
  refine ⟨h.cap, ?_, fun x hx => (h.lns x hx).below hb⟩
  rcases h.lies with h | ⟨b, off, e, hlt, hc⟩
  · exact .inl h
  · exact .inr ⟨b, off, e, by have := hb.size; omega, fun k hk => (hc k hk).below hb hlt⟩
theorem jes_take (l : List Je) (k : Nat) (h : k < l.length) : l.take (k + 1) = l.take k ++ [l.getD k je0] := by
  rw [List.take_add_one, List.getElem?_eq_getElem h, List.getD_eq_getElem?_getD, List.getElem?_eq_getElem h]
  rfl
theorem jes_drop (l : List Je) (k : Nat) (h : k < l.length) : l.drop k = l.getD k je0 :: l.drop (k + 1) := by
  rw [List.drop_eq_getElem_cons h, List.getD_eq_getElem?_getD, List.getElem?_eq_getElem h]
  rfl
theorem jes_mem (l : List Je) (k : Nat) (h : k < l.length) : l.getD k je0 ∈ l := by
  rw [List.getD_eq_getElem?_getD, List.getElem?_eq_getElem h]
  exact List.getElem_mem h

/-- The cells of entries, one behind the other. -/
def jeRow (l : List Je) : List Value := l.flatMap fun x => x.cells.toList
theorem jeRow_length : ∀ l : List Je, (jeRow l).length = l.length * 4
  | [] => rfl
  | x :: l => by
    have := jeRow_length l
    unfold jeRow at *
    simp only [List.flatMap_cons, List.length_append, Je.cells_length, this, List.length_cons]
    omega
theorem jeRow_append (l m : List Je) : jeRow (l ++ m) = jeRow l ++ jeRow m := by simp [jeRow]
theorem jeRow_one (x : Je) : jeRow [x] = x.cells.toList := by simp [jeRow]
theorem jeRow_get : ∀ (l : List Je) (k j : Nat), k < l.length → j < 4 → (jeRow l)[k * 4 + j]? = (l.getD k je0).cells.toList[j]?
  | [], _, _, h, _ => absurd h (by simp)
  | x :: l, 0, j, _, hj => by
    simp only [jeRow, List.flatMap_cons, Nat.zero_mul, Nat.zero_add, List.getD_cons_zero]
    rw [List.getElem?_append_left (by rw [Je.cells_length]; exact hj)]
  | x :: l, k + 1, j, h, hj => by
    have ih := jeRow_get l k j (by simpa using h) hj
    simp only [jeRow, List.flatMap_cons, List.getD_cons_succ] at ih ⊢
    rw [List.getElem?_append_right (by rw [Je.cells_length]; omega), Je.cells_length, ← ih]
    congr 1
    omega
theorem je_one (x : Je) : ∀ u ∈ x.cells.toList, u.oneCell' = true := by
  intro u hu
  simp [Je.cells] at hu
  rcases hu with rfl | rfl | rfl | rfl <;> rfl
/-- Entries in a row of one's own. -/
def JeRow (W : World) (n : Nat) (v : Value) (l : List Je) : Prop := W.ownsRow n 32 4 v l.length (jeRow l)
theorem JeRow.nil (w : World) (n : Nat) : JeRow w n (.slice none 0 0) [] := World.ownsRow_nil _ _ _ _
theorem JeRow.own {w : World} {n : Nat} {v : Value} {xs : List Je} (h : JeRow w n v xs) : ∀ j, v.ownBlock = some j → n ≤ j := fun j ej => by
  rcases h.2 with ⟨rfl, _⟩ | ⟨g, cp, cur, rfl, hg, _⟩
  · cases ej
  · cases ej; exact hg
theorem JeRow.lt {w : World} {n : Nat} {v : Value} {xs : List Je} (h : JeRow w n v xs) : ∀ j, v.ownBlock = some j → j < w.heap.size := fun j ej => by
  rcases h.2 with ⟨rfl, _⟩ | ⟨g, cp, cur, rfl, hg, hh, _⟩
  · cases ej
  · cases ej; exact (Array.getElem?_eq_some_iff.1 hh).1
theorem JeRow.of {w w' : World} {n : Nat} {v : Value} {l : List Je} (h : JeRow w n v l) (hb : ∀ j, v.ownBlock = some j → w'.heap[j]? = w.heap[j]?) : JeRow w' n v l := by
  rcases h.2 with ⟨hv, hn⟩ | ⟨g1, c1, cur, hv, hb1, hh, r⟩
  · exact ⟨h.1, .inl ⟨hv, hn⟩⟩
  · exact ⟨h.1, .inr ⟨g1, c1, cur, hv, hb1, (hb g1 (by rw [hv]; rfl)).trans hh, r⟩⟩
theorem JeRow.below {w w' : World} {n : Nat} {v : Value} {l : List Je} (h : JeRow w n v l) (hb : Below w.heap.size w w') : JeRow w' n v l := h.of fun j ej => hb.block j (h.lt j ej)
theorem JeRow.lies {W : World} {n : Nat} {v : Value} {l : List Je} (h : JeRow W n v l) :
    ∃ a cap, v = .slice a l.length cap ∧ l.length ≤ cap ∧ (l = [] ∨ ∃ b off, a = some ⟨b, off, none⟩ ∧ b < W.heap.size ∧ ∀ k, k < l.length → JeAt W b (off + k * 4) (l.getD k je0)) := by
  obtain ⟨hlen, ⟨rfl, h0⟩ | ⟨g, cap, cur, rfl, hb, hg, hc, hm, hs, ht⟩⟩ := h
  · have : l = [] := List.eq_nil_of_length_eq_zero h0
    subst this
    exact ⟨none, 0, rfl, Nat.le_refl _, .inl rfl⟩
  · refine ⟨_, cap, rfl, hc, .inr ⟨g, 0, rfl, (Array.getElem?_eq_some_iff.1 hg).1, ?_⟩⟩
    intro k hk
    have C : ∀ j, j < 4 → W.cell? ⟨g, 0 + k * 4 + j, none⟩ = (l.getD k je0).cells.toList[j]? := fun j hj => by
      have e1 : (jeRow l)[k * 4 + j]? = cur[k * 4 + j]? := by
        rw [← ht, List.getElem?_take, if_pos (by omega)]
        simp
      rw [← jeRow_get l k j hk hj, e1]
      simp [World.cell?, hg]
    exact ⟨C 0 (by omega), C 1 (by omega), C 2 (by omega), C 3 (by omega)⟩
theorem je_info : (Try.prog.info? 32).map (fun i => (i.zero, i.size, i.bytes)) = some (some (.agg #[.string ByteArray.empty, .int .i64 0, .int .i64 0, .slice none 0 0]), 4, 56) := by kernel_rfl

/-- An entry, wherever it lies. -/
structure Ep where
  ref : ByteArray
  ent : Int
  per : Int
  lns : List Ln
def Je.ep (x : Je) : Ep := ⟨x.ref, x.ent, x.per, x.lns⟩
/-- Entries that a call has made, with their lines. -/
structure Made (W : World) (n0 : Nat) (v : Value) (L : List Je) : Prop where
  row : JeRow W n0 v L
  lns : ∀ x ∈ L, LnRow W n0 (.slice x.adr x.lns.length x.cap) x.lns
theorem Made.nil (W : World) (n0 : Nat) : Made W n0 (.slice none 0 0) [] := ⟨JeRow.nil W n0, by simp⟩
theorem Made.below {W W' : World} {n0 : Nat} {v : Value} {L : List Je} (h : Made W n0 v L) (hb : Below W.heap.size W W') : Made W' n0 v L := ⟨h.row.below hb, fun x hx => (h.lns x hx).below hb⟩
theorem Made.isJs {W : World} {n0 : Nat} {v : Value} {L : List Je} (h : Made W n0 v L) : ∃ a cap, v = .slice a L.length cap ∧ IsJs W a L cap := by
  obtain ⟨a, cap, e, h1, h2⟩ := h.row.lies
  refine ⟨a, cap, e, h1, h2, fun x hx => ?_⟩
  obtain ⟨a', c', e', h'⟩ := (h.lns x hx).isLn
  cases e'
  exact h'
theorem made_typ {w : World} {n : Nat} {v : Value} {xs : List Je} (h : JeRow w n v xs) : ∀ j, v.ownBlock = some j → ∃ cs, w.heap[j]? = some (.cells cs 32 (0, 0)) := fun j ej => by
  rcases h.2 with ⟨rfl, _⟩ | ⟨g, cp, cur, rfl, hg, hh, _⟩
  · cases ej
  · cases ej; exact ⟨cur, hh⟩
theorem Made.add {W W1 : World} {n0 : Nat} {v v' : Value} {L : List Je} {x : Je} (h : Made W n0 v L) (hx : LnRow W n0 (.slice x.adr x.lns.length x.cap) x.lns) (ho : W1.ownsRow n0 32 4 v' (L.length + 1) (jeRow L ++ x.cells.toList)) (hg : W.grownBy W1 v.ownBlock) : Made W1 n0 v' (L ++ [x]) := by
  have keep : ∀ y : Je, LnRow W n0 (.slice y.adr y.lns.length y.cap) y.lns → LnRow W1 n0 (.slice y.adr y.lns.length y.cap) y.lns := fun y hy => by
    rcases hy.2 with ⟨hv, hn⟩ | ⟨g1, c1, cur, hv, hb1, hh, r⟩
    · exact ⟨hy.1, .inl ⟨hv, hn⟩⟩
    · refine ⟨hy.1, .inr ⟨g1, c1, cur, hv, hb1, (hg.block g1 (Array.getElem?_eq_some_iff.1 hh).1 fun e => ?_).trans hh, r⟩⟩
      obtain ⟨cs, h2⟩ := made_typ h.row g1 e.symm
      rw [hh] at h2
      cases h2
  refine ⟨?_, fun y hy => ?_⟩
  · unfold JeRow
    rw [jeRow_append, jeRow_one, List.length_append]
    exact ho
  · rcases List.mem_append.1 hy with hy | hy
    · exact keep y (h.lns y hy)
    · rw [List.mem_singleton] at hy
      subst hy
      exact keep _ hx

/-- What an entry says. -/
def Je.en (x : Je) : En := ⟨x.ref, x.ent, x.per, x.lns⟩
theorem ep_of_en {L M : List Je} (h : L.map Je.en = M.map Je.en) : L.map Je.ep = M.map Je.ep := by
  have := congrArg (List.map (fun e : En => (⟨e.ref, e.ent, e.per, e.lns⟩ : Ep))) h
  rw [List.map_map, List.map_map] at this
  exact this
theorem kj_info : (∃ i, Try.prog.info? 32 = some i ∧ i.zero = some (.agg #[.string ByteArray.empty, .int .i64 0, .int .i64 0, .slice none 0 0]) ∧ i.size = 4 ∧ i.bytes = 56) := by
  cases hq : Try.prog.info? 32 with
  | none => have := je_info; simp [hq] at this
  | some q =>
    have := je_info
    simp only [hq, Option.map_some, Option.some.injEq, Prod.mk.injEq] at this
    exact ⟨q, rfl, this⟩
end Go.Proofs.Ytijjegkkeigeoaa

namespace Go.Proofs.Ytijjegkkeigeoaa
set_option linter.unusedVariables false
set_option linter.unusedSimpArgs false
set_option maxRecDepth 100000
open Go.RowKit Go.Lib

/-- A box of two cells. -/
def WBox (W : World) (b : Nat) (v e : Value) : Prop := W.heap[b]? = some (.cells #[v, e] 112 (0, 0))
theorem WBox.c0 {W : World} {b : Nat} {v e : Value} (h : WBox W b v e) : W.cell? ⟨b, 0, none⟩ = some v := by unfold WBox at h; simp [World.cell?, h]
theorem WBox.c1 {W : World} {b : Nat} {v e : Value} (h : WBox W b v e) : W.cell? ⟨b, 1, none⟩ = some e := by unfold WBox at h; simp [World.cell?, h]
theorem WBox.fz {W : World} {b : Nat} {v e : Value} (h : WBox W b v e) (o : Nat) : W.frozen? ⟨b, o, none⟩ = false := by unfold WBox at h; simp [World.frozen?, h]
theorem WBox.lt {W : World} {b : Nat} {v e : Value} (h : WBox W b v e) : b < W.heap.size := (Array.getElem?_eq_some_iff.1 h).1
theorem WBox.below {W W' : World} {b n : Nat} {v e : Value} (h : WBox W b v e) (hb : Below n W W') (hn : b < n) : WBox W' b v e := (hb.block b hn).trans h
theorem WBox.new (W : World) (v e : Value) : WBox (W.alloc (.cells #[v, e] 112)) W.heap.size v e := new_heap W _
theorem WBox.alloc {W : World} {b : Nat} {v e : Value} (h : WBox W b v e) (o : Obj) : WBox (W.alloc o) b v e := ((World.grownBy_alloc W o none).block b h.lt (by simp)).trans h
theorem WBox.grow {W W' : World} {b : Nat} {row : Option Nat} {v e : Value} (h : WBox W b v e) (hg : W.grownBy W' row) (hr : ∀ j, row = some j → b < j) : WBox W' b v e :=
  (hg.block b h.lt (fun e => by have := hr b e.symm; omega)).trans h
theorem WBox.set0 {W : World} {b : Nat} {v e : Value} (h : WBox W b v e) (v' : Value) : WBox (W.setCell ⟨b, 0, none⟩ v') b v' e := by
  unfold WBox at *
  rw [setCell_eq_setRow W b 0 _ 112 (0, 0) _ h, setRow_heap W b _ _ 112 (0, 0) h]
  rfl
theorem WBox.set1 {W : World} {b : Nat} {v e : Value} (h : WBox W b v e) (e' : Value) : WBox (W.setCell ⟨b, 1, none⟩ e') b v e' := by
  unfold WBox at *
  rw [setCell_eq_setRow W b 1 _ 112 (0, 0) _ h, setRow_heap W b _ _ 112 (0, 0) h]
  rfl

/-- A writer: what it has written, and what is wrong. -/
def WrAt (W : World) (b : Nat) (bs : List UInt8) (err : Int) : Prop := ∃ v, WBox W b v (enE err) ∧ ByRow W (b + 1) v bs


set_option maxHeartbeats 2000000 in
theorem wnumber_any (b : Nat) (bs : List UInt8) (err n : Int) (w : World) (h1 : -9223372036854775808 ≤ n) (h2 : n ≤ 9223372036854775807) (hl : bs.length ≤ 1099511627776) (h : WrAt w b bs err) :
    Calls Try.prog 59 #[.pointer (some ⟨b, 0, none⟩), .int .i64 n] w fun e w' => e = .returned (.tuple #[]) ∧ WrAt w' b (bs ++ numB n) err ∧ Below b w w' := by
  have hz := zig_lt h1 h2
  have hlen := numB_length h1 h2
  have Hall : Hid ((bs ++ numB n).length ≤ 1099511627786) := by unfold Hid; rw [List.length_append]; omega
  obtain ⟨all, hall⟩ : ∃ all, bs ++ numB n = all := ⟨_, rfl⟩
  have Hstart : Hid (bs ++ encU (zig n) = all) := hall
  rw [hall] at Hall ⊢
  have Hw : Hid (WrAt w b bs err) := h
  clear hall hlen hl h
  obtain ⟨i0, hi, hz0, hz1, hz2⟩ := info_parts by_info
  by_cases hn : n < 0
  · have ez : ((zig n : Nat) : Int) = -2 * n - 1 := by unfold zig; rw [if_pos hn]; omega
    generalize zig n = u at *
    have hw1 : IntKind.u64.wrap (IntKind.u64.wrap (-IntKind.u64.wrap (2 * IntKind.u64.wrap n)) - 1) = u := by
      simp only [IntKind.wrap, IntKind.bits, IntKind.signed]
      simp
      omega
    clear ez
    go_enter Try.func59, Try.ntmps59
    go_wp2
    go_loopw [4] (fun i wr => ∃ k : Nat, k < 18446744073709551616 ∧ i = .int .u64 k ∧ (∃ bs', Hid (bs' ++ encU k = all) ∧ Hid (WrAt wr b bs' err)) ∧ Below b w wr) (fun i _ => (RowKit.intOf i).toNat)
    case atStart => exact ⟨u, hz, rfl, ⟨bs, Hstart, Hw⟩, Below.refl _ _⟩
    case round =>
      obtain ⟨k, hk, rfl, ⟨bs', E, R⟩, BW⟩ := hrel
      obtain ⟨v, x, r⟩ := R.out
      have hxlt := x.lt
      have c0 := x.c0
      have hk' : (k : Int) < 18446744073709551616 := by omega
      have hblen : bs'.length + 1 ≤ 1099511627786 := by
        have := Hall.out
        rw [← E.out, List.length_append] at this
        have := encU_pos k
        omega
      have Hm1 : Hid (bs'.length + 1 ≤ maxLen) := by unfold Hid maxLen; omega
      have Hm2 : Hid ((bs'.length + 1) * 1 ≤ 140737488355328) := by unfold Hid; omega
      have hoj := r.own
      by_cases hlt : 128 ≤ k
      · have hlt' : (128 : Int) ≤ k := by omega
        have hX : (k : Int) % 128 + 128 = ((UInt8.ofNat (k % 128 + 128)).toNat : Int) := by simp; omega
        have Hx : Hid (WBox wr b v (enE err)) := x
        have Hr : Hid (ByRow wr (b + 1) v bs') := r
        have HX : Hid (_ = _) := hX
        clear R x r hX hblen
        go_wp2_with (at_builtin; refine wpList_append_own _ rfl _ _ 52 rfl (b + 1) 5 i0 (.int .u8 0) 1 1 Try.underlying52 hi hz0 hz1 hz2 rfl (by decide) _ _ _ rfl (World.ownsRow.alloc Hr.out _) ⟨wr.heap.size, 0, none⟩ 1 1 [.int .u8 ((k : Int) % 128 + 128)] rfl rfl (cell_one_new _ _ _) (by simp [Value.oneCell']) Hm1.out Hm2.out (by simp; omega) ?_)
        intro v' w3 hown hgrow _
        have x3 := (Hx.out.alloc (.cells #[.int .u8 ((k : Int) % 128 + 128)] 5)).grow hgrow (fun j e => by have := hoj j e; omega)
        have B3 : Below b w w3 := (BW.alloc (by omega) (.cells #[.int .u8 ((k : Int) % 128 + 128)] 5)).grown hgrow (by simp; omega) (fun j e => by have := hoj j e; omega)
        have d0 := x3.c0
        have f0 := x3.fz 0
        have x4 := x3.set0 v'
        have B4 := B3.setCell (p := ⟨b, 0, none⟩) (Nat.le_refl b) v'
        have R4 : ByRow (w3.setCell ⟨b, 0, none⟩ v') (b + 1) v' (bs' ++ [UInt8.ofNat (k % 128 + 128)]) := by
          refine ByRow.setOther ?_ (Nat.lt_succ_self b)
          unfold ByRow
          rw [byC_append, List.length_append]
          have e1 : byC [UInt8.ofNat (k % 128 + 128)] = [.int .u8 ((k : Int) % 128 + 128)] := by rw [HX.out]; rfl
          rw [e1]
          exact hown
        have E4 : (bs' ++ [UInt8.ofNat (k % 128 + 128)]) ++ encU (k / 128) = all := by
          rw [← E.out, encU_ge hlt]; simp
        have HE4 : Hid (_ = all) := E4
        have HW4 : Hid (WrAt (w3.setCell ⟨b, 0, none⟩ v') b (bs' ++ [UInt8.ofNat (k % 128 + 128)]) err) := ⟨v', x4, R4⟩
        obtain ⟨a4, c4, e4, _⟩ := R4.isBy
        subst e4
        generalize (bs' ++ [UInt8.ofNat (k % 128 + 128)]).length = m4 at *
        clear hown hgrow Hx Hr E E4 R4 x4 x3 B3 HX
        go_wp2
        go_roundw
        case rel => exact ⟨k / 128, by omega, by go_num, ⟨_, HE4, HW4⟩, B4⟩
        case measure => simp [RowKit.intOf]; omega
      · have hlt' : ¬ (128 : Int) ≤ k := by omega
        have hX : (k : Int) = ((UInt8.ofNat k).toNat : Int) := by simp; omega
        have Hx : Hid (WBox wr b v (enE err)) := x
        have Hr : Hid (ByRow wr (b + 1) v bs') := r
        have HX : Hid (_ = _) := hX
        clear R x r hX hblen
        go_wp2_with (at_builtin; refine wpList_append_own _ rfl _ _ 52 rfl (b + 1) 5 i0 (.int .u8 0) 1 1 Try.underlying52 hi hz0 hz1 hz2 rfl (by decide) _ _ _ rfl (World.ownsRow.alloc Hr.out _) ⟨wr.heap.size, 0, none⟩ 1 1 [.int .u8 (k : Int)] rfl rfl (cell_one_new _ _ _) (by simp [Value.oneCell']) Hm1.out Hm2.out (by simp; omega) ?_)
        intro v' w3 hown hgrow _
        have x3 := (Hx.out.alloc (.cells #[.int .u8 (k : Int)] 5)).grow hgrow (fun j e => by have := hoj j e; omega)
        have B3 : Below b w w3 := (BW.alloc (by omega) (.cells #[.int .u8 (k : Int)] 5)).grown hgrow (by simp; omega) (fun j e => by have := hoj j e; omega)
        have d0 := x3.c0
        have f0 := x3.fz 0
        have x4 := x3.set0 v'
        have B4 := B3.setCell (p := ⟨b, 0, none⟩) (Nat.le_refl b) v'
        have R4 : ByRow (w3.setCell ⟨b, 0, none⟩ v') (b + 1) v' all := by
          refine ByRow.setOther ?_ (Nat.lt_succ_self b)
          rw [← E.out, encU_lt (by omega)]
          unfold ByRow
          rw [byC_append, List.length_append]
          have e1 : byC [UInt8.ofNat k] = [.int .u8 (k : Int)] := by rw [HX.out]; rfl
          rw [e1]
          exact hown
        have HW4 : Hid (WrAt (w3.setCell ⟨b, 0, none⟩ v') b all err) := ⟨v', x4, R4⟩
        obtain ⟨a4, c4, e4, _⟩ := R4.isBy
        subst e4
        generalize all.length = m4 at *
        clear hown hgrow Hx Hr E R4 x4 x3 B3 HX
        go_wp2
        go_end0
        exact ⟨rfl, HW4.out, B4⟩
  · have ez : ((zig n : Nat) : Int) = 2 * n := by unfold zig; rw [if_neg hn]; omega
    generalize zig n = u at *
    have ez2 : 2 * n = (u : Int) := ez.symm
    clear ez
    go_enter Try.func59, Try.ntmps59
    go_wp2
    go_loopw [4] (fun i wr => ∃ k : Nat, k < 18446744073709551616 ∧ i = .int .u64 k ∧ (∃ bs', Hid (bs' ++ encU k = all) ∧ Hid (WrAt wr b bs' err)) ∧ Below b w wr) (fun i _ => (RowKit.intOf i).toNat)
    case atStart => exact ⟨u, hz, rfl, ⟨bs, Hstart, Hw⟩, Below.refl _ _⟩
    case round =>
      obtain ⟨k, hk, rfl, ⟨bs', E, R⟩, BW⟩ := hrel
      obtain ⟨v, x, r⟩ := R.out
      have hxlt := x.lt
      have c0 := x.c0
      have hk' : (k : Int) < 18446744073709551616 := by omega
      have hblen : bs'.length + 1 ≤ 1099511627786 := by
        have := Hall.out
        rw [← E.out, List.length_append] at this
        have := encU_pos k
        omega
      have Hm1 : Hid (bs'.length + 1 ≤ maxLen) := by unfold Hid maxLen; omega
      have Hm2 : Hid ((bs'.length + 1) * 1 ≤ 140737488355328) := by unfold Hid; omega
      have hoj := r.own
      by_cases hlt : 128 ≤ k
      · have hlt' : (128 : Int) ≤ k := by omega
        have hX : (k : Int) % 128 + 128 = ((UInt8.ofNat (k % 128 + 128)).toNat : Int) := by simp; omega
        have Hx : Hid (WBox wr b v (enE err)) := x
        have Hr : Hid (ByRow wr (b + 1) v bs') := r
        have HX : Hid (_ = _) := hX
        clear R x r hX hblen
        go_wp2_with (at_builtin; refine wpList_append_own _ rfl _ _ 52 rfl (b + 1) 5 i0 (.int .u8 0) 1 1 Try.underlying52 hi hz0 hz1 hz2 rfl (by decide) _ _ _ rfl (World.ownsRow.alloc Hr.out _) ⟨wr.heap.size, 0, none⟩ 1 1 [.int .u8 ((k : Int) % 128 + 128)] rfl rfl (cell_one_new _ _ _) (by simp [Value.oneCell']) Hm1.out Hm2.out (by simp; omega) ?_)
        intro v' w3 hown hgrow _
        have x3 := (Hx.out.alloc (.cells #[.int .u8 ((k : Int) % 128 + 128)] 5)).grow hgrow (fun j e => by have := hoj j e; omega)
        have B3 : Below b w w3 := (BW.alloc (by omega) (.cells #[.int .u8 ((k : Int) % 128 + 128)] 5)).grown hgrow (by simp; omega) (fun j e => by have := hoj j e; omega)
        have d0 := x3.c0
        have f0 := x3.fz 0
        have x4 := x3.set0 v'
        have B4 := B3.setCell (p := ⟨b, 0, none⟩) (Nat.le_refl b) v'
        have R4 : ByRow (w3.setCell ⟨b, 0, none⟩ v') (b + 1) v' (bs' ++ [UInt8.ofNat (k % 128 + 128)]) := by
          refine ByRow.setOther ?_ (Nat.lt_succ_self b)
          unfold ByRow
          rw [byC_append, List.length_append]
          have e1 : byC [UInt8.ofNat (k % 128 + 128)] = [.int .u8 ((k : Int) % 128 + 128)] := by rw [HX.out]; rfl
          rw [e1]
          exact hown
        have E4 : (bs' ++ [UInt8.ofNat (k % 128 + 128)]) ++ encU (k / 128) = all := by
          rw [← E.out, encU_ge hlt]; simp
        have HE4 : Hid (_ = all) := E4
        have HW4 : Hid (WrAt (w3.setCell ⟨b, 0, none⟩ v') b (bs' ++ [UInt8.ofNat (k % 128 + 128)]) err) := ⟨v', x4, R4⟩
        obtain ⟨a4, c4, e4, _⟩ := R4.isBy
        subst e4
        generalize (bs' ++ [UInt8.ofNat (k % 128 + 128)]).length = m4 at *
        clear hown hgrow Hx Hr E E4 R4 x4 x3 B3 HX
        go_wp2
        go_roundw
        case rel => exact ⟨k / 128, by omega, by go_num, ⟨_, HE4, HW4⟩, B4⟩
        case measure => simp [RowKit.intOf]; omega
      · have hlt' : ¬ (128 : Int) ≤ k := by omega
        have hX : (k : Int) = ((UInt8.ofNat k).toNat : Int) := by simp; omega
        have Hx : Hid (WBox wr b v (enE err)) := x
        have Hr : Hid (ByRow wr (b + 1) v bs') := r
        have HX : Hid (_ = _) := hX
        clear R x r hX hblen
        go_wp2_with (at_builtin; refine wpList_append_own _ rfl _ _ 52 rfl (b + 1) 5 i0 (.int .u8 0) 1 1 Try.underlying52 hi hz0 hz1 hz2 rfl (by decide) _ _ _ rfl (World.ownsRow.alloc Hr.out _) ⟨wr.heap.size, 0, none⟩ 1 1 [.int .u8 (k : Int)] rfl rfl (cell_one_new _ _ _) (by simp [Value.oneCell']) Hm1.out Hm2.out (by simp; omega) ?_)
        intro v' w3 hown hgrow _
        have x3 := (Hx.out.alloc (.cells #[.int .u8 (k : Int)] 5)).grow hgrow (fun j e => by have := hoj j e; omega)
        have B3 : Below b w w3 := (BW.alloc (by omega) (.cells #[.int .u8 (k : Int)] 5)).grown hgrow (by simp; omega) (fun j e => by have := hoj j e; omega)
        have d0 := x3.c0
        have f0 := x3.fz 0
        have x4 := x3.set0 v'
        have B4 := B3.setCell (p := ⟨b, 0, none⟩) (Nat.le_refl b) v'
        have R4 : ByRow (w3.setCell ⟨b, 0, none⟩ v') (b + 1) v' all := by
          refine ByRow.setOther ?_ (Nat.lt_succ_self b)
          rw [← E.out, encU_lt (by omega)]
          unfold ByRow
          rw [byC_append, List.length_append]
          have e1 : byC [UInt8.ofNat k] = [.int .u8 (k : Int)] := by rw [HX.out]; rfl
          rw [e1]
          exact hown
        have HW4 : Hid (WrAt (w3.setCell ⟨b, 0, none⟩ v') b all err) := ⟨v', x4, R4⟩
        obtain ⟨a4, c4, e4, _⟩ := R4.isBy
        subst e4
        generalize all.length = m4 at *
        clear hown hgrow Hx Hr E R4 x4 x3 B3 HX
        go_wp2
        go_end0
        exact ⟨rfl, HW4.out, B4⟩
end Go.Proofs.Ytijjegkkeigeoaa
