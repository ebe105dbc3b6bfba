/-
  Lines, entries and balances in memory.
-/
import Derived.Test.YtfkafjffjeipaaaGreatDoorProg
import Derived.WalkKit
import Derived.WalkSpells
import Derived.Lib.OthersKept
import Derived.Lib.TrimU
import Derived.Deep.LoopGhost
import Derived.Conc.MuLone
import Derived.Shelf.Abstract
import Derived.Deep.QuietTactic
import Derived.BigQuiet
import Derived.Maps.AppendAt
import Derived.MapKept
import Derived.Deep.AppendLies
import Derived.Laws.NewBlocks
import Derived.Laws.StructEq
import Derived.Laws.Cover1
import Derived.Deep.RegionWith
import Derived.Deep.RegionHeld3
import Derived.BigRegion
namespace Go.Proofs.YtfkafjffjeipaaaGreatDoor
set_option linter.unusedVariables false
set_option linter.unusedSimpArgs false
set_option maxRecDepth 100000
open Go.RowKit Go.Lib
theorem bl_self : ∀ a : List UInt8, Op.bytesLess a a = false
  | [] => rfl
  | x :: a => by
    have := bl_self a
    simp [Op.bytesLess, this]

theorem bl_total : ∀ a b : List UInt8, Op.bytesLess a b = false → a ≠ b → Op.bytesLess b a = true
  | [], [], _, h => absurd rfl h
  | [], _ :: _, h, _ => by simp [Op.bytesLess] at h
  | _ :: _, [], _, _ => by simp [Op.bytesLess]
  | x :: a, y :: b, h, hne => by
    simp only [Op.bytesLess, Bool.or_eq_false_iff, decide_eq_false_iff_not, Bool.and_eq_false_iff, beq_eq_false_iff_ne] at h
    obtain ⟨h1, h2⟩ := h
    by_cases e : x = y
    · subst e
      have := bl_total a b (by simpa using h2) (fun e => hne (by rw [e]))
      simp [Op.bytesLess, this]
    · have : y < x := by
        rw [UInt8.lt_iff_toNat_lt] at h1 ⊢
        have : x.toNat ≠ y.toNat := fun h => e (UInt8.toNat_inj.1 h)
        omega
      simp [Op.bytesLess, this]

theorem bl_trans : ∀ a b c : List UInt8, Op.bytesLess a b = true → Op.bytesLess b c = true → Op.bytesLess a c = true
  | _, [], _, h, _ => by cases ‹List UInt8› <;> simp [Op.bytesLess] at h
  | _, _ :: _, [], _, h => by simp [Op.bytesLess] at h
  | [], _ :: _, _ :: _, _, _ => by simp [Op.bytesLess]
  | x :: a, y :: b, z :: c, h1, h2 => by
    simp only [Op.bytesLess, Bool.or_eq_true, decide_eq_true_eq, Bool.and_eq_true, beq_iff_eq] at h1 h2 ⊢
    simp only [UInt8.lt_iff_toNat_lt] at h1 h2 ⊢
    rcases h1 with h1 | ⟨rfl, h1⟩
    · rcases h2 with h2 | ⟨rfl, h2⟩
      · exact .inl (by omega)
      · exact .inl h1
    · rcases h2 with h2 | ⟨rfl, h2⟩
      · exact .inl h2
      · exact .inr ⟨rfl, bl_trans a b c h1 h2⟩

/-- A line. -/
structure Ln where
  acc : ByteArray
  cur : ByteArray
  amt : Int
def Ln.cells (x : Ln) : Array Value := #[.string x.acc, .string x.cur, .int .i64 x.amt]
/-- A line of nothing. -/
def ln0 : Ln := ⟨ByteArray.empty, ByteArray.empty, 0⟩

theorem toList_inj {a b : ByteArray} (h : a.toList = b.toList) : a = b := by
  rw [Lib.toList_data, Lib.toList_data] at h
  exact WideShapes.bytes_inj h

theorem en_ne {a b : ByteArray} (h : a ≠ b) : (a.toList == b.toList) = false := by
  rw [beq_eq_false_iff_ne]
  exact fun e => h (toList_inj e)
theorem en_empty {a : ByteArray} (h : a.size = 0) : a.toList = [] := by
  rw [Lib.toList_data]
  exact List.eq_nil_of_length_eq_zero h
theorem en_some {a : ByteArray} (h : a.size ≠ 0) : ¬ a.toList = [] := by
  rw [Lib.toList_data]
  exact fun e => h (congrArg List.length e)
theorem en_drewN {B : Nat} {a w : World} (h : Below B a w) (n : Nat) : Below B a (w.drewN n) := h.trans ⟨rfl, rfl, rfl, Nat.le_refl _, fun _ _ => rfl⟩
theorem en_enters {f : FuncId} {fn : Func} (hf : Tryz.prog.funcs[f]? = some fn) (hn : (fn.name == "runtime.NumGoroutine") = false) (hb : ∃ c, fn.body = some c) (args : Array Value) (w : World) : (callFunc f args).run Tryz.prog w = .ok (.enter f args) w := by
  obtain ⟨c, hc⟩ := hb
  exact MuLone.run_callFunc_enter hf hn hc args w

/-- An error by its number. -/
def enE (n : Int) : Value := if n = 0 then .nilIface else .iface 43 (.int .i64 n)
theorem enE_zero : enE 0 = .nilIface := rfl
theorem enE_ne {n : Int} (h : n ≠ 0) : enE n = .iface 43 (.int .i64 n) := if_neg h

structure LnAt (w : World) (b off : Nat) (x : Ln) : Prop where
  c0 : w.cell? ⟨b, off, none⟩ = some (.string x.acc)
  c1 : w.cell? ⟨b, off + 1, none⟩ = some (.string x.cur)
  c2 : w.cell? ⟨b, off + 2, none⟩ = some (.int .i64 x.amt)

theorem LnAt.below {w w' : World} {b off n : Nat} {a : Ln} (h : LnAt w b off a) (hb : Below n w w') (hn : b < n) : LnAt w' b off a :=
  ⟨(hb.cell (p := ⟨b, off, none⟩) hn).trans h.c0, (hb.cell (p := ⟨b, off + 1, none⟩) hn).trans h.c1, (hb.cell (p := ⟨b, off + 2, none⟩) hn).trans h.c2⟩
theorem LnAt.new (w : World) (a : Ln) (t : TypeId) : LnAt (w.alloc (.cells a.cells t)) w.heap.size 0 a :=
  ⟨by simp [Ln.cells], by simp [Ln.cells], by simp [Ln.cells]⟩

/-- Lines in memory. -/
def LnsAt (w : World) (b off : Nat) (l : List Ln) : Prop := ∀ k, k < l.length → LnAt w b (off + k * 3) (l.getD k ln0)

/-- A slice of lines. -/
structure IsLn (w : World) (a : Option Addr) (l : List Ln) (cap : Nat) : Prop where
  cap : l.length ≤ cap
  lies : l = [] ∨ ∃ b off, a = some ⟨b, off, none⟩ ∧ b < w.heap.size ∧ LnsAt w b off l

theorem IsLn.below {w w' : World} {a : Option Addr} {l : List Ln} {cap : Nat} (h : IsLn w a l cap) (hb : Below w.heap.size w w') : IsLn w' a l cap := by
  refine ⟨h.cap, ?_⟩
  rcases h.lies with h | ⟨b, off, e, hlt, hc⟩
  · exact .inl h
  · exact .inr ⟨b, off, e, by have := hb.size; omega, fun k hk => (hc k hk).below hb hlt⟩

theorem lns_drop (l : List Ln) (k : Nat) (h : k < l.length) : l.drop k = l.getD k ln0 :: l.drop (k + 1) := by
  rw [List.drop_eq_getElem_cons h, List.getD_eq_getElem?_getD, List.getElem?_eq_getElem h]
  rfl
theorem lns_take (l : List Ln) (k : Nat) (h : k < l.length) : l.take (k + 1) = l.take k ++ [l.getD k ln0] := by
  rw [List.take_add_one, List.getElem?_eq_getElem h, List.getD_eq_getElem?_getD, List.getElem?_eq_getElem h]
  rfl
theorem lns_mem (l : List Ln) (k : Nat) (h : k < l.length) : l.getD k ln0 ∈ l := by
  rw [List.getD_eq_getElem?_getD, List.getElem?_eq_getElem h]
  exact List.getElem_mem h

/-- The cells of lines, one behind the other. -/
def lnRow (l : List Ln) : List Value := l.flatMap fun x => x.cells.toList
theorem Ln.cells_length (x : Ln) : x.cells.toList.length = 3 := rfl
theorem lnRow_length : ∀ l : List Ln, (lnRow l).length = l.length * 3
  | [] => rfl
  | x :: l => by
    have := lnRow_length l
    unfold lnRow at *
    simp only [List.flatMap_cons, List.length_append, Ln.cells_length, this, List.length_cons]
    omega
theorem lnRow_append (l m : List Ln) : lnRow (l ++ m) = lnRow l ++ lnRow m := by simp [lnRow]
theorem lnRow_one (x : Ln) : lnRow [x] = x.cells.toList := by simp [lnRow]
theorem lnRow_get : ∀ (l : List Ln) (k j : Nat), k < l.length → j < 3 → (lnRow l)[k * 3 + j]? = (l.getD k ln0).cells.toList[j]?
  | [], _, _, h, _ => absurd h (by simp)
  | x :: l, 0, j, _, hj => by
    simp only [lnRow, List.flatMap_cons, Nat.zero_mul, Nat.zero_add, List.getD_cons_zero]
    rw [List.getElem?_append_left (by rw [Ln.cells_length]; exact hj)]
  | x :: l, k + 1, j, h, hj => by
    have ih := lnRow_get l k j (by simpa using h) hj
    simp only [lnRow, List.flatMap_cons, List.getD_cons_succ] at ih ⊢
    rw [List.getElem?_append_right (by rw [Ln.cells_length]; omega), Ln.cells_length, ← ih]
    congr 1
    omega
theorem lnRow_one_cell (l : List Ln) : ∀ u ∈ lnRow l, u.oneCell' = true := by
  intro u hu
  simp only [lnRow, List.mem_flatMap] at hu
  obtain ⟨x, _, hx⟩ := hu
  simp [Ln.cells] at hx
  rcases hx with rfl | rfl | rfl <;> rfl
theorem lnRow_take (l : List Ln) (k : Nat) : lnRow (l.take k) = (lnRow l).take (k * 3) := by
  have h := lnRow_append (l.take k) (l.drop k)
  rw [List.take_append_drop] at h
  rw [h]
  by_cases hk : k ≤ l.length
  · have : (lnRow (l.take k)).length = k * 3 := by rw [lnRow_length, List.length_take, Nat.min_eq_left hk]
    rw [← this, List.take_left]
  · rw [List.take_of_length_le (by omega), List.drop_eq_nil_of_le (by omega)]
    rw [List.take_of_length_le]
    · show lnRow l = lnRow l ++ []
      simp
    · show (lnRow l ++ []).length ≤ _
      rw [List.append_nil, lnRow_length]
      omega
theorem lnRow_drop (l : List Ln) (k : Nat) : lnRow (l.drop k) = (lnRow l).drop (k * 3) := by
  have h := lnRow_append (l.take k) (l.drop k)
  rw [List.take_append_drop] at h
  have h2 := lnRow_take l k
  have h3 : lnRow l = (lnRow l).take (k * 3) ++ (lnRow l).drop (k * 3) := (List.take_append_drop _ _).symm
  rw [← h2] at h3
  rw [h] at h3
  have := List.append_cancel_left h3
  rw [this]
  rw [h]

/-- Two texts held against each other. -/
def cmpS (a b : ByteArray) : Int := if Op.bytesLess a.toList b.toList = true then -1 else if (a.toList == b.toList) = true then 0 else 1
theorem cmpS_zero {a b : ByteArray} : cmpS a b = 0 ↔ (a.toList == b.toList) = true := by
  unfold cmpS
  split
  · rename_i h
    refine ⟨fun h => by omega, fun e => ?_⟩
    rw [beq_iff_eq] at e
    rw [e, bl_self] at h
    cases h
  · split
    · simp_all
    · simp_all
theorem cmpS_neg {a b : ByteArray} : cmpS a b < 0 ↔ Op.bytesLess a.toList b.toList = true := by
  unfold cmpS
  split
  · simp_all
  · split
    · simp_all
    · simp_all
theorem cmpS_range (a b : ByteArray) : cmpS a b = -1 ∨ cmpS a b = 0 ∨ cmpS a b = 1 := by
  unfold cmpS
  split
  · simp
  · split <;> simp

/-- A balance. -/
structure Bl where
  ent : Int
  acc : ByteArray
  cur : ByteArray
  amt : Int
def Bl.cells (x : Bl) : Array Value := #[.int .i64 x.ent, .string x.acc, .string x.cur, .int .i64 x.amt]
def bl0 : Bl := ⟨0, ByteArray.empty, ByteArray.empty, 0⟩
/-- Two numbers held against each other. -/
def cmpI (a b : Int) : Int := if a < b then -1 else if b < a then 1 else 0
/-- Two balances held against each other. -/
def cmpB (a b : Bl) : Int := if cmpI a.ent b.ent ≠ 0 then cmpI a.ent b.ent else if cmpS a.acc b.acc ≠ 0 then cmpS a.acc b.acc else cmpS a.cur b.cur
structure BlAt (w : World) (b off : Nat) (x : Bl) : Prop where
  c0 : w.cell? ⟨b, off, none⟩ = some (.int .i64 x.ent)
  c1 : w.cell? ⟨b, off + 1, none⟩ = some (.string x.acc)
  c2 : w.cell? ⟨b, off + 2, none⟩ = some (.string x.cur)
  c3 : w.cell? ⟨b, off + 3, none⟩ = some (.int .i64 x.amt)

theorem BlAt.below {w w' : World} {b off n : Nat} {a : Bl} (h : BlAt w b off a) (hb : Below n w w') (hn : b < n) : BlAt w' b off a :=
  ⟨(hb.cell (p := ⟨b, off, none⟩) hn).trans h.c0, (hb.cell (p := ⟨b, off + 1, none⟩) hn).trans h.c1, (hb.cell (p := ⟨b, off + 2, none⟩) hn).trans h.c2, (hb.cell (p := ⟨b, off + 3, none⟩) hn).trans h.c3⟩
theorem BlAt.new (w : World) (a : Bl) (t : TypeId) : BlAt (w.alloc (.cells a.cells t)) w.heap.size 0 a :=
  ⟨by simp [Bl.cells], by simp [Bl.cells], by simp [Bl.cells], by simp [Bl.cells]⟩

/-- Balances in memory. -/
def BlsAt (w : World) (b off : Nat) (l : List Bl) : Prop := ∀ k, k < l.length → BlAt w b (off + k * 4) (l.getD k bl0)

/-- A slice of balances. -/
structure IsBl (w : World) (a : Option Addr) (l : List Bl) (cap : Nat) : Prop where
  cap : l.length ≤ cap
  lies : l = [] ∨ ∃ b off, a = some ⟨b, off, none⟩ ∧ b < w.heap.size ∧ BlsAt w b off l

theorem IsBl.below {w w' : World} {a : Option Addr} {l : List Bl} {cap : Nat} (h : IsBl w a l cap) (hb : Below w.heap.size w w') : IsBl w' a l cap := by
  refine ⟨h.cap, ?_⟩
  rcases h.lies with h | ⟨b, off, e, hlt, hc⟩
  · exact .inl h
  · exact .inr ⟨b, off, e, by have := hb.size; omega, fun k hk => (hc k hk).below hb hlt⟩

theorem bls_drop (l : List Bl) (k : Nat) (h : k < l.length) : l.drop k = l.getD k bl0 :: l.drop (k + 1) := by
  rw [List.drop_eq_getElem_cons h, List.getD_eq_getElem?_getD, List.getElem?_eq_getElem h]
  rfl
theorem bls_take (l : List Bl) (k : Nat) (h : k < l.length) : l.take (k + 1) = l.take k ++ [l.getD k bl0] := by
  rw [List.take_add_one, List.getElem?_eq_getElem h, List.getD_eq_getElem?_getD, List.getElem?_eq_getElem h]
  rfl
theorem bls_mem (l : List Bl) (k : Nat) (h : k < l.length) : l.getD k bl0 ∈ l := by
  rw [List.getD_eq_getElem?_getD, List.getElem?_eq_getElem h]
  exact List.getElem_mem h

/-- The cells of balances, one behind the other. -/
def blRow (l : List Bl) : List Value := l.flatMap fun x => x.cells.toList
theorem Bl.cells_length (x : Bl) : x.cells.toList.length = 4 := rfl
theorem blRow_length : ∀ l : List Bl, (blRow l).length = l.length * 4
  | [] => rfl
  | x :: l => by
    have := blRow_length l
    unfold blRow at *
    simp only [List.flatMap_cons, List.length_append, Bl.cells_length, this, List.length_cons]
    omega
theorem blRow_append (l m : List Bl) : blRow (l ++ m) = blRow l ++ blRow m := by simp [blRow]
theorem blRow_one (x : Bl) : blRow [x] = x.cells.toList := by simp [blRow]
theorem blRow_get : ∀ (l : List Bl) (k j : Nat), k < l.length → j < 4 → (blRow l)[k * 4 + j]? = (l.getD k bl0).cells.toList[j]?
  | [], _, _, h, _ => absurd h (by simp)
  | x :: l, 0, j, _, hj => by
    simp only [blRow, List.flatMap_cons, Nat.zero_mul, Nat.zero_add, List.getD_cons_zero]
    rw [List.getElem?_append_left (by rw [Bl.cells_length]; exact hj)]
  | x :: l, k + 1, j, h, hj => by
    have ih := blRow_get l k j (by simpa using h) hj
    simp only [blRow, List.flatMap_cons, List.getD_cons_succ] at ih ⊢
    rw [List.getElem?_append_right (by rw [Bl.cells_length]; omega), Bl.cells_length, ← ih]
    congr 1
    omega
theorem blRow_one_cell (l : List Bl) : ∀ u ∈ blRow l, u.oneCell' = true := by
  intro u hu
  simp only [blRow, List.mem_flatMap] at hu
  obtain ⟨x, _, hx⟩ := hu
  simp [Bl.cells] at hx
  rcases hx with rfl | rfl | rfl | rfl <;> rfl
theorem blRow_take (l : List Bl) (k : Nat) : blRow (l.take k) = (blRow l).take (k * 4) := by
  have h := blRow_append (l.take k) (l.drop k)
  rw [List.take_append_drop] at h
  rw [h]
  by_cases hk : k ≤ l.length
  · have : (blRow (l.take k)).length = k * 4 := by rw [blRow_length, List.length_take, Nat.min_eq_left hk]
    rw [← this, List.take_left]
  · rw [List.take_of_length_le (by omega), List.drop_eq_nil_of_le (by omega)]
    rw [List.take_of_length_le]
    · show blRow l = blRow l ++ []
      simp
    · show (blRow l ++ []).length ≤ _
      rw [List.append_nil, blRow_length]
      omega
theorem blRow_drop (l : List Bl) (k : Nat) : blRow (l.drop k) = (blRow l).drop (k * 4) := by
  have h := blRow_append (l.take k) (l.drop k)
  rw [List.take_append_drop] at h
  have h2 := blRow_take l k
  have h3 : blRow l = (blRow l).take (k * 4) ++ (blRow l).drop (k * 4) := (List.take_append_drop _ _).symm
  rw [← h2] at h3
  rw [h] at h3
  have := List.append_cancel_left h3
  rw [this]
  rw [h]

/-- Balances in a row of one's own. -/
def BlRow (w : World) (n : Nat) (v : Value) (l : List Bl) : Prop := w.ownsRow n 46 4 v l.length (blRow l)

theorem BlRow.nil (w : World) (n : Nat) : BlRow w n (.slice none 0 0) [] := World.ownsRow_nil _ _ _ _
theorem BlRow.isBl {W : World} {n0 : Nat} {v : Value} {l : List Bl} (h : BlRow W n0 v l) :
    ∃ a cap, v = .slice a l.length cap ∧ IsBl W a l cap := by
  obtain ⟨hlen, ⟨rfl, h0⟩ | ⟨g, cap, cur, rfl, hb, hg, hc, hm, hs, ht⟩⟩ := h
  · have : l = [] := List.eq_nil_of_length_eq_zero h0
    subst this
    exact ⟨none, 0, rfl, Nat.le_refl _, .inl rfl⟩
  · refine ⟨_, cap, rfl, hc, .inr ⟨g, 0, rfl, (Array.getElem?_eq_some_iff.1 hg).1, ?_⟩⟩
    intro k hk
    have C : ∀ j, j < 4 → W.cell? ⟨g, 0 + k * 4 + j, none⟩ = (l.getD k bl0).cells.toList[j]? := fun j hj => by
      have e1 : (blRow l)[k * 4 + j]? = cur[k * 4 + j]? := by
        rw [← ht, List.getElem?_take, if_pos (by omega)]
        simp
      rw [← blRow_get l k j hk hj, e1]
      simp [World.cell?, hg]
    exact ⟨C 0 (by omega), C 1 (by omega), C 2 (by omega), C 3 (by omega)⟩
theorem BlRow.below {w w' : World} {n : Nat} {v : Value} {l : List Bl} (h : BlRow w n v l) (hb : Below w.heap.size w w') : BlRow w' n v l := by
  rcases h.2 with ⟨hv, hn⟩ | ⟨g1, c1, cur, hv, hb1, hh, r⟩
  · exact ⟨h.1, .inl ⟨hv, hn⟩⟩
  · exact ⟨h.1, .inr ⟨g1, c1, cur, hv, hb1, (hb.block g1 (Array.getElem?_eq_some_iff.1 hh).1).trans hh, r⟩⟩
theorem BlRow.mono {w : World} {n m : Nat} {v : Value} {l : List Bl} (h : BlRow w n v l) (hm : m ≤ n) : BlRow w m v l := by
  rcases h.2 with ⟨hv, hn⟩ | ⟨g1, c1, cur, hv, hb1, r⟩
  · exact ⟨h.1, .inl ⟨hv, hn⟩⟩
  · exact ⟨h.1, .inr ⟨g1, c1, cur, hv, by omega, r⟩⟩
theorem BlRow.own {w : World} {n : Nat} {v : Value} {xs : List Bl} (h : BlRow w n v xs) : ∀ j, v.ownBlock = some j → n ≤ j := fun j ej => by
  rcases h.2 with ⟨rfl, _⟩ | ⟨g1, c1, cur, rfl, hg1, _⟩
  · cases ej
  · cases ej; exact hg1


theorem isBl_nil (W : World) : IsBl W none [] 0 := ⟨Nat.le_refl _, .inl rfl⟩
theorem BlRow.isBl' {W : World} {n0 : Nat} {a : Option Addr} {m cap : Nat} {l : List Bl} (h : BlRow W n0 (.slice a m cap) l) : m = l.length ∧ IsBl W a l cap := by
  obtain ⟨a', c', e, hs⟩ := h.isBl
  cases e
  exact ⟨rfl, hs⟩

theorem bl_info : (Tryz.prog.info? 46).map (fun i => (i.zero, i.size, i.bytes)) = some (some (.agg #[.int .i64 0, .string ByteArray.empty, .string ByteArray.empty, .int .i64 0]), 4, 48) := by kernel_rfl
def I64B (x : Bl) : Prop := (-9223372036854775808 ≤ x.ent ∧ x.ent ≤ 9223372036854775807) ∧ (-9223372036854775808 ≤ x.amt ∧ x.amt ≤ 9223372036854775807)
end Go.Proofs.YtfkafjffjeipaaaGreatDoor
