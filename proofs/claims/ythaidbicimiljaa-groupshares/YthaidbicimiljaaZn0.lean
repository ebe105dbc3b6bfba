/-
  Balances as lists: what is added up by entity, account and currency, in order. It names no call.
-/
import Derived.Test.YthaidbicimiljaaProg
import Derived.WalkKit
import Derived.WalkSpells
import Derived.Lib.OthersKept
import Derived.Lib.TrimU
import Derived.Deep.LoopGhost
import Derived.Conc.MuLone
import Derived.Shelf.Abstract
import Derived.Deep.QuietTactic
import Derived.BigQuiet
import Derived.Maps.AppendAt
import Derived.MapKept
import Derived.Deep.AppendLies
import Derived.Laws.NewBlocks
import Derived.Laws.StructEq
import Derived.Laws.Cover1
import Derived.Deep.RegionWith
import Derived.Deep.RegionHeld3
import Derived.BigRegion
namespace Go.Proofs.Ythaidbicimiljaa
set_option linter.unusedVariables false
set_option linter.unusedSimpArgs false
set_option maxRecDepth 100000
open Go.RowKit Go.Lib
theorem bl_self : ∀ a : List UInt8, Op.bytesLess a a = false
  | [] => rfl
  | x :: a => by
    have := bl_self a
    simp [Op.bytesLess, this]

theorem bl_total : ∀ a b : List UInt8, Op.bytesLess a b = false → a ≠ b → Op.bytesLess b a = true
  | [], [], _, h => absurd rfl h
  | [], _ :: _, h, _ => by simp [Op.bytesLess] at h
  | _ :: _, [], _, _ => by simp [Op.bytesLess]
  | x :: a, y :: b, h, hne => by
    simp only [Op.bytesLess, Bool.or_eq_false_iff, decide_eq_false_iff_not, Bool.and_eq_false_iff, beq_eq_false_iff_ne] at h
    obtain ⟨h1, h2⟩ := h
    by_cases e : x = y
    · subst e
      have := bl_total a b (by simpa using h2) (fun e => hne (by rw [e]))
      simp [Op.bytesLess, this]
    · have : y < x := by
        rw [UInt8.lt_iff_toNat_lt] at h1 ⊢
        have : x.toNat ≠ y.toNat := fun h => e (UInt8.toNat_inj.1 h)
        omega
      simp [Op.bytesLess, this]

theorem bl_trans : ∀ a b c : List UInt8, Op.bytesLess a b = true → Op.bytesLess b c = true → Op.bytesLess a c = true
  | _, [], _, h, _ => by cases ‹List UInt8› <;> simp [Op.bytesLess] at h
  | _, _ :: _, [], _, h => by simp [Op.bytesLess] at h
  | [], _ :: _, _ :: _, _, _ => by simp [Op.bytesLess]
  | x :: a, y :: b, z :: c, h1, h2 => by
    simp only [Op.bytesLess, Bool.or_eq_true, decide_eq_true_eq, Bool.and_eq_true, beq_iff_eq] at h1 h2 ⊢
    simp only [UInt8.lt_iff_toNat_lt] at h1 h2 ⊢
    rcases h1 with h1 | ⟨rfl, h1⟩
    · rcases h2 with h2 | ⟨rfl, h2⟩
      · exact .inl (by omega)
      · exact .inl h1
    · rcases h2 with h2 | ⟨rfl, h2⟩
      · exact .inl h2
      · exact .inr ⟨rfl, bl_trans a b c h1 h2⟩

/-- A line. -/
structure Ln where
  acc : ByteArray
  cur : ByteArray
  amt : Int
def Ln.cells (x : Ln) : Array Value := #[.string x.acc, .string x.cur, .int .i64 x.amt]
/-- A line of nothing. -/
def ln0 : Ln := ⟨ByteArray.empty, ByteArray.empty, 0⟩

theorem toList_inj {a b : ByteArray} (h : a.toList = b.toList) : a = b := by
  rw [Lib.toList_data, Lib.toList_data] at h
  exact WideShapes.bytes_inj h

theorem en_ne {a b : ByteArray} (h : a ≠ b) : (a.toList == b.toList) = false := by
  rw [beq_eq_false_iff_ne]
  exact fun e => h (toList_inj e)
theorem en_empty {a : ByteArray} (h : a.size = 0) : a.toList = [] := by
  rw [Lib.toList_data]
  exact List.eq_nil_of_length_eq_zero h
theorem en_some {a : ByteArray} (h : a.size ≠ 0) : ¬ a.toList = [] := by
  rw [Lib.toList_data]
  exact fun e => h (congrArg List.length e)
theorem en_drewN {B : Nat} {a w : World} (h : Below B a w) (n : Nat) : Below B a (w.drewN n) := h.trans ⟨rfl, rfl, rfl, Nat.le_refl _, fun _ _ => rfl⟩
theorem en_enters {f : FuncId} {fn : Func} (hf : Try.prog.funcs[f]? = some fn) (hn : (fn.name == "runtime.NumGoroutine") = false) (hb : ∃ c, fn.body = some c) (args : Array Value) (w : World) : (callFunc f args).run Try.prog w = .ok (.enter f args) w := by
  obtain ⟨c, hc⟩ := hb
  exact MuLone.run_callFunc_enter hf hn hc args w

/-- An error by its number. -/
def enE (n : Int) : Value := if n = 0 then .nilIface else .iface 41 (.int .i64 n)
theorem enE_zero : enE 0 = .nilIface := rfl
theorem enE_ne {n : Int} (h : n ≠ 0) : enE n = .iface 41 (.int .i64 n) := if_neg h

structure LnAt (w : World) (b off : Nat) (x : Ln) : Prop where
  c0 : w.cell? ⟨b, off, none⟩ = some (.string x.acc)
  c1 : w.cell? ⟨b, off + 1, none⟩ = some (.string x.cur)
  c2 : w.cell? ⟨b, off + 2, none⟩ = some (.int .i64 x.amt)

theorem LnAt.below {w w' : World} {b off n : Nat} {a : Ln} (h : LnAt w b off a) (hb : Below n w w') (hn : b < n) : LnAt w' b off a :=
  ⟨(hb.cell (p := ⟨b, off, none⟩) hn).trans h.c0, (hb.cell (p := ⟨b, off + 1, none⟩) hn).trans h.c1, (hb.cell (p := ⟨b, off + 2, none⟩) hn).trans h.c2⟩
theorem LnAt.new (w : World) (a : Ln) (t : TypeId) : LnAt (w.alloc (.cells a.cells t)) w.heap.size 0 a :=
  ⟨by simp [Ln.cells], by simp [Ln.cells], by simp [Ln.cells]⟩

/-- Lines in memory. -/
def LnsAt (w : World) (b off : Nat) (l : List Ln) : Prop := ∀ k, k < l.length → LnAt w b (off + k * 3) (l.getD k ln0)

/-- A slice of lines. -/
structure IsLn (w : World) (a : Option Addr) (l : List Ln) (cap : Nat) : Prop where
  cap : l.length ≤ cap
  lies : l = [] ∨ ∃ b off, a = some ⟨b, off, none⟩ ∧ b < w.heap.size ∧ LnsAt w b off l

theorem IsLn.below {w w' : World} {a : Option Addr} {l : List Ln} {cap : Nat} (h : IsLn w a l cap) (hb : Below w.heap.size w w') : IsLn w' a l cap := by
  refine ⟨h.cap, ?_⟩
  rcases h.lies with h | ⟨b, off, e, hlt, hc⟩
  · exact .inl h
  · exact .inr ⟨b, off, e, by have := hb.size; omega, fun k hk => (hc k hk).below hb hlt⟩

theorem lns_drop (l : List Ln) (k : Nat) (h : k < l.length) : l.drop k = l.getD k ln0 :: l.drop (k + 1) := by
  rw [List.drop_eq_getElem_cons h, List.getD_eq_getElem?_getD, List.getElem?_eq_getElem h]
  rfl
theorem lns_take (l : List Ln) (k : Nat) (h : k < l.length) : l.take (k + 1) = l.take k ++ [l.getD k ln0] := by
  rw [List.take_add_one, List.getElem?_eq_getElem h, List.getD_eq_getElem?_getD, List.getElem?_eq_getElem h]
  rfl
theorem lns_mem (l : List Ln) (k : Nat) (h : k < l.length) : l.getD k ln0 ∈ l := by
  rw [List.getD_eq_getElem?_getD, List.getElem?_eq_getElem h]
  exact List.getElem_mem h

/-- The cells of lines, one behind the other. -/
def lnRow (l : List Ln) : List Value := l.flatMap fun x => x.cells.toList
theorem Ln.cells_length (x : Ln) : x.cells.toList.length = 3 := rfl
theorem lnRow_length : ∀ l : List Ln, (lnRow l).length = l.length * 3
  | [] => rfl
  | x :: l => by
    have := lnRow_length l
    unfold lnRow at *
    simp only [List.flatMap_cons, List.length_append, Ln.cells_length, this, List.length_cons]
    omega
theorem lnRow_append (l m : List Ln) : lnRow (l ++ m) = lnRow l ++ lnRow m := by simp [lnRow]
theorem lnRow_one (x : Ln) : lnRow [x] = x.cells.toList := by simp [lnRow]
theorem lnRow_get : ∀ (l : List Ln) (k j : Nat), k < l.length → j < 3 → (lnRow l)[k * 3 + j]? = (l.getD k ln0).cells.toList[j]?
  | [], _, _, h, _ => absurd h (by simp)
  | x :: l, 0, j, _, hj => by
    simp only [lnRow, List.flatMap_cons, Nat.zero_mul, Nat.zero_add, List.getD_cons_zero]
    rw [List.getElem?_append_left (by rw [Ln.cells_length]; exact hj)]
  | x :: l, k + 1, j, h, hj => by
    have ih := lnRow_get l k j (by simpa using h) hj
    simp only [lnRow, List.flatMap_cons, List.getD_cons_succ] at ih ⊢
    rw [List.getElem?_append_right (by rw [Ln.cells_length]; omega), Ln.cells_length, ← ih]
    congr 1
    omega
theorem lnRow_one_cell (l : List Ln) : ∀ u ∈ lnRow l, u.oneCell' = true := by
  intro u hu
  simp only [lnRow, List.mem_flatMap] at hu
  obtain ⟨x, _, hx⟩ := hu
  simp [Ln.cells] at hx
  rcases hx with rfl | rfl | rfl <;> rfl
theorem lnRow_take (l : List Ln) (k : Nat) : lnRow (l.take k) = (lnRow l).take (k * 3) := by
  have h := lnRow_append (l.take k) (l.drop k)
  rw [List.take_append_drop] at h
  rw [h]
  by_cases hk : k ≤ l.length
  · have : (lnRow (l.take k)).length = k * 3 := by rw [lnRow_length, List.length_take, Nat.min_eq_left hk]
    rw [← this, List.take_left]
  · rw [List.take_of_length_le (by omega), List.drop_eq_nil_of_le (by omega)]
    rw [List.take_of_length_le]
    · show lnRow l = lnRow l ++ []
      simp
    · show (lnRow l ++ []).length ≤ _
      rw [List.append_nil, lnRow_length]
      omega
theorem lnRow_drop (l : List Ln) (k : Nat) : lnRow (l.drop k) = (lnRow l).drop (k * 3) := by
  have h := lnRow_append (l.take k) (l.drop k)
  rw [List.take_append_drop] at h
  have h2 := lnRow_take l k
  have h3 : lnRow l = (lnRow l).take (k * 3) ++ (lnRow l).drop (k * 3) := (List.take_append_drop _ _).symm
  rw [← h2] at h3
  rw [h] at h3
  have := List.append_cancel_left h3
  rw [this]
  rw [h]

/-- Two texts held against each other. -/
def cmpS (a b : ByteArray) : Int := if Op.bytesLess a.toList b.toList = true then -1 else if (a.toList == b.toList) = true then 0 else 1
theorem cmpS_zero {a b : ByteArray} : cmpS a b = 0 ↔ (a.toList == b.toList) = true := by
  unfold cmpS
  split
  · rename_i h
    refine ⟨fun h => by omega, fun e => ?_⟩
    rw [beq_iff_eq] at e
    rw [e, bl_self] at h
    cases h
  · split
    · simp_all
    · simp_all
theorem cmpS_neg {a b : ByteArray} : cmpS a b < 0 ↔ Op.bytesLess a.toList b.toList = true := by
  unfold cmpS
  split
  · simp_all
  · split
    · simp_all
    · simp_all
theorem cmpS_range (a b : ByteArray) : cmpS a b = -1 ∨ cmpS a b = 0 ∨ cmpS a b = 1 := by
  unfold cmpS
  split
  · simp
  · split <;> simp

/-- A balance. -/
structure Bl where
  ent : Int
  acc : ByteArray
  cur : ByteArray
  amt : Int
def Bl.cells (x : Bl) : Array Value := #[.int .i64 x.ent, .string x.acc, .string x.cur, .int .i64 x.amt]
def bl0 : Bl := ⟨0, ByteArray.empty, ByteArray.empty, 0⟩
/-- Two numbers held against each other. -/
def cmpI (a b : Int) : Int := if a < b then -1 else if b < a then 1 else 0
/-- Two balances held against each other. -/
def cmpB (a b : Bl) : Int := if cmpI a.ent b.ent ≠ 0 then cmpI a.ent b.ent else if cmpS a.acc b.acc ≠ 0 then cmpS a.acc b.acc else cmpS a.cur b.cur
structure BlAt (w : World) (b off : Nat) (x : Bl) : Prop where
  c0 : w.cell? ⟨b, off, none⟩ = some (.int .i64 x.ent)
  c1 : w.cell? ⟨b, off + 1, none⟩ = some (.string x.acc)
  c2 : w.cell? ⟨b, off + 2, none⟩ = some (.string x.cur)
  c3 : w.cell? ⟨b, off + 3, none⟩ = some (.int .i64 x.amt)

theorem BlAt.below {w w' : World} {b off n : Nat} {a : Bl} (h : BlAt w b off a) (hb : Below n w w') (hn : b < n) : BlAt w' b off a :=
  ⟨(hb.cell (p := ⟨b, off, none⟩) hn).trans h.c0, (hb.cell (p := ⟨b, off + 1, none⟩) hn).trans h.c1, (hb.cell (p := ⟨b, off + 2, none⟩) hn).trans h.c2, (hb.cell (p := ⟨b, off + 3, none⟩) hn).trans h.c3⟩
theorem BlAt.new (w : World) (a : Bl) (t : TypeId) : BlAt (w.alloc (.cells a.cells t)) w.heap.size 0 a :=
  ⟨by simp [Bl.cells], by simp [Bl.cells], by simp [Bl.cells], by simp [Bl.cells]⟩

/-- Balances in memory. -/
def BlsAt (w : World) (b off : Nat) (l : List Bl) : Prop := ∀ k, k < l.length → BlAt w b (off + k * 4) (l.getD k bl0)

/-- A slice of balances. -/
structure IsBl (w : World) (a : Option Addr) (l : List Bl) (cap : Nat) : Prop where
  cap : l.length ≤ cap
  lies : l = [] ∨ ∃ b off, a = some ⟨b, off, none⟩ ∧ b < w.heap.size ∧ BlsAt w b off l

theorem IsBl.below {w w' : World} {a : Option Addr} {l : List Bl} {cap : Nat} (h : IsBl w a l cap) (hb : Below w.heap.size w w') : IsBl w' a l cap := by
  refine ⟨h.cap, ?_⟩
  rcases h.lies with h | ⟨b, off, e, hlt, hc⟩
  · exact .inl h
  · exact .inr ⟨b, off, e, by have := hb.size; omega, fun k hk => (hc k hk).below hb hlt⟩

theorem bls_drop (l : List Bl) (k : Nat) (h : k < l.length) : l.drop k = l.getD k bl0 :: l.drop (k + 1) := by
  rw [List.drop_eq_getElem_cons h, List.getD_eq_getElem?_getD, List.getElem?_eq_getElem h]
  rfl
theorem bls_take (l : List Bl) (k : Nat) (h : k < l.length) : l.take (k + 1) = l.take k ++ [l.getD k bl0] := by
  rw [List.take_add_one, List.getElem?_eq_getElem h, List.getD_eq_getElem?_getD, List.getElem?_eq_getElem h]
  rfl
theorem bls_mem (l : List Bl) (k : Nat) (h : k < l.length) : l.getD k bl0 ∈ l := by
  rw [List.getD_eq_getElem?_getD, List.getElem?_eq_getElem h]
  exact List.getElem_mem h

/-- The cells of balances, one behind the other. -/
def blRow (l : List Bl) : List Value := l.flatMap fun x => x.cells.toList
theorem Bl.cells_length (x : Bl) : x.cells.toList.length = 4 := rfl
theorem blRow_length : ∀ l : List Bl, (blRow l).length = l.length * 4
  | [] => rfl
  | x :: l => by
    have := blRow_length l
    unfold blRow at *
    simp only [List.flatMap_cons, List.length_append, Bl.cells_length, this, List.length_cons]
    omega
theorem blRow_append (l m : List Bl) : blRow (l ++ m) = blRow l ++ blRow m := by simp [blRow]
theorem blRow_one (x : Bl) : blRow [x] = x.cells.toList := by simp [blRow]
theorem blRow_get : ∀ (l : List Bl) (k j : Nat), k < l.length → j < 4 → (blRow l)[k * 4 + j]? = (l.getD k bl0).cells.toList[j]?
  | [], _, _, h, _ => absurd h (by simp)
  | x :: l, 0, j, _, hj => by
    simp only [blRow, List.flatMap_cons, Nat.zero_mul, Nat.zero_add, List.getD_cons_zero]
    rw [List.getElem?_append_left (by rw [Bl.cells_length]; exact hj)]
  | x :: l, k + 1, j, h, hj => by
    have ih := blRow_get l k j (by simpa using h) hj
    simp only [blRow, List.flatMap_cons, List.getD_cons_succ] at ih ⊢
    rw [List.getElem?_append_right (by rw [Bl.cells_length]; omega), Bl.cells_length, ← ih]
    congr 1
    omega
theorem blRow_one_cell (l : List Bl) : ∀ u ∈ blRow l, u.oneCell' = true := by
  intro u hu
  simp only [blRow, List.mem_flatMap] at hu
  obtain ⟨x, _, hx⟩ := hu
  simp [Bl.cells] at hx
  rcases hx with rfl | rfl | rfl | rfl <;> rfl
theorem blRow_take (l : List Bl) (k : Nat) : blRow (l.take k) = (blRow l).take (k * 4) := by
  have h := blRow_append (l.take k) (l.drop k)
  rw [List.take_append_drop] at h
  rw [h]
  by_cases hk : k ≤ l.length
  · have : (blRow (l.take k)).length = k * 4 := by rw [blRow_length, List.length_take, Nat.min_eq_left hk]
    rw [← this, List.take_left]
  · rw [List.take_of_length_le (by omega), List.drop_eq_nil_of_le (by omega)]
    rw [List.take_of_length_le]
    · show blRow l = blRow l ++ []
      simp
    · show (blRow l ++ []).length ≤ _
      rw [List.append_nil, blRow_length]
      omega
theorem blRow_drop (l : List Bl) (k : Nat) : blRow (l.drop k) = (blRow l).drop (k * 4) := by
  have h := blRow_append (l.take k) (l.drop k)
  rw [List.take_append_drop] at h
  have h2 := blRow_take l k
  have h3 : blRow l = (blRow l).take (k * 4) ++ (blRow l).drop (k * 4) := (List.take_append_drop _ _).symm
  rw [← h2] at h3
  rw [h] at h3
  have := List.append_cancel_left h3
  rw [this]
  rw [h]

/-- Balances in a row of one's own. -/
def BlRow (w : World) (n : Nat) (v : Value) (l : List Bl) : Prop := w.ownsRow n 33 4 v l.length (blRow l)

theorem BlRow.nil (w : World) (n : Nat) : BlRow w n (.slice none 0 0) [] := World.ownsRow_nil _ _ _ _
theorem BlRow.isBl {W : World} {n0 : Nat} {v : Value} {l : List Bl} (h : BlRow W n0 v l) :
    ∃ a cap, v = .slice a l.length cap ∧ IsBl W a l cap := by
  obtain ⟨hlen, ⟨rfl, h0⟩ | ⟨g, cap, cur, rfl, hb, hg, hc, hm, hs, ht⟩⟩ := h
  · have : l = [] := List.eq_nil_of_length_eq_zero h0
    subst this
    exact ⟨none, 0, rfl, Nat.le_refl _, .inl rfl⟩
  · refine ⟨_, cap, rfl, hc, .inr ⟨g, 0, rfl, (Array.getElem?_eq_some_iff.1 hg).1, ?_⟩⟩
    intro k hk
    have C : ∀ j, j < 4 → W.cell? ⟨g, 0 + k * 4 + j, none⟩ = (l.getD k bl0).cells.toList[j]? := fun j hj => by
      have e1 : (blRow l)[k * 4 + j]? = cur[k * 4 + j]? := by
        rw [← ht, List.getElem?_take, if_pos (by omega)]
        simp
      rw [← blRow_get l k j hk hj, e1]
      simp [World.cell?, hg]
    exact ⟨C 0 (by omega), C 1 (by omega), C 2 (by omega), C 3 (by omega)⟩
theorem BlRow.below {w w' : World} {n : Nat} {v : Value} {l : List Bl} (h : BlRow w n v l) (hb : Below w.heap.size w w') : BlRow w' n v l := by
  rcases h.2 with ⟨hv, hn⟩ | ⟨g1, c1, cur, hv, hb1, hh, r⟩
  · exact ⟨h.1, .inl ⟨hv, hn⟩⟩
  · exact ⟨h.1, .inr ⟨g1, c1, cur, hv, hb1, (hb.block g1 (Array.getElem?_eq_some_iff.1 hh).1).trans hh, r⟩⟩
theorem BlRow.mono {w : World} {n m : Nat} {v : Value} {l : List Bl} (h : BlRow w n v l) (hm : m ≤ n) : BlRow w m v l := by
  rcases h.2 with ⟨hv, hn⟩ | ⟨g1, c1, cur, hv, hb1, r⟩
  · exact ⟨h.1, .inl ⟨hv, hn⟩⟩
  · exact ⟨h.1, .inr ⟨g1, c1, cur, hv, by omega, r⟩⟩
theorem BlRow.own {w : World} {n : Nat} {v : Value} {xs : List Bl} (h : BlRow w n v xs) : ∀ j, v.ownBlock = some j → n ≤ j := fun j ej => by
  rcases h.2 with ⟨rfl, _⟩ | ⟨g1, c1, cur, rfl, hg1, _⟩
  · cases ej
  · cases ej; exact hg1


theorem isBl_nil (W : World) : IsBl W none [] 0 := ⟨Nat.le_refl _, .inl rfl⟩
theorem BlRow.isBl' {W : World} {n0 : Nat} {a : Option Addr} {m cap : Nat} {l : List Bl} (h : BlRow W n0 (.slice a m cap) l) : m = l.length ∧ IsBl W a l cap := by
  obtain ⟨a', c', e, hs⟩ := h.isBl
  cases e
  exact ⟨rfl, hs⟩

theorem bl_info : (Try.prog.info? 33).map (fun i => (i.zero, i.size, i.bytes)) = some (some (.agg #[.int .i64 0, .string ByteArray.empty, .string ByteArray.empty, .int .i64 0]), 4, 48) := by kernel_rfl
def I64B (x : Bl) : Prop := (-9223372036854775808 ≤ x.ent ∧ x.ent ≤ 9223372036854775807) ∧ (-9223372036854775808 ≤ x.amt ∧ x.amt ≤ 9223372036854775807)
end Go.Proofs.Ythaidbicimiljaa

namespace Go.Proofs.Ythaidbicimiljaa
set_option linter.unusedVariables false
set_option linter.unusedSimpArgs false
open Go.RowKit

/-- What a balance is of. -/
abbrev Pk : Type := Int × ByteArray × ByteArray
def Bl.key (x : Bl) : Pk := (x.ent, x.acc, x.cur)
/-- The amounts of a place. -/
structure Pt where
  key : Pk
  zs : List Int
def addP : List Pt → Bl → List Pt
  | [], x => [⟨x.key, [x.amt]⟩]
  | p :: ps, x => if p.key = x.key then ⟨p.key, p.zs ++ [x.amt]⟩ :: ps else p :: addP ps x
def parts (l : List Bl) : List Pt := l.foldl addP []
theorem parts_snoc (l : List Bl) (x : Bl) : parts (l ++ [x]) = addP (parts l) x := by simp [parts]
/-- All of a place. -/
def ltot (k : Pk) : List Bl → Int
  | [] => 0
  | x :: l => (if x.key = k then x.amt else 0) + ltot k l
def totP (k : Pk) : List Pt → Int
  | [] => 0
  | p :: l => (if p.key = k then p.zs.sum else 0) + totP k l
theorem ltot_append (k : Pk) : ∀ l m : List Bl, ltot k (l ++ m) = ltot k l + ltot k m
  | [], m => by simp [ltot]
  | x :: l, m => by rw [List.cons_append, ltot, ltot, ltot_append k l m]; omega
theorem ltot_perm (k : Pk) {l m : List Bl} (h : l.Perm m) : ltot k l = ltot k m := by
  induction h with
  | nil => rfl
  | cons x _ ih => rw [ltot, ltot, ih]
  | swap x y l => simp only [ltot]; omega
  | trans _ _ h1 h2 => rw [h1, h2]
theorem addP_keys (k : Pk) (x : Bl) : ∀ ps : List Pt, k ∈ (addP ps x).map Pt.key ↔ k ∈ ps.map Pt.key ∨ k = x.key
  | [] => by simp [addP]
  | p :: ps => by
    unfold addP
    split
    · rename_i h
      simp only [List.map_cons, List.mem_cons]
      constructor
      · intro h1; exact .inl h1
      · rintro (h1 | h1)
        · exact h1
        · exact .inl (h1.trans h.symm)
    · simp only [List.map_cons, List.mem_cons, addP_keys k x ps, or_assoc]
theorem addP_nodup (x : Bl) : ∀ ps : List Pt, (ps.map Pt.key).Nodup → ((addP ps x).map Pt.key).Nodup
  | [], _ => by simp [addP]
  | p :: ps, h => by
    unfold addP
    split
    · exact h
    · rename_i hne
      simp only [List.map_cons, List.nodup_cons] at h ⊢
      refine ⟨fun h1 => ?_, addP_nodup x ps h.2⟩
      rcases (addP_keys _ x ps).1 h1 with h2 | h2
      · exact h.1 h2
      · exact hne h2
theorem addP_tot (k : Pk) (x : Bl) : ∀ ps : List Pt, totP k (addP ps x) = totP k ps + if x.key = k then x.amt else 0
  | [] => by simp [addP, totP]
  | p :: ps => by
    unfold addP
    split
    · rename_i h
      simp only [totP, List.sum_append, List.sum_cons, List.sum_nil, h]
      split <;> omega
    · simp only [totP, addP_tot k x ps]
      omega
theorem foldl_keys (k : Pk) : ∀ (l : List Bl) (ps : List Pt), k ∈ (l.foldl addP ps).map Pt.key ↔ k ∈ ps.map Pt.key ∨ ∃ x ∈ l, x.key = k
  | [], ps => by simp
  | x :: l, ps => by
    rw [List.foldl_cons, foldl_keys k l, addP_keys]
    constructor
    · rintro ((h | h) | ⟨y, hy, e⟩)
      · exact .inl h
      · exact .inr ⟨x, List.mem_cons_self .., h.symm⟩
      · exact .inr ⟨y, List.mem_cons_of_mem _ hy, e⟩
    · rintro (h | ⟨y, hy, e⟩)
      · exact .inl (.inl h)
      · rcases List.mem_cons.1 hy with rfl | hy
        · exact .inl (.inr e.symm)
        · exact .inr ⟨y, hy, e⟩
theorem foldl_nodup : ∀ (l : List Bl) (ps : List Pt), (ps.map Pt.key).Nodup → ((l.foldl addP ps).map Pt.key).Nodup
  | [], ps, h => h
  | x :: l, ps, h => foldl_nodup l _ (addP_nodup x ps h)
theorem foldl_tot (k : Pk) : ∀ (l : List Bl) (ps : List Pt), totP k (l.foldl addP ps) = totP k ps + ltot k l
  | [], ps => by simp [ltot]
  | x :: l, ps => by rw [List.foldl_cons, foldl_tot k l, addP_tot, ltot]; omega
theorem parts_keys (k : Pk) (l : List Bl) : k ∈ (parts l).map Pt.key ↔ ∃ x ∈ l, x.key = k := by
  rw [parts, foldl_keys]; simp
theorem parts_nodup (l : List Bl) : ((parts l).map Pt.key).Nodup := foldl_nodup l [] (by simp)
theorem parts_tot (k : Pk) (l : List Bl) : totP k (parts l) = ltot k l := by rw [parts, foldl_tot]; simp [totP]
/-- How many places there are hangs on which ones there are alone. -/
theorem parts_count {l m : List Bl} (h : ∀ k, (∃ x ∈ l, x.key = k) ↔ ∃ x ∈ m, x.key = k) : (parts l).length = (parts m).length := by
  have := ((List.perm_ext_iff_of_nodup (parts_nodup l) (parts_nodup m)).2 (fun k => by rw [parts_keys, parts_keys]; exact h k)).length_eq
  simpa using this
theorem nodup_le : ∀ {l m : List Pk}, l.Nodup → (∀ k ∈ l, k ∈ m) → l.length ≤ m.length
  | [], m, _, _ => Nat.zero_le _
  | k :: l, m, h, hs => by
    obtain ⟨h1, h2⟩ := List.nodup_cons.1 h
    obtain ⟨s, t, rfl⟩ := List.append_of_mem (hs k (List.mem_cons_self ..))
    have := nodup_le (m := s ++ t) h2 (fun q hq => by
      have h3 := hs q (List.mem_cons_of_mem _ hq)
      simp only [List.mem_append, List.mem_cons] at h3 ⊢
      rcases h3 with h3 | h3 | h3
      · exact .inl h3
      · exact absurd (h3 ▸ hq) h1
      · exact .inr h3)
    simp only [List.length_append, List.length_cons] at this ⊢
    omega
theorem parts_count_le {l m : List Bl} (h : ∀ k, (∃ x ∈ l, x.key = k) → ∃ x ∈ m, x.key = k) : (parts l).length ≤ (parts m).length := by
  have h1 := parts_nodup l
  have h2 : ∀ k ∈ (parts l).map Pt.key, k ∈ (parts m).map Pt.key := fun k hk => (parts_keys k m).2 (h k ((parts_keys k l).1 hk))
  have := nodup_le h1 h2
  simpa using this
theorem addP_length (x : Bl) : ∀ ps : List Pt, (addP ps x).length ≤ ps.length + 1
  | [] => by simp [addP]
  | p :: ps => by
    unfold addP
    split
    · simp
    · have := addP_length x ps; simp; exact this
theorem parts_length (l : List Bl) : (parts l).length ≤ l.length := by
  have key : ∀ (l : List Bl) (ps : List Pt), (l.foldl addP ps).length ≤ ps.length + l.length := by
    intro l
    induction l with
    | nil => intro ps; simp
    | cons x l ih => intro ps; have h1 := ih (addP ps x); have h2 := addP_length x ps; simp only [List.foldl_cons, List.length_cons]; omega
  have := key l []
  simpa [parts] using this

/-- A place's balance. -/
def Pt.bal (p : Pt) : Bl := ⟨p.key.1, p.key.2.1, p.key.2.2, p.zs.sum⟩
theorem bal_key (p : Pt) : p.bal.key = p.key := rfl
theorem ltot_bal (k : Pk) : ∀ ps : List Pt, ltot k (ps.map Pt.bal) = totP k ps
  | [] => rfl
  | p :: ps => by rw [List.map_cons, ltot, totP, ltot_bal k ps]; rfl
/-- Those that are not 0. -/
def full (l : List Bl) : List Bl := l.filter fun x => x.amt != 0
theorem ltot_full (k : Pk) : ∀ l : List Bl, ltot k (full l) = ltot k l
  | [] => rfl
  | x :: l => by
    have ih := ltot_full k l
    unfold full at ih ⊢
    rw [List.filter_cons]
    by_cases h : x.amt = 0
    · rw [if_neg (by simp [h]), ih, ltot, h]; simp
    · rw [if_pos (by simp [h]), ltot, ltot, ih]
theorem full_ne (l : List Bl) : ∀ x ∈ full l, x.amt ≠ 0 := fun x hx => by
  have := (List.mem_filter.1 hx).2
  simpa using this

/-- Balances rise. -/
def Rises (l : List Bl) : Prop := l.Pairwise fun x y => cmpB x y < 0
theorem cmpS_flip (a b : ByteArray) : cmpS a b < 0 ↔ 0 < cmpS b a := by
  unfold cmpS
  by_cases h : Op.bytesLess a.toList b.toList = true
  · have h2 : ¬ Op.bytesLess b.toList a.toList = true := fun h2 => by
      have := bl_trans _ _ _ h h2
      rw [bl_self] at this
      cases this
    have h3 : ¬ (b.toList == a.toList) = true := fun h3 => by
      rw [beq_iff_eq] at h3
      rw [h3, bl_self] at h
      cases h
    rw [if_pos h, if_neg h2, if_neg h3]
    omega
  · rw [if_neg h]
    by_cases h3 : (a.toList == b.toList) = true
    · rw [if_pos h3]
      have h4 := beq_iff_eq.1 h3
      rw [h4, bl_self]
      simp
    · rw [if_neg h3]
      have h5 := bl_total _ _ (by simpa using h) (by simpa using h3)
      rw [if_pos h5]
      omega
theorem ldCmpS_eq {a b : ByteArray} : cmpS a b = 0 ↔ a = b := by
  rw [cmpS_zero, beq_iff_eq]
  exact ⟨fun h => toList_inj h, fun h => by rw [h]⟩
theorem cmpS_trans {a b c : ByteArray} (h1 : cmpS a b < 0) (h2 : cmpS b c < 0) : cmpS a c < 0 := by
  rw [cmpS_neg] at *
  exact bl_trans _ _ _ h1 h2
theorem cmpI_neg {a b : Int} : cmpI a b < 0 ↔ a < b := by unfold cmpI; split <;> (try split) <;> omega
theorem cmpI_zero {a b : Int} : cmpI a b = 0 ↔ a = b := by unfold cmpI; split <;> (try split) <;> omega
theorem cmpI_flip (a b : Int) : cmpI a b < 0 ↔ 0 < cmpI b a := by unfold cmpI; split <;> (try split) <;> (try split) <;> (try split) <;> omega
theorem cmpB_lt {x y : Bl} : cmpB x y < 0 ↔ x.ent < y.ent ∨ (x.ent = y.ent ∧ (cmpS x.acc y.acc < 0 ∨ (x.acc = y.acc ∧ cmpS x.cur y.cur < 0))) := by
  unfold cmpB
  by_cases h1 : cmpI x.ent y.ent = 0
  · have e1 := cmpI_zero.1 h1
    rw [if_neg (by simp [h1])]
    by_cases h2 : cmpS x.acc y.acc = 0
    · have e2 := ldCmpS_eq.1 h2
      rw [if_neg (by simp [h2])]
      constructor
      · intro h; exact .inr ⟨e1, .inr ⟨e2, h⟩⟩
      · rintro (h | ⟨_, h | ⟨_, h⟩⟩)
        · omega
        · omega
        · exact h
    · rw [if_pos h2]
      constructor
      · intro h; exact .inr ⟨e1, .inl h⟩
      · rintro (h | ⟨_, h | ⟨h, _⟩⟩)
        · omega
        · exact h
        · exact absurd (ldCmpS_eq.2 h) h2
  · have e1 : x.ent ≠ y.ent := fun h => h1 (cmpI_zero.2 h)
    rw [if_pos h1, cmpI_neg]
    constructor
    · intro h; exact .inl h
    · rintro (h | ⟨h, _⟩)
      · exact h
      · exact absurd h e1
theorem cmpB_zero {x y : Bl} : cmpB x y = 0 ↔ x.key = y.key := by
  unfold cmpB Bl.key
  rw [Prod.mk.injEq, Prod.mk.injEq]
  by_cases h1 : cmpI x.ent y.ent = 0
  · rw [if_neg (by simp [h1])]
    by_cases h2 : cmpS x.acc y.acc = 0
    · rw [if_neg (by simp [h2]), ldCmpS_eq]
      exact ⟨fun h => ⟨cmpI_zero.1 h1, ldCmpS_eq.1 h2, h⟩, fun h => h.2.2⟩
    · rw [if_pos h2]
      exact ⟨fun h => absurd h h2, fun h => absurd (ldCmpS_eq.2 h.2.1) h2⟩
  · rw [if_pos h1]
    exact ⟨fun h => absurd h h1, fun h => absurd (cmpI_zero.2 h.1) h1⟩
theorem cmpB_trans {x y z : Bl} (h1 : cmpB x y < 0) (h2 : cmpB y z < 0) : cmpB x z < 0 := by
  rw [cmpB_lt] at *
  rcases h1 with h1 | ⟨e1, h1⟩
  · rcases h2 with h2 | ⟨e2, h2⟩
    · exact .inl (by omega)
    · exact .inl (by omega)
  · rcases h2 with h2 | ⟨e2, h2⟩
    · exact .inl (by omega)
    · refine .inr ⟨by omega, ?_⟩
      rcases h1 with h1 | ⟨f1, h1⟩
      · rcases h2 with h2 | ⟨f2, h2⟩
        · exact .inl (cmpS_trans h1 h2)
        · exact .inl (f2 ▸ h1)
      · rcases h2 with h2 | ⟨f2, h2⟩
        · exact .inl (f1 ▸ h2)
        · exact .inr ⟨f1.trans f2, cmpS_trans h1 h2⟩
theorem cmpB_irr (x : Bl) : ¬ cmpB x x < 0 := by
  have : cmpB x x = 0 := cmpB_zero.2 rfl
  omega
theorem cmpB_total {x y : Bl} (h : ¬ cmpB x y < 0) (hne : x.key ≠ y.key) : cmpB y x < 0 := by
  rw [cmpB_lt] at *
  have h1 : ¬ x.ent < y.ent := fun e => h (.inl e)
  by_cases e1 : x.ent = y.ent
  · refine .inr ⟨e1.symm, ?_⟩
    have h2 : ¬ cmpS x.acc y.acc < 0 := fun e => h (.inr ⟨e1, .inl e⟩)
    by_cases e2 : x.acc = y.acc
    · refine .inr ⟨e2.symm, ?_⟩
      have h3 : ¬ cmpS x.cur y.cur < 0 := fun e => h (.inr ⟨e1, .inr ⟨e2, e⟩⟩)
      have h4 : cmpS x.cur y.cur ≠ 0 := fun e => hne (by unfold Bl.key; rw [e1, e2, ldCmpS_eq.1 e])
      have := cmpS_flip y.cur x.cur
      omega
    · refine .inl ?_
      have h4 : cmpS x.acc y.acc ≠ 0 := fun e => e2 (ldCmpS_eq.1 e)
      have := cmpS_flip y.acc x.acc
      omega
  · exact .inl (by omega)
theorem ltot_none (k : Pk) : ∀ l : List Bl, (∀ x ∈ l, x.key ≠ k) → ltot k l = 0
  | [], _ => rfl
  | x :: l, h => by
    rw [ltot, if_neg (h x (List.mem_cons_self ..)), ltot_none k l (fun y hy => h y (List.mem_cons_of_mem _ hy))]
    rfl
theorem Rises.key_ne {x : Bl} {l : List Bl} (h : Rises (x :: l)) : ∀ y ∈ l, y.key ≠ x.key := fun y hy e => by
  have h1 := (List.pairwise_cons.1 h).1 y hy
  have := cmpB_zero.2 e.symm
  omega
theorem ltot_mem : ∀ {l : List Bl}, Rises l → ∀ x ∈ l, ltot x.key l = x.amt
  | y :: l, h, x, hx => by
    have hne := h.key_ne
    rcases List.mem_cons.1 hx with rfl | hx
    · rw [ltot, if_pos rfl, ltot_none _ _ hne]; omega
    · rw [ltot, if_neg (fun e => hne x hx e.symm), ltot_mem (List.pairwise_cons.1 h).2 x hx]; omega
theorem ltot_ex {k : Pk} {l : List Bl} (h : ltot k l ≠ 0) : ∃ x ∈ l, x.key = k := by
  false_or_by_contra
  rename_i hn
  exact h (ltot_none k l (fun x hx e => hn ⟨x, hx, e⟩))
theorem bl_ext {x y : Bl} (h : x.key = y.key) (ha : x.amt = y.amt) : x = y := by
  obtain ⟨x0, x1, x2, x3⟩ := x
  obtain ⟨y0, y1, y2, y3⟩ := y
  unfold Bl.key at h
  rw [Prod.mk.injEq, Prod.mk.injEq] at h
  obtain ⟨h1, h2, h3⟩ := h
  simp only at h1 h2 h3 ha
  rw [h1, h2, h3, ha]
theorem rises_ext : ∀ {l m : List Bl}, Rises l → Rises m → (∀ x, x ∈ l ↔ x ∈ m) → l = m
  | [], [], _, _, _ => rfl
  | [], y :: m, _, _, h => absurd ((h y).2 (List.mem_cons_self ..)) (by simp)
  | x :: l, [], _, _, h => absurd ((h x).1 (List.mem_cons_self ..)) (by simp)
  | x :: l, y :: m, hl, hm, h => by
    obtain ⟨l1, l2⟩ := List.pairwise_cons.1 hl
    obtain ⟨m1, m2⟩ := List.pairwise_cons.1 hm
    have e : x = y := by
      rcases List.mem_cons.1 ((h x).1 (List.mem_cons_self ..)) with e | e
      · exact e
      · rcases List.mem_cons.1 ((h y).2 (List.mem_cons_self ..)) with e2 | e2
        · exact e2.symm
        · exact absurd (cmpB_trans (m1 x e) (l1 y e2)) (cmpB_irr y)
    subst e
    rw [rises_ext l2 m2 (fun z => ?_)]
    constructor
    · intro hz
      rcases List.mem_cons.1 ((h z).1 (List.mem_cons_of_mem _ hz)) with e | e
      · exact absurd (e ▸ l1 z hz) (cmpB_irr x)
      · exact e
    · intro hz
      rcases List.mem_cons.1 ((h z).2 (List.mem_cons_of_mem _ hz)) with e | e
      · exact absurd (e ▸ m1 z hz) (cmpB_irr x)
      · exact e
/-- Balances that rise, none of 0, are known by what each place has. -/
theorem rises_tot {l m : List Bl} (hl : Rises l) (hm : Rises m) (zl : ∀ x ∈ l, x.amt ≠ 0) (zm : ∀ x ∈ m, x.amt ≠ 0) (h : ∀ k, ltot k l = ltot k m) : l = m := by
  refine rises_ext hl hm (fun x => ⟨fun hx => ?_, fun hx => ?_⟩)
  · have h1 := ltot_mem hl x hx
    have h2 : ltot x.key m ≠ 0 := by rw [← h, h1]; exact zl x hx
    obtain ⟨y, hy, e⟩ := ltot_ex h2
    have h3 := ltot_mem hm y hy
    rw [bl_ext e.symm (by rw [← h1, h, ← e, h3])]
    exact hy
  · have h1 := ltot_mem hm x hx
    have h2 : ltot x.key l ≠ 0 := by rw [h, h1]; exact zm x hx
    obtain ⟨y, hy, e⟩ := ltot_ex h2
    have h3 := ltot_mem hl y hy
    rw [bl_ext e.symm (by rw [← h1, ← h, ← e, h3])]
    exact hy

/-- What is wrong with one of some balances. -/
def chkAt (l : List Bl) (k : Nat) : Int := if 0 < k ∧ ¬ cmpB (l.getD (k - 1) bl0) (l.getD k bl0) < 0 then 5 else if ¬ (-1000000000000000000 ≤ (l.getD k bl0).amt ∧ (l.getD k bl0).amt ≤ 1000000000000000000) then 1 else if (l.getD k bl0).amt = 0 then 3 else 0
def chkTo (l : List Bl) : Nat → Int
  | 0 => 0
  | k + 1 => if chkTo l k ≠ 0 then chkTo l k else chkAt l k
/-- What is wrong with balances. -/
def chk (l : List Bl) : Int := if 200 < l.length then 4 else chkTo l l.length
theorem chkTo_zero (l : List Bl) : ∀ n, chkTo l n = 0 ↔ ∀ k, k < n → chkAt l k = 0
  | 0 => by simp [chkTo]
  | n + 1 => by
    unfold chkTo
    split
    · rename_i h
      constructor
      · intro h1; exact absurd h1 h
      · intro h1; exact absurd ((chkTo_zero l n).2 (fun k hk => h1 k (by omega))) h
    · rename_i h
      have h0 : chkTo l n = 0 := by simpa using h
      have h1 := (chkTo_zero l n).1 h0
      constructor
      · intro h2 k hk
        rcases (by omega : k < n ∨ k = n) with h3 | rfl
        · exact h1 k h3
        · exact h2
      · intro h2; exact h2 n (by omega)
theorem chkTo_first {l : List Bl} {k n : Nat} (h0 : chkTo l k = 0) (h1 : chkAt l k ≠ 0) (hn : k < n) : chkTo l n = chkAt l k := by
  induction n with
  | zero => omega
  | succ n ih =>
    unfold chkTo
    rcases (by omega : k < n ∨ k = n) with h | h
    · rw [if_pos (by rw [ih h]; exact h1), ih h]
    · rw [← h, if_neg (by simp [h0])]
theorem chkAt_zero {l : List Bl} {k : Nat} : chkAt l k = 0 ↔ (0 < k → cmpB (l.getD (k - 1) bl0) (l.getD k bl0) < 0) ∧ (-1000000000000000000 ≤ (l.getD k bl0).amt ∧ (l.getD k bl0).amt ≤ 1000000000000000000) ∧ (l.getD k bl0).amt ≠ 0 := by
  unfold chkAt
  split
  · rename_i h
    constructor
    · intro h1; omega
    · intro h1; exact absurd (h1.1 h.1) h.2
  · rename_i h
    split
    · rename_i h2
      constructor
      · intro h1; omega
      · intro h1; exact absurd h1.2.1 h2
    · rename_i h2
      split
      · rename_i h3
        constructor
        · intro h1; omega
        · intro h1; exact absurd h3 h1.2.2
      · rename_i h3
        refine ⟨fun _ => ⟨fun h4 => ?_, by omega, h3⟩, fun _ => rfl⟩
        false_or_by_contra
        rename_i h5
        exact h ⟨h4, h5⟩
theorem rises_of_next : ∀ l : List Bl, (∀ k, k + 1 < l.length → cmpB (l.getD k bl0) (l.getD (k + 1) bl0) < 0) → Rises l
  | [], _ => .nil
  | [x], _ => List.pairwise_singleton _ _
  | x :: y :: l, h => by
    have h0 : cmpB x y < 0 := by have := h 0 (by simp); simpa using this
    have h1 : Rises (y :: l) := rises_of_next (y :: l) (fun k hk => by have := h (k + 1) (by simp at hk ⊢; omega); simpa using this)
    refine List.pairwise_cons.2 ⟨fun z hz => ?_, h1⟩
    rcases List.mem_cons.1 hz with rfl | hz
    · exact h0
    · exact cmpB_trans h0 ((List.pairwise_cons.1 h1).1 z hz)
theorem getD_mem (l : List Bl) (k : Nat) (h : k < l.length) : l.getD k bl0 ∈ l := by
  rw [List.getD_eq_getElem?_getD, List.getElem?_eq_getElem h]
  exact List.getElem_mem h
theorem mem_getD {l : List Bl} {x : Bl} (h : x ∈ l) : ∃ k, k < l.length ∧ l.getD k bl0 = x := by
  obtain ⟨k, hk, e⟩ := List.getElem_of_mem h
  exact ⟨k, hk, by rw [List.getD_eq_getElem?_getD, List.getElem?_eq_getElem hk, e]; rfl⟩
theorem Rises.next {l : List Bl} (h : Rises l) (k : Nat) (hk : k + 1 < l.length) : cmpB (l.getD k bl0) (l.getD (k + 1) bl0) < 0 := by
  have := (List.pairwise_iff_getElem.1 h) k (k + 1) (by omega) hk (by omega)
  rw [List.getD_eq_getElem?_getD, List.getElem?_eq_getElem (by omega), List.getD_eq_getElem?_getD, List.getElem?_eq_getElem hk]
  exact this
/-- Right balances. -/
structure Fine (l : List Bl) : Prop where
  len : l.length ≤ 200
  rises : Rises l
  amt : ∀ x ∈ l, -1000000000000000000 ≤ x.amt ∧ x.amt ≤ 1000000000000000000
  ne : ∀ x ∈ l, x.amt ≠ 0
theorem chk_zero {l : List Bl} : chk l = 0 ↔ Fine l := by
  unfold chk
  split
  · rename_i h
    exact ⟨fun h1 => by omega, fun h1 => by have := h1.len; omega⟩
  · rename_i h
    rw [chkTo_zero]
    constructor
    · intro h1
      refine ⟨by omega, rises_of_next l (fun k hk => ?_), fun x hx => ?_, fun x hx => ?_⟩
      · have := (chkAt_zero.1 (h1 (k + 1) hk)).1 (by omega)
        simpa using this
      · obtain ⟨k, hk, rfl⟩ := mem_getD hx
        exact (chkAt_zero.1 (h1 k hk)).2.1
      · obtain ⟨k, hk, rfl⟩ := mem_getD hx
        exact (chkAt_zero.1 (h1 k hk)).2.2
    · intro h1 k hk
      refine chkAt_zero.2 ⟨fun h0 => ?_, h1.amt _ (getD_mem l k hk), h1.ne _ (getD_mem l k hk)⟩
      have := h1.rises.next (k - 1) (by omega)
      rw [show k - 1 + 1 = k by omega] at this
      exact this
/-- What comes of some: in order, none of 0, each place as it is. -/
structure Sums (l R : List Bl) : Prop where
  rises : Rises R
  ne : ∀ x ∈ R, x.amt ≠ 0
  ltot : ∀ k, ltot k R = ltot k l
theorem Sums.uniq {l m R S : List Bl} (h : Sums l R) (k : Sums m S) (e : ∀ k, Go.Proofs.Ythaidbicimiljaa.ltot k l = Go.Proofs.Ythaidbicimiljaa.ltot k m) : R = S :=
  rises_tot h.rises k.rises h.ne k.ne (fun q => by rw [h.ltot, k.ltot, e])
theorem Fine.sums {l : List Bl} (h : Fine l) : Sums l l := ⟨h.rises, h.ne, fun _ => rfl⟩
theorem Sums.amt {l R : List Bl} (h : Sums l R) (hb : ∀ k, -1000000000000000000 ≤ Go.Proofs.Ythaidbicimiljaa.ltot k l ∧ Go.Proofs.Ythaidbicimiljaa.ltot k l ≤ 1000000000000000000) : ∀ x ∈ R, -1000000000000000000 ≤ x.amt ∧ x.amt ≤ 1000000000000000000 := fun x hx => by
  have h1 := ltot_mem h.rises x hx
  rw [h.ltot] at h1
  rw [← h1]
  exact hb _
/-- What is wrong with what is added up. -/
def mgE (a b : List Bl) : Int := if chk a ≠ 0 then chk a else if chk b ≠ 0 then chk b else if 200 < (parts (a ++ b)).length then 4 else if (parts (a ++ b)).all (fun p => decide (-1000000000000000000 ≤ p.zs.sum ∧ p.zs.sum ≤ 1000000000000000000)) = true then 0 else 10
theorem totP_mem : ∀ {ps : List Pt}, (ps.map Pt.key).Nodup → ∀ p ∈ ps, totP p.key ps = p.zs.sum
  | q :: ps, h, p, hp => by
    simp only [List.map_cons, List.nodup_cons] at h
    have hz : ∀ (ps : List Pt) (k : Pk), k ∉ ps.map Pt.key → totP k ps = 0 := by
      intro ps k hk
      induction ps with
      | nil => rfl
      | cons r ps ih =>
        simp only [List.map_cons, List.mem_cons, not_or] at hk
        rw [totP, if_neg (fun e => hk.1 e.symm), ih hk.2]
        rfl
    rcases List.mem_cons.1 hp with rfl | hp
    · rw [totP, if_pos rfl, hz _ _ h.1]; omega
    · rw [totP, if_neg (fun e => h.1 (by rw [e]; exact List.mem_map.2 ⟨p, hp, rfl⟩)), totP_mem h.2 p hp]; omega
/-- Each place's sum is what it has. -/
theorem parts_all {l : List Bl} {P : Int → Prop} : (∀ p ∈ parts l, P p.zs.sum) ↔ ∀ x ∈ l, P (ltot x.key l) := by
  constructor
  · intro h x hx
    obtain ⟨p, hp, e⟩ := List.mem_map.1 ((parts_keys x.key l).2 ⟨x, hx, rfl⟩)
    have := totP_mem (parts_nodup l) p hp
    rw [parts_tot, e] at this
    rw [this]
    exact h p hp
  · intro h p hp
    obtain ⟨x, hx, e⟩ := (parts_keys p.key l).1 (List.mem_map.2 ⟨p, hp, rfl⟩)
    have := totP_mem (parts_nodup l) p hp
    rw [parts_tot, ← e] at this
    rw [← this]
    exact h x hx
/-- Where nothing is wrong. -/
theorem mgE_zero {a b : List Bl} : mgE a b = 0 ↔ Fine a ∧ Fine b ∧ (parts (a ++ b)).length ≤ 200 ∧ ∀ x ∈ a ++ b, -1000000000000000000 ≤ ltot x.key (a ++ b) ∧ ltot x.key (a ++ b) ≤ 1000000000000000000 := by
  unfold mgE
  split
  · rename_i h
    exact ⟨fun h1 => absurd h1 h, fun h1 => absurd (chk_zero.2 h1.1) h⟩
  · rename_i h
    have fa : Fine a := chk_zero.1 (by simpa using h)
    split
    · rename_i h2
      exact ⟨fun h1 => absurd h1 h2, fun h1 => absurd (chk_zero.2 h1.2.1) h2⟩
    · rename_i h2
      have fb : Fine b := chk_zero.1 (by simpa using h2)
      split
      · rename_i h3
        exact ⟨fun h1 => by omega, fun h1 => by have := h1.2.2.1; omega⟩
      · rename_i h3
        have key := parts_all (l := a ++ b) (P := fun z => -1000000000000000000 ≤ z ∧ z ≤ 1000000000000000000)
        split
        · rename_i h4
          refine ⟨fun _ => ⟨fa, fb, by omega, key.1 (fun p hp => ?_)⟩, fun _ => rfl⟩
          have := List.all_eq_true.1 h4 p hp
          simpa using this
        · rename_i h4
          refine ⟨fun h1 => by omega, fun h1 => absurd (List.all_eq_true.2 (fun p hp => ?_)) h4⟩
          have := key.2 h1.2.2.2 p hp
          simpa using this
theorem ltot_all {l : List Bl} (h : ∀ x ∈ l, -1000000000000000000 ≤ ltot x.key l ∧ ltot x.key l ≤ 1000000000000000000) (k : Pk) : -1000000000000000000 ≤ ltot k l ∧ ltot k l ≤ 1000000000000000000 := by
  by_cases e : ltot k l = 0
  · rw [e]; omega
  · obtain ⟨x, hx, rfl⟩ := ltot_ex e
    exact h x hx
end Go.Proofs.Ythaidbicimiljaa
