/-
  The contracts of chart.isCode and chart.isName: of which bytes a text is made.
-/
import Derived.Test.YteoifhnhmjcgmaaProg
import Derived.WalkKit
import Derived.WalkSpells
import Derived.Lib.OthersKept
import Derived.Lib.TrimU
import Derived.Deep.LoopGhost
import Derived.Conc.MuLone
import Derived.Shelf.Abstract
import Derived.Deep.QuietTactic
import Derived.BigQuiet
import Derived.Maps.AppendAt
import Derived.MapKept
import Derived.Deep.AppendLies
import Derived.Laws.NewBlocks
import Derived.Laws.StructEq
import Derived.Laws.Cover1
import Derived.Deep.RegionWith
import Derived.Deep.RegionHeld3
import Derived.BigRegion
namespace Go.Proofs.Yteoifhnhmjcgmaa
set_option linter.unusedVariables false
set_option linter.unusedSimpArgs false
set_option maxRecDepth 100000
open Go.RowKit Go.Lib
theorem bl_self : ∀ a : List UInt8, Op.bytesLess a a = false
  | [] => rfl
  | x :: a => by
    have := bl_self a
    simp [Op.bytesLess, this]

theorem bl_total : ∀ a b : List UInt8, Op.bytesLess a b = false → a ≠ b → Op.bytesLess b a = true
  | [], [], _, h => absurd rfl h
  | [], _ :: _, h, _ => by simp [Op.bytesLess] at h
  | _ :: _, [], _, _ => by simp [Op.bytesLess]
  | x :: a, y :: b, h, hne => by
    simp only [Op.bytesLess, Bool.or_eq_false_iff, decide_eq_false_iff_not, Bool.and_eq_false_iff, beq_eq_false_iff_ne] at h
    obtain ⟨h1, h2⟩ := h
    by_cases e : x = y
    · subst e
      have := bl_total a b (by simpa using h2) (fun e => hne (by rw [e]))
      simp [Op.bytesLess, this]
    · have : y < x := by
        rw [UInt8.lt_iff_toNat_lt] at h1 ⊢
        have : x.toNat ≠ y.toNat := fun h => e (UInt8.toNat_inj.1 h)
        omega
      simp [Op.bytesLess, this]

theorem bl_trans : ∀ a b c : List UInt8, Op.bytesLess a b = true → Op.bytesLess b c = true → Op.bytesLess a c = true
  | _, [], _, h, _ => by cases ‹List UInt8› <;> simp [Op.bytesLess] at h
  | _, _ :: _, [], _, h => by simp [Op.bytesLess] at h
  | [], _ :: _, _ :: _, _, _ => by simp [Op.bytesLess]
  | x :: a, y :: b, z :: c, h1, h2 => by
    simp only [Op.bytesLess, Bool.or_eq_true, decide_eq_true_eq, Bool.and_eq_true, beq_iff_eq] at h1 h2 ⊢
    simp only [UInt8.lt_iff_toNat_lt] at h1 h2 ⊢
    rcases h1 with h1 | ⟨rfl, h1⟩
    · rcases h2 with h2 | ⟨rfl, h2⟩
      · exact .inl (by omega)
      · exact .inl h1
    · rcases h2 with h2 | ⟨rfl, h2⟩
      · exact .inl h2
      · exact .inr ⟨rfl, bl_trans a b c h1 h2⟩

/-- A line. -/
structure Ln where
  acc : ByteArray
  cur : ByteArray
  amt : Int
def Ln.cells (x : Ln) : Array Value := #[.string x.acc, .string x.cur, .int .i64 x.amt]
/-- A line of nothing. -/
def ln0 : Ln := ⟨ByteArray.empty, ByteArray.empty, 0⟩

theorem toList_inj {a b : ByteArray} (h : a.toList = b.toList) : a = b := by
  rw [Lib.toList_data, Lib.toList_data] at h
  exact WideShapes.bytes_inj h

theorem en_ne {a b : ByteArray} (h : a ≠ b) : (a.toList == b.toList) = false := by
  rw [beq_eq_false_iff_ne]
  exact fun e => h (toList_inj e)
theorem en_empty {a : ByteArray} (h : a.size = 0) : a.toList = [] := by
  rw [Lib.toList_data]
  exact List.eq_nil_of_length_eq_zero h
theorem en_some {a : ByteArray} (h : a.size ≠ 0) : ¬ a.toList = [] := by
  rw [Lib.toList_data]
  exact fun e => h (congrArg List.length e)
theorem en_drewN {B : Nat} {a w : World} (h : Below B a w) (n : Nat) : Below B a (w.drewN n) := h.trans ⟨rfl, rfl, rfl, Nat.le_refl _, fun _ _ => rfl⟩
theorem en_enters {f : FuncId} {fn : Func} (hf : Try.prog.funcs[f]? = some fn) (hn : (fn.name == "runtime.NumGoroutine") = false) (hb : ∃ c, fn.body = some c) (args : Array Value) (w : World) : (callFunc f args).run Try.prog w = .ok (.enter f args) w := by
  obtain ⟨c, hc⟩ := hb
  exact MuLone.run_callFunc_enter hf hn hc args w

/-- An error by its number. -/
def enE (n : Int) : Value := if n = 0 then .nilIface else .iface 35 (.int .i64 n)
theorem enE_zero : enE 0 = .nilIface := rfl
theorem enE_ne {n : Int} (h : n ≠ 0) : enE n = .iface 35 (.int .i64 n) := if_neg h

structure LnAt (w : World) (b off : Nat) (x : Ln) : Prop where
  c0 : w.cell? ⟨b, off, none⟩ = some (.string x.acc)
  c1 : w.cell? ⟨b, off + 1, none⟩ = some (.string x.cur)
  c2 : w.cell? ⟨b, off + 2, none⟩ = some (.int .i64 x.amt)

theorem LnAt.below {w w' : World} {b off n : Nat} {a : Ln} (h : LnAt w b off a) (hb : Below n w w') (hn : b < n) : LnAt w' b off a :=
  ⟨(hb.cell (p := ⟨b, off, none⟩) hn).trans h.c0, (hb.cell (p := ⟨b, off + 1, none⟩) hn).trans h.c1, (hb.cell (p := ⟨b, off + 2, none⟩) hn).trans h.c2⟩
theorem LnAt.new (w : World) (a : Ln) (t : TypeId) : LnAt (w.alloc (.cells a.cells t)) w.heap.size 0 a :=
  ⟨by simp [Ln.cells], by simp [Ln.cells], by simp [Ln.cells]⟩

/-- Lines in memory. -/
def LnsAt (w : World) (b off : Nat) (l : List Ln) : Prop := ∀ k, k < l.length → LnAt w b (off + k * 3) (l.getD k ln0)

/-- A slice of lines. -/
structure IsLn (w : World) (a : Option Addr) (l : List Ln) (cap : Nat) : Prop where
  cap : l.length ≤ cap
  lies : l = [] ∨ ∃ b off, a = some ⟨b, off, none⟩ ∧ b < w.heap.size ∧ LnsAt w b off l

theorem IsLn.below {w w' : World} {a : Option Addr} {l : List Ln} {cap : Nat} (h : IsLn w a l cap) (hb : Below w.heap.size w w') : IsLn w' a l cap := by
  refine ⟨h.cap, ?_⟩
  rcases h.lies with h | ⟨b, off, e, hlt, hc⟩
  · exact .inl h
  · exact .inr ⟨b, off, e, by have := hb.size; omega, fun k hk => (hc k hk).below hb hlt⟩

theorem lns_drop (l : List Ln) (k : Nat) (h : k < l.length) : l.drop k = l.getD k ln0 :: l.drop (k + 1) := by
  rw [List.drop_eq_getElem_cons h, List.getD_eq_getElem?_getD, List.getElem?_eq_getElem h]
  rfl
theorem lns_take (l : List Ln) (k : Nat) (h : k < l.length) : l.take (k + 1) = l.take k ++ [l.getD k ln0] := by
  rw [List.take_add_one, List.getElem?_eq_getElem h, List.getD_eq_getElem?_getD, List.getElem?_eq_getElem h]
  rfl
theorem lns_mem (l : List Ln) (k : Nat) (h : k < l.length) : l.getD k ln0 ∈ l := by
  rw [List.getD_eq_getElem?_getD, List.getElem?_eq_getElem h]
  exact List.getElem_mem h

/-- The cells of lines, one behind the other. -/
def lnRow (l : List Ln) : List Value := l.flatMap fun x => x.cells.toList
theorem Ln.cells_length (x : Ln) : x.cells.toList.length = 3 := rfl
theorem lnRow_length : ∀ l : List Ln, (lnRow l).length = l.length * 3
  | [] => rfl
  | x :: l => by
    have := lnRow_length l
    unfold lnRow at *
    simp only [List.flatMap_cons, List.length_append, Ln.cells_length, this, List.length_cons]
    omega
theorem lnRow_append (l m : List Ln) : lnRow (l ++ m) = lnRow l ++ lnRow m := by simp [lnRow]
theorem lnRow_one (x : Ln) : lnRow [x] = x.cells.toList := by simp [lnRow]
theorem lnRow_get : ∀ (l : List Ln) (k j : Nat), k < l.length → j < 3 → (lnRow l)[k * 3 + j]? = (l.getD k ln0).cells.toList[j]?
  | [], _, _, h, _ => absurd h (by simp)
  | x :: l, 0, j, _, hj => by
    simp only [lnRow, List.flatMap_cons, Nat.zero_mul, Nat.zero_add, List.getD_cons_zero]
    rw [List.getElem?_append_left (by rw [Ln.cells_length]; exact hj)]
  | x :: l, k + 1, j, h, hj => by
    have ih := lnRow_get l k j (by simpa using h) hj
    simp only [lnRow, List.flatMap_cons, List.getD_cons_succ] at ih ⊢
    rw [List.getElem?_append_right (by rw [Ln.cells_length]; omega), Ln.cells_length, ← ih]
    congr 1
    omega
theorem lnRow_one_cell (l : List Ln) : ∀ u ∈ lnRow l, u.oneCell' = true := by
  intro u hu
  simp only [lnRow, List.mem_flatMap] at hu
  obtain ⟨x, _, hx⟩ := hu
  simp [Ln.cells] at hx
  rcases hx with rfl | rfl | rfl <;> rfl
theorem lnRow_take (l : List Ln) (k : Nat) : lnRow (l.take k) = (lnRow l).take (k * 3) := by
  have h := lnRow_append (l.take k) (l.drop k)
  rw [List.take_append_drop] at h
  rw [h]
  by_cases hk : k ≤ l.length
  · have : (lnRow (l.take k)).length = k * 3 := by rw [lnRow_length, List.length_take, Nat.min_eq_left hk]
    rw [← this, List.take_left]
  · rw [List.take_of_length_le (by omega), List.drop_eq_nil_of_le (by omega)]
    rw [List.take_of_length_le]
    · show lnRow l = lnRow l ++ []
      simp
    · show (lnRow l ++ []).length ≤ _
      rw [List.append_nil, lnRow_length]
      omega
theorem lnRow_drop (l : List Ln) (k : Nat) : lnRow (l.drop k) = (lnRow l).drop (k * 3) := by
  have h := lnRow_append (l.take k) (l.drop k)
  rw [List.take_append_drop] at h
  have h2 := lnRow_take l k
  have h3 : lnRow l = (lnRow l).take (k * 3) ++ (lnRow l).drop (k * 3) := (List.take_append_drop _ _).symm
  rw [← h2] at h3
  rw [h] at h3
  have := List.append_cancel_left h3
  rw [this]
  rw [h]

/-- Two texts held against each other. -/
def cmpS (a b : ByteArray) : Int := if Op.bytesLess a.toList b.toList = true then -1 else if (a.toList == b.toList) = true then 0 else 1
theorem cmpS_zero {a b : ByteArray} : cmpS a b = 0 ↔ (a.toList == b.toList) = true := by
  unfold cmpS
  split
  · rename_i h
    refine ⟨fun h => by omega, fun e => ?_⟩
    rw [beq_iff_eq] at e
    rw [e, bl_self] at h
    cases h
  · split
    · simp_all
    · simp_all
theorem cmpS_neg {a b : ByteArray} : cmpS a b < 0 ↔ Op.bytesLess a.toList b.toList = true := by
  unfold cmpS
  split
  · simp_all
  · split
    · simp_all
    · simp_all
theorem cmpS_range (a b : ByteArray) : cmpS a b = -1 ∨ cmpS a b = 0 ∨ cmpS a b = 1 := by
  unfold cmpS
  split
  · simp
  · split <;> simp

/-- A balance. -/
structure Bl where
  ent : Int
  acc : ByteArray
  cur : ByteArray
  amt : Int
def Bl.cells (x : Bl) : Array Value := #[.int .i64 x.ent, .string x.acc, .string x.cur, .int .i64 x.amt]
def bl0 : Bl := ⟨0, ByteArray.empty, ByteArray.empty, 0⟩
/-- Two numbers held against each other. -/
def cmpI (a b : Int) : Int := if a < b then -1 else if b < a then 1 else 0
/-- Two balances held against each other. -/
def cmpB (a b : Bl) : Int := if cmpI a.ent b.ent ≠ 0 then cmpI a.ent b.ent else if cmpS a.acc b.acc ≠ 0 then cmpS a.acc b.acc else cmpS a.cur b.cur
structure BlAt (w : World) (b off : Nat) (x : Bl) : Prop where
  c0 : w.cell? ⟨b, off, none⟩ = some (.int .i64 x.ent)
  c1 : w.cell? ⟨b, off + 1, none⟩ = some (.string x.acc)
  c2 : w.cell? ⟨b, off + 2, none⟩ = some (.string x.cur)
  c3 : w.cell? ⟨b, off + 3, none⟩ = some (.int .i64 x.amt)

theorem BlAt.below {w w' : World} {b off n : Nat} {a : Bl} (h : BlAt w b off a) (hb : Below n w w') (hn : b < n) : BlAt w' b off a :=
  ⟨(hb.cell (p := ⟨b, off, none⟩) hn).trans h.c0, (hb.cell (p := ⟨b, off + 1, none⟩) hn).trans h.c1, (hb.cell (p := ⟨b, off + 2, none⟩) hn).trans h.c2, (hb.cell (p := ⟨b, off + 3, none⟩) hn).trans h.c3⟩
theorem BlAt.new (w : World) (a : Bl) (t : TypeId) : BlAt (w.alloc (.cells a.cells t)) w.heap.size 0 a :=
  ⟨by simp [Bl.cells], by simp [Bl.cells], by simp [Bl.cells], by simp [Bl.cells]⟩

/-- Balances in memory. -/
def BlsAt (w : World) (b off : Nat) (l : List Bl) : Prop := ∀ k, k < l.length → BlAt w b (off + k * 4) (l.getD k bl0)

/-- A slice of balances. -/
structure IsBl (w : World) (a : Option Addr) (l : List Bl) (cap : Nat) : Prop where
  cap : l.length ≤ cap
  lies : l = [] ∨ ∃ b off, a = some ⟨b, off, none⟩ ∧ b < w.heap.size ∧ BlsAt w b off l

theorem IsBl.below {w w' : World} {a : Option Addr} {l : List Bl} {cap : Nat} (h : IsBl w a l cap) (hb : Below w.heap.size w w') : IsBl w' a l cap := by
  refine ⟨h.cap, ?_⟩
  rcases h.lies with h | ⟨b, off, e, hlt, hc⟩
  · exact .inl h
  · exact .inr ⟨b, off, e, by have := hb.size; omega, fun k hk => (hc k hk).below hb hlt⟩

theorem bls_drop (l : List Bl) (k : Nat) (h : k < l.length) : l.drop k = l.getD k bl0 :: l.drop (k + 1) := by
  rw [List.drop_eq_getElem_cons h, List.getD_eq_getElem?_getD, List.getElem?_eq_getElem h]
  rfl
theorem bls_take (l : List Bl) (k : Nat) (h : k < l.length) : l.take (k + 1) = l.take k ++ [l.getD k bl0] := by
  rw [List.take_add_one, List.getElem?_eq_getElem h, List.getD_eq_getElem?_getD, List.getElem?_eq_getElem h]
  rfl
theorem bls_mem (l : List Bl) (k : Nat) (h : k < l.length) : l.getD k bl0 ∈ l := by
  rw [List.getD_eq_getElem?_getD, List.getElem?_eq_getElem h]
  exact List.getElem_mem h

/-- The cells of balances, one behind the other. -/
def blRow (l : List Bl) : List Value := l.flatMap fun x => x.cells.toList
theorem Bl.cells_length (x : Bl) : x.cells.toList.length = 4 := rfl
theorem blRow_length : ∀ l : List Bl, (blRow l).length = l.length * 4
  | [] => rfl
  | x :: l => by
    have := blRow_length l
    unfold blRow at *
    simp only [List.flatMap_cons, List.length_append, Bl.cells_length, this, List.length_cons]
    omega
theorem blRow_append (l m : List Bl) : blRow (l ++ m) = blRow l ++ blRow m := by simp [blRow]
theorem blRow_one (x : Bl) : blRow [x] = x.cells.toList := by simp [blRow]
theorem blRow_get : ∀ (l : List Bl) (k j : Nat), k < l.length → j < 4 → (blRow l)[k * 4 + j]? = (l.getD k bl0).cells.toList[j]?
  | [], _, _, h, _ => absurd h (by simp)
  | x :: l, 0, j, _, hj => by
    simp only [blRow, List.flatMap_cons, Nat.zero_mul, Nat.zero_add, List.getD_cons_zero]
    rw [List.getElem?_append_left (by rw [Bl.cells_length]; exact hj)]
  | x :: l, k + 1, j, h, hj => by
    have ih := blRow_get l k j (by simpa using h) hj
    simp only [blRow, List.flatMap_cons, List.getD_cons_succ] at ih ⊢
    rw [List.getElem?_append_right (by rw [Bl.cells_length]; omega), Bl.cells_length, ← ih]
    congr 1
    omega
theorem blRow_one_cell (l : List Bl) : ∀ u ∈ blRow l, u.oneCell' = true := by
  intro u hu
  simp only [blRow, List.mem_flatMap] at hu
  obtain ⟨x, _, hx⟩ := hu
  simp [Bl.cells] at hx
  rcases hx with rfl | rfl | rfl | rfl <;> rfl
theorem blRow_take (l : List Bl) (k : Nat) : blRow (l.take k) = (blRow l).take (k * 4) := by
  have h := blRow_append (l.take k) (l.drop k)
  rw [List.take_append_drop] at h
  rw [h]
  by_cases hk : k ≤ l.length
  · have : (blRow (l.take k)).length = k * 4 := by rw [blRow_length, List.length_take, Nat.min_eq_left hk]
    rw [← this, List.take_left]
  · rw [List.take_of_length_le (by omega), List.drop_eq_nil_of_le (by omega)]
    rw [List.take_of_length_le]
    · show blRow l = blRow l ++ []
      simp
    · show (blRow l ++ []).length ≤ _
      rw [List.append_nil, blRow_length]
      omega
theorem blRow_drop (l : List Bl) (k : Nat) : blRow (l.drop k) = (blRow l).drop (k * 4) := by
  have h := blRow_append (l.take k) (l.drop k)
  rw [List.take_append_drop] at h
  have h2 := blRow_take l k
  have h3 : blRow l = (blRow l).take (k * 4) ++ (blRow l).drop (k * 4) := (List.take_append_drop _ _).symm
  rw [← h2] at h3
  rw [h] at h3
  have := List.append_cancel_left h3
  rw [this]
  rw [h]

/-- Balances in a row of one's own. -/
def BlRow (w : World) (n : Nat) (v : Value) (l : List Bl) : Prop := w.ownsRow n 32 4 v l.length (blRow l)

theorem BlRow.nil (w : World) (n : Nat) : BlRow w n (.slice none 0 0) [] := World.ownsRow_nil _ _ _ _
theorem BlRow.isBl {W : World} {n0 : Nat} {v : Value} {l : List Bl} (h : BlRow W n0 v l) :
    ∃ a cap, v = .slice a l.length cap ∧ IsBl W a l cap := by
  obtain ⟨hlen, ⟨rfl, h0⟩ | ⟨g, cap, cur, rfl, hb, hg, hc, hm, hs, ht⟩⟩ := h
  · have : l = [] := List.eq_nil_of_length_eq_zero h0
    subst this
    exact ⟨none, 0, rfl, Nat.le_refl _, .inl rfl⟩
  · refine ⟨_, cap, rfl, hc, .inr ⟨g, 0, rfl, (Array.getElem?_eq_some_iff.1 hg).1, ?_⟩⟩
    intro k hk
    have C : ∀ j, j < 4 → W.cell? ⟨g, 0 + k * 4 + j, none⟩ = (l.getD k bl0).cells.toList[j]? := fun j hj => by
      have e1 : (blRow l)[k * 4 + j]? = cur[k * 4 + j]? := by
        rw [← ht, List.getElem?_take, if_pos (by omega)]
        simp
      rw [← blRow_get l k j hk hj, e1]
      simp [World.cell?, hg]
    exact ⟨C 0 (by omega), C 1 (by omega), C 2 (by omega), C 3 (by omega)⟩
theorem BlRow.below {w w' : World} {n : Nat} {v : Value} {l : List Bl} (h : BlRow w n v l) (hb : Below w.heap.size w w') : BlRow w' n v l := by
  rcases h.2 with ⟨hv, hn⟩ | ⟨g1, c1, cur, hv, hb1, hh, r⟩
  · exact ⟨h.1, .inl ⟨hv, hn⟩⟩
  · exact ⟨h.1, .inr ⟨g1, c1, cur, hv, hb1, (hb.block g1 (Array.getElem?_eq_some_iff.1 hh).1).trans hh, r⟩⟩
theorem BlRow.mono {w : World} {n m : Nat} {v : Value} {l : List Bl} (h : BlRow w n v l) (hm : m ≤ n) : BlRow w m v l := by
  rcases h.2 with ⟨hv, hn⟩ | ⟨g1, c1, cur, hv, hb1, r⟩
  · exact ⟨h.1, .inl ⟨hv, hn⟩⟩
  · exact ⟨h.1, .inr ⟨g1, c1, cur, hv, by omega, r⟩⟩
theorem BlRow.own {w : World} {n : Nat} {v : Value} {xs : List Bl} (h : BlRow w n v xs) : ∀ j, v.ownBlock = some j → n ≤ j := fun j ej => by
  rcases h.2 with ⟨rfl, _⟩ | ⟨g1, c1, cur, rfl, hg1, _⟩
  · cases ej
  · cases ej; exact hg1


theorem isBl_nil (W : World) : IsBl W none [] 0 := ⟨Nat.le_refl _, .inl rfl⟩
theorem BlRow.isBl' {W : World} {n0 : Nat} {a : Option Addr} {m cap : Nat} {l : List Bl} (h : BlRow W n0 (.slice a m cap) l) : m = l.length ∧ IsBl W a l cap := by
  obtain ⟨a', c', e, hs⟩ := h.isBl
  cases e
  exact ⟨rfl, hs⟩

theorem bl_info : (Try.prog.info? 32).map (fun i => (i.zero, i.size, i.bytes)) = some (some (.agg #[.int .i64 0, .string ByteArray.empty, .string ByteArray.empty, .int .i64 0]), 4, 48) := by kernel_rfl
def I64B (x : Bl) : Prop := (-9223372036854775808 ≤ x.ent ∧ x.ent ≤ 9223372036854775807) ∧ (-9223372036854775808 ≤ x.amt ∧ x.amt ≤ 9223372036854775807)
end Go.Proofs.Yteoifhnhmjcgmaa

namespace Go.Proofs.Yteoifhnhmjcgmaa
set_option linter.unusedVariables false
set_option linter.unusedSimpArgs false
set_option maxRecDepth 100000
open Go.RowKit Go.Lib

/-- A pair. -/
structure Pr where
  ea : Int
  eb : Int
  one : ByteArray
  oth : ByteArray
  dif : ByteArray
def Pr.cells (x : Pr) : Array Value := #[.int .i64 x.ea, .int .i64 x.eb, .string x.one, .string x.oth, .string x.dif]
def pr0 : Pr := ⟨0, 0, ByteArray.empty, ByteArray.empty, ByteArray.empty⟩
structure PrAt (w : World) (b off : Nat) (x : Pr) : Prop where
  c0 : w.cell? ⟨b, off, none⟩ = some (.int .i64 x.ea)
  c1 : w.cell? ⟨b, off + 1, none⟩ = some (.int .i64 x.eb)
  c2 : w.cell? ⟨b, off + 2, none⟩ = some (.string x.one)
  c3 : w.cell? ⟨b, off + 3, none⟩ = some (.string x.oth)
  c4 : w.cell? ⟨b, off + 4, none⟩ = some (.string x.dif)

theorem PrAt.below {w w' : World} {b off n : Nat} {a : Pr} (h : PrAt w b off a) (hb : Below n w w') (hn : b < n) : PrAt w' b off a :=
  ⟨(hb.cell (p := ⟨b, off, none⟩) hn).trans h.c0, (hb.cell (p := ⟨b, off + 1, none⟩) hn).trans h.c1, (hb.cell (p := ⟨b, off + 2, none⟩) hn).trans h.c2, (hb.cell (p := ⟨b, off + 3, none⟩) hn).trans h.c3, (hb.cell (p := ⟨b, off + 4, none⟩) hn).trans h.c4⟩
theorem PrAt.new (w : World) (a : Pr) (t : TypeId) : PrAt (w.alloc (.cells a.cells t)) w.heap.size 0 a :=
  ⟨by simp [Pr.cells], by simp [Pr.cells], by simp [Pr.cells], by simp [Pr.cells], by simp [Pr.cells]⟩

/-- Pairs in memory. -/
def PrsAt (w : World) (b off : Nat) (l : List Pr) : Prop := ∀ k, k < l.length → PrAt w b (off + k * 5) (l.getD k pr0)

/-- A slice of pairs. -/
structure IsPr (w : World) (a : Option Addr) (l : List Pr) (cap : Nat) : Prop where
  cap : l.length ≤ cap
  lies : l = [] ∨ ∃ b off, a = some ⟨b, off, none⟩ ∧ b < w.heap.size ∧ PrsAt w b off l

theorem IsPr.below {w w' : World} {a : Option Addr} {l : List Pr} {cap : Nat} (h : IsPr w a l cap) (hb : Below w.heap.size w w') : IsPr w' a l cap := by
  refine ⟨h.cap, ?_⟩
  rcases h.lies with h | ⟨b, off, e, hlt, hc⟩
  · exact .inl h
  · exact .inr ⟨b, off, e, by have := hb.size; omega, fun k hk => (hc k hk).below hb hlt⟩

theorem prs_drop (l : List Pr) (k : Nat) (h : k < l.length) : l.drop k = l.getD k pr0 :: l.drop (k + 1) := by
  rw [List.drop_eq_getElem_cons h, List.getD_eq_getElem?_getD, List.getElem?_eq_getElem h]
  rfl
theorem prs_take (l : List Pr) (k : Nat) (h : k < l.length) : l.take (k + 1) = l.take k ++ [l.getD k pr0] := by
  rw [List.take_add_one, List.getElem?_eq_getElem h, List.getD_eq_getElem?_getD, List.getElem?_eq_getElem h]
  rfl
theorem prs_mem (l : List Pr) (k : Nat) (h : k < l.length) : l.getD k pr0 ∈ l := by
  rw [List.getD_eq_getElem?_getD, List.getElem?_eq_getElem h]
  exact List.getElem_mem h

/-- The cells of pairs, one behind the other. -/
def prRow (l : List Pr) : List Value := l.flatMap fun x => x.cells.toList
theorem Pr.cells_length (x : Pr) : x.cells.toList.length = 5 := rfl
theorem prRow_length : ∀ l : List Pr, (prRow l).length = l.length * 5
  | [] => rfl
  | x :: l => by
    have := prRow_length l
    unfold prRow at *
    simp only [List.flatMap_cons, List.length_append, Pr.cells_length, this, List.length_cons]
    omega
theorem prRow_append (l m : List Pr) : prRow (l ++ m) = prRow l ++ prRow m := by simp [prRow]
theorem prRow_one (x : Pr) : prRow [x] = x.cells.toList := by simp [prRow]
theorem prRow_get : ∀ (l : List Pr) (k j : Nat), k < l.length → j < 5 → (prRow l)[k * 5 + j]? = (l.getD k pr0).cells.toList[j]?
  | [], _, _, h, _ => absurd h (by simp)
  | x :: l, 0, j, _, hj => by
    simp only [prRow, List.flatMap_cons, Nat.zero_mul, Nat.zero_add, List.getD_cons_zero]
    rw [List.getElem?_append_left (by rw [Pr.cells_length]; exact hj)]
  | x :: l, k + 1, j, h, hj => by
    have ih := prRow_get l k j (by simpa using h) hj
    simp only [prRow, List.flatMap_cons, List.getD_cons_succ] at ih ⊢
    rw [List.getElem?_append_right (by rw [Pr.cells_length]; omega), Pr.cells_length, ← ih]
    congr 1
    omega
theorem prRow_one_cell (l : List Pr) : ∀ u ∈ prRow l, u.oneCell' = true := by
  intro u hu
  simp only [prRow, List.mem_flatMap] at hu
  obtain ⟨x, _, hx⟩ := hu
  simp [Pr.cells] at hx
  rcases hx with rfl | rfl | rfl | rfl | rfl <;> rfl
theorem prRow_take (l : List Pr) (k : Nat) : prRow (l.take k) = (prRow l).take (k * 5) := by
  have h := prRow_append (l.take k) (l.drop k)
  rw [List.take_append_drop] at h
  rw [h]
  by_cases hk : k ≤ l.length
  · have : (prRow (l.take k)).length = k * 5 := by rw [prRow_length, List.length_take, Nat.min_eq_left hk]
    rw [← this, List.take_left]
  · rw [List.take_of_length_le (by omega), List.drop_eq_nil_of_le (by omega)]
    rw [List.take_of_length_le]
    · show prRow l = prRow l ++ []
      simp
    · show (prRow l ++ []).length ≤ _
      rw [List.append_nil, prRow_length]
      omega
theorem prRow_drop (l : List Pr) (k : Nat) : prRow (l.drop k) = (prRow l).drop (k * 5) := by
  have h := prRow_append (l.take k) (l.drop k)
  rw [List.take_append_drop] at h
  have h2 := prRow_take l k
  have h3 : prRow l = (prRow l).take (k * 5) ++ (prRow l).drop (k * 5) := (List.take_append_drop _ _).symm
  rw [← h2] at h3
  rw [h] at h3
  have := List.append_cancel_left h3
  rw [this]
  rw [h]

/-- Pairs in a row of one's own. -/
def PrRow (w : World) (n : Nat) (v : Value) (l : List Pr) : Prop := w.ownsRow n 25 5 v l.length (prRow l)

theorem PrRow.nil (w : World) (n : Nat) : PrRow w n (.slice none 0 0) [] := World.ownsRow_nil _ _ _ _
theorem PrRow.isPr {W : World} {n0 : Nat} {v : Value} {l : List Pr} (h : PrRow W n0 v l) :
    ∃ a cap, v = .slice a l.length cap ∧ IsPr W a l cap := by
  obtain ⟨hlen, ⟨rfl, h0⟩ | ⟨g, cap, cur, rfl, hb, hg, hc, hm, hs, ht⟩⟩ := h
  · have : l = [] := List.eq_nil_of_length_eq_zero h0
    subst this
    exact ⟨none, 0, rfl, Nat.le_refl _, .inl rfl⟩
  · refine ⟨_, cap, rfl, hc, .inr ⟨g, 0, rfl, (Array.getElem?_eq_some_iff.1 hg).1, ?_⟩⟩
    intro k hk
    have C : ∀ j, j < 5 → W.cell? ⟨g, 0 + k * 5 + j, none⟩ = (l.getD k pr0).cells.toList[j]? := fun j hj => by
      have e1 : (prRow l)[k * 5 + j]? = cur[k * 5 + j]? := by
        rw [← ht, List.getElem?_take, if_pos (by omega)]
        simp
      rw [← prRow_get l k j hk hj, e1]
      simp [World.cell?, hg]
    exact ⟨C 0 (by omega), C 1 (by omega), C 2 (by omega), C 3 (by omega), C 4 (by omega)⟩
theorem PrRow.below {w w' : World} {n : Nat} {v : Value} {l : List Pr} (h : PrRow w n v l) (hb : Below w.heap.size w w') : PrRow w' n v l := by
  rcases h.2 with ⟨hv, hn⟩ | ⟨g1, c1, cur, hv, hb1, hh, r⟩
  · exact ⟨h.1, .inl ⟨hv, hn⟩⟩
  · exact ⟨h.1, .inr ⟨g1, c1, cur, hv, hb1, (hb.block g1 (Array.getElem?_eq_some_iff.1 hh).1).trans hh, r⟩⟩
theorem PrRow.mono {w : World} {n m : Nat} {v : Value} {l : List Pr} (h : PrRow w n v l) (hm : m ≤ n) : PrRow w m v l := by
  rcases h.2 with ⟨hv, hn⟩ | ⟨g1, c1, cur, hv, hb1, r⟩
  · exact ⟨h.1, .inl ⟨hv, hn⟩⟩
  · exact ⟨h.1, .inr ⟨g1, c1, cur, hv, by omega, r⟩⟩
theorem PrRow.own {w : World} {n : Nat} {v : Value} {xs : List Pr} (h : PrRow w n v xs) : ∀ j, v.ownBlock = some j → n ≤ j := fun j ej => by
  rcases h.2 with ⟨rfl, _⟩ | ⟨g1, c1, cur, rfl, hg1, _⟩
  · cases ej
  · cases ej; exact hg1


theorem isPr_nil (W : World) : IsPr W none [] 0 := ⟨Nat.le_refl _, .inl rfl⟩
theorem PrRow.isPr' {W : World} {n0 : Nat} {a : Option Addr} {m cap : Nat} {l : List Pr} (h : PrRow W n0 (.slice a m cap) l) : m = l.length ∧ IsPr W a l cap := by
  obtain ⟨a', c', e, hs⟩ := h.isPr
  cases e
  exact ⟨rfl, hs⟩

theorem pr_info : (Try.prog.info? 25).map (fun i => (i.zero, i.size, i.bytes)) = some (some (.agg #[.int .i64 0, .int .i64 0, .string ByteArray.empty, .string ByteArray.empty, .string ByteArray.empty]), 5, 64) := by kernel_rfl
theorem IsPr.some {w : World} {a : Option Addr} {l : List Pr} {cap k : Nat} (h : IsPr w a l cap) (hk : k < l.length) : ∃ b off, a = some ⟨b, off, none⟩ ∧ b < w.heap.size ∧ PrsAt w b off l := by
  rcases h.lies with h | h
  · rw [h] at hk; simp at hk
  · exact h
theorem isPr_one {W : World} {b : Nat} {x : Pr} (h : PrAt W b 0 x) (hb : b < W.heap.size) : IsPr W (some ⟨b, 0, none⟩) [x] 1 := by
  refine ⟨Nat.le_refl _, .inr ⟨b, 0, rfl, hb, fun k hk => ?_⟩⟩
  have e : k = 0 := by simp at hk; omega
  subst e
  exact h
end Go.Proofs.Yteoifhnhmjcgmaa

namespace Go.Proofs.Yteoifhnhmjcgmaa
set_option linter.unusedVariables false
set_option linter.unusedSimpArgs false
open Go.RowKit Go.Lib

/-- A digit. -/
def digR (r : Nat) : Bool := decide (48 ≤ r) && decide (r ≤ 57)
/-- A sign of a name. -/
def namR (r : Nat) : Bool := (decide (97 ≤ r) && decide (r ≤ 122)) || (decide (65 ≤ r) && decide (r ≤ 90)) || digR r || decide (r = 45)

theorem digR_low {r : Nat} (h : digR r = true) : r < 128 := by simp [digR] at h; omega
theorem namR_low {r : Nat} (h : namR r = true) : r < 128 := by simp [namR, digR] at h; omega

/-- Where the first sign stands that does not fit, from a place on, among at most so many; else -1. -/
def strayFrom (p : Nat → Bool) (s : ByteArray) : Nat → Nat → Int
  | 0, _ => -1
  | f + 1, pos => if pos < s.size then (if p (Utf8.decode s pos).1 = true then strayFrom p s f (pos + (Utf8.decode s pos).2) else (pos : Int)) else -1

theorem strayFrom_end (p : Nat → Bool) (s : ByteArray) (f pos : Nat) (h : ¬ pos < s.size) : strayFrom p s f pos = -1 := by cases f <;> simp [strayFrom, h]

/-- All signs from a place on fit. -/
def fitsFrom (p : Nat → Bool) (s : ByteArray) (pos : Nat) : Prop := ∀ i, pos ≤ i → i < s.size → p (s.get! i).toNat = true

theorem stray_fits (p : Nat → Bool) (hp : ∀ r, p r = true → r < 128) (s : ByteArray) : ∀ (f pos : Nat), s.size ≤ pos + f → (strayFrom p s f pos < 0 ↔ fitsFrom p s pos)
  | 0, pos, h => by
    simp only [strayFrom]
    exact ⟨fun _ i h1 h2 => by omega, fun _ => by omega⟩
  | f + 1, pos, h => by
    by_cases hlt : pos < s.size
    · have hg : s.get! pos = s[pos]'hlt := by
        show s.data[pos]! = s.data[pos]'hlt
        exact getElem!_pos s.data pos hlt
      rw [strayFrom, if_pos hlt]
      by_cases ha : (s[pos]'hlt).toNat < 128
      · rw [decode_ascii s pos hlt ha]
        by_cases hc : p (s[pos]'hlt).toNat = true
        · rw [if_pos hc, stray_fits p hp s f (pos + 1) (by omega)]
          constructor
          · intro hf i h1 h2
            by_cases e : i = pos
            · subst e; rw [hg]; exact hc
            · exact hf i (by omega) h2
          · intro hf i h1 h2
            exact hf i (by omega) h2
        · rw [if_neg hc]
          refine ⟨fun h => by omega, fun hf => ?_⟩
          have := hf pos (Nat.le_refl _) hlt
          rw [hg] at this
          exact absurd this hc
      · have hd := (decode_high s pos hlt (by omega)).1
        rw [if_neg (fun h => by have := hp _ h; omega)]
        refine ⟨fun h => by omega, fun hf => ?_⟩
        have := hp _ (hf pos (Nat.le_refl _) hlt)
        rw [hg] at this
        omega
    · rw [strayFrom_end p s _ _ hlt]
      exact ⟨fun _ i h1 h2 => by omega, fun _ => by omega⟩

/-- Is a text of 1 to so many bytes, all of which fit? -/
def madeOf (p : Nat → Bool) (most : Nat) (s : ByteArray) : Bool := decide (s.size ≠ 0) && (decide (s.size ≤ most) && decide (strayFrom p s s.size 0 < 0))

theorem madeOf_iff {p : Nat → Bool} (hp : ∀ r, p r = true → r < 128) {most : Nat} {s : ByteArray} : madeOf p most s = true ↔ s.size ≠ 0 ∧ s.size ≤ most ∧ ∀ i, i < s.size → p (s.get! i).toNat = true := by
  unfold madeOf
  simp only [Bool.and_eq_true, decide_eq_true_eq]
  rw [stray_fits p hp s s.size 0 (by omega)]
  exact ⟨fun ⟨a, b, c⟩ => ⟨a, b, fun i hi => c i (Nat.zero_le _) hi⟩, fun ⟨a, b, c⟩ => ⟨a, b, fun i _ hi => c i hi⟩⟩

def isCodeB (s : ByteArray) : Bool := madeOf digR 6 s
def isNameB (s : ByteArray) : Bool := madeOf namR 24 s

/-- What is asked of a function that says which signs fit. -/
structure ChFits (g : Nat) (p : Nat → Bool) : Prop where
  eg : ∀ args w, (callFunc g args).run Try.prog w = .ok (.enter g args) w
  call : ∀ (r : Nat) w, Calls Try.prog g #[.int .i32 r] w fun e w' => e = .returned (.bool (p r)) ∧ w' = w

theorem enters {f : FuncId} {fn : Func} (hf : Try.prog.funcs[f]? = some fn) (hn : (fn.name == "runtime.NumGoroutine") = false) (hb : ∃ c, fn.body = some c) (args : Array Value) (w : World) : (callFunc f args).run Try.prog w = .ok (.enter f args) w := by
  obtain ⟨c, hc⟩ := hb
  exact MuLone.run_callFunc_enter hf hn hc args w
end Go.Proofs.Yteoifhnhmjcgmaa
