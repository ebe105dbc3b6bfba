/-
  Accounts in memory; the contracts of slices.IndexFunc over them, of chart.index and chart.checkParent.
-/
import Derived.Test.YtmpjaogomabfiaaDoorCh1
import Derived.Deep.QuietTactic
import Derived.BigQuiet
namespace Go.Proofs.YtmpjaogomabfiaaDoor
set_option linter.unusedVariables false
set_option linter.unusedSimpArgs false
set_option maxRecDepth 100000
open Go.RowKit Go.Lib

theorem ch_ne {a b : ByteArray} (h : a ≠ b) : (a.toList == b.toList) = false := by
  rw [beq_eq_false_iff_ne]
  intro e
  rw [Lib.toList_data, Lib.toList_data] at e
  exact h (WideShapes.bytes_inj e)

theorem ch_empty {a : ByteArray} (h : a.size = 0) : a.toList = [] := by
  rw [Lib.toList_data]
  exact List.eq_nil_of_length_eq_zero h
theorem ch_some {a : ByteArray} (h : a.size ≠ 0) : ¬ a.toList = [] := by
  rw [Lib.toList_data]
  exact fun e => h (congrArg List.length e)

theorem ch_drewN {B : Nat} {a w : World} (h : Below B a w) (n : Nat) : Below B a (w.drewN n) := h.trans ⟨rfl, rfl, rfl, Nat.le_refl _, fun _ _ => rfl⟩

/-- An account. -/
structure Ac where
  code : ByteArray
  name : ByteArray
  kind : Int
  par : ByteArray
  mon : Bool

def Ac.cells (a : Ac) : Array Value := #[.string a.code, .string a.name, .int .i64 a.kind, .string a.par, .bool a.mon]
/-- An account of nothing. -/
def ac0 : Ac := ⟨ByteArray.empty, ByteArray.empty, 0, ByteArray.empty, false⟩

/-- An error by its number. -/
def chE (n : Int) : Value := if n = 0 then .nilIface else .iface 35 (.int .i64 n)
theorem chE_zero : chE 0 = .nilIface := rfl
theorem chE_ne {n : Int} (h : n ≠ 0) : chE n = .iface 35 (.int .i64 n) := if_neg h

structure AcAt (w : World) (b off : Nat) (a : Ac) : Prop where
  c0 : w.cell? ⟨b, off, none⟩ = some (.string a.code)
  c1 : w.cell? ⟨b, off + 1, none⟩ = some (.string a.name)
  c2 : w.cell? ⟨b, off + 2, none⟩ = some (.int .i64 a.kind)
  c3 : w.cell? ⟨b, off + 3, none⟩ = some (.string a.par)
  c4 : w.cell? ⟨b, off + 4, none⟩ = some (.bool a.mon)

theorem AcAt.below {w w' : World} {b off n : Nat} {a : Ac} (h : AcAt w b off a) (hb : Below n w w') (hn : b < n) : AcAt w' b off a :=
  ⟨(hb.cell (p := ⟨b, off, none⟩) hn).trans h.c0, (hb.cell (p := ⟨b, off + 1, none⟩) hn).trans h.c1, (hb.cell (p := ⟨b, off + 2, none⟩) hn).trans h.c2, (hb.cell (p := ⟨b, off + 3, none⟩) hn).trans h.c3, (hb.cell (p := ⟨b, off + 4, none⟩) hn).trans h.c4⟩

theorem AcAt.new (w : World) (a : Ac) (t : TypeId) : AcAt (w.alloc (.cells a.cells t)) w.heap.size 0 a :=
  ⟨by simp [Ac.cells], by simp [Ac.cells], by simp [Ac.cells], by simp [Ac.cells], by simp [Ac.cells]⟩

/-- Accounts in memory. -/
def AcsAt (w : World) (b off : Nat) (l : List Ac) : Prop := ∀ k, k < l.length → AcAt w b (off + k * 5) (l.getD k ac0)

/-- A slice of accounts. -/
structure IsSl (w : World) (a : Option Addr) (l : List Ac) (cap : Nat) : Prop where
  cap : l.length ≤ cap
  lies : l = [] ∨ ∃ b off, a = some ⟨b, off, none⟩ ∧ b < w.heap.size ∧ AcsAt w b off l

theorem IsSl.below {w w' : World} {a : Option Addr} {l : List Ac} {cap : Nat} (h : IsSl w a l cap) (hb : Below w.heap.size w w') : IsSl w' a l cap := by
  refine ⟨h.cap, ?_⟩
  rcases h.lies with h | ⟨b, off, e, hlt, hc⟩
  · exact .inl h
  · exact .inr ⟨b, off, e, by have := hb.size; omega, fun k hk => (hc k hk).below hb hlt⟩

theorem IsSl.take {w : World} {a : Option Addr} {l : List Ac} {cap : Nat} (h : IsSl w a l cap) (k : Nat) : IsSl w a (l.take k) cap := by
  refine ⟨by have := h.cap; simp; omega, ?_⟩
  rcases h.lies with h | ⟨b, off, e, hlt, hc⟩
  · exact .inl (by rw [h]; simp)
  · refine .inr ⟨b, off, e, hlt, fun j hj => ?_⟩
    simp only [List.length_take] at hj
    have : (l.take k).getD j ac0 = l.getD j ac0 := by
      rw [List.getD_eq_getElem?_getD, List.getD_eq_getElem?_getD, List.getElem?_take, if_pos (by omega)]
    rw [this]
    exact hc j (by omega)

theorem acs_drop (l : List Ac) (k : Nat) (h : k < l.length) : l.drop k = l.getD k ac0 :: l.drop (k + 1) := by
  rw [List.drop_eq_getElem_cons h, List.getD_eq_getElem?_getD, List.getElem?_eq_getElem h]
  rfl

/-- The place of the first account for which something holds, counted from a number on; else -1. -/
def idxFrom (p : Ac → Bool) : Nat → List Ac → Int
  | _, [] => -1
  | k, a :: l => if p a = true then (k : Int) else idxFrom p (k + 1) l
def idxP (p : Ac → Bool) (l : List Ac) : Int := idxFrom p 0 l

/-- What is asked of a function that is told an account and says yes or no. -/
structure Tells (g B : Nat) (p : Ac → Bool) (w : World) : Prop where
  eg : ∀ args W, (callFunc g args).run Tryd.prog W = .ok (.enter g args) W
  call : ∀ x W, Below w.heap.size w W → Calls Tryd.prog g #[.agg x.cells, .pointer (some ⟨B, 0, none⟩)] W fun e w' => e = .returned (.bool (p x)) ∧ Below W.heap.size W w'

/-- An account with a code. -/
def hasCode (c : ByteArray) (a : Ac) : Bool := decide (a.code = c)

theorem idxFrom_some (p : Ac → Bool) : ∀ (l : List Ac) (k : Nat), 0 ≤ idxFrom p k l → ∃ j, j < l.length ∧ idxFrom p k l = ((k + j : Nat) : Int) ∧ p (l.getD j ac0) = true ∧ ∀ i, i < j → p (l.getD i ac0) = false
  | [], k, h => by simp [idxFrom] at h
  | a :: l, k, h => by
    by_cases hp : p a = true
    · refine ⟨0, by simp, ?_, ?_, fun i hi => absurd hi (Nat.not_lt_zero _)⟩
      · rw [idxFrom, if_pos hp]; rfl
      · simpa using hp
    · rw [idxFrom, if_neg hp] at h ⊢
      obtain ⟨j, h1, h2, h3, h4⟩ := idxFrom_some p l (k + 1) h
      refine ⟨j + 1, by simpa using h1, by rw [h2]; congr 1; omega, by simpa using h3, fun i hi => ?_⟩
      cases i with
      | zero => simpa using hp
      | succ i => simpa using h4 i (by omega)

theorem idxFrom_none (p : Ac → Bool) : ∀ (l : List Ac) (k : Nat), idxFrom p k l < 0 → ∀ i, i < l.length → p (l.getD i ac0) = false
  | [], k, h, i, hi => by simp at hi
  | a :: l, k, h, i, hi => by
    by_cases hp : p a = true
    · rw [idxFrom, if_pos hp] at h; omega
    · rw [idxFrom, if_neg hp] at h
      cases i with
      | zero => simpa using hp
      | succ i => simpa using idxFrom_none p l (k + 1) h i (by simpa using hi)

theorem idxP_some {p : Ac → Bool} {l : List Ac} (h : 0 ≤ idxP p l) : ∃ j, j < l.length ∧ idxP p l = (j : Int) ∧ p (l.getD j ac0) = true ∧ ∀ i, i < j → p (l.getD i ac0) = false := by
  obtain ⟨j, h1, h2, h3, h4⟩ := idxFrom_some p l 0 h
  exact ⟨j, h1, by rw [idxP, h2]; congr 1; omega, h3, h4⟩
theorem idxP_none {p : Ac → Bool} {l : List Ac} (h : idxP p l < 0) : ∀ i, i < l.length → p (l.getD i ac0) = false := idxFrom_none p l 0 h

/-- What is wrong with an account's parent. -/
def parBad (pre : List Ac) (x : Ac) : Int :=
  if x.par.size = 0 then 0
  else if idxP (hasCode x.par) pre < 0 then 6
  else if (pre.getD (idxP (hasCode x.par) pre).toNat ac0).kind ≠ x.kind then 12 else 0

end Go.Proofs.YtmpjaogomabfiaaDoor
