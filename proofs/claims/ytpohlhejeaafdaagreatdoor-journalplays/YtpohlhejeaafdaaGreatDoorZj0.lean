/-
  The contract of entry.isRef.
-/
import Derived.Test.YtpohlhejeaafdaaGreatDoorProg
import Derived.WalkKit
import Derived.WalkSpells
import Derived.Lib.OthersKept
import Derived.Lib.TrimU
import Derived.Deep.LoopGhost
import Derived.Conc.MuLone
import Derived.Shelf.Abstract
import Derived.Below
import Derived.Deep.QuietTactic
import Derived.BigQuiet
namespace Go.Proofs.YtpohlhejeaafdaaGreatDoor
set_option linter.unusedVariables false
set_option linter.unusedSimpArgs false
open Go.RowKit

theorem bl_self : ∀ a : List UInt8, Op.bytesLess a a = false
  | [] => rfl
  | x :: a => by
    have := bl_self a
    simp [Op.bytesLess, this]

theorem bl_total : ∀ a b : List UInt8, Op.bytesLess a b = false → a ≠ b → Op.bytesLess b a = true
  | [], [], _, h => absurd rfl h
  | [], _ :: _, h, _ => by simp [Op.bytesLess] at h
  | _ :: _, [], _, _ => by simp [Op.bytesLess]
  | x :: a, y :: b, h, hne => by
    simp only [Op.bytesLess, Bool.or_eq_false_iff, decide_eq_false_iff_not, Bool.and_eq_false_iff, beq_eq_false_iff_ne] at h
    obtain ⟨h1, h2⟩ := h
    by_cases e : x = y
    · subst e
      have := bl_total a b (by simpa using h2) (fun e => hne (by rw [e]))
      simp [Op.bytesLess, this]
    · have : y < x := by
        rw [UInt8.lt_iff_toNat_lt] at h1 ⊢
        have : x.toNat ≠ y.toNat := fun h => e (UInt8.toNat_inj.1 h)
        omega
      simp [Op.bytesLess, this]

theorem bl_trans : ∀ a b c : List UInt8, Op.bytesLess a b = true → Op.bytesLess b c = true → Op.bytesLess a c = true
  | _, [], _, h, _ => by cases ‹List UInt8› <;> simp [Op.bytesLess] at h
  | _, _ :: _, [], _, h => by simp [Op.bytesLess] at h
  | [], _ :: _, _ :: _, _, _ => by simp [Op.bytesLess]
  | x :: a, y :: b, z :: c, h1, h2 => by
    simp only [Op.bytesLess, Bool.or_eq_true, decide_eq_true_eq, Bool.and_eq_true, beq_iff_eq] at h1 h2 ⊢
    simp only [UInt8.lt_iff_toNat_lt] at h1 h2 ⊢
    rcases h1 with h1 | ⟨rfl, h1⟩
    · rcases h2 with h2 | ⟨rfl, h2⟩
      · exact .inl (by omega)
      · exact .inl h1
    · rcases h2 with h2 | ⟨rfl, h2⟩
      · exact .inl h2
      · exact .inr ⟨rfl, bl_trans a b c h1 h2⟩

/-- A line. -/
structure Ln where
  acc : ByteArray
  cur : ByteArray
  amt : Int
def Ln.cells (x : Ln) : Array Value := #[.string x.acc, .string x.cur, .int .i64 x.amt]
/-- A line of nothing. -/
def ln0 : Ln := ⟨ByteArray.empty, ByteArray.empty, 0⟩

theorem toList_inj {a b : ByteArray} (h : a.toList = b.toList) : a = b := by
  rw [Lib.toList_data, Lib.toList_data] at h
  exact WideShapes.bytes_inj h

/-- A line stands ahead of another one, by account, then currency. -/
def lnLt (a b : Ln) : Bool := Op.bytesLess a.acc.toList b.acc.toList || (a.acc.toList == b.acc.toList && Op.bytesLess a.cur.toList b.cur.toList)
/-- Two lines are of the same account and currency. -/
def lnEq (a b : Ln) : Bool := a.acc.toList == b.acc.toList && a.cur.toList == b.cur.toList

theorem lnEq_iff {a b : Ln} : lnEq a b = true ↔ a.acc = b.acc ∧ a.cur = b.cur := by
  unfold lnEq
  simp only [Bool.and_eq_true, beq_iff_eq]
  exact ⟨fun h => ⟨toList_inj h.1, toList_inj h.2⟩, fun h => ⟨by rw [h.1], by rw [h.2]⟩⟩

theorem lnLt_self (a : Ln) : lnLt a a = false := by simp [lnLt, bl_self]
theorem lnLt_eq {a b : Ln} (h : lnEq a b = true) : lnLt a b = false := by
  obtain ⟨h1, h2⟩ := lnEq_iff.1 h
  simp [lnLt, h1, h2, bl_self]
theorem lnLt_key {a b c : Ln} (h : lnEq b c = true) : lnLt a b = lnLt a c ∧ lnLt b a = lnLt c a := by
  obtain ⟨h1, h2⟩ := lnEq_iff.1 h
  simp [lnLt, h1, h2]
theorem lnLt_total {a b : Ln} (h : lnLt a b = false) (hn : lnEq a b = false) : lnLt b a = true := by
  unfold lnLt at *
  unfold lnEq at hn
  simp only [Bool.or_eq_false_iff, Bool.and_eq_false_iff, beq_eq_false_iff_ne, Bool.or_eq_true, Bool.and_eq_true, beq_iff_eq] at h hn ⊢
  obtain ⟨h1, h2⟩ := h
  by_cases e : a.acc.toList = b.acc.toList
  · right
    refine ⟨e.symm, bl_total _ _ ?_ ?_⟩
    · rcases h2 with h2 | h2
      · exact absurd e h2
      · exact h2
    · rcases hn with hn | hn
      · exact absurd e hn
      · exact hn
  · exact .inl (bl_total _ _ h1 e)
theorem lnLt_trans {a b c : Ln} (h1 : lnLt a b = true) (h2 : lnLt b c = true) : lnLt a c = true := by
  unfold lnLt at *
  simp only [Bool.or_eq_true, Bool.and_eq_true, beq_iff_eq] at h1 h2 ⊢
  rcases h1 with h1 | ⟨e1, h1⟩
  · rcases h2 with h2 | ⟨e2, h2⟩
    · exact .inl (bl_trans _ _ _ h1 h2)
    · exact .inl (by rw [← e2]; exact h1)
  · rcases h2 with h2 | ⟨e2, h2⟩
    · exact .inl (by rw [e1]; exact h2)
    · exact .inr ⟨e1.trans e2, bl_trans _ _ _ h1 h2⟩
theorem lnLt_asymm {a b : Ln} (h : lnLt a b = true) : lnLt b a = false := by
  cases h2 : lnLt b a
  · rfl
  · have := lnLt_trans h h2
    rw [lnLt_self] at this
    cases this

/-- How many stand ahead of a line. -/
def posL (x : Ln) : List Ln → Nat
  | [] => 0
  | y :: l => if lnLt y x = true then posL x l + 1 else 0
/-- A line put to those in order. -/
def insL (x : Ln) : List Ln → List Ln
  | [] => [x]
  | y :: l => if lnLt y x = true then y :: insL x l else if lnEq y x = true then ⟨y.acc, y.cur, y.amt + x.amt⟩ :: l else x :: y :: l
/-- What is alike together, in order. -/
def grp (l : List Ln) : List Ln := l.foldl (fun r x => insL x r) []
theorem grp_snoc (l : List Ln) (x : Ln) : grp (l ++ [x]) = insL x (grp l) := by simp [grp]

/-- Lines in order. -/
def SortL (l : List Ln) : Prop := l.Pairwise fun a b => lnLt a b = true

theorem posL_le (x : Ln) : ∀ l : List Ln, posL x l ≤ l.length
  | [] => Nat.le_refl _
  | y :: l => by
    have := posL_le x l
    rw [posL]
    split
    · simp only [List.length_cons]; omega
    · exact Nat.zero_le _
theorem posL_lt (x : Ln) : ∀ (l : List Ln) (h : Nat), h < posL x l → lnLt (l.getD h ln0) x = true
  | [], h, hh => by simp [posL] at hh
  | y :: l, h, hh => by
    rw [posL] at hh
    split at hh
    · rename_i hy
      cases h with
      | zero => simpa using hy
      | succ h => simpa using posL_lt x l h (by omega)
    · omega
theorem posL_at (x : Ln) : ∀ (l : List Ln), posL x l < l.length → lnLt (l.getD (posL x l) ln0) x = false
  | [], h => by simp at h
  | y :: l, h => by
    rw [posL] at h ⊢
    split
    · rename_i hy
      rw [if_pos hy] at h
      simpa using posL_at x l (by simpa using h)
    · rename_i hy
      simpa using hy
theorem sort_lt {l : List Ln} (h : SortL l) {i j : Nat} (hij : i < j) (hj : j < l.length) : lnLt (l.getD i ln0) (l.getD j ln0) = true := by
  have := List.pairwise_iff_getElem.1 h i j (by omega) hj hij
  rw [List.getD_eq_getElem?_getD, List.getD_eq_getElem?_getD, List.getElem?_eq_getElem hj, List.getElem?_eq_getElem (by omega : i < l.length)]
  exact this
theorem pos_iff {l : List Ln} (hs : SortL l) (x : Ln) {h : Nat} (hh : h < l.length) : lnLt (l.getD h ln0) x = decide (h < posL x l) := by
  by_cases hp : h < posL x l
  · rw [posL_lt x l h hp, decide_eq_true hp]
  · rw [decide_eq_false hp]
    have hq := posL_at x l (by omega)
    by_cases e : h = posL x l
    · rw [e]; exact hq
    · cases h2 : lnLt (l.getD h ln0) x
      · rfl
      · have := lnLt_trans (sort_lt hs (by omega : posL x l < h) hh) h2
        rw [hq] at this
        cases this

theorem insL_found (x : Ln) : ∀ (l : List Ln), posL x l < l.length → lnEq (l.getD (posL x l) ln0) x = true → insL x l = l.set (posL x l) ⟨(l.getD (posL x l) ln0).acc, (l.getD (posL x l) ln0).cur, (l.getD (posL x l) ln0).amt + x.amt⟩
  | [], h, _ => by simp at h
  | y :: l, h, he => by
    by_cases hy : lnLt y x = true
    · rw [posL, if_pos hy] at h he ⊢
      rw [insL, if_pos hy]
      simp only [List.getD_cons_succ, List.set_cons_succ] at he ⊢
      rw [insL_found x l (by simpa using h) he]
    · rw [posL, if_neg hy] at h he ⊢
      simp only [List.getD_cons_zero, List.set_cons_zero] at he ⊢
      rw [insL, if_neg hy, if_pos he]
theorem insL_new (x : Ln) : ∀ (l : List Ln), (posL x l < l.length → lnEq (l.getD (posL x l) ln0) x = false) → insL x l = l.take (posL x l) ++ x :: l.drop (posL x l)
  | [], _ => rfl
  | y :: l, he => by
    by_cases hy : lnLt y x = true
    · rw [posL, if_pos hy] at he ⊢
      rw [insL, if_pos hy, insL_new x l (fun h => by simpa using he (by simpa using h))]
      rfl
    · rw [posL, if_neg hy] at he ⊢
      have := he (by simp)
      simp only [List.getD_cons_zero] at this
      rw [insL, if_neg hy, if_neg (by rw [this]; simp)]
      rfl
theorem insL_length (x : Ln) : ∀ l : List Ln, (insL x l).length ≤ l.length + 1
  | [] => Nat.le_refl _
  | y :: l => by
    have := insL_length x l
    rw [insL]
    split
    · simp only [List.length_cons]; omega
    · split <;> simp
theorem grp_length_from : ∀ (l r : List Ln), (l.foldl (fun r x => insL x r) r).length ≤ r.length + l.length
  | [], r => by simp
  | x :: l, r => by
    have h1 := grp_length_from l (insL x r)
    have h2 := insL_length x r
    simp only [List.foldl_cons, List.length_cons]
    omega
theorem grp_length (l : List Ln) : (grp l).length ≤ l.length := by
  have := grp_length_from l []
  simpa [grp] using this

theorem insL_mem (x : Ln) : ∀ (l : List Ln) (z : Ln), z ∈ insL x l → (∃ y ∈ l, lnEq z y = true) ∨ lnEq z x = true
  | [], z, h => by
    simp only [insL, List.mem_singleton] at h
    subst h
    exact .inr (lnEq_iff.2 ⟨rfl, rfl⟩)
  | y :: l, z, h => by
    rw [insL] at h
    split at h
    · rcases List.mem_cons.1 h with rfl | h
      · exact .inl ⟨z, by simp, lnEq_iff.2 ⟨rfl, rfl⟩⟩
      · rcases insL_mem x l z h with ⟨w, hw, e⟩ | e
        · exact .inl ⟨w, by simp [hw], e⟩
        · exact .inr e
    · split at h
      · rcases List.mem_cons.1 h with rfl | h
        · exact .inl ⟨y, by simp, lnEq_iff.2 ⟨rfl, rfl⟩⟩
        · exact .inl ⟨z, by simp [h], lnEq_iff.2 ⟨rfl, rfl⟩⟩
      · rcases List.mem_cons.1 h with rfl | h
        · exact .inr (lnEq_iff.2 ⟨rfl, rfl⟩)
        · exact .inl ⟨z, h, lnEq_iff.2 ⟨rfl, rfl⟩⟩
theorem insL_sort (x : Ln) : ∀ (l : List Ln), SortL l → SortL (insL x l)
  | [], _ => by simp [SortL, insL]
  | y :: l, h => by
    have h1 : ∀ z ∈ l, lnLt y z = true := (List.pairwise_cons.1 h).1
    have h2 : SortL l := (List.pairwise_cons.1 h).2
    rw [insL]
    split
    · rename_i hy
      refine List.pairwise_cons.2 ⟨fun z hz => ?_, insL_sort x l h2⟩
      rcases insL_mem x l z hz with ⟨w, hw, e⟩ | e
      · rw [(lnLt_key e).1]; exact h1 w hw
      · rw [(lnLt_key e).1]; exact hy
    · rename_i hy
      split
      · exact List.pairwise_cons.2 ⟨fun z hz => by
          have := h1 z hz
          rw [← (lnLt_key (a := z) (b := ⟨y.acc, y.cur, y.amt + x.amt⟩) (c := y) (lnEq_iff.2 ⟨rfl, rfl⟩)).2] at this
          exact this, h2⟩
      · rename_i he
        have hxy : lnLt x y = true := lnLt_total (by simpa using hy) (by simpa using he)
        refine List.pairwise_cons.2 ⟨fun z hz => ?_, h⟩
        rcases List.mem_cons.1 hz with rfl | hz
        · exact hxy
        · exact lnLt_trans hxy (h1 z hz)
theorem grp_sort_from : ∀ (l r : List Ln), SortL r → SortL (l.foldl (fun r x => insL x r) r)
  | [], r, h => h
  | x :: l, r, h => grp_sort_from l _ (insL_sort x r h)
theorem grp_sort (l : List Ln) : SortL (grp l) := grp_sort_from l [] List.Pairwise.nil

/-- All amounts lie within a number. -/
def Within (m : Int) (l : List Ln) : Prop := ∀ x ∈ l, -m ≤ x.amt ∧ x.amt ≤ m
theorem within_ins {m k : Int} (hk : 0 ≤ k) (x : Ln) (hx : -m ≤ x.amt ∧ x.amt ≤ m) : ∀ l : List Ln, Within k l → Within (k + m) (insL x l)
  | [], _ => by
    intro z hz
    simp only [insL, List.mem_singleton] at hz
    subst hz
    omega
  | y :: l, h => by
    have h1 := h y (by simp)
    have h2 : Within k l := fun z hz => h z (by simp [hz])
    rw [insL]
    split
    · intro z hz
      rcases List.mem_cons.1 hz with rfl | hz
      · omega
      · exact within_ins hk x hx l h2 z hz
    · split
      · intro z hz
        rcases List.mem_cons.1 hz with rfl | hz
        · simp only; omega
        · have := h2 z hz; omega
      · intro z hz
        rcases List.mem_cons.1 hz with rfl | hz
        · omega
        · have := h z hz; omega
theorem within_grp_from {m : Int} (hm : 0 ≤ m) : ∀ (l r : List Ln) (k : Int), 0 ≤ k → Within m l → Within k r → Within (k + l.length * m) (l.foldl (fun r x => insL x r) r)
  | [], r, k, hk, _, h => by simpa using h
  | x :: l, r, k, hk, hl, h => by
    have := within_grp_from hm l (insL x r) (k + m) (by omega) (fun z hz => hl z (by simp [hz])) (within_ins hk x (hl x (by simp)) r h)
    have e : k + ((x :: l).length : Int) * m = k + m + (l.length : Int) * m := by
      simp only [List.length_cons, Int.natCast_add, Int.natCast_one]
      rw [Int.add_mul]
      omega
    rw [e]
    exact this
theorem within_grp {m : Int} (hm : 0 ≤ m) {l : List Ln} (h : Within m l) : Within (l.length * m) (grp l) := by
  have := within_grp_from hm l [] 0 (Int.le_refl _) h (fun z hz => by simp at hz)
  simpa [grp] using this
end Go.Proofs.YtpohlhejeaafdaaGreatDoor

namespace Go.Proofs.YtpohlhejeaafdaaGreatDoor
set_option linter.unusedVariables false
set_option linter.unusedSimpArgs false
set_option maxRecDepth 100000
open Go.RowKit Go.Lib

/-- Is a number from 1 to another one? -/
def upTo (n m : Int) : Bool := decide (1 ≤ n) && decide (n ≤ m)
theorem upTo_iff {n m : Int} : upTo n m = true ↔ 1 ≤ n ∧ n ≤ m := by simp [upTo]
/-- The greatest amount. -/
def mostA : Int := 1000000000000000
def isAmtB (n : Int) : Bool := decide (-1000000000000000 ≤ n) && decide (n ≤ 1000000000000000)
theorem isAmtB_iff {n : Int} : isAmtB n = true ↔ -mostA ≤ n ∧ n ≤ mostA := by
  simp [isAmtB, mostA]
theorem isAmount_any (n : Int) (w : World) :
    Calls Tryz.prog 63 #[.int .i64 n] w fun e w' => e = .returned (.bool (isAmtB n)) ∧ w' = w := by
  by_cases h : -1000000000000000 ≤ n
  · have : isAmtB n = decide (n ≤ 1000000000000000) := by simp [isAmtB, h]
    rw [this]
    go_enter Tryz.func63, Tryz.ntmps63
    go_wp2
    go_ret
    exact ⟨rfl, rfl⟩
  · have : isAmtB n = false := by simp [isAmtB, h]
    rw [this]
    go_enter Tryz.func63, Tryz.ntmps63
    go_wp2
    go_ret
    exact ⟨rfl, rfl⟩
theorem isEntity_any (n : Int) (w : World) :
    Calls Tryz.prog 60 #[.int .i64 n] w fun e w' => e = .returned (.bool (upTo n 12)) ∧ w' = w := by
  by_cases h : 1 ≤ n
  · have e1 : upTo n 12 = decide (n ≤ 12) := by simp [upTo, h]
    rw [e1]
    go_enter Tryz.func60, Tryz.ntmps60
    go_wp2
    go_ret
    exact ⟨rfl, rfl⟩
  · have e1 : upTo n 12 = false := by simp [upTo, h]
    rw [e1]
    go_enter Tryz.func60, Tryz.ntmps60
    go_wp2
    go_ret
    exact ⟨rfl, rfl⟩
theorem isPeriod_any (n : Int) (w : World) :
    Calls Tryz.prog 61 #[.int .i64 n] w fun e w' => e = .returned (.bool (upTo n 120)) ∧ w' = w := by
  by_cases h : 1 ≤ n
  · have e1 : upTo n 120 = decide (n ≤ 120) := by simp [upTo, h]
    rw [e1]
    go_enter Tryz.func61, Tryz.ntmps61
    go_wp2
    go_ret
    exact ⟨rfl, rfl⟩
  · have e1 : upTo n 120 = false := by simp [upTo, h]
    rw [e1]
    go_enter Tryz.func61, Tryz.ntmps61
    go_wp2
    go_ret
    exact ⟨rfl, rfl⟩
end Go.Proofs.YtpohlhejeaafdaaGreatDoor

namespace Go.Proofs.YtpohlhejeaafdaaGreatDoor
set_option linter.unusedVariables false
set_option linter.unusedSimpArgs false
set_option maxRecDepth 100000
open Go.RowKit Go.Lib

theorem en_ne {a b : ByteArray} (h : a ≠ b) : (a.toList == b.toList) = false := by
  rw [beq_eq_false_iff_ne]
  exact fun e => h (toList_inj e)
theorem en_empty {a : ByteArray} (h : a.size = 0) : a.toList = [] := by
  rw [Lib.toList_data]
  exact List.eq_nil_of_length_eq_zero h
theorem en_some {a : ByteArray} (h : a.size ≠ 0) : ¬ a.toList = [] := by
  rw [Lib.toList_data]
  exact fun e => h (congrArg List.length e)
theorem en_drewN {B : Nat} {a w : World} (h : Below B a w) (n : Nat) : Below B a (w.drewN n) := h.trans ⟨rfl, rfl, rfl, Nat.le_refl _, fun _ _ => rfl⟩
theorem en_enters {f : FuncId} {fn : Func} (hf : Tryz.prog.funcs[f]? = some fn) (hn : (fn.name == "runtime.NumGoroutine") = false) (hb : ∃ c, fn.body = some c) (args : Array Value) (w : World) : (callFunc f args).run Tryz.prog w = .ok (.enter f args) w := by
  obtain ⟨c, hc⟩ := hb
  exact MuLone.run_callFunc_enter hf hn hc args w

/-- An error by its number. -/
def enE (n : Int) : Value := if n = 0 then .nilIface else .iface 60 (.int .i64 n)
theorem enE_zero : enE 0 = .nilIface := rfl
theorem enE_ne {n : Int} (h : n ≠ 0) : enE n = .iface 60 (.int .i64 n) := if_neg h

/-- A sign that a Ref does not have. -/
def badR (r : Nat) : Bool := (decide (r < 97) || decide (122 < r)) && (decide (r < 48) || decide (57 < r)) && !decide (r = 45)
theorem badR_low {r : Nat} (h : badR r = false) : r < 128 := by
  simp [badR] at h
  omega

theorem isRef1_any (r : Nat) (w : World) :
    Calls Tryz.prog 81 #[.int .i32 r] w fun e w' => e = .returned (.bool (badR r)) ∧ w' = w := by
  have h1 : (r : Int) < 48 ∨ (48 : Int) ≤ r ∧ (r : Int) ≤ 57 ∨ (57 : Int) < r ∧ (r : Int) < 97 ∨ (97 : Int) ≤ r ∧ (r : Int) ≤ 122 ∨ (122 : Int) < r := by omega
  have e45 : ((r : Int) != 45) = !decide (r = 45) := by
    by_cases e : r = 45
    · subst e; rfl
    · have : ((r : Int) != 45) = true := by simp; omega
      rw [this]; simp [e]
  rcases h1 with a | ⟨a, b⟩ | ⟨a, b⟩ | ⟨a, b⟩ | a
  · have : badR r = !decide (r = 45) := by
      have d1 : decide (r < 97) = true := by simp; omega
      have d2 : decide (r < 48) = true := by simp; omega
      unfold badR; rw [d1, d2]; rfl
    rw [this]
    have n97 : (r : Int) < 97 := by omega
    go_enter Tryz.func81, Tryz.ntmps81
    go_wp2
    go_ret
    exact ⟨rfl, rfl⟩
  · have : badR r = false := by simp [badR]; omega
    rw [this]
    have n97 : (r : Int) < 97 := by omega
    go_enter Tryz.func81, Tryz.ntmps81
    go_wp2
    go_ret
    exact ⟨rfl, rfl⟩
  · have : badR r = true := by simp [badR]; omega
    have n45 : (!decide (r = 45)) = true := by simp; omega
    rw [this]
    clear this
    go_enter Tryz.func81, Tryz.ntmps81
    go_wp2
    go_ret
    exact ⟨by rw [← n45]; rfl, rfl⟩
  · have : badR r = false := by simp [badR]; omega
    rw [this]
    go_enter Tryz.func81, Tryz.ntmps81
    go_wp2
    go_ret
    exact ⟨rfl, rfl⟩
  · have : badR r = true := by simp [badR]; omega
    have n45 : (!decide (r = 45)) = true := by simp; omega
    rw [this]
    clear this
    have n97 : ¬ (r : Int) < 97 := by omega
    have n48 : ¬ (r : Int) < 48 := by omega
    have n57 : (57 : Int) < r := by omega
    go_enter Tryz.func81, Tryz.ntmps81
    go_wp2
    go_ret
    exact ⟨by rw [← n45]; rfl, rfl⟩

/-- Where the first sign stands that is told, from a place on, among at most so many; else -1. -/
def signFrom (p : Nat → Bool) (s : ByteArray) : Nat → Nat → Int
  | 0, _ => -1
  | f + 1, pos => if pos < s.size then (if p (Utf8.decode s pos).1 = true then (pos : Int) else signFrom p s f (pos + (Utf8.decode s pos).2)) else -1
theorem signFrom_end (p : Nat → Bool) (s : ByteArray) (f pos : Nat) (h : ¬ pos < s.size) : signFrom p s f pos = -1 := by cases f <;> simp [signFrom, h]

theorem sign_none (p : Nat → Bool) (hp : ∀ r, p r = false → r < 128) (s : ByteArray) : ∀ (f pos : Nat), s.size ≤ pos + f → (signFrom p s f pos < 0 ↔ ∀ i, pos ≤ i → i < s.size → p (s.get! i).toNat = false)
  | 0, pos, h => by
    simp only [signFrom]
    exact ⟨fun _ i h1 h2 => by omega, fun _ => by omega⟩
  | f + 1, pos, h => by
    by_cases hlt : pos < s.size
    · have hg : s.get! pos = s[pos]'hlt := by
        show s.data[pos]! = s.data[pos]'hlt
        exact getElem!_pos s.data pos hlt
      rw [signFrom, if_pos hlt]
      by_cases ha : (s[pos]'hlt).toNat < 128
      · rw [decode_ascii s pos hlt ha]
        cases hc : p (s[pos]'hlt).toNat
        · rw [if_neg (by simp [hc]), sign_none p hp s f (pos + 1) (by omega)]
          constructor
          · intro hf i h1 h2
            by_cases e : i = pos
            · subst e; rw [hg]; exact hc
            · exact hf i (by omega) h2
          · intro hf i h1 h2
            exact hf i (by omega) h2
        · rw [if_pos (by simp [hc])]
          refine ⟨fun h => by omega, fun hf => ?_⟩
          have := hf pos (Nat.le_refl _) hlt
          rw [hg, hc] at this
          cases this
      · have hd := (decode_high s pos hlt (by omega)).1
        have hq : p (Utf8.decode s pos).1 = true := by
          cases hh : p (Utf8.decode s pos).1
          · have := hp _ hh; omega
          · rfl
        rw [if_pos hq]
        refine ⟨fun h => by omega, fun hf => ?_⟩
        have := hp _ (hf pos (Nat.le_refl _) hlt)
        rw [hg] at this
        omega
    · rw [signFrom_end p s _ _ hlt]
      exact ⟨fun _ i h1 h2 => by omega, fun _ => by omega⟩

set_option maxHeartbeats 1000000 in
theorem refIndexFunc_any (s : ByteArray) (w : World) :
    Calls Tryz.prog 98 #[.string s, .func (.func 81) #[] #[], .bool true] w fun e w' => e = .returned (.int .i64 (signFrom badR s s.size 0)) ∧ Below w.heap.size w w' := by
  go_enter Tryz.func98, Tryz.ntmps98
  go_wp2
  go_loopg [] s.size (fun gf wx => ∃ pos : Nat, wx.heap[w.heap.size]? = some (.stringIter s pos) ∧ Below w.heap.size w wx ∧ signFrom badR s gf pos = signFrom badR s s.size 0 ∧ s.size ≤ pos + gf)
  case atStart => exact ⟨0, World.iter_heap w s 0, (Below.refl _ w).alloc (Nat.le_refl _) _, rfl, by omega⟩
  case round =>
    obtain ⟨pos, hit, hbw, hleft, hfu⟩ := hrel
    by_cases hps : pos < s.size
    · obtain ⟨g', rfl⟩ : ∃ g', gk = g' + 1 := ⟨gk - 1, by omega⟩
      have hnx : ∀ ty, (Instr.next (.pointer (some ⟨w.heap.size, 0, none⟩)) true ty).run Tryz.prog wr = _ := fun ty => Lib.run_next_any_at wr w.heap.size s pos ty hit hps
      have hwd := Lib.width_pos s pos
      obtain ⟨R, hR⟩ : ∃ R, (Utf8.decode s pos).1 = R := ⟨_, rfl⟩
      obtain ⟨K, hK⟩ : ∃ K, (Utf8.decode s pos).2 = K := ⟨_, rfl⟩
      simp only [signFrom, hps, if_true, hR, hK] at hleft
      rw [hR, hK] at hnx
      rw [hK] at hwd
      have hit2 := Lib.iterAt_heap wr w.heap.size s pos (pos + K) hit
      have hbw2 := Lib.below_iterAt hbw (k := w.heap.size) (Nat.le_refl _) s (pos + K)
      obtain ⟨W, hWd⟩ : ∃ W, wr.iterAt w.heap.size s (pos + K) = W := ⟨_, rfl⟩
      rw [hWd] at hnx hit2 hbw2
      cases hsp : badR R <;> simp only [hsp, if_true, Bool.false_eq_true, if_false] at hleft
      · go_wp2_with (go_at_call 81; refine (isRef1_any R _).mono ?_; rintro e W' ⟨rfl, rfl⟩; rw [hsp])
        go_roundg g'
        case measure => omega
        case rel => exact ⟨pos + K, hit2, hbw2, hleft, by omega⟩
      · go_wp2_with (go_at_call 81; refine (isRef1_any R _).mono ?_; rintro e W' ⟨rfl, rfl⟩; rw [hsp])
        go_ret
        exact ⟨by rw [← hleft]; rfl, hbw2⟩
    · have hnx : ∀ ty, (Instr.next (.pointer (some ⟨w.heap.size, 0, none⟩)) true ty).run Tryz.prog wr = _ := fun ty => Lib.run_next_end_at wr w.heap.size s pos ty hit hps
      rw [signFrom_end badR s gk pos hps] at hleft
      go_wp2
      go_ret
      exact ⟨by rw [← hleft]; rfl, hbw⟩

theorem refContainsFunc_any (s : ByteArray) (w : World) :
    Calls Tryz.prog 80 #[.string s, .func (.func 81) #[] #[]] w fun e w' => e = .returned (.bool (decide (0 ≤ signFrom badR s s.size 0))) ∧ Below w.heap.size w w' := by
  have hI : Calls Tryz.prog 90 #[.string s, .func (.func 81) #[] #[]] w fun e w' => e = .returned (.int .i64 (signFrom badR s s.size 0)) ∧ Below w.heap.size w w' := by
    go_enter Tryz.func90, Tryz.ntmps90
    go_wp2_with fail
    refine (refIndexFunc_any s _).mono ?_
    rintro e w' ⟨rfl, hb⟩
    go_wp2
    go_ret
    exact ⟨rfl, hb⟩
  go_enter Tryz.func80, Tryz.ntmps80
  go_wp2_with fail
  refine hI.mono ?_
  rintro e w' ⟨rfl, hb⟩
  go_wp2
  go_ret
  exact ⟨rfl, hb⟩

/-- May a text be a Ref? -/
def isRefB (s : ByteArray) : Bool := decide (s.size ≠ 0) && (decide (s.size ≤ 12) && (decide ((s.get! 0).toNat ≠ 45) && decide (signFrom badR s s.size 0 < 0)))
theorem isRefB_iff {s : ByteArray} : isRefB s = true ↔ s.size ≠ 0 ∧ s.size ≤ 12 ∧ (s.get! 0).toNat ≠ 45 ∧ ∀ i, i < s.size → badR (s.get! i).toNat = false := by
  unfold isRefB
  simp only [Bool.and_eq_true, decide_eq_true_eq]
  rw [sign_none badR (fun r h => badR_low h) s s.size 0 (by omega)]
  exact ⟨fun ⟨a, b, c, d⟩ => ⟨a, b, c, fun i hi => d i (Nat.zero_le _) hi⟩, fun ⟨a, b, c, d⟩ => ⟨a, b, c, fun i _ hi => d i hi⟩⟩

set_option maxHeartbeats 1000000 in
theorem isRef_any (s : ByteArray) (w : World) :
    Calls Tryz.prog 59 #[.string s] w fun e w' => e = .returned (.bool (isRefB s)) ∧ Below w.heap.size w w' := by
  by_cases h0 : s.size = 0
  · have e0 := en_empty h0
    have er : isRefB s = false := by simp [isRefB, h0]
    rw [er]
    go_enter Tryz.func59, Tryz.ntmps59
    go_wp2
    go_ret
    exact ⟨rfl, Below.refl _ _⟩
  have e0 := en_some h0
  have e0' : s.toList.isEmpty = false := by simpa using e0
  by_cases h1 : s.size ≤ 12
  · have h1' : decide ((s.size : Int) ≤ 12) = true := by simp; omega
    have h2' : (0 : Int) < s.size := by omega
    have hp : 0 < s.size := by omega
    have hg : s.get! 0 = s[0]'hp := getElem!_pos s.data 0 hp
    by_cases h2 : (s.get! 0).toNat = 45
    · have er : isRefB s = false := by simp [isRefB, h2]
      have h3 : ((s[0]'hp).toNat : Int) = 45 := by rw [← hg, h2]; rfl
      rw [er]
      clear h2 hg
      go_enter Tryz.func59, Tryz.ntmps59
      go_wp2
      go_ret
      exact ⟨rfl, Below.refl _ _⟩
    · have h3 : ¬ ((s[0]'hp).toNat : Int) = 45 := by rw [← hg]; omega
      have h3b : (((s[0]'hp).toNat : Int) != 45) = true := by simpa using h3
      have er : isRefB s = !decide (0 ≤ signFrom badR s s.size 0) := by
        have d1 : decide (s.size ≠ 0) = true := by simp [h0]
        have d2 : decide (s.size ≤ 12) = true := by simp [h1]
        have d4 : decide ((s.get! 0).toNat ≠ 45) = true := by simp [h2]
        have d3 : decide (signFrom badR s s.size 0 < 0) = !decide (0 ≤ signFrom badR s s.size 0) := by
          by_cases hh : 0 ≤ signFrom badR s s.size 0
          · rw [decide_eq_true hh, decide_eq_false (by omega)]; rfl
          · rw [decide_eq_false hh, decide_eq_true (by omega)]; rfl
        unfold isRefB; rw [d1, d2, d3, d4]; rfl
      rw [er]
      clear h2 hg er
      go_enter Tryz.func59, Tryz.ntmps59
      go_wp2_with fail
      refine (refContainsFunc_any s _).mono ?_
      rintro e w' ⟨rfl, hb⟩
      go_wp2
      go_ret
      exact ⟨rfl, hb⟩
  · have h1' : decide ((s.size : Int) ≤ 12) = false := by simp; omega
    have er : isRefB s = false := by simp [isRefB, h1]
    rw [er]
    go_enter Tryz.func59, Tryz.ntmps59
    go_wp2
    go_ret
    exact ⟨rfl, Below.refl _ _⟩

end Go.Proofs.YtpohlhejeaafdaaGreatDoor
