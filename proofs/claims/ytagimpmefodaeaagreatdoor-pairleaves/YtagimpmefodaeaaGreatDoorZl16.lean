/-
  The contract of quarterdaybig's mul: the product of two lists of words.
-/
import Derived.Test.YtagimpmefodaeaaGreatDoorZl15
import Derived.Test.YtagimpmefodaeaaGreatDoorZl13
import Derived.Test.YtagimpmefodaeaaGreatDoorZl14
import Derived.Laws.AppendOwn
import Derived.OwnWalk
import Derived.Deep.RegionWith
import Derived.Deep.QuietTactic
import Derived.BigQuiet
namespace Go.Proofs.YtagimpmefodaeaaGreatDoor
set_option linter.unusedVariables false
set_option linter.unusedSimpArgs false
open Go.RowKit Big

/-- What a division leaves. -/
def DivEnd (w : World) (a b : Nat) (e : Ending) (w' : World) : Prop := ∃ q r lq lr, e = .returned (.tuple #[q, r]) ∧ Hid (Wd w' q lq ∧ Wd w' r lr ∧ Nrm lq ∧ Nrm lr ∧ val lq = a / b ∧ val lr = a % b ∧ w.grownBy w' none)

theorem cmp_ge {a b : Nat} (h : b ≤ a) : cmpV a b = 0 ∨ cmpV a b = 1 := by
  unfold cmpV
  rw [if_neg (by omega)]
  split <;> simp

end Go.Proofs.YtagimpmefodaeaaGreatDoor

namespace Go.Proofs.YtagimpmefodaeaaGreatDoor
set_option linter.unusedVariables false
set_option linter.unusedSimpArgs false
open Go.RowKit Big

end Go.Proofs.YtagimpmefodaeaaGreatDoor

namespace Go.Proofs.YtagimpmefodaeaaGreatDoor
set_option linter.unusedVariables false
set_option linter.unusedSimpArgs false
open Go.RowKit Big

theorem IsBig.keepBy {w w' : World} {p q : Nat} {neg n0 : Bool} {v u : Value} {l : List Nat} (h : IsBig w p neg v l) (hne : p ≠ q) (hq : w.heap[q]? = some (.cells #[.bool n0, u] 132 (0, 0))) (hu : ∀ k n, u ≠ .int k n) (hg : w.grownBy w' (some q)) : IsBig w' p neg v l :=
  ⟨(hg.block p (blk_lt h.blk) (fun e => hne (Option.some.inj e))).trans h.blk, h.wd.keepP hq hu hg, h.nrm, h.sgn⟩
theorem BigIs.keepBy {w w' : World} {p q : Nat} {n0 : Bool} {u : Value} {x : Int} (h : BigIs w p x) (hne : p ≠ q) (hq : w.heap[q]? = some (.cells #[.bool n0, u] 132 (0, 0))) (hu : ∀ k n, u ≠ .int k n) (hg : w.grownBy w' (some q)) : BigIs w' p x := by
  obtain ⟨neg, v, l, hb, hx⟩ := h
  exact ⟨neg, v, l, hb.keepBy hne hq hu hg, hx⟩
theorem IsBig.growBy {w w' : World} {p : Nat} {neg : Bool} {v : Value} {l : List Nat} (h : IsBig w p neg v l) (hg : w.grownBy w' none) : IsBig w' p neg v l :=
  ⟨(hg.block p (blk_lt h.blk) (by simp)).trans h.blk, h.wd.grow hg, h.nrm, h.sgn⟩
theorem BigIs.growBy {w w' : World} {p : Nat} {x : Int} (h : BigIs w p x) (hg : w.grownBy w' none) : BigIs w' p x := by
  obtain ⟨neg, v, l, hb, hx⟩ := h
  exact ⟨neg, v, l, hb.growBy hg, hx⟩

theorem twin_mid (nx : Bool) (vx : Value) (lx : List Nat) (w W : World) (hW : w.grownBy W none) (hx : Wd w vx lx) (kx : Nrm lx) (h1 : lx.length < 35184372088832) :
    Calls Tryz.prog 98 #[vx] W fun e w' => ∃ v, e = .returned v ∧ Mid w w' nx v lx (sg nx (val lx)) := by
  refine (twin_any vx lx W (hx.grow hW) h1).mono ?_
  rintro e w1 ⟨v, rfl, hR⟩
  exact ⟨v, rfl, hR.out.1, kx, rfl, gtrans hW hR.out.2⟩

end Go.Proofs.YtagimpmefodaeaaGreatDoor

namespace Go.Proofs.YtagimpmefodaeaaGreatDoor
set_option linter.unusedVariables false
set_option linter.unusedSimpArgs false
open Go.RowKit Big

/-- Nothing that was there is written but two blocks. -/
structure Grown2 (w w' : World) (p q : Nat) : Prop where
  os : w'.os = w.os
  tape : w'.tape = w.tape
  output : w'.output = w.output
  size : w.heap.size ≤ w'.heap.size
  block : ∀ i, i < w.heap.size → i ≠ p → i ≠ q → w'.heap[i]? = w.heap[i]?

theorem grown2_of {a b c d : World} {p q : Nat} (h1 : a.grownBy b none) (h2 : b.grownBy c (some p)) (h3 : c.grownBy d (some q)) : Grown2 a d p q :=
  ⟨h3.os.trans (h2.os.trans h1.os), h3.tape.trans (h2.tape.trans h1.tape), h3.output.trans (h2.output.trans h1.output), Nat.le_trans h1.size (Nat.le_trans h2.size h3.size), fun i hi hp hq => by
    rw [h3.block i (Nat.lt_of_lt_of_le hi (Nat.le_trans h1.size h2.size)) (fun e => hq (Option.some.inj e)), h2.block i (Nat.lt_of_lt_of_le hi h1.size) (fun e => hp (Option.some.inj e)), h1.block i hi (by simp)]⟩

/-- What QuoRem leaves. -/
def QREnd (w w' : World) (pz pr : Nat) (X Y : Int) : Prop := BigIs w' pz X ∧ BigIs w' pr Y ∧ Grown2 w w' pz pr ∧ ∀ p x, p ≠ pz → p ≠ pr → BigIs w p x → BigIs w' p x

end Go.Proofs.YtagimpmefodaeaaGreatDoor

namespace Go.Proofs.YtagimpmefodaeaaGreatDoor
set_option linter.unusedVariables false
open Go.RowKit Big

theorem val_setw (r : List Nat) (k d : Nat) (h : k < r.length) : val (r.set k d) + 4294967296 ^ k * r.getD k 0 = val r + 4294967296 ^ k * d := by
  have e1 := val_append (r.take (k + 1)) (r.drop (k + 1))
  rw [List.take_append_drop] at e1
  have e2 := val_append ((r.set k d).take (k + 1)) ((r.set k d).drop (k + 1))
  rw [List.take_append_drop, List.drop_set_of_lt (by omega)] at e2
  rw [e1, e2, val_set r k d h, val_take_succ r k h]
  have l1 : ((r.set k d).take (k + 1)).length = (r.take (k + 1)).length := by simp
  rw [l1]
  omega

/-- A round of the inner loop. -/
theorem mul_step (r : List Nat) (k c p z q d base : Nat) (hk : k < r.length) (hz : r.getD k 0 = z) (hc : d + 4294967296 * q = c + (p + z)) (h : val r + 4294967296 ^ k * c = base) :
    val (r.set k d) + 4294967296 ^ (k + 1) * q = base + 4294967296 ^ k * p := by
  have e := val_setw r k d hk
  rw [hz] at e
  have e2 : 4294967296 ^ k * (d + 4294967296 * q) = 4294967296 ^ k * (c + (p + z)) := by rw [hc]
  rw [Nat.mul_add, Nat.mul_add, Nat.mul_add, ← Nat.mul_assoc] at e2
  rw [show 4294967296 ^ (k + 1) = 4294967296 ^ k * 4294967296 from Nat.pow_succ _ _]
  generalize 4294967296 ^ k = P at *
  rw [← h]
  omega

theorem word_mul (x y z c : Nat) (hx : x < 4294967296) (hy : y < 4294967296) (hz : z < 4294967296) (hc : c < 4294967296) :
    x * y ≤ 18446744065119617025 ∧ (c + (x * y + z)) / 4294967296 < 4294967296 := by
  have : x * y ≤ 4294967295 * 4294967295 := Nat.mul_le_mul (by omega) (by omega)
  omega

theorem getD_set_ne2 (r : List Nat) (k i d : Nat) (h : i ≠ k) : (r.set k d).getD i 0 = r.getD i 0 := by
  simp only [List.getD, List.getElem?_set_ne (fun e => h e.symm)]

/-- What the inner loop keeps. -/
def MulIn (a b r : List Nat) (i j c : Nat) : Prop := val r + 4294967296 ^ (i + j) * c = val (a.take i) * val b + 4294967296 ^ i * (a.getD i 0 * val (b.take j)) ∧ ∀ k, i + b.length ≤ k → r.getD k 0 = 0
/-- What the outer loop keeps. -/
def MulOut (a b r : List Nat) (i : Nat) : Prop := val r = val (a.take i) * val b ∧ ∀ k, i + b.length ≤ k → r.getD k 0 = 0

theorem mulOut_start (a b : List Nat) (n : Nat) : MulOut a b (List.replicate n 0) 0 := by
  constructor
  · have : ∀ n, val (List.replicate n 0) = 0 := fun n => by
      induction n with
      | zero => rfl
      | succ n ih => simp [List.replicate_succ, val, ih]
    rw [this]; simp [val]
  · intro k _
    simp only [List.getD]
    rw [List.getElem?_replicate]
    split <;> rfl

theorem mulIn_start {a b r : List Nat} {i : Nat} (h : MulOut a b r i) : MulIn a b r i 0 0 := by
  refine ⟨?_, h.2⟩
  rw [h.1]; simp [val]

theorem mulIn_step {a b r : List Nat} {i j c x y z d q : Nat} (h : MulIn a b r i j c) (hj : j < b.length) (hk : i + j < r.length) (hx : a.getD i 0 = x) (hy : b.getD j 0 = y) (hz : r.getD (i + j) 0 = z) (hc : d + 4294967296 * q = c + (x * y + z)) :
    MulIn a b (r.set (i + j) d) i (j + 1) q := by
  refine ⟨?_, fun k hk' => by rw [getD_set_ne2 _ _ _ _ (by omega)]; exact h.2 k hk'⟩
  have e := mul_step r (i + j) c (x * y) z q d _ hk hz hc h.1
  rw [← Nat.add_assoc, e, val_take_succ b j hj, hx, hy, Nat.mul_add, Nat.mul_add, Nat.add_assoc]
  congr 2
  rw [Nat.pow_add]
  rw [Nat.mul_assoc (4294967296 ^ i), Nat.mul_left_comm x]

theorem mulIn_done {a b r : List Nat} {i c : Nat} (h : MulIn a b r i b.length c) (hi : i < a.length) (hk : i + b.length < r.length) : MulOut a b (r.set (i + b.length) c) (i + 1) := by
  refine ⟨?_, fun k hk' => by rw [getD_set_ne2 _ _ _ _ (by omega)]; exact h.2 k (by omega)⟩
  have e := val_setw r (i + b.length) c hk
  rw [h.2 _ (Nat.le_refl _), Nat.mul_zero, Nat.add_zero] at e
  rw [e, h.1, List.take_length, val_take_succ a i hi, Nat.add_mul, Nat.mul_assoc]

end Go.Proofs.YtagimpmefodaeaaGreatDoor
