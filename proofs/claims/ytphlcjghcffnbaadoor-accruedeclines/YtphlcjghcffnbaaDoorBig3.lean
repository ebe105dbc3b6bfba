/-
  The contracts of quarterdaybig's words, SetInt64 and NewInt, and of dayref1's Big: a number of 64 bits as one of any size.
-/
import Derived.Test.YtphlcjghcffnbaaDoorBig2
namespace Go.Proofs.YtphlcjghcffnbaaDoor
set_option linter.unusedVariables false
open Go.RowKit Big

theorem alloc_blk (w : World) (o : Obj) : (w.alloc o).heap[w.heap.size]? = some o := by
  show (w.heap.push o)[w.heap.size]? = some o
  exact Array.getElem?_push_size

theorem ret_val {a b : Value} (h : a = b) : Ending.returned a = .returned b := by rw [h]

theorem gtrans {a b c : World} {row : Option Nat} (h : a.grownBy b row) (k : b.grownBy c row) : a.grownBy c row :=
  ⟨k.os.trans h.os, k.tape.trans h.tape, k.output.trans h.output, Nat.le_trans h.size k.size, fun i hi hr => (k.block i (Nat.lt_of_lt_of_le hi h.size) hr).trans (h.block i hi hr)⟩
theorem gweak {a b : World} (h : a.grownBy b none) (row : Option Nat) : a.grownBy b row := ⟨h.os, h.tape, h.output, h.size, fun i hi _ => h.block i hi (by simp)⟩
theorem grefl (a : World) (row : Option Nat) : a.grownBy a row := ⟨rfl, rfl, rfl, Nat.le_refl _, fun _ _ _ => rfl⟩
theorem gnew {a b : World} {o : Obj} (h : (a.alloc o).grownBy b (some a.heap.size)) : a.grownBy b none :=
  ⟨h.os, h.tape, h.output, by have := h.size; simp at this; omega, fun i hi _ => by
    rw [h.block i (by simp; omega) (by simp; omega)]
    exact Below.heap_alloc a o i hi⟩
theorem gdrewN {a b : World} {row : Option Nat} (h : a.grownBy b row) (n : Nat) : a.grownBy (b.drewN n) row := ⟨h.os, h.tape, h.output, h.size, h.block⟩
theorem gbelow {a b : World} (h : a.grownBy b none) : Below a.heap.size a b := ⟨h.os, h.tape, h.output, h.size, fun k hk => h.block k hk (by simp)⟩
theorem belowg {a b : World} (h : Below a.heap.size a b) : a.grownBy b none := ⟨h.os, h.tape, h.output, h.size, fun k hk _ => h.block k hk⟩

/-- The number x stands in block p. -/
def BigIs (w : World) (p : Nat) (x : Int) : Prop := ∃ neg v l, IsBig w p neg v l ∧ sg neg (val l) = x

theorem words_any (x : Nat) (w : World) (hx : x < 18446744073709551616) :
    Calls Tryd.prog 55 #[.int .u64 x] w fun e w' => ∃ v l, e = .returned v ∧ Wd w' v l ∧ Nrm l ∧ val l = x ∧ w.grownBy w' none := by
  have e1 : IntKind.u32.wrap (x : Int) = ((x % 4294967296 : Nat) : Int) := by rw [IntKind.wrap_u32]; omega
  have e2 : (x : Int) / 4294967296 = ((x / 4294967296 : Nat) : Int) := by omega
  have hlo : x % 4294967296 < 4294967296 := Nat.mod_lt _ (by omega)
  have hhi : x / 4294967296 < 4294967296 := by omega
  have hs : x % 4294967296 + 4294967296 * (x / 4294967296) = x := Nat.mod_add_div x 4294967296
  generalize x % 4294967296 = lo at *
  generalize x / 4294967296 = hi at *
  have Hs : Hid (lo + 4294967296 * hi = x) := hs
  clear hs
  have hwd : Hid (∀ a : Nat, a = w.heap.size → Wd (w.alloc (.cells #[.int .u32 (lo : Int), .int .u32 (hi : Int)] 61)) (.slice (some ⟨a, 0, none⟩) 2 2) [lo, hi]) := by
    rintro a rfl
    refine ⟨?_, by simp, .inr ⟨by simp, w.heap.size, 0, 2, rfl, by simp, by simp, ?_⟩⟩
    · intro i hi'
      match i, hi' with
      | 0, _ => simpa using hlo
      | 1, _ => simpa using hhi
    · intro i hi'
      match i, hi' with
      | 0, _ => simp
      | 1, _ => simp
  go_enter Tryd.func55, Tryd.ntmps55
  go_wp2_with fail
  refine (trim_any _ [lo, hi] _ (hwd.out _ rfl)).mono ?_
  rintro e w' ⟨⟨v', rfl, hv⟩, hw⟩
  rw [hw]; clear hw w'
  have hn : Hid (Nrm ([lo, hi].take (tl [lo, hi] 2)) ∧ val ([lo, hi].take (tl [lo, hi] 2)) = x) := ⟨nrm_tl _ _ (by simp), by rw [val_tl _ _ (by simp)]; simp [val]; exact Hs.out⟩
  have Hv : Hid (Wd (w.alloc (.cells #[.int .u32 (lo : Int), .int .u32 (hi : Int)] 61)) v' ([lo, hi].take (tl [lo, hi] 2))) := hv
  clear hv hwd
  go_wp2
  go_ret
  exact ⟨v', _, rfl, Hv.out, hn.out.1, hn.out.2, World.grownBy_alloc _ _ _⟩

/-- The words that a number is made of, and give's two sides. -/
theorem setInt64_any (p : Nat) (x : Int) (n0 : Bool) (u : Value) (w : World) (hp : w.heap[p]? = some (.cells #[.bool n0, u] 40 (0, 0))) (hu : ∀ k n, u ≠ .int k n) (h1 : -9223372036854775808 ≤ x) (h2 : x ≤ 9223372036854775807) :
    Calls Tryd.prog 40 #[.pointer (some ⟨p, 0, none⟩), .int .i64 x] w fun e w' => e = .returned (.pointer (some ⟨p, 0, none⟩)) ∧ BigIs w' p x ∧ w.grownBy w' (some p) := by
  have Hp : Hid (w.heap[p]? = some (.cells #[.bool n0, u] 40 (0, 0))) := hp
  have Hu : Hid (∀ k n, u ≠ .int k n) := hu
  clear hp hu
  by_cases hx : x < 0
  · obtain ⟨m, rfl⟩ : ∃ m : Nat, x = -(m : Int) := ⟨(-x).toNat, by omega⟩
    have e1 : IntKind.u64.wrap (-IntKind.u64.wrap (-(m : Int))) = (m : Int) := by rw [IntKind.wrap_u64, IntKind.wrap_u64]; omega
    have hd : decide (-(m : Int) < 0) = true := by simpa using hx
    go_enter Tryd.func40, Tryd.ntmps40
    go_wp2_with fail
    refine (words_any m _ (by omega)).mono ?_
    rintro e w1 ⟨v, l, rfl, hv, hn, hval, hg⟩
    have Hv : Hid (Wd w1 v l) := hv
    have Hn : Hid (Nrm l) := hn
    have Hval : Hid (val l = m) := hval
    have Hg : Hid (w.grownBy w1 none) := hg
    clear hv hn hval hg
    go_wp2_with fail
    refine (give_any p true n0 u v l w1 ((Hg.out.block p (blk_lt Hp.out) (by simp)).trans Hp.out) Hu.out Hv.out Hn.out).mono ?_
    rintro e w2 ⟨rfl, hb, hg2⟩
    have R : Hid (BigIs w2 p (-(m : Int)) ∧ w.grownBy w2 (some p)) := by
      refine ⟨⟨_, v, l, hb, ?_⟩, gtrans (gweak Hg.out _) hg2⟩
      have hl : 0 < l.length := by
        rcases Nat.eq_zero_or_pos l.length with h0 | h0
        · have : l = [] := List.eq_nil_of_length_eq_zero h0
          have h3 := Hval.out
          rw [this] at h3
          simp only [val] at h3
          omega
        · exact h0
      simp only [hl, decide_true, Bool.and_true, sg, if_true, Hval.out]
    clear hb hg2
    go_wp2
    go_ret
    exact ⟨rfl, R.out.1, R.out.2⟩
  · have hd : decide (x < 0) = false := by simpa using hx
    have hx0 : 0 ≤ x := by omega
    obtain ⟨n, rfl⟩ := Int.eq_ofNat_of_zero_le hx0
    go_enter Tryd.func40, Tryd.ntmps40
    go_wp2_with fail
    refine (words_any n _ (by omega)).mono ?_
    rintro e w1 ⟨v, l, rfl, hv, hn, hval, hg⟩
    have Hv : Hid (Wd w1 v l) := hv
    have Hn : Hid (Nrm l) := hn
    have Hval : Hid (val l = n) := hval
    have Hg : Hid (w.grownBy w1 none) := hg
    clear hv hn hval hg
    go_wp2_with fail
    refine (give_any p false n0 u v l w1 ((Hg.out.block p (blk_lt Hp.out) (by simp)).trans Hp.out) Hu.out Hv.out Hn.out).mono ?_
    rintro e w2 ⟨rfl, hb, hg2⟩
    have R : Hid (BigIs w2 p (n : Int) ∧ w.grownBy w2 (some p)) := by
      refine ⟨⟨_, v, l, hb, ?_⟩, gtrans (gweak Hg.out _) hg2⟩
      simp [sg, Hval.out]
    clear hb hg2
    go_wp2
    go_ret
    exact ⟨rfl, R.out.1, R.out.2⟩

theorem newInt_any (x : Int) (w : World) (h1 : -9223372036854775808 ≤ x) (h2 : x ≤ 9223372036854775807) :
    Calls Tryd.prog 23 #[.int .i64 x] w fun e w' => e = .returned (.pointer (some ⟨w.heap.size, 0, none⟩)) ∧ BigIs w' w.heap.size x ∧ w.grownBy w' none := by
  go_enter Tryd.func23, Tryd.ntmps23
  go_wp2_with fail
  refine (setInt64_any w.heap.size x false (.slice none 0 0) _ (alloc_blk _ _) (by simp) h1 h2).mono ?_
  rintro e w1 ⟨rfl, hb, hg⟩
  have R : Hid (BigIs w1 w.heap.size x ∧ w.grownBy w1 none) := ⟨hb, gnew hg⟩
  clear hb hg
  go_wp2
  go_ret
  exact ⟨rfl, R.out.1, R.out.2⟩

theorem big_any (x : Int) (w : World) (h1 : -9223372036854775808 ≤ x) (h2 : x ≤ 9223372036854775807) :
    Calls Tryd.prog 10 #[.int .i64 x] w fun e w' => e = .returned (.pointer (some ⟨w.heap.size, 0, none⟩)) ∧ BigIs w' w.heap.size x ∧ w.grownBy w' none := by
  go_enter Tryd.func10, Tryd.ntmps10
  go_wp2_with fail
  refine (newInt_any x _ h1 h2).mono ?_
  rintro e w1 ⟨rfl, hb, hg⟩
  have R : Hid (BigIs w1 w.heap.size x ∧ w.grownBy w1 none) := ⟨hb, hg⟩
  clear hb hg
  go_wp2
  go_ret
  exact ⟨rfl, R.out.1, R.out.2⟩
end Go.Proofs.YtphlcjghcffnbaaDoor
