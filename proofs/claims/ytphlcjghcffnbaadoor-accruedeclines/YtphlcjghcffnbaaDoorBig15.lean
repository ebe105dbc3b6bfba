/-
  The contract of quarterdaybig's mul: the product of two lists of words.
-/
import Derived.Test.YtphlcjghcffnbaaDoorBig5
import Derived.Deep.QuietTactic
import Derived.BigQuiet
namespace Go.Proofs.YtphlcjghcffnbaaDoor
set_option linter.unusedVariables false
open Go.RowKit Big

theorem val_setw (r : List Nat) (k d : Nat) (h : k < r.length) : val (r.set k d) + 4294967296 ^ k * r.getD k 0 = val r + 4294967296 ^ k * d := by
  have e1 := val_append (r.take (k + 1)) (r.drop (k + 1))
  rw [List.take_append_drop] at e1
  have e2 := val_append ((r.set k d).take (k + 1)) ((r.set k d).drop (k + 1))
  rw [List.take_append_drop, List.drop_set_of_lt (by omega)] at e2
  rw [e1, e2, val_set r k d h, val_take_succ r k h]
  have l1 : ((r.set k d).take (k + 1)).length = (r.take (k + 1)).length := by simp
  rw [l1]
  omega

/-- A round of the inner loop. -/
theorem mul_step (r : List Nat) (k c p z q d base : Nat) (hk : k < r.length) (hz : r.getD k 0 = z) (hc : d + 4294967296 * q = c + (p + z)) (h : val r + 4294967296 ^ k * c = base) :
    val (r.set k d) + 4294967296 ^ (k + 1) * q = base + 4294967296 ^ k * p := by
  have e := val_setw r k d hk
  rw [hz] at e
  have e2 : 4294967296 ^ k * (d + 4294967296 * q) = 4294967296 ^ k * (c + (p + z)) := by rw [hc]
  rw [Nat.mul_add, Nat.mul_add, Nat.mul_add, ← Nat.mul_assoc] at e2
  rw [show 4294967296 ^ (k + 1) = 4294967296 ^ k * 4294967296 from Nat.pow_succ _ _]
  generalize 4294967296 ^ k = P at *
  rw [← h]
  omega

theorem word_mul (x y z c : Nat) (hx : x < 4294967296) (hy : y < 4294967296) (hz : z < 4294967296) (hc : c < 4294967296) :
    x * y ≤ 18446744065119617025 ∧ (c + (x * y + z)) / 4294967296 < 4294967296 := by
  have : x * y ≤ 4294967295 * 4294967295 := Nat.mul_le_mul (by omega) (by omega)
  omega

theorem getD_set_ne2 (r : List Nat) (k i d : Nat) (h : i ≠ k) : (r.set k d).getD i 0 = r.getD i 0 := by
  simp only [List.getD, List.getElem?_set_ne (fun e => h e.symm)]

/-- What the inner loop keeps. -/
def MulIn (a b r : List Nat) (i j c : Nat) : Prop := val r + 4294967296 ^ (i + j) * c = val (a.take i) * val b + 4294967296 ^ i * (a.getD i 0 * val (b.take j)) ∧ ∀ k, i + b.length ≤ k → r.getD k 0 = 0
/-- What the outer loop keeps. -/
def MulOut (a b r : List Nat) (i : Nat) : Prop := val r = val (a.take i) * val b ∧ ∀ k, i + b.length ≤ k → r.getD k 0 = 0

theorem mulOut_start (a b : List Nat) (n : Nat) : MulOut a b (List.replicate n 0) 0 := by
  constructor
  · have : ∀ n, val (List.replicate n 0) = 0 := fun n => by
      induction n with
      | zero => rfl
      | succ n ih => simp [List.replicate_succ, val, ih]
    rw [this]; simp [val]
  · intro k _
    simp only [List.getD]
    rw [List.getElem?_replicate]
    split <;> rfl

theorem mulIn_start {a b r : List Nat} {i : Nat} (h : MulOut a b r i) : MulIn a b r i 0 0 := by
  refine ⟨?_, h.2⟩
  rw [h.1]; simp [val]

theorem mulIn_step {a b r : List Nat} {i j c x y z d q : Nat} (h : MulIn a b r i j c) (hj : j < b.length) (hk : i + j < r.length) (hx : a.getD i 0 = x) (hy : b.getD j 0 = y) (hz : r.getD (i + j) 0 = z) (hc : d + 4294967296 * q = c + (x * y + z)) :
    MulIn a b (r.set (i + j) d) i (j + 1) q := by
  refine ⟨?_, fun k hk' => by rw [getD_set_ne2 _ _ _ _ (by omega)]; exact h.2 k hk'⟩
  have e := mul_step r (i + j) c (x * y) z q d _ hk hz hc h.1
  rw [← Nat.add_assoc, e, val_take_succ b j hj, hx, hy, Nat.mul_add, Nat.mul_add, Nat.add_assoc]
  congr 2
  rw [Nat.pow_add]
  rw [Nat.mul_assoc (4294967296 ^ i), Nat.mul_left_comm x]

theorem mulIn_done {a b r : List Nat} {i c : Nat} (h : MulIn a b r i b.length c) (hi : i < a.length) (hk : i + b.length < r.length) : MulOut a b (r.set (i + b.length) c) (i + 1) := by
  refine ⟨?_, fun k hk' => by rw [getD_set_ne2 _ _ _ _ (by omega)]; exact h.2 k (by omega)⟩
  have e := val_setw r (i + b.length) c hk
  rw [h.2 _ (Nat.le_refl _), Nat.mul_zero, Nat.add_zero] at e
  rw [e, h.1, List.take_length, val_take_succ a i hi, Nat.add_mul, Nat.mul_assoc]

theorem mul_none (va vb : Value) (a b : List Nat) (w : World) (ha : Wd w va a) (hb : Wd w vb b) (h : a.length = 0 ∨ b.length = 0) :
    Calls Tryd.prog 25 #[va, vb] w fun e w' => ∃ v l, e = .returned v ∧ Wd w' v l ∧ Nrm l ∧ val l = val a * val b ∧ w.grownBy w' none := by
  obtain ⟨aa, ca, rfl, _, _, _⟩ := ha.form
  obtain ⟨ab, cb, rfl, _, _, _⟩ := hb.form
  have e0 : val a * val b = 0 := by
    rcases h with h | h
    · rw [List.eq_nil_of_length_eq_zero h]; simp [val]
    · rw [List.eq_nil_of_length_eq_zero h]; simp [val]
  have E : Hid (val a * val b = 0) := e0
  clear e0 ha hb
  by_cases h1 : a.length = 0
  · rw [h1]
    go_enter Tryd.func25, Tryd.ntmps25
    go_wp2
    go_ret
    exact ⟨_, [], rfl, wd_nil _ _ _, .inl rfl, by rw [E.out]; rfl, belowg (Below.refl _ _)⟩
  · have h2 : b.length = 0 := by omega
    have n1 : ((a.length : Int) == 0) = false := by rw [beq_eq_false_iff_ne]; omega
    rw [h2]
    go_enter Tryd.func25, Tryd.ntmps25
    go_wp2
    go_ret
    exact ⟨_, [], rfl, wd_nil _ _ _, .inl rfl, by rw [E.out]; rfl, belowg (Below.refl _ _)⟩

set_option maxHeartbeats 4000000 in
theorem mul_some (va vb : Value) (a b : List Nat) (w : World) (ha : Wd w va a) (hb : Wd w vb b) (h1 : 0 < a.length) (h2 : 0 < b.length) (h3 : a.length < 35184372088832) (h4 : b.length < 35184372088832) :
    Calls Tryd.prog 25 #[va, vb] w fun e w' => ∃ v l, e = .returned v ∧ Wd w' v l ∧ Nrm l ∧ val l = val a * val b ∧ w.grownBy w' none := by
  obtain ⟨aa, ca, rfl, la, Oa, Fa⟩ := ha.form
  obtain ⟨ab, cb, rfl, lb, Ob, Fb⟩ := hb.form
  obtain ⟨ba, oa, rfl, hba, hca⟩ := Fa.out h1
  obtain ⟨bb, ob, rfl, hbb, hcb⟩ := Fb.out h2
  have Ha : Hid (∀ i, i < a.length → w.cell? ⟨ba, oa + i, none⟩ = some (.int .u32 (a.getD i 0 : Nat))) := hca
  have Hb : Hid (∀ i, i < b.length → w.cell? ⟨bb, ob + i, none⟩ = some (.int .u32 (b.getD i 0 : Nat))) := hcb
  clear ha hb la lb Fa Fb hca hcb
  obtain ⟨L, hL⟩ : ∃ L, a.length + b.length = L := ⟨_, rfl⟩
  have eL : (a.length : Int) + (b.length : Int) = (L : Int) := by omega
  have hmk := fun w => run_make_row' (P := Tryd.prog) 38 61 (.int .u32 0) 4 Tryd.underlying38 Tryd.infoW rfl .i64 .i64 L (by omega) (by omega) w
  have n1 : ((a.length : Int) == 0) = false := by rw [beq_eq_false_iff_ne]; omega
  have n2 : ((b.length : Int) == 0) = false := by rw [beq_eq_false_iff_ne]; omega
  have n3 : (a.length : Int) < 35184372088832 := by omega
  have n4 : (b.length : Int) < 35184372088832 := by omega
  go_enter Tryd.func25, Tryd.ntmps25
  go_wp2
  clear hmk
  go_loopw [6] (fun ti wr => ∃ i : Nat, ∃ r : List Nat, i ≤ a.length ∧ ti = .int .i64 i ∧ r.length = L ∧ Hid (RowAt wr w.heap.size r) ∧ Hid (Ok r) ∧ Hid (w.grownBy wr none) ∧ Hid (MulOut a b r i)) (fun ti _ => a.length - (intOf ti).toNat)
  case atStart =>
    refine ⟨0, List.replicate L 0, by omega, rfl, by simp, ?_, ok_replicate _, World.grownBy_alloc _ _ _, mulOut_start a b _⟩
    show (w.alloc _).heap[w.heap.size]? = _
    rw [alloc_blk, made_row]
  case round =>
    obtain ⟨i, r, hi, rfl, hr, Hrow, Hok, Hg, Hv⟩ := hrel
    by_cases hlt : i < a.length
    · have hx := Oa.out i hlt
      have i1 : (i : Int) < a.length := by omega
      go_wp2
      go_loopw [7, 8] (fun tc tj wr => ∃ j c : Nat, ∃ r : List Nat, j ≤ b.length ∧ (c : Int) < 4294967296 ∧ tc = .int .u64 c ∧ tj = .int .i64 j ∧ r.length = L ∧ Hid (RowAt wr w.heap.size r) ∧ Hid (Ok r) ∧ Hid (w.grownBy wr none) ∧ Hid (MulIn a b r i j c)) (fun _ tj _ => b.length - (intOf tj).toNat)
      case atStart => exact ⟨0, 0, r, by omega, by omega, rfl, rfl, hr, Hrow, Hok, Hg, mulIn_start Hv.out⟩
      case round =>
        obtain ⟨j, c, r', hj, hc, rfl, rfl, hr', Hrow', Hok', Hg', Hv'⟩ := hrel
        by_cases hlj : j < b.length
        · have hxa := Hg'.out.cell (Ha.out i hlt) (by simp)
          have hya := Hg'.out.cell (Hb.out j hlj) (by simp)
          have hyb := Ob.out j hlj
          have i2 : (j : Int) < b.length := by omega
          have hst : ∀ d q, d + 4294967296 * q = c + (a.getD i 0 * b.getD j 0 + r'.getD (i + j) 0) → MulIn a b (r'.set (i + j) d) i (j + 1) q := fun d q h => mulIn_step Hv'.out hlj (by omega) rfl rfl rfl h
          obtain ⟨s, hs⟩ : ∃ s, i + j = s := ⟨_, rfl⟩
          rw [hs] at hst
          have es : (i : Int) + (j : Int) = (s : Int) := by omega
          have i3 : (s : Int) < (L : Int) := by omega
          have rc := row_cell Hrow'.out (i := s) (by omega)
          have rf := row_frozen Hrow'.out s
          have hzb := Hok'.out s (by omega)
          generalize a.getD i 0 = x at *
          generalize b.getD j 0 = y at *
          generalize r'.getD s 0 = z at *
          obtain ⟨w1, w2⟩ := word_mul x y z c hx hyb hzb (by omega)
          obtain ⟨p, hp⟩ : ∃ p, x * y = p := ⟨_, rfl⟩
          rw [hp] at w1 w2 hst
          have ep : (x : Int) * (y : Int) = (p : Int) := by rw [← hp]; simp
          obtain ⟨m, hm⟩ : ∃ m, p + z = m := ⟨_, rfl⟩
          have em : (p : Int) + (z : Int) = (m : Int) := by omega
          rw [hm] at w2 hst
          obtain ⟨n, hn⟩ : ∃ n, c + m = n := ⟨_, rfl⟩
          have en : (c : Int) + (m : Int) = (n : Int) := by omega
          rw [hn] at w2 hst
          have e1 : IntKind.u32.wrap (n : Int) = ((n % 4294967296 : Nat) : Int) := by rw [IntKind.wrap_u32]; omega
          have e2 : (n : Int) / 4294967296 = ((n / 4294967296 : Nat) : Int) := by omega
          have b4 : n % 4294967296 < 4294967296 := Nat.mod_lt _ (by omega)
          have hs2 := hst (n % 4294967296) (n / 4294967296) (by omega)
          have b1 : (x : Int) < 4294967296 := by omega
          have b2 : (y : Int) < 4294967296 := by omega
          have b3 : (z : Int) < 4294967296 := by omega
          have b5 : (p : Int) ≤ 18446744065119617025 := by omega
          have b6 : (m : Int) < 18446744073709551616 := by omega
          have b7 : (n : Int) < 18446744073709551616 := by omega
          generalize n % 4294967296 = d at *
          generalize n / 4294967296 = q at *
          have HS : Hid (MulIn a b (r'.set s d) i (j + 1) q) := hs2
          clear hst hs2 hp w1 Hv' hx hyb hzb hm hn
          go_wp2
          go_quiet (fail)
          go_wp2
          go_roundw
          case rel => exact ⟨j + 1, q, r'.set s d, by omega, by omega, rfl, by go_num, by simpa using hr', row_set (w := wr.drewN nq) Hrow'.out s d, ok_set Hok'.out s d b4, gset (gdrewN Hg'.out nq) (Nat.le_refl _) _, HS⟩
          case measure => simp [intOf]; omega
        · have hj2 : j = b.length := by omega
          subst hj2
          have HD : Hid (MulOut a b (r'.set (i + b.length) c) (i + 1)) := mulIn_done Hv'.out hlt (by omega)
          obtain ⟨s, hs⟩ : ∃ s, i + b.length = s := ⟨_, rfl⟩
          rw [hs] at HD
          have es : (i : Int) + (b.length : Int) = (s : Int) := by omega
          have i3 : (s : Int) < (L : Int) := by omega
          have rc := row_cell Hrow'.out (i := s) (by omega)
          have rf := row_frozen Hrow'.out s
          generalize r'.getD s 0 = z at *
          clear Hv'
          go_wp2
          go_roundw
          case rel => exact ⟨i + 1, r'.set s c, by omega, by go_num, by simpa using hr', row_set Hrow'.out s c, ok_set Hok'.out s c (by omega), gset Hg'.out (Nat.le_refl _) _, HD⟩
          case measure => simp [intOf]; omega
    · have hia : i = a.length := by omega
      subst hia
      have Hw : Hid (Wd wr (.slice (some ⟨w.heap.size, 0, none⟩) L L) r) := by
        have := row_wd Hrow.out Hok.out (by omega) L (by omega)
        rw [hr] at this
        exact this
      have Hval : Hid (val r = val a * val b) := by
        have := Hv.out.1
        rw [List.take_length] at this
        exact this
      clear Hv Hrow Hok
      go_wp2_with fail
      refine (trim_any _ r _ Hw.out).mono ?_
      rintro e w' ⟨⟨v', rfl, hv⟩, hw⟩
      rw [hw]; clear hw w' Hw
      have R : Hid (Wd wr v' (r.take (tl r r.length)) ∧ Nrm (r.take (tl r r.length)) ∧ val (r.take (tl r r.length)) = val a * val b) := by
        refine ⟨hv, nrm_tl _ _ (Nat.le_refl _), ?_⟩
        rw [val_tl _ _ (Nat.le_refl _), List.take_length]
        exact Hval.out
      clear hv
      go_wp2
      go_ret
      exact ⟨_, _, rfl, R.out.1, R.out.2.1, R.out.2.2, Hg.out⟩

theorem mul_any (va vb : Value) (a b : List Nat) (w : World) (ha : Wd w va a) (hb : Wd w vb b) (h3 : a.length < 35184372088832) (h4 : b.length < 35184372088832) :
    Calls Tryd.prog 25 #[va, vb] w fun e w' => ∃ v l, e = .returned v ∧ Wd w' v l ∧ Nrm l ∧ val l = val a * val b ∧ w.grownBy w' none := by
  by_cases h : a.length = 0 ∨ b.length = 0
  · exact mul_none va vb a b w ha hb h
  · exact mul_some va vb a b w ha hb (by omega) (by omega) h3 h4
end Go.Proofs.YtphlcjghcffnbaaDoor
