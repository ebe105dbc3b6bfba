/-
  The contract of the method GCD of quarterdaybig's Int, for numbers of 63 bits, without the two that it could hand back besides.
-/
import Derived.Test.YtoggclbhjoodoaaDoorBig23
import Derived.Deep.LoopGhost
namespace Go.Proofs.YtoggclbhjoodoaaDoor
set_option linter.unusedVariables false
set_option linter.unusedSimpArgs false
open Go.RowKit Big

/-- What holds at the head of the loop. -/
structure GInv (w wr : World) (a b pp pq ps pt P Q : Nat) (S T : Int) : Prop where
  bp : BigIs wr pp P
  bq : BigIs wr pq Q
  bs : BigIs wr ps S
  bt : BigIs wr pt T
  gr : w.grownBy wr none
  gcd : Nat.gcd P Q = Nat.gcd a b
  p0 : 0 < P
  p1 : P < 9223372036854775808
  q1 : Q < 9223372036854775808
  st : S.natAbs * Q + T.natAbs * P ≤ b

theorem mid_nat {n : Nat} (h : n < 9223372036854775808) : Mid63 (n : Int) := by unfold Mid63; omega

/-- What the round's numbers come to. -/
theorem gcd_step {a b P Q : Nat} {S T : Int} (h0 : 0 < Q) (hb : b < 9223372036854775808) (hp : P < 9223372036854775808) (hp0 : 0 < P) (st : S.natAbs * Q + T.natAbs * P ≤ b) :
    Few S ∧ Few T ∧ Few (((P : Int) / Q) * T) ∧ T.natAbs * (P % Q) + (S - ((P : Int) / Q) * T).natAbs * Q ≤ b := by
  have e := Nat.div_add_mod P Q
  obtain ⟨d, hd⟩ : ∃ d, P / Q = d := ⟨_, rfl⟩
  have ed : ((P : Int) / Q) = (d : Int) := by rw [← hd]; rfl
  rw [ed]
  rw [hd] at e
  have s1 : S.natAbs ≤ S.natAbs * Q := Nat.le_mul_of_pos_right _ h0
  have t1 : T.natAbs ≤ T.natAbs * P := Nat.le_mul_of_pos_right _ hp0
  have dT : ((d : Int) * T).natAbs = d * T.natAbs := by rw [Int.natAbs_mul]; rfl
  have d1 : d ≤ P := by
    have : d * 1 ≤ d * Q := Nat.mul_le_mul_left d h0
    have : Q * d = d * Q := Nat.mul_comm _ _
    omega
  have t2 : d * T.natAbs ≤ T.natAbs * P := by rw [Nat.mul_comm]; exact Nat.mul_le_mul_left _ d1
  have tri : (S - (d : Int) * T).natAbs ≤ S.natAbs + d * T.natAbs := by
    rw [← dT]; omega
  have k1 : (S - (d : Int) * T).natAbs * Q ≤ S.natAbs * Q + d * T.natAbs * Q := by
    have := Nat.mul_le_mul_right Q tri
    rw [Nat.add_mul] at this
    exact this
  have k2 : T.natAbs * P = T.natAbs * (P % Q) + d * T.natAbs * Q := by
    have : T.natAbs * P = T.natAbs * (Q * d + P % Q) := by rw [e]
    rw [this, Nat.mul_add, Nat.add_comm]
    congr 1
    rw [Nat.mul_comm Q d, ← Nat.mul_assoc, Nat.mul_comm T.natAbs d]
  refine ⟨?_, ?_, ?_, by omega⟩
  · unfold Few; omega
  · unfold Few; omega
  · have : ((d : Int) * T).natAbs ≤ b := by rw [dT]; omega
    unfold Few; omega

theorem gfresh {a b c : World} {p : Nat} (h : a.grownBy b none) (k : b.grownBy c (some p)) (hp : a.heap.size ≤ p) : a.grownBy c none :=
  ⟨k.os.trans h.os, k.tape.trans h.tape, k.output.trans h.output, Nat.le_trans h.size k.size, fun i hi _ => (k.block i (Nat.lt_of_lt_of_le hi h.size) (fun e => by have := Option.some.inj e; omega)).trans (h.block i hi (by simp))⟩
theorem gfresh2 {a b c : World} {p q : Nat} (h : a.grownBy b none) (k : Grown2 b c p q) (hp : a.heap.size ≤ p) (hq : a.heap.size ≤ q) : a.grownBy c none :=
  ⟨k.os.trans h.os, k.tape.trans h.tape, k.output.trans h.output, Nat.le_trans h.size k.size, fun i hi _ => (k.block i (Nat.lt_of_lt_of_le hi h.size) (by omega) (by omega)).trans (h.block i hi (by simp))⟩

/-- Two new numbers. -/
theorem two_new (w : World) : BigIs ((w.alloc (.cells #[.bool false, .slice none 0 0] 55)).alloc (.cells #[.bool false, .slice none 0 0] 55)) w.heap.size 0 ∧ BigIs ((w.alloc (.cells #[.bool false, .slice none 0 0] 55)).alloc (.cells #[.bool false, .slice none 0 0] 55)) (w.heap.size + 1) 0 ∧ w.grownBy ((w.alloc (.cells #[.bool false, .slice none 0 0] 55)).alloc (.cells #[.bool false, .slice none 0 0] 55)) none := by
  have n2 := bigis_new (w.alloc (.cells #[.bool false, .slice none 0 0] 55))
  rw [show (w.alloc (.cells #[.bool false, .slice none 0 0] 55)).heap.size = w.heap.size + 1 by simp] at n2
  exact ⟨(bigis_new w).growBy (World.grownBy_alloc _ _ _), n2, gtrans (World.grownBy_alloc _ _ _) (World.grownBy_alloc _ _ _)⟩

theorem qr_new (pp pq P Q : Nat) (w : World) (hp : BigIs w pp P) (hq : BigIs w pq Q) (p1 : P < 9223372036854775808) (q1 : Q < 9223372036854775808) (q0 : 0 < Q) :
    Calls Tryd.prog 37 #[.pointer (some ⟨w.heap.size, 0, none⟩), .pointer (some ⟨pp, 0, none⟩), .pointer (some ⟨pq, 0, none⟩), .pointer (some ⟨w.heap.size + 1, 0, none⟩)] ((w.alloc (.cells #[.bool false, .slice none 0 0] 55)).alloc (.cells #[.bool false, .slice none 0 0] 55)) fun e w' => e = .returned (.tuple #[.pointer (some ⟨w.heap.size, 0, none⟩), .pointer (some ⟨w.heap.size + 1, 0, none⟩)]) ∧ Hid (BigIs w' w.heap.size ((P : Int) / Q) ∧ BigIs w' (w.heap.size + 1) ((P : Int) % Q) ∧ w.grownBy w' none) := by
  obtain ⟨n1, n2, g⟩ := two_new w
  refine (quoRem_mid w.heap.size pp pq (w.heap.size + 1) 0 0 P Q _ n1 n2 (by omega) (hp.growBy g) (hq.growBy g) (mid_nat p1) (mid_nat q1) (by omega)).mono ?_
  rintro e w' ⟨rfl, hR⟩
  obtain ⟨a1, a2, a3, a4⟩ := hR.out
  exact ⟨rfl, a1, a2, gfresh2 g a3 (Nat.le_refl _) (by omega)⟩

theorem mul_new (pd pt : Nat) (D T : Int) (w : World) (hd : BigIs w pd D) (ht : BigIs w pt T) (fd : Few D) (ft : Few T) :
    Calls Tryd.prog 20 #[.pointer (some ⟨w.heap.size + 1, 0, none⟩), .pointer (some ⟨pd, 0, none⟩), .pointer (some ⟨pt, 0, none⟩)] ((w.alloc (.cells #[.bool false, .slice none 0 0] 55)).alloc (.cells #[.bool false, .slice none 0 0] 55)) fun e w' => e = .returned (.pointer (some ⟨w.heap.size + 1, 0, none⟩)) ∧ Hid (BigIs w' w.heap.size 0 ∧ BigIs w' (w.heap.size + 1) (D * T) ∧ w.grownBy w' none) := by
  obtain ⟨n1, n2, g⟩ := two_new w
  refine (mul_big (w.heap.size + 1) pd pt 0 D T _ n2 (hd.growBy g) (ht.growBy g) fd ft).mono ?_
  rintro e w' ⟨rfl, hR⟩
  exact ⟨rfl, n1.kept (by omega) n2 hR.out.2, hR.out.1, gfresh g hR.out.2 (by omega)⟩

set_option maxRecDepth 100000 in
set_option maxHeartbeats 4000000 in
theorem gcd_big (pz pa pb a b : Nat) (z : Int) (w : World) (hz : BigIs w pz z) (ha : BigIs w pa a) (hb : BigIs w pb b) (a0 : 0 < a) (b0 : 0 < b) (a1 : a < 9223372036854775808) (b1 : b < 9223372036854775808) :
    Calls Tryd.prog 21 #[.pointer (some ⟨pz, 0, none⟩), .pointer none, .pointer none, .pointer (some ⟨pa, 0, none⟩), .pointer (some ⟨pb, 0, none⟩)] w fun e w' => e = .returned (.pointer (some ⟨pz, 0, none⟩)) ∧ Hid (BigIs w' pz (Nat.gcd a b) ∧ w.grownBy w' (some pz)) := by
  obtain ⟨va, la, hIa, ea, _⟩ := mid_open ha (mid_nat a1)
  obtain ⟨vb, lb, hIb, eb, _⟩ := mid_open hb (mid_nat b1)
  have ca := blk_cell1 hIa.blk
  have cb := blk_cell1 hIb.blk
  obtain ⟨aa, capa, rfl⟩ := hIa.wd.slice
  obtain ⟨ab, capb, rfl⟩ := hIb.wd.slice
  have na : ((la.length : Int) == 0) = false := by
    rw [beq_eq_false_iff_ne]
    intro h
    have h0 : la = [] := List.eq_nil_of_length_eq_zero (by omega)
    rw [h0] at ea; simp [val] at ea; omega
  have nb : ((lb.length : Int) == 0) = false := by
    rw [beq_eq_false_iff_ne]
    intro h
    have h0 : lb = [] := List.eq_nil_of_length_eq_zero (by omega)
    rw [h0] at eb; simp [val] at eb; omega
  have la2 := hIa.wd.len
  have lb2 := hIb.wd.len
  clear hIa hIb ea eb
  have HZ : Hid (BigIs w pz z ∧ BigIs w pa a ∧ BigIs w pb b) := ⟨hz, ha, hb⟩
  clear hz ha hb
  have S1 : Hid (Calls Tryd.prog 35 #[.pointer (some ⟨w.heap.size, 0, none⟩), .pointer (some ⟨pa, 0, none⟩)] (w.alloc (.cells #[.bool false, .slice none 0 0] 55)) fun e w' => e = .returned (.pointer (some ⟨w.heap.size, 0, none⟩)) ∧ Hid (BigIs w' w.heap.size a ∧ w.grownBy w' none)) := by
    refine (abs_big w.heap.size pa 0 a _ (bigis_new w) (HZ.out.2.1.growBy (World.grownBy_alloc _ _ _)) (mid_nat a1)).mono ?_
    rintro e w' ⟨rfl, hR⟩
    exact ⟨rfl, hR.out.1, gnew hR.out.2⟩
  have S2 : Hid (∀ w1, w.grownBy w1 none → Calls Tryd.prog 35 #[.pointer (some ⟨w1.heap.size, 0, none⟩), .pointer (some ⟨pb, 0, none⟩)] (w1.alloc (.cells #[.bool false, .slice none 0 0] 55)) fun e w' => e = .returned (.pointer (some ⟨w1.heap.size, 0, none⟩)) ∧ Hid (BigIs w' w1.heap.size b ∧ w1.grownBy w' none)) := fun w1 g1 => by
    refine (abs_big w1.heap.size pb 0 b _ (bigis_new w1) ((HZ.out.2.2.growBy g1).growBy (World.grownBy_alloc _ _ _)) (mid_nat b1)).mono ?_
    rintro e w' ⟨rfl, hR⟩
    exact ⟨rfl, hR.out.1, gnew hR.out.2⟩
  go_enter Tryd.func21, Tryd.ntmps21
  go_wp2_with fail
  refine S1.out.mono ?_
  rintro e w1 ⟨rfl, H1⟩
  clear S1
  go_wp2_with fail
  refine (S2.out w1 H1.out.2).mono ?_
  rintro e w2 ⟨rfl, H2⟩
  clear S2
  go_wp2_with fail
  refine (newInt_any 1 w2 (by omega) (by omega)).mono ?_
  rintro e w3 ⟨rfl, b3, g3⟩
  have H3 : Hid (BigIs w3 w2.heap.size 1 ∧ w2.grownBy w3 none) := ⟨b3, g3⟩
  clear b3 g3
  go_wp2_with fail
  refine (newInt_any 0 w3 (by omega) (by omega)).mono ?_
  rintro e w4 ⟨rfl, b4, g4⟩
  have HI : Hid (GInv w w4 a b w.heap.size w1.heap.size w2.heap.size w3.heap.size a b 1 0) :=
    ⟨((H1.out.1.growBy H2.out.2).growBy H3.out.2).growBy g4, (H2.out.1.growBy H3.out.2).growBy g4, H3.out.1.growBy g4, b4, gtrans (gtrans (gtrans H1.out.2 H2.out.2) H3.out.2) g4, rfl, a0, a1, b1, by simp⟩
  clear b4 g4 H1 H2 H3
  generalize w3.heap.size = p3 at *
  generalize w2.heap.size = p2 at *
  generalize w1.heap.size = p1 at *
  go_wp2
  go_loopg [15, 16, 17, 18] b (fun gk tp tq ts tt wr => ∃ (pp pq ps pt P Q : Nat) (S T : Int), tp = .pointer (some ⟨pp, 0, none⟩) ∧ tq = .pointer (some ⟨pq, 0, none⟩) ∧ ts = .pointer (some ⟨ps, 0, none⟩) ∧ tt = .pointer (some ⟨pt, 0, none⟩) ∧ Q ≤ gk ∧ Hid (GInv w wr a b pp pq ps pt P Q S T))
  case atStart => exact ⟨_, _, _, _, a, b, 1, 0, rfl, rfl, rfl, rfl, Nat.le_refl _, HI⟩
  case round =>
    obtain ⟨pp, pq, ps, pt, P, Q, S, T, rfl, rfl, rfl, rfl, hq, HG⟩ := hrel
    rcases Nat.eq_zero_or_pos Q with hQ | hQ
    · subst hQ
      obtain ⟨vq, lq, hIq, eq, _⟩ := mid_open HG.out.bq (mid_nat HG.out.q1)
      have cq := blk_cell1 hIq.blk
      obtain ⟨aq, capq, rfl⟩ := hIq.wd.slice
      have l0 : lq.length = 0 := by
        rcases Nat.eq_zero_or_pos lq.length with h | h
        · exact h
        · have h1 := val_ge hIq.nrm h
          have h2 := Nat.pow_pos (n := lq.length - 1) (by omega : 0 < 4294967296)
          omega
      rw [l0] at cq
      clear hIq eq
      have HR : Hid (BigIs wr pp (Nat.gcd a b) ∧ BigIs wr pz z ∧ w.grownBy wr none) := by
        have e := HG.out.gcd
        rw [Nat.gcd_zero_right] at e
        rw [← e]
        exact ⟨HG.out.bp, HZ.out.1.growBy HG.out.gr, HG.out.gr⟩
      have fg : Few ((Nat.gcd a b : Nat) : Int) := by
        have e := HG.out.gcd
        rw [Nat.gcd_zero_right] at e
        rw [← e]
        exact (mid_nat HG.out.p1).few
      have lz := HZ.out.1.lt
      clear HG HZ
      go_wp2_with fail
      refine (set_big pz pp z (Nat.gcd a b) wr HR.out.2.1 HR.out.1 fg).mono ?_
      rintro e w5 ⟨rfl, h5⟩
      have H5 : Hid (BigIs w5 pz (Nat.gcd a b) ∧ w.grownBy w5 (some pz)) := ⟨h5.out.1, gtrans (gweak HR.out.2.2 _) h5.out.2⟩
      clear h5 HR
      go_wp2
      go_ret
      exact ⟨rfl, H5⟩
    · obtain ⟨g', rfl⟩ : ∃ g', gk = g' + 1 := ⟨gk - 1, by omega⟩
      obtain ⟨vq, lq, hIq, eq, _⟩ := mid_open HG.out.bq (mid_nat HG.out.q1)
      have cq := blk_cell1 hIq.blk
      obtain ⟨aq, capq, rfl⟩ := hIq.wd.slice
      have l0 : (0 : Int) < lq.length := by
        rcases Nat.eq_zero_or_pos lq.length with h | h
        · rw [List.eq_nil_of_length_eq_zero h] at eq; simp [val] at eq; omega
        · omega
      have lql := hIq.wd.len
      clear hIq eq
      obtain ⟨f1, f2, f3, f4⟩ := gcd_step (a := a) (b := b) (P := P) (Q := Q) (S := S) (T := T) hQ b1 HG.out.p1 HG.out.p0 HG.out.st
      have fD : Few ((P : Int) / Q) := by
        have h1 : (P : Int) / Q ≤ P := Int.ediv_le_self _ (by omega)
        have h2 := Int.ediv_nonneg (show (0 : Int) ≤ P by omega) (show (0 : Int) ≤ Q by omega)
        have := HG.out.p1
        unfold Few; omega
      have F : Hid (Few S ∧ Few T ∧ Few (((P : Int) / Q) * T) ∧ Few ((P : Int) / Q) ∧ T.natAbs * (P % Q) + (S - ((P : Int) / Q) * T).natAbs * Q ≤ b) := ⟨f1, f2, f3, fD, f4⟩
      clear f1 f2 f3 f4 fD
      go_wp2_with fail
      refine (qr_new pp pq P Q wr HG.out.bp HG.out.bq HG.out.p1 HG.out.q1 hQ).mono ?_
      rintro e w5 ⟨rfl, H5⟩
      clear cq
      have B5 : Hid (BigIs w5 pt T ∧ BigIs w5 ps S ∧ BigIs w5 pq Q ∧ w.grownBy w5 none) := ⟨HG.out.bt.growBy H5.out.2.2, HG.out.bs.growBy H5.out.2.2, HG.out.bq.growBy H5.out.2.2, gtrans HG.out.gr H5.out.2.2⟩
      go_wp2_with fail
      refine (mul_new wr.heap.size pt ((P : Int) / Q) T w5 H5.out.1 B5.out.1 F.out.2.2.2.1 F.out.2.1).mono ?_
      rintro e w6 ⟨rfl, H6⟩
      go_wp2_with fail
      refine (sub_big w5.heap.size ps (w5.heap.size + 1) 0 S (((P : Int) / Q) * T) w6 H6.out.1 (B5.out.2.1.growBy H6.out.2.2) H6.out.2.1 F.out.1 F.out.2.2.1).mono ?_
      rintro e w7 ⟨rfl, H7⟩
      have g7 : w5.grownBy w7 none := gfresh H6.out.2.2 H7.out.2 (Nat.le_refl _)
      have NEW : Hid (GInv w w7 a b pq (wr.heap.size + 1) pt w5.heap.size Q (P % Q) T (S - ((P : Int) / Q) * T)) :=
        ⟨B5.out.2.2.1.growBy g7, H5.out.2.1.growBy g7, B5.out.1.growBy g7, H7.out.1, gtrans B5.out.2.2.2 g7, by rw [← HG.out.gcd, Nat.gcd_comm Q, ← Nat.gcd_rec, Nat.gcd_comm], hQ, HG.out.q1, Nat.lt_trans (Nat.mod_lt _ hQ) HG.out.q1, F.out.2.2.2.2⟩
      have ml : P % Q ≤ g' := by have := Nat.mod_lt P hQ; omega
      clear g7 H5 H6 H7 B5 F HG HZ
      generalize w5.heap.size = n5 at *
      generalize wr.heap.size + 1 = n4 at *
      go_wp2
      go_roundg g'
      case measure => omega
      case rel => exact ⟨pq, n4, pt, n5, Q, P % Q, T, _, rfl, rfl, rfl, rfl, ml, NEW⟩
end Go.Proofs.YtoggclbhjoodoaaDoor
