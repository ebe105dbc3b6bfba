/-
  The contracts of dayref2's reader: Num.
-/
import Derived.Test.YtheabcdncildiaaDoorFrN
import Derived.Test.YtheabcdncildiaaDoorFr6
namespace Go.Proofs.YtheabcdncildiaaDoor
set_option linter.unusedVariables false
set_option linter.unusedSimpArgs false
set_option maxRecDepth 100000
open Go.RowKit Go.Lib

/-- A box of three cells: the bytes, where it stands, whether it is bad. -/
def DBox (W : World) (b : Nat) (v : Value) (n : Int) (q : Bool) : Prop := W.heap[b]? = some (.cells #[v, .int .i64 n, .bool q] 43 (0, 0))
theorem DBox.c0 {W : World} {b : Nat} {v : Value} {n : Int} {q : Bool} (h : DBox W b v n q) : W.cell? ⟨b, 0, none⟩ = some v := by unfold DBox at h; simp [World.cell?, h]
theorem DBox.c1 {W : World} {b : Nat} {v : Value} {n : Int} {q : Bool} (h : DBox W b v n q) : W.cell? ⟨b, 1, none⟩ = some (.int .i64 n) := by unfold DBox at h; simp [World.cell?, h]
theorem DBox.c2 {W : World} {b : Nat} {v : Value} {n : Int} {q : Bool} (h : DBox W b v n q) : W.cell? ⟨b, 2, none⟩ = some (.bool q) := by unfold DBox at h; simp [World.cell?, h]
theorem DBox.fz {W : World} {b : Nat} {v : Value} {n : Int} {q : Bool} (h : DBox W b v n q) (o : Nat) : W.frozen? ⟨b, o, none⟩ = false := by unfold DBox at h; simp [World.frozen?, h]
theorem DBox.lt {W : World} {b : Nat} {v : Value} {n : Int} {q : Bool} (h : DBox W b v n q) : b < W.heap.size := (Array.getElem?_eq_some_iff.1 h).1
theorem DBox.new (W : World) (v : Value) (n : Int) (q : Bool) : DBox (W.alloc (.cells #[v, .int .i64 n, .bool q] 43)) W.heap.size v n q := new_heap W _
theorem DBox.set1 {W : World} {b : Nat} {v : Value} {n : Int} {q : Bool} (h : DBox W b v n q) (m : Int) : DBox (W.setCell ⟨b, 1, none⟩ (.int .i64 m)) b v m q := by
  unfold DBox at *
  rw [setCell_eq_setRow W b 1 _ 43 (0, 0) _ h, setRow_heap W b _ _ 43 (0, 0) h]
  rfl
theorem DBox.set2 {W : World} {b : Nat} {v : Value} {n : Int} {q : Bool} (h : DBox W b v n q) (p : Bool) : DBox (W.setCell ⟨b, 2, none⟩ (.bool p)) b v n p := by
  unfold DBox at *
  rw [setCell_eq_setRow W b 2 _ 43 (0, 0) _ h, setRow_heap W b _ _ 43 (0, 0) h]
  rfl


/-- Where a reader stands. -/
def DSt (W : World) (b : Nat) (v : Value) (l : List UInt8) : St → Prop
  | none => ∃ p : Nat, p ≤ l.length ∧ DBox W b v p true
  | some r => ∃ p : Nat, p ≤ l.length ∧ r = l.drop p ∧ DBox W b v p false
/-- A reader of bytes. -/
structure DRd (W : World) (b : Nat) (a : Option Addr) (cap : Nat) (l : List UInt8) (st : St) : Prop where
  bytes : IsBN W b a l cap
  box : DSt W b (.slice a l.length cap) l st
theorem DRd.lt {W : World} {b : Nat} {a : Option Addr} {cap : Nat} {l : List UInt8} {st : St} (h : DRd W b a cap l st) : b < W.heap.size := by
  cases st with
  | none => obtain ⟨_, _, x⟩ := h.box; exact x.lt
  | some r => obtain ⟨_, _, _, x⟩ := h.box; exact x.lt
theorem DRd.below {W W' : World} {b : Nat} {a : Option Addr} {cap : Nat} {l : List UInt8} {st : St} (h : DRd W b a cap l st) (hb : Below (b + 1) W W') : DRd W' b a cap l st := by
  refine ⟨h.bytes.below' hb (Nat.le_succ _), ?_⟩
  have := h.box
  cases st with
  | none => obtain ⟨p, hp, x⟩ := this; exact ⟨p, hp, (hb.block b (Nat.lt_succ_self _)).trans x⟩
  | some r => obtain ⟨p, hp, e, x⟩ := this; exact ⟨p, hp, e, (hb.block b (Nat.lt_succ_self _)).trans x⟩

theorem dnum_none (b : Nat) (v : Value) (lo hi : Int) (w : World) (p : Nat) (h : DBox w b v p true) :
    Calls Tryd.prog 12 #[.pointer (some ⟨b, 0, none⟩), .int .i64 lo, .int .i64 hi] w fun e w' => e = .returned (.int .i64 0) ∧ DBox w' b v p true ∧ KeepBut b w w' := by
  have c2 := h.c2
  have f2 := h.fz 2
  have HX : Hid (DBox _ b v p true) := h.set2 true
  have K := (KeepBut.refl b w).set 2 (.bool true)
  clear h
  go_enter Tryd.func12, Tryd.ntmps12
  go_wp2
  refine wp_loop_rounds 1 ?_
  rw [rounds_succ]
  go_wp2
  go_ret
  exact ⟨rfl, HX.out, K⟩

theorem rdNS_nil {lo hi : Int} {l : List UInt8} (h : rdF 9 true l = none) : rdNS lo hi (some l) = (0, none) := by simp [rdNS, rdN, h]
/-- What the reading of a number leaves. -/
structure NumP (b : Nat) (v : Value) (l : List UInt8) (res : Int × St) (w : World) (x : Int) (w' : World) : Prop where
  st : DSt w' b v l res.2
  val : res.2 ≠ none → x = res.1
  keep : KeepBut b w w'
/-- The last byte that may be, and what may be read with it. -/
theorem zag_far {u : Nat} (h : 9223372036854775808 ≤ u) : zag u < -1000000000000000 ∨ 1000000000000000 < zag u := by
  unfold zag
  split <;> omega

set_option maxHeartbeats 4000000 in
theorem dnum_some (b : Nat) (a : Option Addr) (cap : Nat) (l : List UInt8) (lo hi : Int) (w : World) (p : Nat) (hp : p ≤ l.length) (hl : l.length ≤ 9223372036854775806) (h1 : -1000000000000000 ≤ lo) (h1' : lo ≤ 0) (h2 : 0 ≤ hi) (h2' : hi ≤ 1000000000000000)
    (hby : IsBN w b a l cap) (h : DBox w b (.slice a l.length cap) p false) :
    Calls Tryd.prog 12 #[.pointer (some ⟨b, 0, none⟩), .int .i64 lo, .int .i64 hi] w fun e w' =>
      ∃ x, e = .returned (.int .i64 x) ∧ NumP b (.slice a l.length cap) l (rdNS lo hi (some (l.drop p))) w x w' := by
  have Hby : Hid (IsBN w b a l cap) := hby
  have hb : b < w.heap.size := h.lt
  obtain ⟨res, hres⟩ : ∃ res, rdNS lo hi (some (l.drop p)) = res := ⟨_, rfl⟩
  have Hres : Hid (rdNS lo hi (some (l.drop p)) = res) := hres
  rw [hres]
  have Hin : Hid (∀ {st : St}, (lo ≤ (numS st).1 ∧ (numS st).1 ≤ hi) → rdNS lo hi st = numS st) := fun hh => rdNS_in h1' h2 hh
  have Hout : Hid (∀ {st : St}, ¬ (lo ≤ (numS st).1 ∧ (numS st).1 ≤ hi) → rdNS lo hi st = (0, none)) := fun hh => rdNS_out h1' h2 hh
  have Hstart : Hid (DBox w b (.slice a l.length cap) p false) := h
  clear hby hres h
  go_enter Tryd.func12, Tryd.ntmps12
  go_wp2
  go_loopw [7, 8, 9, 10, 11] (fun xv bv iv _ _ wr => ∃ k u P q : Nat, k ≤ 9 ∧ q ≤ l.length ∧ iv = .int .i64 k ∧ xv = .int .u64 u ∧ bv = .int .u64 P ∧ Hid (P = 128 ^ k) ∧ Hid (q = p + k) ∧ Hid (RdI (l.drop p) k u) ∧ Hid (DBox wr b (.slice a l.length cap) q false) ∧ Hid (KeepBut b w wr)) (fun _ _ i _ _ _ => 10 - (intOf i).toNat)
  case atStart => exact ⟨0, 0, 1, p, Nat.zero_le _, hp, rfl, rfl, rfl, rfl, rfl, rdI_start _, Hstart, KeepBut.refl _ _⟩
  case round =>
    obtain ⟨k, u, P, q, hk, hq, rfl, rfl, rfl, HP, Hq, R, X, K⟩ := hrel
    have c0 := X.out.c0
    have c1 := X.out.c1
    have c2 := X.out.c2
    have hk10 : (k : Int) < 10 := by omega
    have hdl : (l.drop p).length = l.length - p := List.length_drop ..
    by_cases hql : q < l.length
    · have hkl : k < (l.drop p).length := by have := Hq.out; omega
      rcases (Hby.out.keep K.out (Nat.le_of_lt hb)).lies with h0 | ⟨gb, go, rfl, hgb, hgc⟩
      · rw [h0] at hql; simp at hql
      have ck := hgc q hql
      obtain ⟨c, hc⟩ : ∃ c, (l[q]'hql).toNat = c := ⟨_, rfl⟩
      have hcd : ((l.drop p)[k]'hkl).toNat = c := by
        rw [List.getElem_drop, ← hc]
        congr 2
        exact Hq.out.symm
      have hc256 : c < 256 := by rw [← hc]; exact (l[q]'hql).toNat_lt
      rw [hc] at ck
      have j0 : (0 : Int) ≤ q := by omega
      have j1 : (q : Int) < l.length := by omega
      have j2 : ¬ (l.length : Int) ≤ q := by omega
      have Hcd : Hid (((l.drop p)[k]'hkl).toNat = c) := hcd
      have Hck : Hid (_ = some (Value.int .u8 (c : Int))) := ck
      clear hgc hc hcd
      go_wp2_with fail
      go_quiet (fail)
      rename Nat => nq
      have X1 : Hid (DBox (wr.drewN nq) b _ q false) := X.out
      have K1 : Hid (KeepBut b w (wr.drewN nq)) := K.out.drewN nq
      have ck1 : (wr.drewN nq).cell? _ = some (Value.int .u8 (c : Int)) := Hck.out
      clear c0 c1 c2 X K ck Hck
      generalize wr.drewN nq = wa at *
      have c0 := X1.out.c0
      have c1 := X1.out.c1
      go_wp2_with fail
      go_quiet (fail)
      rename Nat => nq
      have XA : DBox (wa.drewN nq) b _ q false := X1.out
      have KA := K1.out.drewN nq
      clear c0 c1 X1 K1 ck1
      generalize wa.drewN nq = wb at *
      have c1 := XA.c1
      have f1 := XA.fz 1
      have x1 := XA.set1 ((q : Int) + 1)
      have f21 := x1.fz 2
      have c21 := x1.c2
      have k1 := KA.set 1 (.int .i64 ((q : Int) + 1))
      have X1 : Hid (DBox _ _ _ _ _) := x1
      have HK1 : Hid (KeepBut _ _ _) := k1
      have X2 : Hid (DBox _ _ _ _ _) := x1.set2 true
      have HK2 : Hid (KeepBut _ _ _) := k1.set 2 (.bool true)
      have hql1 : q + 1 ≤ l.length := hql
      have jq : (q : Int) + 1 ≤ 9223372036854775807 := by omega
      clear x1 k1 XA KA Hby
      by_cases hk9 : k = 9
      · subst hk9
        have er : res = (0, none) := by
          rw [← Hres.out]
          exact rdNS_nil (rdI_end R.out (by omega))
        subst er
        have e9 : (((9 : Nat) : Int) == 9) = true := rfl
        rcases (by omega : c = 0 ∨ c = 1 ∨ 1 < c) with rfl | rfl | hc1
        · clear R Hres Hin Hout Hstart Hcd
          go_wp2
          go_ret
          exact ⟨_, rfl, ⟨q + 1, hql1, X2.out⟩, fun h => absurd rfl h, HK2.out⟩
        · have hPv : P = 9223372036854775808 := by rw [HP.out]
          have hu : u < 9223372036854775808 := R.out.2.2.1
          obtain ⟨uu, huu⟩ : ∃ uu : Nat, u + P = uu := ⟨_, rfl⟩
          obtain ⟨hS, hZ⟩ : IntKind.u64.wrap ((u : Int) + P) = uu ∧ ∃ z, IntKind.u64.wrap ((P : Int) * 128) = z := by
            refine ⟨?_, _, rfl⟩
            simp only [IntKind.wrap, IntKind.bits, IntKind.signed]
            simp
            omega
          obtain ⟨z, hZ⟩ := hZ
          have hge : (9223372036854775808 : Int) ≤ uu := by omega
          have hPr : (P : Int) < 18446744073709551616 := by omega
          have hlt : (uu : Int) < 18446744073709551616 := by omega
          clear R Hres Hin Hout Hstart Hcd HP hPv hu huu
          by_cases hodd : uu % 2 = 1
          · obtain ⟨n, hn⟩ : ∃ n : Int, -((uu : Int) / 2) - 1 = n := ⟨_, rfl⟩
            have hodd' : (uu : Int) % 2 = 1 := by omega
            have o1 : n < lo := by omega
            clear hodd hge
            go_wp2
            go_ret
            exact ⟨_, rfl, ⟨q + 1, hql1, X2.out⟩, fun h => absurd rfl h, HK2.out⟩
          · obtain ⟨n, hn⟩ : ∃ n : Int, (uu : Int) / 2 = n := ⟨_, rfl⟩
            have hodd' : (uu : Int) % 2 = 0 := by omega
            have o1 : ¬ n < lo := by omega
            have o2 : hi < n := by omega
            clear hodd hge
            go_wp2
            go_ret
            exact ⟨_, rfl, ⟨q + 1, hql1, X2.out⟩, fun h => absurd rfl h, HK2.out⟩
        · have hc1' : (1 : Int) < c := by omega
          clear R Hres Hin Hout Hstart Hcd
          go_wp2
          go_ret
          exact ⟨_, rfl, ⟨q + 1, hql1, X2.out⟩, fun h => absurd rfl h, HK2.out⟩
      · have hk9' : k < 9 := by omega
        have hcr : (c : Int) < 256 := by omega
        have e9 : ((k : Int) == 9) = false := by simp; omega
        have e9' : ¬ (k : Int) = 9 := by omega
        have hP0 : P ≤ 72057594037927936 := by rw [HP.out]; exact pow7_le hk9'
        have hu0 : u < P := by rw [HP.out]; exact R.out.2.2.1
        have hPP : 128 ^ (k + 1) = P * 128 := by rw [Nat.pow_succ, HP.out]
        obtain ⟨Q, hQ⟩ : ∃ Q : Nat, c % 128 * P = Q := ⟨_, rfl⟩
        have hQ0 : Q ≤ 127 * 72057594037927936 := by rw [← hQ]; exact Nat.mul_le_mul (by omega) hP0
        obtain ⟨uu, huu⟩ : ∃ uu : Nat, u + Q = uu := ⟨_, rfl⟩
        obtain ⟨P2, hP2⟩ : ∃ P2 : Nat, P * 128 = P2 := ⟨_, rfl⟩
        obtain ⟨m, hm⟩ : ∃ m : Nat, (c : Int) % 128 = m := ⟨c % 128, by omega⟩
        have hm0 : (0 : Int) ≤ m := by omega
        have hm1 : (m : Int) < 128 := by omega
        have hX : IntKind.u64.wrap ((m : Int) * P) = Q := by
          have e1 : (m : Int) * P = (Q : Int) := by rw [← hQ, ← hm]; push_cast; rfl
          rw [e1]
          simp only [IntKind.wrap, IntKind.bits, IntKind.signed]
          simp
          omega
        have hS : IntKind.u64.wrap ((u : Int) + Q) = uu := by
          simp only [IntKind.wrap, IntKind.bits, IntKind.signed]
          simp
          omega
        have hZ : IntKind.u64.wrap ((P : Int) * 128) = P2 := by
          simp only [IntKind.wrap, IntKind.bits, IntKind.signed]
          simp
          omega
        have hQr : (Q : Int) < 18446744073709551616 := by omega
        have hPr : (P2 : Int) < 18446744073709551616 := by omega
        have hlt : (uu : Int) < 9223372036854775808 := by omega
        have hval : u + 128 ^ k * (c % 128) = uu := by rw [← huu, ← hQ, HP.out, Nat.mul_comm]
        have Hval : Hid (_ = uu) := hval
        have HP2 : Hid (P2 = 128 ^ (k + 1)) := by unfold Hid; omega
        clear hval hPP hQ huu hP2 HP hQ0 hu0 hP0
        by_cases h128 : 128 ≤ c
        · have h128' : ¬ (c : Int) < 128 := by omega
          have hc0 : ((c : Int) == 0) = false := by simp; omega
          have HN : Hid (RdI (l.drop p) (k + 1) uu) := by
            unfold Hid
            rw [← Hval.out]
            have := rdI_more R.out hk9' hkl (by rw [Hcd.out]; exact h128)
            rw [Hcd.out] at this
            exact this
          have Hq2 : Hid (q + 1 = p + (k + 1)) := by unfold Hid; rw [Hq.out]; omega
          clear R Hres Hin Hout Hstart Hcd X2 HK2 Hval hQr hPr hlt
          by_cases hk0 : 0 < k
          · go_wp2
            go_roundw
            case rel => exact ⟨k + 1, uu, P2, q + 1, by omega, hql1, by go_num, rfl, rfl, HP2, Hq2, HN, X1, HK1⟩
            case measure => simp [intOf]; omega
          · go_wp2
            go_roundw
            case rel => exact ⟨k + 1, uu, P2, q + 1, by omega, hql1, by go_num, rfl, rfl, HP2, Hq2, HN, X1, HK1⟩
            case measure => simp [intOf]; omega
        · have h128' : (c : Int) < 128 := by omega
          by_cases h0 : c = 0 ∧ 0 < k
          · have er : res = (0, none) := by
              rw [← Hres.out]
              exact rdNS_nil (rdI_zero R.out hk9' hkl (by rw [Hcd.out]; exact h0.1) h0.2)
            subst er
            obtain ⟨rfl, h0k⟩ := h0
            have h0k' : (0 : Int) < k := by omega
            clear R Hres Hin Hout Hstart Hcd Hval
            go_wp2
            go_ret
            exact ⟨_, rfl, ⟨q + 1, hql1, X2.out⟩, fun h => absurd rfl h, HK2.out⟩
          · have hnum : numS (some (l.drop p)) = (zag uu, some (l.drop (q + 1))) := by
              have h0' : ¬ (((l.drop p)[k]'hkl).toNat = 0 ∧ 0 < k) := by rw [Hcd.out]; exact h0
              have := numS_some (rdI_done R.out hk9' hkl (by rw [Hcd.out]; omega) h0')
              rw [Hcd.out] at this
              rw [this, ← Hval.out, Nat.mod_eq_of_lt (show c < 128 by omega), List.drop_drop]
              congr 3
              rw [Hq.out]; omega
            have Hnum : Hid (numS (some (l.drop p)) = _) := hnum
            clear hnum R Hcd Hval Hstart
            obtain ⟨n, hzn⟩ : ∃ n : Int, zag uu = n := ⟨_, rfl⟩
            rw [hzn] at Hnum
            by_cases hin : lo ≤ n ∧ n ≤ hi
            · have er : res = (n, some (l.drop (q + 1))) := by
                rw [← Hres.out, Hin.out (by rw [Hnum.out]; exact hin), Hnum.out]
              subst er
              have o1 : ¬ n < lo := by omega
              have o2 : ¬ hi < n := by omega
              clear Hres Hin Hout Hnum hin X2 HK2
              by_cases hodd : uu % 2 = 1
              · have ez : zag uu = -((uu / 2 : Nat) : Int) - 1 := if_pos hodd
                have hn : -((uu : Int) / 2) - 1 = n := by rw [← hzn, ez]; omega
                have hodd' : (uu : Int) % 2 = 1 := by omega
                clear hodd hzn ez
                by_cases hk0 : 0 < k
                · have hc0 : ((c : Int) == 0) = false := by simp; omega
                  go_wp2
                  go_ret
                  exact ⟨_, rfl, ⟨q + 1, hql1, rfl, X1.out⟩, fun _ => rfl, HK1.out⟩
                · go_wp2
                  go_ret
                  exact ⟨_, rfl, ⟨q + 1, hql1, rfl, X1.out⟩, fun _ => rfl, HK1.out⟩
              · have ez : zag uu = ((uu / 2 : Nat) : Int) := if_neg hodd
                have hn : (uu : Int) / 2 = n := by rw [← hzn, ez]; omega
                have hodd' : (uu : Int) % 2 = 0 := by omega
                clear hodd hzn ez
                by_cases hk0 : 0 < k
                · have hc0 : ((c : Int) == 0) = false := by simp; omega
                  go_wp2
                  go_ret
                  exact ⟨_, rfl, ⟨q + 1, hql1, rfl, X1.out⟩, fun _ => rfl, HK1.out⟩
                · go_wp2
                  go_ret
                  exact ⟨_, rfl, ⟨q + 1, hql1, rfl, X1.out⟩, fun _ => rfl, HK1.out⟩
            · have er : res = (0, none) := by
                rw [← Hres.out]
                exact Hout.out (by rw [Hnum.out]; exact hin)
              subst er
              have ho : n < lo ∨ (¬ n < lo ∧ hi < n) := by omega
              clear Hres Hin Hout Hnum hin X1 HK1
              rcases ho with o1 | ⟨o1, o2⟩
              · by_cases hodd : uu % 2 = 1
                · have ez : zag uu = -((uu / 2 : Nat) : Int) - 1 := if_pos hodd
                  have hn : -((uu : Int) / 2) - 1 = n := by rw [← hzn, ez]; omega
                  have hodd' : (uu : Int) % 2 = 1 := by omega
                  clear hodd hzn ez
                  by_cases hk0 : 0 < k
                  · have hc0 : ((c : Int) == 0) = false := by simp; omega
                    go_wp2
                    go_ret
                    exact ⟨_, rfl, ⟨q + 1, hql1, X2.out⟩, fun h => absurd rfl h, HK2.out⟩
                  · go_wp2
                    go_ret
                    exact ⟨_, rfl, ⟨q + 1, hql1, X2.out⟩, fun h => absurd rfl h, HK2.out⟩
                · have ez : zag uu = ((uu / 2 : Nat) : Int) := if_neg hodd
                  have hn : (uu : Int) / 2 = n := by rw [← hzn, ez]; omega
                  have hodd' : (uu : Int) % 2 = 0 := by omega
                  exfalso; omega
              · by_cases hodd : uu % 2 = 1
                · have ez : zag uu = -((uu / 2 : Nat) : Int) - 1 := if_pos hodd
                  have hn : -((uu : Int) / 2) - 1 = n := by rw [← hzn, ez]; omega
                  have hodd' : (uu : Int) % 2 = 1 := by omega
                  exfalso; omega
                · have ez : zag uu = ((uu / 2 : Nat) : Int) := if_neg hodd
                  have hn : (uu : Int) / 2 = n := by rw [← hzn, ez]; omega
                  have hodd' : (uu : Int) % 2 = 0 := by omega
                  clear hodd hzn ez
                  by_cases hk0 : 0 < k
                  · have hc0 : ((c : Int) == 0) = false := by simp; omega
                    go_wp2
                    go_ret
                    exact ⟨_, rfl, ⟨q + 1, hql1, X2.out⟩, fun h => absurd rfl h, HK2.out⟩
                  · go_wp2
                    go_ret
                    exact ⟨_, rfl, ⟨q + 1, hql1, X2.out⟩, fun h => absurd rfl h, HK2.out⟩
    · have er : res = (0, none) := by
        rw [← Hres.out]
        exact rdNS_nil (rdI_end R.out (by have := Hq.out; omega))
      subst er
      have j2 : (l.length : Int) ≤ q := by omega
      go_wp2_with fail
      go_quiet (fail)
      rename Nat => nq
      have XA : DBox (wr.drewN nq) b _ q false := X.out
      have KA := K.out.drewN nq
      clear c0 c1 c2 X K
      generalize wr.drewN nq = wa at *
      have c2 := XA.c2
      have f2 := XA.fz 2
      have X2 : Hid (DBox _ _ _ _ _) := XA.set2 true
      have HK2 : Hid (KeepBut _ _ _) := KA.set 2 (.bool true)
      clear Hby R Hres Hin Hout Hstart XA KA
      go_wp2
      go_ret
      exact ⟨_, rfl, ⟨q, hq, X2.out⟩, fun h => absurd rfl h, HK2.out⟩

theorem dnum_any (b : Nat) (a : Option Addr) (cap : Nat) (l : List UInt8) (st : St) (lo hi : Int) (w : World) (hl : l.length ≤ 9223372036854775806) (h1 : -1000000000000000 ≤ lo) (h1' : lo ≤ 0) (h2 : 0 ≤ hi) (h2' : hi ≤ 1000000000000000) (h : DRd w b a cap l st) :
    Calls Tryd.prog 12 #[.pointer (some ⟨b, 0, none⟩), .int .i64 lo, .int .i64 hi] w fun e w' =>
      ∃ x, e = .returned (.int .i64 x) ∧ DRd w' b a cap l (rdNS lo hi st).2 ∧ ((rdNS lo hi st).2 ≠ none → x = (rdNS lo hi st).1) ∧ KeepBut b w w' := by
  have hlt := h.lt
  obtain ⟨hby, hbox⟩ := h
  cases st with
  | none =>
    obtain ⟨p, hp, x⟩ := hbox
    refine (dnum_none b _ lo hi w p x).mono ?_
    rintro e w' ⟨rfl, q1, q2⟩
    exact ⟨0, rfl, ⟨hby.keep q2 (Nat.le_of_lt hlt), p, hp, q1⟩, fun h => absurd rfl h, q2⟩
  | some r =>
    obtain ⟨p, hp, rfl, x⟩ := hbox
    refine (dnum_some b a cap l lo hi w p hp hl h1 h1' h2 h2' hby x).mono ?_
    rintro e w' ⟨x, rfl, q⟩
    exact ⟨x, rfl, ⟨hby.keep q.keep (Nat.le_of_lt hlt), q.st⟩, q.val, q.keep⟩
end Go.Proofs.YtheabcdncildiaaDoor
