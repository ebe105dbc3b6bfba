/-
  The contract of dayref1's Rates.
-/
import Derived.Test.YtoggclbhjoodoaaDoorRefR2
namespace Go.Proofs.YtoggclbhjoodoaaDoor
set_option linter.unusedVariables false
set_option linter.unusedSimpArgs false
set_option maxRecDepth 100000
open Go.RowKit Go.Lib Go.Maps

theorem refRates_full (a : Option Addr) (len cap : Nat) (rs : List Rt) (w : World) (hl : rs.length = len) (h : 100 < len) :
    Calls Tryd.prog 4 #[.slice a len cap] w fun e w' => e = .returned (.int .i64 (ratesS rs)) ∧ Below w.heap.size w w' := by
  have h' : (100 : Int) < len := by omega
  have e : ratesS rs = 4 := by unfold ratesS; rw [if_pos (by omega)]
  rw [e]
  go_enter Tryd.func4, Tryd.ntmps4
  go_wp2
  go_ret
  exact ⟨rfl, Below.refl _ _⟩

theorem refRates_none (a : Option Addr) (cap : Nat) (w : World) :
    Calls Tryd.prog 4 #[.slice a 0 cap] w fun e w' => e = .returned (.int .i64 (ratesS [])) ∧ Below w.heap.size w w' := by
  have e : ratesS [] = 0 := rfl
  rw [e]
  go_enter Tryd.func4, Tryd.ntmps4
  go_wp2
  refine wp_loop_rounds 1 ?_
  rw [rounds_succ]
  go_wp2
  go_ret
  exact ⟨rfl, Below.refl _ _⟩

theorem take_next (l : List Rt) (k : Nat) (h : k < l.length) : l.take (k + 1) = l.take k ++ [l.getD k rt0] := by
  rw [List.take_succ_eq_append_getElem h]
  simp [h]

theorem below_dr {B : Nat} {a w : World} (h : Below B a w) (n : Nat) : Below B a (w.drewN n) := ⟨h.os, h.tape, h.output, h.size, h.block⟩

/-- None of the first ones is of the same two. -/
def NoHit (rs : List Rt) (m : Nat) (f t : ByteArray) (p : Int) : Prop := ∀ j, j < m → hit (rs.getD j rt0) f t p = false

theorem noHit_next {rs : List Rt} {m : Nat} {f t : ByteArray} {p : Int} (h : NoHit rs m f t p) (h1 : hit (rs.getD m rt0) f t p = false) : NoHit rs (m + 1) f t p := fun j hj => by
  rcases (by omega : j < m ∨ j = m) with h' | rfl
  · exact h j h'
  · exact h1

theorem noHit_any {rs : List Rt} {m : Nat} {f t : ByteArray} {p : Int} (hm : m ≤ rs.length) (h : NoHit rs m f t p) : (rs.take m).any (fun x => hit x f t p) = false := by
  rw [List.any_eq_false]
  intro x hx
  obtain ⟨j, hj, rfl⟩ := List.getElem_of_mem hx
  have hj2 : j < m := by simp at hj; omega
  have := h j hj2
  have e : rs.getD j rt0 = (rs.take m)[j] := by
    rw [List.getElem_take, List.getD_eq_getElem?_getD, List.getElem?_eq_getElem (by omega)]; rfl
  rw [e] at this
  rw [this]; simp

theorem hit_any {rs : List Rt} {m k : Nat} {f t : ByteArray} {p : Int} (hm : m < k) (hk : k ≤ rs.length) (h : hit (rs.getD m rt0) f t p = true) : (rs.take k).any (fun x => hit x f t p) = true := by
  rw [List.any_eq_true]
  refine ⟨rs.getD m rt0, ?_, h⟩
  rw [List.mem_iff_getElem]
  refine ⟨m, by simp; omega, ?_⟩
  rw [List.getElem_take, List.getD_eq_getElem?_getD, List.getElem?_eq_getElem (by omega)]; rfl

set_option maxRecDepth 100000 in
set_option maxHeartbeats 8000000 in
theorem refRates_some (b off cap : Nat) (rs : List Rt) (w : World) (hb : b < w.heap.size) (hlen : rs.length ≤ 100) (hc : RtsAt w b off rs) :
    Calls Tryd.prog 4 #[.slice (some ⟨b, off, none⟩) rs.length cap] w fun e w' => e = .returned (.int .i64 (ratesS rs)) ∧ Below w.heap.size w w' := by
  have Hlen : (rs.length : Int) ≤ 100 := by omega
  have Hc : Hid (RtsAt w b off rs) := hc
  clear hc
  obtain ⟨res, hres⟩ : ∃ res, ratesS rs = res := ⟨_, rfl⟩
  have Hres : Hid (ratesGo [] rs = res) := by unfold Hid; rw [← hres]; unfold ratesS; rw [if_neg (by omega)]
  rw [hres]
  clear hres
  go_enter Tryd.func4, Tryd.ntmps4
  go_wp2
  go_loopw [3] (fun i wr => ∃ k : Nat, k ≤ rs.length ∧ i = .int .i64 k ∧ Hid (Below w.heap.size w wr ∧ ratesGo (rs.take k) (rs.drop k) = res)) (fun i _ => rs.length - (intOf i).toNat)
  case atStart => exact ⟨0, Nat.zero_le _, rfl, Below.refl _ _, Hres.out⟩
  case round =>
    obtain ⟨k, hk, rfl, H⟩ := hrel
    by_cases hlt : k < rs.length
    · have hn := (Hc.out k hlt).below H.out.1 hb
      have HB : Hid (Below w.heap.size w wr) := H.out.1
      have E : Hid ((if rateBad (rs.getD k rt0) ≠ 0 then rateBad (rs.getD k rt0) else if (rs.take k).any (fun x => hit x (rs.getD k rt0).frm (rs.getD k rt0).dst (rs.getD k rt0).per) = true then 8 else ratesGo (rs.take (k + 1)) (rs.drop (k + 1))) = res) := by
        have := H.out.2
        rw [drop_get rs k hlt] at this
        rw [take_next rs k hlt]
        exact this
      clear H
      obtain ⟨r, hr⟩ : ∃ r, rs.getD k rt0 = r := ⟨_, rfl⟩
      rw [hr] at hn E
      clear hr
      obtain ⟨f, t, p, n, d⟩ := r
      obtain ⟨c0, c1, c2, c3, c4⟩ := hn
      simp only at c0 c1 c2 c3 c4
      have i0 : (0 : Int) ≤ k := by omega
      have i1 : (k : Int) < rs.length := by omega
      have R0 := RtAt.new wr ⟨f, t, p, n, d⟩ 39
      have BA : Hid (Below w.heap.size w (wr.alloc (.cells (Rt.cells ⟨f, t, p, n, d⟩) 39))) := HB.out.alloc HB.out.size _
      go_wp2_with fail
      refine (refCur_any f _).mono ?_
      rintro e w' ⟨rfl, hw⟩
      rw [hw]; clear hw w'
      obtain ⟨d0, d1, d2, d3, d4⟩ := R0
      simp only [Nat.zero_add, Rt.cells] at d0 d1 d2 d3 d4
      go_wp2_with fail
      refine (refCur_any t _).mono ?_
      rintro e w' ⟨rfl, hw⟩
      rw [hw]; clear hw w'
      have B2 : Hid (rateBad ⟨f, t, p, n, d⟩ = if isCur f = false ∨ isCur t = false then 2 else if f = t then 3 else if upTo p 120 = false ∨ upTo n 1000000000 = false ∨ upTo d 1000000000 = false then 1 else 0) := rfl
      cases q1 : isCur f
      · have er : res = 2 := by rw [← E.out, B2.out]; simp [q1]
        subst er
        go_wp2
        go_ret
        exact ⟨rfl, BA.out⟩
      cases q2 : isCur t
      · have er : res = 2 := by rw [← E.out, B2.out]; simp [q2]
        subst er
        go_wp2
        go_ret
        exact ⟨rfl, BA.out⟩
      by_cases q3 : f = t
      · have er : res = 3 := by rw [← E.out, B2.out]; simp [q1, q2, q3]
        subst er
        subst q3
        go_wp2
        go_ret
        exact ⟨rfl, BA.out⟩
      have q3' := texts_ne q3
      have one : ¬ (1 ≤ p ∧ p ≤ 120 ∧ 1 ≤ n ∧ n ≤ 1000000000 ∧ 1 ≤ d ∧ d ≤ 1000000000) → res = 1 := fun hn => by
        have hb : upTo p 120 = false ∨ upTo n 1000000000 = false ∨ upTo d 1000000000 = false := by
          simp only [upTo, Bool.and_eq_false_iff, decide_eq_false_iff_not]
          omega
        rw [← E.out, B2.out]
        simp [q1, q2, q3, hb]
      by_cases r1 : p < 1
      · have er := one (by omega)
        subst er
        clear one
        go_wp2
        go_ret
        exact ⟨rfl, BA.out⟩
      by_cases r2 : 120 < p
      · have er := one (by omega)
        subst er
        clear one
        go_wp2
        go_ret
        exact ⟨rfl, BA.out⟩
      by_cases r3 : n < 1
      · have er := one (by omega)
        subst er
        clear one
        go_wp2
        go_ret
        exact ⟨rfl, BA.out⟩
      by_cases r4 : 1000000000 < n
      · have er := one (by omega)
        subst er
        clear one
        go_wp2
        go_ret
        exact ⟨rfl, BA.out⟩
      by_cases r5 : d < 1
      · have er := one (by omega)
        subst er
        clear one
        go_wp2
        go_ret
        exact ⟨rfl, BA.out⟩
      by_cases r6 : 1000000000 < d
      · have er := one (by omega)
        subst er
        clear one
        go_wp2
        go_ret
        exact ⟨rfl, BA.out⟩
      clear one
      have E2 : Hid ((if (rs.take k).any (fun x => hit x f t p) = true then 8 else ratesGo (rs.take (k + 1)) (rs.drop (k + 1))) = res) := by
        have hb : rateBad ⟨f, t, p, n, d⟩ = 0 := by
          have u1 : upTo p 120 = true := by simp [upTo]; omega
          have u2 : upTo n 1000000000 = true := by simp [upTo]; omega
          have u3 : upTo d 1000000000 = true := by simp [upTo]; omega
          rw [B2.out]; simp [q1, q2, q3, u1, u2, u3]
        have := E.out
        rw [if_neg (by rw [hb]; simp)] at this
        exact this
      clear E B2 q1 q2
      have BA2 : Hid (Below w.heap.size w (wr.alloc (.cells #[.string f, .string t, .int .i64 p, .int .i64 n, .int .i64 d] 39)) ∧ RtAt (wr.alloc (.cells #[.string f, .string t, .int .i64 p, .int .i64 n, .int .i64 d] 39)) wr.heap.size 0 ⟨f, t, p, n, d⟩ ∧ wr.heap.size < (wr.alloc (.cells #[.string f, .string t, .int .i64 p, .int .i64 n, .int .i64 d] 39)).heap.size ∧ w.heap.size ≤ (wr.alloc (.cells #[.string f, .string t, .int .i64 p, .int .i64 n, .int .i64 d] 39)).heap.size) :=
        ⟨BA.out, RtAt.new wr ⟨f, t, p, n, d⟩ 39, by simp, by have := HB.out.size; simp; omega⟩
      clear BA HB c0 c1 c2 c3 c4 d0 d1 d2 d3 d4
      go_wp2
      generalize wr.alloc (.cells #[.string f, .string t, .int .i64 p, .int .i64 n, .int .i64 d] 39) = W2 at BA2 ⊢
      generalize wr.heap.size = c at BA2 ⊢
      go_loopw [7] (fun j wi => ∃ m : Nat, m ≤ k ∧ j = .int .i64 m ∧ Hid (Below W2.heap.size W2 wi ∧ NoHit rs m f t p)) (fun j _ => k - (intOf j).toNat)
      case atStart => exact ⟨0, Nat.zero_le _, rfl, Below.refl _ _, fun j hj => absurd hj (Nat.not_lt_zero _)⟩
      case round =>
        obtain ⟨m, hm, rfl, HI⟩ := hrel
        by_cases hmk : m < k
        · have hx := ((Hc.out m (by omega)).below BA2.out.1 hb).below HI.out.1 (Nat.lt_of_lt_of_le hb BA2.out.2.2.2)
          have hR := BA2.out.2.1.below HI.out.1 BA2.out.2.2.1
          have HE : Hid (hit (rs.getD m rt0) f t p = true → res = 8) := fun h => by rw [← E2.out, if_pos (hit_any hmk (by omega) h)]
          have HNx : Hid (hit (rs.getD m rt0) f t p = false → Hid (hit (rs.getD m rt0) f t p = false)) := fun h => h
          obtain ⟨x, hxE⟩ : ∃ x, rs.getD m rt0 = x := ⟨_, rfl⟩
          have HxE : Hid (rs.getD m rt0 = x) := hxE
          rw [hxE] at hx HE
          clear hxE HNx
          obtain ⟨xf, xt, xp, xn, xd⟩ := x
          obtain ⟨c0, c1, c2, c3, c4⟩ := hx
          obtain ⟨d0, d1, d2, d3, d4⟩ := hR
          simp only [Nat.zero_add] at c0 c1 c2 c3 c4 d0 d1 d2 d3 d4
          have j0 : (0 : Int) ≤ m := by omega
          have j1 : (m : Int) < rs.length := by omega
          have j2 : (m : Int) < k := by omega
          by_cases s1 : xp = p
          · subst s1
            by_cases s2 : xf = f
            · subst s2
              by_cases s3 : xt = t
              · subst s3
                have er := HE.out (by simp [hit, hit1])
                subst er
                clear HE
                go_wp2
                go_quiet (fail)
                go_wp2
                go_ret
                exact ⟨rfl, (BA2.out.1.trans ((below_dr HI.out.1 nq).mono BA2.out.2.2.2))⟩
              · have s3' := texts_ne s3
                have HN : Hid (hit (rs.getD m rt0) xf t xp = false) := by unfold Hid; rw [HxE.out]; simp [hit, hit1, s3, q3]
                clear HE
                go_wp2
                go_quiet (fail)
                go_wp2
                go_roundw
                case rel => exact ⟨m + 1, by omega, by go_num, below_dr HI.out.1 nq, noHit_next HI.out.2 HN.out⟩
                case measure => simp [intOf]; omega
            · have s2' := texts_ne s2
              by_cases s4 : xf = t
              · subst s4
                by_cases s5 : xt = f
                · subst s5
                  have er := HE.out (by simp [hit, hit1])
                  subst er
                  clear HE
                  go_wp2
                  go_quiet (fail)
                  go_wp2
                  go_ret
                  exact ⟨rfl, (BA2.out.1.trans ((below_dr HI.out.1 nq).mono BA2.out.2.2.2))⟩
                · have s5' := texts_ne s5
                  have HN : Hid (hit (rs.getD m rt0) f xf xp = false) := by unfold Hid; rw [HxE.out]; simp [hit, hit1, s2, s5]
                  clear HE
                  go_wp2
                  go_quiet (fail)
                  go_wp2
                  go_roundw
                  case rel => exact ⟨m + 1, by omega, by go_num, below_dr HI.out.1 nq, noHit_next HI.out.2 HN.out⟩
                  case measure => simp [intOf]; omega
              · have s4' := texts_ne s4
                have HN : Hid (hit (rs.getD m rt0) f t xp = false) := by unfold Hid; rw [HxE.out]; simp [hit, hit1, s2, s4]
                clear HE
                go_wp2
                go_quiet (fail)
                go_wp2
                go_roundw
                case rel => exact ⟨m + 1, by omega, by go_num, below_dr HI.out.1 nq, noHit_next HI.out.2 HN.out⟩
                case measure => simp [intOf]; omega
          · have s1' : (xp == p) = false := by simp [s1]
            have HN : Hid (hit (rs.getD m rt0) f t p = false) := by unfold Hid; rw [HxE.out]; simp [hit, hit1, s1]
            clear HE
            go_wp2
            go_quiet (fail)
            go_wp2
            go_roundw
            case rel => exact ⟨m + 1, by omega, by go_num, below_dr HI.out.1 nq, noHit_next HI.out.2 HN.out⟩
            case measure => simp [intOf]; omega
        · have hmk2 : m = k := by omega
          subst hmk2
          have HNx : Hid (ratesGo (rs.take (m + 1)) (rs.drop (m + 1)) = res) := by
            have := E2.out
            rw [if_neg (by rw [noHit_any (by omega) HI.out.2]; simp)] at this
            exact this
          have HBx : Hid (Below w.heap.size w wr) := BA2.out.1.trans (HI.out.1.mono BA2.out.2.2.2)
          clear E2 HI BA2
          go_wp2
          go_roundw
          case rel => exact ⟨m + 1, by omega, by go_num, HBx.out, HNx.out⟩
          case measure => simp [intOf]; omega
    · have hk2 : k = rs.length := by omega
      subst hk2
      have er : res = 0 := by rw [← H.out.2, List.drop_length]; rfl
      subst er
      go_wp2
      go_ret
      exact ⟨rfl, H.out.1⟩
end Go.Proofs.YtoggclbhjoodoaaDoor
