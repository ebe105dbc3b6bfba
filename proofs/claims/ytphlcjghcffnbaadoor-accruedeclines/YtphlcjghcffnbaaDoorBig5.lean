/-
  The contracts of quarterdaybig's add, with the shorter list ahead, and sub.
-/
import Derived.Test.YtphlcjghcffnbaaDoorBig4
namespace Go.Proofs.YtphlcjghcffnbaaDoor
set_option linter.unusedVariables false
open Go.RowKit Big

set_option maxHeartbeats 2000000 in
theorem add_lt (va vb : Value) (a b : List Nat) (w : World) (ha : Wd w va a) (hb : Wd w vb b) (hge : b.length < a.length) (hlen : a.length < 35184372088832) :
    Calls Tryd.prog 42 #[vb, va] w fun e w' => ∃ v l, e = .returned v ∧ Wd w' v l ∧ Nrm l ∧ val l = val a + val b ∧ w.grownBy w' none := by
  obtain ⟨aa, ca, rfl, la, Oa, Fa⟩ := ha.form
  obtain ⟨ab, cb, rfl, lb, Ob, Fb⟩ := hb.form
  clear ha hb la lb
  have hmk := fun w => run_make_row' (P := Tryd.prog) 38 61 (.int .u32 0) 4 Tryd.underlying38 Tryd.infoW rfl .i64 .i64 (a.length + 1) (by omega) (by omega) w
  rw [show ((a.length + 1 : Nat) : Int) = (a.length : Int) + 1 by omega] at hmk
  have hnl : (b.length : Int) < a.length := by omega
  go_enter Tryd.func42, Tryd.ntmps42
  go_wp2
  clear hmk
  go_loopw [6, 7] (fun tc ti wr => ∃ k c : Nat, ∃ r : List Nat, k ≤ a.length ∧ (c : Int) < 4294967296 ∧ tc = .int .u64 c ∧ ti = .int .i64 k ∧ r.length = a.length + 1 ∧ Hid (RowAt wr w.heap.size r) ∧ Hid (Ok r) ∧ Hid (w.grownBy wr none) ∧ Hid (val (r.take k) + 4294967296 ^ k * c = val (a.take k) + val (b.take k))) (fun _ ti _ => a.length - (intOf ti).toNat)
  case atStart =>
    refine ⟨0, 0, List.replicate (a.length + 1) 0, by omega, by omega, rfl, rfl, by simp, ?_, ok_replicate _, World.grownBy_alloc _ _ _, ?_⟩
    · show (w.alloc _).heap[w.heap.size]? = _
      rw [alloc_blk, made_row]
    · simp [Hid, val]
  case round =>
    obtain ⟨k, c, r, hk, hc, rfl, rfl, hr, Hrow, Hok, Hg, Hv⟩ := hrel
    by_cases hlt : k < a.length
    · obtain ⟨ba, oa, rfl, hba, hca⟩ := Fa.out (by omega)
      have hxa := (Hg.out.cell (hca k hlt) (by simp))
      have hxb := Oa.out k hlt
      have S := add_step a b r k c (by omega) Hv.out
      have rc := row_cell Hrow.out (i := k) (by omega)
      have rf := row_frozen Hrow.out k
      by_cases hlb : k < b.length
      · obtain ⟨bb, ob, rfl, hbb, hcb⟩ := Fb.out (by omega)
        have hya := (Hg.out.cell (hcb k hlb) (by simp))
        have hyb := Ob.out k hlb
        generalize a.getD k 0 = x at *
        generalize b.getD k 0 = y at *
        generalize r.getD k 0 = z at *
        have e1 : IntKind.u32.wrap ((c : Int) + x + y) = ((c + x + y) % 4294967296 : Nat) := by rw [IntKind.wrap_u32]; omega
        have e2 : ((c : Int) + x + y) / 4294967296 = ((c + x + y) / 4294967296 : Nat) := by omega
        have b3 : (c + x + y) / 4294967296 < 4294967296 := by omega
        have b4 : (c + x + y) % 4294967296 < 4294967296 := Nat.mod_lt _ (by omega)
        generalize (c + x + y) % 4294967296 = d at *
        generalize (c + x + y) / 4294967296 = q at *
        have HS : Hid (val ((r.set k d).take (k + 1)) + 4294967296 ^ (k + 1) * q = val (a.take (k + 1)) + val (b.take (k + 1))) := S
        have b1 : (x : Int) < 4294967296 := by omega
        have b2 : (y : Int) < 4294967296 := by omega
        clear S hca hcb Hv hxb hyb
        go_wp2
        go_roundw
        case rel => exact ⟨k + 1, q, r.set k d, by omega, by omega, rfl, by go_num, by simpa using hr, row_set Hrow.out k d, ok_set Hok.out k d b4, gset Hg.out (Nat.le_refl _) _, HS⟩
        case measure => simp [intOf]; omega
      · have hy0 : b.getD k 0 = 0 := by simp [List.getD, List.getElem?_eq_none (Nat.le_of_not_lt hlb)]
        rw [hy0, Nat.add_zero] at S
        generalize a.getD k 0 = x at *
        generalize r.getD k 0 = z at *
        have e1 : IntKind.u32.wrap ((c : Int) + x) = ((c + x) % 4294967296 : Nat) := by rw [IntKind.wrap_u32]; omega
        have e2 : ((c : Int) + x) / 4294967296 = ((c + x) / 4294967296 : Nat) := by omega
        have b3 : (c + x) / 4294967296 < 4294967296 := by omega
        have b4 : (c + x) % 4294967296 < 4294967296 := Nat.mod_lt _ (by omega)
        generalize (c + x) % 4294967296 = d at *
        generalize (c + x) / 4294967296 = q at *
        have HS : Hid (val ((r.set k d).take (k + 1)) + 4294967296 ^ (k + 1) * q = val (a.take (k + 1)) + val (b.take (k + 1))) := S
        have b1 : (x : Int) < 4294967296 := by omega
        clear S hca Hv hxb hy0
        go_wp2
        go_roundw
        case rel => exact ⟨k + 1, q, r.set k d, by omega, by omega, rfl, by go_num, by simpa using hr, row_set Hrow.out k d, ok_set Hok.out k d b4, gset Hg.out (Nat.le_refl _) _, HS⟩
        case measure => simp [intOf]; omega
    · have hka : k = a.length := by omega
      subst hka
      have rc := row_cell Hrow.out (i := a.length) (by omega)
      have rf := row_frozen Hrow.out a.length
      generalize r.getD a.length 0 = z at *
      have Hnew : Hid (∀ wx, wx = wr.setCell ⟨w.heap.size, a.length, none⟩ (.int .u32 (c : Int)) → Wd wx (.slice (some ⟨w.heap.size, 0, none⟩) (a.length + 1) (a.length + 1)) (r.set a.length c)) := by
        rintro wx rfl
        have := row_wd (row_set Hrow.out a.length c) (ok_set Hok.out _ _ (by omega)) (by simp [hr]; omega) (a.length + 1) (by simp [hr])
        rw [List.length_set, hr] at this
        exact this
      have Hval : Hid (val (r.set a.length c) = val a + val b) := by
        have h1 := val_set r a.length c (by omega)
        have h2 := Hv.out
        rw [List.take_of_length_le (by simp; omega)] at h1
        rw [List.take_length, List.take_of_length_le (l := b) (by omega)] at h2
        exact h1.trans h2
      have Hg2 : Hid (w.grownBy (wr.setCell ⟨w.heap.size, a.length, none⟩ (.int .u32 (c : Int))) none) := gset Hg.out (Nat.le_refl _) _
      clear Hv Hrow Hok Hg
      go_wp2_with fail
      refine (trim_any _ (r.set a.length c) _ (Hnew.out _ rfl)).mono ?_
      rintro e w' ⟨⟨v', rfl, hv⟩, hw⟩
      rw [hw]; clear hw w' Hnew
      have R : Hid (Wd (wr.setCell ⟨w.heap.size, a.length, none⟩ (.int .u32 (c : Int))) v' ((r.set a.length c).take (tl (r.set a.length c) (r.set a.length c).length)) ∧ Nrm ((r.set a.length c).take (tl (r.set a.length c) (r.set a.length c).length)) ∧ val ((r.set a.length c).take (tl (r.set a.length c) (r.set a.length c).length)) = val a + val b) := by
        refine ⟨hv, nrm_tl _ _ (Nat.le_refl _), ?_⟩
        rw [val_tl _ _ (Nat.le_refl _), List.take_length]
        exact Hval.out
      clear hv
      go_wp2
      go_ret
      exact ⟨_, _, rfl, R.out.1, R.out.2.1, R.out.2.2, Hg2.out⟩

theorem add_any (va vb : Value) (a b : List Nat) (w : World) (ha : Wd w va a) (hb : Wd w vb b) (h1 : a.length < 35184372088832) (h2 : b.length < 35184372088832) :
    Calls Tryd.prog 42 #[va, vb] w fun e w' => ∃ v l, e = .returned v ∧ Wd w' v l ∧ Nrm l ∧ val l = val a + val b ∧ w.grownBy w' none := by
  rcases Nat.lt_or_ge a.length b.length with h | h
  · refine (add_lt vb va b a w hb ha h h2).mono ?_
    rintro e w' ⟨v, l, he, hw, hn, hv, hg⟩
    exact ⟨v, l, he, hw, hn, by rw [hv, Nat.add_comm], hg⟩
  · exact add_ge va vb a b w ha hb h h1

set_option maxHeartbeats 2000000 in
theorem sub_any (va vb : Value) (a b : List Nat) (w : World) (ha : Wd w va a) (hb : Wd w vb b) (hle : val b ≤ val a) (hge : b.length ≤ a.length) (hlen : a.length < 35184372088832) :
    Calls Tryd.prog 30 #[va, vb] w fun e w' => ∃ v l, e = .returned v ∧ Wd w' v l ∧ Nrm l ∧ val l = val a - val b ∧ w.grownBy w' none := by
  obtain ⟨aa, ca, rfl, la, Oa, Fa⟩ := ha.form
  obtain ⟨ab, cb, rfl, lb, Ob, Fb⟩ := hb.form
  clear ha hb la lb
  have hmk := fun w => run_make_row' (P := Tryd.prog) 38 61 (.int .u32 0) 4 Tryd.underlying38 Tryd.infoW rfl .i64 .i64 a.length (by omega) (by omega) w
  go_enter Tryd.func30, Tryd.ntmps30
  go_wp2
  clear hmk
  go_loopw [6, 7] (fun tc ti wr => ∃ k c : Nat, ∃ r : List Nat, k ≤ a.length ∧ (c : Int) ≤ 1 ∧ tc = .int .u64 c ∧ ti = .int .i64 k ∧ r.length = a.length ∧ Hid (RowAt wr w.heap.size r) ∧ Hid (Ok r) ∧ Hid (w.grownBy wr none) ∧ Hid (val (r.take k) + val (b.take k) = val (a.take k) + 4294967296 ^ k * c)) (fun _ ti _ => a.length - (intOf ti).toNat)
  case atStart =>
    refine ⟨0, 0, List.replicate a.length 0, by omega, by omega, rfl, rfl, by simp, ?_, ok_replicate _, World.grownBy_alloc _ _ _, ?_⟩
    · show (w.alloc _).heap[w.heap.size]? = _
      rw [alloc_blk, made_row]
    · simp [Hid, val]
  case round =>
    obtain ⟨k, c, r, hk, hc, rfl, rfl, hr, Hrow, Hok, Hg, Hv⟩ := hrel
    by_cases hlt : k < a.length
    · obtain ⟨ba, oa, rfl, hba, hca⟩ := Fa.out (by omega)
      have hxa := (Hg.out.cell (hca k hlt) (by simp))
      have hxb := Oa.out k hlt
      have rc := row_cell Hrow.out (i := k) (by omega)
      have rf := row_frozen Hrow.out k
      by_cases hlb : k < b.length
      · obtain ⟨bb, ob, rfl, hbb, hcb⟩ := Fb.out (by omega)
        have hya := (Hg.out.cell (hcb k hlb) (by simp))
        have hyb := Ob.out k hlb
        have S := fun t c' => sub_step a b r k c t c' (by omega) Hv.out
        generalize a.getD k 0 = x at *
        generalize b.getD k 0 = y at *
        generalize r.getD k 0 = z at *
        obtain ⟨t, c', h1, h2, h3, h4, h5⟩ : ∃ t c' : Nat, c' * 4294967296 + x = t + c + y ∧ t < 4294967296 ∧ c' ≤ 1 ∧ IntKind.u32.wrap (IntKind.u64.wrap (IntKind.u64.wrap ((x : Int) - c) - y)) = t ∧ IntKind.u64.wrap (IntKind.u64.wrap ((x : Int) - c) - y) / 9223372036854775808 = c' := by
          by_cases hc' : x < c + y
          · exact ⟨x + 4294967296 - c - y, 1, by omega, by omega, by omega, by rw [IntKind.wrap_u32, IntKind.wrap_u64, IntKind.wrap_u64]; omega, by rw [IntKind.wrap_u64, IntKind.wrap_u64]; omega⟩
          · exact ⟨x - c - y, 0, by omega, by omega, by omega, by rw [IntKind.wrap_u32, IntKind.wrap_u64, IntKind.wrap_u64]; omega, by rw [IntKind.wrap_u64, IntKind.wrap_u64]; omega⟩
        have HS : Hid (val ((r.set k t).take (k + 1)) + val (b.take (k + 1)) = val (a.take (k + 1)) + 4294967296 ^ (k + 1) * c') := S t c' h1
        have H2 : Hid (t < 4294967296) := h2
        have b1 : (x : Int) < 4294967296 := by omega
        have b2 : (y : Int) < 4294967296 := by omega
        clear S hca hcb Hv hxb hyb h1 h2
        go_wp2
        go_roundw
        case rel => exact ⟨k + 1, c', r.set k t, by omega, by omega, rfl, by go_num, by simpa using hr, row_set Hrow.out k t, ok_set Hok.out k t H2.out, gset Hg.out (Nat.le_refl _) _, HS⟩
        case measure => simp [intOf]; omega
      · have hy0 : b.getD k 0 = 0 := by simp [List.getD, List.getElem?_eq_none (Nat.le_of_not_lt hlb)]
        have S := fun t c' => sub_step a b r k c t c' (by omega) Hv.out
        rw [hy0] at S
        generalize a.getD k 0 = x at *
        generalize r.getD k 0 = z at *
        obtain ⟨t, c', h1, h2, h3, h4, h5⟩ : ∃ t c' : Nat, c' * 4294967296 + x = t + c + 0 ∧ t < 4294967296 ∧ c' ≤ 1 ∧ IntKind.u32.wrap (IntKind.u64.wrap ((x : Int) - c)) = t ∧ IntKind.u64.wrap ((x : Int) - c) / 9223372036854775808 = c' := by
          by_cases hc' : x < c
          · exact ⟨x + 4294967296 - c, 1, by omega, by omega, by omega, by rw [IntKind.wrap_u32, IntKind.wrap_u64]; omega, by rw [IntKind.wrap_u64]; omega⟩
          · exact ⟨x - c, 0, by omega, by omega, by omega, by rw [IntKind.wrap_u32, IntKind.wrap_u64]; omega, by rw [IntKind.wrap_u64]; omega⟩
        have HS : Hid (val ((r.set k t).take (k + 1)) + val (b.take (k + 1)) = val (a.take (k + 1)) + 4294967296 ^ (k + 1) * c') := S t c' h1
        have H2 : Hid (t < 4294967296) := h2
        have b1 : (x : Int) < 4294967296 := by omega
        clear S hca Hv hxb hy0 h1 h2
        go_wp2
        go_roundw
        case rel => exact ⟨k + 1, c', r.set k t, by omega, by omega, rfl, by go_num, by simpa using hr, row_set Hrow.out k t, ok_set Hok.out k t H2.out, gset Hg.out (Nat.le_refl _) _, HS⟩
        case measure => simp [intOf]; omega
    · have hka : k = a.length := by omega
      subst hka
      have Hnew : Hid (Wd wr (.slice (some ⟨w.heap.size, 0, none⟩) a.length a.length) r) := by
        have := row_wd Hrow.out Hok.out (by omega) a.length (by omega)
        rw [hr] at this
        exact this
      have Hval : Hid (val r = val a - val b) := by
        have h2 := Hv.out
        rw [List.take_length, List.take_of_length_le (l := b) (by omega), List.take_of_length_le (l := r) (by omega)] at h2
        have h3 := val_lt Hok.out
        rw [hr] at h3
        have hc0 : c = 0 ∨ c = 1 := by omega
        rcases hc0 with rfl | rfl
        · show _ = _; omega
        · show _ = _; omega
      clear Hv Hrow Hok
      go_wp2_with fail
      refine (trim_any _ r _ Hnew.out).mono ?_
      rintro e w' ⟨⟨v', rfl, hv⟩, hw⟩
      rw [hw]; clear hw w' Hnew
      have R : Hid (Wd wr v' (r.take (tl r r.length)) ∧ Nrm (r.take (tl r r.length)) ∧ val (r.take (tl r r.length)) = val a - val b) := by
        refine ⟨hv, nrm_tl _ _ (Nat.le_refl _), ?_⟩
        rw [val_tl _ _ (Nat.le_refl _), List.take_length]
        exact Hval.out
      clear hv
      go_wp2
      go_ret
      exact ⟨_, _, rfl, R.out.1, R.out.2.1, R.out.2.2, Hg.out⟩
end Go.Proofs.YtphlcjghcffnbaaDoor
