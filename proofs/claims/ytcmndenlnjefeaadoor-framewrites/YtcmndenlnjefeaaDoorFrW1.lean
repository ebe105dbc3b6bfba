/-
  The contracts of dayref2.Num and dayref2.Text.
-/
import Derived.Test.YtcmndenlnjefeaaDoorFr2
namespace Go.Proofs.YtcmndenlnjefeaaDoor
set_option linter.unusedVariables false
set_option linter.unusedSimpArgs false
set_option maxRecDepth 100000
open Go.RowKit Go.Lib

/-- All that was there stays, but for a row. -/
structure Kept (w : World) (v : Value) (w' : World) : Prop where
  os : w'.os = w.os
  tape : w'.tape = w.tape
  output : w'.output = w.output
  size : w.heap.size ≤ w'.heap.size
  block : ∀ b, b < w.heap.size → v.ownBlock ≠ some b → w'.heap[b]? = w.heap[b]?
theorem Kept.refl (w : World) (v : Value) : Kept w v w := ⟨rfl, rfl, rfl, Nat.le_refl _, fun _ _ _ => rfl⟩
theorem Kept.alloc {w w' : World} {v : Value} (h : Kept w v w') (o : Obj) : Kept w v (w'.alloc o) :=
  ⟨h.os, h.tape, h.output, by have := h.size; simp; omega, fun b hb hn => ((World.grownBy_alloc w' o none).block b (by have := h.size; omega) (by simp)).trans (h.block b hb hn)⟩
/-- What a row may have become. -/
def OwnOr (w : World) (v v' : Value) : Prop := v'.ownBlock = v.ownBlock ∨ ∃ j, v'.ownBlock = some j ∧ w.heap.size ≤ j
theorem Kept.grown {w w' w'' : World} {v v' : Value} (h : Kept w v w') (ho : OwnOr w v v') (hg : w'.grownBy w'' v'.ownBlock) : Kept w v w'' :=
  ⟨hg.os.trans h.os, hg.tape.trans h.tape, hg.output.trans h.output, by have := h.size; have := hg.size; omega, fun b hb hn => (hg.block b (by have := h.size; omega) (fun e => by
    rcases ho with ho | ⟨j, hj, hl⟩
    · exact hn (by rw [← ho, e])
    · rw [hj] at e; cases e; omega)).trans (h.block b hb hn)⟩
theorem Kept.below {w w' : World} {v : Value} {n : Nat} (h : Kept w v w') (ho : ∀ j, v.ownBlock = some j → n ≤ j) (hn : n ≤ w.heap.size) : Below n w w' :=
  ⟨h.os, h.tape, h.output, h.size, fun b hb => h.block b (by omega) (fun e => by have := ho b e; omega)⟩

set_option maxHeartbeats 2000000 in
theorem refNum_any (n0 : Nat) (v : Value) (bs : List UInt8) (n : Int) (w : World) (h1 : -9223372036854775808 ≤ n) (h2 : n ≤ 9223372036854775807) (hl : bs.length ≤ 1099511627776) (hn0 : n0 ≤ w.heap.size) (h : ByRow w n0 v bs) :
    Calls Tryd.prog 10 #[v, .int .i64 n] w fun e w' => ∃ v', e = .returned v' ∧ ByRow w' n0 v' (bs ++ numB n) ∧ Kept w v w' ∧ OwnOr w v v' := by
  have hz := zig_lt h1 h2
  have hlen := numB_length h1 h2
  have Hall : Hid ((bs ++ numB n).length ≤ 1099511627786) := by unfold Hid; rw [List.length_append]; omega
  obtain ⟨all, hall⟩ : ∃ all, bs ++ numB n = all := ⟨_, rfl⟩
  have Hstart : Hid (bs ++ encU (zig n) = all) := hall
  rw [hall] at Hall ⊢
  have Hw : Hid (ByRow w n0 v bs) := h
  clear hall hlen hl h
  obtain ⟨i0, hi, hz0, hz1, hz2⟩ := info_parts by_info
  by_cases hn : n < 0
  · have ez : ((zig n : Nat) : Int) = -2 * n - 1 := by unfold zig; rw [if_pos hn]; omega
    generalize zig n = u at *
    have hw0 : IntKind.i64.wrap (n + 1) = n + 1 := by
      simp only [IntKind.wrap, IntKind.bits, IntKind.signed]
      simp
      omega
    have hw00 : IntKind.i64.wrap (-(n + 1)) = -(n + 1) := by
      simp only [IntKind.wrap, IntKind.bits, IntKind.signed]
      simp
      omega
    have ez2 : -(n + 1) * 2 + 1 = (u : Int) := by omega
    clear ez
    go_enter Tryd.func10, Tryd.ntmps10
    go_wp2
    go_loopw [0, 5] (fun v' i wr => ∃ k : Nat, k < 18446744073709551616 ∧ i = .int .u64 k ∧ (∃ bs', Hid (bs' ++ encU k = all) ∧ Hid (ByRow wr n0 v' bs')) ∧ Kept w v wr ∧ OwnOr w v v') (fun _ i _ => (intOf i).toNat)
    case atStart => exact ⟨u, hz, rfl, ⟨bs, Hstart, Hw⟩, Kept.refl _ _, .inl rfl⟩
    case round =>
      obtain ⟨k, hk, rfl, ⟨bs', E, R⟩, BW, HO⟩ := hrel
      have hsz := BW.size
      have hk' : (k : Int) < 18446744073709551616 := by omega
      have hblen : bs'.length + 1 ≤ 1099511627786 := by
        have := Hall.out
        rw [← E.out, List.length_append] at this
        have := encU_pos k
        omega
      have Hm1 : Hid (bs'.length + 1 ≤ maxLen) := by unfold Hid maxLen; omega
      have Hm2 : Hid ((bs'.length + 1) * 1 ≤ 140737488355328) := by unfold Hid; omega
      have hoj := R.out.own
      clear hblen
      by_cases hlt : 128 ≤ k
      · have hlt' : (127 : Int) < k := by omega
        have hX : (k : Int) % 128 + 128 = ((UInt8.ofNat (k % 128 + 128)).toNat : Int) := by simp; omega
        have HX : Hid (_ = _) := hX
        clear hX
        go_wp2_with (at_builtin; refine wpList_append_own_at _ rfl _ _ 26 rfl n0 5 i0 (.int .u8 0) 1 1 Tryd.underlying26 hi hz0 hz1 hz2 rfl (by decide) _ _ _ rfl (World.ownsRow.alloc R.out _) ⟨wr.heap.size, 0, none⟩ 1 1 [.int .u8 ((k : Int) % 128 + 128)] rfl rfl (cell_one_new _ _ _) (by simp [Value.oneCell']) Hm1.out Hm2.out (by simp; omega) ?_)
        intro v' w3 hown hgrow _ hob
        have B3 : Kept w v w3 := (BW.alloc (.cells #[.int .u8 ((k : Int) % 128 + 128)] 5)).grown HO hgrow
        have O3 : OwnOr w v v' := by
          rcases hob with hob | hob
          · rcases HO with ho | ⟨j, hj, hl⟩
            · exact .inl (hob.trans ho)
            · exact .inr ⟨j, hob.trans hj, hl⟩
          · exact .inr ⟨_, hob, by first | omega | (simp; omega)⟩
        have R4 : ByRow w3 n0 v' (bs' ++ [UInt8.ofNat (k % 128 + 128)]) := by
          unfold ByRow
          rw [byC_append, List.length_append]
          have e1 : byC [UInt8.ofNat (k % 128 + 128)] = [.int .u8 ((k : Int) % 128 + 128)] := by rw [HX.out]; rfl
          rw [e1]
          exact hown
        have E4 : (bs' ++ [UInt8.ofNat (k % 128 + 128)]) ++ encU (k / 128) = all := by
          rw [← E.out, encU_ge hlt]; simp
        have HE4 : Hid (_ = all) := E4
        have HW4 : Hid (ByRow w3 n0 v' _) := R4
        clear hown hgrow E E4 R4 HX R hob HO hoj
        go_wp2
        go_roundw
        case rel => exact ⟨k / 128, by omega, by go_num, ⟨_, HE4, HW4⟩, B3, O3⟩
        case measure => simp [intOf]; omega
      · have hlt' : ¬ (127 : Int) < k := by omega
        have hX : (k : Int) = ((UInt8.ofNat k).toNat : Int) := by simp; omega
        have HX : Hid (_ = _) := hX
        clear hX
        go_wp2_with (at_builtin; refine wpList_append_own_at _ rfl _ _ 26 rfl n0 5 i0 (.int .u8 0) 1 1 Tryd.underlying26 hi hz0 hz1 hz2 rfl (by decide) _ _ _ rfl (World.ownsRow.alloc R.out _) ⟨wr.heap.size, 0, none⟩ 1 1 [.int .u8 (k : Int)] rfl rfl (cell_one_new _ _ _) (by simp [Value.oneCell']) Hm1.out Hm2.out (by simp; omega) ?_)
        intro v' w3 hown hgrow _ hob
        have B3 : Kept w v w3 := (BW.alloc (.cells #[.int .u8 (k : Int)] 5)).grown HO hgrow
        have O3 : OwnOr w v v' := by
          rcases hob with hob | hob
          · rcases HO with ho | ⟨j, hj, hl⟩
            · exact .inl (hob.trans ho)
            · exact .inr ⟨j, hob.trans hj, hl⟩
          · exact .inr ⟨_, hob, by first | omega | (simp; omega)⟩
        have R4 : ByRow w3 n0 v' all := by
          rw [← E.out, encU_lt (by omega)]
          unfold ByRow
          rw [byC_append, List.length_append]
          have e1 : byC [UInt8.ofNat k] = [.int .u8 (k : Int)] := by rw [HX.out]; rfl
          rw [e1]
          exact hown
        have HW4 : Hid (ByRow w3 n0 v' all) := R4
        clear hown hgrow E R4 HX R hob HO hoj
        go_wp2
        go_ret
        exact ⟨_, rfl, HW4.out, B3, O3⟩
  · have ez : ((zig n : Nat) : Int) = 2 * n := by unfold zig; rw [if_neg hn]; omega
    generalize zig n = u at *
    have ez2 : n * 2 = (u : Int) := by omega
    clear ez
    go_enter Tryd.func10, Tryd.ntmps10
    go_wp2
    go_loopw [0, 5] (fun v' i wr => ∃ k : Nat, k < 18446744073709551616 ∧ i = .int .u64 k ∧ (∃ bs', Hid (bs' ++ encU k = all) ∧ Hid (ByRow wr n0 v' bs')) ∧ Kept w v wr ∧ OwnOr w v v') (fun _ i _ => (intOf i).toNat)
    case atStart => exact ⟨u, hz, rfl, ⟨bs, Hstart, Hw⟩, Kept.refl _ _, .inl rfl⟩
    case round =>
      obtain ⟨k, hk, rfl, ⟨bs', E, R⟩, BW, HO⟩ := hrel
      have hsz := BW.size
      have hk' : (k : Int) < 18446744073709551616 := by omega
      have hblen : bs'.length + 1 ≤ 1099511627786 := by
        have := Hall.out
        rw [← E.out, List.length_append] at this
        have := encU_pos k
        omega
      have Hm1 : Hid (bs'.length + 1 ≤ maxLen) := by unfold Hid maxLen; omega
      have Hm2 : Hid ((bs'.length + 1) * 1 ≤ 140737488355328) := by unfold Hid; omega
      have hoj := R.out.own
      clear hblen
      by_cases hlt : 128 ≤ k
      · have hlt' : (127 : Int) < k := by omega
        have hX : (k : Int) % 128 + 128 = ((UInt8.ofNat (k % 128 + 128)).toNat : Int) := by simp; omega
        have HX : Hid (_ = _) := hX
        clear hX
        go_wp2_with (at_builtin; refine wpList_append_own_at _ rfl _ _ 26 rfl n0 5 i0 (.int .u8 0) 1 1 Tryd.underlying26 hi hz0 hz1 hz2 rfl (by decide) _ _ _ rfl (World.ownsRow.alloc R.out _) ⟨wr.heap.size, 0, none⟩ 1 1 [.int .u8 ((k : Int) % 128 + 128)] rfl rfl (cell_one_new _ _ _) (by simp [Value.oneCell']) Hm1.out Hm2.out (by simp; omega) ?_)
        intro v' w3 hown hgrow _ hob
        have B3 : Kept w v w3 := (BW.alloc (.cells #[.int .u8 ((k : Int) % 128 + 128)] 5)).grown HO hgrow
        have O3 : OwnOr w v v' := by
          rcases hob with hob | hob
          · rcases HO with ho | ⟨j, hj, hl⟩
            · exact .inl (hob.trans ho)
            · exact .inr ⟨j, hob.trans hj, hl⟩
          · exact .inr ⟨_, hob, by first | omega | (simp; omega)⟩
        have R4 : ByRow w3 n0 v' (bs' ++ [UInt8.ofNat (k % 128 + 128)]) := by
          unfold ByRow
          rw [byC_append, List.length_append]
          have e1 : byC [UInt8.ofNat (k % 128 + 128)] = [.int .u8 ((k : Int) % 128 + 128)] := by rw [HX.out]; rfl
          rw [e1]
          exact hown
        have E4 : (bs' ++ [UInt8.ofNat (k % 128 + 128)]) ++ encU (k / 128) = all := by
          rw [← E.out, encU_ge hlt]; simp
        have HE4 : Hid (_ = all) := E4
        have HW4 : Hid (ByRow w3 n0 v' _) := R4
        clear hown hgrow E E4 R4 HX R hob HO hoj
        go_wp2
        go_roundw
        case rel => exact ⟨k / 128, by omega, by go_num, ⟨_, HE4, HW4⟩, B3, O3⟩
        case measure => simp [intOf]; omega
      · have hlt' : ¬ (127 : Int) < k := by omega
        have hX : (k : Int) = ((UInt8.ofNat k).toNat : Int) := by simp; omega
        have HX : Hid (_ = _) := hX
        clear hX
        go_wp2_with (at_builtin; refine wpList_append_own_at _ rfl _ _ 26 rfl n0 5 i0 (.int .u8 0) 1 1 Tryd.underlying26 hi hz0 hz1 hz2 rfl (by decide) _ _ _ rfl (World.ownsRow.alloc R.out _) ⟨wr.heap.size, 0, none⟩ 1 1 [.int .u8 (k : Int)] rfl rfl (cell_one_new _ _ _) (by simp [Value.oneCell']) Hm1.out Hm2.out (by simp; omega) ?_)
        intro v' w3 hown hgrow _ hob
        have B3 : Kept w v w3 := (BW.alloc (.cells #[.int .u8 (k : Int)] 5)).grown HO hgrow
        have O3 : OwnOr w v v' := by
          rcases hob with hob | hob
          · rcases HO with ho | ⟨j, hj, hl⟩
            · exact .inl (hob.trans ho)
            · exact .inr ⟨j, hob.trans hj, hl⟩
          · exact .inr ⟨_, hob, by first | omega | (simp; omega)⟩
        have R4 : ByRow w3 n0 v' all := by
          rw [← E.out, encU_lt (by omega)]
          unfold ByRow
          rw [byC_append, List.length_append]
          have e1 : byC [UInt8.ofNat k] = [.int .u8 (k : Int)] := by rw [HX.out]; rfl
          rw [e1]
          exact hown
        have HW4 : Hid (ByRow w3 n0 v' all) := R4
        clear hown hgrow E R4 HX R hob HO hoj
        go_wp2
        go_ret
        exact ⟨_, rfl, HW4.out, B3, O3⟩

set_option maxHeartbeats 1000000 in
theorem refText_any (n0 : Nat) (v : Value) (bs : List UInt8) (s : ByteArray) (w : World) (hs : s.size ≤ 24) (hl : bs.length ≤ 549755813888) (hn0 : n0 ≤ w.heap.size) (h : ByRow w n0 v bs) :
    Calls Tryd.prog 9 #[v, .string s] w fun e w' => ∃ v', e = .returned v' ∧ ByRow w' n0 v' (bs ++ textB s) ∧ Kept w v w' := by
  have HN : Hid (Calls _ _ _ _ _) := refNum_any n0 v bs s.size w (by omega) (by omega) (by omega) hn0 h
  have e2 : bs ++ textB s = (bs ++ numB s.size) ++ s.data.toList := by simp [textB]
  have hb1 : (bs ++ numB s.size).length ≤ 549755813898 := by
    have := @numB_length s.size (by omega) (by omega)
    rw [List.length_append]; omega
  have Hm1 : Hid ((bs ++ numB s.size).length + s.size ≤ maxLen) := by unfold Hid maxLen; omega
  have Hm2 : Hid ((bs ++ numB s.size).length + s.size ≤ 140737488355328) := by unfold Hid; omega
  rw [e2]
  generalize bs ++ numB s.size = cs at *
  clear e2 h hb1
  have hs' : (s.size : Int) ≤ 24 := by omega
  obtain ⟨i0, hi, hz0, hz1, hz2⟩ := info_parts by_info
  go_enter Tryd.func9, Tryd.ntmps9
  go_wp2_with fail
  refine HN.out.mono ?_
  rintro e w1 ⟨v1, rfl, r, BW, HO⟩
  have hoj := r.own
  have hsz := BW.size
  have Hr : Hid (ByRow w1 n0 v1 cs) := r
  clear HN r
  go_wp2_with (at_builtin; refine wpList_append_own_string _ rfl _ _ 26 9 rfl n0 5 i0 Tryd.underlying26 Tryd.underlying9 hi hz0 hz1 hz2 _ _ _ rfl Hr.out s rfl Hm1.out Hm2.out (by omega) ?_)
  intro v' w3 hown hgrow _
  have B3 : Kept w v w3 := BW.grown HO hgrow
  have R4 : ByRow w3 n0 v' (cs ++ s.data.toList) := by
    unfold ByRow
    rw [byC_append, List.length_append, data_length]
    exact hown
  have HW4 : Hid (ByRow w3 n0 v' (cs ++ s.data.toList)) := R4
  clear hown hgrow Hr R4
  go_wp2
  go_ret
  exact ⟨_, rfl, HW4.out, B3⟩
end Go.Proofs.YtcmndenlnjefeaaDoor
