/-
  What the laws of keep stand on: what is kept between two calls; appends of entries; small numbers.
-/
import Derived.Test.YtikcidlaamgakaaGreatDoorZu17
import Derived.Test.YtikcidlaamgakaaGreatDoorZu18
import Derived.Test.YtikcidlaamgakaaGreatDoorZu19
import Derived.Test.YtikcidlaamgakaaGreatDoorZu2
namespace Go.Proofs.YtikcidlaamgakaaGreatDoor
set_option linter.unusedVariables false
set_option linter.unusedSimpArgs false
set_option maxRecDepth 100000
open Go.RowKit Go.Lib

/-- All that was there stays, but for a row. -/
structure Kept (w : World) (v : Value) (w' : World) : Prop where
  os : w'.os = w.os
  tape : w'.tape = w.tape
  output : w'.output = w.output
  size : w.heap.size ≤ w'.heap.size
  block : ∀ b, b < w.heap.size → v.ownBlock ≠ some b → w'.heap[b]? = w.heap[b]?
theorem Kept.refl (w : World) (v : Value) : Kept w v w := ⟨rfl, rfl, rfl, Nat.le_refl _, fun _ _ _ => rfl⟩
theorem Kept.alloc {w w' : World} {v : Value} (h : Kept w v w') (o : Obj) : Kept w v (w'.alloc o) :=
  ⟨h.os, h.tape, h.output, by have := h.size; simp; omega, fun b hb hn => ((World.grownBy_alloc w' o none).block b (by have := h.size; omega) (by simp)).trans (h.block b hb hn)⟩
/-- What a row may have become. -/
def OwnOr (w : World) (v v' : Value) : Prop := v'.ownBlock = v.ownBlock ∨ ∃ j, v'.ownBlock = some j ∧ w.heap.size ≤ j
theorem Kept.grown {w w' w'' : World} {v v' : Value} (h : Kept w v w') (ho : OwnOr w v v') (hg : w'.grownBy w'' v'.ownBlock) : Kept w v w'' :=
  ⟨hg.os.trans h.os, hg.tape.trans h.tape, hg.output.trans h.output, by have := h.size; have := hg.size; omega, fun b hb hn => (hg.block b (by have := h.size; omega) (fun e => by
    rcases ho with ho | ⟨j, hj, hl⟩
    · exact hn (by rw [← ho, e])
    · rw [hj] at e; cases e; omega)).trans (h.block b hb hn)⟩
theorem Kept.below {w w' : World} {v : Value} {n : Nat} (h : Kept w v w') (ho : ∀ j, v.ownBlock = some j → n ≤ j) (hn : n ≤ w.heap.size) : Below n w w' :=
  ⟨h.os, h.tape, h.output, h.size, fun b hb => h.block b (by omega) (fun e => by have := ho b e; omega)⟩

set_option maxHeartbeats 2000000 in
theorem refNum_any (n0 : Nat) (v : Value) (bs : List UInt8) (n : Int) (w : World) (h1 : -9223372036854775808 ≤ n) (h2 : n ≤ 9223372036854775807) (hl : bs.length ≤ 1099511627776) (hn0 : n0 ≤ w.heap.size) (h : ByRow w n0 v bs) :
    Calls Tryz.prog 21 #[v, .int .i64 n] w fun e w' => ∃ v', e = .returned v' ∧ ByRow w' n0 v' (bs ++ numB n) ∧ Kept w v w' ∧ OwnOr w v v' := by
  have hz := zig_lt h1 h2
  have hlen := numB_length h1 h2
  have Hall : Hid ((bs ++ numB n).length ≤ 1099511627786) := by unfold Hid; rw [List.length_append]; omega
  obtain ⟨all, hall⟩ : ∃ all, bs ++ numB n = all := ⟨_, rfl⟩
  have Hstart : Hid (bs ++ encU (zig n) = all) := hall
  rw [hall] at Hall ⊢
  have Hw : Hid (ByRow w n0 v bs) := h
  clear hall hlen hl h
  obtain ⟨i0, hi, hz0, hz1, hz2⟩ := info_parts by_info
  by_cases hn : n < 0
  · have ez : ((zig n : Nat) : Int) = -2 * n - 1 := by unfold zig; rw [if_pos hn]; omega
    generalize zig n = u at *
    have hw0 : IntKind.i64.wrap (n + 1) = n + 1 := by
      simp only [IntKind.wrap, IntKind.bits, IntKind.signed]
      simp
      omega
    have hw00 : IntKind.i64.wrap (-(n + 1)) = -(n + 1) := by
      simp only [IntKind.wrap, IntKind.bits, IntKind.signed]
      simp
      omega
    have ez2 : -(n + 1) * 2 + 1 = (u : Int) := by omega
    clear ez
    go_enter Tryz.func21, Tryz.ntmps21
    go_wp2
    go_loopw [0, 5] (fun v' i wr => ∃ k : Nat, k < 18446744073709551616 ∧ i = .int .u64 k ∧ (∃ bs', Hid (bs' ++ encU k = all) ∧ Hid (ByRow wr n0 v' bs')) ∧ Kept w v wr ∧ OwnOr w v v') (fun _ i _ => (RowKit.intOf i).toNat)
    case atStart => exact ⟨u, hz, rfl, ⟨bs, Hstart, Hw⟩, Kept.refl _ _, .inl rfl⟩
    case round =>
      obtain ⟨k, hk, rfl, ⟨bs', E, R⟩, BW, HO⟩ := hrel
      have hsz := BW.size
      have hk' : (k : Int) < 18446744073709551616 := by omega
      have hblen : bs'.length + 1 ≤ 1099511627786 := by
        have := Hall.out
        rw [← E.out, List.length_append] at this
        have := encU_pos k
        omega
      have Hm1 : Hid (bs'.length + 1 ≤ maxLen) := by unfold Hid maxLen; omega
      have Hm2 : Hid ((bs'.length + 1) * 1 ≤ 140737488355328) := by unfold Hid; omega
      have hoj := R.out.own
      clear hblen
      by_cases hlt : 128 ≤ k
      · have hlt' : (127 : Int) < k := by omega
        have hX : (k : Int) % 128 + 128 = ((UInt8.ofNat (k % 128 + 128)).toNat : Int) := by simp; omega
        have HX : Hid (_ = _) := hX
        clear hX
        go_wp2_with (at_builtin; refine wpList_append_own_at _ rfl _ _ 35 rfl n0 5 i0 (.int .u8 0) 1 1 Tryz.underlying35 hi hz0 hz1 hz2 rfl (by decide) _ _ _ rfl (World.ownsRow.alloc R.out _) ⟨wr.heap.size, 0, none⟩ 1 1 [.int .u8 ((k : Int) % 128 + 128)] rfl rfl (cell_one_new _ _ _) (by simp [Value.oneCell']) Hm1.out Hm2.out (by simp; omega) ?_)
        intro v' w3 hown hgrow _ hob
        have B3 : Kept w v w3 := (BW.alloc (.cells #[.int .u8 ((k : Int) % 128 + 128)] 5)).grown HO hgrow
        have O3 : OwnOr w v v' := by
          rcases hob with hob | hob
          · rcases HO with ho | ⟨j, hj, hl⟩
            · exact .inl (hob.trans ho)
            · exact .inr ⟨j, hob.trans hj, hl⟩
          · exact .inr ⟨_, hob, by first | omega | (simp; omega)⟩
        have R4 : ByRow w3 n0 v' (bs' ++ [UInt8.ofNat (k % 128 + 128)]) := by
          unfold ByRow
          rw [byC_append, List.length_append]
          have e1 : byC [UInt8.ofNat (k % 128 + 128)] = [.int .u8 ((k : Int) % 128 + 128)] := by rw [HX.out]; rfl
          rw [e1]
          exact hown
        have E4 : (bs' ++ [UInt8.ofNat (k % 128 + 128)]) ++ encU (k / 128) = all := by
          rw [← E.out, encU_ge hlt]; simp
        have HE4 : Hid (_ = all) := E4
        have HW4 : Hid (ByRow w3 n0 v' _) := R4
        clear hown hgrow E E4 R4 HX R hob HO hoj
        go_wp2
        go_roundw
        case rel => exact ⟨k / 128, by omega, by go_num, ⟨_, HE4, HW4⟩, B3, O3⟩
        case measure => simp [RowKit.intOf]; omega
      · have hlt' : ¬ (127 : Int) < k := by omega
        have hX : (k : Int) = ((UInt8.ofNat k).toNat : Int) := by simp; omega
        have HX : Hid (_ = _) := hX
        clear hX
        go_wp2_with (at_builtin; refine wpList_append_own_at _ rfl _ _ 35 rfl n0 5 i0 (.int .u8 0) 1 1 Tryz.underlying35 hi hz0 hz1 hz2 rfl (by decide) _ _ _ rfl (World.ownsRow.alloc R.out _) ⟨wr.heap.size, 0, none⟩ 1 1 [.int .u8 (k : Int)] rfl rfl (cell_one_new _ _ _) (by simp [Value.oneCell']) Hm1.out Hm2.out (by simp; omega) ?_)
        intro v' w3 hown hgrow _ hob
        have B3 : Kept w v w3 := (BW.alloc (.cells #[.int .u8 (k : Int)] 5)).grown HO hgrow
        have O3 : OwnOr w v v' := by
          rcases hob with hob | hob
          · rcases HO with ho | ⟨j, hj, hl⟩
            · exact .inl (hob.trans ho)
            · exact .inr ⟨j, hob.trans hj, hl⟩
          · exact .inr ⟨_, hob, by first | omega | (simp; omega)⟩
        have R4 : ByRow w3 n0 v' all := by
          rw [← E.out, encU_lt (by omega)]
          unfold ByRow
          rw [byC_append, List.length_append]
          have e1 : byC [UInt8.ofNat k] = [.int .u8 (k : Int)] := by rw [HX.out]; rfl
          rw [e1]
          exact hown
        have HW4 : Hid (ByRow w3 n0 v' all) := R4
        clear hown hgrow E R4 HX R hob HO hoj
        go_wp2
        go_ret
        exact ⟨_, rfl, HW4.out, B3, O3⟩
  · have ez : ((zig n : Nat) : Int) = 2 * n := by unfold zig; rw [if_neg hn]; omega
    generalize zig n = u at *
    have ez2 : n * 2 = (u : Int) := by omega
    clear ez
    go_enter Tryz.func21, Tryz.ntmps21
    go_wp2
    go_loopw [0, 5] (fun v' i wr => ∃ k : Nat, k < 18446744073709551616 ∧ i = .int .u64 k ∧ (∃ bs', Hid (bs' ++ encU k = all) ∧ Hid (ByRow wr n0 v' bs')) ∧ Kept w v wr ∧ OwnOr w v v') (fun _ i _ => (RowKit.intOf i).toNat)
    case atStart => exact ⟨u, hz, rfl, ⟨bs, Hstart, Hw⟩, Kept.refl _ _, .inl rfl⟩
    case round =>
      obtain ⟨k, hk, rfl, ⟨bs', E, R⟩, BW, HO⟩ := hrel
      have hsz := BW.size
      have hk' : (k : Int) < 18446744073709551616 := by omega
      have hblen : bs'.length + 1 ≤ 1099511627786 := by
        have := Hall.out
        rw [← E.out, List.length_append] at this
        have := encU_pos k
        omega
      have Hm1 : Hid (bs'.length + 1 ≤ maxLen) := by unfold Hid maxLen; omega
      have Hm2 : Hid ((bs'.length + 1) * 1 ≤ 140737488355328) := by unfold Hid; omega
      have hoj := R.out.own
      clear hblen
      by_cases hlt : 128 ≤ k
      · have hlt' : (127 : Int) < k := by omega
        have hX : (k : Int) % 128 + 128 = ((UInt8.ofNat (k % 128 + 128)).toNat : Int) := by simp; omega
        have HX : Hid (_ = _) := hX
        clear hX
        go_wp2_with (at_builtin; refine wpList_append_own_at _ rfl _ _ 35 rfl n0 5 i0 (.int .u8 0) 1 1 Tryz.underlying35 hi hz0 hz1 hz2 rfl (by decide) _ _ _ rfl (World.ownsRow.alloc R.out _) ⟨wr.heap.size, 0, none⟩ 1 1 [.int .u8 ((k : Int) % 128 + 128)] rfl rfl (cell_one_new _ _ _) (by simp [Value.oneCell']) Hm1.out Hm2.out (by simp; omega) ?_)
        intro v' w3 hown hgrow _ hob
        have B3 : Kept w v w3 := (BW.alloc (.cells #[.int .u8 ((k : Int) % 128 + 128)] 5)).grown HO hgrow
        have O3 : OwnOr w v v' := by
          rcases hob with hob | hob
          · rcases HO with ho | ⟨j, hj, hl⟩
            · exact .inl (hob.trans ho)
            · exact .inr ⟨j, hob.trans hj, hl⟩
          · exact .inr ⟨_, hob, by first | omega | (simp; omega)⟩
        have R4 : ByRow w3 n0 v' (bs' ++ [UInt8.ofNat (k % 128 + 128)]) := by
          unfold ByRow
          rw [byC_append, List.length_append]
          have e1 : byC [UInt8.ofNat (k % 128 + 128)] = [.int .u8 ((k : Int) % 128 + 128)] := by rw [HX.out]; rfl
          rw [e1]
          exact hown
        have E4 : (bs' ++ [UInt8.ofNat (k % 128 + 128)]) ++ encU (k / 128) = all := by
          rw [← E.out, encU_ge hlt]; simp
        have HE4 : Hid (_ = all) := E4
        have HW4 : Hid (ByRow w3 n0 v' _) := R4
        clear hown hgrow E E4 R4 HX R hob HO hoj
        go_wp2
        go_roundw
        case rel => exact ⟨k / 128, by omega, by go_num, ⟨_, HE4, HW4⟩, B3, O3⟩
        case measure => simp [RowKit.intOf]; omega
      · have hlt' : ¬ (127 : Int) < k := by omega
        have hX : (k : Int) = ((UInt8.ofNat k).toNat : Int) := by simp; omega
        have HX : Hid (_ = _) := hX
        clear hX
        go_wp2_with (at_builtin; refine wpList_append_own_at _ rfl _ _ 35 rfl n0 5 i0 (.int .u8 0) 1 1 Tryz.underlying35 hi hz0 hz1 hz2 rfl (by decide) _ _ _ rfl (World.ownsRow.alloc R.out _) ⟨wr.heap.size, 0, none⟩ 1 1 [.int .u8 (k : Int)] rfl rfl (cell_one_new _ _ _) (by simp [Value.oneCell']) Hm1.out Hm2.out (by simp; omega) ?_)
        intro v' w3 hown hgrow _ hob
        have B3 : Kept w v w3 := (BW.alloc (.cells #[.int .u8 (k : Int)] 5)).grown HO hgrow
        have O3 : OwnOr w v v' := by
          rcases hob with hob | hob
          · rcases HO with ho | ⟨j, hj, hl⟩
            · exact .inl (hob.trans ho)
            · exact .inr ⟨j, hob.trans hj, hl⟩
          · exact .inr ⟨_, hob, by first | omega | (simp; omega)⟩
        have R4 : ByRow w3 n0 v' all := by
          rw [← E.out, encU_lt (by omega)]
          unfold ByRow
          rw [byC_append, List.length_append]
          have e1 : byC [UInt8.ofNat k] = [.int .u8 (k : Int)] := by rw [HX.out]; rfl
          rw [e1]
          exact hown
        have HW4 : Hid (ByRow w3 n0 v' all) := R4
        clear hown hgrow E R4 HX R hob HO hoj
        go_wp2
        go_ret
        exact ⟨_, rfl, HW4.out, B3, O3⟩

set_option maxHeartbeats 1000000 in
theorem refText_any (n0 : Nat) (v : Value) (bs : List UInt8) (s : ByteArray) (w : World) (hs : s.size ≤ 24) (hl : bs.length ≤ 549755813888) (hn0 : n0 ≤ w.heap.size) (h : ByRow w n0 v bs) :
    Calls Tryz.prog 20 #[v, .string s] w fun e w' => ∃ v', e = .returned v' ∧ ByRow w' n0 v' (bs ++ textB s) ∧ Kept w v w' := by
  have HN : Hid (Calls _ _ _ _ _) := refNum_any n0 v bs s.size w (by omega) (by omega) (by omega) hn0 h
  have e2 : bs ++ textB s = (bs ++ numB s.size) ++ s.data.toList := by simp [textB]
  have hb1 : (bs ++ numB s.size).length ≤ 549755813898 := by
    have := @numB_length s.size (by omega) (by omega)
    rw [List.length_append]; omega
  have Hm1 : Hid ((bs ++ numB s.size).length + s.size ≤ maxLen) := by unfold Hid maxLen; omega
  have Hm2 : Hid ((bs ++ numB s.size).length + s.size ≤ 140737488355328) := by unfold Hid; omega
  rw [e2]
  generalize bs ++ numB s.size = cs at *
  clear e2 h hb1
  have hs' : (s.size : Int) ≤ 24 := by omega
  obtain ⟨i0, hi, hz0, hz1, hz2⟩ := info_parts by_info
  go_enter Tryz.func20, Tryz.ntmps20
  go_wp2_with fail
  refine HN.out.mono ?_
  rintro e w1 ⟨v1, rfl, r, BW, HO⟩
  have hoj := r.own
  have hsz := BW.size
  have Hr : Hid (ByRow w1 n0 v1 cs) := r
  clear HN r
  go_wp2_with (at_builtin; refine wpList_append_own_string _ rfl _ _ 35 9 rfl n0 5 i0 Tryz.underlying35 Tryz.underlying9 hi hz0 hz1 hz2 _ _ _ rfl Hr.out s rfl Hm1.out Hm2.out (by omega) ?_)
  intro v' w3 hown hgrow _
  have B3 : Kept w v w3 := BW.grown HO hgrow
  have R4 : ByRow w3 n0 v' (cs ++ s.data.toList) := by
    unfold ByRow
    rw [byC_append, List.length_append, data_length]
    exact hown
  have HW4 : Hid (ByRow w3 n0 v' (cs ++ s.data.toList)) := R4
  clear hown hgrow Hr R4
  go_wp2
  go_ret
  exact ⟨_, rfl, HW4.out, B3⟩
end Go.Proofs.YtikcidlaamgakaaGreatDoor

namespace Go.Proofs.YtikcidlaamgakaaGreatDoor
set_option linter.unusedVariables false
set_option linter.unusedSimpArgs false
set_option maxRecDepth 100000
open Go.RowKit Go.Lib

/-- An amount. -/
def isAmt (n : Int) : Bool := decide (-mostA ≤ n) && decide (n ≤ mostA)
theorem refAmt_any (n : Int) (w : World) :
    Calls Tryz.prog 22 #[.int .i64 n] w fun e w' => e = .returned (.bool (isAmt n)) ∧ w' = w := by
  unfold isAmt mostA
  by_cases h : -1000000000000000 ≤ n
  · have : (decide (-(1000000000000000 : Int) ≤ n) && decide (n ≤ 1000000000000000)) = decide (n ≤ 1000000000000000) := by simp [h]
    rw [this]
    go_enter Tryz.func22, Tryz.ntmps22
    go_wp2
    go_ret
    exact ⟨rfl, rfl⟩
  · have : (decide (-(1000000000000000 : Int) ≤ n) && decide (n ≤ 1000000000000000)) = false := by simp [h]
    rw [this]
    go_enter Tryz.func22, Tryz.ntmps22
    go_wp2
    go_ret
    exact ⟨rfl, rfl⟩
theorem isAmt_iff {n : Int} : isAmt n = true ↔ -mostA ≤ n ∧ n ≤ mostA := by simp [isAmt]

theorem lnErr_ne {err : Int} {x : Ln} (h : err ≠ 0) : lnErr err x = err := by
  have f : ∀ b, fo err b = err := fun b => if_neg h
  simp only [lnErr, f]
theorem lnsErr_ne : ∀ (l : List Ln) {err : Int}, err ≠ 0 → lnsErr err l = err
  | [], err, h => rfl
  | x :: l, err, h => by
    simp only [lnsErr, List.foldl_cons]
    rw [lnErr_ne h]
    exact lnsErr_ne l h
theorem lnsErr_at (l : List Ln) (k : Nat) (hk : k < l.length) (c : Int) (h0 : lnsErr 0 (l.take k) = 0) (hc : lnErr 0 (l.getD k ln0) = c) (hn : c ≠ 0) : lnsErr 0 l = c := by
  have e : l = l.take k ++ (l.getD k ln0 :: l.drop (k + 1)) := by rw [← lns_drop l k hk, List.take_append_drop]
  rw [e]
  unfold lnsErr at h0 ⊢
  rw [List.foldl_append, h0, List.foldl_cons, hc]
  exact lnsErr_ne _ hn

theorem own_ne {W : World} {n : Nat} {v : Value} {l : List UInt8} (h : ByRow W n v l) {c : Nat} {cs : Array Value} {t : TypeId} {f : Nat × Nat} (hc : W.heap[c]? = some (.cells cs t f)) (ht : t ≠ 5) : v.ownBlock ≠ some c := by
  rcases h.2 with ⟨rfl, _⟩ | ⟨g, cp, cur, rfl, _, hg, _⟩
  · intro e; cases e
  · intro e
    cases e
    rw [hg] at hc
    cases hc
    exact ht rfl
/-- A line in a box. -/
def LBox (W : World) (b : Nat) (x0 x1 : ByteArray) (x2 : Int) : Prop := W.heap[b]? = some (.cells #[.string x0, .string x1, .int .i64 x2] 62 (0, 0))
theorem LBox.c0 {W : World} {b : Nat} {x0 x1 : ByteArray} {x2 : Int} (h : LBox W b x0 x1 x2) : W.cell? ⟨b, 0, none⟩ = some (.string x0) := by unfold LBox at h; simp [World.cell?, h]
theorem LBox.c1 {W : World} {b : Nat} {x0 x1 : ByteArray} {x2 : Int} (h : LBox W b x0 x1 x2) : W.cell? ⟨b, 1, none⟩ = some (.string x1) := by unfold LBox at h; simp [World.cell?, h]
theorem LBox.c2 {W : World} {b : Nat} {x0 x1 : ByteArray} {x2 : Int} (h : LBox W b x0 x1 x2) : W.cell? ⟨b, 2, none⟩ = some (.int .i64 x2) := by unfold LBox at h; simp [World.cell?, h]
theorem LBox.kept {W W' : World} {b n : Nat} {x0 x1 : ByteArray} {x2 : Int} {v : Value} {l : List UInt8} (h : LBox W b x0 x1 x2) (hr : ByRow W n v l) (hk : Kept W v W') : LBox W' b x0 x1 x2 :=
  (hk.block b (Array.getElem?_eq_some_iff.1 h).1 (own_ne hr h (by decide))).trans h
theorem linesB_snoc (l : List Ln) (x : Ln) : linesB (l ++ [x]) = linesB l ++ lineB x := by simp [linesB]
theorem linesB_length {l : List Ln} (h : lnsErr 0 l = 0) : (linesB l).length ≤ 78 * l.length := by
  have hf := ((lnsErr_zero l 0).1 h).2
  rw [← lnsW_fit l hf]
  exact lnsW_length l (fun x hx => by
    have := (hf x hx).2.2
    unfold mostA at this
    exact ⟨by omega, by omega⟩)

set_option maxHeartbeats 4000000 in
theorem refEntry_any (r : ByteArray) (en pe : Int) (a : Option Addr) (cap : Nat) (l : List Ln) (w : World) (hen : I64 en) (hpe : I64 pe) (h : IsLn w a l cap) :
    Calls Tryz.prog 8 #[.agg #[.string r, .int .i64 en, .int .i64 pe, .slice a l.length cap]] w fun e w' =>
      ((frBad ⟨r, en, pe, l⟩ ≠ 0 ∧ e = .returned (.tuple #[.slice none 0 0, .int .i64 (frBad ⟨r, en, pe, l⟩)])) ∨ (frBad ⟨r, en, pe, l⟩ = 0 ∧ ∃ v, e = .returned (.tuple #[v, .int .i64 0]) ∧ ByRow w' w.heap.size v (entB ⟨r, en, pe, l⟩))) ∧ Below w.heap.size w w' := by
  obtain ⟨W0, hW0⟩ : ∃ W0, w.alloc (.cells #[.string r, .int .i64 en, .int .i64 pe, .slice a l.length cap] 34) = W0 := ⟨_, rfl⟩
  have b0 : Below w.heap.size w W0 := by rw [← hW0]; exact (Below.refl _ w).alloc (Nat.le_refl _) _
  have x0 := Box4.new w r en pe (.slice a l.length cap)
  have hs0 : W0.heap.size = w.heap.size + 1 := by rw [← hW0]; simp
  rw [hW0] at x0
  have d0 := x0.c0
  have d1 := x0.c1
  have d2 := x0.c2
  have d3 := x0.c3
  by_cases h1 : 20 < l.length
  · have h1' : (20 : Int) < l.length := by omega
    have e1 : frBad ⟨r, en, pe, l⟩ = 4 := if_pos h1
    rw [e1]
    clear e1 h
    go_enter Tryz.func8, Tryz.ntmps8
    go_wp2
    go_ret2
    first | exact ⟨.inl ⟨by decide, rfl⟩, b0⟩ | exact ⟨rfl, b0⟩
  have h1' : ¬ (20 : Int) < l.length := by omega
  have hB0 : frBad ⟨r, en, pe, l⟩ = lnsErr (headErr ⟨r, en, pe, l⟩) l := if_neg h1
  by_cases h2 : 24 < r.size
  · have h2' : (24 : Int) < r.size := by omega
    have e1 : frBad ⟨r, en, pe, l⟩ = 4 := by
      rw [hB0]
      have : headErr ⟨r, en, pe, l⟩ = 4 := by
        unfold headErr
        have : longB r = 4 := if_pos h2
        simp only [this]
        rfl
      rw [this]
      exact lnsErr_ne l (by decide)
    rw [e1]
    clear e1 h hB0
    go_enter Tryz.func8, Tryz.ntmps8
    go_wp2
    go_ret2
    first | exact ⟨.inl ⟨by decide, rfl⟩, b0⟩ | exact ⟨rfl, b0⟩
  have h2' : ¬ (24 : Int) < r.size := by omega
  have hlr : longB r = 0 := if_neg h2
  by_cases h3 : (0 ≤ en ∧ en ≤ 200) ∧ (0 ≤ pe ∧ pe ≤ 200)
  · have hh : headErr ⟨r, en, pe, l⟩ = 0 := by
      unfold headErr outB
      simp only [hlr, if_pos h3.1, if_pos h3.2]
      rfl
    rw [hh] at hB0
    obtain ⟨⟨p1, p2⟩, p3, p4⟩ := h3
    have p1' : ¬ en < 0 := by omega
    have p2' : ¬ 200 < en := by omega
    have p3' : ¬ pe < 0 := by omega
    have p4' : ¬ 200 < pe := by omega
    have HB0 : Hid (frBad ⟨r, en, pe, l⟩ = lnsErr 0 l) := hB0
    have HA : Hid (IsLn w a l cap) := h
    have Hx0 : Hid (Box4 W0 _ _ _ _ _) := x0
    have HT : Hid (Calls _ _ _ _ _) := refText_any (w.heap.size + 1) (.slice none 0 0) [] r W0 (by omega) (by simp) (by omega) (ByRow.nil _ _)
    have hr34 := @textB_length r (by omega)
    have hn1 := numB_length hen.1 hen.2
    have hn2 := numB_length hpe.1 hpe.2
    have hn3 := @numB_length l.length (by omega) (by omega)
    clear h x0 hB0 hh hlr
    go_enter Tryz.func8, Tryz.ntmps8
    go_wp2_with fail
    refine HT.out.mono ?_
    rintro e w1 ⟨v1, rfl, y1, B1⟩
    have B1 : Below (w.heap.size + 1) W0 w1 := B1.below (fun j e => by cases e) (by omega)
    have y1 : ByRow w1 (w.heap.size + 1) v1 (textB r) := y1
    have z1 := Hx0.out.below B1 (Nat.lt_succ_self _)
    have HB1 : Hid (Below (w.heap.size + 1) W0 w1) := B1
    have Hoj : Hid (∀ j, v1.ownBlock = some j → w.heap.size + 1 ≤ j) := y1.own
    have HS : Hid (Calls _ _ _ _ _) := refNum_any (w.heap.size + 1) v1 (textB r) en w1 hen.1 hen.2 (by omega) (by have := B1.size; omega) y1
    have Hz1 : Hid (Box4 w1 _ _ _ _ _) := z1
    have d1' := z1.c1
    clear d0 d1 d2 d3 hW0 HT y1 B1 z1
    go_wp2_with fail
    refine HS.out.mono ?_
    rintro e w2 ⟨v2, rfl, y2, B2, _⟩
    have B2 : Below (w.heap.size + 1) w1 w2 := B2.below Hoj.out (by have := HB1.out.size; omega)
    have Hoj : Hid (∀ j, v2.ownBlock = some j → w.heap.size + 1 ≤ j) := y2.own
    have z2 := Hz1.out.below B2 (Nat.lt_succ_self _)
    have HB2 : Hid (Below (w.heap.size + 1) W0 w2) := HB1.out.trans B2
    have HS2 : Hid (Calls _ _ _ _ _) := refNum_any (w.heap.size + 1) v2 _ pe w2 hpe.1 hpe.2 (by rw [List.length_append]; omega) (by have := HB2.out.size; omega) y2
    have Hz2 : Hid (Box4 w2 _ _ _ _ _) := z2
    have d2' := z2.c2
    clear HS d1' HB1 Hz1 y2 B2 z2
    go_wp2_with fail
    refine HS2.out.mono ?_
    rintro e w3 ⟨v3, rfl, y3, B3, _⟩
    have B3 : Below (w.heap.size + 1) w2 w3 := B3.below Hoj.out (by have := HB2.out.size; omega)
    have Hoj : Hid (∀ j, v3.ownBlock = some j → w.heap.size + 1 ≤ j) := y3.own
    have z3 := Hz2.out.below B3 (Nat.lt_succ_self _)
    have HB3 : Hid (Below (w.heap.size + 1) W0 w3) := HB2.out.trans B3
    have HS3 : Hid (Calls _ _ _ _ _) := refNum_any (w.heap.size + 1) v3 _ l.length w3 (by omega) (by omega) (by rw [List.length_append, List.length_append]; omega) (by have := HB3.out.size; omega) y3
    have Hz3 : Hid (Box4 w3 _ _ _ _ _) := z3
    have d3' := z3.c3
    clear HS2 d2' HB2 Hz2 y3 B3 z3
    go_wp2_with fail
    refine HS3.out.mono ?_
    rintro e w4 ⟨v4, rfl, y4, B4, _⟩
    have B4 : Below (w.heap.size + 1) w3 w4 := B4.below Hoj.out (by have := HB3.out.size; omega)
    have z4 := Hz3.out.below B4 (Nat.lt_succ_self _)
    have HB4 : Hid (Below (w.heap.size + 1) W0 w4) := HB3.out.trans B4
    have hh : (textB r ++ numB en ++ numB pe ++ numB l.length).length ≤ 64 := by simp only [List.length_append]; omega
    have Hz4 : Hid (Box4 w4 _ _ _ _ _) := z4
    have Hy4 : Hid (ByRow w4 (w.heap.size + 1) v4 (textB r ++ numB en ++ numB pe ++ numB l.length)) := y4
    have HeW : Hid (entB ⟨r, en, pe, l⟩ = (textB r ++ numB en ++ numB pe ++ numB l.length) ++ linesB l) := rfl
    generalize textB r ++ numB en ++ numB pe ++ numB l.length = hd at *
    clear HS3 d3' HB3 Hz3 y4 B4 z4 hr34 hn1 hn2 hn3
    go_wp2
    go_loopw [4, 5, 6, 7] (fun v i _ _ wr => ∃ k : Nat, k ≤ l.length ∧ i = .int .i64 k ∧ Hid (lnsErr 0 (l.take k) = 0) ∧ Hid (ByRow wr (w.heap.size + 1) v (hd ++ linesB (l.take k))) ∧ Below (w.heap.size + 1) W0 wr) (fun _ i _ _ _ => l.length - (RowKit.intOf i).toNat)
    case atStart => exact ⟨0, Nat.zero_le _, rfl, rfl, by unfold Hid; simpa [linesB] using Hy4.out, HB4.out⟩
    case round =>
      obtain ⟨k, hk, rfl, H0, R, BW⟩ := hrel
      have zk := Hx0.out.below BW (Nat.lt_succ_self _)
      have e3 := zk.c3
      have hsz := BW.size
      have Bw : Below w.heap.size w wr := b0.trans (BW.mono (Nat.le_succ _))
      by_cases hlt : k < l.length
      · rcases HA.out.lies with h0 | ⟨gb, go, rfl, hgb, hgc⟩
        · rw [h0] at hlt; simp at hlt
        have hn := (hgc k hlt).below Bw hgb
        have hst : hd ++ linesB (l.take (k + 1)) = hd ++ linesB (l.take k) ++ lineB (l.getD k ln0) := by rw [lns_take l k hlt, linesB_snoc, List.append_assoc]
        have hse : lnsErr 0 (l.take (k + 1)) = lnErr 0 (l.getD k ln0) := by rw [lns_take l k hlt, lnsErr_snoc, H0.out]
        have hAt := lnsErr_at l k hlt
        have hbl : (hd ++ linesB (l.take k)).length ≤ 1624 := by
          have := linesB_length H0.out
          rw [List.length_take] at this
          rw [List.length_append]
          omega
        generalize l.getD k ln0 = x at *
        generalize hd ++ linesB (l.take k) = bk at *
        have Hst : Hid (_ = _) := hst
        have Hse : Hid (_ = _) := hse
        have HAt : Hid (∀ (c : Int), lnsErr 0 (l.take k) = 0 → lnErr 0 x = c → c ≠ 0 → lnsErr 0 l = c) := hAt
        clear hst hse hgc hAt
        obtain ⟨x0, x1, x2⟩ := x
        obtain ⟨c0, c1, c2⟩ := hn
        simp only at c0 c1 c2
        have j0 : (0 : Int) ≤ k := by omega
        have j1 : (k : Int) < l.length := by omega
        obtain ⟨V, hV⟩ : ∃ V, wr.alloc (.cells #[.string x0, .string x1, .int .i64 x2] 62) = V := ⟨_, rfl⟩
        have HbV : Hid (Below w.heap.size w (wr.alloc (.cells #[.string x0, .string x1, .int .i64 x2] 62))) := Bw.alloc Bw.size _
        have HV : Hid (_ = V) := hV
        by_cases q1 : 24 < x0.size ∨ 24 < x1.size
        · have ec : frBad ⟨r, en, pe, l⟩ = 4 := by
            rw [HB0.out]
            refine HAt.out 4 H0.out ?_ (by decide)
            unfold lnErr longB
            simp only
            by_cases q : 24 < x0.size
            · rw [if_pos q]; rfl
            · rcases q1 with q1 | q1
              · exact absurd q1 q
              · rw [if_neg q, if_pos q1]; rfl
          have Hec : Hid (frBad ⟨r, en, pe, l⟩ = 4) := ec
          have hq : (24 : Int) < x0.size ∨ (¬ (24 : Int) < x0.size ∧ (24 : Int) < x1.size) := by omega
          clear q1 ec R hV HV
          rcases hq with q1 | ⟨q1, q2⟩
          all_goals
            go_wp2
            go_ret2
            exact ⟨.inl ⟨by rw [Hec.out]; decide, by rw [Hec.out]; rfl⟩, HbV.out⟩
        · have q1' : ¬ (24 : Int) < x0.size := by omega
          have q2' : ¬ (24 : Int) < x1.size := by omega
          have l0 : longB x0 = 0 := if_neg (by omega)
          have l1 : longB x1 = 0 := if_neg (by omega)
          cases q3 : isAmt x2
          · have ec : frBad ⟨r, en, pe, l⟩ = 1 := by
              rw [HB0.out]
              refine HAt.out 1 H0.out ?_ (by decide)
              unfold lnErr outB
              simp only [l0, l1]
              rw [if_neg (fun hh => by have := isAmt_iff.2 hh; rw [q3] at this; cases this)]
              rfl
            have Hec : Hid (frBad ⟨r, en, pe, l⟩ = 1) := ec
            have hAm := refAmt_any x2 V
            rw [q3] at hAm
            clear q1 ec R l0 l1 hV
            have HAm : Hid (Calls _ _ _ _ _) := hAm
            clear hAm
            rw [HV.out] at HbV
            go_wp2_with fail
            rw [HV.out]
            refine HAm.out.mono ?_
            rintro e w' ⟨rfl, rfl⟩
            clear HAm
            go_wp2
            go_ret2
            exact ⟨.inl ⟨by rw [Hec.out]; decide, by rw [Hec.out]; rfl⟩, HbV.out⟩
          · have hfit := isAmt_iff.1 q3
            unfold mostA at hfit
            have hNx : lnsErr 0 (l.take (k + 1)) = 0 := by
              rw [Hse.out]
              exact lnErr_zero.2 ⟨rfl, by show x0.size ≤ 24; omega, by show x1.size ≤ 24; omega, isAmt_iff.1 q3⟩
            have HNx : Hid (lnsErr 0 (l.take (k + 1)) = 0) := hNx
            have hAm := refAmt_any x2 V
            rw [q3] at hAm
            have HAm : Hid (Calls _ _ _ _ _) := hAm
            have xL : LBox V wr.heap.size x0 x1 x2 := by rw [← hV]; exact new_heap wr _
            have hRV0 := World.ownsRow.alloc R.out (.cells #[.string x0, .string x1, .int .i64 x2] 62)
            rw [hV] at hRV0
            have hRV : ByRow V (w.heap.size + 1) u4 bk := hRV0
            have BV : Below (w.heap.size + 1) W0 V := by rw [← hV]; exact BW.alloc (by omega) _
            have hsV := BV.size
            have t1 := @textB_length x0 (by omega)
            have t2 := @textB_length x1 (by omega)
            have HT1 : Hid (Calls _ _ _ _ _) := refText_any (w.heap.size + 1) _ bk x0 V (by omega) (by omega) (by omega) hRV
            have HRV : Hid (ByRow V (w.heap.size + 1) _ bk) := hRV
            have HxL : Hid (LBox V _ _ _ _) := xL
            have HBV : Hid (Below (w.heap.size + 1) W0 V) := BV
            have a0 := xL.c0
            have a1 := xL.c1
            have a2 := xL.c2
            obtain ⟨cb, hcb⟩ : ∃ cb, wr.heap.size = cb := ⟨_, rfl⟩
            rw [hcb] at a0 a1 a2 HxL
            clear hAm q1 q3 l0 l1 hNx xL hRV hRV0 BV R zk hV
            go_wp2_with fail
            rw [HV.out]
            refine HAm.out.mono ?_
            rintro e w' ⟨rfl, rfl⟩
            clear HAm HbV
            go_wp2_with fail
            refine HT1.out.mono ?_
            rintro e u1 ⟨v1', rfl, y1, K1⟩
            have y1L := HxL.out.kept HRV.out K1
            have B1 : Below (w.heap.size + 1) W0 u1 := HBV.out.trans (K1.below HRV.out.own (by omega))
            have s1 := B1.size
            have HT2 : Hid (Calls _ _ _ _ _) := refText_any (w.heap.size + 1) v1' _ x1 u1 (by omega) (by rw [List.length_append]; omega) (by omega) y1
            have Hy1 : Hid (ByRow u1 _ v1' _) := y1
            have HL1 : Hid (LBox u1 _ _ _ _) := y1L
            have HB1 : Hid (Below (w.heap.size + 1) W0 u1) := B1
            clear a0 a1 a2 HT1 HRV HxL HBV y1 K1 B1
            have a1 := y1L.c1
            clear y1L
            go_wp2_with fail
            refine HT2.out.mono ?_
            rintro e u2 ⟨v2', rfl, y2, K2⟩
            have y2L := HL1.out.kept Hy1.out K2
            have B2 : Below (w.heap.size + 1) W0 u2 := HB1.out.trans (K2.below Hy1.out.own (by omega))
            have s2 := B2.size
            have HT3 : Hid (Calls _ _ _ _ _) := refNum_any (w.heap.size + 1) v2' _ x2 u2 (by omega) (by omega) (by rw [List.length_append, List.length_append]; omega) (by omega) y2
            have Hy2 : Hid (ByRow u2 _ v2' _) := y2
            have HB2 : Hid (Below (w.heap.size + 1) W0 u2) := B2
            clear a1 HT2 Hy1 HL1 HB1 y2 K2 B2
            have a2 := y2L.c2
            clear y2L
            go_wp2_with fail
            refine HT3.out.mono ?_
            rintro e u3 ⟨v3', rfl, y3, K3, _⟩
            have BN : Below (w.heap.size + 1) W0 u3 := HB2.out.trans (K3.below Hy2.out.own (by omega))
            have HY : Hid (ByRow u3 (w.heap.size + 1) v3' (hd ++ linesB (l.take (k + 1)))) := by
              unfold Hid
              rw [Hst.out]
              have : lineB ⟨x0, x1, x2⟩ = textB x0 ++ (textB x1 ++ numB x2) := by simp [lineB]
              rw [this, ← List.append_assoc, ← List.append_assoc]
              exact y3
            clear a2 HT3 Hy2 HB2 y3 K3
            go_wp2
            go_roundw
            case rel => exact ⟨k + 1, by omega, by go_num, HNx, HY, BN⟩
            case measure => simp [RowKit.intOf]; omega
      · have hk2 : k = l.length := by omega
        have R1 := R.out
        have H1 := H0.out
        rw [hk2, List.take_length] at R1 H1
        have hE : frBad ⟨r, en, pe, l⟩ = 0 := by rw [HB0.out, H1]
        rw [← HeW.out] at R1
        obtain ⟨a4, c4, e4, _⟩ := R1.isBy
        subst e4
        have HR : Hid (ByRow wr _ _ (entB ⟨r, en, pe, l⟩)) := R1
        have HE : Hid (frBad ⟨r, en, pe, l⟩ = 0) := hE
        have hkI : ¬ ((k : Int) < l.length) := by omega
        generalize (entB ⟨r, en, pe, l⟩).length = m4 at *
        clear R R1 H0 H1 hE hk2 zk
        go_wp2
        go_ret2
        exact ⟨.inr ⟨HE.out, _, rfl, ByRow.mono (n := w.heap.size + 1) (m := w.heap.size) HR.out (by omega)⟩, Bw⟩
  · have e1 : frBad ⟨r, en, pe, l⟩ = 1 := by
      rw [hB0]
      have : headErr ⟨r, en, pe, l⟩ = 1 := by
        unfold headErr outB
        simp only [hlr]
        by_cases h4 : 0 ≤ en ∧ en ≤ 200
        · have h5 : ¬ (0 ≤ pe ∧ pe ≤ 200) := fun h => h3 ⟨h4, h⟩
          rw [if_pos h4, if_neg h5]; rfl
        · rw [if_neg h4]; rfl
      rw [this]
      exact lnsErr_ne l (by decide)
    rw [e1]
    clear e1 h hB0 hlr
    have hc : en < 0 ∨ (¬ en < 0 ∧ 200 < en) ∨ (¬ en < 0 ∧ ¬ 200 < en ∧ pe < 0) ∨ (¬ en < 0 ∧ ¬ 200 < en ∧ ¬ pe < 0 ∧ 200 < pe) := by omega
    clear h3
    rcases hc with c1 | ⟨c1, c2⟩ | ⟨c1, c2, c3⟩ | ⟨c1, c2, c3, c4⟩
    all_goals
      go_enter Tryz.func8, Tryz.ntmps8
      go_wp2
      go_ret2
      first | exact ⟨.inl ⟨by decide, rfl⟩, b0⟩ | exact ⟨rfl, b0⟩
end Go.Proofs.YtikcidlaamgakaaGreatDoor

namespace Go.Proofs.YtikcidlaamgakaaGreatDoor
set_option linter.unusedVariables false
set_option linter.unusedSimpArgs false
set_option maxRecDepth 100000
open Go.RowKit Go.Lib

/-- What is kept, between two calls. -/
def PkS (w W : World) (p nb sb n : Nat) (E : List En) (L S : Nat) : Prop := ∃ cv D, Tn w W p nb sb cv n D ∧ KpD n D (E.map entB) L S ∧ D.fail < 0 ∧ ∀ e ∈ E, EnFit e
theorem JeRow.keeps {W U : World} {n lo : Nat} {v : Value} {l : List Je} (h : JeRow W n v l) (k : Keeps lo dkT W U) : JeRow U n v l := ownsRow_keep h (fun b cs e _ => (k.row e (by decide)).trans e.symm)
theorem LnRow.keeps {W U : World} {n lo : Nat} {v : Value} {l : List Ln} (h : LnRow W n v l) (k : Keeps lo dkT W U) : LnRow U n v l := ownsRow_keep h (fun b cs e _ => (k.row e (by decide)).trans e.symm)
theorem Made.keeps {W U : World} {n lo : Nat} {v : Value} {l : List Je} (h : Made W n v l) (k : Keeps lo dkT W U) : Made U n v l := ⟨h.row.keeps k, fun x hx => (h.lns x hx).keeps k⟩
section
variable {w W U : World} {p nb sb n L S : Nat} {E : List En}
theorem PkS.below (h : PkS w W p nb sb n E L S) (hb : Below W.heap.size W U) : PkS w U p nb sb n E L S := by
  obtain ⟨cv, D, h1, r⟩ := h
  exact ⟨cv, D, h1.below hb, r⟩
theorem PkS.bel (h : PkS w W p nb sb n E L S) : Below w.heap.size w W := by
  obtain ⟨cv, D, h1, r⟩ := h
  exact h1.2
theorem PkS.num (h : PkS w W p nb sb n E L S) : 150 ≤ n ∧ n ≤ 200 ∧ costL E ≤ (n - 1 - 2) * 60 := by
  obtain ⟨cv, D, h1, h2, _⟩ := h
  refine ⟨h2.n1, h2.n2, ?_⟩
  rw [← encs_map]
  exact h2.room
/-- The room that is left. -/
def roomE (n : Nat) (E : List En) : Nat := (n - 1 - 2) * 60 - costL E
/-- A Save that is refused. -/
theorem PkS.save_no (h : PkS w W p nb sb n E L S) (hS : S < 64000) (a : Option Addr) (c : Nat) (Js : List Je) (hJ : IsJs W a Js c) (h64 : ∀ x ∈ Js, I64 x.ent ∧ I64 x.per ∧ ∀ y ∈ x.lns, I64 y.amt) (hlen : Js.length ≤ 35184372088832) (hc : adE (roomE n E) (E.map entB) (Js.map Je.en) ≠ 0) :
    Calls Tryz.prog 9 #[.pointer (some ⟨p, 0, none⟩), .slice a Js.length c] W fun e w' => e = .returned (enE (adE (roomE n E) (E.map entB) (Js.map Je.en))) ∧ Hid (PkS w w' p nb sb n E L S ∧ Below W.heap.size W w') := by
  obtain ⟨cv, D, h1, h2, h3, h4⟩ := h
  have he : (n - 1 - 2) * 60 - (enc (E.map entB)).length = roomE n E := by unfold roomE; rw [encs_map]
  have := ksave_any h1 h2 hS a c Js hJ h64 hlen (.inr (by rw [he]; exact hc))
  rw [he] at this
  refine this.mono ?_
  rintro e w' (⟨_, rfl, hb⟩ | ⟨h0, _⟩)
  · exact ⟨rfl, ⟨cv, D, h1.below hb.out, h2, h3, h4⟩, hb.out⟩
  · exact absurd h0 hc
/-- A Save that is done. -/
theorem PkS.save_ok (h : PkS w W p nb sb n E L S) (hS : S < 64000) (a : Option Addr) (c : Nat) (Js : List Je) (hJ : IsJs W a Js c) (h64 : ∀ x ∈ Js, I64 x.ent ∧ I64 x.per ∧ ∀ y ∈ x.lns, I64 y.amt) (hlen : Js.length ≤ 35184372088832) (hL : L + 299 * Js.length ≤ 700000) (hc : adE (roomE n E) (E.map entB) (Js.map Je.en) = 0) :
    Calls Tryz.prog 9 #[.pointer (some ⟨p, 0, none⟩), .slice a Js.length c] W fun e w' => e = .returned .nilIface ∧ Hid (PkS w w' p nb sb n (Js.map Je.en) (L + 299 * (Js.length - E.length) + 299) (S + 1) ∧ Keeps w.heap.size dkT W w') := by
  obtain ⟨cv, D, h1, h2, h3, h4⟩ := h
  have he : (n - 1 - 2) * 60 - (enc (E.map entB)).length = roomE n E := by unfold roomE; rw [encs_map]
  have := ksave_any h1 h2 hS a c Js hJ h64 hlen (.inl hL)
  rw [he] at this
  obtain ⟨z1, z2, z3, z4⟩ := adE_zero hc
  refine this.mono ?_
  rintro e w' (⟨h0, _⟩ | ⟨_, hk, (⟨rfl, hh⟩ | ⟨_, hf, _⟩)⟩)
  · exact absurd hc h0
  · obtain ⟨cv', D', q1, q2, q3⟩ := hh.out
    rw [List.length_map] at q2
    exact ⟨rfl, ⟨cv', D', q1, q2, by rw [q3]; exact h3, fun e he => (z2 e he).1⟩, hk.out⟩
  · omega
/-- Load. -/
theorem PkS.load (h : PkS w W p nb sb n E L S) (hS : S < 65000) :
    Calls Tryz.prog 5 #[.pointer (some ⟨p, 0, none⟩)] W fun e w' => ∃ (a : Option Addr) (c : Nat) (Ls : List Je), e = .returned (.tuple #[.slice a Ls.length c, .nilIface]) ∧ Hid (Made w' W.heap.size (.slice a Ls.length c) Ls ∧ Ls.map Je.en = E ∧ Below W.heap.size W w' ∧ PkS w w' p nb sb n E L S) := by
  obtain ⟨cv, D, h1, h2, h3, h4⟩ := h
  refine (kload_any h1 h2 hS E rfl h4).mono ?_
  rintro e w' ⟨a, c, Ls, rfl, hh⟩
  exact ⟨a, c, Ls, rfl, hh.out.1, hh.out.2.1, hh.out.2.2, cv, D, h1.below hh.out.2.2, h2, h3, h4⟩
/-- A new disk, formatted. -/
theorem pkS_format {cv : Value} (h : Tn w W p nb sb cv n (dk0 n)) (h1 : 150 ≤ n) (hn : n ≤ 200) :
    Calls Tryz.prog 7 #[.pointer (some ⟨p, 0, none⟩)] W fun e w' => e = .returned .nilIface ∧ Hid (PkS w w' p nb sb n [] 10 0 ∧ Keeps w.heap.size dkT W w') := by
  refine (kformat_new h h1 hn).mono ?_
  rintro e w' ⟨rfl, ht, hk⟩
  obtain ⟨cv', ht⟩ := ht.out
  exact ⟨rfl, ⟨cv', kfD n, ht, kfD_ok h1 hn, by show (-1 : Int) < 0; decide, fun e he => by simp at he⟩, hk.out⟩
end
theorem entB_four (e : En) : 4 ≤ (entB e).length := by
  have h1 := numB_pos e.ent
  have h2 := numB_pos e.per
  have h3 := numB_pos e.lns.length
  have h4 := numB_pos (e.ref.size : Int)
  simp only [entB, textB, List.length_append]
  omega
theorem costL_six : ∀ es : List En, 6 * es.length ≤ costL es
  | [] => Nat.le_refl _
  | e :: es => by
    have h1 := costL_six es
    have h2 := entB_four e
    unfold costL at *
    simp only [List.map_cons, List.sum_cons, List.length_cons]
    omega
theorem costL_app (A B : List En) : costL (A ++ B) = costL A + costL B := by simp [costL]
theorem adL_c0 {x : En} {A : List En} (h1 : frBad x = 0) (h2 : ¬ 200 < (entB x).length) : adL [] (x :: A) = adL [] A := by
  conv => lhs; unfold adL
  rw [if_neg (by omega), if_neg h2]
theorem adL_c1 {x : En} {A : List En} (h1 : frBad x ≠ 0) : adL [] (x :: A) = frBad x := by
  unfold adL
  rw [if_pos h1]
theorem adL_c2 {x : En} {A : List En} (h1 : frBad x = 0) (h2 : 200 < (entB x).length) : adL [] (x :: A) = 4 := by
  unfold adL
  rw [if_neg (by omega), if_pos h2]
/-- The first error of entries that are all new. -/
theorem adL_snoc : ∀ (A : List En) (e : En), adL [] (A ++ [e]) = if adL [] A ≠ 0 then adL [] A else if frBad e ≠ 0 then frBad e else if 200 < (entB e).length then 4 else 0
  | [], e => by
    rw [List.nil_append, if_neg (show ¬ adL [] [] ≠ 0 from fun h => h rfl)]
    by_cases h1 : frBad e = 0
    · rw [if_neg (by omega)]
      by_cases h2 : 200 < (entB e).length
      · rw [if_pos h2, adL_c2 h1 h2]
      · rw [if_neg h2, adL_c0 h1 h2]; rfl
    · rw [if_pos h1, adL_c1 h1]
  | x :: A, e => by
    have ih := adL_snoc A e
    rw [List.cons_append]
    by_cases h1 : frBad x = 0
    · by_cases h2 : 200 < (entB x).length
      · rw [adL_c2 h1 h2, adL_c2 h1 h2, if_pos (by decide)]
      · rw [adL_c0 h1 h2, adL_c0 h1 h2]
        exact ih
    · rw [adL_c1 h1, adL_c1 h1, if_pos h1]
theorem adL_pre : ∀ (A B : List En), adL [] A ≠ 0 → adL [] (A ++ B) = adL [] A
  | [], B, h => absurd rfl h
  | x :: A, B, h => by
    rw [List.cons_append]
    by_cases h1 : frBad x = 0
    · by_cases h2 : 200 < (entB x).length
      · rw [adL_c2 h1 h2, adL_c2 h1 h2]
      · rw [adL_c0 h1 h2] at h ⊢
        rw [adL_c0 h1 h2]
        exact adL_pre A B h
    · rw [adL_c1 h1, adL_c1 h1]
theorem adL_zapp : ∀ (A B : List En), adL [] A = 0 → adL [] (A ++ B) = adL [] B
  | [], B, _ => rfl
  | x :: A, B, h => by
    rw [List.cons_append]
    by_cases h1 : frBad x = 0
    · by_cases h2 : 200 < (entB x).length
      · rw [adL_c2 h1 h2] at h; exact absurd h (by decide)
      · rw [adL_c0 h1 h2] at h ⊢
        exact adL_zapp A B h
    · rw [adL_c1 h1] at h; exact absurd h h1
/-- Beside what is kept already. -/
theorem adL_old : ∀ (A B : List En), adL [] A = 0 → adL (A.map entB) (A ++ B) = adL [] B
  | [], B, _ => rfl
  | x :: A, B, h => by
    rw [List.cons_append, List.map_cons]
    by_cases h1 : frBad x = 0
    · by_cases h2 : 200 < (entB x).length
      · rw [adL_c2 h1 h2] at h; exact absurd h (by decide)
      · rw [adL_c0 h1 h2] at h
        conv => lhs; unfold adL
        rw [if_neg (by omega), if_neg h2]
        simp only [if_true]
        exact adL_old A B h
    · rw [adL_c1 h1] at h; exact absurd h h1
theorem adL_nil_zero {A : List En} (h : adL [] A = 0) : ∀ e ∈ A, EnFit e ∧ (entB e).length ≤ 200 := (adL_zero [] A (Nat.zero_le _) h).1
theorem je_src {W : World} {b off : Nat} {l : List Je} (h : ∀ k, k < l.length → JeAt W b (off + k * 4) (l.getD k je0)) : ∀ j u, (jeRow l)[j]? = some u → W.cell? ((⟨b, off, none⟩ : Addr).add j) = some u := by
  intro j u hj
  rw [Addr.add_lit]
  obtain ⟨q, r, hr, rfl⟩ : ∃ q r, r < 4 ∧ j = q * 4 + r := ⟨j / 4, j % 4, Nat.mod_lt _ (by omega), by omega⟩
  have hlt := (List.getElem?_eq_some_iff.1 hj).1
  rw [jeRow_length] at hlt
  have hq : q < l.length := by omega
  rw [jeRow_get l q r hq hr] at hj
  have := h q hq
  rcases (by omega : r = 0 ∨ r = 1 ∨ r = 2 ∨ r = 3) with rfl | rfl | rfl | rfl
  · rw [← hj, Nat.add_zero, this.c0]; rfl
  · rw [← hj, ← Nat.add_assoc, this.c1]; rfl
  · rw [← hj, ← Nat.add_assoc, this.c2]; rfl
  · rw [← hj, ← Nat.add_assoc, this.c3]; rfl
theorem jeRow_one_cell (l : List Je) : ∀ u ∈ jeRow l, u.oneCell' = true := by
  intro u hu
  obtain ⟨x, _, hx⟩ := List.mem_flatMap.1 hu
  exact je_one x u hx
theorem run_appJe (ty : TypeId) (base : Nat) (v : Value) (l1 : List Je) (w : World) (hown : JeRow w base v l1) (a : Option Addr) (l2 : List Je) (c : Nat) (h : IsJs w a l2 c) (hlen : l1.length + l2.length ≤ 100000) (hbase : base ≤ w.heap.size) :
    ∃ v' w', (Builtin.append_ #[22, 22] ty #[v, .slice a l2.length c]).run Tryz.prog w = .ok v' w' ∧ JeRow w' base v' (l1 ++ l2) ∧ w.grownBy w' v.ownBlock := by
  obtain ⟨i, hi, hz0, hz1, hz2⟩ := info_parts je_info
  rcases a with _ | ⟨b, off, f⟩
  · have e : l2 = [] := by
      rcases h.lies with h | ⟨b, off, e, _⟩
      · exact h
      · cases e
    subst e
    refine ⟨v, w, ?_, by rw [List.append_nil]; exact hown, ⟨rfl, rfl, rfl, Nat.le_refl _, fun _ _ _ => rfl⟩⟩
    rcases hown.2 with ⟨rfl, hn⟩ | ⟨g, cap, cur, rfl, _, _, hnc, _⟩
    · simp [Builtin.append_, run_underlying Tryz.underlying22, sizeOf, typeInfo, hi, Builtin.lenOf, Builtin.firstCells]
    · simp [Builtin.append_, run_underlying Tryz.underlying22, sizeOf, typeInfo, hi, Builtin.lenOf, Builtin.firstCells, hnc, storeCells]
  · have hn : ∀ j u, (jeRow l2)[j]? = some u → w.cell? ((⟨b, off, f⟩ : Addr).add j) = some u := by
      rcases h.lies with h | ⟨b', off', e, _, hc⟩
      · subst h
        intro j u hu
        simp [jeRow] at hu
      · cases e
        exact je_src hc
    obtain ⟨v', w', hr, h2, h3, _⟩ := run_append_own (P := Tryz.prog) w base 22 ty 34 i (.agg #[.string ByteArray.empty, .int .i64 0, .int .i64 0, .slice none 0 0]) 4 56 Tryz.underlying22 hi hz0 hz1 hz2 rfl (by decide) v l1.length (jeRow l1) hown ⟨b, off, f⟩ l2.length c (jeRow l2) (jeRow_length l2) hn (jeRow_one_cell l2) (by unfold maxLen; omega) (by omega) hbase
    refine ⟨v', w', hr, ?_, h3⟩
    unfold JeRow
    rw [jeRow_append, List.length_append]
    exact h2
theorem wpList_appJe {w : World} {ops : Array Oper} {rest : List Oper} {o : Oper} {a : Act} {Q : Exit → Act → World → Prop} (hgd : o.guard = none) (s x : Operand)
    (ho : o.op = .call { callee := .builtin .append, args := #[s, x], argTypes := #[22, 22] })
    (base : Nat) (v : Value) (l1 : List Je) (hs : a.eval s = v) (hown : JeRow w base v l1) (ad : Option Addr) (m c : Nat) (l2 : List Je) (hx : a.eval x = .slice ad m c) (hm : l2.length = m) (h : IsJs w ad l2 c) (hlen : l1.length + l2.length ≤ 100000) (hbase : base ≤ w.heap.size)
    (hh : ∀ v' w', JeRow w' base v' (l1 ++ l2) → w.grownBy w' v.ownBlock → wpList Tryz.prog ops Q rest (a.put o.dst v') w') : wpList Tryz.prog ops Q (o :: rest) a w := by
  subst hm
  refine wpList_plain hgd fun K hK => ?_
  obtain ⟨v', w', hr, h2, h3⟩ := run_appJe o.type base v l1 w hown ad l2 c h hlen hbase
  unfold Oper.wp execOp
  simp only [ho, resolve, invoke, builtin, Sem.run_bind, Sem.run_pure, Result.andThen_ok, List.map_toArray, List.map_cons, List.map_nil, hs, hx, hr]
  exact hK _ _ (hh v' w' h2 h3)
theorem Made.join {W W1 : World} {n0 : Nat} {v v' : Value} {L M : List Je} (h : Made W n0 v L) (hM : ∀ x ∈ M, LnRow W n0 (.slice x.adr x.lns.length x.cap) x.lns) (ho : JeRow W1 n0 v' (L ++ M)) (hg : W.grownBy W1 v.ownBlock) : Made W1 n0 v' (L ++ M) := by
  have keep : ∀ y : Je, LnRow W n0 (.slice y.adr y.lns.length y.cap) y.lns → LnRow W1 n0 (.slice y.adr y.lns.length y.cap) y.lns := fun y hy => by
    rcases hy.2 with ⟨hv, hn⟩ | ⟨g1, c1, cur, hv, hb1, hh, r⟩
    · exact ⟨hy.1, .inl ⟨hv, hn⟩⟩
    · refine ⟨hy.1, .inr ⟨g1, c1, cur, hv, hb1, (hg.block g1 (Array.getElem?_eq_some_iff.1 hh).1 fun e => ?_).trans hh, r⟩⟩
      obtain ⟨cs, h2⟩ := made_typ h.row g1 e.symm
      rw [hh] at h2
      cases h2
  refine ⟨ho, fun y hy => ?_⟩
  rcases List.mem_append.1 hy with hy | hy
  · exact keep y (h.lns y hy)
  · exact keep y (hM y hy)

/-- A small number. -/
def Sm (n : Int) : Prop := 0 ≤ n ∧ n ≤ 9
theorem Sm.fo {a b : Int} (h1 : Sm a) (h2 : Sm b) : Sm (fo a b) := by unfold Go.Proofs.YtikcidlaamgakaaGreatDoor.fo; split <;> assumption
theorem sm_long (s : ByteArray) : Sm (longB s) := by unfold longB Sm; split <;> omega
theorem sm_out (lo hi n : Int) : Sm (outB lo hi n) := by unfold outB Sm; split <;> omega
theorem sm_lns : ∀ (l : List Ln) (err : Int), Sm err → Sm (lnsErr err l)
  | [], _, h => h
  | x :: l, err, h => sm_lns l _ (((h.fo (sm_long _)).fo (sm_long _)).fo (sm_out _ _ _))
theorem sm_ent (e : En) : Sm (frBad e) := by
  unfold frBad
  split
  · exact ⟨by decide, by decide⟩
  · exact sm_lns _ _ (((sm_long _).fo (sm_out _ _ _)).fo (sm_out _ _ _))
theorem sm_errIs {n : Int} (h : Sm n) : ErrIs (enE n) n := by
  by_cases h0 : n = 0
  · subst h0; exact .inl ⟨rfl, rfl⟩
  · rw [enE_ne h0]; exact .inr ⟨rfl, by have := h.1; omega, by have := h.2; omega⟩
theorem sm_adL : ∀ (old : List (List UInt8)) (E : List En), Sm (adL old E)
  | _, [] => by unfold adL; exact ⟨by decide, by decide⟩
  | old, e :: es => by
    unfold adL
    split
    · exact sm_ent e
    · split
      · exact ⟨by decide, by decide⟩
      · cases old with
        | nil => exact sm_adL [] es
        | cons o os =>
          simp only
          split
          · exact sm_adL os es
          · exact ⟨by decide, by decide⟩
/-- What is written of an entry, if anything. -/
def entL (e : En) : List UInt8 := if frBad e = 0 then entB e else []
theorem refEntry_u (r : ByteArray) (en pe : Int) (a : Option Addr) (cap : Nat) (l : List Ln) (w : World) (hen : I64 en) (hpe : I64 pe) (h : IsLn w a l cap) :
    Calls Tryz.prog 8 #[.agg #[.string r, .int .i64 en, .int .i64 pe, .slice a l.length cap]] w fun e w' =>
      ∃ a' c', e = .returned (.tuple #[.slice a' (entL ⟨r, en, pe, l⟩).length c', .int .i64 (frBad ⟨r, en, pe, l⟩)]) ∧ IsBy w' a' (entL ⟨r, en, pe, l⟩) c' ∧ Below w.heap.size w w' := by
  refine (refEntry_any r en pe a cap l w hen hpe h).mono ?_
  rintro e w' ⟨⟨hb, rfl⟩ | ⟨hb, v, rfl, hr⟩, bl⟩
  · have : entL ⟨r, en, pe, l⟩ = [] := if_neg hb
    rw [this]
    exact ⟨none, 0, rfl, isBy_nil _ _ _, bl⟩
  · have : entL ⟨r, en, pe, l⟩ = entB ⟨r, en, pe, l⟩ := if_pos hb
    rw [this, hb]
    obtain ⟨a', c', rfl, hby⟩ := hr.isBy
    exact ⟨a', c', rfl, hby, bl⟩
end Go.Proofs.YtikcidlaamgakaaGreatDoor
