/-
  The contracts of the writer's number, fail, within, small, amount, text, all.
-/
import Derived.Test.YtcmndenlnjefeaaDoorFrL
namespace Go.Proofs.YtcmndenlnjefeaaDoor
set_option linter.unusedVariables false
set_option linter.unusedSimpArgs false
set_option maxRecDepth 100000
open Go.RowKit Go.Lib

/-- A box of two cells. -/
def WBox (W : World) (b : Nat) (v e : Value) : Prop := W.heap[b]? = some (.cells #[v, e] 44 (0, 0))
theorem WBox.c0 {W : World} {b : Nat} {v e : Value} (h : WBox W b v e) : W.cell? ⟨b, 0, none⟩ = some v := by unfold WBox at h; simp [World.cell?, h]
theorem WBox.c1 {W : World} {b : Nat} {v e : Value} (h : WBox W b v e) : W.cell? ⟨b, 1, none⟩ = some e := by unfold WBox at h; simp [World.cell?, h]
theorem WBox.fz {W : World} {b : Nat} {v e : Value} (h : WBox W b v e) (o : Nat) : W.frozen? ⟨b, o, none⟩ = false := by unfold WBox at h; simp [World.frozen?, h]
theorem WBox.lt {W : World} {b : Nat} {v e : Value} (h : WBox W b v e) : b < W.heap.size := (Array.getElem?_eq_some_iff.1 h).1
theorem WBox.below {W W' : World} {b n : Nat} {v e : Value} (h : WBox W b v e) (hb : Below n W W') (hn : b < n) : WBox W' b v e := (hb.block b hn).trans h
theorem WBox.new (W : World) (v e : Value) : WBox (W.alloc (.cells #[v, e] 44)) W.heap.size v e := new_heap W _
theorem WBox.alloc {W : World} {b : Nat} {v e : Value} (h : WBox W b v e) (o : Obj) : WBox (W.alloc o) b v e := ((World.grownBy_alloc W o none).block b h.lt (by simp)).trans h
theorem WBox.grow {W W' : World} {b : Nat} {row : Option Nat} {v e : Value} (h : WBox W b v e) (hg : W.grownBy W' row) (hr : ∀ j, row = some j → b < j) : WBox W' b v e :=
  (hg.block b h.lt (fun e => by have := hr b e.symm; omega)).trans h
theorem WBox.set0 {W : World} {b : Nat} {v e : Value} (h : WBox W b v e) (v' : Value) : WBox (W.setCell ⟨b, 0, none⟩ v') b v' e := by
  unfold WBox at *
  rw [setCell_eq_setRow W b 0 _ 44 (0, 0) _ h, setRow_heap W b _ _ 44 (0, 0) h]
  rfl
theorem WBox.set1 {W : World} {b : Nat} {v e : Value} (h : WBox W b v e) (e' : Value) : WBox (W.setCell ⟨b, 1, none⟩ e') b v e' := by
  unfold WBox at *
  rw [setCell_eq_setRow W b 1 _ 44 (0, 0) _ h, setRow_heap W b _ _ 44 (0, 0) h]
  rfl

/-- A writer: what it has written, and what is wrong. -/
def WrAt (W : World) (b : Nat) (bs : List UInt8) (err : Int) : Prop := ∃ v, WBox W b v (enE err) ∧ ByRow W (b + 1) v bs


set_option maxHeartbeats 2000000 in
theorem wnumber_any (b : Nat) (bs : List UInt8) (err n : Int) (w : World) (h1 : -9223372036854775808 ≤ n) (h2 : n ≤ 9223372036854775807) (hl : bs.length ≤ 1099511627776) (h : WrAt w b bs err) :
    Calls Tryd.prog 14 #[.pointer (some ⟨b, 0, none⟩), .int .i64 n] w fun e w' => e = .returned (.tuple #[]) ∧ WrAt w' b (bs ++ numB n) err ∧ Below b w w' := by
  have hz := zig_lt h1 h2
  have hlen := numB_length h1 h2
  have Hall : Hid ((bs ++ numB n).length ≤ 1099511627786) := by unfold Hid; rw [List.length_append]; omega
  obtain ⟨all, hall⟩ : ∃ all, bs ++ numB n = all := ⟨_, rfl⟩
  have Hstart : Hid (bs ++ encU (zig n) = all) := hall
  rw [hall] at Hall ⊢
  have Hw : Hid (WrAt w b bs err) := h
  clear hall hlen hl h
  obtain ⟨i0, hi, hz0, hz1, hz2⟩ := info_parts by_info
  by_cases hn : n < 0
  · have ez : ((zig n : Nat) : Int) = -2 * n - 1 := by unfold zig; rw [if_pos hn]; omega
    generalize zig n = u at *
    have hw1 : IntKind.u64.wrap (IntKind.u64.wrap (-IntKind.u64.wrap (2 * IntKind.u64.wrap n)) - 1) = u := by
      simp only [IntKind.wrap, IntKind.bits, IntKind.signed]
      simp
      omega
    clear ez
    go_enter Tryd.func14, Tryd.ntmps14
    go_wp2
    go_loopw [4] (fun i wr => ∃ k : Nat, k < 18446744073709551616 ∧ i = .int .u64 k ∧ (∃ bs', Hid (bs' ++ encU k = all) ∧ Hid (WrAt wr b bs' err)) ∧ Below b w wr) (fun i _ => (intOf i).toNat)
    case atStart => exact ⟨u, hz, rfl, ⟨bs, Hstart, Hw⟩, Below.refl _ _⟩
    case round =>
      obtain ⟨k, hk, rfl, ⟨bs', E, R⟩, BW⟩ := hrel
      obtain ⟨v, x, r⟩ := R.out
      have hxlt := x.lt
      have c0 := x.c0
      have hk' : (k : Int) < 18446744073709551616 := by omega
      have hblen : bs'.length + 1 ≤ 1099511627786 := by
        have := Hall.out
        rw [← E.out, List.length_append] at this
        have := encU_pos k
        omega
      have Hm1 : Hid (bs'.length + 1 ≤ maxLen) := by unfold Hid maxLen; omega
      have Hm2 : Hid ((bs'.length + 1) * 1 ≤ 140737488355328) := by unfold Hid; omega
      have hoj := r.own
      by_cases hlt : 128 ≤ k
      · have hlt' : (128 : Int) ≤ k := by omega
        have hX : (k : Int) % 128 + 128 = ((UInt8.ofNat (k % 128 + 128)).toNat : Int) := by simp; omega
        have Hx : Hid (WBox wr b v (enE err)) := x
        have Hr : Hid (ByRow wr (b + 1) v bs') := r
        have HX : Hid (_ = _) := hX
        clear R x r hX hblen
        go_wp2_with (at_builtin; refine wpList_append_own _ rfl _ _ 26 rfl (b + 1) 5 i0 (.int .u8 0) 1 1 Tryd.underlying26 hi hz0 hz1 hz2 rfl (by decide) _ _ _ rfl (World.ownsRow.alloc Hr.out _) ⟨wr.heap.size, 0, none⟩ 1 1 [.int .u8 ((k : Int) % 128 + 128)] rfl rfl (cell_one_new _ _ _) (by simp [Value.oneCell']) Hm1.out Hm2.out (by simp; omega) ?_)
        intro v' w3 hown hgrow _
        have x3 := (Hx.out.alloc (.cells #[.int .u8 ((k : Int) % 128 + 128)] 5)).grow hgrow (fun j e => by have := hoj j e; omega)
        have B3 : Below b w w3 := (BW.alloc (by omega) (.cells #[.int .u8 ((k : Int) % 128 + 128)] 5)).grown hgrow (by simp; omega) (fun j e => by have := hoj j e; omega)
        have d0 := x3.c0
        have f0 := x3.fz 0
        have x4 := x3.set0 v'
        have B4 := B3.setCell (p := ⟨b, 0, none⟩) (Nat.le_refl b) v'
        have R4 : ByRow (w3.setCell ⟨b, 0, none⟩ v') (b + 1) v' (bs' ++ [UInt8.ofNat (k % 128 + 128)]) := by
          refine ByRow.setOther ?_ (Nat.lt_succ_self b)
          unfold ByRow
          rw [byC_append, List.length_append]
          have e1 : byC [UInt8.ofNat (k % 128 + 128)] = [.int .u8 ((k : Int) % 128 + 128)] := by rw [HX.out]; rfl
          rw [e1]
          exact hown
        have E4 : (bs' ++ [UInt8.ofNat (k % 128 + 128)]) ++ encU (k / 128) = all := by
          rw [← E.out, encU_ge hlt]; simp
        have HE4 : Hid (_ = all) := E4
        have HW4 : Hid (WrAt (w3.setCell ⟨b, 0, none⟩ v') b (bs' ++ [UInt8.ofNat (k % 128 + 128)]) err) := ⟨v', x4, R4⟩
        obtain ⟨a4, c4, e4, _⟩ := R4.isBy
        subst e4
        generalize (bs' ++ [UInt8.ofNat (k % 128 + 128)]).length = m4 at *
        clear hown hgrow Hx Hr E E4 R4 x4 x3 B3 HX
        go_wp2
        go_roundw
        case rel => exact ⟨k / 128, by omega, by go_num, ⟨_, HE4, HW4⟩, B4⟩
        case measure => simp [intOf]; omega
      · have hlt' : ¬ (128 : Int) ≤ k := by omega
        have hX : (k : Int) = ((UInt8.ofNat k).toNat : Int) := by simp; omega
        have Hx : Hid (WBox wr b v (enE err)) := x
        have Hr : Hid (ByRow wr (b + 1) v bs') := r
        have HX : Hid (_ = _) := hX
        clear R x r hX hblen
        go_wp2_with (at_builtin; refine wpList_append_own _ rfl _ _ 26 rfl (b + 1) 5 i0 (.int .u8 0) 1 1 Tryd.underlying26 hi hz0 hz1 hz2 rfl (by decide) _ _ _ rfl (World.ownsRow.alloc Hr.out _) ⟨wr.heap.size, 0, none⟩ 1 1 [.int .u8 (k : Int)] rfl rfl (cell_one_new _ _ _) (by simp [Value.oneCell']) Hm1.out Hm2.out (by simp; omega) ?_)
        intro v' w3 hown hgrow _
        have x3 := (Hx.out.alloc (.cells #[.int .u8 (k : Int)] 5)).grow hgrow (fun j e => by have := hoj j e; omega)
        have B3 : Below b w w3 := (BW.alloc (by omega) (.cells #[.int .u8 (k : Int)] 5)).grown hgrow (by simp; omega) (fun j e => by have := hoj j e; omega)
        have d0 := x3.c0
        have f0 := x3.fz 0
        have x4 := x3.set0 v'
        have B4 := B3.setCell (p := ⟨b, 0, none⟩) (Nat.le_refl b) v'
        have R4 : ByRow (w3.setCell ⟨b, 0, none⟩ v') (b + 1) v' all := by
          refine ByRow.setOther ?_ (Nat.lt_succ_self b)
          rw [← E.out, encU_lt (by omega)]
          unfold ByRow
          rw [byC_append, List.length_append]
          have e1 : byC [UInt8.ofNat k] = [.int .u8 (k : Int)] := by rw [HX.out]; rfl
          rw [e1]
          exact hown
        have HW4 : Hid (WrAt (w3.setCell ⟨b, 0, none⟩ v') b all err) := ⟨v', x4, R4⟩
        obtain ⟨a4, c4, e4, _⟩ := R4.isBy
        subst e4
        generalize all.length = m4 at *
        clear hown hgrow Hx Hr E R4 x4 x3 B3 HX
        go_wp2
        go_end0
        exact ⟨rfl, HW4.out, B4⟩
  · have ez : ((zig n : Nat) : Int) = 2 * n := by unfold zig; rw [if_neg hn]; omega
    generalize zig n = u at *
    have ez2 : 2 * n = (u : Int) := ez.symm
    clear ez
    go_enter Tryd.func14, Tryd.ntmps14
    go_wp2
    go_loopw [4] (fun i wr => ∃ k : Nat, k < 18446744073709551616 ∧ i = .int .u64 k ∧ (∃ bs', Hid (bs' ++ encU k = all) ∧ Hid (WrAt wr b bs' err)) ∧ Below b w wr) (fun i _ => (intOf i).toNat)
    case atStart => exact ⟨u, hz, rfl, ⟨bs, Hstart, Hw⟩, Below.refl _ _⟩
    case round =>
      obtain ⟨k, hk, rfl, ⟨bs', E, R⟩, BW⟩ := hrel
      obtain ⟨v, x, r⟩ := R.out
      have hxlt := x.lt
      have c0 := x.c0
      have hk' : (k : Int) < 18446744073709551616 := by omega
      have hblen : bs'.length + 1 ≤ 1099511627786 := by
        have := Hall.out
        rw [← E.out, List.length_append] at this
        have := encU_pos k
        omega
      have Hm1 : Hid (bs'.length + 1 ≤ maxLen) := by unfold Hid maxLen; omega
      have Hm2 : Hid ((bs'.length + 1) * 1 ≤ 140737488355328) := by unfold Hid; omega
      have hoj := r.own
      by_cases hlt : 128 ≤ k
      · have hlt' : (128 : Int) ≤ k := by omega
        have hX : (k : Int) % 128 + 128 = ((UInt8.ofNat (k % 128 + 128)).toNat : Int) := by simp; omega
        have Hx : Hid (WBox wr b v (enE err)) := x
        have Hr : Hid (ByRow wr (b + 1) v bs') := r
        have HX : Hid (_ = _) := hX
        clear R x r hX hblen
        go_wp2_with (at_builtin; refine wpList_append_own _ rfl _ _ 26 rfl (b + 1) 5 i0 (.int .u8 0) 1 1 Tryd.underlying26 hi hz0 hz1 hz2 rfl (by decide) _ _ _ rfl (World.ownsRow.alloc Hr.out _) ⟨wr.heap.size, 0, none⟩ 1 1 [.int .u8 ((k : Int) % 128 + 128)] rfl rfl (cell_one_new _ _ _) (by simp [Value.oneCell']) Hm1.out Hm2.out (by simp; omega) ?_)
        intro v' w3 hown hgrow _
        have x3 := (Hx.out.alloc (.cells #[.int .u8 ((k : Int) % 128 + 128)] 5)).grow hgrow (fun j e => by have := hoj j e; omega)
        have B3 : Below b w w3 := (BW.alloc (by omega) (.cells #[.int .u8 ((k : Int) % 128 + 128)] 5)).grown hgrow (by simp; omega) (fun j e => by have := hoj j e; omega)
        have d0 := x3.c0
        have f0 := x3.fz 0
        have x4 := x3.set0 v'
        have B4 := B3.setCell (p := ⟨b, 0, none⟩) (Nat.le_refl b) v'
        have R4 : ByRow (w3.setCell ⟨b, 0, none⟩ v') (b + 1) v' (bs' ++ [UInt8.ofNat (k % 128 + 128)]) := by
          refine ByRow.setOther ?_ (Nat.lt_succ_self b)
          unfold ByRow
          rw [byC_append, List.length_append]
          have e1 : byC [UInt8.ofNat (k % 128 + 128)] = [.int .u8 ((k : Int) % 128 + 128)] := by rw [HX.out]; rfl
          rw [e1]
          exact hown
        have E4 : (bs' ++ [UInt8.ofNat (k % 128 + 128)]) ++ encU (k / 128) = all := by
          rw [← E.out, encU_ge hlt]; simp
        have HE4 : Hid (_ = all) := E4
        have HW4 : Hid (WrAt (w3.setCell ⟨b, 0, none⟩ v') b (bs' ++ [UInt8.ofNat (k % 128 + 128)]) err) := ⟨v', x4, R4⟩
        obtain ⟨a4, c4, e4, _⟩ := R4.isBy
        subst e4
        generalize (bs' ++ [UInt8.ofNat (k % 128 + 128)]).length = m4 at *
        clear hown hgrow Hx Hr E E4 R4 x4 x3 B3 HX
        go_wp2
        go_roundw
        case rel => exact ⟨k / 128, by omega, by go_num, ⟨_, HE4, HW4⟩, B4⟩
        case measure => simp [intOf]; omega
      · have hlt' : ¬ (128 : Int) ≤ k := by omega
        have hX : (k : Int) = ((UInt8.ofNat k).toNat : Int) := by simp; omega
        have Hx : Hid (WBox wr b v (enE err)) := x
        have Hr : Hid (ByRow wr (b + 1) v bs') := r
        have HX : Hid (_ = _) := hX
        clear R x r hX hblen
        go_wp2_with (at_builtin; refine wpList_append_own _ rfl _ _ 26 rfl (b + 1) 5 i0 (.int .u8 0) 1 1 Tryd.underlying26 hi hz0 hz1 hz2 rfl (by decide) _ _ _ rfl (World.ownsRow.alloc Hr.out _) ⟨wr.heap.size, 0, none⟩ 1 1 [.int .u8 (k : Int)] rfl rfl (cell_one_new _ _ _) (by simp [Value.oneCell']) Hm1.out Hm2.out (by simp; omega) ?_)
        intro v' w3 hown hgrow _
        have x3 := (Hx.out.alloc (.cells #[.int .u8 (k : Int)] 5)).grow hgrow (fun j e => by have := hoj j e; omega)
        have B3 : Below b w w3 := (BW.alloc (by omega) (.cells #[.int .u8 (k : Int)] 5)).grown hgrow (by simp; omega) (fun j e => by have := hoj j e; omega)
        have d0 := x3.c0
        have f0 := x3.fz 0
        have x4 := x3.set0 v'
        have B4 := B3.setCell (p := ⟨b, 0, none⟩) (Nat.le_refl b) v'
        have R4 : ByRow (w3.setCell ⟨b, 0, none⟩ v') (b + 1) v' all := by
          refine ByRow.setOther ?_ (Nat.lt_succ_self b)
          rw [← E.out, encU_lt (by omega)]
          unfold ByRow
          rw [byC_append, List.length_append]
          have e1 : byC [UInt8.ofNat k] = [.int .u8 (k : Int)] := by rw [HX.out]; rfl
          rw [e1]
          exact hown
        have HW4 : Hid (WrAt (w3.setCell ⟨b, 0, none⟩ v') b all err) := ⟨v', x4, R4⟩
        obtain ⟨a4, c4, e4, _⟩ := R4.isBy
        subst e4
        generalize all.length = m4 at *
        clear hown hgrow Hx Hr E R4 x4 x3 B3 HX
        go_wp2
        go_end0
        exact ⟨rfl, HW4.out, B4⟩
end Go.Proofs.YtcmndenlnjefeaaDoor
