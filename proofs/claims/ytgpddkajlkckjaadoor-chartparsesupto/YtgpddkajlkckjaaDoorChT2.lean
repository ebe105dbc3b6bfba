/-
  The contracts of dayref1.Print and chart.Print.
-/
import Derived.Test.YtgpddkajlkckjaaDoorChT1
import Derived.Test.YtgpddkajlkckjaaDoorChM0
import Derived.RangeFuncBox
namespace Go.Proofs.YtgpddkajlkckjaaDoor
set_option linter.unusedVariables false
set_option linter.unusedSimpArgs false
set_option maxRecDepth 100000
open Go.RowKit

/-- The text of the first so many accounts. -/
def chTxt (l : List Ac) (k : Nat) : List UInt8 := ((l.take k).map lineL).flatten
theorem chTxt_succ (l : List Ac) (k : Nat) (h : k < l.length) : chTxt l (k + 1) = chTxt l k ++ lineL (l.getD k ac0) := by
  unfold chTxt
  have e2 : l.take (k + 1) = l.take k ++ [l.getD k ac0] := by
    rw [List.take_succ_eq_append_getElem h, List.getD_eq_getElem?_getD, List.getElem?_eq_getElem h]; rfl
  rw [e2, List.map_append, List.flatten_append]
  simp

/-- What is asked of an account that is written. -/
def AcFit (a : Ac) : Prop := a.code.size ≤ 6 ∧ a.name.size ≤ 24 ∧ a.par.size ≤ 6 ∧ 1 ≤ a.kind ∧ a.kind ≤ 5

theorem fit_at {l : List Ac} (h : chBad l = 0) {k : Nat} (hk : k < l.length) : AcFit (l.getD k ac0) := by
  obtain ⟨h1, h2, h3, h4, _, _⟩ := nextBad_zero (chBad_next h k hk)
  refine ⟨((madeOf_iff (fun r => digR_low)).1 h1).2.1, ((madeOf_iff (fun r => namR_low)).1 h2).2.1, ?_, h3, h4⟩
  cases hp : parOf l k with
  | none => rw [parOf_none.1 hp]; omega
  | some j =>
    obtain ⟨q1, q2, _⟩ := parOf_some h hk hp
    rw [← q2]
    obtain ⟨g1, _⟩ := nextBad_zero (chBad_next h j (by omega))
    exact ((madeOf_iff (fun r => digR_low)).1 g1).2.1

theorem chTxt_len {l : List Ac} (h : chBad l = 0) : ∀ k, k ≤ l.length → (chTxt l k).length ≤ 43 * k
  | 0, _ => by simp [chTxt]
  | k + 1, hk => by
    have ih := chTxt_len h k (by omega)
    obtain ⟨f1, f2, f3, _⟩ := fit_at h (show k < l.length by omega)
    have := line_len f1 f2 f3
    rw [chTxt_succ l k (by omega), List.length_append]
    omega

theorem run_app (a b : List UInt8) (h : a.length + b.length ≤ 100000) (W : World) : (Op.stringOp .add (txt a) (txt b)).run Tryd.prog W = .ok (.string (txt (a ++ b))) W := by
  rw [run_string_add_sum W (txt a) (txt b) (by rw [txt_size, txt_size]; omega), txt_app]

/-- The sums by which a line is put behind a text. -/
theorem line_adds (S : List UInt8) (a : Ac) (hS : S.length ≤ 10000) (hf : AcFit a) :
    ∃ s1 s2 s3 s4 s5 s6 s7 s8 s9 : ByteArray, (∀ W, (Op.stringOp .add (txt S) a.code).run Tryd.prog W = .ok (.string s1) W) ∧ (∀ W, (Op.stringOp .add s1 ⟨#[32]⟩).run Tryd.prog W = .ok (.string s2) W) ∧
      (∀ W, (Op.stringOp .add s2 a.name).run Tryd.prog W = .ok (.string s3) W) ∧ (∀ W, (Op.stringOp .add s3 ⟨#[32]⟩).run Tryd.prog W = .ok (.string s4) W) ∧
      (∀ W, (Op.stringOp .add s4 (kindB a.kind)).run Tryd.prog W = .ok (.string s5) W) ∧ (∀ W, (Op.stringOp .add s5 ⟨#[32]⟩).run Tryd.prog W = .ok (.string s6) W) ∧
      (∀ W, (Op.stringOp .add s6 (monB a.mon)).run Tryd.prog W = .ok (.string s7) W) ∧ (∀ W, (Op.stringOp .add s7 ⟨#[32]⟩).run Tryd.prog W = .ok (.string s8) W) ∧
      (∀ W, (Op.stringOp .add s8 (parB a.par)).run Tryd.prog W = .ok (.string s9) W) ∧ ∀ W, (Op.stringOp .add s9 ⟨#[10]⟩).run Tryd.prog W = .ok (.string (txt (S ++ lineL a))) W := by
  obtain ⟨f1, f2, f3, _⟩ := hf
  have l1 : a.code.data.toList.length ≤ 6 := f1
  have l2 : a.name.data.toList.length ≤ 24 := f2
  have l3 := parB_size f3
  have l4 := kindB_size a.kind
  have l5 := monB_size a.mon
  have e32 : (⟨#[32]⟩ : ByteArray) = txt [32] := rfl
  have e10 : (⟨#[10]⟩ : ByteArray) = txt [10] := rfl
  rw [e32, e10]
  have c1 : a.code = txt a.code.data.toList := rfl
  have c2 : a.name = txt a.name.data.toList := rfl
  have c3 : kindB a.kind = txt (kindB a.kind).data.toList := rfl
  have c4 : monB a.mon = txt (monB a.mon).data.toList := rfl
  have c5 : parB a.par = txt (parB a.par).data.toList := rfl
  refine ⟨txt (S ++ a.code.data.toList), txt (S ++ a.code.data.toList ++ [32]), txt (S ++ a.code.data.toList ++ [32] ++ a.name.data.toList), txt (S ++ a.code.data.toList ++ [32] ++ a.name.data.toList ++ [32]),
    txt (S ++ a.code.data.toList ++ [32] ++ a.name.data.toList ++ [32] ++ (kindB a.kind).data.toList), txt (S ++ a.code.data.toList ++ [32] ++ a.name.data.toList ++ [32] ++ (kindB a.kind).data.toList ++ [32]),
    txt (S ++ a.code.data.toList ++ [32] ++ a.name.data.toList ++ [32] ++ (kindB a.kind).data.toList ++ [32] ++ (monB a.mon).data.toList), txt (S ++ a.code.data.toList ++ [32] ++ a.name.data.toList ++ [32] ++ (kindB a.kind).data.toList ++ [32] ++ (monB a.mon).data.toList ++ [32]),
    txt (S ++ a.code.data.toList ++ [32] ++ a.name.data.toList ++ [32] ++ (kindB a.kind).data.toList ++ [32] ++ (monB a.mon).data.toList ++ [32] ++ (parB a.par).data.toList), ?_, ?_, ?_, ?_, ?_, ?_, ?_, ?_, ?_, ?_⟩
  · exact run_app _ a.code.data.toList (by omega)
  · exact run_app _ [32] (by simp only [List.length_append, List.length_cons, List.length_nil]; omega)
  · exact run_app _ a.name.data.toList (by simp only [List.length_append, List.length_cons, List.length_nil]; omega)
  · exact run_app _ [32] (by simp only [List.length_append, List.length_cons, List.length_nil]; omega)
  · exact run_app _ (kindB a.kind).data.toList (by simp only [List.length_append, List.length_cons, List.length_nil]; omega)
  · exact run_app _ [32] (by simp only [List.length_append, List.length_cons, List.length_nil]; omega)
  · exact run_app _ (monB a.mon).data.toList (by simp only [List.length_append, List.length_cons, List.length_nil]; omega)
  · exact run_app _ [32] (by simp only [List.length_append, List.length_cons, List.length_nil]; omega)
  · exact run_app _ (parB a.par).data.toList (by simp only [List.length_append, List.length_cons, List.length_nil]; omega)
  · intro W
    have := run_app (S ++ a.code.data.toList ++ [32] ++ a.name.data.toList ++ [32] ++ (kindB a.kind).data.toList ++ [32] ++ (monB a.mon).data.toList ++ [32] ++ (parB a.par).data.toList) [10] (by simp only [List.length_append, List.length_cons, List.length_nil]; omega) W
    rw [this, line_eq]
    simp

theorem write_any (B b : Nat) (bs : List Value) (s : ByteArray) (w : World) (h : Lib.IsBuilder 52 5 B b bs w) (hlen : bs.length + s.size ≤ 140737488355328) (hBw : B ≤ w.heap.size) :
    Calls Tryd.prog 17 #[.pointer (some ⟨b, 0, none⟩), .string s] w fun e w' => e = .returned (.tuple #[.int .i64 s.size, .nilIface]) ∧ (Lib.BuilderAt 52 5 B b (.pointer (some ⟨b, 0, none⟩)) (bs ++ Lib.strCells s) w' ∧ Below B w w') :=
  Any.Builder_WriteString { lays156 with } lays_Extra_156 B b bs s w h hlen hBw

theorem builder_keep {T e : TypeId} {B b : Nat} {bs : List Value} {w w' : World} (h : Lib.IsBuilder T e B b bs w) (hb : Below w.heap.size w w') : Lib.IsBuilder T e B b bs w' := by
  have one : ∀ p, Lib.BuilderAt T e B b p bs w → Lib.BuilderAt T e B b p bs w' := fun p hp => by
    obtain ⟨h1, v, h2, h3, h4⟩ := hp
    refine ⟨h1, v, (hb.block b (Array.getElem?_eq_some_iff.1 h2).1).trans h2, ?_, h4⟩
    rcases h3.2 with ⟨hv, hn⟩ | ⟨g1, c1, cur, hv, hb1, hh, r⟩
    · exact ⟨h3.1, .inl ⟨hv, hn⟩⟩
    · exact ⟨h3.1, .inr ⟨g1, c1, cur, hv, hb1, (hb.block g1 (Array.getElem?_eq_some_iff.1 hh).1).trans hh, r⟩⟩
  rcases h with h | h
  · exact .inl (one _ h)
  · exact .inr (one _ h)

theorem builder_new (w : World) (T e : TypeId) : Lib.IsBuilder T e w.heap.size w.heap.size [] (w.alloc (.cells #[.pointer none, .slice none 0 0] T)) :=
  .inl ⟨Nat.le_refl _, .slice none 0 0, World.alloc_heap_new w _, World.ownsRow_nil _ _ _ _, by simp [Value.ownBlock]⟩

theorem cells_app (a b : List UInt8) : Lib.byteCells (a ++ b) = Lib.byteCells a ++ Lib.strCells (txt b) := by
  simp [Lib.byteCells, Lib.strCells, txt]

theorem print_bad (a : Option Addr) (cap : Nat) (l : List Ac) (w : World) (h : IsSl w a l cap) (h0 : chBad l ≠ 0) :
    Calls Tryd.prog 9 #[.slice a l.length cap] w fun e w' => e = .returned (.tuple #[.string (txt []), chE (chBad l)]) ∧ Below w.heap.size w w' := by
  have HC := chCheck_any a cap l w h
  rw [chE_ne h0] at HC ⊢
  clear h h0
  generalize chBad l = bad at *
  go_enter Tryd.func9, Tryd.ntmps9
  go_wp2_with fail
  refine HC.mono ?_
  rintro e w1 ⟨rfl, hb1⟩
  go_wp2
  go_ret2
  exact ⟨rfl, hb1⟩

theorem print_none (a : Option Addr) (cap : Nat) (w : World) :
    Calls Tryd.prog 9 #[.slice a 0 cap] w fun e w' => e = .returned (.tuple #[.string (txt []), .nilIface]) ∧ Below w.heap.size w w' := by
  have HC := chCheck_none a cap w
  rw [chE_zero] at HC
  go_enter Tryd.func9, Tryd.ntmps9
  go_wp2_with fail
  refine HC.mono ?_
  rintro e w1 ⟨rfl, hb1⟩
  have hS := shelf_Builder_String_any w1.heap.size w1.heap.size [] (w1.alloc (.cells #[.pointer none, .slice none 0 0] 52)) (builder_new w1 _ _) (by simp)
  have HS : Hid (Calls _ _ _ _ _) := hS
  clear hS
  go_wp2
  refine wp_loop_rounds 1 ?_
  rw [rounds_succ]
  go_wp2_with fail
  refine HS.out.mono ?_
  rintro e w2 ⟨rfl, hb2⟩
  go_wp2
  go_ret2
  exact ⟨rfl, (hb1.alloc hb1.size _).trans (hb2.mono hb1.size)⟩

set_option maxHeartbeats 4000000 in
theorem print_some (b off cap : Nat) (l : List Ac) (w : World) (hb : b < w.heap.size) (hcap : l.length ≤ cap) (hc : AcsAt w b off l) (h0 : chBad l = 0) :
    Calls Tryd.prog 9 #[.slice (some ⟨b, off, none⟩) l.length cap] w fun e w' => e = .returned (.tuple #[.string (txt (chTxt l l.length)), .nilIface]) ∧ Below w.heap.size w w' := by
  have hlen := chBad_len h0
  have Hlen : (l.length : Int) ≤ 60 := by omega
  have HC := chCheck_any (some ⟨b, off, none⟩) cap l w ⟨hcap, .inr ⟨b, off, rfl, hb, hc⟩⟩
  rw [h0, chE_zero] at HC
  have Hc : Hid (AcsAt w b off l) := hc
  have H0 : Hid (chBad l = 0) := h0
  have HHC : Hid (Calls _ _ _ _ _) := HC
  clear hc h0 HC
  go_enter Tryd.func9, Tryd.ntmps9
  go_wp2_with fail
  refine HHC.out.mono ?_
  rintro e w1 ⟨rfl, hb1⟩
  have hbn := builder_new w1 52 5
  have hs1 := hb1.size
  have hbn2 := hb1.alloc hs1 (.cells #[.pointer none, .slice none 0 0] 52)
  have hs0 : w1.heap.size ≤ (w1.alloc (.cells #[.pointer none, .slice none 0 0] 52)).heap.size := by simp
  clear HHC
  go_wp2
  go_loopw [15] (fun i wr => ∃ k : Nat, k ≤ l.length ∧ i = .int .i64 k ∧ Hid (Lib.IsBuilder 52 5 w1.heap.size w1.heap.size (Lib.byteCells (chTxt l k)) wr) ∧ Below w.heap.size w wr ∧ w1.heap.size ≤ wr.heap.size) (fun i _ => l.length - (intOf i).toNat)
  case atStart => exact ⟨0, Nat.zero_le _, rfl, hbn, hbn2, hs0⟩
  case round =>
    obtain ⟨k, hk, rfl, HB, BW, hsw⟩ := hrel
    by_cases hlt : k < l.length
    · have hn := (Hc.out k hlt).below BW hb
      obtain ⟨f1, f2, f3, f4, f5⟩ := fit_at H0.out hlt
      have hcl := chTxt_len H0.out k hk
      have hll := line_len f1 f2 f3
      have hW := written_any (l.getD k ac0) (wr.alloc (.cells (l.getD k ac0).cells 33)) f1 f2 f3 f4 f5
      have B2 := BW.alloc BW.size (.cells (l.getD k ac0).cells 33)
      have bk0 := builder_keep HB.out ((Below.refl _ wr).alloc (Nat.le_refl _) (.cells (l.getD k ac0).cells 33))
      have hx := AcAt.new wr (l.getD k ac0) 33
      have hst := cells_app (chTxt l k) (lineL (l.getD k ac0))
      rw [← chTxt_succ l k hlt] at hst
      have hsz : (Lib.byteCells (chTxt l k)).length + (txt (lineL (l.getD k ac0))).size ≤ 140737488355328 := by rw [Lib.byteCells_length, txt_size]; omega
      have hszw : (wr.alloc (.cells (l.getD k ac0).cells 33)).heap.size = wr.heap.size + 1 := by simp
      generalize txt (lineL (l.getD k ac0)) = ln at *
      generalize l.getD k ac0 = x at *
      clear f1 f2 f3 f4 f5 hcl hll HB
      obtain ⟨x0, x1, x2, x3, x4⟩ := x
      obtain ⟨c0, c1, c2, c3, c4⟩ := hn
      obtain ⟨d0, d1, d2, d3, d4⟩ := hx
      simp only [Ac.cells, Nat.zero_add] at c0 c1 c2 c3 c4 d0 d1 d2 d3 d4 B2 hW bk0 hszw
      have HW : Hid (Calls _ _ _ _ _) := hW
      have HBk : Hid (Lib.IsBuilder _ _ _ _ _ _) := bk0
      have Hst : Hid (_ = _) := hst
      have Hsz : Hid (_ ≤ _) := hsz
      clear hW bk0 hst hsz
      have j0 : (0 : Int) ≤ k := by omega
      have j1 : (k : Int) < l.length := by omega
      go_wp2_with fail
      refine HW.out.mono ?_
      rintro e w2 ⟨rfl, hb2⟩
      have hs2 := hb2.size
      rw [hszw] at hs2
      have hwr := write_any w1.heap.size w1.heap.size _ ln w2 (builder_keep HBk.out hb2) Hsz.out (by omega)
      have B3 := B2.trans (hb2.mono B2.size)
      have HWr : Hid (Calls _ _ _ _ _) := hwr
      clear hwr hb2 HW HBk B2 c0 c1 c2 c3 c4 d0 d1 d2 d3 d4
      go_wp2_with fail
      refine HWr.out.mono ?_
      rintro e w3 ⟨rfl, hb3, hbl3⟩
      have hs3 := hbl3.size
      have B4 := B3.trans (hbl3.mono hs1)
      have HBn : Hid (Lib.IsBuilder 52 5 w1.heap.size w1.heap.size (Lib.byteCells (chTxt l (k + 1))) w3) := by
        unfold Hid
        rw [Hst.out]
        exact .inr hb3
      clear hb3 hbl3 HWr
      go_wp2
      go_roundw
      case rel => exact ⟨k + 1, by omega, by go_num, HBn, B4, by omega⟩
      case measure => simp [intOf]; omega
    · have hk2 : k = l.length := by omega
      subst hk2
      have hS := shelf_Builder_String_any w1.heap.size w1.heap.size (chTxt l l.length) wr HB.out hsw
      have HS : Hid (Calls _ _ _ _ _) := hS
      clear hS HB
      go_wp2_with fail
      refine HS.out.mono ?_
      rintro e w2 ⟨rfl, hb2⟩
      go_wp2
      go_ret2
      exact ⟨rfl, BW.trans (hb2.mono hs1)⟩

theorem print_ok (a : Option Addr) (cap : Nat) (l : List Ac) (w : World) (h : IsSl w a l cap) (h0 : chBad l = 0) :
    Calls Tryd.prog 9 #[.slice a l.length cap] w fun e w' => e = .returned (.tuple #[.string (txt (chTxt l l.length)), .nilIface]) ∧ Below w.heap.size w w' := by
  rcases h.lies with rfl | ⟨b, off, rfl, hlt, hc⟩
  · exact print_none a cap w
  · exact print_some b off cap l w hlt h.cap hc h0
end Go.Proofs.YtgpddkajlkckjaaDoor
