/-
  One more law on a statement whose order of evaluation is left open: an operation for which the named one waits by a chain of others. It names no program.
-/
import Derived.Test.YtijjegkkeigeoaaZb4
import Derived.Test.YtijjegkkeigeoaaZb2
import Derived.Test.YtijjegkkeigeoaaZb0
namespace Go.Proofs.Ytijjegkkeigeoaa
set_option linter.unusedVariables false
set_option linter.unusedSimpArgs false
set_option maxRecDepth 100000
open Go.RowKit Go.Lib

theorem pc_info : (Try.prog.info? 106).map (fun i => (i.zero, i.size, i.bytes)) = some (some (.agg pc0C), 5, 56) := by kernel_rfl
theorem pc_tinfo : ∃ q, Try.prog.info? 106 = some q ∧ q.zero = some (.agg pc0C) ∧ q.size = 5 ∧ q.bytes = 56 := by
  obtain ⟨q, hq, hz⟩ := Option.map_eq_some_iff.1 pc_info
  simp only [Prod.mk.injEq] at hz
  exact ⟨q, hq, hz.1, hz.2.1, hz.2.2⟩
/-- What stands in an area's blocks. -/
def imgF (fr mn : Nat) (D : Dk) (a : Nat) : Option Pc := if 1 ≤ a ∧ a < mn then pcOf mn (D.now.getD (fr + a) bk0) else none
theorem img_dom (fr mn : Nat) (D : Dk) : Dom mn (imgF fr mn D) := fun a q h => by
  unfold imgF at h
  split at h
  · assumption
  · cases h
def Pm.pair (x : Pm) : Nat × Pc := (x.at_, x.q)
/-- Pieces in a row of one's own. -/
structure PmRow (W : World) (base : Nat) (v : Value) (xs : List Pm) : Prop where
  row : W.ownsRow base 106 5 v xs.length (rowOf Pm.cells xs)
  ok : ∀ x ∈ xs, Pm.ok W x
theorem ownBy_keep {V W : World} {v : Value} {l : List UInt8} (h : OwnBy V v l) (hk : ∀ (b : Nat) (cs : Array Value), V.heap[b]? = some (.cells cs 5 (0, 0)) → W.heap[b]? = some (.cells cs 5 (0, 0))) : OwnBy W v l := by
  obtain ⟨a, cap, e, hc, hn, h⟩ := h
  refine ⟨a, cap, e, hc, hn, ?_⟩
  rcases h with h | ⟨b, off, cs, e, hb, hx⟩
  · exact .inl h
  · exact .inr ⟨b, off, cs, e, hk b cs hb, hx⟩
theorem ownBy_below {V W : World} {v : Value} {l : List UInt8} (h : OwnBy V v l) (hb : Below V.heap.size V W) : OwnBy W v l := ownBy_keep h (fun b cs e => (hb.block b (Array.getElem?_eq_some_iff.1 e).1).trans e)
theorem Pm.ok_below {W U : World} {x : Pm} (h : Pm.ok W x) (hb : Below W.heap.size W U) : Pm.ok U x := ⟨ownBy_below h.1 hb, h.2⟩
theorem PmRow.nil (W : World) (base : Nat) : PmRow W base (.slice none 0 0) [] := ⟨World.ownsRow_nil _ _ _ _, fun _ h => absurd h (by simp)⟩
theorem PmRow.below {W U : World} {base : Nat} {v : Value} {xs : List Pm} (h : PmRow W base v xs) (hb : Below W.heap.size W U) : PmRow U base v xs :=
  ⟨ownsRow_keep h.row (fun b cs e _ => hb.block b (Array.getElem?_eq_some_iff.1 e).1), fun x hx => Pm.ok_below (h.ok x hx) hb⟩
theorem allF_step (mn j : Nat) (P : Nat → Option Pc) (hj : 1 ≤ j) : allF (j + 1) P = allF j P ++ ((P j).map fun q => (j, q)).toList := by
  unfold allF
  rw [show j + 1 - 1 = (j - 1) + 1 by omega, List.range'_concat, List.filterMap_append]
  congr 1
  rw [show 1 + 1 * (j - 1) = j by omega, List.filterMap_cons]
  cases P j <;> rfl
theorem pm_rowL (xs : List Pm) : (rowOf Pm.cells xs).length = xs.length * 5 := rowOf_length Pm.cells 5 xs (fun x _ => x.cells_length)
/-- One more piece behind a row. -/
theorem wpList_appP {w : World} {ops : Array Oper} {rest : List Oper} {o : Oper} {a : Act} {Q : Exit → Act → World → Prop} (hgd : o.guard = none) (d s : Operand) (ho : o.op = .call { callee := .builtin .append, args := #[d, s], argTypes := #[83, 83] })
    (base : Nat) (v : Value) (xs : List Pm) (x : Pm) (b : Nat) (hd : a.eval d = v) (hs : a.eval s = .slice (some ⟨b, 0, none⟩) 1 1) (hr : PmRow w base v xs) (hx : Pm.ok w x) (hb : w.heap[b]? = some (.cells x.cells.toArray 106 (0, 0))) (hbs : base ≤ w.heap.size) (hlen : xs.length ≤ 100000)
    (h : ∀ v' w', PmRow w' base v' (xs ++ [x]) → Below base w w' → (∀ b, b < w.heap.size → v.ownBlock ≠ some b → w'.heap[b]? = w.heap[b]?) → wpList Try.prog ops Q rest (a.put o.dst v') w') : wpList Try.prog ops Q (o :: rest) a w := by
  obtain ⟨qi, hqi, hqz⟩ := pc_tinfo
  refine wpList_append_own_at _ hgd d s 83 ho base 106 qi (.agg pc0C) 5 56 Try.underlying83 hqi hqz.1 hqz.2.1 hqz.2.2 rfl (by omega) v xs.length (rowOf Pm.cells xs) hd hr.row ⟨b, 0, none⟩ 1 1 x.cells hs x.cells_length (fun j u hj => ?_) x.cells_one (by unfold maxLen; omega) (by omega) hbs ?_
  · rw [Addr.add_mid, Nat.zero_add, cell_of_row w b _ _ _ (0, 0) hb]
    simpa using hj
  · intro v' w' hown hgrow _ _
    have hown' : ∀ j, v.ownBlock = some j → base ≤ j ∧ ∃ cs, w.heap[j]? = some (.cells cs 106 (0, 0)) := fun j hj => by
      rcases hr.row.2 with ⟨h1, _⟩ | ⟨g1, c1, cur, h1, hg1, hh, _⟩
      · rw [h1] at hj; cases hj
      · rw [h1] at hj; cases hj; exact ⟨hg1, cur, hh⟩
    refine h v' w' ⟨?_, fun y hy => ?_⟩ ((Below.refl base w).grown hgrow hbs (fun j hj => (hown' j hj).1)) (fun b hb hne => hgrow.block b hb (fun e => hne e.symm))
    · rw [List.length_append, rowOf_append, rowOf_one]
      exact hown
    · have hy' : Pm.ok w y := by
        rcases List.mem_append.1 hy with hy | hy
        · exact hr.ok y hy
        · rw [List.mem_singleton.1 hy]; exact hx
      refine ⟨ownBy_keep hy'.1 (fun b' cs e => (hgrow.block b' (Array.getElem?_eq_some_iff.1 e).1 (fun e2 => ?_)).trans e), hy'.2⟩
      obtain ⟨_, cs', hcs'⟩ := hown' b' e2.symm
      rw [e] at hcs'
      cases hcs'
theorem PmRow.ownLt {W : World} {base : Nat} {v : Value} {xs : List Pm} (h : PmRow W base v xs) : ∀ b, W.heap.size ≤ b → v.ownBlock ≠ some b := fun b hb e => by
  rcases h.row.2 with ⟨h1, _⟩ | ⟨g1, c1, cur, h1, hg1, hh, _⟩
  · rw [h1] at e; cases e
  · rw [h1] at e
    cases e
    have := (Array.getElem?_eq_some_iff.1 hh).1
    simp only at hb
    omega
theorem buildP (x : Pm) (w : World) : (Instr.buildSlice 83 1 #[(0, .agg x.cells.toArray)]).run Try.prog w = .ok (.slice (some ⟨w.heap.size, 0, none⟩) 1 1) (w.alloc (.cells x.cells.toArray 106)) := by
  obtain ⟨qi, hqi, hqz⟩ := pc_tinfo
  exact buildSlice_one 83 106 qi (.agg pc0C) Try.underlying83 hqi hqz.1 x.cells.toArray (by rw [List.size_toArray, x.cells_length, hqz.2.1]) (by rw [hqz.2.1]; omega) (by rw [hqz.2.1]; omega) w
theorem storeP (x : Pm) (U : World) : (Instr.storeAt 106 (.pointer (some ⟨U.heap.size, 0, none⟩)) (.agg x.cells.toArray)).run Try.prog (U.alloc (.cells pc0C 106)) = .ok () (U.alloc (.cells x.cells.toArray 106)) :=
  run_storeAt_new U 106 pc0C x.cells.toArray (by rw [List.size_toArray, x.cells_length]; exact pc_size) (by simp [Pm.cells, pc0C]) (all_oneCell_toArray x.cells_one)
section
variable {w W : World} {p nb sb : Nat} {cv : Value} {n : Nat} {D : Dk}
theorem readPiece_any (a : Tn w W p nb sb cv n D) (fr mn i : Nat) (hi : fr + i < n) (hn : n ≤ 200) (hm : mn ≤ 200) :
    Calls Try.prog 53 #[.agg #[.pointer (some ⟨p, 0, none⟩), .int .i64 (fr : Int), .int .i64 (mn : Int)], .int .i64 (i : Int)] W fun e w' => ((pcOf mn (D.now.getD (fr + i) bk0) = none ∧ e = .returned (.tuple #[.agg pc0C, .bool false])) ∨ ∃ q ad cap, pcOf mn (D.now.getD (fr + i) bk0) = some q ∧ e = .returned (.tuple #[.agg (Pm.mk i q ad cap).cells.toArray, .bool true]) ∧ Hid (Pm.ok w' (Pm.mk i q ad cap))) ∧ Hid (Below W.heap.size W w') := by
  cases ht : (D.now.getD (fr + i) bk0).torn with
  | false => exact readPiece_ok a fr mn i hi hn hm ht
  | true =>
    refine (readPiece_torn a fr mn i hi hn ht).mono ?_
    rintro e w' ⟨rfl, hb⟩
    exact ⟨.inl ⟨by unfold pcOf; rw [if_pos ht], rfl⟩, hb⟩
set_option maxHeartbeats 2000000 in
theorem piecesA_any (a : Tn w W p nb sb cv n D) (fr mn : Nat) (hi : fr + mn ≤ n) (hn : n ≤ 200) :
    Calls Try.prog 32 #[.agg #[.pointer (some ⟨p, 0, none⟩), .int .i64 (fr : Int), .int .i64 (mn : Int)]] W fun e w' => ∃ v, e = .returned v ∧ ∃ xs : List Pm, xs.map Pm.pair = allF mn (imgF fr mn D) ∧ Hid (PmRow w' W.heap.size v xs) ∧ Hid (Below W.heap.size W w') := by
  obtain ⟨W1, hW1⟩ : ∃ W1, W.alloc (.cells #[.pointer (some ⟨p, 0, none⟩), .int .i64 (fr : Int), .int .i64 (mn : Int)] 77) = W1 := ⟨_, rfl⟩
  have hB : Below W.heap.size W W1 := by rw [← hW1]; exact (Below.refl _ W).alloc (Nat.le_refl _) _
  have hr := new_heap W (.cells #[.pointer (some ⟨p, 0, none⟩), .int .i64 (fr : Int), .int .i64 (mn : Int)] 77)
  rw [hW1] at hr
  have HC : Hid (∀ U, Below W1.heap.size W1 U → (U.cell? ⟨W.heap.size, 0, none⟩ = some (.pointer (some ⟨p, 0, none⟩)) ∧ U.cell? ⟨W.heap.size, 1, none⟩ = some (.int .i64 (fr : Int)) ∧ U.cell? ⟨W.heap.size, 2, none⟩ = some (.int .i64 (mn : Int))) ∧ Tn w U p nb sb cv n D ∧ Below W.heap.size W U) := fun U hU => by
    have hU2 : Below W.heap.size W U := hB.trans (hU.mono hB.size)
    have hr' := (hU.block _ (Array.getElem?_eq_some_iff.1 hr).1).trans hr
    exact ⟨⟨by simp [World.cell?, hr'], by simp [World.cell?, hr'], by simp [World.cell?, hr']⟩, a.below hU2, hU2⟩
  have HRd : Hid (∀ (U : World) (i : Nat), Below W1.heap.size W1 U → fr + i < n → Calls Try.prog 53 #[.agg #[.pointer (some ⟨p, 0, none⟩), .int .i64 (fr : Int), .int .i64 (mn : Int)], .int .i64 (i : Int)] U fun e w' => ((pcOf mn (D.now.getD (fr + i) bk0) = none ∧ e = .returned (.tuple #[.agg pc0C, .bool false])) ∨ ∃ q ad cap, pcOf mn (D.now.getD (fr + i) bk0) = some q ∧ e = .returned (.tuple #[.agg (Pm.mk i q ad cap).cells.toArray, .bool true]) ∧ Hid (Pm.ok w' (Pm.mk i q ad cap))) ∧ Hid (Below U.heap.size U w')) := fun U i hU h => readPiece_any (HC.out U hU).2.1 fr mn i h hn (by omega)
  have HS : Hid (W.heap.size < W1.heap.size) := (Array.getElem?_eq_some_iff.1 hr).1
  have hal := alloc_pc
  have m0 : (0 : Int) ≤ mn := by omega
  have m1 : (mn : Int) ≤ 200 := by omega
  clear a hB hr
  go_enter Try.func32, Try.ntmps32
  go_wp2_with fail
  go_loopw [2, 3] (fun v t wr => ∃ (j : Nat) (xs : List Pm), 1 ≤ j ∧ (j ≤ mn ∨ j = 1) ∧ t = .int .i64 j ∧ Hid (xs.map Pm.pair = allF j (imgF fr mn D) ∧ PmRow wr W1.heap.size v xs ∧ Below W1.heap.size W1 wr ∧ xs.length ≤ j)) (fun _ t _ => 200 - (RowKit.intOf t).toNat)
  case atStart => exact ⟨1, [], by omega, .inr rfl, rfl, rfl, PmRow.nil _ _, Below.refl _ _, by simp⟩
  case round =>
    obtain ⟨j, xs, hj1, hj2, rfl, H⟩ := hrel
    obtain ⟨h1, h2, h3, h4⟩ := H.out
    obtain ⟨⟨c0, c1, c2⟩, _, hbW⟩ := HC.out wr h3
    have j0 : (0 : Int) ≤ j := by omega
    have j3 : (j : Int) ≤ 200 := by omega
    by_cases hlt : j < mn
    · have j1 : (j : Int) < mn := by omega
      have HR : Hid (Calls _ _ _ wr _) := HRd.out wr j h3 (by omega)
      have himg : imgF fr mn D j = pcOf mn (D.now.getD (fr + j) bk0) := if_pos ⟨hj1, hlt⟩
      have Hst : Hid (allF (j + 1) (imgF fr mn D) = allF j (imgF fr mn D) ++ ((pcOf mn (D.now.getD (fr + j) bk0)).map fun q => (j, q)).toList) := by
        rw [← himg]; exact allF_step mn j _ hj1
      have HH : Hid (xs.map Pm.pair = allF j (imgF fr mn D) ∧ PmRow wr W1.heap.size u2 xs ∧ Below W1.heap.size W1 wr ∧ xs.length ≤ j) := ⟨h1, h2, h3, h4⟩
      obtain ⟨pv, hpv⟩ : ∃ pv, pcOf mn (D.now.getD (fr + j) bk0) = pv := ⟨_, rfl⟩
      rw [hpv] at HR Hst
      clear H h1 h2 h3 h4 himg hpv hbW
      go_wp2_with fail
      refine HR.out.mono ?_
      rintro e w2 ⟨hres, hb2⟩
      rcases hres with ⟨rfl, rfl⟩ | ⟨q, ad, cap, rfl, rfl, hok⟩
      · have hsp := fun U : World => run_storeAt_new (P := Try.prog) U 106 pc0C pc0C (by exact pc_size) rfl (by simp [pc0C, Value.oneCell'])
        have hb3 : Below W1.heap.size W1 (w2.alloc (.cells pc0C 106)) := (HH.out.2.2.1.trans (hb2.out.mono HH.out.2.2.1.size)).alloc (Nat.le_trans HH.out.2.2.1.size hb2.out.size) _
        have hbw : Below wr.heap.size wr (w2.alloc (.cells pc0C 106)) := hb2.out.alloc hb2.out.size _
        have HN : Hid (xs.map Pm.pair = allF (j + 1) (imgF fr mn D) ∧ PmRow (w2.alloc (.cells pc0C 106)) W1.heap.size u2 xs ∧ Below W1.heap.size W1 (w2.alloc (.cells pc0C 106)) ∧ xs.length ≤ j + 1) := by
          refine ⟨?_, HH.out.2.1.below hbw, hb3, by have := HH.out.2.2.2; omega⟩
          rw [Hst.out, HH.out.1]
          simp
        clear HR hb2 hb3 hbw HH Hst
        go_wp2_with (first | (refine wpList_alloc_run rfl 106 rfl (hal _) ?_) | (refine wpList_store_run rfl 106 _ _ rfl _ _ (by rfl) (by rfl) (hsp _) ?_))
        go_roundw
        case rel => exact ⟨j + 1, xs, by omega, .inl (by omega), by go_num, HN⟩
        case measure => simp [RowKit.intOf]; omega
      · obtain ⟨x, hx⟩ : ∃ x : Pm, x = Pm.mk j q ad cap := ⟨_, rfl⟩
        rw [← hx] at hok ⊢
        have hsp := storeP x
        have hbd := buildP x
        have s2 : w2.heap.size < (w2.alloc (.cells x.cells.toArray 106)).heap.size := by simp
        have hld := load_pm x (range0 (new_heap w2 (.cells x.cells.toArray 106)))
        obtain ⟨w3, hw3⟩ : ∃ w3, (w2.alloc (.cells x.cells.toArray 106)).alloc (.cells x.cells.toArray 106) = w3 := ⟨_, rfl⟩
        obtain ⟨_, hn2, hn3⟩ := two_new w2 (.cells x.cells.toArray 106) (.cells x.cells.toArray 106)
        rw [hw3] at hn2 hn3
        have hb3 : Below W1.heap.size W1 w3 := (HH.out.2.2.1.trans (hb2.out.mono HH.out.2.2.1.size)).trans (hn3.mono (Nat.le_trans HH.out.2.2.1.size hb2.out.size))
        have hbw : Below wr.heap.size wr w3 := hb2.out.trans (hn3.mono hb2.out.size)
        have HApp : Hid (PmRow w3 W1.heap.size u2 xs ∧ Pm.ok w3 x ∧ w3.heap[w2.heap.size + 1]? = some (.cells x.cells.toArray 106 (0, 0)) ∧ W1.heap.size ≤ w3.heap.size ∧ xs.length ≤ 100000) :=
          ⟨HH.out.2.1.below hbw, Pm.ok_below hok.out hn3, hn2, hb3.size, by have := HH.out.2.2.2; omega⟩
        have HB3 : Hid (Below W1.heap.size W1 w3) := hb3
        have HM : Hid ((xs ++ [x]).map Pm.pair = allF (j + 1) (imgF fr mn D) ∧ (xs ++ [x]).length ≤ j + 1) := by
          constructor
          · rw [Hst.out, List.map_append, HH.out.1, hx]
            rfl
          · have := HH.out.2.2.2
            simp; omega
        clear HR hb2 hb3 hbw HH Hst hok hn2 hn3 hx s2
        subst hw3
        go_wp2_with (first | (refine wpList_alloc_run rfl 106 rfl (hal _) ?_) | (refine wpList_store_run rfl 106 _ _ rfl _ _ (by rfl) (by rfl) (hsp _) ?_) | (refine wpList_load_run rfl 106 _ rfl _ (by rfl) hld ?_) | (refine wpList_buildSlice_run rfl 83 1 #[(0, .tmp 20)] rfl #[(0, .agg x.cells.toArray)] (by first | rfl | simp [Act.eval, Act.put]) (hbd _) ?_) | (at_builtin; go_loud (refine wpList_appP rfl (.tmp 19) (.tmp 21) rfl W1.heap.size u2 xs x (w2.heap.size + 1) (by rfl) (by simp [Act.eval, Act.put]) HApp.out.1 HApp.out.2.1 HApp.out.2.2.1 HApp.out.2.2.2.1 HApp.out.2.2.2.2 ?_); intro v' w4 hr4 hb4 _))
        have HN : Hid ((xs ++ [x]).map Pm.pair = allF (j + 1) (imgF fr mn D) ∧ PmRow w4 W1.heap.size v' (xs ++ [x]) ∧ Below W1.heap.size W1 w4 ∧ (xs ++ [x]).length ≤ j + 1) := ⟨HM.out.1, hr4, HB3.out.trans hb4, HM.out.2⟩
        clear hr4 hb4 HApp HM HB3
        go_wp2_with fail
        go_roundw
        case rel => exact ⟨j + 1, xs ++ [x], by omega, .inl (by omega), by go_num, HN⟩
        case measure => simp [RowKit.intOf]; omega
    · have j1 : ¬ (j : Int) < mn := by omega
      have HE : Hid (xs.map Pm.pair = allF mn (imgF fr mn D) ∧ PmRow wr W.heap.size u2 xs ∧ Below W.heap.size W wr) := by
        refine ⟨?_, ⟨?_, h2.ok⟩, hbW⟩
        · rw [h1]
          rcases hj2 with h | h
          · rw [show j = mn by omega]
          · subst h
            unfold allF
            rw [show mn - 1 = 0 by omega]
        · rcases h2.row.2 with ⟨e1, e2⟩ | ⟨g, cap, cur, e, hg, r⟩
          · exact ⟨h2.row.1, .inl ⟨e1, e2⟩⟩
          · exact ⟨h2.row.1, .inr ⟨g, cap, cur, e, by have := HS.out; omega, r⟩⟩
      clear H h1 h2 h3 h4 hbW HC HRd
      go_wp2_with fail
      go_ret
      exact ⟨u2, rfl, xs, HE.out.1, HE.out.2.1, HE.out.2.2⟩
end
end Go.Proofs.Ytijjegkkeigeoaa

namespace Go.Proofs.Ytijjegkkeigeoaa
set_option linter.unusedVariables false
set_option linter.unusedSimpArgs false
set_option maxRecDepth 100000
open Go.RowKit Go.Lib
def mkB : List UInt8 := [255, 113, 100, 32, 108, 111, 103]
/-- A head's bytes. -/
def lhB (mn since : Nat) : List UInt8 := (mkB ++ [UInt8.ofNat mn]) ++ w2B since
theorem lhB_length (mn since : Nat) : (lhB mn since).length = 10 := by simp [lhB, mkB, w2B]
theorem mk_zero : ((txt (List.replicate 7 0)).toList == [255, 113, 100, 32, 108, 111, 103]) = false := by
  rw [ByteArray.toList_eq]
  decide
theorem mk_mark : ((txt mkB).toList == [255, 113, 100, 32, 108, 111, 103]) = true := by
  rw [ByteArray.toList_eq]
  decide
section
variable {w W : World} {p nb sb : Nat} {cv : Value} {n : Nat} {D : Dk}
theorem readLHead_none (a : Tn w W p nb sb cv n D) (fr mn : Nat) (hi : fr < n) (hn : n ≤ 200) (hz : D.now.getD fr bk0 = bk0) :
    Calls Try.prog 28 #[.agg #[.pointer (some ⟨p, 0, none⟩), .int .i64 (fr : Int), .int .i64 (mn : Int)]] W fun e w' => e = .returned (.tuple #[.int .i64 0, .bool false]) ∧ Hid (Below W.heap.size W w') := by
  obtain ⟨W1, hW1⟩ : ∃ W1, W.alloc (.cells #[.pointer (some ⟨p, 0, none⟩), .int .i64 (fr : Int), .int .i64 (mn : Int)] 77) = W1 := ⟨_, rfl⟩
  have hB : Below W.heap.size W W1 := by rw [← hW1]; exact (Below.refl _ W).alloc (Nat.le_refl _) _
  have hr := new_heap W (.cells #[.pointer (some ⟨p, 0, none⟩), .int .i64 (fr : Int), .int .i64 (mn : Int)] 77)
  rw [hW1] at hr
  have c0 : W1.cell? ⟨W.heap.size, 0, none⟩ = some (.pointer (some ⟨p, 0, none⟩)) := by simp [World.cell?, hr]
  have c1 : W1.cell? ⟨W.heap.size, 1, none⟩ = some (.int .i64 (fr : Int)) := by simp [World.cell?, hr]
  have HR : Hid (Calls _ _ _ W1 _) := tn_read (a.below hB) fr hi (by rw [hz]; rfl)
  rw [hz] at HR
  have HB : Hid (Below W.heap.size W W1) := hB
  have f0 : (0 : Int) ≤ fr := by omega
  have f1 : (fr : Int) < 200 := by omega
  obtain ⟨T, hT⟩ : ∃ T, txt (List.replicate 7 0) = T := ⟨_, rfl⟩
  have hmk := mk_zero
  rw [hT] at hmk
  clear a hz hB hr
  go_enter Try.func28, Try.ntmps28
  go_wp2_with fail
  refine HR.out.mono ?_
  rintro e w1 ⟨rfl, _, hrow, hs⟩
  have hstr : ∀ k, (convert 52 9 (.slice (some ⟨W1.heap.size, 0, none⟩) 7 64)).run Try.prog (w1.drewN k) = .ok (.string T) (w1.drewN k) := fun k => by
    have h1 := isBy_row hrow.out 7 (by simp [bk0]) 64 (by omega)
    have h2 := run_str (w1.drewN k) (some ⟨W1.heap.size, 0, none⟩) (List.replicate 7 0) 64 (by
      have := h1.below ((Still.drewN w1 k).below _)
      simpa [bk0] using this)
    rw [hT] at h2
    exact h2
  have HB1 : Hid (Below W.heap.size W w1) := HB.out.trans (hs.out.mono HB.out.size)
  clear HR hrow hs HB c0 c1
  go_wp2_with fail
  go_quiet (fail)
  rename Nat => nq
  have HE : Hid (Below W.heap.size W (w1.drewN nq)) := HB1.out.trans ((Still.drewN w1 nq).below _)
  clear hstr HB1
  go_wp2
  go_ret2
  exact ⟨rfl, HE⟩
theorem lh_take (mn since : Nat) : (padB (lhB mn since)).take 7 = mkB := by
  unfold padB lhB
  rw [List.append_assoc, List.append_assoc, List.take_append_of_le_length (by decide)]
  rfl
theorem lh_many (mn since : Nat) : (padB (lhB mn since))[7]? = some (UInt8.ofNat mn) := by
  unfold padB lhB
  rw [List.append_assoc, List.append_assoc]
  rfl
theorem lh_since (mn since : Nat) : (padB (lhB mn since)).drop 8 = w2B since ++ List.replicate 54 0 := by
  unfold padB
  rw [lhB_length]
  unfold lhB
  rw [List.append_assoc, List.drop_append_of_le_length (by simp [mkB]), List.drop_eq_nil_of_le (by simp [mkB])]
  rfl
theorem wordN_w2B (k : Nat) (h : k < 65536) : wordN (w2B k) = k := by
  unfold wordN w2B
  simp only [List.getD_cons_zero, List.getD_cons_succ, UInt8.toNat_ofNat']
  omega
theorem readLHead_some (a : Tn w W p nb sb cv n D) (fr mn since : Nat) (hi : fr < n) (hn : n ≤ 200) (hm : mn ≤ 200) (hsn : since < 65536) (hz : D.now.getD fr bk0 = ⟨padB (lhB mn since), false⟩) :
    Calls Try.prog 28 #[.agg #[.pointer (some ⟨p, 0, none⟩), .int .i64 (fr : Int), .int .i64 (mn : Int)]] W fun e w' => e = .returned (.tuple #[.int .i64 (since : Int), .bool true]) ∧ Hid (Below W.heap.size W w') := by
  obtain ⟨W1, hW1⟩ : ∃ W1, W.alloc (.cells #[.pointer (some ⟨p, 0, none⟩), .int .i64 (fr : Int), .int .i64 (mn : Int)] 77) = W1 := ⟨_, rfl⟩
  have hB : Below W.heap.size W W1 := by rw [← hW1]; exact (Below.refl _ W).alloc (Nat.le_refl _) _
  have hr := new_heap W (.cells #[.pointer (some ⟨p, 0, none⟩), .int .i64 (fr : Int), .int .i64 (mn : Int)] 77)
  rw [hW1] at hr
  have c0 : W1.cell? ⟨W.heap.size, 0, none⟩ = some (.pointer (some ⟨p, 0, none⟩)) := by simp [World.cell?, hr]
  have c1 : W1.cell? ⟨W.heap.size, 1, none⟩ = some (.int .i64 (fr : Int)) := by simp [World.cell?, hr]
  have Hc2 : Hid (W.heap.size < W1.heap.size ∧ W1.cell? ⟨W.heap.size, 2, none⟩ = some (.int .i64 (mn : Int))) := ⟨(Array.getElem?_eq_some_iff.1 hr).1, by simp [World.cell?, hr]⟩
  have HR : Hid (Calls _ _ _ W1 _) := tn_read (a.below hB) fr hi (by rw [hz])
  rw [hz] at HR
  have HB : Hid (Below W.heap.size W W1) := hB
  have f0 : (0 : Int) ≤ fr := by omega
  have f1 : (fr : Int) < 200 := by omega
  obtain ⟨T, hT⟩ : ∃ T, txt mkB = T := ⟨_, rfl⟩
  have hmk := mk_mark
  rw [hT] at hmk
  have HW2 : Hid (∀ (u : World) (G : Nat), u.heap[G]? = some (.cells (byC (padB (lhB mn since))).toArray 5 (0, 0)) → Calls Try.prog 52 #[.slice (some ⟨G, 8, none⟩) 2 56] u fun e w' => e = .returned (.int .i64 (since : Int)) ∧ ∃ k, w' = u.drewN k) := fun u G hu => by
    have := word_at (some ⟨G, 8, none⟩) (w2B since) 56 u ⟨by simp [w2B], .inr ⟨G, 8, rfl, (Array.getElem?_eq_some_iff.1 hu).1, fun k hk => by
      rw [cell_of_row _ _ _ _ _ (0, 0) hu, List.getElem?_toArray]
      have hk2 : k < 2 := hk
      have hl : (padB (lhB mn since)).length = 64 := padB_length _ (by rw [lhB_length]; omega)
      rw [byC_get _ (8 + k) (by omega)]
      have e1 : (padB (lhB mn since))[8 + k]? = (w2B since)[k]? := by
        rw [← List.getElem?_drop, lh_since, List.getElem?_append_left hk]
      rw [List.getElem?_eq_getElem (by omega), List.getElem?_eq_getElem hk] at e1
      rw [Option.some.inj e1]⟩⟩ (by simp [w2B]) (by simp [w2B])
    rw [wordN_w2B since hsn] at this
    exact this
  have hby : ((UInt8.ofNat mn).toNat : Int) = (mn : Int) := by
    rw [UInt8.toNat_ofNat']
    omega
  have Hby : Hid (((UInt8.ofNat mn).toNat : Int) = (mn : Int)) := hby
  have m0 : (0 : Int) ≤ mn := by omega
  have m1 : (mn : Int) ≤ 200 := by omega
  clear a hz hB hr hby
  go_enter Try.func28, Try.ntmps28
  go_wp2_with fail
  refine HR.out.mono ?_
  rintro e w1 ⟨rfl, _, hrow, hs⟩
  have hstr : ∀ k, (convert 52 9 (.slice (some ⟨W1.heap.size, 0, none⟩) 7 64)).run Try.prog (w1.drewN k) = .ok (.string T) (w1.drewN k) := fun k => by
    have h1 := isBy_row hrow.out 7 (by show 7 ≤ (padB (lhB mn since)).length; rw [padB_length _ (by rw [lhB_length]; omega)]; omega) 64 (by omega)
    rw [lh_take] at h1
    have h2 := run_str (w1.drewN k) (some ⟨W1.heap.size, 0, none⟩) mkB 64 (h1.below ((Still.drewN w1 k).below _))
    rw [hT] at h2
    exact h2
  have c7 : w1.cell? ⟨W1.heap.size, 7, none⟩ = some (.int .u8 (mn : Int)) := by
    rw [cell_of_row _ _ _ _ _ (0, 0) hrow.out, List.getElem?_toArray]
    have hl : 7 < (padB (lhB mn since)).length := by rw [padB_length _ (by rw [lhB_length]; omega)]; omega
    have e7 := lh_many mn since
    rw [List.getElem?_eq_getElem hl] at e7
    rw [byC_get _ 7 hl, Option.some.inj e7, Hby.out]
  have c2 : w1.cell? ⟨W.heap.size, 2, none⟩ = some (.int .i64 (mn : Int)) := (hs.out.cell (p := ⟨W.heap.size, 2, none⟩) Hc2.out.1).trans Hc2.out.2
  have HB1 : Hid (Below W.heap.size W w1) := HB.out.trans (hs.out.mono HB.out.size)
  have Hrow : Hid (w1.heap[W1.heap.size]? = some (.cells (byC (padB (lhB mn since))).toArray 5 (0, 0))) := hrow.out
  clear HR hrow hs HB c0 c1 Hc2
  go_wp2_with fail
  go_quiet (fail)
  rename Nat => nq
  have HE : Hid (Below W.heap.size W (w1.drewN nq)) := HB1.out.trans ((Still.drewN w1 nq).below _)
  have HWc : Hid (Calls _ _ _ (w1.drewN nq) _) := HW2.out (w1.drewN nq) W1.heap.size Hrow.out
  clear hstr HB1 HW2 Hrow
  go_wp2_with fail
  refine HWc.out.mono ?_
  rintro e w3 ⟨rfl, hk⟩
  have HE3 : Hid (Below W.heap.size W w3) := by
    obtain ⟨k, rfl⟩ := hk
    exact HE.out.trans ((Still.drewN _ k).below _)
  clear hk HWc HE
  go_wp2
  go_ret2
  exact ⟨rfl, HE3⟩
end
end Go.Proofs.Ytijjegkkeigeoaa

namespace Go.Proofs.Ytijjegkkeigeoaa
set_option linter.unusedVariables false
set_option linter.unusedSimpArgs false
set_option maxRecDepth 100000
open Go.RowKit Go.Lib
def slA (a : Option Addr) (cap k : Nat) : Option Addr := if cap = k then a else a.map (·.add (k * 1))
theorem slA_ne {a : Option Addr} (h : a ≠ none) (cap k : Nat) : slA a cap k ≠ none := by
  unfold slA
  split
  · exact h
  · cases a with
    | none => exact absurd rfl h
    | some x => simp
theorem by_under : Try.prog.underlying 52 = some (.slice (Try.prog.elem 52)) := by kernel_rfl
theorem by_size : (sizeOf (Try.prog.elem 52)).run Try.prog = fun W => .ok 1 W := by kernel_rfl
theorem run_byLH (a : Option Addr) (L cap k m : Nat) (hk : k ≤ m) (hm : m ≤ cap) (W : World) : (Instr.slice 52 (.slice a L cap) (some (.int .i64 (k : Int))) (some (.int .i64 (m : Int))) none).run Try.prog W = .ok (.slice (slA a cap k) (m - k) (cap - k)) W := by
  rw [run_slice_lh W 52 a L cap by_under .i64 .i64 k m (by omega) (by omega) (by omega), by_size]
  simp [Result.andThen, sliced, slA]
theorem run_byL (a : Option Addr) (L cap k : Nat) (hk : k ≤ L) (W : World) : (Instr.slice 52 (.slice a L cap) (some (.int .i64 (k : Int))) none none).run Try.prog W = .ok (.slice (slA a cap k) (L - k) (cap - k)) W := by
  rw [run_slice_l W 52 a L cap by_under .i64 k (by omega) (by omega), by_size]
  simp [Result.andThen, sliced, slA]
theorem run_byH (a : Option Addr) (L cap m : Nat) (hm : m ≤ cap) (W : World) : (Instr.slice 52 (.slice a L cap) none (some (.int .i64 (m : Int))) none).run Try.prog W = .ok (.slice (slA a cap 0) m cap) W := by
  rw [run_slice_h W 52 a L cap by_under .i64 m (by omega) (by omega), by_size]
  simp [Result.andThen, sliced, slA]
theorem slA_zero (b o cap : Nat) : slA (some ⟨b, o, none⟩) cap 0 = some ⟨b, o, none⟩ := by
  unfold slA
  split
  · rfl
  · simp [Addr.add_mid]
theorem slA_none (cap k : Nat) : slA none cap k = none := by unfold slA; split <;> rfl
theorem isBy_mid {w : World} {a : Option Addr} {l : List UInt8} {cap : Nat} (h : IsBy w a l cap) (k m : Nat) (hk : k ≤ m) (hm : m ≤ l.length) : IsBy w (slA a cap k) ((l.drop k).take (m - k)) (cap - k) := by
  have hc := h.cap
  refine ⟨by rw [List.length_take, List.length_drop]; omega, ?_⟩
  by_cases h0 : (l.drop k).take (m - k) = []
  · exact .inl h0
  · right
    have hp : 0 < ((l.drop k).take (m - k)).length := List.length_pos_iff.2 h0
    rw [List.length_take, List.length_drop] at hp
    rcases h.lies with e | ⟨b, off, rfl, hlt, hcs⟩
    · subst e; simp at hp
    · refine ⟨b, off + k, ?_, hlt, fun i hi => ?_⟩
      · unfold slA
        rw [if_neg (by omega)]
        simp [Addr.add_mid]
      · rw [List.length_take, List.length_drop] at hi
        have e := hcs (k + i) (by omega)
        rw [show off + k + i = off + (k + i) by omega, e]
        simp
theorem isBy_drop {w : World} {a : Option Addr} {l : List UInt8} {cap : Nat} (h : IsBy w a l cap) (k : Nat) (hk : k ≤ l.length) : IsBy w (slA a cap k) (l.drop k) (cap - k) := by
  have := isBy_mid h k l.length hk (Nat.le_refl _)
  rwa [List.take_of_length_le (by rw [List.length_drop]; exact Nat.le_refl _)] at this
end Go.Proofs.Ytijjegkkeigeoaa

namespace Go.Proofs.Ytijjegkkeigeoaa
set_option linter.unusedVariables false
set_option linter.unusedSimpArgs false
set_option maxRecDepth 100000
open Go.RowKit Go.Lib
theorem byTxt_inj {l m : List UInt8} : txt l = txt m ↔ l = m := ⟨fun h => by
  have : (txt l).data.toList = (txt m).data.toList := by rw [h]
  simpa [txt] using this, fun h => by rw [h]⟩
theorem byTxt_list (l : List UInt8) : (txt l).toList = l := by
  simp [txt]
theorem byEqual_any (a : Option Addr) (l : List UInt8) (cap : Nat) (b : Option Addr) (m : List UInt8) (cap2 : Nat) (w : World) (hl : IsBy w a l cap) (hm : IsBy w b m cap2) :
    Calls Try.prog 40 #[.slice a l.length cap, .slice b m.length cap2] w fun e w' => e = .returned (.bool (decide (l = m))) ∧ w' = w := by
  have hS1 := run_str w a l cap hl
  have hS2 := run_str w b m cap2 hm
  have HD : Hid (((txt l).toList == (txt m).toList) = decide (l = m)) := by
    unfold Hid
    rw [Bool.eq_iff_iff, beq_iff_eq, decide_eq_true_eq, byTxt_list, byTxt_list]
  clear hl hm
  go_enter Try.func40, Try.ntmps40
  go_wp2
  go_ret
  exact ⟨by rw [← HD.out]; rfl, rfl⟩
/-- Whether bytes begin so. -/
def begB (l m : List UInt8) : Bool := decide (l.take m.length = m)
theorem begB_iff {l m : List UInt8} : begB l m = true ↔ m <+: l := by
  unfold begB
  rw [decide_eq_true_eq]
  exact ⟨fun h => by rw [← h]; exact List.take_prefix _ _, fun h => (List.prefix_iff_eq_take.1 h).symm⟩
theorem byPrefix_any (a : Option Addr) (l : List UInt8) (cap : Nat) (b : Option Addr) (m : List UInt8) (cap2 : Nat) (w : World) (hl : IsBy w a l cap) (hm : IsBy w b m cap2) :
    Calls Try.prog 34 #[.slice a l.length cap, .slice b m.length cap2] w fun e w' => e = .returned (.bool (begB l m)) ∧ w' = w := by
  have hcap := hl.cap
  by_cases h : m.length ≤ l.length
  · have hE : Calls _ _ _ w _ := byEqual_any (slA a cap 0) (l.take m.length) cap b m cap2 w (by have := isBy_mid hl 0 m.length (Nat.zero_le _) h; simpa using this) hm
    have HE : Hid (Calls _ _ _ w _) := hE
    have el : (l.take m.length).length = m.length := by rw [List.length_take]; omega
    rw [el] at HE
    have HB : Hid (begB l m = decide (l.take m.length = m)) := rfl
    have hle : (m.length : Int) ≤ (l.length : Int) := by omega
    have hlc : (m.length : Int) ≤ (cap : Int) := by omega
    have m0 : (0 : Int) ≤ m.length := by omega
    have hcut := run_byH a l.length cap m.length (by omega) w
    clear hl hm h hE el
    go_enter Try.func34, Try.ntmps34
    go_wp2_with fail
    refine HE.out.mono ?_
    rintro e w1 ⟨rfl, rfl⟩
    go_wp2
    go_ret
    exact ⟨by rw [HB.out]; rfl, rfl⟩
  · have HB : Hid (begB l m = false) := by
      unfold Hid begB
      rw [decide_eq_false_iff_not]
      intro e
      have := congrArg List.length e
      rw [List.length_take] at this
      omega
    have hle : ¬ (m.length : Int) ≤ (l.length : Int) := by omega
    clear hl hm h
    go_enter Try.func34, Try.ntmps34
    go_wp2
    go_ret
    exact ⟨by rw [HB.out]; rfl, rfl⟩
end Go.Proofs.Ytijjegkkeigeoaa

namespace Go.Proofs.Ytijjegkkeigeoaa
open Go
set_option linter.unusedVariables false

section
variable {P : Program} {ops : Array Oper} {Q : Exit → Act → World → Prop} {md : Region.Mode} {T : World → Prop} {g : Nat}

theorem L_firstC {i : Nat} {oi : Oper} {v : Value} {C : List Nat} (hi : ops[i]? = some oi) (hC : ∀ k ∈ C, ∃ ok, ops[k]? = some ok ∧ ∃ e ∈ ok.after, Region.binds md e = true ∧ (e.on = i ∨ e.on ∈ C)) (hgC : g ∈ C) (hgi : g ≠ i)
    (hsel : ∀ (j : Nat) (o : Oper) cs b, ops[j]? = some o → o.op ≠ .select cs b) (hQ : ∀ c a w, Q (.panic c) (a.put oi.dst v) w → Q (.panic c) a w) :
    ∀ (fuel : Nat) (listed : Array Bool) (a : Act) (w : World),
      (∀ j oj, ops[j]? = some oj → j ≠ i → listed.getD j true = false → (∀ e ∈ oj.after, Region.binds md e = true → e.on ≠ i) → oi.apart ops oj = true) →
      i ∈ Region.ready md ops listed → (∀ k ∈ C, listed.getD k true = false) → YieldsIf P ops T oi v a → T w →
      wpAnyL P md ops Q g T fuel (listed.setIfInBounds i true) (a.put oi.dst v) w → wpAnyL P md ops Q g T (fuel + 1) listed a w := by
  intro fuel
  induction fuel with
  | zero =>
    intro listed a w _ hr _ hy hT H
    refine ⟨fun h => (by rw [h] at hr; cases hr), fun j hj => ?_⟩
    by_cases hji : j = i
    · subst hji; exact hy.wpOp hi hT ⟨fun _ => hT, H⟩
    · have := ready_mono hj hji
      rw [H.1] at this
      cases this
  | succ fuel ih =>
    intro listed a w hfree hr hlC hy hT H
    refine ⟨fun h => (by rw [h] at hr; cases hr), fun j hj => ?_⟩
    by_cases hji : j = i
    · subst hji; exact hy.wpOp hi hT ⟨fun _ => hT, H⟩
    · have h1 := H.2 j (ready_mono hj hji)
      obtain ⟨hjun, oj, hoj, hall⟩ := mem_ready.1 hj
      have hnot : ∀ e ∈ oj.after, Region.binds md e = true → e.on ≠ i := fun e he hb heq => by
        have h1 := hall e he hb
        have h0 := (mem_ready.1 hr).1
        rw [heq] at h1
        rcases Nat.lt_or_ge i listed.size with h' | h'
        · simp [h'] at h0 h1; rw [h0] at h1; cases h1
        · simp [Array.getElem?_eq_none h'] at h1
      have hjC : ∀ k ∈ C, j ≠ k := fun k hk hjk => by
        obtain ⟨ok, hok, e, he, hb, ho⟩ := hC k hk
        rw [← hjk, hoj] at hok
        cases hok
        rcases ho with ho | ho
        · exact hnot e he hb ho
        · have h1 := hall e he hb
          have hl := hlC _ ho
          rcases Nat.lt_or_ge e.on listed.size with h' | h'
          · simp [h'] at hl h1; rw [hl] at h1; cases h1
          · simp [Array.getElem?_eq_none h'] at h1
      have h2 := wpOp_putIf hoj (hfree j oj hoj hji hjun hnot) (fun cs b => hsel i oi cs b hi) (fun cs b => hsel j oj cs b hoj) hQ hy h1
      have hfree' : ∀ k ok, ops[k]? = some ok → k ≠ i → (listed.setIfInBounds j true).getD k true = false →
          (∀ e ∈ ok.after, Region.binds md e = true → e.on ≠ i) → oi.apart ops ok = true := fun k ok hk hki hun hno => by
        refine hfree k ok hk hki ?_ hno
        by_cases hjk : j = k
        · subst hjk; exact hjun
        · rw [getD_set_ne true hjk] at hun; exact hun
      have hlC' : ∀ k ∈ C, (listed.setIfInBounds j true).getD k true = false := fun k hk => by rw [getD_set_ne true (hjC k hk)]; exact hlC k hk
      refine wpOp_mono (fun a' w' h3 => ?_) h2
      have hT' : T w' := h3.2.1 (by rw [getD_set_ne true (hjC g hgC), getD_set_ne true (Ne.symm hgi)]; exact hlC g hgC)
      refine ⟨fun _ => hT', ih (listed.setIfInBounds j true) a' w' hfree' (ready_mono hr (Ne.symm hji)) hlC' h3.1 hT' ?_⟩
      rw [Array.setIfInBounds_comm _ _ hji]
      exact h3.2.2

/-- One of a chain waits for the operation, or for another of the chain. -/
def waits (md : Region.Mode) (ops : Array Oper) (i : Nat) (C : List Nat) (k : Nat) : Bool := match ops[k]? with
  | some ok => ok.after.any fun e => Region.binds md e && (e.on == i || C.contains e.on)
  | none => false
/-- The move of a walk. -/
theorem L_takeC (C : List Nat) {i : Nat} {oi : Oper} {v : Value} {fuel : Nat} {listed : Array Bool} {a : Act} {w : World} (hi : ops[i]? = some oi)
    (hC : C.all (waits md ops i C) = true) (hgC : C.contains g = true) (hgi : g ≠ i)
    (hs : Region.noSelect ops = true) (hf : Region.free md ops listed i = true) (hr : (Region.ready md ops listed).contains i = true) (hl : C.all (fun k => !(listed.getD k true)) = true)
    (hQ : ∀ c a w, Q (.panic c) (a.put oi.dst v) w → Q (.panic c) a w) (hy : YieldsIf P ops T oi v a) (hT : T w)
    (h : wpAnyL P md ops Q g T fuel (listed.setIfInBounds i true) (a.put oi.dst v) w) : wpAnyL P md ops Q g T (fuel + 1) listed a w := by
  refine L_firstC hi (fun k hk => ?_) (by simpa using hgC) hgi (Region.noSelect_spec hs) hQ fuel listed a w (Region.free_spec hi hf) (by simpa using hr) (fun k hk => ?_) hy hT h
  · have := List.all_eq_true.1 hC k hk
    unfold waits at this
    split at this
    · rename_i ok hok
      rw [Array.any_eq_true] at this
      obtain ⟨q, hq, he⟩ := this
      simp only [Bool.and_eq_true, Bool.or_eq_true, beq_iff_eq, List.contains_iff_mem] at he
      exact ⟨ok, hok, ok.after[q], Array.getElem_mem hq, he.1, he.2⟩
    · cases this
  · have := List.all_eq_true.1 hl k hk
    simpa using this
end
end Go.Proofs.Ytijjegkkeigeoaa
