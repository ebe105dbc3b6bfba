/-
  The contracts of writeHead, lay and Format, where the disk does not fail.
-/
import Derived.Test.YtnogklclkbhdnaaZk4
namespace Go.Proofs.Ytnogklclkbhdnaa
set_option linter.unusedVariables false
set_option linter.unusedSimpArgs false
set_option maxRecDepth 100000
open Go.RowKit Go.Lib

theorem pc_info : (Try.prog.info? 78).map (fun i => (i.zero, i.size, i.bytes)) = some (some (.agg pc0C), 5, 56) := by kernel_rfl
theorem pc_tinfo : ∃ q, Try.prog.info? 78 = some q ∧ q.zero = some (.agg pc0C) ∧ q.size = 5 ∧ q.bytes = 56 := by
  obtain ⟨q, hq, hz⟩ := Option.map_eq_some_iff.1 pc_info
  simp only [Prod.mk.injEq] at hz
  exact ⟨q, hq, hz.1, hz.2.1, hz.2.2⟩
/-- What stands in an area's blocks. -/
def imgF (fr mn : Nat) (D : Dk) (a : Nat) : Option Pc := if 1 ≤ a ∧ a < mn then pcOf mn (D.now.getD (fr + a) bk0) else none
theorem img_dom (fr mn : Nat) (D : Dk) : Dom mn (imgF fr mn D) := fun a q h => by
  unfold imgF at h
  split at h
  · assumption
  · cases h
def Pm.pair (x : Pm) : Nat × Pc := (x.at_, x.q)
/-- Pieces in a row of one's own. -/
structure PmRow (W : World) (base : Nat) (v : Value) (xs : List Pm) : Prop where
  row : W.ownsRow base 78 5 v xs.length (rowOf Pm.cells xs)
  ok : ∀ x ∈ xs, Pm.ok W x
theorem ownBy_keep {V W : World} {v : Value} {l : List UInt8} (h : OwnBy V v l) (hk : ∀ (b : Nat) (cs : Array Value), V.heap[b]? = some (.cells cs 5 (0, 0)) → W.heap[b]? = some (.cells cs 5 (0, 0))) : OwnBy W v l := by
  obtain ⟨a, cap, e, hc, hn, h⟩ := h
  refine ⟨a, cap, e, hc, hn, ?_⟩
  rcases h with h | ⟨b, off, cs, e, hb, hx⟩
  · exact .inl h
  · exact .inr ⟨b, off, cs, e, hk b cs hb, hx⟩
theorem ownBy_below {V W : World} {v : Value} {l : List UInt8} (h : OwnBy V v l) (hb : Below V.heap.size V W) : OwnBy W v l := ownBy_keep h (fun b cs e => (hb.block b (Array.getElem?_eq_some_iff.1 e).1).trans e)
theorem Pm.ok_below {W U : World} {x : Pm} (h : Pm.ok W x) (hb : Below W.heap.size W U) : Pm.ok U x := ⟨ownBy_below h.1 hb, h.2⟩
theorem PmRow.nil (W : World) (base : Nat) : PmRow W base (.slice none 0 0) [] := ⟨World.ownsRow_nil _ _ _ _, fun _ h => absurd h (by simp)⟩
theorem PmRow.below {W U : World} {base : Nat} {v : Value} {xs : List Pm} (h : PmRow W base v xs) (hb : Below W.heap.size W U) : PmRow U base v xs :=
  ⟨ownsRow_keep h.row (fun b cs e _ => hb.block b (Array.getElem?_eq_some_iff.1 e).1), fun x hx => Pm.ok_below (h.ok x hx) hb⟩
theorem allF_step (mn j : Nat) (P : Nat → Option Pc) (hj : 1 ≤ j) : allF (j + 1) P = allF j P ++ ((P j).map fun q => (j, q)).toList := by
  unfold allF
  rw [show j + 1 - 1 = (j - 1) + 1 by omega, List.range'_concat, List.filterMap_append]
  congr 1
  rw [show 1 + 1 * (j - 1) = j by omega, List.filterMap_cons]
  cases P j <;> rfl
theorem pm_rowL (xs : List Pm) : (rowOf Pm.cells xs).length = xs.length * 5 := rowOf_length Pm.cells 5 xs (fun x _ => x.cells_length)
/-- One more piece behind a row. -/
theorem wpList_appP {w : World} {ops : Array Oper} {rest : List Oper} {o : Oper} {a : Act} {Q : Exit → Act → World → Prop} (hgd : o.guard = none) (d s : Operand) (ho : o.op = .call { callee := .builtin .append, args := #[d, s], argTypes := #[56, 56] })
    (base : Nat) (v : Value) (xs : List Pm) (x : Pm) (b : Nat) (hd : a.eval d = v) (hs : a.eval s = .slice (some ⟨b, 0, none⟩) 1 1) (hr : PmRow w base v xs) (hx : Pm.ok w x) (hb : w.heap[b]? = some (.cells x.cells.toArray 78 (0, 0))) (hbs : base ≤ w.heap.size) (hlen : xs.length ≤ 100000)
    (h : ∀ v' w', PmRow w' base v' (xs ++ [x]) → Below base w w' → (∀ b, b < w.heap.size → v.ownBlock ≠ some b → w'.heap[b]? = w.heap[b]?) → wpList Try.prog ops Q rest (a.put o.dst v') w') : wpList Try.prog ops Q (o :: rest) a w := by
  obtain ⟨qi, hqi, hqz⟩ := pc_tinfo
  refine wpList_append_own_at _ hgd d s 56 ho base 78 qi (.agg pc0C) 5 56 Try.underlying56 hqi hqz.1 hqz.2.1 hqz.2.2 rfl (by omega) v xs.length (rowOf Pm.cells xs) hd hr.row ⟨b, 0, none⟩ 1 1 x.cells hs x.cells_length (fun j u hj => ?_) x.cells_one (by unfold maxLen; omega) (by omega) hbs ?_
  · rw [Addr.add_mid, Nat.zero_add, cell_of_row w b _ _ _ (0, 0) hb]
    simpa using hj
  · intro v' w' hown hgrow _ _
    have hown' : ∀ j, v.ownBlock = some j → base ≤ j ∧ ∃ cs, w.heap[j]? = some (.cells cs 78 (0, 0)) := fun j hj => by
      rcases hr.row.2 with ⟨h1, _⟩ | ⟨g1, c1, cur, h1, hg1, hh, _⟩
      · rw [h1] at hj; cases hj
      · rw [h1] at hj; cases hj; exact ⟨hg1, cur, hh⟩
    refine h v' w' ⟨?_, fun y hy => ?_⟩ ((Below.refl base w).grown hgrow hbs (fun j hj => (hown' j hj).1)) (fun b hb hne => hgrow.block b hb (fun e => hne e.symm))
    · rw [List.length_append, rowOf_append, rowOf_one]
      exact hown
    · have hy' : Pm.ok w y := by
        rcases List.mem_append.1 hy with hy | hy
        · exact hr.ok y hy
        · rw [List.mem_singleton.1 hy]; exact hx
      refine ⟨ownBy_keep hy'.1 (fun b' cs e => (hgrow.block b' (Array.getElem?_eq_some_iff.1 e).1 (fun e2 => ?_)).trans e), hy'.2⟩
      obtain ⟨_, cs', hcs'⟩ := hown' b' e2.symm
      rw [e] at hcs'
      cases hcs'
theorem PmRow.ownLt {W : World} {base : Nat} {v : Value} {xs : List Pm} (h : PmRow W base v xs) : ∀ b, W.heap.size ≤ b → v.ownBlock ≠ some b := fun b hb e => by
  rcases h.row.2 with ⟨h1, _⟩ | ⟨g1, c1, cur, h1, hg1, hh, _⟩
  · rw [h1] at e; cases e
  · rw [h1] at e
    cases e
    have := (Array.getElem?_eq_some_iff.1 hh).1
    simp only at hb
    omega
theorem buildP (x : Pm) (w : World) : (Instr.buildSlice 56 1 #[(0, .agg x.cells.toArray)]).run Try.prog w = .ok (.slice (some ⟨w.heap.size, 0, none⟩) 1 1) (w.alloc (.cells x.cells.toArray 78)) := by
  obtain ⟨qi, hqi, hqz⟩ := pc_tinfo
  exact buildSlice_one 56 78 qi (.agg pc0C) Try.underlying56 hqi hqz.1 x.cells.toArray (by rw [List.size_toArray, x.cells_length, hqz.2.1]) (by rw [hqz.2.1]; omega) (by rw [hqz.2.1]; omega) w
theorem storeP (x : Pm) (U : World) : (Instr.storeAt 78 (.pointer (some ⟨U.heap.size, 0, none⟩)) (.agg x.cells.toArray)).run Try.prog (U.alloc (.cells pc0C 78)) = .ok () (U.alloc (.cells x.cells.toArray 78)) :=
  run_storeAt_new U 78 pc0C x.cells.toArray (by rw [List.size_toArray, x.cells_length]; exact pc_size) (by simp [Pm.cells, pc0C]) (all_oneCell_toArray x.cells_one)
section
variable {w W : World} {p nb sb : Nat} {cv : Value} {n : Nat} {D : Dk}
theorem readPiece_any (a : Tn w W p nb sb cv n D) (fr mn i : Nat) (hi : fr + i < n) (hn : n ≤ 200) (hm : mn ≤ 200) :
    Calls Try.prog 33 #[.agg #[.pointer (some ⟨p, 0, none⟩), .int .i64 (fr : Int), .int .i64 (mn : Int)], .int .i64 (i : Int)] W fun e w' => ((pcOf mn (D.now.getD (fr + i) bk0) = none ∧ e = .returned (.tuple #[.agg pc0C, .bool false])) ∨ ∃ q ad cap, pcOf mn (D.now.getD (fr + i) bk0) = some q ∧ e = .returned (.tuple #[.agg (Pm.mk i q ad cap).cells.toArray, .bool true]) ∧ Hid (Pm.ok w' (Pm.mk i q ad cap))) ∧ Hid (Below W.heap.size W w') := by
  cases ht : (D.now.getD (fr + i) bk0).torn with
  | false => exact readPiece_ok a fr mn i hi hn hm ht
  | true =>
    refine (readPiece_torn a fr mn i hi hn ht).mono ?_
    rintro e w' ⟨rfl, hb⟩
    exact ⟨.inl ⟨by unfold pcOf; rw [if_pos ht], rfl⟩, hb⟩
set_option maxHeartbeats 2000000 in
theorem piecesA_any (a : Tn w W p nb sb cv n D) (fr mn : Nat) (hi : fr + mn ≤ n) (hn : n ≤ 200) :
    Calls Try.prog 18 #[.agg #[.pointer (some ⟨p, 0, none⟩), .int .i64 (fr : Int), .int .i64 (mn : Int)]] W fun e w' => ∃ v, e = .returned v ∧ ∃ xs : List Pm, xs.map Pm.pair = allF mn (imgF fr mn D) ∧ Hid (PmRow w' W.heap.size v xs) ∧ Hid (Below W.heap.size W w') := by
  obtain ⟨W1, hW1⟩ : ∃ W1, W.alloc (.cells #[.pointer (some ⟨p, 0, none⟩), .int .i64 (fr : Int), .int .i64 (mn : Int)] 50) = W1 := ⟨_, rfl⟩
  have hB : Below W.heap.size W W1 := by rw [← hW1]; exact (Below.refl _ W).alloc (Nat.le_refl _) _
  have hr := new_heap W (.cells #[.pointer (some ⟨p, 0, none⟩), .int .i64 (fr : Int), .int .i64 (mn : Int)] 50)
  rw [hW1] at hr
  have HC : Hid (∀ U, Below W1.heap.size W1 U → (U.cell? ⟨W.heap.size, 0, none⟩ = some (.pointer (some ⟨p, 0, none⟩)) ∧ U.cell? ⟨W.heap.size, 1, none⟩ = some (.int .i64 (fr : Int)) ∧ U.cell? ⟨W.heap.size, 2, none⟩ = some (.int .i64 (mn : Int))) ∧ Tn w U p nb sb cv n D ∧ Below W.heap.size W U) := fun U hU => by
    have hU2 : Below W.heap.size W U := hB.trans (hU.mono hB.size)
    have hr' := (hU.block _ (Array.getElem?_eq_some_iff.1 hr).1).trans hr
    exact ⟨⟨by simp [World.cell?, hr'], by simp [World.cell?, hr'], by simp [World.cell?, hr']⟩, a.below hU2, hU2⟩
  have HRd : Hid (∀ (U : World) (i : Nat), Below W1.heap.size W1 U → fr + i < n → Calls Try.prog 33 #[.agg #[.pointer (some ⟨p, 0, none⟩), .int .i64 (fr : Int), .int .i64 (mn : Int)], .int .i64 (i : Int)] U fun e w' => ((pcOf mn (D.now.getD (fr + i) bk0) = none ∧ e = .returned (.tuple #[.agg pc0C, .bool false])) ∨ ∃ q ad cap, pcOf mn (D.now.getD (fr + i) bk0) = some q ∧ e = .returned (.tuple #[.agg (Pm.mk i q ad cap).cells.toArray, .bool true]) ∧ Hid (Pm.ok w' (Pm.mk i q ad cap))) ∧ Hid (Below U.heap.size U w')) := fun U i hU h => readPiece_any (HC.out U hU).2.1 fr mn i h hn (by omega)
  have HS : Hid (W.heap.size < W1.heap.size) := (Array.getElem?_eq_some_iff.1 hr).1
  have hal := alloc_pc
  have m0 : (0 : Int) ≤ mn := by omega
  have m1 : (mn : Int) ≤ 200 := by omega
  clear a hB hr
  go_enter Try.func18, Try.ntmps18
  go_wp2_with fail
  go_loopw [2, 3] (fun v t wr => ∃ (j : Nat) (xs : List Pm), 1 ≤ j ∧ (j ≤ mn ∨ j = 1) ∧ t = .int .i64 j ∧ Hid (xs.map Pm.pair = allF j (imgF fr mn D) ∧ PmRow wr W1.heap.size v xs ∧ Below W1.heap.size W1 wr ∧ xs.length ≤ j)) (fun _ t _ => 200 - (intOf t).toNat)
  case atStart => exact ⟨1, [], by omega, .inr rfl, rfl, rfl, PmRow.nil _ _, Below.refl _ _, by simp⟩
  case round =>
    obtain ⟨j, xs, hj1, hj2, rfl, H⟩ := hrel
    obtain ⟨h1, h2, h3, h4⟩ := H.out
    obtain ⟨⟨c0, c1, c2⟩, _, hbW⟩ := HC.out wr h3
    have j0 : (0 : Int) ≤ j := by omega
    have j3 : (j : Int) ≤ 200 := by omega
    by_cases hlt : j < mn
    · have j1 : (j : Int) < mn := by omega
      have HR : Hid (Calls _ _ _ wr _) := HRd.out wr j h3 (by omega)
      have himg : imgF fr mn D j = pcOf mn (D.now.getD (fr + j) bk0) := if_pos ⟨hj1, hlt⟩
      have Hst : Hid (allF (j + 1) (imgF fr mn D) = allF j (imgF fr mn D) ++ ((pcOf mn (D.now.getD (fr + j) bk0)).map fun q => (j, q)).toList) := by
        rw [← himg]; exact allF_step mn j _ hj1
      have HH : Hid (xs.map Pm.pair = allF j (imgF fr mn D) ∧ PmRow wr W1.heap.size u2 xs ∧ Below W1.heap.size W1 wr ∧ xs.length ≤ j) := ⟨h1, h2, h3, h4⟩
      obtain ⟨pv, hpv⟩ : ∃ pv, pcOf mn (D.now.getD (fr + j) bk0) = pv := ⟨_, rfl⟩
      rw [hpv] at HR Hst
      clear H h1 h2 h3 h4 himg hpv hbW
      go_wp2_with fail
      refine HR.out.mono ?_
      rintro e w2 ⟨hres, hb2⟩
      rcases hres with ⟨rfl, rfl⟩ | ⟨q, ad, cap, rfl, rfl, hok⟩
      · have hsp := fun U : World => run_storeAt_new (P := Try.prog) U 78 pc0C pc0C (by exact pc_size) rfl (by simp [pc0C, Value.oneCell'])
        have hb3 : Below W1.heap.size W1 (w2.alloc (.cells pc0C 78)) := (HH.out.2.2.1.trans (hb2.out.mono HH.out.2.2.1.size)).alloc (Nat.le_trans HH.out.2.2.1.size hb2.out.size) _
        have hbw : Below wr.heap.size wr (w2.alloc (.cells pc0C 78)) := hb2.out.alloc hb2.out.size _
        have HN : Hid (xs.map Pm.pair = allF (j + 1) (imgF fr mn D) ∧ PmRow (w2.alloc (.cells pc0C 78)) W1.heap.size u2 xs ∧ Below W1.heap.size W1 (w2.alloc (.cells pc0C 78)) ∧ xs.length ≤ j + 1) := by
          refine ⟨?_, HH.out.2.1.below hbw, hb3, by have := HH.out.2.2.2; omega⟩
          rw [Hst.out, HH.out.1]
          simp
        clear HR hb2 hb3 hbw HH Hst
        go_wp2_with (first | (refine wpList_alloc_run rfl 78 rfl (hal _) ?_) | (refine wpList_store_run rfl 78 _ _ rfl _ _ (by rfl) (by rfl) (hsp _) ?_))
        go_roundw
        case rel => exact ⟨j + 1, xs, by omega, .inl (by omega), by go_num, HN⟩
        case measure => simp [intOf]; omega
      · obtain ⟨x, hx⟩ : ∃ x : Pm, x = Pm.mk j q ad cap := ⟨_, rfl⟩
        rw [← hx] at hok ⊢
        have hsp := storeP x
        have hbd := buildP x
        have s2 : w2.heap.size < (w2.alloc (.cells x.cells.toArray 78)).heap.size := by simp
        have hld := load_pm x (range0 (new_heap w2 (.cells x.cells.toArray 78)))
        obtain ⟨w3, hw3⟩ : ∃ w3, (w2.alloc (.cells x.cells.toArray 78)).alloc (.cells x.cells.toArray 78) = w3 := ⟨_, rfl⟩
        obtain ⟨_, hn2, hn3⟩ := two_new w2 (.cells x.cells.toArray 78) (.cells x.cells.toArray 78)
        rw [hw3] at hn2 hn3
        have hb3 : Below W1.heap.size W1 w3 := (HH.out.2.2.1.trans (hb2.out.mono HH.out.2.2.1.size)).trans (hn3.mono (Nat.le_trans HH.out.2.2.1.size hb2.out.size))
        have hbw : Below wr.heap.size wr w3 := hb2.out.trans (hn3.mono hb2.out.size)
        have HApp : Hid (PmRow w3 W1.heap.size u2 xs ∧ Pm.ok w3 x ∧ w3.heap[w2.heap.size + 1]? = some (.cells x.cells.toArray 78 (0, 0)) ∧ W1.heap.size ≤ w3.heap.size ∧ xs.length ≤ 100000) :=
          ⟨HH.out.2.1.below hbw, Pm.ok_below hok.out hn3, hn2, hb3.size, by have := HH.out.2.2.2; omega⟩
        have HB3 : Hid (Below W1.heap.size W1 w3) := hb3
        have HM : Hid ((xs ++ [x]).map Pm.pair = allF (j + 1) (imgF fr mn D) ∧ (xs ++ [x]).length ≤ j + 1) := by
          constructor
          · rw [Hst.out, List.map_append, HH.out.1, hx]
            rfl
          · have := HH.out.2.2.2
            simp; omega
        clear HR hb2 hb3 hbw HH Hst hok hn2 hn3 hx s2
        subst hw3
        go_wp2_with (first | (refine wpList_alloc_run rfl 78 rfl (hal _) ?_) | (refine wpList_store_run rfl 78 _ _ rfl _ _ (by rfl) (by rfl) (hsp _) ?_) | (refine wpList_load_run rfl 78 _ rfl _ (by rfl) hld ?_) | (refine wpList_buildSlice_run rfl 56 1 #[(0, .tmp 20)] rfl #[(0, .agg x.cells.toArray)] (by first | rfl | simp [Act.eval, Act.put]) (hbd _) ?_) | (at_builtin; go_loud (refine wpList_appP rfl (.tmp 19) (.tmp 21) rfl W1.heap.size u2 xs x (w2.heap.size + 1) (by rfl) (by simp [Act.eval, Act.put]) HApp.out.1 HApp.out.2.1 HApp.out.2.2.1 HApp.out.2.2.2.1 HApp.out.2.2.2.2 ?_); intro v' w4 hr4 hb4 _))
        have HN : Hid ((xs ++ [x]).map Pm.pair = allF (j + 1) (imgF fr mn D) ∧ PmRow w4 W1.heap.size v' (xs ++ [x]) ∧ Below W1.heap.size W1 w4 ∧ (xs ++ [x]).length ≤ j + 1) := ⟨HM.out.1, hr4, HB3.out.trans hb4, HM.out.2⟩
        clear hr4 hb4 HApp HM HB3
        go_wp2_with fail
        go_roundw
        case rel => exact ⟨j + 1, xs ++ [x], by omega, .inl (by omega), by go_num, HN⟩
        case measure => simp [intOf]; omega
    · have j1 : ¬ (j : Int) < mn := by omega
      have HE : Hid (xs.map Pm.pair = allF mn (imgF fr mn D) ∧ PmRow wr W.heap.size u2 xs ∧ Below W.heap.size W wr) := by
        refine ⟨?_, ⟨?_, h2.ok⟩, hbW⟩
        · rw [h1]
          rcases hj2 with h | h
          · rw [show j = mn by omega]
          · subst h
            unfold allF
            rw [show mn - 1 = 0 by omega]
        · rcases h2.row.2 with ⟨e1, e2⟩ | ⟨g, cap, cur, e, hg, r⟩
          · exact ⟨h2.row.1, .inl ⟨e1, e2⟩⟩
          · exact ⟨h2.row.1, .inr ⟨g, cap, cur, e, by have := HS.out; omega, r⟩⟩
      clear H h1 h2 h3 h4 hbW HC HRd
      go_wp2_with fail
      go_ret
      exact ⟨u2, rfl, xs, HE.out.1, HE.out.2.1, HE.out.2.2⟩
end
end Go.Proofs.Ytnogklclkbhdnaa

namespace Go.Proofs.Ytnogklclkbhdnaa
set_option linter.unusedVariables false
set_option linter.unusedSimpArgs false
set_option maxRecDepth 100000
open Go.RowKit Go.Lib
def mkB : List UInt8 := [255, 113, 100, 32, 108, 111, 103]
/-- A head's bytes. -/
def lhB (mn since : Nat) : List UInt8 := (mkB ++ [UInt8.ofNat mn]) ++ w2B since
theorem lhB_length (mn since : Nat) : (lhB mn since).length = 10 := by simp [lhB, mkB, w2B]
theorem mk_zero : ((txt (List.replicate 7 0)).toList == [255, 113, 100, 32, 108, 111, 103]) = false := by
  rw [ByteArray.toList_eq]
  decide
theorem mk_mark : ((txt mkB).toList == [255, 113, 100, 32, 108, 111, 103]) = true := by
  rw [ByteArray.toList_eq]
  decide
section
variable {w W : World} {p nb sb : Nat} {cv : Value} {n : Nat} {D : Dk}
theorem readLHead_none (a : Tn w W p nb sb cv n D) (fr mn : Nat) (hi : fr < n) (hn : n ≤ 200) (hz : D.now.getD fr bk0 = bk0) :
    Calls Try.prog 14 #[.agg #[.pointer (some ⟨p, 0, none⟩), .int .i64 (fr : Int), .int .i64 (mn : Int)]] W fun e w' => e = .returned (.tuple #[.int .i64 0, .bool false]) ∧ Hid (Below W.heap.size W w') := by
  obtain ⟨W1, hW1⟩ : ∃ W1, W.alloc (.cells #[.pointer (some ⟨p, 0, none⟩), .int .i64 (fr : Int), .int .i64 (mn : Int)] 50) = W1 := ⟨_, rfl⟩
  have hB : Below W.heap.size W W1 := by rw [← hW1]; exact (Below.refl _ W).alloc (Nat.le_refl _) _
  have hr := new_heap W (.cells #[.pointer (some ⟨p, 0, none⟩), .int .i64 (fr : Int), .int .i64 (mn : Int)] 50)
  rw [hW1] at hr
  have c0 : W1.cell? ⟨W.heap.size, 0, none⟩ = some (.pointer (some ⟨p, 0, none⟩)) := by simp [World.cell?, hr]
  have c1 : W1.cell? ⟨W.heap.size, 1, none⟩ = some (.int .i64 (fr : Int)) := by simp [World.cell?, hr]
  have HR : Hid (Calls _ _ _ W1 _) := tn_read (a.below hB) fr hi (by rw [hz]; rfl)
  rw [hz] at HR
  have HB : Hid (Below W.heap.size W W1) := hB
  have f0 : (0 : Int) ≤ fr := by omega
  have f1 : (fr : Int) < 200 := by omega
  obtain ⟨T, hT⟩ : ∃ T, txt (List.replicate 7 0) = T := ⟨_, rfl⟩
  have hmk := mk_zero
  rw [hT] at hmk
  clear a hz hB hr
  go_enter Try.func14, Try.ntmps14
  go_wp2_with fail
  refine HR.out.mono ?_
  rintro e w1 ⟨rfl, _, hrow, hs⟩
  have hstr : ∀ k, (convert 34 9 (.slice (some ⟨W1.heap.size, 0, none⟩) 7 64)).run Try.prog (w1.drewN k) = .ok (.string T) (w1.drewN k) := fun k => by
    have h1 := isBy_row hrow.out 7 (by simp [bk0]) 64 (by omega)
    have h2 := run_str (w1.drewN k) (some ⟨W1.heap.size, 0, none⟩) (List.replicate 7 0) 64 (by
      have := h1.below ((Still.drewN w1 k).below _)
      simpa [bk0] using this)
    rw [hT] at h2
    exact h2
  have HB1 : Hid (Below W.heap.size W w1) := HB.out.trans (hs.out.mono HB.out.size)
  clear HR hrow hs HB c0 c1
  go_wp2_with fail
  go_quiet (fail)
  rename Nat => nq
  have HE : Hid (Below W.heap.size W (w1.drewN nq)) := HB1.out.trans ((Still.drewN w1 nq).below _)
  clear hstr HB1
  go_wp2
  go_ret2
  exact ⟨rfl, HE⟩
theorem lh_take (mn since : Nat) : (padB (lhB mn since)).take 7 = mkB := by
  unfold padB lhB
  rw [List.append_assoc, List.append_assoc, List.take_append_of_le_length (by decide)]
  rfl
theorem lh_many (mn since : Nat) : (padB (lhB mn since))[7]? = some (UInt8.ofNat mn) := by
  unfold padB lhB
  rw [List.append_assoc, List.append_assoc]
  rfl
theorem lh_since (mn since : Nat) : (padB (lhB mn since)).drop 8 = w2B since ++ List.replicate 54 0 := by
  unfold padB
  rw [lhB_length]
  unfold lhB
  rw [List.append_assoc, List.drop_append_of_le_length (by simp [mkB]), List.drop_eq_nil_of_le (by simp [mkB])]
  rfl
theorem wordN_w2B (k : Nat) (h : k < 65536) : wordN (w2B k) = k := by
  unfold wordN w2B
  simp only [List.getD_cons_zero, List.getD_cons_succ, UInt8.toNat_ofNat']
  omega
theorem readLHead_some (a : Tn w W p nb sb cv n D) (fr mn since : Nat) (hi : fr < n) (hn : n ≤ 200) (hm : mn ≤ 200) (hsn : since < 65536) (hz : D.now.getD fr bk0 = ⟨padB (lhB mn since), false⟩) :
    Calls Try.prog 14 #[.agg #[.pointer (some ⟨p, 0, none⟩), .int .i64 (fr : Int), .int .i64 (mn : Int)]] W fun e w' => e = .returned (.tuple #[.int .i64 (since : Int), .bool true]) ∧ Hid (Below W.heap.size W w') := by
  obtain ⟨W1, hW1⟩ : ∃ W1, W.alloc (.cells #[.pointer (some ⟨p, 0, none⟩), .int .i64 (fr : Int), .int .i64 (mn : Int)] 50) = W1 := ⟨_, rfl⟩
  have hB : Below W.heap.size W W1 := by rw [← hW1]; exact (Below.refl _ W).alloc (Nat.le_refl _) _
  have hr := new_heap W (.cells #[.pointer (some ⟨p, 0, none⟩), .int .i64 (fr : Int), .int .i64 (mn : Int)] 50)
  rw [hW1] at hr
  have c0 : W1.cell? ⟨W.heap.size, 0, none⟩ = some (.pointer (some ⟨p, 0, none⟩)) := by simp [World.cell?, hr]
  have c1 : W1.cell? ⟨W.heap.size, 1, none⟩ = some (.int .i64 (fr : Int)) := by simp [World.cell?, hr]
  have Hc2 : Hid (W.heap.size < W1.heap.size ∧ W1.cell? ⟨W.heap.size, 2, none⟩ = some (.int .i64 (mn : Int))) := ⟨(Array.getElem?_eq_some_iff.1 hr).1, by simp [World.cell?, hr]⟩
  have HR : Hid (Calls _ _ _ W1 _) := tn_read (a.below hB) fr hi (by rw [hz])
  rw [hz] at HR
  have HB : Hid (Below W.heap.size W W1) := hB
  have f0 : (0 : Int) ≤ fr := by omega
  have f1 : (fr : Int) < 200 := by omega
  obtain ⟨T, hT⟩ : ∃ T, txt mkB = T := ⟨_, rfl⟩
  have hmk := mk_mark
  rw [hT] at hmk
  have HW2 : Hid (∀ (u : World) (G : Nat), u.heap[G]? = some (.cells (byC (padB (lhB mn since))).toArray 5 (0, 0)) → Calls Try.prog 30 #[.slice (some ⟨G, 8, none⟩) 2 56] u fun e w' => e = .returned (.int .i64 (since : Int)) ∧ ∃ k, w' = u.drewN k) := fun u G hu => by
    have := word_at (some ⟨G, 8, none⟩) (w2B since) 56 u ⟨by simp [w2B], .inr ⟨G, 8, rfl, (Array.getElem?_eq_some_iff.1 hu).1, fun k hk => by
      rw [cell_of_row _ _ _ _ _ (0, 0) hu, List.getElem?_toArray]
      have hk2 : k < 2 := hk
      have hl : (padB (lhB mn since)).length = 64 := padB_length _ (by rw [lhB_length]; omega)
      rw [byC_get _ (8 + k) (by omega)]
      have e1 : (padB (lhB mn since))[8 + k]? = (w2B since)[k]? := by
        rw [← List.getElem?_drop, lh_since, List.getElem?_append_left hk]
      rw [List.getElem?_eq_getElem (by omega), List.getElem?_eq_getElem hk] at e1
      rw [Option.some.inj e1]⟩⟩ (by simp [w2B]) (by simp [w2B])
    rw [wordN_w2B since hsn] at this
    exact this
  have hby : ((UInt8.ofNat mn).toNat : Int) = (mn : Int) := by
    rw [UInt8.toNat_ofNat']
    omega
  have Hby : Hid (((UInt8.ofNat mn).toNat : Int) = (mn : Int)) := hby
  have m0 : (0 : Int) ≤ mn := by omega
  have m1 : (mn : Int) ≤ 200 := by omega
  clear a hz hB hr hby
  go_enter Try.func14, Try.ntmps14
  go_wp2_with fail
  refine HR.out.mono ?_
  rintro e w1 ⟨rfl, _, hrow, hs⟩
  have hstr : ∀ k, (convert 34 9 (.slice (some ⟨W1.heap.size, 0, none⟩) 7 64)).run Try.prog (w1.drewN k) = .ok (.string T) (w1.drewN k) := fun k => by
    have h1 := isBy_row hrow.out 7 (by show 7 ≤ (padB (lhB mn since)).length; rw [padB_length _ (by rw [lhB_length]; omega)]; omega) 64 (by omega)
    rw [lh_take] at h1
    have h2 := run_str (w1.drewN k) (some ⟨W1.heap.size, 0, none⟩) mkB 64 (h1.below ((Still.drewN w1 k).below _))
    rw [hT] at h2
    exact h2
  have c7 : w1.cell? ⟨W1.heap.size, 7, none⟩ = some (.int .u8 (mn : Int)) := by
    rw [cell_of_row _ _ _ _ _ (0, 0) hrow.out, List.getElem?_toArray]
    have hl : 7 < (padB (lhB mn since)).length := by rw [padB_length _ (by rw [lhB_length]; omega)]; omega
    have e7 := lh_many mn since
    rw [List.getElem?_eq_getElem hl] at e7
    rw [byC_get _ 7 hl, Option.some.inj e7, Hby.out]
  have c2 : w1.cell? ⟨W.heap.size, 2, none⟩ = some (.int .i64 (mn : Int)) := (hs.out.cell (p := ⟨W.heap.size, 2, none⟩) Hc2.out.1).trans Hc2.out.2
  have HB1 : Hid (Below W.heap.size W w1) := HB.out.trans (hs.out.mono HB.out.size)
  have Hrow : Hid (w1.heap[W1.heap.size]? = some (.cells (byC (padB (lhB mn since))).toArray 5 (0, 0))) := hrow.out
  clear HR hrow hs HB c0 c1 Hc2
  go_wp2_with fail
  go_quiet (fail)
  rename Nat => nq
  have HE : Hid (Below W.heap.size W (w1.drewN nq)) := HB1.out.trans ((Still.drewN w1 nq).below _)
  have HWc : Hid (Calls _ _ _ (w1.drewN nq) _) := HW2.out (w1.drewN nq) W1.heap.size Hrow.out
  clear hstr HB1 HW2 Hrow
  go_wp2_with fail
  refine HWc.out.mono ?_
  rintro e w3 ⟨rfl, hk⟩
  have HE3 : Hid (Below W.heap.size W w3) := by
    obtain ⟨k, rfl⟩ := hk
    exact HE.out.trans ((Still.drewN _ k).below _)
  clear hk HWc HE
  go_wp2
  go_ret2
  exact ⟨rfl, HE3⟩
end
end Go.Proofs.Ytnogklclkbhdnaa

namespace Go.Proofs.Ytnogklclkbhdnaa
set_option linter.unusedVariables false
set_option linter.unusedSimpArgs false
set_option maxRecDepth 100000
open Go.RowKit Go.Lib
section
variable {w W : World} {p nb sb : Nat} {cv : Value} {n : Nat} {D : Dk}
/-- A piece's box beside an area's. -/
theorem box_facts (W : World) (X Y : Array Value) (t t' : TypeId) : ∀ U, Below (W.heap.size + 2) ((W.alloc (.cells X t)).alloc (.cells Y t')) U → U.heap[W.heap.size]? = some (.cells X t (0, 0)) ∧ U.heap[W.heap.size + 1]? = some (.cells Y t' (0, 0)) ∧ Below W.heap.size W U := by
  intro U hU
  obtain ⟨h1, h2, h3⟩ := two_new W (.cells X t) (.cells Y t')
  have hs : ((W.alloc (.cells X t)).alloc (.cells Y t')).heap.size = W.heap.size + 2 := by simp
  exact ⟨(hU.block _ (by omega)).trans h1, (hU.block _ (by omega)).trans h2, h3.trans (hU.mono (by omega))⟩
set_option maxHeartbeats 2000000 in
theorem writePieceA (a : Tn w W p nb sb cv n D) (fr mn : Nat) (x : Pm) (hx : IsBy W x.a x.q.byt x.cap) (hxa : x.cap = 0 ∨ x.a ≠ none) (hi : fr + x.at_ < n) (hn : n ≤ 200) (hl : x.q.byt.length ≤ 60) (hnum : x.q.num < 256) (hsit : x.q.sit < 65536) (hs : D.lim 1000000) :
    Calls Try.prog 43 #[.agg #[.pointer (some ⟨p, 0, none⟩), .int .i64 (fr : Int), .int .i64 (mn : Int)], .agg x.cells.toArray] W fun e w' => e = .returned (enE (wrR D (fr + x.at_) (pcB x.q)).1) ∧ ∃ cv', Hid (Tn w w' p nb sb cv' n (wrR D (fr + x.at_) (pcB x.q)).2) ∧ Hid (Keeps w.heap.size dkT W w') := by
  obtain ⟨at_, ⟨num, sit, fst, byt⟩, ad, cap⟩ := x
  simp only at hx hxa hi hl hnum hsit
  simp only [Pm.cells]
  obtain ⟨W0, hW0⟩ : ∃ W0, (W.alloc (.cells #[.pointer (some ⟨p, 0, none⟩), .int .i64 (fr : Int), .int .i64 (mn : Int)] 50)).alloc (.cells #[.int .i64 (at_ : Int), .int .i64 (num : Int), .int .i64 (sit : Int), .bool fst, .slice ad byt.length cap] 78) = W0 := ⟨_, rfl⟩
  have hbx := box_facts W #[.pointer (some ⟨p, 0, none⟩), .int .i64 (fr : Int), .int .i64 (mn : Int)] #[.int .i64 (at_ : Int), .int .i64 (num : Int), .int .i64 (sit : Int), .bool fst, .slice ad byt.length cap] 50 78
  have hs0 : W0.heap.size = W.heap.size + 2 := by rw [← hW0]; simp
  rw [hW0] at hbx
  have HS0 : Hid (W0.heap.size = W.heap.size + 2) := hs0
  have HF : Hid (∀ U, Below (W.heap.size + 2) W0 U → (U.cell? ⟨W.heap.size, 0, none⟩ = some (.pointer (some ⟨p, 0, none⟩)) ∧ U.cell? ⟨W.heap.size, 1, none⟩ = some (.int .i64 (fr : Int))) ∧ (U.cell? ⟨W.heap.size + 1, 0, none⟩ = some (.int .i64 (at_ : Int)) ∧ U.cell? ⟨W.heap.size + 1, 1, none⟩ = some (.int .i64 (num : Int)) ∧ U.cell? ⟨W.heap.size + 1, 2, none⟩ = some (.int .i64 (sit : Int)) ∧ U.cell? ⟨W.heap.size + 1, 3, none⟩ = some (.bool fst) ∧ U.cell? ⟨W.heap.size + 1, 4, none⟩ = some (.slice ad byt.length cap)) ∧ Tn w U p nb sb cv n D ∧ IsBy U ad byt cap ∧ Below W.heap.size W U) := fun U hU => by
    obtain ⟨h1, h2, h3⟩ := hbx U hU
    exact ⟨⟨by simp [World.cell?, h1], by simp [World.cell?, h1]⟩, ⟨by simp [World.cell?, h2], by simp [World.cell?, h2], by simp [World.cell?, h2], by simp [World.cell?, h2], by simp [World.cell?, h2]⟩, a.below h3, hx.below h3, h3⟩
  obtain ⟨mb, hmb⟩ : ∃ mb : Nat, byt.length + (if fst = true then 128 else 0) = mb := ⟨_, rfl⟩
  have hmb1 : mb < 256 := by rw [← hmb]; split <;> omega
  have HAdd : Hid (∀ (U : World) (B : Nat), Below (W.heap.size + 2) W0 U → U.heap[B]? = some (.cells #[.int .u8 (num : Int)] 5 (0, 0)) → W.heap.size + 2 ≤ B → Calls Try.prog 22 #[.slice (some ⟨B, 0, none⟩) 1 1, .int .i64 (sit : Int)] U fun e w' => ∃ v', e = .returned v' ∧ Hid (ByRow w' (W.heap.size + 2) v' ([UInt8.ofNat num] ++ w2B sit)) ∧ Hid (Below (W.heap.size + 2) W0 w')) := fun U B hU hB hlo => by
    have hrow : ByRow U (W.heap.size + 2) (.slice (some ⟨B, 0, none⟩) 1 1) [UInt8.ofNat num] := by
      refine ⟨rfl, .inr ⟨B, 1, _, rfl, hlo, hB, Nat.le_refl _, by unfold maxLen; omega, rfl, ?_⟩⟩
      simp [byC]
      omega
    have := hU.size
    refine (addWord_any (W.heap.size + 2) _ [UInt8.ofNat num] sit U hrow (by omega) (by simp) hsit).mono ?_
    rintro e w' ⟨v', rfl, h1, h2, _, _⟩
    exact ⟨v', rfl, h1, hU.trans h2.out⟩
  have HWr : Hid (∀ (U : World) (a' : Option Addr) (c' : Nat), Below (W.heap.size + 2) W0 U → IsBy U a' (pcB ⟨num, sit, fst, byt⟩) c' → Calls Try.prog 31 #[.pointer (some ⟨p, 0, none⟩), .int .i64 ((fr : Int) + (at_ : Int)), .slice a' (pcB ⟨num, sit, fst, byt⟩).length c'] U fun e w' => e = .returned (enE (wrR D (fr + at_) (pcB ⟨num, sit, fst, byt⟩)).1) ∧ ∃ cv', Hid (Tn w w' p nb sb cv' n (wrR D (fr + at_) (pcB ⟨num, sit, fst, byt⟩)).2) ∧ Hid (Keeps w.heap.size dkT W w')) := fun U a' c' hU hB => by
    obtain ⟨_, _, ht, _, hb⟩ := HF.out U hU
    have := tn_wrR ht (fr + at_) a' (pcB ⟨num, sit, fst, byt⟩) c' hi (by rw [pcB_length]; simp only; omega) hn hs hB
    rw [show ((fr + at_ : Nat) : Int) = (fr : Int) + (at_ : Int) by omega] at this
    refine this.mono ?_
    rintro e w' ⟨rfl, cv', h1, h2⟩
    exact ⟨rfl, cv', h1, (Keeps.of_below hb).trans h2.out⟩
  have HPc : Hid (pcB ⟨num, sit, fst, byt⟩ = (([UInt8.ofNat num] ++ w2B sit) ++ [UInt8.ofNat mb]) ++ byt) := by
    unfold Hid pcB
    rw [← hmb]
  have hxl : (byt.length : Int) ≤ 60 := by omega
  have hx0 : (0 : Int) ≤ byt.length := by omega
  have n0 : (0 : Int) ≤ num := by omega
  have n1 : (num : Int) < 256 := by omega
  have t0 : (0 : Int) ≤ sit := by omega
  have t1 : (sit : Int) < 65536 := by omega
  have f0 : (0 : Int) ≤ fr := by omega
  have a0 : (0 : Int) ≤ at_ := by omega
  have fa : (fr : Int) + at_ < 200 := by omega
  have hwl : IntKind.u8.wrap (byt.length : Int) = (byt.length : Int) := by rw [IntKind.wrap_u8]; omega
  have hwn : IntKind.u8.wrap (num : Int) = (num : Int) := by rw [IntKind.wrap_u8]; omega
  have hor := or_mark byt.length (by omega)
  obtain ⟨ol, hol⟩ : ∃ ol : Nat, byt.length + 128 = ol := ⟨_, rfl⟩
  rw [hol] at hor
  obtain ⟨⟨c0, c1⟩, ⟨d0, d1, d2, d3, d4⟩, _⟩ := HF.out W0 (Below.refl _ _)
  have HC : Hid (cap = 0 ∨ ad ≠ none) := hxa
  have HL : Hid (byt.length ≤ 60) := hl
  have hfm : (if fst = true then ol else byt.length) = mb := by rw [← hmb, ← hol]; cases fst <;> rfl
  obtain ⟨pc, hpc⟩ : ∃ pc, pcB ⟨num, sit, fst, byt⟩ = pc := ⟨_, rfl⟩
  rw [hpc] at HWr HPc
  simp only [hpc]
  clear a hx hbx hxa hi hl hpc hmb hol hs0
  have HMb : Hid (mb < 256 ∧ byt.length ≤ 60) := ⟨hmb1, HL.out⟩
  have hlt0 : W.heap.size < W0.heap.size := by rw [HS0.out]; omega
  have hlt1 : W.heap.size + 1 < W0.heap.size := by rw [HS0.out]; omega
  have HFm : Hid ((if fst = true then ol else byt.length) = mb) := hfm
  clear hfm hmb1
  cases fst
  all_goals
    have hfm' := HFm.out
    simp only [if_true, Bool.false_eq_true, if_false] at hfm'
    rw [← hfm'] at HPc HMb
    clear hfm' HFm
  · go_enter Try.func43, Try.ntmps43
    go_upto_region 4 with fail
    obtain ⟨W2, hW2⟩ : ∃ W2, W0.alloc (.cells #[.int .u8 (num : Int)] 5) = W2 := ⟨_, rfl⟩
    have hb2 : Below (W.heap.size + 2) W0 W2 := by rw [← hW2]; exact (Below.refl _ W0).alloc (by rw [HS0.out]; exact Nat.le_refl _) _
    have hr2 := new_heap W0 (.cells #[.int .u8 (num : Int)] 5)
    rw [hW2] at hr2
    obtain ⟨_, ⟨_, _, e2, _, _⟩, _⟩ := HF.out W2 hb2
    have HA2 : Hid (Calls _ _ _ W2 _) := HAdd.out W2 W0.heap.size hb2 hr2 (by rw [HS0.out]; exact Nat.le_refl _)
    clear hb2 hr2 HAdd
    go_wp2_with fail
    refine HA2.out.mono ?_
    rintro e w3 ⟨v3, rfl, hr3, hb3⟩
    obtain ⟨av3, cv3, rfl, _⟩ := hr3.out.isBy
    have hl3 : ([UInt8.ofNat num] ++ w2B sit).length = 3 := by simp [w2B]
    rw [hl3]
    have hb4 : Below (W.heap.size + 2) W0 (w3.alloc (.cells #[.int .u8 (byt.length : Int)] 5)) := hb3.out.alloc (by have := hb3.out.size; rw [HS0.out] at this; exact this) _
    have HR4 : Hid (ByRow (w3.alloc (.cells #[.int .u8 (byt.length : Int)] 5)) (W.heap.size + 2) (.slice av3 3 cv3) ([UInt8.ofNat num] ++ w2B sit)) := by
      have := hr3.out.below ((Below.refl _ w3).alloc (Nat.le_refl _) (.cells #[.int .u8 (byt.length : Int)] 5))
      rw [hl3] at this
      exact this
    have HM4 : Hid (IsBy (w3.alloc (.cells #[.int .u8 (byt.length : Int)] 5)) (some ⟨w3.heap.size, 0, none⟩) [UInt8.ofNat (byt.length)] 1) := by
      have := isBy_new w3 [UInt8.ofNat (byt.length)]
      rw [show (byC [UInt8.ofNat (byt.length)]).toArray = #[.int .u8 (byt.length : Int)] by
        have := HMb.out.1
        simp [byC]
        omega] at this
      exact this
    have hsz : W.heap.size + 2 ≤ (w3.alloc (.cells #[.int .u8 (byt.length : Int)] 5)).heap.size := by have := hb4.size; rw [HS0.out] at this; exact this
    have HB4 : Hid (Below (W.heap.size + 2) W0 (w3.alloc (.cells #[.int .u8 (byt.length : Int)] 5))) := hb4
    have HSZ : Hid (W.heap.size + 2 ≤ (w3.alloc (.cells #[.int .u8 (byt.length : Int)] 5)).heap.size) := hsz
    clear HA2 hr3 hb3 hb4 hsz hl3
    go_wp2_with (at_builtin; refine wpList_appB rfl (.tmp 21) (.tmp 23) rfl (W.heap.size + 2) (.slice av3 3 cv3) ([UInt8.ofNat num] ++ w2B sit) (some ⟨w3.heap.size, 0, none⟩) [UInt8.ofNat (byt.length)] 1 1 (by rfl) (by rfl) rfl HR4.out HM4.out (.inr (by simp)) HSZ.out (by simp [w2B]) ?_; intro v5 w5 hr5 hb5 _ _)
    obtain ⟨av5, cv5, rfl, _⟩ := hr5.isBy
    have hl5 : (([UInt8.ofNat num] ++ w2B sit) ++ [UInt8.ofNat (byt.length)]).length = 4 := by simp [w2B]
    rw [hl5] at hr5 ⊢
    have HR5 : Hid (ByRow w5 (W.heap.size + 2) (.slice av5 4 cv5) (([UInt8.ofNat num] ++ w2B sit) ++ [UInt8.ofNat (byt.length)])) := hr5
    have HB5 : Hid (Below (W.heap.size + 2) W0 w5) := HB4.out.trans hb5
    clear HR4 HM4 HB4 HSZ hr5 hb5 hl5
    go_upto_region 5 with fail
    have HT : Hid (Below (W.heap.size + 2) W0 w5.drew ∧ ByRow w5.drew (W.heap.size + 2) (.slice av5 4 cv5) (([UInt8.ofNat num] ++ w2B sit) ++ [UInt8.ofNat (byt.length)])) := ⟨HB5.out.trans ⟨rfl, rfl, rfl, Nat.le_refl _, fun _ _ => rfl⟩, HR5.out⟩
    refine wp_region_drawn (by kernel_rfl) ?_
    clear HR5 HB5
    generalize w5.drew = v2 at *
    clear c0 c1 d0 d1 d2 d3 d4 e2
    refine wpAny_take (i := 0) (v := .pointer (some ⟨W.heap.size, 0, none⟩)) rfl (by kernel_rfl) (by kernel_rfl) (by kernel_rfl) (fun _ _ _ h => h) (Or.inl ⟨by rfl, fun w => by go_simp⟩) ?_
    simp only [Act.put, List.getElem_toArray, List.getElem_cons_succ, List.getElem_cons_zero, List.setIfInBounds_toArray, List.set_cons_zero, List.set_cons_succ]
    refine wpAny_take (i := 2) (v := .pointer (some ⟨W.heap.size, 1, none⟩)) rfl (by kernel_rfl) (by kernel_rfl) (by kernel_rfl) (fun _ _ _ h => h) (Or.inl ⟨by rfl, fun w => by go_simp⟩) ?_
    simp only [Act.put, List.getElem_toArray, List.getElem_cons_succ, List.getElem_cons_zero, List.setIfInBounds_toArray, List.set_cons_zero, List.set_cons_succ]
    refine wpAny_take (i := 4) (v := .pointer (some ⟨W.heap.size + 1, 0, none⟩)) rfl (by kernel_rfl) (by kernel_rfl) (by kernel_rfl) (fun _ _ _ h => h) (Or.inl ⟨by rfl, fun w => by go_simp⟩) ?_
    simp only [Act.put, List.getElem_toArray, List.getElem_cons_succ, List.getElem_cons_zero, List.setIfInBounds_toArray, List.set_cons_zero, List.set_cons_succ]
    refine wpAny_take (i := 7) (v := .slice av5 4 cv5) rfl (by kernel_rfl) (by kernel_rfl) (by kernel_rfl) (fun _ _ _ h => h) (Or.inl ⟨by rfl, fun w => by go_simp⟩) ?_
    simp only [Act.put, List.getElem_toArray, List.getElem_cons_succ, List.getElem_cons_zero, List.setIfInBounds_toArray, List.set_cons_zero, List.set_cons_succ]
    refine wpAny_take (i := 8) (v := .pointer (some ⟨W.heap.size + 1, 4, none⟩)) rfl (by kernel_rfl) (by kernel_rfl) (by kernel_rfl) (fun _ _ _ h => h) (Or.inl ⟨by rfl, fun w => by go_simp⟩) ?_
    simp only [Act.put, List.getElem_toArray, List.getElem_cons_succ, List.getElem_cons_zero, List.setIfInBounds_toArray, List.set_cons_zero, List.set_cons_succ]
    refine any_of_L (g := 11) (T := fun u => Below (W.heap.size + 2) W0 u) _ _ _ _ ?_
    refine L_take (i := 1) (v := .pointer (some ⟨p, 0, none⟩)) rfl rfl (by kernel_rfl) (by decide) (by kernel_rfl) (by kernel_rfl) (by kernel_rfl) (by kernel_rfl) (fun _ _ _ h => h) (Or.inl ⟨by rfl, fun w' hw' => by have c0 := (HF.out w' hw').1.1; clear hw'; go_simp⟩) HT.out.1 ?_
    simp only [Act.put, List.getElem_toArray, List.getElem_cons_succ, List.getElem_cons_zero, List.setIfInBounds_toArray, List.set_cons_zero, List.set_cons_succ]
    refine L_take2 (i := 3) (m := 6) (v := .int .i64 (fr : Int)) rfl rfl rfl (by kernel_rfl) (by kernel_rfl) (by decide) (by kernel_rfl) (by kernel_rfl) (by kernel_rfl) (by kernel_rfl) (by kernel_rfl) (fun _ _ _ h => h) (Or.inl ⟨by rfl, fun w' hw' => by have c0 := (HF.out w' hw').1.2; clear hw'; go_simp⟩) HT.out.1 ?_
    simp only [Act.put, List.getElem_toArray, List.getElem_cons_succ, List.getElem_cons_zero, List.setIfInBounds_toArray, List.set_cons_zero, List.set_cons_succ]
    refine L_take2 (i := 5) (m := 6) (v := .int .i64 (at_ : Int)) rfl rfl rfl (by kernel_rfl) (by kernel_rfl) (by decide) (by kernel_rfl) (by kernel_rfl) (by kernel_rfl) (by kernel_rfl) (by kernel_rfl) (fun _ _ _ h => h) (Or.inl ⟨by rfl, fun w' hw' => by have c0 := (HF.out w' hw').2.1.1; clear hw'; go_simp⟩) HT.out.1 ?_
    simp only [Act.put, List.getElem_toArray, List.getElem_cons_succ, List.getElem_cons_zero, List.setIfInBounds_toArray, List.set_cons_zero, List.set_cons_succ]
    refine L_take (i := 6) (v := .int .i64 ((fr : Int) + (at_ : Int))) rfl rfl (by kernel_rfl) (by decide) (by kernel_rfl) (by kernel_rfl) (by kernel_rfl) (by kernel_rfl) (fun _ _ _ h => h) (Or.inl ⟨by rfl, fun w' hw' => by clear hw'; have hwr : IntKind.i64.wrap ((fr : Int) + (at_ : Int)) = (fr : Int) + (at_ : Int) := (by rw [IntKind.wrap_i64]; omega); go_simp⟩) HT.out.1 ?_
    simp only [Act.put, List.getElem_toArray, List.getElem_cons_succ, List.getElem_cons_zero, List.setIfInBounds_toArray, List.set_cons_zero, List.set_cons_succ]
    refine L_take2 (i := 9) (m := 10) (v := .slice ad byt.length cap) rfl rfl rfl (by kernel_rfl) (by kernel_rfl) (by decide) (by kernel_rfl) (by kernel_rfl) (by kernel_rfl) (by kernel_rfl) (by kernel_rfl) (fun _ _ _ h => h) (Or.inl ⟨by rfl, fun w' hw' => by have c0 := (HF.out w' hw').2.1.2.2.2.2; clear hw'; go_simp⟩) HT.out.1 ?_
    simp only [Act.put, List.getElem_toArray, List.getElem_cons_succ, List.getElem_cons_zero, List.setIfInBounds_toArray, List.set_cons_zero, List.set_cons_succ]
    refine L_one (i := 10) (by kernel_rfl) ?_
    obtain ⟨v6, w6, h1, h2, h3, _, _⟩ := run_appB v2 34 (W.heap.size + 2) (.slice av5 4 cv5) (([UInt8.ofNat num] ++ w2B sit) ++ [UInt8.ofNat (byt.length)]) ad byt cap HT.out.2 (HF.out v2 HT.out.1).2.2.2.1 HC.out (by have := HT.out.1.size; rw [HS0.out] at this; exact this) (by simp [w2B]; have := HMb.out.2; omega)
    refine wpOp_step rfl ?_
    intro K hK
    rw [if_pos (by rfl)]
    have hK' : Shut (∀ a w, _ → K a w) := hK
    clear hK
    refine wp_append_run (.tmp 32) (.tmp 34) 34 34 (by rfl) (.slice av5 4 cv5) (.slice ad byt.length cap) (by rfl) (by rfl) h1 ?_
    rw [← HPc.out] at h2
    obtain ⟨av6, cv6, rfl, hby6⟩ := h2.isBy
    have H6 : Hid (Below (W.heap.size + 2) W0 w6) := HT.out.1.trans h3
    have HW6 : Hid (Calls _ _ _ w6 _) := HWr.out w6 av6 cv6 H6.out hby6
    refine hK'.out _ _ ⟨H6.out, ?_⟩
    clear hK' K h1 h2 h3 hby6 HWr HT
    try simp only [Act.put, List.getElem_toArray, List.getElem_cons_succ, List.getElem_cons_zero, List.setIfInBounds_toArray, List.set_cons_zero, List.set_cons_succ]
    refine L_go (by kernel_rfl) (by kernel_rfl) ?_
    refine wpOp_step rfl ?_
    intro K hK
    rw [if_pos (by rfl)]
    have hK' : Shut (∀ a w, _ → K a w) := hK
    clear hK
    go_wp2_with fail
    refine HW6.out.mono ?_
    rintro e w7 ⟨rfl, cv7, h7, k7⟩
    refine hK'.out _ _ ?_
    clear hK' K
    try simp only [Act.put, List.getElem_toArray, List.getElem_cons_succ, List.getElem_cons_zero, List.setIfInBounds_toArray, List.set_cons_zero, List.set_cons_succ]
    refine any_one (i := 12) (by kernel_rfl) ?_
    refine wpOp_step rfl ?_
    intro K hK
    rw [if_pos (by rfl)]
    have hK' : Shut (∀ a w, _ → K a w) := hK
    clear hK
    go_wp2_with fail
    refine hK'.out _ _ ?_
    clear hK' K
    refine wpAny_done (by kernel_rfl) ?_ _
    go_wp2
    go_ret
    exact ⟨rfl, cv7, h7, k7⟩
  · go_enter Try.func43, Try.ntmps43
    go_upto_region 4 with fail
    obtain ⟨W2, hW2⟩ : ∃ W2, W0.alloc (.cells #[.int .u8 (num : Int)] 5) = W2 := ⟨_, rfl⟩
    have hb2 : Below (W.heap.size + 2) W0 W2 := by rw [← hW2]; exact (Below.refl _ W0).alloc (by rw [HS0.out]; exact Nat.le_refl _) _
    have hr2 := new_heap W0 (.cells #[.int .u8 (num : Int)] 5)
    rw [hW2] at hr2
    obtain ⟨_, ⟨_, _, e2, _, _⟩, _⟩ := HF.out W2 hb2
    have HA2 : Hid (Calls _ _ _ W2 _) := HAdd.out W2 W0.heap.size hb2 hr2 (by rw [HS0.out]; exact Nat.le_refl _)
    clear hb2 hr2 HAdd
    go_wp2_with fail
    refine HA2.out.mono ?_
    rintro e w3 ⟨v3, rfl, hr3, hb3⟩
    obtain ⟨av3, cv3, rfl, _⟩ := hr3.out.isBy
    have hl3 : ([UInt8.ofNat num] ++ w2B sit).length = 3 := by simp [w2B]
    rw [hl3]
    have hb4 : Below (W.heap.size + 2) W0 (w3.alloc (.cells #[.int .u8 (ol : Int)] 5)) := hb3.out.alloc (by have := hb3.out.size; rw [HS0.out] at this; exact this) _
    have HR4 : Hid (ByRow (w3.alloc (.cells #[.int .u8 (ol : Int)] 5)) (W.heap.size + 2) (.slice av3 3 cv3) ([UInt8.ofNat num] ++ w2B sit)) := by
      have := hr3.out.below ((Below.refl _ w3).alloc (Nat.le_refl _) (.cells #[.int .u8 (ol : Int)] 5))
      rw [hl3] at this
      exact this
    have HM4 : Hid (IsBy (w3.alloc (.cells #[.int .u8 (ol : Int)] 5)) (some ⟨w3.heap.size, 0, none⟩) [UInt8.ofNat (ol)] 1) := by
      have := isBy_new w3 [UInt8.ofNat (ol)]
      rw [show (byC [UInt8.ofNat (ol)]).toArray = #[.int .u8 (ol : Int)] by
        have := HMb.out.1
        simp [byC]
        omega] at this
      exact this
    have hsz : W.heap.size + 2 ≤ (w3.alloc (.cells #[.int .u8 (ol : Int)] 5)).heap.size := by have := hb4.size; rw [HS0.out] at this; exact this
    have HB4 : Hid (Below (W.heap.size + 2) W0 (w3.alloc (.cells #[.int .u8 (ol : Int)] 5))) := hb4
    have HSZ : Hid (W.heap.size + 2 ≤ (w3.alloc (.cells #[.int .u8 (ol : Int)] 5)).heap.size) := hsz
    clear HA2 hr3 hb3 hb4 hsz hl3
    go_wp2_with (at_builtin; refine wpList_appB rfl (.tmp 21) (.tmp 23) rfl (W.heap.size + 2) (.slice av3 3 cv3) ([UInt8.ofNat num] ++ w2B sit) (some ⟨w3.heap.size, 0, none⟩) [UInt8.ofNat (ol)] 1 1 (by rfl) (by rfl) rfl HR4.out HM4.out (.inr (by simp)) HSZ.out (by simp [w2B]) ?_; intro v5 w5 hr5 hb5 _ _)
    obtain ⟨av5, cv5, rfl, _⟩ := hr5.isBy
    have hl5 : (([UInt8.ofNat num] ++ w2B sit) ++ [UInt8.ofNat (ol)]).length = 4 := by simp [w2B]
    rw [hl5] at hr5 ⊢
    have HR5 : Hid (ByRow w5 (W.heap.size + 2) (.slice av5 4 cv5) (([UInt8.ofNat num] ++ w2B sit) ++ [UInt8.ofNat (ol)])) := hr5
    have HB5 : Hid (Below (W.heap.size + 2) W0 w5) := HB4.out.trans hb5
    clear HR4 HM4 HB4 HSZ hr5 hb5 hl5
    go_upto_region 5 with fail
    have HT : Hid (Below (W.heap.size + 2) W0 w5.drew ∧ ByRow w5.drew (W.heap.size + 2) (.slice av5 4 cv5) (([UInt8.ofNat num] ++ w2B sit) ++ [UInt8.ofNat (ol)])) := ⟨HB5.out.trans ⟨rfl, rfl, rfl, Nat.le_refl _, fun _ _ => rfl⟩, HR5.out⟩
    refine wp_region_drawn (by kernel_rfl) ?_
    clear HR5 HB5
    generalize w5.drew = v2 at *
    clear c0 c1 d0 d1 d2 d3 d4 e2
    refine wpAny_take (i := 0) (v := .pointer (some ⟨W.heap.size, 0, none⟩)) rfl (by kernel_rfl) (by kernel_rfl) (by kernel_rfl) (fun _ _ _ h => h) (Or.inl ⟨by rfl, fun w => by go_simp⟩) ?_
    simp only [Act.put, List.getElem_toArray, List.getElem_cons_succ, List.getElem_cons_zero, List.setIfInBounds_toArray, List.set_cons_zero, List.set_cons_succ]
    refine wpAny_take (i := 2) (v := .pointer (some ⟨W.heap.size, 1, none⟩)) rfl (by kernel_rfl) (by kernel_rfl) (by kernel_rfl) (fun _ _ _ h => h) (Or.inl ⟨by rfl, fun w => by go_simp⟩) ?_
    simp only [Act.put, List.getElem_toArray, List.getElem_cons_succ, List.getElem_cons_zero, List.setIfInBounds_toArray, List.set_cons_zero, List.set_cons_succ]
    refine wpAny_take (i := 4) (v := .pointer (some ⟨W.heap.size + 1, 0, none⟩)) rfl (by kernel_rfl) (by kernel_rfl) (by kernel_rfl) (fun _ _ _ h => h) (Or.inl ⟨by rfl, fun w => by go_simp⟩) ?_
    simp only [Act.put, List.getElem_toArray, List.getElem_cons_succ, List.getElem_cons_zero, List.setIfInBounds_toArray, List.set_cons_zero, List.set_cons_succ]
    refine wpAny_take (i := 7) (v := .slice av5 4 cv5) rfl (by kernel_rfl) (by kernel_rfl) (by kernel_rfl) (fun _ _ _ h => h) (Or.inl ⟨by rfl, fun w => by go_simp⟩) ?_
    simp only [Act.put, List.getElem_toArray, List.getElem_cons_succ, List.getElem_cons_zero, List.setIfInBounds_toArray, List.set_cons_zero, List.set_cons_succ]
    refine wpAny_take (i := 8) (v := .pointer (some ⟨W.heap.size + 1, 4, none⟩)) rfl (by kernel_rfl) (by kernel_rfl) (by kernel_rfl) (fun _ _ _ h => h) (Or.inl ⟨by rfl, fun w => by go_simp⟩) ?_
    simp only [Act.put, List.getElem_toArray, List.getElem_cons_succ, List.getElem_cons_zero, List.setIfInBounds_toArray, List.set_cons_zero, List.set_cons_succ]
    refine any_of_L (g := 11) (T := fun u => Below (W.heap.size + 2) W0 u) _ _ _ _ ?_
    refine L_take (i := 1) (v := .pointer (some ⟨p, 0, none⟩)) rfl rfl (by kernel_rfl) (by decide) (by kernel_rfl) (by kernel_rfl) (by kernel_rfl) (by kernel_rfl) (fun _ _ _ h => h) (Or.inl ⟨by rfl, fun w' hw' => by have c0 := (HF.out w' hw').1.1; clear hw'; go_simp⟩) HT.out.1 ?_
    simp only [Act.put, List.getElem_toArray, List.getElem_cons_succ, List.getElem_cons_zero, List.setIfInBounds_toArray, List.set_cons_zero, List.set_cons_succ]
    refine L_take2 (i := 3) (m := 6) (v := .int .i64 (fr : Int)) rfl rfl rfl (by kernel_rfl) (by kernel_rfl) (by decide) (by kernel_rfl) (by kernel_rfl) (by kernel_rfl) (by kernel_rfl) (by kernel_rfl) (fun _ _ _ h => h) (Or.inl ⟨by rfl, fun w' hw' => by have c0 := (HF.out w' hw').1.2; clear hw'; go_simp⟩) HT.out.1 ?_
    simp only [Act.put, List.getElem_toArray, List.getElem_cons_succ, List.getElem_cons_zero, List.setIfInBounds_toArray, List.set_cons_zero, List.set_cons_succ]
    refine L_take2 (i := 5) (m := 6) (v := .int .i64 (at_ : Int)) rfl rfl rfl (by kernel_rfl) (by kernel_rfl) (by decide) (by kernel_rfl) (by kernel_rfl) (by kernel_rfl) (by kernel_rfl) (by kernel_rfl) (fun _ _ _ h => h) (Or.inl ⟨by rfl, fun w' hw' => by have c0 := (HF.out w' hw').2.1.1; clear hw'; go_simp⟩) HT.out.1 ?_
    simp only [Act.put, List.getElem_toArray, List.getElem_cons_succ, List.getElem_cons_zero, List.setIfInBounds_toArray, List.set_cons_zero, List.set_cons_succ]
    refine L_take (i := 6) (v := .int .i64 ((fr : Int) + (at_ : Int))) rfl rfl (by kernel_rfl) (by decide) (by kernel_rfl) (by kernel_rfl) (by kernel_rfl) (by kernel_rfl) (fun _ _ _ h => h) (Or.inl ⟨by rfl, fun w' hw' => by clear hw'; have hwr : IntKind.i64.wrap ((fr : Int) + (at_ : Int)) = (fr : Int) + (at_ : Int) := (by rw [IntKind.wrap_i64]; omega); go_simp⟩) HT.out.1 ?_
    simp only [Act.put, List.getElem_toArray, List.getElem_cons_succ, List.getElem_cons_zero, List.setIfInBounds_toArray, List.set_cons_zero, List.set_cons_succ]
    refine L_take2 (i := 9) (m := 10) (v := .slice ad byt.length cap) rfl rfl rfl (by kernel_rfl) (by kernel_rfl) (by decide) (by kernel_rfl) (by kernel_rfl) (by kernel_rfl) (by kernel_rfl) (by kernel_rfl) (fun _ _ _ h => h) (Or.inl ⟨by rfl, fun w' hw' => by have c0 := (HF.out w' hw').2.1.2.2.2.2; clear hw'; go_simp⟩) HT.out.1 ?_
    simp only [Act.put, List.getElem_toArray, List.getElem_cons_succ, List.getElem_cons_zero, List.setIfInBounds_toArray, List.set_cons_zero, List.set_cons_succ]
    refine L_one (i := 10) (by kernel_rfl) ?_
    obtain ⟨v6, w6, h1, h2, h3, _, _⟩ := run_appB v2 34 (W.heap.size + 2) (.slice av5 4 cv5) (([UInt8.ofNat num] ++ w2B sit) ++ [UInt8.ofNat (ol)]) ad byt cap HT.out.2 (HF.out v2 HT.out.1).2.2.2.1 HC.out (by have := HT.out.1.size; rw [HS0.out] at this; exact this) (by simp [w2B]; have := HMb.out.2; omega)
    refine wpOp_step rfl ?_
    intro K hK
    rw [if_pos (by rfl)]
    have hK' : Shut (∀ a w, _ → K a w) := hK
    clear hK
    refine wp_append_run (.tmp 32) (.tmp 34) 34 34 (by rfl) (.slice av5 4 cv5) (.slice ad byt.length cap) (by rfl) (by rfl) h1 ?_
    rw [← HPc.out] at h2
    obtain ⟨av6, cv6, rfl, hby6⟩ := h2.isBy
    have H6 : Hid (Below (W.heap.size + 2) W0 w6) := HT.out.1.trans h3
    have HW6 : Hid (Calls _ _ _ w6 _) := HWr.out w6 av6 cv6 H6.out hby6
    refine hK'.out _ _ ⟨H6.out, ?_⟩
    clear hK' K h1 h2 h3 hby6 HWr HT
    try simp only [Act.put, List.getElem_toArray, List.getElem_cons_succ, List.getElem_cons_zero, List.setIfInBounds_toArray, List.set_cons_zero, List.set_cons_succ]
    refine L_go (by kernel_rfl) (by kernel_rfl) ?_
    refine wpOp_step rfl ?_
    intro K hK
    rw [if_pos (by rfl)]
    have hK' : Shut (∀ a w, _ → K a w) := hK
    clear hK
    go_wp2_with fail
    refine HW6.out.mono ?_
    rintro e w7 ⟨rfl, cv7, h7, k7⟩
    refine hK'.out _ _ ?_
    clear hK' K
    try simp only [Act.put, List.getElem_toArray, List.getElem_cons_succ, List.getElem_cons_zero, List.setIfInBounds_toArray, List.set_cons_zero, List.set_cons_succ]
    refine any_one (i := 12) (by kernel_rfl) ?_
    refine wpOp_step rfl ?_
    intro K hK
    rw [if_pos (by rfl)]
    have hK' : Shut (∀ a w, _ → K a w) := hK
    clear hK
    go_wp2_with fail
    refine hK'.out _ _ ?_
    clear hK' K
    refine wpAny_done (by kernel_rfl) ?_ _
    go_wp2
    go_ret
    exact ⟨rfl, cv7, h7, k7⟩
end
end Go.Proofs.Ytnogklclkbhdnaa

namespace Go.Proofs.Ytnogklclkbhdnaa
set_option linter.unusedVariables false
set_option linter.unusedSimpArgs false
set_option maxRecDepth 100000
open Go.RowKit Go.Lib
/-- Behind a head that is written. -/
def hdD (D : Dk) (fr mn since : Nat) : Dk := (D.flush.write fr (lhB mn since)).flush
/-- 'append(s, x)' where s is full: a new row. -/
theorem run_appFull (w : World) (ty : TypeId) (base : Nat) (b : Nat) (l : List UInt8) (g : Nat) (m : List UInt8) (cap : Nat) (hs : ∀ k (h : k < l.length), w.cell? ⟨b, k, none⟩ = some (.int .u8 (l[k]'h).toNat)) (hm : ∀ k (h : k < m.length), w.cell? ⟨g, k, none⟩ = some (.int .u8 (m[k]'h).toNat)) (h0 : 0 < m.length) (hb : base ≤ w.heap.size) (hlen : l.length + m.length ≤ 1000) (hfit : Builtin.nextslicecap (l.length + m.length) l.length * 1 ≤ 281474976710656) :
    ∃ v' w', (Builtin.append_ #[34, 34] ty #[.slice (some ⟨b, 0, none⟩) l.length l.length, .slice (some ⟨g, 0, none⟩) m.length cap]).run Try.prog w = .ok v' w' ∧ ByRow w' base v' (l ++ m) ∧ Below w.heap.size w w' ∧ v'.ownBlock = some w.heap.size := by
  obtain ⟨qi, hqi, hqz⟩ := u8_tinfo
  have h := run_append_grow (P := Try.prog) w 34 ty 5 qi (.int .u8 0) Try.underlying34 hqi hqz.1 ⟨b, 0, none⟩ l.length l.length (byC l) (by rw [byC_length, hqz.2.1]; omega) (fun j v hj => by
      have hjl : j < l.length := by
        have := (List.getElem?_eq_some_iff.1 hj).1
        rwa [byC_length] at this
      rw [Addr.add_mid, Nat.zero_add, hs j hjl]
      rw [byC_get l j hjl] at hj
      exact hj) ⟨g, 0, none⟩ m.length cap (byC m) (by rw [byC_length, hqz.2.1]; omega) (fun j v hj => by
      have hjl : j < m.length := by
        have := (List.getElem?_eq_some_iff.1 hj).1
        rwa [byC_length] at this
      rw [Addr.add_mid, Nat.zero_add, hm j hjl]
      rw [byC_get m j hjl] at hj
      exact hj) (by omega) (by omega) (by rw [hqz.2.2]; exact hfit)
  refine ⟨_, _, h, ?_, (show Below w.heap.size w w.drew from ⟨rfl, rfl, rfl, Nat.le_refl _, fun _ _ => rfl⟩).alloc (Nat.le_refl _) _, rfl⟩
  have hge := grownCap_ge w (l.length + m.length) l.length 5
  have hcm := grownCap_le_maxLen w (l.length + m.length) l.length 5 (by unfold maxLen; omega)
  unfold ByRow
  rw [List.length_append, byC_append]
  refine ⟨by rw [List.length_append, byC_length, byC_length]; omega, .inr ⟨w.heap.size, _, _, rfl, hb, new_heap w.drew _, hge, hcm, ?_, ?_⟩⟩
  · simp only [Array.size_append, List.size_toArray, size_zeroCells, byC_length, Value.cells, Array.size_singleton]
    simp
    omega
  · simp only [Array.toList_append, List.append_assoc]
    rw [← List.append_assoc, Nat.mul_one, ← byC_length l, ← byC_length m, ← List.length_append]
    exact List.take_left
theorem wpList_appFull {w : World} {ops : Array Oper} {rest : List Oper} {o : Oper} {a : Act} {Q : Exit → Act → World → Prop} (hgd : o.guard = none) (d s : Operand) (ho : o.op = .call { callee := .builtin .append, args := #[d, s], argTypes := #[34, 34] })
    (base b : Nat) (l : List UInt8) (g : Nat) (m : List UInt8) (k q cap : Nat) (hd : a.eval d = .slice (some ⟨b, 0, none⟩) q q) (he : a.eval s = .slice (some ⟨g, 0, none⟩) k cap) (hq : l.length = q) (hk : m.length = k) (hs : ∀ k (h : k < l.length), w.cell? ⟨b, k, none⟩ = some (.int .u8 (l[k]'h).toNat)) (hm : ∀ k (h : k < m.length), w.cell? ⟨g, k, none⟩ = some (.int .u8 (m[k]'h).toNat)) (h0 : 0 < m.length) (hb : base ≤ w.heap.size) (hlen : l.length + m.length ≤ 1000) (hfit : Builtin.nextslicecap (l.length + m.length) l.length * 1 ≤ 281474976710656)
    (h : ∀ v' w', ByRow w' base v' (l ++ m) → Below w.heap.size w w' → v'.ownBlock = some w.heap.size → wpList Try.prog ops Q rest (a.put o.dst v') w') : wpList Try.prog ops Q (o :: rest) a w := by
  subst hk
  subst hq
  obtain ⟨v', w', h1, h2, h3, h4⟩ := run_appFull w o.type base b l g m cap hs hm h0 hb hlen hfit
  exact wpList_append_run hgd d s 34 34 ho _ _ hd he h1 (h v' w' h2 h3 h4)

section
variable {w W : World} {p nb sb : Nat} {cv : Value} {n : Nat} {D : Dk}
set_option maxHeartbeats 2000000 in
theorem writeLHead_ok (a : Tn w W p nb sb cv n D) (fr mn since : Nat) (hf : D.fail < 0) (hi : fr < n) (hn : n ≤ 200) (hm : mn ≤ 200) (hsn : since < 65536) (hs : D.lim 999000) :
    Calls Try.prog 16 #[.agg #[.pointer (some ⟨p, 0, none⟩), .int .i64 (fr : Int), .int .i64 (mn : Int)], .int .i64 (since : Int)] W fun e w' => e = .returned .nilIface ∧ ∃ cv', Hid (Tn w w' p nb sb cv' n (hdD D fr mn since)) ∧ Hid (Keeps w.heap.size dkT W w') := by
  obtain ⟨W1, hW1⟩ : ∃ W1, W.alloc (.cells #[.pointer (some ⟨p, 0, none⟩), .int .i64 (fr : Int), .int .i64 (mn : Int)] 50) = W1 := ⟨_, rfl⟩
  have hB : Below W.heap.size W W1 := by rw [← hW1]; exact (Below.refl _ W).alloc (Nat.le_refl _) _
  have hr := new_heap W (.cells #[.pointer (some ⟨p, 0, none⟩), .int .i64 (fr : Int), .int .i64 (mn : Int)] 50)
  rw [hW1] at hr
  have HF : Hid (∀ U : World, U.heap[W.heap.size]? = some (.cells #[.pointer (some ⟨p, 0, none⟩), .int .i64 (fr : Int), .int .i64 (mn : Int)] 50 (0, 0)) → U.cell? ⟨W.heap.size, 0, none⟩ = some (.pointer (some ⟨p, 0, none⟩)) ∧ U.cell? ⟨W.heap.size, 1, none⟩ = some (.int .i64 (fr : Int)) ∧ U.cell? ⟨W.heap.size, 2, none⟩ = some (.int .i64 (mn : Int))) := fun U h => ⟨by simp [World.cell?, h], by simp [World.cell?, h], by simp [World.cell?, h]⟩
  obtain ⟨c0, _, _⟩ := HF.out W1 hr
  have HFl : Hid (Calls _ _ _ W1 _) := tn_flush (a.below hB) (failing_neg hf) (by have := hs.s; omega)
  have HH : Hid (W1.heap[W.heap.size]? = some (.cells #[.pointer (some ⟨p, 0, none⟩), .int .i64 (fr : Int), .int .i64 (mn : Int)] 50 (0, 0)) ∧ Below W.heap.size W W1) := ⟨hr, hB⟩
  have hf1 : D.flush.fail < 0 := hf
  have hl1 : D.flush.lim 999001 := by
    have := flR_lim hs
    unfold flR at this
    rw [if_neg (by rw [failing_neg hf]; decide)] at this
    exact this
  have hf2 : (D.flush.write fr (lhB mn since)).fail < 0 := hf
  have hl2 : (D.flush.write fr (lhB mn since)).lim 999002 := by
    have := wrR_lim hl1 fr (lhB mn since)
    unfold wrR at this
    rw [if_neg (by rw [failing_neg hf1]; decide)] at this
    exact this
  have HWr : Hid (∀ (U : World) (cv' : Value) (a' : Option Addr) (c' : Nat), Tn w U p nb sb cv' n D.flush → IsBy U a' (lhB mn since) c' → Calls Try.prog 31 #[.pointer (some ⟨p, 0, none⟩), .int .i64 (fr : Int), .slice a' (lhB mn since).length c'] U fun e w' => e = .returned .nilIface ∧ ∃ cv', Hid (Tn w w' p nb sb cv' n (D.flush.write fr (lhB mn since))) ∧ Hid (Keeps w.heap.size dkT U w')) := fun U cv' a' c' ht hb => tn_write ht fr a' (lhB mn since) c' (failing_neg hf1) hi (by rw [lhB_length]; omega) hn (by have := hl1.s; omega) (by have := hl1.c; omega) hb
  have HF2 : Hid (∀ (U : World) (cv' : Value), Tn w U p nb sb cv' n (D.flush.write fr (lhB mn since)) → Calls Try.prog 32 #[.pointer (some ⟨p, 0, none⟩)] U fun e w' => e = .returned .nilIface ∧ Hid (Tn w w' p nb sb (.slice none 0 0) n (hdD D fr mn since)) ∧ Hid (Keeps w.heap.size dkT U w')) := fun U cv' ht => tn_flush ht (failing_neg hf2) (by have := hl2.s; omega)
  have HAdd : Hid (∀ (U : World) (base : Nat) (v : Value), ByRow U base v (mkB ++ [UInt8.ofNat mn]) → base ≤ U.heap.size → Calls Try.prog 22 #[v, .int .i64 (since : Int)] U fun e w' => ∃ v', e = .returned v' ∧ Hid (ByRow w' base v' ((mkB ++ [UInt8.ofNat mn]) ++ w2B since)) ∧ Hid (Below base U w') ∧ Hid (∀ b, b < U.heap.size → v.ownBlock ≠ some b → w'.heap[b]? = U.heap[b]?) ∧ Hid (∀ j, v'.ownBlock = some j → v.ownBlock = some j ∨ U.heap.size ≤ j)) := fun U base v h hb => addWord_any base v _ since U h hb (by simp [mkB]) hsn
  have hwm : IntKind.u8.wrap (mn : Int) = (mn : Int) := by rw [IntKind.wrap_u8]; omega
  have Hby : Hid (((UInt8.ofNat mn).toNat : Int) = (mn : Int)) := by unfold Hid; rw [UInt8.toNat_ofNat']; omega
  have m0 : (0 : Int) ≤ mn := by omega
  have m1 : (mn : Int) ≤ 200 := by omega
  clear a hB hr hf1 hf2 hl1 hl2
  go_enter Try.func16, Try.ntmps16
  go_wp2_with fail
  refine HFl.out.mono ?_
  rintro e w2 ⟨rfl, ht2, hk2⟩
  have hr2 := hk2.out.row HH.out.1 (by decide)
  have hlt2 : W.heap.size < w2.heap.size := (Array.getElem?_eq_some_iff.1 hr2).1
  have hcv := run_convert_bytes_const (P := Try.prog) w2 34 5 #[.int .u8 255, .int .u8 113, .int .u8 100, .int .u8 32, .int .u8 108, .int .u8 111, .int .u8 103] 7 7 Try.underlying34 Try.underlying5
  obtain ⟨w3, hw3⟩ : ∃ w3, w2.alloc (.cells #[.int .u8 255, .int .u8 113, .int .u8 100, .int .u8 32, .int .u8 108, .int .u8 111, .int .u8 103] 5 (7, 8)) = w3 := ⟨_, rfl⟩
  have hcv' : (convert 34 34 (.slice (some ⟨w2.heap.size, 0, none⟩) 7 7)).run Try.prog (w2.alloc (.cells #[.int .u8 255, .int .u8 113, .int .u8 100, .int .u8 32, .int .u8 108, .int .u8 111, .int .u8 103] 5)) = .ok (.slice (some ⟨w2.heap.size, 0, none⟩) 7 7) w3 := by rw [← hw3]; exact hcv
  have hb3 : Below w2.heap.size w2 w3 := by rw [← hw3]; exact (Below.refl _ w2).alloc (Nat.le_refl _) _
  have hr3 : w3.heap[w2.heap.size]? = some (.cells #[.int .u8 255, .int .u8 113, .int .u8 100, .int .u8 32, .int .u8 108, .int .u8 111, .int .u8 103] 5 (7, 8)) := by rw [← hw3]; exact new_heap w2 _
  have hs3 : w3.heap.size = w2.heap.size + 1 := by rw [← hw3]; simp
  have ha3 := (hb3.block _ hlt2).trans hr2
  obtain ⟨_, _, e2⟩ := HF.out w3 ha3
  obtain ⟨w4, hw4⟩ : ∃ w4, w3.alloc (.cells #[.int .u8 (mn : Int)] 5) = w4 := ⟨_, rfl⟩
  have hb4 : Below w3.heap.size w3 w4 := by rw [← hw4]; exact (Below.refl _ w3).alloc (Nat.le_refl _) _
  have hr4 : w4.heap[w2.heap.size + 1]? = some (.cells #[.int .u8 (mn : Int)] 5 (0, 0)) := by rw [← hw4, ← hs3]; exact new_heap w3 _
  have HK : Hid (Keeps w.heap.size dkT W w2) := (Keeps.of_below HH.out.2).trans hk2.out
  have H4 : Hid ((∀ k (h : k < mkB.length), w4.cell? ⟨w2.heap.size, k, none⟩ = some (.int .u8 (mkB[k]'h).toNat)) ∧ (∀ k (h : k < [UInt8.ofNat mn].length), w4.cell? ⟨w2.heap.size + 1, k, none⟩ = some (.int .u8 (([UInt8.ofNat mn])[k]'h).toNat)) ∧ w2.heap.size ≤ w4.heap.size ∧ Below w2.heap.size w2 w4) := by
    have hr34 := (hb4.block w2.heap.size (by omega)).trans hr3
    refine ⟨fun k h => ?_, fun k h => ?_, Nat.le_trans hb3.size hb4.size, hb3.trans (hb4.mono hb3.size)⟩
    · rw [cell_of_row _ _ _ _ _ (7, 8) hr34]
      have hk : k < 7 := h
      match k, hk with
      | 0, _ => rfl
      | 1, _ => rfl
      | 2, _ => rfl
      | 3, _ => rfl
      | 4, _ => rfl
      | 5, _ => rfl
      | 6, _ => rfl
    · have hk : k = 0 := by simpa using h
      subst hk
      rw [cell_of_row _ _ _ _ _ (0, 0) hr4]
      show some (Value.int .u8 (mn : Int)) = some (Value.int .u8 ((UInt8.ofNat mn).toNat : Int))
      rw [Hby.out]
  clear hcv
  have Ha2 : Hid (w2.heap[W.heap.size]? = some (.cells #[.pointer (some ⟨p, 0, none⟩), .int .i64 (fr : Int), .int .i64 (mn : Int)] 50 (0, 0)) ∧ W.heap.size < w2.heap.size) := ⟨hr2, hlt2⟩
  have HT2 : Hid (Tn w w2 p nb sb (.slice none 0 0) n D.flush) := ht2.out
  clear HFl ht2 hk2 hr2 hb3 hr3 ha3 hb4 hr4 c0 HH
  go_wp2_with (at_builtin; refine wpList_appFull rfl (.tmp 15) (.tmp 19) rfl w2.heap.size w2.heap.size mkB (w2.heap.size + 1) [UInt8.ofNat mn] 1 7 1 (by rfl) (by rfl) rfl rfl H4.out.1 H4.out.2.1 Nat.zero_lt_one H4.out.2.2.1 (by show 7 + 1 ≤ 1000; decide) (by show Builtin.nextslicecap (7 + 1) 7 * 1 ≤ 281474976710656; decide) ?_; intro v5 w5 hr5 hb5 ho5)
  obtain ⟨av5, cv5, rfl, _⟩ := hr5.isBy
  have hl5 : (mkB ++ [UInt8.ofNat mn]).length = 8 := by simp [mkB]
  rw [hl5] at hr5 ⊢
  have hlt4 := Nat.le_trans H4.out.2.2.1 (Nat.le_refl w4.heap.size)
  have hb25 : Below w2.heap.size w2 w5 := H4.out.2.2.2.trans (hb5.mono H4.out.2.2.1)
  have H5 : Hid (w5.heap[W.heap.size]? = some (.cells #[.pointer (some ⟨p, 0, none⟩), .int .i64 (fr : Int), .int .i64 (mn : Int)] 50 (0, 0)) ∧ Below w2.heap.size w2 w5 ∧ ByRow w5 w2.heap.size (.slice av5 8 cv5) (mkB ++ [UInt8.ofNat mn]) ∧ w2.heap.size ≤ w5.heap.size) :=
    ⟨(hb25.block _ Ha2.out.2).trans Ha2.out.1, hb25, hr5, hb25.size⟩
  clear H4 hr5 hb5 ho5 hl5 hlt4 hb25 e2
  go_upto_region 5 with fail
  have HT : Hid (w5.drew.heap[W.heap.size]? = some (.cells #[.pointer (some ⟨p, 0, none⟩), .int .i64 (fr : Int), .int .i64 (mn : Int)] 50 (0, 0)) ∧ Below w2.heap.size w2 w5.drew ∧ ByRow w5.drew w2.heap.size (.slice av5 8 cv5) (mkB ++ [UInt8.ofNat mn]) ∧ w2.heap.size ≤ w5.drew.heap.size) := ⟨H5.out.1, H5.out.2.1.trans ⟨rfl, rfl, rfl, Nat.le_refl _, fun _ _ => rfl⟩, H5.out.2.2.1, H5.out.2.2.2⟩
  refine wp_region_drawn (by kernel_rfl) ?_
  clear H5
  generalize w5.drew = v2 at *
  refine wpAny_take (i := 0) (v := .pointer (some ⟨W.heap.size, 0, none⟩)) rfl (by kernel_rfl) (by kernel_rfl) (by kernel_rfl) (fun _ _ _ h => h) (Or.inl ⟨by rfl, fun w => by go_simp⟩) ?_
  simp only [Act.put, List.getElem_toArray, List.getElem_cons_succ, List.getElem_cons_zero, List.setIfInBounds_toArray, List.set_cons_zero, List.set_cons_succ]
  refine wpAny_take (i := 2) (v := .pointer (some ⟨W.heap.size, 1, none⟩)) rfl (by kernel_rfl) (by kernel_rfl) (by kernel_rfl) (fun _ _ _ h => h) (Or.inl ⟨by rfl, fun w => by go_simp⟩) ?_
  simp only [Act.put, List.getElem_toArray, List.getElem_cons_succ, List.getElem_cons_zero, List.setIfInBounds_toArray, List.set_cons_zero, List.set_cons_succ]
  refine wpAny_take (i := 4) (v := .slice av5 8 cv5) rfl (by kernel_rfl) (by kernel_rfl) (by kernel_rfl) (fun _ _ _ h => h) (Or.inl ⟨by rfl, fun w => by go_simp⟩) ?_
  simp only [Act.put, List.getElem_toArray, List.getElem_cons_succ, List.getElem_cons_zero, List.setIfInBounds_toArray, List.set_cons_zero, List.set_cons_succ]
  refine wpAny_take (i := 5) (v := .int .i64 (since : Int)) rfl (by kernel_rfl) (by kernel_rfl) (by kernel_rfl) (fun _ _ _ h => h) (Or.inl ⟨by rfl, fun w => by go_simp⟩) ?_
  simp only [Act.put, List.getElem_toArray, List.getElem_cons_succ, List.getElem_cons_zero, List.setIfInBounds_toArray, List.set_cons_zero, List.set_cons_succ]
  refine any_of_L (g := 7) (T := fun u => u.heap[W.heap.size]? = some (.cells #[.pointer (some ⟨p, 0, none⟩), .int .i64 (fr : Int), .int .i64 (mn : Int)] 50 (0, 0))) _ _ _ _ ?_
  refine L_take (i := 1) (v := .pointer (some ⟨p, 0, none⟩)) rfl rfl (by kernel_rfl) (by decide) (by kernel_rfl) (by kernel_rfl) (by kernel_rfl) (by kernel_rfl) (fun _ _ _ h => h) (Or.inl ⟨by rfl, fun w' hw' => by have c0 := (HF.out w' hw').1; clear hw'; go_simp⟩) HT.out.1 ?_
  simp only [Act.put, List.getElem_toArray, List.getElem_cons_succ, List.getElem_cons_zero, List.setIfInBounds_toArray, List.set_cons_zero, List.set_cons_succ]
  refine L_take (i := 3) (v := .int .i64 (fr : Int)) rfl rfl (by kernel_rfl) (by decide) (by kernel_rfl) (by kernel_rfl) (by kernel_rfl) (by kernel_rfl) (fun _ _ _ h => h) (Or.inl ⟨by rfl, fun w' hw' => by have c0 := (HF.out w' hw').2.1; clear hw'; go_simp⟩) HT.out.1 ?_
  simp only [Act.put, List.getElem_toArray, List.getElem_cons_succ, List.getElem_cons_zero, List.setIfInBounds_toArray, List.set_cons_zero, List.set_cons_succ]
  refine L_one (i := 6) (by kernel_rfl) ?_
  have HA6 : Hid (Calls _ _ _ v2 _) := HAdd.out v2 w2.heap.size (.slice av5 8 cv5) HT.out.2.2.1 HT.out.2.2.2
  refine wpOp_step rfl ?_
  intro K hK
  rw [if_pos (by rfl)]
  have hK' : Shut (∀ a w, _ → K a w) := hK
  clear hK
  go_wp2_with fail
  refine HA6.out.mono ?_
  rintro e w6 ⟨v6, rfl, hr6, hb6, _, _⟩
  have hb26 : Below w2.heap.size w2 w6 := HT.out.2.1.trans hb6.out
  have H6 : Hid (w6.heap[W.heap.size]? = some (.cells #[.pointer (some ⟨p, 0, none⟩), .int .i64 (fr : Int), .int .i64 (mn : Int)] 50 (0, 0)) ∧ Below w2.heap.size w2 w6) := ⟨(hb26.block _ Ha2.out.2).trans Ha2.out.1, hb26⟩
  obtain ⟨av6, cv6, rfl, hby6⟩ := hr6.out.isBy
  have HW6 : Hid (Calls _ _ _ w6 _) := HWr.out w6 _ av6 cv6 (HT2.out.below hb26) hby6
  refine hK'.out _ _ ⟨H6.out.1, ?_⟩
  clear hK' K hr6 hb6 hb26 hby6 HA6 HWr
  rw [show ((mkB ++ [UInt8.ofNat mn]) ++ w2B since).length = (lhB mn since).length from rfl]
  try simp only [Act.put, List.getElem_toArray, List.getElem_cons_succ, List.getElem_cons_zero, List.setIfInBounds_toArray, List.set_cons_zero, List.set_cons_succ]
  refine L_go (by kernel_rfl) (by kernel_rfl) ?_
  refine wpOp_step rfl ?_
  intro K hK
  rw [if_pos (by rfl)]
  have hK' : Shut (∀ a w, _ → K a w) := hK
  clear hK
  go_wp2_with fail
  refine HW6.out.mono ?_
  rintro e w7 ⟨rfl, cv7, h7, k7⟩
  have hr7 := k7.out.row H6.out.1 (by decide)
  have HF7 : Hid (Calls _ _ _ w7 _) := HF2.out w7 cv7 h7.out
  have HK7 : Hid (Keeps w.heap.size dkT W w7) := (HK.out.trans (Keeps.of_below H6.out.2)).trans k7.out
  have c70 := (HF.out w7 hr7).1
  clear HW6 h7 k7 hr7 H6 HF2
  refine hK'.out _ _ ?_
  clear hK' K
  try simp only [Act.put, List.getElem_toArray, List.getElem_cons_succ, List.getElem_cons_zero, List.setIfInBounds_toArray, List.set_cons_zero, List.set_cons_succ]
  refine any_one (i := 8) (by kernel_rfl) ?_
  refine wpOp_step rfl ?_
  intro K hK
  rw [if_pos (by rfl)]
  have hK' : Shut (∀ a w, _ → K a w) := hK
  clear hK
  go_wp2_with fail
  refine hK'.out _ _ ?_
  clear hK' K
  refine wpAny_done (by kernel_rfl) ?_ _
  go_wp2_with fail
  refine HF7.out.mono ?_
  rintro e w8 ⟨rfl, h8, k8⟩
  go_wp2
  go_ret
  exact ⟨rfl, _, h8, HK7.out.trans k8.out⟩
end
end Go.Proofs.Ytnogklclkbhdnaa
