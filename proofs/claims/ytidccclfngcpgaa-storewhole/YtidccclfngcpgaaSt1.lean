/-
  A store's box; the contracts of its small functions.
-/
import Derived.Test.YtidccclfngcpgaaSt0
namespace Go.Proofs.Ytidccclfngcpgaa
set_option linter.unusedVariables false
set_option linter.unusedSimpArgs false
set_option maxRecDepth 100000
open Go.RowKit Go.Lib

def stCells (p : Nat) (h : Hd) (mb : Nat) (lost : Bool) : List Value := .pointer (some ⟨p, 0, none⟩) :: (h.cells ++ [.map (some mb), .bool lost])
theorem stCells_length {p : Nat} {h : Hd} {mb : Nat} {lost : Bool} (k : h.ok) : (stCells p h mb lost).length = 46 := by simp [stCells, Hd.cells_length k]
/-- A store that a call has made, on a disk that it has made. -/
structure StAt (w W : World) (p nb sb : Nat) (cv : Value) (n : Nat) (D : Dk) (s mb : Nat) (h : Hd) (P : List (Nat × List UInt8)) (lost : Bool) : Prop where
  tn : Tn w W p nb sb cv n D
  box : W.heap[s]? = some (.cells (stCells p h mb lost).toArray 55 (0, 0))
  ls : w.heap.size ≤ s
  lm : w.heap.size ≤ mb
  mp : PMap W mb P
  ok : h.ok
section
variable {w W : World} {p nb sb : Nat} {cv : Value} {n : Nat} {D : Dk} {s mb : Nat} {h : Hd} {P : List (Nat × List UInt8)} {lost : Bool}
theorem StAt.at (a : StAt w W p nb sb cv n D s mb h P lost) (i : Nat) : W.cell? ⟨s, i, none⟩ = (stCells p h mb lost)[i]? := by
  rw [cell_of_row W s i _ _ (0, 0) a.box]
  simp
theorem StAt.c0 (a : StAt w W p nb sb cv n D s mb h P lost) : W.cell? ⟨s, 0, none⟩ = some (.pointer (some ⟨p, 0, none⟩)) := by rw [a.at]; rfl
theorem StAt.c1 (a : StAt w W p nb sb cv n D s mb h P lost) : W.cell? ⟨s, 1, none⟩ = some (.int .i64 (h.blk : Int)) := by rw [a.at]; rfl
theorem StAt.c2 (a : StAt w W p nb sb cv n D s mb h P lost) : W.cell? ⟨s, 2, none⟩ = some (.int .u8 (h.turn.toNat : Int)) := by rw [a.at]; rfl
theorem StAt.c3 (a : StAt w W p nb sb cv n D s mb h P lost) : W.cell? ⟨s, 3, none⟩ = some (.int .i64 (h.ver : Int)) := by rw [a.at]; rfl
theorem StAt.cw (a : StAt w W p nb sb cv n D s mb h P lost) (k : Nat) (hk : k < 40) : W.cell? ⟨s, 4 + k, none⟩ = some (.int .u8 ((h.whr.getD k 0).toNat : Int)) := by
  have hl := a.ok.w
  rw [a.at]
  unfold stCells Hd.cells
  rw [show 4 + k = (k + 3) + 1 by omega, List.getElem?_cons_succ, List.getElem?_append_left (by simp [byC_length]; omega)]
  rw [show k + 3 = ((k + 1) + 1) + 1 by omega, List.getElem?_cons_succ, List.getElem?_cons_succ, List.getElem?_cons_succ, byC_get _ _ (by omega)]
  simp [List.getD_eq_getElem?_getD, List.getElem?_eq_getElem (show k < h.whr.length by omega)]
theorem StAt.cm (a : StAt w W p nb sb cv n D s mb h P lost) : W.cell? ⟨s, 44, none⟩ = some (.map (some mb)) := by
  rw [a.at]
  unfold stCells
  rw [List.getElem?_cons_succ, List.getElem?_append_right (by rw [Hd.cells_length a.ok]; decide), Hd.cells_length a.ok]
  rfl
theorem StAt.cl (a : StAt w W p nb sb cv n D s mb h P lost) : W.cell? ⟨s, 45, none⟩ = some (.bool lost) := by
  rw [a.at]
  unfold stCells
  rw [List.getElem?_cons_succ, List.getElem?_append_right (by rw [Hd.cells_length a.ok]; decide), Hd.cells_length a.ok]
  rfl
theorem StAt.fz (a : StAt w W p nb sb cv n D s mb h P lost) (i : Nat) : W.frozen? ⟨s, i, none⟩ = false := by
  simp [World.frozen?, a.box]
theorem StAt.range (a : StAt w W p nb sb cv n D s mb h P lost) : W.rangeAt s 1 h.cells := by
  intro j v hv
  rw [a.at]
  unfold stCells
  rw [Nat.add_comm 1 j, List.getElem?_cons_succ, List.getElem?_append_left ((List.getElem?_eq_some_iff.1 hv).1)]
  exact hv
theorem StAt.ne (a : StAt w W p nb sb cv n D s mb h P lost) : s ≠ mb := fun e => by
  obtain ⟨es, c, h1, _⟩ := a.mp
  have := a.box
  rw [e, h1] at this
  cases this
theorem StAt.sp (a : StAt w W p nb sb cv n D s mb h P lost) : s ≠ p := fun e => by
  have := a.box
  rw [e, a.tn.1.box] at this
  simp at this
/-- Where all that belongs to a store is as it was. -/
theorem StAt.keep (a : StAt w W p nb sb cv n D s mb h P lost) {U : World} {cv' : Value} {D' : Dk} (ht : Tn w U p nb sb cv' n D') (hk : KeepC w.heap.size stT W U) (h1 : U.heap[s]? = W.heap[s]?) (h2 : U.heap[mb]? = W.heap[mb]?) : StAt w U p nb sb cv' n D' s mb h P lost :=
  ⟨ht, h1.trans a.box, a.ls, a.lm, a.mp.keep hk h2, a.ok⟩
theorem StAt.below (a : StAt w W p nb sb cv n D s mb h P lost) {U : World} (hb : Below W.heap.size W U) : StAt w U p nb sb cv n D s mb h P lost := by
  obtain ⟨es, c, h1, _⟩ := a.mp
  exact a.keep (a.tn.below hb) (.of_below hb) (hb.block s (Array.getElem?_eq_some_iff.1 a.box).1) (hb.block mb (Array.getElem?_eq_some_iff.1 h1).1)
theorem StAt.still (a : StAt w W p nb sb cv n D s mb h P lost) {U : World} (hs : Still W U) : StAt w U p nb sb cv n D s mb h P lost := a.below (hs.below _)
/-- The disk alone has turned. -/
theorem StAt.disk (a : StAt w W p nb sb cv n D s mb h P lost) {U : World} {cv' : Value} {D' : Dk} (ht : Tn w U p nb sb cv' n D') (hk : Keeps w.heap.size dkT W U) : StAt w U p nb sb cv' n D' s mb h P lost := by
  obtain ⟨es, c, h1, _⟩ := a.mp
  refine a.keep ht (.of_keeps hk dk_st) (hk.row a.box (by decide) |>.trans a.box.symm) ?_
  exact hk.block mb (Array.getElem?_eq_some_iff.1 h1).1 (.inr (fun cs t fr e => by rw [h1] at e; cases e))
/-- What is pending has turned. -/
theorem StAt.pend (a : StAt w W p nb sb cv n D s mb h P lost) {U : World} {P' : List (Nat × List UInt8)} (hm : PMap U mb P') (hk : KeepC w.heap.size stT W U) (ho : ∀ b, b ≠ mb → U.heap[b]? = W.heap[b]?) (hcv : ∀ j, cv.ownBlock = some j → j ≠ mb) : StAt w U p nb sb cv n D s mb h P' lost := by
  obtain ⟨es, c, h1, _⟩ := a.mp
  have d := a.tn.1
  have e1 : p ≠ mb := fun e => by have := d.box; rw [e, h1] at this; cases this
  have e2 : nb ≠ mb := fun e => by have := d.now; rw [e, h1] at this; cases this
  have e3 : sb ≠ mb := fun e => by have := d.safe; rw [e, h1] at this; cases this
  refine ⟨⟨⟨(ho p e1).trans d.box, (ho nb e2).trans d.now, (ho sb e3).trans d.safe, d.ne, d.lp, d.ln, d.ls, ?_, d.ok⟩, a.tn.2.trans (hk.below a.tn.2.size)⟩, (ho s a.ne).trans a.box, a.ls, a.lm, hm, a.ok⟩
  refine ownsRow_keep d.chg (fun b cs e _ => ho b (fun eb => ?_))
  rw [eb, h1] at e
  cases e
theorem StAt.pendO (a : StAt w W p nb sb cv n D s mb h P lost) {U : World} {P' : List (Nat × List UInt8)} (hm : PMap U mb P') (hk : KeepC w.heap.size stT W U) (ho : ∀ b, b ≠ mb → U.heap[b]? = W.heap[b]?) : StAt w U p nb sb cv n D s mb h P' lost := by
  refine a.pend hm hk ho (fun j hj e => ?_)
  obtain ⟨_, _, _, _, cs, hc⟩ := a.tn.1.pcv j hj
  obtain ⟨es, c, h1, _⟩ := a.mp
  rw [e, h1] at hc
  cases hc
end

theorem isPage_any (i : Int) (w : World) : Calls Try.prog 18 #[.int .i64 i] w fun e w' => e = .returned (.bool (decide (0 ≤ i ∧ i < 40))) ∧ w' = w := by
  by_cases h0 : 0 ≤ i
  · by_cases h1 : i < 40
    · rw [decide_eq_true ⟨h0, h1⟩]
      go_enter Try.func18, Try.ntmps18
      go_wp2
      go_ret
      exact ⟨rfl, rfl⟩
    · rw [decide_eq_false (fun e => h1 e.2)]
      go_enter Try.func18, Try.ntmps18
      go_wp2
      go_ret
      exact ⟨rfl, rfl⟩
  · rw [decide_eq_false (fun e => h0 e.1)]
    go_enter Try.func18, Try.ntmps18
    go_wp2
    go_ret
    exact ⟨rfl, rfl⟩
theorem first_any (k : Nat) (w : World) (hk : k < 40) : Calls Try.prog 32 #[.int .i64 (k : Int)] w fun e w' => e = .returned (.int .u8 ((2 + k : Nat) : Int)) ∧ w' = w := by
  have k0 : (0 : Int) ≤ k := by omega
  have k1 : (k : Int) < 40 := by omega
  have k2 : ((2 + k : Nat) : Int) = 2 + (k : Int) := by omega
  rw [k2]
  clear k2
  go_enter Try.func32, Try.ntmps32
  go_wp2
  go_ret
  refine ⟨?_, rfl⟩
  first | rfl | (congr 2; omega)
theorem second_any (k : Nat) (w : World) (hk : k < 40) : Calls Try.prog 33 #[.int .i64 (k : Int)] w fun e w' => e = .returned (.int .u8 ((42 + k : Nat) : Int)) ∧ w' = w := by
  have k0 : (0 : Int) ≤ k := by omega
  have k1 : (k : Int) < 40 := by omega
  have k2 : ((42 + k : Nat) : Int) = 42 + (k : Int) := by omega
  rw [k2]
  clear k2
  go_enter Try.func33, Try.ntmps33
  go_wp2
  go_ret
  refine ⟨?_, rfl⟩
  first | rfl | (congr 2; omega)
/-- The block of a page that is free. -/
def freeB (k : Nat) (x : UInt8) : Nat := if x.toNat = 2 + k then 42 + k else 2 + k
theorem free_any (k : Nat) (x : UInt8) (w : World) (hk : k < 40) : Calls Try.prog 28 #[.int .i64 (k : Int), .int .u8 (x.toNat : Int)] w fun e w' => e = .returned (.int .u8 ((freeB k x : Nat) : Int)) ∧ w' = w := by
  have H1 : Hid (Calls _ _ _ _ _) := first_any k w hk
  have H2 : Hid (Calls _ _ _ _ _) := second_any k w hk
  unfold freeB
  by_cases hx : x.toNat = 2 + k
  · rw [if_pos hx, hx]
    go_enter Try.func28, Try.ntmps28
    go_wp2_with fail
    refine H1.out.mono ?_
    rintro e w' ⟨rfl, hw⟩
    rw [hw]; clear hw w'
    go_wp2_with fail
    refine H2.out.mono ?_
    rintro e w' ⟨rfl, hw⟩
    rw [hw]; clear hw w'
    go_wp2
    go_ret
    exact ⟨rfl, rfl⟩
  · rw [if_neg hx]
    have hx' : ((x.toNat : Int) == ((2 + k : Nat) : Int)) = false := by rw [beq_eq_false_iff_ne]; omega
    generalize ((2 + k : Nat) : Int) = y at *
    go_enter Try.func28, Try.ntmps28
    go_wp2_with fail
    refine H1.out.mono ?_
    rintro e w' ⟨rfl, hw⟩
    rw [hw]; clear hw w'
    go_wp2_with fail
    refine H1.out.mono ?_
    rintro e w' ⟨rfl, hw⟩
    rw [hw]; clear hw w'
    go_wp2
    go_ret
    exact ⟨rfl, rfl⟩
theorem other_any (h : Hd) (w : World) (k : h.ok) : Calls Try.prog 16 #[.agg h.cells.toArray] w fun e w' => e = .returned (.int .i64 ((1 - h.blk : Nat) : Int)) ∧ Below w.heap.size w w' := by
  have hb := k.b
  have c0 : (w.alloc (.cells h.cells.toArray 50)).cell? ⟨w.heap.size, 0, none⟩ = some (.int .i64 (h.blk : Int)) := by
    rw [cell_of_row _ _ _ _ _ (0, 0) (new_heap w _)]
    rfl
  have HB : Hid (Below w.heap.size w (w.alloc (.cells h.cells.toArray 50))) := (Below.refl _ w).alloc (Nat.le_refl _) _
  have e1 : ((1 - h.blk : Nat) : Int) = 1 - (h.blk : Int) := by omega
  rw [e1]
  have b0 : (0 : Int) ≤ h.blk := by omega
  have b1 : (h.blk : Int) ≤ 1 := by omega
  generalize h.cells.toArray = C at *
  go_enter Try.func16, Try.ntmps16
  go_wp2
  go_ret
  exact ⟨rfl, HB.out⟩
theorem blocks_any {w W : World} {p nb sb : Nat} {cv : Value} {n : Nat} {D : Dk} (a : Tn w W p nb sb cv n D) : Calls Try.prog 14 #[.pointer (some ⟨p, 0, none⟩)] W fun e w' => e = .returned (.int .i64 (n : Int)) ∧ Still W w' := by
  have c0 := a.1.p0
  clear a
  go_enter Try.func14, Try.ntmps14
  go_wp2
  go_ret
  exact ⟨rfl, Still.refl _⟩
section
variable {w W : World} {p nb sb : Nat} {cv : Value} {n : Nat} {D : Dk} {s mb : Nat} {h : Hd} {P : List (Nat × List UInt8)} {lost : Bool}
theorem rollback_any (a : StAt w W p nb sb cv n D s mb h P lost) : Calls Try.prog 9 #[.pointer (some ⟨s, 0, none⟩)] W fun e w' => e = .returned (.int .i64 (P.length : Int)) ∧ Hid (StAt w w' p nb sb cv n D s mb h [] lost) ∧ Hid (KeepC w.heap.size stT W w') ∧ Hid (∀ b, b ≠ mb → w'.heap[b]? = W.heap[b]?) := by
  have cm := a.cm
  have hl := fun ty => run_plen a.mp ty
  obtain ⟨W1, _, hm, hk, ho⟩ := run_pclear a.mp 0 w.heap.size a.lm
  have hcl : ∀ ty, (Builtin.clear_ #[53] ty #[.map (some mb)]).run Try.prog W = .ok (.tuple #[]) W1 := fun ty => by assumption
  have HE : Hid (StAt w W1 p nb sb cv n D s mb h [] lost ∧ KeepC w.heap.size stT W W1 ∧ ∀ b, b ≠ mb → W1.heap[b]? = W.heap[b]?) := ⟨a.pendO hm hk ho, hk, ho⟩
  clear a hm hk ho
  go_enter Try.func9, Try.ntmps9
  go_wp2
  go_ret
  exact ⟨rfl, HE.out.1, HE.out.2.1, HE.out.2.2⟩
end
end Go.Proofs.Ytidccclfngcpgaa
