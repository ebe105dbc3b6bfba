/-
  The best piece of each number: an array of two hundred pieces in memory.
-/
import Derived.Test.YtnogklclkbhdnaaZk5
namespace Go.Proofs.Ytnogklclkbhdnaa
set_option linter.unusedVariables false
set_option linter.unusedSimpArgs false
set_option maxRecDepth 100000
open Go.RowKit Go.Lib
theorem PmRow.shape {W : World} {base : Nat} {v : Value} {xs : List Pm} (h : PmRow W base v xs) : ∃ a cap, v = .slice a xs.length cap := by
  rcases h.row.2 with ⟨rfl, h0⟩ | ⟨g, cap, cur, rfl, _⟩
  · exact ⟨none, 0, by rw [h0]⟩
  · exact ⟨_, _, rfl⟩
section
variable {w W : World} {p nb sb : Nat} {cv : Value} {n : Nat} {D : Dk}
theorem lay_none (a : Tn w W p nb sb cv n D) (fr mn : Nat) (hf : D.fail < 0) (hm1 : 1 ≤ mn) (hi : fr + mn ≤ n) (hn : n ≤ 200) (hs : D.lim 999000) (hz : allF mn (imgF fr mn D) = []) :
    Calls Try.prog 15 #[.agg #[.pointer (some ⟨p, 0, none⟩), .int .i64 (fr : Int), .int .i64 (mn : Int)]] W fun e w' => e = .returned .nilIface ∧ ∃ cv', Hid (Tn w w' p nb sb cv' n (hdD D fr mn 1)) ∧ Hid (Keeps w.heap.size dkT W w') := by
  obtain ⟨W1, hW1⟩ : ∃ W1, W.alloc (.cells #[.pointer (some ⟨p, 0, none⟩), .int .i64 (fr : Int), .int .i64 (mn : Int)] 50) = W1 := ⟨_, rfl⟩
  have hB : Below W.heap.size W W1 := by rw [← hW1]; exact (Below.refl _ W).alloc (Nat.le_refl _) _
  have hr := new_heap W (.cells #[.pointer (some ⟨p, 0, none⟩), .int .i64 (fr : Int), .int .i64 (mn : Int)] 50)
  rw [hW1] at hr
  have HF : Hid (∀ U : World, U.heap[W.heap.size]? = some (.cells #[.pointer (some ⟨p, 0, none⟩), .int .i64 (fr : Int), .int .i64 (mn : Int)] 50 (0, 0)) → U.cell? ⟨W.heap.size, 0, none⟩ = some (.pointer (some ⟨p, 0, none⟩)) ∧ U.cell? ⟨W.heap.size, 1, none⟩ = some (.int .i64 (fr : Int)) ∧ U.cell? ⟨W.heap.size, 2, none⟩ = some (.int .i64 (mn : Int))) := fun U h => ⟨by simp [World.cell?, h], by simp [World.cell?, h], by simp [World.cell?, h]⟩
  obtain ⟨c0, c1, c2⟩ := HF.out W1 hr
  have HP : Hid (Calls _ _ _ W1 _) := piecesA_any (a.below hB) fr mn hi hn
  rw [hz] at HP
  have HH : Hid (W1.heap[W.heap.size]? = some (.cells #[.pointer (some ⟨p, 0, none⟩), .int .i64 (fr : Int), .int .i64 (mn : Int)] 50 (0, 0)) ∧ Below W.heap.size W W1) := ⟨hr, hB⟩
  have HW : Hid (∀ U, Below W.heap.size W U → Calls Try.prog 16 #[.agg #[.pointer (some ⟨p, 0, none⟩), .int .i64 (fr : Int), .int .i64 (mn : Int)], .int .i64 1] U fun e w' => e = .returned .nilIface ∧ ∃ cv', Hid (Tn w w' p nb sb cv' n (hdD D fr mn 1)) ∧ Hid (Keeps w.heap.size dkT U w')) := fun U hU => writeLHead_ok (a.below hU) fr mn 1 hf (by omega) hn (by omega) (by omega) hs
  clear a hB hr
  go_enter Try.func15, Try.ntmps15
  go_wp2_with fail
  refine HP.out.mono ?_
  rintro e w2 ⟨v, rfl, xs, hxs, hrow, hb2⟩
  have hx0 : xs = [] := by simpa using hxs
  subst hx0
  obtain ⟨av, capv, rfl⟩ := hrow.out.shape
  have hr2 := (hb2.out.block _ (Array.getElem?_eq_some_iff.1 HH.out.1).1).trans HH.out.1
  obtain ⟨d0, d1, d2⟩ := HF.out w2 hr2
  have hbw : Below W.heap.size W w2 := HH.out.2.trans (hb2.out.mono HH.out.2.size)
  have HW2 : Hid (Calls _ _ _ w2 _) := HW.out w2 hbw
  have HB2 : Hid (Below W.heap.size W w2) := hbw
  clear HP hrow hb2 hxs hr2 hbw HW HH c0 c1 c2
  go_wp2_with fail
  refine wp_loop_rounds 1 ?_
  rw [rounds_succ]
  go_wp2_with fail
  refine HW2.out.mono ?_
  rintro e w3 ⟨rfl, cv3, h3, k3⟩
  go_wp2
  go_ret
  exact ⟨rfl, cv3, h3, (Keeps.of_below HB2.out).trans k3.out⟩
theorem build_area (p : Nat) (fr mn : Int) (w : World) : (Instr.build 50 #[(0, .pointer (some ⟨p, 0, none⟩)), (1, .int .i64 fr), (2, .int .i64 mn)]).run Try.prog w = .ok (.agg #[.pointer (some ⟨p, 0, none⟩), .int .i64 fr, .int .i64 mn]) w := by
  refine run_build w 50 _ _ ?_
  kernel_rfl
theorem img_fresh (fr mn : Nat) (D : Dk) (h : ∀ i, i < mn → D.now.getD (fr + i) bk0 = bk0) : allF mn (imgF fr mn D) = [] := by
  unfold allF
  rw [List.filterMap_eq_nil_iff]
  intro a ha
  rw [List.mem_range'_1] at ha
  unfold imgF
  split
  · rename_i h1
    rw [h a h1.2, pcOf_zero]
    rfl
  · rfl
theorem formatL_fresh (a : Tn w W p nb sb cv n D) (fr mn : Nat) (hf : D.fail < 0) (hm1 : 1 ≤ mn) (hi : fr + mn ≤ n) (hn : n ≤ 200) (hs : D.lim 999000) (hz : ∀ i, i < mn → D.now.getD (fr + i) bk0 = bk0) :
    Calls Try.prog 5 #[.pointer (some ⟨p, 0, none⟩), .int .i64 (fr : Int), .int .i64 (mn : Int)] W fun e w' => e = .returned .nilIface ∧ ∃ cv', Hid (Tn w w' p nb sb cv' n (hdD D fr mn 1)) ∧ Hid (Keeps w.heap.size dkT W w') := by
  obtain ⟨W1, hW1⟩ : ∃ W1, W.alloc (.cells #[.pointer (some ⟨p, 0, none⟩), .int .i64 (fr : Int), .int .i64 (mn : Int)] 50) = W1 := ⟨_, rfl⟩
  have hB : Below W.heap.size W W1 := by rw [← hW1]; exact (Below.refl _ W).alloc (Nat.le_refl _) _
  have hr := new_heap W (.cells #[.pointer (some ⟨p, 0, none⟩), .int .i64 (fr : Int), .int .i64 (mn : Int)] 50)
  rw [hW1] at hr
  have HF : Hid (∀ U : World, Below W1.heap.size W1 U → (U.cell? ⟨W.heap.size, 0, none⟩ = some (.pointer (some ⟨p, 0, none⟩)) ∧ U.cell? ⟨W.heap.size, 1, none⟩ = some (.int .i64 (fr : Int)) ∧ U.cell? ⟨W.heap.size, 2, none⟩ = some (.int .i64 (mn : Int))) ∧ Tn w U p nb sb cv n D ∧ Below W.heap.size W U) := fun U hU => by
    have h := (hU.block _ (Array.getElem?_eq_some_iff.1 hr).1).trans hr
    have hU2 : Below W.heap.size W U := hB.trans (hU.mono hB.size)
    exact ⟨⟨by simp [World.cell?, h], by simp [World.cell?, h], by simp [World.cell?, h]⟩, a.below hU2, hU2⟩
  obtain ⟨⟨c0, c1, c2⟩, _, _⟩ := HF.out W1 (Below.refl _ _)
  have HV : Hid (Calls _ _ _ W1 _) := valid_any (a.below hB) (fr : Int) (mn : Int) hn (by omega)
  rw [show decide (1 ≤ (mn : Int) ∧ 0 ≤ (fr : Int) ∧ (fr : Int) ≤ (n : Int) - (mn : Int)) = true by rw [decide_eq_true_eq]; omega] at HV
  have HRd : Hid (∀ U, Tn w U p nb sb cv n D → Calls Try.prog 14 #[.agg #[.pointer (some ⟨p, 0, none⟩), .int .i64 (fr : Int), .int .i64 (mn : Int)]] U fun e w' => e = .returned (.tuple #[.int .i64 0, .bool false]) ∧ Hid (Below U.heap.size U w')) := fun U hU => readLHead_none hU fr mn (by omega) hn (by have := hz 0 (by omega); rwa [Nat.add_zero] at this)
  have HLy : Hid (∀ U, Tn w U p nb sb cv n D → Calls Try.prog 15 #[.agg #[.pointer (some ⟨p, 0, none⟩), .int .i64 (fr : Int), .int .i64 (mn : Int)]] U fun e w' => e = .returned .nilIface ∧ ∃ cv', Hid (Tn w w' p nb sb cv' n (hdD D fr mn 1)) ∧ Hid (Keeps w.heap.size dkT U w')) := fun U hU => lay_none hU fr mn hf hm1 hi hn hs (img_fresh fr mn D hz)
  clear a hB hr
  go_enter Try.func5, Try.ntmps5
  go_wp2_with fail
  refine HV.out.mono ?_
  rintro e w2 ⟨rfl, hb2⟩
  obtain ⟨⟨d0, d1, d2⟩, ht2, _⟩ := HF.out w2 hb2
  have HR2 : Hid (Calls _ _ _ w2 _) := HRd.out w2 ht2
  have HB2 : Hid (Below W1.heap.size W1 w2) := hb2
  clear HV ht2 hb2 c0 c1 c2 HRd
  go_wp2_with fail
  refine HR2.out.mono ?_
  rintro e w3 ⟨rfl, hb3⟩
  have hb13 : Below W1.heap.size W1 w3 := HB2.out.trans (hb3.out.mono HB2.out.size)
  obtain ⟨⟨e0, e1, e2⟩, ht3, hbw3⟩ := HF.out w3 hb13
  have HL3 : Hid (Calls _ _ _ w3 _) := HLy.out w3 ht3
  have HB3 : Hid (Below W.heap.size W w3) := hbw3
  clear HR2 ht3 hb3 hb13 hbw3 HLy HB2 d0 d1 d2
  go_wp2_with fail
  refine HL3.out.mono ?_
  rintro e w4 ⟨rfl, cv4, h4, k4⟩
  go_wp2
  go_ret
  exact ⟨rfl, cv4, h4, (Keeps.of_below HB3.out).trans k4.out⟩
theorem formatL_bad (a : Tn w W p nb sb cv n D) (fr mn : Int) (hn : n ≤ 200) (hw : mn ≤ 9223372036854775807) (hb : ¬ (1 ≤ mn ∧ 0 ≤ fr ∧ fr ≤ (n : Int) - mn)) :
    Calls Try.prog 5 #[.pointer (some ⟨p, 0, none⟩), .int .i64 fr, .int .i64 mn] W fun e w' => e = .returned (.iface 44 (.int .i64 1)) ∧ Hid (Below W.heap.size W w') := by
  obtain ⟨W1, hW1⟩ : ∃ W1, W.alloc (.cells #[.pointer (some ⟨p, 0, none⟩), .int .i64 fr, .int .i64 mn] 50) = W1 := ⟨_, rfl⟩
  have hB : Below W.heap.size W W1 := by rw [← hW1]; exact (Below.refl _ W).alloc (Nat.le_refl _) _
  have hr := new_heap W (.cells #[.pointer (some ⟨p, 0, none⟩), .int .i64 fr, .int .i64 mn] 50)
  rw [hW1] at hr
  have c0 : W1.cell? ⟨W.heap.size, 0, none⟩ = some (.pointer (some ⟨p, 0, none⟩)) := by simp [World.cell?, hr]
  have c1 : W1.cell? ⟨W.heap.size, 1, none⟩ = some (.int .i64 fr) := by simp [World.cell?, hr]
  have c2 : W1.cell? ⟨W.heap.size, 2, none⟩ = some (.int .i64 mn) := by simp [World.cell?, hr]
  have HV : Hid (Calls _ _ _ W1 _) := valid_any (a.below hB) fr mn hn hw
  rw [decide_eq_false hb] at HV
  have HB : Hid (Below W.heap.size W W1) := hB
  clear a hB hr hb
  go_enter Try.func5, Try.ntmps5
  go_wp2_with fail
  refine HV.out.mono ?_
  rintro e w2 ⟨rfl, hb2⟩
  have HE : Hid (Below W.heap.size W w2) := HB.out.trans (hb2.mono HB.out.size)
  clear HV hb2 HB c0 c1 c2
  go_wp2
  go_ret
  exact ⟨rfl, HE⟩
theorem openL_bad (a : Tn w W p nb sb cv n D) (fr mn : Int) (hn : n ≤ 200) (hw : mn ≤ 9223372036854775807) (hb : ¬ (1 ≤ mn ∧ 0 ≤ fr ∧ fr ≤ (n : Int) - mn)) :
    Calls Try.prog 6 #[.pointer (some ⟨p, 0, none⟩), .int .i64 fr, .int .i64 mn] W fun e w' => e = .returned (.tuple #[.pointer none, .iface 44 (.int .i64 1)]) ∧ Hid (Below W.heap.size W w') := by
  obtain ⟨W1, hW1⟩ : ∃ W1, W.alloc (.cells #[.pointer (some ⟨p, 0, none⟩), .int .i64 fr, .int .i64 mn] 50) = W1 := ⟨_, rfl⟩
  have hB : Below W.heap.size W W1 := by rw [← hW1]; exact (Below.refl _ W).alloc (Nat.le_refl _) _
  have hr := new_heap W (.cells #[.pointer (some ⟨p, 0, none⟩), .int .i64 fr, .int .i64 mn] 50)
  rw [hW1] at hr
  have c0 : W1.cell? ⟨W.heap.size, 0, none⟩ = some (.pointer (some ⟨p, 0, none⟩)) := by simp [World.cell?, hr]
  have c1 : W1.cell? ⟨W.heap.size, 1, none⟩ = some (.int .i64 fr) := by simp [World.cell?, hr]
  have c2 : W1.cell? ⟨W.heap.size, 2, none⟩ = some (.int .i64 mn) := by simp [World.cell?, hr]
  have HV : Hid (Calls _ _ _ W1 _) := valid_any (a.below hB) fr mn hn hw
  rw [decide_eq_false hb] at HV
  have HB : Hid (Below W.heap.size W W1) := hB
  clear a hB hr hb
  go_enter Try.func6, Try.ntmps6
  go_wp2_with fail
  refine HV.out.mono ?_
  rintro e w2 ⟨rfl, hb2⟩
  have HE : Hid (Below W.heap.size W w2) := HB.out.trans (hb2.mono HB.out.size)
  clear HV hb2 HB c0 c1 c2
  go_wp2
  go_ret2
  exact ⟨rfl, HE⟩
end
end Go.Proofs.Ytnogklclkbhdnaa

namespace Go.Proofs.Ytnogklclkbhdnaa
set_option linter.unusedVariables false
set_option linter.unusedSimpArgs false
set_option maxRecDepth 100000
open Go.RowKit Go.Lib
theorem over_any (x y : Pm) (W : World) (hx : x.q.byt.length ≤ 1000000) (hy : y.q.byt.length ≤ 1000000) :
    Calls Try.prog 35 #[.agg x.cells.toArray, .agg y.cells.toArray] W fun e w' => e = .returned (.bool (x.q.over y.q)) ∧ Below W.heap.size W w' := by
  obtain ⟨at1, ⟨num1, sit1, fst1, byt1⟩, ad1, cap1⟩ := x
  obtain ⟨at2, ⟨num2, sit2, fst2, byt2⟩, ad2, cap2⟩ := y
  simp only at hx hy
  simp only [Pm.cells]
  have hb := (two_new W (.cells #[.int .i64 (at1 : Int), .int .i64 (num1 : Int), .int .i64 (sit1 : Int), .bool fst1, .slice ad1 byt1.length cap1] 78) (.cells #[.int .i64 (at2 : Int), .int .i64 (num2 : Int), .int .i64 (sit2 : Int), .bool fst2, .slice ad2 byt2.length cap2] 78)).2.2
  have HB : Hid (Below W.heap.size W ((W.alloc (.cells #[.int .i64 (at1 : Int), .int .i64 (num1 : Int), .int .i64 (sit1 : Int), .bool fst1, .slice ad1 byt1.length cap1] 78)).alloc (.cells #[.int .i64 (at2 : Int), .int .i64 (num2 : Int), .int .i64 (sit2 : Int), .bool fst2, .slice ad2 byt2.length cap2] 78))) := hb
  clear hb
  have l1 : (byt1.length : Int) ≤ 1000000 := by omega
  have l2 : (byt2.length : Int) ≤ 1000000 := by omega
  unfold Pc.over
  simp only
  by_cases h1 : sit2 < sit1
  · rw [decide_eq_true h1, Bool.true_or]
    have h1' : (sit2 : Int) < sit1 := by omega
    go_enter Try.func35, Try.ntmps35
    go_wp2
    go_ret
    exact ⟨rfl, HB.out⟩
  · rw [decide_eq_false h1, Bool.false_or]
    have h1' : ¬ (sit2 : Int) < sit1 := by omega
    by_cases h2 : sit1 = sit2
    · subst h2
      rw [decide_eq_true rfl, Bool.true_and]
      by_cases h3 : byt2.length < byt1.length
      · rw [decide_eq_true h3]
        have h3' : (byt2.length : Int) < byt1.length := by omega
        go_enter Try.func35, Try.ntmps35
        go_wp2
        go_ret
        exact ⟨rfl, HB.out⟩
      · rw [decide_eq_false h3]
        have h3' : ¬ (byt2.length : Int) < byt1.length := by omega
        go_enter Try.func35, Try.ntmps35
        go_wp2
        go_ret
        exact ⟨rfl, HB.out⟩
    · rw [decide_eq_false h2, Bool.false_and]
      have h2' : ¬ (sit1 : Int) = sit2 := by omega
      have h2'' : ((sit1 : Int) == (sit2 : Int)) = false := by rw [beq_eq_false_iff_ne]; exact h2'
      go_enter Try.func35, Try.ntmps35
      go_wp2
      go_ret
      exact ⟨rfl, HB.out⟩
/-- Pieces that are read. -/
structure IsPm (W : World) (v : Value) (xs : List Pm) : Prop where
  shape : ∃ a cap, v = .slice a xs.length cap ∧ (xs = [] ∨ ∃ g, a = some ⟨g, 0, none⟩ ∧ g < W.heap.size ∧ ∀ k (h : k < xs.length), W.rangeAt g (k * 5) (xs[k]'h).cells)
  ok : ∀ x ∈ xs, Pm.ok W x
theorem PmRow.isPm {W : World} {base : Nat} {v : Value} {xs : List Pm} (h : PmRow W base v xs) : IsPm W v xs := by
  refine ⟨?_, h.ok⟩
  rcases h.row.2 with ⟨rfl, h0⟩ | ⟨g, cap, cur, rfl, _, hg, _, _, _, ht⟩
  · exact ⟨none, 0, by rw [h0], .inl (List.eq_nil_of_length_eq_zero h0)⟩
  · refine ⟨_, _, rfl, .inr ⟨g, rfl, (Array.getElem?_eq_some_iff.1 hg).1, fun k hk j u hj => ?_⟩⟩
    have hj5 : j < 5 := by
      have := (List.getElem?_eq_some_iff.1 hj).1
      rwa [Pm.cells_length] at this
    have e := rowOf_get Pm.cells 5 xs k j hk (fun x _ => x.cells_length) hj5
    rw [cell_of_row W g _ _ _ (0, 0) hg]
    rw [← ht, List.getElem?_take, if_pos (by
      have : (k + 1) * 5 ≤ xs.length * 5 := Nat.mul_le_mul_right 5 hk
      omega), hj] at e
    simpa using e
theorem IsPm.below {W U : World} {v : Value} {xs : List Pm} (h : IsPm W v xs) (hb : Below W.heap.size W U) : IsPm U v xs := by
  refine ⟨?_, fun x hx => Pm.ok_below (h.ok x hx) hb⟩
  obtain ⟨a, cap, e, hh⟩ := h.shape
  refine ⟨a, cap, e, ?_⟩
  rcases hh with hh | ⟨g, e1, hlt, hr⟩
  · exact .inl hh
  · exact .inr ⟨g, e1, by have := hb.size; omega, fun k hk j u hj => (hb.cell (p := ⟨g, k * 5 + j, none⟩) hlt).trans (hr k hk j u hj)⟩
/-- The last sitting of which there is a piece. -/
def newestF (since : Nat) (l : List (Nat × Pc)) : Nat := l.foldl (fun m p => max m p.2.sit) (since - 1)
theorem newestF_ge (since : Nat) (l : List (Nat × Pc)) : since - 1 ≤ newestF since l ∧ ∀ p ∈ l, p.2.sit ≤ newestF since l := by
  unfold newestF
  generalize since - 1 = s
  induction l generalizing s with
  | nil => exact ⟨Nat.le_refl _, fun p hp => absurd hp (by simp)⟩
  | cons x l ih =>
    obtain ⟨h1, h2⟩ := ih (max s x.2.sit)
    simp only [List.foldl_cons]
    refine ⟨by omega, fun p hp => ?_⟩
    rcases List.mem_cons.1 hp with rfl | hp
    · omega
    · exact h2 p hp
theorem newestF_le (since K : Nat) (l : List (Nat × Pc)) (h0 : since - 1 ≤ K) (h : ∀ p ∈ l, p.2.sit ≤ K) : newestF since l ≤ K := by
  unfold newestF
  generalize since - 1 = s at *
  induction l generalizing s with
  | nil => exact h0
  | cons x l ih =>
    simp only [List.foldl_cons]
    exact ih (fun p hp => h p (by simp [hp])) (max s x.2.sit) (by have := h x (by simp); omega)
theorem foldl_take {α β : Type} (f : β → α → β) (b : β) (l : List α) (k : Nat) (h : k < l.length) : (l.take (k + 1)).foldl f b = f ((l.take k).foldl f b) l[k] := by
  rw [List.take_add_one, List.getElem?_eq_getElem h, List.foldl_append]
  rfl
set_option maxHeartbeats 1000000 in
theorem newest_any (v : Value) (xs : List Pm) (since : Nat) (W : World) (h : IsPm W v xs) (hl : xs.length ≤ 100000) (h1 : 1 ≤ since) (h2 : since ≤ 100000) (hs : ∀ x ∈ xs, x.q.sit ≤ 100000) :
    Calls Try.prog 17 #[v, .int .i64 (since : Int)] W fun e w' => e = .returned (.int .i64 (newestF since (xs.map Pm.pair) : Nat)) ∧ Below W.heap.size W w' := by
  have hal := alloc_pc
  have HI : Hid (IsPm W v xs) := h
  obtain ⟨av, capv, rfl, _⟩ := h.shape
  have s0 : (1 : Int) ≤ since := by omega
  have s1 : (since : Int) ≤ 100000 := by omega
  have hl' : (xs.length : Int) ≤ 100000 := by omega
  have Hs : Hid (∀ x ∈ xs, x.q.sit ≤ 100000) := hs
  clear h hs
  go_enter Try.func17, Try.ntmps17
  go_wp2_with fail
  go_loopw [5, 12] (fun t i wr => ∃ k : Nat, k ≤ xs.length ∧ t = .int .i64 (newestF since ((xs.take k).map Pm.pair) : Nat) ∧ i = .int .i64 k ∧ Hid (Below W.heap.size W wr)) (fun _ i _ => xs.length - (intOf i).toNat)
  case atStart =>
    refine ⟨0, Nat.zero_le _, ?_, rfl, Below.refl _ _⟩
    show _ = Value.int .i64 ((since - 1 : Nat) : Int)
    go_num
  case round =>
    obtain ⟨k, hk, rfl, rfl, HB⟩ := hrel
    have k0 : (0 : Int) ≤ k := by omega
    by_cases hlt : k < xs.length
    · have k1 : (k : Int) < xs.length := by omega
      obtain ⟨a', cap', e, hh⟩ := (HI.out.below HB.out).shape
      cases e
      rcases hh with hh | ⟨g, rfl, hg, hr⟩
      · subst hh; simp at hlt
      have hld := load_pm (xs[k]'hlt) (hr k hlt)
      have hst := storeP (xs[k]'hlt)
      have hss := Hs.out _ (List.getElem_mem hlt)
      have hn1 : newestF since ((xs.take (k + 1)).map Pm.pair) = max (newestF since ((xs.take k).map Pm.pair)) (xs[k]'hlt).q.sit := by
        unfold newestF
        rw [List.map_take, List.map_take, foldl_take _ _ _ k (by simpa using hlt)]
        simp [Pm.pair]
      have HN1 : Hid (newestF since ((xs.take (k + 1)).map Pm.pair) = max (newestF since ((xs.take k).map Pm.pair)) (xs[k]'hlt).q.sit) := hn1
      have hnl : newestF since ((xs.take k).map Pm.pair) ≤ 100000 := newestF_le since 100000 _ (by omega) (fun p hp => by
        obtain ⟨x, hx, rfl⟩ := List.mem_map.1 hp
        exact Hs.out x (List.mem_of_mem_take hx))
      have HB2 : Hid (Below W.heap.size W (wr.alloc (.cells (xs[k]'hlt).cells.toArray 78))) := HB.out.alloc HB.out.size _
      have c2 : (wr.alloc (.cells (xs[k]'hlt).cells.toArray 78)).cell? ⟨wr.heap.size, 2, none⟩ = some (.int .i64 ((xs[k]'hlt).q.sit : Int)) := by
        rw [cell_of_row _ _ _ _ _ (0, 0) (new_heap wr _)]; rfl
      generalize xs[k]'hlt = x at *
      generalize newestF since ((xs.take k).map Pm.pair) = m at *
      obtain ⟨w2, hw2⟩ : ∃ w2, wr.alloc (.cells x.cells.toArray 78) = w2 := ⟨_, rfl⟩
      rw [hw2] at c2 HB2
      obtain ⟨sx, hsx⟩ : ∃ sx, x.q.sit = sx := ⟨_, rfl⟩
      rw [hsx] at c2 HN1 hss
      have m0 : (0 : Int) ≤ m := by omega
      have m1 : (m : Int) ≤ 100000 := by omega
      have x0 : (0 : Int) ≤ sx := by omega
      have x1 : (sx : Int) ≤ 100000 := by omega
      clear hn1 hr HB hsx
      by_cases hmx : m < sx
      · have hm' : (m : Int) < sx := by omega
        have HMx : Hid (max m sx = sx) := by unfold Hid; omega
        go_wp2_with (first | (refine wpList_load_run rfl 78 _ rfl _ (by rfl) hld ?_) | (refine wpList_alloc_run rfl 78 rfl (hal _) ?_) | (refine wpList_store_run rfl 78 _ _ rfl _ _ (by rfl) (by rfl) (hst _) ?_))
        go_roundw
        case rel => exact ⟨k + 1, by omega, by rw [HN1.out, HMx.out], by go_num, HB2⟩
        case measure => simp [intOf]; omega
      · have hm' : ¬ (m : Int) < sx := by omega
        have HMx : Hid (max m sx = m) := by unfold Hid; omega
        go_wp2_with (first | (refine wpList_load_run rfl 78 _ rfl _ (by rfl) hld ?_) | (refine wpList_alloc_run rfl 78 rfl (hal _) ?_) | (refine wpList_store_run rfl 78 _ _ rfl _ _ (by rfl) (by rfl) (hst _) ?_))
        go_roundw
        case rel => exact ⟨k + 1, by omega, by rw [HN1.out, HMx.out], by go_num, HB2⟩
        case measure => simp [intOf]; omega
    · have ek : k = xs.length := by omega
      have k1 : ¬ (k : Int) < xs.length := by omega
      rw [List.take_of_length_le (by omega)]
      go_wp2_with fail
      go_ret
      exact ⟨rfl, HB.out⟩
end Go.Proofs.Ytnogklclkbhdnaa

namespace Go.Proofs.Ytnogklclkbhdnaa
set_option linter.unusedVariables false
set_option linter.unusedSimpArgs false
set_option maxRecDepth 100000
open Go.RowKit Go.Lib
def pm0 : Pm := ⟨0, ⟨0, 0, false, []⟩, none, 0⟩
theorem pm0_cells : pm0.cells = pc0C.toList := rfl
theorem best_size : (Try.prog.info? 82).map (·.size) = some 1000 := by kernel_rfl
theorem best_zero : (Try.prog.info? 82).map (·.zero) = some (some (.agg (rowOf Pm.cells (List.replicate 200 pm0)).toArray)) := by kernel_rfl
theorem alloc_best (w : World) : (Instr.alloc 82 true (.tuple #[])).run Try.prog w = .ok (.pointer (some ⟨w.heap.size, 0, none⟩)) (w.alloc (.cells (rowOf Pm.cells (List.replicate 200 pm0)).toArray 82)) := by
  cases hq : Try.prog.info? 82 with
  | none => have := best_zero; simp [hq] at this
  | some q =>
    have hz : q.zero = some (.agg (rowOf Pm.cells (List.replicate 200 pm0)).toArray) := by
      have := best_zero
      rw [hq] at this
      exact Option.some.inj this
    generalize (rowOf Pm.cells (List.replicate 200 pm0)).toArray = Z at *
    simp [Instr.alloc, zeroValue, typeInfo, hq, hz, newVar, newRow, Value.cells]
theorem ys_len (ys : List Pm) : (rowOf Pm.cells ys).length = ys.length * 5 := pm_rowL ys
theorem ys_one (ys : List Pm) : ∀ u ∈ rowOf Pm.cells ys, u.oneCell' = true := rowOf_oneC Pm.cells ys (fun x _ => x.cells_one)
/-- One of them is read. -/
theorem ys_range {u : World} {B : Nat} {ys : List Pm} {t : TypeId} (h : u.heap[B]? = some (.cells (rowOf Pm.cells ys).toArray t (0, 0))) (k : Nat) (hk : k < ys.length) : u.rangeAt B (k * 5) (ys.getD k pm0).cells := by
  intro j v hj
  have hj5 : j < 5 := by
    have := (List.getElem?_eq_some_iff.1 hj).1
    rwa [Pm.cells_length] at this
  rw [cell_of_row u B _ _ t (0, 0) h, List.getElem?_toArray, rowOf_get Pm.cells 5 ys k j hk (fun x _ => x.cells_length) hj5]
  rw [List.getD_eq_getElem?_getD, List.getElem?_eq_getElem hk] at hj
  exact hj
/-- One of them is set. -/
theorem ys_store {u : World} {B : Nat} {ys : List Pm} {t : TypeId} (h : u.heap[B]? = some (.cells (rowOf Pm.cells ys).toArray t (0, 0))) (k : Nat) (hk : k < ys.length) (x : Pm) :
    (Instr.storeAt 78 (.pointer (some ⟨B, k * 5, none⟩)) (.agg x.cells.toArray)).run Try.prog u = .ok () (u.setRow B (rowOf Pm.cells (ys.set k x)).toArray) := by
  have hle : (k + 1) * 5 ≤ ys.length * 5 := Nat.mul_le_mul_right 5 hk
  have := run_storeCells_at Try.prog B (k * 5) t x.cells 0 (rowOf Pm.cells ys).toArray u h (by rw [x.cells_length, List.size_toArray, ys_len]; omega) x.cells_one
  rw [Nat.add_zero, x.cells_length] at this
  simp only at this
  rw [rowOf_set Pm.cells 5 ys k x (fun y _ => y.cells_length) hk] at this
  cases hq : Try.prog.info? 78 with
  | none => have := pc_size; simp [hq] at this
  | some q =>
    have hs : q.size = 5 := by have := pc_size; simpa [hq] using this
    simp [Instr.storeAt, Instr.sureAddr, storeVar, sizeOf, typeInfo, hq, Value.cells, hs, x.cells_length, this]
theorem ys_load {u : World} {B : Nat} {ys : List Pm} (hl : ys.length = 200) (h : u.heap[B]? = some (.cells (rowOf Pm.cells ys).toArray 82 (0, 0))) :
    (Instr.loadAt 82 (.pointer (some ⟨B, 0, none⟩))).run Try.prog u = .ok (.agg (rowOf Pm.cells ys).toArray) u :=
  run_loadAt_mid u B 0 82 _ _ (range0 h) Try.underlying82 rfl (by rw [ys_len, hl]; exact best_size)
theorem ys_index {ys : List Pm} (k : Nat) (hk : k < 200) (hl : ys.length = 200) (u : World) :
    (Instr.index 82 (.agg (rowOf Pm.cells ys).toArray) (.int .i64 (k : Int))).run Try.prog u = .ok (.agg (ys.getD k pm0).cells.toArray) u := by
  have hle : (k + 1) * 5 ≤ ys.length * 5 := Nat.mul_le_mul_right 5 (by omega)
  have hL : ((rowOf Pm.cells ys).drop (k * 5)).take 5 = (ys.getD k pm0).cells := by
    have hy : ys.getD k pm0 = ys[k]'(by omega) := by
      rw [List.getD_eq_getElem?_getD, List.getElem?_eq_getElem (show k < ys.length by omega)]
      rfl
    rw [hy]
    refine List.ext_getElem? (fun j => ?_)
    rw [List.getElem?_take]
    by_cases hj : j < 5
    · rw [if_pos hj, List.getElem?_drop, rowOf_get Pm.cells 5 ys k j (by omega) (fun x _ => x.cells_length) hj]
    · rw [if_neg hj, List.getElem?_eq_none (by rw [Pm.cells_length]; omega)]
  cases hq : Try.prog.info? 78 with
  | none => have := pc_size; simp [hq] at this
  | some q =>
    have hs : q.size = 5 := by have := pc_size; simpa [hq] using this
    simp [Instr.index, run_underlying Try.underlying82, asIntOf, part, isAgg, run_underlying Try.underlying78, sizeOf, typeInfo, hq, hs, hk]
    simpa [List.getD_eq_getElem?_getD] using hL
/-- The best piece of each number, as they lie there. -/
def YsIs (xs ys : List Pm) (B : Nat → Option (Nat × Pc)) : Prop := ys.length = 200 ∧ ∀ n, n < 200 → (B n = none ∧ ys.getD n pm0 = pm0) ∨ (∃ p, B n = some p ∧ (ys.getD n pm0).pair = p ∧ ys.getD n pm0 ∈ xs)
theorem YsIs.start (xs : List Pm) (c : Pc → Bool) : YsIs xs (List.replicate 200 pm0) (bestF c []) := by
  refine ⟨by simp, fun n hn => .inl ⟨rfl, ?_⟩⟩
  rw [List.getD_eq_getElem?_getD, List.getElem?_replicate, if_pos hn]
  rfl
theorem bestF_take (c : Pc → Bool) (l : List (Nat × Pc)) (k n : Nat) (h : k < l.length) : bestF c (l.take (k + 1)) n = stepB c n (bestF c (l.take k) n) l[k] := by
  unfold bestF
  rw [foldl_take _ _ _ k h]
theorem getD_set_pm (ys : List Pm) (i j : Nat) (x : Pm) (hi : i < ys.length) : (ys.set i x).getD j pm0 = if j = i then x else ys.getD j pm0 := by
  rw [List.getD_eq_getElem?_getD, List.getElem?_set]
  by_cases e : i = j
  · subst e
    rw [if_pos rfl, if_pos hi, if_pos rfl]; rfl
  · rw [if_neg e, if_neg (fun h => e h.symm), List.getD_eq_getElem?_getD]
/-- One piece more. -/
theorem YsIs.step {xs ys : List Pm} {since : Nat} {s : Nat × Nat} (h1 : 1 ≤ since) (k : Nat) (hk : k < xs.length) (h : YsIs xs ys (bestF (cntF since s) ((xs.map Pm.pair).take k))) (hn : (xs[k]).q.num < 200) :
    ((cntF since s (xs[k]).q && (xs[k]).q.over (ys.getD (xs[k]).q.num pm0).q) = true → YsIs xs (ys.set (xs[k]).q.num xs[k]) (bestF (cntF since s) ((xs.map Pm.pair).take (k + 1)))) ∧
    ((cntF since s (xs[k]).q && (xs[k]).q.over (ys.getD (xs[k]).q.num pm0).q) = false → YsIs xs ys (bestF (cntF since s) ((xs.map Pm.pair).take (k + 1)))) := by
  obtain ⟨hl, hy⟩ := h
  have hkm : k < (xs.map Pm.pair).length := by simpa using hk
  have hg : (xs.map Pm.pair)[k] = (xs[k]).pair := by simp
  have hcond : (decide ((xs[k]).q.num = (xs[k]).q.num) && cntF since s (xs[k]).q && ((bestF (cntF since s) ((xs.map Pm.pair).take k) (xs[k]).q.num).elim true (fun q => (xs[k]).q.over q.2))) = (cntF since s (xs[k]).q && (xs[k]).q.over (ys.getD (xs[k]).q.num pm0).q) := by
    rw [decide_eq_true rfl, Bool.true_and]
    rcases hy _ hn with ⟨e1, e2⟩ | ⟨p, e1, e2, _⟩
    · rw [e1, e2]
      cases hc : cntF since s (xs[k]).q with
      | false => rfl
      | true =>
        have : since ≤ (xs[k]).q.sit := by
          unfold cntF at hc
          simp only [Bool.and_eq_true, decide_eq_true_eq] at hc
          exact hc.2
        have ho : (xs[k]).q.over pm0.q = true := over_true.2 (.inl (by show 0 < _; omega))
        rw [ho]
        rfl
    · rw [e1]
      have : p.2 = (ys.getD (xs[k]).q.num pm0).q := by rw [← e2]; rfl
      simp only [Option.elim_some, this]
  constructor
  · intro hc
    refine ⟨by simp [hl], fun n hn2 => ?_⟩
    rw [bestF_take _ _ _ _ hkm, hg, getD_set_pm _ _ _ _ (by omega)]
    by_cases e : n = (xs[k]).q.num
    · rw [if_pos e]
      refine .inr ⟨(xs[k]).pair, ?_, rfl, List.getElem_mem hk⟩
      unfold stepB
      rw [e, if_pos]
      rw [show (xs[k]).pair.2 = (xs[k]).q from rfl, hcond]
      exact hc
    · rw [if_neg e]
      have : stepB (cntF since s) n (bestF (cntF since s) ((xs.map Pm.pair).take k) n) (xs[k]).pair = bestF (cntF since s) ((xs.map Pm.pair).take k) n := by
        unfold stepB
        rw [if_neg]
        rw [show (xs[k]).pair.2 = (xs[k]).q from rfl, decide_eq_false (fun h => e h.symm)]
        simp
      rw [this]
      exact hy n hn2
  · intro hc
    refine ⟨hl, fun n hn2 => ?_⟩
    rw [bestF_take _ _ _ _ hkm, hg]
    have : stepB (cntF since s) n (bestF (cntF since s) ((xs.map Pm.pair).take k) n) (xs[k]).pair = bestF (cntF since s) ((xs.map Pm.pair).take k) n := by
      unfold stepB
      rw [if_neg]
      rw [show (xs[k]).pair.2 = (xs[k]).q from rfl]
      by_cases e : (xs[k]).q.num = n
      · rw [← e, hcond, hc]
        simp
      · rw [decide_eq_false e]
        simp
    rw [this]
    exact hy n hn2
theorem startF_take (since : Nat) (l : List (Nat × Pc)) (k : Nat) (h : k < l.length) : startF since (l.take (k + 1)) = if l[k].2.fst = true ∧ (startF since (l.take k)).1 < l[k].2.sit then (l[k].2.sit, l[k].2.num) else startF since (l.take k) := by
  unfold startF
  rw [foldl_take _ _ _ k h]
end Go.Proofs.Ytnogklclkbhdnaa
