/-
  A text cut into records: the contract of cut.
-/
import Derived.Test.YtijjegkkeigeoaaZb6
import Derived.Test.YtijjegkkeigeoaaZb5
namespace Go.Proofs.Ytijjegkkeigeoaa
set_option linter.unusedVariables false
set_option linter.unusedSimpArgs false
set_option maxRecDepth 100000
open Go.RowKit Go.Lib
theorem over_any (x y : Pm) (W : World) (hx : x.q.byt.length ≤ 1000000) (hy : y.q.byt.length ≤ 1000000) :
    Calls Try.prog 72 #[.agg x.cells.toArray, .agg y.cells.toArray] W fun e w' => e = .returned (.bool (x.q.over y.q)) ∧ Below W.heap.size W w' := by
  obtain ⟨at1, ⟨num1, sit1, fst1, byt1⟩, ad1, cap1⟩ := x
  obtain ⟨at2, ⟨num2, sit2, fst2, byt2⟩, ad2, cap2⟩ := y
  simp only at hx hy
  simp only [Pm.cells]
  have hb := (two_new W (.cells #[.int .i64 (at1 : Int), .int .i64 (num1 : Int), .int .i64 (sit1 : Int), .bool fst1, .slice ad1 byt1.length cap1] 106) (.cells #[.int .i64 (at2 : Int), .int .i64 (num2 : Int), .int .i64 (sit2 : Int), .bool fst2, .slice ad2 byt2.length cap2] 106)).2.2
  have HB : Hid (Below W.heap.size W ((W.alloc (.cells #[.int .i64 (at1 : Int), .int .i64 (num1 : Int), .int .i64 (sit1 : Int), .bool fst1, .slice ad1 byt1.length cap1] 106)).alloc (.cells #[.int .i64 (at2 : Int), .int .i64 (num2 : Int), .int .i64 (sit2 : Int), .bool fst2, .slice ad2 byt2.length cap2] 106))) := hb
  clear hb
  have l1 : (byt1.length : Int) ≤ 1000000 := by omega
  have l2 : (byt2.length : Int) ≤ 1000000 := by omega
  unfold Pc.over
  simp only
  by_cases h1 : sit2 < sit1
  · rw [decide_eq_true h1, Bool.true_or]
    have h1' : (sit2 : Int) < sit1 := by omega
    go_enter Try.func72, Try.ntmps72
    go_wp2
    go_ret
    exact ⟨rfl, HB.out⟩
  · rw [decide_eq_false h1, Bool.false_or]
    have h1' : ¬ (sit2 : Int) < sit1 := by omega
    by_cases h2 : sit1 = sit2
    · subst h2
      rw [decide_eq_true rfl, Bool.true_and]
      by_cases h3 : byt2.length < byt1.length
      · rw [decide_eq_true h3]
        have h3' : (byt2.length : Int) < byt1.length := by omega
        go_enter Try.func72, Try.ntmps72
        go_wp2
        go_ret
        exact ⟨rfl, HB.out⟩
      · rw [decide_eq_false h3]
        have h3' : ¬ (byt2.length : Int) < byt1.length := by omega
        go_enter Try.func72, Try.ntmps72
        go_wp2
        go_ret
        exact ⟨rfl, HB.out⟩
    · rw [decide_eq_false h2, Bool.false_and]
      have h2' : ¬ (sit1 : Int) = sit2 := by omega
      have h2'' : ((sit1 : Int) == (sit2 : Int)) = false := by rw [beq_eq_false_iff_ne]; exact h2'
      go_enter Try.func72, Try.ntmps72
      go_wp2
      go_ret
      exact ⟨rfl, HB.out⟩
/-- Pieces that are read. -/
structure IsPm (W : World) (v : Value) (xs : List Pm) : Prop where
  shape : ∃ a cap, v = .slice a xs.length cap ∧ (xs = [] ∨ ∃ g, a = some ⟨g, 0, none⟩ ∧ g < W.heap.size ∧ ∀ k (h : k < xs.length), W.rangeAt g (k * 5) (xs[k]'h).cells)
  ok : ∀ x ∈ xs, Pm.ok W x
theorem PmRow.isPm {W : World} {base : Nat} {v : Value} {xs : List Pm} (h : PmRow W base v xs) : IsPm W v xs := by
  refine ⟨?_, h.ok⟩
  rcases h.row.2 with ⟨rfl, h0⟩ | ⟨g, cap, cur, rfl, _, hg, _, _, _, ht⟩
  · exact ⟨none, 0, by rw [h0], .inl (List.eq_nil_of_length_eq_zero h0)⟩
  · refine ⟨_, _, rfl, .inr ⟨g, rfl, (Array.getElem?_eq_some_iff.1 hg).1, fun k hk j u hj => ?_⟩⟩
    have hj5 : j < 5 := by
      have := (List.getElem?_eq_some_iff.1 hj).1
      rwa [Pm.cells_length] at this
    have e := rowOf_get Pm.cells 5 xs k j hk (fun x _ => x.cells_length) hj5
    rw [cell_of_row W g _ _ _ (0, 0) hg]
    rw [← ht, List.getElem?_take, if_pos (by
      have : (k + 1) * 5 ≤ xs.length * 5 := Nat.mul_le_mul_right 5 hk
      omega), hj] at e
    simpa using e
theorem IsPm.below {W U : World} {v : Value} {xs : List Pm} (h : IsPm W v xs) (hb : Below W.heap.size W U) : IsPm U v xs := by
  refine ⟨?_, fun x hx => Pm.ok_below (h.ok x hx) hb⟩
  obtain ⟨a, cap, e, hh⟩ := h.shape
  refine ⟨a, cap, e, ?_⟩
  rcases hh with hh | ⟨g, e1, hlt, hr⟩
  · exact .inl hh
  · exact .inr ⟨g, e1, by have := hb.size; omega, fun k hk j u hj => (hb.cell (p := ⟨g, k * 5 + j, none⟩) hlt).trans (hr k hk j u hj)⟩
/-- The last sitting of which there is a piece. -/
def newestF (since : Nat) (l : List (Nat × Pc)) : Nat := l.foldl (fun m p => max m p.2.sit) (since - 1)
theorem newestF_ge (since : Nat) (l : List (Nat × Pc)) : since - 1 ≤ newestF since l ∧ ∀ p ∈ l, p.2.sit ≤ newestF since l := by
  unfold newestF
  generalize since - 1 = s
  induction l generalizing s with
  | nil => exact ⟨Nat.le_refl _, fun p hp => absurd hp (by simp)⟩
  | cons x l ih =>
    obtain ⟨h1, h2⟩ := ih (max s x.2.sit)
    simp only [List.foldl_cons]
    refine ⟨by omega, fun p hp => ?_⟩
    rcases List.mem_cons.1 hp with rfl | hp
    · omega
    · exact h2 p hp
theorem newestF_le (since K : Nat) (l : List (Nat × Pc)) (h0 : since - 1 ≤ K) (h : ∀ p ∈ l, p.2.sit ≤ K) : newestF since l ≤ K := by
  unfold newestF
  generalize since - 1 = s at *
  induction l generalizing s with
  | nil => exact h0
  | cons x l ih =>
    simp only [List.foldl_cons]
    exact ih (fun p hp => h p (by simp [hp])) (max s x.2.sit) (by have := h x (by simp); omega)
theorem foldl_take {α β : Type} (f : β → α → β) (b : β) (l : List α) (k : Nat) (h : k < l.length) : (l.take (k + 1)).foldl f b = f ((l.take k).foldl f b) l[k] := by
  rw [List.take_add_one, List.getElem?_eq_getElem h, List.foldl_append]
  rfl
set_option maxHeartbeats 1000000 in
theorem newest_any (v : Value) (xs : List Pm) (since : Nat) (W : World) (h : IsPm W v xs) (hl : xs.length ≤ 100000) (h1 : 1 ≤ since) (h2 : since ≤ 100000) (hs : ∀ x ∈ xs, x.q.sit ≤ 100000) :
    Calls Try.prog 31 #[v, .int .i64 (since : Int)] W fun e w' => e = .returned (.int .i64 (newestF since (xs.map Pm.pair) : Nat)) ∧ Below W.heap.size W w' := by
  have hal := alloc_pc
  have HI : Hid (IsPm W v xs) := h
  obtain ⟨av, capv, rfl, _⟩ := h.shape
  have s0 : (1 : Int) ≤ since := by omega
  have s1 : (since : Int) ≤ 100000 := by omega
  have hl' : (xs.length : Int) ≤ 100000 := by omega
  have Hs : Hid (∀ x ∈ xs, x.q.sit ≤ 100000) := hs
  clear h hs
  go_enter Try.func31, Try.ntmps31
  go_wp2_with fail
  go_loopw [5, 12] (fun t i wr => ∃ k : Nat, k ≤ xs.length ∧ t = .int .i64 (newestF since ((xs.take k).map Pm.pair) : Nat) ∧ i = .int .i64 k ∧ Hid (Below W.heap.size W wr)) (fun _ i _ => xs.length - (RowKit.intOf i).toNat)
  case atStart =>
    refine ⟨0, Nat.zero_le _, ?_, rfl, Below.refl _ _⟩
    show _ = Value.int .i64 ((since - 1 : Nat) : Int)
    go_num
  case round =>
    obtain ⟨k, hk, rfl, rfl, HB⟩ := hrel
    have k0 : (0 : Int) ≤ k := by omega
    by_cases hlt : k < xs.length
    · have k1 : (k : Int) < xs.length := by omega
      obtain ⟨a', cap', e, hh⟩ := (HI.out.below HB.out).shape
      cases e
      rcases hh with hh | ⟨g, rfl, hg, hr⟩
      · subst hh; simp at hlt
      have hld := load_pm (xs[k]'hlt) (hr k hlt)
      have hst := storeP (xs[k]'hlt)
      have hss := Hs.out _ (List.getElem_mem hlt)
      have hn1 : newestF since ((xs.take (k + 1)).map Pm.pair) = max (newestF since ((xs.take k).map Pm.pair)) (xs[k]'hlt).q.sit := by
        unfold newestF
        rw [List.map_take, List.map_take, foldl_take _ _ _ k (by simpa using hlt)]
        simp [Pm.pair]
      have HN1 : Hid (newestF since ((xs.take (k + 1)).map Pm.pair) = max (newestF since ((xs.take k).map Pm.pair)) (xs[k]'hlt).q.sit) := hn1
      have hnl : newestF since ((xs.take k).map Pm.pair) ≤ 100000 := newestF_le since 100000 _ (by omega) (fun p hp => by
        obtain ⟨x, hx, rfl⟩ := List.mem_map.1 hp
        exact Hs.out x (List.mem_of_mem_take hx))
      have HB2 : Hid (Below W.heap.size W (wr.alloc (.cells (xs[k]'hlt).cells.toArray 106))) := HB.out.alloc HB.out.size _
      have c2 : (wr.alloc (.cells (xs[k]'hlt).cells.toArray 106)).cell? ⟨wr.heap.size, 2, none⟩ = some (.int .i64 ((xs[k]'hlt).q.sit : Int)) := by
        rw [cell_of_row _ _ _ _ _ (0, 0) (new_heap wr _)]; rfl
      generalize xs[k]'hlt = x at *
      generalize newestF since ((xs.take k).map Pm.pair) = m at *
      obtain ⟨w2, hw2⟩ : ∃ w2, wr.alloc (.cells x.cells.toArray 106) = w2 := ⟨_, rfl⟩
      rw [hw2] at c2 HB2
      obtain ⟨sx, hsx⟩ : ∃ sx, x.q.sit = sx := ⟨_, rfl⟩
      rw [hsx] at c2 HN1 hss
      have m0 : (0 : Int) ≤ m := by omega
      have m1 : (m : Int) ≤ 100000 := by omega
      have x0 : (0 : Int) ≤ sx := by omega
      have x1 : (sx : Int) ≤ 100000 := by omega
      clear hn1 hr HB hsx
      by_cases hmx : m < sx
      · have hm' : (m : Int) < sx := by omega
        have HMx : Hid (max m sx = sx) := by unfold Hid; omega
        go_wp2_with (first | (refine wpList_load_run rfl 106 _ rfl _ (by rfl) hld ?_) | (refine wpList_alloc_run rfl 106 rfl (hal _) ?_) | (refine wpList_store_run rfl 106 _ _ rfl _ _ (by rfl) (by rfl) (hst _) ?_))
        go_roundw
        case rel => exact ⟨k + 1, by omega, by rw [HN1.out, HMx.out], by go_num, HB2⟩
        case measure => simp [RowKit.intOf]; omega
      · have hm' : ¬ (m : Int) < sx := by omega
        have HMx : Hid (max m sx = m) := by unfold Hid; omega
        go_wp2_with (first | (refine wpList_load_run rfl 106 _ rfl _ (by rfl) hld ?_) | (refine wpList_alloc_run rfl 106 rfl (hal _) ?_) | (refine wpList_store_run rfl 106 _ _ rfl _ _ (by rfl) (by rfl) (hst _) ?_))
        go_roundw
        case rel => exact ⟨k + 1, by omega, by rw [HN1.out, HMx.out], by go_num, HB2⟩
        case measure => simp [RowKit.intOf]; omega
    · have ek : k = xs.length := by omega
      have k1 : ¬ (k : Int) < xs.length := by omega
      rw [List.take_of_length_le (by omega)]
      go_wp2_with fail
      go_ret
      exact ⟨rfl, HB.out⟩
end Go.Proofs.Ytijjegkkeigeoaa

namespace Go.Proofs.Ytijjegkkeigeoaa
set_option linter.unusedVariables false
set_option linter.unusedSimpArgs false
set_option maxRecDepth 100000
open Go.RowKit Go.Lib
def pm0 : Pm := ⟨0, ⟨0, 0, false, []⟩, none, 0⟩
theorem pm0_cells : pm0.cells = pc0C.toList := rfl
theorem best_size : (Try.prog.info? 123).map (·.size) = some 1000 := by kernel_rfl
theorem best_zero : (Try.prog.info? 123).map (·.zero) = some (some (.agg (rowOf Pm.cells (List.replicate 200 pm0)).toArray)) := by kernel_rfl
theorem alloc_best (w : World) : (Instr.alloc 123 true (.tuple #[])).run Try.prog w = .ok (.pointer (some ⟨w.heap.size, 0, none⟩)) (w.alloc (.cells (rowOf Pm.cells (List.replicate 200 pm0)).toArray 123)) := by
  cases hq : Try.prog.info? 123 with
  | none => have := best_zero; simp [hq] at this
  | some q =>
    have hz : q.zero = some (.agg (rowOf Pm.cells (List.replicate 200 pm0)).toArray) := by
      have := best_zero
      rw [hq] at this
      exact Option.some.inj this
    generalize (rowOf Pm.cells (List.replicate 200 pm0)).toArray = Z at *
    simp [Instr.alloc, zeroValue, typeInfo, hq, hz, newVar, newRow, Value.cells]
theorem ys_len (ys : List Pm) : (rowOf Pm.cells ys).length = ys.length * 5 := pm_rowL ys
theorem ys_one (ys : List Pm) : ∀ u ∈ rowOf Pm.cells ys, u.oneCell' = true := rowOf_oneC Pm.cells ys (fun x _ => x.cells_one)
/-- One of them is read. -/
theorem ys_range {u : World} {B : Nat} {ys : List Pm} {t : TypeId} (h : u.heap[B]? = some (.cells (rowOf Pm.cells ys).toArray t (0, 0))) (k : Nat) (hk : k < ys.length) : u.rangeAt B (k * 5) (ys.getD k pm0).cells := by
  intro j v hj
  have hj5 : j < 5 := by
    have := (List.getElem?_eq_some_iff.1 hj).1
    rwa [Pm.cells_length] at this
  rw [cell_of_row u B _ _ t (0, 0) h, List.getElem?_toArray, rowOf_get Pm.cells 5 ys k j hk (fun x _ => x.cells_length) hj5]
  rw [List.getD_eq_getElem?_getD, List.getElem?_eq_getElem hk] at hj
  exact hj
/-- One of them is set. -/
theorem ys_store {u : World} {B : Nat} {ys : List Pm} {t : TypeId} (h : u.heap[B]? = some (.cells (rowOf Pm.cells ys).toArray t (0, 0))) (k : Nat) (hk : k < ys.length) (x : Pm) :
    (Instr.storeAt 106 (.pointer (some ⟨B, k * 5, none⟩)) (.agg x.cells.toArray)).run Try.prog u = .ok () (u.setRow B (rowOf Pm.cells (ys.set k x)).toArray) := by
  have hle : (k + 1) * 5 ≤ ys.length * 5 := Nat.mul_le_mul_right 5 hk
  have := run_storeCells_at Try.prog B (k * 5) t x.cells 0 (rowOf Pm.cells ys).toArray u h (by rw [x.cells_length, List.size_toArray, ys_len]; omega) x.cells_one
  rw [Nat.add_zero, x.cells_length] at this
  simp only at this
  rw [rowOf_set Pm.cells 5 ys k x (fun y _ => y.cells_length) hk] at this
  cases hq : Try.prog.info? 106 with
  | none => have := pc_size; simp [hq] at this
  | some q =>
    have hs : q.size = 5 := by have := pc_size; simpa [hq] using this
    simp [Instr.storeAt, Instr.sureAddr, storeVar, sizeOf, typeInfo, hq, Value.cells, hs, x.cells_length, this]
theorem ys_load {u : World} {B : Nat} {ys : List Pm} (hl : ys.length = 200) (h : u.heap[B]? = some (.cells (rowOf Pm.cells ys).toArray 123 (0, 0))) :
    (Instr.loadAt 123 (.pointer (some ⟨B, 0, none⟩))).run Try.prog u = .ok (.agg (rowOf Pm.cells ys).toArray) u :=
  run_loadAt_mid u B 0 123 _ _ (range0 h) Try.underlying123 rfl (by rw [ys_len, hl]; exact best_size)
theorem ys_index {ys : List Pm} (k : Nat) (hk : k < 200) (hl : ys.length = 200) (u : World) :
    (Instr.index 123 (.agg (rowOf Pm.cells ys).toArray) (.int .i64 (k : Int))).run Try.prog u = .ok (.agg (ys.getD k pm0).cells.toArray) u := by
  have hle : (k + 1) * 5 ≤ ys.length * 5 := Nat.mul_le_mul_right 5 (by omega)
  have hL : ((rowOf Pm.cells ys).drop (k * 5)).take 5 = (ys.getD k pm0).cells := by
    have hy : ys.getD k pm0 = ys[k]'(by omega) := by
      rw [List.getD_eq_getElem?_getD, List.getElem?_eq_getElem (show k < ys.length by omega)]
      rfl
    rw [hy]
    refine List.ext_getElem? (fun j => ?_)
    rw [List.getElem?_take]
    by_cases hj : j < 5
    · rw [if_pos hj, List.getElem?_drop, rowOf_get Pm.cells 5 ys k j (by omega) (fun x _ => x.cells_length) hj]
    · rw [if_neg hj, List.getElem?_eq_none (by rw [Pm.cells_length]; omega)]
  cases hq : Try.prog.info? 106 with
  | none => have := pc_size; simp [hq] at this
  | some q =>
    have hs : q.size = 5 := by have := pc_size; simpa [hq] using this
    simp [Instr.index, run_underlying Try.underlying123, asIntOf, part, isAgg, run_underlying Try.underlying106, sizeOf, typeInfo, hq, hs, hk]
    simpa [List.getD_eq_getElem?_getD] using hL
/-- The best piece of each number, as they lie there. -/
def YsIs (xs ys : List Pm) (B : Nat → Option (Nat × Pc)) : Prop := ys.length = 200 ∧ ∀ n, n < 200 → (B n = none ∧ ys.getD n pm0 = pm0) ∨ (∃ p, B n = some p ∧ (ys.getD n pm0).pair = p ∧ ys.getD n pm0 ∈ xs)
theorem YsIs.start (xs : List Pm) (c : Pc → Bool) : YsIs xs (List.replicate 200 pm0) (bestF c []) := by
  refine ⟨by simp, fun n hn => .inl ⟨rfl, ?_⟩⟩
  rw [List.getD_eq_getElem?_getD, List.getElem?_replicate, if_pos hn]
  rfl
theorem bestF_take (c : Pc → Bool) (l : List (Nat × Pc)) (k n : Nat) (h : k < l.length) : bestF c (l.take (k + 1)) n = stepB c n (bestF c (l.take k) n) l[k] := by
  unfold bestF
  rw [foldl_take _ _ _ k h]
theorem getD_set_pm (ys : List Pm) (i j : Nat) (x : Pm) (hi : i < ys.length) : (ys.set i x).getD j pm0 = if j = i then x else ys.getD j pm0 := by
  rw [List.getD_eq_getElem?_getD, List.getElem?_set]
  by_cases e : i = j
  · subst e
    rw [if_pos rfl, if_pos hi, if_pos rfl]; rfl
  · rw [if_neg e, if_neg (fun h => e h.symm), List.getD_eq_getElem?_getD]
/-- One piece more. -/
theorem YsIs.step {xs ys : List Pm} {since : Nat} {s : Nat × Nat} (h1 : 1 ≤ since) (k : Nat) (hk : k < xs.length) (h : YsIs xs ys (bestF (cntF since s) ((xs.map Pm.pair).take k))) (hn : (xs[k]).q.num < 200) :
    ((cntF since s (xs[k]).q && (xs[k]).q.over (ys.getD (xs[k]).q.num pm0).q) = true → YsIs xs (ys.set (xs[k]).q.num xs[k]) (bestF (cntF since s) ((xs.map Pm.pair).take (k + 1)))) ∧
    ((cntF since s (xs[k]).q && (xs[k]).q.over (ys.getD (xs[k]).q.num pm0).q) = false → YsIs xs ys (bestF (cntF since s) ((xs.map Pm.pair).take (k + 1)))) := by
  obtain ⟨hl, hy⟩ := h
  have hkm : k < (xs.map Pm.pair).length := by simpa using hk
  have hg : (xs.map Pm.pair)[k] = (xs[k]).pair := by simp
  have hcond : (decide ((xs[k]).q.num = (xs[k]).q.num) && cntF since s (xs[k]).q && ((bestF (cntF since s) ((xs.map Pm.pair).take k) (xs[k]).q.num).elim true (fun q => (xs[k]).q.over q.2))) = (cntF since s (xs[k]).q && (xs[k]).q.over (ys.getD (xs[k]).q.num pm0).q) := by
    rw [decide_eq_true rfl, Bool.true_and]
    rcases hy _ hn with ⟨e1, e2⟩ | ⟨p, e1, e2, _⟩
    · rw [e1, e2]
      cases hc : cntF since s (xs[k]).q with
      | false => rfl
      | true =>
        have : since ≤ (xs[k]).q.sit := by
          unfold cntF at hc
          simp only [Bool.and_eq_true, decide_eq_true_eq] at hc
          exact hc.2
        have ho : (xs[k]).q.over pm0.q = true := over_true.2 (.inl (by show 0 < _; omega))
        rw [ho]
        rfl
    · rw [e1]
      have : p.2 = (ys.getD (xs[k]).q.num pm0).q := by rw [← e2]; rfl
      simp only [Option.elim_some, this]
  constructor
  · intro hc
    refine ⟨by simp [hl], fun n hn2 => ?_⟩
    rw [bestF_take _ _ _ _ hkm, hg, getD_set_pm _ _ _ _ (by omega)]
    by_cases e : n = (xs[k]).q.num
    · rw [if_pos e]
      refine .inr ⟨(xs[k]).pair, ?_, rfl, List.getElem_mem hk⟩
      unfold stepB
      rw [e, if_pos]
      rw [show (xs[k]).pair.2 = (xs[k]).q from rfl, hcond]
      exact hc
    · rw [if_neg e]
      have : stepB (cntF since s) n (bestF (cntF since s) ((xs.map Pm.pair).take k) n) (xs[k]).pair = bestF (cntF since s) ((xs.map Pm.pair).take k) n := by
        unfold stepB
        rw [if_neg]
        rw [show (xs[k]).pair.2 = (xs[k]).q from rfl, decide_eq_false (fun h => e h.symm)]
        simp
      rw [this]
      exact hy n hn2
  · intro hc
    refine ⟨hl, fun n hn2 => ?_⟩
    rw [bestF_take _ _ _ _ hkm, hg]
    have : stepB (cntF since s) n (bestF (cntF since s) ((xs.map Pm.pair).take k) n) (xs[k]).pair = bestF (cntF since s) ((xs.map Pm.pair).take k) n := by
      unfold stepB
      rw [if_neg]
      rw [show (xs[k]).pair.2 = (xs[k]).q from rfl]
      by_cases e : (xs[k]).q.num = n
      · rw [← e, hcond, hc]
        simp
      · rw [decide_eq_false e]
        simp
    rw [this]
    exact hy n hn2
theorem startF_take (since : Nat) (l : List (Nat × Pc)) (k : Nat) (h : k < l.length) : startF since (l.take (k + 1)) = if l[k].2.fst = true ∧ (startF since (l.take k)).1 < l[k].2.sit then (l[k].2.sit, l[k].2.num) else startF since (l.take k) := by
  unfold startF
  rw [foldl_take _ _ _ k h]
end Go.Proofs.Ytijjegkkeigeoaa

namespace Go.Proofs.Ytijjegkkeigeoaa
set_option linter.unusedVariables false
set_option linter.unusedSimpArgs false
set_option maxRecDepth 100000
open Go.RowKit Go.Lib
theorem setRow_belowN {u w : World} {N B : Nat} {cs : Array Value} (hb : Below N w u) (hB : N ≤ B) : Below N w (u.setRow B cs) := hb.trans ⟨rfl, rfl, rfl, by simp, fun k hk => setRow_other _ _ _ _ (by omega)⟩
theorem bestF_c (c : Pc → Bool) (l : List (Nat × Pc)) (n : Nat) (p : Nat × Pc) (h : bestF c l n = some p) : c p.2 = true := by
  have : ∀ (l : List (Nat × Pc)) (b : Option (Nat × Pc)), (∀ q, b = some q → c q.2 = true) → ∀ q, l.foldl (stepB c n) b = some q → c q.2 = true := by
    intro l
    induction l with
    | nil => exact fun b hb q hq => hb q hq
    | cons x l ih =>
      intro b hb q hq
      refine ih (stepB c n b x) (fun r hr => ?_) q hq
      unfold stepB at hr
      split at hr
      · rename_i hc
        cases hr
        simp only [Bool.and_eq_true] at hc
        exact hc.1.2
      · exact hb r hr
  exact this l none (fun q hq => by cases hq) p h
/-- What chain's first loop keeps. -/
def Ch1 (W wr : World) (since : Nat) (xs : List Pm) (k : Nat) : Prop := ∃ y : Pm, wr.heap[W.heap.size]? = some (.cells y.cells.toArray 106 (0, 0)) ∧ (y.q.sit, y.q.num) = startF since ((xs.map Pm.pair).take k) ∧ y.q.sit ≤ 100000 ∧ y.q.num < 200 ∧ Below W.heap.size W wr
/-- .. and its second one. -/
def Ch2 (W wr : World) (since : Nat) (xs : List Pm) (BB k : Nat) (y : Pm) : Prop := ∃ ys : List Pm, YsIs xs ys (bestF (cntF since (startF since (xs.map Pm.pair))) ((xs.map Pm.pair).take k)) ∧ wr.heap[BB]? = some (.cells (rowOf Pm.cells ys).toArray 123 (0, 0)) ∧ wr.heap[W.heap.size]? = some (.cells y.cells.toArray 106 (0, 0)) ∧ Below W.heap.size W wr
/-- .. and its third one. -/
def Ch3 (W wr : World) (Bf : Nat → Option (Nat × Pc)) (k : Nat) (v : Value) : Prop := ∃ zs : List Pm, zs.map Pm.pair ++ chainF Bf (200 - k) k = chainF Bf 200 0 ∧ PmRow wr W.heap.size v zs ∧ Below W.heap.size W wr ∧ zs.length ≤ k
theorem wpList_index_run {P : Program} {ops : Array Oper} {rest : List Oper} {o : Oper} {a : Act} {w w' : World} {Q : Exit → Act → World → Prop} {v : Value} (hgd : o.guard = none) (t : TypeId) (x y : Operand) (ho : o.op = .index t x y) (u z : Value) (hx : a.eval x = u) (hy : a.eval y = z) (hr : (Instr.index t u z).run P w = .ok v w') (h : wpList P ops Q rest (a.put o.dst v) w') : wpList P ops Q (o :: rest) a w :=
  wpList_plain hgd fun _ hK => by
    unfold Oper.wp execOp
    simp only [ho, Sem.run_bind, Sem.run_pure, Result.andThen_ok, hx, hy, hr]
    exact hK _ _ h
set_option maxHeartbeats 8000000 in
theorem chain_any (v : Value) (xs : List Pm) (since : Nat) (W : World) (h : IsPm W v xs) (hl : xs.length ≤ 100000) (h1 : 1 ≤ since) (h2 : since ≤ 100000) (hs : ∀ x ∈ xs, x.q.sit ≤ 100000 ∧ x.q.num < 200 ∧ x.q.byt.length ≤ 60) :
    Calls Try.prog 55 #[v, .int .i64 (since : Int)] W fun e w' => ∃ v', e = .returned v' ∧ ∃ zs : List Pm, zs.map Pm.pair = chainF (bestF (cntF since (startF since (xs.map Pm.pair))) (xs.map Pm.pair)) 200 0 ∧ Hid (PmRow w' W.heap.size v' zs) ∧ Hid (Below W.heap.size W w') := by
  have hal := alloc_pc
  have HI : Hid (IsPm W v xs) := h
  obtain ⟨av, capv, rfl, _⟩ := h.shape
  have s0 : (1 : Int) ≤ since := by omega
  have s1 : (since : Int) ≤ 100000 := by omega
  have hl' : (xs.length : Int) ≤ 100000 := by omega
  have Hs : Hid (∀ x ∈ xs, x.q.sit ≤ 100000 ∧ x.q.num < 200 ∧ x.q.byt.length ≤ 60) := hs
  obtain ⟨y0, hy0⟩ : ∃ y0 : Pm, y0 = ⟨0, ⟨0, since - 1, false, []⟩, none, 0⟩ := ⟨_, rfl⟩
  have hbd := build_pc1 ((since : Int) - 1)
  have hyc : #[Value.int .i64 0, .int .i64 0, .int .i64 ((since : Int) - 1), .bool false, .slice none 0 0] = y0.cells.toArray := by
    rw [hy0]
    simp only [Pm.cells]
    rw [show (((since - 1 : Nat)) : Int) = (since : Int) - 1 by omega]
    rfl
  rw [hyc] at hbd
  have hst0 := storeP y0
  have H1 : Hid (Ch1 W (W.alloc (.cells y0.cells.toArray 106)) since xs 0) := ⟨y0, new_heap W _, by rw [hy0]; rfl, by rw [hy0]; simp only; omega, by rw [hy0]; simp only; omega, (Below.refl _ W).alloc (Nat.le_refl _) _⟩
  clear h hs hy0 hyc
  go_enter Try.func55, Try.ntmps55
  go_wp2_with (first | (refine wpList_build_run rfl 106 #[(2, .tmp 15)] rfl #[(2, .int .i64 ((since : Int) - 1))] (by first | rfl | simp [Act.eval, Act.put]) (hbd _) ?_) | (refine wpList_alloc_run rfl 106 rfl (hal _) ?_) | (refine wpList_store_run rfl 106 _ _ rfl _ _ (by rfl) (by rfl) (hst0 _) ?_))
  generalize W.alloc (.cells y0.cells.toArray 106) = W1 at *
  clear hbd hst0
  go_loopw [19] (fun t wr => ∃ k : Nat, k ≤ xs.length ∧ t = .int .i64 k ∧ Hid (Ch1 W wr since xs k)) (fun t _ => xs.length - (RowKit.intOf t).toNat)
  case atStart => exact ⟨0, Nat.zero_le _, rfl, H1⟩
  case round =>
    clear H1
    obtain ⟨k, hk, rfl, H⟩ := hrel
    have k0 : (0 : Int) ≤ k := by omega
    obtain ⟨y, hy, hyv, hy1, hy2, hbw⟩ := H.out
    by_cases hlt : k < xs.length
    · have k1 : (k : Int) < xs.length := by omega
      obtain ⟨a', cap', e, hh⟩ := (HI.out.below hbw).shape
      cases e
      rcases hh with hh | ⟨g, rfl, hg, hr⟩
      · subst hh; simp at hlt
      have hld := load_pm (xs[k]'hlt) (hr k hlt)
      have hst := storeP (xs[k]'hlt)
      obtain ⟨hx1, hx2, hx3⟩ := Hs.out _ (List.getElem_mem hlt)
      have HSt : Hid (startF since ((xs.map Pm.pair).take (k + 1)) = if (xs[k]'hlt).q.fst = true ∧ y.q.sit < (xs[k]'hlt).q.sit then ((xs[k]'hlt).q.sit, (xs[k]'hlt).q.num) else (y.q.sit, y.q.num)) := by
        unfold Hid
        rw [startF_take _ _ _ (by simpa using hlt), ← hyv]
        simp [Pm.pair]
      generalize xs[k]'hlt = x at *
      obtain ⟨w2, hw2⟩ : ∃ w2, wr.alloc (.cells x.cells.toArray 106) = w2 := ⟨_, rfl⟩
      have hn2 : w2.heap[wr.heap.size]? = some (.cells x.cells.toArray 106 (0, 0)) := by rw [← hw2]; exact new_heap wr _
      have hWs : W.heap.size < wr.heap.size := (Array.getElem?_eq_some_iff.1 hy).1
      have hy' : w2.heap[W.heap.size]? = some (.cells y.cells.toArray 106 (0, 0)) := by rw [← hw2]; exact (Below.heap_alloc _ _ _ hWs).trans hy
      have hb2 : Below W.heap.size W w2 := by rw [← hw2]; exact hbw.alloc hbw.size _
      have c3 : w2.cell? ⟨wr.heap.size, 3, none⟩ = some (.bool x.q.fst) := by rw [cell_of_row _ _ _ _ _ (0, 0) hn2]; rfl
      have c2 : w2.cell? ⟨wr.heap.size, 2, none⟩ = some (.int .i64 (x.q.sit : Int)) := by rw [cell_of_row _ _ _ _ _ (0, 0) hn2]; rfl
      have d2 : w2.cell? ⟨W.heap.size, 2, none⟩ = some (.int .i64 (y.q.sit : Int)) := by rw [cell_of_row _ _ _ _ _ (0, 0) hy']; rfl
      have hld2 := load_pm x (range0 hn2)
      have hst2 := store_pcs (cs := x.cells) (cs' := y.cells) x.cells_length y.cells_length x.cells_one hy'
      have HE : Hid (Ch1 W (if x.q.fst = true ∧ y.q.sit < x.q.sit then w2.setRow W.heap.size x.cells.toArray else w2) since xs (k + 1)) := by
        unfold Hid
        by_cases hc : x.q.fst = true ∧ y.q.sit < x.q.sit
        · rw [if_pos hc]
          refine ⟨x, setRow_heap _ _ _ _ _ _ hy', ?_, hx1, hx2, setRow_belowN hb2 (Nat.le_refl _)⟩
          rw [HSt.out, if_pos hc]
        · rw [if_neg hc]
          refine ⟨y, hy', ?_, hy1, hy2, hb2⟩
          rw [HSt.out, if_neg hc]
      have xs0 : (0 : Int) ≤ x.q.sit := by omega
      clear H hy hyv hbw hr HSt hy' hb2 hn2
      cases hf : x.q.fst
      · rw [hf] at c3 HE
        rw [if_neg (by simp)] at HE
        go_wp2_with (first | (refine wpList_load_run rfl 106 _ rfl _ (by rfl) hld ?_) | (refine wpList_alloc_run rfl 106 rfl (hal _) ?_) | (refine wpList_store_run rfl 106 _ _ rfl _ _ (by rfl) (by rfl) (hst _) ?_))
        go_roundw
        case rel => exact ⟨k + 1, by omega, by go_num, HE⟩
        case measure => simp [RowKit.intOf]; omega
      · rw [hf] at c3 HE
        by_cases hlt2 : y.q.sit < x.q.sit
        · have hlt2' : (y.q.sit : Int) < x.q.sit := by omega
          rw [if_pos ⟨rfl, hlt2⟩] at HE
          go_wp2_with (first | (refine wpList_load_run rfl 106 _ rfl _ (by rfl) hld ?_) | (refine wpList_load_run rfl 106 _ rfl _ (by rfl) hld2 ?_) | (refine wpList_alloc_run rfl 106 rfl (hal _) ?_) | (refine wpList_store_run rfl 106 _ _ rfl _ _ (by rfl) (by rfl) hst2 ?_) | (refine wpList_store_run rfl 106 _ _ rfl _ _ (by rfl) (by rfl) (hst _) ?_))
          go_roundw
          case rel => exact ⟨k + 1, by omega, by go_num, HE⟩
          case measure => simp [RowKit.intOf]; omega
        · have hlt2' : ¬ (y.q.sit : Int) < x.q.sit := by omega
          rw [if_neg (fun h => hlt2 h.2)] at HE
          go_wp2_with (first | (refine wpList_load_run rfl 106 _ rfl _ (by rfl) hld ?_) | (refine wpList_alloc_run rfl 106 rfl (hal _) ?_) | (refine wpList_store_run rfl 106 _ _ rfl _ _ (by rfl) (by rfl) (hst _) ?_))
          go_roundw
          case rel => exact ⟨k + 1, by omega, by go_num, HE⟩
          case measure => simp [RowKit.intOf]; omega
    · have ek : k = xs.length := by omega
      have k1 : ¬ (k : Int) < xs.length := by omega
      have hab := alloc_best
      obtain ⟨W2, hW2⟩ : ∃ W2, wr.alloc (.cells (rowOf Pm.cells (List.replicate 200 pm0)).toArray 123) = W2 := ⟨_, rfl⟩
      obtain ⟨BB, hBB⟩ : ∃ BB, wr.heap.size = BB := ⟨_, rfl⟩
      have hWs : W.heap.size < wr.heap.size := (Array.getElem?_eq_some_iff.1 hy).1
      have HS : Hid ((y.q.sit, y.q.num) = startF since (xs.map Pm.pair) ∧ y.q.sit ≤ 100000 ∧ y.q.num < 200 ∧ W.heap.size < BB) := by
        refine ⟨?_, hy1, hy2, by omega⟩
        rw [hyv, List.take_of_length_le (by simp; omega)]
      have H2 : Hid (Ch2 W W2 since xs BB 0 y) := by
        refine ⟨_, YsIs.start xs _, ?_, ?_, ?_⟩
        · rw [← hW2, ← hBB]; exact new_heap wr _
        · rw [← hW2]; exact (Below.heap_alloc _ _ _ hWs).trans hy
        · rw [← hW2]; exact hbw.alloc hbw.size _
      have hxl : (xs.length : Int) ≤ 100000 := hl'
      clear H hy hyv hbw hWs
      generalize (rowOf Pm.cells (List.replicate 200 pm0)).toArray = Z at hab hW2
      go_wp2_with (refine wpList_alloc_run rfl 123 rfl (hab _) ?_)
      try rw [hW2]
      clear hW2 hBB hab hy1 hy2
      go_loopw [36] (fun t wq => ∃ j : Nat, j ≤ xs.length ∧ t = .int .i64 j ∧ Hid (Ch2 W wq since xs BB j y)) (fun t _ => xs.length - (RowKit.intOf t).toNat)
      case atStart => exact ⟨0, Nat.zero_le _, rfl, H2⟩
      case round =>
        rename World => wq
        clear H2
        obtain ⟨j, hj, rfl, HQ⟩ := hrel
        have j0 : (0 : Int) ≤ j := by omega
        obtain ⟨ys, hys, hbrow, hyrow, hbq⟩ := HQ.out
        by_cases hltj : j < xs.length
        · --@LOOP2
          have j1 : (j : Int) < xs.length := by omega
          obtain ⟨a', cap', e, hh⟩ := (HI.out.below hbq).shape
          cases e
          rcases hh with hh | ⟨g, rfl, hg, hr⟩
          · subst hh; simp at hltj
          have hld := load_pm (xs[j]'hltj) (hr j hltj)
          have hst := storeP (xs[j]'hltj)
          obtain ⟨hx1, hx2, hx3⟩ := Hs.out _ (List.getElem_mem hltj)
          have HStep := YsIs.step h1 j hltj hys hx2
          generalize xs[j]'hltj = x at *
          have hl200 := hys.1
          obtain ⟨w2, hw2⟩ : ∃ w2, wq.alloc (.cells x.cells.toArray 106) = w2 := ⟨_, rfl⟩
          obtain ⟨PB, hPB⟩ : ∃ PB, wq.heap.size = PB := ⟨_, rfl⟩
          have hb2 : Below wq.heap.size wq w2 := by rw [← hw2]; exact (Below.refl _ wq).alloc (Nat.le_refl _) _
          have hn2 : w2.heap[PB]? = some (.cells x.cells.toArray 106 (0, 0)) := by rw [← hw2, ← hPB]; exact new_heap wq _
          have hbrow2 := (hb2.block _ (Array.getElem?_eq_some_iff.1 hbrow).1).trans hbrow
          have hyrow2 := (hb2.block _ (Array.getElem?_eq_some_iff.1 hyrow).1).trans hyrow
          have hbq2 : Below W.heap.size W w2 := hbq.trans (hb2.mono hbq.size)
          have HR : Hid (∀ U, Below w2.heap.size w2 U → U.heap[PB]? = some (.cells x.cells.toArray 106 (0, 0)) ∧ U.heap[BB]? = some (.cells (rowOf Pm.cells ys).toArray 123 (0, 0)) ∧ U.heap[W.heap.size]? = some (.cells y.cells.toArray 106 (0, 0)) ∧ Below W.heap.size W U) := fun U hU =>
            ⟨(hU.block _ (Array.getElem?_eq_some_iff.1 hn2).1).trans hn2, (hU.block _ (Array.getElem?_eq_some_iff.1 hbrow2).1).trans hbrow2, (hU.block _ (Array.getElem?_eq_some_iff.1 hyrow2).1).trans hyrow2, hbq2.trans (hU.mono hbq2.size)⟩
          have c1 : w2.cell? ⟨PB, 1, none⟩ = some (.int .i64 (x.q.num : Int)) := by rw [cell_of_row _ _ _ _ _ (0, 0) hn2]; rfl
          have c2 : w2.cell? ⟨PB, 2, none⟩ = some (.int .i64 (x.q.sit : Int)) := by rw [cell_of_row _ _ _ _ _ (0, 0) hn2]; rfl
          have d1 : w2.cell? ⟨W.heap.size, 1, none⟩ = some (.int .i64 (y.q.num : Int)) := by rw [cell_of_row _ _ _ _ _ (0, 0) hyrow2]; rfl
          have d2 : w2.cell? ⟨W.heap.size, 2, none⟩ = some (.int .i64 (y.q.sit : Int)) := by rw [cell_of_row _ _ _ _ _ (0, 0) hyrow2]; rfl
          obtain ⟨cb, hcb⟩ : ∃ cb, (decide (x.q.num < y.q.num) || decide (x.q.sit = y.q.sit)) = cb := ⟨_, rfl⟩
          obtain ⟨sb, hsb⟩ : ∃ sb, decide (since ≤ x.q.sit) = sb := ⟨_, rfl⟩
          obtain ⟨ob, hob⟩ : ∃ ob, x.q.over (ys.getD x.q.num pm0).q = ob := ⟨_, rfl⟩
          have HCn : Hid (cntF since (startF since (xs.map Pm.pair)) x.q = (cb && sb)) := by
            unfold Hid
            rw [← HS.out.1, ← hcb, ← hsb]
            rfl
          have HSt : Hid (((cb && sb && ob) = true → YsIs xs (ys.set x.q.num x) (bestF (cntF since (startF since (xs.map Pm.pair))) ((xs.map Pm.pair).take (j + 1)))) ∧ ((cb && sb && ob) = false → YsIs xs ys (bestF (cntF since (startF since (xs.map Pm.pair))) ((xs.map Pm.pair).take (j + 1))))) := by
            rw [HCn.out, hob] at HStep
            exact HStep
          have HYl : Hid ((ys.getD x.q.num pm0).q.byt.length ≤ 1000000) := by
            rcases hys.2 x.q.num hx2 with ⟨_, e2⟩ | ⟨_, _, _, e3⟩
            · rw [e2]; exact Nat.zero_le _
            · have := (Hs.out _ e3).2.2
              unfold Hid
              omega
          obtain ⟨hnp, hyp⟩ : 0 ≤ (x.q.num : Int) ∧ 0 ≤ (y.q.num : Int) := by omega
          have hx2' : (x.q.num : Int) < 200 := by omega
          clear HQ HStep HCn hys hbrow hyrow hbq hr hb2 hn2 hbrow2 hyrow2 hbq2
          go_upto_region 12 with (first | (refine wpList_load_run rfl 106 _ rfl _ (by rfl) hld ?_) | (refine wpList_alloc_run rfl 106 rfl (hal _) ?_) | (refine wpList_store_run rfl 106 _ _ rfl _ _ (by rfl) (by rfl) (hst _) ?_))
          try simp only [Act.put, List.getElem_toArray, List.getElem_cons_succ, List.getElem_cons_zero, List.setIfInBounds_toArray, List.set_cons_zero, List.set_cons_succ]
          try rw [hPB]
          try rw [hw2]
          clear hPB hw2
          go_cut [11] from 40 to 51 (fun t wx => t = .bool cb ∧ wx = w2)
          case first =>
            by_cases e1 : x.q.num < y.q.num
            · have e1' : (x.q.num : Int) < y.q.num := by omega
              rw [decide_eq_true e1, Bool.true_or] at hcb
              subst hcb
              go_wp2_with fail
              go_meet
              exact ⟨rfl, rfl⟩
            · have e1' : ¬ (x.q.num : Int) < y.q.num := by omega
              rw [decide_eq_false e1, Bool.false_or] at hcb
              by_cases e2 : x.q.sit = y.q.sit
              · rw [decide_eq_true e2] at hcb
                subst hcb
                rw [e2] at c2
                go_wp2_with fail
                go_meet
                exact ⟨by first | rfl | simp, rfl⟩
              · have e2' : ((x.q.sit : Int) == (y.q.sit : Int)) = false := by rw [beq_eq_false_iff_ne]; omega
                rw [decide_eq_false e2] at hcb
                subst hcb
                go_wp2_with fail
                go_meet
                exact ⟨by first | rfl | simp [e2], rfl⟩
          case rest =>
            obtain ⟨rfl, hwc⟩ := hcut
            subst hwc
            go_upto_region 13 with fail
            go_cut [66] from 52 to 65 (fun t wx => t = .bool (cb && sb && ob) ∧ Hid (Below wc.heap.size wc wx))
            case first =>
              have HT : Hid (Below wc.heap.size wc wc.drew) := ⟨rfl, rfl, rfl, Nat.le_refl _, fun _ _ => rfl⟩
              clear c1 c2 d1 d2 hcb
              refine wp_region_drawn (by kernel_rfl) ?_
              generalize wc.drew = v2 at *
              obtain ⟨g1, g2, _, _⟩ := HR.out v2 HT.out
              have c1 : v2.cell? ⟨PB, 1, none⟩ = some (.int .i64 (x.q.num : Int)) := by rw [cell_of_row _ _ _ _ _ (0, 0) g1]; rfl
              have c2 : v2.cell? ⟨PB, 2, none⟩ = some (.int .i64 (x.q.sit : Int)) := by rw [cell_of_row _ _ _ _ _ (0, 0) g1]; rfl
              have hlx := load_pm x (range0 g1)
              have hly := load_pm (ys.getD x.q.num pm0) (ys_range g2 x.q.num (by rw [hl200]; exact hx2))
              have HOv : Hid (Calls _ _ _ v2 _) := over_any x (ys.getD x.q.num pm0) v2 (by omega) HYl.out
              rw [hob] at HOv
              clear g1 g2 hob
              have Hlx : Hid ((Instr.loadAt 106 (.pointer (some ⟨PB, 0, none⟩))).run Try.prog v2 = .ok (.agg x.cells.toArray) v2) := hlx
              have Hly : Hid ((Instr.loadAt 106 (.pointer (some ⟨BB, x.q.num * 5, none⟩))).run Try.prog v2 = .ok (.agg (ys.getD x.q.num pm0).cells.toArray) v2) := hly
              clear hlx hly
              generalize ys.getD x.q.num pm0 = z at *
              cases cb
              · skip
                refine wpAny_take (i := 0) (v := .bool false) rfl (by kernel_rfl) (by kernel_rfl) (by kernel_rfl) (fun _ _ _ h => h) (Or.inl ⟨by rfl, fun w => by go_simp⟩) ?_
                simp only [Act.put, List.getElem_toArray, List.getElem_cons_succ, List.getElem_cons_zero, List.setIfInBounds_toArray, List.set_cons_zero, List.set_cons_succ]
                refine wpAny_take (i := 1) (v := .bool false) rfl (by kernel_rfl) (by kernel_rfl) (by kernel_rfl) (fun _ _ _ h => h) (Or.inl ⟨by rfl, fun w => by go_simp⟩) ?_
                simp only [Act.put, List.getElem_toArray, List.getElem_cons_succ, List.getElem_cons_zero, List.setIfInBounds_toArray, List.set_cons_zero, List.set_cons_succ]
                refine wpAny_take (i := 2) (v := undef) rfl (by kernel_rfl) (by kernel_rfl) (by kernel_rfl) (fun _ _ _ h => h) (Or.inr ⟨by rfl, rfl⟩) ?_
                simp only [Act.put, List.getElem_toArray, List.getElem_cons_succ, List.getElem_cons_zero, List.setIfInBounds_toArray, List.set_cons_zero, List.set_cons_succ]
                refine wpAny_take (i := 3) (v := undef) rfl (by kernel_rfl) (by kernel_rfl) (by kernel_rfl) (fun _ _ _ h => h) (Or.inr ⟨by rfl, rfl⟩) ?_
                simp only [Act.put, List.getElem_toArray, List.getElem_cons_succ, List.getElem_cons_zero, List.setIfInBounds_toArray, List.set_cons_zero, List.set_cons_succ]
                refine wpAny_take (i := 4) (v := undef) rfl (by kernel_rfl) (by kernel_rfl) (by kernel_rfl) (fun _ _ _ h => h) (Or.inr ⟨by rfl, rfl⟩) ?_
                simp only [Act.put, List.getElem_toArray, List.getElem_cons_succ, List.getElem_cons_zero, List.setIfInBounds_toArray, List.set_cons_zero, List.set_cons_succ]
                refine wpAny_take (i := 5) (v := undef) rfl (by kernel_rfl) (by kernel_rfl) (by kernel_rfl) (fun _ _ _ h => h) (Or.inr ⟨by rfl, rfl⟩) ?_
                simp only [Act.put, List.getElem_toArray, List.getElem_cons_succ, List.getElem_cons_zero, List.setIfInBounds_toArray, List.set_cons_zero, List.set_cons_succ]
                refine wpAny_take (i := 6) (v := .bool false) rfl (by kernel_rfl) (by kernel_rfl) (by kernel_rfl) (fun _ _ _ h => h) (Or.inl ⟨by rfl, fun w => by go_simp⟩) ?_
                simp only [Act.put, List.getElem_toArray, List.getElem_cons_succ, List.getElem_cons_zero, List.setIfInBounds_toArray, List.set_cons_zero, List.set_cons_succ]
                refine wpAny_take (i := 7) (v := .bool false) rfl (by kernel_rfl) (by kernel_rfl) (by kernel_rfl) (fun _ _ _ h => h) (Or.inl ⟨by rfl, fun w => by go_simp⟩) ?_
                simp only [Act.put, List.getElem_toArray, List.getElem_cons_succ, List.getElem_cons_zero, List.setIfInBounds_toArray, List.set_cons_zero, List.set_cons_succ]
                refine wpAny_take (i := 8) (v := undef) rfl (by kernel_rfl) (by kernel_rfl) (by kernel_rfl) (fun _ _ _ h => h) (Or.inr ⟨by rfl, rfl⟩) ?_
                simp only [Act.put, List.getElem_toArray, List.getElem_cons_succ, List.getElem_cons_zero, List.setIfInBounds_toArray, List.set_cons_zero, List.set_cons_succ]
                refine wpAny_take (i := 9) (v := undef) rfl (by kernel_rfl) (by kernel_rfl) (by kernel_rfl) (fun _ _ _ h => h) (Or.inr ⟨by rfl, rfl⟩) ?_
                simp only [Act.put, List.getElem_toArray, List.getElem_cons_succ, List.getElem_cons_zero, List.setIfInBounds_toArray, List.set_cons_zero, List.set_cons_succ]
                refine wpAny_take (i := 10) (v := undef) rfl (by kernel_rfl) (by kernel_rfl) (by kernel_rfl) (fun _ _ _ h => h) (Or.inr ⟨by rfl, rfl⟩) ?_
                simp only [Act.put, List.getElem_toArray, List.getElem_cons_succ, List.getElem_cons_zero, List.setIfInBounds_toArray, List.set_cons_zero, List.set_cons_succ]
                refine wpAny_take (i := 11) (v := undef) rfl (by kernel_rfl) (by kernel_rfl) (by kernel_rfl) (fun _ _ _ h => h) (Or.inr ⟨by rfl, rfl⟩) ?_
                simp only [Act.put, List.getElem_toArray, List.getElem_cons_succ, List.getElem_cons_zero, List.setIfInBounds_toArray, List.set_cons_zero, List.set_cons_succ]
                refine wpAny_take (i := 12) (v := undef) rfl (by kernel_rfl) (by kernel_rfl) (by kernel_rfl) (fun _ _ _ h => h) (Or.inr ⟨by rfl, rfl⟩) ?_
                simp only [Act.put, List.getElem_toArray, List.getElem_cons_succ, List.getElem_cons_zero, List.setIfInBounds_toArray, List.set_cons_zero, List.set_cons_succ]
                refine wpAny_take (i := 13) (v := undef) rfl (by kernel_rfl) (by kernel_rfl) (by kernel_rfl) (fun _ _ _ h => h) (Or.inr ⟨by rfl, rfl⟩) ?_
                simp only [Act.put, List.getElem_toArray, List.getElem_cons_succ, List.getElem_cons_zero, List.setIfInBounds_toArray, List.set_cons_zero, List.set_cons_succ]
                refine wpAny_take (i := 14) (v := .bool false) rfl (by kernel_rfl) (by kernel_rfl) (by kernel_rfl) (fun _ _ _ h => h) (Or.inl ⟨by rfl, fun w => by go_simp⟩) ?_
                simp only [Act.put, List.getElem_toArray, List.getElem_cons_succ, List.getElem_cons_zero, List.setIfInBounds_toArray, List.set_cons_zero, List.set_cons_succ]
                refine wpAny_done (by kernel_rfl) ?_ _
                go_wp2_with fail
                go_meet
                exact ⟨rfl, HT⟩
              · skip
                refine wpAny_take (i := 0) (v := .bool true) rfl (by kernel_rfl) (by kernel_rfl) (by kernel_rfl) (fun _ _ _ h => h) (Or.inl ⟨by rfl, fun w => by go_simp⟩) ?_
                simp only [Act.put, List.getElem_toArray, List.getElem_cons_succ, List.getElem_cons_zero, List.setIfInBounds_toArray, List.set_cons_zero, List.set_cons_succ]
                refine wpAny_take (i := 1) (v := .bool true) rfl (by kernel_rfl) (by kernel_rfl) (by kernel_rfl) (fun _ _ _ h => h) (Or.inl ⟨by rfl, fun w => by go_simp⟩) ?_
                simp only [Act.put, List.getElem_toArray, List.getElem_cons_succ, List.getElem_cons_zero, List.setIfInBounds_toArray, List.set_cons_zero, List.set_cons_succ]
                refine wpAny_take (i := 2) (v := .pointer (some ⟨PB, 2, none⟩)) rfl (by kernel_rfl) (by kernel_rfl) (by kernel_rfl) (fun _ _ _ h => h) (Or.inl ⟨by rfl, fun w => by go_simp⟩) ?_
                simp only [Act.put, List.getElem_toArray, List.getElem_cons_succ, List.getElem_cons_zero, List.setIfInBounds_toArray, List.set_cons_zero, List.set_cons_succ]
                refine wpAny_take (i := 4) (v := .int .i64 (since : Int)) rfl (by kernel_rfl) (by kernel_rfl) (by kernel_rfl) (fun _ _ _ h => h) (Or.inl ⟨by rfl, fun w => by go_simp⟩) ?_
                simp only [Act.put, List.getElem_toArray, List.getElem_cons_succ, List.getElem_cons_zero, List.setIfInBounds_toArray, List.set_cons_zero, List.set_cons_succ]
                refine any_one (i := 3) (by kernel_rfl) ?_
                refine wpOp_step rfl ?_
                intro K hK
                rw [if_pos (by rfl)]
                have hK' : Shut (∀ a w, _ → K a w) := hK
                clear hK
                go_wp2_with fail
                refine hK'.out _ _ ?_
                clear hK' K
                try simp only [Act.put, List.getElem_toArray, List.getElem_cons_succ, List.getElem_cons_zero, List.setIfInBounds_toArray, List.set_cons_zero, List.set_cons_succ]
                have hsb' : decide ((since : Int) ≤ (x.q.sit : Int)) = sb := by rw [← hsb]; congr 1; simp
                cases sb
                · have hn1 : ¬ since ≤ x.q.sit := of_decide_eq_false hsb
                  have hn2 : x.q.sit < since := by omega
                  refine wpAny_take (i := 5) (v := .bool false) rfl (by kernel_rfl) (by kernel_rfl) (by kernel_rfl) (fun _ _ _ h => h) (Or.inl ⟨by rfl, fun w => by go_simp⟩) ?_
                  simp only [Act.put, List.getElem_toArray, List.getElem_cons_succ, List.getElem_cons_zero, List.setIfInBounds_toArray, List.set_cons_zero, List.set_cons_succ]
                  refine wpAny_take (i := 6) (v := .bool false) rfl (by kernel_rfl) (by kernel_rfl) (by kernel_rfl) (fun _ _ _ h => h) (Or.inl ⟨by rfl, fun w => by go_simp⟩) ?_
                  simp only [Act.put, List.getElem_toArray, List.getElem_cons_succ, List.getElem_cons_zero, List.setIfInBounds_toArray, List.set_cons_zero, List.set_cons_succ]
                  refine wpAny_take (i := 7) (v := .bool false) rfl (by kernel_rfl) (by kernel_rfl) (by kernel_rfl) (fun _ _ _ h => h) (Or.inl ⟨by rfl, fun w => by go_simp⟩) ?_
                  simp only [Act.put, List.getElem_toArray, List.getElem_cons_succ, List.getElem_cons_zero, List.setIfInBounds_toArray, List.set_cons_zero, List.set_cons_succ]
                  refine wpAny_take (i := 8) (v := undef) rfl (by kernel_rfl) (by kernel_rfl) (by kernel_rfl) (fun _ _ _ h => h) (Or.inr ⟨by rfl, rfl⟩) ?_
                  simp only [Act.put, List.getElem_toArray, List.getElem_cons_succ, List.getElem_cons_zero, List.setIfInBounds_toArray, List.set_cons_zero, List.set_cons_succ]
                  refine wpAny_take (i := 9) (v := undef) rfl (by kernel_rfl) (by kernel_rfl) (by kernel_rfl) (fun _ _ _ h => h) (Or.inr ⟨by rfl, rfl⟩) ?_
                  simp only [Act.put, List.getElem_toArray, List.getElem_cons_succ, List.getElem_cons_zero, List.setIfInBounds_toArray, List.set_cons_zero, List.set_cons_succ]
                  refine wpAny_take (i := 10) (v := undef) rfl (by kernel_rfl) (by kernel_rfl) (by kernel_rfl) (fun _ _ _ h => h) (Or.inr ⟨by rfl, rfl⟩) ?_
                  simp only [Act.put, List.getElem_toArray, List.getElem_cons_succ, List.getElem_cons_zero, List.setIfInBounds_toArray, List.set_cons_zero, List.set_cons_succ]
                  refine wpAny_take (i := 11) (v := undef) rfl (by kernel_rfl) (by kernel_rfl) (by kernel_rfl) (fun _ _ _ h => h) (Or.inr ⟨by rfl, rfl⟩) ?_
                  simp only [Act.put, List.getElem_toArray, List.getElem_cons_succ, List.getElem_cons_zero, List.setIfInBounds_toArray, List.set_cons_zero, List.set_cons_succ]
                  refine wpAny_take (i := 12) (v := undef) rfl (by kernel_rfl) (by kernel_rfl) (by kernel_rfl) (fun _ _ _ h => h) (Or.inr ⟨by rfl, rfl⟩) ?_
                  simp only [Act.put, List.getElem_toArray, List.getElem_cons_succ, List.getElem_cons_zero, List.setIfInBounds_toArray, List.set_cons_zero, List.set_cons_succ]
                  refine wpAny_take (i := 13) (v := undef) rfl (by kernel_rfl) (by kernel_rfl) (by kernel_rfl) (fun _ _ _ h => h) (Or.inr ⟨by rfl, rfl⟩) ?_
                  simp only [Act.put, List.getElem_toArray, List.getElem_cons_succ, List.getElem_cons_zero, List.setIfInBounds_toArray, List.set_cons_zero, List.set_cons_succ]
                  refine wpAny_take (i := 14) (v := .bool false) rfl (by kernel_rfl) (by kernel_rfl) (by kernel_rfl) (fun _ _ _ h => h) (Or.inl ⟨by rfl, fun w => by go_simp⟩) ?_
                  simp only [Act.put, List.getElem_toArray, List.getElem_cons_succ, List.getElem_cons_zero, List.setIfInBounds_toArray, List.set_cons_zero, List.set_cons_succ]
                  refine wpAny_done (by kernel_rfl) ?_ _
                  go_wp2_with fail
                  go_meet
                  exact ⟨rfl, HT⟩
                · have hn1 : since ≤ x.q.sit := of_decide_eq_true hsb
                  refine wpAny_take (i := 5) (v := .bool true) rfl (by kernel_rfl) (by kernel_rfl) (by kernel_rfl) (fun _ _ _ h => h) (Or.inl ⟨by rfl, fun w => by go_simp⟩) ?_
                  simp only [Act.put, List.getElem_toArray, List.getElem_cons_succ, List.getElem_cons_zero, List.setIfInBounds_toArray, List.set_cons_zero, List.set_cons_succ]
                  refine wpAny_take (i := 6) (v := .bool true) rfl (by kernel_rfl) (by kernel_rfl) (by kernel_rfl) (fun _ _ _ h => h) (Or.inl ⟨by rfl, fun w => by go_simp⟩) ?_
                  simp only [Act.put, List.getElem_toArray, List.getElem_cons_succ, List.getElem_cons_zero, List.setIfInBounds_toArray, List.set_cons_zero, List.set_cons_succ]
                  refine wpAny_take (i := 7) (v := .bool true) rfl (by kernel_rfl) (by kernel_rfl) (by kernel_rfl) (fun _ _ _ h => h) (Or.inl ⟨by rfl, fun w => by go_simp⟩) ?_
                  simp only [Act.put, List.getElem_toArray, List.getElem_cons_succ, List.getElem_cons_zero, List.setIfInBounds_toArray, List.set_cons_zero, List.set_cons_succ]
                  refine wpAny_take (i := 9) (v := .pointer (some ⟨PB, 1, none⟩)) rfl (by kernel_rfl) (by kernel_rfl) (by kernel_rfl) (fun _ _ _ h => h) (Or.inl ⟨by rfl, fun w => by go_simp⟩) ?_
                  simp only [Act.put, List.getElem_toArray, List.getElem_cons_succ, List.getElem_cons_zero, List.setIfInBounds_toArray, List.set_cons_zero, List.set_cons_succ]
                  refine any_of_L (g := 13) (T := fun u => u = v2) _ _ _ _ ?_
                  refine L_take (i := 8) (v := .agg x.cells.toArray) rfl rfl (by kernel_rfl) (by decide) (by kernel_rfl) (by kernel_rfl) (by kernel_rfl) (by kernel_rfl) (fun _ _ _ h => h) ?_ rfl ?_
                  · refine yields_load_run (by rfl) 106 (.tmp 10) (by rfl) (.pointer (some ⟨PB, 0, none⟩)) (by rfl) ?_
                    exact fun u hu => by rw [hu]; exact Hlx.out
                  simp only [Act.put, List.getElem_toArray, List.getElem_cons_succ, List.getElem_cons_zero, List.setIfInBounds_toArray, List.set_cons_zero, List.set_cons_succ]
                  refine L_one (i := 10) (by kernel_rfl) ?_
                  refine wpOp_step rfl ?_
                  intro K hK
                  rw [if_pos (by rfl)]
                  have hK' : Shut (∀ a w, _ → K a w) := hK
                  clear hK
                  go_wp2_with fail
                  refine hK'.out _ _ ⟨rfl, ?_⟩
                  clear hK' K
                  try simp only [Act.put, List.getElem_toArray, List.getElem_cons_succ, List.getElem_cons_zero, List.setIfInBounds_toArray, List.set_cons_zero, List.set_cons_succ]
                  refine L_one (i := 11) (by kernel_rfl) ?_
                  refine wpOp_step rfl ?_
                  intro K hK
                  rw [if_pos (by rfl)]
                  have hK' : Shut (∀ a w, _ → K a w) := hK
                  clear hK
                  go_wp2_with fail
                  refine hK'.out _ _ ⟨rfl, ?_⟩
                  clear hK' K
                  try simp only [Act.put, List.getElem_toArray, List.getElem_cons_succ, List.getElem_cons_zero, List.setIfInBounds_toArray, List.set_cons_zero, List.set_cons_succ]
                  refine L_one (i := 12) (by kernel_rfl) ?_
                  refine wpOp_step rfl ?_
                  intro K hK
                  rw [if_pos (by rfl)]
                  have hK' : Shut (∀ a w, _ → K a w) := hK
                  clear hK
                  refine wp_load_run 106 (.tmp 63) (by rfl) (.pointer (some ⟨BB, x.q.num * 5, none⟩)) (by rfl) Hly.out ?_
                  refine hK'.out _ _ ⟨rfl, ?_⟩
                  clear hK' K
                  try simp only [Act.put, List.getElem_toArray, List.getElem_cons_succ, List.getElem_cons_zero, List.setIfInBounds_toArray, List.set_cons_zero, List.set_cons_succ]
                  refine L_go (by kernel_rfl) (by kernel_rfl) ?_
                  refine wpOp_step rfl ?_
                  intro K hK
                  rw [if_pos (by rfl)]
                  have hK' : Shut (∀ a w, _ → K a w) := hK
                  clear hK
                  go_wp2_with fail
                  refine HOv.out.mono ?_
                  rintro e w5 ⟨rfl, hb5⟩
                  have H5 : Hid (Below wc.heap.size wc w5) := HT.out.trans (hb5.mono HT.out.size)
                  clear HOv hb5
                  refine hK'.out _ _ ?_
                  clear hK' K
                  try simp only [Act.put, List.getElem_toArray, List.getElem_cons_succ, List.getElem_cons_zero, List.setIfInBounds_toArray, List.set_cons_zero, List.set_cons_succ]
                  refine wpAny_take (i := 14) (v := .bool ob) rfl (by kernel_rfl) (by kernel_rfl) (by kernel_rfl) (fun _ _ _ h => h) (Or.inl ⟨by rfl, fun w => by go_simp⟩) ?_
                  simp only [Act.put, List.getElem_toArray, List.getElem_cons_succ, List.getElem_cons_zero, List.setIfInBounds_toArray, List.set_cons_zero, List.set_cons_succ]
                  refine wpAny_done (by kernel_rfl) ?_ _
                  go_wp2_with fail
                  go_meet
                  exact ⟨by simp, H5⟩
            case rest =>
              obtain ⟨rfl, H3⟩ := hcut
              rename World => w3
              obtain ⟨g1, g2, g3, g4⟩ := HR.out w3 H3.out
              have HSt' := HSt.out
              clear c1 c2 d1 d2 hcb hsb hob HR H3 HSt
              generalize (cb && sb && ob) = bb at *
              cases bb
              · have HN : Hid (Ch2 W w3 since xs BB (j + 1) y) := ⟨ys, HSt'.2 rfl, g2, g3, g4⟩
                clear g1 g2 g3 g4 HSt'
                go_wp2_with fail
                go_roundw
                case rel => exact ⟨j + 1, by omega, by go_num, HN⟩
                case measure => simp [RowKit.intOf]; omega
              · have hld3 := load_pm x (range0 g1)
                have c1 : w3.cell? ⟨PB, 1, none⟩ = some (.int .i64 (x.q.num : Int)) := by rw [cell_of_row _ _ _ _ _ (0, 0) g1]; rfl
                have hst3 := ys_store g2 x.q.num (by rw [hl200]; exact hx2) x
                have HN : Hid (Ch2 W (w3.setRow BB (rowOf Pm.cells (ys.set x.q.num x)).toArray) since xs BB (j + 1) y) := by
                  refine ⟨_, HSt'.1 rfl, setRow_heap _ _ _ _ _ _ g2, ?_, setRow_belowN g4 (by have := HS.out.2.2.2; omega)⟩
                  exact (setRow_other _ _ _ _ (fun e => by have := HS.out.2.2.2; omega)).trans g3
                clear g1 g2 g3 g4 HSt'
                go_wp2_with (first | (refine wpList_load_run rfl 106 _ rfl _ (by rfl) hld3 ?_) | (refine wpList_store_run rfl 106 _ _ rfl _ _ (by rfl) (by rfl) hst3 ?_))
                go_roundw
                case rel => exact ⟨j + 1, by omega, by go_num, HN⟩
                case measure => simp [RowKit.intOf]; omega
          --@END
        · --@LOOP3
          have ej : j = xs.length := by omega
          have j1 : ¬ (j : Int) < xs.length := by omega
          have HYs : Hid (YsIs xs ys (bestF (cntF since (startF since (xs.map Pm.pair))) (xs.map Pm.pair))) := by
            rw [List.take_of_length_le (by simp; omega)] at hys
            exact hys
          have hldB := ys_load hys.1 hbrow
          have H3 : Hid (Ch3 W wq (bestF (cntF since (startF since (xs.map Pm.pair))) (xs.map Pm.pair)) 0 (.slice none 0 0)) := ⟨[], rfl, PmRow.nil _ _, hbq, Nat.zero_le _⟩
          have HSit : Hid (∀ (n : Nat) (x : Pm) (pp : Nat × Pc), bestF (cntF since (startF since (xs.map Pm.pair))) (xs.map Pm.pair) n = some pp → x.pair = pp → since ≤ x.q.sit) := fun n x pp e1 e2 => by
            have hc := (bestF_c _ _ _ _ e1)
            unfold cntF at hc
            simp only [Bool.and_eq_true, decide_eq_true_eq] at hc
            rw [← e2] at hc
            exact hc.2
          have HOk : Hid (∀ U, Below W.heap.size W U → ∀ x ∈ xs, Pm.ok U x) := fun U hU x hx => Pm.ok_below (HI.out.ok x hx) hU
          have hix := fun (k : Nat) (hk : k < 200) (u : World) => ys_index k hk hys.1 u
          have HIx : Hid (∀ (k : Nat) (hk : k < 200) (u : World), (Instr.index 123 (.agg (rowOf Pm.cells ys).toArray) (.int .i64 (k : Int))).run Try.prog u = .ok (.agg (ys.getD k pm0).cells.toArray) u) := hix
          clear HQ hys hbrow hyrow hbq hix
          generalize (rowOf Pm.cells ys).toArray = Z at *
          obtain ⟨Bf, hBf⟩ : ∃ Bf, bestF (cntF since (startF since (xs.map Pm.pair))) (xs.map Pm.pair) = Bf := ⟨_, rfl⟩
          rw [hBf] at HYs H3 HSit
          have HBf : Hid (bestF (cntF since (startF since (xs.map Pm.pair))) (xs.map Pm.pair) = Bf) := hBf
          clear hBf
          go_wp2_with (refine wpList_load_run rfl 123 _ rfl _ (by rfl) hldB ?_)
          clear hldB
          go_loopw [4, 73] (fun lv t wp => ∃ k : Nat, k ≤ 200 ∧ t = .int .i64 k ∧ Hid (Ch3 W wp Bf k lv)) (fun _ t _ => 200 - (RowKit.intOf t).toNat)
          case atStart => exact ⟨0, Nat.zero_le _, rfl, H3⟩
          case round =>
            rename World => wp
            clear H3
            obtain ⟨i, hi, rfl, HP⟩ := hrel
            have i0 : (0 : Int) ≤ i := by omega
            obtain ⟨zs, hz1, hz2, hz3, hz4⟩ := HP.out
            by_cases hi2 : i < 200
            · have i1 : (i : Int) < 200 := by omega
              have hix := HIx.out i hi2
              have hyi := HYs.out.2 i hi2
              have HChF : Hid (chainF Bf (200 - i) i = (Bf i).elim [] (fun p => p :: (if p.2.byt.length < 60 then [] else chainF Bf (200 - (i + 1)) (i + 1)))) := by
                unfold Hid
                rw [show 200 - i = (200 - (i + 1)) + 1 by omega, chainF_succ]
              generalize ys.getD i pm0 = x at *
              have hst := storeP x
              obtain ⟨w2, hw2⟩ : ∃ w2, wp.alloc (.cells x.cells.toArray 106) = w2 := ⟨_, rfl⟩
              have hn2 : w2.heap[wp.heap.size]? = some (.cells x.cells.toArray 106 (0, 0)) := by rw [← hw2]; exact new_heap wp _
              have hb2 : Below wp.heap.size wp w2 := by rw [← hw2]; exact (Below.refl _ wp).alloc (Nat.le_refl _) _
              have hbW2 : Below W.heap.size W w2 := hz3.trans (hb2.mono hz3.size)
              have c2 : w2.cell? ⟨wp.heap.size, 2, none⟩ = some (.int .i64 (x.q.sit : Int)) := by rw [cell_of_row _ _ _ _ _ (0, 0) hn2]; rfl
              rcases hyi with ⟨e1, e2⟩ | ⟨pp, e1, e2, e3⟩
              · have hsit : x.q.sit = 0 := by rw [e2]; rfl
                rw [hsit] at c2
                have HE : Hid (zs.map Pm.pair = chainF Bf 200 0 ∧ PmRow w2 W.heap.size u4 zs ∧ Below W.heap.size W w2) := by
                  refine ⟨?_, hz2.below hb2, hbW2⟩
                  have := HChF.out
                  rw [e1] at this
                  rw [this] at hz1
                  simpa using hz1
                clear HP hz1 hz2 hz3 hz4 HChF hb2 hbW2 hn2 e1 e2 hsit
                go_wp2_with (first | (refine wpList_index_run rfl 123 _ _ rfl _ _ (by rfl) (by rfl) (hix _) ?_) | (refine wpList_alloc_run rfl 106 rfl (hal _) ?_) | (refine wpList_store_run rfl 106 _ _ rfl _ _ (by rfl) (by rfl) (hst _) ?_))
                go_ret
                exact ⟨_, rfl, zs, by rw [HBf.out]; exact HE.out.1, HE.out.2.1, HE.out.2.2⟩
              · have hpb : pp.2.byt.length = x.q.byt.length := by rw [← e2]; rfl
                obtain ⟨hx1, hx2, hx3⟩ := Hs.out x e3
                have hsit : 1 ≤ x.q.sit := by
                  have := HSit.out i x pp e1 e2
                  omega
                have hsit' : ((x.q.sit : Int) == 0) = false := by rw [beq_eq_false_iff_ne]; omega
                have hld2 := load_pm x (range0 hn2)
                have hbd := buildP x
                obtain ⟨w3, hw3⟩ : ∃ w3, w2.alloc (.cells x.cells.toArray 106) = w3 := ⟨_, rfl⟩
                have hn3 : w3.heap[w2.heap.size]? = some (.cells x.cells.toArray 106 (0, 0)) := by rw [← hw3]; exact new_heap w2 _
                have hb3 : Below w2.heap.size w2 w3 := by rw [← hw3]; exact (Below.refl _ w2).alloc (Nat.le_refl _) _
                have hbp3 : Below wp.heap.size wp w3 := hb2.trans (hb3.mono hb2.size)
                have hbW3 : Below W.heap.size W w3 := hz3.trans (hbp3.mono hz3.size)
                have HApp : Hid (PmRow w3 W.heap.size u4 zs ∧ Pm.ok w3 x ∧ w3.heap[w2.heap.size]? = some (.cells x.cells.toArray 106 (0, 0)) ∧ W.heap.size ≤ w3.heap.size ∧ zs.length ≤ 100000) :=
                  ⟨hz2.below hbp3, HOk.out w3 hbW3 x e3, hn3, hbW3.size, by omega⟩
                have HB3 : Hid (Below W.heap.size W w3 ∧ zs.length ≤ i) := ⟨hbW3, hz4⟩
                have HC : Hid ((zs ++ [x]).map Pm.pair ++ (if x.q.byt.length < 60 then [] else chainF Bf (200 - (i + 1)) (i + 1)) = chainF Bf 200 0) := by
                  unfold Hid
                  have hc := HChF.out
                  rw [e1] at hc
                  simp only [Option.elim_some, hpb] at hc
                  rw [hc] at hz1
                  rw [← hz1, List.map_append, List.append_assoc]
                  rw [← e2]
                  rfl
                have Hpp : Hid (w3.heap[wp.heap.size]? = some (.cells x.cells.toArray 106 (0, 0))) := (hb3.block _ (Array.getElem?_eq_some_iff.1 hn2).1).trans hn2
                have hlx : (x.q.byt.length : Int) ≤ 60 := by omega
                have HOl : Hid (∀ b, wp.heap.size ≤ b → u4.ownBlock ≠ some b) := hz2.ownLt
                clear HP hz1 hz2 hz3 hz4 HChF hb2 hbW2 hn2 e1 e2 hsit hpb hn3 hb3 hbp3 hbW3
                go_upto_region 21 with (first | (refine wpList_index_run rfl 123 _ _ rfl _ _ (by rfl) (by rfl) (hix _) ?_) | (refine wpList_alloc_run rfl 106 rfl (hal _) ?_) | (refine wpList_store_run rfl 106 _ _ rfl _ _ (by rfl) (by rfl) (hst _) ?_) | (refine wpList_load_run rfl 106 _ rfl _ (by rfl) hld2 ?_) | (refine wpList_buildSlice_run rfl 83 1 #[(0, .tmp 80)] rfl #[(0, .agg x.cells.toArray)] (by first | rfl | simp [Act.eval, Act.put]) (hbd _) ?_) | (at_builtin; (try rw [hw3]); go_loud (refine wpList_appP rfl (.tmp 79) (.tmp 81) rfl W.heap.size u4 zs x w2.heap.size (by rfl) (by first | rfl | simp [Act.eval, Act.put]) HApp.out.1 HApp.out.2.1 HApp.out.2.2.1 HApp.out.2.2.2.1 HApp.out.2.2.2.2 ?_); intro v5 w5 hr5 hb5 ho5))
                have hpp5 := (ho5 wp.heap.size (Array.getElem?_eq_some_iff.1 Hpp.out).1 (HOl.out _ (Nat.le_refl _))).trans Hpp.out
                have c4 : w5.cell? ⟨wp.heap.size, 4, none⟩ = some (.slice x.a x.q.byt.length x.cap) := by rw [cell_of_row _ _ _ _ _ (0, 0) hpp5]; rfl
                have HN : Hid (PmRow w5 W.heap.size v5 (zs ++ [x]) ∧ Below W.heap.size W w5 ∧ (zs ++ [x]).length ≤ i + 1) := ⟨hr5, HB3.out.1.trans hb5, by have := HB3.out.2; simp; omega⟩
                clear hr5 hb5 ho5 hpp5 HApp HB3 Hpp hw3 hix hst hld2 hbd
                by_cases h60 : x.q.byt.length < 60
                · have h60' : (x.q.byt.length : Int) < 60 := by omega
                  have HE : Hid ((zs ++ [x]).map Pm.pair = chainF Bf 200 0) := by
                    have := HC.out
                    rw [if_pos h60, List.append_nil] at this
                    exact this
                  clear HC
                  go_wp2_with fail
                  go_ret
                  exact ⟨_, rfl, zs ++ [x], by rw [HBf.out]; exact HE.out, HN.out.1, HN.out.2.1⟩
                · have h60' : ¬ (x.q.byt.length : Int) < 60 := by omega
                  have HE : Hid (Ch3 W w5 Bf (i + 1) v5) := by
                    have := HC.out
                    rw [if_neg h60] at this
                    exact ⟨zs ++ [x], this, HN.out.1, HN.out.2.1, HN.out.2.2⟩
                  clear HC HN
                  go_wp2_with fail
                  go_roundw
                  case rel => exact ⟨i + 1, by omega, by go_num, HE⟩
                  case measure => simp [RowKit.intOf]; omega
            · have i1 : ¬ (i : Int) < 200 := by omega
              have HE : Hid (zs.map Pm.pair = chainF Bf 200 0 ∧ PmRow wp W.heap.size u4 zs ∧ Below W.heap.size W wp) := by
                refine ⟨?_, hz2, hz3⟩
                rw [show 200 - i = 0 by omega] at hz1
                simpa [chainF] using hz1
              clear HP hz1 hz2 hz3 hz4
              go_wp2_with fail
              go_ret
              exact ⟨_, rfl, zs, by rw [HBf.out]; exact HE.out.1, HE.out.2.1, HE.out.2.2⟩
          --@END
end Go.Proofs.Ytijjegkkeigeoaa

namespace Go.Proofs.Ytijjegkkeigeoaa
set_option linter.unusedVariables false
set_option linter.unusedSimpArgs false
set_option maxRecDepth 100000
open Go.RowKit Go.Lib
theorem cut_none (a : Option Addr) (l : List UInt8) (cap : Nat) (W : World) (h : IsBy W a l cap) (hl : l.length ≤ 100000) (hc : cutL l = none) :
    Calls Try.prog 46 #[.slice a l.length cap] W fun e w' => e = .returned (.tuple #[.slice none 0 0, .slice a l.length cap, .bool false]) ∧ Still W w' := by
  have l0 : (0 : Int) ≤ l.length := by omega
  have l1 : (l.length : Int) ≤ 100000 := by omega
  by_cases h2 : l.length < 2
  · have h2' : (l.length : Int) < 2 := by omega
    clear hc
    generalize l.length = L at *
    go_enter Try.func46, Try.ntmps46
    go_wp2
    go_ret3
    exact ⟨rfl, Still.refl _⟩
  · have h2' : ¬ (l.length : Int) < 2 := by omega
    have HW : Hid (Calls _ _ _ W _) := word_any a l cap W h (by omega) (by omega)
    have hbad : wordN l = 0 ∨ 200 < wordN l ∨ l.length < 2 + wordN l := by
      unfold cutL at hc
      rw [if_neg h2] at hc
      split at hc
      · assumption
      · cases hc
    have hwl : wordN l < 65536 := by
      unfold wordN
      have h1 := (l.getD 0 0).toNat_lt
      have h2 := (l.getD 1 0).toNat_lt
      omega
    clear hc h
    generalize wordN l = k at *
    generalize l.length = L at *
    have k0 : (0 : Int) ≤ k := by omega
    have k1 : (k : Int) < 65536 := by omega
    by_cases hk0 : k = 0
    · subst hk0
      clear hbad
      go_enter Try.func46, Try.ntmps46
      go_wp2_with fail
      refine HW.out.mono ?_
      rintro e w2 ⟨rfl, hs⟩
      go_wp2
      go_ret3
      exact ⟨rfl, hs⟩
    · have hk0' : ((2 : Int) + k == 2) = false := by rw [beq_eq_false_iff_ne]; omega
      have hk0'' : ¬ (k : Int) = 0 := by omega
      by_cases hL : L < 202
      · have hL' : (L : Int) < 202 := by omega
        have hE : (L : Int) < 2 + k := by omega
        clear hbad
        go_enter Try.func46, Try.ntmps46
        go_wp2_with fail
        refine HW.out.mono ?_
        rintro e w2 ⟨rfl, hs⟩
        go_wp2
        go_ret3
        exact ⟨rfl, hs⟩
      · obtain ⟨q, rfl⟩ : ∃ q : Nat, k = q + 201 := ⟨k - 201, by omega⟩
        clear hk0 hk0' hk0'' k0 k1
        have q1 : q + 201 < 65536 := hwl
        by_cases hL2 : L = 202
        · subst hL2
          clear hbad
          go_enter Try.func46, Try.ntmps46
          go_wp2_with fail
          refine HW.out.mono ?_
          rintro e w2 ⟨rfl, hs⟩
          go_wp2
          go_ret3
          exact ⟨rfl, hs⟩
        · have hL' : (202 : Int) < L := by omega
          clear hbad
          go_enter Try.func46, Try.ntmps46
          go_wp2_with fail
          refine HW.out.mono ?_
          rintro e w2 ⟨rfl, hs⟩
          go_wp2
          go_ret3
          exact ⟨rfl, hs⟩
theorem cut_some (a : Option Addr) (l r y : List UInt8) (cap : Nat) (W : World) (h : IsBy W a l cap) (hl : l.length ≤ 100000) (hc : cutL l = some (r, y)) :
    Calls Try.prog 46 #[.slice a l.length cap] W fun e w' => e = .returned (.tuple #[.slice (slA a cap 2) r.length (cap - 2), .slice (slA a cap (2 + r.length)) y.length (cap - (2 + r.length)), .bool true]) ∧ Still W w' := by
  obtain ⟨hr, el⟩ := cutL_some hc
  have hll : l.length = r.length + 2 + y.length := by rw [el, List.length_append, enc1_length]
  have hw : wordN l = r.length := by rw [el]; exact wordN_enc1 hr y
  have hcap := h.cap
  have HW : Hid (Calls _ _ _ W _) := word_any a l cap W h (by omega) (by omega)
  rw [hw] at HW
  have h1 := hr.1
  have h2 := hr.2
  have s1 : ∀ U, (Instr.slice 52 (.slice a l.length cap) (some (.int .i64 2)) (some (.int .i64 (2 + (r.length : Int)))) none).run Try.prog U = .ok (.slice (slA a cap 2) r.length (cap - 2)) U := fun U => by
    have := run_byLH a l.length cap 2 (2 + r.length) (by omega) (by omega) U
    rw [show 2 + r.length - 2 = r.length by omega, show ((2 + r.length : Nat) : Int) = 2 + (r.length : Int) by omega] at this
    exact this
  have s2 : ∀ U, (Instr.slice 52 (.slice a l.length cap) (some (.int .i64 (2 + (r.length : Int)))) none none).run Try.prog U = .ok (.slice (slA a cap (2 + r.length)) y.length (cap - (2 + r.length))) U := fun U => by
    have := run_byL a l.length cap (2 + r.length) (by omega) U
    rw [show l.length - (2 + r.length) = y.length by omega, show ((2 + r.length : Nat) : Int) = 2 + (r.length : Int) by omega] at this
    exact this
  have r0 : (1 : Int) ≤ r.length := by omega
  have r1 : (r.length : Int) ≤ 200 := by omega
  have l2 : ¬ (l.length : Int) < 2 := by omega
  have l3 : (2 : Int) + r.length ≤ l.length := by omega
  have l1 : (l.length : Int) ≤ 100000 := by omega
  have hk0 : ((2 : Int) + r.length == 2) = false := by rw [beq_eq_false_iff_ne]; omega
  have hk1 : ¬ (r.length : Int) = 0 := by omega
  clear h hc el hll hw hcap hr
  generalize l.length = L at *
  generalize r.length = R at *
  generalize y.length = Y at *
  generalize slA a cap 2 = a1 at *
  generalize slA a cap (2 + R) = a2 at *
  generalize cap - 2 = c1 at *
  generalize cap - (2 + R) = c2 at *
  by_cases hL : L < 202
  · have hL' : (L : Int) < 202 := by omega
    go_enter Try.func46, Try.ntmps46
    go_wp2_with fail
    refine HW.out.mono ?_
    rintro e w2 ⟨rfl, hs⟩
    have HS : Hid (Still W w2) := hs
    clear hs
    go_wp2_with fail
    go_quiet (fail)
    rename Nat => nq
    go_wp2
    go_ret3
    exact ⟨rfl, HS.out.trans (Still.drewN w2 nq)⟩
  · by_cases hL2 : L = 202
    · subst hL2
      go_enter Try.func46, Try.ntmps46
      go_wp2_with fail
      refine HW.out.mono ?_
      rintro e w2 ⟨rfl, hs⟩
      have HS : Hid (Still W w2) := hs
      clear hs
      go_wp2_with fail
      go_quiet (fail)
      rename Nat => nq
      go_wp2
      go_ret3
      exact ⟨rfl, HS.out.trans (Still.drewN w2 nq)⟩
    · have hL' : (202 : Int) < L := by omega
      go_enter Try.func46, Try.ntmps46
      go_wp2_with fail
      refine HW.out.mono ?_
      rintro e w2 ⟨rfl, hs⟩
      have HS : Hid (Still W w2) := hs
      clear hs
      go_wp2_with fail
      go_quiet (fail)
      rename Nat => nq
      go_wp2
      go_ret3
      exact ⟨rfl, HS.out.trans (Still.drewN w2 nq)⟩
end Go.Proofs.Ytijjegkkeigeoaa
