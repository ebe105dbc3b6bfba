/-
  The contracts of store.readHead.
-/
import Derived.Test.YtidccclfngcpgaaSt3
import Derived.Laws.ResultCell
namespace Go.Proofs.Ytidccclfngcpgaa
set_option linter.unusedVariables false
set_option linter.unusedSimpArgs false
set_option maxRecDepth 100000
open Go.RowKit Go.Lib

theorem or_byte (x y : Nat) (h0 : x < 1000000000) (h1 : y < 256) : bits .or .i64 ((x : Int) * 256) (y : Int) = ((x * 256 + y : Nat) : Int) := by
  rw [show (x : Int) * 256 = ((x * 256 : Nat) : Int) by omega]
  have e1 : (BitVec.ofInt 64 ((x * 256 : Nat) : Int)).toNat = x * 256 := by
    rw [BitVec.ofInt_natCast, BitVec.toNat_ofNat]; exact Nat.mod_eq_of_lt (by omega)
  have e2 : (BitVec.ofInt 64 (y : Int)).toNat = y := by
    rw [BitVec.ofInt_natCast, BitVec.toNat_ofNat]; exact Nat.mod_eq_of_lt (by omega)
  show IntKind.i64.wrap ((BitVec.ofInt 64 ((x * 256 : Nat) : Int) ||| BitVec.ofInt 64 (y : Int)).toNat : Int) = _
  have h3 := Nat.two_pow_add_eq_or_of_lt (i := 8) (b := y) (by omega) x
  rw [show 2 ^ 8 * x = x * 256 by omega] at h3
  rw [BitVec.toNat_or, e1, e2, ← h3, IntKind.wrap_i64]
  omega
theorem var_head {u : World} {B : Nat} {h : Hd} (k : h.ok) (hr : u.heap[B]? = some (.cells h.cells.toArray 50 (0, 0))) : (loadVar 50 ⟨B, 0, none⟩).run Try.prog u = .ok (.agg h.cells.toArray) u := by
  have := load_head k (range0 hr)
  simpa [Instr.loadAt, Instr.sureAddr] using this
theorem head_results {fn : Func} {p u : Tmp} (hf : fn.results = #[.cell p 50, .tmp u]) (tmps : Array Value) {w : World} {B : Nat} {h : Hd} (k : h.ok) (hp : tmps.getD p undef = .pointer (some ⟨B, 0, none⟩)) (hr : w.heap[B]? = some (.cells h.cells.toArray 50 (0, 0))) :
    (results fn tmps).run Try.prog w = .ok (.tuple #[.agg h.cells.toArray, tmps.getD u undef]) w := by
  rw [results_cell_tmp hf, hp]
  simp [asAddr, var_head k hr, Result.andThen]
/-- A head is stored into a box. -/
theorem store_box {u : World} {B : Nat} {h h' : Hd} (k : h.ok) (k' : h'.ok) (hb : u.heap[B]? = some (.cells h'.cells.toArray 50 (0, 0))) :
    (Instr.storeAt 50 (.pointer (some ⟨B, 0, none⟩)) (.agg h.cells.toArray)).run Try.prog u = .ok () (u.setRow B h.cells.toArray) := by
  have := store_head (o := 0) k hb (by rw [Hd.cells_length k']; omega)
  rw [this, List.take_zero, List.nil_append, List.drop_eq_nil_of_le (by rw [Hd.cells_length k']; omega), List.append_nil]
theorem setRow_below {u w : World} {B : Nat} {cs : Array Value} (hb : Below w.heap.size w u) (hB : w.heap.size ≤ B) : Below w.heap.size w (u.setRow B cs) := hb.trans ⟨rfl, rfl, rfl, by simp, fun k hk => setRow_other _ _ _ _ (by omega)⟩
/-- What a store finds in a block: no head, or one. -/
def hdAt (D : Dk) (i : Nat) (o : Option Hd) : Prop := match o with
  | none => (D.now.getD i bk0).torn = true ∨ D.now.getD i bk0 = bk0
  | some h => D.now.getD i bk0 = ⟨padB (hdB h), false⟩ ∧ h.ok ∧ h.blk = i
def hdV (o : Option Hd) : Value := .agg ((o.getD hd0).cells).toArray
section
variable {w W : World} {p nb sb : Nat} {cv : Value} {n : Nat} {D : Dk}
theorem readHead_torn (a : Tn w W p nb sb cv n D) (i : Nat) (hi : i < n) (ht : (D.now.getD i bk0).torn = true) :
    Calls Try.prog 23 #[.pointer (some ⟨p, 0, none⟩), .int .i64 (i : Int)] W fun e w' => e = .returned (.tuple #[.agg hd0.cells.toArray, .bool false]) ∧ Hid (Below W.heap.size W w') := by
  have hal := alloc_head
  obtain ⟨W0, hW0⟩ : ∃ W0, W.alloc (.cells hd0.cells.toArray 50) = W0 := ⟨_, rfl⟩
  have hb0 : Below W.heap.size W W0 := by rw [← hW0]; exact (Below.refl _ W).alloc (Nat.le_refl _) _
  have hr0 : W0.heap[W.heap.size]? = some (.cells hd0.cells.toArray 50 (0, 0)) := by rw [← hW0]; exact new_heap W _
  have HR : Hid (Calls _ _ _ W0 _) := tn_readTorn (a.below hb0) i hi ht
  rw [enE_ne (by decide)] at HR
  have hbd := build_head0
  have HB : Hid (Below W.heap.size W W0) := hb0
  have Hr0 : Hid (W0.heap[W.heap.size]? = some (.cells hd0.cells.toArray 50 (0, 0))) := hr0
  clear a ht hb0 hr0
  go_enter Try.func23, Try.ntmps23
  go_wp2_with (refine wpList_alloc_run rfl 50 rfl (hal _) ?_)
  refine HR.out.mono ?_
  rintro e w1 ⟨rfl, _, hs⟩
  have hr1 : w1.heap[W.heap.size]? = some (.cells hd0.cells.toArray 50 (0, 0)) := by rw [hs.out.heap]; exact Hr0.out
  have hst := store_box hd0_ok hd0_ok hr1
  have HE : Hid ((w1.setRow W.heap.size hd0.cells.toArray).heap[W.heap.size]? = some (.cells hd0.cells.toArray 50 (0, 0)) ∧ Below W.heap.size W (w1.setRow W.heap.size hd0.cells.toArray)) := ⟨setRow_heap w1 _ _ _ _ _ hr1, setRow_below (HB.out.trans (hs.out.below _)) (Nat.le_refl _)⟩
  clear HR hr1
  go_wp2_with (first | (refine wpList_build_run rfl 50 #[] rfl #[] (by simp) (hbd _) ?_) | (refine wpList_store_run rfl 50 _ _ rfl _ _ (by rfl) (by rfl) hst ?_))
  refine bodyPost_ret (head_results rfl _ hd0_ok (by rfl) HE.out.1) rfl ?_
  exact ⟨rfl, HE.out.2⟩
theorem zero_mark : ((txt (List.replicate 8 0)).toList == [113, 100, 32, 112, 97, 103, 101, 115]) = false := by
  rw [ByteArray.toList_eq]
  decide
theorem mark_mark : ((txt markB).toList == [113, 100, 32, 112, 97, 103, 101, 115]) = true := by
  rw [ByteArray.toList_eq]
  decide
theorem readHead_zero (a : Tn w W p nb sb cv n D) (i : Nat) (hi : i < n) (ht : D.now.getD i bk0 = bk0) :
    Calls Try.prog 23 #[.pointer (some ⟨p, 0, none⟩), .int .i64 (i : Int)] W fun e w' => e = .returned (.tuple #[.agg hd0.cells.toArray, .bool false]) ∧ Hid (Below W.heap.size W w') := by
  have hal := alloc_head
  obtain ⟨W0, hW0⟩ : ∃ W0, W.alloc (.cells hd0.cells.toArray 50) = W0 := ⟨_, rfl⟩
  have hb0 : Below W.heap.size W W0 := by rw [← hW0]; exact (Below.refl _ W).alloc (Nat.le_refl _) _
  have hr0 : W0.heap[W.heap.size]? = some (.cells hd0.cells.toArray 50 (0, 0)) := by rw [← hW0]; exact new_heap W _
  have HR : Hid (Calls _ _ _ W0 _) := tn_read (a.below hb0) i hi (by rw [ht]; rfl)
  rw [ht] at HR
  have hbd := build_head0
  have HB : Hid (Below W.heap.size W W0) := hb0
  have Hr0 : Hid (W0.heap[W.heap.size]? = some (.cells hd0.cells.toArray 50 (0, 0))) := hr0
  have hs0 : W0.heap.size = W.heap.size + 1 := by rw [← hW0]; simp
  obtain ⟨T, hT⟩ : ∃ T, txt (List.replicate 8 0) = T := ⟨_, rfl⟩
  have hmk := zero_mark
  rw [hT] at hmk
  clear a ht hb0 hr0
  go_enter Try.func23, Try.ntmps23
  go_wp2_with (refine wpList_alloc_run rfl 50 rfl (hal _) ?_)
  refine HR.out.mono ?_
  rintro e w1 ⟨rfl, _, hrow, hs⟩
  have hr1 : w1.heap[W.heap.size]? = some (.cells hd0.cells.toArray 50 (0, 0)) := (hs.out.block _ (by rw [hs0]; exact Nat.lt_succ_self _)).trans Hr0.out
  have hst := store_box hd0_ok hd0_ok hr1
  have HE : Hid ((w1.setRow W.heap.size hd0.cells.toArray).heap[W.heap.size]? = some (.cells hd0.cells.toArray 50 (0, 0)) ∧ Below W.heap.size W (w1.setRow W.heap.size hd0.cells.toArray)) := ⟨setRow_heap w1 _ _ _ _ _ hr1, setRow_below (HB.out.trans (hs.out.mono HB.out.size)) (Nat.le_refl _)⟩
  have hstr := run_str w1 (some ⟨W0.heap.size, 0, none⟩) (List.replicate 8 0) 64 (by
    have := isBy_row hrow.out 8 (by simp [bk0]) 64 (by omega)
    simpa [bk0] using this)
  simp only [List.length_replicate] at hstr
  rw [hs0, hT] at hstr
  clear HR hr1 hrow
  go_wp2_with (first | (refine wpList_build_run rfl 50 #[] rfl #[] (by simp) (hbd _) ?_) | (refine wpList_store_run rfl 50 _ _ rfl _ _ (by rfl) (by rfl) hst ?_))
  refine bodyPost_ret (head_results rfl _ hd0_ok (by rfl) HE.out.1) rfl ?_
  exact ⟨rfl, HE.out.2⟩
/-- A head that lies in a block. -/
theorem hd_take (h : Hd) (k : h.ok) : (padB (hdB h)).take 8 = markB := by
  unfold padB hdB
  rw [List.append_assoc, List.append_assoc, List.append_assoc, List.take_append_of_le_length (by decide)]
  rfl
theorem hd_turn (h : Hd) (k : h.ok) : (padB (hdB h))[8]? = some h.turn := by
  unfold padB hdB
  rw [List.append_assoc, List.append_assoc, List.append_assoc]
  rfl
theorem hd_ver (h : Hd) (k : h.ok) (i : Nat) (hi : i < 8) : (padB (hdB h))[9 + i]? = some (UInt8.ofNat (h.ver / 2 ^ (56 - 8 * i))) := by
  unfold padB hdB
  rw [List.append_assoc, List.append_assoc, List.getElem?_append_right (by simp [markB]), List.getElem?_append_left (by simp [markB, verB_length]; omega)]
  simp [markB, verB, hi]
theorem hd_whr (h : Hd) (k : h.ok) (i : Nat) (hi : i < h.whr.length) : (padB (hdB h))[17 + i]? = some h.whr[i] := by
  unfold padB hdB
  rw [List.append_assoc, List.getElem?_append_right (by simp [markB, verB_length]), List.getElem?_append_left (by simp [markB, verB_length]; omega)]
  simp [markB, verB_length, hi]
end
end Go.Proofs.Ytidccclfngcpgaa
