/-
  The contract of readPiece where a block can be read.
-/
import Derived.Test.YtijjegkkeigeoaaZb3
import Derived.Laws.ResultCell
import Derived.Deep.RegionHeld3
import Derived.Deep.WholeRow
import Derived.Deep.CutRange
import Derived.Deep.CutBlock
namespace Go.Proofs.Ytijjegkkeigeoaa
set_option linter.unusedVariables false
set_option linter.unusedSimpArgs false
set_option maxRecDepth 100000
open Go.RowKit Go.Lib

theorem word_at (a : Option Addr) (l : List UInt8) (cap : Nat) (w : World) (h : IsBy w a l cap) (hl : 2 ≤ l.length) (hm : l.length ≤ 1000000) :
    Calls Try.prog 52 #[.slice a l.length cap] w fun e w' => e = .returned (.int .i64 (wordN l : Nat)) ∧ ∃ k, w' = w.drewN k := by
  rcases h.lies with e | ⟨b, off, rfl, hlt, hc⟩
  · subst e; simp at hl
  have c0 := hc 0 (by omega)
  have c1 := hc 1 (by omega)
  rw [Nat.add_zero] at c0
  have l0 : (0 : Int) < l.length := by omega
  have l1 : (1 : Int) < l.length := by omega
  have l2 : (l.length : Int) ≤ 1000000 := by omega
  have ew : wordN l = (l[0]'(by omega)).toNat * 256 + (l[1]'(by omega)).toNat := by
    unfold wordN
    rw [List.getD_eq_getElem?_getD, List.getD_eq_getElem?_getD, List.getElem?_eq_getElem (by omega), List.getElem?_eq_getElem (by omega)]
    rfl
  have hx := (l[0]'(by omega)).toNat_lt
  have hy := (l[1]'(by omega)).toNat_lt
  generalize (l[0]'(by omega)).toNat = x at *
  generalize (l[1]'(by omega)).toNat = y at *
  have ho := or_byte x y (by omega) (by omega)
  rw [ew]
  obtain ⟨z, hz⟩ : ∃ z, x * 256 + y = z := ⟨_, rfl⟩
  rw [hz] at ho ⊢
  have x0 : (0 : Int) ≤ x := by omega
  have x1 : (x : Int) < 256 := by omega
  have y0 : (0 : Int) ≤ y := by omega
  have y1 : (y : Int) < 256 := by omega
  clear h hc ew hz hl hm hx hy
  generalize l.length = L at *
  go_enter Try.func52, Try.ntmps52
  go_wp2_with fail
  go_quiet (fail)
  rename Nat => nq
  go_wp2
  go_ret
  exact ⟨rfl, nq, rfl⟩
/-- A piece, as a block has it. -/
def pcB (q : Pc) : List UInt8 := (([UInt8.ofNat q.num] ++ w2B q.sit) ++ [UInt8.ofNat (q.byt.length + if q.fst = true then 128 else 0)]) ++ q.byt
structure okP (mn : Nat) (q : Pc) : Prop where
  num : q.num < mn - 2
  sit : q.sit < 65536
  l1 : 1 ≤ q.byt.length
  l2 : q.byt.length ≤ 60
theorem pcB_length (q : Pc) : (pcB q).length = q.byt.length + 4 := by simp [pcB, w2B]
/-- The piece that stands in a block, if there is one. -/
def pcOf (mn : Nat) (b : Bk) : Option Pc :=
  if b.torn = true then none
  else if (mn - 2) * 60 ≤ (b.byt.getD 0 0).toNat * 60 ∨ (b.byt.getD 3 0).toNat % 128 < 1 ∨ 60 < (b.byt.getD 3 0).toNat % 128 then none
  else some ⟨(b.byt.getD 0 0).toNat, wordN (b.byt.drop 1), decide (128 ≤ (b.byt.getD 3 0).toNat), (b.byt.drop 4).take ((b.byt.getD 3 0).toNat % 128)⟩
/-- A piece that stands in a block, whatever is behind it. -/
theorem pcOf_pre {mn : Nat} {q : Pc} (h : okP mn q) (hm : mn ≤ 200) {b : Bk} (ht : b.torn = false) (hp : pcB q <+: b.byt) : pcOf mn b = some q := by
  obtain ⟨num, sit, fst, byt⟩ := q
  obtain ⟨h1, h2, h3, h4⟩ := h
  simp only at h1 h2 h3 h4
  obtain ⟨r, hr⟩ := hp
  have e : b.byt = UInt8.ofNat num :: UInt8.ofNat (sit / 256) :: UInt8.ofNat sit :: UInt8.ofNat (byt.length + if fst = true then 128 else 0) :: (byt ++ r) := by
    rw [← hr]
    simp [pcB, w2B]
  unfold pcOf
  simp only [ht, e, List.getD_cons_zero, List.getD_cons_succ, List.drop_succ_cons, List.drop_zero, UInt8.toNat_ofNat']
  have e3 : (byt.length + if fst = true then 128 else 0) % 2 ^ 8 % 128 = byt.length := by split <;> omega
  have e0 : num % 2 ^ 8 = num := by omega
  rw [e3, e0, if_neg (by decide), if_neg (by omega)]
  congr 1
  have ew : wordN (UInt8.ofNat (sit / 256) :: UInt8.ofNat sit :: UInt8.ofNat (byt.length + if fst = true then 128 else 0) :: (byt ++ r)) = sit := by
    unfold wordN
    simp only [List.getD_cons_zero, List.getD_cons_succ, UInt8.toNat_ofNat']
    omega
  rw [ew, List.take_left]
  congr 1
  cases fst
  · simp; omega
  · simp; omega
theorem pcOf_pcB {mn : Nat} {q : Pc} (h : okP mn q) (hm : mn ≤ 200) : pcOf mn ⟨padB (pcB q), false⟩ = some q :=
  pcOf_pre h hm rfl (by unfold padB; exact List.prefix_append _ _)
theorem pcOf_ok {mn : Nat} {b : Bk} {q : Pc} (h : pcOf mn b = some q) (hb : b.ok) : okP mn q ∧ b.torn = false := by
  unfold Bk.ok at hb
  unfold pcOf at h
  split at h
  · cases h
  · rename_i h0
    split at h
    · cases h
    · rename_i h1
      cases h
      have hw : wordN (b.byt.drop 1) < 65536 := by
        unfold wordN
        have h1 := ((b.byt.drop 1).getD 0 0).toNat_lt
        have h2 := ((b.byt.drop 1).getD 1 0).toNat_lt
        omega
      refine ⟨⟨by simp only; omega, hw, ?_, ?_⟩, by simpa using h0⟩
      · simp only [List.length_take, List.length_drop]; omega
      · simp only [List.length_take, List.length_drop]; omega
theorem pcOf_zero (mn : Nat) : pcOf mn bk0 = none := by
  unfold pcOf
  rw [if_neg (by decide), if_pos (by right; left; decide)]
/-- A piece's cells. -/
def pcC (at_ num sit : Nat) (fst : Bool) (v : Value) : Array Value := #[.int .i64 (at_ : Int), .int .i64 (num : Int), .int .i64 (sit : Int), .bool fst, v]
def pc0C : Array Value := #[.int .i64 0, .int .i64 0, .int .i64 0, .bool false, .slice none 0 0]
theorem and_mark (x : Nat) (h : x < 256) : bits .and .u8 (x : Int) 128 = if 128 ≤ x then 128 else 0 := by
  have : ∀ x : Nat, x < 256 → bits .and .u8 (x : Int) 128 = if 128 ≤ x then 128 else 0 := by decide +kernel
  exact this x h
theorem andNot_mark (x : Nat) (h : x < 256) : bits .andNot .u8 (x : Int) 128 = ((x % 128 : Nat) : Int) := by
  have : ∀ x : Nat, x < 256 → bits .andNot .u8 (x : Int) 128 = ((x % 128 : Nat) : Int) := by decide +kernel
  exact this x h
theorem or_mark (x : Nat) (h : x < 128) : bits .or .u8 (x : Int) 128 = ((x + 128 : Nat) : Int) := by
  have : ∀ x : Nat, x < 128 → bits .or .u8 (x : Int) 128 = ((x + 128 : Nat) : Int) := by decide +kernel
  exact this x h
end Go.Proofs.Ytijjegkkeigeoaa

namespace Go.Proofs.Ytijjegkkeigeoaa
set_option linter.unusedVariables false
set_option linter.unusedSimpArgs false
set_option maxRecDepth 100000
open Go.RowKit Go.Lib

theorem pc_size : (Try.prog.info? 106).map (·.size) = some 5 := by kernel_rfl
theorem pc_zero : (Try.prog.info? 106).map (·.zero) = some (some (.agg pc0C)) := by kernel_rfl
theorem alloc_pc (w : World) : (Instr.alloc 106 true (.tuple #[])).run Try.prog w = .ok (.pointer (some ⟨w.heap.size, 0, none⟩)) (w.alloc (.cells pc0C 106)) := by
  cases hq : Try.prog.info? 106 with
  | none => have := pc_zero; simp [hq] at this
  | some q =>
    have hz : q.zero = some (.agg pc0C) := by have := pc_zero; simpa [hq] using this
    simp [Instr.alloc, zeroValue, typeInfo, hq, hz, newVar, newRow, Value.cells]
theorem build_pc0 (w : World) : (Instr.build 106 #[]).run Try.prog w = .ok (.agg pc0C) w := by
  refine run_build w 106 _ _ ?_
  kernel_rfl
theorem build_pc4 (x0 x1 x2 : Int) (x3 : Bool) (w : World) : (Instr.build 106 #[(0, .int .i64 x0), (1, .int .i64 x1), (2, .int .i64 x2), (3, .bool x3)]).run Try.prog w = .ok (.agg #[.int .i64 x0, .int .i64 x1, .int .i64 x2, .bool x3, .slice none 0 0]) w := by
  refine run_build w 106 _ _ ?_
  kernel_rfl
theorem build_pc5 (x0 x1 x2 : Int) (x3 : Bool) (a : Option Addr) (n c : Nat) (w : World) : (Instr.build 106 #[(0, .int .i64 x0), (1, .int .i64 x1), (2, .int .i64 x2), (3, .bool x3), (4, .slice a n c)]).run Try.prog w = .ok (.agg #[.int .i64 x0, .int .i64 x1, .int .i64 x2, .bool x3, .slice a n c]) w := by
  refine run_build w 106 _ _ ?_
  kernel_rfl
theorem build_pc1 (x2 : Int) (w : World) : (Instr.build 106 #[(2, .int .i64 x2)]).run Try.prog w = .ok (.agg #[.int .i64 0, .int .i64 0, .int .i64 x2, .bool false, .slice none 0 0]) w := by
  refine run_build w 106 _ _ ?_
  kernel_rfl
/-- A piece in memory: its block, itself, and where its bytes lie. -/
structure Pm where
  at_ : Nat
  q : Pc
  a : Option Addr
  cap : Nat
def Pm.cells (x : Pm) : List Value := [.int .i64 (x.at_ : Int), .int .i64 (x.q.num : Int), .int .i64 (x.q.sit : Int), .bool x.q.fst, .slice x.a x.q.byt.length x.cap]
theorem Pm.cells_length (x : Pm) : x.cells.length = 5 := rfl
theorem Pm.cells_one (x : Pm) : ∀ u ∈ x.cells, u.oneCell' = true := by
  intro u hu
  simp only [Pm.cells, List.mem_cons, List.not_mem_nil, or_false] at hu
  rcases hu with rfl | rfl | rfl | rfl | rfl <;> rfl
/-- Its bytes are there. -/
def Pm.ok (W : World) (x : Pm) : Prop := OwnBy W (.slice x.a x.q.byt.length x.cap) x.q.byt ∧ x.a ≠ none
theorem load_pm {u : World} {B o : Nat} (x : Pm) (hr : u.rangeAt B o x.cells) : (Instr.loadAt 106 (.pointer (some ⟨B, o, none⟩))).run Try.prog u = .ok (.agg x.cells.toArray) u :=
  run_loadAt_mid u B o 106 _ _ hr Try.underlying106 rfl pc_size
theorem range0 {u : World} {B : Nat} {l : List Value} {t : TypeId} (h : u.heap[B]? = some (.cells l.toArray t (0, 0))) : u.rangeAt B 0 l := by
  intro j v hv
  rw [cell_of_row u B _ _ t (0, 0) h]
  simpa using hv
theorem store_pcs {u : World} {B : Nat} {cs cs' : List Value} {t : TypeId} (hl : cs.length = 5) (hl' : cs'.length = 5) (h1 : ∀ v ∈ cs, v.oneCell' = true) (hb : u.heap[B]? = some (.cells cs'.toArray t (0, 0))) :
    (Instr.storeAt 106 (.pointer (some ⟨B, 0, none⟩)) (.agg cs.toArray)).run Try.prog u = .ok () (u.setRow B cs.toArray) := by
  have := run_storeCells_at Try.prog B 0 t cs 0 cs'.toArray u hb (by rw [hl, List.size_toArray, hl']; omega) h1
  rw [Nat.add_zero, hl, List.take_zero, List.nil_append, List.drop_eq_nil_of_le (by simp [hl']), List.append_nil] at this
  cases hq : Try.prog.info? 106 with
  | none => have := pc_size; simp [hq] at this
  | some q =>
    have hs : q.size = 5 := by have := pc_size; simpa [hq] using this
    simp [Instr.storeAt, Instr.sureAddr, storeVar, sizeOf, typeInfo, hq, Value.cells, hs, hl, this]
theorem var_pcs {u : World} {B : Nat} {cs : List Value} (hl : cs.length = 5) (hr : u.heap[B]? = some (.cells cs.toArray 106 (0, 0))) : (loadVar 106 ⟨B, 0, none⟩).run Try.prog u = .ok (.agg cs.toArray) u := by
  have := run_loadAt_mid (P := Try.prog) u B 0 106 cs _ (range0 hr) Try.underlying106 rfl (by rw [hl]; exact pc_size)
  simpa [Instr.loadAt, Instr.sureAddr] using this
theorem pc_results {fn : Func} {p u : Tmp} (hf : fn.results = #[.cell p 106, .tmp u]) (tmps : Array Value) {w : World} {B : Nat} {cs : List Value} (hl : cs.length = 5) (hp : tmps.getD p undef = .pointer (some ⟨B, 0, none⟩)) (hr : w.heap[B]? = some (.cells cs.toArray 106 (0, 0))) :
    (results fn tmps).run Try.prog w = .ok (.tuple #[.agg cs.toArray, tmps.getD u undef]) w := by
  rw [results_cell_tmp hf, hp]
  simp [asAddr, var_pcs hl hr, Result.andThen]
theorem setRow_below {u w : World} {B : Nat} {cs : Array Value} (hb : Below w.heap.size w u) (hB : w.heap.size ≤ B) : Below w.heap.size w (u.setRow B cs) := hb.trans ⟨rfl, rfl, rfl, by simp, fun k hk => setRow_other _ _ _ _ (by omega)⟩
theorem two_new (W : World) (X Y : Obj) : ((W.alloc X).alloc Y).heap[W.heap.size]? = some X ∧ ((W.alloc X).alloc Y).heap[W.heap.size + 1]? = some Y ∧ Below W.heap.size W ((W.alloc X).alloc Y) := by
  have s1 : (W.alloc X).heap.size = W.heap.size + 1 := by simp
  refine ⟨(Below.heap_alloc _ _ _ (by omega)).trans (new_heap W X), ?_, ((Below.refl _ W).alloc (Nat.le_refl _) X).alloc (by omega) Y⟩
  have := new_heap (W.alloc X) Y
  rwa [s1] at this
section
variable {w W : World} {p nb sb : Nat} {cv : Value} {n : Nat} {D : Dk}
theorem readPiece_torn (a : Tn w W p nb sb cv n D) (fr mn i : Nat) (hi : fr + i < n) (hn : n ≤ 200) (ht : (D.now.getD (fr + i) bk0).torn = true) :
    Calls Try.prog 53 #[.agg #[.pointer (some ⟨p, 0, none⟩), .int .i64 (fr : Int), .int .i64 (mn : Int)], .int .i64 (i : Int)] W fun e w' => e = .returned (.tuple #[.agg pc0C, .bool false]) ∧ Hid (Below W.heap.size W w') := by
  have hal := alloc_pc
  obtain ⟨W0, hW0⟩ : ∃ W0, (W.alloc (.cells #[.pointer (some ⟨p, 0, none⟩), .int .i64 (fr : Int), .int .i64 (mn : Int)] 77)).alloc (.cells pc0C 106) = W0 := ⟨_, rfl⟩
  obtain ⟨ha0, hr0, hb0⟩ := two_new W (.cells #[.pointer (some ⟨p, 0, none⟩), .int .i64 (fr : Int), .int .i64 (mn : Int)] 77) (.cells pc0C 106)
  rw [hW0] at ha0 hr0 hb0
  have c0 : W0.cell? ⟨W.heap.size, 0, none⟩ = some (.pointer (some ⟨p, 0, none⟩)) := by simp [World.cell?, ha0]
  have c1 : W0.cell? ⟨W.heap.size, 1, none⟩ = some (.int .i64 (fr : Int)) := by simp [World.cell?, ha0]
  have HR : Hid (Calls _ _ _ W0 _) := tn_readTorn (a.below hb0) (fr + i) hi ht
  rw [enE_ne (by decide), show ((fr + i : Nat) : Int) = (fr : Int) + (i : Int) by omega] at HR
  have hbd := build_pc0
  have HB : Hid (Below W.heap.size W W0) := hb0
  have Hr0 : Hid (W0.heap[W.heap.size + 1]? = some (.cells pc0C 106 (0, 0))) := hr0
  have f0 : (0 : Int) ≤ fr := by omega
  have i0 : (0 : Int) ≤ i := by omega
  have fi : (fr : Int) + i < 200 := by omega
  clear a ht hb0 hr0 ha0
  go_enter Try.func53, Try.ntmps53
  go_wp2_with (refine wpList_alloc_run rfl 106 rfl (hal _) ?_)
  refine HR.out.mono ?_
  rintro e w1 ⟨rfl, _, hs⟩
  have hr1 : w1.heap[W.heap.size + 1]? = some (.cells pc0C 106 (0, 0)) := by rw [hs.out.heap]; exact Hr0.out
  have hst := store_pcs (cs := pc0C.toList) (cs' := pc0C.toList) rfl rfl (by decide) hr1
  have HE : Hid ((w1.setRow (W.heap.size + 1) pc0C).heap[W.heap.size + 1]? = some (.cells pc0C 106 (0, 0)) ∧ Below W.heap.size W (w1.setRow (W.heap.size + 1) pc0C)) := ⟨setRow_heap w1 _ _ _ _ _ hr1, setRow_below (HB.out.trans (hs.out.below _)) (by omega)⟩
  clear HR hr1
  go_wp2_with (first | (refine wpList_build_run rfl 106 #[] rfl #[] (by simp) (hbd _) ?_) | (refine wpList_store_run rfl 106 _ _ rfl _ _ (by rfl) (by rfl) hst ?_))
  refine bodyPost_ret (pc_results (cs := pc0C.toList) rfl _ rfl (by rfl) HE.out.1) rfl ?_
  exact ⟨rfl, HE.out.2⟩
end
end Go.Proofs.Ytijjegkkeigeoaa

namespace Go.Proofs.Ytijjegkkeigeoaa
set_option linter.unusedVariables false
set_option linter.unusedSimpArgs false
set_option maxRecDepth 100000
open Go.RowKit Go.Lib
section
variable {w W : World} {p nb sb : Nat} {cv : Value} {n : Nat} {D : Dk}
set_option maxHeartbeats 2000000 in
theorem readPiece_ok (a : Tn w W p nb sb cv n D) (fr mn i : Nat) (hi : fr + i < n) (hn : n ≤ 200) (hm : mn ≤ 200) (ht : (D.now.getD (fr + i) bk0).torn = false) :
    Calls Try.prog 53 #[.agg #[.pointer (some ⟨p, 0, none⟩), .int .i64 (fr : Int), .int .i64 (mn : Int)], .int .i64 (i : Int)] W fun e w' => ((pcOf mn (D.now.getD (fr + i) bk0) = none ∧ e = .returned (.tuple #[.agg pc0C, .bool false])) ∨ ∃ q ad cap, pcOf mn (D.now.getD (fr + i) bk0) = some q ∧ e = .returned (.tuple #[.agg (Pm.mk i q ad cap).cells.toArray, .bool true]) ∧ Hid (Pm.ok w' (Pm.mk i q ad cap))) ∧ Hid (Below W.heap.size W w') := by
  have hok : (D.now.getD (fr + i) bk0).byt.length = 64 := getD_ok a.1.ok.nowO (fr + i)
  have hal := alloc_pc
  obtain ⟨W0, hW0⟩ : ∃ W0, (W.alloc (.cells #[.pointer (some ⟨p, 0, none⟩), .int .i64 (fr : Int), .int .i64 (mn : Int)] 77)).alloc (.cells pc0C 106) = W0 := ⟨_, rfl⟩
  obtain ⟨ha0, hr0, hb0⟩ := two_new W (.cells #[.pointer (some ⟨p, 0, none⟩), .int .i64 (fr : Int), .int .i64 (mn : Int)] 77) (.cells pc0C 106)
  rw [hW0] at ha0 hr0 hb0
  have c0 : W0.cell? ⟨W.heap.size, 0, none⟩ = some (.pointer (some ⟨p, 0, none⟩)) := by simp [World.cell?, ha0]
  have c1 : W0.cell? ⟨W.heap.size, 1, none⟩ = some (.int .i64 (fr : Int)) := by simp [World.cell?, ha0]
  have HR : Hid (Calls _ _ _ W0 _) := tn_read (a.below hb0) (fr + i) hi ht
  rw [show ((fr + i : Nat) : Int) = (fr : Int) + (i : Int) by omega] at HR
  have hbd := build_pc0
  have HB : Hid (Below W.heap.size W W0) := hb0
  have Hr0 : Hid (W0.heap[W.heap.size + 1]? = some (.cells pc0C 106 (0, 0))) := hr0
  have Ha0 : Hid (W0.heap[W.heap.size]? = some (.cells #[.pointer (some ⟨p, 0, none⟩), .int .i64 (fr : Int), .int .i64 (mn : Int)] 77 (0, 0))) := ha0
  have f0 : (0 : Int) ≤ fr := by omega
  have i0 : (0 : Int) ≤ i := by omega
  have fi : (fr : Int) + i < 200 := by omega
  have hG : W.heap.size + 1 < W0.heap.size := (Array.getElem?_eq_some_iff.1 hr0).1
  have HP : Hid (∀ x, pcOf mn (D.now.getD (fr + i) bk0) = x ↔ pcOf mn ⟨(D.now.getD (fr + i) bk0).byt, false⟩ = x) := fun x => by
    generalize D.now.getD (fr + i) bk0 = b at *
    obtain ⟨byt, torn⟩ := b
    simp only at ht
    subst ht
    exact Iff.rfl
  obtain ⟨pv, hpv⟩ : ∃ pv, pcOf mn (D.now.getD (fr + i) bk0) = pv := ⟨_, rfl⟩
  rw [hpv]
  have hpv' := (HP.out pv).1 hpv
  clear a ht hb0 hr0 ha0 hpv HP
  generalize (D.now.getD (fr + i) bk0).byt = byt at *
  obtain ⟨x0, x1, x2, x3, rest, rfl, hrest⟩ : ∃ x0 x1 x2 x3 rest, byt = x0 :: x1 :: x2 :: x3 :: rest ∧ rest.length = 60 := by
    match byt, hok with
    | x0 :: x1 :: x2 :: x3 :: rest, h => exact ⟨x0, x1, x2, x3, rest, rfl, by simpa using h⟩
  clear hok
  unfold pcOf at hpv'
  rw [if_neg (by simp)] at hpv'
  simp only [List.getD_cons_zero, List.getD_cons_succ, List.drop_succ_cons, List.drop_zero] at hpv'
  have hX0 := x0.toNat_lt
  have hX3 := x3.toNat_lt
  have hwd : wordN (x1 :: x2 :: x3 :: rest) = wordN [x1, x2] := rfl
  rw [hwd] at hpv'
  have hWd : wordN [x1, x2] < 65536 := by
    have h1 := x1.toNat_lt
    have h2 := x2.toNat_lt
    show x1.toNat * 256 + x2.toNat < 65536
    omega
  have HWord : Hid (∀ (u : World) (G : Nat), G < u.heap.size → u.cell? ⟨G, 1, none⟩ = some (.int .u8 (x1.toNat : Int)) → u.cell? ⟨G, 2, none⟩ = some (.int .u8 (x2.toNat : Int)) → Calls Try.prog 52 #[.slice (some ⟨G, 1, none⟩) 2 63] u fun e w' => e = .returned (.int .i64 (wordN [x1, x2] : Nat)) ∧ ∃ k, w' = u.drewN k) := fun u G hG h1 h2 =>
    word_at (some ⟨G, 1, none⟩) [x1, x2] 63 u ⟨by simp, .inr ⟨G, 1, rfl, hG, fun k hk => by
      match k, hk with
      | 0, _ => exact h1
      | 1, _ => exact h2⟩⟩ (by simp) (by simp)
  have HSize : Hid (∀ u : World, Calls Try.prog 56 #[.agg #[.pointer (some ⟨p, 0, none⟩), .int .i64 (fr : Int), .int .i64 (mn : Int)]] u fun e w' => e = .returned (.int .i64 (((mn - 2) * 60 : Nat) : Int)) ∧ Below u.heap.size u w') := fun u => size_any p fr mn u hm
  obtain ⟨wd, hwdd⟩ : ∃ wd, wordN [x1, x2] = wd := ⟨_, rfl⟩
  rw [hwdd] at HWord hpv' hWd
  have hA : bits .and .u8 (x3.toNat : Int) 128 = if 128 ≤ x3.toNat then 128 else 0 := and_mark _ hX3
  have hN : bits .andNot .u8 (x3.toNat : Int) 128 = ((x3.toNat % 128 : Nat) : Int) := andNot_mark _ hX3
  obtain ⟨fb, hfb⟩ : ∃ fb, decide (128 ≤ x3.toNat) = fb := ⟨_, rfl⟩
  rw [hfb] at hpv'
  have HN : Hid (x3.toNat % 128 < 128) := Nat.mod_lt _ (by omega)
  clear hwdd hwd
  generalize hk3 : x3.toNat % 128 = k at *
  clear hk3
  obtain ⟨X0, hX00⟩ : ∃ X0, x0.toNat = X0 := ⟨_, rfl⟩
  rw [hX00] at hpv' hX0
  obtain ⟨ms, hms⟩ : ∃ ms, (mn - 2) * 60 = ms := ⟨_, rfl⟩
  rw [hms] at HSize hpv'
  have hmsl : ms ≤ 12000 := by omega
  have HX00 : Hid (x0.toNat = X0) := hX00
  clear hX00 hms
  have X00 : (0 : Int) ≤ X0 := by omega
  have X01 : (X0 : Int) < 256 := by omega
  have k0 : (0 : Int) ≤ k := by omega
  have k1 : (k : Int) < 128 := by have := HN.out; omega
  have s0 : (0 : Int) ≤ ms := by omega
  have s1 : (ms : Int) ≤ 12000 := by omega
  go_enter Try.func53, Try.ntmps53
  go_wp2_with (refine wpList_alloc_run rfl 106 rfl (hal _) ?_)
  refine HR.out.mono ?_
  rintro e w1 ⟨rfl, _, hrow, hb1⟩
  have HBW1 : Hid (Below W.heap.size W w1) := HB.out.trans (hb1.out.mono HB.out.size)
  have HG1 : Hid (W0.heap.size < w1.heap.size) := (Array.getElem?_eq_some_iff.1 hrow.out).1
  have Hr1 : Hid (w1.heap[W.heap.size + 1]? = some (.cells pc0C 106 (0, 0))) := (hb1.out.block _ hG).trans Hr0.out
  have Hra1 : Hid (w1.heap[W.heap.size]? = some (.cells #[.pointer (some ⟨p, 0, none⟩), .int .i64 (fr : Int), .int .i64 (mn : Int)] 77 (0, 0))) := (hb1.out.block _ (by omega)).trans Ha0.out
  have Hrow : Hid (w1.heap[W0.heap.size]? = some (.cells (byC (x0 :: x1 :: x2 :: x3 :: rest)).toArray 5 (0, 0))) := hrow.out
  clear HR hrow hb1 c0 c1 Hr0 Ha0 hW0 hal
  obtain ⟨G, hGG⟩ : ∃ G, W0.heap.size = G := ⟨_, rfl⟩
  rw [hGG] at Hrow hG HG1
  try rw [hGG]
  have HBW0 : Hid (W.heap.size + 1 < G) := hG
  have d0 : w1.cell? ⟨G, 0, none⟩ = some (.int .u8 (X0 : Int)) := by
    rw [cell_of_row _ _ _ _ _ (0, 0) Hrow.out, ← HX00.out]; rfl
  have d1 : w1.cell? ⟨G, 1, none⟩ = some (.int .u8 (x1.toNat : Int)) := by
    rw [cell_of_row _ _ _ _ _ (0, 0) Hrow.out]; rfl
  have d2 : w1.cell? ⟨G, 2, none⟩ = some (.int .u8 (x2.toNat : Int)) := by
    rw [cell_of_row _ _ _ _ _ (0, 0) Hrow.out]; rfl
  have d3 : w1.cell? ⟨G, 3, none⟩ = some (.int .u8 (x3.toNat : Int)) := by
    rw [cell_of_row _ _ _ _ _ (0, 0) Hrow.out]; rfl
  have gl : G < w1.heap.size := HG1.out
  clear hGG HB hG
  have HRow : Hid (w1.heap[G]? = some (.cells (byC (x0 :: x1 :: x2 :: x3 :: rest)).toArray 5 (0, 0)) ∧ Below W.heap.size W w1) := ⟨Hrow.out, HBW1.out⟩
  have Hc : Hid (∀ u : World, u.heap[G]? = some (.cells (byC (x0 :: x1 :: x2 :: x3 :: rest)).toArray 5 (0, 0)) → u.cell? ⟨G, 0, none⟩ = some (.int .u8 (X0 : Int)) ∧ u.cell? ⟨G, 1, none⟩ = some (.int .u8 (x1.toNat : Int)) ∧ u.cell? ⟨G, 2, none⟩ = some (.int .u8 (x2.toNat : Int)) ∧ u.cell? ⟨G, 3, none⟩ = some (.int .u8 (x3.toNat : Int))) := fun u hu =>
    ⟨by rw [cell_of_row _ _ _ _ _ (0, 0) hu, ← HX00.out]; rfl, by rw [cell_of_row _ _ _ _ _ (0, 0) hu]; rfl, by rw [cell_of_row _ _ _ _ _ (0, 0) hu]; rfl, by rw [cell_of_row _ _ _ _ _ (0, 0) hu]; rfl⟩
  clear d0 d1 d2
  go_upto_region 4 with fail
  go_cut [8] from 23 to 36 (fun t wx => ∃ B5, t = .pointer (some ⟨B5, 0, none⟩) ∧ Hid (wx.heap[B5]? = some (.cells #[.int .i64 (i : Int), .int .i64 (X0 : Int), .int .i64 (wd : Int), .bool fb, .slice none 0 0] 106 (0, 0)) ∧ Below w1.heap.size w1 wx ∧ w1.heap.size ≤ B5))
  case first =>
    clear HSize
    by_cases h128 : 128 ≤ x3.toNat
    · rw [if_pos h128] at hA
      rw [decide_eq_true h128] at hfb
      subst hfb
      clear h128
      have hbd4 := build_pc4 (i : Int) (X0 : Int) (wd : Int) true
      have hal := alloc_pc
      have hdr : Below w1.heap.size w1 w1.drew := ⟨rfl, rfl, rfl, Nat.le_refl _, fun _ _ => rfl⟩
      have HT : Hid (w1.drew.heap[G]? = some (.cells (byC (x0 :: x1 :: x2 :: x3 :: rest)).toArray 5 (0, 0)) ∧ Below w1.heap.size w1 w1.drew) := ⟨Hrow.out, hdr⟩
      refine wp_region_drawn (by kernel_rfl) ?_
      generalize w1.drew = v2 at *
      clear hdr
      refine wpAny_take (i := 0) (v := .int .i64 (i : Int)) rfl (by kernel_rfl) (by kernel_rfl) (by kernel_rfl) (fun _ _ _ h => h) (Or.inl ⟨by rfl, fun w => by go_simp⟩) ?_
      simp only [Act.put, List.getElem_toArray, List.getElem_cons_succ, List.getElem_cons_zero, List.setIfInBounds_toArray, List.set_cons_zero, List.set_cons_succ]
      refine wpAny_take (i := 1) (v := .slice (some ⟨G, 0, none⟩) 64 64) rfl (by kernel_rfl) (by kernel_rfl) (by kernel_rfl) (fun _ _ _ h => h) (Or.inl ⟨by rfl, fun w => by go_simp⟩) ?_
      simp only [Act.put, List.getElem_toArray, List.getElem_cons_succ, List.getElem_cons_zero, List.setIfInBounds_toArray, List.set_cons_zero, List.set_cons_succ]
      refine wpAny_take (i := 2) (v := .pointer (some ⟨G, 0, none⟩)) rfl (by kernel_rfl) (by kernel_rfl) (by kernel_rfl) (fun _ _ _ h => h) (Or.inl ⟨by rfl, fun w => by go_simp⟩) ?_
      simp only [Act.put, List.getElem_toArray, List.getElem_cons_succ, List.getElem_cons_zero, List.setIfInBounds_toArray, List.set_cons_zero, List.set_cons_succ]
      refine wpAny_take (i := 5) (v := .slice (some ⟨G, 0, none⟩) 64 64) rfl (by kernel_rfl) (by kernel_rfl) (by kernel_rfl) (fun _ _ _ h => h) (Or.inl ⟨by rfl, fun w => by go_simp⟩) ?_
      simp only [Act.put, List.getElem_toArray, List.getElem_cons_succ, List.getElem_cons_zero, List.setIfInBounds_toArray, List.set_cons_zero, List.set_cons_succ]
      refine wpAny_take (i := 6) (v := .slice (some ⟨G, 1, none⟩) 2 63) rfl (by kernel_rfl) (by kernel_rfl) (by kernel_rfl) (fun _ _ _ h => h) (Or.inl ⟨by rfl, fun w => by go_simp⟩) ?_
      simp only [Act.put, List.getElem_toArray, List.getElem_cons_succ, List.getElem_cons_zero, List.setIfInBounds_toArray, List.set_cons_zero, List.set_cons_succ]
      refine wpAny_take (i := 8) (v := .slice (some ⟨G, 0, none⟩) 64 64) rfl (by kernel_rfl) (by kernel_rfl) (by kernel_rfl) (fun _ _ _ h => h) (Or.inl ⟨by rfl, fun w => by go_simp⟩) ?_
      simp only [Act.put, List.getElem_toArray, List.getElem_cons_succ, List.getElem_cons_zero, List.setIfInBounds_toArray, List.set_cons_zero, List.set_cons_succ]
      refine wpAny_take (i := 9) (v := .pointer (some ⟨G, 3, none⟩)) rfl (by kernel_rfl) (by kernel_rfl) (by kernel_rfl) (fun _ _ _ h => h) (Or.inl ⟨by rfl, fun w => by go_simp⟩) ?_
      simp only [Act.put, List.getElem_toArray, List.getElem_cons_succ, List.getElem_cons_zero, List.setIfInBounds_toArray, List.set_cons_zero, List.set_cons_succ]
      refine any_of_L (g := 15) (T := fun u => u.heap[G]? = some (.cells (byC (x0 :: x1 :: x2 :: x3 :: rest)).toArray 5 (0, 0)) ∧ Below w1.heap.size w1 u) _ _ _ _ ?_
      refine L_take (i := 3) (v := .int .u8 (X0 : Int)) rfl rfl (by kernel_rfl) (by decide) (by kernel_rfl) (by kernel_rfl) (by kernel_rfl) (by kernel_rfl) (fun _ _ _ h => h) (Or.inl ⟨by rfl, fun w' hw' => by have c0 := (Hc.out w' hw'.1).1; clear hw'; go_simp⟩) HT.out ?_
      simp only [Act.put, List.getElem_toArray, List.getElem_cons_succ, List.getElem_cons_zero, List.setIfInBounds_toArray, List.set_cons_zero, List.set_cons_succ]
      refine L_take (i := 10) (v := .int .u8 (x3.toNat : Int)) rfl rfl (by kernel_rfl) (by decide) (by kernel_rfl) (by kernel_rfl) (by kernel_rfl) (by kernel_rfl) (fun _ _ _ h => h) (Or.inl ⟨by rfl, fun w' hw' => by have c0 := (Hc.out w' hw'.1).2.2.2; clear hw'; go_simp⟩) HT.out ?_
      simp only [Act.put, List.getElem_toArray, List.getElem_cons_succ, List.getElem_cons_zero, List.setIfInBounds_toArray, List.set_cons_zero, List.set_cons_succ]
      refine L_take (i := 4) (v := .int .i64 (X0 : Int)) rfl rfl (by kernel_rfl) (by decide) (by kernel_rfl) (by kernel_rfl) (by kernel_rfl) (by kernel_rfl) (fun _ _ _ h => h) (Or.inl ⟨by rfl, fun w' hw' => by clear hw'; have hwr : IntKind.i64.wrap (X0 : Int) = X0 := (by rw [IntKind.wrap_i64]; omega); go_simp⟩) HT.out ?_
      simp only [Act.put, List.getElem_toArray, List.getElem_cons_succ, List.getElem_cons_zero, List.setIfInBounds_toArray, List.set_cons_zero, List.set_cons_succ]
      refine L_take (i := 11) (v := .int .u8 128) rfl rfl (by kernel_rfl) (by decide) (by kernel_rfl) (by kernel_rfl) (by kernel_rfl) (by kernel_rfl) (fun _ _ _ h => h) (Or.inl ⟨by rfl, fun w' hw' => by clear hw'; go_simp⟩) HT.out ?_
      simp only [Act.put, List.getElem_toArray, List.getElem_cons_succ, List.getElem_cons_zero, List.setIfInBounds_toArray, List.set_cons_zero, List.set_cons_succ]
      refine L_take (i := 12) (v := .bool true) rfl rfl (by kernel_rfl) (by decide) (by kernel_rfl) (by kernel_rfl) (by kernel_rfl) (by kernel_rfl) (fun _ _ _ h => h) (Or.inl ⟨by rfl, fun w' hw' => by clear hw'; go_simp⟩) HT.out ?_
      simp only [Act.put, List.getElem_toArray, List.getElem_cons_succ, List.getElem_cons_zero, List.setIfInBounds_toArray, List.set_cons_zero, List.set_cons_succ]
      refine L_two (i := 7) (j := 14) (by kernel_rfl) ?_ ?_
      · obtain ⟨_, c1, c2, _⟩ := Hc.out v2 HT.out.1
        have HCw : Hid (Calls _ _ _ v2 _) := HWord.out v2 G (Array.getElem?_eq_some_iff.1 HT.out.1).1 c1 c2
        clear c1 c2
        refine wpOp_step rfl ?_
        intro K hK
        rw [if_pos (by rfl)]
        have hK' : Shut (∀ a w, _ → K a w) := hK
        clear hK
        go_wp2_with fail
        refine HCw.out.mono ?_
        rintro e w3 ⟨rfl, hw3⟩
        have H3 : Hid (w3.heap[G]? = some (.cells (byC (x0 :: x1 :: x2 :: x3 :: rest)).toArray 5 (0, 0)) ∧ Below w1.heap.size w1 w3) := by
          obtain ⟨k2, rfl⟩ := hw3
          exact ⟨HT.out.1, HT.out.2.trans ((Still.drewN v2 k2).below _)⟩
        clear hw3 HCw
        refine hK'.out _ _ ⟨H3.out, ?_⟩
        clear hK' K
        try simp only [Act.put, List.getElem_toArray, List.getElem_cons_succ, List.getElem_cons_zero, List.setIfInBounds_toArray, List.set_cons_zero, List.set_cons_succ]
        refine L_take (i := 13) (v := .agg #[.int .i64 (i : Int), .int .i64 (X0 : Int), .int .i64 (wd : Int), .bool true, .slice none 0 0]) rfl rfl (by kernel_rfl) (by decide) (by kernel_rfl) (by kernel_rfl) (by kernel_rfl) (by kernel_rfl) (fun _ _ _ h => h) ?_ H3.out ?_
        · refine yields_build_run (by rfl) 106 #[(0, .tmp 23), (1, .tmp 27), (2, .tmp 30), (3, .tmp 35)] (by rfl) #[(0, .int .i64 (i : Int)), (1, .int .i64 (X0 : Int)), (2, .int .i64 (wd : Int)), (3, .bool true)] (by simp [Act.eval]) ?_
          exact fun u _ => hbd4 u
        try simp only [Act.put, List.getElem_toArray, List.getElem_cons_succ, List.getElem_cons_zero, List.setIfInBounds_toArray, List.set_cons_zero, List.set_cons_succ]
        refine L_one (i := 14) (by kernel_rfl) ?_
        refine wpOp_step rfl ?_
        intro K hK
        rw [if_pos (by rfl)]
        have hK' : Shut (∀ a w, _ → K a w) := hK
        clear hK
        refine wp_alloc_run 106 (by rfl) (hal _) ?_
        have hW3 := H3.out.2.size
        obtain ⟨B5, hB5⟩ : ∃ B5, w3.heap.size = B5 := ⟨_, rfl⟩
        obtain ⟨V5, hV5⟩ : ∃ V5, w3.alloc (.cells pc0C 106) = V5 := ⟨_, rfl⟩
        have HE5 : Hid (V5.heap[B5]? = some (.cells pc0C 106 (0, 0)) ∧ Below w1.heap.size w1 V5 ∧ w1.heap.size ≤ B5) := by
          rw [← hV5, ← hB5]
          exact ⟨new_heap w3 _, H3.out.2.alloc hW3 _, hW3⟩
        have hT5 : V5.heap[G]? = some (.cells (byC (x0 :: x1 :: x2 :: x3 :: rest)).toArray 5 (0, 0)) ∧ Below w1.heap.size w1 V5 := by
          rw [← hV5]
          exact ⟨(Below.heap_alloc _ _ _ (Array.getElem?_eq_some_iff.1 H3.out.1).1).trans H3.out.1, H3.out.2.alloc hW3 _⟩
        rw [hV5, hB5]
        refine hK'.out _ _ ⟨hT5, ?_⟩
        clear hK' K hT5 hV5
        try simp only [Act.put, List.getElem_toArray, List.getElem_cons_succ, List.getElem_cons_zero, List.setIfInBounds_toArray, List.set_cons_zero, List.set_cons_succ]
        refine L_go (by kernel_rfl) (by kernel_rfl) ?_
        refine wpOp_step rfl ?_
        intro K hK
        rw [if_pos (by rfl)]
        have hK' : Shut (∀ a w, _ → K a w) := hK
        clear hK
        refine wp_store_run 106 (.tmp 8) (.tmp 36) (by rfl) (.pointer (some ⟨B5, 0, none⟩)) (.agg #[.int .i64 (i : Int), .int .i64 (X0 : Int), .int .i64 (wd : Int), .bool true, .slice none 0 0]) (by rfl) (by rfl) (store_pcs (cs := [.int .i64 (i : Int), .int .i64 (X0 : Int), .int .i64 (wd : Int), .bool true, .slice none 0 0]) (cs' := pc0C.toList) rfl rfl (by simp [Value.oneCell']) HE5.out.1) ?_
        refine hK'.out _ _ ?_
        clear hK' K
        refine wpAny_done (by kernel_rfl) ?_ _
        go_wp2_with fail
        go_meet
        exact ⟨B5, rfl, setRow_heap _ _ _ _ _ _ HE5.out.1, setRow_below HE5.out.2.1 HE5.out.2.2, HE5.out.2.2⟩
      · skip
        refine wpOp_step rfl ?_
        intro K hK
        rw [if_pos (by rfl)]
        have hK' : Shut (∀ a w, _ → K a w) := hK
        clear hK
        refine wp_alloc_run 106 (by rfl) (hal _) ?_
        have hW2 := HT.out.2.size
        obtain ⟨B5, hB5⟩ : ∃ B5, v2.heap.size = B5 := ⟨_, rfl⟩
        obtain ⟨V4, hV4⟩ : ∃ V4, v2.alloc (.cells pc0C 106) = V4 := ⟨_, rfl⟩
        have HE4 : Hid (V4.heap[B5]? = some (.cells pc0C 106 (0, 0)) ∧ Below w1.heap.size w1 V4 ∧ w1.heap.size ≤ B5 ∧ V4.heap[G]? = some (.cells (byC (x0 :: x1 :: x2 :: x3 :: rest)).toArray 5 (0, 0))) := by
          rw [← hV4, ← hB5]
          exact ⟨new_heap v2 _, HT.out.2.alloc hW2 _, hW2, (Below.heap_alloc _ _ _ (Array.getElem?_eq_some_iff.1 HT.out.1).1).trans HT.out.1⟩
        rw [hV4, hB5]
        refine hK'.out _ _ ⟨⟨HE4.out.2.2.2, HE4.out.2.1⟩, ?_⟩
        clear hK' K hV4
        try simp only [Act.put, List.getElem_toArray, List.getElem_cons_succ, List.getElem_cons_zero, List.setIfInBounds_toArray, List.set_cons_zero, List.set_cons_succ]
        refine L_one (i := 7) (by kernel_rfl) ?_
        obtain ⟨_, c1, c2, _⟩ := Hc.out V4 HE4.out.2.2.2
        have HCw : Hid (Calls _ _ _ V4 _) := HWord.out V4 G (Array.getElem?_eq_some_iff.1 HE4.out.2.2.2).1 c1 c2
        clear c1 c2
        refine wpOp_step rfl ?_
        intro K hK
        rw [if_pos (by rfl)]
        have hK' : Shut (∀ a w, _ → K a w) := hK
        clear hK
        go_wp2_with fail
        refine HCw.out.mono ?_
        rintro e w3 ⟨rfl, hw3⟩
        have H3 : Hid (w3.heap[B5]? = some (.cells pc0C 106 (0, 0)) ∧ w3.heap[G]? = some (.cells (byC (x0 :: x1 :: x2 :: x3 :: rest)).toArray 5 (0, 0)) ∧ Below w1.heap.size w1 w3) := by
          obtain ⟨k2, rfl⟩ := hw3
          exact ⟨HE4.out.1, HE4.out.2.2.2, HE4.out.2.1.trans ((Still.drewN V4 k2).below _)⟩
        clear hw3 HCw
        refine hK'.out _ _ ⟨H3.out.2, ?_⟩
        clear hK' K
        try simp only [Act.put, List.getElem_toArray, List.getElem_cons_succ, List.getElem_cons_zero, List.setIfInBounds_toArray, List.set_cons_zero, List.set_cons_succ]
        refine L_take (i := 13) (v := .agg #[.int .i64 (i : Int), .int .i64 (X0 : Int), .int .i64 (wd : Int), .bool true, .slice none 0 0]) rfl rfl (by kernel_rfl) (by decide) (by kernel_rfl) (by kernel_rfl) (by kernel_rfl) (by kernel_rfl) (fun _ _ _ h => h) ?_ H3.out.2 ?_
        · refine yields_build_run (by rfl) 106 #[(0, .tmp 23), (1, .tmp 27), (2, .tmp 30), (3, .tmp 35)] (by rfl) #[(0, .int .i64 (i : Int)), (1, .int .i64 (X0 : Int)), (2, .int .i64 (wd : Int)), (3, .bool true)] (by simp [Act.eval]) ?_
          exact fun u _ => hbd4 u
        try simp only [Act.put, List.getElem_toArray, List.getElem_cons_succ, List.getElem_cons_zero, List.setIfInBounds_toArray, List.set_cons_zero, List.set_cons_succ]
        refine L_go (by kernel_rfl) (by kernel_rfl) ?_
        refine wpOp_step rfl ?_
        intro K hK
        rw [if_pos (by rfl)]
        have hK' : Shut (∀ a w, _ → K a w) := hK
        clear hK
        refine wp_store_run 106 (.tmp 8) (.tmp 36) (by rfl) (.pointer (some ⟨B5, 0, none⟩)) (.agg #[.int .i64 (i : Int), .int .i64 (X0 : Int), .int .i64 (wd : Int), .bool true, .slice none 0 0]) (by rfl) (by rfl) (store_pcs (cs := [.int .i64 (i : Int), .int .i64 (X0 : Int), .int .i64 (wd : Int), .bool true, .slice none 0 0]) (cs' := pc0C.toList) rfl rfl (by simp [Value.oneCell']) H3.out.1) ?_
        refine hK'.out _ _ ?_
        clear hK' K
        refine wpAny_done (by kernel_rfl) ?_ _
        go_wp2_with fail
        go_meet
        exact ⟨B5, rfl, setRow_heap _ _ _ _ _ _ H3.out.1, setRow_below H3.out.2.2 HE4.out.2.2.1, HE4.out.2.2.1⟩
    · rw [if_neg h128] at hA
      rw [decide_eq_false h128] at hfb
      subst hfb
      clear h128
      have hbd4 := build_pc4 (i : Int) (X0 : Int) (wd : Int) false
      have hal := alloc_pc
      have hdr : Below w1.heap.size w1 w1.drew := ⟨rfl, rfl, rfl, Nat.le_refl _, fun _ _ => rfl⟩
      have HT : Hid (w1.drew.heap[G]? = some (.cells (byC (x0 :: x1 :: x2 :: x3 :: rest)).toArray 5 (0, 0)) ∧ Below w1.heap.size w1 w1.drew) := ⟨Hrow.out, hdr⟩
      refine wp_region_drawn (by kernel_rfl) ?_
      generalize w1.drew = v2 at *
      clear hdr
      refine wpAny_take (i := 0) (v := .int .i64 (i : Int)) rfl (by kernel_rfl) (by kernel_rfl) (by kernel_rfl) (fun _ _ _ h => h) (Or.inl ⟨by rfl, fun w => by go_simp⟩) ?_
      simp only [Act.put, List.getElem_toArray, List.getElem_cons_succ, List.getElem_cons_zero, List.setIfInBounds_toArray, List.set_cons_zero, List.set_cons_succ]
      refine wpAny_take (i := 1) (v := .slice (some ⟨G, 0, none⟩) 64 64) rfl (by kernel_rfl) (by kernel_rfl) (by kernel_rfl) (fun _ _ _ h => h) (Or.inl ⟨by rfl, fun w => by go_simp⟩) ?_
      simp only [Act.put, List.getElem_toArray, List.getElem_cons_succ, List.getElem_cons_zero, List.setIfInBounds_toArray, List.set_cons_zero, List.set_cons_succ]
      refine wpAny_take (i := 2) (v := .pointer (some ⟨G, 0, none⟩)) rfl (by kernel_rfl) (by kernel_rfl) (by kernel_rfl) (fun _ _ _ h => h) (Or.inl ⟨by rfl, fun w => by go_simp⟩) ?_
      simp only [Act.put, List.getElem_toArray, List.getElem_cons_succ, List.getElem_cons_zero, List.setIfInBounds_toArray, List.set_cons_zero, List.set_cons_succ]
      refine wpAny_take (i := 5) (v := .slice (some ⟨G, 0, none⟩) 64 64) rfl (by kernel_rfl) (by kernel_rfl) (by kernel_rfl) (fun _ _ _ h => h) (Or.inl ⟨by rfl, fun w => by go_simp⟩) ?_
      simp only [Act.put, List.getElem_toArray, List.getElem_cons_succ, List.getElem_cons_zero, List.setIfInBounds_toArray, List.set_cons_zero, List.set_cons_succ]
      refine wpAny_take (i := 6) (v := .slice (some ⟨G, 1, none⟩) 2 63) rfl (by kernel_rfl) (by kernel_rfl) (by kernel_rfl) (fun _ _ _ h => h) (Or.inl ⟨by rfl, fun w => by go_simp⟩) ?_
      simp only [Act.put, List.getElem_toArray, List.getElem_cons_succ, List.getElem_cons_zero, List.setIfInBounds_toArray, List.set_cons_zero, List.set_cons_succ]
      refine wpAny_take (i := 8) (v := .slice (some ⟨G, 0, none⟩) 64 64) rfl (by kernel_rfl) (by kernel_rfl) (by kernel_rfl) (fun _ _ _ h => h) (Or.inl ⟨by rfl, fun w => by go_simp⟩) ?_
      simp only [Act.put, List.getElem_toArray, List.getElem_cons_succ, List.getElem_cons_zero, List.setIfInBounds_toArray, List.set_cons_zero, List.set_cons_succ]
      refine wpAny_take (i := 9) (v := .pointer (some ⟨G, 3, none⟩)) rfl (by kernel_rfl) (by kernel_rfl) (by kernel_rfl) (fun _ _ _ h => h) (Or.inl ⟨by rfl, fun w => by go_simp⟩) ?_
      simp only [Act.put, List.getElem_toArray, List.getElem_cons_succ, List.getElem_cons_zero, List.setIfInBounds_toArray, List.set_cons_zero, List.set_cons_succ]
      refine any_of_L (g := 15) (T := fun u => u.heap[G]? = some (.cells (byC (x0 :: x1 :: x2 :: x3 :: rest)).toArray 5 (0, 0)) ∧ Below w1.heap.size w1 u) _ _ _ _ ?_
      refine L_take (i := 3) (v := .int .u8 (X0 : Int)) rfl rfl (by kernel_rfl) (by decide) (by kernel_rfl) (by kernel_rfl) (by kernel_rfl) (by kernel_rfl) (fun _ _ _ h => h) (Or.inl ⟨by rfl, fun w' hw' => by have c0 := (Hc.out w' hw'.1).1; clear hw'; go_simp⟩) HT.out ?_
      simp only [Act.put, List.getElem_toArray, List.getElem_cons_succ, List.getElem_cons_zero, List.setIfInBounds_toArray, List.set_cons_zero, List.set_cons_succ]
      refine L_take (i := 10) (v := .int .u8 (x3.toNat : Int)) rfl rfl (by kernel_rfl) (by decide) (by kernel_rfl) (by kernel_rfl) (by kernel_rfl) (by kernel_rfl) (fun _ _ _ h => h) (Or.inl ⟨by rfl, fun w' hw' => by have c0 := (Hc.out w' hw'.1).2.2.2; clear hw'; go_simp⟩) HT.out ?_
      simp only [Act.put, List.getElem_toArray, List.getElem_cons_succ, List.getElem_cons_zero, List.setIfInBounds_toArray, List.set_cons_zero, List.set_cons_succ]
      refine L_take (i := 4) (v := .int .i64 (X0 : Int)) rfl rfl (by kernel_rfl) (by decide) (by kernel_rfl) (by kernel_rfl) (by kernel_rfl) (by kernel_rfl) (fun _ _ _ h => h) (Or.inl ⟨by rfl, fun w' hw' => by clear hw'; have hwr : IntKind.i64.wrap (X0 : Int) = X0 := (by rw [IntKind.wrap_i64]; omega); go_simp⟩) HT.out ?_
      simp only [Act.put, List.getElem_toArray, List.getElem_cons_succ, List.getElem_cons_zero, List.setIfInBounds_toArray, List.set_cons_zero, List.set_cons_succ]
      refine L_take (i := 11) (v := .int .u8 0) rfl rfl (by kernel_rfl) (by decide) (by kernel_rfl) (by kernel_rfl) (by kernel_rfl) (by kernel_rfl) (fun _ _ _ h => h) (Or.inl ⟨by rfl, fun w' hw' => by clear hw'; go_simp⟩) HT.out ?_
      simp only [Act.put, List.getElem_toArray, List.getElem_cons_succ, List.getElem_cons_zero, List.setIfInBounds_toArray, List.set_cons_zero, List.set_cons_succ]
      refine L_take (i := 12) (v := .bool false) rfl rfl (by kernel_rfl) (by decide) (by kernel_rfl) (by kernel_rfl) (by kernel_rfl) (by kernel_rfl) (fun _ _ _ h => h) (Or.inl ⟨by rfl, fun w' hw' => by clear hw'; go_simp⟩) HT.out ?_
      simp only [Act.put, List.getElem_toArray, List.getElem_cons_succ, List.getElem_cons_zero, List.setIfInBounds_toArray, List.set_cons_zero, List.set_cons_succ]
      refine L_two (i := 7) (j := 14) (by kernel_rfl) ?_ ?_
      · obtain ⟨_, c1, c2, _⟩ := Hc.out v2 HT.out.1
        have HCw : Hid (Calls _ _ _ v2 _) := HWord.out v2 G (Array.getElem?_eq_some_iff.1 HT.out.1).1 c1 c2
        clear c1 c2
        refine wpOp_step rfl ?_
        intro K hK
        rw [if_pos (by rfl)]
        have hK' : Shut (∀ a w, _ → K a w) := hK
        clear hK
        go_wp2_with fail
        refine HCw.out.mono ?_
        rintro e w3 ⟨rfl, hw3⟩
        have H3 : Hid (w3.heap[G]? = some (.cells (byC (x0 :: x1 :: x2 :: x3 :: rest)).toArray 5 (0, 0)) ∧ Below w1.heap.size w1 w3) := by
          obtain ⟨k2, rfl⟩ := hw3
          exact ⟨HT.out.1, HT.out.2.trans ((Still.drewN v2 k2).below _)⟩
        clear hw3 HCw
        refine hK'.out _ _ ⟨H3.out, ?_⟩
        clear hK' K
        try simp only [Act.put, List.getElem_toArray, List.getElem_cons_succ, List.getElem_cons_zero, List.setIfInBounds_toArray, List.set_cons_zero, List.set_cons_succ]
        refine L_take (i := 13) (v := .agg #[.int .i64 (i : Int), .int .i64 (X0 : Int), .int .i64 (wd : Int), .bool false, .slice none 0 0]) rfl rfl (by kernel_rfl) (by decide) (by kernel_rfl) (by kernel_rfl) (by kernel_rfl) (by kernel_rfl) (fun _ _ _ h => h) ?_ H3.out ?_
        · refine yields_build_run (by rfl) 106 #[(0, .tmp 23), (1, .tmp 27), (2, .tmp 30), (3, .tmp 35)] (by rfl) #[(0, .int .i64 (i : Int)), (1, .int .i64 (X0 : Int)), (2, .int .i64 (wd : Int)), (3, .bool false)] (by simp [Act.eval]) ?_
          exact fun u _ => hbd4 u
        try simp only [Act.put, List.getElem_toArray, List.getElem_cons_succ, List.getElem_cons_zero, List.setIfInBounds_toArray, List.set_cons_zero, List.set_cons_succ]
        refine L_one (i := 14) (by kernel_rfl) ?_
        refine wpOp_step rfl ?_
        intro K hK
        rw [if_pos (by rfl)]
        have hK' : Shut (∀ a w, _ → K a w) := hK
        clear hK
        refine wp_alloc_run 106 (by rfl) (hal _) ?_
        have hW3 := H3.out.2.size
        obtain ⟨B5, hB5⟩ : ∃ B5, w3.heap.size = B5 := ⟨_, rfl⟩
        obtain ⟨V5, hV5⟩ : ∃ V5, w3.alloc (.cells pc0C 106) = V5 := ⟨_, rfl⟩
        have HE5 : Hid (V5.heap[B5]? = some (.cells pc0C 106 (0, 0)) ∧ Below w1.heap.size w1 V5 ∧ w1.heap.size ≤ B5) := by
          rw [← hV5, ← hB5]
          exact ⟨new_heap w3 _, H3.out.2.alloc hW3 _, hW3⟩
        have hT5 : V5.heap[G]? = some (.cells (byC (x0 :: x1 :: x2 :: x3 :: rest)).toArray 5 (0, 0)) ∧ Below w1.heap.size w1 V5 := by
          rw [← hV5]
          exact ⟨(Below.heap_alloc _ _ _ (Array.getElem?_eq_some_iff.1 H3.out.1).1).trans H3.out.1, H3.out.2.alloc hW3 _⟩
        rw [hV5, hB5]
        refine hK'.out _ _ ⟨hT5, ?_⟩
        clear hK' K hT5 hV5
        try simp only [Act.put, List.getElem_toArray, List.getElem_cons_succ, List.getElem_cons_zero, List.setIfInBounds_toArray, List.set_cons_zero, List.set_cons_succ]
        refine L_go (by kernel_rfl) (by kernel_rfl) ?_
        refine wpOp_step rfl ?_
        intro K hK
        rw [if_pos (by rfl)]
        have hK' : Shut (∀ a w, _ → K a w) := hK
        clear hK
        refine wp_store_run 106 (.tmp 8) (.tmp 36) (by rfl) (.pointer (some ⟨B5, 0, none⟩)) (.agg #[.int .i64 (i : Int), .int .i64 (X0 : Int), .int .i64 (wd : Int), .bool false, .slice none 0 0]) (by rfl) (by rfl) (store_pcs (cs := [.int .i64 (i : Int), .int .i64 (X0 : Int), .int .i64 (wd : Int), .bool false, .slice none 0 0]) (cs' := pc0C.toList) rfl rfl (by simp [Value.oneCell']) HE5.out.1) ?_
        refine hK'.out _ _ ?_
        clear hK' K
        refine wpAny_done (by kernel_rfl) ?_ _
        go_wp2_with fail
        go_meet
        exact ⟨B5, rfl, setRow_heap _ _ _ _ _ _ HE5.out.1, setRow_below HE5.out.2.1 HE5.out.2.2, HE5.out.2.2⟩
      · skip
        refine wpOp_step rfl ?_
        intro K hK
        rw [if_pos (by rfl)]
        have hK' : Shut (∀ a w, _ → K a w) := hK
        clear hK
        refine wp_alloc_run 106 (by rfl) (hal _) ?_
        have hW2 := HT.out.2.size
        obtain ⟨B5, hB5⟩ : ∃ B5, v2.heap.size = B5 := ⟨_, rfl⟩
        obtain ⟨V4, hV4⟩ : ∃ V4, v2.alloc (.cells pc0C 106) = V4 := ⟨_, rfl⟩
        have HE4 : Hid (V4.heap[B5]? = some (.cells pc0C 106 (0, 0)) ∧ Below w1.heap.size w1 V4 ∧ w1.heap.size ≤ B5 ∧ V4.heap[G]? = some (.cells (byC (x0 :: x1 :: x2 :: x3 :: rest)).toArray 5 (0, 0))) := by
          rw [← hV4, ← hB5]
          exact ⟨new_heap v2 _, HT.out.2.alloc hW2 _, hW2, (Below.heap_alloc _ _ _ (Array.getElem?_eq_some_iff.1 HT.out.1).1).trans HT.out.1⟩
        rw [hV4, hB5]
        refine hK'.out _ _ ⟨⟨HE4.out.2.2.2, HE4.out.2.1⟩, ?_⟩
        clear hK' K hV4
        try simp only [Act.put, List.getElem_toArray, List.getElem_cons_succ, List.getElem_cons_zero, List.setIfInBounds_toArray, List.set_cons_zero, List.set_cons_succ]
        refine L_one (i := 7) (by kernel_rfl) ?_
        obtain ⟨_, c1, c2, _⟩ := Hc.out V4 HE4.out.2.2.2
        have HCw : Hid (Calls _ _ _ V4 _) := HWord.out V4 G (Array.getElem?_eq_some_iff.1 HE4.out.2.2.2).1 c1 c2
        clear c1 c2
        refine wpOp_step rfl ?_
        intro K hK
        rw [if_pos (by rfl)]
        have hK' : Shut (∀ a w, _ → K a w) := hK
        clear hK
        go_wp2_with fail
        refine HCw.out.mono ?_
        rintro e w3 ⟨rfl, hw3⟩
        have H3 : Hid (w3.heap[B5]? = some (.cells pc0C 106 (0, 0)) ∧ w3.heap[G]? = some (.cells (byC (x0 :: x1 :: x2 :: x3 :: rest)).toArray 5 (0, 0)) ∧ Below w1.heap.size w1 w3) := by
          obtain ⟨k2, rfl⟩ := hw3
          exact ⟨HE4.out.1, HE4.out.2.2.2, HE4.out.2.1.trans ((Still.drewN V4 k2).below _)⟩
        clear hw3 HCw
        refine hK'.out _ _ ⟨H3.out.2, ?_⟩
        clear hK' K
        try simp only [Act.put, List.getElem_toArray, List.getElem_cons_succ, List.getElem_cons_zero, List.setIfInBounds_toArray, List.set_cons_zero, List.set_cons_succ]
        refine L_take (i := 13) (v := .agg #[.int .i64 (i : Int), .int .i64 (X0 : Int), .int .i64 (wd : Int), .bool false, .slice none 0 0]) rfl rfl (by kernel_rfl) (by decide) (by kernel_rfl) (by kernel_rfl) (by kernel_rfl) (by kernel_rfl) (fun _ _ _ h => h) ?_ H3.out.2 ?_
        · refine yields_build_run (by rfl) 106 #[(0, .tmp 23), (1, .tmp 27), (2, .tmp 30), (3, .tmp 35)] (by rfl) #[(0, .int .i64 (i : Int)), (1, .int .i64 (X0 : Int)), (2, .int .i64 (wd : Int)), (3, .bool false)] (by simp [Act.eval]) ?_
          exact fun u _ => hbd4 u
        try simp only [Act.put, List.getElem_toArray, List.getElem_cons_succ, List.getElem_cons_zero, List.setIfInBounds_toArray, List.set_cons_zero, List.set_cons_succ]
        refine L_go (by kernel_rfl) (by kernel_rfl) ?_
        refine wpOp_step rfl ?_
        intro K hK
        rw [if_pos (by rfl)]
        have hK' : Shut (∀ a w, _ → K a w) := hK
        clear hK
        refine wp_store_run 106 (.tmp 8) (.tmp 36) (by rfl) (.pointer (some ⟨B5, 0, none⟩)) (.agg #[.int .i64 (i : Int), .int .i64 (X0 : Int), .int .i64 (wd : Int), .bool false, .slice none 0 0]) (by rfl) (by rfl) (store_pcs (cs := [.int .i64 (i : Int), .int .i64 (X0 : Int), .int .i64 (wd : Int), .bool false, .slice none 0 0]) (cs' := pc0C.toList) rfl rfl (by simp [Value.oneCell']) H3.out.1) ?_
        refine hK'.out _ _ ?_
        clear hK' K
        refine wpAny_done (by kernel_rfl) ?_ _
        go_wp2_with fail
        go_meet
        exact ⟨B5, rfl, setRow_heap _ _ _ _ _ _ H3.out.1, setRow_below H3.out.2.2 HE4.out.2.2.1, HE4.out.2.2.1⟩
  case rest =>
    obtain ⟨B5, rfl, HX⟩ := hcut
    clear HWord Hc d3
    have Hfacts : Hid (∀ u, Below wc.heap.size wc u → (u.cell? ⟨B5, 1, none⟩ = some (.int .i64 (X0 : Int)) ∧ u.cell? ⟨W.heap.size, 0, none⟩ = some (.pointer (some ⟨p, 0, none⟩)) ∧ u.cell? ⟨W.heap.size, 1, none⟩ = some (.int .i64 (fr : Int)) ∧ u.cell? ⟨W.heap.size, 2, none⟩ = some (.int .i64 (mn : Int))) ∧ u.cell? ⟨G, 3, none⟩ = some (.int .u8 (x3.toNat : Int)) ∧ u.heap[B5]? = some (.cells #[.int .i64 (i : Int), .int .i64 (X0 : Int), .int .i64 (wd : Int), .bool fb, .slice none 0 0] 106 (0, 0)) ∧ u.heap[W.heap.size + 1]? = some (.cells pc0C 106 (0, 0)) ∧ u.heap[G]? = some (.cells (byC (x0 :: x1 :: x2 :: x3 :: rest)).toArray 5 (0, 0)) ∧ Below W.heap.size W u) := by
      intro u hu
      obtain ⟨h1, h2, h3⟩ := HX.out
      have hB5 := (Array.getElem?_eq_some_iff.1 h1).1
      have hw1 := HBW1.out.size
      have hG := HG1.out
      have hBW0 := HBW0.out
      have hs := h2.size
      have g5 := (hu.block B5 hB5).trans h1
      have ga := (hu.block W.heap.size (by omega)).trans ((h2.block W.heap.size (by omega)).trans Hra1.out)
      have gz := (hu.block (W.heap.size + 1) (by omega)).trans ((h2.block (W.heap.size + 1) (by omega)).trans Hr1.out)
      have gG := (hu.block G (by omega)).trans ((h2.block G (by omega)).trans Hrow.out)
      refine ⟨⟨by simp [World.cell?, g5], by simp [World.cell?, ga], by simp [World.cell?, ga], by simp [World.cell?, ga]⟩, ?_, g5, gz, gG, HBW1.out.trans ((h2.mono hw1).trans (hu.mono (by omega)))⟩
      rw [cell_of_row _ _ _ _ _ (0, 0) gG]; rfl
    obtain ⟨⟨a1, a2, a3, a4⟩, a5, _⟩ := Hfacts.out wc (Below.refl _ _)
    have HB5 : Hid (W.heap.size + 1 < B5) := by
      have h1 := HX.out.2.2
      have h2 := HG1.out
      have h3 := HBW0.out
      unfold Hid
      omega
    clear HBW1 HG1 HBW0 Hra1 Hr1 HRow HX Hrow
    obtain ⟨Y, hY⟩ : ∃ Y : Nat, X0 * 60 = Y := ⟨_, rfl⟩
    have hw60 : IntKind.i64.wrap ((X0 : Int) * 60) = (Y : Int) := by rw [IntKind.wrap_i64]; omega
    rw [hY] at hpv'
    obtain ⟨b1, hb1⟩ : ∃ b1, decide ((ms : Int) ≤ (Y : Int)) = b1 := ⟨_, rfl⟩
    obtain ⟨b2, hb2⟩ : ∃ b2, decide ((k : Int) < 1) = b2 := ⟨_, rfl⟩
    obtain ⟨b3, hb3⟩ : ∃ b3, decide ((60 : Int) < (k : Int)) = b3 := ⟨_, rfl⟩
    have Hb : Hid ((ms ≤ Y ∨ k < 1 ∨ 60 < k) ↔ (b1 || (b2 || b3)) = true) := by
      unfold Hid
      rw [← hb1, ← hb2, ← hb3]
      simp only [Bool.or_eq_true, decide_eq_true_eq]
      omega
    have y0 : (0 : Int) ≤ Y := by omega
    have y1 : (Y : Int) ≤ 100000 := by omega
    clear hY
    go_upto_region 6 with fail
    go_cut [55] from 42 to 54 (fun t wx => t = .bool (b1 || (b2 || b3)) ∧ Hid (Below wc.heap.size wc wx))
    case first =>
      have HT : Hid (Below wc.heap.size wc wc.drew) := ⟨rfl, rfl, rfl, Nat.le_refl _, fun _ _ => rfl⟩
      clear a1 a2 a3 a4 a5
      refine wp_region_drawn (by kernel_rfl) ?_
      generalize wc.drew = v2 at *
      refine wpAny_take (i := 0) (v := .pointer (some ⟨B5, 1, none⟩)) rfl (by kernel_rfl) (by kernel_rfl) (by kernel_rfl) (fun _ _ _ h => h) (Or.inl ⟨by rfl, fun w => by go_simp⟩) ?_
      simp only [Act.put, List.getElem_toArray, List.getElem_cons_succ, List.getElem_cons_zero, List.setIfInBounds_toArray, List.set_cons_zero, List.set_cons_succ]
      refine any_of_L (g := 5) (T := fun u => Below wc.heap.size wc u) _ _ _ _ ?_
      refine L_take2 (i := 1) (m := 2) (v := .int .i64 (X0 : Int)) rfl rfl rfl (by kernel_rfl) (by kernel_rfl) (by decide) (by kernel_rfl) (by kernel_rfl) (by kernel_rfl) (by kernel_rfl) (by kernel_rfl) (fun _ _ _ h => h) (Or.inl ⟨by rfl, fun w' hw' => by have c0 := (Hfacts.out w' hw').1.1; clear hw'; go_simp⟩) HT.out ?_
      simp only [Act.put, List.getElem_toArray, List.getElem_cons_succ, List.getElem_cons_zero, List.setIfInBounds_toArray, List.set_cons_zero, List.set_cons_succ]
      refine L_take (i := 2) (v := .int .i64 (Y : Int)) rfl rfl (by kernel_rfl) (by decide) (by kernel_rfl) (by kernel_rfl) (by kernel_rfl) (by kernel_rfl) (fun _ _ _ h => h) (Or.inl ⟨by rfl, fun w' hw' => by clear hw'; go_simp⟩) HT.out ?_
      simp only [Act.put, List.getElem_toArray, List.getElem_cons_succ, List.getElem_cons_zero, List.setIfInBounds_toArray, List.set_cons_zero, List.set_cons_succ]
      refine L_take2 (i := 3) (m := 4) (v := .agg #[.pointer (some ⟨p, 0, none⟩), .int .i64 (fr : Int), .int .i64 (mn : Int)]) rfl rfl rfl (by kernel_rfl) (by kernel_rfl) (by decide) (by kernel_rfl) (by kernel_rfl) (by kernel_rfl) (by kernel_rfl) (by kernel_rfl) (fun _ _ _ h => h) (Or.inl ⟨by rfl, fun w' hw' => by obtain ⟨_, c0, c1, c2⟩ := (Hfacts.out w' hw').1; clear hw'; go_simp⟩) HT.out ?_
      simp only [Act.put, List.getElem_toArray, List.getElem_cons_succ, List.getElem_cons_zero, List.setIfInBounds_toArray, List.set_cons_zero, List.set_cons_succ]
      refine L_one (i := 4) (by kernel_rfl) ?_
      have HSz : Hid (Calls _ _ _ v2 _) := HSize.out v2
      refine wpOp_step rfl ?_
      intro K hK
      rw [if_pos (by rfl)]
      have hK' : Shut (∀ a w, _ → K a w) := hK
      clear hK
      go_wp2_with fail
      refine HSz.out.mono ?_
      rintro e w3 ⟨rfl, hb3'⟩
      have H3 : Hid (Below wc.heap.size wc w3) := HT.out.trans (hb3'.mono HT.out.size)
      clear hb3' HSz
      refine hK'.out _ _ ⟨H3.out, ?_⟩
      clear hK' K
      try simp only [Act.put, List.getElem_toArray, List.getElem_cons_succ, List.getElem_cons_zero, List.setIfInBounds_toArray, List.set_cons_zero, List.set_cons_succ]
      refine L_go (by kernel_rfl) (by kernel_rfl) ?_
      refine wpOp_step rfl ?_
      intro K hK
      rw [if_pos (by rfl)]
      have hK' : Shut (∀ a w, _ → K a w) := hK
      clear hK
      go_wp2_with fail
      refine hK'.out _ _ ?_
      clear hK' K
      try simp only [Act.put, List.getElem_toArray, List.getElem_cons_succ, List.getElem_cons_zero, List.setIfInBounds_toArray, List.set_cons_zero, List.set_cons_succ]
      cases b1
      · have hn1 : Y < ms := by have := of_decide_eq_false hb1; omega
        refine wpAny_take (i := 6) (v := .bool false) rfl (by kernel_rfl) (by kernel_rfl) (by kernel_rfl) (fun _ _ _ h => h) (Or.inl ⟨by rfl, fun w => by go_simp⟩) ?_
        simp only [Act.put, List.getElem_toArray, List.getElem_cons_succ, List.getElem_cons_zero, List.setIfInBounds_toArray, List.set_cons_zero, List.set_cons_succ]
        refine wpAny_take (i := 7) (v := .int .i64 (k : Int)) rfl (by kernel_rfl) (by kernel_rfl) (by kernel_rfl) (fun _ _ _ h => h) (Or.inl ⟨by rfl, fun w => by go_simp⟩) ?_
        simp only [Act.put, List.getElem_toArray, List.getElem_cons_succ, List.getElem_cons_zero, List.setIfInBounds_toArray, List.set_cons_zero, List.set_cons_succ]
        refine wpAny_take (i := 8) (v := .bool b2) rfl (by kernel_rfl) (by kernel_rfl) (by kernel_rfl) (fun _ _ _ h => h) (Or.inl ⟨by rfl, fun w => by go_simp⟩) ?_
        simp only [Act.put, List.getElem_toArray, List.getElem_cons_succ, List.getElem_cons_zero, List.setIfInBounds_toArray, List.set_cons_zero, List.set_cons_succ]
        refine wpAny_take (i := 9) (v := .bool b2) rfl (by kernel_rfl) (by kernel_rfl) (by kernel_rfl) (fun _ _ _ h => h) (Or.inl ⟨by rfl, fun w => by go_simp⟩) ?_
        simp only [Act.put, List.getElem_toArray, List.getElem_cons_succ, List.getElem_cons_zero, List.setIfInBounds_toArray, List.set_cons_zero, List.set_cons_succ]
        refine wpAny_take (i := 10) (v := .bool b2) rfl (by kernel_rfl) (by kernel_rfl) (by kernel_rfl) (fun _ _ _ h => h) (Or.inl ⟨by rfl, fun w => by go_simp⟩) ?_
        simp only [Act.put, List.getElem_toArray, List.getElem_cons_succ, List.getElem_cons_zero, List.setIfInBounds_toArray, List.set_cons_zero, List.set_cons_succ]
        cases b2
        · skip
          refine wpAny_take (i := 11) (v := .int .i64 (k : Int)) rfl (by kernel_rfl) (by kernel_rfl) (by kernel_rfl) (fun _ _ _ h => h) (Or.inl ⟨by rfl, fun w => by go_simp⟩) ?_
          simp only [Act.put, List.getElem_toArray, List.getElem_cons_succ, List.getElem_cons_zero, List.setIfInBounds_toArray, List.set_cons_zero, List.set_cons_succ]
          refine wpAny_take (i := 12) (v := .bool b3) rfl (by kernel_rfl) (by kernel_rfl) (by kernel_rfl) (fun _ _ _ h => h) (Or.inl ⟨by rfl, fun w => by go_simp⟩) ?_
          simp only [Act.put, List.getElem_toArray, List.getElem_cons_succ, List.getElem_cons_zero, List.setIfInBounds_toArray, List.set_cons_zero, List.set_cons_succ]
          refine wpAny_take (i := 13) (v := .bool b3) rfl (by kernel_rfl) (by kernel_rfl) (by kernel_rfl) (fun _ _ _ h => h) (Or.inl ⟨by rfl, fun w => by go_simp⟩) ?_
          simp only [Act.put, List.getElem_toArray, List.getElem_cons_succ, List.getElem_cons_zero, List.setIfInBounds_toArray, List.set_cons_zero, List.set_cons_succ]
          refine wpAny_done (by kernel_rfl) ?_ _
          go_wp2_with fail
          go_meet
          exact ⟨by simp, H3⟩
        · skip
          refine wpAny_take (i := 11) (v := undef) rfl (by kernel_rfl) (by kernel_rfl) (by kernel_rfl) (fun _ _ _ h => h) (Or.inr ⟨by rfl, rfl⟩) ?_
          simp only [Act.put, List.getElem_toArray, List.getElem_cons_succ, List.getElem_cons_zero, List.setIfInBounds_toArray, List.set_cons_zero, List.set_cons_succ]
          refine wpAny_take (i := 12) (v := undef) rfl (by kernel_rfl) (by kernel_rfl) (by kernel_rfl) (fun _ _ _ h => h) (Or.inr ⟨by rfl, rfl⟩) ?_
          simp only [Act.put, List.getElem_toArray, List.getElem_cons_succ, List.getElem_cons_zero, List.setIfInBounds_toArray, List.set_cons_zero, List.set_cons_succ]
          refine wpAny_take (i := 13) (v := .bool true) rfl (by kernel_rfl) (by kernel_rfl) (by kernel_rfl) (fun _ _ _ h => h) (Or.inl ⟨by rfl, fun w => by go_simp⟩) ?_
          simp only [Act.put, List.getElem_toArray, List.getElem_cons_succ, List.getElem_cons_zero, List.setIfInBounds_toArray, List.set_cons_zero, List.set_cons_succ]
          refine wpAny_done (by kernel_rfl) ?_ _
          go_wp2_with fail
          go_meet
          exact ⟨by simp, H3⟩
      · have hn1 : ms ≤ Y := by have := of_decide_eq_true hb1; omega
        refine wpAny_take (i := 6) (v := .bool true) rfl (by kernel_rfl) (by kernel_rfl) (by kernel_rfl) (fun _ _ _ h => h) (Or.inl ⟨by rfl, fun w => by go_simp⟩) ?_
        simp only [Act.put, List.getElem_toArray, List.getElem_cons_succ, List.getElem_cons_zero, List.setIfInBounds_toArray, List.set_cons_zero, List.set_cons_succ]
        refine wpAny_take (i := 7) (v := undef) rfl (by kernel_rfl) (by kernel_rfl) (by kernel_rfl) (fun _ _ _ h => h) (Or.inr ⟨by rfl, rfl⟩) ?_
        simp only [Act.put, List.getElem_toArray, List.getElem_cons_succ, List.getElem_cons_zero, List.setIfInBounds_toArray, List.set_cons_zero, List.set_cons_succ]
        refine wpAny_take (i := 8) (v := undef) rfl (by kernel_rfl) (by kernel_rfl) (by kernel_rfl) (fun _ _ _ h => h) (Or.inr ⟨by rfl, rfl⟩) ?_
        simp only [Act.put, List.getElem_toArray, List.getElem_cons_succ, List.getElem_cons_zero, List.setIfInBounds_toArray, List.set_cons_zero, List.set_cons_succ]
        refine wpAny_take (i := 9) (v := .bool true) rfl (by kernel_rfl) (by kernel_rfl) (by kernel_rfl) (fun _ _ _ h => h) (Or.inl ⟨by rfl, fun w => by go_simp⟩) ?_
        simp only [Act.put, List.getElem_toArray, List.getElem_cons_succ, List.getElem_cons_zero, List.setIfInBounds_toArray, List.set_cons_zero, List.set_cons_succ]
        refine wpAny_take (i := 10) (v := .bool true) rfl (by kernel_rfl) (by kernel_rfl) (by kernel_rfl) (fun _ _ _ h => h) (Or.inl ⟨by rfl, fun w => by go_simp⟩) ?_
        simp only [Act.put, List.getElem_toArray, List.getElem_cons_succ, List.getElem_cons_zero, List.setIfInBounds_toArray, List.set_cons_zero, List.set_cons_succ]
        refine wpAny_take (i := 11) (v := undef) rfl (by kernel_rfl) (by kernel_rfl) (by kernel_rfl) (fun _ _ _ h => h) (Or.inr ⟨by rfl, rfl⟩) ?_
        simp only [Act.put, List.getElem_toArray, List.getElem_cons_succ, List.getElem_cons_zero, List.setIfInBounds_toArray, List.set_cons_zero, List.set_cons_succ]
        refine wpAny_take (i := 12) (v := undef) rfl (by kernel_rfl) (by kernel_rfl) (by kernel_rfl) (fun _ _ _ h => h) (Or.inr ⟨by rfl, rfl⟩) ?_
        simp only [Act.put, List.getElem_toArray, List.getElem_cons_succ, List.getElem_cons_zero, List.setIfInBounds_toArray, List.set_cons_zero, List.set_cons_succ]
        refine wpAny_take (i := 13) (v := .bool true) rfl (by kernel_rfl) (by kernel_rfl) (by kernel_rfl) (fun _ _ _ h => h) (Or.inl ⟨by rfl, fun w => by go_simp⟩) ?_
        simp only [Act.put, List.getElem_toArray, List.getElem_cons_succ, List.getElem_cons_zero, List.setIfInBounds_toArray, List.set_cons_zero, List.set_cons_succ]
        refine wpAny_done (by kernel_rfl) ?_ _
        go_wp2_with fail
        go_meet
        exact ⟨by simp, H3⟩
    case rest =>
      obtain ⟨rfl, HX2⟩ := hcut
      rename World => wd2
      obtain ⟨_, _, g5, gz, gG, hbW⟩ := Hfacts.out wd2 HX2.out
      have hne1 : W.heap.size + 1 < B5 := HB5.out
      have Hb' := Hb.out
      clear hb1 hb2 hb3 Hb HSize HX2 Hfacts a1 a2 a3 a4 a5 hw60
      generalize (b1 || (b2 || b3)) = bb at *
      cases bb
      · have hnb : ¬ (ms ≤ Y ∨ k < 1 ∨ 60 < k) := fun h => by have := Hb'.1 h; cases this
        rw [if_neg hnb] at hpv'
        have HK : Hid (1 ≤ k ∧ k ≤ 60) := by unfold Hid; omega
        have k3 : (4 : Int) + k ≤ 64 := by omega
        have k4 : (4 : Int) ≤ 4 + k := by omega
        have c4 : wd2.cell? ⟨B5, 4, none⟩ = some (.slice none 0 0) := by simp [World.cell?, g5]
        have f4 : wd2.frozen? ⟨B5, 4, none⟩ = false := by simp [World.frozen?, g5]
        have hneG : B5 ≠ G := fun e => by rw [e, gG] at g5; cases g5
        obtain ⟨PM, hPM⟩ : ∃ PM : Pm, PM = ⟨i, ⟨X0, wd, fb, rest.take k⟩, some ⟨G, 4, none⟩, 60⟩ := ⟨_, rfl⟩
        have hkl : (rest.take k).length = k := by rw [List.length_take]; have := HK.out; omega
        have hcl : PM.cells = [.int .i64 (i : Int), .int .i64 (X0 : Int), .int .i64 (wd : Int), .bool fb, .slice (some ⟨G, 4, none⟩) k 60] := by
          rw [hPM]; simp only [Pm.cells, hkl]
        obtain ⟨wd3, hwd3⟩ : ∃ wd3, wd2.setCell ⟨B5, 4, none⟩ (.slice (some ⟨G, 4, none⟩) k 60) = wd3 := ⟨_, rfl⟩
        have g5' : wd3.heap[B5]? = some (.cells PM.cells.toArray 106 (0, 0)) := by
          rw [← hwd3, setCell_eq_setRow wd2 B5 4 _ _ (0, 0) _ g5, setRow_heap wd2 B5 _ _ _ (0, 0) g5, hcl]
          rfl
        have gz' : wd3.heap[W.heap.size + 1]? = some (.cells pc0C 106 (0, 0)) := by
          rw [← hwd3, Below.heap_setCell _ _ _ _ (by simp only; omega)]; exact gz
        have gG' : wd3.heap[G]? = some (.cells (byC (x0 :: x1 :: x2 :: x3 :: rest)).toArray 5 (0, 0)) := by
          rw [← hwd3, Below.heap_setCell _ _ _ _ (fun e => hneG e.symm)]; exact gG
        have hbW' : Below W.heap.size W wd3 := by
          rw [← hwd3]; exact hbW.setCell (by simp only; omega) _
        have hld := load_pm PM (range0 g5')
        have hst := store_pcs (cs := PM.cells) (cs' := pc0C.toList) PM.cells_length rfl PM.cells_one gz'
        have HE : Hid ((wd3.setRow (W.heap.size + 1) PM.cells.toArray).heap[W.heap.size + 1]? = some (.cells PM.cells.toArray 106 (0, 0)) ∧ Below W.heap.size W (wd3.setRow (W.heap.size + 1) PM.cells.toArray) ∧ Pm.ok (wd3.setRow (W.heap.size + 1) PM.cells.toArray) PM) := by
          have hGz : G ≠ W.heap.size + 1 := fun e => by rw [e, gz'] at gG'; cases gG'
          refine ⟨setRow_heap _ _ _ _ _ _ gz', setRow_below hbW' (by omega), ?_, by rw [hPM]; simp⟩
          rw [hPM]
          have gG2 := (setRow_other wd3 (W.heap.size + 1) G PM.cells.toArray hGz).trans gG'
          rw [hPM] at gG2
          refine ⟨some ⟨G, 4, none⟩, 60, rfl, by simp only [hkl]; have := HK.out; omega, (fun e => by cases e), .inr ⟨G, 4, _, rfl, gG2, fun j hj => ?_⟩⟩
          rw [List.getElem?_toArray]
          simp only [hkl] at hj
          have hj2 : j < rest.length := by rw [hrest]; have := HK.out; omega
          rw [Nat.add_comm 4 j, byC_get _ (j + 4) (by simp; omega)]
          simp
        have HPV : Hid (some PM.q = pv) := by rw [hPM]; exact hpv'
        have HPA : Hid (PM.at_ = i) := by rw [hPM]; rfl
        clear g5 gz gG hbW g5' gz' gG' hbW' hPM Hb' hpv' hcl hkl
        go_wp2_with (first | (refine wpList_load_run rfl 106 _ rfl _ (by rfl) hld ?_) | (refine wpList_store_run rfl 106 _ _ rfl _ _ (by rfl) (by rfl) hst ?_))
        refine bodyPost_ret (pc_results (cs := PM.cells) rfl _ PM.cells_length (by rfl) HE.out.1) rfl ?_
        refine ⟨.inr ⟨PM.q, PM.a, PM.cap, HPV.out.symm, ?_, ?_⟩, HE.out.2.1⟩
        · rw [← HPA.out]; rfl
        · rw [← HPA.out]; exact HE.out.2.2
      · have hnb : ms ≤ Y ∨ k < 1 ∨ 60 < k := Hb'.2 rfl
        rw [if_pos hnb] at hpv'
        have hst := store_pcs (cs := pc0C.toList) (cs' := pc0C.toList) rfl rfl (by decide) gz
        have HE : Hid ((wd2.setRow (W.heap.size + 1) pc0C).heap[W.heap.size + 1]? = some (.cells pc0C 106 (0, 0)) ∧ Below W.heap.size W (wd2.setRow (W.heap.size + 1) pc0C)) := ⟨setRow_heap _ _ _ _ _ _ gz, setRow_below hbW (by omega)⟩
        clear g5 gz gG hbW Hb' hnb
        go_wp2_with (first | (refine wpList_build_run rfl 106 #[] rfl #[] (by simp) (hbd _) ?_) | (refine wpList_store_run rfl 106 _ _ rfl _ _ (by rfl) (by rfl) hst ?_))
        refine bodyPost_ret (pc_results (cs := pc0C.toList) rfl _ rfl (by rfl) HE.out.1) rfl ?_
        exact ⟨.inl ⟨hpv'.symm, rfl⟩, HE.out.2⟩
end
end Go.Proofs.Ytijjegkkeigeoaa
