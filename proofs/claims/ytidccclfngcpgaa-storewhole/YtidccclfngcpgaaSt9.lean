/-
  The contracts of store.Open, Put and Get.
-/
import Derived.Test.YtidccclfngcpgaaSt8
namespace Go.Proofs.Ytidccclfngcpgaa
set_option linter.unusedVariables false
set_option linter.unusedSimpArgs false
set_option maxRecDepth 100000
open Go.RowKit Go.Lib
theorem build_store' (p blk : Nat) (turn : UInt8) (ver : Nat) (f : Nat → UInt8) (mb : Nat) (w : World) : (Instr.build 55 #[(0, .pointer (some ⟨p, 0, none⟩)), (1, .agg (Hd.mk blk turn ver ((List.range 40).map f)).cells.toArray), (2, .map (some mb))]).run Try.prog w = .ok (.agg (stCells p (Hd.mk blk turn ver ((List.range 40).map f)) mb false).toArray) w := by
  refine run_build w 55 _ _ ?_
  kernel_rfl
theorem whr_fn {l : List UInt8} (h : l.length = 40) : (List.range 40).map (fun i => l.getD i 0) = l := by
  apply List.ext_getElem
  · simp [h]
  · intro i h1 h2
    simp [List.getD_eq_getElem?_getD, List.getElem?_eq_getElem h2]
theorem build_store (p : Nat) (h : Hd) (k : h.ok) (mb : Nat) (w : World) : (Instr.build 55 #[(0, .pointer (some ⟨p, 0, none⟩)), (1, .agg h.cells.toArray), (2, .map (some mb))]).run Try.prog w = .ok (.agg (stCells p h mb false).toArray) w := by
  have := build_store' p h.blk h.turn h.ver (fun i => h.whr.getD i 0) mb w
  rw [whr_fn k.w] at this
  exact this
theorem newer_ok {D : Dk} {o0 o1 : Option Hd} (h0 : hdAt D 0 o0) (h1 : hdAt D 1 o1) : ∀ x, newer o0 o1 = some x → x.ok := fun x e => by
  unfold newer at e
  cases o1 with
  | none => exact hdAt_ok h0 x e
  | some y =>
    cases o0 with
    | none => exact hdAt_ok h1 x e
    | some z =>
      simp only at e
      split at e
      · exact hdAt_ok h1 x e
      · exact hdAt_ok h0 x e
section
variable {w W : World} {p nb sb : Nat} {cv : Value} {n : Nat} {D : Dk}
theorem open_few (a : Tn w W p nb sb cv n D) (hn : n < 90) :
    Calls Try.prog 6 #[.pointer (some ⟨p, 0, none⟩)] W fun e w' => e = .returned (.tuple #[.pointer none, enE 4]) ∧ Hid (Still W w') := by
  have HB : Hid (Calls _ _ _ _ _) := blocks_any a
  have n1 : (n : Int) < 90 := by omega
  rw [enE_ne (by decide)]
  clear a
  go_enter Try.func6, Try.ntmps6
  go_wp2_with fail
  refine HB.out.mono ?_
  rintro e w1 ⟨rfl, hs⟩
  go_wp2
  go_ret2
  exact ⟨rfl, hs⟩
set_option maxHeartbeats 2000000 in
theorem open_some (a : Tn w W p nb sb cv n D) (hn : 90 ≤ n) (o0 o1 : Option Hd) (h0 : hdAt D 0 o0) (h1 : hdAt D 1 o1) (x : Hd) (hx : newer o0 o1 = some x) :
    Calls Try.prog 6 #[.pointer (some ⟨p, 0, none⟩)] W fun e w' => ∃ s mb, e = .returned (.tuple #[.pointer (some ⟨s, 0, none⟩), .nilIface]) ∧ Hid (StAt w w' p nb sb cv n D s mb x [] false) ∧ Hid (Below W.heap.size W w') := by
  have HB : Hid (Calls _ _ _ _ _) := blocks_any a
  have n1 : ¬ (n : Int) < 90 := by omega
  have HN : Hid (∀ U, Still W U → Calls _ _ _ U _) := fun U hU => newest_any (a.still hU) (by omega) o0 o1 h0 h1
  have hal := alloc_head
  have ko : x.ok := newer_ok h0 h1 x hx
  rw [hx] at HN
  rw [show hdV (some x) = .agg x.cells.toArray from rfl, show (some x).isSome = true from rfl] at HN
  have Ha : Hid (Tn w W p nb sb cv n D) := a
  have hst := fun U => run_storeAt_new (P := Try.prog) U 50 hd0.cells.toArray x.cells.toArray (by rw [List.size_toArray, Hd.cells_length ko]; exact head_size) (by rw [List.size_toArray, List.size_toArray, Hd.cells_length hd0_ok, Hd.cells_length ko]) (all_oneCell_toArray (Hd.cells_one _))
  obtain ⟨C0, hC0⟩ : ∃ C0, hd0.cells.toArray = C0 := ⟨_, rfl⟩
  rw [hC0] at hal hst
  have hmm := @run_makeMap Try.prog
  have hbd := fun mb U => build_store p x ko mb U
  clear a h0 h1 hx hC0
  go_enter Try.func6, Try.ntmps6
  go_wp2_with fail
  refine HB.out.mono ?_
  rintro e w1 ⟨rfl, hs1⟩
  clear HB
  go_wp2_with fail
  refine (HN.out w1 hs1).mono ?_
  rintro e w2 ⟨rfl, hb2⟩
  clear HN
  have hbW : Below W.heap.size W w2 := (hs1.below _).trans (hb2.out.mono (by rw [hs1.heap]; exact Nat.le_refl _))
  obtain ⟨v2, hv2⟩ : ∃ v2, w2.alloc (.cells x.cells.toArray 50) = v2 := ⟨_, rfl⟩
  have hB2 : Below W.heap.size W v2 := by rw [← hv2]; exact hbW.alloc hbW.size _
  have hld := load_head (u := v2) (B := w2.heap.size) (o := 0) ko (range0 (t := 50) (by rw [← hv2]; exact new_heap w2 _))
  have hst2 := hst w2
  rw [hv2] at hst2
  have hs2 : v2.heap.size = w2.heap.size + 1 := by rw [← hv2]; simp
  have HE : Hid (StAt w ((v2.alloc (.map #[] 0)).alloc (.cells (stCells p x v2.heap.size false).toArray 55)) p nb sb cv n D (v2.heap.size + 1) v2.heap.size x [] false ∧ Below W.heap.size W ((v2.alloc (.map #[] 0)).alloc (.cells (stCells p x v2.heap.size false).toArray 55))) := by
    have hb5 : Below W.heap.size W ((v2.alloc (.map #[] 0)).alloc (.cells (stCells p x v2.heap.size false).toArray 55)) := (hB2.alloc hB2.size _).alloc (by have := hB2.size; simp; omega) _
    have e1 : (v2.alloc (.map #[] 0)).heap.size = v2.heap.size + 1 := by simp
    have hmb : ((v2.alloc (.map #[] 0)).alloc (.cells (stCells p x v2.heap.size false).toArray 55)).heap[v2.heap.size]? = some (.map #[] 0) := (Below.heap_alloc _ _ _ (by rw [e1]; exact Nat.lt_succ_self _)).trans (new_heap v2 _)
    have hsb : ((v2.alloc (.map #[] 0)).alloc (.cells (stCells p x v2.heap.size false).toArray 55)).heap[v2.heap.size + 1]? = some (.cells (stCells p x v2.heap.size false).toArray 55 (0, 0)) := by rw [← e1]; exact new_heap _ _
    have hw1 := Ha.out.2.size
    have hw2 := hB2.size
    exact ⟨⟨Ha.out.below hb5, hsb, by omega, by omega, ⟨#[], 0, hmb, .nil⟩, ko⟩, hb5⟩
  clear hs1 hb2 hbW hst hv2 hB2
  generalize hA : x.cells.toArray = A0 at *
  clear hA
  go_wp2_with (first | (refine wpList_alloc_run rfl 50 rfl (hal _) ?_) | (refine wpList_store_run rfl 50 _ _ rfl _ _ (by rfl) (by rfl) hst2 ?_) | (refine wpList_load_run rfl 50 _ rfl _ (by rfl) hld ?_) | (refine wpList_build_run rfl 55 #[(0, .tmp 18), (1, .tmp 19), (2, .tmp 20)] rfl #[(0, .pointer (some ⟨p, 0, none⟩)), (1, .agg A0), (2, .map (some v2.heap.size))] (by simp [Act.eval, hs2]) (hbd _ _) ?_))
  rw [← hs2]
  go_ret2
  exact ⟨v2.heap.size + 1, v2.heap.size, rfl, HE.out.1, HE.out.2⟩
end
end Go.Proofs.Ytidccclfngcpgaa
