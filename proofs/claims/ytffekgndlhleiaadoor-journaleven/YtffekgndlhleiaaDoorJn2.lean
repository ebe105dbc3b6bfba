/-
  The contracts of slices.Clone (of lines), journal.apart, New, Len, Has, isAsked.
-/
import Derived.Test.YtffekgndlhleiaaDoorJn1
namespace Go.Proofs.YtffekgndlhleiaaDoor
set_option linter.unusedVariables false
set_option linter.unusedSimpArgs false
set_option maxRecDepth 100000
open Go.RowKit Go.Lib

theorem jln_src {W : World} {b off : Nat} {l : List Ln} (h : LnsAt W b off l) : ∀ j u, (lnRow l)[j]? = some u → W.cell? ((⟨b, off, none⟩ : Addr).add j) = some u := by
  intro j u hj
  rw [Addr.add_lit]
  obtain ⟨q, r, hr, rfl⟩ : ∃ q r, r < 3 ∧ j = q * 3 + r := ⟨j / 3, j % 3, Nat.mod_lt _ (by omega), by omega⟩
  have hlt := (List.getElem?_eq_some_iff.1 hj).1
  rw [lnRow_length] at hlt
  have hq : q < l.length := by omega
  rw [lnRow_get l q r hq hr] at hj
  have := h q hq
  rcases (by omega : r = 0 ∨ r = 1 ∨ r = 2) with rfl | rfl | rfl
  · rw [← hj, Nat.add_zero, this.c0]; rfl
  · rw [← hj, ← Nat.add_assoc, this.c1]; rfl
  · rw [← hj, ← Nat.add_assoc, this.c2]; rfl
theorem lnRow_none (w : World) : LnRow (w.alloc (.cells #[] 55)) w.heap.size (.slice (some ⟨w.heap.size, 0, none⟩) 0 0) [] :=
  ⟨rfl, .inr ⟨w.heap.size, 0, #[], rfl, Nat.le_refl _, World.alloc_heap_new w _, Nat.le_refl _, by unfold maxLen; omega, rfl, rfl⟩⟩

theorem cloneL (a : Option Addr) (l : List Ln) (cap : Nat) (w : World) (h : IsLn w a l cap) (h0 : l ≠ []) (hl : l.length ≤ 20) :
    Calls Tryd.prog 25 #[.slice a l.length cap] w fun e w' => ∃ v, e = .returned v ∧ LnRow w' w.heap.size v l ∧ Below w.heap.size w w' := by
  have q35 : ∀ (w : World) (a : Option Addr) (n c n' c' : Nat), (binOp .eql 31 (.slice a n c) (.slice none n' c')).run Tryd.prog w = .ok (.bool a.isNone) w := fun w a n c n' c' => Lib.run_eql_slice_nil w _ _ a n c n' c' Tryd.underlying31
  rcases h.lies with hh | ⟨b, off, rfl, hlt, hc⟩
  · exact absurd hh h0
  have B1 : Below w.heap.size w (w.alloc (.cells #[] 55)) := (Below.refl _ w).alloc (Nat.le_refl _) _
  have HS : Hid _ := jln_src (l := l) (fun k hk => (hc k hk).below B1 hlt)
  have HR := lnRow_none w
  have Hm1 : Hid (0 + l.length ≤ maxLen) := by unfold Hid maxLen; omega
  have Hm2 : Hid ((0 + l.length) * 40 ≤ 140737488355328) := by unfold Hid; omega
  have Hm3 : Hid (w.heap.size ≤ (w.alloc (.cells #[] 55)).heap.size) := by unfold Hid; simp
  have HRw : Hid (LnRow (w.alloc (.cells #[] 55)) w.heap.size (.slice (some ⟨w.heap.size, 0, none⟩) 0 0) []) := HR
  obtain ⟨i0, hi, hz0, hz1, hz2⟩ := info_parts ln_info
  have l0 : (0 : Int) ≤ l.length := by omega
  clear h hc HR
  go_enter Tryd.func25, Tryd.ntmps25
  go_wp2_with (at_builtin; refine wpList_append_own _ rfl _ _ 31 rfl w.heap.size 55 i0 (.agg #[.string ByteArray.empty, .string ByteArray.empty, .int .i64 0]) 3 40 Tryd.underlying31 hi hz0 hz1 hz2 rfl (by decide) _ _ _ rfl HRw.out ⟨b, off, none⟩ l.length cap (lnRow l) rfl (lnRow_length l) HS.out (lnRow_one_cell l) Hm1.out Hm2.out Hm3.out ?_)
  intro v w1 hown hgrow _
  have hr : LnRow w1 w.heap.size v l := by unfold LnRow; simpa [lnRow] using hown
  have hb : Below w.heap.size w w1 := B1.grown hgrow B1.size (fun j e => by simp [Value.ownBlock] at e; omega)
  have HE : Hid (LnRow w1 w.heap.size v l ∧ Below w.heap.size w w1) := ⟨hr, hb⟩
  obtain ⟨a1, k1, rfl, _⟩ := hr.isLn
  clear hown hgrow hr hb B1 HS HRw
  go_wp2
  go_ret
  exact ⟨_, rfl, HE.out.1, HE.out.2⟩

set_option maxHeartbeats 2000000 in
theorem apart_any (r : ByteArray) (en pe : Int) (a : Option Addr) (l : List Ln) (cap : Nat) (w : World) (h : IsLn w a l cap) (h0 : l ≠ []) (hl : l.length ≤ 20) :
    Calls Tryd.prog 15 #[.agg #[.string r, .int .i64 en, .int .i64 pe, .slice a l.length cap]] w fun e w' => ∃ a' cap', e = .returned (.agg #[.string r, .int .i64 en, .int .i64 pe, .slice a' l.length cap']) ∧ LnRow w' w.heap.size (.slice a' l.length cap') l ∧ Below w.heap.size w w' := by
  have b0 : Below w.heap.size w ((w.alloc (.cells #[.string r, .int .i64 en, .int .i64 pe, .slice a l.length cap] 33)).alloc (.cells #[.string ByteArray.empty, .int .i64 0, .int .i64 0, .slice none 0 0] 33)) := ((Below.refl _ w).alloc (Nat.le_refl _) _).alloc (by simp) _
  have x1 := Box4.new (w.alloc (.cells #[.string r, .int .i64 en, .int .i64 pe, .slice a l.length cap] 33)) ByteArray.empty 0 0 (.slice none 0 0)
  have z1 := (Box4.new w r en pe (.slice a l.length cap)).alloc (.cells #[.string ByteArray.empty, .int .i64 0, .int .i64 0, .slice none 0 0] 33)
  have hs0 : ((w.alloc (.cells #[.string r, .int .i64 en, .int .i64 pe, .slice a l.length cap] 33)).alloc (.cells #[.string ByteArray.empty, .int .i64 0, .int .i64 0, .slice none 0 0] 33)).heap.size = w.heap.size + 1 + 1 := by simp
  rw [World.size_alloc] at x1
  have HC : Hid (Calls _ _ _ _ _) := cloneL a l cap _ (h.below b0) h0 hl
  have c3 := z1.c3
  clear h h0 hl
  go_enter Tryd.func15, Tryd.ntmps15
  go_wp2_with fail
  refine HC.out.mono ?_
  rintro e w3 ⟨v3, rfl, r3, b3⟩
  rw [hs0] at r3 b3
  obtain ⟨a3, k3, rfl, _⟩ := r3.isLn
  have B3 := b0.trans (b3.mono (by omega))
  have y3 := x1.below b3 (by omega)
  have t3 := z1.below b3 (by omega)
  have d0 := y3.c0
  have d1 := y3.c1
  have d2 := y3.c2
  have d3 := y3.c3
  have f0 := y3.fz 0
  have f1 := y3.fz 1
  have f2 := y3.fz 2
  have f3 := y3.fz 3
  have e0 := t3.c0
  have e1 := t3.c1
  have e2 := t3.c2
  have e3 := t3.c3
  have g3 := t3.fz 3
  have HR : Hid (LnRow w3 (w.heap.size + 1 + 1) (.slice a3 l.length k3) l) := r3
  have hlt1 : w.heap.size < w.heap.size + 1 + 1 := by omega
  have hlt2 : w.heap.size + 1 < w.heap.size + 1 + 1 := by omega
  clear r3 b3 y3 t3 b0 x1 z1 c3 HC hs0
  go_wp2
  exact bodyPost_ret (v := .agg #[.string r, .int .i64 en, .int .i64 pe, .slice a3 l.length k3]) (by simp [results, Tryd.results15, go_sem, d0, d1, d2, d3]) rfl ⟨_, _, rfl, LnRow.mono (LnRow.setOther (b := w.heap.size + 1) (o := 3) (LnRow.setOther (b := w.heap.size + 1) (o := 2) (LnRow.setOther (b := w.heap.size + 1) (o := 1) (LnRow.setOther (b := w.heap.size + 1) (o := 0) (LnRow.setOther (b := w.heap.size) (o := 3) HR.out hlt1) hlt2) hlt2) hlt2) hlt2) (by omega), (((((B3.setCell (p := ⟨w.heap.size, 3, none⟩) (by simp) _).setCell (p := ⟨w.heap.size + 1, 0, none⟩) (by simp) _).setCell (p := ⟨w.heap.size + 1, 1, none⟩) (by simp) _).setCell (p := ⟨w.heap.size + 1, 2, none⟩) (by simp) _).setCell (p := ⟨w.heap.size + 1, 3, none⟩) (by simp) _)⟩

theorem jnew_any (w : World) :
    Calls Tryd.prog 4 #[] w fun e w' => e = .returned (.pointer (some ⟨w.heap.size + 1, 0, none⟩)) ∧ JAt w' w.heap.size (w.heap.size + 1) w.heap.size (.slice none 0 0) [] ∧ Below w.heap.size w w' ∧ w'.heap.size = w.heap.size + 2 := by
  have hmm : ∀ w : World, (Instr.makeMap 47 none).run Tryd.prog w = .ok (.map (some w.heap.size)) (w.alloc (.map #[] 0)) := fun w => by
    simp [Instr.makeMap, run_underlying Tryd.underlying47, asInt, asIntOf, Result.andThen]
  go_enter Tryd.func4, Tryd.ntmps4
  go_wp2
  go_ret
  have b1 : Below w.heap.size w (w.alloc (.map #[] 0)) := (Below.refl _ w).alloc (Nat.le_refl _) _
  refine ⟨by simp, ⟨?_, ⟨#[], 0, ?_, rfl, by simp⟩, JeRow.nil _ _, by simp, by omega, Nat.le_refl _⟩, b1.alloc (by simp) _, by simp⟩
  · have := World.alloc_heap_new (w.alloc (.map #[] 0)) (.cells #[.slice none 0 0, .map (some w.heap.size)] 49)
    simpa using this
  · exact (heap_alloc_lt _ _ _ (by simp)).trans (World.alloc_heap_new w _)

theorem jlen_any {W : World} {n0 bj bm : Nat} {v : Value} {es : List Je} (h : JAt W n0 bj bm v es) :
    Calls Tryd.prog 10 #[.pointer (some ⟨bj, 0, none⟩)] W fun e w' => e = .returned (.int .i64 (es.length : Int)) ∧ w' = W := by
  have c0 := h.c0
  obtain ⟨a, cap, rfl, _⟩ := h.row.lies
  clear h
  go_enter Tryd.func10, Tryd.ntmps10
  go_wp2
  go_ret
  exact ⟨rfl, rfl⟩

/-- Is a ref there? -/
def hasR (es : List Je) (s : ByteArray) : Bool := isInR (es.map (·.ref)) s
theorem jhas_any {W : World} {n0 bj bm : Nat} {v : Value} {es : List Je} (h : JAt W n0 bj bm v es) (s : ByteArray) :
    Calls Tryd.prog 12 #[.pointer (some ⟨bj, 0, none⟩), .string s] W fun e w' => e = .returned (.bool (hasR es s)) ∧ Below W.heap.size W w' := by
  have c1 := h.c1
  have hx := run_slook h.map s
  have e : isInR (es.map (·.ref)) s = hasR es s := rfl
  rw [e] at hx
  generalize hasR es s = q at *
  have B1 : Below W.heap.size W (W.alloc (.cells #[] 53)) := (Below.refl _ W).alloc (Nat.le_refl _) _
  have hst : ∀ (a : Addr) (w : World), (storeCells a []).run Tryd.prog w = .ok () w := fun a w => rfl
  clear h e
  go_enter Tryd.func12, Tryd.ntmps12
  go_wp2
  go_ret
  exact ⟨rfl, B1⟩

/-- Is a number asked for? -/
def isAskedB (a n : Int) : Bool := decide (a = 0 ∨ a = n)
end Go.Proofs.YtffekgndlhleiaaDoor
