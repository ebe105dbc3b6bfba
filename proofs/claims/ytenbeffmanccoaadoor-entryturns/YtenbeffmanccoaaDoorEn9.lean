/-
  The contracts of entry.Sums, entry.Net, entry.Reverse.
-/
import Derived.Test.YtenbeffmanccoaaDoorEn8
namespace Go.Proofs.YtenbeffmanccoaaDoor
set_option linter.unusedVariables false
set_option linter.unusedSimpArgs false
set_option maxRecDepth 100000
open Go.RowKit Go.Lib

/-- An entry in a box. -/
def Box4 (W : World) (b : Nat) (r : ByteArray) (en pe : Int) (v : Value) : Prop := W.heap[b]? = some (.cells #[.string r, .int .i64 en, .int .i64 pe, v] 24 (0, 0))
theorem Box4.c0 {W : World} {b : Nat} {r : ByteArray} {en pe : Int} {v : Value} (h : Box4 W b r en pe v) : W.cell? ⟨b, 0, none⟩ = some (.string r) := by unfold Box4 at h; simp [World.cell?, h]
theorem Box4.c1 {W : World} {b : Nat} {r : ByteArray} {en pe : Int} {v : Value} (h : Box4 W b r en pe v) : W.cell? ⟨b, 1, none⟩ = some (.int .i64 en) := by unfold Box4 at h; simp [World.cell?, h]
theorem Box4.c2 {W : World} {b : Nat} {r : ByteArray} {en pe : Int} {v : Value} (h : Box4 W b r en pe v) : W.cell? ⟨b, 2, none⟩ = some (.int .i64 pe) := by unfold Box4 at h; simp [World.cell?, h]
theorem Box4.c3 {W : World} {b : Nat} {r : ByteArray} {en pe : Int} {v : Value} (h : Box4 W b r en pe v) : W.cell? ⟨b, 3, none⟩ = some v := by unfold Box4 at h; simp [World.cell?, h]
theorem Box4.fz {W : World} {b : Nat} {r : ByteArray} {en pe : Int} {v : Value} (h : Box4 W b r en pe v) (o : Nat) : W.frozen? ⟨b, o, none⟩ = false := by unfold Box4 at h; simp [World.frozen?, h]
theorem Box4.below {W W' : World} {b n : Nat} {r : ByteArray} {en pe : Int} {v : Value} (h : Box4 W b r en pe v) (hb : Below n W W') (hn : b < n) : Box4 W' b r en pe v := (hb.block b hn).trans h
theorem Box4.new (W : World) (r : ByteArray) (en pe : Int) (v : Value) : Box4 (W.alloc (.cells #[.string r, .int .i64 en, .int .i64 pe, v] 24)) W.heap.size r en pe v := World.alloc_heap_new W _
theorem Box4.alloc {W : World} {b : Nat} {r : ByteArray} {en pe : Int} {v : Value} (h : Box4 W b r en pe v) (o : Obj) : Box4 (W.alloc o) b r en pe v := ((World.grownBy_alloc W o none).block b (Array.getElem?_eq_some_iff.1 h).1 (by simp)).trans h
theorem Box4.set0 {W : World} {b : Nat} {r : ByteArray} {en pe : Int} {v : Value} (h : Box4 W b r en pe v) (r' : ByteArray) : Box4 (W.setCell ⟨b, 0, none⟩ (.string r')) b r' en pe v := by
  unfold Box4 at *
  rw [setCell_eq_setRow W b 0 _ 24 (0, 0) _ h, setRow_heap W b _ _ 24 (0, 0) h]
  rfl
theorem Box4.other {W : World} {b b' o : Nat} {r : ByteArray} {en pe : Int} {v u : Value} (h : Box4 W b r en pe v) (hne : b ≠ b') : Box4 (W.setCell ⟨b', o, none⟩ u) b r en pe v :=
  (Below.heap_setCell _ _ _ b (fun e => hne e)).trans h
theorem LnRow.setOther {W : World} {n b o : Nat} {v u : Value} {l : List Ln} (h : LnRow W n v l) (hb : b < n) : LnRow (W.setCell ⟨b, o, none⟩ u) n v l := by
  rcases h.2 with ⟨hv, hn⟩ | ⟨g1, c1, cur, hv, hb1, hh, r⟩
  · exact ⟨h.1, .inl ⟨hv, hn⟩⟩
  · exact ⟨h.1, .inr ⟨g1, c1, cur, hv, hb1, (Below.heap_setCell _ _ _ g1 (fun e => by simp only at e; omega)).trans hh, r⟩⟩

theorem sums_bad (r : ByteArray) (en pe : Int) (a : Option Addr) (cap : Nat) (l : List Ln) (w : World) (h : IsLn w a l cap) (h0 : fewBad l ≠ 0) :
    Calls Tryd.prog 8 #[.agg #[.string r, .int .i64 en, .int .i64 pe, .slice a l.length cap]] w fun e w' => e = .returned (.tuple #[.slice none 0 0, enE (fewBad l)]) ∧ Below w.heap.size w w' := by
  have b0 : Below w.heap.size w (w.alloc (.cells #[.string r, .int .i64 en, .int .i64 pe, .slice a l.length cap] 24)) := (Below.refl _ w).alloc (Nat.le_refl _) _
  have hC := checkAmounts_any a cap l _ (h.below b0)
  rw [enE_ne h0] at hC ⊢
  generalize fewBad l = bad at *
  have HC : Hid (Calls _ _ _ _ _) := hC
  clear hC h
  go_enter Tryd.func8, Tryd.ntmps8
  go_wp2_with fail
  refine HC.out.mono ?_
  rintro e w1 ⟨rfl, hb1⟩
  have B1 := b0.trans (hb1.mono (by simp))
  clear HC hb1
  go_wp2
  go_ret2
  exact ⟨rfl, B1⟩

theorem sums_ok (r : ByteArray) (en pe : Int) (a : Option Addr) (cap : Nat) (l : List Ln) (w : World) (h : IsLn w a l cap) (h0 : fewBad l = 0) :
    Calls Tryd.prog 8 #[.agg #[.string r, .int .i64 en, .int .i64 pe, .slice a l.length cap]] w fun e w' => ∃ v, e = .returned (.tuple #[v, .nilIface]) ∧ LnRow w' w.heap.size v (curSums l) ∧ Below w.heap.size w w' := by
  have b0 : Below w.heap.size w (w.alloc (.cells #[.string r, .int .i64 en, .int .i64 pe, .slice a l.length cap] 24)) := (Below.refl _ w).alloc (Nat.le_refl _) _
  have hC := checkAmounts_any a cap l _ (h.below b0)
  rw [h0, enE_zero] at hC
  obtain ⟨q1, q2⟩ := fewBad_zero h0
  have HO : Hid (∀ W, Below w.heap.size w W → Calls Tryd.prog 16 #[.slice a l.length cap] W fun e w' => ∃ v, e = .returned v ∧ LnRow w' w.heap.size v (curSums l) ∧ Below w.heap.size w w') := fun W hW => by
    refine (ofCurrencies_any a cap l W q1 q2 (h.below hW)).mono ?_
    rintro e w' ⟨v, rfl, hr, hb⟩
    exact ⟨v, rfl, hr.mono hW.size, hW.trans (hb.mono hW.size)⟩
  have c3 : ∀ W, Below (w.alloc (.cells #[.string r, .int .i64 en, .int .i64 pe, .slice a l.length cap] 24)).heap.size (w.alloc (.cells #[.string r, .int .i64 en, .int .i64 pe, .slice a l.length cap] 24)) W → W.cell? ⟨w.heap.size, 3, none⟩ = some (.slice a l.length cap) := fun W hW => by
    rw [hW.cell (p := ⟨w.heap.size, 3, none⟩) (by simp)]
    simp
  have H3 : Hid _ := c3
  have HC : Hid (Calls _ _ _ _ _) := hC
  clear hC h q2 c3
  go_enter Tryd.func8, Tryd.ntmps8
  go_wp2_with fail
  refine HC.out.mono ?_
  rintro e w1 ⟨rfl, hb1⟩
  have B1 := b0.trans (hb1.mono (by simp))
  have c3 := H3.out w1 hb1
  clear HC hb1 H3
  go_wp2_with fail
  refine (HO.out w1 B1).mono ?_
  rintro e w2 ⟨v2, rfl, r2, b2⟩
  have HR : Hid (LnRow _ _ _ _) := r2
  clear r2 HO c3
  go_wp2
  go_ret2
  exact ⟨v2, rfl, HR.out, b2⟩

/-- A line of nothing. -/
def nullL (x : Ln) : Bool := decide (x.amt = 0)
theorem net1_any (x : Ln) (w : World) :
    Calls Tryd.prog 23 #[.agg x.cells] w fun e w' => e = .returned (.bool (nullL x)) ∧ Below w.heap.size w w' := by
  obtain ⟨a0, a1, a2⟩ := x
  have b0 : Below w.heap.size w (w.alloc (.cells #[.string a0, .string a1, .int .i64 a2] 30)) := (Below.refl _ w).alloc (Nat.le_refl _) _
  simp only [Ln.cells, nullL]
  by_cases h : a2 = 0
  · rw [decide_eq_true h]
    subst h
    go_enter Tryd.func23, Tryd.ntmps23
    go_wp2
    go_ret
    exact ⟨rfl, b0⟩
  · rw [decide_eq_false h]
    have h' : (a2 == 0) = false := by simpa using h
    go_enter Tryd.func23, Tryd.ntmps23
    go_wp2
    go_ret
    exact ⟨rfl, b0⟩
theorem net1_tells : LTells 23 nullL :=
  ⟨fun args W => en_enters Tryd.func23 (by kernel_rfl) ⟨_, rfl⟩ args W, net1_any⟩

/-- What is left of lines that are put together. -/
def netL (l : List Ln) : List Ln := (grp l).filter fun x => !nullL x

set_option maxHeartbeats 2000000 in
theorem net_bad (r : ByteArray) (en pe : Int) (a : Option Addr) (cap : Nat) (l : List Ln) (w : World) (h : IsLn w a l cap) (h0 : fewBad l ≠ 0) :
    Calls Tryd.prog 13 #[.agg #[.string r, .int .i64 en, .int .i64 pe, .slice a l.length cap]] w fun e w' => e = .returned (.tuple #[.agg #[.string ByteArray.empty, .int .i64 0, .int .i64 0, .slice none 0 0], enE (fewBad l)]) ∧ Below w.heap.size w w' := by
  have HC : Hid (∀ W, Below w.heap.size w W → Calls Tryd.prog 15 #[.slice a l.length cap] W fun e w' => e = .returned (enE (fewBad l)) ∧ Below W.heap.size W w') := fun W hW => checkAmounts_any a cap l W (h.below hW)
  rw [enE_ne h0] at HC ⊢
  generalize fewBad l = bad at *
  clear h
  have b0 : Below w.heap.size w ((w.alloc (.cells #[.string r, .int .i64 en, .int .i64 pe, .slice a l.length cap] 24)).alloc (.cells #[.string ByteArray.empty, .int .i64 0, .int .i64 0, .slice none 0 0] 24)) := ((Below.refl _ w).alloc (Nat.le_refl _) _).alloc (by simp) _
  have x1 := Box4.new (w.alloc (.cells #[.string r, .int .i64 en, .int .i64 pe, .slice a l.length cap] 24)) ByteArray.empty 0 0 (.slice none 0 0)
  have hs0 : ((w.alloc (.cells #[.string r, .int .i64 en, .int .i64 pe, .slice a l.length cap] 24)).alloc (.cells #[.string ByteArray.empty, .int .i64 0, .int .i64 0, .slice none 0 0] 24)).heap.size = w.heap.size + 1 + 1 := by simp
  rw [World.size_alloc] at x1
  go_enter Tryd.func13, Tryd.ntmps13
  go_wp2_with fail
  refine (HC.out _ b0).mono ?_
  rintro e w1 ⟨rfl, hb1⟩
  rw [hs0] at hb1
  have B1 := b0.trans (hb1.mono (by omega))
  have hs1 := hb1.size
  rw [hs0] at hs1
  have y1 := x1.below hb1 (by omega)
  have d0 := y1.c0
  have d1 := y1.c1
  have d2 := y1.c2
  have d3 := y1.c3
  have f0 := y1.fz 0
  have f1 := y1.fz 1
  have f2 := y1.fz 2
  have f3 := y1.fz 3
  clear HC b0 x1 hb1 hs0 y1
  go_wp2
  exact bodyPost_ret (v := .tuple #[.agg #[.string ByteArray.empty, .int .i64 0, .int .i64 0, .slice none 0 0], .iface 44 (.int .i64 bad)]) (by simp [results, Tryd.results13, go_sem, d0, d1, d2, d3]; rfl) rfl ⟨rfl, ((((B1.setCell (p := ⟨w.heap.size + 1, 0, none⟩) (by simp) _).setCell (p := ⟨w.heap.size + 1, 1, none⟩) (by simp) _).setCell (p := ⟨w.heap.size + 1, 2, none⟩) (by simp) _).setCell (p := ⟨w.heap.size + 1, 3, none⟩) (by simp) _)⟩

set_option maxHeartbeats 2000000 in
theorem net_ok (r : ByteArray) (en pe : Int) (a : Option Addr) (cap : Nat) (l : List Ln) (w : World) (h : IsLn w a l cap) (h0 : fewBad l = 0) :
    Calls Tryd.prog 13 #[.agg #[.string r, .int .i64 en, .int .i64 pe, .slice a l.length cap]] w fun e w' => ∃ v, e = .returned (.tuple #[.agg #[.string r, .int .i64 en, .int .i64 pe, v], .nilIface]) ∧ LnRow w' w.heap.size v (netL l) ∧ Below w.heap.size w w' := by
  have HC : Hid (∀ W, Below w.heap.size w W → Calls Tryd.prog 15 #[.slice a l.length cap] W fun e w' => e = .returned (enE (fewBad l)) ∧ Below W.heap.size W w') := fun W hW => checkAmounts_any a cap l W (h.below hW)
  rw [h0, enE_zero] at HC
  obtain ⟨q1, q2⟩ := fewBad_zero h0
  have HT : Hid (∀ W, Below w.heap.size w W → Calls Tryd.prog 22 #[.slice a l.length cap] W fun e w' => ∃ v, e = .returned v ∧ LnRow w' W.heap.size v (grp l) ∧ Below W.heap.size W w') := fun W hW => together_any a cap l W q1 q2 (h.below hW)
  have HD : Hid (∀ n0 v W, n0 ≤ W.heap.size → LnRow W n0 v (grp l) → Calls Tryd.prog 21 #[v, .func (.func 23) #[] #[]] W fun e w' => ∃ v', e = .returned v' ∧ LnRow w' n0 v' (netL l) ∧ Below n0 W w') := fun n0 v W hn hr => delete_own _ nullL n0 v (grp l) W net1_tells (by have := grp_length l; omega) hn hr
  clear h q2
  have b0 : Below w.heap.size w ((w.alloc (.cells #[.string r, .int .i64 en, .int .i64 pe, .slice a l.length cap] 24)).alloc (.cells #[.string ByteArray.empty, .int .i64 0, .int .i64 0, .slice none 0 0] 24)) := ((Below.refl _ w).alloc (Nat.le_refl _) _).alloc (by simp) _
  have x1 := Box4.new (w.alloc (.cells #[.string r, .int .i64 en, .int .i64 pe, .slice a l.length cap] 24)) ByteArray.empty 0 0 (.slice none 0 0)
  have z1 := (Box4.new w r en pe (.slice a l.length cap)).alloc (.cells #[.string ByteArray.empty, .int .i64 0, .int .i64 0, .slice none 0 0] 24)
  have hs0 : ((w.alloc (.cells #[.string r, .int .i64 en, .int .i64 pe, .slice a l.length cap] 24)).alloc (.cells #[.string ByteArray.empty, .int .i64 0, .int .i64 0, .slice none 0 0] 24)).heap.size = w.heap.size + 1 + 1 := by simp
  rw [World.size_alloc] at x1
  go_enter Tryd.func13, Tryd.ntmps13
  go_wp2_with fail
  refine (HC.out _ b0).mono ?_
  rintro e w1 ⟨rfl, hb1⟩
  rw [hs0] at hb1
  have B1 := b0.trans (hb1.mono (by omega))
  have hs1 := hb1.size
  rw [hs0] at hs1
  have y1 := x1.below hb1 (by omega)
  have t1 := z1.below hb1 (by omega)
  have c3 := t1.c3
  clear HC b0 x1 hb1 hs0 z1
  go_wp2_with fail
  refine (HT.out w1 B1).mono ?_
  rintro e w2 ⟨v2, rfl, r2, b2⟩
  have hD := HD.out w1.heap.size v2 w2 b2.size r2
  have B2 := B1.trans (b2.mono (by omega))
  clear HT HD r2 c3
  have Hb2 : Hid (Below _ _ _) := b2
  clear b2
  go_wp2_with fail
  refine hD.mono ?_
  rintro e w3 ⟨v3, rfl, r3, b3⟩
  obtain ⟨a3, k3, rfl, _⟩ := r3.isLn
  have b13 := Hb2.out.trans b3
  have B3 := B1.trans (b13.mono (by omega))
  have y3 := y1.below b13 (by omega)
  have t3 := t1.below b13 (by omega)
  have d0 := y3.c0
  have d1 := y3.c1
  have d2 := y3.c2
  have d3 := y3.c3
  have f0 := y3.fz 0
  have f1 := y3.fz 1
  have f2 := y3.fz 2
  have f3 := y3.fz 3
  have e0 := t3.c0
  have e1 := t3.c1
  have e2 := t3.c2
  have e3 := t3.c3
  have g3 := t3.fz 3
  have HR : Hid (LnRow w3 w1.heap.size (.slice a3 (netL l).length k3) (netL l)) := r3
  generalize (netL l).length = m3 at *
  have hlt1 : w.heap.size < w1.heap.size := by omega
  have hlt2 : w.heap.size + 1 < w1.heap.size := by omega
  clear r3 b3 hD y1 t1 y3 t3 b13 Hb2 B2
  go_wp2
  exact bodyPost_ret (v := .tuple #[.agg #[.string r, .int .i64 en, .int .i64 pe, .slice a3 m3 k3], .nilIface]) (by simp [results, Tryd.results13, go_sem, d0, d1, d2, d3]) rfl ⟨_, rfl, LnRow.mono (LnRow.setOther (b := w.heap.size + 1) (o := 3) (LnRow.setOther (b := w.heap.size + 1) (o := 2) (LnRow.setOther (b := w.heap.size + 1) (o := 1) (LnRow.setOther (b := w.heap.size + 1) (o := 0) (LnRow.setOther (b := w.heap.size) (o := 3) HR.out hlt1) hlt2) hlt2) hlt2) hlt2) (by omega), (((((B3.setCell (p := ⟨w.heap.size, 3, none⟩) (by simp) _).setCell (p := ⟨w.heap.size + 1, 0, none⟩) (by simp) _).setCell (p := ⟨w.heap.size + 1, 1, none⟩) (by simp) _).setCell (p := ⟨w.heap.size + 1, 2, none⟩) (by simp) _).setCell (p := ⟨w.heap.size + 1, 3, none⟩) (by simp) _)⟩

/-- What is wrong with turning an entry round. -/
def revBad (ref : ByteArray) (l : List Ln) : Int := if isRefB ref = false then 2 else fewBad l
set_option maxHeartbeats 2000000 in
theorem rev_bad (r ref : ByteArray) (en pe : Int) (a : Option Addr) (cap : Nat) (l : List Ln) (w : World) (h : IsLn w a l cap) (h0 : revBad ref l ≠ 0) :
    Calls Tryd.prog 11 #[.agg #[.string r, .int .i64 en, .int .i64 pe, .slice a l.length cap], .string ref] w fun e w' => e = .returned (.tuple #[.agg #[.string ByteArray.empty, .int .i64 0, .int .i64 0, .slice none 0 0], enE (revBad ref l)]) ∧ Below w.heap.size w w' := by
  have HC : Hid (∀ W, Below w.heap.size w W → Calls Tryd.prog 15 #[.slice a l.length cap] W fun e w' => e = .returned (enE (fewBad l)) ∧ Below W.heap.size W w') := fun W hW => checkAmounts_any a cap l W (h.below hW)
  have HI : Hid (∀ W, Below w.heap.size w W → Calls Tryd.prog 18 #[.string ref] W fun e w' => e = .returned (.bool (isRefB ref)) ∧ Below W.heap.size W w') := fun W _ => isRef_any ref W
  have b0 : Below w.heap.size w ((w.alloc (.cells #[.string r, .int .i64 en, .int .i64 pe, .slice a l.length cap] 24)).alloc (.cells #[.string ByteArray.empty, .int .i64 0, .int .i64 0, .slice none 0 0] 24)) := ((Below.refl _ w).alloc (Nat.le_refl _) _).alloc (by simp) _
  have x1 := Box4.new (w.alloc (.cells #[.string r, .int .i64 en, .int .i64 pe, .slice a l.length cap] 24)) ByteArray.empty 0 0 (.slice none 0 0)
  have z1 := (Box4.new w r en pe (.slice a l.length cap)).alloc (.cells #[.string ByteArray.empty, .int .i64 0, .int .i64 0, .slice none 0 0] 24)
  have hs0 : ((w.alloc (.cells #[.string r, .int .i64 en, .int .i64 pe, .slice a l.length cap] 24)).alloc (.cells #[.string ByteArray.empty, .int .i64 0, .int .i64 0, .slice none 0 0] 24)).heap.size = w.heap.size + 1 + 1 := by simp
  rw [World.size_alloc] at x1
  clear h
  cases hr : isRefB ref
  · have er : revBad ref l = 2 := by simp [revBad, hr]
    rw [hr] at HI
    rw [er]
    clear er h0 HC
    go_enter Tryd.func11, Tryd.ntmps11
    go_wp2_with fail
    refine (HI.out _ b0).mono ?_
    rintro e w1 ⟨rfl, hb1⟩
    rw [hs0] at hb1
    have B1 := b0.trans (hb1.mono (by omega))
    have hs1 := hb1.size
    rw [hs0] at hs1
    have y1 := x1.below hb1 (by omega)
    have d0 := y1.c0
    have d1 := y1.c1
    have d2 := y1.c2
    have d3 := y1.c3
    have f0 := y1.fz 0
    have f1 := y1.fz 1
    have f2 := y1.fz 2
    have f3 := y1.fz 3
    clear HI b0 x1 hb1 hs0 y1 z1
    go_wp2
    exact bodyPost_ret (v := .tuple #[.agg #[.string ByteArray.empty, .int .i64 0, .int .i64 0, .slice none 0 0], .iface 44 (.int .i64 2)]) (by simp [results, Tryd.results11, go_sem, d0, d1, d2, d3]; rfl) rfl ⟨rfl, ((((B1.setCell (p := ⟨w.heap.size + 1, 0, none⟩) (by simp) _).setCell (p := ⟨w.heap.size + 1, 1, none⟩) (by simp) _).setCell (p := ⟨w.heap.size + 1, 2, none⟩) (by simp) _).setCell (p := ⟨w.heap.size + 1, 3, none⟩) (by simp) _)⟩
  · have er : revBad ref l = fewBad l := by simp [revBad, hr]
    rw [hr] at HI
    rw [er] at h0 ⊢
    rw [enE_ne h0] at HC ⊢
    generalize fewBad l = bad at *
    clear er
    go_enter Tryd.func11, Tryd.ntmps11
    go_wp2_with fail
    refine (HI.out _ b0).mono ?_
    rintro e w0 ⟨rfl, hb0⟩
    rw [hs0] at hb0
    have B0 := b0.trans (hb0.mono (by omega))
    have hs1 := hb0.size
    rw [hs0] at hs1
    have x1 := x1.below hb0 (by omega)
    have z1 := z1.below hb0 (by omega)
    have c3 := z1.c3
    clear HI b0 hb0 hs0
    go_wp2_with fail
    refine (HC.out w0 B0).mono ?_
    rintro e w1 ⟨rfl, hb1⟩
    have B1 := B0.trans (hb1.mono (by omega))
    have y1 := x1.below hb1 (by omega)
    have d0 := y1.c0
    have d1 := y1.c1
    have d2 := y1.c2
    have d3 := y1.c3
    have f0 := y1.fz 0
    have f1 := y1.fz 1
    have f2 := y1.fz 2
    have f3 := y1.fz 3
    clear HC B0 x1 hb1 y1 z1 c3
    go_wp2
    exact bodyPost_ret (v := .tuple #[.agg #[.string ByteArray.empty, .int .i64 0, .int .i64 0, .slice none 0 0], .iface 44 (.int .i64 bad)]) (by simp [results, Tryd.results11, go_sem, d0, d1, d2, d3]; rfl) rfl ⟨rfl, ((((B1.setCell (p := ⟨w.heap.size + 1, 0, none⟩) (by simp) _).setCell (p := ⟨w.heap.size + 1, 1, none⟩) (by simp) _).setCell (p := ⟨w.heap.size + 1, 2, none⟩) (by simp) _).setCell (p := ⟨w.heap.size + 1, 3, none⟩) (by simp) _)⟩

set_option maxHeartbeats 2000000 in
theorem rev_ok (r ref : ByteArray) (en pe : Int) (a : Option Addr) (cap : Nat) (l : List Ln) (w : World) (h : IsLn w a l cap) (h0 : revBad ref l = 0) :
    Calls Tryd.prog 11 #[.agg #[.string r, .int .i64 en, .int .i64 pe, .slice a l.length cap], .string ref] w fun e w' => ∃ v, e = .returned (.tuple #[.agg #[.string ref, .int .i64 en, .int .i64 pe, v], .nilIface]) ∧ LnRow w' w.heap.size v (l.map turnL) ∧ Below w.heap.size w w' := by
  have HC : Hid (∀ W, Below w.heap.size w W → Calls Tryd.prog 15 #[.slice a l.length cap] W fun e w' => e = .returned (enE (fewBad l)) ∧ Below W.heap.size W w') := fun W hW => checkAmounts_any a cap l W (h.below hW)
  have HI : Hid (∀ W, Below w.heap.size w W → Calls Tryd.prog 18 #[.string ref] W fun e w' => e = .returned (.bool (isRefB ref)) ∧ Below W.heap.size W w') := fun W _ => isRef_any ref W
  have hr : isRefB ref = true ∧ fewBad l = 0 := by
    unfold revBad at h0
    split at h0
    · omega
    · rename_i hh; exact ⟨by simpa using hh, h0⟩
  rw [hr.1] at HI
  rw [hr.2, enE_zero] at HC
  obtain ⟨q1, q2⟩ := fewBad_zero hr.2
  have HE : Hid (∀ W, Below w.heap.size w W → Calls Tryd.prog 19 #[.slice a l.length cap, .func (.func 20) #[] #[]] W fun e w' => ∃ v, e = .returned v ∧ LnRow w' W.heap.size v (l.map turnL) ∧ Below W.heap.size W w') := fun W hW => each_any _ turnL _ a cap l W reverse1_makes q2 (by omega) (h.below hW)
  have b0 : Below w.heap.size w ((w.alloc (.cells #[.string r, .int .i64 en, .int .i64 pe, .slice a l.length cap] 24)).alloc (.cells #[.string ByteArray.empty, .int .i64 0, .int .i64 0, .slice none 0 0] 24)) := ((Below.refl _ w).alloc (Nat.le_refl _) _).alloc (by simp) _
  have x1 := Box4.new (w.alloc (.cells #[.string r, .int .i64 en, .int .i64 pe, .slice a l.length cap] 24)) ByteArray.empty 0 0 (.slice none 0 0)
  have z1 := (Box4.new w r en pe (.slice a l.length cap)).alloc (.cells #[.string ByteArray.empty, .int .i64 0, .int .i64 0, .slice none 0 0] 24)
  have hs0 : ((w.alloc (.cells #[.string r, .int .i64 en, .int .i64 pe, .slice a l.length cap] 24)).alloc (.cells #[.string ByteArray.empty, .int .i64 0, .int .i64 0, .slice none 0 0] 24)).heap.size = w.heap.size + 1 + 1 := by simp
  rw [World.size_alloc] at x1
  clear h q2 hr
  go_enter Tryd.func11, Tryd.ntmps11
  go_wp2_with fail
  refine (HI.out _ b0).mono ?_
  rintro e w0 ⟨rfl, hb0⟩
  rw [hs0] at hb0
  have B0 := b0.trans (hb0.mono (by omega))
  have hs1 := hb0.size
  rw [hs0] at hs1
  have x1 := x1.below hb0 (by omega)
  have z1 := z1.below hb0 (by omega)
  have c3 := z1.c3
  clear HI b0 hb0 hs0
  go_wp2_with fail
  refine (HC.out w0 B0).mono ?_
  rintro e w1 ⟨rfl, hb1⟩
  have B1 := B0.trans (hb1.mono (by omega))
  have hs2 := hb1.size
  have y1 := x1.below hb1 (by omega)
  have t1 := z1.below hb1 (by omega)
  have c3 := t1.c3
  have e0 := t1.c0
  have g0 := t1.fz 0
  have B2 := B1.setCell (p := ⟨w.heap.size, 0, none⟩) (Nat.le_refl _) (.string ref)
  have t2 := t1.set0 ref
  have y2 := y1.other (b' := w.heap.size) (o := 0) (u := .string ref) (by omega)
  have hsz2 : (w1.setCell ⟨w.heap.size, 0, none⟩ (.string ref)).heap.size = w1.heap.size := by simp
  have Ht2 : Hid (Box4 _ _ _ _ _ _) := t2
  have Hy2 : Hid (Box4 _ _ _ _ _ _) := y2
  have HB2 : Hid (Below _ _ _) := B2
  clear HC B0 x1 hb1 z1 t2 y2 B2 y1 t1
  go_wp2_with fail
  refine (HE.out _ HB2.out).mono ?_
  rintro e w3 ⟨v3, rfl, r3, b3⟩
  rw [hsz2] at r3 b3
  obtain ⟨a3, k3, rfl, _⟩ := r3.isLn
  have B3 := HB2.out.trans (b3.mono (by omega))
  have y3 := Hy2.out.below b3 (by omega)
  have t3 := Ht2.out.below b3 (by omega)
  have d0 := y3.c0
  have d1 := y3.c1
  have d2 := y3.c2
  have d3 := y3.c3
  have f0 := y3.fz 0
  have f1 := y3.fz 1
  have f2 := y3.fz 2
  have f3 := y3.fz 3
  have e0 := t3.c0
  have e1 := t3.c1
  have e2 := t3.c2
  have e3 := t3.c3
  have g3 := t3.fz 3
  have HR : Hid (LnRow w3 w1.heap.size (.slice a3 (l.map turnL).length k3) (l.map turnL)) := r3
  generalize (l.map turnL).length = m3 at *
  have hlt1 : w.heap.size < w1.heap.size := by omega
  have hlt2 : w.heap.size + 1 < w1.heap.size := by omega
  clear r3 b3 Ht2 Hy2 y3 t3 HB2 hsz2
  go_wp2
  exact bodyPost_ret (v := .tuple #[.agg #[.string ref, .int .i64 en, .int .i64 pe, .slice a3 m3 k3], .nilIface]) (by simp [results, Tryd.results11, go_sem, d0, d1, d2, d3]) rfl ⟨_, rfl, LnRow.mono (LnRow.setOther (b := w.heap.size + 1) (o := 3) (LnRow.setOther (b := w.heap.size + 1) (o := 2) (LnRow.setOther (b := w.heap.size + 1) (o := 1) (LnRow.setOther (b := w.heap.size + 1) (o := 0) (LnRow.setOther (b := w.heap.size) (o := 3) HR.out hlt1) hlt2) hlt2) hlt2) hlt2) (by omega), (((((B3.setCell (p := ⟨w.heap.size, 3, none⟩) (by simp) _).setCell (p := ⟨w.heap.size + 1, 0, none⟩) (by simp) _).setCell (p := ⟨w.heap.size + 1, 1, none⟩) (by simp) _).setCell (p := ⟨w.heap.size + 1, 2, none⟩) (by simp) _).setCell (p := ⟨w.heap.size + 1, 3, none⟩) (by simp) _)⟩
end Go.Proofs.YtenbeffmanccoaaDoor
