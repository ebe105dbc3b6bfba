/-
  Plans; the contracts of accrue.isSpread, accrue.part, accrue.Part.
-/
import Derived.Test.YtdadhoangnkfeaaDoorIs
import Derived.Deep.QuietTactic
import Derived.BigQuiet
namespace Go.Proofs.YtdadhoangnkfeaaDoor
set_option linter.unusedVariables false
set_option linter.unusedSimpArgs false
set_option maxRecDepth 100000
open Go.RowKit Go.Lib

/-- A plan. -/
structure Pn where
  ref : ByteArray
  ent : Int
  src : ByteArray
  dst : ByteArray
  cur : ByteArray
  amt : Int
  fst : Int
  per : Int
def pn0 : Pn := ⟨ByteArray.empty, 0, ByteArray.empty, ByteArray.empty, ByteArray.empty, 0, 0, 0⟩
def Pn.cells (p : Pn) : Array Value := #[.string p.ref, .int .i64 p.ent, .string p.src, .string p.dst, .string p.cur, .int .i64 p.amt, .int .i64 p.fst, .int .i64 p.per]
structure PnAt (w : World) (b off : Nat) (p : Pn) : Prop where
  c0 : w.cell? ⟨b, off, none⟩ = some (.string p.ref)
  c1 : w.cell? ⟨b, off + 1, none⟩ = some (.int .i64 p.ent)
  c2 : w.cell? ⟨b, off + 2, none⟩ = some (.string p.src)
  c3 : w.cell? ⟨b, off + 3, none⟩ = some (.string p.dst)
  c4 : w.cell? ⟨b, off + 4, none⟩ = some (.string p.cur)
  c5 : w.cell? ⟨b, off + 5, none⟩ = some (.int .i64 p.amt)
  c6 : w.cell? ⟨b, off + 6, none⟩ = some (.int .i64 p.fst)
  c7 : w.cell? ⟨b, off + 7, none⟩ = some (.int .i64 p.per)
theorem PnAt.below {w w' : World} {b off n : Nat} {p : Pn} (h : PnAt w b off p) (hb : Below n w w') (hn : b < n) : PnAt w' b off p :=
  ⟨(hb.cell (p := ⟨b, off, none⟩) hn).trans h.c0, (hb.cell (p := ⟨b, off + 1, none⟩) hn).trans h.c1, (hb.cell (p := ⟨b, off + 2, none⟩) hn).trans h.c2, (hb.cell (p := ⟨b, off + 3, none⟩) hn).trans h.c3, (hb.cell (p := ⟨b, off + 4, none⟩) hn).trans h.c4, (hb.cell (p := ⟨b, off + 5, none⟩) hn).trans h.c5, (hb.cell (p := ⟨b, off + 6, none⟩) hn).trans h.c6, (hb.cell (p := ⟨b, off + 7, none⟩) hn).trans h.c7⟩
theorem PnAt.new (w : World) (p : Pn) (t : TypeId) : PnAt (w.alloc (.cells p.cells t)) w.heap.size 0 p :=
  ⟨by simp [Pn.cells], by simp [Pn.cells], by simp [Pn.cells], by simp [Pn.cells], by simp [Pn.cells], by simp [Pn.cells], by simp [Pn.cells], by simp [Pn.cells]⟩

/-- A slice of plans. -/
structure IsPn (w : World) (a : Option Addr) (l : List Pn) (cap : Nat) : Prop where
  cap : l.length ≤ cap
  lies : l = [] ∨ ∃ b off, a = some ⟨b, off, none⟩ ∧ b < w.heap.size ∧ ∀ k, k < l.length → PnAt w b (off + k * 8) (l.getD k pn0)
theorem IsPn.below {w w' : World} {a : Option Addr} {l : List Pn} {cap : Nat} (h : IsPn w a l cap) (hb : Below w.heap.size w w') : IsPn w' a l cap := by
  refine ⟨h.cap, ?_⟩
  rcases h.lies with h | ⟨b, off, e, hlt, hc⟩
  · exact .inl h
  · exact .inr ⟨b, off, e, by have := hb.size; omega, fun k hk => (hc k hk).below hb hlt⟩
theorem IsPn.at {w : World} {a : Option Addr} {l : List Pn} {cap : Nat} (h : IsPn w a l cap) {k : Nat} (hk : k < l.length) : ∃ b off, a = some ⟨b, off, none⟩ ∧ b < w.heap.size ∧ PnAt w b (off + k * 8) (l.getD k pn0) := by
  rcases h.lies with rfl | ⟨b, off, e, hlt, hc⟩
  · simp at hk
  · exact ⟨b, off, e, hlt, hc k hk⟩
theorem IsPn.take {w : World} {a : Option Addr} {l : List Pn} {cap : Nat} (h : IsPn w a l cap) (k : Nat) : IsPn w a (l.take k) cap := by
  refine ⟨by have := h.cap; simp; omega, ?_⟩
  rcases h.lies with h | ⟨b, off, e, hlt, hc⟩
  · exact .inl (by rw [h]; simp)
  · refine .inr ⟨b, off, e, hlt, fun j hj => ?_⟩
    simp only [List.length_take] at hj
    have : (l.take k).getD j pn0 = l.getD j pn0 := by
      rw [List.getD_eq_getElem?_getD, List.getD_eq_getElem?_getD, List.getElem?_take, if_pos (by omega)]
    rw [this]
    exact hc j (by omega)

/-- Can a plan's amount be spread? -/
def spreadB (am fs pr : Int) : Bool := decide (am ≠ 0) && (isAmtB am && (upTo pr 120 && upTo fs 120))
theorem spreadB_iff {am fs pr : Int} : spreadB am fs pr = true ↔ am ≠ 0 ∧ (-mostA ≤ am ∧ am ≤ mostA) ∧ (1 ≤ pr ∧ pr ≤ 120) ∧ (1 ≤ fs ∧ fs ≤ 120) := by
  simp only [spreadB, Bool.and_eq_true, decide_eq_true_eq, isAmtB_iff, upTo_iff]
/-- The part of a period. -/
def partN (am fs pr pe : Int) : Int := if pe - fs < 0 ∨ pr ≤ pe - fs then 0 else (am * (pe - fs + 1)).tdiv pr - (am * (pe - fs)).tdiv pr

theorem pn_wrap {x : Int} (h1 : -9223372036854775808 ≤ x) (h2 : x ≤ 9223372036854775807) : IntKind.i64.wrap x = x := by
  simp only [IntKind.wrap, IntKind.bits, IntKind.signed]
  simp
  omega
theorem pn_mul {am k : Int} (h : -mostA ≤ am ∧ am ≤ mostA) (h0 : 0 ≤ k) (h1 : k ≤ 120) : -120000000000000000 ≤ am * k ∧ am * k ≤ 120000000000000000 := by
  unfold mostA at h
  have a1 : am * k ≤ 1000000000000000 * k := Int.mul_le_mul_of_nonneg_right h.2 h0
  have a2 : -1000000000000000 * k ≤ am * k := Int.mul_le_mul_of_nonneg_right h.1 h0
  omega
theorem pn_tdiv {x p b : Int} (hb : -b ≤ x ∧ x ≤ b) (hp : 1 ≤ p) : -b ≤ x.tdiv p ∧ x.tdiv p ≤ b := by
  have key : ∀ a : Int, 0 ≤ a → 0 ≤ a.tdiv p ∧ a.tdiv p ≤ a := fun a ha => by
    rw [Int.tdiv_eq_ediv_of_nonneg ha]
    exact ⟨Int.ediv_nonneg ha (by omega), Int.ediv_le_self _ ha⟩
  by_cases h : 0 ≤ x
  · have := key x h; omega
  · have := key (-x) (by omega)
    rw [Int.neg_tdiv] at this
    omega

theorem isSpread_any (p : Pn) (w : World) :
    Calls Tryd.prog 7 #[.agg p.cells] w fun e w' => e = .returned (.bool (spreadB p.amt p.fst p.per)) ∧ Below w.heap.size w w' := by
  have b0 : Below w.heap.size w (w.alloc (.cells p.cells 23)) := (Below.refl _ w).alloc (Nat.le_refl _) _
  have H1 : Hid (∀ W, Calls Tryd.prog 14 #[.int .i64 p.amt] W fun e w' => e = .returned (.bool (isAmtB p.amt)) ∧ w' = W) := fun W => isAmount_any _ W
  have H2 : Hid (∀ W, Calls Tryd.prog 8 #[.int .i64 p.per] W fun e w' => e = .returned (.bool (upTo p.per 120)) ∧ w' = W) := fun W => isPeriod_any _ W
  have H3 : Hid (∀ W, Calls Tryd.prog 8 #[.int .i64 p.fst] W fun e w' => e = .returned (.bool (upTo p.fst 120)) ∧ w' = W) := fun W => isPeriod_any _ W
  obtain ⟨ref, en, fr, tw, cu, am, fs, pr⟩ := p
  obtain ⟨d0, d1, d2, d3, d4, d5, d6, d7⟩ := PnAt.new w ⟨ref, en, fr, tw, cu, am, fs, pr⟩ 23
  simp only [Pn.cells, Nat.zero_add] at b0 d0 d1 d2 d3 d4 d5 d6 d7 H1 H2 H3 ⊢
  obtain ⟨res, hres⟩ : ∃ res, spreadB am fs pr = res := ⟨_, rfl⟩
  have Hres : Hid (spreadB am fs pr = res) := hres
  rw [hres]
  clear hres
  by_cases h0 : am = 0
  · have er : res = false := by rw [← Hres.out]; simp [spreadB, h0]
    subst er
    subst h0
    clear Hres
    go_enter Tryd.func7, Tryd.ntmps7
    go_wp2
    go_ret
    exact ⟨rfl, b0⟩
  have h0' : (am != 0) = true := by simpa using h0
  have h0'' : (am == 0) = false := by simpa using h0
  have HR1 : Hid ((isAmtB am && (upTo pr 120 && upTo fs 120)) = res) := by
    rw [← Hres.out]; unfold spreadB Hid; rw [decide_eq_true h0, Bool.true_and]
  clear Hres
  cases h1 : isAmtB am
  · have er : res = false := by rw [← HR1.out, h1]; rfl
    subst er
    rw [h1] at H1
    clear HR1
    go_enter Tryd.func7, Tryd.ntmps7
    go_wp2_with (go_at_call 14; refine (H1.out _).mono ?_; rintro e w' ⟨rfl, rfl⟩)
    go_ret
    exact ⟨rfl, b0⟩
  rw [h1] at H1
  cases h2 : upTo pr 120
  · have er : res = false := by rw [← HR1.out, h1, h2]; rfl
    subst er
    rw [h2] at H2
    clear HR1
    go_enter Tryd.func7, Tryd.ntmps7
    go_wp2_with (first | (go_at_call 14; refine (H1.out _).mono ?_; rintro e w' ⟨rfl, rfl⟩) | (go_at_call 8; refine (H2.out _).mono ?_; rintro e w' ⟨rfl, rfl⟩))
    go_ret
    exact ⟨rfl, b0⟩
  rw [h2] at H2
  have er : res = upTo fs 120 := by rw [← HR1.out, h1, h2]; rfl
  subst er
  clear HR1
  go_enter Tryd.func7, Tryd.ntmps7
  go_wp2_with (go_at_call 14; refine (H1.out _).mono ?_; rintro e w' ⟨rfl, rfl⟩)
  refine (H2.out _).mono ?_
  rintro e w' ⟨rfl, hw⟩
  rw [hw]; clear hw w' H2
  go_wp2_with fail
  refine (H3.out _).mono ?_
  rintro e w' ⟨rfl, hw⟩
  rw [hw]; clear hw w' H3
  go_wp2
  go_ret
  exact ⟨rfl, b0⟩
set_option maxHeartbeats 2000000 in
theorem plPart_any (p : Pn) (pe : Int) (w : World) (h : spreadB p.amt p.fst p.per = true) (hp : upTo pe 120 = true) :
    Calls Tryd.prog 9 #[.agg p.cells, .int .i64 pe] w fun e w' => e = .returned (.int .i64 (partN p.amt p.fst p.per pe)) ∧ Below w.heap.size w w' := by
  have b0 : Below w.heap.size w (w.alloc (.cells p.cells 23)) := (Below.refl _ w).alloc (Nat.le_refl _) _
  obtain ⟨ref, en, fr, tw, cu, am, fs, pr⟩ := p
  obtain ⟨d0, d1, d2, d3, d4, d5, d6, d7⟩ := PnAt.new w ⟨ref, en, fr, tw, cu, am, fs, pr⟩ 23
  simp only [Pn.cells, Nat.zero_add] at b0 d0 d1 d2 d3 d4 d5 d6 d7 h ⊢
  obtain ⟨_, ha, hq, hf⟩ := spreadB_iff.1 h
  have hp' := upTo_iff.1 hp
  have HB : Hid (∀ n, Below w.heap.size w ((w.alloc (.cells #[.string ref, .int .i64 en, .string fr, .string tw, .string cu, .int .i64 am, .int .i64 fs, .int .i64 pr] 23)).drewN n)) := fun n => b0.trans ⟨rfl, rfl, rfl, Nat.le_refl _, fun _ _ => rfl⟩
  have e0 : IntKind.i64.wrap (pe - fs) = pe - fs := pn_wrap (by omega) (by omega)
  by_cases c1 : pe - fs < 0
  · have er : partN am fs pr pe = 0 := by unfold partN; rw [if_pos (.inl c1)]
    rw [er]
    clear h hp er HB
    go_enter Tryd.func9, Tryd.ntmps9
    go_wp2
    go_ret
    exact ⟨rfl, b0⟩
  by_cases c2 : pr ≤ pe - fs
  · have er : partN am fs pr pe = 0 := by unfold partN; rw [if_pos (.inr c2)]
    rw [er]
    clear h hp er HB
    go_enter Tryd.func9, Tryd.ntmps9
    go_wp2
    go_ret
    exact ⟨rfl, b0⟩
  have er : partN am fs pr pe = (am * (pe - fs + 1)).tdiv pr - (am * (pe - fs)).tdiv pr := by unfold partN; rw [if_neg (by omega)]
  rw [er]
  obtain ⟨k, hk⟩ : ∃ k, pe - fs = k := ⟨_, rfl⟩
  have f0 : IntKind.i64.wrap (pe - fs) = k := e0.trans hk
  rw [hk] at c1 c2 ⊢
  have k1 : k ≤ 119 := by omega
  have m1 := pn_mul ha (k := k + 1) (by omega) (by omega)
  have m0 := pn_mul ha (k := k) (by omega) (by omega)
  have q1 := pn_tdiv m1 hq.1
  have q0 := pn_tdiv m0 hq.1
  have e1 : IntKind.i64.wrap (k + 1) = k + 1 := pn_wrap (by omega) (by omega)
  have e2 : IntKind.i64.wrap (am * (k + 1)) = am * (k + 1) := pn_wrap (by omega) (by omega)
  have e3 : IntKind.i64.wrap (am * k) = am * k := pn_wrap (by omega) (by omega)
  have e4 : IntKind.i64.wrap ((am * (k + 1)).tdiv pr) = (am * (k + 1)).tdiv pr := pn_wrap (by omega) (by omega)
  have e5 : IntKind.i64.wrap ((am * k).tdiv pr) = (am * k).tdiv pr := pn_wrap (by omega) (by omega)
  have e6 : IntKind.i64.wrap ((am * (k + 1)).tdiv pr - (am * k).tdiv pr) = (am * (k + 1)).tdiv pr - (am * k).tdiv pr := pn_wrap (by omega) (by omega)
  have n0 : (pr == 0) = false := by rw [beq_eq_false_iff_ne]; omega
  have n1 : (pr == -1) = false := by rw [beq_eq_false_iff_ne]; omega
  clear h hp er m1 m0 q1 q0 ha hf hp' k1 hk e0
  go_enter Tryd.func9, Tryd.ntmps9
  go_wp2_with fail
  go_quiet (fail)
  go_wp2
  go_ret
  exact ⟨rfl, HB.out _⟩
theorem planPart_ok (p : Pn) (pe : Int) (w : World) (h : spreadB p.amt p.fst p.per = true) (hp : upTo pe 120 = true) :
    Calls Tryd.prog 4 #[.agg p.cells, .int .i64 pe] w fun e w' => e = .returned (.tuple #[.int .i64 (partN p.amt p.fst p.per pe), .nilIface]) ∧ Below w.heap.size w w' := by
  have b0 : Below w.heap.size w (w.alloc (.cells p.cells 23)) := (Below.refl _ w).alloc (Nat.le_refl _) _
  have hx := PnAt.new w p 23
  have HS : Hid (Calls _ _ _ _ _) := isSpread_any p (w.alloc (.cells p.cells 23))
  have HP : Hid (∀ W, Calls Tryd.prog 8 #[.int .i64 pe] W fun e w' => e = .returned (.bool (upTo pe 120)) ∧ w' = W) := fun W => isPeriod_any _ W
  have HT : Hid (∀ W, Below (w.alloc (.cells p.cells 23)).heap.size (w.alloc (.cells p.cells 23)) W → Calls Tryd.prog 9 #[.agg p.cells, .int .i64 pe] W fun e w' => e = .returned (.int .i64 (partN p.amt p.fst p.per pe)) ∧ Below w.heap.size w w') := fun W hW => by
    refine (plPart_any p pe W h hp).mono ?_
    rintro e w' ⟨rfl, hb⟩
    exact ⟨rfl, (b0.trans (hW.mono b0.size)).trans (hb.mono (by have := hW.size; simp at this; omega))⟩
  have HA : Hid (∀ W, Below (w.alloc (.cells p.cells 23)).heap.size (w.alloc (.cells p.cells 23)) W → PnAt W w.heap.size 0 p) := fun W hW => hx.below hW (by simp)
  rw [h] at HS
  rw [hp] at HP
  clear h hp b0
  obtain ⟨res, hres⟩ : ∃ res, partN p.amt p.fst p.per pe = res := ⟨_, rfl⟩
  rw [hres] at HT ⊢
  clear hres
  obtain ⟨ref, en, fr, tw, cu, am, fs, pr⟩ := p
  obtain ⟨d0, d1, d2, d3, d4, d5, d6, d7⟩ := hx
  simp only [Pn.cells, Nat.zero_add] at d0 d1 d2 d3 d4 d5 d6 d7 HS HT HA ⊢
  go_enter Tryd.func4, Tryd.ntmps4
  go_wp2_with fail
  refine HS.out.mono ?_
  rintro e w1 ⟨rfl, hb1⟩
  clear d0 d1 d2 d3 d4 d5 d6 d7
  obtain ⟨d0, d1, d2, d3, d4, d5, d6, d7⟩ := HA.out w1 hb1
  simp only [Nat.zero_add] at d0 d1 d2 d3 d4 d5 d6 d7
  have HT1 : Hid (Calls _ _ _ _ _) := HT.out w1 hb1
  clear HS HA HT hb1
  go_wp2_with fail
  refine (HP.out _).mono ?_
  rintro e w' ⟨rfl, hw⟩
  rw [hw]; clear hw w' HP
  go_wp2_with fail
  refine HT1.out.mono ?_
  rintro e w2 ⟨rfl, hb2⟩
  clear HT1 d0 d1 d2 d3 d4 d5 d6 d7
  go_wp2
  go_ret2
  exact ⟨rfl, hb2⟩
theorem planPart_bad (p : Pn) (pe : Int) (w : World) (h : (spreadB p.amt p.fst p.per && upTo pe 120) = false) :
    Calls Tryd.prog 4 #[.agg p.cells, .int .i64 pe] w fun e w' => e = .returned (.tuple #[.int .i64 0, .iface 37 (.int .i64 1)]) ∧ Below w.heap.size w w' := by
  have b0 : Below w.heap.size w (w.alloc (.cells p.cells 23)) := (Below.refl _ w).alloc (Nat.le_refl _) _
  have hx := PnAt.new w p 23
  have HS : Hid (Calls _ _ _ _ _) := isSpread_any p (w.alloc (.cells p.cells 23))
  have HP : Hid (∀ W, Calls Tryd.prog 8 #[.int .i64 pe] W fun e w' => e = .returned (.bool (upTo pe 120)) ∧ w' = W) := fun W => isPeriod_any _ W
  have HB : Hid (∀ W, Below (w.alloc (.cells p.cells 23)).heap.size (w.alloc (.cells p.cells 23)) W → Below w.heap.size w W) := fun W hW => b0.trans (hW.mono b0.size)
  clear b0
  obtain ⟨ref, en, fr, tw, cu, am, fs, pr⟩ := p
  obtain ⟨d0, d1, d2, d3, d4, d5, d6, d7⟩ := hx
  simp only [Pn.cells, Nat.zero_add] at d0 d1 d2 d3 d4 d5 d6 d7 HS HB h ⊢
  cases hs : spreadB am fs pr
  · rw [hs] at HS
    clear h hs
    go_enter Tryd.func4, Tryd.ntmps4
    go_wp2_with fail
    refine HS.out.mono ?_
    rintro e w1 ⟨rfl, hb1⟩
    have HB1 : Hid _ := HB.out w1 hb1
    clear HS HB HP d0 d1 d2 d3 d4 d5 d6 d7 hb1
    go_wp2
    go_ret2
    exact ⟨rfl, HB1.out⟩
  · rw [hs] at HS h
    rw [Bool.true_and] at h
    rw [h] at HP
    clear h hs
    go_enter Tryd.func4, Tryd.ntmps4
    go_wp2_with fail
    refine HS.out.mono ?_
    rintro e w1 ⟨rfl, hb1⟩
    have HB1 : Hid _ := HB.out w1 hb1
    clear HS HB d0 d1 d2 d3 d4 d5 d6 d7 hb1
    go_wp2_with fail
    refine (HP.out _).mono ?_
    rintro e w' ⟨rfl, hw⟩
    rw [hw]; clear hw w' HP
    go_wp2
    go_ret2
    exact ⟨rfl, HB1.out⟩
end Go.Proofs.YtdadhoangnkfeaaDoor
