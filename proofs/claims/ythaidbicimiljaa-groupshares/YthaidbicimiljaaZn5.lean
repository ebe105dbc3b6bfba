/-
  Rates in a map: its keys are two currencies and a period, its elements two numbers; what a look-up and a store do. What rate.table comes to.
-/
import Derived.Test.YthaidbicimiljaaZn4
import Derived.Test.YthaidbicimiljaaZn1
import Derived.Test.YthaidbicimiljaaZn3
import Derived.Test.YthaidbicimiljaaZn0
import Derived.Test.YthaidbicimiljaaProg
import Derived.WalkKit
import Derived.WalkSpells
import Derived.Below
import Derived.Lib.OthersKept
import Derived.Lib.TrimU
import Derived.Deep.LoopGhost
import Derived.Maps.OwnSet
import Derived.DeepKeys4
namespace Go.Proofs.Ythaidbicimiljaa
set_option linter.unusedVariables false
set_option linter.unusedSimpArgs false
set_option maxRecDepth 100000
open Go.RowKit Go.Lib Math

theorem st1_any (x : Ac) (c : ByteArray) (B : Nat) (w : World) (hB : w.cell? ⟨B, 1, none⟩ = some (.string c)) (hlt : B < w.heap.size) :
    Calls Try.prog 18 #[.agg x.cells, .pointer (some ⟨B, 0, none⟩)] w fun e w' => e = .returned (.bool (hasCode c x)) ∧ Below w.heap.size w w' := by
  obtain ⟨a0, a1, a2, a3, a4⟩ := x
  have b0 : Below w.heap.size w (w.alloc (.cells #[.string a0, .string a1, .int .i64 a2, .string a3, .bool a4] 53)) := (Below.refl _ w).alloc (Nat.le_refl _) _
  have hB2 : (w.alloc (.cells #[.string a0, .string a1, .int .i64 a2, .string a3, .bool a4] 53)).cell? ⟨B, 1, none⟩ = some (.string c) := (b0.cell (p := ⟨B, 1, none⟩) hlt).trans hB
  simp only [Ac.cells]
  by_cases h : a0 = c
  · subst h
    have e1 : hasCode a0 ⟨a0, a1, a2, a3, a4⟩ = true := by simp [hasCode]
    rw [e1]
    go_enter Try.func18, Try.ntmps18
    go_wp2
    go_ret
    exact ⟨rfl, b0⟩
  · have e1 : hasCode c ⟨a0, a1, a2, a3, a4⟩ = false := by simp [hasCode, h]
    have h' := ch_ne h
    rw [e1]
    go_enter Try.func18, Try.ntmps18
    go_wp2
    go_ret
    exact ⟨by rw [← h']; rfl, b0⟩
theorem st1_tells (c : ByteArray) (B : Nat) (w : World) (hB : w.cell? ⟨B, 1, none⟩ = some (.string c)) (hlt : B < w.heap.size) : Tells 18 B (hasCode c) w :=
  ⟨fun args W => enters Try.func18 (by kernel_rfl) ⟨_, rfl⟩ args W, fun x W hW => st1_any x c B W ((hW.cell (p := ⟨B, 1, none⟩) hlt).trans hB) (by have := hW.size; omega)⟩

/-- What is wrong with a statement. -/
def stE (c : List Ac) (l : List Bl) (ent : Int) (cur : ByteArray) : Int := if chBad c ≠ 0 then chBad c else if chk l ≠ 0 then chk l else if l.any (amNo c ent cur) = true then 6 else if rollOk c (amTo c ent cur l) c.length = true then 0 else 10
def StEnd (c : List Ac) (l : List Bl) (ent : Int) (cur : ByteArray) (w : World) (e : Ending) (w' : World) : Prop :=
  Below w.heap.size w w' ∧ (stE c l ent cur ≠ 0 → e = .returned (.tuple #[.slice none 0 0, enE (stE c l ent cur)])) ∧ (stE c l ent cur = 0 → ∃ g, e = .returned (.tuple #[.slice (some ⟨g, 0, none⟩) c.length c.length, .nilIface]) ∧ Hid (IRow w' g ((List.range c.length).map (rollI c (amTo c ent cur l)))))

set_option maxHeartbeats 4000000 in
theorem statement_any (a1 a2 : Option Addr) (c1 c2 : Nat) (c : List Ac) (l : List Bl) (ent : Int) (cur : ByteArray) (w : World) (hc : IsSl w a1 c c1) (hl : IsBl w a2 l c2) (ll : l.length ≤ 9223372036854775807) :
    Calls Try.prog 6 #[.slice a1 c.length c1, .slice a2 l.length c2, .int .i64 ent, .string cur] w (StEnd c l ent cur w) := by
  have HLc : Hid (IsSl w a1 c c1) := hc
  have HLl : Hid (IsBl w a2 l c2) := hl
  have HC1 : Hid (Calls Try.prog 11 #[.slice a1 c.length c1] w fun e w' => e = .returned (chE (chBad c)) ∧ Below w.heap.size w w') := chCheck_any a1 c1 c w hc
  have HC2 : Hid (∀ U, Below w.heap.size w U → Calls Try.prog 16 #[.slice a2 l.length c2] U fun e w' => e = .returned (enE (chk l)) ∧ Below U.heap.size U w') := fun U hU => ldCheck_any a2 c2 l U ll (hl.below hU)
  clear hc hl
  by_cases h1 : chBad c = 0
  case neg =>
    have em : stE c l ent cur = chBad c := by unfold stE; rw [if_pos h1]
    unfold StEnd
    rw [em]
    rw [chE_ne h1] at HC1
    rw [enE_ne h1]
    clear em
    generalize chBad c = q at *
    go_enter Try.func6, Try.ntmps6
    go_wp2_with fail
    refine HC1.out.mono ?_
    rintro e w1 ⟨rfl, hb1⟩
    have HB1 : Hid (Below w.heap.size w w1) := hb1
    clear hb1
    go_wp2
    go_ret2
    exact ⟨HB1.out, fun _ => rfl, fun h => absurd h h1⟩
  rw [h1, chE_zero] at HC1
  by_cases h2 : chk l = 0
  case neg =>
    have em : stE c l ent cur = chk l := by unfold stE; rw [if_neg (by simp [h1]), if_pos h2]
    unfold StEnd
    rw [em]
    rw [enE_ne h2] at HC2 ⊢
    clear em h1
    generalize chk l = q at *
    go_enter Try.func6, Try.ntmps6
    go_wp2_with fail
    refine HC1.out.mono ?_
    rintro e w1 ⟨rfl, hb1⟩
    have HB1 : Hid (Below w.heap.size w w1) := hb1
    clear hb1
    go_wp2_with fail
    refine (HC2.out w1 HB1.out).mono ?_
    rintro e w2 ⟨rfl, hb2⟩
    have HB2 : Hid (Below w.heap.size w w2) := HB1.out.trans (hb2.mono HB1.out.size)
    clear hb2
    go_wp2
    go_ret2
    exact ⟨HB2.out, fun _ => rfl, fun h => absurd h h2⟩
  rw [h2, enE_zero] at HC2
  have lc := chBad_len h1
  have HFl : Hid (Fine l) := chk_zero.1 h2
  have HSt : Hid (stE c l ent cur = if l.any (amNo c ent cur) = true then 6 else if rollOk c (amTo c ent cur l) c.length = true then 0 else 10) := by
    unfold Hid stE
    rw [if_neg (by simp [h1]), if_neg (by simp [h2])]
  have HCh : Hid (chBad c = 0) := h1
  have ll2 := HFl.out.len
  clear h1 h2 ll
  have hmk := fun w => run_make_row' (P := Try.prog) 25 3 (.int .i64 0) 8 Try.underlying25 int_info rfl .i64 .i64 c.length (by omega) (by omega) w
  go_enter Try.func6, Try.ntmps6
  go_wp2_with fail
  refine HC1.out.mono ?_
  rintro e w1 ⟨rfl, hb1⟩
  have HB1 : Hid (Below w.heap.size w w1) := hb1
  clear hb1 HC1
  go_wp2_with fail
  refine (HC2.out w1 HB1.out).mono ?_
  rintro e w2 ⟨rfl, hb2⟩
  have HB2 : Hid (Below w.heap.size w w2) := HB1.out.trans (hb2.mono HB1.out.size)
  clear hb2 HC2 HB1
  have HB0 : Hid (Below w.heap.size w (w2.alloc (.cells (madeCells #[.int .i64 0] c.length) 3))) := HB2.out.alloc HB2.out.size _
  have HR0 : Hid (IRow (w2.alloc (.cells (madeCells #[.int .i64 0] c.length) 3)) w2.heap.size (amTo c ent cur (l.take 0))) := by
    have hrow := irow_made w2 c.length
    unfold Hid amTo
    rw [List.take_zero]
    exact hrow
  have HGw : Hid (w.heap.size ≤ w2.heap.size) := HB2.out.size
  clear HB2
  go_wp2_with fail
  clear hmk
  generalize w2.heap.size = G at *
  go_loopw [31] (fun i wr => ∃ k : Nat, k ≤ l.length ∧ i = .int .i64 k ∧ Hid (IRow wr G (amTo c ent cur (l.take k)) ∧ Below w.heap.size w wr ∧ (l.take k).any (amNo c ent cur) = false)) (fun i _ => l.length - (RowKit.intOf i).toNat)
  case atStart => exact ⟨0, Nat.zero_le _, rfl, HR0.out, HB0.out, by simp⟩
  case round =>
    obtain ⟨k, hk, rfl, HR⟩ := hrel
    clear HR0 HB0
    by_cases hlt : k < l.length
    · obtain ⟨b, off, rfl, hb, hcc⟩ := HLl.out.some hlt
      have hx := (hcc k hlt).below HR.out.2.1 hb
      have i0 : (0 : Int) ≤ k := by omega
      have i3 : (k : Int) < l.length := by omega
      have hsn := amTo_snoc c ent cur l k hlt
      have hany := amAny_snoc (amNo c ent cur) l k hlt
      have hbad := any_of_at (p := amNo c ent cur) hlt
      obtain ⟨x, hxx⟩ : ∃ x, l.getD k bl0 = x := ⟨_, rfl⟩
      rw [hxx] at hx hsn hany hbad
      rw [HR.out.2.2, Bool.false_or] at hany
      have HSn : Hid (amTo c ent cur (l.take (k + 1)) = amAt c ent cur (amTo c ent cur (l.take k)) x) := hsn
      have HAn : Hid ((l.take (k + 1)).any (amNo c ent cur) = amNo c ent cur x) := hany
      have HBd : Hid (amNo c ent cur x = true → l.any (amNo c ent cur) = true) := hbad
      clear hxx hcc hsn hany hbad
      obtain ⟨Z, hZ⟩ : ∃ Z, wr.alloc (.cells x.cells 33) = Z := ⟨_, rfl⟩
      have hbZ : Below wr.heap.size wr Z := by rw [← hZ]; exact (Below.refl _ _).alloc (Nat.le_refl _) _
      have hbt : BlAt Z wr.heap.size 0 x := by rw [← hZ]; exact BlAt.new wr x 33
      have hszZ : wr.heap.size < Z.heap.size := by rw [← hZ]; simp
      have hRZ := irow_below HR.out.1 hbZ (irow_lt HR.out.1)
      have hBZ : Below w.heap.size w Z := HR.out.2.1.trans (hbZ.mono HR.out.2.1.size)
      have HGZ : Hid (G < Z.heap.size) := irow_lt hRZ
      have HZ : Hid (wr.alloc (.cells x.cells 33) = Z) := hZ
      have HRZ : Hid (IRow Z G (amTo c ent cur (l.take k)) ∧ Below w.heap.size w Z) := ⟨hRZ, hBZ⟩
      have HBt : Hid (BlAt Z wr.heap.size 0 x ∧ wr.heap.size < Z.heap.size) := ⟨hbt, hszZ⟩
      clear hZ hbZ hRZ hBZ hszZ
      by_cases hof : isOf ent cur x = true
      · have ho2 : x.ent = ent ∧ x.cur = cur := by simpa [isOf] using hof
        have HAt : Hid (Calls Try.prog 17 #[.slice a1 c.length c1, .func (.func 18) #[] #[.pointer (some ⟨wr.heap.size, 0, none⟩)]] Z fun e w' => e = .returned (.int .i64 (amIx c x)) ∧ Below Z.heap.size Z w') :=
          chIdx_any 18 wr.heap.size (hasCode x.acc) a1 c1 c Z (st1_tells x.acc wr.heap.size Z (by obtain ⟨_, q1, _, _⟩ := HBt.out.1; rwa [Nat.zero_add] at q1) HBt.out.2) (by omega) (HLc.out.below HRZ.out.2)
        by_cases hneg : amIx c x < 0
        · have hE1 : stE c l ent cur = 6 := by rw [HSt.out, if_pos (HBd.out (by simp [amNo, hof, hneg]))]
          generalize amIx c x = ix at *
          obtain ⟨x0, x1, x2, x3⟩ := x
          obtain ⟨d0, d1, d2, d3⟩ := hx
          obtain ⟨f0, f1, f2, f3⟩ := hbt
          simp only [Bl.cells, Nat.zero_add] at d0 d1 d2 d3 f0 f1 f2 f3 ho2 HAt HZ
          obtain ⟨rfl, rfl⟩ := ho2
          unfold StEnd
          rw [hE1, enE_ne (by decide)]
          clear hof HSn HAn HBd HR HSt hE1
          go_wp2_with (go_at_call 17; rw [HZ.out]; refine HAt.out.mono ?_; rintro e w' ⟨rfl, hw'⟩)
          have HBB : Hid (Below w.heap.size w w') := HRZ.out.2.trans (hw'.mono HRZ.out.2.size)
          go_ret2
          exact ⟨HBB.out, fun _ => rfl, fun h => absurd h (by decide)⟩
        · obtain ⟨j, hj, hje, -⟩ := idxP_some (p := hasCode x.acc) (l := c) (by unfold amIx at hneg; omega)
          have hje2 : amIx c x = (j : Int) := hje
          have hrl := amTo_length c ent cur (l.take k)
          have HN : Hid (∀ U, Below Z.heap.size Z U → (IRow (U.setCell ⟨G, j, none⟩ (.int .i64 x.amt)) G (amTo c ent cur (l.take (k + 1))) ∧ Below w.heap.size w (U.setCell ⟨G, j, none⟩ (.int .i64 x.amt)) ∧ (l.take (k + 1)).any (amNo c ent cur) = false) ∧ (∃ z, U.cell? ⟨G, j, none⟩ = some (.int .i64 z)) ∧ U.frozen? ⟨G, j, none⟩ = false ∧ BlAt U wr.heap.size 0 x) := fun U hU => by
            have hRU := irow_below HRZ.out.1 hU HGZ.out
            have hs := irow_set hRU j x.amt
            refine ⟨⟨?_, (HRZ.out.2.trans (hU.mono HRZ.out.2.size)).setCell (p := ⟨G, j, none⟩) HGw.out _, ?_⟩, ⟨_, irow_cell hRU (i := j) (by omega)⟩, irow_frozen hRU j, HBt.out.1.below hU HBt.out.2⟩
            · rw [HSn.out]
              unfold amAt
              rw [if_pos hof, hje2]
              exact hs
            · rw [HAn.out]
              simp [amNo, hof]
              omega
          rw [hje2] at HAt
          obtain ⟨x0, x1, x2, x3⟩ := x
          obtain ⟨d0, d1, d2, d3⟩ := hx
          obtain ⟨f0, f1, f2, f3⟩ := hbt
          simp only [Bl.cells, Nat.zero_add] at d0 d1 d2 d3 f0 f1 f2 f3 ho2 HAt HZ HN
          obtain ⟨rfl, rfl⟩ := ho2
          have j0 : (0 : Int) ≤ j := by omega
          have j1 : (j : Int) < c.length := by omega
          have j2 : ¬ (j : Int) < 0 := by omega
          clear hof HSn HAn HBd HR hneg hje hje2 hrl
          go_wp2_with (go_at_call 17; rw [HZ.out]; refine HAt.out.mono ?_; rintro e w' ⟨rfl, hw'⟩; obtain ⟨hN1, ⟨zz, hN2⟩, hN3, hN4⟩ := HN.out w' hw'; have HN1 : Hid _ := hN1; clear hN1; obtain ⟨g0, g1, g2, g3⟩ := hN4; simp only [Nat.zero_add] at g0 g1 g2 g3)
          go_roundw
          case rel => exact ⟨k + 1, by omega, by go_num, HN1⟩
          case measure => simp [RowKit.intOf]; omega
      · have HN : Hid (IRow Z G (amTo c ent cur (l.take (k + 1))) ∧ Below w.heap.size w Z ∧ (l.take (k + 1)).any (amNo c ent cur) = false) := by
          refine ⟨?_, HRZ.out.2, ?_⟩
          · rw [HSn.out]; unfold amAt; rw [if_neg hof]; exact HRZ.out.1
          · rw [HAn.out]; unfold amNo; rw [Bool.eq_false_iff.2 hof]; rfl
        obtain ⟨x0, x1, x2, x3⟩ := x
        obtain ⟨d0, d1, d2, d3⟩ := hx
        simp only [isOf, Bl.cells] at d0 d1 d2 d3 hof HZ
        rw [← HZ.out] at HN
        clear HSn HAn HBd HR HRZ HBt hbt HGZ
        by_cases he : x0 = ent
        · subst he
          have hne : x2 ≠ cur := fun e => hof (by simp [e])
          have h1' : ¬ x2.toList = cur.toList := fun e => hne (toList_inj e)
          have h1b := en_ne hne
          clear hof hne
          go_wp2
          go_roundw
          case rel => exact ⟨k + 1, by omega, by go_num, HN⟩
          case measure => simp [RowKit.intOf]; omega
        · have h1' : (x0 != ent) = true := by simp [he]
          clear hof
          go_wp2
          go_roundw
          case rel => exact ⟨k + 1, by omega, by go_num, HN⟩
          case measure => simp [RowKit.intOf]; omega
    · obtain rfl : k = l.length := by omega
      have h1 := HR.out
      rw [List.take_length] at h1
      have hal := amTo_length c ent cur l
      have hft := amTo_fits c ent cur l (fun x hx => by have := HFl.out.amt x hx; exact ⟨by omega, by omega⟩)
      have hin : IsInts wr (some ⟨G, 0, none⟩) (amTo c ent cur l) c.length := ⟨by omega, hft, .inr ⟨G, 0, rfl, irow_lt h1.1, fun k hk => by rw [Nat.zero_add]; exact irow_cell h1.1 hk⟩⟩
      have hr := roll_any a1 c1 c (some ⟨G, 0, none⟩) (amTo c ent cur l) c.length wr (HLc.out.below h1.2.1) hin
      rw [hal] at hr
      have hst : stE c l ent cur = rollBad c (amTo c ent cur l) := by
        have hrb : rollBad c (amTo c ent cur l) = if rollOk c (amTo c ent cur l) c.length = true then 0 else 10 := by
          unfold rollBad
          rw [if_neg (by have := HCh.out; omega), if_neg (by omega)]
        rw [HSt.out, hrb, if_neg (by rw [h1.2.2]; simp)]
      have HB : Hid (Below w.heap.size w wr) := h1.2.1
      have HRl : Hid (Calls Try.prog 19 #[.slice a1 c.length c1, .slice (some ⟨G, 0, none⟩) c.length c.length] wr (RollEnd c (amTo c ent cur l) wr)) := hr
      have HStE : Hid (stE c l ent cur = rollBad c (amTo c ent cur l)) := hst
      have i3 : ¬ (l.length : Int) < l.length := by omega
      clear HR h1 hal hft hin hr hst HSt
      by_cases h0 : rollBad c (amTo c ent cur l) = 0
      · go_wp2_with fail
        refine HRl.out.mono ?_
        rintro e w5 ⟨hb5, -, hok⟩
        obtain ⟨g, rfl, -, hrow⟩ := hok h0
        have HEnd : Hid (Below w.heap.size w w5 ∧ IRow w5 g ((List.range c.length).map (rollI c (amTo c ent cur l)))) := ⟨HB.out.trans (hb5.mono HB.out.size), hrow⟩
        clear hb5 hok hrow
        go_wp2
        go_ret2
        exact ⟨HEnd.out.1, fun h => absurd (HStE.out.trans h0) h, fun _ => ⟨g, rfl, HEnd.out.2⟩⟩
      · have ee : enE (stE c l ent cur) = chE (rollBad c (amTo c ent cur l)) := by rw [HStE.out]; rfl
        rw [chE_ne h0] at ee
        have Hee : Hid _ := ee
        clear ee
        go_wp2_with fail
        refine HRl.out.mono ?_
        rintro e w5 ⟨hb5, hno, -⟩
        obtain rfl := hno h0
        have HEnd : Hid (Below w.heap.size w w5) := HB.out.trans (hb5.mono HB.out.size)
        rw [chE_ne h0]
        clear hb5 hno
        go_wp2
        go_ret2
        exact ⟨HEnd.out, fun _ => by rw [Hee.out]; rfl, fun h => absurd (HStE.out.symm.trans h) h0⟩
end Go.Proofs.Ythaidbicimiljaa

namespace Go.Proofs.Ythaidbicimiljaa
set_option linter.unusedVariables false
set_option linter.unusedSimpArgs false
set_option maxRecDepth 100000
open Go.RowKit Go.Lib

/-- Is a balance of an entity, an account and a currency? -/
def hasB (en : Int) (acc cur : ByteArray) (x : Bl) : Bool := decide (x.ent = en) && (decide (x.acc = acc) && decide (x.cur = cur))
/-- What is there of an entity, an account and a currency. -/
def getB (b : List Bl) (en : Int) (acc cur : ByteArray) : Int := (b.find? (hasB en acc cur)).elim 0 Bl.amt
/-- The place of the first balance for which something holds. -/
def fidx (p : Bl → Bool) : Nat → List Bl → Int
  | _, [] => -1
  | k, a :: l => if p a = true then (k : Int) else fidx p (k + 1) l
theorem fidx_spec (p : Bl → Bool) : ∀ (l : List Bl) (k : Nat), (fidx p k l = -1 ∧ l.find? p = none) ∨ ∃ j, j < l.length ∧ fidx p k l = ((k + j : Nat) : Int) ∧ l.find? p = some (l.getD j bl0)
  | [], k => .inl ⟨rfl, rfl⟩
  | x :: l, k => by
    cases h : p x
    · rcases fidx_spec p l (k + 1) with ⟨e, ha⟩ | ⟨j, hj, e, ha⟩
      · exact .inl ⟨by rw [fidx, if_neg (by simp [h]), e], by rw [List.find?_cons_of_neg (by simp [h]), ha]⟩
      · exact .inr ⟨j + 1, by simpa using hj, by rw [fidx, if_neg (by simp [h]), e]; congr 1; omega, by rw [List.find?_cons_of_neg (by simp [h]), ha]; rfl⟩
    · exact .inr ⟨0, by simp, by rw [fidx, if_pos h]; simp, by rw [List.find?_cons_of_pos h]; rfl⟩

/-- What is asked of a function that is told a balance, and has two values of its own. -/
structure BTells2 (g : Nat) (u v : Value) (p : Bl → Bool) (w : World) : Prop where
  eg : ∀ args W, (callFunc g args).run Try.prog W = .ok (.enter g args) W
  call : ∀ (x : Bl) W, Below w.heap.size w W → Calls Try.prog g #[.agg x.cells, u, v] W fun e w' => e = .returned (.bool (p x)) ∧ Below W.heap.size W w'
set_option maxHeartbeats 1000000 in
theorem fidx_some (g : Nat) (u v : Value) (p : Bl → Bool) (b off cap : Nat) (l : List Bl) (w : World) (hp : BTells2 g u v p w) (hb : b < w.heap.size) (hlen : (l.length : Int) ≤ 9223372036854775807) (hc : BlsAt w b off l) :
    Calls Try.prog 49 #[.slice (some ⟨b, off, none⟩) l.length cap, .func (.func g) #[] #[u, v]] w fun e w' => e = .returned (.int .i64 (fidx p 0 l)) ∧ Below w.heap.size w w' := by
  have eg := hp.eg
  have Hp : Hid (BTells2 g u v p w) := hp
  have Hc : Hid (BlsAt w b off l) := hc
  clear hp hc
  obtain ⟨res, hres⟩ : ∃ res, fidx p 0 l = res := ⟨_, rfl⟩
  have Hres : Hid (fidx p 0 l = res) := hres
  rw [hres]
  clear hres
  go_enter Try.func49, Try.ntmps49
  go_wp2
  go_loopw [8] (fun i wr => ∃ k : Nat, k ≤ l.length ∧ i = .int .i64 k ∧ Hid (fidx p k (l.drop k) = res) ∧ Below w.heap.size w wr) (fun i _ => l.length - (RowKit.intOf i).toNat)
  case atStart => exact ⟨0, Nat.zero_le _, rfl, Hres.out, Below.refl _ _⟩
  case round =>
    obtain ⟨k, hk, rfl, H, BW⟩ := hrel
    by_cases hlt : k < l.length
    · have hn := (Hc.out k hlt).below BW hb
      have hcall := Hp.out.call (l.getD k bl0) wr BW
      have E : Hid ((if p (l.getD k bl0) = true then (k : Int) else fidx p (k + 1) (l.drop (k + 1))) = res) := by
        have := H.out
        rw [bls_drop l k hlt] at this
        exact this
      clear H
      generalize l.getD k bl0 = a at *
      obtain ⟨a0, a1, a2, a3⟩ := a
      obtain ⟨c0, c1, c2, c3⟩ := hn
      simp only [Bl.cells] at c0 c1 c2 c3 hcall
      have i0 : (0 : Int) ≤ k := by omega
      have i1 : (k : Int) < l.length := by omega
      cases hq : p ⟨a0, a1, a2, a3⟩
      · rw [hq] at hcall
        have HN : Hid (fidx p (k + 1) (l.drop (k + 1)) = res) := by
          have := E.out; rw [if_neg (by rw [hq]; simp)] at this; exact this
        go_wp2_with (go_at_fn g; refine hcall.mono ?_; rintro e w' ⟨rfl, hb'⟩)
        go_roundw
        case rel => exact ⟨k + 1, by omega, by go_num, HN, BW.trans (hb'.mono BW.size)⟩
        case measure => simp [RowKit.intOf]; omega
      · rw [hq] at hcall
        have er : res = k := by rw [← E.out, if_pos hq]
        subst er
        go_wp2_with (go_at_fn g; refine hcall.mono ?_; rintro e w' ⟨rfl, hb'⟩)
        go_ret
        exact ⟨rfl, BW.trans (hb'.mono BW.size)⟩
    · have hk2 : k = l.length := by omega
      subst hk2
      have er : res = -1 := by rw [← H.out, List.drop_length]; rfl
      subst er
      go_wp2
      go_ret
      exact ⟨rfl, BW⟩
theorem fidx_nil (a : Option Addr) (cap : Nat) (f : Value) (w : World) :
    Calls Try.prog 49 #[.slice a 0 cap, f] w fun e w' => e = .returned (.int .i64 (-1)) ∧ Below w.heap.size w w' := by
  go_enter Try.func49, Try.ntmps49
  go_wp2
  refine wp_loop_rounds 1 ?_
  rw [rounds_succ]
  go_wp2
  go_ret
  exact ⟨rfl, Below.refl _ _⟩
theorem fidx_any (g : Nat) (u v : Value) (p : Bl → Bool) (a : Option Addr) (cap : Nat) (l : List Bl) (w : World) (hp : BTells2 g u v p w) (hlen : (l.length : Int) ≤ 9223372036854775807) (h : IsBl w a l cap) :
    Calls Try.prog 49 #[.slice a l.length cap, .func (.func g) #[] #[u, v]] w fun e w' => e = .returned (.int .i64 (fidx p 0 l)) ∧ Below w.heap.size w w' := by
  rcases h.lies with rfl | ⟨b, off, rfl, hlt, hc⟩
  · exact fidx_nil a cap _ w
  · exact fidx_some g u v p b off cap l w hp hlt hlen hc
end Go.Proofs.Ythaidbicimiljaa

namespace Go.Proofs.Ythaidbicimiljaa
set_option linter.unusedVariables false
set_option linter.unusedSimpArgs false
set_option maxRecDepth 100000
open Go.RowKit Go.Lib

theorem hasB_iff {en : Int} {acc cur : ByteArray} {x : Bl} : hasB en acc cur x = true ↔ x.ent = en ∧ x.acc = acc ∧ x.cur = cur := by simp [hasB]
theorem idx_has {p : Ac → Bool} : ∀ (l : List Ac) (k : Nat), (idxFrom p k l = -1) ∨ ∃ j, j < l.length ∧ idxFrom p k l = ((k + j : Nat) : Int) ∧ p (l.getD j ac0) = true
  | [], k => .inl rfl
  | x :: l, k => by
    cases h : p x
    · rcases idx_has (p := p) l (k + 1) with e | ⟨j, hj, e, hp⟩
      · exact .inl (by rw [idxFrom, if_neg (by simp [h]), e])
      · exact .inr ⟨j + 1, by simpa using hj, by rw [idxFrom, if_neg (by simp [h]), e]; congr 1; omega, by simpa using hp⟩
    · exact .inr ⟨0, by simp, by rw [idxFrom, if_pos h]; simp, by simpa using h⟩
theorem amIx_at {c : List Ac} {x : Bl} (h : ¬ amIx c x < 0) : ∃ j, j < c.length ∧ amIx c x = (j : Int) ∧ (c.getD j ac0).code = x.acc := by
  unfold amIx idxP at *
  rcases idx_has (p := hasCode x.acc) c 0 with e | ⟨j, hj, e, hp⟩
  · omega
  · refine ⟨j, hj, by rw [e, Nat.zero_add], ?_⟩
    simpa [hasCode] using hp
theorem set_getD (r : List Int) (i j : Nat) (x : Int) (hj : j < r.length) : (r.set j x).getD i 0 = if i = j then x else r.getD i 0 := by
  rw [List.getD_eq_getElem?_getD, List.getElem?_set]
  by_cases e : j = i
  · subst e; simp [hj]
  · rw [if_neg e, if_neg (fun h => e h.symm), List.getD_eq_getElem?_getD]
theorem am_fold {c : List Ac} (hc : chBad c = 0) (ent : Int) (cur : ByteArray) (i : Nat) (hi : i < c.length) : ∀ (l : List Bl) (r : List Int), r.length = c.length → Rises l → l.any (amNo c ent cur) = false →
    (l.foldl (amAt c ent cur) r).getD i 0 = (l.find? (hasB ent (c.getD i ac0).code cur)).elim (r.getD i 0) Bl.amt
  | [], r, _, _, _ => rfl
  | x :: l, r, hr, hs, hn => by
    rw [List.any_cons, Bool.or_eq_false_iff] at hn
    have hs2 : Rises l := (List.pairwise_cons.1 hs).2
    have hx : ∀ y ∈ l, cmpB x y < 0 := (List.pairwise_cons.1 hs).1
    have hlen : (amAt c ent cur r x).length = c.length := by rw [amAt_length, hr]
    rw [List.foldl_cons, am_fold hc ent cur i hi l _ hlen hs2 hn.2]
    by_cases hb : hasB ent (c.getD i ac0).code cur x = true
    · obtain ⟨h1, h2, h3⟩ := hasB_iff.1 hb
      have hno : l.find? (hasB ent (c.getD i ac0).code cur) = none := by
        rw [List.find?_eq_none]
        intro y hy hyb
        obtain ⟨g1, g2, g3⟩ := hasB_iff.1 hyb
        have := cmpB_lt.1 (hx y hy)
        rw [h1, g1, h2, g2, h3, g3] at this
        rcases this with h | ⟨_, h | ⟨_, h⟩⟩
        · omega
        · unfold cmpS at h; simp [less_self] at h
        · unfold cmpS at h; simp [less_self] at h
      rw [List.find?_cons_of_pos hb, hno]
      have hof : isOf ent cur x = true := by simp [isOf, h1, h3]
      have e : amIx c x = (i : Int) := by unfold amIx; rw [h2]; exact idx_code hc hi
      show (amAt c ent cur r x).getD i 0 = x.amt
      unfold amAt
      rw [if_pos hof, e, Int.toNat_natCast, set_getD _ _ _ _ (by rw [hr]; exact hi), if_pos rfl]
    · rw [List.find?_cons_of_neg hb]
      have e : (amAt c ent cur r x).getD i 0 = r.getD i 0 := by
        unfold amAt
        by_cases hof : isOf ent cur x = true
        · rw [if_pos hof]
          have h3 := hn.1
          unfold amNo at h3
          rw [hof, Bool.true_and, decide_eq_false_iff_not] at h3
          obtain ⟨j, hj, e1, e2⟩ := amIx_at h3
          rw [e1, Int.toNat_natCast, set_getD _ _ _ _ (by rw [hr]; exact hj), if_neg (fun e3 => ?_)]
          subst e3
          refine hb (hasB_iff.2 ?_)
          have : x.ent = ent ∧ x.cur = cur := by simpa [isOf] using hof
          exact ⟨this.1, e2.symm, this.2⟩
        · rw [if_neg hof]
      rw [e]
theorem am_get {c : List Ac} (hc : chBad c = 0) {l : List Bl} (hs : Rises l) (ent : Int) (cur : ByteArray) (hn : l.any (amNo c ent cur) = false) (i : Nat) (hi : i < c.length) : (amTo c ent cur l).getD i 0 = getB l ent (c.getD i ac0).code cur := by
  unfold amTo getB
  rw [am_fold hc ent cur i hi l _ (by simp) hs hn]
  congr 1
  rw [List.getD_eq_getElem?_getD, List.getElem?_replicate, if_pos hi]
  rfl
theorem am_map {c : List Ac} (hc : chBad c = 0) {l : List Bl} (hs : Rises l) (ent : Int) (cur : ByteArray) (hn : l.any (amNo c ent cur) = false) : (List.range c.length).map (fun i => getB l ent (c.getD i ac0).code cur) = amTo c ent cur l := by
  apply List.ext_getElem
  · rw [List.length_map, List.length_range, amTo_length]
  · intro i h1 h2
    rw [List.length_map, List.length_range] at h1
    rw [List.getElem_map, List.getElem_range, ← am_get hc hs ent cur hn i h1, List.getD_eq_getElem?_getD, List.getElem?_eq_getElem h2]
    rfl
end Go.Proofs.Ythaidbicimiljaa

namespace Go.Proofs.Ythaidbicimiljaa
set_option linter.unusedVariables false
set_option linter.unusedSimpArgs false
set_option maxRecDepth 100000
open Go.RowKit Go.Lib

structure BTells0 (g : Nat) (p : Bl → Bool) (w : World) : Prop where
  eg : ∀ args W, (callFunc g args).run Try.prog W = .ok (.enter g args) W
  call : ∀ (x : Bl) W, Below w.heap.size w W → Calls Try.prog g #[.agg x.cells] W fun e w' => e = .returned (.bool (p x)) ∧ Below W.heap.size W w'
set_option maxHeartbeats 1000000 in
theorem fidz_some (g : Nat) (p : Bl → Bool) (b off cap : Nat) (l : List Bl) (w : World) (hp : BTells0 g p w) (hb : b < w.heap.size) (hlen : (l.length : Int) ≤ 9223372036854775807) (hc : BlsAt w b off l) :
    Calls Try.prog 49 #[.slice (some ⟨b, off, none⟩) l.length cap, .func (.func g) #[] #[]] w fun e w' => e = .returned (.int .i64 (fidx p 0 l)) ∧ Below w.heap.size w w' := by
  have eg := hp.eg
  have Hp : Hid (BTells0 g p w) := hp
  have Hc : Hid (BlsAt w b off l) := hc
  clear hp hc
  obtain ⟨res, hres⟩ : ∃ res, fidx p 0 l = res := ⟨_, rfl⟩
  have Hres : Hid (fidx p 0 l = res) := hres
  rw [hres]
  clear hres
  go_enter Try.func49, Try.ntmps49
  go_wp2
  go_loopw [8] (fun i wr => ∃ k : Nat, k ≤ l.length ∧ i = .int .i64 k ∧ Hid (fidx p k (l.drop k) = res) ∧ Below w.heap.size w wr) (fun i _ => l.length - (RowKit.intOf i).toNat)
  case atStart => exact ⟨0, Nat.zero_le _, rfl, Hres.out, Below.refl _ _⟩
  case round =>
    obtain ⟨k, hk, rfl, H, BW⟩ := hrel
    by_cases hlt : k < l.length
    · have hn := (Hc.out k hlt).below BW hb
      have hcall := Hp.out.call (l.getD k bl0) wr BW
      have E : Hid ((if p (l.getD k bl0) = true then (k : Int) else fidx p (k + 1) (l.drop (k + 1))) = res) := by
        have := H.out
        rw [bls_drop l k hlt] at this
        exact this
      clear H
      generalize l.getD k bl0 = a at *
      obtain ⟨a0, a1, a2, a3⟩ := a
      obtain ⟨c0, c1, c2, c3⟩ := hn
      simp only [Bl.cells] at c0 c1 c2 c3 hcall
      have i0 : (0 : Int) ≤ k := by omega
      have i1 : (k : Int) < l.length := by omega
      cases hq : p ⟨a0, a1, a2, a3⟩
      · rw [hq] at hcall
        have HN : Hid (fidx p (k + 1) (l.drop (k + 1)) = res) := by
          have := E.out; rw [if_neg (by rw [hq]; simp)] at this; exact this
        go_wp2_with (go_at_fn g; refine hcall.mono ?_; rintro e w' ⟨rfl, hb'⟩)
        go_roundw
        case rel => exact ⟨k + 1, by omega, by go_num, HN, BW.trans (hb'.mono BW.size)⟩
        case measure => simp [RowKit.intOf]; omega
      · rw [hq] at hcall
        have er : res = k := by rw [← E.out, if_pos hq]
        subst er
        go_wp2_with (go_at_fn g; refine hcall.mono ?_; rintro e w' ⟨rfl, hb'⟩)
        go_ret
        exact ⟨rfl, BW.trans (hb'.mono BW.size)⟩
    · have hk2 : k = l.length := by omega
      subst hk2
      have er : res = -1 := by rw [← H.out, List.drop_length]; rfl
      subst er
      go_wp2
      go_ret
      exact ⟨rfl, BW⟩
theorem fidz_nil (a : Option Addr) (cap : Nat) (f : Value) (w : World) :
    Calls Try.prog 49 #[.slice a 0 cap, f] w fun e w' => e = .returned (.int .i64 (-1)) ∧ Below w.heap.size w w' := by
  go_enter Try.func49, Try.ntmps49
  go_wp2
  refine wp_loop_rounds 1 ?_
  rw [rounds_succ]
  go_wp2
  go_ret
  exact ⟨rfl, Below.refl _ _⟩
theorem fidz_any (g : Nat) (p : Bl → Bool) (a : Option Addr) (cap : Nat) (l : List Bl) (w : World) (hp : BTells0 g p w) (hlen : (l.length : Int) ≤ 9223372036854775807) (h : IsBl w a l cap) :
    Calls Try.prog 49 #[.slice a l.length cap, .func (.func g) #[] #[]] w fun e w' => e = .returned (.int .i64 (fidx p 0 l)) ∧ Below w.heap.size w w' := by
  rcases h.lies with rfl | ⟨b, off, rfl, hlt, hc⟩
  · exact fidz_nil a cap _ w
  · exact fidz_some g p b off cap l w hp hlt hlen hc

def zeroB (x : Bl) : Bool := decide (x.amt = 0)
theorem tr_tells (w : World) : BTells0 28 zeroB w := by
  refine ⟨fun args W => rfl, fun x W _ => ?_⟩
  have hb := (Below.refl W.heap.size W).alloc (Nat.le_refl _) (.cells x.cells 33)
  obtain ⟨x0, x1, x2, x3⟩ := x
  unfold zeroB
  simp only [Bl.cells] at hb ⊢
  by_cases e : x3 = 0
  · subst e
    simp only [decide_true]
    go_enter Try.func28, Try.ntmps28
    go_wp2
    go_ret
    exact ⟨rfl, hb⟩
  · have e1 : decide (x3 = 0) = false := by simp [e]
    have e2 : (x3 == 0) = false := beq_eq_false_iff_ne.2 e
    simp only [e1]
    go_enter Try.func28, Try.ntmps28
    go_wp2
    go_ret
    exact ⟨by simp [e2], hb⟩
theorem fidx_no {p : Bl → Bool} : ∀ (l : List Bl) (k : Nat), (∀ x ∈ l, p x = false) → fidx p k l = -1
  | [], _, _ => rfl
  | x :: l, k, h => by rw [fidx, if_neg (by simp [h x List.mem_cons_self]), fidx_no l (k + 1) (fun y hy => h y (List.mem_cons_of_mem _ hy))]
theorem trDel_none (a : Option Addr) (cap : Nat) (l : List Bl) (w : World) (hlen : (l.length : Int) ≤ 9223372036854775807) (h : IsBl w a l cap) (hz : ∀ x ∈ l, x.amt ≠ 0) :
    Calls Try.prog 27 #[.slice a l.length cap, .func (.func 28) #[] #[]] w fun e w' => e = .returned (.slice a l.length cap) ∧ Below w.heap.size w w' := by
  have hI := fidz_any _ zeroB a cap l w (tr_tells w) hlen h
  rw [fidx_no l 0 (fun x hx => by simp [zeroB, hz x hx])] at hI
  clear h hz
  go_enter Try.func27, Try.ntmps27
  go_wp2_with fail
  refine hI.mono ?_
  rintro e w1 ⟨rfl, hb1⟩
  go_wp2
  go_ret
  exact ⟨rfl, hb1⟩
end Go.Proofs.Ythaidbicimiljaa

namespace Go.Proofs.Ythaidbicimiljaa
set_option linter.unusedVariables false
set_option linter.unusedSimpArgs false
set_option maxRecDepth 100000
open Go.RowKit Go.Lib

/-- Is a number from 1 to another one? -/
def upTo (n m : Int) : Bool := decide (1 ≤ n) && decide (n ≤ m)
theorem upTo_iff {n m : Int} : upTo n m = true ↔ 1 ≤ n ∧ n ≤ m := by simp [upTo]
/-- The greatest amount. -/
def mostA : Int := 1000000000000000
def isAmtB (n : Int) : Bool := decide (-1000000000000000 ≤ n) && decide (n ≤ 1000000000000000)
theorem isAmtB_iff {n : Int} : isAmtB n = true ↔ -mostA ≤ n ∧ n ≤ mostA := by
  simp [isAmtB, mostA]
theorem isEntity_any (n : Int) (w : World) :
    Calls Try.prog 9 #[.int .i64 n] w fun e w' => e = .returned (.bool (upTo n 12)) ∧ w' = w := by
  by_cases h : 1 ≤ n
  · have e1 : upTo n 12 = decide (n ≤ 12) := by simp [upTo, h]
    rw [e1]
    go_enter Try.func9, Try.ntmps9
    go_wp2
    go_ret
    exact ⟨rfl, rfl⟩
  · have e1 : upTo n 12 = false := by simp [upTo, h]
    rw [e1]
    go_enter Try.func9, Try.ntmps9
    go_wp2
    go_ret
    exact ⟨rfl, rfl⟩
theorem isPeriod_any (n : Int) (w : World) :
    Calls Try.prog 47 #[.int .i64 n] w fun e w' => e = .returned (.bool (upTo n 120)) ∧ w' = w := by
  by_cases h : 1 ≤ n
  · have e1 : upTo n 120 = decide (n ≤ 120) := by simp [upTo, h]
    rw [e1]
    go_enter Try.func47, Try.ntmps47
    go_wp2
    go_ret
    exact ⟨rfl, rfl⟩
  · have e1 : upTo n 120 = false := by simp [upTo, h]
    rw [e1]
    go_enter Try.func47, Try.ntmps47
    go_wp2
    go_ret
    exact ⟨rfl, rfl⟩
end Go.Proofs.Ythaidbicimiljaa

namespace Go.Proofs.Ythaidbicimiljaa
set_option linter.unusedVariables false
open Go.RowKit Go.Lib

/-- A sign that is no letter A to Z. -/
def other (r : Nat) : Bool := decide (r < 65) || decide (90 < r)

/-- Is there such a sign, from a place on, among at most so many? -/
def otherFrom (s : ByteArray) : Nat → Nat → Int
  | 0, _ => -1
  | f + 1, pos => if pos < s.size then (if other (Utf8.decode s pos).1 = true then (pos : Int) else otherFrom s f (pos + (Utf8.decode s pos).2)) else -1

theorem otherFrom_end (s : ByteArray) (f pos : Nat) (h : ¬ pos < s.size) : otherFrom s f pos = -1 := by cases f <;> simp [otherFrom, h]

theorem otherFrom_ge (s : ByteArray) : ∀ (f pos : Nat), -1 ≤ otherFrom s f pos
  | 0, _ => by simp [otherFrom]
  | f + 1, pos => by
    unfold otherFrom
    split
    · split
      · omega
      · exact otherFrom_ge s f _
    · omega

/-- Is a text a currency? -/
def isCur (s : ByteArray) : Bool := s.size == 3 && decide (otherFrom s s.size 0 < 0)

theorem closure_any (r : Nat) (w : World) :
    Calls Try.prog 70 #[.int .i32 r] w fun e w' => e = .returned (.bool (other r)) ∧ w' = w := by
  by_cases h1 : (r : Int) < 65
  · go_enter Try.func70, Try.ntmps70
    go_wp2
    go_ret
    refine ⟨?_, rfl⟩
    have : other r = true := by simp [other]; omega
    rw [this]; rfl
  · go_enter Try.func70, Try.ntmps70
    go_wp2
    go_ret
    refine ⟨?_, rfl⟩
    have : other r = decide ((90 : Int) < r) := by
      have e1 : decide (r < 65) = false := by simp; omega
      have e2 : decide (90 < r) = decide ((90 : Int) < r) := by simp; omega
      unfold other; rw [e1, e2]; rfl
    rw [this]; rfl

set_option maxHeartbeats 1000000 in
theorem indexFunc_any (s : ByteArray) (w : World) :
    Calls Try.prog 84 #[.string s, .func (.func 70) #[] #[], .bool true] w fun e w' => e = .returned (.int .i64 (otherFrom s s.size 0)) ∧ Below w.heap.size w w' := by
  go_enter Try.func84, Try.ntmps84
  go_wp2
  go_loopg [] s.size (fun gf wx => ∃ pos : Nat, wx.heap[w.heap.size]? = some (.stringIter s pos) ∧ Below w.heap.size w wx ∧ otherFrom s gf pos = otherFrom s s.size 0 ∧ s.size ≤ pos + gf)
  case atStart => exact ⟨0, World.iter_heap w s 0, (Below.refl _ w).alloc (Nat.le_refl _) _, rfl, by omega⟩
  case round =>
    obtain ⟨pos, hit, hbw, hleft, hfu⟩ := hrel
    by_cases hps : pos < s.size
    · obtain ⟨g', rfl⟩ : ∃ g', gk = g' + 1 := ⟨gk - 1, by omega⟩
      have hnx : ∀ ty, (Instr.next (.pointer (some ⟨w.heap.size, 0, none⟩)) true ty).run Try.prog wr = _ := fun ty => Lib.run_next_any_at wr w.heap.size s pos ty hit hps
      have hwd := Lib.width_pos s pos
      obtain ⟨R, hR⟩ : ∃ R, (Utf8.decode s pos).1 = R := ⟨_, rfl⟩
      obtain ⟨K, hK⟩ : ∃ K, (Utf8.decode s pos).2 = K := ⟨_, rfl⟩
      simp only [otherFrom, hps, if_true, hR, hK] at hleft
      rw [hR, hK] at hnx
      rw [hK] at hwd
      have hit2 := Lib.iterAt_heap wr w.heap.size s pos (pos + K) hit
      have hbw2 := Lib.below_iterAt hbw (k := w.heap.size) (Nat.le_refl _) s (pos + K)
      obtain ⟨W, hWd⟩ : ∃ W, wr.iterAt w.heap.size s (pos + K) = W := ⟨_, rfl⟩
      rw [hWd] at hnx hit2 hbw2
      cases hsp : other R <;> simp only [hsp, if_true, Bool.false_eq_true, if_false] at hleft
      · go_wp2_with (go_at_call 70; refine (closure_any R _).mono ?_; rintro e W' ⟨rfl, rfl⟩; rw [hsp])
        go_roundg g'
        case measure => omega
        case rel => exact ⟨pos + K, hit2, hbw2, hleft, by omega⟩
      · go_wp2_with (go_at_call 70; refine (closure_any R _).mono ?_; rintro e W' ⟨rfl, rfl⟩; rw [hsp])
        go_ret
        exact ⟨by rw [← hleft]; rfl, hbw2⟩
    · have hnx : ∀ ty, (Instr.next (.pointer (some ⟨w.heap.size, 0, none⟩)) true ty).run Try.prog wr = _ := fun ty => Lib.run_next_end_at wr w.heap.size s pos ty hit hps
      rw [otherFrom_end s gk pos hps] at hleft
      go_wp2
      go_ret
      exact ⟨by rw [← hleft]; rfl, hbw⟩

theorem containsFunc_any (s : ByteArray) (w : World) :
    Calls Try.prog 69 #[.string s, .func (.func 70) #[] #[]] w fun e w' => e = .returned (.bool (decide (0 ≤ otherFrom s s.size 0))) ∧ Below w.heap.size w w' := by
  have hI : Calls Try.prog 81 #[.string s, .func (.func 70) #[] #[]] w fun e w' => e = .returned (.int .i64 (otherFrom s s.size 0)) ∧ Below w.heap.size w w' := by
    go_enter Try.func81, Try.ntmps81
    go_wp2_with fail
    refine (indexFunc_any s _).mono ?_
    rintro e w' ⟨rfl, hb⟩
    go_wp2
    go_ret
    exact ⟨rfl, hb⟩
  go_enter Try.func69, Try.ntmps69
  go_wp2_with fail
  refine hI.mono ?_
  rintro e w' ⟨rfl, hb⟩
  go_wp2
  go_ret
  exact ⟨rfl, hb⟩

theorem cur_any (s : ByteArray) (w : World) :
    Calls Try.prog 46 #[.string s] w fun e w' => e = .returned (.bool (isCur s)) ∧ Below w.heap.size w w' := by
  by_cases h : s.size = 3
  · have h' : ((s.size : Int) == 3) = true := by simp; omega
    go_enter Try.func46, Try.ntmps46
    go_wp2_with fail
    refine (containsFunc_any s _).mono ?_
    rintro e w' ⟨rfl, hb⟩
    have e1 : isCur s = !decide (0 ≤ otherFrom s s.size 0) := by
      have e2 : (s.size == 3) = true := by simp [h]
      have e3 : decide (otherFrom s s.size 0 < 0) = !decide (0 ≤ otherFrom s s.size 0) := by
        by_cases h0 : 0 ≤ otherFrom s s.size 0
        · rw [decide_eq_true h0, decide_eq_false (by omega)]; rfl
        · rw [decide_eq_false h0, decide_eq_true (by omega)]; rfl
      unfold isCur; rw [e2, e3]; rfl
    rw [h] at e1
    go_wp2
    go_ret
    exact ⟨by rw [e1]; rfl, hb⟩
  · have h' : ((s.size : Int) == 3) = false := by simp; omega
    have e1 : isCur s = false := by
      have e2 : (s.size == 3) = false := by simp [h]
      unfold isCur; rw [e2]; rfl
    go_enter Try.func46, Try.ntmps46
    go_wp2
    go_ret
    exact ⟨by rw [e1]; rfl, Below.refl _ _⟩

theorem upTo_any (n m : Int) (w : World) :
    Calls Try.prog 71 #[.int .i64 n, .int .i64 m] w fun e w' => e = .returned (.bool (upTo n m)) ∧ w' = w := by
  by_cases h : 1 ≤ n
  · have e1 : upTo n m = decide (n ≤ m) := by simp [upTo, h]
    go_enter Try.func71, Try.ntmps71
    go_wp2
    go_ret
    exact ⟨by rw [e1]; rfl, rfl⟩
  · have e1 : upTo n m = false := by simp [upTo, h]
    go_enter Try.func71, Try.ntmps71
    go_wp2
    go_ret
    exact ⟨rfl, rfl⟩
end Go.Proofs.Ythaidbicimiljaa

namespace Go.Proofs.Ythaidbicimiljaa
set_option linter.unusedVariables false
open Go.RowKit Go.Lib

theorem texts_ne {a b : ByteArray} (h : a ≠ b) : (a.toList == b.toList) = false := by
  rw [beq_eq_false_iff_ne]
  intro e
  rw [Lib.toList_data, Lib.toList_data] at e
  exact h (WideShapes.bytes_inj e)

/-- A rate. -/
structure Rt where
  frm : ByteArray
  dst : ByteArray
  per : Int
  num : Int
  den : Int

def Rt.cells (r : Rt) : Array Value := #[.string r.frm, .string r.dst, .int .i64 r.per, .int .i64 r.num, .int .i64 r.den]

/-- An error by its number. -/
def errV (n : Int) : Value := if n = 0 then .nilIface else .iface 41 (.int .i64 n)
theorem errV_zero : errV 0 = .nilIface := rfl

/-- What is wrong with a rate. -/
def rateBad (r : Rt) : Int :=
  if isCur r.frm = false ∨ isCur r.dst = false then 2
  else if r.frm = r.dst then 3
  else if upTo r.per 120 = false ∨ upTo r.num 1000000000 = false ∨ upTo r.den 1000000000 = false then 1 else 0

structure RtAt (w : World) (b off : Nat) (r : Rt) : Prop where
  c0 : w.cell? ⟨b, off, none⟩ = some (.string r.frm)
  c1 : w.cell? ⟨b, off + 1, none⟩ = some (.string r.dst)
  c2 : w.cell? ⟨b, off + 2, none⟩ = some (.int .i64 r.per)
  c3 : w.cell? ⟨b, off + 3, none⟩ = some (.int .i64 r.num)
  c4 : w.cell? ⟨b, off + 4, none⟩ = some (.int .i64 r.den)

theorem RtAt.below {w w' : World} {b off n : Nat} {r : Rt} (h : RtAt w b off r) (hb : Below n w w') (hn : b < n) : RtAt w' b off r :=
  ⟨(hb.cell (p := ⟨b, off, none⟩) hn).trans h.c0, (hb.cell (p := ⟨b, off + 1, none⟩) hn).trans h.c1, (hb.cell (p := ⟨b, off + 2, none⟩) hn).trans h.c2, (hb.cell (p := ⟨b, off + 3, none⟩) hn).trans h.c3, (hb.cell (p := ⟨b, off + 4, none⟩) hn).trans h.c4⟩

theorem RtAt.new (w : World) (r : Rt) (t : TypeId) : RtAt (w.alloc (.cells r.cells t)) w.heap.size 0 r :=
  ⟨by simp [Rt.cells], by simp [Rt.cells], by simp [Rt.cells], by simp [Rt.cells], by simp [Rt.cells]⟩

set_option maxHeartbeats 2000000 in
theorem rtCheck_any (r : Rt) (w : World) :
    Calls Try.prog 80 #[.agg r.cells] w fun e w' => e = .returned (errV (rateBad r)) ∧ Below w.heap.size w w' := by
  have hn := RtAt.new w r 118
  obtain ⟨f, t, p, n, d⟩ := r
  have b0 : Below w.heap.size w (w.alloc (.cells #[.string f, .string t, .int .i64 p, .int .i64 n, .int .i64 d] 118)) := (Below.refl _ w).alloc (Nat.le_refl _) _
  have hsz : (w.alloc (.cells #[.string f, .string t, .int .i64 p, .int .i64 n, .int .i64 d] 118)).heap.size = w.heap.size + 1 := by simp
  obtain ⟨res, hres⟩ : ∃ res, rateBad ⟨f, t, p, n, d⟩ = res := ⟨_, rfl⟩
  simp only [Rt.cells] at hn ⊢
  rw [hres]
  have Hres : Hid (rateBad ⟨f, t, p, n, d⟩ = res) := hres
  clear hres
  have hn0 := hn
  obtain ⟨c0, c1, c2, c3, c4⟩ := hn
  simp only [Nat.zero_add] at c0 c1 c2 c3 c4
  go_enter Try.func80, Try.ntmps80
  go_wp2_with fail
  refine (cur_any f _).mono ?_
  rintro e w1 ⟨rfl, hb1⟩
  rw [hsz] at hb1
  clear c0 c1 c2 c3 c4
  have hn1 := hn0.below hb1 (Nat.lt_succ_self _)
  have B1 := b0.trans (hb1.mono (Nat.le_succ _))
  clear b0 hn0
  cases h1 : isCur f
  · have e1 : res = 2 := by rw [← Hres.out]; simp [rateBad, h1]
    subst e1
    go_wp2
    go_ret
    exact ⟨rfl, B1⟩
  obtain ⟨c0, c1, c2, c3, c4⟩ := hn1
  simp only [Nat.zero_add] at c0 c1 c2 c3 c4
  go_wp2_with fail
  refine (cur_any t _).mono ?_
  rintro e w2 ⟨rfl, hb2⟩
  have hn2 := (RtAt.mk c0 c1 c2 c3 c4 : RtAt w1 w.heap.size 0 ⟨f, t, p, n, d⟩).below hb2 (by have := hb1.size; omega)
  have B2 := B1.trans (hb2.mono (by have := hb1.size; omega))
  clear c0 c1 c2 c3 c4 hb1 B1 hb2
  cases h2 : isCur t
  · have e1 : res = 2 := by rw [← Hres.out]; simp [rateBad, h1, h2]
    subst e1
    go_wp2
    go_ret
    exact ⟨rfl, B2⟩
  obtain ⟨c0, c1, c2, c3, c4⟩ := hn2
  simp only [Nat.zero_add] at c0 c1 c2 c3 c4
  by_cases h3 : f = t
  · have e1 : res = 3 := by rw [← Hres.out]; simp [rateBad, h2, h3]
    subst e1
    subst h3
    go_wp2
    go_ret
    exact ⟨rfl, B2⟩
  have h3' := texts_ne h3
  have eR : res = if upTo p 120 = false ∨ upTo n 1000000000 = false ∨ upTo d 1000000000 = false then 1 else 0 := by
    rw [← Hres.out]; simp [rateBad, h1, h2, h3]
  have ER : Hid (res = if upTo p 120 = false ∨ upTo n 1000000000 = false ∨ upTo d 1000000000 = false then 1 else 0) := eR
  clear eR Hres
  go_wp2_with fail
  refine (upTo_any p 120 _).mono ?_
  rintro e w' ⟨rfl, hw⟩
  rw [hw]; clear hw w'
  cases h4 : upTo p 120
  · have e1 : res = 1 := by rw [ER.out]; simp [h4]
    subst e1
    go_wp2
    go_ret
    exact ⟨rfl, B2⟩
  go_wp2_with fail
  refine (upTo_any n 1000000000 _).mono ?_
  rintro e w' ⟨rfl, hw⟩
  rw [hw]; clear hw w'
  cases h5 : upTo n 1000000000
  · have e1 : res = 1 := by rw [ER.out]; simp [h5]
    subst e1
    go_wp2
    go_ret
    exact ⟨rfl, B2⟩
  go_wp2_with fail
  refine (upTo_any d 1000000000 _).mono ?_
  rintro e w' ⟨rfl, hw⟩
  rw [hw]; clear hw w'
  cases h6 : upTo d 1000000000
  · have e1 : res = 1 := by rw [ER.out]; simp [h6]
    subst e1
    go_wp2
    go_ret
    exact ⟨rfl, B2⟩
  have e1 : res = 0 := by rw [ER.out]; simp [h4, h5, h6]
  subst e1
  go_wp2
  go_ret
  exact ⟨rfl, B2⟩
end Go.Proofs.Ythaidbicimiljaa

namespace Go.Proofs.Ythaidbicimiljaa
set_option linter.unusedVariables false
open Go.RowKit Go.Lib Go.Maps

theorem rate_laidOut : laidOutB Try.prog = true := by kernel_rfl
theorem pair_row : (112 : TypeId) < Try.prog.types.size := of_decide_eq_true (by kernel_rfl)
theorem pair_wide : (match Try.prog.underlying 112 with | some (.array _ _) | some (.struct _) => true | _ => false) = true := by kernel_rfl
set_option maxRecDepth 100000 in
theorem pair_law : Keyed Try.prog 112 := Keyed.of_law (deep_law_laid rate_laidOut (m := 3) (by omega) pair_row (by kernel_rfl) pair_wide)
theorem pair_type : Try.prog.keyType 112 = true := by kernel_rfl
theorem pair_cells : Try.prog.cellsOf 112 = 3 := by kernel_rfl
theorem str_cells : Try.prog.cellsOf 9 = 1 := by kernel_rfl
theorem int_cells : Try.prog.cellsOf 3 = 1 := by kernel_rfl
theorem rate_types : Try.prog.types.size = 142 := by kernel_rfl

/-- A key's value. -/
def pairV (f t : ByteArray) (p : Int) : Value := .agg #[.string f, .string t, .int .i64 p]
/-- What it reads as. -/
def keyL (f t : ByteArray) (p : Int) : Lit := .string (keyBytes [.string f.data.toList, .string t.data.toList, .int .i64 p])

theorem keyOf_pair {f t : ByteArray} {p : Int} (hf : f.size ≤ maxLen) (ht : t.size ≤ maxLen) (hp : (Lit.int .i64 p).wf = true) : keyOf Try.prog 112 (pairV f t p) = some (keyL f t p) := by
  have k1 : ∀ d (s : ByteArray), s.size ≤ maxLen → Try.prog.keyLits (d + 1) 9 [.string s] = some [.string s.data.toList] := fun d s hs => by
    simp [Program.keyLits, Try.underlying9, hs]
  have k2 : ∀ d, Try.prog.keyLits (d + 1) 3 [.int .i64 p] = some [.int .i64 p] := fun d => by
    simp [Program.keyLits, Try.underlying3, hp]
  have k3 : ∀ d, Try.prog.keyLits (d + 1 + 1) 112 [.string f, .string t, .int .i64 p] = some [.string f.data.toList, .string t.data.toList, .int .i64 p] := fun d => by
    unfold Program.keyLits
    simp [Try.underlying112, pair_cells, str_cells, int_cells, k1 d f hf, k1 d t ht, k2 d]
  have k4 : Try.prog.types.size + 1 = Try.prog.types.size - 1 + 1 + 1 := by rw [rate_types]
  unfold keyOf
  rw [Try.underlying112]
  simp only [pair_type, Value.formed, Try.underlying112, pairV, pair_cells, Value.cells]
  rw [k4, k3]
  rfl

theorem keyL_isKey (f t : ByteArray) (p : Int) : WideAt.IsKeyLit (keyL f t p) := trivial

theorem keyL_inj {f t f' t' : ByteArray} {p p' : Int} (hf : f.size ≤ maxLen) (ht : t.size ≤ maxLen) (hp : (Lit.int .i64 p).wf = true) (hf' : f'.size ≤ maxLen) (ht' : t'.size ≤ maxLen) (hp' : (Lit.int .i64 p').wf = true)
    (h : keyL f t p = keyL f' t' p') : f = f' ∧ t = t' ∧ p = p' := by
  have h1 := keyOf_pair hf ht hp
  have h2 := keyOf_pair hf' ht' hp'
  rw [← h] at h2
  have := pair_law.inj h1 h2
  simpa [pairV] using this

/-- What n of one are of the other. -/
def wD (n d : Int) : DataW Unit := .agg [.lit (.int .i64 n), .lit (.int .i64 d)]
theorem wD_inj {n d n' d' : Int} (h : wD n d = wD n' d') : n = n' ∧ d = d' := by simpa [wD] using h
def worthV (n d : Int) : Value := .agg #[.int .i64 n, .int .i64 d]
def worthR : Value → Option (DataW Unit × List MemPlace)
  | .agg xs => match xs.toList with
    | [.int .i64 n, .int .i64 d] => some (wD n d, [])
    | _ => none
  | _ => none
theorem worthR_mk (n d : Int) : worthR (worthV n d) = some (wD n d, []) := rfl
theorem worthR_inv {v : Value} {z : DataW Unit × List MemPlace} (h : worthR v = some z) : ∃ n d, v = worthV n d ∧ z = (wD n d, []) := by
  unfold worthR at h
  split at h
  · rename_i xs
    split at h
    · rename_i n d hl
      obtain ⟨l⟩ := xs
      simp only at hl
      subst hl
      exact ⟨n, d, rfl, by simpa using h.symm⟩
    · cases h
  · cases h
theorem worth_zero (w : World) : (zeroValue 109).run Try.prog w = .ok (worthV 0 0) w := by kernel_rfl

/-- The map at a block. -/
abbrev TabAt (w : World) (b n : Nat) (D : DataW Unit) : Prop := w.ownsMap Try.prog 112 worthR b n D

theorem look_worth {P : Program} {ops : Array Oper} {rest : List Oper} {o : Oper} {a : Act} {Q : Exit → Act → World → Prop} (w : World) (hP : P = Try.prog) (hg : o.guard = none) (m x : Operand) (hop : o.op = Op.lookup 104 m x true) (b n : Nat) (D : DataW Unit)
    (hm : a.eval m = .map (some b)) (hown : TabAt w b n D) (key : Value) (kl : Lit) (hx : a.eval x = key) (hkey : keyOf Try.prog 112 key = some kl)
    (hK : ∀ p q : Int, D.atKey kl (wD 0 0) = wD p q → wpList P ops Q rest (a.put o.dst (.tuple #[.agg #[.int .i64 p, .int .i64 q], .bool (Maps.has D kl)])) w) :
    wpList P ops Q (o :: rest) a w := by
  subst hP
  refine wpList_lookup_own_ok w hg m x _ hop _ _ pair_law Try.underlying104 worthR (worth_zero w) (wD 0 0) [] (worthR_mk 0 0) b n D hm hown key kl hx hkey (fun v ps hv => ?_)
  obtain ⟨p, q, rfl, hz⟩ := worthR_inv hv
  exact hK p q (congrArg Prod.fst hz)

/-- What a rate adds. -/
def tabPut (D : DataW Unit) (r : Rt) : DataW Unit := (D.put (keyL r.frm r.dst r.per) (wD r.num r.den)).put (keyL r.dst r.frm r.per) (wD r.den r.num)
/-- What is wrong with rates, from one on; or all in one. -/
def tabGo : DataW Unit → List Rt → Int × DataW Unit
  | D, [] => (0, D)
  | D, r :: rs => if rateBad r ≠ 0 then (rateBad r, D) else if Maps.has D (keyL r.frm r.dst r.per) = true then (8, D) else tabGo (tabPut D r) rs
def tabS (rs : List Rt) : Int × DataW Unit := if 100 < rs.length then (4, .map []) else tabGo (.map []) rs

theorem tabGo_nil (D : DataW Unit) : tabGo D [] = (0, D) := rfl
theorem tabGo_bad {D : DataW Unit} {r : Rt} {rs : List Rt} (h : rateBad r ≠ 0) : tabGo D (r :: rs) = (rateBad r, D) := by simp [tabGo, h]
theorem tabGo_clash {D : DataW Unit} {r : Rt} {rs : List Rt} (h : rateBad r = 0) (h2 : Maps.has D (keyL r.frm r.dst r.per) = true) : tabGo D (r :: rs) = (8, D) := by simp [tabGo, h, h2]
theorem tabGo_step {D : DataW Unit} {r : Rt} {rs : List Rt} (h : rateBad r = 0) (h2 : Maps.has D (keyL r.frm r.dst r.per) = false) : tabGo D (r :: rs) = tabGo (tabPut D r) rs := by simp [tabGo, h, h2]
theorem tabS_full {rs : List Rt} (h : 100 < rs.length) : tabS rs = (4, .map []) := by simp [tabS, h]
theorem tabS_go {rs : List Rt} (h : ¬ 100 < rs.length) : tabS rs = tabGo (.map []) rs := by simp [tabS, h]
end Go.Proofs.Ythaidbicimiljaa
