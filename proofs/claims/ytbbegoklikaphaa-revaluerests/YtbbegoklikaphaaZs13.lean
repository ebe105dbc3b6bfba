/-
  Lines put together as balances: numbers alone.
-/
import Derived.Test.YtbbegoklikaphaaZs11
import Derived.Test.YtbbegoklikaphaaZs12
import Derived.Test.YtbbegoklikaphaaZs9
import Derived.KernelRfl
namespace Go.Proofs.Ytbbegoklikaphaa
set_option linter.unusedVariables false
set_option linter.unusedSimpArgs false
set_option maxRecDepth 100000
open Go.RowKit Go.Lib Go.Maps Math

/-- The ref of an account's entry. -/
def refV (code : ByteArray) : ByteArray := (⟨#[118, 97, 108, 117, 101, 45]⟩ : ByteArray) ++ code
/-- What an account's base lacks; what is wrong with it. -/
def acAmt (f : Bl → Int) (base : ByteArray) (b : List Bl) (en : Int) (x : Ac) : Int := lkV (othL f en x.code base b) (ltot (en, x.code, base) b)
def acErr (f : Bl → Int) (base : ByteArray) (b : List Bl) (en : Int) (x : Ac) : Int := lkE (othL f en x.code base b) (ltot (en, x.code, base) b)
def acBad (f : Bl → Int) (base gain : ByteArray) (b : List Bl) (en : Int) (x : Ac) : Int := if x.mon = false then 0 else if acErr f base b en x ≠ 0 then acErr f base b en x else brBad (acAmt f base b en x) x.code gain
/-- The entry of an account, if there is one. -/
def acE (f : Bl → Int) (base gain : ByteArray) (b : List Bl) (en pe : Int) (x : Ac) : List Ep := if x.mon = true ∧ acAmt f base b en x ≠ 0 then [⟨refV x.code, en, pe, brL (acAmt f base b en x) base x.code gain⟩] else []
/-- The entries of the first accounts. -/
def rvTo (f : Bl → Int) (base gain : ByteArray) (b : List Bl) (en pe : Int) (c : List Ac) (k : Nat) : List Ep := (List.range k).flatMap fun i => acE f base gain b en pe (c.getD i ac0)
theorem rvTo_next (f : Bl → Int) (base gain : ByteArray) (b : List Bl) (en pe : Int) (c : List Ac) (k : Nat) : rvTo f base gain b en pe c (k + 1) = rvTo f base gain b en pe c k ++ acE f base gain b en pe (c.getD k ac0) := by
  unfold rvTo; rw [List.range_succ, List.flatMap_append]; simp
/-- What is wrong with all that is handed in. -/
def rvBad (S : Int × DataW Unit) (c : List Ac) (base gain : ByteArray) (b : List Bl) (en pe : Int) : Int :=
  if chBad c ≠ 0 then chBad c else if wRvBad S base b en pe ≠ 0 then wRvBad S base b en pe else if leafBad c gain ≠ 0 then leafBad c gain else if b.any (noAcc c en) = true then 6 else firstTo (fun i => acBad (wV S base en pe) base gain b en (c.getD i ac0)) c.length
/-- What Entries leaves. -/
def RvEnd (S : Int × DataW Unit) (c : List Ac) (base gain : ByteArray) (b : List Bl) (en pe : Int) (w : World) (e : Ending) (w' : World) : Prop :=
  Below w.heap.size w w' ∧ (rvBad S c base gain b en pe ≠ 0 → e = .returned (.tuple #[.slice none 0 0, errV (rvBad S c base gain b en pe)])) ∧
    (rvBad S c base gain b en pe = 0 → ∃ v L, e = .returned (.tuple #[v, .nilIface]) ∧ Made w' w.heap.size v L ∧ L.map Je.ep = rvTo (wV S base en pe) base gain b en pe c c.length ∧ L.length ≤ 60)
theorem Made.mono {W : World} {n n' : Nat} {v : Value} {L : List Je} (h : Made W n v L) (hn : n' ≤ n) : Made W n' v L :=
  ⟨by
    have r := h.row
    rcases r.2 with ⟨hv, h0⟩ | ⟨g1, c1, cur, hv, hb1, r2⟩
    · exact ⟨r.1, .inl ⟨hv, h0⟩⟩
    · exact ⟨r.1, .inr ⟨g1, c1, cur, hv, by omega, r2⟩⟩, fun x hx => (h.lns x hx).mono hn⟩
theorem code_six {c : List Ac} (h : chBad c = 0) {k : Nat} (hk : k < c.length) : (c.getD k ac0).code.size ≤ 6 := by
  have h1 := (nextBad_zero (chBad_next h k hk)).1
  unfold isCodeB madeOf at h1
  simp only [Bool.and_eq_true, decide_eq_true_eq] at h1
  exact h1.2.1
theorem rv_build_en (x0 : ByteArray) (x1 x2 : Int) (a : Option Addr) (n c : Nat) (w : World) : (Instr.build 39 #[(0, .string x0), (1, .int .i64 x1), (2, .int .i64 x2), (3, .slice a n c)]).run Try.prog w = .ok (.agg #[.string x0, .int .i64 x1, .int .i64 x2, .slice a n c]) w := by
  go_simp
set_option maxHeartbeats 8000000 in
theorem rvEntries_any (a a2 a3 : Option Addr) (cap cap2 len cap3 : Nat) (S : Int × DataW Unit) (c : List Ac) (base gain : ByteArray) (b : List Bl) (en pe : Int) (w : World) (h : IsSl w a c cap) (ht : ∀ W, Below w.heap.size w W → Calls Try.prog 60 #[.slice a3 len cap3] W (TabEnd W S)) (hg : TabGood S.2) (hb : IsBl w a2 b cap2) (hbl : b.length ≤ 9223372036854775807) :
    Calls Try.prog 4 #[.slice a c.length cap, .slice a3 len cap3, .string base, .string gain, .slice a2 b.length cap2, .int .i64 en, .int .i64 pe] w (RvEnd S c base gain b en pe w) := by
  have HErr : Hid (∀ z W, z ≠ 0 → rvBad S c base gain b en pe = z → Below w.heap.size w W → RvEnd S c base gain b en pe w (.returned (.tuple #[.slice none 0 0, .iface 58 (.int .i64 z)])) W) := fun z W h0 h1 h2 => by
    refine ⟨h2, fun _ => by rw [h1, errV_ne h0], fun e => absurd (h1.symm.trans e) h0⟩
  have HOk : Hid (∀ v L W, rvBad S c base gain b en pe = 0 → Below w.heap.size w W → Made W w.heap.size v L → L.map Je.ep = rvTo (wV S base en pe) base gain b en pe c c.length → L.length ≤ 60 → RvEnd S c base gain b en pe w (.returned (.tuple #[v, .nilIface])) W) := fun v L W h1 h2 h3 h4 h5 =>
    ⟨h2, fun h0 => absurd h1 h0, fun _ => ⟨v, L, rfl, h3, h4, h5⟩⟩
  have eg : ∀ args W, (callFunc 28 args).run Try.prog W = .ok (.enter 28 args) W := fun args W => enters Try.func28 (by kernel_rfl) ⟨_, rfl⟩ args W
  have HFit : Hid (∀ x, fit64 (wV S base en pe x)) := fun x => wV_fit hg base en pe x
  obtain ⟨V, hV⟩ : ∃ V, (w.alloc (.cells #[.slice a c.length cap] 22)).alloc (.cells #[.int .i64 en] 3) = V := ⟨_, rfl⟩
  have b1 : Below w.heap.size w (w.alloc (.cells #[.slice a c.length cap] 22)) := (Below.refl _ w).alloc (Nat.le_refl _) _
  have bV : Below w.heap.size w V := by rw [← hV]; exact b1.alloc b1.size _
  have hs : V.heap.size = w.heap.size + 2 := by rw [← hV]; simp
  have k1 : V.cell? ⟨w.heap.size, 0, none⟩ = some (.slice a c.length cap) := by
    rw [← hV]
    refine cell_grown (W := w.alloc (.cells #[.slice a c.length cap] 22)) (by simp) (World.grownBy_alloc _ _ none) (by simp)
  have k2 : V.cell? ⟨w.heap.size + 1, 0, none⟩ = some (.int .i64 en) := by rw [← hV]; simp
  have HBx : Hid (∀ W, Below V.heap.size V W → W.cell? ⟨w.heap.size, 0, none⟩ = some (.slice a c.length cap) ∧ W.cell? ⟨w.heap.size + 1, 0, none⟩ = some (.int .i64 en) ∧ Below w.heap.size w W ∧ w.heap.size + 2 ≤ W.heap.size) := fun W hW =>
    ⟨(hW.cell (p := ⟨w.heap.size, 0, none⟩) (by show w.heap.size < _; omega)).trans k1, (hW.cell (p := ⟨w.heap.size + 1, 0, none⟩) (by show w.heap.size + 1 < _; omega)).trans k2, bV.trans (hW.mono bV.size), by have := hW.size; omega⟩
  have HW : Hid (∀ W, Below w.heap.size w W → Calls Try.prog 12 #[.slice a3 len cap3, .string base, .slice a2 b.length cap2, .int .i64 en, .int .i64 pe] W (WorthEnd S base b en pe W)) := fun W hW =>
    worth_any a3 a2 len cap3 cap2 S base b en pe W (fun W' hW' => ht W' (hW.trans (hW'.mono hW.size))) hg (hb.below hW) hbl
  have HSl : Hid (IsSl w a c cap) := h
  have HBl : Hid (IsBl w a2 b cap2) := hb
  have HV : Hid (_ = V) := hV
  clear hV b1 bV ht hb
  by_cases c1 : chBad c ≠ 0
  · have HC : Hid (Calls Try.prog 11 #[.slice a c.length cap] V fun e w' => e = .returned (.tuple #[.nilFunc, .iface 58 (.int .i64 (chBad c))]) ∧ Below V.heap.size V w') := by
      have := leafCheck_bad a cap c V (HSl.out.below (HBx.out V (Below.refl _ _)).2.2.1) c1
      rw [chE_ne c1] at this
      exact this
    have HE : Hid (∀ W, Below V.heap.size V W → RvEnd S c base gain b en pe w (.returned (.tuple #[.slice none 0 0, .iface 58 (.int .i64 (chBad c))])) W) := fun W hW => HErr.out _ W c1 (by unfold rvBad; rw [if_pos c1]) (HBx.out W hW).2.2.1
    clear HErr HOk HW h c1 hs
    generalize chBad c = z at *
    go_enter Try.func4, Try.ntmps4
    go_upto_region 1 with fail
    rw [HV.out]
    clear HV
    go_wp2_with fail
    refine HC.out.mono ?_
    rintro e w1 ⟨rfl, hb1⟩
    have HE1 : Hid _ := HE.out w1 hb1
    clear HC HE hb1 k1 k2
    go_wp2
    go_ret2
    exact HE1.out
  have c1' := Decidable.of_not_not c1
  have hlen := chBad_len c1'
  have HC : Hid (Calls Try.prog 11 #[.slice a c.length cap] V fun e w' => ∃ B1 B2, e = .returned (.tuple #[.func (.func 28) #[] #[.pointer (some ⟨B1, 0, none⟩), .pointer (some ⟨B2, 0, none⟩)], .nilIface]) ∧ Lfs w' B1 B2 c ∧ Below V.heap.size V w') := leafCheck_ok a cap c V (HSl.out.below (HBx.out V (Below.refl _ _)).2.2.1) c1'
  have HR1 : Hid (rvBad S c base gain b en pe = if wRvBad S base b en pe ≠ 0 then wRvBad S base b en pe else if leafBad c gain ≠ 0 then leafBad c gain else if b.any (noAcc c en) = true then 6 else firstTo (fun i => acBad (wV S base en pe) base gain b en (c.getD i ac0)) c.length) := by
    unfold rvBad Hid; rw [if_neg c1]
  have HCo : Hid (chBad c = 0) := c1'
  clear c1 c1' h
  go_enter Try.func4, Try.ntmps4
  go_upto_region 1 with fail
  rw [HV.out]
  clear HV
  obtain ⟨q2, hq2⟩ : ∃ q2, w.heap.size + 1 = q2 := ⟨_, rfl⟩
  rw [hq2] at HBx k2 ⊢
  obtain ⟨q1, hq1⟩ : ∃ q1, w.heap.size = q1 := ⟨_, rfl⟩
  have Hq : Hid (w.heap.size = q1) := hq1
  have hq12 : q2 = q1 + 1 := by omega
  have Hq12 : Hid (q2 = q1 + 1) := hq12
  rw [hq1] at HBx k1 ⊢
  clear hq12 hs
  go_wp2_with fail
  refine HC.out.mono ?_
  rintro e w1 ⟨B1, B2, rfl, hL, hb1⟩
  have HL1 : Hid (Lfs w1 B1 B2 c) := hL
  have HB1 : Hid (Below V.heap.size V w1) := hb1
  obtain ⟨x1, x2, x3, x4⟩ := HBx.out w1 hb1
  have HWw : Hid (Calls Try.prog 12 #[.slice a3 len cap3, .string base, .slice a2 b.length cap2, .int .i64 en, .int .i64 pe] w1 (WorthEnd S base b en pe w1)) := HW.out w1 (by rw [Hq.out]; exact x3)
  clear hL hb1 HC HW k1 k2 x3 x4
  by_cases c2 : wRvBad S base b en pe ≠ 0
  · have HE : Hid (∀ W, Below w1.heap.size w1 W → RvEnd S c base gain b en pe w (.returned (.tuple #[.slice none 0 0, .iface 58 (.int .i64 (wRvBad S base b en pe))])) W) := fun W hW => HErr.out _ W c2 (by rw [HR1.out, if_pos c2]) (by rw [Hq.out]; exact (HBx.out W (HB1.out.trans (hW.mono HB1.out.size))).2.2.1)
    have HW2 : Hid (Calls Try.prog 12 #[.slice a3 len cap3, .string base, .slice a2 b.length cap2, .int .i64 en, .int .i64 pe] w1 fun e w' => e = .returned (.tuple #[.slice none 0 0, .iface 58 (.int .i64 (wRvBad S base b en pe))]) ∧ Below w1.heap.size w1 w') := by
      refine HWw.out.mono ?_
      rintro e w' ⟨z1, z2, _⟩
      have z3 := z2 c2
      rw [errV_ne c2] at z3
      exact ⟨z3, z1⟩
    clear HErr HOk HWw HR1 c2
    generalize wRvBad S base b en pe = z at *
    go_wp2_with fail
    refine HW2.out.mono ?_
    rintro e w2 ⟨rfl, hb2⟩
    have HE2 : Hid _ := HE.out w2 hb2
    clear HW2 HE hb2
    go_wp2
    go_ret2
    exact HE2.out
  have c2' := Decidable.of_not_not c2
  have HR2 : Hid (rvBad S c base gain b en pe = if leafBad c gain ≠ 0 then leafBad c gain else if b.any (noAcc c en) = true then 6 else firstTo (fun i => acBad (wV S base en pe) base gain b en (c.getD i ac0)) c.length) := by
    unfold Hid; rw [HR1.out, if_neg c2]
  have HFi : Hid (Fine b) := by
    have h1 : askBad S base b en pe = 0 := by
      unfold wRvBad at c2'
      split at c2'
      · contradiction
      · rename_i h; exact Decidable.of_not_not h
    exact (askBad_ok.1 h1).1
  have HW2 : Hid (Calls Try.prog 12 #[.slice a3 len cap3, .string base, .slice a2 b.length cap2, .int .i64 en, .int .i64 pe] w1 fun e w' => ∃ g, e = .returned (.tuple #[.slice (some ⟨g, 0, none⟩) b.length b.length, .nilIface]) ∧ NRow w' g (b.map (wV S base en pe)) ∧ Below w1.heap.size w1 w') := by
    refine HWw.out.mono ?_
    rintro e w' ⟨z1, _, z3⟩
    obtain ⟨g, e1, _, e3⟩ := z3 c2'
    exact ⟨g, e1, e3, z1⟩
  clear HWw c2 c2' HR1
  generalize wV S base en pe = f at *
  go_wp2_with fail
  refine HW2.out.mono ?_
  rintro e w2 ⟨g, rfl, hn2, hb2⟩
  have HN2 : Hid (NRow w2 g (b.map f)) := hn2
  have HB2 : Hid (Below V.heap.size V w2) := HB1.out.trans (hb2.mono HB1.out.size)
  have HLf : Hid (Calls Try.prog 28 #[.string gain, .pointer (some ⟨B1, 0, none⟩), .pointer (some ⟨B2, 0, none⟩)] w2 fun e w' => e = .returned (errV (leafBad c gain)) ∧ Below w2.heap.size w2 w') := leaf1_any c gain B1 B2 w2 (HL1.out.below hb2)
  clear HW2 hn2 hb2 HB1 HL1 x1 x2
  by_cases c3 : leafBad c gain ≠ 0
  · have HE : Hid (∀ W, Below w2.heap.size w2 W → RvEnd S c base gain b en pe w (.returned (.tuple #[.slice none 0 0, .iface 58 (.int .i64 (leafBad c gain))])) W) := fun W hW => HErr.out _ W c3 (by rw [HR2.out, if_pos c3]) (by rw [Hq.out]; exact (HBx.out W (HB2.out.trans (hW.mono HB2.out.size))).2.2.1)
    rw [errV_ne c3] at HLf
    clear HErr HOk HR2 c3
    generalize leafBad c gain = z at *
    go_wp2_with fail
    go_at_fn 28
    refine HLf.out.mono ?_
    rintro e w3 ⟨rfl, hb3⟩
    have HE3 : Hid _ := HE.out w3 hb3
    clear HLf HE hb3
    go_wp2
    go_ret2
    exact HE3.out
  have HR3 : Hid (rvBad S c base gain b en pe = if b.any (noAcc c en) = true then 6 else firstTo (fun i => acBad f base gain b en (c.getD i ac0)) c.length) := by
    unfold Hid; rw [HR2.out, if_neg c3]
  rw [Decidable.of_not_not c3, errV_zero] at HLf
  clear c3 HR2
  go_wp2_with fail
  go_at_fn 28
  refine HLf.out.mono ?_
  rintro e w3 ⟨rfl, hb3⟩
  have HB3 : Hid (Below V.heap.size V w3) := HB2.out.trans (hb3.mono HB2.out.size)
  have HN3 : Hid (NRow w3 g (b.map f)) := HN2.out.belowS hb3 HN2.out.ltS
  clear HLf hb3 HN2 HB2
  have HCt : Hid (Calls Try.prog 13 #[.slice a2 b.length cap2, .func (.func 14) #[] #[.pointer (some ⟨q2, 0, none⟩), .pointer (some ⟨q1, 0, none⟩)]] w3 fun e w' => e = .returned (.bool (b.any (noAcc c en))) ∧ Below w3.heap.size w3 w') := by
    refine fContains_any _ _ _ (noAcc c en) a2 cap2 b w3 ⟨fun args W => enters Try.func14 (by kernel_rfl) ⟨_, rfl⟩ args W, fun x W hW => ?_⟩ (by omega) (HBl.out.below (by rw [Hq.out]; exact (HBx.out w3 HB3.out).2.2.1))
    obtain ⟨y1, y2, y3, y4⟩ := HBx.out W (HB3.out.trans (hW.mono HB3.out.size))
    have hq := Hq12.out
    exact rvEnt1_any x c a cap en q2 q1 W (by omega) (by omega) y2 y1 (by omega) (HSl.out.below (by rw [Hq.out]; exact y3))
  by_cases c4 : b.any (noAcc c en) = true
  · have HE : Hid (∀ W, Below w3.heap.size w3 W → RvEnd S c base gain b en pe w (.returned (.tuple #[.slice none 0 0, .iface 58 (.int .i64 6)])) W) := fun W hW => HErr.out _ W (by decide) (by rw [HR3.out, if_pos c4]) (by rw [Hq.out]; exact (HBx.out W (HB3.out.trans (hW.mono HB3.out.size))).2.2.1)
    rw [c4] at HCt
    clear HErr HOk HR3 c4
    go_wp2_with fail
    refine HCt.out.mono ?_
    rintro e w4 ⟨rfl, hb4⟩
    have HE4 : Hid _ := HE.out w4 hb4
    clear HCt HE hb4
    go_wp2
    go_ret2
    exact HE4.out
  have HR4 : Hid (rvBad S c base gain b en pe = firstTo (fun i => acBad f base gain b en (c.getD i ac0)) c.length) := by
    unfold Hid; rw [HR3.out, if_neg c4]
  rw [Bool.eq_false_iff.2 c4] at HCt
  clear c4 HR3
  go_wp2_with fail
  refine HCt.out.mono ?_
  rintro e w4 ⟨rfl, hb4⟩
  have HB4 : Hid (Below V.heap.size V w4) := HB3.out.trans (hb4.mono HB3.out.size)
  have HN4 : Hid (NRow w4 g (b.map f)) := HN3.out.belowS hb4 HN3.out.ltS
  obtain ⟨x1, x2, x3, x4⟩ := HBx.out w4 HB4.out
  have HSl4 : Hid (IsSl w4 a c cap) := HSl.out.below (by rw [Hq.out]; exact x3)
  have HBl4 : Hid (IsBl w4 a2 b cap2) := HBl.out.below (by rw [Hq.out]; exact x3)
  have HBw : Hid (Below w.heap.size w w4 ∧ w.heap.size ≤ w4.heap.size) := by rw [Hq.out]; exact ⟨x3, by omega⟩
  have HX4 : Hid (∀ W, Below w4.heap.size w4 W → W.cell? ⟨q2, 0, none⟩ = some (.int .i64 en)) := fun W hW => (HBx.out W (HB4.out.trans (hW.mono HB4.out.size))).2.1
  clear HCt hb4 HN3 HB3 HBx HSl HBl x2 x3 x4 HB4
  obtain ⟨i0, hi, hz0, hz1, hz2⟩ := info_parts je_info
  have i2 : (c.length : Int) ≤ 60 := by omega
  go_wp2
  clear x1
  go_loopw [20, 57] (fun v i wr => ∃ (k : Nat) (L : List Je), k ≤ c.length ∧ i = .int .i64 k ∧ Hid (Made wr w4.heap.size v L ∧ L.map Je.ep = rvTo f base gain b en pe c k ∧ L.length ≤ k) ∧ Hid (firstTo (fun i => acBad f base gain b en (c.getD i ac0)) k = 0) ∧ Hid (Below w4.heap.size w4 wr)) (fun _ i _ => c.length - (RowKit.intOf i).toNat)
  case atStart => exact ⟨0, [], Nat.zero_le _, rfl, ⟨Made.nil _ _, rfl, Nat.le_refl _⟩, rfl, Below.refl _ _⟩
  case round =>
    obtain ⟨k, L, hk, rfl, HM, H0, HB⟩ := hrel
    obtain ⟨av, cv, ev, _⟩ := HM.out.1.isJs
    subst ev
    by_cases hkn : k < c.length
    · rcases HSl4.out.lies with h0 | ⟨bb, off, e, hblt, hcc⟩
      · rw [h0] at hkn; simp at hkn
      subst e
      have hx := (hcc k hkn).below HB.out hblt
      have HSz : Hid ((c.getD k ac0).code.size ≤ 6) := code_six HCo.out hkn
      obtain ⟨Z, hZ⟩ : ∃ Z, wr.alloc (.cells (c.getD k ac0).cells 42) = Z := ⟨_, rfl⟩
      have bZ : Below wr.heap.size wr Z := by rw [← hZ]; exact (Below.refl _ wr).alloc (Nat.le_refl _) _
      have hsz : wr.heap.size < Z.heap.size := by rw [← hZ]; simp
      have hbt : AcAt Z wr.heap.size 0 (c.getD k ac0) := by rw [← hZ]; exact AcAt.new wr (c.getD k ac0) 42
      have BZ : Below w4.heap.size w4 Z := HB.out.trans (bZ.mono HB.out.size)
      have HKeep : Hid (∀ W, Below Z.heap.size Z W → Below w4.heap.size w4 W ∧ Below wr.heap.size wr W ∧ AcAt W wr.heap.size 0 (c.getD k ac0) ∧ W.cell? ⟨q2, 0, none⟩ = some (.int .i64 en)) := fun W hW => by
        have h1 := BZ.trans (hW.mono BZ.size)
        exact ⟨h1, bZ.trans (hW.mono bZ.size), hbt.below hW hsz, HX4.out W h1⟩
      have HLk : Hid (Calls Try.prog 16 #[.slice a2 b.length cap2, .slice (some ⟨g, 0, none⟩) b.length b.length, .string base, .int .i64 en, .string (c.getD k ac0).code] Z fun e w' => e = .returned (.tuple #[.int .i64 (acAmt f base b en (c.getD k ac0)), errV (acErr f base b en (c.getD k ac0))]) ∧ Below Z.heap.size Z w') := lacking_any a2 cap2 g b.length f base (c.getD k ac0).code b en Z (HBl4.out.below BZ) HFi.out HFit.out (HN4.out.belowS BZ HN4.out.ltS)
      have HNx : Hid (rvTo f base gain b en pe c (k + 1) = rvTo f base gain b en pe c k ++ acE f base gain b en pe (c.getD k ac0)) := rvTo_next f base gain b en pe c k
      have HAE : Hid (acE f base gain b en pe (c.getD k ac0) = if (c.getD k ac0).mon = true ∧ acAmt f base b en (c.getD k ac0) ≠ 0 then [⟨refV (c.getD k ac0).code, en, pe, brL (acAmt f base b en (c.getD k ac0)) base (c.getD k ac0).code gain⟩] else []) := rfl
      have HAB : Hid (acBad f base gain b en (c.getD k ac0) = if (c.getD k ac0).mon = false then 0 else if acErr f base b en (c.getD k ac0) ≠ 0 then acErr f base b en (c.getD k ac0) else brBad (acAmt f base b en (c.getD k ac0)) (c.getD k ac0).code gain) := rfl
      have HBd : Hid (acBad f base gain b en (c.getD k ac0) = 0 → firstTo (fun i => acBad f base gain b en (c.getD i ac0)) (k + 1) = 0) := fun h => by rw [firstTo_next H0.out, h]
      have HBr : Hid (acBad f base gain b en (c.getD k ac0) ≠ 0 → ∀ W, Below w4.heap.size w4 W → RvEnd S c base gain b en pe w (.returned (.tuple #[.slice none 0 0, .iface 58 (.int .i64 (acBad f base gain b en (c.getD k ac0)))])) W) := fun h W hW =>
        HErr.out _ W h (by rw [HR4.out, firstTo_first H0.out h hkn]) (HBw.out.1.trans (hW.mono HBw.out.2))
      have HZ : Hid (wr.alloc (.cells (c.getD k ac0).cells 42) = Z) := hZ
      have hcell := HX4.out Z BZ
      clear hZ bZ hsz BZ hcc
      generalize acAmt f base b en (c.getD k ac0) = am at *
      generalize acErr f base b en (c.getD k ac0) = ae at *
      generalize acBad f base gain b en (c.getD k ac0) = abd at *
      generalize acE f base gain b en pe (c.getD k ac0) = aE at *
      generalize c.getD k ac0 = x at *
      obtain ⟨code, name, kind, par, mon⟩ := x
      obtain ⟨d0, d1, d2, d3, d4⟩ := hx
      obtain ⟨f0, f1, f2, f3, f4⟩ := hbt
      simp only [Ac.cells, Nat.zero_add] at d0 d1 d2 d3 d4 f0 f1 f2 f3 f4 HZ HKeep HLk HAE HAB HSz
      have j0 : (0 : Int) ≤ k := by omega
      have j1 : (k : Int) < c.length := by omega
      go_upto_region 16 with fail
      rw [HZ.out]
      clear HZ d0 d1 d2 d3 d4
      cases mon
      · have HM2 : Hid (Made Z w4.heap.size (.slice av L.length cv) L ∧ L.map Je.ep = rvTo f base gain b en pe c (k + 1) ∧ L.length ≤ k + 1) := by
          obtain ⟨m1, m2, m3⟩ := HM.out
          refine ⟨m1.below (HKeep.out Z (Below.refl _ _)).2.1, ?_, by omega⟩
          rw [HNx.out, HAE.out, if_neg (by simp), List.append_nil, m2]
        have HN : Hid (firstTo (fun i => acBad f base gain b en (c.getD i ac0)) (k + 1) = 0) := HBd.out (by rw [HAB.out, if_pos rfl])
        have HB5 : Hid (Below w4.heap.size w4 Z) := (HKeep.out Z (Below.refl _ _)).1
        clear HBd HBr HAB HAE HNx HM HOk HErr HLk HKeep
        go_wp2
        go_roundw
        case rel => exact ⟨k + 1, L, by omega, by go_num, HM2, HN, HB5⟩
        case measure => simp [RowKit.intOf]; omega
      by_cases g1 : ae ≠ 0
      · have e1 : abd = ae := by rw [HAB.out, if_neg (by simp), if_pos g1]
        subst e1
        rw [errV_ne g1] at HLk
        have HE : Hid (∀ W, Below Z.heap.size Z W → RvEnd S c base gain b en pe w (.returned (.tuple #[.slice none 0 0, .iface 58 (.int .i64 abd)])) W) := fun W hW => HBr.out g1 W (HKeep.out W hW).1
        clear HBd HBr HAB HAE HNx HM HOk HErr HKeep g1
        go_wp2_with fail
        refine HLk.out.mono ?_
        rintro e w5 ⟨rfl, hb5⟩
        have HE5 : Hid _ := HE.out w5 hb5
        clear HLk HE hb5 f0 f1 f2 f3 f4 hcell
        go_wp2
        go_ret2
        exact HE5.out
      have g1' := Decidable.of_not_not g1
      rw [g1', errV_zero] at HLk
      have HAB2 : Hid (abd = brBad am code gain) := by unfold Hid; rw [HAB.out, if_neg (by simp), if_neg g1]
      have HBo : Hid (∀ W, Calls Try.prog 17 #[.int .i64 am, .string code, .string gain] W fun e w' => e = .returned (errV abd) ∧ w' = W) := fun W => by rw [HAB2.out]; exact brBad_any am code gain W
      clear g1 g1' HAB
      go_wp2_with fail
      refine HLk.out.mono ?_
      rintro e w5 ⟨rfl, hb5⟩
      obtain ⟨y1, y2, y3, y4⟩ := HKeep.out w5 hb5
      have HY1 : Hid (Below w4.heap.size w4 w5) := y1
      have HY2 : Hid (Below wr.heap.size wr w5) := y2
      have HY3 : Hid (∀ W, Below w5.heap.size w5 W → W.cell? ⟨wr.heap.size, 0, none⟩ = some (.string code) ∧ W.cell? ⟨q2, 0, none⟩ = some (.int .i64 en)) := fun W hW => by
        obtain ⟨_, _, t3, t4⟩ := HKeep.out W (hb5.trans (hW.mono hb5.size))
        have t5 := t3.c0
        simp only at t5
        exact ⟨t5, t4⟩
      clear f0 f1 f2 f3 f4 hcell
      obtain ⟨f0, f1, f2, f3, f4⟩ := y3
      simp only [Nat.zero_add] at f0 f1 f2 f3 f4
      clear HLk HKeep hb5 y1 y2
      by_cases g2 : abd ≠ 0
      · rw [errV_ne g2] at HBo
        have HE : Hid (RvEnd S c base gain b en pe w (.returned (.tuple #[.slice none 0 0, .iface 58 (.int .i64 abd)])) w5) := HBr.out g2 w5 HY1.out
        clear HBd HBr HAB2 HAE HNx HM HOk HErr g2
        go_wp2_with fail
        refine (HBo.out _).mono ?_
        rintro e w' ⟨rfl, hw⟩
        rw [hw]; clear hw w' HBo
        go_wp2
        go_ret2
        exact HE.out
      have g2' := Decidable.of_not_not g2
      have HN : Hid (firstTo (fun i => acBad f base gain b en (c.getD i ac0)) (k + 1) = 0) := HBd.out g2'
      rw [g2', errV_zero] at HBo
      have hamt : isAmtB am = true := by
        have := HAB2.out
        rw [g2'] at this
        unfold brBad at this
        split at this
        · omega
        · rename_i h; simpa using h
      have hamt2 := isAmtB_iff.1 hamt
      unfold mostA at hamt2
      clear HBd HBr HAB2 HErr g2 g2'
      go_wp2_with fail
      refine (HBo.out _).mono ?_
      rintro e w' ⟨rfl, hw⟩
      rw [hw]; clear hw w' HBo
      by_cases g3 : am = 0
      · subst g3
        have HM2 : Hid (Made w5 w4.heap.size (.slice av L.length cv) L ∧ L.map Je.ep = rvTo f base gain b en pe c (k + 1) ∧ L.length ≤ k + 1) := by
          obtain ⟨m1, m2, m3⟩ := HM.out
          refine ⟨m1.below HY2.out, ?_, by omega⟩
          rw [HNx.out, HAE.out, if_neg (by simp), List.append_nil, m2]
        clear HAE HNx HM HOk
        go_wp2
        go_roundw
        case rel => exact ⟨k + 1, L, by omega, by go_num, HM2, HN, HY1⟩
        case measure => simp [RowKit.intOf]; omega
      have g3' : (am != 0) = true := by simpa using g3
      have HP2 : Hid (rvTo f base gain b en pe c (k + 1) = rvTo f base gain b en pe c k ++ [⟨refV code, en, pe, brL am base code gain⟩]) := by
        rw [HNx.out, HAE.out, if_pos (by first | exact ⟨rfl, g3⟩ | exact ⟨trivial, g3⟩)]; exact rfl
      have hd : Below w5.heap.size w5 w5.drew := ⟨rfl, rfl, rfl, Nat.le_refl _, fun _ _ => rfl⟩
      have HCell : Hid (∀ u, Below w5.drew.heap.size w5.drew u → u.cell? ⟨wr.heap.size, 0, none⟩ = some (.string code) ∧ u.cell? ⟨q2, 0, none⟩ = some (.int .i64 en)) := fun u hu => HY3.out u (hd.trans hu)
      have HU1 : Hid (Below w4.heap.size w4 w5.drew) := HY1.out.drew
      have HU2 : Hid (Below wr.heap.size wr w5.drew) := HY2.out.drew
      have HBg : Hid (∀ W, Calls Try.prog 18 #[.int .i64 am, .string base, .string code, .string gain] W fun e w' => ∃ adr cap, e = .returned (.slice adr 2 cap) ∧ LnRow w' W.heap.size (.slice adr 2 cap) (brL am base code gain) ∧ Below W.heap.size W w') := fun W => brought_any am base code gain W (by omega) (by omega)
      have HRf : Hid (refV code = (⟨#[118, 97, 108, 117, 101, 45]⟩ : ByteArray) ++ code) := rfl
      have HLen : Hid ((brL am base code gain).length = 2) := rfl
      generalize refV code = RF at *
      generalize brL am base code gain = gl at *
      have hsz6 := HSz.out
      have s1 : ¬ 9223372036854775807 < 6 + code.size := by omega
      clear HAE HNx HOk HY1 HY2 HY3 hd g3 hamt hamt2 HSz hsz6
      go_upto_region 23 with fail
      refine wp_region_drawn (by kernel_rfl) ?_
      generalize w5.drew = U at *
      refine wpAny_take (i := 0) (v := .slice av L.length cv) rfl (by kernel_rfl) (by kernel_rfl) (by kernel_rfl) (fun _ _ _ h => h) (Or.inl ⟨by rfl, fun w => by go_simp⟩) ?_
      simp only [Act.put, List.getElem_toArray, List.getElem_cons_succ, List.getElem_cons_zero, List.setIfInBounds_toArray, List.set_cons_zero, List.set_cons_succ]
      refine wpAny_take (i := 1) (v := .pointer (some ⟨wr.heap.size, 0, none⟩)) rfl (by kernel_rfl) (by kernel_rfl) (by kernel_rfl) (fun _ _ _ h => h) (Or.inl ⟨by rfl, fun w => by go_simp⟩) ?_
      simp only [Act.put, List.getElem_toArray, List.getElem_cons_succ, List.getElem_cons_zero, List.setIfInBounds_toArray, List.set_cons_zero, List.set_cons_succ]
      refine wpAny_take (i := 5) (v := .int .i64 pe) rfl (by kernel_rfl) (by kernel_rfl) (by kernel_rfl) (fun _ _ _ h => h) (Or.inl ⟨by rfl, fun w => by go_simp⟩) ?_
      simp only [Act.put, List.getElem_toArray, List.getElem_cons_succ, List.getElem_cons_zero, List.setIfInBounds_toArray, List.set_cons_zero, List.set_cons_succ]
      refine wpAny_take (i := 6) (v := .int .i64 am) rfl (by kernel_rfl) (by kernel_rfl) (by kernel_rfl) (fun _ _ _ h => h) (Or.inl ⟨by rfl, fun w => by go_simp⟩) ?_
      simp only [Act.put, List.getElem_toArray, List.getElem_cons_succ, List.getElem_cons_zero, List.setIfInBounds_toArray, List.set_cons_zero, List.set_cons_succ]
      refine wpAny_take (i := 7) (v := .string base) rfl (by kernel_rfl) (by kernel_rfl) (by kernel_rfl) (fun _ _ _ h => h) (Or.inl ⟨by rfl, fun w => by go_simp⟩) ?_
      simp only [Act.put, List.getElem_toArray, List.getElem_cons_succ, List.getElem_cons_zero, List.setIfInBounds_toArray, List.set_cons_zero, List.set_cons_succ]
      refine wpAny_take (i := 8) (v := .pointer (some ⟨wr.heap.size, 0, none⟩)) rfl (by kernel_rfl) (by kernel_rfl) (by kernel_rfl) (fun _ _ _ h => h) (Or.inl ⟨by rfl, fun w => by go_simp⟩) ?_
      simp only [Act.put, List.getElem_toArray, List.getElem_cons_succ, List.getElem_cons_zero, List.setIfInBounds_toArray, List.set_cons_zero, List.set_cons_succ]
      refine wpAny_take (i := 10) (v := .string gain) rfl (by kernel_rfl) (by kernel_rfl) (by kernel_rfl) (fun _ _ _ h => h) (Or.inl ⟨by rfl, fun w => by go_simp⟩) ?_
      simp only [Act.put, List.getElem_toArray, List.getElem_cons_succ, List.getElem_cons_zero, List.setIfInBounds_toArray, List.set_cons_zero, List.set_cons_succ]
      refine any_of_L (g := 14) (T := fun u => Below U.heap.size U u) _ _ _ _ ?_
      refine L_takeC [14, 13, 12, 3] (i := 2) (v := .string code) rfl (by kernel_rfl) (by kernel_rfl) (by decide) (by kernel_rfl) (by kernel_rfl) (by kernel_rfl) (by kernel_rfl) (fun _ _ _ h => h) (Or.inl ⟨by rfl, fun w' hw' => by have c0 := (HCell.out w' hw').1; clear hw'; go_simp⟩) (Below.refl _ _) ?_
      simp only [Act.put, List.getElem_toArray, List.getElem_cons_succ, List.getElem_cons_zero, List.setIfInBounds_toArray, List.set_cons_zero, List.set_cons_succ]
      refine L_takeC [14, 13, 12] (i := 3) (v := .string RF) rfl (by kernel_rfl) (by kernel_rfl) (by decide) (by kernel_rfl) (by kernel_rfl) (by kernel_rfl) (by kernel_rfl) (fun _ _ _ h => h) (Or.inl ⟨by rfl, fun w' hw' => by clear hw'; rw [HRf.out]; go_simp⟩) (Below.refl _ _) ?_
      simp only [Act.put, List.getElem_toArray, List.getElem_cons_succ, List.getElem_cons_zero, List.setIfInBounds_toArray, List.set_cons_zero, List.set_cons_succ]
      refine L_takeC [14, 13, 12] (i := 4) (v := .int .i64 en) rfl (by kernel_rfl) (by kernel_rfl) (by decide) (by kernel_rfl) (by kernel_rfl) (by kernel_rfl) (by kernel_rfl) (fun _ _ _ h => h) (Or.inl ⟨by rfl, fun w' hw' => by have c0 := (HCell.out w' hw').2; clear hw'; go_simp⟩) (Below.refl _ _) ?_
      simp only [Act.put, List.getElem_toArray, List.getElem_cons_succ, List.getElem_cons_zero, List.setIfInBounds_toArray, List.set_cons_zero, List.set_cons_succ]
      refine L_takeC [14, 13, 12, 11] (i := 9) (v := .string code) rfl (by kernel_rfl) (by kernel_rfl) (by decide) (by kernel_rfl) (by kernel_rfl) (by kernel_rfl) (by kernel_rfl) (fun _ _ _ h => h) (Or.inl ⟨by rfl, fun w' hw' => by have c0 := (HCell.out w' hw').1; clear hw'; go_simp⟩) (Below.refl _ _) ?_
      simp only [Act.put, List.getElem_toArray, List.getElem_cons_succ, List.getElem_cons_zero, List.setIfInBounds_toArray, List.set_cons_zero, List.set_cons_succ]
      refine L_one (i := 11) (by kernel_rfl) ?_
      refine wpOp_step rfl ?_
      intro K hK
      rw [if_pos (by rfl)]
      have hK' : Shut (∀ a w, _ → K a w) := hK
      clear hK
      go_wp2_with fail
      refine (HBg.out U).mono ?_
      rintro e W1 ⟨a4, c4, rfl, hr4, hb4⟩
      refine hK'.out _ _ ?_
      clear hK' K
      refine ⟨hb4, ?_⟩
      try simp only [Act.put, List.getElem_toArray, List.getElem_cons_succ, List.getElem_cons_zero, List.setIfInBounds_toArray, List.set_cons_zero, List.set_cons_succ]
      refine L_takeC [14, 13] (i := 12) (v := .agg #[.string RF, .int .i64 en, .int .i64 pe, .slice a4 2 c4]) rfl (by kernel_rfl) (by kernel_rfl) (by decide) (by kernel_rfl) (by kernel_rfl) (by kernel_rfl) (by kernel_rfl) (fun _ _ _ h => h) ?_ hb4 ?_
      · exact yields_build_run (by rfl) 39 _ (by rfl) #[(0, .string RF), (1, .int .i64 en), (2, .int .i64 pe), (3, .slice a4 2 c4)] (by simp [Act.eval]) (fun w' _ => rv_build_en _ _ _ _ _ _ w')
      simp only [Act.put, List.getElem_toArray, List.getElem_cons_succ, List.getElem_cons_zero, List.setIfInBounds_toArray, List.set_cons_zero, List.set_cons_succ]
      have HR4' : Hid (LnRow W1 U.heap.size (.slice a4 gl.length c4) gl) := by rw [HLen.out]; exact hr4
      have HB4 : Hid (Below U.heap.size U W1) := hb4
      have HAdd : Hid (∀ v' w6, World.ownsRow w6 w4.heap.size 39 4 v' (L.length + 1) (jeRow L ++ (Je.mk RF en pe a4 c4 gl).cells.toList) → (W1.alloc (.cells #[.string RF, .int .i64 en, .int .i64 pe, .slice a4 2 c4] 39)).grownBy w6 (Value.slice av L.length cv).ownBlock → (Made w6 w4.heap.size v' (L ++ [Je.mk RF en pe a4 c4 gl]) ∧ (L ++ [Je.mk RF en pe a4 c4 gl]).map Je.ep = rvTo f base gain b en pe c (k + 1) ∧ (L ++ [Je.mk RF en pe a4 c4 gl]).length ≤ k + 1) ∧ Below w4.heap.size w4 w6) := fun v' w6 h1 h2 => by
        obtain ⟨m1, m2, m3⟩ := HM.out
        have z1 := HU1.out.trans (HB4.out.mono HU1.out.size)
        have z2 := z1.alloc z1.size (.cells #[.string RF, .int .i64 en, .int .i64 pe, .slice a4 2 c4] 39)
        have z3 : Below W1.heap.size W1 (W1.alloc (.cells #[.string RF, .int .i64 en, .int .i64 pe, .slice a4 2 c4] 39)) := (Below.refl _ W1).alloc (Nat.le_refl _) _
        have m4 := ((m1.below HU2.out).below HB4.out).below z3
        refine ⟨⟨m4.add (x := Je.mk RF en pe a4 c4 gl) ((HR4'.out.below z3).mono HU1.out.size) h1 h2, ?_, ?_⟩, z2.grown h2 z2.size fun j e => m1.row.own j e⟩
        · rw [List.map_append, m2, HP2.out]; rfl
        · rw [List.length_append]; simp; exact m3
      have HRow : Hid (World.ownsRow (W1.alloc (.cells #[.string RF, .int .i64 en, .int .i64 pe, .slice a4 2 c4] 39)) w4.heap.size 39 4 (.slice av L.length cv) L.length (jeRow L)) := by
        have m4 := (HM.out.1.below HU2.out).below HB4.out
        exact World.ownsRow.alloc m4.row _
      have s2 : Hid (L.length + 1 ≤ maxLen ∧ (L.length + 1) * 56 ≤ 140737488355328) := by
        have := HM.out.2.2
        unfold Hid maxLen; omega
      have s4 : Hid (w4.heap.size ≤ (W1.alloc (.cells #[.string RF, .int .i64 en, .int .i64 pe, .slice a4 2 c4] 39)).heap.size) := by
        have z1 := HU1.out.size
        have z2 := HB4.out.size
        unfold Hid; simp; omega
      have HCl : Hid ((Je.mk RF en pe a4 c4 gl).cells.toList = [.string RF, .int .i64 en, .int .i64 pe, .slice a4 2 c4]) := by unfold Je.cells Hid; simp only [HLen.out]
      have HOne : Hid (∀ u ∈ ([.string RF, .int .i64 en, .int .i64 pe, .slice a4 2 c4] : List Value), u.oneCell' = true) := by rw [← HCl.out]; exact je_one _
      rw [HCl.out] at HAdd
      have hbA : Below U.heap.size U (W1.alloc (.cells #[.string RF, .int .i64 en, .int .i64 pe, .slice a4 2 c4] 39)) := hb4.alloc hb4.size _
      clear hr4 hb4 HM HCl HBg HCell HU1 HU2 HR4' HB4
      refine L_one (i := 13) (by kernel_rfl) ?_
      refine wpOp_step rfl ?_
      intro K hK
      rw [if_pos (by rfl)]
      have hK' : Shut (∀ a w, _ → K a w) := hK
      clear hK
      go_wp2_with fail
      refine hK'.out _ _ ?_
      clear hK' K
      refine ⟨hbA, ?_⟩
      try simp only [Act.put, List.getElem_toArray, List.getElem_cons_succ, List.getElem_cons_zero, List.setIfInBounds_toArray, List.set_cons_zero, List.set_cons_succ]
      refine L_go (by kernel_rfl) (by kernel_rfl) ?_
      refine wpOp_step rfl (fun K hK => ?_)
      refine step_append_lies _ rfl (.tmp 86) (.tmp 99) 27 rfl w4.heap.size 39 i0 (.agg #[.string ByteArray.empty, .int .i64 0, .int .i64 0, .slice none 0 0]) 4 56 Try.underlying27 hi hz0 hz1 hz2 rfl (Nat.zero_lt_succ _) (.slice av L.length cv) L.length (jeRow L) rfl HRow.out ⟨W1.heap.size, 0, none⟩ 1 1 [.string RF, .int .i64 en, .int .i64 pe, .slice a4 2 c4] rfl rfl (World.news_of_block (World.alloc_heap_new W1 _)) HOne.out (Nat.zero_lt_one) s2.out.1 s2.out.2 s4.out (W1.heap.size + 1) (by simp) ?_
      intro g' cap' w6 hown' hgrow hat hlt2
      obtain ⟨hm6, hb6⟩ := HAdd.out _ w6 hown' hgrow
      have HM6 : Hid _ := hm6
      have HB6 : Hid (Below w4.heap.size w4 w6) := hb6
      refine hK _ _ ?_
      clear hK K hown' hgrow hm6 hb6 HAdd HRow hat hlt2 hbA
      refine wpAny_take (i := 15) (v := .slice (some ⟨g', 0, none⟩) (L.length + 1) cap') rfl (by kernel_rfl) (by kernel_rfl) (by kernel_rfl) (fun _ _ _ h => h) (Or.inl ⟨by rfl, fun w => by go_simp⟩) ?_
      simp only [Act.put, List.getElem_toArray, List.getElem_cons_succ, List.getElem_cons_zero, List.setIfInBounds_toArray, List.set_cons_zero, List.set_cons_succ]
      refine wpAny_done (by kernel_rfl) ?_ _
      go_wp2
      go_roundw
      case rel => exact ⟨k + 1, _, by omega, by go_num, HM6, HN, HB6⟩
      case measure => simp [RowKit.intOf]; omega
    · have ek : k = c.length := by omega
      subst ek
      obtain ⟨m1, m2, m3⟩ := HM.out
      have HE : Hid (RvEnd S c base gain b en pe w (.returned (.tuple #[.slice av L.length cv, .nilIface])) wr) := HOk.out _ L wr (by rw [HR4.out, H0.out]) (HBw.out.1.trans (HB.out.mono HBw.out.2)) (m1.mono HBw.out.2) m2 (by omega)
      have j1 : ¬ (c.length : Int) < c.length := by omega
      clear m1 m2 m3 HM HErr HOk
      go_wp2
      go_ret2
      exact HE.out
end Go.Proofs.Ytbbegoklikaphaa

namespace Go.Proofs.Ytbbegoklikaphaa
set_option linter.unusedVariables false
set_option linter.unusedSimpArgs false
set_option maxRecDepth 100000
open Go.RowKit Go.Lib Go.Maps Math

theorem ratV_self {m : Int} (h : -1000000000000000000 ≤ m ∧ m ≤ 1000000000000000000) : ratV m 1 1 = m ∧ partOf (absI m) 1 1 ≤ 9223372036854775807 + (if m < 0 then 1 else 0) := by
  have e : partOf (absI m) 1 1 = absI m := part_all (absI m) 1 (by omega)
  have e2 : absI m ≤ 1000000000000000000 := by unfold absI; split <;> omega
  have e3 : absI m ≤ 9223372036854775807 + (if m < 0 then 1 else 0) := by split <;> omega
  unfold ratV ratioV
  rw [e]
  refine ⟨?_, e3⟩
  rw [if_pos e3]
  unfold absI
  split <;> omega
theorem findS_self {S : Int × DataW Unit} {base : ByteArray} {pe : Int} (h1 : S.1 = 0) (h2 : isCur base = true) (h3 : upTo pe 120 = true) : findS S base base base pe = (1, 1, 0) := by
  unfold findS
  rw [if_neg (by simp [h1]), if_neg (by simp [h2]), if_neg (by simp [h3]), if_pos rfl]
theorem wV_self {S : Int × DataW Unit} {base : ByteArray} {en pe : Int} {x : Bl} (h1 : S.1 = 0) (h2 : isCur base = true) (h3 : upTo pe 120 = true) (hc : x.cur = base) (ha : -1000000000000000000 ≤ x.amt ∧ x.amt ≤ 1000000000000000000) : wV S base en pe x = (if x.ent = en then x.amt else 0) ∧ wE S base en pe x = 0 := by
  obtain ⟨r1, r2⟩ := ratV_self ha
  unfold wV wE
  rw [hc, findS_self h1 h2 h3]
  refine ⟨?_, ?_⟩
  · unfold convV
    rw [if_pos rfl, r1]
  · unfold cvE
    rw [if_pos rfl, if_pos r2]
    split <;> rfl
theorem acAmt_none {f : Bl → Int} {base : ByteArray} {b : List Bl} {en : Int} (x : Ac) (h : othL f en x.code base b = []) : acAmt f base b en x = 0 ∧ acErr f base b en x = 0 := by
  unfold acAmt acErr lkV lkE
  rw [h]
  exact ⟨rfl, rfl⟩
theorem rvTo_nil {f : Bl → Int} {base gain : ByteArray} {b : List Bl} {en pe : Int} {c : List Ac} : ∀ {k : Nat}, (∀ i, i < k → (c.getD i ac0).mon = true → acAmt f base b en (c.getD i ac0) = 0) → rvTo f base gain b en pe c k = []
  | 0, _ => rfl
  | k + 1, h => by
    rw [rvTo_next, rvTo_nil fun i hi => h i (by omega), List.nil_append]
    unfold acE
    exact if_neg fun hh => hh.2 (h k (by omega) hh.1)
end Go.Proofs.Ytbbegoklikaphaa

namespace Go.Proofs.Ytbbegoklikaphaa
set_option linter.unusedVariables false
set_option linter.unusedSimpArgs false
open Go.RowKit

def Bl.plus (y x : Bl) : Bl := ⟨y.ent, y.acc, y.cur, y.amt + x.amt⟩
theorem plus_key (y x : Bl) : (y.plus x).key = y.key := rfl
def putB : List Bl → Bl → List Bl
  | [], x => [x]
  | y :: l, x => if cmpB y x < 0 then y :: putB l x else if cmpB x y < 0 then x :: y :: l else y.plus x :: l
/-- How many stand ahead. -/
def putAt : List Bl → Bl → Nat
  | [], x => 0
  | y :: l, x => if cmpB y x < 0 then putAt l x + 1 else 0
theorem putAt_le : ∀ (l : List Bl) (x : Bl), putAt l x ≤ l.length
  | [], x => Nat.le_refl _
  | y :: l, x => by
    unfold putAt
    have := putAt_le l x
    split <;> simp <;> omega
theorem putAt_ahead : ∀ (l : List Bl) (x : Bl) (j : Nat), j < putAt l x → cmpB (l.getD j bl0) x < 0
  | [], x, j, h => by simp [putAt] at h
  | y :: l, x, j, h => by
    unfold putAt at h
    split at h
    · rename_i hy
      rcases j with _ | j
      · simpa using hy
      · have := putAt_ahead l x j (by omega)
        simpa using this
    · omega
theorem putAt_stop : ∀ (l : List Bl) (x : Bl), putAt l x < l.length → ¬ cmpB (l.getD (putAt l x) bl0) x < 0
  | [], x, h => by simp at h
  | y :: l, x, h => by
    unfold putAt at h ⊢
    split at h
    · rename_i hy
      rw [if_pos hy]
      have := putAt_stop l x (by simp at h; omega)
      simpa using this
    · rename_i hy
      rw [if_neg hy]
      simpa using hy
theorem putAt_eq {l : List Bl} {x : Bl} {k : Nat} (h1 : ∀ j, j < k → cmpB (l.getD j bl0) x < 0) (h2 : k < l.length → ¬ cmpB (l.getD k bl0) x < 0) (hk : k ≤ l.length) : k = putAt l x := by
  rcases (by omega : k < putAt l x ∨ k = putAt l x ∨ putAt l x < k) with h | h | h
  · exact absurd (putAt_ahead l x k h) (h2 (by have := putAt_le l x; omega))
  · exact h
  · exact absurd (h1 _ h) (putAt_stop l x (by omega))
theorem putB_eq : ∀ (l : List Bl) (x : Bl), putB l x = if putAt l x < l.length ∧ ¬ cmpB x (l.getD (putAt l x) bl0) < 0 then l.take (putAt l x) ++ (l.getD (putAt l x) bl0).plus x :: l.drop (putAt l x + 1) else l.take (putAt l x) ++ x :: l.drop (putAt l x)
  | [], x => by simp [putB, putAt]
  | y :: l, x => by
    unfold putB putAt
    by_cases h1 : cmpB y x < 0
    · simp only [h1, if_true, List.length_cons, Nat.add_lt_add_iff_right, List.getD_cons_succ, List.take_succ_cons, List.drop_succ_cons, putB_eq l x]
      split <;> simp
    · simp only [h1, if_false]
      by_cases h2 : cmpB x y < 0
      · simp [h2]
      · simp [h2]
theorem putB_tot (k : Pk) : ∀ (l : List Bl) (x : Bl), ltot k (putB l x) = ltot k l + if x.key = k then x.amt else 0
  | [], x => by simp [putB, ltot]
  | y :: l, x => by
    unfold putB
    split
    · rw [ltot, putB_tot k l x, ltot]; omega
    · split
      · rw [ltot]; omega
      · rename_i h1 h2
        have e : y.key = x.key := by
          false_or_by_contra
          rename_i hne
          exact h2 (cmpB_total h1 hne)
        rw [ltot, ltot, plus_key, e]
        simp only [Bl.plus]
        split <;> omega
theorem putB_keys (k : Pk) : ∀ (l : List Bl) (x : Bl), (∃ y ∈ putB l x, y.key = k) ↔ (∃ y ∈ l, y.key = k) ∨ x.key = k
  | [], x => by simp [putB]
  | y :: l, x => by
    have ih := putB_keys k l x
    simp only [List.mem_cons, exists_eq_or_imp] at ih ⊢
    unfold putB
    split
    · simp only [List.mem_cons, exists_eq_or_imp, ih, or_assoc]
    · split
      · simp only [List.mem_cons, exists_eq_or_imp]
        constructor
        · rintro (h | h)
          · exact .inr h
          · exact .inl h
        · rintro (h | h)
          · exact .inr h
          · exact .inl h
      · rename_i h1 h2
        have e : y.key = x.key := by
          false_or_by_contra
          rename_i hne
          exact h2 (cmpB_total h1 hne)
        simp only [List.mem_cons, exists_eq_or_imp, plus_key]
        constructor
        · intro h; exact .inl h
        · rintro (h | h)
          · exact h
          · exact .inl (e.trans h)
theorem cmpB_plus (y x z : Bl) : cmpB (y.plus x) z = cmpB y z ∧ cmpB z (y.plus x) = cmpB z y := ⟨rfl, rfl⟩
theorem putB_behind {y : Bl} : ∀ {l : List Bl} {x : Bl}, (∀ z ∈ l, cmpB y z < 0) → cmpB y x < 0 → ∀ z ∈ putB l x, cmpB y z < 0
  | [], x, _, hx, z, hz => by
    simp only [putB, List.mem_singleton] at hz
    rw [hz]; exact hx
  | q :: l, x, h, hx, z, hz => by
    have h1 := h q (List.mem_cons_self ..)
    have h2 : ∀ z ∈ l, cmpB y z < 0 := fun z hz => h z (List.mem_cons_of_mem _ hz)
    unfold putB at hz
    split at hz
    · rcases List.mem_cons.1 hz with rfl | hz
      · exact h1
      · exact putB_behind h2 hx z hz
    · split at hz
      · rcases List.mem_cons.1 hz with rfl | hz
        · exact hx
        · exact h z hz
      · rcases List.mem_cons.1 hz with rfl | hz
        · exact h1
        · exact h2 z hz
theorem putB_rises : ∀ {l : List Bl} {x : Bl}, Rises l → Rises (putB l x)
  | [], x, _ => List.pairwise_singleton _ _
  | y :: l, x, h => by
    obtain ⟨h1, h2⟩ := List.pairwise_cons.1 h
    unfold putB
    split
    · rename_i hy
      exact List.pairwise_cons.2 ⟨putB_behind h1 hy, putB_rises h2⟩
    · split
      · rename_i hy
        exact List.pairwise_cons.2 ⟨fun z hz => by
          rcases List.mem_cons.1 hz with rfl | hz
          · exact hy
          · exact cmpB_trans hy (h1 z hz), h⟩
      · exact List.pairwise_cons.2 ⟨h1, h2⟩
theorem putB_length : ∀ (l : List Bl) (x : Bl), (putB l x).length ≤ l.length + 1
  | [], x => by simp [putB]
  | y :: l, x => by
    have := putB_length l x
    unfold putB
    split
    · simp; exact this
    · split <;> simp
/-- All of some put into others. -/
def putL (l m : List Bl) : List Bl := m.foldl putB l
theorem putL_snoc (l m : List Bl) (k : Nat) (h : k < m.length) : putL l (m.take (k + 1)) = putB (putL l (m.take k)) (m.getD k bl0) := by
  rw [bls_take m k h, putL, List.foldl_append]; rfl
theorem putL_rises : ∀ {m l : List Bl}, Rises l → Rises (putL l m)
  | [], l, h => h
  | x :: m, l, h => putL_rises (m := m) (putB_rises h)
theorem putL_tot (k : Pk) : ∀ (m l : List Bl), ltot k (putL l m) = ltot k (l ++ m)
  | [], l => by simp [putL]
  | x :: m, l => by
    have h1 : ltot k (putL (putB l x) m) = ltot k (putB l x ++ m) := putL_tot k m (putB l x)
    show ltot k (putL (putB l x) m) = _
    rw [h1, ltot_append, putB_tot, ltot_append, ltot]
    omega
theorem putL_keys (k : Pk) : ∀ (m l : List Bl), (∃ y ∈ putL l m, y.key = k) ↔ ∃ y ∈ l ++ m, y.key = k
  | [], l => by simp [putL]
  | x :: m, l => by
    have h1 := putL_keys k m (putB l x)
    show (∃ y ∈ putL (putB l x) m, y.key = k) ↔ _
    rw [h1]
    have h2 := putB_keys k l x
    constructor
    · rintro ⟨y, hy, e⟩
      rcases List.mem_append.1 hy with hy | hy
      · rcases h2.1 ⟨y, hy, e⟩ with ⟨z, hz, ez⟩ | ez
        · exact ⟨z, List.mem_append_left _ hz, ez⟩
        · exact ⟨x, List.mem_append_right _ (List.mem_cons_self ..), ez⟩
      · exact ⟨y, List.mem_append_right _ (List.mem_cons_of_mem _ hy), e⟩
    · rintro ⟨y, hy, e⟩
      rcases List.mem_append.1 hy with hy | hy
      · obtain ⟨z, hz, ez⟩ := h2.2 (.inl ⟨y, hy, e⟩)
        exact ⟨z, List.mem_append_left _ hz, ez⟩
      · rcases List.mem_cons.1 hy with rfl | hy
        · obtain ⟨z, hz, ez⟩ := h2.2 (.inr e)
          exact ⟨z, List.mem_append_left _ hz, ez⟩
        · exact ⟨y, List.mem_append_right _ hy, e⟩
theorem putL_length : ∀ (m l : List Bl), (putL l m).length ≤ l.length + m.length
  | [], l => by simp [putL]
  | x :: m, l => by
    have h1 : (putL (putB l x) m).length ≤ _ := putL_length m (putB l x)
    have h2 := putB_length l x
    show (putL (putB l x) m).length ≤ _
    simp only [List.length_cons]
    omega
theorem Rises.nodup {l : List Bl} (h : Rises l) : (l.map Bl.key).Nodup := by
  rw [List.nodup_iff_pairwise_ne, List.pairwise_map]
  exact h.imp (fun {x y} hxy e => by have := cmpB_zero.2 e; omega)
/-- As many as there are places. -/
theorem putL_count {a b : List Bl} (ha : Rises a) : (putL a b).length = (parts (a ++ b)).length := by
  have h1 : ((putL a b).map Bl.key).Perm ((parts (a ++ b)).map Pt.key) := (List.perm_ext_iff_of_nodup (putL_rises ha).nodup (parts_nodup _)).2 (fun k => by
    rw [parts_keys, ← putL_keys k b a]
    simp)
  have := h1.length_eq
  simpa using this
theorem putL_sums {a b : List Bl} (ha : Rises a) : Sums (a ++ b) (full (putL a b)) :=
  ⟨(putL_rises ha).sublist List.filter_sublist, full_ne _, fun k => by rw [ltot_full, putL_tot]⟩
def inB (x : Bl) : Prop := -1000000000000000000 ≤ x.amt ∧ x.amt ≤ 1000000000000000000
/-- What is wrong with them, as it is looked for. -/
theorem mgE_put {a b : List Bl} (ha : chk a = 0) (hb : chk b = 0) (h2 : (putL a b).length ≤ 200) : ((∀ x ∈ full (putL a b), inB x) → mgE a b = 0) ∧ (¬ (∀ x ∈ full (putL a b), inB x) → mgE a b = 10) := by
  have fa := chk_zero.1 ha
  have fb := chk_zero.1 hb
  have hr := putL_rises (m := b) fa.rises
  have hc := putL_count (b := b) fa.rises
  have key : (∀ x ∈ full (putL a b), inB x) ↔ mgE a b = 0 := by
    rw [mgE_zero]
    constructor
    · intro h
      refine ⟨fa, fb, by omega, fun x hx => ?_⟩
      by_cases e : ltot x.key (a ++ b) = 0
      · rw [e]; omega
      · rw [← putL_tot, ← ltot_full] at e ⊢
        obtain ⟨y, hy, ey⟩ := ltot_ex e
        have h1 := ltot_mem (putL_sums (b := b) fa.rises).rises y hy
        rw [ey] at h1
        rw [h1]
        exact h y hy
    · intro h x hx
      have h1 := ltot_mem (putL_sums (b := b) fa.rises).rises x hx
      rw [ltot_full, putL_tot] at h1
      unfold inB
      rw [← h1]
      exact ltot_all h.2.2.2 _
  refine ⟨key.1, fun h => ?_⟩
  have h0 : mgE a b ≠ 0 := fun e => h (key.2 e)
  unfold mgE at h0 ⊢
  rw [if_neg (by simp [ha]), if_neg (by simp [hb]), if_neg (by omega)] at h0 ⊢
  split at h0
  · exact absurd rfl h0
  · rename_i h3
    rw [if_neg h3]
theorem mgE_put4 {a b : List Bl} (ha : chk a = 0) (hb : chk b = 0) (h2 : 200 < (putL a b).length) : mgE a b = 4 := by
  have hc := putL_count (b := b) (chk_zero.1 ha).rises
  unfold mgE
  rw [if_neg (by simp [ha]), if_neg (by simp [hb]), if_pos (by omega)]
end Go.Proofs.Ytbbegoklikaphaa

namespace Go.Proofs.Ytbbegoklikaphaa
set_option linter.unusedVariables false
set_option linter.unusedSimpArgs false
set_option maxRecDepth 100000
open Go.RowKit Go.Lib
theorem ldP_str : Try.prog.cellsOf 9 = 1 := by kernel_rfl
theorem ldP_int : Try.prog.cellsOf 3 = 1 := by kernel_rfl
/-- A place as it can be in memory. -/
structure PkOk (k : Pk) : Prop where
  ent : -9223372036854775808 ≤ k.1 ∧ k.1 ≤ 9223372036854775807
  acc : k.2.1.size ≤ maxLen
  cur : k.2.2.size ≤ maxLen
/-- A balance as it can be in memory. -/
structure BlOk (x : Bl) : Prop where
  key : PkOk x.key
  amt : -9223372036854775808 ≤ x.amt ∧ x.amt ≤ 9223372036854775807
end Go.Proofs.Ytbbegoklikaphaa

namespace Go.Proofs.Ytbbegoklikaphaa
set_option linter.unusedVariables false
set_option linter.unusedSimpArgs false
set_option maxRecDepth 100000
open Go.RowKit Go.Lib

/-- A line as a balance of an entity. -/
def lnB (en : Int) (x : Ln) : Bl := ⟨en, x.acc, x.cur, x.amt⟩
def lnsBs (en : Int) (l : List Ln) : List Bl := l.map (lnB en)
theorem hasB_key {en : Int} {acc cur : ByteArray} {x : Bl} : hasB en acc cur x = true ↔ x.key = (en, acc, cur) := by
  unfold hasB Bl.key
  simp only [Bool.and_eq_true, decide_eq_true_eq, Prod.mk.injEq]
theorem getB_tot {l : List Bl} (h : Rises l) (en : Int) (acc cur : ByteArray) : getB l en acc cur = ltot (en, acc, cur) l := by
  unfold getB
  cases hf : l.find? (hasB en acc cur) with
  | none =>
    rw [List.find?_eq_none] at hf
    rw [ltot_none _ _ (fun x hx e => hf x hx (hasB_key.2 e))]
    rfl
  | some x =>
    have h1 := hasB_key.1 (List.find?_some hf)
    have h2 := List.mem_of_find?_eq_some hf
    have h3 := ltot_mem h x h2
    rw [h1] at h3
    rw [h3]
    rfl
theorem tot_none_acc (en : Int) (acc cur : ByteArray) (l : List Ln) (h : ∀ x ∈ l, x.acc ≠ acc) : ltot (en, acc, cur) (lnsBs en l) = 0 := by
  refine ltot_none _ _ fun x hx => ?_
  obtain ⟨y, hy, rfl⟩ := List.mem_map.1 hx
  intro e
  simp only [lnB, Bl.key, Prod.mk.injEq] at e
  exact h y hy e.2.1
theorem ltot_bd (k : Pk) (M : Int) (hM : 0 ≤ M) : ∀ l : List Bl, (∀ x ∈ l, -M ≤ x.amt ∧ x.amt ≤ M) → -(M * l.length) ≤ ltot k l ∧ ltot k l ≤ M * l.length
  | [], _ => by simp [ltot]
  | x :: l, h => by
    have h1 := ltot_bd k M hM l fun y hy => h y (List.mem_cons_of_mem _ hy)
    have h2 := h x (List.mem_cons_self ..)
    rw [ltot, List.length_cons, Int.natCast_add, Int.mul_add]
    simp only [Int.natCast_one, Int.mul_one]
    split <;> omega
/-- What was put, one behind the other. -/
structure PutOk (m : List Bl) : Prop where
  len : m.length ≤ 150
  amt : ∀ x ∈ m, -1000000000000000 ≤ x.amt ∧ x.amt ≤ 1000000000000000
  key : ∀ x ∈ m, PkOk x.key
theorem put_rises (m : List Bl) : Rises (putL [] m) := putL_rises List.Pairwise.nil
theorem put_amt {m : List Bl} (h : PutOk m) : ∀ y ∈ putL [] m, -150000000000000000 ≤ y.amt ∧ y.amt ≤ 150000000000000000 := fun y hy => by
  have h1 := ltot_mem (put_rises m) y hy
  rw [putL_tot, List.nil_append] at h1
  have h2 := ltot_bd y.key 1000000000000000 (by omega) m h.amt
  have := h.len
  omega
theorem put_next {m : List Bl} (h : PutOk m) {x : Bl} (hx : -1000000000000000 ≤ x.amt ∧ x.amt ≤ 1000000000000000) : ∀ y ∈ putL [] m, y.key = x.key → -9223372036854775808 ≤ y.amt + x.amt ∧ y.amt + x.amt ≤ 9223372036854775807 := fun y hy _ => by
  have := put_amt h y hy
  omega
theorem put_ok {m : List Bl} (h : PutOk m) : ∀ x ∈ full (putL [] m), BlOk x := fun x hx => by
  have hx := (List.mem_filter.1 hx).1
  have h1 := put_amt h x hx
  obtain ⟨y, hy, e⟩ := (putL_keys x.key m []).1 ⟨x, hx, rfl⟩
  rw [List.nil_append] at hy
  exact ⟨e ▸ h.key y hy, by omega⟩
theorem PutOk.take {m : List Bl} (h : PutOk m) (k : Nat) : PutOk (m.take k) := ⟨by have := h.len; simp; omega, fun x hx => h.amt x (List.mem_of_mem_take hx), fun x hx => h.key x (List.mem_of_mem_take hx)⟩
end Go.Proofs.Ytbbegoklikaphaa
