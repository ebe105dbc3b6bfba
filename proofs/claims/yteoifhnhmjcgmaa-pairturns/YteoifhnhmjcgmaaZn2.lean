/-
  The contracts of math/bits.Add64, money.Sum and money.Add: a sum, or none where it is not of 64 bits.
-/
import Derived.Test.YteoifhnhmjcgmaaZn1
import Derived.Deep.CutRange
import Derived.Deep.CutBlock
import Derived.WalkLawsBesides
import Derived.Test.YteoifhnhmjcgmaaProg
import Derived.WalkKit
import Derived.WalkSpells
import Derived.Lib.OthersKept
import Derived.Laws.NewBlocks
import Derived.Below
import Derived.Test.YteoifhnhmjcgmaaRows
import Derived.Laws.Externs
namespace Go.Proofs.Yteoifhnhmjcgmaa
set_option linter.unusedVariables false
set_option linter.unusedSimpArgs false
set_option maxRecDepth 100000
open Go.RowKit Go.Lib
theorem IsBl.some {w : World} {a : Option Addr} {l : List Bl} {cap k : Nat} (h : IsBl w a l cap) (hk : k < l.length) : ∃ b off, a = some ⟨b, off, none⟩ ∧ b < w.heap.size ∧ BlsAt w b off l := by
  rcases h.lies with h | h
  · rw [h] at hk; simp at hk
  · exact h

set_option maxHeartbeats 4000000 in
theorem ldCheck_any (a : Option Addr) (cap : Nat) (l : List Bl) (w : World) (hlen : l.length ≤ 9223372036854775807) (h : IsBl w a l cap) :
    Calls Try.prog 6 #[.slice a l.length cap] w fun e w' => e = .returned (enE (chk l)) ∧ Below w.heap.size w w' := by
  by_cases h2 : 200 < l.length
  · have e4 : chk l = 4 := if_pos h2
    rw [e4, enE_ne (by decide)]
    have i1 : (200 : Int) < l.length := by omega
    clear h e4
    go_enter Try.func6, Try.ntmps6
    go_wp2
    go_ret
    exact ⟨rfl, Below.refl _ _⟩
  have i1 : ¬ (200 : Int) < l.length := by omega
  have i2 : (l.length : Int) ≤ 200 := by omega
  obtain ⟨res, hres⟩ : ∃ res, enE (chk l) = res := ⟨_, rfl⟩
  have Hres : Hid (enE (chkTo l l.length) = res) := by
    rw [← hres]; unfold chk; rw [if_neg h2]; exact rfl
  rw [hres]
  clear hres
  have HL : Hid (IsBl w a l cap) := h
  clear h
  go_enter Try.func6, Try.ntmps6
  go_wp2
  go_loopw [11] (fun i wr => ∃ k : Nat, k ≤ l.length ∧ i = .int .i64 k ∧ Hid (chkTo l k = 0) ∧ Hid (Below w.heap.size w wr)) (fun i _ => l.length - (RowKit.intOf i).toNat)
  case atStart => exact ⟨0, Nat.zero_le _, rfl, rfl, Below.refl _ _⟩
  case round =>
    obtain ⟨k, hk, rfl, H0, HB⟩ := hrel
    by_cases hlt : k < l.length
    · obtain ⟨b, off, rfl, hb, hc⟩ := HL.out.some hlt
      have hy := (hc k hlt).below HB.out hb
      have i0 : (0 : Int) ≤ k := by omega
      have i3 : (k : Int) < l.length := by omega
      have HC : Hid (BlsAt w b off l) := hc
      have HY : Hid (l.getD k bl0 = l.getD k bl0) := rfl
      obtain ⟨y, hyy⟩ : ∃ y, l.getD k bl0 = y := ⟨_, rfl⟩
      have HYY : Hid (l.getD k bl0 = y) := hyy
      rw [hyy] at hy
      clear hyy hc HY
      obtain ⟨y0, y1, y2, y3⟩ := y
      obtain ⟨d0, d1, d2, d3⟩ := hy
      simp only at d0 d1 d2 d3
      obtain ⟨W1, hW1⟩ : ∃ W1, wr.alloc (.cells #[.int .i64 y0, .string y1, .string y2, .int .i64 y3] 32) = W1 := ⟨_, rfl⟩
      have hbx : W1.heap[wr.heap.size]? = some (.cells #[.int .i64 y0, .string y1, .string y2, .int .i64 y3] 32 (0, 0)) := by rw [← hW1]; unfold World.alloc; simp only [Array.getElem?_push_size]
      have HB1 : Hid (Below w.heap.size w W1) := by rw [← hW1]; exact HB.out.alloc HB.out.size _
      have HX : Hid (∀ U, Below W1.heap.size W1 U → U.cell? ⟨wr.heap.size, 0, none⟩ = some (.int .i64 y0) ∧ U.cell? ⟨wr.heap.size, 1, none⟩ = some (.string y1) ∧ U.cell? ⟨wr.heap.size, 2, none⟩ = some (.string y2) ∧ U.cell? ⟨wr.heap.size, 3, none⟩ = some (.int .i64 y3)) := fun U hU => by
        have hlt' : wr.heap.size < W1.heap.size := (Array.getElem?_eq_some_iff.1 hbx).1
        have e := (hU.block _ hlt').trans hbx
        simp [World.cell?, e]
      have HW1 : Hid (wr.alloc (.cells #[.int .i64 y0, .string y1, .string y2, .int .i64 y3] 32) = W1) := hW1
      have HSz : Hid (wr.heap.size < W1.heap.size) := (Array.getElem?_eq_some_iff.1 hbx).1
      clear hW1 hbx
      go_upto_region 6 with fail
      rw [HW1.out]
      clear HW1 d0 d1 d2 d3
      obtain ⟨B, hB⟩ : ∃ B, wr.heap.size = B := ⟨_, rfl⟩
      rw [hB] at HX HSz ⊢
      clear hB HB
      go_cut [16] from 17 to 28 (fun t wx => t = .bool (decide (0 < k ∧ ¬ cmpB (l.getD (k - 1) bl0) ⟨y0, y1, y2, y3⟩ < 0)) ∧ Hid (Below W1.heap.size W1 wx))
      case first =>
        rcases k with _ | m
        · obtain ⟨f0, f1, f2, f3⟩ := HX.out W1 (Below.refl _ _)
          go_wp2_with fail
          go_quiet (fail)
          rename Nat => nk
          have HZ : Hid (Below W1.heap.size W1 (W1.drewN nk)) := en_drewN (Below.refl _ _) nk
          go_wp2
          go_meet
          case rel => exact ⟨by simp, HZ⟩
        · have hx := (HC.out m (by omega)).below HB1.out hb
          have er : (0 < m + 1 ∧ ¬ cmpB (l.getD (m + 1 - 1) bl0) ⟨y0, y1, y2, y3⟩ < 0) ↔ ¬ cmpB (l.getD m bl0) ⟨y0, y1, y2, y3⟩ < 0 := by
            rw [Nat.add_sub_cancel]
            exact ⟨fun h => h.2, fun h => ⟨by omega, h⟩⟩
          have HER : Hid (decide (0 < m + 1 ∧ ¬ cmpB (l.getD (m + 1 - 1) bl0) ⟨y0, y1, y2, y3⟩ < 0) = decide (0 ≤ cmpB (l.getD m bl0) ⟨y0, y1, y2, y3⟩)) := by
            unfold Hid
            rw [decide_eq_decide, er]
            omega
          clear er
          have HCm : Hid (∀ W, Calls Try.prog 10 #[.agg (l.getD m bl0).cells, .agg (Bl.mk y0 y1 y2 y3).cells] W fun e w' => e = .returned (.int .i64 (cmpB (l.getD m bl0) ⟨y0, y1, y2, y3⟩)) ∧ Below W.heap.size W w') := fun W => ldCompareB_any _ _ W
          generalize l.getD m bl0 = x at hx HER HCm
          generalize cmpB x ⟨y0, y1, y2, y3⟩ = c at *
          obtain ⟨x0, x1, x2, x3⟩ := x
          obtain ⟨d0, d1, d2, d3⟩ := hx
          obtain ⟨f0, f1, f2, f3⟩ := HX.out W1 (Below.refl _ _)
          simp only [Bl.cells] at d0 d1 d2 d3 f0 f1 f2 f3 HCm
          have hbW : b < W1.heap.size := Nat.lt_of_lt_of_le hb HB1.out.size
          have hBW := HSz.out
          have HK : Hid (∀ W V, Below W.heap.size W V → b < W.heap.size → B < W.heap.size → (W.cell? ⟨b, off + m * 4, none⟩ = some (.int .i64 x0) ∧ W.cell? ⟨b, off + m * 4 + 1, none⟩ = some (.string x1) ∧ W.cell? ⟨b, off + m * 4 + 2, none⟩ = some (.string x2) ∧ W.cell? ⟨b, off + m * 4 + 3, none⟩ = some (.int .i64 x3)) ∧ W.cell? ⟨B, 0, none⟩ = some (.int .i64 y0) ∧ W.cell? ⟨B, 1, none⟩ = some (.string y1) ∧ W.cell? ⟨B, 2, none⟩ = some (.string y2) ∧ W.cell? ⟨B, 3, none⟩ = some (.int .i64 y3) → (V.cell? ⟨b, off + m * 4, none⟩ = some (.int .i64 x0) ∧ V.cell? ⟨b, off + m * 4 + 1, none⟩ = some (.string x1) ∧ V.cell? ⟨b, off + m * 4 + 2, none⟩ = some (.string x2) ∧ V.cell? ⟨b, off + m * 4 + 3, none⟩ = some (.int .i64 x3)) ∧ V.cell? ⟨B, 0, none⟩ = some (.int .i64 y0) ∧ V.cell? ⟨B, 1, none⟩ = some (.string y1) ∧ V.cell? ⟨B, 2, none⟩ = some (.string y2) ∧ V.cell? ⟨B, 3, none⟩ = some (.int .i64 y3)) := fun W V hB hlt hlt2 hh => by
            have C : ∀ o, V.cell? ⟨b, o, none⟩ = W.cell? ⟨b, o, none⟩ := fun o => hB.cell (p := ⟨b, o, none⟩) hlt
            have C2 : ∀ o, V.cell? ⟨B, o, none⟩ = W.cell? ⟨B, o, none⟩ := fun o => hB.cell (p := ⟨B, o, none⟩) hlt2
            simp only [C, C2]
            exact hh
          have j0 : (0 : Int) ≤ m := by omega
          have j1 : (m : Int) + 1 < l.length := by omega
          have j2 : (m : Int) < l.length := by omega
          have i6 : (m : Int) + 1 - 1 = m := by omega
          have i7 : ((m : Int) + 1).toNat = m + 1 := by omega
          have i8 : (0 : Int) ≤ (m : Int) + 1 := by omega
          have i9 : (0 : Int) < (m : Int) + 1 := by omega
          have iw1 : IntKind.i64.wrap (m : Int) = m := by
            simp only [IntKind.wrap, IntKind.bits, IntKind.signed]
            simp
            omega
          have iw2 : IntKind.i64.wrap ((m : Int) + 1 - 1) = m := by rw [i6, iw1]
          clear HX HC HYY HB1 HL HSz H0 Hres i0 i3
          go_wp2_with fail
          go_region_held3 (fun u => (u.cell? ⟨b, off + m * 4, none⟩ = some (.int .i64 x0) ∧ u.cell? ⟨b, off + m * 4 + 1, none⟩ = some (.string x1) ∧ u.cell? ⟨b, off + m * 4 + 2, none⟩ = some (.string x2) ∧ u.cell? ⟨b, off + m * 4 + 3, none⟩ = some (.int .i64 x3)) ∧ u.cell? ⟨B, 0, none⟩ = some (.int .i64 y0) ∧ u.cell? ⟨B, 1, none⟩ = some (.string y1) ∧ u.cell? ⟨B, 2, none⟩ = some (.string y2) ∧ u.cell? ⟨B, 3, none⟩ = some (.int .i64 y3)) (go_keep) (first | (go_at_call 10; refine (HCm.out _).mono ?_; rintro e w' ⟨rfl, hb'⟩; obtain ⟨⟨p0, p1, p2, p3⟩, p4, p5, p6, p7⟩ := HK.out _ _ hb' (by simpa using hbW) (by simpa using hBW) (by simpa using ⟨⟨d0, d1, d2, d3⟩, f0, f1, f2, f3⟩)))
          all_goals
            go_wp2
            go_meet
            case rel => exact ⟨by rw [HER.out], (Below.refl _ _).drew.trans hb'⟩
      case rest =>
        obtain ⟨rfl, HBc⟩ := hcut
        obtain ⟨f0, f1, f2, f3⟩ := HX.out wc HBc.out
        have HBw : Hid (Below w.heap.size w wc) := HB1.out.trans (HBc.out.mono HB1.out.size)
        have HIs : Hid (Calls Try.prog 11 #[.int .i64 y3, .int .i64 1000000000000000000] wc fun e w' => e = .returned (.bool (decide (-1000000000000000000 ≤ y3 ∧ y3 ≤ 1000000000000000000))) ∧ w' = wc) := isWithin_any y3 1000000000000000000 (by decide) wc
        have HA : Hid (chkAt l k = if 0 < k ∧ ¬ cmpB (l.getD (k - 1) bl0) ⟨y0, y1, y2, y3⟩ < 0 then 5 else if ¬ (-1000000000000000000 ≤ y3 ∧ y3 ≤ 1000000000000000000) then 1 else if y3 = 0 then 3 else 0) := by
          unfold chkAt
          rw [HYY.out]
          exact rfl
        have HRet : Hid (∀ c, c ≠ 0 → chkAt l k = c → res = enE c) := fun c h0 h1 => by
          rw [← Hres.out, chkTo_first H0.out (by rw [h1]; exact h0) hlt, h1]
        clear HX HBc HB1 HC HYY HL
        by_cases c1 : 0 < k ∧ ¬ cmpB (l.getD (k - 1) bl0) ⟨y0, y1, y2, y3⟩ < 0
        · have e5 : res = enE 5 := HRet.out 5 (by decide) (by rw [HA.out, if_pos c1])
          rw [decide_eq_true c1]
          rw [enE_ne (by decide)] at e5
          subst e5
          clear HA HRet c1 Hres
          go_wp2
          go_ret
          exact ⟨rfl, HBw.out⟩
        · rw [decide_eq_false c1]
          by_cases c2 : -1000000000000000000 ≤ y3 ∧ y3 ≤ 1000000000000000000
          · rw [decide_eq_true c2] at HIs
            by_cases c3 : y3 = 0
            · have e5 : res = enE 3 := HRet.out 3 (by decide) (by rw [HA.out, if_neg c1, if_neg (by simpa using c2), if_pos c3])
              rw [enE_ne (by decide)] at e5
              subst e5
              subst c3
              clear HA HRet c1 Hres c2
              go_wp2_with (go_at_call 11; refine HIs.out.mono ?_; rintro e w' ⟨rfl, rfl⟩)
              go_ret
              exact ⟨rfl, HBw.out⟩
            · have e0 : chkTo l (k + 1) = 0 := by
                unfold chkTo
                rw [if_neg (by simp [H0.out]), HA.out, if_neg c1, if_neg (by simpa using c2), if_neg c3]
              have HE : Hid (chkTo l (k + 1) = 0) := e0
              have c3' : (y3 == 0) = false := by rw [beq_eq_false_iff_ne]; exact c3
              clear HA HRet c1 e0 c2
              go_wp2_with (go_at_call 11; refine HIs.out.mono ?_; rintro e w' ⟨rfl, rfl⟩)
              go_roundw
              case rel => exact ⟨k + 1, by omega, by go_num, HE, HBw⟩
              case measure => simp [RowKit.intOf]; omega
          · rw [decide_eq_false c2] at HIs
            have e5 : res = enE 1 := HRet.out 1 (by decide) (by rw [HA.out, if_neg c1, if_pos c2])
            rw [enE_ne (by decide)] at e5
            subst e5
            clear HA HRet c1 Hres
            go_wp2_with (go_at_call 11; refine HIs.out.mono ?_; rintro e w' ⟨rfl, rfl⟩)
            go_ret
            exact ⟨rfl, HBw.out⟩
    · have hk2 : k = l.length := by omega
      subst hk2
      have e5 : res = enE 0 := by rw [← Hres.out, H0.out]
      rw [enE_zero] at e5
      subst e5
      clear Hres
      go_wp2
      go_ret
      exact ⟨rfl, HB.out⟩
end Go.Proofs.Yteoifhnhmjcgmaa

namespace Go.Proofs.Yteoifhnhmjcgmaa
set_option linter.unusedVariables false
set_option linter.unusedSimpArgs false
set_option maxRecDepth 100000
open Go.RowKit Go.Lib

/-- Is a balance of an entity, an account and a currency? -/
def hasB (en : Int) (acc cur : ByteArray) (x : Bl) : Bool := decide (x.ent = en) && (decide (x.acc = acc) && decide (x.cur = cur))
/-- What is there of an entity, an account and a currency. -/
def getB (b : List Bl) (en : Int) (acc cur : ByteArray) : Int := (b.find? (hasB en acc cur)).elim 0 Bl.amt
/-- The place of the first balance for which something holds. -/
def fidx (p : Bl → Bool) : Nat → List Bl → Int
  | _, [] => -1
  | k, a :: l => if p a = true then (k : Int) else fidx p (k + 1) l
theorem fidx_spec (p : Bl → Bool) : ∀ (l : List Bl) (k : Nat), (fidx p k l = -1 ∧ l.find? p = none) ∨ ∃ j, j < l.length ∧ fidx p k l = ((k + j : Nat) : Int) ∧ l.find? p = some (l.getD j bl0)
  | [], k => .inl ⟨rfl, rfl⟩
  | x :: l, k => by
    cases h : p x
    · rcases fidx_spec p l (k + 1) with ⟨e, ha⟩ | ⟨j, hj, e, ha⟩
      · exact .inl ⟨by rw [fidx, if_neg (by simp [h]), e], by rw [List.find?_cons_of_neg (by simp [h]), ha]⟩
      · exact .inr ⟨j + 1, by simpa using hj, by rw [fidx, if_neg (by simp [h]), e]; congr 1; omega, by rw [List.find?_cons_of_neg (by simp [h]), ha]; rfl⟩
    · exact .inr ⟨0, by simp, by rw [fidx, if_pos h]; simp, by rw [List.find?_cons_of_pos h]; rfl⟩

/-- What is asked of a function that is told a balance, and has two values of its own. -/
structure BTells2 (g : Nat) (u v : Value) (p : Bl → Bool) (w : World) : Prop where
  eg : ∀ args W, (callFunc g args).run Try.prog W = .ok (.enter g args) W
  call : ∀ (x : Bl) W, Below w.heap.size w W → Calls Try.prog g #[.agg x.cells, u, v] W fun e w' => e = .returned (.bool (p x)) ∧ Below W.heap.size W w'
set_option maxHeartbeats 1000000 in
theorem fidx_some (g : Nat) (u v : Value) (p : Bl → Bool) (b off cap : Nat) (l : List Bl) (w : World) (hp : BTells2 g u v p w) (hb : b < w.heap.size) (hlen : (l.length : Int) ≤ 9223372036854775807) (hc : BlsAt w b off l) :
    Calls Try.prog 21 #[.slice (some ⟨b, off, none⟩) l.length cap, .func (.func g) #[] #[u, v]] w fun e w' => e = .returned (.int .i64 (fidx p 0 l)) ∧ Below w.heap.size w w' := by
  have eg := hp.eg
  have Hp : Hid (BTells2 g u v p w) := hp
  have Hc : Hid (BlsAt w b off l) := hc
  clear hp hc
  obtain ⟨res, hres⟩ : ∃ res, fidx p 0 l = res := ⟨_, rfl⟩
  have Hres : Hid (fidx p 0 l = res) := hres
  rw [hres]
  clear hres
  go_enter Try.func21, Try.ntmps21
  go_wp2
  go_loopw [8] (fun i wr => ∃ k : Nat, k ≤ l.length ∧ i = .int .i64 k ∧ Hid (fidx p k (l.drop k) = res) ∧ Below w.heap.size w wr) (fun i _ => l.length - (RowKit.intOf i).toNat)
  case atStart => exact ⟨0, Nat.zero_le _, rfl, Hres.out, Below.refl _ _⟩
  case round =>
    obtain ⟨k, hk, rfl, H, BW⟩ := hrel
    by_cases hlt : k < l.length
    · have hn := (Hc.out k hlt).below BW hb
      have hcall := Hp.out.call (l.getD k bl0) wr BW
      have E : Hid ((if p (l.getD k bl0) = true then (k : Int) else fidx p (k + 1) (l.drop (k + 1))) = res) := by
        have := H.out
        rw [bls_drop l k hlt] at this
        exact this
      clear H
      generalize l.getD k bl0 = a at *
      obtain ⟨a0, a1, a2, a3⟩ := a
      obtain ⟨c0, c1, c2, c3⟩ := hn
      simp only [Bl.cells] at c0 c1 c2 c3 hcall
      have i0 : (0 : Int) ≤ k := by omega
      have i1 : (k : Int) < l.length := by omega
      cases hq : p ⟨a0, a1, a2, a3⟩
      · rw [hq] at hcall
        have HN : Hid (fidx p (k + 1) (l.drop (k + 1)) = res) := by
          have := E.out; rw [if_neg (by rw [hq]; simp)] at this; exact this
        go_wp2_with (go_at_fn g; refine hcall.mono ?_; rintro e w' ⟨rfl, hb'⟩)
        go_roundw
        case rel => exact ⟨k + 1, by omega, by go_num, HN, BW.trans (hb'.mono BW.size)⟩
        case measure => simp [RowKit.intOf]; omega
      · rw [hq] at hcall
        have er : res = k := by rw [← E.out, if_pos hq]
        subst er
        go_wp2_with (go_at_fn g; refine hcall.mono ?_; rintro e w' ⟨rfl, hb'⟩)
        go_ret
        exact ⟨rfl, BW.trans (hb'.mono BW.size)⟩
    · have hk2 : k = l.length := by omega
      subst hk2
      have er : res = -1 := by rw [← H.out, List.drop_length]; rfl
      subst er
      go_wp2
      go_ret
      exact ⟨rfl, BW⟩
theorem fidx_nil (a : Option Addr) (cap : Nat) (f : Value) (w : World) :
    Calls Try.prog 21 #[.slice a 0 cap, f] w fun e w' => e = .returned (.int .i64 (-1)) ∧ Below w.heap.size w w' := by
  go_enter Try.func21, Try.ntmps21
  go_wp2
  refine wp_loop_rounds 1 ?_
  rw [rounds_succ]
  go_wp2
  go_ret
  exact ⟨rfl, Below.refl _ _⟩
theorem fidx_any (g : Nat) (u v : Value) (p : Bl → Bool) (a : Option Addr) (cap : Nat) (l : List Bl) (w : World) (hp : BTells2 g u v p w) (hlen : (l.length : Int) ≤ 9223372036854775807) (h : IsBl w a l cap) :
    Calls Try.prog 21 #[.slice a l.length cap, .func (.func g) #[] #[u, v]] w fun e w' => e = .returned (.int .i64 (fidx p 0 l)) ∧ Below w.heap.size w w' := by
  rcases h.lies with rfl | ⟨b, off, rfl, hlt, hc⟩
  · exact fidx_nil a cap _ w
  · exact fidx_some g u v p b off cap l w hp hlt hlen hc
end Go.Proofs.Yteoifhnhmjcgmaa

namespace Go.Proofs.Yteoifhnhmjcgmaa
set_option linter.unusedVariables false
set_option linter.unusedSimpArgs false
set_option maxRecDepth 100000
open Go.RowKit Go.Lib

/-- What is asked of a function that is told a balance, and has three values of its own. -/
structure BTells3 (g : Nat) (u v z : Value) (p : Bl → Bool) (w : World) : Prop where
  eg : ∀ args W, (callFunc g args).run Try.prog W = .ok (.enter g args) W
  call : ∀ (x : Bl) W, Below w.heap.size w W → Calls Try.prog g #[.agg x.cells, u, v, z] W fun e w' => e = .returned (.bool (p x)) ∧ Below W.heap.size W w'
set_option maxHeartbeats 1000000 in
theorem fidx3_some (g : Nat) (u v z : Value) (p : Bl → Bool) (b off cap : Nat) (l : List Bl) (w : World) (hp : BTells3 g u v z p w) (hb : b < w.heap.size) (hlen : (l.length : Int) ≤ 9223372036854775807) (hc : BlsAt w b off l) :
    Calls Try.prog 21 #[.slice (some ⟨b, off, none⟩) l.length cap, .func (.func g) #[] #[u, v, z]] w fun e w' => e = .returned (.int .i64 (fidx p 0 l)) ∧ Below w.heap.size w w' := by
  have eg := hp.eg
  have Hp : Hid (BTells3 g u v z p w) := hp
  have Hc : Hid (BlsAt w b off l) := hc
  clear hp hc
  obtain ⟨res, hres⟩ : ∃ res, fidx p 0 l = res := ⟨_, rfl⟩
  have Hres : Hid (fidx p 0 l = res) := hres
  rw [hres]
  clear hres
  go_enter Try.func21, Try.ntmps21
  go_wp2
  go_loopw [8] (fun i wr => ∃ k : Nat, k ≤ l.length ∧ i = .int .i64 k ∧ Hid (fidx p k (l.drop k) = res) ∧ Below w.heap.size w wr) (fun i _ => l.length - (RowKit.intOf i).toNat)
  case atStart => exact ⟨0, Nat.zero_le _, rfl, Hres.out, Below.refl _ _⟩
  case round =>
    obtain ⟨k, hk, rfl, H, BW⟩ := hrel
    by_cases hlt : k < l.length
    · have hn := (Hc.out k hlt).below BW hb
      have hcall := Hp.out.call (l.getD k bl0) wr BW
      have E : Hid ((if p (l.getD k bl0) = true then (k : Int) else fidx p (k + 1) (l.drop (k + 1))) = res) := by
        have := H.out
        rw [bls_drop l k hlt] at this
        exact this
      clear H
      generalize l.getD k bl0 = a at *
      obtain ⟨a0, a1, a2, a3⟩ := a
      obtain ⟨c0, c1, c2, c3⟩ := hn
      simp only [Bl.cells] at c0 c1 c2 c3 hcall
      have i0 : (0 : Int) ≤ k := by omega
      have i1 : (k : Int) < l.length := by omega
      cases hq : p ⟨a0, a1, a2, a3⟩
      · rw [hq] at hcall
        have HN : Hid (fidx p (k + 1) (l.drop (k + 1)) = res) := by
          have := E.out; rw [if_neg (by rw [hq]; simp)] at this; exact this
        go_wp2_with (go_at_fn g; refine hcall.mono ?_; rintro e w' ⟨rfl, hb'⟩)
        go_roundw
        case rel => exact ⟨k + 1, by omega, by go_num, HN, BW.trans (hb'.mono BW.size)⟩
        case measure => simp [RowKit.intOf]; omega
      · rw [hq] at hcall
        have er : res = k := by rw [← E.out, if_pos hq]
        subst er
        go_wp2_with (go_at_fn g; refine hcall.mono ?_; rintro e w' ⟨rfl, hb'⟩)
        go_ret
        exact ⟨rfl, BW.trans (hb'.mono BW.size)⟩
    · have hk2 : k = l.length := by omega
      subst hk2
      have er : res = -1 := by rw [← H.out, List.drop_length]; rfl
      subst er
      go_wp2
      go_ret
      exact ⟨rfl, BW⟩
theorem fidx3_nil (a : Option Addr) (cap : Nat) (f : Value) (w : World) :
    Calls Try.prog 21 #[.slice a 0 cap, f] w fun e w' => e = .returned (.int .i64 (-1)) ∧ Below w.heap.size w w' := by
  go_enter Try.func21, Try.ntmps21
  go_wp2
  refine wp_loop_rounds 1 ?_
  rw [rounds_succ]
  go_wp2
  go_ret
  exact ⟨rfl, Below.refl _ _⟩
theorem fidx3_any (g : Nat) (u v z : Value) (p : Bl → Bool) (a : Option Addr) (cap : Nat) (l : List Bl) (w : World) (hp : BTells3 g u v z p w) (hlen : (l.length : Int) ≤ 9223372036854775807) (h : IsBl w a l cap) :
    Calls Try.prog 21 #[.slice a l.length cap, .func (.func g) #[] #[u, v, z]] w fun e w' => e = .returned (.int .i64 (fidx p 0 l)) ∧ Below w.heap.size w w' := by
  rcases h.lies with rfl | ⟨b, off, rfl, hlt, hc⟩
  · exact fidx3_nil a cap _ w
  · exact fidx3_some g u v z p b off cap l w hp hlt hlen hc
set_option maxHeartbeats 2000000 in
theorem has1_any (x : Bl) (en : Int) (acc cur : ByteArray) (B1 B2 B3 : Nat) (w : World) (h1 : B1 < w.heap.size) (h2 : B2 < w.heap.size) (h3 : B3 < w.heap.size) (hB1 : w.cell? ⟨B1, 0, none⟩ = some (.int .i64 en)) (hB2 : w.cell? ⟨B2, 0, none⟩ = some (.string acc)) (hB3 : w.cell? ⟨B3, 0, none⟩ = some (.string cur)) :
    Calls Try.prog 22 #[.agg x.cells, .pointer (some ⟨B1, 0, none⟩), .pointer (some ⟨B2, 0, none⟩), .pointer (some ⟨B3, 0, none⟩)] w fun e w' => e = .returned (.bool (hasB en acc cur x)) ∧ Below w.heap.size w w' := by
  obtain ⟨x0, x1, x2, x3⟩ := x
  have b0 : Below w.heap.size w (w.alloc (.cells #[.int .i64 x0, .string x1, .string x2, .int .i64 x3] 32)) := (Below.refl _ w).alloc (Nat.le_refl _) _
  have k1 : (w.alloc (.cells #[.int .i64 x0, .string x1, .string x2, .int .i64 x3] 32)).cell? ⟨B1, 0, none⟩ = some (.int .i64 en) := (b0.cell (p := ⟨B1, 0, none⟩) h1).trans hB1
  have k2 : (w.alloc (.cells #[.int .i64 x0, .string x1, .string x2, .int .i64 x3] 32)).cell? ⟨B2, 0, none⟩ = some (.string acc) := (b0.cell (p := ⟨B2, 0, none⟩) h2).trans hB2
  have k3 : (w.alloc (.cells #[.int .i64 x0, .string x1, .string x2, .int .i64 x3] 32)).cell? ⟨B3, 0, none⟩ = some (.string cur) := (b0.cell (p := ⟨B3, 0, none⟩) h3).trans hB3
  simp only [Bl.cells]
  clear hB1 hB2 hB3
  by_cases c1 : x0 = en
  · have c1' : (x0 == en) = true := by simp [c1]
    by_cases c2 : x1 = acc
    · by_cases c3 : x2 = cur
      · have e1 : hasB en acc cur ⟨x0, x1, x2, x3⟩ = true := by simp [hasB, c1, c2, c3]
        rw [e1]
        subst c1
        subst c2
        subst c3
        go_enter Try.func22, Try.ntmps22
        go_wp2
        go_ret
        exact ⟨rfl, b0⟩
      · have e1 : hasB en acc cur ⟨x0, x1, x2, x3⟩ = false := by simp [hasB, c3]
        have c3' := ch_ne c3
        rw [e1]
        subst c1
        subst c2
        go_enter Try.func22, Try.ntmps22
        go_wp2
        go_ret
        exact ⟨by rw [← c3']; rfl, b0⟩
    · have e1 : hasB en acc cur ⟨x0, x1, x2, x3⟩ = false := by simp [hasB, c2]
      have c2' := ch_ne c2
      rw [e1]
      subst c1
      go_enter Try.func22, Try.ntmps22
      go_wp2
      go_ret
      exact ⟨rfl, b0⟩
  · have e1 : hasB en acc cur ⟨x0, x1, x2, x3⟩ = false := by simp [hasB, c1]
    have c1' : (x0 == en) = false := by rw [beq_eq_false_iff_ne]; exact c1
    rw [e1]
    go_enter Try.func22, Try.ntmps22
    go_wp2
    go_ret
    exact ⟨rfl, b0⟩

theorem cell_new1 (w : World) (v : Value) (t : TypeId) : (w.alloc (.cells #[v] t)).cell? ⟨w.heap.size, 0, none⟩ = some v := by simp
set_option maxHeartbeats 2000000 in
theorem ldHas_any (a : Option Addr) (cap : Nat) (b : List Bl) (en : Int) (acc cur : ByteArray) (w : World) (hlen : (b.length : Int) ≤ 9223372036854775807) (h : IsBl w a b cap) :
    Calls Try.prog 15 #[.slice a b.length cap, .int .i64 en, .string acc, .string cur] w fun e w' => e = .returned (.int .i64 (getB b en acc cur)) ∧ Below w.heap.size w w' := by
  obtain ⟨w0, hw0⟩ : ∃ w0, ((w.alloc (.cells #[.int .i64 en] 3)).alloc (.cells #[.string acc] 9)).alloc (.cells #[.string cur] 9) = w0 := ⟨_, rfl⟩
  have b1 : Below w.heap.size w (w.alloc (.cells #[.int .i64 en] 3)) := (Below.refl _ w).alloc (Nat.le_refl _) _
  have b1' : Below w.heap.size w ((w.alloc (.cells #[.int .i64 en] 3)).alloc (.cells #[.string acc] 9)) := b1.alloc b1.size _
  have b2 : Below w.heap.size w w0 := by rw [← hw0]; exact b1'.alloc b1'.size _
  have hs : w0.heap.size = w.heap.size + 3 := by rw [← hw0]; simp
  have q1 := cell_new1 w (.int .i64 en) 3
  have q2 := cell_new1 (w.alloc (.cells #[.int .i64 en] 3)) (.string acc) 9
  have q3 := cell_new1 ((w.alloc (.cells #[.int .i64 en] 3)).alloc (.cells #[.string acc] 9)) (.string cur) 9
  have z1 : (w.alloc (.cells #[.int .i64 en] 3)).heap.size = w.heap.size + 1 := by simp
  have z2 : ((w.alloc (.cells #[.int .i64 en] 3)).alloc (.cells #[.string acc] 9)).heap.size = w.heap.size + 2 := by simp
  have k3 : w0.cell? ⟨w.heap.size + 2, 0, none⟩ = some (.string cur) := by rw [← hw0, ← z2]; exact q3
  have k2 : w0.cell? ⟨w.heap.size + 1, 0, none⟩ = some (.string acc) := by
    rw [← hw0, ← z1]
    exact (((Below.refl _ _).alloc (Nat.le_refl _) _ : Below _ ((w.alloc (.cells #[.int .i64 en] 3)).alloc (.cells #[.string acc] 9)) _).cell (p := ⟨_, 0, none⟩) (by simp)).trans q2
  have k1 : w0.cell? ⟨w.heap.size, 0, none⟩ = some (.int .i64 en) := by
    have d1 : Below (w.heap.size + 1) (w.alloc (.cells #[.int .i64 en] 3)) ((w.alloc (.cells #[.int .i64 en] 3)).alloc (.cells #[.string acc] 9)) := (Below.refl _ _).alloc (by simp) _
    have d2 := d1.alloc (by simp) (.cells #[.string cur] 9)
    rw [← hw0]
    exact (d2.cell (p := ⟨w.heap.size, 0, none⟩) (by show w.heap.size < _; omega)).trans q1
  have T : BTells3 22 (.pointer (some ⟨w.heap.size, 0, none⟩)) (.pointer (some ⟨w.heap.size + 1, 0, none⟩)) (.pointer (some ⟨w.heap.size + 2, 0, none⟩)) (hasB en acc cur) w0 := by
    refine ⟨fun args W => enters Try.func22 (by kernel_rfl) ⟨_, rfl⟩ args W, fun x W hW => ?_⟩
    have hsz := hW.size
    exact has1_any x en acc cur w.heap.size (w.heap.size + 1) (w.heap.size + 2) W (by omega) (by omega) (by omega) ((hW.cell (p := ⟨w.heap.size, 0, none⟩) (by show w.heap.size < _; omega)).trans k1) ((hW.cell (p := ⟨w.heap.size + 1, 0, none⟩) (by show w.heap.size + 1 < _; omega)).trans k2) ((hW.cell (p := ⟨w.heap.size + 2, 0, none⟩) (by show w.heap.size + 2 < _; omega)).trans k3)
  have HI : Hid (Calls _ _ _ _ _) := fidx3_any _ _ _ _ _ a cap b w0 T hlen (h.below b2)
  obtain ⟨res, hres⟩ : ∃ res, getB b en acc cur = res := ⟨_, rfl⟩
  have Hres : Hid (getB b en acc cur = res) := hres
  rw [hres]
  have HW0 : Hid (_ = w0) := hw0
  have HB2 : Hid (Below w.heap.size w w0) := b2
  have HH : Hid (IsBl w a b cap) := h
  clear hres T h hw0 b1 b2 b1' hs q1 q2 q3 z1 z2 k1 k2 k3
  rcases fidx_spec (hasB en acc cur) b 0 with ⟨e1, e2⟩ | ⟨j, hj, e1, e2⟩
  · have er : res = 0 := by rw [← Hres.out]; unfold getB; rw [e2]; rfl
    subst er
    rw [e1] at HI
    clear e1 e2 Hres HH
    go_enter Try.func15, Try.ntmps15
    go_upto_region 1 with fail
    rw [HW0.out]
    go_wp2_with (go_at_call 21; refine HI.out.mono ?_; rintro e w1 ⟨rfl, hb1⟩)
    go_ret
    exact ⟨rfl, HB2.out.trans (hb1.mono HB2.out.size)⟩
  · have er : res = (b.getD j bl0).amt := by rw [← Hres.out]; unfold getB; rw [e2]; rfl
    rw [e1, Nat.zero_add] at HI
    obtain ⟨bb, off, rfl, hlt, hc⟩ := HH.out.some hj
    have HC : Hid (∀ W, Below w.heap.size w W → W.cell? ⟨bb, off + j * 4 + 3, none⟩ = some (.int .i64 res)) := fun W hW => by
      rw [er]; exact ((hc j hj).below hW hlt).c3
    have j0 : (0 : Int) ≤ j := by omega
    have j1 : (j : Int) < b.length := by omega
    have j2 : ¬ (j : Int) < 0 := by omega
    clear e1 e2 Hres HH er hc
    go_enter Try.func15, Try.ntmps15
    go_upto_region 1 with fail
    rw [HW0.out]
    go_wp2_with fail
    refine HI.out.mono ?_
    rintro e w1 ⟨rfl, hb1⟩
    have B3 := HB2.out.trans (hb1.mono HB2.out.size)
    have c3 := HC.out w1 B3
    clear HC HI hb1 HB2 HW0
    go_wp2
    go_ret
    exact ⟨rfl, B3⟩
end Go.Proofs.Yteoifhnhmjcgmaa

namespace Go.Proofs.Yteoifhnhmjcgmaa
set_option linter.unusedVariables false
set_option linter.unusedSimpArgs false
set_option maxRecDepth 100000
open Go.RowKit Go.Lib

/-- A row of numbers. -/
def NRow (w : World) (g : Nat) (r : List Int) : Prop := w.heap[g]? = some (.cells (r.map (Value.int .i64)).toArray 3 (0, 0))
theorem NRow.cell {w : World} {g : Nat} {r : List Int} (h : NRow w g r) {i : Nat} (hi : i < r.length) : w.cell? ⟨g, i, none⟩ = some (.int .i64 (r.getD i 0)) := by
  unfold NRow at h
  simp [World.cell?, h, hi]
theorem NRow.frozen {w : World} {g : Nat} {r : List Int} (h : NRow w g r) (i : Nat) : w.frozen? ⟨g, i, none⟩ = false := by
  unfold NRow at h
  simp [World.frozen?, h]
theorem NRow.set {w : World} {g : Nat} {r : List Int} (h : NRow w g r) (i : Nat) (x : Int) : NRow (w.setCell ⟨g, i, none⟩ (.int .i64 x)) g (r.set i x) := by
  unfold NRow at *
  rw [setCell_eq_setRow w g i _ 3 (0, 0) _ h, setRow_heap w g _ _ 3 (0, 0) h]
  simp [List.map_set]
/-- All but one block is as it was. -/
structure But (g : Nat) (V W : World) : Prop where
  os : W.os = V.os
  tape : W.tape = V.tape
  output : W.output = V.output
  size : V.heap.size = W.heap.size
  block : ∀ b, b ≠ g → W.heap[b]? = V.heap[b]?
theorem But.refl (g : Nat) (V : World) : But g V V := ⟨rfl, rfl, rfl, rfl, fun _ _ => rfl⟩
theorem But.trans {g : Nat} {A B C : World} (h : But g A B) (k : But g B C) : But g A C := ⟨k.os.trans h.os, k.tape.trans h.tape, k.output.trans h.output, h.size.trans k.size, fun b hb => (k.block b hb).trans (h.block b hb)⟩
theorem But.drew {g : Nat} {A B : World} (h : But g A B) : But g A B.drew := h.trans ⟨rfl, rfl, rfl, rfl, fun _ _ => rfl⟩
theorem But.set {g : Nat} {A B : World} (h : But g A B) (o : Nat) (v : Value) : But g A (B.setCell ⟨g, o, none⟩ v) :=
  h.trans ⟨rfl, rfl, rfl, by simp [World.setCell], fun b hb => Below.heap_setCell _ _ _ _ hb⟩

theorem nrow_made (w : World) (n : Nat) : NRow (w.alloc (.cells (madeCells #[.int .i64 0] n) 3)) w.heap.size (List.replicate n 0) := by
  unfold NRow
  rw [show (w.alloc (.cells (madeCells #[.int .i64 0] n) 3)).heap[w.heap.size]? = some (.cells (madeCells #[.int .i64 0] n) 3 (0, 0)) by unfold World.alloc; simp only [Array.getElem?_push_size]]
  congr 2
  apply Array.ext
  · simp [madeCells]
  · intro i h1 h2
    simp [madeCells, Nat.mod_one]
theorem NRow.ltS {w : World} {g : Nat} {r : List Int} (h : NRow w g r) : g < w.heap.size := (Array.getElem?_eq_some_iff.1 h).1
theorem NRow.belowS {w w' : World} {g n : Nat} {r : List Int} (h : NRow w g r) (hb : Below n w w') (hg : g < n) : NRow w' g r := (hb.block g hg).trans h
theorem NRow.other {w : World} {g g' : Nat} {r : List Int} (h : NRow w g r) (hn : g ≠ g') (i : Nat) (v : Value) : NRow (w.setCell ⟨g', i, none⟩ v) g r := (Below.heap_setCell _ _ _ _ hn).trans h
/-- A slice of numbers that is read. -/
structure IsW (w : World) (a : Option Addr) (l : List Int) (cap : Nat) : Prop where
  cap : l.length ≤ cap
  lies : l = [] ∨ ∃ b off, a = some ⟨b, off, none⟩ ∧ b < w.heap.size ∧ ∀ k, k < l.length → w.cell? ⟨b, off + k, none⟩ = some (.int .i64 (l.getD k 0))
theorem IsW.below {w w' : World} {a : Option Addr} {l : List Int} {cap : Nat} (h : IsW w a l cap) (hb : Below w.heap.size w w') : IsW w' a l cap := by
  refine ⟨h.cap, ?_⟩
  rcases h.lies with h | ⟨b, off, e, hlt, hc⟩
  · exact .inl h
  · exact .inr ⟨b, off, e, by have := hb.size; omega, fun k hk => (hb.cell (p := ⟨b, off + k, none⟩) hlt).trans (hc k hk)⟩
theorem IsW.at {w : World} {a : Option Addr} {l : List Int} {cap : Nat} (h : IsW w a l cap) {k : Nat} (hk : k < l.length) : ∃ b off, a = some ⟨b, off, none⟩ ∧ b < w.heap.size ∧ w.cell? ⟨b, off + k, none⟩ = some (.int .i64 (l.getD k 0)) := by
  rcases h.lies with h | ⟨b, off, e, hlt, hc⟩
  · subst h; simp at hk
  · exact ⟨b, off, e, hlt, hc k hk⟩
theorem NRow.isW {w : World} {g : Nat} {r : List Int} (h : NRow w g r) (cap : Nat) (hc : r.length ≤ cap) : IsW w (some ⟨g, 0, none⟩) r cap :=
  ⟨hc, .inr ⟨g, 0, rfl, h.ltS, fun k hk => by rw [Nat.zero_add]; exact h.cell hk⟩⟩
end Go.Proofs.Yteoifhnhmjcgmaa

namespace Go.Proofs.Yteoifhnhmjcgmaa.Math
set_option linter.unusedVariables false
/-- The invariant of one step of the long division: u < y, y = y1*b + y0. -/
structure DivSt (u u1 y1 y0 q r : Nat) : Prop where
  eq : u = q * y1 + r
  ge : (u * 4294967296 + u1) / (y1 * 4294967296 + y0) ≤ q

theorem div_start (u u1 y1 y0 : Nat) (h1 : 0 < y1) (hu1 : u1 < 4294967296) : DivSt u u1 y1 y0 (u / y1) (u % y1) := by
  refine ⟨?_, ?_⟩
  · have := Nat.div_add_mod u y1
    rw [Nat.mul_comm] at this; omega
  · have hy : 0 < y1 * 4294967296 + y0 := by omega
    rw [Nat.div_le_iff_le_mul_add_pred hy]
    have e := Nat.div_add_mod u y1
    have l := Nat.mod_lt u h1
    generalize u / y1 = q at *
    generalize u % y1 = r at *
    have e2 : (y1 * 4294967296 + y0) * q = y1 * q * 4294967296 + y0 * q := by
      rw [Nat.add_mul, Nat.mul_right_comm]
    rw [e2]
    generalize y1 * q = t at *
    generalize y0 * q = t0 at *
    omega

theorem quo_lt (u u1 y : Nat) (hu : u < y) (hu1 : u1 < 4294967296) : (u * 4294967296 + u1) / y < 4294967296 := by
  rw [Nat.div_lt_iff_lt_mul (by omega)]
  omega

/-- A round: the guess was too great, so one less is no less than the quotient. -/
theorem div_round (u u1 y1 y0 q r : Nat) (h : DivSt u u1 y1 y0 q r) (hu : u < y1 * 4294967296 + y0) (hu1 : u1 < 4294967296)
    (hc : 4294967296 ≤ q ∨ r * 4294967296 + u1 < q * y0) : 1 ≤ q ∧ DivSt u u1 y1 y0 (q - 1) (r + y1) := by
  have hq : (u * 4294967296 + u1) / (y1 * 4294967296 + y0) < q := by
    rcases hc with hc | hc
    · exact Nat.lt_of_lt_of_le (quo_lt u u1 _ hu hu1) hc
    · rw [Nat.div_lt_iff_lt_mul (by omega)]
      have e := h.eq
      have e2 : q * (y1 * 4294967296 + y0) = q * y1 * 4294967296 + q * y0 := by
        rw [Nat.mul_add, Nat.mul_assoc]
      rw [e2, e, Nat.add_mul, Nat.add_assoc]
      exact Nat.add_lt_add_left hc _
  have h1 : 1 ≤ q := Nat.lt_of_le_of_lt (Nat.zero_le _) hq
  refine ⟨h1, ?_, Nat.le_sub_one_of_lt hq⟩
  have e := h.eq
  obtain ⟨p, rfl⟩ : ∃ p, q = p + 1 := ⟨q - 1, by omega⟩
  simp only [Nat.add_sub_cancel]
  rw [Nat.add_mul] at e
  omega

theorem div_stop (u u1 y1 y0 q r : Nat) (h : DivSt u u1 y1 y0 q r) (hu : u < y1 * 4294967296 + y0)
    (hc : q * y0 ≤ r * 4294967296 + u1) : q = (u * 4294967296 + u1) / (y1 * 4294967296 + y0) := by
  refine Nat.le_antisymm ?_ h.ge
  rw [Nat.le_div_iff_mul_le (by omega)]
  have e := h.eq
  have e2 : q * (y1 * 4294967296 + y0) = q * y1 * 4294967296 + q * y0 := by
    rw [Nat.mul_add, Nat.mul_assoc]
  rw [e2]
  generalize q * y1 = t at *
  generalize q * y0 = t0 at *
  omega

theorem div_break (u u1 y1 y0 q r : Nat) (h : DivSt u u1 y1 y0 q r) (hu : u < y1 * 4294967296 + y0) (h0 : y0 < 4294967296)
    (hr : 4294967296 ≤ r) : q = (u * 4294967296 + u1) / (y1 * 4294967296 + y0) := by
  have hq : q < 4294967296 := by
    apply Classical.byContradiction
    intro hn
    have hn : 4294967296 ≤ q := by omega
    have e := h.eq
    have := Nat.mul_le_mul_right y1 hn
    generalize q * y1 = t at *
    omega
  refine div_stop u u1 y1 y0 q r h hu ?_
  have := Nat.mul_le_mul (Nat.le_of_lt hq) (Nat.le_of_lt h0)
  omega

theorem shift_split (lo P Q : Nat) (hPQ : P * Q = 18446744073709551616) : lo / Q * 18446744073709551616 + lo * P % 18446744073709551616 = lo * P := by
  have hP : 0 < P := by
    rcases Nat.eq_zero_or_pos P with h | h
    · rw [h, Nat.zero_mul] at hPQ; omega
    · exact h
  have e : lo * P / 18446744073709551616 = lo / Q := by
    rw [← hPQ, Nat.mul_comm P Q, Nat.mul_div_mul_right _ _ hP]
  have := Nat.div_add_mod (lo * P) 18446744073709551616
  rw [e] at this
  omega

theorem two_steps (U32 un1 un0 Y : Nat) (hY : 0 < Y) :
    (U32 * 18446744073709551616 + (un1 * 4294967296 + un0)) / Y = (U32 * 4294967296 + un1) / Y * 4294967296 + ((U32 * 4294967296 + un1) % Y * 4294967296 + un0) / Y ∧
    (U32 * 18446744073709551616 + (un1 * 4294967296 + un0)) % Y = ((U32 * 4294967296 + un1) % Y * 4294967296 + un0) % Y := by
  have e : U32 * 18446744073709551616 + (un1 * 4294967296 + un0) = ((U32 * 4294967296 + un1) % Y * 4294967296 + un0) + Y * ((U32 * 4294967296 + un1) / Y * 4294967296) := by
    have h := Nat.div_add_mod (U32 * 4294967296 + un1) Y
    rw [← Nat.mul_assoc]
    generalize Y * ((U32 * 4294967296 + un1) / Y) = t at *
    generalize (U32 * 4294967296 + un1) % Y = r at *
    omega
  rw [e, Nat.add_mul_div_left _ _ hY, Nat.add_mul_mod_self_left]
  exact ⟨Nat.add_comm _ _, rfl⟩

theorem div64_math (hi lo y P Q : Nat) (hPQ : P * Q = 18446744073709551616) (hy : 0 < y) :
    let U := hi * P + lo / Q
    let V := lo * P % 18446744073709551616
    let Y := y * P
    (U * 4294967296 + V / 4294967296) / Y * 4294967296 + ((U * 4294967296 + V / 4294967296) % Y * 4294967296 + V % 4294967296) / Y = (hi * 18446744073709551616 + lo) / y ∧
    ((U * 4294967296 + V / 4294967296) % Y * 4294967296 + V % 4294967296) % Y / P = (hi * 18446744073709551616 + lo) % y := by
  intro U V Y
  have hP : 0 < P := by
    rcases Nat.eq_zero_or_pos P with h | h
    · rw [h, Nat.zero_mul] at hPQ; omega
    · exact h
  have hY : 0 < Y := Nat.mul_pos hy hP
  have h2 := two_steps U (V / 4294967296) (V % 4294967296) Y hY
  have e : U * 18446744073709551616 + (V / 4294967296 * 4294967296 + V % 4294967296) = (hi * 18446744073709551616 + lo) * P := by
    have h1 := shift_split lo P Q hPQ
    have h3 : V / 4294967296 * 4294967296 + V % 4294967296 = V := Nat.div_add_mod' _ _
    rw [h3]
    show (hi * P + lo / Q) * 18446744073709551616 + lo * P % 18446744073709551616 = _
    rw [Nat.add_mul, Nat.add_mul, Nat.add_assoc, h1, Nat.mul_right_comm]
  rw [e] at h2
  rw [← h2.1, ← h2.2]
  refine ⟨Nat.mul_div_mul_right _ _ hP, ?_⟩
  rw [Nat.mul_mod_mul_right, Nat.mul_div_cancel _ hP]
/-- What 64 bits with a sign hold. -/
def I64 (x : Int) : Prop := -9223372036854775808 ≤ x ∧ x ≤ 9223372036854775807

/-- The two words of a sum. -/
def loW (s : Int) : Int := s % 18446744073709551616
def hiW (s : Int) : Int := s / 18446744073709551616 % 18446744073709551616
theorem loW_bd (s : Int) : 0 ≤ loW s ∧ loW s < 18446744073709551616 := by unfold loW; omega
theorem hiW_bd (s : Int) : 0 ≤ hiW s ∧ hiW s < 18446744073709551616 := by unfold hiW; omega
/-- a word of an int: itself, or 2^64 more. -/
theorem loW_add (s a : Int) : (loW s + loW a) % 18446744073709551616 = loW (s + a) := by unfold loW; omega
theorem hiW_add (s a : Int) (h : I64 a) : (hiW s + (loW (a / 9223372036854775808) + (loW s + loW a) / 18446744073709551616)) % 18446744073709551616 = hiW (s + a) := by
  unfold hiW loW; unfold I64 at h
  have key : (s + a) / 18446744073709551616 = s / 18446744073709551616 + a / 9223372036854775808 + (s % 18446744073709551616 + a % 18446744073709551616) / 18446744073709551616 := by
    by_cases h0 : a < 0
    · have e1 : a / 9223372036854775808 = -1 := by omega
      have e2 : a % 18446744073709551616 = a + 18446744073709551616 := by omega
      rw [e1, e2]; omega
    · have e1 : a / 9223372036854775808 = 0 := by omega
      have e2 : a % 18446744073709551616 = a := by omega
      rw [e1, e2]; omega
  rw [key]
  generalize (s % 18446744073709551616 + a % 18446744073709551616) / 18446744073709551616 = c
  generalize s / 18446744073709551616 = p
  generalize a / 9223372036854775808 = q
  omega
/-- The carry of two words. -/
def cW (s a : Int) : Int := (loW s + loW a) / 18446744073709551616
theorem cW_bd (s a : Int) : 0 ≤ cW s a ∧ cW s a ≤ 1 := by have := loW_bd s; have := loW_bd a; unfold cW; omega
theorem hiW_step (s a : Int) (h : I64 a) : (hiW s + (a / 9223372036854775808 % 18446744073709551616 + cW s a) % 18446744073709551616) % 18446744073709551616 = hiW (s + a) := by
  rw [← hiW_add s a h]
  unfold cW
  generalize (loW s + loW a) / 18446744073709551616 = c
  unfold loW
  generalize a / 9223372036854775808 = q
  generalize hiW s = p
  omega
theorem sum_fits (s : Int) (h : -170141183460469231731687303715884105728 ≤ s ∧ s < 170141183460469231731687303715884105728) (x : Int)
    (hx : x = if loW s < 9223372036854775808 then loW s else loW s - 18446744073709551616) :
    (hiW s = loW (x / 9223372036854775808) ↔ I64 s) ∧ (I64 s → x = s) := by
  unfold hiW loW at *; unfold I64
  split at hx <;> omega
/-- One more, where what was cut off is more than a half, or is it and the whole is odd. -/
def upOf (w r d : Int) : Int := if 2 * r > d ∨ (2 * r = d ∧ w % 2 = 1) then 1 else 0
/-- The size of a part, rounded. -/
def partOf (m n d : Int) : Int := m * n / d + upOf (m * n / d) (m * n % d) d
def absI (a : Int) : Int := if a < 0 then -a else a
def ratioOk (a n d : Int) : Prop := partOf (absI a) n d ≤ 9223372036854775807 + (if a < 0 then 1 else 0)
def ratioV (a n d : Int) : Int := if a < 0 then -(partOf (absI a) n d) else partOf (absI a) n d

theorem absI_nonneg (a : Int) : 0 ≤ absI a := by unfold absI; split <;> omega
theorem absI_neg (a : Int) : absI (-a) = absI a := by unfold absI; split <;> split <;> omega
theorem upOf_bd (w r d : Int) : 0 ≤ upOf w r d ∧ upOf w r d ≤ 1 := by unfold upOf; split <;> omega

theorem near (m n d : Int) (hd : 1 ≤ d) : let t := partOf m n d
    2 * (m * n - t * d) ≤ d ∧ -d ≤ 2 * (m * n - t * d) ∧ ((2 * (m * n - t * d) = d ∨ 2 * (m * n - t * d) = -d) → t % 2 = 0) := by
  intro t
  have e := Int.mul_ediv_add_emod (m * n) d
  have l0 := Int.emod_nonneg (m * n) (b := d) (by omega)
  have l1 := Int.emod_lt_of_pos (m * n) (b := d) (by omega)
  have ht : t = m * n / d + upOf (m * n / d) (m * n % d) d := rfl
  generalize m * n = p at *
  generalize p / d = w at *
  generalize p % d = r at *
  have hm : t * d = d * w + upOf w r d * d := by rw [ht, Int.add_mul, Int.mul_comm w d]
  rw [hm]
  clear_value t
  subst ht
  generalize d * w = dw at *
  unfold upOf
  split
  · rename_i h
    rw [Int.one_mul]
    omega
  · rename_i h
    rw [Int.zero_mul]
    omega

theorem part_all (m d : Int) (hd : 1 ≤ d) : partOf m d d = m := by
  have e1 : m * d / d = m := Int.mul_ediv_cancel m (by omega)
  have e2 : m * d % d = 0 := Int.mul_emod_left m d
  unfold partOf upOf
  rw [e1, e2, if_neg (by omega)]
  omega

theorem part_bd (m n d : Int) (h0 : 0 ≤ m) (h1 : m ≤ 1000000000) (h2 : 0 ≤ n) (h3 : n ≤ 1000000000) (hd : 1 ≤ d) : 0 ≤ partOf m n d ∧ partOf m n d ≤ 1000000000000000001 := by
  have a := Int.mul_nonneg h0 h2
  have b : m * n ≤ 1000000000 * 1000000000 := Int.mul_le_mul h1 h3 h2 (by omega)
  have c := Int.ediv_nonneg a (by omega : (0 : Int) ≤ d)
  have e : m * n / d ≤ m * n := Int.ediv_le_self _ a
  have u := upOf_bd (m * n / d) (m * n % d) d
  unfold partOf
  omega

theorem part_nonneg (m n d : Int) (h0 : 0 ≤ m) (h2 : 0 ≤ n) (hd : 1 ≤ d) : 0 ≤ partOf m n d := by
  have a := Int.mul_nonneg h0 h2
  have c := Int.ediv_nonneg a (by omega : (0 : Int) ≤ d)
  have u := upOf_bd (m * n / d) (m * n % d) d
  unfold partOf
  omega

/-- MoneyRounds' facts. -/
theorem rounds_facts (a n d : Int) (ha : -1000000000 ≤ a ∧ a ≤ 1000000000) (hn : 0 ≤ n ∧ n ≤ 1000000000) (hd : 1 ≤ d) :
    ratioOk a n d ∧ ratioOk (-a) n d ∧ ratioOk a d d ∧ ratioV (-a) n d = -ratioV a n d ∧ ratioV a d d = a ∧
    2 * (a * n - ratioV a n d * d) ≤ d ∧ -d ≤ 2 * (a * n - ratioV a n d * d) ∧ ((2 * (a * n - ratioV a n d * d) = d ∨ 2 * (a * n - ratioV a n d * d) = -d) → ratioV a n d % 2 = 0) := by
  have hm0 := absI_nonneg a
  have hm1 : absI a ≤ 1000000000 := by unfold absI; split <;> omega
  have b := part_bd (absI a) n d hm0 hm1 hn.1 hn.2 hd
  have p := part_all (absI a) d hd
  have nr := near (absI a) n d hd
  simp only at nr
  refine ⟨?_, ?_, ?_, ?_, ?_, ?_⟩
  · unfold ratioOk; split <;> omega
  · unfold ratioOk; rw [absI_neg]; split <;> omega
  · unfold ratioOk; rw [p]; split <;> omega
  · unfold ratioV; rw [absI_neg]
    by_cases h : a < 0
    · rw [if_pos h, if_neg (by omega)]; omega
    · rw [if_neg h]
      by_cases h' : -a < 0
      · rw [if_pos h']
      · have : a = 0 := by omega
        rw [if_neg h']
        subst this
        have : partOf (absI 0) n d = 0 := by
          unfold absI partOf upOf; rw [if_neg (by omega)]; simp; omega
        omega
  · unfold ratioV; rw [p]; unfold absI; split <;> omega
  · unfold ratioV
    have e : a * n = if a < 0 then -(absI a * n) else absI a * n := by
      unfold absI; split
      · rw [Int.neg_mul, Int.neg_neg]
      · rfl
    rw [e]
    generalize absI a * n = x at *
    generalize hpt : partOf (absI a) n d = t at *
    by_cases h : a < 0
    · simp only [if_pos h, Int.neg_mul]
      generalize t * d = y at *
      omega
    · simp only [if_neg h]
      generalize t * d = y at *
      omega
end Go.Proofs.Yteoifhnhmjcgmaa.Math

namespace Go.Proofs.Yteoifhnhmjcgmaa
set_option linter.unusedVariables false
open Go.RowKit Math

theorem add64_any (x y : Int) (hx : 0 ≤ x) (hy : 0 ≤ y) (hx2 : x < 18446744073709551616) (hy2 : y < 18446744073709551616) (w : World) :
    (callFunc 16 #[.int .u64 x, .int .u64 y, .int .u64 0]).run Try.prog w =
      .ok (.value (.tuple #[.int .u64 ((x + y) % 18446744073709551616), .int .u64 ((x + y) / 18446744073709551616)])) w := by
  obtain ⟨x, rfl⟩ := Int.eq_ofNat_of_zero_le hx
  obtain ⟨y, rfl⟩ := Int.eq_ofNat_of_zero_le hy
  rw [run_callFunc_extern Try.func16 (by kernel_rfl) (by kernel_rfl) (by kernel_rfl) (e := add64Entry) (by kernel_rfl)]
  have h := run_add64 (P := Try.prog) x y 0 (by omega) (by omega) (by omega) (by omega) w
  rw [h]
  simp only [Result.andThen, Int.add_zero]

theorem add64_w (s x : Int) (w : World) : (callFunc 16 #[.int .u64 (loW s), .int .u64 (IntKind.u64.wrap x), .int .u64 0]).run Try.prog w =
      .ok (.value (.tuple #[.int .u64 (loW (s + x)), .int .u64 (cW s x)])) w := by
  have b1 := loW_bd s
  have b2 := loW_bd x
  have e : IntKind.u64.wrap x = loW x := IntKind.wrap_u64 x
  rw [e, add64_any _ _ b1.1 b2.1 b1.2 b2.2, loW_add]
  rfl

theorem take_sum (l : List Int) (k : Nat) (h : k < l.length) : (l.take (k + 1)).sum = (l.take k).sum + l.getD k 0 := by
  rw [List.take_succ_eq_append_getElem h, List.sum_append]
  simp [h]

/-- What is handed back beside a sum. -/
def sumV (s : Int) : Int := if -9223372036854775808 ≤ s ∧ s ≤ 9223372036854775807 then s else 0
def sumE (s : Int) : Value := if -9223372036854775808 ≤ s ∧ s ≤ 9223372036854775807 then .nilIface else .iface 35 (.int .i64 10)

theorem sum_bound (l : List Int) (k : Nat) (h : k ≤ l.length) (hI : ∀ i, i < l.length → I64 (l.getD i 0)) :
    -((k : Int) * 9223372036854775808) ≤ (l.take k).sum ∧ (l.take k).sum ≤ (k : Int) * 9223372036854775808 := by
  induction k with
  | zero => simp
  | succ k ih =>
    have := ih (by omega)
    have h2 := hI k (by omega)
    unfold I64 at h2
    rw [take_sum l k (by omega)]
    omega

theorem wrap64_lo (s : Int) : wrap64 (loW s) = if loW s < 9223372036854775808 then loW s else loW s - 18446744073709551616 := by
  have := loW_bd s
  unfold wrap64; split <;> omega
theorem sum_yes (s : Int) (h : -170141183460469231731687303715884105728 ≤ s ∧ s < 170141183460469231731687303715884105728) (hs : -9223372036854775808 ≤ s ∧ s ≤ 9223372036854775807) :
    (hiW s != IntKind.u64.wrap (wrap64 (loW s) / 9223372036854775808)) = false ∧ wrap64 (loW s) = s := by
  have hf := sum_fits s h _ rfl
  rw [← wrap64_lo] at hf
  rw [IntKind.wrap_u64]
  exact ⟨by rw [bne_eq_false_iff_eq]; exact hf.1.2 hs, hf.2 hs⟩
theorem sum_no (s : Int) (h : -170141183460469231731687303715884105728 ≤ s ∧ s < 170141183460469231731687303715884105728) (hs : ¬ (-9223372036854775808 ≤ s ∧ s ≤ 9223372036854775807)) :
    (hiW s != IntKind.u64.wrap (wrap64 (loW s) / 9223372036854775808)) = true := by
  have hf := sum_fits s h _ rfl
  rw [← wrap64_lo] at hf
  rw [IntKind.wrap_u64, bne_iff_ne]
  exact fun e => hs (hf.1.1 e)

theorem sum_run (b off cap n : Nat) (l : List Int) (w : World) (hn : l.length = n) (hlen : l.length ≤ 140737488355328) (hI : Hid (∀ i, i < l.length → I64 (l.getD i 0)))
    (hc : Hid (∀ i, i < l.length → w.cell? ⟨b, off + i, none⟩ = some (.int .i64 (l.getD i 0)))) :
    Calls Try.prog 9 #[.slice (some ⟨b, off, none⟩) n cap] w fun e w' => e = .returned (.tuple #[.int .i64 (sumV l.sum), sumE l.sum]) ∧ w' = w := by
  subst hn
  go_enter Try.func9, Try.ntmps9
  go_wp2
  go_loop [4, 5, 12] (fun hi lo i => ∃ k : Nat, k ≤ l.length ∧ i = .int .i64 k ∧ hi = .int .u64 (hiW (l.take k).sum) ∧ lo = .int .u64 (loW (l.take k).sum)) (fun _ _ i => l.length - (RowKit.intOf i).toNat)
  case atStart => exact ⟨0, Nat.zero_le _, rfl, rfl, rfl⟩
  case round =>
    obtain ⟨k, hk, rfl, rfl, rfl⟩ := hrel
    by_cases hlt : k < l.length
    · have hck := hc.out k hlt
      have hik := hI.out k hlt
      have hts := take_sum l k hlt
      generalize l.getD k 0 = x at *
      generalize (l.take k).sum = s at *
      have Hts : Hid ((l.take (k + 1)).sum = s + x) := hts
      have Hik : Hid (I64 x) := hik
      clear hts hik
      go_wp2_with (simp only [add64_w])
      go_round
      case rel =>
        refine ⟨k + 1, by omega, by go_num, ?_, ?_⟩
        · rw [Hts.out, IntKind.wrap_u64, IntKind.wrap_u64, IntKind.wrap_u64, ← hiW_step s x Hik.out]
        · rw [Hts.out]
      case measure => simp [RowKit.intOf]; omega
    · have hk2 : k = l.length := by omega
      subst hk2
      have hb := sum_bound l l.length (Nat.le_refl _) hI.out
      rw [List.take_length] at hb ⊢
      by_cases hs : -9223372036854775808 ≤ l.sum ∧ l.sum ≤ 9223372036854775807
      · obtain ⟨t1, t2⟩ := sum_yes l.sum (by omega) hs
        have T2 : Hid (wrap64 (loW l.sum) = l.sum) := t2
        have Hs : Hid (-9223372036854775808 ≤ l.sum ∧ l.sum ≤ 9223372036854775807) := hs
        clear t2 hb hI hc hs
        go_wp2
        go_ret2
        refine ⟨?_, rfl⟩
        unfold sumV sumE; rw [if_pos Hs.out, if_pos Hs.out]
        show Ending.returned (.tuple #[.int .i64 (wrap64 (loW l.sum)), .nilIface]) = _
        rw [T2.out]
      · have t1 := sum_no l.sum (by omega) hs
        have Hs : Hid (¬ (-9223372036854775808 ≤ l.sum ∧ l.sum ≤ 9223372036854775807)) := hs
        clear hb hI hc hs
        go_wp2
        go_ret2
        refine ⟨?_, rfl⟩
        unfold sumV sumE; rw [if_neg Hs.out, if_neg Hs.out]; rfl

theorem sum_nil (w : World) :
    Calls Try.prog 9 #[.slice none 0 0] w fun e w' => e = .returned (.tuple #[.int .i64 0, .nilIface]) ∧ w' = w := by
  go_enter Try.func9, Try.ntmps9
  go_wp2
  refine wp_loop_rounds 1 ?_
  rw [rounds_succ]
  go_wp2
  go_ret2
  exact ⟨rfl, rfl⟩

theorem sum_zero (a : Option Addr) (cap : Nat) (w : World) :
    Calls Try.prog 9 #[.slice a 0 cap] w fun e w' => e = .returned (.tuple #[.int .i64 0, .nilIface]) ∧ w' = w := by
  go_enter Try.func9, Try.ntmps9
  go_wp2
  refine wp_loop_rounds 1 ?_
  rw [rounds_succ]
  go_wp2
  go_ret2
  exact ⟨rfl, rfl⟩

/-- Of a list in the call's own memory. -/
theorem sum_own (base n : Nat) (e : TypeId) (v : Value) (l : List Int) (w : World) (hlen : n ≤ 140737488355328) (hI : Hid (∀ i, i < l.length → I64 (l.getD i 0)))
    (hown : Hid (w.ownsRow base e 1 v n (l.map (Value.int .i64)))) :
    Calls Try.prog 9 #[v] w fun e w' => e = .returned (.tuple #[.int .i64 (sumV l.sum), sumE l.sum]) ∧ w' = w := by
  obtain ⟨hl, ⟨rfl, hn⟩ | ⟨g, cap, cur, rfl, hg⟩⟩ := hown.out
  · have : l = [] := by
      subst hn; simpa using hl
    subst this
    exact sum_nil w
  · have hn : l.length = n := by simpa using hl
    refine sum_run g 0 cap n l w hn (by omega) hI ?_
    intro i hi
    have := hown.out.cells (g := g) rfl i (.int .i64 (l.getD i 0)) (by simp [hi])
    rcases Nat.eq_zero_or_pos i with rfl | hp
    · simpa [Addr.add] using this
    · simpa [Addr.add, Nat.ne_of_gt hp] using this

theorem sum_fit (s : Int) (h : -9223372036854775808 ≤ s ∧ s ≤ 9223372036854775807) : sumV s = s ∧ sumE s = .nilIface := by
  unfold sumV sumE; rw [if_pos h, if_pos h]; exact ⟨rfl, rfl⟩
theorem sum_nofit (s : Int) (h : ¬ (-9223372036854775808 ≤ s ∧ s ≤ 9223372036854775807)) : sumV s = 0 ∧ sumE s = .iface 35 (.int .i64 10) := by
  unfold sumV sumE; rw [if_neg h, if_neg h]; exact ⟨rfl, rfl⟩

end Go.Proofs.Yteoifhnhmjcgmaa
