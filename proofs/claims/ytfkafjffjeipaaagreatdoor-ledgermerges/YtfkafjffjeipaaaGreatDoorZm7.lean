/-
  The contracts of chart.isCode and chart.isName: of which bytes a text is made.
-/
import Derived.Test.YtfkafjffjeipaaaGreatDoorZm4
import Derived.Test.YtfkafjffjeipaaaGreatDoorZm6
import Derived.Test.YtfkafjffjeipaaaGreatDoorProg
import Derived.WalkKit
import Derived.WalkSpells
import Derived.Lib.OthersKept
import Derived.Lib.TrimU
import Derived.Deep.LoopGhost
import Derived.Conc.MuLone
import Derived.Shelf.Abstract
namespace Go.Proofs.YtfkafjffjeipaaaGreatDoor
set_option linter.unusedVariables false
set_option linter.unusedSimpArgs false
set_option maxRecDepth 100000
open Go.RowKit Go.Lib

theorem Fine.take {l : List Bl} (h : Fine l) (k : Nat) : Fine (l.take k) :=
  ⟨by have := h.len; rw [List.length_take]; omega, h.rises.sublist (List.take_sublist k l), fun x hx => h.amt x (List.mem_of_mem_take hx), fun x hx => h.ne x (List.mem_of_mem_take hx)⟩
theorem put_fit {a b : List Bl} (ha : Fine a) (hb : Fine b) (k : Nat) (hk : k < b.length) : ∀ y ∈ putL a (b.take k), y.key = (b.getD k bl0).key → -9223372036854775808 ≤ y.amt + (b.getD k bl0).amt ∧ y.amt + (b.getD k bl0).amt ≤ 9223372036854775807 := fun y hy _ => by
  have h1 := ltot_mem (putL_rises (m := b.take k) ha.rises) y hy
  rw [putL_tot, ltot_append] at h1
  have h2 := ltot_abs ha y.key
  have h3 := ltot_abs (hb.take k) y.key
  have h4 := hb.amt _ (bls_mem b k hk)
  omega

set_option maxHeartbeats 8000000 in
theorem lmMerge_any (a1 a2 : Option Addr) (c1 c2 : Nat) (a b : List Bl) (W : World) (ha : IsBl W a1 a c1) (hb : IsBl W a2 b c2) (la : a.length ≤ 9223372036854775807) (lb : b.length ≤ 9223372036854775807) :
    Calls Tryz.prog 7 #[.slice a1 a.length c1, .slice a2 b.length c2] W fun e w' => Below W.heap.size W w' ∧ (mgE a b ≠ 0 → e = .returned (.tuple #[.slice none 0 0, .int .i64 (mgE a b)])) ∧ (mgE a b = 0 → ∃ v, e = .returned (.tuple #[v, .int .i64 0]) ∧ Hid (BlRow w' W.heap.size v (full (putL a b)))) := by
  have HIa : Hid (IsBl W a1 a c1) := ha
  have HIb : Hid (IsBl W a2 b c2) := hb
  have HCa : Hid (Calls Tryz.prog 6 #[.slice a1 a.length c1] W fun e w' => e = .returned (.int .i64 (chk a)) ∧ Below W.heap.size W w') := lmCheck_any a1 c1 a W la ha
  have HCb : Hid (∀ U, Below W.heap.size W U → Calls Tryz.prog 6 #[.slice a2 b.length c2] U fun e w' => e = .returned (.int .i64 (chk b)) ∧ Below U.heap.size U w') := fun U hU => lmCheck_any a2 c2 b U lb (hb.below hU)
  clear ha hb
  by_cases h1 : chk a = 0
  case neg =>
    have em : mgE a b = chk a := by unfold mgE; rw [if_pos h1]
    rw [em]
    have h1' : (chk a == 0) = false := by simp [h1]
    have h1'' : (chk a != 0) = true := by simp [h1]
    clear em
    generalize chk a = c at *
    go_enter Tryz.func7, Tryz.ntmps7
    go_wp2_with fail
    refine HCa.out.mono ?_
    rintro e w1 ⟨rfl, hb1⟩
    have HB1 : Hid (Below W.heap.size W w1) := hb1
    clear hb1
    go_wp2
    go_ret2
    exact ⟨HB1.out, fun _ => rfl, fun h => absurd h h1⟩
  rw [h1] at HCa
  by_cases h2 : chk b = 0
  case neg =>
    have em : mgE a b = chk b := by unfold mgE; rw [if_neg (by simp [h1]), if_pos h2]
    rw [em]
    have h2'' : (chk b != 0) = true := by simp [h2]
    clear em
    generalize chk b = c at *
    go_enter Tryz.func7, Tryz.ntmps7
    go_wp2_with fail
    refine HCa.out.mono ?_
    rintro e w1 ⟨rfl, hb1⟩
    have HB1 : Hid (Below W.heap.size W w1) := hb1
    clear hb1
    go_wp2_with fail
    refine (HCb.out w1 HB1.out).mono ?_
    rintro e w2 ⟨rfl, hb2⟩
    have HB2 : Hid (Below W.heap.size W w2) := HB1.out.trans (hb2.mono HB1.out.size)
    clear hb2
    go_wp2
    go_ret2
    exact ⟨HB2.out, fun _ => rfl, fun h => absurd h h2⟩
  rw [h2] at HCb
  have HF : Hid (Fine a ∧ Fine b ∧ chk a = 0 ∧ chk b = 0) := ⟨chk_zero.1 h1, chk_zero.1 h2, h1, h2⟩
  have la2 := (chk_zero.1 h1).len
  have lb2 := (chk_zero.1 h2).len
  clear h1 h2 la lb
  obtain ⟨E, hE⟩ : ∃ E, mgE a b = E := ⟨_, rfl⟩
  have HE : Hid (mgE a b = E) := hE
  rw [hE]
  clear hE
  go_enter Tryz.func7, Tryz.ntmps7
  go_wp2_with fail
  refine HCa.out.mono ?_
  rintro e w1 ⟨rfl, hb1⟩
  have HB1 : Hid (Below W.heap.size W w1) := hb1
  clear hb1 HCa
  go_wp2_with fail
  refine (HCb.out w1 HB1.out).mono ?_
  rintro e w2 ⟨rfl, hb2⟩
  have HB2 : Hid (Below W.heap.size W w2) := HB1.out.trans (hb2.mono HB1.out.size)
  have HNil : Hid (BlRow w2 W.heap.size (.slice none 0 0) []) := BlRow.nil _ _
  have HI2 : Hid (IsBl w2 a1 a c1) := HIa.out.below HB2.out
  have Hle : Hid (([] : List Bl).length + a.length ≤ 1000) := by unfold Hid; simp; omega
  have Hsz : Hid (W.heap.size ≤ w2.heap.size) := HB2.out.size
  clear hb2 HCb HB1
  go_wp2_with (at_builtin; refine wpList_appBl rfl _ _ rfl W.heap.size _ [] rfl HNil.out a1 a.length c1 a rfl rfl HI2.out Hle.out Hsz.out ?_)
  intro vo wo ho hg
  have HO : Hid (BlRow wo W.heap.size vo (putL a (b.take 0)) ∧ Below W.heap.size W wo) := ⟨ho, HB2.out.grown hg HB2.out.size (fun g e => by cases e)⟩
  clear ho hg HNil HI2 Hle Hsz HB2
  go_wp2_with fail
  go_loopw [7, 8] (fun v i wr => ∃ k : Nat, k ≤ b.length ∧ i = .int .i64 k ∧ Hid (BlRow wr W.heap.size v (putL a (b.take k)) ∧ Below W.heap.size W wr)) (fun _ i _ => b.length - (intOf i).toNat)
  case atStart => exact ⟨0, Nat.zero_le _, rfl, HO⟩
  case round =>
    obtain ⟨k, hk, rfl, HR⟩ := hrel
    clear HO
    obtain ⟨va, vc, rfl, -⟩ := HR.out.1.isBl
    have HIo : Hid (IsBl wr va (putL a (b.take k)) vc) := HR.out.1.isBl'.2
    have hpl := putL_length (b.take k) a
    rw [List.length_take] at hpl
    by_cases hlt : k < b.length
    · obtain ⟨bb, off, rfl, hbb, hc⟩ := HIb.out.some hlt
      have hx := (hc k hlt).below HR.out.2 hbb
      have i0 : (0 : Int) ≤ k := by omega
      have i3 : (k : Int) < b.length := by omega
      have hp := lmPut_any va vc (putL a (b.take k)) (b.getD k bl0) wr (by omega) HIo.out (put_fit HF.out.1 HF.out.2.1 k hlt)
      have hsn := putL_snoc a b k hlt
      rw [← hsn] at hp
      obtain ⟨x, hxx⟩ : ∃ x, b.getD k bl0 = x := ⟨_, rfl⟩
      rw [hxx] at hx hp
      obtain ⟨x0, x1, x2, x3⟩ := x
      obtain ⟨d0, d1, d2, d3⟩ := hx
      simp only [Bl.cells] at d0 d1 d2 d3 hp
      have HP : Hid (Calls _ _ _ wr _) := hp
      clear hp hsn hxx hc hpl HIo
      generalize (putL a (b.take k)).length = m at *
      go_wp2_with fail
      refine HP.out.mono ?_
      rintro e w3 ⟨v3, rfl, hb3⟩
      have HG : Hid (BlRow w3 W.heap.size v3 (putL a (b.take (k + 1))) ∧ Below W.heap.size W w3) := ⟨hb3.out.1.mono HR.out.2.size, HR.out.2.trans (hb3.out.2.mono HR.out.2.size)⟩
      clear hb3 HP HR
      go_wp2_with fail
      go_roundw
      case rel => exact ⟨k + 1, by omega, by go_num, HG⟩
      case measure => simp [intOf]; omega
    · obtain rfl : k = b.length := by omega
      have HR2 : Hid (BlRow wr W.heap.size (.slice va (putL a b).length vc) (putL a b) ∧ Below W.heap.size W wr ∧ IsBl wr va (putL a b) vc) := by
        have h1 := HR.out
        have h2 := HIo.out
        rw [List.take_length] at h1 h2
        exact ⟨h1.1, h1.2, h2⟩
      have i3 : ¬ (b.length : Int) < b.length := by omega
      rw [List.take_length] at hpl ⊢
      clear HR HIo
      by_cases h200 : 200 < (putL a b).length
      · have e4 : E = 4 := by rw [← HE.out]; exact mgE_put4 HF.out.2.2.1 HF.out.2.2.2 h200
        have j0 : (200 : Int) < (putL a b).length := by omega
        subst e4
        generalize (putL a b).length = m at *
        go_wp2
        go_ret2
        exact ⟨HR2.out.2.1, rfl⟩
      · have j0 : ¬ (200 : Int) < (putL a b).length := by omega
        have HFu : Hid (Calls _ _ _ wr _) := lmFull_any va vc (putL a b) wr (by omega) HR2.out.2.2
        have HM : Hid _ := mgE_put HF.out.2.2.1 HF.out.2.2.2 (by omega)
        have hfl := full_length (putL a b)
        have HFB : Hid (Below W.heap.size W wr) := HR2.out.2.1
        clear HR2
        generalize (putL a b).length = m at *
        go_wp2_with fail
        refine HFu.out.mono ?_
        rintro e w4 ⟨v4, rfl, hb4⟩
        obtain ⟨va4, vc4, rfl, -⟩ := hb4.out.1.isBl
        have HI4 : Hid (IsBl w4 va4 (full (putL a b)) vc4) := hb4.out.1.isBl'.2
        have HR4 : Hid (BlRow w4 W.heap.size (.slice va4 (full (putL a b)).length vc4) (full (putL a b))) := hb4.out.1.mono HFB.out.size
        have HB4 : Hid (Below W.heap.size W w4) := HFB.out.trans (hb4.out.2.mono HFB.out.size)
        clear hb4 HFu HFB
        obtain ⟨F, hF⟩ : ∃ F, full (putL a b) = F := ⟨_, rfl⟩
        have HFE : Hid (full (putL a b) = F) := hF
        rw [hF] at HI4 HR4 HM hfl ⊢
        clear hF
        go_wp2_with fail
        go_loopw [9] (fun i wr => ∃ k : Nat, k ≤ F.length ∧ i = .int .i64 k ∧ wr = w4 ∧ Hid (∀ j, j < k → inB (F.getD j bl0))) (fun i _ => F.length - (intOf i).toNat)
        case atStart => exact ⟨0, Nat.zero_le _, rfl, rfl, fun j hj => by omega⟩
        case round =>
          obtain ⟨q, hq, rfl, hw4, HQ⟩ := hrel
          obtain rfl := hw4.symm
          by_cases hql : q < F.length
          · obtain ⟨bb, off, rfl, hbb, hc⟩ := HI4.out.some hql
            have hx := hc q hql
            have k0 : (0 : Int) ≤ q := by omega
            have k1 : (q : Int) < F.length := by omega
            obtain ⟨x, hxx⟩ : ∃ x, F.getD q bl0 = x := ⟨_, rfl⟩
            have HXX : Hid (F.getD q bl0 = x) := hxx
            rw [hxx] at hx
            obtain ⟨x0, x1, x2, x3⟩ := x
            obtain ⟨d0, d1, d2, d3⟩ := hx
            simp only at d0 d1 d2 d3
            clear hc hxx
            by_cases c0 : -1000000000000000000 ≤ x3 ∧ x3 ≤ 1000000000000000000
            · have c2a : ¬ x3 < -1000000000000000000 := by omega
              have c2b : ¬ 1000000000000000000 < x3 := by omega
              have HQ2 : Hid (∀ j, j < q + 1 → inB (F.getD j bl0)) := fun j hj => by
                rcases (by omega : j < q ∨ j = q) with h | rfl
                · exact HQ.out j h
                · rw [HXX.out]; exact c0
              clear c0 HQ
              go_wp2
              go_roundw
              case rel => exact ⟨q + 1, by omega, by go_num, trivial, HQ2⟩
              case measure => simp [intOf]; omega
            · have e10 : E = 10 := by
                rw [← HE.out]
                refine HM.out.2 (fun h => c0 ?_)
                have := h _ (bls_mem F q hql)
                rw [HXX.out] at this
                exact this
              subst e10
              by_cases c2a : x3 < -1000000000000000000
              · clear c0
                go_wp2
                go_ret2
                exact ⟨HB4.out, rfl⟩
              · have c2b : 1000000000000000000 < x3 := by omega
                clear c0
                go_wp2
                go_ret2
                exact ⟨HB4.out, rfl⟩
          · obtain rfl : q = F.length := by omega
            have e0 : E = 0 := by
              rw [← HE.out]
              refine HM.out.1 (fun x hx => ?_)
              obtain ⟨j, hj, rfl⟩ := mem_getD hx
              exact HQ.out j hj
            subst e0
            have k1 : ¬ (F.length : Int) < F.length := by omega
            go_wp2
            go_ret2
            refine ⟨HB4.out, _, rfl, ?_⟩
            unfold Hid
            rw [HFE.out]
            exact HR4.out
end Go.Proofs.YtfkafjffjeipaaaGreatDoor

namespace Go.Proofs.YtfkafjffjeipaaaGreatDoor
set_option linter.unusedVariables false
set_option linter.unusedSimpArgs false
open Go.RowKit Go.Lib

/-- A digit. -/
def digR (r : Nat) : Bool := decide (48 ≤ r) && decide (r ≤ 57)
/-- A sign of a name. -/
def namR (r : Nat) : Bool := (decide (97 ≤ r) && decide (r ≤ 122)) || (decide (65 ≤ r) && decide (r ≤ 90)) || digR r || decide (r = 45)

theorem digR_low {r : Nat} (h : digR r = true) : r < 128 := by simp [digR] at h; omega
theorem namR_low {r : Nat} (h : namR r = true) : r < 128 := by simp [namR, digR] at h; omega

/-- Where the first sign stands that does not fit, from a place on, among at most so many; else -1. -/
def strayFrom (p : Nat → Bool) (s : ByteArray) : Nat → Nat → Int
  | 0, _ => -1
  | f + 1, pos => if pos < s.size then (if p (Utf8.decode s pos).1 = true then strayFrom p s f (pos + (Utf8.decode s pos).2) else (pos : Int)) else -1

theorem strayFrom_end (p : Nat → Bool) (s : ByteArray) (f pos : Nat) (h : ¬ pos < s.size) : strayFrom p s f pos = -1 := by cases f <;> simp [strayFrom, h]

/-- All signs from a place on fit. -/
def fitsFrom (p : Nat → Bool) (s : ByteArray) (pos : Nat) : Prop := ∀ i, pos ≤ i → i < s.size → p (s.get! i).toNat = true

theorem stray_fits (p : Nat → Bool) (hp : ∀ r, p r = true → r < 128) (s : ByteArray) : ∀ (f pos : Nat), s.size ≤ pos + f → (strayFrom p s f pos < 0 ↔ fitsFrom p s pos)
  | 0, pos, h => by
    simp only [strayFrom]
    exact ⟨fun _ i h1 h2 => by omega, fun _ => by omega⟩
  | f + 1, pos, h => by
    by_cases hlt : pos < s.size
    · have hg : s.get! pos = s[pos]'hlt := by
        show s.data[pos]! = s.data[pos]'hlt
        exact getElem!_pos s.data pos hlt
      rw [strayFrom, if_pos hlt]
      by_cases ha : (s[pos]'hlt).toNat < 128
      · rw [decode_ascii s pos hlt ha]
        by_cases hc : p (s[pos]'hlt).toNat = true
        · rw [if_pos hc, stray_fits p hp s f (pos + 1) (by omega)]
          constructor
          · intro hf i h1 h2
            by_cases e : i = pos
            · subst e; rw [hg]; exact hc
            · exact hf i (by omega) h2
          · intro hf i h1 h2
            exact hf i (by omega) h2
        · rw [if_neg hc]
          refine ⟨fun h => by omega, fun hf => ?_⟩
          have := hf pos (Nat.le_refl _) hlt
          rw [hg] at this
          exact absurd this hc
      · have hd := (decode_high s pos hlt (by omega)).1
        rw [if_neg (fun h => by have := hp _ h; omega)]
        refine ⟨fun h => by omega, fun hf => ?_⟩
        have := hp _ (hf pos (Nat.le_refl _) hlt)
        rw [hg] at this
        omega
    · rw [strayFrom_end p s _ _ hlt]
      exact ⟨fun _ i h1 h2 => by omega, fun _ => by omega⟩

/-- Is a text of 1 to so many bytes, all of which fit? -/
def madeOf (p : Nat → Bool) (most : Nat) (s : ByteArray) : Bool := decide (s.size ≠ 0) && (decide (s.size ≤ most) && decide (strayFrom p s s.size 0 < 0))

theorem madeOf_iff {p : Nat → Bool} (hp : ∀ r, p r = true → r < 128) {most : Nat} {s : ByteArray} : madeOf p most s = true ↔ s.size ≠ 0 ∧ s.size ≤ most ∧ ∀ i, i < s.size → p (s.get! i).toNat = true := by
  unfold madeOf
  simp only [Bool.and_eq_true, decide_eq_true_eq]
  rw [stray_fits p hp s s.size 0 (by omega)]
  exact ⟨fun ⟨a, b, c⟩ => ⟨a, b, fun i hi => c i (Nat.zero_le _) hi⟩, fun ⟨a, b, c⟩ => ⟨a, b, fun i _ hi => c i hi⟩⟩

def isCodeB (s : ByteArray) : Bool := madeOf digR 6 s
def isNameB (s : ByteArray) : Bool := madeOf namR 24 s

theorem digit_any (r : Nat) (w : World) :
    Calls Tryz.prog 86 #[.int .i32 r] w fun e w' => e = .returned (.bool (digR r)) ∧ w' = w := by
  by_cases h1 : (48 : Int) ≤ r
  · have : digR r = decide ((r : Int) ≤ 57) := by
      have e1 : decide (48 ≤ r) = true := by simp; omega
      have e2 : decide (r ≤ 57) = decide ((r : Int) ≤ 57) := by simp; omega
      unfold digR; rw [e1, e2]; rfl
    rw [this]
    go_enter Tryz.func86, Tryz.ntmps86
    go_wp2
    go_ret
    exact ⟨rfl, rfl⟩
  · have : digR r = false := by simp [digR]; omega
    rw [this]
    go_enter Tryz.func86, Tryz.ntmps86
    go_wp2
    go_ret
    exact ⟨rfl, rfl⟩

theorem nameSign_any (r : Nat) (w : World) :
    Calls Tryz.prog 87 #[.int .i32 r] w fun e w' => e = .returned (.bool (namR r)) ∧ w' = w := by
  have h1 : (97 : Int) ≤ r ∧ (r : Int) ≤ 122 ∨ 122 < (r : Int) ∨ (90 : Int) < r ∧ (r : Int) < 97 ∨ (65 : Int) ≤ r ∧ (r : Int) ≤ 90 ∨ (r : Int) < 65 := by omega
  rcases h1 with ⟨a, b⟩ | a | ⟨a, b⟩ | ⟨a, b⟩ | a
  · have : namR r = true := by simp [namR]; omega
    rw [this]
    go_enter Tryz.func87, Tryz.ntmps87
    go_wp2
    go_ret
    exact ⟨rfl, rfl⟩
  · have d : digR r = false := by simp [digR]; omega
    have : namR r = false := by simp [namR, d]; omega
    rw [this]
    have n45 : ((r : Int) == 45) = false := by simp; omega
    have n90 : decide ((r : Int) ≤ 90) = false := by simp; omega
    have n122 : decide ((r : Int) ≤ 122) = false := by simp; omega
    go_enter Tryz.func87, Tryz.ntmps87
    go_wp2_with (go_at_call 86; refine (digit_any r _).mono ?_; rintro e w' ⟨rfl, rfl⟩; rw [d])
    go_ret
    exact ⟨rfl, rfl⟩
  · have d : digR r = false := by simp [digR]; omega
    have : namR r = false := by simp [namR, d]; omega
    rw [this]
    have n45 : ((r : Int) == 45) = false := by simp; omega
    have n90 : decide ((r : Int) ≤ 90) = false := by simp; omega
    go_enter Tryz.func87, Tryz.ntmps87
    go_wp2_with (go_at_call 86; refine (digit_any r _).mono ?_; rintro e w' ⟨rfl, rfl⟩; rw [d])
    go_ret
    exact ⟨rfl, rfl⟩
  · have : namR r = true := by simp [namR]; omega
    rw [this]
    go_enter Tryz.func87, Tryz.ntmps87
    go_wp2
    go_ret
    exact ⟨rfl, rfl⟩
  · cases d : digR r
    · have : namR r = ((r : Int) == 45) := by
        have e1 : decide (r = 45) = ((r : Int) == 45) := by rw [Bool.eq_iff_iff]; simp; omega
        have e2 : (decide (97 ≤ r) && decide (r ≤ 122)) = false := by simp; omega
        have e3 : (decide (65 ≤ r) && decide (r ≤ 90)) = false := by simp; omega
        unfold namR; rw [e1, e2, e3, d]; rfl
      rw [this]
      go_enter Tryz.func87, Tryz.ntmps87
      go_wp2_with (go_at_call 86; refine (digit_any r _).mono ?_; rintro e w' ⟨rfl, rfl⟩; rw [d])
      go_ret
      exact ⟨rfl, rfl⟩
    · have : namR r = true := by simp [namR, d]
      rw [this]
      go_enter Tryz.func87, Tryz.ntmps87
      go_wp2_with (go_at_call 86; refine (digit_any r _).mono ?_; rintro e w' ⟨rfl, rfl⟩; rw [d])
      go_ret
      exact ⟨rfl, rfl⟩

/-- What is asked of a function that says which signs fit. -/
structure ChFits (g : Nat) (p : Nat → Bool) : Prop where
  eg : ∀ args w, (callFunc g args).run Tryz.prog w = .ok (.enter g args) w
  call : ∀ (r : Nat) w, Calls Tryz.prog g #[.int .i32 r] w fun e w' => e = .returned (.bool (p r)) ∧ w' = w

theorem enters {f : FuncId} {fn : Func} (hf : Tryz.prog.funcs[f]? = some fn) (hn : (fn.name == "runtime.NumGoroutine") = false) (hb : ∃ c, fn.body = some c) (args : Array Value) (w : World) : (callFunc f args).run Tryz.prog w = .ok (.enter f args) w := by
  obtain ⟨c, hc⟩ := hb
  exact MuLone.run_callFunc_enter hf hn hc args w
theorem digit_fits : ChFits 86 digR := ⟨fun args w => enters Tryz.func86 (by kernel_rfl) ⟨_, rfl⟩ args w, digit_any⟩
theorem name_fits : ChFits 87 namR := ⟨fun args w => enters Tryz.func87 (by kernel_rfl) ⟨_, rfl⟩ args w, nameSign_any⟩

theorem madeOf1_any (g : Nat) (p : Nat → Bool) (hf : ChFits g p) (B r : Nat) (w : World) (hB : w.cell? ⟨B, 0, none⟩ = some (.func (.func g) #[] #[])) :
    Calls Tryz.prog 99 #[.int .i32 r, .pointer (some ⟨B, 0, none⟩)] w fun e w' => e = .returned (.bool (!p r)) ∧ w' = w := by
  have eg := hf.eg
  have hc := hf.call r w
  clear hf
  go_enter Tryz.func99, Tryz.ntmps99
  go_wp2_with (go_at_fn g; refine hc.mono ?_; rintro e w' ⟨rfl, rfl⟩)
  go_ret
  exact ⟨rfl, rfl⟩

set_option maxHeartbeats 1000000 in
theorem chIndexFunc_any (g : Nat) (p : Nat → Bool) (hf : ChFits g p) (B : Nat) (s : ByteArray) (w : World) (hb : B < w.heap.size) (hB : w.cell? ⟨B, 0, none⟩ = some (.func (.func g) #[] #[])) :
    Calls Tryz.prog 103 #[.string s, .func (.func 99) #[] #[.pointer (some ⟨B, 0, none⟩)], .bool true] w fun e w' => e = .returned (.int .i64 (strayFrom p s s.size 0)) ∧ Below w.heap.size w w' := by
  have HB : Hid (w.cell? ⟨B, 0, none⟩ = some (.func (.func g) #[] #[])) := hB
  have HF : Hid (ChFits g p) := hf
  clear hB hf
  go_enter Tryz.func103, Tryz.ntmps103
  go_wp2
  go_loopg [] s.size (fun gf wx => ∃ pos : Nat, wx.heap[w.heap.size]? = some (.stringIter s pos) ∧ Below w.heap.size w wx ∧ strayFrom p s gf pos = strayFrom p s s.size 0 ∧ s.size ≤ pos + gf)
  case atStart => exact ⟨0, World.iter_heap w s 0, (Below.refl _ w).alloc (Nat.le_refl _) _, rfl, by omega⟩
  case round =>
    obtain ⟨pos, hit, hbw, hleft, hfu⟩ := hrel
    by_cases hps : pos < s.size
    · obtain ⟨g', rfl⟩ : ∃ g', gk = g' + 1 := ⟨gk - 1, by omega⟩
      have hnx : ∀ ty, (Instr.next (.pointer (some ⟨w.heap.size, 0, none⟩)) true ty).run Tryz.prog wr = _ := fun ty => Lib.run_next_any_at wr w.heap.size s pos ty hit hps
      have hwd := Lib.width_pos s pos
      obtain ⟨R, hR⟩ : ∃ R, (Utf8.decode s pos).1 = R := ⟨_, rfl⟩
      obtain ⟨K, hK⟩ : ∃ K, (Utf8.decode s pos).2 = K := ⟨_, rfl⟩
      simp only [strayFrom, hps, if_true, hR, hK] at hleft
      rw [hR, hK] at hnx
      rw [hK] at hwd
      have hit2 := Lib.iterAt_heap wr w.heap.size s pos (pos + K) hit
      have hbw2 := Lib.below_iterAt hbw (k := w.heap.size) (Nat.le_refl _) s (pos + K)
      obtain ⟨W, hWd⟩ : ∃ W, wr.iterAt w.heap.size s (pos + K) = W := ⟨_, rfl⟩
      rw [hWd] at hnx hit2 hbw2
      have hcall := madeOf1_any g p HF.out B R W ((hbw2.cell (p := ⟨B, 0, none⟩) hb).trans HB.out)
      cases hsp : p R <;> simp only [hsp, if_true, Bool.false_eq_true, if_false] at hleft
      · rw [hsp] at hcall
        go_wp2_with (go_at_call 99; refine hcall.mono ?_; rintro e W' ⟨rfl, rfl⟩)
        go_ret
        exact ⟨by rw [← hleft]; rfl, hbw2⟩
      · rw [hsp] at hcall
        go_wp2_with (go_at_call 99; refine hcall.mono ?_; rintro e W' ⟨rfl, rfl⟩)
        go_roundg g'
        case measure => omega
        case rel => exact ⟨pos + K, hit2, hbw2, hleft, by omega⟩
    · have hnx : ∀ ty, (Instr.next (.pointer (some ⟨w.heap.size, 0, none⟩)) true ty).run Tryz.prog wr = _ := fun ty => Lib.run_next_end_at wr w.heap.size s pos ty hit hps
      rw [strayFrom_end p s gk pos hps] at hleft
      go_wp2
      go_ret
      exact ⟨by rw [← hleft]; rfl, hbw⟩

theorem chContainsFunc_any (g : Nat) (p : Nat → Bool) (hf : ChFits g p) (B : Nat) (s : ByteArray) (w : World) (hb : B < w.heap.size) (hB : w.cell? ⟨B, 0, none⟩ = some (.func (.func g) #[] #[])) :
    Calls Tryz.prog 98 #[.string s, .func (.func 99) #[] #[.pointer (some ⟨B, 0, none⟩)]] w fun e w' => e = .returned (.bool (decide (0 ≤ strayFrom p s s.size 0))) ∧ Below w.heap.size w w' := by
  have hI : Calls Tryz.prog 102 #[.string s, .func (.func 99) #[] #[.pointer (some ⟨B, 0, none⟩)]] w fun e w' => e = .returned (.int .i64 (strayFrom p s s.size 0)) ∧ Below w.heap.size w w' := by
    have hc := chIndexFunc_any g p hf B s w hb hB
    clear hf hB
    go_enter Tryz.func102, Tryz.ntmps102
    go_wp2_with fail
    refine hc.mono ?_
    rintro e w' ⟨rfl, hb⟩
    go_wp2
    go_ret
    exact ⟨rfl, hb⟩
  clear hf hB
  go_enter Tryz.func98, Tryz.ntmps98
  go_wp2_with fail
  refine hI.mono ?_
  rintro e w' ⟨rfl, hb⟩
  go_wp2
  go_ret
  exact ⟨rfl, hb⟩

theorem isMadeOf_any (g : Nat) (p : Nat → Bool) (hf : ChFits g p) (most : Nat) (s : ByteArray) (w : World) :
    Calls Tryz.prog 85 #[.string s, .int .i64 most, .func (.func g) #[] #[]] w fun e w' => e = .returned (.bool (madeOf p most s)) ∧ Below w.heap.size w w' := by
  have b0 : Below w.heap.size w (w.alloc (.cells #[.func (.func g) #[] #[]] 151)) := (Below.refl _ w).alloc (Nat.le_refl _) _
  have hc := chContainsFunc_any g p hf w.heap.size s (w.alloc (.cells #[.func (.func g) #[] #[]] 151)) (by simp) (by simp)
  have Hc : Hid (Calls _ _ _ _ _) := hc
  clear hf hc
  by_cases h0 : s.size = 0
  · have e0 : s.toList = [] := by
      rw [Lib.toList_data]
      exact List.eq_nil_of_length_eq_zero h0
    have e1 : madeOf p most s = false := by simp [madeOf, h0]
    rw [e1]
    go_enter Tryz.func85, Tryz.ntmps85
    go_wp2
    go_ret
    exact ⟨rfl, b0⟩
  have e0 : ¬ s.toList = [] := by
    rw [Lib.toList_data]
    intro e
    exact h0 (congrArg List.length e)
  have e0' : s.toList.isEmpty = false := by simpa using e0
  by_cases h1 : s.size ≤ most
  · have h1' : decide ((s.size : Int) ≤ most) = true := by simp; omega
    have e1 : madeOf p most s = !decide (0 ≤ strayFrom p s s.size 0) := by
      have d1 : decide (s.size ≠ 0) = true := by simp [h0]
      have d2 : decide (s.size ≤ most) = true := by simp [h1]
      have d3 : decide (strayFrom p s s.size 0 < 0) = !decide (0 ≤ strayFrom p s s.size 0) := by
        by_cases hh : 0 ≤ strayFrom p s s.size 0
        · rw [decide_eq_true hh, decide_eq_false (by omega)]; rfl
        · rw [decide_eq_false hh, decide_eq_true (by omega)]; rfl
      unfold madeOf; rw [d1, d2, d3]; rfl
    rw [e1]
    go_enter Tryz.func85, Tryz.ntmps85
    go_wp2_with fail
    refine Hc.out.mono ?_
    rintro e w' ⟨rfl, hb⟩
    go_wp2
    go_ret
    exact ⟨rfl, b0.trans (hb.mono (by simp))⟩
  · have h1' : decide ((s.size : Int) ≤ most) = false := by simp; omega
    have e1 : madeOf p most s = false := by simp [madeOf, h1]
    rw [e1]
    go_enter Tryz.func85, Tryz.ntmps85
    go_wp2
    go_ret
    exact ⟨rfl, b0⟩

theorem isCode_any (s : ByteArray) (w : World) :
    Calls Tryz.prog 61 #[.string s] w fun e w' => e = .returned (.bool (isCodeB s)) ∧ Below w.heap.size w w' := by
  go_enter Tryz.func61, Tryz.ntmps61
  go_wp2_with fail
  refine (isMadeOf_any _ digR digit_fits 6 s w).mono ?_
  rintro e w' ⟨rfl, hb⟩
  go_wp2
  go_ret
  exact ⟨rfl, hb⟩

theorem isName_any (s : ByteArray) (w : World) :
    Calls Tryz.prog 62 #[.string s] w fun e w' => e = .returned (.bool (isNameB s)) ∧ Below w.heap.size w w' := by
  go_enter Tryz.func62, Tryz.ntmps62
  go_wp2_with fail
  refine (isMadeOf_any _ namR name_fits 24 s w).mono ?_
  rintro e w' ⟨rfl, hb⟩
  go_wp2
  go_ret
  exact ⟨rfl, hb⟩
end Go.Proofs.YtfkafjffjeipaaaGreatDoor
