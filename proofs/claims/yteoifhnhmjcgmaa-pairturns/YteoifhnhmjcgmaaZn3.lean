/-
  One more law on a statement whose order of evaluation is left open: an operation that yields its value in every world may be taken first. It names no program.
-/
import Derived.Test.YteoifhnhmjcgmaaProg
import Derived.WalkKit
import Derived.WalkSpells
import Derived.Below
import Derived.Lib.OthersKept
import Derived.Lib.TrimU
import Derived.Deep.LoopGhost
import Derived.Test.YteoifhnhmjcgmaaZn0
import Derived.Test.YteoifhnhmjcgmaaZn2
import Derived.Laws.ResultCell
import Derived.Deep.OwnRows
import Derived.Shelf.Abstract
import Derived.Test.YteoifhnhmjcgmaaZn1
import Derived.Deep.QuietTactic
import Derived.BigQuiet
import Derived.OrdersHeld
import Derived.RegionTactic
namespace Go.Proofs.Yteoifhnhmjcgmaa
set_option linter.unusedVariables false
set_option linter.unusedSimpArgs false
set_option maxRecDepth 100000
open Go.RowKit Go.Lib

/-- Is a number from 1 to another one? -/
def upTo (n m : Int) : Bool := decide (1 ≤ n) && decide (n ≤ m)
theorem upTo_iff {n m : Int} : upTo n m = true ↔ 1 ≤ n ∧ n ≤ m := by simp [upTo]
/-- The greatest amount. -/
def mostA : Int := 1000000000000000
def isAmtB (n : Int) : Bool := decide (-1000000000000000 ≤ n) && decide (n ≤ 1000000000000000)
theorem isAmtB_iff {n : Int} : isAmtB n = true ↔ -mostA ≤ n ∧ n ≤ mostA := by
  simp [isAmtB, mostA]
end Go.Proofs.Yteoifhnhmjcgmaa

namespace Go.Proofs.Yteoifhnhmjcgmaa
set_option linter.unusedVariables false
open Go.RowKit Go.Lib

/-- A sign that is no letter A to Z. -/
def other (r : Nat) : Bool := decide (r < 65) || decide (90 < r)

/-- Is there such a sign, from a place on, among at most so many? -/
def otherFrom (s : ByteArray) : Nat → Nat → Int
  | 0, _ => -1
  | f + 1, pos => if pos < s.size then (if other (Utf8.decode s pos).1 = true then (pos : Int) else otherFrom s f (pos + (Utf8.decode s pos).2)) else -1

theorem otherFrom_end (s : ByteArray) (f pos : Nat) (h : ¬ pos < s.size) : otherFrom s f pos = -1 := by cases f <;> simp [otherFrom, h]

theorem otherFrom_ge (s : ByteArray) : ∀ (f pos : Nat), -1 ≤ otherFrom s f pos
  | 0, _ => by simp [otherFrom]
  | f + 1, pos => by
    unfold otherFrom
    split
    · split
      · omega
      · exact otherFrom_ge s f _
    · omega

/-- Is a text a currency? -/
def isCur (s : ByteArray) : Bool := s.size == 3 && decide (otherFrom s s.size 0 < 0)

theorem closure_any (r : Nat) (w : World) :
    Calls Try.prog 13 #[.int .i32 r] w fun e w' => e = .returned (.bool (other r)) ∧ w' = w := by
  by_cases h1 : (r : Int) < 65
  · go_enter Try.func13, Try.ntmps13
    go_wp2
    go_ret
    refine ⟨?_, rfl⟩
    have : other r = true := by simp [other]; omega
    rw [this]; rfl
  · go_enter Try.func13, Try.ntmps13
    go_wp2
    go_ret
    refine ⟨?_, rfl⟩
    have : other r = decide ((90 : Int) < r) := by
      have e1 : decide (r < 65) = false := by simp; omega
      have e2 : decide (90 < r) = decide ((90 : Int) < r) := by simp; omega
      unfold other; rw [e1, e2]; rfl
    rw [this]; rfl

set_option maxHeartbeats 1000000 in
theorem indexFunc_any (s : ByteArray) (w : World) :
    Calls Try.prog 25 #[.string s, .func (.func 13) #[] #[], .bool true] w fun e w' => e = .returned (.int .i64 (otherFrom s s.size 0)) ∧ Below w.heap.size w w' := by
  go_enter Try.func25, Try.ntmps25
  go_wp2
  go_loopg [] s.size (fun gf wx => ∃ pos : Nat, wx.heap[w.heap.size]? = some (.stringIter s pos) ∧ Below w.heap.size w wx ∧ otherFrom s gf pos = otherFrom s s.size 0 ∧ s.size ≤ pos + gf)
  case atStart => exact ⟨0, World.iter_heap w s 0, (Below.refl _ w).alloc (Nat.le_refl _) _, rfl, by omega⟩
  case round =>
    obtain ⟨pos, hit, hbw, hleft, hfu⟩ := hrel
    by_cases hps : pos < s.size
    · obtain ⟨g', rfl⟩ : ∃ g', gk = g' + 1 := ⟨gk - 1, by omega⟩
      have hnx : ∀ ty, (Instr.next (.pointer (some ⟨w.heap.size, 0, none⟩)) true ty).run Try.prog wr = _ := fun ty => Lib.run_next_any_at wr w.heap.size s pos ty hit hps
      have hwd := Lib.width_pos s pos
      obtain ⟨R, hR⟩ : ∃ R, (Utf8.decode s pos).1 = R := ⟨_, rfl⟩
      obtain ⟨K, hK⟩ : ∃ K, (Utf8.decode s pos).2 = K := ⟨_, rfl⟩
      simp only [otherFrom, hps, if_true, hR, hK] at hleft
      rw [hR, hK] at hnx
      rw [hK] at hwd
      have hit2 := Lib.iterAt_heap wr w.heap.size s pos (pos + K) hit
      have hbw2 := Lib.below_iterAt hbw (k := w.heap.size) (Nat.le_refl _) s (pos + K)
      obtain ⟨W, hWd⟩ : ∃ W, wr.iterAt w.heap.size s (pos + K) = W := ⟨_, rfl⟩
      rw [hWd] at hnx hit2 hbw2
      cases hsp : other R <;> simp only [hsp, if_true, Bool.false_eq_true, if_false] at hleft
      · go_wp2_with (go_at_call 13; refine (closure_any R _).mono ?_; rintro e W' ⟨rfl, rfl⟩; rw [hsp])
        go_roundg g'
        case measure => omega
        case rel => exact ⟨pos + K, hit2, hbw2, hleft, by omega⟩
      · go_wp2_with (go_at_call 13; refine (closure_any R _).mono ?_; rintro e W' ⟨rfl, rfl⟩; rw [hsp])
        go_ret
        exact ⟨by rw [← hleft]; rfl, hbw2⟩
    · have hnx : ∀ ty, (Instr.next (.pointer (some ⟨w.heap.size, 0, none⟩)) true ty).run Try.prog wr = _ := fun ty => Lib.run_next_end_at wr w.heap.size s pos ty hit hps
      rw [otherFrom_end s gk pos hps] at hleft
      go_wp2
      go_ret
      exact ⟨by rw [← hleft]; rfl, hbw⟩

theorem containsFunc_any (s : ByteArray) (w : World) :
    Calls Try.prog 12 #[.string s, .func (.func 13) #[] #[]] w fun e w' => e = .returned (.bool (decide (0 ≤ otherFrom s s.size 0))) ∧ Below w.heap.size w w' := by
  have hI : Calls Try.prog 20 #[.string s, .func (.func 13) #[] #[]] w fun e w' => e = .returned (.int .i64 (otherFrom s s.size 0)) ∧ Below w.heap.size w w' := by
    go_enter Try.func20, Try.ntmps20
    go_wp2_with fail
    refine (indexFunc_any s _).mono ?_
    rintro e w' ⟨rfl, hb⟩
    go_wp2
    go_ret
    exact ⟨rfl, hb⟩
  go_enter Try.func12, Try.ntmps12
  go_wp2_with fail
  refine hI.mono ?_
  rintro e w' ⟨rfl, hb⟩
  go_wp2
  go_ret
  exact ⟨rfl, hb⟩

theorem cur_any (s : ByteArray) (w : World) :
    Calls Try.prog 7 #[.string s] w fun e w' => e = .returned (.bool (isCur s)) ∧ Below w.heap.size w w' := by
  by_cases h : s.size = 3
  · have h' : ((s.size : Int) == 3) = true := by simp; omega
    go_enter Try.func7, Try.ntmps7
    go_wp2_with fail
    refine (containsFunc_any s _).mono ?_
    rintro e w' ⟨rfl, hb⟩
    have e1 : isCur s = !decide (0 ≤ otherFrom s s.size 0) := by
      have e2 : (s.size == 3) = true := by simp [h]
      have e3 : decide (otherFrom s s.size 0 < 0) = !decide (0 ≤ otherFrom s s.size 0) := by
        by_cases h0 : 0 ≤ otherFrom s s.size 0
        · rw [decide_eq_true h0, decide_eq_false (by omega)]; rfl
        · rw [decide_eq_false h0, decide_eq_true (by omega)]; rfl
      unfold isCur; rw [e2, e3]; rfl
    rw [h] at e1
    go_wp2
    go_ret
    exact ⟨by rw [e1]; rfl, hb⟩
  · have h' : ((s.size : Int) == 3) = false := by simp; omega
    have e1 : isCur s = false := by
      have e2 : (s.size == 3) = false := by simp [h]
      unfold isCur; rw [e2]; rfl
    go_enter Try.func7, Try.ntmps7
    go_wp2
    go_ret
    exact ⟨by rw [e1]; rfl, Below.refl _ _⟩

end Go.Proofs.Yteoifhnhmjcgmaa

namespace Go.Proofs.Yteoifhnhmjcgmaa
set_option linter.unusedVariables false
set_option linter.unusedSimpArgs false
set_option maxRecDepth 100000
open Go.RowKit Go.Lib

set_option maxHeartbeats 2000000 in
theorem sides_any (p : Pr) (w : World) :
    Calls Try.prog 14 #[.agg p.cells] w fun e w' => e = .returned (.agg #[.int .i64 p.ea, .string p.one, .int .i64 p.eb, .string p.oth]) ∧ Below w.heap.size w w' := by
  have b0 : Below w.heap.size w (w.alloc (.cells p.cells 25)) := (Below.refl _ w).alloc (Nat.le_refl _) _
  obtain ⟨x0, x1, x2, x3, x4⟩ := p
  simp only [Pr.cells] at b0 ⊢
  go_enter Try.func14, Try.ntmps14
  go_wp2
  refine bodyPost_ret (v := .agg #[.int .i64 x0, .string x2, .int .i64 x1, .string x3]) (by simp [results, Try.results14, go_sem]) rfl ?_
  exact ⟨rfl, b0.alloc b0.size _⟩
/-- A pair of numbers in a box of its own. -/
def TwoAt (w : World) (g : Nat) (x y : Int) : Prop := w.heap[g]? = some (.cells #[.int .i64 x, .int .i64 y] 38 (0, 0))
theorem TwoAt.lt {w : World} {g : Nat} {x y : Int} (h : TwoAt w g x y) : g < w.heap.size := (Array.getElem?_eq_some_iff.1 h).1
theorem TwoAt.below {w w' : World} {g n : Nat} {x y : Int} (h : TwoAt w g x y) (hb : Below n w w') (hg : g < n) : TwoAt w' g x y := (hb.block g hg).trans h
theorem TwoAt.c0 {w : World} {g : Nat} {x y : Int} (h : TwoAt w g x y) : w.cell? ⟨g, 0, none⟩ = some (.int .i64 x) := by unfold TwoAt at h; simp [World.cell?, h]
theorem TwoAt.c1 {w : World} {g : Nat} {x y : Int} (h : TwoAt w g x y) : w.cell? ⟨g, 1, none⟩ = some (.int .i64 y) := by unfold TwoAt at h; simp [World.cell?, h]
theorem TwoAt.frozen {w : World} {g : Nat} {x y : Int} (h : TwoAt w g x y) (i : Nat) : w.frozen? ⟨g, i, none⟩ = false := by unfold TwoAt at h; simp [World.frozen?, h]
theorem TwoAt.set0 {w : World} {g : Nat} {x y : Int} (h : TwoAt w g x y) (z : Int) : TwoAt (w.setCell ⟨g, 0, none⟩ (.int .i64 z)) g z y := by
  unfold TwoAt at *
  rw [setCell_eq_setRow w g 0 _ 38 (0, 0) _ h, setRow_heap w g _ _ 38 (0, 0) h]
  simp
theorem TwoAt.set1 {w : World} {g : Nat} {x y : Int} (h : TwoAt w g x y) (z : Int) : TwoAt (w.setCell ⟨g, 1, none⟩ (.int .i64 z)) g x z := by
  unfold TwoAt at *
  rw [setCell_eq_setRow w g 1 _ 38 (0, 0) _ h, setRow_heap w g _ _ 38 (0, 0) h]
  simp
theorem TwoAt.new (w : World) (x y : Int) : TwoAt (w.alloc (.cells #[.int .i64 x, .int .i64 y] 38)) w.heap.size x y := by
  unfold TwoAt World.alloc; simp only [Array.getElem?_push_size]
set_option maxHeartbeats 4000000 in
theorem had_any (a : Option Addr) (cap : Nat) (p : Pr) (b : List Bl) (cur : ByteArray) (w : World) (hlen : (b.length : Int) ≤ 9223372036854775807) (h : IsBl w a b cap) :
    Calls Try.prog 8 #[.agg p.cells, .slice a b.length cap, .string cur] w fun e w' => e = .returned (.agg #[.int .i64 (getB b p.ea p.one cur), .int .i64 (getB b p.eb p.oth cur)]) ∧ Below w.heap.size w w' := by
  obtain ⟨h0, e0⟩ : ∃ x, getB b p.ea p.one cur = x := ⟨_, rfl⟩
  obtain ⟨h1, e1⟩ : ∃ x, getB b p.eb p.oth cur = x := ⟨_, rfl⟩
  rw [e0, e1]
  have HH : Hid (∀ W en acc, Below w.heap.size w W → Calls Try.prog 15 #[.slice a b.length cap, .int .i64 en, .string acc, .string cur] W fun e w' => e = .returned (.int .i64 (getB b en acc cur)) ∧ Below W.heap.size W w') := fun W en acc hW => ldHas_any a cap b en acc cur W hlen (h.below hW)
  have E0 : Hid (getB b p.ea p.one cur = h0) := e0
  have E1 : Hid (getB b p.eb p.oth cur = h1) := e1
  obtain ⟨w1, hw1⟩ : ∃ w1, w.alloc (.cells p.cells 25) = w1 := ⟨_, rfl⟩
  obtain ⟨w2, hw2⟩ : ∃ w2, w1.alloc (.cells #[.int .i64 0, .int .i64 0] 38) = w2 := ⟨_, rfl⟩
  obtain ⟨G, hG⟩ : ∃ G, w1.heap.size = G := ⟨_, rfl⟩
  have b1 : Below w.heap.size w w1 := by rw [← hw1]; exact (Below.refl _ w).alloc (Nat.le_refl _) _
  have b2 : Below w.heap.size w w2 := by rw [← hw2]; exact b1.alloc b1.size _
  have ht : TwoAt w2 G 0 0 := by rw [← hw2, ← hG]; exact TwoAt.new _ _ _
  have hGw : w.heap.size ≤ G := by rw [← hG]; exact b1.size
  have hp1 : PrAt w1 w.heap.size 0 p := by rw [← hw1]; exact PrAt.new w p _
  have hs1 : w.heap.size < w1.heap.size := by rw [← hw1]; simp
  have hp2 : PrAt w2 w.heap.size 0 p := by rw [← hw2]; exact hp1.below ((Below.refl _ w1).alloc (Nat.le_refl _) _) hs1
  have hsg : w1.heap.size = w.heap.size + 1 := by rw [← hw1]; simp
  have HS : Hid (Calls _ _ _ _ _) := sides_any p w2
  have HW1 : Hid (w.alloc (.cells p.cells 25) = w1) := hw1
  have HW2 : Hid (w1.alloc (.cells #[.int .i64 0, .int .i64 0] 38) = w2) := hw2
  have HT : Hid (TwoAt w2 G 0 0 ∧ Below w.heap.size w w2 ∧ w.heap.size ≤ G) := ⟨ht, b2, hGw⟩
  have HG : Hid (w.heap.size + 1 = G) := by rw [← hG]; exact hsg.symm
  clear e0 e1 h hw1 hw2 hG b1 b2 ht hGw hp1 hs1 hsg
  obtain ⟨x0, x1, x2, x3, x4⟩ := p
  obtain ⟨d0, d1, d2, d3, d4⟩ := hp2
  simp only [Pr.cells, Nat.zero_add] at HW1 HS E0 E1 d0 d1 d2 d3 d4 ⊢
  go_enter Try.func8, Try.ntmps8
  go_upto_region 1 with fail
  rw [HW1.out, HW2.out]
  have hT0 := HT.out
  go_wp2_with fail
  refine HS.out.mono ?_
  rintro e w3 ⟨rfl, hb3⟩
  have HT3 : Hid (TwoAt w3 G 0 0 ∧ Below w.heap.size w w3 ∧ w.heap.size ≤ G) := ⟨HT.out.1.below hb3 HT.out.1.lt, HT.out.2.1.trans (hb3.mono HT.out.2.1.size), HT.out.2.2⟩
  clear HS HT HW1 HW2 hb3 d0 d1 d2 d3 d4 hT0
  have i0 : ∀ W, (Instr.index 48 (.agg #[.int .i64 x0, .string x2, .int .i64 x1, .string x3]) (.int .i64 0)).run Try.prog W = .ok (.agg #[.int .i64 x0, .string x2]) W := fun _ => by kernel_rfl
  have i1 : ∀ W, (Instr.index 48 (.agg #[.int .i64 x0, .string x2, .int .i64 x1, .string x3]) (.int .i64 1)).run Try.prog W = .ok (.agg #[.int .i64 x1, .string x3]) W := fun _ => by kernel_rfl
  rw [HG.out]
  have HC1 : Hid (∀ W, TwoAt W G 0 0 ∧ Below w.heap.size w W → Calls Try.prog 15 #[.slice a b.length cap, .int .i64 x0, .string x2, .string cur] W fun e w' => e = .returned (.int .i64 h0) ∧ w'.cell? ⟨G, 0, none⟩ = some (.int .i64 0) ∧ w'.frozen? ⟨G, 0, none⟩ = false ∧ Hid (TwoAt (w'.setCell ⟨G, 0, none⟩ (.int .i64 h0)) G h0 0 ∧ Below w.heap.size w (w'.setCell ⟨G, 0, none⟩ (.int .i64 h0)))) := fun W hW => by
    refine (HH.out W x0 x2 hW.2).mono ?_
    rintro e w' ⟨rfl, hb⟩
    have t := hW.1.below hb hW.1.lt
    refine ⟨by rw [E0.out], t.c0, t.frozen 0, t.set0 h0, (hW.2.trans (hb.mono hW.2.size)).setCell (p := ⟨G, 0, none⟩) HT3.out.2.2 _⟩
  have HC2 : Hid (∀ W, TwoAt W G h0 0 ∧ Below w.heap.size w W → Calls Try.prog 15 #[.slice a b.length cap, .int .i64 x1, .string x3, .string cur] W fun e w' => e = .returned (.int .i64 h1) ∧ w'.cell? ⟨G, 1, none⟩ = some (.int .i64 0) ∧ w'.frozen? ⟨G, 1, none⟩ = false ∧ Hid (TwoAt (w'.setCell ⟨G, 1, none⟩ (.int .i64 h1)) G h0 h1 ∧ Below w.heap.size w (w'.setCell ⟨G, 1, none⟩ (.int .i64 h1)))) := fun W hW => by
    refine (HH.out W x1 x3 hW.2).mono ?_
    rintro e w' ⟨rfl, hb⟩
    have t := hW.1.below hb hW.1.lt
    refine ⟨by rw [E1.out], t.c1, t.frozen 1, t.set1 h1, (hW.2.trans (hb.mono hW.2.size)).setCell (p := ⟨G, 1, none⟩) HT3.out.2.2 _⟩
  have HA1 : Hid (TwoAt (w3.alloc (.cells #[.int .i64 x0, .string x2] 47)) G 0 0 ∧ Below w.heap.size w (w3.alloc (.cells #[.int .i64 x0, .string x2] 47))) := ⟨HT3.out.1.below ((Below.refl _ w3).alloc (Nat.le_refl _) _) HT3.out.1.lt, HT3.out.2.1.alloc HT3.out.2.1.size _⟩
  have HA2 : Hid (∀ W, TwoAt W G h0 0 ∧ Below w.heap.size w W → TwoAt (W.alloc (.cells #[.int .i64 x1, .string x3] 47)) G h0 0 ∧ Below w.heap.size w (W.alloc (.cells #[.int .i64 x1, .string x3] 47))) := fun W hW => ⟨hW.1.below ((Below.refl _ W).alloc (Nat.le_refl _) _) hW.1.lt, hW.2.alloc hW.2.size _⟩
  clear HH E0 E1 HT3
  go_wp2
  refine wp_loop_rounds 3 ?_
  rw [rounds_succ]
  go_wp2_with fail
  refine (HC1.out _ HA1.out).mono ?_
  rintro e w5 ⟨rfl, k0, k1, H5⟩
  clear HC1 HA1
  go_wp2_with fail
  have HA3 : Hid _ := HA2.out _ H5.out
  clear HA2 H5 k0 k1
  generalize w5.setCell ⟨G, 0, none⟩ (.int .i64 h0) = w6 at *
  rw [rounds_succ]
  go_wp2_with fail
  refine (HC2.out _ HA3.out).mono ?_
  rintro e w7 ⟨rfl, k0, k1, H7⟩
  clear HC2 HA3
  go_wp2_with fail
  clear k0 k1
  generalize w7.setCell ⟨G, 1, none⟩ (.int .i64 h1) = w8 at *
  have q0 := H7.out.1.c0
  have q1 := H7.out.1.c1
  have f0 := H7.out.1.frozen 0
  have f1 := H7.out.1.frozen 1
  rw [rounds_succ]
  go_wp2
  have tF := (H7.out.1.set0 h0).set1 h1
  have t0 := tF.c0
  have t1 := tF.c1
  have hGw : w.heap.size ≤ G := by have := HG.out; omega
  refine bodyPost_ret (v := .agg #[.int .i64 h0, .int .i64 h1]) (by simp [results, Try.results8, go_sem, t0, t1]) rfl ?_
  exact ⟨rfl, (H7.out.2.setCell (p := ⟨G, 0, none⟩) hGw _).setCell (p := ⟨G, 1, none⟩) hGw _⟩
end Go.Proofs.Yteoifhnhmjcgmaa

namespace Go.Proofs.Yteoifhnhmjcgmaa
set_option linter.unusedVariables false
set_option linter.unusedSimpArgs false
set_option maxRecDepth 100000
open Go.RowKit Go.Lib Math

/-- What is wrong where what is left of pairs is asked for. -/
def lfE (l : List Pr) (b : List Bl) (cur : ByteArray) : Int := if 20 < l.length then 4 else if chk b ≠ 0 then chk b else if isCur cur = true then 0 else 2
/-- What is left of a pair. -/
def lfV (b : List Bl) (cur : ByteArray) (p : Pr) : Int := getB b p.ea p.one cur + getB b p.eb p.oth cur
/-- What pair.Left leaves. -/
def LeftEnd (l : List Pr) (b : List Bl) (cur : ByteArray) (w : World) (e : Ending) (w' : World) : Prop :=
  Below w.heap.size w w' ∧ (lfE l b cur ≠ 0 → e = .returned (.tuple #[.slice none 0 0, enE (lfE l b cur)])) ∧ (lfE l b cur = 0 → ∃ g, e = .returned (.tuple #[.slice (some ⟨g, 0, none⟩) l.length l.length, .nilIface]) ∧ w.heap.size ≤ g ∧ NRow w' g (l.map (lfV b cur)))
theorem getB_bd {b : List Bl} (h : Fine b) (en : Int) (acc cur : ByteArray) : -1000000000000000000 ≤ getB b en acc cur ∧ getB b en acc cur ≤ 1000000000000000000 := by
  unfold getB
  cases hf : b.find? (hasB en acc cur) with
  | none => simp
  | some x => exact h.amt x (List.mem_of_find?_eq_some hf)
theorem lfE_ok {l : List Pr} {b : List Bl} {cur : ByteArray} : lfE l b cur = 0 ↔ l.length ≤ 20 ∧ Fine b ∧ isCur cur = true := by
  unfold lfE
  by_cases c1 : 20 < l.length
  · rw [if_pos c1]
    constructor
    · intro h; cases h
    · rintro ⟨h, _⟩; omega
  rw [if_neg c1]
  by_cases c2 : chk b ≠ 0
  · rw [if_pos c2]
    constructor
    · intro h; exact absurd h c2
    · rintro ⟨_, h, _⟩; exact absurd (chk_zero.2 h) c2
  rw [if_neg c2]
  have c2' := chk_zero.1 (Decidable.of_not_not c2)
  by_cases c3 : isCur cur = true
  · rw [if_pos c3]
    exact ⟨fun _ => ⟨by omega, c2', c3⟩, fun _ => rfl⟩
  · rw [if_neg c3]
    constructor
    · intro h; cases h
    · rintro ⟨_, _, h⟩; exact absurd h c3
theorem pRow_next (f : Pr → Int) (b : List Pr) (k : Nat) (h : k < b.length) : ((b.take k).map f ++ List.replicate (b.length - k) 0).set k (f (b.getD k pr0)) = (b.take (k + 1)).map f ++ List.replicate (b.length - (k + 1)) 0 := by
  have e : b.length - k = (b.length - (k + 1)) + 1 := by omega
  have hl : ((b.take k).map f).length = k := by simp; omega
  rw [e, List.replicate_succ, List.set_append_right _ _ (by omega), hl, Nat.sub_self, List.set_cons_zero]
  rw [List.take_succ_eq_append_getElem h, List.map_append, List.append_assoc]
  congr 1
  simp [List.getD_eq_getElem?_getD, List.getElem?_eq_getElem h]
theorem pr_int : (Try.prog.info? 3).map (fun i => (i.zero, i.size, i.bytes)) = some (some (.int .i64 0), 1, 8) := by kernel_rfl
theorem sum_two (B : Nat) (x y : Int) (w : World) (hx : -1000000000000000000 ≤ x ∧ x ≤ 1000000000000000000) (hy : -1000000000000000000 ≤ y ∧ y ≤ 1000000000000000000) (h : TwoAt w B x y) :
    Calls Try.prog 9 #[.slice (some ⟨B, 0, none⟩) 2 2] w fun e w' => e = .returned (.tuple #[.int .i64 (x + y), .nilIface]) ∧ w' = w := by
  have hI : ∀ i, i < [x, y].length → I64 ([x, y].getD i 0) := fun i hi => by
    rcases i with _ | _ | i
    · show I64 x; unfold I64; omega
    · show I64 y; unfold I64; omega
    · simp at hi; omega
  have hc : ∀ i, i < [x, y].length → w.cell? ⟨B, 0 + i, none⟩ = some (.int .i64 ([x, y].getD i 0)) := fun i hi => by
    rcases i with _ | _ | i
    · exact h.c0
    · exact h.c1
    · simp at hi; omega
  have e : ([x, y] : List Int).sum = x + y := by simp
  have hs := sum_run B 0 2 2 [x, y] w rfl (by simp) hI hc
  rw [e] at hs
  unfold sumV sumE at hs
  rw [if_pos (by omega), if_pos (by omega)] at hs
  exact hs

set_option maxHeartbeats 4000000 in
theorem left_any (a a2 : Option Addr) (cap cap2 : Nat) (l : List Pr) (b : List Bl) (cur : ByteArray) (w : World) (hl : IsPr w a l cap) (hlen : l.length ≤ 9223372036854775807) (hb : IsBl w a2 b cap2) (hbl : b.length ≤ 9223372036854775807) :
    Calls Try.prog 4 #[.slice a l.length cap, .slice a2 b.length cap2, .string cur] w (LeftEnd l b cur w) := by
  by_cases c1 : 20 < l.length
  · have e1 : lfE l b cur = 4 := if_pos c1
    unfold LeftEnd
    rw [e1, enE_ne (by decide)]
    have i1 : (20 : Int) < l.length := by omega
    clear e1 hl hb
    go_enter Try.func4, Try.ntmps4
    go_wp2
    go_ret2
    exact ⟨Below.refl _ _, fun _ => rfl, fun h => absurd h (by decide)⟩
  have i1 : ¬ (20 : Int) < l.length := by omega
  have HC : Hid (Calls Try.prog 6 #[.slice a2 b.length cap2] w fun e w' => e = .returned (enE (chk b)) ∧ Below w.heap.size w w') := ldCheck_any a2 cap2 b w hbl hb
  by_cases c2 : chk b ≠ 0
  · have e1 : lfE l b cur = chk b := by unfold lfE; rw [if_neg c1, if_pos c2]
    unfold LeftEnd
    rw [e1, enE_ne c2]
    rw [enE_ne c2] at HC
    clear e1 hl hb
    generalize chk b = z at *
    go_enter Try.func4, Try.ntmps4
    go_wp2_with fail
    refine HC.out.mono ?_
    rintro e w1 ⟨rfl, hb1⟩
    have HB1 : Hid (Below w.heap.size w w1) := hb1
    clear hb1
    go_wp2
    go_ret2
    exact ⟨HB1.out, fun _ => rfl, fun h => absurd h c2⟩
  have c2' := Decidable.of_not_not c2
  rw [c2', enE_zero] at HC
  have HU : Hid (∀ W, Calls Try.prog 7 #[.string cur] W fun e w' => e = .returned (.bool (isCur cur)) ∧ Below W.heap.size W w') := fun W => cur_any cur W
  by_cases c3 : isCur cur = true
  rotate_left
  · have c3' : isCur cur = false := by simpa using c3
    have e1 : lfE l b cur = 2 := by unfold lfE; rw [if_neg c1, if_neg c2, if_neg c3]
    unfold LeftEnd
    rw [e1, enE_ne (by decide)]
    rw [c3'] at HU
    clear e1 hl hb c3 c3' c2 c2'
    go_enter Try.func4, Try.ntmps4
    go_wp2_with fail
    refine HC.out.mono ?_
    rintro e w1 ⟨rfl, hb1⟩
    go_wp2_with fail
    refine (HU.out w1).mono ?_
    rintro e w2 ⟨rfl, hb2⟩
    have HB2 : Hid (Below w.heap.size w w2) := hb1.trans (hb2.mono hb1.size)
    clear hb1 hb2 HC HU
    go_wp2
    go_ret2
    exact ⟨HB2.out, fun _ => rfl, fun h => absurd h (by decide)⟩
  rw [c3] at HU
  have fn := chk_zero.1 c2'
  have e1 : lfE l b cur = 0 := lfE_ok.2 ⟨by omega, fn, c3⟩
  have HEnd : Hid (∀ g w', w.heap.size ≤ g → Below w.heap.size w w' → NRow w' g (l.map (lfV b cur)) → LeftEnd l b cur w (.returned (.tuple #[.slice (some ⟨g, 0, none⟩) l.length l.length, .nilIface])) w') := fun g w' h1 h2 h3 => ⟨h2, fun h => absurd e1 h, fun _ => ⟨g, rfl, h1, h3⟩⟩
  have HBd : Hid (∀ en acc, -1000000000000000000 ≤ getB b en acc cur ∧ getB b en acc cur ≤ 1000000000000000000) := fun en acc => getB_bd fn en acc cur
  have HHad : Hid (∀ (p : Pr) W, Below w.heap.size w W → Calls Try.prog 8 #[.agg p.cells, .slice a2 b.length cap2, .string cur] W fun e w' => e = .returned (.agg #[.int .i64 (getB b p.ea p.one cur), .int .i64 (getB b p.eb p.oth cur)]) ∧ Below W.heap.size W w') := fun p W hW => had_any a2 cap2 p b cur W (by omega) (hb.below hW)
  have HPr : Hid (IsPr w a l cap) := hl
  have l20 : l.length ≤ 20 := by omega
  clear c1 c2 c2' c3 fn e1 hl hb
  have hmk := fun w => run_make_row' (P := Try.prog) 26 3 (.int .i64 0) 8 Try.underlying26 pr_int rfl .i64 .i64 l.length (by omega) (by omega) w
  go_enter Try.func4, Try.ntmps4
  go_wp2_with fail
  refine HC.out.mono ?_
  rintro e w1 ⟨rfl, hb1⟩
  go_wp2_with fail
  refine (HU.out w1).mono ?_
  rintro e w2 ⟨rfl, hb2⟩
  have HB2 : Hid (Below w.heap.size w w2) := hb1.trans (hb2.mono hb1.size)
  clear hb1 hb2 HC HU
  have HB0 : Hid (Below w.heap.size w (w2.alloc (.cells (madeCells #[.int .i64 0] l.length) 3))) := HB2.out.alloc HB2.out.size _
  have HR0 : Hid (NRow (w2.alloc (.cells (madeCells #[.int .i64 0] l.length) 3)) w2.heap.size ((l.take 0).map (lfV b cur) ++ List.replicate (l.length - 0) 0)) := by
    have hrow := nrow_made w2 l.length
    unfold Hid
    rw [List.take_zero]
    exact hrow
  have HGw : Hid (w.heap.size ≤ w2.heap.size) := HB2.out.size
  clear HB2
  go_wp2_with fail
  clear hmk
  generalize w2.heap.size = G at *
  obtain ⟨fw, hfw⟩ : ∃ fw, lfV b cur = fw := ⟨_, rfl⟩
  have HFw : Hid (∀ p : Pr, fw p = getB b p.ea p.one cur + getB b p.eb p.oth cur) := fun p => by rw [← hfw]; rfl
  rw [hfw] at HEnd HR0
  clear hfw
  go_loopw [33] (fun i wr => ∃ k : Nat, k ≤ l.length ∧ i = .int .i64 k ∧ Hid (NRow wr G ((l.take k).map fw ++ List.replicate (l.length - k) 0) ∧ Below w.heap.size w wr)) (fun i _ => l.length - (RowKit.intOf i).toNat)
  case atStart => exact ⟨0, Nat.zero_le _, rfl, HR0.out, HB0.out⟩
  case round =>
    obtain ⟨k, hk, rfl, HR⟩ := hrel
    clear HR0 HB0
    by_cases hlt : k < l.length
    · obtain ⟨bb, off, rfl, hbb, hcc⟩ := HPr.out.some hlt
      have hx := (hcc k hlt).below HR.out.2 hbb
      have i0 : (0 : Int) ≤ k := by omega
      have i3 : (k : Int) < l.length := by omega
      have hsn := pRow_next fw l k hlt
      have hlen : k < ((l.take k).map fw ++ List.replicate (l.length - k) 0).length := by simp; omega
      obtain ⟨x, hxx⟩ : ∃ x, l.getD k pr0 = x := ⟨_, rfl⟩
      rw [hxx] at hx hsn
      have HSn : Hid (((l.take k).map fw ++ List.replicate (l.length - k) 0).set k (fw x) = (l.take (k + 1)).map fw ++ List.replicate (l.length - (k + 1)) 0) := hsn
      clear hxx hcc hsn
      obtain ⟨Z, hZ⟩ : ∃ Z, wr.alloc (.cells x.cells 25) = Z := ⟨_, rfl⟩
      have hbZ : Below wr.heap.size wr Z := by rw [← hZ]; exact (Below.refl _ _).alloc (Nat.le_refl _) _
      have hbt : PrAt Z wr.heap.size 0 x := by rw [← hZ]; exact PrAt.new wr x 25
      have hRZ := HR.out.1.belowS hbZ HR.out.1.ltS
      have hBZ : Below w.heap.size w Z := HR.out.2.trans (hbZ.mono HR.out.2.size)
      have HZ : Hid (wr.alloc (.cells x.cells 25) = Z) := hZ
      have HCx : Hid (Calls Try.prog 8 #[.agg x.cells, .slice a2 b.length cap2, .string cur] Z fun e w' => e = .returned (.agg #[.int .i64 (getB b x.ea x.one cur), .int .i64 (getB b x.eb x.oth cur)]) ∧ Below Z.heap.size Z w') := HHad.out x Z hBZ
      have hf := HFw.out x
      have q1 := HBd.out x.ea x.one
      have q2 := HBd.out x.eb x.oth
      generalize getB b x.ea x.one cur = y0 at *
      generalize getB b x.eb x.oth cur = y1 at *
      have HN : Hid (∀ U, Below Z.heap.size Z U → Calls Try.prog 9 #[.slice (some ⟨U.heap.size, 0, none⟩) 2 2] (U.alloc (.cells #[.int .i64 y0, .int .i64 y1] 38)) (fun e w' => e = .returned (.tuple #[.int .i64 (fw x), .nilIface]) ∧ w' = (U.alloc (.cells #[.int .i64 y0, .int .i64 y1] 38)) ∧ (∃ z, w'.cell? ⟨G, k, none⟩ = some (.int .i64 z)) ∧ w'.frozen? ⟨G, k, none⟩ = false ∧ Hid (NRow (w'.setCell ⟨G, k, none⟩ (.int .i64 (fw x))) G ((l.take (k + 1)).map fw ++ List.replicate (l.length - (k + 1)) 0) ∧ Below w.heap.size w (w'.setCell ⟨G, k, none⟩ (.int .i64 (fw x)))))) := fun U hU => by
        refine (sum_two U.heap.size y0 y1 _ q1 q2 (TwoAt.new U y0 y1)).mono ?_
        rintro e w' ⟨rfl, rfl⟩
        have hRU := (hRZ.belowS hU hRZ.ltS)
        have hRV := hRU.belowS ((Below.refl _ U).alloc (Nat.le_refl _) (.cells #[.int .i64 y0, .int .i64 y1] 38)) hRU.ltS
        have hBU := hBZ.trans (hU.mono hBZ.size)
        have hs := hRV.set k (fw x)
        rw [HSn.out] at hs
        exact ⟨by rw [hf], rfl, ⟨_, hRV.cell (i := k) hlen⟩, hRV.frozen k, hs, (hBU.alloc hBU.size _).setCell (p := ⟨G, k, none⟩) HGw.out _⟩
      clear hZ hbZ hRZ hBZ hf q1 q2 HSn HR HFw HBd HHad
      generalize fw x = z2 at HN
      obtain ⟨x0, x1, x2, x3, x4⟩ := x
      obtain ⟨d0, d1, d2, d3, d4⟩ := hx
      obtain ⟨f0, f1, f2, f3, f4⟩ := hbt
      simp only [Pr.cells, Nat.zero_add] at d0 d1 d2 d3 d4 f0 f1 f2 f3 f4 HCx HZ
      clear hlen
      go_upto_region 12 with fail
      rw [HZ.out]
      clear HZ d0 d1 d2 d3 d4
      go_wp2_with fail
      refine HCx.out.mono ?_
      rintro e w3 ⟨rfl, hb3⟩
      have HN2 : Hid (Calls _ _ _ _ _) := HN.out w3 hb3
      clear HN HCx hb3 f0 f1 f2 f3 f4
      go_wp2_with fail
      refine HN2.out.mono ?_
      rintro e w4 ⟨rfl, hw4, ⟨zz, k4⟩, k5, HN1⟩
      clear HN2 hw4
      go_wp2
      go_roundw
      case rel => exact ⟨k + 1, by omega, by go_num, HN1.out⟩
      case measure => simp [RowKit.intOf]; omega
    · obtain rfl : k = l.length := by omega
      have h1 := HR.out
      rw [List.take_length, Nat.sub_self, List.replicate_zero, List.append_nil] at h1
      have HL : Hid (LeftEnd l b cur w (.returned (.tuple #[.slice (some ⟨G, 0, none⟩) l.length l.length, .nilIface])) wr) := HEnd.out G wr HGw.out h1.2 h1.1
      have i3 : ¬ (l.length : Int) < l.length := by omega
      clear HR HEnd h1 HFw HBd HHad
      go_wp2
      go_ret2
      exact HL.out
end Go.Proofs.Yteoifhnhmjcgmaa

namespace Go.Proofs.Yteoifhnhmjcgmaa
set_option linter.unusedVariables false
set_option linter.unusedSimpArgs false
set_option maxRecDepth 100000
open Go.RowKit Go.Lib

/-- Numbers behind a slice. -/
def HasInts (w : World) (v : Value) (xs : List Int) : Prop := ∃ a cap, v = .slice a xs.length cap ∧ (xs = [] ∨ ∃ g off, a = some ⟨g, off, none⟩ ∧ ∀ k, k < xs.length → w.cell? ⟨g, off + k, none⟩ = some (.int .i64 (xs.getD k 0)))

theorem hasInts_nil (w : World) : HasInts w (.slice none 0 0) [] := ⟨none, 0, rfl, .inl rfl⟩

--@if{quarterday/daysame.Ints}
set_option maxHeartbeats 1000000 in
theorem sameInts_any (v1 v2 : Value) (xs : List Int) (w : World) (hlen : xs.length ≤ 1000) (h1 : HasInts w v1 xs) (h2 : HasInts w v2 xs) :
    Calls Try.prog 5 #[v1, v2] w fun e w' => e = .returned (.bool true) ∧ Below w.heap.size w w' := by
  obtain ⟨a1, c1, rfl, h1⟩ := h1
  obtain ⟨a2, c2, rfl, h2⟩ := h2
  have Hlen : (xs.length : Int) ≤ 1000 := by omega
  have H1 : Hid (xs = [] ∨ _) := h1
  have H2 : Hid (xs = [] ∨ _) := h2
  clear h1 h2
  go_enter Try.func5, Try.ntmps5
  go_wp2
  go_loopw [5] (fun i wr => ∃ k : Nat, k ≤ xs.length ∧ i = .int .i64 k ∧ ∃ n, wr = w.drewN n) (fun i _ => xs.length - (RowKit.intOf i).toNat)
  case atStart => exact ⟨0, Nat.zero_le _, rfl, 0, rfl⟩
  case round =>
    obtain ⟨k, hk, rfl, nd, rfl⟩ := hrel
    by_cases hlt : k < xs.length
    · rcases H1.out with h | ⟨g1, o1, rfl, q1⟩
      · rw [h] at hlt; simp at hlt
      rcases H2.out with h | ⟨g2, o2, rfl, q2⟩
      · rw [h] at hlt; simp at hlt
      have d1 := q1 k hlt
      have d2 := q2 k hlt
      clear q1 q2 H1 H2
      generalize xs.getD k 0 = x at *
      have i0 : (0 : Int) ≤ k := by omega
      have i1 : (k : Int) < xs.length := by omega
      go_wp2_with fail
      go_quiet (fail)
      go_wp2
      go_roundw
      case rel => exact ⟨k + 1, by omega, by go_num, _, rfl⟩
      case measure => simp [RowKit.intOf]; omega
    · have hk2 : k = xs.length := by omega
      subst hk2
      go_wp2
      go_ret
      exact ⟨rfl, ch_drewN (Below.refl _ _) _⟩
--@fi
end Go.Proofs.Yteoifhnhmjcgmaa

namespace Go.Proofs.Yteoifhnhmjcgmaa
open Go
set_option linter.unusedVariables false

section
variable {P : Program} {ops : Array Oper} {Q : Exit → Act → World → Prop} {md : Region.Mode} {T : World → Prop} {g : Nat}

/-- Whatever order is picked from here on, and T holds behind every operation till operation g has come up. -/
def wpAnyL (P : Program) (md : Region.Mode) (ops : Array Oper) (Q : Exit → Act → World → Prop) (g : Nat) (T : World → Prop) : Nat → Array Bool → Act → World → Prop
  | 0, listed, a, w => Region.ready md ops listed = [] ∧ Q .normal a w
  | fuel + 1, listed, a, w =>
    (Region.ready md ops listed = [] → Q .normal a w) ∧
    ∀ i ∈ Region.ready md ops listed, wpOp P ops Q i (fun a' w' => ((listed.setIfInBounds i true).getD g true = false → T w') ∧ wpAnyL P md ops Q g T fuel (listed.setIfInBounds i true) a' w') a w

theorem any_of_L : ∀ (fuel : Nat) (listed : Array Bool) (a : Act) (w : World), wpAnyL P md ops Q g T fuel listed a w → wpAny P md ops Q fuel listed a w
  | 0, _, _, _, h => h
  | fuel + 1, _, _, _, h => ⟨h.1, fun i hi => wpOp_mono (fun a' w' h' => any_of_L fuel _ a' w' h'.2) (h.2 i hi)⟩

/-- Once g has come up, nothing more is asked of worlds. -/
theorem L_of_any : ∀ (fuel : Nat) (listed : Array Bool) (a : Act) (w : World), listed.getD g true = true → wpAny P md ops Q fuel listed a w → wpAnyL P md ops Q g T fuel listed a w
  | 0, _, _, _, _, h => h
  | fuel + 1, listed, _, _, hg, h => ⟨h.1, fun i hi => wpOp_mono (fun a' w' h' => by
      have hg' : (listed.setIfInBounds i true).getD g true = true := by
        by_cases e : i = g
        · subst e
          by_cases hs : i < listed.size
          · simp [hs]
          · simp [hs]
        · rw [getD_set_ne true e]; exact hg
      exact ⟨(fun h0 => by rw [hg'] at h0; cases h0), L_of_any fuel _ a' w' hg' h'⟩) (h.2 i hi)⟩

theorem L_first {i : Nat} {oi og : Oper} {v : Value} (hi : ops[i]? = some oi) (hgo : ops[g]? = some og) (hw : ∃ e ∈ og.after, Region.binds md e = true ∧ e.on = i) (hgi : g ≠ i)
    (hsel : ∀ (j : Nat) (o : Oper) cs b, ops[j]? = some o → o.op ≠ .select cs b) (hQ : ∀ c a w, Q (.panic c) (a.put oi.dst v) w → Q (.panic c) a w) :
    ∀ (fuel : Nat) (listed : Array Bool) (a : Act) (w : World),
      (∀ j oj, ops[j]? = some oj → j ≠ i → listed.getD j true = false → (∀ e ∈ oj.after, Region.binds md e = true → e.on ≠ i) → oi.apart ops oj = true) →
      i ∈ Region.ready md ops listed → listed.getD g true = false → YieldsIf P ops T oi v a → T w →
      wpAnyL P md ops Q g T fuel (listed.setIfInBounds i true) (a.put oi.dst v) w → wpAnyL P md ops Q g T (fuel + 1) listed a w := by
  intro fuel
  induction fuel with
  | zero =>
    intro listed a w _ hr _ hy hT H
    refine ⟨fun h => (by rw [h] at hr; cases hr), fun j hj => ?_⟩
    by_cases hji : j = i
    · subst hji; exact hy.wpOp hi hT ⟨fun _ => hT, H⟩
    · have := ready_mono hj hji
      rw [H.1] at this
      cases this
  | succ fuel ih =>
    intro listed a w hfree hr hlg hy hT H
    refine ⟨fun h => (by rw [h] at hr; cases hr), fun j hj => ?_⟩
    by_cases hji : j = i
    · subst hji; exact hy.wpOp hi hT ⟨fun _ => hT, H⟩
    · have h1 := H.2 j (ready_mono hj hji)
      obtain ⟨hjun, oj, hoj, hall⟩ := mem_ready.1 hj
      have hnot : ∀ e ∈ oj.after, Region.binds md e = true → e.on ≠ i := fun e he hb heq => by
        have h1 := hall e he hb
        have h0 := (mem_ready.1 hr).1
        rw [heq] at h1
        rcases Nat.lt_or_ge i listed.size with h' | h'
        · simp [h'] at h0 h1; rw [h0] at h1; cases h1
        · simp [Array.getElem?_eq_none h'] at h1
      have hjg : j ≠ g := by
        rintro rfl
        obtain ⟨e, he, hb, heq⟩ := hw
        rw [hgo] at hoj
        cases hoj
        exact hnot e he hb heq
      have h2 := wpOp_putIf hoj (hfree j oj hoj hji hjun hnot) (fun cs b => hsel i oi cs b hi) (fun cs b => hsel j oj cs b hoj) hQ hy h1
      have hfree' : ∀ k ok, ops[k]? = some ok → k ≠ i → (listed.setIfInBounds j true).getD k true = false →
          (∀ e ∈ ok.after, Region.binds md e = true → e.on ≠ i) → oi.apart ops ok = true := fun k ok hk hki hun hno => by
        refine hfree k ok hk hki ?_ hno
        by_cases hjk : j = k
        · subst hjk; exact hjun
        · rw [getD_set_ne true hjk] at hun; exact hun
      have hlg' : (listed.setIfInBounds j true).getD g true = false := by rw [getD_set_ne true hjg]; exact hlg
      refine wpOp_mono (fun a' w' h3 => ?_) h2
      have hT' : T w' := h3.2.1 (by rw [getD_set_ne true hjg, getD_set_ne true (Ne.symm hgi)]; exact hlg)
      refine ⟨fun _ => hT', ih (listed.setIfInBounds j true) a' w' hfree' (ready_mono hr (Ne.symm hji)) hlg' h3.1 hT' ?_⟩
      rw [Array.setIfInBounds_comm _ _ hji]
      exact h3.2.2

/-- The named operation itself. -/
theorem L_go {fuel : Nat} {listed : Array Bool} {a : Act} {w : World} (hr : Region.ready md ops listed = [g]) (hgs : (listed.setIfInBounds g true).getD g true = true)
    (h : wpOp P ops Q g (wpAny P md ops Q fuel (listed.setIfInBounds g true)) a w) : wpAnyL P md ops Q g T (fuel + 1) listed a w := by
  refine ⟨(fun h0 => by rw [hr] at h0; simp at h0), fun i hi => ?_⟩
  rw [hr] at hi
  obtain rfl := List.mem_singleton.1 hi
  exact wpOp_mono (fun a' w' h' => ⟨(fun h0 => by rw [hgs] at h0; cases h0), L_of_any fuel _ a' w' hgs h'⟩) h

/-- The only one that may come up, and it yields its value. -/
theorem L_take1 {i : Nat} {oi : Oper} {v : Value} {fuel : Nat} {listed : Array Bool} {a : Act} {w : World} (hi : ops[i]? = some oi) (hr : Region.ready md ops listed = [i]) (hy : YieldsIf P ops T oi v a) (hT : T w)
    (h : wpAnyL P md ops Q g T fuel (listed.setIfInBounds i true) (a.put oi.dst v) w) : wpAnyL P md ops Q g T (fuel + 1) listed a w := by
  refine ⟨(fun h0 => by rw [hr] at h0; simp at h0), fun j hj => ?_⟩
  rw [hr] at hj
  obtain rfl := List.mem_singleton.1 hj
  exact hy.wpOp hi hT ⟨fun _ => hT, h⟩

/-- The only one that may come up. -/
theorem any_one {i fuel : Nat} {listed : Array Bool} {a : Act} {w : World} (hr : Region.ready md ops listed = [i])
    (h : wpOp P ops Q i (wpAny P md ops Q fuel (listed.setIfInBounds i true)) a w) : wpAny P md ops Q (fuel + 1) listed a w := by
  refine ⟨(fun h0 => by rw [hr] at h0; simp at h0), fun j hj => ?_⟩
  rw [hr] at hj
  obtain rfl := List.mem_singleton.1 hj
  exact h

/-- The move of a walk. -/
theorem L_take {i : Nat} {oi og : Oper} {v : Value} {fuel : Nat} {listed : Array Bool} {a : Act} {w : World} (hi : ops[i]? = some oi) (hgo : ops[g]? = some og)
    (hw : (og.after.any fun e => Region.binds md e && e.on == i) = true) (hgi : g ≠ i)
    (hs : Region.noSelect ops = true) (hf : Region.free md ops listed i = true) (hr : (Region.ready md ops listed).contains i = true) (hlg : listed.getD g true = false)
    (hQ : ∀ c a w, Q (.panic c) (a.put oi.dst v) w → Q (.panic c) a w) (hy : YieldsIf P ops T oi v a) (hT : T w)
    (h : wpAnyL P md ops Q g T fuel (listed.setIfInBounds i true) (a.put oi.dst v) w) : wpAnyL P md ops Q g T (fuel + 1) listed a w :=
  L_first hi hgo (by
    rw [Array.any_eq_true] at hw
    obtain ⟨k, hk, he⟩ := hw
    simp only [Bool.and_eq_true, beq_iff_eq] at he
    exact ⟨og.after[k], Array.getElem_mem hk, he.1, he.2⟩) hgi (Region.noSelect_spec hs) hQ fuel listed a w (Region.free_spec hi hf) (by simpa using hr) hlg hy hT h
end
end Go.Proofs.Yteoifhnhmjcgmaa

namespace Go.Proofs.Yteoifhnhmjcgmaa
open Go
set_option linter.unusedVariables false

section
variable {P : Program} {ops : Array Oper} {Q : Exit → Act → World → Prop} {md : Region.Mode} {T : World → Prop} {g m : Nat}

theorem L_first2 {i : Nat} {oi om og : Oper} {v : Value} (hi : ops[i]? = some oi) (hmo : ops[m]? = some om) (hgo : ops[g]? = some og) (hwm : ∃ e ∈ om.after, Region.binds md e = true ∧ e.on = i) (hwg : ∃ e ∈ og.after, Region.binds md e = true ∧ e.on = m) (hgi : g ≠ i)
    (hsel : ∀ (j : Nat) (o : Oper) cs b, ops[j]? = some o → o.op ≠ .select cs b) (hQ : ∀ c a w, Q (.panic c) (a.put oi.dst v) w → Q (.panic c) a w) :
    ∀ (fuel : Nat) (listed : Array Bool) (a : Act) (w : World),
      (∀ j oj, ops[j]? = some oj → j ≠ i → listed.getD j true = false → (∀ e ∈ oj.after, Region.binds md e = true → e.on ≠ i) → oi.apart ops oj = true) →
      i ∈ Region.ready md ops listed → listed.getD g true = false → listed.getD m true = false → YieldsIf P ops T oi v a → T w →
      wpAnyL P md ops Q g T fuel (listed.setIfInBounds i true) (a.put oi.dst v) w → wpAnyL P md ops Q g T (fuel + 1) listed a w := by
  have unl : ∀ (listed : Array Bool) (k : Nat), listed.getD k true = false → listed[k]? ≠ some true := fun listed k h h' => by
    rcases Nat.lt_or_ge k listed.size with h1 | h1
    · simp [h1] at h h'; rw [h] at h'; cases h'
    · simp [Array.getElem?_eq_none h1] at h'
  intro fuel
  induction fuel with
  | zero =>
    intro listed a w _ hr _ _ hy hT H
    refine ⟨fun h => (by rw [h] at hr; cases hr), fun j hj => ?_⟩
    by_cases hji : j = i
    · subst hji; exact hy.wpOp hi hT ⟨fun _ => hT, H⟩
    · have := ready_mono hj hji
      rw [H.1] at this
      cases this
  | succ fuel ih =>
    intro listed a w hfree hr hlg hlm hy hT H
    refine ⟨fun h => (by rw [h] at hr; cases hr), fun j hj => ?_⟩
    by_cases hji : j = i
    · subst hji; exact hy.wpOp hi hT ⟨fun _ => hT, H⟩
    · have h1 := H.2 j (ready_mono hj hji)
      obtain ⟨hjun, oj, hoj, hall⟩ := mem_ready.1 hj
      have hnot : ∀ e ∈ oj.after, Region.binds md e = true → e.on ≠ i := fun e he hb heq => by
        have h1 := hall e he hb
        have h0 := (mem_ready.1 hr).1
        rw [heq] at h1
        rcases Nat.lt_or_ge i listed.size with h' | h'
        · simp [h'] at h0 h1; rw [h0] at h1; cases h1
        · simp [Array.getElem?_eq_none h'] at h1
      have hjg : j ≠ g := by
        rintro rfl
        obtain ⟨e, he, hb, heq⟩ := hwg
        rw [hgo] at hoj
        cases hoj
        have h1 := hall e he hb
        rw [heq] at h1
        rcases Nat.lt_or_ge m listed.size with h' | h'
        · simp [h'] at hlm h1; rw [hlm] at h1; cases h1
        · simp [Array.getElem?_eq_none h'] at h1
      have hjm : j ≠ m := by
        rintro rfl
        obtain ⟨e, he, hb, heq⟩ := hwm
        rw [hmo] at hoj
        cases hoj
        exact hnot e he hb heq
      have h2 := wpOp_putIf hoj (hfree j oj hoj hji hjun hnot) (fun cs b => hsel i oi cs b hi) (fun cs b => hsel j oj cs b hoj) hQ hy h1
      have hfree' : ∀ k ok, ops[k]? = some ok → k ≠ i → (listed.setIfInBounds j true).getD k true = false →
          (∀ e ∈ ok.after, Region.binds md e = true → e.on ≠ i) → oi.apart ops ok = true := fun k ok hk hki hun hno => by
        refine hfree k ok hk hki ?_ hno
        by_cases hjk : j = k
        · subst hjk; exact hjun
        · rw [getD_set_ne true hjk] at hun; exact hun
      have hlg' : (listed.setIfInBounds j true).getD g true = false := by rw [getD_set_ne true hjg]; exact hlg
      have hlm' : (listed.setIfInBounds j true).getD m true = false := by rw [getD_set_ne true hjm]; exact hlm
      refine wpOp_mono (fun a' w' h3 => ?_) h2
      have hT' : T w' := h3.2.1 (by rw [getD_set_ne true hjg, getD_set_ne true (Ne.symm hgi)]; exact hlg)
      refine ⟨fun _ => hT', ih (listed.setIfInBounds j true) a' w' hfree' (ready_mono hr (Ne.symm hji)) hlg' hlm' h3.1 hT' ?_⟩
      rw [Array.setIfInBounds_comm _ _ hji]
      exact h3.2.2

/-- The move of a walk. -/
theorem L_take2 {i : Nat} {oi om og : Oper} {v : Value} {fuel : Nat} {listed : Array Bool} {a : Act} {w : World} (hi : ops[i]? = some oi) (hmo : ops[m]? = some om) (hgo : ops[g]? = some og)
    (hwm : (om.after.any fun e => Region.binds md e && e.on == i) = true) (hwg : (og.after.any fun e => Region.binds md e && e.on == m) = true) (hgi : g ≠ i)
    (hs : Region.noSelect ops = true) (hf : Region.free md ops listed i = true) (hr : (Region.ready md ops listed).contains i = true) (hlg : listed.getD g true = false) (hlm : listed.getD m true = false)
    (hQ : ∀ c a w, Q (.panic c) (a.put oi.dst v) w → Q (.panic c) a w) (hy : YieldsIf P ops T oi v a) (hT : T w)
    (h : wpAnyL P md ops Q g T fuel (listed.setIfInBounds i true) (a.put oi.dst v) w) : wpAnyL P md ops Q g T (fuel + 1) listed a w := by
  have any : ∀ (o : Oper) (k : Nat), (o.after.any fun e => Region.binds md e && e.on == k) = true → ∃ e ∈ o.after, Region.binds md e = true ∧ e.on = k := fun o k hw => by
    rw [Array.any_eq_true] at hw
    obtain ⟨q, hq, he⟩ := hw
    simp only [Bool.and_eq_true, beq_iff_eq] at he
    exact ⟨o.after[q], Array.getElem_mem hq, he.1, he.2⟩
  exact L_first2 hi hmo hgo (any om i hwm) (any og m hwg) hgi (Region.noSelect_spec hs) hQ fuel listed a w (Region.free_spec hi hf) (by simpa using hr) hlg hlm hy hT h

/-- The only one that may come up: what it leaves meets the condition. -/
theorem L_one {i fuel : Nat} {listed : Array Bool} {a : Act} {w : World} (hr : Region.ready md ops listed = [i])
    (h : wpOp P ops Q i (fun a' w' => T w' ∧ wpAnyL P md ops Q g T fuel (listed.setIfInBounds i true) a' w') a w) : wpAnyL P md ops Q g T (fuel + 1) listed a w := by
  refine ⟨(fun h0 => by rw [hr] at h0; simp at h0), fun j hj => ?_⟩
  rw [hr] at hj
  obtain rfl := List.mem_singleton.1 hj
  exact wpOp_mono (fun a' w' h' => ⟨fun _ => h'.1, h'.2⟩) h
/-- One of two may come up: whichever it is, what it leaves meets the condition. -/
theorem L_two {i j fuel : Nat} {listed : Array Bool} {a : Act} {w : World} (hr : Region.ready md ops listed = [i, j])
    (h1 : wpOp P ops Q i (fun a' w' => T w' ∧ wpAnyL P md ops Q g T fuel (listed.setIfInBounds i true) a' w') a w)
    (h2 : wpOp P ops Q j (fun a' w' => T w' ∧ wpAnyL P md ops Q g T fuel (listed.setIfInBounds j true) a' w') a w) : wpAnyL P md ops Q g T (fuel + 1) listed a w := by
  refine ⟨(fun h0 => by rw [hr] at h0; simp at h0), fun k hk => ?_⟩
  rw [hr] at hk
  rcases List.mem_cons.1 hk with rfl | hk
  · exact wpOp_mono (fun a' w' h' => ⟨fun _ => h'.1, h'.2⟩) h1
  · obtain rfl := List.mem_singleton.1 hk
    exact wpOp_mono (fun a' w' h' => ⟨fun _ => h'.1, h'.2⟩) h2
end
end Go.Proofs.Yteoifhnhmjcgmaa

namespace Go.Proofs.Yteoifhnhmjcgmaa
open Go
set_option linter.unusedVariables false

section
variable {P : Program} {ops : Array Oper} {Q : Exit → Act → World → Prop} {md : Region.Mode} {T : World → Prop} {g : Nat}

theorem L_firstC {i : Nat} {oi : Oper} {v : Value} {C : List Nat} (hi : ops[i]? = some oi) (hC : ∀ k ∈ C, ∃ ok, ops[k]? = some ok ∧ ∃ e ∈ ok.after, Region.binds md e = true ∧ (e.on = i ∨ e.on ∈ C)) (hgC : g ∈ C) (hgi : g ≠ i)
    (hsel : ∀ (j : Nat) (o : Oper) cs b, ops[j]? = some o → o.op ≠ .select cs b) (hQ : ∀ c a w, Q (.panic c) (a.put oi.dst v) w → Q (.panic c) a w) :
    ∀ (fuel : Nat) (listed : Array Bool) (a : Act) (w : World),
      (∀ j oj, ops[j]? = some oj → j ≠ i → listed.getD j true = false → (∀ e ∈ oj.after, Region.binds md e = true → e.on ≠ i) → oi.apart ops oj = true) →
      i ∈ Region.ready md ops listed → (∀ k ∈ C, listed.getD k true = false) → YieldsIf P ops T oi v a → T w →
      wpAnyL P md ops Q g T fuel (listed.setIfInBounds i true) (a.put oi.dst v) w → wpAnyL P md ops Q g T (fuel + 1) listed a w := by
  intro fuel
  induction fuel with
  | zero =>
    intro listed a w _ hr _ hy hT H
    refine ⟨fun h => (by rw [h] at hr; cases hr), fun j hj => ?_⟩
    by_cases hji : j = i
    · subst hji; exact hy.wpOp hi hT ⟨fun _ => hT, H⟩
    · have := ready_mono hj hji
      rw [H.1] at this
      cases this
  | succ fuel ih =>
    intro listed a w hfree hr hlC hy hT H
    refine ⟨fun h => (by rw [h] at hr; cases hr), fun j hj => ?_⟩
    by_cases hji : j = i
    · subst hji; exact hy.wpOp hi hT ⟨fun _ => hT, H⟩
    · have h1 := H.2 j (ready_mono hj hji)
      obtain ⟨hjun, oj, hoj, hall⟩ := mem_ready.1 hj
      have hnot : ∀ e ∈ oj.after, Region.binds md e = true → e.on ≠ i := fun e he hb heq => by
        have h1 := hall e he hb
        have h0 := (mem_ready.1 hr).1
        rw [heq] at h1
        rcases Nat.lt_or_ge i listed.size with h' | h'
        · simp [h'] at h0 h1; rw [h0] at h1; cases h1
        · simp [Array.getElem?_eq_none h'] at h1
      have hjC : ∀ k ∈ C, j ≠ k := fun k hk hjk => by
        obtain ⟨ok, hok, e, he, hb, ho⟩ := hC k hk
        rw [← hjk, hoj] at hok
        cases hok
        rcases ho with ho | ho
        · exact hnot e he hb ho
        · have h1 := hall e he hb
          have hl := hlC _ ho
          rcases Nat.lt_or_ge e.on listed.size with h' | h'
          · simp [h'] at hl h1; rw [hl] at h1; cases h1
          · simp [Array.getElem?_eq_none h'] at h1
      have h2 := wpOp_putIf hoj (hfree j oj hoj hji hjun hnot) (fun cs b => hsel i oi cs b hi) (fun cs b => hsel j oj cs b hoj) hQ hy h1
      have hfree' : ∀ k ok, ops[k]? = some ok → k ≠ i → (listed.setIfInBounds j true).getD k true = false →
          (∀ e ∈ ok.after, Region.binds md e = true → e.on ≠ i) → oi.apart ops ok = true := fun k ok hk hki hun hno => by
        refine hfree k ok hk hki ?_ hno
        by_cases hjk : j = k
        · subst hjk; exact hjun
        · rw [getD_set_ne true hjk] at hun; exact hun
      have hlC' : ∀ k ∈ C, (listed.setIfInBounds j true).getD k true = false := fun k hk => by rw [getD_set_ne true (hjC k hk)]; exact hlC k hk
      refine wpOp_mono (fun a' w' h3 => ?_) h2
      have hT' : T w' := h3.2.1 (by rw [getD_set_ne true (hjC g hgC), getD_set_ne true (Ne.symm hgi)]; exact hlC g hgC)
      refine ⟨fun _ => hT', ih (listed.setIfInBounds j true) a' w' hfree' (ready_mono hr (Ne.symm hji)) hlC' h3.1 hT' ?_⟩
      rw [Array.setIfInBounds_comm _ _ hji]
      exact h3.2.2

/-- One of a chain waits for the operation, or for another of the chain. -/
def waits (md : Region.Mode) (ops : Array Oper) (i : Nat) (C : List Nat) (k : Nat) : Bool := match ops[k]? with
  | some ok => ok.after.any fun e => Region.binds md e && (e.on == i || C.contains e.on)
  | none => false
/-- The move of a walk. -/
theorem L_takeC (C : List Nat) {i : Nat} {oi : Oper} {v : Value} {fuel : Nat} {listed : Array Bool} {a : Act} {w : World} (hi : ops[i]? = some oi)
    (hC : C.all (waits md ops i C) = true) (hgC : C.contains g = true) (hgi : g ≠ i)
    (hs : Region.noSelect ops = true) (hf : Region.free md ops listed i = true) (hr : (Region.ready md ops listed).contains i = true) (hl : C.all (fun k => !(listed.getD k true)) = true)
    (hQ : ∀ c a w, Q (.panic c) (a.put oi.dst v) w → Q (.panic c) a w) (hy : YieldsIf P ops T oi v a) (hT : T w)
    (h : wpAnyL P md ops Q g T fuel (listed.setIfInBounds i true) (a.put oi.dst v) w) : wpAnyL P md ops Q g T (fuel + 1) listed a w := by
  refine L_firstC hi (fun k hk => ?_) (by simpa using hgC) hgi (Region.noSelect_spec hs) hQ fuel listed a w (Region.free_spec hi hf) (by simpa using hr) (fun k hk => ?_) hy hT h
  · have := List.all_eq_true.1 hC k hk
    unfold waits at this
    split at this
    · rename_i ok hok
      rw [Array.any_eq_true] at this
      obtain ⟨q, hq, he⟩ := this
      simp only [Bool.and_eq_true, Bool.or_eq_true, beq_iff_eq, List.contains_iff_mem] at he
      exact ⟨ok, hok, ok.after[q], Array.getElem_mem hq, he.1, he.2⟩
    · cases this
  · have := List.all_eq_true.1 hl k hk
    simpa using this
end
end Go.Proofs.Yteoifhnhmjcgmaa

namespace Go.Proofs.Yteoifhnhmjcgmaa
open Go
set_option linter.unusedVariables false

section
variable {P : Program} {ops : Array Oper} {Q : Exit → Act → World → Prop} {md : Region.Mode} {T : World → Prop} {g : Nat}

theorem L_firstP {i : Nat} {oi : Oper} {v : Value} (hi : ops[i]? = some oi) (hgi : g ≠ i)
    (hsel : ∀ (j : Nat) (o : Oper) cs b, ops[j]? = some o → o.op ≠ .select cs b) (hQ : ∀ c a w, Q (.panic c) (a.put oi.dst v) w → Q (.panic c) a w) :
    ∀ (fuel : Nat) (listed : Array Bool) (a : Act) (w : World),
      (∀ j oj, ops[j]? = some oj → j ≠ i → listed.getD j true = false → (∀ e ∈ oj.after, Region.binds md e = true → e.on ≠ i) → oi.apart ops oj = true) →
      i ∈ Region.ready md ops listed → YieldsIf P ops (fun _ => True) oi v a → (listed.getD g true = false → T w) →
      wpAnyL P md ops Q g T fuel (listed.setIfInBounds i true) (a.put oi.dst v) w → wpAnyL P md ops Q g T (fuel + 1) listed a w := by
  have hset : ∀ listed : Array Bool, (listed.setIfInBounds i true).getD g true = listed.getD g true := fun listed => getD_set_ne true (Ne.symm hgi)
  intro fuel
  induction fuel with
  | zero =>
    intro listed a w _ hr hy hT H
    refine ⟨fun h => (by rw [h] at hr; cases hr), fun j hj => ?_⟩
    by_cases hji : j = i
    · subst hji; exact hy.wpOp hi trivial ⟨fun h => hT (by rw [← hset]; exact h), H⟩
    · have := ready_mono hj hji
      rw [H.1] at this
      cases this
  | succ fuel ih =>
    intro listed a w hfree hr hy hT H
    refine ⟨fun h => (by rw [h] at hr; cases hr), fun j hj => ?_⟩
    by_cases hji : j = i
    · subst hji; exact hy.wpOp hi trivial ⟨fun h => hT (by rw [← hset]; exact h), H⟩
    · have h1 := H.2 j (ready_mono hj hji)
      obtain ⟨hjun, oj, hoj, hall⟩ := mem_ready.1 hj
      have hnot : ∀ e ∈ oj.after, Region.binds md e = true → e.on ≠ i := fun e he hb heq => by
        have h1 := hall e he hb
        have h0 := (mem_ready.1 hr).1
        rw [heq] at h1
        rcases Nat.lt_or_ge i listed.size with h' | h'
        · simp [h'] at h0 h1; rw [h0] at h1; cases h1
        · simp [Array.getElem?_eq_none h'] at h1
      have h2 := wpOp_putIf hoj (hfree j oj hoj hji hjun hnot) (fun cs b => hsel i oi cs b hi) (fun cs b => hsel j oj cs b hoj) hQ hy h1
      have hfree' : ∀ k ok, ops[k]? = some ok → k ≠ i → (listed.setIfInBounds j true).getD k true = false →
          (∀ e ∈ ok.after, Region.binds md e = true → e.on ≠ i) → oi.apart ops ok = true := fun k ok hk hki hun hno => by
        refine hfree k ok hk hki ?_ hno
        by_cases hjk : j = k
        · subst hjk; exact hjun
        · rw [getD_set_ne true hjk] at hun; exact hun
      refine wpOp_mono (fun a' w' h3 => ?_) h2
      have hT' : (listed.setIfInBounds j true).getD g true = false → T w' := fun hg => h3.2.1 (by
        rw [Array.setIfInBounds_comm _ _ (Ne.symm hji), hset]
        exact hg)
      refine ⟨hT', ih (listed.setIfInBounds j true) a' w' hfree' (ready_mono hr (Ne.symm hji)) h3.1 hT' ?_⟩
      rw [Array.setIfInBounds_comm _ _ hji]
      exact h3.2.2

/-- The move of a walk. -/
theorem L_takeP {i : Nat} {oi : Oper} {v : Value} {fuel : Nat} {listed : Array Bool} {a : Act} {w : World} (hi : ops[i]? = some oi) (hgi : g ≠ i)
    (hs : Region.noSelect ops = true) (hf : Region.free md ops listed i = true) (hr : (Region.ready md ops listed).contains i = true)
    (hQ : ∀ c a w, Q (.panic c) (a.put oi.dst v) w → Q (.panic c) a w) (hy : YieldsIf P ops (fun _ => True) oi v a) (hT : T w)
    (h : wpAnyL P md ops Q g T fuel (listed.setIfInBounds i true) (a.put oi.dst v) w) : wpAnyL P md ops Q g T (fuel + 1) listed a w :=
  L_firstP hi hgi (Region.noSelect_spec hs) hQ fuel listed a w (Region.free_spec hi hf) (by simpa using hr) hy (fun _ => hT) h
end
end Go.Proofs.Yteoifhnhmjcgmaa
