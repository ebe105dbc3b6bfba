/-
  Two logs on one disk are two, outright: for every list of sizes and every number the call of daylaw5.LogParts returns true, and its arguments read as they did. No condition.
-/
import Derived.Test.YtamilceeffocpaaZq12
import Derived.Test.YtamilceeffocpaaRows
import Derived.Test.YtamilceeffocpaaZq0
import Derived.WalkKit
import Derived.SizedLaws
import Derived.ProofKit
import Derived.OpenShut
import Derived.ShutString
import Derived.ChangeOld
import Derived.Below
namespace Go.Proofs.Ytamilceeffocpaa
set_option linter.unusedVariables false
set_option linter.unusedSimpArgs false
set_option maxRecDepth 100000
open Go.RowKit Go.Lib

/-- The disk with both areas formatted. -/
def fm1 : Dk := hdD (dk0 60) 0 30 1
def fm2 : Dk := hdD fm1 30 30 1
theorem rep_at (i : Nat) : (List.replicate 60 bk0).getD i bk0 = bk0 := by
  rw [List.getD_eq_getElem?_getD, List.getElem?_replicate]
  split <;> rfl
theorem fm1_now (i : Nat) : fm1.now.getD i bk0 = if 0 = i ∧ 0 < 60 then ⟨padB (lhB 30 1), false⟩ else bk0 := by
  show ((List.replicate 60 bk0).set 0 _).getD i bk0 = _
  rw [getD_set_bk, rep_at, List.length_replicate]
theorem fm2_now (i : Nat) : fm2.now.getD i bk0 = if 30 = i ∧ 30 < 60 then ⟨padB (lhB 30 1), false⟩ else if 0 = i ∧ 0 < 60 then ⟨padB (lhB 30 1), false⟩ else bk0 := by
  show (((List.replicate 60 bk0).set 0 _).set 30 _).getD i bk0 = _
  rw [getD_set_bk, getD_set_bk, rep_at, List.length_set, List.length_replicate]
theorem fm2_none (fr : Nat) (h : fr = 0 ∨ fr = 30) : ∀ a, imgF fr 30 fm2 a = none := by
  intro a
  unfold imgF
  split
  · rename_i h1
    rw [fm2_now, if_neg (by omega), if_neg (by omega), pcOf_zero]
  · rfl
theorem fm2_lg (fr : Nat) (h : fr = 0 ∨ fr = 30) : LgI fr 30 1 60 (imgF fr 30 fm2) [] (whF 30 1 (imgF fr 30 fm2)) [] [] [] ⟨0, newestF 1 (allF 30 (imgF fr 30 fm2)) + 1, 0, 0, 0, true, false, false⟩ (whF 30 1 (imgF fr 30 fm2)) fm2 := by
  obtain ⟨h1, h2, h3⟩ := ri_none 30 1 _ (fm2_none fr h)
  refine LgI.start (rs0 := []) h1 (fun a _ _ => fm_flush _ _) ⟨?_, DN.flush _, ChT.flush _⟩ (by omega) (fun r hr => by simp at hr) (by simp [enc]) (by omega) (by omega) (by omega) (fun a q e => by rw [fm2_none fr h] at e; cases e) ?_
  · show (((List.replicate 60 bk0).set 0 _).set 30 _).length = 60
    rw [List.length_set, List.length_set, List.length_replicate]
  · rw [h3]
    show 0 + 1 < 65536
    omega
theorem fm2_rs {fr : Nat} (h : fr = 0 ∨ fr = 30) {rs : List (List UInt8)} (e : rs = recs (catF 30 1 (imgF fr 30 fm2))) : rs = [] := by
  obtain ⟨h1, h2, h3⟩ := ri_none 30 1 _ (fm2_none fr h)
  rw [e, h2]
  rfl
/-- Both are opened. -/
theorem Two.start {w W1 W2 W3 : World} {p nb sb : Nat} {cv : Value} {la lb : Nat} {ta wa tb wb : Value} {ra rb : List (List UInt8)} (oA : Opened w W1 W2 p nb sb cv 60 fm2 la 0 30 1 ta wa ra) (oB : Opened w W2 W3 p nb sb cv 60 fm2 lb 30 30 1 tb wb rb) (hs : w.heap.size ≤ W1.heap.size) :
    ∃ sa ss ha hb, Two w W3 p nb sb cv fm2 la lb 0 30 ta wa tb wb sa ss [] [] [] [] ha hb 0 := by
  have e1 := fm2_rs (.inl rfl) oA.rc
  have e2 := fm2_rs (.inr rfl) oB.rc
  subst e1 e2
  have a := oA.lgAt hs
  have b := oB.lgAt (Nat.le_trans hs oA.bel.size)
  refine ⟨_, _, _, _, a.below oB.bel, b, ⟨_, _, _, fm2_lg 0 (.inl rfl)⟩, ⟨_, _, _, fm2_lg 30 (.inr rfl)⟩, rfl, rfl, by decide, ⟨by decide, by decide⟩, ?_, ?_, .inl (by omega), by omega, by omega, fun e => ?_, fun g h1 h2 => ?_, fun g h1 h2 => ?_⟩
  · rw [fm2_now]; rfl
  · rw [fm2_now]; rfl
  · have h1 := a.box.lt
    have h2 := oB.llb
    omega
  · have g1 := (ownsRow_in a.tx h1).2.1
    have g2 := (ownsRow_in oB.tx h2).1
    omega
  · have g1 := (ownsRow_in a.wh h1).2.1
    have g2 := (ownsRow_in oB.wh h2).1
    omega
/-- All that the walk keeps: behind c calls there are x and y. -/
def Lp (w W : World) (p nb sb la lb x y c : Nat) (f g : Bool) : Prop :=
  ∃ cv D ta wa tb wb sa ss ra rb ma mb ha hb, Two w W p nb sb cv D la lb 0 30 ta wa tb wb sa ss ra rb ma mb ha hb c ∧ ra.length = x ∧ rb.length = y ∧ (enc ra).length + (enc rb).length ≤ 92 * c ∧ (f = true → ma = ra) ∧ (g = true → mb = rb)
section
variable {w W U : World} {p nb sb la lb x y c : Nat} {f g : Bool}
theorem Lp.below (h : Lp w W p nb sb la lb x y c f g) (hb : Below W.heap.size W U) : Lp w U p nb sb la lb x y c f g := by
  obtain ⟨cv, D, ta, wa, tb, wb, sa, ss, ra, rb, ma, mb, ha, hb', t, r⟩ := h
  exact ⟨cv, D, ta, wa, tb, wb, sa, ss, ra, rb, ma, mb, ha, hb', t.below hb, r⟩
theorem Lp.bel (h : Lp w W p nb sb la lb x y c f g) : Below w.heap.size w W := by
  obtain ⟨cv, D, ta, wa, tb, wb, sa, ss, ra, rb, ma, mb, ha, hb', t, r⟩ := h
  exact t.A.tn.2
theorem enc_more (r : List (List UInt8)) (b : List UInt8) : (enc (r ++ [b])).length = (enc r).length + (b.length + 2) := by rw [enc_append, enc_one, List.length_append, enc1_length]
/-- A row that is new is not a log's. -/
theorem Lp.appendA (h : Lp w W p nb sb la lb x y c f g) (hc : c ≤ 12) (hb : Below W.heap.size W U) (bl : List UInt8) (h1 : 1 ≤ bl.length) (h2 : bl.length ≤ 90) (hg : U.heap[W.heap.size]? = some (.cells (byC bl).toArray 5 (0, 0))) :
    Calls Try.prog 8 #[.pointer (some ⟨la, 0, none⟩), .slice (some ⟨W.heap.size, 0, none⟩) bl.length bl.length] U fun e w' => e = .returned (.tuple #[.int .i64 (x : Int), .nilIface]) ∧ Hid (Lp w w' p nb sb la lb (x + 1) y (c + 1) false g) := by
  obtain ⟨cv, D, ta, wa, tb, wb, sa, ss, ra, rb, ma, mb, ha, hb', t, rfl, rfl, r3, r4, r5⟩ := h
  refine ((t.below hb).append bl ⟨h1, by omega⟩ (by omega) (by omega) W.heap.size hg (fun e => ?_)).mono ?_
  · have := (ownsRow_in t.A.tx e).2.1
    omega
  · rintro e w' ⟨rfl, cv', D', ta', wa', sa', ha', t'⟩
    exact ⟨rfl, cv', D', ta', wa', tb, wb, sa', ss, ra ++ [bl], rb, ma, mb, ha', hb', t', by simp, rfl, by rw [enc_more]; omega, fun e => (by cases e), r5⟩
theorem Lp.appendB (h : Lp w W p nb sb la lb x y c f g) (hc : c ≤ 12) (hb : Below W.heap.size W U) (bl : List UInt8) (h1 : 1 ≤ bl.length) (h2 : bl.length ≤ 90) (hg : U.heap[W.heap.size]? = some (.cells (byC bl).toArray 5 (0, 0))) :
    Calls Try.prog 8 #[.pointer (some ⟨lb, 0, none⟩), .slice (some ⟨W.heap.size, 0, none⟩) bl.length bl.length] U fun e w' => e = .returned (.tuple #[.int .i64 (y : Int), .nilIface]) ∧ Hid (Lp w w' p nb sb la lb x (y + 1) (c + 1) f false) := by
  obtain ⟨cv, D, ta, wa, tb, wb, sa, ss, ra, rb, ma, mb, ha, hb', t, rfl, rfl, r3, r4, r5⟩ := h
  refine ((t.below hb).swap.append bl ⟨h1, by omega⟩ (by omega) (by omega) W.heap.size hg (fun e => ?_)).mono ?_
  · have := (ownsRow_in t.B.tx e).2.1
    omega
  · rintro e w' ⟨rfl, cv', D', tb', wb', sb', hb'', t'⟩
    exact ⟨rfl, cv', D', ta, wa, tb', wb', sa, sb', ra, rb ++ [bl], ma, mb, ha, hb'', t'.swap, rfl, by simp, by rw [enc_more]; omega, r4, fun e => (by cases e)⟩
theorem Lp.syncA (h : Lp w W p nb sb la lb x y c f g) (hc : c ≤ 20) : Calls Try.prog 9 #[.pointer (some ⟨la, 0, none⟩)] W fun e w' => e = .returned .nilIface ∧ Hid (Lp w w' p nb sb la lb x y (c + 1) true g) := by
  obtain ⟨cv, D, ta, wa, tb, wb, sa, ss, ra, rb, ma, mb, ha, hb', t, r1, r2, r3, r4, r5⟩ := h
  refine (t.sync (by omega)).mono ?_
  rintro e w' ⟨rfl, cv', D', sa', t'⟩
  exact ⟨rfl, cv', D', ta, wa, tb, wb, sa', ss, ra, rb, ra, mb, ha, hb', t', r1, r2, by omega, fun _ => rfl, r5⟩
theorem Lp.syncB (h : Lp w W p nb sb la lb x y c f g) (hc : c ≤ 20) : Calls Try.prog 9 #[.pointer (some ⟨lb, 0, none⟩)] W fun e w' => e = .returned .nilIface ∧ Hid (Lp w w' p nb sb la lb x y (c + 1) f true) := by
  obtain ⟨cv, D, ta, wa, tb, wb, sa, ss, ra, rb, ma, mb, ha, hb', t, r1, r2, r3, r4, r5⟩ := h
  refine (t.swap.sync (by omega)).mono ?_
  rintro e w' ⟨rfl, cv', D', sb', t'⟩
  exact ⟨rfl, cv', D', ta, wa, tb, wb, sa, sb', ra, rb, ma, rb, ha, hb', t'.swap, r1, r2, by omega, r4, fun _ => rfl⟩
theorem Lp.says (h : Lp w W p nb sb la lb x y c f g) : Says w W la x ∧ Says w W lb y := by
  obtain ⟨cv, D, ta, wa, tb, wb, sa, ss, ra, rb, ma, mb, ha, hb', t, rfl, rfl, r3, r4, r5⟩ := h
  exact ⟨t.says, t.swap.says⟩
theorem Lp.openA (h : Lp w W p nb sb la lb x y c true g) : Calls Try.prog 7 #[.pointer (some ⟨p, 0, none⟩), .int .i64 0, .int .i64 30] W fun e w' => ∃ lc, e = .returned (.tuple #[.pointer (some ⟨lc, 0, none⟩), .nilIface]) ∧ Hid (Lp w w' p nb sb la lb x y c true g ∧ Says w w' lc x) := by
  obtain ⟨cv, D, ta, wa, tb, wb, sa, ss, ra, rb, ma, mb, ha, hb', t, r1, r2, r3, r4, r5⟩ := h
  have e := r4 rfl
  subst e
  refine (t.again).mono ?_
  rintro e w' ⟨lc, rfl, h1, h2⟩
  exact ⟨lc, rfl, ⟨cv, D, ta, wa, tb, wb, sa, ss, _, rb, _, mb, ha, hb', t.below h1, r1, r2, r3, fun _ => rfl, r5⟩, by rw [← r1]; exact h2⟩
theorem Lp.openB (h : Lp w W p nb sb la lb x y c f true) : Calls Try.prog 7 #[.pointer (some ⟨p, 0, none⟩), .int .i64 30, .int .i64 30] W fun e w' => ∃ lc, e = .returned (.tuple #[.pointer (some ⟨lc, 0, none⟩), .nilIface]) ∧ Hid (Below W.heap.size W w' ∧ Says w w' lc y) := by
  obtain ⟨cv, D, ta, wa, tb, wb, sa, ss, ra, rb, ma, mb, ha, hb', t, r1, r2, r3, r4, r5⟩ := h
  have e := r5 rfl
  subst e
  refine (t.swap.again).mono ?_
  rintro e w' ⟨lc, rfl, h1, h2⟩
  exact ⟨lc, rfl, h1, by rw [← r2]; exact h2⟩
end
/-- A row of bytes is made, and its first is set. -/
theorem made_bytes (m : Nat) : madeCells #[.int .u8 0] m = (byC (List.replicate m 0)).toArray := by
  apply Array.ext
  · simp [madeCells, byC]
  · intro k h1 h2
    simp [madeCells, byC, Nat.mod_one]
theorem make_bytes (kk i : Nat) (hk : kk < 90) (hi : i < 12) (W : World) :
    ∃ V X, (Instr.makeSlice 34 (.int .i64 ((kk : Int) + 1)) (.int .i64 ((kk : Int) + 1))).run Try.prog W = .ok (.slice (some ⟨W.heap.size, 0, none⟩) (kk + 1) (kk + 1)) V ∧ V.cell? ⟨W.heap.size, 0, none⟩ = some (.int .u8 0) ∧ V.frozen? ⟨W.heap.size, 0, none⟩ = false ∧
      (V.setCell ⟨W.heap.size, 0, none⟩ (.int .u8 (i : Int))).heap[W.heap.size]? = some (.cells (byC X).toArray 5 (0, 0)) ∧ Below W.heap.size W (V.setCell ⟨W.heap.size, 0, none⟩ (.int .u8 (i : Int))) ∧ X.length = kk + 1 := by
  have hr := run_make_row' (P := Try.prog) 34 5 (.int .u8 0) 1 Try.underlying34 u8_info rfl .i64 .i64 (kk + 1) (by omega) (by omega) W
  rw [made_bytes] at hr
  have hg := new_heap W (.cells (byC (List.replicate (kk + 1) 0)).toArray 5)
  refine ⟨W.alloc (.cells (byC (List.replicate (kk + 1) 0)).toArray 5), UInt8.ofNat i :: List.replicate kk 0, hr, ?_, by unfold World.frozen?; simp only [hg]; rfl, ?_, ?_, by simp⟩
  · rw [cell_of_row _ _ _ _ _ (0, 0) hg]
    simp [byC]
  · rw [setCell_eq_setRow _ _ 0 _ _ (0, 0) _ hg, setRow_heap _ _ _ _ _ (0, 0) hg]
    have : ((UInt8.ofNat i).toNat : Int) = (i : Int) := by rw [UInt8.toNat_ofNat']; omega
    simp only [byC, List.map_cons, this]
    simp [List.replicate_succ]
  · exact ((Below.refl _ W).alloc (Nat.le_refl _) _).setCell (p := ⟨W.heap.size, 0, none⟩) (Nat.le_refl _) _
end Go.Proofs.Ytamilceeffocpaa

namespace Go.Proofs.Ytamilceeffocpaa
set_option linter.unusedVariables false
set_option linter.unusedSimpArgs false
set_option maxRecDepth 100000
open Go.RowKit Go.Lib
set_option maxHeartbeats 8000000 in
theorem lparts_walk (a : Option Addr) (l : List Int) (cap : Nat) (tu : Int) (w : World) (h : IsIn w a l cap) (hl : l.length ≤ 140737488355328) :
    Calls Try.prog 4 #[.slice a l.length cap, .int .i64 tu] w fun e w' => e = .returned (.bool true) ∧ Below w.heap.size w w' := by
  have HNew : Hid (Calls _ _ _ w _) := tn_new 60 w (by omega) (by omega)
  have HF1 : Hid (∀ W p nb sb cv, Tn w W p nb sb cv 60 (dk0 60) → Calls Try.prog 6 #[.pointer (some ⟨p, 0, none⟩), .int .i64 0, .int .i64 30] W fun e w' => e = .returned .nilIface ∧ ∃ cv', Hid (Tn w w' p nb sb cv' 60 fm1)) := fun W p nb sb cv hW => by
    refine (formatL_fresh hW 0 30 (by decide) (by omega) (by omega) (by omega) ⟨by decide, by decide⟩ (fun i _ => rep_at _)).mono ?_
    rintro e w' ⟨rfl, cv', h1, _⟩
    exact ⟨rfl, cv', h1⟩
  have HF2 : Hid (∀ W p nb sb cv, Tn w W p nb sb cv 60 fm1 → Calls Try.prog 6 #[.pointer (some ⟨p, 0, none⟩), .int .i64 30, .int .i64 30] W fun e w' => e = .returned .nilIface ∧ ∃ cv', Hid (Tn w w' p nb sb cv' 60 fm2)) := fun W p nb sb cv hW => by
    refine (formatL_fresh hW 30 30 (by decide) (by omega) (by omega) (by omega) ⟨by decide, by decide⟩ (fun i _ => by rw [fm1_now, if_neg (by omega)])).mono ?_
    rintro e w' ⟨rfl, cv', h1, _⟩
    exact ⟨rfl, cv', h1⟩
  have HO1 : Hid (∀ W p nb sb cv, Tn w W p nb sb cv 60 fm2 → Calls Try.prog 7 #[.pointer (some ⟨p, 0, none⟩), .int .i64 0, .int .i64 30] W fun e w' => ∃ lb, e = .returned (.tuple #[.pointer (some ⟨lb, 0, none⟩), .nilIface]) ∧ ∃ tv wv rs, Hid (Opened w W w' p nb sb cv 60 fm2 lb 0 30 1 tv wv rs)) := fun W p nb sb cv hW =>
    openL_ok hW 0 30 1 (by omega) (by omega) (by omega) (by rw [fm2_now]; rfl) (by omega) (by omega)
  have HO2 : Hid (∀ W p nb sb cv, Tn w W p nb sb cv 60 fm2 → Calls Try.prog 7 #[.pointer (some ⟨p, 0, none⟩), .int .i64 30, .int .i64 30] W fun e w' => ∃ lb, e = .returned (.tuple #[.pointer (some ⟨lb, 0, none⟩), .nilIface]) ∧ ∃ tv wv rs, Hid (Opened w W w' p nb sb cv 60 fm2 lb 30 30 1 tv wv rs)) := fun W p nb sb cv hW =>
    openL_ok hW 30 30 1 (by omega) (by omega) (by omega) (by rw [fm2_now]; rfl) (by omega) (by omega)
  have Hl : Hid (∀ W, Below w.heap.size w W → ∀ k, k < l.length → ∃ b off, a = some ⟨b, off, none⟩ ∧ W.cell? ⟨b, off + k, none⟩ = some (.int .i64 (l.getD k 0))) := by
    intro W hW k hk
    rcases h.lies with h | ⟨b, off, e, hlt, hc⟩
    · subst h; simp at hk
    · exact ⟨b, off, e, (hW.cell (p := ⟨b, off + k, none⟩) hlt).trans (hc k hk)⟩
  have hl0 : (0 : Int) ≤ l.length := by omega
  have hl1 : (l.length : Int) ≤ 140737488355328 := by omega
  clear h
  go_enter Try.func4, Try.ntmps4
  go_wp2_with fail
  refine HNew.out.mono ?_
  rintro e w1 ⟨p, nb, sb, rfl, ht1⟩
  have HC1 : Hid (Calls _ _ _ w1 _) := HF1.out w1 p nb sb _ ht1.out
  clear HNew HF1 ht1
  go_wp2_with fail
  refine HC1.out.mono ?_
  rintro e w2 ⟨rfl, cv2, ht2⟩
  have HC2 : Hid (Calls _ _ _ w2 _) := HF2.out w2 p nb sb cv2 ht2.out
  clear HC1 HF2 ht2
  go_wp2_with fail
  refine HC2.out.mono ?_
  rintro e w3 ⟨rfl, cv3, ht3⟩
  have HC3 : Hid (Calls _ _ _ w3 _) := HO1.out w3 p nb sb cv3 ht3.out
  have HS3 : Hid (w.heap.size ≤ w3.heap.size) := ht3.out.2.size
  clear HC2 HO1 ht3
  go_wp2_with fail
  refine HC3.out.mono ?_
  rintro e w4 ⟨la, rfl, ta, wa, ra, oA⟩
  have HC4 : Hid (Calls _ _ _ w4 _) := HO2.out w4 p nb sb cv3 oA.out.tn
  clear HC3 HO2
  go_wp2_with fail
  refine HC4.out.mono ?_
  rintro e w5 ⟨lb, rfl, tb, wb, rb, oB⟩
  have HL5 : Hid (Lp w w5 p nb sb la lb 0 0 0 false false) := by
    obtain ⟨sa, ss, ha, hb, t⟩ := Two.start oA.out oB.out HS3.out
    exact ⟨_, _, _, _, _, _, _, _, _, _, _, _, _, _, t, rfl, rfl, by simp [enc], fun e => (by cases e), fun e => (by cases e)⟩
  have HAp : Hid (Calls _ _ _ (w5.alloc (.cells #[.int .u8 5] 5)) _) := HL5.out.appendA (by omega) ((Below.refl _ w5).alloc (Nat.le_refl _) (.cells (byC [5]).toArray 5)) [5] (by simp) (by simp) (new_heap w5 _)
  clear HC4 oA oB HS3 HL5
  go_wp2_with fail
  refine HAp.out.mono ?_
  rintro e w6 ⟨rfl, HL⟩
  clear HAp
  go_wp2_with fail
  go_loopw [15, 16, 17] (fun x y i wr => ∃ c X Y : Nat, c ≤ 12 ∧ c ≤ l.length ∧ X ≤ c + 1 ∧ Y ≤ c ∧ x = .int .i64 X ∧ y = .int .i64 Y ∧ i = .int .i64 c ∧ Hid (Lp w wr p nb sb la lb X Y (c + 1) false false)) (fun _ _ i _ => 12 - (RowKit.intOf i).toNat)
  case atStart => exact ⟨0, 1, 0, by omega, by omega, by omega, by omega, rfl, rfl, rfl, HL⟩
  case round =>
    clear HL
    obtain ⟨c, X, Y, hc12, hcl, hX, hY, rfl, rfl, rfl, HL⟩ := hrel
    have i0 : (0 : Int) ≤ c := by omega
    have x0 : (0 : Int) ≤ X := by omega
    have x1 : (X : Int) ≤ 13 := by omega
    have y0 : (0 : Int) ≤ Y := by omega
    have y1 : (Y : Int) ≤ 12 := by omega
    by_cases hlt : c < l.length ∧ c < 12
    · obtain ⟨hlt1, hlt2⟩ := hlt
      have i1 : (c : Int) < l.length := by omega
      have i2 : (c : Int) < 12 := by omega
      obtain ⟨b, off, rfl, hc⟩ := Hl.out wr HL.out.bel c hlt1
      generalize l.getD c 0 = x at *
      have hq1 : -90 < x.tmod 90 ∧ x.tmod 90 < 90 := ⟨by have := Int.lt_tmod_of_pos x (show (0 : Int) < 90 by omega); omega, Int.tmod_lt_of_pos x (by omega)⟩
      by_cases hqn : x.tmod 90 < 0
      · obtain ⟨kk, hkq0⟩ : ∃ kk : Nat, x.tmod 90 = -(kk : Int) := ⟨(-(x.tmod 90)).toNat, by omega⟩
        have hkk : kk < 90 := by omega
        have q0 : (0 : Int) < kk := by omega
        have q1 : (kk : Int) < 90 := by omega
        clear hq1 hqn
        obtain ⟨V, Z, hmk, c0, fz, hrow, hbel, hlen⟩ := make_bytes kk c hkk hlt2 wr
        have HCall : Hid ((Calls Try.prog 8 #[.pointer (some ⟨la, 0, none⟩), .slice (some ⟨wr.heap.size, 0, none⟩) Z.length Z.length] (V.setCell ⟨wr.heap.size, 0, none⟩ (.int .u8 (c : Int))) fun e w' => e = .returned (.tuple #[.int .i64 (X : Int), .nilIface]) ∧ Hid (Lp w w' p nb sb la lb (X + 1) Y (c + 1 + 1) false false)) ∧
            (Calls Try.prog 8 #[.pointer (some ⟨lb, 0, none⟩), .slice (some ⟨wr.heap.size, 0, none⟩) Z.length Z.length] (V.setCell ⟨wr.heap.size, 0, none⟩ (.int .u8 (c : Int))) fun e w' => e = .returned (.tuple #[.int .i64 (Y : Int), .nilIface]) ∧ Hid (Lp w w' p nb sb la lb X (Y + 1) (c + 1 + 1) false false))) :=
          ⟨HL.out.appendA (by omega) hbel Z (by omega) (by omega) hrow, HL.out.appendB (by omega) hbel Z (by omega) (by omega) hrow⟩
        obtain ⟨g, hg⟩ : ∃ g, wr.heap.size = g := ⟨_, rfl⟩
        obtain ⟨nn, hnn⟩ : ∃ nn, kk + 1 = nn := ⟨_, rfl⟩
        rw [hg, hlen, hnn] at HCall
        rw [hg, hnn] at hmk
        rw [hg] at c0 fz
        have n0 : (0 : Int) < nn := by omega
        have n1 : (nn : Int) ≤ 90 := by omega
        clear hrow hbel hlen hg hnn HL
        cases hkq : ((c : Int) % 3 == tu)
        · have HAp : Hid (Calls _ _ _ (V.setCell ⟨g, 0, none⟩ (.int .u8 (c : Int))) _) := HCall.out.2
          clear HCall
          go_wp2_with fail
          refine HAp.out.mono ?_
          rintro e w7 ⟨rfl, HL7⟩
          clear HAp c0 fz hmk hc
          go_wp2_with fail
          go_roundw
          case rel => exact ⟨c + 1, X, Y + 1, by omega, by omega, by omega, by omega, rfl, by go_num, by go_num, HL7⟩
          case measure => simp [RowKit.intOf]; omega
        · have HAp : Hid (Calls _ _ _ (V.setCell ⟨g, 0, none⟩ (.int .u8 (c : Int))) _) := HCall.out.1
          clear HCall
          go_wp2_with fail
          refine HAp.out.mono ?_
          rintro e w7 ⟨rfl, HL7⟩
          clear HAp c0 fz hmk hc
          go_wp2_with fail
          go_roundw
          case rel => exact ⟨c + 1, X + 1, Y, by omega, by omega, by omega, by omega, by go_num, rfl, by go_num, HL7⟩
          case measure => simp [RowKit.intOf]; omega
      · obtain ⟨kk, hkq0⟩ : ∃ kk : Nat, x.tmod 90 = (kk : Int) := ⟨(x.tmod 90).toNat, by omega⟩
        have hkk : kk < 90 := by omega
        have q0 : (0 : Int) ≤ kk := by omega
        have q1 : (kk : Int) < 90 := by omega
        clear hq1 hqn
        obtain ⟨V, Z, hmk, c0, fz, hrow, hbel, hlen⟩ := make_bytes kk c hkk hlt2 wr
        have HCall : Hid ((Calls Try.prog 8 #[.pointer (some ⟨la, 0, none⟩), .slice (some ⟨wr.heap.size, 0, none⟩) Z.length Z.length] (V.setCell ⟨wr.heap.size, 0, none⟩ (.int .u8 (c : Int))) fun e w' => e = .returned (.tuple #[.int .i64 (X : Int), .nilIface]) ∧ Hid (Lp w w' p nb sb la lb (X + 1) Y (c + 1 + 1) false false)) ∧
            (Calls Try.prog 8 #[.pointer (some ⟨lb, 0, none⟩), .slice (some ⟨wr.heap.size, 0, none⟩) Z.length Z.length] (V.setCell ⟨wr.heap.size, 0, none⟩ (.int .u8 (c : Int))) fun e w' => e = .returned (.tuple #[.int .i64 (Y : Int), .nilIface]) ∧ Hid (Lp w w' p nb sb la lb X (Y + 1) (c + 1 + 1) false false))) :=
          ⟨HL.out.appendA (by omega) hbel Z (by omega) (by omega) hrow, HL.out.appendB (by omega) hbel Z (by omega) (by omega) hrow⟩
        obtain ⟨g, hg⟩ : ∃ g, wr.heap.size = g := ⟨_, rfl⟩
        obtain ⟨nn, hnn⟩ : ∃ nn, kk + 1 = nn := ⟨_, rfl⟩
        rw [hg, hlen, hnn] at HCall
        rw [hg, hnn] at hmk
        rw [hg] at c0 fz
        have n0 : (0 : Int) < nn := by omega
        have n1 : (nn : Int) ≤ 90 := by omega
        clear hrow hbel hlen hg hnn HL
        cases hkq : ((c : Int) % 3 == tu)
        · have HAp : Hid (Calls _ _ _ (V.setCell ⟨g, 0, none⟩ (.int .u8 (c : Int))) _) := HCall.out.2
          clear HCall
          go_wp2_with fail
          refine HAp.out.mono ?_
          rintro e w7 ⟨rfl, HL7⟩
          clear HAp c0 fz hmk hc
          go_wp2_with fail
          go_roundw
          case rel => exact ⟨c + 1, X, Y + 1, by omega, by omega, by omega, by omega, rfl, by go_num, by go_num, HL7⟩
          case measure => simp [RowKit.intOf]; omega
        · have HAp : Hid (Calls _ _ _ (V.setCell ⟨g, 0, none⟩ (.int .u8 (c : Int))) _) := HCall.out.1
          clear HCall
          go_wp2_with fail
          refine HAp.out.mono ?_
          rintro e w7 ⟨rfl, HL7⟩
          clear HAp c0 fz hmk hc
          go_wp2_with fail
          go_roundw
          case rel => exact ⟨c + 1, X + 1, Y, by omega, by omega, by omega, by omega, by go_num, rfl, by go_num, HL7⟩
          case measure => simp [RowKit.intOf]; omega
    · have HSa : Hid (Calls _ _ _ wr _) := HL.out.syncA (by omega)
      by_cases hcl2 : c < l.length
      · have i1 : (c : Int) < l.length := by omega
        have i2 : ¬ (c : Int) < 12 := by omega
        clear hlt HL
        go_wp2_with fail
        refine HSa.out.mono ?_
        rintro e w7 ⟨rfl, HL7⟩
        have HSb : Hid (Calls _ _ _ w7 _) := HL7.out.syncB (by omega)
        clear HSa HL7
        go_wp2_with fail
        refine HSb.out.mono ?_
        rintro e w8 ⟨rfl, HL8⟩
        have HOa : Hid (Calls _ _ _ w8 _) := HL8.out.openA
        clear HSb HL8
        go_wp2_with fail
        refine HOa.out.mono ?_
        rintro e w9 ⟨lc, rfl, H9⟩
        have HOb : Hid (Calls _ _ _ w9 _) := H9.out.1.openB
        clear HOa
        go_wp2_with fail
        refine HOb.out.mono ?_
        rintro e w10 ⟨ld, rfl, H10⟩
        have HS10 : Hid (Says w w10 lc X ∧ Says w w10 ld Y ∧ Says w w10 la X ∧ Says w w10 lb Y ∧ Below w.heap.size w w10) := ⟨H9.out.2.below H10.out.1, H10.out.2, H9.out.1.says.1.below H10.out.1, H9.out.1.says.2.below H10.out.1, H9.out.1.bel.trans (H10.out.1.mono H9.out.1.bel.size)⟩
        have HLn : Hid (Calls _ _ _ w10 _) := HS10.out.1.len
        clear HOb H9 H10
        go_wp2_with fail
        refine HLn.out.mono ?_
        rintro e w11 ⟨rfl, h11⟩
        have HB11 : Hid (Below w10.heap.size w10 w11) := h11.below _
        clear HLn h11
        have HLn : Hid (Calls _ _ _ w11 _) := (HS10.out.2.1.below HB11.out).len
        go_wp2_with fail
        refine HLn.out.mono ?_
        rintro e w12 ⟨rfl, h12⟩
        have HB12 : Hid (Below w10.heap.size w10 w12) := HB11.out.trans (h12.below _)
        clear HLn h12 HB11
        have HLn : Hid (Calls _ _ _ w12 _) := (HS10.out.2.2.1.below HB12.out).len
        go_wp2_with fail
        refine HLn.out.mono ?_
        rintro e w13 ⟨rfl, h13⟩
        have HB13 : Hid (Below w10.heap.size w10 w13) := HB12.out.trans (h13.below _)
        clear HLn h13 HB12
        have HLn : Hid (Calls _ _ _ w13 _) := (HS10.out.2.2.2.1.below HB13.out).len
        go_wp2_with fail
        refine HLn.out.mono ?_
        rintro e w14 ⟨rfl, h14⟩
        have HB14 : Hid (Below w.heap.size w w14) := HS10.out.2.2.2.2.trans ((HB13.out.trans (h14.below _)).mono HS10.out.2.2.2.2.size)
        clear HLn h14 HB13 HS10
        go_wp2
        go_ret
        exact ⟨rfl, HB14.out⟩
      · have i1 : ¬ (c : Int) < l.length := by omega
        clear hlt HL
        go_wp2_with fail
        refine HSa.out.mono ?_
        rintro e w7 ⟨rfl, HL7⟩
        have HSb : Hid (Calls _ _ _ w7 _) := HL7.out.syncB (by omega)
        clear HSa HL7
        go_wp2_with fail
        refine HSb.out.mono ?_
        rintro e w8 ⟨rfl, HL8⟩
        have HOa : Hid (Calls _ _ _ w8 _) := HL8.out.openA
        clear HSb HL8
        go_wp2_with fail
        refine HOa.out.mono ?_
        rintro e w9 ⟨lc, rfl, H9⟩
        have HOb : Hid (Calls _ _ _ w9 _) := H9.out.1.openB
        clear HOa
        go_wp2_with fail
        refine HOb.out.mono ?_
        rintro e w10 ⟨ld, rfl, H10⟩
        have HS10 : Hid (Says w w10 lc X ∧ Says w w10 ld Y ∧ Says w w10 la X ∧ Says w w10 lb Y ∧ Below w.heap.size w w10) := ⟨H9.out.2.below H10.out.1, H10.out.2, H9.out.1.says.1.below H10.out.1, H9.out.1.says.2.below H10.out.1, H9.out.1.bel.trans (H10.out.1.mono H9.out.1.bel.size)⟩
        have HLn : Hid (Calls _ _ _ w10 _) := HS10.out.1.len
        clear HOb H9 H10
        go_wp2_with fail
        refine HLn.out.mono ?_
        rintro e w11 ⟨rfl, h11⟩
        have HB11 : Hid (Below w10.heap.size w10 w11) := h11.below _
        clear HLn h11
        have HLn : Hid (Calls _ _ _ w11 _) := (HS10.out.2.1.below HB11.out).len
        go_wp2_with fail
        refine HLn.out.mono ?_
        rintro e w12 ⟨rfl, h12⟩
        have HB12 : Hid (Below w10.heap.size w10 w12) := HB11.out.trans (h12.below _)
        clear HLn h12 HB11
        have HLn : Hid (Calls _ _ _ w12 _) := (HS10.out.2.2.1.below HB12.out).len
        go_wp2_with fail
        refine HLn.out.mono ?_
        rintro e w13 ⟨rfl, h13⟩
        have HB13 : Hid (Below w10.heap.size w10 w13) := HB12.out.trans (h13.below _)
        clear HLn h13 HB12
        have HLn : Hid (Calls _ _ _ w13 _) := (HS10.out.2.2.2.1.below HB13.out).len
        go_wp2_with fail
        refine HLn.out.mono ?_
        rintro e w14 ⟨rfl, h14⟩
        have HB14 : Hid (Below w.heap.size w w14) := HS10.out.2.2.2.2.trans ((HB13.out.trans (h14.below _)).mono HS10.out.2.2.2.2.size)
        clear HLn h14 HB13 HS10
        go_wp2
        go_ret
        exact ⟨rfl, HB14.out⟩
end Go.Proofs.Ytamilceeffocpaa

namespace Go.Proofs.Ytamilceeffocpaa
open Go.ChangeShapes Go.WideShapes Go.ChangeAt Go.RowKit
set_option linter.unusedVariables false
set_option linter.unusedSimpArgs false
theorem in_add (b off i : Nat) : (⟨b, off, none⟩ : Addr).add i = ⟨b, off + i, none⟩ := by
  rcases Nat.eq_zero_or_pos i with rfl | hp
  · simp [Addr.add]
  · simp [Addr.add, Nat.ne_of_gt hp]
theorem isIn_of {W : World} {a : Option Addr} {len cap : Nat} {zs : List Int} (h : (a = none ∧ len = 0 ∧ cap = 0 ∧ zs = []) ∨ ∃ x, a = some x ∧ len ≤ cap ∧ zs.length = cap ∧ (∀ i, i < zs.length → W.cell? (x.add i) = some (.int .i64 (zs.getD i 0))) ∧ ∀ n ∈ zs, (Lit.int .i64 n).wf = true) :
    ∃ am : List Int, am.length = len ∧ (∀ x ∈ am, -9223372036854775808 ≤ x ∧ x ≤ 9223372036854775807) ∧ IsIn W a am cap := by
  rcases h with ⟨rfl, rfl, rfl, rfl⟩ | ⟨x, rfl, hl, hz, hcell, hwz⟩
  · exact ⟨[], rfl, by simp, ⟨by simp, .inl rfl⟩⟩
  · have hlen : (zs.take len).length = len := by simp; omega
    have hget : ∀ i, i < len → (zs.take len).getD i 0 = zs.getD i 0 := fun i hi => by simp [List.getD, hi]
    refine ⟨zs.take len, hlen, fun y hy => ?_, ⟨by omega, ?_⟩⟩
    · have := bounds_i64 (hwz _ (List.mem_of_mem_take hy))
      omega
    · by_cases h0 : len = 0
      · subst h0
        exact .inl (by simp)
      · right
        obtain ⟨b, off, spot⟩ := x
        have hc := hcell 0 (by omega)
        have hspot : spot = none := by simpa [Addr.add] using World.cell?_spot hc
        subst hspot
        have hlt : b < W.heap.size := by
          have := World.block_lt_of_cell? _ _ hc
          simpa [Addr.add] using this
        refine ⟨b, off, rfl, hlt, fun i hi => ?_⟩
        rw [hlen] at hi
        rw [hget i hi]
        have := hcell i (by omega)
        rw [in_add] at this
        exact this

end Go.Proofs.Ytamilceeffocpaa

namespace Go.Proofs.Ytamilceeffocpaa
open Go.ChangeShapes Go.WideShapes Go.ChangeAt Go.RowKit
open Go.ChangeMaps (open_string shut_string)
set_option linter.unusedVariables false
set_option linter.unusedSimpArgs false

theorem lpartsP_own : ownKnob Try.prog.godebug = none := by kernel_rfl
theorem lpartsP_laidOut : laidOutB Try.prog = true := by kernel_rfl

set_option maxRecDepth 100000 in
theorem lpartsP_lifted (os : Os) (started : os.Started) (H : Type) (enc : TypeId × Value → H) :
    ReturnsInHanded {} Try.checked os 4 .any (Rows.logPartsSpec.pre6 enc Try.prog Try.f4 Rows.logPartsRow.domain false) (Rows.logPartsSpec.post enc Try.prog Try.f4 false true false false) := by
  refine returnsInHanded_of_change_sized (C := Try.checked) lpartsP_own started (by kernel_rfl) Try.func4
    (ChangeSpec.witness6 (enc := enc) (C := Try.checked) false ⟨#[], #[.slice none 0 0, .int .i64 0], []⟩ 8 (by kernel_rfl) (by kernel_rfl) (by kernel_rfl) (by kernel_rfl)) ?_
  intro W base args ds gs before hval0 hW hcnd hsz0 _
  have hsz : (DataW.weightsEach Try.prog (Try.f4.params.toList ++ Rows.logPartsSpec.plain.varTypes Try.prog) (ds ++ gs)).all (· ≤ reachBytes) = true := hsz0
  clear hsz0
  have hval : ∀ (j : Nat) t v, Try.f4.params[j]? = some t → args[j]? = some v → Value.okWide Try.prog W .any base t v := hval0
  have hW' := hW
  obtain ⟨p, q, hA0, hV, rfl, hfz, hnd⟩ := hW
  have hA : DataW.TrodAll enc Try.prog W 0 (fun _ => true) true Try.f4.params.toList args.toList ds p := hA0
  rw [Try.params4] at hA hval hsz
  obtain ⟨v0, vs0, d0, ds0, p0, q0, hargs, rfl, rfl, h0, r0⟩ := trodAll_cons hA
  obtain ⟨v1, vs1, d1, ds1, p1, q1, rfl, rfl, rfl, h1, r1⟩ := trodAll_cons r0
  obtain ⟨rfl, rfl, rfl⟩ := trodAll_nil r1
  obtain rfl : args = #[v0, v1] := by cases args; simp_all
  obtain ⟨rfl, rfl⟩ := trodVars_none hV
  obtain ⟨a0, len0, cap0, rfl⟩ := okWide_slice Try.underlying38 (hval 0 38 v0 rfl rfl)
  have k0 := h0
  have lt0 : ∀ x ∈ p0, x.block < W.heap.size := by obtain ⟨m, hm⟩ := k0; exact DataW.trod_lt m _ _ _ hm
  obtain ⟨am0, ham0, hai0, hin0, hr0⟩ : ∃ am : List Int, am.length = len0 ∧ (∀ x ∈ am, -9223372036854775808 ≤ x ∧ x ≤ 9223372036854775807) ∧ IsIn W a0 am cap0 ∧ len0 * 8 ≤ 140737488351232 := by
    obtain ⟨fuel, hf⟩ := h0
    rcases open_ints Try.underlying38 Try.underlying3 (by kernel_rfl) hf with ⟨hcs, _⟩ | ⟨x, l, c, zs, hcs, _, hl, hm, hz, hx, hcell, hwz⟩
    · simp [Value.cells] at hcs
      obtain ⟨rfl, rfl, rfl⟩ := hcs
      obtain ⟨am, e1, e2, e3⟩ := isIn_of (W := W) (zs := []) (.inl ⟨rfl, rfl, rfl, rfl⟩)
      exact ⟨am, e1, e2, e3, by omega⟩
    · simp [Value.cells] at hcs
      obtain ⟨rfl, rfl, rfl⟩ := hcs
      simp only [Prod.mk.injEq] at hx
      obtain ⟨rfl, _⟩ := hx
      have hz' : zs.length = cap0 := by simpa using hz
      obtain ⟨am, e1, e2, e3⟩ := isIn_of (.inr ⟨_, rfl, hl, hz', hcell, hwz⟩)
      refine ⟨am, e1, e2, e3, ?_⟩
      have := sized_slice hsz (j := 0) (t := 38) (e := 3) rfl rfl Try.underlying38
      rw [show Try.prog.bytesOf 3 = 8 from by kernel_rfl] at this
      simp only [lits, List.length_map, List.length_take, List.length_drop, reachBytes] at this
      omega
  obtain ⟨a1, rfl, rfl, rfl, w1⟩ := open_int Try.underlying3 (hval 1 3 v1 rfl rfl) h1
  obtain ⟨c1a, c1b⟩ := bounds_i64 w1
  clear hA0 hval0
  subst ham0
  refine (lparts_walk a0 am0 cap0 a1 W hin0 (by omega)).mono fun e W' ⟨he, bel⟩ => ?_
  subst he
  exact ⟨_, rfl, _, _, _, [], _, [], hW', trodAll_mk1 (shut_bool Try.underlying4 _), (trodAll_cons_mk (Below.trod lpartsP_laidOut (by kernel_rfl) (of_decide_eq_true (by kernel_rfl)) k0 bel lt0) (trodAll_cons_mk (shut_int Try.underlying3 w1) trodAll_mk0)), rfl, bel.frame _, fun h => by cases h⟩

theorem lpartsP_over : Rows.logPartsRow.holds Try.pinned (OpenSpec.ofChange Rows.logPartsSpec) :=
  OpenClaim.holds_of_wide 4 Try.f4 rfl rfl rfl rfl rfl rfl rfl ⟨rfl, rfl, rfl, rfl, rfl⟩ rfl rfl rfl rfl rfl (by kernel_rfl) Try.func4 (by kernel_rfl)
    (of_decide_eq_true (by kernel_rfl)) (by unfold Func.isWrapper; first | (rw [if_pos (by decide +kernel)]; kernel_rfl) | (rw [if_neg (by decide +kernel)]; exact ⟨rfl, rfl⟩))
    (fun os started H enc _ => lpartsP_lifted os started H enc)

/-- The statement. -/
theorem logParts_holds : Rows.LogPartsSaid := lpartsP_over
#print axioms logParts_holds
end Go.Proofs.Ytamilceeffocpaa
