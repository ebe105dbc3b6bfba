/-
  Numbers, texts, entries and balances as bytes, and read again. It names no call.
-/
import Derived.Test.YtijjegkkeigeoaaZb13
import Derived.Test.YtijjegkkeigeoaaProg
import Derived.WalkKit
import Derived.WalkSpells
import Derived.Lib.OthersKept
import Derived.Lib.TrimU
import Derived.Deep.LoopGhost
import Derived.Conc.MuLone
import Derived.Shelf.Abstract
import Derived.Test.YtijjegkkeigeoaaZb2
namespace Go.Proofs.Ytijjegkkeigeoaa
set_option linter.unusedVariables false
set_option linter.unusedSimpArgs false
set_option maxRecDepth 100000
set_option maxHeartbeats 1000000
open Go.RowKit Go.Lib
section
variable {w W U : World} {p nb sb : Nat} {cv : Value} {n : Nat} {D : Dk} {rs : List (List UInt8)} {L S : Nat}
/-- The mark as a literal: its row is held by a text. -/
def mkC : Array Value := #[.int .u8 113, .int .u8 100, .int .u8 32, .int .u8 107, .int .u8 101, .int .u8 112, .int .u8 116]
theorem isBy_mark (W : World) : IsBy (W.alloc (.cells #[.int .u8 113, .int .u8 100, .int .u8 32, .int .u8 107, .int .u8 101, .int .u8 112, .int .u8 116] 5 (7, 8))) (some ⟨W.heap.size, 0, none⟩) kmB 7 := by
  refine ⟨Nat.le_refl _, .inr ⟨W.heap.size, 0, rfl, by simp, fun k hk => ?_⟩⟩
  have hr : (W.alloc (.cells #[.int .u8 113, .int .u8 100, .int .u8 32, .int .u8 107, .int .u8 101, .int .u8 112, .int .u8 116] 5 (7, 8))).heap[W.heap.size]? = some (.cells #[.int .u8 113, .int .u8 100, .int .u8 32, .int .u8 107, .int .u8 101, .int .u8 112, .int .u8 116] 5 (7, 8)) := new_heap W _
  rw [Nat.zero_add, cell_of_row _ _ _ _ _ (7, 8) hr]
  have hk : k < 7 := hk
  match k, hk with
  | 0, _ => rfl
  | 1, _ => rfl
  | 2, _ => rfl
  | 3, _ => rfl
  | 4, _ => rfl
  | 5, _ => rfl
  | 6, _ => rfl
theorem conv_mark (W : World) : (convert 52 52 (.slice (some ⟨W.heap.size, 0, none⟩) 7 7)).run Try.prog (W.alloc (.cells #[.int .u8 113, .int .u8 100, .int .u8 32, .int .u8 107, .int .u8 101, .int .u8 112, .int .u8 116] 5)) = .ok (.slice (some ⟨W.heap.size, 0, none⟩) 7 7) (W.alloc (.cells #[.int .u8 113, .int .u8 100, .int .u8 32, .int .u8 107, .int .u8 101, .int .u8 112, .int .u8 116] 5 (7, 8))) :=
  run_convert_bytes_const (P := Try.prog) W 52 5 #[.int .u8 113, .int .u8 100, .int .u8 32, .int .u8 107, .int .u8 101, .int .u8 112, .int .u8 116] 7 7 Try.underlying52 Try.underlying5
/-- Whether a disk was formatted. -/
def fmB (n : Nat) (D : Dk) : Bool := decide (150 ≤ n) && hasP D 0 kmB
theorem formatted_any (h : Tn w W p nb sb cv n D) (h1 : 1 ≤ n) (hn : n ≤ 200) :
    Calls Try.prog 15 #[.pointer (some ⟨p, 0, none⟩)] W fun e w' => e = .returned (.bool (fmB n D)) ∧ Hid (Below W.heap.size W w') := by
  have HBl : Hid (Calls _ _ _ W _) := lblocks_any h
  have n0 : (0 : Int) ≤ n := by omega
  have n2 : (n : Int) ≤ 200 := by omega
  by_cases hlt : n < 150
  · have HH : Hid (fmB n D = false) := by unfold Hid fmB; rw [decide_eq_false (by omega)]; rfl
    have hlt' : (n : Int) < 150 := by omega
    generalize fmB n D = fb at *
    clear h hlt
    go_enter Try.func15, Try.ntmps15
    go_wp2_with fail
    refine HBl.out.mono ?_
    rintro e w1 ⟨rfl, rfl⟩
    go_wp2
    go_ret
    exact ⟨by rw [HH.out]; rfl, Below.refl _ _⟩
  · have hlt' : ¬ (n : Int) < 150 := by omega
    by_cases ht : (D.now.getD 0 bk0).torn = true
    · have HR : Hid (Calls _ _ _ W _) := tn_readTorn h 0 (by omega) ht
      rw [enE_ne (by decide)] at HR
      have HH : Hid (fmB n D = false) := by unfold Hid fmB hasP; rw [ht]; simp
      generalize fmB n D = fb at *
      clear h hlt ht
      go_enter Try.func15, Try.ntmps15
      go_wp2_with fail
      refine HBl.out.mono ?_
      rintro e w1 ⟨rfl, rfl⟩
      go_wp2_with fail
      refine HR.out.mono ?_
      rintro e w2 ⟨rfl, _, hs⟩
      go_wp2
      go_ret
      exact ⟨by rw [HH.out]; rfl, hs.out.below _⟩
    · have htf : (D.now.getD 0 bk0).torn = false := by simpa using ht
      have HR : Hid (Calls _ _ _ W _) := tn_read h 0 (by omega) htf
      have HH : Hid (fmB n D = begB (D.now.getD 0 bk0).byt kmB) := by unfold Hid fmB hasP; rw [htf, decide_eq_true (by omega)]; rfl
      have HOk : Hid ((D.now.getD 0 bk0).byt.length = 64) := getD_ok h.1.ok.nowO 0
      generalize fmB n D = fb at *
      generalize (D.now.getD 0 bk0).byt = bt at *
      clear h hlt ht htf
      go_enter Try.func15, Try.ntmps15
      go_wp2_with fail
      refine HBl.out.mono ?_
      rintro e w1 ⟨rfl, rfl⟩
      go_wp2_with fail
      refine HR.out.mono ?_
      rintro e w2 ⟨rfl, _, hrow, hb⟩
      obtain ⟨W3, hW3⟩ : ∃ W3, w2.alloc (.cells #[.int .u8 113, .int .u8 100, .int .u8 32, .int .u8 107, .int .u8 101, .int .u8 112, .int .u8 116] 5 (7, 8)) = W3 := ⟨_, rfl⟩
      have hcv := conv_mark w2
      have b3 : Below w2.heap.size w2 W3 := by rw [← hW3]; exact (Below.refl _ _).alloc (Nat.le_refl _) _
      have hmk := isBy_mark w2
      rw [hW3] at hcv hmk
      have HI : Hid (IsBy W3 (some ⟨w1.heap.size, 0, none⟩) bt 64) := by
        have := isBy_row hrow.out bt.length (Nat.le_refl _) 64 (by rw [HOk.out]; exact Nat.le_refl _)
        rw [List.take_length] at this
        exact this.below b3
      have HP : Hid (Calls _ _ _ W3 _) := byPrefix_any (some ⟨w1.heap.size, 0, none⟩) bt 64 (some ⟨w2.heap.size, 0, none⟩) kmB 7 _ HI.out hmk
      rw [HOk.out, show kmB.length = 7 from rfl] at HP
      have HE : Hid (Below w1.heap.size w1 W3) := hb.out.trans (b3.mono hb.out.size)
      clear HR hrow hb b3 HI HBl hmk hW3
      go_wp2_with fail
      refine HP.out.mono ?_
      rintro e w3 ⟨rfl, rfl⟩
      go_wp2
      go_ret
      exact ⟨by rw [HH.out]; rfl, HE.out⟩
/-- Nothing was formatted. -/
theorem kopen_no (h : Tn w W p nb sb cv n D) (h1 : 1 ≤ n) (hn : n ≤ 200) (hf : fmB n D = false) :
    Calls Try.prog 18 #[.pointer (some ⟨p, 0, none⟩)] W fun e w' => e = .returned (.tuple #[.pointer none, .iface 44 (.int .i64 9)]) ∧ Hid (Below W.heap.size W w') := by
  have HF : Hid (Calls _ _ _ W _) := formatted_any h h1 hn
  rw [hf] at HF
  clear h hf
  go_enter Try.func18, Try.ntmps18
  go_wp2_with fail
  refine HF.out.mono ?_
  rintro e w1 ⟨rfl, hb⟩
  go_wp2
  go_ret2
  exact ⟨rfl, hb⟩
theorem KpD.fm (h : KpD n D rs L S) : fmB n D = true := by
  unfold fmB hasP
  rw [h.mrk.1, decide_eq_true h.n1]
  simp only [Bool.not_false, Bool.true_and]
  exact begB_iff.2 (by unfold padB; exact List.prefix_append _ _)
/-- The log of what was formatted. -/
theorem kopen_ok (h : Tn w W p nb sb cv n D) (k : KpD n D rs L S) (hS : S < 65000) :
    Calls Try.prog 18 #[.pointer (some ⟨p, 0, none⟩)] W fun e w' => ∃ lb, e = .returned (.tuple #[.pointer (some ⟨lb, 0, none⟩), .nilIface]) ∧ Hid (∃ tv wv s wh, KpW w w' p nb sb cv n D lb tv wv s wh rs rs L (S + 1) ∧ Below W.heap.size W w' ∧ W.heap.size ≤ lb ∧ (∀ g, tv.ownBlock = some g → W.heap.size ≤ g) ∧ ∀ g, wv.ownBlock = some g → W.heap.size ≤ g) := by
  have hn1 := k.n1
  have hn2 := k.n2
  have HF : Hid (Calls _ _ _ W _) := formatted_any h (by omega) k.n2
  rw [k.fm] at HF
  have HN : Hid (∀ V, Below W.heap.size W V → Calls Try.prog 13 #[.pointer (some ⟨p, 0, none⟩)] V (fun e w' => e = .returned (.int .i64 (n : Int)) ∧ w' = V) ∧ Calls Try.prog 37 #[.pointer (some ⟨p, 0, none⟩), .int .i64 1, .int .i64 ((n : Int) - 1)] V fun e w' => ∃ lb, e = .returned (.tuple #[.pointer (some ⟨lb, 0, none⟩), .nilIface]) ∧ Hid (∃ tv wv s wh, KpW w w' p nb sb cv n D lb tv wv s wh rs rs L (S + 1) ∧ Below W.heap.size W w' ∧ W.heap.size ≤ lb ∧ (∀ g, tv.ownBlock = some g → W.heap.size ≤ g) ∧ ∀ g, wv.ownBlock = some g → W.heap.size ≤ g)) := fun V hV => by
    have hT := h.below hV
    refine ⟨lblocks_any hT, ?_⟩
    have ho := k.open_ hT hS
    rw [show ((n - 1 : Nat) : Int) = (n : Int) - 1 by omega] at ho
    refine ho.mono ?_
    rintro e w' ⟨lb, rfl, hh⟩
    obtain ⟨tv, wv, s, wh, k1, k2, k3, k4, k5⟩ := hh.out
    have := hV.size
    exact ⟨lb, rfl, tv, wv, s, wh, k1, hV.trans (k2.mono this), by omega, fun g e => by have := k4 g e; omega, fun g e => by have := k5 g e; omega⟩
  have n0 : (150 : Int) ≤ n := by omega
  have n2 : (n : Int) ≤ 200 := by omega
  clear h k hS
  go_enter Try.func18, Try.ntmps18
  go_wp2_with fail
  refine HF.out.mono ?_
  rintro e w1 ⟨rfl, hb⟩
  have HB : Hid (Calls _ _ _ w1 _) := (HN.out w1 hb.out).1
  have HO : Hid (Calls _ _ _ w1 _) := (HN.out w1 hb.out).2
  clear HN HF
  go_wp2_with fail
  refine HB.out.mono ?_
  rintro e w2 ⟨rfl, rfl⟩
  go_wp2_with fail
  refine HO.out.mono ?_
  rintro e w3 ⟨lb, rfl, hh⟩
  go_wp2
  go_ret2
  exact ⟨lb, rfl, hh⟩
/-- A disk that is too small. -/
theorem kformat_small (h : Tn w W p nb sb cv n D) (hn : n < 150) :
    Calls Try.prog 5 #[.pointer (some ⟨p, 0, none⟩)] W fun e w' => e = .returned (.iface 44 (.int .i64 4)) ∧ Hid (Below W.heap.size W w') := by
  have HBl : Hid (Calls _ _ _ W _) := lblocks_any h
  have hlt' : (n : Int) < 150 := by omega
  clear h hn
  go_enter Try.func5, Try.ntmps5
  go_wp2_with fail
  refine HBl.out.mono ?_
  rintro e w1 ⟨rfl, rfl⟩
  go_wp2
  go_ret
  exact ⟨rfl, Below.refl _ _⟩
theorem dk0_getD (n i : Nat) : (dk0 n).now.getD i bk0 = bk0 := getD_rep_bk n i
theorem fmB_new {n : Nat} : fmB n (dk0 n) = false := by
  unfold fmB hasP
  rw [dk0_getD]
  have : begB bk0.byt kmB = false := by decide +kernel
  rw [this]
  simp
/-- A new disk is formatted. -/
theorem kformat_new (h : Tn w W p nb sb cv n (dk0 n)) (h1 : 150 ≤ n) (hn : n ≤ 200) :
    Calls Try.prog 5 #[.pointer (some ⟨p, 0, none⟩)] W fun e w' => e = .returned .nilIface ∧ Hid (∃ cv', Tn w w' p nb sb cv' n (kfD n)) ∧ Hid (Keeps w.heap.size dkT W w') := by
  have HBl : Hid (Calls _ _ _ W _) := lblocks_any h
  have hFm := formatL_fresh h 1 (n - 1) (by show (-1 : Int) < 0; decide) (by omega) (by omega) hn ⟨Nat.zero_le _, Nat.zero_le _⟩ (fun i _ => dk0_getD n _)
  rw [show ((n - 1 : Nat) : Int) = (n : Int) - 1 by omega] at hFm
  have HFm : Hid (Calls _ _ _ W _) := hFm
  have hno : fmB n (hdD (dk0 n) 1 (n - 1) 1) = false := by
    unfold fmB hasP
    have e : (hdD (dk0 n) 1 (n - 1) 1).now.getD 0 bk0 = bk0 := by
      show ((List.replicate n bk0).set 1 _).getD 0 bk0 = _
      rw [getD_set_bk, if_neg (by omega), getD_rep_bk]
    rw [e]
    have : begB bk0.byt kmB = false := by decide +kernel
    rw [this]
    simp
  have HF : Hid (∀ (V : World) (cv1 : Value), Tn w V p nb sb cv1 n (hdD (dk0 n) 1 (n - 1) 1) → Calls Try.prog 15 #[.pointer (some ⟨p, 0, none⟩)] V fun e w' => e = .returned (.bool false) ∧ Hid (Below V.heap.size V w')) := fun V cv1 hT => by
    have := formatted_any hT (by omega) hn
    rwa [hno] at this
  have HW : Hid (∀ (V : World) (cv1 : Value), Tn w V p nb sb cv1 n (hdD (dk0 n) 1 (n - 1) 1) → Calls Try.prog 16 #[.pointer (some ⟨p, 0, none⟩), .int .i64 0, .slice (some ⟨V.heap.size, 0, none⟩) 7 7] (V.alloc (.cells #[.int .u8 113, .int .u8 100, .int .u8 32, .int .u8 107, .int .u8 101, .int .u8 112, .int .u8 116] 5 (7, 8))) fun e w' => e = .returned .nilIface ∧ ∃ cv', Hid (Tn w w' p nb sb cv' n ((hdD (dk0 n) 1 (n - 1) 1).write 0 kmB)) ∧ Hid (Keeps w.heap.size dkT V w')) := fun V cv1 hT => by
    have b1 : Below V.heap.size V (V.alloc (.cells #[.int .u8 113, .int .u8 100, .int .u8 32, .int .u8 107, .int .u8 101, .int .u8 112, .int .u8 116] 5 (7, 8))) := (Below.refl _ _).alloc (Nat.le_refl _) _
    refine (tn_write (hT.below b1) 0 (some ⟨V.heap.size, 0, none⟩) kmB 7 rfl (by omega) (by decide) hn (by show 3 ≤ 1000000; decide) (by show 0 ≤ 1000000; decide) (isBy_mark V)).mono ?_
    rintro e w' ⟨rfl, cv', h1, h2⟩
    exact ⟨rfl, cv', h1, (Keeps.of_below b1).trans h2.out⟩
  have HFl : Hid (∀ (V : World) (cv1 : Value), Tn w V p nb sb cv1 n ((hdD (dk0 n) 1 (n - 1) 1).write 0 kmB) → Calls Try.prog 17 #[.pointer (some ⟨p, 0, none⟩)] V fun e w' => e = .returned .nilIface ∧ ∃ cv', Hid (Tn w w' p nb sb cv' n (kfD n)) ∧ Hid (Keeps w.heap.size dkT V w')) := fun V cv1 hT => by
    refine (tn_flush hT rfl (by show 4 ≤ 1000000; decide)).mono ?_
    rintro e w' ⟨rfl, h1, h2⟩
    exact ⟨rfl, _, h1, h2⟩
  have n0 : (150 : Int) ≤ n := by omega
  have n2 : (n : Int) ≤ 200 := by omega
  have hlt : ¬ (n : Int) < 150 := by omega
  clear h h1 hn hFm hno
  generalize hdD (dk0 n) 1 (n - 1) 1 = D1 at *
  generalize D1.write 0 kmB = D2 at *
  go_enter Try.func5, Try.ntmps5
  go_wp2_with fail
  refine HBl.out.mono ?_
  rintro e w1 ⟨rfl, rfl⟩
  go_wp2_with fail
  refine HBl.out.mono ?_
  rintro e w2 ⟨rfl, rfl⟩
  go_wp2_with fail
  refine HFm.out.mono ?_
  rintro e w3 ⟨rfl, cv3, h3, k3⟩
  have HF3 : Hid (Calls _ _ _ w3 _) := HF.out w3 cv3 h3.out
  go_wp2_with fail
  refine HF3.out.mono ?_
  rintro e w4 ⟨rfl, b4⟩
  have HW4 : Hid (Calls _ _ _ _ _) := HW.out w4 cv3 (h3.out.below b4.out)
  have hcv := conv_mark w4
  obtain ⟨W5, hW5⟩ : ∃ W5, w4.alloc (.cells #[.int .u8 113, .int .u8 100, .int .u8 32, .int .u8 107, .int .u8 101, .int .u8 112, .int .u8 116] 5 (7, 8)) = W5 := ⟨_, rfl⟩
  rw [hW5] at hcv HW4
  clear hW5
  have HK4 : Hid (Keeps w.heap.size dkT w2 w4) := k3.out.trans (Keeps.of_below b4.out)
  clear HF HF3 HW HBl HFm h3 k3 b4
  go_wp2_with fail
  refine HW4.out.mono ?_
  rintro e w5 ⟨rfl, cv5, h5, k5⟩
  have HF5 : Hid (Calls _ _ _ w5 _) := HFl.out w5 cv5 h5.out
  clear HW4 HFl h5
  go_wp2_with fail
  refine HF5.out.mono ?_
  rintro e w6 ⟨rfl, cv6, h6, k6⟩
  go_wp2
  go_ret
  exact ⟨rfl, ⟨cv6, h6.out⟩, HK4.out.trans (k5.out.trans k6.out)⟩
end
end Go.Proofs.Ytijjegkkeigeoaa

namespace Go.Proofs.Ytijjegkkeigeoaa
set_option linter.unusedVariables false
set_option linter.unusedSimpArgs false
open Go.RowKit

/-- A line. -/
structure Ln where
  acc : ByteArray
  cur : ByteArray
  amt : Int
def Ln.cells (x : Ln) : Array Value := #[.string x.acc, .string x.cur, .int .i64 x.amt]
/-- A line of nothing. -/
def ln0 : Ln := ⟨ByteArray.empty, ByteArray.empty, 0⟩
/-- A balance. -/
structure Bl where
  ent : Int
  acc : ByteArray
  cur : ByteArray
  amt : Int
def Bl.cells (x : Bl) : Array Value := #[.int .i64 x.ent, .string x.acc, .string x.cur, .int .i64 x.amt]
def bl0 : Bl := ⟨0, ByteArray.empty, ByteArray.empty, 0⟩

theorem toList_inj {a b : ByteArray} (h : a.toList = b.toList) : a = b := by
  rw [Lib.toList_data, Lib.toList_data] at h
  exact WideShapes.bytes_inj h

/-- Seven bits a byte, the low ones first. -/
def encU (u : Nat) : List UInt8 := if u < 128 then [UInt8.ofNat u] else UInt8.ofNat (u % 128 + 128) :: encU (u / 128)
theorem encU_lt {u : Nat} (h : u < 128) : encU u = [UInt8.ofNat u] := by rw [encU, if_pos h]
theorem encU_ge {u : Nat} (h : 128 ≤ u) : encU u = UInt8.ofNat (u % 128 + 128) :: encU (u / 128) := by rw [encU, if_neg (by omega)]
theorem encU_pos (u : Nat) : 1 ≤ (encU u).length := by
  rcases Nat.lt_or_ge u 128 with h | h
  · rw [encU_lt h]; simp
  · rw [encU_ge h]; simp
theorem encU_length : ∀ (f u : Nat), u < 128 ^ (f + 1) → (encU u).length ≤ f + 1
  | 0, u, h => by rw [encU_lt (by omega)]; simp
  | f + 1, u, h => by
    rcases Nat.lt_or_ge u 128 with h1 | h1
    · rw [encU_lt h1]; simp
    · rw [encU_ge h1, List.length_cons]
      have := encU_length f (u / 128) (by rw [Nat.pow_succ] at h; omega)
      omega

/-- A number without its sign. -/
def zig (n : Int) : Nat := if n < 0 then (-2 * n - 1).toNat else (2 * n).toNat
def zag (u : Nat) : Int := if u % 2 = 1 then -((u / 2 : Nat) : Int) - 1 else ((u / 2 : Nat) : Int)
theorem zag_zig (n : Int) : zag (zig n) = n := by
  unfold zag zig
  by_cases h : n < 0
  · rw [if_pos h, if_pos (by omega)]; omega
  · rw [if_neg h, if_neg (by omega)]; omega
theorem zig_zag (u : Nat) : zig (zag u) = u := by
  unfold zag zig
  by_cases h : u % 2 = 1
  · rw [if_pos h, if_pos (by omega)]; omega
  · rw [if_neg h, if_neg (by omega)]; omega
/-- A number as bytes. -/
def numB (n : Int) : List UInt8 := encU (zig n)
theorem zig_lt {n : Int} (h1 : -9223372036854775808 ≤ n) (h2 : n ≤ 9223372036854775807) : zig n < 18446744073709551616 := by
  unfold zig; split <;> omega
theorem numB_length {n : Int} (h1 : -9223372036854775808 ≤ n) (h2 : n ≤ 9223372036854775807) : (numB n).length ≤ 10 :=
  encU_length 9 _ (by have := zig_lt h1 h2; omega)
theorem numB_pos (n : Int) : 1 ≤ (numB n).length := encU_pos _

/-- A text as bytes. -/
def textB (s : ByteArray) : List UInt8 := numB s.size ++ s.data.toList
theorem data_length (s : ByteArray) : s.data.toList.length = s.size := by rw [Array.length_toList]; rfl
theorem textB_length {s : ByteArray} (h : s.size ≤ 24) : (textB s).length ≤ 34 := by
  have := @numB_length s.size (by omega) (by omega)
  rw [textB, List.length_append, data_length]; omega

/-- So many bytes of a number. -/
def rdF : Nat → Bool → List UInt8 → Option (Nat × List UInt8)
  | 0, _, _ => none
  | _ + 1, _, [] => none
  | f + 1, first, b :: r => if 128 ≤ b.toNat then (rdF f false r).map (fun x => (b.toNat % 128 + 128 * x.1, x.2)) else if b.toNat = 0 ∧ first = false then none else some (b.toNat, r)

theorem rdF_bound : ∀ (f : Nat) (q : Bool) (l : List UInt8) (u : Nat) (r : List UInt8), rdF f q l = some (u, r) → u < 128 ^ f
  | 0, _, _, _, _, h => by simp [rdF] at h
  | f + 1, q, [], _, _, h => by simp [rdF] at h
  | f + 1, q, b :: l, u, r, h => by
    rw [rdF] at h
    split at h
    · cases hr : rdF f false l with
      | none => simp [hr] at h
      | some x =>
        obtain ⟨u1, r1⟩ := x
        have := rdF_bound f false l u1 r1 hr
        simp [hr] at h
        obtain ⟨rfl, rfl⟩ := h
        rw [Nat.pow_succ]
        omega
    · split at h
      · cases h
      · simp at h
        obtain ⟨rfl, rfl⟩ := h
        have : 0 < 128 ^ f := Nat.pow_pos (by omega)
        rw [Nat.pow_succ]
        omega

/-- What is read was so written. -/
theorem rdF_back : ∀ (f : Nat) (q : Bool) (l : List UInt8) (u : Nat) (r : List UInt8), rdF f q l = some (u, r) → l = encU u ++ r ∧ (q = false → u ≠ 0)
  | 0, _, _, _, _, h => by simp [rdF] at h
  | f + 1, q, [], _, _, h => by simp [rdF] at h
  | f + 1, q, b :: l, u, r, h => by
    have hb := b.toNat_lt
    rw [rdF] at h
    split at h
    · rename_i h1
      cases hr : rdF f false l with
      | none => simp [hr] at h
      | some x =>
        obtain ⟨u1, r1⟩ := x
        obtain ⟨e, hn⟩ := rdF_back f false l u1 r1 hr
        have hn := hn rfl
        simp [hr] at h
        obtain ⟨rfl, rfl⟩ := h
        have e1 : (b.toNat % 128 + 128 * u1) % 128 + 128 = b.toNat := by omega
        have e2 : (b.toNat % 128 + 128 * u1) / 128 = u1 := by omega
        refine ⟨?_, fun _ => by omega⟩
        rw [encU_ge (by omega), e1, e2, e]
        simp
    · rename_i h1
      split at h
      · cases h
      · rename_i h2
        simp at h
        obtain ⟨rfl, rfl⟩ := h
        refine ⟨?_, fun hq h0 => h2 ⟨h0, hq⟩⟩
        rw [encU_lt (by omega)]
        simp

/-- What is written is read. -/
theorem rdF_enc : ∀ (f : Nat) (q : Bool) (u : Nat) (r : List UInt8), u < 128 ^ f → (q = false → u ≠ 0) → 1 ≤ f → rdF f q (encU u ++ r) = some (u, r)
  | 0, _, _, _, _, _, hf => absurd hf (by omega)
  | f + 1, q, u, r, h, hq, _ => by
    rcases Nat.lt_or_ge u 128 with h1 | h1
    · have e : (UInt8.ofNat u).toNat = u := by simp; omega
      rw [encU_lt h1, List.singleton_append, rdF, e, if_neg (by omega), if_neg (fun hh => hq hh.2 hh.1)]
    · have e : (UInt8.ofNat (u % 128 + 128)).toNat = u % 128 + 128 := by simp; omega
      rw [encU_ge h1, List.cons_append, rdF, e, if_pos (by omega)]
      have hf : 1 ≤ f := by
        rcases f with _ | f
        · simp at h; omega
        · omega
      rw [rdF_enc f false (u / 128) r (by rw [Nat.pow_succ] at h; omega) (fun _ => by omega) hf]
      simp
      omega

theorem rdF_more : ∀ (f : Nat) (q : Bool) (l : List UInt8) (u : Nat) (r t : List UInt8), rdF f q l = some (u, r) → rdF f q (l ++ t) = some (u, r ++ t)
  | 0, _, _, _, _, _, h => by simp [rdF] at h
  | f + 1, q, [], _, _, _, h => by simp [rdF] at h
  | f + 1, q, b :: l, u, r, t, h => by
    rw [List.cons_append, rdF]
    rw [rdF] at h
    split at h
    · rename_i h1
      rw [if_pos h1]
      cases hr : rdF f false l with
      | none => simp [hr] at h
      | some x =>
        obtain ⟨u1, r1⟩ := x
        rw [rdF_more f false l u1 r1 t hr]
        simp [hr] at h ⊢
        exact ⟨h.1, by rw [h.2]⟩
    · rename_i h1
      rw [if_neg h1]
      split at h
      · cases h
      · rename_i h2
        rw [if_neg h2]
        simp at h ⊢
        exact ⟨h.1, by rw [h.2]⟩

/-- A number that has bounds, read. -/
def rdN (lo hi : Int) (l : List UInt8) : Option (Int × List UInt8) :=
  match rdF 9 true l with
  | none => none
  | some (u, r) => if lo ≤ zag u ∧ zag u ≤ hi then some (zag u, r) else none

theorem rdN_back {lo hi : Int} {l r : List UInt8} {n : Int} (h : rdN lo hi l = some (n, r)) : l = numB n ++ r ∧ lo ≤ n ∧ n ≤ hi := by
  unfold rdN at h
  cases hr : rdF 9 true l with
  | none => simp [hr] at h
  | some x =>
    obtain ⟨u, r1⟩ := x
    simp only [hr] at h
    split at h
    · rename_i h1
      simp at h
      obtain ⟨rfl, rfl⟩ := h
      exact ⟨by rw [numB, zig_zag]; exact (rdF_back 9 true l u r1 hr).1, h1.1, h1.2⟩
    · cases h
theorem rdN_enc {lo hi n : Int} (r : List UInt8) (h1 : lo ≤ n) (h2 : n ≤ hi) (h3 : -4611686018427387904 ≤ n) (h4 : n ≤ 4611686018427387903) : rdN lo hi (numB n ++ r) = some (n, r) := by
  unfold rdN numB
  rw [rdF_enc 9 true (zig n) r (by unfold zig; split <;> omega) (fun h => by cases h) (by omega)]
  simp only [zag_zig]
  rw [if_pos ⟨h1, h2⟩]
theorem rdN_more {lo hi : Int} {l r : List UInt8} {n : Int} (t : List UInt8) (h : rdN lo hi l = some (n, r)) : rdN lo hi (l ++ t) = some (n, r ++ t) := by
  unfold rdN at h ⊢
  cases hr : rdF 9 true l with
  | none => simp [hr] at h
  | some x =>
    obtain ⟨u, r1⟩ := x
    rw [rdF_more 9 true l u r1 t hr]
    simp only [hr] at h
    simp only
    split at h
    · rename_i h1
      rw [if_pos h1]
      simp at h ⊢
      exact ⟨h.1, by rw [h.2]⟩
    · cases h

theorem txt_size (l : List UInt8) : (txt l).size = l.length := by simp [txt, ByteArray.size]
theorem txt_data (l : List UInt8) : (txt l).data.toList = l := by simp [txt]
theorem data_txt (s : ByteArray) : txt s.data.toList = s := by simp [txt]

/-- A text, read. -/
def rdT (l : List UInt8) : Option (ByteArray × List UInt8) :=
  match rdN 0 24 l with
  | none => none
  | some (n, r) => if n.toNat ≤ r.length then some (txt (r.take n.toNat), r.drop n.toNat) else none
theorem rdT_back {l r : List UInt8} {s : ByteArray} (h : rdT l = some (s, r)) : l = textB s ++ r ∧ s.size ≤ 24 := by
  unfold rdT at h
  cases hr : rdN 0 24 l with
  | none => simp [hr] at h
  | some x =>
    obtain ⟨n, r1⟩ := x
    obtain ⟨e, h1, h2⟩ := rdN_back hr
    simp only [hr] at h
    split at h
    · rename_i h3
      simp at h
      obtain ⟨rfl, rfl⟩ := h
      have hsz : (txt (r1.take n.toNat)).size = n.toNat := by rw [txt_size, List.length_take]; omega
      refine ⟨?_, by rw [hsz]; omega⟩
      unfold textB
      rw [hsz, txt_data, show ((n.toNat : Nat) : Int) = n by omega, List.append_assoc, List.take_append_drop]
      exact e
    · cases h
theorem rdT_enc {s : ByteArray} (r : List UInt8) (h : s.size ≤ 24) : rdT (textB s ++ r) = some (s, r) := by
  unfold rdT textB
  rw [List.append_assoc, rdN_enc _ (by omega) (by omega) (by omega) (by omega)]
  simp only [Int.toNat_natCast]
  have hl := data_length s
  rw [if_pos (by rw [List.length_append, hl]; omega), ← hl, List.take_left, List.drop_left, data_txt]
theorem rdT_more {l r : List UInt8} {s : ByteArray} (t : List UInt8) (h : rdT l = some (s, r)) : rdT (l ++ t) = some (s, r ++ t) := by
  obtain ⟨e, hs⟩ := rdT_back h
  rw [e, List.append_assoc]
  exact rdT_enc _ hs

/-- The most that an amount may be. -/
def mostA : Int := 1000000000000000
def lineB (x : Ln) : List UInt8 := textB x.acc ++ textB x.cur ++ numB x.amt
def LnFit (x : Ln) : Prop := x.acc.size ≤ 24 ∧ x.cur.size ≤ 24 ∧ -mostA ≤ x.amt ∧ x.amt ≤ mostA
/-- A line, read. -/
def rdL (l : List UInt8) : Option (Ln × List UInt8) :=
  (rdT l).bind fun x => (rdT x.2).bind fun y => (rdN (-mostA) mostA y.2).map fun z => (⟨x.1, y.1, z.1⟩, z.2)
theorem rdL_back {l r : List UInt8} {x : Ln} (h : rdL l = some (x, r)) : l = lineB x ++ r ∧ LnFit x := by
  unfold rdL at h
  cases h1 : rdT l with
  | none => simp [h1] at h
  | some x1 =>
    obtain ⟨a, l1⟩ := x1
    cases h2 : rdT l1 with
    | none => simp [h1, h2] at h
    | some x2 =>
      obtain ⟨c, l2⟩ := x2
      cases h3 : rdN (-mostA) mostA l2 with
      | none => simp [h1, h2, h3] at h
      | some x3 =>
        obtain ⟨m, l3⟩ := x3
        simp [h1, h2, h3] at h
        obtain ⟨rfl, rfl⟩ := h
        obtain ⟨e1, f1⟩ := rdT_back h1
        obtain ⟨e2, f2⟩ := rdT_back h2
        obtain ⟨e3, f3, f4⟩ := rdN_back h3
        refine ⟨?_, f1, f2, f3, f4⟩
        rw [e1, e2, e3]
        simp [lineB]
theorem rdL_enc {x : Ln} (r : List UInt8) (h : LnFit x) : rdL (lineB x ++ r) = some (x, r) := by
  obtain ⟨h1, h2, h3, h4⟩ := h
  unfold mostA at h3 h4
  unfold rdL lineB mostA
  rw [List.append_assoc, List.append_assoc, rdT_enc _ h1]
  simp only [Option.bind_some]
  rw [rdT_enc _ h2]
  simp only [Option.bind_some]
  rw [rdN_enc _ h3 h4 (by omega) (by omega)]
  rfl
theorem rdL_more {l r : List UInt8} {x : Ln} (t : List UInt8) (h : rdL l = some (x, r)) : rdL (l ++ t) = some (x, r ++ t) := by
  obtain ⟨e, hs⟩ := rdL_back h
  rw [e, List.append_assoc]
  exact rdL_enc _ hs

/-- So many lines, read. -/
def rdLs : Nat → List UInt8 → Option (List Ln × List UInt8)
  | 0, l => some ([], l)
  | k + 1, l => (rdL l).bind fun x => (rdLs k x.2).map fun y => (x.1 :: y.1, y.2)
def linesB (l : List Ln) : List UInt8 := l.flatMap lineB
theorem rdLs_back : ∀ (k : Nat) (l r : List UInt8) (xs : List Ln), rdLs k l = some (xs, r) → l = linesB xs ++ r ∧ xs.length = k ∧ ∀ x ∈ xs, LnFit x
  | 0, l, r, xs, h => by
    simp [rdLs] at h
    obtain ⟨rfl, rfl⟩ := h
    exact ⟨by simp [linesB], rfl, by simp⟩
  | k + 1, l, r, xs, h => by
    rw [rdLs] at h
    cases h1 : rdL l with
    | none => simp [h1] at h
    | some x1 =>
      obtain ⟨x, l1⟩ := x1
      cases h2 : rdLs k l1 with
      | none => simp [h1, h2] at h
      | some x2 =>
        obtain ⟨ys, l2⟩ := x2
        simp [h1, h2] at h
        obtain ⟨rfl, rfl⟩ := h
        obtain ⟨e1, f1⟩ := rdL_back h1
        obtain ⟨e2, f2, f3⟩ := rdLs_back k l1 l2 ys h2
        refine ⟨?_, by simp [f2], fun y hy => ?_⟩
        · rw [e1, e2]; simp [linesB]
        · rcases List.mem_cons.1 hy with rfl | hy
          · exact f1
          · exact f3 y hy
theorem rdLs_enc : ∀ (xs : List Ln) (r : List UInt8), (∀ x ∈ xs, LnFit x) → rdLs xs.length (linesB xs ++ r) = some (xs, r)
  | [], r, _ => by simp [rdLs, linesB]
  | x :: xs, r, h => by
    have := rdLs_enc xs r (fun y hy => h y (List.mem_cons_of_mem _ hy))
    rw [List.length_cons, rdLs]
    have e : linesB (x :: xs) ++ r = lineB x ++ (linesB xs ++ r) := by simp [linesB]
    rw [e, rdL_enc _ (h x (List.mem_cons_self ..))]
    simp [this]

/-- An entry. -/
structure En where
  ref : ByteArray
  ent : Int
  per : Int
  lns : List Ln
def EnFit (e : En) : Prop := e.ref.size ≤ 24 ∧ (0 ≤ e.ent ∧ e.ent ≤ 200) ∧ (0 ≤ e.per ∧ e.per ≤ 200) ∧ e.lns.length ≤ 20 ∧ ∀ x ∈ e.lns, LnFit x
def entB (e : En) : List UInt8 := textB e.ref ++ numB e.ent ++ numB e.per ++ numB e.lns.length ++ linesB e.lns
/-- An entry, read. -/
def rdE (l : List UInt8) : Option (En × List UInt8) :=
  (rdT l).bind fun a => (rdN 0 200 a.2).bind fun b => (rdN 0 200 b.2).bind fun c => (rdN 0 20 c.2).bind fun d => (rdLs d.1.toNat d.2).map fun y => (⟨a.1, b.1, c.1, y.1⟩, y.2)
theorem rdE_back {l r : List UInt8} {e : En} (h : rdE l = some (e, r)) : l = entB e ++ r ∧ EnFit e := by
  unfold rdE at h
  cases h1 : rdT l with
  | none => simp [h1] at h
  | some x1 =>
    obtain ⟨a, l1⟩ := x1
    cases h2 : rdN 0 200 l1 with
    | none => simp [h1, h2] at h
    | some x2 =>
      obtain ⟨b, l2⟩ := x2
      cases h3 : rdN 0 200 l2 with
      | none => simp [h1, h2, h3] at h
      | some x3 =>
        obtain ⟨c, l3⟩ := x3
        cases h4 : rdN 0 20 l3 with
        | none => simp [h1, h2, h3, h4] at h
        | some x4 =>
          obtain ⟨d, l4⟩ := x4
          cases h5 : rdLs d.toNat l4 with
          | none => simp [h1, h2, h3, h4, h5] at h
          | some x5 =>
            obtain ⟨ys, l5⟩ := x5
            simp [h1, h2, h3, h4, h5] at h
            obtain ⟨rfl, rfl⟩ := h
            obtain ⟨e1, f1⟩ := rdT_back h1
            obtain ⟨e2, f2, g2⟩ := rdN_back h2
            obtain ⟨e3, f3, g3⟩ := rdN_back h3
            obtain ⟨e4, f4, g4⟩ := rdN_back h4
            obtain ⟨e5, f5, g5⟩ := rdLs_back _ _ _ _ h5
            refine ⟨?_, f1, ⟨f2, g2⟩, ⟨f3, g3⟩, by show ys.length ≤ 20; omega, g5⟩
            have ed : ((ys.length : Nat) : Int) = d := by omega
            rw [e1, e2, e3, e4, e5]
            simp [entB, ed]
theorem rdE_enc {e : En} (r : List UInt8) (h : EnFit e) : rdE (entB e ++ r) = some (e, r) := by
  obtain ⟨a, b, c, xs⟩ := e
  obtain ⟨h1, ⟨h2, h2'⟩, ⟨h3, h3'⟩, h4, h5⟩ := h
  simp only at h1 h2 h2' h3 h3' h4 h5
  unfold rdE entB
  simp only [List.append_assoc]
  rw [rdT_enc _ h1]
  simp only [Option.bind_some]
  rw [rdN_enc _ h2 h2' (by omega) (by omega)]
  simp only [Option.bind_some]
  rw [rdN_enc _ h3 h3' (by omega) (by omega)]
  simp only [Option.bind_some]
  rw [rdN_enc _ (by omega) (by omega) (by omega) (by omega)]
  simp only [Option.bind_some, Int.toNat_natCast]
  rw [rdLs_enc _ _ h5]
  rfl
theorem entB_pos (e : En) : 1 ≤ (entB e).length := by
  have := numB_pos e.ent
  simp only [entB, List.length_append]
  omega
/-- A part of it is none. -/
theorem rdE_cut {e : En} (h : EnFit e) : rdE ((entB e).take ((entB e).length - 1)) = none := by
  cases hr : rdE ((entB e).take ((entB e).length - 1)) with
  | none => rfl
  | some x =>
    obtain ⟨y, r⟩ := x
    obtain ⟨e1, hf⟩ := rdE_back hr
    have h2 : entB e = entB y ++ (r ++ (entB e).drop ((entB e).length - 1)) := by
      rw [← List.append_assoc, ← e1, List.take_append_drop]
    have h3 := rdE_enc (e := e) [] h
    rw [List.append_nil, h2, rdE_enc _ hf] at h3
    simp at h3
    have h4 := h3.2.2
    have := entB_pos e
    omega
end Go.Proofs.Ytijjegkkeigeoaa
