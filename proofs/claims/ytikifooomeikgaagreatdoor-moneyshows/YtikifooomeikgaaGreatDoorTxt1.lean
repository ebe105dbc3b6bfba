/-
  The contracts of money.arePlaces, withPoint, withoutPoint, isShown.
-/
import Derived.Test.YtikifooomeikgaaGreatDoorProg
import Derived.WalkKit
import Derived.WalkSpells
import Derived.ShutString
import Derived.Lib.OthersKept
import Derived.Lib.TrimU
import Derived.Deep.LoopGhost
import Derived.Deep.QuietTactic
import Derived.BigQuiet
namespace Go.Proofs.YtikifooomeikgaaGreatDoor
set_option linter.unusedVariables false
set_option linter.unusedSimpArgs false
open Go.RowKit

/-- A text out of its bytes. -/
def txt (l : List UInt8) : ByteArray := ⟨l.toArray⟩

theorem txt_size (l : List UInt8) : (txt l).size = l.length := size_of_list l
theorem txt_list (l : List UInt8) : (txt l).data.toList = l := rfl
theorem txt_of (s : ByteArray) : s = txt s.data.toList := rfl
theorem txt_app (a b : List UInt8) : txt a ++ txt b = txt (a ++ b) := by
  apply ByteArray.ext
  simp [txt]
theorem txt_take (l : List UInt8) (k : Nat) : (txt l).extract 0 k = txt (l.take k) := by
  apply ByteArray.ext
  simp [txt]
theorem txt_drop (l : List UInt8) (k : Nat) : (txt l).extract k (txt l).size = txt (l.drop k) := by
  apply ByteArray.ext
  rw [txt_size]
  simp [txt]
  exact List.take_of_length_le (by simp)

theorem run_take (l : List UInt8) (k : Nat) (hk : k ≤ l.length) (W : World) : (Instr.slice 9 (.string (txt l)) none (some (.int .i64 (k : Int))) none).run Tryz.prog W = .ok (.string (txt (l.take k))) W := by
  rw [run_slice_string_h W 9 (txt l) Tryz.underlying9 .i64 k (by omega) (by rw [txt_size]; omega), Int.toNat_natCast, txt_take]
theorem run_drop (l : List UInt8) (k : Nat) (hk : k ≤ l.length) (W : World) : (Instr.slice 9 (.string (txt l)) (some (.int .i64 (k : Int))) none none).run Tryz.prog W = .ok (.string (txt (l.drop k))) W := by
  rw [run_slice_string_l W 9 (txt l) Tryz.underlying9 .i64 k (by omega) (by rw [txt_size]; omega), Int.toNat_natCast, txt_drop]
theorem run_app (a b : List UInt8) (h : a.length + b.length ≤ 9223372036854775807) (W : World) : (Op.stringOp .add (txt a) (txt b)).run Tryz.prog W = .ok (.string (txt (a ++ b))) W := by
  rw [run_string_add_sum W (txt a) (txt b) (by rw [txt_size, txt_size]; exact h), txt_app]

/-- The point, so many places ahead of the end. -/
def pointL (l : List UInt8) (p : Nat) : List UInt8 := if p = 0 then l else l.take (l.length - p) ++ 46 :: l.drop (l.length - p)

theorem arePlaces_any (p : Int) (w : World) :
    Calls Tryz.prog 12 #[.int .i64 p] w fun e w' => e = .returned (.bool (decide (0 ≤ p) && decide (p ≤ 6))) ∧ w' = w := by
  by_cases h : 0 ≤ p
  · go_enter Tryz.func12, Tryz.ntmps12
    go_wp2
    go_ret
    refine ⟨?_, rfl⟩
    simp [h]
  · go_enter Tryz.func12, Tryz.ntmps12
    go_wp2
    go_ret
    refine ⟨?_, rfl⟩
    simp; omega

set_option maxHeartbeats 1600000 in
theorem withPoint_any (l : List UInt8) (p : Nat) (hp : p ≤ l.length) (hp6 : p ≤ 6) (hl : l.length ≤ 1000) (w : World) :
    Calls Tryz.prog 16 #[.string (txt l), .int .i64 p] w fun e w' => e = .returned (.string (txt (pointL l p))) ∧ ∃ n, w' = w.drewN n := by
  by_cases h : p = 0
  · subst h
    go_enter Tryz.func16, Tryz.ntmps16
    go_wp2
    go_ret
    exact ⟨rfl, 0, rfl⟩
  · have h0 : ¬ (p : Int) = 0 := by omega
    have hd : pointL l p = (l.take (l.length - p) ++ [46]) ++ l.drop (l.length - p) := by simp [pointL, h]
    obtain ⟨k, hk⟩ : ∃ k, l.length - p = k := ⟨_, rfl⟩
    have hk' : (l.length : Int) - p = k := by omega
    have hT := run_take l k (by omega)
    have hD := run_drop l k (by omega)
    have hA := run_app (l.take k) [46] (by simp; omega)
    have hB := run_app (l.take k ++ [46]) (l.drop k) (by simp; omega)
    have hz := txt_size l
    have e46 : txt [46] = ⟨#[46]⟩ := rfl
    rw [e46] at hA
    rw [hd, hk]
    obtain ⟨s, hs⟩ : ∃ s, txt l = s := ⟨_, rfl⟩
    obtain ⟨sT, hsT⟩ : ∃ s, txt (l.take k) = s := ⟨_, rfl⟩
    obtain ⟨sD, hsD⟩ : ∃ s, txt (l.drop k) = s := ⟨_, rfl⟩
    obtain ⟨sA, hsA⟩ : ∃ s, txt (l.take k ++ [46]) = s := ⟨_, rfl⟩
    obtain ⟨sB, hsB⟩ : ∃ s, txt (l.take k ++ [46] ++ l.drop k) = s := ⟨_, rfl⟩
    rw [hs] at hT hD hz; rw [hsT] at hT hA; rw [hsD] at hD hB; rw [hsA] at hA hB; rw [hsB] at hB
    rw [hs, hsB]
    have hz' : (s.size : Int) - p = k := by omega
    clear hs hsT hsD hsA hsB hd
    go_enter Tryz.func16, Tryz.ntmps16
    go_wp2
    go_quiet (fail)
    go_wp2
    go_ret
    exact ⟨rfl, _, rfl⟩

/-- The text without its point, so many places ahead of the end. -/
def unL (l : List UInt8) (p : Nat) : Option (List UInt8) :=
  if p = 0 then some l else if p + 1 ≤ l.length ∧ l[l.length - p - 1]? = some 46 then some (l.take (l.length - p - 1) ++ l.drop (l.length - p)) else none

set_option maxHeartbeats 1600000 in
theorem withoutPoint_any (l : List UInt8) (p : Nat) (hp6 : p ≤ 6) (hl : l.length ≤ 9223372036854775807) (w : World) :
    Calls Tryz.prog 23 #[.string (txt l), .int .i64 p] w fun e w' => e = .returned (.tuple #[.string (txt ((unL l p).getD [])), .bool (unL l p).isSome]) ∧ ∃ n, w' = w.drewN n := by
  by_cases h : p = 0
  · subst h
    go_enter Tryz.func23, Tryz.ntmps23
    go_wp2
    go_ret2
    exact ⟨rfl, 0, rfl⟩
  have h0 : ¬ (p : Int) = 0 := by omega
  have hz := txt_size l
  by_cases hlt : p + 1 ≤ l.length
  · obtain ⟨k, hk⟩ : ∃ k, l.length - p - 1 = k := ⟨_, rfl⟩
    have hkl : k < l.length := by omega
    have hI : ∀ W, (Instr.index 9 (.string (txt l)) (.int .i64 (k : Int))).run Tryz.prog W = .ok (.int .u8 ((l[k]'hkl).toNat : Int)) W := fun W => by
      rw [run_index_string W 9 (txt l) .i64 k Tryz.underlying9, dif_pos ⟨by omega, by rw [txt_size]; omega⟩]
      rfl
    by_cases hc : l[k]'hkl = 46
    · have hu : unL l p = some (l.take k ++ l.drop (k + 1)) := by
        have e1 : l.length - p = k + 1 := by omega
        simp only [unL, h, if_false, hk]
        rw [if_pos ⟨hlt, by rw [List.getElem?_eq_getElem hkl, hc]⟩, e1]
      have hT := run_take l k (by omega)
      have hD := run_drop l (k + 1) (by omega)
      have hA := run_app (l.take k) (l.drop (k + 1)) (by simp; omega)
      rw [hu]
      simp only [Option.getD_some, Option.isSome_some]
      rw [hc] at hI
      obtain ⟨s, hs⟩ : ∃ s, txt l = s := ⟨_, rfl⟩
      obtain ⟨sT, hsT⟩ : ∃ s, txt (l.take k) = s := ⟨_, rfl⟩
      obtain ⟨sD, hsD⟩ : ∃ s, txt (l.drop (k + 1)) = s := ⟨_, rfl⟩
      obtain ⟨sA, hsA⟩ : ∃ s, txt (l.take k ++ l.drop (k + 1)) = s := ⟨_, rfl⟩
      rw [hs] at hT hD hz hI; rw [hsT] at hT hA; rw [hsD] at hD hA; rw [hsA] at hA
      rw [hs, hsA]
      have hI2 : ∀ W, (Instr.index 9 (.string s) (.int .i64 (k : Int))).run Tryz.prog W = .ok (.int .u8 46) W := hI
      have hz1 : (s.size : Int) - p = k + 1 := by omega
      have hz2 : (s.size : Int) - p - 1 = k := by omega
      have hD2 : ∀ W, (Instr.slice 9 (.string s) (some (.int .i64 ((k : Int) + 1))) none none).run Tryz.prog W = .ok (.string sD) W := fun W => by
        have := hD W; rw [show ((k + 1 : Nat) : Int) = (k : Int) + 1 from rfl] at this; exact this
      have hk0 : ¬ (k : Int) < 0 := by omega
      have hsb : (s.size : Int) ≤ 9223372036854775807 := by omega
      clear hI hD hs hsT hsD hsA hu hc hk hz hl hlt hkl
      go_enter Tryz.func23, Tryz.ntmps23
      go_wp2
      go_quiet (fail)
      go_wp2
      go_ret2
      exact ⟨rfl, _, rfl⟩
    · have hu : unL l p = none := by
        simp only [unL, h, if_false, hk]
        rw [if_neg (by rw [List.getElem?_eq_getElem hkl]; rintro ⟨_, h'⟩; exact hc (Option.some.inj h'))]
      rw [hu]
      have hcn : ¬ ((l[k]'hkl).toNat : Int) = 46 := by
        intro h'; apply hc; apply UInt8.toNat_inj.1; show _ = 46; omega
      obtain ⟨c, hc'⟩ : ∃ c : Int, ((l[k]'hkl).toNat : Int) = c := ⟨_, rfl⟩
      rw [hc'] at hI hcn
      obtain ⟨s, hs⟩ : ∃ s, txt l = s := ⟨_, rfl⟩
      rw [hs] at hI hz
      rw [hs]
      have hz2 : (s.size : Int) - p - 1 = k := by omega
      have hz1 : (s.size : Int) - p = k + 1 := by omega
      have hk0 : ¬ (k : Int) < 0 := by omega
      have hsb : (s.size : Int) ≤ 9223372036854775807 := by omega
      clear hs hc' hc hu hk hz hl hlt hkl
      go_enter Tryz.func23, Tryz.ntmps23
      go_wp2
      go_ret2
      exact ⟨rfl, 0, rfl⟩
  · have hu : unL l p = none := by
      simp only [unL, h, if_false]
      rw [if_neg (fun h' => hlt h'.1)]
    rw [hu]
    obtain ⟨s, hs⟩ : ∃ s, txt l = s := ⟨_, rfl⟩
    rw [hs] at hz
    rw [hs]
    have hz2 : (s.size : Int) - p - 1 < 0 := by omega
    have hz3 : -8 < (s.size : Int) - p - 1 := by omega
    clear hs hu hz
    go_enter Tryz.func23, Tryz.ntmps23
    go_wp2
    go_ret2
    exact ⟨rfl, 0, rfl⟩
end Go.Proofs.YtikifooomeikgaaGreatDoor
