/-
  The contracts of dayref1's Cur, Period and Entity.
-/
import Derived.Test.YtiolkeipgpkbmaaGreatDoorZg24
import Derived.Deep.RegionLaw
import Derived.Test.YtiolkeipgpkbmaaGreatDoorZg16
import Derived.Deep.QuietTactic
import Derived.BigQuiet
namespace Go.Proofs.YtiolkeipgpkbmaaGreatDoor
set_option linter.unusedVariables false
set_option linter.unusedSimpArgs false
set_option maxRecDepth 100000
open Go.RowKit Go.Lib

theorem run_append_empty {P : Program} (w : World) (t ty e : TypeId) (size : Nat) (ht : P.underlying t = some (.slice e)) (hz : (Go.sizeOf e).run P w = .ok size w) (base a : Option Addr) (sLen sCap c : Nat) (hle : sLen ≤ sCap) :
    (Builtin.append_ #[t, t] ty #[.slice base sLen sCap, .slice a 0 c]).run P w = .ok (.slice base sLen sCap) w := by
  cases a <;> cases base <;> simp [Builtin.append_, run_underlying ht, hz, Builtin.lenOf, Builtin.firstCells, loadCells, loadCellsFrom, storeCells, hle]

theorem insL_ne (x : Ln) : ∀ l : List Ln, insL x l ≠ []
  | [] => by simp [insL]
  | y :: l => by
    rw [insL]
    split
    · simp
    · split <;> simp
theorem LnsAt.take {W : World} {b off : Nat} {l : List Ln} (h : LnsAt W b off l) (p : Nat) : LnsAt W b off (l.take p) := fun k hk => by
  rw [List.length_take] at hk
  have : (l.take p).getD k ln0 = l.getD k ln0 := by
    rw [List.getD_eq_getElem?_getD, List.getD_eq_getElem?_getD, List.getElem?_take, if_pos (by omega)]
  rw [this]
  exact h k (by omega)
theorem LnsAt.drop {W : World} {b off : Nat} {l : List Ln} (h : LnsAt W b off l) (p : Nat) : LnsAt W b (off + p * 3) (l.drop p) := fun k hk => by
  rw [List.length_drop] at hk
  have : (l.drop p).getD k ln0 = l.getD (p + k) ln0 := by
    rw [List.getD_eq_getElem?_getD, List.getD_eq_getElem?_getD, List.getElem?_drop]
  rw [this, show off + p * 3 + k * 3 = off + (p + k) * 3 by omega]
  exact h (p + k) (by omega)
theorem lns_cells {W : World} {b off : Nat} {l : List Ln} (h : LnsAt W b off l) : ∀ j u, (lnRow l)[j]? = some u → W.cell? ((⟨b, off, none⟩ : Addr).add j) = some u := by
  intro j u hj
  rw [Addr.add_lit]
  obtain ⟨q, r, hr, rfl⟩ : ∃ q r, r < 3 ∧ j = q * 3 + r := ⟨j / 3, j % 3, Nat.mod_lt _ (by omega), by omega⟩
  have hlt := (List.getElem?_eq_some_iff.1 hj).1
  rw [lnRow_length] at hlt
  have hq : q < l.length := by omega
  rw [lnRow_get l q r hq hr] at hj
  have := h q hq
  rcases (by omega : r = 0 ∨ r = 1 ∨ r = 2) with rfl | rfl | rfl
  · rw [← hj, Nat.add_zero, this.c0]; rfl
  · rw [← hj, ← Nat.add_assoc, this.c1]; rfl
  · rw [← hj, ← Nat.add_assoc, this.c2]; rfl

theorem LnAt.grown {W W' : World} {b off : Nat} {row : Option Nat} {x : Ln} (h : LnAt W b off x) (hg : W.grownBy W' row) (hr : row ≠ some b) : LnAt W' b off x := by
  have hlt : b < W.heap.size := World.block_lt_of_cell? _ _ h.c0
  have hb : W'.heap[b]? = W.heap[b]? := hg.block b hlt (fun e => hr e.symm)
  exact ⟨(World.cell?_of_block (a := ⟨b, off, none⟩) hb).trans h.c0, (World.cell?_of_block (a := ⟨b, off + 1, none⟩) hb).trans h.c1, (World.cell?_of_block (a := ⟨b, off + 2, none⟩) hb).trans h.c2⟩
theorem LnsAt.grown {W W' : World} {b off : Nat} {row : Option Nat} {l : List Ln} (h : LnsAt W b off l) (hg : W.grownBy W' row) (hr : row ≠ some b) : LnsAt W' b off l := fun k hk => (h k hk).grown hg hr
theorem LnRow.at {W : World} {n0 g cap : Nat} {l : List Ln} (h : LnRow W n0 (.slice (some ⟨g, 0, none⟩) l.length cap) l) : LnsAt W g 0 l ∧ l.length ≤ cap := by
  obtain ⟨a', cq', hv, hsl'⟩ := h.isLn
  cases hv
  refine ⟨?_, hsl'.cap⟩
  rcases hsl'.lies with h0 | ⟨b', off', e, _, hc'⟩
  · rw [h0]; exact fun k hk => absurd hk (by simp)
  · cases e; exact hc'

end Go.Proofs.YtiolkeipgpkbmaaGreatDoor

namespace Go.Proofs.YtiolkeipgpkbmaaGreatDoor
set_option linter.unusedVariables false
set_option linter.unusedSimpArgs false
set_option maxRecDepth 100000
open Go.RowKit Go.Lib

end Go.Proofs.YtiolkeipgpkbmaaGreatDoor

namespace Go.Proofs.YtiolkeipgpkbmaaGreatDoor
set_option linter.unusedVariables false
set_option linter.unusedSimpArgs false
set_option maxRecDepth 100000
open Go.RowKit Go.Lib

/-- A currency, letter by letter. -/
def isCurB (s : ByteArray) : Bool := s.size == 3 && ((65 ≤ (s.get! 0).toNat && (s.get! 0).toNat ≤ 90) && ((65 ≤ (s.get! 1).toNat && (s.get! 1).toNat ≤ 90) && (65 ≤ (s.get! 2).toNat && (s.get! 2).toNat ≤ 90)))

theorem other_at (s : ByteArray) (pos f : Nat) (h : pos < s.size) : otherFrom s (f + 1) pos = if 65 ≤ (s.get! pos).toNat ∧ (s.get! pos).toNat ≤ 90 then otherFrom s f (pos + 1) else (pos : Int) := by
  have hg : s.get! pos = s[pos]'h := by
    show s.data[pos]! = s.data[pos]'h
    exact getElem!_pos s.data pos h
  rw [hg, otherFrom, if_pos h]
  by_cases ha : (s[pos]'h).toNat < 128
  · rw [decode_ascii s pos h ha]
    by_cases hc : 65 ≤ (s[pos]'h).toNat ∧ (s[pos]'h).toNat ≤ 90
    · rw [if_pos hc, if_neg (by simp [other]; omega)]
    · rw [if_neg hc, if_pos (by simp [other]; omega)]
  · have hd := (decode_high s pos h (by omega)).1
    rw [if_pos (by simp [other]; omega), if_neg (by omega)]

theorem other_three (s : ByteArray) (h : s.size = 3) : otherFrom s 3 0 < 0 ↔ (65 ≤ (s.get! 0).toNat ∧ (s.get! 0).toNat ≤ 90) ∧ (65 ≤ (s.get! 1).toNat ∧ (s.get! 1).toNat ≤ 90) ∧ 65 ≤ (s.get! 2).toNat ∧ (s.get! 2).toNat ≤ 90 := by
  rw [other_at s 0 2 (by omega)]
  by_cases h0 : 65 ≤ (s.get! 0).toNat ∧ (s.get! 0).toNat ≤ 90
  · rw [if_pos h0, other_at s 1 1 (by omega)]
    by_cases h1 : 65 ≤ (s.get! 1).toNat ∧ (s.get! 1).toNat ≤ 90
    · rw [if_pos h1, other_at s 2 0 (by omega)]
      by_cases h2 : 65 ≤ (s.get! 2).toNat ∧ (s.get! 2).toNat ≤ 90
      · rw [if_pos h2]
        exact ⟨fun _ => ⟨h0, h1, h2⟩, fun _ => by simp [otherFrom]⟩
      · rw [if_neg h2]
        exact ⟨fun h => by omega, fun h => absurd h.2.2 h2⟩
    · rw [if_neg h1]
      exact ⟨fun h => by omega, fun h => absurd h.2.1 h1⟩
  · rw [if_neg h0]
    exact ⟨fun h => by omega, fun h => absurd h.1 h0⟩

theorem isCur_eq (s : ByteArray) : isCur s = isCurB s := by
  rw [Bool.eq_iff_iff]
  unfold isCur isCurB
  simp only [Bool.and_eq_true, beq_iff_eq, decide_eq_true_eq]
  constructor
  · rintro ⟨h, h'⟩
    rw [h] at h'
    exact ⟨h, (other_three s h).1 h'⟩
  · rintro ⟨h, h'⟩
    refine ⟨h, ?_⟩
    rw [h]
    exact (other_three s h).2 h'
/-- A letter A to Z stands at a place. -/
def good (s : ByteArray) (k : Nat) : Prop := 65 ≤ (s.get! k).toNat ∧ (s.get! k).toNat ≤ 90

theorem isCurB_iff (s : ByteArray) : isCurB s = true ↔ s.size = 3 ∧ good s 0 ∧ good s 1 ∧ good s 2 := by
  unfold isCurB good
  simp only [Bool.and_eq_true, beq_iff_eq, decide_eq_true_eq]

theorem refCur_any (s : ByteArray) (w : World) :
    Calls Tryz.prog 15 #[.string s] w fun e w' => e = .returned (.bool (isCur s)) ∧ w' = w := by
  rw [isCur_eq]
  by_cases h : s.size = 3
  · have h' : ((s.size : Int) != 3) = false := by simp; omega
    obtain ⟨res, hres⟩ : ∃ res, isCurB s = res := ⟨_, rfl⟩
    have Hres : Hid (isCurB s = res) := hres
    rw [hres]
    clear hres
    go_enter Tryz.func15, Tryz.ntmps15
    go_wp2
    go_loop [3] (fun i => ∃ k : Nat, k ≤ 3 ∧ i = .int .i64 k ∧ Hid (∀ j, j < k → good s j)) (fun i => 3 - (RowKit.intOf i).toNat)
    case atStart => exact ⟨0, by omega, rfl, fun j hj => absurd hj (Nat.not_lt_zero _)⟩
    case round =>
      obtain ⟨k, hk, rfl, Hk⟩ := hrel
      by_cases hlt : k < 3
      · have i0 : (0 : Int) ≤ k := by omega
        have i1 : (k : Int) < 3 := by omega
        have i2 : (k : Int) < s.size := by omega
        have hks : k < s.size := by omega
        obtain ⟨c, hc⟩ : ∃ c, (s[k]'hks).toNat = c := ⟨_, rfl⟩
        have hgood : good s k ↔ 65 ≤ c ∧ c ≤ 90 := by
          unfold good
          have : s.get! k = s[k]'hks := by
            show s.data[k]! = s.data[k]'hks
            exact getElem!_pos s.data k hks
          rw [this, hc]
        have Hg : Hid (good s k ↔ 65 ≤ c ∧ c ≤ 90) := hgood
        clear hgood
        have bad : ¬ (65 ≤ c ∧ c ≤ 90) → res = false := fun hn => by
          rw [← Hres.out]
          cases hcb : isCurB s
          · rfl
          · obtain ⟨_, q0, q1, q2⟩ := (isCurB_iff s).1 hcb
            have : good s k := by
              rcases (by omega : k = 0 ∨ k = 1 ∨ k = 2) with rfl | rfl | rfl
              · exact q0
              · exact q1
              · exact q2
            exact absurd (Hg.out.1 this) hn
        by_cases h65 : (c : Int) < 65
        · have e1 := bad (by omega)
          subst e1
          clear bad
          go_wp2
          go_ret
          exact ⟨rfl, rfl⟩
        by_cases h90 : 90 < (c : Int)
        · have e1 := bad (by omega)
          subst e1
          clear bad
          go_wp2
          go_ret
          exact ⟨rfl, rfl⟩
        clear bad
        have HN : Hid (∀ j, j < k + 1 → good s j) := fun j hj => by
          rcases (by omega : j < k ∨ j = k) with h' | rfl
          · exact Hk.out j h'
          · exact Hg.out.2 (by omega)
        go_wp2
        go_round
        case rel => exact ⟨k + 1, by omega, by go_num, HN⟩
        case measure => simp [RowKit.intOf]; omega
      · have : k = 3 := by omega
        subst this
        have e1 : res = true := by rw [← Hres.out, isCurB_iff]; exact ⟨h, Hk.out 0 (by omega), Hk.out 1 (by omega), Hk.out 2 (by omega)⟩
        subst e1
        go_wp2
        go_ret
        exact ⟨rfl, rfl⟩
  · have h' : ((s.size : Int) != 3) = true := by simp; omega
    have e1 : isCurB s = false := by
      cases hc : isCurB s
      · rfl
      · exact absurd ((isCurB_iff s).1 hc).1 h
    rw [e1]
    go_enter Tryz.func15, Tryz.ntmps15
    go_wp2
    go_ret
    exact ⟨rfl, rfl⟩

theorem period_any (n : Int) (w : World) :
    Calls Tryz.prog 49 #[.int .i64 n] w fun e w' => e = .returned (.bool (upTo n 120)) ∧ w' = w := by
  by_cases h : 1 ≤ n
  · have e1 : upTo n 120 = decide (n ≤ 120) := by simp [upTo, h]
    rw [e1]
    go_enter Tryz.func49, Tryz.ntmps49
    go_wp2
    go_ret
    exact ⟨rfl, rfl⟩
  · have e1 : upTo n 120 = false := by simp [upTo, h]
    rw [e1]
    go_enter Tryz.func49, Tryz.ntmps49
    go_wp2
    go_ret
    exact ⟨rfl, rfl⟩

theorem entity_any (n : Int) (w : World) :
    Calls Tryz.prog 48 #[.int .i64 n] w fun e w' => e = .returned (.bool (upTo n 12)) ∧ w' = w := by
  by_cases h : 1 ≤ n
  · have e1 : upTo n 12 = decide (n ≤ 12) := by simp [upTo, h]
    rw [e1]
    go_enter Tryz.func48, Tryz.ntmps48
    go_wp2
    go_ret
    exact ⟨rfl, rfl⟩
  · have e1 : upTo n 12 = false := by simp [upTo, h]
    rw [e1]
    go_enter Tryz.func48, Tryz.ntmps48
    go_wp2
    go_ret
    exact ⟨rfl, rfl⟩

end Go.Proofs.YtiolkeipgpkbmaaGreatDoor
