/-
  The contract of quarterdaybig's Text, at numbers of 64 bits that are not below 0.
-/
import Derived.Test.YtikifooomeikgaaGreatDoorWBigT0
import Derived.Test.YtikifooomeikgaaGreatDoorWBigTw
import Derived.Test.YtikifooomeikgaaGreatDoorNum
import Derived.Maps.AppendAt
import Derived.Laws.BytesArg
namespace Go.Proofs.YtikifooomeikgaaGreatDoor
set_option linter.unusedVariables false
set_option linter.unusedSimpArgs false
set_option maxRecDepth 100000
open Go.RowKit Big

/-- Bytes in a row of one's own. -/
def BRow (w : World) (n : Nat) (v : Value) (l : List UInt8) : Prop := w.ownsRow n 5 1 v l.length (l.map fun b => Value.int .u8 b.toNat)
theorem BRow.own {w : World} {n : Nat} {v : Value} {xs : List UInt8} (h : BRow w n v xs) : ∀ j, v.ownBlock = some j → n ≤ j ∧ j < w.heap.size := fun j ej => by
  rcases h.2 with ⟨rfl, _⟩ | ⟨g1, c1, cur, rfl, hg1, hh, _⟩
  · cases ej
  · cases ej; exact ⟨hg1, (Array.getElem?_eq_some_iff.1 hh).1⟩
theorem BRow.grow {w w' : World} {n : Nat} {v : Value} {xs : List UInt8} (h : BRow w n v xs) (hg : w.grownBy w' none) : BRow w' n v xs := by
  rcases h.2 with ⟨hv, hn⟩ | ⟨g1, c1, cur, hv, hb1, hh, r⟩
  · exact ⟨h.1, .inl ⟨hv, hn⟩⟩
  · exact ⟨h.1, .inr ⟨g1, c1, cur, hv, hb1, (hg.block g1 (Array.getElem?_eq_some_iff.1 hh).1 (by simp)).trans hh, r⟩⟩
theorem u8_info : (Tryz.prog.info? 5).map (fun i => (i.zero, i.size, i.bytes)) = some (some (.int .u8 0), 1, 1) := by kernel_rfl
theorem one_new (W : World) (v : Value) (t : TypeId) : ∀ j u, ([v] : List Value)[j]? = some u → (W.alloc (.cells #[v] t)).cell? ((⟨W.heap.size, 0, none⟩ : Addr).add j) = some u := by
  intro j u hj
  rcases j with _ | j
  · simp at hj
    subst hj
    simp [Addr.add]
  · simp at hj

/-- The digits of what is left. -/
def decL (u : Nat) : List UInt8 := if u = 0 then [] else Lib.decDigits u
theorem decL_step {u : Nat} (h : 0 < u) : decL u = decL (u / 10) ++ [UInt8.ofNat (48 + u % 10)] := by
  unfold decL
  rw [if_neg (by omega), Lib.decDigits]
  by_cases h10 : u < 10
  · rw [dif_pos h10, if_pos (by omega)]
    simp
    rw [Nat.mod_eq_of_lt h10]
  · rw [dif_neg h10, if_neg (by omega)]

/-- A block of bytes. -/
def BAt (w : World) (g : Nat) (cs : Array Value) : Prop := w.heap[g]? = some (.cells cs 5 (0, 0))
theorem BAt.cell {w : World} {g : Nat} {cs : Array Value} (h : BAt w g cs) (i : Nat) : w.cell? ⟨g, i, none⟩ = cs[i]? := by unfold BAt at h; simp [World.cell?, h]
theorem BAt.fz {w : World} {g : Nat} {cs : Array Value} (h : BAt w g cs) (i : Nat) : w.frozen? ⟨g, i, none⟩ = false := by unfold BAt at h; simp [World.frozen?, h]
theorem BAt.set {w : World} {g : Nat} {cs : Array Value} (h : BAt w g cs) (i : Nat) (v : Value) : BAt (w.setCell ⟨g, i, none⟩ v) g (cs.setIfInBounds i v) := by
  unfold BAt at *
  rw [setCell_eq_setRow w g i _ 5 (0, 0) _ h, setRow_heap w g _ _ 5 (0, 0) h]
/-- A byte of a text that is turned round so far. -/
def turnB (bs : List UInt8) (k m : Nat) : UInt8 := if m < k ∨ bs.length - 1 - k < m then bs.getD (bs.length - 1 - m) 0 else bs.getD m 0
def Turned (bs : List UInt8) (k : Nat) (cs : Array Value) : Prop := ∀ m, m < bs.length → cs[m]? = some (.int .u8 ((turnB bs k m).toNat : Nat))
theorem turned_start (bs : List UInt8) {cs : Array Value} (h : ∀ m, m < bs.length → cs[m]? = some (.int .u8 ((bs.getD m 0).toNat : Nat))) : Turned bs 0 cs := by
  intro m hm
  rw [h m hm]
  unfold turnB
  rw [if_neg (by omega)]
theorem turned_step {bs : List UInt8} {k : Nat} {cs : Array Value} (h : Turned bs k cs) (hk : k < bs.length - 1 - k) :
    Turned bs (k + 1) ((cs.setIfInBounds k (.int .u8 ((turnB bs k (bs.length - 1 - k)).toNat : Nat))).setIfInBounds (bs.length - 1 - k) (.int .u8 ((turnB bs k k).toNat : Nat))) := by
  intro m hm
  have hc : ∀ i, i < bs.length → i < cs.size := fun i hi => by
    have := h i hi
    exact (Array.getElem?_eq_some_iff.1 this).1
  have e1 : turnB bs k k = bs.getD k 0 := by unfold turnB; rw [if_neg (by omega)]
  have e2 : turnB bs k (bs.length - 1 - k) = bs.getD (bs.length - 1 - k) 0 := by unfold turnB; rw [if_neg (by omega)]
  rw [e1, e2, Array.getElem?_setIfInBounds]
  by_cases hm1 : bs.length - 1 - k = m
  · have := hc m hm
    rw [if_pos hm1, if_pos (by simp; omega)]
    unfold turnB
    rw [if_pos (by omega), show bs.length - 1 - m = k by omega]
  · rw [if_neg hm1, Array.getElem?_setIfInBounds]
    by_cases hm2 : k = m
    · have := hc m hm
      rw [if_pos hm2, if_pos (by omega)]
      unfold turnB
      rw [if_pos (by omega), ← hm2]
    · rw [if_neg hm2, h m hm]
      unfold turnB
      by_cases hh : m < k ∨ bs.length - 1 - k < m
      · rw [if_pos hh, if_pos (by omega)]
      · rw [if_neg hh, if_neg (by omega)]
theorem turned_done {bs : List UInt8} {k : Nat} {cs : Array Value} (h : Turned bs k cs) (hk : ¬ k < bs.length - 1 - k) : ∀ m, m < bs.length → cs[m]? = some (.int .u8 ((bs.reverse.getD m 0).toNat : Nat)) := by
  intro m hm
  rw [h m hm]
  have er : bs.reverse.getD m 0 = bs.getD (bs.length - 1 - m) 0 := by
    simp [List.getD, List.getElem?_reverse hm]
  rw [er]
  unfold turnB
  by_cases hh : m < k ∨ bs.length - 1 - k < m
  · rw [if_pos hh]
  · rw [if_neg hh, show bs.length - 1 - m = m by omega]
end Go.Proofs.YtikifooomeikgaaGreatDoor
