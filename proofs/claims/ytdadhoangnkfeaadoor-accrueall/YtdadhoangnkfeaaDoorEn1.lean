/-
  The contract of entry.isRef.
-/
import Derived.Test.YtdadhoangnkfeaaDoorEnM
import Derived.Test.YtdadhoangnkfeaaDoorIs
import Derived.Deep.QuietTactic
import Derived.BigQuiet
namespace Go.Proofs.YtdadhoangnkfeaaDoor
set_option linter.unusedVariables false
set_option linter.unusedSimpArgs false
set_option maxRecDepth 100000
open Go.RowKit Go.Lib

theorem en_ne {a b : ByteArray} (h : a ≠ b) : (a.toList == b.toList) = false := by
  rw [beq_eq_false_iff_ne]
  exact fun e => h (toList_inj e)
theorem en_empty {a : ByteArray} (h : a.size = 0) : a.toList = [] := by
  rw [Lib.toList_data]
  exact List.eq_nil_of_length_eq_zero h
theorem en_some {a : ByteArray} (h : a.size ≠ 0) : ¬ a.toList = [] := by
  rw [Lib.toList_data]
  exact fun e => h (congrArg List.length e)
theorem en_drewN {B : Nat} {a w : World} (h : Below B a w) (n : Nat) : Below B a (w.drewN n) := h.trans ⟨rfl, rfl, rfl, Nat.le_refl _, fun _ _ => rfl⟩
theorem en_enters {f : FuncId} {fn : Func} (hf : Tryd.prog.funcs[f]? = some fn) (hn : (fn.name == "runtime.NumGoroutine") = false) (hb : ∃ c, fn.body = some c) (args : Array Value) (w : World) : (callFunc f args).run Tryd.prog w = .ok (.enter f args) w := by
  obtain ⟨c, hc⟩ := hb
  exact MuLone.run_callFunc_enter hf hn hc args w

/-- An error by its number. -/
def enE (n : Int) : Value := if n = 0 then .nilIface else .iface 37 (.int .i64 n)
theorem enE_zero : enE 0 = .nilIface := rfl
theorem enE_ne {n : Int} (h : n ≠ 0) : enE n = .iface 37 (.int .i64 n) := if_neg h

/-- A sign that a Ref does not have. -/
def badR (r : Nat) : Bool := (decide (r < 97) || decide (122 < r)) && (decide (r < 48) || decide (57 < r)) && !decide (r = 45)
theorem badR_low {r : Nat} (h : badR r = false) : r < 128 := by
  simp [badR] at h
  omega

/-- Where the first sign stands that is told, from a place on, among at most so many; else -1. -/
def signFrom (p : Nat → Bool) (s : ByteArray) : Nat → Nat → Int
  | 0, _ => -1
  | f + 1, pos => if pos < s.size then (if p (Utf8.decode s pos).1 = true then (pos : Int) else signFrom p s f (pos + (Utf8.decode s pos).2)) else -1
theorem signFrom_end (p : Nat → Bool) (s : ByteArray) (f pos : Nat) (h : ¬ pos < s.size) : signFrom p s f pos = -1 := by cases f <;> simp [signFrom, h]

theorem sign_none (p : Nat → Bool) (hp : ∀ r, p r = false → r < 128) (s : ByteArray) : ∀ (f pos : Nat), s.size ≤ pos + f → (signFrom p s f pos < 0 ↔ ∀ i, pos ≤ i → i < s.size → p (s.get! i).toNat = false)
  | 0, pos, h => by
    simp only [signFrom]
    exact ⟨fun _ i h1 h2 => by omega, fun _ => by omega⟩
  | f + 1, pos, h => by
    by_cases hlt : pos < s.size
    · have hg : s.get! pos = s[pos]'hlt := by
        show s.data[pos]! = s.data[pos]'hlt
        exact getElem!_pos s.data pos hlt
      rw [signFrom, if_pos hlt]
      by_cases ha : (s[pos]'hlt).toNat < 128
      · rw [decode_ascii s pos hlt ha]
        cases hc : p (s[pos]'hlt).toNat
        · rw [if_neg (by simp [hc]), sign_none p hp s f (pos + 1) (by omega)]
          constructor
          · intro hf i h1 h2
            by_cases e : i = pos
            · subst e; rw [hg]; exact hc
            · exact hf i (by omega) h2
          · intro hf i h1 h2
            exact hf i (by omega) h2
        · rw [if_pos (by simp [hc])]
          refine ⟨fun h => by omega, fun hf => ?_⟩
          have := hf pos (Nat.le_refl _) hlt
          rw [hg, hc] at this
          cases this
      · have hd := (decode_high s pos hlt (by omega)).1
        have hq : p (Utf8.decode s pos).1 = true := by
          cases hh : p (Utf8.decode s pos).1
          · have := hp _ hh; omega
          · rfl
        rw [if_pos hq]
        refine ⟨fun h => by omega, fun hf => ?_⟩
        have := hp _ (hf pos (Nat.le_refl _) hlt)
        rw [hg] at this
        omega
    · rw [signFrom_end p s _ _ hlt]
      exact ⟨fun _ i h1 h2 => by omega, fun _ => by omega⟩

/-- May a text be a Ref? -/
def isRefB (s : ByteArray) : Bool := decide (s.size ≠ 0) && (decide (s.size ≤ 12) && (decide ((s.get! 0).toNat ≠ 45) && decide (signFrom badR s s.size 0 < 0)))
theorem isRefB_iff {s : ByteArray} : isRefB s = true ↔ s.size ≠ 0 ∧ s.size ≤ 12 ∧ (s.get! 0).toNat ≠ 45 ∧ ∀ i, i < s.size → badR (s.get! i).toNat = false := by
  unfold isRefB
  simp only [Bool.and_eq_true, decide_eq_true_eq]
  rw [sign_none badR (fun r h => badR_low h) s s.size 0 (by omega)]
  exact ⟨fun ⟨a, b, c, d⟩ => ⟨a, b, c, fun i hi => d i (Nat.zero_le _) hi⟩, fun ⟨a, b, c, d⟩ => ⟨a, b, c, fun i _ hi => d i hi⟩⟩

end Go.Proofs.YtdadhoangnkfeaaDoor
