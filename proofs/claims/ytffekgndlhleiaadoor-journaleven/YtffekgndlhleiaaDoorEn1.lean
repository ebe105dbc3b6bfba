/-
  The contract of entry.isRef.
-/
import Derived.Test.YtffekgndlhleiaaDoorEnM
import Derived.Test.YtffekgndlhleiaaDoorIs
import Derived.Deep.QuietTactic
import Derived.BigQuiet
namespace Go.Proofs.YtffekgndlhleiaaDoor
set_option linter.unusedVariables false
set_option linter.unusedSimpArgs false
set_option maxRecDepth 100000
open Go.RowKit Go.Lib

theorem en_ne {a b : ByteArray} (h : a ≠ b) : (a.toList == b.toList) = false := by
  rw [beq_eq_false_iff_ne]
  exact fun e => h (toList_inj e)
theorem en_empty {a : ByteArray} (h : a.size = 0) : a.toList = [] := by
  rw [Lib.toList_data]
  exact List.eq_nil_of_length_eq_zero h
theorem en_some {a : ByteArray} (h : a.size ≠ 0) : ¬ a.toList = [] := by
  rw [Lib.toList_data]
  exact fun e => h (congrArg List.length e)
theorem en_drewN {B : Nat} {a w : World} (h : Below B a w) (n : Nat) : Below B a (w.drewN n) := h.trans ⟨rfl, rfl, rfl, Nat.le_refl _, fun _ _ => rfl⟩
theorem en_enters {f : FuncId} {fn : Func} (hf : Tryd.prog.funcs[f]? = some fn) (hn : (fn.name == "runtime.NumGoroutine") = false) (hb : ∃ c, fn.body = some c) (args : Array Value) (w : World) : (callFunc f args).run Tryd.prog w = .ok (.enter f args) w := by
  obtain ⟨c, hc⟩ := hb
  exact MuLone.run_callFunc_enter hf hn hc args w

/-- An error by its number. -/
def enE (n : Int) : Value := if n = 0 then .nilIface else .iface 51 (.int .i64 n)
theorem enE_zero : enE 0 = .nilIface := rfl
theorem enE_ne {n : Int} (h : n ≠ 0) : enE n = .iface 51 (.int .i64 n) := if_neg h

/-- A sign that a Ref does not have. -/
def badR (r : Nat) : Bool := (decide (r < 97) || decide (122 < r)) && (decide (r < 48) || decide (57 < r)) && !decide (r = 45)
theorem badR_low {r : Nat} (h : badR r = false) : r < 128 := by
  simp [badR] at h
  omega

theorem isRef1_any (r : Nat) (w : World) :
    Calls Tryd.prog 52 #[.int .i32 r] w fun e w' => e = .returned (.bool (badR r)) ∧ w' = w := by
  have h1 : (r : Int) < 48 ∨ (48 : Int) ≤ r ∧ (r : Int) ≤ 57 ∨ (57 : Int) < r ∧ (r : Int) < 97 ∨ (97 : Int) ≤ r ∧ (r : Int) ≤ 122 ∨ (122 : Int) < r := by omega
  have e45 : ((r : Int) != 45) = !decide (r = 45) := by
    by_cases e : r = 45
    · subst e; rfl
    · have : ((r : Int) != 45) = true := by simp; omega
      rw [this]; simp [e]
  rcases h1 with a | ⟨a, b⟩ | ⟨a, b⟩ | ⟨a, b⟩ | a
  · have : badR r = !decide (r = 45) := by
      have d1 : decide (r < 97) = true := by simp; omega
      have d2 : decide (r < 48) = true := by simp; omega
      unfold badR; rw [d1, d2]; rfl
    rw [this]
    have n97 : (r : Int) < 97 := by omega
    go_enter Tryd.func52, Tryd.ntmps52
    go_wp2
    go_ret
    exact ⟨rfl, rfl⟩
  · have : badR r = false := by simp [badR]; omega
    rw [this]
    have n97 : (r : Int) < 97 := by omega
    go_enter Tryd.func52, Tryd.ntmps52
    go_wp2
    go_ret
    exact ⟨rfl, rfl⟩
  · have : badR r = true := by simp [badR]; omega
    have n45 : (!decide (r = 45)) = true := by simp; omega
    rw [this]
    clear this
    go_enter Tryd.func52, Tryd.ntmps52
    go_wp2
    go_ret
    exact ⟨by rw [← n45]; rfl, rfl⟩
  · have : badR r = false := by simp [badR]; omega
    rw [this]
    go_enter Tryd.func52, Tryd.ntmps52
    go_wp2
    go_ret
    exact ⟨rfl, rfl⟩
  · have : badR r = true := by simp [badR]; omega
    have n45 : (!decide (r = 45)) = true := by simp; omega
    rw [this]
    clear this
    have n97 : ¬ (r : Int) < 97 := by omega
    have n48 : ¬ (r : Int) < 48 := by omega
    have n57 : (57 : Int) < r := by omega
    go_enter Tryd.func52, Tryd.ntmps52
    go_wp2
    go_ret
    exact ⟨by rw [← n45]; rfl, rfl⟩

/-- Where the first sign stands that is told, from a place on, among at most so many; else -1. -/
def signFrom (p : Nat → Bool) (s : ByteArray) : Nat → Nat → Int
  | 0, _ => -1
  | f + 1, pos => if pos < s.size then (if p (Utf8.decode s pos).1 = true then (pos : Int) else signFrom p s f (pos + (Utf8.decode s pos).2)) else -1
theorem signFrom_end (p : Nat → Bool) (s : ByteArray) (f pos : Nat) (h : ¬ pos < s.size) : signFrom p s f pos = -1 := by cases f <;> simp [signFrom, h]

theorem sign_none (p : Nat → Bool) (hp : ∀ r, p r = false → r < 128) (s : ByteArray) : ∀ (f pos : Nat), s.size ≤ pos + f → (signFrom p s f pos < 0 ↔ ∀ i, pos ≤ i → i < s.size → p (s.get! i).toNat = false)
  | 0, pos, h => by
    simp only [signFrom]
    exact ⟨fun _ i h1 h2 => by omega, fun _ => by omega⟩
  | f + 1, pos, h => by
    by_cases hlt : pos < s.size
    · have hg : s.get! pos = s[pos]'hlt := by
        show s.data[pos]! = s.data[pos]'hlt
        exact getElem!_pos s.data pos hlt
      rw [signFrom, if_pos hlt]
      by_cases ha : (s[pos]'hlt).toNat < 128
      · rw [decode_ascii s pos hlt ha]
        cases hc : p (s[pos]'hlt).toNat
        · rw [if_neg (by simp [hc]), sign_none p hp s f (pos + 1) (by omega)]
          constructor
          · intro hf i h1 h2
            by_cases e : i = pos
            · subst e; rw [hg]; exact hc
            · exact hf i (by omega) h2
          · intro hf i h1 h2
            exact hf i (by omega) h2
        · rw [if_pos (by simp [hc])]
          refine ⟨fun h => by omega, fun hf => ?_⟩
          have := hf pos (Nat.le_refl _) hlt
          rw [hg, hc] at this
          cases this
      · have hd := (decode_high s pos hlt (by omega)).1
        have hq : p (Utf8.decode s pos).1 = true := by
          cases hh : p (Utf8.decode s pos).1
          · have := hp _ hh; omega
          · rfl
        rw [if_pos hq]
        refine ⟨fun h => by omega, fun hf => ?_⟩
        have := hp _ (hf pos (Nat.le_refl _) hlt)
        rw [hg] at this
        omega
    · rw [signFrom_end p s _ _ hlt]
      exact ⟨fun _ i h1 h2 => by omega, fun _ => by omega⟩

set_option maxHeartbeats 1000000 in
theorem refIndexFunc_any (s : ByteArray) (w : World) :
    Calls Tryd.prog 69 #[.string s, .func (.func 52) #[] #[], .bool true] w fun e w' => e = .returned (.int .i64 (signFrom badR s s.size 0)) ∧ Below w.heap.size w w' := by
  go_enter Tryd.func69, Tryd.ntmps69
  go_wp2
  go_loopg [] s.size (fun gf wx => ∃ pos : Nat, wx.heap[w.heap.size]? = some (.stringIter s pos) ∧ Below w.heap.size w wx ∧ signFrom badR s gf pos = signFrom badR s s.size 0 ∧ s.size ≤ pos + gf)
  case atStart => exact ⟨0, World.iter_heap w s 0, (Below.refl _ w).alloc (Nat.le_refl _) _, rfl, by omega⟩
  case round =>
    obtain ⟨pos, hit, hbw, hleft, hfu⟩ := hrel
    by_cases hps : pos < s.size
    · obtain ⟨g', rfl⟩ : ∃ g', gk = g' + 1 := ⟨gk - 1, by omega⟩
      have hnx : ∀ ty, (Instr.next (.pointer (some ⟨w.heap.size, 0, none⟩)) true ty).run Tryd.prog wr = _ := fun ty => Lib.run_next_any_at wr w.heap.size s pos ty hit hps
      have hwd := Lib.width_pos s pos
      obtain ⟨R, hR⟩ : ∃ R, (Utf8.decode s pos).1 = R := ⟨_, rfl⟩
      obtain ⟨K, hK⟩ : ∃ K, (Utf8.decode s pos).2 = K := ⟨_, rfl⟩
      simp only [signFrom, hps, if_true, hR, hK] at hleft
      rw [hR, hK] at hnx
      rw [hK] at hwd
      have hit2 := Lib.iterAt_heap wr w.heap.size s pos (pos + K) hit
      have hbw2 := Lib.below_iterAt hbw (k := w.heap.size) (Nat.le_refl _) s (pos + K)
      obtain ⟨W, hWd⟩ : ∃ W, wr.iterAt w.heap.size s (pos + K) = W := ⟨_, rfl⟩
      rw [hWd] at hnx hit2 hbw2
      cases hsp : badR R <;> simp only [hsp, if_true, Bool.false_eq_true, if_false] at hleft
      · go_wp2_with (go_at_call 52; refine (isRef1_any R _).mono ?_; rintro e W' ⟨rfl, rfl⟩; rw [hsp])
        go_roundg g'
        case measure => omega
        case rel => exact ⟨pos + K, hit2, hbw2, hleft, by omega⟩
      · go_wp2_with (go_at_call 52; refine (isRef1_any R _).mono ?_; rintro e W' ⟨rfl, rfl⟩; rw [hsp])
        go_ret
        exact ⟨by rw [← hleft]; rfl, hbw2⟩
    · have hnx : ∀ ty, (Instr.next (.pointer (some ⟨w.heap.size, 0, none⟩)) true ty).run Tryd.prog wr = _ := fun ty => Lib.run_next_end_at wr w.heap.size s pos ty hit hps
      rw [signFrom_end badR s gk pos hps] at hleft
      go_wp2
      go_ret
      exact ⟨by rw [← hleft]; rfl, hbw⟩

theorem refContainsFunc_any (s : ByteArray) (w : World) :
    Calls Tryd.prog 51 #[.string s, .func (.func 52) #[] #[]] w fun e w' => e = .returned (.bool (decide (0 ≤ signFrom badR s s.size 0))) ∧ Below w.heap.size w w' := by
  have hI : Calls Tryd.prog 61 #[.string s, .func (.func 52) #[] #[]] w fun e w' => e = .returned (.int .i64 (signFrom badR s s.size 0)) ∧ Below w.heap.size w w' := by
    go_enter Tryd.func61, Tryd.ntmps61
    go_wp2_with fail
    refine (refIndexFunc_any s _).mono ?_
    rintro e w' ⟨rfl, hb⟩
    go_wp2
    go_ret
    exact ⟨rfl, hb⟩
  go_enter Tryd.func51, Tryd.ntmps51
  go_wp2_with fail
  refine hI.mono ?_
  rintro e w' ⟨rfl, hb⟩
  go_wp2
  go_ret
  exact ⟨rfl, hb⟩

/-- May a text be a Ref? -/
def isRefB (s : ByteArray) : Bool := decide (s.size ≠ 0) && (decide (s.size ≤ 12) && (decide ((s.get! 0).toNat ≠ 45) && decide (signFrom badR s s.size 0 < 0)))
theorem isRefB_iff {s : ByteArray} : isRefB s = true ↔ s.size ≠ 0 ∧ s.size ≤ 12 ∧ (s.get! 0).toNat ≠ 45 ∧ ∀ i, i < s.size → badR (s.get! i).toNat = false := by
  unfold isRefB
  simp only [Bool.and_eq_true, decide_eq_true_eq]
  rw [sign_none badR (fun r h => badR_low h) s s.size 0 (by omega)]
  exact ⟨fun ⟨a, b, c, d⟩ => ⟨a, b, c, fun i hi => d i (Nat.zero_le _) hi⟩, fun ⟨a, b, c, d⟩ => ⟨a, b, c, fun i _ hi => d i hi⟩⟩

set_option maxHeartbeats 1000000 in
theorem isRef_any (s : ByteArray) (w : World) :
    Calls Tryd.prog 32 #[.string s] w fun e w' => e = .returned (.bool (isRefB s)) ∧ Below w.heap.size w w' := by
  by_cases h0 : s.size = 0
  · have e0 := en_empty h0
    have er : isRefB s = false := by simp [isRefB, h0]
    rw [er]
    go_enter Tryd.func32, Tryd.ntmps32
    go_wp2
    go_ret
    exact ⟨rfl, Below.refl _ _⟩
  have e0 := en_some h0
  have e0' : s.toList.isEmpty = false := by simpa using e0
  by_cases h1 : s.size ≤ 12
  · have h1' : decide ((s.size : Int) ≤ 12) = true := by simp; omega
    have h2' : (0 : Int) < s.size := by omega
    have hp : 0 < s.size := by omega
    have hg : s.get! 0 = s[0]'hp := getElem!_pos s.data 0 hp
    by_cases h2 : (s.get! 0).toNat = 45
    · have er : isRefB s = false := by simp [isRefB, h2]
      have h3 : ((s[0]'hp).toNat : Int) = 45 := by rw [← hg, h2]; rfl
      rw [er]
      clear h2 hg
      go_enter Tryd.func32, Tryd.ntmps32
      go_wp2
      go_ret
      exact ⟨rfl, Below.refl _ _⟩
    · have h3 : ¬ ((s[0]'hp).toNat : Int) = 45 := by rw [← hg]; omega
      have h3b : (((s[0]'hp).toNat : Int) != 45) = true := by simpa using h3
      have er : isRefB s = !decide (0 ≤ signFrom badR s s.size 0) := by
        have d1 : decide (s.size ≠ 0) = true := by simp [h0]
        have d2 : decide (s.size ≤ 12) = true := by simp [h1]
        have d4 : decide ((s.get! 0).toNat ≠ 45) = true := by simp [h2]
        have d3 : decide (signFrom badR s s.size 0 < 0) = !decide (0 ≤ signFrom badR s s.size 0) := by
          by_cases hh : 0 ≤ signFrom badR s s.size 0
          · rw [decide_eq_true hh, decide_eq_false (by omega)]; rfl
          · rw [decide_eq_false hh, decide_eq_true (by omega)]; rfl
        unfold isRefB; rw [d1, d2, d3, d4]; rfl
      rw [er]
      clear h2 hg er
      go_enter Tryd.func32, Tryd.ntmps32
      go_wp2_with fail
      refine (refContainsFunc_any s _).mono ?_
      rintro e w' ⟨rfl, hb⟩
      go_wp2
      go_ret
      exact ⟨rfl, hb⟩
  · have h1' : decide ((s.size : Int) ≤ 12) = false := by simp; omega
    have er : isRefB s = false := by simp [isRefB, h1]
    rw [er]
    go_enter Tryd.func32, Tryd.ntmps32
    go_wp2
    go_ret
    exact ⟨rfl, Below.refl _ _⟩

end Go.Proofs.YtffekgndlhleiaaDoor
