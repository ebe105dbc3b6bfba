/-
  The contracts of chart.isCode and chart.isName: of which bytes a text is made.
-/
import Derived.Test.YtffekgndlhleiaaDoorProg
import Derived.WalkKit
import Derived.WalkSpells
import Derived.Lib.OthersKept
import Derived.Lib.TrimU
import Derived.Deep.LoopGhost
import Derived.Conc.MuLone
import Derived.Shelf.Abstract
namespace Go.Proofs.YtffekgndlhleiaaDoor
set_option linter.unusedVariables false
set_option linter.unusedSimpArgs false
open Go.RowKit Go.Lib

/-- A digit. -/
def digR (r : Nat) : Bool := decide (48 ≤ r) && decide (r ≤ 57)
/-- A sign of a name. -/
def namR (r : Nat) : Bool := (decide (97 ≤ r) && decide (r ≤ 122)) || (decide (65 ≤ r) && decide (r ≤ 90)) || digR r || decide (r = 45)

theorem digR_low {r : Nat} (h : digR r = true) : r < 128 := by simp [digR] at h; omega
theorem namR_low {r : Nat} (h : namR r = true) : r < 128 := by simp [namR, digR] at h; omega

/-- Where the first sign stands that does not fit, from a place on, among at most so many; else -1. -/
def strayFrom (p : Nat → Bool) (s : ByteArray) : Nat → Nat → Int
  | 0, _ => -1
  | f + 1, pos => if pos < s.size then (if p (Utf8.decode s pos).1 = true then strayFrom p s f (pos + (Utf8.decode s pos).2) else (pos : Int)) else -1

theorem strayFrom_end (p : Nat → Bool) (s : ByteArray) (f pos : Nat) (h : ¬ pos < s.size) : strayFrom p s f pos = -1 := by cases f <;> simp [strayFrom, h]

/-- All signs from a place on fit. -/
def fitsFrom (p : Nat → Bool) (s : ByteArray) (pos : Nat) : Prop := ∀ i, pos ≤ i → i < s.size → p (s.get! i).toNat = true

theorem stray_fits (p : Nat → Bool) (hp : ∀ r, p r = true → r < 128) (s : ByteArray) : ∀ (f pos : Nat), s.size ≤ pos + f → (strayFrom p s f pos < 0 ↔ fitsFrom p s pos)
  | 0, pos, h => by
    simp only [strayFrom]
    exact ⟨fun _ i h1 h2 => by omega, fun _ => by omega⟩
  | f + 1, pos, h => by
    by_cases hlt : pos < s.size
    · have hg : s.get! pos = s[pos]'hlt := by
        show s.data[pos]! = s.data[pos]'hlt
        exact getElem!_pos s.data pos hlt
      rw [strayFrom, if_pos hlt]
      by_cases ha : (s[pos]'hlt).toNat < 128
      · rw [decode_ascii s pos hlt ha]
        by_cases hc : p (s[pos]'hlt).toNat = true
        · rw [if_pos hc, stray_fits p hp s f (pos + 1) (by omega)]
          constructor
          · intro hf i h1 h2
            by_cases e : i = pos
            · subst e; rw [hg]; exact hc
            · exact hf i (by omega) h2
          · intro hf i h1 h2
            exact hf i (by omega) h2
        · rw [if_neg hc]
          refine ⟨fun h => by omega, fun hf => ?_⟩
          have := hf pos (Nat.le_refl _) hlt
          rw [hg] at this
          exact absurd this hc
      · have hd := (decode_high s pos hlt (by omega)).1
        rw [if_neg (fun h => by have := hp _ h; omega)]
        refine ⟨fun h => by omega, fun hf => ?_⟩
        have := hp _ (hf pos (Nat.le_refl _) hlt)
        rw [hg] at this
        omega
    · rw [strayFrom_end p s _ _ hlt]
      exact ⟨fun _ i h1 h2 => by omega, fun _ => by omega⟩

/-- Is a text of 1 to so many bytes, all of which fit? -/
def madeOf (p : Nat → Bool) (most : Nat) (s : ByteArray) : Bool := decide (s.size ≠ 0) && (decide (s.size ≤ most) && decide (strayFrom p s s.size 0 < 0))

theorem madeOf_iff {p : Nat → Bool} (hp : ∀ r, p r = true → r < 128) {most : Nat} {s : ByteArray} : madeOf p most s = true ↔ s.size ≠ 0 ∧ s.size ≤ most ∧ ∀ i, i < s.size → p (s.get! i).toNat = true := by
  unfold madeOf
  simp only [Bool.and_eq_true, decide_eq_true_eq]
  rw [stray_fits p hp s s.size 0 (by omega)]
  exact ⟨fun ⟨a, b, c⟩ => ⟨a, b, fun i hi => c i (Nat.zero_le _) hi⟩, fun ⟨a, b, c⟩ => ⟨a, b, fun i _ hi => c i hi⟩⟩

def isCodeB (s : ByteArray) : Bool := madeOf digR 6 s
def isNameB (s : ByteArray) : Bool := madeOf namR 24 s

theorem digit_any (r : Nat) (w : World) :
    Calls Tryd.prog 73 #[.int .i32 r] w fun e w' => e = .returned (.bool (digR r)) ∧ w' = w := by
  by_cases h1 : (48 : Int) ≤ r
  · have : digR r = decide ((r : Int) ≤ 57) := by
      have e1 : decide (48 ≤ r) = true := by simp; omega
      have e2 : decide (r ≤ 57) = decide ((r : Int) ≤ 57) := by simp; omega
      unfold digR; rw [e1, e2]; rfl
    rw [this]
    go_enter Tryd.func73, Tryd.ntmps73
    go_wp2
    go_ret
    exact ⟨rfl, rfl⟩
  · have : digR r = false := by simp [digR]; omega
    rw [this]
    go_enter Tryd.func73, Tryd.ntmps73
    go_wp2
    go_ret
    exact ⟨rfl, rfl⟩

theorem nameSign_any (r : Nat) (w : World) :
    Calls Tryd.prog 74 #[.int .i32 r] w fun e w' => e = .returned (.bool (namR r)) ∧ w' = w := by
  have h1 : (97 : Int) ≤ r ∧ (r : Int) ≤ 122 ∨ 122 < (r : Int) ∨ (90 : Int) < r ∧ (r : Int) < 97 ∨ (65 : Int) ≤ r ∧ (r : Int) ≤ 90 ∨ (r : Int) < 65 := by omega
  rcases h1 with ⟨a, b⟩ | a | ⟨a, b⟩ | ⟨a, b⟩ | a
  · have : namR r = true := by simp [namR]; omega
    rw [this]
    go_enter Tryd.func74, Tryd.ntmps74
    go_wp2
    go_ret
    exact ⟨rfl, rfl⟩
  · have d : digR r = false := by simp [digR]; omega
    have : namR r = false := by simp [namR, d]; omega
    rw [this]
    have n45 : ((r : Int) == 45) = false := by simp; omega
    have n90 : decide ((r : Int) ≤ 90) = false := by simp; omega
    have n122 : decide ((r : Int) ≤ 122) = false := by simp; omega
    go_enter Tryd.func74, Tryd.ntmps74
    go_wp2_with (go_at_call 73; refine (digit_any r _).mono ?_; rintro e w' ⟨rfl, rfl⟩; rw [d])
    go_ret
    exact ⟨rfl, rfl⟩
  · have d : digR r = false := by simp [digR]; omega
    have : namR r = false := by simp [namR, d]; omega
    rw [this]
    have n45 : ((r : Int) == 45) = false := by simp; omega
    have n90 : decide ((r : Int) ≤ 90) = false := by simp; omega
    go_enter Tryd.func74, Tryd.ntmps74
    go_wp2_with (go_at_call 73; refine (digit_any r _).mono ?_; rintro e w' ⟨rfl, rfl⟩; rw [d])
    go_ret
    exact ⟨rfl, rfl⟩
  · have : namR r = true := by simp [namR]; omega
    rw [this]
    go_enter Tryd.func74, Tryd.ntmps74
    go_wp2
    go_ret
    exact ⟨rfl, rfl⟩
  · cases d : digR r
    · have : namR r = ((r : Int) == 45) := by
        have e1 : decide (r = 45) = ((r : Int) == 45) := by rw [Bool.eq_iff_iff]; simp; omega
        have e2 : (decide (97 ≤ r) && decide (r ≤ 122)) = false := by simp; omega
        have e3 : (decide (65 ≤ r) && decide (r ≤ 90)) = false := by simp; omega
        unfold namR; rw [e1, e2, e3, d]; rfl
      rw [this]
      go_enter Tryd.func74, Tryd.ntmps74
      go_wp2_with (go_at_call 73; refine (digit_any r _).mono ?_; rintro e w' ⟨rfl, rfl⟩; rw [d])
      go_ret
      exact ⟨rfl, rfl⟩
    · have : namR r = true := by simp [namR, d]
      rw [this]
      go_enter Tryd.func74, Tryd.ntmps74
      go_wp2_with (go_at_call 73; refine (digit_any r _).mono ?_; rintro e w' ⟨rfl, rfl⟩; rw [d])
      go_ret
      exact ⟨rfl, rfl⟩

/-- What is asked of a function that says which signs fit. -/
structure ChFits (g : Nat) (p : Nat → Bool) : Prop where
  eg : ∀ args w, (callFunc g args).run Tryd.prog w = .ok (.enter g args) w
  call : ∀ (r : Nat) w, Calls Tryd.prog g #[.int .i32 r] w fun e w' => e = .returned (.bool (p r)) ∧ w' = w

theorem enters {f : FuncId} {fn : Func} (hf : Tryd.prog.funcs[f]? = some fn) (hn : (fn.name == "runtime.NumGoroutine") = false) (hb : ∃ c, fn.body = some c) (args : Array Value) (w : World) : (callFunc f args).run Tryd.prog w = .ok (.enter f args) w := by
  obtain ⟨c, hc⟩ := hb
  exact MuLone.run_callFunc_enter hf hn hc args w
theorem digit_fits : ChFits 73 digR := ⟨fun args w => enters Tryd.func73 (by kernel_rfl) ⟨_, rfl⟩ args w, digit_any⟩
theorem name_fits : ChFits 74 namR := ⟨fun args w => enters Tryd.func74 (by kernel_rfl) ⟨_, rfl⟩ args w, nameSign_any⟩

theorem madeOf1_any (g : Nat) (p : Nat → Bool) (hf : ChFits g p) (B r : Nat) (w : World) (hB : w.cell? ⟨B, 0, none⟩ = some (.func (.func g) #[] #[])) :
    Calls Tryd.prog 76 #[.int .i32 r, .pointer (some ⟨B, 0, none⟩)] w fun e w' => e = .returned (.bool (!p r)) ∧ w' = w := by
  have eg := hf.eg
  have hc := hf.call r w
  clear hf
  go_enter Tryd.func76, Tryd.ntmps76
  go_wp2_with (go_at_fn g; refine hc.mono ?_; rintro e w' ⟨rfl, rfl⟩)
  go_ret
  exact ⟨rfl, rfl⟩

set_option maxHeartbeats 1000000 in
theorem chIndexFunc_any (g : Nat) (p : Nat → Bool) (hf : ChFits g p) (B : Nat) (s : ByteArray) (w : World) (hb : B < w.heap.size) (hB : w.cell? ⟨B, 0, none⟩ = some (.func (.func g) #[] #[])) :
    Calls Tryd.prog 69 #[.string s, .func (.func 76) #[] #[.pointer (some ⟨B, 0, none⟩)], .bool true] w fun e w' => e = .returned (.int .i64 (strayFrom p s s.size 0)) ∧ Below w.heap.size w w' := by
  have HB : Hid (w.cell? ⟨B, 0, none⟩ = some (.func (.func g) #[] #[])) := hB
  have HF : Hid (ChFits g p) := hf
  clear hB hf
  go_enter Tryd.func69, Tryd.ntmps69
  go_wp2
  go_loopg [] s.size (fun gf wx => ∃ pos : Nat, wx.heap[w.heap.size]? = some (.stringIter s pos) ∧ Below w.heap.size w wx ∧ strayFrom p s gf pos = strayFrom p s s.size 0 ∧ s.size ≤ pos + gf)
  case atStart => exact ⟨0, World.iter_heap w s 0, (Below.refl _ w).alloc (Nat.le_refl _) _, rfl, by omega⟩
  case round =>
    obtain ⟨pos, hit, hbw, hleft, hfu⟩ := hrel
    by_cases hps : pos < s.size
    · obtain ⟨g', rfl⟩ : ∃ g', gk = g' + 1 := ⟨gk - 1, by omega⟩
      have hnx : ∀ ty, (Instr.next (.pointer (some ⟨w.heap.size, 0, none⟩)) true ty).run Tryd.prog wr = _ := fun ty => Lib.run_next_any_at wr w.heap.size s pos ty hit hps
      have hwd := Lib.width_pos s pos
      obtain ⟨R, hR⟩ : ∃ R, (Utf8.decode s pos).1 = R := ⟨_, rfl⟩
      obtain ⟨K, hK⟩ : ∃ K, (Utf8.decode s pos).2 = K := ⟨_, rfl⟩
      simp only [strayFrom, hps, if_true, hR, hK] at hleft
      rw [hR, hK] at hnx
      rw [hK] at hwd
      have hit2 := Lib.iterAt_heap wr w.heap.size s pos (pos + K) hit
      have hbw2 := Lib.below_iterAt hbw (k := w.heap.size) (Nat.le_refl _) s (pos + K)
      obtain ⟨W, hWd⟩ : ∃ W, wr.iterAt w.heap.size s (pos + K) = W := ⟨_, rfl⟩
      rw [hWd] at hnx hit2 hbw2
      have hcall := madeOf1_any g p HF.out B R W ((hbw2.cell (p := ⟨B, 0, none⟩) hb).trans HB.out)
      cases hsp : p R <;> simp only [hsp, if_true, Bool.false_eq_true, if_false] at hleft
      · rw [hsp] at hcall
        go_wp2_with (go_at_call 76; refine hcall.mono ?_; rintro e W' ⟨rfl, rfl⟩)
        go_ret
        exact ⟨by rw [← hleft]; rfl, hbw2⟩
      · rw [hsp] at hcall
        go_wp2_with (go_at_call 76; refine hcall.mono ?_; rintro e W' ⟨rfl, rfl⟩)
        go_roundg g'
        case measure => omega
        case rel => exact ⟨pos + K, hit2, hbw2, hleft, by omega⟩
    · have hnx : ∀ ty, (Instr.next (.pointer (some ⟨w.heap.size, 0, none⟩)) true ty).run Tryd.prog wr = _ := fun ty => Lib.run_next_end_at wr w.heap.size s pos ty hit hps
      rw [strayFrom_end p s gk pos hps] at hleft
      go_wp2
      go_ret
      exact ⟨by rw [← hleft]; rfl, hbw⟩

theorem chContainsFunc_any (g : Nat) (p : Nat → Bool) (hf : ChFits g p) (B : Nat) (s : ByteArray) (w : World) (hb : B < w.heap.size) (hB : w.cell? ⟨B, 0, none⟩ = some (.func (.func g) #[] #[])) :
    Calls Tryd.prog 51 #[.string s, .func (.func 76) #[] #[.pointer (some ⟨B, 0, none⟩)]] w fun e w' => e = .returned (.bool (decide (0 ≤ strayFrom p s s.size 0))) ∧ Below w.heap.size w w' := by
  have hI : Calls Tryd.prog 61 #[.string s, .func (.func 76) #[] #[.pointer (some ⟨B, 0, none⟩)]] w fun e w' => e = .returned (.int .i64 (strayFrom p s s.size 0)) ∧ Below w.heap.size w w' := by
    have hc := chIndexFunc_any g p hf B s w hb hB
    clear hf hB
    go_enter Tryd.func61, Tryd.ntmps61
    go_wp2_with fail
    refine hc.mono ?_
    rintro e w' ⟨rfl, hb⟩
    go_wp2
    go_ret
    exact ⟨rfl, hb⟩
  clear hf hB
  go_enter Tryd.func51, Tryd.ntmps51
  go_wp2_with fail
  refine hI.mono ?_
  rintro e w' ⟨rfl, hb⟩
  go_wp2
  go_ret
  exact ⟨rfl, hb⟩

theorem isMadeOf_any (g : Nat) (p : Nat → Bool) (hf : ChFits g p) (most : Nat) (s : ByteArray) (w : World) :
    Calls Tryd.prog 72 #[.string s, .int .i64 most, .func (.func g) #[] #[]] w fun e w' => e = .returned (.bool (madeOf p most s)) ∧ Below w.heap.size w w' := by
  have b0 : Below w.heap.size w (w.alloc (.cells #[.func (.func g) #[] #[]] 103)) := (Below.refl _ w).alloc (Nat.le_refl _) _
  have hc := chContainsFunc_any g p hf w.heap.size s (w.alloc (.cells #[.func (.func g) #[] #[]] 103)) (by simp) (by simp)
  have Hc : Hid (Calls _ _ _ _ _) := hc
  clear hf hc
  by_cases h0 : s.size = 0
  · have e0 : s.toList = [] := by
      rw [Lib.toList_data]
      exact List.eq_nil_of_length_eq_zero h0
    have e1 : madeOf p most s = false := by simp [madeOf, h0]
    rw [e1]
    go_enter Tryd.func72, Tryd.ntmps72
    go_wp2
    go_ret
    exact ⟨rfl, b0⟩
  have e0 : ¬ s.toList = [] := by
    rw [Lib.toList_data]
    intro e
    exact h0 (congrArg List.length e)
  have e0' : s.toList.isEmpty = false := by simpa using e0
  by_cases h1 : s.size ≤ most
  · have h1' : decide ((s.size : Int) ≤ most) = true := by simp; omega
    have e1 : madeOf p most s = !decide (0 ≤ strayFrom p s s.size 0) := by
      have d1 : decide (s.size ≠ 0) = true := by simp [h0]
      have d2 : decide (s.size ≤ most) = true := by simp [h1]
      have d3 : decide (strayFrom p s s.size 0 < 0) = !decide (0 ≤ strayFrom p s s.size 0) := by
        by_cases hh : 0 ≤ strayFrom p s s.size 0
        · rw [decide_eq_true hh, decide_eq_false (by omega)]; rfl
        · rw [decide_eq_false hh, decide_eq_true (by omega)]; rfl
      unfold madeOf; rw [d1, d2, d3]; rfl
    rw [e1]
    go_enter Tryd.func72, Tryd.ntmps72
    go_wp2_with fail
    refine Hc.out.mono ?_
    rintro e w' ⟨rfl, hb⟩
    go_wp2
    go_ret
    exact ⟨rfl, b0.trans (hb.mono (by simp))⟩
  · have h1' : decide ((s.size : Int) ≤ most) = false := by simp; omega
    have e1 : madeOf p most s = false := by simp [madeOf, h1]
    rw [e1]
    go_enter Tryd.func72, Tryd.ntmps72
    go_wp2
    go_ret
    exact ⟨rfl, b0⟩

theorem isCode_any (s : ByteArray) (w : World) :
    Calls Tryd.prog 66 #[.string s] w fun e w' => e = .returned (.bool (isCodeB s)) ∧ Below w.heap.size w w' := by
  go_enter Tryd.func66, Tryd.ntmps66
  go_wp2_with fail
  refine (isMadeOf_any _ digR digit_fits 6 s w).mono ?_
  rintro e w' ⟨rfl, hb⟩
  go_wp2
  go_ret
  exact ⟨rfl, hb⟩

theorem isName_any (s : ByteArray) (w : World) :
    Calls Tryd.prog 67 #[.string s] w fun e w' => e = .returned (.bool (isNameB s)) ∧ Below w.heap.size w w' := by
  go_enter Tryd.func67, Tryd.ntmps67
  go_wp2_with fail
  refine (isMadeOf_any _ namR name_fits 24 s w).mono ?_
  rintro e w' ⟨rfl, hb⟩
  go_wp2
  go_ret
  exact ⟨rfl, hb⟩
end Go.Proofs.YtffekgndlhleiaaDoor
