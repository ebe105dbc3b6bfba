/-
  The contract of strings.ContainsFunc at money.isShown's closure.
-/
import Derived.Test.YtikifooomeikgaaGreatDoorTxt1
import Derived.Lib.OthersKept
import Derived.Lib.TrimU
import Derived.Deep.LoopGhost
namespace Go.Proofs.YtikifooomeikgaaGreatDoor
set_option linter.unusedVariables false
set_option linter.unusedSimpArgs false
open Go.RowKit Go.Lib

/-- A sign that is no digit. -/
def noDig (r : Nat) : Bool := decide (r < 48) || decide (57 < r)

/-- Is there such a sign, from a place on, among at most so many? -/
def noDigFrom (s : ByteArray) : Nat → Nat → Int
  | 0, _ => -1
  | f + 1, pos => if pos < s.size then (if noDig (Utf8.decode s pos).1 = true then (pos : Int) else noDigFrom s f (pos + (Utf8.decode s pos).2)) else -1

theorem noDigFrom_end (s : ByteArray) (f pos : Nat) (h : ¬ pos < s.size) : noDigFrom s f pos = -1 := by cases f <;> simp [noDigFrom, h]

theorem noDigFrom_ge (s : ByteArray) : ∀ (f pos : Nat), -1 ≤ noDigFrom s f pos
  | 0, _ => by simp [noDigFrom]
  | f + 1, pos => by
    unfold noDigFrom
    split
    · split
      · omega
      · exact noDigFrom_ge s f _
    · omega

theorem digClosure_any (r : Nat) (w : World) :
    Calls Tryz.prog 46 #[.int .i32 r] w fun e w' => e = .returned (.bool (noDig r)) ∧ w' = w := by
  by_cases h1 : (r : Int) < 48
  · go_enter Tryz.func46, Tryz.ntmps46
    go_wp2
    go_ret
    refine ⟨?_, rfl⟩
    have : noDig r = true := by simp [noDig]; omega
    rw [this]; rfl
  · go_enter Tryz.func46, Tryz.ntmps46
    go_wp2
    go_ret
    refine ⟨?_, rfl⟩
    have : noDig r = decide ((57 : Int) < r) := by
      have e1 : decide (r < 48) = false := by simp; omega
      have e2 : decide (57 < r) = decide ((57 : Int) < r) := by simp; omega
      unfold noDig; rw [e1, e2]; rfl
    rw [this]; rfl

set_option maxHeartbeats 1000000 in
theorem digIndex_any (s : ByteArray) (w : World) :
    Calls Tryz.prog 87 #[.string s, .func (.func 46) #[] #[], .bool true] w fun e w' => e = .returned (.int .i64 (noDigFrom s s.size 0)) ∧ Below w.heap.size w w' := by
  go_enter Tryz.func87, Tryz.ntmps87
  go_wp2
  go_loopg [] s.size (fun gf wx => ∃ pos : Nat, wx.heap[w.heap.size]? = some (.stringIter s pos) ∧ Below w.heap.size w wx ∧ noDigFrom s gf pos = noDigFrom s s.size 0 ∧ s.size ≤ pos + gf)
  case atStart => exact ⟨0, World.iter_heap w s 0, (Below.refl _ w).alloc (Nat.le_refl _) _, rfl, by omega⟩
  case round =>
    obtain ⟨pos, hit, hbw, hleft, hfu⟩ := hrel
    by_cases hps : pos < s.size
    · obtain ⟨g', rfl⟩ : ∃ g', gk = g' + 1 := ⟨gk - 1, by omega⟩
      have hnx : ∀ ty, (Instr.next (.pointer (some ⟨w.heap.size, 0, none⟩)) true ty).run Tryz.prog wr = _ := fun ty => Lib.run_next_any_at wr w.heap.size s pos ty hit hps
      have hwd := Lib.width_pos s pos
      obtain ⟨R, hR⟩ : ∃ R, (Utf8.decode s pos).1 = R := ⟨_, rfl⟩
      obtain ⟨K, hK⟩ : ∃ K, (Utf8.decode s pos).2 = K := ⟨_, rfl⟩
      simp only [noDigFrom, hps, if_true, hR, hK] at hleft
      rw [hR, hK] at hnx
      rw [hK] at hwd
      have hit2 := Lib.iterAt_heap wr w.heap.size s pos (pos + K) hit
      have hbw2 := Lib.below_iterAt hbw (k := w.heap.size) (Nat.le_refl _) s (pos + K)
      obtain ⟨W, hWd⟩ : ∃ W, wr.iterAt w.heap.size s (pos + K) = W := ⟨_, rfl⟩
      rw [hWd] at hnx hit2 hbw2
      cases hsp : noDig R <;> simp only [hsp, if_true, Bool.false_eq_true, if_false] at hleft
      · go_wp2_with (go_at_call 46; refine (digClosure_any R _).mono ?_; rintro e W' ⟨rfl, rfl⟩; rw [hsp])
        go_roundg g'
        case measure => omega
        case rel => exact ⟨pos + K, hit2, hbw2, hleft, by omega⟩
      · go_wp2_with (go_at_call 46; refine (digClosure_any R _).mono ?_; rintro e W' ⟨rfl, rfl⟩; rw [hsp])
        go_ret
        exact ⟨by rw [← hleft]; rfl, hbw2⟩
    · have hnx : ∀ ty, (Instr.next (.pointer (some ⟨w.heap.size, 0, none⟩)) true ty).run Tryz.prog wr = _ := fun ty => Lib.run_next_end_at wr w.heap.size s pos ty hit hps
      rw [noDigFrom_end s gk pos hps] at hleft
      go_wp2
      go_ret
      exact ⟨by rw [← hleft]; rfl, hbw⟩

theorem digContains_any (s : ByteArray) (w : World) :
    Calls Tryz.prog 45 #[.string s, .func (.func 46) #[] #[]] w fun e w' => e = .returned (.bool (decide (0 ≤ noDigFrom s s.size 0))) ∧ Below w.heap.size w w' := by
  have hI : Calls Tryz.prog 69 #[.string s, .func (.func 46) #[] #[]] w fun e w' => e = .returned (.int .i64 (noDigFrom s s.size 0)) ∧ Below w.heap.size w w' := by
    go_enter Tryz.func69, Tryz.ntmps69
    go_wp2_with fail
    refine (digIndex_any s _).mono ?_
    rintro e w' ⟨rfl, hb⟩
    go_wp2
    go_ret
    exact ⟨rfl, hb⟩
  go_enter Tryz.func45, Tryz.ntmps45
  go_wp2_with fail
  refine hI.mono ?_
  rintro e w' ⟨rfl, hb⟩
  go_wp2
  go_ret
  exact ⟨rfl, hb⟩


/-- A digit. -/
def isDig (b : UInt8) : Bool := decide (48 ≤ b.toNat) && decide (b.toNat ≤ 57)

theorem noDig_at (s : ByteArray) (pos f : Nat) (h : pos < s.size) : noDigFrom s (f + 1) pos = if isDig (s[pos]'h) = true then noDigFrom s f (pos + 1) else (pos : Int) := by
  rw [noDigFrom, if_pos h]
  by_cases ha : (s[pos]'h).toNat < 128
  · rw [decode_ascii s pos h ha]
    by_cases hc : 48 ≤ (s[pos]'h).toNat ∧ (s[pos]'h).toNat ≤ 57
    · have e1 : noDig (s[pos]'h).toNat = false := by simp [noDig]; omega
      have e2 : isDig (s[pos]'h) = true := by simp [isDig]; omega
      simp [e1, e2]
    · have e1 : noDig (s[pos]'h).toNat = true := by simp [noDig]; omega
      have e2 : isDig (s[pos]'h) = false := by simp [isDig]; omega
      simp [e1, e2]
  · have hd := (decode_high s pos h (by omega)).1
    have e1 : noDig (Utf8.decode s pos).1 = true := by simp [noDig]; omega
    have e2 : isDig (s[pos]'h) = false := by simp [isDig]; omega
    simp [e1, e2]

theorem noDig_all (s : ByteArray) : ∀ (f pos : Nat), s.size ≤ pos + f → (noDigFrom s f pos < 0 ↔ (s.data.toList.drop pos).all isDig = true)
  | 0, pos, hf => by
    have : s.data.toList.drop pos = [] := List.drop_eq_nil_of_le (by rw [Array.length_toList]; exact hf)
    simp [this, noDigFrom]
  | f + 1, pos, hf => by
    by_cases h : pos < s.size
    · have hl : pos < s.data.toList.length := by rw [Array.length_toList]; exact h
      have hc : s.data.toList.drop pos = s[pos]'h :: s.data.toList.drop (pos + 1) := by
        rw [List.drop_eq_getElem_cons hl]; rfl
      rw [noDig_at s pos f h, hc, List.all_cons]
      by_cases hd : isDig (s[pos]'h) = true
      · rw [if_pos hd, hd, Bool.true_and]
        exact noDig_all s f (pos + 1) (by omega)
      · rw [if_neg hd]
        constructor
        · intro h'; omega
        · intro h'; rw [Bool.and_eq_true] at h'; exact absurd h'.1 hd
    · have : s.data.toList.drop pos = [] := List.drop_eq_nil_of_le (by rw [Array.length_toList]; exact Nat.le_of_not_lt h)
      rw [noDigFrom_end s _ pos h]
      simp [this]

theorem digits_any (l : List UInt8) (w : World) :
    Calls Tryz.prog 45 #[.string (txt l), .func (.func 46) #[] #[]] w fun e w' => e = .returned (.bool (!l.all isDig)) ∧ Below w.heap.size w w' := by
  refine (digContains_any (txt l) w).mono ?_
  rintro e w' ⟨rfl, hb⟩
  refine ⟨?_, hb⟩
  have h := noDig_all (txt l) (txt l).size 0 (by omega)
  rw [txt_list, List.drop_zero] at h
  cases hd : l.all isDig
  · rw [decide_eq_true (by rw [hd] at h; have := noDigFrom_ge (txt l) (txt l).size 0; simp at h; omega)]; rfl
  · rw [decide_eq_false (by rw [hd] at h; simp at h; omega)]; rfl

/-- Are these digits shown so, with so many places? -/
def shownL (l : List UInt8) (p : Nat) : Bool := decide (p + 1 ≤ l.length) && !(decide (p + 1 < l.length) && l.head? == some 48) && l.all isDig

set_option maxHeartbeats 1600000 in
theorem isShown_any (l : List UInt8) (p : Nat) (hp6 : p ≤ 6) (hl : l.length ≤ 9223372036854775807) (w : World) :
    Calls Tryz.prog 24 #[.string (txt l), .int .i64 p] w fun e w' => e = .returned (.bool (shownL l p)) ∧ Below w.heap.size w w' := by
  have hz := txt_size l
  have hsb : ((txt l).size : Int) ≤ 9223372036854775807 := by omega
  by_cases h1 : p + 1 ≤ l.length
  · have g1 : ¬ ((txt l).size : Int) - p < 1 := by omega
    by_cases h2 : p + 1 < l.length
    · have g2 : (1 : Int) < ((txt l).size : Int) - p := by omega
      have hk0 : 0 < l.length := by omega
      have hI : ∀ W, (Instr.index 9 (.string (txt l)) (.int .i64 0)).run Tryz.prog W = .ok (.int .u8 ((l[0]'hk0).toNat : Int)) W := fun W => by
        rw [run_index_string W 9 (txt l) .i64 0 Tryz.underlying9, dif_pos ⟨by omega, by rw [txt_size]; omega⟩]
        rfl
      have hh : l.head? = some (l[0]'hk0) := by rw [List.head?_eq_getElem?, List.getElem?_eq_getElem hk0]
      by_cases hc : l[0]'hk0 = 48
      · have hu : shownL l p = false := by simp [shownL, h2, hh, hc]
        rw [hu]
        rw [hc] at hI
        have hI2 : ∀ W, (Instr.index 9 (.string (txt l)) (.int .i64 0)).run Tryz.prog W = .ok (.int .u8 48) W := hI
        obtain ⟨s, hs⟩ : ∃ s, txt l = s := ⟨_, rfl⟩
        rw [hs] at hI2 hsb g1 g2
        rw [hs]
        clear hI hh hc hu hs hz hl h1 h2
        go_enter Tryz.func24, Tryz.ntmps24
        go_wp2
        go_ret
        exact ⟨rfl, Below.refl _ _⟩
      · have hu : shownL l p = l.all isDig := by
          have e1 : (l.head? == some 48) = false := by rw [hh]; simpa using hc
          simp only [shownL, e1, decide_eq_true h1, Bool.and_false, Bool.not_false, Bool.true_and]
        rw [hu]
        have hcn : ¬ ((l[0]'hk0).toNat : Int) = 48 := by
          intro h'; apply hc; apply UInt8.toNat_inj.1; show _ = 48; omega
        obtain ⟨c, hc'⟩ : ∃ c : Int, ((l[0]'hk0).toNat : Int) = c := ⟨_, rfl⟩
        rw [hc'] at hI hcn
        have hD := digits_any l
        obtain ⟨s, hs⟩ : ∃ s, txt l = s := ⟨_, rfl⟩
        rw [hs] at hI hsb g1 g2 hD
        rw [hs]
        clear hh hc hc' hu hs hz hl h1 h2
        go_enter Tryz.func24, Tryz.ntmps24
        go_wp2_with (go_at_call 45; refine (hD _).mono ?_; rintro e w' ⟨rfl, hb⟩)
        go_ret
        exact ⟨by simp, hb⟩
    · have g2 : ¬ (1 : Int) < ((txt l).size : Int) - p := by omega
      have hu : shownL l p = l.all isDig := by
        simp only [shownL, decide_eq_true h1, decide_eq_false h2, Bool.false_and, Bool.not_false, Bool.true_and]
      rw [hu]
      have hD := digits_any l
      obtain ⟨s, hs⟩ : ∃ s, txt l = s := ⟨_, rfl⟩
      rw [hs] at hsb g1 g2 hD
      rw [hs]
      clear hu hs hz hl h1 h2
      go_enter Tryz.func24, Tryz.ntmps24
      go_wp2_with (go_at_call 45; refine (hD _).mono ?_; rintro e w' ⟨rfl, hb⟩)
      go_ret
      exact ⟨by simp, hb⟩
  · have g1 : ((txt l).size : Int) - p < 1 := by omega
    have g0 : -8 < ((txt l).size : Int) - p := by omega
    have hu : shownL l p = false := by simp only [shownL, decide_eq_false h1, Bool.false_and]
    rw [hu]
    obtain ⟨s, hs⟩ : ∃ s, txt l = s := ⟨_, rfl⟩
    rw [hs] at hsb g1 g0
    rw [hs]
    clear hu hs hz hl h1
    go_enter Tryz.func24, Tryz.ntmps24
    go_wp2
    go_ret
    exact ⟨rfl, Below.refl _ _⟩
end Go.Proofs.YtikifooomeikgaaGreatDoor
