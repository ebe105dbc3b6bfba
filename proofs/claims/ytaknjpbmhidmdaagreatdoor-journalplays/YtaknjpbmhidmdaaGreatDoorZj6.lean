/-
  The contracts of entry.checkHead, entry.checkLine, entry.Check.
-/
import Derived.Test.YtaknjpbmhidmdaaGreatDoorZj5
import Derived.Test.YtaknjpbmhidmdaaGreatDoorProg
import Derived.WalkKit
import Derived.WalkSpells
import Derived.Lib.OthersKept
import Derived.Lib.TrimU
import Derived.Deep.LoopGhost
import Derived.Test.YtaknjpbmhidmdaaGreatDoorZj3
namespace Go.Proofs.YtaknjpbmhidmdaaGreatDoor
set_option linter.unusedVariables false
set_option linter.unusedSimpArgs false
set_option maxRecDepth 100000
open Go.RowKit Go.Lib

/-- The codes of those that are under one. -/
def undC (l : List Ac) (c : ByteArray) : List ByteArray := (und l c).map fun i => (l.getD i ac0).code

theorem placeBad_ok {l : List Ac} {c : ByteArray} (h : placeBad l c = 0) : chBad l = 0 ∧ 0 ≤ idxP (hasCode c) l := by
  unfold placeBad at h
  split at h
  · omega
  · split at h
    · omega
    · exact ⟨by omega, by omega⟩

theorem TxtRow.below {w w' : World} {n : Nat} {v : Value} {fs : List ByteArray} (h : TxtRow w n v fs) (hb : Below w.heap.size w w') : TxtRow w' n v fs := by
  rcases h.2 with ⟨hv, hn⟩ | ⟨g1, c1, cur, hv, hb1, hh, r⟩
  · exact ⟨h.1, .inl ⟨hv, hn⟩⟩
  · exact ⟨h.1, .inr ⟨g1, c1, cur, hv, hb1, (hb.block g1 (Array.getElem?_eq_some_iff.1 hh).1).trans hh, r⟩⟩

theorem row_mono {w : World} {n m : Nat} {v : Value} {fs : List ByteArray} (h : TxtRow w n v fs) (hm : m ≤ n) : TxtRow w m v fs := by
  rcases h.2 with ⟨hv, hn⟩ | ⟨g1, c1, cur, hv, hb1, r⟩
  · exact ⟨h.1, .inl ⟨hv, hn⟩⟩
  · exact ⟨h.1, .inr ⟨g1, c1, cur, hv, by omega, r⟩⟩

/-- An account whose parent is a code. -/
def hasPar (c : ByteArray) (a : Ac) : Bool := decide (a.par = c)
def leafB (l : List Ac) (a : Ac) : Bool := decide (idxP (hasPar a.code) l < 0)
/-- The codes of the leaves. -/
def lvs (l : List Ac) : List ByteArray := (l.filter (leafB l)).map Ac.code

theorem leaves1_any (x : Ac) (c : ByteArray) (B : Nat) (w : World) (hB : w.cell? ⟨B, 0, none⟩ = some (.string c)) (hlt : B < w.heap.size) :
    Calls Tryz.prog 56 #[.agg x.cells, .pointer (some ⟨B, 0, none⟩)] w fun e w' => e = .returned (.bool (hasPar c x)) ∧ Below w.heap.size w w' := by
  obtain ⟨a0, a1, a2, a3, a4⟩ := x
  have b0 : Below w.heap.size w (w.alloc (.cells #[.string a0, .string a1, .int .i64 a2, .string a3, .bool a4] 80)) := (Below.refl _ w).alloc (Nat.le_refl _) _
  have hB2 : (w.alloc (.cells #[.string a0, .string a1, .int .i64 a2, .string a3, .bool a4] 80)).cell? ⟨B, 0, none⟩ = some (.string c) := (b0.cell (p := ⟨B, 0, none⟩) hlt).trans hB
  simp only [Ac.cells]
  by_cases h : a3 = c
  · subst h
    have e1 : hasPar a3 ⟨a0, a1, a2, a3, a4⟩ = true := by simp [hasPar]
    rw [e1]
    go_enter Tryz.func56, Tryz.ntmps56
    go_wp2
    go_ret
    exact ⟨rfl, b0⟩
  · have e1 : hasPar c ⟨a0, a1, a2, a3, a4⟩ = false := by simp [hasPar, h]
    have h' := ch_ne h
    rw [e1]
    go_enter Tryz.func56, Tryz.ntmps56
    go_wp2
    go_ret
    exact ⟨by rw [← h']; rfl, b0⟩

theorem leaves1_tells (c : ByteArray) (B : Nat) (w : World) (hB : w.cell? ⟨B, 0, none⟩ = some (.string c)) (hlt : B < w.heap.size) : Tells 56 B (hasPar c) w :=
  ⟨fun args W => enters Tryz.func56 (by kernel_rfl) ⟨_, rfl⟩ args W, fun x W hW => leaves1_any x c B W ((hW.cell (p := ⟨B, 0, none⟩) hlt).trans hB) (by have := hW.size; omega)⟩

theorem chContF_any (g B : Nat) (p : Ac → Bool) (a : Option Addr) (cap : Nat) (l : List Ac) (w : World) (hp : Tells g B p w) (hlen : l.length ≤ 1000) (h : IsSl w a l cap) :
    Calls Tryz.prog 55 #[.slice a l.length cap, .func (.func g) #[] #[.pointer (some ⟨B, 0, none⟩)]] w fun e w' => e = .returned (.bool (decide (0 ≤ idxP p l))) ∧ Below w.heap.size w w' := by
  have hI := chIdx_any g B p a cap l w hp hlen h
  clear hp h
  go_enter Tryz.func55, Tryz.ntmps55
  go_wp2_with fail
  refine hI.mono ?_
  rintro e w' ⟨rfl, hb⟩
  go_wp2
  go_ret
  exact ⟨rfl, hb⟩

theorem lvs_step (l : List Ac) (k : Nat) (h : k < l.length) : ((l.take (k + 1)).filter (leafB l)).map Ac.code = ((l.take k).filter (leafB l)).map Ac.code ++ (if leafB l (l.getD k ac0) = true then [(l.getD k ac0).code] else []) := by
  have e2 : l.take (k + 1) = l.take k ++ [l.getD k ac0] := by
    rw [List.take_succ_eq_append_getElem h, List.getD_eq_getElem?_getD, List.getElem?_eq_getElem h]; rfl
  rw [e2, List.filter_append, List.map_append]
  congr 1
  by_cases hh : leafB l (l.getD k ac0) = true
  · rw [if_pos hh, List.filter_cons_of_pos hh]; rfl
  · rw [if_neg hh, List.filter_cons_of_neg hh]; rfl

theorem leaves_none (a : Option Addr) (cap : Nat) (w : World) :
    Calls Tryz.prog 41 #[.slice a 0 cap] w fun e w' => e = .returned (.tuple #[.slice none 0 0, .nilIface]) ∧ Below w.heap.size w w' := by
  have HC := chCheck_none a cap w
  rw [chE_zero] at HC
  go_enter Tryz.func41, Tryz.ntmps41
  go_wp2_with fail
  refine HC.mono ?_
  rintro e w1 ⟨rfl, hb1⟩
  go_wp2
  refine wp_loop_rounds 1 ?_
  rw [rounds_succ]
  go_wp2
  go_ret2
  exact ⟨rfl, hb1⟩

theorem leaves_bad (a : Option Addr) (cap : Nat) (l : List Ac) (w : World) (h : IsSl w a l cap) (h0 : chBad l ≠ 0) :
    Calls Tryz.prog 41 #[.slice a l.length cap] w fun e w' => e = .returned (.tuple #[.slice none 0 0, chE (chBad l)]) ∧ Below w.heap.size w w' := by
  have HC := chCheck_any a cap l w h
  rw [chE_ne h0] at HC ⊢
  clear h h0
  generalize chBad l = bad at *
  go_enter Tryz.func41, Tryz.ntmps41
  go_wp2_with fail
  refine HC.mono ?_
  rintro e w1 ⟨rfl, hb1⟩
  go_wp2
  go_ret2
  exact ⟨rfl, hb1⟩

set_option maxHeartbeats 4000000 in
theorem leaves_some (b off cap : Nat) (l : List Ac) (w : World) (hb : b < w.heap.size) (hcap : l.length ≤ cap) (hc : AcsAt w b off l) (h0 : chBad l = 0) :
    Calls Tryz.prog 41 #[.slice (some ⟨b, off, none⟩) l.length cap] w fun e w' => ∃ v, e = .returned (.tuple #[v, .nilIface]) ∧ TxtRow w' w.heap.size v (lvs l) ∧ Below w.heap.size w w' := by
  have hlen := chBad_len h0
  have Hlen : (l.length : Int) ≤ 60 := by omega
  have hsl : IsSl w (some ⟨b, off, none⟩) l cap := ⟨hcap, .inr ⟨b, off, rfl, hb, hc⟩⟩
  have HC := chCheck_any (some ⟨b, off, none⟩) cap l w hsl
  rw [h0, chE_zero] at HC
  have HF : Hid (∀ B c W, Below w.heap.size w W → W.cell? ⟨B, 0, none⟩ = some (.string c) → B < W.heap.size → Calls Tryz.prog 55 #[.slice (some ⟨b, off, none⟩) l.length cap, .func (.func 56) #[] #[.pointer (some ⟨B, 0, none⟩)]] W fun e w' => e = .returned (.bool (decide (0 ≤ idxP (hasPar c) l))) ∧ Below W.heap.size W w') := fun B c W hW hB hlt =>
    chContF_any _ B (hasPar c) _ cap l W (leaves1_tells c B W hB hlt) (by omega) (hsl.below hW)
  have Hc : Hid (AcsAt w b off l) := hc
  clear hc hsl
  obtain ⟨i0, hi, hz0, hz1, hz2⟩ := info_parts str_info
  go_enter Tryz.func41, Tryz.ntmps41
  go_wp2_with fail
  refine HC.mono ?_
  rintro e w1 ⟨rfl, hb1⟩
  go_wp2
  go_loopw [5, 15] (fun s5 i wr => ∃ k : Nat, k ≤ l.length ∧ i = .int .i64 k ∧ Hid (TxtRow wr w.heap.size s5 (((l.take k).filter (leafB l)).map Ac.code)) ∧ Below w.heap.size w wr) (fun _ i _ => l.length - (intOf i).toNat)
  case atStart => exact ⟨0, Nat.zero_le _, rfl, World.ownsRow_nil _ _ _ _, hb1⟩
  case round =>
    obtain ⟨k, hk, rfl, R, BW⟩ := hrel
    by_cases hlt : k < l.length
    · have hn := (Hc.out k hlt).below BW hb
      have hst := lvs_step l k hlt
      have hfl : (((l.take k).filter (leafB l)).map Ac.code).length ≤ 60 := by
        rw [List.length_map]
        have := List.length_filter_le (leafB l) (l.take k)
        simp only [List.length_take] at this
        omega
      have B2 := BW.alloc BW.size (.cells (l.getD k ac0).cells 80)
      have hcall := HF.out wr.heap.size (l.getD k ac0).code (wr.alloc (.cells (l.getD k ac0).cells 80)) B2 (AcAt.new wr _ _).c0 (by simp)
      have hx := AcAt.new wr (l.getD k ac0) 80
      have R1 := World.ownsRow.alloc R.out (.cells (l.getD k ac0).cells 80)
      have eL : leafB l (l.getD k ac0) = !decide (0 ≤ idxP (hasPar (l.getD k ac0).code) l) := by
        unfold leafB
        by_cases hh : 0 ≤ idxP (hasPar (l.getD k ac0).code) l
        · rw [decide_eq_true hh, decide_eq_false (by omega)]; rfl
        · rw [decide_eq_false hh, decide_eq_true (by omega)]; rfl
      rw [eL] at hst
      clear R eL
      generalize l.getD k ac0 = x at *
      generalize ((l.take k).filter (leafB l)).map Ac.code = fs at *
      have Hst : Hid (((l.take (k + 1)).filter (leafB l)).map Ac.code = _) := hst
      have HR1 : Hid (World.ownsRow _ _ _ _ _ _ _) := R1
      have Hcall : Hid (Calls _ _ _ _ _) := hcall
      clear hst R1 hcall
      obtain ⟨x0, x1, x2, x3, x4⟩ := x
      obtain ⟨c0, c1, c2, c3, c4⟩ := hn
      simp only [Ac.cells] at c0 c1 c2 c3 c4 hx B2 HR1 Hcall Hst
      have j0 : (0 : Int) ≤ k := by omega
      have j1 : (k : Int) < l.length := by omega
      cases hq : decide (0 ≤ idxP (hasPar x0) l)
      · rw [hq] at Hcall Hst
        go_wp2_with fail
        refine Hcall.out.mono ?_
        rintro e w2 ⟨rfl, hb2⟩
        have hx2 := hx.below hb2 (by simp)
        have HR2 : Hid (TxtRow w2 w.heap.size _ fs) := TxtRow.below HR1.out hb2
        have B3 := B2.trans (hb2.mono B2.size)
        have hs3 := B3.size
        clear hx hb2 Hcall HR1 B2 c0 c1 c2 c3 c4
        obtain ⟨d0, d1, d2, d3, d4⟩ := hx2
        simp only [Nat.zero_add] at d0 d1 d2 d3 d4
        go_wp2_with (at_builtin; refine wpList_append_own _ rfl _ _ 82 rfl w.heap.size 9 i0 (.string ByteArray.empty) 1 16 Tryz.underlying82 hi hz0 hz1 hz2 rfl (by decide) _ _ _ rfl (World.ownsRow.alloc HR2.out _) ⟨w2.heap.size, 0, none⟩ 1 1 [.string x0] rfl rfl (cell_one_new _ _ _) ?c2 ?c3 ?c4 ?c5 ?_)
        case c2 => intro u hu; simp at hu; subst hu; rfl
        case c3 => unfold maxLen; omega
        case c4 => omega
        case c5 => simp; omega
        intro v' w3 hown' hgrow _
        have B4 : Below w.heap.size w w3 := (B3.alloc hs3 (.cells #[.string x0] 9)).grown hgrow (by simp; omega) (fun j ej => by
          rcases HR2.out.form with ⟨hv, _⟩ | ⟨g1, c1, hv, hg1, _⟩
          · rw [hv] at ej; cases ej
          · rw [hv] at ej; cases ej; exact hg1)
        have R3 : TxtRow w3 w.heap.size v' (((l.take (k + 1)).filter (leafB l)).map Ac.code) := by
          rw [Hst.out]
          unfold TxtRow
          simpa using hown'
        have HR3 : Hid (TxtRow _ _ _ _) := R3
        clear hown' hgrow R3 HR2
        go_wp2
        go_roundw
        case rel => exact ⟨k + 1, by omega, by go_num, HR3.out, B4⟩
        case measure => simp [intOf]; omega
      · rw [hq] at Hcall Hst
        go_wp2_with (go_at_call 55; refine Hcall.out.mono ?_; rintro e w2 ⟨rfl, hb2⟩)
        go_roundw
        case rel => exact ⟨k + 1, by omega, by go_num, by unfold Hid; rw [Hst.out]; simpa using TxtRow.below HR1.out hb2, B2.trans (hb2.mono B2.size)⟩
        case measure => simp [intOf]; omega
    · have hk2 : k = l.length := by omega
      subst hk2
      go_wp2
      go_ret2
      refine ⟨_, rfl, ?_, BW⟩
      have := R.out
      rw [List.take_length] at this
      exact this

theorem leaves_ok (a : Option Addr) (cap : Nat) (l : List Ac) (w : World) (h : IsSl w a l cap) (h0 : chBad l = 0) :
    Calls Tryz.prog 41 #[.slice a l.length cap] w fun e w' => ∃ v, e = .returned (.tuple #[v, .nilIface]) ∧ TxtRow w' w.heap.size v (lvs l) ∧ Below w.heap.size w w' := by
  rcases h.lies with rfl | ⟨b, off, rfl, hlt, hc⟩
  · refine (leaves_none a cap w).mono ?_
    rintro e w' ⟨rfl, hb⟩
    exact ⟨_, rfl, World.ownsRow_nil _ _ _ _, hb⟩
  · exact leaves_some b off cap l w hlt h.cap hc h0
end Go.Proofs.YtaknjpbmhidmdaaGreatDoor

namespace Go.Proofs.YtaknjpbmhidmdaaGreatDoor
set_option linter.unusedVariables false
open Go.RowKit Go.Lib

/-- A sign that is no letter A to Z. -/
def other (r : Nat) : Bool := decide (r < 65) || decide (90 < r)

/-- Is there such a sign, from a place on, among at most so many? -/
def otherFrom (s : ByteArray) : Nat → Nat → Int
  | 0, _ => -1
  | f + 1, pos => if pos < s.size then (if other (Utf8.decode s pos).1 = true then (pos : Int) else otherFrom s f (pos + (Utf8.decode s pos).2)) else -1

theorem otherFrom_end (s : ByteArray) (f pos : Nat) (h : ¬ pos < s.size) : otherFrom s f pos = -1 := by cases f <;> simp [otherFrom, h]

theorem otherFrom_ge (s : ByteArray) : ∀ (f pos : Nat), -1 ≤ otherFrom s f pos
  | 0, _ => by simp [otherFrom]
  | f + 1, pos => by
    unfold otherFrom
    split
    · split
      · omega
      · exact otherFrom_ge s f _
    · omega

/-- Is a text a currency? -/
def isCur (s : ByteArray) : Bool := s.size == 3 && decide (otherFrom s s.size 0 < 0)

theorem closure_any (r : Nat) (w : World) :
    Calls Tryz.prog 78 #[.int .i32 r] w fun e w' => e = .returned (.bool (other r)) ∧ w' = w := by
  by_cases h1 : (r : Int) < 65
  · go_enter Tryz.func78, Tryz.ntmps78
    go_wp2
    go_ret
    refine ⟨?_, rfl⟩
    have : other r = true := by simp [other]; omega
    rw [this]; rfl
  · go_enter Tryz.func78, Tryz.ntmps78
    go_wp2
    go_ret
    refine ⟨?_, rfl⟩
    have : other r = decide ((90 : Int) < r) := by
      have e1 : decide (r < 65) = false := by simp; omega
      have e2 : decide (90 < r) = decide ((90 : Int) < r) := by simp; omega
      unfold other; rw [e1, e2]; rfl
    rw [this]; rfl

set_option maxHeartbeats 1000000 in
theorem indexFunc_any (s : ByteArray) (w : World) :
    Calls Tryz.prog 97 #[.string s, .func (.func 78) #[] #[], .bool true] w fun e w' => e = .returned (.int .i64 (otherFrom s s.size 0)) ∧ Below w.heap.size w w' := by
  go_enter Tryz.func97, Tryz.ntmps97
  go_wp2
  go_loopg [] s.size (fun gf wx => ∃ pos : Nat, wx.heap[w.heap.size]? = some (.stringIter s pos) ∧ Below w.heap.size w wx ∧ otherFrom s gf pos = otherFrom s s.size 0 ∧ s.size ≤ pos + gf)
  case atStart => exact ⟨0, World.iter_heap w s 0, (Below.refl _ w).alloc (Nat.le_refl _) _, rfl, by omega⟩
  case round =>
    obtain ⟨pos, hit, hbw, hleft, hfu⟩ := hrel
    by_cases hps : pos < s.size
    · obtain ⟨g', rfl⟩ : ∃ g', gk = g' + 1 := ⟨gk - 1, by omega⟩
      have hnx : ∀ ty, (Instr.next (.pointer (some ⟨w.heap.size, 0, none⟩)) true ty).run Tryz.prog wr = _ := fun ty => Lib.run_next_any_at wr w.heap.size s pos ty hit hps
      have hwd := Lib.width_pos s pos
      obtain ⟨R, hR⟩ : ∃ R, (Utf8.decode s pos).1 = R := ⟨_, rfl⟩
      obtain ⟨K, hK⟩ : ∃ K, (Utf8.decode s pos).2 = K := ⟨_, rfl⟩
      simp only [otherFrom, hps, if_true, hR, hK] at hleft
      rw [hR, hK] at hnx
      rw [hK] at hwd
      have hit2 := Lib.iterAt_heap wr w.heap.size s pos (pos + K) hit
      have hbw2 := Lib.below_iterAt hbw (k := w.heap.size) (Nat.le_refl _) s (pos + K)
      obtain ⟨W, hWd⟩ : ∃ W, wr.iterAt w.heap.size s (pos + K) = W := ⟨_, rfl⟩
      rw [hWd] at hnx hit2 hbw2
      cases hsp : other R <;> simp only [hsp, if_true, Bool.false_eq_true, if_false] at hleft
      · go_wp2_with (go_at_call 78; refine (closure_any R _).mono ?_; rintro e W' ⟨rfl, rfl⟩; rw [hsp])
        go_roundg g'
        case measure => omega
        case rel => exact ⟨pos + K, hit2, hbw2, hleft, by omega⟩
      · go_wp2_with (go_at_call 78; refine (closure_any R _).mono ?_; rintro e W' ⟨rfl, rfl⟩; rw [hsp])
        go_ret
        exact ⟨by rw [← hleft]; rfl, hbw2⟩
    · have hnx : ∀ ty, (Instr.next (.pointer (some ⟨w.heap.size, 0, none⟩)) true ty).run Tryz.prog wr = _ := fun ty => Lib.run_next_end_at wr w.heap.size s pos ty hit hps
      rw [otherFrom_end s gk pos hps] at hleft
      go_wp2
      go_ret
      exact ⟨by rw [← hleft]; rfl, hbw⟩

theorem containsFunc_any (s : ByteArray) (w : World) :
    Calls Tryz.prog 75 #[.string s, .func (.func 78) #[] #[]] w fun e w' => e = .returned (.bool (decide (0 ≤ otherFrom s s.size 0))) ∧ Below w.heap.size w w' := by
  have hI : Calls Tryz.prog 88 #[.string s, .func (.func 78) #[] #[]] w fun e w' => e = .returned (.int .i64 (otherFrom s s.size 0)) ∧ Below w.heap.size w w' := by
    go_enter Tryz.func88, Tryz.ntmps88
    go_wp2_with fail
    refine (indexFunc_any s _).mono ?_
    rintro e w' ⟨rfl, hb⟩
    go_wp2
    go_ret
    exact ⟨rfl, hb⟩
  go_enter Tryz.func75, Tryz.ntmps75
  go_wp2_with fail
  refine hI.mono ?_
  rintro e w' ⟨rfl, hb⟩
  go_wp2
  go_ret
  exact ⟨rfl, hb⟩

theorem cur_any (s : ByteArray) (w : World) :
    Calls Tryz.prog 61 #[.string s] w fun e w' => e = .returned (.bool (isCur s)) ∧ Below w.heap.size w w' := by
  by_cases h : s.size = 3
  · have h' : ((s.size : Int) == 3) = true := by simp; omega
    go_enter Tryz.func61, Tryz.ntmps61
    go_wp2_with fail
    refine (containsFunc_any s _).mono ?_
    rintro e w' ⟨rfl, hb⟩
    have e1 : isCur s = !decide (0 ≤ otherFrom s s.size 0) := by
      have e2 : (s.size == 3) = true := by simp [h]
      have e3 : decide (otherFrom s s.size 0 < 0) = !decide (0 ≤ otherFrom s s.size 0) := by
        by_cases h0 : 0 ≤ otherFrom s s.size 0
        · rw [decide_eq_true h0, decide_eq_false (by omega)]; rfl
        · rw [decide_eq_false h0, decide_eq_true (by omega)]; rfl
      unfold isCur; rw [e2, e3]; rfl
    rw [h] at e1
    go_wp2
    go_ret
    exact ⟨by rw [e1]; rfl, hb⟩
  · have h' : ((s.size : Int) == 3) = false := by simp; omega
    have e1 : isCur s = false := by
      have e2 : (s.size == 3) = false := by simp [h]
      unfold isCur; rw [e2]; rfl
    go_enter Tryz.func61, Tryz.ntmps61
    go_wp2
    go_ret
    exact ⟨by rw [e1]; rfl, Below.refl _ _⟩

/-- Is a number from 1 to another one? -/
def upTo (n m : Int) : Bool := decide (1 ≤ n) && decide (n ≤ m)

end Go.Proofs.YtaknjpbmhidmdaaGreatDoor

namespace Go.Proofs.YtaknjpbmhidmdaaGreatDoor
set_option linter.unusedVariables false
set_option linter.unusedSimpArgs false
set_option maxRecDepth 100000
open Go.RowKit Go.Lib

theorem enE_chE (n : Int) : enE n = chE n := rfl

theorem enUpTo_any (n m : Int) (w : World) :
    Calls Tryz.prog 58 #[.int .i64 n, .int .i64 m] w fun e w' => e = .returned (.bool (upTo n m)) ∧ w' = w := by
  by_cases h : 1 ≤ n
  · have e1 : upTo n m = decide (n ≤ m) := by simp [upTo, h]
    go_enter Tryz.func58, Tryz.ntmps58
    go_wp2
    go_ret
    exact ⟨by rw [e1]; rfl, rfl⟩
  · have e1 : upTo n m = false := by simp [upTo, h]
    go_enter Tryz.func58, Tryz.ntmps58
    go_wp2
    go_ret
    exact ⟨rfl, rfl⟩

/-- What is wrong with an entry, whatever its lines have. -/
def headBad (r : ByteArray) (en pe : Int) (n : Nat) : Int :=
  if isRefB r = false then 2 else if upTo en 12 = false ∨ upTo pe 120 = false then 1 else if n < 2 then 3 else if 20 < n then 4 else 0

set_option maxHeartbeats 2000000 in
theorem checkHead_any (r : ByteArray) (en pe : Int) (a : Option Addr) (cap n : Nat) (w : World) :
    Calls Tryz.prog 42 #[.agg #[.string r, .int .i64 en, .int .i64 pe, .slice a n cap]] w fun e w' => e = .returned (enE (headBad r en pe n)) ∧ Below w.heap.size w w' := by
  have b0 : Below w.heap.size w (w.alloc (.cells #[.string r, .int .i64 en, .int .i64 pe, .slice a n cap] 29)) := (Below.refl _ w).alloc (Nat.le_refl _) _
  have x0 := Box4.new w r en pe (.slice a n cap)
  have hs0 : (w.alloc (.cells #[.string r, .int .i64 en, .int .i64 pe, .slice a n cap] 29)).heap.size = w.heap.size + 1 := by simp
  have HI : Hid (∀ W, Below w.heap.size w W → Calls Tryz.prog 57 #[.string r] W fun e w' => e = .returned (.bool (isRefB r)) ∧ Below W.heap.size W w') := fun W _ => isRef_any r W
  have HU := enUpTo_any
  obtain ⟨res, hres⟩ : ∃ res, headBad r en pe n = res := ⟨_, rfl⟩
  rw [hres]
  have Hres : Hid (headBad r en pe n = res) := hres
  clear hres
  cases hr : isRefB r
  · rw [hr] at HI
    have er : res = 2 := by rw [← Hres.out]; simp [headBad, hr]
    subst er
    clear HU
    go_enter Tryz.func42, Tryz.ntmps42
    go_wp2_with fail
    refine (HI.out _ b0).mono ?_
    rintro e w1 ⟨rfl, hb1⟩
    have B1 := b0.trans (hb1.mono (by simp))
    clear HI hb1
    go_wp2
    go_ret
    exact ⟨rfl, B1⟩
  rw [hr] at HI
  go_enter Tryz.func42, Tryz.ntmps42
  go_wp2_with fail
  refine (HI.out _ b0).mono ?_
  rintro e w1 ⟨rfl, hb1⟩
  rw [hs0] at hb1
  have B1 := b0.trans (hb1.mono (by omega))
  have y1 := x0.below hb1 (by omega)
  have c1 := y1.c1
  have c2 := y1.c2
  have c3 := y1.c3
  clear HI hb1 b0 x0 hs0 y1
  have HU1 := enUpTo_any en 12 w1
  have HU2 := enUpTo_any pe 120 w1
  cases h1 : upTo en 12
  · have er : res = 1 := by rw [← Hres.out]; simp [headBad, hr, h1]
    subst er
    rw [h1] at HU1
    go_wp2_with (go_at_call 58; refine HU1.mono ?_; rintro e w' ⟨rfl, rfl⟩)
    go_ret
    exact ⟨rfl, B1⟩
  rw [h1] at HU1
  cases h2 : upTo pe 120
  · have er : res = 1 := by rw [← Hres.out]; simp [headBad, hr, h1, h2]
    subst er
    rw [h2] at HU2
    go_wp2_with fail
    refine HU1.mono ?_
    rintro e w' ⟨rfl, rfl⟩
    go_wp2_with fail
    refine HU2.mono ?_
    rintro e w' ⟨rfl, rfl⟩
    go_wp2
    go_ret
    exact ⟨rfl, B1⟩
  rw [h2] at HU2
  by_cases h3 : n < 2
  · have er : res = 3 := by rw [← Hres.out]; simp [headBad, hr, h1, h2, h3]
    subst er
    have h3' : (n : Int) < 2 := by omega
    go_wp2_with fail
    refine HU1.mono ?_
    rintro e w' ⟨rfl, rfl⟩
    go_wp2_with fail
    refine HU2.mono ?_
    rintro e w' ⟨rfl, rfl⟩
    go_wp2
    go_ret
    exact ⟨rfl, B1⟩
  have h3' : ¬ (n : Int) < 2 := by omega
  by_cases h4 : 20 < n
  · have er : res = 4 := by rw [← Hres.out]; simp [headBad, hr, h1, h2, h3, h4]
    subst er
    have h4' : (20 : Int) < n := by omega
    go_wp2_with fail
    refine HU1.mono ?_
    rintro e w' ⟨rfl, rfl⟩
    go_wp2_with fail
    refine HU2.mono ?_
    rintro e w' ⟨rfl, rfl⟩
    go_wp2
    go_ret
    exact ⟨rfl, B1⟩
  · have er : res = 0 := by rw [← Hres.out]; simp [headBad, hr, h1, h2, h3, h4]
    subst er
    have h4' : ¬ (20 : Int) < n := by omega
    go_wp2_with fail
    refine HU1.mono ?_
    rintro e w' ⟨rfl, rfl⟩
    go_wp2_with fail
    refine HU2.mono ?_
    rintro e w' ⟨rfl, rfl⟩
    go_wp2
    go_ret
    exact ⟨rfl, B1⟩

theorem checkLine1_any (x : Ac) (c : ByteArray) (B : Nat) (w : World) (hB : w.cell? ⟨B, 0, none⟩ = some (.string c)) (hlt : B < w.heap.size) :
    Calls Tryz.prog 59 #[.agg x.cells, .pointer (some ⟨B, 0, none⟩)] w fun e w' => e = .returned (.bool (hasCode c x)) ∧ Below w.heap.size w w' := by
  obtain ⟨a0, a1, a2, a3, a4⟩ := x
  have b0 : Below w.heap.size w (w.alloc (.cells #[.string a0, .string a1, .int .i64 a2, .string a3, .bool a4] 80)) := (Below.refl _ w).alloc (Nat.le_refl _) _
  have hB2 : (w.alloc (.cells #[.string a0, .string a1, .int .i64 a2, .string a3, .bool a4] 80)).cell? ⟨B, 0, none⟩ = some (.string c) := (b0.cell (p := ⟨B, 0, none⟩) hlt).trans hB
  simp only [Ac.cells]
  by_cases h : a0 = c
  · subst h
    have e1 : hasCode a0 ⟨a0, a1, a2, a3, a4⟩ = true := by simp [hasCode]
    rw [e1]
    go_enter Tryz.func59, Tryz.ntmps59
    go_wp2
    go_ret
    exact ⟨rfl, b0⟩
  · have e1 : hasCode c ⟨a0, a1, a2, a3, a4⟩ = false := by simp [hasCode, h]
    have h' := ch_ne h
    rw [e1]
    go_enter Tryz.func59, Tryz.ntmps59
    go_wp2
    go_ret
    exact ⟨rfl, b0⟩
theorem checkLine1_tells (c : ByteArray) (B : Nat) (w : World) (hB : w.cell? ⟨B, 0, none⟩ = some (.string c)) (hlt : B < w.heap.size) : Tells 59 B (hasCode c) w :=
  ⟨fun args W => enters Tryz.func59 (by kernel_rfl) ⟨_, rfl⟩ args W, fun x W hW => checkLine1_any x c B W ((hW.cell (p := ⟨B, 0, none⟩) hlt).trans hB) (by have := hW.size; omega)⟩

/-- What is wrong with a line by itself. -/
def lnBad (c : List Ac) (x : Ln) : Int :=
  if idxP (hasCode x.acc) c < 0 then 6 else if memB x.acc (lvs c) = false then 12 else if isCur x.cur = false then 2 else if x.amt = 0 ∨ isAmtB x.amt = false then 1 else 0

set_option maxHeartbeats 2000000 in
theorem checkLine_any (ca : Option Addr) (cc : Nat) (c : List Ac) (n0 : Nat) (v : Value) (x : Ln) (w : World) (hc : IsSl w ca c cc) (hlen : c.length ≤ 60) (hv : TxtRow w n0 v (lvs c)) :
    Calls Tryz.prog 43 #[.slice ca c.length cc, v, .agg x.cells] w fun e w' => e = .returned (enE (lnBad c x)) ∧ Below w.heap.size w w' := by
  have b0 : Below w.heap.size w (w.alloc (.cells x.cells 44)) := (Below.refl _ w).alloc (Nat.le_refl _) _
  have x0 := LnAt.new w x 44
  have hs0 : (w.alloc (.cells x.cells 44)).heap.size = w.heap.size + 1 := by simp
  have hlv : (lvs c).length ≤ 1000 := by
    unfold lvs
    rw [List.length_map]
    have := List.length_filter_le (leafB c) c
    omega
  have hF := chContF_any _ w.heap.size (hasCode x.acc) ca cc c _ (checkLine1_tells x.acc w.heap.size _ x0.c0 (by simp)) (by omega) (hc.below b0)
  have HF : Hid (Calls _ _ _ _ _) := hF
  have HT : Hid (∀ W, Below w.heap.size w W → Calls Tryz.prog 60 #[v, .string x.acc] W fun e w' => e = .returned (.bool (memB x.acc (lvs c))) ∧ w' = W) := fun W hW => tContains_any n0 v (lvs c) x.acc W hlv (hv.below hW)
  have HU : Hid (∀ W, Calls Tryz.prog 61 #[.string x.cur] W fun e w' => e = .returned (.bool (isCur x.cur)) ∧ Below W.heap.size W w') := fun W => cur_any x.cur W
  have HA : Hid (∀ W, Calls Tryz.prog 62 #[.int .i64 x.amt] W fun e w' => e = .returned (.bool (isAmtB x.amt)) ∧ w' = W) := fun W => isAmount_any x.amt W
  obtain ⟨res, hres⟩ : ∃ res, lnBad c x = res := ⟨_, rfl⟩
  rw [hres]
  have Hres : Hid (lnBad c x = res) := hres
  clear hres hF hc hlv hv
  obtain ⟨x0', x1, x2⟩ := x
  simp only [Ln.cells] at b0 x0 hs0 HF ⊢
  by_cases h1 : 0 ≤ idxP (hasCode x0') c
  · rw [decide_eq_true h1] at HF
    go_enter Tryz.func43, Tryz.ntmps43
    go_wp2_with fail
    refine HF.out.mono ?_
    rintro e w1 ⟨rfl, hb1⟩
    rw [hs0] at hb1
    have B1 := b0.trans (hb1.mono (by omega))
    have hs1 := hb1.size
    rw [hs0] at hs1
    have y1 := x0.below hb1 (by omega)
    obtain ⟨c0, c1, c2⟩ := y1
    simp only [Nat.zero_add] at c0 c1 c2
    have HT1 := HT.out w1 B1
    clear HF hb1 b0 HT
    cases h2 : memB x0' (lvs c)
    · have er : res = 12 := by rw [← Hres.out]; simp only [lnBad]; rw [if_neg (by omega), if_pos h2]
      subst er
      rw [h2] at HT1
      go_wp2_with (go_at_call 60; refine HT1.mono ?_; rintro e w' ⟨rfl, rfl⟩)
      go_ret
      exact ⟨rfl, B1⟩
    rw [h2] at HT1
    go_wp2_with fail
    refine HT1.mono ?_
    rintro e w' ⟨rfl, rfl⟩
    go_wp2_with fail
    refine (HU.out w').mono ?_
    rintro e w2 ⟨rfl, hb2⟩
    have B2 := B1.trans (hb2.mono (by omega))
    have y2 := (LnAt.mk (off := 0) (x := ⟨x0', x1, x2⟩) c0 c1 c2).below hb2 (by omega)
    obtain ⟨d0, d1, d2⟩ := y2
    simp only [Nat.zero_add] at d0 d1 d2
    have HA1 := HA.out w2
    clear HT1 HU c0 c1 c2 hb2 HA
    cases h3 : isCur x1
    · have er : res = 2 := by rw [← Hres.out]; simp only [lnBad]; rw [if_neg (by omega), if_neg (by rw [h2]; simp), if_pos h3]
      subst er
      go_wp2
      go_ret
      exact ⟨rfl, B2⟩
    by_cases h4 : x2 = 0
    · have er : res = 1 := by rw [← Hres.out]; simp only [lnBad]; rw [if_neg (by omega), if_neg (by rw [h2]; simp), if_neg (by rw [h3]; simp), if_pos (.inl h4)]
      subst er
      subst h4
      go_wp2
      go_ret
      exact ⟨rfl, B2⟩
    have h4' : (x2 == 0) = false := by simpa using h4
    cases h5 : isAmtB x2
    · have er : res = 1 := by rw [← Hres.out]; simp only [lnBad]; rw [if_neg (by omega), if_neg (by rw [h2]; simp), if_neg (by rw [h3]; simp), if_pos (.inr h5)]
      subst er
      rw [h5] at HA1
      go_wp2_with (go_at_call 62; refine HA1.mono ?_; rintro e w' ⟨rfl, rfl⟩)
      go_ret
      exact ⟨rfl, B2⟩
    · have er : res = 0 := by rw [← Hres.out]; simp only [lnBad]; rw [if_neg (by omega), if_neg (by rw [h2]; simp), if_neg (by rw [h3]; simp), if_neg (by simp [h4, h5])]
      subst er
      rw [h5] at HA1
      go_wp2_with (go_at_call 62; refine HA1.mono ?_; rintro e w' ⟨rfl, rfl⟩)
      go_ret
      exact ⟨rfl, B2⟩
  · rw [decide_eq_false h1] at HF
    have er : res = 6 := by rw [← Hres.out]; simp only [lnBad]; rw [if_pos (by omega)]
    subst er
    clear HT HU HA
    go_enter Tryz.func43, Tryz.ntmps43
    go_wp2_with fail
    refine HF.out.mono ?_
    rintro e w1 ⟨rfl, hb1⟩
    have B1 := b0.trans (hb1.mono (by simp))
    clear HF hb1 b0
    go_wp2
    go_ret
    exact ⟨rfl, B1⟩
end Go.Proofs.YtaknjpbmhidmdaaGreatDoor
