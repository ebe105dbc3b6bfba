/-
  The contracts of entry.checkHead, entry.checkLine, entry.Check.
-/
import Derived.Test.YtpohlhejeaafdaaGreatDoorZj7
import Derived.Lib.Slices
import Derived.Laws.NewBlocks
import Derived.RangeFuncRecord
import Derived.Test.YtpohlhejeaafdaaGreatDoorZj0
import Derived.WalkKit
import Derived.WalkSpells
import Derived.Lib.OthersKept
import Derived.Lib.TrimU
import Derived.Deep.LoopGhost
import Derived.Test.YtpohlhejeaafdaaGreatDoorZj4
namespace Go.Proofs.YtpohlhejeaafdaaGreatDoor
set_option linter.unusedVariables false
set_option linter.unusedSimpArgs false
set_option maxRecDepth 100000
open Go.RowKit Go.Lib

/-- The cells of accounts, one behind the other. -/
def lfRow (l : List Ac) : List Value := l.flatMap fun x => x.cells.toList
theorem lf_five (x : Ac) : x.cells.toList.length = 5 := rfl
theorem lfRow_length : ∀ l : List Ac, (lfRow l).length = l.length * 5
  | [] => rfl
  | x :: l => by
    have := lfRow_length l
    unfold lfRow at *
    simp only [List.flatMap_cons, List.length_append, lf_five, this, List.length_cons]
    omega
theorem lfRow_get : ∀ (l : List Ac) (k j : Nat), k < l.length → j < 5 → (lfRow l)[k * 5 + j]? = (l.getD k ac0).cells.toList[j]?
  | [], _, _, h, _ => absurd h (by simp)
  | x :: l, 0, j, _, hj => by
    simp only [lfRow, List.flatMap_cons, Nat.zero_mul, Nat.zero_add, List.getD_cons_zero]
    rw [List.getElem?_append_left (by rw [lf_five]; exact hj)]
  | x :: l, k + 1, j, h, hj => by
    have ih := lfRow_get l k j (by simpa using h) hj
    simp only [lfRow, List.flatMap_cons, List.getD_cons_succ] at ih ⊢
    rw [List.getElem?_append_right (by rw [lf_five]; omega), lf_five, ← ih]
    congr 1
    omega
theorem lfRow_isSl {W : World} {n0 : Nat} {e : TypeId} {v : Value} {l : List Ac} (h : W.ownsRow n0 e 5 v l.length (lfRow l)) :
    ∃ a cap, v = .slice a l.length cap ∧ IsSl W a l cap := by
  obtain ⟨hlen, ⟨rfl, h0⟩ | ⟨g, cap, cur, rfl, hb, hg, hc, hm, hs, ht⟩⟩ := h
  · have : l = [] := List.eq_nil_of_length_eq_zero h0
    subst this
    exact ⟨none, 0, rfl, Nat.le_refl _, .inl rfl⟩
  · refine ⟨_, cap, rfl, hc, .inr ⟨g, 0, rfl, (Array.getElem?_eq_some_iff.1 hg).1, ?_⟩⟩
    intro k hk
    have C : ∀ j, j < 5 → W.cell? ⟨g, 0 + k * 5 + j, none⟩ = (l.getD k ac0).cells.toList[j]? := fun j hj => by
      have e1 : (lfRow l)[k * 5 + j]? = cur[k * 5 + j]? := by
        rw [← ht, List.getElem?_take, if_pos (by omega)]
        simp
      rw [← lfRow_get l k j hk hj, e1]
      simp [World.cell?, hg]
    exact ⟨C 0 (by omega), C 1 (by omega), C 2 (by omega), C 3 (by omega), C 4 (by omega)⟩
theorem lf_src {W : World} {b off : Nat} {l : List Ac} (h : AcsAt W b off l) : ∀ j u, (lfRow l)[j]? = some u → W.cell? ((⟨b, off, none⟩ : Addr).add j) = some u := by
  intro j u hj
  rw [Addr.add_lit]
  obtain ⟨q, r, hr, rfl⟩ : ∃ q r, r < 5 ∧ j = q * 5 + r := ⟨j / 5, j % 5, Nat.mod_lt _ (by omega), by omega⟩
  have hlt := (List.getElem?_eq_some_iff.1 hj).1
  rw [lfRow_length] at hlt
  have hq : q < l.length := by omega
  rw [lfRow_get l q r hq hr] at hj
  have := h q hq
  rcases (by omega : r = 0 ∨ r = 1 ∨ r = 2 ∨ r = 3 ∨ r = 4) with rfl | rfl | rfl | rfl | rfl
  · rw [← hj, Nat.add_zero, this.c0]; rfl
  · rw [← hj, ← Nat.add_assoc, this.c1]; rfl
  · rw [← hj, ← Nat.add_assoc, this.c2]; rfl
  · rw [← hj, ← Nat.add_assoc, this.c3]; rfl
  · rw [← hj, ← Nat.add_assoc, this.c4]; rfl
theorem lfRow_one (l : List Ac) : ∀ u ∈ lfRow l, u.oneCell' = true := by
  intro u hu
  obtain ⟨x, _, hx⟩ := List.mem_flatMap.1 hu
  simp only [Ac.cells, List.mem_cons, List.not_mem_nil, or_false] at hx
  rcases hx with rfl | rfl | rfl | rfl | rfl <;> rfl

theorem lf_info : (Tryz.prog.info? 80).map (fun i => (i.zero, i.size, i.bytes)) = some (some (.agg #[.string ByteArray.empty, .string ByteArray.empty, .int .i64 0, .string ByteArray.empty, .bool false]), 5, 64) := by kernel_rfl
theorem lf_none (w : World) : World.ownsRow (w.alloc (.cells #[] 80)) w.heap.size 80 5 (.slice (some ⟨w.heap.size, 0, none⟩) 0 0) 0 [] :=
  ⟨rfl, .inr ⟨w.heap.size, 0, #[], rfl, Nat.le_refl _, World.alloc_heap_new w _, Nat.le_refl _, by unfold maxLen; omega, rfl, rfl⟩⟩
theorem cloneA_some (x : Addr) (l : List Ac) (cap : Nat) (w : World) (hc : ∀ j u, (lfRow l)[j]? = some u → w.cell? (x.add j) = some u) (hx : l ≠ [] → x.block < w.heap.size) (hl : l.length ≤ 1000) :
    Calls Tryz.prog 55 #[.slice (some x) l.length cap] w fun e w' => ∃ a' cap', e = .returned (.slice a' l.length cap') ∧ IsSl w' a' l cap' ∧ Below w.heap.size w w' := by
  have q35 : ∀ (w : World) (a : Option Addr) (n c n' c' : Nat), (binOp .eql 22 (.slice a n c) (.slice none n' c')).run Tryz.prog w = .ok (.bool a.isNone) w := fun w a n c n' c' => Lib.run_eql_slice_nil w _ _ a n c n' c' Tryz.underlying22
  have B1 : Below w.heap.size w (w.alloc (.cells #[] 80)) := (Below.refl _ w).alloc (Nat.le_refl _) _
  have HS : Hid (∀ j u, (lfRow l)[j]? = some u → (w.alloc (.cells #[] 80)).cell? (x.add j) = some u) := fun j u h => by
    have hne : l ≠ [] := fun e => by rw [e] at h; simp [lfRow] at h
    rw [B1.cell (p := x.add j) (by have := hx hne; unfold Addr.add; split <;> exact this)]
    exact hc j u h
  have Hm1 : Hid (0 + l.length ≤ maxLen) := by unfold Hid maxLen; omega
  have Hm2 : Hid ((0 + l.length) * 64 ≤ 140737488355328) := by unfold Hid; omega
  have Hm3 : Hid (w.heap.size ≤ (w.alloc (.cells #[] 80)).heap.size) := by unfold Hid; simp
  have HRw : Hid (World.ownsRow (w.alloc (.cells #[] 80)) w.heap.size 80 5 (.slice (some ⟨w.heap.size, 0, none⟩) 0 0) 0 []) := lf_none w
  obtain ⟨i0, hi, hz0, hz1, hz2⟩ := info_parts lf_info
  have l0 : (0 : Int) ≤ l.length := by omega
  clear hc hx
  go_enter Tryz.func55, Tryz.ntmps55
  go_wp2_with (at_builtin; refine wpList_append_own _ rfl _ _ 22 rfl w.heap.size 80 i0 (.agg #[.string ByteArray.empty, .string ByteArray.empty, .int .i64 0, .string ByteArray.empty, .bool false]) 5 64 Tryz.underlying22 hi hz0 hz1 hz2 rfl (by decide) _ _ _ rfl HRw.out x l.length cap (lfRow l) rfl (lfRow_length l) HS.out (lfRow_one l) Hm1.out Hm2.out Hm3.out ?_)
  intro v w1 hown hgrow _
  have hb : Below w.heap.size w w1 := B1.grown hgrow B1.size (fun j e => by simp [Value.ownBlock] at e; omega)
  have hown2 : World.ownsRow w1 w.heap.size 80 5 v l.length (lfRow l) := by simpa using hown
  obtain ⟨a1, k1, rfl, hs⟩ := lfRow_isSl hown2
  have HE : Hid (IsSl w1 a1 l k1 ∧ Below w.heap.size w w1) := ⟨hs, hb⟩
  clear hown hown2 hgrow hs hb B1 HS HRw
  go_wp2
  go_ret
  exact ⟨_, _, rfl, HE.out.1, HE.out.2⟩
theorem cloneA_nil (cap : Nat) (w : World) :
    Calls Tryz.prog 55 #[.slice none 0 cap] w fun e w' => ∃ a' cap', e = .returned (.slice a' 0 cap') ∧ IsSl w' a' [] cap' ∧ Below w.heap.size w w' := by
  have q35 : ∀ (w : World) (a : Option Addr) (n c n' c' : Nat), (binOp .eql 22 (.slice a n c) (.slice none n' c')).run Tryz.prog w = .ok (.bool a.isNone) w := fun w a n c n' c' => Lib.run_eql_slice_nil w _ _ a n c n' c' Tryz.underlying22
  go_enter Tryz.func55, Tryz.ntmps55
  go_wp2
  go_ret
  exact ⟨_, _, rfl, ⟨Nat.zero_le _, .inl rfl⟩, Below.refl _ _⟩
theorem cloneA_any (a : Option Addr) (l : List Ac) (cap : Nat) (w : World) (h : IsSl w a l cap) (hl : l.length ≤ 1000) :
    Calls Tryz.prog 55 #[.slice a l.length cap] w fun e w' => ∃ a' cap', e = .returned (.slice a' l.length cap') ∧ IsSl w' a' l cap' ∧ Below w.heap.size w w' := by
  rcases h.lies with rfl | ⟨b, off, rfl, hlt, hc⟩
  · cases a with
    | none => exact cloneA_nil cap w
    | some x => exact cloneA_some x [] cap w (by simp [lfRow]) (by simp) (by simp)
  · exact cloneA_some ⟨b, off, none⟩ l cap w (lf_src hc) (fun _ => hlt) hl

/-- What the closure that tells why a code is no leaf's stands on. -/
structure Lfs (w : World) (B1 B2 : Nat) (c : List Ac) : Prop where
  b1 : B1 < w.heap.size
  b2 : B2 < w.heap.size
  len : c.length ≤ 60
  lo : ∃ a cap, w.cell? ⟨B1, 0, none⟩ = some (.slice a c.length cap) ∧ IsSl w a c cap
  lf : ∃ a cap, w.cell? ⟨B2, 0, none⟩ = some (.slice a (lvs c).length cap) ∧ IsTx w a (lvs c) cap
theorem Lfs.below {w w' : World} {B1 B2 : Nat} {c : List Ac} (h : Lfs w B1 B2 c) (hb : Below w.heap.size w w') : Lfs w' B1 B2 c := by
  obtain ⟨a, cap, h1, h2⟩ := h.lo
  obtain ⟨a', cap', h3, h4⟩ := h.lf
  exact ⟨by have := h.b1; have := hb.size; omega, by have := h.b2; have := hb.size; omega, h.len, ⟨a, cap, (hb.cell (p := ⟨B1, 0, none⟩) h.b1).trans h1, h2.below hb⟩, ⟨a', cap', (hb.cell (p := ⟨B2, 0, none⟩) h.b2).trans h3, h4.below hb⟩⟩
theorem lvs_len (c : List Ac) : (lvs c).length ≤ c.length := by unfold lvs; rw [List.length_map]; exact List.length_filter_le _ _

set_option maxHeartbeats 2000000 in
theorem leaf1_any (c : List Ac) (code : ByteArray) (B1 B2 : Nat) (w : World) (h : Lfs w B1 B2 c) :
    Calls Tryz.prog 56 #[.string code, .pointer (some ⟨B1, 0, none⟩), .pointer (some ⟨B2, 0, none⟩)] w fun e w' => e = .returned (chE (leafBad c code)) ∧ Below w.heap.size w w' := by
  obtain ⟨a, cap, k1, k2⟩ := h.lo
  have hlen := h.len
  have HC : Hid (Calls _ _ _ _ _) := chIndex_any a cap c code w (by omega) k2
  have HT : Hid (∀ w1, Below w.heap.size w w1 → ∃ a' cap', w1.cell? ⟨B2, 0, none⟩ = some (.slice a' (lvs c).length cap') ∧ Calls Tryz.prog 58 #[.slice a' (lvs c).length cap', .string code] w1 fun e w' => e = .returned (.bool (memB code (lvs c))) ∧ w' = w1) := fun w1 hb1 => by
    obtain ⟨a', cap', e1, e2⟩ := (h.below hb1).lf
    exact ⟨a', cap', e1, txContains_any a' cap' (lvs c) code w1 (by have := lvs_len c; omega) e2⟩
  obtain ⟨res, hres⟩ : ∃ res, leafBad c code = res := ⟨_, rfl⟩
  have Hres : Hid (leafBad c code = res) := hres
  rw [hres]
  clear hres h k2 hlen
  by_cases c1 : idxP (hasCode code) c < 0
  · have er : res = 6 := by rw [← Hres.out]; unfold leafBad; rw [if_pos c1]
    subst er
    rw [chE_ne (by decide)]
    clear Hres HT
    generalize idxP (hasCode code) c = ix at *
    go_enter Tryz.func56, Tryz.ntmps56
    go_wp2_with fail
    refine HC.out.mono ?_
    rintro e w1 ⟨rfl, hb1⟩
    clear HC
    go_wp2
    go_ret
    exact ⟨rfl, hb1⟩
  · have HR2 : Hid ((if memB code (lvs c) = true then (0 : Int) else 12) = res) := by
      have := Hres.out; unfold leafBad at this; rw [if_neg c1] at this; exact this
    clear Hres
    generalize idxP (hasCode code) c = ix at *
    cases hm : memB code (lvs c)
    · rw [hm] at HT HR2
      have er : res = 12 := by rw [← HR2.out]; rfl
      subst er
      rw [chE_ne (by decide)]
      go_enter Tryz.func56, Tryz.ntmps56
      go_wp2_with fail
      refine HC.out.mono ?_
      rintro e w1 ⟨rfl, hb1⟩
      obtain ⟨a', cap', d1, d3⟩ := HT.out w1 hb1
      have HD : Hid (Calls _ _ _ _ _) := d3
      clear HC HT d3 k1
      go_wp2_with (go_at_call 58; refine HD.out.mono ?_; rintro e w' ⟨rfl, rfl⟩)
      go_ret
      exact ⟨rfl, hb1⟩
    · rw [hm] at HT HR2
      have er : res = 0 := by rw [← HR2.out]; rfl
      subst er
      rw [chE_zero]
      go_enter Tryz.func56, Tryz.ntmps56
      go_wp2_with fail
      refine HC.out.mono ?_
      rintro e w1 ⟨rfl, hb1⟩
      obtain ⟨a', cap', d1, d3⟩ := HT.out w1 hb1
      have HD : Hid (Calls _ _ _ _ _) := d3
      clear HC HT d3 k1
      go_wp2_with (go_at_call 58; refine HD.out.mono ?_; rintro e w' ⟨rfl, rfl⟩)
      go_ret
      exact ⟨rfl, hb1⟩

theorem leafCheck_bad (a : Option Addr) (cap : Nat) (c : List Ac) (w : World) (h : IsSl w a c cap) (h0 : chBad c ≠ 0) :
    Calls Tryz.prog 41 #[.slice a c.length cap] w fun e w' => e = .returned (.tuple #[.nilFunc, chE (chBad c)]) ∧ Below w.heap.size w w' := by
  have HC := leaves_bad a cap c w h h0
  rw [chE_ne h0] at HC ⊢
  clear h h0
  generalize chBad c = bad at *
  go_enter Tryz.func41, Tryz.ntmps41
  go_wp2_with fail
  refine HC.mono ?_
  rintro e w1 ⟨rfl, hb1⟩
  have B2' := hb1.alloc hb1.size (.cells #[.slice none 0 0] 98)
  clear HC
  go_wp2
  go_ret2
  exact ⟨rfl, B2'⟩

set_option maxHeartbeats 2000000 in
theorem leafCheck_ok (a : Option Addr) (cap : Nat) (c : List Ac) (w : World) (h : IsSl w a c cap) (h0 : chBad c = 0) :
    Calls Tryz.prog 41 #[.slice a c.length cap] w fun e w' => ∃ B1 B2, e = .returned (.tuple #[.func (.func 56) #[] #[.pointer (some ⟨B1, 0, none⟩), .pointer (some ⟨B2, 0, none⟩)], .nilIface]) ∧ Lfs w' B1 B2 c ∧ Below w.heap.size w w' := by
  have HC := leaves_ok a cap c w h h0
  have hlen := chBad_len h0
  have HF : Hid (∀ w1 v, Below w.heap.size w w1 → TxtRow w1 w.heap.size v (lvs c) → Calls Tryz.prog 55 #[.slice a c.length cap] (w1.alloc (.cells #[v] 98)) fun e w' => ∃ a' cap', e = .returned (.slice a' c.length cap') ∧ Lfs (w'.alloc (.cells #[.slice a' c.length cap'] 22)) w'.heap.size w1.heap.size c ∧ Below w.heap.size w (w'.alloc (.cells #[.slice a' c.length cap'] 22))) := fun w1 v hb1 hr => by
    have B2' := hb1.alloc hb1.size (.cells #[v] 98)
    have B3 : Below w1.heap.size w1 (w1.alloc (.cells #[v] 98)) := (Below.refl _ w1).alloc (Nat.le_refl _) _
    obtain ⟨a', cap', rfl, hx⟩ := hr.isTx
    refine (cloneA_any a c cap _ (h.below B2') (by omega)).mono ?_
    rintro e w2 ⟨a2, cap2, rfl, hs2, hb2⟩
    have hsz : w1.heap.size < w2.heap.size := by have := hb2.size; simp at this; omega
    have B4 : Below w2.heap.size w2 (w2.alloc (.cells #[.slice a2 c.length cap2] 22)) := (Below.refl _ w2).alloc (Nat.le_refl _) _
    refine ⟨_, _, rfl, ⟨by simp, by simp; omega, hlen, ⟨a2, cap2, by simp, hs2.below B4⟩, ⟨a', cap', ?_, ((hx.below B3).below hb2).below B4⟩⟩, (B2'.trans (hb2.mono B2'.size)).alloc (by have := hb1.size; omega) _⟩
    rw [B4.cell (p := ⟨w1.heap.size, 0, none⟩) (by show w1.heap.size < w2.heap.size; omega), hb2.cell (p := ⟨w1.heap.size, 0, none⟩) (by simp)]
    simp
  clear h h0
  go_enter Tryz.func41, Tryz.ntmps41
  go_wp2_with fail
  refine HC.mono ?_
  rintro e w1 ⟨v, rfl, hr, hb1⟩
  have HD : Hid (Calls _ _ _ _ _) := HF.out w1 v hb1 hr
  obtain ⟨a', cap', rfl, hx⟩ := hr.isTx
  clear hr hb1 hx HC HF
  go_wp2_with fail
  refine HD.out.mono ?_
  rintro e w2 ⟨a2, cap2, rfl, hL, hB⟩
  have HL : Hid (Lfs _ _ _ _) := hL
  clear hL HD
  go_wp2
  go_ret2
  exact ⟨_, _, rfl, HL.out, hB⟩
end Go.Proofs.YtpohlhejeaafdaaGreatDoor

namespace Go.Proofs.YtpohlhejeaafdaaGreatDoor
set_option linter.unusedVariables false
open Go.RowKit Go.Lib

/-- A sign that is no letter A to Z. -/
def other (r : Nat) : Bool := decide (r < 65) || decide (90 < r)

/-- Is there such a sign, from a place on, among at most so many? -/
def otherFrom (s : ByteArray) : Nat → Nat → Int
  | 0, _ => -1
  | f + 1, pos => if pos < s.size then (if other (Utf8.decode s pos).1 = true then (pos : Int) else otherFrom s f (pos + (Utf8.decode s pos).2)) else -1

theorem otherFrom_end (s : ByteArray) (f pos : Nat) (h : ¬ pos < s.size) : otherFrom s f pos = -1 := by cases f <;> simp [otherFrom, h]

theorem otherFrom_ge (s : ByteArray) : ∀ (f pos : Nat), -1 ≤ otherFrom s f pos
  | 0, _ => by simp [otherFrom]
  | f + 1, pos => by
    unfold otherFrom
    split
    · split
      · omega
      · exact otherFrom_ge s f _
    · omega

/-- Is a text a currency? -/
def isCur (s : ByteArray) : Bool := s.size == 3 && decide (otherFrom s s.size 0 < 0)

theorem closure_any (r : Nat) (w : World) :
    Calls Tryz.prog 82 #[.int .i32 r] w fun e w' => e = .returned (.bool (other r)) ∧ w' = w := by
  by_cases h1 : (r : Int) < 65
  · go_enter Tryz.func82, Tryz.ntmps82
    go_wp2
    go_ret
    refine ⟨?_, rfl⟩
    have : other r = true := by simp [other]; omega
    rw [this]; rfl
  · go_enter Tryz.func82, Tryz.ntmps82
    go_wp2
    go_ret
    refine ⟨?_, rfl⟩
    have : other r = decide ((90 : Int) < r) := by
      have e1 : decide (r < 65) = false := by simp; omega
      have e2 : decide (90 < r) = decide ((90 : Int) < r) := by simp; omega
      unfold other; rw [e1, e2]; rfl
    rw [this]; rfl

set_option maxHeartbeats 1000000 in
theorem indexFunc_any (s : ByteArray) (w : World) :
    Calls Tryz.prog 98 #[.string s, .func (.func 82) #[] #[], .bool true] w fun e w' => e = .returned (.int .i64 (otherFrom s s.size 0)) ∧ Below w.heap.size w w' := by
  go_enter Tryz.func98, Tryz.ntmps98
  go_wp2
  go_loopg [] s.size (fun gf wx => ∃ pos : Nat, wx.heap[w.heap.size]? = some (.stringIter s pos) ∧ Below w.heap.size w wx ∧ otherFrom s gf pos = otherFrom s s.size 0 ∧ s.size ≤ pos + gf)
  case atStart => exact ⟨0, World.iter_heap w s 0, (Below.refl _ w).alloc (Nat.le_refl _) _, rfl, by omega⟩
  case round =>
    obtain ⟨pos, hit, hbw, hleft, hfu⟩ := hrel
    by_cases hps : pos < s.size
    · obtain ⟨g', rfl⟩ : ∃ g', gk = g' + 1 := ⟨gk - 1, by omega⟩
      have hnx : ∀ ty, (Instr.next (.pointer (some ⟨w.heap.size, 0, none⟩)) true ty).run Tryz.prog wr = _ := fun ty => Lib.run_next_any_at wr w.heap.size s pos ty hit hps
      have hwd := Lib.width_pos s pos
      obtain ⟨R, hR⟩ : ∃ R, (Utf8.decode s pos).1 = R := ⟨_, rfl⟩
      obtain ⟨K, hK⟩ : ∃ K, (Utf8.decode s pos).2 = K := ⟨_, rfl⟩
      simp only [otherFrom, hps, if_true, hR, hK] at hleft
      rw [hR, hK] at hnx
      rw [hK] at hwd
      have hit2 := Lib.iterAt_heap wr w.heap.size s pos (pos + K) hit
      have hbw2 := Lib.below_iterAt hbw (k := w.heap.size) (Nat.le_refl _) s (pos + K)
      obtain ⟨W, hWd⟩ : ∃ W, wr.iterAt w.heap.size s (pos + K) = W := ⟨_, rfl⟩
      rw [hWd] at hnx hit2 hbw2
      cases hsp : other R <;> simp only [hsp, if_true, Bool.false_eq_true, if_false] at hleft
      · go_wp2_with (go_at_call 82; refine (closure_any R _).mono ?_; rintro e W' ⟨rfl, rfl⟩; rw [hsp])
        go_roundg g'
        case measure => omega
        case rel => exact ⟨pos + K, hit2, hbw2, hleft, by omega⟩
      · go_wp2_with (go_at_call 82; refine (closure_any R _).mono ?_; rintro e W' ⟨rfl, rfl⟩; rw [hsp])
        go_ret
        exact ⟨by rw [← hleft]; rfl, hbw2⟩
    · have hnx : ∀ ty, (Instr.next (.pointer (some ⟨w.heap.size, 0, none⟩)) true ty).run Tryz.prog wr = _ := fun ty => Lib.run_next_end_at wr w.heap.size s pos ty hit hps
      rw [otherFrom_end s gk pos hps] at hleft
      go_wp2
      go_ret
      exact ⟨by rw [← hleft]; rfl, hbw⟩

theorem containsFunc_any (s : ByteArray) (w : World) :
    Calls Tryz.prog 80 #[.string s, .func (.func 82) #[] #[]] w fun e w' => e = .returned (.bool (decide (0 ≤ otherFrom s s.size 0))) ∧ Below w.heap.size w w' := by
  have hI : Calls Tryz.prog 90 #[.string s, .func (.func 82) #[] #[]] w fun e w' => e = .returned (.int .i64 (otherFrom s s.size 0)) ∧ Below w.heap.size w w' := by
    go_enter Tryz.func90, Tryz.ntmps90
    go_wp2_with fail
    refine (indexFunc_any s _).mono ?_
    rintro e w' ⟨rfl, hb⟩
    go_wp2
    go_ret
    exact ⟨rfl, hb⟩
  go_enter Tryz.func80, Tryz.ntmps80
  go_wp2_with fail
  refine hI.mono ?_
  rintro e w' ⟨rfl, hb⟩
  go_wp2
  go_ret
  exact ⟨rfl, hb⟩

theorem cur_any (s : ByteArray) (w : World) :
    Calls Tryz.prog 62 #[.string s] w fun e w' => e = .returned (.bool (isCur s)) ∧ Below w.heap.size w w' := by
  by_cases h : s.size = 3
  · have h' : ((s.size : Int) == 3) = true := by simp; omega
    go_enter Tryz.func62, Tryz.ntmps62
    go_wp2_with fail
    refine (containsFunc_any s _).mono ?_
    rintro e w' ⟨rfl, hb⟩
    have e1 : isCur s = !decide (0 ≤ otherFrom s s.size 0) := by
      have e2 : (s.size == 3) = true := by simp [h]
      have e3 : decide (otherFrom s s.size 0 < 0) = !decide (0 ≤ otherFrom s s.size 0) := by
        by_cases h0 : 0 ≤ otherFrom s s.size 0
        · rw [decide_eq_true h0, decide_eq_false (by omega)]; rfl
        · rw [decide_eq_false h0, decide_eq_true (by omega)]; rfl
      unfold isCur; rw [e2, e3]; rfl
    rw [h] at e1
    go_wp2
    go_ret
    exact ⟨by rw [e1]; rfl, hb⟩
  · have h' : ((s.size : Int) == 3) = false := by simp; omega
    have e1 : isCur s = false := by
      have e2 : (s.size == 3) = false := by simp [h]
      unfold isCur; rw [e2]; rfl
    go_enter Tryz.func62, Tryz.ntmps62
    go_wp2
    go_ret
    exact ⟨by rw [e1]; rfl, Below.refl _ _⟩

end Go.Proofs.YtpohlhejeaafdaaGreatDoor

namespace Go.Proofs.YtpohlhejeaafdaaGreatDoor
set_option linter.unusedVariables false
set_option linter.unusedSimpArgs false
set_option maxRecDepth 100000
open Go.RowKit Go.Lib

theorem enE_chE (n : Int) : enE n = chE n := rfl

/-- What is wrong with an entry, whatever its lines have. -/
def headBad (r : ByteArray) (en pe : Int) (n : Nat) : Int :=
  if isRefB r = false then 2 else if upTo en 12 = false ∨ upTo pe 120 = false then 1 else if n < 2 then 3 else if 20 < n then 4 else 0

set_option maxHeartbeats 2000000 in
theorem checkHead_any (r : ByteArray) (en pe : Int) (a : Option Addr) (cap n : Nat) (w : World) :
    Calls Tryz.prog 42 #[.agg #[.string r, .int .i64 en, .int .i64 pe, .slice a n cap]] w fun e w' => e = .returned (enE (headBad r en pe n)) ∧ Below w.heap.size w w' := by
  have b0 : Below w.heap.size w (w.alloc (.cells #[.string r, .int .i64 en, .int .i64 pe, .slice a n cap] 29)) := (Below.refl _ w).alloc (Nat.le_refl _) _
  have x0 := Box4.new w r en pe (.slice a n cap)
  have hs0 : (w.alloc (.cells #[.string r, .int .i64 en, .int .i64 pe, .slice a n cap] 29)).heap.size = w.heap.size + 1 := by simp
  have HI : Hid (∀ W, Below w.heap.size w W → Calls Tryz.prog 59 #[.string r] W fun e w' => e = .returned (.bool (isRefB r)) ∧ Below W.heap.size W w') := fun W _ => isRef_any r W
  obtain ⟨res, hres⟩ : ∃ res, headBad r en pe n = res := ⟨_, rfl⟩
  rw [hres]
  have Hres : Hid (headBad r en pe n = res) := hres
  clear hres
  cases hr : isRefB r
  · rw [hr] at HI
    have er : res = 2 := by rw [← Hres.out]; simp [headBad, hr]
    subst er
    go_enter Tryz.func42, Tryz.ntmps42
    go_wp2_with fail
    refine (HI.out _ b0).mono ?_
    rintro e w1 ⟨rfl, hb1⟩
    have B1 := b0.trans (hb1.mono (by simp))
    clear HI hb1
    go_wp2
    go_ret
    exact ⟨rfl, B1⟩
  rw [hr] at HI
  go_enter Tryz.func42, Tryz.ntmps42
  go_wp2_with fail
  refine (HI.out _ b0).mono ?_
  rintro e w1 ⟨rfl, hb1⟩
  rw [hs0] at hb1
  have B1 := b0.trans (hb1.mono (by omega))
  have y1 := x0.below hb1 (by omega)
  have c1 := y1.c1
  have c2 := y1.c2
  have c3 := y1.c3
  clear HI hb1 b0 x0 hs0 y1
  have HU1 := isEntity_any en w1
  have HU2 := isPeriod_any pe w1
  cases h1 : upTo en 12
  · have er : res = 1 := by rw [← Hres.out]; simp [headBad, hr, h1]
    subst er
    rw [h1] at HU1
    go_wp2_with (go_at_call 60; refine HU1.mono ?_; rintro e w' ⟨rfl, rfl⟩)
    go_ret
    exact ⟨rfl, B1⟩
  rw [h1] at HU1
  cases h2 : upTo pe 120
  · have er : res = 1 := by rw [← Hres.out]; simp [headBad, hr, h1, h2]
    subst er
    rw [h2] at HU2
    go_wp2_with fail
    refine HU1.mono ?_
    rintro e w' ⟨rfl, rfl⟩
    go_wp2_with fail
    refine HU2.mono ?_
    rintro e w' ⟨rfl, rfl⟩
    go_wp2
    go_ret
    exact ⟨rfl, B1⟩
  rw [h2] at HU2
  by_cases h3 : n < 2
  · have er : res = 3 := by rw [← Hres.out]; simp [headBad, hr, h1, h2, h3]
    subst er
    have h3' : (n : Int) < 2 := by omega
    go_wp2_with fail
    refine HU1.mono ?_
    rintro e w' ⟨rfl, rfl⟩
    go_wp2_with fail
    refine HU2.mono ?_
    rintro e w' ⟨rfl, rfl⟩
    go_wp2
    go_ret
    exact ⟨rfl, B1⟩
  have h3' : ¬ (n : Int) < 2 := by omega
  by_cases h4 : 20 < n
  · have er : res = 4 := by rw [← Hres.out]; simp [headBad, hr, h1, h2, h3, h4]
    subst er
    have h4' : (20 : Int) < n := by omega
    go_wp2_with fail
    refine HU1.mono ?_
    rintro e w' ⟨rfl, rfl⟩
    go_wp2_with fail
    refine HU2.mono ?_
    rintro e w' ⟨rfl, rfl⟩
    go_wp2
    go_ret
    exact ⟨rfl, B1⟩
  · have er : res = 0 := by rw [← Hres.out]; simp [headBad, hr, h1, h2, h3, h4]
    subst er
    have h4' : ¬ (20 : Int) < n := by omega
    go_wp2_with fail
    refine HU1.mono ?_
    rintro e w' ⟨rfl, rfl⟩
    go_wp2_with fail
    refine HU2.mono ?_
    rintro e w' ⟨rfl, rfl⟩
    go_wp2
    go_ret
    exact ⟨rfl, B1⟩

/-- What is wrong with a line by itself. -/
def lnBad (c : List Ac) (x : Ln) : Int :=
  if idxP (hasCode x.acc) c < 0 then 6 else if memB x.acc (lvs c) = false then 12 else if isCur x.cur = false then 2 else if x.amt = 0 ∨ isAmtB x.amt = false then 1 else 0
theorem lnBad_leaf (c : List Ac) (x : Ln) : lnBad c x = if leafBad c x.acc ≠ 0 then leafBad c x.acc else if isCur x.cur = false then 2 else if x.amt = 0 ∨ isAmtB x.amt = false then 1 else 0 := by
  unfold lnBad leafBad
  by_cases h1 : idxP (hasCode x.acc) c < 0
  · simp only [if_pos h1]; rfl
  · simp only [if_neg h1]
    cases h2 : memB x.acc (lvs c)
    · rfl
    · rfl

set_option maxHeartbeats 2000000 in
theorem checkLine_any (c : List Ac) (B1 B2 : Nat) (x : Ln) (w : World) (hL : Lfs w B1 B2 c) :
    Calls Tryz.prog 43 #[.agg x.cells, .func (.func 56) #[] #[.pointer (some ⟨B1, 0, none⟩), .pointer (some ⟨B2, 0, none⟩)]] w fun e w' => e = .returned (enE (lnBad c x)) ∧ Below w.heap.size w w' := by
  have eg : ∀ args W, (callFunc 56 args).run Tryz.prog W = .ok (.enter 56 args) W := fun args W => en_enters Tryz.func56 (by kernel_rfl) ⟨_, rfl⟩ args W
  have b0 : Below w.heap.size w (w.alloc (.cells x.cells 44)) := (Below.refl _ w).alloc (Nat.le_refl _) _
  have x0 := LnAt.new w x 44
  have hs0 : (w.alloc (.cells x.cells 44)).heap.size = w.heap.size + 1 := by simp
  have HF : Hid (Calls _ _ _ _ _) := leaf1_any c x.acc B1 B2 _ (hL.below b0)
  have HU : Hid (∀ W, Calls Tryz.prog 62 #[.string x.cur] W fun e w' => e = .returned (.bool (isCur x.cur)) ∧ Below W.heap.size W w') := fun W => cur_any x.cur W
  have HA : Hid (∀ W, Calls Tryz.prog 63 #[.int .i64 x.amt] W fun e w' => e = .returned (.bool (isAmtB x.amt)) ∧ w' = W) := fun W => isAmount_any x.amt W
  obtain ⟨res, hres⟩ : ∃ res, lnBad c x = res := ⟨_, rfl⟩
  rw [hres]
  have Hres : Hid ((if leafBad c x.acc ≠ 0 then leafBad c x.acc else if isCur x.cur = false then 2 else if x.amt = 0 ∨ isAmtB x.amt = false then 1 else 0) = res) := by
    rw [← lnBad_leaf]; exact hres
  clear hres hL
  obtain ⟨x0', x1, x2⟩ := x
  simp only [Ln.cells] at b0 x0 hs0 HF Hres HU HA ⊢
  generalize leafBad c x0' = lb at *
  obtain ⟨c0, c1, c2⟩ := x0
  simp only [Nat.zero_add] at c0 c1 c2
  by_cases h1 : lb = 0
  · subst h1
    rw [chE_zero] at HF
    go_enter Tryz.func43, Tryz.ntmps43
    go_wp2_with fail
    go_at_fn 56
    refine HF.out.mono ?_
    rintro e w1 ⟨rfl, hb1⟩
    rw [hs0] at hb1
    have B1 := b0.trans (hb1.mono (by omega))
    have hs1 := hb1.size
    rw [hs0] at hs1
    have y1 := (LnAt.new w ⟨x0', x1, x2⟩ 44).below hb1 (by omega)
    clear c0 c1 c2
    obtain ⟨c0, c1, c2⟩ := y1
    simp only [Nat.zero_add] at c0 c1 c2
    clear HF hb1 b0
    go_wp2_with fail
    refine (HU.out w1).mono ?_
    rintro e w2 ⟨rfl, hb2⟩
    have B2 := B1.trans (hb2.mono (by omega))
    have y2 := (LnAt.mk (off := 0) (x := ⟨x0', x1, x2⟩) c0 c1 c2).below hb2 (by omega)
    obtain ⟨d0, d1, d2⟩ := y2
    simp only [Nat.zero_add] at d0 d1 d2
    have HA1 := HA.out w2
    clear HU c0 c1 c2 hb2 HA
    cases h3 : isCur x1
    · have er : res = 2 := by rw [← Hres.out, if_neg (by simp), if_pos h3]
      subst er
      go_wp2
      go_ret
      exact ⟨rfl, B2⟩
    by_cases h4 : x2 = 0
    · have er : res = 1 := by rw [← Hres.out, if_neg (by simp), if_neg (by rw [h3]; simp), if_pos (.inl h4)]
      subst er
      subst h4
      go_wp2
      go_ret
      exact ⟨rfl, B2⟩
    have h4' : (x2 == 0) = false := by simpa using h4
    cases h5 : isAmtB x2
    · have er : res = 1 := by rw [← Hres.out, if_neg (by simp), if_neg (by rw [h3]; simp), if_pos (.inr h5)]
      subst er
      rw [h5] at HA1
      go_wp2_with (go_at_call 63; refine HA1.mono ?_; rintro e w' ⟨rfl, rfl⟩)
      go_ret
      exact ⟨rfl, B2⟩
    · have er : res = 0 := by rw [← Hres.out, if_neg (by simp), if_neg (by rw [h3]; simp), if_neg (by simp [h4, h5])]
      subst er
      rw [h5] at HA1
      go_wp2_with (go_at_call 63; refine HA1.mono ?_; rintro e w' ⟨rfl, rfl⟩)
      go_ret
      exact ⟨rfl, B2⟩
  · have er : res = lb := by rw [← Hres.out, if_pos h1]
    subst er
    rw [chE_ne h1] at HF
    rw [enE_ne h1]
    clear HU HA Hres
    go_enter Tryz.func43, Tryz.ntmps43
    go_wp2_with fail
    go_at_fn 56
    refine HF.out.mono ?_
    rintro e w1 ⟨rfl, hb1⟩
    have B1 := b0.trans (hb1.mono (by simp))
    clear HF hb1 b0 c0 c1 c2
    go_wp2
    go_ret
    exact ⟨rfl, B1⟩
end Go.Proofs.YtpohlhejeaafdaaGreatDoor
