/-
  Whole numbers of any size in memory, and the contracts of quarterdaybig's words, give, SetInt64 and NewInt, and of dayref1's Big.
-/
import Derived.Test.YtfkafjffjeipaaaGreatDoorZm13
import Derived.Test.YtfkafjffjeipaaaGreatDoorZm11
import Derived.Test.YtfkafjffjeipaaaGreatDoorProg
import Derived.WalkKit
import Derived.WalkSpells
import Derived.Below
import Derived.WalkSmall
import Derived.Laws.Rows
namespace Go.Proofs.YtfkafjffjeipaaaGreatDoor
set_option linter.unusedVariables false
set_option linter.unusedSimpArgs false
set_option maxRecDepth 100000
open Go.RowKit Go.Lib

theorem refChart_full (a : Option Addr) (len cap : Nat) (w : World) (h : 60 < len) :
    Calls Tryz.prog 10 #[.slice a len cap] w fun e w' => e = .returned (.int .i64 4) ∧ Below w.heap.size w w' := by
  have h' : (60 : Int) < len := by omega
  go_enter Tryz.func10, Tryz.ntmps10
  go_wp2
  go_ret
  exact ⟨rfl, Below.refl _ _⟩

theorem refChart_none (a : Option Addr) (cap : Nat) (w : World) :
    Calls Tryz.prog 10 #[.slice a 0 cap] w fun e w' => e = .returned (.int .i64 0) ∧ Below w.heap.size w w' := by
  go_enter Tryz.func10, Tryz.ntmps10
  go_wp2
  refine wp_loop_rounds 1 ?_
  rw [rounds_succ]
  go_wp2
  go_ret
  exact ⟨rfl, Below.refl _ _⟩

set_option maxHeartbeats 2000000 in
theorem refChart_some (b off cap : Nat) (l : List Ac) (w : World) (hb : b < w.heap.size) (hlen : l.length ≤ 60) (hcap : l.length ≤ cap) (hc : AcsAt w b off l) (hok : ∀ k, k < l.length → (l.getD k ac0).code.size ≤ maxLen ∧ (l.getD k ac0).name.size ≤ maxLen) :
    Calls Tryz.prog 10 #[.slice (some ⟨b, off, none⟩) l.length cap] w fun e w' => e = .returned (.int .i64 (chGo [] l)) ∧ Below w.heap.size w w' := by
  have Hlen : (l.length : Int) ≤ 60 := by omega
  have HA : Hid (∀ W, Below w.heap.size w W → ∀ i, i < l.length → Calls Tryz.prog 25 #[.slice (some ⟨b, off, none⟩) l.length cap, .int .i64 (i : Nat)] W fun e w' => e = .returned (.int .i64 (nextBad (l.take i) (l.getD i ac0))) ∧ Below w.heap.size w w') := fun W hW i hi => by
    refine (refAccount_any b off cap i l W hi (by omega) hcap (by have := hW.size; omega) (fun k hk => (hc k hk).below hW hb) (hok i hi)).mono ?_
    rintro e w' ⟨rfl, hb'⟩
    exact ⟨rfl, hW.trans (hb'.mono hW.size)⟩
  obtain ⟨res, hres⟩ : ∃ res, chGo [] l = res := ⟨_, rfl⟩
  have Hres : Hid (chGo [] l = res) := hres
  rw [hres]
  clear hres hc hok
  go_enter Tryz.func10, Tryz.ntmps10
  go_wp2
  go_loopw [3] (fun i wr => ∃ k : Nat, k ≤ l.length ∧ i = .int .i64 k ∧ Hid (chGo (l.take k) (l.drop k) = res) ∧ Below w.heap.size w wr) (fun i _ => l.length - (intOf i).toNat)
  case atStart => exact ⟨0, Nat.zero_le _, rfl, by unfold Hid; simpa using Hres.out, Below.refl _ _⟩
  case round =>
    obtain ⟨k, hk, rfl, H, BW⟩ := hrel
    by_cases hlt : k < l.length
    · have E : Hid ((if nextBad (l.take k) (l.getD k ac0) ≠ 0 then nextBad (l.take k) (l.getD k ac0) else chGo (l.take (k + 1)) (l.drop (k + 1))) = res) := by
        have := H.out
        rw [acs_drop l k hlt] at this
        have e2 : l.take k ++ [l.getD k ac0] = l.take (k + 1) := by
          rw [List.take_succ_eq_append_getElem hlt, List.getD_eq_getElem?_getD, List.getElem?_eq_getElem hlt]; rfl
        unfold Hid
        rw [← e2]
        exact this
      have hcall := HA.out wr BW k hlt
      generalize nextBad (l.take k) (l.getD k ac0) = bad at *
      have Hcall : Hid (Calls _ _ _ _ _) := hcall
      clear hcall H
      by_cases hb0 : bad = 0
      · subst hb0
        have HN : Hid (chGo (l.take (k + 1)) (l.drop (k + 1)) = res) := by
          have := E.out; rw [if_neg (by simp)] at this; exact this
        go_wp2_with fail
        refine Hcall.out.mono ?_
        rintro e w' ⟨rfl, hb'⟩
        go_wp2
        go_roundw
        case rel => exact ⟨k + 1, by omega, by go_num, HN, hb'⟩
        case measure => simp [intOf]; omega
      · have er : res = bad := by rw [← E.out, if_pos hb0]
        subst er
        have hb0' : (res != 0) = true := by simp [hb0]
        go_wp2_with fail
        refine Hcall.out.mono ?_
        rintro e w' ⟨rfl, hb'⟩
        go_wp2
        go_ret
        exact ⟨rfl, hb'⟩
    · have hk2 : k = l.length := by omega
      subst hk2
      have er : res = 0 := by rw [← H.out, List.drop_length]; rfl
      subst er
      go_wp2
      go_ret
      exact ⟨rfl, BW⟩

theorem refChart_any (a : Option Addr) (cap : Nat) (l : List Ac) (w : World) (h : IsSl w a l cap) (hok : ∀ k, k < l.length → (l.getD k ac0).code.size ≤ maxLen ∧ (l.getD k ac0).name.size ≤ maxLen) :
    Calls Tryz.prog 10 #[.slice a l.length cap] w fun e w' => e = .returned (.int .i64 (chBad l)) ∧ Below w.heap.size w w' := by
  unfold chBad
  by_cases h60 : 60 < l.length
  · rw [if_pos h60]
    exact refChart_full a l.length cap w h60
  · rw [if_neg h60]
    rcases h.lies with rfl | ⟨b, off, rfl, hlt, hc⟩
    · exact refChart_none a cap w
    · exact refChart_some b off cap l w hlt (by omega) h.cap hc hok

set_option maxHeartbeats 2000000 in
theorem refIn_any (a : Option Addr) (cap : Nat) (l : List Ac) (k i : Nat) (w : World) (h : IsSl w a l cap) (h0 : chBad l = 0) (hk : k < l.length) :
    Calls Tryz.prog 27 #[.slice a l.length cap, .int .i64 (k : Nat), .int .i64 (i : Nat)] w fun e w' => e = .returned (.bool (isU l i k)) ∧ w' = w := by
  have hlen := chBad_len h0
  have Hlen : (l.length : Int) ≤ 60 := by omega
  have HA : Hid (∀ c, Calls Tryz.prog 26 #[.slice a l.length cap, .string c] w fun e w' => e = .returned (.int .i64 (idxP (hasCode c) l)) ∧ w' = w) := fun c => refAt_any a cap l c w (by omega) h
  rcases h.lies with h1 | ⟨b, off, rfl, hlt, hc⟩
  · rw [h1] at hk; simp at hk
  have Hc : Hid (AcsAt w b off l) := hc
  have H0 : Hid (chBad l = 0) := h0
  obtain ⟨res, hres⟩ : ∃ res, isU l i k = res := ⟨_, rfl⟩
  have Hres : Hid (isU l i k = res) := hres
  rw [hres]
  clear hres hc h0 h
  go_enter Tryz.func27, Tryz.ntmps27
  go_wp2
  go_loop [1] (fun s1 => ∃ t : Nat, t < l.length ∧ s1 = .int .i64 t ∧ Hid (isU l i t = res)) (fun s1 => (intOf s1).toNat)
  case atStart => exact ⟨k, hk, rfl, Hres.out⟩
  case round =>
    obtain ⟨t, ht, rfl, H⟩ := hrel
    have t0 : (0 : Int) ≤ t := by omega
    have t1 : (t : Int) < l.length := by omega
    have hst := isU_step H0.out (i := i) ht
    by_cases hti : t = i
    · subst hti
      have er : res = true := by rw [← H.out, hst]; simp
      subst er
      clear hst
      go_wp2
      go_ret
      exact ⟨rfl, rfl⟩
    · have hti' : ((t : Int) == i) = false := by simp; omega
      have hst2 : Hid ((match parOf l t with | none => false | some j => isU l i j) = res) := by
        have hb : (t == i) = false := by rw [beq_eq_false_iff_ne]; exact hti
        rw [hb, Bool.false_or] at hst
        exact hst.symm.trans H.out
      have hx := Hc.out t ht
      clear hst
      cases hp : parOf l t with
      | none =>
        have e0 := ch_empty (parOf_none.1 hp)
        have er : res = false := by rw [← hst2.out, hp]
        subst er
        obtain ⟨c0, c1, c2, c3, c4⟩ := hx
        generalize l.getD t ac0 = x at *
        obtain ⟨x0, x1, x2, x3, x4⟩ := x
        try simp only at c0 c1 c2 c3 c4 e0
        go_wp2
        go_ret
        exact ⟨rfl, rfl⟩
      | some j =>
        obtain ⟨q1, q2, _⟩ := parOf_some H0.out ht hp
        have hne : (l.getD t ac0).par.size ≠ 0 := by rw [← q2]; exact code_size H0.out (by omega)
        have e0 := ch_some hne
        have e0' : (l.getD t ac0).par.toList.isEmpty = false := by simpa using e0
        have HN : Hid (isU l i j = res) := by
          have := hst2.out
          rw [hp] at this
          exact this
        have hA := HA.out (l.getD t ac0).par
        have ej : idxP (hasCode (l.getD t ac0).par) l = (j : Int) := by rw [← q2]; exact idx_code H0.out (by omega)
        rw [ej] at hA
        have HHA : Hid (Calls _ _ _ _ _) := hA
        clear hA ej q2 hne hst2 hp
        obtain ⟨c0, c1, c2, c3, c4⟩ := hx
        generalize l.getD t ac0 = x at *
        obtain ⟨x0, x1, x2, x3, x4⟩ := x
        simp only at c0 c1 c2 c3 c4 e0 e0' HHA
        go_wp2_with (go_at_call 26; refine HHA.out.mono ?_; rintro e w' ⟨rfl, rfl⟩)
        go_round
        case rel => exact ⟨j, by omega, rfl, HN⟩
        case measure => simp [intOf]; omega

/-- Numbers behind a slice. -/
def HasInts (w : World) (v : Value) (xs : List Int) : Prop := ∃ a cap, v = .slice a xs.length cap ∧ (xs = [] ∨ ∃ g off, a = some ⟨g, off, none⟩ ∧ ∀ k, k < xs.length → w.cell? ⟨g, off + k, none⟩ = some (.int .i64 (xs.getD k 0)))

theorem hasInts_nil (w : World) : HasInts w (.slice none 0 0) [] := ⟨none, 0, rfl, .inl rfl⟩

--@if{quarterday/daysame.Ints}
set_option maxHeartbeats 1000000 in
theorem sameInts_any (v1 v2 : Value) (xs : List Int) (w : World) (hlen : xs.length ≤ 1000) (h1 : HasInts w v1 xs) (h2 : HasInts w v2 xs) :
    Calls Tryz.prog 14 #[v1, v2] w fun e w' => e = .returned (.bool true) ∧ Below w.heap.size w w' := by
  obtain ⟨a1, c1, rfl, h1⟩ := h1
  obtain ⟨a2, c2, rfl, h2⟩ := h2
  have Hlen : (xs.length : Int) ≤ 1000 := by omega
  have H1 : Hid (xs = [] ∨ _) := h1
  have H2 : Hid (xs = [] ∨ _) := h2
  clear h1 h2
  go_enter Tryz.func14, Tryz.ntmps14
  go_wp2
  go_loopw [5] (fun i wr => ∃ k : Nat, k ≤ xs.length ∧ i = .int .i64 k ∧ ∃ n, wr = w.drewN n) (fun i _ => xs.length - (intOf i).toNat)
  case atStart => exact ⟨0, Nat.zero_le _, rfl, 0, rfl⟩
  case round =>
    obtain ⟨k, hk, rfl, nd, rfl⟩ := hrel
    by_cases hlt : k < xs.length
    · rcases H1.out with h | ⟨g1, o1, rfl, q1⟩
      · rw [h] at hlt; simp at hlt
      rcases H2.out with h | ⟨g2, o2, rfl, q2⟩
      · rw [h] at hlt; simp at hlt
      have d1 := q1 k hlt
      have d2 := q2 k hlt
      clear q1 q2 H1 H2
      generalize xs.getD k 0 = x at *
      have i0 : (0 : Int) ≤ k := by omega
      have i1 : (k : Int) < xs.length := by omega
      go_wp2_with fail
      go_quiet (fail)
      go_wp2
      go_roundw
      case rel => exact ⟨k + 1, by omega, by go_num, _, rfl⟩
      case measure => simp [intOf]; omega
    · have hk2 : k = xs.length := by omega
      subst hk2
      go_wp2
      go_ret
      exact ⟨rfl, ch_drewN (Below.refl _ _) _⟩
--@fi
end Go.Proofs.YtfkafjffjeipaaaGreatDoor

namespace Go.Proofs.YtfkafjffjeipaaaGreatDoor
set_option linter.unusedVariables false
set_option linter.unusedSimpArgs false
open Go.RowKit Go.Lib Math

theorem sum_pick {α : Type} (p : α → Bool) (f : α → Int) : ∀ L : List α, ((L.filter p).map f).sum = (L.map fun x => if p x = true then f x else 0).sum
  | [] => rfl
  | x :: L => by
    have ih := sum_pick p f L
    by_cases h : p x = true
    · rw [List.filter_cons_of_pos h, List.map_cons, List.map_cons, List.sum_cons, List.sum_cons, ih, if_pos h]
    · rw [List.filter_cons_of_neg h, List.map_cons, List.sum_cons, ih, if_neg h]; omega

theorem sum_plus {α : Type} (f g : α → Int) : ∀ L : List α, (L.map fun x => f x + g x).sum = (L.map f).sum + (L.map g).sum
  | [] => rfl
  | x :: L => by
    have ih := sum_plus f g L
    simp only [List.map_cons, List.sum_cons]
    rw [ih]; omega

theorem sum_zero' {α : Type} (f : α → Int) : ∀ L : List α, (∀ x ∈ L, f x = 0) → (L.map f).sum = 0
  | [], _ => rfl
  | x :: L, h => by
    rw [List.map_cons, List.sum_cons, h x List.mem_cons_self, sum_zero' f L (fun y hy => h y (List.mem_cons_of_mem _ hy))]; rfl

theorem sum_swap {α β : Type} (g : α → β → Int) (M : List β) : ∀ L : List α, (L.map fun i => (M.map (g i)).sum).sum = (M.map fun k => (L.map fun i => g i k).sum).sum
  | [] => by
    symm
    exact sum_zero' _ M (fun _ _ => rfl)
  | x :: L => by
    rw [List.map_cons, List.sum_cons, sum_swap g M L, ← sum_plus]
    rfl

theorem sum_one (p : Nat → Bool) (c : Int) (r : Nat) : ∀ n, r < n → p r = true → (∀ i, i < n → p i = true → i = r) → ((List.range n).map fun i => if p i = true then c else 0).sum = c
  | 0, h, _, _ => absurd h (Nat.not_lt_zero _)
  | n + 1, h, hr, hu => by
    rw [List.range_succ, List.map_append, List.sum_append]
    by_cases e : r = n
    · subst e
      rw [sum_zero' _ _ (fun i hi => by
        have := List.mem_range.1 hi
        rw [if_neg (fun hp => by have := hu i (by omega) hp; omega)])]
      simp [hr]
    · rw [sum_one p c r n (by omega) hr (fun i hi => hu i (by omega))]
      have : p n ≠ true := fun hp => e (hu n (by omega) hp).symm
      simp [this]

/-- Has it no parent? -/
def isTop (l : List Ac) (i : Nat) : Bool := decide ((l.getD i ac0).par.size = 0)
theorem isTop_iff {l : List Ac} {i : Nat} : isTop l i = true ↔ parOf l i = none := by rw [parOf_none]; simp [isTop]

def topsL (l : List Ac) (am : List Int) (k : Nat) : List Int := ((List.range k).filter (isTop l)).map (rollI l am)

theorem topsL_succ (l : List Ac) (am : List Int) (k : Nat) : topsL l am (k + 1) = topsL l am k ++ if isTop l k = true then [rollI l am k] else [] := by
  unfold topsL
  rw [List.range_succ, List.filter_append, List.map_append]
  congr 1
  by_cases h : isTop l k = true
  · rw [if_pos h, List.filter_cons_of_pos h]; rfl
  · rw [if_neg h, List.filter_cons_of_neg h]; rfl

theorem range_getD (am : List Int) : (List.range am.length).map (fun j => am.getD j 0) = am := by
  apply List.ext_getElem
  · simp
  · intro i h1 h2
    simp [h2]

theorem rollI_eq {l : List Ac} (h : chBad l = 0) (am : List Int) {i : Nat} (hi : i < l.length) : rollI l am i = ((List.range l.length).map fun k => if isU l i k = true then am.getD k 0 else 0).sum := by
  unfold rollI
  rw [und_eq h hi]
  exact sum_pick _ _ _

theorem tops_sum {l : List Ac} (h : chBad l = 0) {am : List Int} (hal : am.length = l.length) : (topsL l am l.length).sum = am.sum := by
  unfold topsL
  rw [sum_pick]
  have e1 : ((List.range l.length).map fun i => if isTop l i = true then rollI l am i else 0) = (List.range l.length).map fun i => ((List.range l.length).map fun k => if (isTop l i && isU l i k) = true then am.getD k 0 else 0).sum := by
    apply List.map_congr_left
    intro i hi
    have hi := List.mem_range.1 hi
    by_cases ht : isTop l i = true
    · rw [if_pos ht, rollI_eq h am hi]
      simp [ht]
    · rw [if_neg ht]
      symm
      apply sum_zero'
      intro k _
      simp [ht]
  rw [e1, sum_swap]
  have e2 : ((List.range l.length).map fun k => ((List.range l.length).map fun i => if (isTop l i && isU l i k) = true then am.getD k 0 else 0).sum) = (List.range l.length).map fun k => am.getD k 0 := by
    apply List.map_congr_left
    intro k hk
    have hk := List.mem_range.1 hk
    obtain ⟨r, hr, ht, hu⟩ := root_ex h (k + 1) k (by omega) hk
    refine sum_one (fun i => isTop l i && isU l i k) _ r l.length (by omega) (by rw [Bool.and_eq_true]; exact ⟨isTop_iff.2 ht, hu⟩) (fun i hi hp => ?_)
    rw [Bool.and_eq_true] at hp
    exact root_one h (isTop_iff.1 hp.1) ht (k + 1) k (by omega) hk hp.2 hu
  rw [e2, ← hal, range_getD]

theorem topsL_len (l : List Ac) (am : List Int) (k : Nat) : (topsL l am k).length ≤ k := by
  unfold topsL
  rw [List.length_map]
  have := List.length_filter_le (isTop l) (List.range k)
  simpa using this

theorem fit_of {l : List Ac} {am : List Int} {n i : Nat} (h : rollOk l am n = true) (hi : i < n) : I64 (rollI l am i) := by
  unfold rollOk at h
  have := List.all_eq_true.1 h i (List.mem_range.2 hi)
  simpa [fitB, I64] using this

theorem topsL_fit {l : List Ac} {am : List Int} (h : rollOk l am l.length = true) : ∀ i, i < (topsL l am l.length).length → I64 ((topsL l am l.length).getD i 0) := by
  intro i hi
  have hm : (topsL l am l.length).getD i 0 ∈ topsL l am l.length := by
    rw [List.getD_eq_getElem?_getD, List.getElem?_eq_getElem hi]
    exact List.getElem_mem hi
  unfold topsL at hm
  rw [List.mem_map] at hm
  obtain ⟨j, hj, e⟩ := hm
  unfold topsL
  rw [← e]
  exact fit_of h (List.mem_range.1 (List.mem_filter.1 hj).1)

theorem rollI_leaf {l : List Ac} (h : chBad l = 0) (am : List Int) {i : Nat} (hi : i < l.length) (h1 : (undL l i).length = 1) : rollI l am i = am.getD i 0 := by
  obtain ⟨r, hr⟩ := undL_head h hi
  rw [hr] at h1
  have : r = [] := List.eq_nil_of_length_eq_zero (by simpa using h1)
  unfold rollI
  rw [und_eq h hi, hr, this]
  simp

theorem rollBad_zero {l : List Ac} {am : List Int} (h : rollBad l am = 0) : chBad l = 0 ∧ am.length = l.length ∧ rollOk l am l.length = true := by
  unfold rollBad at h
  split at h
  · omega
  · split at h
    · omega
    · split at h
      · exact ⟨by omega, by omega, by assumption⟩
      · omega
end Go.Proofs.YtfkafjffjeipaaaGreatDoor

namespace Go.Proofs.YtfkafjffjeipaaaGreatDoor.Big
set_option linter.unusedVariables false

/-- The number of some words. -/
def val : List Nat → Nat
  | [] => 0
  | x :: t => x + 4294967296 * val t

/-- How many words are left without the noughts at the end. -/
def tl (l : List Nat) : Nat → Nat
  | 0 => 0
  | n + 1 => if l.getD n 0 = 0 then tl l n else n + 1

/-- Each is a word. -/
def Ok (l : List Nat) : Prop := ∀ i, i < l.length → l.getD i 0 < 4294967296
/-- No nought at the end. -/
def Nrm (l : List Nat) : Prop := l.length = 0 ∨ l.getD (l.length - 1) 0 ≠ 0

theorem tl_zero (l : List Nat) (n : Nat) (h : l.getD n 0 = 0) : tl l (n + 1) = tl l n := by rw [tl, if_pos h]
theorem tl_pos (l : List Nat) (n : Nat) (h : l.getD n 0 ≠ 0) : tl l (n + 1) = n + 1 := by rw [tl, if_neg h]

theorem val_append (a b : List Nat) : val (a ++ b) = val a + 4294967296 ^ a.length * val b := by
  induction a with
  | nil => simp [val]
  | cons x t ih =>
    simp only [List.cons_append, val, ih, List.length_cons, Nat.pow_succ]
    rw [Nat.mul_add, ← Nat.mul_assoc, Nat.mul_comm 4294967296 (4294967296 ^ t.length), Nat.add_assoc]

theorem take_snoc (l : List Nat) (k : Nat) (h : k < l.length) : l.take (k + 1) = l.take k ++ [l.getD k 0] := by
  rw [List.take_succ_eq_append_getElem h]
  simp [h]

theorem val_take_succ (l : List Nat) (k : Nat) (h : k < l.length) : val (l.take (k + 1)) = val (l.take k) + 4294967296 ^ k * l.getD k 0 := by
  rw [take_snoc l k h, val_append]
  simp [val, Nat.min_eq_left (Nat.le_of_lt h)]

theorem tl_le (l : List Nat) (n : Nat) : tl l n ≤ n := by
  induction n with
  | zero => simp [tl]
  | succ n ih => unfold tl; split <;> omega

theorem val_tl (l : List Nat) (n : Nat) (h : n ≤ l.length) : val (l.take (tl l n)) = val (l.take n) := by
  induction n with
  | zero => simp [tl]
  | succ n ih =>
    unfold tl
    split
    · rename_i h0
      rw [ih (by omega), val_take_succ l n (by omega), h0]
      simp
    · rfl

theorem getD_take (l : List Nat) (n i : Nat) (h : i < n) : (l.take n).getD i 0 = l.getD i 0 := by
  simp [List.getD, h]

theorem ok_take {l : List Nat} (h : Ok l) (n : Nat) : Ok (l.take n) := by
  intro i hi
  have h1 : i < n := by simp at hi; omega
  have h2 : i < l.length := by simp at hi; omega
  rw [getD_take l n i h1]
  exact h i h2

theorem nrm_tl (l : List Nat) (n : Nat) (h : n ≤ l.length) : Nrm (l.take (tl l n)) := by
  induction n with
  | zero => exact .inl (by simp [tl])
  | succ n ih =>
    unfold tl
    split
    · exact ih (by omega)
    · rename_i h0
      right
      have e : (l.take (n + 1)).length = n + 1 := by simp; omega
      rw [e, Nat.add_sub_cancel, getD_take l (n + 1) n (by omega)]
      exact h0

theorem val_lt {l : List Nat} (h : Ok l) : val l < 4294967296 ^ l.length := by
  induction l with
  | nil => simp [val]
  | cons x t ih =>
    have hx : x < 4294967296 := by simpa using h 0 (by simp)
    have ht : Ok t := fun i hi => by simpa using h (i + 1) (by simp; omega)
    have := ih ht
    simp only [val, List.length_cons, Nat.pow_succ]
    omega

theorem val_ge {l : List Nat} (h : Nrm l) (hn : 0 < l.length) : 4294967296 ^ (l.length - 1) ≤ val l := by
  have h0 : l.getD (l.length - 1) 0 ≠ 0 := by
    rcases h with h | h
    · omega
    · exact h
  have e := val_take_succ l (l.length - 1) (by omega)
  rw [Nat.sub_add_cancel hn, List.take_length] at e
  rw [e]
  have h1 : 4294967296 ^ (l.length - 1) * 1 ≤ 4294967296 ^ (l.length - 1) * l.getD (l.length - 1) 0 := Nat.mul_le_mul_left _ (by omega)
  omega

theorem val_zero {l : List Nat} (h : Nrm l) : val l = 0 ↔ l = [] := by
  constructor
  · intro e
    rcases Nat.eq_zero_or_pos l.length with h0 | h0
    · exact List.eq_nil_of_length_eq_zero h0
    · have := val_ge h h0
      have := Nat.pow_pos (n := l.length - 1) (by omega : 0 < 4294967296)
      omega
  · rintro rfl; rfl

theorem take_set_lt (r : List Nat) (k d : Nat) : (r.set k d).take k = r.take k := by
  rw [List.take_set, List.set_eq_of_length_le (by simp; omega)]
theorem getD_set_same (r : List Nat) (k d : Nat) (h : k < r.length) : (r.set k d).getD k 0 = d := by simp [List.getD, h]
theorem val_set (r : List Nat) (k d : Nat) (h : k < r.length) : val ((r.set k d).take (k + 1)) = val (r.take k) + 4294967296 ^ k * d := by
  rw [val_take_succ _ k (by simpa using h), take_set_lt, getD_set_same r k d h]
theorem ok_set {r : List Nat} (h : Ok r) (k d : Nat) (hd : d < 4294967296) : Ok (r.set k d) := by
  intro i hi
  rw [List.length_set] at hi
  rcases Nat.decEq i k with hne | rfl
  · have := h i hi
    simp only [List.getD, List.getElem?_set_ne (fun e => hne e.symm)] at this ⊢
    exact this
  · rw [getD_set_same r i d hi]; exact hd
theorem ok_replicate (n : Nat) : Ok (List.replicate n 0) := by
  intro i hi
  simp at hi
  simp [List.getD, hi]
/-- A list beyond its end. -/
theorem take_getD (l : List Nat) (k : Nat) : val (l.take (k + 1)) = val (l.take k) + 4294967296 ^ k * l.getD k 0 := by
  rcases Nat.lt_or_ge k l.length with h | h
  · exact val_take_succ l k h
  · rw [List.take_of_length_le (by omega), List.take_of_length_le h]
    simp [List.getD, List.getElem?_eq_none h]

theorem split_word (c : Nat) : 4294967296 * (c / 4294967296) + c % 4294967296 = c := Nat.div_add_mod c 4294967296

/-- A round of the sum of two. -/
theorem add_step (a b r : List Nat) (k c : Nat) (hk : k < r.length) (h : val (r.take k) + 4294967296 ^ k * c = val (a.take k) + val (b.take k)) :
    val ((r.set k ((c + a.getD k 0 + b.getD k 0) % 4294967296)).take (k + 1)) + 4294967296 ^ (k + 1) * ((c + a.getD k 0 + b.getD k 0) / 4294967296) = val (a.take (k + 1)) + val (b.take (k + 1)) := by
  rw [val_set r k _ hk, take_getD a k, take_getD b k, Nat.pow_succ, Nat.mul_assoc, Nat.add_assoc, ← Nat.mul_add, Nat.add_comm (_ % _), split_word]
  rw [Nat.mul_add, Nat.mul_add]
  omega

/-- A round of the difference of two. -/
theorem sub_step (a b r : List Nat) (k c t c' : Nat) (hk : k < r.length) (h : val (r.take k) + val (b.take k) = val (a.take k) + 4294967296 ^ k * c) (ht : c' * 4294967296 + a.getD k 0 = t + c + b.getD k 0) :
    val ((r.set k t).take (k + 1)) + val (b.take (k + 1)) = val (a.take (k + 1)) + 4294967296 ^ (k + 1) * c' := by
  rw [val_set r k _ hk, take_getD a k, take_getD b k, Nat.pow_succ, Nat.mul_assoc]
  have e : 4294967296 ^ k * (c' * 4294967296 + a.getD k 0) = 4294967296 ^ k * (t + c + b.getD k 0) := by rw [ht]
  rw [Nat.mul_add, Nat.mul_add, Nat.mul_add] at e
  rw [Nat.mul_comm 4294967296 c']
  omega

/-- The longer of two is the greater. -/
theorem len_le {a b : List Nat} (ha : Ok a) (hb : Nrm b) (h : val b ≤ val a) : b.length ≤ a.length := by
  rcases Nat.eq_zero_or_pos b.length with h0 | h0
  · omega
  · apply Classical.byContradiction
    intro hn
    have h1 := val_lt ha
    have h2 := val_ge hb h0
    have h3 : 4294967296 ^ a.length ≤ 4294967296 ^ (b.length - 1) := Nat.pow_le_pow_right (by omega) (by omega)
    omega
theorem len_lt {a b : List Nat} (ha : Ok a) (hb : Nrm b) (h : a.length < b.length) : val a < val b := by
  apply Classical.byContradiction
  intro hn
  have := len_le ha hb (by omega)
  omega

/-- Two of one length, the same from word k on, differ as their first words do. -/
theorem top_lt {a b : List Nat} (ha : Ok a) (j : Nat) (h1 : j < a.length) (h2 : j < b.length) (hlen : a.length = b.length) (hs : a.drop (j + 1) = b.drop (j + 1)) (hlt : a.getD j 0 < b.getD j 0) : val a < val b := by
  have e1 : val a = val (a.take (j + 1)) + 4294967296 ^ (j + 1) * val (a.drop (j + 1)) := by
    have := val_append (a.take (j + 1)) (a.drop (j + 1))
    rw [List.take_append_drop] at this
    rw [this]; simp [Nat.min_eq_left h1]
  have e2 : val b = val (b.take (j + 1)) + 4294967296 ^ (j + 1) * val (b.drop (j + 1)) := by
    have := val_append (b.take (j + 1)) (b.drop (j + 1))
    rw [List.take_append_drop] at this
    rw [this]; simp [Nat.min_eq_left h2]
  rw [e1, e2, hs, val_take_succ a j h1, val_take_succ b j h2]
  have h3 := val_lt (ok_take ha j)
  rw [List.length_take, Nat.min_eq_left (Nat.le_of_lt h1)] at h3
  have h4 : 4294967296 ^ j * (a.getD j 0 + 1) ≤ 4294967296 ^ j * b.getD j 0 := Nat.mul_le_mul_left _ hlt
  rw [Nat.mul_add, Nat.mul_one] at h4
  omega
end Go.Proofs.YtfkafjffjeipaaaGreatDoor.Big

namespace Go.Proofs.YtfkafjffjeipaaaGreatDoor
set_option linter.unusedVariables false
open Go.RowKit Big

/-- A list of words in memory. -/
structure Wd (w : World) (v : Value) (l : List Nat) : Prop where
  ok : Ok l
  len : l.length ≤ 140737488355328
  at_ : (l = [] ∧ ∃ a cap, v = .slice a 0 cap) ∨ (0 < l.length ∧ ∃ b off cap, v = .slice (some ⟨b, off, none⟩) l.length cap ∧ b < w.heap.size ∧ l.length ≤ cap ∧ ∀ i, i < l.length → w.cell? ⟨b, off + i, none⟩ = some (.int .u32 (l.getD i 0 : Nat)))

/-- Words stay where nothing but a block that is not theirs is written. -/
theorem Wd.keep {w w' : World} {v : Value} {l : List Nat} {row : Option Nat} (h : Wd w v l) (hg : w.grownBy w' row) (hr : ∀ b off n cap, v = .slice (some ⟨b, off, none⟩) n cap → some b ≠ row) : Wd w' v l := by
  refine ⟨h.ok, h.len, ?_⟩
  rcases h.at_ with ⟨h0, a, cap, hv⟩ | ⟨h0, b, off, cap, hv, hb, hcap, hc⟩
  · exact .inl ⟨h0, a, cap, hv⟩
  · exact .inr ⟨h0, b, off, cap, hv, Nat.lt_of_lt_of_le hb hg.size, hcap, fun i hi => hg.cell (hc i hi) (hr b off _ cap hv)⟩

theorem Wd.grow {w w' : World} {v : Value} {l : List Nat} (h : Wd w v l) (hg : w.grownBy w' none) : Wd w' v l := h.keep hg (fun _ _ _ _ _ => by simp)

theorem wd_nil (w : World) (a : Option Addr) (cap : Nat) : Wd w (.slice a 0 cap) [] := ⟨fun i hi => by simp at hi, by simp, .inl ⟨rfl, a, cap, rfl⟩⟩
theorem wd_take {w : World} {b off n cap : Nat} {l : List Nat} (h : Wd w (.slice (some ⟨b, off, none⟩) n cap) l) (k : Nat) (hk : k ≤ l.length) : Wd w (.slice (some ⟨b, off, none⟩) k cap) (l.take k) := by
  rcases Nat.eq_zero_or_pos k with rfl | hp
  · exact wd_nil w _ _
  · have e : (l.take k).length = k := by simp; omega
    refine ⟨ok_take h.ok k, by rw [e]; have := h.len; omega, .inr ?_⟩
    rcases h.at_ with ⟨h0, a, cap', hv⟩ | ⟨h0, b', off', cap', hv, hb, hcap, hc⟩
    · subst h0; simp at hk; omega
    · cases hv
      refine ⟨by omega, b, off, cap, by rw [e], hb, by omega, fun i hi => ?_⟩
      rw [e] at hi
      rw [getD_take l k i hi]
      exact hc i (by omega)

set_option maxHeartbeats 1000000 in
theorem trim_any (v : Value) (l : List Nat) (w : World) (h : Wd w v l) :
    Calls Tryz.prog 96 #[v] w fun e w' => (∃ v', e = .returned v' ∧ Wd w v' (l.take (tl l l.length))) ∧ w' = w := by
  have hlen := h.len
  rcases h.at_ with ⟨h0, a, cap, hv⟩ | ⟨h0, b, off, cap, hv, hb, hcap, hc⟩
  · subst h0; subst hv
    go_enter Tryz.func96, Tryz.ntmps96
    go_wp2
    refine wp_loop_rounds 1 ?_
    rw [rounds_succ]
    cases a with
    | none =>
      go_wp2
      go_ret
      exact ⟨⟨_, rfl, wd_nil _ _ _⟩, rfl⟩
    | some a =>
      go_wp2
      go_ret
      exact ⟨⟨_, rfl, wd_nil _ _ _⟩, rfl⟩
  · subst hv
    have Hc : Hid (∀ i, i < l.length → w.cell? ⟨b, off + i, none⟩ = some (.int .u32 (l.getD i 0 : Nat))) := hc
    have Ho : Hid (Ok l) := h.ok
    have Hr : Hid (Wd w (.slice (some ⟨b, off, none⟩) l.length cap) l) := h
    clear hc h
    go_enter Tryz.func96, Tryz.ntmps96
    go_wp2
    go_loop [3] (fun n => ∃ k : Nat, k ≤ l.length ∧ n = .int .i64 k ∧ Hid (tl l k = tl l l.length)) (fun n => (intOf n).toNat)
    case atStart => exact ⟨l.length, Nat.le_refl _, rfl, rfl⟩
    case round =>
      obtain ⟨k, hk, rfl, Hk⟩ := hrel
      cases k with
      | zero =>
        go_wp2
        go_ret
        refine ⟨⟨_, rfl, ?_⟩, rfl⟩
        rw [← Hk.out]
        exact wd_take Hr.out 0 (by omega)
      | succ j =>
        have hcj := Hc.out j (by omega)
        by_cases hz : l.getD j 0 = 0
        · rw [hz] at hcj
          have Hk2 : Hid (tl l j = tl l l.length) := by
            have := Hk.out; rw [tl_zero l j hz] at this; exact this
          clear Hk hz
          go_wp2
          go_round
          case rel => exact ⟨j, by omega, by go_num, Hk2⟩
          case measure => simp [intOf]
        · have hb1 := Ho.out j (by omega)
          have Hk2 : Hid (j + 1 = tl l l.length) := by
            have := Hk.out; rw [tl_pos l j hz] at this; exact this
          generalize l.getD j 0 = x at *
          have hx : ((x : Int) == 0) = false := by simp; omega
          go_wp2
          go_ret
          refine ⟨⟨_, rfl, ?_⟩, rfl⟩
          rw [← Hk2.out]
          exact wd_take Hr.out (j + 1) hk
end Go.Proofs.YtfkafjffjeipaaaGreatDoor

namespace Go.Proofs.YtfkafjffjeipaaaGreatDoor
set_option linter.unusedVariables false
open Go.RowKit Big

/-- A number with its sign. -/
def sg (neg : Bool) (n : Nat) : Int := if neg then -(n : Int) else n

/-- A whole number of any size stands in block p. -/
structure IsBig (w : World) (p : Nat) (neg : Bool) (v : Value) (l : List Nat) : Prop where
  blk : w.heap[p]? = some (.cells #[.bool neg, v] 116 (0, 0))
  wd : Wd w v l
  nrm : Nrm l
  sgn : neg = true → 0 < l.length

theorem blk_lt {w : World} {p : Nat} {o : Obj} (h : w.heap[p]? = some o) : p < w.heap.size := by
  rcases Nat.lt_or_ge p w.heap.size with h1 | h1
  · exact h1
  · rw [Array.getElem?_eq_none h1] at h; cases h
theorem blk_cell0 {w : World} {p : Nat} {c0 c1 : Value} {t : TypeId} (h : w.heap[p]? = some (.cells #[c0, c1] t (0, 0))) : w.cell? ⟨p, 0, none⟩ = some c0 := by simp [World.cell?, h]
theorem blk_cell1 {w : World} {p : Nat} {c0 c1 : Value} {t : TypeId} (h : w.heap[p]? = some (.cells #[c0, c1] t (0, 0))) : w.cell? ⟨p, 1, none⟩ = some c1 := by simp [World.cell?, h]
theorem blk_frozen {w : World} {p i : Nat} {c : Array Value} {t : TypeId} (h : w.heap[p]? = some (.cells c t (0, 0))) : w.frozen? ⟨p, i, none⟩ = false := by simp [World.frozen?, h]

/-- The words of a list stand in no block of another kind. -/
theorem Wd.apart {w : World} {v : Value} {l : List Nat} (h : Wd w v l) {p : Nat} {neg : Bool} {u : Value} {t : TypeId} (hp : w.heap[p]? = some (.cells #[.bool neg, u] t (0, 0))) (hu : ∀ k n, u ≠ .int k n) :
    ∀ b off n cap, v = .slice (some ⟨b, off, none⟩) n cap → 0 < l.length → b ≠ p := by
  rintro b off n cap rfl h0 rfl
  rcases h.at_ with ⟨h1, _⟩ | ⟨h1, b', off', cap', hv, hb, hcap, hc⟩
  · subst h1; simp at h0
  · cases hv
    have h2 := hc 0 h1
    simp only [World.cell?, hp] at h2
    match off, h2 with
    | 0, h2 => simp at h2
    | 1, h2 => simp at h2; exact hu _ _ h2
    | n + 2, h2 => simp at h2

theorem Wd.keepP {w w' : World} {v : Value} {l : List Nat} (h : Wd w v l) {p : Nat} {neg : Bool} {u : Value} {t : TypeId} (hp : w.heap[p]? = some (.cells #[.bool neg, u] t (0, 0))) (hu : ∀ k n, u ≠ .int k n) (hg : w.grownBy w' (some p)) : Wd w' v l := by
  rcases Nat.eq_zero_or_pos l.length with h0 | h0
  · refine ⟨h.ok, h.len, ?_⟩
    rcases h.at_ with ⟨h1, a, cap, hv⟩ | ⟨h1, _⟩
    · exact .inl ⟨h1, a, cap, hv⟩
    · omega
  · exact h.keep hg (fun b off n cap hv => by have := h.apart hp hu b off n cap hv h0; simpa using this)

theorem Wd.noInt {w : World} {v : Value} {l : List Nat} (h : Wd w v l) : ∀ k n, v ≠ .int k n := by
  rintro k n rfl
  rcases h.at_ with ⟨_, _, _, hv⟩ | ⟨_, _, _, _, hv, _⟩ <;> cases hv

theorem Wd.slice {w : World} {v : Value} {l : List Nat} (h : Wd w v l) : ∃ a cap, v = .slice a l.length cap := by
  rcases h.at_ with ⟨h0, a, cap, hv⟩ | ⟨h0, b, off, cap, hv, _⟩
  · subst h0; exact ⟨a, cap, hv⟩
  · exact ⟨_, cap, hv⟩

theorem give_any (p : Nat) (neg n0 : Bool) (u v : Value) (l : List Nat) (w : World) (hp : w.heap[p]? = some (.cells #[.bool n0, u] 116 (0, 0))) (hu : ∀ k n, u ≠ .int k n) (hv : Wd w v l) (hn : Nrm l) :
    Calls Tryz.prog 57 #[.pointer (some ⟨p, 0, none⟩), .bool neg, v] w fun e w' => e = .returned (.pointer (some ⟨p, 0, none⟩)) ∧ IsBig w' p (neg && decide (0 < l.length)) v l ∧ w.grownBy w' (some p) := by
  obtain ⟨a, cap, rfl⟩ := hv.slice
  have c0 := blk_cell0 hp
  have c1 := blk_cell1 hp
  have f0 := blk_frozen (i := 0) hp
  have f1 := blk_frozen (i := 1) hp
  have hlt := blk_lt hp
  have key : ∀ b : Bool, ((w.setCell ⟨p, 1, none⟩ (.slice a l.length cap)).setCell ⟨p, 0, none⟩ (.bool b)).heap[p]? = some (.cells #[.bool b, .slice a l.length cap] 116 (0, 0)) := by
    intro b
    rw [heap_setCell_same _ p 0 #[.bool n0, .slice a l.length cap] 116 _ (by rw [heap_setCell_same _ p 1 _ _ _ hp]; rfl)]; rfl
  have grown : ∀ b : Bool, w.grownBy ((w.setCell ⟨p, 1, none⟩ (.slice a l.length cap)).setCell ⟨p, 0, none⟩ (.bool b)) (some p) := fun b =>
    ⟨rfl, rfl, rfl, by simp, fun k hk hne => by
      have hne : k ≠ p := fun e => hne (by rw [e])
      rw [heap_setCell_other _ _ _ _ hne, heap_setCell_other _ _ _ _ hne]⟩
  have fin : ∀ b : Bool, b = (neg && decide (0 < l.length)) → IsBig ((w.setCell ⟨p, 1, none⟩ (.slice a l.length cap)).setCell ⟨p, 0, none⟩ (.bool b)) p (neg && decide (0 < l.length)) (.slice a l.length cap) l := by
    rintro b rfl
    exact ⟨key _, hv.keepP hp hu (grown _), hn, by simp⟩
  have Fin : Hid (∀ b : Bool, b = (neg && decide (0 < l.length)) → IsBig ((w.setCell ⟨p, 1, none⟩ (.slice a l.length cap)).setCell ⟨p, 0, none⟩ (.bool b)) p (neg && decide (0 < l.length)) (.slice a l.length cap) l) := fin
  have Grown : Hid (∀ b : Bool, w.grownBy ((w.setCell ⟨p, 1, none⟩ (.slice a l.length cap)).setCell ⟨p, 0, none⟩ (.bool b)) (some p)) := grown
  clear key grown fin hp hu hv hn
  cases neg
  · go_enter Tryz.func57, Tryz.ntmps57
    go_wp2
    go_ret
    exact ⟨rfl, Fin.out _ rfl, Grown.out _⟩
  · go_enter Tryz.func57, Tryz.ntmps57
    go_wp2
    go_ret
    exact ⟨rfl, Fin.out _ (by simp), Grown.out _⟩
end Go.Proofs.YtfkafjffjeipaaaGreatDoor
