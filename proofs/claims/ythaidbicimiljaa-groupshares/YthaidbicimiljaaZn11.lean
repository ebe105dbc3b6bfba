/-
  What is wrong with any holdings: the contract of group.Check.
-/
import Derived.Test.YthaidbicimiljaaZn10
import Derived.Laws.CopyRow
import Derived.Laws.Tables
import Derived.Laws.Externs
import Derived.Lib.SliceRun
import Derived.Deep.RegionLaw
import Derived.OwnWalk
import Derived.Shelf.Abstract
import Derived.RangeFuncRecord
import Derived.Test.YthaidbicimiljaaZn5
import Derived.Deep.Cut
namespace Go.Proofs.Ythaidbicimiljaa
set_option linter.unusedVariables false
set_option linter.unusedSimpArgs false
set_option maxRecDepth 100000
open Go.RowKit Go.Lib

theorem cinfo_Ho : (Try.prog.info? 31).map (fun i => (i.zero, i.size, i.bytes)) = some (some (.agg #[.int .i64 0, .int .i64 0, .int .i64 0]), 3, 24) := by kernel_rfl
theorem clone_Ho (a : Option Addr) (n cap : Nat) (row : List Value) (w : World) (hlen : row.length = n * 3) (hone : ∀ u ∈ row, u.oneCell' = true) (hsrc : n ≠ 0 → ∃ x : Addr, a = some x ∧ x.block < w.heap.size ∧ ∀ j u, row[j]? = some u → w.cell? (x.add j) = some u) (hn : n ≤ 1000) :
    Calls Try.prog 39 #[.slice a n cap] w fun e w' => ∃ a' c', e = .returned (.slice a' n c') ∧ w'.ownsRow w.heap.size 31 3 (.slice a' n c') n row ∧ Below w.heap.size w w' := by
  have q35 : ∀ (w : World) (a : Option Addr) (n c n' c' : Nat), (binOp .eql 23 (.slice a n c) (.slice none n' c')).run Try.prog w = .ok (.bool a.isNone) w := fun w a n c n' c' => Lib.run_eql_slice_nil w _ _ a n c n' c' Try.underlying23
  cases a with
  | none =>
    have h0 : n = 0 := by
      by_cases h : n = 0
      · exact h
      · obtain ⟨x, hx, _⟩ := hsrc h
        cases hx
    subst h0
    have hr : row = [] := List.eq_nil_of_length_eq_zero (by rw [hlen])
    subst hr
    clear hsrc hlen hone
    go_enter Try.func39, Try.ntmps39
    go_wp2
    go_ret
    exact ⟨_, _, rfl, World.ownsRow_nil _ _ _ _, Below.refl _ _⟩
  | some x =>
    have B1 : Below w.heap.size w (w.alloc (.cells #[] 31)) := (Below.refl _ w).alloc (Nat.le_refl _) _
    have HS : Hid (∀ j u, row[j]? = some u → (w.alloc (.cells #[] 31)).cell? (x.add j) = some u) := fun j u h => by
      have hne : n ≠ 0 := fun e => by
        subst e
        have : row = [] := List.eq_nil_of_length_eq_zero (by rw [hlen])
        rw [this] at h; simp at h
      obtain ⟨x', hx', hlt, hc⟩ := hsrc hne
      cases hx'
      rw [B1.cell (p := x.add j) (by unfold Addr.add; split <;> exact hlt)]
      exact hc j u h
    have Hm1 : Hid (0 + n ≤ maxLen) := by unfold Hid maxLen; omega
    have Hm2 : Hid ((0 + n) * 24 ≤ 140737488355328) := by unfold Hid; omega
    have Hm3 : Hid (w.heap.size ≤ (w.alloc (.cells #[] 31)).heap.size) := by unfold Hid; simp
    have HRw : Hid (World.ownsRow (w.alloc (.cells #[] 31)) w.heap.size 31 3 (.slice (some ⟨w.heap.size, 0, none⟩) 0 0) 0 []) := ⟨rfl, .inr ⟨w.heap.size, 0, #[], rfl, Nat.le_refl _, World.alloc_heap_new w _, Nat.le_refl _, by unfold maxLen; omega, rfl, rfl⟩⟩
    obtain ⟨i0, hi, hz0, hz1, hz2⟩ := info_parts cinfo_Ho
    have l0 : (0 : Int) ≤ n := by omega
    have Hlen : Hid (row.length = n * 3) := hlen
    have Hone : Hid (∀ u ∈ row, u.oneCell' = true) := hone
    clear hsrc hlen hone
    go_enter Try.func39, Try.ntmps39
    go_wp2_with (at_builtin; refine wpList_append_own _ rfl _ _ 23 rfl w.heap.size 31 i0 (.agg #[.int .i64 0, .int .i64 0, .int .i64 0]) 3 24 Try.underlying23 hi hz0 hz1 hz2 rfl (by decide) _ _ _ rfl HRw.out x n cap row rfl Hlen.out HS.out Hone.out Hm1.out Hm2.out Hm3.out ?_)
    intro v w1 hown hgrow _
    have hb : Below w.heap.size w w1 := B1.grown hgrow B1.size (fun j e => by simp [Value.ownBlock] at e; omega)
    have hown2 : World.ownsRow w1 w.heap.size 31 3 v n row := by simpa using hown
    obtain ⟨a1, k1, rfl⟩ : ∃ a1 k1, v = .slice a1 n k1 := by
      rcases hown2.2 with ⟨rfl, h0⟩ | ⟨g1, c1, cur, rfl, _⟩
      · subst h0; exact ⟨_, _, rfl⟩
      · exact ⟨_, _, rfl⟩
    have HE : Hid (World.ownsRow w1 w.heap.size 31 3 (.slice a1 n k1) n row ∧ Below w.heap.size w w1) := ⟨hown2, hb⟩
    clear hown hown2 hgrow hb B1 HS HRw
    go_wp2
    go_ret
    exact ⟨_, _, rfl, HE.out.1, HE.out.2⟩
/-- The place of the first holding for which something holds. -/
def hidx (p : Ho → Bool) : Nat → List Ho → Int
  | _, [] => -1
  | k, a :: l => if p a = true then (k : Int) else hidx p (k + 1) l
theorem hidx_spec (p : Ho → Bool) : ∀ (l : List Ho) (k : Nat), (hidx p k l = -1 ∧ l.find? p = none) ∨ ∃ j, j < l.length ∧ hidx p k l = ((k + j : Nat) : Int) ∧ l.find? p = some (l.getD j ho0)
  | [], k => .inl ⟨rfl, rfl⟩
  | x :: l, k => by
    cases h : p x
    · rcases hidx_spec p l (k + 1) with ⟨e, ha⟩ | ⟨j, hj, e, ha⟩
      · exact .inl ⟨by rw [hidx, if_neg (by simp [h]), e], by rw [List.find?_cons_of_neg (by simp [h]), ha]⟩
      · exact .inr ⟨j + 1, by simpa using hj, by rw [hidx, if_neg (by simp [h]), e]; congr 1; omega, by rw [List.find?_cons_of_neg (by simp [h]), ha]; rfl⟩
    · exact .inr ⟨0, by simp, by rw [hidx, if_pos h]; simp, by rw [List.find?_cons_of_pos h]; rfl⟩

/-- What is asked of a function that is told a holding of a list, and has a value of its own, in worlds of a kind. -/
structure HTells (g : Nat) (u : Value) (p : Ho → Bool) (l : List Ho) (T : World → Prop) : Prop where
  eg : ∀ args W, (callFunc g args).run Try.prog W = .ok (.enter g args) W
  call : ∀ (x : Ho) W, x ∈ l → T W → Calls Try.prog g #[.agg x.cells, u] W fun e w' => e = .returned (.bool (p x)) ∧ Below W.heap.size W w'
  below : ∀ W W', T W → Below W.heap.size W W' → T W'
theorem HTells.sub {g : Nat} {u : Value} {p : Ho → Bool} {l m : List Ho} {T : World → Prop} (h : HTells g u p l T) (hs : ∀ x ∈ m, x ∈ l) : HTells g u p m T :=
  ⟨h.eg, fun x W hx hT => h.call x W (hs x hx) hT, h.below⟩
set_option maxHeartbeats 1000000 in
theorem hidx_some (g : Nat) (u : Value) (p : Ho → Bool) (T : World → Prop) (b off cap : Nat) (l : List Ho) (w : World) (hT : T w) (hp : HTells g u p l T) (hb : b < w.heap.size) (hlen : (l.length : Int) ≤ 9223372036854775807) (hc : HosAt w b off l) :
    Calls Try.prog 63 #[.slice (some ⟨b, off, none⟩) l.length cap, .func (.func g) #[] #[u]] w fun e w' => e = .returned (.int .i64 (hidx p 0 l)) ∧ Below w.heap.size w w' := by
  have eg := hp.eg
  have Hp : Hid (HTells g u p l T) := hp
  have Hc : Hid (HosAt w b off l) := hc
  have HT : Hid (T w) := hT
  clear hp hc hT
  obtain ⟨res, hres⟩ : ∃ res, hidx p 0 l = res := ⟨_, rfl⟩
  have Hres : Hid (hidx p 0 l = res) := hres
  rw [hres]
  clear hres
  go_enter Try.func63, Try.ntmps63
  go_wp2
  go_loopw [8] (fun i wr => ∃ k : Nat, k ≤ l.length ∧ i = .int .i64 k ∧ Hid (hidx p k (l.drop k) = res) ∧ Below w.heap.size w wr ∧ Hid (T wr)) (fun i _ => l.length - (RowKit.intOf i).toNat)
  case atStart => exact ⟨0, Nat.zero_le _, rfl, Hres.out, Below.refl _ _, HT⟩
  case round =>
    obtain ⟨k, hk, rfl, H, BW, HTr⟩ := hrel
    clear HT
    by_cases hlt : k < l.length
    · have hn := (Hc.out k hlt).below BW hb
      have hcall := Hp.out.call (l.getD k ho0) wr (hos_mem l k hlt) HTr.out
      have E : Hid ((if p (l.getD k ho0) = true then (k : Int) else hidx p (k + 1) (l.drop (k + 1))) = res) := by
        have := H.out
        rw [hos_drop l k hlt] at this
        exact this
      clear H
      generalize l.getD k ho0 = a at *
      obtain ⟨a0, a1, a2⟩ := a
      obtain ⟨c0, c1, c2⟩ := hn
      simp only [Ho.cells] at c0 c1 c2 hcall
      have i0 : (0 : Int) ≤ k := by omega
      have i1 : (k : Int) < l.length := by omega
      cases hq : p ⟨a0, a1, a2⟩
      · rw [hq] at hcall
        have HN : Hid (hidx p (k + 1) (l.drop (k + 1)) = res) := by
          have := E.out; rw [if_neg (by rw [hq]; simp)] at this; exact this
        go_wp2_with (go_at_fn g; refine hcall.mono ?_; rintro e w' ⟨rfl, hb'⟩)
        go_roundw
        case rel => exact ⟨k + 1, by omega, by go_num, HN, BW.trans (hb'.mono BW.size), Hp.out.below _ _ HTr.out hb'⟩
        case measure => simp [RowKit.intOf]; omega
      · rw [hq] at hcall
        have er : res = k := by rw [← E.out, if_pos hq]
        subst er
        go_wp2_with (go_at_fn g; refine hcall.mono ?_; rintro e w' ⟨rfl, hb'⟩)
        go_ret
        exact ⟨rfl, BW.trans (hb'.mono BW.size)⟩
    · have hk2 : k = l.length := by omega
      subst hk2
      have er : res = -1 := by rw [← H.out, List.drop_length]; rfl
      subst er
      go_wp2
      go_ret
      exact ⟨rfl, BW⟩
theorem hidx_nil (a : Option Addr) (cap : Nat) (f : Value) (w : World) :
    Calls Try.prog 63 #[.slice a 0 cap, f] w fun e w' => e = .returned (.int .i64 (-1)) ∧ Below w.heap.size w w' := by
  go_enter Try.func63, Try.ntmps63
  go_wp2
  refine wp_loop_rounds 1 ?_
  rw [rounds_succ]
  go_wp2
  go_ret
  exact ⟨rfl, Below.refl _ _⟩
theorem hidx_any (g : Nat) (u : Value) (p : Ho → Bool) (T : World → Prop) (a : Option Addr) (cap : Nat) (l : List Ho) (w : World) (hT : T w) (hp : HTells g u p l T) (hlen : (l.length : Int) ≤ 9223372036854775807) (h : IsHo w a l cap) :
    Calls Try.prog 63 #[.slice a l.length cap, .func (.func g) #[] #[u]] w fun e w' => e = .returned (.int .i64 (hidx p 0 l)) ∧ Below w.heap.size w w' := by
  rcases h.lies with rfl | ⟨b, off, rfl, hlt, hc⟩
  · exact hidx_nil a cap _ w
  · exact hidx_some g u p T b off cap l w hT hp hlt hlen hc
theorem hidx_has (p : Ho → Bool) : ∀ (l : List Ho) (k : Nat), decide (0 ≤ hidx p k l) = l.any p
  | [], k => by simp [hidx]
  | x :: l, k => by
    rw [hidx]
    cases h : p x
    · rw [if_neg (by simp), hidx_has p l (k + 1)]; simp [h]
    · rw [if_pos rfl]; simp [h]
theorem hContains_any (g : Nat) (u : Value) (p : Ho → Bool) (T : World → Prop) (a : Option Addr) (cap : Nat) (l : List Ho) (w : World) (hT : T w) (hp : HTells g u p l T) (hlen : (l.length : Int) ≤ 9223372036854775807) (h : IsHo w a l cap) :
    Calls Try.prog 38 #[.slice a l.length cap, .func (.func g) #[] #[u]] w fun e w' => e = .returned (.bool (l.any p)) ∧ Below w.heap.size w w' := by
  rw [← hidx_has p l 0]
  have hI := hidx_any g u p T a cap l w hT hp hlen h
  clear h hp hT
  go_enter Try.func38, Try.ntmps38
  go_wp2_with fail
  refine hI.mono ?_
  rintro e w' ⟨rfl, hb⟩
  go_wp2
  go_ret
  exact ⟨rfl, hb⟩
end Go.Proofs.Ythaidbicimiljaa

namespace Go.Proofs.Ythaidbicimiljaa
set_option linter.unusedVariables false
set_option linter.unusedSimpArgs false
set_option maxRecDepth 100000
open Go.RowKit Go.Lib

/-- An error by its number. -/
def grE (n : Int) : Value := if n = 0 then .nilIface else .iface 41 (.int .i64 n)
theorem grE_zero : grE 0 = .nilIface := rfl
theorem grE_ne {n : Int} (h : n ≠ 0) : grE n = .iface 41 (.int .i64 n) := if_neg h
/-- Are both of the same two? -/
def hSame (x y : Ho) : Bool := decide (y.en = x.en) && decide (y.of_ = x.of_)
/-- What is wrong with a holding behind others. -/
def nxBad (l : List Ho) (x : Ho) : Int :=
  if upTo x.en 12 = false then 1 else if upTo x.of_ 12 = false then 1 else if x.pt < 1 then 1 else if 1000 < x.pt then 1 else
  if x.en = x.of_ then 8 else if l.any (hSame x) then 8 else 0
theorem nxBad_ok {l : List Ho} {x : Ho} : nxBad l x = 0 ↔ (1 ≤ x.en ∧ x.en ≤ 12) ∧ (1 ≤ x.of_ ∧ x.of_ ≤ 12) ∧ (1 ≤ x.pt ∧ x.pt ≤ 1000) ∧ x.en ≠ x.of_ ∧ l.any (hSame x) = false := by
  unfold nxBad
  rw [← upTo_iff, ← upTo_iff]
  constructor
  · intro h
    split at h
    · omega
    · rename_i h1
      split at h
      · omega
      · rename_i h2
        split at h
        · omega
        · split at h
          · omega
          · split at h
            · omega
            · rename_i h5
              split at h
              · omega
              · rename_i h6
                exact ⟨by simpa using h1, by simpa using h2, by omega, h5, by simpa using h6⟩
  · rintro ⟨h1, h2, h3, h4, h5⟩
    rw [if_neg (by simp [h1]), if_neg (by simp [h2]), if_neg (by omega), if_neg (by omega), if_neg h4, if_neg (by simp [h5])]

theorem same_tells (x : Ho) (bx : Nat) (l : List Ho) : HTells 37 (.pointer (some ⟨bx, 0, none⟩)) (hSame x) l (fun W => HoAt W bx 0 x ∧ bx < W.heap.size) := by
  refine ⟨fun args W => rfl, fun y W hy hT => ?_, fun W W' hT hb => ⟨hT.1.below hb hT.2, Nat.lt_of_lt_of_le hT.2 hb.size⟩⟩
  obtain ⟨⟨c0, c1, c2⟩, hlt⟩ := hT
  have hW : (W.alloc (.cells y.cells 31)).heap.size = W.heap.size + 1 := by simp
  have hb := (Below.refl W.heap.size W).alloc (Nat.le_refl _) (.cells y.cells 31)
  have d0 := (hb.cell (p := ⟨bx, 0, none⟩) hlt).trans c0
  have d1 := (hb.cell (p := ⟨bx, 0 + 1, none⟩) hlt).trans c1
  obtain ⟨x0, x1, x2⟩ := x
  obtain ⟨y0, y1, y2⟩ := y
  simp only [Ho.cells, Nat.zero_add] at d0 d1 hb ⊢
  unfold hSame
  by_cases e0 : y0 = x0
  · have : (decide (y0 = x0) && decide (y1 = x1)) = decide (y1 = x1) := by simp [e0]
    simp only [this]
    subst e0
    by_cases e1 : y1 = x1
    · subst e1
      simp only [decide_true]
      go_enter Try.func37, Try.ntmps37
      go_wp2
      go_ret
      exact ⟨rfl, hb⟩
    · have e1' : decide (y1 = x1) = false := by simp [e1]
      simp only [e1']
      have e2 : (y1 == x1) = false := beq_eq_false_iff_ne.2 e1
      go_enter Try.func37, Try.ntmps37
      go_wp2
      go_ret
      exact ⟨by simp [e2], hb⟩
  · have : (decide (y0 = x0) && decide (y1 = x1)) = false := by simp [e0]
    simp only [this]
    go_enter Try.func37, Try.ntmps37
    go_wp2
    go_ret
    exact ⟨rfl, hb⟩

set_option maxHeartbeats 4000000 in
theorem grNext_any (a : Option Addr) (cap : Nat) (l : List Ho) (x : Ho) (w : World) (hl : l.length ≤ 20) (h : IsHo w a l cap) :
    Calls Try.prog 20 #[.slice a l.length cap, .agg x.cells] w fun e w' => e = .returned (grE (nxBad l x)) ∧ Below w.heap.size w w' := by
  have H1 : Hid (∀ n W, Calls Try.prog 9 #[.int .i64 n] W fun e w' => e = .returned (.bool (upTo n 12)) ∧ w' = W) := fun n W => isEntity_any n W
  obtain ⟨W0, hW0⟩ : ∃ W0, w.alloc (.cells x.cells 31) = W0 := ⟨_, rfl⟩
  have hb0 : Below w.heap.size w W0 := by rw [← hW0]; exact (Below.refl _ w).alloc (Nat.le_refl _) _
  have hx0 : HoAt W0 w.heap.size 0 x := by rw [← hW0]; exact HoAt.new w x _
  have hs0 : w.heap.size < W0.heap.size := by rw [← hW0]; simp
  have H2 : Hid (Calls Try.prog 38 #[.slice a l.length cap, .func (.func 37) #[] #[.pointer (some ⟨w.heap.size, 0, none⟩)]] W0 fun e w' => e = .returned (.bool (l.any (hSame x))) ∧ Below W0.heap.size W0 w') :=
    hContains_any _ _ (hSame x) _ a cap l W0 ⟨hx0, hs0⟩ (same_tells x w.heap.size l) (by omega) (h.below hb0)
  have HW0 : Hid (w.alloc (.cells x.cells 31) = W0) := hW0
  have HB0 : Hid (Below w.heap.size w W0 ∧ Below w.heap.size W0 W0) := ⟨hb0, Below.refl _ _⟩
  have HS0 : Hid (w.heap.size ≤ W0.heap.size) := by unfold Hid; omega
  have HN : Hid (nxBad l x = if upTo x.en 12 = false then 1 else if upTo x.of_ 12 = false then 1 else if x.pt < 1 then 1 else if 1000 < x.pt then 1 else if x.en = x.of_ then 8 else if l.any (hSame x) then 8 else 0) := rfl
  generalize nxBad l x = res at *
  generalize l.any (hSame x) = an at *
  obtain ⟨x0, x1, x2⟩ := x
  obtain ⟨d0, d1, d2⟩ := hx0
  simp only [Ho.cells, Nat.zero_add] at d0 d1 d2 HW0 HN ⊢
  clear h hb0 hs0 hW0 hl
  go_enter Try.func20, Try.ntmps20
  go_upto_region 1 with fail
  rw [HW0.out]
  clear HW0
  cases c1 : upTo x0 12
  · rw [c1, if_pos rfl] at HN
    have er : res = 1 := HN.out
    subst er
    go_wp2_with (go_at_call 9; refine (H1.out _ _).mono ?_; rintro e w' ⟨rfl, rfl⟩; simp only [c1])
    go_ret
    exact ⟨rfl, HB0.out.1⟩
  rw [c1, if_neg (by decide)] at HN
  cases c2 : upTo x1 12
  · rw [c2, if_pos rfl] at HN
    have er : res = 1 := HN.out
    subst er
    go_wp2_with fail
    refine (H1.out _ _).mono ?_
    rintro e w' ⟨rfl, hw⟩
    rw [hw, c1]; clear hw w'
    go_wp2_with fail
    refine (H1.out _ _).mono ?_
    rintro e w' ⟨rfl, hw⟩
    rw [hw, c2]; clear hw w'
    go_wp2
    go_ret
    exact ⟨rfl, HB0.out.1⟩
  rw [c2, if_neg (by decide)] at HN
  go_wp2_with fail
  refine (H1.out _ _).mono ?_
  rintro e w' ⟨rfl, hw⟩
  rw [hw, c1]; clear hw w' c1
  go_wp2_with fail
  refine (H1.out _ _).mono ?_
  rintro e w' ⟨rfl, hw⟩
  rw [hw, c2]; clear hw w' c2 H1
  by_cases c3 : x2 < 1
  · rw [if_pos c3] at HN
    have er : res = 1 := HN.out
    subst er
    go_wp2
    go_ret
    exact ⟨rfl, HB0.out.1⟩
  rw [if_neg c3] at HN
  by_cases c4 : 1000 < x2
  · rw [if_pos c4] at HN
    have er : res = 1 := HN.out
    subst er
    go_wp2
    go_ret
    exact ⟨rfl, HB0.out.1⟩
  rw [if_neg c4] at HN
  by_cases c5 : x0 = x1
  · rw [if_pos c5] at HN
    have er : res = 8 := HN.out
    subst er
    subst c5
    go_wp2
    go_ret
    exact ⟨rfl, HB0.out.1⟩
  rw [if_neg c5] at HN
  have c6 : (x0 == x1) = false := beq_eq_false_iff_ne.2 c5
  cases an
  · have er : res = 0 := HN.out
    subst er
    clear HN
    go_wp2_with fail
    refine H2.out.mono ?_
    rintro e w1 ⟨rfl, hb1⟩
    have HB1 : Hid (Below w.heap.size w w1) := HB0.out.1.trans (hb1.mono HS0.out)
    clear hb1 d0 d1 d2 H2
    go_wp2
    go_ret
    exact ⟨rfl, HB1.out⟩
  · have er : res = 8 := HN.out
    subst er
    clear HN
    go_wp2_with fail
    refine H2.out.mono ?_
    rintro e w1 ⟨rfl, hb1⟩
    have HB1 : Hid (Below w.heap.size w w1) := HB0.out.1.trans (hb1.mono HS0.out)
    clear hb1 d0 d1 d2 H2
    go_wp2
    go_ret
    exact ⟨rfl, HB1.out⟩
end Go.Proofs.Ythaidbicimiljaa

namespace Go.Proofs.Ythaidbicimiljaa
set_option linter.unusedVariables false
set_option linter.unusedSimpArgs false
set_option maxRecDepth 100000
open Go.RowKit Go.Lib

theorem ho_zero (w : World) : (zeroValue 31).run Try.prog w = .ok (.agg #[.int .i64 0, .int .i64 0, .int .i64 0]) w := by
  obtain ⟨i0, hi, hz0, hz1, hz2⟩ := info_parts ho_info
  simp [zeroValue, typeInfo, hi, hz0]

theorem zeroh_length (k : Nat) : (Builtin.zeroCells (Value.agg #[.int .i64 0, .int .i64 0, .int .i64 0]).cells k).toList.length = k * 3 := by
  simp [Builtin.zeroCells, Value.cells]
theorem hidx_two (p : Ho → Bool) : ∀ (l : List Ho) (k : Nat), (hidx p k l = -1 ∧ l.any p = false) ∨ ∃ j, j < l.length ∧ hidx p k l = ((k + j : Nat) : Int) ∧ p (l.getD j ho0) = true ∧ (l.take j).any p = false
  | [], k => .inl ⟨rfl, rfl⟩
  | x :: l, k => by
    cases h : p x
    · rcases hidx_two p l (k + 1) with ⟨e, ha⟩ | ⟨j, hj, e, hp, ha⟩
      · exact .inl ⟨by rw [hidx, if_neg (by simp [h]), e], by simp [h, ha]⟩
      · exact .inr ⟨j + 1, by simpa using hj, by rw [hidx, if_neg (by simp [h]), e]; congr 1; omega, by simpa using hp, by simp [h, ha]⟩
    · exact .inr ⟨0, by simp, by rw [hidx, if_pos h]; simp, by simpa using h, rfl⟩

theorem zeroh_one (k : Nat) : ∀ u ∈ (Builtin.zeroCells (Value.agg #[.int .i64 0, .int .i64 0, .int .i64 0]).cells k).toList, u.oneCell' = true := by
  intro u hu
  simp only [Builtin.zeroCells, Value.cells, Array.toList_map, List.mem_map] at hu
  obtain ⟨i, _, rfl⟩ := hu
  have h3 : i % 3 = 0 ∨ i % 3 = 1 ∨ i % 3 = 2 := by omega
  rcases h3 with h | h | h <;> simp [h] <;> rfl

/-- Clearing the end of a row that is known whole. -/
theorem run_clearh (w : World) (ty : TypeId) (g o n c : Nat) (cur : Array Value) (t : TypeId) (hg : w.heap[g]? = some (.cells cur t (0, 0))) (hn : 0 < n) (hfit : o + n * 3 ≤ cur.size) :
    ∃ Z : List Value, Z.length = n * 3 ∧ (Builtin.clear_ #[23] ty #[.slice (some ⟨g, o, none⟩) n c]).run Try.prog w = .ok (.tuple #[]) (w.setRow g (cur.toList.take o ++ Z ++ cur.toList.drop (o + Z.length)).toArray) := by
  refine ⟨(Builtin.zeroCells (Value.agg #[.int .i64 0, .int .i64 0, .int .i64 0]).cells n).toList, zeroh_length n, ?_⟩
  have hst := run_storeCells_at Try.prog g o t (Builtin.zeroCells (Value.agg #[.int .i64 0, .int .i64 0, .int .i64 0]).cells n).toList 0 cur w hg (by rw [zeroh_length]; omega) (zeroh_one n)
  obtain ⟨m, rfl⟩ : ∃ m, n = m + 1 := ⟨n - 1, by omega⟩
  simp only [Nat.add_zero] at hst
  have hz := ho_zero
  generalize Value.agg #[.int .i64 0, .int .i64 0, .int .i64 0] = zv at hz hst ⊢
  generalize hZ : (Builtin.zeroCells zv.cells (m + 1)).toList = Z at hst ⊢
  simp [Builtin.clear_, run_underlying Try.underlying23, hz, hZ, hst]

/-- A holding of a row that is one's own is written anew. -/
theorem HoRow.setHo {W : World} {n0 g cap : Nat} {l : List Ho} (h : HoRow W n0 (.slice (some ⟨g, 0, none⟩) l.length cap) l) (k : Nat) (hk : k < l.length) (x : Ho) :
    HoRow (((W.setCell ⟨g, k * 3, none⟩ (.int .i64 x.en)).setCell ⟨g, k * 3 + 1, none⟩ (.int .i64 x.of_)).setCell ⟨g, k * 3 + 2, none⟩ (.int .i64 x.pt)) n0 (.slice (some ⟨g, 0, none⟩) l.length cap) (l.set k x) ∧ ∀ o, W.frozen? ⟨g, o, none⟩ = false := by
  rcases h.2 with ⟨hv, _⟩ | ⟨g1, c1, cur, hv, hb, hg, hc, hm, hs, ht⟩
  · cases hv
  cases hv
  have e1 : hoRow (l.set k x) = (((hoRow l).set (k * 3) (.int .i64 x.en)).set (k * 3 + 1) (.int .i64 x.of_)).set (k * 3 + 2) (.int .i64 x.pt) := by
    apply List.ext_getElem?
    intro j
    obtain ⟨q, r, hr, rfl⟩ : ∃ q r, r < 3 ∧ j = q * 3 + r := ⟨j / 3, j % 3, Nat.mod_lt _ (by omega), by omega⟩
    by_cases hq : q < l.length
    · rw [hoRow_get _ q r (by simpa using hq) hr]
      have hlr : k * 3 + 2 < (hoRow l).length := by rw [hoRow_length]; omega
      by_cases hqk : q = k
      · subst hqk
        rw [List.getD_eq_getElem?_getD, List.getElem?_set_self hq, Option.getD_some]
        rcases (by omega : r = 0 ∨ r = 1 ∨ r = 2) with rfl | rfl | rfl
        · rw [List.getElem?_set_ne (by omega), List.getElem?_set_ne (by omega), Nat.add_zero, List.getElem?_set_self (by omega)]; rfl
        · rw [List.getElem?_set_ne (by omega), List.getElem?_set_self (by rw [List.length_set]; omega)]; rfl
        · rw [List.getElem?_set_self (by rw [List.length_set, List.length_set]; omega)]; rfl
      · rw [List.getElem?_set_ne (by omega), List.getElem?_set_ne (by omega), List.getElem?_set_ne (by omega), hoRow_get l q r hq hr, List.getD_eq_getElem?_getD, List.getElem?_set_ne (fun e => hqk e.symm), ← List.getD_eq_getElem?_getD]
    · rw [List.getElem?_eq_none (by rw [hoRow_length, List.length_set]; omega), List.getElem?_eq_none (by rw [List.length_set, List.length_set, List.length_set, hoRow_length]; omega)]
  have g1 : (W.setCell ⟨g, k * 3, none⟩ (.int .i64 x.en)).heap[g]? = some (.cells (cur.setIfInBounds (k * 3) (.int .i64 x.en)) 31 (0, 0)) := by
    rw [setCell_eq_setRow W g (k * 3) cur 31 (0, 0) _ hg]
    exact setRow_heap W g cur _ 31 (0, 0) hg
  have g2 : ((W.setCell ⟨g, k * 3, none⟩ (.int .i64 x.en)).setCell ⟨g, k * 3 + 1, none⟩ (.int .i64 x.of_)).heap[g]? = some (.cells ((cur.setIfInBounds (k * 3) (.int .i64 x.en)).setIfInBounds (k * 3 + 1) (.int .i64 x.of_)) 31 (0, 0)) := by
    rw [setCell_eq_setRow _ g (k * 3 + 1) _ 31 (0, 0) _ g1]
    exact setRow_heap _ g _ _ 31 (0, 0) g1
  have g3 : (((W.setCell ⟨g, k * 3, none⟩ (.int .i64 x.en)).setCell ⟨g, k * 3 + 1, none⟩ (.int .i64 x.of_)).setCell ⟨g, k * 3 + 2, none⟩ (.int .i64 x.pt)).heap[g]? = some (.cells (((cur.setIfInBounds (k * 3) (.int .i64 x.en)).setIfInBounds (k * 3 + 1) (.int .i64 x.of_)).setIfInBounds (k * 3 + 2) (.int .i64 x.pt)) 31 (0, 0)) := by
    rw [setCell_eq_setRow _ g (k * 3 + 2) _ 31 (0, 0) _ g2]
    exact setRow_heap _ g _ _ 31 (0, 0) g2
  refine ⟨⟨by rw [hoRow_length, List.length_set], .inr ⟨g, cap, _, by rw [List.length_set], hb, g3, by rw [List.length_set]; exact hc, hm, by simpa using hs, ?_⟩⟩, fun o => by simp [World.frozen?, hg]⟩
  rw [e1, List.length_set, ← ht, Array.toList_setIfInBounds, Array.toList_setIfInBounds, Array.toList_setIfInBounds, List.take_set, List.take_set, List.take_set]

/-- What holds between the rounds of DeleteFunc. -/
structure HDelAt (p : Ho → Bool) (l d : List Ho) (i j : Nat) : Prop where
  len : d.length = l.length
  lt : i < j
  le : j ≤ l.length
  pre : d.take i = (l.take j).filter fun x => !p x
  suf : d.drop j = l.drop j

theorem hfil_out {p : Ho → Bool} {x : Ho} (h : p x = true) : [x].filter (fun y => !p y) = [] := by simp [h]
theorem hfil_in {p : Ho → Bool} {x : Ho} (h : p x = false) : [x].filter (fun y => !p y) = [x] := by simp [h]

theorem HDelAt.skip {p : Ho → Bool} {l d : List Ho} {i j : Nat} (h : HDelAt p l d i j) (hj : j < l.length) (hp : p (l.getD j ho0) = true) : HDelAt p l d i (j + 1) :=
  ⟨h.len, by have := h.lt; omega, by omega, by rw [h.pre, hos_take l j hj, List.filter_append, hfil_out hp, List.append_nil], by have := congrArg (List.drop 1) h.suf; rwa [List.drop_drop, List.drop_drop] at this⟩
theorem HDelAt.keep {p : Ho → Bool} {l d : List Ho} {i j : Nat} (h : HDelAt p l d i j) (hj : j < l.length) (hp : p (l.getD j ho0) = false) : HDelAt p l (d.set i (l.getD j ho0)) (i + 1) (j + 1) := by
  have h1 := h.lt
  have h2 := h.len
  refine ⟨by rw [List.length_set, h.len], by omega, by omega, ?_, ?_⟩
  · rw [hos_take l j hj, List.filter_append, ← h.pre, List.take_set, hos_take d i (by omega)]
    have hl : (d.take i).length = i := by rw [List.length_take]; omega
    rw [List.set_append_right _ _ (by omega), hl, Nat.sub_self, hfil_in hp]
    rfl
  · rw [List.drop_set_of_lt (by omega)]
    have := congrArg (List.drop 1) h.suf
    rwa [List.drop_drop, List.drop_drop] at this
theorem HDelAt.at {p : Ho → Bool} {l d : List Ho} {i j : Nat} (h : HDelAt p l d i j) (hj : j < l.length) : d.getD j ho0 = l.getD j ho0 := by
  have h1 := hos_drop d j (by rw [h.len]; exact hj)
  rw [h.suf, hos_drop l j hj] at h1
  exact (List.cons.inj h1).1.symm

set_option maxHeartbeats 4000000 in
theorem hdelete_own (g0 : Nat) (u : Value) (p : Ho → Bool) (T : World → Prop) (n0 : Nat) (v : Value) (l : List Ho) (w : World) (hT : T w) (hp : HTells g0 u p l T) (hset : ∀ W g off x, v.ownBlock = some g → T W → T (W.setCell ⟨g, off, none⟩ x)) (hlen : l.length ≤ 1000) (hn0 : n0 ≤ w.heap.size) (h : HoRow w n0 v l) :
    Calls Try.prog 40 #[v, .func (.func g0) #[] #[u]] w fun e w' => ∃ v', e = .returned v' ∧ HoRow w' n0 v' (l.filter fun x => !p x) ∧ Below n0 w w' := by
  obtain ⟨a, cap, rfl, hsl⟩ := h.isHo
  have hI := hidx_any g0 u p T a cap l w hT hp (by omega) hsl
  have HSt : Hid (∀ W g off x, a = some ⟨g, 0, none⟩ → T W → T (W.setCell ⟨g, off, none⟩ x)) := fun W g off x e hW => hset W g off x (by rw [e]; rfl) hW
  have HTw : Hid (T w) := hT
  clear hset hT
  have Hlen : (l.length : Int) ≤ 1000 := by omega
  have Hh : Hid (HoRow _ _ _ _) := h
  rcases hidx_two p l 0 with ⟨e1, ha⟩ | ⟨k, hk, e1, hpk, ha⟩
  · rw [e1] at hI
    have ef : (l.filter fun x => !p x) = l := by
      rw [List.filter_eq_self]
      intro x hx
      rw [List.any_eq_false] at ha
      simpa using ha x hx
    rw [ef]
    clear h ef hp HSt HTw
    go_enter Try.func40, Try.ntmps40
    go_wp2_with fail
    refine hI.mono ?_
    rintro e w1 ⟨rfl, hb1⟩
    have HR : Hid (HoRow w1 _ _ _) := Hh.out.below hb1
    clear hI Hh
    go_wp2
    go_ret
    exact ⟨_, rfl, HR.out, hb1.mono hn0⟩
  · rw [e1] at hI
    rw [Nat.zero_add] at hI
    obtain ⟨g, hga⟩ : ∃ g, a = some ⟨g, 0, none⟩ := by
      rcases Hh.out.2 with ⟨_, h0⟩ | ⟨g, c1, cur, hv, _⟩
      · omega
      · cases hv; exact ⟨g, rfl⟩
    subst hga
    have hne1 : ((k : Int) == -1) = false := beq_eq_false_iff_ne.2 (by omega)
    have HD0 : Hid (HDelAt p l l k (k + 1)) := ⟨rfl, Nat.lt_succ_self _, hk, by
      rw [hos_take l k hk, List.filter_append]
      have : (l.take k).filter (fun x => !p x) = l.take k := by
        rw [List.filter_eq_self]
        intro x hx
        rw [List.any_eq_false] at ha
        simpa using ha x hx
      rw [this, hfil_out hpk, List.append_nil], rfl⟩
    have eg := hp.eg
    have Hp : Hid (HTells g0 u p l T) := hp
    have HSt2 : Hid (∀ W off x, T W → T (W.setCell ⟨g, off, none⟩ x)) := fun W off x hW => HSt.out W g off x rfl hW
    clear HSt
    have hki : (k : Int) < l.length := by omega
    clear h hsl e1 ha hpk hp
    go_enter Try.func40, Try.ntmps40
    go_wp2_with fail
    refine hI.mono ?_
    rintro e w1 ⟨rfl, hb1⟩
    have HR : Hid (HoRow w1 _ _ _) := Hh.out.below hb1
    have HB1 := hb1.mono hn0
    have HT1 : Hid (T w1) := Hp.out.below _ _ HTw.out hb1
    clear HTw
    have hs1 := hb1.size
    clear hI Hh hb1
    go_wp2
    go_loopw [5, 6] (fun s5 s6 wr => ∃ (i j : Nat) (d : List Ho), s5 = .int .i64 i ∧ s6 = .int .i64 j ∧ Hid (HDelAt p l d i j) ∧ Hid (HoRow wr n0 (.slice (some ⟨g, 0, none⟩) l.length cap) d) ∧ Below n0 w wr ∧ j ≤ l.length ∧ Hid (T wr)) (fun _ s6 _ => l.length - (RowKit.intOf s6).toNat)
    case atStart => exact ⟨k, k + 1, l, rfl, by go_num, HD0, HR.out, HB1, by omega, HT1⟩
    case round =>
      obtain ⟨i, j, d, rfl, rfl, HD, R, BW, hjl, HTr⟩ := hrel
      clear HT1
      have hij := HD.out.lt
      have hdl := HD.out.len
      by_cases hlt : j < l.length
      · have hj1 : (j : Int) < l.length := by omega
        have hi1 : (i : Int) < l.length := by omega
        have hi0 : (0 : Int) ≤ i := by omega
        have hj0 : (0 : Int) ≤ j := by omega
        have hat := HD.out.at hlt
        have hR2 := R.out
        rw [← hdl] at hR2
        have hn : HoAt wr g (j * 3) (d.getD j ho0) := by
          obtain ⟨a', cq', hv, hsl'⟩ := hR2.isHo
          cases hv
          rcases hsl'.lies with h | ⟨b', off', e, _, hc'⟩
          · rw [h] at hdl; simp at hdl; omega
          · cases e
            have := hc' j (by omega)
            rwa [Nat.zero_add] at this
        rw [hat] at hn
        have hws := BW.size
        have hn0w : n0 ≤ wr.heap.size := Nat.le_trans hn0 hws
        have B2 := BW.alloc hn0w (.cells (l.getD j ho0).cells 31)
        have R1 : HoRow (wr.alloc (.cells (l.getD j ho0).cells 31)) n0 (.slice (some ⟨g, 0, none⟩) l.length cap) d := World.ownsRow.alloc R.out _
        have hx := HoAt.new wr (l.getD j ho0) 31
        have HTa : Hid (T (wr.alloc (.cells (l.getD j ho0).cells 31))) := Hp.out.below _ _ HTr.out ((Below.refl _ wr).alloc (Nat.le_refl _) _)
        have hcall := Hp.out.call (l.getD j ho0) (wr.alloc (.cells (l.getD j ho0).cells 31)) (hos_mem l j hlt) HTa.out
        have HS : Hid (p (l.getD j ho0) = true → HDelAt p l d i (j + 1)) := HD.out.skip hlt
        have HK : Hid (p (l.getD j ho0) = false → HDelAt p l (d.set i (l.getD j ho0)) (i + 1) (j + 1)) := HD.out.keep hlt
        have hsz : (wr.alloc (.cells (l.getD j ho0).cells 31)).heap.size = wr.heap.size + 1 := by simp
        have hgb := (R.out.own) g rfl
        have hgw := (World.ownsRow.lt R.out g rfl).2
        clear hR2 R hat HD
        generalize l.getD j ho0 = x at *
        have HR1 : Hid (HoRow _ _ _ _) := R1
        have Hx : Hid (HoAt _ _ _ _) := hx
        have Hcall : Hid (Calls _ _ _ _ _) := hcall
        clear R1 hx hcall
        cases hq : p x
        · have HK2 : Hid (HDelAt _ _ _ _ _) := HK.out hq
          rw [hq] at Hcall
          clear HK HS hq
          obtain ⟨x0, x1, x2⟩ := x
          obtain ⟨c0, c1, c2⟩ := hn
          simp only [Ho.cells] at c0 c1 c2 B2 HR1 Hx Hcall hsz HTa
          go_wp2_with fail
          refine Hcall.out.mono ?_
          rintro e w2 ⟨rfl, hb2⟩
          have R2 := HoRow.below HR1.out hb2
          have HT2 : Hid (T w2) := Hp.out.below _ _ HTa.out hb2
          have HT3 : Hid (T _) := HSt2.out _ (i * 3 + 2) (.int .i64 x2) (HSt2.out _ (i * 3 + 1) (.int .i64 x1) (HSt2.out _ (i * 3) (.int .i64 x0) HT2.out))
          have B3 := B2.trans (hb2.mono (by simp; omega))
          rw [hsz] at hb2
          obtain ⟨d0, d1, d2⟩ := Hx.out.below hb2 (Nat.lt_succ_self _)
          simp only [Nat.zero_add] at d0 d1 d2
          have hs2 := hb2.size
          rw [hsz] at hs2
          rw [← hdl] at R2
          obtain ⟨R3, hfz⟩ := HoRow.setHo R2 i (by omega) ⟨x0, x1, x2⟩
          rw [hdl] at R3
          have c3 : ∀ o, o < 3 → ∃ v, w2.cell? ⟨g, i * 3 + o, none⟩ = some v := fun o ho => by
            obtain ⟨a', cq', hv, hsl'⟩ := R2.isHo
            cases hv
            rcases hsl'.lies with h | ⟨b', off', e, _, hc'⟩
            · rw [h] at hdl; simp at hdl; omega
            · cases e
              have := hc' i (by omega)
              rw [Nat.zero_add] at this
              rcases (by omega : o = 0 ∨ o = 1 ∨ o = 2) with rfl | rfl | rfl
              · exact ⟨_, this.c0⟩
              · exact ⟨_, this.c1⟩
              · exact ⟨_, this.c2⟩
          obtain ⟨v0, q0⟩ := c3 0 (by omega)
          obtain ⟨v1, q1⟩ := c3 1 (by omega)
          obtain ⟨v2, q2⟩ := c3 2 (by omega)
          rw [Nat.add_zero] at q0
          have f0 := hfz (i * 3)
          have f1 := hfz (i * 3 + 1)
          have f2 := hfz (i * 3 + 2)
          have HR3 : Hid (HoRow _ n0 (.slice (some ⟨g, 0, none⟩) l.length cap) (d.set i ⟨x0, x1, x2⟩)) := R3
          have B4 := ((B3.setCell (p := ⟨g, i * 3, none⟩) hgb (.int .i64 x0)).setCell (p := ⟨g, i * 3 + 1, none⟩) hgb (.int .i64 x1)).setCell (p := ⟨g, i * 3 + 2, none⟩) hgb (.int .i64 x2)
          clear R3 R2 hfz c3 HR1 B2 Hx Hcall c0 c1 c2 hb2
          go_wp2
          go_roundw
          case rel => exact ⟨i + 1, j + 1, _, by go_num, by go_num, HK2, HR3.out, B4, by omega, HT3⟩
          case measure => simp [RowKit.intOf]; omega
        · have HS2 : Hid (HDelAt _ _ _ _ _) := HS.out hq
          rw [hq] at Hcall
          clear HK HS hq
          obtain ⟨x0, x1, x2⟩ := x
          obtain ⟨c0, c1, c2⟩ := hn
          simp only [Ho.cells] at c0 c1 c2 B2 HR1 Hcall HTa
          go_wp2_with fail
          refine Hcall.out.mono ?_
          rintro e w2 ⟨rfl, hb2⟩
          have HR2 : Hid (HoRow w2 _ _ _) := HoRow.below HR1.out hb2
          have HT2 : Hid (T w2) := Hp.out.below _ _ HTa.out hb2
          have B3 := B2.trans (hb2.mono (by simp; omega))
          clear HR1 B2 Hcall hb2 c0 c1 c2
          go_wp2
          go_roundw
          case rel => exact ⟨i, j + 1, d, rfl, by go_num, HS2, HR2.out, B3, by omega, HT2⟩
          case measure => simp [RowKit.intOf]; omega
      · have hj : j = l.length := by omega
        subst hj
        have hpre := HD.out.pre
        rw [List.take_length] at hpre
        have hi1 : (i : Int) < l.length := by omega
        have hi0 : (0 : Int) ≤ i := by omega
        have hgb := (R.out.own) g rfl
        have hgw := (World.ownsRow.lt R.out g rfl).2
        have hR2 := R.out
        rw [← hdl] at hR2
        rcases hR2.2 with ⟨hv, _⟩ | ⟨g1, c1, cur, hv, hb, hg, hc, hm, hs, ht⟩
        · cases hv
        cases hv
        obtain ⟨Z, hZl, hcl⟩ := run_clearh wr 0 g (i * 3) (l.length - i) (cap - i) cur 31 hg (by omega) (by rw [hs]; omega)
        obtain ⟨A, hA⟩ : ∃ A : Array Value, A = (cur.toList.take (i * 3) ++ Z ++ cur.toList.drop (i * 3 + Z.length)).toArray := ⟨_, rfl⟩
        rw [← hA] at hcl
        have hlc : cur.toList.length = cap * 3 := by simpa using hs
        have hti : (d.take i).length = i := by rw [List.length_take]; omega
        have hAl : A.toList.length = cap * 3 := by
          rw [hA, List.toList_toArray, List.length_append, List.length_append, List.length_take, List.length_drop, hlc, hZl]; omega
        have e0 : cur.toList.take (i * 3) = hoRow (d.take i) := by
          rw [hoRow_take, ← ht, List.take_take, Nat.min_eq_left (by omega)]
        have hfin : HoRow (wr.setRow g A) n0 (.slice (some ⟨g, 0, none⟩) i cap) (l.filter fun x => !p x) := by
          rw [← hpre]
          refine ⟨by rw [hoRow_length], .inr ⟨g, cap, A, by rw [hti], hb, setRow_heap wr g cur A 31 (0, 0) hg, by rw [hti]; omega, hm, by simpa using hAl, ?_⟩⟩
          rw [hA, List.toList_toArray, e0, List.append_assoc]
          exact List.take_left' (by rw [hoRow_length])
        have HF : Hid (HoRow _ _ _ _) := hfin
        have B4 : Below n0 w (wr.setRow g A) := by
          refine BW.trans ⟨rfl, rfl, rfl, by rw [setRow_size]; exact Nat.le_refl _, fun k hk => setRow_other _ _ _ _ (by omega)⟩
        have hci : ¬ cap = i := by omega
        have hc2 : (i : Int) ≤ cap := by omega
        have hlc2 : (l.length : Int) ≤ cap := by omega
        clear hfin hA hlc hti hAl e0 hpre hR2 hg hs ht hZl
        go_wp2
        go_ret
        exact ⟨_, rfl, HF.out, B4⟩
end Go.Proofs.Ythaidbicimiljaa

namespace Go.Proofs.Ythaidbicimiljaa
set_option linter.unusedVariables false
set_option linter.unusedSimpArgs false
set_option maxRecDepth 100000
open Go.RowKit Go.Lib

/-- Is a holding of an entity of which nobody has a part? -/
def outB (f : Nat → Int) (x : Ho) : Bool := decide (f x.en.toNat = 0)
/-- What stays where such are left out. -/
def prn (l : List Ho) : List Ho := l.filter fun x => !(outB (hadL l) x)
def prN : Nat → List Ho → List Ho
  | 0, l => l
  | n + 1, l => prn (prN n l)
theorem prn_sub (l : List Ho) : (prn l).Sublist l := List.filter_sublist
theorem prN_sub : ∀ (n : Nat) (l : List Ho), (prN n l).Sublist l
  | 0, l => List.Sublist.refl l
  | n + 1, l => (prn_sub _).trans (prN_sub n l)

theorem a13_new (w : World) (f : Nat → Int) : A13 (w.alloc (.cells (a13 f) 57)) w.heap.size f := A13.new w f

theorem out_tells (f : Nat → Int) (b : Nat) (l : List Ho) (hl : ∀ x ∈ l, 1 ≤ x.en ∧ x.en ≤ 12) (hf : ∀ n, -1000000 ≤ f n ∧ f n ≤ 1000000) : HTells 41 (.pointer (some ⟨b, 0, none⟩)) (outB f) l (fun W => A13 W b f) := by
  refine ⟨fun args W => rfl, fun y W hy hT => ?_, fun W W' hT hb => hT.below hb hT.lt⟩
  have hlt := hT.lt
  have hen := hl y hy
  have hb := (Below.refl W.heap.size W).alloc (Nat.le_refl _) (.cells y.cells 31)
  have HT2 : A13 (W.alloc (.cells y.cells 31)) b f := hT.below hb hlt
  obtain ⟨y0, y1, y2⟩ := y
  simp only at hen
  obtain ⟨m, rfl⟩ : ∃ m : Nat, y0 = m := ⟨y0.toNat, by omega⟩
  have hc := HT2.cell m (by omega)
  have hm0 : (0 : Int) ≤ m := by omega
  have hm1 : (m : Int) < 13 := by omega
  have hfm := hf m
  unfold outB
  simp only [Ho.cells, Int.toNat_natCast] at hc hb ⊢
  clear HT2 hT hlt hf hl hy
  by_cases e : f m = 0
  · have e1 : decide (f m = 0) = true := by simp [e]
    simp only [e1]
    rw [e] at hc
    clear hfm
    go_enter Try.func41, Try.ntmps41
    go_wp2
    go_ret
    exact ⟨rfl, hb⟩
  · have e1 : decide (f m = 0) = false := by simp [e]
    simp only [e1]
    clear e1
    generalize f m = z at *
    have e2 : (z == 0) = false := beq_eq_false_iff_ne.2 e
    go_enter Try.func41, Try.ntmps41
    go_wp2
    go_ret
    exact ⟨by simp [e2], hb⟩

theorem ho_src {w : World} {a : Option Addr} {l : List Ho} {cap : Nat} (h : IsHo w a l cap) : l.length ≠ 0 → ∃ x : Addr, a = some x ∧ x.block < w.heap.size ∧ ∀ j u, (hoRow l)[j]? = some u → w.cell? (x.add j) = some u := by
  intro hne
  rcases h.lies with rfl | ⟨b, off, rfl, hlt, hc⟩
  · exact absurd rfl hne
  · refine ⟨_, rfl, hlt, fun j u hu => ?_⟩
    have hj : j < l.length * 3 := by
      rw [← hoRow_length]
      exact (List.getElem?_eq_some_iff.1 hu).1
    obtain ⟨q, r, hr, rfl⟩ : ∃ q r, r < 3 ∧ j = q * 3 + r := ⟨j / 3, j % 3, Nat.mod_lt _ (by omega), by omega⟩
    rw [hoRow_get l q r (by omega) hr] at hu
    have hq := hc q (by omega)
    have ea : (⟨b, off, none⟩ : Addr).add (q * 3 + r) = ⟨b, off + (q * 3 + r), none⟩ := by simp [Addr.add]
    rw [ea]
    rcases (by omega : r = 0 ∨ r = 1 ∨ r = 2) with rfl | rfl | rfl
    · rw [← hu, ← Nat.add_assoc]; exact hq.c0
    · rw [← hu, ← Nat.add_assoc]; exact hq.c1
    · rw [← hu, ← Nat.add_assoc]; exact hq.c2

set_option maxHeartbeats 4000000 in
theorem circle_any (a : Option Addr) (cap : Nat) (l : List Ho) (w : World) (hok : HoOk l) (h : IsHo w a l cap) :
    Calls Try.prog 22 #[.slice a l.length cap] w fun e w' => e = .returned (.bool (decide (0 < (prN l.length l).length))) ∧ Below w.heap.size w w' := by
  have HC : Hid (Calls Try.prog 39 #[.slice a l.length cap] w fun e w' => ∃ a' c', e = .returned (.slice a' l.length c') ∧ HoRow w' w.heap.size (.slice a' l.length c') l ∧ Below w.heap.size w w') :=
    clone_Ho a l.length cap (hoRow l) w (hoRow_length l) (hoRow_one_cell l) (ho_src h) (by have := hok.len; omega)
  have Hok : Hid (HoOk l) := hok
  have hlen : (l.length : Int) ≤ 20 := by have := hok.len; omega
  clear h hok
  obtain ⟨z, hz⟩ : ∃ z, (prN l.length l).length = z := ⟨_, rfl⟩
  have HZ : Hid ((prN l.length l).length = z) := hz
  have hl2 : (z : Int) ≤ 20 := by have := (prN_sub l.length l).length_le; omega
  rw [hz]
  clear hz
  go_enter Try.func22, Try.ntmps22
  go_wp2_with fail
  refine HC.out.mono ?_
  rintro e w1 ⟨a1, c1, rfl, hr1, hb1⟩
  have HR1 : Hid (HoRow w1 w.heap.size (.slice a1 l.length c1) l) := hr1
  have HB1 : Hid (Below w.heap.size w w1) := hb1
  clear hr1 hb1 HC
  go_wp2
  go_loopw [3, 9] (fun v i wr => ∃ (k : Nat) (a' : Option Addr) (c' n' : Nat), k ≤ l.length ∧ i = .int .i64 k ∧ v = .slice a' n' c' ∧ Hid (n' = (prN k l).length ∧ HoRow wr w.heap.size (.slice a' n' c') (prN k l)) ∧ Hid (Below w.heap.size w wr)) (fun _ i _ => l.length - (RowKit.intOf i).toNat)
  case atStart => exact ⟨0, a1, c1, l.length, Nat.zero_le _, rfl, rfl, ⟨rfl, HR1.out⟩, HB1⟩
  case round =>
    obtain ⟨k, a2, c2, n2, hk, rfl, rfl, HR, HB⟩ := hrel
    clear HR1 HB1
    by_cases hlt : k < l.length
    · have hsub := prN_sub k l
      have Hk : Hid (HoOk (prN k l)) := Hok.out.sub hsub
      obtain ⟨m, hm⟩ : ∃ m, prN k l = m := ⟨_, rfl⟩
      have HN : Hid (prN (k + 1) l = prn m) := by show prn (prN k l) = _; rw [hm]
      rw [hm] at HR Hk
      obtain ⟨rfl, hrow⟩ := HR.out
      have hk20 := Hk.out.len
      have hki : (k : Int) < l.length := by omega
      have hk0 : (0 : Int) ≤ k := by omega
      obtain ⟨a', c', e', his⟩ := hrow.isHo
      cases e'
      have HH : Hid (Calls Try.prog 21 #[.slice a2 m.length c2] wr fun e w' => e = .returned (.agg (a13 (hadL m))) ∧ Below wr.heap.size wr w') := had_any a2 c2 m wr Hk.out his
      have HRw : Hid (HoRow wr w.heap.size (.slice a2 m.length c2) m) := hrow
      have HD : Hid (∀ W2, Below wr.heap.size wr W2 → Calls Try.prog 40 #[.slice a2 m.length c2, .func (.func 41) #[] #[.pointer (some ⟨W2.heap.size, 0, none⟩)]] (W2.alloc (.cells (a13 (hadL m)) 57)) fun e w' => ∃ v', e = .returned v' ∧ HoRow w' w.heap.size v' (prn m) ∧ Below w.heap.size (W2.alloc (.cells (a13 (hadL m)) 57)) w') := fun W2 hW2 => by
        have hr2 : HoRow W2 w.heap.size (.slice a2 m.length c2) m := hrow.below hW2
        have hb2 := (Below.refl W2.heap.size W2).alloc (Nat.le_refl _) (.cells (a13 (hadL m)) 57)
        have hlt2 : ∀ g, (Value.slice a2 m.length c2).ownBlock = some g → g < W2.heap.size := fun g hg => (World.ownsRow.lt hr2 g hg).2
        refine hdelete_own _ _ (outB (hadL m)) (fun W => A13 W W2.heap.size (hadL m)) w.heap.size _ m _ (a13_new W2 _) (out_tells _ _ m Hk.out.en (fun n => by have := Hk.out.had n; omega)) ?_ (by omega) ?_ (hr2.below hb2)
        · intro W g off x hg hA
          have := hlt2 g hg
          unfold A13 at hA ⊢
          rw [Below.heap_setCell]
          · exact hA
          · show W2.heap.size ≠ g
            omega
        · have := hb2.size
          have h3 := hW2.size
          have h4 := HB.out.size
          omega
      have HTr : Hid (∀ W2, Below wr.heap.size wr W2 → Below w.heap.size w (W2.alloc (.cells (a13 (hadL m)) 57))) := fun W2 hW2 => by
        have h2 := HB.out.trans (hW2.mono HB.out.size)
        exact h2.alloc h2.size _
      unfold a13 at HH HD HTr
      generalize hadL m = f at *
      clear HR HRw his hrow HB hsub hm
      go_wp2_with fail
      refine HH.out.mono ?_
      rintro e w3 ⟨rfl, hb3⟩
      have HD3 : Hid (Calls _ _ _ _ _) := HD.out w3 hb3
      have HT3 : Hid _ := HTr.out w3 hb3
      clear HH HD HTr hb3
      go_wp2_with fail
      refine HD3.out.mono ?_
      rintro e w4 ⟨v', rfl, hr4, hb4⟩
      obtain ⟨a4, c4, rfl, _⟩ := hr4.isHo
      have HR4 : Hid ((prn m).length = (prN (k + 1) l).length ∧ HoRow w4 w.heap.size (.slice a4 (prn m).length c4) (prN (k + 1) l)) := by
        rw [HN.out]; exact ⟨rfl, hr4⟩
      have HB4 : Hid (Below w.heap.size w w4) := HT3.out.trans hb4
      clear HD3 HT3 hr4 hb4 HN
      go_wp2
      go_roundw
      case rel => exact ⟨k + 1, a4, c4, _, by omega, by go_num, rfl, HR4, HB4⟩
      case measure => simp [RowKit.intOf]; omega
    · have hk2 : k = l.length := by omega
      subst hk2
      obtain ⟨rfl, hrow⟩ := HR.out
      have HB2 : Hid (Below w.heap.size w wr) := HB
      rw [HZ.out]
      clear HR HB hrow HZ
      go_wp2
      go_ret
      exact ⟨rfl, HB2.out⟩
end Go.Proofs.Ythaidbicimiljaa

namespace Go.Proofs.Ythaidbicimiljaa
set_option linter.unusedVariables false
set_option linter.unusedSimpArgs false
set_option maxRecDepth 100000
open Go.RowKit Go.Lib

def nxGo : List Ho → List Ho → Int
  | _, [] => 0
  | a, x :: l => if nxBad a x ≠ 0 then nxBad a x else nxGo (a ++ [x]) l
def hadOver (l : List Ho) : Bool := (List.range 13).any fun n => decide (1000 < hadL l n)
/-- What is wrong with holdings that are right one by one. -/
def hBad2 (l : List Ho) : Int := if hadOver l = true then 11 else if 0 < (prN l.length l).length then 5 else 0
/-- What is wrong with holdings. -/
def hBad (l : List Ho) : Int := if 20 < l.length then 4 else if nxGo [] l ≠ 0 then nxGo [] l else hBad2 l
theorem nxGo_all : ∀ (l a : List Ho), nxGo a l = 0 → ∀ k, k < l.length → nxBad (a ++ l.take k) (l.getD k ho0) = 0
  | [], _, _, k, hk => absurd hk (by simp)
  | x :: l, a, h, k, hk => by
    rw [nxGo] at h
    by_cases hx : nxBad a x ≠ 0
    · rw [if_pos hx] at h; exact absurd h hx
    · rw [if_neg hx] at h
      cases k with
      | zero => simpa using Decidable.of_not_not hx
      | succ k =>
        have := nxGo_all l (a ++ [x]) h k (by simpa using hk)
        simpa using this
theorem nxGo_ok {l : List Ho} (h20 : l.length ≤ 20) (h : nxGo [] l = 0) : HoOk l := by
  have A : ∀ x ∈ l, ∃ m, nxBad m x = 0 := fun x hx => by
    obtain ⟨k, hk, rfl⟩ := List.getElem_of_mem hx
    have := nxGo_all l [] h k hk
    rw [List.getD_eq_getElem?_getD, List.getElem?_eq_getElem hk] at this
    exact ⟨_, this⟩
  exact ⟨h20, fun x hx => (nxBad_ok.1 (A x hx).choose_spec).1, fun x hx => (nxBad_ok.1 (A x hx).choose_spec).2.1, fun x hx => (nxBad_ok.1 (A x hx).choose_spec).2.2.1⟩
theorem idx13 (f : Nat → Int) (n : Nat) (hn : n < 13) (W : World) : (Instr.index 57 (.agg (a13 f)) (.int .i64 n)).run Try.prog W = .ok (.int .i64 (f n)) W := by
  rcases (by omega : n = 0 ∨ n = 1 ∨ n = 2 ∨ n = 3 ∨ n = 4 ∨ n = 5 ∨ n = 6 ∨ n = 7 ∨ n = 8 ∨ n = 9 ∨ n = 10 ∨ n = 11 ∨ n = 12) with rfl | rfl | rfl | rfl | rfl | rfl | rfl | rfl | rfl | rfl | rfl | rfl | rfl <;> kernel_rfl
theorem over_false {l : List Ho} {n : Nat} (h : ∀ m, m < n → hadL l m ≤ 1000) (hn : n = 13) : hadOver l = false := by
  subst hn
  unfold hadOver
  rw [List.any_eq_false]
  intro m hm
  have := h m (List.mem_range.1 hm)
  simpa using this
theorem over_true {l : List Ho} {n : Nat} (h : 1000 < hadL l n) (hn : n < 13) : hadOver l = true := by
  unfold hadOver
  rw [List.any_eq_true]
  exact ⟨n, List.mem_range.2 hn, by simpa using h⟩
theorem IsHo.take {w : World} {a : Option Addr} {l : List Ho} {cap : Nat} (h : IsHo w a l cap) (k : Nat) : IsHo w a (l.take k) cap := by
  refine ⟨by have := h.cap; rw [List.length_take]; omega, ?_⟩
  rcases h.lies with rfl | ⟨b, off, rfl, hlt, hc⟩
  · exact .inl (by simp)
  · refine .inr ⟨b, off, rfl, hlt, fun j hj => ?_⟩
    rw [List.length_take] at hj
    have := hc j (by omega)
    rwa [List.getD_eq_getElem?_getD, List.getElem?_take, if_pos (by omega), ← List.getD_eq_getElem?_getD]

set_option maxHeartbeats 8000000 in
theorem grCheck_any (a : Option Addr) (cap : Nat) (l : List Ho) (w : World) (hll : l.length ≤ 9223372036854775807) (h : IsHo w a l cap) :
    Calls Try.prog 8 #[.slice a l.length cap] w fun e w' => e = .returned (grE (hBad l)) ∧ Below w.heap.size w w' := by
  by_cases h20 : 20 < l.length
  · have e1 : grE (hBad l) = .iface 41 (.int .i64 4) := by unfold hBad; rw [if_pos h20]; rfl
    have i1 : (20 : Int) < l.length := by omega
    rw [e1]
    clear h e1
    go_enter Try.func8, Try.ntmps8
    go_wp2
    go_ret
    exact ⟨rfl, Below.refl _ _⟩
  have HRes : Hid (hBad l = if nxGo [] l ≠ 0 then nxGo [] l else hBad2 l) := if_neg h20
  obtain ⟨res, hres⟩ : ∃ res, hBad l = res := ⟨_, rfl⟩
  rw [hres] at HRes ⊢
  have i1 : ¬ (20 : Int) < l.length := by omega
  have i2 : (l.length : Int) ≤ 20 := by omega
  have Hs : Hid (IsHo w a l cap) := h
  clear hres h
  go_enter Try.func8, Try.ntmps8
  go_wp2
  go_loopw [14] (fun i wr => ∃ k : Nat, k ≤ l.length ∧ i = .int .i64 k ∧ Hid (nxGo (l.take k) (l.drop k) = nxGo [] l) ∧ Below w.heap.size w wr) (fun i _ => l.length - (RowKit.intOf i).toNat)
  case atStart => exact ⟨0, Nat.zero_le _, rfl, by unfold Hid; simp, Below.refl _ _⟩
  case round =>
    obtain ⟨k, hk, rfl, H, BW⟩ := hrel
    by_cases hlt : k < l.length
    · obtain ⟨b, off, rfl, hb, hc⟩ := Hs.out.some hlt
      have hn := (hc k hlt).below BW hb
      have E : Hid ((if nxBad (l.take k) (l.getD k ho0) ≠ 0 then nxBad (l.take k) (l.getD k ho0) else nxGo (l.take (k + 1)) (l.drop (k + 1))) = nxGo [] l) := by
        have := H.out
        rw [hos_drop l k hlt] at this
        rw [hos_take l k hlt]
        exact this
      have hcall : ∀ W, Below w.heap.size w W → Calls Try.prog 20 #[.slice (some ⟨b, off, none⟩) k cap, .agg (l.getD k ho0).cells] W fun e w' => e = .returned (grE (nxBad (l.take k) (l.getD k ho0))) ∧ Below w.heap.size w w' := fun W hW => by
        have := grNext_any (some ⟨b, off, none⟩) cap (l.take k) (l.getD k ho0) W (by simp; omega) ((Hs.out.below hW).take k)
        rw [show (l.take k).length = k by simp; omega] at this
        refine this.mono ?_
        rintro e w' ⟨rfl, hb'⟩
        exact ⟨rfl, hW.trans (hb'.mono hW.size)⟩
      have hcap : (l.length : Int) ≤ cap := by have := Hs.out.cap; omega
      clear H hc
      obtain ⟨bad, hbad⟩ : ∃ bad, nxBad (l.take k) (l.getD k ho0) = bad := ⟨_, rfl⟩
      rw [hbad] at hcall E
      clear hbad
      generalize l.getD k ho0 = x at *
      obtain ⟨x0, x1, x2⟩ := x
      obtain ⟨c0, c1, c2⟩ := hn
      simp only [Ho.cells] at c0 c1 c2 hcall
      have Hcall : Hid (∀ W, _) := hcall
      clear hcall
      have i0 : (0 : Int) ≤ k := by omega
      have i3 : (k : Int) < l.length := by omega
      have i4 : (k : Int) ≤ cap := by omega
      have B2 := BW.alloc BW.size (.cells #[.int .i64 x0, .int .i64 x1, .int .i64 x2] 31)
      by_cases hb0 : bad = 0
      · subst hb0
        have HN : Hid (nxGo (l.take (k + 1)) (l.drop (k + 1)) = nxGo [] l) := by
          have := E.out; rw [if_neg (by simp)] at this; exact this
        rw [grE_zero] at Hcall
        clear E HRes Hs
        go_wp2_with fail
        go_region_with (go_at_call 20; refine (Hcall.out _ B2.drew).mono ?_; rintro e w' ⟨rfl, hb'⟩)
        all_goals
          go_wp2
          go_roundw
          case rel => exact ⟨k + 1, by omega, by go_num, HN, hb'⟩
          case measure => simp [RowKit.intOf]; omega
      · have er : res = bad := by
          have h1 := E.out
          rw [if_pos hb0] at h1
          rw [HRes.out, ← h1, if_pos hb0]
        subst er
        have hE := grE_ne hb0
        rw [hE] at Hcall
        have HE : Hid (grE res = _) := hE
        clear hE E HRes Hs
        go_wp2_with fail
        go_region_with (go_at_call 20; refine (Hcall.out _ B2.drew).mono ?_; rintro e w' ⟨rfl, hb'⟩)
        all_goals
          go_wp2
          go_ret
          exact ⟨by rw [HE.out]; rfl, hb'⟩
    · have hk2 : k = l.length := by omega
      subst hk2
      have e0 : nxGo [] l = 0 := by rw [← H.out, List.drop_length]; rfl
      have hok := nxGo_ok (by omega) e0
      have HR2 : Hid (hBad2 l = res) := by unfold Hid; rw [HRes.out, if_neg (by simp [e0])]
      have HBW : Hid (Below w.heap.size w wr) := BW
      have HH : Hid (Calls Try.prog 21 #[.slice a l.length cap] wr fun e w' => e = .returned (.agg (a13 (hadL l))) ∧ Below wr.heap.size wr w') := had_any a cap l wr hok (Hs.out.below BW)
      have HCi : Hid (∀ W, Below w.heap.size w W → Calls Try.prog 22 #[.slice a l.length cap] W fun e w' => e = .returned (.bool (decide (0 < (prN l.length l).length))) ∧ Below W.heap.size W w') := fun W hW => circle_any a cap l W hok (Hs.out.below hW)
      have Hbd : Hid (∀ n, 0 ≤ hadL l n ∧ hadL l n ≤ 20000) := hok.had
      have HIx : Hid (∀ (n : Nat), n < 13 → ∀ W, (Instr.index 57 (.agg (a13 (hadL l))) (.int .i64 n)).run Try.prog W = .ok (.int .i64 (hadL l n)) W) := fun n hn W => idx13 _ n hn W
      have HOv : Hid (∀ n, n < 13 → 1000 < hadL l n → hBad2 l = 11) := fun n hn h => by unfold hBad2; rw [over_true h hn]; rfl
      have HNo : Hid ((∀ m, m < 13 → hadL l m ≤ 1000) → hBad2 l = if 0 < (prN l.length l).length then 5 else 0) := fun h => by unfold hBad2; rw [over_false h rfl]; rfl
      clear HRes H e0 hok BW Hs
      unfold a13 at HH HIx
      generalize hadL l = f at *
      generalize hBad2 l = r2 at *
      generalize (prN l.length l).length = pz at *
      have er : res = r2 := HR2.out.symm
      subst er
      clear HR2
      go_wp2_with fail
      refine HH.out.mono ?_
      rintro e w3 ⟨rfl, hb3⟩
      have HB3 : Hid (Below w.heap.size w w3) := HBW.out.trans (hb3.mono HBW.out.size)
      clear HH hb3 HBW
      go_wp2
      go_loopw [30] (fun i wq => ∃ n : Nat, n ≤ 13 ∧ i = .int .i64 n ∧ Hid (∀ m, m < n → f m ≤ 1000) ∧ wq = w3) (fun i _ => 13 - (RowKit.intOf i).toNat)
      case atStart => exact ⟨0, Nat.zero_le _, rfl, (fun m hm => absurd hm (Nat.not_lt_zero m)), rfl⟩
      case round =>
        obtain ⟨n, hn, rfl, HF, rfl⟩ := hrel
        have n0 : (0 : Int) ≤ n := by omega
        by_cases hlt13 : n < 13
        · have n1 : (n : Int) < 13 := by omega
          have hix := HIx.out n hlt13
          have hbd := Hbd.out n
          by_cases ho : 1000 < f n
          · have er : res = 11 := HOv.out n hlt13 ho
            subst er
            clear HOv HNo HF HIx Hbd
            generalize f n = z at *
            go_wp2
            go_ret
            exact ⟨rfl, HB3.out⟩
          · have HF2 : Hid (∀ m, m < n + 1 → f m ≤ 1000) := fun m hm => by
              by_cases e : m = n
              · subst e; omega
              · exact HF.out m (by omega)
            clear HF HIx HOv HNo Hbd
            generalize f n = z at *
            go_wp2
            go_roundw
            case rel => exact ⟨n + 1, by omega, by go_num, HF2, by first | rfl | trivial⟩
            case measure => simp [RowKit.intOf]; omega
        · have e13 : n = 13 := by omega
          subst e13
          have er : res = if 0 < pz then 5 else 0 := HNo.out HF.out
          have HCi2 : Hid (Calls _ _ _ _ _) := HCi.out _ HB3.out
          clear HNo HOv HF HIx Hbd HCi
          by_cases hz : 0 < pz
          · rw [if_pos hz] at er
            subst er
            have ez : decide (0 < pz) = true := by simpa using hz
            rw [ez] at HCi2
            go_wp2_with fail
            refine HCi2.out.mono ?_
            rintro e w5 ⟨rfl, hb5⟩
            have HB5 : Hid (Below w.heap.size w w5) := HB3.out.trans (hb5.mono HB3.out.size)
            clear HCi2 hb5
            go_wp2
            go_ret
            exact ⟨rfl, HB5.out⟩
          · rw [if_neg hz] at er
            subst er
            have ez : decide (0 < pz) = false := by simpa using hz
            rw [ez] at HCi2
            go_wp2_with fail
            refine HCi2.out.mono ?_
            rintro e w5 ⟨rfl, hb5⟩
            have HB5 : Hid (Below w.heap.size w w5) := HB3.out.trans (hb5.mono HB3.out.size)
            clear HCi2 hb5
            go_wp2
            go_ret
            exact ⟨rfl, HB5.out⟩
end Go.Proofs.Ythaidbicimiljaa
