/-
  slices.Clone, slices.IndexFunc and slices.ContainsFunc over holdings.
-/
import Derived.Test.YtmpjaogomabfiaaDoorGr2
import Derived.Laws.CopyRow
import Derived.Laws.Tables
import Derived.Laws.Externs
import Derived.Lib.SliceRun
import Derived.Deep.RegionLaw
import Derived.OwnWalk
import Derived.Shelf.Abstract
import Derived.RangeFuncRecord
namespace Go.Proofs.YtmpjaogomabfiaaDoor
set_option linter.unusedVariables false
set_option linter.unusedSimpArgs false
set_option maxRecDepth 100000
open Go.RowKit Go.Lib

theorem cinfo_Ho : (Tryd.prog.info? 38).map (fun i => (i.zero, i.size, i.bytes)) = some (some (.agg #[.int .i64 0, .int .i64 0, .int .i64 0]), 3, 24) := by kernel_rfl
theorem clone_Ho (a : Option Addr) (n cap : Nat) (row : List Value) (w : World) (hlen : row.length = n * 3) (hone : ∀ u ∈ row, u.oneCell' = true) (hsrc : n ≠ 0 → ∃ x : Addr, a = some x ∧ x.block < w.heap.size ∧ ∀ j u, row[j]? = some u → w.cell? (x.add j) = some u) (hn : n ≤ 1000) :
    Calls Tryd.prog 21 #[.slice a n cap] w fun e w' => ∃ a' c', e = .returned (.slice a' n c') ∧ w'.ownsRow w.heap.size 38 3 (.slice a' n c') n row ∧ Below w.heap.size w w' := by
  have q35 : ∀ (w : World) (a : Option Addr) (n c n' c' : Nat), (binOp .eql 22 (.slice a n c) (.slice none n' c')).run Tryd.prog w = .ok (.bool a.isNone) w := fun w a n c n' c' => Lib.run_eql_slice_nil w _ _ a n c n' c' Tryd.underlying22
  cases a with
  | none =>
    have h0 : n = 0 := by
      by_cases h : n = 0
      · exact h
      · obtain ⟨x, hx, _⟩ := hsrc h
        cases hx
    subst h0
    have hr : row = [] := List.eq_nil_of_length_eq_zero (by rw [hlen])
    subst hr
    clear hsrc hlen hone
    go_enter Tryd.func21, Tryd.ntmps21
    go_wp2
    go_ret
    exact ⟨_, _, rfl, World.ownsRow_nil _ _ _ _, Below.refl _ _⟩
  | some x =>
    have B1 : Below w.heap.size w (w.alloc (.cells #[] 38)) := (Below.refl _ w).alloc (Nat.le_refl _) _
    have HS : Hid (∀ j u, row[j]? = some u → (w.alloc (.cells #[] 38)).cell? (x.add j) = some u) := fun j u h => by
      have hne : n ≠ 0 := fun e => by
        subst e
        have : row = [] := List.eq_nil_of_length_eq_zero (by rw [hlen])
        rw [this] at h; simp at h
      obtain ⟨x', hx', hlt, hc⟩ := hsrc hne
      cases hx'
      rw [B1.cell (p := x.add j) (by unfold Addr.add; split <;> exact hlt)]
      exact hc j u h
    have Hm1 : Hid (0 + n ≤ maxLen) := by unfold Hid maxLen; omega
    have Hm2 : Hid ((0 + n) * 24 ≤ 140737488355328) := by unfold Hid; omega
    have Hm3 : Hid (w.heap.size ≤ (w.alloc (.cells #[] 38)).heap.size) := by unfold Hid; simp
    have HRw : Hid (World.ownsRow (w.alloc (.cells #[] 38)) w.heap.size 38 3 (.slice (some ⟨w.heap.size, 0, none⟩) 0 0) 0 []) := ⟨rfl, .inr ⟨w.heap.size, 0, #[], rfl, Nat.le_refl _, World.alloc_heap_new w _, Nat.le_refl _, by unfold maxLen; omega, rfl, rfl⟩⟩
    obtain ⟨i0, hi, hz0, hz1, hz2⟩ := info_parts cinfo_Ho
    have l0 : (0 : Int) ≤ n := by omega
    have Hlen : Hid (row.length = n * 3) := hlen
    have Hone : Hid (∀ u ∈ row, u.oneCell' = true) := hone
    clear hsrc hlen hone
    go_enter Tryd.func21, Tryd.ntmps21
    go_wp2_with (at_builtin; refine wpList_append_own _ rfl _ _ 22 rfl w.heap.size 38 i0 (.agg #[.int .i64 0, .int .i64 0, .int .i64 0]) 3 24 Tryd.underlying22 hi hz0 hz1 hz2 rfl (by decide) _ _ _ rfl HRw.out x n cap row rfl Hlen.out HS.out Hone.out Hm1.out Hm2.out Hm3.out ?_)
    intro v w1 hown hgrow _
    have hb : Below w.heap.size w w1 := B1.grown hgrow B1.size (fun j e => by simp [Value.ownBlock] at e; omega)
    have hown2 : World.ownsRow w1 w.heap.size 38 3 v n row := by simpa using hown
    obtain ⟨a1, k1, rfl⟩ : ∃ a1 k1, v = .slice a1 n k1 := by
      rcases hown2.2 with ⟨rfl, h0⟩ | ⟨g1, c1, cur, rfl, _⟩
      · subst h0; exact ⟨_, _, rfl⟩
      · exact ⟨_, _, rfl⟩
    have HE : Hid (World.ownsRow w1 w.heap.size 38 3 (.slice a1 n k1) n row ∧ Below w.heap.size w w1) := ⟨hown2, hb⟩
    clear hown hown2 hgrow hb B1 HS HRw
    go_wp2
    go_ret
    exact ⟨_, _, rfl, HE.out.1, HE.out.2⟩
/-- The place of the first holding for which something holds. -/
def hidx (p : Ho → Bool) : Nat → List Ho → Int
  | _, [] => -1
  | k, a :: l => if p a = true then (k : Int) else hidx p (k + 1) l
theorem hidx_spec (p : Ho → Bool) : ∀ (l : List Ho) (k : Nat), (hidx p k l = -1 ∧ l.find? p = none) ∨ ∃ j, j < l.length ∧ hidx p k l = ((k + j : Nat) : Int) ∧ l.find? p = some (l.getD j ho0)
  | [], k => .inl ⟨rfl, rfl⟩
  | x :: l, k => by
    cases h : p x
    · rcases hidx_spec p l (k + 1) with ⟨e, ha⟩ | ⟨j, hj, e, ha⟩
      · exact .inl ⟨by rw [hidx, if_neg (by simp [h]), e], by rw [List.find?_cons_of_neg (by simp [h]), ha]⟩
      · exact .inr ⟨j + 1, by simpa using hj, by rw [hidx, if_neg (by simp [h]), e]; congr 1; omega, by rw [List.find?_cons_of_neg (by simp [h]), ha]; rfl⟩
    · exact .inr ⟨0, by simp, by rw [hidx, if_pos h]; simp, by rw [List.find?_cons_of_pos h]; rfl⟩

/-- What is asked of a function that is told a holding of a list, and has a value of its own, in worlds of a kind. -/
structure HTells (g : Nat) (u : Value) (p : Ho → Bool) (l : List Ho) (T : World → Prop) : Prop where
  eg : ∀ args W, (callFunc g args).run Tryd.prog W = .ok (.enter g args) W
  call : ∀ (x : Ho) W, x ∈ l → T W → Calls Tryd.prog g #[.agg x.cells, u] W fun e w' => e = .returned (.bool (p x)) ∧ Below W.heap.size W w'
  below : ∀ W W', T W → Below W.heap.size W W' → T W'
theorem HTells.sub {g : Nat} {u : Value} {p : Ho → Bool} {l m : List Ho} {T : World → Prop} (h : HTells g u p l T) (hs : ∀ x ∈ m, x ∈ l) : HTells g u p m T :=
  ⟨h.eg, fun x W hx hT => h.call x W (hs x hx) hT, h.below⟩
set_option maxHeartbeats 1000000 in
theorem hidx_some (g : Nat) (u : Value) (p : Ho → Bool) (T : World → Prop) (b off cap : Nat) (l : List Ho) (w : World) (hT : T w) (hp : HTells g u p l T) (hb : b < w.heap.size) (hlen : (l.length : Int) ≤ 9223372036854775807) (hc : HosAt w b off l) :
    Calls Tryd.prog 28 #[.slice (some ⟨b, off, none⟩) l.length cap, .func (.func g) #[] #[u]] w fun e w' => e = .returned (.int .i64 (hidx p 0 l)) ∧ Below w.heap.size w w' := by
  have eg := hp.eg
  have Hp : Hid (HTells g u p l T) := hp
  have Hc : Hid (HosAt w b off l) := hc
  have HT : Hid (T w) := hT
  clear hp hc hT
  obtain ⟨res, hres⟩ : ∃ res, hidx p 0 l = res := ⟨_, rfl⟩
  have Hres : Hid (hidx p 0 l = res) := hres
  rw [hres]
  clear hres
  go_enter Tryd.func28, Tryd.ntmps28
  go_wp2
  go_loopw [8] (fun i wr => ∃ k : Nat, k ≤ l.length ∧ i = .int .i64 k ∧ Hid (hidx p k (l.drop k) = res) ∧ Below w.heap.size w wr ∧ Hid (T wr)) (fun i _ => l.length - (RowKit.intOf i).toNat)
  case atStart => exact ⟨0, Nat.zero_le _, rfl, Hres.out, Below.refl _ _, HT⟩
  case round =>
    obtain ⟨k, hk, rfl, H, BW, HTr⟩ := hrel
    clear HT
    by_cases hlt : k < l.length
    · have hn := (Hc.out k hlt).below BW hb
      have hcall := Hp.out.call (l.getD k ho0) wr (hos_mem l k hlt) HTr.out
      have E : Hid ((if p (l.getD k ho0) = true then (k : Int) else hidx p (k + 1) (l.drop (k + 1))) = res) := by
        have := H.out
        rw [hos_drop l k hlt] at this
        exact this
      clear H
      generalize l.getD k ho0 = a at *
      obtain ⟨a0, a1, a2⟩ := a
      obtain ⟨c0, c1, c2⟩ := hn
      simp only [Ho.cells] at c0 c1 c2 hcall
      have i0 : (0 : Int) ≤ k := by omega
      have i1 : (k : Int) < l.length := by omega
      cases hq : p ⟨a0, a1, a2⟩
      · rw [hq] at hcall
        have HN : Hid (hidx p (k + 1) (l.drop (k + 1)) = res) := by
          have := E.out; rw [if_neg (by rw [hq]; simp)] at this; exact this
        go_wp2_with (go_at_fn g; refine hcall.mono ?_; rintro e w' ⟨rfl, hb'⟩)
        go_roundw
        case rel => exact ⟨k + 1, by omega, by go_num, HN, BW.trans (hb'.mono BW.size), Hp.out.below _ _ HTr.out hb'⟩
        case measure => simp [RowKit.intOf]; omega
      · rw [hq] at hcall
        have er : res = k := by rw [← E.out, if_pos hq]
        subst er
        go_wp2_with (go_at_fn g; refine hcall.mono ?_; rintro e w' ⟨rfl, hb'⟩)
        go_ret
        exact ⟨rfl, BW.trans (hb'.mono BW.size)⟩
    · have hk2 : k = l.length := by omega
      subst hk2
      have er : res = -1 := by rw [← H.out, List.drop_length]; rfl
      subst er
      go_wp2
      go_ret
      exact ⟨rfl, BW⟩
theorem hidx_nil (a : Option Addr) (cap : Nat) (f : Value) (w : World) :
    Calls Tryd.prog 28 #[.slice a 0 cap, f] w fun e w' => e = .returned (.int .i64 (-1)) ∧ Below w.heap.size w w' := by
  go_enter Tryd.func28, Tryd.ntmps28
  go_wp2
  refine wp_loop_rounds 1 ?_
  rw [rounds_succ]
  go_wp2
  go_ret
  exact ⟨rfl, Below.refl _ _⟩
theorem hidx_any (g : Nat) (u : Value) (p : Ho → Bool) (T : World → Prop) (a : Option Addr) (cap : Nat) (l : List Ho) (w : World) (hT : T w) (hp : HTells g u p l T) (hlen : (l.length : Int) ≤ 9223372036854775807) (h : IsHo w a l cap) :
    Calls Tryd.prog 28 #[.slice a l.length cap, .func (.func g) #[] #[u]] w fun e w' => e = .returned (.int .i64 (hidx p 0 l)) ∧ Below w.heap.size w w' := by
  rcases h.lies with rfl | ⟨b, off, rfl, hlt, hc⟩
  · exact hidx_nil a cap _ w
  · exact hidx_some g u p T b off cap l w hT hp hlt hlen hc
theorem hidx_has (p : Ho → Bool) : ∀ (l : List Ho) (k : Nat), decide (0 ≤ hidx p k l) = l.any p
  | [], k => by simp [hidx]
  | x :: l, k => by
    rw [hidx]
    cases h : p x
    · rw [if_neg (by simp), hidx_has p l (k + 1)]; simp [h]
    · rw [if_pos rfl]; simp [h]
theorem hContains_any (g : Nat) (u : Value) (p : Ho → Bool) (T : World → Prop) (a : Option Addr) (cap : Nat) (l : List Ho) (w : World) (hT : T w) (hp : HTells g u p l T) (hlen : (l.length : Int) ≤ 9223372036854775807) (h : IsHo w a l cap) :
    Calls Tryd.prog 20 #[.slice a l.length cap, .func (.func g) #[] #[u]] w fun e w' => e = .returned (.bool (l.any p)) ∧ Below w.heap.size w w' := by
  rw [← hidx_has p l 0]
  have hI := hidx_any g u p T a cap l w hT hp hlen h
  clear h hp hT
  go_enter Tryd.func20, Tryd.ntmps20
  go_wp2_with fail
  refine hI.mono ?_
  rintro e w' ⟨rfl, hb⟩
  go_wp2
  go_ret
  exact ⟨rfl, hb⟩
end Go.Proofs.YtmpjaogomabfiaaDoor
