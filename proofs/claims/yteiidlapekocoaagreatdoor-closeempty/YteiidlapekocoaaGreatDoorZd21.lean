/-
  The contract of a journal's Post, where nothing is wrong.
-/
import Derived.Test.YteiidlapekocoaaGreatDoorZd6
import Derived.Test.YteiidlapekocoaaGreatDoorZd7
import Derived.Deep.Cut
namespace Go.Proofs.YteiidlapekocoaaGreatDoor
set_option linter.unusedVariables false
set_option linter.unusedSimpArgs false
set_option maxRecDepth 100000
open Go.RowKit Go.Lib

theorem cinfo_Rt : (Tryz.prog.info? 57).map (fun i => (i.zero, i.size, i.bytes)) = some (some (.agg #[.string ByteArray.empty, .string ByteArray.empty, .int .i64 0, .int .i64 0, .int .i64 0]), 5, 56) := by kernel_rfl
theorem clone_Rt (a : Option Addr) (n cap : Nat) (row : List Value) (w : World) (hlen : row.length = n * 5) (hone : ∀ u ∈ row, u.oneCell' = true) (hsrc : n ≠ 0 → ∃ x : Addr, a = some x ∧ x.block < w.heap.size ∧ ∀ j u, row[j]? = some u → w.cell? (x.add j) = some u) (hn : n ≤ 1000) :
    Calls Tryz.prog 18 #[.slice a n cap] w fun e w' => ∃ a' c', e = .returned (.slice a' n c') ∧ w'.ownsRow w.heap.size 57 5 (.slice a' n c') n row ∧ Below w.heap.size w w' := by
  have q35 : ∀ (w : World) (a : Option Addr) (n c n' c' : Nat), (binOp .eql 42 (.slice a n c) (.slice none n' c')).run Tryz.prog w = .ok (.bool a.isNone) w := fun w a n c n' c' => Lib.run_eql_slice_nil w _ _ a n c n' c' Tryz.underlying42
  cases a with
  | none =>
    have h0 : n = 0 := by
      by_cases h : n = 0
      · exact h
      · obtain ⟨x, hx, _⟩ := hsrc h
        cases hx
    subst h0
    have hr : row = [] := List.eq_nil_of_length_eq_zero (by rw [hlen])
    subst hr
    clear hsrc hlen hone
    go_enter Tryz.func18, Tryz.ntmps18
    go_wp2
    go_ret
    exact ⟨_, _, rfl, World.ownsRow_nil _ _ _ _, Below.refl _ _⟩
  | some x =>
    have B1 : Below w.heap.size w (w.alloc (.cells #[] 57)) := (Below.refl _ w).alloc (Nat.le_refl _) _
    have HS : Hid (∀ j u, row[j]? = some u → (w.alloc (.cells #[] 57)).cell? (x.add j) = some u) := fun j u h => by
      have hne : n ≠ 0 := fun e => by
        subst e
        have : row = [] := List.eq_nil_of_length_eq_zero (by rw [hlen])
        rw [this] at h; simp at h
      obtain ⟨x', hx', hlt, hc⟩ := hsrc hne
      cases hx'
      rw [B1.cell (p := x.add j) (by unfold Addr.add; split <;> exact hlt)]
      exact hc j u h
    have Hm1 : Hid (0 + n ≤ maxLen) := by unfold Hid maxLen; omega
    have Hm2 : Hid ((0 + n) * 56 ≤ 140737488355328) := by unfold Hid; omega
    have Hm3 : Hid (w.heap.size ≤ (w.alloc (.cells #[] 57)).heap.size) := by unfold Hid; simp
    have HRw : Hid (World.ownsRow (w.alloc (.cells #[] 57)) w.heap.size 57 5 (.slice (some ⟨w.heap.size, 0, none⟩) 0 0) 0 []) := ⟨rfl, .inr ⟨w.heap.size, 0, #[], rfl, Nat.le_refl _, World.alloc_heap_new w _, Nat.le_refl _, by unfold maxLen; omega, rfl, rfl⟩⟩
    obtain ⟨i0, hi, hz0, hz1, hz2⟩ := info_parts cinfo_Rt
    have l0 : (0 : Int) ≤ n := by omega
    have Hlen : Hid (row.length = n * 5) := hlen
    have Hone : Hid (∀ u ∈ row, u.oneCell' = true) := hone
    clear hsrc hlen hone
    go_enter Tryz.func18, Tryz.ntmps18
    go_wp2_with (at_builtin; refine wpList_append_own _ rfl _ _ 42 rfl w.heap.size 57 i0 (.agg #[.string ByteArray.empty, .string ByteArray.empty, .int .i64 0, .int .i64 0, .int .i64 0]) 5 56 Tryz.underlying42 hi hz0 hz1 hz2 rfl (by decide) _ _ _ rfl HRw.out x n cap row rfl Hlen.out HS.out Hone.out Hm1.out Hm2.out Hm3.out ?_)
    intro v w1 hown hgrow _
    have hb : Below w.heap.size w w1 := B1.grown hgrow B1.size (fun j e => by simp [Value.ownBlock] at e; omega)
    have hown2 : World.ownsRow w1 w.heap.size 57 5 v n row := by simpa using hown
    obtain ⟨a1, k1, rfl⟩ : ∃ a1 k1, v = .slice a1 n k1 := by
      rcases hown2.2 with ⟨rfl, h0⟩ | ⟨g1, c1, cur, rfl, _⟩
      · subst h0; exact ⟨_, _, rfl⟩
      · exact ⟨_, _, rfl⟩
    have HE : Hid (World.ownsRow w1 w.heap.size 57 5 (.slice a1 n k1) n row ∧ Below w.heap.size w w1) := ⟨hown2, hb⟩
    clear hown hown2 hgrow hb B1 HS HRw
    go_wp2
    go_ret
    exact ⟨_, _, rfl, HE.out.1, HE.out.2⟩
theorem cinfo_Je : (Tryz.prog.info? 34).map (fun i => (i.zero, i.size, i.bytes)) = some (some (.agg #[.string ByteArray.empty, .int .i64 0, .int .i64 0, .slice none 0 0]), 4, 56) := by kernel_rfl
theorem clone_Je (a : Option Addr) (n cap : Nat) (row : List Value) (w : World) (hlen : row.length = n * 4) (hone : ∀ u ∈ row, u.oneCell' = true) (hsrc : n ≠ 0 → ∃ x : Addr, a = some x ∧ x.block < w.heap.size ∧ ∀ j u, row[j]? = some u → w.cell? (x.add j) = some u) (hn : n ≤ 1000) :
    Calls Tryz.prog 32 #[.slice a n cap] w fun e w' => ∃ a' c', e = .returned (.slice a' n c') ∧ w'.ownsRow w.heap.size 34 4 (.slice a' n c') n row ∧ Below w.heap.size w w' := by
  have q35 : ∀ (w : World) (a : Option Addr) (n c n' c' : Nat), (binOp .eql 39 (.slice a n c) (.slice none n' c')).run Tryz.prog w = .ok (.bool a.isNone) w := fun w a n c n' c' => Lib.run_eql_slice_nil w _ _ a n c n' c' Tryz.underlying39
  cases a with
  | none =>
    have h0 : n = 0 := by
      by_cases h : n = 0
      · exact h
      · obtain ⟨x, hx, _⟩ := hsrc h
        cases hx
    subst h0
    have hr : row = [] := List.eq_nil_of_length_eq_zero (by rw [hlen])
    subst hr
    clear hsrc hlen hone
    go_enter Tryz.func32, Tryz.ntmps32
    go_wp2
    go_ret
    exact ⟨_, _, rfl, World.ownsRow_nil _ _ _ _, Below.refl _ _⟩
  | some x =>
    have B1 : Below w.heap.size w (w.alloc (.cells #[] 34)) := (Below.refl _ w).alloc (Nat.le_refl _) _
    have HS : Hid (∀ j u, row[j]? = some u → (w.alloc (.cells #[] 34)).cell? (x.add j) = some u) := fun j u h => by
      have hne : n ≠ 0 := fun e => by
        subst e
        have : row = [] := List.eq_nil_of_length_eq_zero (by rw [hlen])
        rw [this] at h; simp at h
      obtain ⟨x', hx', hlt, hc⟩ := hsrc hne
      cases hx'
      rw [B1.cell (p := x.add j) (by unfold Addr.add; split <;> exact hlt)]
      exact hc j u h
    have Hm1 : Hid (0 + n ≤ maxLen) := by unfold Hid maxLen; omega
    have Hm2 : Hid ((0 + n) * 56 ≤ 140737488355328) := by unfold Hid; omega
    have Hm3 : Hid (w.heap.size ≤ (w.alloc (.cells #[] 34)).heap.size) := by unfold Hid; simp
    have HRw : Hid (World.ownsRow (w.alloc (.cells #[] 34)) w.heap.size 34 4 (.slice (some ⟨w.heap.size, 0, none⟩) 0 0) 0 []) := ⟨rfl, .inr ⟨w.heap.size, 0, #[], rfl, Nat.le_refl _, World.alloc_heap_new w _, Nat.le_refl _, by unfold maxLen; omega, rfl, rfl⟩⟩
    obtain ⟨i0, hi, hz0, hz1, hz2⟩ := info_parts cinfo_Je
    have l0 : (0 : Int) ≤ n := by omega
    have Hlen : Hid (row.length = n * 4) := hlen
    have Hone : Hid (∀ u ∈ row, u.oneCell' = true) := hone
    clear hsrc hlen hone
    go_enter Tryz.func32, Tryz.ntmps32
    go_wp2_with (at_builtin; refine wpList_append_own _ rfl _ _ 39 rfl w.heap.size 34 i0 (.agg #[.string ByteArray.empty, .int .i64 0, .int .i64 0, .slice none 0 0]) 4 56 Tryz.underlying39 hi hz0 hz1 hz2 rfl (by decide) _ _ _ rfl HRw.out x n cap row rfl Hlen.out HS.out Hone.out Hm1.out Hm2.out Hm3.out ?_)
    intro v w1 hown hgrow _
    have hb : Below w.heap.size w w1 := B1.grown hgrow B1.size (fun j e => by simp [Value.ownBlock] at e; omega)
    have hown2 : World.ownsRow w1 w.heap.size 34 4 v n row := by simpa using hown
    obtain ⟨a1, k1, rfl⟩ : ∃ a1 k1, v = .slice a1 n k1 := by
      rcases hown2.2 with ⟨rfl, h0⟩ | ⟨g1, c1, cur, rfl, _⟩
      · subst h0; exact ⟨_, _, rfl⟩
      · exact ⟨_, _, rfl⟩
    have HE : Hid (World.ownsRow w1 w.heap.size 34 4 (.slice a1 n k1) n row ∧ Below w.heap.size w w1) := ⟨hown2, hb⟩
    clear hown hown2 hgrow hb B1 HS HRw
    go_wp2
    go_ret
    exact ⟨_, _, rfl, HE.out.1, HE.out.2⟩
theorem cinfo_Li : (Tryz.prog.info? 74).map (fun i => (i.zero, i.size, i.bytes)) = some (some (.agg #[.string ByteArray.empty, .string ByteArray.empty, .int .i64 0]), 3, 40) := by kernel_rfl
theorem clone_Li (a : Option Addr) (n cap : Nat) (row : List Value) (w : World) (hlen : row.length = n * 3) (hone : ∀ u ∈ row, u.oneCell' = true) (hsrc : n ≠ 0 → ∃ x : Addr, a = some x ∧ x.block < w.heap.size ∧ ∀ j u, row[j]? = some u → w.cell? (x.add j) = some u) (hn : n ≤ 1000) :
    Calls Tryz.prog 62 #[.slice a n cap] w fun e w' => ∃ a' c', e = .returned (.slice a' n c') ∧ w'.ownsRow w.heap.size 74 3 (.slice a' n c') n row ∧ Below w.heap.size w w' := by
  have q35 : ∀ (w : World) (a : Option Addr) (n c n' c' : Nat), (binOp .eql 32 (.slice a n c) (.slice none n' c')).run Tryz.prog w = .ok (.bool a.isNone) w := fun w a n c n' c' => Lib.run_eql_slice_nil w _ _ a n c n' c' Tryz.underlying32
  cases a with
  | none =>
    have h0 : n = 0 := by
      by_cases h : n = 0
      · exact h
      · obtain ⟨x, hx, _⟩ := hsrc h
        cases hx
    subst h0
    have hr : row = [] := List.eq_nil_of_length_eq_zero (by rw [hlen])
    subst hr
    clear hsrc hlen hone
    go_enter Tryz.func62, Tryz.ntmps62
    go_wp2
    go_ret
    exact ⟨_, _, rfl, World.ownsRow_nil _ _ _ _, Below.refl _ _⟩
  | some x =>
    have B1 : Below w.heap.size w (w.alloc (.cells #[] 74)) := (Below.refl _ w).alloc (Nat.le_refl _) _
    have HS : Hid (∀ j u, row[j]? = some u → (w.alloc (.cells #[] 74)).cell? (x.add j) = some u) := fun j u h => by
      have hne : n ≠ 0 := fun e => by
        subst e
        have : row = [] := List.eq_nil_of_length_eq_zero (by rw [hlen])
        rw [this] at h; simp at h
      obtain ⟨x', hx', hlt, hc⟩ := hsrc hne
      cases hx'
      rw [B1.cell (p := x.add j) (by unfold Addr.add; split <;> exact hlt)]
      exact hc j u h
    have Hm1 : Hid (0 + n ≤ maxLen) := by unfold Hid maxLen; omega
    have Hm2 : Hid ((0 + n) * 40 ≤ 140737488355328) := by unfold Hid; omega
    have Hm3 : Hid (w.heap.size ≤ (w.alloc (.cells #[] 74)).heap.size) := by unfold Hid; simp
    have HRw : Hid (World.ownsRow (w.alloc (.cells #[] 74)) w.heap.size 74 3 (.slice (some ⟨w.heap.size, 0, none⟩) 0 0) 0 []) := ⟨rfl, .inr ⟨w.heap.size, 0, #[], rfl, Nat.le_refl _, World.alloc_heap_new w _, Nat.le_refl _, by unfold maxLen; omega, rfl, rfl⟩⟩
    obtain ⟨i0, hi, hz0, hz1, hz2⟩ := info_parts cinfo_Li
    have l0 : (0 : Int) ≤ n := by omega
    have Hlen : Hid (row.length = n * 3) := hlen
    have Hone : Hid (∀ u ∈ row, u.oneCell' = true) := hone
    clear hsrc hlen hone
    go_enter Tryz.func62, Tryz.ntmps62
    go_wp2_with (at_builtin; refine wpList_append_own _ rfl _ _ 32 rfl w.heap.size 74 i0 (.agg #[.string ByteArray.empty, .string ByteArray.empty, .int .i64 0]) 3 40 Tryz.underlying32 hi hz0 hz1 hz2 rfl (by decide) _ _ _ rfl HRw.out x n cap row rfl Hlen.out HS.out Hone.out Hm1.out Hm2.out Hm3.out ?_)
    intro v w1 hown hgrow _
    have hb : Below w.heap.size w w1 := B1.grown hgrow B1.size (fun j e => by simp [Value.ownBlock] at e; omega)
    have hown2 : World.ownsRow w1 w.heap.size 74 3 v n row := by simpa using hown
    obtain ⟨a1, k1, rfl⟩ : ∃ a1 k1, v = .slice a1 n k1 := by
      rcases hown2.2 with ⟨rfl, h0⟩ | ⟨g1, c1, cur, rfl, _⟩
      · subst h0; exact ⟨_, _, rfl⟩
      · exact ⟨_, _, rfl⟩
    have HE : Hid (World.ownsRow w1 w.heap.size 74 3 (.slice a1 n k1) n row ∧ Below w.heap.size w w1) := ⟨hown2, hb⟩
    clear hown hown2 hgrow hb B1 HS HRw
    go_wp2
    go_ret
    exact ⟨_, _, rfl, HE.out.1, HE.out.2⟩
end Go.Proofs.YteiidlapekocoaaGreatDoor

namespace Go.Proofs.YteiidlapekocoaaGreatDoor
set_option linter.unusedVariables false
set_option linter.unusedSimpArgs false
set_option maxRecDepth 100000
open Go.RowKit Go.Lib
section
variable {P : Program} {o : Oper} {a : Act} {w w' : World} {K : Act → World → Prop} {Q : Exit → Act → World → Prop}
theorem wp_sput_run (t : TypeId) (m k x : Operand) (ho : o.op = .mapUpdate t m k x) (u1 u2 u3 : Value) (h1 : a.eval m = u1) (h2 : a.eval k = u2) (h3 : a.eval x = u3) (hr : (Instr.mapUpdate t u1 u2 u3).run P w = .ok () w') (h : K (a.put o.dst undef) w') : o.wp P a w K Q := by
  unfold Oper.wp execOp
  simp only [ho, Sem.run_bind, Sem.run_pure, Result.andThen_ok, h1, h2, h3, hr]
  exact h
end
section
variable {P : Program} {ops : Array Oper} {Q : Exit → Act → World → Prop} {md : Region.Mode} {T : World → Prop} {g : Nat}
theorem L_oneJ {i fuel : Nat} {listed : Array Bool} {a : Act} {w : World} (hr : Region.ready md ops listed = [i])
    (h : wpOp P ops Q i (fun a' w' => T w' ∧ wpAnyL P md ops Q g T fuel (listed.setIfInBounds i true) a' w') a w) : wpAnyL P md ops Q g T (fuel + 1) listed a w := by
  refine ⟨(fun h0 => by rw [hr] at h0; simp at h0), fun j hj => ?_⟩
  rw [hr] at hj
  obtain rfl := List.mem_singleton.1 hj
  exact wpOp_mono (fun a' w' h' => ⟨fun _ => h'.1, h'.2⟩) h
end
structure JKeep (bj bm : Nat) (v : Value) (W W' : World) : Prop where
  os : W'.os = W.os
  tape : W'.tape = W.tape
  output : W'.output = W.output
  size : W.heap.size ≤ W'.heap.size
  block : ∀ b, b < W.heap.size → b ≠ bj → b ≠ bm → some b ≠ v.ownBlock → W'.heap[b]? = W.heap[b]?
theorem JKeep.of_below {bj bm : Nat} {v : Value} {W W' : World} (h : Below W.heap.size W W') : JKeep bj bm v W W' := ⟨h.os, h.tape, h.output, h.size, fun b hb _ _ _ => h.block b hb⟩
section
variable {W : World} {n0 bj bm : Nat} {v : Value} {es : List Je}
end
end Go.Proofs.YteiidlapekocoaaGreatDoor

namespace Go.Proofs.YteiidlapekocoaaGreatDoor
set_option linter.unusedVariables false
set_option linter.unusedSimpArgs false
set_option maxRecDepth 100000
open Go.RowKit Go.Lib
theorem ln_keep {W W' : World} {n : Nat} {v : Value} {l : List Ln} (h : LnRow W n v l) (hb : ∀ (j : Nat) (cs : Array Value) (fr : Nat × Nat), W.heap[j]? = some (.cells cs 74 fr) → W'.heap[j]? = W.heap[j]?) : LnRow W' n v l := by
  rcases h.2 with ⟨hv, hn⟩ | ⟨g1, c1, cur, hv, hb1, hh, r⟩
  · exact ⟨h.1, .inl ⟨hv, hn⟩⟩
  · exact ⟨h.1, .inr ⟨g1, c1, cur, hv, hb1, (hb g1 _ _ hh).trans hh, r⟩⟩
theorem JeRow.typ {w : World} {n : Nat} {v : Value} {xs : List Je} (h : JeRow w n v xs) : ∀ j, v.ownBlock = some j → ∃ cs, w.heap[j]? = some (.cells cs 34 (0, 0)) := fun j ej => by
  rcases h.2 with ⟨rfl, _⟩ | ⟨g, cp, cur, rfl, hg, hh, _⟩
  · cases ej
  · cases ej; exact ⟨cur, hh⟩

section
variable {W : World} {n0 bj bm : Nat} {v : Value} {es : List Je}
end
end Go.Proofs.YteiidlapekocoaaGreatDoor
