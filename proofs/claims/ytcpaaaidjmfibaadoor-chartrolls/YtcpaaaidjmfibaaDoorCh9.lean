/-
  The contract of chart.Roll's function.
-/
import Derived.Test.YtcpaaaidjmfibaaDoorCh8
import Derived.Test.YtcpaaaidjmfibaaDoorSum
namespace Go.Proofs.YtcpaaaidjmfibaaDoor
set_option linter.unusedVariables false
set_option linter.unusedSimpArgs false
set_option maxRecDepth 100000
open Go.RowKit Go.Lib Math

/-- A slice of numbers. -/
structure IsInts (w : World) (a : Option Addr) (am : List Int) (cap : Nat) : Prop where
  cap : am.length ≤ cap
  fits : ∀ k, k < am.length → I64 (am.getD k 0)
  lies : am = [] ∨ ∃ b off, a = some ⟨b, off, none⟩ ∧ b < w.heap.size ∧ ∀ k, k < am.length → w.cell? ⟨b, off + k, none⟩ = some (.int .i64 (am.getD k 0))

theorem IsInts.below {w w' : World} {a : Option Addr} {am : List Int} {cap : Nat} (h : IsInts w a am cap) (hb : Below w.heap.size w w') : IsInts w' a am cap := by
  refine ⟨h.cap, h.fits, ?_⟩
  rcases h.lies with h | ⟨b, off, e, hlt, hc⟩
  · exact .inl h
  · exact .inr ⟨b, off, e, by have := hb.size; omega, fun k hk => (hb.cell (p := ⟨b, off + k, none⟩) hlt).trans (hc k hk)⟩

/-- Numbers in a row of the call's own. -/
def IntRow (w : World) (n : Nat) (v : Value) (xs : List Int) : Prop := w.ownsRow n 3 1 v xs.length (xs.map (Value.int .i64))

theorem int_info : (Tryd.prog.info? 3).map (fun i => (i.zero, i.size, i.bytes)) = some (some (.int .i64 0), 1, 8) := by kernel_rfl

/-- What chart.Roll's function has done. -/
def RJ (u : World) (n0 B1 : Nat) (am : List Int) (gc : Option Nat) (pre : List Nat) (W : World) : Prop :=
  ∃ v, Boxed W B1 23 v ∧ IntRow W n0 v (pre.map fun i => am.getD i 0) ∧ v.ownBlock = gc ∧ Below u.heap.size u W

set_option maxHeartbeats 4000000 in
theorem roll1_call (u : World) (n0 B1 B2 : Nat) (a2 : Option Addr) (l : List Ac) (am : List Int) (cap2 : Nat) (hlen : l.length ≤ 60) (hal : am.length = l.length) (hin : IsInts u a2 am cap2) (h1 : u.heap.size ≤ B1) (h2 : u.cell? ⟨B2, 0, none⟩ = some (.slice a2 am.length cap2)) (hn1 : B1 < n0)
    (gc : Option Nat) (pre : List Nat) (i : Nat) (W : World) (hJ : RJ u n0 B1 am gc pre W) (hi : i < l.length) (hp : pre.length ≤ i) (hn : n0 ≤ W.heap.size) :
    Calls Tryd.prog 14 #[.int .i64 (i : Nat), .pointer (some ⟨B1, 0, none⟩), .pointer (some ⟨B2, 0, none⟩)] W fun e w' => e = .returned (.tuple #[]) ∧ ∃ gc', RJ u n0 B1 am gc' (pre ++ [i]) w' ∧ (gc' = gc ∨ ∃ h, gc' = some h ∧ W.heap.size ≤ h) ∧ W.heap.size ≤ w'.heap.size ∧ ∀ b, b < W.heap.size → n0 ≤ b → some b ≠ gc → w'.heap[b]? = W.heap[b]? := by
  obtain ⟨v, bx, row, rfl, bel⟩ := hJ
  obtain ⟨i0, hi0, hz0, hz1, hz2⟩ := info_parts int_info
  have hB2 : B2 < u.heap.size := World.block_lt_of_cell? _ _ h2
  have cB2 : W.cell? ⟨B2, 0, none⟩ = some (.slice a2 am.length cap2) := (bel.cell (p := ⟨B2, 0, none⟩) hB2).trans h2
  rcases (hin.below bel).lies with h | ⟨b, off, rfl, hlt, hc⟩
  · rw [h] at hal; simp at hal; omega
  have hval := hc i (by omega)
  clear hc hlt
  generalize hcd : am.getD i 0 = c at hval
  have cB1 := bx.cell
  have fB1 := bx.frozen
  have j0 : (0 : Int) ≤ i := by omega
  have j1 : (i : Int) < am.length := by omega
  have hown : ∀ x, v.ownBlock = some x → n0 ≤ x := fun x hx => by
    rcases row.2 with ⟨rfl, _⟩ | ⟨g, cp, cur, rfl, hg, _⟩
    · cases hx
    · cases hx; exact hg
  have Hrow1 : Hid (W.ownsRow n0 3 1 v pre.length ((pre.map fun i => am.getD i 0).map (Value.int .i64))) := by
    have := row
    unfold IntRow at this
    rw [List.length_map] at this
    exact this
  have Hrow2 : Hid ((W.alloc (.cells #[.int .i64 c] 3)).drew.ownsRow n0 3 1 v pre.length ((pre.map fun i => am.getD i 0).map (Value.int .i64))) := World.ownsRow.drew (World.ownsRow.alloc Hrow1.out _)
  have Hpre : pre.length ≤ 60 := by omega
  have cB1' : (W.alloc (.cells #[.int .i64 c] 3)).cell? ⟨B1, 0, none⟩ = some v := (bx.alloc _).cell
  have Hbx2 : Hid (Boxed (W.alloc (.cells #[.int .i64 c] 3)).drew B1 23 v) := bx.alloc _
  have Hcd : Hid (_ = c) := hcd
  clear hcd
  have K1 : Hid (∀ j u, [Value.int .i64 c][j]? = some u → (W.alloc (.cells #[.int .i64 c] 3)).drew.cell? ((⟨W.heap.size, 0, none⟩ : Addr).add j) = some u) := fun j u h => cell_one_new W (.int .i64 c) 3 j u h
  have s1 : ∀ u ∈ [Value.int .i64 c], u.oneCell' = true := by intro u hu; simp at hu; subst hu; rfl
  have s2 : Hid (pre.length + 1 ≤ maxLen) := by unfold Hid maxLen; omega
  have s3 : Hid ((pre.length + 1) * 8 ≤ 140737488355328) := by unfold Hid; omega
  have s4 : Hid (n0 ≤ (W.alloc (.cells #[.int .i64 c] 3)).drew.heap.size) := by unfold Hid; simp; omega
  have s5 : Hid ((W.alloc (.cells #[.int .i64 c] 3)).drew.heap.size = W.heap.size + 1) := by unfold Hid; simp
  have s6 : Hid (some B1 ≠ v.ownBlock) := Hbx2.out.not_row (by decide) Hrow2.out
  go_enter Tryd.func14, Tryd.ntmps14
  go_wp2_with fail
  go_region_law (refine step_append_lies _ rfl (.tmp 4) (.tmp 9) 23 rfl n0 3 i0 (.int .i64 0) 1 8 Tryd.underlying23 hi0 hz0 hz1 hz2 rfl (Nat.zero_lt_one) v pre.length _ rfl Hrow2.out ⟨W.heap.size, 0, none⟩ 1 1 [.int .i64 c] rfl rfl K1.out s1 (Nat.zero_lt_one) s2.out s3.out s4.out (W.heap.size + 1) s5.out ?_; intro g' cap' w1 hown' hgrow hat hlt2; have bx3 := Hbx2.out.kept hgrow s6.out; have cx := bx3.cell; have fx := bx3.frozen)
  all_goals
    have fin := box_end (T := 23) (e := 3) (by decide) bx hn1 hn Hrow1.out hown' hgrow hat
    go_wp2
    go_end0
    obtain ⟨f1, f2, f3, f4, f5, f6⟩ := fin
    refine ⟨rfl, some g', ⟨_, f1, ?_, rfl, f6 _ _ h1 bel⟩, f3, f4, ?_⟩
    · unfold IntRow
      have e1 : (pre ++ [i]).map (fun i => am.getD i 0) = (pre.map fun i => am.getD i 0) ++ [c] := by rw [List.map_append, ← Hcd.out]; rfl
      rw [e1, List.map_append, List.length_append, List.length_map]
      exact f2
    · intro x hx hx2 hx3
      exact f5 x hx (by omega) hx3

theorem roll1_does (u : World) (n0 B1 B2 : Nat) (a : Option Addr) (cap : Nat) (a2 : Option Addr) (l : List Ac) (am : List Int) (cap2 : Nat) (hlen : l.length ≤ 60) (hal : am.length = l.length) (hsl : IsSl u a l cap) (hin : IsInts u a2 am cap2) (h1 : u.heap.size ≤ B1) (h2 : u.cell? ⟨B2, 0, none⟩ = some (.slice a2 am.length cap2)) (hn1 : B1 < n0) :
    Does 14 (.pointer (some ⟨B1, 0, none⟩), .pointer (some ⟨B2, 0, none⟩)) n0 a l cap (RJ u n0 B1 am) := by
  refine ⟨fun args W => enters Tryd.func14 (by kernel_rfl) ⟨_, rfl⟩ args W, fun gc pre i W hJ hi hp hn => roll1_call u n0 B1 B2 a2 l am cap2 hlen hal hin h1 h2 hn1 gc pre i W hJ hi hp hn, ?_, ?_, ?_⟩
  · rintro gc pre W W' row ⟨v, bx, hr, rfl, bel⟩ hg hn hrow
    refine ⟨v, bx.kept hg (fun e => by have := (hrow B1 e.symm).1; omega), World.ownsRow.kept hr hg ?_, rfl, bel.grown hg bel.size (fun j e => by have := (hrow j e).1; omega)⟩
    cases hv : v.ownBlock with
    | none => exact .inl rfl
    | some x => exact .inr (fun e => (hrow x e.symm).2 hv)
  · rintro gc pre W ⟨v, bx, hr, rfl, bel⟩
    exact hsl.below bel
  · rintro gc pre W ⟨v, bx, hr, rfl, bel⟩ b hb
    rcases hr.2 with ⟨rfl, _⟩ | ⟨g, cp, cur, rfl, _, hh, _⟩
    · cases hb
    · cases hb; exact (Array.getElem?_eq_some_iff.1 hh).1
end Go.Proofs.YtcpaaaidjmfibaaDoor
