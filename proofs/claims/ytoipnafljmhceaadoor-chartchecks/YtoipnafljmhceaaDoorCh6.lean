/-
  The contract of chart.Under.
-/
import Derived.Test.YtoipnafljmhceaaDoorCh5
import Derived.Deep.RegionLaw
namespace Go.Proofs.YtoipnafljmhceaaDoor
set_option linter.unusedVariables false
set_option linter.unusedSimpArgs false
set_option maxRecDepth 100000
open Go.RowKit Go.Lib

/-- What chart.Under's function has done. -/
def UJ (w0 : World) (n0 B1 B2 : Nat) (a : Option Addr) (l : List Ac) (cap : Nat) (gc : Option Nat) (pre : List Nat) (W : World) : Prop :=
  ∃ v, Boxed W B1 28 v ∧ TxtRow W n0 v (pre.map fun i => (l.getD i ac0).code) ∧ v.ownBlock = gc ∧ W.cell? ⟨B2, 0, none⟩ = some (.slice a l.length cap) ∧ Below w0.heap.size w0 W

theorem cell_grown {W W' : World} {row : Option Nat} {b o : Nat} {v : Value} (h : W.cell? ⟨b, o, none⟩ = some v) (hg : W.grownBy W' row) (hr : row ≠ some b) : W'.cell? ⟨b, o, none⟩ = some v := by
  have hlt : b < W.heap.size := World.block_lt_of_cell? _ _ h
  exact (World.cell?_of_block (w := W) (a := ⟨b, o, none⟩) (hg.block b hlt (fun e => hr e.symm))).trans h

/-- Behind 'x = append(x, y)' in a box. -/
theorem box_end {W w1 : World} {n0 B1 : Nat} {T e : TypeId} (hte : T ≠ e) {v : Value} {g' cap' k : Nat} {xs ys : List Value} {o : Obj} (bx : Boxed W B1 T v) (hB : B1 < n0) (hn : n0 ≤ W.heap.size) (hrow : W.ownsRow n0 e 1 v k xs)
    (hown' : w1.ownsRow n0 e 1 (.slice (some ⟨g', 0, none⟩) (k + 1) cap') (k + 1) ys) (hgrow : (W.alloc o).drew.grownBy w1 v.ownBlock) (hat : v.ownBlock = some g' ∨ g' = W.heap.size + 1) :
    Boxed (w1.setCell ⟨B1, 0, none⟩ (.slice (some ⟨g', 0, none⟩) (k + 1) cap')) B1 T (.slice (some ⟨g', 0, none⟩) (k + 1) cap') ∧ (w1.setCell ⟨B1, 0, none⟩ (.slice (some ⟨g', 0, none⟩) (k + 1) cap')).ownsRow n0 e 1 (.slice (some ⟨g', 0, none⟩) (k + 1) cap') (k + 1) ys ∧
    (some g' = v.ownBlock ∨ ∃ h, some g' = some h ∧ W.heap.size ≤ h) ∧ W.heap.size ≤ (w1.setCell ⟨B1, 0, none⟩ (.slice (some ⟨g', 0, none⟩) (k + 1) cap')).heap.size ∧
    (∀ b, b < W.heap.size → b ≠ B1 → some b ≠ v.ownBlock → (w1.setCell ⟨B1, 0, none⟩ (.slice (some ⟨g', 0, none⟩) (k + 1) cap')).heap[b]? = W.heap[b]?) ∧
    ∀ m w0, m ≤ B1 → Below m w0 W → Below m w0 (w1.setCell ⟨B1, 0, none⟩ (.slice (some ⟨g', 0, none⟩) (k + 1) cap')) := by
  have hown : ∀ x, v.ownBlock = some x → n0 ≤ x := fun x hx => by
    rcases hrow.2 with ⟨rfl, _⟩ | ⟨g, cp, cur, rfl, hg, _⟩
    · cases hx
    · cases hx; exact hg
  have bx2 : Boxed (W.alloc o).drew B1 T v := bx.alloc o
  have hrow2 : (W.alloc o).drew.ownsRow n0 e 1 v k xs := World.ownsRow.drew (World.ownsRow.alloc hrow o)
  have bx3 : Boxed w1 B1 T v := bx2.kept hgrow (bx2.not_row hte hrow2)
  have hs0 : (W.alloc o).drew.heap.size = W.heap.size + 1 := by simp
  have hs1 := hgrow.size
  have hs2 := (grownBy_setCell' w1 B1 (.slice (some ⟨g', 0, none⟩) (k + 1) cap')).size
  refine ⟨bx3.set _, hown'.kept (grownBy_setCell' w1 B1 _) (.inr (bx3.not_row hte hown').symm), ?_, by omega, ?_, ?_⟩
  · rcases hat with h | h
    · exact .inl h.symm
    · exact .inr ⟨g', rfl, by omega⟩
  · intro b hb hne hr
    rw [Below.heap_setCell _ _ _ b (fun e => hne e), hgrow.block b (by omega) hr]
    exact heap_alloc_lt W o b hb
  · intro m w0 hm hbel
    refine hbel.trans ((((Below.refl m W).alloc (by omega) o).drew.grown hgrow (by omega) (fun j ej => ?_)).setCell (p := ⟨B1, 0, none⟩) hm _)
    have := hown j ej
    omega

set_option maxHeartbeats 4000000 in
theorem under1_call (w0 : World) (n0 B1 B2 : Nat) (a : Option Addr) (l : List Ac) (cap : Nat) (hlen : l.length ≤ 60) (hsl : IsSl w0 a l cap) (h1 : w0.heap.size ≤ B1) (h2 : w0.heap.size ≤ B2) (h12 : B1 ≠ B2) (hn1 : B1 < n0) (hn2 : B2 < n0)
    (gc : Option Nat) (pre : List Nat) (i : Nat) (W : World) (hJ : UJ w0 n0 B1 B2 a l cap gc pre W) (hi : i < l.length) (hp : pre.length ≤ i) (hn : n0 ≤ W.heap.size) :
    Calls Tryd.prog 26 #[.int .i64 (i : Nat), .pointer (some ⟨B1, 0, none⟩), .pointer (some ⟨B2, 0, none⟩)] W fun e w' => e = .returned (.tuple #[]) ∧ ∃ gc', UJ w0 n0 B1 B2 a l cap gc' (pre ++ [i]) w' ∧ (gc' = gc ∨ ∃ h, gc' = some h ∧ W.heap.size ≤ h) ∧ W.heap.size ≤ w'.heap.size ∧ ∀ b, b < W.heap.size → n0 ≤ b → some b ≠ gc → w'.heap[b]? = W.heap[b]? := by
  obtain ⟨v, bx, row, rfl, cB2, bel⟩ := hJ
  obtain ⟨i0, hi0, hz0, hz1, hz2⟩ := info_parts str_info
  rcases (hsl.below bel).lies with h | ⟨b, off, rfl, hlt, hc⟩
  · rw [h] at hi; simp at hi
  have hcode := (hc i hi).c0
  have hb0 : b < w0.heap.size := by
    rcases hsl.lies with h | ⟨b', off', e, hlt', _⟩
    · rw [h] at hi; simp at hi
    · cases e; exact hlt'
  clear hc hlt
  generalize hcd : (l.getD i ac0).code = c at hcode
  have cB1 := bx.cell
  have fB1 := bx.frozen
  have j0 : (0 : Int) ≤ i := by omega
  have j1 : (i : Int) < l.length := by omega
  have hown : ∀ x, v.ownBlock = some x → n0 ≤ x := fun x hx => by
    rcases row.form with ⟨rfl, _⟩ | ⟨g, cp, rfl, hg, _⟩
    · cases hx
    · cases hx; exact hg
  have row2 : (W.alloc (.cells #[.string c] 9)).drew.ownsRow n0 9 1 v pre.length ((pre.map fun i => (l.getD i ac0).code).map Value.string) := by
    have := World.ownsRow.alloc row (.cells #[.string c] 9)
    have := World.ownsRow.drew this
    simpa using this
  have Hpre : pre.length ≤ 60 := by omega
  have Hrow1 : Hid (W.ownsRow n0 9 1 v pre.length ((pre.map fun i => (l.getD i ac0).code).map Value.string)) := by
    have := row
    unfold TxtRow at this
    rw [List.length_map] at this
    exact this
  have bx2 : Boxed (W.alloc (.cells #[.string c] 9)).drew B1 28 v := bx.alloc _
  have Hrow2 : Hid (World.ownsRow _ _ _ _ _ _ _) := row2
  clear row2
  have cB1' : (W.alloc (.cells #[.string c] 9)).cell? ⟨B1, 0, none⟩ = some v := (bx.alloc _).cell
  have Hbx2 : Hid (Boxed _ _ _ _) := bx2
  clear bx2
  have Hcd : Hid (_ = c) := hcd
  clear hcd
  have k1 : ∀ j u, [Value.string c][j]? = some u → (W.alloc (.cells #[.string c] 9)).drew.cell? ((⟨W.heap.size, 0, none⟩ : Addr).add j) = some u := fun j u h => cell_one_new W (.string c) 9 j u h
  have K1 : Hid (∀ j u, [Value.string c][j]? = some u → (W.alloc (.cells #[.string c] 9)).drew.cell? ((⟨W.heap.size, 0, none⟩ : Addr).add j) = some u) := k1
  clear k1
  have s1 : ∀ u ∈ [Value.string c], u.oneCell' = true := by intro u hu; simp at hu; subst hu; rfl
  have s2 : Hid (pre.length + 1 ≤ maxLen) := by unfold Hid maxLen; omega
  have s3 : Hid ((pre.length + 1) * 16 ≤ 140737488355328) := by unfold Hid; omega
  have s4 : Hid (n0 ≤ (W.alloc (.cells #[.string c] 9)).drew.heap.size) := by unfold Hid; simp; omega
  have s5 : Hid ((W.alloc (.cells #[.string c] 9)).drew.heap.size = W.heap.size + 1) := by unfold Hid; simp
  have s6 : Hid (some B1 ≠ v.ownBlock) := Hbx2.out.not_row (by decide) Hrow2.out
  go_enter Tryd.func26, Tryd.ntmps26
  go_wp2_with fail
  go_region_law (refine step_append_lies _ rfl (.tmp 4) (.tmp 10) 28 rfl n0 9 i0 (.string ByteArray.empty) 1 16 Tryd.underlying28 hi0 hz0 hz1 hz2 rfl (Nat.zero_lt_one) v pre.length _ rfl Hrow2.out ⟨W.heap.size, 0, none⟩ 1 1 [.string c] rfl rfl K1.out s1 (Nat.zero_lt_one) s2.out s3.out s4.out (W.heap.size + 1) s5.out ?_; intro g' cap' w1 hown' hgrow hat hlt2; have bx3 := Hbx2.out.kept hgrow s6.out; have cx := bx3.cell; have fx := bx3.frozen)
  all_goals
    have fin := box_end (T := 28) (e := 9) (by decide) bx hn1 hn Hrow1.out hown' hgrow hat
    go_wp2
    go_end0
    obtain ⟨f1, f2, f3, f4, f5, f6⟩ := fin
    refine ⟨rfl, some g', ⟨_, f1, ?_, rfl, ?_, f6 _ _ h1 bel⟩, f3, f4, ?_⟩
    · unfold TxtRow
      have e1 : (pre ++ [i]).map (fun i => (l.getD i ac0).code) = (pre.map fun i => (l.getD i ac0).code) ++ [c] := by rw [List.map_append, ← Hcd.out]; rfl
      rw [e1, List.map_append, List.length_append, List.length_map]
      exact f2
    · have hlB : B2 < W.heap.size := by omega
      exact (World.cell?_of_block (w := W) (a := ⟨B2, 0, none⟩) (f5 B2 hlB (fun e => h12 e.symm) (fun e => by have := hown B2 e.symm; omega))).trans cB2
    · intro x hx hx2 hx3
      exact f5 x hx (by omega) hx3

theorem under1_does (w0 : World) (n0 B1 B2 : Nat) (a : Option Addr) (l : List Ac) (cap : Nat) (hlen : l.length ≤ 60) (hsl : IsSl w0 a l cap) (h1 : w0.heap.size ≤ B1) (h2 : w0.heap.size ≤ B2) (h12 : B1 ≠ B2) (hn1 : B1 < n0) (hn2 : B2 < n0) :
    Does 26 (.pointer (some ⟨B1, 0, none⟩), .pointer (some ⟨B2, 0, none⟩)) n0 a l cap (UJ w0 n0 B1 B2 a l cap) := by
  refine ⟨fun args W => enters Tryd.func26 (by kernel_rfl) ⟨_, rfl⟩ args W, fun gc pre i W hJ hi hp hn => under1_call w0 n0 B1 B2 a l cap hlen hsl h1 h2 h12 hn1 hn2 gc pre i W hJ hi hp hn, ?_, ?_, ?_⟩
  · rintro gc pre W W' row ⟨v, bx, hr, rfl, c2, bel⟩ hg hn hrow
    refine ⟨v, bx.kept hg (fun e => by have := (hrow B1 e.symm).1; omega), World.ownsRow.kept hr hg ?_, rfl, cell_grown c2 hg (fun e => by have := (hrow B2 e).1; omega), bel.grown hg bel.size (fun j e => by have := (hrow j e).1; omega)⟩
    cases hv : v.ownBlock with
    | none => exact .inl rfl
    | some x => exact .inr (fun e => (hrow x e.symm).2 hv)
  · rintro gc pre W ⟨v, bx, hr, rfl, c2, bel⟩
    exact hsl.below bel
  · rintro gc pre W ⟨v, bx, hr, rfl, c2, bel⟩ b hb
    rcases hr.form with ⟨rfl, _⟩ | ⟨g, cp, rfl, _, hlt, _⟩
    · cases hb
    · cases hb; exact hlt
end Go.Proofs.YtoipnafljmhceaaDoor
