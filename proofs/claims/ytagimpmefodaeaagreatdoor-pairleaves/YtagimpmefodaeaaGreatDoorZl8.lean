/-
  Sides in memory; the contracts of slices.Index and slices.Contains over them.
-/
import Derived.Test.YtagimpmefodaeaaGreatDoorZl7
import Derived.Test.YtagimpmefodaeaaGreatDoorProg
import Derived.WalkKit
import Derived.WalkSpells
import Derived.Lib.OthersKept
import Derived.Laws.NewBlocks
import Derived.Below
import Derived.Test.YtagimpmefodaeaaGreatDoorRows
import Derived.Laws.Externs
import Derived.Test.YtagimpmefodaeaaGreatDoorZl6
import Derived.Test.YtagimpmefodaeaaGreatDoorZl5
import Derived.Laws.ResultCell
import Derived.Laws.StructEq
namespace Go.Proofs.YtagimpmefodaeaaGreatDoor
set_option linter.unusedVariables false
set_option linter.unusedSimpArgs false
set_option maxRecDepth 100000
open Go.RowKit Go.Lib

/-- What is asked of a function that is told a balance, and has three values of its own. -/
structure BTells3 (g : Nat) (u v z : Value) (p : Bl → Bool) (w : World) : Prop where
  eg : ∀ args W, (callFunc g args).run Tryz.prog W = .ok (.enter g args) W
  call : ∀ (x : Bl) W, Below w.heap.size w W → Calls Tryz.prog g #[.agg x.cells, u, v, z] W fun e w' => e = .returned (.bool (p x)) ∧ Below W.heap.size W w'
set_option maxHeartbeats 1000000 in
theorem fidx3_some (g : Nat) (u v z : Value) (p : Bl → Bool) (b off cap : Nat) (l : List Bl) (w : World) (hp : BTells3 g u v z p w) (hb : b < w.heap.size) (hlen : (l.length : Int) ≤ 9223372036854775807) (hc : BlsAt w b off l) :
    Calls Tryz.prog 80 #[.slice (some ⟨b, off, none⟩) l.length cap, .func (.func g) #[] #[u, v, z]] w fun e w' => e = .returned (.int .i64 (fidx p 0 l)) ∧ Below w.heap.size w w' := by
  have eg := hp.eg
  have Hp : Hid (BTells3 g u v z p w) := hp
  have Hc : Hid (BlsAt w b off l) := hc
  clear hp hc
  obtain ⟨res, hres⟩ : ∃ res, fidx p 0 l = res := ⟨_, rfl⟩
  have Hres : Hid (fidx p 0 l = res) := hres
  rw [hres]
  clear hres
  go_enter Tryz.func80, Tryz.ntmps80
  go_wp2
  go_loopw [8] (fun i wr => ∃ k : Nat, k ≤ l.length ∧ i = .int .i64 k ∧ Hid (fidx p k (l.drop k) = res) ∧ Below w.heap.size w wr) (fun i _ => l.length - (RowKit.intOf i).toNat)
  case atStart => exact ⟨0, Nat.zero_le _, rfl, Hres.out, Below.refl _ _⟩
  case round =>
    obtain ⟨k, hk, rfl, H, BW⟩ := hrel
    by_cases hlt : k < l.length
    · have hn := (Hc.out k hlt).below BW hb
      have hcall := Hp.out.call (l.getD k bl0) wr BW
      have E : Hid ((if p (l.getD k bl0) = true then (k : Int) else fidx p (k + 1) (l.drop (k + 1))) = res) := by
        have := H.out
        rw [bls_drop l k hlt] at this
        exact this
      clear H
      generalize l.getD k bl0 = a at *
      obtain ⟨a0, a1, a2, a3⟩ := a
      obtain ⟨c0, c1, c2, c3⟩ := hn
      simp only [Bl.cells] at c0 c1 c2 c3 hcall
      have i0 : (0 : Int) ≤ k := by omega
      have i1 : (k : Int) < l.length := by omega
      cases hq : p ⟨a0, a1, a2, a3⟩
      · rw [hq] at hcall
        have HN : Hid (fidx p (k + 1) (l.drop (k + 1)) = res) := by
          have := E.out; rw [if_neg (by rw [hq]; simp)] at this; exact this
        go_wp2_with (go_at_fn g; refine hcall.mono ?_; rintro e w' ⟨rfl, hb'⟩)
        go_roundw
        case rel => exact ⟨k + 1, by omega, by go_num, HN, BW.trans (hb'.mono BW.size)⟩
        case measure => simp [RowKit.intOf]; omega
      · rw [hq] at hcall
        have er : res = k := by rw [← E.out, if_pos hq]
        subst er
        go_wp2_with (go_at_fn g; refine hcall.mono ?_; rintro e w' ⟨rfl, hb'⟩)
        go_ret
        exact ⟨rfl, BW.trans (hb'.mono BW.size)⟩
    · have hk2 : k = l.length := by omega
      subst hk2
      have er : res = -1 := by rw [← H.out, List.drop_length]; rfl
      subst er
      go_wp2
      go_ret
      exact ⟨rfl, BW⟩
theorem fidx3_nil (a : Option Addr) (cap : Nat) (f : Value) (w : World) :
    Calls Tryz.prog 80 #[.slice a 0 cap, f] w fun e w' => e = .returned (.int .i64 (-1)) ∧ Below w.heap.size w w' := by
  go_enter Tryz.func80, Tryz.ntmps80
  go_wp2
  refine wp_loop_rounds 1 ?_
  rw [rounds_succ]
  go_wp2
  go_ret
  exact ⟨rfl, Below.refl _ _⟩
theorem fidx3_any (g : Nat) (u v z : Value) (p : Bl → Bool) (a : Option Addr) (cap : Nat) (l : List Bl) (w : World) (hp : BTells3 g u v z p w) (hlen : (l.length : Int) ≤ 9223372036854775807) (h : IsBl w a l cap) :
    Calls Tryz.prog 80 #[.slice a l.length cap, .func (.func g) #[] #[u, v, z]] w fun e w' => e = .returned (.int .i64 (fidx p 0 l)) ∧ Below w.heap.size w w' := by
  rcases h.lies with rfl | ⟨b, off, rfl, hlt, hc⟩
  · exact fidx3_nil a cap _ w
  · exact fidx3_some g u v z p b off cap l w hp hlt hlen hc
set_option maxHeartbeats 2000000 in
theorem has1_any (x : Bl) (en : Int) (acc cur : ByteArray) (B1 B2 B3 : Nat) (w : World) (h1 : B1 < w.heap.size) (h2 : B2 < w.heap.size) (h3 : B3 < w.heap.size) (hB1 : w.cell? ⟨B1, 0, none⟩ = some (.int .i64 en)) (hB2 : w.cell? ⟨B2, 0, none⟩ = some (.string acc)) (hB3 : w.cell? ⟨B3, 0, none⟩ = some (.string cur)) :
    Calls Tryz.prog 81 #[.agg x.cells, .pointer (some ⟨B1, 0, none⟩), .pointer (some ⟨B2, 0, none⟩), .pointer (some ⟨B3, 0, none⟩)] w fun e w' => e = .returned (.bool (hasB en acc cur x)) ∧ Below w.heap.size w w' := by
  obtain ⟨x0, x1, x2, x3⟩ := x
  have b0 : Below w.heap.size w (w.alloc (.cells #[.int .i64 x0, .string x1, .string x2, .int .i64 x3] 92)) := (Below.refl _ w).alloc (Nat.le_refl _) _
  have k1 : (w.alloc (.cells #[.int .i64 x0, .string x1, .string x2, .int .i64 x3] 92)).cell? ⟨B1, 0, none⟩ = some (.int .i64 en) := (b0.cell (p := ⟨B1, 0, none⟩) h1).trans hB1
  have k2 : (w.alloc (.cells #[.int .i64 x0, .string x1, .string x2, .int .i64 x3] 92)).cell? ⟨B2, 0, none⟩ = some (.string acc) := (b0.cell (p := ⟨B2, 0, none⟩) h2).trans hB2
  have k3 : (w.alloc (.cells #[.int .i64 x0, .string x1, .string x2, .int .i64 x3] 92)).cell? ⟨B3, 0, none⟩ = some (.string cur) := (b0.cell (p := ⟨B3, 0, none⟩) h3).trans hB3
  simp only [Bl.cells]
  clear hB1 hB2 hB3
  by_cases c1 : x0 = en
  · have c1' : (x0 == en) = true := by simp [c1]
    by_cases c2 : x1 = acc
    · by_cases c3 : x2 = cur
      · have e1 : hasB en acc cur ⟨x0, x1, x2, x3⟩ = true := by simp [hasB, c1, c2, c3]
        rw [e1]
        subst c1
        subst c2
        subst c3
        go_enter Tryz.func81, Tryz.ntmps81
        go_wp2
        go_ret
        exact ⟨rfl, b0⟩
      · have e1 : hasB en acc cur ⟨x0, x1, x2, x3⟩ = false := by simp [hasB, c3]
        have c3' := ch_ne c3
        rw [e1]
        subst c1
        subst c2
        go_enter Tryz.func81, Tryz.ntmps81
        go_wp2
        go_ret
        exact ⟨by rw [← c3']; rfl, b0⟩
    · have e1 : hasB en acc cur ⟨x0, x1, x2, x3⟩ = false := by simp [hasB, c2]
      have c2' := ch_ne c2
      rw [e1]
      subst c1
      go_enter Tryz.func81, Tryz.ntmps81
      go_wp2
      go_ret
      exact ⟨rfl, b0⟩
  · have e1 : hasB en acc cur ⟨x0, x1, x2, x3⟩ = false := by simp [hasB, c1]
    have c1' : (x0 == en) = false := by rw [beq_eq_false_iff_ne]; exact c1
    rw [e1]
    go_enter Tryz.func81, Tryz.ntmps81
    go_wp2
    go_ret
    exact ⟨rfl, b0⟩

theorem cell_new1 (w : World) (v : Value) (t : TypeId) : (w.alloc (.cells #[v] t)).cell? ⟨w.heap.size, 0, none⟩ = some v := by simp
set_option maxHeartbeats 2000000 in
theorem ldHas_any (a : Option Addr) (cap : Nat) (b : List Bl) (en : Int) (acc cur : ByteArray) (w : World) (hlen : (b.length : Int) ≤ 9223372036854775807) (h : IsBl w a b cap) :
    Calls Tryz.prog 55 #[.slice a b.length cap, .int .i64 en, .string acc, .string cur] w fun e w' => e = .returned (.int .i64 (getB b en acc cur)) ∧ Below w.heap.size w w' := by
  obtain ⟨w0, hw0⟩ : ∃ w0, ((w.alloc (.cells #[.int .i64 en] 3)).alloc (.cells #[.string acc] 9)).alloc (.cells #[.string cur] 9) = w0 := ⟨_, rfl⟩
  have b1 : Below w.heap.size w (w.alloc (.cells #[.int .i64 en] 3)) := (Below.refl _ w).alloc (Nat.le_refl _) _
  have b1' : Below w.heap.size w ((w.alloc (.cells #[.int .i64 en] 3)).alloc (.cells #[.string acc] 9)) := b1.alloc b1.size _
  have b2 : Below w.heap.size w w0 := by rw [← hw0]; exact b1'.alloc b1'.size _
  have hs : w0.heap.size = w.heap.size + 3 := by rw [← hw0]; simp
  have q1 := cell_new1 w (.int .i64 en) 3
  have q2 := cell_new1 (w.alloc (.cells #[.int .i64 en] 3)) (.string acc) 9
  have q3 := cell_new1 ((w.alloc (.cells #[.int .i64 en] 3)).alloc (.cells #[.string acc] 9)) (.string cur) 9
  have z1 : (w.alloc (.cells #[.int .i64 en] 3)).heap.size = w.heap.size + 1 := by simp
  have z2 : ((w.alloc (.cells #[.int .i64 en] 3)).alloc (.cells #[.string acc] 9)).heap.size = w.heap.size + 2 := by simp
  have k3 : w0.cell? ⟨w.heap.size + 2, 0, none⟩ = some (.string cur) := by rw [← hw0, ← z2]; exact q3
  have k2 : w0.cell? ⟨w.heap.size + 1, 0, none⟩ = some (.string acc) := by
    rw [← hw0, ← z1]
    exact (((Below.refl _ _).alloc (Nat.le_refl _) _ : Below _ ((w.alloc (.cells #[.int .i64 en] 3)).alloc (.cells #[.string acc] 9)) _).cell (p := ⟨_, 0, none⟩) (by simp)).trans q2
  have k1 : w0.cell? ⟨w.heap.size, 0, none⟩ = some (.int .i64 en) := by
    have d1 : Below (w.heap.size + 1) (w.alloc (.cells #[.int .i64 en] 3)) ((w.alloc (.cells #[.int .i64 en] 3)).alloc (.cells #[.string acc] 9)) := (Below.refl _ _).alloc (by simp) _
    have d2 := d1.alloc (by simp) (.cells #[.string cur] 9)
    rw [← hw0]
    exact (d2.cell (p := ⟨w.heap.size, 0, none⟩) (by show w.heap.size < _; omega)).trans q1
  have T : BTells3 81 (.pointer (some ⟨w.heap.size, 0, none⟩)) (.pointer (some ⟨w.heap.size + 1, 0, none⟩)) (.pointer (some ⟨w.heap.size + 2, 0, none⟩)) (hasB en acc cur) w0 := by
    refine ⟨fun args W => enters Tryz.func81 (by kernel_rfl) ⟨_, rfl⟩ args W, fun x W hW => ?_⟩
    have hsz := hW.size
    exact has1_any x en acc cur w.heap.size (w.heap.size + 1) (w.heap.size + 2) W (by omega) (by omega) (by omega) ((hW.cell (p := ⟨w.heap.size, 0, none⟩) (by show w.heap.size < _; omega)).trans k1) ((hW.cell (p := ⟨w.heap.size + 1, 0, none⟩) (by show w.heap.size + 1 < _; omega)).trans k2) ((hW.cell (p := ⟨w.heap.size + 2, 0, none⟩) (by show w.heap.size + 2 < _; omega)).trans k3)
  have HI : Hid (Calls _ _ _ _ _) := fidx3_any _ _ _ _ _ a cap b w0 T hlen (h.below b2)
  obtain ⟨res, hres⟩ : ∃ res, getB b en acc cur = res := ⟨_, rfl⟩
  have Hres : Hid (getB b en acc cur = res) := hres
  rw [hres]
  have HW0 : Hid (_ = w0) := hw0
  have HB2 : Hid (Below w.heap.size w w0) := b2
  have HH : Hid (IsBl w a b cap) := h
  clear hres T h hw0 b1 b2 b1' hs q1 q2 q3 z1 z2 k1 k2 k3
  rcases fidx_spec (hasB en acc cur) b 0 with ⟨e1, e2⟩ | ⟨j, hj, e1, e2⟩
  · have er : res = 0 := by rw [← Hres.out]; unfold getB; rw [e2]; rfl
    subst er
    rw [e1] at HI
    clear e1 e2 Hres HH
    go_enter Tryz.func55, Tryz.ntmps55
    go_upto_region 1 with fail
    rw [HW0.out]
    go_wp2_with (go_at_call 80; refine HI.out.mono ?_; rintro e w1 ⟨rfl, hb1⟩)
    go_ret
    exact ⟨rfl, HB2.out.trans (hb1.mono HB2.out.size)⟩
  · have er : res = (b.getD j bl0).amt := by rw [← Hres.out]; unfold getB; rw [e2]; rfl
    rw [e1, Nat.zero_add] at HI
    obtain ⟨bb, off, rfl, hlt, hc⟩ := HH.out.some hj
    have HC : Hid (∀ W, Below w.heap.size w W → W.cell? ⟨bb, off + j * 4 + 3, none⟩ = some (.int .i64 res)) := fun W hW => by
      rw [er]; exact ((hc j hj).below hW hlt).c3
    have j0 : (0 : Int) ≤ j := by omega
    have j1 : (j : Int) < b.length := by omega
    have j2 : ¬ (j : Int) < 0 := by omega
    clear e1 e2 Hres HH er hc
    go_enter Tryz.func55, Tryz.ntmps55
    go_upto_region 1 with fail
    rw [HW0.out]
    go_wp2_with fail
    refine HI.out.mono ?_
    rintro e w1 ⟨rfl, hb1⟩
    have B3 := HB2.out.trans (hb1.mono HB2.out.size)
    have c3 := HC.out w1 B3
    clear HC HI hb1 HB2 HW0
    go_wp2
    go_ret
    exact ⟨rfl, B3⟩
end Go.Proofs.YtagimpmefodaeaaGreatDoor

namespace Go.Proofs.YtagimpmefodaeaaGreatDoor
set_option linter.unusedVariables false
set_option linter.unusedSimpArgs false
set_option maxRecDepth 100000
open Go.RowKit Go.Lib

/-- A row of numbers. -/
def NRow (w : World) (g : Nat) (r : List Int) : Prop := w.heap[g]? = some (.cells (r.map (Value.int .i64)).toArray 3 (0, 0))
theorem NRow.cell {w : World} {g : Nat} {r : List Int} (h : NRow w g r) {i : Nat} (hi : i < r.length) : w.cell? ⟨g, i, none⟩ = some (.int .i64 (r.getD i 0)) := by
  unfold NRow at h
  simp [World.cell?, h, hi]
theorem NRow.frozen {w : World} {g : Nat} {r : List Int} (h : NRow w g r) (i : Nat) : w.frozen? ⟨g, i, none⟩ = false := by
  unfold NRow at h
  simp [World.frozen?, h]
theorem NRow.set {w : World} {g : Nat} {r : List Int} (h : NRow w g r) (i : Nat) (x : Int) : NRow (w.setCell ⟨g, i, none⟩ (.int .i64 x)) g (r.set i x) := by
  unfold NRow at *
  rw [setCell_eq_setRow w g i _ 3 (0, 0) _ h, setRow_heap w g _ _ 3 (0, 0) h]
  simp [List.map_set]
/-- All but one block is as it was. -/
structure But (g : Nat) (V W : World) : Prop where
  os : W.os = V.os
  tape : W.tape = V.tape
  output : W.output = V.output
  size : V.heap.size = W.heap.size
  block : ∀ b, b ≠ g → W.heap[b]? = V.heap[b]?
theorem But.refl (g : Nat) (V : World) : But g V V := ⟨rfl, rfl, rfl, rfl, fun _ _ => rfl⟩
theorem But.trans {g : Nat} {A B C : World} (h : But g A B) (k : But g B C) : But g A C := ⟨k.os.trans h.os, k.tape.trans h.tape, k.output.trans h.output, h.size.trans k.size, fun b hb => (k.block b hb).trans (h.block b hb)⟩
theorem But.drew {g : Nat} {A B : World} (h : But g A B) : But g A B.drew := h.trans ⟨rfl, rfl, rfl, rfl, fun _ _ => rfl⟩
theorem But.set {g : Nat} {A B : World} (h : But g A B) (o : Nat) (v : Value) : But g A (B.setCell ⟨g, o, none⟩ v) :=
  h.trans ⟨rfl, rfl, rfl, by simp [World.setCell], fun b hb => Below.heap_setCell _ _ _ _ hb⟩

theorem nrow_made (w : World) (n : Nat) : NRow (w.alloc (.cells (madeCells #[.int .i64 0] n) 3)) w.heap.size (List.replicate n 0) := by
  unfold NRow
  rw [show (w.alloc (.cells (madeCells #[.int .i64 0] n) 3)).heap[w.heap.size]? = some (.cells (madeCells #[.int .i64 0] n) 3 (0, 0)) by unfold World.alloc; simp only [Array.getElem?_push_size]]
  congr 2
  apply Array.ext
  · simp [madeCells]
  · intro i h1 h2
    simp [madeCells, Nat.mod_one]
theorem NRow.ltS {w : World} {g : Nat} {r : List Int} (h : NRow w g r) : g < w.heap.size := (Array.getElem?_eq_some_iff.1 h).1
theorem NRow.belowS {w w' : World} {g n : Nat} {r : List Int} (h : NRow w g r) (hb : Below n w w') (hg : g < n) : NRow w' g r := (hb.block g hg).trans h
theorem NRow.other {w : World} {g g' : Nat} {r : List Int} (h : NRow w g r) (hn : g ≠ g') (i : Nat) (v : Value) : NRow (w.setCell ⟨g', i, none⟩ v) g r := (Below.heap_setCell _ _ _ _ hn).trans h
/-- A slice of numbers that is read. -/
structure IsW (w : World) (a : Option Addr) (l : List Int) (cap : Nat) : Prop where
  cap : l.length ≤ cap
  lies : l = [] ∨ ∃ b off, a = some ⟨b, off, none⟩ ∧ b < w.heap.size ∧ ∀ k, k < l.length → w.cell? ⟨b, off + k, none⟩ = some (.int .i64 (l.getD k 0))
theorem IsW.below {w w' : World} {a : Option Addr} {l : List Int} {cap : Nat} (h : IsW w a l cap) (hb : Below w.heap.size w w') : IsW w' a l cap := by
  refine ⟨h.cap, ?_⟩
  rcases h.lies with h | ⟨b, off, e, hlt, hc⟩
  · exact .inl h
  · exact .inr ⟨b, off, e, by have := hb.size; omega, fun k hk => (hb.cell (p := ⟨b, off + k, none⟩) hlt).trans (hc k hk)⟩
theorem IsW.at {w : World} {a : Option Addr} {l : List Int} {cap : Nat} (h : IsW w a l cap) {k : Nat} (hk : k < l.length) : ∃ b off, a = some ⟨b, off, none⟩ ∧ b < w.heap.size ∧ w.cell? ⟨b, off + k, none⟩ = some (.int .i64 (l.getD k 0)) := by
  rcases h.lies with h | ⟨b, off, e, hlt, hc⟩
  · subst h; simp at hk
  · exact ⟨b, off, e, hlt, hc k hk⟩
theorem NRow.isW {w : World} {g : Nat} {r : List Int} (h : NRow w g r) (cap : Nat) (hc : r.length ≤ cap) : IsW w (some ⟨g, 0, none⟩) r cap :=
  ⟨hc, .inr ⟨g, 0, rfl, h.ltS, fun k hk => by rw [Nat.zero_add]; exact h.cell hk⟩⟩
end Go.Proofs.YtagimpmefodaeaaGreatDoor

namespace Go.Proofs.YtagimpmefodaeaaGreatDoor.Math
set_option linter.unusedVariables false
/-- The invariant of one step of the long division: u < y, y = y1*b + y0. -/
structure DivSt (u u1 y1 y0 q r : Nat) : Prop where
  eq : u = q * y1 + r
  ge : (u * 4294967296 + u1) / (y1 * 4294967296 + y0) ≤ q

theorem div_start (u u1 y1 y0 : Nat) (h1 : 0 < y1) (hu1 : u1 < 4294967296) : DivSt u u1 y1 y0 (u / y1) (u % y1) := by
  refine ⟨?_, ?_⟩
  · have := Nat.div_add_mod u y1
    rw [Nat.mul_comm] at this; omega
  · have hy : 0 < y1 * 4294967296 + y0 := by omega
    rw [Nat.div_le_iff_le_mul_add_pred hy]
    have e := Nat.div_add_mod u y1
    have l := Nat.mod_lt u h1
    generalize u / y1 = q at *
    generalize u % y1 = r at *
    have e2 : (y1 * 4294967296 + y0) * q = y1 * q * 4294967296 + y0 * q := by
      rw [Nat.add_mul, Nat.mul_right_comm]
    rw [e2]
    generalize y1 * q = t at *
    generalize y0 * q = t0 at *
    omega

theorem quo_lt (u u1 y : Nat) (hu : u < y) (hu1 : u1 < 4294967296) : (u * 4294967296 + u1) / y < 4294967296 := by
  rw [Nat.div_lt_iff_lt_mul (by omega)]
  omega

/-- A round: the guess was too great, so one less is no less than the quotient. -/
theorem div_round (u u1 y1 y0 q r : Nat) (h : DivSt u u1 y1 y0 q r) (hu : u < y1 * 4294967296 + y0) (hu1 : u1 < 4294967296)
    (hc : 4294967296 ≤ q ∨ r * 4294967296 + u1 < q * y0) : 1 ≤ q ∧ DivSt u u1 y1 y0 (q - 1) (r + y1) := by
  have hq : (u * 4294967296 + u1) / (y1 * 4294967296 + y0) < q := by
    rcases hc with hc | hc
    · exact Nat.lt_of_lt_of_le (quo_lt u u1 _ hu hu1) hc
    · rw [Nat.div_lt_iff_lt_mul (by omega)]
      have e := h.eq
      have e2 : q * (y1 * 4294967296 + y0) = q * y1 * 4294967296 + q * y0 := by
        rw [Nat.mul_add, Nat.mul_assoc]
      rw [e2, e, Nat.add_mul, Nat.add_assoc]
      exact Nat.add_lt_add_left hc _
  have h1 : 1 ≤ q := Nat.lt_of_le_of_lt (Nat.zero_le _) hq
  refine ⟨h1, ?_, Nat.le_sub_one_of_lt hq⟩
  have e := h.eq
  obtain ⟨p, rfl⟩ : ∃ p, q = p + 1 := ⟨q - 1, by omega⟩
  simp only [Nat.add_sub_cancel]
  rw [Nat.add_mul] at e
  omega

theorem div_stop (u u1 y1 y0 q r : Nat) (h : DivSt u u1 y1 y0 q r) (hu : u < y1 * 4294967296 + y0)
    (hc : q * y0 ≤ r * 4294967296 + u1) : q = (u * 4294967296 + u1) / (y1 * 4294967296 + y0) := by
  refine Nat.le_antisymm ?_ h.ge
  rw [Nat.le_div_iff_mul_le (by omega)]
  have e := h.eq
  have e2 : q * (y1 * 4294967296 + y0) = q * y1 * 4294967296 + q * y0 := by
    rw [Nat.mul_add, Nat.mul_assoc]
  rw [e2]
  generalize q * y1 = t at *
  generalize q * y0 = t0 at *
  omega

theorem div_break (u u1 y1 y0 q r : Nat) (h : DivSt u u1 y1 y0 q r) (hu : u < y1 * 4294967296 + y0) (h0 : y0 < 4294967296)
    (hr : 4294967296 ≤ r) : q = (u * 4294967296 + u1) / (y1 * 4294967296 + y0) := by
  have hq : q < 4294967296 := by
    apply Classical.byContradiction
    intro hn
    have hn : 4294967296 ≤ q := by omega
    have e := h.eq
    have := Nat.mul_le_mul_right y1 hn
    generalize q * y1 = t at *
    omega
  refine div_stop u u1 y1 y0 q r h hu ?_
  have := Nat.mul_le_mul (Nat.le_of_lt hq) (Nat.le_of_lt h0)
  omega

theorem shift_split (lo P Q : Nat) (hPQ : P * Q = 18446744073709551616) : lo / Q * 18446744073709551616 + lo * P % 18446744073709551616 = lo * P := by
  have hP : 0 < P := by
    rcases Nat.eq_zero_or_pos P with h | h
    · rw [h, Nat.zero_mul] at hPQ; omega
    · exact h
  have e : lo * P / 18446744073709551616 = lo / Q := by
    rw [← hPQ, Nat.mul_comm P Q, Nat.mul_div_mul_right _ _ hP]
  have := Nat.div_add_mod (lo * P) 18446744073709551616
  rw [e] at this
  omega

theorem two_steps (U32 un1 un0 Y : Nat) (hY : 0 < Y) :
    (U32 * 18446744073709551616 + (un1 * 4294967296 + un0)) / Y = (U32 * 4294967296 + un1) / Y * 4294967296 + ((U32 * 4294967296 + un1) % Y * 4294967296 + un0) / Y ∧
    (U32 * 18446744073709551616 + (un1 * 4294967296 + un0)) % Y = ((U32 * 4294967296 + un1) % Y * 4294967296 + un0) % Y := by
  have e : U32 * 18446744073709551616 + (un1 * 4294967296 + un0) = ((U32 * 4294967296 + un1) % Y * 4294967296 + un0) + Y * ((U32 * 4294967296 + un1) / Y * 4294967296) := by
    have h := Nat.div_add_mod (U32 * 4294967296 + un1) Y
    rw [← Nat.mul_assoc]
    generalize Y * ((U32 * 4294967296 + un1) / Y) = t at *
    generalize (U32 * 4294967296 + un1) % Y = r at *
    omega
  rw [e, Nat.add_mul_div_left _ _ hY, Nat.add_mul_mod_self_left]
  exact ⟨Nat.add_comm _ _, rfl⟩

theorem div64_math (hi lo y P Q : Nat) (hPQ : P * Q = 18446744073709551616) (hy : 0 < y) :
    let U := hi * P + lo / Q
    let V := lo * P % 18446744073709551616
    let Y := y * P
    (U * 4294967296 + V / 4294967296) / Y * 4294967296 + ((U * 4294967296 + V / 4294967296) % Y * 4294967296 + V % 4294967296) / Y = (hi * 18446744073709551616 + lo) / y ∧
    ((U * 4294967296 + V / 4294967296) % Y * 4294967296 + V % 4294967296) % Y / P = (hi * 18446744073709551616 + lo) % y := by
  intro U V Y
  have hP : 0 < P := by
    rcases Nat.eq_zero_or_pos P with h | h
    · rw [h, Nat.zero_mul] at hPQ; omega
    · exact h
  have hY : 0 < Y := Nat.mul_pos hy hP
  have h2 := two_steps U (V / 4294967296) (V % 4294967296) Y hY
  have e : U * 18446744073709551616 + (V / 4294967296 * 4294967296 + V % 4294967296) = (hi * 18446744073709551616 + lo) * P := by
    have h1 := shift_split lo P Q hPQ
    have h3 : V / 4294967296 * 4294967296 + V % 4294967296 = V := Nat.div_add_mod' _ _
    rw [h3]
    show (hi * P + lo / Q) * 18446744073709551616 + lo * P % 18446744073709551616 = _
    rw [Nat.add_mul, Nat.add_mul, Nat.add_assoc, h1, Nat.mul_right_comm]
  rw [e] at h2
  rw [← h2.1, ← h2.2]
  refine ⟨Nat.mul_div_mul_right _ _ hP, ?_⟩
  rw [Nat.mul_mod_mul_right, Nat.mul_div_cancel _ hP]
/-- What 64 bits with a sign hold. -/
def I64 (x : Int) : Prop := -9223372036854775808 ≤ x ∧ x ≤ 9223372036854775807

/-- The two words of a sum. -/
def loW (s : Int) : Int := s % 18446744073709551616
def hiW (s : Int) : Int := s / 18446744073709551616 % 18446744073709551616
theorem loW_bd (s : Int) : 0 ≤ loW s ∧ loW s < 18446744073709551616 := by unfold loW; omega
theorem hiW_bd (s : Int) : 0 ≤ hiW s ∧ hiW s < 18446744073709551616 := by unfold hiW; omega
/-- a word of an int: itself, or 2^64 more. -/
theorem loW_add (s a : Int) : (loW s + loW a) % 18446744073709551616 = loW (s + a) := by unfold loW; omega
theorem hiW_add (s a : Int) (h : I64 a) : (hiW s + (loW (a / 9223372036854775808) + (loW s + loW a) / 18446744073709551616)) % 18446744073709551616 = hiW (s + a) := by
  unfold hiW loW; unfold I64 at h
  have key : (s + a) / 18446744073709551616 = s / 18446744073709551616 + a / 9223372036854775808 + (s % 18446744073709551616 + a % 18446744073709551616) / 18446744073709551616 := by
    by_cases h0 : a < 0
    · have e1 : a / 9223372036854775808 = -1 := by omega
      have e2 : a % 18446744073709551616 = a + 18446744073709551616 := by omega
      rw [e1, e2]; omega
    · have e1 : a / 9223372036854775808 = 0 := by omega
      have e2 : a % 18446744073709551616 = a := by omega
      rw [e1, e2]; omega
  rw [key]
  generalize (s % 18446744073709551616 + a % 18446744073709551616) / 18446744073709551616 = c
  generalize s / 18446744073709551616 = p
  generalize a / 9223372036854775808 = q
  omega
/-- The carry of two words. -/
def cW (s a : Int) : Int := (loW s + loW a) / 18446744073709551616
theorem cW_bd (s a : Int) : 0 ≤ cW s a ∧ cW s a ≤ 1 := by have := loW_bd s; have := loW_bd a; unfold cW; omega
theorem hiW_step (s a : Int) (h : I64 a) : (hiW s + (a / 9223372036854775808 % 18446744073709551616 + cW s a) % 18446744073709551616) % 18446744073709551616 = hiW (s + a) := by
  rw [← hiW_add s a h]
  unfold cW
  generalize (loW s + loW a) / 18446744073709551616 = c
  unfold loW
  generalize a / 9223372036854775808 = q
  generalize hiW s = p
  omega
theorem sum_fits (s : Int) (h : -170141183460469231731687303715884105728 ≤ s ∧ s < 170141183460469231731687303715884105728) (x : Int)
    (hx : x = if loW s < 9223372036854775808 then loW s else loW s - 18446744073709551616) :
    (hiW s = loW (x / 9223372036854775808) ↔ I64 s) ∧ (I64 s → x = s) := by
  unfold hiW loW at *; unfold I64
  split at hx <;> omega
/-- One more, where what was cut off is more than a half, or is it and the whole is odd. -/
def upOf (w r d : Int) : Int := if 2 * r > d ∨ (2 * r = d ∧ w % 2 = 1) then 1 else 0
/-- The size of a part, rounded. -/
def partOf (m n d : Int) : Int := m * n / d + upOf (m * n / d) (m * n % d) d
def absI (a : Int) : Int := if a < 0 then -a else a
def ratioOk (a n d : Int) : Prop := partOf (absI a) n d ≤ 9223372036854775807 + (if a < 0 then 1 else 0)
def ratioV (a n d : Int) : Int := if a < 0 then -(partOf (absI a) n d) else partOf (absI a) n d

theorem absI_nonneg (a : Int) : 0 ≤ absI a := by unfold absI; split <;> omega
theorem absI_neg (a : Int) : absI (-a) = absI a := by unfold absI; split <;> split <;> omega
theorem upOf_bd (w r d : Int) : 0 ≤ upOf w r d ∧ upOf w r d ≤ 1 := by unfold upOf; split <;> omega

theorem near (m n d : Int) (hd : 1 ≤ d) : let t := partOf m n d
    2 * (m * n - t * d) ≤ d ∧ -d ≤ 2 * (m * n - t * d) ∧ ((2 * (m * n - t * d) = d ∨ 2 * (m * n - t * d) = -d) → t % 2 = 0) := by
  intro t
  have e := Int.mul_ediv_add_emod (m * n) d
  have l0 := Int.emod_nonneg (m * n) (b := d) (by omega)
  have l1 := Int.emod_lt_of_pos (m * n) (b := d) (by omega)
  have ht : t = m * n / d + upOf (m * n / d) (m * n % d) d := rfl
  generalize m * n = p at *
  generalize p / d = w at *
  generalize p % d = r at *
  have hm : t * d = d * w + upOf w r d * d := by rw [ht, Int.add_mul, Int.mul_comm w d]
  rw [hm]
  clear_value t
  subst ht
  generalize d * w = dw at *
  unfold upOf
  split
  · rename_i h
    rw [Int.one_mul]
    omega
  · rename_i h
    rw [Int.zero_mul]
    omega

theorem part_all (m d : Int) (hd : 1 ≤ d) : partOf m d d = m := by
  have e1 : m * d / d = m := Int.mul_ediv_cancel m (by omega)
  have e2 : m * d % d = 0 := Int.mul_emod_left m d
  unfold partOf upOf
  rw [e1, e2, if_neg (by omega)]
  omega

theorem part_bd (m n d : Int) (h0 : 0 ≤ m) (h1 : m ≤ 1000000000) (h2 : 0 ≤ n) (h3 : n ≤ 1000000000) (hd : 1 ≤ d) : 0 ≤ partOf m n d ∧ partOf m n d ≤ 1000000000000000001 := by
  have a := Int.mul_nonneg h0 h2
  have b : m * n ≤ 1000000000 * 1000000000 := Int.mul_le_mul h1 h3 h2 (by omega)
  have c := Int.ediv_nonneg a (by omega : (0 : Int) ≤ d)
  have e : m * n / d ≤ m * n := Int.ediv_le_self _ a
  have u := upOf_bd (m * n / d) (m * n % d) d
  unfold partOf
  omega

theorem part_nonneg (m n d : Int) (h0 : 0 ≤ m) (h2 : 0 ≤ n) (hd : 1 ≤ d) : 0 ≤ partOf m n d := by
  have a := Int.mul_nonneg h0 h2
  have c := Int.ediv_nonneg a (by omega : (0 : Int) ≤ d)
  have u := upOf_bd (m * n / d) (m * n % d) d
  unfold partOf
  omega

/-- MoneyRounds' facts. -/
theorem rounds_facts (a n d : Int) (ha : -1000000000 ≤ a ∧ a ≤ 1000000000) (hn : 0 ≤ n ∧ n ≤ 1000000000) (hd : 1 ≤ d) :
    ratioOk a n d ∧ ratioOk (-a) n d ∧ ratioOk a d d ∧ ratioV (-a) n d = -ratioV a n d ∧ ratioV a d d = a ∧
    2 * (a * n - ratioV a n d * d) ≤ d ∧ -d ≤ 2 * (a * n - ratioV a n d * d) ∧ ((2 * (a * n - ratioV a n d * d) = d ∨ 2 * (a * n - ratioV a n d * d) = -d) → ratioV a n d % 2 = 0) := by
  have hm0 := absI_nonneg a
  have hm1 : absI a ≤ 1000000000 := by unfold absI; split <;> omega
  have b := part_bd (absI a) n d hm0 hm1 hn.1 hn.2 hd
  have p := part_all (absI a) d hd
  have nr := near (absI a) n d hd
  simp only at nr
  refine ⟨?_, ?_, ?_, ?_, ?_, ?_⟩
  · unfold ratioOk; split <;> omega
  · unfold ratioOk; rw [absI_neg]; split <;> omega
  · unfold ratioOk; rw [p]; split <;> omega
  · unfold ratioV; rw [absI_neg]
    by_cases h : a < 0
    · rw [if_pos h, if_neg (by omega)]; omega
    · rw [if_neg h]
      by_cases h' : -a < 0
      · rw [if_pos h']
      · have : a = 0 := by omega
        rw [if_neg h']
        subst this
        have : partOf (absI 0) n d = 0 := by
          unfold absI partOf upOf; rw [if_neg (by omega)]; simp; omega
        omega
  · unfold ratioV; rw [p]; unfold absI; split <;> omega
  · unfold ratioV
    have e : a * n = if a < 0 then -(absI a * n) else absI a * n := by
      unfold absI; split
      · rw [Int.neg_mul, Int.neg_neg]
      · rfl
    rw [e]
    generalize absI a * n = x at *
    generalize hpt : partOf (absI a) n d = t at *
    by_cases h : a < 0
    · simp only [if_pos h, Int.neg_mul]
      generalize t * d = y at *
      omega
    · simp only [if_neg h]
      generalize t * d = y at *
      omega
end Go.Proofs.YtagimpmefodaeaaGreatDoor.Math

namespace Go.Proofs.YtagimpmefodaeaaGreatDoor
set_option linter.unusedVariables false
open Go.RowKit Math

theorem add64_any (x y : Int) (hx : 0 ≤ x) (hy : 0 ≤ y) (hx2 : x < 18446744073709551616) (hy2 : y < 18446744073709551616) (w : World) :
    (callFunc 56 #[.int .u64 x, .int .u64 y, .int .u64 0]).run Tryz.prog w =
      .ok (.value (.tuple #[.int .u64 ((x + y) % 18446744073709551616), .int .u64 ((x + y) / 18446744073709551616)])) w := by
  obtain ⟨x, rfl⟩ := Int.eq_ofNat_of_zero_le hx
  obtain ⟨y, rfl⟩ := Int.eq_ofNat_of_zero_le hy
  rw [run_callFunc_extern Tryz.func56 (by kernel_rfl) (by kernel_rfl) (by kernel_rfl) (e := add64Entry) (by kernel_rfl)]
  have h := run_add64 (P := Tryz.prog) x y 0 (by omega) (by omega) (by omega) (by omega) w
  rw [h]
  simp only [Result.andThen, Int.add_zero]

theorem add64_w (s x : Int) (w : World) : (callFunc 56 #[.int .u64 (loW s), .int .u64 (IntKind.u64.wrap x), .int .u64 0]).run Tryz.prog w =
      .ok (.value (.tuple #[.int .u64 (loW (s + x)), .int .u64 (cW s x)])) w := by
  have b1 := loW_bd s
  have b2 := loW_bd x
  have e : IntKind.u64.wrap x = loW x := IntKind.wrap_u64 x
  rw [e, add64_any _ _ b1.1 b2.1 b1.2 b2.2, loW_add]
  rfl

theorem take_sum (l : List Int) (k : Nat) (h : k < l.length) : (l.take (k + 1)).sum = (l.take k).sum + l.getD k 0 := by
  rw [List.take_succ_eq_append_getElem h, List.sum_append]
  simp [h]

/-- What is handed back beside a sum. -/
def sumV (s : Int) : Int := if -9223372036854775808 ≤ s ∧ s ≤ 9223372036854775807 then s else 0
def sumE (s : Int) : Value := if -9223372036854775808 ≤ s ∧ s ≤ 9223372036854775807 then .nilIface else .iface 43 (.int .i64 10)

theorem sum_bound (l : List Int) (k : Nat) (h : k ≤ l.length) (hI : ∀ i, i < l.length → I64 (l.getD i 0)) :
    -((k : Int) * 9223372036854775808) ≤ (l.take k).sum ∧ (l.take k).sum ≤ (k : Int) * 9223372036854775808 := by
  induction k with
  | zero => simp
  | succ k ih =>
    have := ih (by omega)
    have h2 := hI k (by omega)
    unfold I64 at h2
    rw [take_sum l k (by omega)]
    omega

theorem wrap64_lo (s : Int) : wrap64 (loW s) = if loW s < 9223372036854775808 then loW s else loW s - 18446744073709551616 := by
  have := loW_bd s
  unfold wrap64; split <;> omega
theorem sum_yes (s : Int) (h : -170141183460469231731687303715884105728 ≤ s ∧ s < 170141183460469231731687303715884105728) (hs : -9223372036854775808 ≤ s ∧ s ≤ 9223372036854775807) :
    (hiW s != IntKind.u64.wrap (wrap64 (loW s) / 9223372036854775808)) = false ∧ wrap64 (loW s) = s := by
  have hf := sum_fits s h _ rfl
  rw [← wrap64_lo] at hf
  rw [IntKind.wrap_u64]
  exact ⟨by rw [bne_eq_false_iff_eq]; exact hf.1.2 hs, hf.2 hs⟩
theorem sum_no (s : Int) (h : -170141183460469231731687303715884105728 ≤ s ∧ s < 170141183460469231731687303715884105728) (hs : ¬ (-9223372036854775808 ≤ s ∧ s ≤ 9223372036854775807)) :
    (hiW s != IntKind.u64.wrap (wrap64 (loW s) / 9223372036854775808)) = true := by
  have hf := sum_fits s h _ rfl
  rw [← wrap64_lo] at hf
  rw [IntKind.wrap_u64, bne_iff_ne]
  exact fun e => hs (hf.1.1 e)

theorem sum_run (b off cap n : Nat) (l : List Int) (w : World) (hn : l.length = n) (hlen : l.length ≤ 140737488355328) (hI : Hid (∀ i, i < l.length → I64 (l.getD i 0)))
    (hc : Hid (∀ i, i < l.length → w.cell? ⟨b, off + i, none⟩ = some (.int .i64 (l.getD i 0)))) :
    Calls Tryz.prog 28 #[.slice (some ⟨b, off, none⟩) n cap] w fun e w' => e = .returned (.tuple #[.int .i64 (sumV l.sum), sumE l.sum]) ∧ w' = w := by
  subst hn
  go_enter Tryz.func28, Tryz.ntmps28
  go_wp2
  go_loop [4, 5, 12] (fun hi lo i => ∃ k : Nat, k ≤ l.length ∧ i = .int .i64 k ∧ hi = .int .u64 (hiW (l.take k).sum) ∧ lo = .int .u64 (loW (l.take k).sum)) (fun _ _ i => l.length - (RowKit.intOf i).toNat)
  case atStart => exact ⟨0, Nat.zero_le _, rfl, rfl, rfl⟩
  case round =>
    obtain ⟨k, hk, rfl, rfl, rfl⟩ := hrel
    by_cases hlt : k < l.length
    · have hck := hc.out k hlt
      have hik := hI.out k hlt
      have hts := take_sum l k hlt
      generalize l.getD k 0 = x at *
      generalize (l.take k).sum = s at *
      have Hts : Hid ((l.take (k + 1)).sum = s + x) := hts
      have Hik : Hid (I64 x) := hik
      clear hts hik
      go_wp2_with (simp only [add64_w])
      go_round
      case rel =>
        refine ⟨k + 1, by omega, by go_num, ?_, ?_⟩
        · rw [Hts.out, IntKind.wrap_u64, IntKind.wrap_u64, IntKind.wrap_u64, ← hiW_step s x Hik.out]
        · rw [Hts.out]
      case measure => simp [RowKit.intOf]; omega
    · have hk2 : k = l.length := by omega
      subst hk2
      have hb := sum_bound l l.length (Nat.le_refl _) hI.out
      rw [List.take_length] at hb ⊢
      by_cases hs : -9223372036854775808 ≤ l.sum ∧ l.sum ≤ 9223372036854775807
      · obtain ⟨t1, t2⟩ := sum_yes l.sum (by omega) hs
        have T2 : Hid (wrap64 (loW l.sum) = l.sum) := t2
        have Hs : Hid (-9223372036854775808 ≤ l.sum ∧ l.sum ≤ 9223372036854775807) := hs
        clear t2 hb hI hc hs
        go_wp2
        go_ret2
        refine ⟨?_, rfl⟩
        unfold sumV sumE; rw [if_pos Hs.out, if_pos Hs.out]
        show Ending.returned (.tuple #[.int .i64 (wrap64 (loW l.sum)), .nilIface]) = _
        rw [T2.out]
      · have t1 := sum_no l.sum (by omega) hs
        have Hs : Hid (¬ (-9223372036854775808 ≤ l.sum ∧ l.sum ≤ 9223372036854775807)) := hs
        clear hb hI hc hs
        go_wp2
        go_ret2
        refine ⟨?_, rfl⟩
        unfold sumV sumE; rw [if_neg Hs.out, if_neg Hs.out]; rfl

theorem sum_nil (w : World) :
    Calls Tryz.prog 28 #[.slice none 0 0] w fun e w' => e = .returned (.tuple #[.int .i64 0, .nilIface]) ∧ w' = w := by
  go_enter Tryz.func28, Tryz.ntmps28
  go_wp2
  refine wp_loop_rounds 1 ?_
  rw [rounds_succ]
  go_wp2
  go_ret2
  exact ⟨rfl, rfl⟩

theorem sum_zero (a : Option Addr) (cap : Nat) (w : World) :
    Calls Tryz.prog 28 #[.slice a 0 cap] w fun e w' => e = .returned (.tuple #[.int .i64 0, .nilIface]) ∧ w' = w := by
  go_enter Tryz.func28, Tryz.ntmps28
  go_wp2
  refine wp_loop_rounds 1 ?_
  rw [rounds_succ]
  go_wp2
  go_ret2
  exact ⟨rfl, rfl⟩

/-- Of a list in the call's own memory. -/
theorem sum_own (base n : Nat) (e : TypeId) (v : Value) (l : List Int) (w : World) (hlen : n ≤ 140737488355328) (hI : Hid (∀ i, i < l.length → I64 (l.getD i 0)))
    (hown : Hid (w.ownsRow base e 1 v n (l.map (Value.int .i64)))) :
    Calls Tryz.prog 28 #[v] w fun e w' => e = .returned (.tuple #[.int .i64 (sumV l.sum), sumE l.sum]) ∧ w' = w := by
  obtain ⟨hl, ⟨rfl, hn⟩ | ⟨g, cap, cur, rfl, hg⟩⟩ := hown.out
  · have : l = [] := by
      subst hn; simpa using hl
    subst this
    exact sum_nil w
  · have hn : l.length = n := by simpa using hl
    refine sum_run g 0 cap n l w hn (by omega) hI ?_
    intro i hi
    have := hown.out.cells (g := g) rfl i (.int .i64 (l.getD i 0)) (by simp [hi])
    rcases Nat.eq_zero_or_pos i with rfl | hp
    · simpa [Addr.add] using this
    · simpa [Addr.add, Nat.ne_of_gt hp] using this

theorem sum_fit (s : Int) (h : -9223372036854775808 ≤ s ∧ s ≤ 9223372036854775807) : sumV s = s ∧ sumE s = .nilIface := by
  unfold sumV sumE; rw [if_pos h, if_pos h]; exact ⟨rfl, rfl⟩
theorem sum_nofit (s : Int) (h : ¬ (-9223372036854775808 ≤ s ∧ s ≤ 9223372036854775807)) : sumV s = 0 ∧ sumE s = .iface 43 (.int .i64 10) := by
  unfold sumV sumE; rw [if_neg h, if_neg h]; exact ⟨rfl, rfl⟩

end Go.Proofs.YtagimpmefodaeaaGreatDoor

namespace Go.Proofs.YtagimpmefodaeaaGreatDoor
set_option linter.unusedVariables false
set_option linter.unusedSimpArgs false
set_option maxRecDepth 100000
open Go.RowKit Go.Lib

set_option maxHeartbeats 2000000 in
theorem sides_any (p : Pr) (w : World) :
    Calls Tryz.prog 16 #[.agg p.cells] w fun e w' => e = .returned (.agg #[.int .i64 p.ea, .string p.one, .int .i64 p.eb, .string p.oth]) ∧ Below w.heap.size w w' := by
  have b0 : Below w.heap.size w (w.alloc (.cells p.cells 50)) := (Below.refl _ w).alloc (Nat.le_refl _) _
  obtain ⟨x0, x1, x2, x3, x4⟩ := p
  simp only [Pr.cells] at b0 ⊢
  go_enter Tryz.func16, Tryz.ntmps16
  go_wp2
  refine bodyPost_ret (v := .agg #[.int .i64 x0, .string x2, .int .i64 x1, .string x3]) (by simp [results, Tryz.results16, go_sem]) rfl ?_
  exact ⟨rfl, b0.alloc b0.size _⟩
/-- A pair of numbers in a box of its own. -/
def TwoAt (w : World) (g : Nat) (x y : Int) : Prop := w.heap[g]? = some (.cells #[.int .i64 x, .int .i64 y] 66 (0, 0))
theorem TwoAt.lt {w : World} {g : Nat} {x y : Int} (h : TwoAt w g x y) : g < w.heap.size := (Array.getElem?_eq_some_iff.1 h).1
theorem TwoAt.below {w w' : World} {g n : Nat} {x y : Int} (h : TwoAt w g x y) (hb : Below n w w') (hg : g < n) : TwoAt w' g x y := (hb.block g hg).trans h
theorem TwoAt.c0 {w : World} {g : Nat} {x y : Int} (h : TwoAt w g x y) : w.cell? ⟨g, 0, none⟩ = some (.int .i64 x) := by unfold TwoAt at h; simp [World.cell?, h]
theorem TwoAt.c1 {w : World} {g : Nat} {x y : Int} (h : TwoAt w g x y) : w.cell? ⟨g, 1, none⟩ = some (.int .i64 y) := by unfold TwoAt at h; simp [World.cell?, h]
theorem TwoAt.frozen {w : World} {g : Nat} {x y : Int} (h : TwoAt w g x y) (i : Nat) : w.frozen? ⟨g, i, none⟩ = false := by unfold TwoAt at h; simp [World.frozen?, h]
theorem TwoAt.set0 {w : World} {g : Nat} {x y : Int} (h : TwoAt w g x y) (z : Int) : TwoAt (w.setCell ⟨g, 0, none⟩ (.int .i64 z)) g z y := by
  unfold TwoAt at *
  rw [setCell_eq_setRow w g 0 _ 66 (0, 0) _ h, setRow_heap w g _ _ 66 (0, 0) h]
  simp
theorem TwoAt.set1 {w : World} {g : Nat} {x y : Int} (h : TwoAt w g x y) (z : Int) : TwoAt (w.setCell ⟨g, 1, none⟩ (.int .i64 z)) g x z := by
  unfold TwoAt at *
  rw [setCell_eq_setRow w g 1 _ 66 (0, 0) _ h, setRow_heap w g _ _ 66 (0, 0) h]
  simp
theorem TwoAt.new (w : World) (x y : Int) : TwoAt (w.alloc (.cells #[.int .i64 x, .int .i64 y] 66)) w.heap.size x y := by
  unfold TwoAt World.alloc; simp only [Array.getElem?_push_size]
set_option maxHeartbeats 4000000 in
theorem had_any (a : Option Addr) (cap : Nat) (p : Pr) (b : List Bl) (cur : ByteArray) (w : World) (hlen : (b.length : Int) ≤ 9223372036854775807) (h : IsBl w a b cap) :
    Calls Tryz.prog 27 #[.agg p.cells, .slice a b.length cap, .string cur] w fun e w' => e = .returned (.agg #[.int .i64 (getB b p.ea p.one cur), .int .i64 (getB b p.eb p.oth cur)]) ∧ Below w.heap.size w w' := by
  obtain ⟨h0, e0⟩ : ∃ x, getB b p.ea p.one cur = x := ⟨_, rfl⟩
  obtain ⟨h1, e1⟩ : ∃ x, getB b p.eb p.oth cur = x := ⟨_, rfl⟩
  rw [e0, e1]
  have HH : Hid (∀ W en acc, Below w.heap.size w W → Calls Tryz.prog 55 #[.slice a b.length cap, .int .i64 en, .string acc, .string cur] W fun e w' => e = .returned (.int .i64 (getB b en acc cur)) ∧ Below W.heap.size W w') := fun W en acc hW => ldHas_any a cap b en acc cur W hlen (h.below hW)
  have E0 : Hid (getB b p.ea p.one cur = h0) := e0
  have E1 : Hid (getB b p.eb p.oth cur = h1) := e1
  obtain ⟨w1, hw1⟩ : ∃ w1, w.alloc (.cells p.cells 50) = w1 := ⟨_, rfl⟩
  obtain ⟨w2, hw2⟩ : ∃ w2, w1.alloc (.cells #[.int .i64 0, .int .i64 0] 66) = w2 := ⟨_, rfl⟩
  obtain ⟨G, hG⟩ : ∃ G, w1.heap.size = G := ⟨_, rfl⟩
  have b1 : Below w.heap.size w w1 := by rw [← hw1]; exact (Below.refl _ w).alloc (Nat.le_refl _) _
  have b2 : Below w.heap.size w w2 := by rw [← hw2]; exact b1.alloc b1.size _
  have ht : TwoAt w2 G 0 0 := by rw [← hw2, ← hG]; exact TwoAt.new _ _ _
  have hGw : w.heap.size ≤ G := by rw [← hG]; exact b1.size
  have hp1 : PrAt w1 w.heap.size 0 p := by rw [← hw1]; exact PrAt.new w p _
  have hs1 : w.heap.size < w1.heap.size := by rw [← hw1]; simp
  have hp2 : PrAt w2 w.heap.size 0 p := by rw [← hw2]; exact hp1.below ((Below.refl _ w1).alloc (Nat.le_refl _) _) hs1
  have hsg : w1.heap.size = w.heap.size + 1 := by rw [← hw1]; simp
  have HS : Hid (Calls _ _ _ _ _) := sides_any p w2
  have HW1 : Hid (w.alloc (.cells p.cells 50) = w1) := hw1
  have HW2 : Hid (w1.alloc (.cells #[.int .i64 0, .int .i64 0] 66) = w2) := hw2
  have HT : Hid (TwoAt w2 G 0 0 ∧ Below w.heap.size w w2 ∧ w.heap.size ≤ G) := ⟨ht, b2, hGw⟩
  have HG : Hid (w.heap.size + 1 = G) := by rw [← hG]; exact hsg.symm
  clear e0 e1 h hw1 hw2 hG b1 b2 ht hGw hp1 hs1 hsg
  obtain ⟨x0, x1, x2, x3, x4⟩ := p
  obtain ⟨d0, d1, d2, d3, d4⟩ := hp2
  simp only [Pr.cells, Nat.zero_add] at HW1 HS E0 E1 d0 d1 d2 d3 d4 ⊢
  go_enter Tryz.func27, Tryz.ntmps27
  go_upto_region 1 with fail
  rw [HW1.out, HW2.out]
  have hT0 := HT.out
  go_wp2_with fail
  refine HS.out.mono ?_
  rintro e w3 ⟨rfl, hb3⟩
  have HT3 : Hid (TwoAt w3 G 0 0 ∧ Below w.heap.size w w3 ∧ w.heap.size ≤ G) := ⟨HT.out.1.below hb3 HT.out.1.lt, HT.out.2.1.trans (hb3.mono HT.out.2.1.size), HT.out.2.2⟩
  clear HS HT HW1 HW2 hb3 d0 d1 d2 d3 d4 hT0
  have i0 : ∀ W, (Instr.index 54 (.agg #[.int .i64 x0, .string x2, .int .i64 x1, .string x3]) (.int .i64 0)).run Tryz.prog W = .ok (.agg #[.int .i64 x0, .string x2]) W := fun _ => by kernel_rfl
  have i1 : ∀ W, (Instr.index 54 (.agg #[.int .i64 x0, .string x2, .int .i64 x1, .string x3]) (.int .i64 1)).run Tryz.prog W = .ok (.agg #[.int .i64 x1, .string x3]) W := fun _ => by kernel_rfl
  rw [HG.out]
  have HC1 : Hid (∀ W, TwoAt W G 0 0 ∧ Below w.heap.size w W → Calls Tryz.prog 55 #[.slice a b.length cap, .int .i64 x0, .string x2, .string cur] W fun e w' => e = .returned (.int .i64 h0) ∧ w'.cell? ⟨G, 0, none⟩ = some (.int .i64 0) ∧ w'.frozen? ⟨G, 0, none⟩ = false ∧ Hid (TwoAt (w'.setCell ⟨G, 0, none⟩ (.int .i64 h0)) G h0 0 ∧ Below w.heap.size w (w'.setCell ⟨G, 0, none⟩ (.int .i64 h0)))) := fun W hW => by
    refine (HH.out W x0 x2 hW.2).mono ?_
    rintro e w' ⟨rfl, hb⟩
    have t := hW.1.below hb hW.1.lt
    refine ⟨by rw [E0.out], t.c0, t.frozen 0, t.set0 h0, (hW.2.trans (hb.mono hW.2.size)).setCell (p := ⟨G, 0, none⟩) HT3.out.2.2 _⟩
  have HC2 : Hid (∀ W, TwoAt W G h0 0 ∧ Below w.heap.size w W → Calls Tryz.prog 55 #[.slice a b.length cap, .int .i64 x1, .string x3, .string cur] W fun e w' => e = .returned (.int .i64 h1) ∧ w'.cell? ⟨G, 1, none⟩ = some (.int .i64 0) ∧ w'.frozen? ⟨G, 1, none⟩ = false ∧ Hid (TwoAt (w'.setCell ⟨G, 1, none⟩ (.int .i64 h1)) G h0 h1 ∧ Below w.heap.size w (w'.setCell ⟨G, 1, none⟩ (.int .i64 h1)))) := fun W hW => by
    refine (HH.out W x1 x3 hW.2).mono ?_
    rintro e w' ⟨rfl, hb⟩
    have t := hW.1.below hb hW.1.lt
    refine ⟨by rw [E1.out], t.c1, t.frozen 1, t.set1 h1, (hW.2.trans (hb.mono hW.2.size)).setCell (p := ⟨G, 1, none⟩) HT3.out.2.2 _⟩
  have HA1 : Hid (TwoAt (w3.alloc (.cells #[.int .i64 x0, .string x2] 53)) G 0 0 ∧ Below w.heap.size w (w3.alloc (.cells #[.int .i64 x0, .string x2] 53))) := ⟨HT3.out.1.below ((Below.refl _ w3).alloc (Nat.le_refl _) _) HT3.out.1.lt, HT3.out.2.1.alloc HT3.out.2.1.size _⟩
  have HA2 : Hid (∀ W, TwoAt W G h0 0 ∧ Below w.heap.size w W → TwoAt (W.alloc (.cells #[.int .i64 x1, .string x3] 53)) G h0 0 ∧ Below w.heap.size w (W.alloc (.cells #[.int .i64 x1, .string x3] 53))) := fun W hW => ⟨hW.1.below ((Below.refl _ W).alloc (Nat.le_refl _) _) hW.1.lt, hW.2.alloc hW.2.size _⟩
  clear HH E0 E1 HT3
  go_wp2
  refine wp_loop_rounds 3 ?_
  rw [rounds_succ]
  go_wp2_with fail
  refine (HC1.out _ HA1.out).mono ?_
  rintro e w5 ⟨rfl, k0, k1, H5⟩
  clear HC1 HA1
  go_wp2_with fail
  have HA3 : Hid _ := HA2.out _ H5.out
  clear HA2 H5 k0 k1
  generalize w5.setCell ⟨G, 0, none⟩ (.int .i64 h0) = w6 at *
  rw [rounds_succ]
  go_wp2_with fail
  refine (HC2.out _ HA3.out).mono ?_
  rintro e w7 ⟨rfl, k0, k1, H7⟩
  clear HC2 HA3
  go_wp2_with fail
  clear k0 k1
  generalize w7.setCell ⟨G, 1, none⟩ (.int .i64 h1) = w8 at *
  have q0 := H7.out.1.c0
  have q1 := H7.out.1.c1
  have f0 := H7.out.1.frozen 0
  have f1 := H7.out.1.frozen 1
  rw [rounds_succ]
  go_wp2
  have tF := (H7.out.1.set0 h0).set1 h1
  have t0 := tF.c0
  have t1 := tF.c1
  have hGw : w.heap.size ≤ G := by have := HG.out; omega
  refine bodyPost_ret (v := .agg #[.int .i64 h0, .int .i64 h1]) (by simp [results, Tryz.results27, go_sem, t0, t1]) rfl ?_
  exact ⟨rfl, (H7.out.2.setCell (p := ⟨G, 0, none⟩) hGw _).setCell (p := ⟨G, 1, none⟩) hGw _⟩
end Go.Proofs.YtagimpmefodaeaaGreatDoor

namespace Go.Proofs.YtagimpmefodaeaaGreatDoor
set_option linter.unusedVariables false
set_option linter.unusedSimpArgs false
set_option maxRecDepth 100000
open Go.RowKit Go.Lib

/-- A side. -/
structure Sd where
  ent : Int
  acc : ByteArray
def Sd.cells (x : Sd) : Array Value := #[.int .i64 x.ent, .string x.acc]
def sd0 : Sd := ⟨0, ByteArray.empty⟩
structure SdAt (w : World) (b off : Nat) (x : Sd) : Prop where
  c0 : w.cell? ⟨b, off, none⟩ = some (.int .i64 x.ent)
  c1 : w.cell? ⟨b, off + 1, none⟩ = some (.string x.acc)

theorem SdAt.below {w w' : World} {b off n : Nat} {a : Sd} (h : SdAt w b off a) (hb : Below n w w') (hn : b < n) : SdAt w' b off a :=
  ⟨(hb.cell (p := ⟨b, off, none⟩) hn).trans h.c0, (hb.cell (p := ⟨b, off + 1, none⟩) hn).trans h.c1⟩
theorem SdAt.new (w : World) (a : Sd) (t : TypeId) : SdAt (w.alloc (.cells a.cells t)) w.heap.size 0 a :=
  ⟨by simp [Sd.cells], by simp [Sd.cells]⟩

/-- Sides in memory. -/
def SdsAt (w : World) (b off : Nat) (l : List Sd) : Prop := ∀ k, k < l.length → SdAt w b (off + k * 2) (l.getD k sd0)

/-- A slice of sides. -/
structure IsSd (w : World) (a : Option Addr) (l : List Sd) (cap : Nat) : Prop where
  cap : l.length ≤ cap
  lies : l = [] ∨ ∃ b off, a = some ⟨b, off, none⟩ ∧ b < w.heap.size ∧ SdsAt w b off l

theorem IsSd.below {w w' : World} {a : Option Addr} {l : List Sd} {cap : Nat} (h : IsSd w a l cap) (hb : Below w.heap.size w w') : IsSd w' a l cap := by
  refine ⟨h.cap, ?_⟩
  rcases h.lies with h | ⟨b, off, e, hlt, hc⟩
  · exact .inl h
  · exact .inr ⟨b, off, e, by have := hb.size; omega, fun k hk => (hc k hk).below hb hlt⟩

theorem sds_drop (l : List Sd) (k : Nat) (h : k < l.length) : l.drop k = l.getD k sd0 :: l.drop (k + 1) := by
  rw [List.drop_eq_getElem_cons h, List.getD_eq_getElem?_getD, List.getElem?_eq_getElem h]
  rfl
theorem sds_take (l : List Sd) (k : Nat) (h : k < l.length) : l.take (k + 1) = l.take k ++ [l.getD k sd0] := by
  rw [List.take_add_one, List.getElem?_eq_getElem h, List.getD_eq_getElem?_getD, List.getElem?_eq_getElem h]
  rfl
theorem sds_mem (l : List Sd) (k : Nat) (h : k < l.length) : l.getD k sd0 ∈ l := by
  rw [List.getD_eq_getElem?_getD, List.getElem?_eq_getElem h]
  exact List.getElem_mem h

/-- The cells of sides, one behind the other. -/
def sdRow (l : List Sd) : List Value := l.flatMap fun x => x.cells.toList
theorem Sd.cells_length (x : Sd) : x.cells.toList.length = 2 := rfl
theorem sdRow_length : ∀ l : List Sd, (sdRow l).length = l.length * 2
  | [] => rfl
  | x :: l => by
    have := sdRow_length l
    unfold sdRow at *
    simp only [List.flatMap_cons, List.length_append, Sd.cells_length, this, List.length_cons]
    omega
theorem sdRow_append (l m : List Sd) : sdRow (l ++ m) = sdRow l ++ sdRow m := by simp [sdRow]
theorem sdRow_one (x : Sd) : sdRow [x] = x.cells.toList := by simp [sdRow]
theorem sdRow_get : ∀ (l : List Sd) (k j : Nat), k < l.length → j < 2 → (sdRow l)[k * 2 + j]? = (l.getD k sd0).cells.toList[j]?
  | [], _, _, h, _ => absurd h (by simp)
  | x :: l, 0, j, _, hj => by
    simp only [sdRow, List.flatMap_cons, Nat.zero_mul, Nat.zero_add, List.getD_cons_zero]
    rw [List.getElem?_append_left (by rw [Sd.cells_length]; exact hj)]
  | x :: l, k + 1, j, h, hj => by
    have ih := sdRow_get l k j (by simpa using h) hj
    simp only [sdRow, List.flatMap_cons, List.getD_cons_succ] at ih ⊢
    rw [List.getElem?_append_right (by rw [Sd.cells_length]; omega), Sd.cells_length, ← ih]
    congr 1
    omega
theorem sdRow_one_cell (l : List Sd) : ∀ u ∈ sdRow l, u.oneCell' = true := by
  intro u hu
  simp only [sdRow, List.mem_flatMap] at hu
  obtain ⟨x, _, hx⟩ := hu
  simp [Sd.cells] at hx
  rcases hx with rfl | rfl <;> rfl
theorem sdRow_take (l : List Sd) (k : Nat) : sdRow (l.take k) = (sdRow l).take (k * 2) := by
  have h := sdRow_append (l.take k) (l.drop k)
  rw [List.take_append_drop] at h
  rw [h]
  by_cases hk : k ≤ l.length
  · have : (sdRow (l.take k)).length = k * 2 := by rw [sdRow_length, List.length_take, Nat.min_eq_left hk]
    rw [← this, List.take_left]
  · rw [List.take_of_length_le (by omega), List.drop_eq_nil_of_le (by omega)]
    rw [List.take_of_length_le]
    · show sdRow l = sdRow l ++ []
      simp
    · show (sdRow l ++ []).length ≤ _
      rw [List.append_nil, sdRow_length]
      omega
theorem sdRow_drop (l : List Sd) (k : Nat) : sdRow (l.drop k) = (sdRow l).drop (k * 2) := by
  have h := sdRow_append (l.take k) (l.drop k)
  rw [List.take_append_drop] at h
  have h2 := sdRow_take l k
  have h3 : sdRow l = (sdRow l).take (k * 2) ++ (sdRow l).drop (k * 2) := (List.take_append_drop _ _).symm
  rw [← h2] at h3
  rw [h] at h3
  have := List.append_cancel_left h3
  rw [this]
  rw [h]

/-- Sides in a row of one's own. -/
def SdRow (w : World) (n : Nat) (v : Value) (l : List Sd) : Prop := w.ownsRow n 53 2 v l.length (sdRow l)

theorem SdRow.nil (w : World) (n : Nat) : SdRow w n (.slice none 0 0) [] := World.ownsRow_nil _ _ _ _
theorem SdRow.isSd {W : World} {n0 : Nat} {v : Value} {l : List Sd} (h : SdRow W n0 v l) :
    ∃ a cap, v = .slice a l.length cap ∧ IsSd W a l cap := by
  obtain ⟨hlen, ⟨rfl, h0⟩ | ⟨g, cap, cur, rfl, hb, hg, hc, hm, hs, ht⟩⟩ := h
  · have : l = [] := List.eq_nil_of_length_eq_zero h0
    subst this
    exact ⟨none, 0, rfl, Nat.le_refl _, .inl rfl⟩
  · refine ⟨_, cap, rfl, hc, .inr ⟨g, 0, rfl, (Array.getElem?_eq_some_iff.1 hg).1, ?_⟩⟩
    intro k hk
    have C : ∀ j, j < 2 → W.cell? ⟨g, 0 + k * 2 + j, none⟩ = (l.getD k sd0).cells.toList[j]? := fun j hj => by
      have e1 : (sdRow l)[k * 2 + j]? = cur[k * 2 + j]? := by
        rw [← ht, List.getElem?_take, if_pos (by omega)]
        simp
      rw [← sdRow_get l k j hk hj, e1]
      simp [World.cell?, hg]
    exact ⟨C 0 (by omega), C 1 (by omega)⟩
theorem SdRow.below {w w' : World} {n : Nat} {v : Value} {l : List Sd} (h : SdRow w n v l) (hb : Below w.heap.size w w') : SdRow w' n v l := by
  rcases h.2 with ⟨hv, hn⟩ | ⟨g1, c1, cur, hv, hb1, hh, r⟩
  · exact ⟨h.1, .inl ⟨hv, hn⟩⟩
  · exact ⟨h.1, .inr ⟨g1, c1, cur, hv, hb1, (hb.block g1 (Array.getElem?_eq_some_iff.1 hh).1).trans hh, r⟩⟩
theorem SdRow.mono {w : World} {n m : Nat} {v : Value} {l : List Sd} (h : SdRow w n v l) (hm : m ≤ n) : SdRow w m v l := by
  rcases h.2 with ⟨hv, hn⟩ | ⟨g1, c1, cur, hv, hb1, r⟩
  · exact ⟨h.1, .inl ⟨hv, hn⟩⟩
  · exact ⟨h.1, .inr ⟨g1, c1, cur, hv, by omega, r⟩⟩
theorem SdRow.own {w : World} {n : Nat} {v : Value} {xs : List Sd} (h : SdRow w n v xs) : ∀ j, v.ownBlock = some j → n ≤ j := fun j ej => by
  rcases h.2 with ⟨rfl, _⟩ | ⟨g1, c1, cur, rfl, hg1, _⟩
  · cases ej
  · cases ej; exact hg1


theorem isSd_nil (W : World) : IsSd W none [] 0 := ⟨Nat.le_refl _, .inl rfl⟩
theorem SdRow.isSd' {W : World} {n0 : Nat} {a : Option Addr} {m cap : Nat} {l : List Sd} (h : SdRow W n0 (.slice a m cap) l) : m = l.length ∧ IsSd W a l cap := by
  obtain ⟨a', c', e, hs⟩ := h.isSd
  cases e
  exact ⟨rfl, hs⟩

theorem sd_info : (Tryz.prog.info? 53).map (fun i => (i.zero, i.size, i.bytes)) = some (some (.agg #[.int .i64 0, .string ByteArray.empty]), 2, 24) := by kernel_rfl
/-- Is it this side? -/
def sdB (s x : Sd) : Bool := decide (s.ent = x.ent) && decide (s.acc = x.acc)
/-- The place of the first that is this side. -/
def sdFrom (s : Sd) : Nat → List Sd → Int
  | _, [] => -1
  | k, x :: l => if sdB s x = true then (k : Int) else sdFrom s (k + 1) l
theorem sdFrom_mem (s : Sd) : ∀ (l : List Sd) (k : Nat), decide (0 ≤ sdFrom s k l) = l.any (sdB s)
  | [], k => by simp [sdFrom]
  | x :: l, k => by
    rw [sdFrom]
    cases h : sdB s x
    · rw [if_neg (by simp), sdFrom_mem s l (k + 1)]; simp [h]
    · rw [if_pos rfl]; simp [h]
theorem sd_struct : Tryz.prog.underlying 53 = some (.struct (Tryz.prog.fieldsOf 53)) := by kernel_rfl
theorem sd_stood : Tryz.prog.stoodInHeld 53 = false := by kernel_rfl
theorem sd_guard : Tryz.prog.eqGuardType Tryz.prog.depth 53 = false := by kernel_rfl
theorem sd_eql (x0 y0 : Int) (x1 y1 : ByteArray) (W : World) : (binOp .eql 53 (.agg #[.int .i64 x0, .string x1]) (.agg #[.int .i64 y0, .string y1])).run Tryz.prog W = .ok (.bool (sdB ⟨x0, x1⟩ ⟨y0, y1⟩)) W := by
  rw [run_eql_struct, show (10000 : Nat) = 9998 + 1 + 1 from rfl, run_equalIn_agg W (9998 + 1) 53 _ _ sd_struct sd_stood]
  unfold Program.fieldsOf
  rw [Tryz.underlying53]
  simp [Op.eqFields, part, go_sem, run_equalIn_string W 9998 9 _ _ Tryz.underlying9, run_equalIn_int W 9998 3 .i64 .i64 _ _ Tryz.underlying3, Tryz.isAgg9, Tryz.isAgg3]
  unfold sdB
  by_cases h0 : x0 = y0
  · by_cases h1 : x1 = y1
    · simp [h0, h1]
    · have h2 : ¬ x1.toList = y1.toList := fun e => h1 (toList_inj e)
      simp [h0, h1, h2]
  · simp [h0]
end Go.Proofs.YtagimpmefodaeaaGreatDoor
