/-
  How many thousandths others have, of each entity: the contract of group.had.
-/
import Derived.Test.YtmpjaogomabfiaaDoorGr1
namespace Go.Proofs.YtmpjaogomabfiaaDoor
set_option linter.unusedVariables false
set_option linter.unusedSimpArgs false
set_option maxRecDepth 100000
open Go.RowKit Go.Lib

theorem a13_size : (Tryd.prog.info? 40).map (·.size) = some 13 := by kernel_rfl
theorem gr_drew {n : Nat} {w W : World} (h : Below n w W) : Below n w W.drew := h.trans ⟨rfl, rfl, rfl, Nat.le_refl _, fun _ _ => rfl⟩
/-- Thirteen numbers. -/
def c13 (f : Nat → Int) : List Value := (List.range 13).map fun k => .int .i64 (f k)
def A13 (W : World) (b : Nat) (f : Nat → Int) : Prop := W.heap[b]? = some (.cells (c13 f).toArray 40 (0, 0))
theorem c13_zero : c13 (fun _ => 0) = [.int .i64 0, .int .i64 0, .int .i64 0, .int .i64 0, .int .i64 0, .int .i64 0, .int .i64 0, .int .i64 0, .int .i64 0, .int .i64 0, .int .i64 0, .int .i64 0, .int .i64 0] := rfl
/-- Thirteen numbers as a value. -/
def a13 (f : Nat → Int) : Array Value := #[.int .i64 (f 0), .int .i64 (f 1), .int .i64 (f 2), .int .i64 (f 3), .int .i64 (f 4), .int .i64 (f 5), .int .i64 (f 6), .int .i64 (f 7), .int .i64 (f 8), .int .i64 (f 9), .int .i64 (f 10), .int .i64 (f 11), .int .i64 (f 12)]
theorem a13_eq (f : Nat → Int) : a13 f = (c13 f).toArray := rfl
theorem c13_len (f : Nat → Int) : (c13 f).length = 13 := by simp [c13]
section
variable {V W : World} {b : Nat} {g : Nat → Int}
theorem A13.below {n : Nat} (a : A13 V b g) (hb : Below n V W) (hn : b < n) : A13 W b g := (hb.block b hn).trans a
theorem A13.lt (a : A13 V b g) : b < V.heap.size := (Array.getElem?_eq_some_iff.1 a).1
theorem A13.cell (a : A13 V b g) (k : Nat) (hk : k < 13) : V.cell? ⟨b, k, none⟩ = some (.int .i64 (g k)) := by
  unfold A13 at a
  simp [World.cell?, a, c13, hk]
theorem A13.fz (a : A13 V b g) (k : Nat) : V.frozen? ⟨b, k, none⟩ = false := by
  unfold A13 at a
  simp [World.frozen?, a]
theorem A13.set (a : A13 V b g) (k : Nat) (hk : k < 13) (x : Int) : A13 (V.setCell ⟨b, k, none⟩ (.int .i64 x)) b (fun j => if j = k then x else g j) := by
  unfold A13 at a ⊢
  rw [setCell_eq_setRow V b _ _ _ (0, 0) _ a, setRow_heap V b _ _ _ (0, 0) a]
  congr 2
  rw [List.setIfInBounds_toArray]
  congr 1
  unfold c13
  refine List.ext_getElem? (fun j => ?_)
  rw [List.getElem?_set]
  by_cases e : k = j
  · subst e
    simp [hk]
  · rw [if_neg e]
    simp only [List.getElem?_map]
    by_cases hj : j < 13
    · simp [List.getElem?_range hj, fun h : j = k => e h.symm]
      intro h; exact absurd h.symm e
    · rw [List.getElem?_eq_none (by simp; omega)]
      rfl
theorem A13.congr {f : Nat → Int} (a : A13 V b g) (e : g = f) : A13 V b f := e ▸ a
theorem A13.new (w : World) (f : Nat → Int) : A13 (w.alloc (.cells (c13 f).toArray 40)) w.heap.size f := by
  unfold A13
  generalize (c13 f).toArray = z
  exact Array.getElem?_push_size
end
/-- How many thousandths are had of an entity. -/
def hadL (l : List Ho) (n : Nat) : Int := (l.map fun x => if x.of_ = (n : Int) then x.pt else 0).sum
theorem hadL_nil : hadL [] = fun _ => 0 := rfl
theorem hadL_snoc (l : List Ho) (x : Ho) (n : Nat) : hadL (l ++ [x]) n = hadL l n + if x.of_ = (n : Int) then x.pt else 0 := by simp [hadL]
/-- Holdings by themselves in bounds. -/
structure HoOk (l : List Ho) : Prop where
  len : l.length ≤ 20
  en : ∀ x ∈ l, 1 ≤ x.en ∧ x.en ≤ 12
  of_ : ∀ x ∈ l, 1 ≤ x.of_ ∧ x.of_ ≤ 12
  pt : ∀ x ∈ l, 1 ≤ x.pt ∧ x.pt ≤ 1000
theorem HoOk.sub {l m : List Ho} (h : HoOk l) (hs : m.Sublist l) : HoOk m :=
  ⟨Nat.le_trans hs.length_le h.len, fun x hx => h.en x (hs.subset hx), fun x hx => h.of_ x (hs.subset hx), fun x hx => h.pt x (hs.subset hx)⟩
theorem hadL_bd : ∀ (l : List Ho) (n : Nat), (∀ x ∈ l, 1 ≤ x.pt ∧ x.pt ≤ 1000) → 0 ≤ hadL l n ∧ hadL l n ≤ 1000 * l.length
  | [], n, _ => by simp [hadL]
  | x :: l, n, h => by
    have ih := hadL_bd l n (fun y hy => h y (List.mem_cons_of_mem _ hy))
    have hx := h x List.mem_cons_self
    have e : hadL (x :: l) n = (if x.of_ = (n : Int) then x.pt else 0) + hadL l n := by simp [hadL]
    rw [e, List.length_cons]
    split <;> omega
theorem HoOk.had {l : List Ho} (h : HoOk l) (n : Nat) : 0 ≤ hadL l n ∧ hadL l n ≤ 20000 := by
  have h1 := hadL_bd l n h.pt
  have h2 := h.len
  omega
theorem HoOk.hadt {l : List Ho} (h : HoOk l) (k n : Nat) : 0 ≤ hadL (l.take k) n ∧ hadL (l.take k) n ≤ 20000 := (h.sub (List.take_sublist k l)).had n

set_option maxHeartbeats 4000000 in
theorem had_any (a : Option Addr) (cap : Nat) (l : List Ho) (w : World) (hok : HoOk l) (h : IsHo w a l cap) :
    Calls Tryd.prog 12 #[.slice a l.length cap] w fun e w' => e = .returned (.agg (c13 (hadL l)).toArray) ∧ Below w.heap.size w w' := by
  have Hok : Hid (HoOk l) := hok
  have Hs : Hid (IsHo w a l cap) := h
  have hlen : (l.length : Int) ≤ 20 := by have := hok.len; omega
  have hst : Hid (A13 (w.alloc (.cells (c13 fun _ => 0).toArray 40)) w.heap.size (hadL (l.take 0))) := by
    rw [List.take_zero, hadL_nil]; exact A13.new w _
  have HB0 : Hid (Below w.heap.size w (w.alloc (.cells (c13 fun _ => 0).toArray 40))) := (Below.refl _ w).alloc (Nat.le_refl _) _
  rw [c13_zero] at hst HB0
  have hGG : w.heap.size ≤ w.heap.size := Nat.le_refl _
  clear hok h
  go_enter Tryd.func12, Tryd.ntmps12
  go_wp2
  go_loopw [7] (fun i wr => ∃ k : Nat, k ≤ l.length ∧ i = .int .i64 k ∧ Hid (A13 wr w.heap.size (hadL (l.take k))) ∧ Hid (Below w.heap.size w wr)) (fun i _ => l.length - (RowKit.intOf i).toNat)
  case atStart => exact ⟨0, Nat.zero_le _, rfl, hst, HB0⟩
  case round =>
    obtain ⟨k, hk, rfl, HA, HB⟩ := hrel
    clear hst HB0
    by_cases hlt : k < l.length
    · obtain ⟨b, off, rfl, hb, hc⟩ := Hs.out.some hlt
      have hx := (hc k hlt).below HB.out hb
      obtain ⟨c0, c1, c2⟩ := hx
      have hmem := hos_mem l k hlt
      have ho1 := Hok.out.of_ _ hmem
      have hp1 := Hok.out.pt _ hmem
      have HT : Hid (l.take (k + 1) = l.take k ++ [l.getD k ho0]) := hos_take l k hlt
      generalize l.getD k ho0 = x at *
      obtain ⟨x0, x1, x2⟩ := x
      simp only at c0 c1 c2 ho1 hp1
      obtain ⟨m, rfl⟩ : ∃ m : Nat, x1 = m := ⟨x1.toNat, by omega⟩
      have hm0 : (0 : Int) ≤ m := by omega
      have hm13 : (m : Int) < 13 := by omega
      have hb1 := (Hok.out.hadt k m)
      have HAn : Hid (A13 (wr.alloc (.cells #[.int .i64 x0, .int .i64 m, .int .i64 x2] 38)) w.heap.size (hadL (l.take k))) := HA.out.below ((Below.refl _ wr).alloc (Nat.le_refl _) _) HA.out.lt
      have hcell := HAn.out.cell m (by omega)
      have hfz := HAn.out.fz m
      obtain ⟨s, hs⟩ : ∃ s, hadL (l.take k) m = s := ⟨_, rfl⟩
      have HSet : Hid (A13 _ w.heap.size (hadL (l.take (k + 1)))) := (HAn.out.set m (by omega) (s + x2)).congr (by
        funext j
        rw [HT.out, hadL_snoc]
        by_cases e : j = m
        · subst e; simp [hs]
        · have : ¬ ((m : Int) = j) := by omega
          simp [e, this])
      have HBn : Hid (Below w.heap.size w _) := (HB.out.alloc (by have := HB.out.size; exact this) (.cells #[.int .i64 x0, .int .i64 m, .int .i64 x2] 38)).setCell (p := ⟨w.heap.size, m, none⟩) (Nat.le_refl _) (.int .i64 (s + x2))
      rw [hs] at hcell hb1
      have hk0 : (0 : Int) ≤ k := by omega
      have hk1 : (k : Int) < l.length := by omega
      clear HA HB HAn hc HT hs hmem
      go_wp2
      go_region
      all_goals (try go_wp2)
      all_goals go_roundw
      case rel => exact ⟨k + 1, by omega, by go_num, HSet, gr_drew HBn.out⟩
      case measure => simp [intOf]; omega
    · have hk2 : k = l.length := by omega
      subst hk2
      rw [List.take_length] at HA
      have q0 := HA.out.cell 0 (by omega)
      have q1 := HA.out.cell 1 (by omega)
      have q2 := HA.out.cell 2 (by omega)
      have q3 := HA.out.cell 3 (by omega)
      have q4 := HA.out.cell 4 (by omega)
      have q5 := HA.out.cell 5 (by omega)
      have q6 := HA.out.cell 6 (by omega)
      have q7 := HA.out.cell 7 (by omega)
      have q8 := HA.out.cell 8 (by omega)
      have q9 := HA.out.cell 9 (by omega)
      have q10 := HA.out.cell 10 (by omega)
      have q11 := HA.out.cell 11 (by omega)
      have q12 := HA.out.cell 12 (by omega)
      have z0 := HA.out.fz 0
      have z1 := HA.out.fz 1
      have z2 := HA.out.fz 2
      have z3 := HA.out.fz 3
      have z4 := HA.out.fz 4
      have z5 := HA.out.fz 5
      have z6 := HA.out.fz 6
      have z7 := HA.out.fz 7
      have z8 := HA.out.fz 8
      have z9 := HA.out.fz 9
      have z10 := HA.out.fz 10
      have z11 := HA.out.fz 11
      have z12 := HA.out.fz 12
      have HBn : Hid (Below w.heap.size w _) := (((((((((((((HB.out.setCell (p := ⟨w.heap.size, 0, none⟩) (Nat.le_refl _) (.int .i64 (hadL l 0))).setCell (p := ⟨w.heap.size, 1, none⟩) (Nat.le_refl _) (.int .i64 (hadL l 1))).setCell (p := ⟨w.heap.size, 2, none⟩) (Nat.le_refl _) (.int .i64 (hadL l 2))).setCell (p := ⟨w.heap.size, 3, none⟩) (Nat.le_refl _) (.int .i64 (hadL l 3))).setCell (p := ⟨w.heap.size, 4, none⟩) (Nat.le_refl _) (.int .i64 (hadL l 4))).setCell (p := ⟨w.heap.size, 5, none⟩) (Nat.le_refl _) (.int .i64 (hadL l 5))).setCell (p := ⟨w.heap.size, 6, none⟩) (Nat.le_refl _) (.int .i64 (hadL l 6))).setCell (p := ⟨w.heap.size, 7, none⟩) (Nat.le_refl _) (.int .i64 (hadL l 7))).setCell (p := ⟨w.heap.size, 8, none⟩) (Nat.le_refl _) (.int .i64 (hadL l 8))).setCell (p := ⟨w.heap.size, 9, none⟩) (Nat.le_refl _) (.int .i64 (hadL l 9))).setCell (p := ⟨w.heap.size, 10, none⟩) (Nat.le_refl _) (.int .i64 (hadL l 10))).setCell (p := ⟨w.heap.size, 11, none⟩) (Nat.le_refl _) (.int .i64 (hadL l 11))).setCell (p := ⟨w.heap.size, 12, none⟩) (Nat.le_refl _) (.int .i64 (hadL l 12)))
      clear HA HB
      go_wp2
      exact bodyPost_ret (v := .agg (c13 (hadL l)).toArray) (by simp [results, Tryd.results12, go_sem, q0, q1, q2, q3, q4, q5, q6, q7, q8, q9, q10, q11, q12]; rfl) rfl ⟨rfl, HBn.out⟩
end Go.Proofs.YtmpjaogomabfiaaDoor
