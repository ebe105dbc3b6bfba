/-
  The contract of the method Sub of quarterdaybig's Int.
-/
import Derived.Test.YtiolkeipgpkbmaaGreatDoorZg6
import Derived.Test.YtiolkeipgpkbmaaGreatDoorZg7
import Derived.Test.YtiolkeipgpkbmaaGreatDoorZg0
import Derived.Laws.CopyRow
import Derived.Below
import Derived.Deep.QuietTactic
import Derived.BigQuiet
import Derived.Deep.CutRange
import Derived.Deep.Cut
import Derived.Deep.CutBlock
import Derived.WalkLawsBesides
namespace Go.Proofs.YtiolkeipgpkbmaaGreatDoor
set_option linter.unusedVariables false
set_option linter.unusedSimpArgs false
set_option maxRecDepth 100000
open Go.RowKit Big

theorem w32_one : (Tryz.prog.info? 166).map (·.size) = some 1 := by kernel_rfl
theorem rowA_toList (r : List Nat) : (rowA r).toList = r.map fun x : Nat => Value.int .u32 (x : Int) := by simp [rowA]
/-- Words copied to a row of one's own. -/
theorem copy_words {W : World} {g n cap : Nat} {r l : List Nat} {b off : Nat} (hr : RowAt W g r) (hrl : r.length = n) (hl : l.length ≤ n) (hc : ∀ i, i < l.length → W.cell? ⟨b, off + i, none⟩ = some (.int .u32 (l.getD i 0 : Nat))) (ty : TypeId) :
    (Builtin.copy_ #[81, 81] ty #[.slice (some ⟨g, 0, none⟩) n n, .slice (some ⟨b, off, none⟩) l.length cap]).run Tryz.prog W = .ok (goInt l.length) (W.setRow g (rowA (l ++ r.drop l.length))) := by
  have hL : (l.map fun x : Nat => Value.int .u32 (x : Int)).length = l.length := by simp
  have := run_copy_row Tryz.prog W 81 81 ty 166 g 0 n n ⟨b, off, none⟩ l.length cap (rowA r) 166 (l.map fun x : Nat => Value.int .u32 (x : Int)) Tryz.underlying81 w32_one hr (by rw [hL]; exact (Nat.min_eq_left hl).symm) (fun j v hj => by
    have hjl := (List.getElem?_eq_some_iff.1 hj).1
    rw [hL] at hjl
    rw [Addr.add_lit, hc j hjl, ← hj, List.getElem?_map, List.getElem?_eq_getElem hjl, List.getD_eq_getElem?_getD, List.getElem?_eq_getElem hjl]
    rfl) (by rw [hL]; simp [rowA]; omega) (fun v hv => by obtain ⟨x, _, rfl⟩ := List.mem_map.1 hv; rfl)
  rw [this, hL]
  congr 2
  rw [rowA_toList]
  unfold rowA
  simp
theorem row_put {W : World} {g : Nat} {r r' : List Nat} (hr : RowAt W g r) : RowAt (W.setRow g (rowA r')) g r' := setRow_heap W g (rowA r) _ 166 (0, 0) hr
theorem gput {a b : World} (h : a.grownBy b none) {g : Nat} (hp : a.heap.size ≤ g) (A : Array Value) : a.grownBy (b.setRow g A) none :=
  ⟨h.os, h.tape, h.output, by rw [setRow_size]; exact h.size, fun k hk hr => by rw [setRow_other _ _ _ _ (by omega)]; exact h.block k hk hr⟩
theorem words_two {l : List Nat} (hn : Nrm l) (ho : Ok l) (h1 : 4294967296 ≤ val l) (h2 : val l < 18446744073709551616) : l.length = 2 := by
  have h3 := val_lt ho
  have h0 : 0 < l.length := by
    rcases Nat.eq_zero_or_pos l.length with h | h
    · rw [h] at h3; simp at h3; omega
    · exact h
  have h4 := val_ge hn h0
  have h5 : ¬ l.length ≤ 1 := fun h => by
    have : 4294967296 ^ l.length ≤ 4294967296 ^ 1 := Nat.pow_le_pow_right (by omega) h
    omega
  have h6 : ¬ 3 ≤ l.length := fun h => by
    have : 4294967296 ^ 2 ≤ 4294967296 ^ (l.length - 1) := Nat.pow_le_pow_right (by omega) (by omega)
    omega
  omega
theorem words_four {l : List Nat} (hn : Nrm l) (h2 : val l < 340282366920938463463374607431768211456) : l.length ≤ 4 := by
  rcases Nat.eq_zero_or_pos l.length with h0 | h0
  · omega
  have h4 := val_ge hn h0
  apply Classical.byContradiction
  intro hc
  have : 4294967296 ^ 4 ≤ 4294967296 ^ (l.length - 1) := Nat.pow_le_pow_right (by omega) (by omega)
  have e : (4294967296 : Nat) ^ 4 = 340282366920938463463374607431768211456 := by decide
  omega
theorem val_zeros : ∀ n : Nat, val (List.replicate n 0) = 0
  | 0 => rfl
  | n + 1 => by rw [List.replicate_succ, val, val_zeros n]
theorem ok_zeros (n : Nat) : Ok (List.replicate n 0) := fun i hi => by
  rw [List.length_replicate] at hi
  rw [List.getD_eq_getElem?_getD, List.getElem?_replicate, if_pos hi]
  exact Nat.zero_lt_succ _
theorem ok_append {a b : List Nat} (ha : Ok a) (hb : Ok b) : Ok (a ++ b) := fun i hi => by
  rw [List.length_append] at hi
  rw [List.getD_eq_getElem?_getD]
  by_cases h : i < a.length
  · rw [List.getElem?_append_left h, ← List.getD_eq_getElem?_getD]; exact ha i h
  · rw [List.getElem?_append_right (by omega), ← List.getD_eq_getElem?_getD]; exact hb _ (by omega)
/-- How far the divisor is shifted. -/
theorem shift_of {V L : Nat} (h : Bits V L) (h1 : 4294967296 ≤ V) (h2 : V < 18446744073709551616) : ∃ s, s < 32 ∧ L + s = 64 ∧ 9223372036854775808 ≤ V * 2 ^ s ∧ V * 2 ^ s < 18446744073709551616 := by
  rcases h with ⟨h0, _⟩ | ⟨hL, hlo, hhi⟩
  · omega
  have a1 : 32 < L := by
    apply Classical.byContradiction
    intro hc
    have : 2 ^ L ≤ 2 ^ 32 := Nat.pow_le_pow_right (by omega) (by omega)
    omega
  have a2 : L ≤ 64 := by
    apply Classical.byContradiction
    intro hc
    have : 2 ^ 64 ≤ 2 ^ (L - 1) := Nat.pow_le_pow_right (by omega) (by omega)
    omega
  refine ⟨64 - L, by omega, by omega, ?_, ?_⟩
  · have : 2 ^ (L - 1) * 2 ^ (64 - L) ≤ V * 2 ^ (64 - L) := Nat.mul_le_mul_right _ hlo
    rw [← Nat.pow_add, show L - 1 + (64 - L) = 63 by omega] at this
    simpa using this
  · have : V * 2 ^ (64 - L) < 2 ^ L * 2 ^ (64 - L) := Nat.mul_lt_mul_of_pos_right hhi (Nat.pow_pos (by omega))
    rw [← Nat.pow_add, show L + (64 - L) = 64 by omega] at this
    simpa using this
/-- The words that a round sees. -/
theorem long_words {A V : Nat} {u q : List Nat} {j : Nat} (h : Long A V u q (j + 1)) (hj : j < 3) (hV : V < 18446744073709551616) : val (u.drop j) = u.getD j 0 + 4294967296 * (u.getD (j + 1) 0 + 4294967296 * u.getD (j + 2) 0) ∧ u.getD (j + 1) 0 + 4294967296 * u.getD (j + 2) 0 < V ∧ val (u.drop (j + 3)) = 0 := by
  have hl := h.lu
  have e1 := val_dropF u j (by omega)
  have e2 := val_dropF u (j + 1) (by omega)
  have e3 := val_dropF u (j + 1 + 1) (by omega)
  have hlt := h.lt
  have e4 : val (u.drop (j + 1 + 1 + 1)) = 0 := by omega
  refine ⟨?_, ?_, e4⟩
  · rw [e1, e2, e3, e4]; rfl
  · rw [e2, e3, e4] at hlt
    exact hlt
theorem set_drop3 (u : List Nat) (j x0 x1 x2 : Nat) (h : j + 2 < u.length) : (((u.set j x0).set (j + 1) x1).set (j + 2) x2).drop j = x0 :: x1 :: x2 :: u.drop (j + 3) ∧ (((u.set j x0).set (j + 1) x1).set (j + 2) x2).take j = u.take j := by
  constructor
  · apply List.ext_getElem?
    intro i
    rw [List.getElem?_drop]
    rcases i with _ | _ | _ | i
    · rw [List.getElem?_set_ne (by omega), List.getElem?_set_ne (by omega), Nat.add_zero, List.getElem?_set_self (by omega)]; rfl
    · rw [List.getElem?_set_ne (by omega), List.getElem?_set_self (by rw [List.length_set]; omega)]; rfl
    · rw [List.getElem?_set_self (by rw [List.length_set, List.length_set]; omega)]; rfl
    · rw [List.getElem?_set_ne (by omega), List.getElem?_set_ne (by omega), List.getElem?_set_ne (by omega)]
      simp only [List.getElem?_cons_succ, List.getElem?_drop]
      congr 1
      omega
  · rw [List.take_set_of_le (by omega), List.take_set_of_le (by omega), List.take_set_of_le (by omega)]
theorem ok_set {u : List Nat} (h : Ok u) (j x : Nat) (hx : x < 4294967296) : Ok (u.set j x) := fun i hi => by
  rw [List.length_set] at hi
  by_cases e : i = j
  · subst e
    rw [List.getD_eq_getElem?_getD, List.getElem?_set_self hi]
    exact hx
  · rw [List.getD_eq_getElem?_getD, List.getElem?_set_ne (fun x => e x.symm), ← List.getD_eq_getElem?_getD]
    exact h i hi
theorem long_step {A V : Nat} {u q : List Nat} {j g w0 w1 : Nat} (h : Long A V u q (j + 1)) (hj : j < 3) (hV : V < 18446744073709551616) (hg : g < 4294967296) (h0 : w0 < 4294967296) (h1 : w1 < 4294967296) (hr : w0 + 4294967296 * w1 + g * V = val (u.drop j)) (hl : w0 + 4294967296 * w1 < V) : Long A V (((u.set j w0).set (j + 1) w1).set (j + 2) 0) (q.set j g) j := by
  have hlu := h.lu
  obtain ⟨_, _, hz⟩ := long_words h hj hV
  obtain ⟨d1, d2⟩ := set_drop3 u j w0 w1 0 (by omega)
  have hv : val ((((u.set j w0).set (j + 1) w1).set (j + 2) 0).drop j) = w0 + 4294967296 * w1 := by
    rw [d1]
    simp only [val]
    rw [hz]
    omega
  exact long_next h hj hg (by rw [List.length_set, List.length_set, List.length_set]; exact hlu) (ok_set (ok_set (ok_set h.ou _ _ h0) _ _ h1) _ _ (by omega)) d2 (by rw [hv]; exact hr) (by rw [hv]; exact hl)
/-- The rows of the division in memory. -/
structure DvAt (w W : World) (gu gq vb vo v0 vT : Nat) (u q : List Nat) : Prop where
  ru : RowAt W gu u
  rq : RowAt W gq q
  c0 : W.cell? ⟨vb, vo, none⟩ = some (.int .u32 (v0 : Nat))
  c1 : W.cell? ⟨vb, vo + 1, none⟩ = some (.int .u32 (vT : Nat))
  gr : w.grownBy W none
  ne : gu ≠ gq ∧ vb ≠ gu ∧ vb ≠ gq ∧ w.heap.size ≤ gu ∧ w.heap.size ≤ gq
theorem DvAt.drewN {w W : World} {gu gq vb vo v0 vT : Nat} {u q : List Nat} (h : DvAt w W gu gq vb vo v0 vT u q) (n : Nat) : DvAt w (W.drewN n) gu gq vb vo v0 vT u q := ⟨h.ru, h.rq, h.c0, h.c1, gdrewN h.gr n, h.ne⟩
theorem row_other {W : World} {g g' : Nat} {r : List Nat} (h : RowAt W g r) (hne : g ≠ g') (i : Nat) (v : Value) : RowAt (W.setCell ⟨g', i, none⟩ v) g r := (Below.heap_setCell _ _ _ _ hne).trans h
theorem DvAt.setU {w W : World} {gu gq vb vo v0 vT : Nat} {u q : List Nat} (h : DvAt w W gu gq vb vo v0 vT u q) (i x : Nat) : DvAt w (W.setCell ⟨gu, i, none⟩ (.int .u32 (x : Int))) gu gq vb vo v0 vT (u.set i x) q :=
  ⟨row_set h.ru i x, row_other h.rq h.ne.1.symm i _, (World.cell?_setCell_other _ _ _ _ (by simp; intro e; exact absurd e.symm h.ne.2.1)).trans h.c0, (World.cell?_setCell_other _ _ _ _ (by simp; intro e; exact absurd e.symm h.ne.2.1)).trans h.c1, gset h.gr (p := ⟨gu, i, none⟩) h.ne.2.2.2.1 _, h.ne⟩
theorem DvAt.setQ {w W : World} {gu gq vb vo v0 vT : Nat} {u q : List Nat} (h : DvAt w W gu gq vb vo v0 vT u q) (i x : Nat) : DvAt w (W.setCell ⟨gq, i, none⟩ (.int .u32 (x : Int))) gu gq vb vo v0 vT u (q.set i x) :=
  ⟨row_other h.ru h.ne.1 i _, row_set h.rq i x, (World.cell?_setCell_other _ _ _ _ (by simp; intro e; exact absurd e.symm h.ne.2.2.1)).trans h.c0, (World.cell?_setCell_other _ _ _ _ (by simp; intro e; exact absurd e.symm h.ne.2.2.1)).trans h.c1, gset h.gr (p := ⟨gq, i, none⟩) h.ne.2.2.2.2 _, h.ne⟩
end Go.Proofs.YtiolkeipgpkbmaaGreatDoor

namespace Go.Proofs.YtiolkeipgpkbmaaGreatDoor
set_option linter.unusedVariables false
set_option linter.unusedSimpArgs false
open Go.RowKit Big

theorem sub_word2 (u lo d : Nat) (hu : u < 4294967296) (hlo : lo < 4294967296) (hd : d ≤ 1) : ∃ M T x e : Nat, IntKind.u64.wrap ((u : Int) - (lo : Int)) = (M : Int) ∧ M < 18446744073709551616 ∧ IntKind.u64.wrap ((M : Int) - (d : Int)) = (T : Int) ∧ IntKind.u32.wrap (T : Int) = (x : Int) ∧ (T : Int) / 9223372036854775808 = (e : Int) ∧ x < 4294967296 ∧ e ≤ 1 ∧ T < 18446744073709551616 ∧ (u : Int) - lo - d = (x : Int) - 4294967296 * e := by
  obtain ⟨T, x, e, h1, h2, h3, h4, h5, h6, h7⟩ := sub_word u lo d hu hlo hd
  have hM : 0 ≤ IntKind.u64.wrap ((u : Int) - (lo : Int)) ∧ IntKind.u64.wrap ((u : Int) - (lo : Int)) < 18446744073709551616 := by
    rw [IntKind.wrap_u64]; omega
  obtain ⟨M, hMe⟩ : ∃ M : Nat, IntKind.u64.wrap ((u : Int) - (lo : Int)) = (M : Int) := ⟨(IntKind.u64.wrap ((u : Int) - (lo : Int))).toNat, by omega⟩
  rw [hMe] at h1 hM
  exact ⟨M, T, x, e, hMe, by omega, h1, h2, h3, h4, h5, h6, h7⟩
theorem wrap32_mod (P : Nat) : IntKind.u32.wrap (P : Int) = ((P % 4294967296 : Nat) : Int) := by
  simp only [IntKind.wrap, IntKind.bits, IntKind.signed]
  simp
theorem div_nums {a0 a1 a2 H v0 vT g : Nat} (a0b : a0 < 4294967296) (a1b : a1 < 4294967296) (a2b : a2 < 4294967296) (hH : a1 + 4294967296 * a2 = H) (hv0 : v0 < 4294967296) (hvT : vT < 4294967296) (hV : 0 < vT * 4294967296 + v0) (hlt : a0 + 4294967296 * H < (vT * 4294967296 + v0) * 4294967296) (hg : g = (a0 + 4294967296 * H) / (vT * 4294967296 + v0)) :
    ∃ P0 lo0 c1 T0 x0 d0 Q P1 lo1 c2 M1 T1 x1 d1 : Nat,
      (g < 4294967296 ∧ (g : Int) * (v0 : Int) = (P0 : Int) ∧ P0 < 18446744073709551616 ∧ IntKind.u32.wrap (P0 : Int) = (lo0 : Int) ∧ lo0 < 4294967296 ∧ (P0 : Int) / 4294967296 = (c1 : Int) ∧ c1 < 4294967296) ∧
      (IntKind.u64.wrap ((a0 : Int) - (lo0 : Int)) = (T0 : Int) ∧ T0 < 18446744073709551616 ∧ IntKind.u32.wrap (T0 : Int) = (x0 : Int) ∧ (T0 : Int) / 9223372036854775808 = (d0 : Int) ∧ x0 < 4294967296 ∧ d0 ≤ 1) ∧
      ((g : Int) * (vT : Int) = (Q : Int) ∧ Q < 18446744073709551616 ∧ (c1 : Int) + (Q : Int) = (P1 : Int) ∧ P1 < 18446744073709551616 ∧ IntKind.u32.wrap (P1 : Int) = (lo1 : Int) ∧ lo1 < 4294967296 ∧ (P1 : Int) / 4294967296 = (c2 : Int) ∧ c2 < 4294967296) ∧
      (IntKind.u64.wrap ((a1 : Int) - (lo1 : Int)) = (M1 : Int) ∧ M1 < 18446744073709551616 ∧ IntKind.u64.wrap ((M1 : Int) - (d0 : Int)) = (T1 : Int) ∧ T1 < 18446744073709551616 ∧ IntKind.u32.wrap (T1 : Int) = (x1 : Int) ∧ (T1 : Int) / 9223372036854775808 = (d1 : Int) ∧ x1 < 4294967296 ∧ d1 ≤ 1) ∧
      (a2 : Int) - (c2 : Int) = (d1 : Int) ∧ x0 + 4294967296 * x1 + g * (v0 + 4294967296 * vT) = a0 + 4294967296 * (a1 + 4294967296 * a2) ∧ x0 + 4294967296 * x1 < v0 + 4294967296 * vT := by
  have hgb : g < 4294967296 := by rw [hg, Nat.div_lt_iff_lt_mul hV]; omega
  have e1 : g * (vT * 4294967296 + v0) ≤ a0 + 4294967296 * H := by rw [hg]; exact Nat.div_mul_le_self _ _
  have e2 : a0 + 4294967296 * H < g * (vT * 4294967296 + v0) + (vT * 4294967296 + v0) := by
    have := Nat.lt_div_mul_add (a := a0 + 4294967296 * H) hV
    rw [← hg] at this
    exact this
  have p0 : g * v0 ≤ 4294967295 * 4294967295 := Nat.mul_le_mul (by omega) (by omega)
  have p1 : g * vT ≤ 4294967295 * 4294967295 := Nat.mul_le_mul (by omega) (by omega)
  clear hg
  have hVV : v0 + 4294967296 * vT = vT * 4294967296 + v0 := by omega
  have f0 : (g : Int) * (v0 : Int) = ((g * v0 : Nat) : Int) := by simp
  have f1 : (g : Int) * (vT : Int) = ((g * vT : Nat) : Int) := by simp
  have f2 : g * (v0 + 4294967296 * vT) = g * v0 + 4294967296 * (g * vT) := by rw [Nat.mul_add, Nat.mul_left_comm]
  rw [← hVV, f2] at e1 e2
  generalize g * v0 = P0 at *
  generalize g * vT = Q at *
  obtain ⟨M0, T0, x0, d0, s1, s2, s3, s4, s5, s6, s7, s8, s9⟩ := sub_word2 a0 (P0 % 4294967296) 0 a0b (by omega) (by omega)
  obtain ⟨M1, T1, x1, d1, r1, r2, r3, r4, r5, r6, r7, r8, r9⟩ := sub_word2 a1 ((P0 / 4294967296 + Q) % 4294967296) d0 a1b (by omega) s7
  have hT0 : (M0 : Int) = (T0 : Int) := by
    rw [← s3, IntKind.wrap_u64]; omega
  have key : (a2 : Int) - ((P0 / 4294967296 + Q) / 4294967296 : Nat) - d1 = 0 ∧ (x0 : Int) + 4294967296 * x1 = (a0 + 4294967296 * (a1 + 4294967296 * a2) : Nat) - (P0 + 4294967296 * Q : Nat) := by omega
  refine ⟨P0, P0 % 4294967296, P0 / 4294967296, T0, x0, d0, Q, P0 / 4294967296 + Q, (P0 / 4294967296 + Q) % 4294967296, (P0 / 4294967296 + Q) / 4294967296, M1, T1, x1, d1, ⟨hgb, f0, by omega, wrap32_mod _, by omega, by omega, by omega⟩, ⟨by rw [s1, hT0], s8, s4, s5, s6, s7⟩, ⟨f1, by omega, by omega, by omega, wrap32_mod _, by omega, by omega, by omega⟩, ⟨r1, r2, r3, r8, r4, r5, r6, r7⟩, by omega, ?_, by omega⟩
  rw [f2]
  omega
end Go.Proofs.YtiolkeipgpkbmaaGreatDoor

namespace Go.Proofs.YtiolkeipgpkbmaaGreatDoor
set_option linter.unusedVariables false
set_option linter.unusedSimpArgs false
set_option maxRecDepth 100000
open Go.RowKit Big

theorem or_low (x y : Nat) (hx : x < 4294967296) (hy : y < 4294967296) : bits .or .u64 ((y : Int) * 4294967296) (x : Int) = ((x + 4294967296 * y : Nat) : Int) := by
  rw [show (y : Int) * 4294967296 = ((y * 4294967296 : Nat) : Int) by omega, bits_or_u64_nat _ _ (by omega) (by omega)]
  have := Nat.two_pow_add_eq_or_of_lt (i := 32) (b := x) (by omega) y
  rw [Nat.mul_comm y 4294967296, Nat.add_comm]
  exact congrArg _ this.symm
set_option maxHeartbeats 16000000 in
theorem div_long (va vb : Value) (a b : List Nat) (w : World) (ha : Wd w va a) (hb : Wd w vb b) (na : Nrm a) (nb : Nrm b) (h3 : a.length = 3) (h2 : b.length = 2) (hge : val b ≤ val a) :
    Calls Tryz.prog 81 #[va, vb] w (DivEnd w (val a) (val b)) := by
  have hb1 : 4294967296 ≤ val b := by
    have := val_ge nb (by omega)
    rw [h2] at this
    simpa using this
  have hb2 : val b < 18446744073709551616 := by
    have := val_lt hb.ok
    rw [h2] at this
    simpa using this
  have ha2 : val a < 79228162514264337593543950336 := by
    have := val_lt ha.ok
    rw [h3] at this
    simpa using this
  have Cm : Hid (∃ c : Int, (c = 0 ∨ c = 1) ∧ Calls Tryz.prog 86 #[va, vb] w fun e w' => e = .returned (.int .i64 c) ∧ ∃ n, w' = w.drewN n) := ⟨_, cmp_ge hge, cmp_any va vb a b w ha hb na nb⟩
  have HLn : Hid (∀ W, w.grownBy W none → Calls Tryz.prog 111 #[vb] W fun e w' => (∃ L : Nat, e = .returned (.int .i64 L) ∧ Bits (val b) L) ∧ w' = W) := fun W hW => length_any vb b W (hb.grow hW) nb (by omega)
  have HLb : Hid (∀ s W, s < 32 → w.grownBy W none → Calls Tryz.prog 112 #[vb, .int .u64 ((s : Nat) : Int)] W fun e w' => ∃ v' l', e = .returned v' ∧ Hid (Wd w' v' l' ∧ Nrm l' ∧ val l' = val b * 2 ^ s ∧ W.grownBy w' none)) := fun s W hs hW => left_any vb b s W (hb.grow hW) (by omega) hs (by omega)
  have HLa : Hid (∀ s W, s < 32 → w.grownBy W none → Calls Tryz.prog 112 #[va, .int .u64 ((s : Nat) : Int)] W fun e w' => ∃ v' l', e = .returned v' ∧ Hid (Wd w' v' l' ∧ Nrm l' ∧ val l' = val a * 2 ^ s ∧ W.grownBy w' none)) := fun s W hs hW => left_any va a s W (ha.grow hW) (by omega) hs (by omega)
  obtain ⟨aa, ca, rfl, la, Oa, Fa⟩ := ha.form
  obtain ⟨ab, cb, rfl, lb, Ob, Fb⟩ := hb.form
  rw [h3] at HLa Cm ⊢
  rw [h2] at HLn HLb Cm ⊢
  clear ha hb na nb Fa Fb Oa Ob la lb h3 h2
  obtain ⟨c, hc, Cm⟩ := Cm.out
  have Cm2 : Hid (Calls Tryz.prog 86 #[.slice aa 3 ca, .slice ab 2 cb] w fun e w' => e = .returned (.int .i64 c) ∧ ∃ n, w' = w.drewN n) := Cm
  clear Cm
  have hmk5 := fun w => run_make_row' (P := Tryz.prog) 81 166 (.int .u32 0) 4 Tryz.underlying81 Tryz.infoW rfl .i64 .i64 5 (by omega) (by omega) w
  have hmk3 := fun w => run_make_row' (P := Tryz.prog) 81 166 (.int .u32 0) 4 Tryz.underlying81 Tryz.infoW rfl .i64 .i64 3 (by omega) (by omega) w
  rw [show ((5 : Nat) : Int) = 5 from rfl] at hmk5
  rw [show ((3 : Nat) : Int) = 3 from rfl] at hmk3
  generalize val a = x at *
  generalize val b = y at *
  have hxy : y ≤ x := hge
  have c0 : ¬ c < 0 := by rcases hc with rfl | rfl <;> omega
  clear hc
  go_enter Tryz.func81, Tryz.ntmps81
  go_wp2_with fail
  refine Cm2.out.mono ?_
  rintro e w' ⟨rfl, n, hw⟩
  have HG1 : Hid (w.grownBy w' none) := by rw [hw]; exact gdrewN (grefl _ _) n
  clear hw Cm2
  go_wp2_with fail
  refine (HLn.out w' HG1.out).mono ?_
  rintro e w'' ⟨⟨L, rfl, hL⟩, hw⟩
  rw [hw]; clear hw w'' HLn
  obtain ⟨s, hs, hLs, hs1, hs2⟩ := shift_of hL hb1 hb2
  have k1 : ((L : Int) - 1).tmod 32 = (L : Int) - 33 := by rw [Int.tmod_eq_emod_of_nonneg (by omega)]; omega
  have k2 : ((L : Int) - 1) % 32 = (L : Int) - 33 := by omega
  have k3 : (32 : Int) - ((L : Int) - 33) - 1 = (s : Int) := by omega
  have hLI : (L : Int) ≤ 64 ∧ (33 : Int) ≤ L := by omega
  go_wp2_with fail
  refine (HLb.out s w' hs HG1.out).mono ?_
  rintro e w1 ⟨v1, l1, rfl, hR1⟩
  obtain ⟨hw1, hn1, hv1, hg1⟩ := hR1.out
  have hG2 : w.grownBy w1 none := gtrans HG1.out hg1
  have hl1 : l1.length = 2 := words_two hn1 hw1.ok (by rw [hv1]; omega) (by rw [hv1]; omega)
  obtain ⟨ad1, cv1, rfl, _, _, F1⟩ := hw1.form
  obtain ⟨vb, vo, rfl, hvb, hvc⟩ := F1.out (by omega)
  have ok1 := hw1.ok
  obtain ⟨v0, vT, rfl⟩ : ∃ v0 vT, l1 = [v0, vT] := by
    match l1, hl1 with
    | [p, q], _ => exact ⟨p, q, rfl⟩
  have hv0 : v0 < 4294967296 := by simpa using ok1 0 (by simp)
  have hvT : vT < 4294967296 := by simpa using ok1 1 (by simp)
  have hV : v0 + 4294967296 * vT = y * 2 ^ s := by
    have := hv1
    simp only [val] at this
    omega
  have hc0 : w1.cell? ⟨vb, vo, none⟩ = some (.int .u32 (v0 : Nat)) := by simpa using hvc 0 (by simp)
  have hc1 : w1.cell? ⟨vb, vo + 1, none⟩ = some (.int .u32 (vT : Nat)) := by simpa using hvc 1 (by simp)
  have HV : Hid (v0 + 4294967296 * vT = y * 2 ^ s ∧ 2147483648 ≤ vT) := ⟨hV, by omega⟩
  have HVc : Hid (w1.cell? ⟨vb, vo, none⟩ = some (.int .u32 (v0 : Nat)) ∧ w1.cell? ⟨vb, vo + 1, none⟩ = some (.int .u32 (vT : Nat)) ∧ vb < w1.heap.size) := ⟨hc0, hc1, hvb⟩
  have HG2 : Hid (w.grownBy w1 none) := hG2
  clear hR1 hw1 hn1 hv1 hg1 hG2 hl1 F1 hvc ok1 hV hc0 hc1 hvb HLb HG1 k1 k2 k3 hLI hL
  have HU0 : Hid (RowAt (w1.alloc (.cells (madeCells #[.int .u32 0] 5) 166)) w1.heap.size (List.replicate 5 0) ∧ w1.grownBy (w1.alloc (.cells (madeCells #[.int .u32 0] 5) 166)) none) := by
    refine ⟨?_, World.grownBy_alloc _ _ _⟩
    unfold RowAt
    rw [← made_row]
    exact alloc_blk _ _
  obtain ⟨w2, hw2⟩ : ∃ w2, w1.alloc (.cells (madeCells #[.int .u32 0] 5) 166) = w2 := ⟨_, rfl⟩
  rw [hw2] at HU0
  have HW2 : Hid (w1.alloc (.cells (madeCells #[.int .u32 0] 5) 166) = w2) := hw2
  clear hw2
  have HLa2 : Hid (Calls _ _ _ _ _) := HLa.out s w2 hs (gtrans HG2.out HU0.out.2)
  go_upto_region 14 with fail
  rw [HW2.out]
  clear HW2 HLa
  go_wp2_with fail
  refine HLa2.out.mono ?_
  rintro e w3 ⟨v3, l3, rfl, hR3⟩
  obtain ⟨hw3, hn3, hv3, hg3⟩ := hR3.out
  have hl3 : l3.length ≤ 4 := words_four hn3 (by
    rw [hv3]
    have h1 : x * 2 ^ s ≤ 79228162514264337593543950335 * 4294967296 := Nat.mul_le_mul (by omega) (pow_le_32 hs)
    omega)
  have hl3' : 0 < l3.length := by
    rcases Nat.eq_zero_or_pos l3.length with h0 | h0
    · have e0 : l3 = [] := List.eq_nil_of_length_eq_zero h0
      rw [e0] at hv3
      have : 0 < x * 2 ^ s := Nat.mul_pos (by omega) (Nat.pow_pos (by omega))
      simp only [val] at hv3
      omega
    · exact h0
  obtain ⟨ad3, cv3, e3, _, _, F3⟩ := hw3.form
  subst e3
  obtain ⟨b3, o3, e3, hb3, hc3⟩ := F3.out hl3'
  subst e3
  have hg13 : w1.grownBy w3 none := gtrans HU0.out.2 hg3
  have hgu : w1.heap.size < w2.heap.size := blk_lt HU0.out.1
  have hrow3 : RowAt w3 w1.heap.size (List.replicate 5 0) := (hg3.block _ hgu (by simp)).trans HU0.out.1
  have hcp := copy_words (cap := cv3) hrow3 (n := 5) (by simp) (by omega) hc3
  have hu0 : (l3 ++ (List.replicate 5 0).drop l3.length).length = 5 := by
    rw [List.length_append, List.length_drop, List.length_replicate]; omega
  have hval0 : val (l3 ++ (List.replicate 5 0).drop l3.length) = x * 2 ^ s := by
    rw [val_append, List.drop_replicate, val_zeros, Nat.mul_zero, Nat.add_zero, hv3]
  have hok0 : Ok (l3 ++ (List.replicate 5 0).drop l3.length) := ok_append hw3.ok (by rw [List.drop_replicate]; exact ok_zeros _)
  obtain ⟨w4, hw4⟩ : ∃ w4, w3.setRow w1.heap.size (rowA (l3 ++ (List.replicate 5 0).drop l3.length)) = w4 := ⟨_, rfl⟩
  have hr4 : RowAt w4 w1.heap.size (l3 ++ (List.replicate 5 0).drop l3.length) := by rw [← hw4]; exact row_put hrow3
  have hg14 : w1.grownBy w4 none := by rw [← hw4]; exact gput hg13 (Nat.le_refl _) _
  rw [hw4] at hcp
  generalize l3 ++ (List.replicate 5 0).drop l3.length = u0 at *
  obtain ⟨n3, hn3'⟩ : ∃ n3, l3.length = n3 := ⟨_, rfl⟩
  rw [hn3'] at hcp ⊢
  have Hcp : Hid (∀ ty, _) := hcp
  have HS4 : Hid (RowAt w4 w1.heap.size u0 ∧ u0.length = 5 ∧ val u0 = x * 2 ^ s ∧ Ok u0 ∧ w1.grownBy w4 none) := ⟨hr4, hu0, hval0, hok0, hg14⟩
  clear hR3 hw3 hn3 hv3 hg3 hl3 hl3' F3 hb3 hc3 hg13 hrow3 hcp hu0 hval0 hok0 hw4 hr4 hg14 HLa2 hgu hn3'
  go_wp2_with (refine wpList_copy_run rfl (.tmp 81) (.tmp 84) _ _ rfl (.slice (some ⟨w1.heap.size, 0, none⟩) 5 5) (.slice (some ⟨b3, o3, none⟩) n3 cv3) rfl rfl (Hcp.out _) ?_)
  have HD : Hid (DvAt w (w4.alloc (.cells (madeCells #[.int .u32 0] 3) 166)) w1.heap.size w4.heap.size vb vo v0 vT u0 (List.replicate 3 0)) := by
    obtain ⟨r1, r2, r3, r4, r5⟩ := HS4.out
    obtain ⟨q1, q2, q3⟩ := HVc.out
    have hs4 := blk_lt r1
    have g5 : w4.grownBy (w4.alloc (.cells (madeCells #[.int .u32 0] 3) 166)) none := World.grownBy_alloc _ _ _
    refine ⟨(g5.block _ hs4 (by simp)).trans r1, ?_, g5.cell (r5.cell q1 (by simp)) (by simp), g5.cell (r5.cell q2 (by simp)) (by simp), gtrans HG2.out (gtrans r5 g5), ⟨by omega, by omega, by omega, HG2.out.size, Nat.le_trans HG2.out.size (Nat.le_of_lt hs4)⟩⟩
    unfold RowAt
    rw [← made_row]
    exact alloc_blk _ _
  have HLg : Hid (Long (x * 2 ^ s) (y * 2 ^ s) u0 (List.replicate 3 0) 3) := by
    obtain ⟨r1, r2, r3, r4, r5⟩ := HS4.out
    refine ⟨r2, by simp, r4, ok_zeros 3, ?_, ?_⟩
    · rw [r3, List.drop_replicate]; simp [val]
    · have h1 := val_parts u0 3 (by omega)
      have h4 : x * 2 ^ s < 4294967296 ^ 3 * 2 ^ s := Nat.mul_lt_mul_of_pos_right (by simpa using ha2) (Nat.pow_pos (by omega))
      have h5 : 4294967296 ^ 3 * val (u0.drop 3) < 4294967296 ^ 3 * 2 ^ s := by omega
      have h6 := Nat.lt_of_mul_lt_mul_left h5
      have h7 := pow_le_32 hs
      omega
  obtain ⟨w5, hw5⟩ : ∃ w5, w4.alloc (.cells (madeCells #[.int .u32 0] 3) 166) = w5 := ⟨_, rfl⟩
  rw [hw5] at HD ⊢
  obtain ⟨gu, hgu⟩ : ∃ gu, w1.heap.size = gu := ⟨_, rfl⟩
  obtain ⟨gq, hgq⟩ : ∃ gq, w4.heap.size = gq := ⟨_, rfl⟩
  rw [hgu, hgq] at HD ⊢
  clear hw5 hgu hgq HS4 HVc HG2 HU0 Hcp hmk5 hmk3
  have d0 := HD.out.c0
  have d1 := HD.out.c1
  go_wp2
  go_quiet (fail)
  rename Nat => nq1
  have HD1 : Hid (DvAt w (w5.drewN nq1) gu gq vb vo v0 vT u0 (List.replicate 3 0)) := HD.out.drewN nq1
  clear d0 d1 HD
  generalize w5.drewN nq1 = w6 at *
  go_wp2
  go_loopw [18] (fun jv wr => ∃ (jj : Nat) (u q : List Nat), jj ≤ 3 ∧ jv = .int .i64 ((jj : Int) - 1) ∧ Hid (Long (x * 2 ^ s) (y * 2 ^ s) u q jj) ∧ Hid (DvAt w wr gu gq vb vo v0 vT u q)) (fun jv _ => (RowKit.intOf jv + 1).toNat)
  case atStart => exact ⟨3, u0, List.replicate 3 0, Nat.le_refl _, rfl, HLg, HD1⟩
  case round =>
    obtain ⟨jj, u, q, hjj, rfl, HL, HD⟩ := hrel
    by_cases hj : jj = 0
    · subst hj
      have hL0 := HL.out
      have hVp : 0 < y * 2 ^ s := Nat.mul_pos (by omega) (Nat.pow_pos (by omega))
      have heq : val u + y * 2 ^ s * val q = x * 2 ^ s := by
        have := hL0.eq
        simpa using this
      have hlt : val u < y * 2 ^ s := by simpa using hL0.lt
      have hpw : 0 < 2 ^ s := Nat.pow_pos (by omega)
      have hq1 : val q = x / y := by
        have h1 : x * 2 ^ s / (y * 2 ^ s) = x / y := Nat.mul_div_mul_right x y hpw
        rw [← h1, ← heq, Nat.add_mul_div_left _ _ hVp, Nat.div_eq_of_lt hlt, Nat.zero_add]
      have hu1 : val u / 2 ^ s = x % y := by
        have h1 : x * 2 ^ s % (y * 2 ^ s) = x % y * 2 ^ s := Nat.mul_mod_mul_right (2 ^ s) x y
        have h2 : x * 2 ^ s % (y * 2 ^ s) = val u := by rw [← heq, Nat.add_mul_mod_self_left, Nat.mod_eq_of_lt hlt]
        rw [← h2, h1, Nat.mul_div_cancel _ hpw]
      have wq := row_wd HD.out.rq hL0.oq (by rw [hL0.lq]; omega) 3 (by rw [hL0.lq]; exact Nat.le_refl _)
      have wu := row_wd HD.out.ru hL0.ou (by rw [hL0.lu]; omega) 5 (by rw [hL0.lu]; exact Nat.le_refl _)
      have tq := trim_any _ q wr wq
      have tu := trim_any _ u wr wu
      rw [hL0.lq] at tq
      rw [hL0.lu] at tu
      have HT1 : Hid (Calls _ _ _ _ _) := tq
      have HT2 : Hid (Calls _ _ _ _ _) := tu
      have HNq : Hid (Nrm (q.take (tl q 3)) ∧ val (q.take (tl q 3)) = x / y) := by
        have e3 := hL0.lq
        refine ⟨nrm_tl q 3 (by omega), ?_⟩
        rw [val_tl q 3 (by omega), List.take_of_length_le (by omega), hq1]
      have HNu : Hid (val (u.take (tl u 5)) = val u ∧ (u.take (tl u 5)).length ≤ 1000) := by
        have e5 := hL0.lu
        refine ⟨?_, by rw [List.length_take]; omega⟩
        rw [val_tl u 5 (by omega), List.take_of_length_le (by omega)]
      have HRt : Hid (∀ v, Wd wr v (u.take (tl u 5)) → Calls Tryz.prog 113 #[v, .int .u64 ((s : Nat) : Int)] wr fun e w' => ∃ v' l', e = .returned v' ∧ Hid (Wd w' v' l' ∧ Nrm l' ∧ val l' = x % y ∧ wr.grownBy w' none)) := fun v hv => by
        have := right_any v _ s wr hv hs HNu.out.2
        rw [HNu.out.1, hu1] at this
        exact this
      have HGr : Hid (w.grownBy wr none) := HD.out.gr
      have jm : ((0 : Nat) : Int) - 1 = -1 := rfl
      rw [jm]
      clear jm hL0 hVp heq hlt hpw hq1 hu1 wq wu tq tu HL HD HNu HV
      go_wp2_with fail
      refine HT1.out.mono ?_
      rintro e w' ⟨⟨vq, rfl, hwq⟩, hw⟩
      rw [hw]; clear hw w' HT1
      have HWq : Hid (Wd wr vq (q.take (tl q 3))) := hwq
      clear hwq
      go_wp2_with fail
      refine HT2.out.mono ?_
      rintro e w' ⟨⟨vu, rfl, hwu⟩, hw⟩
      rw [hw]; clear hw w' HT2
      have HR1 : Hid (Calls _ _ _ _ _) := HRt.out vu hwu
      clear hwu HRt
      go_wp2_with fail
      refine HR1.out.mono ?_
      rintro e w7 ⟨v7, l7, rfl, h7⟩
      have HEnd : Hid (DivEnd w x y (.returned (.tuple #[vq, v7])) w7) :=
        ⟨vq, v7, q.take (tl q 3), l7, rfl, HWq.out.grow h7.out.2.2.2, h7.out.1, HNq.out.1, h7.out.2.1, HNq.out.2, h7.out.2.2.1, gtrans HGr.out h7.out.2.2.2⟩
      clear h7 HR1 HWq HNq HGr
      go_wp2
      go_ret2
      exact HEnd.out
    · obtain ⟨j, rfl⟩ : ∃ j, jj = j + 1 := ⟨jj - 1, by omega⟩
      rw [show ((j + 1 : Nat) : Int) - 1 = (j : Int) by omega]
      have hj3 : j < 3 := by omega
      obtain ⟨hVe, hVt⟩ := HV.out
      have hVlt : y * 2 ^ s < 18446744073709551616 := by omega
      obtain ⟨lw1, lw2, lw3⟩ := long_words HL.out hj3 hVlt
      have ou := HL.out.ou
      have lu := HL.out.lu
      have a0b := ou j (by omega)
      have a1b := ou (j + 1) (by omega)
      have a2b := ou (j + 2) (by omega)
      have k0 := row_cell HD.out.ru (i := j) (by omega)
      have k1 := row_cell HD.out.ru (i := j + 1) (by omega)
      have k2 := row_cell HD.out.ru (i := j + 2) (by omega)
      obtain ⟨a0, ha0⟩ : ∃ a0, u.getD j 0 = a0 := ⟨_, rfl⟩
      obtain ⟨a1, ha1⟩ : ∃ a1, u.getD (j + 1) 0 = a1 := ⟨_, rfl⟩
      obtain ⟨a2, ha2'⟩ : ∃ a2, u.getD (j + 2) 0 = a2 := ⟨_, rfl⟩
      rw [ha0] at a0b k0 lw1
      rw [ha1] at a1b k1 lw1 lw2
      rw [ha2'] at a2b k2 lw1 lw2
      have HX : Hid (val (u.drop j) = a0 + 4294967296 * (a1 + 4294967296 * a2)) := lw1
      have ro := or_low a1 a2 a1b a2b
      have rs : IntKind.u64.wrap ((a2 : Int) * 4294967296) = (a2 : Int) * 4294967296 := by rw [IntKind.wrap_u64]; omega
      have hHb : a1 + 4294967296 * a2 < 18446744073709551616 := by omega
      obtain ⟨H, hH⟩ : ∃ H, a1 + 4294967296 * a2 = H := ⟨_, rfl⟩
      rw [hH] at ro hHb lw2
      rw [hH] at HX
      have vT0 : 0 < vT := by omega
      have t1 : (H : Int).tdiv (vT : Int) = ((H / vT : Nat) : Int) := by rw [Int.tdiv_eq_ediv_of_nonneg (by omega)]; rfl
      have t2 : (H : Int).tmod (vT : Int) = ((H % vT : Nat) : Int) := by rw [Int.tmod_eq_emod_of_nonneg (by omega)]; rfl
      have t3 : (H : Int) / (vT : Int) = ((H / vT : Nat) : Int) := rfl
      have t4 : (H : Int) % (vT : Int) = ((H % vT : Nat) : Int) := rfl
      have hU : a0 + 4294967296 * H = H * 4294967296 + a0 := by omega
      have HG : Hid (Guess 4294967296 (a0 + 4294967296 * H) vT v0 H a0 (H / vT) (H % vT)) := guess_start hU a0b vT0
      have g0b : H / vT ≤ 4294967296 + 1 := guess_first (by omega) hv0 (by omega)
      have r0b : H % vT < vT := Nat.mod_lt _ vT0
      generalize H / vT = g0 at *
      generalize H % vT = r0 at *
      have g0I : (g0 : Int) < 18446744073709551616 := by omega
      have r0I : (r0 : Int) < 18446744073709551616 := by omega
      have q0 : (0 : Int) ≤ (j : Int) := by omega
      have q1 : (j : Int) + 2 < 5 := by omega
      have q2 : (j : Int) + 1 < 5 := by omega
      have q3 : (j : Int) < 5 := by omega
      have q4 : ((j : Int) + 2).toNat = j + 2 := by omega
      have q5 : ((j : Int) + 1).toNat = j + 1 := by omega
      have q6 : (0 : Int) ≤ (j : Int) + 1 := by omega
      have q7 : (0 : Int) ≤ (j : Int) + 2 := by omega
      have z2 : ¬ vT = 0 := by omega
      have gw : IntKind.u64.wrap (g0 : Int) = (g0 : Int) := by rw [IntKind.wrap_u64]; omega
      have rw0 : IntKind.u64.wrap (r0 : Int) = (r0 : Int) := by rw [IntKind.wrap_u64]; omega
      have z0 : (vT : Int) ≠ 0 := by omega
      have z1 : ((vT : Int) == 0) = false := by rw [beq_eq_false_iff_ne]; exact z0
      go_wp2
      go_quiet (fail)
      rename Nat => nq2
      go_wp2
      go_quiet (fail)
      rename Nat => nq3
      rw [World.drewN_drewN]
      generalize nq2 + nq3 = nq4
      have HDn : Hid (DvAt w (wr.drewN nq4) gu gq vb vo v0 vT u q) := HD.out.drewN nq4
      have k0n := row_cell HDn.out.ru (i := j) (by omega)
      rw [ha0] at k0n
      clear k0 k1 k2 t1 t2 t3 t4 ro rs rw0 gw z0 z1 z2 g0I r0I HD
      generalize wr.drewN nq4 = W at *
      go_upto_block 2 with fail
      go_cut [20, 21] from 136 to 161 (fun gv rv wx => ∃ g r : Nat, gv = .int .u64 (g : Int) ∧ rv = .int .u64 (r : Int) ∧ Hid (g = (a0 + 4294967296 * H) / (vT * 4294967296 + v0)) ∧ wx = W)
      case first =>
        have HUV : Hid (a0 + 4294967296 * H < (vT * 4294967296 + v0) * 4294967296) := by
          have : H + 1 ≤ vT * 4294967296 + v0 := by omega
          have := Nat.mul_le_mul_right 4294967296 this
          show _ < _
          omega
        have hVp : 0 < vT * 4294967296 + v0 := by omega
        clear HL HX HDn lw1 lw2 lw3 ou lu HV hVe hVlt hHb hH ha0 ha1 ha2' q1 q2 q4 q5 q6 q7 a1b a2b
        go_wp2_with fail
        go_loopw [20, 21] (fun gv rv wx => ∃ g r : Nat, gv = .int .u64 (g : Int) ∧ rv = .int .u64 (r : Int) ∧ Hid (Guess 4294967296 (a0 + 4294967296 * H) vT v0 H a0 g r) ∧ g ≤ 4294967297 ∧ r < 4294967296 ∧ wx = W) (fun gv _ _ => (RowKit.intOf gv).toNat)
        case atStart => exact ⟨g0, r0, rfl, rfl, HG, by omega, by omega, rfl⟩
        case round =>
          rename World => wq
          obtain ⟨g, r, rfl, rfl, HGg, hg1, hr1, rfl⟩ := hrel
          by_cases hgB : 4294967295 < g
          · have gI : (4294967295 : Int) < (g : Int) := by omega
            obtain ⟨G1, gp⟩ := guess_great HGg.out hVp HUV.out (by omega) (by omega)
            have EN : 4294967296 ≤ r + vT → Hid (g - 1 = (a0 + 4294967296 * H) / (vT * 4294967296 + v0)) := fun hb => guess_break G1 hU hVp hv0 (by omega) hb
            have HG1 : Hid (Guess 4294967296 (a0 + 4294967296 * H) vT v0 H a0 (g - 1) (r + vT)) := G1
            clear G1 HGg HG HUV
            have gp1 : (1 : Int) ≤ (g : Int) := by omega
            have gp2 : (g : Int) ≤ 4294967297 := by omega
            have rI : (r : Int) < 4294967296 := by omega
            have vI : (vT : Int) < 4294967296 := by omega
            by_cases hb : 4294967296 ≤ r + vT
            · have bI : (4294967295 : Int) < (r : Int) + (vT : Int) := by omega
              have EN1 := EN hb
              clear EN
              go_wp2_with fail
              go_meet
              exact ⟨g - 1, r + vT, by go_num, by go_num, EN1, rfl⟩
            · have bI : ¬ (4294967295 : Int) < (r : Int) + (vT : Int) := by omega
              clear EN
              go_wp2_with fail
              go_roundw
              case rel => exact ⟨g - 1, r + vT, by go_num, by go_num, HG1, by omega, by omega, by first | rfl | trivial⟩
              case measure => simp [RowKit.intOf]; omega
          · have gI : ¬ (4294967295 : Int) < (g : Int) := by omega
            have ro := or_low a0 r a0b hr1
            have rs : IntKind.u64.wrap ((r : Int) * 4294967296) = (r : Int) * 4294967296 := by rw [IntKind.wrap_u64]; omega
            have hPb : g * v0 ≤ 4294967295 * 4294967295 := Nat.mul_le_mul (by omega) (by omega)
            have hPe : (g : Int) * (v0 : Int) = ((g * v0 : Nat) : Int) := by simp
            have EX : g * v0 ≤ r * 4294967296 + a0 → Hid (g = (a0 + 4294967296 * H) / (vT * 4294967296 + v0)) := fun h => guess_exit HGg.out hU hVp h
            have NX : r * 4294967296 + a0 < g * v0 → Guess 4294967296 (a0 + 4294967296 * H) vT v0 H a0 (g - 1) (r + vT) ∧ 0 < g := fun h => guess_next HGg.out hU hVp h
            obtain ⟨P, hP⟩ : ∃ P, g * v0 = P := ⟨_, rfl⟩
            rw [hP] at hPb hPe EX NX
            clear hP
            have Pw : IntKind.u64.wrap (P : Int) = (P : Int) := by rw [IntKind.wrap_u64]; omega
            obtain ⟨Z, hZ⟩ : ∃ Z, a0 + 4294967296 * r = Z := ⟨_, rfl⟩
            rw [hZ] at ro
            have hZ2 : r * 4294967296 + a0 = Z := by omega
            rw [hZ2] at EX NX
            clear hZ hZ2
            by_cases hbad : Z < P
            · obtain ⟨G1, gp⟩ := NX hbad
              clear EX NX
              have cI : (Z : Int) < (P : Int) := by omega
              have EN : 4294967296 ≤ r + vT → Hid (g - 1 = (a0 + 4294967296 * H) / (vT * 4294967296 + v0)) := fun hb => guess_break G1 hU hVp hv0 (by omega) hb
              have HG1 : Hid (Guess 4294967296 (a0 + 4294967296 * H) vT v0 H a0 (g - 1) (r + vT)) := G1
              clear G1 HGg HG HUV
              have gp1 : (1 : Int) ≤ (g : Int) := by omega
              have gp2 : (g : Int) ≤ 4294967297 := by omega
              have rI : (r : Int) < 4294967296 := by omega
              have vI : (vT : Int) < 4294967296 := by omega
              by_cases hb : 4294967296 ≤ r + vT
              · have bI : (4294967295 : Int) < (r : Int) + (vT : Int) := by omega
                have EN1 := EN hb
                clear EN
                go_wp2_with fail
                go_meet
                exact ⟨g - 1, r + vT, by go_num, by go_num, EN1, rfl⟩
              · have bI : ¬ (4294967295 : Int) < (r : Int) + (vT : Int) := by omega
                clear EN
                go_wp2_with fail
                go_roundw
                case rel => exact ⟨g - 1, r + vT, by go_num, by go_num, HG1, by omega, by omega, by first | rfl | trivial⟩
                case measure => simp [RowKit.intOf]; omega

            · have EX1 := EX (by omega)
              clear EX NX
              have cI : ¬ (Z : Int) < (P : Int) := by omega
              go_wp2_with fail
              go_meet
              exact ⟨g, r, rfl, rfl, EX1, rfl⟩
      case rest =>
        obtain ⟨g, r, rfl, rfl, HE, hW⟩ := hcut
        replace hW := hW.symm
        subst hW
        have hVp : 0 < vT * 4294967296 + v0 := by omega
        have HUV : a0 + 4294967296 * H < (vT * 4294967296 + v0) * 4294967296 := by omega
        obtain ⟨P0, lo0, c1, T0, x0, d0, Q, P1, lo1, c2, M1, T1, x1, d1, ⟨gb, f1, f2, f3, f4, f5, f6⟩, ⟨f7, f8, f9, f10, f11, f12⟩, ⟨b1, b2, b3, b4, b5, b6, b7, b8⟩, ⟨m1, m2, m3, m4, m5, m6, m7, m8⟩, l1, l2, l3⟩ := div_nums a0b a1b a2b hH hv0 hvT hVp HUV HE.out
        have HN1 : Hid (Long (x * 2 ^ s) (y * 2 ^ s) (((u.set j x0).set (j + 1) x1).set (j + 2) 0) (q.set j g) j) := by
          refine long_step HL.out hj3 hVlt gb f11 m7 ?_ ?_
          · rw [HX.out, ← hVe, ← hH]; exact l2
          · rw [← hVe]; exact l3
        have D0 := HDn.out
        have D1 := D0.setU j x0
        have D2 := D1.setU (j + 1) x1
        have D3 := D2.setU (j + 2) 0
        have D4 := D3.setQ j g
        have HN2 : Hid (DvAt w _ gu gq vb vo v0 vT (((u.set j x0).set (j + 1) x1).set (j + 2) 0) (q.set j g)) := D4
        rw [show ((0 : Nat) : Int) = 0 from rfl] at HN2 D3
        have e0 := D0.c0
        have fz0 := row_frozen D0.ru j
        have e1 := D1.c1
        have kk1 := row_cell D1.ru (i := j + 1) (by rw [List.length_set]; omega)
        rw [set_next, ha1] at kk1
        have fz1 := row_frozen D1.ru (j + 1)
        have kk2 := row_cell D2.ru (i := j + 2) (by rw [List.length_set, List.length_set]; omega)
        rw [show ((u.set j x0).set (j + 1) x1).getD (j + 2) 0 = a2 by rw [set_next, List.getD_eq_getElem?_getD, List.getElem?_set_ne (by omega), ← List.getD_eq_getElem?_getD]; exact ha2'] at kk2
        have fz2 := row_frozen D2.ru (j + 2)
        have fzq := row_frozen D3.rq j
        have fzq0 := row_frozen HDn.out.rq j
        have lq3 := HL.out.lq
        have kq0 := row_cell HDn.out.rq (i := j) (by omega)
        have kq3 := row_cell D3.rq (i := j) (by omega)
        have gne : gq ≠ gu := HDn.out.ne.1.symm
        generalize q.getD j 0 = oldq at kq0 kq3
        clear D0 D1 D2 D3 D4 HDn HL HX HV HG HE hU l2 l3 lw1 lw2 lw3 ou lu hVe hVt hVlt hHb hH ha0 ha1 ha2' hVp HUV
        have i1 : ((1 : Int) + (j : Int)).toNat = j + 1 := by omega
        have i2 : (1 : Int) + (j : Int) < 5 := by omega
        have i3 : (0 : Int) ≤ (1 : Int) + (j : Int) := by omega
        have i4 : (j : Int) < 3 := by omega
        have I1 : (P0 : Int) < 18446744073709551616 := by omega
        have I2 : (Q : Int) < 18446744073709551616 := by omega
        have I3 : (P1 : Int) < 18446744073709551616 := by omega
        have I4 : (T0 : Int) < 18446744073709551616 := by omega
        have I5 : (M1 : Int) < 18446744073709551616 := by omega
        have I6 : (T1 : Int) < 18446744073709551616 := by omega
        have I7 : (lo0 : Int) < 4294967296 := by omega
        have I8 : (lo1 : Int) < 4294967296 := by omega
        have I9 : (g : Int) < 4294967296 := by omega
        have gw32 : IntKind.u32.wrap (g : Int) = (g : Int) := by rw [wrap32_mod, Nat.mod_eq_of_lt gb]
        go_wp2_with fail
        go_loopw [22, 23, 24] (fun cv dv iv wx => (cv = .int .u64 0 ∧ dv = .int .u64 0 ∧ iv = .int .i64 0 ∧ wx = W) ∨ (cv = .int .u64 (c1 : Int) ∧ dv = .int .u64 (d0 : Int) ∧ iv = .int .i64 1 ∧ wx = (W.setCell ⟨gu, j, none⟩ (.int .u32 (x0 : Int)))) ∨ (cv = .int .u64 (c2 : Int) ∧ dv = .int .u64 (d1 : Int) ∧ iv = .int .i64 2 ∧ wx = ((W.setCell ⟨gu, j, none⟩ (.int .u32 (x0 : Int))).setCell ⟨gu, j + 1, none⟩ (.int .u32 (x1 : Int))))) (fun _ _ iv _ => 2 - (RowKit.intOf iv).toNat)
        case atStart => exact Or.inl ⟨rfl, rfl, rfl, by first | rfl | trivial⟩
        case round =>
          rcases hrel with ⟨rfl, rfl, rfl, h⟩ | ⟨rfl, rfl, rfl, h⟩ | ⟨rfl, rfl, rfl, h⟩
          · rw [h]
            clear h
            go_wp2_with fail
            go_roundw
            case rel => exact Or.inr (Or.inl ⟨by first | rfl | go_num, by first | rfl | go_num, by first | rfl | go_num, by first | rfl | trivial⟩)
            case measure => simp [RowKit.intOf]
          · rw [h]
            clear h
            go_wp2_with fail
            go_roundw
            case rel => exact Or.inr (Or.inr ⟨by first | rfl | go_num, by first | rfl | go_num, by first | rfl | go_num, by first | rfl | trivial⟩)
            case measure => simp [RowKit.intOf]
          · rw [h]
            clear h f1 f2 f3 f4 f5 f6 f7 f8 f9 f10 f11 f12 b1 b2 b3 b4 b5 b6 b7 m1 m2 m3 m4 m5 m6 m7 I1 I2 I3 I4 I5 I6 I7 I8 i1 i2 i3 kk1 fz0 fz1 e0 e1 k0n
            have J1 : (c2 : Int) = (a2 : Int) - (d1 : Int) := by omega
            have J2 : (a2 : Int) < 4294967296 := by omega
            have J3 : (d1 : Int) ≤ 1 := by omega
            have J4 : IntKind.u64.wrap ((a2 : Int) - (c2 : Int)) = (d1 : Int) := by rw [l1, IntKind.wrap_u64]; omega
            clear J1 l1
            go_upto_region 49 with fail
            clear J4 J2 J3 kk2 fz2 gb I9
            go_wp2_with fail
            go_roundw
            case rel => exact ⟨j, _, _, by omega, by first | rfl | go_num, HN1, HN2⟩
            case measure => simp [RowKit.intOf]
end Go.Proofs.YtiolkeipgpkbmaaGreatDoor

namespace Go.Proofs.YtiolkeipgpkbmaaGreatDoor
set_option linter.unusedVariables false
set_option linter.unusedSimpArgs false
open Go.RowKit Big

set_option maxHeartbeats 4000000 in
theorem Sub_any (pz px py : Nat) (nz nx ny : Bool) (vz vx vy : Value) (lx ly : List Nat) (w : World) (hz : w.heap[pz]? = some (.cells #[.bool nz, vz] 83 (0, 0))) (hzi : ∀ k n, vz ≠ .int k n)
    (hx : IsBig w px nx vx lx) (hy : IsBig w py ny vy ly) (h1 : lx.length < 35184372088832) (h2 : ly.length < 35184372088832) :
    Calls Tryz.prog 43 #[.pointer (some ⟨pz, 0, none⟩), .pointer (some ⟨px, 0, none⟩), .pointer (some ⟨py, 0, none⟩)] w fun e w' => e = .returned (.pointer (some ⟨pz, 0, none⟩)) ∧ Hid (BigIs w' pz (sg nx (val lx) - sg ny (val ly)) ∧ w.grownBy w' (some pz)) := by
  have cx0 := blk_cell0 hx.blk
  have cx1 := blk_cell1 hx.blk
  have cy0 := blk_cell0 hy.blk
  have cy1 := blk_cell1 hy.blk
  have sumC : Hid (∀ W, w.grownBy W none → Calls Tryz.prog 83 #[.bool nx, vx, .bool (!ny), vy] W fun e w' => ∃ neg v l, e = .returned (.tuple #[.bool neg, v]) ∧ Mid w w' neg v l (sg nx (val lx) - sg ny (val ly))) := fun W hW => by
    have := sum_mid nx (!ny) vx vy lx ly w W hW hx.wd hy.wd hx.nrm hy.nrm h1 h2
    rw [show sg nx (val lx) + sg (!ny) (val ly) = sg nx (val lx) - sg ny (val ly) by unfold sg; cases ny <;> simp <;> omega] at this
    exact this
  have giveC : Hid (∀ neg v l w1 x, Mid w w1 neg v l x → Calls Tryz.prog 79 #[.pointer (some ⟨pz, 0, none⟩), .bool neg, v] w1 fun e w' => e = .returned (.pointer (some ⟨pz, 0, none⟩)) ∧ Hid (BigIs w' pz x ∧ w.grownBy w' (some pz))) := fun neg v l w1 x h => give_mid pz neg nz vz v l x w w1 hz hzi h
  clear hz hzi hx hy h1 h2
  generalize sg nx (val lx) - sg ny (val ly) = X at *
  go_enter Tryz.func43, Tryz.ntmps43
  go_wp2
  refine wp_region_any (by kernel_rfl) ?_
  refine wpAny_take (i := 0) (v := .pointer (some ⟨pz, 0, none⟩)) rfl (by kernel_rfl) (by kernel_rfl) (by kernel_rfl) (fun _ _ _ h => h) (Or.inl ⟨by rfl, fun w => by go_simp⟩) ?_
  simp only [Act.put, List.setIfInBounds_toArray, List.set_cons_zero, List.set_cons_succ]
  refine wpAny_take (i := 1) (v := .pointer (some ⟨px, 0, none⟩)) rfl (by kernel_rfl) (by kernel_rfl) (by kernel_rfl) (fun _ _ _ h => h) (Or.inl ⟨by rfl, fun w => by go_simp⟩) ?_
  simp only [Act.put, List.setIfInBounds_toArray, List.set_cons_zero, List.set_cons_succ]
  refine wpAny_take (i := 2) (v := .pointer (some ⟨px, 0, none⟩)) rfl (by kernel_rfl) (by kernel_rfl) (by kernel_rfl) (fun _ _ _ h => h) (Or.inl ⟨by rfl, fun w => by go_simp⟩) ?_
  simp only [Act.put, List.setIfInBounds_toArray, List.set_cons_zero, List.set_cons_succ]
  refine wpAny_take (i := 3) (v := .pointer (some ⟨px, 0, none⟩)) rfl (by kernel_rfl) (by kernel_rfl) (by kernel_rfl) (fun _ _ _ h => h) (Or.inl ⟨by rfl, fun w => by go_simp⟩) ?_
  simp only [Act.put, List.setIfInBounds_toArray, List.set_cons_zero, List.set_cons_succ]
  refine wpAny_take (i := 5) (v := .pointer (some ⟨px, 0, none⟩)) rfl (by kernel_rfl) (by kernel_rfl) (by kernel_rfl) (fun _ _ _ h => h) (Or.inl ⟨by rfl, fun w => by go_simp⟩) ?_
  simp only [Act.put, List.setIfInBounds_toArray, List.set_cons_zero, List.set_cons_succ]
  refine wpAny_take (i := 6) (v := .pointer (some ⟨px, 0, none⟩)) rfl (by kernel_rfl) (by kernel_rfl) (by kernel_rfl) (fun _ _ _ h => h) (Or.inl ⟨by rfl, fun w => by go_simp⟩) ?_
  simp only [Act.put, List.setIfInBounds_toArray, List.set_cons_zero, List.set_cons_succ]
  refine wpAny_take (i := 7) (v := .pointer (some ⟨px, 1, none⟩)) rfl (by kernel_rfl) (by kernel_rfl) (by kernel_rfl) (fun _ _ _ h => h) (Or.inl ⟨by rfl, fun w => by go_simp⟩) ?_
  simp only [Act.put, List.setIfInBounds_toArray, List.set_cons_zero, List.set_cons_succ]
  refine wpAny_take (i := 9) (v := .pointer (some ⟨py, 0, none⟩)) rfl (by kernel_rfl) (by kernel_rfl) (by kernel_rfl) (fun _ _ _ h => h) (Or.inl ⟨by rfl, fun w => by go_simp⟩) ?_
  simp only [Act.put, List.setIfInBounds_toArray, List.set_cons_zero, List.set_cons_succ]
  refine wpAny_take (i := 10) (v := .pointer (some ⟨py, 0, none⟩)) rfl (by kernel_rfl) (by kernel_rfl) (by kernel_rfl) (fun _ _ _ h => h) (Or.inl ⟨by rfl, fun w => by go_simp⟩) ?_
  simp only [Act.put, List.setIfInBounds_toArray, List.set_cons_zero, List.set_cons_succ]
  refine wpAny_take (i := 11) (v := .pointer (some ⟨py, 0, none⟩)) rfl (by kernel_rfl) (by kernel_rfl) (by kernel_rfl) (fun _ _ _ h => h) (Or.inl ⟨by rfl, fun w => by go_simp⟩) ?_
  simp only [Act.put, List.setIfInBounds_toArray, List.set_cons_zero, List.set_cons_succ]
  refine wpAny_take (i := 14) (v := .pointer (some ⟨py, 0, none⟩)) rfl (by kernel_rfl) (by kernel_rfl) (by kernel_rfl) (fun _ _ _ h => h) (Or.inl ⟨by rfl, fun w => by go_simp⟩) ?_
  simp only [Act.put, List.setIfInBounds_toArray, List.set_cons_zero, List.set_cons_succ]
  refine wpAny_take (i := 15) (v := .pointer (some ⟨py, 0, none⟩)) rfl (by kernel_rfl) (by kernel_rfl) (by kernel_rfl) (fun _ _ _ h => h) (Or.inl ⟨by rfl, fun w => by go_simp⟩) ?_
  simp only [Act.put, List.setIfInBounds_toArray, List.set_cons_zero, List.set_cons_succ]
  refine wpAny_take (i := 16) (v := .pointer (some ⟨py, 1, none⟩)) rfl (by kernel_rfl) (by kernel_rfl) (by kernel_rfl) (fun _ _ _ h => h) (Or.inl ⟨by rfl, fun w => by go_simp⟩) ?_
  simp only [Act.put, List.setIfInBounds_toArray, List.set_cons_zero, List.set_cons_succ]
  refine any_of_L (g := 18) (T := fun w' => w' = w.drew) _ _ _ _ ?_
  refine L_take (i := 4) (v := .bool nx) rfl rfl (by kernel_rfl) (by decide) (by kernel_rfl) (by kernel_rfl) (by kernel_rfl) (by kernel_rfl) (fun _ _ _ h => h) (Or.inl ⟨by rfl, fun w' hw' => by subst hw'; go_simp⟩) rfl ?_
  simp only [Act.put, List.setIfInBounds_toArray, List.set_cons_zero, List.set_cons_succ]
  refine L_take (i := 8) (v := vx) rfl rfl (by kernel_rfl) (by decide) (by kernel_rfl) (by kernel_rfl) (by kernel_rfl) (by kernel_rfl) (fun _ _ _ h => h) (Or.inl ⟨by rfl, fun w' hw' => by subst hw'; go_simp⟩) rfl ?_
  simp only [Act.put, List.setIfInBounds_toArray, List.set_cons_zero, List.set_cons_succ]
  refine L_take (i := 17) (v := vy) rfl rfl (by kernel_rfl) (by decide) (by kernel_rfl) (by kernel_rfl) (by kernel_rfl) (by kernel_rfl) (fun _ _ _ h => h) (Or.inl ⟨by rfl, fun w' hw' => by subst hw'; go_simp⟩) rfl ?_
  simp only [Act.put, List.setIfInBounds_toArray, List.set_cons_zero, List.set_cons_succ]
  refine L_take1 (i := 12) (v := .bool ny) rfl (by kernel_rfl) (Or.inl ⟨by rfl, fun w' hw' => by subst hw'; go_simp⟩) rfl ?_
  simp only [Act.put, List.setIfInBounds_toArray, List.set_cons_zero, List.set_cons_succ]
  refine L_take1 (i := 13) (v := .bool (!ny)) rfl (by kernel_rfl) (Or.inl ⟨by rfl, fun w' hw' => by subst hw'; go_simp⟩) rfl ?_
  simp only [Act.put, List.setIfInBounds_toArray, List.set_cons_zero, List.set_cons_succ]
  refine L_go (by kernel_rfl) (by kernel_rfl) ?_
  refine wpOp_step rfl (fun K hK => ?_)
  rw [if_pos (by rfl)]
  go_wp2_with fail
  refine (sumC.out _ (gdr w)).mono ?_
  rintro e w1 ⟨neg, v, l, rfl, hm⟩
  refine hK _ _ ?_
  clear hK K
  have Hm : Hid (Mid w w1 neg v l X) := hm
  clear hm
  refine wpAny_take (i := 19) (v := .bool neg) rfl (by kernel_rfl) (by kernel_rfl) (by kernel_rfl) (fun _ _ _ h => h) (Or.inl ⟨by rfl, fun w => by go_simp⟩) ?_
  simp only [Act.put, List.setIfInBounds_toArray, List.set_cons_zero, List.set_cons_succ]
  refine wpAny_take (i := 20) (v := v) rfl (by kernel_rfl) (by kernel_rfl) (by kernel_rfl) (fun _ _ _ h => h) (Or.inl ⟨by rfl, fun w => by go_simp⟩) ?_
  simp only [Act.put, List.setIfInBounds_toArray, List.set_cons_zero, List.set_cons_succ]
  refine any_one (i := 21) (by kernel_rfl) ?_
  refine wpOp_step rfl (fun K hK => ?_)
  rw [if_pos (by rfl)]
  go_wp2_with fail
  refine (giveC.out neg v l w1 X Hm.out).mono ?_
  rintro e w2 ⟨rfl, hR⟩
  refine hK _ _ ?_
  clear hK K Hm
  refine any_one (i := 22) (by kernel_rfl) ?_
  refine wpOp_step rfl (fun K hK => ?_)
  rw [if_pos (by rfl)]
  have hK' : Shut (∀ a w, wpAny _ _ _ _ _ _ a w → K a w) := hK
  clear hK
  go_wp2
  refine hK'.out _ _ ?_
  clear hK' K
  refine wpAny_done (by kernel_rfl) ?_ _
  go_wp2
  go_ret
  exact ⟨rfl, hR⟩
end Go.Proofs.YtiolkeipgpkbmaaGreatDoor
