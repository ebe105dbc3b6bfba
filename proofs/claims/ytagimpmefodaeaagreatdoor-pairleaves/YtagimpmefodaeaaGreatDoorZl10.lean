/-
  What is true of a chart with which nothing is wrong: codes are apart, parents stand ahead, who is under whom. It names no call.
-/
import Derived.Test.YtagimpmefodaeaaGreatDoorZl9
import Derived.Deep.RegionLaw
import Derived.Test.YtagimpmefodaeaaGreatDoorZl0
namespace Go.Proofs.YtagimpmefodaeaaGreatDoor
set_option linter.unusedVariables false
set_option linter.unusedSimpArgs false
set_option maxRecDepth 100000
open Go.RowKit Go.Lib

theorem run_append_empty {P : Program} (w : World) (t ty e : TypeId) (size : Nat) (ht : P.underlying t = some (.slice e)) (hz : (Go.sizeOf e).run P w = .ok size w) (base a : Option Addr) (sLen sCap c : Nat) (hle : sLen ≤ sCap) :
    (Builtin.append_ #[t, t] ty #[.slice base sLen sCap, .slice a 0 c]).run P w = .ok (.slice base sLen sCap) w := by
  cases a <;> cases base <;> simp [Builtin.append_, run_underlying ht, hz, Builtin.lenOf, Builtin.firstCells, loadCells, loadCellsFrom, storeCells, hle]

theorem insL_ne (x : Ln) : ∀ l : List Ln, insL x l ≠ []
  | [] => by simp [insL]
  | y :: l => by
    rw [insL]
    split
    · simp
    · split <;> simp
theorem LnsAt.take {W : World} {b off : Nat} {l : List Ln} (h : LnsAt W b off l) (p : Nat) : LnsAt W b off (l.take p) := fun k hk => by
  rw [List.length_take] at hk
  have : (l.take p).getD k ln0 = l.getD k ln0 := by
    rw [List.getD_eq_getElem?_getD, List.getD_eq_getElem?_getD, List.getElem?_take, if_pos (by omega)]
  rw [this]
  exact h k (by omega)
theorem LnsAt.drop {W : World} {b off : Nat} {l : List Ln} (h : LnsAt W b off l) (p : Nat) : LnsAt W b (off + p * 3) (l.drop p) := fun k hk => by
  rw [List.length_drop] at hk
  have : (l.drop p).getD k ln0 = l.getD (p + k) ln0 := by
    rw [List.getD_eq_getElem?_getD, List.getD_eq_getElem?_getD, List.getElem?_drop]
  rw [this, show off + p * 3 + k * 3 = off + (p + k) * 3 by omega]
  exact h (p + k) (by omega)
theorem lns_cells {W : World} {b off : Nat} {l : List Ln} (h : LnsAt W b off l) : ∀ j u, (lnRow l)[j]? = some u → W.cell? ((⟨b, off, none⟩ : Addr).add j) = some u := by
  intro j u hj
  rw [Addr.add_lit]
  obtain ⟨q, r, hr, rfl⟩ : ∃ q r, r < 3 ∧ j = q * 3 + r := ⟨j / 3, j % 3, Nat.mod_lt _ (by omega), by omega⟩
  have hlt := (List.getElem?_eq_some_iff.1 hj).1
  rw [lnRow_length] at hlt
  have hq : q < l.length := by omega
  rw [lnRow_get l q r hq hr] at hj
  have := h q hq
  rcases (by omega : r = 0 ∨ r = 1 ∨ r = 2) with rfl | rfl | rfl
  · rw [← hj, Nat.add_zero, this.c0]; rfl
  · rw [← hj, ← Nat.add_assoc, this.c1]; rfl
  · rw [← hj, ← Nat.add_assoc, this.c2]; rfl

theorem LnAt.grown {W W' : World} {b off : Nat} {row : Option Nat} {x : Ln} (h : LnAt W b off x) (hg : W.grownBy W' row) (hr : row ≠ some b) : LnAt W' b off x := by
  have hlt : b < W.heap.size := World.block_lt_of_cell? _ _ h.c0
  have hb : W'.heap[b]? = W.heap[b]? := hg.block b hlt (fun e => hr e.symm)
  exact ⟨(World.cell?_of_block (a := ⟨b, off, none⟩) hb).trans h.c0, (World.cell?_of_block (a := ⟨b, off + 1, none⟩) hb).trans h.c1, (World.cell?_of_block (a := ⟨b, off + 2, none⟩) hb).trans h.c2⟩
theorem LnsAt.grown {W W' : World} {b off : Nat} {row : Option Nat} {l : List Ln} (h : LnsAt W b off l) (hg : W.grownBy W' row) (hr : row ≠ some b) : LnsAt W' b off l := fun k hk => (h k hk).grown hg hr
theorem LnRow.at {W : World} {n0 g cap : Nat} {l : List Ln} (h : LnRow W n0 (.slice (some ⟨g, 0, none⟩) l.length cap) l) : LnsAt W g 0 l ∧ l.length ≤ cap := by
  obtain ⟨a', cq', hv, hsl'⟩ := h.isLn
  cases hv
  refine ⟨?_, hsl'.cap⟩
  rcases hsl'.lies with h0 | ⟨b', off', e, _, hc'⟩
  · rw [h0]; exact fun k hk => absurd hk (by simp)
  · cases e; exact hc'

end Go.Proofs.YtagimpmefodaeaaGreatDoor

namespace Go.Proofs.YtagimpmefodaeaaGreatDoor
set_option linter.unusedVariables false
set_option linter.unusedSimpArgs false
set_option maxRecDepth 100000
open Go.RowKit Go.Lib

end Go.Proofs.YtagimpmefodaeaaGreatDoor

namespace Go.Proofs.YtagimpmefodaeaaGreatDoor
set_option linter.unusedVariables false
set_option linter.unusedSimpArgs false
open Go.RowKit Go.Lib

theorem less_self : ∀ a : List UInt8, Op.bytesLess a a = false
  | [] => rfl
  | x :: a => by
    have := less_self a
    simp [Op.bytesLess, this]

theorem less_total : ∀ a b : List UInt8, Op.bytesLess a b = false → a ≠ b → Op.bytesLess b a = true
  | [], [], _, h => absurd rfl h
  | [], _ :: _, h, _ => by simp [Op.bytesLess] at h
  | _ :: _, [], _, _ => by simp [Op.bytesLess]
  | x :: a, y :: b, h, hne => by
    simp only [Op.bytesLess, Bool.or_eq_false_iff, decide_eq_false_iff_not, Bool.and_eq_false_iff, beq_eq_false_iff_ne] at h
    obtain ⟨h1, h2⟩ := h
    by_cases e : x = y
    · subst e
      have := less_total a b (by simpa using h2) (fun e => hne (by rw [e]))
      simp [Op.bytesLess, this]
    · have : y < x := by
        rw [UInt8.lt_iff_toNat_lt] at h1 ⊢
        have : x.toNat ≠ y.toNat := fun h => e (UInt8.toNat_inj.1 h)
        omega
      simp [Op.bytesLess, this]

theorem less_trans : ∀ a b c : List UInt8, Op.bytesLess a b = true → Op.bytesLess b c = true → Op.bytesLess a c = true
  | _, [], _, h, _ => by cases ‹List UInt8› <;> simp [Op.bytesLess] at h
  | _, _ :: _, [], _, h => by simp [Op.bytesLess] at h
  | [], _ :: _, _ :: _, _, _ => by simp [Op.bytesLess]
  | x :: a, y :: b, z :: c, h1, h2 => by
    simp only [Op.bytesLess, Bool.or_eq_true, decide_eq_true_eq, Bool.and_eq_true, beq_iff_eq] at h1 h2 ⊢
    simp only [UInt8.lt_iff_toNat_lt] at h1 h2 ⊢
    rcases h1 with h1 | ⟨rfl, h1⟩
    · rcases h2 with h2 | ⟨rfl, h2⟩
      · exact .inl (by omega)
      · exact .inl h1
    · rcases h2 with h2 | ⟨rfl, h2⟩
      · exact .inl h2
      · exact .inr ⟨rfl, less_trans a b c h1 h2⟩

theorem nextBad_zero {pre : List Ac} {x : Ac} (h : nextBad pre x = 0) : isCodeB x.code = true ∧ isNameB x.name = true ∧ 1 ≤ x.kind ∧ x.kind ≤ 5 ∧ (pre.length ≠ 0 → leB x.code (pre.getD (pre.length - 1) ac0).code = false) ∧ parBad pre x = 0 := by
  unfold nextBad at h
  split at h
  · omega
  · rename_i h1
    simp only [not_or, Bool.not_eq_false] at h1
    split at h
    · omega
    · rename_i h2
      split at h
      · omega
      · rename_i h3
        refine ⟨h1.1, h1.2, by omega, by omega, fun h0 => ?_, h⟩
        cases hl : leB x.code (pre.getD (pre.length - 1) ac0).code
        · rfl
        · exact absurd ⟨h0, hl⟩ h3

theorem chGo_zero : ∀ (r pre : List Ac), chGo pre r = 0 → ∀ k, k < r.length → nextBad (pre ++ r.take k) (r.getD k ac0) = 0
  | [], _, _, k, hk => by simp at hk
  | x :: r, pre, h, k, hk => by
    rw [chGo] at h
    split at h
    · rename_i hb; exact absurd h hb
    · rename_i hb
      cases k with
      | zero => simpa using hb
      | succ k =>
        have := chGo_zero r (pre ++ [x]) h k (by simpa using hk)
        simpa using this

theorem chBad_next {l : List Ac} (h : chBad l = 0) (k : Nat) (hk : k < l.length) : nextBad (l.take k) (l.getD k ac0) = 0 := by
  have hl := chBad_len h
  unfold chBad at h
  rw [if_neg (by omega)] at h
  have := chGo_zero l [] h k hk
  simpa using this

theorem take_getD (l : List Ac) (k j : Nat) (h : j < k) : (l.take k).getD j ac0 = l.getD j ac0 := by
  rw [List.getD_eq_getElem?_getD, List.getD_eq_getElem?_getD, List.getElem?_take, if_pos h]

theorem code_step {l : List Ac} (h : chBad l = 0) (k : Nat) (hk : k + 1 < l.length) : Op.bytesLess (l.getD k ac0).code.toList (l.getD (k + 1) ac0).code.toList = true := by
  obtain ⟨_, _, _, _, h5, _⟩ := nextBad_zero (chBad_next h (k + 1) hk)
  have hl : (l.take (k + 1)).length = k + 1 := by simp; omega
  have := h5 (by omega)
  rw [hl, show k + 1 - 1 = k by omega, take_getD l (k + 1) k (by omega)] at this
  simp only [leB, Bool.or_eq_false_iff, beq_eq_false_iff_ne] at this
  exact less_total _ _ this.1 this.2

theorem code_less {l : List Ac} (h : chBad l = 0) (i : Nat) : ∀ j, i < j → j < l.length → Op.bytesLess (l.getD i ac0).code.toList (l.getD j ac0).code.toList = true
  | 0, hi, _ => absurd hi (Nat.not_lt_zero _)
  | j + 1, hi, hj => by
    have hs := code_step h j hj
    by_cases e : i = j
    · subst e; exact hs
    · exact less_trans _ _ _ (code_less h i j (by omega) (by omega)) hs

theorem code_inj {l : List Ac} (h : chBad l = 0) {i j : Nat} (hi : i < l.length) (hj : j < l.length) (e : (l.getD i ac0).code = (l.getD j ac0).code) : i = j := by
  rcases Nat.lt_trichotomy i j with hlt | he | hlt
  · have := code_less h i j hlt hj
    rw [e, less_self] at this
    cases this
  · exact he
  · have := code_less h j i hlt hi
    rw [e, less_self] at this
    cases this

theorem code_size {l : List Ac} (h : chBad l = 0) {i : Nat} (hi : i < l.length) : (l.getD i ac0).code.size ≠ 0 := by
  obtain ⟨h1, _⟩ := nextBad_zero (chBad_next h i hi)
  exact ((madeOf_iff (fun r => digR_low)).1 h1).1

theorem idx_code {l : List Ac} (h : chBad l = 0) {i : Nat} (hi : i < l.length) : idxP (hasCode (l.getD i ac0).code) l = (i : Int) := by
  by_cases hn : idxP (hasCode (l.getD i ac0).code) l < 0
  · have := idxP_none hn i hi
    simp [hasCode] at this
  · obtain ⟨j, hj, e, hp, _⟩ := idxP_some (p := hasCode (l.getD i ac0).code) (l := l) (by omega)
    have : (l.getD j ac0).code = (l.getD i ac0).code := by simpa only [hasCode, decide_eq_true_eq] using hp
    rw [e, code_inj h hj hi this]

theorem place_code {l : List Ac} (h : chBad l = 0) {i : Nat} (hi : i < l.length) : placeBad l (l.getD i ac0).code = 0 := by
  have := idx_code h hi
  unfold placeBad
  rw [if_neg (by omega), if_neg (by omega)]

/-- The place of an account's parent. -/
def parOf (l : List Ac) (k : Nat) : Option Nat := if (l.getD k ac0).par.size = 0 then none else some (idxP (hasCode (l.getD k ac0).par) l).toNat

theorem parOf_none {l : List Ac} {k : Nat} : parOf l k = none ↔ (l.getD k ac0).par.size = 0 := by
  unfold parOf
  split <;> simp_all

theorem parOf_some {l : List Ac} (h : chBad l = 0) {k j : Nat} (hk : k < l.length) (e : parOf l k = some j) : j < k ∧ (l.getD j ac0).code = (l.getD k ac0).par ∧ (l.getD j ac0).kind = (l.getD k ac0).kind := by
  unfold parOf at e
  split at e
  · cases e
  rename_i h0
  obtain ⟨_, _, _, _, _, hp⟩ := nextBad_zero (chBad_next h k hk)
  unfold parBad at hp
  rw [if_neg h0] at hp
  split at hp
  · omega
  rename_i h1
  obtain ⟨m, hm, em, hc, _⟩ := idxP_some (p := hasCode (l.getD k ac0).par) (l := l.take k) (by omega)
  have hmk : m < k := by simp only [List.length_take] at hm; omega
  rw [em] at hp
  simp only [Int.toNat_natCast] at hp
  have hp' : ((l.take k).getD m ac0).kind = (l.getD k ac0).kind := by
    split at hp
    · omega
    · rename_i h2
      exact Decidable.not_not.1 h2
  rw [take_getD l k m hmk] at hp' hc
  have hcode : (l.getD m ac0).code = (l.getD k ac0).par := by simpa only [hasCode, decide_eq_true_eq] using hc
  have hi := idx_code h (show m < l.length by omega)
  rw [hcode] at hi
  rw [hi] at e
  simp only [Int.toNat_natCast, Option.some.injEq] at e
  subst e
  exact ⟨hmk, hcode, hp'⟩

/-- Is a place under another one? By so many steps at most. -/
def inU (P : Nat → Option Nat) : Nat → Nat → Nat → Bool
  | 0, _, _ => false
  | f + 1, i, k => k == i || (match P k with | none => false | some j => inU P f i j)

theorem inU_fuel {P : Nat → Option Nat} {n : Nat} (hP : ∀ k j, k < n → P k = some j → j < k) : ∀ (f g k i : Nat), k < n → k < f → k < g → inU P f i k = inU P g i k
  | 0, _, k, i, _, h, _ => absurd h (Nat.not_lt_zero _)
  | _ + 1, 0, k, i, _, _, h => absurd h (Nat.not_lt_zero _)
  | f + 1, g + 1, k, i, hn, h1, h2 => by
    simp only [inU]
    cases hk : P k with
    | none => rfl
    | some j =>
      have := hP k j hn hk
      simp only
      rw [inU_fuel hP f g j i (by omega) (by omega) (by omega)]

end Go.Proofs.YtagimpmefodaeaaGreatDoor
