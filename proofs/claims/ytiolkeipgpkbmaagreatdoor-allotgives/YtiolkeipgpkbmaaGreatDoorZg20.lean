/-
  Two entries make one. It names no call.
-/
import Derived.Test.YtiolkeipgpkbmaaGreatDoorZg19
import Derived.Test.YtiolkeipgpkbmaaGreatDoorZg16
namespace Go.Proofs.YtiolkeipgpkbmaaGreatDoor
set_option linter.unusedVariables false
set_option linter.unusedSimpArgs false
set_option maxRecDepth 100000
open Go.RowKit Go.Lib

/-- An entry in a box. -/
def Box4 (W : World) (b : Nat) (r : ByteArray) (en pe : Int) (v : Value) : Prop := W.heap[b]? = some (.cells #[.string r, .int .i64 en, .int .i64 pe, v] 59 (0, 0))
theorem Box4.c0 {W : World} {b : Nat} {r : ByteArray} {en pe : Int} {v : Value} (h : Box4 W b r en pe v) : W.cell? ⟨b, 0, none⟩ = some (.string r) := by unfold Box4 at h; simp [World.cell?, h]
theorem Box4.c1 {W : World} {b : Nat} {r : ByteArray} {en pe : Int} {v : Value} (h : Box4 W b r en pe v) : W.cell? ⟨b, 1, none⟩ = some (.int .i64 en) := by unfold Box4 at h; simp [World.cell?, h]
theorem Box4.c2 {W : World} {b : Nat} {r : ByteArray} {en pe : Int} {v : Value} (h : Box4 W b r en pe v) : W.cell? ⟨b, 2, none⟩ = some (.int .i64 pe) := by unfold Box4 at h; simp [World.cell?, h]
theorem Box4.c3 {W : World} {b : Nat} {r : ByteArray} {en pe : Int} {v : Value} (h : Box4 W b r en pe v) : W.cell? ⟨b, 3, none⟩ = some v := by unfold Box4 at h; simp [World.cell?, h]
theorem Box4.fz {W : World} {b : Nat} {r : ByteArray} {en pe : Int} {v : Value} (h : Box4 W b r en pe v) (o : Nat) : W.frozen? ⟨b, o, none⟩ = false := by unfold Box4 at h; simp [World.frozen?, h]
theorem Box4.below {W W' : World} {b n : Nat} {r : ByteArray} {en pe : Int} {v : Value} (h : Box4 W b r en pe v) (hb : Below n W W') (hn : b < n) : Box4 W' b r en pe v := (hb.block b hn).trans h
theorem Box4.new (W : World) (r : ByteArray) (en pe : Int) (v : Value) : Box4 (W.alloc (.cells #[.string r, .int .i64 en, .int .i64 pe, v] 59)) W.heap.size r en pe v := World.alloc_heap_new W _
theorem Box4.alloc {W : World} {b : Nat} {r : ByteArray} {en pe : Int} {v : Value} (h : Box4 W b r en pe v) (o : Obj) : Box4 (W.alloc o) b r en pe v := ((World.grownBy_alloc W o none).block b (Array.getElem?_eq_some_iff.1 h).1 (by simp)).trans h
theorem Box4.set0 {W : World} {b : Nat} {r : ByteArray} {en pe : Int} {v : Value} (h : Box4 W b r en pe v) (r' : ByteArray) : Box4 (W.setCell ⟨b, 0, none⟩ (.string r')) b r' en pe v := by
  unfold Box4 at *
  rw [setCell_eq_setRow W b 0 _ 59 (0, 0) _ h, setRow_heap W b _ _ 59 (0, 0) h]
  rfl
theorem Box4.other {W : World} {b b' o : Nat} {r : ByteArray} {en pe : Int} {v u : Value} (h : Box4 W b r en pe v) (hne : b ≠ b') : Box4 (W.setCell ⟨b', o, none⟩ u) b r en pe v :=
  (Below.heap_setCell _ _ _ b (fun e => hne e)).trans h
theorem LnRow.setOther {W : World} {n b o : Nat} {v u : Value} {l : List Ln} (h : LnRow W n v l) (hb : b < n) : LnRow (W.setCell ⟨b, o, none⟩ u) n v l := by
  rcases h.2 with ⟨hv, hn⟩ | ⟨g1, c1, cur, hv, hb1, hh, r⟩
  · exact ⟨h.1, .inl ⟨hv, hn⟩⟩
  · exact ⟨h.1, .inr ⟨g1, c1, cur, hv, hb1, (Below.heap_setCell _ _ _ g1 (fun e => by simp only at e; omega)).trans hh, r⟩⟩


/-- A line of nothing. -/
def nullL (x : Ln) : Bool := decide (x.amt = 0)

/-- What is wrong with turning an entry round. -/
def revBad (ref : ByteArray) (l : List Ln) : Int := if isRefB ref = false then 2 else fewBad l
end Go.Proofs.YtiolkeipgpkbmaaGreatDoor

namespace Go.Proofs.YtiolkeipgpkbmaaGreatDoor
set_option linter.unusedVariables false
set_option linter.unusedSimpArgs false
set_option maxRecDepth 100000
open Go.RowKit Go.Lib

theorem enE_chE (n : Int) : enE n = chE n := rfl

/-- What is wrong with an entry, whatever its lines have. -/
def headBad (r : ByteArray) (en pe : Int) (n : Nat) : Int :=
  if isRefB r = false then 2 else if upTo en 12 = false ∨ upTo pe 120 = false then 1 else if n < 2 then 3 else if 20 < n then 4 else 0

/-- What is wrong with a line by itself. -/
def lnBad (c : List Ac) (x : Ln) : Int :=
  if idxP (hasCode x.acc) c < 0 then 6 else if memB x.acc (lvs c) = false then 12 else if isCur x.cur = false then 2 else if x.amt = 0 ∨ isAmtB x.amt = false then 1 else 0
theorem lnBad_leaf (c : List Ac) (x : Ln) : lnBad c x = if leafBad c x.acc ≠ 0 then leafBad c x.acc else if isCur x.cur = false then 2 else if x.amt = 0 ∨ isAmtB x.amt = false then 1 else 0 := by
  unfold lnBad leafBad
  by_cases h1 : idxP (hasCode x.acc) c < 0
  · simp only [if_pos h1]; rfl
  · simp only [if_neg h1]
    cases h2 : memB x.acc (lvs c)
    · rfl
    · rfl

end Go.Proofs.YtiolkeipgpkbmaaGreatDoor

namespace Go.Proofs.YtiolkeipgpkbmaaGreatDoor
set_option linter.unusedVariables false
set_option linter.unusedSimpArgs false
set_option maxRecDepth 100000
open Go.RowKit Go.Lib

/-- A line of something. -/
def someL (x : Ln) : Bool := !nullL x
/-- What is wrong with lines, one by one. -/
def linesBad (c : List Ac) : List Ln → Int
  | [] => 0
  | x :: r => if lnBad c x ≠ 0 then lnBad c x else linesBad c r
/-- What is wrong with an entry. -/
def entBad (c : List Ac) (r : ByteArray) (en pe : Int) (l : List Ln) : Int :=
  if chBad c ≠ 0 then chBad c else if headBad r en pe l.length ≠ 0 then headBad r en pe l.length else if linesBad c l ≠ 0 then linesBad c l else if (curSums l).any someL = true then 11 else 0

theorem linesBad_zero {c : List Ac} : ∀ {l : List Ln}, linesBad c l = 0 → ∀ x ∈ l, lnBad c x = 0
  | [], _, x, hx => by simp at hx
  | y :: l, h, x, hx => by
    rw [linesBad] at h
    split at h
    · rename_i hy; exact absurd h hy
    · rename_i hy
      rcases List.mem_cons.1 hx with rfl | hx
      · exact Classical.not_not.1 hy
      · exact linesBad_zero h x hx
theorem linesBad_of {c : List Ac} : ∀ {l : List Ln}, (∀ x ∈ l, lnBad c x = 0) → linesBad c l = 0
  | [], _ => rfl
  | y :: l, h => by
    rw [linesBad, if_neg (by rw [h y (by simp)]; simp)]
    exact linesBad_of (fun x hx => h x (by simp [hx]))
theorem lnBad_amt {c : List Ac} {x : Ln} (h : lnBad c x = 0) : -mostA ≤ x.amt ∧ x.amt ≤ mostA := by
  unfold lnBad at h
  split at h
  · omega
  · split at h
    · omega
    · split at h
      · omega
      · split at h
        · omega
        · rename_i hh
          simp only [not_or] at hh
          exact isAmtB_iff.1 (by simpa using hh.2)
theorem headBad_len {r : ByteArray} {en pe : Int} {n : Nat} (h : headBad r en pe n = 0) : 2 ≤ n ∧ n ≤ 20 := by
  unfold headBad at h
  split at h
  · omega
  · split at h
    · omega
    · split at h
      · omega
      · split at h
        · omega
        · omega

end Go.Proofs.YtiolkeipgpkbmaaGreatDoor

namespace Go.Proofs.YtiolkeipgpkbmaaGreatDoor
set_option linter.unusedVariables false
set_option linter.unusedSimpArgs false
open Go.RowKit Go.Lib

/-- The sum of those amounts that are asked for. -/
def tot (p : Ln → Bool) : List Ln → Int
  | [] => 0
  | x :: l => (if p x = true then x.amt else 0) + tot p l
/-- Only account and currency are asked. -/
def KeyP (p : Ln → Bool) : Prop := ∀ x y, lnEq x y = true → p x = p y

theorem lnEq_refl (x : Ln) : lnEq x x = true := lnEq_iff.2 ⟨rfl, rfl⟩
theorem lnEq_symm {x y : Ln} (h : lnEq x y = true) : lnEq y x = true := by
  obtain ⟨h1, h2⟩ := lnEq_iff.1 h
  exact lnEq_iff.2 ⟨h1.symm, h2.symm⟩
theorem keyP_eq (x : Ln) : KeyP (lnEq x) := fun a b h => by
  obtain ⟨h1, h2⟩ := lnEq_iff.1 h
  unfold lnEq
  rw [h1, h2]

theorem tot_append (p : Ln → Bool) : ∀ l m : List Ln, tot p (l ++ m) = tot p l + tot p m
  | [], m => by simp [tot]
  | x :: l, m => by
    rw [List.cons_append, tot, tot, tot_append p l m]
    omega
theorem tot_ins {p : Ln → Bool} (hp : KeyP p) (x : Ln) : ∀ l : List Ln, tot p (insL x l) = tot p l + (if p x = true then x.amt else 0)
  | [] => by simp [insL, tot]
  | y :: l => by
    rw [insL]
    split
    · rw [tot, tot, tot_ins hp x l]; omega
    · split
      · rename_i h1 h2
        rw [tot, tot]
        have e1 : p ⟨y.acc, y.cur, y.amt + x.amt⟩ = p y := hp _ _ (lnEq_iff.2 ⟨rfl, rfl⟩)
        have e2 : p x = p y := (hp _ _ h2).symm
        rw [e1, e2]
        split
        · simp only; omega
        · omega
      · rw [tot, tot]; omega
theorem tot_grp_from {p : Ln → Bool} (hp : KeyP p) : ∀ l r : List Ln, tot p (l.foldl (fun r x => insL x r) r) = tot p r + tot p l
  | [], r => by simp [tot]
  | x :: l, r => by
    rw [List.foldl_cons, tot_grp_from hp l, tot_ins hp, tot]
    omega
theorem tot_grp {p : Ln → Bool} (hp : KeyP p) (l : List Ln) : tot p (grp l) = tot p l := by
  have := tot_grp_from hp l []
  simpa [grp, tot] using this
theorem tot_turn {p : Ln → Bool} (hp : KeyP p) : ∀ l : List Ln, tot p (l.map turnL) = -tot p l
  | [] => rfl
  | x :: l => by
    rw [List.map_cons, tot, tot, tot_turn hp l]
    have e : p (turnL x) = p x := hp _ _ (lnEq_iff.2 ⟨rfl, rfl⟩)
    rw [e]
    simp only [turnL]
    split <;> omega
theorem tot_none {p : Ln → Bool} : ∀ {l : List Ln}, (∀ x ∈ l, p x = false) → tot p l = 0
  | [], _ => rfl
  | x :: l, h => by
    rw [tot, tot_none (fun y hy => h y (by simp [hy])), h x (by simp)]
    rfl
theorem tot_null (p : Ln → Bool) : ∀ {l : List Ln}, (∀ x ∈ l, x.amt = 0) → tot p l = 0
  | [], _ => rfl
  | x :: l, h => by
    rw [tot, tot_null p (fun y hy => h y (by simp [hy])), h x (by simp)]
    simp
theorem tot_sort : ∀ {l : List Ln}, SortL l → ∀ y ∈ l, tot (lnEq y) l = y.amt
  | [], _, y, hy => by simp at hy
  | z :: l, h, y, hy => by
    have h1 : ∀ x ∈ l, lnLt z x = true := (List.pairwise_cons.1 h).1
    have h2 : SortL l := (List.pairwise_cons.1 h).2
    rw [tot]
    rcases List.mem_cons.1 hy with rfl | hy
    · rw [if_pos (lnEq_refl _), tot_none (fun x hx => ?_)]
      · omega
      · cases hh : lnEq y x
        · rfl
        · have := h1 x hx
          rw [lnLt_eq hh] at this
          cases this
    · have : lnEq y z = false := by
        cases hh : lnEq y z
        · rfl
        · have := h1 y hy
          rw [lnLt_eq (lnEq_symm hh)] at this
          cases this
      rw [this, tot_sort h2 y hy]
      simp
/-- What is alike together is nothing if, and only if, each sum is. -/
theorem grp_null {l : List Ln} : (∀ y ∈ grp l, y.amt = 0) ↔ ∀ p, KeyP p → tot p l = 0 := by
  constructor
  · intro h p hp
    rw [← tot_grp hp l]
    exact tot_null p h
  · intro h y hy
    rw [← tot_sort (grp_sort l) y hy, tot_grp (keyP_eq y)]
    exact h _ (keyP_eq y)
/-- Each currency's sum is nothing. -/
def evenL (l : List Ln) : Prop := ∀ p, KeyP p → tot p (l.map bareL) = 0
theorem even_iff {l : List Ln} : ((curSums l).any fun x => !nullL x) = false ↔ evenL l := by
  unfold evenL
  rw [← grp_null, List.any_eq_false]
  unfold curSums
  constructor
  · intro h y hy
    have := h y hy
    simpa [nullL] using this
  · intro h y hy
    have := h y hy
    simp [nullL, this]
theorem even_append {l m : List Ln} (h1 : evenL l) (h2 : evenL m) : evenL (l ++ m) := fun p hp => by
  rw [List.map_append, tot_append, h1 p hp, h2 p hp]
  rfl
theorem bare_turn (l : List Ln) : (l.map turnL).map bareL = (l.map bareL).map turnL := by
  rw [List.map_map, List.map_map]
  rfl
theorem even_turn {l : List Ln} (h : evenL l) : evenL (l.map turnL) := fun p hp => by
  rw [bare_turn, tot_turn hp, h p hp]
  rfl
end Go.Proofs.YtiolkeipgpkbmaaGreatDoor

namespace Go.Proofs.YtiolkeipgpkbmaaGreatDoor
set_option linter.unusedVariables false
set_option linter.unusedSimpArgs false
open Go.RowKit Go.Lib

theorem entBad_zero {c : List Ac} {r : ByteArray} {en pe : Int} {l : List Ln} : entBad c r en pe l = 0 ↔ chBad c = 0 ∧ headBad r en pe l.length = 0 ∧ linesBad c l = 0 ∧ evenL l := by
  rw [← even_iff]
  unfold entBad
  constructor
  · intro h
    split at h
    · rename_i h1; exact absurd h h1
    · rename_i h1
      split at h
      · rename_i h2; exact absurd h h2
      · rename_i h2
        split at h
        · rename_i h3; exact absurd h h3
        · rename_i h3
          split at h
          · omega
          · rename_i h4
            exact ⟨Classical.not_not.1 h1, Classical.not_not.1 h2, Classical.not_not.1 h3, by simpa [someL] using h4⟩
  · rintro ⟨h1, h2, h3, h4⟩
    rw [if_neg (by simp [h1]), if_neg (by simp [h2]), if_neg (by simp [h3]), if_neg]
    show ¬ ((curSums l).any fun x => !nullL x) = true
    rw [h4]
    simp
theorem entBad_few {c : List Ac} {r : ByteArray} {en pe : Int} {l : List Ln} (h : entBad c r en pe l = 0) : fewBad l = 0 := by
  obtain ⟨_, h2, h3, _⟩ := entBad_zero.1 h
  exact fewBad_of (headBad_len h2).2 (fun x hx => lnBad_amt (linesBad_zero h3 x hx))
theorem headBad_more {r : ByteArray} {en pe : Int} {n m : Nat} (h : headBad r en pe n = 0) (h1 : n ≤ m) (h2 : m ≤ 20) : headBad r en pe m = 0 := by
  have := headBad_len h
  unfold headBad at *
  split at h
  · omega
  · split at h
    · omega
    · rename_i a b
      rw [if_neg a, if_neg b, if_neg (by omega), if_neg (by omega)]
theorem ent_join {c : List Ac} {r r' : ByteArray} {en pe en' pe' : Int} {l m : List Ln} (h1 : entBad c r en pe l = 0) (h2 : entBad c r' en' pe' m = 0) (hl : l.length + m.length ≤ 20) : entBad c r en pe (l ++ m) = 0 := by
  obtain ⟨a1, a2, a3, a4⟩ := entBad_zero.1 h1
  obtain ⟨_, _, b3, b4⟩ := entBad_zero.1 h2
  refine entBad_zero.2 ⟨a1, headBad_more a2 (by simp) (by simpa using hl), linesBad_of (fun x hx => ?_), even_append a4 b4⟩
  rcases List.mem_append.1 hx with hx | hx
  · exact linesBad_zero a3 x hx
  · exact linesBad_zero b3 x hx
theorem fewBad_double {l : List Ln} (h : fewBad l = 0) (hl : 2 * l.length ≤ 20) : fewBad (l ++ l.map turnL) = 0 := by
  obtain ⟨_, h2⟩ := fewBad_zero h
  refine fewBad_of (by simp; omega) (fun x hx => ?_)
  rcases List.mem_append.1 hx with hx | hx
  · exact h2 x hx
  · obtain ⟨y, hy, rfl⟩ := List.mem_map.1 hx
    have := h2 y hy
    simp only [turnL]
    omega
end Go.Proofs.YtiolkeipgpkbmaaGreatDoor
