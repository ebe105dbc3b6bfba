/-
  Two entries make one. It names no call.
-/
import Derived.Test.YtchpobnfejfegaaDoorZu16
import Derived.WalkKit
import Derived.WalkSpells
import Derived.Lib.OthersKept
import Derived.Lib.TrimU
import Derived.Deep.LoopGhost
import Derived.Test.YtchpobnfejfegaaDoorZu21
import Derived.Test.YtchpobnfejfegaaDoorZu13
import Derived.Test.YtchpobnfejfegaaDoorZu19
namespace Go.Proofs.YtchpobnfejfegaaDoor
set_option linter.unusedVariables false
open Go.RowKit Go.Lib

/-- A sign that is no letter A to Z. -/
def other (r : Nat) : Bool := decide (r < 65) || decide (90 < r)

/-- Is there such a sign, from a place on, among at most so many? -/
def otherFrom (s : ByteArray) : Nat → Nat → Int
  | 0, _ => -1
  | f + 1, pos => if pos < s.size then (if other (Utf8.decode s pos).1 = true then (pos : Int) else otherFrom s f (pos + (Utf8.decode s pos).2)) else -1

theorem otherFrom_end (s : ByteArray) (f pos : Nat) (h : ¬ pos < s.size) : otherFrom s f pos = -1 := by cases f <;> simp [otherFrom, h]

theorem otherFrom_ge (s : ByteArray) : ∀ (f pos : Nat), -1 ≤ otherFrom s f pos
  | 0, _ => by simp [otherFrom]
  | f + 1, pos => by
    unfold otherFrom
    split
    · split
      · omega
      · exact otherFrom_ge s f _
    · omega

/-- Is a text a currency? -/
def isCur (s : ByteArray) : Bool := s.size == 3 && decide (otherFrom s s.size 0 < 0)

end Go.Proofs.YtchpobnfejfegaaDoor

namespace Go.Proofs.YtchpobnfejfegaaDoor
set_option linter.unusedVariables false
set_option linter.unusedSimpArgs false
set_option maxRecDepth 100000
open Go.RowKit Go.Lib

/-- A pool, with the places of its lists. -/
structure Po where
  acc : ByteArray
  cur : ByteArray
  tA : Option Addr
  tC : Nat
  tos : List ByteArray
  wA : Option Addr
  wC : Nat
  ws : List Int
def po0 : Po := ⟨ByteArray.empty, ByteArray.empty, none, 0, [], none, 0, []⟩
def Po.cells (p : Po) : Array Value := #[.string p.acc, .string p.cur, .slice p.tA p.tos.length p.tC, .slice p.wA p.ws.length p.wC]
/-- What a pool's lists are. -/
structure PoOk (w : World) (p : Po) : Prop where
  tx : IsTx w p.tA p.tos p.tC
  iw : IsW w p.wA p.ws p.wC
  lt : p.tos.length ≤ 9223372036854775807
  lw : p.ws.length ≤ 9223372036854775807
theorem PoOk.below {w w' : World} {p : Po} (h : PoOk w p) (hb : Below w.heap.size w w') : PoOk w' p := ⟨h.tx.below hb, h.iw.below hb, h.lt, h.lw⟩
structure PoAt (w : World) (b off : Nat) (p : Po) : Prop where
  c0 : w.cell? ⟨b, off, none⟩ = some (.string p.acc)
  c1 : w.cell? ⟨b, off + 1, none⟩ = some (.string p.cur)
  c2 : w.cell? ⟨b, off + 2, none⟩ = some (.slice p.tA p.tos.length p.tC)
  c3 : w.cell? ⟨b, off + 3, none⟩ = some (.slice p.wA p.ws.length p.wC)
theorem PoAt.below {w w' : World} {b off n : Nat} {p : Po} (h : PoAt w b off p) (hb : Below n w w') (hn : b < n) : PoAt w' b off p :=
  ⟨(hb.cell (p := ⟨b, off, none⟩) hn).trans h.c0, (hb.cell (p := ⟨b, off + 1, none⟩) hn).trans h.c1, (hb.cell (p := ⟨b, off + 2, none⟩) hn).trans h.c2, (hb.cell (p := ⟨b, off + 3, none⟩) hn).trans h.c3⟩
theorem PoAt.new (w : World) (p : Po) (t : TypeId) : PoAt (w.alloc (.cells p.cells t)) w.heap.size 0 p :=
  ⟨by simp [Po.cells], by simp [Po.cells], by simp [Po.cells], by simp [Po.cells]⟩
/-- A slice of pools. -/
structure IsPs (w : World) (a : Option Addr) (l : List Po) (cap : Nat) : Prop where
  cap : l.length ≤ cap
  lies : l = [] ∨ ∃ b off, a = some ⟨b, off, none⟩ ∧ b < w.heap.size ∧ ∀ k, k < l.length → PoAt w b (off + k * 4) (l.getD k po0)
  ok : ∀ p ∈ l, PoOk w p
theorem IsPs.below {w w' : World} {a : Option Addr} {l : List Po} {cap : Nat} (h : IsPs w a l cap) (hb : Below w.heap.size w w') : IsPs w' a l cap := by
  refine ⟨h.cap, ?_, fun p hp => (h.ok p hp).below hb⟩
  rcases h.lies with h | ⟨b, off, e, hlt, hc⟩
  · exact .inl h
  · exact .inr ⟨b, off, e, by have := hb.size; omega, fun k hk => (hc k hk).below hb hlt⟩
theorem IsPs.at {w : World} {a : Option Addr} {l : List Po} {cap : Nat} (h : IsPs w a l cap) {k : Nat} (hk : k < l.length) : ∃ b off, a = some ⟨b, off, none⟩ ∧ b < w.heap.size ∧ PoAt w b (off + k * 4) (l.getD k po0) ∧ PoOk w (l.getD k po0) := by
  rcases h.lies with rfl | ⟨b, off, e, hlt, hc⟩
  · simp at hk
  · refine ⟨b, off, e, hlt, hc k hk, h.ok _ ?_⟩
    rw [List.getD_eq_getElem?_getD, List.getElem?_eq_getElem hk]
    exact List.getElem_mem hk
theorem IsPs.take {w : World} {a : Option Addr} {l : List Po} {cap : Nat} (h : IsPs w a l cap) (k : Nat) : IsPs w a (l.take k) cap := by
  refine ⟨by have := h.cap; simp; omega, ?_, fun p hp => h.ok p (List.mem_of_mem_take hp)⟩
  rcases h.lies with h | ⟨b, off, e, hlt, hc⟩
  · exact .inl (by rw [h]; simp)
  · refine .inr ⟨b, off, e, hlt, fun j hj => ?_⟩
    simp only [List.length_take] at hj
    have : (l.take k).getD j po0 = l.getD j po0 := by
      rw [List.getD_eq_getElem?_getD, List.getD_eq_getElem?_getD, List.getElem?_take, if_pos (by omega)]
    rw [this]
    exact hc j (by omega)

/-- Texts that can be in memory. -/
structure PoTx (p : Po) : Prop where
  acc : p.acc.size ≤ maxLen
  cur : p.cur.size ≤ maxLen
  tos : ∀ t ∈ p.tos, t.size ≤ maxLen
/-- What is wrong with one of those to whom is given. -/
def toBad (c : List Ac) (acc : ByteArray) (l : List ByteArray) (k : Nat) : Int :=
  if leafBad c (l.getD k ByteArray.empty) ≠ 0 then leafBad c (l.getD k ByteArray.empty)
  else if l.getD k ByteArray.empty = acc ∨ memB (l.getD k ByteArray.empty) (l.take k) = true then 8 else 0
/-- What is wrong with a pool. -/
def poBad (c : List Ac) (p : Po) : Int :=
  if leafBad c p.acc ≠ 0 then leafBad c p.acc
  else if isCur p.cur = false then 2
  else if p.tos.length = 0 ∨ p.tos.length ≠ p.ws.length then 3
  else if 19 < p.tos.length then 4
  else if firstTo (toBad c p.acc p.tos) p.tos.length ≠ 0 then firstTo (toBad c p.acc p.tos) p.tos.length
  else shBad p.ws
/-- What is wrong with pools. -/
def psBad (c : List Ac) (l : List Po) : Int :=
  if chBad c ≠ 0 then chBad c else if 20 < l.length then 4 else firstTo (fun k => poBad c (l.getD k po0)) l.length

end Go.Proofs.YtchpobnfejfegaaDoor

namespace Go.Proofs.YtchpobnfejfegaaDoor
set_option linter.unusedVariables false
set_option linter.unusedSimpArgs false
set_option maxRecDepth 100000
open Go.RowKit Go.Lib

theorem enE_chE (n : Int) : enE n = chE n := rfl

/-- What is wrong with an entry, whatever its lines have. -/
def headBad (r : ByteArray) (en pe : Int) (n : Nat) : Int :=
  if isRefB r = false then 2 else if upTo en 12 = false ∨ upTo pe 120 = false then 1 else if n < 2 then 3 else if 20 < n then 4 else 0

/-- What is wrong with a line by itself. -/
def lnBad (c : List Ac) (x : Ln) : Int :=
  if idxP (hasCode x.acc) c < 0 then 6 else if memB x.acc (lvs c) = false then 12 else if isCur x.cur = false then 2 else if x.amt = 0 ∨ isAmtB x.amt = false then 1 else 0
theorem lnBad_leaf (c : List Ac) (x : Ln) : lnBad c x = if leafBad c x.acc ≠ 0 then leafBad c x.acc else if isCur x.cur = false then 2 else if x.amt = 0 ∨ isAmtB x.amt = false then 1 else 0 := by
  unfold lnBad leafBad
  by_cases h1 : idxP (hasCode x.acc) c < 0
  · simp only [if_pos h1]; rfl
  · simp only [if_neg h1]
    cases h2 : memB x.acc (lvs c)
    · rfl
    · rfl

end Go.Proofs.YtchpobnfejfegaaDoor

namespace Go.Proofs.YtchpobnfejfegaaDoor
set_option linter.unusedVariables false
set_option linter.unusedSimpArgs false
set_option maxRecDepth 100000
open Go.RowKit Go.Lib

/-- A line of something. -/
def someL (x : Ln) : Bool := !nullL x
/-- What is wrong with lines, one by one. -/
def linesBad (c : List Ac) : List Ln → Int
  | [] => 0
  | x :: r => if lnBad c x ≠ 0 then lnBad c x else linesBad c r
/-- What is wrong with an entry. -/
def entBad (c : List Ac) (r : ByteArray) (en pe : Int) (l : List Ln) : Int :=
  if chBad c ≠ 0 then chBad c else if headBad r en pe l.length ≠ 0 then headBad r en pe l.length else if linesBad c l ≠ 0 then linesBad c l else if (curSums l).any someL = true then 11 else 0

theorem linesBad_zero {c : List Ac} : ∀ {l : List Ln}, linesBad c l = 0 → ∀ x ∈ l, lnBad c x = 0
  | [], _, x, hx => by simp at hx
  | y :: l, h, x, hx => by
    rw [linesBad] at h
    split at h
    · rename_i hy; exact absurd h hy
    · rename_i hy
      rcases List.mem_cons.1 hx with rfl | hx
      · exact Classical.not_not.1 hy
      · exact linesBad_zero h x hx
theorem linesBad_of {c : List Ac} : ∀ {l : List Ln}, (∀ x ∈ l, lnBad c x = 0) → linesBad c l = 0
  | [], _ => rfl
  | y :: l, h => by
    rw [linesBad, if_neg (by rw [h y (by simp)]; simp)]
    exact linesBad_of (fun x hx => h x (by simp [hx]))
theorem lnBad_amt {c : List Ac} {x : Ln} (h : lnBad c x = 0) : -mostA ≤ x.amt ∧ x.amt ≤ mostA := by
  unfold lnBad at h
  split at h
  · omega
  · split at h
    · omega
    · split at h
      · omega
      · split at h
        · omega
        · rename_i hh
          simp only [not_or] at hh
          exact isAmtB_iff.1 (by simpa using hh.2)
theorem headBad_len {r : ByteArray} {en pe : Int} {n : Nat} (h : headBad r en pe n = 0) : 2 ≤ n ∧ n ≤ 20 := by
  unfold headBad at h
  split at h
  · omega
  · split at h
    · omega
    · split at h
      · omega
      · split at h
        · omega
        · omega

end Go.Proofs.YtchpobnfejfegaaDoor

namespace Go.Proofs.YtchpobnfejfegaaDoor
set_option linter.unusedVariables false
set_option linter.unusedSimpArgs false
open Go.RowKit Go.Lib

/-- The sum of those amounts that are asked for. -/
def tot (p : Ln → Bool) : List Ln → Int
  | [] => 0
  | x :: l => (if p x = true then x.amt else 0) + tot p l
/-- Only account and currency are asked. -/
def KeyP (p : Ln → Bool) : Prop := ∀ x y, lnEq x y = true → p x = p y

theorem lnEq_refl (x : Ln) : lnEq x x = true := lnEq_iff.2 ⟨rfl, rfl⟩
theorem lnEq_symm {x y : Ln} (h : lnEq x y = true) : lnEq y x = true := by
  obtain ⟨h1, h2⟩ := lnEq_iff.1 h
  exact lnEq_iff.2 ⟨h1.symm, h2.symm⟩
theorem keyP_eq (x : Ln) : KeyP (lnEq x) := fun a b h => by
  obtain ⟨h1, h2⟩ := lnEq_iff.1 h
  unfold lnEq
  rw [h1, h2]

theorem tot_append (p : Ln → Bool) : ∀ l m : List Ln, tot p (l ++ m) = tot p l + tot p m
  | [], m => by simp [tot]
  | x :: l, m => by
    rw [List.cons_append, tot, tot, tot_append p l m]
    omega
theorem tot_ins {p : Ln → Bool} (hp : KeyP p) (x : Ln) : ∀ l : List Ln, tot p (insL x l) = tot p l + (if p x = true then x.amt else 0)
  | [] => by simp [insL, tot]
  | y :: l => by
    rw [insL]
    split
    · rw [tot, tot, tot_ins hp x l]; omega
    · split
      · rename_i h1 h2
        rw [tot, tot]
        have e1 : p ⟨y.acc, y.cur, y.amt + x.amt⟩ = p y := hp _ _ (lnEq_iff.2 ⟨rfl, rfl⟩)
        have e2 : p x = p y := (hp _ _ h2).symm
        rw [e1, e2]
        split
        · simp only; omega
        · omega
      · rw [tot, tot]; omega
theorem tot_grp_from {p : Ln → Bool} (hp : KeyP p) : ∀ l r : List Ln, tot p (l.foldl (fun r x => insL x r) r) = tot p r + tot p l
  | [], r => by simp [tot]
  | x :: l, r => by
    rw [List.foldl_cons, tot_grp_from hp l, tot_ins hp, tot]
    omega
theorem tot_grp {p : Ln → Bool} (hp : KeyP p) (l : List Ln) : tot p (grp l) = tot p l := by
  have := tot_grp_from hp l []
  simpa [grp, tot] using this
theorem tot_turn {p : Ln → Bool} (hp : KeyP p) : ∀ l : List Ln, tot p (l.map turnL) = -tot p l
  | [] => rfl
  | x :: l => by
    rw [List.map_cons, tot, tot, tot_turn hp l]
    have e : p (turnL x) = p x := hp _ _ (lnEq_iff.2 ⟨rfl, rfl⟩)
    rw [e]
    simp only [turnL]
    split <;> omega
theorem tot_none {p : Ln → Bool} : ∀ {l : List Ln}, (∀ x ∈ l, p x = false) → tot p l = 0
  | [], _ => rfl
  | x :: l, h => by
    rw [tot, tot_none (fun y hy => h y (by simp [hy])), h x (by simp)]
    rfl
theorem tot_null (p : Ln → Bool) : ∀ {l : List Ln}, (∀ x ∈ l, x.amt = 0) → tot p l = 0
  | [], _ => rfl
  | x :: l, h => by
    rw [tot, tot_null p (fun y hy => h y (by simp [hy])), h x (by simp)]
    simp
theorem tot_sort : ∀ {l : List Ln}, SortL l → ∀ y ∈ l, tot (lnEq y) l = y.amt
  | [], _, y, hy => by simp at hy
  | z :: l, h, y, hy => by
    have h1 : ∀ x ∈ l, lnLt z x = true := (List.pairwise_cons.1 h).1
    have h2 : SortL l := (List.pairwise_cons.1 h).2
    rw [tot]
    rcases List.mem_cons.1 hy with rfl | hy
    · rw [if_pos (lnEq_refl _), tot_none (fun x hx => ?_)]
      · omega
      · cases hh : lnEq y x
        · rfl
        · have := h1 x hx
          rw [lnLt_eq hh] at this
          cases this
    · have : lnEq y z = false := by
        cases hh : lnEq y z
        · rfl
        · have := h1 y hy
          rw [lnLt_eq (lnEq_symm hh)] at this
          cases this
      rw [this, tot_sort h2 y hy]
      simp
/-- What is alike together is nothing if, and only if, each sum is. -/
theorem grp_null {l : List Ln} : (∀ y ∈ grp l, y.amt = 0) ↔ ∀ p, KeyP p → tot p l = 0 := by
  constructor
  · intro h p hp
    rw [← tot_grp hp l]
    exact tot_null p h
  · intro h y hy
    rw [← tot_sort (grp_sort l) y hy, tot_grp (keyP_eq y)]
    exact h _ (keyP_eq y)
/-- Each currency's sum is nothing. -/
def evenL (l : List Ln) : Prop := ∀ p, KeyP p → tot p (l.map bareL) = 0
theorem even_iff {l : List Ln} : ((curSums l).any fun x => !nullL x) = false ↔ evenL l := by
  unfold evenL
  rw [← grp_null, List.any_eq_false]
  unfold curSums
  constructor
  · intro h y hy
    have := h y hy
    simpa [nullL] using this
  · intro h y hy
    have := h y hy
    simp [nullL, this]
theorem even_append {l m : List Ln} (h1 : evenL l) (h2 : evenL m) : evenL (l ++ m) := fun p hp => by
  rw [List.map_append, tot_append, h1 p hp, h2 p hp]
  rfl
theorem bare_turn (l : List Ln) : (l.map turnL).map bareL = (l.map bareL).map turnL := by
  rw [List.map_map, List.map_map]
  rfl
theorem even_turn {l : List Ln} (h : evenL l) : evenL (l.map turnL) := fun p hp => by
  rw [bare_turn, tot_turn hp, h p hp]
  rfl
end Go.Proofs.YtchpobnfejfegaaDoor

namespace Go.Proofs.YtchpobnfejfegaaDoor
set_option linter.unusedVariables false
set_option linter.unusedSimpArgs false
open Go.RowKit Go.Lib

theorem entBad_zero {c : List Ac} {r : ByteArray} {en pe : Int} {l : List Ln} : entBad c r en pe l = 0 ↔ chBad c = 0 ∧ headBad r en pe l.length = 0 ∧ linesBad c l = 0 ∧ evenL l := by
  rw [← even_iff]
  unfold entBad
  constructor
  · intro h
    split at h
    · rename_i h1; exact absurd h h1
    · rename_i h1
      split at h
      · rename_i h2; exact absurd h h2
      · rename_i h2
        split at h
        · rename_i h3; exact absurd h h3
        · rename_i h3
          split at h
          · omega
          · rename_i h4
            exact ⟨Classical.not_not.1 h1, Classical.not_not.1 h2, Classical.not_not.1 h3, by simpa [someL] using h4⟩
  · rintro ⟨h1, h2, h3, h4⟩
    rw [if_neg (by simp [h1]), if_neg (by simp [h2]), if_neg (by simp [h3]), if_neg]
    show ¬ ((curSums l).any fun x => !nullL x) = true
    rw [h4]
    simp
theorem entBad_few {c : List Ac} {r : ByteArray} {en pe : Int} {l : List Ln} (h : entBad c r en pe l = 0) : fewBad l = 0 := by
  obtain ⟨_, h2, h3, _⟩ := entBad_zero.1 h
  exact fewBad_of (headBad_len h2).2 (fun x hx => lnBad_amt (linesBad_zero h3 x hx))
theorem headBad_more {r : ByteArray} {en pe : Int} {n m : Nat} (h : headBad r en pe n = 0) (h1 : n ≤ m) (h2 : m ≤ 20) : headBad r en pe m = 0 := by
  have := headBad_len h
  unfold headBad at *
  split at h
  · omega
  · split at h
    · omega
    · rename_i a b
      rw [if_neg a, if_neg b, if_neg (by omega), if_neg (by omega)]
theorem ent_join {c : List Ac} {r r' : ByteArray} {en pe en' pe' : Int} {l m : List Ln} (h1 : entBad c r en pe l = 0) (h2 : entBad c r' en' pe' m = 0) (hl : l.length + m.length ≤ 20) : entBad c r en pe (l ++ m) = 0 := by
  obtain ⟨a1, a2, a3, a4⟩ := entBad_zero.1 h1
  obtain ⟨_, _, b3, b4⟩ := entBad_zero.1 h2
  refine entBad_zero.2 ⟨a1, headBad_more a2 (by simp) (by simpa using hl), linesBad_of (fun x hx => ?_), even_append a4 b4⟩
  rcases List.mem_append.1 hx with hx | hx
  · exact linesBad_zero a3 x hx
  · exact linesBad_zero b3 x hx
theorem fewBad_double {l : List Ln} (h : fewBad l = 0) (hl : 2 * l.length ≤ 20) : fewBad (l ++ l.map turnL) = 0 := by
  obtain ⟨_, h2⟩ := fewBad_zero h
  refine fewBad_of (by simp; omega) (fun x hx => ?_)
  rcases List.mem_append.1 hx with hx | hx
  · exact h2 x hx
  · obtain ⟨y, hy, rfl⟩ := List.mem_map.1 hx
    have := h2 y hy
    simp only [turnL]
    omega
end Go.Proofs.YtchpobnfejfegaaDoor
