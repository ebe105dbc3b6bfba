/-
  The contracts of slices.Clone (of accounts) and chart.LeafCheck.
-/
import Derived.Test.YtchpobnfejfegaaDoorZu20
import Derived.Deep.RegionLaw
import Derived.Lib.Slices
import Derived.Laws.NewBlocks
import Derived.RangeFuncRecord
namespace Go.Proofs.YtchpobnfejfegaaDoor
set_option linter.unusedVariables false
set_option linter.unusedSimpArgs false
set_option maxRecDepth 100000
open Go.RowKit Go.Lib

end Go.Proofs.YtchpobnfejfegaaDoor

namespace Go.Proofs.YtchpobnfejfegaaDoor
set_option linter.unusedVariables false
set_option linter.unusedSimpArgs false
set_option maxRecDepth 100000
open Go.RowKit Go.Lib

theorem cell_grown {W W' : World} {row : Option Nat} {b o : Nat} {v : Value} (h : W.cell? ⟨b, o, none⟩ = some v) (hg : W.grownBy W' row) (hr : row ≠ some b) : W'.cell? ⟨b, o, none⟩ = some v := by
  have hlt : b < W.heap.size := World.block_lt_of_cell? _ _ h
  exact (World.cell?_of_block (w := W) (a := ⟨b, o, none⟩) (hg.block b hlt (fun e => hr e.symm))).trans h

/-- Behind 'x = append(x, y)' in a box. -/
theorem box_end {W w1 : World} {n0 B1 : Nat} {T e : TypeId} (hte : T ≠ e) {v : Value} {g' cap' k : Nat} {xs ys : List Value} {o : Obj} (bx : Boxed W B1 T v) (hB : B1 < n0) (hn : n0 ≤ W.heap.size) (hrow : W.ownsRow n0 e 1 v k xs)
    (hown' : w1.ownsRow n0 e 1 (.slice (some ⟨g', 0, none⟩) (k + 1) cap') (k + 1) ys) (hgrow : (W.alloc o).drew.grownBy w1 v.ownBlock) (hat : v.ownBlock = some g' ∨ g' = W.heap.size + 1) :
    Boxed (w1.setCell ⟨B1, 0, none⟩ (.slice (some ⟨g', 0, none⟩) (k + 1) cap')) B1 T (.slice (some ⟨g', 0, none⟩) (k + 1) cap') ∧ (w1.setCell ⟨B1, 0, none⟩ (.slice (some ⟨g', 0, none⟩) (k + 1) cap')).ownsRow n0 e 1 (.slice (some ⟨g', 0, none⟩) (k + 1) cap') (k + 1) ys ∧
    (some g' = v.ownBlock ∨ ∃ h, some g' = some h ∧ W.heap.size ≤ h) ∧ W.heap.size ≤ (w1.setCell ⟨B1, 0, none⟩ (.slice (some ⟨g', 0, none⟩) (k + 1) cap')).heap.size ∧
    (∀ b, b < W.heap.size → b ≠ B1 → some b ≠ v.ownBlock → (w1.setCell ⟨B1, 0, none⟩ (.slice (some ⟨g', 0, none⟩) (k + 1) cap')).heap[b]? = W.heap[b]?) ∧
    ∀ m w0, m ≤ B1 → Below m w0 W → Below m w0 (w1.setCell ⟨B1, 0, none⟩ (.slice (some ⟨g', 0, none⟩) (k + 1) cap')) := by
  have hown : ∀ x, v.ownBlock = some x → n0 ≤ x := fun x hx => by
    rcases hrow.2 with ⟨rfl, _⟩ | ⟨g, cp, cur, rfl, hg, _⟩
    · cases hx
    · cases hx; exact hg
  have bx2 : Boxed (W.alloc o).drew B1 T v := bx.alloc o
  have hrow2 : (W.alloc o).drew.ownsRow n0 e 1 v k xs := World.ownsRow.drew (World.ownsRow.alloc hrow o)
  have bx3 : Boxed w1 B1 T v := bx2.kept hgrow (bx2.not_row hte hrow2)
  have hs0 : (W.alloc o).drew.heap.size = W.heap.size + 1 := by simp
  have hs1 := hgrow.size
  have hs2 := (grownBy_setCell' w1 B1 (.slice (some ⟨g', 0, none⟩) (k + 1) cap')).size
  refine ⟨bx3.set _, hown'.kept (grownBy_setCell' w1 B1 _) (.inr (bx3.not_row hte hown').symm), ?_, by omega, ?_, ?_⟩
  · rcases hat with h | h
    · exact .inl h.symm
    · exact .inr ⟨g', rfl, by omega⟩
  · intro b hb hne hr
    rw [Below.heap_setCell _ _ _ b (fun e => hne e), hgrow.block b (by omega) hr]
    exact heap_alloc_lt W o b hb
  · intro m w0 hm hbel
    refine hbel.trans ((((Below.refl m W).alloc (by omega) o).drew.grown hgrow (by omega) (fun j ej => ?_)).setCell (p := ⟨B1, 0, none⟩) hm _)
    have := hown j ej
    omega

end Go.Proofs.YtchpobnfejfegaaDoor

namespace Go.Proofs.YtchpobnfejfegaaDoor
set_option linter.unusedVariables false
set_option linter.unusedSimpArgs false
set_option maxRecDepth 100000
open Go.RowKit Go.Lib

/-- The codes of those that are under one. -/
def undC (l : List Ac) (c : ByteArray) : List ByteArray := (und l c).map fun i => (l.getD i ac0).code

theorem placeBad_ok {l : List Ac} {c : ByteArray} (h : placeBad l c = 0) : chBad l = 0 ∧ 0 ≤ idxP (hasCode c) l := by
  unfold placeBad at h
  split at h
  · omega
  · split at h
    · omega
    · exact ⟨by omega, by omega⟩

theorem TxtRow.below {w w' : World} {n : Nat} {v : Value} {fs : List ByteArray} (h : TxtRow w n v fs) (hb : Below w.heap.size w w') : TxtRow w' n v fs := by
  rcases h.2 with ⟨hv, hn⟩ | ⟨g1, c1, cur, hv, hb1, hh, r⟩
  · exact ⟨h.1, .inl ⟨hv, hn⟩⟩
  · exact ⟨h.1, .inr ⟨g1, c1, cur, hv, hb1, (hb.block g1 (Array.getElem?_eq_some_iff.1 hh).1).trans hh, r⟩⟩

theorem row_mono {w : World} {n m : Nat} {v : Value} {fs : List ByteArray} (h : TxtRow w n v fs) (hm : m ≤ n) : TxtRow w m v fs := by
  rcases h.2 with ⟨hv, hn⟩ | ⟨g1, c1, cur, hv, hb1, r⟩
  · exact ⟨h.1, .inl ⟨hv, hn⟩⟩
  · exact ⟨h.1, .inr ⟨g1, c1, cur, hv, by omega, r⟩⟩

/-- An account whose parent is a code. -/
def hasPar (c : ByteArray) (a : Ac) : Bool := decide (a.par = c)
def leafB (l : List Ac) (a : Ac) : Bool := decide (idxP (hasPar a.code) l < 0)
/-- The codes of the leaves. -/
def lvs (l : List Ac) : List ByteArray := (l.filter (leafB l)).map Ac.code

theorem lvs_step (l : List Ac) (k : Nat) (h : k < l.length) : ((l.take (k + 1)).filter (leafB l)).map Ac.code = ((l.take k).filter (leafB l)).map Ac.code ++ (if leafB l (l.getD k ac0) = true then [(l.getD k ac0).code] else []) := by
  have e2 : l.take (k + 1) = l.take k ++ [l.getD k ac0] := by
    rw [List.take_succ_eq_append_getElem h, List.getD_eq_getElem?_getD, List.getElem?_eq_getElem h]; rfl
  rw [e2, List.filter_append, List.map_append]
  congr 1
  by_cases hh : leafB l (l.getD k ac0) = true
  · rw [if_pos hh, List.filter_cons_of_pos hh]; rfl
  · rw [if_neg hh, List.filter_cons_of_neg hh]; rfl

end Go.Proofs.YtchpobnfejfegaaDoor

namespace Go.Proofs.YtchpobnfejfegaaDoor
set_option linter.unusedVariables false
set_option linter.unusedSimpArgs false
set_option maxRecDepth 100000
open Go.RowKit Go.Lib

/-- A slice of texts that is read. -/
structure IsTx (w : World) (a : Option Addr) (l : List ByteArray) (cap : Nat) : Prop where
  cap : l.length ≤ cap
  lies : l = [] ∨ ∃ b off, a = some ⟨b, off, none⟩ ∧ b < w.heap.size ∧ ∀ k, k < l.length → w.cell? ⟨b, off + k, none⟩ = some (.string (l.getD k ByteArray.empty))
theorem IsTx.below {w w' : World} {a : Option Addr} {l : List ByteArray} {cap : Nat} (h : IsTx w a l cap) (hb : Below w.heap.size w w') : IsTx w' a l cap := by
  refine ⟨h.cap, ?_⟩
  rcases h.lies with h | ⟨b, off, e, hlt, hc⟩
  · exact .inl h
  · exact .inr ⟨b, off, e, by have := hb.size; omega, fun k hk => (hb.cell (p := ⟨b, off + k, none⟩) hlt).trans (hc k hk)⟩
theorem tx_take_getD (l : List ByteArray) (k j : Nat) (h : j < k) : (l.take k).getD j ByteArray.empty = l.getD j ByteArray.empty := by
  rw [List.getD_eq_getElem?_getD, List.getD_eq_getElem?_getD, List.getElem?_take, if_pos h]
theorem IsTx.take {w : World} {a : Option Addr} {l : List ByteArray} {cap : Nat} (h : IsTx w a l cap) (k : Nat) : IsTx w a (l.take k) cap := by
  refine ⟨by have := h.cap; simp; omega, ?_⟩
  rcases h.lies with h | ⟨b, off, e, hlt, hc⟩
  · exact .inl (by rw [h]; simp)
  · refine .inr ⟨b, off, e, hlt, fun j hj => ?_⟩
    simp only [List.length_take] at hj
    rw [tx_take_getD l k j (by omega)]
    exact hc j (by omega)
theorem IsTx.at {w : World} {a : Option Addr} {l : List ByteArray} {cap : Nat} (h : IsTx w a l cap) {k : Nat} (hk : k < l.length) : ∃ b off, a = some ⟨b, off, none⟩ ∧ b < w.heap.size ∧ w.cell? ⟨b, off + k, none⟩ = some (.string (l.getD k ByteArray.empty)) := by
  rcases h.lies with rfl | ⟨b, off, e, hlt, hc⟩
  · simp at hk
  · exact ⟨b, off, e, hlt, hc k hk⟩
theorem TxtRow.isTx {w : World} {n : Nat} {v : Value} {fs : List ByteArray} (h : TxtRow w n v fs) : ∃ a cap, v = .slice a fs.length cap ∧ IsTx w a fs cap := by
  rcases h.form with ⟨rfl, rfl⟩ | ⟨g, cap, rfl, _, hlt, hc, hr⟩
  · exact ⟨none, 0, rfl, Nat.le_refl _, .inl rfl⟩
  · exact ⟨_, cap, rfl, hc, .inr ⟨g, 0, rfl, hlt, fun k hk => by rw [Nat.zero_add]; exact hr k hk⟩⟩


/-- What is wrong with a code: it is no account's, or no leaf's. -/
def leafBad (c : List Ac) (code : ByteArray) : Int := if idxP (hasCode code) c < 0 then 6 else if memB code (lvs c) = true then 0 else 12

/-- The first number that is not 0. -/
def firstTo (f : Nat → Int) : Nat → Int
  | 0 => 0
  | k + 1 => if firstTo f k ≠ 0 then firstTo f k else f k
theorem firstTo_next {f : Nat → Int} {k : Nat} (h : firstTo f k = 0) : firstTo f (k + 1) = f k := by
  unfold firstTo; rw [if_neg (by simp [h])]
theorem firstTo_stays {f : Nat → Int} {k : Nat} (h : firstTo f k ≠ 0) : ∀ n, k ≤ n → firstTo f n = firstTo f k
  | 0, hn => by obtain rfl : k = 0 := by omega
                rfl
  | n + 1, hn => by
    by_cases e : k = n + 1
    · subst e; rfl
    · have ih := firstTo_stays h n (by omega)
      show (if firstTo f n ≠ 0 then firstTo f n else f n) = _
      rw [if_pos (by rw [ih]; exact h), ih]
theorem firstTo_first {f : Nat → Int} {n k : Nat} (h0 : firstTo f k = 0) (h1 : f k ≠ 0) (hlt : k < n) : firstTo f n = f k := by
  have e := firstTo_next h0
  rw [firstTo_stays (k := k + 1) (by rw [e]; exact h1) n hlt, e]
theorem firstTo_zero {f : Nat → Int} : ∀ {n : Nat}, firstTo f n = 0 → ∀ k, k < n → f k = 0
  | 0, _, k, hk => by omega
  | n + 1, h, k, hk => by
    have h0 : firstTo f n = 0 := by
      by_cases e : firstTo f n = 0
      · exact e
      · rw [firstTo_stays e (n + 1) (by omega)] at h; exact absurd h e
    rw [firstTo_next h0] at h
    by_cases e : k = n
    · subst e; exact h
    · exact firstTo_zero h0 k (by omega)
theorem firstTo_of {f : Nat → Int} : ∀ {n : Nat}, (∀ k, k < n → f k = 0) → firstTo f n = 0
  | 0, _ => rfl
  | n + 1, h => by rw [firstTo_next (firstTo_of fun k hk => h k (by omega))]; exact h n (by omega)

end Go.Proofs.YtchpobnfejfegaaDoor

namespace Go.Proofs.YtchpobnfejfegaaDoor
set_option linter.unusedVariables false
set_option linter.unusedSimpArgs false
set_option maxRecDepth 100000
open Go.RowKit Go.Lib

/-- The cells of accounts, one behind the other. -/
def lfRow (l : List Ac) : List Value := l.flatMap fun x => x.cells.toList
theorem lf_five (x : Ac) : x.cells.toList.length = 5 := rfl
theorem lfRow_length : ∀ l : List Ac, (lfRow l).length = l.length * 5
  | [] => rfl
  | x :: l => by
    have := lfRow_length l
    unfold lfRow at *
    simp only [List.flatMap_cons, List.length_append, lf_five, this, List.length_cons]
    omega
theorem lfRow_get : ∀ (l : List Ac) (k j : Nat), k < l.length → j < 5 → (lfRow l)[k * 5 + j]? = (l.getD k ac0).cells.toList[j]?
  | [], _, _, h, _ => absurd h (by simp)
  | x :: l, 0, j, _, hj => by
    simp only [lfRow, List.flatMap_cons, Nat.zero_mul, Nat.zero_add, List.getD_cons_zero]
    rw [List.getElem?_append_left (by rw [lf_five]; exact hj)]
  | x :: l, k + 1, j, h, hj => by
    have ih := lfRow_get l k j (by simpa using h) hj
    simp only [lfRow, List.flatMap_cons, List.getD_cons_succ] at ih ⊢
    rw [List.getElem?_append_right (by rw [lf_five]; omega), lf_five, ← ih]
    congr 1
    omega
theorem lfRow_isSl {W : World} {n0 : Nat} {e : TypeId} {v : Value} {l : List Ac} (h : W.ownsRow n0 e 5 v l.length (lfRow l)) :
    ∃ a cap, v = .slice a l.length cap ∧ IsSl W a l cap := by
  obtain ⟨hlen, ⟨rfl, h0⟩ | ⟨g, cap, cur, rfl, hb, hg, hc, hm, hs, ht⟩⟩ := h
  · have : l = [] := List.eq_nil_of_length_eq_zero h0
    subst this
    exact ⟨none, 0, rfl, Nat.le_refl _, .inl rfl⟩
  · refine ⟨_, cap, rfl, hc, .inr ⟨g, 0, rfl, (Array.getElem?_eq_some_iff.1 hg).1, ?_⟩⟩
    intro k hk
    have C : ∀ j, j < 5 → W.cell? ⟨g, 0 + k * 5 + j, none⟩ = (l.getD k ac0).cells.toList[j]? := fun j hj => by
      have e1 : (lfRow l)[k * 5 + j]? = cur[k * 5 + j]? := by
        rw [← ht, List.getElem?_take, if_pos (by omega)]
        simp
      rw [← lfRow_get l k j hk hj, e1]
      simp [World.cell?, hg]
    exact ⟨C 0 (by omega), C 1 (by omega), C 2 (by omega), C 3 (by omega), C 4 (by omega)⟩
theorem lf_src {W : World} {b off : Nat} {l : List Ac} (h : AcsAt W b off l) : ∀ j u, (lfRow l)[j]? = some u → W.cell? ((⟨b, off, none⟩ : Addr).add j) = some u := by
  intro j u hj
  rw [Addr.add_lit]
  obtain ⟨q, r, hr, rfl⟩ : ∃ q r, r < 5 ∧ j = q * 5 + r := ⟨j / 5, j % 5, Nat.mod_lt _ (by omega), by omega⟩
  have hlt := (List.getElem?_eq_some_iff.1 hj).1
  rw [lfRow_length] at hlt
  have hq : q < l.length := by omega
  rw [lfRow_get l q r hq hr] at hj
  have := h q hq
  rcases (by omega : r = 0 ∨ r = 1 ∨ r = 2 ∨ r = 3 ∨ r = 4) with rfl | rfl | rfl | rfl | rfl
  · rw [← hj, Nat.add_zero, this.c0]; rfl
  · rw [← hj, ← Nat.add_assoc, this.c1]; rfl
  · rw [← hj, ← Nat.add_assoc, this.c2]; rfl
  · rw [← hj, ← Nat.add_assoc, this.c3]; rfl
  · rw [← hj, ← Nat.add_assoc, this.c4]; rfl
theorem lfRow_one (l : List Ac) : ∀ u ∈ lfRow l, u.oneCell' = true := by
  intro u hu
  obtain ⟨x, _, hx⟩ := List.mem_flatMap.1 hu
  simp only [Ac.cells, List.mem_cons, List.not_mem_nil, or_false] at hx
  rcases hx with rfl | rfl | rfl | rfl | rfl <;> rfl

end Go.Proofs.YtchpobnfejfegaaDoor
