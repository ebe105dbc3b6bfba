/-
  A journal in memory: its entries, and the map of their refs.
-/
import Derived.Test.YtbbegoklikaphaaZs7
import Derived.MapKept
import Derived.Deep.AppendLies
namespace Go.Proofs.Ytbbegoklikaphaa
set_option linter.unusedVariables false
set_option linter.unusedSimpArgs false
set_option maxRecDepth 100000
open Go.RowKit Go.Lib

/-- A line of something. -/
def someL (x : Ln) : Bool := !nullL x
/-- What is wrong with lines, one by one. -/
def linesBad (c : List Ac) : List Ln → Int
  | [] => 0
  | x :: r => if lnBad c x ≠ 0 then lnBad c x else linesBad c r
/-- What is wrong with an entry. -/
def entBad (c : List Ac) (r : ByteArray) (en pe : Int) (l : List Ln) : Int :=
  if chBad c ≠ 0 then chBad c else if headBad r en pe l.length ≠ 0 then headBad r en pe l.length else if linesBad c l ≠ 0 then linesBad c l else if (curSums l).any someL = true then 11 else 0

theorem linesBad_zero {c : List Ac} : ∀ {l : List Ln}, linesBad c l = 0 → ∀ x ∈ l, lnBad c x = 0
  | [], _, x, hx => by simp at hx
  | y :: l, h, x, hx => by
    rw [linesBad] at h
    split at h
    · rename_i hy; exact absurd h hy
    · rename_i hy
      rcases List.mem_cons.1 hx with rfl | hx
      · exact Classical.not_not.1 hy
      · exact linesBad_zero h x hx
theorem linesBad_of {c : List Ac} : ∀ {l : List Ln}, (∀ x ∈ l, lnBad c x = 0) → linesBad c l = 0
  | [], _ => rfl
  | y :: l, h => by
    rw [linesBad, if_neg (by rw [h y (by simp)]; simp)]
    exact linesBad_of (fun x hx => h x (by simp [hx]))
theorem lnBad_amt {c : List Ac} {x : Ln} (h : lnBad c x = 0) : -mostA ≤ x.amt ∧ x.amt ≤ mostA := by
  unfold lnBad at h
  split at h
  · omega
  · split at h
    · omega
    · split at h
      · omega
      · split at h
        · omega
        · rename_i hh
          simp only [not_or] at hh
          exact isAmtB_iff.1 (by simpa using hh.2)
theorem headBad_len {r : ByteArray} {en pe : Int} {n : Nat} (h : headBad r en pe n = 0) : 2 ≤ n ∧ n ≤ 20 := by
  unfold headBad at h
  split at h
  · omega
  · split at h
    · omega
    · split at h
      · omega
      · split at h
        · omega
        · omega

end Go.Proofs.Ytbbegoklikaphaa

namespace Go.Proofs.Ytbbegoklikaphaa
set_option linter.unusedVariables false
set_option linter.unusedSimpArgs false
open Go.RowKit Go.Lib

/-- The sum of those amounts that are asked for. -/
def tot (p : Ln → Bool) : List Ln → Int
  | [] => 0
  | x :: l => (if p x = true then x.amt else 0) + tot p l
/-- Only account and currency are asked. -/
def KeyP (p : Ln → Bool) : Prop := ∀ x y, lnEq x y = true → p x = p y

theorem lnEq_refl (x : Ln) : lnEq x x = true := lnEq_iff.2 ⟨rfl, rfl⟩
theorem lnEq_symm {x y : Ln} (h : lnEq x y = true) : lnEq y x = true := by
  obtain ⟨h1, h2⟩ := lnEq_iff.1 h
  exact lnEq_iff.2 ⟨h1.symm, h2.symm⟩
theorem keyP_eq (x : Ln) : KeyP (lnEq x) := fun a b h => by
  obtain ⟨h1, h2⟩ := lnEq_iff.1 h
  unfold lnEq
  rw [h1, h2]

theorem tot_append (p : Ln → Bool) : ∀ l m : List Ln, tot p (l ++ m) = tot p l + tot p m
  | [], m => by simp [tot]
  | x :: l, m => by
    rw [List.cons_append, tot, tot, tot_append p l m]
    omega
theorem tot_ins {p : Ln → Bool} (hp : KeyP p) (x : Ln) : ∀ l : List Ln, tot p (insL x l) = tot p l + (if p x = true then x.amt else 0)
  | [] => by simp [insL, tot]
  | y :: l => by
    rw [insL]
    split
    · rw [tot, tot, tot_ins hp x l]; omega
    · split
      · rename_i h1 h2
        rw [tot, tot]
        have e1 : p ⟨y.acc, y.cur, y.amt + x.amt⟩ = p y := hp _ _ (lnEq_iff.2 ⟨rfl, rfl⟩)
        have e2 : p x = p y := (hp _ _ h2).symm
        rw [e1, e2]
        split
        · simp only; omega
        · omega
      · rw [tot, tot]; omega
theorem tot_grp_from {p : Ln → Bool} (hp : KeyP p) : ∀ l r : List Ln, tot p (l.foldl (fun r x => insL x r) r) = tot p r + tot p l
  | [], r => by simp [tot]
  | x :: l, r => by
    rw [List.foldl_cons, tot_grp_from hp l, tot_ins hp, tot]
    omega
theorem tot_grp {p : Ln → Bool} (hp : KeyP p) (l : List Ln) : tot p (grp l) = tot p l := by
  have := tot_grp_from hp l []
  simpa [grp, tot] using this
theorem tot_turn {p : Ln → Bool} (hp : KeyP p) : ∀ l : List Ln, tot p (l.map turnL) = -tot p l
  | [] => rfl
  | x :: l => by
    rw [List.map_cons, tot, tot, tot_turn hp l]
    have e : p (turnL x) = p x := hp _ _ (lnEq_iff.2 ⟨rfl, rfl⟩)
    rw [e]
    simp only [turnL]
    split <;> omega
theorem tot_none {p : Ln → Bool} : ∀ {l : List Ln}, (∀ x ∈ l, p x = false) → tot p l = 0
  | [], _ => rfl
  | x :: l, h => by
    rw [tot, tot_none (fun y hy => h y (by simp [hy])), h x (by simp)]
    rfl
theorem tot_null (p : Ln → Bool) : ∀ {l : List Ln}, (∀ x ∈ l, x.amt = 0) → tot p l = 0
  | [], _ => rfl
  | x :: l, h => by
    rw [tot, tot_null p (fun y hy => h y (by simp [hy])), h x (by simp)]
    simp
theorem tot_sort : ∀ {l : List Ln}, SortL l → ∀ y ∈ l, tot (lnEq y) l = y.amt
  | [], _, y, hy => by simp at hy
  | z :: l, h, y, hy => by
    have h1 : ∀ x ∈ l, lnLt z x = true := (List.pairwise_cons.1 h).1
    have h2 : SortL l := (List.pairwise_cons.1 h).2
    rw [tot]
    rcases List.mem_cons.1 hy with rfl | hy
    · rw [if_pos (lnEq_refl _), tot_none (fun x hx => ?_)]
      · omega
      · cases hh : lnEq y x
        · rfl
        · have := h1 x hx
          rw [lnLt_eq hh] at this
          cases this
    · have : lnEq y z = false := by
        cases hh : lnEq y z
        · rfl
        · have := h1 y hy
          rw [lnLt_eq (lnEq_symm hh)] at this
          cases this
      rw [this, tot_sort h2 y hy]
      simp
/-- What is alike together is nothing if, and only if, each sum is. -/
theorem grp_null {l : List Ln} : (∀ y ∈ grp l, y.amt = 0) ↔ ∀ p, KeyP p → tot p l = 0 := by
  constructor
  · intro h p hp
    rw [← tot_grp hp l]
    exact tot_null p h
  · intro h y hy
    rw [← tot_sort (grp_sort l) y hy, tot_grp (keyP_eq y)]
    exact h _ (keyP_eq y)
/-- Each currency's sum is nothing. -/
def evenL (l : List Ln) : Prop := ∀ p, KeyP p → tot p (l.map bareL) = 0
theorem even_iff {l : List Ln} : ((curSums l).any fun x => !nullL x) = false ↔ evenL l := by
  unfold evenL
  rw [← grp_null, List.any_eq_false]
  unfold curSums
  constructor
  · intro h y hy
    have := h y hy
    simpa [nullL] using this
  · intro h y hy
    have := h y hy
    simp [nullL, this]
theorem even_append {l m : List Ln} (h1 : evenL l) (h2 : evenL m) : evenL (l ++ m) := fun p hp => by
  rw [List.map_append, tot_append, h1 p hp, h2 p hp]
  rfl
theorem bare_turn (l : List Ln) : (l.map turnL).map bareL = (l.map bareL).map turnL := by
  rw [List.map_map, List.map_map]
  rfl
theorem even_turn {l : List Ln} (h : evenL l) : evenL (l.map turnL) := fun p hp => by
  rw [bare_turn, tot_turn hp, h p hp]
  rfl
end Go.Proofs.Ytbbegoklikaphaa

namespace Go.Proofs.Ytbbegoklikaphaa
set_option linter.unusedVariables false
set_option linter.unusedSimpArgs false
open Go.RowKit Go.Lib

theorem entBad_zero {c : List Ac} {r : ByteArray} {en pe : Int} {l : List Ln} : entBad c r en pe l = 0 ↔ chBad c = 0 ∧ headBad r en pe l.length = 0 ∧ linesBad c l = 0 ∧ evenL l := by
  rw [← even_iff]
  unfold entBad
  constructor
  · intro h
    split at h
    · rename_i h1; exact absurd h h1
    · rename_i h1
      split at h
      · rename_i h2; exact absurd h h2
      · rename_i h2
        split at h
        · rename_i h3; exact absurd h h3
        · rename_i h3
          split at h
          · omega
          · rename_i h4
            exact ⟨Classical.not_not.1 h1, Classical.not_not.1 h2, Classical.not_not.1 h3, by simpa [someL] using h4⟩
  · rintro ⟨h1, h2, h3, h4⟩
    rw [if_neg (by simp [h1]), if_neg (by simp [h2]), if_neg (by simp [h3]), if_neg]
    show ¬ ((curSums l).any fun x => !nullL x) = true
    rw [h4]
    simp
theorem entBad_few {c : List Ac} {r : ByteArray} {en pe : Int} {l : List Ln} (h : entBad c r en pe l = 0) : fewBad l = 0 := by
  obtain ⟨_, h2, h3, _⟩ := entBad_zero.1 h
  exact fewBad_of (headBad_len h2).2 (fun x hx => lnBad_amt (linesBad_zero h3 x hx))
theorem headBad_more {r : ByteArray} {en pe : Int} {n m : Nat} (h : headBad r en pe n = 0) (h1 : n ≤ m) (h2 : m ≤ 20) : headBad r en pe m = 0 := by
  have := headBad_len h
  unfold headBad at *
  split at h
  · omega
  · split at h
    · omega
    · rename_i a b
      rw [if_neg a, if_neg b, if_neg (by omega), if_neg (by omega)]
theorem ent_join {c : List Ac} {r r' : ByteArray} {en pe en' pe' : Int} {l m : List Ln} (h1 : entBad c r en pe l = 0) (h2 : entBad c r' en' pe' m = 0) (hl : l.length + m.length ≤ 20) : entBad c r en pe (l ++ m) = 0 := by
  obtain ⟨a1, a2, a3, a4⟩ := entBad_zero.1 h1
  obtain ⟨_, _, b3, b4⟩ := entBad_zero.1 h2
  refine entBad_zero.2 ⟨a1, headBad_more a2 (by simp) (by simpa using hl), linesBad_of (fun x hx => ?_), even_append a4 b4⟩
  rcases List.mem_append.1 hx with hx | hx
  · exact linesBad_zero a3 x hx
  · exact linesBad_zero b3 x hx
theorem fewBad_double {l : List Ln} (h : fewBad l = 0) (hl : 2 * l.length ≤ 20) : fewBad (l ++ l.map turnL) = 0 := by
  obtain ⟨_, h2⟩ := fewBad_zero h
  refine fewBad_of (by simp; omega) (fun x hx => ?_)
  rcases List.mem_append.1 hx with hx | hx
  · exact h2 x hx
  · obtain ⟨y, hy, rfl⟩ := List.mem_map.1 hx
    have := h2 y hy
    simp only [turnL]
    omega
end Go.Proofs.Ytbbegoklikaphaa

namespace Go.Proofs.Ytbbegoklikaphaa
set_option linter.unusedVariables false
set_option linter.unusedSimpArgs false
set_option maxRecDepth 100000
open Go.RowKit Go.Lib

/-- An entry, with the place of its lines. -/
structure Je where
  ref : ByteArray
  ent : Int
  per : Int
  adr : Option Addr
  cap : Nat
  lns : List Ln
def je0 : Je := ⟨ByteArray.empty, 0, 0, none, 0, []⟩
def Je.cells (x : Je) : Array Value := #[.string x.ref, .int .i64 x.ent, .int .i64 x.per, .slice x.adr x.lns.length x.cap]
theorem Je.cells_length (x : Je) : x.cells.toList.length = 4 := rfl
/-- An entry as it lies in memory. -/
structure JeAt (W : World) (b off : Nat) (x : Je) : Prop where
  c0 : W.cell? ⟨b, off, none⟩ = some (.string x.ref)
  c1 : W.cell? ⟨b, off + 1, none⟩ = some (.int .i64 x.ent)
  c2 : W.cell? ⟨b, off + 2, none⟩ = some (.int .i64 x.per)
  c3 : W.cell? ⟨b, off + 3, none⟩ = some (.slice x.adr x.lns.length x.cap)
theorem JeAt.below {W W' : World} {b off n : Nat} {x : Je} (h : JeAt W b off x) (hb : Below n W W') (hlt : b < n) : JeAt W' b off x :=
  ⟨(hb.cell (p := ⟨b, off, none⟩) hlt).trans h.c0, (hb.cell (p := ⟨b, off + 1, none⟩) hlt).trans h.c1, (hb.cell (p := ⟨b, off + 2, none⟩) hlt).trans h.c2, (hb.cell (p := ⟨b, off + 3, none⟩) hlt).trans h.c3⟩
/-- A slice of entries that is read. -/
structure IsJs (W : World) (a : Option Addr) (L : List Je) (cap : Nat) : Prop where
  cap : L.length ≤ cap
  lies : L = [] ∨ ∃ b off, a = some ⟨b, off, none⟩ ∧ b < W.heap.size ∧ ∀ k, k < L.length → JeAt W b (off + k * 4) (L.getD k je0)
  lns : ∀ x ∈ L, IsLn W x.adr x.lns x.cap
theorem IsJs.below {W W' : World} {a : Option Addr} {L : List Je} {cap : Nat} (h : IsJs W a L cap) (hb : Below W.heap.size W W') : IsJs W' a L cap := by
  refine ⟨h.cap, ?_, fun x hx => (h.lns x hx).below hb⟩
  rcases h.lies with h | ⟨b, off, e, hlt, hc⟩
  · exact .inl h
  · exact .inr ⟨b, off, e, by have := hb.size; omega, fun k hk => (hc k hk).below hb hlt⟩
theorem jes_take (l : List Je) (k : Nat) (h : k < l.length) : l.take (k + 1) = l.take k ++ [l.getD k je0] := by
  rw [List.take_add_one, List.getElem?_eq_getElem h, List.getD_eq_getElem?_getD, List.getElem?_eq_getElem h]
  rfl
theorem jes_drop (l : List Je) (k : Nat) (h : k < l.length) : l.drop k = l.getD k je0 :: l.drop (k + 1) := by
  rw [List.drop_eq_getElem_cons h, List.getD_eq_getElem?_getD, List.getElem?_eq_getElem h]
  rfl
theorem jes_mem (l : List Je) (k : Nat) (h : k < l.length) : l.getD k je0 ∈ l := by
  rw [List.getD_eq_getElem?_getD, List.getElem?_eq_getElem h]
  exact List.getElem_mem h

/-- The cells of entries, one behind the other. -/
def jeRow (l : List Je) : List Value := l.flatMap fun x => x.cells.toList
theorem jeRow_length : ∀ l : List Je, (jeRow l).length = l.length * 4
  | [] => rfl
  | x :: l => by
    have := jeRow_length l
    unfold jeRow at *
    simp only [List.flatMap_cons, List.length_append, Je.cells_length, this, List.length_cons]
    omega
theorem jeRow_append (l m : List Je) : jeRow (l ++ m) = jeRow l ++ jeRow m := by simp [jeRow]
theorem jeRow_one (x : Je) : jeRow [x] = x.cells.toList := by simp [jeRow]
theorem jeRow_get : ∀ (l : List Je) (k j : Nat), k < l.length → j < 4 → (jeRow l)[k * 4 + j]? = (l.getD k je0).cells.toList[j]?
  | [], _, _, h, _ => absurd h (by simp)
  | x :: l, 0, j, _, hj => by
    simp only [jeRow, List.flatMap_cons, Nat.zero_mul, Nat.zero_add, List.getD_cons_zero]
    rw [List.getElem?_append_left (by rw [Je.cells_length]; exact hj)]
  | x :: l, k + 1, j, h, hj => by
    have ih := jeRow_get l k j (by simpa using h) hj
    simp only [jeRow, List.flatMap_cons, List.getD_cons_succ] at ih ⊢
    rw [List.getElem?_append_right (by rw [Je.cells_length]; omega), Je.cells_length, ← ih]
    congr 1
    omega
theorem je_one (x : Je) : ∀ u ∈ x.cells.toList, u.oneCell' = true := by
  intro u hu
  simp [Je.cells] at hu
  rcases hu with rfl | rfl | rfl | rfl <;> rfl
/-- Entries in a row of one's own. -/
def JeRow (W : World) (n : Nat) (v : Value) (l : List Je) : Prop := W.ownsRow n 39 4 v l.length (jeRow l)
theorem JeRow.nil (w : World) (n : Nat) : JeRow w n (.slice none 0 0) [] := World.ownsRow_nil _ _ _ _
theorem JeRow.own {w : World} {n : Nat} {v : Value} {xs : List Je} (h : JeRow w n v xs) : ∀ j, v.ownBlock = some j → n ≤ j := fun j ej => by
  rcases h.2 with ⟨rfl, _⟩ | ⟨g, cp, cur, rfl, hg, _⟩
  · cases ej
  · cases ej; exact hg
theorem JeRow.lt {w : World} {n : Nat} {v : Value} {xs : List Je} (h : JeRow w n v xs) : ∀ j, v.ownBlock = some j → j < w.heap.size := fun j ej => by
  rcases h.2 with ⟨rfl, _⟩ | ⟨g, cp, cur, rfl, hg, hh, _⟩
  · cases ej
  · cases ej; exact (Array.getElem?_eq_some_iff.1 hh).1
theorem JeRow.of {w w' : World} {n : Nat} {v : Value} {l : List Je} (h : JeRow w n v l) (hb : ∀ j, v.ownBlock = some j → w'.heap[j]? = w.heap[j]?) : JeRow w' n v l := by
  rcases h.2 with ⟨hv, hn⟩ | ⟨g1, c1, cur, hv, hb1, hh, r⟩
  · exact ⟨h.1, .inl ⟨hv, hn⟩⟩
  · exact ⟨h.1, .inr ⟨g1, c1, cur, hv, hb1, (hb g1 (by rw [hv]; rfl)).trans hh, r⟩⟩
theorem JeRow.below {w w' : World} {n : Nat} {v : Value} {l : List Je} (h : JeRow w n v l) (hb : Below w.heap.size w w') : JeRow w' n v l := h.of fun j ej => hb.block j (h.lt j ej)
theorem JeRow.lies {W : World} {n : Nat} {v : Value} {l : List Je} (h : JeRow W n v l) :
    ∃ a cap, v = .slice a l.length cap ∧ l.length ≤ cap ∧ (l = [] ∨ ∃ b off, a = some ⟨b, off, none⟩ ∧ b < W.heap.size ∧ ∀ k, k < l.length → JeAt W b (off + k * 4) (l.getD k je0)) := by
  obtain ⟨hlen, ⟨rfl, h0⟩ | ⟨g, cap, cur, rfl, hb, hg, hc, hm, hs, ht⟩⟩ := h
  · have : l = [] := List.eq_nil_of_length_eq_zero h0
    subst this
    exact ⟨none, 0, rfl, Nat.le_refl _, .inl rfl⟩
  · refine ⟨_, cap, rfl, hc, .inr ⟨g, 0, rfl, (Array.getElem?_eq_some_iff.1 hg).1, ?_⟩⟩
    intro k hk
    have C : ∀ j, j < 4 → W.cell? ⟨g, 0 + k * 4 + j, none⟩ = (l.getD k je0).cells.toList[j]? := fun j hj => by
      have e1 : (jeRow l)[k * 4 + j]? = cur[k * 4 + j]? := by
        rw [← ht, List.getElem?_take, if_pos (by omega)]
        simp
      rw [← jeRow_get l k j hk hj, e1]
      simp [World.cell?, hg]
    exact ⟨C 0 (by omega), C 1 (by omega), C 2 (by omega), C 3 (by omega)⟩
theorem je_info : (Try.prog.info? 39).map (fun i => (i.zero, i.size, i.bytes)) = some (some (.agg #[.string ByteArray.empty, .int .i64 0, .int .i64 0, .slice none 0 0]), 4, 56) := by kernel_rfl

/-- The map of refs. -/
def SMap (W : World) (bm : Nat) (rs : List ByteArray) : Prop := ∃ es c, W.heap[bm]? = some (.map es c) ∧ es.toList.map (·.key) = rs.map Value.string ∧ ∀ e ∈ es.toList, e.val = .agg #[]
theorem skey_ok (w : World) (x : ByteArray) (b : Bool) : (Instr.checkKey b 10000 9 (.string x)).run Try.prog w = .ok () w :=
  MapKept.run_checkKey (k := .string x) Try.underlying9 (by simp [MapKept.IsKey]) b 9999
theorem sfind_none : ∀ (es : List MapEntry) (rs : List ByteArray) (s : ByteArray) (i : Nat), es.map (·.key) = rs.map Value.string → s ∉ rs → Instr.findNow .string (.string s) es i = some none
  | [], _, _, _, _, _ => rfl
  | e :: es, [], _, _, h, _ => by simp at h
  | e :: es, r :: rs, s, i, h, hs => by
    simp only [List.map_cons, List.cons.injEq] at h
    simp only [List.mem_cons, not_or] at hs
    unfold Instr.findNow
    have hne : (s == r) = false := by cases hq : (s == r) with | false => rfl | true => exact absurd ((MapKept.bytes_beq s r).1 hq) hs.1
    simp only [h.1, Instr.sameNow, hne]
    exact sfind_none es rs s (i + 1) h.2 hs.2
theorem sfind_some : ∀ (es : List MapEntry) (rs : List ByteArray) (s : ByteArray) (i : Nat), es.map (·.key) = rs.map Value.string → (∀ e ∈ es, e.val = .agg #[]) → s ∈ rs → ∃ j, Instr.findNow .string (.string s) es i = some (some (j, .agg #[]))
  | [], rs, s, _, h, _, hs => by
    have : rs = [] := by simpa using h.symm
    rw [this] at hs; simp at hs
  | e :: es, [], _, _, h, _, _ => by simp at h
  | e :: es, r :: rs, s, i, h, hv, hs => by
    simp only [List.map_cons, List.cons.injEq] at h
    unfold Instr.findNow
    by_cases hq : s = r
    · subst hq
      simp only [h.1, Instr.sameNow, (MapKept.bytes_beq s s).2 rfl]
      exact ⟨i, by rw [hv e (by simp)]⟩
    · have hne : (s == r) = false := by cases hq' : (s == r) with | false => rfl | true => exact absurd ((MapKept.bytes_beq s r).1 hq') hq
      simp only [h.1, Instr.sameNow, hne]
      exact sfind_some es rs s (i + 1) h.2 (fun x hx => hv x (by simp [hx])) (by rcases List.mem_cons.1 hs with e | e; exact absurd e hq; exact e)
/-- Is a text one of some? -/
def isInR (rs : List ByteArray) (s : ByteArray) : Bool := rs.any fun r => r == s
theorem isInR_iff {rs : List ByteArray} {s : ByteArray} : isInR rs s = true ↔ s ∈ rs := by
  unfold isInR
  rw [List.any_eq_true]
  constructor
  · rintro ⟨x, hx, he⟩
    rw [(MapKept.bytes_beq x s).1 he] at hx
    exact hx
  · intro h
    exact ⟨s, h, (MapKept.bytes_beq s s).2 rfl⟩
theorem isInR_not {rs : List ByteArray} {s : ByteArray} : isInR rs s = false ↔ s ∉ rs := by
  rw [← isInR_iff]
  simp
theorem SMap.of {W W' : World} {bm : Nat} {rs : List ByteArray} (h : SMap W bm rs) (hb : W'.heap[bm]? = W.heap[bm]?) : SMap W' bm rs := by
  obtain ⟨es, c, h1, h2⟩ := h
  exact ⟨es, c, hb.trans h1, h2⟩
end Go.Proofs.Ytbbegoklikaphaa
