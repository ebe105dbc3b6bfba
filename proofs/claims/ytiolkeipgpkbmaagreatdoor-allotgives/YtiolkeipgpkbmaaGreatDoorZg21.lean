/-
  Lines, entries and balances in memory.
-/
import Derived.Test.YtiolkeipgpkbmaaGreatDoorZg20
import Derived.MapKept
import Derived.Deep.AppendLies
import Derived.Test.YtiolkeipgpkbmaaGreatDoorZg18
import Derived.Test.YtiolkeipgpkbmaaGreatDoorProg
import Derived.WalkKit
import Derived.WalkSpells
import Derived.Lib.OthersKept
import Derived.Lib.TrimU
import Derived.Deep.LoopGhost
import Derived.Conc.MuLone
import Derived.Shelf.Abstract
import Derived.Deep.QuietTactic
import Derived.BigQuiet
import Derived.Maps.AppendAt
import Derived.Laws.NewBlocks
import Derived.Laws.StructEq
import Derived.Laws.Cover1
import Derived.Deep.RegionWith
import Derived.Deep.RegionHeld3
import Derived.BigRegion
namespace Go.Proofs.YtiolkeipgpkbmaaGreatDoor
set_option linter.unusedVariables false
set_option linter.unusedSimpArgs false
set_option maxRecDepth 100000
open Go.RowKit Go.Lib

/-- An entry, with the place of its lines. -/
structure Je where
  ref : ByteArray
  ent : Int
  per : Int
  adr : Option Addr
  cap : Nat
  lns : List Ln
def je0 : Je := ⟨ByteArray.empty, 0, 0, none, 0, []⟩
def Je.cells (x : Je) : Array Value := #[.string x.ref, .int .i64 x.ent, .int .i64 x.per, .slice x.adr x.lns.length x.cap]
theorem Je.cells_length (x : Je) : x.cells.toList.length = 4 := rfl
/-- An entry as it lies in memory. -/
structure JeAt (W : World) (b off : Nat) (x : Je) : Prop where
  c0 : W.cell? ⟨b, off, none⟩ = some (.string x.ref)
  c1 : W.cell? ⟨b, off + 1, none⟩ = some (.int .i64 x.ent)
  c2 : W.cell? ⟨b, off + 2, none⟩ = some (.int .i64 x.per)
  c3 : W.cell? ⟨b, off + 3, none⟩ = some (.slice x.adr x.lns.length x.cap)
theorem JeAt.below {W W' : World} {b off n : Nat} {x : Je} (h : JeAt W b off x) (hb : Below n W W') (hlt : b < n) : JeAt W' b off x :=
  ⟨(hb.cell (p := ⟨b, off, none⟩) hlt).trans h.c0, (hb.cell (p := ⟨b, off + 1, none⟩) hlt).trans h.c1, (hb.cell (p := ⟨b, off + 2, none⟩) hlt).trans h.c2, (hb.cell (p := ⟨b, off + 3, none⟩) hlt).trans h.c3⟩
/-- A slice of entries that is read. -/
structure IsJs (W : World) (a : Option Addr) (L : List Je) (cap : Nat) : Prop where
  cap : L.length ≤ cap
  lies : L = [] ∨ ∃ b off, a = some ⟨b, off, none⟩ ∧ b < W.heap.size ∧ ∀ k, k < L.length → JeAt W b (off + k * 4) (L.getD k je0)
  lns : ∀ x ∈ L, IsLn W x.adr x.lns x.cap
theorem IsJs.below {W W' : World} {a : Option Addr} {L : List Je} {cap : Nat} (h : IsJs W a L cap) (hb : Below W.heap.size W W') : IsJs W' a L cap := by
  refine ⟨h.cap, ?_, fun x hx => (h.lns x hx).below hb⟩
  rcases h.lies with h | ⟨b, off, e, hlt, hc⟩
  · exact .inl h
  · exact .inr ⟨b, off, e, by have := hb.size; omega, fun k hk => (hc k hk).below hb hlt⟩
theorem jes_take (l : List Je) (k : Nat) (h : k < l.length) : l.take (k + 1) = l.take k ++ [l.getD k je0] := by
  rw [List.take_add_one, List.getElem?_eq_getElem h, List.getD_eq_getElem?_getD, List.getElem?_eq_getElem h]
  rfl
theorem jes_drop (l : List Je) (k : Nat) (h : k < l.length) : l.drop k = l.getD k je0 :: l.drop (k + 1) := by
  rw [List.drop_eq_getElem_cons h, List.getD_eq_getElem?_getD, List.getElem?_eq_getElem h]
  rfl
theorem jes_mem (l : List Je) (k : Nat) (h : k < l.length) : l.getD k je0 ∈ l := by
  rw [List.getD_eq_getElem?_getD, List.getElem?_eq_getElem h]
  exact List.getElem_mem h

/-- The cells of entries, one behind the other. -/
def jeRow (l : List Je) : List Value := l.flatMap fun x => x.cells.toList
theorem jeRow_length : ∀ l : List Je, (jeRow l).length = l.length * 4
  | [] => rfl
  | x :: l => by
    have := jeRow_length l
    unfold jeRow at *
    simp only [List.flatMap_cons, List.length_append, Je.cells_length, this, List.length_cons]
    omega
theorem jeRow_append (l m : List Je) : jeRow (l ++ m) = jeRow l ++ jeRow m := by simp [jeRow]
theorem jeRow_one (x : Je) : jeRow [x] = x.cells.toList := by simp [jeRow]
theorem jeRow_get : ∀ (l : List Je) (k j : Nat), k < l.length → j < 4 → (jeRow l)[k * 4 + j]? = (l.getD k je0).cells.toList[j]?
  | [], _, _, h, _ => absurd h (by simp)
  | x :: l, 0, j, _, hj => by
    simp only [jeRow, List.flatMap_cons, Nat.zero_mul, Nat.zero_add, List.getD_cons_zero]
    rw [List.getElem?_append_left (by rw [Je.cells_length]; exact hj)]
  | x :: l, k + 1, j, h, hj => by
    have ih := jeRow_get l k j (by simpa using h) hj
    simp only [jeRow, List.flatMap_cons, List.getD_cons_succ] at ih ⊢
    rw [List.getElem?_append_right (by rw [Je.cells_length]; omega), Je.cells_length, ← ih]
    congr 1
    omega
theorem je_one (x : Je) : ∀ u ∈ x.cells.toList, u.oneCell' = true := by
  intro u hu
  simp [Je.cells] at hu
  rcases hu with rfl | rfl | rfl | rfl <;> rfl
/-- Entries in a row of one's own. -/
def JeRow (W : World) (n : Nat) (v : Value) (l : List Je) : Prop := W.ownsRow n 59 4 v l.length (jeRow l)
theorem JeRow.nil (w : World) (n : Nat) : JeRow w n (.slice none 0 0) [] := World.ownsRow_nil _ _ _ _
theorem JeRow.own {w : World} {n : Nat} {v : Value} {xs : List Je} (h : JeRow w n v xs) : ∀ j, v.ownBlock = some j → n ≤ j := fun j ej => by
  rcases h.2 with ⟨rfl, _⟩ | ⟨g, cp, cur, rfl, hg, _⟩
  · cases ej
  · cases ej; exact hg
theorem JeRow.lt {w : World} {n : Nat} {v : Value} {xs : List Je} (h : JeRow w n v xs) : ∀ j, v.ownBlock = some j → j < w.heap.size := fun j ej => by
  rcases h.2 with ⟨rfl, _⟩ | ⟨g, cp, cur, rfl, hg, hh, _⟩
  · cases ej
  · cases ej; exact (Array.getElem?_eq_some_iff.1 hh).1
theorem JeRow.of {w w' : World} {n : Nat} {v : Value} {l : List Je} (h : JeRow w n v l) (hb : ∀ j, v.ownBlock = some j → w'.heap[j]? = w.heap[j]?) : JeRow w' n v l := by
  rcases h.2 with ⟨hv, hn⟩ | ⟨g1, c1, cur, hv, hb1, hh, r⟩
  · exact ⟨h.1, .inl ⟨hv, hn⟩⟩
  · exact ⟨h.1, .inr ⟨g1, c1, cur, hv, hb1, (hb g1 (by rw [hv]; rfl)).trans hh, r⟩⟩
theorem JeRow.below {w w' : World} {n : Nat} {v : Value} {l : List Je} (h : JeRow w n v l) (hb : Below w.heap.size w w') : JeRow w' n v l := h.of fun j ej => hb.block j (h.lt j ej)
theorem JeRow.lies {W : World} {n : Nat} {v : Value} {l : List Je} (h : JeRow W n v l) :
    ∃ a cap, v = .slice a l.length cap ∧ l.length ≤ cap ∧ (l = [] ∨ ∃ b off, a = some ⟨b, off, none⟩ ∧ b < W.heap.size ∧ ∀ k, k < l.length → JeAt W b (off + k * 4) (l.getD k je0)) := by
  obtain ⟨hlen, ⟨rfl, h0⟩ | ⟨g, cap, cur, rfl, hb, hg, hc, hm, hs, ht⟩⟩ := h
  · have : l = [] := List.eq_nil_of_length_eq_zero h0
    subst this
    exact ⟨none, 0, rfl, Nat.le_refl _, .inl rfl⟩
  · refine ⟨_, cap, rfl, hc, .inr ⟨g, 0, rfl, (Array.getElem?_eq_some_iff.1 hg).1, ?_⟩⟩
    intro k hk
    have C : ∀ j, j < 4 → W.cell? ⟨g, 0 + k * 4 + j, none⟩ = (l.getD k je0).cells.toList[j]? := fun j hj => by
      have e1 : (jeRow l)[k * 4 + j]? = cur[k * 4 + j]? := by
        rw [← ht, List.getElem?_take, if_pos (by omega)]
        simp
      rw [← jeRow_get l k j hk hj, e1]
      simp [World.cell?, hg]
    exact ⟨C 0 (by omega), C 1 (by omega), C 2 (by omega), C 3 (by omega)⟩
theorem je_info : (Tryz.prog.info? 59).map (fun i => (i.zero, i.size, i.bytes)) = some (some (.agg #[.string ByteArray.empty, .int .i64 0, .int .i64 0, .slice none 0 0]), 4, 56) := by kernel_rfl

/-- The map of refs. -/
def SMap (W : World) (bm : Nat) (rs : List ByteArray) : Prop := ∃ es c, W.heap[bm]? = some (.map es c) ∧ es.toList.map (·.key) = rs.map Value.string ∧ ∀ e ∈ es.toList, e.val = .agg #[]
theorem skey_ok (w : World) (x : ByteArray) (b : Bool) : (Instr.checkKey b 10000 9 (.string x)).run Tryz.prog w = .ok () w :=
  MapKept.run_checkKey (k := .string x) Tryz.underlying9 (by simp [MapKept.IsKey]) b 9999
theorem sfind_none : ∀ (es : List MapEntry) (rs : List ByteArray) (s : ByteArray) (i : Nat), es.map (·.key) = rs.map Value.string → s ∉ rs → Instr.findNow .string (.string s) es i = some none
  | [], _, _, _, _, _ => rfl
  | e :: es, [], _, _, h, _ => by simp at h
  | e :: es, r :: rs, s, i, h, hs => by
    simp only [List.map_cons, List.cons.injEq] at h
    simp only [List.mem_cons, not_or] at hs
    unfold Instr.findNow
    have hne : (s == r) = false := by cases hq : (s == r) with | false => rfl | true => exact absurd ((MapKept.bytes_beq s r).1 hq) hs.1
    simp only [h.1, Instr.sameNow, hne]
    exact sfind_none es rs s (i + 1) h.2 hs.2
theorem sfind_some : ∀ (es : List MapEntry) (rs : List ByteArray) (s : ByteArray) (i : Nat), es.map (·.key) = rs.map Value.string → (∀ e ∈ es, e.val = .agg #[]) → s ∈ rs → ∃ j, Instr.findNow .string (.string s) es i = some (some (j, .agg #[]))
  | [], rs, s, _, h, _, hs => by
    have : rs = [] := by simpa using h.symm
    rw [this] at hs; simp at hs
  | e :: es, [], _, _, h, _, _ => by simp at h
  | e :: es, r :: rs, s, i, h, hv, hs => by
    simp only [List.map_cons, List.cons.injEq] at h
    unfold Instr.findNow
    by_cases hq : s = r
    · subst hq
      simp only [h.1, Instr.sameNow, (MapKept.bytes_beq s s).2 rfl]
      exact ⟨i, by rw [hv e (by simp)]⟩
    · have hne : (s == r) = false := by cases hq' : (s == r) with | false => rfl | true => exact absurd ((MapKept.bytes_beq s r).1 hq') hq
      simp only [h.1, Instr.sameNow, hne]
      exact sfind_some es rs s (i + 1) h.2 (fun x hx => hv x (by simp [hx])) (by rcases List.mem_cons.1 hs with e | e; exact absurd e hq; exact e)
/-- Is a text one of some? -/
def isInR (rs : List ByteArray) (s : ByteArray) : Bool := rs.any fun r => r == s
theorem isInR_iff {rs : List ByteArray} {s : ByteArray} : isInR rs s = true ↔ s ∈ rs := by
  unfold isInR
  rw [List.any_eq_true]
  constructor
  · rintro ⟨x, hx, he⟩
    rw [(MapKept.bytes_beq x s).1 he] at hx
    exact hx
  · intro h
    exact ⟨s, h, (MapKept.bytes_beq s s).2 rfl⟩
theorem isInR_not {rs : List ByteArray} {s : ByteArray} : isInR rs s = false ↔ s ∉ rs := by
  rw [← isInR_iff]
  simp
theorem SMap.of {W W' : World} {bm : Nat} {rs : List ByteArray} (h : SMap W bm rs) (hb : W'.heap[bm]? = W.heap[bm]?) : SMap W' bm rs := by
  obtain ⟨es, c, h1, h2⟩ := h
  exact ⟨es, c, hb.trans h1, h2⟩
end Go.Proofs.YtiolkeipgpkbmaaGreatDoor

namespace Go.Proofs.YtiolkeipgpkbmaaGreatDoor
set_option linter.unusedVariables false
set_option linter.unusedSimpArgs false
set_option maxRecDepth 100000
open Go.RowKit Go.Lib
/-- A balance. -/
structure Bl where
  ent : Int
  acc : ByteArray
  cur : ByteArray
  amt : Int
def Bl.cells (x : Bl) : Array Value := #[.int .i64 x.ent, .string x.acc, .string x.cur, .int .i64 x.amt]
def bl0 : Bl := ⟨0, ByteArray.empty, ByteArray.empty, 0⟩
/-- Two numbers held against each other. -/
def cmpI (a b : Int) : Int := if a < b then -1 else if b < a then 1 else 0
/-- Two balances held against each other. -/
def cmpB (a b : Bl) : Int := if cmpI a.ent b.ent ≠ 0 then cmpI a.ent b.ent else if cmpS a.acc b.acc ≠ 0 then cmpS a.acc b.acc else cmpS a.cur b.cur
structure BlAt (w : World) (b off : Nat) (x : Bl) : Prop where
  c0 : w.cell? ⟨b, off, none⟩ = some (.int .i64 x.ent)
  c1 : w.cell? ⟨b, off + 1, none⟩ = some (.string x.acc)
  c2 : w.cell? ⟨b, off + 2, none⟩ = some (.string x.cur)
  c3 : w.cell? ⟨b, off + 3, none⟩ = some (.int .i64 x.amt)

theorem BlAt.below {w w' : World} {b off n : Nat} {a : Bl} (h : BlAt w b off a) (hb : Below n w w') (hn : b < n) : BlAt w' b off a :=
  ⟨(hb.cell (p := ⟨b, off, none⟩) hn).trans h.c0, (hb.cell (p := ⟨b, off + 1, none⟩) hn).trans h.c1, (hb.cell (p := ⟨b, off + 2, none⟩) hn).trans h.c2, (hb.cell (p := ⟨b, off + 3, none⟩) hn).trans h.c3⟩
theorem BlAt.new (w : World) (a : Bl) (t : TypeId) : BlAt (w.alloc (.cells a.cells t)) w.heap.size 0 a :=
  ⟨by simp [Bl.cells], by simp [Bl.cells], by simp [Bl.cells], by simp [Bl.cells]⟩

/-- Balances in memory. -/
def BlsAt (w : World) (b off : Nat) (l : List Bl) : Prop := ∀ k, k < l.length → BlAt w b (off + k * 4) (l.getD k bl0)

/-- A slice of balances. -/
structure IsBl (w : World) (a : Option Addr) (l : List Bl) (cap : Nat) : Prop where
  cap : l.length ≤ cap
  lies : l = [] ∨ ∃ b off, a = some ⟨b, off, none⟩ ∧ b < w.heap.size ∧ BlsAt w b off l

theorem IsBl.below {w w' : World} {a : Option Addr} {l : List Bl} {cap : Nat} (h : IsBl w a l cap) (hb : Below w.heap.size w w') : IsBl w' a l cap := by
  refine ⟨h.cap, ?_⟩
  rcases h.lies with h | ⟨b, off, e, hlt, hc⟩
  · exact .inl h
  · exact .inr ⟨b, off, e, by have := hb.size; omega, fun k hk => (hc k hk).below hb hlt⟩

theorem bls_drop (l : List Bl) (k : Nat) (h : k < l.length) : l.drop k = l.getD k bl0 :: l.drop (k + 1) := by
  rw [List.drop_eq_getElem_cons h, List.getD_eq_getElem?_getD, List.getElem?_eq_getElem h]
  rfl
theorem bls_take (l : List Bl) (k : Nat) (h : k < l.length) : l.take (k + 1) = l.take k ++ [l.getD k bl0] := by
  rw [List.take_add_one, List.getElem?_eq_getElem h, List.getD_eq_getElem?_getD, List.getElem?_eq_getElem h]
  rfl
theorem bls_mem (l : List Bl) (k : Nat) (h : k < l.length) : l.getD k bl0 ∈ l := by
  rw [List.getD_eq_getElem?_getD, List.getElem?_eq_getElem h]
  exact List.getElem_mem h

/-- The cells of balances, one behind the other. -/
def blRow (l : List Bl) : List Value := l.flatMap fun x => x.cells.toList
theorem Bl.cells_length (x : Bl) : x.cells.toList.length = 4 := rfl
theorem blRow_length : ∀ l : List Bl, (blRow l).length = l.length * 4
  | [] => rfl
  | x :: l => by
    have := blRow_length l
    unfold blRow at *
    simp only [List.flatMap_cons, List.length_append, Bl.cells_length, this, List.length_cons]
    omega
theorem blRow_append (l m : List Bl) : blRow (l ++ m) = blRow l ++ blRow m := by simp [blRow]
theorem blRow_one (x : Bl) : blRow [x] = x.cells.toList := by simp [blRow]
theorem blRow_get : ∀ (l : List Bl) (k j : Nat), k < l.length → j < 4 → (blRow l)[k * 4 + j]? = (l.getD k bl0).cells.toList[j]?
  | [], _, _, h, _ => absurd h (by simp)
  | x :: l, 0, j, _, hj => by
    simp only [blRow, List.flatMap_cons, Nat.zero_mul, Nat.zero_add, List.getD_cons_zero]
    rw [List.getElem?_append_left (by rw [Bl.cells_length]; exact hj)]
  | x :: l, k + 1, j, h, hj => by
    have ih := blRow_get l k j (by simpa using h) hj
    simp only [blRow, List.flatMap_cons, List.getD_cons_succ] at ih ⊢
    rw [List.getElem?_append_right (by rw [Bl.cells_length]; omega), Bl.cells_length, ← ih]
    congr 1
    omega
theorem blRow_one_cell (l : List Bl) : ∀ u ∈ blRow l, u.oneCell' = true := by
  intro u hu
  simp only [blRow, List.mem_flatMap] at hu
  obtain ⟨x, _, hx⟩ := hu
  simp [Bl.cells] at hx
  rcases hx with rfl | rfl | rfl | rfl <;> rfl
theorem blRow_take (l : List Bl) (k : Nat) : blRow (l.take k) = (blRow l).take (k * 4) := by
  have h := blRow_append (l.take k) (l.drop k)
  rw [List.take_append_drop] at h
  rw [h]
  by_cases hk : k ≤ l.length
  · have : (blRow (l.take k)).length = k * 4 := by rw [blRow_length, List.length_take, Nat.min_eq_left hk]
    rw [← this, List.take_left]
  · rw [List.take_of_length_le (by omega), List.drop_eq_nil_of_le (by omega)]
    rw [List.take_of_length_le]
    · show blRow l = blRow l ++ []
      simp
    · show (blRow l ++ []).length ≤ _
      rw [List.append_nil, blRow_length]
      omega
theorem blRow_drop (l : List Bl) (k : Nat) : blRow (l.drop k) = (blRow l).drop (k * 4) := by
  have h := blRow_append (l.take k) (l.drop k)
  rw [List.take_append_drop] at h
  have h2 := blRow_take l k
  have h3 : blRow l = (blRow l).take (k * 4) ++ (blRow l).drop (k * 4) := (List.take_append_drop _ _).symm
  rw [← h2] at h3
  rw [h] at h3
  have := List.append_cancel_left h3
  rw [this]
  rw [h]

/-- Balances in a row of one's own. -/
def BlRow (w : World) (n : Nat) (v : Value) (l : List Bl) : Prop := w.ownsRow n 93 4 v l.length (blRow l)

theorem BlRow.nil (w : World) (n : Nat) : BlRow w n (.slice none 0 0) [] := World.ownsRow_nil _ _ _ _
theorem BlRow.isBl {W : World} {n0 : Nat} {v : Value} {l : List Bl} (h : BlRow W n0 v l) :
    ∃ a cap, v = .slice a l.length cap ∧ IsBl W a l cap := by
  obtain ⟨hlen, ⟨rfl, h0⟩ | ⟨g, cap, cur, rfl, hb, hg, hc, hm, hs, ht⟩⟩ := h
  · have : l = [] := List.eq_nil_of_length_eq_zero h0
    subst this
    exact ⟨none, 0, rfl, Nat.le_refl _, .inl rfl⟩
  · refine ⟨_, cap, rfl, hc, .inr ⟨g, 0, rfl, (Array.getElem?_eq_some_iff.1 hg).1, ?_⟩⟩
    intro k hk
    have C : ∀ j, j < 4 → W.cell? ⟨g, 0 + k * 4 + j, none⟩ = (l.getD k bl0).cells.toList[j]? := fun j hj => by
      have e1 : (blRow l)[k * 4 + j]? = cur[k * 4 + j]? := by
        rw [← ht, List.getElem?_take, if_pos (by omega)]
        simp
      rw [← blRow_get l k j hk hj, e1]
      simp [World.cell?, hg]
    exact ⟨C 0 (by omega), C 1 (by omega), C 2 (by omega), C 3 (by omega)⟩
theorem BlRow.below {w w' : World} {n : Nat} {v : Value} {l : List Bl} (h : BlRow w n v l) (hb : Below w.heap.size w w') : BlRow w' n v l := by
  rcases h.2 with ⟨hv, hn⟩ | ⟨g1, c1, cur, hv, hb1, hh, r⟩
  · exact ⟨h.1, .inl ⟨hv, hn⟩⟩
  · exact ⟨h.1, .inr ⟨g1, c1, cur, hv, hb1, (hb.block g1 (Array.getElem?_eq_some_iff.1 hh).1).trans hh, r⟩⟩
theorem BlRow.mono {w : World} {n m : Nat} {v : Value} {l : List Bl} (h : BlRow w n v l) (hm : m ≤ n) : BlRow w m v l := by
  rcases h.2 with ⟨hv, hn⟩ | ⟨g1, c1, cur, hv, hb1, r⟩
  · exact ⟨h.1, .inl ⟨hv, hn⟩⟩
  · exact ⟨h.1, .inr ⟨g1, c1, cur, hv, by omega, r⟩⟩
theorem BlRow.own {w : World} {n : Nat} {v : Value} {xs : List Bl} (h : BlRow w n v xs) : ∀ j, v.ownBlock = some j → n ≤ j := fun j ej => by
  rcases h.2 with ⟨rfl, _⟩ | ⟨g1, c1, cur, rfl, hg1, _⟩
  · cases ej
  · cases ej; exact hg1


theorem isBl_nil (W : World) : IsBl W none [] 0 := ⟨Nat.le_refl _, .inl rfl⟩
theorem BlRow.isBl' {W : World} {n0 : Nat} {a : Option Addr} {m cap : Nat} {l : List Bl} (h : BlRow W n0 (.slice a m cap) l) : m = l.length ∧ IsBl W a l cap := by
  obtain ⟨a', c', e, hs⟩ := h.isBl
  cases e
  exact ⟨rfl, hs⟩

theorem bl_info : (Tryz.prog.info? 93).map (fun i => (i.zero, i.size, i.bytes)) = some (some (.agg #[.int .i64 0, .string ByteArray.empty, .string ByteArray.empty, .int .i64 0]), 4, 48) := by kernel_rfl
def I64B (x : Bl) : Prop := (-9223372036854775808 ≤ x.ent ∧ x.ent ≤ 9223372036854775807) ∧ (-9223372036854775808 ≤ x.amt ∧ x.amt ≤ 9223372036854775807)
end Go.Proofs.YtiolkeipgpkbmaaGreatDoor
