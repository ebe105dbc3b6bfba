/-
  A journal in memory: its entries, and the map of their refs.
-/
import Derived.Test.YtffekgndlhleiaaDoorEnNb
import Derived.MapKept
import Derived.Deep.AppendLies
namespace Go.Proofs.YtffekgndlhleiaaDoor
set_option linter.unusedVariables false
set_option linter.unusedSimpArgs false
set_option maxRecDepth 100000
open Go.RowKit Go.Lib

/-- An entry, with the place of its lines. -/
structure Je where
  ref : ByteArray
  ent : Int
  per : Int
  adr : Option Addr
  cap : Nat
  lns : List Ln
def je0 : Je := ⟨ByteArray.empty, 0, 0, none, 0, []⟩
def Je.cells (x : Je) : Array Value := #[.string x.ref, .int .i64 x.ent, .int .i64 x.per, .slice x.adr x.lns.length x.cap]
theorem Je.cells_length (x : Je) : x.cells.toList.length = 4 := rfl
/-- An entry as it lies in memory. -/
structure JeAt (W : World) (b off : Nat) (x : Je) : Prop where
  c0 : W.cell? ⟨b, off, none⟩ = some (.string x.ref)
  c1 : W.cell? ⟨b, off + 1, none⟩ = some (.int .i64 x.ent)
  c2 : W.cell? ⟨b, off + 2, none⟩ = some (.int .i64 x.per)
  c3 : W.cell? ⟨b, off + 3, none⟩ = some (.slice x.adr x.lns.length x.cap)
theorem JeAt.below {W W' : World} {b off n : Nat} {x : Je} (h : JeAt W b off x) (hb : Below n W W') (hlt : b < n) : JeAt W' b off x :=
  ⟨(hb.cell (p := ⟨b, off, none⟩) hlt).trans h.c0, (hb.cell (p := ⟨b, off + 1, none⟩) hlt).trans h.c1, (hb.cell (p := ⟨b, off + 2, none⟩) hlt).trans h.c2, (hb.cell (p := ⟨b, off + 3, none⟩) hlt).trans h.c3⟩
/-- A slice of entries that is read. -/
structure IsJs (W : World) (a : Option Addr) (L : List Je) (cap : Nat) : Prop where
  cap : L.length ≤ cap
  lies : L = [] ∨ ∃ b off, a = some ⟨b, off, none⟩ ∧ b < W.heap.size ∧ ∀ k, k < L.length → JeAt W b (off + k * 4) (L.getD k je0)
  lns : ∀ x ∈ L, IsLn W x.adr x.lns x.cap
theorem IsJs.below {W W' : World} {a : Option Addr} {L : List Je} {cap : Nat} (h : IsJs W a L cap) (hb : Below W.heap.size W W') : IsJs W' a L cap := by
  refine ⟨h.cap, ?_, fun x hx => (h.lns x hx).below hb⟩
  rcases h.lies with h | ⟨b, off, e, hlt, hc⟩
  · exact .inl h
  · exact .inr ⟨b, off, e, by have := hb.size; omega, fun k hk => (hc k hk).below hb hlt⟩
theorem jes_take (l : List Je) (k : Nat) (h : k < l.length) : l.take (k + 1) = l.take k ++ [l.getD k je0] := by
  rw [List.take_add_one, List.getElem?_eq_getElem h, List.getD_eq_getElem?_getD, List.getElem?_eq_getElem h]
  rfl
theorem jes_drop (l : List Je) (k : Nat) (h : k < l.length) : l.drop k = l.getD k je0 :: l.drop (k + 1) := by
  rw [List.drop_eq_getElem_cons h, List.getD_eq_getElem?_getD, List.getElem?_eq_getElem h]
  rfl
theorem jes_mem (l : List Je) (k : Nat) (h : k < l.length) : l.getD k je0 ∈ l := by
  rw [List.getD_eq_getElem?_getD, List.getElem?_eq_getElem h]
  exact List.getElem_mem h

/-- The cells of entries, one behind the other. -/
def jeRow (l : List Je) : List Value := l.flatMap fun x => x.cells.toList
theorem jeRow_length : ∀ l : List Je, (jeRow l).length = l.length * 4
  | [] => rfl
  | x :: l => by
    have := jeRow_length l
    unfold jeRow at *
    simp only [List.flatMap_cons, List.length_append, Je.cells_length, this, List.length_cons]
    omega
theorem jeRow_append (l m : List Je) : jeRow (l ++ m) = jeRow l ++ jeRow m := by simp [jeRow]
theorem jeRow_one (x : Je) : jeRow [x] = x.cells.toList := by simp [jeRow]
theorem jeRow_get : ∀ (l : List Je) (k j : Nat), k < l.length → j < 4 → (jeRow l)[k * 4 + j]? = (l.getD k je0).cells.toList[j]?
  | [], _, _, h, _ => absurd h (by simp)
  | x :: l, 0, j, _, hj => by
    simp only [jeRow, List.flatMap_cons, Nat.zero_mul, Nat.zero_add, List.getD_cons_zero]
    rw [List.getElem?_append_left (by rw [Je.cells_length]; exact hj)]
  | x :: l, k + 1, j, h, hj => by
    have ih := jeRow_get l k j (by simpa using h) hj
    simp only [jeRow, List.flatMap_cons, List.getD_cons_succ] at ih ⊢
    rw [List.getElem?_append_right (by rw [Je.cells_length]; omega), Je.cells_length, ← ih]
    congr 1
    omega
theorem je_one (x : Je) : ∀ u ∈ x.cells.toList, u.oneCell' = true := by
  intro u hu
  simp [Je.cells] at hu
  rcases hu with rfl | rfl | rfl | rfl <;> rfl
/-- Entries in a row of one's own. -/
def JeRow (W : World) (n : Nat) (v : Value) (l : List Je) : Prop := W.ownsRow n 33 4 v l.length (jeRow l)
theorem JeRow.nil (w : World) (n : Nat) : JeRow w n (.slice none 0 0) [] := World.ownsRow_nil _ _ _ _
theorem JeRow.own {w : World} {n : Nat} {v : Value} {xs : List Je} (h : JeRow w n v xs) : ∀ j, v.ownBlock = some j → n ≤ j := fun j ej => by
  rcases h.2 with ⟨rfl, _⟩ | ⟨g, cp, cur, rfl, hg, _⟩
  · cases ej
  · cases ej; exact hg
theorem JeRow.lt {w : World} {n : Nat} {v : Value} {xs : List Je} (h : JeRow w n v xs) : ∀ j, v.ownBlock = some j → j < w.heap.size := fun j ej => by
  rcases h.2 with ⟨rfl, _⟩ | ⟨g, cp, cur, rfl, hg, hh, _⟩
  · cases ej
  · cases ej; exact (Array.getElem?_eq_some_iff.1 hh).1
theorem JeRow.of {w w' : World} {n : Nat} {v : Value} {l : List Je} (h : JeRow w n v l) (hb : ∀ j, v.ownBlock = some j → w'.heap[j]? = w.heap[j]?) : JeRow w' n v l := by
  rcases h.2 with ⟨hv, hn⟩ | ⟨g1, c1, cur, hv, hb1, hh, r⟩
  · exact ⟨h.1, .inl ⟨hv, hn⟩⟩
  · exact ⟨h.1, .inr ⟨g1, c1, cur, hv, hb1, (hb g1 (by rw [hv]; rfl)).trans hh, r⟩⟩
theorem JeRow.below {w w' : World} {n : Nat} {v : Value} {l : List Je} (h : JeRow w n v l) (hb : Below w.heap.size w w') : JeRow w' n v l := h.of fun j ej => hb.block j (h.lt j ej)
theorem JeRow.lies {W : World} {n : Nat} {v : Value} {l : List Je} (h : JeRow W n v l) :
    ∃ a cap, v = .slice a l.length cap ∧ l.length ≤ cap ∧ (l = [] ∨ ∃ b off, a = some ⟨b, off, none⟩ ∧ b < W.heap.size ∧ ∀ k, k < l.length → JeAt W b (off + k * 4) (l.getD k je0)) := by
  obtain ⟨hlen, ⟨rfl, h0⟩ | ⟨g, cap, cur, rfl, hb, hg, hc, hm, hs, ht⟩⟩ := h
  · have : l = [] := List.eq_nil_of_length_eq_zero h0
    subst this
    exact ⟨none, 0, rfl, Nat.le_refl _, .inl rfl⟩
  · refine ⟨_, cap, rfl, hc, .inr ⟨g, 0, rfl, (Array.getElem?_eq_some_iff.1 hg).1, ?_⟩⟩
    intro k hk
    have C : ∀ j, j < 4 → W.cell? ⟨g, 0 + k * 4 + j, none⟩ = (l.getD k je0).cells.toList[j]? := fun j hj => by
      have e1 : (jeRow l)[k * 4 + j]? = cur[k * 4 + j]? := by
        rw [← ht, List.getElem?_take, if_pos (by omega)]
        simp
      rw [← jeRow_get l k j hk hj, e1]
      simp [World.cell?, hg]
    exact ⟨C 0 (by omega), C 1 (by omega), C 2 (by omega), C 3 (by omega)⟩
theorem je_info : (Tryd.prog.info? 33).map (fun i => (i.zero, i.size, i.bytes)) = some (some (.agg #[.string ByteArray.empty, .int .i64 0, .int .i64 0, .slice none 0 0]), 4, 56) := by kernel_rfl

/-- The map of refs. -/
def SMap (W : World) (bm : Nat) (rs : List ByteArray) : Prop := ∃ es c, W.heap[bm]? = some (.map es c) ∧ es.toList.map (·.key) = rs.map Value.string ∧ ∀ e ∈ es.toList, e.val = .agg #[]
theorem skey_ok (w : World) (x : ByteArray) (b : Bool) : (Instr.checkKey b 10000 9 (.string x)).run Tryd.prog w = .ok () w :=
  MapKept.run_checkKey (k := .string x) Tryd.underlying9 (by simp [MapKept.IsKey]) b 9999
theorem sfind_none : ∀ (es : List MapEntry) (rs : List ByteArray) (s : ByteArray) (i : Nat), es.map (·.key) = rs.map Value.string → s ∉ rs → Instr.findNow .string (.string s) es i = some none
  | [], _, _, _, _, _ => rfl
  | e :: es, [], _, _, h, _ => by simp at h
  | e :: es, r :: rs, s, i, h, hs => by
    simp only [List.map_cons, List.cons.injEq] at h
    simp only [List.mem_cons, not_or] at hs
    unfold Instr.findNow
    have hne : (s == r) = false := by cases hq : (s == r) with | false => rfl | true => exact absurd ((MapKept.bytes_beq s r).1 hq) hs.1
    simp only [h.1, Instr.sameNow, hne]
    exact sfind_none es rs s (i + 1) h.2 hs.2
theorem sfind_some : ∀ (es : List MapEntry) (rs : List ByteArray) (s : ByteArray) (i : Nat), es.map (·.key) = rs.map Value.string → (∀ e ∈ es, e.val = .agg #[]) → s ∈ rs → ∃ j, Instr.findNow .string (.string s) es i = some (some (j, .agg #[]))
  | [], rs, s, _, h, _, hs => by
    have : rs = [] := by simpa using h.symm
    rw [this] at hs; simp at hs
  | e :: es, [], _, _, h, _, _ => by simp at h
  | e :: es, r :: rs, s, i, h, hv, hs => by
    simp only [List.map_cons, List.cons.injEq] at h
    unfold Instr.findNow
    by_cases hq : s = r
    · subst hq
      simp only [h.1, Instr.sameNow, (MapKept.bytes_beq s s).2 rfl]
      exact ⟨i, by rw [hv e (by simp)]⟩
    · have hne : (s == r) = false := by cases hq' : (s == r) with | false => rfl | true => exact absurd ((MapKept.bytes_beq s r).1 hq') hq
      simp only [h.1, Instr.sameNow, hne]
      exact sfind_some es rs s (i + 1) h.2 (fun x hx => hv x (by simp [hx])) (by rcases List.mem_cons.1 hs with e | e; exact absurd e hq; exact e)
/-- Is a text one of some? -/
def isInR (rs : List ByteArray) (s : ByteArray) : Bool := rs.any fun r => r == s
theorem isInR_iff {rs : List ByteArray} {s : ByteArray} : isInR rs s = true ↔ s ∈ rs := by
  unfold isInR
  rw [List.any_eq_true]
  constructor
  · rintro ⟨x, hx, he⟩
    rw [(MapKept.bytes_beq x s).1 he] at hx
    exact hx
  · intro h
    exact ⟨s, h, (MapKept.bytes_beq s s).2 rfl⟩
theorem isInR_not {rs : List ByteArray} {s : ByteArray} : isInR rs s = false ↔ s ∉ rs := by
  rw [← isInR_iff]
  simp
theorem unit_zero (w : World) : (zeroValue 53).run Tryd.prog w = .ok (.agg #[]) w := by kernel_rfl
theorem run_slook {W : World} {bm : Nat} {rs : List ByteArray} (h : SMap W bm rs) (s : ByteArray) : (Instr.lookup 47 (.map (some bm)) (.string s) true).run Tryd.prog W = .ok (.tuple #[.agg #[], .bool (isInR rs s)]) W := by
  obtain ⟨es, c, h1, h2, hv⟩ := h
  by_cases hs : s ∈ rs
  · have hq := isInR_iff.2 hs
    obtain ⟨j, f⟩ := sfind_some es.toList rs s 0 h2 hv hs
    simp [Instr.lookup, run_underlying Tryd.underlying47, MapKept.run_getObj_map h1, skey_ok, MapKept.run_findKey Tryd.underlying9 f, Result.andThen, hq]
  · have hq := isInR_not.2 hs
    have f := sfind_none es.toList rs s 0 h2 hs
    simp [Instr.lookup, run_underlying Tryd.underlying47, MapKept.run_getObj_map h1, skey_ok, MapKept.run_findKey Tryd.underlying9 f, unit_zero, Result.andThen, hq]
theorem run_sput {W : World} {bm : Nat} {rs : List ByteArray} (h : SMap W bm rs) (s : ByteArray) (hs : s ∉ rs) :
    ∃ W', (Instr.mapUpdate 47 (.map (some bm)) (.string s) (.agg #[])).run Tryd.prog W = .ok () W' ∧ SMap W' bm (rs ++ [s]) ∧ W'.os = W.os ∧ W'.tape = W.tape ∧ W'.output = W.output ∧ W'.heap.size = W.heap.size ∧ ∀ b, b ≠ bm → W'.heap[b]? = W.heap[b]? := by
  obtain ⟨es, c, h1, h2, hv⟩ := h
  have hlt : bm < W.heap.size := (Array.getElem?_eq_some_iff.1 h1).1
  have f := sfind_none es.toList rs s 0 h2 hs
  refine ⟨{ W with heap := W.heap.setIfInBounds bm (.map (es.push ⟨.string s, .agg #[], c⟩) (c + 1)) }, ?_, ⟨es.push ⟨.string s, .agg #[], c⟩, c + 1, by simp [hlt], ?_, ?_⟩, rfl, rfl, rfl, by simp, fun b hb => Array.getElem?_setIfInBounds_ne (fun e => hb e.symm)⟩
  · simp [Instr.mapUpdate, run_underlying Tryd.underlying47, MapKept.run_getObj_map h1, skey_ok, MapKept.run_findKey Tryd.underlying9 f, MapKept.run_setObj_map _ h1, Result.andThen]
  · simp [h2]
  · intro e he
    simp only [Array.toList_push, List.mem_append, List.mem_singleton] at he
    rcases he with he | rfl
    · exact hv e he
    · rfl

/-- A journal. -/
structure JAt (W : World) (n0 bj bm : Nat) (v : Value) (es : List Je) : Prop where
  box : W.heap[bj]? = some (.cells #[v, .map (some bm)] 49 (0, 0))
  map : SMap W bm (es.map (·.ref))
  row : JeRow W n0 v es
  lns : ∀ x ∈ es, LnRow W n0 (.slice x.adr x.lns.length x.cap) x.lns
  hj : n0 ≤ bj
  hm : n0 ≤ bm
theorem JAt.c0 {W : World} {n0 bj bm : Nat} {v : Value} {es : List Je} (h : JAt W n0 bj bm v es) : W.cell? ⟨bj, 0, none⟩ = some v := by simp [World.cell?, h.box]
theorem JAt.c1 {W : World} {n0 bj bm : Nat} {v : Value} {es : List Je} (h : JAt W n0 bj bm v es) : W.cell? ⟨bj, 1, none⟩ = some (.map (some bm)) := by simp [World.cell?, h.box]
theorem JAt.fz {W : World} {n0 bj bm : Nat} {v : Value} {es : List Je} (h : JAt W n0 bj bm v es) (i : Nat) : W.frozen? ⟨bj, i, none⟩ = false := by simp [World.frozen?, h.box]
theorem JAt.ltj {W : World} {n0 bj bm : Nat} {v : Value} {es : List Je} (h : JAt W n0 bj bm v es) : bj < W.heap.size := (Array.getElem?_eq_some_iff.1 h.box).1
theorem JAt.ltm {W : World} {n0 bj bm : Nat} {v : Value} {es : List Je} (h : JAt W n0 bj bm v es) : bm < W.heap.size := by
  obtain ⟨_, _, h1, _, _⟩ := h.map
  exact (Array.getElem?_eq_some_iff.1 h1).1
theorem SMap.of {W W' : World} {bm : Nat} {rs : List ByteArray} (h : SMap W bm rs) (hb : W'.heap[bm]? = W.heap[bm]?) : SMap W' bm rs := by
  obtain ⟨es, c, h1, h2⟩ := h
  exact ⟨es, c, hb.trans h1, h2⟩
theorem JAt.below {W W' : World} {n0 bj bm : Nat} {v : Value} {es : List Je} (h : JAt W n0 bj bm v es) (hb : Below W.heap.size W W') : JAt W' n0 bj bm v es :=
  ⟨(hb.block bj h.ltj).trans h.box, h.map.of (hb.block bm h.ltm), h.row.below hb, fun x hx => (h.lns x hx).below hb, h.hj, h.hm⟩
end Go.Proofs.YtffekgndlhleiaaDoor
