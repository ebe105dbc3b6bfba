/-
  A store in memory: its head, what is pending, what a call keeps.
-/
import Derived.Test.YtidccclfngcpgaaBkK0
import Derived.Carry
import Derived.MapKept
namespace Go.Proofs.Ytidccclfngcpgaa
set_option linter.unusedVariables false
set_option linter.unusedSimpArgs false
set_option maxRecDepth 100000
open Go.RowKit Go.Lib

/-- A head. -/
structure Hd where
  blk : Nat
  turn : UInt8
  ver : Nat
  whr : List UInt8
def hd0 : Hd := ⟨0, 0, 0, List.replicate 40 0⟩
structure Hd.ok (h : Hd) : Prop where
  b : h.blk ≤ 1
  v : h.ver ≤ 1000000
  w : h.whr.length = 40
theorem hd0_ok : hd0.ok := ⟨by decide, by decide, by decide⟩
def Hd.cells (h : Hd) : List Value := .int .i64 (h.blk : Int) :: .int .u8 (h.turn.toNat : Int) :: .int .i64 (h.ver : Int) :: byC h.whr
theorem Hd.cells_length {h : Hd} (k : h.ok) : h.cells.length = 43 := by simp [Hd.cells, byC_length, k.w]
theorem Hd.cells_one (h : Hd) : ∀ u ∈ h.cells, u.oneCell' = true := by
  intro u hu
  simp only [Hd.cells, List.mem_cons] at hu
  rcases hu with rfl | rfl | rfl | hu
  · rfl
  · rfl
  · rfl
  · exact byC_one _ u hu
theorem head_size : (Try.prog.info? 50).map (·.size) = some 43 := by kernel_rfl
theorem head_zero : (Try.prog.info? 50).map (·.zero) = some (some (.agg hd0.cells.toArray)) := by kernel_rfl
theorem alloc_head (w : World) : (Instr.alloc 50 true (.tuple #[])).run Try.prog w = .ok (.pointer (some ⟨w.heap.size, 0, none⟩)) (w.alloc (.cells hd0.cells.toArray 50)) := by
  cases hq : Try.prog.info? 50 with
  | none => have := head_zero; simp [hq] at this
  | some q =>
    have hz : q.zero = some (.agg hd0.cells.toArray) := by have := head_zero; simpa [hq] using this
    simp [Instr.alloc, zeroValue, typeInfo, hq, hz, newVar, newRow, Value.cells]
theorem build_head (i : Nat) (t : UInt8) (w : World) : (Instr.build 50 #[(0, .int .i64 (i : Int)), (1, .int .u8 (t.toNat : Int))]).run Try.prog w = .ok (.agg (Hd.mk i t 0 (List.replicate 40 0)).cells.toArray) w := by
  refine run_build w 50 _ _ ?_
  kernel_rfl
theorem build_head0 (w : World) : (Instr.build 50 #[]).run Try.prog w = .ok (.agg hd0.cells.toArray) w := by
  refine run_build w 50 _ _ ?_
  kernel_rfl
/-- A head's cells, in a row, from a place on. -/
theorem load_head {u : World} {B o : Nat} {h : Hd} (k : h.ok) (hr : u.rangeAt B o h.cells) : (Instr.loadAt 50 (.pointer (some ⟨B, o, none⟩))).run Try.prog u = .ok (.agg h.cells.toArray) u :=
  run_loadAt_mid u B o 50 _ _ hr Try.underlying50 rfl (by rw [Hd.cells_length k]; exact head_size)
theorem range0 {u : World} {B : Nat} {l : List Value} {t : TypeId} (h : u.heap[B]? = some (.cells l.toArray t (0, 0))) : u.rangeAt B 0 l := by
  intro j v hv
  rw [cell_of_row u B _ _ t (0, 0) h]
  simpa using hv
theorem store_head {u : World} {B o : Nat} {h : Hd} (k : h.ok) {cs : List Value} {t : TypeId} (hb : u.heap[B]? = some (.cells cs.toArray t (0, 0))) (hs : o + 43 ≤ cs.length) :
    (Instr.storeAt 50 (.pointer (some ⟨B, o, none⟩)) (.agg h.cells.toArray)).run Try.prog u = .ok () (u.setRow B (cs.take o ++ h.cells ++ cs.drop (o + 43)).toArray) := by
  have := run_storeCells_at Try.prog B o t h.cells 0 cs.toArray u hb (by rw [Hd.cells_length k, List.size_toArray]; omega) h.cells_one
  rw [Nat.add_zero, Hd.cells_length k] at this
  cases hq : Try.prog.info? 50 with
  | none => have := head_size; simp [hq] at this
  | some q =>
    have hs : q.size = 43 := by have := head_size; simpa [hq] using this
    simp [Instr.storeAt, Instr.sureAddr, storeVar, sizeOf, typeInfo, hq, Value.cells, hs, Hd.cells_length k, this]

/-- What calls of a store may turn: rows of these types, and maps. -/
structure KeepC (lo : Nat) (T : List TypeId) (V W : World) : Prop where
  os : W.os = V.os
  tape : W.tape = V.tape
  output : W.output = V.output
  size : V.heap.size ≤ W.heap.size
  block : ∀ b, b < V.heap.size → (b < lo ∨ ∃ cs t fr, V.heap[b]? = some (.cells cs t fr) ∧ t ∉ T) → W.heap[b]? = V.heap[b]?
section
variable {lo : Nat} {T : List TypeId} {U V W : World}
theorem KeepC.refl (lo : Nat) (T : List TypeId) (V : World) : KeepC lo T V V := ⟨rfl, rfl, rfl, Nat.le_refl _, fun _ _ _ => rfl⟩
theorem KeepC.trans (h : KeepC lo T U V) (k : KeepC lo T V W) : KeepC lo T U W :=
  ⟨k.os.trans h.os, k.tape.trans h.tape, k.output.trans h.output, Nat.le_trans h.size k.size, fun b hb hc => by
    have e := h.block b hb hc
    refine (k.block b (Nat.lt_of_lt_of_le hb h.size) ?_).trans e
    rcases hc with hc | ⟨cs, t, fr, h1, h2⟩
    · exact .inl hc
    · exact .inr ⟨cs, t, fr, e.trans h1, h2⟩⟩
theorem KeepC.of_keeps {T' : List TypeId} (h : Keeps lo T' V W) (hT : ∀ t ∈ T', t ∈ T) : KeepC lo T V W :=
  ⟨h.os, h.tape, h.output, h.size, fun b hb hc => h.block b hb (by
    rcases hc with hc | ⟨cs, t, fr, h1, h2⟩
    · exact .inl hc
    · refine .inr fun cs' t' fr' h3 h4 => ?_
      rw [h1] at h3
      cases h3
      exact h2 (hT _ h4))⟩
theorem KeepC.of_below (h : Below V.heap.size V W) : KeepC lo T V W := ⟨h.os, h.tape, h.output, h.size, fun b hb _ => h.block b hb⟩
theorem KeepC.of_still (h : Still V W) : KeepC lo T V W := ⟨h.os, h.tape, h.output, by rw [h.heap]; exact Nat.le_refl _, fun b _ _ => by rw [h.heap]⟩
theorem KeepC.row {b : Nat} {cs : Array Value} {t : TypeId} {fr : Nat × Nat} (h : KeepC lo T V W) (hb : V.heap[b]? = some (.cells cs t fr)) (ht : t ∉ T) : W.heap[b]? = some (.cells cs t fr) :=
  (h.block b (Array.getElem?_eq_some_iff.1 hb).1 (.inr ⟨cs, t, fr, hb, ht⟩)).trans hb
theorem KeepC.below (h : KeepC lo T V W) (hl : lo ≤ V.heap.size) : Below lo V W := ⟨h.os, h.tape, h.output, h.size, fun b hb => h.block b (by omega) (.inl hb)⟩
theorem KeepC.mono {T' : List TypeId} (h : KeepC lo T V W) (hT : ∀ t ∈ T, t ∈ T') : KeepC lo T' V W :=
  ⟨h.os, h.tape, h.output, h.size, fun b hb hc => h.block b hb (by
    rcases hc with hc | ⟨cs, t, fr, h1, h2⟩
    · exact .inl hc
    · exact .inr ⟨cs, t, fr, h1, fun h3 => h2 (hT _ h3)⟩)⟩
/-- One block is set, of a type that may turn. -/
theorem KeepC.setCell {b o : Nat} {cs : Array Value} {t : TypeId} {fr : Nat × Nat} (h : KeepC lo T V W) (hb : W.heap[b]? = some (.cells cs t fr)) (ht : t ∈ T) (hl : lo ≤ b) (v : Value) : KeepC lo T V (W.setCell ⟨b, o, none⟩ v) :=
  h.trans ⟨rfl, rfl, rfl, by simp [World.setCell], fun k hk hc => Below.heap_setCell _ _ _ _ (fun e => by
    simp only at e
    subst e
    rcases hc with hc | ⟨cs', t', fr', h1, h2⟩
    · omega
    · rw [hb] at h1; cases h1; exact h2 ht)⟩
theorem KeepC.setRow {b : Nat} {cs : Array Value} {t : TypeId} {fr : Nat × Nat} (h : KeepC lo T V W) (hb : W.heap[b]? = some (.cells cs t fr)) (ht : t ∈ T) (hl : lo ≤ b) (cs' : Array Value) : KeepC lo T V (W.setRow b cs') :=
  h.trans ⟨rfl, rfl, rfl, by simp, fun k hk hc => setRow_other _ _ _ _ (fun e => by
    subst e
    rcases hc with hc | ⟨cs', t', fr', h1, h2⟩
    · omega
    · rw [hb] at h1; cases h1; exact h2 ht)⟩
/-- A map is set. -/
theorem KeepC.setMap {b : Nat} {es : Array MapEntry} {c : Nat} (h : KeepC lo T V W) (hb : W.heap[b]? = some (.map es c)) (hl : lo ≤ b) (o : Obj) : KeepC lo T V { W with heap := W.heap.setIfInBounds b o } :=
  h.trans ⟨rfl, rfl, rfl, by simp, fun k hk hc => by
    show (W.heap.setIfInBounds b o)[k]? = W.heap[k]?
    refine Array.getElem?_setIfInBounds_ne ?_
    intro e
    subst e
    rcases hc with hc | ⟨cs', t', fr', h1, h2⟩
    · omega
    · rw [hb] at h1; cases h1⟩
end
def stT : List TypeId := [47, 66, 68, 55, 50]
theorem dk_st : ∀ t ∈ dkT, t ∈ stT := by decide

/-- Bytes that no one turns. -/
def OwnBy (W : World) (v : Value) (l : List UInt8) : Prop := ∃ a cap, v = .slice a l.length cap ∧ l.length ≤ cap ∧ (a = none → cap = 0) ∧ (l = [] ∨ ∃ b off cs, a = some ⟨b, off, none⟩ ∧ W.heap[b]? = some (.cells cs 5 (0, 0)) ∧ ∀ k (h : k < l.length), cs[off + k]? = some (.int .u8 (l[k]'h).toNat))
theorem OwnBy.isBy {W : World} {v : Value} {l : List UInt8} (h : OwnBy W v l) : ∃ a cap, v = .slice a l.length cap ∧ (cap = 0 ∨ a ≠ none) ∧ IsBy W a l cap := by
  obtain ⟨a, cap, rfl, hc, hn, h⟩ := h
  refine ⟨a, cap, rfl, ?_, hc, ?_⟩
  · by_cases e : a = none
    · exact .inl (hn e)
    · exact .inr e
  rcases h with h | ⟨b, off, cs, e, hb, hk⟩
  · exact .inl h
  · refine .inr ⟨b, off, e, (Array.getElem?_eq_some_iff.1 hb).1, fun k h => ?_⟩
    rw [cell_of_row W b _ _ _ (0, 0) hb]
    exact hk k h
theorem OwnBy.keep {lo : Nat} {V W : World} {v : Value} {l : List UInt8} (h : OwnBy V v l) (hk : KeepC lo stT V W) : OwnBy W v l := by
  obtain ⟨a, cap, e, hc, hn, h⟩ := h
  refine ⟨a, cap, e, hc, hn, ?_⟩
  rcases h with h | ⟨b, off, cs, e, hb, hx⟩
  · exact .inl h
  · exact .inr ⟨b, off, cs, e, hk.row hb (by decide), hx⟩
theorem OwnBy.of_row {W : World} {n : Nat} {v : Value} {l : List UInt8} (h : ByRow W n v l) : OwnBy W v l := by
  obtain ⟨hlen, ⟨rfl, h0⟩ | ⟨g, cap, cur, rfl, hb, hg, hc, hm, hs, ht⟩⟩ := h
  · have : l = [] := List.eq_nil_of_length_eq_zero h0
    subst this
    exact ⟨none, 0, rfl, Nat.le_refl _, fun _ => rfl, .inl rfl⟩
  · refine ⟨_, cap, rfl, hc, (fun e => by cases e), .inr ⟨g, 0, cur, rfl, hg, fun k hk => ?_⟩⟩
    have e1 : (byC l)[k]? = cur[k]? := by
      rw [← ht, List.getElem?_take, if_pos (by omega)]
      simp
    rw [Nat.zero_add, ← byC_get l k hk, e1]
/-- What is pending, as the map has it. -/
def PRel (W : World) : List MapEntry → List (Nat × List UInt8) → Prop
  | [], [] => True
  | e :: es, kl :: P => (e.key = .int .i64 (kl.1 : Int) ∧ OwnBy W e.val kl.2) ∧ PRel W es P
  | [], _ :: _ => False
  | _ :: _, [] => False
theorem PRel.nil {W : World} : PRel W [] [] := True.intro
theorem PRel.cons {W : World} {e : MapEntry} {es : List MapEntry} {k : Nat} {l : List UInt8} {P : List (Nat × List UInt8)} (h1 : e.key = .int .i64 (k : Int)) (h2 : OwnBy W e.val l) (h3 : PRel W es P) : PRel W (e :: es) ((k, l) :: P) := ⟨⟨h1, h2⟩, h3⟩
theorem PRel.ind {W : World} {motive : (es : List MapEntry) → (P : List (Nat × List UInt8)) → PRel W es P → Prop} (nil : motive [] [] PRel.nil)
    (cons : ∀ {e : MapEntry} {es : List MapEntry} {k : Nat} {l : List UInt8} {P : List (Nat × List UInt8)} (h1 : e.key = .int .i64 (k : Int)) (h2 : OwnBy W e.val l) (h3 : PRel W es P), motive es P h3 → motive (e :: es) ((k, l) :: P) (PRel.cons h1 h2 h3)) :
    ∀ {es : List MapEntry} {P : List (Nat × List UInt8)} (h : PRel W es P), motive es P h
  | [], [], _ => nil
  | _ :: _, (_, _) :: _, h => cons h.1.1 h.1.2 h.2 (PRel.ind nil cons h.2)
  | [], _ :: _, h => h.elim
  | _ :: _, [], h => h.elim
theorem PRel.keep {lo : Nat} {V W : World} {es : List MapEntry} {P : List (Nat × List UInt8)} (h : PRel V es P) (hk : KeepC lo stT V W) : PRel W es P := by
  induction h using PRel.ind with
  | nil => exact .nil
  | cons h1 h2 _ ih => exact .cons h1 (h2.keep hk) ih
theorem PRel.length {W : World} {es : List MapEntry} {P : List (Nat × List UInt8)} (h : PRel W es P) : es.length = P.length := by
  induction h using PRel.ind with
  | nil => rfl
  | cons _ _ _ ih => simp [ih]
def look : List (Nat × List UInt8) → Nat → Option (List UInt8)
  | [], _ => none
  | (k', l) :: P, k => if k' = k then some l else look P k
def upd : List (Nat × List UInt8) → Nat → List UInt8 → List (Nat × List UInt8)
  | [], k, l => [(k, l)]
  | (k', l') :: P, k, l => if k' = k then (k, l) :: P else (k', l') :: upd P k l
theorem look_upd (P : List (Nat × List UInt8)) (k j : Nat) (l : List UInt8) : look (upd P k l) j = if k = j then some l else look P j := by
  induction P with
  | nil => simp [upd, look]
  | cons x P ih =>
    obtain ⟨k', l'⟩ := x
    unfold upd
    by_cases h : k' = k
    · subst h
      simp only [if_true, look]
      by_cases h2 : k' = j
      · simp [h2]
      · simp [h2]
    · rw [if_neg h]
      unfold look
      rw [ih]
      by_cases h2 : k' = j
      · rw [if_pos h2, if_pos h2, if_neg (by omega)]
      · rw [if_neg h2, if_neg h2]
theorem find_none {W : World} {es : List MapEntry} {P : List (Nat × List UInt8)} (h : PRel W es P) (k : Nat) (hn : look P k = none) : ∀ i, Instr.findNow (.int .i64) (.int .i64 (k : Int)) es i = some none := by
  induction h using PRel.ind with
  | nil => intro i; rfl
  | @cons e es k' l P h1 h2 h3 ih =>
    intro i
    unfold look at hn
    by_cases hk : k' = k
    · rw [if_pos hk] at hn; cases hn
    · rw [if_neg hk] at hn
      unfold Instr.findNow
      have hne : ((k : Int) == (k' : Int)) = false := by rw [beq_eq_false_iff_ne]; omega
      simp only [h1, Instr.sameNow, if_true, hne]
      exact ih hn _
theorem find_some {W : World} {es : List MapEntry} {P : List (Nat × List UInt8)} (h : PRel W es P) (k : Nat) {l : List UInt8} (hn : look P k = some l) : ∃ j v, (∀ i, Instr.findNow (.int .i64) (.int .i64 (k : Int)) es i = some (some (i + j, v))) ∧ OwnBy W v l ∧ (∃ e, es[j]? = some e ∧ e.key = .int .i64 (k : Int)) ∧
    ∀ (l' : List UInt8) (v' : Value) (b : Nat → Nat), OwnBy W v' l' → PRel W (es.set j ⟨.int .i64 (k : Int), v', (es[j]?.map (·.born)).getD 0⟩) (upd P k l') := by
  induction h using PRel.ind with
  | nil => cases hn
  | @cons e es k' l0 P h1 h2 h3 ih =>
    unfold look at hn
    by_cases hk : k' = k
    · rw [if_pos hk] at hn
      cases hn
      subst hk
      refine ⟨0, e.val, fun i => ?_, h2, ⟨e, rfl, h1⟩, fun l' v' b hv => ?_⟩
      · unfold Instr.findNow
        simp [h1, Instr.sameNow]
      · unfold upd
        rw [if_pos rfl]
        exact .cons rfl hv h3
    · rw [if_neg hk] at hn
      obtain ⟨j, v, f1, f2, f3, f4⟩ := ih hn
      refine ⟨j + 1, v, fun i => ?_, f2, by simpa using f3, fun l' v' b hv => ?_⟩
      · unfold Instr.findNow
        have hne : ((k : Int) == (k' : Int)) = false := by rw [beq_eq_false_iff_ne]; omega
        simp only [h1, Instr.sameNow, if_true, hne]
        rw [f1 (i + 1)]
        congr 3
        omega
      · unfold upd
        rw [if_neg hk]
        have := f4 l' v' b hv
        simpa using PRel.cons h1 h2 this
theorem PRel.push {W : World} {es : List MapEntry} {P : List (Nat × List UInt8)} (h : PRel W es P) (k : Nat) (hn : look P k = none) (v : Value) (l : List UInt8) (c : Nat) (hv : OwnBy W v l) : PRel W (es ++ [⟨.int .i64 (k : Int), v, c⟩]) (upd P k l) := by
  induction h using PRel.ind with
  | nil => exact .cons rfl hv .nil
  | @cons e es k' l0 P h1 h2 h3 ih =>
    unfold look at hn
    by_cases hk : k' = k
    · rw [if_pos hk] at hn; cases hn
    · rw [if_neg hk] at hn
      unfold upd
      rw [if_neg hk]
      exact .cons h1 h2 (ih hn)
/-- The map that holds what is pending. -/
def PMap (W : World) (mb : Nat) (P : List (Nat × List UInt8)) : Prop := ∃ es c, W.heap[mb]? = some (.map es c) ∧ PRel W es.toList P
theorem PMap.keep {lo : Nat} {V W : World} {mb : Nat} {P : List (Nat × List UInt8)} (h : PMap V mb P) (hk : KeepC lo stT V W) (hm : W.heap[mb]? = V.heap[mb]?) : PMap W mb P := by
  obtain ⟨es, c, h1, h2⟩ := h
  exact ⟨es, c, hm.trans h1, h2.keep hk⟩
theorem set_at {W : World} {mb : Nat} (h : mb < W.heap.size) (o : Obj) : ({ W with heap := W.heap.setIfInBounds mb o } : World).heap[mb]? = some o := by simp [h]
theorem key_ok (w : World) (x : Int) (b : Bool) : (Instr.checkKey b 10000 3 (.int .i64 x)).run Try.prog w = .ok () w :=
  MapKept.run_checkKey (k := .int .i64 x) Try.underlying3 (by simp [MapKept.IsKey]) b 9999
theorem sl_zero (w : World) : (zeroValue 33).run Try.prog w = .ok (.slice none 0 0) w := by kernel_rfl
theorem run_look {W : World} {mb : Nat} {P : List (Nat × List UInt8)} (h : PMap W mb P) (k : Nat) : ∃ v, (Instr.lookup 53 (.map (some mb)) (.int .i64 (k : Int)) true).run Try.prog W = .ok (.tuple #[v, .bool (look P k).isSome]) W ∧ OwnBy W v ((look P k).getD []) ∧ (look P k = none → v = .slice none 0 0) := by
  obtain ⟨es, c, h1, h2⟩ := h
  cases hq : look P k with
  | none =>
    refine ⟨.slice none 0 0, ?_, ⟨none, 0, rfl, Nat.le_refl _, fun _ => rfl, .inl rfl⟩, fun _ => rfl⟩
    simp [Instr.lookup, run_underlying Try.underlying53, MapKept.run_getObj_map h1, key_ok, MapKept.run_findKey Try.underlying3 (find_none h2 k hq 0), sl_zero, Result.andThen]
  | some l =>
    obtain ⟨j, v, f1, f2, f3, f4⟩ := find_some h2 k hq
    refine ⟨v, ?_, f2, fun e => by cases e⟩
    simp [Instr.lookup, run_underlying Try.underlying53, MapKept.run_getObj_map h1, key_ok, MapKept.run_findKey Try.underlying3 (f1 0), Result.andThen]
theorem run_put {W : World} {mb : Nat} {P : List (Nat × List UInt8)} (h : PMap W mb P) (k : Nat) (v : Value) (l : List UInt8) (hv : OwnBy W v l) (lo : Nat) (hl : lo ≤ mb) :
    ∃ W', (Instr.mapUpdate 53 (.map (some mb)) (.int .i64 (k : Int)) v).run Try.prog W = .ok () W' ∧ PMap W' mb (upd P k l) ∧ KeepC lo stT W W' ∧ ∀ b, b ≠ mb → W'.heap[b]? = W.heap[b]? := by
  obtain ⟨es, c, h1, h2⟩ := h
  have hlt : mb < W.heap.size := (Array.getElem?_eq_some_iff.1 h1).1
  cases hq : look P k with
  | none =>
    refine ⟨{ W with heap := W.heap.setIfInBounds mb (.map (es.push ⟨.int .i64 (k : Int), v, c⟩) (c + 1)) }, ?_, ?_, (KeepC.refl lo stT W).setMap h1 hl _, fun b hb => Array.getElem?_setIfInBounds_ne (fun e => hb e.symm)⟩
    · simp [Instr.mapUpdate, run_underlying Try.underlying53, MapKept.run_getObj_map h1, key_ok, MapKept.run_findKey Try.underlying3 (find_none h2 k hq 0), MapKept.run_setObj_map _ h1, Result.andThen]
    · refine ⟨_, _, set_at hlt _, ?_⟩
      have := (h2.push k hq v l c hv).keep ((KeepC.refl lo stT W).setMap h1 hl (.map (es.push ⟨.int .i64 (k : Int), v, c⟩) (c + 1)))
      simpa using this
  | some l0 =>
    obtain ⟨j, v0, f1, f2, ⟨e, f3, f5⟩, f4⟩ := find_some h2 k hq
    have hj : j < es.size := by have := (List.getElem?_eq_some_iff.1 f3).1; simpa using this
    have he : es[j]? = some e := by simpa using f3
    have hmod : (es.modify j fun e => { e with key := .int .i64 (k : Int), val := v }).toList = es.toList.set j ⟨.int .i64 (k : Int), v, (es.toList[j]?.map (·.born)).getD 0⟩ := by
      rw [f3]
      apply List.ext_getElem?
      intro i
      rw [Array.getElem?_toList, Array.getElem?_modify, List.getElem?_set]
      by_cases hi : j = i
      · subst hi
        have e' : es[j] = e := (Array.getElem?_eq_some_iff.1 he).2
        simp [he, hj, e']
      · simp [hi]
    refine ⟨{ W with heap := W.heap.setIfInBounds mb (.map (es.modify j fun e => { e with key := .int .i64 (k : Int), val := v }) c) }, ?_, ?_, (KeepC.refl lo stT W).setMap h1 hl _, fun b hb => Array.getElem?_setIfInBounds_ne (fun e => hb e.symm)⟩
    · simp [Instr.mapUpdate, run_underlying Try.underlying53, MapKept.run_getObj_map h1, key_ok, MapKept.run_findKey Try.underlying3 (f1 0), MapKept.run_setObj_map _ h1, Result.andThen, Instr.keyThatStays, he, f5, Instr.sameBits]
    · refine ⟨_, _, set_at hlt _, ?_⟩
      rw [hmod]
      exact (f4 l v id hv).keep ((KeepC.refl lo stT W).setMap h1 hl _)
theorem run_plen {W : World} {mb : Nat} {P : List (Nat × List UInt8)} (h : PMap W mb P) (ty : TypeId) : (Builtin.len_ #[53] ty #[.map (some mb)]).run Try.prog W = .ok (.int .i64 (P.length : Int)) W := by
  obtain ⟨es, c, h1, h2⟩ := h
  have := h2.length
  have e : es.size = P.length := by simpa using this
  simp [Builtin.len_, run_underlying Try.underlying53, MapKept.run_getObj_map h1, Result.andThen, goInt, e]
theorem run_pclear {W : World} {mb : Nat} {P : List (Nat × List UInt8)} (h : PMap W mb P) (ty : TypeId) (lo : Nat) (hl : lo ≤ mb) : ∃ W', (Builtin.clear_ #[53] ty #[.map (some mb)]).run Try.prog W = .ok (.tuple #[]) W' ∧ PMap W' mb [] ∧ KeepC lo stT W W' ∧ ∀ b, b ≠ mb → W'.heap[b]? = W.heap[b]? := by
  obtain ⟨es, c, h1, h2⟩ := h
  have hlt : mb < W.heap.size := (Array.getElem?_eq_some_iff.1 h1).1
  refine ⟨{ W with heap := W.heap.setIfInBounds mb (.map #[] c) }, ?_, ⟨_, _, set_at hlt _, .nil⟩, (KeepC.refl lo stT W).setMap h1 hl _, fun b hb => Array.getElem?_setIfInBounds_ne (fun e => hb e.symm)⟩
  simp [Builtin.clear_, run_underlying Try.underlying53, MapKept.run_getObj_map h1, MapKept.run_setObj_map _ h1, Result.andThen]
end Go.Proofs.Ytidccclfngcpgaa
