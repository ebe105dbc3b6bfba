/-
  Blocks of a disk, what was written, and a disk: as they lie in memory.
-/
import Derived.Test.YtidccclfngcpgaaProg
import Derived.WalkKit
import Derived.WalkSpells
import Derived.Lib.OthersKept
import Derived.Deep.LoopGhost
import Derived.Conc.MuLone
import Derived.Maps.AppendAt
import Derived.Laws.MakeOwn
import Derived.Laws.NewBlocks
import Derived.Deep.QuietTactic
import Derived.Deep.MidRow
import Derived.Laws.CopyRow
import Derived.BigQuiet
namespace Go.Proofs.Ytidccclfngcpgaa
set_option linter.unusedVariables false
set_option linter.unusedSimpArgs false
set_option maxRecDepth 100000
open Go.RowKit Go.Lib

theorem new_heap (W : World) (o : Obj) : (W.alloc o).heap[W.heap.size]? = some o := by unfold World.alloc; simp only [Array.getElem?_push_size]
/-- An error by its number. -/
def enE (n : Int) : Value := if n = 0 then .nilIface else .iface 43 (.int .i64 n)
theorem enE_zero : enE 0 = .nilIface := rfl
theorem enE_ne {n : Int} (h : n ≠ 0) : enE n = .iface 43 (.int .i64 n) := if_neg h

/-- Bytes as cells. -/
def byC (l : List UInt8) : List Value := l.map fun b => Value.int .u8 b.toNat
theorem byC_length (l : List UInt8) : (byC l).length = l.length := by simp [byC]
theorem byC_append (l m : List UInt8) : byC (l ++ m) = byC l ++ byC m := by simp [byC]
theorem byC_one (l : List UInt8) : ∀ u ∈ byC l, u.oneCell' = true := by
  intro u hu
  simp only [byC, List.mem_map] at hu
  obtain ⟨b, _, rfl⟩ := hu
  rfl
theorem byC_get (l : List UInt8) (k : Nat) (h : k < l.length) : (byC l)[k]? = some (.int .u8 (l[k]'h).toNat) := by simp [byC, h]

/-- A block: its bytes, and whether it is torn. -/
structure Bk where
  byt : List UInt8
  torn : Bool
def bk0 : Bk := ⟨List.replicate 64 0, false⟩
def Bk.cells (b : Bk) : List Value := byC b.byt ++ [.bool b.torn]
def Bk.ok (b : Bk) : Prop := b.byt.length = 64
theorem Bk.cells_length {b : Bk} (h : b.ok) : b.cells.length = 65 := by
  unfold Bk.ok at h
  simp [Bk.cells, byC_length, h]
theorem Bk.cells_one (b : Bk) : ∀ u ∈ b.cells, u.oneCell' = true := by
  intro u hu
  simp only [Bk.cells, List.mem_append, List.mem_singleton] at hu
  rcases hu with hu | rfl
  · exact byC_one _ u hu
  · rfl
theorem bk0_ok : bk0.ok := by simp [bk0, Bk.ok]

/-- A change: which block, and what it is from then on. -/
structure Cg where
  at_ : Nat
  to : Bk
def cg0 : Cg := ⟨0, bk0⟩
def Cg.cells (c : Cg) : List Value := .int .i64 (c.at_ : Int) :: c.to.cells
theorem Cg.cells_length {c : Cg} (h : c.to.ok) : c.cells.length = 66 := by simp [Cg.cells, Bk.cells_length h]
theorem Cg.cells_one (c : Cg) : ∀ u ∈ c.cells, u.oneCell' = true := by
  intro u hu
  simp only [Cg.cells, List.mem_cons] at hu
  rcases hu with rfl | hu
  · rfl
  · exact c.to.cells_one u hu

/-- Parts of one length, one behind the other. -/
def rowOf {α : Type} (f : α → List Value) (l : List α) : List Value := l.flatMap f
theorem rowOf_length {α : Type} (f : α → List Value) (z : Nat) : ∀ l : List α, (∀ x ∈ l, (f x).length = z) → (rowOf f l).length = l.length * z
  | [], _ => by simp [rowOf]
  | x :: l, h => by
    have := rowOf_length f z l (fun y hy => h y (by simp [hy]))
    unfold rowOf at *
    simp only [List.flatMap_cons, List.length_append, h x (by simp), this, List.length_cons, Nat.add_mul]
    omega
theorem rowOf_append {α : Type} (f : α → List Value) (l m : List α) : rowOf f (l ++ m) = rowOf f l ++ rowOf f m := by simp [rowOf]
theorem rowOf_one {α : Type} (f : α → List Value) (x : α) : rowOf f [x] = f x := by simp [rowOf]
theorem rowOf_get {α : Type} (f : α → List Value) (z : Nat) : ∀ (l : List α) (k j : Nat) (hk : k < l.length), (∀ x ∈ l, (f x).length = z) → j < z → (rowOf f l)[k * z + j]? = (f l[k])[j]?
  | [], _, _, h, _, _ => absurd h (by simp)
  | x :: l, 0, j, _, hz, hj => by
    simp only [rowOf, List.flatMap_cons, Nat.zero_mul, Nat.zero_add]
    rw [List.getElem?_append_left (by rw [hz x (by simp)]; exact hj)]
    rfl
  | x :: l, k + 1, j, h, hz, hj => by
    have ih := rowOf_get f z l k j (by simpa using h) (fun y hy => hz y (by simp [hy])) hj
    have hx := hz x (by simp)
    simp only [rowOf, List.flatMap_cons] at ih ⊢
    rw [List.getElem?_append_right (by rw [hx, Nat.add_mul]; omega), hx]
    rw [show (k + 1) * z + j - z = k * z + j by rw [Nat.add_mul]; omega, ih]
    rfl
theorem rowOf_take {α : Type} (f : α → List Value) (z : Nat) (l : List α) (k : Nat) (hz : ∀ x ∈ l, (f x).length = z) (hk : k ≤ l.length) : (rowOf f l).take (k * z) = rowOf f (l.take k) := by
  have h := rowOf_append f (l.take k) (l.drop k)
  rw [List.take_append_drop] at h
  have hl : (rowOf f (l.take k)).length = k * z := by rw [rowOf_length f z _ (fun x hx => hz x (List.mem_of_mem_take hx)), List.length_take, Nat.min_eq_left hk]
  rw [h, ← hl, List.take_left]
theorem rowOf_drop {α : Type} (f : α → List Value) (z : Nat) (l : List α) (k : Nat) (hz : ∀ x ∈ l, (f x).length = z) (hk : k ≤ l.length) : (rowOf f l).drop (k * z) = rowOf f (l.drop k) := by
  have h := rowOf_append f (l.take k) (l.drop k)
  rw [List.take_append_drop] at h
  have hl : (rowOf f (l.take k)).length = k * z := by rw [rowOf_length f z _ (fun x hx => hz x (List.mem_of_mem_take hx)), List.length_take, Nat.min_eq_left hk]
  rw [h, ← hl, List.drop_left]
theorem rowOf_set {α : Type} (f : α → List Value) (z : Nat) (l : List α) (k : Nat) (x : α) (hz : ∀ y ∈ l, (f y).length = z) (hk : k < l.length) :
    (rowOf f l).take (k * z) ++ f x ++ (rowOf f l).drop (k * z + z) = rowOf f (l.set k x) := by
  rw [rowOf_take f z l k hz (by omega), show k * z + z = (k + 1) * z by rw [Nat.add_mul]; omega, rowOf_drop f z l (k + 1) hz (by omega), List.set_eq_take_append_cons_drop, if_pos hk]
  rw [rowOf_append, show x :: l.drop (k + 1) = [x] ++ l.drop (k + 1) from rfl, rowOf_append, rowOf_one]
  simp
theorem rowOf_oneC {α : Type} (f : α → List Value) (l : List α) (h : ∀ x ∈ l, ∀ u ∈ f x, u.oneCell' = true) : ∀ u ∈ rowOf f l, u.oneCell' = true := by
  intro u hu
  simp only [rowOf, List.mem_flatMap] at hu
  obtain ⟨x, hx, hu⟩ := hu
  exact h x hx u hu

/-- A disk. -/
structure Dk where
  now : List Bk
  safe : List Bk
  chg : List Cg
  steps : Nat
  fail : Int

structure Dk.ok (D : Dk) (n : Nat) : Prop where
  nowL : D.now.length = n
  safeL : D.safe.length = n
  nowO : ∀ x ∈ D.now, x.ok
  safeO : ∀ x ∈ D.safe, x.ok
  chgO : ∀ c ∈ D.chg, c.to.ok ∧ c.at_ < n

structure DkAt (w : World) (lo p nb sb : Nat) (cv : Value) (n : Nat) (D : Dk) : Prop where
  box : w.heap[p]? = some (.cells #[.slice (some ⟨nb, 0, none⟩) n n, .slice (some ⟨sb, 0, none⟩) n n, cv, .int .i64 (D.steps : Int), .int .i64 D.fail] 47 (0, 0))
  now : w.heap[nb]? = some (.cells (rowOf Bk.cells D.now).toArray 66 (0, 0))
  safe : w.heap[sb]? = some (.cells (rowOf Bk.cells D.safe).toArray 66 (0, 0))
  ne : nb ≠ sb
  lp : lo ≤ p
  ln : lo ≤ nb
  ls : lo ≤ sb
  chg : w.ownsRow lo 68 66 cv D.chg.length (rowOf Cg.cells D.chg)
  ok : D.ok n

/-- Of what was there only blocks from lo on, of some kinds, may have turned. -/
structure Keeps (lo : Nat) (T : List TypeId) (V W : World) : Prop where
  os : W.os = V.os
  tape : W.tape = V.tape
  output : W.output = V.output
  size : V.heap.size ≤ W.heap.size
  block : ∀ b, b < V.heap.size → (b < lo ∨ ∀ cs t fr, V.heap[b]? = some (.cells cs t fr) → t ∉ T) → W.heap[b]? = V.heap[b]?
section
variable {lo : Nat} {T : List TypeId} {V W U : World}
theorem Keeps.refl (lo : Nat) (T : List TypeId) (V : World) : Keeps lo T V V := ⟨rfl, rfl, rfl, Nat.le_refl _, fun _ _ _ => rfl⟩
theorem Keeps.trans (h : Keeps lo T V W) (k : Keeps lo T W U) : Keeps lo T V U :=
  ⟨k.os.trans h.os, k.tape.trans h.tape, k.output.trans h.output, Nat.le_trans h.size k.size, fun b hb ht => by
    have e := h.block b hb ht
    rw [← e]
    exact k.block b (by have := h.size; omega) (ht.imp id (fun h' cs t fr hh => h' cs t fr (e ▸ hh)))⟩
theorem Keeps.alloc (h : Keeps lo T V W) (o : Obj) : Keeps lo T V (W.alloc o) :=
  h.trans ⟨rfl, rfl, rfl, by simp, fun b hb _ => Below.heap_alloc _ _ _ hb⟩
theorem Keeps.drew (h : Keeps lo T V W) : Keeps lo T V W.drew := h.trans ⟨rfl, rfl, rfl, Nat.le_refl _, fun _ _ _ => rfl⟩
theorem Keeps.below (h : Keeps lo T V W) (hl : lo ≤ V.heap.size) : Below lo V W := ⟨h.os, h.tape, h.output, h.size, fun k hk => h.block k (by omega) (.inl hk)⟩
theorem Keeps.of_below (h : Below V.heap.size V W) : Keeps lo T V W := ⟨h.os, h.tape, h.output, h.size, fun b hb _ => h.block b hb⟩
theorem Keeps.mono {T' : List TypeId} (h : Keeps lo T V W) (ht : ∀ t ∈ T, t ∈ T') : Keeps lo T' V W :=
  ⟨h.os, h.tape, h.output, h.size, fun b hb hh => h.block b hb (hh.imp id (fun h' cs t fr e => fun hm => h' cs t fr e (ht t hm)))⟩
theorem Keeps.low {lo' : Nat} (h : Keeps lo T V W) (hl : lo' ≤ lo) : Keeps lo' T V W :=
  ⟨h.os, h.tape, h.output, h.size, fun b hb hh => h.block b hb (hh.imp (fun h' => by omega) id)⟩
theorem Keeps.row {b : Nat} {cs : Array Value} {t : TypeId} {fr : Nat × Nat} (h : Keeps lo T V W) (hb : V.heap[b]? = some (.cells cs t fr)) (ht : t ∉ T) : W.heap[b]? = some (.cells cs t fr) :=
  (h.block b (Array.getElem?_eq_some_iff.1 hb).1 (.inr (fun cs' t' fr' e => by rw [hb] at e; cases e; exact ht))).trans hb
theorem Keeps.setRow {b : Nat} {cs : Array Value} {t : TypeId} {fr : Nat × Nat} (h : Keeps lo T V W) (hb : W.heap[b]? = some (.cells cs t fr)) (ht : t ∈ T) (hl : lo ≤ b) (cs' : Array Value) : Keeps lo T V (W.setRow b cs') :=
  h.trans ⟨rfl, rfl, rfl, by simp, fun k hk hh => by
    by_cases e : k = b
    · subst e
      rcases hh with hh | hh
      · omega
      · exact absurd ht (hh _ _ _ hb)
    · exact setRow_other W b k cs' e⟩
theorem Keeps.grown {row : Option Nat} (h : Keeps lo T V W) (hg : W.grownBy U row) (hr : ∀ j, row = some j → lo ≤ j ∧ ∃ cs t fr, W.heap[j]? = some (.cells cs t fr) ∧ t ∈ T) : Keeps lo T V U :=
  h.trans ⟨hg.os, hg.tape, hg.output, hg.size, fun k hk hh => hg.block k hk (fun e => by
    obtain ⟨h1, cs, t, fr, h2, h3⟩ := hr k e.symm
    rcases hh with hh | hh
    · omega
    · exact hh _ _ _ h2 h3)⟩
end

theorem DkAt.p0 {w : World} {lo p nb sb : Nat} {cv : Value} {n : Nat} {D : Dk} (h : DkAt w lo p nb sb cv n D) : w.cell? ⟨p, 0, none⟩ = some (.slice (some ⟨nb, 0, none⟩) n n) := by have := h.box; simp [World.cell?, this]
theorem DkAt.p1 {w : World} {lo p nb sb : Nat} {cv : Value} {n : Nat} {D : Dk} (h : DkAt w lo p nb sb cv n D) : w.cell? ⟨p, 1, none⟩ = some (.slice (some ⟨sb, 0, none⟩) n n) := by have := h.box; simp [World.cell?, this]
theorem DkAt.p2 {w : World} {lo p nb sb : Nat} {cv : Value} {n : Nat} {D : Dk} (h : DkAt w lo p nb sb cv n D) : w.cell? ⟨p, 2, none⟩ = some cv := by have := h.box; simp [World.cell?, this]
theorem DkAt.p3 {w : World} {lo p nb sb : Nat} {cv : Value} {n : Nat} {D : Dk} (h : DkAt w lo p nb sb cv n D) : w.cell? ⟨p, 3, none⟩ = some (.int .i64 (D.steps : Int)) := by have := h.box; simp [World.cell?, this]
theorem DkAt.p4 {w : World} {lo p nb sb : Nat} {cv : Value} {n : Nat} {D : Dk} (h : DkAt w lo p nb sb cv n D) : w.cell? ⟨p, 4, none⟩ = some (.int .i64 D.fail) := by have := h.box; simp [World.cell?, this]
theorem DkAt.fz {w : World} {lo p nb sb : Nat} {cv : Value} {n : Nat} {D : Dk} (h : DkAt w lo p nb sb cv n D) (o : Nat) : w.frozen? ⟨p, o, none⟩ = false := by have := h.box; simp [World.frozen?, this]
theorem DkAt.lt {w : World} {lo p nb sb : Nat} {cv : Value} {n : Nat} {D : Dk} (h : DkAt w lo p nb sb cv n D) : p < w.heap.size := (Array.getElem?_eq_some_iff.1 h.box).1

/-- The kinds of blocks that a disk is made of. -/
def dkT : List TypeId := [47, 66, 68]

theorem ownsRow_keep {w W : World} {lo : Nat} {e : TypeId} {z : Nat} {v : Value} {m : Nat} {xs : List Value} (h : w.ownsRow lo e z v m xs) (hk : ∀ (b : Nat) (cs : Array Value), w.heap[b]? = some (.cells cs e (0, 0)) → lo ≤ b → W.heap[b]? = w.heap[b]?) : W.ownsRow lo e z v m xs := by
  rcases h.2 with ⟨hv, hn⟩ | ⟨g1, c1, cur, hv, hb1, hh, r⟩
  · exact ⟨h.1, .inl ⟨hv, hn⟩⟩
  · exact ⟨h.1, .inr ⟨g1, c1, cur, hv, hb1, (hk g1 cur hh hb1).trans hh, r⟩⟩

/-- A disk stands where nothing of its kinds turns. -/
theorem DkAt.keep {w W : World} {lo p nb sb : Nat} {cv : Value} {n : Nat} {D : Dk} (h : DkAt w lo p nb sb cv n D) (hk : ∀ (b : Nat) (cs : Array Value) (t : TypeId), w.heap[b]? = some (.cells cs t (0, 0)) → t ∈ dkT → W.heap[b]? = w.heap[b]?) : DkAt W lo p nb sb cv n D :=
  ⟨(hk _ _ _ h.box (by simp [dkT])).trans h.box, (hk _ _ _ h.now (by simp [dkT])).trans h.now, (hk _ _ _ h.safe (by simp [dkT])).trans h.safe, h.ne, h.lp, h.ln, h.ls, ownsRow_keep h.chg (fun b cs e _ => hk b cs _ e (by simp [dkT])), h.ok⟩
theorem DkAt.below {w W : World} {lo p nb sb : Nat} {cv : Value} {n : Nat} {D : Dk} (h : DkAt w lo p nb sb cv n D) (hb : Below w.heap.size w W) : DkAt W lo p nb sb cv n D :=
  h.keep (fun b cs t e _ => hb.block b (Array.getElem?_eq_some_iff.1 e).1)
theorem DkAt.keeps {w W : World} {lo p nb sb lo' : Nat} {T : List TypeId} {cv : Value} {n : Nat} {D : Dk} (h : DkAt w lo p nb sb cv n D) (hb : Keeps lo' T w W) (hT : ∀ t ∈ dkT, t ∉ T) : DkAt W lo p nb sb cv n D :=
  h.keep (fun b cs t e ht => (hb.row e (hT t ht)).trans e.symm)
end Go.Proofs.Ytidccclfngcpgaa
