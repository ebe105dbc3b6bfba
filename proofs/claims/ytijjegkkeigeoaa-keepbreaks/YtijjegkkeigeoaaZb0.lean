/-
  A disk behind one step of memory: a new block of memory, a block of the disk set, a change more, a number set.
-/
import Derived.Test.YtijjegkkeigeoaaProg
import Derived.WalkKit
import Derived.WalkSpells
import Derived.Lib.OthersKept
import Derived.Deep.LoopGhost
import Derived.Conc.MuLone
import Derived.Maps.AppendAt
import Derived.Laws.MakeOwn
import Derived.Laws.NewBlocks
import Derived.Deep.QuietTactic
import Derived.Deep.MidRow
import Derived.Laws.CopyRow
import Derived.BigQuiet
import Derived.Deep.RegionHeld3
import Derived.OrdersHeld
import Derived.RegionTactic
import Derived.Deep.RegionWith
import Derived.Deep.OwnRows
import Derived.BigRegion
namespace Go.Proofs.Ytijjegkkeigeoaa
set_option linter.unusedVariables false
set_option linter.unusedSimpArgs false
set_option maxRecDepth 100000
open Go.RowKit Go.Lib

theorem new_heap (W : World) (o : Obj) : (W.alloc o).heap[W.heap.size]? = some o := by unfold World.alloc; simp only [Array.getElem?_push_size]
/-- An error by its number. -/
def enE (n : Int) : Value := if n = 0 then .nilIface else .iface 44 (.int .i64 n)
theorem enE_zero : enE 0 = .nilIface := rfl
theorem enE_ne {n : Int} (h : n ≠ 0) : enE n = .iface 44 (.int .i64 n) := if_neg h

/-- Bytes as cells. -/
def byC (l : List UInt8) : List Value := l.map fun b => Value.int .u8 b.toNat
theorem byC_length (l : List UInt8) : (byC l).length = l.length := by simp [byC]
theorem byC_append (l m : List UInt8) : byC (l ++ m) = byC l ++ byC m := by simp [byC]
theorem byC_one (l : List UInt8) : ∀ u ∈ byC l, u.oneCell' = true := by
  intro u hu
  simp only [byC, List.mem_map] at hu
  obtain ⟨b, _, rfl⟩ := hu
  rfl
theorem byC_get (l : List UInt8) (k : Nat) (h : k < l.length) : (byC l)[k]? = some (.int .u8 (l[k]'h).toNat) := by simp [byC, h]

/-- A block: its bytes, and whether it is torn. -/
structure Bk where
  byt : List UInt8
  torn : Bool
def bk0 : Bk := ⟨List.replicate 64 0, false⟩
def Bk.cells (b : Bk) : List Value := byC b.byt ++ [.bool b.torn]
def Bk.ok (b : Bk) : Prop := b.byt.length = 64
theorem Bk.cells_length {b : Bk} (h : b.ok) : b.cells.length = 65 := by
  unfold Bk.ok at h
  simp [Bk.cells, byC_length, h]
theorem Bk.cells_one (b : Bk) : ∀ u ∈ b.cells, u.oneCell' = true := by
  intro u hu
  simp only [Bk.cells, List.mem_append, List.mem_singleton] at hu
  rcases hu with hu | rfl
  · exact byC_one _ u hu
  · rfl
theorem bk0_ok : bk0.ok := by simp [bk0, Bk.ok]

/-- A change: which block, and what it is from then on. -/
structure Cg where
  at_ : Nat
  tgt : Bk
def cg0 : Cg := ⟨0, bk0⟩
def Cg.cells (c : Cg) : List Value := .int .i64 (c.at_ : Int) :: c.tgt.cells
theorem Cg.cells_length {c : Cg} (h : c.tgt.ok) : c.cells.length = 66 := by simp [Cg.cells, Bk.cells_length h]
theorem Cg.cells_one (c : Cg) : ∀ u ∈ c.cells, u.oneCell' = true := by
  intro u hu
  simp only [Cg.cells, List.mem_cons] at hu
  rcases hu with rfl | hu
  · rfl
  · exact c.tgt.cells_one u hu

/-- Parts of one length, one behind the other. -/
def rowOf {α : Type} (f : α → List Value) (l : List α) : List Value := l.flatMap f
theorem rowOf_length {α : Type} (f : α → List Value) (z : Nat) : ∀ l : List α, (∀ x ∈ l, (f x).length = z) → (rowOf f l).length = l.length * z
  | [], _ => by simp [rowOf]
  | x :: l, h => by
    have := rowOf_length f z l (fun y hy => h y (by simp [hy]))
    unfold rowOf at *
    simp only [List.flatMap_cons, List.length_append, h x (by simp), this, List.length_cons, Nat.add_mul]
    omega
theorem rowOf_append {α : Type} (f : α → List Value) (l m : List α) : rowOf f (l ++ m) = rowOf f l ++ rowOf f m := by simp [rowOf]
theorem rowOf_one {α : Type} (f : α → List Value) (x : α) : rowOf f [x] = f x := by simp [rowOf]
theorem rowOf_get {α : Type} (f : α → List Value) (z : Nat) : ∀ (l : List α) (k j : Nat) (hk : k < l.length), (∀ x ∈ l, (f x).length = z) → j < z → (rowOf f l)[k * z + j]? = (f l[k])[j]?
  | [], _, _, h, _, _ => absurd h (by simp)
  | x :: l, 0, j, _, hz, hj => by
    simp only [rowOf, List.flatMap_cons, Nat.zero_mul, Nat.zero_add]
    rw [List.getElem?_append_left (by rw [hz x (by simp)]; exact hj)]
    rfl
  | x :: l, k + 1, j, h, hz, hj => by
    have ih := rowOf_get f z l k j (by simpa using h) (fun y hy => hz y (by simp [hy])) hj
    have hx := hz x (by simp)
    simp only [rowOf, List.flatMap_cons] at ih ⊢
    rw [List.getElem?_append_right (by rw [hx, Nat.add_mul]; omega), hx]
    rw [show (k + 1) * z + j - z = k * z + j by rw [Nat.add_mul]; omega, ih]
    rfl
theorem rowOf_take {α : Type} (f : α → List Value) (z : Nat) (l : List α) (k : Nat) (hz : ∀ x ∈ l, (f x).length = z) (hk : k ≤ l.length) : (rowOf f l).take (k * z) = rowOf f (l.take k) := by
  have h := rowOf_append f (l.take k) (l.drop k)
  rw [List.take_append_drop] at h
  have hl : (rowOf f (l.take k)).length = k * z := by rw [rowOf_length f z _ (fun x hx => hz x (List.mem_of_mem_take hx)), List.length_take, Nat.min_eq_left hk]
  rw [h, ← hl, List.take_left]
theorem rowOf_drop {α : Type} (f : α → List Value) (z : Nat) (l : List α) (k : Nat) (hz : ∀ x ∈ l, (f x).length = z) (hk : k ≤ l.length) : (rowOf f l).drop (k * z) = rowOf f (l.drop k) := by
  have h := rowOf_append f (l.take k) (l.drop k)
  rw [List.take_append_drop] at h
  have hl : (rowOf f (l.take k)).length = k * z := by rw [rowOf_length f z _ (fun x hx => hz x (List.mem_of_mem_take hx)), List.length_take, Nat.min_eq_left hk]
  rw [h, ← hl, List.drop_left]
theorem rowOf_set {α : Type} (f : α → List Value) (z : Nat) (l : List α) (k : Nat) (x : α) (hz : ∀ y ∈ l, (f y).length = z) (hk : k < l.length) :
    (rowOf f l).take (k * z) ++ f x ++ (rowOf f l).drop (k * z + z) = rowOf f (l.set k x) := by
  rw [rowOf_take f z l k hz (by omega), show k * z + z = (k + 1) * z by rw [Nat.add_mul]; omega, rowOf_drop f z l (k + 1) hz (by omega), List.set_eq_take_append_cons_drop, if_pos hk]
  rw [rowOf_append, show x :: l.drop (k + 1) = [x] ++ l.drop (k + 1) from rfl, rowOf_append, rowOf_one]
  simp
theorem rowOf_oneC {α : Type} (f : α → List Value) (l : List α) (h : ∀ x ∈ l, ∀ u ∈ f x, u.oneCell' = true) : ∀ u ∈ rowOf f l, u.oneCell' = true := by
  intro u hu
  simp only [rowOf, List.mem_flatMap] at hu
  obtain ⟨x, hx, hu⟩ := hu
  exact h x hx u hu

/-- A disk. -/
structure Dk where
  now : List Bk
  safe : List Bk
  chg : List Cg
  steps : Nat
  fail : Int

structure Dk.ok (D : Dk) (n : Nat) : Prop where
  nowL : D.now.length = n
  safeL : D.safe.length = n
  nowO : ∀ x ∈ D.now, x.ok
  safeO : ∀ x ∈ D.safe, x.ok
  chgO : ∀ c ∈ D.chg, c.tgt.ok ∧ c.at_ < n

structure DkAt (w : World) (lo p nb sb : Nat) (cv : Value) (n : Nat) (D : Dk) : Prop where
  box : w.heap[p]? = some (.cells #[.slice (some ⟨nb, 0, none⟩) n n, .slice (some ⟨sb, 0, none⟩) n n, cv, .int .i64 (D.steps : Int), .int .i64 D.fail] 48 (0, 0))
  now : w.heap[nb]? = some (.cells (rowOf Bk.cells D.now).toArray 72 (0, 0))
  safe : w.heap[sb]? = some (.cells (rowOf Bk.cells D.safe).toArray 72 (0, 0))
  ne : nb ≠ sb
  lp : lo ≤ p
  ln : lo ≤ nb
  ls : lo ≤ sb
  chg : w.ownsRow lo 74 66 cv D.chg.length (rowOf Cg.cells D.chg)
  ok : D.ok n

/-- Of what was there only blocks from lo on, of some kinds, may have turned. -/
structure Keeps (lo : Nat) (T : List TypeId) (V W : World) : Prop where
  os : W.os = V.os
  tape : W.tape = V.tape
  output : W.output = V.output
  size : V.heap.size ≤ W.heap.size
  block : ∀ b, b < V.heap.size → (b < lo ∨ ∀ cs t fr, V.heap[b]? = some (.cells cs t fr) → t ∉ T) → W.heap[b]? = V.heap[b]?
section
variable {lo : Nat} {T : List TypeId} {V W U : World}
theorem Keeps.refl (lo : Nat) (T : List TypeId) (V : World) : Keeps lo T V V := ⟨rfl, rfl, rfl, Nat.le_refl _, fun _ _ _ => rfl⟩
theorem Keeps.trans (h : Keeps lo T V W) (k : Keeps lo T W U) : Keeps lo T V U :=
  ⟨k.os.trans h.os, k.tape.trans h.tape, k.output.trans h.output, Nat.le_trans h.size k.size, fun b hb ht => by
    have e := h.block b hb ht
    rw [← e]
    exact k.block b (by have := h.size; omega) (ht.imp id (fun h' cs t fr hh => h' cs t fr (e ▸ hh)))⟩
theorem Keeps.alloc (h : Keeps lo T V W) (o : Obj) : Keeps lo T V (W.alloc o) :=
  h.trans ⟨rfl, rfl, rfl, by simp, fun b hb _ => Below.heap_alloc _ _ _ hb⟩
theorem Keeps.drew (h : Keeps lo T V W) : Keeps lo T V W.drew := h.trans ⟨rfl, rfl, rfl, Nat.le_refl _, fun _ _ _ => rfl⟩
theorem Keeps.below (h : Keeps lo T V W) (hl : lo ≤ V.heap.size) : Below lo V W := ⟨h.os, h.tape, h.output, h.size, fun k hk => h.block k (by omega) (.inl hk)⟩
theorem Keeps.of_below (h : Below V.heap.size V W) : Keeps lo T V W := ⟨h.os, h.tape, h.output, h.size, fun b hb _ => h.block b hb⟩
theorem Keeps.mono {T' : List TypeId} (h : Keeps lo T V W) (ht : ∀ t ∈ T, t ∈ T') : Keeps lo T' V W :=
  ⟨h.os, h.tape, h.output, h.size, fun b hb hh => h.block b hb (hh.imp id (fun h' cs t fr e => fun hm => h' cs t fr e (ht t hm)))⟩
theorem Keeps.low {lo' : Nat} (h : Keeps lo T V W) (hl : lo' ≤ lo) : Keeps lo' T V W :=
  ⟨h.os, h.tape, h.output, h.size, fun b hb hh => h.block b hb (hh.imp (fun h' => by omega) id)⟩
theorem Keeps.row {b : Nat} {cs : Array Value} {t : TypeId} {fr : Nat × Nat} (h : Keeps lo T V W) (hb : V.heap[b]? = some (.cells cs t fr)) (ht : t ∉ T) : W.heap[b]? = some (.cells cs t fr) :=
  (h.block b (Array.getElem?_eq_some_iff.1 hb).1 (.inr (fun cs' t' fr' e => by rw [hb] at e; cases e; exact ht))).trans hb
theorem Keeps.setRow {b : Nat} {cs : Array Value} {t : TypeId} {fr : Nat × Nat} (h : Keeps lo T V W) (hb : W.heap[b]? = some (.cells cs t fr)) (ht : t ∈ T) (hl : lo ≤ b) (cs' : Array Value) : Keeps lo T V (W.setRow b cs') :=
  h.trans ⟨rfl, rfl, rfl, by simp, fun k hk hh => by
    by_cases e : k = b
    · subst e
      rcases hh with hh | hh
      · omega
      · exact absurd ht (hh _ _ _ hb)
    · exact setRow_other W b k cs' e⟩
theorem Keeps.grown {row : Option Nat} (h : Keeps lo T V W) (hg : W.grownBy U row) (hr : ∀ j, row = some j → lo ≤ j ∧ ∃ cs t fr, W.heap[j]? = some (.cells cs t fr) ∧ t ∈ T) : Keeps lo T V U :=
  h.trans ⟨hg.os, hg.tape, hg.output, hg.size, fun k hk hh => hg.block k hk (fun e => by
    obtain ⟨h1, cs, t, fr, h2, h3⟩ := hr k e.symm
    rcases hh with hh | hh
    · omega
    · exact hh _ _ _ h2 h3)⟩
end

theorem DkAt.p0 {w : World} {lo p nb sb : Nat} {cv : Value} {n : Nat} {D : Dk} (h : DkAt w lo p nb sb cv n D) : w.cell? ⟨p, 0, none⟩ = some (.slice (some ⟨nb, 0, none⟩) n n) := by have := h.box; simp [World.cell?, this]
theorem DkAt.p1 {w : World} {lo p nb sb : Nat} {cv : Value} {n : Nat} {D : Dk} (h : DkAt w lo p nb sb cv n D) : w.cell? ⟨p, 1, none⟩ = some (.slice (some ⟨sb, 0, none⟩) n n) := by have := h.box; simp [World.cell?, this]
theorem DkAt.p2 {w : World} {lo p nb sb : Nat} {cv : Value} {n : Nat} {D : Dk} (h : DkAt w lo p nb sb cv n D) : w.cell? ⟨p, 2, none⟩ = some cv := by have := h.box; simp [World.cell?, this]
theorem DkAt.p3 {w : World} {lo p nb sb : Nat} {cv : Value} {n : Nat} {D : Dk} (h : DkAt w lo p nb sb cv n D) : w.cell? ⟨p, 3, none⟩ = some (.int .i64 (D.steps : Int)) := by have := h.box; simp [World.cell?, this]
theorem DkAt.p4 {w : World} {lo p nb sb : Nat} {cv : Value} {n : Nat} {D : Dk} (h : DkAt w lo p nb sb cv n D) : w.cell? ⟨p, 4, none⟩ = some (.int .i64 D.fail) := by have := h.box; simp [World.cell?, this]
theorem DkAt.fz {w : World} {lo p nb sb : Nat} {cv : Value} {n : Nat} {D : Dk} (h : DkAt w lo p nb sb cv n D) (o : Nat) : w.frozen? ⟨p, o, none⟩ = false := by have := h.box; simp [World.frozen?, this]
theorem DkAt.lt {w : World} {lo p nb sb : Nat} {cv : Value} {n : Nat} {D : Dk} (h : DkAt w lo p nb sb cv n D) : p < w.heap.size := (Array.getElem?_eq_some_iff.1 h.box).1

/-- The kinds of blocks that a disk is made of. -/
def dkT : List TypeId := [48, 72, 74]

theorem ownsRow_keep {w W : World} {lo : Nat} {e : TypeId} {z : Nat} {v : Value} {m : Nat} {xs : List Value} (h : w.ownsRow lo e z v m xs) (hk : ∀ (b : Nat) (cs : Array Value), w.heap[b]? = some (.cells cs e (0, 0)) → lo ≤ b → W.heap[b]? = w.heap[b]?) : W.ownsRow lo e z v m xs := by
  rcases h.2 with ⟨hv, hn⟩ | ⟨g1, c1, cur, hv, hb1, hh, r⟩
  · exact ⟨h.1, .inl ⟨hv, hn⟩⟩
  · exact ⟨h.1, .inr ⟨g1, c1, cur, hv, hb1, (hk g1 cur hh hb1).trans hh, r⟩⟩

/-- A disk stands where nothing of its kinds turns. -/
theorem DkAt.keep {w W : World} {lo p nb sb : Nat} {cv : Value} {n : Nat} {D : Dk} (h : DkAt w lo p nb sb cv n D) (hk : ∀ (b : Nat) (cs : Array Value) (t : TypeId), w.heap[b]? = some (.cells cs t (0, 0)) → t ∈ dkT → W.heap[b]? = w.heap[b]?) : DkAt W lo p nb sb cv n D :=
  ⟨(hk _ _ _ h.box (by simp [dkT])).trans h.box, (hk _ _ _ h.now (by simp [dkT])).trans h.now, (hk _ _ _ h.safe (by simp [dkT])).trans h.safe, h.ne, h.lp, h.ln, h.ls, ownsRow_keep h.chg (fun b cs e _ => hk b cs _ e (by simp [dkT])), h.ok⟩
theorem DkAt.below {w W : World} {lo p nb sb : Nat} {cv : Value} {n : Nat} {D : Dk} (h : DkAt w lo p nb sb cv n D) (hb : Below w.heap.size w W) : DkAt W lo p nb sb cv n D :=
  h.keep (fun b cs t e _ => hb.block b (Array.getElem?_eq_some_iff.1 e).1)
theorem DkAt.keeps {w W : World} {lo p nb sb lo' : Nat} {T : List TypeId} {cv : Value} {n : Nat} {D : Dk} (h : DkAt w lo p nb sb cv n D) (hb : Keeps lo' T w W) (hT : ∀ t ∈ dkT, t ∉ T) : DkAt W lo p nb sb cv n D :=
  h.keep (fun b cs t e ht => (hb.row e (hT t ht)).trans e.symm)
end Go.Proofs.Ytijjegkkeigeoaa

namespace Go.Proofs.Ytijjegkkeigeoaa
set_option linter.unusedVariables false
set_option linter.unusedSimpArgs false
set_option maxRecDepth 100000
open Go.RowKit Go.Lib

/-- Nothing was made, nothing turned. -/
structure Still (w W : World) : Prop where
  os : W.os = w.os
  tape : W.tape = w.tape
  output : W.output = w.output
  heap : W.heap = w.heap
theorem Still.refl (w : World) : Still w w := ⟨rfl, rfl, rfl, rfl⟩
theorem Still.drew (w : World) : Still w w.drew := ⟨rfl, rfl, rfl, rfl⟩
theorem Still.drewN (w : World) (k : Nat) : Still w (w.drewN k) := ⟨rfl, rfl, rfl, rfl⟩
theorem Still.keeps {w W : World} (h : Still w W) (lo : Nat) (T : List TypeId) : Keeps lo T w W := ⟨h.os, h.tape, h.output, by rw [h.heap]; exact Nat.le_refl _, fun _ _ _ => by rw [h.heap]⟩
theorem Still.below {w W : World} (h : Still w W) (n : Nat) : Below n w W := ⟨h.os, h.tape, h.output, by rw [h.heap]; exact Nat.le_refl _, fun _ _ => by rw [h.heap]⟩
theorem DkAt.still {w W : World} {lo p nb sb : Nat} {cv : Value} {n : Nat} {D : Dk} (h : DkAt w lo p nb sb cv n D) (hs : Still w W) : DkAt W lo p nb sb cv n D := h.below (hs.below _)

def hasK (n : Nat) (i : Int) : Bool := decide (0 ≤ i ∧ i < n)
theorem has_any (lo p nb sb : Nat) (cv : Value) (n : Nat) (D : Dk) (i : Int) (w : World) (h : DkAt w lo p nb sb cv n D) :
    Calls Try.prog 36 #[.pointer (some ⟨p, 0, none⟩), .int .i64 i] w fun e w' => e = .returned (.bool (hasK n i)) ∧ Still w w' := by
  have c0 := h.p0
  clear h
  unfold hasK
  by_cases h0 : 0 ≤ i
  · by_cases h1 : i < n
    · rw [decide_eq_true ⟨h0, h1⟩]
      go_enter Try.func36, Try.ntmps36
      go_wp2
      go_ret
      exact ⟨rfl, Still.refl _⟩
    · rw [decide_eq_false (by omega)]
      go_enter Try.func36, Try.ntmps36
      go_wp2
      go_ret
      exact ⟨rfl, Still.refl _⟩
  · rw [decide_eq_false (by omega)]
    go_enter Try.func36, Try.ntmps36
    go_wp2
    go_ret
    exact ⟨rfl, Still.refl _⟩

def Dk.failing (D : Dk) : Bool := decide (0 ≤ D.fail ∧ D.fail ≤ (D.steps : Int))
theorem failing_any (lo p nb sb : Nat) (cv : Value) (n : Nat) (D : Dk) (w : World) (h : DkAt w lo p nb sb cv n D) :
    Calls Try.prog 35 #[.pointer (some ⟨p, 0, none⟩)] w fun e w' => e = .returned (.bool D.failing) ∧ Still w w' := by
  have c3 := h.p3
  have c4 := h.p4
  clear h
  unfold Dk.failing
  generalize D.fail = f at *
  generalize (D.steps : Int) = s at *
  by_cases h0 : 0 ≤ f
  · by_cases h1 : f ≤ s
    · rw [decide_eq_true ⟨h0, h1⟩]
      go_enter Try.func35, Try.ntmps35
      go_wp2
      go_region_held3 (fun u => u.cell? ⟨p, 3, none⟩ = some (.int .i64 s) ∧ u.cell? ⟨p, 4, none⟩ = some (.int .i64 f)) (go_keep) (fail)
      go_wp2
      go_ret
      exact ⟨rfl, Still.drew _⟩
    · rw [decide_eq_false (by omega)]
      have hd1 : decide (f ≤ s) = false := decide_eq_false h1
      go_enter Try.func35, Try.ntmps35
      go_wp2
      go_region_held3 (fun u => u.cell? ⟨p, 3, none⟩ = some (.int .i64 s) ∧ u.cell? ⟨p, 4, none⟩ = some (.int .i64 f)) (go_keep) (fail)
      go_wp2
      go_ret
      exact ⟨rfl, Still.drew _⟩
  · rw [decide_eq_false (by omega)]
    have hd0 : decide (0 ≤ f) = false := decide_eq_false h0
    go_enter Try.func35, Try.ntmps35
    go_wp2
    go_quiet (fail)
    go_wp2
    go_ret
    exact ⟨rfl, Still.drewN _ _⟩

theorem steps_any (lo p nb sb : Nat) (cv : Value) (n : Nat) (D : Dk) (w : World) (h : DkAt w lo p nb sb cv n D) :
    Calls Try.prog 10 #[.pointer (some ⟨p, 0, none⟩)] w fun e w' => e = .returned (.int .i64 (D.steps : Int)) ∧ w' = w := by
  have c3 := h.p3
  clear h
  go_enter Try.func10, Try.ntmps10
  go_wp2
  go_ret
  exact ⟨rfl, rfl⟩
end Go.Proofs.Ytijjegkkeigeoaa

namespace Go.Proofs.Ytijjegkkeigeoaa
open Go
set_option linter.unusedVariables false

section
variable {P : Program} {ops : Array Oper} {Q : Exit → Act → World → Prop} {md : Region.Mode} {T : World → Prop} {g : Nat}

/-- Whatever order is picked from here on, and T holds behind every operation till operation g has come up. -/
def wpAnyL (P : Program) (md : Region.Mode) (ops : Array Oper) (Q : Exit → Act → World → Prop) (g : Nat) (T : World → Prop) : Nat → Array Bool → Act → World → Prop
  | 0, listed, a, w => Region.ready md ops listed = [] ∧ Q .normal a w
  | fuel + 1, listed, a, w =>
    (Region.ready md ops listed = [] → Q .normal a w) ∧
    ∀ i ∈ Region.ready md ops listed, wpOp P ops Q i (fun a' w' => ((listed.setIfInBounds i true).getD g true = false → T w') ∧ wpAnyL P md ops Q g T fuel (listed.setIfInBounds i true) a' w') a w

theorem any_of_L : ∀ (fuel : Nat) (listed : Array Bool) (a : Act) (w : World), wpAnyL P md ops Q g T fuel listed a w → wpAny P md ops Q fuel listed a w
  | 0, _, _, _, h => h
  | fuel + 1, _, _, _, h => ⟨h.1, fun i hi => wpOp_mono (fun a' w' h' => any_of_L fuel _ a' w' h'.2) (h.2 i hi)⟩

/-- Once g has come up, nothing more is asked of worlds. -/
theorem L_of_any : ∀ (fuel : Nat) (listed : Array Bool) (a : Act) (w : World), listed.getD g true = true → wpAny P md ops Q fuel listed a w → wpAnyL P md ops Q g T fuel listed a w
  | 0, _, _, _, _, h => h
  | fuel + 1, listed, _, _, hg, h => ⟨h.1, fun i hi => wpOp_mono (fun a' w' h' => by
      have hg' : (listed.setIfInBounds i true).getD g true = true := by
        by_cases e : i = g
        · subst e
          by_cases hs : i < listed.size
          · simp [hs]
          · simp [hs]
        · rw [getD_set_ne true e]; exact hg
      exact ⟨(fun h0 => by rw [hg'] at h0; cases h0), L_of_any fuel _ a' w' hg' h'⟩) (h.2 i hi)⟩

theorem L_first {i : Nat} {oi og : Oper} {v : Value} (hi : ops[i]? = some oi) (hgo : ops[g]? = some og) (hw : ∃ e ∈ og.after, Region.binds md e = true ∧ e.on = i) (hgi : g ≠ i)
    (hsel : ∀ (j : Nat) (o : Oper) cs b, ops[j]? = some o → o.op ≠ .select cs b) (hQ : ∀ c a w, Q (.panic c) (a.put oi.dst v) w → Q (.panic c) a w) :
    ∀ (fuel : Nat) (listed : Array Bool) (a : Act) (w : World),
      (∀ j oj, ops[j]? = some oj → j ≠ i → listed.getD j true = false → (∀ e ∈ oj.after, Region.binds md e = true → e.on ≠ i) → oi.apart ops oj = true) →
      i ∈ Region.ready md ops listed → listed.getD g true = false → YieldsIf P ops T oi v a → T w →
      wpAnyL P md ops Q g T fuel (listed.setIfInBounds i true) (a.put oi.dst v) w → wpAnyL P md ops Q g T (fuel + 1) listed a w := by
  intro fuel
  induction fuel with
  | zero =>
    intro listed a w _ hr _ hy hT H
    refine ⟨fun h => (by rw [h] at hr; cases hr), fun j hj => ?_⟩
    by_cases hji : j = i
    · subst hji; exact hy.wpOp hi hT ⟨fun _ => hT, H⟩
    · have := ready_mono hj hji
      rw [H.1] at this
      cases this
  | succ fuel ih =>
    intro listed a w hfree hr hlg hy hT H
    refine ⟨fun h => (by rw [h] at hr; cases hr), fun j hj => ?_⟩
    by_cases hji : j = i
    · subst hji; exact hy.wpOp hi hT ⟨fun _ => hT, H⟩
    · have h1 := H.2 j (ready_mono hj hji)
      obtain ⟨hjun, oj, hoj, hall⟩ := mem_ready.1 hj
      have hnot : ∀ e ∈ oj.after, Region.binds md e = true → e.on ≠ i := fun e he hb heq => by
        have h1 := hall e he hb
        have h0 := (mem_ready.1 hr).1
        rw [heq] at h1
        rcases Nat.lt_or_ge i listed.size with h' | h'
        · simp [h'] at h0 h1; rw [h0] at h1; cases h1
        · simp [Array.getElem?_eq_none h'] at h1
      have hjg : j ≠ g := by
        rintro rfl
        obtain ⟨e, he, hb, heq⟩ := hw
        rw [hgo] at hoj
        cases hoj
        exact hnot e he hb heq
      have h2 := wpOp_putIf hoj (hfree j oj hoj hji hjun hnot) (fun cs b => hsel i oi cs b hi) (fun cs b => hsel j oj cs b hoj) hQ hy h1
      have hfree' : ∀ k ok, ops[k]? = some ok → k ≠ i → (listed.setIfInBounds j true).getD k true = false →
          (∀ e ∈ ok.after, Region.binds md e = true → e.on ≠ i) → oi.apart ops ok = true := fun k ok hk hki hun hno => by
        refine hfree k ok hk hki ?_ hno
        by_cases hjk : j = k
        · subst hjk; exact hjun
        · rw [getD_set_ne true hjk] at hun; exact hun
      have hlg' : (listed.setIfInBounds j true).getD g true = false := by rw [getD_set_ne true hjg]; exact hlg
      refine wpOp_mono (fun a' w' h3 => ?_) h2
      have hT' : T w' := h3.2.1 (by rw [getD_set_ne true hjg, getD_set_ne true (Ne.symm hgi)]; exact hlg)
      refine ⟨fun _ => hT', ih (listed.setIfInBounds j true) a' w' hfree' (ready_mono hr (Ne.symm hji)) hlg' h3.1 hT' ?_⟩
      rw [Array.setIfInBounds_comm _ _ hji]
      exact h3.2.2

/-- The named operation itself. -/
theorem L_go {fuel : Nat} {listed : Array Bool} {a : Act} {w : World} (hr : Region.ready md ops listed = [g]) (hgs : (listed.setIfInBounds g true).getD g true = true)
    (h : wpOp P ops Q g (wpAny P md ops Q fuel (listed.setIfInBounds g true)) a w) : wpAnyL P md ops Q g T (fuel + 1) listed a w := by
  refine ⟨(fun h0 => by rw [hr] at h0; simp at h0), fun i hi => ?_⟩
  rw [hr] at hi
  obtain rfl := List.mem_singleton.1 hi
  exact wpOp_mono (fun a' w' h' => ⟨(fun h0 => by rw [hgs] at h0; cases h0), L_of_any fuel _ a' w' hgs h'⟩) h

/-- The only one that may come up, and it yields its value. -/
theorem L_take1 {i : Nat} {oi : Oper} {v : Value} {fuel : Nat} {listed : Array Bool} {a : Act} {w : World} (hi : ops[i]? = some oi) (hr : Region.ready md ops listed = [i]) (hy : YieldsIf P ops T oi v a) (hT : T w)
    (h : wpAnyL P md ops Q g T fuel (listed.setIfInBounds i true) (a.put oi.dst v) w) : wpAnyL P md ops Q g T (fuel + 1) listed a w := by
  refine ⟨(fun h0 => by rw [hr] at h0; simp at h0), fun j hj => ?_⟩
  rw [hr] at hj
  obtain rfl := List.mem_singleton.1 hj
  exact hy.wpOp hi hT ⟨fun _ => hT, h⟩

/-- The only one that may come up. -/
theorem any_one {i fuel : Nat} {listed : Array Bool} {a : Act} {w : World} (hr : Region.ready md ops listed = [i])
    (h : wpOp P ops Q i (wpAny P md ops Q fuel (listed.setIfInBounds i true)) a w) : wpAny P md ops Q (fuel + 1) listed a w := by
  refine ⟨(fun h0 => by rw [hr] at h0; simp at h0), fun j hj => ?_⟩
  rw [hr] at hj
  obtain rfl := List.mem_singleton.1 hj
  exact h

/-- The move of a walk. -/
theorem L_take {i : Nat} {oi og : Oper} {v : Value} {fuel : Nat} {listed : Array Bool} {a : Act} {w : World} (hi : ops[i]? = some oi) (hgo : ops[g]? = some og)
    (hw : (og.after.any fun e => Region.binds md e && e.on == i) = true) (hgi : g ≠ i)
    (hs : Region.noSelect ops = true) (hf : Region.free md ops listed i = true) (hr : (Region.ready md ops listed).contains i = true) (hlg : listed.getD g true = false)
    (hQ : ∀ c a w, Q (.panic c) (a.put oi.dst v) w → Q (.panic c) a w) (hy : YieldsIf P ops T oi v a) (hT : T w)
    (h : wpAnyL P md ops Q g T fuel (listed.setIfInBounds i true) (a.put oi.dst v) w) : wpAnyL P md ops Q g T (fuel + 1) listed a w :=
  L_first hi hgo (by
    rw [Array.any_eq_true] at hw
    obtain ⟨k, hk, he⟩ := hw
    simp only [Bool.and_eq_true, beq_iff_eq] at he
    exact ⟨og.after[k], Array.getElem_mem hk, he.1, he.2⟩) hgi (Region.noSelect_spec hs) hQ fuel listed a w (Region.free_spec hi hf) (by simpa using hr) hlg hy hT h
end
end Go.Proofs.Ytijjegkkeigeoaa

namespace Go.Proofs.Ytijjegkkeigeoaa
open Go
set_option linter.unusedVariables false

section
variable {P : Program} {ops : Array Oper} {Q : Exit → Act → World → Prop} {md : Region.Mode} {T : World → Prop} {g m : Nat}

theorem L_first2 {i : Nat} {oi om og : Oper} {v : Value} (hi : ops[i]? = some oi) (hmo : ops[m]? = some om) (hgo : ops[g]? = some og) (hwm : ∃ e ∈ om.after, Region.binds md e = true ∧ e.on = i) (hwg : ∃ e ∈ og.after, Region.binds md e = true ∧ e.on = m) (hgi : g ≠ i)
    (hsel : ∀ (j : Nat) (o : Oper) cs b, ops[j]? = some o → o.op ≠ .select cs b) (hQ : ∀ c a w, Q (.panic c) (a.put oi.dst v) w → Q (.panic c) a w) :
    ∀ (fuel : Nat) (listed : Array Bool) (a : Act) (w : World),
      (∀ j oj, ops[j]? = some oj → j ≠ i → listed.getD j true = false → (∀ e ∈ oj.after, Region.binds md e = true → e.on ≠ i) → oi.apart ops oj = true) →
      i ∈ Region.ready md ops listed → listed.getD g true = false → listed.getD m true = false → YieldsIf P ops T oi v a → T w →
      wpAnyL P md ops Q g T fuel (listed.setIfInBounds i true) (a.put oi.dst v) w → wpAnyL P md ops Q g T (fuel + 1) listed a w := by
  have unl : ∀ (listed : Array Bool) (k : Nat), listed.getD k true = false → listed[k]? ≠ some true := fun listed k h h' => by
    rcases Nat.lt_or_ge k listed.size with h1 | h1
    · simp [h1] at h h'; rw [h] at h'; cases h'
    · simp [Array.getElem?_eq_none h1] at h'
  intro fuel
  induction fuel with
  | zero =>
    intro listed a w _ hr _ _ hy hT H
    refine ⟨fun h => (by rw [h] at hr; cases hr), fun j hj => ?_⟩
    by_cases hji : j = i
    · subst hji; exact hy.wpOp hi hT ⟨fun _ => hT, H⟩
    · have := ready_mono hj hji
      rw [H.1] at this
      cases this
  | succ fuel ih =>
    intro listed a w hfree hr hlg hlm hy hT H
    refine ⟨fun h => (by rw [h] at hr; cases hr), fun j hj => ?_⟩
    by_cases hji : j = i
    · subst hji; exact hy.wpOp hi hT ⟨fun _ => hT, H⟩
    · have h1 := H.2 j (ready_mono hj hji)
      obtain ⟨hjun, oj, hoj, hall⟩ := mem_ready.1 hj
      have hnot : ∀ e ∈ oj.after, Region.binds md e = true → e.on ≠ i := fun e he hb heq => by
        have h1 := hall e he hb
        have h0 := (mem_ready.1 hr).1
        rw [heq] at h1
        rcases Nat.lt_or_ge i listed.size with h' | h'
        · simp [h'] at h0 h1; rw [h0] at h1; cases h1
        · simp [Array.getElem?_eq_none h'] at h1
      have hjg : j ≠ g := by
        rintro rfl
        obtain ⟨e, he, hb, heq⟩ := hwg
        rw [hgo] at hoj
        cases hoj
        have h1 := hall e he hb
        rw [heq] at h1
        rcases Nat.lt_or_ge m listed.size with h' | h'
        · simp [h'] at hlm h1; rw [hlm] at h1; cases h1
        · simp [Array.getElem?_eq_none h'] at h1
      have hjm : j ≠ m := by
        rintro rfl
        obtain ⟨e, he, hb, heq⟩ := hwm
        rw [hmo] at hoj
        cases hoj
        exact hnot e he hb heq
      have h2 := wpOp_putIf hoj (hfree j oj hoj hji hjun hnot) (fun cs b => hsel i oi cs b hi) (fun cs b => hsel j oj cs b hoj) hQ hy h1
      have hfree' : ∀ k ok, ops[k]? = some ok → k ≠ i → (listed.setIfInBounds j true).getD k true = false →
          (∀ e ∈ ok.after, Region.binds md e = true → e.on ≠ i) → oi.apart ops ok = true := fun k ok hk hki hun hno => by
        refine hfree k ok hk hki ?_ hno
        by_cases hjk : j = k
        · subst hjk; exact hjun
        · rw [getD_set_ne true hjk] at hun; exact hun
      have hlg' : (listed.setIfInBounds j true).getD g true = false := by rw [getD_set_ne true hjg]; exact hlg
      have hlm' : (listed.setIfInBounds j true).getD m true = false := by rw [getD_set_ne true hjm]; exact hlm
      refine wpOp_mono (fun a' w' h3 => ?_) h2
      have hT' : T w' := h3.2.1 (by rw [getD_set_ne true hjg, getD_set_ne true (Ne.symm hgi)]; exact hlg)
      refine ⟨fun _ => hT', ih (listed.setIfInBounds j true) a' w' hfree' (ready_mono hr (Ne.symm hji)) hlg' hlm' h3.1 hT' ?_⟩
      rw [Array.setIfInBounds_comm _ _ hji]
      exact h3.2.2

/-- The move of a walk. -/
theorem L_take2 {i : Nat} {oi om og : Oper} {v : Value} {fuel : Nat} {listed : Array Bool} {a : Act} {w : World} (hi : ops[i]? = some oi) (hmo : ops[m]? = some om) (hgo : ops[g]? = some og)
    (hwm : (om.after.any fun e => Region.binds md e && e.on == i) = true) (hwg : (og.after.any fun e => Region.binds md e && e.on == m) = true) (hgi : g ≠ i)
    (hs : Region.noSelect ops = true) (hf : Region.free md ops listed i = true) (hr : (Region.ready md ops listed).contains i = true) (hlg : listed.getD g true = false) (hlm : listed.getD m true = false)
    (hQ : ∀ c a w, Q (.panic c) (a.put oi.dst v) w → Q (.panic c) a w) (hy : YieldsIf P ops T oi v a) (hT : T w)
    (h : wpAnyL P md ops Q g T fuel (listed.setIfInBounds i true) (a.put oi.dst v) w) : wpAnyL P md ops Q g T (fuel + 1) listed a w := by
  have any : ∀ (o : Oper) (k : Nat), (o.after.any fun e => Region.binds md e && e.on == k) = true → ∃ e ∈ o.after, Region.binds md e = true ∧ e.on = k := fun o k hw => by
    rw [Array.any_eq_true] at hw
    obtain ⟨q, hq, he⟩ := hw
    simp only [Bool.and_eq_true, beq_iff_eq] at he
    exact ⟨o.after[q], Array.getElem_mem hq, he.1, he.2⟩
  exact L_first2 hi hmo hgo (any om i hwm) (any og m hwg) hgi (Region.noSelect_spec hs) hQ fuel listed a w (Region.free_spec hi hf) (by simpa using hr) hlg hlm hy hT h

/-- The only one that may come up: what it leaves meets the condition. -/
theorem L_one {i fuel : Nat} {listed : Array Bool} {a : Act} {w : World} (hr : Region.ready md ops listed = [i])
    (h : wpOp P ops Q i (fun a' w' => T w' ∧ wpAnyL P md ops Q g T fuel (listed.setIfInBounds i true) a' w') a w) : wpAnyL P md ops Q g T (fuel + 1) listed a w := by
  refine ⟨(fun h0 => by rw [hr] at h0; simp at h0), fun j hj => ?_⟩
  rw [hr] at hj
  obtain rfl := List.mem_singleton.1 hj
  exact wpOp_mono (fun a' w' h' => ⟨fun _ => h'.1, h'.2⟩) h
/-- One of two may come up: whichever it is, what it leaves meets the condition. -/
theorem L_two {i j fuel : Nat} {listed : Array Bool} {a : Act} {w : World} (hr : Region.ready md ops listed = [i, j])
    (h1 : wpOp P ops Q i (fun a' w' => T w' ∧ wpAnyL P md ops Q g T fuel (listed.setIfInBounds i true) a' w') a w)
    (h2 : wpOp P ops Q j (fun a' w' => T w' ∧ wpAnyL P md ops Q g T fuel (listed.setIfInBounds j true) a' w') a w) : wpAnyL P md ops Q g T (fuel + 1) listed a w := by
  refine ⟨(fun h0 => by rw [hr] at h0; simp at h0), fun k hk => ?_⟩
  rw [hr] at hk
  rcases List.mem_cons.1 hk with rfl | hk
  · exact wpOp_mono (fun a' w' h' => ⟨fun _ => h'.1, h'.2⟩) h1
  · obtain rfl := List.mem_singleton.1 hk
    exact wpOp_mono (fun a' w' h' => ⟨fun _ => h'.1, h'.2⟩) h2
end
end Go.Proofs.Ytijjegkkeigeoaa

namespace Go.Proofs.Ytijjegkkeigeoaa
set_option linter.unusedVariables false
set_option linter.unusedSimpArgs false
set_option maxRecDepth 100000
open Go.RowKit Go.Lib

def dk0 (n : Nat) : Dk := ⟨List.replicate n bk0, List.replicate n bk0, [], 0, -1⟩
theorem dk0_ok (n : Nat) : (dk0 n).ok n :=
  ⟨by simp [dk0], by simp [dk0], by simp [dk0, bk0_ok], by simp [dk0, bk0_ok], by simp [dk0]⟩

theorem content_info : (Try.prog.info? 72).map (fun i => (i.zero, i.size, i.bytes)) = some (some (.agg bk0.cells.toArray), 65, 65) := by kernel_rfl
theorem rep_row {α : Type} (f : α → List Value) (z : Nat) (x : α) (hz : (f x).length = z) (hp : 0 < z) (n : Nat) : madeCells (f x).toArray (n * z) = (rowOf f (List.replicate n x)).toArray := by
  apply Array.ext
  · rw [size_madeCells, List.size_toArray, rowOf_length f z _ (by intro y hy; rw [List.eq_of_mem_replicate hy]; exact hz), List.length_replicate]
  · intro k h1 h2
    rw [size_madeCells] at h1
    have hq : k / z < n := Nat.div_lt_of_lt_mul (by rw [Nat.mul_comm]; exact h1)
    have hr : k % z < z := Nat.mod_lt _ hp
    have e : k / z * z + k % z = k := by rw [Nat.mul_comm]; exact Nat.div_add_mod k z
    have g := rowOf_get f z (List.replicate n x) (k / z) (k % z) (by simpa using hq) (by intro y hy; rw [List.eq_of_mem_replicate hy]; exact hz) hr
    rw [e] at g
    simp only [List.getElem_replicate] at g
    simp only [madeCells, Array.getElem_map, Array.getElem_range, List.size_toArray, hz, List.getElem_toArray]
    have h3 : k % z < (f x).toArray.size := by simpa [hz] using hr
    rw [getElem!_pos (f x).toArray (k % z) h3]
    rw [List.getElem?_eq_getElem (by simpa using h2), List.getElem?_eq_getElem (by simpa [hz] using hr)] at g
    simpa using (Option.some.inj g).symm
theorem make_blocks (n : Nat) (hn : n ≤ 200) (w : World) : (Instr.makeSlice 45 (.int .i64 (n : Int)) (.int .i64 (n : Int))).run Try.prog w = .ok (.slice (some ⟨w.heap.size, 0, none⟩) n n) (w.alloc (.cells (rowOf Bk.cells (List.replicate n bk0)).toArray 72)) := by
  obtain ⟨i, hi, hzz⟩ := Option.map_eq_some_iff.1 content_info
  simp only [Prod.mk.injEq] at hzz
  obtain ⟨hz, hs, hb⟩ := hzz
  have h := run_make (P := Try.prog) w 45 72 i (.agg bk0.cells.toArray) Try.underlying45 hi hz .i64 .i64 n n (by omega) (by omega) (by rw [hb]; omega) (by omega)
  rw [hs] at h
  simp only [Int.toNat_natCast, Value.cells] at h
  rw [rep_row Bk.cells 65 bk0 (Bk.cells_length bk0_ok) (by omega)] at h
  exact h

theorem new_bad (n : Int) (w : World) (h : ¬ (1 ≤ n ∧ n ≤ 200)) :
    Calls Try.prog 4 #[.int .i64 n] w fun e w' => e = .returned (.tuple #[.pointer none, enE 1]) ∧ w' = w := by
  rw [enE_ne (by decide)]
  by_cases h1 : n < 1
  · go_enter Try.func4, Try.ntmps4
    go_wp2
    go_ret2
    exact ⟨rfl, rfl⟩
  · have h2 : 200 < n := by omega
    go_enter Try.func4, Try.ntmps4
    go_wp2
    go_ret2
    exact ⟨rfl, rfl⟩

theorem three_new (w : World) (o1 o2 o3 : Obj) : (((w.alloc o1).alloc o2).alloc o3).heap[w.heap.size]? = some o1 ∧ (((w.alloc o1).alloc o2).alloc o3).heap[w.heap.size + 1]? = some o2 ∧ (((w.alloc o1).alloc o2).alloc o3).heap[w.heap.size + 2]? = some o3 := by
  refine ⟨?_, ?_, ?_⟩
  · rw [Below.heap_alloc _ _ _ (by simp; omega), Below.heap_alloc _ _ _ (by simp), new_heap]
  · rw [Below.heap_alloc _ _ _ (by simp)]
    have := new_heap (w.alloc o1) o2
    rwa [World.size_alloc] at this
  · have := new_heap ((w.alloc o1).alloc o2) o3
    rwa [World.size_alloc, World.size_alloc] at this

set_option maxHeartbeats 4000000 in
theorem new_ok (n : Nat) (w : World) (h1 : 1 ≤ n) (h2 : n ≤ 200) :
    Calls Try.prog 4 #[.int .i64 (n : Int)] w fun e w' => ∃ p nb sb, e = .returned (.tuple #[.pointer (some ⟨p, 0, none⟩), .nilIface]) ∧ DkAt w' w.heap.size p nb sb (.slice none 0 0) n (dk0 n) ∧ Below w.heap.size w w' := by
  have hmk := make_blocks n h2
  have Hend : Hid (∀ R, R = rowOf Bk.cells (List.replicate n bk0) → ∀ a b, ((a = w.heap.size ∧ b = w.heap.size + 1) ∨ (a = w.heap.size + 1 ∧ b = w.heap.size)) →
      DkAt (((w.drew.alloc (.cells R.toArray 72)).alloc (.cells R.toArray 72)).alloc (.cells #[.slice (some ⟨a, 0, none⟩) n n, .slice (some ⟨b, 0, none⟩) n n, .slice none 0 0, .int .i64 0, .int .i64 (-1)] 48)) w.heap.size (w.heap.size + 2) a b (.slice none 0 0) n (dk0 n)) := by
    intro R hR a b hab
    obtain ⟨e1, e2, e3⟩ := three_new w.drew (.cells R.toArray 72) (.cells R.toArray 72) (.cells #[.slice (some ⟨a, 0, none⟩) n n, .slice (some ⟨b, 0, none⟩) n n, .slice none 0 0, .int .i64 0, .int .i64 (-1)] 48)
    have ew : w.drew.heap.size = w.heap.size := rfl
    rw [ew] at e1 e2 e3
    subst hR
    rcases hab with ⟨rfl, rfl⟩ | ⟨rfl, rfl⟩
    · exact ⟨e3, e1, e2, by omega, by omega, by omega, by omega, World.ownsRow_nil _ _ _ _, dk0_ok n⟩
    · exact ⟨e3, e2, e1, by omega, by omega, by omega, by omega, World.ownsRow_nil _ _ _ _, dk0_ok n⟩
  have n1 : (1 : Int) ≤ n := by omega
  have n2 : (n : Int) ≤ 200 := by omega
  have HR : Hid (_ = _) := (rfl : rowOf Bk.cells (List.replicate n bk0) = rowOf Bk.cells (List.replicate n bk0))
  generalize hRR : rowOf Bk.cells (List.replicate n bk0) = R at hmk HR
  have HRR : Hid (R = rowOf Bk.cells (List.replicate n bk0)) := hRR.symm
  clear hRR HR
  go_enter Try.func4, Try.ntmps4
  go_wp2
  refine wp_region_any (by kernel_rfl) ?_
  refine wpAny_take (i := 0) (v := .int .i64 n) rfl (by kernel_rfl) (by kernel_rfl) (by kernel_rfl) (fun _ _ _ h => h) (Or.inl ⟨by rfl, fun w => by go_simp⟩) ?_
  simp only [Act.put, List.getElem_toArray, List.getElem_cons_succ, List.getElem_cons_zero, List.setIfInBounds_toArray, List.set_cons_zero, List.set_cons_succ]
  refine wpAny_take (i := 2) (v := .int .i64 n) rfl (by kernel_rfl) (by kernel_rfl) (by kernel_rfl) (fun _ _ _ h => h) (Or.inl ⟨by rfl, fun w => by go_simp⟩) ?_
  simp only [Act.put, List.getElem_toArray, List.getElem_cons_succ, List.getElem_cons_zero, List.setIfInBounds_toArray, List.set_cons_zero, List.set_cons_succ]
  refine wpAny_ready (rs := [1, 3]) (by kernel_rfl) (by simp) (AllReady.cons rfl (fun K hK => ?_) (AllReady.cons rfl (fun K hK => ?_) AllReady.nil))
  · rw [if_pos (by rfl)]
    have hK' : Shut (∀ a w, _ → K a w) := hK
    clear hK
    go_wp2
    refine hK'.out _ _ ?_
    clear hK' K
    refine any_one (i := 3) (by kernel_rfl) ?_
    refine wpOp_step rfl ?_
    intro K hK
    rw [if_pos (by rfl)]
    have hK' : Shut (∀ a w, _ → K a w) := hK
    clear hK
    go_wp2
    refine hK'.out _ _ ?_
    clear hK' K
    refine any_one (i := 4) (by kernel_rfl) ?_
    refine wpOp_step rfl ?_
    intro K hK
    rw [if_pos (by rfl)]
    have hK' : Shut (∀ a w, _ → K a w) := hK
    clear hK
    go_wp2
    refine hK'.out _ _ ?_
    clear hK' K
    refine any_one (i := 5) (by kernel_rfl) ?_
    refine wpOp_step rfl ?_
    intro K hK
    rw [if_pos (by rfl)]
    have hK' : Shut (∀ a w, _ → K a w) := hK
    clear hK
    go_wp2
    refine hK'.out _ _ ?_
    clear hK' K
    refine any_one (i := 6) (by kernel_rfl) ?_
    refine wpOp_step rfl ?_
    intro K hK
    rw [if_pos (by rfl)]
    have hK' : Shut (∀ a w, _ → K a w) := hK
    clear hK
    go_wp2
    refine hK'.out _ _ ?_
    clear hK' K
    refine any_one (i := 7) (by kernel_rfl) ?_
    refine wpOp_step rfl ?_
    intro K hK
    rw [if_pos (by rfl)]
    have hK' : Shut (∀ a w, _ → K a w) := hK
    clear hK
    go_wp2
    refine hK'.out _ _ ?_
    clear hK' K
    refine wpAny_done (by kernel_rfl) ?_ _
    go_wp2
    go_ret2
    exact ⟨_, _, _, rfl, Hend.out R HRR.out _ _ (.inl ⟨rfl, rfl⟩), (((Below.refl _ w).drew.alloc (Nat.le_refl _) _).alloc (by simp) _).alloc (by simp; omega) _⟩
  · rw [if_pos (by rfl)]
    have hK' : Shut (∀ a w, _ → K a w) := hK
    clear hK
    go_wp2
    refine hK'.out _ _ ?_
    clear hK' K
    refine any_one (i := 1) (by kernel_rfl) ?_
    refine wpOp_step rfl ?_
    intro K hK
    rw [if_pos (by rfl)]
    have hK' : Shut (∀ a w, _ → K a w) := hK
    clear hK
    go_wp2
    refine hK'.out _ _ ?_
    clear hK' K
    refine any_one (i := 4) (by kernel_rfl) ?_
    refine wpOp_step rfl ?_
    intro K hK
    rw [if_pos (by rfl)]
    have hK' : Shut (∀ a w, _ → K a w) := hK
    clear hK
    go_wp2
    refine hK'.out _ _ ?_
    clear hK' K
    refine any_one (i := 5) (by kernel_rfl) ?_
    refine wpOp_step rfl ?_
    intro K hK
    rw [if_pos (by rfl)]
    have hK' : Shut (∀ a w, _ → K a w) := hK
    clear hK
    go_wp2
    refine hK'.out _ _ ?_
    clear hK' K
    refine any_one (i := 6) (by kernel_rfl) ?_
    refine wpOp_step rfl ?_
    intro K hK
    rw [if_pos (by rfl)]
    have hK' : Shut (∀ a w, _ → K a w) := hK
    clear hK
    go_wp2
    refine hK'.out _ _ ?_
    clear hK' K
    refine any_one (i := 7) (by kernel_rfl) ?_
    refine wpOp_step rfl ?_
    intro K hK
    rw [if_pos (by rfl)]
    have hK' : Shut (∀ a w, _ → K a w) := hK
    clear hK
    go_wp2
    refine hK'.out _ _ ?_
    clear hK' K
    refine wpAny_done (by kernel_rfl) ?_ _
    go_wp2
    go_ret2
    exact ⟨_, _, _, rfl, Hend.out R HRR.out _ _ (.inr ⟨rfl, rfl⟩), (((Below.refl _ w).drew.alloc (Nat.le_refl _) _).alloc (by simp) _).alloc (by simp; omega) _⟩
end Go.Proofs.Ytijjegkkeigeoaa

namespace Go.Proofs.Ytijjegkkeigeoaa
set_option linter.unusedVariables false
set_option linter.unusedSimpArgs false
set_option maxRecDepth 100000
open Go.RowKit Go.Lib

/-- A slice of numbers. -/
structure IsIn (w : World) (a : Option Addr) (l : List Int) (cap : Nat) : Prop where
  cap : l.length ≤ cap
  lies : l = [] ∨ ∃ b off, a = some ⟨b, off, none⟩ ∧ b < w.heap.size ∧ ∀ k, k < l.length → w.cell? ⟨b, off + k, none⟩ = some (.int .i64 (l.getD k 0))
theorem IsIn.below {w w' : World} {a : Option Addr} {l : List Int} {cap : Nat} (h : IsIn w a l cap) (hb : Below w.heap.size w w') : IsIn w' a l cap := by
  refine ⟨h.cap, ?_⟩
  rcases h.lies with h | ⟨b, off, e, hlt, hc⟩
  · exact .inl h
  · exact .inr ⟨b, off, e, by have := hb.size; omega, fun k hk => (hb.cell (p := ⟨b, off + k, none⟩) hlt).trans (hc k hk)⟩

def markL (l : List Int) (n : Nat) : List Bool := (List.range n).map fun (i : Nat) => decide ((i : Int) ∈ l)
theorem markL_length (l : List Int) (n : Nat) : (markL l n).length = n := by simp [markL]
theorem markL_get (l : List Int) (n i : Nat) (h : i < n) : (markL l n).getD i false = decide ((i : Int) ∈ l) := by simp [markL, List.getD, h]
theorem markL_in (l : List Int) (n : Nat) (x : Int) (h0 : 0 ≤ x) (h1 : x < n) : (markL l n).set x.toNat true = markL (l ++ [x]) n := by
  apply List.ext_getElem
  · simp [markL]
  · intro i h2 h3
    simp only [markL, List.getElem_set, List.getElem_map, List.getElem_range, List.mem_append, List.mem_singleton]
    by_cases e : x.toNat = i
    · rw [if_pos e]
      have : (i : Int) = x := by omega
      simp [this]
    · rw [if_neg e]
      have : ¬ (i : Int) = x := by omega
      simp [this]
theorem markL_out (l : List Int) (n : Nat) (x : Int) (h : ¬ (0 ≤ x ∧ x < n)) : markL (l ++ [x]) n = markL l n := by
  apply List.ext_getElem
  · simp [markL]
  · intro i h2 h3
    have hi : i < n := by simpa [markL] using h3
    simp only [markL, List.getElem_map, List.getElem_range, List.mem_append, List.mem_singleton]
    have : ¬ (i : Int) = x := by omega
    simp [this]

def BoRow (w : World) (g : Nat) (bs : List Bool) : Prop := w.heap[g]? = some (.cells (bs.map Value.bool).toArray 4 (0, 0))
theorem BoRow.cell {w : World} {g : Nat} {r : List Bool} (h : BoRow w g r) {i : Nat} (hi : i < r.length) : w.cell? ⟨g, i, none⟩ = some (.bool (r.getD i false)) := by
  unfold BoRow at h
  simp [World.cell?, h, hi]
theorem BoRow.frozen {w : World} {g : Nat} {r : List Bool} (h : BoRow w g r) (i : Nat) : w.frozen? ⟨g, i, none⟩ = false := by
  unfold BoRow at h
  simp [World.frozen?, h]
theorem BoRow.set {w : World} {g : Nat} {r : List Bool} (h : BoRow w g r) (i : Nat) (x : Bool) : BoRow (w.setCell ⟨g, i, none⟩ (.bool x)) g (r.set i x) := by
  unfold BoRow at *
  rw [setCell_eq_setRow w g i _ 4 (0, 0) _ h, setRow_heap w g _ _ 4 (0, 0) h]
  simp [List.map_set]
theorem BoRow.lt {w : World} {g : Nat} {r : List Bool} (h : BoRow w g r) : g < w.heap.size := (Array.getElem?_eq_some_iff.1 h).1
theorem bool_info : (Try.prog.info? 4).map (fun i => (i.zero, i.size, i.bytes)) = some (some (.bool false), 1, 1) := by kernel_rfl
theorem BoRow.made (w : World) (n : Nat) : BoRow (w.alloc (.cells (madeCells #[.bool false] n) 4)) w.heap.size (markL [] n) := by
  unfold BoRow
  rw [new_heap]
  congr 2
  apply Array.ext
  · simp [madeCells, markL]
  · intro i h1 h2
    simp [madeCells, Nat.mod_one, markL]

theorem ints_take (l : List Int) (k : Nat) (h : k < l.length) : l.take (k + 1) = l.take k ++ [l.getD k 0] := by
  rw [List.take_add_one, List.getElem?_eq_getElem h, List.getD_eq_getElem?_getD, List.getElem?_eq_getElem h]
  rfl

set_option maxHeartbeats 2000000 in
theorem marked_any (a : Option Addr) (l : List Int) (cap n : Nat) (w : World) (h : IsIn w a l cap) (hn : n ≤ 1000000) (hl : l.length ≤ 9223372036854775807) :
    Calls Try.prog 25 #[.slice a l.length cap, .int .i64 (n : Int)] w fun e w' => e = .returned (.slice (some ⟨w.heap.size, 0, none⟩) n n) ∧ BoRow w' w.heap.size (markL l n) ∧ Below w.heap.size w w' := by
  have hmk := fun w => run_make_row' (P := Try.prog) 68 4 (.bool false) 1 Try.underlying68 bool_info rfl .i64 .i64 n (by omega) (by omega) w
  have Hl : Hid (∀ W, Below w.heap.size w W → ∀ k, k < l.length → ∃ b off, a = some ⟨b, off, none⟩ ∧ W.cell? ⟨b, off + k, none⟩ = some (.int .i64 (l.getD k 0))) := by
    intro W hW k hk
    rcases h.lies with h | ⟨b, off, e, hlt, hc⟩
    · subst h; simp at hk
    · exact ⟨b, off, e, (hW.cell (p := ⟨b, off + k, none⟩) hlt).trans (hc k hk)⟩
  have hr0 := BoRow.made w n
  have hb0 := (Below.refl w.heap.size w).alloc (Nat.le_refl _) (.cells (madeCells #[.bool false] n) 4)
  have n0 : (0 : Int) ≤ n := by omega
  have hl' : (l.length : Int) ≤ 9223372036854775807 := by omega
  clear h
  go_enter Try.func25, Try.ntmps25
  go_wp2
  clear hmk
  go_loopw [12] (fun i wr => ∃ k : Nat, k ≤ l.length ∧ i = .int .i64 k ∧ Hid (BoRow wr w.heap.size (markL (l.take k) n) ∧ Below w.heap.size w wr)) (fun i _ => l.length - (RowKit.intOf i).toNat)
  case atStart => exact ⟨0, Nat.zero_le _, rfl, hr0, hb0⟩
  case round =>
    obtain ⟨k, hk, rfl, H⟩ := hrel
    obtain ⟨R, B⟩ := H.out
    clear H
    by_cases hlt : k < l.length
    · obtain ⟨b, off, rfl, hc⟩ := Hl.out wr B k hlt
      have et := ints_take l k hlt
      generalize l.getD k 0 = x at *
      have j0 : (0 : Int) ≤ k := by omega
      have j1 : (k : Int) < l.length := by omega
      by_cases hx0 : 0 ≤ x
      · by_cases hx1 : x < n
        · have em := markL_in (l.take k) n x hx0 hx1
          rw [← et] at em
          have rc := R.cell (i := x.toNat) (by rw [markL_length]; omega)
          have rf := R.frozen x.toNat
          have hset := R.set x.toNat true
          rw [em] at hset
          have HS : Hid (BoRow _ _ _) := hset
          have HB : Hid (Below w.heap.size w (wr.setCell ⟨w.heap.size, x.toNat, none⟩ (.bool true))) := B.setCell (p := ⟨w.heap.size, x.toNat, none⟩) (Nat.le_refl _) _
          generalize (markL (l.take k) n).getD x.toNat false = z at rc
          clear R B em et hset
          go_wp2
          go_roundw
          case rel => exact ⟨k + 1, by omega, by go_num, HS.out, HB.out⟩
          case measure => simp [RowKit.intOf]; omega
        · have em := markL_out (l.take k) n x (by omega)
          rw [← et] at em
          have HR : Hid (BoRow wr w.heap.size (markL (l.take (k + 1)) n) ∧ Below w.heap.size w wr) := by rw [em]; exact ⟨R, B⟩
          clear R B em et
          go_wp2
          go_roundw
          case rel => exact ⟨k + 1, by omega, by go_num, HR⟩
          case measure => simp [RowKit.intOf]; omega
      · have em := markL_out (l.take k) n x (by omega)
        rw [← et] at em
        have HR : Hid (BoRow wr w.heap.size (markL (l.take (k + 1)) n) ∧ Below w.heap.size w wr) := by rw [em]; exact ⟨R, B⟩
        clear R B em et
        go_wp2
        go_roundw
        case rel => exact ⟨k + 1, by omega, by go_num, HR⟩
        case measure => simp [RowKit.intOf]; omega
    · have ek : k = l.length := by omega
      subst ek
      have j1 : ¬ (l.length : Int) < l.length := by omega
      rw [List.take_length] at R
      have HR : Hid (BoRow wr w.heap.size (markL l n) ∧ Below w.heap.size w wr) := ⟨R, B⟩
      clear R B
      go_wp2
      go_ret
      exact ⟨rfl, HR.out.1, HR.out.2⟩
end Go.Proofs.Ytijjegkkeigeoaa

namespace Go.Proofs.Ytijjegkkeigeoaa
set_option linter.unusedVariables false
set_option linter.unusedSimpArgs false
set_option maxRecDepth 100000
open Go.RowKit Go.Lib

section
variable {w w' : World} {lo p nb sb : Nat} {cv : Value} {n : Nat} {D : Dk}

theorem DkAt.alloc (h : DkAt w lo p nb sb cv n D) (o : Obj) : DkAt (w.alloc o) lo p nb sb cv n D := h.below ((Below.refl _ w).alloc (Nat.le_refl _) o)
theorem DkAt.drew (h : DkAt w lo p nb sb cv n D) : DkAt w.drew lo p nb sb cv n D := h.still (Still.drew w)
theorem DkAt.pnb (h : DkAt w lo p nb sb cv n D) : p ≠ nb := fun e => by
  have h1 := h.box
  rw [e, h.now] at h1
  simp at h1
theorem DkAt.psb (h : DkAt w lo p nb sb cv n D) : p ≠ sb := fun e => by
  have h1 := h.box
  rw [e, h.safe] at h1
  simp at h1
theorem DkAt.pcv (h : DkAt w lo p nb sb cv n D) (j : Nat) (hj : cv.ownBlock = some j) : j ≠ p ∧ j ≠ nb ∧ j ≠ sb ∧ lo ≤ j ∧ ∃ cs, w.heap[j]? = some (.cells cs 74 (0, 0)) := by
  rcases h.chg.2 with ⟨rfl, _⟩ | ⟨g1, c1, cur, rfl, hb1, hh, r⟩
  · cases hj
  · cases hj
    refine ⟨fun e => ?_, fun e => ?_, fun e => ?_, hb1, _, hh⟩
    · simp only at e; subst e
      rw [h.box] at hh; simp at hh
    · simp only at e; subst e
      rw [h.now] at hh; simp at hh
    · simp only at e; subst e
      rw [h.safe] at hh; simp at hh

/-- A block of the disk is set. -/
theorem DkAt.setNow (h : DkAt w lo p nb sb cv n D) (l : List Bk) (hl : l.length = n) (ho : ∀ x ∈ l, x.ok) : DkAt (w.setRow nb (rowOf Bk.cells l).toArray) lo p nb sb cv n { D with now := l } :=
  ⟨(setRow_other _ _ _ _ h.pnb).trans h.box, setRow_heap w nb _ _ _ _ h.now, (setRow_other _ _ _ _ (fun e => h.ne e.symm)).trans h.safe, h.ne, h.lp, h.ln, h.ls,
    ownsRow_keep h.chg (fun b cs e _ => setRow_other _ _ _ _ (fun eb => by subst eb; rw [h.now] at e; simp at e)), ⟨hl, h.ok.safeL, ho, h.ok.safeO, h.ok.chgO⟩⟩
theorem DkAt.setSafe (h : DkAt w lo p nb sb cv n D) (l : List Bk) (hl : l.length = n) (ho : ∀ x ∈ l, x.ok) : DkAt (w.setRow sb (rowOf Bk.cells l).toArray) lo p nb sb cv n { D with safe := l } :=
  ⟨(setRow_other _ _ _ _ h.psb).trans h.box, (setRow_other _ _ _ _ h.ne).trans h.now, setRow_heap w sb _ _ _ _ h.safe, h.ne, h.lp, h.ln, h.ls,
    ownsRow_keep h.chg (fun b cs e _ => setRow_other _ _ _ _ (fun eb => by subst eb; rw [h.safe] at e; simp at e)), ⟨h.ok.nowL, hl, h.ok.nowO, ho, h.ok.chgO⟩⟩

theorem box_set {b : Nat} {v0 v1 v2 v3 v4 : Value} {t : TypeId} (h : w.heap[b]? = some (.cells #[v0, v1, v2, v3, v4] t (0, 0))) (o : Nat) (v : Value) : (w.setCell ⟨b, o, none⟩ v).heap[b]? = some (.cells (#[v0, v1, v2, v3, v4].setIfInBounds o v) t (0, 0)) := by
  rw [setCell_eq_setRow w b o _ t (0, 0) _ h, setRow_heap w b _ _ t (0, 0) h]

theorem DkAt.setP (h : DkAt w lo p nb sb cv n D) (o : Nat) (v : Value) (cv' : Value) (D' : Dk) (hb : (#[.slice (some ⟨nb, 0, none⟩) n n, .slice (some ⟨sb, 0, none⟩) n n, cv, .int .i64 (D.steps : Int), .int .i64 D.fail] : Array Value).setIfInBounds o v = #[.slice (some ⟨nb, 0, none⟩) n n, .slice (some ⟨sb, 0, none⟩) n n, cv', .int .i64 (D'.steps : Int), .int .i64 D'.fail])
    (h1 : D'.now = D.now) (h2 : D'.safe = D.safe) (h3 : (w.setCell ⟨p, o, none⟩ v).ownsRow lo 74 66 cv' D'.chg.length (rowOf Cg.cells D'.chg)) (h4 : D'.ok n) : DkAt (w.setCell ⟨p, o, none⟩ v) lo p nb sb cv' n D' :=
  ⟨(box_set h.box o v).trans (by rw [hb]), by rw [h1]; exact (Below.heap_setCell _ _ _ _ (fun e => h.pnb e.symm)).trans h.now, by rw [h2]; exact (Below.heap_setCell _ _ _ _ (fun e => h.psb e.symm)).trans h.safe, h.ne, h.lp, h.ln, h.ls, h3, h4⟩
theorem DkAt.chgP (h : DkAt w lo p nb sb cv n D) (o : Nat) (v : Value) : (w.setCell ⟨p, o, none⟩ v).ownsRow lo 74 66 cv D.chg.length (rowOf Cg.cells D.chg) :=
  ownsRow_keep h.chg (fun b cs e _ => Below.heap_setCell _ _ _ _ (fun eb => by simp only at eb; subst eb; rw [h.box] at e; simp at e))

theorem DkAt.setSteps (h : DkAt w lo p nb sb cv n D) (s : Nat) : DkAt (w.setCell ⟨p, 3, none⟩ (.int .i64 (s : Int))) lo p nb sb cv n { D with steps := s } :=
  h.setP 3 _ cv _ rfl rfl rfl (h.chgP 3 _) ⟨h.ok.nowL, h.ok.safeL, h.ok.nowO, h.ok.safeO, h.ok.chgO⟩
theorem DkAt.setFail (h : DkAt w lo p nb sb cv n D) (f : Int) : DkAt (w.setCell ⟨p, 4, none⟩ (.int .i64 f)) lo p nb sb cv n { D with fail := f } :=
  h.setP 4 _ cv _ rfl rfl rfl (h.chgP 4 _) ⟨h.ok.nowL, h.ok.safeL, h.ok.nowO, h.ok.safeO, h.ok.chgO⟩
theorem DkAt.setNone (h : DkAt w lo p nb sb cv n D) : DkAt (w.setCell ⟨p, 2, none⟩ (.slice none 0 0)) lo p nb sb (.slice none 0 0) n { D with chg := [] } :=
  h.setP 2 _ (.slice none 0 0) _ rfl rfl rfl (World.ownsRow_nil _ _ _ _) ⟨h.ok.nowL, h.ok.safeL, h.ok.nowO, h.ok.safeO, by simp⟩
/-- A change more. -/
theorem DkAt.more (h : DkAt w lo p nb sb cv n D) (c : Cg) (hc : c.tgt.ok ∧ c.at_ < n) (v : Value) (hg : w.grownBy w' cv.ownBlock) (hr : w'.ownsRow lo 74 66 v (D.chg.length + 1) (rowOf Cg.cells D.chg ++ c.cells)) :
    DkAt (w'.setCell ⟨p, 2, none⟩ v) lo p nb sb v n { D with chg := D.chg ++ [c] } := by
  have g1 : w'.heap[p]? = w.heap[p]? := hg.block p h.lt (fun e => (h.pcv p e.symm).1 rfl)
  have g2 : w'.heap[nb]? = w.heap[nb]? := hg.block nb (Array.getElem?_eq_some_iff.1 h.now).1 (fun e => (h.pcv nb e.symm).2.1 rfl)
  have g3 : w'.heap[sb]? = w.heap[sb]? := hg.block sb (Array.getElem?_eq_some_iff.1 h.safe).1 (fun e => (h.pcv sb e.symm).2.2.1 rfl)
  have b1 := g1.trans h.box
  refine ⟨(box_set b1 2 v).trans rfl, (Below.heap_setCell _ _ _ _ (fun e => h.pnb e.symm)).trans (g2.trans h.now), (Below.heap_setCell _ _ _ _ (fun e => h.psb e.symm)).trans (g3.trans h.safe), h.ne, h.lp, h.ln, h.ls, ?_, ⟨h.ok.nowL, h.ok.safeL, h.ok.nowO, h.ok.safeO, ?_⟩⟩
  · have e : rowOf Cg.cells (D.chg ++ [c]) = rowOf Cg.cells D.chg ++ c.cells := by rw [rowOf_append, rowOf_one]
    show (w'.setCell ⟨p, 2, none⟩ v).ownsRow lo 74 66 v (D.chg ++ [c]).length (rowOf Cg.cells (D.chg ++ [c]))
    rw [e, List.length_append, List.length_singleton]
    exact ownsRow_keep hr (fun b cs e _ => Below.heap_setCell _ _ _ _ (fun eb => by simp only at eb; subst eb; rw [b1] at e; simp at e))
  · intro x hx
    rcases List.mem_append.1 hx with hx | hx
    · exact h.ok.chgO x hx
    · rw [List.mem_singleton.1 hx]; exact hc
end

theorem Keeps.setCell {lo : Nat} {T : List TypeId} {V W : World} {b o : Nat} {cs : Array Value} {t : TypeId} (h : Keeps lo T V W) (hb : W.heap[b]? = some (.cells cs t (0, 0))) (ht : t ∈ T) (hl : lo ≤ b) (v : Value) : Keeps lo T V (W.setCell ⟨b, o, none⟩ v) := by
  rw [setCell_eq_setRow W b o cs t (0, 0) v hb]
  exact h.setRow hb ht hl _

theorem getD_ok {l : List Bk} (h : ∀ x ∈ l, x.ok) (i : Nat) : (l.getD i bk0).ok := by
  by_cases hi : i < l.length
  · rw [List.getD_eq_getElem?_getD, List.getElem?_eq_getElem hi]; exact h _ (List.getElem_mem hi)
  · rw [List.getD_eq_getElem?_getD, List.getElem?_eq_none (by omega)]; exact bk0_ok
/-- A block's cells, in its row. -/
theorem row_range {w : World} {g : Nat} {l : List Bk} {t : TypeId} (h : w.heap[g]? = some (.cells (rowOf Bk.cells l).toArray t (0, 0))) (ho : ∀ x ∈ l, x.ok) (i : Nat) (hi : i < l.length) : w.rangeAt g (i * 65) (l.getD i bk0).cells := by
  intro j v hv
  have hj : j < 65 := by
    have := (List.getElem?_eq_some_iff.1 hv).1
    rw [Bk.cells_length (getD_ok ho i)] at this
    exact this
  have e := rowOf_get Bk.cells 65 l i j hi (fun x hx => Bk.cells_length (ho x hx)) hj
  rw [List.getD_eq_getElem?_getD, List.getElem?_eq_getElem hi] at hv
  rw [cell_of_row w g _ _ t (0, 0) h]
  simp only [List.getElem?_toArray]
  rw [e]
  exact hv
theorem content_size : (Try.prog.info? 72).map (·.size) = some 65 := by kernel_rfl
theorem change_size : (Try.prog.info? 74).map (·.size) = some 66 := by kernel_rfl
theorem load_block {w : World} {g : Nat} {l : List Bk} {t : TypeId} (h : w.heap[g]? = some (.cells (rowOf Bk.cells l).toArray t (0, 0))) (ho : ∀ x ∈ l, x.ok) (i : Nat) (hi : i < l.length) :
    (Instr.loadAt 72 (.pointer (some ⟨g, i * 65, none⟩))).run Try.prog w = .ok (.agg (l.getD i bk0).cells.toArray) w :=
  run_loadAt_mid w g (i * 65) 72 _ _ (row_range h ho i hi) Try.underlying72 rfl (by rw [Bk.cells_length (getD_ok ho i)]; exact content_size)
theorem store_block {w : World} {g : Nat} {l : List Bk} {t : TypeId} (h : w.heap[g]? = some (.cells (rowOf Bk.cells l).toArray t (0, 0))) (ho : ∀ x ∈ l, x.ok) (i : Nat) (hi : i < l.length) (x : Bk) (hx : x.ok) :
    (Instr.storeAt 72 (.pointer (some ⟨g, i * 65, none⟩)) (.agg x.cells.toArray)).run Try.prog w = .ok () (w.setRow g (rowOf Bk.cells (l.set i x)).toArray) := by
  have hL := rowOf_length Bk.cells 65 l (fun y hy => Bk.cells_length (ho y hy))
  have := run_storeCells_at Try.prog g (i * 65) t x.cells 0 (rowOf Bk.cells l).toArray w h (by rw [Bk.cells_length hx, List.size_toArray, hL]; omega) x.cells_one
  rw [Nat.add_zero, Bk.cells_length hx, rowOf_set Bk.cells 65 l i x (fun y hy => Bk.cells_length (ho y hy)) hi] at this
  cases hq : Try.prog.info? 72 with
  | none => have := content_size; simp [hq] at this
  | some q =>
    have hs : q.size = 65 := by have := content_size; simpa [hq] using this
    simp [Instr.storeAt, Instr.sureAddr, storeVar, sizeOf, typeInfo, hq, Value.cells, hs, Bk.cells_length hx, this]
end Go.Proofs.Ytijjegkkeigeoaa
