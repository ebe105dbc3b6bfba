/-
  The contracts of slices.Contains over texts and of chart.eachUnder.
-/
import Derived.Test.YtffekgndlhleiaaDoorCh3
import Derived.Deep.AppendLies
import Derived.Deep.RegionHeldLaw
import Derived.RangeFuncBox
namespace Go.Proofs.YtffekgndlhleiaaDoor
set_option linter.unusedVariables false
set_option linter.unusedSimpArgs false
set_option maxRecDepth 100000
open Go.RowKit Go.Lib

/-- The place of a text among others, counted from a number on; else -1. -/
def txtFrom (c : ByteArray) : Nat → List ByteArray → Int
  | _, [] => -1
  | k, x :: l => if x = c then (k : Int) else txtFrom c (k + 1) l
def memB (c : ByteArray) (l : List ByteArray) : Bool := l.any fun x => decide (x = c)

theorem txtFrom_mem (c : ByteArray) : ∀ (l : List ByteArray) (k : Nat), decide (0 ≤ txtFrom c k l) = memB c l
  | [], k => by simp [txtFrom, memB]
  | x :: l, k => by
    have ih := txtFrom_mem c l (k + 1)
    by_cases h : x = c
    · rw [txtFrom, if_pos h]; simp [memB, h]
    · rw [txtFrom, if_neg h, ih]; simp [memB, h]

theorem txt_drop (l : List ByteArray) (k : Nat) (h : k < l.length) : l.drop k = l.getD k ByteArray.empty :: l.drop (k + 1) := by
  rw [List.drop_eq_getElem_cons h, List.getD_eq_getElem?_getD, List.getElem?_eq_getElem h]
  rfl

/-- Texts in a row of the call's own. -/
def TxtRow (w : World) (n : Nat) (v : Value) (fs : List ByteArray) : Prop := w.ownsRow n 9 1 v fs.length (fs.map Value.string)

theorem TxtRow.form {w : World} {n : Nat} {v : Value} {fs : List ByteArray} (h : TxtRow w n v fs) : (v = .slice none 0 0 ∧ fs = []) ∨ ∃ g cap, v = .slice (some ⟨g, 0, none⟩) fs.length cap ∧ n ≤ g ∧ g < w.heap.size ∧ fs.length ≤ cap ∧ ∀ k, k < fs.length → w.cell? ⟨g, k, none⟩ = some (.string (fs.getD k ByteArray.empty)) := by
  rcases h.2 with ⟨rfl, hn⟩ | ⟨g, cap, cur, rfl, hg, hh, hc, _⟩
  · exact .inl ⟨rfl, List.eq_nil_of_length_eq_zero hn⟩
  · refine .inr ⟨g, cap, rfl, hg, (Array.getElem?_eq_some_iff.1 hh).1, hc, fun k hk => ?_⟩
    have := World.ownsRow.cells h (g := g) rfl k (.string (fs.getD k ByteArray.empty)) (by simp [hk])
    rcases Nat.eq_zero_or_pos k with rfl | hp
    · simpa [Addr.add] using this
    · simpa [Addr.add, Nat.ne_of_gt hp] using this

set_option maxHeartbeats 1000000 in
theorem tIndex_some (g cap : Nat) (fs : List ByteArray) (c : ByteArray) (w : World) (hlen : fs.length ≤ 1000) (hc : ∀ k, k < fs.length → w.cell? ⟨g, k, none⟩ = some (.string (fs.getD k ByteArray.empty))) :
    Calls Tryd.prog 50 #[.slice (some ⟨g, 0, none⟩) fs.length cap, .string c] w fun e w' => e = .returned (.int .i64 (txtFrom c 0 fs)) ∧ w' = w := by
  have Hc : Hid (∀ k, k < fs.length → w.cell? ⟨g, k, none⟩ = some (.string (fs.getD k ByteArray.empty))) := hc
  have Hlen : (fs.length : Int) ≤ 1000 := by omega
  clear hc
  obtain ⟨res, hres⟩ : ∃ res, txtFrom c 0 fs = res := ⟨_, rfl⟩
  have Hres : Hid (txtFrom c 0 fs = res) := hres
  rw [hres]
  clear hres
  go_enter Tryd.func50, Tryd.ntmps50
  go_wp2
  go_loop [8] (fun i => ∃ k : Nat, k ≤ fs.length ∧ i = .int .i64 k ∧ Hid (txtFrom c k (fs.drop k) = res)) (fun i => fs.length - (intOf i).toNat)
  case atStart => exact ⟨0, Nat.zero_le _, rfl, Hres.out⟩
  case round =>
    obtain ⟨k, hk, rfl, H⟩ := hrel
    by_cases hlt : k < fs.length
    · have hn := Hc.out k hlt
      have E : Hid ((if fs.getD k ByteArray.empty = c then (k : Int) else txtFrom c (k + 1) (fs.drop (k + 1))) = res) := by
        have := H.out
        rw [txt_drop fs k hlt] at this
        exact this
      clear H
      generalize fs.getD k ByteArray.empty = x at *
      have i0 : (0 : Int) ≤ k := by omega
      have i1 : (k : Int) < fs.length := by omega
      by_cases hx : x = c
      · have er : res = k := by rw [← E.out, if_pos hx]
        subst er
        subst hx
        go_wp2
        go_ret
        exact ⟨rfl, rfl⟩
      · have hx' := ch_ne (fun e => hx (Eq.symm e) : c ≠ x)
        have HN : Hid (txtFrom c (k + 1) (fs.drop (k + 1)) = res) := by
          have := E.out; rw [if_neg hx] at this; exact this
        go_wp2
        go_round
        case rel => exact ⟨k + 1, by omega, by go_num, HN⟩
        case measure => simp [intOf]; omega
    · have hk2 : k = fs.length := by omega
      subst hk2
      have er : res = -1 := by rw [← H.out, List.drop_length]; rfl
      subst er
      go_wp2
      go_ret
      exact ⟨rfl, rfl⟩

theorem tIndex_none (c : ByteArray) (w : World) :
    Calls Tryd.prog 50 #[.slice none 0 0, .string c] w fun e w' => e = .returned (.int .i64 (-1)) ∧ w' = w := by
  go_enter Tryd.func50, Tryd.ntmps50
  go_wp2
  refine wp_loop_rounds 1 ?_
  rw [rounds_succ]
  go_wp2
  go_ret
  exact ⟨rfl, rfl⟩

theorem tContains_any (n : Nat) (v : Value) (fs : List ByteArray) (c : ByteArray) (w : World) (hlen : fs.length ≤ 1000) (h : TxtRow w n v fs) :
    Calls Tryd.prog 31 #[v, .string c] w fun e w' => e = .returned (.bool (memB c fs)) ∧ w' = w := by
  rw [← txtFrom_mem c fs 0]
  rcases h.form with ⟨rfl, rfl⟩ | ⟨g, cap, rfl, _, _, _, hc⟩
  · have hI := tIndex_none c w
    go_enter Tryd.func31, Tryd.ntmps31
    go_wp2_with fail
    refine hI.mono ?_
    rintro e w' ⟨rfl, rfl⟩
    go_wp2
    go_ret
    exact ⟨rfl, rfl⟩
  · have hI := tIndex_some g cap fs c w hlen hc
    clear hc h
    go_enter Tryd.func31, Tryd.ntmps31
    go_wp2_with fail
    refine hI.mono ?_
    rintro e w' ⟨rfl, rfl⟩
    go_wp2
    go_ret
    exact ⟨rfl, rfl⟩

/-- The places of those that are under a code, from one on. -/
def undGo (code : ByteArray) : List ByteArray → List Nat → Nat → List Ac → List Nat
  | _, pre, _, [] => pre
  | fs, pre, k, x :: r => if x.code = code ∨ memB x.par fs = true then undGo code (fs ++ [x.code]) (pre ++ [k]) (k + 1) r else undGo code fs pre (k + 1) r
def und (l : List Ac) (code : ByteArray) : List Nat := undGo code [] [] 0 l

/-- What is asked of a function that is told places, one by one. 'J gc pre W': in W, with a row of its own in block gc, these places have come. -/
structure Does (g : Nat) (lb : Value × Value) (n0 : Nat) (a : Option Addr) (l : List Ac) (cap : Nat) (J : Option Nat → List Nat → World → Prop) : Prop where
  eg : ∀ args W, (callFunc g args).run Tryd.prog W = .ok (.enter g args) W
  call : ∀ gc pre i W, J gc pre W → i < l.length → pre.length ≤ i → n0 ≤ W.heap.size → Calls Tryd.prog g #[.int .i64 (i : Nat), lb.1, lb.2] W fun e w' => e = .returned (.tuple #[]) ∧ ∃ gc', J gc' (pre ++ [i]) w' ∧ (gc' = gc ∨ ∃ h, gc' = some h ∧ W.heap.size ≤ h) ∧ W.heap.size ≤ w'.heap.size ∧ ∀ b, b < W.heap.size → n0 ≤ b → some b ≠ gc → w'.heap[b]? = W.heap[b]?
  keep : ∀ gc pre W W' row, J gc pre W → W.grownBy W' row → n0 ≤ W.heap.size → (∀ b, row = some b → n0 ≤ b ∧ gc ≠ some b) → J gc pre W'
  reads : ∀ gc pre W, J gc pre W → IsSl W a l cap
  lt : ∀ gc pre W, J gc pre W → ∀ b, gc = some b → b < W.heap.size

theorem str_info : (Tryd.prog.info? 9).map (fun i => (i.zero, i.size, i.bytes)) = some (some (.string ByteArray.empty), 1, 16) := by kernel_rfl

/-- What holds between two rounds. -/
structure UndAt (n0 : Nat) (J : Option Nat → List Nat → World → Prop) (gc : Option Nat) (pre : List Nat) (fs : List ByteArray) (v : Value) (W : World) : Prop where
  row : TxtRow W n0 v fs
  has : J gc pre W
  size : n0 ≤ W.heap.size
  apart : ∀ b, v.ownBlock = some b → gc ≠ some b

theorem heap_alloc_lt (W : World) (o : Obj) (b : Nat) (h : b < W.heap.size) : (W.alloc o).heap[b]? = W.heap[b]? := (World.grownBy_alloc W o none).block b h (by simp)

theorem UndAt.alloc {g : Nat} {lb : Value × Value} {n0 : Nat} {a : Option Addr} {l : List Ac} {cap : Nat} {J : Option Nat → List Nat → World → Prop} (D : Does g lb n0 a l cap J) {gc : Option Nat} {pre : List Nat} {fs : List ByteArray} {v : Value} {W : World} (h : UndAt n0 J gc pre fs v W) (o : Obj) : UndAt n0 J gc pre fs v (W.alloc o) :=
  ⟨World.ownsRow.alloc h.row o, D.keep gc pre W _ none h.has (World.grownBy_alloc W o none) h.size (fun b hb => by cases hb), by have := h.size; simp; omega, h.apart⟩

theorem UndAt.grown {g : Nat} {lb : Value × Value} {n0 : Nat} {a : Option Addr} {l : List Ac} {cap : Nat} {J : Option Nat → List Nat → World → Prop} (D : Does g lb n0 a l cap J) {gc : Option Nat} {pre : List Nat} {fs fs' : List ByteArray} {v : Value} {W w1 : World} (h : UndAt n0 J gc pre fs v W) {g' c' : Nat} (hown : TxtRow w1 n0 (.slice (some ⟨g', 0, none⟩) fs'.length c') fs') (hg : W.grownBy w1 v.ownBlock) (hat : v.ownBlock = some g' ∨ g' = W.heap.size) : UndAt n0 J gc pre fs' (.slice (some ⟨g', 0, none⟩) fs'.length c') w1 := by
  have hv : ∀ b, v.ownBlock = some b → n0 ≤ b := fun b hb => by
    rcases h.row.form with ⟨rfl, _⟩ | ⟨g, cp, rfl, hn, _⟩
    · cases hb
    · cases hb; exact hn
  refine ⟨hown, D.keep gc pre W w1 v.ownBlock h.has hg h.size (fun b hb => ⟨hv b hb, h.apart b hb⟩), by have := h.size; have := hg.size; omega, ?_⟩
  · intro b hb
    cases hb
    rcases hat with e | e
    · exact h.apart g' e
    · intro h2
      have := D.lt gc pre W h.has g' h2
      omega

/-- Behind a call of the function. -/
theorem UndAt.called {g : Nat} {lb : Value × Value} {n0 : Nat} {a : Option Addr} {l : List Ac} {cap : Nat} {J : Option Nat → List Nat → World → Prop} (D : Does g lb n0 a l cap J) {gc : Option Nat} {pre : List Nat} {fs : List ByteArray} {v : Value} {W : World} (h : UndAt n0 J gc pre fs v W) (i : Nat) (hi : i < l.length) (hp : pre.length ≤ i) :
    Calls Tryd.prog g #[.int .i64 (i : Nat), lb.1, lb.2] W fun e w' => e = .returned (.tuple #[]) ∧ ∃ gc', UndAt n0 J gc' (pre ++ [i]) fs v w' := by
  refine (D.call gc pre i W h.has hi hp h.size).mono ?_
  rintro e w' ⟨rfl, gc', hJ, hor, hs, hk⟩
  refine ⟨rfl, gc', ?_, hJ, Nat.le_trans h.size hs, ?_⟩
  · rcases h.row.2 with ⟨hv, hn⟩ | ⟨g1, c1, cur, hv, hb, hh, r1, r2, r3, r4⟩
    · exact ⟨h.row.1, .inl ⟨hv, hn⟩⟩
    · have hlt := (Array.getElem?_eq_some_iff.1 hh).1
      exact ⟨h.row.1, .inr ⟨g1, c1, cur, hv, hb, (hk g1 hlt hb (fun e => h.apart g1 (by rw [hv]; rfl) e.symm)).trans hh, r1, r2, r3, r4⟩⟩
  · intro b hb
    rcases hor with rfl | ⟨h1, rfl, h2⟩
    · exact h.apart b hb
    · intro e
      cases e
      rcases h.row.form with ⟨hv, _⟩ | ⟨g1, c1, hv, _, hlt, _⟩
      · rw [hv] at hb; cases hb
      · rw [hv] at hb; cases hb; simp only at h2; omega
end Go.Proofs.YtffekgndlhleiaaDoor
