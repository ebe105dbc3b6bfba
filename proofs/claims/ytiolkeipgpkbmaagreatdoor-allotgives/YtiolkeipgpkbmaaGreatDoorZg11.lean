/-
  The reference's Shares: one more is given.
-/
import Derived.Test.YtiolkeipgpkbmaaGreatDoorZg10
import Derived.Test.YtiolkeipgpkbmaaGreatDoorZg0
import Derived.Deep.AppendLies
import Derived.Laws.AppendOwn
import Derived.RangeFuncRecord
import Derived.Test.YtiolkeipgpkbmaaGreatDoorZg5
import Derived.Test.YtiolkeipgpkbmaaGreatDoorZg4
import Derived.Deep.QuietTactic
import Derived.BigQuiet
namespace Go.Proofs.YtiolkeipgpkbmaaGreatDoor
set_option linter.unusedVariables false
set_option linter.unusedSimpArgs false
set_option maxRecDepth 100000
open Go.RowKit Go.Lib Big

/-- A row of one's own, all of whose places hold values of a kind. -/
structure KRow (e : TypeId) (K : Value → Prop) (W : World) (base : Nat) (v : Value) (xs : List Value) : Prop where
  own : W.ownsRow base e 1 v xs.length xs
  all : ∀ g, v.ownBlock = some g → ∃ cs, W.heap[g]? = some (.cells cs e (0, 0)) ∧ ∀ (i : Nat) (u : Value), cs[i]? = some u → K u
theorem KRow.nil (e : TypeId) (K : Value → Prop) (W : World) (base : Nat) : KRow e K W base (.slice none 0 0) [] := ⟨⟨rfl, .inl ⟨rfl, rfl⟩⟩, fun g h => by cases h⟩
theorem KRow.ofBlock {e : TypeId} {K : Value → Prop} {W W' : World} {base : Nat} {v : Value} {xs : List Value} (h : KRow e K W base v xs) (hb : ∀ j, v.ownBlock = some j → W'.heap[j]? = W.heap[j]?) : KRow e K W' base v xs := by
  refine ⟨?_, fun g hg => ?_⟩
  · rcases h.own.2 with ⟨hv, hn⟩ | ⟨g1, c1, cur, hv, hb1, hh, r⟩
    · exact ⟨h.own.1, .inl ⟨hv, hn⟩⟩
    · exact ⟨h.own.1, .inr ⟨g1, c1, cur, hv, hb1, (hb g1 (by rw [hv]; rfl)).trans hh, r⟩⟩
  · obtain ⟨cs, h1, h2⟩ := h.all g hg
    exact ⟨cs, (hb g hg).trans h1, h2⟩
theorem KRow.lt {e : TypeId} {K : Value → Prop} {W : World} {base : Nat} {v : Value} {xs : List Value} (h : KRow e K W base v xs) : ∀ j, v.ownBlock = some j → base ≤ j ∧ j < W.heap.size := fun j hj => by
  rcases h.own.2 with ⟨rfl, _⟩ | ⟨g1, c1, cur, rfl, hb1, hh, _⟩
  · cases hj
  · cases hj; exact ⟨hb1, (Array.getElem?_eq_some_iff.1 hh).1⟩
/-- What is grown but for one block that is not the row's. -/
theorem KRow.grown {e : TypeId} {K : Value → Prop} {W W' : World} {base : Nat} {v : Value} {xs : List Value} {row : Option Nat} (h : KRow e K W base v xs) (hg : W.grownBy W' row) (hne : ∀ j, v.ownBlock = some j → row ≠ some j) : KRow e K W' base v xs :=
  h.ofBlock fun j hj => hg.block j (h.lt j hj).2 (fun e2 => hne j hj e2.symm)
/-- No Int lies in the row, nor do its words. -/
theorem KRow.notBig {e : TypeId} {K : Value → Prop} {W : World} {base : Nat} {v : Value} {xs : List Value} (h : KRow e K W base v xs) (he : e ≠ 83) {p : Nat} {x : Int} (hb : BigIs W p x) : v.ownBlock ≠ some p := fun hp => by
  obtain ⟨cs, h1, _⟩ := h.all p hp
  obtain ⟨n, u, h2, _⟩ := hb.blk
  rw [h1] at h2
  cases h2
  exact he rfl
theorem BigIs.keepK {e : TypeId} {K : Value → Prop} {W W' : World} {base : Nat} {v : Value} {xs : List Value} {p : Nat} {x : Int} (hb : BigIs W p x) (h : KRow e K W base v xs) (he : e ≠ 83) (hK : ∀ n, ¬ K (.int .u32 n)) (hg : W.grownBy W' v.ownBlock) : BigIs W' p x := by
  have hne := h.notBig he hb
  obtain ⟨neg, u, l, hi, rfl⟩ := hb
  refine ⟨neg, u, l, ⟨(hg.block p (blk_lt hi.blk) (fun e2 => hne e2.symm)).trans hi.blk, ?_, hi.nrm, hi.sgn⟩, rfl⟩
  rcases hi.wd.at_ with ⟨h0, a, cap, hv⟩ | ⟨h0, b, off, cap, hv, hbl, hcap, hc⟩
  · exact ⟨hi.wd.ok, hi.wd.len, .inl ⟨h0, a, cap, hv⟩⟩
  · refine hi.wd.keep hg (fun b' off' n' cap' hv' e2 => ?_)
    rw [hv] at hv'
    cases hv'
    obtain ⟨cs, h1, h2⟩ := h.all b e2.symm
    have h3 := hc 0 h0
    have h4 : cs[off + 0]? = some (.int .u32 ((l.getD 0 0 : Nat) : Int)) := by
      simp [World.cell?, h1] at h3
      simpa using h3
    exact hK _ (h2 _ _ h4)
theorem zeros_k (z : Value) (n : Nat) : ∀ (i : Nat) (u : Value), (Builtin.zeroCells #[z] n)[i]? = some u → u = z := by
  intro i u h
  have hm := Array.mem_of_getElem? h
  unfold Builtin.zeroCells at hm
  simp at hm
  obtain ⟨a, _, hm⟩ := hm
  rw [Nat.mod_one] at hm
  exact hm.symm
theorem run_appK (T ty e : TypeId) (qi : TypeInfo) (z : Value) (hT : Tryz.prog.underlying T = some (.slice e)) (hqi : Tryz.prog.info? e = some qi) (hq0 : qi.zero = some z) (hq1 : qi.size = 1) (hq2 : qi.bytes = 8) (hzc : z.cells = #[z]) (K : Value → Prop) (hK : K z) (w : World) (base : Nat) (v : Value) (xs : List Value) (x : Value) (b : Nat) (hx : K x) (hx1 : x.oneCell' = true) (hown : KRow e K w base v xs) (hb : w.heap[b]? = some (.cells #[x] e (0, 0))) (hbs : base ≤ w.heap.size) (hlen : xs.length ≤ 100000) (hall : ∀ u ∈ xs, K u) :
    ∃ g cap w', (Builtin.append_ #[T, T] ty #[v, .slice (some ⟨b, 0, none⟩) 1 1]).run Tryz.prog w = .ok (.slice (some ⟨g, 0, none⟩) (xs.length + 1) cap) w' ∧ KRow e K w' base (.slice (some ⟨g, 0, none⟩) (xs.length + 1) cap) (xs ++ [x]) ∧ w.grownBy w' v.ownBlock := by
  have hnews : ∀ j u, [x][j]? = some u → w.cell? ((⟨b, 0, none⟩ : Addr).add j) = some u := World.news_of_block hb
  have hmk : ∀ (w' : World) (g cap : Nat), w'.ownsRow base e 1 (.slice (some ⟨g, 0, none⟩) (xs.length + 1) cap) (xs.length + 1) (xs ++ [x]) → w'.ownsRow base e 1 (.slice (some ⟨g, 0, none⟩) (xs.length + 1) cap) (xs ++ [x]).length (xs ++ [x]) := fun w' g cap h => by
    rw [List.length_append]; exact h
  have hgrown : ∀ (old : Nat) (row : Option Nat), old < xs.length + 1 → ∃ g cap w', w' = w.drew.alloc (.cells (xs.toArray ++ #[x] ++ Builtin.zeroCells #[z] (grownCap w (xs.length + 1) old e - (xs.length + 1))) e) ∧ g = w.heap.size ∧ cap = grownCap w (xs.length + 1) old e ∧ KRow e K w' base (.slice (some ⟨g, 0, none⟩) (xs.length + 1) cap) (xs ++ [x]) ∧ w.grownBy w' row := by
    intro old row ho
    have hge := grownCap_ge w (xs.length + 1) old e
    have hcm := grownCap_le_maxLen w (xs.length + 1) old e (by unfold maxLen; omega)
    refine ⟨_, _, _, rfl, rfl, rfl, ⟨hmk _ _ _ ⟨by simp, .inr ⟨w.heap.size, _, _, rfl, hbs, World.alloc_heap_new w.drew _, hge, hcm, ?_, ?_⟩⟩, ?_⟩, ⟨rfl, rfl, rfl, by simp, fun i hi _ => Below.heap_alloc w.drew _ i hi⟩⟩
    · simp only [Array.size_append, List.size_toArray, size_zeroCells]
      simp
      omega
    · simp only [Array.toList_append, List.append_assoc]
      rw [← List.append_assoc, Nat.mul_one]
      exact List.take_left' (by simp)
    · intro g eg
      cases eg
      refine ⟨_, World.alloc_heap_new w.drew _, fun i u hu => ?_⟩
      have hm := Array.mem_of_getElem? hu
      rw [Array.mem_append, Array.mem_append] at hm
      rcases hm with (hm | hm) | hm
      · exact hall u (by simpa using hm)
      · simp at hm
        rw [hm]; exact hx
      · obtain ⟨i', hi'⟩ := Array.getElem?_of_mem hm
        rw [zeros_k z _ i' u hi']; exact hK
  rcases hown.own.2 with ⟨rfl, hn⟩ | ⟨g, cap, cur, rfl, hbg, hg, hnc, hcm, hcs, htake⟩
  · have hl0 : xs = [] := List.eq_nil_of_length_eq_zero hn
    subst hl0
    obtain ⟨g, cap, w', hw, hg, hcp, h1, h3⟩ := hgrown 0 (Value.ownBlock (.slice none 0 0)) (by simp)
    refine ⟨g, cap, w', ?_, h1, h3⟩
    have hr := run_append_nil (P := Tryz.prog) w T ty e qi z hT hqi hq0 ⟨b, 0, none⟩ 1 1 [x] (by rw [hq1]; rfl) hnews (by omega) (by omega) (by rw [hq2]; omega)
    rw [hw, hg, hcp]
    simpa [hzc] using hr
  · by_cases hroom : xs.length + 1 ≤ cap
    · have hfit : xs.length * qi.size + [x].length ≤ cur.size := by rw [hq1, hcs]; simp; omega
      have hr := run_append_room (P := Tryz.prog) w T ty e qi hT hqi g xs.length cap cur hg ⟨b, 0, none⟩ 1 1 [x] (by rw [hq1]; rfl) hnews (by intro u hu; simp at hu; subst hu; exact hx1) hroom hfit
      refine ⟨g, cap, _, hr, ⟨hmk _ _ _ ⟨by simp, .inr ⟨g, cap, _, rfl, hbg, setRow_heap w g cur _ e _ hg, hroom, hcm, ?_, ?_⟩⟩, ?_⟩, ⟨rfl, rfl, rfl, by simp, fun i _ hi => setRow_other w g i _ (fun e2 => hi (by simp [Value.ownBlock, e2]))⟩⟩
      · simp only [List.size_toArray, List.length_append, List.length_take, List.length_drop, Array.length_toList, hq1]
        simp
        omega
      · rw [hq1, htake, Nat.mul_one]
        exact List.take_left' (by simp)
      · intro g' eg
        cases eg
        refine ⟨_, setRow_heap w g cur _ e _ hg, fun i u hu => ?_⟩
        obtain ⟨cs, h1, h2⟩ := hown.all g rfl
        rw [hg] at h1
        cases h1
        have hm := Array.mem_of_getElem? hu
        simp only [List.mem_toArray, List.mem_append] at hm
        rcases hm with (hm | hm) | hm
        · have := List.mem_of_mem_take hm
          obtain ⟨i', hi'⟩ := Array.getElem?_of_mem (Array.mem_toList_iff.1 this)
          exact h2 i' u hi'
        · simp at hm
          rw [hm]; exact hx
        · have := List.mem_of_mem_drop hm
          obtain ⟨i', hi'⟩ := Array.getElem?_of_mem (Array.mem_toList_iff.1 this)
          exact h2 i' u hi'
    · obtain ⟨g', cap', w', hw, hg', hcp, h1, h3⟩ := hgrown cap (Value.ownBlock (.slice (some ⟨g, 0, none⟩) xs.length cap)) (by omega)
      refine ⟨g', cap', w', ?_, h1, h3⟩
      have holds : ∀ j u, xs[j]? = some u → w.cell? ((⟨g, 0, none⟩ : Addr).add j) = some u := hown.own.cells (g := g) rfl
      have hr := run_append_grow (P := Tryz.prog) w T ty e qi z hT hqi hq0 ⟨g, 0, none⟩ xs.length cap _ (by rw [hq1]; omega) holds ⟨b, 0, none⟩ 1 1 [x] (by rw [hq1]; rfl) hnews (by omega) (by omega) (growslice_fits (by omega) (by rw [hq2]; omega))
      rw [hw, hg', hcp]
      simpa [hzc] using hr
/-- What stands in the row. -/
theorem KRow.cell {e : TypeId} {K : Value → Prop} {W : World} {base g cap n : Nat} {xs : List Value} (h : KRow e K W base (.slice (some ⟨g, 0, none⟩) n cap) xs) {i : Nat} {u : Value} (hi : xs[i]? = some u) : W.cell? ⟨g, i, none⟩ = some u := by
  have := h.own.cells (g := g) rfl i u hi
  rcases Nat.eq_zero_or_pos i with rfl | hp
  · simpa [Addr.add] using this
  · simpa [Addr.add, Nat.ne_of_gt hp] using this
theorem KRow.frozen {e : TypeId} {K : Value → Prop} {W : World} {base g cap n : Nat} {xs : List Value} (h : KRow e K W base (.slice (some ⟨g, 0, none⟩) n cap) xs) (i : Nat) : W.frozen? ⟨g, i, none⟩ = false := by
  obtain ⟨cs, h1, _⟩ := h.all g rfl
  simp [World.frozen?, h1]
theorem KRow.set {e : TypeId} {K : Value → Prop} {W : World} {base g cap n : Nat} {xs : List Value} (h : KRow e K W base (.slice (some ⟨g, 0, none⟩) n cap) xs) (i : Nat) (u : Value) (hu : K u) (hi : i < xs.length) : KRow e K (W.setCell ⟨g, i, none⟩ u) base (.slice (some ⟨g, 0, none⟩) n cap) (xs.set i u) ∧ W.grownBy (W.setCell ⟨g, i, none⟩ u) (some g) := by
  obtain ⟨cs, h1, h2⟩ := h.all g rfl
  have hw : W.setCell ⟨g, i, none⟩ u = W.setRow g (cs.setIfInBounds i u) := setCell_eq_setRow W g i _ e (0, 0) _ h1
  have hh : (W.setCell ⟨g, i, none⟩ u).heap[g]? = some (.cells (cs.setIfInBounds i u) e (0, 0)) := by rw [hw]; exact setRow_heap W g cs _ e (0, 0) h1
  refine ⟨⟨?_, fun g' eg => ?_⟩, ⟨rfl, rfl, rfl, by simp [World.setCell], fun j _ hj => Below.heap_setCell _ _ _ _ (fun e2 => hj (by rw [e2]))⟩⟩
  · rcases h.own.2 with ⟨hv, _⟩ | ⟨g1, c1, cur, hv, hb1, hh1, r1, r2, r3, r4⟩
    · cases hv
    · cases hv
      rw [h1] at hh1
      cases hh1
      refine ⟨by simp, .inr ⟨g, cap, _, by rw [List.length_set], hb1, hh, by rw [List.length_set]; exact r1, r2, by simpa using r3, ?_⟩⟩
      rw [List.length_set, Array.toList_setIfInBounds, List.take_set, r4]
  · cases eg
    refine ⟨_, hh, fun k x hx => ?_⟩
    by_cases hk : i = k
    · subst hk
      rw [Array.getElem?_setIfInBounds_self] at hx
      split at hx
      · cases hx; exact hu
      · cases hx
    · rw [Array.getElem?_setIfInBounds_ne hk] at hx
      exact h2 k x hx
end Go.Proofs.YtiolkeipgpkbmaaGreatDoor

namespace Go.Proofs.YtiolkeipgpkbmaaGreatDoor
set_option linter.unusedVariables false
set_option linter.unusedSimpArgs false
set_option maxRecDepth 100000
open Go.RowKit Go.Lib Big

def KI (v : Value) : Prop := ∃ n, v = .int .i64 n
def KP (v : Value) : Prop := ∃ p, v = .pointer p
def ptrs (ps : List Nat) : List Value := ps.map fun p => .pointer (some ⟨p, 0, none⟩)
def ints (l : List Int) : List Value := l.map (Value.int .i64)
theorem ki_not : ∀ n, ¬ KI (.int .u32 n) := fun n h => by obtain ⟨m, h⟩ := h; cases h
theorem kp_not : ∀ n, ¬ KP (.int .u32 n) := fun n h => by obtain ⟨m, h⟩ := h; cases h
/-- The parts, what was cut, what is left. -/
structure Shs (w W : World) (N : Nat) (vo vc : Value) (os : List Int) (ps : List Nat) (cs : List Int) (pl : Nat) (L : Int) : Prop where
  below : Below w.heap.size w W
  size : N ≤ W.heap.size
  out : KRow 3 KI W w.heap.size vo (ints os)
  cut : KRow 78 KP W w.heap.size vc (ptrs ps)
  left : BigIs W pl L
  lo : w.heap.size ≤ pl
  hi : pl < N
  len : ps.length = cs.length
  cuts : ∀ i, i < ps.length → BigIs W (ps.getD i 0) (cs.getD i 0) ∧ pl < ps.getD i 0 ∧ ps.getD i 0 < N
section
variable {w W W' : World} {N : Nat} {vo vc : Value} {os : List Int} {ps : List Nat} {cs : List Int} {pl : Nat} {L : Int}
theorem below_two {w a b : World} {p q : Nat} (h : Below w.heap.size w a) (k : Grown2 a b p q) (hp : w.heap.size ≤ p) (hq : w.heap.size ≤ q) : Below w.heap.size w b :=
  ⟨k.os.trans h.os, k.tape.trans h.tape, k.output.trans h.output, Nat.le_trans h.size k.size, fun i hi => (k.block i (Nat.lt_of_lt_of_le hi h.size) (by omega) (by omega)).trans (h.block i hi)⟩
theorem Shs.some_ (h : Shs w W N vo vc os ps cs pl L) {p : Nat} {y : Int} (hb : BigIs W p y) (hN : N ≤ p) (hg : W.grownBy W' (some p)) : Shs w W' N vo vc os ps cs pl L := by
  have hw := h.lo
  have hh := h.hi
  refine ⟨h.below.grown hg h.below.size (fun q e => by cases e; omega), Nat.le_trans h.size hg.size, h.out.grown hg (fun j hj e => h.out.notBig (by decide) hb (by rw [hj]; exact e.symm ▸ rfl)), h.cut.grown hg (fun j hj e => h.cut.notBig (by decide) hb (by rw [hj]; exact e.symm ▸ rfl)), h.left.kept (by omega) hb hg, h.lo, h.hi, h.len, fun i hi => ?_⟩
  obtain ⟨a, b, c⟩ := h.cuts i hi
  exact ⟨a.kept (by omega) hb hg, b, c⟩
theorem Shs.none_ (h : Shs w W N vo vc os ps cs pl L) (hg : W.grownBy W' none) : Shs w W' N vo vc os ps cs pl L :=
  ⟨h.below.grown hg h.below.size (by simp), Nat.le_trans h.size hg.size, h.out.grown hg (by simp), h.cut.grown hg (by simp), h.left.growBy hg, h.lo, h.hi, h.len, fun i hi => ⟨(h.cuts i hi).1.growBy hg, (h.cuts i hi).2⟩⟩
theorem Shs.left_ (h : Shs w W N vo vc os ps cs pl L) {L' : Int} (hl : BigIs W' pl L') (hg : W.grownBy W' (some pl)) : Shs w W' N vo vc os ps cs pl L' := by
  have hw := h.lo
  refine ⟨h.below.grown hg h.below.size (fun q e => by cases e; omega), Nat.le_trans h.size hg.size, h.out.grown hg (fun j hj e => h.out.notBig (by decide) h.left (by rw [hj]; exact e.symm ▸ rfl)), h.cut.grown hg (fun j hj e => h.cut.notBig (by decide) h.left (by rw [hj]; exact e.symm ▸ rfl)), hl, h.lo, h.hi, h.len, fun i hi => ?_⟩
  obtain ⟨a, b, c⟩ := h.cuts i hi
  exact ⟨a.kept (by omega) h.left hg, b, c⟩
theorem Shs.two_ (h : Shs w W N vo vc os ps cs pl L) {p q : Nat} {X Y y z : Int} (hp : N ≤ p) (hq : N ≤ q) (b1 : BigIs W p y) (b2 : BigIs W q z) (hg : QREnd W W' p q X Y) : Shs w W' N vo vc os ps cs pl L := by
  obtain ⟨_, _, g, k⟩ := hg
  have hw := h.lo
  have hh := h.hi
  refine ⟨below_two h.below g (by omega) (by omega), Nat.le_trans h.size g.size, h.out.ofBlock fun j hj => g.block j (h.out.lt j hj).2 (fun e => h.out.notBig (by decide) b1 (by rw [hj, e])) (fun e => h.out.notBig (by decide) b2 (by rw [hj, e])), h.cut.ofBlock fun j hj => g.block j (h.cut.lt j hj).2 (fun e => h.cut.notBig (by decide) b1 (by rw [hj, e])) (fun e => h.cut.notBig (by decide) b2 (by rw [hj, e])), k _ _ (by omega) (by omega) h.left, h.lo, h.hi, h.len, fun i hi => ?_⟩
  obtain ⟨a, b, c⟩ := h.cuts i hi
  exact ⟨k _ _ (by omega) (by omega) a, b, c⟩
theorem Shs.more_ (h : Shs w W N vo vc os ps cs pl L) {N' : Nat} (h1 : N ≤ N') (h2 : N' ≤ W.heap.size) : Shs w W N' vo vc os ps cs pl L :=
  ⟨h.below, h2, h.out, h.cut, h.left, h.lo, Nat.lt_of_lt_of_le h.hi h1, h.len, fun i hi => ⟨(h.cuts i hi).1, (h.cuts i hi).2.1, Nat.lt_of_lt_of_le (h.cuts i hi).2.2 h1⟩⟩
theorem out_cut (h : Shs w W N vo vc os ps cs pl L) {j : Nat} (h1 : vo.ownBlock = some j) : vc.ownBlock ≠ some j := fun h2 => by
  obtain ⟨c1, e1, _⟩ := h.out.all j h1
  obtain ⟨c2, e2, _⟩ := h.cut.all j h2
  rw [e1] at e2
  injection e2 with e2
  injection e2 with _ e2
  exact absurd e2 (by decide)
theorem Shs.outs_ (h : Shs w W N vo vc os ps cs pl L) {vo' : Value} {os' : List Int} (hr : KRow 3 KI W' w.heap.size vo' (ints os')) (hg : W.grownBy W' vo.ownBlock) : Shs w W' N vo' vc os' ps cs pl L :=
  ⟨h.below.grown hg h.below.size (fun q e => (h.out.lt q e).1), Nat.le_trans h.size hg.size, hr, h.cut.grown hg (fun j hj e => out_cut h e hj), h.left.keepK h.out (by decide) ki_not hg, h.lo, h.hi, h.len, fun i hi => ⟨(h.cuts i hi).1.keepK h.out (by decide) ki_not hg, (h.cuts i hi).2⟩⟩
theorem Shs.cuts_ (h : Shs w W N vo vc os ps cs pl L) {vc' : Value} {ps' : List Nat} {cs' : List Int} {N' : Nat} (hN : N ≤ N') (hN2 : N' ≤ W.heap.size) (hr : KRow 78 KP W' w.heap.size vc' (ptrs ps')) (hg : W.grownBy W' vc.ownBlock) (hl : ps'.length = cs'.length) (hc : ∀ i, i < ps'.length → BigIs W (ps'.getD i 0) (cs'.getD i 0) ∧ pl < ps'.getD i 0 ∧ ps'.getD i 0 < N') : Shs w W' N' vo vc' os ps' cs' pl L :=
  ⟨h.below.grown hg h.below.size (fun q e => (h.cut.lt q e).1), Nat.le_trans hN2 hg.size, h.out.grown hg (fun j hj e => out_cut h hj e), hr, h.left.keepK h.cut (by decide) kp_not hg, h.lo, Nat.lt_of_lt_of_le h.hi hN, hl, fun i hi => ⟨(hc i hi).1.keepK h.cut (by decide) kp_not hg, (hc i hi).2⟩⟩
end
end Go.Proofs.YtiolkeipgpkbmaaGreatDoor

namespace Go.Proofs.YtiolkeipgpkbmaaGreatDoor
set_option linter.unusedVariables false
set_option linter.unusedSimpArgs false
set_option maxRecDepth 100000
open Go.RowKit Go.Lib Big

theorem shs_mul {t x M X : Int} (h1 : -M ≤ t) (h2 : t ≤ M) (h3 : 0 ≤ x) (h4 : x ≤ X) (hM : 0 ≤ M) : -(M * X) ≤ t * x ∧ t * x ≤ M * X := by
  have a1 : t * x ≤ M * x := Int.mul_le_mul_of_nonneg_right h2 h3
  have a2 : M * x ≤ M * X := Int.mul_le_mul_of_nonneg_left h4 hM
  have a3 : -M * x ≤ t * x := Int.mul_le_mul_of_nonneg_right h1 h3
  rw [Int.neg_mul] at a3
  omega
theorem ks_int_info : (Tryz.prog.info? 3).map (fun i => (i.zero, i.size, i.bytes)) = some (some (.int .i64 0), 1, 8) := by kernel_rfl
theorem ks_ptr_info : (Tryz.prog.info? 78).map (fun i => (i.zero, i.size, i.bytes)) = some (some (.pointer none), 1, 8) := by kernel_rfl
/-- One more part. -/
theorem app_out {w W : World} {N : Nat} {vo vc : Value} {os : List Int} {ps : List Nat} {cs : List Int} {pl : Nat} {L : Int} (h : Shs w W N vo vc os ps cs pl L) (x : Int) (hl : os.length ≤ 100000) : ∃ vo' W', (Builtin.append_ #[43, 43] 43 #[vo, .slice (some ⟨W.heap.size, 0, none⟩) 1 1]).run Tryz.prog (W.alloc (.cells #[.int .i64 x] 3)) = .ok vo' W' ∧ Shs w W' N vo' vc (os ++ [x]) ps cs pl L ∧ W.grownBy W' vo.ownBlock := by
  have hi := ks_int_info
  cases hq : Tryz.prog.info? 3 with
  | none => rw [hq] at hi; simp at hi
  | some qi =>
    rw [hq] at hi
    simp only [Option.map_some, Option.some.injEq, Prod.mk.injEq] at hi
    have ga := World.grownBy_alloc W (.cells #[.int .i64 x] 3) none
    have h1 := h.none_ ga
    obtain ⟨g, cap, W', hr, hk, hgr⟩ := run_appK 43 43 3 qi (.int .i64 0) (by kernel_rfl) hq hi.1 hi.2.1 hi.2.2 rfl KI ⟨0, rfl⟩ _ w.heap.size vo (ints os) (.int .i64 x) W.heap.size ⟨x, rfl⟩ rfl h1.out (World.alloc_heap_new W _) h1.below.size (by simpa [ints] using hl) (fun u hu => by
      obtain ⟨n, _, e⟩ := List.mem_map.1 hu; exact ⟨n, e.symm⟩)
    refine ⟨_, W', hr, h1.outs_ (by simpa [ints] using hk) hgr, ⟨hgr.os.trans ga.os, hgr.tape.trans ga.tape, hgr.output.trans ga.output, Nat.le_trans ga.size hgr.size, fun i hi hp => (hgr.block i (Nat.lt_of_lt_of_le hi ga.size) hp).trans (ga.block i hi (by simp))⟩⟩
/-- One more that was cut. -/
theorem app_cut {w W : World} {N : Nat} {vo vc : Value} {os : List Int} {ps : List Nat} {cs : List Int} {pl : Nat} {L : Int} (h : Shs w W N vo vc os ps cs pl L) (p : Nat) (x : Int) (hb : BigIs W p x) (hp : N ≤ p) (hl : ps.length ≤ 100000) : ∃ vc' W', (Builtin.append_ #[77, 77] 77 #[vc, .slice (some ⟨W.heap.size, 0, none⟩) 1 1]).run Tryz.prog (W.alloc (.cells #[.pointer (some ⟨p, 0, none⟩)] 78)) = .ok vc' W' ∧ Shs w W' W'.heap.size vo vc' os (ps ++ [p]) (cs ++ [x]) pl L := by
  have hi := ks_ptr_info
  cases hq : Tryz.prog.info? 78 with
  | none => rw [hq] at hi; simp at hi
  | some qi =>
    rw [hq] at hi
    simp only [Option.map_some, Option.some.injEq, Prod.mk.injEq] at hi
    have ga := World.grownBy_alloc W (.cells #[.pointer (some ⟨p, 0, none⟩)] 78) none
    have h1 := h.none_ ga
    have hb1 := hb.growBy ga
    obtain ⟨g, cap, W', hr, hk, hgr⟩ := run_appK 77 77 78 qi (.pointer none) (by kernel_rfl) hq hi.1 hi.2.1 hi.2.2 rfl KP ⟨none, rfl⟩ _ w.heap.size vc (ptrs ps) (.pointer (some ⟨p, 0, none⟩)) W.heap.size ⟨_, rfl⟩ rfl h1.cut (World.alloc_heap_new W _) h1.below.size (by simpa [ptrs] using hl) (fun u hu => by
      obtain ⟨n, _, e⟩ := List.mem_map.1 hu; exact ⟨_, e.symm⟩)
    have hhi := h.hi
    have hlt := hb1.lt
    have h2 := h1.cuts_ (N' := (W.alloc (.cells #[.pointer (some ⟨p, 0, none⟩)] 78)).heap.size) (ps' := ps ++ [p]) (cs' := cs ++ [x]) h1.size (Nat.le_refl _) (by simpa [ptrs] using hk) hgr (by simp [h.len]) (fun i hi => by
      have hlen := h.len
      by_cases hc : i < ps.length
      · obtain ⟨a1, a2, a3⟩ := h1.cuts i hc
        have e1 : (ps ++ [p]).getD i 0 = ps.getD i 0 := by simp [List.getD_eq_getElem?_getD, List.getElem?_append_left hc]
        have e2 : (cs ++ [x]).getD i 0 = cs.getD i 0 := by simp [List.getD_eq_getElem?_getD, List.getElem?_append_left (hlen ▸ hc)]
        rw [e1, e2]
        exact ⟨a1, a2, Nat.lt_of_lt_of_le a3 h1.size⟩
      · have hi' : i = ps.length := by simp at hi; omega
        have e1 : (ps ++ [p]).getD i 0 = p := by rw [hi']; simp [List.getD_eq_getElem?_getD]
        have e2 : (cs ++ [x]).getD i 0 = x := by rw [hi', hlen]; simp [List.getD_eq_getElem?_getD]
        rw [e1, e2]
        exact ⟨hb1, by omega, hlt⟩)
    refine ⟨_, W', hr, ?_⟩
    rw [show (ptrs ps).length = ps.length by simp [ptrs]]
    exact h2.more_ hgr.size (Nat.le_refl _)
end Go.Proofs.YtiolkeipgpkbmaaGreatDoor

namespace Go.Proofs.YtiolkeipgpkbmaaGreatDoor
set_option linter.unusedVariables false
set_option linter.unusedSimpArgs false
set_option maxRecDepth 100000
open Go.RowKit Go.Lib Big

theorem KRow.shape {e : TypeId} {K : Value → Prop} {W : World} {base : Nat} {v : Value} {xs : List Value} (h : KRow e K W base v xs) (h0 : 0 < xs.length) : ∃ g cap, v = .slice (some ⟨g, 0, none⟩) xs.length cap ∧ base ≤ g ∧ g < W.heap.size ∧ xs.length ≤ cap := by
  rcases h.own.2 with ⟨_, hn⟩ | ⟨g1, c1, cur, hv, hb1, hh, r, _⟩
  · omega
  · exact ⟨g1, c1, hv, hb1, (Array.getElem?_eq_some_iff.1 hh).1, r⟩
theorem ints_set (os : List Int) (i : Nat) (x : Int) : (ints os).set i (.int .i64 x) = ints (os.set i x) := by unfold ints; rw [List.map_set]
theorem ptrs_set (ps : List Nat) (i p : Nat) : (ptrs ps).set i (.pointer (some ⟨p, 0, none⟩)) = ptrs (ps.set i p) := by unfold ptrs; rw [List.map_set]
section
variable {w W : World} {N : Nat} {vo vc : Value} {os : List Int} {ps : List Nat} {cs : List Int} {pl : Nat} {L : Int} {g n c : Nat}
theorem Shs.setOut (h : Shs w W N (.slice (some ⟨g, 0, none⟩) n c) vc os ps cs pl L) {i : Nat} (hi : i < os.length) (x : Int) : Shs w (W.setCell ⟨g, i, none⟩ (.int .i64 x)) N (.slice (some ⟨g, 0, none⟩) n c) vc (os.set i x) ps cs pl L := by
  obtain ⟨h1, h2⟩ := h.out.set i (.int .i64 x) ⟨x, rfl⟩ (by simpa [ints] using hi)
  rw [ints_set] at h1
  exact h.outs_ h1 h2
theorem Shs.setCut (h : Shs w W N vo (.slice (some ⟨g, 0, none⟩) n c) os ps cs pl L) {i p : Nat} {y : Int} (hi : i < ps.length) (hb : BigIs W p y) (hp : N ≤ p) : Shs w (W.setCell ⟨g, i, none⟩ (.pointer (some ⟨p, 0, none⟩))) (W.setCell ⟨g, i, none⟩ (.pointer (some ⟨p, 0, none⟩))).heap.size vo (.slice (some ⟨g, 0, none⟩) n c) os (ps.set i p) (cs.set i y) pl L := by
  obtain ⟨h1, h2⟩ := h.cut.set i (.pointer (some ⟨p, 0, none⟩)) ⟨_, rfl⟩ (by simpa [ptrs] using hi)
  rw [ptrs_set] at h1
  have hh := h.hi
  have hlen := h.len
  have h3 := h.cuts_ (N' := W.heap.size) (ps' := ps.set i p) (cs' := cs.set i y) h.size (Nat.le_refl _) h1 h2 (by simp [hlen]) (fun j hj => by
    rw [List.length_set] at hj
    by_cases hji : i = j
    · subst hji
      have e1 : (ps.set i p).getD i 0 = p := by simp [List.getD_eq_getElem?_getD, List.getElem?_set_self hi]
      have e2 : (cs.set i y).getD i 0 = y := by simp [List.getD_eq_getElem?_getD, List.getElem?_set_self (hlen ▸ hi : i < cs.length)]
      rw [e1, e2]
      exact ⟨hb, by omega, hb.lt⟩
    · have e1 : (ps.set i p).getD j 0 = ps.getD j 0 := by simp [List.getD_eq_getElem?_getD, List.getElem?_set_ne hji]
      have e2 : (cs.set i y).getD j 0 = cs.getD j 0 := by simp [List.getD_eq_getElem?_getD, List.getElem?_set_ne hji]
      rw [e1, e2]
      exact ⟨(h.cuts j hj).1, (h.cuts j hj).2.1, Nat.lt_of_lt_of_le (h.cuts j hj).2.2 h.size⟩)
  exact h3.more_ h2.size (Nat.le_refl _)
theorem Shs.outCell (h : Shs w W N (.slice (some ⟨g, 0, none⟩) n c) vc os ps cs pl L) {i : Nat} (hi : i < os.length) : W.cell? ⟨g, i, none⟩ = some (.int .i64 (os.getD i 0)) ∧ W.frozen? ⟨g, i, none⟩ = false := by
  refine ⟨h.out.cell ?_, h.out.frozen i⟩
  simp [ints, List.getD_eq_getElem?_getD, List.getElem?_eq_getElem hi]
theorem Shs.cutCell (h : Shs w W N vo (.slice (some ⟨g, 0, none⟩) n c) os ps cs pl L) {i : Nat} (hi : i < ps.length) : W.cell? ⟨g, i, none⟩ = some (.pointer (some ⟨ps.getD i 0, 0, none⟩)) ∧ W.frozen? ⟨g, i, none⟩ = false := by
  refine ⟨h.cut.cell ?_, h.cut.frozen i⟩
  simp [ptrs, List.getD_eq_getElem?_getD, List.getElem?_eq_getElem hi]
theorem Shs.drewN (h : Shs w W N vo vc os ps cs pl L) (k : Nat) : Shs w (W.drewN k) N vo vc os ps cs pl L := h.none_ (gdrewN (grefl _ _) k)
end
/-- So far this is the greatest, the first of equal ones. -/
def Best (mk : List Int) (p q : Nat) : Prop := ∀ j, j < q → j ≠ p → LT mk p j
theorem best_keep {mk : List Int} {p q : Nat} (h : Best mk p q) (hp : p < q) (hc : ¬ mk.getD p 0 < mk.getD q 0) : Best mk p (q + 1) := fun j hj hne => by
  rcases (by omega : j < q ∨ j = q) with hj | rfl
  · exact h j hj hne
  · unfold LT; omega
theorem best_new {mk : List Int} {p q : Nat} (h : Best mk p q) (hp : p < q) (hc : mk.getD p 0 < mk.getD q 0) : Best mk q (q + 1) := fun j hj hne => by
  have hj' : j < q := by omega
  by_cases e : j = p
  · subst e; exact .inl hc
  · have := h j hj' e
    unfold LT at *
    omega
theorem part_fit {t : Int} {ws : List Int} (h : GoodW ws) (hl : 0 < leftI (sizeI t) ws) {i : Nat} (hi : i < ws.length) : 0 ≤ (partL (sizeI t) ws).getD i 0 ∧ (partL (sizeI t) ws).getD i 0 + 1 ≤ sizeI t := by
  have hn := partL_nonneg (size_nonneg t) h
  have hm := w_mem (partL (sizeI t) ws) i (by rw [partL_len]; exact hi)
  have h1 := mem_le_sum hn hm
  unfold leftI at hl
  exact ⟨hn _ hm, by omega⟩
theorem outK_at {t : Int} {ws : List Int} {s : List Nat} {k : Nat} (hs : s.Nodup) (hk : k < s.length) (hb : s.getD k 0 < ws.length) : (outK t ws s k).getD (s.getD k 0) 0 = sgS t * (partL (sizeI t) ws).getD (s.getD k 0) 0 := by
  have h2 := rowK_at (sizeI t) ws s k (s.getD k 0) hb
  rw [if_neg (not_ahead hs hk)] at h2
  unfold outK
  rw [List.getD_eq_getElem?_getD, List.getElem?_map]
  rw [List.getD_eq_getElem?_getD, List.getElem?_eq_getElem (by rw [rowK_len]; exact hb)] at h2
  rw [List.getElem?_eq_getElem (by rw [rowK_len]; exact hb)]
  simp only [Option.map_some, Option.getD_some] at h2 ⊢
  rw [h2, Int.add_zero]
theorem sgnJ_left (t : Int) (k : Nat) : sgnJ (sgS t * ((k : Int) + 1)) = sgS t ∧ sgS t ≠ 0 := by
  unfold sgnJ
  rcases sgS_two t with e | e <;> rw [e]
  · rw [if_neg (by omega), if_pos (by omega)]; exact ⟨rfl, by decide⟩
  · rw [if_neg (by omega), if_neg (by omega)]; exact ⟨rfl, by decide⟩
theorem mark_bd {T : Int} {ws : List Int} (h : GoodW ws) (s : List Nat) (k : Nat) {i : Nat} (hi : i < ws.length) : Mark ((markK (cutL T ws) s k).getD i 0) := by
  rw [markK_at _ _ _ (by rw [cutL_len]; exact hi)]
  split
  · exact .inl rfl
  · right
    have hm := w_mem (cutL T ws) i (by rw [cutL_len]; exact hi)
    have := cut_bounds h _ hm
    have h2 := sum_le (l := ws) (M := 1000000000) fun z hz => (h.2.1 z hz).2
    have h3 := h.1
    unfold Mid63
    omega
end Go.Proofs.YtiolkeipgpkbmaaGreatDoor
