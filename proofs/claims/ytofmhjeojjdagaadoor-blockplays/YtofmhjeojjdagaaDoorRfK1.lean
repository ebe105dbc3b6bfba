/-
  The disk of dayref2 in memory: rows of byte slices, and what was written since.
-/
import Derived.Test.YtofmhjeojjdagaaDoorBkK0
namespace Go.Proofs.YtofmhjeojjdagaaDoor
set_option linter.unusedVariables false
set_option linter.unusedSimpArgs false
set_option maxRecDepth 100000
open Go.RowKit Go.Lib

/-- What stands for a block: its bytes, or nothing. -/
def Hb (W : World) (v : Value) (b : Bk) : Prop := (b.torn = true ∧ v = .slice none 0 0) ∨ (b.torn = false ∧ ∃ g, v = .slice (some ⟨g, 0, none⟩) 64 64 ∧ W.heap[g]? = some (.cells (byC b.byt).toArray 5 (0, 0)))
/-- Bytes that were there are as they were. -/
def KeepU (W U : World) : Prop := ∀ (g : Nat) (cs : Array Value), W.heap[g]? = some (.cells cs 5 (0, 0)) → U.heap[g]? = W.heap[g]?
theorem Hb.keep {W U : World} {v : Value} {b : Bk} (h : Hb W v b) (hk : KeepU W U) : Hb U v b := by
  rcases h with h | ⟨h, g, e, hg⟩
  · exact .inl h
  · exact .inr ⟨h, g, e, (hk g _ hg).trans hg⟩
theorem KeepU.trans {A B C : World} (h : KeepU A B) (k : KeepU B C) : KeepU A C := fun g cs e => by
  have e1 := h g cs e
  exact (k g cs (e1.trans e)).trans e1
theorem KeepU.of_below {W U : World} (h : Below W.heap.size W U) : KeepU W U := fun g cs e => h.block g (Array.getElem?_eq_some_iff.1 e).1
theorem KeepU.of_keeps {W U : World} {lo : Nat} {T : List TypeId} (h : Keeps lo T W U) (ht : 5 ∉ T) : KeepU W U := fun g cs e => (h.row e ht).trans e.symm

def nilS : Value := .slice none 0 0
def HbL (W : World) (ns : List Value) (l : List Bk) : Prop := ns.length = l.length ∧ ∀ j, j < l.length → Hb W (ns.getD j nilS) (l.getD j bk0)
theorem HbL.keep {W U : World} {ns : List Value} {l : List Bk} (h : HbL W ns l) (hk : KeepU W U) : HbL U ns l := ⟨h.1, fun j hj => (h.2 j hj).keep hk⟩
theorem HbL.set {W : World} {ns : List Value} {l : List Bk} (h : HbL W ns l) (i : Nat) (v : Value) (b : Bk) (hv : Hb W v b) : HbL W (ns.set i v) (l.set i b) := by
  refine ⟨by rw [List.length_set, List.length_set]; exact h.1, fun j hj => ?_⟩
  rw [List.length_set] at hj
  by_cases e : i = j
  · subst e
    have h1 : i < ns.length := by rw [h.1]; exact hj
    rw [List.getD_eq_getElem?_getD, List.getElem?_set_self h1, List.getD_eq_getElem?_getD, List.getElem?_set_self hj]
    exact hv
  · rw [List.getD_eq_getElem?_getD, List.getElem?_set_ne e, List.getD_eq_getElem?_getD, List.getElem?_set_ne e, ← List.getD_eq_getElem?_getD, ← List.getD_eq_getElem?_getD]
    exact h.2 j hj
theorem HbL.snoc {W : World} {ns : List Value} {l : List Bk} (h : HbL W ns l) (v : Value) (b : Bk) (hv : Hb W v b) : HbL W (ns ++ [v]) (l ++ [b]) := by
  refine ⟨by simp [h.1], fun j hj => ?_⟩
  by_cases e : j < l.length
  · have e2 : j < ns.length := by rw [h.1]; exact e
    rw [List.getD_eq_getElem?_getD, List.getElem?_append_left e2, List.getD_eq_getElem?_getD, List.getElem?_append_left e, ← List.getD_eq_getElem?_getD, ← List.getD_eq_getElem?_getD]
    exact h.2 j e
  · have e1 : j = l.length := by simp at hj; omega
    subst e1
    rw [List.getD_eq_getElem?_getD, List.getElem?_append_right (by rw [h.1]; exact Nat.le_refl _), h.1, Nat.sub_self, List.getD_eq_getElem?_getD, List.getElem?_append_right (Nat.le_refl _), Nat.sub_self]
    exact hv

/-- What was written since, in memory. -/
def wRow (ws : List (Nat × Value)) : List Value := ws.flatMap fun x => [.int .i64 (x.1 : Int), x.2]
theorem wRow_length (ws : List (Nat × Value)) : (wRow ws).length = ws.length * 2 := rowOf_length (fun x : Nat × Value => [.int .i64 (x.1 : Int), x.2]) 2 ws (fun _ _ => rfl)
theorem wRow_snoc (ws : List (Nat × Value)) (i : Nat) (v : Value) : wRow (ws ++ [(i, v)]) = wRow ws ++ [.int .i64 (i : Int), v] := by simp [wRow]
theorem wRow_get (ws : List (Nat × Value)) (k j : Nat) (hk : k < ws.length) (hj : j < 2) : (wRow ws)[k * 2 + j]? = ([.int .i64 ((ws[k]).1 : Int), (ws[k]).2] : List Value)[j]? := rowOf_get (fun x : Nat × Value => [.int .i64 (x.1 : Int), x.2]) 2 ws k j hk (fun _ _ => rfl) hj
def HwL (W : World) (ws : List (Nat × Value)) (l : List Cg) : Prop := ws.length = l.length ∧ ∀ j, j < l.length → (ws.getD j (0, nilS)).1 = (l.getD j cg0).at_ ∧ Hb W (ws.getD j (0, nilS)).2 (l.getD j cg0).to
theorem HwL.keep {W U : World} {ws : List (Nat × Value)} {l : List Cg} (h : HwL W ws l) (hk : KeepU W U) : HwL U ws l := ⟨h.1, fun j hj => ⟨(h.2 j hj).1, (h.2 j hj).2.keep hk⟩⟩
theorem HwL.snoc {W : World} {ws : List (Nat × Value)} {l : List Cg} (h : HwL W ws l) (i : Nat) (v : Value) (b : Bk) (hv : Hb W v b) : HwL W (ws ++ [(i, v)]) (l ++ [⟨i, b⟩]) := by
  refine ⟨by simp [h.1], fun j hj => ?_⟩
  by_cases e : j < l.length
  · have e2 : j < ws.length := by rw [h.1]; exact e
    rw [List.getD_eq_getElem?_getD, List.getElem?_append_left e2, List.getD_eq_getElem?_getD, List.getElem?_append_left e, ← List.getD_eq_getElem?_getD, ← List.getD_eq_getElem?_getD]
    exact h.2 j e
  · have e1 : j = l.length := by simp at hj; omega
    subst e1
    rw [List.getD_eq_getElem?_getD, List.getElem?_append_right (by rw [h.1]; exact Nat.le_refl _), h.1, Nat.sub_self, List.getD_eq_getElem?_getD, List.getElem?_append_right (Nat.le_refl _), Nat.sub_self]
    exact ⟨rfl, hv⟩

def stopOf (f : Int) : Int := if f < 0 then -1 else f

structure KAt (W : World) (lo kp : Nat) (vn vs vw : Value) (ns ss : List Value) (ws : List (Nat × Value)) (D : Dk) : Prop where
  box : W.heap[kp]? = some (.cells #[vn, vs, vw, .int .i64 (D.steps : Int), .int .i64 (stopOf D.fail)] 44 (0, 0))
  lk : lo ≤ kp
  now : W.ownsRow lo 33 1 vn ns.length ns
  safe : W.ownsRow lo 33 1 vs ss.length ss
  since : W.ownsRow lo 62 2 vw ws.length (wRow ws)
  ne : ∀ j, vn.ownBlock = some j → vs.ownBlock ≠ some j
  hn : HbL W ns D.now
  hs : HbL W ss D.safe
  hw : HwL W ws D.chg
  o1 : ∀ v ∈ ns, v.oneCell' = true
  o2 : ∀ v ∈ ss, v.oneCell' = true

def kT : List TypeId := [44, 33, 62]
section
variable {W U : World} {lo kp : Nat} {vn vs vw : Value} {ns ss : List Value} {ws : List (Nat × Value)} {D : Dk}
theorem KAt.keep (h : KAt W lo kp vn vs vw ns ss ws D) (hk : ∀ (b : Nat) (cs : Array Value) (t : TypeId), W.heap[b]? = some (.cells cs t (0, 0)) → t ∈ kT → U.heap[b]? = W.heap[b]?) (hu : KeepU W U) : KAt U lo kp vn vs vw ns ss ws D :=
  ⟨(hk _ _ _ h.box (by simp [kT])).trans h.box, h.lk, ownsRow_keep h.now (fun b cs e _ => hk b cs _ e (by simp [kT])), ownsRow_keep h.safe (fun b cs e _ => hk b cs _ e (by simp [kT])), ownsRow_keep h.since (fun b cs e _ => hk b cs _ e (by simp [kT])), h.ne, h.hn.keep hu, h.hs.keep hu, h.hw.keep hu, h.o1, h.o2⟩
theorem KAt.below (h : KAt W lo kp vn vs vw ns ss ws D) (hb : Below W.heap.size W U) : KAt U lo kp vn vs vw ns ss ws D :=
  h.keep (fun b cs t e _ => hb.block b (Array.getElem?_eq_some_iff.1 e).1) (KeepU.of_below hb)
theorem KAt.keeps {lo' : Nat} {T : List TypeId} (h : KAt W lo kp vn vs vw ns ss ws D) (hb : Keeps lo' T W U) (hT : ∀ t ∈ kT, t ∉ T) (hu : 5 ∉ T) : KAt U lo kp vn vs vw ns ss ws D :=
  h.keep (fun b cs t e ht => (hb.row e (hT t ht)).trans e.symm) (KeepU.of_keeps hb hu)
theorem KAt.c0 (h : KAt W lo kp vn vs vw ns ss ws D) : W.cell? ⟨kp, 0, none⟩ = some vn := by have := h.box; simp [World.cell?, this]
theorem KAt.c1 (h : KAt W lo kp vn vs vw ns ss ws D) : W.cell? ⟨kp, 1, none⟩ = some vs := by have := h.box; simp [World.cell?, this]
theorem KAt.c2 (h : KAt W lo kp vn vs vw ns ss ws D) : W.cell? ⟨kp, 2, none⟩ = some vw := by have := h.box; simp [World.cell?, this]
theorem KAt.c3 (h : KAt W lo kp vn vs vw ns ss ws D) : W.cell? ⟨kp, 3, none⟩ = some (.int .i64 (D.steps : Int)) := by have := h.box; simp [World.cell?, this]
theorem KAt.c4 (h : KAt W lo kp vn vs vw ns ss ws D) : W.cell? ⟨kp, 4, none⟩ = some (.int .i64 (stopOf D.fail)) := by have := h.box; simp [World.cell?, this]
theorem KAt.fz (h : KAt W lo kp vn vs vw ns ss ws D) (o : Nat) : W.frozen? ⟨kp, o, none⟩ = false := by have := h.box; simp [World.frozen?, this]
theorem KAt.lt (h : KAt W lo kp vn vs vw ns ss ws D) : kp < W.heap.size := (Array.getElem?_eq_some_iff.1 h.box).1
end

theorem own_tag {W : World} {lo : Nat} {e : TypeId} {z : Nat} {v : Value} {m : Nat} {xs : List Value} (h : W.ownsRow lo e z v m xs) (j : Nat) (hj : v.ownBlock = some j) : lo ≤ j ∧ ∃ cs, W.heap[j]? = some (.cells cs e (0, 0)) := by
  rcases h.2 with ⟨rfl, _⟩ | ⟨g1, c1, cur, rfl, hb1, hh, r⟩
  · cases hj
  · cases hj
    exact ⟨hb1, _, hh⟩
theorem tag_ne {W : World} {a b : Nat} {cs cs' : Array Value} {t t' : TypeId} {f f' : Nat × Nat} (h : W.heap[a]? = some (.cells cs t f)) (h' : W.heap[b]? = some (.cells cs' t' f')) (hne : t ≠ t') : a ≠ b := fun e => by
  subst e
  rw [h] at h'
  simp at h'
  exact hne h'.2.1
/-- A row of values of one cell: read and set. -/
theorem own_get {W : World} {lo : Nat} {e : TypeId} {v : Value} {m : Nat} {xs : List Value} (h : W.ownsRow lo e 1 v m xs) (i : Nat) (hi : i < m) :
    ∃ g cap, v = .slice (some ⟨g, 0, none⟩) m cap ∧ W.cell? ⟨g, i, none⟩ = some (xs.getD i nilS) ∧ W.frozen? ⟨g, i, none⟩ = false := by
  rcases h.2 with ⟨_, h0⟩ | ⟨g1, c1, cur, rfl, hb1, hh, hm, hc, hs, ht⟩
  · omega
  · refine ⟨g1, c1, rfl, ?_, by simp [World.frozen?, hh]⟩
    have hl : i < xs.length := by rw [h.1]; omega
    have e1 : xs[i]? = cur[i]? := by
      rw [← ht, List.getElem?_take, if_pos (by omega)]
      simp
    rw [cell_of_row W g1 i _ _ (0, 0) hh, ← e1, List.getD_eq_getElem?_getD, List.getElem?_eq_getElem hl]
    rfl
theorem own_set {W : World} {lo : Nat} {e : TypeId} {m cap g : Nat} {xs : List Value} (h : W.ownsRow lo e 1 (.slice (some ⟨g, 0, none⟩) m cap) m xs) (i : Nat) (hi : i < m) (x : Value) : (W.setCell ⟨g, i, none⟩ x).ownsRow lo e 1 (.slice (some ⟨g, 0, none⟩) m cap) m (xs.set i x) := by
  rcases h.2 with ⟨h0, _⟩ | ⟨g1, c1, cur, h0, hb1, hh, hm, hc, hs, ht⟩
  · cases h0
  · cases h0
    refine ⟨by rw [List.length_set]; exact h.1, .inr ⟨g, cap, cur.setIfInBounds i x, rfl, hb1, ?_, hm, hc, by simpa using hs, ?_⟩⟩
    · rw [setCell_eq_setRow W g i cur e (0, 0) x hh, setRow_heap W g cur _ e (0, 0) hh]
    · rw [Array.toList_setIfInBounds, ← ht, List.take_set]

theorem KAt.nowB {W : World} {lo kp : Nat} {vn vs vw : Value} {ns ss : List Value} {ws : List (Nat × Value)} {D : Dk} (h : KAt W lo kp vn vs vw ns ss ws D) (j : Nat) (hj : vn.ownBlock = some j) : j ≠ kp := by
  obtain ⟨_, cs, hh⟩ := own_tag h.now j hj
  exact tag_ne hh h.box (by decide)

/-- A number of the disk is set. -/
theorem KAt.num {W : World} {lo kp : Nat} {vn vs vw : Value} {ns ss : List Value} {ws : List (Nat × Value)} {D : Dk} (h : KAt W lo kp vn vs vw ns ss ws D) (o : Nat) (v : Value) (D' : Dk)
    (hb : (#[vn, vs, vw, .int .i64 (D.steps : Int), .int .i64 (stopOf D.fail)] : Array Value).setIfInBounds o v = #[vn, vs, vw, .int .i64 (D'.steps : Int), .int .i64 (stopOf D'.fail)]) (h1 : D'.now = D.now) (h2 : D'.safe = D.safe) (h3 : D'.chg = D.chg) : KAt (W.setCell ⟨kp, o, none⟩ v) lo kp vn vs vw ns ss ws D' := by
  have hk : ∀ (b : Nat) (cs : Array Value) (t : TypeId), W.heap[b]? = some (.cells cs t (0, 0)) → t ≠ 44 → (W.setCell ⟨kp, o, none⟩ v).heap[b]? = W.heap[b]? := fun b cs t e ht => Below.heap_setCell _ _ _ _ (tag_ne e h.box ht)
  have hu : KeepU W (W.setCell ⟨kp, o, none⟩ v) := fun g cs e => hk g cs _ e (by decide)
  exact ⟨(box_set h.box o v).trans (by rw [hb]), h.lk, ownsRow_keep h.now (fun b cs e _ => hk b cs _ e (by decide)), ownsRow_keep h.safe (fun b cs e _ => hk b cs _ e (by decide)), ownsRow_keep h.since (fun b cs e _ => hk b cs _ e (by decide)), h.ne, by rw [h1]; exact h.hn.keep hu, by rw [h2]; exact h.hs.keep hu, by rw [h3]; exact h.hw.keep hu, h.o1, h.o2⟩
theorem KAt.setSteps {W : World} {lo kp : Nat} {vn vs vw : Value} {ns ss : List Value} {ws : List (Nat × Value)} {D : Dk} (h : KAt W lo kp vn vs vw ns ss ws D) (s : Nat) : KAt (W.setCell ⟨kp, 3, none⟩ (.int .i64 (s : Int))) lo kp vn vs vw ns ss ws { D with steps := s } := h.num 3 _ _ rfl rfl rfl rfl
/-- A block is set. -/
theorem KAt.setNow {W : World} {lo kp g cap : Nat} {vs vw : Value} {ns ss : List Value} {ws : List (Nat × Value)} {D : Dk} (h : KAt W lo kp (.slice (some ⟨g, 0, none⟩) ns.length cap) vs vw ns ss ws D) (i : Nat) (hi : i < ns.length) (x : Value) (b : Bk) (hx : Hb W x b) (ho : x.oneCell' = true) :
    KAt (W.setCell ⟨g, i, none⟩ x) lo kp (.slice (some ⟨g, 0, none⟩) (ns.set i x).length cap) vs vw (ns.set i x) ss ws { D with now := D.now.set i b } := by
  obtain ⟨_, cs0, hg⟩ := own_tag h.now g rfl
  have hk : ∀ (b : Nat) (cs : Array Value) (t : TypeId), W.heap[b]? = some (.cells cs t (0, 0)) → t ≠ 33 → (W.setCell ⟨g, i, none⟩ x).heap[b]? = W.heap[b]? := fun b cs t e ht => Below.heap_setCell _ _ _ _ (tag_ne e hg ht)
  have hu : KeepU W (W.setCell ⟨g, i, none⟩ x) := fun q cs e => hk q cs _ e (by decide)
  rw [List.length_set]
  refine ⟨(hk _ _ _ h.box (by decide)).trans h.box, h.lk, ?_, ?_, ownsRow_keep h.since (fun b cs e _ => hk b cs _ e (by decide)), h.ne, (h.hn.keep hu).set i x b (hx.keep hu), h.hs.keep hu, h.hw.keep hu, fun v hv => ?_, h.o2⟩
  · rw [List.length_set]; exact own_set h.now i hi x
  · rcases h.safe.2 with ⟨hv, hn⟩ | ⟨g1, c1, cur, hv, hb1, hh, r⟩
    · exact ⟨h.safe.1, .inl ⟨hv, hn⟩⟩
    · refine ⟨h.safe.1, .inr ⟨g1, c1, cur, hv, hb1, (Below.heap_setCell _ _ _ _ (fun e => ?_)).trans hh, r⟩⟩
      have := h.ne g rfl
      rw [hv] at this
      exact this (by simp only at e; rw [e]; rfl)
  · rcases List.mem_or_eq_of_mem_set hv with hv | rfl
    · exact h.o1 v hv
    · exact ho
end Go.Proofs.YtofmhjeojjdagaaDoor
