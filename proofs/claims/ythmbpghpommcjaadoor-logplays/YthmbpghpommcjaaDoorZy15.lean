/-
  daylaw2.LogPlays at any numbers.
-/
import Derived.Test.YthmbpghpommcjaaDoorZy14
import Derived.Test.YthmbpghpommcjaaDoorZy2
import Derived.Below
import Derived.Deep.CutRange
import Derived.Deep.CutBlock
import Derived.WalkLawsBesides
namespace Go.Proofs.YthmbpghpommcjaaDoor
set_option linter.unusedVariables false
set_option linter.unusedSimpArgs false
set_option maxRecDepth 100000
open Go.RowKit Go.Lib

/-- Lists of numbers that came in. -/
structure Rw where
  ad : Option Addr
  l : List Int
  cap : Nat
def rw0 : Rw := ⟨none, [], 0⟩
structure IsRs (W : World) (a : Option Addr) (rs : List Rw) (cap : Nat) : Prop where
  cap : rs.length ≤ cap
  lies : rs = [] ∨ ∃ b off, a = some ⟨b, off, none⟩ ∧ b < W.heap.size ∧ ∀ k, k < rs.length → W.cell? ⟨b, off + k, none⟩ = some (.slice (rs.getD k rw0).ad (rs.getD k rw0).l.length (rs.getD k rw0).cap)
  rows : ∀ r ∈ rs, IsIn W r.ad r.l r.cap ∧ r.l.length ≤ 9223372036854775807
theorem IsRs.below {w w' : World} {a : Option Addr} {rs : List Rw} {cap : Nat} (h : IsRs w a rs cap) (hb : Below w.heap.size w w') : IsRs w' a rs cap := by
  refine ⟨h.cap, ?_, fun r hr => ⟨(h.rows r hr).1.below hb, (h.rows r hr).2⟩⟩
  rcases h.lies with h | ⟨b, off, e, hlt, hc⟩
  · exact .inl h
  · exact .inr ⟨b, off, e, by have := hb.size; omega, fun k hk => (hb.cell (p := ⟨b, off + k, none⟩) hlt).trans (hc k hk)⟩

/-- The first two numbers of a list, and 0. -/
def va (l : List Int) : Array Value := #[.int .i64 (l.getD 0 0), .int .i64 (l.getD 1 0)]
theorem va_set (l : List Int) (j : Nat) (hj : j < l.length) (h4 : j < 2) : (va (l.take j)).setIfInBounds j (.int .i64 (l.getD j 0)) = va (l.take (j + 1)) := by
  have e : ∀ i, i < j → (l.take j).getD i 0 = (l.take (j + 1)).getD i 0 := fun i hi => by
    simp only [List.getD_eq_getElem?_getD, List.getElem?_take]
    rw [if_pos hi, if_pos (by omega)]
  have e2 : (l.take (j + 1)).getD j 0 = l.getD j 0 := by
    simp only [List.getD_eq_getElem?_getD, List.getElem?_take]
    rw [if_pos (by omega)]
  have e3 : ∀ i, j < i → (l.take j).getD i 0 = (l.take (j + 1)).getD i 0 := fun i hi => by
    simp only [List.getD_eq_getElem?_getD, List.getElem?_take]
    rw [if_neg (by omega), if_neg (by omega)]
  match j, h4 with
  | 0, _ => simp only [va]; rw [← e2, e3 1 (by omega)]; rfl
  | 1, _ => simp only [va]; rw [← e2, e 0 (by omega)]; rfl
theorem va_get (l : List Int) (j : Nat) (h4 : j < 2) : (va l)[j]? = some (.int .i64 (l.getD j 0)) := by
  match j, h4 with
  | 0, _ => rfl
  | 1, _ => rfl
theorem va_take (l : List Int) (j : Nat) (h : j = 2 ∨ l.length ≤ j) : va (l.take j) = va l := by
  rcases h with rfl | h
  · have e : ∀ i, i < 2 → (l.take 2).getD i 0 = l.getD i 0 := fun i hi => by
      simp only [List.getD_eq_getElem?_getD, List.getElem?_take]
      rw [if_pos hi]
    simp only [va]
    rw [e 0 (by omega), e 1 (by omega)]
  · rw [List.take_of_length_le h]
theorem alloc_v (w : World) : (Instr.alloc 34 true (.tuple #[])).run Tryd.prog w = .ok (.pointer (some ⟨w.heap.size, 0, none⟩)) (w.alloc (.cells (va []) 34)) := by
  have hz0 : (Tryd.prog.info? 34).map (·.zero) = some (some (.agg (va []))) := by kernel_rfl
  cases hq : Tryd.prog.info? 34 with
  | none => simp [hq] at hz0
  | some q =>
    have hz : q.zero = some (.agg (va [])) := by simpa [hq] using hz0
    simp [Instr.alloc, zeroValue, typeInfo, hq, hz, newVar, newRow, Value.cells]
theorem drewB (u : World) : Below u.heap.size u u.drew := ⟨rfl, rfl, rfl, Nat.le_refl _, fun _ _ => rfl⟩
theorem zero_bytes (m : Nat) : madeCells #[.int .u8 0] m = (byC (List.replicate m 0)).toArray := by
  apply Array.ext
  · simp [madeCells, byC]
  · intro k h1 h2
    simp [madeCells, byC, Nat.mod_one]
/-- So many bytes are set, the others are 0. -/
def fil (X : UInt8) (n j : Nat) : List UInt8 := List.replicate j X ++ List.replicate (n - j) 0
theorem fil_length (X : UInt8) (n j : Nat) (h : j ≤ n) : (fil X n j).length = n := by simp [fil]; omega
/-- One more is set. -/
theorem fil_set {W : World} {g n j : Nat} {X : UInt8} (h : W.heap[g]? = some (.cells (byC (fil X n j)).toArray 5 (0, 0))) (hj : j < n) :
    W.cell? ⟨g, j, none⟩ = some (.int .u8 0) ∧ W.frozen? ⟨g, j, none⟩ = false ∧ (W.setCell ⟨g, j, none⟩ (.int .u8 (X.toNat : Int))).heap[g]? = some (.cells (byC (fil X n (j + 1))).toArray 5 (0, 0)) := by
  refine ⟨?_, by unfold World.frozen?; simp only [h]; rfl, ?_⟩
  · rw [cell_of_row _ _ _ _ _ (0, 0) h]
    simp only [byC, fil, List.map_append, List.map_replicate, List.getElem?_toArray]
    rw [List.getElem?_append_right (by simp), List.length_replicate, List.getElem?_replicate, if_pos (by omega)]
    rfl
  · rw [setCell_eq_setRow _ _ j _ _ (0, 0) _ h, setRow_heap _ _ _ _ _ (0, 0) h]
    congr 2
    apply Array.ext'
    simp [byC, fil]
    rw [show n - j = (n - (j + 1)) + 1 by omega, List.replicate_succ, List.set_cons_zero, List.replicate_succ', List.append_assoc]
    rfl
/-- A row of bytes is made. -/
theorem make_zero (nn : Nat) (hk : nn ≤ 201) (X : UInt8) (W : World) :
    ∃ V, (Instr.makeSlice 36 (.int .i64 (nn : Int)) (.int .i64 (nn : Int))).run Tryd.prog W = .ok (.slice (some ⟨W.heap.size, 0, none⟩) nn nn) V ∧ V.heap[W.heap.size]? = some (.cells (byC (fil X nn 0)).toArray 5 (0, 0)) ∧ Below W.heap.size W V := by
  have hr := run_make_row' (P := Tryd.prog) 36 5 (.int .u8 0) 1 Tryd.underlying36 u8_info rfl .i64 .i64 nn (by omega) (by omega) W
  rw [zero_bytes] at hr
  refine ⟨_, hr, ?_, (Below.refl _ W).alloc (Nat.le_refl _) _⟩
  have := new_heap W (.cells (byC (List.replicate nn 0)).toArray 5)
  simpa [fil] using this
/-- A record more, apart from the text. -/
theorem Rcs.more {W2 U : World} {n : Nat} {tv v v' x : Value} {rs : List (List UInt8)} {vs : List Value} {r : List UInt8} (h : ∀ k, k < rs.length → ByRow W2 n (vs.getD k .nilIface) (rs.getD k [])) (h4 : ∀ k g, k < rs.length → (vs.getD k .nilIface).ownBlock = some g → tv.ownBlock ≠ some g) (hl : vs.length = rs.length) (hv : W2.ownsRow n 36 1 v rs.length vs) (hx : ByRow W2 n x r) (hxa : ∀ g, x.ownBlock = some g → tv.ownBlock ≠ some g) (hg : W2.grownBy U v.ownBlock) (hu : U.ownsRow n 36 1 v' (rs.length + 1) (vs ++ [x])) : Rcs U n tv v' (rs ++ [r]) := by
  have key : ∀ (y : Value) (l : List UInt8), ByRow W2 n y l → ByRow U n y l := fun y l hy => ownsRow_keep hy (fun b cs e _ => hg.block b (Array.getElem?_eq_some_iff.1 e).1 (fun e2 => by
    rcases hv.2 with ⟨hv', hn⟩ | ⟨g1, c1, cur, hv', hb1, hh, _⟩
    · rw [hv'] at e2; cases e2
    · rw [hv'] at e2
      cases e2
      rw [e] at hh
      cases hh))
  refine ⟨vs ++ [x], by simp [hl], by rw [List.length_append]; exact hu, fun k hk => ?_, fun k g hk e3 => ?_⟩
  · by_cases e : k < rs.length
    · have h1 := key _ _ (h k e)
      simp only [List.getD_eq_getElem?_getD] at h1 ⊢
      rw [List.getElem?_append_left (by omega), List.getElem?_append_left e]
      exact h1
    · have ek : k = rs.length := by simp at hk; omega
      simp only [List.getD_eq_getElem?_getD]
      rw [ek, List.getElem?_append_right (by omega), List.getElem?_append_right (Nat.le_refl _), hl]
      simp
      exact key _ _ hx
  · by_cases e : k < rs.length
    · refine h4 k g e ?_
      simp only [List.getD_eq_getElem?_getD] at e3 ⊢
      rw [List.getElem?_append_left (by omega)] at e3
      exact e3
    · have ek : k = rs.length := by simp at hk; omega
      simp only [List.getD_eq_getElem?_getD] at e3
      rw [ek, List.getElem?_append_right (by omega), hl] at e3
      simp at e3
      exact hxa g e3
/-- A row of bytes in memory is one of one's own. -/
theorem byRow_at {W : World} {n g : Nat} {l : List UInt8} (h : W.heap[g]? = some (.cells (byC l).toArray 5 (0, 0))) (hn : n ≤ g) (hl : l.length ≤ 1000000) : ByRow W n (.slice (some ⟨g, 0, none⟩) l.length l.length) l := by
  refine ⟨by rw [byC_length]; omega, .inr ⟨g, l.length, (byC l).toArray, rfl, hn, h, Nat.le_refl _, by unfold maxLen; omega, by simp [byC_length], ?_⟩⟩
  rw [List.toList_toArray, Nat.mul_one, ← byC_length l, List.take_length]
/-- A log's call turns no row that is apart from its text. -/
theorem byRow_keep {w W U : World} {p nb sb : Nat} {cv : Value} {m : Nat} {D : Dk} {lb fr mn : Nat} {tv tv' wv wv' : Value} {s : Ls} {tx : List UInt8} {wh : List Nat} (a : LgAt w W p nb sb cv m D lb fr mn tv wv s tx wh) {v : Value} {l : List UInt8} (h : ByRow W w.heap.size v l) (hv : ∀ g, v.ownBlock = some g → tv.ownBlock ≠ some g) (k : LKeep w.heap.size lb tv wv tv' wv' W U) : ByRow U w.heap.size v l ∧ ∀ g, v.ownBlock = some g → tv'.ownBlock ≠ some g := by
  have hba : W.heap[lb]? = _ := a.box
  refine ⟨ownsRow_keep1 h (fun b cs e1 e2 => k.block b (Array.getElem?_eq_some_iff.1 e2).1 (.inr ⟨fun e3 => ?_, hv b e1, ownsRow_ne a.wh e2 (by decide), fun cs' t' fr' e' => ?_⟩)), fun g e => k.tx.ne (ownsRow_in h e).2.1 (hv g e)⟩
  · rw [e3, hba] at e2
    cases e2
  · rw [e2] at e'
    cases e'
    decide
/-- What grows the law's own row does not touch. -/
structure Grew (n : Nat) (W U : World) : Prop where
  bel : Below n W U
  ne : ∀ (j : Nat) (cs : Array Value) (t : TypeId), W.heap[j]? = some (.cells cs t (0, 0)) → t ≠ 36 → U.heap[j]? = W.heap[j]?
theorem Grew.of {n : Nat} {W U : World} {v : Value} {m : Nat} {vs : List Value} (hv : W.ownsRow n 36 1 v m vs) (hg : W.grownBy U v.ownBlock) (hn : n ≤ W.heap.size) : Grew n W U :=
  ⟨(Below.refl _ W).grown hg hn (fun j e => (ownsRow_in hv e).1), fun j cs t e ht => hg.block j (Array.getElem?_eq_some_iff.1 e).1 (fun e2 => ownsRow_ne hv e ht e2.symm)⟩
theorem Tn.grown {w W U : World} {p nb sb : Nat} {cv : Value} {n : Nat} {D : Dk} (h : Tn w W p nb sb cv n D) (g : Grew w.heap.size W U) : Tn w U p nb sb cv n D :=
  ⟨h.1.keep (fun b cs t e ht => g.ne b cs t e (fun e2 => by rw [e2] at ht; revert ht; decide)), h.2.trans g.bel⟩
theorem LgAt.grown {w W U : World} {p nb sb : Nat} {cv : Value} {n : Nat} {D : Dk} {lb fr mn : Nat} {tv wv : Value} {s : Ls} {tx : List UInt8} {wh : List Nat} (a : LgAt w W p nb sb cv n D lb fr mn tv wv s tx wh) (g : Grew w.heap.size W U) : LgAt w U p nb sb cv n D lb fr mn tv wv s tx wh :=
  ⟨a.tn.grown g, (g.ne _ _ _ a.box (by decide)).trans a.box, ownsRow_keep a.tx (fun b cs e _ => g.ne b cs _ e (by decide)), ownsRow_keep a.wh (fun b cs e _ => g.ne b cs _ e (by decide)), a.llb⟩
theorem Yg.grown {w W U : World} {p nb sb : Nat} {cv : Value} {D : Dk} {lb fr mn : Nat} {tv wv : Value} {s : Ls} {wh : List Nat} {rs rsm : List (List UInt8)} {L S : Nat} (h : Yg w W p nb sb cv D lb fr mn tv wv s wh rs rsm L S) (g : Grew w.heap.size W U) : Yg w U p nb sb cv D lb fr mn tv wv s wh rs rsm L S := ⟨h.A.grown g, h.I, h.lo, h.fail, h.lim, h.hd, h.sit⟩
/-- The disk as it is formatted. -/
def fy (fr mn : Nat) : Dk := hdD (dk0 40) fr mn 1
theorem fy_now (fr mn i : Nat) : (fy fr mn).now.getD i bk0 = if fr = i ∧ fr < 40 then ⟨padB (lhB mn 1), false⟩ else bk0 := by
  show ((List.replicate 40 bk0).set fr _).getD i bk0 = _
  rw [getD_set_bk, List.length_replicate, List.getD_eq_getElem?_getD, List.getElem?_replicate]
  split
  · rfl
  · split <;> rfl
theorem fy_none (fr mn : Nat) : ∀ a, imgF fr mn (fy fr mn) a = none := by
  intro a
  unfold imgF
  split
  · rename_i h1
    rw [fy_now, if_neg (by omega), pcOf_zero]
  · rfl
/-- All that the walk keeps at a round's head. -/
def Yl (w W : World) (p nb sb lb fr mn : Nat) (av : Value) (m us i : Nat) : Prop := ∃ cv D tv wv s wh rs rsm, Yg w W p nb sb cv D lb fr mn tv wv s wh rs rsm (10 + 600 * i) (1 + i) ∧ Rcs W w.heap.size tv av rs ∧ rs.length = m ∧ (enc rs).length = us
/-- How it begins. -/
theorem fy_start {w W w' : World} {p nb sb : Nat} {cv : Value} {lb fr mn : Nat} {tv wv : Value} {rs : List (List UInt8)} (o : Opened w W w' p nb sb cv 40 (fy fr mn) lb fr mn 1 tv wv rs) (hs : w.heap.size ≤ W.heap.size) (h1 : 1 ≤ mn) (hn : fr + mn ≤ 40) : Yl w w' p nb sb lb fr mn (.slice none 0 0) 0 0 0 := by
  obtain ⟨g1, g2, g3⟩ := ri_none mn 1 _ (fy_none fr mn)
  have hr : rs = [] := by rw [o.rc, g2]; rfl
  have hw : newestF 1 (allF mn (imgF fr mn (fy fr mn))) = 0 := by rw [g3]; rfl
  subst hr
  refine ⟨cv, _, tv, wv, _, _, [], [], ⟨o.lgAt hs, ⟨_, _, _, LgI.start (rs0 := []) g1 (fun a _ _ => fm_flush _ _) ⟨?_, DN.flush _, ChT.flush _⟩ (by omega) (fun r hr => by simp at hr) (by simp [enc]) hn (by omega) (by omega) (fun a q e => by rw [fy_none] at e; cases e) (by omega)⟩, rfl, by show (-1 : Int) < 0; decide, ⟨by show (3 : Nat) ≤ 10; omega, by show (0 : Nat) ≤ 10; omega⟩, by rw [fy_now, if_pos ⟨rfl, by omega⟩], by show newestF 1 _ + 1 ≤ 1; omega⟩, ⟨[], rfl, ⟨rfl, .inl ⟨rfl, rfl⟩⟩, fun k hk => absurd hk (by simp), fun k g hk => absurd hk (by simp)⟩, rfl, rfl⟩
  show ((List.replicate 40 bk0).set fr _).length = 40
  rw [List.length_set, List.length_replicate]
section
variable {w W U : World} {p nb sb lb fr mn : Nat} {av : Value} {m us i : Nat}
theorem Yl.bel (h : Yl w W p nb sb lb fr mn av m us i) : Below w.heap.size w W := by
  obtain ⟨cv, D, tv, wv, s, wh, rs, rsm, k, _⟩ := h
  exact k.A.tn.2
theorem Yl.below (h : Yl w W p nb sb lb fr mn av m us i) (hb : Below W.heap.size W U) : Yl w U p nb sb lb fr mn av m us i := by
  obtain ⟨cv, D, tv, wv, s, wh, rs, rsm, k, r, e⟩ := h
  exact ⟨cv, D, tv, wv, s, wh, rs, rsm, k.below hb, r.below hb, e⟩
theorem Yl.next (h : Yl w W p nb sb lb fr mn av m us i) : Yl w W p nb sb lb fr mn av m us (i + 1) := by
  obtain ⟨cv, D, tv, wv, s, wh, rs, rsm, k, r, e⟩ := h
  exact ⟨cv, D, tv, wv, s, wh, rs, rsm, k.mono (by omega) (by omega), r, e⟩
theorem Yl.room (h : Yl w W p nb sb lb fr mn av m us i) : us ≤ (mn - 2) * 60 := by
  obtain ⟨cv, D, tv, wv, s, wh, rs, rsm, k, r, e1, e2⟩ := h
  rw [← e2]
  exact k.nums.2.2.1
/-- Sync. -/
theorem Yl.sync (h : Yl w W p nb sb lb fr mn av m us i) (hi : i ≤ 60) :
    Calls Tryd.prog 9 #[.pointer (some ⟨lb, 0, none⟩)] W fun e w' => e = .returned .nilIface ∧ Hid (Yl w w' p nb sb lb fr mn av m us (i + 1)) := by
  obtain ⟨cv, D, tv, wv, s, wh, rs, rsm, k, r, e1, e2⟩ := h
  refine (k.sync (by omega)).mono ?_
  rintro e w' ⟨rfl, cv', D', s', k', _, kk⟩
  exact ⟨rfl, cv', D', _, _, _, _, _, _, k'.mono (by omega) (by omega), Rcs.keep k.A r kk, e1, e2⟩
/-- Sync, and what an Open needs behind it. -/
def Yo (w W : World) (p nb sb fr mn : Nat) (av : Value) (m us i : Nat) : Prop := ∃ lb cv D tv wv s wh rs, Yg w W p nb sb cv D lb fr mn tv wv s wh rs rs (309 + 600 * i) (1 + i) ∧ D.chg = [] ∧ RsRow W w.heap.size av rs ∧ rs.length = m ∧ (enc rs).length = us
theorem Yl.syncO (h : Yl w W p nb sb lb fr mn av m us i) (hi : i ≤ 60) :
    Calls Tryd.prog 9 #[.pointer (some ⟨lb, 0, none⟩)] W fun e w' => e = .returned .nilIface ∧ Hid (Yo w w' p nb sb fr mn av m us i) := by
  obtain ⟨cv, D, tv, wv, s, wh, rs, rsm, k, r, e1, e2⟩ := h
  refine (k.sync (by omega)).mono ?_
  rintro e w' ⟨rfl, cv', D', s', k', hc, kk⟩
  exact ⟨rfl, lb, cv', D', _, _, _, _, _, k'.mono (by omega) (by omega), hc, (Rcs.keep k.A r kk).rows, e1, e2⟩
theorem Yo.again (h : Yo w W p nb sb fr mn av m us i) (hi : i ≤ 60) (h1 : 1 ≤ mn) :
    Calls Tryd.prog 7 #[.pointer (some ⟨p, 0, none⟩), .int .i64 (fr : Int), .int .i64 (mn : Int)] W fun e w' => ∃ lc, e = .returned (.tuple #[.pointer (some ⟨lc, 0, none⟩), .nilIface]) ∧ Hid (Yl w w' p nb sb lc fr mn av m us (i + 1)) := by
  obtain ⟨lb, cv, D, tv, wv, s, wh, rs, k, hc, r, e1, e2⟩ := h
  refine (k.again (by omega) h1 hc).mono ?_
  rintro e w' ⟨lc, rfl, tv', wv', s', wh', k', hb, ht⟩
  exact ⟨lc, rfl, cv, D, _, _, _, _, _, _, k'.mono (by omega) (by omega), r.apart hb ht, e1, e2⟩
/-- What the law asks of an Append. -/
def eL (nn z : Nat) : Int := if nn = 0 then 3 else if 200 < nn ∨ z < nn + 2 then 4 else 0
theorem eL_ap {s : Ls} {tx : List UInt8} (h : s.lo = false) (k : Nat) : apBad mn s tx k = eL k ((mn - 2) * 60 - tx.length) := by
  unfold apBad eL
  rw [if_neg (by rw [h]; decide)]
/-- An Append that tells an error. -/
theorem Yl.append_no (h : Yl w W p nb sb lb fr mn av m us i) (ba : Option Addr) (k bc : Nat) (hk : k ≤ 1000000) (hb : eL k ((mn - 2) * 60 - us) ≠ 0) :
    Calls Tryd.prog 8 #[.pointer (some ⟨lb, 0, none⟩), .slice ba k bc] W fun e w' => e = .returned (.tuple #[.int .i64 0, .iface 43 (.int .i64 (eL k ((mn - 2) * 60 - us)))]) ∧ Hid (Yl w w' p nb sb lb fr mn av m us (i + 1)) := by
  obtain ⟨cv, D, tv, wv, s, wh, rs, rsm, kk, r, e1, e2⟩ := h
  have e : apBad mn s (enc rs) k = eL k ((mn - 2) * 60 - us) := by rw [eL_ap kk.lo, e2]
  refine (kk.append_no ba k bc hk (by rw [e]; exact hb)).mono ?_
  rintro e' w' ⟨rfl, hbl⟩
  rw [e, enE_ne hb]
  exact ⟨rfl, (show Yl w w' p nb sb lb fr mn av m us i from ⟨cv, D, tv, wv, s, wh, rs, rsm, kk.below hbl.out, r.below hbl.out, e1, e2⟩).next⟩
theorem Yl.len (h : Yl w W p nb sb lb fr mn av m us i) : Calls Tryd.prog 11 #[.pointer (some ⟨lb, 0, none⟩)] W fun e w' => e = .returned (.int .i64 (m : Int)) ∧ Still W w' := by
  obtain ⟨cv, D, tv, wv, s, wh, rs, rsm, kk, r, e1, e2⟩ := h
  have := lenL_any kk.A
  rw [kk.nums.1, e1] at this
  exact this
theorem Yl.room_ (h : Yl w W p nb sb lb fr mn av m us i) : Calls Tryd.prog 12 #[.pointer (some ⟨lb, 0, none⟩)] W fun e w' => e = .returned (.int .i64 (((mn - 2) * 60 - us : Nat) : Int)) ∧ Below W.heap.size W w' := by
  obtain ⟨cv, D, tv, wv, s, wh, rs, rsm, kk, r, e1, e2⟩ := h
  have := room_any kk.A kk.nums.2.2.2.1 kk.nums.2.2.1
  rw [e2] at this
  exact this
end
end Go.Proofs.YthmbpghpommcjaaDoor

namespace Go.Proofs.YthmbpghpommcjaaDoor
set_option linter.unusedVariables false
set_option linter.unusedSimpArgs false
set_option maxRecDepth 100000
open Go.RowKit Go.Lib
set_option maxHeartbeats 16000000 in
theorem lplays_good (fr mn : Nat) (h1 : 1 ≤ mn) (hn : fr + mn ≤ 40) (a : Option Addr) (rs : List Rw) (cap : Nat) (w : World) (hg : ErrT w) (hrs : IsRs w a rs cap) (hrl : rs.length ≤ 9223372036854775807) :
    Calls Tryd.prog 3 #[.int .i64 (fr : Int), .int .i64 (mn : Int), .slice a rs.length cap] w fun e w' => e = .returned (.bool true) ∧ Below w.heap.size w w' := by
  have HNew : Hid (Calls _ _ _ w _) := tn_new 40 w (by omega) (by omega)
  have HF1 : Hid (∀ W p nb sb cv, Tn w W p nb sb cv 40 (dk0 40) → Calls Tryd.prog 6 #[.pointer (some ⟨p, 0, none⟩), .int .i64 (fr : Int), .int .i64 (mn : Int)] W fun e w' => e = .returned .nilIface ∧ ∃ cv', Hid (Tn w w' p nb sb cv' 40 (fy fr mn))) := fun W p nb sb cv hW => by
    refine (formatL_fresh hW fr mn (by decide) h1 hn (by omega) ⟨by decide, by decide⟩ (fun i _ => ?_)).mono ?_
    · show (List.replicate 40 bk0).getD _ bk0 = bk0
      rw [List.getD_eq_getElem?_getD, List.getElem?_replicate]
      split <;> rfl
    · rintro e w' ⟨rfl, cv', h1, _⟩
      exact ⟨rfl, cv', h1⟩
  have HO1 : Hid (∀ W p nb sb cv, Tn w W p nb sb cv 40 (fy fr mn) → Calls Tryd.prog 7 #[.pointer (some ⟨p, 0, none⟩), .int .i64 (fr : Int), .int .i64 (mn : Int)] W fun e w' => ∃ lb, e = .returned (.tuple #[.pointer (some ⟨lb, 0, none⟩), .nilIface]) ∧ Hid (Yl w w' p nb sb lb fr mn (.slice none 0 0) 0 0 0)) := fun W p nb sb cv hW => by
    refine (openL_ok hW fr mn 1 h1 hn (by omega) (by rw [fy_now, if_pos ⟨rfl, by omega⟩]) (by omega) (by omega)).mono ?_
    rintro e w' ⟨lb, rfl, tv, wv, rs, o⟩
    exact ⟨lb, rfl, fy_start o.out hW.2.size h1 hn⟩
  have HEr : Hid (∀ E c W, ErrIs E c → Below w.heap.size w W → Calls Tryd.prog 5 #[E, .int .i64 c] W fun e w' => e = .returned (.bool true) ∧ Below W.heap.size W w') := fun E c W h hW => err_true h W (hg.below hW (Nat.le_refl _))
  have HRS : Hid (IsRs w a rs cap) := hrs
  have hrl' : (rs.length : Int) ≤ 9223372036854775807 := by omega
  have i1 : (1 : Int) ≤ mn := by omega
  have i2 : (mn : Int) ≤ 40 := by omega
  have i3 : (0 : Int) ≤ fr := by omega
  have i4 : (fr : Int) ≤ 40 - (mn : Int) := by omega
  clear hrs hg
  go_enter Tryd.func3, Tryd.ntmps3
  go_wp2_with fail
  refine HNew.out.mono ?_
  rintro e w1 ⟨p, nb, sb, rfl, ht1⟩
  have HC1 : Hid (Calls _ _ _ w1 _) := HF1.out w1 p nb sb _ ht1.out
  clear HNew HF1 ht1
  go_wp2_with fail
  refine HC1.out.mono ?_
  rintro e w2 ⟨rfl, cv2, ht2⟩
  have HE1 : Hid (Calls _ _ _ w2 _) := HEr.out .nilIface 0 w2 (.inl ⟨rfl, rfl⟩) ht2.out.2
  clear HC1
  go_wp2_with fail
  refine HE1.out.mono ?_
  rintro e w3 ⟨rfl, hb3⟩
  have HC2 : Hid (Calls _ _ _ w3 _) := HO1.out w3 p nb sb _ (ht2.out.below hb3)
  clear HE1 hb3 ht2 HO1
  go_wp2_with fail
  refine HC2.out.mono ?_
  rintro e w4 ⟨lb, rfl, h4⟩
  have HE2 : Hid (Calls _ _ _ w4 _) := HEr.out .nilIface 0 w4 (.inl ⟨rfl, rfl⟩) h4.out.bel
  clear HC2
  go_wp2_with fail
  refine HE2.out.mono ?_
  rintro e w5 ⟨rfl, hb5⟩
  have H5 : Hid (Yl w w5 p nb sb lb fr mn (.slice none 0 0) 0 0 0) := h4.out.below hb5
  clear HE2 hb5 h4
  go_upto_region 12 with fail
  go_cut [13] from 29 to 80 (fun t wx => t = .slice none 0 0 ∧ wx = w5)
  case first =>
    go_wp2
    go_meet
    case rel => exact ⟨rfl, rfl⟩
  case rest =>
  obtain ⟨rfl, rfl⟩ := hcut
  go_wp2_with fail
  go_loopw [11, 13, 14, 15] (fun lv av uv iv wr => ∃ (lb m us i ac : Nat) (aa : Option Addr), i ≤ 60 ∧ m ≤ i ∧ us ≤ 2400 ∧ lv = .pointer (some ⟨lb, 0, none⟩) ∧ av = .slice aa m ac ∧ uv = .int .i64 (us : Int) ∧ iv = .int .i64 (i : Int) ∧ Hid (Yl w wr p nb sb lb fr mn (.slice aa m ac) m us i)) (fun _ _ _ i _ => 60 - (RowKit.intOf i).toNat)
  case atStart => exact ⟨lb, 0, 0, 0, 0, none, by omega, by omega, by omega, rfl, rfl, rfl, rfl, H5⟩
  case round =>
    clear H5
    obtain ⟨lb, m, us, i, ac, aa, hi, hm, hus, rfl, rfl, rfl, rfl, H⟩ := hrel
    by_cases hlt : i < rs.length ∧ i < 60
    · obtain ⟨hlt1, hlt2⟩ := hlt
      have m0 : (0 : Int) ≤ i := by omega
      have m1 : (i : Int) < rs.length := by omega
      have m2 : (i : Int) < 60 := by omega
      have hal := alloc_v
      have hbw : Below w.heap.size w wr := H.out.bel
      have hrs := HRS.out.below hbw
      have hmem : rs.getD i rw0 ∈ rs := by
        rw [List.getD_eq_getElem?_getD, List.getElem?_eq_getElem hlt1]; exact List.getElem_mem hlt1
      obtain ⟨hrow, hrowl⟩ := hrs.rows _ hmem
      obtain ⟨b0, off0, rfl, hb0w, hcRw⟩ : ∃ b off, a = some ⟨b, off, none⟩ ∧ b < w.heap.size ∧ w.cell? ⟨b, off + i, none⟩ = some (.slice (rs.getD i rw0).ad (rs.getD i rw0).l.length (rs.getD i rw0).cap) := by
        rcases HRS.out.lies with e | ⟨b, off, e, h1, h2⟩
        · subst e; simp at hlt1
        · exact ⟨b, off, e, h1, h2 i hlt1⟩
      have hcR0 := (hbw.cell (p := ⟨b0, off0 + i, none⟩) hb0w).trans hcRw
      generalize rs.getD i rw0 = r at *
      obtain ⟨ra, rl, rc⟩ := r
      simp only at hrow hrowl hcR0 hcRw
      clear hcRw
      have hb0 : b0 < wr.heap.size := Nat.lt_of_lt_of_le hb0w hbw.size
      have hcR : ∀ X, (wr.alloc (.cells X 34)).cell? ⟨b0, off0 + i, none⟩ = some (.slice ra rl.length rc) := fun X => (World.cell?_alloc_lt _ _ _ hb0).trans hcR0
      have HE : Hid (∀ X j, j < rl.length → ∃ b1 off1, ra = some ⟨b1, off1, none⟩ ∧ (wr.alloc (.cells X 34)).cell? ⟨b1, off1 + j, none⟩ = some (.int .i64 (rl.getD j 0))) := by
        intro X j hj
        rcases hrow.lies with e | ⟨b, off, e, h1, h2⟩
        · subst e; simp at hj
        · exact ⟨b, off, e, (World.cell?_alloc_lt _ _ _ h1).trans (h2 j hj)⟩
      have hrowl' : (rl.length : Int) ≤ 9223372036854775807 := by omega
      clear hrs hmem hrow hbw
      go_upto_block 2 with (refine wpList_alloc_run rfl 34 rfl (hal _) ?_)
      go_cut [17] from 81 to 248 (fun t wx => wx = wr.alloc (.cells (va rl) 34))
      case first =>
        as_aux_lemma =>
          clear hal
          go_wp2_with fail
          go_loopw [17] (fun t wq => ∃ j : Nat, j ≤ 2 ∧ j ≤ rl.length ∧ t = .int .i64 j ∧ wq = wr.alloc (.cells (va (rl.take j)) 34)) (fun t _ => 2 - (RowKit.intOf t).toNat)
          case atStart => exact ⟨0, by omega, by omega, rfl, by simp⟩
          case round =>
            rename World => wq
            obtain ⟨j, hj4, hjl, rfl, rfl⟩ := hrel
            by_cases hj : j < rl.length ∧ j < 2
            · obtain ⟨b1, off1, rfl, hce⟩ := HE.out (va (rl.take j)) j hj.1
              have hset := va_set rl j hj.1 hj.2
              have hget := va_get (rl.take j) j hj.2
              have j0 : (0 : Int) ≤ j := by omega
              have j1 : (j : Int) < rl.length := by omega
              have j2 : (j : Int) < 2 := by omega
              generalize rl.getD j 0 = x at *
              generalize (rl.take j).getD j 0 = z at *
              go_wp2_with fail
              go_roundw
              case rel => exact ⟨j + 1, by omega, by omega, by go_num, by first | rfl | trivial⟩
              case measure => simp [RowKit.intOf]; omega
            · have hv := va_take rl j (by omega)
              rw [hv]
              by_cases hjj : j < rl.length
              · have j2 : ¬ (j : Int) < 2 := by omega
                have j1 : (j : Int) < rl.length := by omega
                go_wp2_with fail
                go_meet
                first | rfl | trivial
              · have j1 : ¬ (j : Int) < rl.length := by omega
                go_wp2_with fail
                go_meet
                first | rfl | trivial
      case rest =>
        clear hal HE
        subst hcut
        have hbx := new_heap wr (.cells (va rl) 34)
        have HK1 : Hid (Yl w (wr.alloc (.cells (va rl) 34)) p nb sb lb fr mn (.slice aa m ac) m us i) := H.out.below ((Below.refl _ wr).alloc (Nat.le_refl _) _)
        clear hcR hb0
        generalize wr.alloc (.cells (va rl) 34) = W1 at *
        generalize wr.heap.size = B at *
        clear H
        obtain ⟨d0, d1⟩ : W1.cell? ⟨B, 0, none⟩ = some (.int .i64 (rl.getD 0 0)) ∧ W1.cell? ⟨B, 1, none⟩ = some (.int .i64 (rl.getD 1 0)) := by
          simp [World.cell?, hbx, va]
        generalize hv0 : rl.getD 0 0 = v0 at *
        generalize hv1 : rl.getD 1 0 = v1 at *
        clear hv0 hv1 hbx hcR0 hrowl hrowl' hb0w
        have hrm := HK1.out.room
        obtain ⟨z, hz⟩ : ∃ z, (mn - 2) * 60 - us = z := ⟨_, rfl⟩
        have HZ : Hid ((mn - 2) * 60 - us = z ∧ us ≤ (mn - 2) * 60) := ⟨hz, hrm⟩
        have z0 : (0 : Int) ≤ z := by omega
        have z1 : (z : Int) ≤ 2280 := by omega
        have u0 : (0 : Int) ≤ us := by omega
        have u1 : (us : Int) ≤ 2280 := by omega
        clear hz hrm
        go_upto_if 119 with fail
        go_cut [18] from 81 to 248 (fun t wx => t = .int .i64 (z : Int) ∧ wx = W1)
        case first =>
          as_aux_lemma =>
            obtain ⟨hz, hrm⟩ := HZ.out
            by_cases h2 : mn = 1
            · have q : 60 * (mn : Int) - 120 - us < 0 := by omega
              obtain rfl : z = 0 := by omega
              go_wp2
              go_meet
              case rel => exact ⟨rfl, rfl⟩
            · have q : ¬ (60 * (mn : Int) - 120 - us < 0) := by omega
              have ez : 60 * (mn : Int) - 120 - us = z := by omega
              go_wp2
              go_meet
              case rel => exact ⟨by first | rfl | rw [ez], rfl⟩
        case rest =>
          obtain ⟨rfl, rfl⟩ := hcut
          go_upto_block 4 with fail
          go_cut [11, 13, 14] from 81 to 248 (fun l av uv wx => ∃ (lb m us ac : Nat) (aa : Option Addr), m ≤ i + 1 ∧ us ≤ 2400 ∧ l = .pointer (some ⟨lb, 0, none⟩) ∧ av = .slice aa m ac ∧ uv = .int .i64 (us : Int) ∧ Hid (Yl w wx p nb sb lb fr mn (.slice aa m ac) m us (i + 1)))
          case first =>
            as_aux_lemma =>
              by_cases h012 : v0 = 0 ∨ v0 = 1 ∨ v0 = 2
              · obtain ⟨nn, hnn⟩ : ∃ nn : Nat, (nn : Int) = if v1 < 0 ∨ 201 < v1 then 201 else v1 := by
                  by_cases h : v1 < 0 ∨ 201 < v1
                  · exact ⟨201, by rw [if_pos h]; rfl⟩
                  · exact ⟨v1.toNat, by rw [if_neg h]; omega⟩
                have hn2 : nn ≤ 201 := by split at hnn <;> omega
                have HNN : Hid ((nn : Int) = if v1 < 0 ∨ 201 < v1 then 201 else v1) := hnn
                have n0 : (0 : Int) ≤ nn := by omega
                have n1 : (nn : Int) ≤ 201 := by omega
                obtain ⟨V, hmk, hV, hbV⟩ := make_zero nn hn2 (UInt8.ofNat i) wc
                have hXn : ((UInt8.ofNat i).toNat : Int) = (i : Int) := by rw [UInt8.toNat_ofNat']; omega
                generalize UInt8.ofNat i = X at *
                obtain ⟨g, hgg⟩ : ∃ g, wc.heap.size = g := ⟨_, rfl⟩
                have HG : Hid (wc.heap.size = g) := hgg
                rw [hgg] at hmk hV hbV
                have HV0 : Hid (V.heap[g]? = some (.cells (byC (fil X nn 0)).toArray 5 (0, 0)) ∧ Below g wc V) := ⟨hV, hbV⟩
                have HXn : Hid ((X.toNat : Int) = (i : Int)) := hXn
                clear hnn hgg hV hbV hXn
                rcases h012 with rfl | rfl | rfl <;> (
                  as_aux_lemma =>
                    go_upto_region 30 with fail
                    go_cut [133] from 81 to 248 (fun t wx => t = .bool (decide (v1 < 0 ∨ 201 < v1)) ∧ wx = wc)
                    case first =>
                      as_aux_lemma =>
                        by_cases g1 : v1 < 0
                        · have E : Hid (decide (v1 < 0 ∨ 201 < v1) = true) := decide_eq_true (.inl g1)
                          go_wp2
                          go_meet
                          case rel => exact ⟨by rw [E.out], rfl⟩
                        · by_cases g2 : 201 < v1
                          · have E : Hid (decide (v1 < 0 ∨ 201 < v1) = true) := decide_eq_true (.inr g2)
                            go_wp2
                            go_meet
                            case rel => exact ⟨by rw [E.out], rfl⟩
                          · have E : Hid (decide (v1 < 0 ∨ 201 < v1) = false) := decide_eq_false (by omega)
                            go_wp2
                            go_meet
                            case rel => exact ⟨by rw [E.out], rfl⟩
                    case rest =>
                      obtain ⟨rfl, rfl⟩ := hcut
                      go_upto_if 133 with fail
                      go_cut [19] from 81 to 248 (fun t wx => t = .int .i64 (nn : Int) ∧ wx = wc)
                      case first =>
                        as_aux_lemma =>
                          have hnn := HNN.out
                          by_cases hc : v1 < 0 ∨ 201 < v1
                          · have e : decide (v1 < 0 ∨ 201 < v1) = true := decide_eq_true hc
                            rw [e]
                            rw [if_pos hc] at hnn
                            obtain rfl : nn = 201 := by omega
                            clear e hc hnn
                            go_wp2
                            go_meet
                            case rel => exact ⟨rfl, rfl⟩
                          · have e : decide (v1 < 0 ∨ 201 < v1) = false := decide_eq_false hc
                            rw [e]
                            rw [if_neg hc] at hnn
                            subst hnn
                            clear e hc
                            go_wp2
                            go_meet
                            case rel => exact ⟨rfl, rfl⟩
                      case rest =>
                        obtain ⟨rfl, rfl⟩ := hcut
                        clear d0 d1 HNN
                        go_wp2_with fail
                        go_loopw [21] (fun jv wq => ∃ j : Nat, j ≤ nn ∧ jv = .int .i64 (j : Int) ∧ Hid (wq.heap[g]? = some (.cells (byC (fil X nn j)).toArray 5 (0, 0)) ∧ Below g wc wq)) (fun jv _ => 300 - (RowKit.intOf jv).toNat)
                        case atStart => exact ⟨0, Nat.zero_le _, rfl, HV0⟩
                        case round =>
                          rename World => wq
                          obtain ⟨j, hjn, rfl, HW⟩ := hrel
                          have j0 : (0 : Int) ≤ j := by omega
                          by_cases hj : j < nn
                          · have j2 : (j : Int) < nn := by omega
                            obtain ⟨c0, f0, hset⟩ := fil_set HW.out.1 hj
                            rw [HXn.out] at hset
                            have HN : Hid ((wq.setCell ⟨g, j, none⟩ (.int .u8 (i : Int))).heap[g]? = some (.cells (byC (fil X nn (j + 1))).toArray 5 (0, 0)) ∧ Below g wc (wq.setCell ⟨g, j, none⟩ (.int .u8 (i : Int)))) := ⟨hset, HW.out.2.setCell (p := ⟨g, j, none⟩) (Nat.le_refl _) _⟩
                            clear hset HW HV0 hmk
                            go_wp2_with fail
                            go_roundw
                            case rel => exact ⟨j + 1, by omega, by go_num, HN⟩
                            case measure => simp [RowKit.intOf]; omega
                          · have j1 : ¬ (j : Int) < nn := by omega
                            obtain rfl : j = nn := by omega
                            have hbq : Below wc.heap.size wc wq := by rw [HG.out]; exact HW.out.2
                            have HKq : Hid ((∃ cv D tv wv s wh rs rsm, Yg w wq p nb sb cv D lb fr mn tv wv s wh rs rsm (10 + 600 * i) (1 + i) ∧ Rcs wq w.heap.size tv (.slice aa m ac) rs ∧ rs.length = m ∧ (enc rs).length = us ∧ tv.ownBlock ≠ some g) ∧ wq.heap[g]? = some (.cells (byC (fil X j j)).toArray 5 (0, 0)) ∧ w.heap.size ≤ g) := by
                              obtain ⟨cv, D, tv, wv, s, wh, rs1, rsm, K, R, e1, e2⟩ := HK1.out
                              refine ⟨⟨cv, D, tv, wv, s, wh, rs1, rsm, K.below hbq, R.below hbq, e1, e2, fun e => ?_⟩, HW.out.1, by rw [← HG.out]; exact HK1.out.bel.size⟩
                              have := (ownsRow_in K.A.tx e).2.1
                              have := HG.out
                              omega
                            clear HV0 hmk
                            go_upto_if 147 with fail
                            go_cut [9] from 81 to 248 (fun t wx => t = .int .i64 (eL j z) ∧ wx = wq)
                            case first =>
                              as_aux_lemma =>
                                clear HKq HW HK1 HZ hbq
                                by_cases h0 : j = 0
                                · subst h0
                                  have E : Hid (eL 0 z = 3) := rfl
                                  go_wp2
                                  go_meet
                                  case rel => exact ⟨by rw [E.out], rfl⟩
                                · have h0' : ((j : Int) == 0) = false := by rw [beq_eq_false_iff_ne]; omega
                                  by_cases h2 : 200 < j
                                  · have E : Hid (eL j z = 4) := by unfold Hid eL; rw [if_neg h0, if_pos (.inl h2)]
                                    have q2 : (200 : Int) < j := by omega
                                    go_wp2
                                    go_meet
                                    case rel => exact ⟨by rw [E.out], rfl⟩
                                  · have q2 : ¬ (200 : Int) < j := by omega
                                    by_cases h3 : z < j + 2
                                    · have E : Hid (eL j z = 4) := by unfold Hid eL; rw [if_neg h0, if_pos (.inr h3)]
                                      have q3 : (z : Int) < (j : Int) + 2 := by omega
                                      go_wp2
                                      go_meet
                                      case rel => exact ⟨by rw [E.out], rfl⟩
                                    · have E : Hid (eL j z = 0) := by unfold Hid eL; rw [if_neg h0, if_neg (by omega)]
                                      have q3 : ¬ (z : Int) < (j : Int) + 2 := by omega
                                      go_wp2
                                      go_meet
                                      case rel => exact ⟨by rw [E.out], rfl⟩
                            case rest =>
                              obtain ⟨rfl, rfl⟩ := hcut
                              by_cases he : eL j z = 0
                              · as_aux_lemma =>
                                  have hk3 : 1 ≤ j ∧ j ≤ 200 ∧ j + 2 ≤ z := by
                                    unfold eL at he
                                    split at he
                                    · omega
                                    · split at he
                                      · omega
                                      · omega
                                  rw [he]
                                  obtain ⟨cv, D, tv, wv, s, wh, rs1, rsm, K, R, e1, e2, hta⟩ := HKq.out.1
                                  obtain ⟨bl, hbl⟩ : ∃ bl, fil X j j = bl := ⟨_, rfl⟩
                                  have hbn : bl.length = j := by rw [← hbl]; exact fil_length _ _ _ (Nat.le_refl _)
                                  have hgq := HKq.out.2.1
                                  rw [hbl] at hgq
                                  have hok : okR bl := ⟨by omega, by omega⟩
                                  have hap := K.append (by omega) bl hok (by rw [hbn, e2, HZ.out.1]; omega) g hgq hta
                                  have hby := byRow_at (n := w.heap.size) hgq HKq.out.2.2 (by omega)
                                  rw [hbn, e1] at hap
                                  rw [hbn] at hby
                                  have HAp : Hid (Calls _ _ _ wc _) := hap
                                  have HQ : Hid (Yg w wc p nb sb cv D lb fr mn tv wv s wh rs1 rsm (10 + 600 * i) (1 + i) ∧ Rcs wc w.heap.size tv (.slice aa m ac) rs1 ∧ ByRow wc w.heap.size (.slice (some ⟨g, 0, none⟩) j j) bl ∧ tv.ownBlock ≠ some g ∧ rs1.length = m ∧ (enc rs1).length = us ∧ bl.length = j) := ⟨K, R, hby, hta, e1, e2, hbn⟩
                                  have HZ3 : Hid (us + j + 2 ≤ 2280) := by
                                    have := HZ.out
                                    unfold Hid
                                    omega
                                  clear hap hby hgq hta K R HK1 HKq HW hbl hok he hbq hbn HZ
                                  have k1 : (1 : Int) ≤ j := by omega
                                  have k2 : (j : Int) ≤ 200 := by omega
                                  have u2 : (us : Int) + j + 2 ≤ 2280 := by have := HZ3.out; omega
                                  go_wp2_with fail
                                  refine HAp.out.mono ?_
                                  rintro e w7 ⟨rfl, h7⟩
                                  obtain ⟨cv7, D7, tv7, wv7, s7, wh7, K7, k7⟩ := h7.out
                                  have R7 := Rcs.keep HQ.out.1.A HQ.out.2.1 k7
                                  obtain ⟨y7, z7⟩ := byRow_keep HQ.out.1.A HQ.out.2.2.1 (fun g' e => by cases e; exact HQ.out.2.2.2.1) k7
                                  have HE7 : Hid (Calls _ _ _ w7 _) := HEr.out .nilIface 0 w7 (.inl ⟨rfl, rfl⟩) K7.A.tn.2
                                  have H7 : Hid (Yg w w7 p nb sb cv7 D7 lb fr mn tv7 wv7 s7 wh7 (rs1 ++ [bl]) rsm (10 + 600 * i + 299) (1 + i) ∧ Rcs w7 w.heap.size tv7 (.slice aa m ac) rs1 ∧ ByRow w7 w.heap.size (.slice (some ⟨g, 0, none⟩) j j) bl ∧ ∀ g', (Value.slice (some ⟨g, 0, none⟩) j j).ownBlock = some g' → tv7.ownBlock ≠ some g') := ⟨K7, R7, y7, z7⟩
                                  have HL : Hid (rs1.length = m ∧ (enc rs1).length = us ∧ bl.length = j) := HQ.out.2.2.2.2
                                  clear HAp h7 HQ k7 K7 R7 y7 z7 e1 e2
                                  go_wp2_with fail
                                  refine HE7.out.mono ?_
                                  rintro e w6 ⟨rfl, hb6⟩
                                  obtain ⟨K7, R7, y7, z7⟩ := H7.out
                                  have K6 := K7.below hb6
                                  have R6 := R7.below hb6
                                  have y6 := y7.below hb6
                                  clear HE7 H7 K7 R7 y7
                                  obtain ⟨qi, hq, hz0, hz1, hz2⟩ := sl_info
                                  obtain ⟨vs, hvl, hvo, hvb, hva⟩ := R6
                                  obtain ⟨W8, hW8⟩ : ∃ W8, w6.alloc (.cells #[.slice (some ⟨g, 0, none⟩) j j] 36) = W8 := ⟨_, rfl⟩
                                  have b8 : Below w6.heap.size w6 W8 := by rw [← hW8]; exact (Below.refl _ _).alloc (Nat.le_refl _) _
                                  have hr8 : W8.heap[w6.heap.size]? = some (.cells #[.slice (some ⟨g, 0, none⟩) j j] 36 (0, 0)) := by rw [← hW8]; exact new_heap w6 _
                                  have K8 := K6.below b8
                                  have hvo8 : W8.ownsRow w.heap.size 36 1 (.slice aa m ac) rs1.length vs := ownsRow_keep hvo (fun b cs e _ => b8.block b (Array.getElem?_eq_some_iff.1 e).1)
                                  have hvb8 := fun k hk => (hvb k hk).below b8
                                  have y8 := y6.below b8
                                  have HN9 : Hid (∀ v9 w9, w9.ownsRow w.heap.size 36 1 v9 (rs1.length + 1) (vs ++ [.slice (some ⟨g, 0, none⟩) j j]) → W8.grownBy w9 (Value.slice aa m ac).ownBlock → ∃ a9 c9, v9 = .slice a9 (m + 1) c9 ∧ Yl w w9 p nb sb lb fr mn (.slice a9 (m + 1) c9) (m + 1) (us + j + 2) (i + 1)) := fun v9 w9 ho hg => by
                                    have hG := Grew.of hvo8 hg K8.A.tn.2.size
                                    have R9 := Rcs.more hvb8 hva hvl hvo8 y8 z7 hg ho
                                    have hl9 : (rs1 ++ [bl]).length = m + 1 := by rw [List.length_append, HL.out.1]; rfl
                                    obtain ⟨a9, c9, rfl⟩ := R9.rows.shape
                                    rw [hl9] at R9
                                    refine ⟨a9, c9, by rw [hl9], _, _, _, _, _, _, _, _, (K8.grown hG).mono (by omega) (by omega), R9, hl9, ?_⟩
                                    rw [enc_append, enc_one, List.length_append, enc1_length, HL.out.2.1, HL.out.2.2]
                                    omega
                                  have Hsrc : Hid (∀ j' u, [Value.slice (some ⟨g, 0, none⟩) j j][j']? = some u → W8.cell? ((⟨w6.heap.size, 0, none⟩ : Addr).add j') = some u) := World.news_of_block hr8
                                  have HVo : Hid (W8.ownsRow w.heap.size 36 1 (.slice aa m ac) rs1.length vs) := hvo8
                                  have HW8 : Hid (_ = W8) := hW8
                                  have Hsz : Hid (w.heap.size ≤ W8.heap.size) := K8.A.tn.2.size
                                  have Hm1 : Hid (rs1.length + 1 ≤ maxLen) := by have := HL.out; unfold Hid maxLen; omega
                                  have Hm2 : Hid ((rs1.length + 1) * 24 ≤ 140737488355328) := by have := HL.out; unfold Hid; omega
                                  have Hs1 : Hid (∀ u ∈ [Value.slice (some ⟨g, 0, none⟩) j j], u.oneCell' = true) := by intro u hu; simp at hu; subst hu; rfl
                                  clear K6 K8 y6 y8 z7 hvl hvo hvb hva hvo8 hvb8 b8 hr8 hW8 hb6
                                  go_wp2_with (at_builtin; rw [HW8.out]; refine wpList_append_own _ rfl _ _ 33 rfl w.heap.size 36 qi (.slice none 0 0) 1 24 Tryd.underlying33 hq hz0 hz1 hz2 rfl (by decide) _ _ _ rfl HVo.out ⟨w6.heap.size, 0, none⟩ 1 1 [.slice (some ⟨g, 0, none⟩) j j] rfl rfl Hsrc.out Hs1.out Hm1.out Hm2.out Hsz.out ?_)
                                  intro v9 w9 hown hgrow _
                                  obtain ⟨a9, c9, rfl, Y9⟩ := HN9.out v9 w9 hown hgrow
                                  have H9 : Hid (Yl w w9 p nb sb lb fr mn (.slice a9 (m + 1) c9) (m + 1) (us + j + 2) (i + 1)) := Y9
                                  clear hown hgrow HN9 Hsrc HVo HW8 Hsz Hm1 Hm2 Hs1 hq hz0 hz1 hz2 Y9
                                  go_wp2_with fail
                                  go_meet
                                  case rel => exact ⟨lb, m + 1, us + j + 2, c9, a9, by omega, by have := HZ3.out; omega, rfl, rfl, by go_num, H9⟩
                              · as_aux_lemma =>
                                  have HYq : Yl w wc p nb sb lb fr mn (.slice aa m ac) m us i := by
                                    obtain ⟨cv, D, tv, wv, s, wh, rs1, rsm, K, R, e1, e2, _⟩ := HKq.out.1
                                    exact ⟨cv, D, tv, wv, s, wh, rs1, rsm, K, R, e1, e2⟩
                                  have HAp : Hid (Calls _ _ _ wc _) := HYq.append_no (some ⟨g, 0, none⟩) j j (by omega) (by rw [HZ.out.1]; exact he)
                                  have HEc : Hid ((eL j z = 3 ∨ eL j z = 4)) := by
                                    unfold Hid
                                    unfold eL at he ⊢
                                    split
                                    · exact .inl rfl
                                    · split
                                      · exact .inr rfl
                                      · rename_i q1 q2
                                        exact absurd (by rw [if_neg q1, if_neg q2]) he
                                  rw [HZ.out.1] at HAp
                                  generalize eL j z = ec at *
                                  clear HKq HYq HW HK1 HZ hbq
                                  go_wp2_with fail
                                  refine HAp.out.mono ?_
                                  rintro e w7 ⟨rfl, h7⟩
                                  have HE7 : Hid (Calls _ _ _ w7 _) := HEr.out (.iface 43 (.int .i64 ec)) ec w7 (.inr ⟨rfl, by have := HEc.out; omega, by have := HEc.out; omega⟩) h7.out.bel
                                  have he' : (ec == 0) = false := by rw [beq_eq_false_iff_ne]; exact he
                                  clear HAp
                                  go_wp2_with fail
                                  refine HE7.out.mono ?_
                                  rintro e w8 ⟨rfl, hb8⟩
                                  have H8 : Hid (Yl w w8 p nb sb lb fr mn (.slice aa m ac) m us (i + 1)) := h7.out.below hb8
                                  clear HE7 h7 hb8
                                  go_wp2_with fail
                                  go_meet
                                  case rel => exact ⟨lb, m, us, ac, aa, by omega, by omega, rfl, rfl, rfl, H8⟩)
              · have e0 : (v0 == 0) = false := by rw [beq_eq_false_iff_ne]; omega
                have e1 : (v0 == 1) = false := by rw [beq_eq_false_iff_ne]; omega
                have e2 : (v0 == 2) = false := by rw [beq_eq_false_iff_ne]; omega
                clear h012
                by_cases h3 : v0 = 3
                · subst h3
                  have HSy : Hid (Calls _ _ _ wc _) := HK1.out.sync (by omega)
                  clear HK1
                  go_wp2_with fail
                  refine HSy.out.mono ?_
                  rintro e w7 ⟨rfl, h7⟩
                  clear HSy
                  go_wp2_with fail
                  go_meet
                  case rel => exact ⟨lb, m, us, ac, aa, by omega, by omega, rfl, rfl, rfl, h7⟩
                · have e3 : (v0 == 3) = false := by rw [beq_eq_false_iff_ne]; exact h3
                  by_cases h4 : v0 = 4
                  · subst h4
                    have HSy : Hid (Calls _ _ _ wc _) := HK1.out.syncO (by omega)
                    clear HK1
                    go_wp2_with fail
                    refine HSy.out.mono ?_
                    rintro e w7 ⟨rfl, h7⟩
                    have HO : Hid (Calls _ _ _ w7 _) := h7.out.again (by omega) h1
                    clear HSy h7
                    go_wp2_with fail
                    refine HO.out.mono ?_
                    rintro e w8 ⟨lc, rfl, h8⟩
                    clear HO
                    go_wp2_with fail
                    go_meet
                    case rel => exact ⟨lc, m, us, ac, aa, by omega, by omega, rfl, rfl, rfl, h8⟩
                  · have e4 : (v0 == 4) = false := by rw [beq_eq_false_iff_ne]; exact h4
                    have H8 : Hid (Yl w wc p nb sb lb fr mn (.slice aa m ac) m us (i + 1)) := HK1.out.next
                    clear HK1
                    go_wp2_with fail
                    go_meet
                    case rel => exact ⟨lb, m, us, ac, aa, by omega, by omega, rfl, rfl, rfl, H8⟩
          case rest =>
            clear HK1 HZ z0 z1 u0 u1 d0 d1
            obtain ⟨lb, m, us, ac, aa, hm', hus', rfl, rfl, rfl, H2⟩ := hcut
            as_aux_lemma =>
              obtain ⟨cv, D, tv, wv, s, wh, rs1, rsm, K, R, e1, e2⟩ := H2.out
              obtain ⟨q1, q2, q3, q4, q5⟩ := K.nums
              have HAl : Hid (Calls _ _ _ wc _) := all_any K.A q2 (by omega) (by rw [q1, e1]; omega)
              have HRc : Hid (Rcs wc w.heap.size tv (.slice aa m ac) rs1 ∧ rs1.length = m) := ⟨R, e1⟩
              have hrm := H2.out.room
              have HZ : Hid (us ≤ (mn - 2) * 60) := hrm
              have u0 : (0 : Int) ≤ us := by omega
              have u1 : (us : Int) ≤ 2280 := by omega
              have p0 : (0 : Int) ≤ m := by omega
              have p1 : (m : Int) ≤ 61 := by omega
              clear K R e2 q1 q2 q3 q4 q5 hrm
              go_wp2_with fail
              refine HAl.out.mono ?_
              rintro e w12 ⟨a12, c12, rfl, h12, hb12⟩
              have HY : Hid (Yl w w12 p nb sb lb fr mn (.slice aa m ac) m us (i + 1)) := H2.out.below hb12.out
              have HLn : Hid (Calls _ _ _ w12 _) := HY.out.len
              rw [e1] at h12 ⊢
              have H12 : Hid (Rcs w12 w.heap.size tv (.slice aa m ac) rs1 ∧ RsRow w12 wc.heap.size (.slice a12 m c12) rs1 ∧ rs1.length = m) := ⟨HRc.out.1.below hb12.out, h12.out, e1⟩
              clear HAl h12 hb12 HRc H2 e1
              go_wp2_with fail
              refine HLn.out.mono ?_
              rintro e w13 ⟨rfl, hst⟩
              have HB13 : Hid (Below w12.heap.size w12 w13) := hst.below _
              clear HLn hst
              go_wp2_with fail
              go_loopw [28] (fun jv wq => ∃ q : Nat, q ≤ m ∧ jv = .int .i64 (q : Int) ∧ Hid (Below w12.heap.size w12 wq)) (fun jv _ => 100 - (RowKit.intOf jv).toNat)
              case atStart => exact ⟨0, Nat.zero_le _, rfl, HB13⟩
              case round =>
                rename World => wq
                obtain ⟨q, hqG, rfl, HB⟩ := hrel
                have q0 : (0 : Int) ≤ q := by omega
                by_cases hq : q < m
                · have q2 : (q : Int) < m := by omega
                  obtain ⟨gx, cx, xa, xc, ex, hcx, hix⟩ := RsRow.cell (rs := rs1) (by have := H12.out.2.1.below HB.out; exact this) q (by rw [H12.out.2.2]; exact hq)
                  simp only [Value.slice.injEq] at ex
                  obtain ⟨rfl, -, rfl⟩ := ex
                  obtain ⟨gy, cy, ya, yc, ey, hcy, hiy⟩ := RsRow.cell (rs := rs1) (by have := H12.out.1.rows.below HB.out; exact this) q (by rw [H12.out.2.2]; exact hq)
                  simp only [Value.slice.injEq] at ey
                  obtain ⟨rfl, -, rfl⟩ := ey
                  generalize rs1.getD q [] = RR at *
                  have hS1 : ∀ k, (convert 36 9 (.slice xa RR.length xc)).run Tryd.prog (wq.drewN k) = .ok (.string (txt RR)) (wq.drewN k) := fun k => run_str (wq.drewN k) _ _ _ (hix.below ((Still.drewN wq k).below _))
                  have hS2 : ∀ k, (convert 36 9 (.slice ya RR.length yc)).run Tryd.prog (wq.drewN k) = .ok (.string (txt RR)) (wq.drewN k) := fun k => run_str (wq.drewN k) _ _ _ (hiy.below ((Still.drewN wq k).below _))
                  clear hix hiy H12 HY HZ HB13
                  generalize txt RR = tx at *
                  generalize RR.length = RL at *
                  go_wp2_with fail
                  go_quiet (fail)
                  rename Nat => nk
                  have HB2 : Hid (Below w12.heap.size w12 (wq.drewN nk)) := HB.out.trans ((Still.drewN wq nk).below _)
                  clear hS1 hS2 hcx hcy HB
                  go_wp2_with fail
                  go_roundw
                  case rel => exact ⟨q + 1, by omega, by go_num, HB2⟩
                  case measure => simp [RowKit.intOf]; omega
                · have q2 : ¬ (q : Int) < m := by omega
                  have Yq := HY.out.below HB.out
                  have hrm := HZ.out
                  obtain ⟨z, hz⟩ : ∃ z, (mn - 2) * 60 - us = z := ⟨_, rfl⟩
                  have HZ2 : Hid ((mn - 2) * 60 - us = z ∧ us ≤ (mn - 2) * 60) := ⟨hz, hrm⟩
                  have z0 : (0 : Int) ≤ z := by omega
                  have z1 : (z : Int) ≤ 2280 := by omega
                  have HR : Hid (Calls Tryd.prog 12 #[.pointer (some ⟨lb, 0, none⟩)] wq fun e w' => e = .returned (.int .i64 (z : Int)) ∧ Hid (Yl w w' p nb sb lb fr mn (.slice aa m ac) m us (i + 1))) := by
                    refine Calls.mono Yq.room_ ?_
                    rintro e w' ⟨rfl, hb⟩
                    exact ⟨by rw [hz], Yq.below hb⟩
                  clear Yq H12 HY HZ HB13 HB hz hrm
                  go_upto_if 244 with fail
                  go_cut [18] from 81 to 248 (fun t wx => t = .int .i64 (z : Int) ∧ wx = wq)
                  case first =>
                    as_aux_lemma =>
                      clear HR
                      obtain ⟨hz, hrm⟩ := HZ2.out
                      by_cases h2 : mn = 1
                      · have qq : 60 * (mn : Int) - 120 - us < 0 := by omega
                        obtain rfl : z = 0 := by omega
                        clear h2 hz hrm
                        go_wp2
                        go_meet
                        case rel => exact ⟨rfl, rfl⟩
                      · have qq : ¬ (60 * (mn : Int) - 120 - us < 0) := by omega
                        have ez : 60 * (mn : Int) - 120 - us = z := by omega
                        clear h2 hz hrm
                        go_wp2
                        go_meet
                        case rel => exact ⟨by first | rfl | rw [ez], rfl⟩
                  case rest =>
                    obtain ⟨rfl, rfl⟩ := hcut
                    clear HZ2
                    go_wp2_with fail
                    refine HR.out.mono ?_
                    rintro e w15 ⟨rfl, HE⟩
                    clear HR
                    go_wp2_with fail
                    go_roundw
                    case rel => exact ⟨lb, m, us, i + 1, ac, aa, by omega, by omega, by omega, rfl, rfl, rfl, by go_num, HE⟩
                    case measure => simp [RowKit.intOf]; omega
    · have HB : Hid (Below w.heap.size w wr) := H.out.bel
      by_cases hcl2 : i < rs.length
      · have i1 : (i : Int) < rs.length := by omega
        have i2 : ¬ (i : Int) < 60 := by omega
        clear hlt H
        go_wp2
        go_ret
        exact ⟨rfl, HB.out⟩
      · have i1 : ¬ (i : Int) < rs.length := by omega
        clear hlt H
        go_wp2
        go_ret
        exact ⟨rfl, HB.out⟩
end Go.Proofs.YthmbpghpommcjaaDoor

namespace Go.Proofs.YthmbpghpommcjaaDoor
set_option linter.unusedVariables false
set_option linter.unusedSimpArgs false
set_option maxRecDepth 100000
open Go.RowKit Go.Lib
set_option maxHeartbeats 16000000 in
theorem lplays_bad (fr mn : Int) (hw : mn ≤ 9223372036854775807) (hb : ¬ (1 ≤ mn ∧ 0 ≤ fr ∧ fr ≤ ((40 : Nat) : Int) - mn)) (a : Option Addr) (l cap : Nat) (w : World) (hg : ErrT w) :
    Calls Tryd.prog 3 #[.int .i64 fr, .int .i64 mn, .slice a l cap] w fun e w' => e = .returned (.bool true) ∧ Below w.heap.size w w' := by
  have HNew : Hid (Calls _ _ _ w _) := tn_new 40 w (by omega) (by omega)
  have HF1 : Hid (∀ W p nb sb cv, Tn w W p nb sb cv 40 (dk0 40) → Calls Tryd.prog 6 #[.pointer (some ⟨p, 0, none⟩), .int .i64 fr, .int .i64 mn] W fun e w' => e = .returned (.iface 43 (.int .i64 1)) ∧ Hid (Below W.heap.size W w')) := fun W p nb sb cv hW => formatL_bad hW fr mn (by omega) hw hb
  have HO1 : Hid (∀ W p nb sb cv, Tn w W p nb sb cv 40 (dk0 40) → Calls Tryd.prog 7 #[.pointer (some ⟨p, 0, none⟩), .int .i64 fr, .int .i64 mn] W fun e w' => e = .returned (.tuple #[.pointer none, .iface 43 (.int .i64 1)]) ∧ Hid (Below W.heap.size W w')) := fun W p nb sb cv hW => openL_bad hW fr mn (by omega) hw hb
  have HEr : Hid (∀ W, Below w.heap.size w W → Calls Tryd.prog 5 #[.iface 43 (.int .i64 1), .int .i64 1] W fun e w' => e = .returned (.bool true) ∧ Below W.heap.size W w') := fun W hW => err_true (.inr ⟨rfl, by omega, by omega⟩) W (hg.below hW (Nat.le_refl _))
  have hcs : mn < 1 ∨ (1 ≤ mn ∧ 200 < mn) ∨ (1 ≤ mn ∧ mn ≤ 200 ∧ fr < 0) ∨ (1 ≤ mn ∧ mn ≤ 200 ∧ 0 ≤ fr ∧ 40 - mn < fr) := by omega
  clear hg hb
  go_enter Tryd.func3, Tryd.ntmps3
  go_wp2_with fail
  refine HNew.out.mono ?_
  rintro e w1 ⟨p, nb, sb, rfl, ht1⟩
  have HC1 : Hid (Calls _ _ _ w1 _) := HF1.out w1 p nb sb _ ht1.out
  clear HNew HF1
  rcases hcs with b1 | ⟨b1, b2⟩ | ⟨b1, b2, b3⟩ | ⟨b1, b2, b3, b4⟩ <;> (
    go_wp2_with fail
    refine HC1.out.mono ?_
    rintro e w2 ⟨rfl, hb2⟩
    have ht2 := ht1.out.below hb2.out
    have HE1 : Hid (Calls _ _ _ w2 _) := HEr.out w2 ht2.2
    have HC2' : Hid (∀ w3, Below w2.heap.size w2 w3 → Tn w w3 p nb sb (.slice none 0 0) 40 (dk0 40)) := fun w3 h => ht2.below h
    clear HC1 hb2 ht2
    go_wp2_with fail
    refine HE1.out.mono ?_
    rintro e w3 ⟨rfl, hb3⟩
    have ht3 := HC2'.out w3 hb3
    have HC2 : Hid (Calls _ _ _ w3 _) := HO1.out w3 p nb sb _ ht3
    have HT3 : Hid (Tn w w3 p nb sb (.slice none 0 0) 40 (dk0 40)) := ht3
    clear HE1 hb3 HC2' ht3
    go_wp2_with fail
    refine HC2.out.mono ?_
    rintro e w4 ⟨rfl, hb4⟩
    have ht4 := HT3.out.below hb4.out
    have HE2 : Hid (Calls _ _ _ w4 _) := HEr.out w4 ht4.2
    have HB4 : Hid (Below w.heap.size w w4) := ht4.2
    clear HC2 hb4 ht4
    go_wp2_with fail
    refine HE2.out.mono ?_
    rintro e w5 ⟨rfl, hb5⟩
    have HB5 : Hid (Below w.heap.size w w5) := HB4.out.trans (hb5.mono HB4.out.size)
    clear HE2 hb5 HB4
    go_wp2
    go_ret
    exact ⟨rfl, HB5.out⟩)
end Go.Proofs.YthmbpghpommcjaaDoor

namespace Go.Proofs.YthmbpghpommcjaaDoor
set_option linter.unusedVariables false
set_option linter.unusedSimpArgs false
set_option maxRecDepth 100000
open Go.RowKit Go.Lib
theorem lplays_walk (fr mn : Int) (hw : mn ≤ 9223372036854775807) (a : Option Addr) (rs : List Rw) (cap : Nat) (w : World) (hg : ErrT w) (hrs : IsRs w a rs cap) (hrl : rs.length ≤ 9223372036854775807) :
    Calls Tryd.prog 3 #[.int .i64 fr, .int .i64 mn, .slice a rs.length cap] w fun e w' => e = .returned (.bool true) ∧ Below w.heap.size w w' := by
  by_cases hb : 1 ≤ mn ∧ 0 ≤ fr ∧ fr ≤ ((40 : Nat) : Int) - mn
  · obtain ⟨n, rfl⟩ : ∃ n : Nat, mn = (n : Int) := ⟨mn.toNat, by omega⟩
    obtain ⟨f, rfl⟩ : ∃ f : Nat, fr = (f : Int) := ⟨fr.toNat, by omega⟩
    exact lplays_good f n (by omega) (by omega) a rs cap w hg hrs hrl
  · exact lplays_bad fr mn hw hb a rs.length cap w hg
end Go.Proofs.YthmbpghpommcjaaDoor
