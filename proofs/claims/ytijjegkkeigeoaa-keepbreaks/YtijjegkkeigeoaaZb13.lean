/-
  What is kept, in memory: a log of it between its calls.
-/
import Derived.Test.YtijjegkkeigeoaaZb12
import Derived.Deep.AppendLies
namespace Go.Proofs.Ytijjegkkeigeoaa
set_option linter.unusedVariables false
set_option linter.unusedSimpArgs false

section
variable {fr mn since n j k : Nat} {D D' : Dk}
/-- Another block than a log's pieces is as it was. -/
theorem Rch.hd0 (h : Rch fr mn D k D') {i : Nat} {b : Bk} (hi : i < fr + 1 ∨ fr + mn ≤ i) (h0 : Hd0 i b D) : Hd0 i b D' := by
  refine Rch.go (motive := fun _ D' => Hd0 i b D') h0 (fun k D' ih j h1 h2 l => ?_) (fun k D' ih => ?_) k D' h
  · refine ⟨?_, ih.2.1, fm_write ih.2.2 (by omega)⟩
    show (D'.now.set j _).getD i bk0 = _
    rw [getD_set_bk, if_neg (by omega)]
    exact ih.1
  · exact ⟨ih.1, ih.1, fm_flush _ _⟩
end
/-- The mark of what was formatted. -/
def kmB : List UInt8 := [113, 100, 32, 107, 101, 112, 116]
/-- A formatted disk, with all records safe. -/
structure KpD (n : Nat) (D : Dk) (rs : List (List UInt8)) (L S : Nat) : Prop where
  n1 : 150 ≤ n
  n2 : n ≤ 200
  mrk : Hd0 0 ⟨padB kmB, false⟩ D
  hd : Hd0 1 ⟨padB (lhB (n - 1) 1), false⟩ D
  ri : RI (n - 1) 1 (imgF 1 (n - 1) D) rs (whF (n - 1) 1 (imgF 1 (n - 1) D))
  nw : newestF 1 (allF (n - 1) (imgF 1 (n - 1) D)) ≤ S
  ok : okL rs
  room : (enc rs).length ≤ (n - 1 - 2) * 60
  d : DOk D n
  chg : D.chg = []
  lim : D.lim L
/-- A formatted disk, for a Crash: what there may be of 'all', and at least so many. -/
structure KpX (n : Nat) (D : Dk) (all : List (List UInt8)) (sf L S : Nat) : Prop where
  n1 : 150 ≤ n
  n2 : n ≤ 200
  mrk : Hd0 0 ⟨padB kmB, false⟩ D
  hd : Hd0 1 ⟨padB (lhB (n - 1) 1), false⟩ D
  lim : D.lim L
  I : ∃ s wh P0 rs0 wh0 rs1 rsA rsm, LgI 1 (n - 1) 1 n P0 rs0 wh0 rs1 rsA rsm s wh D ∧ rsA <+: all ∧ sf ≤ rsm.length ∧ s.sit ≤ S
section
variable {n L S sf : Nat} {D D' : Dk} {rs all : List (List UInt8)}
theorem KpD.mono (h : KpD n D rs L S) {L' S' : Nat} (h1 : L ≤ L') (h2 : S ≤ S') : KpD n D rs L' S' := ⟨h.n1, h.n2, h.mrk, h.hd, h.ri, Nat.le_trans h.nw h2, h.ok, h.room, h.d, h.chg, h.lim.mono h1⟩
theorem KpX.mono (h : KpX n D all sf L S) {L' : Nat} {all' : List (List UInt8)} (h1 : L ≤ L') (h2 : all <+: all') : KpX n D all' sf L' S := by
  obtain ⟨s, wh, P0, rs0, wh0, rs1, rsA, rsm, a, b, c, d⟩ := h.I
  exact ⟨h.n1, h.n2, h.mrk, h.hd, h.lim.mono h1, s, wh, P0, rs0, wh0, rs1, rsA, rsm, a, b.trans h2, c, d⟩
theorem KpD.set (h : KpD n D rs L S) (f : Int) : KpD n { D with fail := f } rs L S := ⟨h.n1, h.n2, h.mrk, h.hd, h.ri, h.nw, h.ok, h.room, ⟨h.d.len, h.d.dn, h.d.ct⟩, h.chg, ⟨h.lim.s, h.lim.c⟩⟩
/-- As it is opened. -/
theorem KpD.lgi (h : KpD n D rs L S) (hS : S < 65000) : LgI 1 (n - 1) 1 n (imgF 1 (n - 1) D) rs (whF (n - 1) 1 (imgF 1 (n - 1) D)) rs rs rs ⟨rs.length, newestF 1 (allF (n - 1) (imgF 1 (n - 1) D)) + 1, (enc rs).length / 60, pcs (enc rs).length, 0, true, false, false⟩ (whF (n - 1) 1 (imgF 1 (n - 1) D)) D := by
  have h1 := h.n1
  have h2 := h.n2
  have h3 := h.nw
  refine LgI.start h.ri (fun a _ _ c hc => by rw [h.chg] at hc; cases hc) h.d (by omega) h.ok h.room (by omega) (by omega) (by omega) (fun a q e => ?_) (by omega)
  have := (newestF_ge 1 (allF (n - 1) (imgF 1 (n - 1) D))).2 (a, q) ((mem_allF (imgF_dom 1 (n - 1) D) a q).2 e)
  simp only at this
  omega
theorem KpD.x (h : KpD n D rs L S) (hS : S < 65000) : KpX n D rs rs.length L (S + 1) := by
  have h3 := h.nw
  exact ⟨h.n1, h.n2, h.mrk, h.hd, h.lim, _, _, _, _, _, _, _, _, h.lgi hS, List.prefix_refl _, Nat.le_refl _, by show newestF 1 _ + 1 ≤ S + 1; omega⟩
/-- Behind a Sync all is safe. -/
theorem kpD_firm {s : Ls} {wh : List Nat} {P0 : Nat → Option Pc} {rs0 : List (List UInt8)} {wh0 : List Nat} (h1 : 150 ≤ n) (h2 : n ≤ 200) (hm : Hd0 0 ⟨padB kmB, false⟩ D) (hh : Hd0 1 ⟨padB (lhB (n - 1) 1), false⟩ D) (hl : D.lim L) (hI : LgI 1 (n - 1) 1 n P0 rs0 wh0 rs rs rs s wh D) (hs : s.sit ≤ S) (hc : D.chg = []) : KpD n D rs L S := by
  obtain ⟨rs', r1, r2, r3, r4⟩ := hI.again
  have e : rs = rs' := List.IsPrefix.eq_of_length r1 (Nat.le_antisymm r1.length_le r2.length_le)
  subst e
  have hs1 : 1 ≤ s.sit := Nat.le_trans hI.img.h1 hI.img.h2
  refine ⟨h1, h2, hm, hh, r3, ?_, hI.ok, hI.len.1, hI.d, hc, hl⟩
  exact Nat.le_trans (newestF_most 1 s.sit _ (by omega) (fun q hq => r4 q.1 q.2 ((mem_allF (imgF_dom 1 (n - 1) D) q.1 q.2).1 hq))) hs
/-- Behind a Crash. -/
theorem KpX.crashed (h : KpX n D all sf L S) {mk : List Bool} {torn : Int} (hnow : D'.now = crashS mk torn 0 D.chg D.safe) (hsafe : D'.safe = D'.now) (hchg : D'.chg = []) (hlen : D'.now.length = n) (hl : D'.lim 10) : ∃ rs', KpD n D' rs' 10 S ∧ rs' <+: all ∧ sf ≤ rs'.length := by
  obtain ⟨s, wh, P0, rs0, wh0, rs1, rsA, rsm, hI, ha, hsf, hs⟩ := h.I
  obtain ⟨rs', r1, r2, r3, r4⟩ := hI.crash hnow
  have hs1 : 1 ≤ s.sit := Nat.le_trans hI.img.h1 hI.img.h2
  have hle := (enc_prefix r2).length_le
  refine ⟨rs', ⟨h.n1, h.n2, h.mrk.crash hnow hsafe hchg, h.hd.crash hnow hsafe hchg, r3, ?_, fun r hr => hI.ok r (r2.subset hr), by have := hI.room; omega, ⟨hlen, fun i => .inl (by rw [hsafe]), fun c hc => by rw [hchg] at hc; simp at hc⟩, hchg, hl⟩, r2.trans ha, Nat.le_trans hsf r1.length_le⟩
  exact Nat.le_trans (newestF_most 1 s.sit _ (by omega) (fun q hq => r4 q.1 q.2 ((mem_allF (imgF_dom 1 (n - 1) D') q.1 q.2).1 hq))) hs
end
/-- A new disk, formatted. -/
def kfD (n : Nat) : Dk := ((hdD (dk0 n) 1 (n - 1) 1).write 0 kmB).flush
theorem getD_rep_bk (n i : Nat) : (List.replicate n bk0).getD i bk0 = bk0 := by
  rw [List.getD_eq_getElem?_getD, List.getElem?_replicate]
  split <;> rfl
theorem kfD_now {n : Nat} (hn : 2 ≤ n) (i : Nat) : (kfD n).now.getD i bk0 = if i = 0 then ⟨padB kmB, false⟩ else if i = 1 then ⟨padB (lhB (n - 1) 1), false⟩ else bk0 := by
  show (((List.replicate n bk0).set 1 _).set 0 _).getD i bk0 = _
  rw [getD_set_bk, getD_set_bk, List.length_set, List.length_replicate, getD_rep_bk]
  by_cases h0 : i = 0
  · subst h0
    rw [if_pos ⟨rfl, by omega⟩, if_pos rfl]
  · rw [if_neg (by omega), if_neg h0]
    by_cases h1 : i = 1
    · subst h1
      rw [if_pos ⟨rfl, by omega⟩, if_pos rfl]
    · rw [if_neg (by omega), if_neg h1]
theorem lim_steps {n : Nat} : (kfD n).lim 10 := ⟨by show (((0 + 1) + 1) + 1) + 1 + 1 ≤ 10; decide, Nat.zero_le _⟩
theorem kfD_ok {n : Nat} (h1 : 150 ≤ n) (h2 : n ≤ 200) : KpD n (kfD n) [] 10 0 := by
  have hno : ∀ a, imgF 1 (n - 1) (kfD n) a = none := by
    intro a
    unfold imgF
    split
    · rename_i h
      rw [kfD_now (by omega), if_neg (by omega), if_neg (by omega), pcOf_zero]
    · rfl
  obtain ⟨r1, r2, r3⟩ := ri_none (n - 1) 1 _ hno
  refine ⟨h1, h2, ⟨by rw [kfD_now (by omega), if_pos rfl], ?_, fm_flush _ _⟩, ⟨by rw [kfD_now (by omega), if_neg (by omega), if_pos rfl], ?_, fm_flush _ _⟩, r1, by rw [r3]; exact Nat.le_refl _, fun r hr => by simp at hr, by simp [enc], ⟨?_, DN.flush _, ChT.flush _⟩, rfl, lim_steps⟩
  · exact (kfD_now (by omega) 0).trans (if_pos rfl)
  · exact (kfD_now (by omega) 1).trans (by rw [if_neg (by omega), if_pos rfl])
  · show (((List.replicate n bk0).set 1 _).set 0 _).length = n
    rw [List.length_set, List.length_set, List.length_replicate]
end Go.Proofs.Ytijjegkkeigeoaa

namespace Go.Proofs.Ytijjegkkeigeoaa
set_option linter.unusedVariables false
set_option linter.unusedSimpArgs false
set_option maxRecDepth 100000
open Go.RowKit Go.Lib

theorem ownsRow_keep1 {w W : World} {lo : Nat} {e : TypeId} {z : Nat} {v : Value} {m : Nat} {xs : List Value} (h : w.ownsRow lo e z v m xs) (hk : ∀ (b : Nat) (cs : Array Value), v.ownBlock = some b → w.heap[b]? = some (.cells cs e (0, 0)) → W.heap[b]? = w.heap[b]?) : W.ownsRow lo e z v m xs := by
  rcases h.2 with ⟨hv, hn⟩ | ⟨g1, c1, cur, hv, hb1, hh, r⟩
  · exact ⟨h.1, .inl ⟨hv, hn⟩⟩
  · exact ⟨h.1, .inr ⟨g1, c1, cur, hv, hb1, (hk g1 cur (by rw [hv]; rfl) hh).trans hh, r⟩⟩
theorem ownsRow_in {w : World} {lo : Nat} {e : TypeId} {z : Nat} {v : Value} {m : Nat} {xs : List Value} (h : w.ownsRow lo e z v m xs) {b : Nat} (hb : v.ownBlock = some b) : lo ≤ b ∧ b < w.heap.size ∧ ∃ cs, w.heap[b]? = some (.cells cs e (0, 0)) := by
  rcases h.2 with ⟨hv, hn⟩ | ⟨g1, c1, cur, hv, hb1, hh, r⟩
  · rw [hv] at hb; cases hb
  · rw [hv] at hb
    cases hb
    exact ⟨hb1, (Array.getElem?_eq_some_iff.1 hh).1, cur, hh⟩
theorem ownsRow_ne {w : World} {lo : Nat} {e : TypeId} {z : Nat} {v : Value} {m : Nat} {xs : List Value} (h : w.ownsRow lo e z v m xs) {b : Nat} {cs : Array Value} {t : TypeId} (hb : w.heap[b]? = some (.cells cs t (0, 0))) (ht : t ≠ e) : v.ownBlock ≠ some b := fun e2 => by
  obtain ⟨_, _, cs', h'⟩ := ownsRow_in h e2
  rw [hb] at h'
  cases h'
  exact ht rfl
/-- The other log is as it was. -/
theorem LgAt.other {w W U : World} {p nb sb : Nat} {cv cv' : Value} {n : Nat} {D D' : Dk} {la fa ma lb fb mb : Nat} {ta wa tb wb ta' wa' : Value} {sa ss : Ls} {xa xb : List UInt8} {ha hb : List Nat}
    (a : LgAt w W p nb sb cv n D la fa ma ta wa sa xa ha) (b : LgAt w W p nb sb cv n D lb fb mb tb wb ss xb hb) (hab : la ≠ lb) (ht : ∀ g, ta.ownBlock = some g → tb.ownBlock ≠ some g) (hw : ∀ g, wa.ownBlock = some g → wb.ownBlock ≠ some g) (k : LKeep w.heap.size la ta wa ta' wa' W U) (hT : Tn w U p nb sb cv' n D') : LgAt w U p nb sb cv' n D' lb fb mb tb wb ss xb hb := by
  have hba : W.heap[la]? = _ := a.box
  have hbb : W.heap[lb]? = _ := b.box
  have key : ∀ (g : Nat) (cs : Array Value) (t : TypeId), W.heap[g]? = some (.cells cs t (0, 0)) → g ≠ la → ta.ownBlock ≠ some g → wa.ownBlock ≠ some g → t ∉ dkT → U.heap[g]? = W.heap[g]? := fun g cs t e h1 h2 h3 h4 => k.block g (Array.getElem?_eq_some_iff.1 e).1 (.inr ⟨h1, h2, h3, fun cs' t' fr' e' => by
    rw [e] at e'
    cases e'
    exact h4⟩)
  refine ⟨hT, (key lb _ _ hbb (Ne.symm hab) (ownsRow_ne a.tx hbb (by decide)) (ownsRow_ne a.wh hbb (by decide)) (by decide)).trans b.box, ownsRow_keep1 b.tx (fun g cs e1 e2 => key g cs _ e2 (fun e => ?_) (fun e => ht g e e1) (ownsRow_ne a.wh e2 (by decide)) (by decide)), ownsRow_keep1 b.wh (fun g cs e1 e2 => key g cs _ e2 (fun e => ?_) (ownsRow_ne a.tx e2 (by decide)) (fun e => hw g e e1) (by decide)), b.llb⟩
  · rw [e, hba] at e2
    cases e2
  · rw [e, hba] at e2
    cases e2
/-- Two logs, each in its area. -/
structure Two (w W : World) (p nb sb : Nat) (cv : Value) (D : Dk) (la lb fa fb : Nat) (ta wa tb wb : Value) (sa ss : Ls) (ra rb ma mb : List (List UInt8)) (ha hb : List Nat) (j : Nat) : Prop where
  A : LgAt w W p nb sb cv 60 D la fa 30 ta wa sa (enc ra) ha
  B : LgAt w W p nb sb cv 60 D lb fb 30 tb wb ss (enc rb) hb
  IA : ∃ P0 rs0 wh0, LgI fa 30 1 60 P0 rs0 wh0 ra ra ma sa ha D
  IB : ∃ P0 rs0 wh0, LgI fb 30 1 60 P0 rs0 wh0 rb rb mb ss hb D
  lA : sa.lo = false
  lB : ss.lo = false
  fail : D.fail < 0
  lim : D.lim (10 + 300 * j)
  hA : D.now.getD fa bk0 = ⟨padB (lhB 30 1), false⟩
  hB : D.now.getD fb bk0 = ⟨padB (lhB 30 1), false⟩
  ar : fa + 30 ≤ fb ∨ fb + 30 ≤ fa
  na : fa + 30 ≤ 60
  nb_ : fb + 30 ≤ 60
  ab : la ≠ lb
  tt : ∀ g, ta.ownBlock = some g → tb.ownBlock ≠ some g
  ww : ∀ g, wa.ownBlock = some g → wb.ownBlock ≠ some g
section
variable {w W U : World} {p nb sb : Nat} {cv : Value} {D : Dk} {la lb fa fb : Nat} {ta wa tb wb : Value} {sa ss : Ls} {ra rb ma mb : List (List UInt8)} {ha hb : List Nat} {j : Nat}
theorem Two.swap (t : Two w W p nb sb cv D la lb fa fb ta wa tb wb sa ss ra rb ma mb ha hb j) : Two w W p nb sb cv D lb la fb fa tb wb ta wa ss sa rb ra mb ma hb ha j :=
  ⟨t.B, t.A, t.IB, t.IA, t.lB, t.lA, t.fail, t.lim, t.hB, t.hA, t.ar.symm, t.nb_, t.na, Ne.symm t.ab, fun g e e2 => t.tt g e2 e, fun g e e2 => t.ww g e2 e⟩
theorem Two.below (t : Two w W p nb sb cv D la lb fa fb ta wa tb wb sa ss ra rb ma mb ha hb j) (h : Below W.heap.size W U) : Two w U p nb sb cv D la lb fa fb ta wa tb wb sa ss ra rb ma mb ha hb j :=
  ⟨t.A.below h, t.B.below h, t.IA, t.IB, t.lA, t.lB, t.fail, t.lim, t.hA, t.hB, t.ar, t.na, t.nb_, t.ab, t.tt, t.ww⟩
/-- Behind a call of the first. -/
theorem Two.turn (t : Two w W p nb sb cv D la lb fa fb ta wa tb wb sa ss ra rb ma mb ha hb j) {cv' : Value} {D' : Dk} {ta' wa' : Value} {sa' : Ls} {ra' ma' : List (List UInt8)} {ha' : List Nat} (a : LgAt w U p nb sb cv' 60 D' la fa 30 ta' wa' sa' (enc ra') ha') (k : LKeep w.heap.size la ta wa ta' wa' W U) {m : Nat} (hr : Rch fa 30 D m D') (hm : m ≤ 299) (hI : ∃ P0 rs0 wh0, LgI fa 30 1 60 P0 rs0 wh0 ra' ra' ma' sa' ha' D') (hl : sa'.lo = false) : Two w U p nb sb cv' D' la lb fa fb ta' wa' tb wb sa' ss ra' rb ma' mb ha' hb (j + 1) := by
  have hA := t.ar
  refine ⟨a, t.A.other t.B t.ab t.tt t.ww k a.tn, hI, ?_, hl, t.lB, by rw [hr.fail]; exact t.fail, (hr.lim t.lim).mono (by omega), (hr.now (by omega)).trans t.hA, (hr.now (by omega)).trans t.hB, t.ar, t.na, t.nb_, t.ab, fun g e e2 => ?_, fun g e e2 => ?_⟩
  · obtain ⟨P0, rs0, wh0, h⟩ := t.IB
    exact ⟨P0, rs0, wh0, hr.other t.ar t.na h⟩
  · obtain ⟨_, h2, _⟩ := ownsRow_in t.B.tx e2
    exact (k.tx.ne h2 (fun e3 => t.tt g e3 e2)) e
  · obtain ⟨_, h2, _⟩ := ownsRow_in t.B.wh e2
    exact (k.wh.ne h2 (fun e3 => t.ww g e3 e2)) e
/-- Append to the first. -/
theorem Two.append (t : Two w W p nb sb cv D la lb fa fb ta wa tb wb sa ss ra rb ma mb ha hb j) (bl : List UInt8) (hk : okR bl) (hr : (enc ra).length + bl.length + 2 ≤ 1680) (hj : j ≤ 1000) (g : Nat) (hg : W.heap[g]? = some (.cells (byC bl).toArray 5 (0, 0))) (hn : ta.ownBlock ≠ some g) :
    Calls Try.prog 20 #[.pointer (some ⟨la, 0, none⟩), .slice (some ⟨g, 0, none⟩) bl.length bl.length] W fun e w' => e = .returned (.tuple #[.int .i64 (ra.length : Int), .nilIface]) ∧ Hid (∃ cv' D' ta' wa' sa' ha', Two w w' p nb sb cv' D' la lb fa fb ta' wa' tb wb sa' ss (ra ++ [bl]) rb ma mb ha' hb (j + 1)) := by
  obtain ⟨P0, rs0, wh0, hI⟩ := t.IA
  obtain ⟨g1, g2, ⟨m, hm, g3⟩, g4, g5⟩ := hI.grow t.lA t.fail hk (by omega)
  have hcnt : sa.cnt = ra.length := hI.cnt
  have hrl : ra.length ≤ (enc ra).length := by
    clear hI g1 g2 g3 g4 g5 hcnt t hr
    induction ra with
    | nil => simp
    | cons r rs ih => rw [enc_cons, List.length_append, enc1_length, List.length_cons]; omega
  have hl := (hI.len).1
  have hap : apBad 30 sa (enc ra) bl.length = 0 := by
    have h1 := hk.1
    have h2 := hk.2
    unfold apBad
    rw [if_neg (by rw [t.lA]; decide), if_neg (by omega), if_neg (by omega)]
  have hbk : ∀ U : World, (∀ b, b < W.heap.size → ta.ownBlock ≠ some b → U.heap[b]? = W.heap[b]?) → W.heap.size ≤ U.heap.size → IsBy U (some ⟨g, 0, none⟩) bl bl.length := fun U h1 h2 => by
    have hgl := (Array.getElem?_eq_some_iff.1 hg).1
    have e := (h1 g hgl hn).trans hg
    refine ⟨Nat.le_refl _, .inr ⟨g, 0, rfl, by omega, fun k hk => ?_⟩⟩
    rw [Nat.zero_add, cell_of_row _ _ _ _ _ (0, 0) e]
    simp [byC, hk]
  have hlim := t.lim
  refine (append_good t.A (by omega) hl (some ⟨g, 0, none⟩) bl bl.length hbk (.inr (by simp)) hap hI.bg (hlim.mono (by omega)) (by omega) (by omega) g1).mono ?_
  rintro e w' ⟨h1, _⟩
  obtain ⟨rfl, cv', tv', wv', h3, h4⟩ := h1 g2
  have h3' := h3.out
  rw [apT_enc] at h3' g3 g4 g5
  have hT := t.turn h3' h4.out g3 hm ⟨P0, rs0, wh0, g5⟩ g4
  exact ⟨by rw [hcnt], cv', _, tv', wv', _, _, hT⟩
/-- Sync of the first. -/
theorem Two.sync (t : Two w W p nb sb cv D la lb fa fb ta wa tb wb sa ss ra rb ma mb ha hb j) (hj : j ≤ 1000) :
    Calls Try.prog 21 #[.pointer (some ⟨la, 0, none⟩)] W fun e w' => e = .returned .nilIface ∧ Hid (∃ cv' D' sa', Two w w' p nb sb cv' D' la lb fa fb ta wa tb wb sa' ss ra rb ra mb ha hb (j + 1)) := by
  obtain ⟨P0, rs0, wh0, hI⟩ := t.IA
  obtain ⟨g2, ⟨m, hm, g3⟩, g4, g5⟩ := hI.firm t.lA t.fail
  refine (sync_any t.A (hI.bounds t.lA (by omega)) (t.lim.mono (by omega))).mono ?_
  rintro e w' ⟨rfl, cv', h3, h4⟩
  rw [g2, enE_zero]
  exact ⟨rfl, cv', _, _, t.turn h3.out (h4.out.widen ta) g3 hm ⟨P0, rs0, wh0, g5⟩ g4⟩
end
/-- A log that says how many there are. -/
def Says (w W : World) (lb c : Nat) : Prop := ∃ p nb sb cv n D fr mn tv wv s tx wh, LgAt w W p nb sb cv n D lb fr mn tv wv s tx wh ∧ s.cnt = c
theorem Says.below {w W U : World} {lb c : Nat} (h : Says w W lb c) (hb : Below W.heap.size W U) : Says w U lb c := by
  obtain ⟨p, nb, sb, cv, n, D, fr, mn, tv, wv, s, tx, wh, a, e⟩ := h
  exact ⟨p, nb, sb, cv, n, D, fr, mn, tv, wv, s, tx, wh, a.below hb, e⟩
theorem Opened.lgAt {w W w' : World} {p nb sb : Nat} {cv : Value} {n : Nat} {D : Dk} {lb fr mn since : Nat} {tv wv : Value} {rs : List (List UInt8)} (o : Opened w W w' p nb sb cv n D lb fr mn since tv wv rs) (hs : w.heap.size ≤ W.heap.size) :
    LgAt w w' p nb sb cv n D lb fr mn tv wv ⟨rs.length, newestF since (allF mn (imgF fr mn D)) + 1, (enc rs).length / 60, pcs (enc rs).length, 0, true, false, false⟩ (enc rs) (whF mn since (imgF fr mn D)) :=
  ⟨o.tn, o.box, byRow_low o.tx hs, naRow_low o.wh hs, Nat.le_trans hs o.llb⟩
section
variable {w W U : World} {p nb sb : Nat} {cv : Value} {D : Dk} {la lb fa fb : Nat} {ta wa tb wb : Value} {sa ss : Ls} {ra rb ma mb : List (List UInt8)} {ha hb : List Nat} {j : Nat}
theorem Two.says (t : Two w W p nb sb cv D la lb fa fb ta wa tb wb sa ss ra rb ma mb ha hb j) : Says w W la ra.length := by
  obtain ⟨P0, rs0, wh0, hI⟩ := t.IA
  exact ⟨_, _, _, _, _, _, _, _, _, _, _, _, _, t.A, hI.cnt⟩
/-- The first is opened again. -/
theorem Two.again (t : Two w W p nb sb cv D la lb fa fb ta wa tb wb sa ss ra rb ra mb ha hb j) :
    Calls Try.prog 37 #[.pointer (some ⟨p, 0, none⟩), .int .i64 (fa : Int), .int .i64 ((30 : Nat) : Int)] W fun e w' => ∃ lc, e = .returned (.tuple #[.pointer (some ⟨lc, 0, none⟩), .nilIface]) ∧ Hid (Below W.heap.size W w' ∧ Says w w' lc ra.length) := by
  obtain ⟨P0, rs0, wh0, hI⟩ := t.IA
  obtain ⟨rs', h1, h2, h3, _⟩ := hI.again
  have e : ra = rs' := List.IsPrefix.eq_of_length h1 (Nat.le_antisymm h1.length_le h2.length_le)
  refine (openL_ok t.A.tn fa 30 1 (by omega) t.na (by omega) t.hA (by omega) (by omega)).mono ?_
  rintro e' w' ⟨lc, rfl, tv, wv, rs, o⟩
  have hrs : rs = ra := by rw [e, ← h3.good.rc]; exact o.out.rc
  refine ⟨lc, rfl, o.out.bel, _, _, _, _, _, _, _, _, _, _, _, _, _, o.out.lgAt t.A.tn.2.size, ?_⟩
  show rs.length = _
  rw [hrs]
end
end Go.Proofs.Ytijjegkkeigeoaa

namespace Go.Proofs.Ytijjegkkeigeoaa
set_option linter.unusedVariables false
set_option linter.unusedSimpArgs false
set_option maxRecDepth 100000
open Go.RowKit Go.Lib
set_option maxHeartbeats 2000000 in
theorem clone_row (ad : Addr) (l : List UInt8) (cap : Nat) (w : World) (h : IsBy w (some ad) l cap) (hl : l.length ≤ 1000) :
    Calls Try.prog 47 #[.slice (some ad) l.length cap] w fun e w' => ∃ a' c', e = .returned (.slice a' l.length c') ∧ Hid (ByRow w' w.heap.size (.slice a' l.length c') l) ∧ Hid (Below w.heap.size w w') := by
  have q35 : ∀ (w : World) (a : Option Addr) (n c n' c' : Nat), (binOp .eql 52 (.slice a n c) (.slice none n' c')).run Try.prog w = .ok (.bool a.isNone) w := fun w a n c n' c' => Lib.run_eql_slice_nil w _ _ a n c n' c' Try.underlying52
  have HB : Hid (IsBy w (some ad) l cap) := h
  have l0 : (0 : Int) ≤ l.length := by omega
  clear h
  go_enter Try.func47, Try.ntmps47
  go_wp2_with (at_builtin; refine wpList_appB rfl (.tmp 5) (.tmp 6) rfl w.heap.size (.slice (some ⟨w.heap.size, 0, none⟩) 0 0) [] (some ad) l l.length cap rfl rfl rfl (byRow_new w [] w.heap.size (Nat.le_refl _) (by simp)) (HB.out.below ((Below.refl _ w).alloc (Nat.le_refl _) _)) (.inr (by simp)) (by simp) (by simp; omega) ?_; intro v' w2 hr hb _ _)
  have hr' : ByRow w2 w.heap.size v' l := by simpa using hr
  obtain ⟨a', c', rfl, _⟩ := hr'.isBy
  have HE : Hid (ByRow w2 w.heap.size (.slice a' l.length c') l ∧ Below w.heap.size w w2) := ⟨hr', ((Below.refl _ w).alloc (Nat.le_refl _) _).trans hb⟩
  clear hr hr' hb
  go_wp2
  go_ret
  exact ⟨_, _, rfl, HE.out.1, HE.out.2⟩
/-- Rows of bytes in a row of one's own. -/
def RsRow (W : World) (n : Nat) (v : Value) (rs : List (List UInt8)) : Prop := ∃ vs : List Value, vs.length = rs.length ∧ W.ownsRow n 52 1 v rs.length vs ∧ ∀ k, k < rs.length → ByRow W n (vs.getD k .nilIface) (rs.getD k [])
section
variable {w W U : World} {n : Nat} {v : Value} {rs : List (List UInt8)}
theorem RsRow.shape (h : RsRow W n v rs) : ∃ a cap, v = .slice a rs.length cap := by
  obtain ⟨vs, hl, h, _⟩ := h
  rcases h.2 with ⟨rfl, h0⟩ | ⟨g, cap, cur, rfl, _⟩
  · exact ⟨none, 0, by rw [h0]⟩
  · exact ⟨_, cap, rfl⟩
theorem RsRow.own (h : RsRow W n v rs) : ∀ j, v.ownBlock = some j → n ≤ j := fun j e => by
  obtain ⟨vs, hl, h, _⟩ := h
  rcases h.2 with ⟨hv, hn⟩ | ⟨g1, c1, cur, hv, hb1, hh, r⟩
  · rw [hv] at e; cases e
  · rw [hv] at e
    cases e
    exact hb1
theorem RsRow.below (h : RsRow W n v rs) (hb : Below W.heap.size W U) : RsRow U n v rs := by
  obtain ⟨vs, hl, h1, h2⟩ := h
  exact ⟨vs, hl, ownsRow_keep h1 (fun b cs e _ => hb.block b (Array.getElem?_eq_some_iff.1 e).1), fun k hk => (h2 k hk).below hb⟩
end
theorem sl_info : ∃ q, Try.prog.info? 52 = some q ∧ q.zero = some (.slice none 0 0) ∧ q.size = 1 ∧ q.bytes = 24 := by
  have h : (Try.prog.info? 52).map (fun i => (i.zero, i.size, i.bytes)) = some (some (.slice none 0 0), 1, 24) := by kernel_rfl
  obtain ⟨q, hq, hz⟩ := Option.map_eq_some_iff.1 h
  simp only [Prod.mk.injEq] at hz
  exact ⟨q, hq, hz.1, hz.2.1, hz.2.2⟩
/-- A record more. -/
theorem RsRow.more {W2 U : World} {n : Nat} {v v' x : Value} {rs : List (List UInt8)} {vs : List Value} {r : List UInt8} (h : ∀ k, k < rs.length → ByRow W2 n (vs.getD k .nilIface) (rs.getD k [])) (hl : vs.length = rs.length) (hv : W2.ownsRow n 52 1 v rs.length vs) (hx : ByRow W2 n x r) (hg : W2.grownBy U v.ownBlock) (hu : U.ownsRow n 52 1 v' (rs.length + 1) (vs ++ [x])) : RsRow U n v' (rs ++ [r]) := by
  have key : ∀ (y : Value) (l : List UInt8), ByRow W2 n y l → ByRow U n y l := fun y l hy => ownsRow_keep hy (fun b cs e _ => hg.block b (Array.getElem?_eq_some_iff.1 e).1 (fun e2 => by
    rcases hv.2 with ⟨hv', hn⟩ | ⟨g1, c1, cur, hv', hb1, hh, _⟩
    · rw [hv'] at e2; cases e2
    · rw [hv'] at e2
      cases e2
      rw [e] at hh
      cases hh))
  refine ⟨vs ++ [x], by simp [hl], by rw [List.length_append]; exact hu, fun k hk => ?_⟩
  by_cases e : k < rs.length
  · have h1 := key _ _ (h k e)
    simp only [List.getD_eq_getElem?_getD] at h1 ⊢
    rw [List.getElem?_append_left (by omega), List.getElem?_append_left e]
    exact h1
  · have ek : k = rs.length := by simp at hk; omega
    simp only [List.getD_eq_getElem?_getD]
    rw [ek, List.getElem?_append_right (by omega), List.getElem?_append_right (Nat.le_refl _), hl]
    simp
    exact key _ _ hx
/-- Where All stands: some are done, and the text of the rest. -/
def Al (W wr : World) (rs : List (List UInt8)) (v rv : Value) : Prop := ∃ done rest a c, rs = done ++ rest ∧ okL rest ∧ rv = .slice a (enc rest).length c ∧ IsBy W a (enc rest) c ∧ RsRow wr W.heap.size v done ∧ Below W.heap.size W wr
set_option maxHeartbeats 4000000 in
theorem all_any {w W : World} {p nb sb : Nat} {cv : Value} {n : Nat} {D : Dk} {lb fr mn : Nat} {tv wv : Value} {s : Ls} {rs : List (List UInt8)} {wh : List Nat} (a : LgAt w W p nb sb cv n D lb fr mn tv wv s (enc rs) wh) (ho : okL rs) (hl : (enc rs).length ≤ 100000) (hcn : s.cnt ≤ 100000) :
    Calls Try.prog 23 #[.pointer (some ⟨lb, 0, none⟩)] W fun e w' => ∃ a' c', e = .returned (.slice a' rs.length c') ∧ Hid (RsRow w' W.heap.size (.slice a' rs.length c') rs) ∧ Hid (Below W.heap.size W w') := by
  obtain ⟨ta, tc, rfl, htb⟩ := a.tx.isBy
  obtain ⟨qi, hq, hz0, hz1, hz2⟩ := sl_info
  obtain ⟨W1, hmk, hown, hgr⟩ := run_make_own (P := Try.prog) W W.heap.size 57 52 qi (.slice none 0 0) 1 Try.underlying57 hq hz0 hz1 .i64 .i64 s.cnt (by rw [hz2]; omega) (by unfold maxLen; omega) (Nat.le_refl _)
  have c4 : W.cell? ⟨lb, 4, none⟩ = some (.int .i64 (s.cnt : Int)) := by rw [a.box.at]; rfl
  have c3 : W1.cell? ⟨lb, 3, none⟩ = some (.slice ta (enc rs).length tc) := by
    have e : W1.heap[lb]? = W.heap[lb]? := hgr.block lb a.box.lt (by simp)
    have : W1.cell? ⟨lb, 3, none⟩ = W.cell? ⟨lb, 3, none⟩ := World.cell?_of_block (a := ⟨lb, 3, none⟩) e
    rw [this, a.box.at]; rfl
  have HB1 : Below W.heap.size W W1 := (Below.refl _ W).grown hgr (Nat.le_refl _) (fun j e => by cases e)
  have H0 : Hid (Al W W1 rs (.slice (some ⟨W.heap.size, 0, none⟩) 0 s.cnt) (.slice ta (enc rs).length tc)) := ⟨[], rs, ta, tc, rfl, ho, rfl, htb, ⟨[], rfl, hown, fun k hk => absurd hk (by simp)⟩, HB1⟩
  obtain ⟨g0, hg0⟩ : ∃ g0, W.heap.size = g0 := ⟨_, rfl⟩
  rw [hg0] at hmk H0
  have HG : Hid (W.heap.size = g0) := hg0
  obtain ⟨L0, hL0⟩ : ∃ L0, (enc rs).length = L0 := ⟨_, rfl⟩
  have l1 : (L0 : Int) ≤ 100000 := by omega
  have n1 : (s.cnt : Int) ≤ 100000 := by omega
  have HL0 : Hid ((enc rs).length = L0) := hL0
  rw [hL0] at c3 H0
  clear a htb hown hgr HB1 hg0 hL0 ho hl
  go_enter Try.func23, Try.ntmps23
  go_wp2_with fail
  go_loopw [3, 4] (fun v rv wr => Hid (Al W wr rs v rv)) (fun _ rv _ => slN rv)
  case atStart => exact H0
  case round =>
    clear H0 c3 c4 hmk
    obtain ⟨dn, rest, a1, c1, eR, hok, rfl, hby, hRs, hBl⟩ := hrel.out
    obtain ⟨va, vc, rfl⟩ := hRs.shape
    have hll : (enc rest).length ≤ 100000 := by
      have : (enc rs).length = (enc dn).length + (enc rest).length := by rw [eR, enc_append, List.length_append]
      have := HL0.out
      omega
    cases rest with
    | nil =>
      have e0 : (enc ([] : List (List UInt8))).length = 0 := rfl
      have HE : Hid (RsRow wr W.heap.size (.slice va dn.length vc) dn ∧ Below W.heap.size W wr ∧ rs = dn) := ⟨hRs, hBl, by rw [eR, List.append_nil]⟩
      rw [e0]
      clear hrel hRs hBl eR hok hby hll
      go_wp2
      go_ret
      obtain ⟨h1, h2, h3⟩ := HE.out
      rw [h3]
      exact ⟨_, _, rfl, h1, h2⟩
    | cons r rest =>
      have hr := hok r (by simp)
      have hok' : okL rest := fun x hx => hok x (by simp [hx])
      have hcut : cutL (enc (r :: rest)) = some (r, enc rest) := by rw [enc_cons]; exact cutL_enc hr _
      have hlen : (enc (r :: rest)).length = r.length + 2 + (enc rest).length := by rw [enc_cons, List.length_append, enc1_length]
      have hC := cut_some a1 _ r (enc rest) c1 wr (hby.below hBl) hll hcut
      have ha1 : a1 ≠ none := by
        rcases hby.lies with h | ⟨b, off, e, _⟩
        · rw [h] at hlen; simp only [List.length_nil] at hlen; omega
        · rw [e]; simp
      have hmid := isBy_mid hby 2 (2 + r.length) (by omega) (by omega)
      rw [show ((enc (r :: rest)).drop 2).take (2 + r.length - 2) = r by
        rw [enc_cons, show 2 + r.length - 2 = r.length by omega]
        unfold enc1
        simp] at hmid
      have hdrp := isBy_drop hby (2 + r.length) (by omega)
      rw [show (enc (r :: rest)).drop (2 + r.length) = enc rest by
        rw [enc_cons, show 2 + r.length = (enc1 r).length by rw [enc1_length]; omega, List.drop_left]] at hdrp
      obtain ⟨ad, had⟩ : ∃ ad, slA a1 c1 2 = some ad := Option.ne_none_iff_exists'.1 (slA_ne ha1 _ _)
      rw [had] at hC hmid
      have HCl : Hid (∀ U, Still wr U → Calls Try.prog 47 #[.slice (some ad) r.length (c1 - 2)] U fun e w' => ∃ a' c', e = .returned (.slice a' r.length c') ∧ Hid (ByRow w' U.heap.size (.slice a' r.length c') r) ∧ Hid (Below U.heap.size U w')) := fun U hU =>
        clone_row ad r (c1 - 2) U (hmid.below (hBl.trans (hU.below _))) (by have := hr.2; omega)
      have HN : Hid (∀ v' U, RsRow U W.heap.size v' (dn ++ [r]) → Below W.heap.size W U → Al W U rs v' (.slice (slA a1 c1 (2 + r.length)) (enc rest).length (c1 - (2 + r.length)))) := fun v' U h1 h2 => ⟨dn ++ [r], rest, _, _, by rw [eR, List.append_assoc]; rfl, hok', rfl, hdrp, h1, h2⟩
      have HM : Hid ((enc rest).length < (enc (r :: rest)).length) := by unfold Hid; omega
      have hdl : dn.length ≤ 100000 := by
        have := enc_len_ge rs
        have h2 : rs.length = dn.length + (rest.length + 1) := by rw [eR, List.length_append]; rfl
        have := HL0.out
        omega
      have hpos : (0 : Int) < ((enc (r :: rest)).length : Int) := by omega
      have HRs : Hid (RsRow wr W.heap.size (.slice va dn.length vc) dn ∧ Below W.heap.size W wr) := ⟨hRs, hBl⟩
      generalize slA a1 c1 (2 + r.length) = a2 at *
      generalize c1 - (2 + r.length) = c2 at *
      generalize c1 - 2 = cc at *
      generalize (enc (r :: rest)).length = LL at *
      generalize (enc rest).length = L2 at *
      have HC : Hid (Calls _ _ _ wr _) := hC
      clear hC hmid hdrp had hRs hBl hrel hby hcut hok eR hok' ha1 hlen hll
      go_wp2_with fail
      refine HC.out.mono ?_
      rintro e w2 ⟨rfl, hs2⟩
      have HCl2 : Hid (Calls _ _ _ w2 _) := HCl.out w2 hs2
      have HRs2 : Hid (RsRow w2 W.heap.size (.slice va dn.length vc) dn ∧ Below W.heap.size W w2) := ⟨HRs.out.1.below (hs2.below _), HRs.out.2.trans (hs2.below _)⟩
      clear HC HCl HRs hs2
      go_wp2_with fail
      refine HCl2.out.mono ?_
      rintro e w3 ⟨a3, c3, rfl, hrow3, hb3⟩
      obtain ⟨W4, hW4⟩ : ∃ W4, w3.alloc (.cells #[.slice a3 r.length c3] 52) = W4 := ⟨_, rfl⟩
      have b4 : Below w3.heap.size w3 W4 := by rw [← hW4]; exact (Below.refl _ _).alloc (Nat.le_refl _) _
      have hr4 : W4.heap[w3.heap.size]? = some (.cells #[.slice a3 r.length c3] 52 (0, 0)) := by rw [← hW4]; exact new_heap w3 _
      have B3 : Below W.heap.size W w3 := HRs2.out.2.trans (hb3.out.mono HRs2.out.2.size)
      have B4 : Below W.heap.size W W4 := B3.trans (b4.mono B3.size)
      have R4 := (HRs2.out.1.below hb3.out).below b4
      obtain ⟨vs, hvl, hvo, hvb⟩ := R4
      have hx4 : ByRow W4 W.heap.size (.slice a3 r.length c3) r := byRow_low (hrow3.out.below b4) HRs2.out.2.size
      have Hsrc : Hid (∀ j u, [Value.slice a3 r.length c3][j]? = some u → W4.cell? ((⟨w3.heap.size, 0, none⟩ : Addr).add j) = some u) := World.news_of_block hr4
      have HVo : Hid (W4.ownsRow W.heap.size 52 1 (.slice va dn.length vc) dn.length vs) := hvo
      have HOw : Hid (∀ j, (Value.slice va dn.length vc).ownBlock = some j → W.heap.size ≤ j) := (HRs2.out.1).own
      have HB4 : Hid (Below W.heap.size W W4) := B4
      have HW4 : Hid (_ = W4) := hW4
      have HX : Hid ((∀ k, k < dn.length → ByRow W4 W.heap.size (vs.getD k .nilIface) (dn.getD k [])) ∧ vs.length = dn.length ∧ ByRow W4 W.heap.size (.slice a3 r.length c3) r) := ⟨hvb, hvl, hx4⟩
      have Hm1 : Hid (dn.length + 1 ≤ maxLen) := by unfold Hid maxLen; omega
      have Hm2 : Hid ((dn.length + 1) * 24 ≤ 140737488355328) := by unfold Hid; omega
      have Hs1 : Hid (∀ u ∈ [Value.slice a3 r.length c3], u.oneCell' = true) := by intro u hu; simp at hu; subst hu; rfl
      clear HCl2 HRs2 hrow3 hb3 b4 hr4 B3 B4 hvl hvo hvb hx4 hW4 hdl
      go_wp2_with (at_builtin; rw [HW4.out]; refine wpList_append_own _ rfl _ _ 57 rfl W.heap.size 52 qi (.slice none 0 0) 1 24 Try.underlying57 hq hz0 hz1 hz2 rfl (by decide) _ _ _ rfl HVo.out ⟨w3.heap.size, 0, none⟩ 1 1 [.slice a3 r.length c3] rfl rfl Hsrc.out Hs1.out Hm1.out Hm2.out HB4.out.size ?_)
      intro v5 w5 hown hgrow _
      have R5 : RsRow w5 W.heap.size v5 (dn ++ [r]) := RsRow.more HX.out.1 HX.out.2.1 HVo.out HX.out.2.2 hgrow hown
      have B5 : Below W.heap.size W w5 := HB4.out.grown hgrow HB4.out.size (fun j e => HOw.out j e)
      obtain ⟨v5a, v5c, rfl⟩ := R5.shape
      have HF : Hid (Al W w5 rs (.slice v5a (dn ++ [r]).length v5c) (.slice a2 L2 c2)) := HN.out _ _ R5 B5
      clear hown hgrow R5 B5 HX HVo Hsrc Hs1 HB4 HOw HW4 HN
      generalize (dn ++ [r]).length = dl at *
      go_wp2_with fail
      go_roundw
      case rel => exact HF
      case measure => simp [slN]; exact HM.out
end Go.Proofs.Ytijjegkkeigeoaa

namespace Go.Proofs.Ytijjegkkeigeoaa
set_option linter.unusedVariables false
set_option linter.unusedSimpArgs false
set_option maxRecDepth 100000
open Go.RowKit Go.Lib

/-- The law's own records, apart from a log's text. -/
def Rcs (W : World) (n : Nat) (tv av : Value) (rs : List (List UInt8)) : Prop := ∃ vs : List Value, vs.length = rs.length ∧ W.ownsRow n 52 1 av rs.length vs ∧ (∀ k, k < rs.length → ByRow W n (vs.getD k .nilIface) (rs.getD k [])) ∧ ∀ k g, k < rs.length → (vs.getD k .nilIface).ownBlock = some g → tv.ownBlock ≠ some g
section
variable {w W U : World} {n : Nat} {tv av tv' : Value} {rs : List (List UInt8)}
theorem Rcs.rows (h : Rcs W n tv av rs) : RsRow W n av rs := by
  obtain ⟨vs, h1, h2, h3, _⟩ := h
  exact ⟨vs, h1, h2, h3⟩
theorem Rcs.below (h : Rcs W n tv av rs) (hb : Below W.heap.size W U) : Rcs U n tv av rs := by
  obtain ⟨vs, h1, h2, h3, h4⟩ := h
  exact ⟨vs, h1, ownsRow_keep h2 (fun b cs e _ => hb.block b (Array.getElem?_eq_some_iff.1 e).1), fun k hk => (h3 k hk).below hb, h4⟩
theorem RsRow.keeps (h : RsRow W n av rs) {lo : Nat} (hk : Keeps lo dkT W U) : RsRow U n av rs := by
  obtain ⟨vs, h1, h2, h3⟩ := h
  exact ⟨vs, h1, ownsRow_keep h2 (fun b cs e _ => (hk.row e (by decide)).trans e.symm), fun k hl => (h3 k hl).keeps hk⟩
/-- A log that was opened later has its own text. -/
theorem RsRow.apart (h : RsRow W n av rs) (hb : Below W.heap.size W U) (ht : ∀ g, tv.ownBlock = some g → W.heap.size ≤ g) : Rcs U n tv av rs := by
  obtain ⟨vs, h1, h2, h3⟩ := h
  refine ⟨vs, h1, ownsRow_keep h2 (fun b cs e _ => hb.block b (Array.getElem?_eq_some_iff.1 e).1), fun k hk => (h3 k hk).below hb, fun k g hk e e2 => ?_⟩
  have g1 := (ownsRow_in (h3 k hk) e).2.1
  have g2 := ht g e2
  omega
/-- A log's call turns none of them. -/
theorem Rcs.keep {p nb sb : Nat} {cv : Value} {m : Nat} {D : Dk} {lb fr mn : Nat} {wv wv' : Value} {s : Ls} {tx : List UInt8} {wh : List Nat} (a : LgAt w W p nb sb cv m D lb fr mn tv wv s tx wh) (h : Rcs W w.heap.size tv av rs) (k : LKeep w.heap.size lb tv wv tv' wv' W U) : Rcs U w.heap.size tv' av rs := by
  obtain ⟨vs, h1, h2, h3, h4⟩ := h
  have hba : W.heap[lb]? = _ := a.box
  have key : ∀ (g : Nat) (cs : Array Value) (t : TypeId), W.heap[g]? = some (.cells cs t (0, 0)) → t ≠ 92 → tv.ownBlock ≠ some g → wv.ownBlock ≠ some g → t ∉ dkT → U.heap[g]? = W.heap[g]? := fun g cs t e h1 h2 h3 h4 => k.block g (Array.getElem?_eq_some_iff.1 e).1 (.inr ⟨fun e2 => by
    rw [e2, hba] at e
    cases e
    exact h1 rfl, h2, h3, fun cs' t' fr' e' => by
    rw [e] at e'
    cases e'
    exact h4⟩)
  refine ⟨vs, h1, ownsRow_keep1 h2 (fun b cs e1 e2 => key b cs _ e2 (by decide) (ownsRow_ne a.tx e2 (by decide)) (ownsRow_ne a.wh e2 (by decide)) (by decide)), fun j hj => ownsRow_keep1 (h3 j hj) (fun b cs e1 e2 => key b cs _ e2 (by decide) (h4 j b hj e1) (ownsRow_ne a.wh e2 (by decide)) (by decide)), fun j g hj e => ?_⟩
  exact k.tx.ne (ownsRow_in (h3 j hj) e).2.1 (h4 j g hj e)
/-- Some of them. -/
theorem Rcs.take {a : Option Addr} {c : Nat} (h : Rcs W n tv (.slice a rs.length c) rs) {m : Nat} (hm : m ≤ rs.length) (ha : a ≠ none) : Rcs W n tv (.slice a m c) (rs.take m) := by
  obtain ⟨vs, h1, h2, h3, h4⟩ := h
  have hl : (rs.take m).length = m := by rw [List.length_take]; omega
  refine ⟨vs.take m, by rw [List.length_take, hl]; omega, ?_, fun k hk => ?_, fun k g hk e => ?_⟩
  · rcases h2.2 with ⟨hv, _⟩ | ⟨g, c', cur, hv, hb, hg, hc, hx, hs, ht⟩
    · simp only [Value.slice.injEq] at hv
      exact absurd hv.1 ha
    · simp only [Value.slice.injEq] at hv
      obtain ⟨rfl, _, rfl⟩ := hv
      refine ⟨by rw [List.length_take, hl]; omega, .inr ⟨g, c, cur, by rw [hl], hb, hg, by omega, hx, hs, ?_⟩⟩
      rw [hl, ← ht, List.take_take]
      congr 1
      omega
  · rw [hl] at hk
    have := h3 k (by omega)
    simp only [List.getD_eq_getElem?_getD, List.getElem?_take, if_pos hk] at this ⊢
    exact this
  · rw [hl] at hk
    refine h4 k g (by omega) ?_
    simp only [List.getD_eq_getElem?_getD, List.getElem?_take, if_pos hk] at e ⊢
    exact e
end
/-- A log between its calls, on a disk that may fail. -/
structure Kg (w W : World) (p nb sb : Nat) (cv : Value) (D : Dk) (lb : Nat) (tv wv : Value) (s : Ls) (wh : List Nat) (rs rsm : List (List UInt8)) (L S : Nat) : Prop where
  A : LgAt w W p nb sb cv 40 D lb 0 40 tv wv s (enc rs) wh
  I : ∃ P0 rs0 wh0, LgI 0 40 1 40 P0 rs0 wh0 rs rs rsm s wh D
  lo : s.lo = false
  lim : D.lim L
  hd : Hd0 0 ⟨padB (lhB 40 1), false⟩ D
  sit : s.sit ≤ S
/-- A disk with a log in it, for a Crash: what there may be of 'all', and at least so many. -/
def Kx (w W : World) (p nb sb : Nat) (all : List (List UInt8)) (sf L S : Nat) : Prop := ∃ cv D s wh P0 rs0 wh0 rs1 rsA rsm, Tn w W p nb sb cv 40 D ∧ LgI 0 40 1 40 P0 rs0 wh0 rs1 rsA rsm s wh D ∧ rsA <+: all ∧ sf ≤ rsm.length ∧ Hd0 0 ⟨padB (lhB 40 1), false⟩ D ∧ D.lim L ∧ s.sit ≤ S
/-- Behind a Crash. -/
def Ky (w W : World) (p nb sb : Nat) (all : List (List UInt8)) (sf S : Nat) : Prop := ∃ cv D rs', Tn w W p nb sb cv 40 D ∧ rs' <+: all ∧ sf ≤ rs'.length ∧ recs (catF 40 1 (imgF 0 40 D)) = rs' ∧ newestF 1 (allF 40 (imgF 0 40 D)) ≤ S ∧ LgI 0 40 1 40 (imgF 0 40 D) rs' (whF 40 1 (imgF 0 40 D)) rs' rs' rs' ⟨rs'.length, newestF 1 (allF 40 (imgF 0 40 D)) + 1, (enc rs').length / 60, pcs (enc rs').length, 0, true, false, false⟩ (whF 40 1 (imgF 0 40 D)) D ∧ Hd0 0 ⟨padB (lhB 40 1), false⟩ D ∧ D.fail < 0 ∧ D.lim 10
section
variable {w W U : World} {p nb sb : Nat} {cv : Value} {D : Dk} {lb : Nat} {tv wv : Value} {s : Ls} {wh : List Nat} {rs rsm all : List (List UInt8)} {L S sf : Nat}
theorem Kg.below (h : Kg w W p nb sb cv D lb tv wv s wh rs rsm L S) (hb : Below W.heap.size W U) : Kg w U p nb sb cv D lb tv wv s wh rs rsm L S := ⟨h.A.below hb, h.I, h.lo, h.lim, h.hd, h.sit⟩
theorem Kx.below (h : Kx w W p nb sb all sf L S) (hb : Below W.heap.size W U) : Kx w U p nb sb all sf L S := by
  obtain ⟨cv, D, s, wh, P0, rs0, wh0, rs1, rsA, rsm, h1, r⟩ := h
  exact ⟨cv, D, s, wh, P0, rs0, wh0, rs1, rsA, rsm, h1.below hb, r⟩
theorem Ky.below (h : Ky w W p nb sb all sf S) (hb : Below W.heap.size W U) : Ky w U p nb sb all sf S := by
  obtain ⟨cv, D, rs', h1, r⟩ := h
  exact ⟨cv, D, rs', h1.below hb, r⟩
theorem Kg.x (h : Kg w W p nb sb cv D lb tv wv s wh rs rsm L S) (ha : rs <+: all) (hs : sf ≤ rsm.length) : Kx w W p nb sb all sf L S := by
  obtain ⟨P0, rs0, wh0, hI⟩ := h.I
  exact ⟨cv, D, s, wh, P0, rs0, wh0, rs, rs, rsm, h.A.tn, hI, ha, hs, h.hd, h.lim, h.sit⟩
theorem Kg.set (h : Kg w W p nb sb cv D lb tv wv s wh rs rsm L S) {f : Int} (ht : Tn w U p nb sb cv 40 { D with fail := f }) (hk : Keeps w.heap.size dkT W U) : Kg w U p nb sb cv { D with fail := f } lb tv wv s wh rs rsm L S := by
  obtain ⟨P0, rs0, wh0, hI⟩ := h.I
  exact ⟨h.A.disk ht hk, ⟨P0, rs0, wh0, hI.set rfl rfl rfl⟩, h.lo, ⟨h.lim.s, h.lim.c⟩, h.hd, h.sit⟩
/-- Append, whatever the disk does. -/
theorem Kg.append (h : Kg w W p nb sb cv D lb tv wv s wh rs rsm L S) (hL : L ≤ 800000) (bl : List UInt8) (hk : okR bl) (g : Nat) (hg : W.heap[g]? = some (.cells (byC bl).toArray 5 (0, 0))) (hn : tv.ownBlock ≠ some g) (hs : sf ≤ rsm.length) :
    Calls Try.prog 20 #[.pointer (some ⟨lb, 0, none⟩), .slice (some ⟨g, 0, none⟩) bl.length bl.length] W fun e w' => (e = .returned (.tuple #[.int .i64 (rs.length : Int), .nilIface]) ∧ Hid (∃ cv' D' tv' wv' s' wh', Kg w w' p nb sb cv' D' lb tv' wv' s' wh' (rs ++ [bl]) rsm (L + 299) S ∧ D'.fail = D.fail ∧ LKeep w.heap.size lb tv wv tv' wv' W w')) ∨
      ∃ c : Int, c ≠ 0 ∧ (D.fail ≥ 0 ∨ 2280 < (enc rs).length + bl.length + 2) ∧ e = .returned (.tuple #[.int .i64 0, enE c]) ∧ Hid (Kx w w' p nb sb (rs ++ [bl]) sf (L + 299) S ∧ ∃ tv' wv', LKeep w.heap.size lb tv wv tv' wv' W w') := by
  obtain ⟨P0, rs0, wh0, hI⟩ := h.I
  obtain ⟨l1, l2, l3⟩ := hI.len
  have hcnt : s.cnt = rs.length := hI.cnt
  by_cases hb : apBad 40 s (enc rs) bl.length = 0
  · obtain ⟨b1, b2, b3, b4⟩ := apBad_zero hb
    obtain ⟨g1, ⟨m, hm, g3⟩, g4, g5, g6⟩ := hI.grows h.lo hk b4
    have hrl := enc_len_ge rs
    have hbk : ∀ U : World, (∀ b, b < W.heap.size → tv.ownBlock ≠ some b → U.heap[b]? = W.heap[b]?) → W.heap.size ≤ U.heap.size → IsBy U (some ⟨g, 0, none⟩) bl bl.length := fun U h1 h2 => by
      have hgl := (Array.getElem?_eq_some_iff.1 hg).1
      have e := (h1 g hgl hn).trans hg
      refine ⟨Nat.le_refl _, .inr ⟨g, 0, rfl, by omega, fun k hk => ?_⟩⟩
      rw [Nat.zero_add, cell_of_row _ _ _ _ _ (0, 0) e]
      simp [byC, hk]
    refine (append_good h.A (by omega) l1 (some ⟨g, 0, none⟩) bl bl.length hbk (.inr (by simp)) hb hI.bg (h.lim.mono (by omega)) (by omega) (by omega) g1).mono ?_
    rintro e w' ⟨h1, h2⟩
    rcases g6 with ⟨e0, g6⟩ | ⟨e7, g6⟩
    · left
      obtain ⟨rfl, cv', tv', wv', h3, h4⟩ := h1 e0
      have h3' := h3.out
      rw [apT_enc] at h3' g3 g4 g5 g6
      refine ⟨by rw [hcnt], cv', _, tv', wv', _, _, ⟨h3', ⟨P0, rs0, wh0, g6⟩, g4, (g3.lim h.lim).mono (by omega), g3.head h.hd, ?_⟩, g3.fail, h4.out⟩
      show (wrT 0 (enc (rs ++ [bl])) (enc rs) s wh D).2.1.sit ≤ S
      rw [g5]; exact h.sit
    · right
      obtain ⟨rfl, cv', wv', h3, h4⟩ := h2 e7
      have hfl : D.fail ≥ 0 := by
        by_cases hf : D.fail < 0
        · have := (hI.grow h.lo hf hk b4).2.1
          omega
        · omega
      refine ⟨7, by decide, .inl hfl, rfl, ⟨cv', _, _, _, P0, rs0, wh0, rs, rs ++ [bl], rsm, h3.out.tn, g6, List.prefix_refl _, hs, g3.head h.hd, (g3.lim h.lim).mono (by omega), ?_⟩, tv, wv', h4.out⟩
      show (wrT 0 (apT (enc rs) bl) (enc rs) s wh D).2.1.sit ≤ S
      rw [g5]; exact h.sit
  · refine (append_bad h.A (by omega) l1 (some ⟨g, 0, none⟩) bl.length bl.length (by have := hk.2; omega) hb).mono ?_
    rintro e w' ⟨rfl, hbl⟩
    right
    have hroom : 2280 < (enc rs).length + bl.length + 2 := by
      by_cases hx : 2280 < (enc rs).length + bl.length + 2
      · exact hx
      · refine absurd ?_ hb
        have h1 := hk.1
        have h2 := hk.2
        unfold apBad
        rw [if_neg (by rw [h.lo]; decide), if_neg (by omega), if_neg (by omega)]
    refine ⟨_, hb, .inr hroom, rfl, ⟨cv, D, s, wh, P0, rs0, wh0, rs, rs, rsm, h.A.tn.below hbl, hI, List.prefix_append _ _, hs, h.hd, h.lim.mono (by omega), h.sit⟩, tv, wv, LKeep.of_below hbl⟩
/-- Sync, whatever the disk does. -/
theorem Kg.sync (h : Kg w W p nb sb cv D lb tv wv s wh rs rsm L S) (hL : L ≤ 800000) (hs : sf ≤ rsm.length) :
    Calls Try.prog 21 #[.pointer (some ⟨lb, 0, none⟩)] W fun e w' => (e = .returned .nilIface ∧ Hid (∃ cv' D' s', Kg w w' p nb sb cv' D' lb tv wv s' wh rs rs (L + 299) S ∧ D'.fail = D.fail ∧ LKeep w.heap.size lb tv wv tv wv W w')) ∨
      (e = .returned (enE 7) ∧ D.fail ≥ 0 ∧ Hid (Kx w w' p nb sb rs sf (L + 299) S ∧ LKeep w.heap.size lb tv wv tv wv W w')) := by
  obtain ⟨P0, rs0, wh0, hI⟩ := h.I
  obtain ⟨⟨m, hm, g3⟩, g5, g6⟩ := hI.firms h.lo
  refine (sync_any h.A (hI.bounds h.lo (by omega)) (h.lim.mono (by omega))).mono ?_
  rintro e w' ⟨rfl, cv', h3, h4⟩
  rcases g6 with ⟨e0, g7, g6⟩ | ⟨e7, g6⟩
  · left
    rw [e0, enE_zero]
    exact ⟨rfl, cv', _, _, ⟨h3.out, ⟨P0, rs0, wh0, g6⟩, g7, (g3.lim h.lim).mono (by omega), g3.head h.hd, by rw [g5]; exact h.sit⟩, g3.fail, h4.out.widen tv⟩
  · right
    rw [e7]
    refine ⟨rfl, ?_, ⟨cv', _, _, _, P0, rs0, wh0, rs, rs, rsm, h3.out.tn, g6, List.prefix_refl _, hs, g3.head h.hd, (g3.lim h.lim).mono (by omega), by rw [g5]; exact h.sit⟩, h4.out.widen tv⟩
    by_cases hf : D.fail < 0
    · have := (hI.firm h.lo hf).1
      omega
    · omega
theorem Kx.crash (h : Kx w W p nb sb all sf L S) (hL : L ≤ 900000) (hS : S < 65000) (a : Option Addr) (keep : List Int) (cap : Nat) (torn : Int) (hkl : keep.length ≤ 9223372036854775807) (hin : IsIn W a keep cap) :
    Calls Try.prog 11 #[.pointer (some ⟨p, 0, none⟩), .slice a keep.length cap, .int .i64 torn] W fun e w' => e = .returned (.tuple #[]) ∧ Hid (Ky w w' p nb sb all sf S) ∧ Hid (Keeps w.heap.size dkT W w') := by
  obtain ⟨cv, D, s, wh, P0, rs0, wh0, rs1, rsA, rsm, h1, h2, h3, h4, h5, h6, h7⟩ := h
  refine (tn_crash h1 a keep cap torn (by have := h6.c; omega) hkl hin).mono ?_
  rintro e w' ⟨rfl, t, k⟩
  obtain ⟨rs', r1, r2, r3, r4, r5⟩ := h2.reopen (D' := D.crash keep torn) (mk := markL keep D.chg.length) (torn := torn) (by omega) rfl rfl rfl t.out.1.ok.nowL
  exact ⟨rfl, ⟨_, _, rs', t.out, r2.trans h3, Nat.le_trans h4 r1.length_le, r3, Nat.le_trans r4 h7, r5, h5.crash (mk := markL keep D.chg.length) (torn := torn) rfl rfl rfl, by show (-1 : Int) < 0; decide, ⟨Nat.zero_le _, Nat.zero_le _⟩⟩, k⟩
theorem Ky.open_ (h : Ky w W p nb sb all sf S) :
    Calls Try.prog 37 #[.pointer (some ⟨p, 0, none⟩), .int .i64 0, .int .i64 40] W fun e w' => ∃ lb, e = .returned (.tuple #[.pointer (some ⟨lb, 0, none⟩), .nilIface]) ∧ Hid (∃ cv D tv wv s wh rs', Kg w w' p nb sb cv D lb tv wv s wh rs' rs' 10 (S + 1) ∧ rs' <+: all ∧ sf ≤ rs'.length ∧ D.fail < 0 ∧ Below W.heap.size W w' ∧ ∀ g, tv.ownBlock = some g → W.heap.size ≤ g) := by
  obtain ⟨cv, D, rs', h1, h2, h3, h4, h5, h6, h7, h8, h9⟩ := h
  refine (openL_ok h1 0 40 1 (by omega) (by omega) (by omega) h7.1 (by omega) (by omega)).mono ?_
  rintro e w' ⟨lb, rfl, tv, wv, rs, o⟩
  have hrs : rs = rs' := by rw [← h4]; exact o.out.rc
  subst hrs
  exact ⟨lb, rfl, cv, D, tv, wv, _, _, rs, ⟨o.out.lgAt h1.2.size, ⟨_, _, _, h6⟩, rfl, h9, h7, by show newestF 1 _ + 1 ≤ S + 1; omega⟩, h2, h3, h8, o.out.bel, fun g e => (ownsRow_in o.out.tx e).1⟩
end
/-- One of them. -/
theorem RsRow.cell {W : World} {n : Nat} {v : Value} {rs : List (List UInt8)} (h : RsRow W n v rs) (k : Nat) (hk : k < rs.length) : ∃ g cap xa xc, v = .slice (some ⟨g, 0, none⟩) rs.length cap ∧ W.cell? ⟨g, k, none⟩ = some (.slice xa (rs.getD k []).length xc) ∧ IsBy W xa (rs.getD k []) xc := by
  obtain ⟨vs, h1, h2, h3⟩ := h
  obtain ⟨xa, xc, ex, hx⟩ := (h3 k hk).isBy
  rcases h2.2 with ⟨hv, h0⟩ | ⟨g, cap, cur, rfl, hb, hg, hc, hm, hs, ht⟩
  · omega
  · refine ⟨g, cap, xa, xc, rfl, ?_, hx⟩
    rw [cell_of_row W g k _ _ (0, 0) hg, ← ex]
    have e : vs[k]? = cur[k]? := by
      rw [← ht, List.getElem?_take, if_pos (by omega)]
      simp
    rw [← e, List.getD_eq_getElem?_getD, List.getElem?_eq_getElem (by omega)]
    rfl
end Go.Proofs.Ytijjegkkeigeoaa

namespace Go.Proofs.Ytijjegkkeigeoaa
set_option linter.unusedVariables false
set_option linter.unusedSimpArgs false
set_option maxRecDepth 100000
open Go.RowKit Go.Lib

/-- The log of a formatted disk, between its calls. -/
structure KpW (w W : World) (p nb sb : Nat) (cv : Value) (n : Nat) (D : Dk) (lb : Nat) (tv wv : Value) (s : Ls) (wh : List Nat) (rs rsm : List (List UInt8)) (L S : Nat) : Prop where
  A : LgAt w W p nb sb cv n D lb 1 (n - 1) tv wv s (enc rs) wh
  I : ∃ P0 rs0 wh0, LgI 1 (n - 1) 1 n P0 rs0 wh0 rs rs rsm s wh D
  lo : s.lo = false
  n1 : 150 ≤ n
  n2 : n ≤ 200
  mrk : Hd0 0 ⟨padB kmB, false⟩ D
  hd : Hd0 1 ⟨padB (lhB (n - 1) 1), false⟩ D
  lim : D.lim L
  sit : s.sit ≤ S
section
variable {w W U : World} {p nb sb : Nat} {cv : Value} {n : Nat} {D : Dk} {lb : Nat} {tv wv : Value} {s : Ls} {wh : List Nat} {rs rsm all : List (List UInt8)} {L S sf : Nat}
theorem KpW.below (h : KpW w W p nb sb cv n D lb tv wv s wh rs rsm L S) (hb : Below W.heap.size W U) : KpW w U p nb sb cv n D lb tv wv s wh rs rsm L S := ⟨h.A.below hb, h.I, h.lo, h.n1, h.n2, h.mrk, h.hd, h.lim, h.sit⟩
theorem KpW.x (h : KpW w W p nb sb cv n D lb tv wv s wh rs rsm L S) (ha : rs <+: all) (hs : sf ≤ rsm.length) : KpX n D all sf L S := by
  obtain ⟨P0, rs0, wh0, hI⟩ := h.I
  exact ⟨h.n1, h.n2, h.mrk, h.hd, h.lim, _, _, _, _, _, _, _, _, hI, ha, hs, h.sit⟩
theorem KpW.nums (h : KpW w W p nb sb cv n D lb tv wv s wh rs rsm L S) : s.cnt = rs.length ∧ okL rs ∧ (enc rs).length ≤ (n - 1 - 2) * 60 := by
  obtain ⟨P0, rs0, wh0, hI⟩ := h.I
  exact ⟨hI.cnt, hI.ok, hI.len.1⟩
/-- Append of a record that there is room for, whatever the disk does. -/
theorem KpW.append (h : KpW w W p nb sb cv n D lb tv wv s wh rs rsm L S) (hL : L ≤ 800000) (a : Option Addr) (bl : List UInt8) (c : Nat) (hk : okR bl) (hr : bl.length + 2 ≤ (n - 1 - 2) * 60 - (enc rs).length) (hbk : ∀ U : World, (∀ b, b < W.heap.size → tv.ownBlock ≠ some b → U.heap[b]? = W.heap[b]?) → W.heap.size ≤ U.heap.size → IsBy U a bl c) (hbc : c = 0 ∨ a ≠ none) (hs : sf ≤ rsm.length) :
    Calls Try.prog 20 #[.pointer (some ⟨lb, 0, none⟩), .slice a bl.length c] W fun e w' => (e = .returned (.tuple #[.int .i64 (rs.length : Int), .nilIface]) ∧ Hid (∃ cv' D' tv' wv' s' wh', KpW w w' p nb sb cv' n D' lb tv' wv' s' wh' (rs ++ [bl]) rsm (L + 299) S ∧ D'.fail = D.fail ∧ LKeep w.heap.size lb tv wv tv' wv' W w')) ∨
      (e = .returned (.tuple #[.int .i64 0, enE 7]) ∧ D.fail ≥ 0 ∧ Hid (∃ cv' D' tv' wv', Tn w w' p nb sb cv' n D' ∧ KpX n D' (rs ++ [bl]) sf (L + 299) S ∧ LKeep w.heap.size lb tv wv tv' wv' W w')) := by
  obtain ⟨P0, rs0, wh0, hI⟩ := h.I
  obtain ⟨l1, l2, l3⟩ := hI.len
  have hcnt : s.cnt = rs.length := hI.cnt
  have hn1 := h.n1
  have hn2 := h.n2
  have hb : apBad (n - 1) s (enc rs) bl.length = 0 := by
    have h1 := hk.1
    have h2 := hk.2
    unfold apBad
    rw [if_neg (by rw [h.lo]; decide), if_neg (by omega), if_neg (by omega)]
  obtain ⟨g1, ⟨m, hm, g3⟩, g4, g5, g6⟩ := hI.grows h.lo hk hr
  have hrl := enc_len_ge rs
  refine (append_good h.A (by omega) l1 a bl c hbk hbc hb hI.bg (h.lim.mono (by omega)) (by omega) (by omega) g1).mono ?_
  rintro e w' ⟨h1, h2⟩
  rcases g6 with ⟨e0, g6⟩ | ⟨e7, g6⟩
  · left
    obtain ⟨rfl, cv', tv', wv', h3, h4⟩ := h1 e0
    have h3' := h3.out
    rw [apT_enc] at h3' g3 g4 g5 g6
    refine ⟨by rw [hcnt], cv', _, tv', wv', _, _, ⟨h3', ⟨P0, rs0, wh0, g6⟩, g4, h.n1, h.n2, g3.hd0 (by omega) h.mrk, g3.head h.hd, (g3.lim h.lim).mono (by omega), ?_⟩, g3.fail, h4.out⟩
    show (wrT 1 (enc (rs ++ [bl])) (enc rs) s wh D).2.1.sit ≤ S
    rw [g5]; exact h.sit
  · right
    obtain ⟨rfl, cv', wv', h3, h4⟩ := h2 e7
    have hfl : D.fail ≥ 0 := by
      by_cases hf : D.fail < 0
      · have := (hI.grow h.lo hf hk hr).2.1
        omega
      · omega
    refine ⟨rfl, hfl, cv', _, tv, wv', h3.out.tn, ⟨h.n1, h.n2, g3.hd0 (by omega) h.mrk, g3.head h.hd, (g3.lim h.lim).mono (by omega), _, _, P0, rs0, wh0, rs, rs ++ [bl], rsm, g6, List.prefix_refl _, hs, ?_⟩, h4.out⟩
    show (wrT 1 (apT (enc rs) bl) (enc rs) s wh D).2.1.sit ≤ S
    rw [g5]; exact h.sit
/-- Sync, whatever the disk does. -/
theorem KpW.sync (h : KpW w W p nb sb cv n D lb tv wv s wh rs rsm L S) (hL : L ≤ 800000) (hs : sf ≤ rsm.length) :
    Calls Try.prog 21 #[.pointer (some ⟨lb, 0, none⟩)] W fun e w' => (e = .returned .nilIface ∧ Hid (∃ cv' D', Tn w w' p nb sb cv' n D' ∧ KpD n D' rs (L + 299) S ∧ D'.fail = D.fail ∧ LKeep w.heap.size lb tv wv tv wv W w')) ∨
      (e = .returned (enE 7) ∧ D.fail ≥ 0 ∧ Hid (∃ cv' D', Tn w w' p nb sb cv' n D' ∧ KpX n D' rs sf (L + 299) S ∧ LKeep w.heap.size lb tv wv tv wv W w')) := by
  obtain ⟨P0, rs0, wh0, hI⟩ := h.I
  obtain ⟨⟨m, hm, g3⟩, g5, g6⟩ := hI.firms h.lo
  have hsy := (hI.sync h.lo _ rfl).1
  have hn1 := h.n1
  have hn2 := h.n2
  refine (sync_any h.A (hI.bounds h.lo (by omega)) (h.lim.mono (by omega))).mono ?_
  rintro e w' ⟨rfl, cv', h3, h4⟩
  rcases g6 with ⟨e0, g7, g6⟩ | ⟨e7, g6⟩
  · left
    obtain ⟨_, _, hch⟩ := hsy e0
    rw [e0, enE_zero]
    exact ⟨rfl, cv', _, h3.out.tn, kpD_firm h.n1 h.n2 (g3.hd0 (by omega) h.mrk) (g3.head h.hd) ((g3.lim h.lim).mono (by omega)) g6 (by rw [g5]; exact h.sit) hch, g3.fail, h4.out.widen tv⟩
  · right
    rw [e7]
    refine ⟨rfl, ?_, cv', _, h3.out.tn, ⟨h.n1, h.n2, g3.hd0 (by omega) h.mrk, g3.head h.hd, (g3.lim h.lim).mono (by omega), _, _, P0, rs0, wh0, rs, rs, rsm, g6, List.prefix_refl _, hs, by rw [g5]; exact h.sit⟩, h4.out.widen tv⟩
    by_cases hf : D.fail < 0
    · have := (hI.firm h.lo hf).1
      omega
    · omega
theorem KpX.crash (h : KpX n D all sf L S) (hT : Tn w W p nb sb cv n D) (hL : L ≤ 900000) (a : Option Addr) (keep : List Int) (cap : Nat) (torn : Int) (hkl : keep.length ≤ 9223372036854775807) (hin : IsIn W a keep cap) :
    Calls Try.prog 11 #[.pointer (some ⟨p, 0, none⟩), .slice a keep.length cap, .int .i64 torn] W fun e w' => e = .returned (.tuple #[]) ∧ Hid (∃ cv' D' rs', Tn w w' p nb sb cv' n D' ∧ KpD n D' rs' 10 S ∧ rs' <+: all ∧ sf ≤ rs'.length ∧ D'.fail < 0) ∧ Hid (Keeps w.heap.size dkT W w') := by
  refine (tn_crash hT a keep cap torn (by have := h.lim.c; omega) hkl hin).mono ?_
  rintro e w' ⟨rfl, t, k⟩
  obtain ⟨rs', r1, r2, r3⟩ := h.crashed (D' := D.crash keep torn) (mk := markL keep D.chg.length) (torn := torn) rfl rfl rfl t.out.1.ok.nowL ⟨Nat.zero_le _, Nat.zero_le _⟩
  exact ⟨rfl, ⟨_, _, rs', t.out, r1, r2, r3, by show (-1 : Int) < 0; decide⟩, k⟩
/-- The log is opened. -/
theorem KpD.open_ (h : KpD n D rs L S) (hT : Tn w W p nb sb cv n D) (hS : S < 65000) :
    Calls Try.prog 37 #[.pointer (some ⟨p, 0, none⟩), .int .i64 1, .int .i64 ((n - 1 : Nat) : Int)] W fun e w' => ∃ lb, e = .returned (.tuple #[.pointer (some ⟨lb, 0, none⟩), .nilIface]) ∧ Hid (∃ tv wv s wh, KpW w w' p nb sb cv n D lb tv wv s wh rs rs L (S + 1) ∧ Below W.heap.size W w' ∧ W.heap.size ≤ lb ∧ (∀ g, tv.ownBlock = some g → W.heap.size ≤ g) ∧ ∀ g, wv.ownBlock = some g → W.heap.size ≤ g) := by
  have hn1 := h.n1
  have hn2 := h.n2
  have hnw := h.nw
  refine (openL_ok hT 1 (n - 1) 1 (by omega) (by omega) (by omega) h.hd.1 (by omega) (by omega)).mono ?_
  rintro e w' ⟨lb, rfl, tv, wv, rs1, o⟩
  have hrs : rs1 = rs := by rw [← h.ri.good.rc]; exact o.out.rc
  subst hrs
  exact ⟨lb, rfl, tv, wv, _, _, ⟨o.out.lgAt hT.2.size, ⟨_, _, _, h.lgi hS⟩, rfl, h.n1, h.n2, h.mrk, h.hd, h.lim, by show newestF 1 _ + 1 ≤ S + 1; omega⟩, o.out.bel, o.out.llb, fun g e => (ownsRow_in o.out.tx e).1, fun g e => (ownsRow_in o.out.wh e).1⟩
/-- What a log's calls keep, seen from ahead of its Open. -/
theorem LKeep.keeps {tv' wv' : Value} {V : World} (hb : Below V.heap.size V W) (hl : V.heap.size ≤ lb) (ht : ∀ g, tv.ownBlock = some g → V.heap.size ≤ g) (hw : ∀ g, wv.ownBlock = some g → V.heap.size ≤ g) (k : LKeep w.heap.size lb tv wv tv' wv' W U) : Keeps w.heap.size dkT V U := by
  refine ⟨k.os.trans hb.os, k.tape.trans hb.tape, k.output.trans hb.output, Nat.le_trans hb.size k.size, fun b hbl h => ?_⟩
  refine (k.block b (by have := hb.size; omega) ?_).trans (hb.block b hbl)
  rcases h with h | h
  · exact .inl h
  · refine .inr ⟨by omega, fun e => ?_, fun e => ?_, fun cs t fr e => ?_⟩
    · have := ht b e; omega
    · have := hw b e; omega
    · rw [hb.block b hbl] at e
      exact h cs t fr e
end
end Go.Proofs.Ytijjegkkeigeoaa
