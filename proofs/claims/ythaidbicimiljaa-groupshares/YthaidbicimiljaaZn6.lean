/-
  The contracts of math/bits.Len64, LeadingZeros64 and Div64, for every word: the long division of two words by one.
-/
import Derived.Test.YthaidbicimiljaaZn5
import Derived.Maps.OwnOps
import Derived.Deep.RegionHeld3
import Derived.OwnWalk
import Derived.Test.YthaidbicimiljaaRows
import Derived.Test.YthaidbicimiljaaZn3
import Derived.WalkKit
import Derived.WalkSpells
import Derived.Laws.Bits64b
import Derived.Lib.Strings
import Derived.Lib.Slices
import Derived.Lib.Small
import Derived.Lib.Walk
import Derived.Lib.BitFns
import Derived.Lib.Tables
import Derived.Lib.ItoaNum
import Derived.Deep.QuietTactic
import Derived.BigQuiet
import Derived.Below
namespace Go.Proofs.Ythaidbicimiljaa
set_option linter.unusedVariables false
open Go.RowKit Go.Lib Go.Maps

/-- A rate of nothing. -/
def rt0 : Rt := ⟨ByteArray.empty, ByteArray.empty, 0, 0, 0⟩

theorem make_tab (n : Int) (w : World) : (Instr.makeMap 104 (some (.int .i64 n))).run Try.prog w = .ok (.map (some w.heap.size)) (w.alloc (.map #[] 0)) := by
  simp [Instr.makeMap, run_underlying Try.underlying104, asInt, asIntOf, Result.andThen]

/-- What a table's call hands back. -/
def TabEnd (w : World) (S : Int × DataW Unit) (e : Ending) (w' : World) : Prop :=
  Below w.heap.size w w' ∧ (S.1 ≠ 0 → e = .returned (.tuple #[.map none, errV S.1])) ∧ (S.1 = 0 → ∃ b, e = .returned (.tuple #[.map (some b), .nilIface]) ∧ w.heap.size ≤ b ∧ TabAt w' b 200 S.2)

theorem table_full (a : Option Addr) (len cap : Nat) (rs : List Rt) (w : World) (hl : rs.length = len) (h : 100 < len) :
    Calls Try.prog 68 #[.slice a len cap] w (TabEnd w (tabS rs)) := by
  have h' : (100 : Int) < len := by omega
  rw [tabS_full (by omega)]
  go_enter Try.func68, Try.ntmps68
  go_wp2
  go_ret2
  exact ⟨Below.refl _ _, fun _ => rfl, fun h => by cases h⟩

theorem table_none (a : Option Addr) (cap : Nat) (w : World) :
    Calls Try.prog 68 #[.slice a 0 cap] w (TabEnd w (tabS [])) := by
  have hmm := make_tab
  go_enter Try.func68, Try.ntmps68
  go_wp2
  refine wp_loop_rounds 1 ?_
  rw [rounds_succ]
  go_wp2
  go_ret2
  exact ⟨(Below.refl _ _).alloc (Nat.le_refl _) _, fun h => absurd rfl h, fun _ => ⟨_, rfl, Nat.le_refl _, (World.ownsMap_made _ _ _ _).mono (by omega)⟩⟩

/-- A key at a block. -/
structure PairAt (w : World) (b : Nat) (f t : ByteArray) (p : Int) : Prop where
  c0 : w.cell? ⟨b, 0, none⟩ = some (.string f)
  c1 : w.cell? ⟨b, 1, none⟩ = some (.string t)
  c2 : w.cell? ⟨b, 2, none⟩ = some (.int .i64 p)
theorem PairAt.new (w : World) (f t : ByteArray) (p : Int) (T : TypeId) : PairAt (w.alloc (.cells #[.string f, .string t, .int .i64 p] T)) w.heap.size f t p := ⟨by simp, by simp, by simp⟩
theorem PairAt.below {w w' : World} {b n : Nat} {f t : ByteArray} {p : Int} (h : PairAt w b f t p) (hb : Below n w w') (hn : b < n) : PairAt w' b f t p :=
  ⟨(hb.cell (p := ⟨b, 0, none⟩) hn).trans h.c0, (hb.cell (p := ⟨b, 1, none⟩) hn).trans h.c1, (hb.cell (p := ⟨b, 2, none⟩) hn).trans h.c2⟩

/-- What is there behind both keys' making. -/
structure Keys2 (w W : World) (N c B8 B9 n : Nat) (D : DataW Unit) (r : Rt) : Prop where
  at8 : PairAt W B8 r.frm r.dst r.per
  at9 : PairAt W B9 r.dst r.frm r.per
  rt : RtAt W c 0 r
  tab : TabAt W N n D
  bel : Below N w W
  l8 : B8 < W.heap.size
  l9 : B9 < W.heap.size
  lc : c < W.heap.size
  n8 : N < B8
  n9 : N < B9
  nc : N < c

theorem keys2_of {w wr w1 : World} {n : Nat} {D : DataW Unit} {r : Rt} {T : TypeId} (hb : Below (wr.heap.size + 1) (wr.alloc (.cells r.cells T)) w1) (ht : TabAt wr w.heap.size n D) (hw : Below w.heap.size w wr) (T2 : TypeId) :
    Keys2 w ((w1.alloc (.cells #[.string r.frm, .string r.dst, .int .i64 r.per] T2)).alloc (.cells #[.string r.dst, .string r.frm, .int .i64 r.per] T2)).drew w.heap.size wr.heap.size w1.heap.size (w1.heap.size + 1) n D r ∧
    Keys2 w ((w1.alloc (.cells #[.string r.dst, .string r.frm, .int .i64 r.per] T2)).alloc (.cells #[.string r.frm, .string r.dst, .int .i64 r.per] T2)).drew w.heap.size wr.heap.size (w1.heap.size + 1) w1.heap.size n D r := by
  have hlt := ht.lt
  have h1 : wr.heap.size + 1 ≤ w1.heap.size := by have := hb.size; simpa using this
  have t0 : TabAt (wr.alloc (.cells r.cells T)) w.heap.size n D := ht.alloc _
  have t1 : TabAt w1 w.heap.size n D := by
    obtain ⟨es, clock, q1, q2⟩ := t0
    exact ⟨es, clock, (hb.block _ (by omega)).trans q1, q2⟩
  have r1 : RtAt w1 wr.heap.size 0 r := (RtAt.new wr r T).below hb (by omega)
  have B1 : Below w.heap.size w w1 := (hw.alloc (by omega) _).trans (hb.mono (by omega))
  have gen : ∀ (o1 o2 : Obj), TabAt ((w1.alloc o1).alloc o2).drew w.heap.size n D ∧ RtAt ((w1.alloc o1).alloc o2).drew wr.heap.size 0 r ∧ Below w.heap.size w ((w1.alloc o1).alloc o2).drew ∧ ((w1.alloc o1).alloc o2).drew.heap.size = w1.heap.size + 2 := fun o1 o2 => by
    have B2 : Below w1.heap.size w1 ((w1.alloc o1).alloc o2).drew := (((Below.refl _ _).alloc (Nat.le_refl _) o1).alloc (by simp) o2).drew
    exact ⟨((t1.alloc o1).alloc o2).drew, r1.below B2 (by omega), B1.trans (B2.mono (by omega)), by simp⟩
  have two : ∀ (f t f' t' : ByteArray) (p p' : Int), PairAt ((w1.alloc (.cells #[.string f, .string t, .int .i64 p] T2)).alloc (.cells #[.string f', .string t', .int .i64 p'] T2)).drew w1.heap.size f t p ∧
      PairAt ((w1.alloc (.cells #[.string f, .string t, .int .i64 p] T2)).alloc (.cells #[.string f', .string t', .int .i64 p'] T2)).drew (w1.heap.size + 1) f' t' p' := fun f t f' t' p p' => by
    constructor
    · exact (PairAt.new w1 f t p T2).below ((Below.refl _ _).alloc (Nat.le_refl _) _).drew (by simp)
    · have := PairAt.new (w1.alloc (.cells #[.string f, .string t, .int .i64 p] T2)) f' t' p' T2
      rw [show (w1.alloc (.cells #[.string f, .string t, .int .i64 p] T2)).heap.size = w1.heap.size + 1 by simp] at this
      exact ⟨this.c0, this.c1, this.c2⟩
  constructor
  · obtain ⟨g1, g2, g3, g4⟩ := gen (.cells #[.string r.frm, .string r.dst, .int .i64 r.per] T2) (.cells #[.string r.dst, .string r.frm, .int .i64 r.per] T2)
    obtain ⟨p1, p2⟩ := two r.frm r.dst r.dst r.frm r.per r.per
    exact ⟨p1, p2, g2, g1, g3, by omega, by omega, by omega, by omega, by omega, by omega⟩
  · obtain ⟨g1, g2, g3, g4⟩ := gen (.cells #[.string r.dst, .string r.frm, .int .i64 r.per] T2) (.cells #[.string r.frm, .string r.dst, .int .i64 r.per] T2)
    obtain ⟨p1, p2⟩ := two r.dst r.frm r.frm r.dst r.per r.per
    exact ⟨p2, p1, g2, g1, g3, by omega, by omega, by omega, by omega, by omega, by omega⟩

/-- The cells that both stores read. -/
def Reads2 (B8 B9 c : Nat) (f t : ByteArray) (p n d : Int) (x : World) : Prop :=
  (x.cell? ⟨B8, 0, none⟩ = some (.string f) ∧ x.cell? ⟨B8, 1, none⟩ = some (.string t) ∧ x.cell? ⟨B8, 2, none⟩ = some (.int .i64 p)) ∧
  (x.cell? ⟨B9, 0, none⟩ = some (.string t) ∧ x.cell? ⟨B9, 1, none⟩ = some (.string f) ∧ x.cell? ⟨B9, 2, none⟩ = some (.int .i64 p)) ∧
  x.cell? ⟨c, 3, none⟩ = some (.int .i64 n) ∧ x.cell? ⟨c, 4, none⟩ = some (.int .i64 d)

theorem reads2_of {w W : World} {N c B8 B9 k : Nat} {D : DataW Unit} {r : Rt} (h : Keys2 w W N c B8 B9 k D r) : Reads2 B8 B9 c r.frm r.dst r.per r.num r.den W := by
  obtain ⟨a0, a1, a2⟩ := h.at8
  obtain ⟨b0, b1, b2⟩ := h.at9
  obtain ⟨c0, c1, c2, c3, c4⟩ := h.rt
  simp only [Nat.zero_add] at c3 c4
  exact ⟨⟨a0, a1, a2⟩, ⟨b0, b1, b2⟩, c3, c4⟩

theorem reads2_grown {x y : World} {N c B8 B9 : Nat} {f t : ByteArray} {p n d : Int} (h : Reads2 B8 B9 c f t p n d x) (hg : x.grownBy y (some N)) (h8 : B8 < x.heap.size ∧ N < B8) (h9 : B9 < x.heap.size ∧ N < B9) (hc : c < x.heap.size ∧ N < c) : Reads2 B8 B9 c f t p n d y := by
  have g : ∀ b o, b < x.heap.size ∧ N < b → y.cell? ⟨b, o, none⟩ = x.cell? ⟨b, o, none⟩ := fun b o hb =>
    World.cell?_of_block (w := x) (a := ⟨b, o, none⟩) (hg.block b hb.1 (fun e => by cases e; omega))
  unfold Reads2
  rw [g B8 0 h8, g B8 1 h8, g B8 2 h8, g B9 0 h9, g B9 1 h9, g B9 2 h9, g c 3 hc, g c 4 hc]
  exact h

theorem keys2_alloc {w W : World} {N c B8 B9 k : Nat} {D : DataW Unit} {r : Rt} (h : Keys2 w W N c B8 B9 k D r) (o : Obj) : Keys2 w (W.alloc o).drew N c B8 B9 k D r := by
  have B : Below W.heap.size W (W.alloc o).drew := ((Below.refl _ _).alloc (Nat.le_refl _) _).drew
  have sz : (W.alloc o).drew.heap.size = W.heap.size + 1 := by simp
  exact ⟨h.at8.below B h.l8, h.at9.below B h.l9, h.rt.below B h.lc, (h.tab.alloc o).drew, h.bel.trans (B.mono (by have := h.tab.lt; omega)), by have := h.l8; omega, by have := h.l9; omega, by have := h.lc; omega, h.n8, h.n9, h.nc⟩

theorem put2 {w W : World} {N c B8 B9 k : Nat} {D : DataW Unit} {f t : ByteArray} {p n d : Int} (h : Keys2 w W N c B8 B9 k D ⟨f, t, p, n, d⟩) (hk : k + 1 < maxLen)
    (h1 : keyOf Try.prog 112 (pairV f t p) = some (keyL f t p)) (h2 : keyOf Try.prog 112 (pairV t f p) = some (keyL t f p)) :
    ∃ w3 w4, (Instr.mapUpdate 104 (.map (some N)) (.agg #[.string f, .string t, .int .i64 p]) (.agg #[.int .i64 n, .int .i64 d])).run Try.prog W = .ok () w3 ∧
      (Instr.mapUpdate 104 (.map (some N)) (.agg #[.string t, .string f, .int .i64 p]) (.agg #[.int .i64 d, .int .i64 n])).run Try.prog w3 = .ok () w4 ∧
      Reads2 B8 B9 c f t p n d W ∧ Reads2 B8 B9 c f t p n d w3 ∧ Reads2 B8 B9 c f t p n d w4 ∧ TabAt w4 N (k + 1 + 1) (tabPut D ⟨f, t, p, n, d⟩) ∧ Below N w w4 := by
  have hlt := h.tab.lt
  obtain ⟨w3, q1, t3, g3⟩ := h.tab.update pair_law Try.underlying104 (by omega) h1 (worthR_mk n d)
  obtain ⟨w4, q2, t4, g4⟩ := t3.update pair_law Try.underlying104 hk h2 (worthR_mk d n)
  have R0 := reads2_of h
  have s3 := g3.size
  have l8 := h.l8
  have l9 := h.l9
  have lc := h.lc
  have R3 := reads2_grown R0 g3 ⟨l8, h.n8⟩ ⟨l9, h.n9⟩ ⟨lc, h.nc⟩
  have R4 := reads2_grown R3 g4 ⟨by omega, h.n8⟩ ⟨by omega, h.n9⟩ ⟨by omega, h.nc⟩
  have B3 := h.bel.grown g3 (by omega) (fun k e => by cases e; exact Nat.le_refl _)
  have B4 := B3.grown g4 (by omega) (fun k e => by cases e; exact Nat.le_refl _)
  exact ⟨w3, w4, q1, q2, R0, R3, R4, t4, B4⟩

theorem drop_get (l : List Rt) (k : Nat) (h : k < l.length) : l.drop k = l.getD k rt0 :: l.drop (k + 1) := by
  rw [List.drop_eq_getElem_cons h, List.getD_eq_getElem?_getD, List.getElem?_eq_getElem h]
  rfl

set_option maxRecDepth 100000 in
set_option maxHeartbeats 2000000 in
theorem table_some (b off cap : Nat) (rs : List Rt) (w : World) (hb : b < w.heap.size) (hlen : rs.length ≤ 100) (hcap : rs.length ≤ cap)
    (hc : ∀ k, k < rs.length → RtAt w b (off + k * 5) (rs.getD k rt0)) (hsz : ∀ k, k < rs.length → (rs.getD k rt0).frm.size ≤ maxLen ∧ (rs.getD k rt0).dst.size ≤ maxLen) (hp : ∀ k, k < rs.length → (Lit.int .i64 (rs.getD k rt0).per).wf = true) :
    Calls Try.prog 68 #[.slice (some ⟨b, off, none⟩) rs.length cap] w (TabEnd w (tabS rs)) := by
  have hmm := make_tab
  have Hlen : (rs.length : Int) ≤ 100 := by omega
  have Hc : Hid (∀ k, k < rs.length → RtAt w b (off + k * 5) (rs.getD k rt0)) := hc
  have Hs : Hid (∀ k, k < rs.length → (rs.getD k rt0).frm.size ≤ maxLen ∧ (rs.getD k rt0).dst.size ≤ maxLen) := hsz
  have Hp : Hid (∀ k, k < rs.length → (Lit.int .i64 (rs.getD k rt0).per).wf = true) := hp
  clear hc hsz hp
  go_enter Try.func68, Try.ntmps68
  go_wp2
  go_loopw [22] (fun i wr => ∃ (k : Nat) (D : DataW Unit), k ≤ rs.length ∧ i = .int .i64 k ∧ Hid (TabAt wr w.heap.size (2 * k) D ∧ Below w.heap.size w wr ∧ tabGo D (rs.drop k) = tabS rs)) (fun i _ => rs.length - (RowKit.intOf i).toNat)
  case atStart => exact ⟨0, .map [], Nat.zero_le _, rfl, World.ownsMap_made _ _ _ _, (Below.refl _ _).alloc (Nat.le_refl _) _, by rw [tabS_go (by omega)]; rfl⟩
  case round =>
    obtain ⟨k, D, hk, rfl, H⟩ := hrel
    by_cases hlt : k < rs.length
    · have hn := (Hc.out k hlt).below H.out.2.1 hb
      obtain ⟨r, hr⟩ : ∃ r, rs.getD k rt0 = r := ⟨_, rfl⟩
      rw [hr] at hn
      obtain ⟨f, t, p, n, d⟩ := r
      obtain ⟨c0, c1, c2, c3, c4⟩ := hn
      simp only at c0 c1 c2 c3 c4
      have i0 : (0 : Int) ≤ k := by omega
      have i1 : (k : Int) < rs.length := by omega
      go_wp2_with fail
      refine (rtCheck_any ⟨f, t, p, n, d⟩ _).mono ?_
      rintro e w1 ⟨rfl, hb1⟩
      have hw1 : wr.heap.size + 1 ≤ w1.heap.size := by have := hb1.size; simpa using this
      have hn1 := (RtAt.new wr ⟨f, t, p, n, d⟩ 118).below hb1 (by simp)
      have hb1' : Below (wr.heap.size + 1) (wr.alloc (.cells (Rt.cells ⟨f, t, p, n, d⟩) 118)) w1 := hb1.mono (by simp)
      have K2 : Hid (_ ∧ _) := keys2_of hb1' H.out.1 H.out.2.1 112
      have B1 := (H.out.2.1.alloc (by have := H.out.1.lt; omega) (.cells (Rt.cells ⟨f, t, p, n, d⟩) 118)).trans (hb1'.mono (by have := H.out.1.lt; omega))
      have HB1 : Hid (Below w.heap.size w w1) := B1
      clear hb1 hb1' B1 c0 c1 c2 c3 c4
      obtain ⟨c0, c1, c2, c3, c4⟩ := hn1
      simp only [Nat.zero_add] at c0 c1 c2 c3 c4
      have Hr : Hid (rs.getD k rt0 = ⟨f, t, p, n, d⟩) := hr
      clear hr
      by_cases hbad : rateBad ⟨f, t, p, n, d⟩ = 0
      · rw [hbad, errV_zero]
        go_wp2_with fail
        go_region_held3 (fun w' => w'.cell? ⟨wr.heap.size, 0, none⟩ = some (.string f) ∧ w'.cell? ⟨wr.heap.size, 1, none⟩ = some (.string t) ∧ w'.cell? ⟨wr.heap.size, 2, none⟩ = some (.int .i64 p)) (go_keep) (fail)
        · have K := K2.out.1
          clear K2 HB1 hw1
          try dsimp only at K
          generalize ((w1.alloc (.cells #[.string f, .string t, .int .i64 p] 112)).alloc (.cells #[.string t, .string f, .int .i64 p] 112)).drew = W2 at K ⊢
          generalize w1.heap.size + 1 = B9 at K ⊢
          generalize w1.heap.size = B8 at K ⊢
          generalize wr.heap.size = c at K ⊢
          have HK : Hid (Keys2 w W2 w.heap.size c B8 B9 (2 * k) D ⟨f, t, p, n, d⟩) := K
          clear c0 c1 c2 c3 c4
          obtain ⟨⟨a0, a1, a2⟩, ⟨b0, b1, b2⟩, ⟨c0, c1, c2, c3, c4⟩, K4, K5, l8, l9, lc, n8, n9, nc⟩ := K
          simp only [Nat.zero_add] at a0 a1 a2 b0 b1 b2 c0 c1 c2 c3 c4
          clear K4 K5
          have hkey := keyOf_pair (f := f) (t := t) (p := p) (by have := (Hs.out k hlt).1; rw [Hr.out] at this; exact this) (by have := (Hs.out k hlt).2; rw [Hr.out] at this; exact this) (by have := Hp.out k hlt; rw [Hr.out] at this; exact this)
          have hkey2 := keyOf_pair (f := t) (t := f) (p := p) (by have := (Hs.out k hlt).2; rw [Hr.out] at this; exact this) (by have := (Hs.out k hlt).1; rw [Hr.out] at this; exact this) (by have := Hp.out k hlt; rw [Hr.out] at this; exact this)
          have Hkey : Hid (keyOf Try.prog 112 (pairV f t p) = some (keyL f t p)) := hkey
          have Hkey2 : Hid (keyOf Try.prog 112 (pairV t f p) = some (keyL t f p)) := hkey2
          clear hkey hkey2
          cases hh : has D (keyL f t p)
          · go_wp2_with (first | (at_lookup; refine look_worth _ rfl rfl _ _ rfl w.heap.size (2 * k) D rfl HK.out.tab _ _ rfl Hkey.out ?_; intro pp qq hpq) | go_in)
            clear hpq
            obtain ⟨w3, w4, q1, q2, R2, R3, R4, T4, B4⟩ := put2 (keys2_alloc HK.out (.cells #[.int .i64 pp, .int .i64 qq] 109)) (by unfold maxLen; omega) Hkey.out Hkey2.out
            have HT : Hid (TabAt w4 w.heap.size (2 * k + 1 + 1) (tabPut D ⟨f, t, p, n, d⟩) ∧ Below w.heap.size w w4) := ⟨T4, B4⟩
            clear T4 B4
            go_region_held3 (fun x => (x.cell? ⟨B8, 0, none⟩ = some (.string f) ∧ x.cell? ⟨B8, 1, none⟩ = some (.string t) ∧ x.cell? ⟨B8, 2, none⟩ = some (.int .i64 p)) ∧ (x.cell? ⟨B9, 0, none⟩ = some (.string t) ∧ x.cell? ⟨B9, 1, none⟩ = some (.string f) ∧ x.cell? ⟨B9, 2, none⟩ = some (.int .i64 p)) ∧ x.cell? ⟨c, 3, none⟩ = some (.int .i64 n) ∧ x.cell? ⟨c, 4, none⟩ = some (.int .i64 d)) (first | exact R2 | exact R3 | exact R4) (fail)
            go_wp2
            go_roundw
            case rel =>
              refine ⟨k + 1, tabPut D ⟨f, t, p, n, d⟩, by omega, by go_num, HT.out.1, HT.out.2, ?_⟩
              rw [← H.out.2.2, drop_get rs k hlt, Hr.out]
              exact (tabGo_step hbad hh).symm
            case measure => simp [RowKit.intOf]; omega
          · go_wp2_with (first | (at_lookup; refine look_worth _ rfl rfl _ _ rfl w.heap.size (2 * k) D rfl HK.out.tab _ _ rfl Hkey.out ?_; intro pp qq hpq) | go_in)
            go_ret2
            have E : tabS rs = (8, D) := by
              rw [← H.out.2.2, drop_get rs k hlt, Hr.out]
              exact tabGo_clash hbad hh
            rw [E]
            exact ⟨HK.out.bel.alloc (by have := HK.out.tab.lt; omega) _, fun _ => rfl, fun h => by cases h⟩
        · have K := K2.out.2
          clear K2 HB1 hw1
          try dsimp only at K
          generalize ((w1.alloc (.cells #[.string t, .string f, .int .i64 p] 112)).alloc (.cells #[.string f, .string t, .int .i64 p] 112)).drew = W2 at K ⊢
          generalize w1.heap.size + 1 = B8 at K ⊢
          generalize w1.heap.size = B9 at K ⊢
          generalize wr.heap.size = c at K ⊢
          have HK : Hid (Keys2 w W2 w.heap.size c B8 B9 (2 * k) D ⟨f, t, p, n, d⟩) := K
          clear c0 c1 c2 c3 c4
          obtain ⟨⟨a0, a1, a2⟩, ⟨b0, b1, b2⟩, ⟨c0, c1, c2, c3, c4⟩, K4, K5, l8, l9, lc, n8, n9, nc⟩ := K
          simp only [Nat.zero_add] at a0 a1 a2 b0 b1 b2 c0 c1 c2 c3 c4
          clear K4 K5
          have hkey := keyOf_pair (f := f) (t := t) (p := p) (by have := (Hs.out k hlt).1; rw [Hr.out] at this; exact this) (by have := (Hs.out k hlt).2; rw [Hr.out] at this; exact this) (by have := Hp.out k hlt; rw [Hr.out] at this; exact this)
          have hkey2 := keyOf_pair (f := t) (t := f) (p := p) (by have := (Hs.out k hlt).2; rw [Hr.out] at this; exact this) (by have := (Hs.out k hlt).1; rw [Hr.out] at this; exact this) (by have := Hp.out k hlt; rw [Hr.out] at this; exact this)
          have Hkey : Hid (keyOf Try.prog 112 (pairV f t p) = some (keyL f t p)) := hkey
          have Hkey2 : Hid (keyOf Try.prog 112 (pairV t f p) = some (keyL t f p)) := hkey2
          clear hkey hkey2
          cases hh : has D (keyL f t p)
          · go_wp2_with (first | (at_lookup; refine look_worth _ rfl rfl _ _ rfl w.heap.size (2 * k) D rfl HK.out.tab _ _ rfl Hkey.out ?_; intro pp qq hpq) | go_in)
            clear hpq
            obtain ⟨w3, w4, q1, q2, R2, R3, R4, T4, B4⟩ := put2 (keys2_alloc HK.out (.cells #[.int .i64 pp, .int .i64 qq] 109)) (by unfold maxLen; omega) Hkey.out Hkey2.out
            have HT : Hid (TabAt w4 w.heap.size (2 * k + 1 + 1) (tabPut D ⟨f, t, p, n, d⟩) ∧ Below w.heap.size w w4) := ⟨T4, B4⟩
            clear T4 B4
            go_region_held3 (fun x => (x.cell? ⟨B8, 0, none⟩ = some (.string f) ∧ x.cell? ⟨B8, 1, none⟩ = some (.string t) ∧ x.cell? ⟨B8, 2, none⟩ = some (.int .i64 p)) ∧ (x.cell? ⟨B9, 0, none⟩ = some (.string t) ∧ x.cell? ⟨B9, 1, none⟩ = some (.string f) ∧ x.cell? ⟨B9, 2, none⟩ = some (.int .i64 p)) ∧ x.cell? ⟨c, 3, none⟩ = some (.int .i64 n) ∧ x.cell? ⟨c, 4, none⟩ = some (.int .i64 d)) (first | exact R2 | exact R3 | exact R4) (fail)
            go_wp2
            go_roundw
            case rel =>
              refine ⟨k + 1, tabPut D ⟨f, t, p, n, d⟩, by omega, by go_num, HT.out.1, HT.out.2, ?_⟩
              rw [← H.out.2.2, drop_get rs k hlt, Hr.out]
              exact (tabGo_step hbad hh).symm
            case measure => simp [RowKit.intOf]; omega
          · go_wp2_with (first | (at_lookup; refine look_worth _ rfl rfl _ _ rfl w.heap.size (2 * k) D rfl HK.out.tab _ _ rfl Hkey.out ?_; intro pp qq hpq) | go_in)
            go_ret2
            have E : tabS rs = (8, D) := by
              rw [← H.out.2.2, drop_get rs k hlt, Hr.out]
              exact tabGo_clash hbad hh
            rw [E]
            exact ⟨HK.out.bel.alloc (by have := HK.out.tab.lt; omega) _, fun _ => rfl, fun h => by cases h⟩
      · rw [show errV (rateBad ⟨f, t, p, n, d⟩) = .iface 41 (.int .i64 (rateBad ⟨f, t, p, n, d⟩)) from if_neg hbad]
        have E : Hid (tabS rs = (rateBad ⟨f, t, p, n, d⟩, D)) := by
          rw [Hid, ← H.out.2.2, drop_get rs k hlt, Hr.out]
          exact tabGo_bad hbad
        go_wp2
        go_ret2
        rw [E.out]
        exact ⟨HB1.out, fun _ => by rw [show errV (rateBad ⟨f, t, p, n, d⟩) = .iface 41 (.int .i64 (rateBad ⟨f, t, p, n, d⟩)) from if_neg hbad]; rfl, fun h => absurd h hbad⟩
    · have hk2 : k = rs.length := by omega
      subst hk2
      go_wp2
      go_ret2
      have E : tabS rs = (0, D) := by rw [← H.out.2.2, List.drop_length, tabGo_nil]
      rw [E]
      exact ⟨H.out.2.1, fun h => absurd rfl h, fun _ => ⟨_, rfl, Nat.le_refl _, H.out.1.mono (by omega)⟩⟩
end Go.Proofs.Ythaidbicimiljaa

namespace Go.Proofs.Ythaidbicimiljaa
set_option linter.unusedVariables false
open Go.RowKit Go.Lib

theorem divisor_any (a b : Nat) (w : World) (ha : a < 9223372036854775808) (hb : b < 9223372036854775808) :
    Calls Try.prog 82 #[.int .i64 a, .int .i64 b] w fun e w' => e = .returned (.int .i64 (Nat.gcd a b)) ∧ Below w.heap.size w w' := by
  have Hab : Hid (a < 9223372036854775808 ∧ b < 9223372036854775808) := ⟨ha, hb⟩
  clear ha hb
  go_enter Try.func82, Try.ntmps82
  go_wp2
  go_loopw [0, 1] (fun x y wr => ∃ u v : Nat, x = .int .i64 u ∧ y = .int .i64 v ∧ Hid (u < 9223372036854775808 ∧ v < 9223372036854775808 ∧ Nat.gcd u v = Nat.gcd a b) ∧ Below w.heap.size w wr) (fun _ y _ => (RowKit.intOf y).toNat)
  case atStart => exact ⟨a, b, rfl, rfl, ⟨Hab.out.1, Hab.out.2, rfl⟩, Below.refl _ _⟩
  case round =>
    obtain ⟨u, v, rfl, rfl, H, hB⟩ := hrel
    by_cases h0 : v = 0
    · subst h0
      go_wp2
      go_ret
      refine ⟨?_, hB⟩
      rw [← H.out.2.2, Nat.gcd_zero_right]
      rfl
    · have v1 : 1 ≤ (v : Int) := by omega
      have v0 : ((v : Int) == 0) = false := by simp; omega
      have v2 : ¬ (v : Int) = 0 := by omega
      have e1 : (u : Int).tmod (v : Int) = ((u % v : Nat) : Int) := by rw [Int.tmod_eq_emod_of_nonneg (by omega)]; rfl
      have e2 : u % v < v := Nat.mod_lt _ (by omega)
      have u1 := H.out.1
      have v3 := H.out.2.1
      go_wp2
      go_region
      go_wp2
      go_roundw
      case rel =>
        refine ⟨v, u % v, rfl, rfl, ⟨v3, by omega, ?_⟩, hB.drew⟩
        rw [← H.out.2.2, Nat.gcd_comm, ← Nat.gcd_rec, Nat.gcd_comm]
      case measure => simp [RowKit.intOf]; omega

/-- What one rate after the other comes to. -/
def chainN (a b : Nat) : Nat := a / Nat.gcd a b
def chainS (n1 d1 n2 d2 : Nat) : Int × Int × Int :=
  if 1000000000 < chainN (n1 * n2) (d1 * d2) ∨ 1000000000 < chainN (d1 * d2) (n1 * n2) then (0, 0, 10) else (chainN (n1 * n2) (d1 * d2), chainN (d1 * d2) (n1 * n2), 0)

set_option maxHeartbeats 1000000 in
theorem chain_any (n1 d1 n2 d2 : Nat) (w : World) (h1 : 1 ≤ n1 ∧ n1 ≤ 1000000000) (h2 : 1 ≤ d1 ∧ d1 ≤ 1000000000) (h3 : 1 ≤ n2 ∧ n2 ≤ 1000000000) (h4 : 1 ≤ d2 ∧ d2 ≤ 1000000000) :
    Calls Try.prog 72 #[.agg #[.int .i64 n1, .int .i64 d1], .agg #[.int .i64 n2, .int .i64 d2]] w fun e w' => e = .returned (.tuple #[.int .i64 (chainS n1 d1 n2 d2).1, .int .i64 (chainS n1 d1 n2 d2).2.1, errV (chainS n1 d1 n2 d2).2.2]) ∧ Below w.heap.size w w' := by
  obtain ⟨N, hN⟩ : ∃ N, n1 * n2 = N := ⟨_, rfl⟩
  obtain ⟨M, hM⟩ : ∃ M, d1 * d2 = M := ⟨_, rfl⟩
  have N1 : 1 ≤ N ∧ N ≤ 1000000000000000000 := by
    rw [← hN]
    exact ⟨Nat.mul_pos h1.1 h3.1, Nat.le_trans (Nat.mul_le_mul h1.2 h3.2) (by omega)⟩
  have M1 : 1 ≤ M ∧ M ≤ 1000000000000000000 := by
    rw [← hM]
    exact ⟨Nat.mul_pos h2.1 h4.1, Nat.le_trans (Nat.mul_le_mul h2.2 h4.2) (by omega)⟩
  have eN : (n1 : Int) * n2 = N := by rw [← hN]; simp
  have eM : (d1 : Int) * d2 = M := by rw [← hM]; simp
  obtain ⟨g, hg⟩ : ∃ g, Nat.gcd N M = g := ⟨_, rfl⟩
  have g1 : 1 ≤ g := by rw [← hg]; exact Nat.gcd_pos_of_pos_left _ (by omega)
  have dv := divisor_any N M
  rw [hg] at dv
  have C1 : chainN N M = N / g := by unfold chainN; rw [hg]
  have C2 : chainN M N = M / g := by unfold chainN; rw [Nat.gcd_comm, hg]
  have RS : Hid (chainS n1 d1 n2 d2 = if 1000000000 < N / g ∨ 1000000000 < M / g then (0, 0, 10) else (((N / g : Nat) : Int), ((M / g : Nat) : Int), 0)) := by
    unfold Hid chainS; rw [hN, hM, C1, C2]
  obtain ⟨x, hx⟩ : ∃ x, N / g = x := ⟨_, rfl⟩
  obtain ⟨y, hy⟩ : ∃ y, M / g = y := ⟨_, rfl⟩
  have ex : (N : Int) / (g : Int) = x := by rw [← hx]; rfl
  have ey : (M : Int) / (g : Int) = y := by rw [← hy]; rfl
  have lx : x ≤ N := by rw [← hx]; exact Nat.div_le_self _ _
  have ly : y ≤ M := by rw [← hy]; exact Nat.div_le_self _ _
  rw [hx, hy] at RS
  have tx : (N : Int).tdiv (g : Int) = x := by rw [Int.tdiv_eq_ediv_of_nonneg (by omega)]; exact ex
  have ty : (M : Int).tdiv (g : Int) = y := by rw [Int.tdiv_eq_ediv_of_nonneg (by omega)]; exact ey
  clear hx hy C1 C2 hg hN hM
  have g0 : ((g : Int) == 0) = false := by simp; omega
  have g2 : ¬ (g : Int) = 0 := by omega
  have Hdv : Hid (∀ W, Calls Try.prog 82 #[.int .i64 N, .int .i64 M] W fun e w' => e = .returned (.int .i64 g) ∧ Below W.heap.size W w') := fun W => dv W (by omega) (by omega)
  clear dv
  have a1 : (N : Int) ≤ 1000000000000000000 := by omega
  have a2 : (M : Int) ≤ 1000000000000000000 := by omega
  have a3 : (0 : Int) ≤ N := by omega
  have a4 : (0 : Int) ≤ M := by omega
  go_enter Try.func72, Try.ntmps72
  go_wp2
  go_region
  go_wp2_with fail
  refine (Hdv.out _).mono ?_
  rintro e w1 ⟨rfl, hb⟩
  have B1 : Below w.heap.size w w1 := ((((Below.refl _ w).alloc (Nat.le_refl _) _).alloc (by simp) _).drew).trans (hb.mono (by simp; omega))
  clear hb
  go_wp2
  go_region
  by_cases k1 : 1000000000 < (x : Int)
  · go_wp2
    go_ret3
    refine ⟨?_, B1.drew⟩
    rw [RS.out, if_pos (by omega)]
    rfl
  by_cases k2 : 1000000000 < (y : Int)
  · go_wp2
    go_ret3
    refine ⟨?_, B1.drew⟩
    rw [RS.out, if_pos (by omega)]
    rfl
  go_wp2
  go_ret3
  refine ⟨?_, B1.drew⟩
  rw [RS.out, if_neg (by omega)]
  rfl
end Go.Proofs.Ythaidbicimiljaa

namespace Go.Proofs.Ythaidbicimiljaa
set_option linter.unusedVariables false
open Go.RowKit Go.Lib Go.Maps

theorem cur_size {s : ByteArray} (h : isCur s = true) : s.size ≤ maxLen := by
  have : s.size = 3 := by
    unfold isCur at h
    simp only [Bool.and_eq_true, beq_iff_eq] at h
    exact h.1
  rw [this]; unfold maxLen; omega
theorem upTo_bd {n m : Int} (h : upTo n m = true) : 1 ≤ n ∧ n ≤ m := by simpa [upTo] using h
theorem upTo_wf {p : Int} (h : upTo p 120 = true) : (Lit.int .i64 p).wf = true := by
  have := upTo_bd h
  exact WalkArith.wf_i64 (by omega)

theorem rateBad_zero {r : Rt} (h : rateBad r = 0) : isCur r.frm = true ∧ isCur r.dst = true ∧ r.frm ≠ r.dst ∧ upTo r.per 120 = true ∧ upTo r.num 1000000000 = true ∧ upTo r.den 1000000000 = true := by
  unfold rateBad at h
  split at h
  · cases h
  · rename_i a
    split at h
    · cases h
    · rename_i b
      split at h
      · cases h
      · rename_i c
        simp only [not_or, Bool.not_eq_false] at a c
        exact ⟨a.1, a.2, b, c.1, c.2.1, c.2.2⟩

def num2 : DataW Unit → Int × Int
  | .agg [.lit (.int .i64 n), .lit (.int .i64 d)] => (n, d)
  | _ => (0, 0)
theorem num2_wD (n d : Int) : num2 (wD n d) = (n, d) := rfl

def tabNum (D : DataW Unit) (kl : Lit) : Int × Int := num2 (D.atKey kl (wD 0 0))

/-- What is there has numbers in their range. -/
def TabGood (D : DataW Unit) : Prop := ∀ kl, has D kl = true → (1 ≤ (tabNum D kl).1 ∧ (tabNum D kl).1 ≤ 1000000000) ∧ 1 ≤ (tabNum D kl).2 ∧ (tabNum D kl).2 ≤ 1000000000
/-- Each pair is there both ways. -/
def TabSym (D : DataW Unit) : Prop := ∀ f t p, isCur f = true → isCur t = true → upTo p 120 = true → has D (keyL f t p) = has D (keyL t f p) ∧ (tabNum D (keyL f t p)).1 = (tabNum D (keyL t f p)).2
/-- Nothing is there of one currency alone. -/
def TabApart (D : DataW Unit) : Prop := ∀ f p, isCur f = true → upTo p 120 = true → has D (keyL f f p) = false

theorem key_eq {f t f' t' : ByteArray} {p p' : Int} (hf : isCur f = true) (ht : isCur t = true) (hp : upTo p 120 = true) (hf' : isCur f' = true) (ht' : isCur t' = true) (hp' : upTo p' 120 = true) : keyL f t p = keyL f' t' p' ↔ f = f' ∧ t = t' ∧ p = p' :=
  ⟨fun h => keyL_inj (cur_size hf) (cur_size ht) (upTo_wf hp) (cur_size hf') (cur_size ht') (upTo_wf hp') h, fun ⟨h1, h2, h3⟩ => by rw [h1, h2, h3]⟩

open Classical in
theorem has_put2 {D : DataW Unit} (hD : IsMap D) (k1 k2 kl : Lit) (h1 : WideAt.IsKeyLit k1) (h2 : WideAt.IsKeyLit k2) (a b : DataW Unit) : has ((D.put k1 a).put k2 b) kl = (decide (kl = k2) || (decide (kl = k1) || has D kl)) := by
  by_cases e2 : kl = k2
  · subst e2; rw [has_put_same (hD.put _ _) h2]; simp
  · rw [has_put_other e2]
    by_cases e1 : kl = k1
    · subst e1; rw [has_put_same hD h1]; simp
    · rw [has_put_other e1]; simp [e1, e2]

open Classical in
theorem num_put2 {D : DataW Unit} (hD : IsMap D) (k1 k2 kl : Lit) (h1 : WideAt.IsKeyLit k1) (h2 : WideAt.IsKeyLit k2) (a b c d : Int) : tabNum ((D.put k1 (wD a b)).put k2 (wD c d)) kl = if kl = k2 then (c, d) else if kl = k1 then (a, b) else tabNum D kl := by
  unfold tabNum
  by_cases e2 : kl = k2
  · subst e2; rw [atKey_put_same (hD.put _ _) h2, if_pos rfl]; rfl
  · rw [atKey_put_other e2, if_neg e2]
    by_cases e1 : kl = k1
    · subst e1; rw [atKey_put_same hD h1, if_pos rfl]; rfl
    · rw [atKey_put_other e1, if_neg e1]

theorem tab_step {D : DataW Unit} {r : Rt} (hb : rateBad r = 0) (hD : IsMap D) (hg : TabGood D) (hs : TabSym D) (ha : TabApart D) : IsMap (tabPut D r) ∧ TabGood (tabPut D r) ∧ TabSym (tabPut D r) ∧ TabApart (tabPut D r) := by
  obtain ⟨b1, b2, b3, b4, b5, b6⟩ := rateBad_zero hb
  have n5 := upTo_bd b5
  have n6 := upTo_bd b6
  refine ⟨(hD.put _ _).put _ _, ?_, ?_, ?_⟩
  · intro kl h
    unfold tabPut at h ⊢
    rw [num_put2 hD _ _ _ (keyL_isKey _ _ _) (keyL_isKey _ _ _)]
    rw [has_put2 hD _ _ _ (keyL_isKey _ _ _) (keyL_isKey _ _ _)] at h
    by_cases e2 : kl = keyL r.dst r.frm r.per
    · rw [if_pos e2]; exact ⟨n6, n5⟩
    · rw [if_neg e2]
      by_cases e1 : kl = keyL r.frm r.dst r.per
      · rw [if_pos e1]; exact ⟨n5, n6⟩
      · rw [if_neg e1]
        simp [e1, e2] at h
        exact hg kl h
  · intro f t p hf ht hp
    unfold tabPut
    rw [has_put2 hD _ _ _ (keyL_isKey _ _ _) (keyL_isKey _ _ _), has_put2 hD _ _ _ (keyL_isKey _ _ _) (keyL_isKey _ _ _), num_put2 hD _ _ _ (keyL_isKey _ _ _) (keyL_isKey _ _ _), num_put2 hD _ _ _ (keyL_isKey _ _ _) (keyL_isKey _ _ _)]
    have q1 := key_eq hf ht hp b2 b1 b4
    have q2 := key_eq hf ht hp b1 b2 b4
    have q3 := key_eq ht hf hp b2 b1 b4
    have q4 := key_eq ht hf hp b1 b2 b4
    obtain ⟨s1, s2⟩ := hs f t p hf ht hp
    by_cases e1 : f = r.dst ∧ t = r.frm ∧ p = r.per
    · have z1 := q1.2 e1
      have z4 := q4.2 ⟨e1.2.1, e1.1, e1.2.2⟩
      have z3 : ¬ keyL t f p = keyL r.dst r.frm r.per := fun h => b3 (by have := q3.1 h; rw [← this.2.1, e1.1])
      rw [if_pos z1, if_neg z3, if_pos z4]
      simp [z1, z4]
    · by_cases e2 : f = r.frm ∧ t = r.dst ∧ p = r.per
      · have z2 := q2.2 e2
        have z1 : ¬ keyL f t p = keyL r.dst r.frm r.per := fun h => e1 (q1.1 h)
        have z3 := q3.2 ⟨e2.2.1, e2.1, e2.2.2⟩
        rw [if_neg z1, if_pos z2, if_pos z3]
        simp [z2, z3]
      · have z1 : ¬ keyL f t p = keyL r.dst r.frm r.per := fun h => e1 (q1.1 h)
        have z2 : ¬ keyL f t p = keyL r.frm r.dst r.per := fun h => e2 (q2.1 h)
        have z3 : ¬ keyL t f p = keyL r.dst r.frm r.per := fun h => e2 (by have := q3.1 h; exact ⟨this.2.1, this.1, this.2.2⟩)
        have z4 : ¬ keyL t f p = keyL r.frm r.dst r.per := fun h => e1 (by have := q4.1 h; exact ⟨this.2.1, this.1, this.2.2⟩)
        rw [if_neg z1, if_neg z2, if_neg z3, if_neg z4]
        simp only [z1, z2, z3, z4, decide_false, Bool.false_or]
        exact ⟨s1, s2⟩
  · intro f p hf hp
    unfold tabPut
    rw [has_put2 hD _ _ _ (keyL_isKey _ _ _) (keyL_isKey _ _ _)]
    have z1 : ¬ keyL f f p = keyL r.dst r.frm r.per := fun h => b3 (by have := (key_eq hf hf hp b2 b1 b4).1 h; rw [← this.1, ← this.2.1])
    have z2 : ¬ keyL f f p = keyL r.frm r.dst r.per := fun h => b3 (by have := (key_eq hf hf hp b1 b2 b4).1 h; rw [← this.1, ← this.2.1])
    simp only [z1, z2, decide_false, Bool.false_or]
    exact ha f p hf hp

theorem tabGo_good : ∀ (rs : List Rt) (D : DataW Unit), IsMap D → TabGood D → TabSym D → TabApart D → TabGood (tabGo D rs).2 ∧ TabSym (tabGo D rs).2 ∧ TabApart (tabGo D rs).2
  | [], D, _, h1, h2, h3 => ⟨h1, h2, h3⟩
  | r :: rs, D, h0, h1, h2, h3 => by
    by_cases hb : rateBad r = 0
    · cases hh : has D (keyL r.frm r.dst r.per)
      · rw [tabGo_step hb hh]
        obtain ⟨g0, g1, g2, g3⟩ := tab_step hb h0 h1 h2 h3
        exact tabGo_good rs _ g0 g1 g2 g3
      · rw [tabGo_clash hb hh]; exact ⟨h1, h2, h3⟩
    · rw [tabGo_bad hb]; exact ⟨h1, h2, h3⟩

theorem empty_good : TabGood (.map []) ∧ TabSym (.map []) ∧ TabApart (.map []) :=
  ⟨fun kl h => by simp [has] at h, fun f t p _ _ _ => ⟨rfl, rfl⟩, fun f p _ _ => rfl⟩

theorem tabS_good (rs : List Rt) : TabGood (tabS rs).2 ∧ TabSym (tabS rs).2 ∧ TabApart (tabS rs).2 := by
  obtain ⟨e1, e2, e3⟩ := empty_good
  unfold tabS
  split
  · exact ⟨e1, e2, e3⟩
  · exact tabGo_good rs _ isMap_empty e1 e2 e3

/-- What rate.Find hands back. -/
def findS (S : Int × DataW Unit) (base f t : ByteArray) (p : Int) : Int × Int × Int :=
  if S.1 ≠ 0 then (0, 0, S.1)
  else if isCur base = false ∨ isCur f = false ∨ isCur t = false then (0, 0, 2)
  else if upTo p 120 = false then (0, 0, 1)
  else if f = t then (1, 1, 0)
  else if has S.2 (keyL f t p) = true then ((tabNum S.2 (keyL f t p)).1, (tabNum S.2 (keyL f t p)).2, 0)
  else if has S.2 (keyL f base p) = false ∨ has S.2 (keyL base t p) = false then (0, 0, 6)
  else chainS (tabNum S.2 (keyL f base p)).1.toNat (tabNum S.2 (keyL f base p)).2.toNat (tabNum S.2 (keyL base t p)).1.toNat (tabNum S.2 (keyL base t p)).2.toNat
end Go.Proofs.Ythaidbicimiljaa

namespace Go.Proofs.Ythaidbicimiljaa
set_option linter.unusedVariables false
open Go.RowKit Go.Lib Go.Maps

theorem errV_ne {n : Int} (h : n ≠ 0) : errV n = .iface 41 (.int .i64 n) := if_neg h

theorem chain_of {D : DataW Unit} {k1 k2 : Lit} {p1 q1 p2 q2 : Int} {R : Int × Int × Int} (H1 : tabNum D k1 = (p1, q1)) (H2 : tabNum D k2 = (p2, q2))
    (g1 : (1 ≤ (tabNum D k1).1 ∧ (tabNum D k1).1 ≤ 1000000000) ∧ 1 ≤ (tabNum D k1).2 ∧ (tabNum D k1).2 ≤ 1000000000) (g2 : (1 ≤ (tabNum D k2).1 ∧ (tabNum D k2).1 ≤ 1000000000) ∧ 1 ≤ (tabNum D k2).2 ∧ (tabNum D k2).2 ≤ 1000000000)
    (e1 : R = chainS (tabNum D k1).1.toNat (tabNum D k1).2.toNat (tabNum D k2).1.toNat (tabNum D k2).2.toNat) (W : World) :
    Calls Try.prog 72 #[.agg #[.int .i64 p1, .int .i64 q1], .agg #[.int .i64 p2, .int .i64 q2]] W fun e w' => e = .returned (.tuple #[.int .i64 R.1, .int .i64 R.2.1, errV R.2.2]) ∧ Below W.heap.size W w' := by
  rw [H1] at g1 e1
  rw [H2] at g2 e1
  simp only at g1 g2 e1
  have := chain_any p1.toNat q1.toNat p2.toNat q2.toNat W (by omega) (by omega) (by omega) (by omega)
  rw [← e1, Int.toNat_of_nonneg (by omega), Int.toNat_of_nonneg (by omega), Int.toNat_of_nonneg (by omega), Int.toNat_of_nonneg (by omega)] at this
  exact this

set_option maxHeartbeats 4000000 in
theorem find_any (a : Option Addr) (len cap : Nat) (S : Int × DataW Unit) (base f t : ByteArray) (p : Int) (w : World) (ht : Calls Try.prog 68 #[.slice a len cap] w (TabEnd w S)) (hg : TabGood S.2) :
    Calls Try.prog 48 #[.slice a len cap, .string base, .string f, .string t, .int .i64 p] w fun e w' => e = .returned (.tuple #[.int .i64 (findS S base f t p).1, .int .i64 (findS S base f t p).2.1, errV (findS S base f t p).2.2]) ∧ Below w.heap.size w w' := by
  obtain ⟨R, hR⟩ : ∃ R, findS S base f t p = R := ⟨_, rfl⟩
  rw [hR]
  have HR : Hid (findS S base f t p = R) := hR
  clear hR
  have Ht : Hid (Calls Try.prog 68 #[.slice a len cap] w (TabEnd w S)) := ht
  have Hg : Hid (TabGood S.2) := hg
  clear ht hg
  obtain ⟨E, D⟩ := S
  go_enter Try.func48, Try.ntmps48
  go_wp2_with fail
  refine Ht.out.mono ?_
  rintro e w1 ⟨B1, hbad, hok⟩
  simp only at hbad hok
  by_cases hE : E ≠ 0
  · obtain rfl := hbad hE
    have eR : R = (0, 0, E) := by rw [← HR.out]; simp [findS, hE]
    rw [errV_ne hE]
    subst eR
    clear hok hbad Ht
    go_wp2
    go_ret3
    exact ⟨by rw [errV_ne hE]; rfl, B1⟩
  have hE : E = 0 := Decidable.not_not.1 hE
  obtain ⟨N, rfl, hN, hT⟩ := hok hE
  subst hE
  clear hbad hok Ht
  have HT : Hid (TabAt w1 N 200 D) := hT
  clear hT
  have eR : Hid (R = if isCur base = false ∨ isCur f = false ∨ isCur t = false then (0, 0, 2) else if upTo p 120 = false then (0, 0, 1) else if f = t then (1, 1, 0) else if has D (keyL f t p) = true then ((tabNum D (keyL f t p)).1, (tabNum D (keyL f t p)).2, 0)
    else if has D (keyL f base p) = false ∨ has D (keyL base t p) = false then (0, 0, 6)
    else chainS (tabNum D (keyL f base p)).1.toNat (tabNum D (keyL f base p)).2.toNat (tabNum D (keyL base t p)).1.toNat (tabNum D (keyL base t p)).2.toNat) := by
    unfold Hid; rw [← HR.out]; simp [findS]
  clear HR
  go_wp2_with fail
  refine (cur_any base _).mono ?_
  rintro e w2 ⟨rfl, hb2⟩
  have B2 := B1.trans (hb2.mono B1.size)
  have T2 : Hid (TabAt w2 N 200 D) := by
    obtain ⟨es, clock, q1, q2⟩ := HT.out
    exact ⟨es, clock, (hb2.block _ HT.out.lt).trans q1, q2⟩
  clear hb2 HT B1
  cases h1 : isCur base
  · have e1 : R = (0, 0, 2) := by rw [eR.out]; simp [h1]
    subst e1
    go_wp2
    go_ret3
    exact ⟨rfl, B2⟩
  go_wp2_with fail
  refine (cur_any f _).mono ?_
  rintro e w3 ⟨rfl, hb3⟩
  have B3 := B2.trans (hb3.mono B2.size)
  have T3 : Hid (TabAt w3 N 200 D) := by
    obtain ⟨es, clock, q1, q2⟩ := T2.out
    exact ⟨es, clock, (hb3.block _ T2.out.lt).trans q1, q2⟩
  clear hb3 T2 B2
  cases h2 : isCur f
  · have e1 : R = (0, 0, 2) := by rw [eR.out]; simp [h2]
    subst e1
    go_wp2
    go_ret3
    exact ⟨rfl, B3⟩
  go_wp2_with fail
  refine (cur_any t _).mono ?_
  rintro e w4 ⟨rfl, hb4⟩
  have B4 := B3.trans (hb4.mono B3.size)
  have T4 : Hid (TabAt w4 N 200 D) := by
    obtain ⟨es, clock, q1, q2⟩ := T3.out
    exact ⟨es, clock, (hb4.block _ T3.out.lt).trans q1, q2⟩
  clear hb4 T3 B3
  cases h3 : isCur t
  · have e1 : R = (0, 0, 2) := by rw [eR.out]; simp [h3]
    subst e1
    go_wp2
    go_ret3
    exact ⟨rfl, B4⟩
  go_wp2_with fail
  refine (upTo_any p 120 _).mono ?_
  rintro e w' ⟨rfl, hw⟩
  rw [hw]; clear hw w'
  cases h4 : upTo p 120
  · have e1 : R = (0, 0, 1) := by rw [eR.out]; simp [h1, h2, h3, h4]
    subst e1
    go_wp2
    go_ret3
    exact ⟨rfl, B4⟩
  by_cases h5 : f = t
  · have e1 : R = (1, 1, 0) := by rw [eR.out]; simp [h1, h3, h4, h5]
    subst e1
    subst h5
    go_wp2
    go_ret3
    exact ⟨rfl, B4⟩
  have h5' := texts_ne h5
  have k1 : Hid (keyOf Try.prog 112 (pairV f t p) = some (keyL f t p)) := keyOf_pair (cur_size h2) (cur_size h3) (upTo_wf h4)
  have k2 : Hid (keyOf Try.prog 112 (pairV f base p) = some (keyL f base p)) := keyOf_pair (cur_size h2) (cur_size h1) (upTo_wf h4)
  have k3 : Hid (keyOf Try.prog 112 (pairV base t p) = some (keyL base t p)) := keyOf_pair (cur_size h1) (cur_size h3) (upTo_wf h4)
  have eR2 : Hid (R = if has D (keyL f t p) = true then ((tabNum D (keyL f t p)).1, (tabNum D (keyL f t p)).2, 0)
    else if has D (keyL f base p) = false ∨ has D (keyL base t p) = false then (0, 0, 6)
    else chainS (tabNum D (keyL f base p)).1.toNat (tabNum D (keyL f base p)).2.toNat (tabNum D (keyL base t p)).1.toNat (tabNum D (keyL base t p)).2.toNat) := by
    unfold Hid; rw [eR.out]; simp [h1, h2, h3, h4, h5]
  clear eR h1 h2 h3 h4
  have hsz := B4.size
  cases h6 : has D (keyL f t p)
  · have eR3 : Hid (R = if has D (keyL f base p) = false ∨ has D (keyL base t p) = false then (0, 0, 6)
      else chainS (tabNum D (keyL f base p)).1.toNat (tabNum D (keyL f base p)).2.toNat (tabNum D (keyL base t p)).1.toNat (tabNum D (keyL base t p)).2.toNat) := by
      unfold Hid; rw [eR2.out, if_neg (by rw [h6]; simp)]
    clear eR2
    cases h7 : has D (keyL f base p)
    · have e1 : R = (0, 0, 6) := by rw [eR3.out]; simp [h7]
      subst e1
      go_wp2_with (first | (at_lookup; refine look_worth _ rfl rfl _ _ rfl N 200 D rfl T4.out _ _ rfl k1.out ?_; intro pp qq hpq; clear hpq) | (at_lookup; refine look_worth _ rfl rfl _ _ rfl N 200 D rfl (T4.out.alloc _) _ _ rfl k2.out ?_; intro p1 q1 hpq; clear hpq) | (at_lookup; refine look_worth _ rfl rfl _ _ rfl N 200 D rfl ((T4.out.alloc _).alloc _) _ _ rfl k3.out ?_; intro p2 q2 hpq; clear hpq) | go_in)
      go_ret3
      exact ⟨rfl, ((B4.alloc hsz _).alloc (by simp; omega) _).alloc (by simp; omega) _⟩
    cases h8 : has D (keyL base t p)
    · have e1 : R = (0, 0, 6) := by rw [eR3.out]; simp [h8]
      subst e1
      go_wp2_with (first | (at_lookup; refine look_worth _ rfl rfl _ _ rfl N 200 D rfl T4.out _ _ rfl k1.out ?_; intro pp qq hpq; clear hpq) | (at_lookup; refine look_worth _ rfl rfl _ _ rfl N 200 D rfl (T4.out.alloc _) _ _ rfl k2.out ?_; intro p1 q1 hpq; clear hpq) | (at_lookup; refine look_worth _ rfl rfl _ _ rfl N 200 D rfl ((T4.out.alloc _).alloc _) _ _ rfl k3.out ?_; intro p2 q2 hpq; clear hpq) | go_in)
      go_ret3
      exact ⟨rfl, ((B4.alloc hsz _).alloc (by simp; omega) _).alloc (by simp; omega) _⟩
    have e1 : Hid (R = chainS (tabNum D (keyL f base p)).1.toNat (tabNum D (keyL f base p)).2.toNat (tabNum D (keyL base t p)).1.toNat (tabNum D (keyL base t p)).2.toNat) := by
      unfold Hid; rw [eR3.out, if_neg (by rw [h7, h8]; simp)]
    have g1 : Hid (_ ∧ _) := Hg.out _ h7
    have g2 : Hid (_ ∧ _) := Hg.out _ h8
    clear eR3
    go_wp2_with (first | (at_lookup; refine look_worth _ rfl rfl _ _ rfl N 200 D rfl T4.out _ _ rfl k1.out ?_; intro pp qq hpq; clear hpq) | (at_lookup; refine look_worth _ rfl rfl _ _ rfl N 200 D rfl (T4.out.alloc _) _ _ rfl k2.out ?_; intro p1 q1 hpq; have H1 : Hid (tabNum D (keyL f base p) = (p1, q1)) := (by unfold Hid tabNum; rw [hpq]; rfl); clear hpq) | (at_lookup; refine look_worth _ rfl rfl _ _ rfl N 200 D rfl ((T4.out.alloc _).alloc _) _ _ rfl k3.out ?_; intro p2 q2 hpq; have H2 : Hid (tabNum D (keyL base t p) = (p2, q2)) := (by unfold Hid tabNum; rw [hpq]; rfl); clear hpq) | (go_at_call 72; refine (chain_of H1.out H2.out g1.out g2.out e1.out _).mono ?_; rintro e w9 ⟨rfl, hb9⟩) | go_in)
    go_ret3
    refine ⟨rfl, Below.trans (((B4.alloc hsz _).alloc (by simp; omega) _).alloc (by simp; omega) _) (hb9.mono (by simp; omega))⟩
  · go_wp2_with (first | (at_lookup; refine look_worth _ rfl rfl _ _ rfl N 200 D rfl T4.out _ _ rfl k1.out ?_; intro pp qq hpq) | go_in)
    have e1 : Hid (R = (pp, qq, 0)) := by unfold Hid; rw [eR2.out, if_pos h6]; unfold tabNum; rw [hpq]; rfl
    clear hpq
    go_region
    go_wp2
    go_ret3
    refine ⟨?_, (B4.alloc hsz _).drew⟩
    rw [e1.out]; rfl
end Go.Proofs.Ythaidbicimiljaa

namespace Go.Proofs.Ythaidbicimiljaa
set_option linter.unusedVariables false
open Go.RowKit Go.Lib Go.Maps

theorem chainN_pos {a b : Nat} (ha : 1 ≤ a) : 1 ≤ chainN a b := by
  unfold chainN
  exact Nat.div_pos (Nat.gcd_le_left _ ha) (Nat.gcd_pos_of_pos_left _ ha)

theorem chainS_range {n1 d1 n2 d2 : Nat} (h1 : 1 ≤ n1) (h2 : 1 ≤ d1) (h3 : 1 ≤ n2) (h4 : 1 ≤ d2) (h : (chainS n1 d1 n2 d2).2.2 = 0) :
    (1 ≤ (chainS n1 d1 n2 d2).1 ∧ (chainS n1 d1 n2 d2).1 ≤ 1000000000) ∧ 1 ≤ (chainS n1 d1 n2 d2).2.1 ∧ (chainS n1 d1 n2 d2).2.1 ≤ 1000000000 := by
  unfold chainS at h ⊢
  split at h
  · simp at h
  · rename_i hn
    rw [if_neg hn]
    have p1 := chainN_pos (b := d1 * d2) (Nat.mul_pos h1 h3)
    have p2 := chainN_pos (b := n1 * n2) (Nat.mul_pos h2 h4)
    simp only [not_or] at hn
    dsimp only
    omega

theorem findS_range {S : Int × DataW Unit} {base f t : ByteArray} {p : Int} (hg : TabGood S.2) (h : (findS S base f t p).2.2 = 0) :
    (1 ≤ (findS S base f t p).1 ∧ (findS S base f t p).1 ≤ 1000000000) ∧ 1 ≤ (findS S base f t p).2.1 ∧ (findS S base f t p).2.1 ≤ 1000000000 := by
  unfold findS at h ⊢
  by_cases c1 : S.1 ≠ 0
  · rw [if_pos c1] at h; exact absurd h c1
  rw [if_neg c1] at h ⊢
  by_cases c2 : isCur base = false ∨ isCur f = false ∨ isCur t = false
  · rw [if_pos c2] at h; simp at h
  rw [if_neg c2] at h ⊢
  by_cases c3 : upTo p 120 = false
  · rw [if_pos c3] at h; simp at h
  rw [if_neg c3] at h ⊢
  by_cases c4 : f = t
  · rw [if_pos c4]; simp
  rw [if_neg c4] at h ⊢
  by_cases c5 : has S.2 (keyL f t p) = true
  · rw [if_pos c5]; exact hg _ c5
  rw [if_neg c5] at h ⊢
  by_cases c6 : has S.2 (keyL f base p) = false ∨ has S.2 (keyL base t p) = false
  · rw [if_pos c6] at h; simp at h
  rw [if_neg c6] at h ⊢
  simp only [not_or, Bool.not_eq_false] at c6
  have g1 := hg _ c6.1
  have g2 := hg _ c6.2
  exact chainS_range (by omega) (by omega) (by omega) (by omega) h

theorem chainS_turn (n1 d1 n2 d2 : Nat) : chainS d2 n2 d1 n1 = ((chainS n1 d1 n2 d2).2.1, (chainS n1 d1 n2 d2).1, (chainS n1 d1 n2 d2).2.2) := by
  unfold chainS
  rw [Nat.mul_comm d2 d1, Nat.mul_comm n2 n1]
  by_cases h : 1000000000 < chainN (n1 * n2) (d1 * d2) ∨ 1000000000 < chainN (d1 * d2) (n1 * n2)
  · rw [if_pos h, if_pos h.symm]
  · rw [if_neg h, if_neg (fun h' => h h'.symm)]

/-- The other way round. -/
theorem findS_turn {S : Int × DataW Unit} {base f t : ByteArray} {p : Int} (hs : TabSym S.2) : findS S base t f p = ((findS S base f t p).2.1, (findS S base f t p).1, (findS S base f t p).2.2) := by
  unfold findS
  by_cases c1 : S.1 ≠ 0
  · rw [if_pos c1, if_pos c1]
  rw [if_neg c1, if_neg c1]
  by_cases c2 : isCur base = false ∨ isCur f = false ∨ isCur t = false
  · rw [if_pos c2, if_pos (by rcases c2 with h | h | h <;> simp [h])]
  rw [if_neg c2, if_neg (fun h => c2 (by rcases h with h | h | h <;> simp [h]))]
  by_cases c3 : upTo p 120 = false
  · rw [if_pos c3, if_pos c3]
  rw [if_neg c3, if_neg c3]
  by_cases c4 : f = t
  · rw [if_pos c4, if_pos c4.symm]
  rw [if_neg c4, if_neg (fun h => c4 h.symm)]
  simp only [not_or, Bool.not_eq_false] at c2 c3
  obtain ⟨b0, b1, b2⟩ := c2
  have s0 := hs f t p b1 b2 c3
  have s0' := hs t f p b2 b1 c3
  have s1 := hs t base p b2 b0 c3
  have s1' := hs base t p b0 b2 c3
  have s2 := hs base f p b0 b1 c3
  have s2' := hs f base p b1 b0 c3
  by_cases c5 : has S.2 (keyL f t p) = true
  · rw [if_pos c5, if_pos (s0.1 ▸ c5), s0.2, s0'.2]
  rw [if_neg c5, if_neg (s0.1 ▸ c5)]
  by_cases c6 : has S.2 (keyL f base p) = false ∨ has S.2 (keyL base t p) = false
  · rw [if_pos c6, if_pos (by rw [s1.1, s2.1]; exact c6.symm)]
  rw [if_neg c6, if_neg (by rw [s1.1, s2.1]; exact fun h => c6 h.symm)]
  rw [s1.2, ← s1'.2, s2.2, ← s2'.2]
  exact chainS_turn _ _ _ _

end Go.Proofs.Ythaidbicimiljaa

namespace Go.Proofs.Ythaidbicimiljaa
set_option linter.unusedVariables false
open Go.RowKit Go.Lib Math

theorem tab_size : Lib.len8tab.size = 256 := by kernel_rfl

theorem len_tab (t : Nat) (h : t < Lib.len8tab.size) : ((Lib.len8tab[t]'h).toNat : Int) = Lib.bitLen t := by
  have h2 : t < 256 := by rw [tab_size] at h; exact h
  have e := Lib.len8_of (t : Int) (by omega) (by omega)
  unfold Lib.len8 at e
  rw [Int.toNat_natCast, getElem?_pos Lib.len8tab t h] at e
  exact e

theorem len_way (x y : Int) (k K : Nat) (hK : K = 2 ^ k) (hy : y = x / (K : Int)) (h1 : (K : Int) ≤ x) (h2 : x < K * 256) (h3 : x < 18446744073709551616) (h : y.toNat < Lib.len8tab.size) (hk : k ≤ 56) :
    wrap64 (k + wrap64 ((Lib.len8tab[y.toNat]'h).toNat : Int)) = (Lib.bitLen x.toNat : Int) := by
  rw [len_tab]
  have h' : y.toNat < 256 := by rw [tab_size] at h; exact h
  clear h
  have hKp : 0 < K := by rw [hK]; exact Nat.two_pow_pos k
  obtain ⟨x, rfl⟩ := Int.eq_ofNat_of_zero_le (by omega : 0 ≤ x)
  have e : y = ((x / K : Nat) : Int) := by rw [hy, Int.natCast_ediv]
  have hl := Lib.bitLen_le8' (y.toNat : Int) (by omega) (by omega)
  rw [Int.toNat_natCast] at hl
  have e3 : y.toNat = x / K := by rw [e, Int.toNat_natCast]
  rw [e3] at hl ⊢
  have h3' : x < 18446744073709551616 := by omega
  have h1' : K ≤ x := by omega
  have := Lib.bitLen_shift k x (by rw [← hK]; exact h1') h3'
  rw [← hK] at this
  rw [Int.toNat_natCast, this]
  generalize Lib.bitLen (x / K) = b at *
  clear this e3 e hy h1 h2 h3 h1' h3' hK hKp
  unfold wrap64
  omega

set_option maxHeartbeats 2000000 in
set_option maxRecDepth 100000 in
theorem len64_any (x : Int) (w : World) (h0 : 1 ≤ x) (h1 : x < 18446744073709551616) :
    Calls Try.prog 83 #[.int .u64 x] w fun e w' => e = .returned (.int .i64 (Lib.bitLen x.toNat)) ∧ w' = w := by
  have hs := tab_size
  go_enter Try.func83, Try.ntmps83
  go_wp2
  all_goals (go_ret; refine ⟨congrArg Ending.returned (congrArg (Value.int IntKind.i64) ?_), rfl⟩)
  · exact len_way x _ 56 72057594037927936 (by decide) (by omega) (by omega) (by omega) h1 _ (by omega)
  · exact len_way x _ 48 281474976710656 (by decide) (by omega) (by omega) (by omega) h1 _ (by omega)
  · exact len_way x _ 40 1099511627776 (by decide) (by omega) (by omega) (by omega) h1 _ (by omega)
  · exact len_way x _ 32 4294967296 (by decide) (by omega) (by omega) (by omega) h1 _ (by omega)
  · exact len_way x _ 24 16777216 (by decide) (by omega) (by omega) (by omega) h1 _ (by omega)
  · exact len_way x _ 16 65536 (by decide) (by omega) (by omega) (by omega) h1 _ (by omega)
  · exact len_way x _ 8 256 (by decide) (by omega) (by omega) (by omega) h1 _ (by omega)
  · have := len_way x x 0 1 (by decide) (by omega) (by omega) (by omega) h1 (by rw [hs]; omega) (by omega)
    simpa using this

theorem lead_any (x : Int) (w : World) (h0 : 1 ≤ x) (h1 : x < 18446744073709551616) :
    Calls Try.prog 73 #[.int .u64 x] w fun e w' => e = .returned (.int .i64 (64 - Lib.bitLen x.toNat)) ∧ w' = w := by
  have hl := Lib.bitLen_le x.toNat 64 (by omega) (by omega)
  generalize hb : Lib.bitLen x.toNat = b at *
  have Hb : Hid (Lib.bitLen x.toNat = b) := hb
  clear hb
  go_enter Try.func73, Try.ntmps73
  go_wp2_with fail
  refine (len64_any _ _ h0 h1).mono ?_
  rintro e w' ⟨rfl, hw⟩
  rw [hw, Hb.out]; clear hw w'
  go_wp2
  go_ret
  exact ⟨rfl, rfl⟩
end Go.Proofs.Ythaidbicimiljaa
