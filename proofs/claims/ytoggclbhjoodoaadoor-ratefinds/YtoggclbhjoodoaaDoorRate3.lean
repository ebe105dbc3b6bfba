/-
  The contract of rate.table.
-/
import Derived.Test.YtoggclbhjoodoaaDoorRate2
import Derived.Maps.OwnOps
import Derived.Deep.RegionHeld3
namespace Go.Proofs.YtoggclbhjoodoaaDoor
set_option linter.unusedVariables false
open Go.RowKit Go.Lib Go.Maps

/-- A rate of nothing. -/
def rt0 : Rt := ⟨ByteArray.empty, ByteArray.empty, 0, 0, 0⟩

theorem make_tab (n : Int) (w : World) : (Instr.makeMap 42 (some (.int .i64 n))).run Tryd.prog w = .ok (.map (some w.heap.size)) (w.alloc (.map #[] 0)) := by
  simp [Instr.makeMap, run_underlying Tryd.underlying42, asInt, asIntOf, Result.andThen]

/-- What a table's call hands back. -/
def TabEnd (w : World) (S : Int × DataW Unit) (e : Ending) (w' : World) : Prop :=
  Below w.heap.size w w' ∧ (S.1 ≠ 0 → e = .returned (.tuple #[.map none, errV S.1])) ∧ (S.1 = 0 → ∃ b, e = .returned (.tuple #[.map (some b), .nilIface]) ∧ w.heap.size ≤ b ∧ TabAt w' b 200 S.2)

theorem table_full (a : Option Addr) (len cap : Nat) (rs : List Rt) (w : World) (hl : rs.length = len) (h : 100 < len) :
    Calls Tryd.prog 14 #[.slice a len cap] w (TabEnd w (tabS rs)) := by
  have h' : (100 : Int) < len := by omega
  rw [tabS_full (by omega)]
  go_enter Tryd.func14, Tryd.ntmps14
  go_wp2
  go_ret2
  exact ⟨Below.refl _ _, fun _ => rfl, fun h => by cases h⟩

theorem table_none (a : Option Addr) (cap : Nat) (w : World) :
    Calls Tryd.prog 14 #[.slice a 0 cap] w (TabEnd w (tabS [])) := by
  have hmm := make_tab
  go_enter Tryd.func14, Tryd.ntmps14
  go_wp2
  refine wp_loop_rounds 1 ?_
  rw [rounds_succ]
  go_wp2
  go_ret2
  exact ⟨(Below.refl _ _).alloc (Nat.le_refl _) _, fun h => absurd rfl h, fun _ => ⟨_, rfl, Nat.le_refl _, (World.ownsMap_made _ _ _ _).mono (by omega)⟩⟩

/-- A key at a block. -/
structure PairAt (w : World) (b : Nat) (f t : ByteArray) (p : Int) : Prop where
  c0 : w.cell? ⟨b, 0, none⟩ = some (.string f)
  c1 : w.cell? ⟨b, 1, none⟩ = some (.string t)
  c2 : w.cell? ⟨b, 2, none⟩ = some (.int .i64 p)
theorem PairAt.new (w : World) (f t : ByteArray) (p : Int) (T : TypeId) : PairAt (w.alloc (.cells #[.string f, .string t, .int .i64 p] T)) w.heap.size f t p := ⟨by simp, by simp, by simp⟩
theorem PairAt.below {w w' : World} {b n : Nat} {f t : ByteArray} {p : Int} (h : PairAt w b f t p) (hb : Below n w w') (hn : b < n) : PairAt w' b f t p :=
  ⟨(hb.cell (p := ⟨b, 0, none⟩) hn).trans h.c0, (hb.cell (p := ⟨b, 1, none⟩) hn).trans h.c1, (hb.cell (p := ⟨b, 2, none⟩) hn).trans h.c2⟩

/-- What is there behind both keys' making. -/
structure Keys2 (w W : World) (N c B8 B9 n : Nat) (D : DataW Unit) (r : Rt) : Prop where
  at8 : PairAt W B8 r.frm r.dst r.per
  at9 : PairAt W B9 r.dst r.frm r.per
  rt : RtAt W c 0 r
  tab : TabAt W N n D
  bel : Below N w W
  l8 : B8 < W.heap.size
  l9 : B9 < W.heap.size
  lc : c < W.heap.size
  n8 : N < B8
  n9 : N < B9
  nc : N < c

theorem keys2_of {w wr w1 : World} {n : Nat} {D : DataW Unit} {r : Rt} {T : TypeId} (hb : Below (wr.heap.size + 1) (wr.alloc (.cells r.cells T)) w1) (ht : TabAt wr w.heap.size n D) (hw : Below w.heap.size w wr) (T2 : TypeId) :
    Keys2 w ((w1.alloc (.cells #[.string r.frm, .string r.dst, .int .i64 r.per] T2)).alloc (.cells #[.string r.dst, .string r.frm, .int .i64 r.per] T2)).drew w.heap.size wr.heap.size w1.heap.size (w1.heap.size + 1) n D r ∧
    Keys2 w ((w1.alloc (.cells #[.string r.dst, .string r.frm, .int .i64 r.per] T2)).alloc (.cells #[.string r.frm, .string r.dst, .int .i64 r.per] T2)).drew w.heap.size wr.heap.size (w1.heap.size + 1) w1.heap.size n D r := by
  have hlt := ht.lt
  have h1 : wr.heap.size + 1 ≤ w1.heap.size := by have := hb.size; simpa using this
  have t0 : TabAt (wr.alloc (.cells r.cells T)) w.heap.size n D := ht.alloc _
  have t1 : TabAt w1 w.heap.size n D := by
    obtain ⟨es, clock, q1, q2⟩ := t0
    exact ⟨es, clock, (hb.block _ (by omega)).trans q1, q2⟩
  have r1 : RtAt w1 wr.heap.size 0 r := (RtAt.new wr r T).below hb (by omega)
  have B1 : Below w.heap.size w w1 := (hw.alloc (by omega) _).trans (hb.mono (by omega))
  have gen : ∀ (o1 o2 : Obj), TabAt ((w1.alloc o1).alloc o2).drew w.heap.size n D ∧ RtAt ((w1.alloc o1).alloc o2).drew wr.heap.size 0 r ∧ Below w.heap.size w ((w1.alloc o1).alloc o2).drew ∧ ((w1.alloc o1).alloc o2).drew.heap.size = w1.heap.size + 2 := fun o1 o2 => by
    have B2 : Below w1.heap.size w1 ((w1.alloc o1).alloc o2).drew := (((Below.refl _ _).alloc (Nat.le_refl _) o1).alloc (by simp) o2).drew
    exact ⟨((t1.alloc o1).alloc o2).drew, r1.below B2 (by omega), B1.trans (B2.mono (by omega)), by simp⟩
  have two : ∀ (f t f' t' : ByteArray) (p p' : Int), PairAt ((w1.alloc (.cells #[.string f, .string t, .int .i64 p] T2)).alloc (.cells #[.string f', .string t', .int .i64 p'] T2)).drew w1.heap.size f t p ∧
      PairAt ((w1.alloc (.cells #[.string f, .string t, .int .i64 p] T2)).alloc (.cells #[.string f', .string t', .int .i64 p'] T2)).drew (w1.heap.size + 1) f' t' p' := fun f t f' t' p p' => by
    constructor
    · exact (PairAt.new w1 f t p T2).below ((Below.refl _ _).alloc (Nat.le_refl _) _).drew (by simp)
    · have := PairAt.new (w1.alloc (.cells #[.string f, .string t, .int .i64 p] T2)) f' t' p' T2
      rw [show (w1.alloc (.cells #[.string f, .string t, .int .i64 p] T2)).heap.size = w1.heap.size + 1 by simp] at this
      exact ⟨this.c0, this.c1, this.c2⟩
  constructor
  · obtain ⟨g1, g2, g3, g4⟩ := gen (.cells #[.string r.frm, .string r.dst, .int .i64 r.per] T2) (.cells #[.string r.dst, .string r.frm, .int .i64 r.per] T2)
    obtain ⟨p1, p2⟩ := two r.frm r.dst r.dst r.frm r.per r.per
    exact ⟨p1, p2, g2, g1, g3, by omega, by omega, by omega, by omega, by omega, by omega⟩
  · obtain ⟨g1, g2, g3, g4⟩ := gen (.cells #[.string r.dst, .string r.frm, .int .i64 r.per] T2) (.cells #[.string r.frm, .string r.dst, .int .i64 r.per] T2)
    obtain ⟨p1, p2⟩ := two r.dst r.frm r.frm r.dst r.per r.per
    exact ⟨p2, p1, g2, g1, g3, by omega, by omega, by omega, by omega, by omega, by omega⟩

/-- The cells that both stores read. -/
def Reads2 (B8 B9 c : Nat) (f t : ByteArray) (p n d : Int) (x : World) : Prop :=
  (x.cell? ⟨B8, 0, none⟩ = some (.string f) ∧ x.cell? ⟨B8, 1, none⟩ = some (.string t) ∧ x.cell? ⟨B8, 2, none⟩ = some (.int .i64 p)) ∧
  (x.cell? ⟨B9, 0, none⟩ = some (.string t) ∧ x.cell? ⟨B9, 1, none⟩ = some (.string f) ∧ x.cell? ⟨B9, 2, none⟩ = some (.int .i64 p)) ∧
  x.cell? ⟨c, 3, none⟩ = some (.int .i64 n) ∧ x.cell? ⟨c, 4, none⟩ = some (.int .i64 d)

theorem reads2_of {w W : World} {N c B8 B9 k : Nat} {D : DataW Unit} {r : Rt} (h : Keys2 w W N c B8 B9 k D r) : Reads2 B8 B9 c r.frm r.dst r.per r.num r.den W := by
  obtain ⟨a0, a1, a2⟩ := h.at8
  obtain ⟨b0, b1, b2⟩ := h.at9
  obtain ⟨c0, c1, c2, c3, c4⟩ := h.rt
  simp only [Nat.zero_add] at c3 c4
  exact ⟨⟨a0, a1, a2⟩, ⟨b0, b1, b2⟩, c3, c4⟩

theorem reads2_grown {x y : World} {N c B8 B9 : Nat} {f t : ByteArray} {p n d : Int} (h : Reads2 B8 B9 c f t p n d x) (hg : x.grownBy y (some N)) (h8 : B8 < x.heap.size ∧ N < B8) (h9 : B9 < x.heap.size ∧ N < B9) (hc : c < x.heap.size ∧ N < c) : Reads2 B8 B9 c f t p n d y := by
  have g : ∀ b o, b < x.heap.size ∧ N < b → y.cell? ⟨b, o, none⟩ = x.cell? ⟨b, o, none⟩ := fun b o hb =>
    World.cell?_of_block (w := x) (a := ⟨b, o, none⟩) (hg.block b hb.1 (fun e => by cases e; omega))
  unfold Reads2
  rw [g B8 0 h8, g B8 1 h8, g B8 2 h8, g B9 0 h9, g B9 1 h9, g B9 2 h9, g c 3 hc, g c 4 hc]
  exact h

theorem keys2_alloc {w W : World} {N c B8 B9 k : Nat} {D : DataW Unit} {r : Rt} (h : Keys2 w W N c B8 B9 k D r) (o : Obj) : Keys2 w (W.alloc o).drew N c B8 B9 k D r := by
  have B : Below W.heap.size W (W.alloc o).drew := ((Below.refl _ _).alloc (Nat.le_refl _) _).drew
  have sz : (W.alloc o).drew.heap.size = W.heap.size + 1 := by simp
  exact ⟨h.at8.below B h.l8, h.at9.below B h.l9, h.rt.below B h.lc, (h.tab.alloc o).drew, h.bel.trans (B.mono (by have := h.tab.lt; omega)), by have := h.l8; omega, by have := h.l9; omega, by have := h.lc; omega, h.n8, h.n9, h.nc⟩

theorem put2 {w W : World} {N c B8 B9 k : Nat} {D : DataW Unit} {f t : ByteArray} {p n d : Int} (h : Keys2 w W N c B8 B9 k D ⟨f, t, p, n, d⟩) (hk : k + 1 < maxLen)
    (h1 : keyOf Tryd.prog 64 (pairV f t p) = some (keyL f t p)) (h2 : keyOf Tryd.prog 64 (pairV t f p) = some (keyL t f p)) :
    ∃ w3 w4, (Instr.mapUpdate 42 (.map (some N)) (.agg #[.string f, .string t, .int .i64 p]) (.agg #[.int .i64 n, .int .i64 d])).run Tryd.prog W = .ok () w3 ∧
      (Instr.mapUpdate 42 (.map (some N)) (.agg #[.string t, .string f, .int .i64 p]) (.agg #[.int .i64 d, .int .i64 n])).run Tryd.prog w3 = .ok () w4 ∧
      Reads2 B8 B9 c f t p n d W ∧ Reads2 B8 B9 c f t p n d w3 ∧ Reads2 B8 B9 c f t p n d w4 ∧ TabAt w4 N (k + 1 + 1) (tabPut D ⟨f, t, p, n, d⟩) ∧ Below N w w4 := by
  have hlt := h.tab.lt
  obtain ⟨w3, q1, t3, g3⟩ := h.tab.update pair_law Tryd.underlying42 (by omega) h1 (worthR_mk n d)
  obtain ⟨w4, q2, t4, g4⟩ := t3.update pair_law Tryd.underlying42 hk h2 (worthR_mk d n)
  have R0 := reads2_of h
  have s3 := g3.size
  have l8 := h.l8
  have l9 := h.l9
  have lc := h.lc
  have R3 := reads2_grown R0 g3 ⟨l8, h.n8⟩ ⟨l9, h.n9⟩ ⟨lc, h.nc⟩
  have R4 := reads2_grown R3 g4 ⟨by omega, h.n8⟩ ⟨by omega, h.n9⟩ ⟨by omega, h.nc⟩
  have B3 := h.bel.grown g3 (by omega) (fun k e => by cases e; exact Nat.le_refl _)
  have B4 := B3.grown g4 (by omega) (fun k e => by cases e; exact Nat.le_refl _)
  exact ⟨w3, w4, q1, q2, R0, R3, R4, t4, B4⟩

theorem drop_get (l : List Rt) (k : Nat) (h : k < l.length) : l.drop k = l.getD k rt0 :: l.drop (k + 1) := by
  rw [List.drop_eq_getElem_cons h, List.getD_eq_getElem?_getD, List.getElem?_eq_getElem h]
  rfl

set_option maxRecDepth 100000 in
set_option maxHeartbeats 2000000 in
theorem table_some (b off cap : Nat) (rs : List Rt) (w : World) (hb : b < w.heap.size) (hlen : rs.length ≤ 100) (hcap : rs.length ≤ cap)
    (hc : ∀ k, k < rs.length → RtAt w b (off + k * 5) (rs.getD k rt0)) (hsz : ∀ k, k < rs.length → (rs.getD k rt0).frm.size ≤ maxLen ∧ (rs.getD k rt0).dst.size ≤ maxLen) (hp : ∀ k, k < rs.length → (Lit.int .i64 (rs.getD k rt0).per).wf = true) :
    Calls Tryd.prog 14 #[.slice (some ⟨b, off, none⟩) rs.length cap] w (TabEnd w (tabS rs)) := by
  have hmm := make_tab
  have Hlen : (rs.length : Int) ≤ 100 := by omega
  have Hc : Hid (∀ k, k < rs.length → RtAt w b (off + k * 5) (rs.getD k rt0)) := hc
  have Hs : Hid (∀ k, k < rs.length → (rs.getD k rt0).frm.size ≤ maxLen ∧ (rs.getD k rt0).dst.size ≤ maxLen) := hsz
  have Hp : Hid (∀ k, k < rs.length → (Lit.int .i64 (rs.getD k rt0).per).wf = true) := hp
  clear hc hsz hp
  go_enter Tryd.func14, Tryd.ntmps14
  go_wp2
  go_loopw [22] (fun i wr => ∃ (k : Nat) (D : DataW Unit), k ≤ rs.length ∧ i = .int .i64 k ∧ Hid (TabAt wr w.heap.size (2 * k) D ∧ Below w.heap.size w wr ∧ tabGo D (rs.drop k) = tabS rs)) (fun i _ => rs.length - (intOf i).toNat)
  case atStart => exact ⟨0, .map [], Nat.zero_le _, rfl, World.ownsMap_made _ _ _ _, (Below.refl _ _).alloc (Nat.le_refl _) _, by rw [tabS_go (by omega)]; rfl⟩
  case round =>
    obtain ⟨k, D, hk, rfl, H⟩ := hrel
    by_cases hlt : k < rs.length
    · have hn := (Hc.out k hlt).below H.out.2.1 hb
      obtain ⟨r, hr⟩ : ∃ r, rs.getD k rt0 = r := ⟨_, rfl⟩
      rw [hr] at hn
      obtain ⟨f, t, p, n, d⟩ := r
      obtain ⟨c0, c1, c2, c3, c4⟩ := hn
      simp only at c0 c1 c2 c3 c4
      have i0 : (0 : Int) ≤ k := by omega
      have i1 : (k : Int) < rs.length := by omega
      go_wp2_with fail
      refine (check_any ⟨f, t, p, n, d⟩ _).mono ?_
      rintro e w1 ⟨rfl, hb1⟩
      have hw1 : wr.heap.size + 1 ≤ w1.heap.size := by have := hb1.size; simpa using this
      have hn1 := (RtAt.new wr ⟨f, t, p, n, d⟩ 39).below hb1 (by simp)
      have hb1' : Below (wr.heap.size + 1) (wr.alloc (.cells (Rt.cells ⟨f, t, p, n, d⟩) 39)) w1 := hb1.mono (by simp)
      have K2 : Hid (_ ∧ _) := keys2_of hb1' H.out.1 H.out.2.1 64
      have B1 := (H.out.2.1.alloc (by have := H.out.1.lt; omega) (.cells (Rt.cells ⟨f, t, p, n, d⟩) 39)).trans (hb1'.mono (by have := H.out.1.lt; omega))
      have HB1 : Hid (Below w.heap.size w w1) := B1
      clear hb1 hb1' B1 c0 c1 c2 c3 c4
      obtain ⟨c0, c1, c2, c3, c4⟩ := hn1
      simp only [Nat.zero_add] at c0 c1 c2 c3 c4
      have Hr : Hid (rs.getD k rt0 = ⟨f, t, p, n, d⟩) := hr
      clear hr
      by_cases hbad : rateBad ⟨f, t, p, n, d⟩ = 0
      · rw [hbad, errV_zero]
        go_wp2_with fail
        go_region_held3 (fun w' => w'.cell? ⟨wr.heap.size, 0, none⟩ = some (.string f) ∧ w'.cell? ⟨wr.heap.size, 1, none⟩ = some (.string t) ∧ w'.cell? ⟨wr.heap.size, 2, none⟩ = some (.int .i64 p)) (go_keep) (fail)
        · have K := K2.out.1
          clear K2 HB1 hw1
          try dsimp only at K
          generalize ((w1.alloc (.cells #[.string f, .string t, .int .i64 p] 64)).alloc (.cells #[.string t, .string f, .int .i64 p] 64)).drew = W2 at K ⊢
          generalize w1.heap.size + 1 = B9 at K ⊢
          generalize w1.heap.size = B8 at K ⊢
          generalize wr.heap.size = c at K ⊢
          have HK : Hid (Keys2 w W2 w.heap.size c B8 B9 (2 * k) D ⟨f, t, p, n, d⟩) := K
          clear c0 c1 c2 c3 c4
          obtain ⟨⟨a0, a1, a2⟩, ⟨b0, b1, b2⟩, ⟨c0, c1, c2, c3, c4⟩, K4, K5, l8, l9, lc, n8, n9, nc⟩ := K
          simp only [Nat.zero_add] at a0 a1 a2 b0 b1 b2 c0 c1 c2 c3 c4
          clear K4 K5
          have hkey := keyOf_pair (f := f) (t := t) (p := p) (by have := (Hs.out k hlt).1; rw [Hr.out] at this; exact this) (by have := (Hs.out k hlt).2; rw [Hr.out] at this; exact this) (by have := Hp.out k hlt; rw [Hr.out] at this; exact this)
          have hkey2 := keyOf_pair (f := t) (t := f) (p := p) (by have := (Hs.out k hlt).2; rw [Hr.out] at this; exact this) (by have := (Hs.out k hlt).1; rw [Hr.out] at this; exact this) (by have := Hp.out k hlt; rw [Hr.out] at this; exact this)
          have Hkey : Hid (keyOf Tryd.prog 64 (pairV f t p) = some (keyL f t p)) := hkey
          have Hkey2 : Hid (keyOf Tryd.prog 64 (pairV t f p) = some (keyL t f p)) := hkey2
          clear hkey hkey2
          cases hh : has D (keyL f t p)
          · go_wp2_with (first | (at_lookup; refine look_worth _ rfl rfl _ _ rfl w.heap.size (2 * k) D rfl HK.out.tab _ _ rfl Hkey.out ?_; intro pp qq hpq) | go_in)
            clear hpq
            obtain ⟨w3, w4, q1, q2, R2, R3, R4, T4, B4⟩ := put2 (keys2_alloc HK.out (.cells #[.int .i64 pp, .int .i64 qq] 61)) (by unfold maxLen; omega) Hkey.out Hkey2.out
            have HT : Hid (TabAt w4 w.heap.size (2 * k + 1 + 1) (tabPut D ⟨f, t, p, n, d⟩) ∧ Below w.heap.size w w4) := ⟨T4, B4⟩
            clear T4 B4
            go_region_held3 (fun x => (x.cell? ⟨B8, 0, none⟩ = some (.string f) ∧ x.cell? ⟨B8, 1, none⟩ = some (.string t) ∧ x.cell? ⟨B8, 2, none⟩ = some (.int .i64 p)) ∧ (x.cell? ⟨B9, 0, none⟩ = some (.string t) ∧ x.cell? ⟨B9, 1, none⟩ = some (.string f) ∧ x.cell? ⟨B9, 2, none⟩ = some (.int .i64 p)) ∧ x.cell? ⟨c, 3, none⟩ = some (.int .i64 n) ∧ x.cell? ⟨c, 4, none⟩ = some (.int .i64 d)) (first | exact R2 | exact R3 | exact R4) (fail)
            go_wp2
            go_roundw
            case rel =>
              refine ⟨k + 1, tabPut D ⟨f, t, p, n, d⟩, by omega, by go_num, HT.out.1, HT.out.2, ?_⟩
              rw [← H.out.2.2, drop_get rs k hlt, Hr.out]
              exact (tabGo_step hbad hh).symm
            case measure => simp [intOf]; omega
          · go_wp2_with (first | (at_lookup; refine look_worth _ rfl rfl _ _ rfl w.heap.size (2 * k) D rfl HK.out.tab _ _ rfl Hkey.out ?_; intro pp qq hpq) | go_in)
            go_ret2
            have E : tabS rs = (8, D) := by
              rw [← H.out.2.2, drop_get rs k hlt, Hr.out]
              exact tabGo_clash hbad hh
            rw [E]
            exact ⟨HK.out.bel.alloc (by have := HK.out.tab.lt; omega) _, fun _ => rfl, fun h => by cases h⟩
        · have K := K2.out.2
          clear K2 HB1 hw1
          try dsimp only at K
          generalize ((w1.alloc (.cells #[.string t, .string f, .int .i64 p] 64)).alloc (.cells #[.string f, .string t, .int .i64 p] 64)).drew = W2 at K ⊢
          generalize w1.heap.size + 1 = B8 at K ⊢
          generalize w1.heap.size = B9 at K ⊢
          generalize wr.heap.size = c at K ⊢
          have HK : Hid (Keys2 w W2 w.heap.size c B8 B9 (2 * k) D ⟨f, t, p, n, d⟩) := K
          clear c0 c1 c2 c3 c4
          obtain ⟨⟨a0, a1, a2⟩, ⟨b0, b1, b2⟩, ⟨c0, c1, c2, c3, c4⟩, K4, K5, l8, l9, lc, n8, n9, nc⟩ := K
          simp only [Nat.zero_add] at a0 a1 a2 b0 b1 b2 c0 c1 c2 c3 c4
          clear K4 K5
          have hkey := keyOf_pair (f := f) (t := t) (p := p) (by have := (Hs.out k hlt).1; rw [Hr.out] at this; exact this) (by have := (Hs.out k hlt).2; rw [Hr.out] at this; exact this) (by have := Hp.out k hlt; rw [Hr.out] at this; exact this)
          have hkey2 := keyOf_pair (f := t) (t := f) (p := p) (by have := (Hs.out k hlt).2; rw [Hr.out] at this; exact this) (by have := (Hs.out k hlt).1; rw [Hr.out] at this; exact this) (by have := Hp.out k hlt; rw [Hr.out] at this; exact this)
          have Hkey : Hid (keyOf Tryd.prog 64 (pairV f t p) = some (keyL f t p)) := hkey
          have Hkey2 : Hid (keyOf Tryd.prog 64 (pairV t f p) = some (keyL t f p)) := hkey2
          clear hkey hkey2
          cases hh : has D (keyL f t p)
          · go_wp2_with (first | (at_lookup; refine look_worth _ rfl rfl _ _ rfl w.heap.size (2 * k) D rfl HK.out.tab _ _ rfl Hkey.out ?_; intro pp qq hpq) | go_in)
            clear hpq
            obtain ⟨w3, w4, q1, q2, R2, R3, R4, T4, B4⟩ := put2 (keys2_alloc HK.out (.cells #[.int .i64 pp, .int .i64 qq] 61)) (by unfold maxLen; omega) Hkey.out Hkey2.out
            have HT : Hid (TabAt w4 w.heap.size (2 * k + 1 + 1) (tabPut D ⟨f, t, p, n, d⟩) ∧ Below w.heap.size w w4) := ⟨T4, B4⟩
            clear T4 B4
            go_region_held3 (fun x => (x.cell? ⟨B8, 0, none⟩ = some (.string f) ∧ x.cell? ⟨B8, 1, none⟩ = some (.string t) ∧ x.cell? ⟨B8, 2, none⟩ = some (.int .i64 p)) ∧ (x.cell? ⟨B9, 0, none⟩ = some (.string t) ∧ x.cell? ⟨B9, 1, none⟩ = some (.string f) ∧ x.cell? ⟨B9, 2, none⟩ = some (.int .i64 p)) ∧ x.cell? ⟨c, 3, none⟩ = some (.int .i64 n) ∧ x.cell? ⟨c, 4, none⟩ = some (.int .i64 d)) (first | exact R2 | exact R3 | exact R4) (fail)
            go_wp2
            go_roundw
            case rel =>
              refine ⟨k + 1, tabPut D ⟨f, t, p, n, d⟩, by omega, by go_num, HT.out.1, HT.out.2, ?_⟩
              rw [← H.out.2.2, drop_get rs k hlt, Hr.out]
              exact (tabGo_step hbad hh).symm
            case measure => simp [intOf]; omega
          · go_wp2_with (first | (at_lookup; refine look_worth _ rfl rfl _ _ rfl w.heap.size (2 * k) D rfl HK.out.tab _ _ rfl Hkey.out ?_; intro pp qq hpq) | go_in)
            go_ret2
            have E : tabS rs = (8, D) := by
              rw [← H.out.2.2, drop_get rs k hlt, Hr.out]
              exact tabGo_clash hbad hh
            rw [E]
            exact ⟨HK.out.bel.alloc (by have := HK.out.tab.lt; omega) _, fun _ => rfl, fun h => by cases h⟩
      · rw [show errV (rateBad ⟨f, t, p, n, d⟩) = .iface 40 (.int .i64 (rateBad ⟨f, t, p, n, d⟩)) from if_neg hbad]
        have E : Hid (tabS rs = (rateBad ⟨f, t, p, n, d⟩, D)) := by
          rw [Hid, ← H.out.2.2, drop_get rs k hlt, Hr.out]
          exact tabGo_bad hbad
        go_wp2
        go_ret2
        rw [E.out]
        exact ⟨HB1.out, fun _ => by rw [show errV (rateBad ⟨f, t, p, n, d⟩) = .iface 40 (.int .i64 (rateBad ⟨f, t, p, n, d⟩)) from if_neg hbad]; rfl, fun h => absurd h hbad⟩
    · have hk2 : k = rs.length := by omega
      subst hk2
      go_wp2
      go_ret2
      have E : tabS rs = (0, D) := by rw [← H.out.2.2, List.drop_length, tabGo_nil]
      rw [E]
      exact ⟨H.out.2.1, fun h => absurd rfl h, fun _ => ⟨_, rfl, Nat.le_refl _, H.out.1.mono (by omega)⟩⟩
end Go.Proofs.YtoggclbhjoodoaaDoor
