/-
  daylaw2.FrameBack, walked.
-/
import Derived.Test.YtaimimhpjbahmaaFrE
import Derived.Test.YtaimimhpjbahmaaFrB2
import Derived.Test.YtaimimhpjbahmaaFrB3
import Derived.Deep.DeepAppendWide
import Derived.Laws.AppendOwnNone
namespace Go.Proofs.Ytaimimhpjbahmaa
set_option linter.unusedVariables false
set_option linter.unusedSimpArgs false
set_option maxRecDepth 100000
open Go.RowKit Go.Lib

theorem by_srcs {W : World} {b off : Nat} {l : List UInt8} (h : ∀ k (hk : k < l.length), W.cell? ⟨b, off + k, none⟩ = some (.int .u8 (l[k]'hk).toNat)) : ∀ j u, (byC l)[j]? = some u → W.cell? ((⟨b, off, none⟩ : Addr).add j) = some u := by
  intro j u hj
  rw [by_add]
  have hlt := (List.getElem?_eq_some_iff.1 hj).1
  rw [byC_length] at hlt
  rw [h j hlt, ← byC_get l j hlt, hj]
/-- Bytes behind bytes of one's own. -/
theorem append_by {w : World} {ops : Array Oper} {rest : List Oper} {o : Oper} {a : Act} {Q : Exit → Act → World → Prop} (hgd : o.guard = none) (s x : Operand)
    (ho : o.op = .call { callee := .builtin .append, args := #[s, x], argTypes := #[26, 26] }) (base : Nat) (v : Value) (l0 : List UInt8) (hs : a.eval s = v) (hown : ByRow w base v l0)
    (ad : Option Addr) (l : List UInt8) (c : Nat) (hx : a.eval x = .slice ad l.length c) (hby : IsBy w ad l c) (hnil : ad = none → c = 0) (hb : l0.length + l.length ≤ 140737488400000) (hbase : base ≤ w.heap.size)
    (h : ∀ v' w', ByRow w' base v' (l0 ++ l) → w.grownBy w' v.ownBlock → wpList Try.prog ops Q rest (a.put o.dst v') w') : wpList Try.prog ops Q (o :: rest) a w := by
  obtain ⟨i0, hi, hz0, hz1, hz2⟩ := info_parts by_info
  have fin : ∀ v' w', w'.ownsRow base 5 1 v' (l0.length + l.length) (byC l0 ++ byC l) → w.grownBy w' v.ownBlock → wpList Try.prog ops Q rest (a.put o.dst v') w' := fun v' w' q1 q2 => by
    refine h v' w' ?_ q2
    unfold ByRow
    rw [byC_append, List.length_append]
    exact q1
  have h63 : l0.length + l.length ≤ maxLen := by unfold maxLen; omega
  have hbb : ((l0.length + l.length) + (l0.length + l.length) / 4 + 192) * 1 ≤ 281474976710656 := by omega
  cases ad with
  | none =>
    have hl : l = [] := by
      rcases hby.lies with h | ⟨b, off, e, _⟩
      · exact h
      · cases e
    subst hl
    have hc0 := hnil rfl
    subst hc0
    exact wpList_append_own_none hgd s x 26 ho base 5 i0 1 Try.underlying26 hi v l0.length (byC l0) hs hown hx (h v w (by simpa using hown) ⟨rfl, rfl, rfl, Nat.le_refl _, fun _ _ _ => rfl⟩)
  | some ad =>
    refine wpList_append_own_wide _ hgd s x 26 ho base 5 i0 (.int .u8 0) 1 1 Try.underlying26 hi hz0 hz1 hz2 rfl (by decide) v l0.length (byC l0) hs hown ad l.length c (byC l) hx (by rw [byC_length, Nat.mul_one]) ?_ (byC_one _) h63 hbb hbase (fun v' w' q1 q2 _ => fin v' w' q1 q2)
    rcases hby.lies with h | ⟨b, off, e, hlt, hc⟩
    · subst h
      intro j u hj
      simp [byC] at hj
    · cases e
      exact by_srcs hc

/-- Bytes that balances stand at the beginning of, or none. -/
theorem readsB_some {x : List Bl} {r : List UInt8} (a : Option Addr) (cap : Nat) (l : List UInt8) (w : World) (hl : l.length ≤ 9223372036854775807) (h : IsBy w a l cap) (hr : balS (some l) = (x, some r)) :
    Calls Try.prog 8 #[.slice a l.length cap] w fun e w' =>
      ∃ v, e = .returned (.tuple #[v, .int .i64 (balB x).length, .nilIface]) ∧ BlRow w' w.heap.size v x ∧ Below w.heap.size w w' := by
  have hlen : (l.length : Int) - r.length = (balB x).length := by
    have h1 : (balS (some l)).2 = some r := by rw [hr]
    have := (balS_back h1).1
    rw [hr] at this
    have h2 := congrArg List.length this
    rw [List.length_append] at h2
    simp only at h2
    omega
  have H := fReadBals_any a cap l w hl h
  rw [hr] at H
  refine H.mono ?_
  rintro e w' ⟨⟨h1, _⟩ | ⟨r', v, h1, rfl, hrow⟩, hb⟩
  · cases h1
  · cases h1
    refine ⟨v, ?_, hrow, hb⟩
    rw [hlen]
theorem readsB_none (a : Option Addr) (cap : Nat) (l : List UInt8) (w : World) (hl : l.length ≤ 9223372036854775807) (h : IsBy w a l cap) (hr : (balS (some l)).2 = none) :
    Calls Try.prog 8 #[.slice a l.length cap] w fun e w' =>
      e = .returned (.tuple #[.slice none 0 0, .int .i64 0, .iface 39 (.int .i64 9)]) ∧ Below w.heap.size w w' := by
  refine (fReadBals_any a cap l w hl h).mono ?_
  rintro e w' ⟨⟨_, rfl⟩ | ⟨r', v, h1, _⟩, hb⟩
  · exact ⟨rfl, hb⟩
  · rw [hr] at h1; cases h1
theorem balLen {l : List Bl} (h : BlsFit l) : (balB l).length ≤ 17610 := by
  rw [← balW_fit h]
  have i1 : ∀ x ∈ l, I64B x := fun x hx => by
    have := fit_mem h x hx
    obtain ⟨⟨q1, q2⟩, _, _, q3, q4⟩ := this
    unfold mostA at q3 q4
    exact ⟨⟨by omega, by omega⟩, by omega, by omega⟩
  have j1 := blsW_length l i1
  have j2 := @numB_length l.length (by have := h.1; omega) (by have := h.1; omega)
  have := h.1
  rw [List.length_append]
  omega

/-- The entry of the law's own. -/
def eFix : En := ⟨⟨#[97]⟩, 1, 2, []⟩
theorem eFix_fit : EnFit eFix := ⟨by decide, by decide, by decide, by decide, by simp [eFix]⟩
theorem eFix_len : (entB eFix).length = 5 := by
  have h0 : numB 0 = [0] := by unfold numB; rw [show zig 0 = 0 from rfl, encU_lt (by omega)]; rfl
  have h1 : numB 1 = [2] := by unfold numB; rw [show zig 1 = 2 from rfl, encU_lt (by omega)]; rfl
  have h2 : numB 2 = [4] := by unfold numB; rw [show zig 2 = 4 from rfl, encU_lt (by omega)]; rfl
  have e1 : ((⟨#[97]⟩ : ByteArray).size : Int) = 1 := rfl
  simp [entB, eFix, textB, linesB, e1, h0, h1, h2]

set_option maxHeartbeats 8000000 in
theorem back_walk (r : ByteArray) (en pe : Int) (a : Option Addr) (cap : Nat) (l : List Ln) (a2 : Option Addr) (cap2 : Nat) (bl : List Bl) (a3 : Option Addr) (cap3 : Nat) (bs : List UInt8) (w : World)
    (hen : I64 en) (hpe : I64 pe) (hwf : ∀ x ∈ l, I64 x.amt) (h : IsLn w a l cap) (hbl : bl.length ≤ maxLen) (hwb : ∀ x ∈ bl, I64B x) (h2 : IsBl w a2 bl cap2) (hbs : bs.length ≤ 140737488351232) (h3 : IsBy w a3 bs cap3) (hnil : a3 = none → cap3 = 0) :
    Calls Try.prog 3 #[.agg #[.string r, .int .i64 en, .int .i64 pe, .slice a l.length cap], .slice a2 bl.length cap2, .slice a3 bs.length cap3] w fun e w' => e = .returned (.bool true) ∧ Below w.heap.size w w' := by
  obtain ⟨W0, hW0⟩ : ∃ W0, w.alloc (.cells #[.string r, .int .i64 en, .int .i64 pe, .slice a l.length cap] 24) = W0 := ⟨_, rfl⟩
  have b0 : Below w.heap.size w W0 := by rw [← hW0]; exact (Below.refl _ w).alloc (Nat.le_refl _) _
  have x0 := Box4.new w r en pe (.slice a l.length cap)
  have hs0 : W0.heap.size = w.heap.size + 1 := by rw [← hW0]; simp
  rw [hW0] at x0
  have HL : Hid (IsLn w a l cap) := h
  have HBl : Hid (IsBl w a2 bl cap2) := h2
  have HBy : Hid (IsBy w a3 bs cap3) := h3
  have Hwf : Hid (∀ x ∈ l, I64 x.amt) := hwf
  have Hwb : Hid (∀ x ∈ bl, I64B x) := hwb
  have Hnil : Hid (a3 = none → cap3 = 0) := hnil
  have HE0 : Hid (Calls _ _ _ _ _) := fEntry_any ⟨#[97]⟩ 1 2 none 0 [] W0 (by unfold I64; omega) (by unfold I64; omega) (by simp) (isLn_nil _)
  have hbs' : (bs.length : Int) ≤ 140737488351232 := by omega
  have hbl' : (bl.length : Int) ≤ 9223372036854775807 := by unfold maxLen at hbl; omega
  clear h h2 h3 hwf hwb hnil
  have HW0 : Hid (_ = W0) := hW0
  have Hx0 : Hid (Box4 W0 _ _ _ _ _) := x0
  have Hb0 : Hid (Below w.heap.size w W0) := b0
  clear hW0 x0 b0
  go_enter Try.func3, Try.ntmps3
  go_wp2_with fail
  rw [HW0.out]
  clear HW0
  refine HE0.out.mono ?_
  rintro e w1 ⟨⟨hbad, _⟩ | ⟨h0, v1, rfl, r1⟩, b1⟩
  · exact absurd (entBad_zero.2 eFix_fit) hbad
  have r1 : ByRow w1 W0.heap.size v1 (entB eFix) := r1
  obtain ⟨a1, c1, e1, _⟩ := r1.isBy
  rw [eFix_len] at e1
  subst e1
  have x1 := Hx0.out.below b1 (by omega)
  have HB1 : Hid (Below w.heap.size w w1) := Hb0.out.trans (b1.mono (by omega))
  have hN1 : w.heap.size < w1.heap.size := by have := b1.size; omega
  have HE1 : Hid (Calls _ _ _ _ _) := fEntry_any r en pe a cap l w1 hen hpe Hwf.out (HL.out.below HB1.out)
  have Hx1 : Hid (Box4 w1 _ _ _ _ _) := x1
  have d0 := x1.c0
  have d1 := x1.c1
  have d2 := x1.c2
  have d3 := x1.c3
  clear HE0 h0 r1 b1 x1 Hx0 Hb0 hs0
  go_wp2_with fail
  refine HE1.out.mono ?_
  rintro e w2 ⟨⟨hbad, rfl⟩ | ⟨h0, v2, rfl, r2⟩, b2⟩
  · rw [enE_ne hbad]
    have HBA : Hid (Below w.heap.size w w2) := HB1.out.trans (b2.mono HB1.out.size)
    generalize entBad ⟨r, en, pe, l⟩ = bad at *
    have hbb : bad ≠ 0 := hbad
    clear HE1 b2 HB1 Hx1 d0 d1 d2 d3 hN1
    obtain ⟨wA, hwA⟩ : ∃ wA, wA = w2 := ⟨_, rfl⟩
    subst hwA
    have HE2 : Hid (Calls _ _ _ _ _) := fBalances_any a2 cap2 bl wA hbl Hwb.out (HBl.out.below HBA.out)
    go_wp2_with fail
    refine HE2.out.mono ?_
    rintro e v2 ⟨⟨hbadB, rfl⟩ | ⟨hB0, vB, rfl, rB⟩, bB⟩
    · rw [enE_ne hbadB]
      have HBB : Hid (Below w.heap.size w v2) := HBA.out.trans (bB.mono HBA.out.size)
      generalize balBad bl = badB at *
      have hbbB : badB ≠ 0 := hbadB
      clear HE2 bB HBA
      obtain ⟨wB, hwB⟩ : ∃ wB, wB = v2 := ⟨_, rfl⟩
      subst hwB
      cases hrd : rdE bs with
      | none =>
        have HR9 : Hid (Calls _ _ _ _ _) := reads_none a3 cap3 bs wB (by omega) (HBy.out.below HBB.out) hrd
        clear hrd
        go_wp2_with fail
        refine HR9.out.mono ?_
        rintro e z1 ⟨rfl, bz1⟩
        have HBz : Hid (Below w.heap.size w z1) := HBB.out.trans (bz1.mono HBB.out.size)
        clear HR9 bz1
        go_wp2
        go_ret
        exact ⟨rfl, HBz.out.alloc HBz.out.size _⟩
      | some xr =>
        obtain ⟨y, rest⟩ := xr
        obtain ⟨hyb, hyf⟩ := rdE_back hrd
        have hyl : (entB y).length ≤ bs.length := by rw [hyb, List.length_append]; omega
        have htk : bs.take (entB y).length = entB y := by rw [hyb, List.take_left]
        have hyI : I64 y.ent ∧ I64 y.per ∧ ∀ x ∈ y.lns, I64 x.amt := by
          obtain ⟨_, g2, g3, _, g5⟩ := hyf
          refine ⟨⟨by omega, by omega⟩, ⟨by omega, by omega⟩, fun x hx => ?_⟩
          have := (g5 x hx).2.2
          unfold mostA at this
          exact ⟨by omega, by omega⟩
        have hyE := entBad_zero.2 hyf
        have HR9 : Hid (Calls _ _ _ _ _) := reads_some (x := y) (r := rest) a3 cap3 bs wB (by omega) (HBy.out.below HBB.out) hrd
        obtain ⟨y0, y1, y2, y3⟩ := y
        obtain ⟨Z, hZ⟩ : ∃ Z, entB ⟨y0, y1, y2, y3⟩ = Z := ⟨_, rfl⟩
        have HZ : Hid (entB ⟨y0, y1, y2, y3⟩ = Z) := hZ
        rw [hZ] at HR9 hyl htk
        simp only at HR9 hyI
        have Htk : Hid (bs.take Z.length = Z) := htk
        have HyE : Hid (entBad ⟨y0, y1, y2, y3⟩ = 0) := hyE
        have HyI : Hid (I64 y1 ∧ I64 y2 ∧ ∀ x ∈ y3, I64 x.amt) := hyI
        have hyl' : (Z.length : Int) ≤ bs.length := by omega
        clear hrd hyb hyf hyE hyI htk hZ
        go_wp2_with fail
        refine HR9.out.mono ?_
        rintro e z1 ⟨vz, rfl, rowz, bz1⟩
        obtain ⟨az, cz, ez, hlz⟩ := rowz.isLn
        subst ez
        have HBz : Hid (Below w.heap.size w z1) := HBB.out.trans (bz1.mono HBB.out.size)
        obtain ⟨Z2, hZ2⟩ : ∃ Z2, z1.alloc (.cells #[.string y0, .int .i64 y1, .int .i64 y2, .slice az y3.length cz] 24) = Z2 := ⟨_, rfl⟩
        have bZ2 : Below z1.heap.size z1 Z2 := by rw [← hZ2]; exact (Below.refl _ _).alloc (Nat.le_refl _) _
        have HBZ2 : Hid (Below w.heap.size w Z2) := HBz.out.trans (bZ2.mono HBz.out.size)
        have hE9 := fEntry_any y0 y1 y2 az cz y3 Z2 HyI.out.1 HyI.out.2.1 HyI.out.2.2 (hlz.below bZ2)
        rw [HZ.out, HyE.out] at hE9
        have HE9 : Hid (Calls _ _ _ _ _) := hE9
        have HZ2 : Hid (_ = Z2) := hZ2
        clear HR9 rowz bz1 hlz bZ2 hZ2 hE9
        go_wp2_with fail
        rw [HZ2.out]
        refine HE9.out.mono ?_
        rintro e z3 ⟨⟨hbadZ, _⟩ | ⟨_, vz3, rfl, rz3⟩, bz3⟩
        · exact absurd rfl hbadZ
        obtain ⟨a9, c9, e9, hby9⟩ := rz3.isBy
        subst e9
        have HBz3 : Hid (Below w.heap.size w z3) := HBZ2.out.trans (bz3.mono HBZ2.out.size)
        have hS1 := fun n => run_str (z3.drewN n) a9 Z c9 (hby9.below (en_drewN (Below.refl _ _) n))
        obtain ⟨aV, cV, hV, hBV⟩ := run_byTake (HBy.out.below HBz3.out).isBN Z.length hyl
        have hS2 := fun n => run_str (z3.drewN n) aV (bs.take Z.length) cV ((hBV.isBy (Nat.le_refl _)).below (en_drewN (Below.refl _ _) n))
        rw [Htk.out] at hS2
        generalize Z.length = mz at *
        generalize txt Z = sz at *
        clear HE9 rz3 hby9 hBV bz3 HBZ2 HZ2
        go_wp2_with fail
        go_quiet (fail)
        go_wp2
        go_ret
        exact ⟨rfl, en_drewN HBz3.out _⟩
    · have hfB := balBad_zero.1 hB0
      have hn1 := balB_pos bl
      have hn2 := balLen hfB
      have hb200 : bl.length ≤ 200 := hfB.1
      have hcutB := balS_cut hfB
      have hfullB := balS_enc bl bs hfB
      obtain ⟨Y, hY⟩ : ∃ Y, balB bl = Y := ⟨_, rfl⟩
      have HY : Hid (balB bl = Y) := hY
      rw [hY] at rB hn1 hn2 hcutB hfullB
      clear hY
      obtain ⟨ay, cy, ey, hby⟩ := rB.isBy
      subst ey
      obtain ⟨n, hn⟩ : ∃ n, Y.length = n := ⟨_, rfl⟩
      obtain ⟨p, hp⟩ : ∃ p, n = p + 1 := ⟨n - 1, by omega⟩
      have hnp : (n : Int) - 1 = (p : Int) := by omega
      obtain ⟨aU, cU, hU, hBU⟩ := run_byTake hby.isBN p (by omega)
      have HB2' : Hid (Below w.heap.size w v2) := HBA.out.trans (bB.mono HBA.out.size)
      have hRB := readsB_none aU cU (Y.take p) v2 (by rw [List.length_take]; omega) (hBU.isBy (Nat.le_refl _)) (by rw [hn, hp, Nat.add_sub_cancel] at hcutB; exact hcutB)
      rw [List.length_take, Nat.min_eq_left (by omega)] at hRB
      have HRB : Hid (Calls _ _ _ _ _) := hRB
      have HrB : Hid (ByRow v2 wA.heap.size (.slice ay Y.length cy) Y) := rB
      have hzB := bB.size
      rw [hn] at hU HrB ⊢
      have hni : (1 : Int) ≤ n := by omega
      have hni2 : (n : Int) ≤ 17610 := by omega
      have Hn : Hid (Y.length = n) := hn
      have HfullB : Hid (balS (some (Y ++ bs)) = (bl, some bs)) := hfullB
      clear HE2 hB0 rB hby hBU hRB hcutB hfullB bB hfB hn hp hn1 hn2
      go_wp2_with fail
      refine HRB.out.mono ?_
      rintro e v3 ⟨rfl, b3'⟩
      have HB4' : Hid (Below w.heap.size w v3) := HB2'.out.trans (b3'.mono HB2'.out.size)
      have Hr4' : Hid (ByRow v3 wA.heap.size (.slice ay n cy) Y) := HrB.out.below b3'
      have hoj' := Hr4'.out.own
      have hz4' := b3'.size
      have HapB : Hid (Y.length + bs.length ≤ 140737488400000) := by unfold Hid; rw [Hn.out]; omega
      have HBy4' : Hid (IsBy v3 a3 bs cap3) := HBy.out.below HB4'.out
      clear HRB b3' hU HrB HB2' hnp
      go_wp2_with (at_builtin; refine append_by rfl _ _ rfl wA.heap.size _ Y rfl Hr4'.out a3 bs cap3 rfl HBy4'.out Hnil.out HapB.out (by omega) ?_)
      intro v5' u5 hr5' hg5'
      have b5' : Below wA.heap.size v3 u5 := (Below.refl _ v3).grown hg5' (by omega) (fun j e => hoj' j e)
      obtain ⟨a5', c5', e5', hby5'⟩ := hr5'.isBy
      rw [List.length_append, Hn.out] at e5'
      subst e5'
      have HB5' : Hid (Below w.heap.size w u5) := HB4'.out.trans (b5'.mono HBA.out.size)
      have hR5' := readsB_some (x := bl) (r := bs) a5' c5' (Y ++ bs) u5 (by rw [List.length_append, Hn.out]; omega) hby5' HfullB.out
      rw [List.length_append, Hn.out, HY.out, Hn.out] at hR5'
      have HR5' : Hid (Calls _ _ _ _ _) := hR5'
      clear hr5' hg5' b5' hby5' hR5' HB4' Hr4' hoj' HBy4' hz4'
      go_wp2_with fail
      refine HR5'.out.mono ?_
      rintro e u6 ⟨v6', rfl, row6', b6'⟩
      obtain ⟨a6', c6', e6', hl6'⟩ := row6'.isBl
      subst e6'
      have HB7' : Hid (Below w.heap.size w u6) := HB5'.out.trans (b6'.mono HB5'.out.size)
      have HS' : Hid (Calls _ _ _ _ _) := sameBals_any a6' a2 c6' cap2 bl u6 (by omega) hl6' (HBl.out.below HB7'.out)
      clear HR5' row6' b6' hl6' HB5'
      go_wp2_with fail
      refine HS'.out.mono ?_
      rintro e u8 ⟨rfl, b8'⟩
      have HBB : Hid (Below w.heap.size w u8) := HB7'.out.trans (b8'.mono HB7'.out.size)
      clear HS' b8' HB7' HBA
      obtain ⟨wB, hwB⟩ : ∃ wB, wB = u8 := ⟨_, rfl⟩
      subst hwB
      cases hrd : rdE bs with
      | none =>
        have HR9 : Hid (Calls _ _ _ _ _) := reads_none a3 cap3 bs wB (by omega) (HBy.out.below HBB.out) hrd
        clear hrd
        go_wp2_with fail
        refine HR9.out.mono ?_
        rintro e z1 ⟨rfl, bz1⟩
        have HBz : Hid (Below w.heap.size w z1) := HBB.out.trans (bz1.mono HBB.out.size)
        clear HR9 bz1
        go_wp2
        go_ret
        exact ⟨rfl, HBz.out.alloc HBz.out.size _⟩
      | some xr =>
        obtain ⟨y, rest⟩ := xr
        obtain ⟨hyb, hyf⟩ := rdE_back hrd
        have hyl : (entB y).length ≤ bs.length := by rw [hyb, List.length_append]; omega
        have htk : bs.take (entB y).length = entB y := by rw [hyb, List.take_left]
        have hyI : I64 y.ent ∧ I64 y.per ∧ ∀ x ∈ y.lns, I64 x.amt := by
          obtain ⟨_, g2, g3, _, g5⟩ := hyf
          refine ⟨⟨by omega, by omega⟩, ⟨by omega, by omega⟩, fun x hx => ?_⟩
          have := (g5 x hx).2.2
          unfold mostA at this
          exact ⟨by omega, by omega⟩
        have hyE := entBad_zero.2 hyf
        have HR9 : Hid (Calls _ _ _ _ _) := reads_some (x := y) (r := rest) a3 cap3 bs wB (by omega) (HBy.out.below HBB.out) hrd
        obtain ⟨y0, y1, y2, y3⟩ := y
        obtain ⟨Z, hZ⟩ : ∃ Z, entB ⟨y0, y1, y2, y3⟩ = Z := ⟨_, rfl⟩
        have HZ : Hid (entB ⟨y0, y1, y2, y3⟩ = Z) := hZ
        rw [hZ] at HR9 hyl htk
        simp only at HR9 hyI
        have Htk : Hid (bs.take Z.length = Z) := htk
        have HyE : Hid (entBad ⟨y0, y1, y2, y3⟩ = 0) := hyE
        have HyI : Hid (I64 y1 ∧ I64 y2 ∧ ∀ x ∈ y3, I64 x.amt) := hyI
        have hyl' : (Z.length : Int) ≤ bs.length := by omega
        clear hrd hyb hyf hyE hyI htk hZ
        go_wp2_with fail
        refine HR9.out.mono ?_
        rintro e z1 ⟨vz, rfl, rowz, bz1⟩
        obtain ⟨az, cz, ez, hlz⟩ := rowz.isLn
        subst ez
        have HBz : Hid (Below w.heap.size w z1) := HBB.out.trans (bz1.mono HBB.out.size)
        obtain ⟨Z2, hZ2⟩ : ∃ Z2, z1.alloc (.cells #[.string y0, .int .i64 y1, .int .i64 y2, .slice az y3.length cz] 24) = Z2 := ⟨_, rfl⟩
        have bZ2 : Below z1.heap.size z1 Z2 := by rw [← hZ2]; exact (Below.refl _ _).alloc (Nat.le_refl _) _
        have HBZ2 : Hid (Below w.heap.size w Z2) := HBz.out.trans (bZ2.mono HBz.out.size)
        have hE9 := fEntry_any y0 y1 y2 az cz y3 Z2 HyI.out.1 HyI.out.2.1 HyI.out.2.2 (hlz.below bZ2)
        rw [HZ.out, HyE.out] at hE9
        have HE9 : Hid (Calls _ _ _ _ _) := hE9
        have HZ2 : Hid (_ = Z2) := hZ2
        clear HR9 rowz bz1 hlz bZ2 hZ2 hE9
        go_wp2_with fail
        rw [HZ2.out]
        refine HE9.out.mono ?_
        rintro e z3 ⟨⟨hbadZ, _⟩ | ⟨_, vz3, rfl, rz3⟩, bz3⟩
        · exact absurd rfl hbadZ
        obtain ⟨a9, c9, e9, hby9⟩ := rz3.isBy
        subst e9
        have HBz3 : Hid (Below w.heap.size w z3) := HBZ2.out.trans (bz3.mono HBZ2.out.size)
        have hS1 := fun n => run_str (z3.drewN n) a9 Z c9 (hby9.below (en_drewN (Below.refl _ _) n))
        obtain ⟨aV, cV, hV, hBV⟩ := run_byTake (HBy.out.below HBz3.out).isBN Z.length hyl
        have hS2 := fun n => run_str (z3.drewN n) aV (bs.take Z.length) cV ((hBV.isBy (Nat.le_refl _)).below (en_drewN (Below.refl _ _) n))
        rw [Htk.out] at hS2
        generalize Z.length = mz at *
        generalize txt Z = sz at *
        clear HE9 rz3 hby9 hBV bz3 HBZ2 HZ2
        go_wp2_with fail
        go_quiet (fail)
        go_wp2
        go_ret
        exact ⟨rfl, en_drewN HBz3.out _⟩
  · have hf := entBad_zero.1 h0
    have hm1 := entB_pos ⟨r, en, pe, l⟩
    have hm2 := ebLen hf
    have hl20 : l.length ≤ 20 := hf.2.2.2.1
    have hcut := rdE_cut hf
    have hfull := rdE_enc (e := ⟨r, en, pe, l⟩) bs hf
    obtain ⟨X, hX⟩ : ∃ X, entB ⟨r, en, pe, l⟩ = X := ⟨_, rfl⟩
    have HX : Hid (entB ⟨r, en, pe, l⟩ = X) := hX
    rw [hX] at r2 hm1 hm2 hcut hfull
    clear hX
    obtain ⟨ax, cx, ex, hbx⟩ := r2.isBy
    subst ex
    obtain ⟨m, hm⟩ : ∃ m, X.length = m := ⟨_, rfl⟩
    obtain ⟨q, hq⟩ : ∃ q, m = q + 1 := ⟨m - 1, by omega⟩
    have hmq : (m : Int) - 1 = (q : Int) := by omega
    obtain ⟨aT, cT, hT, hBT⟩ := run_byTake hbx.isBN q (by omega)
    have HB2 : Hid (Below w.heap.size w w2) := HB1.out.trans (b2.mono HB1.out.size)
    have hR := reads_none aT cT (X.take q) w2 (by rw [List.length_take]; omega) (hBT.isBy (Nat.le_refl _)) (by rw [hm, hq, Nat.add_sub_cancel] at hcut; exact hcut)
    rw [List.length_take, Nat.min_eq_left (by omega)] at hR
    have HR : Hid (Calls _ _ _ _ _) := hR
    have Hx2 : Hid (Box4 w2 _ _ _ _ _) := Hx1.out.below b2 hN1
    have Hr2 : Hid (ByRow w2 w1.heap.size (.slice ax X.length cx) X) := r2
    have hz12 := b2.size
    have Hb2 : Hid (Below w1.heap.size w1 w2) := b2
    rw [hm] at hT Hr2 ⊢
    have hmi : (1 : Int) ≤ m := by omega
    have hmi2 : (m : Int) ≤ 1634 := by omega
    have Hm : Hid (X.length = m) := hm
    have Hfull : Hid (rdE (X ++ bs) = some (⟨r, en, pe, l⟩, bs)) := hfull
    clear HE1 h0 r2 hbx hBT hR hcut hfull b2 Hx1 d0 d1 d2 d3 hf hm hq hm1 hm2
    go_wp2_with fail
    refine HR.out.mono ?_
    rintro e w3 ⟨rfl, b3⟩
    obtain ⟨W4, hW4⟩ : ∃ W4, w3.alloc (.cells #[.string ByteArray.empty, .int .i64 0, .int .i64 0, .slice none 0 0] 24) = W4 := ⟨_, rfl⟩
    have b4 : Below w2.heap.size w2 W4 := by rw [← hW4]; exact b3.alloc b3.size _
    have HW4 : Hid (_ = W4) := hW4
    have HB4 : Hid (Below w.heap.size w W4) := HB2.out.trans (b4.mono HB2.out.size)
    have Hr4 : Hid (ByRow W4 w1.heap.size (.slice ax m cx) X) := Hr2.out.below b4
    have hoj := Hr4.out.own
    have Hx4 : Hid (Box4 W4 _ _ _ _ _) := Hx2.out.below b4 (by omega)
    have hz4 := b4.size
    have Hap : Hid (X.length + bs.length ≤ 140737488400000) := by unfold Hid; rw [Hm.out]; omega
    have HBy4 : Hid (IsBy W4 a3 bs cap3) := HBy.out.below HB4.out
    clear HR b3 hW4 b4 hT Hr2 Hx2 HB2 hmq
    go_wp2_with (at_builtin; rw [HW4.out]; refine append_by rfl _ _ rfl w1.heap.size _ X rfl Hr4.out a3 bs cap3 rfl HBy4.out Hnil.out Hap.out (by omega) ?_)
    intro v5 w5 hr5 hg5
    have b5 : Below w1.heap.size W4 w5 := (Below.refl _ W4).grown hg5 (by omega) (fun j e => hoj j e)
    obtain ⟨a5, c5, e5, hby5⟩ := hr5.isBy
    rw [List.length_append, Hm.out] at e5
    subst e5
    have HB5 : Hid (Below w.heap.size w w5) := HB4.out.trans (b5.mono (by omega))
    have Hx5 : Hid (Box4 w5 _ _ _ _ _) := Hx4.out.below b5 (by omega)
    have hR5 := reads_some (x := ⟨r, en, pe, l⟩) (r := bs) a5 c5 (X ++ bs) w5 (by rw [List.length_append, Hm.out]; omega) hby5 Hfull.out
    rw [List.length_append, Hm.out, HX.out, Hm.out] at hR5
    have HR5 : Hid (Calls _ _ _ _ _) := hR5
    clear hr5 hg5 b5 hby5 hR5 Hx4 HB4 Hr4 HW4 hoj HBy4 hz4
    have hN5 : w.heap.size < w5.heap.size := (Array.getElem?_eq_some_iff.1 Hx5.out).1
    go_wp2_with fail
    refine HR5.out.mono ?_
    rintro e w6 ⟨v6, rfl, row6, b6⟩
    obtain ⟨a6, c6, e6, hl6⟩ := row6.isLn
    subst e6
    simp only at hl6 ⊢
    obtain ⟨W7, hW7⟩ : ∃ W7, w6.alloc (.cells #[.string r, .int .i64 en, .int .i64 pe, .slice a6 l.length c6] 24) = W7 := ⟨_, rfl⟩
    have b67 : Below w6.heap.size w6 W7 := by rw [← hW7]; exact (Below.refl _ _).alloc (Nat.le_refl _) _
    have xY := Box4.new w6 r en pe (.slice a6 l.length c6)
    rw [hW7] at xY
    have b7 : Below w5.heap.size w5 W7 := b6.trans (b67.mono b6.size)
    have HB7 : Hid (Below w.heap.size w W7) := HB5.out.trans (b7.mono HB5.out.size)
    have xE := Hx5.out.below b7 hN5
    have HS : Hid (Calls _ _ _ _ _) := sameEntry_any r en pe a6 a c6 cap l W7 (by omega) (hl6.below b67) (HL.out.below HB7.out)
    have z0 := xE.c0
    have z1 := xE.c1
    have z2 := xE.c2
    have z3 := xE.c3
    rw [← hW7] at z0 z1 z2 z3 HS
    have HW7 : Hid (_ = W7) := hW7
    clear HR5 row6 b6 hl6 b67 xY xE b7 HB5 Hx5 hW7
    go_wp2_with fail
    refine HS.out.mono ?_
    rintro e w8 ⟨rfl, b8⟩
    rw [HW7.out] at b8
    have HBA : Hid (Below w.heap.size w w8) := HB7.out.trans (b8.mono HB7.out.size)
    clear HS b8 HB7 HW7 z0 z1 z2 z3
    obtain ⟨wA, hwA⟩ : ∃ wA, wA = w8 := ⟨_, rfl⟩
    subst hwA
    have HE2 : Hid (Calls _ _ _ _ _) := fBalances_any a2 cap2 bl wA hbl Hwb.out (HBl.out.below HBA.out)
    go_wp2_with fail
    refine HE2.out.mono ?_
    rintro e v2 ⟨⟨hbadB, rfl⟩ | ⟨hB0, vB, rfl, rB⟩, bB⟩
    · rw [enE_ne hbadB]
      have HBB : Hid (Below w.heap.size w v2) := HBA.out.trans (bB.mono HBA.out.size)
      generalize balBad bl = badB at *
      have hbbB : badB ≠ 0 := hbadB
      clear HE2 bB HBA
      obtain ⟨wB, hwB⟩ : ∃ wB, wB = v2 := ⟨_, rfl⟩
      subst hwB
      cases hrd : rdE bs with
      | none =>
        have HR9 : Hid (Calls _ _ _ _ _) := reads_none a3 cap3 bs wB (by omega) (HBy.out.below HBB.out) hrd
        clear hrd
        go_wp2_with fail
        refine HR9.out.mono ?_
        rintro e z1 ⟨rfl, bz1⟩
        have HBz : Hid (Below w.heap.size w z1) := HBB.out.trans (bz1.mono HBB.out.size)
        clear HR9 bz1
        go_wp2
        go_ret
        exact ⟨rfl, HBz.out.alloc HBz.out.size _⟩
      | some xr =>
        obtain ⟨y, rest⟩ := xr
        obtain ⟨hyb, hyf⟩ := rdE_back hrd
        have hyl : (entB y).length ≤ bs.length := by rw [hyb, List.length_append]; omega
        have htk : bs.take (entB y).length = entB y := by rw [hyb, List.take_left]
        have hyI : I64 y.ent ∧ I64 y.per ∧ ∀ x ∈ y.lns, I64 x.amt := by
          obtain ⟨_, g2, g3, _, g5⟩ := hyf
          refine ⟨⟨by omega, by omega⟩, ⟨by omega, by omega⟩, fun x hx => ?_⟩
          have := (g5 x hx).2.2
          unfold mostA at this
          exact ⟨by omega, by omega⟩
        have hyE := entBad_zero.2 hyf
        have HR9 : Hid (Calls _ _ _ _ _) := reads_some (x := y) (r := rest) a3 cap3 bs wB (by omega) (HBy.out.below HBB.out) hrd
        obtain ⟨y0, y1, y2, y3⟩ := y
        obtain ⟨Z, hZ⟩ : ∃ Z, entB ⟨y0, y1, y2, y3⟩ = Z := ⟨_, rfl⟩
        have HZ : Hid (entB ⟨y0, y1, y2, y3⟩ = Z) := hZ
        rw [hZ] at HR9 hyl htk
        simp only at HR9 hyI
        have Htk : Hid (bs.take Z.length = Z) := htk
        have HyE : Hid (entBad ⟨y0, y1, y2, y3⟩ = 0) := hyE
        have HyI : Hid (I64 y1 ∧ I64 y2 ∧ ∀ x ∈ y3, I64 x.amt) := hyI
        have hyl' : (Z.length : Int) ≤ bs.length := by omega
        clear hrd hyb hyf hyE hyI htk hZ
        go_wp2_with fail
        refine HR9.out.mono ?_
        rintro e z1 ⟨vz, rfl, rowz, bz1⟩
        obtain ⟨az, cz, ez, hlz⟩ := rowz.isLn
        subst ez
        have HBz : Hid (Below w.heap.size w z1) := HBB.out.trans (bz1.mono HBB.out.size)
        obtain ⟨Z2, hZ2⟩ : ∃ Z2, z1.alloc (.cells #[.string y0, .int .i64 y1, .int .i64 y2, .slice az y3.length cz] 24) = Z2 := ⟨_, rfl⟩
        have bZ2 : Below z1.heap.size z1 Z2 := by rw [← hZ2]; exact (Below.refl _ _).alloc (Nat.le_refl _) _
        have HBZ2 : Hid (Below w.heap.size w Z2) := HBz.out.trans (bZ2.mono HBz.out.size)
        have hE9 := fEntry_any y0 y1 y2 az cz y3 Z2 HyI.out.1 HyI.out.2.1 HyI.out.2.2 (hlz.below bZ2)
        rw [HZ.out, HyE.out] at hE9
        have HE9 : Hid (Calls _ _ _ _ _) := hE9
        have HZ2 : Hid (_ = Z2) := hZ2
        clear HR9 rowz bz1 hlz bZ2 hZ2 hE9
        go_wp2_with fail
        rw [HZ2.out]
        refine HE9.out.mono ?_
        rintro e z3 ⟨⟨hbadZ, _⟩ | ⟨_, vz3, rfl, rz3⟩, bz3⟩
        · exact absurd rfl hbadZ
        obtain ⟨a9, c9, e9, hby9⟩ := rz3.isBy
        subst e9
        have HBz3 : Hid (Below w.heap.size w z3) := HBZ2.out.trans (bz3.mono HBZ2.out.size)
        have hS1 := fun n => run_str (z3.drewN n) a9 Z c9 (hby9.below (en_drewN (Below.refl _ _) n))
        obtain ⟨aV, cV, hV, hBV⟩ := run_byTake (HBy.out.below HBz3.out).isBN Z.length hyl
        have hS2 := fun n => run_str (z3.drewN n) aV (bs.take Z.length) cV ((hBV.isBy (Nat.le_refl _)).below (en_drewN (Below.refl _ _) n))
        rw [Htk.out] at hS2
        generalize Z.length = mz at *
        generalize txt Z = sz at *
        clear HE9 rz3 hby9 hBV bz3 HBZ2 HZ2
        go_wp2_with fail
        go_quiet (fail)
        go_wp2
        go_ret
        exact ⟨rfl, en_drewN HBz3.out _⟩
    · have hfB := balBad_zero.1 hB0
      have hn1 := balB_pos bl
      have hn2 := balLen hfB
      have hb200 : bl.length ≤ 200 := hfB.1
      have hcutB := balS_cut hfB
      have hfullB := balS_enc bl bs hfB
      obtain ⟨Y, hY⟩ : ∃ Y, balB bl = Y := ⟨_, rfl⟩
      have HY : Hid (balB bl = Y) := hY
      rw [hY] at rB hn1 hn2 hcutB hfullB
      clear hY
      obtain ⟨ay, cy, ey, hby⟩ := rB.isBy
      subst ey
      obtain ⟨n, hn⟩ : ∃ n, Y.length = n := ⟨_, rfl⟩
      obtain ⟨p, hp⟩ : ∃ p, n = p + 1 := ⟨n - 1, by omega⟩
      have hnp : (n : Int) - 1 = (p : Int) := by omega
      obtain ⟨aU, cU, hU, hBU⟩ := run_byTake hby.isBN p (by omega)
      have HB2' : Hid (Below w.heap.size w v2) := HBA.out.trans (bB.mono HBA.out.size)
      have hRB := readsB_none aU cU (Y.take p) v2 (by rw [List.length_take]; omega) (hBU.isBy (Nat.le_refl _)) (by rw [hn, hp, Nat.add_sub_cancel] at hcutB; exact hcutB)
      rw [List.length_take, Nat.min_eq_left (by omega)] at hRB
      have HRB : Hid (Calls _ _ _ _ _) := hRB
      have HrB : Hid (ByRow v2 wA.heap.size (.slice ay Y.length cy) Y) := rB
      have hzB := bB.size
      rw [hn] at hU HrB ⊢
      have hni : (1 : Int) ≤ n := by omega
      have hni2 : (n : Int) ≤ 17610 := by omega
      have Hn : Hid (Y.length = n) := hn
      have HfullB : Hid (balS (some (Y ++ bs)) = (bl, some bs)) := hfullB
      clear HE2 hB0 rB hby hBU hRB hcutB hfullB bB hfB hn hp hn1 hn2
      go_wp2_with fail
      refine HRB.out.mono ?_
      rintro e v3 ⟨rfl, b3'⟩
      have HB4' : Hid (Below w.heap.size w v3) := HB2'.out.trans (b3'.mono HB2'.out.size)
      have Hr4' : Hid (ByRow v3 wA.heap.size (.slice ay n cy) Y) := HrB.out.below b3'
      have hoj' := Hr4'.out.own
      have hz4' := b3'.size
      have HapB : Hid (Y.length + bs.length ≤ 140737488400000) := by unfold Hid; rw [Hn.out]; omega
      have HBy4' : Hid (IsBy v3 a3 bs cap3) := HBy.out.below HB4'.out
      clear HRB b3' hU HrB HB2' hnp
      go_wp2_with (at_builtin; refine append_by rfl _ _ rfl wA.heap.size _ Y rfl Hr4'.out a3 bs cap3 rfl HBy4'.out Hnil.out HapB.out (by omega) ?_)
      intro v5' u5 hr5' hg5'
      have b5' : Below wA.heap.size v3 u5 := (Below.refl _ v3).grown hg5' (by omega) (fun j e => hoj' j e)
      obtain ⟨a5', c5', e5', hby5'⟩ := hr5'.isBy
      rw [List.length_append, Hn.out] at e5'
      subst e5'
      have HB5' : Hid (Below w.heap.size w u5) := HB4'.out.trans (b5'.mono HBA.out.size)
      have hR5' := readsB_some (x := bl) (r := bs) a5' c5' (Y ++ bs) u5 (by rw [List.length_append, Hn.out]; omega) hby5' HfullB.out
      rw [List.length_append, Hn.out, HY.out, Hn.out] at hR5'
      have HR5' : Hid (Calls _ _ _ _ _) := hR5'
      clear hr5' hg5' b5' hby5' hR5' HB4' Hr4' hoj' HBy4' hz4'
      go_wp2_with fail
      refine HR5'.out.mono ?_
      rintro e u6 ⟨v6', rfl, row6', b6'⟩
      obtain ⟨a6', c6', e6', hl6'⟩ := row6'.isBl
      subst e6'
      have HB7' : Hid (Below w.heap.size w u6) := HB5'.out.trans (b6'.mono HB5'.out.size)
      have HS' : Hid (Calls _ _ _ _ _) := sameBals_any a6' a2 c6' cap2 bl u6 (by omega) hl6' (HBl.out.below HB7'.out)
      clear HR5' row6' b6' hl6' HB5'
      go_wp2_with fail
      refine HS'.out.mono ?_
      rintro e u8 ⟨rfl, b8'⟩
      have HBB : Hid (Below w.heap.size w u8) := HB7'.out.trans (b8'.mono HB7'.out.size)
      clear HS' b8' HB7' HBA
      obtain ⟨wB, hwB⟩ : ∃ wB, wB = u8 := ⟨_, rfl⟩
      subst hwB
      cases hrd : rdE bs with
      | none =>
        have HR9 : Hid (Calls _ _ _ _ _) := reads_none a3 cap3 bs wB (by omega) (HBy.out.below HBB.out) hrd
        clear hrd
        go_wp2_with fail
        refine HR9.out.mono ?_
        rintro e z1 ⟨rfl, bz1⟩
        have HBz : Hid (Below w.heap.size w z1) := HBB.out.trans (bz1.mono HBB.out.size)
        clear HR9 bz1
        go_wp2
        go_ret
        exact ⟨rfl, HBz.out.alloc HBz.out.size _⟩
      | some xr =>
        obtain ⟨y, rest⟩ := xr
        obtain ⟨hyb, hyf⟩ := rdE_back hrd
        have hyl : (entB y).length ≤ bs.length := by rw [hyb, List.length_append]; omega
        have htk : bs.take (entB y).length = entB y := by rw [hyb, List.take_left]
        have hyI : I64 y.ent ∧ I64 y.per ∧ ∀ x ∈ y.lns, I64 x.amt := by
          obtain ⟨_, g2, g3, _, g5⟩ := hyf
          refine ⟨⟨by omega, by omega⟩, ⟨by omega, by omega⟩, fun x hx => ?_⟩
          have := (g5 x hx).2.2
          unfold mostA at this
          exact ⟨by omega, by omega⟩
        have hyE := entBad_zero.2 hyf
        have HR9 : Hid (Calls _ _ _ _ _) := reads_some (x := y) (r := rest) a3 cap3 bs wB (by omega) (HBy.out.below HBB.out) hrd
        obtain ⟨y0, y1, y2, y3⟩ := y
        obtain ⟨Z, hZ⟩ : ∃ Z, entB ⟨y0, y1, y2, y3⟩ = Z := ⟨_, rfl⟩
        have HZ : Hid (entB ⟨y0, y1, y2, y3⟩ = Z) := hZ
        rw [hZ] at HR9 hyl htk
        simp only at HR9 hyI
        have Htk : Hid (bs.take Z.length = Z) := htk
        have HyE : Hid (entBad ⟨y0, y1, y2, y3⟩ = 0) := hyE
        have HyI : Hid (I64 y1 ∧ I64 y2 ∧ ∀ x ∈ y3, I64 x.amt) := hyI
        have hyl' : (Z.length : Int) ≤ bs.length := by omega
        clear hrd hyb hyf hyE hyI htk hZ
        go_wp2_with fail
        refine HR9.out.mono ?_
        rintro e z1 ⟨vz, rfl, rowz, bz1⟩
        obtain ⟨az, cz, ez, hlz⟩ := rowz.isLn
        subst ez
        have HBz : Hid (Below w.heap.size w z1) := HBB.out.trans (bz1.mono HBB.out.size)
        obtain ⟨Z2, hZ2⟩ : ∃ Z2, z1.alloc (.cells #[.string y0, .int .i64 y1, .int .i64 y2, .slice az y3.length cz] 24) = Z2 := ⟨_, rfl⟩
        have bZ2 : Below z1.heap.size z1 Z2 := by rw [← hZ2]; exact (Below.refl _ _).alloc (Nat.le_refl _) _
        have HBZ2 : Hid (Below w.heap.size w Z2) := HBz.out.trans (bZ2.mono HBz.out.size)
        have hE9 := fEntry_any y0 y1 y2 az cz y3 Z2 HyI.out.1 HyI.out.2.1 HyI.out.2.2 (hlz.below bZ2)
        rw [HZ.out, HyE.out] at hE9
        have HE9 : Hid (Calls _ _ _ _ _) := hE9
        have HZ2 : Hid (_ = Z2) := hZ2
        clear HR9 rowz bz1 hlz bZ2 hZ2 hE9
        go_wp2_with fail
        rw [HZ2.out]
        refine HE9.out.mono ?_
        rintro e z3 ⟨⟨hbadZ, _⟩ | ⟨_, vz3, rfl, rz3⟩, bz3⟩
        · exact absurd rfl hbadZ
        obtain ⟨a9, c9, e9, hby9⟩ := rz3.isBy
        subst e9
        have HBz3 : Hid (Below w.heap.size w z3) := HBZ2.out.trans (bz3.mono HBZ2.out.size)
        have hS1 := fun n => run_str (z3.drewN n) a9 Z c9 (hby9.below (en_drewN (Below.refl _ _) n))
        obtain ⟨aV, cV, hV, hBV⟩ := run_byTake (HBy.out.below HBz3.out).isBN Z.length hyl
        have hS2 := fun n => run_str (z3.drewN n) aV (bs.take Z.length) cV ((hBV.isBy (Nat.le_refl _)).below (en_drewN (Below.refl _ _) n))
        rw [Htk.out] at hS2
        generalize Z.length = mz at *
        generalize txt Z = sz at *
        clear HE9 rz3 hby9 hBV bz3 HBZ2 HZ2
        go_wp2_with fail
        go_quiet (fail)
        go_wp2
        go_ret
        exact ⟨rfl, en_drewN HBz3.out _⟩
end Go.Proofs.Ytaimimhpjbahmaa
