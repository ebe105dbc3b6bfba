/-
  How many thousandths others have, of each entity: the contract of group.had.
-/
import Derived.Test.YthaidbicimiljaaZn5
import Derived.Test.YthaidbicimiljaaZn9
import Derived.Test.YthaidbicimiljaaZn3
import Derived.Test.YthaidbicimiljaaZn4
import Derived.Test.YthaidbicimiljaaZn7
import Derived.Test.YthaidbicimiljaaProg
import Derived.WalkKit
import Derived.WalkSpells
import Derived.Lib.OthersKept
import Derived.Laws.NewBlocks
import Derived.Below
import Derived.Deep.LoopGhost
import Derived.Conc.MuLone
import Derived.Deep.QuietTactic
import Derived.BigQuiet
import Derived.Maps.AppendAt
import Derived.Deep.AppendLies
namespace Go.Proofs.Ythaidbicimiljaa
set_option linter.unusedVariables false
set_option linter.unusedSimpArgs false
set_option maxRecDepth 100000
open Go.RowKit Go.Lib

/-- What is asked of a function that is told a balance, and has three values of its own. -/
structure BTells3 (g : Nat) (u v z : Value) (p : Bl → Bool) (w : World) : Prop where
  eg : ∀ args W, (callFunc g args).run Try.prog W = .ok (.enter g args) W
  call : ∀ (x : Bl) W, Below w.heap.size w W → Calls Try.prog g #[.agg x.cells, u, v, z] W fun e w' => e = .returned (.bool (p x)) ∧ Below W.heap.size W w'
set_option maxHeartbeats 1000000 in
theorem fidx3_some (g : Nat) (u v z : Value) (p : Bl → Bool) (b off cap : Nat) (l : List Bl) (w : World) (hp : BTells3 g u v z p w) (hb : b < w.heap.size) (hlen : (l.length : Int) ≤ 9223372036854775807) (hc : BlsAt w b off l) :
    Calls Try.prog 49 #[.slice (some ⟨b, off, none⟩) l.length cap, .func (.func g) #[] #[u, v, z]] w fun e w' => e = .returned (.int .i64 (fidx p 0 l)) ∧ Below w.heap.size w w' := by
  have eg := hp.eg
  have Hp : Hid (BTells3 g u v z p w) := hp
  have Hc : Hid (BlsAt w b off l) := hc
  clear hp hc
  obtain ⟨res, hres⟩ : ∃ res, fidx p 0 l = res := ⟨_, rfl⟩
  have Hres : Hid (fidx p 0 l = res) := hres
  rw [hres]
  clear hres
  go_enter Try.func49, Try.ntmps49
  go_wp2
  go_loopw [8] (fun i wr => ∃ k : Nat, k ≤ l.length ∧ i = .int .i64 k ∧ Hid (fidx p k (l.drop k) = res) ∧ Below w.heap.size w wr) (fun i _ => l.length - (RowKit.intOf i).toNat)
  case atStart => exact ⟨0, Nat.zero_le _, rfl, Hres.out, Below.refl _ _⟩
  case round =>
    obtain ⟨k, hk, rfl, H, BW⟩ := hrel
    by_cases hlt : k < l.length
    · have hn := (Hc.out k hlt).below BW hb
      have hcall := Hp.out.call (l.getD k bl0) wr BW
      have E : Hid ((if p (l.getD k bl0) = true then (k : Int) else fidx p (k + 1) (l.drop (k + 1))) = res) := by
        have := H.out
        rw [bls_drop l k hlt] at this
        exact this
      clear H
      generalize l.getD k bl0 = a at *
      obtain ⟨a0, a1, a2, a3⟩ := a
      obtain ⟨c0, c1, c2, c3⟩ := hn
      simp only [Bl.cells] at c0 c1 c2 c3 hcall
      have i0 : (0 : Int) ≤ k := by omega
      have i1 : (k : Int) < l.length := by omega
      cases hq : p ⟨a0, a1, a2, a3⟩
      · rw [hq] at hcall
        have HN : Hid (fidx p (k + 1) (l.drop (k + 1)) = res) := by
          have := E.out; rw [if_neg (by rw [hq]; simp)] at this; exact this
        go_wp2_with (go_at_fn g; refine hcall.mono ?_; rintro e w' ⟨rfl, hb'⟩)
        go_roundw
        case rel => exact ⟨k + 1, by omega, by go_num, HN, BW.trans (hb'.mono BW.size)⟩
        case measure => simp [RowKit.intOf]; omega
      · rw [hq] at hcall
        have er : res = k := by rw [← E.out, if_pos hq]
        subst er
        go_wp2_with (go_at_fn g; refine hcall.mono ?_; rintro e w' ⟨rfl, hb'⟩)
        go_ret
        exact ⟨rfl, BW.trans (hb'.mono BW.size)⟩
    · have hk2 : k = l.length := by omega
      subst hk2
      have er : res = -1 := by rw [← H.out, List.drop_length]; rfl
      subst er
      go_wp2
      go_ret
      exact ⟨rfl, BW⟩
theorem fidx3_nil (a : Option Addr) (cap : Nat) (f : Value) (w : World) :
    Calls Try.prog 49 #[.slice a 0 cap, f] w fun e w' => e = .returned (.int .i64 (-1)) ∧ Below w.heap.size w w' := by
  go_enter Try.func49, Try.ntmps49
  go_wp2
  refine wp_loop_rounds 1 ?_
  rw [rounds_succ]
  go_wp2
  go_ret
  exact ⟨rfl, Below.refl _ _⟩
theorem fidx3_any (g : Nat) (u v z : Value) (p : Bl → Bool) (a : Option Addr) (cap : Nat) (l : List Bl) (w : World) (hp : BTells3 g u v z p w) (hlen : (l.length : Int) ≤ 9223372036854775807) (h : IsBl w a l cap) :
    Calls Try.prog 49 #[.slice a l.length cap, .func (.func g) #[] #[u, v, z]] w fun e w' => e = .returned (.int .i64 (fidx p 0 l)) ∧ Below w.heap.size w w' := by
  rcases h.lies with rfl | ⟨b, off, rfl, hlt, hc⟩
  · exact fidx3_nil a cap _ w
  · exact fidx3_some g u v z p b off cap l w hp hlt hlen hc
set_option maxHeartbeats 2000000 in
theorem has1_any (x : Bl) (en : Int) (acc cur : ByteArray) (B1 B2 B3 : Nat) (w : World) (h1 : B1 < w.heap.size) (h2 : B2 < w.heap.size) (h3 : B3 < w.heap.size) (hB1 : w.cell? ⟨B1, 0, none⟩ = some (.int .i64 en)) (hB2 : w.cell? ⟨B2, 0, none⟩ = some (.string acc)) (hB3 : w.cell? ⟨B3, 0, none⟩ = some (.string cur)) :
    Calls Try.prog 51 #[.agg x.cells, .pointer (some ⟨B1, 0, none⟩), .pointer (some ⟨B2, 0, none⟩), .pointer (some ⟨B3, 0, none⟩)] w fun e w' => e = .returned (.bool (hasB en acc cur x)) ∧ Below w.heap.size w w' := by
  obtain ⟨x0, x1, x2, x3⟩ := x
  have b0 : Below w.heap.size w (w.alloc (.cells #[.int .i64 x0, .string x1, .string x2, .int .i64 x3] 33)) := (Below.refl _ w).alloc (Nat.le_refl _) _
  have k1 : (w.alloc (.cells #[.int .i64 x0, .string x1, .string x2, .int .i64 x3] 33)).cell? ⟨B1, 0, none⟩ = some (.int .i64 en) := (b0.cell (p := ⟨B1, 0, none⟩) h1).trans hB1
  have k2 : (w.alloc (.cells #[.int .i64 x0, .string x1, .string x2, .int .i64 x3] 33)).cell? ⟨B2, 0, none⟩ = some (.string acc) := (b0.cell (p := ⟨B2, 0, none⟩) h2).trans hB2
  have k3 : (w.alloc (.cells #[.int .i64 x0, .string x1, .string x2, .int .i64 x3] 33)).cell? ⟨B3, 0, none⟩ = some (.string cur) := (b0.cell (p := ⟨B3, 0, none⟩) h3).trans hB3
  simp only [Bl.cells]
  clear hB1 hB2 hB3
  by_cases c1 : x0 = en
  · have c1' : (x0 == en) = true := by simp [c1]
    by_cases c2 : x1 = acc
    · by_cases c3 : x2 = cur
      · have e1 : hasB en acc cur ⟨x0, x1, x2, x3⟩ = true := by simp [hasB, c1, c2, c3]
        rw [e1]
        subst c1
        subst c2
        subst c3
        go_enter Try.func51, Try.ntmps51
        go_wp2
        go_ret
        exact ⟨rfl, b0⟩
      · have e1 : hasB en acc cur ⟨x0, x1, x2, x3⟩ = false := by simp [hasB, c3]
        have c3' := ch_ne c3
        rw [e1]
        subst c1
        subst c2
        go_enter Try.func51, Try.ntmps51
        go_wp2
        go_ret
        exact ⟨by rw [← c3']; rfl, b0⟩
    · have e1 : hasB en acc cur ⟨x0, x1, x2, x3⟩ = false := by simp [hasB, c2]
      have c2' := ch_ne c2
      rw [e1]
      subst c1
      go_enter Try.func51, Try.ntmps51
      go_wp2
      go_ret
      exact ⟨rfl, b0⟩
  · have e1 : hasB en acc cur ⟨x0, x1, x2, x3⟩ = false := by simp [hasB, c1]
    have c1' : (x0 == en) = false := by rw [beq_eq_false_iff_ne]; exact c1
    rw [e1]
    go_enter Try.func51, Try.ntmps51
    go_wp2
    go_ret
    exact ⟨rfl, b0⟩

theorem cell_new1 (w : World) (v : Value) (t : TypeId) : (w.alloc (.cells #[v] t)).cell? ⟨w.heap.size, 0, none⟩ = some v := by simp
set_option maxHeartbeats 2000000 in
theorem ldHas_any (a : Option Addr) (cap : Nat) (b : List Bl) (en : Int) (acc cur : ByteArray) (w : World) (hlen : (b.length : Int) ≤ 9223372036854775807) (h : IsBl w a b cap) :
    Calls Try.prog 30 #[.slice a b.length cap, .int .i64 en, .string acc, .string cur] w fun e w' => e = .returned (.int .i64 (getB b en acc cur)) ∧ Below w.heap.size w w' := by
  obtain ⟨w0, hw0⟩ : ∃ w0, ((w.alloc (.cells #[.int .i64 en] 3)).alloc (.cells #[.string acc] 9)).alloc (.cells #[.string cur] 9) = w0 := ⟨_, rfl⟩
  have b1 : Below w.heap.size w (w.alloc (.cells #[.int .i64 en] 3)) := (Below.refl _ w).alloc (Nat.le_refl _) _
  have b1' : Below w.heap.size w ((w.alloc (.cells #[.int .i64 en] 3)).alloc (.cells #[.string acc] 9)) := b1.alloc b1.size _
  have b2 : Below w.heap.size w w0 := by rw [← hw0]; exact b1'.alloc b1'.size _
  have hs : w0.heap.size = w.heap.size + 3 := by rw [← hw0]; simp
  have q1 := cell_new1 w (.int .i64 en) 3
  have q2 := cell_new1 (w.alloc (.cells #[.int .i64 en] 3)) (.string acc) 9
  have q3 := cell_new1 ((w.alloc (.cells #[.int .i64 en] 3)).alloc (.cells #[.string acc] 9)) (.string cur) 9
  have z1 : (w.alloc (.cells #[.int .i64 en] 3)).heap.size = w.heap.size + 1 := by simp
  have z2 : ((w.alloc (.cells #[.int .i64 en] 3)).alloc (.cells #[.string acc] 9)).heap.size = w.heap.size + 2 := by simp
  have k3 : w0.cell? ⟨w.heap.size + 2, 0, none⟩ = some (.string cur) := by rw [← hw0, ← z2]; exact q3
  have k2 : w0.cell? ⟨w.heap.size + 1, 0, none⟩ = some (.string acc) := by
    rw [← hw0, ← z1]
    exact (((Below.refl _ _).alloc (Nat.le_refl _) _ : Below _ ((w.alloc (.cells #[.int .i64 en] 3)).alloc (.cells #[.string acc] 9)) _).cell (p := ⟨_, 0, none⟩) (by simp)).trans q2
  have k1 : w0.cell? ⟨w.heap.size, 0, none⟩ = some (.int .i64 en) := by
    have d1 : Below (w.heap.size + 1) (w.alloc (.cells #[.int .i64 en] 3)) ((w.alloc (.cells #[.int .i64 en] 3)).alloc (.cells #[.string acc] 9)) := (Below.refl _ _).alloc (by simp) _
    have d2 := d1.alloc (by simp) (.cells #[.string cur] 9)
    rw [← hw0]
    exact (d2.cell (p := ⟨w.heap.size, 0, none⟩) (by show w.heap.size < _; omega)).trans q1
  have T : BTells3 51 (.pointer (some ⟨w.heap.size, 0, none⟩)) (.pointer (some ⟨w.heap.size + 1, 0, none⟩)) (.pointer (some ⟨w.heap.size + 2, 0, none⟩)) (hasB en acc cur) w0 := by
    refine ⟨fun args W => enters Try.func51 (by kernel_rfl) ⟨_, rfl⟩ args W, fun x W hW => ?_⟩
    have hsz := hW.size
    exact has1_any x en acc cur w.heap.size (w.heap.size + 1) (w.heap.size + 2) W (by omega) (by omega) (by omega) ((hW.cell (p := ⟨w.heap.size, 0, none⟩) (by show w.heap.size < _; omega)).trans k1) ((hW.cell (p := ⟨w.heap.size + 1, 0, none⟩) (by show w.heap.size + 1 < _; omega)).trans k2) ((hW.cell (p := ⟨w.heap.size + 2, 0, none⟩) (by show w.heap.size + 2 < _; omega)).trans k3)
  have HI : Hid (Calls _ _ _ _ _) := fidx3_any _ _ _ _ _ a cap b w0 T hlen (h.below b2)
  obtain ⟨res, hres⟩ : ∃ res, getB b en acc cur = res := ⟨_, rfl⟩
  have Hres : Hid (getB b en acc cur = res) := hres
  rw [hres]
  have HW0 : Hid (_ = w0) := hw0
  have HB2 : Hid (Below w.heap.size w w0) := b2
  have HH : Hid (IsBl w a b cap) := h
  clear hres T h hw0 b1 b2 b1' hs q1 q2 q3 z1 z2 k1 k2 k3
  rcases fidx_spec (hasB en acc cur) b 0 with ⟨e1, e2⟩ | ⟨j, hj, e1, e2⟩
  · have er : res = 0 := by rw [← Hres.out]; unfold getB; rw [e2]; rfl
    subst er
    rw [e1] at HI
    clear e1 e2 Hres HH
    go_enter Try.func30, Try.ntmps30
    go_upto_region 1 with fail
    rw [HW0.out]
    go_wp2_with (go_at_call 49; refine HI.out.mono ?_; rintro e w1 ⟨rfl, hb1⟩)
    go_ret
    exact ⟨rfl, HB2.out.trans (hb1.mono HB2.out.size)⟩
  · have er : res = (b.getD j bl0).amt := by rw [← Hres.out]; unfold getB; rw [e2]; rfl
    rw [e1, Nat.zero_add] at HI
    obtain ⟨bb, off, rfl, hlt, hc⟩ := HH.out.some hj
    have HC : Hid (∀ W, Below w.heap.size w W → W.cell? ⟨bb, off + j * 4 + 3, none⟩ = some (.int .i64 res)) := fun W hW => by
      rw [er]; exact ((hc j hj).below hW hlt).c3
    have j0 : (0 : Int) ≤ j := by omega
    have j1 : (j : Int) < b.length := by omega
    have j2 : ¬ (j : Int) < 0 := by omega
    clear e1 e2 Hres HH er hc
    go_enter Try.func30, Try.ntmps30
    go_upto_region 1 with fail
    rw [HW0.out]
    go_wp2_with fail
    refine HI.out.mono ?_
    rintro e w1 ⟨rfl, hb1⟩
    have B3 := HB2.out.trans (hb1.mono HB2.out.size)
    have c3 := HC.out w1 B3
    clear HC HI hb1 HB2 HW0
    go_wp2
    go_ret
    exact ⟨rfl, B3⟩
end Go.Proofs.Ythaidbicimiljaa

namespace Go.Proofs.Ythaidbicimiljaa
set_option linter.unusedVariables false
set_option linter.unusedSimpArgs false
set_option maxRecDepth 100000
open Go.RowKit Go.Lib Go.Maps Math

theorem amNo_eur {c : List Ac} {en : Int} {x : Bl} (h : x.cur = eurB) : amNo c en eurB x = (decide (x.ent = en) && decide (idxP (hasCode x.acc) c < 0)) := by
  unfold amNo isOf amIx
  by_cases e : x.ent = en <;> simp [e, h]
theorem any_next {α : Type} (p : α → Bool) (l : List α) (x : α) : (l ++ [x]).any p = (l.any p || p x) := by simp
set_option maxHeartbeats 8000000 in
theorem ckAcc_any (a a2 : Option Addr) (cap cap2 : Nat) (c : List Ac) (s : List Bl) (en : Int) (w : World) (h : IsSl w a c cap) (hb : IsBl w a2 s cap2) (hl : s.length ≤ 200) (hc0 : chBad c = 0) (hcu : ∀ x ∈ s, x.cur = eurB) :
    Calls Try.prog 13 #[.slice a c.length cap, .slice a2 s.length cap2, .int .i64 en] w fun e w' => e = .returned (if s.any (amNo c en eurB) = true then .iface 41 (.int .i64 6) else .nilIface) ∧ Below w.heap.size w w' := by
  have HF : Hid (∀ code W, Below w.heap.size w W → Calls Try.prog 29 #[.slice a c.length cap, .string code] W fun e w' => e = .returned (.tuple #[.agg (findA c code).cells, chE (placeBad c code)]) ∧ Below W.heap.size W w') := fun code W hW => by
    refine (chFind_any a cap c code W (h.below hW)).mono ?_
    rintro e w' ⟨rfl, hh⟩
    exact ⟨rfl, hh⟩
  have HP : Hid (∀ code, placeBad c code = if idxP (hasCode code) c < 0 then 6 else 0) := fun code => by unfold placeBad; rw [if_neg (by simp [hc0])]
  have Hb : Hid (IsBl w a2 s cap2) := hb
  have HCu : Hid (∀ x ∈ s, x.cur = eurB) := hcu
  have hl200 : (s.length : Int) ≤ 200 := by omega
  obtain ⟨res, hres⟩ : ∃ res, (if s.any (amNo c en eurB) = true then Value.iface 41 (.int .i64 6) else .nilIface) = res := ⟨_, rfl⟩
  have HR : Hid ((if s.any (amNo c en eurB) = true then Value.iface 41 (.int .i64 6) else .nilIface) = res) := hres
  rw [hres]
  clear hres h hb hcu hc0
  go_enter Try.func13, Try.ntmps13
  go_wp2
  go_loopw [13] (fun i wr => ∃ k : Nat, k ≤ s.length ∧ i = .int .i64 k ∧ Hid ((s.take k).any (amNo c en eurB) = false) ∧ Hid (Below w.heap.size w wr)) (fun i _ => s.length - (RowKit.intOf i).toNat)
  case atStart => exact ⟨0, Nat.zero_le _, rfl, rfl, Below.refl _ _⟩
  case round =>
    obtain ⟨k, hk, rfl, HN, HB⟩ := hrel
    by_cases hlt : k < s.length
    · obtain ⟨b, off, rfl, hbb, hcc⟩ := Hb.out.some hlt
      have hx := (hcc k hlt).below HB.out hbb
      have hmem := getD_mem s k hlt
      have hno := amNo_eur (c := c) (en := en) (HCu.out _ hmem)
      have HNx : Hid (amNo c en eurB (s.getD k bl0) = false → (s.take (k + 1)).any (amNo c en eurB) = false) := fun h1 => by
        rw [bls_take s k hlt, any_next, HN.out, h1]; rfl
      have HYx : Hid (amNo c en eurB (s.getD k bl0) = true → res = .iface 41 (.int .i64 6)) := fun h1 => by
        rw [← HR.out, if_pos (List.any_eq_true.2 ⟨_, hmem, h1⟩)]
      clear hcc hmem HN HR HCu
      generalize s.getD k bl0 = x at *
      rw [hno] at HNx HYx
      clear hno
      obtain ⟨x0, x1, x2, x3⟩ := x
      obtain ⟨d0, d1, d2, d3⟩ := hx
      simp only at d0 d1 d2 d3 HNx HYx
      have i0 : (0 : Int) ≤ k := by omega
      have i1 : (k : Int) < s.length := by omega
      obtain ⟨W0, hW0⟩ : ∃ W0, wr.alloc (.cells #[.int .i64 x0, .string x1, .string x2, .int .i64 x3] 33) = W0 := ⟨_, rfl⟩
      have hb0 : Below wr.heap.size wr W0 := by rw [← hW0]; exact (Below.refl _ _).alloc (Nat.le_refl _) _
      obtain ⟨f0, f1, f2, f3⟩ : BlAt W0 wr.heap.size 0 ⟨x0, x1, x2, x3⟩ := by rw [← hW0]; exact BlAt.new wr ⟨x0, x1, x2, x3⟩ 33
      simp only [Nat.zero_add] at f0 f1 f2 f3
      have HB0 : Hid (Below w.heap.size w W0) := HB.out.trans (hb0.mono HB.out.size)
      have HW0 : Hid (wr.alloc (.cells #[.int .i64 x0, .string x1, .string x2, .int .i64 x3] 33) = W0) := hW0
      clear hW0 hb0 HB
      go_upto_region 4 with fail
      rw [HW0.out]
      clear HW0 d0 d1 d2 d3
      by_cases he : x0 = en
      · subst he
        have HFx : Hid (Calls _ _ _ _ _) := HF.out x1 W0 HB0.out
        rw [HP.out] at HFx
        by_cases hi : idxP (hasCode x1) c < 0
        · rw [if_pos hi] at HFx
          have er := HYx.out (by simp [hi])
          subst er
          rw [chE_ne (by decide)] at HFx
          clear HYx HNx HF HP
          generalize findA c x1 = fa at *
          obtain ⟨g0, g1, g2, g3, g4⟩ := fa
          simp only [Ac.cells] at HFx
          go_wp2_with fail
          refine HFx.out.mono ?_
          rintro e w2 ⟨rfl, hb2⟩
          have HB2 : Hid (Below w.heap.size w (w2.alloc (.cells #[.string g0, .string g1, .int .i64 g2, .string g3, .bool g4] 53))) := by
            have := HB0.out.trans (hb2.mono HB0.out.size)
            exact this.alloc this.size _
          clear hb2 HFx HB0 f0 f1 f2 f3
          go_wp2
          go_ret
          exact ⟨rfl, HB2.out⟩
        · rw [if_neg hi, chE_zero] at HFx
          have HN2 : Hid _ := HNx.out (by simp [hi])
          clear HYx HNx
          generalize findA c x1 = fa at *
          obtain ⟨g0, g1, g2, g3, g4⟩ := fa
          simp only [Ac.cells] at HFx
          go_wp2_with fail
          refine HFx.out.mono ?_
          rintro e w2 ⟨rfl, hb2⟩
          have HB2 : Hid (Below w.heap.size w (w2.alloc (.cells #[.string g0, .string g1, .int .i64 g2, .string g3, .bool g4] 53))) := by
            have := HB0.out.trans (hb2.mono HB0.out.size)
            exact this.alloc this.size _
          clear hb2 HFx HB0 f0 f1 f2 f3
          go_wp2
          go_roundw
          case rel => exact ⟨k + 1, by omega, by go_num, HN2, HB2⟩
          case measure => simp [RowKit.intOf]; omega
      · have he2 : (x0 != en) = true := by simp [he]
        have HN2 : Hid _ := HNx.out (by simp [he])
        clear HYx HNx
        go_wp2
        go_roundw
        case rel => exact ⟨k + 1, by omega, by go_num, HN2, HB0⟩
        case measure => simp [RowKit.intOf]; omega
    · have hk2 : k = s.length := by omega
      subst hk2
      rw [List.take_length] at HN
      have er : res = .nilIface := by rw [← HR.out, HN.out]; rfl
      subst er
      clear HN HR
      go_wp2
      go_ret
      exact ⟨rfl, HB.out⟩

theorem ga_int : (Try.prog.info? 3).map (fun i => (i.zero, i.size, i.bytes)) = some (some (.int .i64 0), 1, 8) := by kernel_rfl
set_option maxHeartbeats 8000000 in
theorem undE_any (a a2 : Option Addr) (cap cap2 : Nat) (c : List Ac) (s : List Bl) (en : Int) (w : World) (h : IsSl w a c cap) (hb : IsBl w a2 s cap2) (hl : s.length ≤ 200) (hc60 : c.length ≤ 60) (hamt : ∀ x ∈ s, -1000000000000000000 ≤ x.amt ∧ x.amt ≤ 1000000000000000000) :
    Calls Try.prog 14 #[.slice a c.length cap, .slice a2 s.length cap2, .string eurB, .int .i64 en] w (RollEnd c ((List.range c.length).map fun i => getB s en (c.getD i ac0).code eurB) w) := by
  obtain ⟨f, hf⟩ : ∃ f : Nat → Int, f = fun i => getB s en (c.getD i ac0).code eurB := ⟨_, rfl⟩
  have HH : Hid (∀ k W, Below w.heap.size w W → Calls Try.prog 30 #[.slice a2 s.length cap2, .int .i64 en, .string (c.getD k ac0).code, .string eurB] W fun e w' => e = .returned (.int .i64 (f k)) ∧ Below W.heap.size W w') := fun k W hW => by
    rw [hf]; exact ldHas_any a2 cap2 s en _ eurB W (by omega) (hb.below hW)
  have Hfit : Hid (∀ k, I64 (f k)) := fun k => by
    rw [hf]
    show I64 (getB s en (c.getD k ac0).code eurB)
    unfold getB
    cases hq : s.find? (hasB en (c.getD k ac0).code eurB) with
    | none => exact ⟨by decide, by decide⟩
    | some x =>
      have := hamt x (List.mem_of_find?_eq_some hq)
      show I64 x.amt
      unfold I64; omega
  rw [← hf]
  have Hs : Hid (IsSl w a c cap) := h
  have hcl : (c.length : Int) ≤ 60 := by omega
  have hmk := fun w => run_make_row' (P := Try.prog) 25 3 (.int .i64 0) 8 Try.underlying25 ga_int rfl .i64 .i64 c.length (by omega) (by omega) w
  have HR0 : Hid (IRow (w.alloc (.cells (madeCells #[.int .i64 0] c.length) 3)) w.heap.size ((List.range 0).map f ++ List.replicate (c.length - 0) 0)) := by
    unfold Hid; simpa using irow_made w c.length
  have HB0 : Hid (Below w.heap.size w (w.alloc (.cells (madeCells #[.int .i64 0] c.length) 3))) := (Below.refl _ w).alloc (Nat.le_refl _) _
  have HRl : Hid (∀ W, Below w.heap.size w W → IRow W w.heap.size ((List.range c.length).map f) → Calls Try.prog 19 #[.slice a c.length cap, .slice (some ⟨w.heap.size, 0, none⟩) c.length c.length] W fun e w' => RollEnd c ((List.range c.length).map f) w e w') := fun W hW hr => by
    have hlen : ((List.range c.length).map f).length = c.length := by simp
    have := roll_any a cap c (some ⟨w.heap.size, 0, none⟩) ((List.range c.length).map f) c.length W (Hs.out.below hW) ⟨by omega, fun k hk => by
      rw [hlen] at hk
      rw [List.getD_eq_getElem?_getD, List.getElem?_map, List.getElem?_range hk]
      exact Hfit.out k, .inr ⟨w.heap.size, 0, rfl, irow_lt hr, fun k hk => by rw [Nat.zero_add]; exact irow_cell hr hk⟩⟩
    rw [hlen] at this
    refine this.mono ?_
    rintro e w' ⟨r1, r2, r3⟩
    refine ⟨hW.trans (r1.mono hW.size), r2, fun h0 => ?_⟩
    obtain ⟨g, e1, e2, e3⟩ := r3 h0
    exact ⟨g, e1, Nat.le_trans hW.size e2, e3⟩
  clear hf h hb hamt hl
  go_enter Try.func14, Try.ntmps14
  go_wp2_with fail
  clear hmk
  go_loopw [18] (fun i wr => ∃ k : Nat, k ≤ c.length ∧ i = .int .i64 k ∧ Hid (IRow wr w.heap.size ((List.range k).map f ++ List.replicate (c.length - k) 0)) ∧ Hid (Below w.heap.size w wr)) (fun i _ => c.length - (RowKit.intOf i).toNat)
  case atStart => exact ⟨0, Nat.zero_le _, rfl, HR0, HB0⟩
  case round =>
    obtain ⟨k, hk, rfl, HR, HB⟩ := hrel
    clear HR0 HB0
    by_cases hlt : k < c.length
    · obtain ⟨b, off, e, hbb, hcc⟩ : ∃ b off, a = some ⟨b, off, none⟩ ∧ b < w.heap.size ∧ AcsAt w b off c := by
        rcases Hs.out.lies with h | h
        · rw [h] at hlt; simp at hlt
        · exact h
      subst e
      have hx := (hcc k hlt).below HB.out hbb
      have HS : Hid (((List.range k).map f ++ List.replicate (c.length - k) 0).set k (f k) = (List.range (k + 1)).map f ++ List.replicate (c.length - (k + 1)) 0) := row_step f c.length k hlt
      have hlen : k < ((List.range k).map f ++ List.replicate (c.length - k) 0).length := by simp; omega
      have HHk := fun W hW => HH.out k W hW
      obtain ⟨z, hz⟩ : ∃ z, f k = z := ⟨_, rfl⟩
      rw [hz] at HS
      have HHz : Hid (∀ W, Below w.heap.size w W → Calls Try.prog 30 #[.slice a2 s.length cap2, .int .i64 en, .string (c.getD k ac0).code, .string eurB] W fun e w' => e = .returned (.int .i64 z) ∧ Below W.heap.size W w') := by rw [← hz]; exact HHk
      clear hcc HHk hz HH HRl
      generalize c.getD k ac0 = x at *
      obtain ⟨x0, x1, x2, x3, x4⟩ := x
      obtain ⟨d0, d1, d2, d3, d4⟩ := hx
      simp only at d0 d1 d2 d3 d4 HHz
      have i0 : (0 : Int) ≤ k := by omega
      have i1 : (k : Int) < c.length := by omega
      obtain ⟨W0, hW0⟩ : ∃ W0, wr.alloc (.cells #[.string x0, .string x1, .int .i64 x2, .string x3, .bool x4] 53) = W0 := ⟨_, rfl⟩
      have hb0 : Below wr.heap.size wr W0 := by rw [← hW0]; exact (Below.refl _ _).alloc (Nat.le_refl _) _
      have f0 : W0.cell? ⟨wr.heap.size, 0, none⟩ = some (.string x0) := by rw [← hW0]; simp
      have hgl := irow_lt HR.out
      have HR1 : Hid (IRow W0 w.heap.size ((List.range k).map f ++ List.replicate (c.length - k) 0)) := irow_below HR.out hb0 hgl
      have HB1 : Hid (Below w.heap.size w W0) := HB.out.trans (hb0.mono HB.out.size)
      have HW0 : Hid (wr.alloc (.cells #[.string x0, .string x1, .int .i64 x2, .string x3, .bool x4] 53) = W0) := hW0
      clear hW0 hb0 HR HB hgl
      go_upto_region 5 with fail
      rw [HW0.out]
      clear HW0 d0 d1 d2 d3 d4
      go_wp2_with (go_at_call 30; refine (HHz.out W0 HB1.out).mono ?_; rintro e w2 ⟨rfl, hb2⟩; have hr2 := irow_below HR1.out hb2 (irow_lt HR1.out); have q2 := irow_cell hr2 hlen; have z2 := irow_frozen hr2 k; have hb3 := HB1.out.trans (hb2.mono HB1.out.size))
      go_roundw
      case rel => exact ⟨k + 1, by omega, by go_num, by rw [← HS.out]; exact irow_set hr2 k z, hb3.setCell (p := ⟨w.heap.size, k, none⟩) (Nat.le_refl _) _⟩
      case measure => simp [RowKit.intOf]; omega
    · have hk2 : k = c.length := by omega
      subst hk2
      rw [Nat.sub_self, List.replicate_zero, List.append_nil] at HR
      have HC : Hid (Calls _ _ _ _ _) := HRl.out wr HB.out HR.out
      clear HR HB HRl HH
      by_cases hrb : rollBad c ((List.range c.length).map f) = 0
      · have HC2 : Hid (Calls Try.prog 19 #[.slice a c.length cap, .slice (some ⟨w.heap.size, 0, none⟩) c.length c.length] wr fun e w' => ∃ g, e = .returned (.tuple #[.slice (some ⟨g, 0, none⟩) c.length c.length, .nilIface]) ∧ RollEnd c ((List.range c.length).map f) w (.returned (.tuple #[.slice (some ⟨g, 0, none⟩) c.length c.length, .nilIface])) w') := by
          refine HC.out.mono ?_
          rintro e w' hE
          obtain ⟨g, e1, _⟩ := hE.2.2 hrb
          exact ⟨g, e1, e1 ▸ hE⟩
        clear HC
        go_wp2_with fail
        refine HC2.out.mono ?_
        rintro e w3 ⟨g, rfl, h3⟩
        have HL : Hid _ := h3
        clear h3 HC2
        go_wp2
        go_ret2
        exact HL.out
      · have HC2 : Hid (Calls Try.prog 19 #[.slice a c.length cap, .slice (some ⟨w.heap.size, 0, none⟩) c.length c.length] wr fun e w' => e = .returned (.tuple #[.slice none 0 0, chE (rollBad c ((List.range c.length).map f))]) ∧ RollEnd c ((List.range c.length).map f) w (.returned (.tuple #[.slice none 0 0, chE (rollBad c ((List.range c.length).map f))])) w') := by
          refine HC.out.mono ?_
          rintro e w' hE
          have e1 := hE.2.1 hrb
          exact ⟨e1, e1 ▸ hE⟩
        clear HC
        generalize chE (rollBad c ((List.range c.length).map f)) = E1 at *
        go_wp2_with fail
        refine HC2.out.mono ?_
        rintro e w3 ⟨rfl, h3⟩
        have HL : Hid _ := h3
        clear h3 HC2
        go_wp2
        go_ret2
        exact HL.out
end Go.Proofs.Ythaidbicimiljaa

namespace Go.Proofs.Ythaidbicimiljaa
set_option linter.unusedVariables false
set_option linter.unusedSimpArgs false
set_option maxRecDepth 100000
open Go.RowKit Go.Lib Go.Maps Math

theorem rat_all {n : Int} (h : I64 n) : ratV n 1000 1000 = n ∧ ratE n 1000 1000 = .nilIface := by
  unfold I64 at h
  have e : partOf (absI n) 1000 1000 = absI n := part_all (absI n) 1000 (by omega)
  have e3 : absI n ≤ 9223372036854775807 + (if n < 0 then 1 else 0) := by unfold absI; split <;> omega
  unfold ratV ratE ratioV
  rw [e, if_pos e3, if_pos e3]
  refine ⟨?_, rfl⟩
  unfold absI
  split <;> omega
/-- Both added up. -/
def addL (r u : List Int) : List Int := (List.range r.length).map fun i => r.getD i 0 + u.getD i 0
def addOk (r u : List Int) : Bool := (List.range r.length).all fun i => fitB (r.getD i 0 + u.getD i 0)
theorem addL_len (r u : List Int) : (addL r u).length = r.length := by simp [addL]
/-- What is done of it so far. -/
def addTo (r u : List Int) (k : Nat) : List Int := (List.range k).map (fun i => r.getD i 0 + u.getD i 0) ++ r.drop k
theorem addTo_zero (r u : List Int) : addTo r u 0 = r := by simp [addTo]
theorem addTo_all (r u : List Int) : addTo r u r.length = addL r u := by simp [addTo, addL]
theorem addTo_len (r u : List Int) (k : Nat) (hk : k ≤ r.length) : (addTo r u k).length = r.length := by simp [addTo]; omega
theorem addTo_get (r u : List Int) (k : Nat) (hk : k < r.length) : (addTo r u k).getD k 0 = r.getD k 0 := by
  unfold addTo
  rw [List.getD_eq_getElem?_getD, List.getElem?_append_right (by simp), List.length_map, List.length_range, Nat.sub_self, List.getElem?_drop, Nat.add_zero, List.getD_eq_getElem?_getD]
theorem addTo_set (r u : List Int) (k : Nat) (hk : k < r.length) : (addTo r u k).set k (r.getD k 0 + u.getD k 0) = addTo r u (k + 1) := by
  unfold addTo
  rw [List.set_append_right _ _ (by simp), List.length_map, List.length_range, Nat.sub_self, List.range_succ, List.map_append, List.append_assoc, List.drop_eq_getElem_cons hk]
  rfl
theorem set_same (n k : Nat) (hk : k < n) : (List.replicate n (0 : Int)).set k 0 = List.replicate n 0 := by
  apply List.ext_getElem
  · simp
  · intro i h1 h2
    rw [List.getElem_set]
    split <;> simp
theorem addOk_no {r u : List Int} {k : Nat} (hk : k < r.length) (h : fitB (r.getD k 0 + u.getD k 0) = false) : addOk r u = false := by
  unfold addOk
  rw [List.all_eq_false]
  exact ⟨k, List.mem_range.2 hk, by rw [h]; decide⟩
theorem addOk_yes {r u : List Int} (h : ∀ k, k < r.length → fitB (r.getD k 0 + u.getD k 0) = true) : addOk r u = true := by
  unfold addOk
  rw [List.all_eq_true]
  exact fun k hk => h k (List.mem_range.1 hk)
theorem fitB_sum (s : Int) : sumV s = (if fitB s = true then s else 0) ∧ sumE s = (if fitB s = true then .nilIface else .iface 41 (.int .i64 10)) := by
  unfold sumV sumE fitB
  simp only [decide_eq_true_eq]
  exact ⟨by first | rfl | trivial, by first | rfl | trivial⟩

/-- What was there stays, but for two blocks. -/
structure But2 (ga go : Nat) (V W : World) : Prop where
  os : W.os = V.os
  tape : W.tape = V.tape
  output : W.output = V.output
  size : V.heap.size ≤ W.heap.size
  block : ∀ b, b < V.heap.size → b ≠ ga → b ≠ go → W.heap[b]? = V.heap[b]?
theorem But2.refl (ga go : Nat) (V : World) : But2 ga go V V := ⟨rfl, rfl, rfl, Nat.le_refl _, fun _ _ _ _ => rfl⟩
theorem But2.then {ga go : Nat} {V W U : World} (h : But2 ga go V W) (hb : Below W.heap.size W U) : But2 ga go V U :=
  ⟨hb.os.trans h.os, hb.tape.trans h.tape, hb.output.trans h.output, Nat.le_trans h.size hb.size, fun b h1 h2 h3 => (hb.block b (Nat.lt_of_lt_of_le h1 h.size)).trans (h.block b h1 h2 h3)⟩
theorem But2.set {ga go g : Nat} {V W : World} (h : But2 ga go V W) (hg : g = ga ∨ g = go) (o : Nat) (v : Value) : But2 ga go V (W.setCell ⟨g, o, none⟩ v) :=
  ⟨h.os, h.tape, h.output, by simpa using h.size, fun b h1 h2 h3 => (Below.heap_setCell _ _ _ _ (by show b ≠ g; rcases hg with e | e <;> (rw [e]; assumption))).trans (h.block b h1 h2 h3)⟩
theorem But2.low {ga go n : Nat} {V W : World} (h : But2 ga go V W) (h1 : n ≤ ga) (h2 : n ≤ go) (h3 : n ≤ V.heap.size) : Below n V W :=
  ⟨h.os, h.tape, h.output, h.size, fun b hb => h.block b (by omega) (by omega) (by omega)⟩
/-- What adding ends in. -/
def AdEnd (r u : List Int) (ga go : Nat) (w : World) (e : Ending) (w' : World) : Prop :=
  But2 ga go w w' ∧ (addOk r u = false → e = .returned (.iface 41 (.int .i64 10))) ∧ (addOk r u = true → e = .returned .nilIface ∧ IRow w' ga (addL r u) ∧ IRow w' go (List.replicate r.length 0))
set_option maxHeartbeats 8000000 in
theorem addP_any (r u : List Int) (ga go gu : Nat) (w : World) (hl : u.length = r.length) (hl60 : r.length ≤ 60) (hr : ∀ i, i < r.length → I64 (r.getD i 0)) (hu : ∀ i, i < u.length → I64 (u.getD i 0)) (h1 : IRow w ga r) (h2 : IRow w go (List.replicate r.length 0)) (h3 : IRow w gu u) (d1 : ga ≠ go) (d2 : ga ≠ gu) (d3 : go ≠ gu) :
    Calls Try.prog 15 #[.slice (some ⟨ga, 0, none⟩) r.length r.length, .slice (some ⟨go, 0, none⟩) r.length r.length, .slice (some ⟨gu, 0, none⟩) r.length r.length, .int .i64 1000] w (AdEnd r u ga go w) := by
  have HEnd : Hid (∀ e w', AdEnd r u ga go w e w' ↔ (But2 ga go w w' ∧ (addOk r u = false → e = .returned (.iface 41 (.int .i64 10))) ∧ (addOk r u = true → e = .returned .nilIface ∧ IRow w' ga (addL r u) ∧ IRow w' go (List.replicate r.length 0)))) := fun e w' => Iff.rfl
  have HRa : Hid (∀ n W, I64 n → Calls Try.prog 31 #[.int .i64 n, .int .i64 1000, .int .i64 1000] W fun e w' => e = .returned (.tuple #[.int .i64 n, .nilIface]) ∧ Below W.heap.size W w' ∧ w'.heap = W.heap) := fun n W hn => by
    refine (ratio_any n 1000 1000 W hn.1 hn.2 (by decide) (by decide) (by decide) (by decide)).mono ?_
    rintro e w' ⟨rfl, q, rfl⟩
    rw [(rat_all hn).1, (rat_all hn).2]
    exact ⟨rfl, ⟨rfl, rfl, rfl, Nat.le_refl _, fun _ _ => rfl⟩, rfl⟩
  have HAd : Hid (∀ x y W, I64 x → I64 y → Calls Try.prog 26 #[.int .i64 x, .int .i64 y] W fun e w' => e = .returned (.tuple #[.int .i64 (if fitB (x + y) = true then x + y else 0), if fitB (x + y) = true then .nilIface else .iface 41 (.int .i64 10)]) ∧ Below W.heap.size W w') := fun x y W hx hy => by
    refine (moneyAdd_any x y W hx hy).mono ?_
    rintro e w' ⟨rfl, cc, rfl⟩
    rw [(fitB_sum _).1, (fitB_sum _).2]
    exact ⟨rfl, (Below.refl _ W).alloc (Nat.le_refl _) _⟩
  have Hr : Hid (∀ i, i < r.length → I64 (r.getD i 0)) := hr
  have Hu : Hid (∀ i, i < r.length → I64 (u.getD i 0)) := fun i hi => hu i (by omega)
  have HL : Hid (u.length = r.length) := hl
  have H0 : Hid (IRow w ga (addTo r u 0) ∧ IRow w go (List.replicate r.length 0) ∧ IRow w gu u ∧ But2 ga go w w) := ⟨by rw [addTo_zero]; exact h1, h2, h3, But2.refl _ _ _⟩
  have HD : Hid (ga ≠ go ∧ ga ≠ gu ∧ go ≠ gu) := ⟨d1, d2, d3⟩
  have hl60' : (r.length : Int) ≤ 60 := by omega
  clear hl hr hu h1 h2 h3 d1 d2 d3
  go_enter Try.func15, Try.ntmps15
  go_wp2
  go_loopw [15] (fun i wr => ∃ k : Nat, k ≤ r.length ∧ i = .int .i64 k ∧ Hid (∀ j, j < k → fitB (r.getD j 0 + u.getD j 0) = true) ∧ Hid (IRow wr ga (addTo r u k) ∧ IRow wr go (List.replicate r.length 0) ∧ IRow wr gu u ∧ But2 ga go w wr)) (fun i _ => r.length - (RowKit.intOf i).toNat)
  case atStart => exact ⟨0, Nat.zero_le _, rfl, (fun j hj => absurd hj (Nat.not_lt_zero j)), H0⟩
  case round =>
    obtain ⟨k, hk, rfl, HF, HR⟩ := hrel
    clear H0
    by_cases hlt : k < r.length
    · have hkl : k < (addTo r u k).length := by rw [addTo_len r u k hk]; exact hlt
      have hol : k < (List.replicate r.length (0 : Int)).length := by simpa using hlt
      have hul : k < u.length := by rw [HL.out]; exact hlt
      have qu := irow_cell HR.out.2.2.1 hul
      have HRx := Hr.out k hlt
      have HUx := Hu.out k hlt
      have hget := addTo_get r u k hlt
      have HSet : Hid ((addTo r u k).set k (r.getD k 0 + u.getD k 0) = addTo r u (k + 1)) := addTo_set r u k hlt
      have HNo : Hid (fitB (r.getD k 0 + u.getD k 0) = false → addOk r u = false) := fun h => addOk_no hlt h
      have HNx : Hid (fitB (r.getD k 0 + u.getD k 0) = true → ∀ j, j < k + 1 → fitB (r.getD j 0 + u.getD j 0) = true) := fun h j hj => by
        by_cases e : j = k
        · subst e; exact h
        · exact HF.out j (by omega)
      have hog : (List.replicate r.length (0 : Int)).getD k 0 = 0 := by rw [List.getD_eq_getElem?_getD, List.getElem?_replicate]; split <;> rfl
      have HOs : Hid ((List.replicate r.length (0 : Int)).set k 0 = List.replicate r.length 0) := set_same _ _ hlt
      have HRa1 : Hid (Calls _ _ _ _ _) := HRa.out _ wr HUx
      have HAd1 : Hid (∀ W, Calls _ _ _ W _) := fun W => HAd.out _ _ W HRx HUx
      have HAd0 : Hid (∀ W, Calls Try.prog 26 #[.int .i64 0, .int .i64 0] W fun e w' => e = .returned (.tuple #[.int .i64 0, .nilIface]) ∧ Below W.heap.size W w') := fun W => HAd.out 0 0 W ⟨by decide, by decide⟩ ⟨by decide, by decide⟩
      have i0 : (0 : Int) ≤ k := by omega
      have i1 : (k : Int) < r.length := by omega
      generalize r.getD k 0 = x at *
      generalize u.getD k 0 = y at *
      clear HF HAd HRa Hr Hu
      unfold I64 at HRx HUx
      have hyy : y - y = 0 := Int.sub_self y
      go_wp2_with fail
      refine HRa1.out.mono ?_
      rintro e w2 ⟨rfl, hb2, hh2⟩
      have HR2 : Hid (IRow w2 ga (addTo r u k) ∧ IRow w2 go (List.replicate r.length 0) ∧ IRow w2 gu u ∧ But2 ga go w w2) := by
        have h0 := HR.out
        unfold IRow at h0 ⊢
        rw [hh2]
        exact ⟨h0.1, h0.2.1, h0.2.2.1, h0.2.2.2.then hb2⟩
      have qa := irow_cell HR2.out.1 hkl
      rw [hget] at qa
      clear hb2 hh2 HRa1 qu HR
      by_cases hfit : fitB (x + y) = true
      · rw [if_pos hfit, if_pos hfit] at HAd1
        have HNx2 : Hid _ := HNx.out hfit
        clear HNx HNo
        go_wp2_with fail
        refine (HAd1.out w2).mono ?_
        rintro e w3 ⟨rfl, hb3⟩
        have ha3 : IRow w3 ga (addTo r u k) := irow_below HR2.out.1 hb3 (irow_lt HR2.out.1)
        have qa3 := irow_cell ha3 hkl
        have za3 := irow_frozen ha3 k
        have HR3 : Hid (IRow (w3.setCell ⟨ga, k, none⟩ (.int .i64 (x + y))) ga (addTo r u (k + 1)) ∧ IRow (w3.setCell ⟨ga, k, none⟩ (.int .i64 (x + y))) go (List.replicate r.length 0) ∧ IRow (w3.setCell ⟨ga, k, none⟩ (.int .i64 (x + y))) gu u ∧ But2 ga go w (w3.setCell ⟨ga, k, none⟩ (.int .i64 (x + y)))) := by
          refine ⟨by rw [← HSet.out]; exact irow_set ha3 k _, ?_, ?_, ?_⟩
          · exact (Below.heap_setCell _ _ _ _ (by show go ≠ ga; exact fun e => HD.out.1 e.symm)).trans (irow_below HR2.out.2.1 hb3 (irow_lt HR2.out.2.1))
          · exact (Below.heap_setCell _ _ _ _ (by show gu ≠ ga; exact fun e => HD.out.2.1 e.symm)).trans (irow_below HR2.out.2.2.1 hb3 (irow_lt HR2.out.2.2.1))
          · exact (HR2.out.2.2.2.then hb3).set (.inl rfl) k _
        clear ha3 hb3 HR2 HAd1 qa HSet
        have qo3 := irow_cell HR3.out.2.1 hol
        rw [hog] at qo3
        go_upto_region 10 with fail
        generalize w3.setCell ⟨ga, k, none⟩ (.int .i64 (x + y)) = w4 at *
        clear qa3 za3
        go_wp2_with fail
        refine (HAd0.out w4).mono ?_
        rintro e w5 ⟨rfl, hb5⟩
        have ho5 : IRow w5 go (List.replicate r.length 0) := irow_below HR3.out.2.1 hb5 (irow_lt HR3.out.2.1)
        have qo5 := irow_cell ho5 hol
        rw [hog] at qo5
        have zo5 := irow_frozen ho5 k
        have HR5 : Hid (IRow (w5.setCell ⟨go, k, none⟩ (.int .i64 0)) ga (addTo r u (k + 1)) ∧ IRow (w5.setCell ⟨go, k, none⟩ (.int .i64 0)) go (List.replicate r.length 0) ∧ IRow (w5.setCell ⟨go, k, none⟩ (.int .i64 0)) gu u ∧ But2 ga go w (w5.setCell ⟨go, k, none⟩ (.int .i64 0))) := by
          refine ⟨(Below.heap_setCell _ _ _ _ (by show ga ≠ go; exact HD.out.1)).trans (irow_below HR3.out.1 hb5 (irow_lt HR3.out.1)), ?_, (Below.heap_setCell _ _ _ _ (by show gu ≠ go; exact fun e => HD.out.2.2 e.symm)).trans (irow_below HR3.out.2.2.1 hb5 (irow_lt HR3.out.2.2.1)), (HR3.out.2.2.2.then hb5).set (.inr rfl) k _⟩
          have := irow_set ho5 k 0
          rwa [HOs.out] at this
        clear ho5 hb5 HR3 HAd0 qo3 HOs
        go_wp2
        go_roundw
        case rel => exact ⟨k + 1, by omega, by go_num, HNx2, HR5⟩
        case measure => simp [RowKit.intOf]; omega
      · rw [if_neg hfit, if_neg hfit] at HAd1
        have HN2 : Hid (addOk r u = false) := HNo.out (by simpa using hfit)
        clear HNx HNo
        go_wp2_with fail
        refine (HAd1.out w2).mono ?_
        rintro e w3 ⟨rfl, hb3⟩
        have ha3 : IRow w3 ga (addTo r u k) := irow_below HR2.out.1 hb3 (irow_lt HR2.out.1)
        have qa3 := irow_cell ha3 hkl
        have za3 := irow_frozen ha3 k
        have HB3 : Hid (But2 ga go w (w3.setCell ⟨ga, k, none⟩ (.int .i64 0))) := (HR2.out.2.2.2.then hb3).set (.inl rfl) k _
        clear ha3 hb3 HR2 HAd1 qa HSet
        go_wp2
        go_ret
        exact (HEnd.out _ _).2 ⟨HB3.out, fun _ => rfl, fun h => absurd h (by rw [HN2.out]; decide)⟩
    · have hk2 : k = r.length := by omega
      subst hk2
      have HL2 : Hid (AdEnd r u ga go w (.returned .nilIface) wr) := (HEnd.out _ _).2 ⟨HR.out.2.2.2, fun h => absurd h (by rw [addOk_yes HF.out]; decide), fun _ => ⟨rfl, by rw [← addTo_all]; exact HR.out.1, HR.out.2.1⟩⟩
      clear HF HR HEnd
      go_wp2
      go_ret
      exact HL2.out
end Go.Proofs.Ythaidbicimiljaa

namespace Go.Proofs.Ythaidbicimiljaa
set_option linter.unusedVariables false
set_option linter.unusedSimpArgs false
set_option maxRecDepth 100000
open Go.RowKit Go.Lib

/-- A holding. -/
structure Ho where
  en : Int
  of_ : Int
  pt : Int
def Ho.cells (x : Ho) : Array Value := #[.int .i64 x.en, .int .i64 x.of_, .int .i64 x.pt]
def ho0 : Ho := ⟨0, 0, 0⟩
structure HoAt (w : World) (b off : Nat) (x : Ho) : Prop where
  c0 : w.cell? ⟨b, off, none⟩ = some (.int .i64 x.en)
  c1 : w.cell? ⟨b, off + 1, none⟩ = some (.int .i64 x.of_)
  c2 : w.cell? ⟨b, off + 2, none⟩ = some (.int .i64 x.pt)

theorem HoAt.below {w w' : World} {b off n : Nat} {a : Ho} (h : HoAt w b off a) (hb : Below n w w') (hn : b < n) : HoAt w' b off a :=
  ⟨(hb.cell (p := ⟨b, off, none⟩) hn).trans h.c0, (hb.cell (p := ⟨b, off + 1, none⟩) hn).trans h.c1, (hb.cell (p := ⟨b, off + 2, none⟩) hn).trans h.c2⟩
theorem HoAt.new (w : World) (a : Ho) (t : TypeId) : HoAt (w.alloc (.cells a.cells t)) w.heap.size 0 a :=
  ⟨by simp [Ho.cells], by simp [Ho.cells], by simp [Ho.cells]⟩

/-- Holdings in memory. -/
def HosAt (w : World) (b off : Nat) (l : List Ho) : Prop := ∀ k, k < l.length → HoAt w b (off + k * 3) (l.getD k ho0)

/-- A slice of holdings. -/
structure IsHo (w : World) (a : Option Addr) (l : List Ho) (cap : Nat) : Prop where
  cap : l.length ≤ cap
  lies : l = [] ∨ ∃ b off, a = some ⟨b, off, none⟩ ∧ b < w.heap.size ∧ HosAt w b off l

theorem IsHo.below {w w' : World} {a : Option Addr} {l : List Ho} {cap : Nat} (h : IsHo w a l cap) (hb : Below w.heap.size w w') : IsHo w' a l cap := by
  refine ⟨h.cap, ?_⟩
  rcases h.lies with h | ⟨b, off, e, hlt, hc⟩
  · exact .inl h
  · exact .inr ⟨b, off, e, by have := hb.size; omega, fun k hk => (hc k hk).below hb hlt⟩

theorem hos_drop (l : List Ho) (k : Nat) (h : k < l.length) : l.drop k = l.getD k ho0 :: l.drop (k + 1) := by
  rw [List.drop_eq_getElem_cons h, List.getD_eq_getElem?_getD, List.getElem?_eq_getElem h]
  rfl
theorem hos_take (l : List Ho) (k : Nat) (h : k < l.length) : l.take (k + 1) = l.take k ++ [l.getD k ho0] := by
  rw [List.take_add_one, List.getElem?_eq_getElem h, List.getD_eq_getElem?_getD, List.getElem?_eq_getElem h]
  rfl
theorem hos_mem (l : List Ho) (k : Nat) (h : k < l.length) : l.getD k ho0 ∈ l := by
  rw [List.getD_eq_getElem?_getD, List.getElem?_eq_getElem h]
  exact List.getElem_mem h

/-- The cells of holdings, one behind the other. -/
def hoRow (l : List Ho) : List Value := l.flatMap fun x => x.cells.toList
theorem Ho.cells_length (x : Ho) : x.cells.toList.length = 3 := rfl
theorem hoRow_length : ∀ l : List Ho, (hoRow l).length = l.length * 3
  | [] => rfl
  | x :: l => by
    have := hoRow_length l
    unfold hoRow at *
    simp only [List.flatMap_cons, List.length_append, Ho.cells_length, this, List.length_cons]
    omega
theorem hoRow_append (l m : List Ho) : hoRow (l ++ m) = hoRow l ++ hoRow m := by simp [hoRow]
theorem hoRow_one (x : Ho) : hoRow [x] = x.cells.toList := by simp [hoRow]
theorem hoRow_get : ∀ (l : List Ho) (k j : Nat), k < l.length → j < 3 → (hoRow l)[k * 3 + j]? = (l.getD k ho0).cells.toList[j]?
  | [], _, _, h, _ => absurd h (by simp)
  | x :: l, 0, j, _, hj => by
    simp only [hoRow, List.flatMap_cons, Nat.zero_mul, Nat.zero_add, List.getD_cons_zero]
    rw [List.getElem?_append_left (by rw [Ho.cells_length]; exact hj)]
  | x :: l, k + 1, j, h, hj => by
    have ih := hoRow_get l k j (by simpa using h) hj
    simp only [hoRow, List.flatMap_cons, List.getD_cons_succ] at ih ⊢
    rw [List.getElem?_append_right (by rw [Ho.cells_length]; omega), Ho.cells_length, ← ih]
    congr 1
    omega
theorem hoRow_one_cell (l : List Ho) : ∀ u ∈ hoRow l, u.oneCell' = true := by
  intro u hu
  simp only [hoRow, List.mem_flatMap] at hu
  obtain ⟨x, _, hx⟩ := hu
  simp [Ho.cells] at hx
  rcases hx with rfl | rfl | rfl <;> rfl
theorem hoRow_take (l : List Ho) (k : Nat) : hoRow (l.take k) = (hoRow l).take (k * 3) := by
  have h := hoRow_append (l.take k) (l.drop k)
  rw [List.take_append_drop] at h
  rw [h]
  by_cases hk : k ≤ l.length
  · have : (hoRow (l.take k)).length = k * 3 := by rw [hoRow_length, List.length_take, Nat.min_eq_left hk]
    rw [← this, List.take_left]
  · rw [List.take_of_length_le (by omega), List.drop_eq_nil_of_le (by omega)]
    rw [List.take_of_length_le]
    · show hoRow l = hoRow l ++ []
      simp
    · show (hoRow l ++ []).length ≤ _
      rw [List.append_nil, hoRow_length]
      omega
theorem hoRow_drop (l : List Ho) (k : Nat) : hoRow (l.drop k) = (hoRow l).drop (k * 3) := by
  have h := hoRow_append (l.take k) (l.drop k)
  rw [List.take_append_drop] at h
  have h2 := hoRow_take l k
  have h3 : hoRow l = (hoRow l).take (k * 3) ++ (hoRow l).drop (k * 3) := (List.take_append_drop _ _).symm
  rw [← h2] at h3
  rw [h] at h3
  have := List.append_cancel_left h3
  rw [this]
  rw [h]

/-- Holdings in a row of one's own. -/
def HoRow (w : World) (n : Nat) (v : Value) (l : List Ho) : Prop := w.ownsRow n 31 3 v l.length (hoRow l)

theorem HoRow.nil (w : World) (n : Nat) : HoRow w n (.slice none 0 0) [] := World.ownsRow_nil _ _ _ _
theorem HoRow.isHo {W : World} {n0 : Nat} {v : Value} {l : List Ho} (h : HoRow W n0 v l) :
    ∃ a cap, v = .slice a l.length cap ∧ IsHo W a l cap := by
  obtain ⟨hlen, ⟨rfl, h0⟩ | ⟨g, cap, cur, rfl, hb, hg, hc, hm, hs, ht⟩⟩ := h
  · have : l = [] := List.eq_nil_of_length_eq_zero h0
    subst this
    exact ⟨none, 0, rfl, Nat.le_refl _, .inl rfl⟩
  · refine ⟨_, cap, rfl, hc, .inr ⟨g, 0, rfl, (Array.getElem?_eq_some_iff.1 hg).1, ?_⟩⟩
    intro k hk
    have C : ∀ j, j < 3 → W.cell? ⟨g, 0 + k * 3 + j, none⟩ = (l.getD k ho0).cells.toList[j]? := fun j hj => by
      have e1 : (hoRow l)[k * 3 + j]? = cur[k * 3 + j]? := by
        rw [← ht, List.getElem?_take, if_pos (by omega)]
        simp
      rw [← hoRow_get l k j hk hj, e1]
      simp [World.cell?, hg]
    exact ⟨C 0 (by omega), C 1 (by omega), C 2 (by omega)⟩
theorem HoRow.below {w w' : World} {n : Nat} {v : Value} {l : List Ho} (h : HoRow w n v l) (hb : Below w.heap.size w w') : HoRow w' n v l := by
  rcases h.2 with ⟨hv, hn⟩ | ⟨g1, c1, cur, hv, hb1, hh, r⟩
  · exact ⟨h.1, .inl ⟨hv, hn⟩⟩
  · exact ⟨h.1, .inr ⟨g1, c1, cur, hv, hb1, (hb.block g1 (Array.getElem?_eq_some_iff.1 hh).1).trans hh, r⟩⟩
theorem HoRow.mono {w : World} {n m : Nat} {v : Value} {l : List Ho} (h : HoRow w n v l) (hm : m ≤ n) : HoRow w m v l := by
  rcases h.2 with ⟨hv, hn⟩ | ⟨g1, c1, cur, hv, hb1, r⟩
  · exact ⟨h.1, .inl ⟨hv, hn⟩⟩
  · exact ⟨h.1, .inr ⟨g1, c1, cur, hv, by omega, r⟩⟩
theorem HoRow.own {w : World} {n : Nat} {v : Value} {xs : List Ho} (h : HoRow w n v xs) : ∀ j, v.ownBlock = some j → n ≤ j := fun j ej => by
  rcases h.2 with ⟨rfl, _⟩ | ⟨g1, c1, cur, rfl, hg1, _⟩
  · cases ej
  · cases ej; exact hg1


theorem isHo_nil (W : World) : IsHo W none [] 0 := ⟨Nat.le_refl _, .inl rfl⟩
theorem HoRow.isHo' {W : World} {n0 : Nat} {a : Option Addr} {m cap : Nat} {l : List Ho} (h : HoRow W n0 (.slice a m cap) l) : m = l.length ∧ IsHo W a l cap := by
  obtain ⟨a', c', e, hs⟩ := h.isHo
  cases e
  exact ⟨rfl, hs⟩

theorem ho_info : (Try.prog.info? 31).map (fun i => (i.zero, i.size, i.bytes)) = some (some (.agg #[.int .i64 0, .int .i64 0, .int .i64 0]), 3, 24) := by kernel_rfl
theorem IsHo.some {w : World} {a : Option Addr} {l : List Ho} {cap k : Nat} (h : IsHo w a l cap) (hk : k < l.length) : ∃ b off, a = some ⟨b, off, none⟩ ∧ b < w.heap.size ∧ HosAt w b off l := by
  rcases h.lies with h | h
  · rw [h] at hk; simp at hk
  · exact h
theorem isHo_one {W : World} {b : Nat} {x : Ho} (h : HoAt W b 0 x) (hb : b < W.heap.size) : IsHo W (some ⟨b, 0, none⟩) [x] 1 := by
  refine ⟨Nat.le_refl _, .inr ⟨b, 0, rfl, hb, fun k hk => ?_⟩⟩
  have e : k = 0 := by simp at hk; omega
  subst e
  exact h
end Go.Proofs.Ythaidbicimiljaa

namespace Go.Proofs.Ythaidbicimiljaa
set_option linter.unusedVariables false
set_option linter.unusedSimpArgs false
set_option maxRecDepth 100000
open Go.RowKit Go.Lib

theorem a13_size : (Try.prog.info? 57).map (·.size) = some 13 := by kernel_rfl
theorem gr_drew {n : Nat} {w W : World} (h : Below n w W) : Below n w W.drew := h.trans ⟨rfl, rfl, rfl, Nat.le_refl _, fun _ _ => rfl⟩
/-- Thirteen numbers. -/
def c13 (f : Nat → Int) : List Value := (List.range 13).map fun k => .int .i64 (f k)
def A13 (W : World) (b : Nat) (f : Nat → Int) : Prop := W.heap[b]? = some (.cells (c13 f).toArray 57 (0, 0))
theorem c13_zero : c13 (fun _ => 0) = [.int .i64 0, .int .i64 0, .int .i64 0, .int .i64 0, .int .i64 0, .int .i64 0, .int .i64 0, .int .i64 0, .int .i64 0, .int .i64 0, .int .i64 0, .int .i64 0, .int .i64 0] := rfl
/-- Thirteen numbers as a value. -/
def a13 (f : Nat → Int) : Array Value := #[.int .i64 (f 0), .int .i64 (f 1), .int .i64 (f 2), .int .i64 (f 3), .int .i64 (f 4), .int .i64 (f 5), .int .i64 (f 6), .int .i64 (f 7), .int .i64 (f 8), .int .i64 (f 9), .int .i64 (f 10), .int .i64 (f 11), .int .i64 (f 12)]
theorem a13_eq (f : Nat → Int) : a13 f = (c13 f).toArray := rfl
theorem c13_len (f : Nat → Int) : (c13 f).length = 13 := by simp [c13]
section
variable {V W : World} {b : Nat} {g : Nat → Int}
theorem A13.below {n : Nat} (a : A13 V b g) (hb : Below n V W) (hn : b < n) : A13 W b g := (hb.block b hn).trans a
theorem A13.lt (a : A13 V b g) : b < V.heap.size := (Array.getElem?_eq_some_iff.1 a).1
theorem A13.cell (a : A13 V b g) (k : Nat) (hk : k < 13) : V.cell? ⟨b, k, none⟩ = some (.int .i64 (g k)) := by
  unfold A13 at a
  simp [World.cell?, a, c13, hk]
theorem A13.fz (a : A13 V b g) (k : Nat) : V.frozen? ⟨b, k, none⟩ = false := by
  unfold A13 at a
  simp [World.frozen?, a]
theorem A13.set (a : A13 V b g) (k : Nat) (hk : k < 13) (x : Int) : A13 (V.setCell ⟨b, k, none⟩ (.int .i64 x)) b (fun j => if j = k then x else g j) := by
  unfold A13 at a ⊢
  rw [setCell_eq_setRow V b _ _ _ (0, 0) _ a, setRow_heap V b _ _ _ (0, 0) a]
  congr 2
  rw [List.setIfInBounds_toArray]
  congr 1
  unfold c13
  refine List.ext_getElem? (fun j => ?_)
  rw [List.getElem?_set]
  by_cases e : k = j
  · subst e
    simp [hk]
  · rw [if_neg e]
    simp only [List.getElem?_map]
    by_cases hj : j < 13
    · simp [List.getElem?_range hj, fun h : j = k => e h.symm]
      intro h; exact absurd h.symm e
    · rw [List.getElem?_eq_none (by simp; omega)]
      rfl
theorem A13.congr {f : Nat → Int} (a : A13 V b g) (e : g = f) : A13 V b f := e ▸ a
theorem A13.new (w : World) (f : Nat → Int) : A13 (w.alloc (.cells (c13 f).toArray 57)) w.heap.size f := by
  unfold A13
  generalize (c13 f).toArray = z
  exact Array.getElem?_push_size
end
/-- How many thousandths are had of an entity. -/
def hadL (l : List Ho) (n : Nat) : Int := (l.map fun x => if x.of_ = (n : Int) then x.pt else 0).sum
theorem hadL_nil : hadL [] = fun _ => 0 := rfl
theorem hadL_snoc (l : List Ho) (x : Ho) (n : Nat) : hadL (l ++ [x]) n = hadL l n + if x.of_ = (n : Int) then x.pt else 0 := by simp [hadL]
/-- Holdings by themselves in bounds. -/
structure HoOk (l : List Ho) : Prop where
  len : l.length ≤ 20
  en : ∀ x ∈ l, 1 ≤ x.en ∧ x.en ≤ 12
  of_ : ∀ x ∈ l, 1 ≤ x.of_ ∧ x.of_ ≤ 12
  pt : ∀ x ∈ l, 1 ≤ x.pt ∧ x.pt ≤ 1000
theorem HoOk.sub {l m : List Ho} (h : HoOk l) (hs : m.Sublist l) : HoOk m :=
  ⟨Nat.le_trans hs.length_le h.len, fun x hx => h.en x (hs.subset hx), fun x hx => h.of_ x (hs.subset hx), fun x hx => h.pt x (hs.subset hx)⟩
theorem hadL_bd : ∀ (l : List Ho) (n : Nat), (∀ x ∈ l, 1 ≤ x.pt ∧ x.pt ≤ 1000) → 0 ≤ hadL l n ∧ hadL l n ≤ 1000 * l.length
  | [], n, _ => by simp [hadL]
  | x :: l, n, h => by
    have ih := hadL_bd l n (fun y hy => h y (List.mem_cons_of_mem _ hy))
    have hx := h x List.mem_cons_self
    have e : hadL (x :: l) n = (if x.of_ = (n : Int) then x.pt else 0) + hadL l n := by simp [hadL]
    rw [e, List.length_cons]
    split <;> omega
theorem HoOk.had {l : List Ho} (h : HoOk l) (n : Nat) : 0 ≤ hadL l n ∧ hadL l n ≤ 20000 := by
  have h1 := hadL_bd l n h.pt
  have h2 := h.len
  omega
theorem HoOk.hadt {l : List Ho} (h : HoOk l) (k n : Nat) : 0 ≤ hadL (l.take k) n ∧ hadL (l.take k) n ≤ 20000 := (h.sub (List.take_sublist k l)).had n

set_option maxHeartbeats 4000000 in
theorem had_any (a : Option Addr) (cap : Nat) (l : List Ho) (w : World) (hok : HoOk l) (h : IsHo w a l cap) :
    Calls Try.prog 21 #[.slice a l.length cap] w fun e w' => e = .returned (.agg (c13 (hadL l)).toArray) ∧ Below w.heap.size w w' := by
  have Hok : Hid (HoOk l) := hok
  have Hs : Hid (IsHo w a l cap) := h
  have hlen : (l.length : Int) ≤ 20 := by have := hok.len; omega
  have hst : Hid (A13 (w.alloc (.cells (c13 fun _ => 0).toArray 57)) w.heap.size (hadL (l.take 0))) := by
    rw [List.take_zero, hadL_nil]; exact A13.new w _
  have HB0 : Hid (Below w.heap.size w (w.alloc (.cells (c13 fun _ => 0).toArray 57))) := (Below.refl _ w).alloc (Nat.le_refl _) _
  rw [c13_zero] at hst HB0
  have hGG : w.heap.size ≤ w.heap.size := Nat.le_refl _
  clear hok h
  go_enter Try.func21, Try.ntmps21
  go_wp2
  go_loopw [7] (fun i wr => ∃ k : Nat, k ≤ l.length ∧ i = .int .i64 k ∧ Hid (A13 wr w.heap.size (hadL (l.take k))) ∧ Hid (Below w.heap.size w wr)) (fun i _ => l.length - (RowKit.intOf i).toNat)
  case atStart => exact ⟨0, Nat.zero_le _, rfl, hst, HB0⟩
  case round =>
    obtain ⟨k, hk, rfl, HA, HB⟩ := hrel
    clear hst HB0
    by_cases hlt : k < l.length
    · obtain ⟨b, off, rfl, hb, hc⟩ := Hs.out.some hlt
      have hx := (hc k hlt).below HB.out hb
      obtain ⟨c0, c1, c2⟩ := hx
      have hmem := hos_mem l k hlt
      have ho1 := Hok.out.of_ _ hmem
      have hp1 := Hok.out.pt _ hmem
      have HT : Hid (l.take (k + 1) = l.take k ++ [l.getD k ho0]) := hos_take l k hlt
      generalize l.getD k ho0 = x at *
      obtain ⟨x0, x1, x2⟩ := x
      simp only at c0 c1 c2 ho1 hp1
      obtain ⟨m, rfl⟩ : ∃ m : Nat, x1 = m := ⟨x1.toNat, by omega⟩
      have hm0 : (0 : Int) ≤ m := by omega
      have hm13 : (m : Int) < 13 := by omega
      have hb1 := (Hok.out.hadt k m)
      have HAn : Hid (A13 (wr.alloc (.cells #[.int .i64 x0, .int .i64 m, .int .i64 x2] 31)) w.heap.size (hadL (l.take k))) := HA.out.below ((Below.refl _ wr).alloc (Nat.le_refl _) _) HA.out.lt
      have hcell := HAn.out.cell m (by omega)
      have hfz := HAn.out.fz m
      obtain ⟨s, hs⟩ : ∃ s, hadL (l.take k) m = s := ⟨_, rfl⟩
      have HSet : Hid (A13 _ w.heap.size (hadL (l.take (k + 1)))) := (HAn.out.set m (by omega) (s + x2)).congr (by
        funext j
        rw [HT.out, hadL_snoc]
        by_cases e : j = m
        · subst e; simp [hs]
        · have : ¬ ((m : Int) = j) := by omega
          simp [e, this])
      have HBn : Hid (Below w.heap.size w _) := (HB.out.alloc (by have := HB.out.size; exact this) (.cells #[.int .i64 x0, .int .i64 m, .int .i64 x2] 31)).setCell (p := ⟨w.heap.size, m, none⟩) (Nat.le_refl _) (.int .i64 (s + x2))
      rw [hs] at hcell hb1
      have hk0 : (0 : Int) ≤ k := by omega
      have hk1 : (k : Int) < l.length := by omega
      clear HA HB HAn hc HT hs hmem
      go_wp2
      go_region
      all_goals (try go_wp2)
      all_goals go_roundw
      case rel => exact ⟨k + 1, by omega, by go_num, HSet, gr_drew HBn.out⟩
      case measure => simp [RowKit.intOf]; omega
    · have hk2 : k = l.length := by omega
      subst hk2
      rw [List.take_length] at HA
      have q0 := HA.out.cell 0 (by omega)
      have q1 := HA.out.cell 1 (by omega)
      have q2 := HA.out.cell 2 (by omega)
      have q3 := HA.out.cell 3 (by omega)
      have q4 := HA.out.cell 4 (by omega)
      have q5 := HA.out.cell 5 (by omega)
      have q6 := HA.out.cell 6 (by omega)
      have q7 := HA.out.cell 7 (by omega)
      have q8 := HA.out.cell 8 (by omega)
      have q9 := HA.out.cell 9 (by omega)
      have q10 := HA.out.cell 10 (by omega)
      have q11 := HA.out.cell 11 (by omega)
      have q12 := HA.out.cell 12 (by omega)
      have z0 := HA.out.fz 0
      have z1 := HA.out.fz 1
      have z2 := HA.out.fz 2
      have z3 := HA.out.fz 3
      have z4 := HA.out.fz 4
      have z5 := HA.out.fz 5
      have z6 := HA.out.fz 6
      have z7 := HA.out.fz 7
      have z8 := HA.out.fz 8
      have z9 := HA.out.fz 9
      have z10 := HA.out.fz 10
      have z11 := HA.out.fz 11
      have z12 := HA.out.fz 12
      have HBn : Hid (Below w.heap.size w _) := (((((((((((((HB.out.setCell (p := ⟨w.heap.size, 0, none⟩) (Nat.le_refl _) (.int .i64 (hadL l 0))).setCell (p := ⟨w.heap.size, 1, none⟩) (Nat.le_refl _) (.int .i64 (hadL l 1))).setCell (p := ⟨w.heap.size, 2, none⟩) (Nat.le_refl _) (.int .i64 (hadL l 2))).setCell (p := ⟨w.heap.size, 3, none⟩) (Nat.le_refl _) (.int .i64 (hadL l 3))).setCell (p := ⟨w.heap.size, 4, none⟩) (Nat.le_refl _) (.int .i64 (hadL l 4))).setCell (p := ⟨w.heap.size, 5, none⟩) (Nat.le_refl _) (.int .i64 (hadL l 5))).setCell (p := ⟨w.heap.size, 6, none⟩) (Nat.le_refl _) (.int .i64 (hadL l 6))).setCell (p := ⟨w.heap.size, 7, none⟩) (Nat.le_refl _) (.int .i64 (hadL l 7))).setCell (p := ⟨w.heap.size, 8, none⟩) (Nat.le_refl _) (.int .i64 (hadL l 8))).setCell (p := ⟨w.heap.size, 9, none⟩) (Nat.le_refl _) (.int .i64 (hadL l 9))).setCell (p := ⟨w.heap.size, 10, none⟩) (Nat.le_refl _) (.int .i64 (hadL l 10))).setCell (p := ⟨w.heap.size, 11, none⟩) (Nat.le_refl _) (.int .i64 (hadL l 11))).setCell (p := ⟨w.heap.size, 12, none⟩) (Nat.le_refl _) (.int .i64 (hadL l 12)))
      clear HA HB
      go_wp2
      exact bodyPost_ret (v := .agg (c13 (hadL l)).toArray) (by simp [results, Try.results21, go_sem, q0, q1, q2, q3, q4, q5, q6, q7, q8, q9, q10, q11, q12]; rfl) rfl ⟨rfl, HBn.out⟩
end Go.Proofs.Ythaidbicimiljaa
