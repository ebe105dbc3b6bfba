/-
  The contract of entry.isRef.
-/
import Derived.Test.YtiolkeipgpkbmaaGreatDoorZg16
import Derived.Test.YtiolkeipgpkbmaaGreatDoorZg13
import Derived.Test.YtiolkeipgpkbmaaGreatDoorProg
import Derived.WalkKit
import Derived.WalkSpells
import Derived.Lib.OthersKept
import Derived.Lib.TrimU
import Derived.Deep.LoopGhost
import Derived.Conc.MuLone
import Derived.Shelf.Abstract
import Derived.Deep.QuietTactic
import Derived.BigQuiet
namespace Go.Proofs.YtiolkeipgpkbmaaGreatDoor
set_option linter.unusedVariables false
set_option linter.unusedSimpArgs false
set_option maxRecDepth 100000
open Go.RowKit Go.Lib

/-- A pool, with the places of its lists. -/
structure Po where
  acc : ByteArray
  cur : ByteArray
  tA : Option Addr
  tC : Nat
  tos : List ByteArray
  wA : Option Addr
  wC : Nat
  ws : List Int
def po0 : Po := ⟨ByteArray.empty, ByteArray.empty, none, 0, [], none, 0, []⟩
def Po.cells (p : Po) : Array Value := #[.string p.acc, .string p.cur, .slice p.tA p.tos.length p.tC, .slice p.wA p.ws.length p.wC]
/-- What a pool's lists are. -/
structure PoOk (w : World) (p : Po) : Prop where
  tx : IsTx w p.tA p.tos p.tC
  iw : IsW w p.wA p.ws p.wC
  lt : p.tos.length ≤ 9223372036854775807
  lw : p.ws.length ≤ 9223372036854775807
theorem PoOk.below {w w' : World} {p : Po} (h : PoOk w p) (hb : Below w.heap.size w w') : PoOk w' p := ⟨h.tx.below hb, h.iw.below hb, h.lt, h.lw⟩
structure PoAt (w : World) (b off : Nat) (p : Po) : Prop where
  c0 : w.cell? ⟨b, off, none⟩ = some (.string p.acc)
  c1 : w.cell? ⟨b, off + 1, none⟩ = some (.string p.cur)
  c2 : w.cell? ⟨b, off + 2, none⟩ = some (.slice p.tA p.tos.length p.tC)
  c3 : w.cell? ⟨b, off + 3, none⟩ = some (.slice p.wA p.ws.length p.wC)
theorem PoAt.below {w w' : World} {b off n : Nat} {p : Po} (h : PoAt w b off p) (hb : Below n w w') (hn : b < n) : PoAt w' b off p :=
  ⟨(hb.cell (p := ⟨b, off, none⟩) hn).trans h.c0, (hb.cell (p := ⟨b, off + 1, none⟩) hn).trans h.c1, (hb.cell (p := ⟨b, off + 2, none⟩) hn).trans h.c2, (hb.cell (p := ⟨b, off + 3, none⟩) hn).trans h.c3⟩
theorem PoAt.new (w : World) (p : Po) (t : TypeId) : PoAt (w.alloc (.cells p.cells t)) w.heap.size 0 p :=
  ⟨by simp [Po.cells], by simp [Po.cells], by simp [Po.cells], by simp [Po.cells]⟩
/-- A slice of pools. -/
structure IsPs (w : World) (a : Option Addr) (l : List Po) (cap : Nat) : Prop where
  cap : l.length ≤ cap
  lies : l = [] ∨ ∃ b off, a = some ⟨b, off, none⟩ ∧ b < w.heap.size ∧ ∀ k, k < l.length → PoAt w b (off + k * 4) (l.getD k po0)
  ok : ∀ p ∈ l, PoOk w p
theorem IsPs.below {w w' : World} {a : Option Addr} {l : List Po} {cap : Nat} (h : IsPs w a l cap) (hb : Below w.heap.size w w') : IsPs w' a l cap := by
  refine ⟨h.cap, ?_, fun p hp => (h.ok p hp).below hb⟩
  rcases h.lies with h | ⟨b, off, e, hlt, hc⟩
  · exact .inl h
  · exact .inr ⟨b, off, e, by have := hb.size; omega, fun k hk => (hc k hk).below hb hlt⟩
theorem IsPs.at {w : World} {a : Option Addr} {l : List Po} {cap : Nat} (h : IsPs w a l cap) {k : Nat} (hk : k < l.length) : ∃ b off, a = some ⟨b, off, none⟩ ∧ b < w.heap.size ∧ PoAt w b (off + k * 4) (l.getD k po0) ∧ PoOk w (l.getD k po0) := by
  rcases h.lies with rfl | ⟨b, off, e, hlt, hc⟩
  · simp at hk
  · refine ⟨b, off, e, hlt, hc k hk, h.ok _ ?_⟩
    rw [List.getD_eq_getElem?_getD, List.getElem?_eq_getElem hk]
    exact List.getElem_mem hk
theorem IsPs.take {w : World} {a : Option Addr} {l : List Po} {cap : Nat} (h : IsPs w a l cap) (k : Nat) : IsPs w a (l.take k) cap := by
  refine ⟨by have := h.cap; simp; omega, ?_, fun p hp => h.ok p (List.mem_of_mem_take hp)⟩
  rcases h.lies with h | ⟨b, off, e, hlt, hc⟩
  · exact .inl (by rw [h]; simp)
  · refine .inr ⟨b, off, e, hlt, fun j hj => ?_⟩
    simp only [List.length_take] at hj
    have : (l.take k).getD j po0 = l.getD j po0 := by
      rw [List.getD_eq_getElem?_getD, List.getD_eq_getElem?_getD, List.getElem?_take, if_pos (by omega)]
    rw [this]
    exact hc j (by omega)

/-- Texts that can be in memory. -/
structure PoTx (p : Po) : Prop where
  acc : p.acc.size ≤ maxLen
  cur : p.cur.size ≤ maxLen
  tos : ∀ t ∈ p.tos, t.size ≤ maxLen
/-- What is wrong with one of those to whom is given. -/
def toBad (c : List Ac) (acc : ByteArray) (l : List ByteArray) (k : Nat) : Int :=
  if leafBad c (l.getD k ByteArray.empty) ≠ 0 then leafBad c (l.getD k ByteArray.empty)
  else if l.getD k ByteArray.empty = acc ∨ memB (l.getD k ByteArray.empty) (l.take k) = true then 8 else 0
/-- What is wrong with a pool. -/
def poBad (c : List Ac) (p : Po) : Int :=
  if leafBad c p.acc ≠ 0 then leafBad c p.acc
  else if isCur p.cur = false then 2
  else if p.tos.length = 0 ∨ p.tos.length ≠ p.ws.length then 3
  else if 19 < p.tos.length then 4
  else if firstTo (toBad c p.acc p.tos) p.tos.length ≠ 0 then firstTo (toBad c p.acc p.tos) p.tos.length
  else shBad p.ws
/-- What is wrong with pools. -/
def psBad (c : List Ac) (l : List Po) : Int :=
  if chBad c ≠ 0 then chBad c else if 20 < l.length then 4 else firstTo (fun k => poBad c (l.getD k po0)) l.length

theorem shares_err (ws : List Int) (a : Option Addr) (cap : Nat) (w : World) (h : IsW w a ws cap) (hl : ws.length ≤ 9223372036854775807) :
    Calls Tryz.prog 36 #[.int .i64 0, .slice a ws.length cap] w fun e w' => (∃ v, e = .returned (.tuple #[v, chE (shBad ws)])) ∧ Below w.heap.size w w' := by
  refine (shares_any 0 a ws cap w h hl ⟨by decide, by decide⟩).mono ?_
  rintro e w' ⟨hb, h1, h2⟩
  refine ⟨?_, hb⟩
  by_cases h0 : shBad ws = 0
  · obtain ⟨g, _, rfl, _⟩ := h2 h0
    exact ⟨_, by rw [h0, chE_zero]⟩
  · exact ⟨_, by rw [h1 h0, chE_ne h0]⟩

set_option maxHeartbeats 8000000 in
theorem checkPool_any (c : List Ac) (p : Po) (B1 B2 : Nat) (w : World) (hL : Lfs w B1 B2 c) (hp : PoOk w p) :
    Calls Tryz.prog 12 #[.agg p.cells, .func (.func 32) #[] #[.pointer (some ⟨B1, 0, none⟩), .pointer (some ⟨B2, 0, none⟩)]] w fun e w' => e = .returned (chE (poBad c p)) ∧ Below w.heap.size w w' := by
  have eg : ∀ args W, (callFunc 32 args).run Tryz.prog W = .ok (.enter 32 args) W := fun args W => enters Tryz.func32 (by kernel_rfl) ⟨_, rfl⟩ args W
  obtain ⟨B, hB⟩ : ∃ B, w.heap.size = B := ⟨_, rfl⟩
  obtain ⟨w0, hw0⟩ : ∃ w0, w.alloc (.cells p.cells 45) = w0 := ⟨_, rfl⟩
  have B0 : Below w.heap.size w w0 := by rw [← hw0]; exact (Below.refl _ w).alloc (Nat.le_refl _) _
  have HA : Hid (∀ W, Below w0.heap.size w0 W → PoAt W B 0 p ∧ PoOk W p ∧ Below w.heap.size w W) := fun W hW => by
    have hs : w.heap.size < w0.heap.size := by rw [← hw0]; simp
    exact ⟨hB ▸ (by rw [← hw0]; exact PoAt.new w p _ : PoAt w0 w.heap.size 0 p).below hW hs, (hp.below B0).below hW, B0.trans (hW.mono (by omega))⟩
  have HLf : Hid (∀ code W, Below w0.heap.size w0 W → Calls Tryz.prog 32 #[.string code, .pointer (some ⟨B1, 0, none⟩), .pointer (some ⟨B2, 0, none⟩)] W fun e w' => e = .returned (chE (leafBad c code)) ∧ Below w0.heap.size w0 w') := fun code W hW => by
    refine (leaf1_any c code B1 B2 W ((hL.below B0).below hW)).mono ?_
    rintro e w' ⟨rfl, hb⟩
    exact ⟨rfl, hW.trans (hb.mono hW.size)⟩
  have HCu : Hid (∀ W, Below w0.heap.size w0 W → Calls Tryz.prog 35 #[.string p.cur] W fun e w' => e = .returned (.bool (isCur p.cur)) ∧ Below w0.heap.size w0 w') := fun W hW => by
    refine (cur_any p.cur W).mono ?_
    rintro e w' ⟨rfl, hb⟩
    exact ⟨rfl, hW.trans (hb.mono hW.size)⟩
  have HSh : Hid (∀ W, Below w0.heap.size w0 W → Calls Tryz.prog 36 #[.int .i64 0, .slice p.wA p.ws.length p.wC] W fun e w' => (∃ v, e = .returned (.tuple #[v, chE (shBad p.ws)])) ∧ Below w0.heap.size w0 w') := fun W hW => by
    refine (shares_err p.ws p.wA p.wC W ((hp.below B0).below hW).iw hp.lw).mono ?_
    rintro e w' ⟨he, hb⟩
    exact ⟨he, hW.trans (hb.mono hW.size)⟩
  have HCo : Hid (∀ k W, Below w0.heap.size w0 W → p.tos.length ≤ 19 → k ≤ p.tos.length → ∀ code, Calls Tryz.prog 34 #[.slice p.tA k p.tC, .string code] W fun e w' => e = .returned (.bool (memB code (p.tos.take k))) ∧ w' = W) := fun k W hW h19 hk code => by
    have := txContains_any p.tA p.tC (p.tos.take k) code W (by simp; omega) (((hp.below B0).below hW).tx.take k)
    rw [List.length_take, Nat.min_eq_left hk] at this
    exact this
  obtain ⟨res, hres⟩ : ∃ res, chE (poBad c p) = res := ⟨_, rfl⟩
  have Hres : Hid (chE (poBad c p) = res) := hres
  rw [hres]
  have hlt := hp.lt
  have hlw := hp.lw
  have hcap : p.tos.length ≤ p.tC := hp.tx.cap
  clear hres hL hp
  have HW0 : Hid (w.alloc (.cells p.cells 45) = w0) := hw0
  clear hw0
  obtain ⟨acc, cur, tA, tC, tos, wA, wC, ws⟩ := p
  simp only [Po.cells] at HW0 HA HLf HCu HSh HCo hlt hlw hcap ⊢
  have HF := HLf.out acc w0 (Below.refl _ _)
  obtain ⟨⟨d0, d1, d2, d3⟩, _, _⟩ := HA.out w0 (Below.refl _ _)
  simp only [Nat.zero_add] at d0 d1 d2 d3
  have HFH : Hid (Calls _ _ _ _ _) := HF
  clear HF
  by_cases c1 : leafBad c acc ≠ 0
  · have er : res = chE (leafBad c acc) := by rw [← Hres.out]; unfold poBad; simp only; rw [if_pos c1]
    rw [chE_ne c1] at HFH er
    subst er
    clear HLf HCu HSh HCo Hres c1
    go_enter Tryz.func12, Tryz.ntmps12
    go_upto_region 1 with fail
    rw [HW0.out]
    clear HW0
    go_wp2_with (go_at_fn 32; refine HFH.out.mono ?_; rintro e w' ⟨rfl, hb'⟩)
    go_ret
    exact ⟨rfl, (HA.out _ hb').2.2⟩
  have c1' : leafBad c acc = 0 := Decidable.of_not_not c1
  have HR1 : Hid (chE (if isCur cur = false then (2 : Int) else if tos.length = 0 ∨ tos.length ≠ ws.length then 3 else if 19 < tos.length then 4 else if firstTo (toBad c acc tos) tos.length ≠ 0 then firstTo (toBad c acc tos) tos.length else shBad ws) = res) := by
    have := Hres.out; unfold poBad at this; simp only at this; rw [if_neg c1] at this; exact this
  rw [c1', chE_zero] at HFH
  clear Hres c1 c1'
  go_enter Tryz.func12, Tryz.ntmps12
  go_upto_region 1 with fail
  rw [HW0.out]
  clear HW0
  go_wp2_with fail
  go_at_fn 32
  refine HFH.out.mono ?_
  rintro e w1 ⟨rfl, hb1⟩
  clear HFH d0 d1 d2 d3
  obtain ⟨⟨d0, d1, d2, d3⟩, _, _⟩ := HA.out w1 hb1
  simp only [Nat.zero_add] at d0 d1 d2 d3
  have HCu1 : Hid (Calls _ _ _ _ _) := HCu.out w1 hb1
  clear HCu
  cases hcu : isCur cur
  · have er : res = chE 2 := by rw [← HR1.out, if_pos hcu]
    rw [chE_ne (by decide)] at er
    subst er
    rw [hcu] at HCu1
    clear HR1 hcu
    go_wp2_with (go_at_call 35; refine HCu1.out.mono ?_; rintro e w2 ⟨rfl, hb2⟩)
    go_ret
    exact ⟨rfl, (HA.out _ hb2).2.2⟩
  have HR2 : Hid (chE (if tos.length = 0 ∨ tos.length ≠ ws.length then (3 : Int) else if 19 < tos.length then 4 else if firstTo (toBad c acc tos) tos.length ≠ 0 then firstTo (toBad c acc tos) tos.length else shBad ws) = res) := by
    have := HR1.out; rw [if_neg (by rw [hcu]; simp)] at this; exact this
  rw [hcu] at HCu1
  clear HR1 hcu
  go_wp2_with fail
  refine HCu1.out.mono ?_
  rintro e w2 ⟨rfl, hb2⟩
  clear d0 d1 d2 d3 HCu1 hb1
  obtain ⟨⟨d0, d1, d2, d3⟩, _, hbw⟩ := HA.out w2 hb2
  simp only [Nat.zero_add] at d0 d1 d2 d3
  by_cases c3 : tos.length = 0 ∨ tos.length ≠ ws.length
  · have er : res = chE 3 := by rw [← HR2.out, if_pos c3]
    rw [chE_ne (by decide)] at er
    subst er
    by_cases c30 : tos.length = 0
    · obtain rfl := List.eq_nil_of_length_eq_zero c30
      clear HR2 c3 c30 HLf HSh HCo HA
      simp only [List.length_nil] at d2
      go_wp2
      go_ret
      exact ⟨rfl, hbw⟩
    · have n0 : ((tos.length : Int) == 0) = false := by rw [beq_eq_false_iff_ne]; omega
      have n1 : ((tos.length : Int) != (ws.length : Int)) = true := by
        rw [bne_iff_ne]; intro e; rcases c3 with c3 | c3 <;> omega
      have n2 : ((tos.length : Int) == (ws.length : Int)) = false := by
        rw [beq_eq_false_iff_ne]; intro e; rcases c3 with c3 | c3 <;> omega
      clear HR2 c3 HLf HSh HCo HA
      go_wp2
      go_ret
      exact ⟨rfl, hbw⟩
  have he : ws.length = tos.length := by omega
  have hn0 : tos.length ≠ 0 := by omega
  have HR3 : Hid (chE (if 19 < tos.length then (4 : Int) else if firstTo (toBad c acc tos) tos.length ≠ 0 then firstTo (toBad c acc tos) tos.length else shBad ws) = res) := by
    have := HR2.out; rw [if_neg c3] at this; exact this
  clear HR2 c3
  obtain ⟨n, hn⟩ : ∃ n, tos.length = n := ⟨_, rfl⟩
  rw [he] at d3 HSh
  rw [hn] at d2 d3 HSh HCo HR3 hcap hn0 hlt
  have Hn : Hid (tos.length = n) := hn
  have Hwn : Hid (ws.length = n) := he.trans hn
  clear he hn hlw
  have n0 : ((n : Int) == 0) = false := by rw [beq_eq_false_iff_ne]; omega
  have n1 : (n : Int) ≤ tC := by omega
  by_cases c4 : 19 < n
  · have er : res = chE 4 := by rw [← HR3.out, if_pos c4]
    rw [chE_ne (by decide)] at er
    subst er
    have i4 : (19 : Int) < n := by omega
    clear HR3 HLf HSh HCo HA
    go_wp2
    go_ret
    exact ⟨rfl, hbw⟩
  have HR4 : Hid (chE (if firstTo (toBad c acc tos) n ≠ 0 then firstTo (toBad c acc tos) n else shBad ws) = res) := by
    have := HR3.out; rw [if_neg c4] at this; exact this
  have i4 : ¬ (19 : Int) < n := by omega
  have i5 : (n : Int) ≤ 19 := by omega
  have h19 : n ≤ 19 := by omega
  clear HR3
  go_wp2
  go_loopw [45] (fun i wr => ∃ k : Nat, k ≤ n ∧ i = .int .i64 k ∧ Hid (firstTo (toBad c acc tos) k = 0) ∧ Hid (Below w0.heap.size w0 wr)) (fun i _ => n - (RowKit.intOf i).toNat)
  case atStart => exact ⟨0, Nat.zero_le _, rfl, rfl, hb2⟩
  case round =>
    obtain ⟨k, hk, rfl, H0, HB⟩ := hrel
    clear d0 d1 d2 d3
    obtain ⟨⟨d0, d1, d2, d3⟩, hok, hbr⟩ := HA.out wr HB.out
    simp only [Nat.zero_add] at d0 d1 d2 d3
    by_cases hkn : k < n
    · obtain ⟨b, off, e, hbl, hc⟩ := hok.tx.at (k := k) (by show k < tos.length; rw [Hn.out]; exact hkn)
      simp only at e hc
      subst e
      have HL1 : Hid (Calls _ _ _ _ _) := HLf.out (tos.getD k ByteArray.empty) wr HB.out
      have HE : Hid (toBad c acc tos k = if leafBad c (tos.getD k ByteArray.empty) ≠ 0 then leafBad c (tos.getD k ByteArray.empty) else if tos.getD k ByteArray.empty = acc ∨ memB (tos.getD k ByteArray.empty) (tos.take k) = true then 8 else 0) := rfl
      have HRet : Hid (∀ z, z ≠ 0 → toBad c acc tos k = z → res = chE z) := fun z h0 h1 => by
        rw [← HR4.out, firstTo_first H0.out (by rw [h1]; exact h0) hkn, if_pos (by rw [h1]; exact h0), h1]
      have HCk : Hid (∀ W, Below w0.heap.size w0 W → Calls Tryz.prog 34 #[.slice (some ⟨b, off, none⟩) k tC, .string (tos.getD k ByteArray.empty)] W fun e w' => e = .returned (.bool (memB (tos.getD k ByteArray.empty) (tos.take k))) ∧ w' = W) := fun W hW => HCo.out k W hW h19 hk _
      have HNx : Hid (toBad c acc tos k = 0 → firstTo (toBad c acc tos) (k + 1) = 0) := fun h => by rw [firstTo_next H0.out, h]
      rw [Hn.out] at d2
      rw [Hwn.out] at d3
      clear hok HSh HLf HCo
      generalize tos.getD k ByteArray.empty = code at *
      have j0 : (0 : Int) ≤ k := by omega
      have j1 : (k : Int) < n := by omega
      have j2 : (k : Int) ≤ tC := by omega
      by_cases l1 : leafBad c code ≠ 0
      · have er : res = chE (leafBad c code) := HRet.out _ l1 (by rw [HE.out, if_pos l1])
        rw [chE_ne l1] at er HL1
        subst er
        clear HE HRet HCk HNx HR4
        go_wp2_with (go_at_fn 32; refine HL1.out.mono ?_; rintro e w3 ⟨rfl, hb3⟩)
        go_ret
        exact ⟨rfl, (HA.out _ hb3).2.2⟩
      have l1' : leafBad c code = 0 := Decidable.of_not_not l1
      rw [l1', chE_zero] at HL1
      have HE2 : Hid (toBad c acc tos k = if code = acc ∨ memB code (tos.take k) = true then 8 else 0) := by
        have := HE.out; rw [if_neg l1] at this; exact this
      clear HE l1 l1'
      go_wp2_with fail
      go_at_fn 32
      refine HL1.out.mono ?_
      rintro e w3 ⟨rfl, hb3⟩
      clear d0 d1 d2 d3 HL1
      obtain ⟨⟨d0, d1, d2, d3⟩, _, hbr⟩ := HA.out w3 hb3
      simp only [Nat.zero_add] at d0 d1 d2 d3
      rw [Hn.out] at d2
      rw [Hwn.out] at d3
      have HC3 : Hid (Calls _ _ _ _ _) := HCk.out w3 hb3
      clear HCk
      have HB3 : Hid (Below w0.heap.size w0 w3) := hb3
      clear hb3
      by_cases l2 : code = acc
      · subst l2
        have er : res = chE 8 := HRet.out 8 (by decide) (by rw [HE2.out, if_pos (.inl rfl)])
        rw [chE_ne (by decide)] at er
        subst er
        clear HE2 HRet HC3 HNx HR4
        go_wp2
        go_ret
        exact ⟨rfl, hbr⟩
      have l2' := ch_ne l2
      cases hm : memB code (tos.take k)
      · rw [hm] at HC3 HE2
        have HN : Hid (firstTo (toBad c acc tos) (k + 1) = 0) := HNx.out (by rw [HE2.out, if_neg (by simp [l2])])
        clear HE2 HRet HNx
        go_wp2_with (go_at_call 34; refine HC3.out.mono ?_; rintro e w' ⟨rfl, rfl⟩)
        go_roundw
        case rel => exact ⟨k + 1, by omega, by go_num, HN, HB3⟩
        case measure => simp [RowKit.intOf]; omega
      · rw [hm] at HC3 HE2
        have er : res = chE 8 := HRet.out 8 (by decide) (by rw [HE2.out, if_pos (.inr rfl)])
        rw [chE_ne (by decide)] at er
        subst er
        clear HE2 HRet HNx HR4
        go_wp2_with (go_at_call 34; refine HC3.out.mono ?_; rintro e w' ⟨rfl, rfl⟩)
        go_ret
        exact ⟨rfl, hbr⟩
    · have ek : k = n := by omega
      subst ek
      have er : res = chE (shBad ws) := by rw [← HR4.out, if_neg (by simp [H0.out])]
      have HS1 : Hid (Calls _ _ _ _ _) := HSh.out wr HB.out
      rw [← er] at HS1
      have j1 : ¬ (k : Int) < k := by omega
      rw [Hn.out] at d2
      rw [Hwn.out] at d3
      clear er HR4 HSh HLf HCo hok
      go_wp2_with fail
      refine HS1.out.mono ?_
      rintro e w3 ⟨⟨v, rfl⟩, hb3⟩
      have hbr3 := (HA.out _ hb3).2.2
      clear HS1 hb3 HA
      go_wp2
      go_ret
      exact ⟨rfl, hbr3⟩
end Go.Proofs.YtiolkeipgpkbmaaGreatDoor

namespace Go.Proofs.YtiolkeipgpkbmaaGreatDoor
set_option linter.unusedVariables false
set_option linter.unusedSimpArgs false
set_option maxRecDepth 100000
open Go.RowKit Go.Lib
set_option maxHeartbeats 4000000 in
theorem alCheck_any (a a2 : Option Addr) (cap cap2 : Nat) (c : List Ac) (l : List Po) (w : World) (h : IsSl w a c cap) (hl : IsPs w a2 l cap2) (hll : l.length ≤ 9223372036854775807) :
    Calls Tryz.prog 5 #[.slice a c.length cap, .slice a2 l.length cap2] w fun e w' => e = .returned (chE (psBad c l)) ∧ Below w.heap.size w w' := by
  by_cases c0 : chBad c ≠ 0
  · have HC : Hid (Calls _ _ _ _ _) := leafCheck_bad a cap c w h c0
    have e0 : psBad c l = chBad c := by unfold psBad; rw [if_pos c0]
    rw [e0]
    rw [chE_ne c0] at HC ⊢
    clear h hl e0 c0
    go_enter Tryz.func5, Tryz.ntmps5
    go_wp2_with (go_at_call 11; refine HC.out.mono ?_; rintro e w1 ⟨rfl, hb1⟩)
    go_ret
    exact ⟨rfl, hb1⟩
  have HC : Hid (Calls _ _ _ _ _) := leafCheck_ok a cap c w h (Decidable.of_not_not c0)
  obtain ⟨res, hres⟩ : ∃ res, chE (psBad c l) = res := ⟨_, rfl⟩
  have HR1 : Hid (chE (if 20 < l.length then 4 else firstTo (fun k => poBad c (l.getD k po0)) l.length) = res) := by
    rw [← hres]; unfold psBad; rw [if_neg c0]; exact rfl
  rw [hres]
  have HL : Hid (IsPs w a2 l cap2) := hl
  clear hres h hl c0
  go_enter Tryz.func5, Tryz.ntmps5
  go_wp2_with fail
  refine HC.out.mono ?_
  rintro e w1 ⟨B1, B2, rfl, hlf, hb1⟩
  have HLf : Hid (Lfs w1 B1 B2 c) := hlf
  have HB1 : Hid (Below w.heap.size w w1) := hb1
  clear hlf hb1 HC
  by_cases c1 : 20 < l.length
  · have er : res = chE 4 := by rw [← HR1.out, if_pos c1]
    rw [chE_ne (by decide)] at er
    subst er
    have i1 : (20 : Int) < l.length := by omega
    clear HR1
    go_wp2
    go_ret
    exact ⟨rfl, HB1.out⟩
  have HR2 : Hid (chE (firstTo (fun k => poBad c (l.getD k po0)) l.length) = res) := by
    have := HR1.out; rw [if_neg c1] at this; exact this
  have i1 : ¬ (20 : Int) < l.length := by omega
  have i2 : (l.length : Int) ≤ 20 := by omega
  clear HR1
  go_wp2
  go_loopw [24] (fun i wr => ∃ k : Nat, k ≤ l.length ∧ i = .int .i64 k ∧ Hid (firstTo (fun k => poBad c (l.getD k po0)) k = 0) ∧ Hid (Below w1.heap.size w1 wr)) (fun i _ => l.length - (RowKit.intOf i).toNat)
  case atStart => exact ⟨0, Nat.zero_le _, rfl, rfl, Below.refl _ _⟩
  case round =>
    obtain ⟨k, hk, rfl, H0, HB⟩ := hrel
    by_cases hkn : k < l.length
    · have hbw : Below w.heap.size w wr := HB1.out.trans (HB.out.mono HB1.out.size)
      obtain ⟨b, off, e, hbl, hc, hok⟩ := ((HL.out).below hbw).at hkn
      subst e
      have HRet : Hid (∀ z, z ≠ 0 → poBad c (l.getD k po0) = z → res = chE z) := fun z h0 h1 => by
        rw [← HR2.out, firstTo_first H0.out (by rw [h1]; exact h0) hkn, h1]
      have HNx : Hid (poBad c (l.getD k po0) = 0 → firstTo (fun k => poBad c (l.getD k po0)) (k + 1) = 0) := fun h => by rw [firstTo_next H0.out, h]
      have BB2 := HB.out.alloc HB.out.size (.cells (l.getD k po0).cells 45)
      have hx := PoAt.new wr (l.getD k po0) 45
      have HCk : Hid (Calls _ _ _ _ _) := checkPool_any c (l.getD k po0) B1 B2 (wr.alloc (.cells (l.getD k po0).cells 45)) (HLf.out.below BB2) (hok.below ((Below.refl _ wr).alloc (Nat.le_refl _) _))
      have HBk : Hid (∀ w2, Below (wr.alloc (.cells (l.getD k po0).cells 45)).heap.size (wr.alloc (.cells (l.getD k po0).cells 45)) w2 → Below w1.heap.size w1 w2 ∧ Below w.heap.size w w2) := fun w2 h2 => by
        have h3 := BB2.trans (h2.mono BB2.size)
        exact ⟨h3, HB1.out.trans (h3.mono HB1.out.size)⟩
      clear BB2 hok
      generalize l.getD k po0 = p at *
      obtain ⟨acc, cur, tA, tC, tos, wA, wC, ws⟩ := p
      obtain ⟨d0, d1, d2, d3⟩ := hc
      obtain ⟨f0, f1, f2, f3⟩ := hx
      simp only [Po.cells, Nat.zero_add] at d0 d1 d2 d3 f0 f1 f2 f3 HCk HBk
      have j0 : (0 : Int) ≤ k := by omega
      have j1 : (k : Int) < l.length := by omega
      by_cases c2 : poBad c ⟨acc, cur, tA, tC, tos, wA, wC, ws⟩ = 0
      · have HN : Hid _ := HNx.out c2
        rw [c2, chE_zero] at HCk
        clear HRet HNx c2
        go_wp2_with fail
        refine HCk.out.mono ?_
        rintro e w2 ⟨rfl, hb2⟩
        have HB2 : Hid _ := (HBk.out w2 hb2).1
        clear HCk HBk hb2
        go_wp2
        go_roundw
        case rel => exact ⟨k + 1, by omega, by go_num, HN, HB2⟩
        case measure => simp [RowKit.intOf]; omega
      · have er := HRet.out _ c2 rfl
        rw [chE_ne c2] at HCk er
        subst er
        clear HRet HNx HR2
        go_wp2_with fail
        refine HCk.out.mono ?_
        rintro e w2 ⟨rfl, hb2⟩
        have HB2 : Hid _ := (HBk.out w2 hb2).2
        clear HCk HBk hb2
        go_wp2
        go_ret
        exact ⟨rfl, HB2.out⟩
    · have ek : k = l.length := by omega
      subst ek
      have er : res = chE 0 := by rw [← HR2.out, H0.out]
      rw [chE_zero] at er
      subst er
      have hbw : Below w.heap.size w wr := HB1.out.trans (HB.out.mono HB1.out.size)
      clear HR2
      go_wp2
      go_ret
      exact ⟨rfl, hbw⟩
end Go.Proofs.YtiolkeipgpkbmaaGreatDoor

namespace Go.Proofs.YtiolkeipgpkbmaaGreatDoor
set_option linter.unusedVariables false
set_option linter.unusedSimpArgs false
open Go.RowKit

theorem bl_self : ∀ a : List UInt8, Op.bytesLess a a = false
  | [] => rfl
  | x :: a => by
    have := bl_self a
    simp [Op.bytesLess, this]

theorem bl_total : ∀ a b : List UInt8, Op.bytesLess a b = false → a ≠ b → Op.bytesLess b a = true
  | [], [], _, h => absurd rfl h
  | [], _ :: _, h, _ => by simp [Op.bytesLess] at h
  | _ :: _, [], _, _ => by simp [Op.bytesLess]
  | x :: a, y :: b, h, hne => by
    simp only [Op.bytesLess, Bool.or_eq_false_iff, decide_eq_false_iff_not, Bool.and_eq_false_iff, beq_eq_false_iff_ne] at h
    obtain ⟨h1, h2⟩ := h
    by_cases e : x = y
    · subst e
      have := bl_total a b (by simpa using h2) (fun e => hne (by rw [e]))
      simp [Op.bytesLess, this]
    · have : y < x := by
        rw [UInt8.lt_iff_toNat_lt] at h1 ⊢
        have : x.toNat ≠ y.toNat := fun h => e (UInt8.toNat_inj.1 h)
        omega
      simp [Op.bytesLess, this]

theorem bl_trans : ∀ a b c : List UInt8, Op.bytesLess a b = true → Op.bytesLess b c = true → Op.bytesLess a c = true
  | _, [], _, h, _ => by cases ‹List UInt8› <;> simp [Op.bytesLess] at h
  | _, _ :: _, [], _, h => by simp [Op.bytesLess] at h
  | [], _ :: _, _ :: _, _, _ => by simp [Op.bytesLess]
  | x :: a, y :: b, z :: c, h1, h2 => by
    simp only [Op.bytesLess, Bool.or_eq_true, decide_eq_true_eq, Bool.and_eq_true, beq_iff_eq] at h1 h2 ⊢
    simp only [UInt8.lt_iff_toNat_lt] at h1 h2 ⊢
    rcases h1 with h1 | ⟨rfl, h1⟩
    · rcases h2 with h2 | ⟨rfl, h2⟩
      · exact .inl (by omega)
      · exact .inl h1
    · rcases h2 with h2 | ⟨rfl, h2⟩
      · exact .inl h2
      · exact .inr ⟨rfl, bl_trans a b c h1 h2⟩

/-- A line. -/
structure Ln where
  acc : ByteArray
  cur : ByteArray
  amt : Int
def Ln.cells (x : Ln) : Array Value := #[.string x.acc, .string x.cur, .int .i64 x.amt]
/-- A line of nothing. -/
def ln0 : Ln := ⟨ByteArray.empty, ByteArray.empty, 0⟩

theorem toList_inj {a b : ByteArray} (h : a.toList = b.toList) : a = b := by
  rw [Lib.toList_data, Lib.toList_data] at h
  exact WideShapes.bytes_inj h

/-- A line stands ahead of another one, by account, then currency. -/
def lnLt (a b : Ln) : Bool := Op.bytesLess a.acc.toList b.acc.toList || (a.acc.toList == b.acc.toList && Op.bytesLess a.cur.toList b.cur.toList)
/-- Two lines are of the same account and currency. -/
def lnEq (a b : Ln) : Bool := a.acc.toList == b.acc.toList && a.cur.toList == b.cur.toList

theorem lnEq_iff {a b : Ln} : lnEq a b = true ↔ a.acc = b.acc ∧ a.cur = b.cur := by
  unfold lnEq
  simp only [Bool.and_eq_true, beq_iff_eq]
  exact ⟨fun h => ⟨toList_inj h.1, toList_inj h.2⟩, fun h => ⟨by rw [h.1], by rw [h.2]⟩⟩

theorem lnLt_self (a : Ln) : lnLt a a = false := by simp [lnLt, bl_self]
theorem lnLt_eq {a b : Ln} (h : lnEq a b = true) : lnLt a b = false := by
  obtain ⟨h1, h2⟩ := lnEq_iff.1 h
  simp [lnLt, h1, h2, bl_self]
theorem lnLt_key {a b c : Ln} (h : lnEq b c = true) : lnLt a b = lnLt a c ∧ lnLt b a = lnLt c a := by
  obtain ⟨h1, h2⟩ := lnEq_iff.1 h
  simp [lnLt, h1, h2]
theorem lnLt_total {a b : Ln} (h : lnLt a b = false) (hn : lnEq a b = false) : lnLt b a = true := by
  unfold lnLt at *
  unfold lnEq at hn
  simp only [Bool.or_eq_false_iff, Bool.and_eq_false_iff, beq_eq_false_iff_ne, Bool.or_eq_true, Bool.and_eq_true, beq_iff_eq] at h hn ⊢
  obtain ⟨h1, h2⟩ := h
  by_cases e : a.acc.toList = b.acc.toList
  · right
    refine ⟨e.symm, bl_total _ _ ?_ ?_⟩
    · rcases h2 with h2 | h2
      · exact absurd e h2
      · exact h2
    · rcases hn with hn | hn
      · exact absurd e hn
      · exact hn
  · exact .inl (bl_total _ _ h1 e)
theorem lnLt_trans {a b c : Ln} (h1 : lnLt a b = true) (h2 : lnLt b c = true) : lnLt a c = true := by
  unfold lnLt at *
  simp only [Bool.or_eq_true, Bool.and_eq_true, beq_iff_eq] at h1 h2 ⊢
  rcases h1 with h1 | ⟨e1, h1⟩
  · rcases h2 with h2 | ⟨e2, h2⟩
    · exact .inl (bl_trans _ _ _ h1 h2)
    · exact .inl (by rw [← e2]; exact h1)
  · rcases h2 with h2 | ⟨e2, h2⟩
    · exact .inl (by rw [e1]; exact h2)
    · exact .inr ⟨e1.trans e2, bl_trans _ _ _ h1 h2⟩
theorem lnLt_asymm {a b : Ln} (h : lnLt a b = true) : lnLt b a = false := by
  cases h2 : lnLt b a
  · rfl
  · have := lnLt_trans h h2
    rw [lnLt_self] at this
    cases this

/-- How many stand ahead of a line. -/
def posL (x : Ln) : List Ln → Nat
  | [] => 0
  | y :: l => if lnLt y x = true then posL x l + 1 else 0
/-- A line put to those in order. -/
def insL (x : Ln) : List Ln → List Ln
  | [] => [x]
  | y :: l => if lnLt y x = true then y :: insL x l else if lnEq y x = true then ⟨y.acc, y.cur, y.amt + x.amt⟩ :: l else x :: y :: l
/-- What is alike together, in order. -/
def grp (l : List Ln) : List Ln := l.foldl (fun r x => insL x r) []
theorem grp_snoc (l : List Ln) (x : Ln) : grp (l ++ [x]) = insL x (grp l) := by simp [grp]

/-- Lines in order. -/
def SortL (l : List Ln) : Prop := l.Pairwise fun a b => lnLt a b = true

theorem posL_le (x : Ln) : ∀ l : List Ln, posL x l ≤ l.length
  | [] => Nat.le_refl _
  | y :: l => by
    have := posL_le x l
    rw [posL]
    split
    · simp only [List.length_cons]; omega
    · exact Nat.zero_le _
theorem posL_lt (x : Ln) : ∀ (l : List Ln) (h : Nat), h < posL x l → lnLt (l.getD h ln0) x = true
  | [], h, hh => by simp [posL] at hh
  | y :: l, h, hh => by
    rw [posL] at hh
    split at hh
    · rename_i hy
      cases h with
      | zero => simpa using hy
      | succ h => simpa using posL_lt x l h (by omega)
    · omega
theorem posL_at (x : Ln) : ∀ (l : List Ln), posL x l < l.length → lnLt (l.getD (posL x l) ln0) x = false
  | [], h => by simp at h
  | y :: l, h => by
    rw [posL] at h ⊢
    split
    · rename_i hy
      rw [if_pos hy] at h
      simpa using posL_at x l (by simpa using h)
    · rename_i hy
      simpa using hy
theorem sort_lt {l : List Ln} (h : SortL l) {i j : Nat} (hij : i < j) (hj : j < l.length) : lnLt (l.getD i ln0) (l.getD j ln0) = true := by
  have := List.pairwise_iff_getElem.1 h i j (by omega) hj hij
  rw [List.getD_eq_getElem?_getD, List.getD_eq_getElem?_getD, List.getElem?_eq_getElem hj, List.getElem?_eq_getElem (by omega : i < l.length)]
  exact this
theorem pos_iff {l : List Ln} (hs : SortL l) (x : Ln) {h : Nat} (hh : h < l.length) : lnLt (l.getD h ln0) x = decide (h < posL x l) := by
  by_cases hp : h < posL x l
  · rw [posL_lt x l h hp, decide_eq_true hp]
  · rw [decide_eq_false hp]
    have hq := posL_at x l (by omega)
    by_cases e : h = posL x l
    · rw [e]; exact hq
    · cases h2 : lnLt (l.getD h ln0) x
      · rfl
      · have := lnLt_trans (sort_lt hs (by omega : posL x l < h) hh) h2
        rw [hq] at this
        cases this

theorem insL_found (x : Ln) : ∀ (l : List Ln), posL x l < l.length → lnEq (l.getD (posL x l) ln0) x = true → insL x l = l.set (posL x l) ⟨(l.getD (posL x l) ln0).acc, (l.getD (posL x l) ln0).cur, (l.getD (posL x l) ln0).amt + x.amt⟩
  | [], h, _ => by simp at h
  | y :: l, h, he => by
    by_cases hy : lnLt y x = true
    · rw [posL, if_pos hy] at h he ⊢
      rw [insL, if_pos hy]
      simp only [List.getD_cons_succ, List.set_cons_succ] at he ⊢
      rw [insL_found x l (by simpa using h) he]
    · rw [posL, if_neg hy] at h he ⊢
      simp only [List.getD_cons_zero, List.set_cons_zero] at he ⊢
      rw [insL, if_neg hy, if_pos he]
theorem insL_new (x : Ln) : ∀ (l : List Ln), (posL x l < l.length → lnEq (l.getD (posL x l) ln0) x = false) → insL x l = l.take (posL x l) ++ x :: l.drop (posL x l)
  | [], _ => rfl
  | y :: l, he => by
    by_cases hy : lnLt y x = true
    · rw [posL, if_pos hy] at he ⊢
      rw [insL, if_pos hy, insL_new x l (fun h => by simpa using he (by simpa using h))]
      rfl
    · rw [posL, if_neg hy] at he ⊢
      have := he (by simp)
      simp only [List.getD_cons_zero] at this
      rw [insL, if_neg hy, if_neg (by rw [this]; simp)]
      rfl
theorem insL_length (x : Ln) : ∀ l : List Ln, (insL x l).length ≤ l.length + 1
  | [] => Nat.le_refl _
  | y :: l => by
    have := insL_length x l
    rw [insL]
    split
    · simp only [List.length_cons]; omega
    · split <;> simp
theorem grp_length_from : ∀ (l r : List Ln), (l.foldl (fun r x => insL x r) r).length ≤ r.length + l.length
  | [], r => by simp
  | x :: l, r => by
    have h1 := grp_length_from l (insL x r)
    have h2 := insL_length x r
    simp only [List.foldl_cons, List.length_cons]
    omega
theorem grp_length (l : List Ln) : (grp l).length ≤ l.length := by
  have := grp_length_from l []
  simpa [grp] using this

theorem insL_mem (x : Ln) : ∀ (l : List Ln) (z : Ln), z ∈ insL x l → (∃ y ∈ l, lnEq z y = true) ∨ lnEq z x = true
  | [], z, h => by
    simp only [insL, List.mem_singleton] at h
    subst h
    exact .inr (lnEq_iff.2 ⟨rfl, rfl⟩)
  | y :: l, z, h => by
    rw [insL] at h
    split at h
    · rcases List.mem_cons.1 h with rfl | h
      · exact .inl ⟨z, by simp, lnEq_iff.2 ⟨rfl, rfl⟩⟩
      · rcases insL_mem x l z h with ⟨w, hw, e⟩ | e
        · exact .inl ⟨w, by simp [hw], e⟩
        · exact .inr e
    · split at h
      · rcases List.mem_cons.1 h with rfl | h
        · exact .inl ⟨y, by simp, lnEq_iff.2 ⟨rfl, rfl⟩⟩
        · exact .inl ⟨z, by simp [h], lnEq_iff.2 ⟨rfl, rfl⟩⟩
      · rcases List.mem_cons.1 h with rfl | h
        · exact .inr (lnEq_iff.2 ⟨rfl, rfl⟩)
        · exact .inl ⟨z, h, lnEq_iff.2 ⟨rfl, rfl⟩⟩
theorem insL_sort (x : Ln) : ∀ (l : List Ln), SortL l → SortL (insL x l)
  | [], _ => by simp [SortL, insL]
  | y :: l, h => by
    have h1 : ∀ z ∈ l, lnLt y z = true := (List.pairwise_cons.1 h).1
    have h2 : SortL l := (List.pairwise_cons.1 h).2
    rw [insL]
    split
    · rename_i hy
      refine List.pairwise_cons.2 ⟨fun z hz => ?_, insL_sort x l h2⟩
      rcases insL_mem x l z hz with ⟨w, hw, e⟩ | e
      · rw [(lnLt_key e).1]; exact h1 w hw
      · rw [(lnLt_key e).1]; exact hy
    · rename_i hy
      split
      · exact List.pairwise_cons.2 ⟨fun z hz => by
          have := h1 z hz
          rw [← (lnLt_key (a := z) (b := ⟨y.acc, y.cur, y.amt + x.amt⟩) (c := y) (lnEq_iff.2 ⟨rfl, rfl⟩)).2] at this
          exact this, h2⟩
      · rename_i he
        have hxy : lnLt x y = true := lnLt_total (by simpa using hy) (by simpa using he)
        refine List.pairwise_cons.2 ⟨fun z hz => ?_, h⟩
        rcases List.mem_cons.1 hz with rfl | hz
        · exact hxy
        · exact lnLt_trans hxy (h1 z hz)
theorem grp_sort_from : ∀ (l r : List Ln), SortL r → SortL (l.foldl (fun r x => insL x r) r)
  | [], r, h => h
  | x :: l, r, h => grp_sort_from l _ (insL_sort x r h)
theorem grp_sort (l : List Ln) : SortL (grp l) := grp_sort_from l [] List.Pairwise.nil

/-- All amounts lie within a number. -/
def Within (m : Int) (l : List Ln) : Prop := ∀ x ∈ l, -m ≤ x.amt ∧ x.amt ≤ m
theorem within_ins {m k : Int} (hk : 0 ≤ k) (x : Ln) (hx : -m ≤ x.amt ∧ x.amt ≤ m) : ∀ l : List Ln, Within k l → Within (k + m) (insL x l)
  | [], _ => by
    intro z hz
    simp only [insL, List.mem_singleton] at hz
    subst hz
    omega
  | y :: l, h => by
    have h1 := h y (by simp)
    have h2 : Within k l := fun z hz => h z (by simp [hz])
    rw [insL]
    split
    · intro z hz
      rcases List.mem_cons.1 hz with rfl | hz
      · omega
      · exact within_ins hk x hx l h2 z hz
    · split
      · intro z hz
        rcases List.mem_cons.1 hz with rfl | hz
        · simp only; omega
        · have := h2 z hz; omega
      · intro z hz
        rcases List.mem_cons.1 hz with rfl | hz
        · omega
        · have := h z hz; omega
theorem within_grp_from {m : Int} (hm : 0 ≤ m) : ∀ (l r : List Ln) (k : Int), 0 ≤ k → Within m l → Within k r → Within (k + l.length * m) (l.foldl (fun r x => insL x r) r)
  | [], r, k, hk, _, h => by simpa using h
  | x :: l, r, k, hk, hl, h => by
    have := within_grp_from hm l (insL x r) (k + m) (by omega) (fun z hz => hl z (by simp [hz])) (within_ins hk x (hl x (by simp)) r h)
    have e : k + ((x :: l).length : Int) * m = k + m + (l.length : Int) * m := by
      simp only [List.length_cons, Int.natCast_add, Int.natCast_one]
      rw [Int.add_mul]
      omega
    rw [e]
    exact this
theorem within_grp {m : Int} (hm : 0 ≤ m) {l : List Ln} (h : Within m l) : Within (l.length * m) (grp l) := by
  have := within_grp_from hm l [] 0 (Int.le_refl _) h (fun z hz => by simp at hz)
  simpa [grp] using this
end Go.Proofs.YtiolkeipgpkbmaaGreatDoor

namespace Go.Proofs.YtiolkeipgpkbmaaGreatDoor
set_option linter.unusedVariables false
set_option linter.unusedSimpArgs false
set_option maxRecDepth 100000
open Go.RowKit Go.Lib

theorem en_ne {a b : ByteArray} (h : a ≠ b) : (a.toList == b.toList) = false := by
  rw [beq_eq_false_iff_ne]
  exact fun e => h (toList_inj e)
theorem en_empty {a : ByteArray} (h : a.size = 0) : a.toList = [] := by
  rw [Lib.toList_data]
  exact List.eq_nil_of_length_eq_zero h
theorem en_some {a : ByteArray} (h : a.size ≠ 0) : ¬ a.toList = [] := by
  rw [Lib.toList_data]
  exact fun e => h (congrArg List.length e)
theorem en_drewN {B : Nat} {a w : World} (h : Below B a w) (n : Nat) : Below B a (w.drewN n) := h.trans ⟨rfl, rfl, rfl, Nat.le_refl _, fun _ _ => rfl⟩
theorem en_enters {f : FuncId} {fn : Func} (hf : Tryz.prog.funcs[f]? = some fn) (hn : (fn.name == "runtime.NumGoroutine") = false) (hb : ∃ c, fn.body = some c) (args : Array Value) (w : World) : (callFunc f args).run Tryz.prog w = .ok (.enter f args) w := by
  obtain ⟨c, hc⟩ := hb
  exact MuLone.run_callFunc_enter hf hn hc args w

/-- An error by its number. -/
def enE (n : Int) : Value := if n = 0 then .nilIface else .iface 37 (.int .i64 n)
theorem enE_zero : enE 0 = .nilIface := rfl
theorem enE_ne {n : Int} (h : n ≠ 0) : enE n = .iface 37 (.int .i64 n) := if_neg h

/-- A sign that a Ref does not have. -/
def badR (r : Nat) : Bool := (decide (r < 97) || decide (122 < r)) && (decide (r < 48) || decide (57 < r)) && !decide (r = 45)
theorem badR_low {r : Nat} (h : badR r = false) : r < 128 := by
  simp [badR] at h
  omega

/-- Where the first sign stands that is told, from a place on, among at most so many; else -1. -/
def signFrom (p : Nat → Bool) (s : ByteArray) : Nat → Nat → Int
  | 0, _ => -1
  | f + 1, pos => if pos < s.size then (if p (Utf8.decode s pos).1 = true then (pos : Int) else signFrom p s f (pos + (Utf8.decode s pos).2)) else -1
theorem signFrom_end (p : Nat → Bool) (s : ByteArray) (f pos : Nat) (h : ¬ pos < s.size) : signFrom p s f pos = -1 := by cases f <;> simp [signFrom, h]

theorem sign_none (p : Nat → Bool) (hp : ∀ r, p r = false → r < 128) (s : ByteArray) : ∀ (f pos : Nat), s.size ≤ pos + f → (signFrom p s f pos < 0 ↔ ∀ i, pos ≤ i → i < s.size → p (s.get! i).toNat = false)
  | 0, pos, h => by
    simp only [signFrom]
    exact ⟨fun _ i h1 h2 => by omega, fun _ => by omega⟩
  | f + 1, pos, h => by
    by_cases hlt : pos < s.size
    · have hg : s.get! pos = s[pos]'hlt := by
        show s.data[pos]! = s.data[pos]'hlt
        exact getElem!_pos s.data pos hlt
      rw [signFrom, if_pos hlt]
      by_cases ha : (s[pos]'hlt).toNat < 128
      · rw [decode_ascii s pos hlt ha]
        cases hc : p (s[pos]'hlt).toNat
        · rw [if_neg (by simp [hc]), sign_none p hp s f (pos + 1) (by omega)]
          constructor
          · intro hf i h1 h2
            by_cases e : i = pos
            · subst e; rw [hg]; exact hc
            · exact hf i (by omega) h2
          · intro hf i h1 h2
            exact hf i (by omega) h2
        · rw [if_pos (by simp [hc])]
          refine ⟨fun h => by omega, fun hf => ?_⟩
          have := hf pos (Nat.le_refl _) hlt
          rw [hg, hc] at this
          cases this
      · have hd := (decode_high s pos hlt (by omega)).1
        have hq : p (Utf8.decode s pos).1 = true := by
          cases hh : p (Utf8.decode s pos).1
          · have := hp _ hh; omega
          · rfl
        rw [if_pos hq]
        refine ⟨fun h => by omega, fun hf => ?_⟩
        have := hp _ (hf pos (Nat.le_refl _) hlt)
        rw [hg] at this
        omega
    · rw [signFrom_end p s _ _ hlt]
      exact ⟨fun _ i h1 h2 => by omega, fun _ => by omega⟩

/-- May a text be a Ref? -/
def isRefB (s : ByteArray) : Bool := decide (s.size ≠ 0) && (decide (s.size ≤ 12) && (decide ((s.get! 0).toNat ≠ 45) && decide (signFrom badR s s.size 0 < 0)))
theorem isRefB_iff {s : ByteArray} : isRefB s = true ↔ s.size ≠ 0 ∧ s.size ≤ 12 ∧ (s.get! 0).toNat ≠ 45 ∧ ∀ i, i < s.size → badR (s.get! i).toNat = false := by
  unfold isRefB
  simp only [Bool.and_eq_true, decide_eq_true_eq]
  rw [sign_none badR (fun r h => badR_low h) s s.size 0 (by omega)]
  exact ⟨fun ⟨a, b, c, d⟩ => ⟨a, b, c, fun i hi => d i (Nat.zero_le _) hi⟩, fun ⟨a, b, c, d⟩ => ⟨a, b, c, fun i _ hi => d i hi⟩⟩

end Go.Proofs.YtiolkeipgpkbmaaGreatDoor
