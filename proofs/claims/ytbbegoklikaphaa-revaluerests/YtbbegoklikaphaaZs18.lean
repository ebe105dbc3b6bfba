/-
  Balances that came in, as they lie in memory.
-/
import Derived.Test.YtbbegoklikaphaaZs8
import Derived.Test.YtbbegoklikaphaaZs17
import Derived.Test.YtbbegoklikaphaaZs11
import Derived.Test.YtbbegoklikaphaaZs15
import Derived.Test.YtbbegoklikaphaaZs16
import Derived.Test.YtbbegoklikaphaaZs3
import Derived.Deep.Slices
import Derived.OpenShut
import Derived.Test.YtbbegoklikaphaaZs0
import Derived.Test.YtbbegoklikaphaaZs13
namespace Go.Proofs.Ytbbegoklikaphaa
set_option linter.unusedVariables false
set_option linter.unusedSimpArgs false
set_option maxRecDepth 100000
open Go.RowKit Go.Lib

set_option maxHeartbeats 4000000 in
theorem zero_any (a : Option Addr) (cap : Nat) (L : List Je) (w : World) (hlen : L.length ≤ 1000) (h : IsJs w a L cap) (hz : ∀ x ∈ L, 0 < x.lns.length ∧ x.lns.length ≤ 20 ∧ Within mostA x.lns ∧ ∀ y ∈ curSums x.lns, y.amt = 0) :
    Calls Try.prog 7 #[.slice a L.length cap] w fun e w' => e = .returned (.bool true) ∧ Below w.heap.size w w' := by
  have HH : Hid (IsJs w a L cap) := h
  have HZ : Hid (∀ x ∈ L, 0 < x.lns.length ∧ x.lns.length ≤ 20 ∧ Within mostA x.lns ∧ ∀ y ∈ curSums x.lns, y.amt = 0) := hz
  have hl1 : (L.length : Int) ≤ 1000 := by omega
  clear h hz
  go_enter Try.func7, Try.ntmps7
  go_wp2
  go_loopw [3] (fun i wr => ∃ k : Nat, k ≤ L.length ∧ i = .int .i64 k ∧ Hid (Below w.heap.size w wr)) (fun i _ => L.length - (RowKit.intOf i).toNat)
  case atStart => exact ⟨0, Nat.zero_le _, rfl, Below.refl _ _⟩
  case round =>
    obtain ⟨k, hk, rfl, HB⟩ := hrel
    by_cases hlt : k < L.length
    · have hjs := HH.out.below HB.out
      rcases hjs.lies with h0 | ⟨jb, jo, e, hjb, hat⟩
      · rw [h0] at hlt; simp at hlt
      subst e
      have hy := hat k hlt
      have hln := hjs.lns _ (jes_mem L k hlt)
      obtain ⟨z1, z2, z3, z4⟩ := HZ.out _ (jes_mem L k hlt)
      have HS : Hid (Calls Try.prog 19 #[.agg (L.getD k je0).cells] wr fun e w' => ∃ v, e = .returned v ∧ LnRow w' wr.heap.size v (curSums (L.getD k je0).lns) ∧ Below wr.heap.size wr w') := refSums_any _ _ _ _ _ _ wr z2 z1 z3 hln
      have HZ4 : Hid (∀ y ∈ curSums (L.getD k je0).lns, y.amt = 0) := z4
      have hsl : (curSums (L.getD k je0).lns).length ≤ 20 := by
        have := grp_length ((L.getD k je0).lns.map bareL)
        rw [List.length_map] at this
        exact Nat.le_trans this z2
      clear hat hln z1 z2 z3 z4 hjs
      generalize curSums (L.getD k je0).lns = S at *
      generalize L.getD k je0 = x at *
      obtain ⟨x0, x1, x2, x3, x4, x5⟩ := x
      obtain ⟨d0, d1, d2, d3⟩ := hy
      simp only [Je.cells] at d0 d1 d2 d3 HS
      have i0 : (0 : Int) ≤ k := by omega
      have i1 : (k : Int) < L.length := by omega
      have i2 : (S.length : Int) ≤ 20 := by omega
      obtain ⟨wo, hwo⟩ : ∃ wo, wo = wr := ⟨_, rfl⟩
      subst hwo
      go_wp2_with fail
      refine HS.out.mono ?_
      rintro e w1 ⟨v, rfl, hr, hb1⟩
      obtain ⟨sa, sc, e, hsS⟩ := hr.isLn
      subst e
      have HB1 : Hid (Below w.heap.size w w1) := HB.out.trans (hb1.mono HB.out.size)
      have HSl : Hid (IsLn w1 sa S sc) := hsS
      clear HS hr hb1 hsS d0 d1 d2 d3
      go_wp2
      go_loop [5] (fun i => ∃ j : Nat, j ≤ S.length ∧ i = .int .i64 j) (fun i => S.length - (RowKit.intOf i).toNat)
      case atStart => exact ⟨0, Nat.zero_le _, rfl⟩
      case round =>
        obtain ⟨j, hj, rfl⟩ := hrel
        by_cases hjl : j < S.length
        · rcases HSl.out.lies with h0 | ⟨lb, lo, e, hlb, hat⟩
          · rw [h0] at hjl; simp at hjl
          subst e
          have c2 := (hat j hjl).c2
          rw [HZ4.out _ (lns_mem S j hjl)] at c2
          have m0 : (0 : Int) ≤ j := by omega
          have m1 : (j : Int) < S.length := by omega
          clear hat
          go_wp2
          go_round
          case rel => exact ⟨j + 1, by omega, by go_num⟩
          case measure => simp [RowKit.intOf]; omega
        · have ej : j = S.length := by omega
          subst ej
          have m1 : ¬ (S.length : Int) < S.length := by omega
          go_wp2
          go_roundw
          case rel => exact ⟨k + 1, by omega, by go_num, HB1⟩
          case measure => simp [RowKit.intOf]; omega
    · have ek : k = L.length := by omega
      subst ek
      have m1 : ¬ (L.length : Int) < L.length := by omega
      go_wp2
      go_ret
      exact ⟨rfl, HB.out⟩
end Go.Proofs.Ytbbegoklikaphaa

namespace Go.Proofs.Ytbbegoklikaphaa
set_option linter.unusedVariables false
set_option linter.unusedSimpArgs false
set_option maxRecDepth 100000
open Go.RowKit Go.Lib

/-- What is found. -/
def findA (l : List Ac) (c : ByteArray) : Ac := if placeBad l c = 0 then l.getD (idxP (hasCode c) l).toNat ac0 else ac0

theorem refAt_none (a : Option Addr) (cap : Nat) (c : ByteArray) (w : World) :
    Calls Try.prog 6 #[.slice a 0 cap, .string c] w fun e w' => e = .returned (.int .i64 (-1)) ∧ w' = w := by
  go_enter Try.func6, Try.ntmps6
  go_wp2
  refine wp_loop_rounds 1 ?_
  rw [rounds_succ]
  go_wp2
  go_ret
  exact ⟨rfl, rfl⟩

set_option maxHeartbeats 1000000 in
theorem refAt_some (b off cap : Nat) (l : List Ac) (c : ByteArray) (w : World) (hlen : l.length ≤ 1000) (hc : AcsAt w b off l) :
    Calls Try.prog 6 #[.slice (some ⟨b, off, none⟩) l.length cap, .string c] w fun e w' => e = .returned (.int .i64 (idxP (hasCode c) l)) ∧ w' = w := by
  have Hc : Hid (AcsAt w b off l) := hc
  have Hlen : (l.length : Int) ≤ 1000 := by omega
  clear hc
  obtain ⟨res, hres⟩ : ∃ res, idxP (hasCode c) l = res := ⟨_, rfl⟩
  have Hres : Hid (idxP (hasCode c) l = res) := hres
  rw [hres]
  clear hres
  go_enter Try.func6, Try.ntmps6
  go_wp2
  go_loop [5] (fun i => ∃ k : Nat, k ≤ l.length ∧ i = .int .i64 k ∧ Hid (idxFrom (hasCode c) k (l.drop k) = res)) (fun i => l.length - (RowKit.intOf i).toNat)
  case atStart => exact ⟨0, Nat.zero_le _, rfl, Hres.out⟩
  case round =>
    obtain ⟨k, hk, rfl, H⟩ := hrel
    by_cases hlt : k < l.length
    · have hn := Hc.out k hlt
      have E : Hid ((if hasCode c (l.getD k ac0) = true then (k : Int) else idxFrom (hasCode c) (k + 1) (l.drop (k + 1))) = res) := by
        have := H.out
        rw [acs_drop l k hlt] at this
        exact this
      clear H
      generalize l.getD k ac0 = x at *
      obtain ⟨x0, x1, x2, x3, x4⟩ := x
      obtain ⟨c0, c1, c2, c3, c4⟩ := hn
      simp only at c0 c1 c2 c3 c4
      have i0 : (0 : Int) ≤ k := by omega
      have i1 : (k : Int) < l.length := by omega
      by_cases hx : x0 = c
      · have er : res = k := by rw [← E.out, if_pos (by simp [hasCode, hx])]
        subst er
        subst hx
        go_wp2
        go_ret
        exact ⟨rfl, rfl⟩
      · have hx' := ch_ne hx
        have HN : Hid (idxFrom (hasCode c) (k + 1) (l.drop (k + 1)) = res) := by
          have := E.out; rw [if_neg (by simp [hasCode, hx])] at this; exact this
        go_wp2
        go_round
        case rel => exact ⟨k + 1, by omega, by go_num, HN⟩
        case measure => simp [RowKit.intOf]; omega
    · have hk2 : k = l.length := by omega
      subst hk2
      have er : res = -1 := by rw [← H.out, List.drop_length]; rfl
      subst er
      go_wp2
      go_ret
      exact ⟨rfl, rfl⟩

theorem refAt_any (a : Option Addr) (cap : Nat) (l : List Ac) (c : ByteArray) (w : World) (hlen : l.length ≤ 1000) (h : IsSl w a l cap) :
    Calls Try.prog 6 #[.slice a l.length cap, .string c] w fun e w' => e = .returned (.int .i64 (idxP (hasCode c) l)) ∧ w' = w := by
  rcases h.lies with rfl | ⟨b, off, rfl, hlt, hc⟩
  · exact refAt_none a cap c w
  · exact refAt_some b off cap l c w hlen hc
end Go.Proofs.Ytbbegoklikaphaa

namespace Go.Proofs.Ytbbegoklikaphaa
set_option linter.unusedVariables false
set_option linter.unusedSimpArgs false
set_option maxRecDepth 100000
open Go.RowKit Go.Lib Go.Maps Math

/-- The law's own rate, and its balance. -/
def rrR : Rt := ⟨⟨#[85, 83, 68]⟩, ⟨#[69, 85, 82]⟩, 1, 2, 1⟩
def rrB : Bl := ⟨1, ⟨#[49, 48]⟩, ⟨#[85, 83, 68]⟩, 8⟩
theorem rr_bad : rvBad (tabS [rrR]) jC ⟨#[69, 85, 82]⟩ ⟨#[52, 48]⟩ [rrB] 1 1 = 0 := by kernel_rfl
theorem rr_all : rvTo (wV (tabS [rrR]) ⟨#[69, 85, 82]⟩ 1 1) ⟨#[69, 85, 82]⟩ ⟨#[52, 48]⟩ [rrB] 1 1 jC 5 = [⟨refV ⟨#[49, 48]⟩, 1, 1, [⟨⟨#[49, 48]⟩, ⟨#[69, 85, 82]⟩, 4⟩, ⟨⟨#[52, 48]⟩, ⟨#[69, 85, 82]⟩, -4⟩]⟩] := by kernel_rfl
theorem rr_one {L : List Je} {x : Ep} (h : L.map Je.ep = [x]) : ∃ j, L = [j] ∧ j.lns = x.lns := by
  match L, h with
  | [j], h =>
    have e : j.ep = x := by simpa using h
    subst e
    exact ⟨j, rfl, rfl⟩
theorem rr_table {W : World} {b : Nat} (h : W.heap[b]? = some (.cells #[.string ⟨#[85, 83, 68]⟩, .string ⟨#[69, 85, 82]⟩, .int .i64 1, .int .i64 2, .int .i64 1] 26 (0, 0))) : Calls Try.prog 60 #[.slice (some ⟨b, 0, none⟩) 1 1] W (TabEnd W (tabS [rrR])) := by
  refine table_some b 0 1 [rrR] W (Array.getElem?_eq_some_iff.1 h).1 (by simp) (by simp) (fun k hk => ?_) (fun k hk => ?_) (fun k hk => ?_)
  · have e : k = 0 := by simp at hk; omega
    subst e
    exact ⟨by simp [World.cell?, h, rrR], by simp [World.cell?, h, rrR], by simp [World.cell?, h, rrR], by simp [World.cell?, h, rrR], by simp [World.cell?, h, rrR]⟩
  · have e : k = 0 := by simp at hk; omega
    subst e
    exact ⟨of_decide_eq_true (by kernel_rfl), of_decide_eq_true (by kernel_rfl)⟩
  · have e : k = 0 := by simp at hk; omega
    subst e
    show (Lit.int .i64 1).wf = true
    rfl
theorem rr_build_bl (x0 : Int) (x1 x2 : ByteArray) (x3 : Int) (w : World) : (Instr.build 34 #[(0, .int .i64 x0), (1, .string x1), (2, .string x2), (3, .int .i64 x3)]).run Try.prog w = .ok (.agg #[.int .i64 x0, .string x1, .string x2, .int .i64 x3]) w := by
  go_simp
theorem rr_more (en : Int) (ahd l : List Ln) (j : Nat) (h : j < l.length) : putL [] (lnsBs en (ahd ++ l.take (j + 1))) = putB (putL [] (lnsBs en (ahd ++ l.take j))) (lnB en (l.getD j ln0)) := by
  rw [lns_take l j h, ← List.append_assoc]
  unfold lnsBs putL
  rw [List.map_append, List.foldl_append]
  rfl

set_option maxHeartbeats 16000000 in
theorem rests_walk (a a3 a2 : Option Addr) (cap cap3 len cap2 : Nat) (S : Int × DataW Unit) (c : List Ac) (base gain : ByteArray) (b : List Bl) (en pe : Int) (w : World) (h : IsSl w a c cap) (ht : ∀ W, Below w.heap.size w W → Calls Try.prog 60 #[.slice a3 len cap3] W (TabEnd W S)) (hg : TabGood S.2) (hgs : gain.size ≤ maxLen) (hb : IsBl w a2 b cap2) (hbl : b.length ≤ 9223372036854775807) (hbo : ∀ x ∈ b, BlOk x) :
    Calls Try.prog 3 #[.slice a c.length cap, .slice a3 len cap3, .string base, .string gain, .slice a2 b.length cap2, .int .i64 en, .int .i64 pe] w fun e w' => e = .returned (.bool true) ∧ Below w.heap.size w w' := by
  have HC : Hid (IsSl w a c cap) := h
  have HB : Hid (IsBl w a2 b cap2) := hb
  have HBo : Hid (∀ x ∈ b, BlOk x) := hbo
  have HGs : Hid (gain.size ≤ maxLen) := hgs
  have HEn : Hid (∀ W a' c' (R : List Bl), Below w.heap.size w W → IsBl W a' R c' → R.length ≤ 9223372036854775807 → Calls Try.prog 4 #[.slice a c.length cap, .slice a3 len cap3, .string base, .string gain, .slice a' R.length c', .int .i64 en, .int .i64 pe] W (RvEnd S c base gain R en pe W)) := fun W a' c' R hW hR hRl => rvEntries_any a a' a3 cap c' len cap3 S c base gain R en pe W (HC.out.below hW) (fun W' hW' => ht W' (hW.trans (hW'.mono hW.size))) hg hR hRl
  have HAc : Hid (∀ W, Calls Try.prog 5 #[] W fun e w' => e = .returned (.slice (some ⟨W.heap.size, 0, none⟩) 5 5) ∧ IsSl w' (some ⟨W.heap.size, 0, none⟩) jC 5 ∧ Below W.heap.size W w') := fun W => accounts3_any W
  obtain ⟨V1, hV1⟩ : ∃ V1, w.alloc (.cells #[.string ⟨#[85, 83, 68]⟩, .string ⟨#[69, 85, 82]⟩, .int .i64 1, .int .i64 2, .int .i64 1] 26) = V1 := ⟨_, rfl⟩
  have hbV : Below w.heap.size w V1 := by rw [← hV1]; exact (Below.refl _ w).alloc (Nat.le_refl _) _
  have hnV : V1.heap[w.heap.size]? = some (.cells #[.string ⟨#[85, 83, 68]⟩, .string ⟨#[69, 85, 82]⟩, .int .i64 1, .int .i64 2, .int .i64 1] 26 (0, 0)) := by rw [← hV1]; exact World.alloc_heap_new w _
  have HTb : Hid (∀ W, Below V1.heap.size V1 W → Calls Try.prog 60 #[.slice (some ⟨w.heap.size, 0, none⟩) 1 1] W (TabEnd W (tabS [rrR]))) := fun W hW => rr_table ((hW.block _ (Array.getElem?_eq_some_iff.1 hnV).1).trans hnV)
  have HV1 : Hid (_ = V1) := hV1
  have HBV : Hid (Below w.heap.size w V1) := hbV
  clear h ht hb hbo hgs hV1 hbV hnV
  go_enter Try.func3, Try.ntmps3
  go_upto_region 2 with fail
  rw [HV1.out]
  clear HV1
  obtain ⟨q1, hq1⟩ : ∃ q1, w.heap.size = q1 := ⟨_, rfl⟩
  have Hq1 : Hid (w.heap.size = q1) := hq1
  rw [hq1] at HTb ⊢
  clear hq1
  go_wp2_with fail
  refine (HAc.out V1).mono ?_
  rintro e w1 ⟨rfl, hsl, hb1⟩
  obtain ⟨q2, hq2⟩ : ∃ q2, V1.heap.size = q2 := ⟨_, rfl⟩
  have b12 : Below w1.heap.size w1 (w1.alloc (.cells #[.int .i64 1, .string ⟨#[49, 48]⟩, .string ⟨#[85, 83, 68]⟩, .int .i64 8] 34)) := (Below.refl _ w1).alloc (Nat.le_refl _) _
  have hbl1 : IsBl (w1.alloc (.cells #[.int .i64 1, .string ⟨#[49, 48]⟩, .string ⟨#[85, 83, 68]⟩, .int .i64 8] 34)) (some ⟨w1.heap.size, 0, none⟩) [rrB] 1 := isBl_new (x := rrB) (World.alloc_heap_new w1 _)
  have b13 : Below V1.heap.size V1 (w1.alloc (.cells #[.int .i64 1, .string ⟨#[49, 48]⟩, .string ⟨#[85, 83, 68]⟩, .int .i64 8] 34)) := hb1.trans (b12.mono hb1.size)
  have bw1 : Below w.heap.size w (w1.alloc (.cells #[.int .i64 1, .string ⟨#[49, 48]⟩, .string ⟨#[85, 83, 68]⟩, .int .i64 8] 34)) := HBV.out.trans (b13.mono HBV.out.size)
  have HE1 : Hid (Calls Try.prog 4 #[.slice (some ⟨V1.heap.size, 0, none⟩) 5 5, .slice (some ⟨q1, 0, none⟩) 1 1, .string ⟨#[69, 85, 82]⟩, .string ⟨#[52, 48]⟩, .slice (some ⟨w1.heap.size, 0, none⟩) 1 1, .int .i64 1, .int .i64 1] (w1.alloc (.cells #[.int .i64 1, .string ⟨#[49, 48]⟩, .string ⟨#[85, 83, 68]⟩, .int .i64 8] 34)) fun e w' => ∃ la lc va vc, e = .returned (.tuple #[.slice (some va) 1 vc, .nilIface]) ∧ w'.cell? ⟨va.block, va.off + 3, none⟩ = some (.slice (some la) 2 lc) ∧ va.spot = none ∧ la.spot = none ∧ w'.cell? ⟨la.block, la.off + 2, none⟩ = some (.int .i64 4) ∧ Below w.heap.size w w') := by
    refine (rvEntries_any (some ⟨V1.heap.size, 0, none⟩) (some ⟨w1.heap.size, 0, none⟩) (some ⟨q1, 0, none⟩) 5 1 1 1 (tabS [rrR]) jC ⟨#[69, 85, 82]⟩ ⟨#[52, 48]⟩ [rrB] 1 1 _ (hsl.below b12) (fun W hW => HTb.out W (b13.trans (hW.mono b13.size))) (tabS_good [rrR]).1 hbl1 (by simp)).mono ?_
    rintro e w' ⟨z1, _, z3⟩
    obtain ⟨v, L, rfl, hm, hL, _⟩ := z3 rr_bad
    rw [show jC.length = 5 from rfl, rr_all] at hL
    obtain ⟨j, rfl, hj⟩ := rr_one hL
    obtain ⟨va, vc, rfl, hjs⟩ := hm.isJs
    rcases hjs.lies with h0 | ⟨bb, off, rfl, hlt, hat⟩
    · cases h0
    have hat0 := hat 0 (by simp)
    have hln := hjs.lns j (List.mem_singleton.2 rfl)
    rw [hj] at hln
    rcases hln.lies with h0 | ⟨lb, lo, hla, hll', hlat⟩
    · cases h0
    have hl1 := (hlat 0 (by simp)).c2
    have hc3 := hat0.c3
    simp only [List.getD_cons_zero, Nat.zero_mul, Nat.add_zero] at hc3 hl1
    rw [hj, hla] at hc3
    exact ⟨⟨lb, lo, none⟩, j.cap, ⟨bb, off, none⟩, vc, rfl, hc3, rfl, rfl, hl1, bw1.trans (z1.mono bw1.size)⟩
  clear hsl hbl1 b12 b13 bw1 hb1 HTb HAc hq2 q2 HBV
  go_wp2_with fail
  refine HE1.out.mono ?_
  rintro e w3 ⟨⟨lb, lo, ls⟩, lc, ⟨vb, vo, vs⟩, vc, rfl, e1, e2, e3, e4, hb3⟩
  simp only at e1 e2 e3 e4
  subst e2
  subst e3
  have HB3 : Hid (Below w.heap.size w w3) := hb3
  clear HE1 hb3
  have HE0 : Hid (Calls Try.prog 4 #[.slice a c.length cap, .slice a3 len cap3, .string base, .string gain, .slice a2 b.length cap2, .int .i64 en, .int .i64 pe] w3 (RvEnd S c base gain b en pe w3)) := HEn.out w3 a2 cap2 b HB3.out (HB.out.below HB3.out) hbl
  by_cases c1 : rvBad S c base gain b en pe ≠ 0
  · have HE : Hid (Calls Try.prog 4 #[.slice a c.length cap, .slice a3 len cap3, .string base, .string gain, .slice a2 b.length cap2, .int .i64 en, .int .i64 pe] w3 fun e w' => e = .returned (.tuple #[.slice none 0 0, .iface 58 (.int .i64 (rvBad S c base gain b en pe))]) ∧ Below w.heap.size w w') := by
      refine HE0.out.mono ?_
      rintro e w' ⟨z1, z2, _⟩
      exact ⟨by rw [z2 c1, errV_ne c1], HB3.out.trans (z1.mono HB3.out.size)⟩
    generalize rvBad S c base gain b en pe = z at HE
    clear HEn c1 HE0
    go_wp2_with fail
    refine HE.out.mono ?_
    rintro e w4 ⟨rfl, hb4⟩
    have HB4 : Hid (Below w.heap.size w w4) := hb4
    clear HE hb4 e1 e4
    go_wp2
    go_ret
    exact ⟨rfl, HB4.out⟩
  have c1' := Decidable.of_not_not c1
  have HOne : Hid (rvBad S c base gain b en pe = 0) := c1'
  have HE : Hid (Calls Try.prog 4 #[.slice a c.length cap, .slice a3 len cap3, .string base, .string gain, .slice a2 b.length cap2, .int .i64 en, .int .i64 pe] w3 fun e w' => ∃ va vc L, e = .returned (.tuple #[.slice va L.length vc, .nilIface]) ∧ IsJs w' va L vc ∧ L.map Je.ep = rvTo (wV S base en pe) base gain b en pe c c.length ∧ L.length ≤ 60 ∧ Below w.heap.size w w') := by
    refine HE0.out.mono ?_
    rintro e w' ⟨z1, _, z3⟩
    obtain ⟨v, L, rfl, hm, hL, hl⟩ := z3 c1'
    obtain ⟨va, vc, rfl, hjs⟩ := hm.isJs
    exact ⟨va, vc, L, rfl, hjs, hL, hl, HB3.out.trans (z1.mono HB3.out.size)⟩
  obtain ⟨o1, _, _, o4, _⟩ := rvBad_ok.1 c1'
  have hclen := chBad_len o1
  obtain ⟨_, o5⟩ := isAcc_leaf o4
  obtain ⟨gk, hgk, hge, hgp, _⟩ := idxP_some o5
  have HGk : Hid ((c.getD gk ac0).mon = false → ∀ i, i < c.length → (c.getD i ac0).mon = true → (c.getD i ac0).code ≠ gain) := fun h0 i hi hm e => by
    have e2 : (c.getD gk ac0).code = gain := by simpa [hasCode] using hgp
    have e3 := code_inj o1 hi hgk (e.trans e2.symm)
    subst e3
    rw [h0] at hm
    cases hm
  have HAt : Hid (∀ W, Below w.heap.size w W → Calls Try.prog 6 #[.slice a c.length cap, .string gain] W fun e w' => e = .returned (.int .i64 gk) ∧ w' = W) := fun W hW => by
    have := refAt_any a cap c gain W (by omega) (HC.out.below hW)
    rw [hge] at this
    exact this
  clear c1 c1' HE0 o1 o4 o5 hge hgp
  go_wp2_with fail
  refine HE.out.mono ?_
  rintro e w4 ⟨va, vc, L, rfl, hjs, hL, hL60, hb4⟩
  have HM : Hid (lnsBs en (L.flatMap Je.lns) = mTo (wV S base en pe) base gain b en c c.length) := rv_lines hL
  have HPk : Hid (PutOk (lnsBs en (L.flatMap Je.lns))) := by rw [HM.out]; exact mTo_ok HOne.out HGs.out
  obtain ⟨v1, v2⟩ := rv_even HOne.out hL
  have HEnt : Hid (∀ x ∈ L, x.ent = en) := v1
  have HJ : Hid (IsJs w4 va L vc) := hjs
  have HB4 : Hid (Below w.heap.size w w4) := hb4
  have HA4 : Hid (Calls Try.prog 6 #[.slice a c.length cap, .string gain] w4 fun e w' => e = .returned (.int .i64 gk) ∧ w' = w4) := HAt.out w4 hb4
  have HZr : Hid (Calls Try.prog 7 #[.slice va L.length vc] w4 fun e w' => e = .returned (.bool true) ∧ Below w4.heap.size w4 w') := zero_any va vc L w4 (by omega) hjs v2
  obtain ⟨bb, off, e, hblt, hcc⟩ : ∃ bb off, a = some ⟨bb, off, none⟩ ∧ bb < w.heap.size ∧ AcsAt w bb off c := by
    rcases HC.out.lies with h0 | h0
    · rw [h0] at hgk; simp at hgk
    · exact h0
  subst e
  have hmc := ((hcc gk hgk).below hb4 hblt).c4
  obtain ⟨ln, hln⟩ : ∃ ln, L.length = ln := ⟨_, rfl⟩
  have Hln : Hid (L.length = ln) := hln
  rw [hln] at hL60 HZr ⊢
  have i3 : (ln : Int) ≤ 60 := by omega
  have g0 : (0 : Int) ≤ gk := by omega
  have g1 : (gk : Int) < c.length := by omega
  have g2 : ¬ (gk : Int) < 0 := by omega
  have hcapc := HC.out.cap
  clear HE hjs hL hb4 hln e1 e4 HB3 HAt v1 v2 hcc
  go_wp2_with fail
  refine HA4.out.mono ?_
  rintro e w' ⟨rfl, hw⟩
  rw [hw]; clear hw w' HA4
  generalize hmon : (c.getD gk ac0).mon = mon at hmc HGk
  cases mon
  case true =>
    go_wp2
    go_ret
    exact ⟨rfl, HB4.out⟩
  have HGn : Hid (∀ i, i < c.length → (c.getD i ac0).mon = true → (c.getD i ac0).code ≠ gain) := HGk.out rfl
  clear HGk hmon
  go_wp2_with fail
  refine HZr.out.mono ?_
  rintro e w5 ⟨rfl, hb5⟩
  have HB5 : Hid (Below w.heap.size w w5) := HB4.out.trans (hb5.mono HB4.out.size)
  have HJ5 : Hid (IsJs w5 va L vc) := HJ.out.below hb5
  clear HZr hb5 HB4 HJ hmc g0 g1 g2
  go_wp2
  go_loopw [22, 23] (fun v i wr => ∃ (k : Nat) (sa : Option Addr) (sn sc : Nat), k ≤ ln ∧ i = .int .i64 k ∧ v = .slice sa sn sc ∧ Hid (BlRow wr w5.heap.size (.slice sa sn sc) (putL [] (lnsBs en ((L.take k).flatMap Je.lns))) ∧ Below w5.heap.size w5 wr)) (fun _ i _ => ln - (RowKit.intOf i).toNat)
  case atStart => exact ⟨0, none, 0, 0, Nat.zero_le _, rfl, rfl, BlRow.nil _ _, Below.refl _ _⟩
  case round =>
    obtain ⟨k, sa, sn, sc, hk, rfl, rfl, HR⟩ := hrel
    by_cases hkl : k < ln
    · have hjk : k < L.length := by rw [Hln.out]; exact hkl
      rcases HJ5.out.lies with h0 | ⟨jb, jo, hva, hjb, hat⟩
      · rw [h0] at hjk; simp at hjk
      subst hva
      have HA : Hid (∀ W, Below w5.heap.size w5 W → W.cell? ⟨jb, jo + k * 4 + 1, none⟩ = some (.int .i64 en) ∧ W.cell? ⟨jb, jo + k * 4 + 3, none⟩ = some (.slice (L.getD k je0).adr (L.getD k je0).lns.length (L.getD k je0).cap) ∧ IsLn W (L.getD k je0).adr (L.getD k je0).lns (L.getD k je0).cap) := fun W hW => by
        have h1 := (hat k hjk).below hW hjb
        have h2 := h1.c1
        rw [HEnt.out _ (jes_mem L k hjk)] at h2
        exact ⟨h2, h1.c3, (HJ5.out.lns _ (jes_mem L k hjk)).below hW⟩
      have HTk : Hid ((L.take (k + 1)).flatMap Je.lns = (L.take k).flatMap Je.lns ++ (L.getD k je0).lns) := by
        rw [jes_take L k hjk]; unfold Hid; rw [List.flatMap_append]; simp
      have HSub : Hid (PutOk (lnsBs en ((L.take k).flatMap Je.lns ++ (L.getD k je0).lns))) := by
        rw [← HTk.out]
        have e : lnsBs en (L.flatMap Je.lns) = lnsBs en ((L.take (k + 1)).flatMap Je.lns) ++ lnsBs en ((L.drop (k + 1)).flatMap Je.lns) := by
          unfold lnsBs
          rw [← List.map_append, ← List.flatMap_append, List.take_append_drop]
        have q := HPk.out
        rw [e] at q
        exact ⟨by have := q.len; rw [List.length_append] at this; omega, fun x hx => q.amt x (List.mem_append_left _ hx), fun x hx => q.key x (List.mem_append_left _ hx)⟩
      have j0 : (0 : Int) ≤ k := by omega
      have j1 : (k : Int) < ln := by omega
      clear hat
      generalize L.getD k je0 = je at *
      generalize (L.take k).flatMap Je.lns = ahd at *
      have HSt : Hid (∀ j, j < je.lns.length → putL [] (lnsBs en (ahd ++ je.lns.take (j + 1))) = putB (putL [] (lnsBs en (ahd ++ je.lns.take j))) (lnB en (je.lns.getD j ln0)) ∧ (putL [] (lnsBs en (ahd ++ je.lns.take j))).length ≤ 400 ∧ (∀ y ∈ putL [] (lnsBs en (ahd ++ je.lns.take j)), y.key = (lnB en (je.lns.getD j ln0)).key → -9223372036854775808 ≤ y.amt + (lnB en (je.lns.getD j ln0)).amt ∧ y.amt + (lnB en (je.lns.getD j ln0)).amt ≤ 9223372036854775807)) := fun j hj => by
        have hsub : PutOk (lnsBs en (ahd ++ je.lns.take j)) := by
          have := HSub.out.take (ahd.length + j)
          unfold lnsBs at this ⊢
          rw [← List.map_take, List.take_append, List.take_of_length_le (by omega), show ahd.length + j - ahd.length = j by omega] at this
          exact this
        refine ⟨rr_more en ahd je.lns j hj, ?_, put_next hsub ?_⟩
        · have := putL_length (lnsBs en (ahd ++ je.lns.take j)) []
          have h2 := hsub.len
          simp only [List.length_nil] at this
          omega
        · exact HSub.out.amt (lnB en (je.lns.getD j ln0)) (List.mem_map.2 ⟨_, List.mem_append_right _ (lns_mem je.lns j hj), rfl⟩)
      obtain ⟨wo, hwo⟩ : ∃ wo, wo = wr := ⟨_, rfl⟩
      subst hwo
      have HFirst : Hid (BlRow wo w5.heap.size (.slice sa sn sc) (putL [] (lnsBs en (ahd ++ je.lns.take 0))) ∧ Below w5.heap.size w5 wo) := by
        have := HR.out
        rw [List.take_zero, List.append_nil]
        exact this
      obtain ⟨jr, jen, jpe, lad, lcp, lns⟩ := je
      simp only at HA HSt HFirst HTk HSub
      obtain ⟨_, f3, _⟩ := HA.out wo HR.out.2
      have l20 : lns.length ≤ 150 := by
        have := HSub.out.len
        unfold lnsBs at this
        rw [List.length_map, List.length_append] at this
        omega
      have i6 : (lns.length : Int) ≤ 150 := by omega
      clear HR
      go_wp2
      go_loopw [22, 24] (fun v i wr => ∃ (j : Nat) (sa : Option Addr) (sn sc : Nat), j ≤ lns.length ∧ i = .int .i64 j ∧ v = .slice sa sn sc ∧ Hid (BlRow wr w5.heap.size (.slice sa sn sc) (putL [] (lnsBs en (ahd ++ lns.take j))) ∧ Below w5.heap.size w5 wr)) (fun _ i _ => lns.length - (RowKit.intOf i).toNat)
      case atStart => exact ⟨0, sa, sn, sc, Nat.zero_le _, rfl, rfl, HFirst⟩
      case round =>
        obtain ⟨j, sa, sn, sc, hj, rfl, rfl, HR⟩ := hrel
        clear f3
        obtain ⟨f1, f3, hli⟩ := HA.out wr HR.out.2
        by_cases hjl : j < lns.length
        · rcases hli.lies with h0 | ⟨lb, lo, hla, hlb, hlat⟩
          · rw [h0] at hjl; simp at hjl
          subst hla
          have hy := hlat j hjl
          obtain ⟨st1, st2, st3⟩ := HSt.out j hjl
          obtain ⟨r1, r2⟩ := HR.out
          obtain ⟨hsn, hib⟩ := BlRow.isBl' r1
          obtain ⟨Z, hZ⟩ : ∃ Z, wr.alloc (.cells (lns.getD j ln0).cells 36) = Z := ⟨_, rfl⟩
          have x0 : Below wr.heap.size wr Z := by rw [← hZ]; exact (Below.refl _ wr).alloc (Nat.le_refl _) _
          have x0d : Below wr.heap.size wr Z.drew := x0.drew
          have x1 : Below w5.heap.size w5 Z.drew := r2.trans (x0d.mono r2.size)
          have hsz : wr.heap.size < Z.heap.size := by rw [← hZ]; simp
          have hnw : LnAt Z wr.heap.size 0 (lns.getD j ln0) := by rw [← hZ]; exact LnAt.new wr (lns.getD j ln0) 36
          have hZd : Below Z.heap.size Z Z.drew := (Below.refl _ Z).drew
          have HCell : Hid (∀ u, Below Z.drew.heap.size Z.drew u → u.cell? ⟨jb, jo + k * 4 + 1, none⟩ = some (.int .i64 en) ∧ LnAt u wr.heap.size 0 (lns.getD j ln0)) := fun u hu => ⟨(HA.out u (x1.trans (hu.mono x1.size))).1, (hnw.below hZd hsz).below hu hsz⟩
          have HPu : Hid (Calls Try.prog 8 #[.slice sa sn sc, .agg (lnB en (lns.getD j ln0)).cells] Z.drew fun e w' => ∃ ta tn tc, e = .returned (.slice ta tn tc) ∧ BlRow w' w5.heap.size (.slice ta tn tc) (putL [] (lnsBs en (ahd ++ lns.take (j + 1)))) ∧ Below w5.heap.size w5 w') := by
            have := lmPut_any sa sc (putL [] (lnsBs en (ahd ++ lns.take j))) (lnB en (lns.getD j ln0)) Z.drew st2 (hib.below x0d) st3
            rw [← hsn] at this
            refine this.mono ?_
            rintro e w' ⟨v, rfl, hh⟩
            obtain ⟨z1, z2⟩ := hh.out
            obtain ⟨ta, tc, ev, _⟩ := z1.isBl
            subst ev
            refine ⟨ta, _, tc, rfl, ?_, x1.trans (z2.mono x1.size)⟩
            rw [st1]
            exact z1.mono x1.size
          have HZ : Hid (wr.alloc (.cells (lns.getD j ln0).cells 36) = Z) := hZ
          clear st1 st2 st3 r1 r2 hsn hib x0 x0d x1 HR hli hlat hZ hsz hZd hnw f1
          generalize lns.getD j ln0 = y at *
          obtain ⟨y0, y1, y2⟩ := y
          obtain ⟨g0, g1, g2⟩ := hy
          simp only [Ln.cells, Bl.cells, lnB, Nat.zero_add] at g0 g1 g2 HPu HZ HCell
          have m0 : (0 : Int) ≤ j := by omega
          have m1 : (j : Int) < lns.length := by omega
          clear HSt HTk HSub HFirst HA
          go_upto_region 20 with fail
          rw [HZ.out]
          clear HZ g0 g1 g2 f3
          refine wp_region_drawn (by kernel_rfl) ?_
          generalize Z.drew = U at *
          refine wpAny_take (i := 0) (v := .slice sa sn sc) rfl (by kernel_rfl) (by kernel_rfl) (by kernel_rfl) (fun _ _ _ h => h) (Or.inl ⟨by rfl, fun w => by go_simp⟩) ?_
          simp only [Act.put, List.getElem_toArray, List.getElem_cons_succ, List.getElem_cons_zero, List.setIfInBounds_toArray, List.set_cons_zero, List.set_cons_succ]
          refine wpAny_take (i := 1) (v := .slice (some ⟨jb, jo, none⟩) ln vc) rfl (by kernel_rfl) (by kernel_rfl) (by kernel_rfl) (fun _ _ _ h => h) (Or.inl ⟨by rfl, fun w => by go_simp⟩) ?_
          simp only [Act.put, List.getElem_toArray, List.getElem_cons_succ, List.getElem_cons_zero, List.setIfInBounds_toArray, List.set_cons_zero, List.set_cons_succ]
          refine wpAny_take (i := 2) (v := .int .i64 k) rfl (by kernel_rfl) (by kernel_rfl) (by kernel_rfl) (fun _ _ _ h => h) (Or.inl ⟨by rfl, fun w => by go_simp⟩) ?_
          simp only [Act.put, List.getElem_toArray, List.getElem_cons_succ, List.getElem_cons_zero, List.setIfInBounds_toArray, List.set_cons_zero, List.set_cons_succ]
          refine wpAny_take (i := 3) (v := .pointer (some ⟨jb, jo + k * 4, none⟩)) rfl (by kernel_rfl) (by kernel_rfl) (by kernel_rfl) (fun _ _ _ h => h) (Or.inl ⟨by rfl, fun w => by go_simp⟩) ?_
          simp only [Act.put, List.getElem_toArray, List.getElem_cons_succ, List.getElem_cons_zero, List.setIfInBounds_toArray, List.set_cons_zero, List.set_cons_succ]
          refine wpAny_take (i := 4) (v := .pointer (some ⟨jb, jo + k * 4 + 1, none⟩)) rfl (by kernel_rfl) (by kernel_rfl) (by kernel_rfl) (fun _ _ _ h => h) (Or.inl ⟨by rfl, fun w => by go_simp⟩) ?_
          simp only [Act.put, List.getElem_toArray, List.getElem_cons_succ, List.getElem_cons_zero, List.setIfInBounds_toArray, List.set_cons_zero, List.set_cons_succ]
          refine wpAny_take (i := 6) (v := .pointer (some ⟨wr.heap.size, 0, none⟩)) rfl (by kernel_rfl) (by kernel_rfl) (by kernel_rfl) (fun _ _ _ h => h) (Or.inl ⟨by rfl, fun w => by go_simp⟩) ?_
          simp only [Act.put, List.getElem_toArray, List.getElem_cons_succ, List.getElem_cons_zero, List.setIfInBounds_toArray, List.set_cons_zero, List.set_cons_succ]
          refine wpAny_take (i := 8) (v := .pointer (some ⟨wr.heap.size, 1, none⟩)) rfl (by kernel_rfl) (by kernel_rfl) (by kernel_rfl) (fun _ _ _ h => h) (Or.inl ⟨by rfl, fun w => by go_simp⟩) ?_
          simp only [Act.put, List.getElem_toArray, List.getElem_cons_succ, List.getElem_cons_zero, List.setIfInBounds_toArray, List.set_cons_zero, List.set_cons_succ]
          refine wpAny_take (i := 10) (v := .pointer (some ⟨wr.heap.size, 2, none⟩)) rfl (by kernel_rfl) (by kernel_rfl) (by kernel_rfl) (fun _ _ _ h => h) (Or.inl ⟨by rfl, fun w => by go_simp⟩) ?_
          simp only [Act.put, List.getElem_toArray, List.getElem_cons_succ, List.getElem_cons_zero, List.setIfInBounds_toArray, List.set_cons_zero, List.set_cons_succ]
          refine any_of_L (g := 13) (T := fun u => Below U.heap.size U u) _ _ _ _ ?_
          refine L_takeC [13, 12] (i := 5) (v := .int .i64 en) rfl (by kernel_rfl) (by kernel_rfl) (by decide) (by kernel_rfl) (by kernel_rfl) (by kernel_rfl) (by kernel_rfl) (fun _ _ _ h => h) (Or.inl ⟨by rfl, fun w' hw' => by have c0 := (HCell.out w' hw').1; clear hw'; go_simp⟩) (Below.refl _ _) ?_
          simp only [Act.put, List.getElem_toArray, List.getElem_cons_succ, List.getElem_cons_zero, List.setIfInBounds_toArray, List.set_cons_zero, List.set_cons_succ]
          refine L_takeC [13, 12] (i := 7) (v := .string y0) rfl (by kernel_rfl) (by kernel_rfl) (by decide) (by kernel_rfl) (by kernel_rfl) (by kernel_rfl) (by kernel_rfl) (fun _ _ _ h => h) (Or.inl ⟨by rfl, fun w' hw' => by have c0 := (HCell.out w' hw').2.c0; clear hw'; simp only [Nat.zero_add] at c0; go_simp⟩) (Below.refl _ _) ?_
          simp only [Act.put, List.getElem_toArray, List.getElem_cons_succ, List.getElem_cons_zero, List.setIfInBounds_toArray, List.set_cons_zero, List.set_cons_succ]
          refine L_takeC [13, 12] (i := 9) (v := .string y1) rfl (by kernel_rfl) (by kernel_rfl) (by decide) (by kernel_rfl) (by kernel_rfl) (by kernel_rfl) (by kernel_rfl) (fun _ _ _ h => h) (Or.inl ⟨by rfl, fun w' hw' => by have c0 := (HCell.out w' hw').2.c1; clear hw'; simp only [Nat.zero_add] at c0; go_simp⟩) (Below.refl _ _) ?_
          simp only [Act.put, List.getElem_toArray, List.getElem_cons_succ, List.getElem_cons_zero, List.setIfInBounds_toArray, List.set_cons_zero, List.set_cons_succ]
          refine L_takeC [13, 12] (i := 11) (v := .int .i64 y2) rfl (by kernel_rfl) (by kernel_rfl) (by decide) (by kernel_rfl) (by kernel_rfl) (by kernel_rfl) (by kernel_rfl) (fun _ _ _ h => h) (Or.inl ⟨by rfl, fun w' hw' => by have c0 := (HCell.out w' hw').2.c2; clear hw'; simp only [Nat.zero_add] at c0; go_simp⟩) (Below.refl _ _) ?_
          simp only [Act.put, List.getElem_toArray, List.getElem_cons_succ, List.getElem_cons_zero, List.setIfInBounds_toArray, List.set_cons_zero, List.set_cons_succ]
          refine L_takeC [13] (i := 12) (v := .agg #[.int .i64 en, .string y0, .string y1, .int .i64 y2]) rfl (by kernel_rfl) (by kernel_rfl) (by decide) (by kernel_rfl) (by kernel_rfl) (by kernel_rfl) (by kernel_rfl) (fun _ _ _ h => h) ?_ (Below.refl _ _) ?_
          · exact yields_build_run (by rfl) 34 _ (by rfl) #[(0, .int .i64 en), (1, .string y0), (2, .string y1), (3, .int .i64 y2)] (by simp [Act.eval]) (fun w' _ => rr_build_bl _ _ _ _ w')
          simp only [Act.put, List.getElem_toArray, List.getElem_cons_succ, List.getElem_cons_zero, List.setIfInBounds_toArray, List.set_cons_zero, List.set_cons_succ]
          clear HCell
          refine L_go (by kernel_rfl) (by kernel_rfl) ?_
          refine wpOp_step rfl ?_
          intro K hK
          rw [if_pos (by rfl)]
          have hK' : Shut (∀ a w, _ → K a w) := hK
          clear hK
          go_wp2_with fail
          refine HPu.out.mono ?_
          rintro e w6 ⟨ta, tn, tc, rfl, z1, z2⟩
          have HR6 : Hid (BlRow w6 w5.heap.size (.slice ta tn tc) (putL [] (lnsBs en (ahd ++ lns.take (j + 1)))) ∧ Below w5.heap.size w5 w6) := ⟨z1, z2⟩
          clear HPu z1 z2
          refine hK'.out _ _ ?_
          clear hK' K
          try simp only [Act.put, List.getElem_toArray, List.getElem_cons_succ, List.getElem_cons_zero, List.setIfInBounds_toArray, List.set_cons_zero, List.set_cons_succ]
          refine wpAny_take (i := 14) (v := .slice ta tn tc) rfl (by kernel_rfl) (by kernel_rfl) (by kernel_rfl) (fun _ _ _ h => h) (Or.inl ⟨by rfl, fun w => by go_simp⟩) ?_
          simp only [Act.put, List.getElem_toArray, List.getElem_cons_succ, List.getElem_cons_zero, List.setIfInBounds_toArray, List.set_cons_zero, List.set_cons_succ]
          refine wpAny_done (by kernel_rfl) ?_ _
          go_wp2
          go_roundw
          case rel => exact ⟨j + 1, ta, tn, tc, by omega, by go_num, rfl, HR6⟩
          case measure => simp [RowKit.intOf]; omega
        · have ej : j = lns.length := by omega
          subst ej
          have HR6 : Hid (BlRow wr w5.heap.size (.slice sa sn sc) (putL [] (lnsBs en ((L.take (k + 1)).flatMap Je.lns))) ∧ Below w5.heap.size w5 wr) := by
            have := HR.out
            rw [List.take_length] at this
            rw [HTk.out]
            exact this
          have m1 : ¬ (lns.length : Int) < lns.length := by omega
          clear HR HSt HTk HSub HFirst HA hli f1
          go_wp2
          go_roundw
          case rel => exact ⟨k + 1, sa, sn, sc, by omega, by go_num, rfl, HR6⟩
          case measure => simp [RowKit.intOf]; omega
    · have ek : k = ln := by omega
      subst ek
      obtain ⟨r1, r2⟩ := HR.out
      have hLn := Hln.out
      rw [List.take_of_length_le (by omega)] at r1
      obtain ⟨hsn, hib⟩ := BlRow.isBl' r1
      rw [HM.out] at r1 hsn hib HPk
      obtain ⟨M, hM⟩ : ∃ M, mTo (wV S base en pe) base gain b en c c.length = M := ⟨_, rfl⟩
      have HGo : Hid (∀ R, mgE b (full (putL [] M)) = 0 → MgR b (full (putL [] M)) R → (rvBad S c base gain R en pe = 0 ∧ rvTo (wV S base en pe) base gain R en pe c c.length = []) ∧ R.length ≤ 9223372036854775807) := fun R h1 h2 => by
        rw [← hM] at h1 h2
        exact ⟨rv_rests HOne.out HGn.out h1 h2, by have := h2.len; omega⟩
      rw [hM] at r1 hsn hib HPk
      have hbw : Below w.heap.size w wr := HB5.out.trans (r2.mono HB5.out.size)
      have hlen4 : (putL [] M).length ≤ 400 := by
        have := putL_length M []
        have h2 := HPk.out.len
        simp only [List.length_nil] at this
        omega
      have HFu : Hid (Calls Try.prog 10 #[.slice sa sn sc] wr fun e w' => ∃ ta tc, e = .returned (.slice ta (full (putL [] M)).length tc) ∧ IsBl w' ta (full (putL [] M)) tc ∧ Below w.heap.size w w') := by
        have := lmFull_any sa sc (putL [] M) wr hlen4 hib
        rw [← hsn] at this
        refine this.mono ?_
        rintro e w' ⟨v, rfl, hh⟩
        obtain ⟨z1, z2⟩ := hh.out
        obtain ⟨ta, tc, ev, hi⟩ := z1.isBl
        subst ev
        exact ⟨ta, tc, rfl, hi, hbw.trans (z2.mono hbw.size)⟩
      have hfl : (full (putL [] M)).length ≤ 9223372036854775807 := by
        have := List.length_filter_le (fun x : Bl => x.amt != 0) (putL [] M)
        have e : (full (putL [] M)).length ≤ (putL [] M).length := this
        omega
      have HMo : Hid (∀ x ∈ full (putL [] M), BlOk x) := put_ok HPk.out
      have j1 : ¬ (k : Int) < k := by omega
      clear r1 r2 hsn hib HR hM HM HPk hLn hlen4 HJ5 HB5 HGn HEnt HGs
      go_wp2_with fail
      refine HFu.out.mono ?_
      rintro e w6 ⟨ta, tc, rfl, hif, hb6⟩
      have HIF : Hid (IsBl w6 ta (full (putL [] M)) tc) := hif
      have HB6 : Hid (Below w.heap.size w w6) := hb6
      clear HFu hif hb6 hbw
      generalize full (putL [] M) = F at *
      by_cases c2 : mgE b F ≠ 0
      · have HMg : Hid (Calls _ _ _ _ _) := merge_bad a2 ta cap2 tc b F w6 (HB.out.below HB6.out) HIF.out hbl hfl HBo.out HMo.out c2
        generalize mgE b F = z at HMg
        clear HGo c2 HMo HBo
        go_wp2_with fail
        refine HMg.out.mono ?_
        rintro e w7 ⟨rfl, hb7⟩
        have HB7 : Hid (Below w.heap.size w w7) := HB6.out.trans (hb7.mono HB6.out.size)
        clear HMg hb7
        go_wp2
        go_ret
        exact ⟨rfl, HB7.out⟩
      have c2' := Decidable.of_not_not c2
      have HMg : Hid (Calls _ _ _ _ _) := merge_ok a2 ta cap2 tc b F w6 (HB.out.below HB6.out) HIF.out HBo.out HMo.out c2'
      go_wp2_with fail
      refine HMg.out.mono ?_
      rintro e w7 ⟨ra, rc, R, rfl, hh⟩
      obtain ⟨hb7, hir, hmr⟩ := hh.out
      obtain ⟨⟨t1, t2⟩, t3⟩ := HGo.out R c2' hmr
      have hbw7 := HB6.out.trans (hb7.mono HB6.out.size)
      have HE2 : Hid (Calls Try.prog 4 #[.slice (some ⟨bb, off, none⟩) c.length cap, .slice a3 len cap3, .string base, .string gain, .slice ra R.length rc, .int .i64 en, .int .i64 pe] w7 fun e w' => ∃ xa xc, e = .returned (.tuple #[.slice xa 0 xc, .nilIface]) ∧ Below w.heap.size w w') := by
        refine (HEn.out w7 ra rc R hbw7 hir t3).mono ?_
        rintro e w' ⟨z1, _, z3⟩
        obtain ⟨v, L', rfl, hm', hL', _⟩ := z3 t1
        rw [t2] at hL'
        have e0 : L' = [] := List.map_eq_nil_iff.1 hL'
        subst e0
        obtain ⟨xa, xc, rfl, _⟩ := hm'.isJs
        exact ⟨xa, xc, rfl, hbw7.trans (z1.mono hbw7.size)⟩
      clear HMg hh hb7 hir hmr t1 t2 t3 hbw7 HGo HEn c2 c2' HMo HBo HIF HB
      go_wp2_with fail
      refine HE2.out.mono ?_
      rintro e w8 ⟨xa, xc, rfl, hb8⟩
      have HB8 : Hid (Below w.heap.size w w8) := hb8
      clear HE2 hb8
      go_wp2
      go_ret
      exact ⟨rfl, HB8.out⟩
end Go.Proofs.Ytbbegoklikaphaa

namespace Go.Proofs.Ytbbegoklikaphaa
set_option linter.unusedVariables false
set_option linter.unusedSimpArgs false
set_option maxRecDepth 100000
open Go.RowKit Go.Lib Go.Deep

section
variable {H : Type} {enc : TypeId × Value → H} {w : World} {base : Nat} {spare : Nat → Bool} {held : Bool}

theorem ch_string {m : Nat} {c : Value} {y : DataW H × List MemPlace} (h : DataW.trod enc Try.prog w base spare held m 9 [c] = some y) : ∃ s, c = .string s ∧ s.size ≤ maxLen := by
  cases m with
  | zero => simp [DataW.trod] at h
  | succ m =>
    rw [DataW.trod_step] at h
    unfold DataW.trodStep at h
    rw [Try.underlying9] at h
    cases c <;> simp at h
    exact ⟨_, rfl, h.1⟩

theorem ch_int {m : Nat} {c : Value} {y : DataW H × List MemPlace} (h : DataW.trod enc Try.prog w base spare held m 3 [c] = some y) : ∃ n, c = .int .i64 n ∧ (Lit.int .i64 n).wf = true := by
  cases m with
  | zero => simp [DataW.trod] at h
  | succ m =>
    rw [DataW.trod_step] at h
    unfold DataW.trodStep at h
    rw [Try.underlying3] at h
    cases c <;> simp at h
    rename_i k n
    obtain ⟨⟨rfl, h2⟩, _⟩ := h
    exact ⟨n, rfl, h2⟩

theorem ch_bool {m : Nat} {c : Value} {y : DataW H × List MemPlace} (h : DataW.trod enc Try.prog w base spare held m 4 [c] = some y) : ∃ n, c = .bool n := by
  cases m with
  | zero => simp [DataW.trod] at h
  | succ m =>
    rw [DataW.trod_step] at h
    unfold DataW.trodStep at h
    rw [Try.underlying4] at h
    cases c <;> simp at h
    exact ⟨_, rfl⟩

/-- What is asked of an account that came in. -/
def AcOk (a : Ac) : Prop := a.code.size ≤ maxLen ∧ a.name.size ≤ maxLen ∧ (Lit.int .i64 a.kind).wf = true ∧ a.par.size ≤ maxLen

theorem acct_cells : Try.prog.cellsOf 42 = 5 := by kernel_rfl
theorem acct_str : Try.prog.cellsOf 9 = 1 := by kernel_rfl
theorem acct_int : Try.prog.cellsOf 3 = 1 := by kernel_rfl
theorem acct_bool : Try.prog.cellsOf 4 = 1 := by kernel_rfl

theorem open_acct {m : Nat} {cs : List Value} {x : DataW H × List MemPlace} (h : DataW.trod enc Try.prog w base spare held m 42 cs = some x) : ∃ a : Ac, cs = a.cells.toList ∧ AcOk a := by
  cases m with
  | zero => simp [DataW.trod] at h
  | succ m =>
    rw [DataW.trod_step] at h
    unfold DataW.trodStep at h
    rw [Try.underlying42] at h
    simp only [acct_cells] at h
    split at h
    · rename_i hl
      match cs, hl with
      | [c0, c1, c2, c3, c4], _ =>
        simp [acct_str, acct_int, acct_bool] at h
        cases h0 : DataW.trod enc Try.prog w base spare held m 9 [c0]
        · simp [h0] at h
        cases h1 : DataW.trod enc Try.prog w base spare held m 9 [c1]
        · simp [h0, h1] at h
        cases h2 : DataW.trod enc Try.prog w base spare held m 3 [c2]
        · simp [h0, h1, h2] at h
        cases h3 : DataW.trod enc Try.prog w base spare held m 9 [c3]
        · simp [h0, h1, h2, h3] at h
        cases h4 : DataW.trod enc Try.prog w base spare held m 4 [c4]
        · simp [h0, h1, h2, h3, h4] at h
        obtain ⟨f, rfl, hf⟩ := ch_string h0
        obtain ⟨t, rfl, ht⟩ := ch_string h1
        obtain ⟨p, rfl, hp⟩ := ch_int h2
        obtain ⟨n, rfl, hn⟩ := ch_string h3
        obtain ⟨d, rfl⟩ := ch_bool h4
        exact ⟨⟨f, t, p, n, d⟩, rfl, hf, ht, hp, hn⟩
    · cases h

theorem ac_cells (w : World) (b off : Nat) (a : Ac) (h : ∀ i, i < 5 → w.cell? ⟨b, off + i, none⟩ = a.cells.toList[i]?) : AcAt w b off a :=
  ⟨h 0 (by omega), h 1 (by omega), h 2 (by omega), h 3 (by omega), h 4 (by omega)⟩

theorem ch_add (b off n : Nat) : (⟨b, off, none⟩ : Addr).add n = ⟨b, off + n, none⟩ := by
  unfold Addr.add
  split
  · rename_i h; subst h; rfl
  · rfl

/-- A chart that came in. -/
theorem acs_of_trod {W : World} {a : Option Addr} {len cap fuel : Nat} {x : DataW H × List MemPlace} (h : DataW.trod enc Try.prog W 0 (fun _ => true) true fuel 22 [.slice a len cap] = some x) :
    ∃ l : List Ac, l.length = len ∧ (∀ k, k < l.length → AcOk (l.getD k ac0)) ∧ IsSl W a l cap := by
  rcases open_slice Try.underlying22 h with ⟨hcs, _⟩ | ⟨x, l, c, m, n, D, Pl, hcs, _, hl, hm, hmm, _, hx⟩
  · simp at hcs
    obtain ⟨rfl, rfl, rfl⟩ := hcs
    exact ⟨[], rfl, by simp, ⟨by simp, .inl rfl⟩⟩
  · simp at hcs
    obtain ⟨rfl, rfl, rfl⟩ := hcs
    have hmm2 : m = cap := hmm
    rw [acct_cells] at hx
    have hr : ∀ i, i < len → ∃ r : Ac, (∀ j, j < 5 → W.cell? ((x.add (i * 5)).add j) = r.cells.toList[j]?) ∧ AcOk r := fun i hi => by
      obtain ⟨cs', h1, h2⟩ := hx i (by omega)
      obtain ⟨r, rfl, ok⟩ := open_acct h2
      exact ⟨r, (World.cells?_some h1).2.2, ok⟩
    obtain ⟨f, hf⟩ := @choose_lt Ac ⟨ac0⟩ _ _ hr
    have hget : ∀ k, k < len → ((List.range len).map f).getD k ac0 = f k := fun k hk => by simp [List.getD, hk]
    have hlen : ((List.range len).map f).length = len := by simp
    refine ⟨(List.range len).map f, hlen, fun k hk => ?_, ⟨by rw [hlen]; exact hl, ?_⟩⟩
    · rw [hlen] at hk
      rw [hget k hk]
      exact (hf k hk).2
    · by_cases h0 : len = 0
      · subst h0
        exact .inl rfl
      · right
        obtain ⟨b, off, spot⟩ := x
        have hc : W.cell? ⟨b, off, spot⟩ = some (.string (f 0).code) := (hf 0 (by omega)).1 0 (by omega)
        have hspot : spot = none := World.cell?_spot hc
        subst hspot
        have hlt : b < W.heap.size := World.block_lt_of_cell? _ _ hc
        refine ⟨b, off, rfl, hlt, fun k hk => ?_⟩
        rw [hlen] at hk
        rw [hget k hk]
        refine ac_cells W b (off + k * 5) (f k) (fun i hi => ?_)
        have := (hf k hk).1 i hi
        rw [ch_add, ch_add] at this
        exact this
end
end Go.Proofs.Ytbbegoklikaphaa

namespace Go.Proofs.Ytbbegoklikaphaa
set_option linter.unusedVariables false
set_option maxRecDepth 100000
open Go.RowKit Go.Lib Go.Maps Go.Deep

section
variable {H : Type} {enc : TypeId × Value → H} {w : World} {base : Nat} {spare : Nat → Bool} {held : Bool}

theorem cell_string {m : Nat} {c : Value} {y : DataW H × List MemPlace} (h : DataW.trod enc Try.prog w base spare held m 9 [c] = some y) : ∃ s, c = .string s ∧ s.size ≤ maxLen := by
  cases m with
  | zero => simp [DataW.trod] at h
  | succ m =>
    rw [DataW.trod_step] at h
    unfold DataW.trodStep at h
    rw [Try.underlying9] at h
    cases c <;> simp at h
    exact ⟨_, rfl, h.1⟩

theorem cell_int {m : Nat} {c : Value} {y : DataW H × List MemPlace} (h : DataW.trod enc Try.prog w base spare held m 3 [c] = some y) : ∃ n, c = .int .i64 n ∧ (Lit.int .i64 n).wf = true := by
  cases m with
  | zero => simp [DataW.trod] at h
  | succ m =>
    rw [DataW.trod_step] at h
    unfold DataW.trodStep at h
    rw [Try.underlying3] at h
    cases c <;> simp at h
    rename_i k n
    obtain ⟨⟨rfl, h2⟩, _⟩ := h
    exact ⟨n, rfl, h2⟩

/-- What is asked of a rate that came in. -/
def RtOk (r : Rt) : Prop := r.frm.size ≤ maxLen ∧ r.dst.size ≤ maxLen ∧ (Lit.int .i64 r.per).wf = true ∧ (Lit.int .i64 r.num).wf = true ∧ (Lit.int .i64 r.den).wf = true

theorem rate_cells : Try.prog.cellsOf 26 = 5 := by kernel_rfl

theorem open_rate {m : Nat} {cs : List Value} {x : DataW H × List MemPlace} (h : DataW.trod enc Try.prog w base spare held m 26 cs = some x) : ∃ r : Rt, cs = r.cells.toList ∧ RtOk r := by
  cases m with
  | zero => simp [DataW.trod] at h
  | succ m =>
    rw [DataW.trod_step] at h
    unfold DataW.trodStep at h
    rw [Try.underlying26] at h
    simp only [rate_cells] at h
    split at h
    · rename_i hl
      match cs, hl with
      | [c0, c1, c2, c3, c4], _ =>
        simp [str_cells, int_cells] at h
        cases h0 : DataW.trod enc Try.prog w base spare held m 9 [c0]
        · simp [h0] at h
        cases h1 : DataW.trod enc Try.prog w base spare held m 9 [c1]
        · simp [h0, h1] at h
        cases h2 : DataW.trod enc Try.prog w base spare held m 3 [c2]
        · simp [h0, h1, h2] at h
        cases h3 : DataW.trod enc Try.prog w base spare held m 3 [c3]
        · simp [h0, h1, h2, h3] at h
        cases h4 : DataW.trod enc Try.prog w base spare held m 3 [c4]
        · simp [h0, h1, h2, h3, h4] at h
        obtain ⟨f, rfl, hf⟩ := cell_string h0
        obtain ⟨t, rfl, ht⟩ := cell_string h1
        obtain ⟨p, rfl, hp⟩ := cell_int h2
        obtain ⟨n, rfl, hn⟩ := cell_int h3
        obtain ⟨d, rfl, hd⟩ := cell_int h4
        exact ⟨⟨f, t, p, n, d⟩, rfl, hf, ht, hp, hn, hd⟩
    · cases h

theorem rt_cells (w : World) (b off : Nat) (r : Rt) (h : ∀ i, i < 5 → w.cell? ⟨b, off + i, none⟩ = r.cells.toList[i]?) : RtAt w b off r :=
  ⟨h 0 (by omega), h 1 (by omega), h 2 (by omega), h 3 (by omega), h 4 (by omega)⟩

theorem add_none (b off n : Nat) : (⟨b, off, none⟩ : Addr).add n = ⟨b, off + n, none⟩ := by
  unfold Addr.add
  split
  · rename_i h; subst h; rfl
  · rfl

/-- The table of a list that came in. -/
theorem table_of_trod {W : World} {a : Option Addr} {len cap fuel : Nat} {x : DataW H × List MemPlace} (h : DataW.trod enc Try.prog W 0 (fun _ => true) true fuel 23 [.slice a len cap] = some x) :
    ∃ rs : List Rt, rs.length = len ∧ (∀ r ∈ rs, RtOk r) ∧ ∀ w', Below W.heap.size W w' → Calls Try.prog 60 #[.slice a len cap] w' (TabEnd w' (tabS rs)) := by
  rcases open_slice Try.underlying23 h with ⟨hcs, _⟩ | ⟨x, l, c, m, n, D, Pl, hcs, _, hl, hm, hmm, _, hx⟩
  · simp at hcs
    obtain ⟨rfl, rfl, rfl⟩ := hcs
    exact ⟨[], rfl, by simp, fun w' _ => table_none none 0 w'⟩
  · simp at hcs
    obtain ⟨rfl, rfl, rfl⟩ := hcs
    have hmm2 : m = cap := hmm
    rw [rate_cells] at hx
    have hr : ∀ i, i < len → ∃ r : Rt, (∀ j, j < 5 → W.cell? ((x.add (i * 5)).add j) = r.cells.toList[j]?) ∧ RtOk r := fun i hi => by
      obtain ⟨cs', h1, h2⟩ := hx i (by omega)
      obtain ⟨r, rfl, ok⟩ := open_rate h2
      exact ⟨r, (World.cells?_some h1).2.2, ok⟩
    obtain ⟨f, hf⟩ := @choose_lt Rt ⟨rt0⟩ _ _ hr
    have hget : ∀ k, k < len → ((List.range len).map f).getD k rt0 = f k := fun k hk => by simp [List.getD, hk]
    refine ⟨(List.range len).map f, by simp, ?_, fun w' hw => ?_⟩
    · intro r hr
      simp only [List.mem_map, List.mem_range] at hr
      obtain ⟨i, hi, rfl⟩ := hr
      exact (hf i hi).2
    · by_cases h0 : len = 0
      · subst h0
        exact table_none _ _ w'
      by_cases h1 : 100 < len
      · exact table_full _ _ _ _ w' (by simp) h1
      obtain ⟨b, off, spot⟩ := x
      have hc : W.cell? ⟨b, off, spot⟩ = some (.string (f 0).frm) := (hf 0 (by omega)).1 0 (by omega)
      have hspot : spot = none := World.cell?_spot hc
      subst hspot
      have hlt : b < W.heap.size := World.block_lt_of_cell? _ _ hc
      have key := table_some b off cap ((List.range len).map f) w' (by have := hw.size; omega) (by simp; omega) (by simp; omega)
        (fun k hk => by
          simp only [List.length_map, List.length_range] at hk
          rw [hget k hk]
          refine (rt_cells W b (off + k * 5) (f k) (fun i hi => ?_)).below hw hlt
          have := (hf k hk).1 i hi
          rw [add_none, add_none] at this
          exact this)
        (fun k hk => by
          simp only [List.length_map, List.length_range] at hk
          rw [hget k hk]
          exact ⟨(hf k hk).2.1, (hf k hk).2.2.1⟩)
        (fun k hk => by
          simp only [List.length_map, List.length_range] at hk
          rw [hget k hk]
          exact (hf k hk).2.2.2.1)
      rw [show ((List.range len).map f).length = len by simp] at key
      exact key
end
end Go.Proofs.Ytbbegoklikaphaa

namespace Go.Proofs.Ytbbegoklikaphaa
set_option linter.unusedVariables false
set_option linter.unusedSimpArgs false
set_option maxRecDepth 100000
open Go.RowKit Go.Lib

theorem ld_add (b off i : Nat) : (⟨b, off, none⟩ : Addr).add i = ⟨b, off + i, none⟩ := by
  rcases Nat.eq_zero_or_pos i with h | h
  · subst h; simp [Addr.add]
  · simp [Addr.add]; omega
theorem ld_wf {n : Int} (h : (Lit.int .i64 n).wf = true) : -9223372036854775808 ≤ n ∧ n ≤ 9223372036854775807 := by
  simp [Lit.wf, IntKind.min, IntKind.max, IntKind.bits, IntKind.signed] at h
  omega
section
variable {H : Type} {enc : TypeId × Value → H}
theorem ld_cell_string {w : World} {base : Nat} {spare : Nat → Bool} {held : Bool} {m : Nat} {c : Value} {y : DataW H × List MemPlace} (h : DataW.trod enc Try.prog w base spare held m 9 [c] = some y) : ∃ s, c = .string s ∧ s.size ≤ maxLen := by
  cases m with
  | zero => simp [DataW.trod] at h
  | succ m =>
    rw [DataW.trod_step] at h
    unfold DataW.trodStep at h
    rw [Try.underlying9] at h
    cases c <;> simp at h
    exact ⟨_, rfl, h.1⟩

theorem ld_cell_int {w : World} {base : Nat} {spare : Nat → Bool} {held : Bool} {m : Nat} {c : Value} {y : DataW H × List MemPlace} (h : DataW.trod enc Try.prog w base spare held m 3 [c] = some y) : ∃ n, c = .int .i64 n ∧ (Lit.int .i64 n).wf = true := by
  cases m with
  | zero => simp [DataW.trod] at h
  | succ m =>
    rw [DataW.trod_step] at h
    unfold DataW.trodStep at h
    rw [Try.underlying3] at h
    cases c <;> simp at h
    rename_i k n
    obtain ⟨⟨rfl, h2⟩, _⟩ := h
    exact ⟨n, rfl, h2⟩

theorem ld_bal_cells : Try.prog.cellsOf 34 = 4 := by kernel_rfl
theorem ld_open_bal {w : World} {base : Nat} {spare : Nat → Bool} {held : Bool} {m : Nat} {cs : List Value} {x : DataW H × List MemPlace} (h : DataW.trod enc Try.prog w base spare held m 34 cs = some x) : ∃ a : Bl, cs = a.cells.toList ∧ BlOk a := by
  cases m with
  | zero => simp [DataW.trod] at h
  | succ m =>
    rw [DataW.trod_step] at h
    unfold DataW.trodStep at h
    rw [Try.underlying34] at h
    simp only [ld_bal_cells] at h
    split at h
    · rename_i hl
      match cs, hl with
      | [c0, c1, c2, c3], _ =>
        simp [ldP_str, ldP_int] at h
        cases h0 : DataW.trod enc Try.prog w base spare held m 3 [c0]
        · simp [h0] at h
        cases h1 : DataW.trod enc Try.prog w base spare held m 9 [c1]
        · simp [h0, h1] at h
        cases h2 : DataW.trod enc Try.prog w base spare held m 9 [c2]
        · simp [h0, h1, h2] at h
        cases h3 : DataW.trod enc Try.prog w base spare held m 3 [c3]
        · simp [h0, h1, h2, h3] at h
        obtain ⟨f, rfl, hf⟩ := ld_cell_int h0
        obtain ⟨s, rfl, hs⟩ := ld_cell_string h1
        obtain ⟨t, rfl, ht⟩ := ld_cell_string h2
        obtain ⟨p, rfl, hp⟩ := ld_cell_int h3
        exact ⟨⟨f, s, t, p⟩, rfl, ⟨ld_wf hf, hs, ht⟩, ld_wf hp⟩
    · cases h

/-- Balances that came in. -/
theorem ld_bls_of_trod {W : World} {a : Option Addr} {len cap fuel : Nat} {x : DataW H × List MemPlace} (h : DataW.trod enc Try.prog W 0 (fun _ => true) true fuel 24 [.slice a len cap] = some x) :
    ∃ l : List Bl, l.length = len ∧ IsBl W a l cap ∧ (∀ x ∈ l, BlOk x) ∧ len ≤ maxLen := by
  rcases Go.Deep.open_slice Try.underlying24 h with ⟨hcs, _⟩ | ⟨x, l, c, m, n, D, Pl, hcs, _, hl, hm, hmm, _, hx⟩
  · simp at hcs
    obtain ⟨rfl, rfl, rfl⟩ := hcs
    exact ⟨[], rfl, ⟨by simp, .inl rfl⟩, by simp, by unfold maxLen; omega⟩
  · simp at hcs
    obtain ⟨rfl, rfl, rfl⟩ := hcs
    have hmm2 : m = cap := hmm
    rw [ld_bal_cells] at hx
    have hr : ∀ i, i < len → ∃ r : Bl, (∀ j, j < 4 → W.cell? ((x.add (i * 4)).add j) = r.cells.toList[j]?) ∧ BlOk r := fun i hi => by
      obtain ⟨cs', h1, h2⟩ := hx i (by omega)
      obtain ⟨r, rfl, hw⟩ := ld_open_bal h2
      exact ⟨r, (World.cells?_some h1).2.2, hw⟩
    obtain ⟨f, hf⟩ := @Go.Deep.choose_lt Bl ⟨bl0⟩ _ _ hr
    have hget : ∀ k, k < len → ((List.range len).map f).getD k bl0 = f k := fun k hk => by simp [List.getD, hk]
    have hlen : ((List.range len).map f).length = len := by simp
    refine ⟨(List.range len).map f, hlen, ⟨by rw [hlen]; exact hl, ?_⟩, ?_, Nat.le_trans hl hm⟩
    · by_cases h0 : len = 0
      · subst h0
        exact .inl rfl
      · right
        obtain ⟨b, off, spot⟩ := x
        have hc : W.cell? ⟨b, off, spot⟩ = some (.int .i64 (f 0).ent) := (hf 0 (by omega)).1 0 (by omega)
        have hspot : spot = none := World.cell?_spot hc
        subst hspot
        have hlt : b < W.heap.size := World.block_lt_of_cell? _ _ hc
        refine ⟨b, off, rfl, hlt, fun k hk => ?_⟩
        rw [hlen] at hk
        rw [hget k hk]
        have C : ∀ i, i < 4 → W.cell? ⟨b, off + k * 4 + i, none⟩ = (f k).cells.toList[i]? := fun i hi => by
          have := (hf k hk).1 i hi
          rw [ld_add, ld_add] at this
          exact this
        exact ⟨C 0 (by omega), C 1 (by omega), C 2 (by omega), C 3 (by omega)⟩
    · intro y hy
      obtain ⟨k, hk, rfl⟩ := List.mem_map.1 hy
      exact (hf k (List.mem_range.1 hk)).2

end

end Go.Proofs.Ytbbegoklikaphaa
