/-
  Balances that came in, as they lie in memory.
-/
import Derived.Test.YtpkopanigeinpaaGreatDoorZv11
import Derived.Test.YtpkopanigeinpaaGreatDoorZv16
import Derived.Test.YtpkopanigeinpaaGreatDoorZv13
import Derived.Test.YtpkopanigeinpaaGreatDoorZv15
import Derived.Test.YtpkopanigeinpaaGreatDoorZv0
import Derived.Laws.NewBlocks
import Derived.RangeFuncRecord
import Derived.KernelRfl
import Derived.Deep.CutRange
import Derived.Deep.CutBlock
import Derived.WalkLawsBesides
import Derived.Deep.Slices
import Derived.OpenShut
import Derived.Test.YtpkopanigeinpaaGreatDoorZv12
namespace Go.Proofs.YtpkopanigeinpaaGreatDoor
set_option linter.unusedVariables false
set_option linter.unusedSimpArgs false
set_option maxRecDepth 100000
open Go.RowKit Go.Lib

set_option maxHeartbeats 4000000 in
theorem zero_any (a : Option Addr) (cap : Nat) (L : List Je) (w : World) (hlen : L.length ≤ 1000) (h : IsJs w a L cap) (hz : ∀ x ∈ L, 0 < x.lns.length ∧ x.lns.length ≤ 20 ∧ Within mostA x.lns ∧ ∀ y ∈ curSums x.lns, y.amt = 0) :
    Calls Tryz.prog 6 #[.slice a L.length cap] w fun e w' => e = .returned (.bool true) ∧ Below w.heap.size w w' := by
  have HH : Hid (IsJs w a L cap) := h
  have HZ : Hid (∀ x ∈ L, 0 < x.lns.length ∧ x.lns.length ≤ 20 ∧ Within mostA x.lns ∧ ∀ y ∈ curSums x.lns, y.amt = 0) := hz
  have hl1 : (L.length : Int) ≤ 1000 := by omega
  clear h hz
  go_enter Tryz.func6, Tryz.ntmps6
  go_wp2
  go_loopw [3] (fun i wr => ∃ k : Nat, k ≤ L.length ∧ i = .int .i64 k ∧ Hid (Below w.heap.size w wr)) (fun i _ => L.length - (RowKit.intOf i).toNat)
  case atStart => exact ⟨0, Nat.zero_le _, rfl, Below.refl _ _⟩
  case round =>
    obtain ⟨k, hk, rfl, HB⟩ := hrel
    by_cases hlt : k < L.length
    · have hjs := HH.out.below HB.out
      rcases hjs.lies with h0 | ⟨jb, jo, e, hjb, hat⟩
      · rw [h0] at hlt; simp at hlt
      subst e
      have hy := hat k hlt
      have hln := hjs.lns _ (jes_mem L k hlt)
      obtain ⟨z1, z2, z3, z4⟩ := HZ.out _ (jes_mem L k hlt)
      have HS : Hid (Calls Tryz.prog 17 #[.agg (L.getD k je0).cells] wr fun e w' => ∃ v, e = .returned v ∧ LnRow w' wr.heap.size v (curSums (L.getD k je0).lns) ∧ Below wr.heap.size wr w') := refSums_any _ _ _ _ _ _ wr z2 z1 z3 hln
      have HZ4 : Hid (∀ y ∈ curSums (L.getD k je0).lns, y.amt = 0) := z4
      have hsl : (curSums (L.getD k je0).lns).length ≤ 20 := by
        have := grp_length ((L.getD k je0).lns.map bareL)
        rw [List.length_map] at this
        exact Nat.le_trans this z2
      clear hat hln z1 z2 z3 z4 hjs
      generalize curSums (L.getD k je0).lns = S at *
      generalize L.getD k je0 = x at *
      obtain ⟨x0, x1, x2, x3, x4, x5⟩ := x
      obtain ⟨d0, d1, d2, d3⟩ := hy
      simp only [Je.cells] at d0 d1 d2 d3 HS
      have i0 : (0 : Int) ≤ k := by omega
      have i1 : (k : Int) < L.length := by omega
      have i2 : (S.length : Int) ≤ 20 := by omega
      obtain ⟨wo, hwo⟩ : ∃ wo, wo = wr := ⟨_, rfl⟩
      subst hwo
      go_wp2_with fail
      refine HS.out.mono ?_
      rintro e w1 ⟨v, rfl, hr, hb1⟩
      obtain ⟨sa, sc, e, hsS⟩ := hr.isLn
      subst e
      have HB1 : Hid (Below w.heap.size w w1) := HB.out.trans (hb1.mono HB.out.size)
      have HSl : Hid (IsLn w1 sa S sc) := hsS
      clear HS hr hb1 hsS d0 d1 d2 d3
      go_wp2
      go_loop [5] (fun i => ∃ j : Nat, j ≤ S.length ∧ i = .int .i64 j) (fun i => S.length - (RowKit.intOf i).toNat)
      case atStart => exact ⟨0, Nat.zero_le _, rfl⟩
      case round =>
        obtain ⟨j, hj, rfl⟩ := hrel
        by_cases hjl : j < S.length
        · rcases HSl.out.lies with h0 | ⟨lb, lo, e, hlb, hat⟩
          · rw [h0] at hjl; simp at hjl
          subst e
          have c2 := (hat j hjl).c2
          rw [HZ4.out _ (lns_mem S j hjl)] at c2
          have m0 : (0 : Int) ≤ j := by omega
          have m1 : (j : Int) < S.length := by omega
          clear hat
          go_wp2
          go_round
          case rel => exact ⟨j + 1, by omega, by go_num⟩
          case measure => simp [RowKit.intOf]; omega
        · have ej : j = S.length := by omega
          subst ej
          have m1 : ¬ (S.length : Int) < S.length := by omega
          go_wp2
          go_roundw
          case rel => exact ⟨k + 1, by omega, by go_num, HB1⟩
          case measure => simp [RowKit.intOf]; omega
    · have ek : k = L.length := by omega
      subst ek
      have m1 : ¬ (L.length : Int) < L.length := by omega
      go_wp2
      go_ret
      exact ⟨rfl, HB.out⟩
end Go.Proofs.YtpkopanigeinpaaGreatDoor

namespace Go.Proofs.YtpkopanigeinpaaGreatDoor
set_option linter.unusedVariables false
set_option linter.unusedSimpArgs false
set_option maxRecDepth 100000
open Go.RowKit Go.Lib

theorem find_hit {p : Bl → Bool} {b : List Bl} {k : Nat} (h : (b.take k).find? p = none) (hk : k < b.length) (hp : p (b.getD k bl0) = true) : b.find? p = some (b.getD k bl0) := by
  have e : b = b.take k ++ b.getD k bl0 :: b.drop (k + 1) := by rw [← bls_drop b k hk, List.take_append_drop]
  generalize b.getD k bl0 = x at *
  rw [e, List.find?_append, h, List.find?_cons_of_pos hp]
  rfl
theorem find_miss {p : Bl → Bool} {b : List Bl} {k : Nat} (h : (b.take k).find? p = none) (hk : k < b.length) (hp : p (b.getD k bl0) = false) : (b.take (k + 1)).find? p = none := by
  rw [bls_take b k hk, List.find?_append, h, List.find?_cons_of_neg (by rw [hp]; simp)]
  rfl
set_option maxHeartbeats 4000000 in
theorem refGet_any (a : Option Addr) (cap : Nat) (b : List Bl) (en : Int) (acc cur : ByteArray) (w : World) (hlen : (b.length : Int) ≤ 9223372036854775807) (h : IsBl w a b cap) :
    Calls Tryz.prog 7 #[.slice a b.length cap, .int .i64 en, .string acc, .string cur] w fun e w' => e = .returned (.int .i64 (getB b en acc cur)) ∧ w' = w := by
  have HH : Hid (IsBl w a b cap) := h
  obtain ⟨res, hres⟩ : ∃ res, getB b en acc cur = res := ⟨_, rfl⟩
  have Hres : Hid (getB b en acc cur = res) := hres
  rw [hres]
  clear hres h
  go_enter Tryz.func7, Tryz.ntmps7
  go_wp2
  go_loop [9] (fun i => ∃ k : Nat, k ≤ b.length ∧ i = .int .i64 k ∧ Hid ((b.take k).find? (hasB en acc cur) = none)) (fun i => b.length - (RowKit.intOf i).toNat)
  case atStart => exact ⟨0, Nat.zero_le _, rfl, rfl⟩
  case round =>
    obtain ⟨k, hk, rfl, H⟩ := hrel
    by_cases hlt : k < b.length
    · obtain ⟨bb, off, e, hb, hc⟩ := HH.out.some hlt
      subst e
      have hy : BlAt w bb (off + k * 4) (b.getD k bl0) := hc k hlt
      have HHit : Hid (hasB en acc cur (b.getD k bl0) = true → res = (b.getD k bl0).amt) := fun hp => by
        rw [← Hres.out]; unfold getB; rw [find_hit H.out hlt hp]; rfl
      have HMiss : Hid (hasB en acc cur (b.getD k bl0) = false → (b.take (k + 1)).find? (hasB en acc cur) = none) := fun hp => find_miss H.out hlt hp
      clear hc H
      generalize b.getD k bl0 = y at *
      obtain ⟨y0, y1, y2, y3⟩ := y
      obtain ⟨d0, d1, d2, d3⟩ := hy
      simp only at d0 d1 d2 d3
      have i0 : (0 : Int) ≤ k := by omega
      have i1 : (k : Int) < b.length := by omega
      by_cases c1 : y0 = en
      · subst c1
        by_cases c2 : y1 = acc
        · subst c2
          by_cases c3 : y2 = cur
          · subst c3
            have er : res = y3 := HHit.out (by simp [hasB])
            subst er
            clear HHit HMiss
            go_wp2
            go_ret
            exact ⟨rfl, rfl⟩
          · have c3' := ch_ne c3
            have HN : Hid _ := HMiss.out (by simp [hasB, c3])
            clear HHit HMiss
            go_wp2
            go_round
            case rel => exact ⟨k + 1, by omega, by go_num, HN⟩
            case measure => simp [RowKit.intOf]; omega
        · have c2' := ch_ne c2
          have HN : Hid _ := HMiss.out (by simp [hasB, c2])
          clear HHit HMiss
          go_wp2
          go_round
          case rel => exact ⟨k + 1, by omega, by go_num, HN⟩
          case measure => simp [RowKit.intOf]; omega
      · have c1' : (y0 == en) = false := by rw [beq_eq_false_iff_ne]; exact c1
        have HN : Hid _ := HMiss.out (by simp [hasB, c1])
        clear HHit HMiss
        go_wp2
        go_round
        case rel => exact ⟨k + 1, by omega, by go_num, HN⟩
        case measure => simp [RowKit.intOf]; omega
    · have ek : k = b.length := by omega
      subst ek
      have er : res = 0 := by
        have := H.out
        rw [List.take_length] at this
        rw [← Hres.out]; unfold getB; rw [this]; rfl
      subst er
      clear H
      go_wp2
      go_ret
      exact ⟨rfl, rfl⟩
end Go.Proofs.YtpkopanigeinpaaGreatDoor

namespace Go.Proofs.YtpkopanigeinpaaGreatDoor
end Go.Proofs.YtpkopanigeinpaaGreatDoor

namespace Go.Proofs.YtpkopanigeinpaaGreatDoor
set_option linter.unusedVariables false
set_option linter.unusedSimpArgs false
set_option maxRecDepth 100000
open Go.RowKit Go.Lib

/-- The laws' own chart. -/
def jC : List Ac := [⟨⟨#[49, 48]⟩, ⟨#[99, 97, 115, 104]⟩, 1, ⟨#[]⟩, true⟩, ⟨⟨#[50, 48]⟩, ⟨#[100, 101, 98, 116]⟩, 2, ⟨#[]⟩, true⟩, ⟨⟨#[51, 48]⟩, ⟨#[107, 101, 112, 116]⟩, 3, ⟨#[]⟩, false⟩, ⟨⟨#[52, 48]⟩, ⟨#[115, 97, 108, 101, 115]⟩, 4, ⟨#[]⟩, false⟩, ⟨⟨#[53, 48]⟩, ⟨#[99, 111, 115, 116]⟩, 5, ⟨#[]⟩, false⟩]
def jCells : Array Value := #[.string ⟨#[49, 48]⟩, .string ⟨#[99, 97, 115, 104]⟩, .int .i64 1, .string ⟨#[]⟩, .bool true, .string ⟨#[50, 48]⟩, .string ⟨#[100, 101, 98, 116]⟩, .int .i64 2, .string ⟨#[]⟩, .bool true, .string ⟨#[51, 48]⟩, .string ⟨#[107, 101, 112, 116]⟩, .int .i64 3, .string ⟨#[]⟩, .bool false, .string ⟨#[52, 48]⟩, .string ⟨#[115, 97, 108, 101, 115]⟩, .int .i64 4, .string ⟨#[]⟩, .bool false, .string ⟨#[53, 48]⟩, .string ⟨#[99, 111, 115, 116]⟩, .int .i64 5, .string ⟨#[]⟩, .bool false]
theorem jC_at (W : World) : IsSl (W.alloc (.cells jCells 58)) (some ⟨W.heap.size, 0, none⟩) jC 5 := by
  have h := World.alloc_heap_new W (.cells jCells 58)
  generalize W.alloc (.cells jCells 58) = V at *
  generalize W.heap.size = b at *
  refine ⟨Nat.le_refl _, .inr ⟨b, 0, rfl, (Array.getElem?_eq_some_iff.1 h).1, fun k hk => ?_⟩⟩
  rcases (by simp [jC] at hk; omega : k = 0 ∨ k = 1 ∨ k = 2 ∨ k = 3 ∨ k = 4) with rfl | rfl | rfl | rfl | rfl <;>
  exact ⟨by simp [World.cell?, h, jCells, jC], by simp [World.cell?, h, jCells, jC], by simp [World.cell?, h, jCells, jC], by simp [World.cell?, h, jCells, jC], by simp [World.cell?, h, jCells, jC]⟩
theorem accounts3_any (w : World) :
    Calls Tryz.prog 5 #[] w fun e w' => e = .returned (.slice (some ⟨w.heap.size, 0, none⟩) 5 5) ∧ IsSl w' (some ⟨w.heap.size, 0, none⟩) jC 5 ∧ Below w.heap.size w w' := by
  have h := jC_at w
  have b : Below w.heap.size w (w.alloc (.cells jCells 58)) := (Below.refl _ w).alloc (Nat.le_refl _) _
  have H : Hid (IsSl (w.alloc (.cells jCells 58)) (some ⟨w.heap.size, 0, none⟩) jC 5 ∧ Below w.heap.size w (w.alloc (.cells jCells 58))) := ⟨h, b⟩
  clear h b
  go_enter Tryz.func5, Tryz.ntmps5
  go_wp2
  go_ret
  exact ⟨rfl, H.out.1, H.out.2⟩
end Go.Proofs.YtpkopanigeinpaaGreatDoor

namespace Go.Proofs.YtpkopanigeinpaaGreatDoor
set_option linter.unusedVariables false
set_option linter.unusedSimpArgs false
set_option maxRecDepth 100000
open Go.RowKit Go.Lib

/-- The law's own pool, and its balance. -/
def aeP (a b : Nat) : Po := ⟨⟨#[53, 48]⟩, ⟨#[69, 85, 82]⟩, some ⟨a, 0, none⟩, 2, [⟨#[49, 48]⟩, ⟨#[50, 48]⟩], some ⟨b, 0, none⟩, 2, [1, 3]⟩
def aeB : Bl := ⟨1, ⟨#[53, 48]⟩, ⟨#[69, 85, 82]⟩, 8⟩
theorem ae_bad (a b : Nat) : alBad jC [aeP a b] [aeB] 1 1 = 0 := by kernel_rfl
theorem ae_all (a b : Nat) : alTo 1 1 [aeB] [aeP a b] 1 = [⟨refA 0, 1, 1, [⟨⟨#[53, 48]⟩, ⟨#[69, 85, 82]⟩, -8⟩, ⟨⟨#[49, 48]⟩, ⟨#[69, 85, 82]⟩, 2⟩, ⟨⟨#[50, 48]⟩, ⟨#[69, 85, 82]⟩, 6⟩]⟩] := by kernel_rfl
theorem isTx_new2 {W : World} {b : Nat} {x y : ByteArray} (h : W.heap[b]? = some (.cells #[.string x, .string y] 9 (0, 0))) : IsTx W (some ⟨b, 0, none⟩) [x, y] 2 := by
  refine ⟨Nat.le_refl _, .inr ⟨b, 0, rfl, (Array.getElem?_eq_some_iff.1 h).1, fun k hk => ?_⟩⟩
  rcases (by simp at hk; omega : k = 0 ∨ k = 1) with rfl | rfl <;> simp [World.cell?, h]
theorem isW_new2 {W : World} {b : Nat} {x y : Int} (h : W.heap[b]? = some (.cells #[.int .i64 x, .int .i64 y] 3 (0, 0))) : IsW W (some ⟨b, 0, none⟩) [x, y] 2 := by
  refine ⟨Nat.le_refl _, .inr ⟨b, 0, rfl, (Array.getElem?_eq_some_iff.1 h).1, fun k hk => ?_⟩⟩
  rcases (by simp at hk; omega : k = 0 ∨ k = 1) with rfl | rfl <;> simp [World.cell?, h]
theorem isPs_one {W : World} {b : Nat} {p : Po} (h : W.heap[b]? = some (.cells p.cells 29 (0, 0))) (hp : PoOk W p) : IsPs W (some ⟨b, 0, none⟩) [p] 1 := by
  refine ⟨Nat.le_refl _, .inr ⟨b, 0, rfl, (Array.getElem?_eq_some_iff.1 h).1, fun k hk => ?_⟩, fun q hq => by rw [List.mem_singleton] at hq; subst hq; exact hp⟩
  have e : k = 0 := by simp at hk; omega
  subst e
  simp only [List.getD_cons_zero]
  exact ⟨by simp [World.cell?, h, Po.cells], by simp [World.cell?, h, Po.cells], by simp [World.cell?, h, Po.cells], by simp [World.cell?, h, Po.cells]⟩
theorem isBl_one {W : World} {b : Nat} {x : Bl} (h : W.heap[b]? = some (.cells x.cells 37 (0, 0))) : IsBl W (some ⟨b, 0, none⟩) [x] 1 := by
  refine ⟨Nat.le_refl _, .inr ⟨b, 0, rfl, (Array.getElem?_eq_some_iff.1 h).1, fun k hk => ?_⟩⟩
  have e : k = 0 := by simp at hk; omega
  subst e
  simp only [List.getD_cons_zero]
  exact ⟨by simp [World.cell?, h, Bl.cells], by simp [World.cell?, h, Bl.cells], by simp [World.cell?, h, Bl.cells], by simp [World.cell?, h, Bl.cells]⟩
theorem ep_just {L : List Je} {x : Ep} (h : L.map Je.ep = [x]) : ∃ j, L = [j] ∧ j.lns = x.lns := by
  match L, h with
  | [j], h =>
    have e : j.ep = x := by simpa using h
    subst e
    exact ⟨j, rfl, rfl⟩
/-- The law's own fact. -/
theorem ae_fact (w : World) (n1 n2 n3 : Nat) (h1 : w.heap.size = n1) (h2 : n2 = n1 + 1) (h3 : n3 = n1 + 2) :
    ∀ W, Below (n1 + 3) (((w.alloc (.cells #[.string ⟨#[49, 48]⟩, .string ⟨#[50, 48]⟩] 9)).alloc (.cells #[.int .i64 1, .int .i64 3] 3)).alloc (.cells #[.string ⟨#[53, 48]⟩, .string ⟨#[69, 85, 82]⟩, .slice (some ⟨n1, 0, none⟩) 2 2, .slice (some ⟨n2, 0, none⟩) 2 2] 29)) W → IsPs W (some ⟨n3, 0, none⟩) [aeP n1 n2] 1 ∧ Below w.heap.size w W := fun W hW => by
  subst h2 h3
  obtain ⟨V1, hV1⟩ : ∃ V1, w.alloc (.cells #[.string ⟨#[49, 48]⟩, .string ⟨#[50, 48]⟩] 9) = V1 := ⟨_, rfl⟩
  rw [hV1] at hW
  obtain ⟨V2, hV2⟩ : ∃ V2, V1.alloc (.cells #[.int .i64 1, .int .i64 3] 3) = V2 := ⟨_, rfl⟩
  rw [hV2] at hW
  obtain ⟨V, hV⟩ : ∃ V, V2.alloc (.cells #[.string ⟨#[53, 48]⟩, .string ⟨#[69, 85, 82]⟩, .slice (some ⟨n1, 0, none⟩) 2 2, .slice (some ⟨n1 + 1, 0, none⟩) 2 2] 29) = V := ⟨_, rfl⟩
  rw [hV] at hW
  have s1 : V1.heap.size = n1 + 1 := by rw [← hV1, ← h1]; simp
  have s2 : V2.heap.size = n1 + 2 := by rw [← hV2]; simp [s1]
  have s3 : V.heap.size = n1 + 3 := by rw [← hV]; simp [s2]
  have b0 : Below w.heap.size w V1 := by rw [← hV1]; exact (Below.refl _ w).alloc (Nat.le_refl _) _
  have b1 : Below V1.heap.size V1 V2 := by rw [← hV2]; exact (Below.refl _ V1).alloc (Nat.le_refl _) _
  have b2 : Below V2.heap.size V2 V := by rw [← hV]; exact (Below.refl _ V2).alloc (Nat.le_refl _) _
  have e1 : V1.heap[n1]? = some (.cells #[.string ⟨#[49, 48]⟩, .string ⟨#[50, 48]⟩] 9 (0, 0)) := by rw [← hV1, ← h1]; exact World.alloc_heap_new w _
  have e2 : V2.heap[n1 + 1]? = some (.cells #[.int .i64 1, .int .i64 3] 3 (0, 0)) := by rw [← hV2, ← s1]; exact World.alloc_heap_new V1 _
  have e3 : V.heap[n1 + 2]? = some (.cells #[.string ⟨#[53, 48]⟩, .string ⟨#[69, 85, 82]⟩, .slice (some ⟨n1, 0, none⟩) 2 2, .slice (some ⟨n1 + 1, 0, none⟩) 2 2] 29 (0, 0)) := by rw [← hV, ← s2]; exact World.alloc_heap_new V2 _
  have f2 : W.heap[n1 + 1]? = _ := (hW.block _ (by omega)).trans ((b2.block _ (by omega)).trans e2)
  have f1 : W.heap[n1]? = _ := (hW.block _ (by omega)).trans ((b2.block _ (by omega)).trans ((b1.block _ (by omega)).trans e1))
  refine ⟨isPs_one (p := aeP n1 (n1 + 1)) ((hW.block _ (by omega)).trans e3) ⟨isTx_new2 f1, isW_new2 f2, by simp [aeP], by simp [aeP]⟩, ?_⟩
  exact ((b0.trans (b1.mono (by omega))).trans (b2.mono (by omega))).trans (hW.mono (by omega))
theorem ae_sum (a : Option Addr) (cap : Nat) (l : List Int) (w : World) (h : IsW w a l cap) (hl : l.length ≤ 1000) (hI : ∀ x ∈ l, -9223372036854775808 ≤ x ∧ x ≤ 9223372036854775807) (hs : -9223372036854775808 ≤ l.sum ∧ l.sum ≤ 9223372036854775807) :
    Calls Tryz.prog 9 #[.slice a l.length cap] w fun e w' => e = .returned (.tuple #[.int .i64 l.sum, .nilIface]) ∧ w' = w := by
  rcases h.lies with rfl | ⟨b, off, rfl, _, hc⟩
  · exact sum_zero a cap w
  · have := sum_run b off cap l.length l w rfl (by omega) (fun i hi => hI _ (getD_mem_int hi)) hc
    rw [(sum_fit _ hs).1, (sum_fit _ hs).2] at this
    exact this
end Go.Proofs.YtpkopanigeinpaaGreatDoor

namespace Go.Proofs.YtpkopanigeinpaaGreatDoor
set_option linter.unusedVariables false
set_option linter.unusedSimpArgs false
set_option maxRecDepth 100000
open Go.RowKit Go.Lib

theorem alTo_len (en pe : Int) (b : List Bl) (l : List Po) : ∀ n, (alTo en pe b l n).length ≤ n
  | 0 => by simp [alTo]
  | n + 1 => by
    have := alTo_len en pe b l n
    rw [alTo_next, List.length_append]
    unfold poE
    split <;> simp <;> omega

theorem al_amt {c : List Ac} {l : List Po} {b : List Bl} {en pe : Int} (h : alBad c l b en pe = 0) (k : Nat) (hk : k < l.length) : isAmt (getB b en (l.getD k po0).acc (l.getD k po0).cur) := by
  unfold alBad at h
  split at h
  · contradiction
  · split at h
    · contradiction
    · split at h
      · omega
      · have hz := firstTo_zero h k hk
        unfold hasBad at hz
        split at hz
        · assumption
        · omega

set_option maxHeartbeats 16000000 in
theorem even_walk (a a2 a3 a4 a5 : Option Addr) (cap cap2 cap3 cap4 cap5 : Nat) (c : List Ac) (l : List Po) (b : List Bl) (en : Int) (lw : List Wr) (am : List Int) (w : World) (h : IsSl w a c cap) (hl : IsPs w a2 l cap2) (hll : l.length ≤ 9223372036854775807) (hb : IsBl w a3 b cap3) (hbl : b.length ≤ 9223372036854775807) (hw : IsWs w a4 lw cap4) (hwl : lw.length ≤ 9223372036854775807) (ha : IsW w a5 am cap5) (hal : am.length ≤ 9223372036854775807) :
    Calls Tryz.prog 3 #[.slice a c.length cap, .slice a2 l.length cap2, .slice a3 b.length cap3, .int .i64 en, .slice a4 lw.length cap4, .slice a5 am.length cap5] w fun e w' => e = .returned (.bool true) ∧ Below w.heap.size w w' := by
  have HF := ae_fact w w.heap.size (w.heap.size + 1) (w.heap.size + 1 + 1) rfl rfl rfl
  obtain ⟨V3, hV3⟩ : ∃ V3, (((w.alloc (.cells #[.string ⟨#[49, 48]⟩, .string ⟨#[50, 48]⟩] 9)).alloc (.cells #[.int .i64 1, .int .i64 3] 3)).alloc (.cells #[.string ⟨#[53, 48]⟩, .string ⟨#[69, 85, 82]⟩, .slice (some ⟨w.heap.size, 0, none⟩) 2 2, .slice (some ⟨w.heap.size + 1, 0, none⟩) 2 2] 29)) = V3 := ⟨_, rfl⟩
  rw [hV3] at HF
  have hs3 : V3.heap.size = w.heap.size + 3 := by rw [← hV3]; simp
  have HF3 : Hid (∀ W, Below V3.heap.size V3 W → IsPs W (some ⟨w.heap.size + 1 + 1, 0, none⟩) [aeP w.heap.size (w.heap.size + 1)] 1 ∧ Below w.heap.size w W) := fun W hW => HF W (by rw [← hs3]; exact hW)
  have HV3 : Hid ((((w.alloc (.cells #[.string ⟨#[49, 48]⟩, .string ⟨#[50, 48]⟩] 9)).alloc (.cells #[.int .i64 1, .int .i64 3] 3)).alloc (.cells #[.string ⟨#[53, 48]⟩, .string ⟨#[69, 85, 82]⟩, .slice (some ⟨w.heap.size, 0, none⟩) 2 2, .slice (some ⟨w.heap.size + 1, 0, none⟩) 2 2] 29)) = V3) := hV3
  have HL : Hid (IsPs w a2 l cap2) := hl
  have HB : Hid (IsBl w a3 b cap3 ∧ (b.length : Int) ≤ 9223372036854775807) := ⟨hb, by omega⟩
  have HAc : Hid (∀ W, Calls Tryz.prog 5 #[] W fun e w' => e = .returned (.slice (some ⟨W.heap.size, 0, none⟩) 5 5) ∧ IsSl w' (some ⟨W.heap.size, 0, none⟩) jC 5 ∧ Below W.heap.size W w') := fun W => accounts3_any W
  have HEn : Hid (∀ W, Below w.heap.size w W → Calls Tryz.prog 4 #[.slice a c.length cap, .slice a2 l.length cap2, .slice a3 b.length cap3, .int .i64 en, .int .i64 5] W (AlEnd c l b en 5 W)) := fun W hW => alEntries_any a a2 a3 cap cap2 cap3 c l b en 5 W (h.below hW) (hl.below hW) hll (hb.below hW) hbl
  have HSteps : Hid (∀ W, Below w.heap.size w W → Calls Tryz.prog 8 #[.slice a4 lw.length cap4, .slice a5 am.length cap5] W (StepEnd lw am W)) := fun W hW => steps_any a4 a5 lw am cap4 cap5 W (hw.below hW) (ha.below hW) hwl hal
  have HBnd : spBad lw am = 0 → (am.length ≤ 20 ∧ (∀ x ∈ am, -9223372036854775808 ≤ x ∧ x ≤ 9223372036854775807) ∧ (-9223372036854775808 ≤ am.sum ∧ am.sum ≤ 9223372036854775807)) ∧ ((stepL (fun k => (lw.getD k wr0).xs) am am.length).length = am.length ∧ (stepL (fun k => (lw.getD k wr0).xs) am am.length).sum = am.sum ∧ ∀ x ∈ stepL (fun k => (lw.getD k wr0).xs) am am.length, -9223372036854775808 ≤ x ∧ x ≤ 9223372036854775807) := fun h0 => by
    obtain ⟨p1, p2, p3⟩ := spBad_ok h0
    obtain ⟨k1, k2, k3⟩ := step_keeps p2 am.length (Nat.le_refl _)
    have h20 := p2.1
    have h4 := abs_le (l := am) (M := 1000000000000000) fun x hx => by have := p3 x hx; unfold sizeI; split <;> omega
    have hsum : sizeI am.sum ≤ absS am := abs_sum am
    refine ⟨⟨h20, fun x hx => by have := p3 x hx; omega, ?_⟩, k1, k2, fun x hx => ?_⟩
    · have := size_bd (M := 1000000000000000000) (x := am.sum) (by omega); omega
    · have := size_bd (M := 1000000000000000000) (x := x) (by have := size_le_abs hx; omega); omega
  have HSum : Hid (∀ W, Below w.heap.size w W → spBad lw am = 0 → Calls Tryz.prog 9 #[.slice a5 am.length cap5] W fun e w' => e = .returned (.tuple #[.int .i64 am.sum, .nilIface]) ∧ w' = W) := fun W hW h0 => by
    obtain ⟨⟨q1, q2, q3⟩, _⟩ := HBnd h0
    exact ae_sum a5 cap5 am W (ha.below hW) (by omega) q2 q3
  have HSum2 : Hid (∀ W sa sc, IsW W sa (stepL (fun k => (lw.getD k wr0).xs) am am.length) sc → spBad lw am = 0 → Calls Tryz.prog 9 #[.slice sa am.length sc] W fun e w' => e = .returned (.tuple #[.int .i64 am.sum, .nilIface]) ∧ w' = W) := fun W sa sc hW h0 => by
    obtain ⟨⟨q1, q2, q3⟩, q4, q5, q6⟩ := HBnd h0
    have := ae_sum sa sc (stepL (fun k => (lw.getD k wr0).xs) am am.length) W hW (by omega) q6 (by rw [q5]; exact q3)
    rw [q4, q5] at this
    exact this
  clear h hl hb HF hV3 hs3 hw ha HBnd
  go_enter Tryz.func3, Tryz.ntmps3
  go_upto_region 2 with fail
  rw [HV3.out]
  clear HV3
  obtain ⟨q3, hq3⟩ : ∃ q3, w.heap.size + 1 + 1 = q3 := ⟨_, rfl⟩
  rw [hq3] at HF3 ⊢
  obtain ⟨q2, hq2⟩ : ∃ q2, w.heap.size + 1 = q2 := ⟨_, rfl⟩
  rw [hq2] at HF3 ⊢
  clear hq3 hq2
  go_wp2_with fail
  refine (HAc.out V3).mono ?_
  rintro e w1 ⟨rfl, hsl, hb1⟩
  obtain ⟨hps, hbw1⟩ := HF3.out w1 hb1
  have b12 : Below w1.heap.size w1 (w1.alloc (.cells #[.int .i64 1, .string ⟨#[53, 48]⟩, .string ⟨#[69, 85, 82]⟩, .int .i64 8] 37)) := (Below.refl _ w1).alloc (Nat.le_refl _) _
  have hbl1 : IsBl (w1.alloc (.cells #[.int .i64 1, .string ⟨#[53, 48]⟩, .string ⟨#[69, 85, 82]⟩, .int .i64 8] 37)) (some ⟨w1.heap.size, 0, none⟩) [aeB] 1 := isBl_one (x := aeB) (World.alloc_heap_new w1 _)
  have HE1 : Hid (Calls Tryz.prog 4 #[.slice (some ⟨V3.heap.size, 0, none⟩) 5 5, .slice (some ⟨q3, 0, none⟩) 1 1, .slice (some ⟨w1.heap.size, 0, none⟩) 1 1, .int .i64 1, .int .i64 1] (w1.alloc (.cells #[.int .i64 1, .string ⟨#[53, 48]⟩, .string ⟨#[69, 85, 82]⟩, .int .i64 8] 37)) fun e w' => ∃ la lc va vc, e = .returned (.tuple #[.slice (some va) 1 vc, .nilIface]) ∧ w'.cell? ⟨va.block, va.off + 3, none⟩ = some (.slice (some la) 3 lc) ∧ va.spot = none ∧ la.spot = none ∧ w'.cell? ⟨la.block, la.off + 6 + 2, none⟩ = some (.int .i64 6) ∧ Below w.heap.size w w') := by
    refine (alEntries_any (some ⟨V3.heap.size, 0, none⟩) (some ⟨q3, 0, none⟩) (some ⟨w1.heap.size, 0, none⟩) 5 1 1 jC [aeP w.heap.size q2] [aeB] 1 1 _ (hsl.below b12) (hps.below b12) (by simp) hbl1 (by simp)).mono ?_
    rintro e w' ⟨z1, _, z3⟩
    obtain ⟨v, L, rfl, hm, hL⟩ := z3 (ae_bad _ _)
    rw [show ([aeP w.heap.size q2] : List Po).length = 1 from rfl, ae_all] at hL
    obtain ⟨j, rfl, hj⟩ := ep_just hL
    obtain ⟨va, vc, rfl, hjs⟩ := hm.isJs
    rcases hjs.lies with h0 | ⟨bb, off, rfl, hlt, hat⟩
    · cases h0
    have hat0 := hat 0 (by simp)
    have hln := hjs.lns j (List.mem_singleton.2 rfl)
    rw [hj] at hln
    rcases hln.lies with h0 | ⟨lb, lo, hla, hll', hlat⟩
    · cases h0
    have hl1 := (hlat 2 (by simp)).c2
    have hc3 := hat0.c3
    simp only [List.getD_cons_zero, Nat.zero_mul, Nat.add_zero] at hc3
    rw [hj, hla] at hc3
    exact ⟨⟨lb, lo, none⟩, j.cap, ⟨bb, off, none⟩, vc, rfl, hc3, rfl, rfl, by simpa using hl1, hbw1.trans ((b12.mono hbw1.size).trans (z1.mono (Nat.le_trans hbw1.size b12.size)))⟩
  clear hsl hps hbl1 b12 hb1 HF3 HAc
  go_wp2_with fail
  refine HE1.out.mono ?_
  rintro e w3 ⟨⟨lb, lo, ls⟩, lc, ⟨vb, vo, vs⟩, vc, rfl, e1, e2, e3, e4, hb3⟩
  simp only at e1 e2 e3 e4
  subst e2
  subst e3
  have HB3 : Hid (Below w.heap.size w w3) := hb3
  clear HE1 hb3 hbw1
  by_cases c1 : alBad c l b en 5 ≠ 0
  · have HE : Hid (Calls Tryz.prog 4 #[.slice a c.length cap, .slice a2 l.length cap2, .slice a3 b.length cap3, .int .i64 en, .int .i64 5] w3 fun e w' => e = .returned (.tuple #[.slice none 0 0, .iface 53 (.int .i64 (alBad c l b en 5))]) ∧ Below w.heap.size w w') := by
      refine (HEn.out w3 HB3.out).mono ?_
      rintro e w' ⟨z1, z2, _⟩
      exact ⟨by rw [z2 c1, chE_ne c1], HB3.out.trans (z1.mono HB3.out.size)⟩
    generalize alBad c l b en 5 = z at HE
    clear HEn c1
    go_wp2_with fail
    refine HE.out.mono ?_
    rintro e w4 ⟨rfl, hb4⟩
    have HB4 : Hid (Below w.heap.size w w4) := hb4
    clear HE hb4 e1 e4
    have HSt : Hid (Calls _ _ _ _ _) := HSteps.out w4 HB4.out
    by_cases cs : spBad lw am ≠ 0
    · have HS1 : Hid (Calls Tryz.prog 8 #[.slice a4 lw.length cap4, .slice a5 am.length cap5] w4 fun e w' => e = .returned (.tuple #[.slice none 0 0, .iface 53 (.int .i64 (spBad lw am))]) ∧ Below w.heap.size w w') := by
        refine HSt.out.mono ?_
        rintro e w' ⟨z1, z2, _⟩
        exact ⟨by rw [z2 cs, spE_ne cs], (HB4.out).trans (z1.mono (HB4.out).size)⟩
      generalize spBad lw am = z at HS1
      clear HSt HSteps HSum HSum2 cs
      go_wp2_with fail
      refine HS1.out.mono ?_
      rintro e w9 ⟨rfl, hb9⟩
      have HB9 : Hid (Below w.heap.size w w9) := hb9
      clear HS1 hb9
      go_wp2
      go_ret
      exact ⟨rfl, HB9.out⟩
    have cs' := Decidable.of_not_not cs
    have HS1 : Hid (Calls Tryz.prog 8 #[.slice a4 lw.length cap4, .slice a5 am.length cap5] w4 fun e w' => ∃ sa sc, e = .returned (.tuple #[.slice sa am.length sc, .nilIface]) ∧ IsW w' sa (stepL (fun k => (lw.getD k wr0).xs) am am.length) sc ∧ Below w.heap.size w w') := by
      refine HSt.out.mono ?_
      rintro e w' ⟨z1, _, z3⟩
      obtain ⟨sa, sc, rfl, hi⟩ := z3 cs'
      exact ⟨sa, sc, rfl, hi, (HB4.out).trans (z1.mono (HB4.out).size)⟩
    go_wp2_with fail
    refine HS1.out.mono ?_
    rintro e w9 ⟨sa, sc, rfl, hi9, hb9⟩
    have HM1 : Hid (Calls _ _ _ _ _) := HSum.out w9 hb9 cs'
    have HM2 : Hid (Calls _ _ _ _ _) := HSum2.out w9 sa sc hi9 cs'
    have HB9 : Hid (Below w.heap.size w w9) := hb9
    clear HS1 HSt HSteps HSum HSum2 hi9 hb9 cs cs'
    go_wp2_with fail
    refine HM1.out.mono ?_
    rintro e w' ⟨rfl, hw⟩
    rw [hw]; clear hw w' HM1
    go_wp2_with fail
    refine HM2.out.mono ?_
    rintro e w' ⟨rfl, hw⟩
    rw [hw]; clear hw w' HM2
    go_wp2
    go_ret
    exact ⟨rfl, HB9.out⟩
  have c1' := Decidable.of_not_not c1
  have HE : Hid (Calls Tryz.prog 4 #[.slice a c.length cap, .slice a2 l.length cap2, .slice a3 b.length cap3, .int .i64 en, .int .i64 5] w3 fun e w' => ∃ va vc L, e = .returned (.tuple #[.slice va L.length vc, .nilIface]) ∧ IsJs w' va L vc ∧ L.map Je.ep = alTo en 5 b l l.length ∧ Below w.heap.size w w') := by
    refine (HEn.out w3 HB3.out).mono ?_
    rintro e w' ⟨z1, _, z3⟩
    obtain ⟨v, L, rfl, hm, hL⟩ := z3 c1'
    obtain ⟨va, vc, rfl, hjs⟩ := hm.isJs
    exact ⟨va, vc, L, rfl, hjs, hL, HB3.out.trans (z1.mono HB3.out.size)⟩
  have h20 : l.length ≤ 20 := by
    have h1 := c1'
    unfold alBad at h1
    split at h1
    · contradiction
    · rename_i h2
      exact (psBad_ok (Decidable.of_not_not h2)).2.1
  have HBad : Hid (alBad c l b en 5 = 0) := c1'
  clear c1 c1' HEn
  go_wp2_with fail
  refine HE.out.mono ?_
  rintro e w4 ⟨va, vc, L, rfl, hjs, hL, hb4⟩
  have hLl : L.length ≤ 20 := by
    have h1 := congrArg List.length hL
    have h2 := alTo_len en 5 b l l.length
    rw [List.length_map] at h1
    omega
  have HZe : Hid (Calls _ _ _ _ _) := zero_any va vc L w4 (by omega) hjs (all_even HBad.out hL)
  have HLen : Hid (∀ x ∈ L, x.lns.length ≤ 20) := fun x hx => (all_even HBad.out hL x hx).2.1
  have HWr : Hid (∀ i, i < l.length → IntKind.i64.wrap (-(getB b en (l.getD i po0).acc (l.getD i po0).cur)) = -(getB b en (l.getD i po0).acc (l.getD i po0).cur)) := fun i hi => by
    have h1 := al_amt HBad.out i hi
    unfold isAmt at h1
    generalize getB b en (l.getD i po0).acc (l.getD i po0).cur = z at h1
    simp only [IntKind.wrap, IntKind.bits, IntKind.signed]
    simp
    omega
  have HJ4 : Hid (IsJs w4 va L vc) := hjs
  have HLm : Hid (L.map Je.ep = alTo en 5 b l l.length) := hL
  have HB4 : Hid (Below w.heap.size w w4) := hb4
  clear HE hjs hL hb4 e1 e4 HB3 HBad
  go_wp2_with fail
  refine HZe.out.mono ?_
  rintro e w5 ⟨rfl, hb5⟩
  have HB5 : Hid (Below w.heap.size w w5) := HB4.out.trans (hb5.mono HB4.out.size)
  have HJ : Hid (IsJs w5 va L vc) := HJ4.out.below hb5
  clear HZe HJ4 HB4 hb5
  have HP : Hid (IsPs w5 a2 l cap2) := HL.out.below HB5.out
  have HG : Hid (∀ W acc cur, Below w5.heap.size w5 W → ∀ q, Calls Tryz.prog 7 #[.slice a3 b.length cap3, .int .i64 en, .string acc, .string cur] (W.drewN q) fun e w' => e = .returned (.int .i64 (getB b en acc cur)) ∧ w' = W.drewN q) := fun W acc cur hW q => refGet_any a3 cap3 b en acc cur (W.drewN q) HB.out.2 ((HB.out.1.below (HB5.out.trans (hW.mono HB5.out.size))).below ⟨rfl, rfl, rfl, Nat.le_refl _, fun _ _ => rfl⟩)
  obtain ⟨ln, hln⟩ : ∃ ln, L.length = ln := ⟨_, rfl⟩
  have Hln : Hid (L.length = ln) := hln
  rw [hln] at hLl ⊢
  have i3 : (ln : Int) ≤ 20 := by omega
  have i4 : (l.length : Int) ≤ 20 := by omega
  clear hln HL
  go_wp2
  go_loopw [19, 20] (fun kv iv wr => ∃ (i : Nat), i ≤ l.length ∧ iv = .int .i64 i ∧ kv = .int .i64 ((alTo en 5 b l i).length : Nat) ∧ Hid (Below w5.heap.size w5 wr)) (fun _ iv _ => l.length - (RowKit.intOf iv).toNat)
  case atStart => exact ⟨0, Nat.zero_le _, rfl, rfl, Below.refl _ _⟩
  case round =>
    obtain ⟨i, hi, rfl, rfl, HBr⟩ := hrel
    by_cases hil : i < l.length
    · obtain ⟨b2, o2, e, hb2, hpa, hpo⟩ := (HP.out.below HBr.out).at hil
      subst e
      have HGk : Hid (∀ q, Calls Tryz.prog 7 #[.slice a3 b.length cap3, .int .i64 en, .string (l.getD i po0).acc, .string (l.getD i po0).cur] (wr.drewN q) fun e w' => e = .returned (.int .i64 (getB b en (l.getD i po0).acc (l.getD i po0).cur)) ∧ w' = wr.drewN q) := fun q => HG.out wr _ _ HBr.out q
      have HAt : Hid (getB b en (l.getD i po0).acc (l.getD i po0).cur ≠ 0 → (alTo en 5 b l i).length < L.length ∧ (L.getD (alTo en 5 b l i).length je0).lns = goL (l.getD i po0) (getB b en (l.getD i po0).acc (l.getD i po0).cur) ∧ (alTo en 5 b l (i + 1)).length = (alTo en 5 b l i).length + 1) := fun h0 => alTo_at HLm.out hil h0
      have HSk : Hid (getB b en (l.getD i po0).acc (l.getD i po0).cur = 0 → (alTo en 5 b l (i + 1)).length = (alTo en 5 b l i).length) := fun h0 => alTo_skip h0
      have HHd : Hid (getB b en (l.getD i po0).acc (l.getD i po0).cur ≠ 0 → ∃ t, goL (l.getD i po0) (getB b en (l.getD i po0).acc (l.getD i po0).cur) = ⟨(l.getD i po0).acc, (l.getD i po0).cur, -(getB b en (l.getD i po0).acc (l.getD i po0).cur)⟩ :: t ∧ ∀ x ∈ t, memB x.acc (l.getD i po0).tos = true) := fun h0 => goL_head _ h0
      have HIw : Hid (IntKind.i64.wrap (-(getB b en (l.getD i po0).acc (l.getD i po0).cur)) = -(getB b en (l.getD i po0).acc (l.getD i po0).cur)) := HWr.out i hil
      have HPc : Hid (∀ W, Below w5.heap.size w5 W → PoAt W b2 (o2 + i * 4) (l.getD i po0) ∧ PoOk W (l.getD i po0)) := fun W hW => by
        obtain ⟨b2', o2', e', _, z1, z2⟩ := (HP.out.below hW).at hil
        cases e'
        exact ⟨z1, z2⟩
      clear hpa hpo
      generalize getB b en (l.getD i po0).acc (l.getD i po0).cur = n at *
      generalize goL (l.getD i po0) n = gl at *
      generalize l.getD i po0 = p at *
      obtain ⟨⟨d0, d1, d2, d3⟩, _⟩ := HPc.out wr HBr.out
      have j0 : (0 : Int) ≤ i := by omega
      have j1 : (i : Int) < l.length := by omega
      obtain ⟨kk, hkk⟩ : ∃ kk, (alTo en 5 b l i).length = kk := ⟨_, rfl⟩
      rw [hkk] at HAt HSk ⊢
      have hkb : kk ≤ i := by rw [← hkk]; exact alTo_len en 5 b l i
      have j5 : (kk : Int) ≤ 20 := by omega
      clear hkk
      by_cases n0 : n = 0
      · subst n0
        have HN : Hid ((alTo en 5 b l (i + 1)).length = kk) := HSk.out rfl
        clear HSk HAt HHd HPc
        go_wp2
        go_quiet ((go_at_call 7; exact Calls.quiet_of_same (HGk.out _)))
        rename Nat => nq
        have HBq : Hid (Below w5.heap.size w5 (wr.drewN nq)) := HBr.out.trans ⟨rfl, rfl, rfl, Nat.le_refl _, fun _ _ => rfl⟩
        clear HGk
        go_wp2
        go_roundw
        case rel => exact ⟨i + 1, by omega, by go_num, by rw [HN.out], HBq⟩
        case measure => simp [RowKit.intOf]; omega
      obtain ⟨hkL, hlns, hnext⟩ := HAt.out n0
      obtain ⟨t, ht, hmem⟩ := HHd.out n0
      have HNx : Hid ((alTo en 5 b l (i + 1)).length = kk + 1) := hnext
      have HMem : Hid (∀ x ∈ t, memB x.acc p.tos = true) := hmem
      rcases HJ.out.lies with h0 | ⟨jb, jo, hva, hjb, hat⟩
      · rw [h0] at hkL; simp at hkL
      subst hva
      have hlie : IsLn w5 (L.getD kk je0).adr (L.getD kk je0).lns (L.getD kk je0).cap := HJ.out.lns _ (jes_mem L kk hkL)
      have hc3 := (hat kk hkL).c3
      rw [hlns, ht] at hlie hc3
      rcases hlie.lies with h0 | ⟨lb, lo, hla, hlb, hlat⟩
      · cases h0
      rw [hla] at hc3
      have HE3 : Hid (∀ W, Below w5.heap.size w5 W → W.cell? ⟨jb, jo + kk * 4 + 3, none⟩ = some (.slice (some ⟨lb, lo, none⟩) (t.length + 1) (L.getD kk je0).cap)) := fun W hW => (hW.cell (p := ⟨jb, jo + kk * 4 + 3, none⟩) hjb).trans hc3
      have HLn : Hid (∀ W, Below w5.heap.size w5 W → ∀ j, j < t.length + 1 → LnAt W lb (lo + j * 3) (((⟨p.acc, p.cur, -n⟩ : Ln) :: t).getD j ln0)) := fun W hW j hj => (hlat j (by simpa using hj)).below hW hlb
      have HTl : Hid (t.length ≤ 19) := by
        have h1 : L.getD kk je0 ∈ L := jes_mem L kk hkL
        have h2 := HLen.out _ h1
        rw [hlns, ht] at h2
        have : t.length + 1 ≤ 20 := h2
        unfold Hid; omega
      have iw := HIw.out
      rw [Hln.out] at hkL
      generalize (L.getD kk je0).cap = lcp at *
      clear hlie hc3 hlat hla hat hlns ht hmem hnext HAt HHd HSk
      obtain ⟨acc, cur, tA, tC, tos, wA, wC, ws⟩ := p
      simp only at d0 d1 d2 d3 HPc HLn HMem HGk
      have g3 := HE3.out wr HBr.out
      have gl0 := HLn.out wr HBr.out 0 (by omega)
      obtain ⟨u0, u1, u2⟩ := gl0
      simp only [List.getD_cons_zero, Nat.zero_mul, Nat.add_zero] at u0 u1 u2
      have n0' : (n == 0) = false := by rw [beq_eq_false_iff_ne]; exact n0
      have k0 : (0 : Int) ≤ kk := by omega
      have k1 : (kk : Int) < ln := by omega
      have k2 : decide ((ln : Int) ≤ (kk : Int)) = false := decide_eq_false (by omega)
      have k3 : (0 : Int) < (t.length : Int) + 1 := by omega
      have k4 : ¬ (ln : Int) ≤ (kk : Int) := by omega
      go_wp2
      go_quiet ((go_at_call 7; exact Calls.quiet_of_same (HGk.out _)))
      rename Nat => nq1
      go_wp2
      go_quiet (fail)
      rename Nat => nq2
      obtain ⟨wq, hwq⟩ : ∃ wq, (wr.drewN nq1).drewN nq2 = wq := ⟨_, rfl⟩
      have HBq : Hid (Below w5.heap.size w5 wq) := by
        rw [← hwq]
        exact HBr.out.trans (show Below w5.heap.size wr ((wr.drewN nq1).drewN nq2) from ⟨rfl, rfl, rfl, Nat.le_refl _, fun _ _ => rfl⟩)
      rw [hwq]
      clear hwq HGk d0 d1 d2 d3 g3 u0 u1 u2 HBr iw HIw
      obtain ⟨wo, hwo⟩ : ∃ wo, wo = wr := ⟨_, rfl⟩
      subst hwo
      have i9 : (t.length : Int) ≤ 19 := by have := HTl.out; omega
      go_wp2
      go_loopw [22] (fun jv wr => ∃ j : Nat, 1 ≤ j ∧ j ≤ t.length + 1 ∧ jv = .int .i64 j ∧ Hid (Below w5.heap.size w5 wr)) (fun jv _ => t.length + 1 - (RowKit.intOf jv).toNat)
      case atStart => exact ⟨1, by omega, by omega, rfl, HBq⟩
      case round =>
        obtain ⟨j, hj1, hj2, rfl, HBj⟩ := hrel
        have g3 := HE3.out wr HBj.out
        by_cases hjl : j < t.length + 1
        · obtain ⟨m0, rfl⟩ : ∃ m0, j = m0 + 1 := ⟨j - 1, by omega⟩
          have hmt : memB (t.getD m0 ln0).acc tos = true := HMem.out _ (lns_mem t m0 (by omega))
          have HYc : Hid (∀ W, Below w5.heap.size w5 W → W.cell? ⟨lb, lo + (m0 + 1) * 3, none⟩ = some (.string (t.getD m0 ln0).acc)) := fun W hW => by
            have := (HLn.out W hW (m0 + 1) hjl).c0
            rw [List.getD_cons_succ] at this
            exact this
          have HMt : Hid (memB (t.getD m0 ln0).acc tos = true) := hmt
          clear hmt
          generalize (t.getD m0 ln0).acc = y at *
          have q0 : (0 : Int) ≤ (m0 : Int) + 1 := by omega
          have q1 : (m0 : Int) + 1 < (t.length : Int) + 1 := by omega
          have q2 : ((m0 : Int) + 1).toNat = m0 + 1 := by omega
          obtain ⟨wo2, hwo2⟩ : ∃ wo2, wo2 = wr := ⟨_, rfl⟩
          subst hwo2
          go_wp2
          go_loopw [23, 24] (fun iv mv wr => ∃ m : Nat, m ≤ tos.length ∧ mv = .int .i64 m ∧ iv = .bool (memB y (tos.take m)) ∧ Hid (Below w5.heap.size w5 wr)) (fun _ mv _ => tos.length - (RowKit.intOf mv).toNat)
          case atStart => exact ⟨0, Nat.zero_le _, rfl, rfl, HBj⟩
          case round =>
            obtain ⟨m, hm, rfl, rfl, HBm⟩ := hrel
            clear g3
            have g3 := HE3.out wr HBm.out
            obtain ⟨⟨d0, d1, d2, d3⟩, hok⟩ := HPc.out wr HBm.out
            simp only at d0 d1 d2 d3
            have htl : tos.length ≤ 9223372036854775807 := hok.lt
            have htI : (tos.length : Int) ≤ 9223372036854775807 := by omega
            have yc := HYc.out wr HBm.out
            by_cases hml : m < tos.length
            · obtain ⟨tb, tq, e, _, hc⟩ := hok.tx.at (k := m) hml
              simp only at e hc
              subst e
              have hnx : memB y (tos.take (m + 1)) = (memB y (tos.take m) || decide (tos.getD m ByteArray.empty = y)) := by
                have e2 : tos.take (m + 1) = tos.take m ++ [tos.getD m ByteArray.empty] := by
                  rw [List.take_add_one, List.getElem?_eq_getElem hml, List.getD_eq_getElem?_getD, List.getElem?_eq_getElem hml]; rfl
                rw [e2]; unfold memB; rw [List.any_append]; simp
              have HNx2 : Hid (memB y (tos.take (m + 1)) = (memB y (tos.take m) || decide (tos.getD m ByteArray.empty = y))) := hnx
              clear hnx hok
              generalize tos.getD m ByteArray.empty = z at *
              have r0 : (0 : Int) ≤ m := by omega
              have r1 : (m : Int) < tos.length := by omega
              cases hin : memB y (tos.take m)
              · rw [hin] at HNx2
                by_cases hz : z = y
                · subst hz
                  have HN3 : Hid (memB z (tos.take (m + 1)) = true) := by rw [HNx2.out]; unfold Hid; simp
                  clear HNx2
                  go_wp2
                  go_quiet (fail)
                  rename Nat => nq3
                  have HB3' : Hid (Below w5.heap.size w5 (wr.drewN nq3)) := HBm.out.trans (show Below w5.heap.size wr (wr.drewN nq3) from ⟨rfl, rfl, rfl, Nat.le_refl _, fun _ _ => rfl⟩)
                  go_wp2
                  go_roundw
                  case rel => exact ⟨m + 1, by omega, by go_num, by rw [HN3.out], HB3'⟩
                  case measure => simp [RowKit.intOf]; omega
                · have hz' := ch_ne hz
                  have HN3 : Hid (memB y (tos.take (m + 1)) = false) := by rw [HNx2.out]; unfold Hid; simp [hz]
                  clear HNx2
                  go_wp2
                  go_quiet (fail)
                  rename Nat => nq3
                  have HB3' : Hid (Below w5.heap.size w5 (wr.drewN nq3)) := HBm.out.trans (show Below w5.heap.size wr (wr.drewN nq3) from ⟨rfl, rfl, rfl, Nat.le_refl _, fun _ _ => rfl⟩)
                  go_wp2
                  go_roundw
                  case rel => exact ⟨m + 1, by omega, by go_num, by rw [HN3.out], HB3'⟩
                  case measure => simp [RowKit.intOf]; omega
              · rw [hin] at HNx2
                have HN3 : Hid (memB y (tos.take (m + 1)) = true) := by rw [HNx2.out]; unfold Hid; simp
                clear HNx2
                go_wp2
                go_quiet (fail)
                rename Nat => nq3
                have HB3' : Hid (Below w5.heap.size w5 (wr.drewN nq3)) := HBm.out.trans (show Below w5.heap.size wr (wr.drewN nq3) from ⟨rfl, rfl, rfl, Nat.le_refl _, fun _ _ => rfl⟩)
                go_wp2
                go_roundw
                case rel => exact ⟨m + 1, by omega, by go_num, by rw [HN3.out], HB3'⟩
                case measure => simp [RowKit.intOf]; omega
            · have em : m = tos.length := by omega
              subst em
              have htk : memB y (tos.take tos.length) = true := by rw [List.take_length]; exact HMt.out
              rw [htk]
              have r1 : ¬ (tos.length : Int) < tos.length := by omega
              clear htk hok
              go_wp2
              go_roundw
              case rel => exact ⟨m0 + 1 + 1, by omega, by omega, by go_num, HBm⟩
              case measure => simp [RowKit.intOf]; omega
        · have ej : j = t.length + 1 := by omega
          subst ej
          have r1 : ¬ ((t.length : Int) + 1) < (t.length : Int) + 1 := by omega
          go_wp2
          go_roundw
          case rel => exact ⟨i + 1, by omega, by go_num, by rw [HNx.out]; go_num, HBj⟩
          case measure => simp [RowKit.intOf]; omega
    · have ei : i = l.length := by omega
      subst ei
      have hcount : (alTo en 5 b l l.length).length = ln := by rw [← HLm.out, List.length_map]; exact Hln.out
      rw [hcount]
      have HBw : Hid (Below w.heap.size w wr) := HB5.out.trans (HBr.out.mono HB5.out.size)
      have j1 : ¬ (l.length : Int) < l.length := by omega
      clear hcount HG HP HJ HLm HB5 HBr HB
      have HSt : Hid (Calls _ _ _ _ _) := HSteps.out wr HBw.out
      by_cases cs : spBad lw am ≠ 0
      · have HS1 : Hid (Calls Tryz.prog 8 #[.slice a4 lw.length cap4, .slice a5 am.length cap5] wr fun e w' => e = .returned (.tuple #[.slice none 0 0, .iface 53 (.int .i64 (spBad lw am))]) ∧ Below w.heap.size w w') := by
          refine HSt.out.mono ?_
          rintro e w' ⟨z1, z2, _⟩
          exact ⟨by rw [z2 cs, spE_ne cs], (HBw.out).trans (z1.mono (HBw.out).size)⟩
        generalize spBad lw am = z at HS1
        clear HSt HSteps HSum HSum2 cs
        go_wp2_with fail
        refine HS1.out.mono ?_
        rintro e w9 ⟨rfl, hb9⟩
        have HB9 : Hid (Below w.heap.size w w9) := hb9
        clear HS1 hb9
        go_wp2
        go_ret
        exact ⟨rfl, HB9.out⟩
      have cs' := Decidable.of_not_not cs
      have HS1 : Hid (Calls Tryz.prog 8 #[.slice a4 lw.length cap4, .slice a5 am.length cap5] wr fun e w' => ∃ sa sc, e = .returned (.tuple #[.slice sa am.length sc, .nilIface]) ∧ IsW w' sa (stepL (fun k => (lw.getD k wr0).xs) am am.length) sc ∧ Below w.heap.size w w') := by
        refine HSt.out.mono ?_
        rintro e w' ⟨z1, _, z3⟩
        obtain ⟨sa, sc, rfl, hi⟩ := z3 cs'
        exact ⟨sa, sc, rfl, hi, (HBw.out).trans (z1.mono (HBw.out).size)⟩
      go_wp2_with fail
      refine HS1.out.mono ?_
      rintro e w9 ⟨sa, sc, rfl, hi9, hb9⟩
      have HM1 : Hid (Calls _ _ _ _ _) := HSum.out w9 hb9 cs'
      have HM2 : Hid (Calls _ _ _ _ _) := HSum2.out w9 sa sc hi9 cs'
      have HB9 : Hid (Below w.heap.size w w9) := hb9
      clear HS1 HSt HSteps HSum HSum2 hi9 hb9 cs cs'
      go_wp2_with fail
      refine HM1.out.mono ?_
      rintro e w' ⟨rfl, hw⟩
      rw [hw]; clear hw w' HM1
      go_wp2_with fail
      refine HM2.out.mono ?_
      rintro e w' ⟨rfl, hw⟩
      rw [hw]; clear hw w' HM2
      go_wp2
      go_ret
      exact ⟨rfl, HB9.out⟩
end Go.Proofs.YtpkopanigeinpaaGreatDoor

namespace Go.Proofs.YtpkopanigeinpaaGreatDoor
set_option linter.unusedVariables false
set_option linter.unusedSimpArgs false
set_option maxRecDepth 100000
open Go.RowKit Go.Lib Go.Deep

section
variable {H : Type} {enc : TypeId × Value → H} {w : World} {base : Nat} {spare : Nat → Bool} {held : Bool}

theorem ch_string {m : Nat} {c : Value} {y : DataW H × List MemPlace} (h : DataW.trod enc Tryz.prog w base spare held m 9 [c] = some y) : ∃ s, c = .string s ∧ s.size ≤ maxLen := by
  cases m with
  | zero => simp [DataW.trod] at h
  | succ m =>
    rw [DataW.trod_step] at h
    unfold DataW.trodStep at h
    rw [Tryz.underlying9] at h
    cases c <;> simp at h
    exact ⟨_, rfl, h.1⟩

theorem ch_int {m : Nat} {c : Value} {y : DataW H × List MemPlace} (h : DataW.trod enc Tryz.prog w base spare held m 3 [c] = some y) : ∃ n, c = .int .i64 n ∧ (Lit.int .i64 n).wf = true := by
  cases m with
  | zero => simp [DataW.trod] at h
  | succ m =>
    rw [DataW.trod_step] at h
    unfold DataW.trodStep at h
    rw [Tryz.underlying3] at h
    cases c <;> simp at h
    rename_i k n
    obtain ⟨⟨rfl, h2⟩, _⟩ := h
    exact ⟨n, rfl, h2⟩

theorem ch_bool {m : Nat} {c : Value} {y : DataW H × List MemPlace} (h : DataW.trod enc Tryz.prog w base spare held m 4 [c] = some y) : ∃ n, c = .bool n := by
  cases m with
  | zero => simp [DataW.trod] at h
  | succ m =>
    rw [DataW.trod_step] at h
    unfold DataW.trodStep at h
    rw [Tryz.underlying4] at h
    cases c <;> simp at h
    exact ⟨_, rfl⟩

/-- What is asked of an account that came in. -/
def AcOk (a : Ac) : Prop := a.code.size ≤ maxLen ∧ a.name.size ≤ maxLen ∧ (Lit.int .i64 a.kind).wf = true ∧ a.par.size ≤ maxLen

theorem acct_cells : Tryz.prog.cellsOf 58 = 5 := by kernel_rfl
theorem acct_str : Tryz.prog.cellsOf 9 = 1 := by kernel_rfl
theorem acct_int : Tryz.prog.cellsOf 3 = 1 := by kernel_rfl
theorem acct_bool : Tryz.prog.cellsOf 4 = 1 := by kernel_rfl

theorem open_acct {m : Nat} {cs : List Value} {x : DataW H × List MemPlace} (h : DataW.trod enc Tryz.prog w base spare held m 58 cs = some x) : ∃ a : Ac, cs = a.cells.toList ∧ AcOk a := by
  cases m with
  | zero => simp [DataW.trod] at h
  | succ m =>
    rw [DataW.trod_step] at h
    unfold DataW.trodStep at h
    rw [Tryz.underlying58] at h
    simp only [acct_cells] at h
    split at h
    · rename_i hl
      match cs, hl with
      | [c0, c1, c2, c3, c4], _ =>
        simp [acct_str, acct_int, acct_bool] at h
        cases h0 : DataW.trod enc Tryz.prog w base spare held m 9 [c0]
        · simp [h0] at h
        cases h1 : DataW.trod enc Tryz.prog w base spare held m 9 [c1]
        · simp [h0, h1] at h
        cases h2 : DataW.trod enc Tryz.prog w base spare held m 3 [c2]
        · simp [h0, h1, h2] at h
        cases h3 : DataW.trod enc Tryz.prog w base spare held m 9 [c3]
        · simp [h0, h1, h2, h3] at h
        cases h4 : DataW.trod enc Tryz.prog w base spare held m 4 [c4]
        · simp [h0, h1, h2, h3, h4] at h
        obtain ⟨f, rfl, hf⟩ := ch_string h0
        obtain ⟨t, rfl, ht⟩ := ch_string h1
        obtain ⟨p, rfl, hp⟩ := ch_int h2
        obtain ⟨n, rfl, hn⟩ := ch_string h3
        obtain ⟨d, rfl⟩ := ch_bool h4
        exact ⟨⟨f, t, p, n, d⟩, rfl, hf, ht, hp, hn⟩
    · cases h

theorem ac_cells (w : World) (b off : Nat) (a : Ac) (h : ∀ i, i < 5 → w.cell? ⟨b, off + i, none⟩ = a.cells.toList[i]?) : AcAt w b off a :=
  ⟨h 0 (by omega), h 1 (by omega), h 2 (by omega), h 3 (by omega), h 4 (by omega)⟩

theorem ch_add (b off n : Nat) : (⟨b, off, none⟩ : Addr).add n = ⟨b, off + n, none⟩ := by
  unfold Addr.add
  split
  · rename_i h; subst h; rfl
  · rfl

/-- A chart that came in. -/
theorem acs_of_trod {W : World} {a : Option Addr} {len cap fuel : Nat} {x : DataW H × List MemPlace} (h : DataW.trod enc Tryz.prog W 0 (fun _ => true) true fuel 22 [.slice a len cap] = some x) :
    ∃ l : List Ac, l.length = len ∧ (∀ k, k < l.length → AcOk (l.getD k ac0)) ∧ IsSl W a l cap := by
  rcases open_slice Tryz.underlying22 h with ⟨hcs, _⟩ | ⟨x, l, c, m, n, D, Pl, hcs, _, hl, hm, hmm, _, hx⟩
  · simp at hcs
    obtain ⟨rfl, rfl, rfl⟩ := hcs
    exact ⟨[], rfl, by simp, ⟨by simp, .inl rfl⟩⟩
  · simp at hcs
    obtain ⟨rfl, rfl, rfl⟩ := hcs
    have hmm2 : m = cap := hmm
    rw [acct_cells] at hx
    have hr : ∀ i, i < len → ∃ r : Ac, (∀ j, j < 5 → W.cell? ((x.add (i * 5)).add j) = r.cells.toList[j]?) ∧ AcOk r := fun i hi => by
      obtain ⟨cs', h1, h2⟩ := hx i (by omega)
      obtain ⟨r, rfl, ok⟩ := open_acct h2
      exact ⟨r, (World.cells?_some h1).2.2, ok⟩
    obtain ⟨f, hf⟩ := @choose_lt Ac ⟨ac0⟩ _ _ hr
    have hget : ∀ k, k < len → ((List.range len).map f).getD k ac0 = f k := fun k hk => by simp [List.getD, hk]
    have hlen : ((List.range len).map f).length = len := by simp
    refine ⟨(List.range len).map f, hlen, fun k hk => ?_, ⟨by rw [hlen]; exact hl, ?_⟩⟩
    · rw [hlen] at hk
      rw [hget k hk]
      exact (hf k hk).2
    · by_cases h0 : len = 0
      · subst h0
        exact .inl rfl
      · right
        obtain ⟨b, off, spot⟩ := x
        have hc : W.cell? ⟨b, off, spot⟩ = some (.string (f 0).code) := (hf 0 (by omega)).1 0 (by omega)
        have hspot : spot = none := World.cell?_spot hc
        subst hspot
        have hlt : b < W.heap.size := World.block_lt_of_cell? _ _ hc
        refine ⟨b, off, rfl, hlt, fun k hk => ?_⟩
        rw [hlen] at hk
        rw [hget k hk]
        refine ac_cells W b (off + k * 5) (f k) (fun i hi => ?_)
        have := (hf k hk).1 i hi
        rw [ch_add, ch_add] at this
        exact this
end
end Go.Proofs.YtpkopanigeinpaaGreatDoor

namespace Go.Proofs.YtpkopanigeinpaaGreatDoor
set_option linter.unusedVariables false
set_option linter.unusedSimpArgs false
set_option maxRecDepth 100000
open Go.RowKit Go.Lib
theorem ldP_str : Tryz.prog.cellsOf 9 = 1 := by kernel_rfl
theorem ldP_int : Tryz.prog.cellsOf 3 = 1 := by kernel_rfl
/-- A place as it can be in memory. -/
structure PkOk (k : Pk) : Prop where
  ent : -9223372036854775808 ≤ k.1 ∧ k.1 ≤ 9223372036854775807
  acc : k.2.1.size ≤ maxLen
  cur : k.2.2.size ≤ maxLen
/-- A balance as it can be in memory. -/
structure BlOk (x : Bl) : Prop where
  key : PkOk x.key
  amt : -9223372036854775808 ≤ x.amt ∧ x.amt ≤ 9223372036854775807
end Go.Proofs.YtpkopanigeinpaaGreatDoor

namespace Go.Proofs.YtpkopanigeinpaaGreatDoor
set_option linter.unusedVariables false
set_option linter.unusedSimpArgs false
set_option maxRecDepth 100000
open Go.RowKit Go.Lib

theorem ld_add (b off i : Nat) : (⟨b, off, none⟩ : Addr).add i = ⟨b, off + i, none⟩ := by
  rcases Nat.eq_zero_or_pos i with h | h
  · subst h; simp [Addr.add]
  · simp [Addr.add]; omega
theorem ld_wf {n : Int} (h : (Lit.int .i64 n).wf = true) : -9223372036854775808 ≤ n ∧ n ≤ 9223372036854775807 := by
  simp [Lit.wf, IntKind.min, IntKind.max, IntKind.bits, IntKind.signed] at h
  omega
section
variable {H : Type} {enc : TypeId × Value → H}
theorem ld_cell_string {w : World} {base : Nat} {spare : Nat → Bool} {held : Bool} {m : Nat} {c : Value} {y : DataW H × List MemPlace} (h : DataW.trod enc Tryz.prog w base spare held m 9 [c] = some y) : ∃ s, c = .string s ∧ s.size ≤ maxLen := by
  cases m with
  | zero => simp [DataW.trod] at h
  | succ m =>
    rw [DataW.trod_step] at h
    unfold DataW.trodStep at h
    rw [Tryz.underlying9] at h
    cases c <;> simp at h
    exact ⟨_, rfl, h.1⟩

theorem ld_cell_int {w : World} {base : Nat} {spare : Nat → Bool} {held : Bool} {m : Nat} {c : Value} {y : DataW H × List MemPlace} (h : DataW.trod enc Tryz.prog w base spare held m 3 [c] = some y) : ∃ n, c = .int .i64 n ∧ (Lit.int .i64 n).wf = true := by
  cases m with
  | zero => simp [DataW.trod] at h
  | succ m =>
    rw [DataW.trod_step] at h
    unfold DataW.trodStep at h
    rw [Tryz.underlying3] at h
    cases c <;> simp at h
    rename_i k n
    obtain ⟨⟨rfl, h2⟩, _⟩ := h
    exact ⟨n, rfl, h2⟩

theorem ld_bal_cells : Tryz.prog.cellsOf 37 = 4 := by kernel_rfl
theorem ld_open_bal {w : World} {base : Nat} {spare : Nat → Bool} {held : Bool} {m : Nat} {cs : List Value} {x : DataW H × List MemPlace} (h : DataW.trod enc Tryz.prog w base spare held m 37 cs = some x) : ∃ a : Bl, cs = a.cells.toList ∧ BlOk a := by
  cases m with
  | zero => simp [DataW.trod] at h
  | succ m =>
    rw [DataW.trod_step] at h
    unfold DataW.trodStep at h
    rw [Tryz.underlying37] at h
    simp only [ld_bal_cells] at h
    split at h
    · rename_i hl
      match cs, hl with
      | [c0, c1, c2, c3], _ =>
        simp [ldP_str, ldP_int] at h
        cases h0 : DataW.trod enc Tryz.prog w base spare held m 3 [c0]
        · simp [h0] at h
        cases h1 : DataW.trod enc Tryz.prog w base spare held m 9 [c1]
        · simp [h0, h1] at h
        cases h2 : DataW.trod enc Tryz.prog w base spare held m 9 [c2]
        · simp [h0, h1, h2] at h
        cases h3 : DataW.trod enc Tryz.prog w base spare held m 3 [c3]
        · simp [h0, h1, h2, h3] at h
        obtain ⟨f, rfl, hf⟩ := ld_cell_int h0
        obtain ⟨s, rfl, hs⟩ := ld_cell_string h1
        obtain ⟨t, rfl, ht⟩ := ld_cell_string h2
        obtain ⟨p, rfl, hp⟩ := ld_cell_int h3
        exact ⟨⟨f, s, t, p⟩, rfl, ⟨ld_wf hf, hs, ht⟩, ld_wf hp⟩
    · cases h

/-- Balances that came in. -/
theorem ld_bls_of_trod {W : World} {a : Option Addr} {len cap fuel : Nat} {x : DataW H × List MemPlace} (h : DataW.trod enc Tryz.prog W 0 (fun _ => true) true fuel 24 [.slice a len cap] = some x) :
    ∃ l : List Bl, l.length = len ∧ IsBl W a l cap ∧ (∀ x ∈ l, BlOk x) ∧ len ≤ maxLen := by
  rcases Go.Deep.open_slice Tryz.underlying24 h with ⟨hcs, _⟩ | ⟨x, l, c, m, n, D, Pl, hcs, _, hl, hm, hmm, _, hx⟩
  · simp at hcs
    obtain ⟨rfl, rfl, rfl⟩ := hcs
    exact ⟨[], rfl, ⟨by simp, .inl rfl⟩, by simp, by unfold maxLen; omega⟩
  · simp at hcs
    obtain ⟨rfl, rfl, rfl⟩ := hcs
    have hmm2 : m = cap := hmm
    rw [ld_bal_cells] at hx
    have hr : ∀ i, i < len → ∃ r : Bl, (∀ j, j < 4 → W.cell? ((x.add (i * 4)).add j) = r.cells.toList[j]?) ∧ BlOk r := fun i hi => by
      obtain ⟨cs', h1, h2⟩ := hx i (by omega)
      obtain ⟨r, rfl, hw⟩ := ld_open_bal h2
      exact ⟨r, (World.cells?_some h1).2.2, hw⟩
    obtain ⟨f, hf⟩ := @Go.Deep.choose_lt Bl ⟨bl0⟩ _ _ hr
    have hget : ∀ k, k < len → ((List.range len).map f).getD k bl0 = f k := fun k hk => by simp [List.getD, hk]
    have hlen : ((List.range len).map f).length = len := by simp
    refine ⟨(List.range len).map f, hlen, ⟨by rw [hlen]; exact hl, ?_⟩, ?_, Nat.le_trans hl hm⟩
    · by_cases h0 : len = 0
      · subst h0
        exact .inl rfl
      · right
        obtain ⟨b, off, spot⟩ := x
        have hc : W.cell? ⟨b, off, spot⟩ = some (.int .i64 (f 0).ent) := (hf 0 (by omega)).1 0 (by omega)
        have hspot : spot = none := World.cell?_spot hc
        subst hspot
        have hlt : b < W.heap.size := World.block_lt_of_cell? _ _ hc
        refine ⟨b, off, rfl, hlt, fun k hk => ?_⟩
        rw [hlen] at hk
        rw [hget k hk]
        have C : ∀ i, i < 4 → W.cell? ⟨b, off + k * 4 + i, none⟩ = (f k).cells.toList[i]? := fun i hi => by
          have := (hf k hk).1 i hi
          rw [ld_add, ld_add] at this
          exact this
        exact ⟨C 0 (by omega), C 1 (by omega), C 2 (by omega), C 3 (by omega)⟩
    · intro y hy
      obtain ⟨k, hk, rfl⟩ := List.mem_map.1 hy
      exact (hf k (List.mem_range.1 hk)).2

end

end Go.Proofs.YtpkopanigeinpaaGreatDoor
