/-
  daylaw5.FrameRow, walked.
-/
import Derived.Test.YtbnoedndbehghaaFrE
import Derived.Deep.RegionHeld3
namespace Go.Proofs.Ytbnoedndbehghaa
set_option linter.unusedVariables false
set_option linter.unusedSimpArgs false
set_option maxRecDepth 100000
open Go.RowKit Go.Lib

def en0 : En := ⟨ByteArray.empty, 0, 0, []⟩
/-- An entry as it lies in memory. -/
structure EnAt (W : World) (b off : Nat) (e : En) : Prop where
  c0 : W.cell? ⟨b, off, none⟩ = some (.string e.ref)
  c1 : W.cell? ⟨b, off + 1, none⟩ = some (.int .i64 e.ent)
  c2 : W.cell? ⟨b, off + 2, none⟩ = some (.int .i64 e.per)
  c3 : ∃ a cap, W.cell? ⟨b, off + 3, none⟩ = some (.slice a e.lns.length cap) ∧ IsLn W a e.lns cap
  ok : I64 e.ent ∧ I64 e.per ∧ ∀ x ∈ e.lns, I64 x.amt
theorem EnAt.below {W W' : World} {b off : Nat} {e : En} (h : EnAt W b off e) (hb : Below W.heap.size W W') (hlt : b < W.heap.size) : EnAt W' b off e := by
  obtain ⟨a, cap, c3, hl⟩ := h.c3
  exact ⟨(hb.cell (p := ⟨b, off, none⟩) hlt).trans h.c0, (hb.cell (p := ⟨b, off + 1, none⟩) hlt).trans h.c1, (hb.cell (p := ⟨b, off + 2, none⟩) hlt).trans h.c2, ⟨a, cap, (hb.cell (p := ⟨b, off + 3, none⟩) hlt).trans c3, hl.below hb⟩, h.ok⟩
/-- A slice of entries. -/
structure IsEns (W : World) (a : Option Addr) (L : List En) (cap : Nat) : Prop where
  cap : L.length ≤ cap
  lies : L = [] ∨ ∃ b off, a = some ⟨b, off, none⟩ ∧ b < W.heap.size ∧ ∀ k, k < L.length → EnAt W b (off + k * 4) (L.getD k en0)
theorem ens_take (l : List En) (k : Nat) (h : k < l.length) : l.take (k + 1) = l.take k ++ [l.getD k en0] := by
  rw [List.take_add_one, List.getElem?_eq_getElem h, List.getD_eq_getElem?_getD, List.getElem?_eq_getElem h]
  rfl
/-- Entries, one behind the other. -/
def rowB (l : List En) : List UInt8 := l.flatMap entB
theorem rowB_snoc (l : List En) (k : Nat) (h : k < l.length) : rowB (l.take (k + 1)) = rowB (l.take k) ++ entB (l.getD k en0) := by
  rw [ens_take l k h]; simp [rowB]
theorem rowB_length (l : List En) : ∀ k, k ≤ l.length → (∀ j, j < k → EnFit (l.getD j en0)) → (rowB (l.take k)).length ≤ k * 1634
  | 0, _, _ => by simp [rowB]
  | k + 1, h, hf => by
    rw [rowB_snoc l k (by omega), List.length_append]
    have := rowB_length l k (by omega) (fun j hj => hf j (by omega))
    have := ebLen (hf k (by omega))
    omega
theorem rowB_split (l : List En) (j k : Nat) (hj : j < k) (hk : k ≤ l.length) : ∃ r, rowB (l.take k) = rowB (l.take j) ++ (entB (l.getD j en0) ++ r) := by
  have e : l.take k = l.take (j + 1) ++ (l.drop (j + 1)).take (k - (j + 1)) := by
    rw [← List.take_add, show j + 1 + (k - (j + 1)) = k by omega]
  refine ⟨rowB ((l.drop (j + 1)).take (k - (j + 1))), ?_⟩
  rw [e]
  unfold rowB
  rw [List.flatMap_append]
  have := rowB_snoc l j (by omega)
  unfold rowB at this
  rw [this, List.append_assoc]
theorem rowB_drop (l : List En) (j k : Nat) (hj : j < k) (hk : k ≤ l.length) : ∃ r, (rowB (l.take k)).drop (rowB (l.take j)).length = entB (l.getD j en0) ++ r ∧ (rowB (l.take j)).length ≤ (rowB (l.take k)).length := by
  obtain ⟨r, h⟩ := rowB_split l j k hj hk
  refine ⟨r, ?_, ?_⟩
  · rw [h, List.drop_left]
  · rw [h, List.length_append]; omega
theorem by_src {W : World} {b off : Nat} {l : List UInt8} (h : ∀ k (hk : k < l.length), W.cell? ⟨b, off + k, none⟩ = some (.int .u8 (l[k]'hk).toNat)) : ∀ j u, (byC l)[j]? = some u → W.cell? ((⟨b, off, none⟩ : Addr).add j) = some u := by
  intro j u hj
  rw [by_add]
  have hlt := (List.getElem?_eq_some_iff.1 hj).1
  rw [byC_length] at hlt
  rw [h j hlt, ← byC_get l j hlt, hj]

/-- The entry of the law's own. -/
def eOne : En := ⟨⟨#[97]⟩, 1, 1, [⟨⟨#[49, 48]⟩, ⟨#[69, 85, 82]⟩, 5⟩, ⟨⟨#[50, 48]⟩, ⟨#[69, 85, 82]⟩, -5⟩]⟩
theorem eOne_fit : EnFit eOne := by
  refine ⟨by decide, by decide, by decide, by decide, ?_⟩
  intro x hx
  simp [eOne] at hx
  rcases hx with rfl | rfl
  · exact ⟨by decide, by decide, by decide, by decide⟩
  · exact ⟨by decide, by decide, by decide, by decide⟩

theorem pair_new (W : World) (x0 x1 : ByteArray) (x2 : Int) (y0 y1 : ByteArray) (y2 : Int) (b : Nat) (hb : b = W.heap.size) :
    IsLn (W.alloc (.cells #[.string x0, .string x1, .int .i64 x2, .string y0, .string y1, .int .i64 y2] 42)) (some ⟨b, 0, none⟩) [⟨x0, x1, x2⟩, ⟨y0, y1, y2⟩] 2 := by
  subst hb
  have h := new_heap W (.cells #[.string x0, .string x1, .int .i64 x2, .string y0, .string y1, .int .i64 y2] 42)
  generalize W.alloc (.cells #[.string x0, .string x1, .int .i64 x2, .string y0, .string y1, .int .i64 y2] 42) = V at *
  generalize W.heap.size = b at *
  refine ⟨Nat.le_refl _, .inr ⟨b, 0, rfl, (Array.getElem?_eq_some_iff.1 h).1, fun k hk => ?_⟩⟩
  rcases (by simp at hk; omega : k = 0 ∨ k = 1) with rfl | rfl
  · exact ⟨by simp [World.cell?, h], by simp [World.cell?, h], by simp [World.cell?, h]⟩
  · exact ⟨by simp [World.cell?, h], by simp [World.cell?, h], by simp [World.cell?, h]⟩

theorem two_any (ref : ByteArray) (en pe : Int) (to fr : ByteArray) (n : Int) (w : World) (hn : IntKind.i64.wrap (-n) = -n) :
    Calls Try.prog 5 #[.string ref, .int .i64 en, .int .i64 pe, .string to, .string fr, .int .i64 n] w fun e w' => ∃ a cap, e = .returned (.agg #[.string ref, .int .i64 en, .int .i64 pe, .slice a 2 cap]) ∧ IsLn w' a [⟨to, ⟨#[69, 85, 82]⟩, n⟩, ⟨fr, ⟨#[69, 85, 82]⟩, -n⟩] cap ∧ Below w.heap.size w w' := by
  go_enter Try.func5, Try.ntmps5
  go_wp2
  have d0 : ((w.alloc (.cells #[.string ref, .int .i64 en, .int .i64 pe, .slice (some ⟨w.heap.size + 1, 0, none⟩) 2 2] 30)).alloc (.cells #[.string to, .string ⟨#[69, 85, 82]⟩, .int .i64 n, .string fr, .string ⟨#[69, 85, 82]⟩, .int .i64 (-n)] 42)).heap[w.heap.size]? = some (.cells #[.string ref, .int .i64 en, .int .i64 pe, .slice (some ⟨w.heap.size + 1, 0, none⟩) 2 2] 30 (0, 0)) := ((World.grownBy_alloc _ _ none).block w.heap.size (by simp) (by simp)).trans (new_heap w _)
  have b4 : Box4 _ _ _ _ _ _ := d0
  have q0 := b4.c0
  have q1 := b4.c1
  have q2 := b4.c2
  have q3 := b4.c3
  exact bodyPost_ret (v := .agg #[.string ref, .int .i64 en, .int .i64 pe, .slice (some ⟨w.heap.size + 1, 0, none⟩) 2 2]) (by simp [results, Try.results5, go_sem, q0, q1, q2, q3]) rfl ⟨_, _, rfl, pair_new _ _ _ _ _ _ _ _ (by simp), ((Below.refl _ w).alloc (Nat.le_refl _) _).alloc (by simp) _⟩

set_option maxHeartbeats 8000000 in
theorem row_walk (a : Option Addr) (cap : Nat) (L : List En) (w : World) (hlen : L.length ≤ maxLen) (h : IsEns w a L cap) :
    Calls Try.prog 3 #[.slice a L.length cap] w fun e w' => e = .returned (.bool true) ∧ Below w.heap.size w w' := by
  have HL : Hid (IsEns w a L cap) := h
  have hlen' : (L.length : Int) ≤ 9223372036854775807 := by unfold maxLen at hlen; omega
  clear h
  have HT : Hid (Calls _ _ _ _ _) := two_any ⟨#[97]⟩ 1 1 ⟨#[49, 48]⟩ ⟨#[50, 48]⟩ 5 w (by decide)
  have he1 : 1 ≤ (entB eOne).length := entB_pos _
  have he2 := ebLen eOne_fit
  have he3 : ((entB eOne).length : Int) ≤ 1634 := by omega
  obtain ⟨i0, hi, hz0, hz1, hz2⟩ := info_parts by_info
  go_enter Try.func3, Try.ntmps3
  go_wp2_with fail
  refine HT.out.mono ?_
  rintro e w1 ⟨a1, c1, rfl, l1, b1⟩
  have HE : Hid (Calls _ _ _ _ _) := fEntry_any ⟨#[97]⟩ 1 1 a1 c1 _ w1 (by unfold I64; omega) (by unfold I64; omega) (fun x hx => by simp at hx; rcases hx with rfl | rfl <;> (unfold I64; simp)) l1
  clear HT l1
  go_wp2_with fail
  refine HE.out.mono ?_
  rintro e w2 ⟨⟨hbad, _⟩ | ⟨h0, v2, rfl, r2⟩, b2⟩
  · exact absurd (entBad_zero.2 eOne_fit) hbad
  have r2 : ByRow w2 w1.heap.size v2 (entB eOne) := r2
  obtain ⟨a2, c2, e2, by2⟩ := r2.isBy
  subst e2
  have HR : Hid (Calls _ _ _ _ _) := reads_some (x := eOne) (r := []) a2 c2 (entB eOne) w2 (by omega) by2 (by have := rdE_enc [] eOne_fit; rw [List.append_nil] at this; exact this)
  have B2 := b1.trans (b2.mono b1.size)
  clear HE h0 r2 by2 b1 b2
  go_wp2_with fail
  refine HR.out.mono ?_
  rintro e w3 ⟨v3, rfl, r3, b3⟩
  obtain ⟨a3, c3, e3, _⟩ := r3.isLn
  subst e3
  have B3 := B2.trans (b3.mono B2.size)
  clear HR r3 b3 B2
  generalize (entB eOne).length = m1 at *
  simp only [eOne]
  obtain ⟨W4, hW4⟩ : ∃ W4, w3.alloc (.cells #[.string ⟨#[97]⟩, .int .i64 1, .int .i64 1, .slice a3 2 c3] 30) = W4 := ⟨_, rfl⟩
  have B4 : Below w.heap.size w W4 := by rw [← hW4]; exact B3.alloc B3.size _
  have HW4 : Hid (_ = W4) := hW4
  have HB4 : Hid (Below w.heap.size w W4) := B4
  clear hW4 B4 B3
  go_wp2
  simp only [List.length_cons, List.length_nil, Nat.zero_add, Nat.reduceAdd]
  rw [HW4.out]
  clear HW4
  go_loopw [8, 9, 10, 11] (fun bv i _ _ wr => ∃ k : Nat, k ≤ L.length ∧ k ≤ 30 ∧ i = .int .i64 k ∧ Hid (∀ j, j < k → EnFit (L.getD j en0)) ∧ Hid (ByRow wr W4.heap.size bv (rowB (L.take k))) ∧ Below W4.heap.size W4 wr) (fun _ i _ _ _ => 30 - (intOf i).toNat)
  case atStart => exact ⟨0, Nat.zero_le _, Nat.zero_le _, rfl, fun j hj => absurd hj (by omega), ByRow.nil _ _, Below.refl _ _⟩
  case round =>
    obtain ⟨k, hk1, hk30, rfl, Hfit, R, BW⟩ := hrel
    have Bw : Below w.heap.size w wr := HB4.out.trans (BW.mono HB4.out.size)
    by_cases hlt : k < L.length
    · by_cases h30 : k < 30
      · rcases HL.out.lies with h0 | ⟨gb, go, rfl, hgb, hgc⟩
        · rw [h0] at hlt; simp at hlt
        have hen := (hgc k hlt).below Bw hgb
        have hrl := rowB_length L k hk1 Hfit.out
        have hnext := rowB_snoc L k hlt
        have HF1 : Hid (EnFit (L.getD k en0) → ∀ j, j < k + 1 → EnFit (L.getD j en0)) := fun hf j hj => by
          rcases (by omega : j < k ∨ j = k) with h | rfl
          · exact Hfit.out j h
          · exact hf
        generalize L.getD k en0 = x at *
        generalize rowB (L.take k) = bs at *
        have Hnx : Hid (_ = bs ++ entB x) := hnext
        obtain ⟨x0, x1, x2, x3⟩ := x
        obtain ⟨d0, d1, d2, ⟨al, cl, d3, hls⟩, hok⟩ := hen
        simp only at d0 d1 d2 d3 hls hok
        have HE : Hid (Calls _ _ _ _ _) := fEntry_any x0 x1 x2 al cl x3 wr hok.1 hok.2.1 hok.2.2 hls
        have q0 : (0 : Int) ≤ k := by omega
        have q1 : (k : Int) < L.length := by omega
        have q2 : (k : Int) < 30 := by omega
        clear hgc hnext hls hok
        go_wp2_with fail
        refine HE.out.mono ?_
        rintro e u ⟨⟨hbad, rfl⟩ | ⟨h0, v, rfl, rv⟩, bu⟩
        · rw [enE_ne hbad]
          have BR := Bw.trans (bu.mono Bw.size)
          generalize entBad ⟨x0, x1, x2, x3⟩ = bad at *
          clear HE bu R BW Bw
          go_wp2
          go_ret
          exact ⟨rfl, BR⟩
        · have hf := entBad_zero.1 h0
          obtain ⟨av, cv, ev, hby⟩ := rv.isBy
          subst ev
          have hpos := entB_pos ⟨x0, x1, x2, x3⟩
          have hmax := ebLen hf
          rcases hby.lies with h00 | ⟨gs, os, rfl, hgs, hcs⟩
          · rw [h00] at hpos; simp at hpos
          have hsrc := by_src hcs
          have hR1 : ByRow u W4.heap.size _ bs := R.out.below bu
          have hRo := hR1.own
          have hzz := bu.size
          have hzz2 := BW.size
          have Hm1 : Hid (bs.length + (entB ⟨x0, x1, x2, x3⟩).length ≤ maxLen) := by unfold Hid maxLen; omega
          have Hm2 : Hid ((bs.length + (entB ⟨x0, x1, x2, x3⟩).length) * 1 ≤ 140737488355328) := by unfold Hid; omega
          have HR1 : Hid (ByRow u W4.heap.size _ bs) := hR1
          have Hsrc : Hid (∀ j w', (byC (entB ⟨x0, x1, x2, x3⟩))[j]? = some w' → u.cell? ((⟨gs, os, none⟩ : Addr).add j) = some w') := hsrc
          have HFN : Hid (∀ j, j < k + 1 → EnFit (L.getD j en0)) := HF1.out hf
          clear HE rv hcs hsrc hR1 R HF1 hby h0 hf d0 d1 d2 d3
          go_wp2_with (at_builtin; refine wpList_append_own _ rfl _ _ 23 rfl W4.heap.size 5 i0 (.int .u8 0) 1 1 Try.underlying23 hi hz0 hz1 hz2 rfl (by decide) _ _ _ rfl HR1.out ⟨gs, os, none⟩ _ _ (byC (entB ⟨x0, x1, x2, x3⟩)) rfl (by rw [byC_length, Nat.mul_one]) Hsrc.out (byC_one _) Hm1.out Hm2.out (by omega) ?_)
          intro v' w3' hown hgrow _
          have HN : Hid (ByRow w3' W4.heap.size v' (rowB (L.take (k + 1)))) := by
            unfold Hid
            rw [Hnx.out]
            unfold ByRow
            rw [byC_append, List.length_append]
            exact hown
          have BN : Below W4.heap.size W4 w3' := (BW.trans (bu.mono BW.size)).grown hgrow (by omega) (fun j e => hRo j e)
          clear hown hgrow Hsrc HR1
          go_wp2
          go_roundw
          case rel => exact ⟨k + 1, by omega, by omega, by go_num, HFN, HN, BN⟩
          case measure => simp [intOf]; omega
      · have hk2 : 30 ≤ k := by omega
        have hkI : ((k : Int) < L.length) := by omega
        have hkI3 : ¬ ((k : Int) < 30) := by omega
        obtain ⟨wE, hwE⟩ : ∃ wE, wE = wr := ⟨_, rfl⟩
        subst hwE
        have hallk : (rowB (L.take k)).length ≤ 49020 := by
          have := rowB_length L k hk1 Hfit.out
          omega
        obtain ⟨all, hall⟩ : ∃ all, rowB (L.take k) = all := ⟨_, rfl⟩
        have Hall : Hid (rowB (L.take k) = all) := hall
        rw [hall] at R hallk
        clear hall
        obtain ⟨ab, cb, ev, hby⟩ := R.out.isBy
        subst ev
        have Hby : Hid (IsBy wE ab all cb) := hby
        have Hwr : Hid (Below w.heap.size w wE) := Bw
        have hallk' : (all.length : Int) ≤ 49020 := by omega
        clear R hby Bw
        go_wp2
        go_loopw [12, 13, 14, 15, 16, 17] (fun pp i _ _ _ _ wr => ∃ j : Nat, j ≤ k ∧ i = .int .i64 j ∧ pp = .int .i64 ((rowB (L.take j)).length : Nat) ∧ Below wE.heap.size wE wr) (fun _ i _ _ _ _ _ => k - (intOf i).toNat)
        case atStart => exact ⟨0, Nat.zero_le _, rfl, rfl, Below.refl _ _⟩
        case round =>
          obtain ⟨j, hj, rfl, rfl, BQ⟩ := hrel
          have Bq : Below w.heap.size w wr := Hwr.out.trans (BQ.mono Hwr.out.size)
          by_cases hjk : j < k
          · rcases HL.out.lies with h0 | ⟨gb, go, rfl, hgb, hgc⟩
            · rw [h0] at hk1; simp at hk1; omega
            obtain ⟨rest, hdrop, hle⟩ := rowB_drop L j k hjk hk1
            rw [Hall.out] at hdrop hle
            have hfj := Hfit.out j hjk
            have hen := (hgc j (by omega)).below Bq hgb
            have hjL : j < L.length := by omega
            have hnext := rowB_snoc L j hjL
            have heb := ebLen hfj
            have hep := entB_pos (L.getD j en0)
            have hl20 := hfj.2.2.2.1
            generalize L.getD j en0 = x at *
            obtain ⟨pos, hpos⟩ : ∃ pos, (rowB (L.take j)).length = pos := ⟨_, rfl⟩
            rw [hpos] at hdrop hle
            have hnx : (rowB (L.take (j + 1))).length = pos + (entB x).length := by rw [hnext, List.length_append, hpos]
            have Hnx : Hid (_ = _) := hnx
            obtain ⟨a', c', hD, hB'⟩ := run_byDrop (Hby.out.below BQ).isBN pos hle
            have hR := reads_some (x := x) (r := rest) a' c' _ wr (by rw [List.length_drop]; omega) (hB'.isBy (Nat.le_refl _)) (by rw [hdrop]; exact rdE_enc rest hfj)
            rw [List.length_drop] at hR
            have HR : Hid (Calls _ _ _ _ _) := hR
            obtain ⟨x0, x1, x2, x3⟩ := x
            obtain ⟨d0, d1, d2, ⟨al, cl, d3, hls⟩, hok⟩ := hen
            simp only at d0 d1 d2 d3 hls hl20 HR hR
            have q0 : (0 : Int) ≤ j := by omega
            have q1 : (j : Int) < L.length := by omega
            have q2 : (j : Int) < 30 := by omega
            have q3 : (1 : Int) ≤ (entB ⟨x0, x1, x2, x3⟩).length := by omega
            have q4 : ((entB ⟨x0, x1, x2, x3⟩).length : Int) ≤ 1634 := by omega
            have q5 : (pos : Int) ≤ 49020 := by omega
            have q6 : (0 : Int) ≤ pos := by omega
            have Hls : Hid (IsLn wr al x3 cl) := hls
            have Hd : Hid (wr.cell? ⟨gb, go + j * 4, none⟩ = some (.string x0) ∧ wr.cell? ⟨gb, go + j * 4 + 1, none⟩ = some (.int .i64 x1) ∧ wr.cell? ⟨gb, go + j * 4 + 2, none⟩ = some (.int .i64 x2) ∧ wr.cell? ⟨gb, go + j * 4 + 3, none⟩ = some (.slice al x3.length cl)) := ⟨d0, d1, d2, d3⟩
            have hgq : gb < wr.heap.size := by have := Bq.size; omega
            rw [hpos]
            clear hpos hle hallk hk1 hk30 hlen hjL hR hB' hdrop hnext hfj hnx hls d0 d1 d2 d3 hgc hok hep heb
            go_wp2_with fail
            refine HR.out.mono ?_
            rintro e u1 ⟨v1, rfl, row1, bu1⟩
            obtain ⟨a1, c1, e1, hl1⟩ := row1.isLn
            subst e1
            simp only at row1 hl1 ⊢
            obtain ⟨d0, d1, d2, d3⟩ := Hd.out
            have hbx := Box4.new u1 x0 x1 x2 (.slice a1 x3.length c1)
            obtain ⟨U, hU⟩ : ∃ U, u1.alloc (.cells #[.string x0, .int .i64 x1, .int .i64 x2, .slice a1 x3.length c1] 30) = U := ⟨_, rfl⟩
            have bU : Below u1.heap.size u1 U := by rw [← hU]; exact (Below.refl _ _).alloc (Nat.le_refl _) _
            rw [hU] at hbx
            have bqU : Below wr.heap.size wr U := bu1.trans (bU.mono bu1.size)
            have HS : Hid (Calls _ _ _ _ _) := sameEntry_any x0 x1 x2 a1 al c1 cl x3 U.drew (by omega) ((hl1.below bU).below (Below.refl _ U).drew) ((Hls.out.below bqU).below (Below.refl _ U).drew)
            have g0 := (bqU.cell (p := ⟨gb, go + j * 4, none⟩) hgq).trans d0
            have g1 := (bqU.cell (p := ⟨gb, go + j * 4 + 1, none⟩) hgq).trans d1
            have g2 := (bqU.cell (p := ⟨gb, go + j * 4 + 2, none⟩) hgq).trans d2
            have g3 := (bqU.cell (p := ⟨gb, go + j * 4 + 3, none⟩) hgq).trans d3
            have b0 := hbx.c0
            have b1 := hbx.c1
            have b2 := hbx.c2
            have b3 := hbx.c3
            have HU : Hid (_ = U) := hU
            obtain ⟨xb, hxb⟩ : ∃ xb, u1.heap.size = xb := ⟨_, rfl⟩
            rw [hxb] at b0 b1 b2 b3
            have HK : Hid (∀ V, Below U.drew.heap.size U.drew V → (V.cell? ⟨xb, 0, none⟩ = some (.string x0) ∧ V.cell? ⟨xb, 1, none⟩ = some (.int .i64 x1) ∧ V.cell? ⟨xb, 2, none⟩ = some (.int .i64 x2) ∧ V.cell? ⟨xb, 3, none⟩ = some (.slice a1 x3.length c1)) ∧ V.cell? ⟨gb, go + j * 4, none⟩ = some (.string x0) ∧ V.cell? ⟨gb, go + j * 4 + 1, none⟩ = some (.int .i64 x1) ∧ V.cell? ⟨gb, go + j * 4 + 2, none⟩ = some (.int .i64 x2) ∧ V.cell? ⟨gb, go + j * 4 + 3, none⟩ = some (.slice al x3.length cl)) := fun V hV => by
              have hx1 : xb < U.drew.heap.size := World.block_lt_of_cell? _ _ b0
              have hx2 : gb < U.drew.heap.size := World.block_lt_of_cell? _ _ g0
              exact ⟨⟨(hV.cell (p := ⟨xb, 0, none⟩) hx1).trans b0, (hV.cell (p := ⟨xb, 1, none⟩) hx1).trans b1, (hV.cell (p := ⟨xb, 2, none⟩) hx1).trans b2, (hV.cell (p := ⟨xb, 3, none⟩) hx1).trans b3⟩, (hV.cell (p := ⟨gb, go + j * 4, none⟩) hx2).trans g0, (hV.cell (p := ⟨gb, go + j * 4 + 1, none⟩) hx2).trans g1, (hV.cell (p := ⟨gb, go + j * 4 + 2, none⟩) hx2).trans g2, (hV.cell (p := ⟨gb, go + j * 4 + 3, none⟩) hx2).trans g3⟩
            have HBU : Hid (Below wE.heap.size wE U) := BQ.trans (bqU.mono BQ.size)
            have hUs : U.drew.heap.size = U.heap.size := rfl
            clear hbx hU row1 hl1 bu1 bU bqU HR Hls Hd d0 d1 d2 d3 hD
            go_wp2_with fail
            rw [HU.out]
            clear HU
            go_region_held3 (fun u => (u.cell? ⟨xb, 0, none⟩ = some (.string x0) ∧ u.cell? ⟨xb, 1, none⟩ = some (.int .i64 x1) ∧ u.cell? ⟨xb, 2, none⟩ = some (.int .i64 x2) ∧ u.cell? ⟨xb, 3, none⟩ = some (.slice a1 x3.length c1)) ∧ u.cell? ⟨gb, go + j * 4, none⟩ = some (.string x0) ∧ u.cell? ⟨gb, go + j * 4 + 1, none⟩ = some (.int .i64 x1) ∧ u.cell? ⟨gb, go + j * 4 + 2, none⟩ = some (.int .i64 x2) ∧ u.cell? ⟨gb, go + j * 4 + 3, none⟩ = some (.slice al x3.length cl)) (go_keep) (first | (go_at_call 7; refine HS.out.mono ?_; rintro e u2 ⟨rfl, bu2⟩; obtain ⟨⟨p0, p1, p2, p3⟩, p4, p5, p6, p7⟩ := HK.out _ bu2))
            all_goals
              go_wp2
              go_roundw
              case rel => exact ⟨j + 1, by omega, by go_num, by rw [Hnx.out]; go_num, HBU.out.trans ((Below.refl _ _).drew.trans (bu2.mono (by have := HBU.out.size; omega)))⟩
              case measure => simp [intOf]; omega
          · have hjk2 : j = k := by omega
            subst hjk2
            have HBq : Hid (Below w.heap.size w wr) := Bq
            clear Bq BQ
            rw [Hall.out]
            have hkI2 : ((j : Int) < L.length) := by omega
            have hkI4 : ¬ ((j : Int) < 30) := by omega
            go_wp2
            go_ret
            exact ⟨by simp, HBq.out⟩
    · have hk2 : L.length ≤ k := by omega
      have hkI : ¬ ((k : Int) < L.length) := by omega
      obtain ⟨wE, hwE⟩ : ∃ wE, wE = wr := ⟨_, rfl⟩
      subst hwE
      have hallk : (rowB (L.take k)).length ≤ 49020 := by
        have := rowB_length L k hk1 Hfit.out
        omega
      obtain ⟨all, hall⟩ : ∃ all, rowB (L.take k) = all := ⟨_, rfl⟩
      have Hall : Hid (rowB (L.take k) = all) := hall
      rw [hall] at R hallk
      clear hall
      obtain ⟨ab, cb, ev, hby⟩ := R.out.isBy
      subst ev
      have Hby : Hid (IsBy wE ab all cb) := hby
      have Hwr : Hid (Below w.heap.size w wE) := Bw
      have hallk' : (all.length : Int) ≤ 49020 := by omega
      clear R hby Bw
      go_wp2
      go_loopw [12, 13, 14, 15, 16, 17] (fun pp i _ _ _ _ wr => ∃ j : Nat, j ≤ k ∧ i = .int .i64 j ∧ pp = .int .i64 ((rowB (L.take j)).length : Nat) ∧ Below wE.heap.size wE wr) (fun _ i _ _ _ _ _ => k - (intOf i).toNat)
      case atStart => exact ⟨0, Nat.zero_le _, rfl, rfl, Below.refl _ _⟩
      case round =>
        obtain ⟨j, hj, rfl, rfl, BQ⟩ := hrel
        have Bq : Below w.heap.size w wr := Hwr.out.trans (BQ.mono Hwr.out.size)
        by_cases hjk : j < k
        · rcases HL.out.lies with h0 | ⟨gb, go, rfl, hgb, hgc⟩
          · rw [h0] at hk1; simp at hk1; omega
          obtain ⟨rest, hdrop, hle⟩ := rowB_drop L j k hjk hk1
          rw [Hall.out] at hdrop hle
          have hfj := Hfit.out j hjk
          have hen := (hgc j (by omega)).below Bq hgb
          have hjL : j < L.length := by omega
          have hnext := rowB_snoc L j hjL
          have heb := ebLen hfj
          have hep := entB_pos (L.getD j en0)
          have hl20 := hfj.2.2.2.1
          generalize L.getD j en0 = x at *
          obtain ⟨pos, hpos⟩ : ∃ pos, (rowB (L.take j)).length = pos := ⟨_, rfl⟩
          rw [hpos] at hdrop hle
          have hnx : (rowB (L.take (j + 1))).length = pos + (entB x).length := by rw [hnext, List.length_append, hpos]
          have Hnx : Hid (_ = _) := hnx
          obtain ⟨a', c', hD, hB'⟩ := run_byDrop (Hby.out.below BQ).isBN pos hle
          have hR := reads_some (x := x) (r := rest) a' c' _ wr (by rw [List.length_drop]; omega) (hB'.isBy (Nat.le_refl _)) (by rw [hdrop]; exact rdE_enc rest hfj)
          rw [List.length_drop] at hR
          have HR : Hid (Calls _ _ _ _ _) := hR
          obtain ⟨x0, x1, x2, x3⟩ := x
          obtain ⟨d0, d1, d2, ⟨al, cl, d3, hls⟩, hok⟩ := hen
          simp only at d0 d1 d2 d3 hls hl20 HR hR
          have q0 : (0 : Int) ≤ j := by omega
          have q1 : (j : Int) < L.length := by omega
          have q2 : (j : Int) < 30 := by omega
          have q3 : (1 : Int) ≤ (entB ⟨x0, x1, x2, x3⟩).length := by omega
          have q4 : ((entB ⟨x0, x1, x2, x3⟩).length : Int) ≤ 1634 := by omega
          have q5 : (pos : Int) ≤ 49020 := by omega
          have q6 : (0 : Int) ≤ pos := by omega
          have Hls : Hid (IsLn wr al x3 cl) := hls
          have Hd : Hid (wr.cell? ⟨gb, go + j * 4, none⟩ = some (.string x0) ∧ wr.cell? ⟨gb, go + j * 4 + 1, none⟩ = some (.int .i64 x1) ∧ wr.cell? ⟨gb, go + j * 4 + 2, none⟩ = some (.int .i64 x2) ∧ wr.cell? ⟨gb, go + j * 4 + 3, none⟩ = some (.slice al x3.length cl)) := ⟨d0, d1, d2, d3⟩
          have hgq : gb < wr.heap.size := by have := Bq.size; omega
          rw [hpos]
          clear hpos hle hallk hk1 hk30 hlen hjL hR hB' hdrop hnext hfj hnx hls d0 d1 d2 d3 hgc hok hep heb
          go_wp2_with fail
          refine HR.out.mono ?_
          rintro e u1 ⟨v1, rfl, row1, bu1⟩
          obtain ⟨a1, c1, e1, hl1⟩ := row1.isLn
          subst e1
          simp only at row1 hl1 ⊢
          obtain ⟨d0, d1, d2, d3⟩ := Hd.out
          have hbx := Box4.new u1 x0 x1 x2 (.slice a1 x3.length c1)
          obtain ⟨U, hU⟩ : ∃ U, u1.alloc (.cells #[.string x0, .int .i64 x1, .int .i64 x2, .slice a1 x3.length c1] 30) = U := ⟨_, rfl⟩
          have bU : Below u1.heap.size u1 U := by rw [← hU]; exact (Below.refl _ _).alloc (Nat.le_refl _) _
          rw [hU] at hbx
          have bqU : Below wr.heap.size wr U := bu1.trans (bU.mono bu1.size)
          have HS : Hid (Calls _ _ _ _ _) := sameEntry_any x0 x1 x2 a1 al c1 cl x3 U.drew (by omega) ((hl1.below bU).below (Below.refl _ U).drew) ((Hls.out.below bqU).below (Below.refl _ U).drew)
          have g0 := (bqU.cell (p := ⟨gb, go + j * 4, none⟩) hgq).trans d0
          have g1 := (bqU.cell (p := ⟨gb, go + j * 4 + 1, none⟩) hgq).trans d1
          have g2 := (bqU.cell (p := ⟨gb, go + j * 4 + 2, none⟩) hgq).trans d2
          have g3 := (bqU.cell (p := ⟨gb, go + j * 4 + 3, none⟩) hgq).trans d3
          have b0 := hbx.c0
          have b1 := hbx.c1
          have b2 := hbx.c2
          have b3 := hbx.c3
          have HU : Hid (_ = U) := hU
          obtain ⟨xb, hxb⟩ : ∃ xb, u1.heap.size = xb := ⟨_, rfl⟩
          rw [hxb] at b0 b1 b2 b3
          have HK : Hid (∀ V, Below U.drew.heap.size U.drew V → (V.cell? ⟨xb, 0, none⟩ = some (.string x0) ∧ V.cell? ⟨xb, 1, none⟩ = some (.int .i64 x1) ∧ V.cell? ⟨xb, 2, none⟩ = some (.int .i64 x2) ∧ V.cell? ⟨xb, 3, none⟩ = some (.slice a1 x3.length c1)) ∧ V.cell? ⟨gb, go + j * 4, none⟩ = some (.string x0) ∧ V.cell? ⟨gb, go + j * 4 + 1, none⟩ = some (.int .i64 x1) ∧ V.cell? ⟨gb, go + j * 4 + 2, none⟩ = some (.int .i64 x2) ∧ V.cell? ⟨gb, go + j * 4 + 3, none⟩ = some (.slice al x3.length cl)) := fun V hV => by
            have hx1 : xb < U.drew.heap.size := World.block_lt_of_cell? _ _ b0
            have hx2 : gb < U.drew.heap.size := World.block_lt_of_cell? _ _ g0
            exact ⟨⟨(hV.cell (p := ⟨xb, 0, none⟩) hx1).trans b0, (hV.cell (p := ⟨xb, 1, none⟩) hx1).trans b1, (hV.cell (p := ⟨xb, 2, none⟩) hx1).trans b2, (hV.cell (p := ⟨xb, 3, none⟩) hx1).trans b3⟩, (hV.cell (p := ⟨gb, go + j * 4, none⟩) hx2).trans g0, (hV.cell (p := ⟨gb, go + j * 4 + 1, none⟩) hx2).trans g1, (hV.cell (p := ⟨gb, go + j * 4 + 2, none⟩) hx2).trans g2, (hV.cell (p := ⟨gb, go + j * 4 + 3, none⟩) hx2).trans g3⟩
          have HBU : Hid (Below wE.heap.size wE U) := BQ.trans (bqU.mono BQ.size)
          have hUs : U.drew.heap.size = U.heap.size := rfl
          clear hbx hU row1 hl1 bu1 bU bqU HR Hls Hd d0 d1 d2 d3 hD
          go_wp2_with fail
          rw [HU.out]
          clear HU
          go_region_held3 (fun u => (u.cell? ⟨xb, 0, none⟩ = some (.string x0) ∧ u.cell? ⟨xb, 1, none⟩ = some (.int .i64 x1) ∧ u.cell? ⟨xb, 2, none⟩ = some (.int .i64 x2) ∧ u.cell? ⟨xb, 3, none⟩ = some (.slice a1 x3.length c1)) ∧ u.cell? ⟨gb, go + j * 4, none⟩ = some (.string x0) ∧ u.cell? ⟨gb, go + j * 4 + 1, none⟩ = some (.int .i64 x1) ∧ u.cell? ⟨gb, go + j * 4 + 2, none⟩ = some (.int .i64 x2) ∧ u.cell? ⟨gb, go + j * 4 + 3, none⟩ = some (.slice al x3.length cl)) (go_keep) (first | (go_at_call 7; refine HS.out.mono ?_; rintro e u2 ⟨rfl, bu2⟩; obtain ⟨⟨p0, p1, p2, p3⟩, p4, p5, p6, p7⟩ := HK.out _ bu2))
          all_goals
            go_wp2
            go_roundw
            case rel => exact ⟨j + 1, by omega, by go_num, by rw [Hnx.out]; go_num, HBU.out.trans ((Below.refl _ _).drew.trans (bu2.mono (by have := HBU.out.size; omega)))⟩
            case measure => simp [intOf]; omega
        · have hjk2 : j = k := by omega
          subst hjk2
          have HBq : Hid (Below w.heap.size w wr) := Bq
          clear Bq BQ
          rw [Hall.out]
          have hkI2 : ¬ ((j : Int) < L.length) := by omega
          go_wp2
          go_ret
          exact ⟨by simp, HBq.out⟩
end Go.Proofs.Ytbnoedndbehghaa
