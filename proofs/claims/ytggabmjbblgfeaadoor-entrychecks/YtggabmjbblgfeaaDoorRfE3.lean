/-
  The contract of dayref1.Sums.
-/
import Derived.Test.YtggabmjbblgfeaaDoorRfE2
import Derived.Deep.RegionLaw
namespace Go.Proofs.YtggabmjbblgfeaaDoor
set_option linter.unusedVariables false
set_option linter.unusedSimpArgs false
set_option maxRecDepth 100000
open Go.RowKit Go.Lib

theorem refGrouped_none (a : Option Addr) (cap : Nat) (w : World) :
    Calls Tryd.prog 24 #[.slice a 0 cap] w fun e w' => e = .returned (.slice none 0 0) ∧ Below w.heap.size w w' := by
  go_enter Tryd.func24, Tryd.ntmps24
  go_wp2
  refine wp_loop_rounds 1 ?_
  rw [rounds_succ]
  go_wp2
  go_ret
  exact ⟨rfl, Below.refl _ _⟩

theorem refGrouped_any (a : Option Addr) (cap : Nat) (l : List Ln) (w : World) (hlen : l.length ≤ 20) (hwi : Within mostA l) (h : IsLn w a l cap) :
    Calls Tryd.prog 24 #[.slice a l.length cap] w fun e w' => ∃ v, e = .returned v ∧ LnRow w' w.heap.size v (grp l) ∧ Below w.heap.size w w' := by
  rcases h.lies with rfl | ⟨b, off, rfl, hlt, hc⟩
  · refine (refGrouped_none a cap w).mono ?_
    rintro e w' ⟨rfl, hb⟩
    exact ⟨_, rfl, LnRow.nil _ _, hb⟩
  · exact refGrouped_some b off cap l w hlt hlen hwi hc

set_option maxHeartbeats 4000000 in
theorem refSums_some (r : ByteArray) (en pe : Int) (b off cap : Nat) (l : List Ln) (w : World) (hb : b < w.heap.size) (hlen : l.length ≤ 20) (hwi : Within mostA l) (hc : LnsAt w b off l) :
    Calls Tryd.prog 14 #[.agg #[.string r, .int .i64 en, .int .i64 pe, .slice (some ⟨b, off, none⟩) l.length cap]] w fun e w' => ∃ v, e = .returned v ∧ LnRow w' w.heap.size v (curSums l) ∧ Below w.heap.size w w' := by
  have Hc : Hid (LnsAt w b off l) := hc
  have b0 : Below w.heap.size w (w.alloc (.cells #[.string r, .int .i64 en, .int .i64 pe, .slice (some ⟨b, off, none⟩) l.length cap] 25)) := (Below.refl _ w).alloc (Nat.le_refl _) _
  have x0 := Box4.new w r en pe (.slice (some ⟨b, off, none⟩) l.length cap)
  have hs0 : (w.alloc (.cells #[.string r, .int .i64 en, .int .i64 pe, .slice (some ⟨b, off, none⟩) l.length cap] 25)).heap.size = w.heap.size + 1 := by simp
  have HG : Hid (∀ v W, LnRow W (w.heap.size + 1) v (l.map bareL) → Below w.heap.size w W → Calls Tryd.prog 24 #[v] W fun e w' => ∃ v, e = .returned v ∧ LnRow w' w.heap.size v (curSums l) ∧ Below w.heap.size w w') := fun v W hr hW => by
    obtain ⟨a', c', rfl, hsl⟩ := hr.isLn
    refine (refGrouped_any a' c' (l.map bareL) W (by simpa using hlen) (within_bare hwi) hsl).mono ?_
    rintro e w' ⟨v, rfl, hr', hb'⟩
    exact ⟨v, rfl, hr'.mono hW.size, hW.trans (hb'.mono hW.size)⟩
  clear hc hwi
  have Hlen : (l.length : Int) ≤ 20 := by omega
  obtain ⟨i0, hi, hz0, hz1, hz2⟩ := info_parts ln_info
  obtain ⟨W0, hW0⟩ : ∃ W0, w.alloc (.cells #[.string r, .int .i64 en, .int .i64 pe, .slice (some ⟨b, off, none⟩) l.length cap] 25) = W0 := ⟨_, rfl⟩
  go_enter Tryd.func14, Tryd.ntmps14
  go_wp2
  rw [hW0] at b0 x0 hs0
  have Hb0 : Hid (Below w.heap.size w W0) := b0
  have Hx0 : Hid (Box4 W0 _ _ _ _ _) := x0
  have Hs0 : Hid (W0.heap.size = w.heap.size + 1) := hs0
  clear hW0 b0 x0 hs0
  go_loopw [3, 4] (fun s i wr => ∃ k : Nat, k ≤ l.length ∧ i = .int .i64 k ∧ Hid (LnRow wr (w.heap.size + 1) s ((l.take k).map bareL)) ∧ Below (w.heap.size + 1) W0 wr) (fun _ i _ => l.length - (intOf i).toNat)
  case atStart => exact ⟨0, Nat.zero_le _, rfl, LnRow.nil _ _, Below.refl _ _⟩
  case round =>
    obtain ⟨k, hk, rfl, R, BW⟩ := hrel
    have hws := BW.size
    rw [Hs0.out] at hws
    have B1 := Hb0.out.trans (BW.mono (Nat.le_succ _))
    have y1 := Hx0.out.below BW (Nat.lt_succ_self _)
    have dl := y1.c3
    by_cases hlt : k < l.length
    · have hn := (Hc.out k hlt).below B1 hb
      have hst : (l.take (k + 1)).map bareL = (l.take k).map bareL ++ [bareL (l.getD k ln0)] := by rw [lns_take l k hlt, List.map_append]; rfl
      have hfl : ((l.take k).map bareL).length = k := by rw [List.length_map, List.length_take]; omega
      generalize l.getD k ln0 = x at *
      generalize (l.take k).map bareL = fs at *
      obtain ⟨x0, x1, x2⟩ := x
      obtain ⟨c0, c1, c2⟩ := hn
      simp only [bareL] at c0 c1 c2 hst
      obtain ⟨a, cq, rfl, _⟩ := R.out.isLn
      have Hfl : Hid (fs.length = k) := hfl
      rw [hfl] at R ⊢
      clear hfl
      have j0 : (0 : Int) ≤ k := by omega
      have j1 : (k : Int) < l.length := by omega
      have Hst : Hid (_ = _) := hst
      have hro : World.ownsRow (wr.alloc (.cells #[.string ByteArray.empty, .string x1, .int .i64 x2] 36)).drew (w.heap.size + 1) 36 3 (.slice a k cq) k (lnRow fs) := by
        have := World.ownsRow.drew (World.ownsRow.alloc R.out (.cells #[.string ByteArray.empty, .string x1, .int .i64 x2] 36))
        unfold LnRow at this
        rw [Hfl.out] at this
        exact this
      have HRO : Hid (World.ownsRow _ _ _ _ _ _ _) := hro
      have k1 : ∀ j u, ([.string ByteArray.empty, .string x1, .int .i64 x2] : List Value)[j]? = some u → (wr.alloc (.cells #[.string ByteArray.empty, .string x1, .int .i64 x2] 36)).drew.cell? ((⟨wr.heap.size, 0, none⟩ : Addr).add j) = some u := fun j u h => cells_three wr ByteArray.empty x1 x2 wr.heap.size 36 rfl j u h
      have K1 : Hid (∀ j u, ([.string ByteArray.empty, .string x1, .int .i64 x2] : List Value)[j]? = some u → (wr.alloc (.cells #[.string ByteArray.empty, .string x1, .int .i64 x2] 36)).drew.cell? ((⟨wr.heap.size, 0, none⟩ : Addr).add j) = some u) := k1
      have s1 : ∀ u ∈ ([.string ByteArray.empty, .string x1, .int .i64 x2] : List Value), u.oneCell' = true := by intro u hu; simp at hu; rcases hu with rfl | rfl | rfl <;> rfl
      have s2 : Hid (k + 1 ≤ maxLen) := by unfold Hid maxLen; omega
      have s3 : Hid ((k + 1) * 40 ≤ 140737488355328) := by unfold Hid; omega
      have s4 : Hid (w.heap.size + 1 ≤ (wr.alloc (.cells #[.string ByteArray.empty, .string x1, .int .i64 x2] 36)).drew.heap.size) := by unfold Hid; simp; omega
      have s5 : Hid ((wr.alloc (.cells #[.string ByteArray.empty, .string x1, .int .i64 x2] 36)).drew.heap.size = wr.heap.size + 1) := by unfold Hid; simp
      have B2 := (BW.alloc (by omega) (.cells #[.string ByteArray.empty, .string x1, .int .i64 x2] 36)).drew
      have hoj : ∀ j, (Value.slice a k cq).ownBlock = some j → w.heap.size + 1 ≤ j := fun j e => (World.ownsRow.lt hro j e).1
      clear k1 hst hro R
      go_wp2_with fail
      go_region_law (refine step_append_lies _ rfl (.tmp 12) (.tmp 26) 23 rfl (w.heap.size + 1) 36 i0 (.agg #[.string ByteArray.empty, .string ByteArray.empty, .int .i64 0]) 3 40 Tryd.underlying23 hi hz0 hz1 hz2 rfl (Nat.zero_lt_succ _) (.slice a k cq) k (lnRow fs) rfl HRO.out ⟨wr.heap.size, 0, none⟩ 1 1 [.string ByteArray.empty, .string x1, .int .i64 x2] rfl rfl K1.out s1 (Nat.zero_lt_one) s2.out s3.out s4.out (wr.heap.size + 1) s5.out ?_; intro g' cap' w1 hown' hgrow hat hlt2)
      all_goals
        have B3 := B2.grown hgrow (by simp; omega) (fun j e => by have := hoj j e; omega)
        have HR3 : Hid (LnRow w1 (w.heap.size + 1) (.slice (some ⟨g', 0, none⟩) (k + 1) cap') ((l.take (k + 1)).map bareL)) := by
          unfold Hid
          rw [Hst.out]
          unfold LnRow
          rw [lnRow_append, lnRow_one, List.length_append, Hfl.out]
          exact hown'
        clear hown' hgrow hat
        go_wp2
        go_roundw
        case rel => exact ⟨k + 1, by omega, by go_num, HR3.out, B3⟩
        case measure => simp [intOf]; omega
    · have hk2 : k = l.length := by omega
      subst hk2
      have R2 := R.out
      rw [List.take_length] at R2
      have hG := HG.out _ wr R2 B1
      have HGG : Hid (Calls _ _ _ _ _) := hG
      clear R2 hG HG R
      go_wp2_with fail
      refine HGG.out.mono ?_
      rintro e w2 ⟨v2, rfl, r2, b2⟩
      have HR : Hid (LnRow _ _ _ _) := r2
      clear r2 HGG
      go_wp2
      go_ret
      exact ⟨v2, rfl, HR.out, b2⟩

theorem refSums_any (r : ByteArray) (en pe : Int) (a : Option Addr) (cap : Nat) (l : List Ln) (w : World) (hlen : l.length ≤ 20) (hl : 0 < l.length) (hwi : Within mostA l) (h : IsLn w a l cap) :
    Calls Tryd.prog 14 #[.agg #[.string r, .int .i64 en, .int .i64 pe, .slice a l.length cap]] w fun e w' => ∃ v, e = .returned v ∧ LnRow w' w.heap.size v (curSums l) ∧ Below w.heap.size w w' := by
  rcases h.lies with h0 | ⟨b, off, rfl, hlt, hc⟩
  · rw [h0] at hl; simp at hl
  · exact refSums_some r en pe b off cap l w hlt hlen hwi hc
end Go.Proofs.YtggabmjbblgfeaaDoor
