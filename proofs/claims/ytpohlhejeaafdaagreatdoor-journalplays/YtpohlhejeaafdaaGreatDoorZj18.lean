/-
  The contract of dayref1.Entry.
-/
import Derived.Test.YtpohlhejeaafdaaGreatDoorZj17
import Derived.Deep.RegionLaw
import Derived.Test.YtpohlhejeaafdaaGreatDoorZj8
import Derived.Deep.QuietTactic
import Derived.BigQuiet
import Derived.Test.YtpohlhejeaafdaaGreatDoorZj9
import Derived.Test.YtpohlhejeaafdaaGreatDoorZj15
namespace Go.Proofs.YtpohlhejeaafdaaGreatDoor
set_option linter.unusedVariables false
set_option linter.unusedSimpArgs false
set_option maxRecDepth 100000
open Go.RowKit Go.Lib

theorem refGrouped_none (a : Option Addr) (cap : Nat) (w : World) :
    Calls Tryz.prog 40 #[.slice a 0 cap] w fun e w' => e = .returned (.slice none 0 0) ∧ Below w.heap.size w w' := by
  go_enter Tryz.func40, Tryz.ntmps40
  go_wp2
  refine wp_loop_rounds 1 ?_
  rw [rounds_succ]
  go_wp2
  go_ret
  exact ⟨rfl, Below.refl _ _⟩

theorem refGrouped_any (a : Option Addr) (cap : Nat) (l : List Ln) (w : World) (hlen : l.length ≤ 20) (hwi : Within mostA l) (h : IsLn w a l cap) :
    Calls Tryz.prog 40 #[.slice a l.length cap] w fun e w' => ∃ v, e = .returned v ∧ LnRow w' w.heap.size v (grp l) ∧ Below w.heap.size w w' := by
  rcases h.lies with rfl | ⟨b, off, rfl, hlt, hc⟩
  · refine (refGrouped_none a cap w).mono ?_
    rintro e w' ⟨rfl, hb⟩
    exact ⟨_, rfl, LnRow.nil _ _, hb⟩
  · exact refGrouped_some b off cap l w hlt hlen hwi hc

set_option maxHeartbeats 4000000 in
theorem refSums_some (r : ByteArray) (en pe : Int) (b off cap : Nat) (l : List Ln) (w : World) (hb : b < w.heap.size) (hlen : l.length ≤ 20) (hwi : Within mostA l) (hc : LnsAt w b off l) :
    Calls Tryz.prog 26 #[.agg #[.string r, .int .i64 en, .int .i64 pe, .slice (some ⟨b, off, none⟩) l.length cap]] w fun e w' => ∃ v, e = .returned v ∧ LnRow w' w.heap.size v (curSums l) ∧ Below w.heap.size w w' := by
  have Hc : Hid (LnsAt w b off l) := hc
  have b0 : Below w.heap.size w (w.alloc (.cells #[.string r, .int .i64 en, .int .i64 pe, .slice (some ⟨b, off, none⟩) l.length cap] 29)) := (Below.refl _ w).alloc (Nat.le_refl _) _
  have x0 := Box4.new w r en pe (.slice (some ⟨b, off, none⟩) l.length cap)
  have hs0 : (w.alloc (.cells #[.string r, .int .i64 en, .int .i64 pe, .slice (some ⟨b, off, none⟩) l.length cap] 29)).heap.size = w.heap.size + 1 := by simp
  have HG : Hid (∀ v W, LnRow W (w.heap.size + 1) v (l.map bareL) → Below w.heap.size w W → Calls Tryz.prog 40 #[v] W fun e w' => ∃ v, e = .returned v ∧ LnRow w' w.heap.size v (curSums l) ∧ Below w.heap.size w w') := fun v W hr hW => by
    obtain ⟨a', c', rfl, hsl⟩ := hr.isLn
    refine (refGrouped_any a' c' (l.map bareL) W (by simpa using hlen) (within_bare hwi) hsl).mono ?_
    rintro e w' ⟨v, rfl, hr', hb'⟩
    exact ⟨v, rfl, hr'.mono hW.size, hW.trans (hb'.mono hW.size)⟩
  clear hc hwi
  have Hlen : (l.length : Int) ≤ 20 := by omega
  obtain ⟨i0, hi, hz0, hz1, hz2⟩ := info_parts ln_info
  obtain ⟨W0, hW0⟩ : ∃ W0, w.alloc (.cells #[.string r, .int .i64 en, .int .i64 pe, .slice (some ⟨b, off, none⟩) l.length cap] 29) = W0 := ⟨_, rfl⟩
  go_enter Tryz.func26, Tryz.ntmps26
  go_wp2
  rw [hW0] at b0 x0 hs0
  have Hb0 : Hid (Below w.heap.size w W0) := b0
  have Hx0 : Hid (Box4 W0 _ _ _ _ _) := x0
  have Hs0 : Hid (W0.heap.size = w.heap.size + 1) := hs0
  clear hW0 b0 x0 hs0
  go_loopw [3, 4] (fun s i wr => ∃ k : Nat, k ≤ l.length ∧ i = .int .i64 k ∧ Hid (LnRow wr (w.heap.size + 1) s ((l.take k).map bareL)) ∧ Below (w.heap.size + 1) W0 wr) (fun _ i _ => l.length - (RowKit.intOf i).toNat)
  case atStart => exact ⟨0, Nat.zero_le _, rfl, LnRow.nil _ _, Below.refl _ _⟩
  case round =>
    obtain ⟨k, hk, rfl, R, BW⟩ := hrel
    have hws := BW.size
    rw [Hs0.out] at hws
    have B1 := Hb0.out.trans (BW.mono (Nat.le_succ _))
    have y1 := Hx0.out.below BW (Nat.lt_succ_self _)
    have dl := y1.c3
    by_cases hlt : k < l.length
    · have hn := (Hc.out k hlt).below B1 hb
      have hst : (l.take (k + 1)).map bareL = (l.take k).map bareL ++ [bareL (l.getD k ln0)] := by rw [lns_take l k hlt, List.map_append]; rfl
      have hfl : ((l.take k).map bareL).length = k := by rw [List.length_map, List.length_take]; omega
      generalize l.getD k ln0 = x at *
      generalize (l.take k).map bareL = fs at *
      obtain ⟨x0, x1, x2⟩ := x
      obtain ⟨c0, c1, c2⟩ := hn
      simp only [bareL] at c0 c1 c2 hst
      obtain ⟨a, cq, rfl, _⟩ := R.out.isLn
      have Hfl : Hid (fs.length = k) := hfl
      rw [hfl] at R ⊢
      clear hfl
      have j0 : (0 : Int) ≤ k := by omega
      have j1 : (k : Int) < l.length := by omega
      have Hst : Hid (_ = _) := hst
      have hro : World.ownsRow (wr.alloc (.cells #[.string ByteArray.empty, .string x1, .int .i64 x2] 44)).drew (w.heap.size + 1) 44 3 (.slice a k cq) k (lnRow fs) := by
        have := World.ownsRow.drew (World.ownsRow.alloc R.out (.cells #[.string ByteArray.empty, .string x1, .int .i64 x2] 44))
        unfold LnRow at this
        rw [Hfl.out] at this
        exact this
      have HRO : Hid (World.ownsRow _ _ _ _ _ _ _) := hro
      have k1 : ∀ j u, ([.string ByteArray.empty, .string x1, .int .i64 x2] : List Value)[j]? = some u → (wr.alloc (.cells #[.string ByteArray.empty, .string x1, .int .i64 x2] 44)).drew.cell? ((⟨wr.heap.size, 0, none⟩ : Addr).add j) = some u := fun j u h => cells_three wr ByteArray.empty x1 x2 wr.heap.size 44 rfl j u h
      have K1 : Hid (∀ j u, ([.string ByteArray.empty, .string x1, .int .i64 x2] : List Value)[j]? = some u → (wr.alloc (.cells #[.string ByteArray.empty, .string x1, .int .i64 x2] 44)).drew.cell? ((⟨wr.heap.size, 0, none⟩ : Addr).add j) = some u) := k1
      have s1 : ∀ u ∈ ([.string ByteArray.empty, .string x1, .int .i64 x2] : List Value), u.oneCell' = true := by intro u hu; simp at hu; rcases hu with rfl | rfl | rfl <;> rfl
      have s2 : Hid (k + 1 ≤ maxLen) := by unfold Hid maxLen; omega
      have s3 : Hid ((k + 1) * 40 ≤ 140737488355328) := by unfold Hid; omega
      have s4 : Hid (w.heap.size + 1 ≤ (wr.alloc (.cells #[.string ByteArray.empty, .string x1, .int .i64 x2] 44)).drew.heap.size) := by unfold Hid; simp; omega
      have s5 : Hid ((wr.alloc (.cells #[.string ByteArray.empty, .string x1, .int .i64 x2] 44)).drew.heap.size = wr.heap.size + 1) := by unfold Hid; simp
      have B2 := (BW.alloc (by omega) (.cells #[.string ByteArray.empty, .string x1, .int .i64 x2] 44)).drew
      have hoj : ∀ j, (Value.slice a k cq).ownBlock = some j → w.heap.size + 1 ≤ j := fun j e => (World.ownsRow.lt hro j e).1
      clear k1 hst hro R
      go_wp2_with fail
      go_region_law (refine step_append_lies _ rfl (.tmp 12) (.tmp 26) 27 rfl (w.heap.size + 1) 44 i0 (.agg #[.string ByteArray.empty, .string ByteArray.empty, .int .i64 0]) 3 40 Tryz.underlying27 hi hz0 hz1 hz2 rfl (Nat.zero_lt_succ _) (.slice a k cq) k (lnRow fs) rfl HRO.out ⟨wr.heap.size, 0, none⟩ 1 1 [.string ByteArray.empty, .string x1, .int .i64 x2] rfl rfl K1.out s1 (Nat.zero_lt_one) s2.out s3.out s4.out (wr.heap.size + 1) s5.out ?_; intro g' cap' w1 hown' hgrow hat hlt2)
      all_goals
        have B3 := B2.grown hgrow (by simp; omega) (fun j e => by have := hoj j e; omega)
        have HR3 : Hid (LnRow w1 (w.heap.size + 1) (.slice (some ⟨g', 0, none⟩) (k + 1) cap') ((l.take (k + 1)).map bareL)) := by
          unfold Hid
          rw [Hst.out]
          unfold LnRow
          rw [lnRow_append, lnRow_one, List.length_append, Hfl.out]
          exact hown'
        clear hown' hgrow hat
        go_wp2
        go_roundw
        case rel => exact ⟨k + 1, by omega, by go_num, HR3.out, B3⟩
        case measure => simp [RowKit.intOf]; omega
    · have hk2 : k = l.length := by omega
      subst hk2
      have R2 := R.out
      rw [List.take_length] at R2
      have hG := HG.out _ wr R2 B1
      have HGG : Hid (Calls _ _ _ _ _) := hG
      clear R2 hG HG R
      go_wp2_with fail
      refine HGG.out.mono ?_
      rintro e w2 ⟨v2, rfl, r2, b2⟩
      have HR : Hid (LnRow _ _ _ _) := r2
      clear r2 HGG
      go_wp2
      go_ret
      exact ⟨v2, rfl, HR.out, b2⟩

theorem refSums_any (r : ByteArray) (en pe : Int) (a : Option Addr) (cap : Nat) (l : List Ln) (w : World) (hlen : l.length ≤ 20) (hl : 0 < l.length) (hwi : Within mostA l) (h : IsLn w a l cap) :
    Calls Tryz.prog 26 #[.agg #[.string r, .int .i64 en, .int .i64 pe, .slice a l.length cap]] w fun e w' => ∃ v, e = .returned v ∧ LnRow w' w.heap.size v (curSums l) ∧ Below w.heap.size w w' := by
  rcases h.lies with h0 | ⟨b, off, rfl, hlt, hc⟩
  · rw [h0] at hl; simp at hl
  · exact refSums_some r en pe b off cap l w hlt hlen hwi hc
end Go.Proofs.YtpohlhejeaafdaaGreatDoor

namespace Go.Proofs.YtpohlhejeaafdaaGreatDoor
set_option linter.unusedVariables false
set_option linter.unusedSimpArgs false
set_option maxRecDepth 100000
open Go.RowKit Go.Lib

/-- A currency, letter by letter. -/
def isCurB (s : ByteArray) : Bool := s.size == 3 && ((65 ≤ (s.get! 0).toNat && (s.get! 0).toNat ≤ 90) && ((65 ≤ (s.get! 1).toNat && (s.get! 1).toNat ≤ 90) && (65 ≤ (s.get! 2).toNat && (s.get! 2).toNat ≤ 90)))

theorem other_at (s : ByteArray) (pos f : Nat) (h : pos < s.size) : otherFrom s (f + 1) pos = if 65 ≤ (s.get! pos).toNat ∧ (s.get! pos).toNat ≤ 90 then otherFrom s f (pos + 1) else (pos : Int) := by
  have hg : s.get! pos = s[pos]'h := by
    show s.data[pos]! = s.data[pos]'h
    exact getElem!_pos s.data pos h
  rw [hg, otherFrom, if_pos h]
  by_cases ha : (s[pos]'h).toNat < 128
  · rw [decode_ascii s pos h ha]
    by_cases hc : 65 ≤ (s[pos]'h).toNat ∧ (s[pos]'h).toNat ≤ 90
    · rw [if_pos hc, if_neg (by simp [other]; omega)]
    · rw [if_neg hc, if_pos (by simp [other]; omega)]
  · have hd := (decode_high s pos h (by omega)).1
    rw [if_pos (by simp [other]; omega), if_neg (by omega)]

theorem other_three (s : ByteArray) (h : s.size = 3) : otherFrom s 3 0 < 0 ↔ (65 ≤ (s.get! 0).toNat ∧ (s.get! 0).toNat ≤ 90) ∧ (65 ≤ (s.get! 1).toNat ∧ (s.get! 1).toNat ≤ 90) ∧ 65 ≤ (s.get! 2).toNat ∧ (s.get! 2).toNat ≤ 90 := by
  rw [other_at s 0 2 (by omega)]
  by_cases h0 : 65 ≤ (s.get! 0).toNat ∧ (s.get! 0).toNat ≤ 90
  · rw [if_pos h0, other_at s 1 1 (by omega)]
    by_cases h1 : 65 ≤ (s.get! 1).toNat ∧ (s.get! 1).toNat ≤ 90
    · rw [if_pos h1, other_at s 2 0 (by omega)]
      by_cases h2 : 65 ≤ (s.get! 2).toNat ∧ (s.get! 2).toNat ≤ 90
      · rw [if_pos h2]
        exact ⟨fun _ => ⟨h0, h1, h2⟩, fun _ => by simp [otherFrom]⟩
      · rw [if_neg h2]
        exact ⟨fun h => by omega, fun h => absurd h.2.2 h2⟩
    · rw [if_neg h1]
      exact ⟨fun h => by omega, fun h => absurd h.2.1 h1⟩
  · rw [if_neg h0]
    exact ⟨fun h => by omega, fun h => absurd h.1 h0⟩

theorem isCur_eq (s : ByteArray) : isCur s = isCurB s := by
  rw [Bool.eq_iff_iff]
  unfold isCur isCurB
  simp only [Bool.and_eq_true, beq_iff_eq, decide_eq_true_eq]
  constructor
  · rintro ⟨h, h'⟩
    rw [h] at h'
    exact ⟨h, (other_three s h).1 h'⟩
  · rintro ⟨h, h'⟩
    refine ⟨h, ?_⟩
    rw [h]
    exact (other_three s h).2 h'
/-- A letter A to Z stands at a place. -/
def good (s : ByteArray) (k : Nat) : Prop := 65 ≤ (s.get! k).toNat ∧ (s.get! k).toNat ≤ 90

theorem isCurB_iff (s : ByteArray) : isCurB s = true ↔ s.size = 3 ∧ good s 0 ∧ good s 1 ∧ good s 2 := by
  unfold isCurB good
  simp only [Bool.and_eq_true, beq_iff_eq, decide_eq_true_eq]

theorem refCur_any (s : ByteArray) (w : World) :
    Calls Tryz.prog 24 #[.string s] w fun e w' => e = .returned (.bool (isCur s)) ∧ w' = w := by
  rw [isCur_eq]
  by_cases h : s.size = 3
  · have h' : ((s.size : Int) != 3) = false := by simp; omega
    obtain ⟨res, hres⟩ : ∃ res, isCurB s = res := ⟨_, rfl⟩
    have Hres : Hid (isCurB s = res) := hres
    rw [hres]
    clear hres
    go_enter Tryz.func24, Tryz.ntmps24
    go_wp2
    go_loop [3] (fun i => ∃ k : Nat, k ≤ 3 ∧ i = .int .i64 k ∧ Hid (∀ j, j < k → good s j)) (fun i => 3 - (RowKit.intOf i).toNat)
    case atStart => exact ⟨0, by omega, rfl, fun j hj => absurd hj (Nat.not_lt_zero _)⟩
    case round =>
      obtain ⟨k, hk, rfl, Hk⟩ := hrel
      by_cases hlt : k < 3
      · have i0 : (0 : Int) ≤ k := by omega
        have i1 : (k : Int) < 3 := by omega
        have i2 : (k : Int) < s.size := by omega
        have hks : k < s.size := by omega
        obtain ⟨c, hc⟩ : ∃ c, (s[k]'hks).toNat = c := ⟨_, rfl⟩
        have hgood : good s k ↔ 65 ≤ c ∧ c ≤ 90 := by
          unfold good
          have : s.get! k = s[k]'hks := by
            show s.data[k]! = s.data[k]'hks
            exact getElem!_pos s.data k hks
          rw [this, hc]
        have Hg : Hid (good s k ↔ 65 ≤ c ∧ c ≤ 90) := hgood
        clear hgood
        have bad : ¬ (65 ≤ c ∧ c ≤ 90) → res = false := fun hn => by
          rw [← Hres.out]
          cases hcb : isCurB s
          · rfl
          · obtain ⟨_, q0, q1, q2⟩ := (isCurB_iff s).1 hcb
            have : good s k := by
              rcases (by omega : k = 0 ∨ k = 1 ∨ k = 2) with rfl | rfl | rfl
              · exact q0
              · exact q1
              · exact q2
            exact absurd (Hg.out.1 this) hn
        by_cases h65 : (c : Int) < 65
        · have e1 := bad (by omega)
          subst e1
          clear bad
          go_wp2
          go_ret
          exact ⟨rfl, rfl⟩
        by_cases h90 : 90 < (c : Int)
        · have e1 := bad (by omega)
          subst e1
          clear bad
          go_wp2
          go_ret
          exact ⟨rfl, rfl⟩
        clear bad
        have HN : Hid (∀ j, j < k + 1 → good s j) := fun j hj => by
          rcases (by omega : j < k ∨ j = k) with h' | rfl
          · exact Hk.out j h'
          · exact Hg.out.2 (by omega)
        go_wp2
        go_round
        case rel => exact ⟨k + 1, by omega, by go_num, HN⟩
        case measure => simp [RowKit.intOf]; omega
      · have : k = 3 := by omega
        subst this
        have e1 : res = true := by rw [← Hres.out, isCurB_iff]; exact ⟨h, Hk.out 0 (by omega), Hk.out 1 (by omega), Hk.out 2 (by omega)⟩
        subst e1
        go_wp2
        go_ret
        exact ⟨rfl, rfl⟩
  · have h' : ((s.size : Int) != 3) = true := by simp; omega
    have e1 : isCurB s = false := by
      cases hc : isCurB s
      · rfl
      · exact absurd ((isCurB_iff s).1 hc).1 h
    rw [e1]
    go_enter Tryz.func24, Tryz.ntmps24
    go_wp2
    go_ret
    exact ⟨rfl, rfl⟩

theorem period_any (n : Int) (w : World) :
    Calls Tryz.prog 22 #[.int .i64 n] w fun e w' => e = .returned (.bool (upTo n 120)) ∧ w' = w := by
  by_cases h : 1 ≤ n
  · have e1 : upTo n 120 = decide (n ≤ 120) := by simp [upTo, h]
    rw [e1]
    go_enter Tryz.func22, Tryz.ntmps22
    go_wp2
    go_ret
    exact ⟨rfl, rfl⟩
  · have e1 : upTo n 120 = false := by simp [upTo, h]
    rw [e1]
    go_enter Tryz.func22, Tryz.ntmps22
    go_wp2
    go_ret
    exact ⟨rfl, rfl⟩

theorem entity_any (n : Int) (w : World) :
    Calls Tryz.prog 21 #[.int .i64 n] w fun e w' => e = .returned (.bool (upTo n 12)) ∧ w' = w := by
  by_cases h : 1 ≤ n
  · have e1 : upTo n 12 = decide (n ≤ 12) := by simp [upTo, h]
    rw [e1]
    go_enter Tryz.func21, Tryz.ntmps21
    go_wp2
    go_ret
    exact ⟨rfl, rfl⟩
  · have e1 : upTo n 12 = false := by simp [upTo, h]
    rw [e1]
    go_enter Tryz.func21, Tryz.ntmps21
    go_wp2
    go_ret
    exact ⟨rfl, rfl⟩

end Go.Proofs.YtpohlhejeaafdaaGreatDoor

namespace Go.Proofs.YtpohlhejeaafdaaGreatDoor
set_option linter.unusedVariables false
set_option linter.unusedSimpArgs false
set_option maxRecDepth 100000
open Go.RowKit Go.Lib

theorem memE_iff {code : ByteArray} {l : List ByteArray} : memB code l = true ↔ code ∈ l := by
  unfold memB
  rw [List.any_eq_true]
  constructor
  · rintro ⟨x, hx, e⟩
    have := of_decide_eq_true e
    rw [← this]; exact hx
  · intro h
    exact ⟨code, h, by simp⟩
theorem leaf_mem {c : List Ac} {code : ByteArray} (h : ¬ idxP (hasCode code) c < 0) : memB code (lvs c) = decide (idxP (hasPar code) c < 0) := by
  rw [Bool.eq_iff_iff, memE_iff, decide_eq_true_eq]
  unfold lvs
  rw [List.mem_map]
  constructor
  · rintro ⟨a, ha, rfl⟩
    have := (List.mem_filter.1 ha).2
    unfold leafB at this
    exact of_decide_eq_true this
  · intro hp
    obtain ⟨j, hj, _, hj2, _⟩ := idxP_some (p := hasCode code) (l := c) (by omega)
    have hc : (c.getD j ac0).code = code := of_decide_eq_true hj2
    refine ⟨c.getD j ac0, List.mem_filter.2 ⟨?_, ?_⟩, hc⟩
    · rw [List.getD_eq_getElem?_getD, List.getElem?_eq_getElem hj]
      exact List.getElem_mem hj
    · unfold leafB
      rw [hc]
      exact decide_eq_true hp
/-- The same, by who is whose parent. -/
theorem leafBad_par (c : List Ac) (code : ByteArray) : leafBad c code = if idxP (hasCode code) c < 0 then 6 else if idxP (hasPar code) c < 0 then 0 else 12 := by
  unfold leafBad
  by_cases h1 : idxP (hasCode code) c < 0
  · rw [if_pos h1, if_pos h1]
  · rw [if_neg h1, if_neg h1, leaf_mem h1]
    by_cases h2 : idxP (hasPar code) c < 0
    · rw [decide_eq_true h2]; simp [h2]
    · rw [decide_eq_false h2]; simp [h2]

set_option maxHeartbeats 1000000 in
theorem refLeafE_any (a : Option Addr) (cap : Nat) (l : List Ac) (c : ByteArray) (w : World) (h : IsSl w a l cap) (hlen : l.length ≤ 60) :
    Calls Tryz.prog 23 #[.slice a l.length cap, .string c] w fun e w' => e = .returned (.int .i64 (leafBad l c)) ∧ w' = w := by
  have Hlen : (l.length : Int) ≤ 60 := by omega
  have HA := refAt_any a cap l c w (by omega) h
  by_cases h1 : idxP (hasCode c) l < 0
  · have er : leafBad l c = 6 := by rw [leafBad_par, if_pos h1]
    rw [er]
    generalize idxP (hasCode c) l = r at *
    have HHA : Hid (Calls _ _ _ _ _) := HA
    clear HA h er
    go_enter Tryz.func23, Tryz.ntmps23
    go_wp2_with (go_at_call 39; refine HHA.out.mono ?_; rintro e w' ⟨rfl, rfl⟩)
    go_ret
    exact ⟨rfl, rfl⟩
  obtain ⟨j, hj, ej, _, _⟩ := idxP_some (p := hasCode c) (l := l) (by omega)
  rw [ej] at HA
  rcases h.lies with h1' | ⟨b, off, rfl, hlt, hc⟩
  · rw [h1'] at hj; simp at hj
  have Hc : Hid (AcsAt w b off l) := hc
  obtain ⟨res, hres⟩ : ∃ res, leafBad l c = res := ⟨_, rfl⟩
  have Hres : Hid ((if decide (idxFrom (hasPar c) 0 (l.drop 0) < 0) = true then (0 : Int) else 12) = res) := by
    unfold Hid
    rw [← hres, leafBad_par, if_neg h1]
    by_cases h2 : idxP (hasPar c) l < 0
    · rw [if_pos h2]; exact if_pos (decide_eq_true h2)
    · rw [if_neg h2]; exact if_neg (by rw [decide_eq_true_eq]; exact h2)
  rw [hres]
  clear hres h hc h1 ej
  have i0 : (0 : Int) ≤ j := by omega
  have HHA : Hid (Calls _ _ _ _ _) := HA
  clear HA
  go_enter Tryz.func23, Tryz.ntmps23
  go_wp2_with (go_at_call 39; refine HHA.out.mono ?_; rintro e w' ⟨rfl, rfl⟩)
  go_loop [6] (fun s6 => ∃ k : Nat, k ≤ l.length ∧ s6 = .int .i64 k ∧ Hid ((if decide (idxFrom (hasPar c) k (l.drop k) < 0) = true then (0 : Int) else 12) = res)) (fun s6 => l.length - (RowKit.intOf s6).toNat)
  case atStart => exact ⟨0, Nat.zero_le _, rfl, Hres⟩
  case round =>
    obtain ⟨k, hk, rfl, H⟩ := hrel
    by_cases hlt2 : k < l.length
    · have hn := Hc.out k hlt2
      have E := H.out
      rw [acs_drop l k hlt2, idxFrom] at E
      clear H
      generalize l.getD k ac0 = x at *
      obtain ⟨x0, x1, x2, x3, x4⟩ := x
      obtain ⟨c0, c1, c2, c3, c4⟩ := hn
      simp only at c0 c1 c2 c3 c4
      have k0 : (0 : Int) ≤ k := by omega
      have k1 : (k : Int) < l.length := by omega
      by_cases hx : x3 = c
      · rw [if_pos (by simp [hasPar, hx] : hasPar c ⟨x0, x1, x2, x3, x4⟩ = true)] at E
        have er : res = 12 := by
          rw [← E, if_neg]
          simp
        subst er
        subst hx
        clear E
        go_wp2
        go_ret
        exact ⟨rfl, rfl⟩
      · have hx' := ch_ne hx
        rw [if_neg (by simp [hasPar, hx] : ¬ hasPar c ⟨x0, x1, x2, x3, x4⟩ = true)] at E
        have HN : Hid (_ = res) := E
        clear E
        go_wp2
        go_round
        case rel => exact ⟨k + 1, by omega, by go_num, HN⟩
        case measure => simp [RowKit.intOf]; omega
    · have hk2 : k = l.length := by omega
      subst hk2
      have er : res = 0 := by
        rw [← H.out, List.drop_length, if_pos]
        simp [idxFrom]
      subst er
      go_wp2
      go_ret
      exact ⟨rfl, rfl⟩
end Go.Proofs.YtpohlhejeaafdaaGreatDoor

namespace Go.Proofs.YtpohlhejeaafdaaGreatDoor
set_option linter.unusedVariables false
set_option linter.unusedSimpArgs false
set_option maxRecDepth 100000
open Go.RowKit Go.Lib

set_option maxHeartbeats 4000000 in
theorem refEntry_any (ca : Option Addr) (cc : Nat) (c : List Ac) (r : ByteArray) (en pe : Int) (a : Option Addr) (cap : Nat) (l : List Ln) (w : World) (hc : IsSl w ca c cc) (hok : ∀ k, k < c.length → (c.getD k ac0).code.size ≤ maxLen ∧ (c.getD k ac0).name.size ≤ maxLen) (h : IsLn w a l cap) :
    Calls Tryz.prog 5 #[.slice ca c.length cc, .agg #[.string r, .int .i64 en, .int .i64 pe, .slice a l.length cap]] w fun e w' => e = .returned (.int .i64 (entBad c r en pe l)) ∧ Below w.heap.size w w' := by
  have b0 : Below w.heap.size w (w.alloc (.cells #[.string r, .int .i64 en, .int .i64 pe, .slice a l.length cap] 29)) := (Below.refl _ w).alloc (Nat.le_refl _) _
  have x0 := Box4.new w r en pe (.slice a l.length cap)
  have hs0 : (w.alloc (.cells #[.string r, .int .i64 en, .int .i64 pe, .slice a l.length cap] 29)).heap.size = w.heap.size + 1 := by simp
  obtain ⟨res, hres⟩ : ∃ res, entBad c r en pe l = res := ⟨_, rfl⟩
  rw [hres]
  have Hres : Hid (entBad c r en pe l = res) := hres
  clear hres
  have hC := refChart_any ca cc c _ (hc.below b0) hok
  have HC : Hid (Calls _ _ _ _ _) := hC
  clear hC
  by_cases h1 : chBad c = 0
  · rw [h1] at HC
    have hlen := chBad_len h1
    have ER1 : Hid (res = if headBad r en pe l.length ≠ 0 then headBad r en pe l.length else if linesBad c l ≠ 0 then linesBad c l else if (curSums l).any someL = true then 11 else 0) := by
      unfold Hid
      rw [← Hres.out]
      unfold entBad
      rw [if_neg (by simp [h1])]
    go_enter Tryz.func5, Tryz.ntmps5
    go_wp2_with fail
    refine HC.out.mono ?_
    rintro e w1 ⟨rfl, hb1⟩
    rw [hs0] at hb1
    have B1 := b0.trans (hb1.mono (by omega))
    have hs1 := hb1.size
    rw [hs0] at hs1
    have y1 := x0.below hb1 (by omega)
    have c0 := y1.c0
    have c1 := y1.c1
    have c2 := y1.c2
    have c3 := y1.c3
    have HR := refRef_any r w1
    have HE := entity_any en w1
    have HP := period_any pe w1
    clear HC hb1 b0 x0 hs0
    cases hr : isRefB r
    · have er : res = 2 := by rw [ER1.out]; simp [headBad, hr]
      subst er
      rw [hr] at HR
      go_wp2_with (go_at_call 20; refine HR.mono ?_; rintro e w' ⟨rfl, rfl⟩)
      go_ret
      exact ⟨rfl, B1⟩
    rw [hr] at HR
    go_wp2_with fail
    refine HR.mono ?_
    rintro e w' ⟨rfl, rfl⟩
    go_wp2_with fail
    refine HE.mono ?_
    rintro e w' ⟨rfl, rfl⟩
    go_wp2_with fail
    refine HP.mono ?_
    rintro e w2 ⟨rfl, rfl⟩
    clear HR HE HP
    cases h3 : upTo en 12
    · have er : res = 1 := by rw [ER1.out]; simp [headBad, hr, h3]
      subst er
      go_wp2
      go_ret
      exact ⟨rfl, B1⟩
    cases h4 : upTo pe 120
    · have er : res = 1 := by rw [ER1.out]; simp [headBad, hr, h4]
      subst er
      go_wp2
      go_ret
      exact ⟨rfl, B1⟩
    by_cases h5 : l.length < 2
    · have er : res = 3 := by rw [ER1.out]; simp [headBad, hr, h3, h4, h5]
      have h5' : (l.length : Int) < 2 := by omega
      subst er
      go_wp2
      go_ret
      exact ⟨rfl, B1⟩
    have h5' : ¬ (l.length : Int) < 2 := by omega
    by_cases h6 : 20 < l.length
    · have er : res = 4 := by rw [ER1.out]; simp [headBad, hr, h3, h4, h5, h6]
      have h6' : (20 : Int) < l.length := by omega
      subst er
      go_wp2
      go_ret
      exact ⟨rfl, B1⟩
    have h6' : ¬ (20 : Int) < l.length := by omega
    have ER : Hid (res = if linesBad c l ≠ 0 then linesBad c l else if (curSums l).any someL = true then 11 else 0) := by
      unfold Hid
      rw [ER1.out]
      rw [if_neg (by simp [headBad, hr, h3, h4, h5, h6])]
    rcases h.lies with h0 | ⟨b, off, rfl, hbl, hcl⟩
    · rw [h0] at h5; simp at h5
    have Hc : Hid (LnsAt w b off l) := hcl
    have Hsl : Hid (IsLn w (some ⟨b, off, none⟩) l cap) := h
    have HL : Hid (∀ code W, Below w.heap.size w W → Calls Tryz.prog 23 #[.slice ca c.length cc, .string code] W fun e w' => e = .returned (.int .i64 (leafBad c code)) ∧ w' = W) := fun code W hW => refLeafE_any ca cc c code W (hc.below hW) hlen
    clear Hres ER1 hcl h hc h1 hok
    clear c0 c1 c2
    go_wp2
    go_loopw [9] (fun i wr => ∃ k : Nat, k ≤ l.length ∧ i = .int .i64 k ∧ Hid (res = if linesBad c (l.drop k) ≠ 0 then linesBad c (l.drop k) else if (curSums l).any someL = true then 11 else 0) ∧ Hid (∀ x ∈ l.take k, lnBad c x = 0) ∧ Below w2.heap.size w2 wr) (fun i _ => l.length - (RowKit.intOf i).toNat)
    case atStart => exact ⟨0, Nat.zero_le _, rfl, ER, (fun x hx => by simp at hx), Below.refl _ _⟩
    case round =>
      obtain ⟨k, hk, rfl, H, HA, BW⟩ := hrel
      have hws := BW.size
      have B3 := B1.trans (BW.mono (by omega))
      have y3 := y1.below BW (by omega)
      have e3 := y3.c3
      by_cases hlt : k < l.length
      · have hn := (Hc.out k hlt).below B3 hbl
        have E := H.out
        rw [lns_drop l k hlt, linesBad] at E
        have B4 := B3.alloc B3.size (.cells (l.getD k ln0).cells 44)
        have BW4 := BW.alloc hws (.cells (l.getD k ln0).cells 44)
        have hcall := HL.out (l.getD k ln0).acc _ B4
        have hx := LnAt.new wr (l.getD k ln0) 44
        have HA2 : Hid (lnBad c (l.getD k ln0) = 0 → ∀ x ∈ l.take (k + 1), lnBad c x = 0) := fun h0 x hx => by
          rw [lns_take l k hlt] at hx
          rcases List.mem_append.1 hx with hx | hx
          · exact HA.out x hx
          · rw [List.mem_singleton.1 hx]; exact h0
        have HLL : Hid (lnBad c (l.getD k ln0) = _) := lnBad_leaf c (l.getD k ln0)
        generalize l.getD k ln0 = x at *
        have Hcall : Hid (Calls _ _ _ _ _) := hcall
        have HE : Hid (res = _) := E
        clear hcall E H HA
        obtain ⟨x0, x1, x2⟩ := x
        obtain ⟨c0, c1, c2⟩ := hn
        obtain ⟨d0, d1, d2⟩ := hx
        simp only [Ln.cells, Nat.zero_add] at c0 c1 c2 B4 BW4 Hcall d0 d1 d2
        simp only at HE HLL
        have HCu := refCur_any x1
        have HAm := refAmount_any x2
        obtain ⟨lb, hlb⟩ : ∃ lb, leafBad c x0 = lb := ⟨_, rfl⟩
        rw [hlb] at Hcall HLL
        clear hlb
        have j0 : (0 : Int) ≤ k := by omega
        have j1 : (k : Int) < l.length := by omega
        have HV : Hid (∀ v, lnBad c ⟨x0, x1, x2⟩ = v → v ≠ 0 → res = v) := fun v hv h0 => by
          have := HE.out
          rw [hv, if_pos h0, if_pos h0] at this
          exact this
        have HW : Hid (lnBad c ⟨x0, x1, x2⟩ = 0 → res = if linesBad c (l.drop (k + 1)) ≠ 0 then linesBad c (l.drop (k + 1)) else if (curSums l).any someL = true then 11 else 0) := fun hv => by
          have := HE.out
          rw [hv, if_neg (show ¬ ((0 : Int) ≠ 0) by simp)] at this
          exact this
        clear HE
        by_cases g1 : lb = 0
        · subst g1
          cases g2 : isCur x1
          · have er := HV.out 2 (by rw [HLL.out, if_neg (by simp), if_pos g2]) (by decide)
            subst er
            have HC1 := HCu (wr.alloc (.cells #[.string x0, .string x1, .int .i64 x2] 44))
            rw [g2] at HC1
            clear HV HW HA2 HLL HAm HCu
            go_wp2_with fail
            refine Hcall.out.mono ?_
            rintro e w' ⟨rfl, rfl⟩
            go_wp2_with fail
            refine HC1.mono ?_
            rintro e w' ⟨rfl, rfl⟩
            go_wp2
            go_ret
            exact ⟨rfl, B4⟩
          have HC1 := HCu (wr.alloc (.cells #[.string x0, .string x1, .int .i64 x2] 44))
          have HA1 := HAm (wr.alloc (.cells #[.string x0, .string x1, .int .i64 x2] 44))
          rw [g2] at HC1
          cases g3 : isAmtB x2
          · have er := HV.out 1 (by rw [HLL.out, if_neg (by simp), if_neg (by rw [g2]; simp), if_pos (.inr g3)]) (by decide)
            subst er
            rw [g3] at HA1
            clear HV HW HA2 HLL HAm HCu
            go_wp2_with fail
            refine Hcall.out.mono ?_
            rintro e w' ⟨rfl, rfl⟩
            go_wp2_with fail
            refine HC1.mono ?_
            rintro e w' ⟨rfl, rfl⟩
            go_wp2_with fail
            refine HA1.mono ?_
            rintro e w' ⟨rfl, rfl⟩
            go_wp2
            go_ret
            exact ⟨rfl, B4⟩
          rw [g3] at HA1
          by_cases g4 : x2 = 0
          · have er := HV.out 1 (by rw [HLL.out, if_neg (by simp), if_neg (by rw [g2]; simp), if_pos (.inl g4)]) (by decide)
            subst er
            subst g4
            clear HV HW HA2 HLL HAm HCu
            go_wp2_with fail
            refine Hcall.out.mono ?_
            rintro e w' ⟨rfl, rfl⟩
            go_wp2_with fail
            refine HC1.mono ?_
            rintro e w' ⟨rfl, rfl⟩
            go_wp2_with fail
            refine HA1.mono ?_
            rintro e w' ⟨rfl, rfl⟩
            go_wp2
            go_ret
            exact ⟨rfl, B4⟩
          · have hz : lnBad c ⟨x0, x1, x2⟩ = 0 := by rw [HLL.out, if_neg (by simp), if_neg (by rw [g2]; simp), if_neg (by simp [g4, g3])]
            have HE2 : Hid _ := HW.out hz
            have HA3 : Hid _ := HA2.out hz
            have g4' : (x2 == 0) = false := by simpa using g4
            clear HV HW HA2 HLL HAm HCu hz
            go_wp2_with fail
            refine Hcall.out.mono ?_
            rintro e w' ⟨rfl, rfl⟩
            go_wp2_with fail
            refine HC1.mono ?_
            rintro e w' ⟨rfl, rfl⟩
            go_wp2_with fail
            refine HA1.mono ?_
            rintro e w' ⟨rfl, rfl⟩
            go_wp2
            go_roundw
            case rel => exact ⟨k + 1, by omega, by go_num, HE2, HA3, BW4⟩
            case measure => simp [RowKit.intOf]; omega
        · have er := HV.out lb (by rw [HLL.out, if_pos g1]) g1
          subst er
          have g1' : (res != 0) = true := by simpa using g1
          clear HV HW HA2 HLL HAm HCu
          go_wp2_with fail
          refine Hcall.out.mono ?_
          rintro e w' ⟨rfl, rfl⟩
          go_wp2
          go_ret
          exact ⟨rfl, B4⟩
      · have hk2 : k = l.length := by omega
        subst hk2
        have E := H.out
        rw [List.drop_length] at E
        have HE : Hid ((if ((curSums l).drop 0).any someL = true then (11 : Int) else 0) = res) := E.symm
        have hw : Within mostA l := fun x hx => lnBad_amt (HA.out x (by rw [List.take_length]; exact hx))
        have hS := refSums_any r en pe (some ⟨b, off, none⟩) cap l wr (by omega) (by omega) hw (Hsl.out.below B3)
        have HS : Hid (Calls _ _ _ _ _) := hS
        have hgl : (curSums l).length ≤ 20 := by have := grp_length (l.map bareL); rw [List.length_map] at this; unfold curSums; omega
        have e0 := y3.c0
        have e1 := y3.c1
        have e2 := y3.c2
        clear hS hw E H HA HL ER Hc Hsl
        go_wp2_with fail
        refine HS.out.mono ?_
        rintro e w3 ⟨v3, rfl, r3, b3⟩
        obtain ⟨a3, k3, rfl, hsl3⟩ := r3.isLn
        have B5 := B3.trans (b3.mono (by omega))
        have HS3 : Hid (IsLn w3 a3 (curSums l) k3) := hsl3
        generalize curSums l = sm at *
        have hgl' : (sm.length : Int) ≤ 20 := by omega
        clear HS r3 b3 hsl3 e0 e1 e2 e3
        go_wp2
        go_loopw [12] (fun i wz => ∃ m : Nat, m ≤ sm.length ∧ i = .int .i64 m ∧ Hid ((if (sm.drop m).any someL = true then (11 : Int) else 0) = res) ∧ wz = w3) (fun i _ => sm.length - (RowKit.intOf i).toNat)
        case atStart => exact ⟨0, Nat.zero_le _, rfl, HE, rfl⟩
        case round =>
          obtain ⟨m, hm, rfl, HM, rfl⟩ := hrel
          by_cases hlt2 : m < sm.length
          · rcases HS3.out.lies with h0 | ⟨b3, o3, rfl, _, q3⟩
            · rw [h0] at hlt2; simp at hlt2
            have hn := q3 m hlt2
            have E := HM.out
            rw [lns_drop sm m hlt2, List.any_cons] at E
            have HE3 : Hid (_ = res) := E
            clear E HM q3 HS3
            generalize sm.getD m ln0 = x at *
            obtain ⟨x0, x1, x2⟩ := x
            obtain ⟨c0, c1, c2⟩ := hn
            simp only at c0 c1 c2
            have j0 : (0 : Int) ≤ m := by omega
            have j1 : (m : Int) < sm.length := by omega
            by_cases g : x2 = 0
            · have HN : Hid ((if (sm.drop (m + 1)).any someL = true then (11 : Int) else 0) = res) := by
                unfold Hid; rw [← HE3.out]; simp [someL, nullL, g]
              subst g
              clear HE3
              go_wp2
              go_roundw
              case rel => exact ⟨m + 1, by omega, by go_num, HN, by first | rfl | trivial⟩
              case measure => simp [RowKit.intOf]; omega
            · have er : res = 11 := by rw [← HE3.out]; simp [someL, nullL, g]
              subst er
              have g' : (x2 != 0) = true := by simpa using g
              clear HE3
              go_wp2
              go_ret
              exact ⟨rfl, B5⟩
          · have hm2 : m = sm.length := by omega
            subst hm2
            have er : res = 0 := by rw [← HM.out, List.drop_length]; rfl
            subst er
            go_wp2
            go_ret
            exact ⟨rfl, B5⟩
  · rw [show chBad c = res by rw [← Hres.out]; unfold entBad; rw [if_pos h1]] at HC h1
    clear Hres hc h
    have h1' : (res != 0) = true := by simpa using h1
    go_enter Tryz.func5, Tryz.ntmps5
    go_wp2_with fail
    refine HC.out.mono ?_
    rintro e w1 ⟨rfl, hb1⟩
    have B1 := b0.trans (hb1.mono (by simp))
    clear HC hb1 b0 x0
    go_wp2
    go_ret
    exact ⟨rfl, B1⟩
end Go.Proofs.YtpohlhejeaafdaaGreatDoor
