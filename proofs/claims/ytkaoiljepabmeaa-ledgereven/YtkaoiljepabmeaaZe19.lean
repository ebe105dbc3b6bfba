/-
  The contracts of chart.Find and of dayref1.At.
-/
import Derived.Test.YtkaoiljepabmeaaZe18
import Derived.Deep.RegionLaw
import Derived.Test.YtkaoiljepabmeaaZe6
namespace Go.Proofs.Ytkaoiljepabmeaa
set_option linter.unusedVariables false
set_option linter.unusedSimpArgs false
set_option maxRecDepth 100000
open Go.RowKit Go.Lib

theorem refGrouped_none (a : Option Addr) (cap : Nat) (w : World) :
    Calls Try.prog 30 #[.slice a 0 cap] w fun e w' => e = .returned (.slice none 0 0) ∧ Below w.heap.size w w' := by
  go_enter Try.func30, Try.ntmps30
  go_wp2
  refine wp_loop_rounds 1 ?_
  rw [rounds_succ]
  go_wp2
  go_ret
  exact ⟨rfl, Below.refl _ _⟩

theorem refGrouped_any (a : Option Addr) (cap : Nat) (l : List Ln) (w : World) (hlen : l.length ≤ 20) (hwi : Within mostA l) (h : IsLn w a l cap) :
    Calls Try.prog 30 #[.slice a l.length cap] w fun e w' => ∃ v, e = .returned v ∧ LnRow w' w.heap.size v (grp l) ∧ Below w.heap.size w w' := by
  rcases h.lies with rfl | ⟨b, off, rfl, hlt, hc⟩
  · refine (refGrouped_none a cap w).mono ?_
    rintro e w' ⟨rfl, hb⟩
    exact ⟨_, rfl, LnRow.nil _ _, hb⟩
  · exact refGrouped_some b off cap l w hlt hlen hwi hc

set_option maxHeartbeats 4000000 in
theorem refSums_some (r : ByteArray) (en pe : Int) (b off cap : Nat) (l : List Ln) (w : World) (hb : b < w.heap.size) (hlen : l.length ≤ 20) (hwi : Within mostA l) (hc : LnsAt w b off l) :
    Calls Try.prog 19 #[.agg #[.string r, .int .i64 en, .int .i64 pe, .slice (some ⟨b, off, none⟩) l.length cap]] w fun e w' => ∃ v, e = .returned v ∧ LnRow w' w.heap.size v (curSums l) ∧ Below w.heap.size w w' := by
  have Hc : Hid (LnsAt w b off l) := hc
  have b0 : Below w.heap.size w (w.alloc (.cells #[.string r, .int .i64 en, .int .i64 pe, .slice (some ⟨b, off, none⟩) l.length cap] 31)) := (Below.refl _ w).alloc (Nat.le_refl _) _
  have x0 := Box4.new w r en pe (.slice (some ⟨b, off, none⟩) l.length cap)
  have hs0 : (w.alloc (.cells #[.string r, .int .i64 en, .int .i64 pe, .slice (some ⟨b, off, none⟩) l.length cap] 31)).heap.size = w.heap.size + 1 := by simp
  have HG : Hid (∀ v W, LnRow W (w.heap.size + 1) v (l.map bareL) → Below w.heap.size w W → Calls Try.prog 30 #[v] W fun e w' => ∃ v, e = .returned v ∧ LnRow w' w.heap.size v (curSums l) ∧ Below w.heap.size w w') := fun v W hr hW => by
    obtain ⟨a', c', rfl, hsl⟩ := hr.isLn
    refine (refGrouped_any a' c' (l.map bareL) W (by simpa using hlen) (within_bare hwi) hsl).mono ?_
    rintro e w' ⟨v, rfl, hr', hb'⟩
    exact ⟨v, rfl, hr'.mono hW.size, hW.trans (hb'.mono hW.size)⟩
  clear hc hwi
  have Hlen : (l.length : Int) ≤ 20 := by omega
  obtain ⟨i0, hi, hz0, hz1, hz2⟩ := info_parts ln_info
  obtain ⟨W0, hW0⟩ : ∃ W0, w.alloc (.cells #[.string r, .int .i64 en, .int .i64 pe, .slice (some ⟨b, off, none⟩) l.length cap] 31) = W0 := ⟨_, rfl⟩
  go_enter Try.func19, Try.ntmps19
  go_wp2
  rw [hW0] at b0 x0 hs0
  have Hb0 : Hid (Below w.heap.size w W0) := b0
  have Hx0 : Hid (Box4 W0 _ _ _ _ _) := x0
  have Hs0 : Hid (W0.heap.size = w.heap.size + 1) := hs0
  clear hW0 b0 x0 hs0
  go_loopw [3, 4] (fun s i wr => ∃ k : Nat, k ≤ l.length ∧ i = .int .i64 k ∧ Hid (LnRow wr (w.heap.size + 1) s ((l.take k).map bareL)) ∧ Below (w.heap.size + 1) W0 wr) (fun _ i _ => l.length - (intOf i).toNat)
  case atStart => exact ⟨0, Nat.zero_le _, rfl, LnRow.nil _ _, Below.refl _ _⟩
  case round =>
    obtain ⟨k, hk, rfl, R, BW⟩ := hrel
    have hws := BW.size
    rw [Hs0.out] at hws
    have B1 := Hb0.out.trans (BW.mono (Nat.le_succ _))
    have y1 := Hx0.out.below BW (Nat.lt_succ_self _)
    have dl := y1.c3
    by_cases hlt : k < l.length
    · have hn := (Hc.out k hlt).below B1 hb
      have hst : (l.take (k + 1)).map bareL = (l.take k).map bareL ++ [bareL (l.getD k ln0)] := by rw [lns_take l k hlt, List.map_append]; rfl
      have hfl : ((l.take k).map bareL).length = k := by rw [List.length_map, List.length_take]; omega
      generalize l.getD k ln0 = x at *
      generalize (l.take k).map bareL = fs at *
      obtain ⟨x0, x1, x2⟩ := x
      obtain ⟨c0, c1, c2⟩ := hn
      simp only [bareL] at c0 c1 c2 hst
      obtain ⟨a, cq, rfl, _⟩ := R.out.isLn
      have Hfl : Hid (fs.length = k) := hfl
      rw [hfl] at R ⊢
      clear hfl
      have j0 : (0 : Int) ≤ k := by omega
      have j1 : (k : Int) < l.length := by omega
      have Hst : Hid (_ = _) := hst
      have hro : World.ownsRow (wr.alloc (.cells #[.string ByteArray.empty, .string x1, .int .i64 x2] 43)).drew (w.heap.size + 1) 43 3 (.slice a k cq) k (lnRow fs) := by
        have := World.ownsRow.drew (World.ownsRow.alloc R.out (.cells #[.string ByteArray.empty, .string x1, .int .i64 x2] 43))
        unfold LnRow at this
        rw [Hfl.out] at this
        exact this
      have HRO : Hid (World.ownsRow _ _ _ _ _ _ _) := hro
      have k1 : ∀ j u, ([.string ByteArray.empty, .string x1, .int .i64 x2] : List Value)[j]? = some u → (wr.alloc (.cells #[.string ByteArray.empty, .string x1, .int .i64 x2] 43)).drew.cell? ((⟨wr.heap.size, 0, none⟩ : Addr).add j) = some u := fun j u h => cells_three wr ByteArray.empty x1 x2 wr.heap.size 43 rfl j u h
      have K1 : Hid (∀ j u, ([.string ByteArray.empty, .string x1, .int .i64 x2] : List Value)[j]? = some u → (wr.alloc (.cells #[.string ByteArray.empty, .string x1, .int .i64 x2] 43)).drew.cell? ((⟨wr.heap.size, 0, none⟩ : Addr).add j) = some u) := k1
      have s1 : ∀ u ∈ ([.string ByteArray.empty, .string x1, .int .i64 x2] : List Value), u.oneCell' = true := by intro u hu; simp at hu; rcases hu with rfl | rfl | rfl <;> rfl
      have s2 : Hid (k + 1 ≤ maxLen) := by unfold Hid maxLen; omega
      have s3 : Hid ((k + 1) * 40 ≤ 140737488355328) := by unfold Hid; omega
      have s4 : Hid (w.heap.size + 1 ≤ (wr.alloc (.cells #[.string ByteArray.empty, .string x1, .int .i64 x2] 43)).drew.heap.size) := by unfold Hid; simp; omega
      have s5 : Hid ((wr.alloc (.cells #[.string ByteArray.empty, .string x1, .int .i64 x2] 43)).drew.heap.size = wr.heap.size + 1) := by unfold Hid; simp
      have B2 := (BW.alloc (by omega) (.cells #[.string ByteArray.empty, .string x1, .int .i64 x2] 43)).drew
      have hoj : ∀ j, (Value.slice a k cq).ownBlock = some j → w.heap.size + 1 ≤ j := fun j e => (World.ownsRow.lt hro j e).1
      clear k1 hst hro R
      go_wp2_with fail
      go_region_law (refine step_append_lies _ rfl (.tmp 12) (.tmp 26) 29 rfl (w.heap.size + 1) 43 i0 (.agg #[.string ByteArray.empty, .string ByteArray.empty, .int .i64 0]) 3 40 Try.underlying29 hi hz0 hz1 hz2 rfl (Nat.zero_lt_succ _) (.slice a k cq) k (lnRow fs) rfl HRO.out ⟨wr.heap.size, 0, none⟩ 1 1 [.string ByteArray.empty, .string x1, .int .i64 x2] rfl rfl K1.out s1 (Nat.zero_lt_one) s2.out s3.out s4.out (wr.heap.size + 1) s5.out ?_; intro g' cap' w1 hown' hgrow hat hlt2)
      all_goals
        have B3 := B2.grown hgrow (by simp; omega) (fun j e => by have := hoj j e; omega)
        have HR3 : Hid (LnRow w1 (w.heap.size + 1) (.slice (some ⟨g', 0, none⟩) (k + 1) cap') ((l.take (k + 1)).map bareL)) := by
          unfold Hid
          rw [Hst.out]
          unfold LnRow
          rw [lnRow_append, lnRow_one, List.length_append, Hfl.out]
          exact hown'
        clear hown' hgrow hat
        go_wp2
        go_roundw
        case rel => exact ⟨k + 1, by omega, by go_num, HR3.out, B3⟩
        case measure => simp [intOf]; omega
    · have hk2 : k = l.length := by omega
      subst hk2
      have R2 := R.out
      rw [List.take_length] at R2
      have hG := HG.out _ wr R2 B1
      have HGG : Hid (Calls _ _ _ _ _) := hG
      clear R2 hG HG R
      go_wp2_with fail
      refine HGG.out.mono ?_
      rintro e w2 ⟨v2, rfl, r2, b2⟩
      have HR : Hid (LnRow _ _ _ _) := r2
      clear r2 HGG
      go_wp2
      go_ret
      exact ⟨v2, rfl, HR.out, b2⟩

theorem refSums_any (r : ByteArray) (en pe : Int) (a : Option Addr) (cap : Nat) (l : List Ln) (w : World) (hlen : l.length ≤ 20) (hl : 0 < l.length) (hwi : Within mostA l) (h : IsLn w a l cap) :
    Calls Try.prog 19 #[.agg #[.string r, .int .i64 en, .int .i64 pe, .slice a l.length cap]] w fun e w' => ∃ v, e = .returned v ∧ LnRow w' w.heap.size v (curSums l) ∧ Below w.heap.size w w' := by
  rcases h.lies with h0 | ⟨b, off, rfl, hlt, hc⟩
  · rw [h0] at hl; simp at hl
  · exact refSums_some r en pe b off cap l w hlt hlen hwi hc
end Go.Proofs.Ytkaoiljepabmeaa

namespace Go.Proofs.Ytkaoiljepabmeaa
set_option linter.unusedVariables false
set_option linter.unusedSimpArgs false
open Go.RowKit Go.Lib

theorem less_self : ∀ a : List UInt8, Op.bytesLess a a = false
  | [] => rfl
  | x :: a => by
    have := less_self a
    simp [Op.bytesLess, this]

theorem less_total : ∀ a b : List UInt8, Op.bytesLess a b = false → a ≠ b → Op.bytesLess b a = true
  | [], [], _, h => absurd rfl h
  | [], _ :: _, h, _ => by simp [Op.bytesLess] at h
  | _ :: _, [], _, _ => by simp [Op.bytesLess]
  | x :: a, y :: b, h, hne => by
    simp only [Op.bytesLess, Bool.or_eq_false_iff, decide_eq_false_iff_not, Bool.and_eq_false_iff, beq_eq_false_iff_ne] at h
    obtain ⟨h1, h2⟩ := h
    by_cases e : x = y
    · subst e
      have := less_total a b (by simpa using h2) (fun e => hne (by rw [e]))
      simp [Op.bytesLess, this]
    · have : y < x := by
        rw [UInt8.lt_iff_toNat_lt] at h1 ⊢
        have : x.toNat ≠ y.toNat := fun h => e (UInt8.toNat_inj.1 h)
        omega
      simp [Op.bytesLess, this]

theorem less_trans : ∀ a b c : List UInt8, Op.bytesLess a b = true → Op.bytesLess b c = true → Op.bytesLess a c = true
  | _, [], _, h, _ => by cases ‹List UInt8› <;> simp [Op.bytesLess] at h
  | _, _ :: _, [], _, h => by simp [Op.bytesLess] at h
  | [], _ :: _, _ :: _, _, _ => by simp [Op.bytesLess]
  | x :: a, y :: b, z :: c, h1, h2 => by
    simp only [Op.bytesLess, Bool.or_eq_true, decide_eq_true_eq, Bool.and_eq_true, beq_iff_eq] at h1 h2 ⊢
    simp only [UInt8.lt_iff_toNat_lt] at h1 h2 ⊢
    rcases h1 with h1 | ⟨rfl, h1⟩
    · rcases h2 with h2 | ⟨rfl, h2⟩
      · exact .inl (by omega)
      · exact .inl h1
    · rcases h2 with h2 | ⟨rfl, h2⟩
      · exact .inl h2
      · exact .inr ⟨rfl, less_trans a b c h1 h2⟩

theorem nextBad_zero {pre : List Ac} {x : Ac} (h : nextBad pre x = 0) : isCodeB x.code = true ∧ isNameB x.name = true ∧ 1 ≤ x.kind ∧ x.kind ≤ 5 ∧ (pre.length ≠ 0 → leB x.code (pre.getD (pre.length - 1) ac0).code = false) ∧ parBad pre x = 0 := by
  unfold nextBad at h
  split at h
  · omega
  · rename_i h1
    simp only [not_or, Bool.not_eq_false] at h1
    split at h
    · omega
    · rename_i h2
      split at h
      · omega
      · rename_i h3
        refine ⟨h1.1, h1.2, by omega, by omega, fun h0 => ?_, h⟩
        cases hl : leB x.code (pre.getD (pre.length - 1) ac0).code
        · rfl
        · exact absurd ⟨h0, hl⟩ h3

theorem chGo_zero : ∀ (r pre : List Ac), chGo pre r = 0 → ∀ k, k < r.length → nextBad (pre ++ r.take k) (r.getD k ac0) = 0
  | [], _, _, k, hk => by simp at hk
  | x :: r, pre, h, k, hk => by
    rw [chGo] at h
    split at h
    · rename_i hb; exact absurd h hb
    · rename_i hb
      cases k with
      | zero => simpa using hb
      | succ k =>
        have := chGo_zero r (pre ++ [x]) h k (by simpa using hk)
        simpa using this

theorem chBad_next {l : List Ac} (h : chBad l = 0) (k : Nat) (hk : k < l.length) : nextBad (l.take k) (l.getD k ac0) = 0 := by
  have hl := chBad_len h
  unfold chBad at h
  rw [if_neg (by omega)] at h
  have := chGo_zero l [] h k hk
  simpa using this

theorem take_getD (l : List Ac) (k j : Nat) (h : j < k) : (l.take k).getD j ac0 = l.getD j ac0 := by
  rw [List.getD_eq_getElem?_getD, List.getD_eq_getElem?_getD, List.getElem?_take, if_pos h]

theorem code_step {l : List Ac} (h : chBad l = 0) (k : Nat) (hk : k + 1 < l.length) : Op.bytesLess (l.getD k ac0).code.toList (l.getD (k + 1) ac0).code.toList = true := by
  obtain ⟨_, _, _, _, h5, _⟩ := nextBad_zero (chBad_next h (k + 1) hk)
  have hl : (l.take (k + 1)).length = k + 1 := by simp; omega
  have := h5 (by omega)
  rw [hl, show k + 1 - 1 = k by omega, take_getD l (k + 1) k (by omega)] at this
  simp only [leB, Bool.or_eq_false_iff, beq_eq_false_iff_ne] at this
  exact less_total _ _ this.1 this.2

theorem code_less {l : List Ac} (h : chBad l = 0) (i : Nat) : ∀ j, i < j → j < l.length → Op.bytesLess (l.getD i ac0).code.toList (l.getD j ac0).code.toList = true
  | 0, hi, _ => absurd hi (Nat.not_lt_zero _)
  | j + 1, hi, hj => by
    have hs := code_step h j hj
    by_cases e : i = j
    · subst e; exact hs
    · exact less_trans _ _ _ (code_less h i j (by omega) (by omega)) hs

theorem code_inj {l : List Ac} (h : chBad l = 0) {i j : Nat} (hi : i < l.length) (hj : j < l.length) (e : (l.getD i ac0).code = (l.getD j ac0).code) : i = j := by
  rcases Nat.lt_trichotomy i j with hlt | he | hlt
  · have := code_less h i j hlt hj
    rw [e, less_self] at this
    cases this
  · exact he
  · have := code_less h j i hlt hi
    rw [e, less_self] at this
    cases this

theorem code_size {l : List Ac} (h : chBad l = 0) {i : Nat} (hi : i < l.length) : (l.getD i ac0).code.size ≠ 0 := by
  obtain ⟨h1, _⟩ := nextBad_zero (chBad_next h i hi)
  exact ((madeOf_iff (fun r => digR_low)).1 h1).1

theorem idx_code {l : List Ac} (h : chBad l = 0) {i : Nat} (hi : i < l.length) : idxP (hasCode (l.getD i ac0).code) l = (i : Int) := by
  by_cases hn : idxP (hasCode (l.getD i ac0).code) l < 0
  · have := idxP_none hn i hi
    simp [hasCode] at this
  · obtain ⟨j, hj, e, hp, _⟩ := idxP_some (p := hasCode (l.getD i ac0).code) (l := l) (by omega)
    have : (l.getD j ac0).code = (l.getD i ac0).code := by simpa only [hasCode, decide_eq_true_eq] using hp
    rw [e, code_inj h hj hi this]

theorem place_code {l : List Ac} (h : chBad l = 0) {i : Nat} (hi : i < l.length) : placeBad l (l.getD i ac0).code = 0 := by
  have := idx_code h hi
  unfold placeBad
  rw [if_neg (by omega), if_neg (by omega)]

/-- The place of an account's parent. -/
def parOf (l : List Ac) (k : Nat) : Option Nat := if (l.getD k ac0).par.size = 0 then none else some (idxP (hasCode (l.getD k ac0).par) l).toNat

theorem parOf_none {l : List Ac} {k : Nat} : parOf l k = none ↔ (l.getD k ac0).par.size = 0 := by
  unfold parOf
  split <;> simp_all

theorem parOf_some {l : List Ac} (h : chBad l = 0) {k j : Nat} (hk : k < l.length) (e : parOf l k = some j) : j < k ∧ (l.getD j ac0).code = (l.getD k ac0).par ∧ (l.getD j ac0).kind = (l.getD k ac0).kind := by
  unfold parOf at e
  split at e
  · cases e
  rename_i h0
  obtain ⟨_, _, _, _, _, hp⟩ := nextBad_zero (chBad_next h k hk)
  unfold parBad at hp
  rw [if_neg h0] at hp
  split at hp
  · omega
  rename_i h1
  obtain ⟨m, hm, em, hc, _⟩ := idxP_some (p := hasCode (l.getD k ac0).par) (l := l.take k) (by omega)
  have hmk : m < k := by simp only [List.length_take] at hm; omega
  rw [em] at hp
  simp only [Int.toNat_natCast] at hp
  have hp' : ((l.take k).getD m ac0).kind = (l.getD k ac0).kind := by
    split at hp
    · omega
    · rename_i h2
      exact Decidable.not_not.1 h2
  rw [take_getD l k m hmk] at hp' hc
  have hcode : (l.getD m ac0).code = (l.getD k ac0).par := by simpa only [hasCode, decide_eq_true_eq] using hc
  have hi := idx_code h (show m < l.length by omega)
  rw [hcode] at hi
  rw [hi] at e
  simp only [Int.toNat_natCast, Option.some.injEq] at e
  subst e
  exact ⟨hmk, hcode, hp'⟩

/-- Is a place under another one? By so many steps at most. -/
def inU (P : Nat → Option Nat) : Nat → Nat → Nat → Bool
  | 0, _, _ => false
  | f + 1, i, k => k == i || (match P k with | none => false | some j => inU P f i j)

theorem inU_fuel {P : Nat → Option Nat} {n : Nat} (hP : ∀ k j, k < n → P k = some j → j < k) : ∀ (f g k i : Nat), k < n → k < f → k < g → inU P f i k = inU P g i k
  | 0, _, k, i, _, h, _ => absurd h (Nat.not_lt_zero _)
  | _ + 1, 0, k, i, _, _, h => absurd h (Nat.not_lt_zero _)
  | f + 1, g + 1, k, i, hn, h1, h2 => by
    simp only [inU]
    cases hk : P k with
    | none => rfl
    | some j =>
      have := hP k j hn hk
      simp only
      rw [inU_fuel hP f g j i (by omega) (by omega) (by omega)]

end Go.Proofs.Ytkaoiljepabmeaa

namespace Go.Proofs.Ytkaoiljepabmeaa
set_option linter.unusedVariables false
set_option linter.unusedSimpArgs false
set_option maxRecDepth 100000
open Go.RowKit Go.Lib

/-- What is found. -/
def findA (l : List Ac) (c : ByteArray) : Ac := if placeBad l c = 0 then l.getD (idxP (hasCode c) l).toNat ac0 else ac0

theorem refAt_none (a : Option Addr) (cap : Nat) (c : ByteArray) (w : World) :
    Calls Try.prog 29 #[.slice a 0 cap, .string c] w fun e w' => e = .returned (.int .i64 (-1)) ∧ w' = w := by
  go_enter Try.func29, Try.ntmps29
  go_wp2
  refine wp_loop_rounds 1 ?_
  rw [rounds_succ]
  go_wp2
  go_ret
  exact ⟨rfl, rfl⟩

set_option maxHeartbeats 1000000 in
theorem refAt_some (b off cap : Nat) (l : List Ac) (c : ByteArray) (w : World) (hlen : l.length ≤ 1000) (hc : AcsAt w b off l) :
    Calls Try.prog 29 #[.slice (some ⟨b, off, none⟩) l.length cap, .string c] w fun e w' => e = .returned (.int .i64 (idxP (hasCode c) l)) ∧ w' = w := by
  have Hc : Hid (AcsAt w b off l) := hc
  have Hlen : (l.length : Int) ≤ 1000 := by omega
  clear hc
  obtain ⟨res, hres⟩ : ∃ res, idxP (hasCode c) l = res := ⟨_, rfl⟩
  have Hres : Hid (idxP (hasCode c) l = res) := hres
  rw [hres]
  clear hres
  go_enter Try.func29, Try.ntmps29
  go_wp2
  go_loop [5] (fun i => ∃ k : Nat, k ≤ l.length ∧ i = .int .i64 k ∧ Hid (idxFrom (hasCode c) k (l.drop k) = res)) (fun i => l.length - (intOf i).toNat)
  case atStart => exact ⟨0, Nat.zero_le _, rfl, Hres.out⟩
  case round =>
    obtain ⟨k, hk, rfl, H⟩ := hrel
    by_cases hlt : k < l.length
    · have hn := Hc.out k hlt
      have E : Hid ((if hasCode c (l.getD k ac0) = true then (k : Int) else idxFrom (hasCode c) (k + 1) (l.drop (k + 1))) = res) := by
        have := H.out
        rw [acs_drop l k hlt] at this
        exact this
      clear H
      generalize l.getD k ac0 = x at *
      obtain ⟨x0, x1, x2, x3, x4⟩ := x
      obtain ⟨c0, c1, c2, c3, c4⟩ := hn
      simp only at c0 c1 c2 c3 c4
      have i0 : (0 : Int) ≤ k := by omega
      have i1 : (k : Int) < l.length := by omega
      by_cases hx : x0 = c
      · have er : res = k := by rw [← E.out, if_pos (by simp [hasCode, hx])]
        subst er
        subst hx
        go_wp2
        go_ret
        exact ⟨rfl, rfl⟩
      · have hx' := ch_ne hx
        have HN : Hid (idxFrom (hasCode c) (k + 1) (l.drop (k + 1)) = res) := by
          have := E.out; rw [if_neg (by simp [hasCode, hx])] at this; exact this
        go_wp2
        go_round
        case rel => exact ⟨k + 1, by omega, by go_num, HN⟩
        case measure => simp [intOf]; omega
    · have hk2 : k = l.length := by omega
      subst hk2
      have er : res = -1 := by rw [← H.out, List.drop_length]; rfl
      subst er
      go_wp2
      go_ret
      exact ⟨rfl, rfl⟩

theorem refAt_any (a : Option Addr) (cap : Nat) (l : List Ac) (c : ByteArray) (w : World) (hlen : l.length ≤ 1000) (h : IsSl w a l cap) :
    Calls Try.prog 29 #[.slice a l.length cap, .string c] w fun e w' => e = .returned (.int .i64 (idxP (hasCode c) l)) ∧ w' = w := by
  rcases h.lies with rfl | ⟨b, off, rfl, hlt, hc⟩
  · exact refAt_none a cap c w
  · exact refAt_some b off cap l c w hlen hc
end Go.Proofs.Ytkaoiljepabmeaa
