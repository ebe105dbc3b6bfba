/-
  The walk of daylaw1.RateTurns, over any list whose table is known.
-/
import Derived.Test.YtffndpojkhekkaaRate8
namespace Go.Proofs.Ytffndpojkhekkaa
set_option linter.unusedVariables false
open Go.RowKit Go.Lib Go.Maps Math

def oneRt : Rt := ⟨⟨#[69, 85, 82]⟩, ⟨#[85, 83, 68]⟩, 1, 10, 11⟩

theorem one_found : findS (tabS [oneRt]) ⟨#[69, 85, 82]⟩ ⟨#[69, 85, 82]⟩ ⟨#[85, 83, 68]⟩ 1 = (10, 11, 0) := by kernel_rfl
theorem one_conv : convV (10, 11, 0) 100 = 110 ∧ convE (10, 11, 0) 100 = .nilIface := ⟨by kernel_rfl, by kernel_rfl⟩

/-- A list of just one rate, at a block. -/
theorem one_table (b : Nat) (w : World) (hb : b < w.heap.size) (hc : RtAt w b 0 oneRt) :
    Calls Try.prog 7 #[.slice (some ⟨b, 0, none⟩) 1 1] w (TabEnd w (tabS [oneRt])) := by
  refine table_some b 0 1 [oneRt] w hb (by simp) (by simp) ?_ ?_ ?_
  · intro k hk
    obtain rfl : k = 0 := by simp at hk; omega
    exact hc
  · intro k hk
    obtain rfl : k = 0 := by simp at hk; omega
    exact ⟨by unfold maxLen; decide, by unfold maxLen; decide⟩
  · intro k hk
    obtain rfl : k = 0 := by simp at hk; omega
    decide

theorem one_convert (b : Nat) (w : World) (hb : b < w.heap.size) (hc : RtAt w b 0 oneRt) :
    Calls Try.prog 4 #[.slice (some ⟨b, 0, none⟩) 1 1, .string ⟨#[69, 85, 82]⟩, .string ⟨#[69, 85, 82]⟩, .string ⟨#[85, 83, 68]⟩, .int .i64 1, .int .i64 100] w fun e w' => e = .returned (.tuple #[.int .i64 110, .nilIface]) ∧ Below w.heap.size w w' := by
  have := convert_any (some ⟨b, 0, none⟩) 1 1 (tabS [oneRt]) ⟨#[69, 85, 82]⟩ ⟨#[69, 85, 82]⟩ ⟨#[85, 83, 68]⟩ 1 100 w (one_table b w hb hc) (tabS_good _).1 (by omega) (by omega)
  rw [one_found, one_conv.1, one_conv.2] at this
  exact this

theorem findS_self {S : Int × DataW Unit} {base f t : ByteArray} {p : Int} (h : (findS S base f t p).2.2 = 0) : findS S base f f p = (1, 1, 0) := by
  unfold findS at h ⊢
  by_cases c1 : S.1 ≠ 0
  · rw [if_pos c1] at h; exact absurd h c1
  rw [if_neg c1] at h ⊢
  by_cases c2 : isCur base = false ∨ isCur f = false ∨ isCur t = false
  · rw [if_pos c2] at h; simp at h
  rw [if_neg c2] at h
  rw [if_neg (fun h' => c2 (by rcases h' with h | h | h <;> simp [h]))]
  by_cases c3 : upTo p 120 = false
  · rw [if_pos c3] at h; simp at h
  rw [if_neg c3, if_pos rfl]

/-- What the law's calls answer. -/
structure TurnsC (w : World) (a : Option Addr) (len cap : Nat) (S : Int × DataW Unit) : Prop where
  tab : ∀ W, Below w.heap.size w W → Calls Try.prog 7 #[.slice a len cap] W (TabEnd W S)
  good : TabGood S.2

set_option maxHeartbeats 4000000 in
theorem turns_walk2 (a : Option Addr) (len cap : Nat) (S : Int × DataW Unit) (base f t : ByteArray) (p m : Int) (w : World) (hT : TurnsC w a len cap S) (hs : TabSym S.2) (hm : -9223372036854775808 ≤ m) (hm2 : m ≤ 9223372036854775807) :
    Calls Try.prog 3 #[.slice a len cap, .string base, .string f, .string t, .int .i64 p, .int .i64 m] w fun e w' => e = .returned (.bool true) ∧ Below w.heap.size w w' := by
  have HT : Hid (TurnsC w a len cap S) := hT
  obtain ⟨n, d, e, hR⟩ : ∃ n d e, findS S base f t p = (n, d, e) := ⟨_, _, _, rfl⟩
  have hR2 : findS S base t f p = (d, n, e) := by rw [findS_turn hs, hR]
  have F1 : Hid (∀ W, Below w.heap.size w W → Calls Try.prog 5 #[.slice a len cap, .string base, .string f, .string t, .int .i64 p] W fun x w' => x = .returned (.tuple #[.int .i64 n, .int .i64 d, errV e]) ∧ Below w.heap.size w w') := fun W hW => by
    refine (find_any a len cap S base f t p W (hT.tab W hW) hT.good).mono ?_
    rintro x w' ⟨rfl, hb⟩
    rw [hR]
    exact ⟨rfl, hW.trans (hb.mono hW.size)⟩
  have F2 : Hid (∀ W, Below w.heap.size w W → Calls Try.prog 5 #[.slice a len cap, .string base, .string t, .string f, .int .i64 p] W fun x w' => x = .returned (.tuple #[.int .i64 d, .int .i64 n, errV e]) ∧ Below w.heap.size w w') := fun W hW => by
    refine (find_any a len cap S base t f p W (hT.tab W hW) hT.good).mono ?_
    rintro x w' ⟨rfl, hb⟩
    rw [hR2]
    exact ⟨rfl, hW.trans (hb.mono hW.size)⟩
  have O1 : RtAt (w.alloc (.cells #[.string ⟨#[69, 85, 82]⟩, .string ⟨#[85, 83, 68]⟩, .int .i64 1, .int .i64 10, .int .i64 11] 24)) w.heap.size 0 oneRt := RtAt.new w oneRt 24
  have C1 := one_convert w.heap.size _ (by simp) O1
  have B0 : Below w.heap.size w (w.alloc (.cells #[.string ⟨#[69, 85, 82]⟩, .string ⟨#[85, 83, 68]⟩, .int .i64 1, .int .i64 10, .int .i64 11] 24)) := (Below.refl _ _).alloc (Nat.le_refl _) _
  have HC1 : Hid (Calls Try.prog 4 #[.slice (some ⟨w.heap.size, 0, none⟩) 1 1, .string ⟨#[69, 85, 82]⟩, .string ⟨#[69, 85, 82]⟩, .string ⟨#[85, 83, 68]⟩, .int .i64 1, .int .i64 100] (w.alloc (.cells #[.string ⟨#[69, 85, 82]⟩, .string ⟨#[85, 83, 68]⟩, .int .i64 1, .int .i64 10, .int .i64 11] 24)) fun e w' => e = .returned (.tuple #[.int .i64 110, .nilIface]) ∧ Below w.heap.size w w') := by
    refine C1.mono ?_
    rintro x w' ⟨rfl, hb⟩
    exact ⟨rfl, B0.trans (hb.mono (by simp))⟩
  clear C1 O1 B0
  by_cases he : e ≠ 0
  · rw [errV_ne he] at F1 F2
    clear hT HT hs hR hR2
    go_enter Try.func3, Try.ntmps3
    go_wp2_with fail
    refine HC1.out.mono ?_
    rintro x w1 ⟨rfl, B1⟩
    clear HC1
    go_wp2_with fail
    refine (F1.out _ B1).mono ?_
    rintro x w2 ⟨rfl, B2⟩
    clear B1 F1
    go_wp2_with fail
    refine (F2.out _ B2).mono ?_
    rintro x w3 ⟨rfl, B3⟩
    clear B2 F2
    go_wp2
    go_region
    go_wp2
    go_ret
    exact ⟨rfl, B3.drew⟩
  have he : e = 0 := Decidable.not_not.1 he
  subst he
  rw [errV_zero] at F1 F2
  have rg := findS_range (base := base) (f := f) (t := t) (p := p) hT.good (by rw [hR])
  rw [hR] at rg
  simp only at rg
  have hSf : findS S base f f p = (1, 1, 0) := findS_self (t := t) (by rw [hR])
  have G : ∀ (u v : ByteArray) (x : Int), -9223372036854775808 ≤ x → x ≤ 9223372036854775807 → ∀ W, Below w.heap.size w W → Calls Try.prog 4 #[.slice a len cap, .string base, .string u, .string v, .int .i64 p, .int .i64 x] W fun e w' => e = .returned (.tuple #[.int .i64 (convV (findS S base u v p) x), convE (findS S base u v p) x]) ∧ Below w.heap.size w w' := fun u v x h1 h2 W hW => by
    refine (convert_any a len cap S base u v p x W (hT.tab W hW) hT.good h1 h2).mono ?_
    rintro e w' ⟨rfl, hb⟩
    exact ⟨rfl, hW.trans (hb.mono hW.size)⟩
  have K1 : Hid (∀ W, Below w.heap.size w W → Calls Try.prog 4 #[.slice a len cap, .string base, .string f, .string f, .int .i64 p, .int .i64 m] W fun e w' => e = .returned (.tuple #[.int .i64 m, .nilIface]) ∧ Below w.heap.size w w') := by
    have := G f f m hm hm2
    rw [hSf] at this
    rw [show convV (1, 1, 0) m = m from (rat_self m hm hm2).1, show convE (1, 1, 0) m = .nilIface from (rat_self m hm hm2).2] at this
    exact this
  by_cases hsm : m < -1000000 ∨ 1000000 < m
  · clear hT HT hs hR hR2 G rg hSf
    have hsm' : m < -1000000 ∨ (¬ m < -1000000 ∧ 1000000 < m) := by omega
    clear hsm
    rcases hsm' with hsm | ⟨hsm1, hsm⟩
    all_goals
      go_enter Try.func3, Try.ntmps3
      go_wp2_with fail
      refine HC1.out.mono ?_
      rintro x w1 ⟨rfl, B1⟩
      clear HC1
      go_wp2_with fail
      refine (F1.out _ B1).mono ?_
      rintro x w2 ⟨rfl, B2⟩
      clear B1 F1
      go_wp2_with fail
      refine (F2.out _ B2).mono ?_
      rintro x w3 ⟨rfl, B3⟩
      clear B2 F2
      go_wp2_with fail
      refine (K1.out _ B3).mono ?_
      rintro x w4 ⟨rfl, B4⟩
      clear B3 K1
      go_wp2
      go_ret
      exact ⟨rfl, B4⟩
  obtain ⟨y, z, hy, hz, hyb, hzb, hl1, hl2⟩ := there_back m n d (by omega) rg.1 rg.2
  have K2 : Hid (∀ W, Below w.heap.size w W → Calls Try.prog 4 #[.slice a len cap, .string base, .string f, .string t, .int .i64 p, .int .i64 m] W fun e w' => e = .returned (.tuple #[.int .i64 y, .nilIface]) ∧ Below w.heap.size w w') := by
    have := G f t m hm hm2
    rw [hR] at this
    rw [show convV (n, d, 0) m = y from hy.1, show convE (n, d, 0) m = .nilIface from hy.2] at this
    exact this
  have K3 : Hid (∀ W, Below w.heap.size w W → Calls Try.prog 4 #[.slice a len cap, .string base, .string t, .string f, .int .i64 p, .int .i64 y] W fun e w' => e = .returned (.tuple #[.int .i64 z, .nilIface]) ∧ Below w.heap.size w w') := by
    have := G t f y (by omega) (by omega)
    rw [hR2] at this
    rw [show convV (d, n, 0) y = z from hz.1, show convE (d, n, 0) y = .nilIface from hz.2] at this
    exact this
  have m1 : -1000000 ≤ m := by omega
  have m2 : m ≤ 1000000 := by omega
  obtain ⟨⟨n1, n2⟩, d1, d2⟩ := rg
  obtain ⟨z1, z2⟩ := hzb
  have eo : ∀ o : Int, -3000000000 ≤ o → o ≤ 3000000000 → -6000000000000000000 ≤ 2 * o * d ∧ 2 * o * d ≤ 6000000000000000000 := fun o h1 h2 => by
    have u1 := Int.mul_le_mul_of_nonneg_right (by omega : 2 * o ≤ 6000000000) (by omega : 0 ≤ d)
    have u2 := Int.mul_le_mul_of_nonneg_right (by omega : -6000000000 ≤ 2 * o) (by omega : 0 ≤ d)
    omega
  clear hT HT hs hR hR2 G hSf hy hz hyb hsm
  obtain ⟨o, ho⟩ : ∃ o, z - m = o := ⟨_, rfl⟩
  rw [ho] at z1 z2 hl1 hl2
  obtain ⟨e1, e2⟩ := eo o z1 z2
  obtain ⟨e3, e4⟩ := eo (-o) (by omega) (by omega)
  clear eo
  by_cases hneg : o < 0
  all_goals
    go_enter Try.func3, Try.ntmps3
    go_wp2_with fail
    refine HC1.out.mono ?_
    rintro x w1 ⟨rfl, B1⟩
    clear HC1
    go_wp2_with fail
    refine (F1.out _ B1).mono ?_
    rintro x w2 ⟨rfl, B2⟩
    clear B1 F1
    go_wp2_with fail
    refine (F2.out _ B2).mono ?_
    rintro x w3 ⟨rfl, B3⟩
    clear B2 F2
    go_wp2_with fail
    refine (K1.out _ B3).mono ?_
    rintro x w4 ⟨rfl, B4⟩
    clear B3 K1
    go_wp2_with fail
    refine (K2.out _ B4).mono ?_
    rintro x w5 ⟨rfl, B5⟩
    clear B4 K2
    go_wp2_with fail
    refine (K3.out _ B5).mono ?_
    rintro x w6 ⟨rfl, B6⟩
    clear B5 K3
    go_wp2
    go_ret
    refine ⟨?_, B6⟩
    first | rfl | (simp; omega)
end Go.Proofs.Ytffndpojkhekkaa
