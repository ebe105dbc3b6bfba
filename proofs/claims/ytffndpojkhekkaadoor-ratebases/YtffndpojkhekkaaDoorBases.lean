/-
  The walk of daylaw5.RateBases: for all four numbers it returns true, if the library's variable for the type of errors is as it is laid.
-/
import Derived.Test.YtffndpojkhekkaaDoorRateF
import Derived.Test.YtffndpojkhekkaaDoorAs2
namespace Go.Proofs.YtffndpojkhekkaaDoor
set_option linter.unusedVariables false
open Go.RowKit Go.Lib Go.Maps

abbrev sUSD : ByteArray := ⟨#[85, 83, 68]⟩
abbrev sEUR : ByteArray := ⟨#[69, 85, 82]⟩
abbrev sGBP : ByteArray := ⟨#[71, 66, 80]⟩
abbrev sJPY : ByteArray := ⟨#[74, 80, 89]⟩
theorem curUSD : isCur sUSD = true := by kernel_rfl
theorem curEUR : isCur sEUR = true := by kernel_rfl
theorem curGBP : isCur sGBP = true := by kernel_rfl
theorem curJPY : isCur sJPY = true := by kernel_rfl

def bD (n d p q : Int) : DataW Unit := tabPut (tabPut (.map []) ⟨sUSD, sEUR, 1, n, d⟩) ⟨sEUR, sGBP, 1, p, q⟩

theorem bD_has1 (n d p q : Int) : has (bD n d p q) (keyL sUSD sGBP 1) = false := by kernel_rfl
theorem bD_has2 (n d p q : Int) : has (bD n d p q) (keyL sUSD sEUR 1) = true := by kernel_rfl
theorem bD_has3 (n d p q : Int) : has (bD n d p q) (keyL sEUR sGBP 1) = true := by kernel_rfl
theorem bD_has4 (n d p q : Int) : has (bD n d p q) (keyL sUSD sJPY 1) = false := by kernel_rfl
theorem bD_num2 (n d p q : Int) : tabNum (bD n d p q) (keyL sUSD sEUR 1) = (n, d) := by kernel_rfl
theorem bD_num3 (n d p q : Int) : tabNum (bD n d p q) (keyL sEUR sGBP 1) = (p, q) := by kernel_rfl
theorem bD_first (n d : Int) : has (tabPut (.map []) ⟨sUSD, sEUR, 1, n, d⟩) (keyL sEUR sGBP 1) = false := by kernel_rfl

def bRs (n d p q : Int) : List Rt := [⟨sUSD, sEUR, 1, n, d⟩, ⟨sEUR, sGBP, 1, p, q⟩]

theorem up_of {n m : Int} (h1 : 1 ≤ n) (h2 : n ≤ m) : upTo n m = true := by simp [upTo, h1, h2]

theorem bRs_tab {n d p q : Int} (hn : 1 ≤ n ∧ n ≤ 30000) (hd : 1 ≤ d ∧ d ≤ 30000) (hp : 1 ≤ p ∧ p ≤ 30000) (hq : 1 ≤ q ∧ q ≤ 30000) : tabS (bRs n d p q) = (0, bD n d p q) := by
  have u : upTo 1 120 = true := by decide
  have g1 : rateBad ⟨sUSD, sEUR, 1, n, d⟩ = 0 := by
    simp only [rateBad, curUSD, curEUR, u, up_of hn.1 (show n ≤ 1000000000 by omega), up_of hd.1 (show d ≤ 1000000000 by omega)]
    simp
  have g2 : rateBad ⟨sEUR, sGBP, 1, p, q⟩ = 0 := by
    simp only [rateBad, curGBP, curEUR, u, up_of hp.1 (show p ≤ 1000000000 by omega), up_of hq.1 (show q ≤ 1000000000 by omega)]
    simp
  rw [tabS_go (by simp [bRs])]
  unfold bRs
  rw [tabGo_step g1 rfl, tabGo_step g2 (bD_first n d), tabGo_nil]
  rfl

theorem found1 (n d p q : Int) : findS (0, bD n d p q) sEUR sUSD sGBP 1 = chainS n.toNat d.toNat p.toNat q.toNat := by
  have u : upTo 1 120 = true := by decide
  have ne : ¬ sUSD = sGBP := by decide
  unfold findS
  rw [if_neg (by simp), if_neg (by rw [curEUR, curUSD, curGBP]; simp), if_neg (by rw [u]; simp), if_neg ne]
  simp only [bD_has1, bD_has2, bD_has3, bD_num2, bD_num3]
  simp

theorem found3 (n d p q : Int) : findS (0, bD n d p q) sJPY sUSD sGBP 1 = (0, 0, 6) := by
  have u : upTo 1 120 = true := by decide
  have ne : ¬ sUSD = sGBP := by decide
  unfold findS
  rw [if_neg (by simp), if_neg (by rw [curJPY, curUSD, curGBP]; simp), if_neg (by rw [u]; simp), if_neg ne]
  simp only [bD_has1, bD_has4]
  simp

theorem chain_even (a b : Nat) : chainN a b * b = chainN b a * a := by
  unfold chainN
  rw [Nat.gcd_comm b a]
  have h1 := Nat.div_mul_cancel (Nat.gcd_dvd_left a b)
  have h2 := Nat.div_mul_cancel (Nat.gcd_dvd_right a b)
  generalize a / Nat.gcd a b = x at *
  generalize b / Nat.gcd a b = y at *
  generalize Nat.gcd a b = g at *
  subst h1
  rw [← h2, ← Nat.mul_assoc, ← Nat.mul_assoc, Nat.mul_comm x y]

theorem chain_fits {n d p q : Int} (hn : 1 ≤ n ∧ n ≤ 30000) (hd : 1 ≤ d ∧ d ≤ 30000) (hp : 1 ≤ p ∧ p ≤ 30000) (hq : 1 ≤ q ∧ q ≤ 30000) :
    ∃ x y : Int, chainS n.toNat d.toNat p.toNat q.toNat = (x, y, 0) ∧ 0 ≤ x ∧ x ≤ 900000000 ∧ 0 ≤ y ∧ y ≤ 900000000 ∧ x * (d * q) = y * (n * p) := by
  obtain ⟨n, rfl⟩ := Int.eq_ofNat_of_zero_le (by omega : 0 ≤ n)
  obtain ⟨d, rfl⟩ := Int.eq_ofNat_of_zero_le (by omega : 0 ≤ d)
  obtain ⟨p, rfl⟩ := Int.eq_ofNat_of_zero_le (by omega : 0 ≤ p)
  obtain ⟨q, rfl⟩ := Int.eq_ofNat_of_zero_le (by omega : 0 ≤ q)
  have e := chain_even (n * p) (d * q)
  have l1 : chainN (n * p) (d * q) ≤ n * p := Nat.div_le_self _ _
  have l2 : chainN (d * q) (n * p) ≤ d * q := Nat.div_le_self _ _
  have m1 : n * p ≤ 30000 * 30000 := Nat.mul_le_mul (by omega) (by omega)
  have m2 : d * q ≤ 30000 * 30000 := Nat.mul_le_mul (by omega) (by omega)
  refine ⟨chainN (n * p) (d * q), chainN (d * q) (n * p), ?_, by omega, by omega, by omega, by omega, ?_⟩
  · unfold chainS
    simp only [Int.toNat_natCast]
    rw [if_neg (by omega)]
  · have := congrArg (fun z : Nat => (z : Int)) e
    simpa using this

theorem bRs_table (b : Nat) (n d p q : Int) (w : World) (hb : b < w.heap.size) (h1 : RtAt w b 0 ⟨sUSD, sEUR, 1, n, d⟩) (h2 : RtAt w b 5 ⟨sEUR, sGBP, 1, p, q⟩) :
    Calls Tryd.prog 6 #[.slice (some ⟨b, 0, none⟩) 2 2] w (TabEnd w (tabS (bRs n d p q))) := by
  have two : ∀ k, k < (bRs n d p q).length → k = 0 ∨ k = 1 := fun k hk => by simp [bRs] at hk; omega
  refine table_some b 0 2 (bRs n d p q) w hb (by simp [bRs]) (by simp [bRs]) ?_ ?_ ?_
  · intro k hk
    rcases two k hk with rfl | rfl
    · exact h1
    · exact h2
  · intro k hk
    rcases two k hk with rfl | rfl
    · exact ⟨by unfold maxLen; exact of_decide_eq_true (by kernel_rfl), by unfold maxLen; exact of_decide_eq_true (by kernel_rfl)⟩
    · exact ⟨by unfold maxLen; exact of_decide_eq_true (by kernel_rfl), by unfold maxLen; exact of_decide_eq_true (by kernel_rfl)⟩
  · intro k hk
    rcases two k hk with rfl | rfl
    · rfl
    · rfl

theorem bases_out (n d p q : Int) (w : World) (h : n < 1 ∨ 30000 < n ∨ d < 1 ∨ 30000 < d ∨ p < 1 ∨ 30000 < p ∨ q < 1 ∨ 30000 < q) :
    Calls Tryd.prog 3 #[.int .i64 n, .int .i64 d, .int .i64 p, .int .i64 q] w fun e w' => e = .returned (.bool true) ∧ Below w.heap.size w w' := by
  by_cases c1 : n < 1
  · go_enter Tryd.func3, Tryd.ntmps3
    go_wp2
    go_ret
    exact ⟨rfl, Below.refl _ _⟩
  by_cases c2 : 30000 < n
  · go_enter Tryd.func3, Tryd.ntmps3
    go_wp2
    go_ret
    exact ⟨rfl, Below.refl _ _⟩
  by_cases c3 : d < 1
  · go_enter Tryd.func3, Tryd.ntmps3
    go_wp2
    go_ret
    exact ⟨rfl, Below.refl _ _⟩
  by_cases c4 : 30000 < d
  · go_enter Tryd.func3, Tryd.ntmps3
    go_wp2
    go_ret
    exact ⟨rfl, Below.refl _ _⟩
  by_cases c5 : p < 1
  · go_enter Tryd.func3, Tryd.ntmps3
    go_wp2
    go_ret
    exact ⟨rfl, Below.refl _ _⟩
  by_cases c6 : 30000 < p
  · go_enter Tryd.func3, Tryd.ntmps3
    go_wp2
    go_ret
    exact ⟨rfl, Below.refl _ _⟩
  by_cases c7 : q < 1
  · go_enter Tryd.func3, Tryd.ntmps3
    go_wp2
    go_ret
    exact ⟨rfl, Below.refl _ _⟩
  have c8 : 30000 < q := by omega
  go_enter Tryd.func3, Tryd.ntmps3
  go_wp2
  go_ret
  exact ⟨rfl, Below.refl _ _⟩

set_option maxHeartbeats 2000000 in
theorem bases_in (n d p q : Int) (w : World) (hn : 1 ≤ n ∧ n ≤ 30000) (hd : 1 ≤ d ∧ d ≤ 30000) (hp : 1 ≤ p ∧ p ≤ 30000) (hq : 1 ≤ q ∧ q ≤ 30000)
    (hg : w.cell? ⟨0, 0, none⟩ = some (.iface 66 (.agg #[.pointer (some ⟨1, 26, none⟩)]))) :
    Calls Tryd.prog 3 #[.int .i64 n, .int .i64 d, .int .i64 p, .int .i64 q] w fun e w' => e = .returned (.bool true) ∧ Below w.heap.size w w' := by
  obtain ⟨x, y, hch, x0, x1, y0, y1, hxy⟩ := chain_fits hn hd hp hq
  obtain ⟨W0, hW0⟩ : ∃ W0, w.alloc (.cells #[.string ⟨#[85, 83, 68]⟩, .string ⟨#[69, 85, 82]⟩, .int .i64 1, .int .i64 n, .int .i64 d, .string ⟨#[69, 85, 82]⟩, .string ⟨#[71, 66, 80]⟩, .int .i64 1, .int .i64 p, .int .i64 q] 23) = W0 := ⟨_, rfl⟩
  have r1 : RtAt W0 w.heap.size 0 ⟨sUSD, sEUR, 1, n, d⟩ := by rw [← hW0]; exact ⟨by simp, by simp, by simp, by simp, by simp⟩
  have r2 : RtAt W0 w.heap.size 5 ⟨sEUR, sGBP, 1, p, q⟩ := by rw [← hW0]; exact ⟨by simp, by simp, by simp, by simp, by simp⟩
  have B0 : Below w.heap.size w W0 := by rw [← hW0]; exact (Below.refl _ _).alloc (Nat.le_refl _) _
  have s0 : W0.heap.size = w.heap.size + 1 := by rw [← hW0]; simp
  have T : ∀ W, Below W0.heap.size W0 W → Calls Tryd.prog 6 #[.slice (some ⟨w.heap.size, 0, none⟩) 2 2] W (TabEnd W (0, bD n d p q)) := fun W hW => by
    have := bRs_table w.heap.size n d p q W (by have := hW.size; omega) (r1.below hW (by omega)) (r2.below hW (by omega))
    rw [bRs_tab hn hd hp hq] at this
    exact this
  have good := tabS_good (bRs n d p q)
  rw [bRs_tab hn hd hp hq] at good
  have F : ∀ (b f t : ByteArray) W, Below W0.heap.size W0 W → Calls Tryd.prog 4 #[.slice (some ⟨w.heap.size, 0, none⟩) 2 2, .string b, .string f, .string t, .int .i64 1] W fun e w' => e = .returned (.tuple #[.int .i64 (findS (0, bD n d p q) b f t 1).1, .int .i64 (findS (0, bD n d p q) b f t 1).2.1, errV (findS (0, bD n d p q) b f t 1).2.2]) ∧ Below W0.heap.size W0 w' := fun b f t W hW => by
    refine (find_any _ 2 2 (0, bD n d p q) b f t 1 W (T W hW) good.1).mono ?_
    rintro e w' ⟨rfl, hb⟩
    exact ⟨rfl, hW.trans (hb.mono hW.size)⟩
  have F1 := F sEUR sUSD sGBP
  rw [found1, hch] at F1
  have F2 := F sEUR sGBP sUSD
  rw [findS_turn good.2.1, found1, hch] at F2
  have F3 := F sJPY sUSD sGBP
  rw [found3] at F3
  have G1 : Hid (∀ W, Below W0.heap.size W0 W → Calls Tryd.prog 4 #[.slice (some ⟨w.heap.size, 0, none⟩) 2 2, .string ⟨#[69, 85, 82]⟩, .string ⟨#[85, 83, 68]⟩, .string ⟨#[71, 66, 80]⟩, .int .i64 1] W fun e w' => e = .returned (.tuple #[.int .i64 x, .int .i64 y, .nilIface]) ∧ Below W0.heap.size W0 w') := F1
  have G2 : Hid (∀ W, Below W0.heap.size W0 W → Calls Tryd.prog 4 #[.slice (some ⟨w.heap.size, 0, none⟩) 2 2, .string ⟨#[69, 85, 82]⟩, .string ⟨#[71, 66, 80]⟩, .string ⟨#[85, 83, 68]⟩, .int .i64 1] W fun e w' => e = .returned (.tuple #[.int .i64 y, .int .i64 x, .nilIface]) ∧ Below W0.heap.size W0 w') := F2
  have G3 : Hid (∀ W, Below W0.heap.size W0 W → Calls Tryd.prog 4 #[.slice (some ⟨w.heap.size, 0, none⟩) 2 2, .string ⟨#[74, 80, 89]⟩, .string ⟨#[85, 83, 68]⟩, .string ⟨#[71, 66, 80]⟩, .int .i64 1] W fun e w' => e = .returned (.tuple #[.int .i64 0, .int .i64 0, .iface 35 (.int .i64 6)]) ∧ Below W0.heap.size W0 w') := F3
  clear F F1 F2 F3 T good r1 r2 hch
  have hglt : 0 < w.heap.size := World.block_lt_of_cell? _ _ hg
  have HG : Hid (∀ W, Below W0.heap.size W0 W → W.cell? ⟨0, 0, none⟩ = some (.iface 66 (.agg #[.pointer (some ⟨1, 26, none⟩)]))) := fun W hW => by
    rw [hW.cell (p := ⟨0, 0, none⟩) (show 0 < W0.heap.size by omega), B0.cell (p := ⟨0, 0, none⟩) hglt]; exact hg
  clear hg
  obtain ⟨n1, n2⟩ := hn
  obtain ⟨d1, d2⟩ := hd
  obtain ⟨p1, p2⟩ := hp
  obtain ⟨q1, q2⟩ := hq
  have m1 : 1 ≤ d * q ∧ d * q ≤ 900000000 := by
    have u := Int.mul_le_mul d2 q2 (by omega) (by omega)
    have v := Int.mul_le_mul d1 q1 (by omega) (by omega)
    omega
  have m2 : 1 ≤ n * p ∧ n * p ≤ 900000000 := by
    have u := Int.mul_le_mul n2 p2 (by omega) (by omega)
    have v := Int.mul_le_mul n1 p1 (by omega) (by omega)
    omega
  obtain ⟨dq, hdq⟩ : ∃ dq, d * q = dq := ⟨_, rfl⟩
  obtain ⟨np, hnp⟩ : ∃ np, n * p = np := ⟨_, rfl⟩
  rw [hdq] at m1 hxy
  rw [hnp] at m2 hxy
  obtain ⟨m3, m4⟩ := m1
  obtain ⟨m5, m6⟩ := m2
  have k1 : 0 ≤ y * np ∧ y * np ≤ 810000000000000000 := by
    have u := Int.mul_le_mul y1 m6 (by omega) (by omega)
    exact ⟨Int.mul_nonneg y0 (by omega), by omega⟩
  obtain ⟨k1, k2⟩ := k1
  obtain ⟨z, hz⟩ : ∃ z, y * np = z := ⟨_, rfl⟩
  rw [hz] at k1 k2 hxy
  go_enter Tryd.func3, Tryd.ntmps3
  go_wp2_with fail
  refine (G1.out _ (Below.refl _ _)).mono ?_
  rintro e w1 ⟨rfl, B1⟩
  go_wp2_with fail
  refine (G2.out _ B1).mono ?_
  rintro e w2 ⟨rfl, B2⟩
  clear B1
  go_wp2_with fail
  refine (G3.out _ B2).mono ?_
  rintro e w3 ⟨rfl, B3⟩
  clear B2
  go_wp2_with fail
  refine (error_errno 6 6 _ (by omega) (by omega) (HG.out _ B3)).mono ?_
  rintro e w4 ⟨rfl, B4⟩
  have B5 := B0.trans ((B3.trans (B4.mono B3.size)).mono (by omega))
  clear G1 G2 G3 HG B3 B4 B0
  go_wp2
  go_ret
  refine ⟨?_, B5⟩
  first | rfl | (simp; omega)

theorem bases_walk (n d p q : Int) (w : World) (hg : w.cell? ⟨0, 0, none⟩ = some (.iface 66 (.agg #[.pointer (some ⟨1, 26, none⟩)]))) :
    Calls Tryd.prog 3 #[.int .i64 n, .int .i64 d, .int .i64 p, .int .i64 q] w fun e w' => e = .returned (.bool true) ∧ Below w.heap.size w w' := by
  by_cases h : (1 ≤ n ∧ n ≤ 30000) ∧ (1 ≤ d ∧ d ≤ 30000) ∧ (1 ≤ p ∧ p ≤ 30000) ∧ 1 ≤ q ∧ q ≤ 30000
  · exact bases_in n d p q w h.1 h.2.1 h.2.2.1 h.2.2.2 hg
  · exact bases_out n d p q w (by omega)
end Go.Proofs.YtffndpojkhekkaaDoor
