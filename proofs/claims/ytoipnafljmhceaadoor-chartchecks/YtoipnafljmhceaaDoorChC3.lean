/-
  The walk of daylaw1.ChartChecks where something is wrong with the chart.
-/
import Derived.Test.YtoipnafljmhceaaDoorChC2
namespace Go.Proofs.YtoipnafljmhceaaDoor
set_option linter.unusedVariables false
set_option linter.unusedSimpArgs false
set_option maxRecDepth 100000
open Go.RowKit

theorem zero_acct : ac0 = ⟨⟨#[]⟩, ⟨#[]⟩, 0, ⟨#[]⟩, false⟩ := rfl

set_option maxHeartbeats 8000000 in
theorem checks_bad (w : World) (a : Option Addr) (cap : Nat) (l : List Ac) (c : ByteArray) (e f : Int) (Ee Fe : Value) (he : e ≠ 0) (hfe : f = e)
    (K : CkC w a cap l c (txt []) [] [] ac0 e f Ee Fe) (C1 : Calls Tryd.prog 4 #[.slice a l.length cap] w fun r w' => r = .returned (.int .i64 e) ∧ Below w.heap.size w w') (C2 : ∀ W, Below w.heap.size w W → Calls Tryd.prog 6 #[.slice a l.length cap] W fun r w' => r = .returned Ee ∧ Below W.heap.size W w') :
    Calls Tryd.prog 3 #[.slice a l.length cap, .string c] w fun e w' => e = .returned (.bool true) ∧ Below w.heap.size w w' := by
  subst hfe
  have KH : Hid (CkC w a cap l c (txt []) [] [] ac0 f f Ee Fe) := K
  have HC1 : Hid (Calls _ _ _ _ _) := C1
  have HC2 : Hid (∀ W, _) := C2
  clear K C1 C2
  have he' : (f == 0) = false := by simp [he]
  rw [zero_acct] at KH
  have et : txt [] = ⟨#[]⟩ := rfl
  rw [et] at KH
  clear et
  obtain ⟨y0, hy0⟩ : ∃ y0 : ByteArray, y0 = ⟨#[]⟩ := ⟨_, rfl⟩
  go_enter Tryd.func3, Tryd.ntmps3
  go_wp2_with fail
  refine HC1.out.mono ?_
  rintro e w1 ⟨rfl, B1⟩
  go_wp2_with fail
  refine (HC2.out w1 B1).mono ?_
  rintro e w2 ⟨rfl, hb⟩
  have B2 := B1.trans (hb.mono B1.size)
  clear hb
  go_wp2_with fail
  refine (KH.out.err _ _ w2 KH.out.isE B2).mono ?_
  rintro e w3 ⟨rfl, hb⟩
  have B3 := B2.trans (hb.mono B2.size)
  clear hb
  have B4 := B3.alloc B3.size (.cells #[.string ⟨#[]⟩, .string ⟨#[]⟩, .int .i64 0, .string ⟨#[]⟩, .bool false] 30)
  have T8 : Hid (TxtRow (w3.alloc (.cells #[.string ⟨#[]⟩, .string ⟨#[]⟩, .int .i64 0, .string ⟨#[]⟩, .bool false] 30)) 0 (.slice none 0 0) []) := World.ownsRow_nil _ _ _ _
  have T9 : Hid (TxtRow (w3.alloc (.cells #[.string ⟨#[]⟩, .string ⟨#[]⟩, .int .i64 0, .string ⟨#[]⟩, .bool false] 30)) 0 (.slice none 0 0) []) := World.ownsRow_nil _ _ _ _
  have Y : Hid (AcAt (w3.alloc (.cells #[.string ⟨#[]⟩, .string ⟨#[]⟩, .int .i64 0, .string ⟨#[]⟩, .bool false] 30)) w3.heap.size 0 ⟨⟨#[]⟩, ⟨#[]⟩, 0, ⟨#[]⟩, false⟩) := AcAt.new w3 ⟨⟨#[]⟩, ⟨#[]⟩, 0, ⟨#[]⟩, false⟩ 30
  go_wp2_with fail
  refine (KH.out.print _ B4).mono ?_
  rintro e w20 ⟨rfl, hb⟩
  have B20 := B4.trans (hb.mono B4.size)
  have T8 : Hid (TxtRow w20 _ _ _) := TxtRow.below T8.out hb
  have T9 : Hid (TxtRow w20 _ _ _) := TxtRow.below T9.out hb
  have Y : Hid (AcAt w20 _ 0 _) := Y.out.below hb (World.block_lt_of_cell? _ _ Y.out.c0)
  clear hb
  go_wp2_with fail
  refine (KH.out.err _ _ w20 KH.out.isE B20).mono ?_
  rintro e w21 ⟨rfl, hb⟩
  have B21 := B20.trans (hb.mono B20.size)
  have T8 : Hid (TxtRow w21 _ _ _) := TxtRow.below T8.out hb
  have T9 : Hid (TxtRow w21 _ _ _) := TxtRow.below T9.out hb
  have Y : Hid (AcAt w21 _ 0 _) := Y.out.below hb (World.block_lt_of_cell? _ _ Y.out.c0)
  clear hb
  go_wp2_with fail
  refine (KH.out.leaves w21 B21).mono ?_
  rintro e w22 ⟨vL, rfl, rL, hb⟩
  have B22 := B21.trans (hb.mono B21.size)
  have T8 : Hid (TxtRow w22 _ _ _) := TxtRow.below T8.out hb
  have T9 : Hid (TxtRow w22 _ _ _) := TxtRow.below T9.out hb
  have Y : Hid (AcAt w22 _ 0 _) := Y.out.below hb (World.block_lt_of_cell? _ _ Y.out.c0)
  have RL : Hid (TxtRow w22 _ _ _) := rL
  clear hb rL
  go_wp2_with fail
  refine (KH.out.err _ _ w22 KH.out.isE B22).mono ?_
  rintro e w23 ⟨rfl, hb⟩
  have B23 := B22.trans (hb.mono B22.size)
  have T8 : Hid (TxtRow w23 _ _ _) := TxtRow.below T8.out hb
  have T9 : Hid (TxtRow w23 _ _ _) := TxtRow.below T9.out hb
  have RL : Hid (TxtRow w23 _ _ _) := TxtRow.below RL.out hb
  have Y : Hid (AcAt w23 _ 0 _) := Y.out.below hb (World.block_lt_of_cell? _ _ Y.out.c0)
  clear hb
  have HF := KH.out.find w23 B23
  simp only [Ac.cells] at HF
  go_wp2_with fail
  refine (HF).mono ?_
  rintro e w24 ⟨rfl, hb⟩
  have B24 := B23.trans (hb.mono B23.size)
  have T8 : Hid (TxtRow w24 _ _ _) := TxtRow.below T8.out hb
  have T9 : Hid (TxtRow w24 _ _ _) := TxtRow.below T9.out hb
  have RL : Hid (TxtRow w24 _ _ _) := TxtRow.below RL.out hb
  have Y : Hid (AcAt w24 _ 0 _) := Y.out.below hb (World.block_lt_of_cell? _ _ Y.out.c0)
  clear hb
  have hb := (Below.refl w24.heap.size w24).alloc (Nat.le_refl _) (.cells #[.string ⟨#[]⟩, .string ⟨#[]⟩, .int .i64 0, .string ⟨#[]⟩, .bool false] 30)
  have B25 := B24.trans (hb.mono B24.size)
  have X : Hid (AcAt (w24.alloc (.cells #[.string ⟨#[]⟩, .string ⟨#[]⟩, .int .i64 0, .string ⟨#[]⟩, .bool false] 30)) w24.heap.size 0 ⟨⟨#[]⟩, ⟨#[]⟩, 0, ⟨#[]⟩, false⟩) := AcAt.new w24 ⟨⟨#[]⟩, ⟨#[]⟩, 0, ⟨#[]⟩, false⟩ 30
  have T8 : Hid (TxtRow _ _ _ _) := TxtRow.below T8.out hb
  have T9 : Hid (TxtRow _ _ _ _) := TxtRow.below T9.out hb
  have RL : Hid (TxtRow _ _ _ _) := TxtRow.below RL.out hb
  have Y : Hid (AcAt _ _ 0 _) := Y.out.below hb (World.block_lt_of_cell? _ _ Y.out.c0)
  clear hb
  go_wp2_with fail
  refine (KH.out.err _ _ _ KH.out.isF B25).mono ?_
  rintro e w26 ⟨rfl, hb⟩
  have B26 := B25.trans (hb.mono B25.size)
  have T8 : Hid (TxtRow w26 _ _ _) := TxtRow.below T8.out hb
  have T9 : Hid (TxtRow w26 _ _ _) := TxtRow.below T9.out hb
  have RL : Hid (TxtRow w26 _ _ _) := TxtRow.below RL.out hb
  have Y : Hid (AcAt w26 _ 0 _) := Y.out.below hb (World.block_lt_of_cell? _ _ Y.out.c0)
  have X : Hid (AcAt w26 w24.heap.size 0 _) := X.out.below hb (World.block_lt_of_cell? _ _ X.out.c0)
  clear hb
  go_wp2_with fail
  refine (KH.out.under w26 B26).mono ?_
  rintro e w27 ⟨vU, rfl, rU, hb⟩
  have B27 := B26.trans (hb.mono B26.size)
  have T8 : Hid (TxtRow w27 _ _ _) := TxtRow.below T8.out hb
  have T9 : Hid (TxtRow w27 _ _ _) := TxtRow.below T9.out hb
  have RL : Hid (TxtRow w27 _ _ _) := TxtRow.below RL.out hb
  have Y : Hid (AcAt w27 _ 0 _) := Y.out.below hb (World.block_lt_of_cell? _ _ Y.out.c0)
  have X : Hid (AcAt w27 w24.heap.size 0 _) := X.out.below hb (World.block_lt_of_cell? _ _ X.out.c0)
  have RU : Hid (TxtRow w27 _ _ _) := rU
  clear hb rU
  go_wp2_with fail
  refine (KH.out.err _ _ w27 KH.out.isF B27).mono ?_
  rintro e w28 ⟨rfl, hb⟩
  have B28 := B27.trans (hb.mono B27.size)
  have T8 : Hid (TxtRow w28 _ _ _) := TxtRow.below T8.out hb
  have T9 : Hid (TxtRow w28 _ _ _) := TxtRow.below T9.out hb
  have RL : Hid (TxtRow w28 _ _ _) := TxtRow.below RL.out hb
  have RU : Hid (TxtRow w28 _ _ _) := TxtRow.below RU.out hb
  have Y : Hid (AcAt w28 _ 0 _) := Y.out.below hb (World.block_lt_of_cell? _ _ Y.out.c0)
  have X : Hid (AcAt w28 w24.heap.size 0 _) := X.out.below hb (World.block_lt_of_cell? _ _ X.out.c0)
  clear hb
  go_wp2_with fail
  refine (sameTexts_any _ _ _ _ _ w28 (by have := KH.out.lenL; omega) RL.out T8.out).mono ?_
  rintro e w29 ⟨rfl, hb⟩
  have B29 := B28.trans (hb.mono B28.size)
  have T8 : Hid (TxtRow w29 _ _ _) := TxtRow.below T8.out hb
  have T9 : Hid (TxtRow w29 _ _ _) := TxtRow.below T9.out hb
  have RL : Hid (TxtRow w29 _ _ _) := TxtRow.below RL.out hb
  have RU : Hid (TxtRow w29 _ _ _) := TxtRow.below RU.out hb
  have Y : Hid (AcAt w29 _ 0 _) := Y.out.below hb (World.block_lt_of_cell? _ _ Y.out.c0)
  have X : Hid (AcAt w29 w24.heap.size 0 _) := X.out.below hb (World.block_lt_of_cell? _ _ X.out.c0)
  clear hb
  go_wp2_with fail
  refine (sameTexts_any _ _ _ _ _ w29 (by have := KH.out.lenU; omega) RU.out T9.out).mono ?_
  rintro e w30 ⟨rfl, hb⟩
  have B30 := B29.trans (hb.mono B29.size)
  have Y : Hid (AcAt w30 _ 0 _) := Y.out.below hb (World.block_lt_of_cell? _ _ Y.out.c0)
  have X : Hid (AcAt w30 w24.heap.size 0 _) := X.out.below hb (World.block_lt_of_cell? _ _ X.out.c0)
  clear hb
  obtain ⟨g0, g1, g2, g3, g4⟩ := X.out
  obtain ⟨f0, f1, f2, f3, f4⟩ := Y.out
  simp only [Nat.zero_add] at g0 g1 g2 g3 g4 f0 f1 f2 f3 f4
  clear KH T8 T9 RL RU X Y
  have q1 := acct_same ⟨#[]⟩ ⟨#[]⟩ 0 ⟨#[]⟩ false
  have q3 := acct_guard
  go_wp2
  go_ret
  exact ⟨by simp, B30⟩
end Go.Proofs.YtoipnafljmhceaaDoor
