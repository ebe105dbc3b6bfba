/-
  The walk of daylaw2.StorePlays where there is no disk, or none that is great enough.
-/
import Derived.Test.YteffpglmgekkiaaDoorSp2
import Derived.Test.YteffpglmgekkiaaDoorSp3
import Derived.Test.YteffpglmgekkiaaDoorErrT
namespace Go.Proofs.YteffpglmgekkiaaDoor
set_option linter.unusedVariables false
set_option linter.unusedSimpArgs false
set_option maxRecDepth 100000
open Go.RowKit Go.Lib
theorem splays_out (n : Int) (a : Option Addr) (len cap : Nat) (w : World) (hn : ¬ (1 ≤ n ∧ n ≤ 200)) :
    Calls Tryd.prog 3 #[.int .i64 n, .slice a len cap] w fun e w' => e = .returned (.bool true) ∧ Below w.heap.size w w' := by
  have HN1 := new_bad n w hn
  rw [enE_ne (by decide)] at HN1
  have HN : Hid (Calls _ _ _ _ _) := HN1
  clear HN1 hn
  go_enter Tryd.func3, Tryd.ntmps3
  go_wp2_with fail
  refine HN.out.mono ?_
  rintro e w1 ⟨rfl, hw⟩
  rw [hw]; clear hw w1 HN
  go_wp2
  go_ret
  exact ⟨rfl, Below.refl _ _⟩
theorem splays_few (n : Nat) (a : Option Addr) (len cap : Nat) (w : World) (hg : ErrT w) (hn1 : 1 ≤ n) (hn : n < 90) :
    Calls Tryd.prog 3 #[.int .i64 (n : Int), .slice a len cap] w fun e w' => e = .returned (.bool true) ∧ Below w.heap.size w w' := by
  have HN : Hid (Calls _ _ _ _ _) := tn_new n w hn1 (by omega)
  have HG : Hid (ErrT w) := hg
  have n1 : (n : Int) < 90 := by omega
  have H4 : Hid (ErrIs (.iface 45 (.int .i64 4)) 4) := .inr ⟨rfl, by omega, by omega⟩
  clear hg
  go_enter Tryd.func3, Tryd.ntmps3
  go_wp2_with fail
  refine HN.out.mono ?_
  rintro e w1 ⟨p, nb, sb, rfl, h1⟩
  have HF0 := format_few h1.out hn
  rw [enE_ne (by decide)] at HF0
  have HF : Hid (Calls _ _ _ w1 _) := HF0
  clear HF0 HN
  go_wp2_with fail
  refine HF.out.mono ?_
  rintro e w2 ⟨rfl, hs2⟩
  have h2 := h1.out.still hs2.out
  have HE2 : Hid (Calls _ _ _ w2 _) := err_true H4.out w2 (HG.out.below h2.2 (Nat.le_refl _))
  clear HF hs2 h1
  go_wp2_with fail
  refine HE2.out.mono ?_
  rintro e w3 ⟨rfl, hb3⟩
  have h3 := h2.below hb3
  have HO0 := open_few h3 hn
  rw [enE_ne (by decide)] at HO0
  have HO : Hid (Calls _ _ _ w3 _) := HO0
  have H3 : Hid (Tn w w3 p nb sb _ n _) := h3
  clear HO0 HE2 h2 h3 hb3
  go_wp2_with fail
  refine HO.out.mono ?_
  rintro e w4 ⟨rfl, hs4⟩
  have h4 := H3.out.still hs4.out
  have HE4 : Hid (Calls _ _ _ w4 _) := err_true H4.out w4 (HG.out.below h4.2 (Nat.le_refl _))
  have HB4 : Hid (Below w.heap.size w w4) := h4.2
  clear HO hs4 H3 h4
  go_wp2_with fail
  refine HE4.out.mono ?_
  rintro e w5 ⟨rfl, hb5⟩
  have HB5 : Hid (Below w.heap.size w w5) := HB4.out.trans (hb5.mono HB4.out.size)
  clear HE4 hb5 HB4
  go_wp2
  go_ret
  exact ⟨rfl, HB5.out⟩
end Go.Proofs.YteffpglmgekkiaaDoor
