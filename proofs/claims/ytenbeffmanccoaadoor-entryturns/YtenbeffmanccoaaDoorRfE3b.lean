/-
  dayref1.Sums at any entry; an entry's box written anew.
-/
import Derived.Test.YtenbeffmanccoaaDoorRfE3
namespace Go.Proofs.YtenbeffmanccoaaDoor
set_option linter.unusedVariables false
set_option linter.unusedSimpArgs false
set_option maxRecDepth 100000
open Go.RowKit Go.Lib

theorem refSums_none (r : ByteArray) (en pe : Int) (a : Option Addr) (cap : Nat) (w : World) :
    Calls Tryd.prog 6 #[.agg #[.string r, .int .i64 en, .int .i64 pe, .slice a 0 cap]] w fun e w' => e = .returned (.slice none 0 0) ∧ Below w.heap.size w w' := by
  have b0 : Below w.heap.size w (w.alloc (.cells #[.string r, .int .i64 en, .int .i64 pe, .slice a 0 cap] 24)) := (Below.refl _ w).alloc (Nat.le_refl _) _
  have hG := refGrouped_none none 0 (w.alloc (.cells #[.string r, .int .i64 en, .int .i64 pe, .slice a 0 cap] 24))
  have HG : Hid (Calls _ _ _ _ _) := hG
  clear hG
  go_enter Tryd.func6, Tryd.ntmps6
  go_wp2
  refine wp_loop_rounds 1 ?_
  rw [rounds_succ]
  go_wp2_with fail
  refine HG.out.mono ?_
  rintro e w1 ⟨rfl, hb1⟩
  have B1 := b0.trans (hb1.mono (by simp))
  clear HG hb1
  go_wp2
  go_ret
  exact ⟨rfl, B1⟩
theorem refSums_all (r : ByteArray) (en pe : Int) (a : Option Addr) (cap : Nat) (l : List Ln) (w : World) (hlen : l.length ≤ 20) (hwi : Within mostA l) (h : IsLn w a l cap) :
    Calls Tryd.prog 6 #[.agg #[.string r, .int .i64 en, .int .i64 pe, .slice a l.length cap]] w fun e w' => ∃ v, e = .returned v ∧ LnRow w' w.heap.size v (curSums l) ∧ Below w.heap.size w w' := by
  rcases h.lies with rfl | ⟨b, off, rfl, hlt, hc⟩
  · refine (refSums_none r en pe a cap w).mono ?_
    rintro e w' ⟨rfl, hb⟩
    exact ⟨_, rfl, LnRow.nil _ _, hb⟩
  · exact refSums_some r en pe b off cap l w hlt hlen hwi hc

theorem Box4.set {W : World} {b : Nat} {r : ByteArray} {en pe : Int} {v : Value} (h : Box4 W b r en pe v) (r' : ByteArray) (en' pe' : Int) (v' : Value) :
    Box4 ((((W.setCell ⟨b, 0, none⟩ (.string r')).setCell ⟨b, 1, none⟩ (.int .i64 en')).setCell ⟨b, 2, none⟩ (.int .i64 pe')).setCell ⟨b, 3, none⟩ v') b r' en' pe' v' := by
  unfold Box4 at *
  have h1 : (W.setCell ⟨b, 0, none⟩ (.string r')).heap[b]? = some (.cells #[.string r', .int .i64 en, .int .i64 pe, v] 24 (0, 0)) := by
    rw [setCell_eq_setRow W b 0 _ 24 (0, 0) _ h, setRow_heap W b _ _ 24 (0, 0) h]; rfl
  have h2 : ((W.setCell ⟨b, 0, none⟩ (.string r')).setCell ⟨b, 1, none⟩ (.int .i64 en')).heap[b]? = some (.cells #[.string r', .int .i64 en', .int .i64 pe, v] 24 (0, 0)) := by
    rw [setCell_eq_setRow _ b 1 _ 24 (0, 0) _ h1, setRow_heap _ b _ _ 24 (0, 0) h1]; rfl
  have h3 : (((W.setCell ⟨b, 0, none⟩ (.string r')).setCell ⟨b, 1, none⟩ (.int .i64 en')).setCell ⟨b, 2, none⟩ (.int .i64 pe')).heap[b]? = some (.cells #[.string r', .int .i64 en', .int .i64 pe', v] 24 (0, 0)) := by
    rw [setCell_eq_setRow _ b 2 _ 24 (0, 0) _ h2, setRow_heap _ b _ _ 24 (0, 0) h2]; rfl
  rw [setCell_eq_setRow _ b 3 _ 24 (0, 0) _ h3, setRow_heap _ b _ _ 24 (0, 0) h3]
  rfl
theorem Box4.put3 {W : World} {b : Nat} {r : ByteArray} {en pe : Int} {v : Value} (h : Box4 W b r en pe v) (v' : Value) : Box4 (W.setCell ⟨b, 3, none⟩ v') b r en pe v' := by
  unfold Box4 at *
  rw [setCell_eq_setRow W b 3 _ 24 (0, 0) _ h, setRow_heap W b _ _ 24 (0, 0) h]
  rfl
end Go.Proofs.YtenbeffmanccoaaDoor
