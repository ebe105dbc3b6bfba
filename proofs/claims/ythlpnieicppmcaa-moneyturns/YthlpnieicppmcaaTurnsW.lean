/-
  The walk of daylaw5.MoneyTurns: for every list and every number it returns true, and nothing that was there is written.
-/
import Derived.Test.YthlpnieicppmcaaSum
import Derived.OpenShut
import Derived.WalkSmall
import Derived.Deep.QuietTactic
import Derived.BigQuiet
namespace Go.Proofs.Ythlpnieicppmcaa
set_option linter.unusedVariables false
open Go.RowKit Math

theorem Try.info3 : (Try.prog.info? 3).map (fun i => (i.zero, i.size, i.bytes)) = some (some (.int .i64 0), 1, 8) := by kernel_rfl

theorem sum_reverse (l : List Int) : l.reverse.sum = l.sum := by
  induction l with
  | nil => rfl
  | cons a t ih => rw [List.reverse_cons, List.sum_append, ih, List.sum_cons, List.sum_cons, List.sum_nil]; omega

theorem drop_rev (l : List Int) (j : Nat) (h : j < l.length) : (l.drop j).reverse = (l.drop (j + 1)).reverse ++ [l.getD j 0] := by
  rw [List.drop_eq_getElem_cons h, List.reverse_cons]
  simp [h]

/-- The relation of the loop that turns a list round, behind one round. -/
theorem turn_step {B j : Nat} {l : List Int} {w wr w1 : World} {v v' : Value} {o : Obj} {e : TypeId} (hj : j < l.length) (hB : B ≤ wr.heap.size)
    (hown : wr.ownsRow B e 1 v (l.length - (j + 1)) ((l.drop (j + 1)).reverse.map (Value.int .i64))) (hnx : Below B w wr)
    (hown' : w1.ownsRow B e 1 v' (l.length - (j + 1) + 1) ((l.drop (j + 1)).reverse.map (Value.int .i64) ++ [.int .i64 (l.getD j 0)])) (hgrow : (wr.alloc o).grownBy w1 v.ownBlock) :
    w1.ownsRow B e 1 v' (l.length - j) ((l.drop j).reverse.map (Value.int .i64)) ∧ Below B w w1 ∧ B ≤ w1.heap.size := by
  have hb : Below B w w1 := (hnx.alloc hB o).grown hgrow (by simp; omega) (fun k hk => (hown.lt k hk).1)
  have hb2 : Below B wr w1 := ((Below.refl B wr).alloc hB o).grown hgrow (by simp; omega) (fun k hk => (hown.lt k hk).1)
  refine ⟨?_, hb, Nat.le_trans hB hb2.size⟩
  rw [drop_rev l j hj, List.map_append, show l.length - j = l.length - (j + 1) + 1 by omega]
  exact hown'

theorem turns_cuts (l : List Int) : Hid (∀ c, (l.take c).sum + (l.drop c).sum = l.sum) := fun c => by
  rw [← List.sum_append, List.take_append_drop]

theorem cells_drewN {l : List Int} {b off : Nat} {w : World} (n : Nat) (hc : Hid (∀ i, i < l.length → w.cell? ⟨b, off + i, none⟩ = some (.int .i64 (l.getD i 0)))) :
    Hid (∀ i, i < l.length → (w.drewN n).cell? ⟨b, off + i, none⟩ = some (.int .i64 (l.getD i 0))) := fun i hi => ((below_drewN (Below.refl (b + 1) w) n).cell (p := ⟨b, off + i, none⟩) (Nat.lt_succ_self b)).trans (hc.out i hi)
theorem cut_take {l : List Int} (hI : Hid (∀ i, i < l.length → I64 (l.getD i 0))) (c : Nat) : Hid (∀ i, i < (l.take c).length → I64 ((l.take c).getD i 0)) := by
  intro i hi
  have h1 : i < c := by simp at hi; omega
  have h2 : i < l.length := by simp at hi; omega
  simpa [List.getD, List.getElem?_take, h1] using hI.out i h2
theorem cut_drop {l : List Int} (hI : Hid (∀ i, i < l.length → I64 (l.getD i 0))) (c : Nat) : Hid (∀ i, i < (l.drop c).length → I64 ((l.drop c).getD i 0)) := by
  intro i hi
  have h2 : c + i < l.length := by simp at hi; omega
  simpa [List.getD, List.getElem?_drop] using hI.out (c + i) h2
theorem cut_cells_take {l : List Int} {b off : Nat} {w : World} (hc : Hid (∀ i, i < l.length → w.cell? ⟨b, off + i, none⟩ = some (.int .i64 (l.getD i 0)))) (c : Nat) :
    Hid (∀ i, i < (l.take c).length → w.cell? ⟨b, off + i, none⟩ = some (.int .i64 ((l.take c).getD i 0))) := by
  intro i hi
  have h1 : i < c := by simp at hi; omega
  have h2 : i < l.length := by simp at hi; omega
  simpa [List.getD, List.getElem?_take, h1] using hc.out i h2
theorem cut_cells_drop {l : List Int} {b off : Nat} {w : World} (hc : Hid (∀ i, i < l.length → w.cell? ⟨b, off + i, none⟩ = some (.int .i64 (l.getD i 0)))) (c : Nat) :
    Hid (∀ i, i < (l.drop c).length → w.cell? ⟨b, off + c + i, none⟩ = some (.int .i64 ((l.drop c).getD i 0))) := by
  intro i hi
  have h2 : c + i < l.length := by simp at hi; omega
  rw [Nat.add_assoc]
  simpa [List.getD, List.getElem?_drop] using hc.out (c + i) h2

set_option maxHeartbeats 4000000 in
/-- The loop and what stands ahead of it. -/
theorem turns_some (b off cap : Nat) (l : List Int) (cut : Int) (w : World) (hb : Hid (0 < l.length → b < w.heap.size)) (hlen : l.length * 8 ≤ 140737488351232) (hcap : l.length ≤ cap)
    (hI : Hid (∀ i, i < l.length → I64 (l.getD i 0))) (hc : Hid (∀ i, i < l.length → w.cell? ⟨b, off + i, none⟩ = some (.int .i64 (l.getD i 0)))) (h1 : -9223372036854775808 ≤ cut) (h2 : cut ≤ 9223372036854775807) :
    Calls Try.prog 5 #[.slice (some ⟨b, off, none⟩) l.length cap, .int .i64 cut] w fun e w' => e = .returned (.bool true) ∧ Below w.heap.size w w' := by
  obtain ⟨i0, hi, hz0, hz1, hz2⟩ := info_parts Try.info3
  have hI2 : Hid (∀ i, i < [(2 : Int), 3].length → I64 ([(2 : Int), 3].getD i 0)) := by
    intro i hi
    match i, hi with
    | 0, _ => unfold I64; simp
    | 1, _ => unfold I64; simp
  have f5 : Hid (sumV [(2 : Int), 3].sum = 5 ∧ sumE [(2 : Int), 3].sum = .nilIface) := ⟨by decide, rfl⟩
  go_enter Try.func5, Try.ntmps5
  go_wp2_with fail
  refine (sum_run w.heap.size 0 2 2 [2, 3] _ rfl (by simp) hI2 ?_).mono ?_
  · intro i hi
    match i, hi with
    | 0, _ => simp
    | 1, _ => simp
  rintro e w' ⟨rfl, hw⟩
  rw [hw, f5.out.1, f5.out.2]; clear hw w' hI2 f5
  go_wp2
  go_loopw [7, 8] (fun v i wr => ∃ m : Nat, m ≤ l.length ∧ i = .int .i64 ((m : Int) - 1) ∧ wr.ownsRow w.heap.size 3 1 v (l.length - m) ((l.drop m).reverse.map (Value.int .i64)) ∧ Below w.heap.size w wr ∧ w.heap.size ≤ wr.heap.size) (fun _ i _ => (intOf i + 1).toNat)
  case atStart => exact ⟨l.length, Nat.le_refl _, rfl, by simpa using World.ownsRow_nil _ _ _ _, (Below.refl _ _).alloc (Nat.le_refl _) _, by simp⟩
  case round =>
    obtain ⟨m, hm, rfl, hown, hnx, hsz⟩ := hrel
    cases m with
    | succ j =>
      have hcx := (hnx.cell (p := ⟨b, off + j, none⟩) (hb.out (by omega))).trans (hc.out j (by omega))
      rw [show ((j + 1 : Nat) : Int) - 1 = (j : Int) by omega]
      have hjl : (j : Int) < l.length := by omega
      generalize hx : l.getD j 0 = x at *
      have Hx : Hid (l.getD j 0 = x) := hx
      clear hx
      go_wp2_with (at_builtin; refine wpList_append_own _ rfl _ _ 31 rfl w.heap.size 3 i0 (.int .i64 0) 1 8 Try.underlying31 hi hz0 hz1 hz2 rfl (by decide) _ _ _ rfl (hown.alloc _) ⟨wr.heap.size, 0, none⟩ 1 1 [.int .i64 x] rfl rfl ?c1 ?c2 ?c3 ?c4 ?c5 ?_)
      case c1 =>
        intro j u hj
        match j, hj with
        | 0, hj => simp at hj; subst hj; simp [Addr.add]
      case c2 => intro u hu; simp at hu; subst hu; rfl
      case c3 => unfold maxLen; omega
      case c4 => omega
      case c5 => simp; omega
      · intro v' w1 hown' hgrow _
        rw [← Hx.out, ← List.map_drop, ← List.map_reverse] at hown'
        have R := turn_step (by omega) hsz hown hnx hown' hgrow
        clear hown' hgrow hown hcx
        go_wp2
        go_roundw
        case rel => exact ⟨j, by omega, by go_num, R.1, R.2.1, R.2.2⟩
        case measure => simp [intOf]
    | zero =>
      have hbl : Hid (∀ i, i < l.length → wr.cell? ⟨b, off + i, none⟩ = some (.int .i64 (l.getD i 0))) := fun i hi => (hnx.cell (p := ⟨b, off + i, none⟩) (hb.out (by omega))).trans (hc.out i hi)
      have hown3 : wr.ownsRow w.heap.size 3 1 u7 l.length (l.reverse.map (Value.int .i64)) := by simpa using hown
      have hown2 : Hid (wr.ownsRow w.heap.size 3 1 u7 l.length (l.reverse.map (Value.int .i64))) := hown3
      have hIr : Hid (∀ i, i < l.reverse.length → I64 (l.reverse.getD i 0)) := by
        intro i hi
        have h3 := hI.out (l.length - 1 - i) (by simp at hi; omega)
        simp at hi
        simpa [List.getD, List.getElem?_reverse hi] using h3
      clear hown hown3 hc
      have ht := turns_cuts l
      have hcut : cut < 0 ∨ (¬ cut < 0 ∧ (l.length : Int) < cut) ∨ ∃ c : Nat, cut = c ∧ c ≤ l.length := by
        rcases Int.lt_or_le cut 0 with h | h
        · exact .inl h
        · rcases Int.lt_or_le l.length cut with h' | h'
          · exact .inr (.inl ⟨by omega, h'⟩)
          · exact .inr (.inr ⟨cut.toNat, by omega, by omega⟩)
      by_cases hs : -9223372036854775808 ≤ l.sum ∧ l.sum ≤ 9223372036854775807
      · have e1 : Hid (sumV l.sum = l.sum ∧ sumE l.sum = .nilIface) := sum_fit _ hs
        have Hs : Hid (-9223372036854775808 ≤ l.sum ∧ l.sum ≤ 9223372036854775807) := hs
        clear hs
        go_wp2_with fail
        refine (sum_run b off cap l.length l _ rfl (by omega) hI hbl).mono ?_
        rintro e w' ⟨rfl, hw⟩
        rw [hw, e1.out.1, e1.out.2]; clear hw w'
        go_wp2_with fail
        refine (sum_own _ _ _ _ l.reverse _ (by omega) hIr hown2).mono ?_
        rintro e w' ⟨rfl, hw⟩
        rw [hw, sum_reverse, e1.out.1, e1.out.2]; clear hw w' hown2 hIr
        go_wp2_with fail
        go_quiet (fail)
        rcases hcut with hcut | ⟨hcut, hcut2⟩ | ⟨c, rfl, hcl⟩
        · go_wp2
          go_ret
          exact ⟨rfl, below_drewN hnx _⟩
        · go_wp2
          go_ret
          exact ⟨rfl, below_drewN hnx _⟩
        · have hIt : Hid (∀ i, i < (l.take c).length → I64 ((l.take c).getD i 0)) := cut_take hI c
          have hId : Hid (∀ i, i < (l.drop c).length → I64 ((l.drop c).getD i 0)) := cut_drop hI c
          go_wp2_with fail
          refine (sum_run b off cap c (l.take c) _ (by simp; omega) (by simp; omega) hIt (cut_cells_take (cells_drewN nq hbl) c)).mono ?_
          rintro e w' ⟨rfl, hw⟩
          rw [hw]; clear hw w'
          by_cases hx : -9223372036854775808 ≤ (l.take c).sum ∧ (l.take c).sum ≤ 9223372036854775807
          · have ex := sum_fit _ hx
            rw [ex.1, ex.2]; clear ex
            have Hx : Hid (-9223372036854775808 ≤ (l.take c).sum ∧ (l.take c).sum ≤ 9223372036854775807) := hx
            clear hx
            go_wp2_with fail
            · refine (sum_run b off 0 (l.length - c) (l.drop c) _ (by simp) (by simp; omega) hId (fun i hi => by simp at hi; omega)).mono ?_
              rintro e w' ⟨rfl, hw⟩
              rw [hw]; clear hw w'
              by_cases hy : -9223372036854775808 ≤ (l.drop c).sum ∧ (l.drop c).sum ≤ 9223372036854775807
              · have ey := sum_fit _ hy
                rw [ey.1, ey.2]; clear ey
                have Hy : Hid (-9223372036854775808 ≤ (l.drop c).sum ∧ (l.drop c).sum ≤ 9223372036854775807) := hy
                clear hy
                go_wp2_with fail
                refine (add_any _ _ _ Hx.out Hy.out).mono ?_
                rintro e w' ⟨rfl, o, hw⟩
                rw [hw, ht.out c, e1.out.1, e1.out.2]; clear hw w'
                go_wp2_with fail
                go_quiet (fail)
                go_wp2
                go_ret
                refine ⟨?_, below_drewN ((below_drewN hnx _).alloc (by simp; omega) _) _⟩
                simp
              · have ey := sum_nofit _ hy
                rw [ey.1, ey.2]; clear ey hy
                go_wp2
                go_ret
                exact ⟨rfl, below_drewN hnx _⟩
            · refine (sum_run b (off + c) (cap - c) (l.length - c) (l.drop c) _ (by simp) (by simp; omega) hId (cut_cells_drop (cells_drewN nq hbl) c)).mono ?_
              rintro e w' ⟨rfl, hw⟩
              rw [hw]; clear hw w'
              by_cases hy : -9223372036854775808 ≤ (l.drop c).sum ∧ (l.drop c).sum ≤ 9223372036854775807
              · have ey := sum_fit _ hy
                rw [ey.1, ey.2]; clear ey
                have Hy : Hid (-9223372036854775808 ≤ (l.drop c).sum ∧ (l.drop c).sum ≤ 9223372036854775807) := hy
                clear hy
                go_wp2_with fail
                refine (add_any _ _ _ Hx.out Hy.out).mono ?_
                rintro e w' ⟨rfl, o, hw⟩
                rw [hw, ht.out c, e1.out.1, e1.out.2]; clear hw w'
                go_wp2_with fail
                go_quiet (fail)
                go_wp2
                go_ret
                refine ⟨?_, below_drewN ((below_drewN hnx _).alloc (by simp; omega) _) _⟩
                simp
              · have ey := sum_nofit _ hy
                rw [ey.1, ey.2]; clear ey hy
                go_wp2
                go_ret
                exact ⟨rfl, below_drewN hnx _⟩
          · have ex := sum_nofit _ hx
            rw [ex.1, ex.2]; clear ex hx
            go_wp2_with fail
            · refine (sum_run b off 0 (l.length - c) (l.drop c) _ (by simp) (by simp; omega) hId (fun i hi => by simp at hi; omega)).mono ?_
              rintro e w' ⟨rfl, hw⟩
              rw [hw]; clear hw w'
              go_wp2
              go_ret
              exact ⟨rfl, below_drewN hnx _⟩
            · refine (sum_run b (off + c) (cap - c) (l.length - c) (l.drop c) _ (by simp) (by simp; omega) hId (cut_cells_drop (cells_drewN nq hbl) c)).mono ?_
              rintro e w' ⟨rfl, hw⟩
              rw [hw]; clear hw w'
              go_wp2
              go_ret
              exact ⟨rfl, below_drewN hnx _⟩
      · have e1 : Hid (sumV l.sum = 0 ∧ sumE l.sum = .iface 23 (.int .i64 10)) := sum_nofit _ hs
        have Hs : Hid (¬ (-9223372036854775808 ≤ l.sum ∧ l.sum ≤ 9223372036854775807)) := hs
        clear hs
        go_wp2_with fail
        refine (sum_run b off cap l.length l _ rfl (by omega) hI hbl).mono ?_
        rintro e w' ⟨rfl, hw⟩
        rw [hw, e1.out.1, e1.out.2]; clear hw w'
        go_wp2_with fail
        refine (sum_own _ _ _ _ l.reverse _ (by omega) hIr hown2).mono ?_
        rintro e w' ⟨rfl, hw⟩
        rw [hw, sum_reverse, e1.out.1, e1.out.2]; clear hw w' hown2 hIr
        go_wp2_with fail
        go_quiet (fail)
        rcases hcut with hcut | ⟨hcut, hcut2⟩ | ⟨c, rfl, hcl⟩
        · go_wp2
          go_ret
          exact ⟨rfl, below_drewN hnx _⟩
        · go_wp2
          go_ret
          exact ⟨rfl, below_drewN hnx _⟩
        · have hIt : Hid (∀ i, i < (l.take c).length → I64 ((l.take c).getD i 0)) := cut_take hI c
          have hId : Hid (∀ i, i < (l.drop c).length → I64 ((l.drop c).getD i 0)) := cut_drop hI c
          go_wp2_with fail
          refine (sum_run b off cap c (l.take c) _ (by simp; omega) (by simp; omega) hIt (cut_cells_take (cells_drewN nq hbl) c)).mono ?_
          rintro e w' ⟨rfl, hw⟩
          rw [hw]; clear hw w'
          by_cases hx : -9223372036854775808 ≤ (l.take c).sum ∧ (l.take c).sum ≤ 9223372036854775807
          · have ex := sum_fit _ hx
            rw [ex.1, ex.2]; clear ex
            have Hx : Hid (-9223372036854775808 ≤ (l.take c).sum ∧ (l.take c).sum ≤ 9223372036854775807) := hx
            clear hx
            go_wp2_with fail
            · refine (sum_run b off 0 (l.length - c) (l.drop c) _ (by simp) (by simp; omega) hId (fun i hi => by simp at hi; omega)).mono ?_
              rintro e w' ⟨rfl, hw⟩
              rw [hw]; clear hw w'
              by_cases hy : -9223372036854775808 ≤ (l.drop c).sum ∧ (l.drop c).sum ≤ 9223372036854775807
              · have ey := sum_fit _ hy
                rw [ey.1, ey.2]; clear ey
                have Hy : Hid (-9223372036854775808 ≤ (l.drop c).sum ∧ (l.drop c).sum ≤ 9223372036854775807) := hy
                clear hy
                go_wp2_with fail
                refine (add_any _ _ _ Hx.out Hy.out).mono ?_
                rintro e w' ⟨rfl, o, hw⟩
                rw [hw, ht.out c, e1.out.1, e1.out.2]; clear hw w'
                go_wp2_with fail
                go_quiet (fail)
                go_wp2
                go_ret
                refine ⟨?_, below_drewN ((below_drewN hnx _).alloc (by simp; omega) _) _⟩
                simp
              · have ey := sum_nofit _ hy
                rw [ey.1, ey.2]; clear ey hy
                go_wp2
                go_ret
                exact ⟨rfl, below_drewN hnx _⟩
            · refine (sum_run b (off + c) (cap - c) (l.length - c) (l.drop c) _ (by simp) (by simp; omega) hId (cut_cells_drop (cells_drewN nq hbl) c)).mono ?_
              rintro e w' ⟨rfl, hw⟩
              rw [hw]; clear hw w'
              by_cases hy : -9223372036854775808 ≤ (l.drop c).sum ∧ (l.drop c).sum ≤ 9223372036854775807
              · have ey := sum_fit _ hy
                rw [ey.1, ey.2]; clear ey
                have Hy : Hid (-9223372036854775808 ≤ (l.drop c).sum ∧ (l.drop c).sum ≤ 9223372036854775807) := hy
                clear hy
                go_wp2_with fail
                refine (add_any _ _ _ Hx.out Hy.out).mono ?_
                rintro e w' ⟨rfl, o, hw⟩
                rw [hw, ht.out c, e1.out.1, e1.out.2]; clear hw w'
                go_wp2_with fail
                go_quiet (fail)
                go_wp2
                go_ret
                refine ⟨?_, below_drewN ((below_drewN hnx _).alloc (by simp; omega) _) _⟩
                simp
              · have ey := sum_nofit _ hy
                rw [ey.1, ey.2]; clear ey hy
                go_wp2
                go_ret
                exact ⟨rfl, below_drewN hnx _⟩
          · have ex := sum_nofit _ hx
            rw [ex.1, ex.2]; clear ex hx
            go_wp2_with fail
            · refine (sum_run b off 0 (l.length - c) (l.drop c) _ (by simp) (by simp; omega) hId (fun i hi => by simp at hi; omega)).mono ?_
              rintro e w' ⟨rfl, hw⟩
              rw [hw]; clear hw w'
              go_wp2
              go_ret
              exact ⟨rfl, below_drewN hnx _⟩
            · refine (sum_run b (off + c) (cap - c) (l.length - c) (l.drop c) _ (by simp) (by simp; omega) hId (cut_cells_drop (cells_drewN nq hbl) c)).mono ?_
              rintro e w' ⟨rfl, hw⟩
              rw [hw]; clear hw w'
              go_wp2
              go_ret
              exact ⟨rfl, below_drewN hnx _⟩
end Go.Proofs.Ythlpnieicppmcaa
