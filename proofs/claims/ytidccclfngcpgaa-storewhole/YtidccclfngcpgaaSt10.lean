/-
  The contracts of a store's Put and Get.
-/
import Derived.Test.YtidccclfngcpgaaSt9
namespace Go.Proofs.Ytidccclfngcpgaa
set_option linter.unusedVariables false
set_option linter.unusedSimpArgs false
set_option maxRecDepth 100000
open Go.RowKit Go.Lib
section
variable {P : Program} {o : Oper} {a : Act} {w w' : World} {K : Act → World → Prop} {Q : Exit → Act → World → Prop}
theorem wp_mapUpdate_run (t : TypeId) (m k x : Operand) (ho : o.op = .mapUpdate t m k x) (u1 u2 u3 : Value) (h1 : a.eval m = u1) (h2 : a.eval k = u2) (h3 : a.eval x = u3) (hr : (Instr.mapUpdate t u1 u2 u3).run P w = .ok () w') (h : K (a.put o.dst undef) w') : o.wp P a w K Q := by
  unfold Oper.wp execOp
  simp only [ho, Sem.run_bind, Sem.run_pure, Result.andThen_ok, h1, h2, h3, hr]
  exact h
end
section
variable {w W : World} {p nb sb : Nat} {cv : Value} {n : Nat} {D : Dk} {s mb : Nat} {h : Hd} {P : List (Nat × List UInt8)} {lost : Bool}
/-- What is wrong with a Put. -/
def putBad (lost : Bool) (k : Int) (m : Nat) : Int := if lost = true then 7 else if ¬ (0 ≤ k ∧ k < 40) then 1 else if 60 < m then 4 else 0
theorem put_bad (a : StAt w W p nb sb cv n D s mb h P lost) (k : Int) (ad : Option Addr) (m cap : Nat) (hm : m ≤ 1000000) (hb : putBad lost k m ≠ 0) :
    Calls Try.prog 7 #[.pointer (some ⟨s, 0, none⟩), .int .i64 k, .slice ad m cap] W fun e w' => e = .returned (enE (putBad lost k m)) ∧ Hid (Still W w') := by
  have cl := a.cl
  have HI : Hid (Calls _ _ _ W _) := isPage_any k W
  clear a
  rw [enE_ne hb]
  unfold putBad at hb ⊢
  cases lost
  · rw [if_neg (by simp)] at hb ⊢
    by_cases hk : 0 ≤ k ∧ k < 40
    · rw [decide_eq_true hk] at HI
      rw [if_neg (by simp [hk])] at hb ⊢
      by_cases h60 : 60 < m
      · rw [if_pos h60]
        have h60' : (60 : Int) < m := by omega
        clear hk
        go_enter Try.func7, Try.ntmps7
        go_wp2_with fail
        refine HI.out.mono ?_
        rintro e w' ⟨rfl, hw⟩
        rw [hw]; clear hw w'
        go_wp2
        go_ret
        exact ⟨rfl, Still.refl _⟩
      · rw [if_neg h60] at hb
        exact absurd rfl hb
    · rw [decide_eq_false hk] at HI
      rw [if_pos hk]
      clear hk
      go_enter Try.func7, Try.ntmps7
      go_wp2_with fail
      refine HI.out.mono ?_
      rintro e w' ⟨rfl, hw⟩
      rw [hw]; clear hw w'
      go_wp2
      go_ret
      exact ⟨rfl, Still.refl _⟩
  · rw [if_pos rfl]
    clear HI
    go_enter Try.func7, Try.ntmps7
    go_wp2
    go_ret
    exact ⟨rfl, Still.refl _⟩
set_option maxHeartbeats 2000000 in
theorem put_ok (a : StAt w W p nb sb cv n D s mb h P false) (k : Nat) (hk : k < 40) (ad : Option Addr) (l : List UInt8) (cap : Nat) (hB : IsBy W ad l cap) (hc : cap = 0 ∨ ad ≠ none) (hl : l.length ≤ 60) :
    Calls Try.prog 7 #[.pointer (some ⟨s, 0, none⟩), .int .i64 (k : Int), .slice ad l.length cap] W fun e w' => e = .returned .nilIface ∧ Hid (StAt w w' p nb sb cv n D s mb h (upd P k l) false) ∧ Hid (KeepC w.heap.size stT W w') := by
  have cl := a.cl
  have HI : Hid (Calls _ _ _ W _) := isPage_any k W
  rw [decide_eq_true (by omega)] at HI
  have Ha : Hid (StAt w W.drew p nb sb cv n D s mb h P false) := a.below ⟨rfl, rfl, rfl, Nat.le_refl _, fun _ _ => rfl⟩
  have HC : Hid (Calls _ _ _ W.drew _) := clone_any ad l cap W.drew (hB.below ⟨rfl, rfl, rfl, Nat.le_refl _, fun _ _ => rfl⟩) hc (by omega)
  have l0 : (0 : Int) ≤ l.length := by omega
  have l1 : ¬ (60 : Int) < l.length := by omega
  have HK0 : Hid (KeepC w.heap.size stT W W.drew) := .of_below ⟨rfl, rfl, rfl, Nat.le_refl _, fun _ _ => rfl⟩
  have cmd : W.drew.cell? ⟨s, 44, none⟩ = some (.map (some mb)) := a.cm
  clear a hB hk
  go_enter Try.func7, Try.ntmps7
  go_wp2_with fail
  refine HI.out.mono ?_
  rintro e w' ⟨rfl, hw⟩
  rw [hw]; clear hw w' HI
  go_wp2
  refine wp_region_drawn (by kernel_rfl) ?_
  refine wpAny_take (i := 0) (v := .pointer (some ⟨s, 0, none⟩)) rfl (by kernel_rfl) (by kernel_rfl) (by kernel_rfl) (fun _ _ _ h => h) (Or.inl ⟨by rfl, fun w => by go_simp⟩) ?_
  simp only [Act.put, List.getElem_toArray, List.getElem_cons_succ, List.getElem_cons_zero, List.setIfInBounds_toArray, List.set_cons_zero, List.set_cons_succ]
  refine wpAny_take (i := 1) (v := .pointer (some ⟨s, 0, none⟩)) rfl (by kernel_rfl) (by kernel_rfl) (by kernel_rfl) (fun _ _ _ h => h) (Or.inl ⟨by rfl, fun w => by go_simp⟩) ?_
  simp only [Act.put, List.getElem_toArray, List.getElem_cons_succ, List.getElem_cons_zero, List.setIfInBounds_toArray, List.set_cons_zero, List.set_cons_succ]
  refine wpAny_take (i := 2) (v := .pointer (some ⟨s, 44, none⟩)) rfl (by kernel_rfl) (by kernel_rfl) (by kernel_rfl) (fun _ _ _ h => h) (Or.inl ⟨by rfl, fun w => by go_simp⟩) ?_
  simp only [Act.put, List.getElem_toArray, List.getElem_cons_succ, List.getElem_cons_zero, List.setIfInBounds_toArray, List.set_cons_zero, List.set_cons_succ]
  refine wpAny_take (i := 4) (v := .int .i64 k) rfl (by kernel_rfl) (by kernel_rfl) (by kernel_rfl) (fun _ _ _ h => h) (Or.inl ⟨by rfl, fun w => by go_simp⟩) ?_
  simp only [Act.put, List.getElem_toArray, List.getElem_cons_succ, List.getElem_cons_zero, List.setIfInBounds_toArray, List.set_cons_zero, List.set_cons_succ]
  refine wpAny_take (i := 5) (v := .slice ad l.length cap) rfl (by kernel_rfl) (by kernel_rfl) (by kernel_rfl) (fun _ _ _ h => h) (Or.inl ⟨by rfl, fun w => by go_simp⟩) ?_
  simp only [Act.put, List.getElem_toArray, List.getElem_cons_succ, List.getElem_cons_zero, List.setIfInBounds_toArray, List.set_cons_zero, List.set_cons_succ]
  refine any_of_L (g := 7) (T := fun u => u.cell? ⟨s, 44, none⟩ = some (.map (some mb))) _ _ _ _ ?_
  refine L_take (i := 3) (v := .map (some mb)) rfl rfl (by kernel_rfl) (by decide) (by kernel_rfl) (by kernel_rfl) (by kernel_rfl) (by kernel_rfl) (fun _ _ _ h => h) (Or.inl ⟨by rfl, fun w' hw' => by go_simp⟩) cmd ?_
  simp only [Act.put, List.getElem_toArray, List.getElem_cons_succ, List.getElem_cons_zero, List.setIfInBounds_toArray, List.set_cons_zero, List.set_cons_succ]
  refine L_one (i := 6) (by kernel_rfl) ?_
  refine wpOp_step rfl (fun K hK => ?_)
  rw [if_pos (by rfl)]
  go_wp2_with fail
  refine HC.out.mono ?_
  rintro e w2 ⟨v, rfl, hv, hb2⟩
  have a2 : StAt w w2 p nb sb cv n D s mb h P false := Ha.out.below hb2.out
  obtain ⟨w3, hrun, hm3, hk3, ho3⟩ := run_put a2.mp k v l hv.out w.heap.size a2.lm
  have HE : Hid (StAt w w3 p nb sb cv n D s mb h (upd P k l) false ∧ KeepC w.heap.size stT W w3) := ⟨a2.pendO hm3 hk3 ho3, (HK0.out.trans (.of_below hb2.out)).trans hk3⟩
  refine hK _ _ ⟨a2.cm, ?_⟩
  clear hK K HC Ha hv hb2 a2 hm3 hk3 ho3
  refine L_go (by kernel_rfl) (by kernel_rfl) ?_
  refine wpOp_step rfl (fun K hK => ?_)
  rw [if_pos (by rfl)]
  refine wp_mapUpdate_run 53 (.tmp 23) (.tmp 24) (.tmp 26) (by rfl) (.map (some mb)) (.int .i64 (k : Int)) v (by rfl) (by rfl) (by rfl) hrun ?_
  refine hK _ _ ?_
  clear hK K hrun
  refine wpAny_done (by kernel_rfl) ?_ _
  go_wp2
  go_ret
  exact ⟨rfl, HE.out.1, HE.out.2⟩
end
end Go.Proofs.Ytidccclfngcpgaa
