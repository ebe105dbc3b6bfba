/-
  The contract of a store's Get.
-/
import Derived.Test.YtidccclfngcpgaaSt10
namespace Go.Proofs.Ytidccclfngcpgaa
set_option linter.unusedVariables false
set_option linter.unusedSimpArgs false
set_option maxRecDepth 100000
open Go.RowKit Go.Lib
/-- What a page has, by a head. -/
def PgIs (D : Dk) (n : Nat) (h : Hd) (k : Nat) (l : List UInt8) : Prop :=
  (h.whr.getD k 0 = 0 ∧ l = []) ∨ (h.whr.getD k 0 ≠ 0 ∧ (h.whr.getD k 0).toNat < n ∧ pgAt D (h.whr.getD k 0).toNat l ∧ l.length ≤ 60)
section
variable {w W : World} {p nb sb : Nat} {cv : Value} {n : Nat} {D : Dk} {s mb : Nat} {h : Hd} {P : List (Nat × List UInt8)} {lost : Bool}
set_option maxHeartbeats 2000000 in
theorem get_any (a : StAt w W p nb sb cv n D s mb h P false) (k : Nat) (hk : k < 40) (l : List UInt8) (hp : PgIs D n h k l) (hP : ∀ k l, look P k = some l → l.length ≤ 60) :
    Calls Try.prog 8 #[.pointer (some ⟨s, 0, none⟩), .int .i64 (k : Int)] W fun e w' => ∃ ad cap, e = .returned (.tuple #[.slice ad ((look P k).getD l).length cap, .nilIface]) ∧ Hid (IsBy w' ad ((look P k).getD l) cap) ∧ Hid (Below W.heap.size W w') := by
  have cl := a.cl
  have cm := a.cm
  have HI : Hid (Calls _ _ _ W _) := isPage_any k W
  rw [decide_eq_true (by omega)] at HI
  obtain ⟨v, hrun, hv, hvn⟩ := run_look a.mp k
  have k0 : (0 : Int) ≤ k := by omega
  have k1 : (k : Int) < 40 := by omega
  cases hq : look P k with
  | some l' =>
    rw [hq] at hrun hv
    have hl' := hP k l' hq
    obtain ⟨ad, cap, rfl, hcc, hby⟩ := hv.isBy
    have HC : Hid (Calls _ _ _ W _) := clone_any ad l' cap W hby hcc (by omega)
    simp only [Option.getD_some] at HC hrun ⊢
    clear a hv hp hby hvn
    go_enter Try.func8, Try.ntmps8
    go_wp2_with fail
    refine HI.out.mono ?_
    rintro e w' ⟨rfl, hw⟩
    rw [hw]; clear hw w' HI
    go_wp2_with fail
    refine HC.out.mono ?_
    rintro e w2 ⟨v, rfl, hv, hb2⟩
    obtain ⟨ad2, cap2, rfl, _, hby2⟩ := hv.out.isBy
    have HB2 : Hid (IsBy w2 ad2 l' cap2) := hby2
    clear hv hby2
    go_wp2
    go_ret2
    exact ⟨ad2, cap2, rfl, HB2, hb2⟩
  | none =>
    rw [hq] at hrun hv
    have hvn' := hvn hq
    subst hvn'
    clear hvn
    rcases hp with ⟨hw0, rfl⟩ | ⟨hw0, hwn, hpg, hl⟩
    · have cw := a.cw k hk
      rw [hw0] at cw
      have cw' : W.cell? ⟨s, 4 + k, none⟩ = some (.int .u8 0) := cw
      clear a hv cw
      go_enter Try.func8, Try.ntmps8
      go_wp2_with fail
      refine HI.out.mono ?_
      rintro e w' ⟨rfl, hw⟩
      rw [hw]; clear hw w' HI
      go_wp2
      go_ret2
      exact ⟨none, 0, rfl, ⟨Nat.le_refl _, .inl rfl⟩, Below.refl _ _⟩
    · have cw := a.cw k hk
      have hne : ((h.whr.getD k 0).toNat : Int) ≠ 0 := fun e => hw0 (UInt8.toNat_inj.1 (by
        have : (0 : UInt8).toNat = 0 := rfl
        omega))
      have hlt := UInt8.toNat_lt (h.whr.getD k 0)
      have hneb : (((h.whr.getD k 0).toNat : Int) == 0) = false := by rw [beq_eq_false_iff_ne]; exact hne
      have HR : Hid (Calls _ _ _ W.drew _) := readPage_any (W := W.drew) (a.tn.below ⟨rfl, rfl, rfl, Nat.le_refl _, fun _ _ => rfl⟩) _ hwn l hl hpg
      have c0 : W.drew.cell? ⟨s, 0, none⟩ = some (.pointer (some ⟨p, 0, none⟩)) := a.c0
      have cwd : W.drew.cell? ⟨s, 4 + k, none⟩ = some (.int .u8 ((h.whr.getD k 0).toNat : Int)) := cw
      generalize (h.whr.getD k 0).toNat = X at *
      have x0 : (0 : Int) ≤ X := by omega
      have x1 : (X : Int) < 256 := by omega
      have hwx : IntKind.i64.wrap (X : Int) = X := by rw [IntKind.wrap_i64]; omega
      clear a hv hpg hne
      go_enter Try.func8, Try.ntmps8
      go_wp2_with fail
      refine HI.out.mono ?_
      rintro e w' ⟨rfl, hw⟩
      rw [hw]; clear hw w' HI
      go_wp2
      refine wp_region_drawn (by kernel_rfl) ?_
      refine wpAny_take (i := 0) (v := .pointer (some ⟨s, 0, none⟩)) rfl (by kernel_rfl) (by kernel_rfl) (by kernel_rfl) (fun _ _ _ h => h) (Or.inl ⟨by rfl, fun w => by go_simp⟩) ?_
      simp only [Act.put, List.getElem_toArray, List.getElem_cons_succ, List.getElem_cons_zero, List.setIfInBounds_toArray, List.set_cons_zero, List.set_cons_succ]
      refine wpAny_take (i := 1) (v := .pointer (some ⟨s, 0, none⟩)) rfl (by kernel_rfl) (by kernel_rfl) (by kernel_rfl) (fun _ _ _ h => h) (Or.inl ⟨by rfl, fun w => by go_simp⟩) ?_
      simp only [Act.put, List.getElem_toArray, List.getElem_cons_succ, List.getElem_cons_zero, List.setIfInBounds_toArray, List.set_cons_zero, List.set_cons_succ]
      refine wpAny_take (i := 2) (v := .pointer (some ⟨s, 0, none⟩)) rfl (by kernel_rfl) (by kernel_rfl) (by kernel_rfl) (fun _ _ _ h => h) (Or.inl ⟨by rfl, fun w => by go_simp⟩) ?_
      simp only [Act.put, List.getElem_toArray, List.getElem_cons_succ, List.getElem_cons_zero, List.setIfInBounds_toArray, List.set_cons_zero, List.set_cons_succ]
      refine wpAny_take (i := 4) (v := .pointer (some ⟨s, 0, none⟩)) rfl (by kernel_rfl) (by kernel_rfl) (by kernel_rfl) (fun _ _ _ h => h) (Or.inl ⟨by rfl, fun w => by go_simp⟩) ?_
      simp only [Act.put, List.getElem_toArray, List.getElem_cons_succ, List.getElem_cons_zero, List.setIfInBounds_toArray, List.set_cons_zero, List.set_cons_succ]
      refine wpAny_take (i := 5) (v := .int .i64 k) rfl (by kernel_rfl) (by kernel_rfl) (by kernel_rfl) (fun _ _ _ h => h) (Or.inl ⟨by rfl, fun w => by go_simp⟩) ?_
      simp only [Act.put, List.getElem_toArray, List.getElem_cons_succ, List.getElem_cons_zero, List.setIfInBounds_toArray, List.set_cons_zero, List.set_cons_succ]
      refine wpAny_take (i := 6) (v := .pointer (some ⟨s, 0, none⟩)) rfl (by kernel_rfl) (by kernel_rfl) (by kernel_rfl) (fun _ _ _ h => h) (Or.inl ⟨by rfl, fun w => by go_simp⟩) ?_
      simp only [Act.put, List.getElem_toArray, List.getElem_cons_succ, List.getElem_cons_zero, List.setIfInBounds_toArray, List.set_cons_zero, List.set_cons_succ]
      refine wpAny_take (i := 7) (v := .pointer (some ⟨s, 1, none⟩)) rfl (by kernel_rfl) (by kernel_rfl) (by kernel_rfl) (fun _ _ _ h => h) (Or.inl ⟨by rfl, fun w => by go_simp⟩) ?_
      simp only [Act.put, List.getElem_toArray, List.getElem_cons_succ, List.getElem_cons_zero, List.setIfInBounds_toArray, List.set_cons_zero, List.set_cons_succ]
      refine wpAny_take (i := 8) (v := .pointer (some ⟨s, 4, none⟩)) rfl (by kernel_rfl) (by kernel_rfl) (by kernel_rfl) (fun _ _ _ h => h) (Or.inl ⟨by rfl, fun w => by go_simp⟩) ?_
      simp only [Act.put, List.getElem_toArray, List.getElem_cons_succ, List.getElem_cons_zero, List.setIfInBounds_toArray, List.set_cons_zero, List.set_cons_succ]
      refine wpAny_take (i := 9) (v := .pointer (some ⟨s, 4 + k, none⟩)) rfl (by kernel_rfl) (by kernel_rfl) (by kernel_rfl) (fun _ _ _ h => h) (Or.inl ⟨by rfl, fun w => by go_simp⟩) ?_
      simp only [Act.put, List.getElem_toArray, List.getElem_cons_succ, List.getElem_cons_zero, List.setIfInBounds_toArray, List.set_cons_zero, List.set_cons_succ]
      refine any_of_L (g := 12) (T := fun u => u = W.drew) _ _ _ _ ?_
      refine L_take (i := 3) (v := .pointer (some ⟨p, 0, none⟩)) rfl rfl (by kernel_rfl) (by decide) (by kernel_rfl) (by kernel_rfl) (by kernel_rfl) (by kernel_rfl) (fun _ _ _ h => h) (Or.inl ⟨by rfl, fun w' hw' => by subst hw'; go_simp⟩) rfl ?_
      simp only [Act.put, List.getElem_toArray, List.getElem_cons_succ, List.getElem_cons_zero, List.setIfInBounds_toArray, List.set_cons_zero, List.set_cons_succ]
      refine L_take2 (i := 10) (m := 11) (v := .int .u8 (X : Int)) rfl rfl rfl (by kernel_rfl) (by kernel_rfl) (by decide) (by kernel_rfl) (by kernel_rfl) (by kernel_rfl) (by kernel_rfl) (by kernel_rfl) (fun _ _ _ h => h) (Or.inl ⟨by rfl, fun w' hw' => by subst hw'; go_simp⟩) rfl ?_
      simp only [Act.put, List.getElem_toArray, List.getElem_cons_succ, List.getElem_cons_zero, List.setIfInBounds_toArray, List.set_cons_zero, List.set_cons_succ]
      refine L_take (i := 11) (v := .int .i64 X) rfl rfl (by kernel_rfl) (by decide) (by kernel_rfl) (by kernel_rfl) (by kernel_rfl) (by kernel_rfl) (fun _ _ _ h => h) (Or.inl ⟨by rfl, fun w' hw' => by clear hw'; go_simp⟩) rfl ?_
      simp only [Act.put, List.getElem_toArray, List.getElem_cons_succ, List.getElem_cons_zero, List.setIfInBounds_toArray, List.set_cons_zero, List.set_cons_succ]
      refine L_go (by kernel_rfl) (by kernel_rfl) ?_
      refine wpOp_step rfl (fun K hK => ?_)
      rw [if_pos (by rfl)]
      go_wp2_with fail
      refine HR.out.mono ?_
      rintro e w2 ⟨ad, cap, rfl, hby, hb2, _⟩
      refine hK _ _ ?_
      clear hK K HR
      have HB2 : Hid (Below W.heap.size W w2) := (show Below W.heap.size W W.drew from ⟨rfl, rfl, rfl, Nat.le_refl _, fun _ _ => rfl⟩).trans hb2.out
      refine wpAny_take (i := 13) (v := .slice ad l.length cap) rfl (by kernel_rfl) (by kernel_rfl) (by kernel_rfl) (fun _ _ _ h => h) (Or.inl ⟨by rfl, fun w => by go_simp⟩) ?_
      simp only [Act.put, List.getElem_toArray, List.getElem_cons_succ, List.getElem_cons_zero, List.setIfInBounds_toArray, List.set_cons_zero, List.set_cons_succ]
      refine wpAny_take (i := 14) (v := .nilIface) rfl (by kernel_rfl) (by kernel_rfl) (by kernel_rfl) (fun _ _ _ h => h) (Or.inl ⟨by rfl, fun w => by go_simp⟩) ?_
      simp only [Act.put, List.getElem_toArray, List.getElem_cons_succ, List.getElem_cons_zero, List.setIfInBounds_toArray, List.set_cons_zero, List.set_cons_succ]
      refine wpAny_take (i := 15) (v := .slice ad l.length cap) rfl (by kernel_rfl) (by kernel_rfl) (by kernel_rfl) (fun _ _ _ h => h) (Or.inl ⟨by rfl, fun w => by go_simp⟩) ?_
      simp only [Act.put, List.getElem_toArray, List.getElem_cons_succ, List.getElem_cons_zero, List.setIfInBounds_toArray, List.set_cons_zero, List.set_cons_succ]
      refine wpAny_take (i := 16) (v := .nilIface) rfl (by kernel_rfl) (by kernel_rfl) (by kernel_rfl) (fun _ _ _ h => h) (Or.inl ⟨by rfl, fun w => by go_simp⟩) ?_
      simp only [Act.put, List.getElem_toArray, List.getElem_cons_succ, List.getElem_cons_zero, List.setIfInBounds_toArray, List.set_cons_zero, List.set_cons_succ]
      refine wpAny_done (by kernel_rfl) ?_ _
      go_wp2
      go_ret2
      exact ⟨ad, cap, rfl, hby, HB2⟩
end
end Go.Proofs.Ytidccclfngcpgaa
