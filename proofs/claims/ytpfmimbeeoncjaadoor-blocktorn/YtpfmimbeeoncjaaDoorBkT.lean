/-
  The walk of daylaw5.BlockTorn.
-/
import Derived.Test.YtpfmimbeeoncjaaDoorBk8
namespace Go.Proofs.YtpfmimbeeoncjaaDoor
set_option linter.unusedVariables false
set_option linter.unusedSimpArgs false
set_option maxRecDepth 100000
open Go.RowKit Go.Lib

/-- Four blocks, one of them torn. -/
def tornS (k : Nat) (b : List UInt8) : List Bk := (List.replicate 4 bk0).set k ⟨padB b, true⟩
def tornD (k : Nat) (b : List UInt8) : Dk := ⟨tornS k b, tornS k b, [], 0, -1⟩
theorem torn_one (k : Nat) (b : List UInt8) : ((dk0 4).write k b).crash [0] 0 = tornD k b := rfl
theorem torn_two (k : Nat) (b : List UInt8) : (tornD k b).crash [0, 1] 5 = tornD k b := rfl
theorem torn_is (k : Nat) (b : List UInt8) (h : k < 4) : ((tornD k b).now.getD k bk0).torn = true := by
  simp [tornD, tornS, List.getD, h]
theorem torn_not (k i : Nat) (b : List UInt8) (h : i < 4) (hne : k ≠ i) : ((tornD k b).now.getD i bk0).torn = false := by
  rw [List.getD_eq_getElem?_getD]
  simp only [tornD, tornS]
  rw [List.getElem?_set_ne hne, List.getElem?_replicate, if_pos h]
  rfl
theorem torn_again (k : Nat) (b c : List UInt8) (h : k < 4) : ((tornD k b).write k c).now.getD k bk0 = ⟨padB c, false⟩ := by
  simp [tornD, tornS, Dk.write, List.getD, h]

theorem torn_out (at_ : Int) (a : Option Addr) (b : List UInt8) (cb : Nat) (a' : Option Addr) (c : List UInt8) (cc : Nat) (w : World) (hg : ErrT w) (h : ¬ (0 ≤ at_ ∧ at_ ≤ 3 ∧ b.length ≤ 64 ∧ c.length ≤ 64)) :
    Calls Tryd.prog 3 #[.int .i64 at_, .slice a b.length cb, .slice a' c.length cc] w fun e w' => e = .returned (.bool true) ∧ Below w.heap.size w w' := by
  have HN : Hid (Calls _ _ _ _ _) := tn_new 4 w (by omega) (by omega)
  have HG : Hid (ErrT w) := hg
  have b1 : (b.length : Int) = ((b.length : Nat) : Int) := rfl
  clear hg
  by_cases h1 : at_ < 0
  · go_enter Tryd.func3, Tryd.ntmps3
    go_wp2_with fail
    refine HN.out.mono ?_
    rintro e w1 ⟨p, nb, sb, rfl, H1⟩
    have HW := tn_writeBad H1.out 4 none [] 0 (by decide)
    have e1 : enE (wrBad (dk0 4) 4 4 []) = .iface 35 (.int .i64 1) := rfl
    rw [e1] at HW
    have HW' : Hid (Calls _ _ _ _ _) := HW
    clear HN HW
    go_wp2_with fail
    refine HW'.out.mono ?_
    rintro e w2 ⟨rfl, H2, hs⟩
    have B2 := H2.out.2
    have HE := err_true (E := .iface 35 (.int .i64 1)) (c := 1) (.inr ⟨rfl, by omega, by omega⟩) w2 (HG.out.below B2 (Nat.le_refl _))
    have HE' : Hid (Calls _ _ _ _ _) := HE
    clear HW' HE
    go_wp2_with fail
    refine HE'.out.mono ?_
    rintro e w3 ⟨rfl, hb⟩
    have B3 := B2.trans (hb.mono B2.size)
    clear HE'
    go_wp2
    go_ret
    exact ⟨rfl, B3⟩
  · by_cases h2 : 3 < at_
    · go_enter Tryd.func3, Tryd.ntmps3
      go_wp2_with fail
      refine HN.out.mono ?_
      rintro e w1 ⟨p, nb, sb, rfl, H1⟩
      have HW := tn_writeBad H1.out 4 none [] 0 (by decide)
      have e1 : enE (wrBad (dk0 4) 4 4 []) = .iface 35 (.int .i64 1) := rfl
      rw [e1] at HW
      have HW' : Hid (Calls _ _ _ _ _) := HW
      clear HN HW
      go_wp2_with fail
      refine HW'.out.mono ?_
      rintro e w2 ⟨rfl, H2, hs⟩
      have B2 := H2.out.2
      have HE := err_true (E := .iface 35 (.int .i64 1)) (c := 1) (.inr ⟨rfl, by omega, by omega⟩) w2 (HG.out.below B2 (Nat.le_refl _))
      have HE' : Hid (Calls _ _ _ _ _) := HE
      clear HW' HE
      go_wp2_with fail
      refine HE'.out.mono ?_
      rintro e w3 ⟨rfl, hb⟩
      have B3 := B2.trans (hb.mono B2.size)
      clear HE'
      go_wp2
      go_ret
      exact ⟨rfl, B3⟩
    · by_cases h3 : (64 : Int) < b.length
      · go_enter Tryd.func3, Tryd.ntmps3
        go_wp2_with fail
        refine HN.out.mono ?_
        rintro e w1 ⟨p, nb, sb, rfl, H1⟩
        have HW := tn_writeBad H1.out 4 none [] 0 (by decide)
        have e1 : enE (wrBad (dk0 4) 4 4 []) = .iface 35 (.int .i64 1) := rfl
        rw [e1] at HW
        have HW' : Hid (Calls _ _ _ _ _) := HW
        clear HN HW
        go_wp2_with fail
        refine HW'.out.mono ?_
        rintro e w2 ⟨rfl, H2, hs⟩
        have B2 := H2.out.2
        have HE := err_true (E := .iface 35 (.int .i64 1)) (c := 1) (.inr ⟨rfl, by omega, by omega⟩) w2 (HG.out.below B2 (Nat.le_refl _))
        have HE' : Hid (Calls _ _ _ _ _) := HE
        clear HW' HE
        go_wp2_with fail
        refine HE'.out.mono ?_
        rintro e w3 ⟨rfl, hb⟩
        have B3 := B2.trans (hb.mono B2.size)
        clear HE'
        go_wp2
        go_ret
        exact ⟨rfl, B3⟩
      · have h4 : (64 : Int) < c.length := by omega
        go_enter Tryd.func3, Tryd.ntmps3
        go_wp2_with fail
        refine HN.out.mono ?_
        rintro e w1 ⟨p, nb, sb, rfl, H1⟩
        have HW := tn_writeBad H1.out 4 none [] 0 (by decide)
        have e1 : enE (wrBad (dk0 4) 4 4 []) = .iface 35 (.int .i64 1) := rfl
        rw [e1] at HW
        have HW' : Hid (Calls _ _ _ _ _) := HW
        clear HN HW
        go_wp2_with fail
        refine HW'.out.mono ?_
        rintro e w2 ⟨rfl, H2, hs⟩
        have B2 := H2.out.2
        have HE := err_true (E := .iface 35 (.int .i64 1)) (c := 1) (.inr ⟨rfl, by omega, by omega⟩) w2 (HG.out.below B2 (Nat.le_refl _))
        have HE' : Hid (Calls _ _ _ _ _) := HE
        clear HW' HE
        go_wp2_with fail
        refine HE'.out.mono ?_
        rintro e w3 ⟨rfl, hb⟩
        have B3 := B2.trans (hb.mono B2.size)
        clear HE'
        go_wp2
        go_ret
        exact ⟨rfl, B3⟩

set_option maxHeartbeats 8000000 in
theorem torn_in (k : Nat) (a : Option Addr) (b : List UInt8) (cb : Nat) (a' : Option Addr) (c : List UInt8) (cc : Nat) (w : World) (hg : ErrT w) (hk : k < 4) (hbl : b.length ≤ 64) (hcl : c.length ≤ 64) (hB : IsBy w a b cb) (hC : IsBy w a' c cc) :
    Calls Tryd.prog 3 #[.int .i64 (k : Int), .slice a b.length cb, .slice a' c.length cc] w fun e w' => e = .returned (.bool true) ∧ Below w.heap.size w w' := by
  have HN : Hid (Calls _ _ _ _ _) := tn_new 4 w (by omega) (by omega)
  have HG : Hid (ErrT w) := hg
  have HB : Hid (IsBy w a b cb) := hB
  have HC : Hid (IsBy w a' c cc) := hC
  have k0 : (0 : Int) ≤ k := by omega
  have k1 : (k : Int) ≤ 3 := by omega
  have b0 : (b.length : Int) ≤ 64 := by omega
  have c0 : (c.length : Int) ≤ 64 := by omega
  clear hg hB hC
  go_enter Tryd.func3, Tryd.ntmps3
  go_wp2_with fail
  refine HN.out.mono ?_
  rintro e w1 ⟨p, nb, sb, rfl, H1⟩
  have HW : Hid (Calls _ _ _ _ _) := tn_write H1.out k a b cb rfl hk hbl (by omega) (by simp [dk0]) (by simp [dk0]) (HB.out.belowN H1.out.2 (Nat.le_refl _))
  clear HN
  go_wp2_with fail
  refine HW.out.mono ?_
  rintro e w2 ⟨rfl, cv2, H2, hk2⟩
  clear HW hk2 H1
  have hin1 := isIn_new w2 [0] 3
  have hT2 := H2.out.below ((Below.refl _ w2).alloc (Nat.le_refl _) (.cells #[.int .i64 0] 3))
  have HR1 := tn_crash hT2 (some ⟨w2.heap.size, 0, none⟩) [0] 1 0 (by simp [dk0, Dk.write]) (by simp) hin1
  rw [torn_one] at HR1
  have HR : Hid (Calls _ _ _ _ _) := HR1
  clear hin1 hT2 HR1 H2
  go_wp2_with fail
  refine HR.out.mono ?_
  rintro e w3 ⟨rfl, H3, _⟩
  have HQ1 := tn_readTorn H3.out k hk (torn_is k b hk)
  rw [enE_ne (by decide)] at HQ1
  have HQ : Hid (Calls _ _ _ _ _) := HQ1
  clear HR HQ1
  go_wp2_with fail
  refine HQ.out.mono ?_
  rintro e w4 ⟨rfl, H4, _⟩
  have HE : Hid (Calls _ _ _ _ _) := err_true (E := .iface 35 (.int .i64 9)) (c := 9) (.inr ⟨rfl, by omega, by omega⟩) w4 (HG.out.below H4.out.2 (Nat.le_refl _))
  clear HQ H3
  go_wp2_with fail
  refine HE.out.mono ?_
  rintro e w5 ⟨rfl, hb5⟩
  have H5 : Hid (Tn w w5 p nb sb (.slice none 0 0) 4 (tornD k b)) := H4.out.below hb5
  clear HE H4 hb5
  go_wp2_with fail
  go_loopw [13] (fun i wr => ∃ m : Nat, m ≤ 4 ∧ i = .int .i64 m ∧ Hid (Tn w wr p nb sb (.slice none 0 0) 4 (tornD k b))) (fun i _ => 4 - (intOf i).toNat)
  case atStart => exact ⟨0, by omega, rfl, H5⟩
  case round =>
    obtain ⟨m, hm, rfl, H6⟩ := hrel
    by_cases hlt : m < 4
    · have m0 : (0 : Int) ≤ m := by omega
      have m1 : (m : Int) < 4 := by omega
      by_cases hmk : k = m
      · subst hmk
        have HQ1 := tn_readTorn H6.out k hk (torn_is k b hk)
        rw [enE_ne (by decide)] at HQ1
        have HQ : Hid (Calls _ _ _ _ _) := HQ1
        clear HQ1
        go_wp2_with fail
        refine HQ.out.mono ?_
        rintro e w7 ⟨rfl, H7, _⟩
        clear HQ
        go_wp2_with fail
        go_roundw
        case rel => exact ⟨k + 1, by omega, by go_num, H7⟩
        case measure => simp [intOf]; omega
      · have HQ : Hid (Calls _ _ _ _ _) := tn_read H6.out m hlt (torn_not k m b hlt hmk)
        have hne : ¬ (m : Int) = (k : Int) := by omega
        have hne2 : ((m : Int) == (k : Int)) = false := by rw [beq_eq_false_iff_ne]; exact hne
        go_wp2_with fail
        refine HQ.out.mono ?_
        rintro e w7 ⟨rfl, H7, _, _⟩
        clear HQ
        go_wp2_with fail
        go_roundw
        case rel => exact ⟨m + 1, by omega, by go_num, H7⟩
        case measure => simp [intOf]; omega
    · have em : m = 4 := by omega
      subst em
      go_wp2_with fail
      have hin1 := isIn_new wr [0, 1] 3
      have hT2 := H6.out.below ((Below.refl _ wr).alloc (Nat.le_refl _) (.cells #[.int .i64 0, .int .i64 1] 3))
      have HR1 := tn_crash hT2 (some ⟨wr.heap.size, 0, none⟩) [0, 1] 2 5 (by simp [tornD]) (by simp) hin1
      rw [torn_two] at HR1
      have HR : Hid (Calls _ _ _ _ _) := HR1
      clear hin1 hT2 HR1
      refine HR.out.mono ?_
      rintro e w7 ⟨rfl, H7, _⟩
      have HQ1 := tn_readTorn H7.out k hk (torn_is k b hk)
      rw [enE_ne (by decide)] at HQ1
      have HQ : Hid (Calls _ _ _ _ _) := HQ1
      clear HR HQ1
      go_wp2_with fail
      refine HQ.out.mono ?_
      rintro e w8 ⟨rfl, H8, _⟩
      have HE : Hid (Calls _ _ _ _ _) := err_true (E := .iface 35 (.int .i64 9)) (c := 9) (.inr ⟨rfl, by omega, by omega⟩) w8 (HG.out.below H8.out.2 (Nat.le_refl _))
      clear HQ
      go_wp2_with fail
      refine HE.out.mono ?_
      rintro e w9 ⟨rfl, hb9⟩
      have H9 : Hid (Tn w w9 p nb sb (.slice none 0 0) 4 (tornD k b)) := H8.out.below hb9
      clear HE hb9
      have HW : Hid (Calls _ _ _ _ _) := tn_write H9.out k a' c cc rfl hk hcl (by omega) (by simp [tornD]) (by simp [tornD]) (HC.out.belowN H9.out.2 (Nat.le_refl _))
      go_wp2_with fail
      refine HW.out.mono ?_
      rintro e wa ⟨rfl, cva, Ha, _⟩
      clear HW
      have ea := torn_again k b c hk
      have HQ2 := tn_read Ha.out k hk (by rw [ea])
      rw [ea] at HQ2
      have HQ : Hid (Calls _ _ _ _ _) := HQ2
      clear HQ2
      go_wp2_with fail
      refine HQ.out.mono ?_
      rintro e wb ⟨rfl, Hb, hrow, _⟩
      have hby := isBy_row hrow.out c.length (by rw [padB_length c hcl]; exact hcl) 64 hcl
      rw [padB_take] at hby
      have hS1 : ∀ n, (convert 22 9 (.slice (some ⟨wa.heap.size, 0, none⟩) c.length 64)).run Tryd.prog (wb.drewN n) = .ok (.string (txt c)) (wb.drewN n) := fun n => run_str (wb.drewN n) _ c 64 (hby.below ((Still.drewN wb n).below _))
      have hS2 : ∀ n, (convert 22 9 (.slice a' c.length cc)).run Tryd.prog (wb.drewN n) = .ok (.string (txt c)) (wb.drewN n) := fun n => run_str (wb.drewN n) _ c cc ((HC.out.belowN Hb.out.2 (Nat.le_refl _)).below ((Still.drewN wb n).below _))
      have c1 : (0 : Int) ≤ c.length := by omega
      have Bb : Hid (Below w.heap.size w wb) := Hb.out.2
      clear HQ hby hrow Hb Ha ea H9 H8 H7 H6
      go_wp2_with fail
      go_quiet (fail)
      rename Nat => nq
      go_wp2
      go_ret
      exact ⟨rfl, Bb.out.trans ((Still.drewN wb nq).below _)⟩

theorem torn_walk (at_ : Int) (a : Option Addr) (b : List UInt8) (cb : Nat) (a' : Option Addr) (c : List UInt8) (cc : Nat) (w : World) (hg : ErrT w) (hB : IsBy w a b cb) (hC : IsBy w a' c cc) :
    Calls Tryd.prog 3 #[.int .i64 at_, .slice a b.length cb, .slice a' c.length cc] w fun e w' => e = .returned (.bool true) ∧ Below w.heap.size w w' := by
  by_cases h : 0 ≤ at_ ∧ at_ ≤ 3 ∧ b.length ≤ 64 ∧ c.length ≤ 64
  · have := torn_in at_.toNat a b cb a' c cc w hg (by omega) h.2.2.1 h.2.2.2 hB hC
    rwa [Int.toNat_of_nonneg h.1] at this
  · exact torn_out at_ a b cb a' c cc w hg h
end Go.Proofs.YtpfmimbeeoncjaaDoor
