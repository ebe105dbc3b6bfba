/-
  The walk of slices.symMergeCmpFunc where both rows have two numbers and more; the whole of it.
-/
import Derived.Test.YtojmnfckijgofaaSrt8
import Derived.Shelf.Abstract
import Derived.Deep.Cut
namespace Go.Proofs.Ytojmnfckijgofaa
set_option linter.unusedVariables false
set_option linter.unusedSimpArgs false
set_option maxRecDepth 100000
open Go.RowKit Go.Lib

set_option maxHeartbeats 16000000 in
theorem sym_step (g cap cb gc ccap : Nat) (cut : List Int) (A u v Z : List Nat) (w : World) (IH : ∀ k, k < u.length + v.length → SymOk g cap cb gc ccap cut k) (hu2 : 2 ≤ u.length) (hv2 : 2 ≤ v.length) (h : NRow w g (toI (A ++ (u ++ (v ++ Z))))) (hl : (A ++ (u ++ (v ++ Z))).length ≤ 1000000) (hc : CutAt w cb gc cut ccap) (h1 : cb ≠ g) (h2 : gc ≠ g) (hM : MG cut u v) :
    Calls Try.prog 28 #[.slice (some ⟨g, 0, none⟩) (A ++ (u ++ (v ++ Z))).length cap, .int .i64 (A.length : Int), .int .i64 ((A.length + u.length : Nat) : Int), .int .i64 ((A.length + u.length + v.length : Nat) : Int), byF cb] w fun e w' => e = .returned (.tuple #[]) ∧ Hid (MOut cut w w' g A u v Z) := by
  have HR : Hid (NRow w g (toI (A ++ (u ++ (v ++ Z))))) := h
  have HCu : Hid (∀ W, But g w W → ∀ x y, x < cut.length → y < cut.length → Calls Try.prog 20 #[.int .i64 (x : Int), .int .i64 (y : Int), .pointer (some ⟨cb, 0, none⟩)] W fun e w' => e = .returned (.int .i64 (cutC cut x y)) ∧ ∃ k, w' = W.drewN k) := fun W hW x y hx hy => byCut1_any x y cb gc cut ccap W (hc.but hW h1 h2) hx hy
  have HM : Hid (MG cut u v) := hM
  have HLs : Hid ((A ++ (u ++ (v ++ Z))).length = A.length + u.length + v.length + Z.length) := by unfold Hid; simp only [List.length_append]; omega
  obtain ⟨L, hL⟩ : ∃ L, (A ++ (u ++ (v ++ Z))).length = L := ⟨_, rfl⟩
  rw [hL] at hl HLs ⊢
  have HLr : Hid ((toI (A ++ (u ++ (v ++ Z)))).length = L) := by unfold Hid; rw [toI_len]; exact hL
  obtain ⟨a, ha⟩ : ∃ a, A.length = a := ⟨_, rfl⟩
  obtain ⟨m, hm⟩ : ∃ m, a + u.length = m := ⟨_, rfl⟩
  obtain ⟨b, hb⟩ : ∃ b, m + v.length = b := ⟨_, rfl⟩
  obtain ⟨mid, hmid⟩ : ∃ mid, (a + b) / 2 = mid := ⟨_, rfl⟩
  obtain ⟨N, hN⟩ : ∃ N, mid + m = N := ⟨_, rfl⟩
  obtain ⟨p, hp⟩ : ∃ p, N - 1 = p := ⟨_, rfl⟩
  rw [ha, hm, hb] at HLs ⊢
  have hbL : b ≤ L := by have := HLs.out; omega
  have HCtx : Hid (∀ S E, a ≤ S → S ≤ m → S ≤ mid → mid - S ≤ v.length → E = mid + m - S → (∀ x ∈ u.take (S - a), ∀ y ∈ v.drop (mid - S), LT cut x y) → (∀ x ∈ v.take (mid - S), ∀ y ∈ u.drop (S - a), LT cut x y) → Ctx cut A u v Z a m b S mid E L) := fun S E s1 s2 s3 s4 e hx hy => ⟨ha, hm, hb, hmid.symm, ⟨s1, s2, s3, s4⟩, e, hL, hl, hu2, hv2, hM, hx, hy⟩
  have HC1 : Hid (∀ S E W, Ctx cut A u v Z a m b S mid E L → St1 A u v Z (S - a) (mid - S) g w W → a < S → S < mid → Calls Try.prog 28 #[.slice (some ⟨g, 0, none⟩) L cap, .int .i64 (a : Int), .int .i64 (S : Int), .int .i64 (mid : Int), byF cb] W fun e w' => e = .returned (.tuple #[]) ∧ Hid (St2 cut A u v Z (S - a) (mid - S) g w w')) := fun S E W c hs q1 q2 => st2_call c IH hc h1 h2 hs q1 q2
  have HC2 : Hid (∀ S E W, Ctx cut A u v Z a m b S mid E L → St2 cut A u v Z (S - a) (mid - S) g w W → S < m → E < b → Calls Try.prog 28 #[.slice (some ⟨g, 0, none⟩) L cap, .int .i64 (mid : Int), .int .i64 (E : Int), .int .i64 (b : Int), byF cb] W fun e w' => e = .returned (.tuple #[]) ∧ Hid (MOut cut w w' g A u v Z)) := fun S E W c hs q1 q2 => st3_call c IH hc h1 h2 hs q1 q2
  have HC0 : Hid (∀ S E W, Ctx cut A u v Z a m b S mid E L → NRow W g (toI (A ++ (u ++ (v ++ Z)))) → But g w W → S < m → S < mid → Calls Try.prog 29 #[.slice (some ⟨g, 0, none⟩) L cap, .int .i64 (S : Int), .int .i64 (m : Int), .int .i64 (E : Int), byF cb] W fun e w' => e = .returned (.tuple #[]) ∧ Hid (St1 A u v Z (S - a) (mid - S) g w w')) := fun S E W c hr hB q1 q2 => st1_rot c g cap w W (byF cb) hr hB q1 q2
  have HA : Hid (A.length = a) := ha
  have ma : ((m : Int) - a == 1) = false := by rw [beq_eq_false_iff_ne]; omega
  have ma2 : ¬ (m : Int) - a = 1 := by omega
  have bm : ((b : Int) - m == 1) = false := by rw [beq_eq_false_iff_ne]; omega
  have bm2 : ¬ (b : Int) - m = 1 := by omega
  have rm0 : ((a : Int) + (b : Int)) / 2 = (mid : Int) := by omega
  have rN : (mid : Int) + (m : Int) = (N : Int) := by omega
  have rp : (N : Int) - 1 = (p : Int) := by omega
  have a0 : (0 : Int) ≤ a := by omega
  have bL : (b : Int) ≤ L := by omega
  have lL : (L : Int) ≤ 1000000 := by omega
  have m0 : (0 : Int) ≤ m := by omega
  have am : (a : Int) ≤ m := by omega
  have mb : (m : Int) < b := by omega
  have mL : (m : Int) < L := by omega
  have mi0 : (0 : Int) ≤ mid := by omega
  have miL : (mid : Int) < L := by omega
  have N0 : (0 : Int) ≤ N := by omega
  have NL : (N : Int) ≤ 2000000 := by omega
  have p0 : (0 : Int) ≤ p := by omega
  have pL : (p : Int) ≤ 2000000 := by omega
  clear h hc hM hL ha h1 h2 IH hl
  unfold byF at *
  go_enter Try.func28, Try.ntmps28
  go_upto_if 140 with fail
  go_cut [20, 21] from 129 (fun s r wx => w = wx ∧ ∃ lo hi : Nat, s = .int .i64 lo ∧ r = .int .i64 hi ∧ Hid ((lo = N - b ∧ hi = mid ∧ mid < m) ∨ (lo = a ∧ hi = m ∧ m ≤ mid)))
  case first =>
    by_cases hmm : mid < m
    · have q1 : (mid : Int) < m := by omega
      have q2 : (N : Int) - b = ((N - b : Nat) : Int) := by omega
      go_wp2
      go_meet
      case rel => exact ⟨rfl, N - b, mid, by first | rfl | (rw [q2]), rfl, Or.inl ⟨rfl, rfl, hmm⟩⟩
    · have q1 : ¬ (mid : Int) < m := by omega
      go_wp2
      go_meet
      case rel => exact ⟨rfl, a, m, rfl, rfl, Or.inr ⟨rfl, rfl, by omega⟩⟩
  case rest =>
    obtain ⟨rfl, lo, hi, rfl, rfl, HB⟩ := hcut
    have hB : a ≤ lo ∧ lo ≤ hi ∧ hi ≤ mid ∧ hi ≤ m ∧ (∀ c, lo ≤ c → c < hi → m ≤ p - c ∧ p - c < b ∧ c < m) := by
      rcases HB.out with ⟨e1, e2, e3⟩ | ⟨e1, e2, e3⟩
      · refine ⟨by omega, by omega, by omega, by omega, fun c c1 c2 => ?_⟩
        omega
      · refine ⟨by omega, by omega, by omega, by omega, fun c c1 c2 => ?_⟩
        omega
    obtain ⟨b1, b2, b3, b4, b5⟩ := hB
    have Hb5 : Hid (∀ c, lo ≤ c → c < hi → m ≤ p - c ∧ p - c < b ∧ c < m) := b5
    clear b5
    go_wp2
    go_loopw [20, 21] (fun ts tr wr => ∃ S R : Nat, lo ≤ S ∧ S ≤ R ∧ R ≤ hi ∧ ts = .int .i64 S ∧ tr = .int .i64 R ∧ Hid ((S = lo ∨ LT cut (u.getD (S - 1 - a) 0) (v.getD (p - (S - 1) - m) 0)) ∧ (R = hi ∨ LT cut (v.getD (p - R - m) 0) (u.getD (R - a) 0))) ∧ Hid (∃ k, wr = w.drewN k)) (fun ts tr _ => (intOf tr).toNat - (intOf ts).toNat)
    case atStart => exact ⟨lo, hi, Nat.le_refl _, b2, Nat.le_refl _, rfl, rfl, ⟨Or.inl rfl, Or.inl rfl⟩, ⟨0, rfl⟩⟩
    case round =>
      obtain ⟨S, R, hS, hSR, hR, rfl, rfl, HLo, HW⟩ := hrel
      obtain ⟨k, hk⟩ := HW.out
      have HkB : Hid (But g w wr) := by unfold Hid; rw [hk]; exact (But.refl g w).drewN k
      have HkN : Hid (∀ n, ∃ q, wr.drewN n = w.drewN q) := fun n => ⟨k + n, by rw [hk]; exact World.drewN_drewN _ _ _⟩
      by_cases hlt : S < R
      · obtain ⟨c, hcc⟩ : ∃ c, (S + R) / 2 = c := ⟨_, rfl⟩
        obtain ⟨e1, e2, e3⟩ := Hb5.out c (by omega) (by omega)
        obtain ⟨d, hd⟩ : ∃ d, p - c = d := ⟨_, rfl⟩
        rw [hd] at e1 e2
        have rm : ((S : Int) + (R : Int)) / 2 = (c : Int) := by omega
        have pc : (p : Int) - (c : Int) = (d : Int) := by omega
        have d0 : (0 : Int) ≤ d := by omega
        have dL : (d : Int) < L := by omega
        have c0 : (0 : Int) ≤ c := by omega
        have cL : (c : Int) < L := by omega
        have i1 : (S : Int) < R := by omega
        have i2 : (0 : Int) ≤ S := by omega
        have i3 : (R : Int) ≤ 1000000 := by omega
        have hcu : c - a < u.length := by omega
        have hdv : d - m < v.length := by omega
        have hxm : u.getD (c - a) 0 ∈ u := getD_mem0 hcu
        have hym : v.getD (d - m) 0 ∈ v := getD_mem0 hdv
        have cx : wr.cell? ⟨g, c, none⟩ = some (.int .i64 ((u.getD (c - a) 0 : Nat) : Int)) := by
          have := HR.out.cell (i := c) (by rw [HLr.out]; omega)
          have e : c = A.length + (c - a) := by rw [HA.out]; omega
          rw [e, row_at A u (v ++ Z) hcu] at this
          rw [← e] at this
          rw [hk]
          exact this
        have cy : wr.cell? ⟨g, d, none⟩ = some (.int .i64 ((v.getD (d - m) 0 : Nat) : Int)) := by
          have := HR.out.cell (i := d) (by rw [HLr.out]; omega)
          rw [show A ++ (u ++ (v ++ Z)) = (A ++ u) ++ (v ++ Z) by simp] at this
          have e : d = (A ++ u).length + (d - m) := by rw [List.length_append, HA.out]; omega
          rw [e, row_at (A ++ u) v Z hdv] at this
          rw [← e] at this
          rw [hk]
          exact this
        have HCc : Hid (∀ n, Calls Try.prog 20 #[.int .i64 ((v.getD (d - m) 0 : Nat) : Int), .int .i64 ((u.getD (c - a) 0 : Nat) : Int), .pointer (some ⟨cb, 0, none⟩)] (wr.drewN n) fun e w' => e = .returned (.int .i64 (cutC cut (v.getD (d - m) 0) (u.getD (c - a) 0))) ∧ ∃ q, w' = (wr.drewN n).drewN q) := fun n => HCu.out _ (HkB.out.drewN n) _ _ (HM.out.bv _ hym) (HM.out.bu _ hxm)
        by_cases hless : cutC cut (v.getD (d - m) 0) (u.getD (c - a) 0) < 0
        · have hhi := HM.out.less hxm hym hless
          have HN : Hid ((S = lo ∨ LT cut (u.getD (S - 1 - a) 0) (v.getD (p - (S - 1) - m) 0)) ∧ (c = hi ∨ LT cut (v.getD (p - c - m) 0) (u.getD (c - a) 0))) := ⟨HLo.out.1, Or.inr (by rw [hd]; exact hhi)⟩
          have hd1 : decide (cutC cut (v.getD (d - m) 0) (u.getD (c - a) 0) < 0) = true := decide_eq_true hless
          clear hhi hxm hym HLo HW hless hk
          generalize cutC cut (v.getD (d - m) 0) (u.getD (c - a) 0) = r at HCc hd1
          generalize v.getD (d - m) 0 = y at HCc cy
          generalize u.getD (c - a) 0 = x at HCc cx
          go_wp2
          go_quiet ((go_at_call 20; exact Calls.quiet_of (HCc.out _)))
          go_wp2
          go_roundw
          case rel => exact ⟨S, c, hS, by omega, by omega, rfl, by go_num, HN, HkN.out _⟩
          case measure => simp [intOf]; omega
        · have hlo := HM.out.more hxm hym hless
          have HN : Hid ((c + 1 = lo ∨ LT cut (u.getD (c + 1 - 1 - a) 0) (v.getD (p - (c + 1 - 1) - m) 0)) ∧ (R = hi ∨ LT cut (v.getD (p - R - m) 0) (u.getD (R - a) 0))) := ⟨Or.inr (by rw [show c + 1 - 1 = c by omega, hd]; exact hlo), HLo.out.2⟩
          have hd1 : decide (cutC cut (v.getD (d - m) 0) (u.getD (c - a) 0) < 0) = false := decide_eq_false hless
          clear hlo hxm hym HLo HW hless hk
          generalize cutC cut (v.getD (d - m) 0) (u.getD (c - a) 0) = r at HCc hd1
          generalize v.getD (d - m) 0 = y at HCc cy
          generalize u.getD (c - a) 0 = x at HCc cx
          go_wp2
          go_quiet ((go_at_call 20; exact Calls.quiet_of (HCc.out _)))
          go_wp2
          go_roundw
          case rel => exact ⟨c + 1, R, by omega, by omega, hR, by go_num, rfl, HN, HkN.out _⟩
          case measure => simp [intOf]; omega
      · have eR : R = S := by omega
        subst eR
        have i1 : ¬ (R : Int) < R := by omega
        obtain ⟨E, hE⟩ : ∃ E, N - R = E := ⟨_, rfl⟩
        have rE : (N : Int) - (R : Int) = (E : Int) := by omega
        have HX : Hid (Ctx cut A u v Z a m b R mid E L) := by
          have hbb := HB.out
          refine HCtx.out R E (by omega) (by omega) (by omega) (by omega) (by omega) ?_ ?_
          · refine cross HM.out.su HM.out.sv (by omega) (fun q1 q2 => ?_)
            rcases HLo.out.1 with e | e
            · exfalso; omega
            · rw [show R - a - 1 = R - 1 - a by omega, show mid - R = p - (R - 1) - m by omega]; exact e
          · refine cross HM.out.sv HM.out.su (by omega) (fun q1 q2 => ?_)
            rcases HLo.out.2 with e | e
            · exfalso; omega
            · rw [show mid - R - 1 = p - R - m by omega]; exact e
        have HRw : Hid (NRow wr g (toI (A ++ (u ++ (v ++ Z)))) ∧ But g w wr) := ⟨by rw [hk]; exact HR.out, HkB.out⟩
        have R0 : (0 : Int) ≤ R := by omega
        have E0 : (0 : Int) ≤ E := by omega
        have Eb : E ≤ b := by have hbb := HB.out; omega
        have EL : (E : Int) ≤ 1000000 := by omega
        clear HLo HW hk HkN HkB HR HCu HCtx HM HLr HLs HB Hb5
        by_cases s1 : R < m
        · by_cases s2 : R < mid
          · have HCC1 : Hid (Calls _ _ _ _ _) := HC0.out R E wr HX.out HRw.out.1 HRw.out.2 s1 s2
            by_cases s3 : a < R
            · by_cases s4 : E < b
              · clear HRw
                have f1 : decide ((R : Int) < m) = true := decide_eq_true (by omega)
                have f1p : (R : Int) < m := by omega
                have f2 : decide ((m : Int) < E) = true := decide_eq_true (by omega)
                have f2p : (m : Int) < E := by omega
                have f3 : decide ((a : Int) < R) = true := decide_eq_true (by omega)
                have f3p : (a : Int) < R := by omega
                have f4 : decide ((R : Int) < mid) = true := decide_eq_true (by omega)
                have f4p : (R : Int) < mid := by omega
                have f5 : decide ((mid : Int) < E) = true := decide_eq_true (by omega)
                have f5p : (mid : Int) < E := by omega
                have f6 : decide ((E : Int) < b) = true := decide_eq_true (by omega)
                have f6p : (E : Int) < b := by omega
                go_wp2_with fail
                refine HCC1.out.mono ?_
                rintro e w1 ⟨rfl, hh1⟩
                have HCC2 : Hid (Calls _ _ _ _ _) := HC1.out R E w1 HX.out hh1.out (by omega) (by omega)
                go_wp2_with fail
                refine HCC2.out.mono ?_
                rintro e w2 ⟨rfl, hh2⟩
                have HCC3 : Hid (Calls _ _ _ _ _) := HC2.out R E w2 HX.out hh2.out (by omega) (by omega)
                go_wp2_with fail
                refine HCC3.out.mono ?_
                rintro e w3 ⟨rfl, hh3⟩
                go_wp2_with fail
                first | go_end0 | ((try simp only [Exit.inBlock, Exit.then]); refine bodyPost_ret (results_none rfl _ _ _) rfl ?_)
                exact ⟨rfl, hh3⟩
              · clear HRw
                have f1 : decide ((R : Int) < m) = true := decide_eq_true (by omega)
                have f1p : (R : Int) < m := by omega
                have f2 : decide ((m : Int) < E) = true := decide_eq_true (by omega)
                have f2p : (m : Int) < E := by omega
                have f3 : decide ((a : Int) < R) = true := decide_eq_true (by omega)
                have f3p : (a : Int) < R := by omega
                have f4 : decide ((R : Int) < mid) = true := decide_eq_true (by omega)
                have f4p : (R : Int) < mid := by omega
                have f5 : decide ((mid : Int) < E) = true := decide_eq_true (by omega)
                have f5p : (mid : Int) < E := by omega
                have f6 : decide ((E : Int) < b) = false := decide_eq_false (by omega)
                have f6p : ¬ (E : Int) < b := by omega
                go_wp2_with fail
                refine HCC1.out.mono ?_
                rintro e w1 ⟨rfl, hh1⟩
                have HCC2 : Hid (Calls _ _ _ _ _) := HC1.out R E w1 HX.out hh1.out (by omega) (by omega)
                go_wp2_with fail
                refine HCC2.out.mono ?_
                rintro e w2 ⟨rfl, hh2⟩
                have HE : Hid (MOut cut w w2 g A u v Z) := st3_no HX.out hh2.out (by omega)
                clear HX
                go_wp2_with fail
                first | go_end0 | ((try simp only [Exit.inBlock, Exit.then]); refine bodyPost_ret (results_none rfl _ _ _) rfl ?_)
                exact ⟨rfl, HE⟩
            · by_cases s4 : E < b
              · clear HRw
                have f1 : decide ((R : Int) < m) = true := decide_eq_true (by omega)
                have f1p : (R : Int) < m := by omega
                have f2 : decide ((m : Int) < E) = true := decide_eq_true (by omega)
                have f2p : (m : Int) < E := by omega
                have f3 : decide ((a : Int) < R) = false := decide_eq_false (by omega)
                have f3p : ¬ (a : Int) < R := by omega
                have f4 : decide ((R : Int) < mid) = true := decide_eq_true (by omega)
                have f4p : (R : Int) < mid := by omega
                have f5 : decide ((mid : Int) < E) = true := decide_eq_true (by omega)
                have f5p : (mid : Int) < E := by omega
                have f6 : decide ((E : Int) < b) = true := decide_eq_true (by omega)
                have f6p : (E : Int) < b := by omega
                go_wp2_with fail
                refine HCC1.out.mono ?_
                rintro e w1 ⟨rfl, hh1⟩
                have hh2 : Hid (St2 cut A u v Z (R - a) (mid - R) g w w1) := st2_no HX.out hh1.out (by omega)
                have HCC3 : Hid (Calls _ _ _ _ _) := HC2.out R E w1 HX.out hh2.out (by omega) (by omega)
                go_wp2_with fail
                refine HCC3.out.mono ?_
                rintro e w3 ⟨rfl, hh3⟩
                go_wp2_with fail
                first | go_end0 | ((try simp only [Exit.inBlock, Exit.then]); refine bodyPost_ret (results_none rfl _ _ _) rfl ?_)
                exact ⟨rfl, hh3⟩
              · clear HRw
                have f1 : decide ((R : Int) < m) = true := decide_eq_true (by omega)
                have f1p : (R : Int) < m := by omega
                have f2 : decide ((m : Int) < E) = true := decide_eq_true (by omega)
                have f2p : (m : Int) < E := by omega
                have f3 : decide ((a : Int) < R) = false := decide_eq_false (by omega)
                have f3p : ¬ (a : Int) < R := by omega
                have f4 : decide ((R : Int) < mid) = true := decide_eq_true (by omega)
                have f4p : (R : Int) < mid := by omega
                have f5 : decide ((mid : Int) < E) = true := decide_eq_true (by omega)
                have f5p : (mid : Int) < E := by omega
                have f6 : decide ((E : Int) < b) = false := decide_eq_false (by omega)
                have f6p : ¬ (E : Int) < b := by omega
                go_wp2_with fail
                refine HCC1.out.mono ?_
                rintro e w1 ⟨rfl, hh1⟩
                have hh2 : Hid (St2 cut A u v Z (R - a) (mid - R) g w w1) := st2_no HX.out hh1.out (by omega)
                have HE : Hid (MOut cut w w1 g A u v Z) := st3_no HX.out hh2.out (by omega)
                clear HX
                go_wp2_with fail
                first | go_end0 | ((try simp only [Exit.inBlock, Exit.then]); refine bodyPost_ret (results_none rfl _ _ _) rfl ?_)
                exact ⟨rfl, HE⟩
          · have hh1 : Hid (St1 A u v Z (R - a) (mid - R) g w wr) := st1_no HRw.out.1 HRw.out.2 (by omega)
            clear HRw
            by_cases s3 : a < R
            · skip
              have f1 : decide ((R : Int) < m) = true := decide_eq_true (by omega)
              have f1p : (R : Int) < m := by omega
              have f2 : decide ((m : Int) < E) = false := decide_eq_false (by omega)
              have f2p : ¬ (m : Int) < E := by omega
              have f3 : decide ((a : Int) < R) = true := decide_eq_true (by omega)
              have f3p : (a : Int) < R := by omega
              have f4 : decide ((R : Int) < mid) = false := decide_eq_false (by omega)
              have f4p : ¬ (R : Int) < mid := by omega
              have f5 : decide ((mid : Int) < E) = true := decide_eq_true (by omega)
              have f5p : (mid : Int) < E := by omega
              have f6 : decide ((E : Int) < b) = true := decide_eq_true (by omega)
              have f6p : (E : Int) < b := by omega
              have hh2 : Hid (St2 cut A u v Z (R - a) (mid - R) g w wr) := st2_no HX.out hh1.out (by omega)
              have HCC3 : Hid (Calls _ _ _ _ _) := HC2.out R E wr HX.out hh2.out (by omega) (by omega)
              go_wp2_with fail
              refine HCC3.out.mono ?_
              rintro e w3 ⟨rfl, hh3⟩
              go_wp2_with fail
              first | go_end0 | ((try simp only [Exit.inBlock, Exit.then]); refine bodyPost_ret (results_none rfl _ _ _) rfl ?_)
              exact ⟨rfl, hh3⟩
            · skip
              have f1 : decide ((R : Int) < m) = true := decide_eq_true (by omega)
              have f1p : (R : Int) < m := by omega
              have f2 : decide ((m : Int) < E) = false := decide_eq_false (by omega)
              have f2p : ¬ (m : Int) < E := by omega
              have f3 : decide ((a : Int) < R) = false := decide_eq_false (by omega)
              have f3p : ¬ (a : Int) < R := by omega
              have f4 : decide ((R : Int) < mid) = false := decide_eq_false (by omega)
              have f4p : ¬ (R : Int) < mid := by omega
              have f5 : decide ((mid : Int) < E) = true := decide_eq_true (by omega)
              have f5p : (mid : Int) < E := by omega
              have f6 : decide ((E : Int) < b) = true := decide_eq_true (by omega)
              have f6p : (E : Int) < b := by omega
              have hh2 : Hid (St2 cut A u v Z (R - a) (mid - R) g w wr) := st2_no HX.out hh1.out (by omega)
              have HCC3 : Hid (Calls _ _ _ _ _) := HC2.out R E wr HX.out hh2.out (by omega) (by omega)
              go_wp2_with fail
              refine HCC3.out.mono ?_
              rintro e w3 ⟨rfl, hh3⟩
              go_wp2_with fail
              first | go_end0 | ((try simp only [Exit.inBlock, Exit.then]); refine bodyPost_ret (results_none rfl _ _ _) rfl ?_)
              exact ⟨rfl, hh3⟩
        · have hh1 : Hid (St1 A u v Z (R - a) (mid - R) g w wr) := st1_no HRw.out.1 HRw.out.2 (by omega)
          clear HRw
          by_cases s2 : R < mid
          · skip
            have f1 : decide ((R : Int) < m) = false := decide_eq_false (by omega)
            have f1p : ¬ (R : Int) < m := by omega
            have f2 : decide ((m : Int) < E) = true := decide_eq_true (by omega)
            have f2p : (m : Int) < E := by omega
            have f3 : decide ((a : Int) < R) = true := decide_eq_true (by omega)
            have f3p : (a : Int) < R := by omega
            have f4 : decide ((R : Int) < mid) = true := decide_eq_true (by omega)
            have f4p : (R : Int) < mid := by omega
            have f5 : decide ((mid : Int) < E) = false := decide_eq_false (by omega)
            have f5p : ¬ (mid : Int) < E := by omega
            have HCC2 : Hid (Calls _ _ _ _ _) := HC1.out R E wr HX.out hh1.out (by omega) (by omega)
            go_wp2_with fail
            refine HCC2.out.mono ?_
            rintro e w2 ⟨rfl, hh2⟩
            have HE : Hid (MOut cut w w2 g A u v Z) := st3_no HX.out hh2.out (by omega)
            clear HX
            go_wp2_with fail
            first | go_end0 | ((try simp only [Exit.inBlock, Exit.then]); refine bodyPost_ret (results_none rfl _ _ _) rfl ?_)
            exact ⟨rfl, HE⟩
          · skip
            have f1 : decide ((R : Int) < m) = false := decide_eq_false (by omega)
            have f1p : ¬ (R : Int) < m := by omega
            have f2 : decide ((m : Int) < E) = false := decide_eq_false (by omega)
            have f2p : ¬ (m : Int) < E := by omega
            have f3 : decide ((a : Int) < R) = true := decide_eq_true (by omega)
            have f3p : (a : Int) < R := by omega
            have f4 : decide ((R : Int) < mid) = false := decide_eq_false (by omega)
            have f4p : ¬ (R : Int) < mid := by omega
            have f5 : decide ((mid : Int) < E) = false := decide_eq_false (by omega)
            have f5p : ¬ (mid : Int) < E := by omega
            have hh2 : Hid (St2 cut A u v Z (R - a) (mid - R) g w wr) := st2_no HX.out hh1.out (by omega)
            have HE : Hid (MOut cut w wr g A u v Z) := st3_no HX.out hh2.out (by omega)
            clear HX
            go_wp2_with fail
            first | go_end0 | ((try simp only [Exit.inBlock, Exit.then]); refine bodyPost_ret (results_none rfl _ _ _) rfl ?_)
            exact ⟨rfl, HE⟩

/-- slices.symMergeCmpFunc: two sorted rows, one behind the other, become one. -/
theorem sym_any (g cap cb gc ccap : Nat) (cut : List Int) (h1 : cb ≠ g) (h2 : gc ≠ g) : ∀ n, SymOk g cap cb gc ccap cut n := by
  intro n
  induction n using Nat.strongRecOn with
  | _ n ih =>
    intro A u v Z w hn hu hv h hl hc hM
    by_cases u1 : u.length = 1
    · obtain ⟨x, rfl⟩ : ∃ x, u = [x] := List.length_eq_one_iff.1 u1
      exact sym_left g cap cb gc ccap cut A v Z x w h hl hc h1 h2 hM
    · by_cases v1 : v.length = 1
      · obtain ⟨y, rfl⟩ : ∃ y, v = [y] := List.length_eq_one_iff.1 v1
        exact sym_right g cap cb gc ccap cut A u Z y w h hl hc h1 h2 hM u1
      · exact sym_step g cap cb gc ccap cut A u v Z w (by rw [hn]; exact ih) (by omega) (by omega) h hl hc h1 h2 hM
end Go.Proofs.Ytojmnfckijgofaa
