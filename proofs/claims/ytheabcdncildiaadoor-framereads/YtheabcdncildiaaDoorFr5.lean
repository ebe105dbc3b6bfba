/-
  The contracts of the reader's within, small, amount, count, take, text.
-/
import Derived.Test.YtheabcdncildiaaDoorFr4
namespace Go.Proofs.YtheabcdncildiaaDoor
set_option linter.unusedVariables false
set_option linter.unusedSimpArgs false
set_option maxRecDepth 100000
open Go.RowKit Go.Lib

/-- What is left is not too long. -/
def StLen (st : Option (List UInt8)) : Prop := ∀ l, st = some l → l.length ≤ 9223372036854775807

theorem rnumber_any (b : Nat) (st : Option (List UInt8)) (w : World) (h : RdAt w b st) (hl : StLen st) :
    Calls Tryd.prog 26 #[.pointer (some ⟨b, 0, none⟩)] w fun e w' => e = .returned (.int .i64 (numS st).1) ∧ RdAt w' b (numS st).2 ∧ KeepBut b w w' := by
  cases st with
  | none => exact rnumber_none b w h
  | some l => exact rnumber_some b l w h (hl l rfl)

/-- A number that has bounds, read by a reader. -/
def rdNS (lo hi : Int) : Option (List UInt8) → Int × Option (List UInt8)
  | none => (0, none)
  | some l => match rdN lo hi l with
    | none => (0, none)
    | some (n, r) => (n, some r)
theorem rdNS_in {lo hi : Int} {st : Option (List UInt8)} (h0 : lo ≤ 0) (h1 : 0 ≤ hi) (h : lo ≤ (numS st).1 ∧ (numS st).1 ≤ hi) : rdNS lo hi st = numS st := by
  cases st with
  | none => rfl
  | some l =>
    cases hr : rdF 9 true l with
    | none => simp [rdNS, rdN, numS, hr]
    | some x =>
      obtain ⟨u, r⟩ := x
      rw [numS_some hr] at h ⊢
      simp only at h
      simp [rdNS, rdN, hr, h]
theorem rdNS_out {lo hi : Int} {st : Option (List UInt8)} (h0 : lo ≤ 0) (h1 : 0 ≤ hi) (h : ¬ (lo ≤ (numS st).1 ∧ (numS st).1 ≤ hi)) : rdNS lo hi st = (0, none) := by
  cases st with
  | none => rfl
  | some l =>
    cases hr : rdF 9 true l with
    | none => simp [rdNS, rdN, hr]
    | some x =>
      obtain ⟨u, r⟩ := x
      rw [numS_some hr] at h
      simp only at h
      simp [rdNS, rdN, hr, h]

theorem rwithin_any (b : Nat) (st : Option (List UInt8)) (lo hi : Int) (w : World) (h : RdAt w b st) (hl : StLen st) (h0 : lo ≤ 0) (h1 : 0 ≤ hi) :
    Calls Tryd.prog 23 #[.pointer (some ⟨b, 0, none⟩), .int .i64 lo, .int .i64 hi] w fun e w' => e = .returned (.int .i64 (rdNS lo hi st).1) ∧ RdAt w' b (rdNS lo hi st).2 ∧ KeepBut b w w' := by
  have HN : Hid (Calls _ _ _ _ _) := rnumber_any b st w h hl
  have hI := @rdNS_in lo hi st h0 h1
  have hO := @rdNS_out lo hi st h0 h1
  generalize numS st = x at *
  obtain ⟨n, s1⟩ := x
  simp only at HN hI hO
  by_cases ho : lo ≤ n ∧ n ≤ hi
  · have er := hI ho
    rw [er]
    obtain ⟨o1, o2⟩ := ho
    have o1' : ¬ n < lo := by omega
    have o2' : ¬ hi < n := by omega
    clear er hI hO h
    go_enter Tryd.func23, Tryd.ntmps23
    go_wp2_with fail
    refine HN.out.mono ?_
    rintro e w1 ⟨rfl, q1, q2⟩
    have HQ : Hid (RdAt w1 b _) := q1
    clear q1 HN
    go_wp2
    go_ret
    exact ⟨rfl, HQ.out, q2⟩
  · have er := hO ho
    rw [er]
    have ho' : n < lo ∨ (¬ n < lo ∧ hi < n) := by omega
    have HF : Hid (∀ W, KeepBut b w W → RdAt W b s1 → Calls Tryd.prog 21 #[.pointer (some ⟨b, 0, none⟩)] W fun e w' => e = .returned (.tuple #[]) ∧ RdAt w' b none ∧ KeepBut b w w') := fun W hK hR => by
      have : ∃ v e0, RBox W b v e0 := by
        cases s1 with
        | none => exact ⟨_, _, hR⟩
        | some l => obtain ⟨_, _, x, _⟩ := hR; exact ⟨_, _, x⟩
      obtain ⟨v, e0, x⟩ := this
      refine (rfail_any b v e0 W x).mono ?_
      rintro e w' ⟨rfl, q1, q2⟩
      exact ⟨rfl, q1, hK.trans q2⟩
    clear er hI hO h ho
    rcases ho' with o1 | ⟨o1, o2⟩
    · go_enter Tryd.func23, Tryd.ntmps23
      go_wp2_with fail
      refine HN.out.mono ?_
      rintro e w1 ⟨rfl, q1, q2⟩
      have HF1 : Hid (Calls _ _ _ _ _) := HF.out w1 q2 q1
      clear q1 HN HF
      go_wp2_with fail
      refine HF1.out.mono ?_
      rintro e w2 ⟨rfl, p1, p2⟩
      have HQ : Hid (RdAt w2 b _) := p1
      clear HF1 p1
      go_wp2
      go_ret
      exact ⟨rfl, HQ.out, p2⟩
    · go_enter Tryd.func23, Tryd.ntmps23
      go_wp2_with fail
      refine HN.out.mono ?_
      rintro e w1 ⟨rfl, q1, q2⟩
      have HF1 : Hid (Calls _ _ _ _ _) := HF.out w1 q2 q1
      clear q1 HN HF
      go_wp2_with fail
      refine HF1.out.mono ?_
      rintro e w2 ⟨rfl, p1, p2⟩
      have HQ : Hid (RdAt w2 b _) := p1
      clear HF1 p1
      go_wp2
      go_ret
      exact ⟨rfl, HQ.out, p2⟩

theorem rsmall_any (b : Nat) (st : Option (List UInt8)) (w : World) (h : RdAt w b st) (hl : StLen st) :
    Calls Tryd.prog 14 #[.pointer (some ⟨b, 0, none⟩)] w fun e w' => e = .returned (.int .i64 (rdNS 0 200 st).1) ∧ RdAt w' b (rdNS 0 200 st).2 ∧ KeepBut b w w' := by
  have HN : Hid (Calls _ _ _ _ _) := rwithin_any b st 0 200 w h hl (by omega) (by omega)
  generalize rdNS 0 200 st = x at *
  clear h
  go_enter Tryd.func14, Tryd.ntmps14
  go_wp2_with fail
  refine HN.out.mono ?_
  rintro e w1 ⟨rfl, q1, q2⟩
  have HQ : Hid (RdAt w1 b _) := q1
  clear q1 HN
  go_wp2
  go_ret
  exact ⟨rfl, HQ.out, q2⟩
theorem ramount_any (b : Nat) (st : Option (List UInt8)) (w : World) (h : RdAt w b st) (hl : StLen st) :
    Calls Tryd.prog 16 #[.pointer (some ⟨b, 0, none⟩)] w fun e w' => e = .returned (.int .i64 (rdNS (-mostA) mostA st).1) ∧ RdAt w' b (rdNS (-mostA) mostA st).2 ∧ KeepBut b w w' := by
  have HN0 := rwithin_any b st (-mostA) mostA w h hl (by unfold mostA; omega) (by unfold mostA; omega)
  generalize rdNS (-mostA) mostA st = x at *
  unfold mostA at HN0
  have HN : Hid (Calls _ _ _ _ _) := HN0
  clear h HN0
  go_enter Tryd.func16, Tryd.ntmps16
  go_wp2_with fail
  refine HN.out.mono ?_
  rintro e w1 ⟨rfl, q1, q2⟩
  have HQ : Hid (RdAt w1 b _) := q1
  clear q1 HN
  go_wp2
  go_ret
  exact ⟨rfl, HQ.out, q2⟩
theorem rcount_any (b : Nat) (st : Option (List UInt8)) (hi : Int) (w : World) (h : RdAt w b st) (hl : StLen st) (h1 : 0 ≤ hi) :
    Calls Tryd.prog 15 #[.pointer (some ⟨b, 0, none⟩), .int .i64 hi] w fun e w' => e = .returned (.int .i64 (rdNS 0 hi st).1) ∧ RdAt w' b (rdNS 0 hi st).2 ∧ KeepBut b w w' := by
  have HN : Hid (Calls _ _ _ _ _) := rwithin_any b st 0 hi w h hl (by omega) h1
  generalize rdNS 0 hi st = x at *
  clear h
  go_enter Tryd.func15, Tryd.ntmps15
  go_wp2_with fail
  refine HN.out.mono ?_
  rintro e w1 ⟨rfl, q1, q2⟩
  have HQ : Hid (RdAt w1 b _) := q1
  clear q1 HN
  go_wp2
  go_ret
  exact ⟨rfl, HQ.out, q2⟩

/-- Bytes, taken by a reader. -/
def takeS (k : Nat) : Option (List UInt8) → List UInt8 × Option (List UInt8)
  | none => ([], none)
  | some l => if k ≤ l.length then (l.take k, some (l.drop k)) else ([], none)

theorem rtake_none (b : Nat) (w : World) (h : RdAt w b none) :
    Calls Tryd.prog 22 #[.pointer (some ⟨b, 0, none⟩), .int .i64 0] w fun e w' => e = .returned (.slice none 0 0) ∧ RdAt w' b none ∧ KeepBut b w w' := by
  have x : RBox w b (.slice none 0 0) (.bool true) := h
  have c0 := x.c0
  have f0 := x.fz 0
  have HX : Hid (RdAt (w.setCell ⟨b, 0, none⟩ (.slice none 0 0)) b none) := x.set0 (.slice none 0 0)
  have K := (KeepBut.refl b w).set 0 (.slice none 0 0)
  clear h x
  go_enter Tryd.func22, Tryd.ntmps22
  go_wp2
  go_ret
  exact ⟨rfl, HX.out, K⟩

theorem rtake_some (b : Nat) (l : List UInt8) (k : Nat) (w : World) (h : RdAt w b (some l)) (hl : l.length ≤ 9223372036854775807) :
    Calls Tryd.prog 22 #[.pointer (some ⟨b, 0, none⟩), .int .i64 k] w fun e w' => ∃ a c, e = .returned (.slice a (takeS k (some l)).1.length c) ∧ IsBN w' b a (takeS k (some l)).1 c ∧ RdAt w' b (takeS k (some l)).2 ∧ KeepBut b w w' := by
  obtain ⟨a, cap, x, hby⟩ := h
  have c0 := x.c0
  have f0 := x.fz 0
  have hlt := x.lt
  by_cases hk : k ≤ l.length
  · have et : takeS k (some l) = (l.take k, some (l.drop k)) := by simp [takeS, hk]
    have hkl : (l.take k).length = k := by rw [List.length_take]; omega
    rw [et]
    simp only [hkl]
    obtain ⟨a1, c1, hT, hB1⟩ := run_byTake hby k hk
    obtain ⟨a2, c2, hD, hB2⟩ := run_byDrop hby k hk
    have K := (KeepBut.refl b w).set 0 (.slice a2 (l.length - k) c2)
    have HB1 : Hid (IsBN _ b a1 (l.take k) c1) := hB1.keep K (by omega)
    have HR : Hid (RdAt (w.setCell ⟨b, 0, none⟩ (.slice a2 (l.length - k) c2)) b (some (l.drop k))) := by
      refine ⟨a2, c2, ?_, hB2.keep K (by omega)⟩
      rw [List.length_drop]
      exact x.set0 _
    have hk' : ¬ ((l.length : Int) < k) := by omega
    clear hB1 hB2 hby x et
    go_enter Tryd.func22, Tryd.ntmps22
    go_wp2
    go_ret
    exact ⟨_, _, rfl, HB1.out, HR.out, K⟩
  · have et : takeS k (some l) = ([], none) := by simp [takeS, hk]
    rw [et]
    have hk' : ((l.length : Int) < k) := by omega
    have HF : Hid (Calls _ _ _ _ _) := rfail_any b _ _ w x
    clear x hby et
    go_enter Tryd.func22, Tryd.ntmps22
    go_wp2_with fail
    refine HF.out.mono ?_
    rintro e w1 ⟨rfl, q1, q2⟩
    have HQ : Hid (RdAt w1 b none) := q1
    clear q1 HF
    go_wp2
    go_ret
    exact ⟨_, _, rfl, ⟨Nat.le_refl _, .inl rfl⟩, HQ.out, q2⟩

/-- A text, read by a reader. -/
def rdTS : Option (List UInt8) → ByteArray × Option (List UInt8)
  | none => (ByteArray.empty, none)
  | some l => match rdT l with
    | none => (ByteArray.empty, none)
    | some (s, r) => (s, some r)
theorem rdTS_eq (st : Option (List UInt8)) : rdTS st = (txt (takeS (rdNS 0 24 st).1.toNat (rdNS 0 24 st).2).1, (takeS (rdNS 0 24 st).1.toNat (rdNS 0 24 st).2).2) := by
  cases st with
  | none => rfl
  | some l =>
    cases hr : rdN 0 24 l with
    | none => simp only [rdTS, rdT, rdNS, hr, takeS]; rfl
    | some x =>
      obtain ⟨n, r⟩ := x
      simp only [rdTS, rdT, rdNS, hr, takeS]
      by_cases hk : n.toNat ≤ r.length
      · simp [hk]
      · simp only [if_neg hk]; rfl
theorem rdNS_range {hi : Int} {st : Option (List UInt8)} (h1 : 0 ≤ hi) : 0 ≤ (rdNS 0 hi st).1 ∧ (rdNS 0 hi st).1 ≤ hi := by
  cases st with
  | none => exact ⟨Int.le_refl _, h1⟩
  | some l =>
    cases hr : rdN 0 hi l with
    | none => simp [rdNS, hr, h1]
    | some x =>
      obtain ⟨n, r⟩ := x
      obtain ⟨_, q1, q2⟩ := rdN_back hr
      simp [rdNS, hr, q1, q2]
theorem rdNS_len {lo hi : Int} {st : Option (List UInt8)} (h : StLen st) : StLen (rdNS lo hi st).2 := by
  cases st with
  | none => intro l hl; cases hl
  | some l =>
    cases hr : rdN lo hi l with
    | none => intro l hl; simp [rdNS, hr] at hl
    | some x =>
      obtain ⟨n, r⟩ := x
      obtain ⟨e, q1, q2⟩ := rdN_back hr
      intro l' hl'
      simp [rdNS, hr] at hl'
      have := h l rfl
      rw [e, List.length_append] at this
      rw [← hl']; omega
theorem rdTS_len {st : Option (List UInt8)} (h : StLen st) : StLen (rdTS st).2 := by
  cases st with
  | none => intro l hl; cases hl
  | some l =>
    cases hr : rdT l with
    | none => intro l hl; simp [rdTS, hr] at hl
    | some x =>
      obtain ⟨n, r⟩ := x
      obtain ⟨e, q1⟩ := rdT_back hr
      intro l' hl'
      simp [rdTS, hr] at hl'
      have := h l rfl
      rw [e, List.length_append] at this
      rw [← hl']; omega

theorem rtext_any (b : Nat) (st : Option (List UInt8)) (w : World) (h : RdAt w b st) (hl : StLen st) :
    Calls Tryd.prog 13 #[.pointer (some ⟨b, 0, none⟩)] w fun e w' => e = .returned (.string (rdTS st).1) ∧ RdAt w' b (rdTS st).2 ∧ KeepBut b w w' := by
  have hlt := h.lt
  have HC : Hid (Calls _ _ _ _ _) := rcount_any b st 24 w h hl (by omega)
  have hrg := @rdNS_range 24 st (by omega)
  have hln := @rdNS_len 0 24 st hl
  rw [rdTS_eq]
  have hz : (rdNS 0 24 st).2 = none → (rdNS 0 24 st).1 = 0 := by
    intro hh
    cases st with
    | none => rfl
    | some l =>
      cases hr : rdN 0 24 l with
      | none => simp [rdNS, hr]
      | some x => obtain ⟨n, r⟩ := x; simp [rdNS, hr] at hh
  generalize rdNS 0 24 st = x at *
  obtain ⟨n, s1⟩ := x
  simp only at HC hrg hln hz ⊢
  obtain ⟨k, hk⟩ : ∃ k : Nat, n = k := ⟨n.toNat, by omega⟩
  subst hk
  simp only [Int.toNat_natCast]
  have HT : Hid (∀ W, KeepBut b w W → RdAt W b s1 → Calls Tryd.prog 22 #[.pointer (some ⟨b, 0, none⟩), .int .i64 k] W fun e w' => ∃ a c, e = .returned (.slice a (takeS k s1).1.length c) ∧ IsBN w' b a (takeS k s1).1 c ∧ RdAt w' b (takeS k s1).2 ∧ KeepBut b w w') := fun W hK hR => by
    cases s1 with
    | none =>
      have hk0 : k = 0 := by have := hz rfl; omega
      subst hk0
      refine (rtake_none b W hR).mono ?_
      rintro e w' ⟨rfl, q1, q2⟩
      exact ⟨none, 0, rfl, ⟨Nat.le_refl _, .inl rfl⟩, q1, hK.trans q2⟩
    | some l =>
      refine (rtake_some b l k W hR (hln l rfl)).mono ?_
      rintro e w' ⟨a, c, rfl, q0, q1, q2⟩
      exact ⟨a, c, rfl, q0, q1, hK.trans q2⟩
  clear h hz hln
  generalize takeS k s1 = y at *
  obtain ⟨bl, s2⟩ := y
  simp only at HT ⊢
  go_enter Tryd.func13, Tryd.ntmps13
  go_wp2_with fail
  refine HC.out.mono ?_
  rintro e w1 ⟨rfl, q1, q2⟩
  have HT1 : Hid (Calls _ _ _ _ _) := HT.out w1 q2 q1
  clear q1 HC HT
  go_wp2_with fail
  refine HT1.out.mono ?_
  rintro e w2 ⟨a, c, rfl, p0, p1, p2⟩
  have hS := run_str w2 a bl c (p0.isBy (by have := p2.size; omega))
  have HQ : Hid (RdAt w2 b _) := p1
  clear HT1 p1 p0
  generalize bl.length = m at *
  go_wp2
  go_ret
  exact ⟨rfl, HQ.out, p2⟩
end Go.Proofs.YtheabcdncildiaaDoor
