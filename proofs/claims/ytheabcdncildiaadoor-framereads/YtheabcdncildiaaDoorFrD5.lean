/-
  daylaw2.FrameReads, walked.
-/
import Derived.Test.YtheabcdncildiaaDoorFrD4
import Derived.Test.YtheabcdncildiaaDoorFrS
import Derived.Test.YtheabcdncildiaaDoorErrT
namespace Go.Proofs.YtheabcdncildiaaDoor
set_option linter.unusedVariables false
set_option linter.unusedSimpArgs false
set_option maxRecDepth 100000
open Go.RowKit Go.Lib

/-- What bytes are read as: the entry, its size, whether there is one. -/
def enO (l : List UInt8) : En := if (entS (some l)).2 = none then ⟨ByteArray.empty, 0, 0, []⟩ else (entS (some l)).1
def blO (l : List UInt8) : List Bl := if (balS (some l)).2 = none then [] else (balS (some l)).1
def sizeO (n : Nat) : St → Int
  | none => 0
  | some r => (n : Int) - r.length
def badO : St → Int
  | none => 9
  | some _ => 0
theorem ent_lns (l : List UInt8) : (entS (some l)).1.lns.length ≤ 20 := by
  have h := @rdNS_range 20 (rdNS 0 200 (rdNS 0 200 (rdTS (some l)).2).2).2 (by omega)
  unfold entS
  simp only [lnsS_length]
  omega
theorem bal_len (l : List UInt8) : (balS (some l)).1.length ≤ 200 := by
  have h := @rdNS_range 200 (some l) (by omega)
  unfold balS
  rw [balsS_length]
  omega
theorem enO_len (l : List UInt8) : (enO l).lns.length ≤ 20 := by
  unfold enO
  split
  · simp
  · exact ent_lns l
theorem blO_len (l : List UInt8) : (blO l).length ≤ 200 := by
  unfold blO
  split
  · simp
  · exact bal_len l

theorem refE_u (a : Option Addr) (cap : Nat) (l : List UInt8) (w : World) (hl : l.length ≤ 9223372036854775806) (h : IsBy w a l cap) :
    Calls Tryd.prog 4 #[.slice a l.length cap] w fun e w' =>
      ∃ a' c', e = .returned (.tuple #[.agg #[.string (enO l).ref, .int .i64 (enO l).ent, .int .i64 (enO l).per, .slice a' (enO l).lns.length c'], .int .i64 (sizeO l.length (entS (some l)).2), .bool (decide (badO (entS (some l)).2 = 0))]) ∧ IsLn w' a' (enO l).lns c' ∧ Below w.heap.size w w' := by
  refine (refReadEntry_any a cap l w hl h).mono ?_
  rintro e w' ⟨⟨hn, rfl⟩ | ⟨r, v, hn, rfl, hr⟩, bl⟩
  · have : enO l = ⟨ByteArray.empty, 0, 0, []⟩ := if_pos hn
    rw [this, hn]
    exact ⟨none, 0, rfl, isLn_nil _, bl⟩
  · have : enO l = (entS (some l)).1 := if_neg (by rw [hn]; simp)
    rw [this, hn]
    obtain ⟨a', c', rfl, hs⟩ := hr.isLn
    exact ⟨a', c', rfl, hs, bl⟩
theorem fE_u (a : Option Addr) (cap : Nat) (l : List UInt8) (w : World) (hl : l.length ≤ 9223372036854775806) (h : IsBy w a l cap) :
    Calls Tryd.prog 5 #[.slice a l.length cap] w fun e w' =>
      ∃ a' c', e = .returned (.tuple #[.agg #[.string (enO l).ref, .int .i64 (enO l).ent, .int .i64 (enO l).per, .slice a' (enO l).lns.length c'], .int .i64 (sizeO l.length (entS (some l)).2), enE (badO (entS (some l)).2)]) ∧ IsLn w' a' (enO l).lns c' ∧ Below w.heap.size w w' := by
  refine (fReadEntry_any a cap l w (by omega) h).mono ?_
  rintro e w' ⟨⟨hn, rfl⟩ | ⟨r, v, hn, rfl, hr⟩, bl⟩
  · have : enO l = ⟨ByteArray.empty, 0, 0, []⟩ := if_pos hn
    rw [this, hn]
    exact ⟨none, 0, rfl, isLn_nil _, bl⟩
  · have : enO l = (entS (some l)).1 := if_neg (by rw [hn]; simp)
    rw [this, hn]
    obtain ⟨a', c', rfl, hs⟩ := hr.isLn
    exact ⟨a', c', rfl, hs, bl⟩
theorem refB_u (a : Option Addr) (cap : Nat) (l : List UInt8) (w : World) (hl : l.length ≤ 9223372036854775806) (h : IsBy w a l cap) :
    Calls Tryd.prog 8 #[.slice a l.length cap] w fun e w' =>
      ∃ a' c', e = .returned (.tuple #[.slice a' (blO l).length c', .int .i64 (sizeO l.length (balS (some l)).2), .bool (decide (badO (balS (some l)).2 = 0))]) ∧ IsBl w' a' (blO l) c' ∧ Below w.heap.size w w' := by
  refine (refReadBals_any a cap l w hl h).mono ?_
  rintro e w' ⟨⟨hn, rfl⟩ | ⟨r, v, hn, rfl, hr⟩, bl⟩
  · have : blO l = [] := if_pos hn
    rw [this, hn]
    exact ⟨none, 0, rfl, isBl_nil _, bl⟩
  · have : blO l = (balS (some l)).1 := if_neg (by rw [hn]; simp)
    rw [this, hn]
    obtain ⟨a', c', rfl, hs⟩ := hr.isBl
    exact ⟨a', c', rfl, hs, bl⟩
theorem fB_u (a : Option Addr) (cap : Nat) (l : List UInt8) (w : World) (hl : l.length ≤ 9223372036854775806) (h : IsBy w a l cap) :
    Calls Tryd.prog 9 #[.slice a l.length cap] w fun e w' =>
      ∃ a' c', e = .returned (.tuple #[.slice a' (blO l).length c', .int .i64 (sizeO l.length (balS (some l)).2), enE (badO (balS (some l)).2)]) ∧ IsBl w' a' (blO l) c' ∧ Below w.heap.size w w' := by
  refine (fReadBals_any a cap l w (by omega) h).mono ?_
  rintro e w' ⟨⟨hn, rfl⟩ | ⟨r, v, hn, rfl, hr⟩, bl⟩
  · have : blO l = [] := if_pos hn
    rw [this, hn]
    exact ⟨none, 0, rfl, isBl_nil _, bl⟩
  · have : blO l = (balS (some l)).1 := if_neg (by rw [hn]; simp)
    rw [this, hn]
    obtain ⟨a', c', rfl, hs⟩ := hr.isBl
    exact ⟨a', c', rfl, hs, bl⟩
theorem bad_errIs (st : St) : ErrIs (enE (badO st)) (badO st) := by
  cases st with
  | none => exact .inr ⟨rfl, by decide, by decide⟩
  | some r => exact .inl ⟨rfl, rfl⟩
theorem badO_two (st : St) : badO st = 0 ∨ badO st = 9 := by cases st with
  | none => exact .inr rfl
  | some r => exact .inl rfl

set_option maxHeartbeats 4000000 in
theorem reads_walk (a : Option Addr) (cap : Nat) (l : List UInt8) (w : World) (hg : ErrT w) (hl : l.length ≤ 9223372036854775806) (h : IsBy w a l cap) :
    Calls Tryd.prog 3 #[.slice a l.length cap] w fun e w' => e = .returned (.bool true) ∧ Below w.heap.size w w' := by
  have HG : Hid (∀ W, Below w.heap.size w W → ErrT W) := fun W hW => hg.below hW (Nat.le_refl _)
  have H1 : Hid (Calls _ _ _ _ _) := refE_u a cap l w hl h
  have H2 : Hid (∀ W, Below w.heap.size w W → Calls _ _ _ W _) := fun W hW => fE_u a cap l W hl (h.below hW)
  have H3 : Hid (∀ W, Below w.heap.size w W → Calls _ _ _ W _) := fun W hW => refB_u a cap l W hl (h.below hW)
  have H4 : Hid (∀ W, Below w.heap.size w W → Calls _ _ _ W _) := fun W hW => fB_u a cap l W hl (h.below hW)
  have e1 := bad_errIs (entS (some l)).2
  have e2 := bad_errIs (balS (some l)).2
  have t1 := badO_two (entS (some l)).2
  have t2 := badO_two (balS (some l)).2
  have n1 := enO_len l
  have n2 := blO_len l
  generalize sizeO l.length (entS (some l)).2 = z1 at *
  generalize sizeO l.length (balS (some l)).2 = z2 at *
  generalize badO (entS (some l)).2 = b1 at *
  generalize badO (balS (some l)).2 = b2 at *
  obtain ⟨ev1, hev1⟩ : ∃ ev, enE b1 = ev := ⟨_, rfl⟩
  obtain ⟨ev2, hev2⟩ : ∃ ev, enE b2 = ev := ⟨_, rfl⟩
  rw [hev1] at H2 e1
  rw [hev2] at H4 e2
  have E1 : Hid (ErrIs ev1 b1) := e1
  have E2 : Hid (ErrIs ev2 b2) := e2
  generalize enO l = X at *
  generalize blO l = Y at *
  obtain ⟨xr, xe, xp, xl⟩ := X
  simp only at H1 H2 n1
  clear hg h hev1 hev2 e1 e2
  rcases t1 with rfl | rfl <;> rcases t2 with rfl | rfl
  all_goals
    simp only [decide_true, decide_false, Int.reduceEq] at H1 H3
    go_enter Tryd.func3, Tryd.ntmps3
    go_wp2_with fail
    refine H1.out.mono ?_
    rintro e w1 ⟨a1, c1, rfl, i1, b1⟩
    have HB1 : Hid (Below w.heap.size w w1) := b1
    have I1 : Hid (IsLn w1 a1 xl c1) := i1
    obtain ⟨V1, hV1⟩ : ∃ V1, w1.alloc (.cells #[.string xr, .int .i64 xe, .int .i64 xp, .slice a1 xl.length c1] 25) = V1 := ⟨_, rfl⟩
    have x1 := Box4.new w1 xr xe xp (.slice a1 xl.length c1)
    have bV : Below w1.heap.size w1 V1 := by rw [← hV1]; exact (Below.refl _ _).alloc (Nat.le_refl _) _
    rw [hV1] at x1
    have HV1 : Hid (_ = V1) := hV1
    have HBV1 : Hid (Below w.heap.size w V1) := b1.trans (bV.mono b1.size)
    have IV1 : Hid (IsLn V1 a1 xl c1) := i1.below bV
    have HX1 : Hid (Box4 V1 w1.heap.size xr xe xp _) := x1
    obtain ⟨xb, hxb⟩ : ∃ xb, w1.heap.size = xb := ⟨_, rfl⟩
    rw [hxb] at HX1
    clear H1 i1 b1 I1 HB1 x1 bV hV1
    go_wp2_with fail
    rw [HV1.out]
    refine (H2.out V1 HBV1.out).mono ?_
    rintro e w2 ⟨a2, c2, rfl, i2, b2⟩
    obtain ⟨V2, hV2⟩ : ∃ V2, w2.alloc (.cells #[.string xr, .int .i64 xe, .int .i64 xp, .slice a2 xl.length c2] 25) = V2 := ⟨_, rfl⟩
    have x2 := Box4.new w2 xr xe xp (.slice a2 xl.length c2)
    have bV : Below w2.heap.size w2 V2 := by rw [← hV2]; exact (Below.refl _ _).alloc (Nat.le_refl _) _
    rw [hV2] at x2
    have HV2 : Hid (_ = V2) := hV2
    have b12 : Below V1.heap.size V1 V2 := b2.trans (bV.mono b2.size)
    have HBV2 : Hid (Below w.heap.size w V2) := HBV1.out.trans (b12.mono HBV1.out.size)
    have IV1 : Hid (IsLn V2 a1 xl c1) := IV1.out.below b12
    have IV2 : Hid (IsLn V2 a2 xl c2) := i2.below bV
    have HX1 : Hid (Box4 V2 xb xr xe xp _) := HX1.out.below b12 HX1.out.lt
    have HX2 : Hid (Box4 V2 w2.heap.size xr xe xp _) := x2
    obtain ⟨yb, hyb⟩ : ∃ yb, w2.heap.size = yb := ⟨_, rfl⟩
    rw [hyb] at HX2
    clear H2 i2 b2 x2 bV hV2 HV1 HBV1 b12
    go_wp2_with fail
    rw [HV2.out]
    refine (err_true E1.out V2 (HG.out V2 HBV2.out)).mono ?_
    rintro e w3 ⟨rfl, b3⟩
    have HB3 : Hid (Below w.heap.size w w3) := HBV2.out.trans (b3.mono HBV2.out.size)
    have X1 := HX1.out.below b3 HX1.out.lt
    have X2 := HX2.out.below b3 HX2.out.lt
    have p0 := X1.c0
    have p1 := X1.c1
    have p2 := X1.c2
    have p3 := X1.c3
    have q0 := X2.c0
    have q1 := X2.c1
    have q2 := X2.c2
    have q3 := X2.c3
    have HS : Hid (Calls _ _ _ _ _) := sameEntry_any xr xe xp a2 a1 c2 c1 xl w3 (by omega) (IV2.out.below b3) (IV1.out.below b3)
    clear HV2 HBV2 IV1 IV2 HX1 HX2 b3 X1 X2 E1
    go_wp2_with fail
    refine HS.out.mono ?_
    rintro e w4 ⟨rfl, b4⟩
    have HB4 : Hid (Below w.heap.size w w4) := HB3.out.trans (b4.mono HB3.out.size)
    clear HS HB3 p0 p1 p2 p3 q0 q1 q2 q3 b4
    go_wp2_with fail
    refine (H3.out w4 HB4.out).mono ?_
    rintro e w5 ⟨a5, c5, rfl, i5, b5⟩
    have HB5 : Hid (Below w.heap.size w w5) := HB4.out.trans (b5.mono HB4.out.size)
    have I5 : Hid (IsBl w5 a5 Y c5) := i5
    clear H3 HB4 i5 b5
    go_wp2_with fail
    refine (H4.out w5 HB5.out).mono ?_
    rintro e w6 ⟨a6, c6, rfl, i6, b6⟩
    have HB6 : Hid (Below w.heap.size w w6) := HB5.out.trans (b6.mono HB5.out.size)
    have I5 : Hid (IsBl w6 a5 Y c5) := I5.out.below b6
    have I6 : Hid (IsBl w6 a6 Y c6) := i6
    clear H4 HB5 i6 b6
    go_wp2_with fail
    refine (err_true E2.out w6 (HG.out w6 HB6.out)).mono ?_
    rintro e w7 ⟨rfl, b7⟩
    have HB7 : Hid (Below w.heap.size w w7) := HB6.out.trans (b7.mono HB6.out.size)
    have HS : Hid (Calls _ _ _ _ _) := sameBals_any a6 a5 c6 c5 Y w7 (by omega) (I6.out.below b7) (I5.out.below b7)
    clear HB6 I5 I6 b7 E2
    go_wp2_with fail
    refine HS.out.mono ?_
    rintro e w8 ⟨rfl, b8⟩
    have HB8 : Hid (Below w.heap.size w w8) := HB7.out.trans (b8.mono HB7.out.size)
    clear HS HB7 b8
    go_wp2
    go_ret
    exact ⟨rfl, HB8.out⟩
end Go.Proofs.YtheabcdncildiaaDoor
