/-
  daylaw2.FrameWrites, walked.
-/
import Derived.Test.YtcmndenlnjefeaaDoorFrB2
import Derived.Test.YtcmndenlnjefeaaDoorFrW3
import Derived.Test.YtcmndenlnjefeaaDoorErrT
namespace Go.Proofs.YtcmndenlnjefeaaDoor
set_option linter.unusedVariables false
set_option linter.unusedSimpArgs false
set_option maxRecDepth 100000
open Go.RowKit Go.Lib

/-- A small number. -/
def Sm (n : Int) : Prop := 0 ≤ n ∧ n ≤ 9
theorem Sm.fo {a b : Int} (h1 : Sm a) (h2 : Sm b) : Sm (fo a b) := by unfold Go.Proofs.YtcmndenlnjefeaaDoor.fo; split <;> assumption
theorem sm_long (s : ByteArray) : Sm (longB s) := by unfold longB Sm; split <;> omega
theorem sm_out (lo hi n : Int) : Sm (outB lo hi n) := by unfold outB Sm; split <;> omega
theorem sm_ord (l : List Bl) (k : Nat) : Sm (ordAt l k) := by unfold ordAt Sm; split <;> omega
theorem sm_lns : ∀ (l : List Ln) (err : Int), Sm err → Sm (lnsErr err l)
  | [], _, h => h
  | x :: l, err, h => sm_lns l _ (((h.fo (sm_long _)).fo (sm_long _)).fo (sm_out _ _ _))
theorem sm_ent (e : En) : Sm (entBad e) := by
  unfold entBad
  split
  · exact ⟨by decide, by decide⟩
  · exact sm_lns _ _ (((sm_long _).fo (sm_out _ _ _)).fo (sm_out _ _ _))
theorem sm_bls (l : List Bl) : ∀ k, Sm (blsErr l k)
  | 0 => (⟨by decide, by decide⟩ : Sm 0)
  | k + 1 => (((((sm_bls l k).fo (sm_out _ _ _)).fo (sm_long _)).fo (sm_long _)).fo (sm_out _ _ _)).fo (sm_ord _ _)
theorem sm_bal (l : List Bl) : Sm (balBad l) := by
  unfold balBad
  split
  · exact ⟨by decide, by decide⟩
  · exact sm_bls _ _
theorem sm_errIs {n : Int} (h : Sm n) : ErrIs (enE n) n := by
  by_cases h0 : n = 0
  · subst h0; exact .inl ⟨rfl, rfl⟩
  · rw [enE_ne h0]; exact .inr ⟨rfl, by have := h.1; omega, by have := h.2; omega⟩
/-- What is written of an entry, if anything. -/
def entL (e : En) : List UInt8 := if entBad e = 0 then entB e else []
def balL (l : List Bl) : List UInt8 := if balBad l = 0 then balB l else []

theorem refEntry_u (r : ByteArray) (en pe : Int) (a : Option Addr) (cap : Nat) (l : List Ln) (w : World) (hen : I64 en) (hpe : I64 pe) (h : IsLn w a l cap) :
    Calls Tryd.prog 4 #[.agg #[.string r, .int .i64 en, .int .i64 pe, .slice a l.length cap]] w fun e w' =>
      ∃ a' c', e = .returned (.tuple #[.slice a' (entL ⟨r, en, pe, l⟩).length c', .int .i64 (entBad ⟨r, en, pe, l⟩)]) ∧ IsBy w' a' (entL ⟨r, en, pe, l⟩) c' ∧ Below w.heap.size w w' := by
  refine (refEntry_any r en pe a cap l w hen hpe h).mono ?_
  rintro e w' ⟨⟨hb, rfl⟩ | ⟨hb, v, rfl, hr⟩, bl⟩
  · have : entL ⟨r, en, pe, l⟩ = [] := if_neg hb
    rw [this]
    exact ⟨none, 0, rfl, isBy_nil _ _ _, bl⟩
  · have : entL ⟨r, en, pe, l⟩ = entB ⟨r, en, pe, l⟩ := if_pos hb
    rw [this, hb]
    obtain ⟨a', c', rfl, hby⟩ := hr.isBy
    exact ⟨a', c', rfl, hby, bl⟩
theorem fEntry_u (r : ByteArray) (en pe : Int) (a : Option Addr) (cap : Nat) (l : List Ln) (w : World) (hen : I64 en) (hpe : I64 pe) (hwf : ∀ x ∈ l, I64 x.amt) (h : IsLn w a l cap) :
    Calls Tryd.prog 5 #[.agg #[.string r, .int .i64 en, .int .i64 pe, .slice a l.length cap]] w fun e w' =>
      ∃ a' c', e = .returned (.tuple #[.slice a' (entL ⟨r, en, pe, l⟩).length c', enE (entBad ⟨r, en, pe, l⟩)]) ∧ IsBy w' a' (entL ⟨r, en, pe, l⟩) c' ∧ Below w.heap.size w w' := by
  refine (fEntry_any r en pe a cap l w hen hpe hwf h).mono ?_
  rintro e w' ⟨⟨hb, rfl⟩ | ⟨hb, v, rfl, hr⟩, bl⟩
  · have : entL ⟨r, en, pe, l⟩ = [] := if_neg hb
    rw [this]
    exact ⟨none, 0, rfl, isBy_nil _ _ _, bl⟩
  · have : entL ⟨r, en, pe, l⟩ = entB ⟨r, en, pe, l⟩ := if_pos hb
    rw [this, hb]
    obtain ⟨a', c', rfl, hby⟩ := hr.isBy
    exact ⟨a', c', rfl, hby, bl⟩
theorem refBals_u (a : Option Addr) (cap : Nat) (l : List Bl) (w : World) (hlen : l.length ≤ maxLen) (h : IsBl w a l cap) :
    Calls Tryd.prog 7 #[.slice a l.length cap] w fun e w' =>
      ∃ a' c', e = .returned (.tuple #[.slice a' (balL l).length c', .int .i64 (balBad l)]) ∧ IsBy w' a' (balL l) c' ∧ Below w.heap.size w w' := by
  refine (refBals_any a cap l w hlen h).mono ?_
  rintro e w' ⟨⟨hb, rfl⟩ | ⟨hb, v, rfl, hr⟩, bl⟩
  · have : balL l = [] := if_neg hb
    rw [this]
    exact ⟨none, 0, rfl, isBy_nil _ _ _, bl⟩
  · have : balL l = balB l := if_pos hb
    rw [this, hb]
    obtain ⟨a', c', rfl, hby⟩ := hr.isBy
    exact ⟨a', c', rfl, hby, bl⟩
theorem fBals_u (a : Option Addr) (cap : Nat) (l : List Bl) (w : World) (hlen : l.length ≤ maxLen) (hwf : ∀ x ∈ l, I64B x) (h : IsBl w a l cap) :
    Calls Tryd.prog 8 #[.slice a l.length cap] w fun e w' =>
      ∃ a' c', e = .returned (.tuple #[.slice a' (balL l).length c', enE (balBad l)]) ∧ IsBy w' a' (balL l) c' ∧ Below w.heap.size w w' := by
  refine (fBalances_any a cap l w hlen hwf h).mono ?_
  rintro e w' ⟨⟨hb, rfl⟩ | ⟨hb, v, rfl, hr⟩, bl⟩
  · have : balL l = [] := if_neg hb
    rw [this]
    exact ⟨none, 0, rfl, isBy_nil _ _ _, bl⟩
  · have : balL l = balB l := if_pos hb
    rw [this, hb]
    obtain ⟨a', c', rfl, hby⟩ := hr.isBy
    exact ⟨a', c', rfl, hby, bl⟩

set_option maxHeartbeats 4000000 in
theorem writes_walk (r : ByteArray) (en pe : Int) (a : Option Addr) (cap : Nat) (l : List Ln) (a2 : Option Addr) (cap2 : Nat) (bl : List Bl) (w : World) (hg : ErrT w)
    (hen : I64 en) (hpe : I64 pe) (hwf : ∀ x ∈ l, I64 x.amt) (h : IsLn w a l cap) (hbl : bl.length ≤ maxLen) (hwb : ∀ x ∈ bl, I64B x) (h2 : IsBl w a2 bl cap2) :
    Calls Tryd.prog 3 #[.agg #[.string r, .int .i64 en, .int .i64 pe, .slice a l.length cap], .slice a2 bl.length cap2] w fun e w' => e = .returned (.bool true) ∧ Below w.heap.size w w' := by
  obtain ⟨W0, hW0⟩ : ∃ W0, w.alloc (.cells #[.string r, .int .i64 en, .int .i64 pe, .slice a l.length cap] 24) = W0 := ⟨_, rfl⟩
  have b0 : Below w.heap.size w W0 := by rw [← hW0]; exact (Below.refl _ w).alloc (Nat.le_refl _) _
  have x0 := Box4.new w r en pe (.slice a l.length cap)
  have hs0 : w.heap.size < W0.heap.size := by rw [← hW0]; simp
  rw [hW0] at x0
  have HL : Hid (IsLn w a l cap) := h
  have HBl : Hid (IsBl w a2 bl cap2) := h2
  have Hwf : Hid (∀ x ∈ l, I64 x.amt) := hwf
  have Hwb : Hid (∀ x ∈ bl, I64B x) := hwb
  have HG : Hid (∀ W, Below w.heap.size w W → ErrT W) := fun W hW => hg.below hW (Nat.le_refl _)
  have HE0 : Hid (Calls _ _ _ _ _) := refEntry_u r en pe a cap l W0 hen hpe (HL.out.below b0)
  have hse := sm_errIs (sm_ent ⟨r, en, pe, l⟩)
  have hsb := sm_errIs (sm_bal bl)
  have Hse : Hid (ErrIs _ _) := hse
  have Hsb : Hid (ErrIs _ _) := hsb
  have HW0 : Hid (_ = W0) := hW0
  have Hx0 : Hid (Box4 W0 _ _ _ _ _) := x0
  have Hb0 : Hid (Below w.heap.size w W0) := b0
  have HF0 : Hid (∀ W, Below w.heap.size w W → Calls Tryd.prog 5 #[.agg #[.string r, .int .i64 en, .int .i64 pe, .slice a l.length cap]] W fun e w' => ∃ a' c', e = .returned (.tuple #[.slice a' (entL ⟨r, en, pe, l⟩).length c', enE (entBad ⟨r, en, pe, l⟩)]) ∧ IsBy w' a' (entL ⟨r, en, pe, l⟩) c' ∧ Below W.heap.size W w') := fun W hW => fEntry_u r en pe a cap l W hen hpe Hwf.out (HL.out.below hW)
  have HR1 : Hid (∀ W, Below w.heap.size w W → Calls Tryd.prog 7 #[.slice a2 bl.length cap2] W fun e w' => ∃ a' c', e = .returned (.tuple #[.slice a' (balL bl).length c', .int .i64 (balBad bl)]) ∧ IsBy w' a' (balL bl) c' ∧ Below W.heap.size W w') := fun W hW => refBals_u a2 cap2 bl W hbl (HBl.out.below hW)
  have HF1 : Hid (∀ W, Below w.heap.size w W → Calls Tryd.prog 8 #[.slice a2 bl.length cap2] W fun e w' => ∃ a' c', e = .returned (.tuple #[.slice a' (balL bl).length c', enE (balBad bl)]) ∧ IsBy w' a' (balL bl) c' ∧ Below W.heap.size W w') := fun W hW => fBals_u a2 cap2 bl W hbl Hwb.out (HBl.out.below hW)
  have d0 := x0.c0
  have d1 := x0.c1
  have d2 := x0.c2
  have d3 := x0.c3
  rw [← hW0] at d0 d1 d2 d3
  generalize entBad ⟨r, en, pe, l⟩ = bad at *
  generalize entL ⟨r, en, pe, l⟩ = L at *
  generalize balBad bl = badB at *
  generalize balL bl = M at *
  obtain ⟨ev, hev⟩ : ∃ ev, enE bad = ev := ⟨_, rfl⟩
  obtain ⟨evB, hevB⟩ : ∃ evB, enE badB = evB := ⟨_, rfl⟩
  rw [hev] at HF0 Hse
  rw [hevB] at HF1 Hsb
  clear h h2 hwf hwb hg hW0 x0 b0 hse hsb hev hevB
  go_enter Tryd.func3, Tryd.ntmps3
  go_wp2_with fail
  rw [HW0.out]
  clear HW0 d0 d1 d2 d3
  refine HE0.out.mono ?_
  rintro e w1 ⟨a1, c1, rfl, i1, b1⟩
  have x1 := Hx0.out.below b1 hs0
  have HB1 : Hid (Below w.heap.size w w1) := Hb0.out.trans (b1.mono Hb0.out.size)
  have Hi1 : Hid (IsBy w1 a1 L c1) := i1
  have d0 := x1.c0
  have d1 := x1.c1
  have d2 := x1.c2
  have d3 := x1.c3
  clear HE0 i1 b1 Hx0 Hb0 x1
  go_wp2_with fail
  refine (HF0.out w1 HB1.out).mono ?_
  rintro e w2 ⟨a2', c2, rfl, i2, b2⟩
  have HB2 : Hid (Below w.heap.size w w2) := HB1.out.trans (b2.mono HB1.out.size)
  have Hi1 : Hid (IsBy w2 a1 L c1) := Hi1.out.below b2
  have Hi2 : Hid (IsBy w2 a2' L c2) := i2
  have HEr : Hid (Calls _ _ _ _ _) := err_true Hse.out w2 (HG.out w2 HB2.out)
  clear HF0 i2 b2 d0 d1 d2 d3 HB1
  go_wp2_with fail
  refine HEr.out.mono ?_
  rintro e w3 ⟨rfl, b3⟩
  have HB3 : Hid (Below w.heap.size w w3) := HB2.out.trans (b3.mono HB2.out.size)
  have hS1 := run_str w3 a1 L c1 (Hi1.out.below b3)
  have hS2 := run_str w3 a2' L c2 (Hi2.out.below b3)
  generalize L.length = m at *
  generalize txt L = sl at *
  clear HEr b3 Hi1 Hi2 HB2
  go_wp2_with fail
  refine (HR1.out w3 HB3.out).mono ?_
  rintro e w4 ⟨a4, c4, rfl, i4, b4⟩
  have HB4 : Hid (Below w.heap.size w w4) := HB3.out.trans (b4.mono HB3.out.size)
  have Hi4 : Hid (IsBy w4 a4 M c4) := i4
  clear HR1 i4 b4 HB3 hS1 hS2
  go_wp2_with fail
  refine (HF1.out w4 HB4.out).mono ?_
  rintro e w5 ⟨a5, c5, rfl, i5, b5⟩
  have HB5 : Hid (Below w.heap.size w w5) := HB4.out.trans (b5.mono HB4.out.size)
  have Hi4 : Hid (IsBy w5 a4 M c4) := Hi4.out.below b5
  have Hi5 : Hid (IsBy w5 a5 M c5) := i5
  have HEr : Hid (Calls _ _ _ _ _) := err_true Hsb.out w5 (HG.out w5 HB5.out)
  clear HF1 i5 b5 HB4
  go_wp2_with fail
  refine HEr.out.mono ?_
  rintro e w6 ⟨rfl, b6⟩
  have HB6 : Hid (Below w.heap.size w w6) := HB5.out.trans (b6.mono HB5.out.size)
  have hS1 := run_str w6 a4 M c4 (Hi4.out.below b6)
  have hS2 := run_str w6 a5 M c5 (Hi5.out.below b6)
  generalize M.length = mM at *
  generalize txt M = sM at *
  clear HEr b6 Hi4 Hi5 HB5
  go_wp2
  go_ret
  exact ⟨rfl, HB6.out⟩
end Go.Proofs.YtcmndenlnjefeaaDoor
