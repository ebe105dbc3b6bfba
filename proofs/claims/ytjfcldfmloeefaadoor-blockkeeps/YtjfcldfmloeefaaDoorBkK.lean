/-
  The walk of daylaw2.BlockKeeps.
-/
import Derived.Test.YtjfcldfmloeefaaDoorBkK0
namespace Go.Proofs.YtjfcldfmloeefaaDoor
set_option linter.unusedVariables false
set_option linter.unusedSimpArgs false
set_option maxRecDepth 100000
open Go.RowKit Go.Lib

/-- The disk behind all writes. -/
def kD (x y z : List UInt8) : Dk := (((((dk0 3).wr 3 0 x).wr 3 1 y).flush).wr 3 1 z).wr 3 2 x
theorem wr_bad (D : Dk) (i : Int) (l : List UInt8) (hf : D.fail < 0) (hi : 0 ≤ i ∧ i < 3) : wrBad D 3 i l = if 64 < l.length then 4 else 0 := by
  unfold wrBad
  rw [failing_neg hf]
  have : hasB 3 i = true := by simp [hasB]; omega
  rw [this]
  simp
theorem k1 (x : List UInt8) : ((dk0 3).wr 3 0 x).fail = -1 := by rw [Dk.fail_wr]; rfl
theorem k2 (x y : List UInt8) : (((dk0 3).wr 3 0 x).wr 3 1 y).fail = -1 := by rw [Dk.fail_wr, k1]
theorem k3 (x y : List UInt8) : ((((dk0 3).wr 3 0 x).wr 3 1 y).flush).fail = -1 := k2 x y
theorem k4 (x y z : List UInt8) : (((((dk0 3).wr 3 0 x).wr 3 1 y).flush).wr 3 1 z).fail = -1 := by rw [Dk.fail_wr, k3]
theorem n1 (x : List UInt8) : ((dk0 3).wr 3 0 x).few 1 := Dk.few.wr ⟨by simp [dk0], by simp [dk0]⟩ 3 0 x
theorem n2 (x y : List UInt8) : (((dk0 3).wr 3 0 x).wr 3 1 y).few 2 := (n1 x).wr 3 1 y
theorem n3 (x y : List UInt8) : ((((dk0 3).wr 3 0 x).wr 3 1 y).flush).few 3 := ⟨by have := (n2 x y).steps; simp only [Dk.flush]; omega, by simp [Dk.flush]⟩
theorem n4 (x y z : List UInt8) : (((((dk0 3).wr 3 0 x).wr 3 1 y).flush).wr 3 1 z).few 4 := (n3 x y).wr 3 1 z
theorem n5 (x y z : List UInt8) : (kD x y z).few 5 := (n4 x y z).wr 3 2 x

theorem wr_ok (D : Dk) (n : Nat) (i : Int) (l : List UInt8) (hf : D.fail < 0) (hi : 0 ≤ i ∧ i < n) (hl : l.length ≤ 64) : D.wr n i l = D.write i.toNat l := by
  have h0 : wrBad D n i l = 0 := by
    unfold wrBad
    rw [failing_neg hf]
    have : hasB n i = true := by simp [hasB]; omega
    rw [this]
    simp
    omega
  unfold Dk.wr
  rw [if_pos h0]
theorem kD_is (x y z : List UInt8) (hx : x.length ≤ 64) (hy : y.length ≤ 64) (hz : z.length ≤ 64) :
    kD x y z = ⟨[⟨padB x, false⟩, ⟨padB z, false⟩, ⟨padB x, false⟩], [⟨padB x, false⟩, ⟨padB y, false⟩, bk0], [⟨1, ⟨padB z, false⟩⟩, ⟨2, ⟨padB x, false⟩⟩], 5, -1⟩ := by
  unfold kD
  rw [wr_ok (dk0 3) 3 0 x (by simp [dk0]) (by omega) hx]
  rw [wr_ok _ 3 1 y (by simp [dk0, Dk.write]) (by omega) hy]
  rw [wr_ok _ 3 1 z (by simp [dk0, Dk.write, Dk.flush]) (by omega) hz]
  rw [wr_ok _ 3 2 x (by simp [dk0, Dk.write, Dk.flush]) (by omega) hx]
  rfl
theorem kD_crash (x y z : List UInt8) (keep : List Int) (torn : Int) (hx : x.length ≤ 64) (hy : y.length ≤ 64) (hz : z.length ≤ 64) :
    ((kD x y z).crash keep torn).now = if (1 : Int) ∈ keep then (if (0 : Int) ∈ keep then [⟨padB x, false⟩, ⟨padB z, decide ((0 : Int) = torn)⟩, ⟨padB x, decide ((1 : Int) = torn)⟩] else [⟨padB x, false⟩, ⟨padB y, false⟩, ⟨padB x, decide ((1 : Int) = torn)⟩]) else (if (0 : Int) ∈ keep then [⟨padB x, false⟩, ⟨padB z, decide ((0 : Int) = torn)⟩, bk0] else [⟨padB x, false⟩, ⟨padB y, false⟩, bk0]) := by
  rw [kD_is x y z hx hy hz]
  have e : markL keep 2 = [decide ((0 : Int) ∈ keep), decide ((1 : Int) ∈ keep)] := by simp [markL, List.range_succ]
  simp only [Dk.crash, List.length_cons, List.length_nil]
  rw [e]
  simp only [crashS, List.getD_cons_zero, List.getD_cons_succ, decide_eq_true_eq]
  by_cases h0 : (0 : Int) ∈ keep <;> by_cases h1 : (1 : Int) ∈ keep <;> simp [h0, h1]
theorem crash_now0 (x y z : List UInt8) (keep : List Int) (torn : Int) (hx : x.length ≤ 64) (hy : y.length ≤ 64) (hz : z.length ≤ 64) : ((kD x y z).crash keep torn).now.getD 0 bk0 = ⟨padB x, false⟩ := by
  rw [kD_crash x y z keep torn hx hy hz]
  split <;> split <;> rfl
theorem crash_now1 (x y z : List UInt8) (keep : List Int) (torn : Int) (hx : x.length ≤ 64) (hy : y.length ≤ 64) (hz : z.length ≤ 64) : ((kD x y z).crash keep torn).now.getD 1 bk0 = if (0 : Int) ∈ keep then ⟨padB z, decide ((0 : Int) = torn)⟩ else ⟨padB y, false⟩ := by
  rw [kD_crash x y z keep torn hx hy hz]
  split <;> split <;> rfl

/-- All up to the crash: what the five calls answer, and where they lead. -/
structure KSt (w W : World) (p nb sb : Nat) (cv : Value) (D : Dk) (v1 v2 v3 : Value) (x y z : List UInt8) : Prop where
  tn : Tn w W p nb sb cv 3 D
  x : ByRow W w.heap.size v1 x
  y : ByRow W w.heap.size v2 y
  z : ByRow W w.heap.size v3 z
theorem KSt.step {w W U : World} {p nb sb : Nat} {cv cv' : Value} {D D' : Dk} {v1 v2 v3 : Value} {x y z : List UInt8} (h : KSt w W p nb sb cv D v1 v2 v3 x y z) (ht : Tn w U p nb sb cv' 3 D') (hk : Keeps w.heap.size dkT W U) : KSt w U p nb sb cv' D' v1 v2 v3 x y z :=
  ⟨ht, h.x.keeps hk, h.y.keeps hk, h.z.keeps hk⟩
theorem KSt.below {w W U : World} {p nb sb : Nat} {cv : Value} {D : Dk} {v1 v2 v3 : Value} {x y z : List UInt8} (h : KSt w W p nb sb cv D v1 v2 v3 x y z) (hb : Below W.heap.size W U) : KSt w U p nb sb cv D v1 v2 v3 x y z :=
  ⟨h.tn.below hb, h.x.below hb, h.y.below hb, h.z.below hb⟩
theorem ByRow.low {w : World} {n m : Nat} {v : Value} {l : List UInt8} (h : ByRow w n v l) (hm : m ≤ n) : ByRow w m v l := by
  rcases h.2 with ⟨hv, hn⟩ | ⟨g1, c1, cur, hv, hb1, r⟩
  · exact ⟨h.1, .inl ⟨hv, hn⟩⟩
  · exact ⟨h.1, .inr ⟨g1, c1, cur, hv, by omega, r⟩⟩

set_option maxHeartbeats 8000000 in
theorem keeps_long (a b c : Int) (ak : Option Addr) (keep : List Int) (ck : Nat) (torn : Int) (w : World) (hl : 64 < (bysOf a).length ∨ 64 < (bysOf b).length ∨ 64 < (bysOf c).length) :
    Calls Tryd.prog 3 #[.int .i64 a, .int .i64 b, .int .i64 c, .slice ak keep.length ck, .int .i64 torn] w fun e w' => e = .returned (.bool true) ∧ Below w.heap.size w w' := by
  have HN : Hid (Calls _ _ _ _ _) := tn_new 3 w (by omega) (by omega)
  have HX : Hid (∀ W, Calls _ _ _ _ _) := fun W => bytesOf_any a W
  have HY : Hid (∀ W, Calls _ _ _ _ _) := fun W => bytesOf_any b W
  have HZ : Hid (∀ W, Calls _ _ _ _ _) := fun W => bytesOf_any c W
  generalize bysOf a = x at *
  generalize bysOf b = y at *
  generalize bysOf c = z at *
  go_enter Tryd.func3, Tryd.ntmps3
  go_wp2_with fail
  refine HN.out.mono ?_
  rintro e w1 ⟨p, nb, sb, rfl, H1⟩
  clear HN
  go_wp2_with fail
  refine (HX.out w1).mono ?_
  rintro e w2 ⟨ax, cx, rfl, hx, hb2⟩
  have T2 := H1.out.below hb2.out
  have X2 := hx.out.low H1.out.2.size
  clear HX hx hb2 H1
  go_wp2_with fail
  refine (HY.out w2).mono ?_
  rintro e w3 ⟨ay, cy, rfl, hy, hb3⟩
  have T3 := T2.below hb3.out
  have X3 := X2.below hb3.out
  have Y3 := hy.out.low T2.2.size
  clear HY hy hb3 T2 X2
  go_wp2_with fail
  refine (HZ.out w3).mono ?_
  rintro e w4 ⟨az, cz, rfl, hz, hb4⟩
  have S4 : Hid (KSt w w4 p nb sb (.slice none 0 0) (dk0 3) (.slice ax x.length cx) (.slice ay y.length cy) (.slice az z.length cz) x y z) := ⟨T3.below hb4.out, X3.below hb4.out, Y3.below hb4.out, hz.out.low T3.2.size⟩
  clear HZ hz hb4 T3 X3 Y3
  have C1 := tn_wr S4.out.tn 0 ax x cx (by omega) (by simp [dk0]) (by simp [dk0]) S4.out.x.isBy'
  rw [wr_bad _ _ _ (by simp [dk0]) (by omega)] at C1
  have HC1 : Hid (Calls _ _ _ _ _) := C1
  clear C1
  go_wp2_with fail
  refine HC1.out.mono ?_
  rintro e w5 ⟨rfl, cv5, h5, hk5⟩
  have S5 : Hid (KSt _ _ _ _ _ _ _ _ _ _ _ _ _) := S4.out.step h5.out hk5.out
  clear HC1 S4 h5 hk5
  have C2 := tn_wr S5.out.tn 1 ay y cy (by omega) (by have := (n1 x).steps; omega) (by have := (n1 x).chg; omega) S5.out.y.isBy'
  rw [wr_bad _ _ _ (by rw [k1]; omega) (by omega)] at C2
  have HC2 : Hid (Calls _ _ _ _ _) := C2
  clear C2
  obtain ⟨E1, hE1⟩ : ∃ E1, enE (if 64 < x.length then 4 else 0) = E1 := ⟨_, rfl⟩
  rw [hE1]
  have HE1 : Hid (enE (if 64 < x.length then 4 else 0) = E1) := hE1
  clear hE1
  go_wp2_with fail
  refine HC2.out.mono ?_
  rintro e w6 ⟨rfl, cv6, h6, hk6⟩
  have S6 : Hid (KSt _ _ _ _ _ _ _ _ _ _ _ _ _) := S5.out.step h6.out hk6.out
  clear HC2 S5 h6 hk6
  have HC3 : Hid (Calls _ _ _ _ _) := tn_flush S6.out.tn (failing_neg (by rw [k2]; omega)) (by have := (n2 x y).steps; omega)
  obtain ⟨E2, hE2⟩ : ∃ E2, enE (if 64 < y.length then 4 else 0) = E2 := ⟨_, rfl⟩
  rw [hE2]
  have HE2 : Hid (enE (if 64 < y.length then 4 else 0) = E2) := hE2
  clear hE2
  go_wp2_with fail
  refine HC3.out.mono ?_
  rintro e w7 ⟨rfl, h7, hk7⟩
  have S7 : Hid (KSt _ _ _ _ _ _ _ _ _ _ _ _ _) := S6.out.step h7.out hk7.out
  clear HC3 S6 h7 hk7
  have C4 := tn_wr S7.out.tn 1 az z cz (by omega) (by have := (n3 x y).steps; omega) (by have := (n3 x y).chg; omega) S7.out.z.isBy'
  rw [wr_bad _ _ _ (by rw [k3]; omega) (by omega)] at C4
  have HC4 : Hid (Calls _ _ _ _ _) := C4
  clear C4
  go_wp2_with fail
  refine HC4.out.mono ?_
  rintro e w8 ⟨rfl, cv8, h8, hk8⟩
  have S8 : Hid (KSt _ _ _ _ _ _ _ _ _ _ _ _ _) := S7.out.step h8.out hk8.out
  clear HC4 S7 h8 hk8
  have HC5 : Hid (Calls _ _ _ _ _) := tn_wr S8.out.tn 2 ax x cx (by omega) (by have := (n4 x y z).steps; omega) (by have := (n4 x y z).chg; omega) S8.out.x.isBy'
  obtain ⟨E4, hE4⟩ : ∃ E4, enE (if 64 < z.length then 4 else 0) = E4 := ⟨_, rfl⟩
  rw [hE4]
  have HE4 : Hid (enE (if 64 < z.length then 4 else 0) = E4) := hE4
  clear hE4
  go_wp2_with fail
  refine HC5.out.mono ?_
  rintro e w9 ⟨rfl, cv9, h9, hk9⟩
  have S9 : Hid (KSt w w9 p nb sb cv9 (kD x y z) (.slice ax x.length cx) (.slice ay y.length cy) (.slice az z.length cz) x y z) := S8.out.step h9.out hk9.out
  clear HC5 S8 h9 hk9
  by_cases hx : 64 < x.length
  · have e1 : E1 = .iface 38 (.int .i64 4) := by rw [← HE1.out, if_pos hx]; rfl
    have hx' : (64 : Int) < x.length := by omega
    subst e1
    clear HE1
    go_wp2
    go_ret
    exact ⟨rfl, S9.out.tn.2⟩
  · have e1 : E1 = .nilIface := by rw [← HE1.out, if_neg hx]; rfl
    have hx' : (x.length : Int) ≤ 64 := by omega
    subst e1
    clear HE1
    by_cases hy : 64 < y.length
    · have e2 : E2 = .iface 38 (.int .i64 4) := by rw [← HE2.out, if_pos hy]; rfl
      have hy' : (64 : Int) < y.length := by omega
      subst e2
      clear HE2
      go_wp2
      go_ret
      exact ⟨rfl, S9.out.tn.2⟩
    · have e2 : E2 = .nilIface := by rw [← HE2.out, if_neg hy]; rfl
      have hy' : (y.length : Int) ≤ 64 := by omega
      subst e2
      clear HE2
      have hz : 64 < z.length := by omega
      have e4 : E4 = .iface 38 (.int .i64 4) := by rw [← HE4.out, if_pos hz]; rfl
      have hz' : (64 : Int) < z.length := by omega
      subst e4
      clear HE4
      go_wp2
      go_ret
      exact ⟨rfl, S9.out.tn.2⟩

set_option maxHeartbeats 8000000 in
theorem keeps_short (a b c : Int) (ak : Option Addr) (keep : List Int) (ck : Nat) (torn : Int) (w : World) (hg : ErrT w) (hkl : keep.length ≤ 9223372036854775807) (hin : IsIn w ak keep ck) (hlx : (bysOf a).length ≤ 64) (hly : (bysOf b).length ≤ 64) (hlz : (bysOf c).length ≤ 64) :
    Calls Tryd.prog 3 #[.int .i64 a, .int .i64 b, .int .i64 c, .slice ak keep.length ck, .int .i64 torn] w fun e w' => e = .returned (.bool true) ∧ Below w.heap.size w w' := by
  have HN : Hid (Calls _ _ _ _ _) := tn_new 3 w (by omega) (by omega)
  have HX : Hid (∀ W, Calls _ _ _ _ _) := fun W => bytesOf_any a W
  have HY : Hid (∀ W, Calls _ _ _ _ _) := fun W => bytesOf_any b W
  have HZ : Hid (∀ W, Calls _ _ _ _ _) := fun W => bytesOf_any c W
  have HG : Hid (ErrT w) := hg
  have HI : Hid (IsIn w ak keep ck) := hin
  clear hg hin
  generalize bysOf a = x at *
  generalize bysOf b = y at *
  generalize bysOf c = z at *
  go_enter Tryd.func3, Tryd.ntmps3
  go_wp2_with fail
  refine HN.out.mono ?_
  rintro e w1 ⟨p, nb, sb, rfl, H1⟩
  clear HN
  go_wp2_with fail
  refine (HX.out w1).mono ?_
  rintro e w2 ⟨ax, cx, rfl, hx, hb2⟩
  have T2 := H1.out.below hb2.out
  have X2 := hx.out.low H1.out.2.size
  clear HX hx hb2 H1
  go_wp2_with fail
  refine (HY.out w2).mono ?_
  rintro e w3 ⟨ay, cy, rfl, hy, hb3⟩
  have T3 := T2.below hb3.out
  have X3 := X2.below hb3.out
  have Y3 := hy.out.low T2.2.size
  clear HY hy hb3 T2 X2
  go_wp2_with fail
  refine (HZ.out w3).mono ?_
  rintro e w4 ⟨az, cz, rfl, hz, hb4⟩
  have S4 : Hid (KSt w w4 p nb sb (.slice none 0 0) (dk0 3) (.slice ax x.length cx) (.slice ay y.length cy) (.slice az z.length cz) x y z) := ⟨T3.below hb4.out, X3.below hb4.out, Y3.below hb4.out, hz.out.low T3.2.size⟩
  clear HZ hz hb4 T3 X3 Y3
  have C1 := tn_wr S4.out.tn 0 ax x cx (by omega) (by simp [dk0]) (by simp [dk0]) S4.out.x.isBy'
  rw [wr_bad _ _ _ (by simp [dk0]) (by omega)] at C1
  have HC1 : Hid (Calls _ _ _ _ _) := C1
  clear C1
  go_wp2_with fail
  refine HC1.out.mono ?_
  rintro e w5 ⟨rfl, cv5, h5, hk5⟩
  have S5 : Hid (KSt _ _ _ _ _ _ _ _ _ _ _ _ _) := S4.out.step h5.out hk5.out
  clear HC1 S4 h5 hk5
  have C2 := tn_wr S5.out.tn 1 ay y cy (by omega) (by have := (n1 x).steps; omega) (by have := (n1 x).chg; omega) S5.out.y.isBy'
  rw [wr_bad _ _ _ (by rw [k1]; omega) (by omega)] at C2
  have HC2 : Hid (Calls _ _ _ _ _) := C2
  clear C2
  obtain ⟨E1, hE1⟩ : ∃ E1, enE (if 64 < x.length then 4 else 0) = E1 := ⟨_, rfl⟩
  rw [hE1]
  have HE1 : Hid (enE (if 64 < x.length then 4 else 0) = E1) := hE1
  clear hE1
  go_wp2_with fail
  refine HC2.out.mono ?_
  rintro e w6 ⟨rfl, cv6, h6, hk6⟩
  have S6 : Hid (KSt _ _ _ _ _ _ _ _ _ _ _ _ _) := S5.out.step h6.out hk6.out
  clear HC2 S5 h6 hk6
  have HC3 : Hid (Calls _ _ _ _ _) := tn_flush S6.out.tn (failing_neg (by rw [k2]; omega)) (by have := (n2 x y).steps; omega)
  obtain ⟨E2, hE2⟩ : ∃ E2, enE (if 64 < y.length then 4 else 0) = E2 := ⟨_, rfl⟩
  rw [hE2]
  have HE2 : Hid (enE (if 64 < y.length then 4 else 0) = E2) := hE2
  clear hE2
  go_wp2_with fail
  refine HC3.out.mono ?_
  rintro e w7 ⟨rfl, h7, hk7⟩
  have S7 : Hid (KSt _ _ _ _ _ _ _ _ _ _ _ _ _) := S6.out.step h7.out hk7.out
  clear HC3 S6 h7 hk7
  have C4 := tn_wr S7.out.tn 1 az z cz (by omega) (by have := (n3 x y).steps; omega) (by have := (n3 x y).chg; omega) S7.out.z.isBy'
  rw [wr_bad _ _ _ (by rw [k3]; omega) (by omega)] at C4
  have HC4 : Hid (Calls _ _ _ _ _) := C4
  clear C4
  go_wp2_with fail
  refine HC4.out.mono ?_
  rintro e w8 ⟨rfl, cv8, h8, hk8⟩
  have S8 : Hid (KSt _ _ _ _ _ _ _ _ _ _ _ _ _) := S7.out.step h8.out hk8.out
  clear HC4 S7 h8 hk8
  have HC5 : Hid (Calls _ _ _ _ _) := tn_wr S8.out.tn 2 ax x cx (by omega) (by have := (n4 x y z).steps; omega) (by have := (n4 x y z).chg; omega) S8.out.x.isBy'
  obtain ⟨E4, hE4⟩ : ∃ E4, enE (if 64 < z.length then 4 else 0) = E4 := ⟨_, rfl⟩
  rw [hE4]
  have HE4 : Hid (enE (if 64 < z.length then 4 else 0) = E4) := hE4
  clear hE4
  go_wp2_with fail
  refine HC5.out.mono ?_
  rintro e w9 ⟨rfl, cv9, h9, hk9⟩
  have S9 : Hid (KSt w w9 p nb sb cv9 (kD x y z) (.slice ax x.length cx) (.slice ay y.length cy) (.slice az z.length cz) x y z) := S8.out.step h9.out hk9.out
  clear HC5 S8 h9 hk9
  have e1 : E1 = .nilIface := by rw [← HE1.out, if_neg (by omega)]; rfl
  have e2 : E2 = .nilIface := by rw [← HE2.out, if_neg (by omega)]; rfl
  have e4 : E4 = .nilIface := by rw [← HE4.out, if_neg (by omega)]; rfl
  subst e1
  subst e2
  subst e4
  clear HE1 HE2 HE4
  have hx' : (x.length : Int) ≤ 64 := by omega
  have hy' : (y.length : Int) ≤ 64 := by omega
  have hz' : (z.length : Int) ≤ 64 := by omega
  have HC6 : Hid (Calls _ _ _ _ _) := tn_crash S9.out.tn ak keep ck torn (by have := (n5 x y z).chg; omega) hkl (HI.out.below S9.out.tn.2)
  go_wp2_with fail
  refine HC6.out.mono ?_
  rintro e wA ⟨rfl, hA, hkA⟩
  have SA : Hid (KSt w wA p nb sb (.slice none 0 0) ((kD x y z).crash keep torn) (.slice ax x.length cx) (.slice ay y.length cy) (.slice az z.length cz) x y z) := S9.out.step hA.out hkA.out
  clear HC6 S9 hA hkA
  have Hcell : Hid (∀ m, m < keep.length → ∃ b off, ak = some ⟨b, off, none⟩ ∧ wA.cell? ⟨b, off + m, none⟩ = some (.int .i64 (keep.getD m 0))) := by
    intro m hm
    rcases (HI.out.below SA.out.tn.2).lies with h | ⟨b, off, e, hlt, hc⟩
    · subst h; simp at hm
    · exact ⟨b, off, e, hc m hm⟩
  have hkl' : (keep.length : Int) ≤ 9223372036854775807 := by omega
  go_wp2_with fail
  go_loopw [20, 21] (fun v i wr => ∃ m : Nat, m ≤ keep.length ∧ i = .int .i64 m ∧ v = .bool (decide ((0 : Int) ∈ keep.take m)) ∧ wr = wA) (fun _ i _ => keep.length - (intOf i).toNat)
  case atStart => exact ⟨0, Nat.zero_le _, rfl, by simp, rfl⟩
  case round =>
    obtain ⟨m, hm, rfl, rfl, rfl⟩ := hrel
    by_cases hlt : m < keep.length
    · obtain ⟨b0, off, rfl, hc⟩ := Hcell.out m hlt
      have et := ints_take keep m hlt
      have j0 : (0 : Int) ≤ m := by omega
      have j1 : (m : Int) < keep.length := by omega
      generalize keep.getD m 0 = q at *
      have hnext : decide ((0 : Int) ∈ keep.take (m + 1)) = (decide ((0 : Int) ∈ keep.take m) || decide (q = 0)) := by
        rw [et]
        simp [eq_comm]
      have Hnext : Hid (_ = _) := hnext
      clear hnext et
      generalize decide ((0 : Int) ∈ keep.take m) = t at *
      cases t
      · have hq : (q == 0) = decide (q = 0) := rfl
        obtain ⟨u, hu⟩ : ∃ u, decide (q = 0) = u := ⟨_, rfl⟩
        have hq2 : (q == 0) = u := hq.trans hu
        go_wp2_with fail
        go_roundw
        case rel => exact ⟨m + 1, by omega, by go_num, by rw [Hnext.out, hu]; simp, by first | rfl | trivial⟩
        case measure => simp [intOf]; omega
      · go_wp2_with fail
        go_roundw
        case rel => exact ⟨m + 1, by omega, by go_num, by rw [Hnext.out]; simp, by first | rfl | trivial⟩
        case measure => simp [intOf]; omega
    · have em : m = keep.length := by omega
      subst em
      rw [List.take_length]
      have j1 : ¬ (keep.length : Int) < keep.length := by omega
      have HQ0 := tn_read SA.out.tn 0 (by omega) (by rw [crash_now0 x y z keep torn hlx hly hlz])
      rw [crash_now0 x y z keep torn hlx hly hlz] at HQ0
      have HQ : Hid (Calls _ _ _ _ _) := HQ0
      clear HQ0 Hcell
      go_wp2_with fail
      refine HQ.out.mono ?_
      rintro e wB ⟨rfl, TB, hrow, hbB⟩
      have SB : Hid (KSt _ _ _ _ _ _ _ _ _ _ _ _ _) := SA.out.below hbB.out
      clear HQ TB SA
      have Hx1 : Hid (IsBy wB (some ⟨wr.heap.size, 0, none⟩) x 64) := by
        have := isBy_row hrow.out x.length (by rw [padB_length x hlx]; exact hlx) 64 hlx
        rwa [padB_take] at this
      clear hrow hbB
      generalize wr.heap.size = gx at *
      have e1 := crash_now1 x y z keep torn hlx hly hlz
      have HStp : Hid (∀ (W : World) (n : Nat), KSt w W p nb sb (.slice none 0 0) ((kD x y z).crash keep torn) (.slice ax x.length cx) (.slice ay y.length cy) (.slice az z.length cz) x y z → Calls Tryd.prog 10 #[.pointer (some ⟨p, 0, none⟩)] (W.drewN n) fun e w' => e = .returned (.int .i64 0) ∧ w' = W.drewN n) := fun W n h => steps_any _ p nb sb _ 3 _ (W.drewN n) (h.tn.1.still (Still.drewN W n))
      by_cases hin : (0 : Int) ∈ keep
      · rw [decide_eq_true hin]
        rw [if_pos hin] at e1
        by_cases ht : torn = 0
        · subst ht
          have HQ1 := tn_readTorn SB.out.tn 1 (by omega) (by rw [e1]; rfl)
          rw [enE_ne (by decide)] at HQ1
          have HQ : Hid (Calls _ _ _ _ _) := HQ1
          clear HQ1
          go_wp2_with fail
          refine HQ.out.mono ?_
          rintro e wC ⟨rfl, TC, hsC⟩
          have SC : Hid (KSt _ _ _ _ _ _ _ _ _ _ _ _ _) := SB.out.below (hsC.out.below _)
          have hst := fun n => HStp.out wC n SC.out
          have hS1 : ∀ n, (convert 28 9 (.slice (some ⟨gx, 0, none⟩) x.length 64)).run Tryd.prog (wC.drewN n) = .ok (.string (txt x)) (wC.drewN n) := fun n => run_str (wC.drewN n) _ x 64 ((Hx1.out.below (hsC.out.below _)).below ((Still.drewN wC n).below _))
          have hS2 : ∀ n, (convert 28 9 (.slice ax x.length cx)).run Tryd.prog (wC.drewN n) = .ok (.string (txt x)) (wC.drewN n) := fun n => run_str (wC.drewN n) _ x cx (SC.out.x.isBy'.below ((Still.drewN wC n).below _))
          clear HQ TC hsC SB HStp e1 Hx1
          go_wp2_with fail
          go_quiet ((go_at_call 10; exact Calls.quiet_of_same (hst _)))
          rename Nat => nq
          have HE : Hid (Calls _ _ _ _ _) := err_true (E := .iface 38 (.int .i64 9)) (c := 9) (.inr ⟨rfl, by omega, by omega⟩) (wC.drewN nq) (HG.out.below (SC.out.tn.2.trans ((Still.drewN wC nq).below _)) (Nat.le_refl _))
          clear hst hS1 hS2
          go_wp2_with fail
          refine HE.out.mono ?_
          rintro e wD ⟨rfl, hbD⟩
          have BD : Below w.heap.size w wD := (SC.out.tn.2.trans ((Still.drewN wC nq).below _)).trans (hbD.mono (by have := SC.out.tn.2.size; exact this))
          clear HE
          go_wp2
          go_ret
          exact ⟨rfl, BD⟩
        · have e0 : decide ((0 : Int) = torn) = false := decide_eq_false (fun h => ht h.symm)
          rw [e0] at e1
          have ht2 : (torn == 0) = false := by rw [beq_eq_false_iff_ne]; exact ht
          have HQ1 := tn_read SB.out.tn 1 (by omega) (by rw [e1])
          rw [e1] at HQ1
          have HQ : Hid (Calls _ _ _ _ _) := HQ1
          clear HQ1
          go_wp2_with fail
          refine HQ.out.mono ?_
          rintro e wC ⟨rfl, TC, hrow, hbC⟩
          have SC : Hid (KSt _ _ _ _ _ _ _ _ _ _ _ _ _) := SB.out.below hbC.out
          have Hz1 : Hid (IsBy wC (some ⟨wB.heap.size, 0, none⟩) z 64) := by
            have := isBy_row hrow.out z.length (by rw [padB_length z hlz]; exact hlz) 64 hlz
            rwa [padB_take] at this
          have hst := fun n => HStp.out wC n SC.out
          have hS1 : ∀ n, (convert 28 9 (.slice (some ⟨gx, 0, none⟩) x.length 64)).run Tryd.prog (wC.drewN n) = .ok (.string (txt x)) (wC.drewN n) := fun n => run_str (wC.drewN n) _ x 64 ((Hx1.out.below hbC.out).below ((Still.drewN wC n).below _))
          have hS2 : ∀ n, (convert 28 9 (.slice ax x.length cx)).run Tryd.prog (wC.drewN n) = .ok (.string (txt x)) (wC.drewN n) := fun n => run_str (wC.drewN n) _ x cx (SC.out.x.isBy'.below ((Still.drewN wC n).below _))
          have HS3 : Hid (∀ W, Still wC W → (convert 28 9 (.slice (some ⟨wB.heap.size, 0, none⟩) z.length 64)).run Tryd.prog W = .ok (.string (txt z)) W) := fun W hW => run_str W _ z 64 (Hz1.out.below (hW.below _))
          have HS4 : Hid (∀ W, Still wC W → (convert 28 9 (.slice az z.length cz)).run Tryd.prog W = .ok (.string (txt z)) W) := fun W hW => run_str W _ z cz (SC.out.z.isBy'.below (hW.below _))
          clear HQ TC hbC hrow SB HStp e1 Hx1 Hz1 e0
          generalize wB.heap.size = gz at *
          go_wp2_with fail
          go_quiet ((go_at_call 10; exact Calls.quiet_of_same (hst _)))
          rename Nat => nq
          clear hst hS1 hS2
          have hS3 : ∀ n, (convert 28 9 (.slice (some ⟨gz, 0, none⟩) z.length 64)).run Tryd.prog ((wC.drewN nq).drewN n) = .ok (.string (txt z)) ((wC.drewN nq).drewN n) := fun n => HS3.out _ ((Still.drewN wC nq).trans (Still.drewN _ n))
          have hS4 : ∀ n, (convert 28 9 (.slice az z.length cz)).run Tryd.prog ((wC.drewN nq).drewN n) = .ok (.string (txt z)) ((wC.drewN nq).drewN n) := fun n => HS4.out _ ((Still.drewN wC nq).trans (Still.drewN _ n))
          have BD : Hid (Below w.heap.size w (wC.drewN nq)) := SC.out.tn.2.trans ((Still.drewN wC nq).below _)
          generalize wC.drewN nq = wD at *
          clear HS3 HS4 SC
          go_wp2_with fail
          go_quiet (fail)
          rename Nat => nq2
          go_wp2
          go_ret
          exact ⟨rfl, BD.out.trans ((Still.drewN wD nq2).below _)⟩
      · rw [decide_eq_false hin]
        rw [if_neg hin] at e1
        have HQ1 := tn_read SB.out.tn 1 (by omega) (by rw [e1])
        rw [e1] at HQ1
        have HQ : Hid (Calls _ _ _ _ _) := HQ1
        clear HQ1
        go_wp2_with fail
        refine HQ.out.mono ?_
        rintro e wC ⟨rfl, TC, hrow, hbC⟩
        have SC : Hid (KSt _ _ _ _ _ _ _ _ _ _ _ _ _) := SB.out.below hbC.out
        have Hy1 : Hid (IsBy wC (some ⟨wB.heap.size, 0, none⟩) y 64) := by
          have := isBy_row hrow.out y.length (by rw [padB_length y hly]; exact hly) 64 hly
          rwa [padB_take] at this
        have hst := fun n => HStp.out wC n SC.out
        have hS1 : ∀ n, (convert 28 9 (.slice (some ⟨gx, 0, none⟩) x.length 64)).run Tryd.prog (wC.drewN n) = .ok (.string (txt x)) (wC.drewN n) := fun n => run_str (wC.drewN n) _ x 64 ((Hx1.out.below hbC.out).below ((Still.drewN wC n).below _))
        have hS2 : ∀ n, (convert 28 9 (.slice ax x.length cx)).run Tryd.prog (wC.drewN n) = .ok (.string (txt x)) (wC.drewN n) := fun n => run_str (wC.drewN n) _ x cx (SC.out.x.isBy'.below ((Still.drewN wC n).below _))
        have HS3 : Hid (∀ W, Still wC W → (convert 28 9 (.slice (some ⟨wB.heap.size, 0, none⟩) y.length 64)).run Tryd.prog W = .ok (.string (txt y)) W) := fun W hW => run_str W _ y 64 (Hy1.out.below (hW.below _))
        have HS4 : Hid (∀ W, Still wC W → (convert 28 9 (.slice ay y.length cy)).run Tryd.prog W = .ok (.string (txt y)) W) := fun W hW => run_str W _ y cy (SC.out.y.isBy'.below (hW.below _))
        clear HQ TC hbC hrow SB HStp e1 Hx1 Hy1
        generalize wB.heap.size = gz at *
        go_wp2_with fail
        go_quiet ((go_at_call 10; exact Calls.quiet_of_same (hst _)))
        rename Nat => nq
        clear hst hS1 hS2
        have hS3 : ∀ n, (convert 28 9 (.slice (some ⟨gz, 0, none⟩) y.length 64)).run Tryd.prog ((wC.drewN nq).drewN n) = .ok (.string (txt y)) ((wC.drewN nq).drewN n) := fun n => HS3.out _ ((Still.drewN wC nq).trans (Still.drewN _ n))
        have hS4 : ∀ n, (convert 28 9 (.slice ay y.length cy)).run Tryd.prog ((wC.drewN nq).drewN n) = .ok (.string (txt y)) ((wC.drewN nq).drewN n) := fun n => HS4.out _ ((Still.drewN wC nq).trans (Still.drewN _ n))
        have BD : Hid (Below w.heap.size w (wC.drewN nq)) := SC.out.tn.2.trans ((Still.drewN wC nq).below _)
        generalize wC.drewN nq = wD at *
        clear HS3 HS4 SC
        go_wp2_with fail
        go_quiet (fail)
        rename Nat => nq2
        go_wp2
        go_ret
        exact ⟨rfl, BD.out.trans ((Still.drewN wD nq2).below _)⟩

theorem keeps_walk (a b c : Int) (ak : Option Addr) (keep : List Int) (ck : Nat) (torn : Int) (w : World) (hg : ErrT w) (hkl : keep.length ≤ 9223372036854775807) (hin : IsIn w ak keep ck) :
    Calls Tryd.prog 3 #[.int .i64 a, .int .i64 b, .int .i64 c, .slice ak keep.length ck, .int .i64 torn] w fun e w' => e = .returned (.bool true) ∧ Below w.heap.size w w' := by
  by_cases h : 64 < (bysOf a).length ∨ 64 < (bysOf b).length ∨ 64 < (bysOf c).length
  · exact keeps_long a b c ak keep ck torn w h
  · exact keeps_short a b c ak keep ck torn w hg hkl hin (by omega) (by omega) (by omega)
end Go.Proofs.YtjfcldfmloeefaaDoor
