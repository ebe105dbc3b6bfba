/-
  The contracts of the writer's fail, within, small, amount, text, all.
-/
import Derived.Test.YtcmndenlnjefeaaDoorFr1
namespace Go.Proofs.YtcmndenlnjefeaaDoor
set_option linter.unusedVariables false
set_option linter.unusedSimpArgs false
set_option maxRecDepth 100000
open Go.RowKit Go.Lib

/-- The first of two that is not 0. -/
def fo (a b : Int) : Int := if a = 0 then b else a
theorem fo_zero (a : Int) : fo a 0 = a := by unfold fo; split <;> omega
theorem fo_eq_zero {a b : Int} : fo a b = 0 ↔ a = 0 ∧ b = 0 := by unfold fo; split <;> omega

theorem wfail_any (b : Nat) (bs : List UInt8) (err n : Int) (w : World) (h0 : n ≠ 0) (h : WrAt w b bs err) :
    Calls Tryd.prog 20 #[.pointer (some ⟨b, 0, none⟩), .int .i64 n] w fun e w' => e = .returned (.tuple #[]) ∧ WrAt w' b bs (fo err n) ∧ Below b w w' := by
  obtain ⟨v, x, r⟩ := h
  have c1 := x.c1
  have f1 := x.fz 1
  by_cases he : err = 0
  · subst he
    rw [enE_zero] at c1
    have e1 : fo 0 n = n := rfl
    have x4 := x.set1 (.iface 42 (.int .i64 n))
    have HW : Hid (WrAt (w.setCell ⟨b, 1, none⟩ (.iface 42 (.int .i64 n))) b bs n) := ⟨v, by rw [enE_ne h0]; exact x4, ByRow.setOther r (Nat.lt_succ_self b)⟩
    have B4 := (Below.refl b w).setCell (p := ⟨b, 1, none⟩) (Nat.le_refl b) (.iface 42 (.int .i64 n))
    rw [e1]
    clear x x4 r e1
    go_enter Tryd.func20, Tryd.ntmps20
    go_wp2
    go_end0
    exact ⟨rfl, HW.out, B4⟩
  · rw [enE_ne he] at c1
    have e1 : fo err n = err := if_neg he
    have HW : Hid (WrAt w b bs err) := ⟨v, x, r⟩
    rw [e1]
    clear x r e1
    go_enter Tryd.func20, Tryd.ntmps20
    go_wp2
    go_end0
    exact ⟨rfl, HW.out, Below.refl _ _⟩

/-- What is wrong with a number that has bounds. -/
def outB (lo hi n : Int) : Int := if lo ≤ n ∧ n ≤ hi then 0 else 1

theorem wwithin_any (b : Nat) (bs : List UInt8) (err n lo hi : Int) (w : World) (h1 : -9223372036854775808 ≤ n) (h2 : n ≤ 9223372036854775807) (hl : bs.length ≤ 1099511627776) (h : WrAt w b bs err) :
    Calls Tryd.prog 21 #[.pointer (some ⟨b, 0, none⟩), .int .i64 n, .int .i64 lo, .int .i64 hi] w fun e w' => e = .returned (.tuple #[]) ∧ WrAt w' b (bs ++ numB n) (fo err (outB lo hi n)) ∧ Below b w w' := by
  have HN : Hid (∀ err' W, WrAt W b bs err' → Below b w W → Calls Tryd.prog 14 #[.pointer (some ⟨b, 0, none⟩), .int .i64 n] W fun e w' => e = .returned (.tuple #[]) ∧ WrAt w' b (bs ++ numB n) err' ∧ Below b w w') := fun err' W hW hB => by
    refine (wnumber_any b bs err' n W h1 h2 hl hW).mono ?_
    rintro e w' ⟨rfl, q1, q2⟩
    exact ⟨rfl, q1, hB.trans q2⟩
  have HF : Hid (Calls _ _ _ _ _) := wfail_any b bs err 1 w (by decide) h
  have Hw : Hid (WrAt w b bs err) := h
  clear h
  by_cases ho : lo ≤ n ∧ n ≤ hi
  · have e1 : fo err (outB lo hi n) = err := by simp [outB, ho, fo_zero]
    obtain ⟨o1, o2⟩ := ho
    have o1' : ¬ n < lo := by omega
    have o2' : ¬ hi < n := by omega
    rw [e1]
    clear e1 HF
    go_enter Tryd.func21, Tryd.ntmps21
    go_wp2_with fail
    refine (HN.out err w Hw.out (Below.refl _ _)).mono ?_
    rintro e w1 ⟨rfl, q1, q2⟩
    have HQ : Hid (WrAt w1 b (bs ++ numB n) err) := q1
    clear q1 HN Hw
    go_wp2
    go_end0
    exact ⟨rfl, HQ.out, q2⟩
  · have e1 : outB lo hi n = 1 := by simp only [outB]; rw [if_neg ho]
    rw [e1]
    have ho' : n < lo ∨ (¬ n < lo ∧ hi < n) := by omega
    clear e1 ho
    rcases ho' with o1 | ⟨o1, o2⟩
    · go_enter Tryd.func21, Tryd.ntmps21
      go_wp2_with fail
      refine HF.out.mono ?_
      rintro e w0 ⟨rfl, p1, p2⟩
      have HN1 := HN.out _ _ p1 p2
      clear HF HN p1
      go_wp2_with fail
      refine HN1.mono ?_
      rintro e w1 ⟨rfl, q1, q2⟩
      have HQ : Hid (WrAt w1 b (bs ++ numB n) _) := q1
      clear q1 HN1 Hw
      go_wp2
      go_end0
      exact ⟨rfl, HQ.out, q2⟩
    · go_enter Tryd.func21, Tryd.ntmps21
      go_wp2_with fail
      refine HF.out.mono ?_
      rintro e w0 ⟨rfl, p1, p2⟩
      have HN1 := HN.out _ _ p1 p2
      clear HF HN p1
      go_wp2_with fail
      refine HN1.mono ?_
      rintro e w1 ⟨rfl, q1, q2⟩
      have HQ : Hid (WrAt w1 b (bs ++ numB n) _) := q1
      clear q1 HN1 Hw
      go_wp2
      go_end0
      exact ⟨rfl, HQ.out, q2⟩

theorem wsmall_any (b : Nat) (bs : List UInt8) (err n : Int) (w : World) (h1 : -9223372036854775808 ≤ n) (h2 : n ≤ 9223372036854775807) (hl : bs.length ≤ 1099511627776) (h : WrAt w b bs err) :
    Calls Tryd.prog 13 #[.pointer (some ⟨b, 0, none⟩), .int .i64 n] w fun e w' => e = .returned (.tuple #[]) ∧ WrAt w' b (bs ++ numB n) (fo err (outB 0 200 n)) ∧ Below b w w' := by
  have HW := wwithin_any b bs err n 0 200 w h1 h2 hl h
  clear h
  go_enter Tryd.func13, Tryd.ntmps13
  go_wp2_with fail
  refine HW.mono ?_
  rintro e w1 ⟨rfl, q1, q2⟩
  have HQ : Hid (WrAt w1 b _ _) := q1
  clear q1 HW
  go_wp2
  go_end0
  exact ⟨rfl, HQ.out, q2⟩
theorem wamount_any (b : Nat) (bs : List UInt8) (err n : Int) (w : World) (h1 : -9223372036854775808 ≤ n) (h2 : n ≤ 9223372036854775807) (hl : bs.length ≤ 1099511627776) (h : WrAt w b bs err) :
    Calls Tryd.prog 15 #[.pointer (some ⟨b, 0, none⟩), .int .i64 n] w fun e w' => e = .returned (.tuple #[]) ∧ WrAt w' b (bs ++ numB n) (fo err (outB (-mostA) mostA n)) ∧ Below b w w' := by
  have HW := wwithin_any b bs err n (-mostA) mostA w h1 h2 hl h
  clear h
  unfold mostA at *
  go_enter Tryd.func15, Tryd.ntmps15
  go_wp2_with fail
  refine HW.mono ?_
  rintro e w1 ⟨rfl, q1, q2⟩
  have HQ : Hid (WrAt w1 b _ _) := q1
  clear q1 HW
  go_wp2
  go_end0
  exact ⟨rfl, HQ.out, q2⟩

/-- What is wrong with a text. -/
def longB (s : ByteArray) : Int := if 24 < s.size then 4 else 0
/-- What is written of a text. -/
def txtW (s : ByteArray) : List UInt8 := if 24 < s.size then [] else textB s
theorem txtW_length (s : ByteArray) : (txtW s).length ≤ 34 := by
  unfold txtW
  split
  · simp
  · exact textB_length (by omega)

set_option maxHeartbeats 1000000 in
theorem wtext_any (b : Nat) (bs : List UInt8) (err : Int) (s : ByteArray) (w : World) (hl : bs.length ≤ 549755813888) (h : WrAt w b bs err) :
    Calls Tryd.prog 12 #[.pointer (some ⟨b, 0, none⟩), .string s] w fun e w' => e = .returned (.tuple #[]) ∧ WrAt w' b (bs ++ txtW s) (fo err (longB s)) ∧ Below b w w' := by
  by_cases hs : 24 < s.size
  · have hs' : (24 : Int) < s.size := by omega
    have HF : Hid (Calls _ _ _ _ _) := wfail_any b bs err 4 w (by decide) h
    have e1 : longB s = 4 := if_pos hs
    have e2 : bs ++ txtW s = bs := by simp [txtW, hs]
    rw [e1, e2]
    clear e1 e2 h
    go_enter Tryd.func12, Tryd.ntmps12
    go_wp2_with fail
    refine HF.out.mono ?_
    rintro e w1 ⟨rfl, q1, q2⟩
    have HQ : Hid (WrAt w1 b _ _) := q1
    clear q1 HF
    go_wp2
    refine bodyPost_ret (results_none rfl _ _ _) rfl ?_
    exact ⟨rfl, HQ.out, q2⟩
  · have hs' : ¬ (24 : Int) < s.size := by omega
    have HN : Hid (Calls _ _ _ _ _) := wnumber_any b bs err s.size w (by omega) (by omega) (by omega) h
    have e1 : fo err (longB s) = err := by simp [longB, hs, fo_zero]
    have e2 : bs ++ txtW s = (bs ++ numB s.size) ++ s.data.toList := by simp [txtW, hs, textB]
    have hb1 : (bs ++ numB s.size).length ≤ 549755813898 := by
      have := @numB_length s.size (by omega) (by omega)
      rw [List.length_append]; omega
    have Hm1 : Hid ((bs ++ numB s.size).length + s.size ≤ maxLen) := by unfold Hid maxLen; omega
    have Hm2 : Hid ((bs ++ numB s.size).length + s.size ≤ 140737488355328) := by unfold Hid; omega
    rw [e1, e2]
    generalize bs ++ numB s.size = cs at *
    clear e1 e2 h hb1
    obtain ⟨i0, hi, hz0, hz1, hz2⟩ := info_parts by_info
    go_enter Tryd.func12, Tryd.ntmps12
    go_wp2_with fail
    refine HN.out.mono ?_
    rintro e w1 ⟨rfl, ⟨v, x, r⟩, BW⟩
    have hxlt := x.lt
    have c0 := x.c0
    have hoj := r.own
    have Hx : Hid (WBox w1 b v (enE err)) := x
    have Hr : Hid (ByRow w1 (b + 1) v cs) := r
    clear HN x r
    go_wp2_with (at_builtin; refine wpList_append_own_string _ rfl _ _ 26 9 rfl (b + 1) 5 i0 Tryd.underlying26 Tryd.underlying9 hi hz0 hz1 hz2 _ _ _ rfl Hr.out s rfl Hm1.out Hm2.out (by omega) ?_)
    intro v' w3 hown hgrow _
    have x3 := Hx.out.grow hgrow (fun j e => by have := hoj j e; omega)
    have B3 : Below b w w3 := BW.grown hgrow (by omega) (fun j e => by have := hoj j e; omega)
    have d0 := x3.c0
    have f0 := x3.fz 0
    have x4 := x3.set0 v'
    have B4 := B3.setCell (p := ⟨b, 0, none⟩) (Nat.le_refl b) v'
    have R4 : ByRow (w3.setCell ⟨b, 0, none⟩ v') (b + 1) v' (cs ++ s.data.toList) := by
      refine ByRow.setOther ?_ (Nat.lt_succ_self b)
      unfold ByRow
      rw [byC_append, List.length_append, data_length]
      exact hown
    have HW4 : Hid (WrAt (w3.setCell ⟨b, 0, none⟩ v') b (cs ++ s.data.toList) err) := ⟨v', x4, R4⟩
    obtain ⟨a4, c4, e4, _⟩ := R4.isBy
    subst e4
    generalize (cs ++ s.data.toList).length = m4 at *
    clear hown hgrow Hx Hr R4 x4 x3 B3
    go_wp2
    go_end0
    exact ⟨rfl, HW4.out, B4⟩

theorem wall_bad (b : Nat) (bs : List UInt8) (err : Int) (w : World) (he : err ≠ 0) (h : WrAt w b bs err) :
    Calls Tryd.prog 16 #[.pointer (some ⟨b, 0, none⟩)] w fun e w' => e = .returned (.tuple #[.slice none 0 0, enE err]) ∧ Below w.heap.size w w' := by
  obtain ⟨v, x, r⟩ := h
  have c1 := x.c1
  rw [enE_ne he] at c1 ⊢
  clear x r
  go_enter Tryd.func16, Tryd.ntmps16
  go_wp2_with fail
  go_quiet (fail)
  go_wp2
  go_ret2
  exact ⟨rfl, en_drewN (Below.refl _ _) _⟩

theorem wall_ok (b : Nat) (bs : List UInt8) (w : World) (h : WrAt w b bs 0) :
    Calls Tryd.prog 16 #[.pointer (some ⟨b, 0, none⟩)] w fun e w' => ∃ v, e = .returned (.tuple #[v, .nilIface]) ∧ ByRow w' (b + 1) v bs ∧ Below w.heap.size w w' := by
  obtain ⟨v, x, r⟩ := h
  have c1 := x.c1
  rw [enE_zero] at c1
  have c0 := x.c0
  obtain ⟨a4, c4, e4, _⟩ := r.isBy
  subst e4
  have Hr : Hid (ByRow w (b + 1) (.slice a4 bs.length c4) bs) := r
  generalize bs.length = m4 at *
  clear x r
  go_enter Tryd.func16, Tryd.ntmps16
  go_wp2
  go_ret2
  exact ⟨_, rfl, Hr.out, Below.refl _ _⟩
end Go.Proofs.YtcmndenlnjefeaaDoor
