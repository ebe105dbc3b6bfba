/-
  The contract of keep's added.
-/
import Derived.Test.YtijjegkkeigeoaaZb15
import Derived.Test.YtijjegkkeigeoaaZb14
namespace Go.Proofs.Ytijjegkkeigeoaa
set_option linter.unusedVariables false
set_option linter.unusedSimpArgs false
set_option maxRecDepth 100000
open Go.RowKit Go.Lib

/-- The first of two that is not 0. -/
def fo (a b : Int) : Int := if a = 0 then b else a
theorem fo_zero (a : Int) : fo a 0 = a := by unfold fo; split <;> omega
theorem fo_eq_zero {a b : Int} : fo a b = 0 ↔ a = 0 ∧ b = 0 := by unfold fo; split <;> omega

theorem wfail_any (b : Nat) (bs : List UInt8) (err n : Int) (w : World) (h0 : n ≠ 0) (h : WrAt w b bs err) :
    Calls Try.prog 73 #[.pointer (some ⟨b, 0, none⟩), .int .i64 n] w fun e w' => e = .returned (.tuple #[]) ∧ WrAt w' b bs (fo err n) ∧ Below b w w' := by
  obtain ⟨v, x, r⟩ := h
  have c1 := x.c1
  have f1 := x.fz 1
  by_cases he : err = 0
  · subst he
    rw [enE_zero] at c1
    have e1 : fo 0 n = n := rfl
    have x4 := x.set1 (.iface 44 (.int .i64 n))
    have HW : Hid (WrAt (w.setCell ⟨b, 1, none⟩ (.iface 44 (.int .i64 n))) b bs n) := ⟨v, by rw [enE_ne h0]; exact x4, ByRow.setOther r (Nat.lt_succ_self b)⟩
    have B4 := (Below.refl b w).setCell (p := ⟨b, 1, none⟩) (Nat.le_refl b) (.iface 44 (.int .i64 n))
    rw [e1]
    clear x x4 r e1
    go_enter Try.func73, Try.ntmps73
    go_wp2
    go_end0
    exact ⟨rfl, HW.out, B4⟩
  · rw [enE_ne he] at c1
    have e1 : fo err n = err := if_neg he
    have HW : Hid (WrAt w b bs err) := ⟨v, x, r⟩
    rw [e1]
    clear x r e1
    go_enter Try.func73, Try.ntmps73
    go_wp2
    go_end0
    exact ⟨rfl, HW.out, Below.refl _ _⟩

/-- What is wrong with a number that has bounds. -/
def outB (lo hi n : Int) : Int := if lo ≤ n ∧ n ≤ hi then 0 else 1

theorem wwithin_any (b : Nat) (bs : List UInt8) (err n lo hi : Int) (w : World) (h1 : -9223372036854775808 ≤ n) (h2 : n ≤ 9223372036854775807) (hl : bs.length ≤ 1099511627776) (h : WrAt w b bs err) :
    Calls Try.prog 74 #[.pointer (some ⟨b, 0, none⟩), .int .i64 n, .int .i64 lo, .int .i64 hi] w fun e w' => e = .returned (.tuple #[]) ∧ WrAt w' b (bs ++ numB n) (fo err (outB lo hi n)) ∧ Below b w w' := by
  have HN : Hid (∀ err' W, WrAt W b bs err' → Below b w W → Calls Try.prog 59 #[.pointer (some ⟨b, 0, none⟩), .int .i64 n] W fun e w' => e = .returned (.tuple #[]) ∧ WrAt w' b (bs ++ numB n) err' ∧ Below b w w') := fun err' W hW hB => by
    refine (wnumber_any b bs err' n W h1 h2 hl hW).mono ?_
    rintro e w' ⟨rfl, q1, q2⟩
    exact ⟨rfl, q1, hB.trans q2⟩
  have HF : Hid (Calls _ _ _ _ _) := wfail_any b bs err 1 w (by decide) h
  have Hw : Hid (WrAt w b bs err) := h
  clear h
  by_cases ho : lo ≤ n ∧ n ≤ hi
  · have e1 : fo err (outB lo hi n) = err := by simp [outB, ho, fo_zero]
    obtain ⟨o1, o2⟩ := ho
    have o1' : ¬ n < lo := by omega
    have o2' : ¬ hi < n := by omega
    rw [e1]
    clear e1 HF
    go_enter Try.func74, Try.ntmps74
    go_wp2_with fail
    refine (HN.out err w Hw.out (Below.refl _ _)).mono ?_
    rintro e w1 ⟨rfl, q1, q2⟩
    have HQ : Hid (WrAt w1 b (bs ++ numB n) err) := q1
    clear q1 HN Hw
    go_wp2
    go_end0
    exact ⟨rfl, HQ.out, q2⟩
  · have e1 : outB lo hi n = 1 := by simp only [outB]; rw [if_neg ho]
    rw [e1]
    have ho' : n < lo ∨ (¬ n < lo ∧ hi < n) := by omega
    clear e1 ho
    rcases ho' with o1 | ⟨o1, o2⟩
    · go_enter Try.func74, Try.ntmps74
      go_wp2_with fail
      refine HF.out.mono ?_
      rintro e w0 ⟨rfl, p1, p2⟩
      have HN1 := HN.out _ _ p1 p2
      clear HF HN p1
      go_wp2_with fail
      refine HN1.mono ?_
      rintro e w1 ⟨rfl, q1, q2⟩
      have HQ : Hid (WrAt w1 b (bs ++ numB n) _) := q1
      clear q1 HN1 Hw
      go_wp2
      go_end0
      exact ⟨rfl, HQ.out, q2⟩
    · go_enter Try.func74, Try.ntmps74
      go_wp2_with fail
      refine HF.out.mono ?_
      rintro e w0 ⟨rfl, p1, p2⟩
      have HN1 := HN.out _ _ p1 p2
      clear HF HN p1
      go_wp2_with fail
      refine HN1.mono ?_
      rintro e w1 ⟨rfl, q1, q2⟩
      have HQ : Hid (WrAt w1 b (bs ++ numB n) _) := q1
      clear q1 HN1 Hw
      go_wp2
      go_end0
      exact ⟨rfl, HQ.out, q2⟩

theorem wsmall_any (b : Nat) (bs : List UInt8) (err n : Int) (w : World) (h1 : -9223372036854775808 ≤ n) (h2 : n ≤ 9223372036854775807) (hl : bs.length ≤ 1099511627776) (h : WrAt w b bs err) :
    Calls Try.prog 58 #[.pointer (some ⟨b, 0, none⟩), .int .i64 n] w fun e w' => e = .returned (.tuple #[]) ∧ WrAt w' b (bs ++ numB n) (fo err (outB 0 200 n)) ∧ Below b w w' := by
  have HW := wwithin_any b bs err n 0 200 w h1 h2 hl h
  clear h
  go_enter Try.func58, Try.ntmps58
  go_wp2_with fail
  refine HW.mono ?_
  rintro e w1 ⟨rfl, q1, q2⟩
  have HQ : Hid (WrAt w1 b _ _) := q1
  clear q1 HW
  go_wp2
  go_end0
  exact ⟨rfl, HQ.out, q2⟩
theorem wamount_any (b : Nat) (bs : List UInt8) (err n : Int) (w : World) (h1 : -9223372036854775808 ≤ n) (h2 : n ≤ 9223372036854775807) (hl : bs.length ≤ 1099511627776) (h : WrAt w b bs err) :
    Calls Try.prog 60 #[.pointer (some ⟨b, 0, none⟩), .int .i64 n] w fun e w' => e = .returned (.tuple #[]) ∧ WrAt w' b (bs ++ numB n) (fo err (outB (-mostA) mostA n)) ∧ Below b w w' := by
  have HW := wwithin_any b bs err n (-mostA) mostA w h1 h2 hl h
  clear h
  unfold mostA at *
  go_enter Try.func60, Try.ntmps60
  go_wp2_with fail
  refine HW.mono ?_
  rintro e w1 ⟨rfl, q1, q2⟩
  have HQ : Hid (WrAt w1 b _ _) := q1
  clear q1 HW
  go_wp2
  go_end0
  exact ⟨rfl, HQ.out, q2⟩

/-- What is wrong with a text. -/
def longB (s : ByteArray) : Int := if 24 < s.size then 4 else 0
/-- What is written of a text. -/
def txtW (s : ByteArray) : List UInt8 := if 24 < s.size then [] else textB s
theorem txtW_length (s : ByteArray) : (txtW s).length ≤ 34 := by
  unfold txtW
  split
  · simp
  · exact textB_length (by omega)

set_option maxHeartbeats 1000000 in
theorem wtext_any (b : Nat) (bs : List UInt8) (err : Int) (s : ByteArray) (w : World) (hl : bs.length ≤ 549755813888) (h : WrAt w b bs err) :
    Calls Try.prog 57 #[.pointer (some ⟨b, 0, none⟩), .string s] w fun e w' => e = .returned (.tuple #[]) ∧ WrAt w' b (bs ++ txtW s) (fo err (longB s)) ∧ Below b w w' := by
  by_cases hs : 24 < s.size
  · have hs' : (24 : Int) < s.size := by omega
    have HF : Hid (Calls _ _ _ _ _) := wfail_any b bs err 4 w (by decide) h
    have e1 : longB s = 4 := if_pos hs
    have e2 : bs ++ txtW s = bs := by simp [txtW, hs]
    rw [e1, e2]
    clear e1 e2 h
    go_enter Try.func57, Try.ntmps57
    go_wp2_with fail
    refine HF.out.mono ?_
    rintro e w1 ⟨rfl, q1, q2⟩
    have HQ : Hid (WrAt w1 b _ _) := q1
    clear q1 HF
    go_wp2
    refine bodyPost_ret (results_none rfl _ _ _) rfl ?_
    exact ⟨rfl, HQ.out, q2⟩
  · have hs' : ¬ (24 : Int) < s.size := by omega
    have HN : Hid (Calls _ _ _ _ _) := wnumber_any b bs err s.size w (by omega) (by omega) (by omega) h
    have e1 : fo err (longB s) = err := by simp [longB, hs, fo_zero]
    have e2 : bs ++ txtW s = (bs ++ numB s.size) ++ s.data.toList := by simp [txtW, hs, textB]
    have hb1 : (bs ++ numB s.size).length ≤ 549755813898 := by
      have := @numB_length s.size (by omega) (by omega)
      rw [List.length_append]; omega
    have Hm1 : Hid ((bs ++ numB s.size).length + s.size ≤ maxLen) := by unfold Hid maxLen; omega
    have Hm2 : Hid ((bs ++ numB s.size).length + s.size ≤ 140737488355328) := by unfold Hid; omega
    rw [e1, e2]
    generalize bs ++ numB s.size = cs at *
    clear e1 e2 h hb1
    obtain ⟨i0, hi, hz0, hz1, hz2⟩ := info_parts by_info
    go_enter Try.func57, Try.ntmps57
    go_wp2_with fail
    refine HN.out.mono ?_
    rintro e w1 ⟨rfl, ⟨v, x, r⟩, BW⟩
    have hxlt := x.lt
    have c0 := x.c0
    have hoj := r.own
    have Hx : Hid (WBox w1 b v (enE err)) := x
    have Hr : Hid (ByRow w1 (b + 1) v cs) := r
    clear HN x r
    go_wp2_with (at_builtin; refine wpList_append_own_string _ rfl _ _ 52 9 rfl (b + 1) 5 i0 Try.underlying52 Try.underlying9 hi hz0 hz1 hz2 _ _ _ rfl Hr.out s rfl Hm1.out Hm2.out (by omega) ?_)
    intro v' w3 hown hgrow _
    have x3 := Hx.out.grow hgrow (fun j e => by have := hoj j e; omega)
    have B3 : Below b w w3 := BW.grown hgrow (by omega) (fun j e => by have := hoj j e; omega)
    have d0 := x3.c0
    have f0 := x3.fz 0
    have x4 := x3.set0 v'
    have B4 := B3.setCell (p := ⟨b, 0, none⟩) (Nat.le_refl b) v'
    have R4 : ByRow (w3.setCell ⟨b, 0, none⟩ v') (b + 1) v' (cs ++ s.data.toList) := by
      refine ByRow.setOther ?_ (Nat.lt_succ_self b)
      unfold ByRow
      rw [byC_append, List.length_append, data_length]
      exact hown
    have HW4 : Hid (WrAt (w3.setCell ⟨b, 0, none⟩ v') b (cs ++ s.data.toList) err) := ⟨v', x4, R4⟩
    obtain ⟨a4, c4, e4, _⟩ := R4.isBy
    subst e4
    generalize (cs ++ s.data.toList).length = m4 at *
    clear hown hgrow Hx Hr R4 x4 x3 B3
    go_wp2
    go_end0
    exact ⟨rfl, HW4.out, B4⟩

theorem wall_bad (b : Nat) (bs : List UInt8) (err : Int) (w : World) (he : err ≠ 0) (h : WrAt w b bs err) :
    Calls Try.prog 61 #[.pointer (some ⟨b, 0, none⟩)] w fun e w' => e = .returned (.tuple #[.slice none 0 0, enE err]) ∧ Below w.heap.size w w' := by
  obtain ⟨v, x, r⟩ := h
  have c1 := x.c1
  rw [enE_ne he] at c1 ⊢
  clear x r
  go_enter Try.func61, Try.ntmps61
  go_wp2_with fail
  go_quiet (fail)
  go_wp2
  go_ret2
  exact ⟨rfl, en_drewN (Below.refl _ _) _⟩

theorem wall_ok (b : Nat) (bs : List UInt8) (w : World) (h : WrAt w b bs 0) :
    Calls Try.prog 61 #[.pointer (some ⟨b, 0, none⟩)] w fun e w' => ∃ v, e = .returned (.tuple #[v, .nilIface]) ∧ ByRow w' (b + 1) v bs ∧ Below w.heap.size w w' := by
  obtain ⟨v, x, r⟩ := h
  have c1 := x.c1
  rw [enE_zero] at c1
  have c0 := x.c0
  obtain ⟨a4, c4, e4, _⟩ := r.isBy
  subst e4
  have Hr : Hid (ByRow w (b + 1) (.slice a4 bs.length c4) bs) := r
  generalize bs.length = m4 at *
  clear x r
  go_enter Try.func61, Try.ntmps61
  go_wp2
  go_ret2
  exact ⟨_, rfl, Hr.out, Below.refl _ _⟩
end Go.Proofs.Ytijjegkkeigeoaa

namespace Go.Proofs.Ytijjegkkeigeoaa
set_option linter.unusedVariables false
set_option linter.unusedSimpArgs false
set_option maxRecDepth 100000
open Go.RowKit Go.Lib

def lnW (x : Ln) : List UInt8 := txtW x.acc ++ txtW x.cur ++ numB x.amt
def lnErr (err : Int) (x : Ln) : Int := fo (fo (fo err (longB x.acc)) (longB x.cur)) (outB (-mostA) mostA x.amt)
def lnsW (l : List Ln) : List UInt8 := l.flatMap lnW
def lnsErr (err : Int) (l : List Ln) : Int := l.foldl lnErr err
/-- A number of 64 bits. -/
def I64 (n : Int) : Prop := -9223372036854775808 ≤ n ∧ n ≤ 9223372036854775807
theorem lnW_length {x : Ln} (h : I64 x.amt) : (lnW x).length ≤ 78 := by
  have h1 := txtW_length x.acc
  have h2 := txtW_length x.cur
  have h3 := numB_length h.1 h.2
  simp only [lnW, List.length_append]
  omega
theorem lnsW_length : ∀ (l : List Ln), (∀ x ∈ l, I64 x.amt) → (lnsW l).length ≤ 78 * l.length
  | [], _ => by simp [lnsW]
  | x :: l, h => by
    have h1 := lnW_length (h x (List.mem_cons_self ..))
    have h2 := lnsW_length l (fun y hy => h y (List.mem_cons_of_mem _ hy))
    simp only [lnsW, List.flatMap_cons, List.length_append, List.length_cons] at h2 ⊢
    omega
theorem lnsW_snoc (l : List Ln) (x : Ln) : lnsW (l ++ [x]) = lnsW l ++ lnW x := by simp [lnsW]
theorem lnsErr_snoc (err : Int) (l : List Ln) (x : Ln) : lnsErr err (l ++ [x]) = lnErr (lnsErr err l) x := by simp [lnsErr]
/-- What is wrong with an entry that is to be written. -/
def headErr (e : En) : Int := fo (fo (longB e.ref) (outB 0 200 e.ent)) (outB 0 200 e.per)
def headW (e : En) : List UInt8 := txtW e.ref ++ numB e.ent ++ numB e.per ++ numB e.lns.length
def frBad (e : En) : Int := if 20 < e.lns.length then 4 else lnsErr (headErr e) e.lns
theorem lnErr_zero {err : Int} {x : Ln} : lnErr err x = 0 ↔ err = 0 ∧ LnFit x := by
  unfold lnErr LnFit
  rw [fo_eq_zero, fo_eq_zero, fo_eq_zero]
  unfold longB outB
  constructor
  · rintro ⟨⟨⟨h1, h2⟩, h3⟩, h4⟩
    refine ⟨h1, ?_, ?_, ?_⟩
    · split at h2 <;> omega
    · split at h3 <;> omega
    · split at h4
      · assumption
      · omega
  · rintro ⟨h1, h2, h3, h4⟩
    exact ⟨⟨⟨h1, if_neg (by omega)⟩, if_neg (by omega)⟩, if_pos h4⟩
theorem lnsErr_zero : ∀ (l : List Ln) (err : Int), lnsErr err l = 0 ↔ err = 0 ∧ ∀ x ∈ l, LnFit x
  | [], err => by simp [lnsErr]
  | x :: l, err => by
    have := lnsErr_zero l (lnErr err x)
    simp only [lnsErr, List.foldl_cons] at this ⊢
    rw [this, lnErr_zero]
    simp [and_assoc]
theorem frBad_zero {e : En} : frBad e = 0 ↔ EnFit e := by
  unfold frBad EnFit
  by_cases h : 20 < e.lns.length
  · rw [if_pos h]
    constructor
    · omega
    · intro ⟨_, _, _, h4, _⟩; omega
  · rw [if_neg h, lnsErr_zero]
    unfold headErr
    rw [fo_eq_zero, fo_eq_zero]
    unfold longB outB
    constructor
    · rintro ⟨⟨⟨h1, h2⟩, h3⟩, h4⟩
      refine ⟨?_, ?_, ?_, by omega, h4⟩
      · split at h1 <;> omega
      · split at h2
        · assumption
        · omega
      · split at h3
        · assumption
        · omega
    · rintro ⟨h1, h2, h3, _, h4⟩
      exact ⟨⟨⟨if_neg (by omega), if_pos h2⟩, if_pos h3⟩, h4⟩
theorem txtW_fit {s : ByteArray} (h : s.size ≤ 24) : txtW s = textB s := if_neg (by omega)
theorem lnsW_fit : ∀ (l : List Ln), (∀ x ∈ l, LnFit x) → lnsW l = linesB l
  | [], _ => rfl
  | x :: l, h => by
    have h1 := h x (List.mem_cons_self ..)
    have h2 := lnsW_fit l (fun y hy => h y (List.mem_cons_of_mem _ hy))
    simp only [lnsW, linesB, List.flatMap_cons] at h2 ⊢
    rw [h2]
    simp only [lnW, lineB, txtW_fit h1.1, txtW_fit h1.2.1]
theorem entW_fit {e : En} (h : EnFit e) : headW e ++ lnsW e.lns = entB e := by
  obtain ⟨h1, h2, h3, h4, h5⟩ := h
  rw [lnsW_fit _ h5]
  simp only [headW, entB, txtW_fit h1]

set_option maxHeartbeats 4000000 in
theorem fEntry_any (r : ByteArray) (en pe : Int) (a : Option Addr) (cap : Nat) (l : List Ln) (w : World) (hen : I64 en) (hpe : I64 pe) (hwf : ∀ x ∈ l, I64 x.amt) (h : IsLn w a l cap) :
    Calls Try.prog 39 #[.agg #[.string r, .int .i64 en, .int .i64 pe, .slice a l.length cap]] w fun e w' =>
      ((frBad ⟨r, en, pe, l⟩ ≠ 0 ∧ e = .returned (.tuple #[.slice none 0 0, enE (frBad ⟨r, en, pe, l⟩)])) ∨ (frBad ⟨r, en, pe, l⟩ = 0 ∧ ∃ v, e = .returned (.tuple #[v, .nilIface]) ∧ ByRow w' w.heap.size v (entB ⟨r, en, pe, l⟩))) ∧ Below w.heap.size w w' := by
  obtain ⟨W0, hW0⟩ : ∃ W0, w.alloc (.cells #[.string r, .int .i64 en, .int .i64 pe, .slice a l.length cap] 32) = W0 := ⟨_, rfl⟩
  have b0 : Below w.heap.size w W0 := by rw [← hW0]; exact (Below.refl _ w).alloc (Nat.le_refl _) _
  have x0 := Box4.new w r en pe (.slice a l.length cap)
  have hs0 : W0.heap.size = w.heap.size + 1 := by rw [← hW0]; simp
  rw [hW0] at x0
  by_cases h1 : 20 < l.length
  · have h1' : (20 : Int) < l.length := by omega
    have e1 : frBad ⟨r, en, pe, l⟩ = 4 := if_pos h1
    rw [e1]
    have c3 := x0.c3
    clear e1 h
    go_enter Try.func39, Try.ntmps39
    go_wp2
    go_ret2
    exact ⟨.inl ⟨by decide, rfl⟩, b0⟩
  have h1' : ¬ (20 : Int) < l.length := by omega
  have HA : Hid (IsLn w a l cap) := h
  have Hwf : Hid (∀ x ∈ l, I64 x.amt) := hwf
  obtain ⟨W1, hW1⟩ : ∃ W1, W0.alloc (.cells #[.slice none 0 0, .nilIface] 112) = W1 := ⟨_, rfl⟩
  have y0 : WrAt W1 (w.heap.size + 1) [] 0 := by rw [← hW1, ← hs0]; exact ⟨_, WBox.new _ _ _, ByRow.nil _ _⟩
  have B0 : Below (w.heap.size + 1) W0 W1 := by rw [← hW1, ← hs0]; exact (Below.refl _ _).alloc (Nat.le_refl _) _
  have z0 := x0.below B0 (Nat.lt_succ_self _)
  have d0 := z0.c0
  have hT := wtext_any (w.heap.size + 1) [] 0 r W1 (by simp) y0
  have c3 := x0.c3
  have hr34 := txtW_length r
  have hn1 := numB_length hen.1 hen.2
  have hn2 := numB_length hpe.1 hpe.2
  have hn3 := @numB_length l.length (by omega) (by omega)
  have HT : Hid (Calls _ _ _ _ _) := hT
  have HB0 : Hid (Below (w.heap.size + 1) W0 W1) := B0
  have Hz0 : Hid (Box4 W1 _ _ _ _ _) := z0
  clear h hwf hT B0 z0 y0 x0
  go_enter Try.func39, Try.ntmps39
  go_wp2_with fail
  refine HT.out.mono ?_
  rintro e w1 ⟨rfl, y1, B1⟩
  have y1 : WrAt w1 (w.heap.size + 1) (txtW r) (longB r) := y1
  have z1 := Hz0.out.below B1 (Nat.lt_succ_self _)
  have HB1 : Hid (Below (w.heap.size + 1) W0 w1) := HB0.out.trans B1
  have hS := wsmall_any (w.heap.size + 1) (txtW r) (longB r) en w1 hen.1 hen.2 (by omega) y1
  have HS : Hid (Calls _ _ _ _ _) := hS
  have Hz1 : Hid (Box4 w1 _ _ _ _ _) := z1
  clear d0 c3 hW0 hW1 HT HB0 Hz0 hS y1 B1
  have d1 := z1.c1
  clear z1
  go_wp2_with fail
  refine HS.out.mono ?_
  rintro e w2 ⟨rfl, y2, B2⟩
  have z2 := Hz1.out.below B2 (Nat.lt_succ_self _)
  have HB2 : Hid (Below (w.heap.size + 1) W0 w2) := HB1.out.trans B2
  have hS := wsmall_any (w.heap.size + 1) _ _ pe w2 hpe.1 hpe.2 (by rw [List.length_append]; omega) y2
  have HS : Hid (Calls _ _ _ _ _) := hS
  have Hz2 : Hid (Box4 w2 _ _ _ _ _) := z2
  clear d1 HB1 Hz1 hS y2 B2
  have d2 := z2.c2
  clear z2
  go_wp2_with fail
  refine HS.out.mono ?_
  rintro e w3 ⟨rfl, y3, B3⟩
  have z3 := Hz2.out.below B3 (Nat.lt_succ_self _)
  have HB3 : Hid (Below (w.heap.size + 1) W0 w3) := HB2.out.trans B3
  have hS := wnumber_any (w.heap.size + 1) _ _ l.length w3 (by omega) (by omega) (by rw [List.length_append, List.length_append]; omega) y3
  have HS : Hid (Calls _ _ _ _ _) := hS
  have Hz3 : Hid (Box4 w3 _ _ _ _ _) := z3
  clear d2 HB2 Hz2 hS y3 B3
  have d3 := z3.c3
  clear z3
  go_wp2_with fail
  refine HS.out.mono ?_
  rintro e w4 ⟨rfl, y4, B4⟩
  have y4 : WrAt w4 (w.heap.size + 1) (headW ⟨r, en, pe, l⟩) (headErr ⟨r, en, pe, l⟩) := y4
  have z4 := Hz3.out.below B4 (Nat.lt_succ_self _)
  have HB4 : Hid (Below (w.heap.size + 1) W0 w4) := HB3.out.trans B4
  have hh : (headW ⟨r, en, pe, l⟩).length ≤ 64 := by simp only [headW, List.length_append]; omega
  have Hz4 : Hid (Box4 w4 _ _ _ _ _) := z4
  have Hy4 : Hid (WrAt w4 _ _ _) := y4
  have Hen : Hid (frBad ⟨r, en, pe, l⟩ = lnsErr (headErr ⟨r, en, pe, l⟩) l) := if_neg h1
  have HeW : Hid (EnFit ⟨r, en, pe, l⟩ → headW ⟨r, en, pe, l⟩ ++ lnsW l = entB ⟨r, en, pe, l⟩) := fun hf => entW_fit hf
  generalize headW ⟨r, en, pe, l⟩ = hd at *
  generalize headErr ⟨r, en, pe, l⟩ = he at *
  clear d3 HB3 Hz3 y4 B4 hr34 hn1 hn2 hn3 HS
  have d3 := z4.c3
  clear z4
  go_wp2
  go_loopw [5, 27] (fun _ i wr => ∃ k : Nat, k ≤ l.length ∧ i = .int .i64 k ∧ Hid (WrAt wr (w.heap.size + 1) (hd ++ lnsW (l.take k)) (lnsErr he (l.take k))) ∧ Below (w.heap.size + 1) w4 wr) (fun _ i _ => l.length - (RowKit.intOf i).toNat)
  case atStart => exact ⟨0, Nat.zero_le _, rfl, by unfold Hid; simpa [lnsW, lnsErr] using Hy4.out, Below.refl _ _⟩
  case round =>
    obtain ⟨k, hk, rfl, R, BW⟩ := hrel
    have zk := Hz4.out.below BW (Nat.lt_succ_self _)
    have e3 := zk.c3
    have Bw : Below w.heap.size w wr := (b0.trans (HB4.out.mono (Nat.le_succ _))).trans (BW.mono (Nat.le_succ _))
    by_cases hlt : k < l.length
    · rcases HA.out.lies with h0 | ⟨gb, go, rfl, hgb, hgc⟩
      · rw [h0] at hlt; simp at hlt
      have hn := (hgc k hlt).below Bw hgb
      have hst : hd ++ lnsW (l.take (k + 1)) = hd ++ lnsW (l.take k) ++ lnW (l.getD k ln0) := by rw [lns_take l k hlt, lnsW_snoc, List.append_assoc]
      have hse : lnsErr he (l.take (k + 1)) = lnErr (lnsErr he (l.take k)) (l.getD k ln0) := by rw [lns_take l k hlt, lnsErr_snoc]
      have hxw := Hwf.out _ (lns_mem l k hlt)
      have hbl : (hd ++ lnsW (l.take k)).length ≤ 1624 := by
        have := lnsW_length (l.take k) (fun y hy => Hwf.out y (List.mem_of_mem_take hy))
        rw [List.length_take] at this
        rw [List.length_append]
        omega
      generalize l.getD k ln0 = x at *
      generalize hd ++ lnsW (l.take k) = bk at *
      generalize lnsErr he (l.take k) = ek at *
      have Hst : Hid (_ = _) := hst
      have Hse : Hid (_ = _) := hse
      have Hn : Hid (LnAt wr gb (go + k * 3) x) := hn
      clear hst hse hgc
      obtain ⟨x0, x1, x2⟩ := x
      obtain ⟨c0, c1, c2⟩ := hn
      simp only at c0 c1 c2 hxw
      have j0 : (0 : Int) ≤ k := by omega
      have j1 : (k : Int) < l.length := by omega
      have t34a := txtW_length x0
      have t34b := txtW_length x1
      have HT1 : Hid (Calls _ _ _ _ _) := wtext_any (w.heap.size + 1) bk ek x0 wr (by omega) R.out
      have Hzk : Hid (Box4 wr _ _ _ _ _) := zk
      have hgb1 : gb < w.heap.size + 1 := by omega
      clear R zk c1 c2 d3
      go_wp2_with fail
      refine HT1.out.mono ?_
      rintro e u1 ⟨rfl, y1, B1⟩
      have z1 := Hzk.out.below B1 (Nat.lt_succ_self _)
      have n1 := Hn.out.below B1 hgb1
      have HT2 : Hid (Calls _ _ _ _ _) := wtext_any (w.heap.size + 1) _ _ x1 u1 (by rw [List.length_append]; omega) y1
      have Hz1 : Hid (Box4 u1 _ _ _ _ _) := z1
      have Hn1 : Hid (LnAt u1 _ _ _) := n1
      have HB1 : Hid (Below (w.heap.size + 1) wr u1) := B1
      clear c0 e3 HT1 Hzk Hn y1 B1
      have e3 := z1.c3
      have c1 := n1.c1
      simp only at c1
      clear z1 n1
      go_wp2_with fail
      refine HT2.out.mono ?_
      rintro e u2 ⟨rfl, y2, B2⟩
      have z2 := Hz1.out.below B2 (Nat.lt_succ_self _)
      have n2 := Hn1.out.below B2 hgb1
      have HT3 : Hid (Calls _ _ _ _ _) := wamount_any (w.heap.size + 1) _ _ x2 u2 hxw.1 hxw.2 (by rw [List.length_append, List.length_append]; omega) y2
      have HB2 : Hid (Below (w.heap.size + 1) wr u2) := HB1.out.trans B2
      clear c1 e3 HT2 Hz1 Hn1 y2 B2 HB1
      have e3 := z2.c3
      have c2 := n2.c2
      simp only at c2
      clear z2 n2
      go_wp2_with fail
      refine HT3.out.mono ?_
      rintro e u3 ⟨rfl, y3, B3⟩
      have HY : Hid (WrAt u3 (w.heap.size + 1) (hd ++ lnsW (l.take (k + 1))) (lnsErr he (l.take (k + 1)))) := by
        unfold Hid
        rw [Hst.out, Hse.out]
        have : lnW ⟨x0, x1, x2⟩ = txtW x0 ++ (txtW x1 ++ numB x2) := by simp [lnW]
        rw [this, ← List.append_assoc, ← List.append_assoc]
        exact y3
      have BN := BW.trans (HB2.out.trans B3)
      clear c2 e3 HT3 y3 B3 HB2 Hst Hse
      go_wp2
      go_roundw
      case rel => exact ⟨k + 1, by omega, by go_num, HY, BN⟩
      case measure => simp [RowKit.intOf]; omega
    · have hk2 : k = l.length := by omega
      subst hk2
      have R1 := R.out
      rw [List.take_length] at R1
      obtain ⟨bad, hbad⟩ : ∃ bad, lnsErr he l = bad := ⟨_, rfl⟩
      rw [hbad] at R1 Hen
      have hb := Hen.out
      by_cases h0 : bad = 0
      · subst h0
        have HWA : Hid (Calls _ _ _ _ _) := wall_ok (w.heap.size + 1) _ wr R1
        have hW := HeW.out (frBad_zero.1 hb)
        rw [hW] at HWA
        clear R R1 hbad hb e3 zk hW
        go_wp2_with fail
        refine HWA.out.mono ?_
        rintro e u ⟨v, rfl, rr, bu⟩
        obtain ⟨a4, c4, rfl, _⟩ := rr.isBy
        have HR : Hid (ByRow u _ _ _) := rr
        generalize (entB ⟨r, en, pe, l⟩).length = m4 at *
        clear HWA rr
        go_wp2
        go_ret2
        exact ⟨.inr ⟨Hen.out, _, rfl, ByRow.mono (n := w.heap.size + 1 + 1) (m := w.heap.size) HR.out (by omega)⟩, Bw.trans (bu.mono Bw.size)⟩
      · have HWA : Hid (Calls _ _ _ _ _) := wall_bad (w.heap.size + 1) _ bad wr h0 R1
        rw [enE_ne h0] at HWA
        clear R R1 hbad hb e3 zk HeW
        go_wp2_with fail
        refine HWA.out.mono ?_
        rintro e u ⟨rfl, bu⟩
        clear HWA
        go_wp2
        go_ret2
        exact ⟨.inl ⟨by rw [Hen.out]; exact h0, by rw [Hen.out, enE_ne h0]; rfl⟩, Bw.trans (bu.mono Bw.size)⟩
end Go.Proofs.Ytijjegkkeigeoaa

namespace Go.Proofs.Ytijjegkkeigeoaa
set_option linter.unusedVariables false
set_option linter.unusedSimpArgs false
set_option maxRecDepth 100000
set_option maxHeartbeats 4000000
open Go.RowKit Go.Lib
/-- The first error of entries, one by one, beside the records that are kept. -/
def adL : List (List UInt8) → List En → Int
  | _, [] => 0
  | old, e :: es => if frBad e ≠ 0 then frBad e else if 200 < (entB e).length then 4 else match old with
    | [] => adL [] es
    | o :: os => if entB e = o then adL os es else 5
/-- What they take. -/
def costL (es : List En) : Nat := (es.map fun e => (entB e).length + 2).sum
/-- The error of entries. -/
def adE (room : Nat) (old : List (List UInt8)) (E : List En) : Int := if E.length < old.length then 5 else if adL old E ≠ 0 then adL old E else if (room : Int) < (costL (E.drop old.length) : Int) then 4 else 0
theorem costL_snoc (es : List En) (e : En) : costL (es ++ [e]) = costL es + ((entB e).length + 2) := by simp [costL]
theorem costL_len : ∀ es : List En, 2 * es.length ≤ costL es
  | [] => Nat.le_refl _
  | e :: es => by
    have := costL_len es
    unfold costL at *
    simp only [List.map_cons, List.sum_cons, List.length_cons]
    omega
theorem costL_most : ∀ es : List En, (∀ e ∈ es, (entB e).length ≤ 200) → costL es ≤ 202 * es.length
  | [], _ => Nat.le_refl _
  | e :: es, h => by
    have h1 := costL_most es (fun x hx => h x (by simp [hx]))
    have h2 := h e (by simp)
    unfold costL at *
    simp only [List.map_cons, List.sum_cons, List.length_cons]
    omega
theorem en_drop (E : List En) (k : Nat) (h : k < E.length) (d : En) : E.drop k = E.getD k d :: E.drop (k + 1) := by
  rw [List.drop_eq_getElem_cons h, List.getD_eq_getElem?_getD, List.getElem?_eq_getElem h]
  rfl
/-- So far, entries that are new. -/
def newE (old k : Nat) (E : List En) : List En := (E.take k).drop old
theorem newE_next {old k : Nat} {E : List En} (h : k < E.length) (ho : old ≤ k) (d : En) : newE old (k + 1) E = newE old k E ++ [E.getD k d] := by
  unfold newE
  rw [List.take_add_one, List.getElem?_eq_getElem h, List.drop_append_of_le_length (by rw [List.length_take]; omega), List.getD_eq_getElem?_getD, List.getElem?_eq_getElem h]
  rfl
theorem newE_none {old k : Nat} {E : List En} (ho : k ≤ old) : newE old k E = [] := by
  unfold newE
  exact List.drop_eq_nil_of_le (by rw [List.length_take]; omega)
theorem newE_len (old k : Nat) (E : List En) (h : k ≤ E.length) : (newE old k E).length = k - old := by
  unfold newE
  rw [List.length_drop, List.length_take]
  omega
section
variable {w W U : World} {p nb sb : Nat} {cv : Value} {n : Nat} {D : Dk} {lb : Nat} {tv wv : Value} {s : Ls} {wh : List Nat} {rs rsm : List (List UInt8)} {L S : Nat}
def en0 : En := ⟨ByteArray.empty, 0, 0, []⟩
theorem getD_en (Js : List Je) (k : Nat) (h : k < Js.length) : (Js.map Je.en).getD k en0 = (Js.getD k je0).en := by
  rw [List.getD_eq_getElem?_getD, List.getElem?_map, List.getElem?_eq_getElem h, List.getD_eq_getElem?_getD, List.getElem?_eq_getElem h]
  rfl
/-- A step of added. -/
theorem adL_step {old : List (List UInt8)} {E : List En} {k : Nat} (h : k < E.length) (hs : adL old E = adL (old.drop k) (E.drop k)) :
    (frBad (E.getD k en0) ≠ 0 → adL old E = frBad (E.getD k en0)) ∧ (frBad (E.getD k en0) = 0 → 200 < (entB (E.getD k en0)).length → adL old E = 4) ∧
    (frBad (E.getD k en0) = 0 → ¬ 200 < (entB (E.getD k en0)).length → (old.length ≤ k → adL old E = adL (old.drop (k + 1)) (E.drop (k + 1))) ∧
      (k < old.length → (entB (E.getD k en0) = old.getD k [] → adL old E = adL (old.drop (k + 1)) (E.drop (k + 1))) ∧ (entB (E.getD k en0) ≠ old.getD k [] → adL old E = 5))) := by
  rw [en_drop E k h en0] at hs
  generalize E.getD k en0 = e at *
  refine ⟨fun h1 => ?_, fun h1 h2 => ?_, fun h1 h2 => ⟨fun h3 => ?_, fun h3 => ?_⟩⟩
  · rw [hs]; unfold adL; rw [if_pos h1]
  · rw [hs]; unfold adL; rw [if_neg (by omega), if_pos h2]
  · rw [hs, List.drop_eq_nil_of_le h3, List.drop_eq_nil_of_le (by omega : old.length ≤ k + 1)]
    conv => lhs; unfold adL
    rw [if_neg (by omega), if_neg h2]
  · have ho : old.drop k = old.getD k [] :: old.drop (k + 1) := by
      rw [List.drop_eq_getElem_cons h3, List.getD_eq_getElem?_getD, List.getElem?_eq_getElem h3]
      rfl
    rw [ho] at hs
    refine ⟨fun h4 => ?_, fun h4 => ?_⟩
    · rw [hs]
      conv => lhs; unfold adL
      rw [if_neg (by omega), if_neg h2]
      simp only
      rw [if_pos h4]
    · rw [hs]
      unfold adL
      rw [if_neg (by omega), if_neg h2]
      simp only
      rw [if_neg h4]
theorem frBad_big {e : En} (h : frBad e = 0) : (entB e).length ≤ 1634 := by
  have hf := frBad_zero.1 h
  have h0 := entW_fit hf
  obtain ⟨h1, h2, h3, h4, h5⟩ := hf
  rw [← h0]
  have i1 : ∀ x ∈ e.lns, I64 x.amt := fun x hx => by
    have := (h5 x hx).2.2
    unfold mostA at this
    exact ⟨by omega, by omega⟩
  have j1 := lnsW_length e.lns i1
  have j2 := txtW_length e.ref
  have j3 := @numB_length e.ent (by omega) (by omega)
  have j4 := @numB_length e.per (by omega) (by omega)
  have j5 := @numB_length e.lns.length (by omega) (by omega)
  simp only [headW, List.length_append]
  omega
/-- What added has at a round's head. -/
structure AdAt (W wr : World) (v : Value) (rv : Int) (old : List (List UInt8)) (E : List En) (room k : Nat) : Prop where
  bel : Below W.heap.size W wr
  rm : rv = (room : Int) - (costL (newE old.length k E) : Int)
  ad : adL old E = adL (old.drop k) (E.drop k)
  rows : ∃ rl, RsRow wr W.heap.size v rl ∧ rl.length ≤ 20000 ∧ (0 ≤ rv → rl = (newE old.length k E).map entB)
  cst : costL (newE old.length k E) ≤ 202 * k
theorem adE_bad {room : Nat} {old : List (List UInt8)} {E : List En} {c : Int} (h : old.length ≤ E.length) (hc : adL old E = c) (h0 : c ≠ 0) : adE room old E = c := by
  unfold adE
  rw [if_neg (by omega), hc, if_pos h0]
theorem RsRow.low {W : World} {n n' : Nat} {v : Value} {rl : List (List UInt8)} (h : RsRow W n v rl) (hn : n' ≤ n) : RsRow W n' v rl := by
  obtain ⟨vs, h1, h2, h3⟩ := h
  refine ⟨vs, h1, ?_, fun k hk => byRow_low (h3 k hk) hn⟩
  rcases h2.2 with ⟨e1, e2⟩ | ⟨g, c, cur, e1, hg, r⟩
  · exact ⟨h2.1, .inl ⟨e1, e2⟩⟩
  · exact ⟨h2.1, .inr ⟨g, c, cur, e1, by omega, r⟩⟩
theorem kadd_any (h : KpW w W p nb sb cv n D lb tv wv s wh rs rsm L S) (a : Option Addr) (c : Nat) (Js : List Je) (hJ : IsJs W a Js c) (h64 : ∀ x ∈ Js, I64 x.ent ∧ I64 x.per ∧ ∀ y ∈ x.lns, I64 y.amt) (hlen : Js.length ≤ 35184372088832) :
    Calls Try.prog 19 #[.pointer (some ⟨lb, 0, none⟩), .slice a Js.length c] W fun e w' => ((adE ((n - 1 - 2) * 60 - (enc rs).length) rs (Js.map Je.en) ≠ 0 ∧ e = .returned (.tuple #[.slice none 0 0, enE (adE ((n - 1 - 2) * 60 - (enc rs).length) rs (Js.map Je.en))])) ∨ (adE ((n - 1 - 2) * 60 - (enc rs).length) rs (Js.map Je.en) = 0 ∧ ∃ a' m c', e = .returned (.tuple #[.slice a' m c', .nilIface]) ∧ Hid (RsRow w' W.heap.size (.slice a' m c') (((Js.map Je.en).drop rs.length).map entB)))) ∧ Hid (Below W.heap.size W w') := by
  obtain ⟨hcn, hok, hro⟩ := h.nums
  have hn1 := h.n1
  have hn2 := h.n2
  have hrl := enc_len_ge rs
  have HAll : Hid (∀ V, Below W.heap.size W V → Calls Try.prog 23 #[.pointer (some ⟨lb, 0, none⟩)] V fun e w' => ∃ a' c', e = .returned (.slice a' rs.length c') ∧ Hid (RsRow w' V.heap.size (.slice a' rs.length c') rs) ∧ Hid (Below V.heap.size V w')) := fun V hV => all_any (h.A.below hV) hok (by omega) (by omega)
  have HRoom : Hid (∀ V, Below W.heap.size W V → Calls Try.prog 38 #[.pointer (some ⟨lb, 0, none⟩)] V fun e w' => e = .returned (.int .i64 (((n - 1 - 2) * 60 - (enc rs).length : Nat) : Int)) ∧ Below V.heap.size V w') := fun V hV => room_any (h.A.below hV) (by omega) hro
  obtain ⟨room, hroom⟩ : ∃ room, (n - 1 - 2) * 60 - (enc rs).length = room := ⟨_, rfl⟩
  have hr12 : room ≤ 11880 := by omega
  rw [hroom] at HRoom ⊢
  have HJ : Hid (IsJs W a Js c ∧ ∀ x ∈ Js, I64 x.ent ∧ I64 x.per ∧ ∀ y ∈ x.lns, I64 y.amt) := ⟨hJ, h64⟩
  obtain ⟨E, hE⟩ : ∃ E, Js.map Je.en = E := ⟨_, rfl⟩
  have hEl : E.length = Js.length := by rw [← hE, List.length_map]
  have HE : Hid (∀ k, k < Js.length → E.getD k en0 = (Js.getD k je0).en) := fun k hk => by rw [← hE]; exact getD_en Js k hk
  have HEl : Hid (E.length = Js.length ∧ rs.length ≤ 12000) := ⟨hEl, by omega⟩
  rw [hE]
  obtain ⟨res, hres⟩ : ∃ res, adE room rs E = res := ⟨_, rfl⟩
  have Hres : Hid (adE room rs E = res) := hres
  rw [hres]
  have hrs : (rs.length : Int) ≤ 12000 := by omega
  have hjl : (Js.length : Int) ≤ 35184372088832 := by omega
  have j0 : (0 : Int) ≤ Js.length := by omega
  have hrm : (room : Int) ≤ 11880 := by omega
  have rm0 : (0 : Int) ≤ room := by omega
  have hJc : Js.length ≤ c := hJ.cap
  obtain ⟨qi, hq, hz0, hz1, hz2⟩ := sl_info
  have HA1 : Hid (Calls _ _ _ W _) := HAll.out W (Below.refl _ _)
  clear h hJ h64 hcn hok hro hrl hroom hE hEl hres HAll
  go_enter Try.func19, Try.ntmps19
  go_wp2_with fail
  refine HA1.out.mono ?_
  rintro e w1 ⟨a1, c1, rfl, hr1, hb1⟩
  have HR1 : Hid (Calls _ _ _ w1 _) := HRoom.out w1 hb1.out
  have HO1 : Hid (RsRow w1 W.heap.size (.slice a1 rs.length c1) rs ∧ Below W.heap.size W w1) := ⟨hr1.out, hb1.out⟩
  clear HA1 HRoom hr1 hb1
  go_wp2_with fail
  refine HR1.out.mono ?_
  rintro e w2 ⟨rfl, b2⟩
  have HO2 : Hid (RsRow w2 W.heap.size (.slice a1 rs.length c1) rs ∧ Below W.heap.size W w2) := ⟨HO1.out.1.below b2, HO1.out.2.trans (b2.mono HO1.out.2.size)⟩
  clear HR1 HO1 b2
  by_cases hlt : Js.length < rs.length
  · have hlt' : (Js.length : Int) < (rs.length : Int) := by omega
    have er : Hid (res = 5) := by
      unfold Hid
      rw [← Hres.out]
      unfold adE
      rw [if_pos (by rw [HEl.out.1]; exact hlt)]
    clear Hres HE HEl HJ hlt
    go_wp2
    go_ret2
    refine ⟨.inl ⟨by rw [er.out]; decide, ?_⟩, HO2.out.2⟩
    rw [er.out, enE_ne (by decide)]
    rfl
  · have hlt' : ¬ (Js.length : Int) < (rs.length : Int) := by omega
    have HLt : Hid (rs.length ≤ Js.length) := by unfold Hid; omega
    go_wp2_with fail
    have HJ2 : Hid (IsJs w2 a Js c ∧ ∀ x ∈ Js, I64 x.ent ∧ I64 x.per ∧ ∀ y ∈ x.lns, I64 y.amt) := ⟨HJ.out.1.below HO2.out.2, HJ.out.2⟩
    clear HJ
    clear hlt
    clear hlt'
    go_loopw [4, 7, 23] (fun v rv i wr => ∃ (k : Nat) (r : Int) (va : Option Addr) (m vc : Nat), k ≤ Js.length ∧ i = .int .i64 (k : Int) ∧ rv = .int .i64 r ∧ v = .slice va m vc ∧ Hid (AdAt w2 wr (.slice va m vc) r rs E room k)) (fun _ _ i _ => Js.length - (RowKit.intOf i).toNat)
    case atStart =>
      refine ⟨0, (room : Int), none, 0, 0, Nat.zero_le _, rfl, rfl, rfl, ⟨Below.refl _ _, ?_, rfl, ⟨[], ?_, by simp, fun _ => ?_⟩, ?_⟩⟩
      · rw [newE_none (Nat.zero_le _)]; simp [costL]
      · exact ⟨[], rfl, World.ownsRow_nil _ _ _ _, fun k hk => absurd hk (by simp)⟩
      · rw [newE_none (Nat.zero_le _)]; rfl
      · rw [newE_none (Nat.zero_le _)]; simp [costL]
    case round =>
      obtain ⟨k, r, va, m, vc, hk, rfl, rfl, rfl, H⟩ := hrel
      have k0 : (0 : Int) ≤ k := by omega
      by_cases hkl : k < Js.length
      · have klt : (k : Int) < (Js.length : Int) := by omega
        rcases HJ2.out.1.lies with e | ⟨b, off, rfl, hb, hc⟩
        · rw [e] at hkl; simp at hkl
        have hy := (hc k hkl).below H.out.bel hb
        have hln := (HJ2.out.1.lns _ (jes_mem Js k hkl)).below H.out.bel
        have h64 := HJ2.out.2 _ (jes_mem Js k hkl)
        have hek := HE.out k hkl
        obtain ⟨y, hyy⟩ : ∃ y, Js.getD k je0 = y := ⟨_, rfl⟩
        rw [hyy] at hy hln h64 hek
        clear hyy hc
        obtain ⟨y0, y1, y2, ya, yc, yl⟩ := y
        obtain ⟨d0, d1, d2, d3⟩ := hy
        simp only [Je.en] at d0 d1 d2 d3 hln h64 hek
        have HF : Hid (Calls _ _ _ wr _) := fEntry_any y0 y1 y2 ya yc yl wr h64.1 h64.2.1 h64.2.2 hln
        have hst := adL_step (by rw [HEl.out.1]; exact hkl) H.out.ad
        rw [hek] at hst
        have hsn := fun ho => newE_next (E := E) (old := rs.length) (by rw [HEl.out.1]; exact hkl) ho en0
        rw [hek] at hsn
        have hbb := @frBad_big ⟨y0, y1, y2, yl⟩
        generalize hbl : entB ⟨y0, y1, y2, yl⟩ = bl at *
        have HBl : Hid (entB ⟨y0, y1, y2, yl⟩ = bl) := hbl
        generalize hee : (⟨y0, y1, y2, yl⟩ : En) = ee at *
        have HSt : Hid _ := hst
        have HSn : Hid (∀ _, _) := hsn
        have hkl0 : b < wr.heap.size := by have := H.out.bel.size; omega
        have hko : (0 : Int) ≤ (off : Int) + k * 4 := by omega
        clear hst hsn hbl hek hln
        by_cases hbad : frBad ee = 0
        · have hbm := hbb hbad
          have HF2 : Hid (Calls Try.prog 39 #[.agg #[.string y0, .int .i64 y1, .int .i64 y2, .slice ya yl.length yc]] wr fun e w' => ∃ av cv, e = .returned (.tuple #[.slice av bl.length cv, .nilIface]) ∧ Hid (ByRow w' wr.heap.size (.slice av bl.length cv) bl) ∧ Hid (Below wr.heap.size wr w')) := by
            refine HF.out.mono ?_
            rintro e w' ⟨⟨h1, _⟩ | ⟨_, v, rfl, h2⟩, h3⟩
            · exact absurd hbad h1
            · obtain ⟨av, cv, rfl, _⟩ := h2.isBy
              exact ⟨av, cv, rfl, h2, h3⟩
          have bm : (bl.length : Int) ≤ 1634 := by omega
          have b0 : (0 : Int) ≤ bl.length := by omega
          clear HF hbb h64
          by_cases h200 : 200 < bl.length
          · have h200' : (200 : Int) < (bl.length : Int) := by omega
            have er : Hid (res = 4) := by unfold Hid; rw [← Hres.out]; exact adE_bad (by rw [HEl.out.1]; exact HLt.out) (HSt.out.2.1 hbad h200) (by decide)
            have HBe : Hid (Below w2.heap.size w2 wr) := H.out.bel
            clear Hres HE HEl HSt HSn H h200 hbad hbm
            go_wp2_with fail
            refine HF2.out.mono ?_
            rintro e w3 ⟨av, cv, rfl, h3, b3⟩
            go_wp2
            go_ret2
            refine ⟨.inl ⟨by rw [er.out]; decide, ?_⟩, HO2.out.2.trans ((HBe.out.trans (b3.out.mono HBe.out.size)).mono HO2.out.2.size)⟩
            rw [er.out, enE_ne (by decide)]
            rfl
          · have h200' : ¬ (200 : Int) < (bl.length : Int) := by omega
            have hw1 : IntKind.i64.wrap ((bl.length : Int) + 2) = (bl.length : Int) + 2 := by rw [IntKind.wrap_i64]; omega
            by_cases hold : rs.length ≤ k
            · have hold' : (rs.length : Int) ≤ (k : Int) := by omega
              have hr := H.out.rm
              have hcs := H.out.cst
              have hw2 : IntKind.i64.wrap (r - ((bl.length : Int) + 2)) = r - ((bl.length : Int) + 2) := by rw [IntKind.wrap_i64]; omega
              have hsn := HSn.out hold
              have had := (HSt.out.2.2 hbad h200).1 hold
              have hct : costL (newE rs.length (k + 1) E) = costL (newE rs.length k E) + (bl.length + 2) := by rw [hsn, costL_snoc, HBl.out]
              by_cases hr0 : 0 ≤ r - ((bl.length : Int) + 2)
              · obtain ⟨rl, hrow, hrl, hre⟩ := H.out.rows
                have hre' := hre (by omega)
                have hml := costL_len (newE rs.length k E)
                have hrl2 : rl.length ≤ 6000 := by rw [hre', List.length_map]; omega
                obtain ⟨va', vc', hvv⟩ := hrow.shape
                cases hvv
                have HN : Hid (∀ (v : Value) (U : World), RsRow U w2.heap.size v (rl ++ [bl]) → Below w2.heap.size w2 U → AdAt w2 U v (r - ((bl.length : Int) + 2)) rs E room (k + 1)) := fun v U h1 h2 => ⟨h2, by rw [hct, hr]; omega, had, ⟨rl ++ [bl], h1, by simp; omega, fun _ => by rw [hsn, List.map_append, ← hre', List.map_cons, List.map_nil, HBl.out]⟩, by rw [hct]; omega⟩
                have HRw : Hid (RsRow wr w2.heap.size (.slice va rl.length vc) rl ∧ Below w2.heap.size w2 wr) := ⟨hrow, H.out.bel⟩
                clear Hres HE HEl HSt HSn H h200 hbad hbm hold hr hcs hsn had hct hrow hrl hre hre' hml
                go_wp2_with fail
                refine HF2.out.mono ?_
                rintro e w3 ⟨a3, c3, rfl, hrow3, hb3⟩
                obtain ⟨W4, hW4⟩ : ∃ W4, w3.alloc (.cells #[.slice a3 bl.length c3] 52) = W4 := ⟨_, rfl⟩
                have b4 : Below w3.heap.size w3 W4 := by rw [← hW4]; exact (Below.refl _ _).alloc (Nat.le_refl _) _
                have hr4 : W4.heap[w3.heap.size]? = some (.cells #[.slice a3 bl.length c3] 52 (0, 0)) := by rw [← hW4]; exact new_heap w3 _
                have B3 : Below w2.heap.size w2 w3 := HRw.out.2.trans (hb3.out.mono HRw.out.2.size)
                have B4 : Below w2.heap.size w2 W4 := B3.trans (b4.mono B3.size)
                have R4 := (HRw.out.1.below hb3.out).below b4
                obtain ⟨vs, hvl, hvo, hvb⟩ := R4
                have hx4 : ByRow W4 w2.heap.size (.slice a3 bl.length c3) bl := byRow_low (hrow3.out.below b4) HRw.out.2.size
                have Hsrc : Hid (∀ j u, [Value.slice a3 bl.length c3][j]? = some u → W4.cell? ((⟨w3.heap.size, 0, none⟩ : Addr).add j) = some u) := World.news_of_block hr4
                have HVo : Hid (W4.ownsRow w2.heap.size 52 1 (.slice va rl.length vc) rl.length vs) := hvo
                have HOw : Hid (∀ j, (Value.slice va rl.length vc).ownBlock = some j → w2.heap.size ≤ j) := (HRw.out.1).own
                have HB4 : Hid (Below w2.heap.size w2 W4) := B4
                have HW4 : Hid (_ = W4) := hW4
                have HX : Hid ((∀ k, k < rl.length → ByRow W4 w2.heap.size (vs.getD k .nilIface) (rl.getD k [])) ∧ vs.length = rl.length ∧ ByRow W4 w2.heap.size (.slice a3 bl.length c3) bl) := ⟨hvb, hvl, hx4⟩
                have Hm1 : Hid (rl.length + 1 ≤ maxLen) := by unfold Hid maxLen; omega
                have Hm2 : Hid ((rl.length + 1) * 24 ≤ 140737488355328) := by unfold Hid; omega
                have Hs1 : Hid (∀ u ∈ [Value.slice a3 bl.length c3], u.oneCell' = true) := by intro u hu; simp at hu; subst hu; rfl
                clear HF2 hrow3 hb3 b4 hr4 B3 B4 hvl hvo hvb hx4 hW4 hrl2 d0 d1 d2 d3
                go_wp2_with (at_builtin; rw [HW4.out]; refine wpList_append_own _ rfl _ _ 57 rfl w2.heap.size 52 qi (.slice none 0 0) 1 24 Try.underlying57 hq hz0 hz1 hz2 rfl (by decide) _ _ _ rfl HVo.out ⟨w3.heap.size, 0, none⟩ 1 1 [.slice a3 bl.length c3] rfl rfl Hsrc.out Hs1.out Hm1.out Hm2.out HB4.out.size ?_)
                intro v5 w5 hown hgrow _
                have R5 : RsRow w5 w2.heap.size v5 (rl ++ [bl]) := RsRow.more HX.out.1 HX.out.2.1 HVo.out HX.out.2.2 hgrow hown
                have B5 : Below w2.heap.size w2 w5 := HB4.out.grown hgrow HB4.out.size (fun j e => HOw.out j e)
                obtain ⟨v5a, v5c, rfl⟩ := R5.shape
                have HF5 : Hid (AdAt w2 w5 (.slice v5a (rl ++ [bl]).length v5c) (r - ((bl.length : Int) + 2)) rs E room (k + 1)) := HN.out _ _ R5 B5
                clear hown hgrow R5 B5 HX HVo Hsrc Hs1 HB4 HOw HW4 HN HRw
                generalize (rl ++ [bl]).length = dl at *
                go_wp2_with fail
                go_roundw
                case rel => exact ⟨k + 1, _, _, _, _, by omega, by go_num, rfl, rfl, HF5⟩
                case measure => simp [RowKit.intOf]; omega
              · obtain ⟨rl, hrow, hrl, hre⟩ := H.out.rows
                have HN : Hid (∀ (U : World), Below wr.heap.size wr U → AdAt w2 U (.slice va m vc) (r - ((bl.length : Int) + 2)) rs E room (k + 1)) := fun U h2 => ⟨H.out.bel.trans (h2.mono H.out.bel.size), by rw [hct, hr]; omega, had, ⟨rl, hrow.below h2, hrl, fun h => absurd h hr0⟩, by rw [hct]; omega⟩
                clear Hres HE HEl HSt HSn H h200 hbad hbm hold hr hcs hsn had hct hrow hrl hre
                go_wp2_with fail
                refine HF2.out.mono ?_
                rintro e w3 ⟨a3, c3, rfl, hrow3, hb3⟩
                have HF5 : Hid (AdAt w2 w3 (.slice va m vc) (r - ((bl.length : Int) + 2)) rs E room (k + 1)) := HN.out _ hb3.out
                clear HF2 hrow3 hb3 HN d0 d1 d2 d3
                go_wp2_with fail
                go_roundw
                case rel => exact ⟨k + 1, _, _, _, _, by omega, by go_num, rfl, rfl, HF5⟩
                case measure => simp [RowKit.intOf]; omega
            · have hold' : ¬ (rs.length : Int) ≤ (k : Int) := by omega
              have hkr : (k : Int) < (rs.length : Int) := by omega
              have HBe : Hid (Below w2.heap.size w2 wr) := H.out.bel
              have hkr' : k < rs.length := by omega
              have HKr : Hid (k < rs.length) := hkr'
              have hso := (HSt.out.2.2 hbad h200).2 hkr'
              have hne0 : newE rs.length (k + 1) E = newE rs.length k E := by rw [newE_none (by omega), newE_none (by omega)]
              by_cases heq : bl = rs.getD k []
              · have had := hso.1 heq
                obtain ⟨rl, hrow, hrl, hre⟩ := H.out.rows
                have HN : Hid (∀ (U : World), Below wr.heap.size wr U → AdAt w2 U (.slice va m vc) r rs E room (k + 1)) := fun U h2 => ⟨H.out.bel.trans (h2.mono H.out.bel.size), by rw [hne0]; exact H.out.rm, had, ⟨rl, hrow.below h2, hrl, fun h => by rw [hne0]; exact hre h⟩, by rw [hne0]; have := H.out.cst; omega⟩
                have HDe : Hid (decide (bl = rs.getD k []) = true) := decide_eq_true heq
                clear Hres HE HEl HSt HSn H h200 hbad hbm hold hrow hrl hre hne0 had hso heq hkr'
                go_wp2_with fail
                refine HF2.out.mono ?_
                rintro e w3 ⟨a3, c3, rfl, hrow3, hb3⟩
                obtain ⟨g1, cap1, xa, xc, hv1, hcell, hxb⟩ := (HO2.out.1.below (HBe.out.trans (hb3.out.mono HBe.out.size) |>.mono (Nat.le_refl _))).cell k HKr.out
                simp only [Value.slice.injEq] at hv1
                obtain ⟨rfl, _, rfl⟩ := hv1
                have hEq := byEqual_any a3 bl c3 xa (rs.getD k []) xc w3 hrow3.out.isBy' hxb
                rw [HDe.out] at hEq
                have HEq : Hid (Calls _ _ _ w3 _) := hEq
                have HF5 : Hid (AdAt w2 w3 (.slice va m vc) r rs E room (k + 1)) := HN.out _ hb3.out
                have hg1 : g1 < w3.heap.size := World.block_lt_of_cell? _ _ hcell
                clear HF2 hrow3 hb3 HN d0 d1 d2 d3 hxb hEq
                generalize rs.getD k [] = ok at *
                go_wp2_with fail
                refine HEq.out.mono ?_
                rintro e w4 ⟨rfl, rfl⟩
                clear HEq hcell
                go_wp2_with fail
                go_roundw
                case rel => exact ⟨k + 1, _, _, _, _, by omega, by go_num, rfl, rfl, HF5⟩
                case measure => simp [RowKit.intOf]; omega
              · have er : Hid (res = 5) := by unfold Hid; rw [← Hres.out]; exact adE_bad (by rw [HEl.out.1]; exact HLt.out) (hso.2 heq) (by decide)
                have HDe : Hid (decide (bl = rs.getD k []) = false) := decide_eq_false heq
                clear Hres HE HEl HSt HSn H h200 hbad hbm hold hne0 hso heq hkr'
                go_wp2_with fail
                refine HF2.out.mono ?_
                rintro e w3 ⟨a3, c3, rfl, hrow3, hb3⟩
                obtain ⟨g1, cap1, xa, xc, hv1, hcell, hxb⟩ := (HO2.out.1.below (HBe.out.trans (hb3.out.mono HBe.out.size) |>.mono (Nat.le_refl _))).cell k HKr.out
                simp only [Value.slice.injEq] at hv1
                obtain ⟨rfl, _, rfl⟩ := hv1
                have hEq := byEqual_any a3 bl c3 xa (rs.getD k []) xc w3 hrow3.out.isBy' hxb
                rw [HDe.out] at hEq
                have HEq : Hid (Calls _ _ _ w3 _) := hEq
                have HB3 : Hid (Below W.heap.size W w3) := HO2.out.2.trans ((HBe.out.trans (hb3.out.mono HBe.out.size)).mono HO2.out.2.size)
                have hg1 : g1 < w3.heap.size := World.block_lt_of_cell? _ _ hcell
                clear HF2 hrow3 hb3 d0 d1 d2 d3 hxb hEq HO2
                generalize rs.getD k [] = ok at *
                go_wp2_with fail
                refine HEq.out.mono ?_
                rintro e w4 ⟨rfl, rfl⟩
                clear HEq hcell
                go_wp2
                go_ret2
                refine ⟨.inl ⟨by rw [er.out]; decide, ?_⟩, HB3.out⟩
                rw [er.out, enE_ne (by decide)]
                rfl
        · have er : Hid (res = frBad ee) := by unfold Hid; rw [← Hres.out]; exact adE_bad (by rw [HEl.out.1]; exact HLt.out) (HSt.out.1 hbad) hbad
          have HF2 : Hid (Calls Try.prog 39 #[.agg #[.string y0, .int .i64 y1, .int .i64 y2, .slice ya yl.length yc]] wr fun e w' => e = .returned (.tuple #[.slice none 0 0, .iface 44 (.int .i64 (frBad ee))]) ∧ Hid (Below wr.heap.size wr w')) := by
            refine HF.out.mono ?_
            rintro e w' ⟨⟨h1, rfl⟩ | ⟨h1, _⟩, h3⟩
            · rw [enE_ne h1]; exact ⟨rfl, h3⟩
            · exact absurd h1 hbad
          have HBe : Hid (Below w2.heap.size w2 wr) := H.out.bel
          have HBad : Hid (frBad ee ≠ 0) := hbad
          generalize frBad ee = fe at *
          clear Hres HE HEl HSt HSn H hbad HF hbb h64
          go_wp2_with fail
          refine HF2.out.mono ?_
          rintro e w3 ⟨rfl, b3⟩
          go_wp2
          go_ret2
          refine ⟨.inl ⟨by rw [er.out]; exact HBad.out, ?_⟩, HO2.out.2.trans ((HBe.out.trans (b3.out.mono HBe.out.size)).mono HO2.out.2.size)⟩
          rw [er.out, enE_ne HBad.out]
          rfl
      · have klt : ¬ (k : Int) < (Js.length : Int) := by omega
        have hke : k = E.length := by rw [HEl.out.1]; omega
        have hnw : newE rs.length k E = E.drop rs.length := by unfold newE; rw [hke, List.take_length]
        have had : adL rs E = 0 := by
          rw [H.out.ad, hke, List.drop_length]
          unfold adL
          rfl
        have hr := H.out.rm
        have hcs := H.out.cst
        rw [hnw] at hr
        have HBe : Hid (Below W.heap.size W wr) := HO2.out.2.trans (H.out.bel.mono HO2.out.2.size)
        by_cases hr0 : r < 0
        · have er : Hid (res = 4) := by
            unfold Hid
            rw [← Hres.out]
            unfold adE
            rw [if_neg (by rw [HEl.out.1]; have := HLt.out; omega), if_neg (by rw [had]; decide), if_pos (by omega)]
          clear Hres HE HEl H hke hnw had hr hcs
          go_wp2
          go_ret2
          refine ⟨.inl ⟨by rw [er.out]; decide, ?_⟩, HBe.out⟩
          rw [er.out, enE_ne (by decide)]
          rfl
        · have er : Hid (res = 0) := by
            unfold Hid
            rw [← Hres.out]
            unfold adE
            rw [if_neg (by rw [HEl.out.1]; have := HLt.out; omega), if_neg (by rw [had]; decide), if_neg (by omega)]
          obtain ⟨rl, hrow, hrl, hre⟩ := H.out.rows
          have hre' := hre (by omega)
          rw [hnw] at hre'
          subst hre'
          have HRw : Hid (RsRow wr W.heap.size (.slice va m vc) ((E.drop rs.length).map entB)) := hrow.low HO2.out.2.size
          clear Hres HE HEl H hke hnw had hr hcs hrow hrl hre
          go_wp2
          go_ret2
          refine ⟨.inr ⟨er.out, _, _, _, rfl, ?_⟩, HBe.out⟩
          first
            | exact HRw
            | (rw [← List.map_drop]; exact HRw)
end
end Go.Proofs.Ytijjegkkeigeoaa
