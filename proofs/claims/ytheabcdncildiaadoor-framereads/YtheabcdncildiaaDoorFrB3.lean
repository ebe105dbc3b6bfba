/-
  The contract of frame.ReadBalances.
-/
import Derived.Test.YtheabcdncildiaaDoorFrB1
import Derived.Test.YtheabcdncildiaaDoorFr6
namespace Go.Proofs.YtheabcdncildiaaDoor
set_option linter.unusedVariables false
set_option linter.unusedSimpArgs false
set_option maxRecDepth 100000
open Go.RowKit Go.Lib

/-- Where the reading of balances stands. -/
structure RbSt (w : World) (v : Value) (ls : List Bl) (W : World) (st : St) : Prop where
  rd : RdAt W w.heap.size st
  len : StLen st
  row : BlRow W (w.heap.size + 1) v ls
  bel : Below w.heap.size w W
theorem RbSt.step {w : World} {v : Value} {ls : List Bl} {W W' : World} {st st' : St} (h : RbSt w v ls W st) (hk : KeepBut w.heap.size W W') (hr : RdAt W' w.heap.size st') (hl : StLen st') : RbSt w v ls W' st' :=
  ⟨hr, hl, hk.brow h.row (by omega), h.bel.trans (hk.toBelow (by omega) h.bel.size)⟩
theorem cells_bal (w : World) (x0 : Int) (x1 x2 : ByteArray) (x3 : Int) : ∀ j u, ([.int .i64 x0, .string x1, .string x2, .int .i64 x3] : List Value)[j]? = some u → (w.alloc (.cells #[.int .i64 x0, .string x1, .string x2, .int .i64 x3] 56)).cell? ((⟨w.heap.size, 0, none⟩ : Addr).add j) = some u := by
  intro j u hj
  rw [by_add, Nat.zero_add]
  rcases j with _ | _ | _ | _ | j
  · simpa using hj
  · simpa using hj
  · simpa using hj
  · simpa using hj
  · simp at hj
theorem bal_one (x0 : Int) (x1 x2 : ByteArray) (x3 : Int) : ∀ u ∈ ([.int .i64 x0, .string x1, .string x2, .int .i64 x3] : List Value), u.oneCell' = true := by
  intro u hu; simp at hu; rcases hu with rfl | rfl | rfl | rfl <;> rfl

set_option maxHeartbeats 4000000 in
theorem fReadBals_any (a : Option Addr) (cap : Nat) (l : List UInt8) (w : World) (hl : l.length ≤ 9223372036854775807) (h : IsBy w a l cap) :
    Calls Tryd.prog 9 #[.slice a l.length cap] w fun e w' =>
      (((balS (some l)).2 = none ∧ e = .returned (.tuple #[.slice none 0 0, .int .i64 0, enE 9])) ∨
       (∃ r v, (balS (some l)).2 = some r ∧ e = .returned (.tuple #[v, .int .i64 ((l.length : Int) - r.length), .nilIface]) ∧ BlRow w' w.heap.size v (balS (some l)).1)) ∧ Below w.heap.size w w' := by
  obtain ⟨W1, hW1⟩ : ∃ W1, w.alloc (.cells #[.slice a l.length cap, .bool false] 49) = W1 := ⟨_, rfl⟩
  have b1 : Below w.heap.size w W1 := by rw [← hW1]; exact (Below.refl _ _).alloc (Nat.le_refl _) _
  have r1 : RdAt W1 w.heap.size (some l) := by
    refine ⟨a, cap, ?_, h.isBN.of b1⟩
    rw [← hW1]; exact RBox.new _ _ _
  have L0 : StLen (some l) := fun l' e => by cases e; exact hl
  have R1 : RbSt w (.slice none 0 0) [] W1 (some l) := ⟨r1, L0, World.ownsRow_nil _ _ _ _, b1⟩
  have HC : Hid (Calls _ _ _ _ _) := rcount_any w.heap.size (some l) 200 W1 r1 L0 (by omega)
  obtain ⟨ee, hee⟩ : ∃ ee, balS (some l) = ee := ⟨_, rfl⟩
  have Hee : Hid (balS (some l) = ee) := hee
  rw [hee]
  unfold balS at Hee
  have L1 := @rdNS_len 0 200 _ L0
  have hrg := @rdNS_range 200 (some l) (by omega)
  generalize rdNS 0 200 (some l) = p1 at *
  obtain ⟨n4, st1⟩ := p1
  simp only at Hee HC L1 hrg
  obtain ⟨n, hn⟩ : ∃ n : Nat, n4 = n := ⟨n4.toNat, by omega⟩
  subst hn
  simp only [Int.toNat_natCast] at Hee
  have hl' : (l.length : Int) ≤ 9223372036854775807 := by omega
  have HR1 : Hid (RbSt w (.slice none 0 0) [] W1 (some l)) := R1
  have HL1 : Hid (StLen st1) := L1
  have HWW : Hid (_ = W1) := hW1
  clear h hee r1 b1 L1 L0 hW1 R1
  obtain ⟨i0, hi, hz0, hz1, hz2⟩ := info_parts bl_info
  go_enter Tryd.func9, Tryd.ntmps9
  go_wp2_with fail
  rw [HWW.out]
  clear HWW
  refine HC.out.mono ?_
  rintro e w1 ⟨rfl, q1, k1⟩
  have HR2 : Hid (RbSt w (.slice none 0 0) [] w1 st1) := HR1.out.step k1 q1 HL1.out
  have hn200 : (n : Int) ≤ 200 := by omega
  clear HC q1 k1 HR1 HL1
  go_wp2
  go_loopw [6, 7, 11] (fun v _ i wr => ∃ k : Nat, k ≤ n ∧ i = .int .i64 k ∧ Hid (RbSt w v (balsS k st1).1 wr (balsS k st1).2)) (fun _ _ i _ => n - (intOf i).toNat)
  case atStart => exact ⟨0, Nat.zero_le _, rfl, HR2⟩
  case round =>
    obtain ⟨k, hk, rfl, R⟩ := hrel
    by_cases hlt : k < n
    · have hfl := balsS_length k st1
      have hnx : balsS (k + 1) st1 = ((balsS k st1).1 ++ [(blS (balsS k st1).2).1], if ordAt ((balsS k st1).1 ++ [(blS (balsS k st1).2).1]) k = 0 then (blS (balsS k st1).2).2 else none) := rfl
      generalize balsS k st1 = pk at *
      obtain ⟨ls, st⟩ := pk
      simp only at R hfl hnx
      obtain ⟨av, cv, ev, _⟩ := R.out.row.isBl
      rw [hfl] at ev
      subst ev
      have j0 : (0 : Int) ≤ k := by omega
      have j1 : (k : Int) < n := by omega
      have s2 : Hid (k + 1 ≤ maxLen) := by unfold Hid maxLen; omega
      have s3 : Hid ((k + 1) * 48 ≤ 140737488355328) := by unfold Hid; omega
      have HT0 : Hid (Calls _ _ _ _ _) := rsmall_any w.heap.size st wr R.out.rd R.out.len
      have M0 := @rdNS_len 0 200 st R.out.len
      unfold blS at hnx
      generalize rdNS 0 200 st = p0 at *
      obtain ⟨x0, s0⟩ := p0
      simp only at hnx HT0 M0
      have M1 := rdTS_len M0
      have HT1 : Hid (∀ W, RdAt W w.heap.size s0 → Calls Tryd.prog 13 #[.pointer (some ⟨w.heap.size, 0, none⟩)] W fun e w' => e = .returned (.string (rdTS s0).1) ∧ RdAt w' w.heap.size (rdTS s0).2 ∧ KeepBut w.heap.size W w') := fun W hW => rtext_any w.heap.size s0 W hW M0
      generalize rdTS s0 = p1 at *
      obtain ⟨x1, s1⟩ := p1
      simp only at hnx HT1 M1
      have M2 := rdTS_len M1
      have HT2 : Hid (∀ W, RdAt W w.heap.size s1 → Calls Tryd.prog 13 #[.pointer (some ⟨w.heap.size, 0, none⟩)] W fun e w' => e = .returned (.string (rdTS s1).1) ∧ RdAt w' w.heap.size (rdTS s1).2 ∧ KeepBut w.heap.size W w') := fun W hW => rtext_any w.heap.size s1 W hW M1
      generalize rdTS s1 = p2 at *
      obtain ⟨x2, s2'⟩ := p2
      simp only at hnx HT2 M2
      have M3 := @rdNS_len (-mostA) mostA s2' M2
      have HT3 : Hid (∀ W, RdAt W w.heap.size s2' → Calls Tryd.prog 16 #[.pointer (some ⟨w.heap.size, 0, none⟩)] W fun e w' => e = .returned (.int .i64 (rdNS (-mostA) mostA s2').1) ∧ RdAt w' w.heap.size (rdNS (-mostA) mostA s2').2 ∧ KeepBut w.heap.size W w') := fun W hW => ramount_any w.heap.size s2' W hW M2
      generalize rdNS (-mostA) mostA s2' = p3 at *
      obtain ⟨x3, sN⟩ := p3
      simp only at hnx HT3 M3
      have Hnx : Hid (balsS (k + 1) st1 = _) := hnx
      have HM : Hid (StLen s0 ∧ StLen s1 ∧ StLen s2' ∧ StLen sN) := ⟨M0, M1, M2, M3⟩
      clear hnx M0 M1 M2 M3
      go_wp2_with fail
      refine HT0.out.mono ?_
      rintro e u1 ⟨rfl, q1, k1⟩
      have HQ1 : Hid (RbSt w _ ls u1 s0) := R.out.step k1 q1 HM.out.1
      clear HT0 R q1 k1
      go_wp2_with fail
      refine (HT1.out u1 HQ1.out.rd).mono ?_
      rintro e u2 ⟨rfl, q2, k2⟩
      have HQ2 : Hid (RbSt w _ ls u2 s1) := HQ1.out.step k2 q2 HM.out.2.1
      clear HT1 HQ1 q2 k2
      go_wp2_with fail
      refine (HT2.out u2 HQ2.out.rd).mono ?_
      rintro e u3 ⟨rfl, q3, k3⟩
      have HQ3 : Hid (RbSt w _ ls u3 s2') := HQ2.out.step k3 q3 HM.out.2.2.1
      clear HT2 HQ2 q3 k3
      go_wp2_with fail
      refine (HT3.out u3 HQ3.out.rd).mono ?_
      rintro e u4 ⟨rfl, q4, k4⟩
      have HQ4 : Hid (RbSt w _ ls u4 sN) := HQ3.out.step k4 q4 HM.out.2.2.2
      clear HT3 HQ3 q4 k4
      have hlt4 := HQ4.out.rd.lt
      have hoj := HQ4.out.row.own
      have hown4 : World.ownsRow (u4.alloc (.cells #[.int .i64 x0, .string x1, .string x2, .int .i64 x3] 56)) (w.heap.size + 1) 56 4 (.slice av k cv) k (blRow ls) := by
        have := World.ownsRow.alloc HQ4.out.row (.cells #[.int .i64 x0, .string x1, .string x2, .int .i64 x3] 56)
        unfold BlRow at this
        rw [hfl] at this
        exact this
      have Hown4 : Hid (World.ownsRow _ _ _ _ _ _ _) := hown4
      clear hown4
      go_wp2_with (at_builtin; refine wpList_append_own _ rfl _ _ 34 rfl (w.heap.size + 1) 56 i0 (.agg #[.int .i64 0, .string ByteArray.empty, .string ByteArray.empty, .int .i64 0]) 4 48 Tryd.underlying34 hi hz0 hz1 hz2 rfl (by decide) _ _ _ rfl Hown4.out ⟨u4.heap.size, 0, none⟩ 1 1 [.int .i64 x0, .string x1, .string x2, .int .i64 x3] rfl rfl (cells_bal _ _ _ _ _) (bal_one _ _ _ _) s2.out s3.out (by simp; omega) ?_)
      intro v' u5 hown hgrow _
      have hB5 : Below (w.heap.size + 1) u4 u5 := ((Below.refl _ u4).alloc (by omega) (.cells #[.int .i64 x0, .string x1, .string x2, .int .i64 x3] 56)).grown hgrow (by simp; omega) (fun j e => hoj j e)
      have hrow5 : BlRow u5 (w.heap.size + 1) v' (ls ++ [⟨x0, x1, x2, x3⟩]) := by
        unfold BlRow
        rw [blRow_append, blRow_one, List.length_append, hfl]
        exact hown
      obtain ⟨a5, c5, e5, hbl5⟩ := hrow5.isBl
      have hl5 : (ls ++ [(⟨x0, x1, x2, x3⟩ : Bl)]).length = k + 1 := by rw [List.length_append, hfl]; rfl
      rw [hl5] at e5
      subst e5
      have HQ5 : Hid (RbSt w (.slice a5 (k + 1) c5) (ls ++ [⟨x0, x1, x2, x3⟩]) u5 sN) := ⟨HQ4.out.rd.below hB5, HQ4.out.len, hrow5, HQ4.out.bel.trans (hB5.mono (by omega))⟩
      have hRi := rises_any a5 c5 k (ls ++ [⟨x0, x1, x2, x3⟩]) u5 (by rw [hl5]; omega) (by rw [hl5]; omega) hbl5
      rw [hl5] at hRi
      have HRi : Hid (Calls _ _ _ _ _) := hRi
      clear hRi hbl5 hrow5 hown hgrow HQ4 Hown4 hB5 hl5
      have hro : risesB (ls ++ [⟨x0, x1, x2, x3⟩]) k = decide (ordAt (ls ++ [⟨x0, x1, x2, x3⟩]) k = 0) := rfl
      generalize ls ++ [⟨x0, x1, x2, x3⟩] = ls' at *
      rw [hro] at HRi
      clear hro
      by_cases ho : ordAt ls' k = 0
      · rw [decide_eq_true ho] at HRi
        go_wp2_with fail
        refine HRi.out.mono ?_
        rintro e u6 ⟨rfl, b6⟩
        have HN : Hid (RbSt w (.slice a5 (k + 1) c5) (balsS (k + 1) st1).1 u6 (balsS (k + 1) st1).2) := by
          unfold Hid
          rw [Hnx.out]
          simp only
          rw [if_pos ho]
          have hz := HQ5.out.rd.lt
          exact ⟨HQ5.out.rd.below (b6.mono (by omega)), HQ5.out.len, HQ5.out.row.below b6, HQ5.out.bel.trans (b6.mono HQ5.out.bel.size)⟩
        clear HRi HQ5 b6
        go_wp2
        go_roundw
        case rel => exact ⟨k + 1, by omega, by go_num, HN⟩
        case measure => simp [intOf]; omega
      · rw [decide_eq_false ho] at HRi
        go_wp2_with fail
        refine HRi.out.mono ?_
        rintro e u6 ⟨rfl, b6⟩
        have hz := HQ5.out.rd.lt
        have Q6 : RbSt w (.slice a5 (k + 1) c5) ls' u6 sN := ⟨HQ5.out.rd.below (b6.mono (by omega)), HQ5.out.len, HQ5.out.row.below b6, HQ5.out.bel.trans (b6.mono HQ5.out.bel.size)⟩
        have HF : Hid (Calls Tryd.prog 21 #[.pointer (some ⟨w.heap.size, 0, none⟩)] u6 fun e w' => e = .returned (.tuple #[]) ∧ RdAt w' w.heap.size none ∧ KeepBut w.heap.size u6 w') := by
          have : ∃ v e0, RBox u6 w.heap.size v e0 := by
            have hR := Q6.rd
            cases sN with
            | none => exact ⟨_, _, hR⟩
            | some l => obtain ⟨_, _, x, _⟩ := hR; exact ⟨_, _, x⟩
          obtain ⟨v, e0, x⟩ := this
          exact rfail_any w.heap.size v e0 u6 x
        have HQ6 : Hid (RbSt w _ ls' u6 sN) := Q6
        clear HRi HQ5 b6 Q6
        go_wp2_with fail
        refine HF.out.mono ?_
        rintro e u7 ⟨rfl, q7, k7⟩
        have HN : Hid (RbSt w (.slice a5 (k + 1) c5) (balsS (k + 1) st1).1 u7 (balsS (k + 1) st1).2) := by
          unfold Hid
          rw [Hnx.out]
          simp only
          rw [if_neg ho]
          exact HQ6.out.step k7 q7 (fun l hl => by cases hl)
        clear HF HQ6 q7 k7
        go_wp2
        go_roundw
        case rel => exact ⟨k + 1, by omega, by go_num, HN⟩
        case measure => simp [intOf]; omega
    · have hk2 : k = n := by omega
      subst hk2
      have hR := R.out
      have he1 := Hee.out
      generalize balsS k st1 = pk at *
      obtain ⟨ls, st⟩ := pk
      simp only at hR he1
      subst he1
      obtain ⟨av, cv, ev, _⟩ := hR.row.isBl
      subst ev
      have HR : Hid (RbSt _ _ _ _ _) := hR
      clear R Hee
      cases st with
      | none =>
        have c1 := RBox.c1 hR.rd
        clear hR
        go_wp2
        go_ret3
        exact ⟨rfl, HR.out.bel⟩
      | some r =>
        obtain ⟨ar, cr, x, _⟩ := hR.rd
        have c1 := x.c1
        have c0 := x.c0
        have hrl : (r.length : Int) ≤ 9223372036854775807 := by have := hR.len r rfl; omega
        have hwr : IntKind.i64.wrap ((l.length : Int) - r.length) = (l.length : Int) - r.length := by
          simp only [IntKind.wrap, IntKind.bits, IntKind.signed]
          simp
          omega
        generalize ls.length = m4 at *
        clear hR x
        go_wp2_with fail
        go_quiet (fail)
        go_wp2
        go_ret3
        exact ⟨⟨_, rfl, BlRow.mono (n := w.heap.size + 1) (HR.out.row.below (en_drewN (Below.refl _ _) _)) (Nat.le_succ _)⟩, en_drewN HR.out.bel _⟩
end Go.Proofs.YtheabcdncildiaaDoor
