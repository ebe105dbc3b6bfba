/-
  The contract of frame.ReadEntry.
-/
import Derived.Test.YtheabcdncildiaaDoorFrN
import Derived.Test.YtheabcdncildiaaDoorRegionL
import Derived.Deep.AppendLies
import Derived.Deep.RegionHeldLaw
import Derived.Deep.RegionHeld3
import Derived.BigRegion
namespace Go.Proofs.YtheabcdncildiaaDoor
set_option linter.unusedVariables false
set_option linter.unusedSimpArgs false
set_option maxRecDepth 100000
open Go.RowKit Go.Lib

theorem IsBN.below' {w w' : World} {n m : Nat} {a : Option Addr} {l : List UInt8} {cap : Nat} (h : IsBN w n a l cap) (hb : Below m w w') (hm : n ≤ m) : IsBN w' n a l cap := h.of (hb.mono hm)
theorem RdAt.below {W W' : World} {b : Nat} {st : St} (h : RdAt W b st) (hb : Below (b + 1) W W') : RdAt W' b st := by
  cases st with
  | none => exact (hb.block b (Nat.lt_succ_self _)).trans h
  | some l =>
    obtain ⟨a, cap, x, hby⟩ := h
    exact ⟨a, cap, (hb.block b (Nat.lt_succ_self _)).trans x, hby.below' hb (Nat.le_succ _)⟩
theorem RdAt.drew {W : World} {b : Nat} {st : St} (h : RdAt W b st) : RdAt W.drew b st := h.below (Below.refl _ W).drew

/-- Where the reading of an entry stands. -/
structure ReSt (w : World) (eb : Nat) (s : ByteArray) (en pe : Int) (v : Value) (ls : List Ln) (W : World) (st : St) : Prop where
  rd : RdAt W (w.heap.size + 1) st
  len : StLen st
  box : Box4 W eb s en pe v
  row : LnRow W (eb + 1) v ls
  res : Box4 W w.heap.size ByteArray.empty 0 0 (.slice none 0 0)
  bel : Below w.heap.size w W
  lt : w.heap.size + 1 < eb
theorem ReSt.step {w : World} {eb : Nat} {s : ByteArray} {en pe : Int} {v : Value} {ls : List Ln} {W W' : World} {st st' : St} (h : ReSt w eb s en pe v ls W st) (hk : KeepBut (w.heap.size + 1) W W') (hr : RdAt W' (w.heap.size + 1) st') (hl : StLen st') : ReSt w eb s en pe v ls W' st' :=
  ⟨hr, hl, hk.box h.box (by have := h.lt; omega), hk.row h.row (by have := h.lt; omega), hk.box h.res (by omega), h.bel.trans (hk.toBelow (by omega) h.bel.size), h.lt⟩
theorem ReSt.drew {w : World} {eb : Nat} {s : ByteArray} {en pe : Int} {v : Value} {ls : List Ln} {W : World} {st : St} (h : ReSt w eb s en pe v ls W st) : ReSt w eb s en pe v ls W.drew st :=
  h.step (KeepBut.refl _ _).drew h.rd.drew h.len
theorem reText {w : World} {eb : Nat} {s : ByteArray} {en pe : Int} {v : Value} {ls : List Ln} {W : World} {st : St} (h : ReSt w eb s en pe v ls W st) :
    Calls Tryd.prog 13 #[.pointer (some ⟨w.heap.size + 1, 0, none⟩)] W fun e w' => e = .returned (.string (rdTS st).1) ∧ ReSt w eb s en pe v ls w' (rdTS st).2 ∧ w'.cell? ⟨eb, 3, none⟩ = some v := by
  refine (rtext_any _ st W h.rd h.len).mono ?_
  rintro e w' ⟨rfl, q1, q2⟩
  have := h.step q2 q1 (rdTS_len h.len)
  exact ⟨rfl, this, this.box.c3⟩
theorem reAmount {w : World} {eb : Nat} {s : ByteArray} {en pe : Int} {v : Value} {ls : List Ln} {W : World} {st : St} (h : ReSt w eb s en pe v ls W st) :
    Calls Tryd.prog 16 #[.pointer (some ⟨w.heap.size + 1, 0, none⟩)] W fun e w' => e = .returned (.int .i64 (rdNS (-mostA) mostA st).1) ∧ ReSt w eb s en pe v ls w' (rdNS (-mostA) mostA st).2 ∧ w'.cell? ⟨eb, 3, none⟩ = some v := by
  refine (ramount_any _ st W h.rd h.len).mono ?_
  rintro e w' ⟨rfl, q1, q2⟩
  have := h.step q2 q1 (rdNS_len h.len)
  exact ⟨rfl, this, this.box.c3⟩
theorem cells_line (w : World) (x0 x1 : ByteArray) (x2 : Int) : ∀ j u, ([.string x0, .string x1, .int .i64 x2] : List Value)[j]? = some u → (w.alloc (.cells #[.string x0, .string x1, .int .i64 x2] 47)).cell? ((⟨w.heap.size, 0, none⟩ : Addr).add j) = some u := by
  intro j u hj
  rw [by_add, Nat.zero_add]
  rcases j with _ | _ | _ | j
  · simpa using hj
  · simpa using hj
  · simpa using hj
  · simp at hj

theorem reOwn {w : World} {eb : Nat} {s : ByteArray} {en pe : Int} {v : Value} {ls : List Ln} {W : World} {st : St} {k : Nat} (hfl : ls.length = k) (h : ReSt w eb s en pe v ls W st) (o : Obj) : World.ownsRow (W.alloc o) (eb + 1) 47 3 v k (lnRow ls) := by
  have := World.ownsRow.alloc h.row o
  unfold LnRow at this
  rw [hfl] at this
  exact this
theorem reBase {w : World} {eb : Nat} {s : ByteArray} {en pe : Int} {v : Value} {ls : List Ln} {W : World} {st : St} (h : ReSt w eb s en pe v ls W st) (o : Obj) : eb + 1 ≤ (W.alloc o).heap.size := by
  have := (Array.getElem?_eq_some_iff.1 h.box).1
  simp
  omega
theorem reAfter {w : World} {eb : Nat} {s : ByteArray} {en pe : Int} {v : Value} {ls : List Ln} {W W' : World} {st : St} (h : ReSt w eb s en pe v ls W st) (o : Obj) (hg : (W.alloc o).grownBy W' v.ownBlock) : Box4 W' eb s en pe v :=
  (h.box.alloc o).grow hg (fun j e => h.row.own j e)
theorem reDone {w : World} {eb : Nat} {s : ByteArray} {en pe : Int} {v v' : Value} {ls : List Ln} {W W' : World} {st : St} {k : Nat} {x : Ln} (hfl : ls.length = k) (h : ReSt w eb s en pe v ls W st) (o : Obj) (hg : (W.alloc o).grownBy W' v.ownBlock)
    (hown : World.ownsRow W' (eb + 1) 47 3 v' (k + 1) (lnRow ls ++ x.cells.toList)) : ReSt w eb s en pe v' (ls ++ [x]) (W'.setCell ⟨eb, 3, none⟩ v') st := by
  have hlt := (Array.getElem?_eq_some_iff.1 h.box).1
  have hb := reAfter h o hg
  have B : Below eb W W' := ((Below.refl eb W).alloc (by omega) o).grown hg (by simp; omega) (fun j e => by have := h.row.own j e; omega)
  have B2 : Below eb W (W'.setCell ⟨eb, 3, none⟩ v') := B.setCell (p := ⟨eb, 3, none⟩) (Nat.le_refl _) v'
  have := h.lt
  refine ⟨h.rd.below (B2.mono (by omega)), h.len, ?_, LnRow.setOther ?_ (Nat.lt_succ_self _), h.res.below B2 (by omega), h.bel.trans (B2.mono (by omega)), h.lt⟩
  · unfold Box4 at hb ⊢
    rw [setCell_eq_setRow W' eb 3 _ 25 (0, 0) _ hb, setRow_heap W' eb _ _ 25 (0, 0) hb]
    rfl
  · unfold LnRow
    rw [lnRow_append, lnRow_one, List.length_append, hfl]
    exact hown
section
variable {P : Program} {ops : Array Oper} {Q : Exit → Act → World → Prop} {md : Region.Mode} {T : World → Prop} {g : Nat}
/-- The only one that may come up, ahead of the named one. -/
theorem L_one {i fuel : Nat} {listed : Array Bool} {a : Act} {w : World} (hr : Region.ready md ops listed = [i])
    (h : wpOp P ops Q i (fun a' w' => T w' ∧ wpAnyL P md ops Q g T fuel (listed.setIfInBounds i true) a' w') a w) : wpAnyL P md ops Q g T (fuel + 1) listed a w := by
  refine ⟨(fun h0 => by rw [hr] at h0; simp at h0), fun j hj => ?_⟩
  rw [hr] at hj
  obtain rfl := List.mem_singleton.1 hj
  exact wpOp_mono (fun a' w' h' => ⟨fun _ => h'.1, h'.2⟩) h
end
theorem line_one (x0 x1 : ByteArray) (x2 : Int) : ∀ u ∈ ([.string x0, .string x1, .int .i64 x2] : List Value), u.oneCell' = true := by
  intro u hu; simp at hu; rcases hu with rfl | rfl | rfl <;> rfl

set_option maxHeartbeats 4000000 in
theorem fReadEntry_any (a : Option Addr) (cap : Nat) (l : List UInt8) (w : World) (hl : l.length ≤ 9223372036854775807) (h : IsBy w a l cap) :
    Calls Tryd.prog 5 #[.slice a l.length cap] w fun e w' =>
      (((entS (some l)).2 = none ∧ e = .returned (.tuple #[.agg #[.string ByteArray.empty, .int .i64 0, .int .i64 0, .slice none 0 0], .int .i64 0, enE 9])) ∨
       (∃ r v, (entS (some l)).2 = some r ∧ e = .returned (.tuple #[.agg #[.string (entS (some l)).1.ref, .int .i64 (entS (some l)).1.ent, .int .i64 (entS (some l)).1.per, v], .int .i64 ((l.length : Int) - r.length), .nilIface]) ∧ LnRow w' w.heap.size v (entS (some l)).1.lns)) ∧ Below w.heap.size w w' := by
  obtain ⟨W0, hW0⟩ : ∃ W0, w.alloc (.cells #[.string ByteArray.empty, .int .i64 0, .int .i64 0, .slice none 0 0] 25) = W0 := ⟨_, rfl⟩
  obtain ⟨W1, hW1⟩ : ∃ W1, W0.alloc (.cells #[.slice a l.length cap, .bool false] 49) = W1 := ⟨_, rfl⟩
  have hs0 : W0.heap.size = w.heap.size + 1 := by rw [← hW0]; simp
  have b0 : Below w.heap.size w W0 := by rw [← hW0]; exact (Below.refl _ w).alloc (Nat.le_refl _) _
  have b1 : Below (w.heap.size + 1) W0 W1 := by rw [← hW1]; exact (Below.refl _ _).alloc (by omega) _
  have x0 : Box4 W1 w.heap.size ByteArray.empty 0 0 (.slice none 0 0) := by
    have := Box4.new w ByteArray.empty 0 0 (.slice none 0 0)
    rw [hW0] at this
    exact this.below b1 (Nat.lt_succ_self _)
  have r1 : RdAt W1 (w.heap.size + 1) (some l) := by
    refine ⟨a, cap, ?_, ?_⟩
    · rw [← hW1, ← hs0]; exact RBox.new _ _ _
    · have := (h.below (b0.trans (b1.mono (Nat.le_succ _)))).isBN
      have q := h.isBN
      refine ⟨q.cap, ?_⟩
      rcases q.lies with q | ⟨b, off, e, hlt, hc⟩
      · exact .inl q
      · exact .inr ⟨b, off, e, by omega, fun k hk => ((b0.trans (b1.mono (Nat.le_succ _))).cell (p := ⟨b, off + k, none⟩) hlt).trans (hc k hk)⟩
  have L0 : StLen (some l) := fun l' e => by cases e; exact hl
  have B1 : Below w.heap.size w W1 := b0.trans (b1.mono (Nat.le_succ _))
  have hs1 : W1.heap.size = w.heap.size + 2 := by rw [← hW1]; simp; omega
  have HT : Hid (Calls _ _ _ _ _) := rtext_any _ _ _ r1 L0
  obtain ⟨ee, hee⟩ : ∃ ee, entS (some l) = ee := ⟨_, rfl⟩
  have Hee : Hid (entS (some l) = ee) := hee
  rw [hee]
  unfold entS at Hee
  have L1 := rdTS_len L0
  generalize rdTS (some l) = p1 at *
  obtain ⟨s, st1⟩ := p1
  simp only at Hee HT L1
  have hl' : (l.length : Int) ≤ 9223372036854775807 := by omega
  have Hx0 : Hid (Box4 W1 _ _ _ _ _) := x0
  have HB1 : Hid (Below w.heap.size w W1) := B1
  have HL1 : Hid (StLen st1) := L1
  clear h hee r1 b0 b1 x0 B1 L1 L0
  have HWW : Hid ((w.alloc (.cells #[.string ⟨#[]⟩, .int .i64 0, .int .i64 0, .slice none 0 0] 25)).alloc (.cells #[.slice a l.length cap, .bool false] 49) = W1) := by
    unfold Hid
    rw [← hW1, ← hW0]
    rfl
  clear hW0 hW1
  go_enter Tryd.func5, Tryd.ntmps5
  go_wp2_with fail
  rw [HWW.out]
  clear HWW
  refine HT.out.mono ?_
  rintro e w1 ⟨rfl, q1, k1⟩
  have HS : Hid (Calls _ _ _ _ _) := rsmall_any _ _ _ q1 HL1.out
  have HL2 : Hid (StLen _) := @rdNS_len 0 200 st1 HL1.out
  have Hk1 : Hid (KeepBut _ W1 w1) := k1
  generalize rdNS 0 200 st1 = p2 at *
  obtain ⟨en, st2⟩ := p2
  simp only at Hee HS HL2
  clear HT q1 k1 HL1
  go_wp2_with fail
  refine HS.out.mono ?_
  rintro e w2 ⟨rfl, q2, k2⟩
  have HS2 : Hid (Calls _ _ _ _ _) := rsmall_any _ _ _ q2 HL2.out
  have HL3 : Hid (StLen _) := @rdNS_len 0 200 st2 HL2.out
  have Hk2 : Hid (KeepBut _ W1 w2) := Hk1.out.trans k2
  generalize rdNS 0 200 st2 = p3 at *
  obtain ⟨pe, st3⟩ := p3
  simp only at Hee HS2 HL3
  clear HS q2 k2 HL2 Hk1
  go_wp2_with fail
  refine HS2.out.mono ?_
  rintro e w3 ⟨rfl, q3, k3⟩
  have Hk3 : Hid (KeepBut _ W1 w3) := Hk2.out.trans k3
  have hs3 := Hk3.out.size
  rw [hs1] at hs3
  obtain ⟨W4, hW4⟩ : ∃ W4, w3.alloc (.cells #[.string s, .int .i64 en, .int .i64 pe, .slice none 0 0] 25) = W4 := ⟨_, rfl⟩
  have R4 : ReSt w w3.heap.size s en pe (.slice none 0 0) [] W4 st3 := by
    have b4 : Below w3.heap.size w3 W4 := by rw [← hW4]; exact (Below.refl _ _).alloc (Nat.le_refl _) _
    refine ⟨q3.below (b4.mono (by omega)), HL3.out, by rw [← hW4]; exact Box4.new _ _ _ _ _, LnRow.nil _ _, ?_, ?_, by omega⟩
    · exact ((Hk3.out.box Hx0.out (by omega))).below b4 (by omega)
    · exact (HB1.out.trans (Hk3.out.toBelow (by omega) HB1.out.size)).trans (b4.mono (by omega))
  have HC : Hid (Calls _ _ _ _ _) := rcount_any (w.heap.size + 1) st3 20 W4 R4.rd HL3.out (by omega)
  have HL4 : Hid (StLen _) := @rdNS_len 0 20 st3 HL3.out
  have hrg := @rdNS_range 20 st3 (by omega)
  generalize rdNS 0 20 st3 = p4 at *
  obtain ⟨n4, st4⟩ := p4
  simp only at Hee HC HL4 hrg
  obtain ⟨n, hn⟩ : ∃ n : Nat, n4 = n := ⟨n4.toNat, by omega⟩
  subst hn
  simp only [Int.toNat_natCast] at Hee
  have HR4 : Hid (ReSt _ _ _ _ _ _ _ _ _) := R4
  obtain ⟨eb, heb⟩ : ∃ eb, w3.heap.size = eb := ⟨_, rfl⟩
  rw [heb] at HR4 hs3
  clear HS2 q3 k3 HL3 Hk2 Hk3 R4 Hx0 HB1
  have HW4 : Hid (_ = W4) := hW4
  clear hW4
  go_wp2_with fail
  rw [HW4.out]
  refine HC.out.mono ?_
  rintro e w5 ⟨rfl, q5, k5⟩
  have HR5 : Hid (ReSt w eb s en pe (.slice none 0 0) [] w5 st4) := HR4.out.step k5 q5 HL4.out
  clear HC q5 k5 HL4 HR4 HW4
  have hn20 : n ≤ 20 := by omega
  have hn20' : (n : Int) ≤ 20 := by omega
  have d1 := (HR5.out.rd).lt
  obtain ⟨i0, hi, hz0, hz1, hz2⟩ := info_parts ln_info
  go_wp2
  go_loopw [14] (fun i wr => ∃ k : Nat, k ≤ n ∧ i = .int .i64 k ∧ ∃ v, Hid (ReSt w eb s en pe v (lnsS k st4).1 wr (lnsS k st4).2)) (fun i _ => n - (intOf i).toNat)
  case atStart => exact ⟨0, Nat.zero_le _, rfl, _, HR5⟩
  case round =>
    obtain ⟨k, hk, rfl, v, R⟩ := hrel
    by_cases hlt : k < n
    · have hfl := lnsS_length k st4
      have hnx : lnsS (k + 1) st4 = ((lnsS k st4).1 ++ [(lnS (lnsS k st4).2).1], (lnS (lnsS k st4).2).2) := rfl
      generalize lnsS k st4 = pk at *
      obtain ⟨ls, st⟩ := pk
      simp only at R hfl hnx
      have Hnx : Hid (lnsS (k + 1) st4 = _) := hnx
      obtain ⟨av, cv, ev, _⟩ := R.out.row.isLn
      rw [hfl] at ev
      subst ev
      have c3 := R.out.box.c3
      have j1 : (k : Int) < n := by omega
      have T0 := R.out.drew
      have s2 : Hid (k + 1 ≤ maxLen) := by unfold Hid maxLen; omega
      have s3 : Hid ((k + 1) * 40 ≤ 140737488355328) := by unfold Hid; omega
      clear hnx
      go_wp2_with fail
      refine wp_region_any (by kernel_rfl) ?_
      refine wpAny_take (i := 0) (v := .pointer (some ⟨eb, 3, none⟩)) rfl (by kernel_rfl) (by kernel_rfl) (by kernel_rfl) (fun _ _ _ h => h) (Or.inl ⟨by rfl, fun w => by go_simp⟩) ?_
      simp only [Act.put, List.setIfInBounds_toArray, List.set_cons_zero, List.set_cons_succ]
      refine any_of_L (g := 7) (T := fun u => u.cell? ⟨eb, 3, none⟩ = some (.slice av k cv)) _ _ _ _ ?_
      refine L_take (i := 1) (v := .slice av k cv) rfl rfl (by kernel_rfl) (by decide) (by kernel_rfl) (by kernel_rfl) (by kernel_rfl) (by kernel_rfl) (fun _ _ _ h => h) (Or.inl ⟨by rfl, fun w' hw' => by go_simp⟩) T0.box.c3 ?_
      simp only [Act.put, List.setIfInBounds_toArray, List.set_cons_zero, List.set_cons_succ]
      refine L_one (i := 2) (by kernel_rfl) ?_
      refine wpOp_step rfl (fun K hK => ?_)
      rw [if_pos (by rfl)]
      go_wp2_with fail
      refine (reText T0).mono ?_
      rintro e u1 ⟨rfl, T1, c1⟩
      refine hK _ _ ⟨c1, ?_⟩
      clear hK K
      refine L_one (i := 3) (by kernel_rfl) ?_
      refine wpOp_step rfl (fun K hK => ?_)
      rw [if_pos (by rfl)]
      go_wp2_with fail
      refine (reText T1).mono ?_
      rintro e u2 ⟨rfl, T2, c2⟩
      refine hK _ _ ⟨c2, ?_⟩
      clear hK K
      refine L_one (i := 4) (by kernel_rfl) ?_
      refine wpOp_step rfl (fun K hK => ?_)
      rw [if_pos (by rfl)]
      go_wp2_with fail
      refine (reAmount T2).mono ?_
      rintro e u3 ⟨rfl, T3, c3'⟩
      refine hK _ _ ⟨c3', ?_⟩
      clear hK K
      refine L_one (i := 5) (by kernel_rfl) ?_
      refine wpOp_step rfl (fun K hK => ?_)
      rw [if_pos (by rfl)]
      have hK' : Shut (∀ a w, _ ∧ wpAnyL _ _ _ _ _ _ _ _ a w → K a w) := hK
      clear hK
      go_wp2
      refine hK'.out _ _ ⟨c3', ?_⟩
      clear hK' K
      refine L_one (i := 6) (by kernel_rfl) ?_
      refine wpOp_step rfl (fun K hK => ?_)
      rw [if_pos (by rfl)]
      have hK' : Shut (∀ a w, _ ∧ wpAnyL _ _ _ _ _ _ _ _ a w → K a w) := hK
      clear hK
      go_wp2
      refine hK'.out _ _ ⟨(T3.box.alloc _).c3, ?_⟩
      clear hK' K
      refine L_go (by kernel_rfl) (by kernel_rfl) ?_
      refine wpOp_step rfl (fun K hK => ?_)
      refine step_append_lies _ rfl (.tmp 17) (.tmp 22) 23 rfl (eb + 1) 47 i0 (.agg #[.string ByteArray.empty, .string ByteArray.empty, .int .i64 0]) 3 40 Tryd.underlying23 hi hz0 hz1 hz2 rfl (Nat.zero_lt_succ _) (.slice av k cv) k (lnRow ls) rfl (reOwn hfl T3 _) ⟨u3.heap.size, 0, none⟩ 1 1 [.string (rdTS st).1, .string (rdTS (rdTS st).2).1, .int .i64 (rdNS (-mostA) mostA (rdTS (rdTS st).2).2).1] rfl rfl (cells_line _ _ _ _) (line_one _ _ _) (Nat.zero_lt_one) s2.out s3.out (reBase T3 _) (u3.heap.size + 1) (by simp) ?_
      intro g' cap' w4 hown' hgrow hat hlt2
      refine hK _ _ ?_
      clear hK K
      have bx := reAfter T3 _ hgrow
      have cx := bx.c3
      have fx := bx.fz 3
      have HD : Hid (ReSt w eb s en pe (.slice (some ⟨g', 0, none⟩) (k + 1) cap') (lnsS (k + 1) st4).1 (w4.setCell ⟨eb, 3, none⟩ (.slice (some ⟨g', 0, none⟩) (k + 1) cap')) (lnsS (k + 1) st4).2) := by
        unfold Hid
        rw [Hnx.out]
        exact reDone hfl T3 _ hgrow hown'
      clear hown' hgrow hat T0 T1 T2 T3 R bx
      refine wpAny_take (i := 8) (v := .pointer (some ⟨eb, 3, none⟩)) rfl (by kernel_rfl) (by kernel_rfl) (by kernel_rfl) (fun _ _ _ h => h) (Or.inl ⟨by rfl, fun w => by go_simp⟩) ?_
      simp only [Act.put, List.setIfInBounds_toArray, List.set_cons_zero, List.set_cons_succ]
      refine any_one (i := 9) (by kernel_rfl) ?_
      refine wpOp_step rfl (fun K hK => ?_)
      rw [if_pos (by rfl)]
      have hK' : Shut (∀ a w, wpAny _ _ _ _ _ _ a w → K a w) := hK
      clear hK
      go_wp2
      refine hK'.out _ _ ?_
      clear hK' K
      refine wpAny_done (by kernel_rfl) ?_ _
      go_wp2
      go_roundw
      case rel => exact ⟨k + 1, by omega, by go_num, _, HD⟩
      case measure => simp [intOf]; omega
    · have hk2 : k = n := by omega
      subst hk2
      have hR := R.out
      have he1 := Hee.out
      generalize lnsS k st4 = pk at *
      obtain ⟨ls, st⟩ := pk
      simp only at hR he1
      subst he1
      obtain ⟨av, cv, ev, _⟩ := hR.row.isLn
      subst ev
      have HR : Hid (ReSt _ _ _ _ _ _ _ _ _) := hR
      have g0 := hR.res.c0
      have g1 := hR.res.c1
      have g2 := hR.res.c2
      have g3 := hR.res.c3
      have f0 := hR.res.fz 0
      have f1 := hR.res.fz 1
      have f2 := hR.res.fz 2
      have f3 := hR.res.fz 3
      clear R Hee
      cases st with
      | none =>
        have c1 := RBox.c1 hR.rd
        clear hR
        go_wp2
        exact bodyPost_ret (v := .tuple #[.agg #[.string ByteArray.empty, .int .i64 0, .int .i64 0, .slice none 0 0], .int .i64 0, .iface 52 (.int .i64 9)]) (by simp [results, Tryd.results5, go_sem, g0, g1, g2, g3]; rfl) rfl ⟨rfl, ((((HR.out.bel.setCell (p := ⟨w.heap.size, 0, none⟩) (by simp) _).setCell (p := ⟨w.heap.size, 1, none⟩) (by simp) _).setCell (p := ⟨w.heap.size, 2, none⟩) (by simp) _).setCell (p := ⟨w.heap.size, 3, none⟩) (by simp) _)⟩
      | some r =>
        obtain ⟨ar, cr, x, _⟩ := hR.rd
        have c1 := x.c1
        have c0 := x.c0
        have e0 := hR.box.c0
        have e1 := hR.box.c1
        have e2 := hR.box.c2
        have e3 := hR.box.c3
        have hne1 : eb ≠ w.heap.size := by have := hR.lt; omega
        have hne2 : w.heap.size + 1 ≠ w.heap.size := by omega
        have hrl : (r.length : Int) ≤ 9223372036854775807 := by have := hR.len r rfl; omega
        have KX := (((((KeepBut.refl w.heap.size wr).set 0 (.string s)).set 1 (.int .i64 en)).set 2 (.int .i64 pe)).set 3 (.slice av ls.length cv)).drew
        have hbl : eb < wr.heap.size := (Array.getElem?_eq_some_iff.1 hR.box).1
        have hrl2 := x.lt
        have RS := And.intro (And.intro ((KX.cell (p := ⟨eb, 0, none⟩) hbl hne1).trans e0) (And.intro ((KX.cell (p := ⟨eb, 1, none⟩) hbl hne1).trans e1) (And.intro ((KX.cell (p := ⟨eb, 2, none⟩) hbl hne1).trans e2) ((KX.cell (p := ⟨eb, 3, none⟩) hbl hne1).trans e3)))) ((KX.cell (p := ⟨w.heap.size + 1, 0, none⟩) hrl2 hne2).trans c0)
        have HRS : Hid _ := RS
        have hwr : IntKind.i64.wrap ((l.length : Int) - r.length) = (l.length : Int) - r.length := by
          simp only [IntKind.wrap, IntKind.bits, IntKind.signed]
          simp
          omega
        have HKB : Hid (Below w.heap.size w ((((wr.setCell ⟨w.heap.size, 0, none⟩ (.string s)).setCell ⟨w.heap.size, 1, none⟩ (.int .i64 en)).setCell ⟨w.heap.size, 2, none⟩ (.int .i64 pe)).setCell ⟨w.heap.size, 3, none⟩ (.slice av ls.length cv)).drew) := HR.out.bel.trans (KX.toBelow (Nat.le_refl _) HR.out.bel.size)
        have HRow : Hid (LnRow ((((wr.setCell ⟨w.heap.size, 0, none⟩ (.string s)).setCell ⟨w.heap.size, 1, none⟩ (.int .i64 en)).setCell ⟨w.heap.size, 2, none⟩ (.int .i64 pe)).setCell ⟨w.heap.size, 3, none⟩ (.slice av ls.length cv)).drew w.heap.size (.slice av ls.length cv) ls) := by
          have := hR.lt
          exact (KX.row hR.row (by omega)).mono (by omega)
        clear hR x RS KX
        go_wp2_with fail
        go_region_held3 (fun u => (u.cell? ⟨eb, 0, none⟩ = some (.string s) ∧ u.cell? ⟨eb, 1, none⟩ = some (.int .i64 en) ∧ u.cell? ⟨eb, 2, none⟩ = some (.int .i64 pe) ∧ u.cell? ⟨eb, 3, none⟩ = some (.slice av ls.length cv)) ∧ u.cell? ⟨w.heap.size + 1, 0, none⟩ = some (.slice ar r.length cr)) (first | exact HRS.out | go_keep) (fail)
        go_wp2
        refine bodyPost_ret (v := .tuple #[.agg #[.string s, .int .i64 en, .int .i64 pe, .slice av ls.length cv], .int .i64 ((l.length : Int) - r.length), .nilIface]) (by simp [results, Tryd.results5, go_sem, g0, g1, g2, g3, hwr]) rfl ?_
        exact ⟨⟨_, rfl, HRow.out⟩, HKB.out⟩
end Go.Proofs.YtheabcdncildiaaDoor
