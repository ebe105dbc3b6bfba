/-
  The walk of daylaw2.BlockPlays.
-/
import Derived.Test.YtofmhjeojjdagaaDoorBkP0
import Derived.Deep.CutRange
import Derived.Deep.CutBlock
import Derived.WalkLawsBesides
namespace Go.Proofs.YtofmhjeojjdagaaDoor
set_option linter.unusedVariables false
set_option linter.unusedSimpArgs false
set_option maxRecDepth 100000
open Go.RowKit Go.Lib

/-- The first four numbers of a list, and 0. -/
def va (l : List Int) : Array Value := #[.int .i64 (l.getD 0 0), .int .i64 (l.getD 1 0), .int .i64 (l.getD 2 0), .int .i64 (l.getD 3 0)]
theorem va_set (l : List Int) (j : Nat) (hj : j < l.length) (h4 : j < 4) : (va (l.take j)).setIfInBounds j (.int .i64 (l.getD j 0)) = va (l.take (j + 1)) := by
  have e : ∀ i, i < j → (l.take j).getD i 0 = (l.take (j + 1)).getD i 0 := fun i hi => by
    simp only [List.getD_eq_getElem?_getD, List.getElem?_take]
    rw [if_pos hi, if_pos (by omega)]
  have e2 : (l.take (j + 1)).getD j 0 = l.getD j 0 := by
    simp only [List.getD_eq_getElem?_getD, List.getElem?_take]
    rw [if_pos (by omega)]
  have e3 : ∀ i, j < i → (l.take j).getD i 0 = (l.take (j + 1)).getD i 0 := fun i hi => by
    simp only [List.getD_eq_getElem?_getD, List.getElem?_take]
    rw [if_neg (by omega), if_neg (by omega)]
  match j, h4 with
  | 0, _ => simp only [va]; rw [← e2, e3 1 (by omega), e3 2 (by omega), e3 3 (by omega)]; rfl
  | 1, _ => simp only [va]; rw [← e2, e 0 (by omega), e3 2 (by omega), e3 3 (by omega)]; rfl
  | 2, _ => simp only [va]; rw [← e2, e 0 (by omega), e 1 (by omega), e3 3 (by omega)]; rfl
  | 3, _ => simp only [va]; rw [← e2, e 0 (by omega), e 1 (by omega), e 2 (by omega)]; rfl
theorem va_get (l : List Int) (j : Nat) (h4 : j < 4) : (va l)[j]? = some (.int .i64 (l.getD j 0)) := by
  match j, h4 with
  | 0, _ => rfl
  | 1, _ => rfl
  | 2, _ => rfl
  | 3, _ => rfl
theorem va_take (l : List Int) (j : Nat) (h : j = 4 ∨ l.length ≤ j) : va (l.take j) = va l := by
  rcases h with rfl | h
  · have e : ∀ i, i < 4 → (l.take 4).getD i 0 = l.getD i 0 := fun i hi => by
      simp only [List.getD_eq_getElem?_getD, List.getElem?_take]
      rw [if_pos hi]
    simp only [va]
    rw [e 0 (by omega), e 1 (by omega), e 2 (by omega), e 3 (by omega)]
  · rw [List.take_of_length_le h]
theorem alloc_v (w : World) : (Instr.alloc 31 true (.tuple #[])).run Tryd.prog w = .ok (.pointer (some ⟨w.heap.size, 0, none⟩)) (w.alloc (.cells (va []) 31)) := by
  have hz0 : (Tryd.prog.info? 31).map (·.zero) = some (some (.agg (va []))) := by kernel_rfl
  cases hq : Tryd.prog.info? 31 with
  | none => simp [hq] at hz0
  | some q =>
    have hz : q.zero = some (.agg (va [])) := by simpa [hq] using hz0
    simp [Instr.alloc, zeroValue, typeInfo, hq, hz, newVar, newRow, Value.cells]

theorem in_under : Tryd.prog.underlying 32 = some (.slice (Tryd.prog.elem 32)) := by kernel_rfl
theorem in_size : (sizeOf (Tryd.prog.elem 32)).run Tryd.prog = fun W => .ok 1 W := by kernel_rfl
/-- 's[1:]'. -/
theorem run_inDrop {w : World} {a : Option Addr} {l : List Int} {cap : Nat} (h : IsIn w a l cap) (hl : 0 < l.length) :
    ∃ a' c', (∀ W, (Instr.slice 32 (.slice a l.length cap) (some (.int .i64 1)) none none).run Tryd.prog W = .ok (.slice a' (l.drop 1).length c') W) ∧ IsIn w a' (l.drop 1) c' := by
  have hc := h.cap
  have hd : (l.drop 1).length = l.length - 1 := by simp
  refine ⟨if cap = 1 then a else a.map (·.add (1 * 1)), cap - 1, fun W => ?_, ?_, ?_⟩
  · rw [run_slice_l W 32 a l.length cap in_under .i64 1 (by omega) (by omega), in_size]
    simp [Result.andThen, sliced]
  · rw [hd]; omega
  · by_cases h0 : l.drop 1 = []
    · exact .inl h0
    · right
      have hp : 0 < (l.drop 1).length := List.length_pos_iff.2 h0
      rcases h.lies with rfl | ⟨b, off, rfl, hlt, hcs⟩
      · simp at hl
      · refine ⟨b, off + 1, ?_, hlt, fun i hi => ?_⟩
        · rw [if_neg (by omega)]
          simp [Addr.add_mid]
        · have e := hcs (1 + i) (by omega)
          rw [show off + 1 + i = off + (1 + i) by omega, e]
          simp [List.getD_eq_getElem?_getD, Nat.add_comm]
theorem set_twice {W : World} {b : Nat} {cs : Array Value} {t : TypeId} (h : W.heap[b]? = some (.cells cs t (0, 0))) (o : Nat) (x y : Value) : (W.setCell ⟨b, o, none⟩ x).setCell ⟨b, o, none⟩ y = W.setCell ⟨b, o, none⟩ y := by
  rw [setCell_eq_setRow W b o cs t (0, 0) x h, setCell_eq_setRow _ b o _ t (0, 0) y (setRow_heap W b _ _ t (0, 0) h), setRow_setRow, setCell_eq_setRow W b o cs t (0, 0) y h]
  simp
/-- The number of steps that may be done is set. -/
theorem IsK.setStop {W : World} {lo kp : Nat} {D : Dk} (h : IsK W lo kp D) (f : Int) : IsK (W.setCell ⟨kp, 4, none⟩ (.int .i64 (stopOf f))) lo kp { D with fail := f } ∧ Keeps lo kT W (W.setCell ⟨kp, 4, none⟩ (.int .i64 (stopOf f))) := by
  obtain ⟨vn, vs, vw, ns, ss, ws, h⟩ := h
  exact ⟨⟨vn, vs, vw, ns, ss, ws, h.num 4 _ _ rfl rfl rfl rfl⟩, (Keeps.refl lo kT W).setCell (o := 4) h.box (by simp [kT]) h.lk _⟩
theorem IsK.boxed {W : World} {lo kp : Nat} {D : Dk} (h : IsK W lo kp D) : ∃ cs, W.heap[kp]? = some (.cells cs 44 (0, 0)) ∧ W.cell? ⟨kp, 4, none⟩ = some (.int .i64 (stopOf D.fail)) ∧ W.frozen? ⟨kp, 4, none⟩ = false := by
  obtain ⟨vn, vs, vw, ns, ss, ws, h⟩ := h
  exact ⟨_, h.box, h.c4, h.fz 4⟩
theorem eqn_some (g : Nat) (W : World) : (binOp .eql 33 (.slice (some ⟨g, 0, none⟩) 64 64) (.slice none 0 0)).run Tryd.prog W = .ok (.bool false) W := by kernel_rfl
theorem eqn_none (W : World) : (binOp .eql 33 (.slice none 0 0) (.slice none 0 0)).run Tryd.prog W = .ok (.bool true) W := by kernel_rfl
theorem crash_few (D : Dk) (keep : List Int) (torn : Int) (i : Nat) : (D.crash keep torn).few i := ⟨by simp [Dk.crash], by simp [Dk.crash]⟩

set_option maxHeartbeats 16000000 in
theorem plays_in (n : Nat) (a : Option Addr) (rs : List Rw) (cap : Nat) (w : World) (hg : ErrT w) (hn1 : 1 ≤ n) (hn2 : n ≤ 200) (hrs : IsRs w a rs cap) (hrl : rs.length ≤ 9223372036854775807) :
    Calls Tryd.prog 3 #[.int .i64 (n : Int), .slice a rs.length cap] w fun e w' => e = .returned (.bool true) ∧ Below w.heap.size w w' := by
  have HN : Hid (Calls _ _ _ _ _) := tn_new n w hn1 hn2
  have HG : Hid (ErrT w) := hg
  have HRS : Hid (IsRs w a rs cap) := hrs
  have n1 : (1 : Int) ≤ n := by omega
  have n2 : (n : Int) ≤ 200 := by omega
  have hrl' : (rs.length : Int) ≤ 9223372036854775807 := by omega
  clear hg hrs
  go_enter Tryd.func3, Tryd.ntmps3
  go_wp2_with fail
  refine HN.out.mono ?_
  rintro e w1 ⟨p, nb, sb, rfl, H1⟩
  have HE : Hid (Calls _ _ _ _ _) := err_true (E := .nilIface) (c := 0) (.inl ⟨rfl, rfl⟩) w1 (HG.out.below H1.out.2 (Nat.le_refl _))
  clear HN
  go_wp2_with fail
  refine HE.out.mono ?_
  rintro e w2 ⟨rfl, hb2⟩
  have T2 := H1.out.below hb2
  have HK : Hid (Calls _ _ _ _ _) := knew_ok n w2 hn2
  clear HE hb2 H1
  go_wp2_with fail
  refine HK.out.mono ?_
  rintro e w3 ⟨kp, rfl, hk3⟩
  have H3 : Hid (PSx w w3 p nb sb kp n 0) := by
    obtain ⟨⟨vn, vs, vw, ns, ss, ws, hk⟩, hb⟩ := hk3.out
    have hsz := T2.2.size
    refine ⟨_, _, T2.below hb, ⟨vn, vs, vw, ns, ss, ws, hk.box, Nat.le_trans hsz hk.lk, ?_, ?_, ?_, hk.ne, hk.hn, hk.hs, hk.hw, hk.o1, hk.o2⟩, ⟨by simp [dk0], by simp [dk0]⟩, by simp [dk0]⟩
    · exact own_low hk.now hsz
    · exact own_low hk.safe hsz
    · exact own_low hk.since hsz
  clear HK hk3 T2
  go_wp2_with fail
  go_loopw [8, 10] (fun t i wr => ∃ m : Nat, m ≤ 60 ∧ t = .bool true ∧ i = .int .i64 m ∧ Hid (PSx w wr p nb sb kp n m)) (fun _ i _ => 60 - (intOf i).toNat)
  case atStart => exact ⟨0, by omega, rfl, rfl, H3⟩
  case round =>
    obtain ⟨m, hm, rfl, rfl, H⟩ := hrel
    by_cases hlt : m < rs.length ∧ m < 60
    · obtain ⟨hlt1, hlt2⟩ := hlt
      have m0 : (0 : Int) ≤ m := by omega
      have m1 : (m : Int) < rs.length := by omega
      have m2 : (m : Int) < 60 := by omega
      have hal := alloc_v
      obtain ⟨cv, D, hps⟩ := H.out
      have hrs := HRS.out.below hps.tn.2
      have hmem : rs.getD m rw0 ∈ rs := by
        rw [List.getD_eq_getElem?_getD, List.getElem?_eq_getElem hlt1]; exact List.getElem_mem hlt1
      obtain ⟨hrow, hrowl⟩ := hrs.rows _ hmem
      have hroww := (HRS.out.rows _ hmem).1
      obtain ⟨b0, off0, rfl, hb0w, hcRw⟩ : ∃ b off, a = some ⟨b, off, none⟩ ∧ b < w.heap.size ∧ w.cell? ⟨b, off + m, none⟩ = some (.slice (rs.getD m rw0).ad (rs.getD m rw0).l.length (rs.getD m rw0).cap) := by
        rcases HRS.out.lies with e | ⟨b, off, e, h1, h2⟩
        · subst e; simp at hlt1
        · exact ⟨b, off, e, h1, h2 m hlt1⟩
      have hb0 : b0 < wr.heap.size := Nat.lt_of_lt_of_le hb0w hps.tn.2.size
      have hcR0 := (hps.tn.2.cell (p := ⟨b0, off0 + m, none⟩) hb0w).trans hcRw
      generalize rs.getD m rw0 = r at *
      obtain ⟨ra, rl, rc⟩ := r
      simp only at hrow hrowl hcR0 hroww hcRw
      have HcU : Hid (∀ U, Below w.heap.size w U → U.cell? ⟨b0, off0 + m, none⟩ = some (.slice ra rl.length rc)) := fun U hU => (hU.cell (p := ⟨b0, off0 + m, none⟩) hb0w).trans hcRw
      clear hcRw
      have HROWw : Hid (IsIn w ra rl rc) := hroww
      clear hroww
      have hcR : ∀ X, (wr.alloc (.cells X 31)).cell? ⟨b0, off0 + m, none⟩ = some (.slice ra rl.length rc) := fun X => (World.cell?_alloc_lt _ _ _ hb0).trans hcR0
      have HE : Hid (∀ X j, j < rl.length → ∃ b1 off1, ra = some ⟨b1, off1, none⟩ ∧ (wr.alloc (.cells X 31)).cell? ⟨b1, off1 + j, none⟩ = some (.int .i64 (rl.getD j 0))) := by
        intro X j hj
        rcases hrow.lies with e | ⟨b, off, e, h1, h2⟩
        · subst e; simp at hj
        · exact ⟨b, off, e, (World.cell?_alloc_lt _ _ _ h1).trans (h2 j hj)⟩
      have HROW : Hid (IsIn wr ra rl rc) := hrow
      have hrowl' : (rl.length : Int) ≤ 9223372036854775807 := by omega
      have HPS : Hid (PS w wr p nb sb kp cv n D m) := hps
      clear H hps hrs hmem hrow hcR0
      go_upto_block 2 with (refine wpList_alloc_run rfl 31 rfl (hal _) ?_)
      go_cut [12] from 40 to 193 (fun t wx => wx = wr.alloc (.cells (va rl) 31))
      case first =>
        clear hal
        go_wp2_with fail
        go_loopw [12] (fun t wq => ∃ j : Nat, j ≤ 4 ∧ j ≤ rl.length ∧ t = .int .i64 j ∧ wq = wr.alloc (.cells (va (rl.take j)) 31)) (fun t _ => 4 - (intOf t).toNat)
        case atStart => exact ⟨0, by omega, by omega, rfl, by simp⟩
        case round =>
          rename World => wq
          obtain ⟨j, hj4, hjl, rfl, rfl⟩ := hrel
          by_cases hj : j < rl.length ∧ j < 4
          · obtain ⟨b1, off1, rfl, hce⟩ := HE.out (va (rl.take j)) j hj.1
            have hset := va_set rl j hj.1 hj.2
            have hget := va_get (rl.take j) j hj.2
            have j0 : (0 : Int) ≤ j := by omega
            have j1 : (j : Int) < rl.length := by omega
            have j2 : (j : Int) < 4 := by omega
            generalize rl.getD j 0 = x at *
            generalize (rl.take j).getD j 0 = z at *
            go_wp2_with fail
            go_roundw
            case rel => exact ⟨j + 1, by omega, by omega, by go_num, by first | rfl | trivial⟩
            case measure => simp [intOf]; omega
          · have hv := va_take rl j (by omega)
            rw [hv]
            by_cases hjj : j < rl.length
            · have j2 : ¬ (j : Int) < 4 := by omega
              have j1 : (j : Int) < rl.length := by omega
              go_wp2_with fail
              go_meet
              first | rfl | trivial
            · have j1 : ¬ (j : Int) < rl.length := by omega
              go_wp2_with fail
              go_meet
              first | rfl | trivial
      case rest =>
        clear hal HE
        subst hcut
        have hps1 := HPS.out.below ((Below.refl _ wr).alloc (Nat.le_refl _) (.cells (va rl) 31))
        have hbx := new_heap wr (.cells (va rl) 31)
        have hrow1 := HROW.out.below ((Below.refl _ wr).alloc (Nat.le_refl _) (.cells (va rl) 31))
        have cR := hcR (va rl)
        have hltB : wr.heap.size < (wr.alloc (.cells (va rl) 31)).heap.size := by simp
        generalize wr.alloc (.cells (va rl) 31) = W1 at *
        generalize wr.heap.size = B at *
        have HV : Hid (∀ U : World, U.heap[B]? = some (.cells (va rl) 31 (0, 0)) → U.cell? ⟨B, 0, none⟩ = some (.int .i64 (rl.getD 0 0)) ∧ U.cell? ⟨B, 1, none⟩ = some (.int .i64 (rl.getD 1 0)) ∧ U.cell? ⟨B, 2, none⟩ = some (.int .i64 (rl.getD 2 0))) := by
          intro U hU
          simp [World.cell?, hU, va]
        have HPS1 : Hid (PS w W1 p nb sb kp cv n D m) := hps1
        have HROW1 : Hid (IsIn W1 ra rl rc) := hrow1
        have HBX : Hid (W1.heap[B]? = some (.cells (va rl) 31 (0, 0))) := hbx
        obtain ⟨d0, d1, d2⟩ := HV.out W1 hbx
        clear hps1 hrow1 HROW HPS hcR hbx
        have HL : Hid (rl.getD 0 0 = 4 → 0 < rl.length) := by
          intro h4
          rcases rl with _ | ⟨y, ys⟩
          · simp at h4
          · simp
        have HDRP : Hid (rl.getD 1 0 = (rl.drop 1).getD 0 0) := by
          unfold Hid
          simp [List.getD_eq_getElem?_getD]
        generalize hv0 : rl.getD 0 0 = v0 at *
        generalize hv1 : rl.getD 1 0 = v1 at *
        generalize hv2 : rl.getD 2 0 = v2 at *
        clear hv0 hv1 hv2
        go_upto_block 4 with fail
        go_cut [8, 13] from 40 to 193 (fun t b wx => t = .bool true ∧ Hid (PSx w wx p nb sb kp n (m + 1)))
        case first =>
          by_cases h012 : v0 = 0 ∨ v0 = 1 ∨ v0 = 2
          · have HBO : Hid (Calls _ _ _ _ _) := bytesOf_any v2 W1
            have Hgo : Hid (∀ w2 ab cb, ByRow w2 W1.heap.size (.slice ab (bysOf v2).length cb) (bysOf v2) → Below W1.heap.size W1 w2 → PS w w2.drew p nb sb kp cv n D m ∧ w2.drew.heap[B]? = some (.cells (va rl) 31 (0, 0)) ∧ ByRow w2.drew W1.heap.size (.slice ab (bysOf v2).length cb) (bysOf v2)) := by
              intro w2 ab cb hr hb
              have hst := (Still.drew w2).below w2.heap.size
              exact ⟨(HPS1.out.below hb).below hst, (hb.block B hltB).trans HBX.out, hr.below hst⟩
            rcases h012 with rfl | rfl | rfl <;> (
              go_wp2_with fail
              refine HBO.out.mono ?_
              rintro e w2 ⟨ab, cb, rfl, hrow2, hb2⟩
              obtain ⟨hp3, hB3, hr3⟩ := Hgo.out w2 ab cb hrow2.out hb2.out
              have HC1 : Hid (Calls _ _ _ _ _) := tn_wr hp3.tn v1 ab (bysOf v2) cb hn2 (by have := hp3.few.steps; omega) (by have := hp3.few.chg; omega) hr3.isBy'
              have cB3 := (HV.out _ hB3).2.1
              have HPS3 : Hid (PS w w2.drew p nb sb kp cv n D m) := hp3
              have HR3 : Hid (ByRow w2.drew W1.heap.size (.slice ab (bysOf v2).length cb) (bysOf v2)) := hr3
              have HB3 : Hid (w2.drew.heap[B]? = some (.cells (va rl) 31 (0, 0))) := hB3
              clear HBO Hgo hp3 hr3 hB3 hrow2 hb2
              obtain ⟨bl, hbl⟩ : ∃ bl, bysOf v2 = bl := ⟨_, rfl⟩
              rw [hbl] at HC1 HR3 ⊢
              clear hbl
              go_wp2_with fail
              refine wp_region_drawn (by kernel_rfl) ?_
              refine wpAny_take (i := 0) (v := .pointer (some ⟨p, 0, none⟩)) rfl (by kernel_rfl) (by kernel_rfl) (by kernel_rfl) (fun _ _ _ h => h) (Or.inl ⟨by rfl, fun w => by go_simp⟩) ?_
              simp only [Act.put, List.getElem_toArray, List.getElem_cons_succ, List.getElem_cons_zero, List.setIfInBounds_toArray, List.set_cons_zero, List.set_cons_succ]
              refine wpAny_take (i := 1) (v := .pointer (some ⟨B, 1, none⟩)) rfl (by kernel_rfl) (by kernel_rfl) (by kernel_rfl) (fun _ _ _ h => h) (Or.inl ⟨by rfl, fun w => by go_simp⟩) ?_
              simp only [Act.put, List.getElem_toArray, List.getElem_cons_succ, List.getElem_cons_zero, List.setIfInBounds_toArray, List.set_cons_zero, List.set_cons_succ]
              refine wpAny_take (i := 3) (v := .slice ab bl.length cb) rfl (by kernel_rfl) (by kernel_rfl) (by kernel_rfl) (fun _ _ _ h => h) (Or.inl ⟨by rfl, fun w => by go_simp⟩) ?_
              simp only [Act.put, List.getElem_toArray, List.getElem_cons_succ, List.getElem_cons_zero, List.setIfInBounds_toArray, List.set_cons_zero, List.set_cons_succ]
              refine wpAny_take (i := 5) (v := .pointer (some ⟨kp, 0, none⟩)) rfl (by kernel_rfl) (by kernel_rfl) (by kernel_rfl) (fun _ _ _ h => h) (Or.inl ⟨by rfl, fun w => by go_simp⟩) ?_
              simp only [Act.put, List.getElem_toArray, List.getElem_cons_succ, List.getElem_cons_zero, List.setIfInBounds_toArray, List.set_cons_zero, List.set_cons_succ]
              refine wpAny_take (i := 6) (v := .pointer (some ⟨B, 1, none⟩)) rfl (by kernel_rfl) (by kernel_rfl) (by kernel_rfl) (fun _ _ _ h => h) (Or.inl ⟨by rfl, fun w => by go_simp⟩) ?_
              simp only [Act.put, List.getElem_toArray, List.getElem_cons_succ, List.getElem_cons_zero, List.setIfInBounds_toArray, List.set_cons_zero, List.set_cons_succ]
              refine wpAny_take (i := 8) (v := .slice ab bl.length cb) rfl (by kernel_rfl) (by kernel_rfl) (by kernel_rfl) (fun _ _ _ h => h) (Or.inl ⟨by rfl, fun w => by go_simp⟩) ?_
              simp only [Act.put, List.getElem_toArray, List.getElem_cons_succ, List.getElem_cons_zero, List.setIfInBounds_toArray, List.set_cons_zero, List.set_cons_succ]
              refine any_of_L (g := 9) (T := fun u => u.cell? ⟨B, 1, none⟩ = some (.int .i64 v1)) _ _ _ _ ?_
              refine L_take2 (i := 2) (m := 4) (v := .int .i64 v1) rfl rfl rfl (by kernel_rfl) (by kernel_rfl) (by decide) (by kernel_rfl) (by kernel_rfl) (by kernel_rfl) (by kernel_rfl) (by kernel_rfl) (fun _ _ _ h => h) (Or.inl ⟨by rfl, fun w' hw' => by go_simp⟩) cB3 ?_
              simp only [Act.put, List.getElem_toArray, List.getElem_cons_succ, List.getElem_cons_zero, List.setIfInBounds_toArray, List.set_cons_zero, List.set_cons_succ]
              refine L_take (i := 7) (v := .int .i64 v1) rfl rfl (by kernel_rfl) (by decide) (by kernel_rfl) (by kernel_rfl) (by kernel_rfl) (by kernel_rfl) (fun _ _ _ h => h) (Or.inl ⟨by rfl, fun w' hw' => by go_simp⟩) cB3 ?_
              simp only [Act.put, List.getElem_toArray, List.getElem_cons_succ, List.getElem_cons_zero, List.setIfInBounds_toArray, List.set_cons_zero, List.set_cons_succ]
              refine L_one (i := 4) (by kernel_rfl) ?_
              refine wpOp_step rfl ?_
              intro K hK
              rw [if_pos (by rfl)]
              have hK' : Shut (∀ a w, _ → K a w) := hK
              clear hK
              go_wp2_with fail
              refine HC1.out.mono ?_
              rintro e w4 ⟨rfl, cv4, h4, hk4⟩
              have hB4 := hk4.out.row HB3.out (by decide)
              have cB4 := (HV.out _ hB4).2.1
              have hkk4 := HPS3.out.k.keepsD hk4.out
              have hr4 := HR3.out.keeps hk4.out
              have HC2 : Hid (Calls _ _ _ _ _) := kwr (w := w) (p := p) (nb := nb) (sb := sb) (i := m) (cv := cv) (D0 := D) hkk4 h4.out.2.size (nowL HPS3.out.tn) v1 ab bl cb (by have := HPS3.out.few.steps; omega) (by have := HPS3.out.few.chg; omega) hr4.isBy'
              clear HC1 hkk4 hr4 HR3 cB3 HB3
              refine hK'.out _ _ ⟨cB4, ?_⟩
              clear hK' K
              try simp only [Act.put, List.getElem_toArray, List.getElem_cons_succ, List.getElem_cons_zero, List.setIfInBounds_toArray, List.set_cons_zero, List.set_cons_succ]
              refine L_go (by kernel_rfl) (by kernel_rfl) ?_
              refine wpOp_step rfl ?_
              intro K hK
              rw [if_pos (by rfl)]
              have hK' : Shut (∀ a w, _ → K a w) := hK
              clear hK
              go_wp2_with fail
              refine HC2.out.mono ?_
              rintro e w5 ⟨rfl, hk5, hkp5⟩
              have ht5 := h4.out.keepsK (lo := 0) hkp5.out
              have HE5 : Hid (Calls _ _ _ _ _) := err_true (errIs_bad D n v1 bl) w5 (HG.out.below ht5.2 (Nat.le_refl _))
              have HP5 : Hid (PS w w5 p nb sb kp cv4 n (D.wr n v1 bl) (m + 1)) := ⟨ht5, hk5.out, HPS3.out.few.wr n v1 bl, wr_to HPS3.out.to n v1 bl⟩
              clear HC2 hk5 hkp5 ht5 h4 hk4 HPS3 hB4 cB4
              refine hK'.out _ _ ?_
              clear hK' K
              try simp only [Act.put, List.getElem_toArray, List.getElem_cons_succ, List.getElem_cons_zero, List.setIfInBounds_toArray, List.set_cons_zero, List.set_cons_succ]
              refine any_one (i := 10) (by kernel_rfl) ?_
              refine wpOp_step rfl ?_
              intro K hK
              rw [if_pos (by rfl)]
              have hK' : Shut (∀ a w, _ → K a w) := hK
              clear hK
              go_wp2_with fail
              refine HE5.out.mono ?_
              rintro e w6 ⟨rfl, hb6⟩
              have HP6 : Hid (PSx w w6 p nb sb kp n (m + 1)) := ⟨_, _, HP5.out.below hb6⟩
              clear HE5 hb6 HP5
              refine hK'.out _ _ ?_
              clear hK' K
              refine any_one (i := 11) (by kernel_rfl) ?_
              refine wpOp_step rfl ?_
              intro K hK
              rw [if_pos (by rfl)]
              have hK' : Shut (∀ a w, _ → K a w) := hK
              clear hK
              go_wp2
              refine hK'.out _ _ ?_
              clear hK' K
              refine wpAny_done (by kernel_rfl) ?_ _
              go_wp2_with fail
              go_meet
              exact ⟨rfl, HP6⟩)
          · have e0 : (v0 == 0) = false := by rw [beq_eq_false_iff_ne]; omega
            have e1 : (v0 == 1) = false := by rw [beq_eq_false_iff_ne]; omega
            have e2 : (v0 == 2) = false := by rw [beq_eq_false_iff_ne]; omega
            clear h012
            by_cases h3 : v0 = 3
            · subst h3
              have HC1 : Hid (Calls _ _ _ _ _) := tn_fl HPS1.out.tn (by have := HPS1.out.few.steps; omega)
              go_wp2_with fail
              refine HC1.out.mono ?_
              rintro e w4 ⟨rfl, cv4, h4, hk4⟩
              have HC2 : Hid (Calls _ _ _ _ _) := kfl (w := w) (HPS1.out.k.keepsD hk4.out) h4.out.2.size (by rw [nowL HPS1.out.tn]; omega) (by have := HPS1.out.few.steps; omega)
              clear HC1
              go_wp2_with fail
              refine HC2.out.mono ?_
              rintro e w5 ⟨rfl, hk5, hkp5⟩
              have ht5 := h4.out.keepsK (lo := 0) hkp5.out
              have HE5 : Hid (Calls _ _ _ _ _) := err_true (errIs_fl D) w5 (HG.out.below ht5.2 (Nat.le_refl _))
              have HP5 : Hid (PS w w5 p nb sb kp cv4 n D.fl (m + 1)) := ⟨ht5, hk5.out, fl_few HPS1.out.few, fl_to HPS1.out.to⟩
              clear HC2 hk5 hkp5 ht5 h4 hk4
              go_wp2_with fail
              refine HE5.out.mono ?_
              rintro e w6 ⟨rfl, hb6⟩
              have HP6 : Hid (PSx w w6 p nb sb kp n (m + 1)) := ⟨_, _, HP5.out.below hb6⟩
              clear HE5 hb6 HP5
              go_wp2_with fail
              go_meet
              exact ⟨rfl, HP6⟩
            · have e3 : (v0 == 3) = false := by rw [beq_eq_false_iff_ne]; exact h3
              by_cases h4 : v0 = 4
              · subst h4
                have hl0 : 0 < rl.length := HL.out rfl
                obtain ⟨ra', rc', hsl, hin'⟩ := run_inDrop HROWw.out hl0
                obtain ⟨kk, hkk⟩ : ∃ kk, rl.drop 1 = kk := ⟨_, rfl⟩
                rw [hkk] at hsl hin'
                have hkl : kk.length ≤ 9223372036854775807 := by rw [← hkk]; simp; omega
                have HIN' : Hid (IsIn w ra' kk rc') := hin'
                have hp3 := HPS1.out.below ((Still.drew W1).below _)
                have hB3 : W1.drew.heap[B]? = some (.cells (va rl) 31 (0, 0)) := HBX.out
                have cR3 : W1.drew.cell? ⟨b0, off0 + m, none⟩ = some (.slice ra rl.length rc) := cR
                have d13 : W1.drew.cell? ⟨B, 1, none⟩ = some (.int .i64 v1) := d1
                have HC1 : Hid (Calls _ _ _ _ _) := tn_crash hp3.tn ra' kk rc' v1 (by have := hp3.few.chg; omega) hkl (hin'.below hp3.tn.2)
                have HPS3 : Hid (PS w W1.drew p nb sb kp cv n D m) := hp3
                have HB3 : Hid (W1.drew.heap[B]? = some (.cells (va rl) 31 (0, 0))) := hB3
                clear hin' hp3 hB3 hkk hl0
                go_wp2_with fail
                refine wp_region_drawn (by kernel_rfl) ?_
                refine wpAny_take (i := 0) (v := .pointer (some ⟨p, 0, none⟩)) rfl (by kernel_rfl) (by kernel_rfl) (by kernel_rfl) (fun _ _ _ h => h) (Or.inl ⟨by rfl, fun w => by go_simp⟩) ?_
                simp only [Act.put, List.getElem_toArray, List.getElem_cons_succ, List.getElem_cons_zero, List.setIfInBounds_toArray, List.set_cons_zero, List.set_cons_succ]
                refine wpAny_take (i := 1) (v := .slice (some ⟨b0, off0, none⟩) rs.length cap) rfl (by kernel_rfl) (by kernel_rfl) (by kernel_rfl) (fun _ _ _ h => h) (Or.inl ⟨by rfl, fun w => by go_simp⟩) ?_
                simp only [Act.put, List.getElem_toArray, List.getElem_cons_succ, List.getElem_cons_zero, List.setIfInBounds_toArray, List.set_cons_zero, List.set_cons_succ]
                refine wpAny_take (i := 2) (v := .int .i64 m) rfl (by kernel_rfl) (by kernel_rfl) (by kernel_rfl) (fun _ _ _ h => h) (Or.inl ⟨by rfl, fun w => by go_simp⟩) ?_
                simp only [Act.put, List.getElem_toArray, List.getElem_cons_succ, List.getElem_cons_zero, List.setIfInBounds_toArray, List.set_cons_zero, List.set_cons_succ]
                refine wpAny_take (i := 3) (v := .pointer (some ⟨b0, off0 + m, none⟩)) rfl (by kernel_rfl) (by kernel_rfl) (by kernel_rfl) (fun _ _ _ h => h) (Or.inl ⟨by rfl, fun w => by go_simp⟩) ?_
                simp only [Act.put, List.getElem_toArray, List.getElem_cons_succ, List.getElem_cons_zero, List.setIfInBounds_toArray, List.set_cons_zero, List.set_cons_succ]
                refine wpAny_take (i := 6) (v := .pointer (some ⟨B, 1, none⟩)) rfl (by kernel_rfl) (by kernel_rfl) (by kernel_rfl) (fun _ _ _ h => h) (Or.inl ⟨by rfl, fun w => by go_simp⟩) ?_
                simp only [Act.put, List.getElem_toArray, List.getElem_cons_succ, List.getElem_cons_zero, List.setIfInBounds_toArray, List.set_cons_zero, List.set_cons_succ]
                refine any_of_L (g := 8) (T := fun u => u = W1.drew) _ _ _ _ ?_
                refine L_take2 (i := 4) (m := 5) (v := .slice ra rl.length rc) rfl rfl rfl (by kernel_rfl) (by kernel_rfl) (by decide) (by kernel_rfl) (by kernel_rfl) (by kernel_rfl) (by kernel_rfl) (by kernel_rfl) (fun _ _ _ h => h) (Or.inl ⟨by rfl, fun w' hw' => by subst hw'; go_simp⟩) rfl ?_
                simp only [Act.put, List.getElem_toArray, List.getElem_cons_succ, List.getElem_cons_zero, List.setIfInBounds_toArray, List.set_cons_zero, List.set_cons_succ]
                refine L_take (i := 7) (v := .int .i64 v1) rfl rfl (by kernel_rfl) (by decide) (by kernel_rfl) (by kernel_rfl) (by kernel_rfl) (by kernel_rfl) (fun _ _ _ h => h) (Or.inl ⟨by rfl, fun w' hw' => by subst hw'; go_simp⟩) rfl ?_
                simp only [Act.put, List.getElem_toArray, List.getElem_cons_succ, List.getElem_cons_zero, List.setIfInBounds_toArray, List.set_cons_zero, List.set_cons_succ]
                refine L_take (i := 5) (v := .slice ra' kk.length rc') rfl rfl (by kernel_rfl) (by decide) (by kernel_rfl) (by kernel_rfl) (by kernel_rfl) (by kernel_rfl) (fun _ _ _ h => h) (Or.inl ⟨by rfl, fun w' hw' => by subst hw'; go_simp⟩) rfl ?_
                simp only [Act.put, List.getElem_toArray, List.getElem_cons_succ, List.getElem_cons_zero, List.setIfInBounds_toArray, List.set_cons_zero, List.set_cons_succ]
                refine L_go (by kernel_rfl) (by kernel_rfl) ?_
                refine wpOp_step rfl ?_
                intro K hK
                rw [if_pos (by rfl)]
                have hK' : Shut (∀ a w, _ → K a w) := hK
                clear hK
                go_wp2_with fail
                refine HC1.out.mono ?_
                rintro e w4 ⟨rfl, h4, hk4⟩
                have h4d := h4.out.still (Still.drew w4)
                have hB4 : w4.drew.heap[B]? = some (.cells (va rl) 31 (0, 0)) := hk4.out.row HB3.out (by decide)
                have d14 := (HV.out _ hB4).2.1
                have cR4 := HcU.out w4.drew h4d.2
                have hkk4 := (HPS3.out.k.keepsD hk4.out).below ((Still.drew w4).below _)
                have HC2 : Hid (Calls _ _ _ _ _) := kcrash_any w.heap.size kp n D ra' kk rc' v1 w4.drew hkk4 h4d.2.size (by omega) hn2 HPS3.out.tn.1.ok HPS3.out.to (by have := HPS3.out.few.chg; omega) hkl (fun U hU => HIN'.out.below (h4d.2.trans (hU.below h4d.2.size)))
                have H4 : Hid (Tn w w4.drew p nb sb (.slice none 0 0) n (D.crash kk v1)) := h4d
                clear HC1 hkk4 hB4 h4d h4 hk4 cR3 d13 HB3 HPS3
                refine hK'.out _ _ ?_
                clear hK' K
                refine wpAny_done (by kernel_rfl) ?_ _
                go_wp2_with fail
                refine wp_region_drawn (by kernel_rfl) ?_
                refine wpAny_take (i := 0) (v := .pointer (some ⟨kp, 0, none⟩)) rfl (by kernel_rfl) (by kernel_rfl) (by kernel_rfl) (fun _ _ _ h => h) (Or.inl ⟨by rfl, fun w => by go_simp⟩) ?_
                simp only [Act.put, List.getElem_toArray, List.getElem_cons_succ, List.getElem_cons_zero, List.setIfInBounds_toArray, List.set_cons_zero, List.set_cons_succ]
                refine wpAny_take (i := 1) (v := .slice (some ⟨b0, off0, none⟩) rs.length cap) rfl (by kernel_rfl) (by kernel_rfl) (by kernel_rfl) (fun _ _ _ h => h) (Or.inl ⟨by rfl, fun w => by go_simp⟩) ?_
                simp only [Act.put, List.getElem_toArray, List.getElem_cons_succ, List.getElem_cons_zero, List.setIfInBounds_toArray, List.set_cons_zero, List.set_cons_succ]
                refine wpAny_take (i := 2) (v := .int .i64 m) rfl (by kernel_rfl) (by kernel_rfl) (by kernel_rfl) (fun _ _ _ h => h) (Or.inl ⟨by rfl, fun w => by go_simp⟩) ?_
                simp only [Act.put, List.getElem_toArray, List.getElem_cons_succ, List.getElem_cons_zero, List.setIfInBounds_toArray, List.set_cons_zero, List.set_cons_succ]
                refine wpAny_take (i := 3) (v := .pointer (some ⟨b0, off0 + m, none⟩)) rfl (by kernel_rfl) (by kernel_rfl) (by kernel_rfl) (fun _ _ _ h => h) (Or.inl ⟨by rfl, fun w => by go_simp⟩) ?_
                simp only [Act.put, List.getElem_toArray, List.getElem_cons_succ, List.getElem_cons_zero, List.setIfInBounds_toArray, List.set_cons_zero, List.set_cons_succ]
                refine wpAny_take (i := 6) (v := .pointer (some ⟨B, 1, none⟩)) rfl (by kernel_rfl) (by kernel_rfl) (by kernel_rfl) (fun _ _ _ h => h) (Or.inl ⟨by rfl, fun w => by go_simp⟩) ?_
                simp only [Act.put, List.getElem_toArray, List.getElem_cons_succ, List.getElem_cons_zero, List.setIfInBounds_toArray, List.set_cons_zero, List.set_cons_succ]
                refine any_of_L (g := 8) (T := fun u => u = w4.drew) _ _ _ _ ?_
                refine L_take2 (i := 4) (m := 5) (v := .slice ra rl.length rc) rfl rfl rfl (by kernel_rfl) (by kernel_rfl) (by decide) (by kernel_rfl) (by kernel_rfl) (by kernel_rfl) (by kernel_rfl) (by kernel_rfl) (fun _ _ _ h => h) (Or.inl ⟨by rfl, fun w' hw' => by subst hw'; go_simp⟩) rfl ?_
                simp only [Act.put, List.getElem_toArray, List.getElem_cons_succ, List.getElem_cons_zero, List.setIfInBounds_toArray, List.set_cons_zero, List.set_cons_succ]
                refine L_take (i := 7) (v := .int .i64 v1) rfl rfl (by kernel_rfl) (by decide) (by kernel_rfl) (by kernel_rfl) (by kernel_rfl) (by kernel_rfl) (fun _ _ _ h => h) (Or.inl ⟨by rfl, fun w' hw' => by subst hw'; go_simp⟩) rfl ?_
                simp only [Act.put, List.getElem_toArray, List.getElem_cons_succ, List.getElem_cons_zero, List.setIfInBounds_toArray, List.set_cons_zero, List.set_cons_succ]
                refine L_take (i := 5) (v := .slice ra' kk.length rc') rfl rfl (by kernel_rfl) (by decide) (by kernel_rfl) (by kernel_rfl) (by kernel_rfl) (by kernel_rfl) (fun _ _ _ h => h) (Or.inl ⟨by rfl, fun w' hw' => by subst hw'; go_simp⟩) rfl ?_
                simp only [Act.put, List.getElem_toArray, List.getElem_cons_succ, List.getElem_cons_zero, List.setIfInBounds_toArray, List.set_cons_zero, List.set_cons_succ]
                refine L_go (by kernel_rfl) (by kernel_rfl) ?_
                refine wpOp_step rfl ?_
                intro K hK
                rw [if_pos (by rfl)]
                have hK' : Shut (∀ a w, _ → K a w) := hK
                clear hK
                go_wp2_with fail
                refine HC2.out.mono ?_
                rintro e w5 ⟨rfl, hk5⟩
                have ht5 := H4.out.keepsK (lo := 0) hk5.out.2
                have HP6 : Hid (PSx w w5 p nb sb kp n (m + 1)) := ⟨_, _, ht5, hk5.out.1, crash_few _ _ _ _, fun c hc => by simp [Dk.crash] at hc⟩
                clear HC2 H4 hk5 ht5 d14 cR4
                refine hK'.out _ _ ?_
                clear hK' K
                refine wpAny_done (by kernel_rfl) ?_ _
                go_wp2_with fail
                go_meet
                exact ⟨rfl, HP6⟩
              · have e4 : (v0 == 4) = false := by rw [beq_eq_false_iff_ne]; exact h4
                by_cases h5 : v0 = 5
                · subst h5
                  have HC1 : Hid (Calls _ _ _ _ _) := tn_fail HPS1.out.tn v1
                  go_wp2_with fail
                  refine HC1.out.mono ?_
                  rintro e w4 ⟨rfl, h4, hk4⟩
                  have hB4 := hk4.out.row HBX.out (by decide)
                  have d14 := (HV.out _ hB4).2.1
                  have hkk4 := HPS1.out.k.keepsD hk4.out
                  obtain ⟨cs4, hbk4, c44, f44⟩ := hkk4.boxed
                  have hBne : B ≠ kp := tag_ne hB4 hbk4 (by decide)
                  have hB5 : ∀ x, (w4.setCell ⟨kp, 4, none⟩ x).heap[B]? = some (.cells (va rl) 31 (0, 0)) := fun x => (Below.heap_setCell _ _ _ _ hBne).trans hB4
                  have d15 := (HV.out _ (hB5 (.int .i64 v1))).2.1
                  have hset := set_twice hbk4 4 (.int .i64 v1) (.int .i64 (-1))
                  have hb5 : (w4.setCell ⟨kp, 4, none⟩ (.int .i64 v1)).heap[kp]? = some (.cells (cs4.setIfInBounds 4 (.int .i64 v1)) 44 (0, 0)) := by
                    rw [setCell_eq_setRow w4 kp 4 cs4 44 (0, 0) _ hbk4]
                    exact setRow_heap w4 kp _ _ _ (0, 0) hbk4
                  have hc5 : ∃ z, (w4.setCell ⟨kp, 4, none⟩ (.int .i64 v1)).cell? ⟨kp, 4, none⟩ = some z := by
                    have := World.cell?_setCell_same w4 ⟨kp, 4, none⟩ (.int .i64 v1) c44
                    exact ⟨_, this⟩
                  obtain ⟨z5, c45⟩ := hc5
                  have f45 : (w4.setCell ⟨kp, 4, none⟩ (.int .i64 v1)).frozen? ⟨kp, 4, none⟩ = false := by simp [World.frozen?, hb5]
                  obtain ⟨hs1, hs2⟩ := hkk4.setStop v1
                  have ht5 := h4.out.keepsK (lo := 0) hs2
                  have HP6 : Hid (PSx w (w4.setCell ⟨kp, 4, none⟩ (.int .i64 (stopOf v1))) p nb sb kp n (m + 1)) := ⟨_, _, ht5, hs1, ⟨by have := HPS1.out.few.steps; simp only; omega, by have := HPS1.out.few.chg; simp only; omega⟩, HPS1.out.to⟩
                  clear HC1 hkk4 hbk4 hB4 hB5 hb5 hs1 hs2 ht5 h4 hk4 hBne
                  by_cases hneg : v1 < 0
                  · have es : stopOf v1 = -1 := if_pos hneg
                    rw [es] at HP6
                    go_wp2_with fail
                    go_meet
                    exact ⟨rfl, HP6⟩
                  · have es : stopOf v1 = v1 := if_neg hneg
                    rw [es] at HP6
                    go_wp2_with fail
                    go_meet
                    exact ⟨rfl, HP6⟩
                · have e5 : (v0 == 5) = false := by rw [beq_eq_false_iff_ne]; exact h5
                  have HP6 : Hid (PSx w W1 p nb sb kp n (m + 1)) := ⟨_, _, HPS1.out.more⟩
                  go_wp2_with fail
                  go_meet
                  exact ⟨rfl, HP6⟩
        case rest =>
          obtain ⟨rfl, HPc⟩ := hcut
          obtain ⟨cvc, Dc, hpc⟩ := HPc.out
          have hst := fun k => steps_any w.heap.size p nb sb cvc n Dc (wc.drewN k) (hpc.tn.1.still (Still.drewN wc k))
          have hbl := fun k => blocks_any w.heap.size p nb sb cvc n Dc (wc.drewN k) (hpc.tn.1.still (Still.drewN wc k))
          have c3 := hpc.k.steps
          have HPC : Hid (PS w wc p nb sb kp cvc n Dc (m + 1)) := hpc
          clear hpc HPc HPS1 HBX HV HL HDRP HROW1 HROWw HcU cR d0 d1 d2
          go_wp2_with fail
          go_quiet ((first | (go_at_call 15; exact Calls.quiet_of_same (hst _)) | (go_at_call 16; exact Calls.quiet_of_same (hbl _))))
          rename Nat => nq
          have HPD : Hid (PS w (wc.drewN nq) p nb sb kp cvc n Dc (m + 1)) := HPC.out.below ((Still.drewN wc nq).below _)
          generalize wc.drewN nq = wd at *
          clear hst hbl c3 HPC
          go_wp2_with fail
          go_loopw [8, 14] (fun t j wq => ∃ q : Nat, q ≤ 12 ∧ q ≤ n ∧ t = .bool true ∧ j = .int .i64 q ∧ Hid (PS w wq p nb sb kp cvc n Dc (m + 1))) (fun _ j _ => 12 - (intOf j).toNat)
          case atStart => exact ⟨0, by omega, by omega, rfl, rfl, HPD⟩
          case round =>
            rename World => wq
            obtain ⟨q, hq12, hqn, rfl, rfl, HQ⟩ := hrel
            by_cases hq : q < n ∧ q < 12
            · obtain ⟨hq1, hq2⟩ := hq
              have q0 : (0 : Int) ≤ q := by omega
              have q1 : (q : Int) < n := by omega
              have q2 : (q : Int) < 12 := by omega
              have hnow := nowL HQ.out.tn
              cases htq : (Dc.now.getD q bk0).torn
              · have HC1 : Hid (Calls _ _ _ _ _) := tn_read HQ.out.tn q hq1 htq
                go_wp2_with fail
                refine HC1.out.mono ?_
                rintro e w2 ⟨rfl, hT2, hrow2, hb2⟩
                have hp2 := HQ.out.below hb2.out
                obtain ⟨gk, ck, vk, ck0, ckq, hvk⟩ := hp2.k.now q (by omega)
                rw [hnow] at ck0
                rcases hvk with ⟨hbad, _⟩ | ⟨_, gb, rfl, hgb⟩
                · rw [htq] at hbad; cases hbad
                have HE2 : Hid (Calls _ _ _ _ _) := err_true (E := .nilIface) (c := 0) (.inl ⟨rfl, rfl⟩) w2 (HG.out.below hp2.tn.2 (Nat.le_refl _))
                have HP2 : Hid (PS w w2 p nb sb kp cvc n Dc (m + 1)) := hp2
                have Hrow2 : Hid (w2.heap[wq.heap.size]? = some (.cells (byC (Dc.now.getD q bk0).byt).toArray 5 (0, 0))) := hrow2.out
                clear HC1 hT2 hrow2 hb2 hp2 hgb
                generalize wq.heap.size = gx at *
                have heq := eqn_some gb
                go_wp2_with fail
                refine HE2.out.mono ?_
                rintro e w3 ⟨rfl, hb3⟩
                have hp3 := HP2.out.below hb3
                obtain ⟨gk', ck', vk', ck0', ckq', hvk'⟩ := hp3.k.now q (by omega)
                rw [hnow] at ck0'
                rcases hvk' with ⟨hbad, _⟩ | ⟨_, gb', rfl, hgb'⟩
                · rw [htq] at hbad; cases hbad
                have hok : (Dc.now.getD q bk0).byt.length = 64 := getD_ok hp3.tn.1.ok.nowO q
                have hrow3 : w3.heap[gx]? = some (.cells (byC (Dc.now.getD q bk0).byt).toArray 5 (0, 0)) := (hb3.block gx (Array.getElem?_eq_some_iff.1 Hrow2.out).1).trans Hrow2.out
                have hb64 : ∀ g, w3.heap[g]? = some (.cells (byC (Dc.now.getD q bk0).byt).toArray 5 (0, 0)) → IsBy w3 (some ⟨g, 0, none⟩) (Dc.now.getD q bk0).byt 64 := fun g hg => by
                  have := isBy_row hg 64 (by rw [hok]; exact Nat.le_refl _) 64 (Nat.le_refl _)
                  rwa [List.take_of_length_le (by rw [hok]; exact Nat.le_refl _)] at this
                have hS1 : ∀ k, (convert 33 9 (.slice (some ⟨gx, 0, none⟩) 64 64)).run Tryd.prog (w3.drewN k) = .ok (.string (txt (Dc.now.getD q bk0).byt)) (w3.drewN k) := fun k => by
                  have := run_str (w3.drewN k) _ _ 64 ((hb64 gx hrow3).below ((Still.drewN w3 k).below _))
                  rwa [hok] at this
                have hS2 : ∀ k, (convert 33 9 (.slice (some ⟨gb', 0, none⟩) 64 64)).run Tryd.prog (w3.drewN k) = .ok (.string (txt (Dc.now.getD q bk0).byt)) (w3.drewN k) := fun k => by
                  have := run_str (w3.drewN k) _ _ 64 ((hb64 gb' hgb').below ((Still.drewN w3 k).below _))
                  rwa [hok] at this
                have HP3 : Hid (PS w w3 p nb sb kp cvc n Dc (m + 1)) := hp3
                clear HE2 HP2 Hrow2 hb3 hp3 hb64 hrow3 hgb' ck0 ckq hok
                generalize txt (Dc.now.getD q bk0).byt = tx at *
                go_wp2_with fail
                go_quiet (fail)
                rename Nat => nk
                have HP4 : Hid (PS w (w3.drewN nk) p nb sb kp cvc n Dc (m + 1)) := HP3.out.below ((Still.drewN w3 nk).below _)
                clear hS1 hS2 ck0' ckq'
                go_wp2_with fail
                go_roundw
                case rel => exact ⟨q + 1, by omega, by omega, rfl, by go_num, HP4⟩
                case measure => simp [intOf]; omega
              · have HC1a := tn_readTorn HQ.out.tn q hq1 htq
                rw [enE_ne (by decide)] at HC1a
                have HC1 : Hid (Calls _ _ _ _ _) := HC1a
                clear HC1a
                go_wp2_with fail
                refine HC1.out.mono ?_
                rintro e w2 ⟨rfl, hT2, hs2⟩
                have hp2 := HQ.out.below (hs2.out.below _)
                obtain ⟨gk, ck, vk, ck0, ckq, hvk⟩ := hp2.k.now q (by omega)
                rw [hnow] at ck0
                rcases hvk with ⟨_, rfl⟩ | ⟨hbad, _⟩
                rotate_left
                · rw [htq] at hbad; cases hbad
                have HE2 : Hid (Calls _ _ _ _ _) := err_true (E := .iface 48 (.int .i64 9)) (c := 9) (.inr ⟨rfl, by omega, by omega⟩) w2 (HG.out.below hp2.tn.2 (Nat.le_refl _))
                have HP2 : Hid (PS w w2 p nb sb kp cvc n Dc (m + 1)) := hp2
                clear HC1 hT2 hs2 hp2
                have heq := eqn_none
                go_wp2_with fail
                refine HE2.out.mono ?_
                rintro e w3 ⟨rfl, hb3⟩
                have hp3 := HP2.out.below hb3
                obtain ⟨gk', ck', vk', ck0', ckq', hvk'⟩ := hp3.k.now q (by omega)
                rw [hnow] at ck0'
                rcases hvk' with ⟨_, rfl⟩ | ⟨hbad, _⟩
                rotate_left
                · rw [htq] at hbad; cases hbad
                have hS1 : ∀ k, (convert 33 9 (.slice none 0 0)).run Tryd.prog (w3.drewN k) = .ok (.string (txt [])) (w3.drewN k) := fun k => run_str (w3.drewN k) none [] 0 ⟨Nat.le_refl _, .inl rfl⟩
                have HP3 : Hid (PS w w3 p nb sb kp cvc n Dc (m + 1)) := hp3
                clear HE2 HP2 hb3 hp3 ck0 ckq
                generalize txt [] = tx at *
                go_wp2_with fail
                go_quiet (fail)
                rename Nat => nk
                have HP4 : Hid (PS w (w3.drewN nk) p nb sb kp cvc n Dc (m + 1)) := HP3.out.below ((Still.drewN w3 nk).below _)
                clear hS1 ck0' ckq'
                go_wp2_with fail
                go_roundw
                case rel => exact ⟨q + 1, by omega, by omega, rfl, by go_num, HP4⟩
                case measure => simp [intOf]; omega
            · have HP6 : Hid (PSx w wq p nb sb kp n (m + 1)) := ⟨_, _, HQ.out⟩
              by_cases hqq : q < n
              · have q1 : (q : Int) < n := by omega
                have q2 : ¬ (q : Int) < 12 := by omega
                go_wp2_with fail
                go_roundw
                case rel => exact ⟨m + 1, by omega, rfl, by go_num, HP6⟩
                case measure => simp [intOf]; omega
              · have q1 : ¬ (q : Int) < n := by omega
                go_wp2_with fail
                go_roundw
                case rel => exact ⟨m + 1, by omega, rfl, by go_num, HP6⟩
                case measure => simp [intOf]; omega
    · obtain ⟨cv, D, hps⟩ := H.out
      have HR := read_range w.heap.size p nb sb cv n D (n : Int) wr hps.tn.1 (by simp [hasB])
      rw [enE_ne (by decide)] at HR
      have HR' : Hid (Calls _ _ _ _ _) := HR
      have HT : Hid (Below w.heap.size w wr) := hps.tn.2
      clear H hps HR
      by_cases h1 : m < rs.length
      · have m1 : (m : Int) < rs.length := by omega
        have m2 : ¬ (m : Int) < 60 := by omega
        go_wp2_with fail
        refine HR'.out.mono ?_
        rintro e w2 ⟨rfl, hs2⟩
        have B2 := HT.out.trans (hs2.below _)
        have HE2 : Hid (Calls _ _ _ _ _) := err_true (E := .iface 48 (.int .i64 1)) (c := 1) (.inr ⟨rfl, by omega, by omega⟩) w2 (HG.out.below B2 (Nat.le_refl _))
        clear HR' hs2
        go_wp2_with fail
        refine HE2.out.mono ?_
        rintro e w3 ⟨rfl, hb3⟩
        have B3 := B2.trans (hb3.mono B2.size)
        clear HE2
        go_wp2
        go_ret
        exact ⟨rfl, B3⟩
      · have m1 : ¬ (m : Int) < rs.length := by omega
        go_wp2_with fail
        refine HR'.out.mono ?_
        rintro e w2 ⟨rfl, hs2⟩
        have B2 := HT.out.trans (hs2.below _)
        have HE2 : Hid (Calls _ _ _ _ _) := err_true (E := .iface 48 (.int .i64 1)) (c := 1) (.inr ⟨rfl, by omega, by omega⟩) w2 (HG.out.below B2 (Nat.le_refl _))
        clear HR' hs2
        go_wp2_with fail
        refine HE2.out.mono ?_
        rintro e w3 ⟨rfl, hb3⟩
        have B3 := B2.trans (hb3.mono B2.size)
        clear HE2
        go_wp2
        go_ret
        exact ⟨rfl, B3⟩

theorem plays_out (n : Int) (a : Option Addr) (len cap : Nat) (w : World) (hg : ErrT w) (hn : ¬ (1 ≤ n ∧ n ≤ 200)) :
    Calls Tryd.prog 3 #[.int .i64 n, .slice a len cap] w fun e w' => e = .returned (.bool true) ∧ Below w.heap.size w w' := by
  have HN1 := new_bad n w hn
  rw [enE_ne (by decide)] at HN1
  have HN : Hid (Calls _ _ _ _ _) := HN1
  have HE : Hid (Calls _ _ _ _ _) := err_true (E := .iface 48 (.int .i64 1)) (c := 1) (.inr ⟨rfl, by omega, by omega⟩) w hg
  clear HN1 hg
  by_cases h1 : n < 1
  · go_enter Tryd.func3, Tryd.ntmps3
    go_wp2_with fail
    refine HN.out.mono ?_
    rintro e w1 ⟨rfl, hw⟩
    rw [hw]; clear hw w1 HN
    go_wp2_with fail
    refine HE.out.mono ?_
    rintro e w2 ⟨rfl, hb⟩
    clear HE
    go_wp2
    go_ret
    exact ⟨rfl, hb⟩
  · have h2 : 200 < n := by omega
    go_enter Tryd.func3, Tryd.ntmps3
    go_wp2_with fail
    refine HN.out.mono ?_
    rintro e w1 ⟨rfl, hw⟩
    rw [hw]; clear hw w1 HN
    go_wp2_with fail
    refine HE.out.mono ?_
    rintro e w2 ⟨rfl, hb⟩
    clear HE
    go_wp2
    go_ret
    exact ⟨rfl, hb⟩
theorem plays_walk (n : Int) (a : Option Addr) (rs : List Rw) (cap : Nat) (w : World) (hg : ErrT w) (hrs : IsRs w a rs cap) (hrl : rs.length ≤ 9223372036854775807) :
    Calls Tryd.prog 3 #[.int .i64 n, .slice a rs.length cap] w fun e w' => e = .returned (.bool true) ∧ Below w.heap.size w w' := by
  by_cases h : 1 ≤ n ∧ n ≤ 200
  · have := plays_in n.toNat a rs cap w hg (by omega) (by omega) hrs hrl
    rwa [Int.toNat_of_nonneg (by omega)] at this
  · exact plays_out n a rs.length cap w hg h
end Go.Proofs.YtofmhjeojjdagaaDoor
