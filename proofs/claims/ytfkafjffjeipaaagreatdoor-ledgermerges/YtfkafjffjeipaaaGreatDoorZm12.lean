/-
  The contract of ledger.Statement.
-/
import Derived.Test.YtfkafjffjeipaaaGreatDoorZm2
import Derived.Test.YtfkafjffjeipaaaGreatDoorZm11
namespace Go.Proofs.YtfkafjffjeipaaaGreatDoor
set_option linter.unusedVariables false
set_option linter.unusedSimpArgs false
set_option maxRecDepth 100000
open Go.RowKit Go.Lib Math

/-- Of which account. -/
def amIx (c : List Ac) (x : Bl) : Int := idxP (hasCode x.acc) c
def isOf (ent : Int) (cur : ByteArray) (x : Bl) : Bool := decide (x.ent = ent ∧ x.cur = cur)
def amAt (c : List Ac) (ent : Int) (cur : ByteArray) (r : List Int) (x : Bl) : List Int := if isOf ent cur x = true then r.set (amIx c x).toNat x.amt else r
def amTo (c : List Ac) (ent : Int) (cur : ByteArray) (l : List Bl) : List Int := l.foldl (amAt c ent cur) (List.replicate c.length 0)
def amNo (c : List Ac) (ent : Int) (cur : ByteArray) (x : Bl) : Bool := isOf ent cur x && decide (amIx c x < 0)
theorem amTo_snoc (c : List Ac) (ent : Int) (cur : ByteArray) (l : List Bl) (k : Nat) (h : k < l.length) : amTo c ent cur (l.take (k + 1)) = amAt c ent cur (amTo c ent cur (l.take k)) (l.getD k bl0) := by
  rw [bls_take l k h, amTo, List.foldl_append]; rfl
theorem amAt_length (c : List Ac) (ent : Int) (cur : ByteArray) (r : List Int) (x : Bl) : (amAt c ent cur r x).length = r.length := by
  unfold amAt; split <;> simp
theorem amTo_length (c : List Ac) (ent : Int) (cur : ByteArray) (l : List Bl) : (amTo c ent cur l).length = c.length := by
  have key : ∀ (l : List Bl) (r : List Int), (l.foldl (amAt c ent cur) r).length = r.length := by
    intro l
    induction l with
    | nil => intro r; rfl
    | cons x l ih => intro r; rw [List.foldl_cons, ih, amAt_length]
  rw [amTo, key]; simp
theorem amAny_snoc (p : Bl → Bool) (l : List Bl) (k : Nat) (h : k < l.length) : (l.take (k + 1)).any p = ((l.take k).any p || p (l.getD k bl0)) := by
  rw [bls_take l k h, List.any_append]; simp
theorem any_of_at {p : Bl → Bool} {l : List Bl} {k : Nat} (h : k < l.length) (hp : p (l.getD k bl0) = true) : l.any p = true := List.any_eq_true.2 ⟨_, bls_mem l k h, hp⟩
/-- Amounts of 64 bits. -/
theorem amTo_fits (c : List Ac) (ent : Int) (cur : ByteArray) (l : List Bl) (h : ∀ x ∈ l, I64 x.amt) : ∀ k, k < (amTo c ent cur l).length → I64 ((amTo c ent cur l).getD k 0) := by
  have key : ∀ (l : List Bl) (r : List Int), (∀ x ∈ l, I64 x.amt) → (∀ k, k < r.length → I64 (r.getD k 0)) → ∀ k, k < (l.foldl (amAt c ent cur) r).length → I64 ((l.foldl (amAt c ent cur) r).getD k 0) := by
    intro l
    induction l with
    | nil => intro r _ h; exact h
    | cons x l ih =>
      intro r hl hr
      rw [List.foldl_cons]
      refine ih _ (fun y hy => hl y (List.mem_cons_of_mem _ hy)) (fun k hk => ?_)
      have hx := hl x (List.mem_cons_self ..)
      rw [amAt_length] at hk
      unfold amAt
      split
      · rw [List.getD_eq_getElem?_getD, List.getElem?_set]
        split
        · split
          · exact hx
          · simp only [Option.getD_none]; exact ⟨by omega, by omega⟩
        · rw [← List.getD_eq_getElem?_getD]; exact hr k hk
      · exact hr k hk
  refine key l _ h (fun k hk => ?_)
  rw [List.length_replicate] at hk
  rw [List.getD_eq_getElem?_getD, List.getElem?_replicate, if_pos hk]
  exact ⟨by simp, by simp⟩

set_option maxHeartbeats 4000000 in
theorem lmAmounts_any (a1 a2 : Option Addr) (c1 c2 : Nat) (c : List Ac) (l : List Bl) (ent : Int) (cur : ByteArray) (w : World) (hc : IsSl w a1 c c1) (hl : IsBl w a2 l c2) (lc : c.length ≤ 60) (ll : l.length ≤ 200) :
    Calls Tryz.prog 11 #[.slice a1 c.length c1, .slice a2 l.length c2, .int .i64 ent, .string cur] w fun e w' => Below w.heap.size w w' ∧ (l.any (amNo c ent cur) = true → e = .returned (.tuple #[.slice none 0 0, .int .i64 6])) ∧ (l.any (amNo c ent cur) = false → ∃ g, e = .returned (.tuple #[.slice (some ⟨g, 0, none⟩) c.length c.length, .int .i64 0]) ∧ Hid (w.heap.size ≤ g ∧ IRow w' g (amTo c ent cur l))) := by
  have hmk := fun w => run_make_row' (P := Tryz.prog) 35 3 (.int .i64 0) 8 Tryz.underlying35 int_info rfl .i64 .i64 c.length (by omega) (by omega) w
  have hrow := irow_made w c.length
  have HB0 : Hid (Below w.heap.size w (w.alloc (.cells (madeCells #[.int .i64 0] c.length) 3))) := (Below.refl _ _).alloc (Nat.le_refl _) _
  have HR0 : Hid (IRow (w.alloc (.cells (madeCells #[.int .i64 0] c.length) 3)) w.heap.size (amTo c ent cur (l.take 0))) := by
    unfold Hid amTo
    rw [List.take_zero]
    exact hrow
  have HLc : Hid (IsSl w a1 c c1) := hc
  have HLl : Hid (IsBl w a2 l c2) := hl
  obtain ⟨E, hE⟩ : ∃ E, l.any (amNo c ent cur) = E := ⟨_, rfl⟩
  have HE : Hid (l.any (amNo c ent cur) = E) := hE
  rw [hE]
  obtain ⟨G, hG⟩ : ∃ G, w.heap.size = G := ⟨_, rfl⟩
  have HGw : Hid (w.heap.size = G) := hG
  rw [hG] at HR0
  clear hE hrow hc hl
  go_enter Tryz.func11, Tryz.ntmps11
  go_wp2
  clear hG hmk
  go_loopw [11] (fun i wr => ∃ k : Nat, k ≤ l.length ∧ i = .int .i64 k ∧ Hid (IRow wr G (amTo c ent cur (l.take k)) ∧ Below w.heap.size w wr ∧ (l.take k).any (amNo c ent cur) = false)) (fun i _ => l.length - (intOf i).toNat)
  case atStart => exact ⟨0, Nat.zero_le _, rfl, HR0.out, HB0.out, by simp⟩
  case round =>
    obtain ⟨k, hk, rfl, HR⟩ := hrel
    clear HR0 HB0
    by_cases hlt : k < l.length
    · obtain ⟨b, off, rfl, hb, hcc⟩ := HLl.out.some hlt
      have hx := (hcc k hlt).below HR.out.2.1 hb
      have i0 : (0 : Int) ≤ k := by omega
      have i3 : (k : Int) < l.length := by omega
      have hsn := amTo_snoc c ent cur l k hlt
      have hany := amAny_snoc (amNo c ent cur) l k hlt
      have hbad := any_of_at (p := amNo c ent cur) hlt
      obtain ⟨x, hxx⟩ : ∃ x, l.getD k bl0 = x := ⟨_, rfl⟩
      rw [hxx] at hx hsn hany hbad
      rw [HR.out.2.2, Bool.false_or] at hany
      have HSn : Hid (amTo c ent cur (l.take (k + 1)) = amAt c ent cur (amTo c ent cur (l.take k)) x) := hsn
      have HAn : Hid ((l.take (k + 1)).any (amNo c ent cur) = amNo c ent cur x) := hany
      have HBd : Hid (amNo c ent cur x = true → l.any (amNo c ent cur) = true) := hbad
      clear hxx hcc hsn hany hbad
      by_cases hof : isOf ent cur x = true
      · have hat := refAt_any a1 c1 c x.acc wr (by omega) (HLc.out.below HR.out.2.1)
        have ho2 : x.ent = ent ∧ x.cur = cur := by simpa [isOf] using hof
        have HAt : Hid (Calls Tryz.prog 26 #[.slice a1 c.length c1, .string x.acc] wr fun e w' => e = .returned (.int .i64 (amIx c x)) ∧ w' = wr) := hat
        by_cases hneg : amIx c x < 0
        · have hE1 : E = true := by rw [← HE.out]; exact HBd.out (by simp [amNo, hof, hneg])
          subst hE1
          generalize amIx c x = ix at *
          obtain ⟨x0, x1, x2, x3⟩ := x
          obtain ⟨d0, d1, d2, d3⟩ := hx
          simp only at d0 d1 d2 d3 ho2 HAt
          obtain ⟨rfl, rfl⟩ := ho2
          have HBB : Hid (Below w.heap.size w wr) := HR.out.2.1
          clear hof hat HSn HAn HBd HR HE
          go_wp2_with (go_at_call 26; refine HAt.out.mono ?_; rintro e w' ⟨rfl, hw'⟩; obtain rfl := hw'.symm)
          go_ret2
          exact ⟨HBB.out, rfl⟩
        · obtain ⟨j, hj, hje, -⟩ := idxP_some (p := hasCode x.acc) (l := c) (by unfold amIx at hneg; omega)
          have hje2 : amIx c x = (j : Int) := hje
          have hrl := amTo_length c ent cur (l.take k)
          have hs := irow_set HR.out.1 j x.amt
          have hcl := irow_cell HR.out.1 (i := j) (by omega)
          have hfz := irow_frozen HR.out.1 j
          have HN : Hid (IRow (wr.setCell ⟨G, j, none⟩ (.int .i64 x.amt)) G (amTo c ent cur (l.take (k + 1))) ∧ Below w.heap.size w (wr.setCell ⟨G, j, none⟩ (.int .i64 x.amt)) ∧ (l.take (k + 1)).any (amNo c ent cur) = false) := by
            refine ⟨?_, HR.out.2.1.setCell (p := ⟨G, j, none⟩) (by rw [HGw.out]; exact Nat.le_refl _) _, ?_⟩
            · rw [HSn.out]
              unfold amAt
              rw [if_pos hof, hje2]
              exact hs
            · rw [HAn.out]
              simp [amNo, hof]
              omega
          rw [hje2] at HAt
          generalize (amTo c ent cur (l.take k)).getD j 0 = z at hcl
          obtain ⟨x0, x1, x2, x3⟩ := x
          obtain ⟨d0, d1, d2, d3⟩ := hx
          simp only at d0 d1 d2 d3 ho2 HAt HN
          obtain ⟨rfl, rfl⟩ := ho2
          have j0 : (0 : Int) ≤ j := by omega
          have j1 : (j : Int) < c.length := by omega
          have j2 : ¬ (j : Int) < 0 := by omega
          clear hof hat HSn HAn HBd HR hneg hje hje2 hs hrl
          go_wp2_with (go_at_call 26; refine HAt.out.mono ?_; rintro e w' ⟨rfl, hw'⟩; obtain rfl := hw'.symm)
          go_roundw
          case rel => exact ⟨k + 1, by omega, by go_num, HN⟩
          case measure => simp [intOf]; omega
      · have HN : Hid (IRow wr G (amTo c ent cur (l.take (k + 1))) ∧ Below w.heap.size w wr ∧ (l.take (k + 1)).any (amNo c ent cur) = false) := by
          refine ⟨?_, HR.out.2.1, ?_⟩
          · rw [HSn.out]; unfold amAt; rw [if_neg hof]; exact HR.out.1
          · rw [HAn.out]; unfold amNo; rw [Bool.eq_false_iff.2 hof]; rfl
        obtain ⟨x0, x1, x2, x3⟩ := x
        obtain ⟨d0, d1, d2, d3⟩ := hx
        simp only [isOf] at d0 d1 d2 d3 hof
        clear HSn HAn HBd HR
        by_cases he : x0 = ent
        · subst he
          have hne : x2 ≠ cur := fun e => hof (by simp [e])
          have h1' : ¬ x2.toList = cur.toList := fun e => hne (toList_inj e)
          have h1b := en_ne hne
          clear hof hne
          go_wp2
          go_roundw
          case rel => exact ⟨k + 1, by omega, by go_num, HN⟩
          case measure => simp [intOf]; omega
        · have h1' : (x0 != ent) = true := by simp [he]
          clear hof
          go_wp2
          go_roundw
          case rel => exact ⟨k + 1, by omega, by go_num, HN⟩
          case measure => simp [intOf]; omega
    · obtain rfl : k = l.length := by omega
      have h1 := HR.out
      rw [List.take_length] at h1
      have hE0 : E = false := by rw [← HE.out]; exact h1.2.2
      subst hE0
      have HF : Hid (IRow wr G (amTo c ent cur l) ∧ Below w.heap.size w wr) := ⟨h1.1, h1.2.1⟩
      have i3 : ¬ (l.length : Int) < l.length := by omega
      clear HR h1
      go_wp2
      go_ret2
      refine ⟨HF.out.2, _, rfl, ?_⟩
      exact ⟨by rw [HGw.out]; exact Nat.le_refl _, HF.out.1⟩
end Go.Proofs.YtfkafjffjeipaaaGreatDoor

namespace Go.Proofs.YtfkafjffjeipaaaGreatDoor
set_option linter.unusedVariables false
set_option linter.unusedSimpArgs false
set_option maxRecDepth 100000
open Go.RowKit Go.Lib Math

theorem st1_any (x : Ac) (c : ByteArray) (B : Nat) (w : World) (hB : w.cell? ⟨B, 1, none⟩ = some (.string c)) (hlt : B < w.heap.size) :
    Calls Tryz.prog 31 #[.agg x.cells, .pointer (some ⟨B, 0, none⟩)] w fun e w' => e = .returned (.bool (hasCode c x)) ∧ Below w.heap.size w w' := by
  obtain ⟨a0, a1, a2, a3, a4⟩ := x
  have b0 : Below w.heap.size w (w.alloc (.cells #[.string a0, .string a1, .int .i64 a2, .string a3, .bool a4] 67)) := (Below.refl _ w).alloc (Nat.le_refl _) _
  have hB2 : (w.alloc (.cells #[.string a0, .string a1, .int .i64 a2, .string a3, .bool a4] 67)).cell? ⟨B, 1, none⟩ = some (.string c) := (b0.cell (p := ⟨B, 1, none⟩) hlt).trans hB
  simp only [Ac.cells]
  by_cases h : a0 = c
  · subst h
    have e1 : hasCode a0 ⟨a0, a1, a2, a3, a4⟩ = true := by simp [hasCode]
    rw [e1]
    go_enter Tryz.func31, Tryz.ntmps31
    go_wp2
    go_ret
    exact ⟨rfl, b0⟩
  · have e1 : hasCode c ⟨a0, a1, a2, a3, a4⟩ = false := by simp [hasCode, h]
    have h' := ch_ne h
    rw [e1]
    go_enter Tryz.func31, Tryz.ntmps31
    go_wp2
    go_ret
    exact ⟨by rw [← h']; rfl, b0⟩
theorem st1_tells (c : ByteArray) (B : Nat) (w : World) (hB : w.cell? ⟨B, 1, none⟩ = some (.string c)) (hlt : B < w.heap.size) : Tells 31 B (hasCode c) w :=
  ⟨fun args W => enters Tryz.func31 (by kernel_rfl) ⟨_, rfl⟩ args W, fun x W hW => st1_any x c B W ((hW.cell (p := ⟨B, 1, none⟩) hlt).trans hB) (by have := hW.size; omega)⟩

/-- What is wrong with a statement. -/
def stE (c : List Ac) (l : List Bl) (ent : Int) (cur : ByteArray) : Int := if chBad c ≠ 0 then chBad c else if chk l ≠ 0 then chk l else if l.any (amNo c ent cur) = true then 6 else if rollOk c (amTo c ent cur l) c.length = true then 0 else 10
def StEnd (c : List Ac) (l : List Bl) (ent : Int) (cur : ByteArray) (w : World) (e : Ending) (w' : World) : Prop :=
  Below w.heap.size w w' ∧ (stE c l ent cur ≠ 0 → e = .returned (.tuple #[.slice none 0 0, enE (stE c l ent cur)])) ∧ (stE c l ent cur = 0 → ∃ g, e = .returned (.tuple #[.slice (some ⟨g, 0, none⟩) c.length c.length, .nilIface]) ∧ Hid (IRow w' g ((List.range c.length).map (rollI c (amTo c ent cur l)))))

set_option maxHeartbeats 4000000 in
theorem statement_any (a1 a2 : Option Addr) (c1 c2 : Nat) (c : List Ac) (l : List Bl) (ent : Int) (cur : ByteArray) (w : World) (hc : IsSl w a1 c c1) (hl : IsBl w a2 l c2) (ll : l.length ≤ 9223372036854775807) :
    Calls Tryz.prog 13 #[.slice a1 c.length c1, .slice a2 l.length c2, .int .i64 ent, .string cur] w (StEnd c l ent cur w) := by
  have HLc : Hid (IsSl w a1 c c1) := hc
  have HLl : Hid (IsBl w a2 l c2) := hl
  have HC1 : Hid (Calls Tryz.prog 29 #[.slice a1 c.length c1] w fun e w' => e = .returned (chE (chBad c)) ∧ Below w.heap.size w w') := chCheck_any a1 c1 c w hc
  have HC2 : Hid (∀ U, Below w.heap.size w U → Calls Tryz.prog 5 #[.slice a2 l.length c2] U fun e w' => e = .returned (enE (chk l)) ∧ Below U.heap.size U w') := fun U hU => ldCheck_any a2 c2 l U ll (hl.below hU)
  clear hc hl
  by_cases h1 : chBad c = 0
  case neg =>
    have em : stE c l ent cur = chBad c := by unfold stE; rw [if_pos h1]
    unfold StEnd
    rw [em]
    rw [chE_ne h1] at HC1
    rw [enE_ne h1]
    clear em
    generalize chBad c = q at *
    go_enter Tryz.func13, Tryz.ntmps13
    go_wp2_with fail
    refine HC1.out.mono ?_
    rintro e w1 ⟨rfl, hb1⟩
    have HB1 : Hid (Below w.heap.size w w1) := hb1
    clear hb1
    go_wp2
    go_ret2
    exact ⟨HB1.out, fun _ => rfl, fun h => absurd h h1⟩
  rw [h1, chE_zero] at HC1
  by_cases h2 : chk l = 0
  case neg =>
    have em : stE c l ent cur = chk l := by unfold stE; rw [if_neg (by simp [h1]), if_pos h2]
    unfold StEnd
    rw [em]
    rw [enE_ne h2] at HC2 ⊢
    clear em h1
    generalize chk l = q at *
    go_enter Tryz.func13, Tryz.ntmps13
    go_wp2_with fail
    refine HC1.out.mono ?_
    rintro e w1 ⟨rfl, hb1⟩
    have HB1 : Hid (Below w.heap.size w w1) := hb1
    clear hb1
    go_wp2_with fail
    refine (HC2.out w1 HB1.out).mono ?_
    rintro e w2 ⟨rfl, hb2⟩
    have HB2 : Hid (Below w.heap.size w w2) := HB1.out.trans (hb2.mono HB1.out.size)
    clear hb2
    go_wp2
    go_ret2
    exact ⟨HB2.out, fun _ => rfl, fun h => absurd h h2⟩
  rw [h2, enE_zero] at HC2
  have lc := chBad_len h1
  have HFl : Hid (Fine l) := chk_zero.1 h2
  have HSt : Hid (stE c l ent cur = if l.any (amNo c ent cur) = true then 6 else if rollOk c (amTo c ent cur l) c.length = true then 0 else 10) := by
    unfold Hid stE
    rw [if_neg (by simp [h1]), if_neg (by simp [h2])]
  have HCh : Hid (chBad c = 0) := h1
  have ll2 := HFl.out.len
  clear h1 h2 ll
  have hmk := fun w => run_make_row' (P := Tryz.prog) 35 3 (.int .i64 0) 8 Tryz.underlying35 int_info rfl .i64 .i64 c.length (by omega) (by omega) w
  go_enter Tryz.func13, Tryz.ntmps13
  go_wp2_with fail
  refine HC1.out.mono ?_
  rintro e w1 ⟨rfl, hb1⟩
  have HB1 : Hid (Below w.heap.size w w1) := hb1
  clear hb1 HC1
  go_wp2_with fail
  refine (HC2.out w1 HB1.out).mono ?_
  rintro e w2 ⟨rfl, hb2⟩
  have HB2 : Hid (Below w.heap.size w w2) := HB1.out.trans (hb2.mono HB1.out.size)
  clear hb2 HC2 HB1
  have HB0 : Hid (Below w.heap.size w (w2.alloc (.cells (madeCells #[.int .i64 0] c.length) 3))) := HB2.out.alloc HB2.out.size _
  have HR0 : Hid (IRow (w2.alloc (.cells (madeCells #[.int .i64 0] c.length) 3)) w2.heap.size (amTo c ent cur (l.take 0))) := by
    have hrow := irow_made w2 c.length
    unfold Hid amTo
    rw [List.take_zero]
    exact hrow
  have HGw : Hid (w.heap.size ≤ w2.heap.size) := HB2.out.size
  clear HB2
  go_wp2_with fail
  clear hmk
  generalize w2.heap.size = G at *
  go_loopw [31] (fun i wr => ∃ k : Nat, k ≤ l.length ∧ i = .int .i64 k ∧ Hid (IRow wr G (amTo c ent cur (l.take k)) ∧ Below w.heap.size w wr ∧ (l.take k).any (amNo c ent cur) = false)) (fun i _ => l.length - (intOf i).toNat)
  case atStart => exact ⟨0, Nat.zero_le _, rfl, HR0.out, HB0.out, by simp⟩
  case round =>
    obtain ⟨k, hk, rfl, HR⟩ := hrel
    clear HR0 HB0
    by_cases hlt : k < l.length
    · obtain ⟨b, off, rfl, hb, hcc⟩ := HLl.out.some hlt
      have hx := (hcc k hlt).below HR.out.2.1 hb
      have i0 : (0 : Int) ≤ k := by omega
      have i3 : (k : Int) < l.length := by omega
      have hsn := amTo_snoc c ent cur l k hlt
      have hany := amAny_snoc (amNo c ent cur) l k hlt
      have hbad := any_of_at (p := amNo c ent cur) hlt
      obtain ⟨x, hxx⟩ : ∃ x, l.getD k bl0 = x := ⟨_, rfl⟩
      rw [hxx] at hx hsn hany hbad
      rw [HR.out.2.2, Bool.false_or] at hany
      have HSn : Hid (amTo c ent cur (l.take (k + 1)) = amAt c ent cur (amTo c ent cur (l.take k)) x) := hsn
      have HAn : Hid ((l.take (k + 1)).any (amNo c ent cur) = amNo c ent cur x) := hany
      have HBd : Hid (amNo c ent cur x = true → l.any (amNo c ent cur) = true) := hbad
      clear hxx hcc hsn hany hbad
      obtain ⟨Z, hZ⟩ : ∃ Z, wr.alloc (.cells x.cells 46) = Z := ⟨_, rfl⟩
      have hbZ : Below wr.heap.size wr Z := by rw [← hZ]; exact (Below.refl _ _).alloc (Nat.le_refl _) _
      have hbt : BlAt Z wr.heap.size 0 x := by rw [← hZ]; exact BlAt.new wr x 46
      have hszZ : wr.heap.size < Z.heap.size := by rw [← hZ]; simp
      have hRZ := irow_below HR.out.1 hbZ (irow_lt HR.out.1)
      have hBZ : Below w.heap.size w Z := HR.out.2.1.trans (hbZ.mono HR.out.2.1.size)
      have HGZ : Hid (G < Z.heap.size) := irow_lt hRZ
      have HZ : Hid (wr.alloc (.cells x.cells 46) = Z) := hZ
      have HRZ : Hid (IRow Z G (amTo c ent cur (l.take k)) ∧ Below w.heap.size w Z) := ⟨hRZ, hBZ⟩
      have HBt : Hid (BlAt Z wr.heap.size 0 x ∧ wr.heap.size < Z.heap.size) := ⟨hbt, hszZ⟩
      clear hZ hbZ hRZ hBZ hszZ
      by_cases hof : isOf ent cur x = true
      · have ho2 : x.ent = ent ∧ x.cur = cur := by simpa [isOf] using hof
        have HAt : Hid (Calls Tryz.prog 30 #[.slice a1 c.length c1, .func (.func 31) #[] #[.pointer (some ⟨wr.heap.size, 0, none⟩)]] Z fun e w' => e = .returned (.int .i64 (amIx c x)) ∧ Below Z.heap.size Z w') :=
          chIdx_any 31 wr.heap.size (hasCode x.acc) a1 c1 c Z (st1_tells x.acc wr.heap.size Z (by obtain ⟨_, q1, _, _⟩ := HBt.out.1; rwa [Nat.zero_add] at q1) HBt.out.2) (by omega) (HLc.out.below HRZ.out.2)
        by_cases hneg : amIx c x < 0
        · have hE1 : stE c l ent cur = 6 := by rw [HSt.out, if_pos (HBd.out (by simp [amNo, hof, hneg]))]
          generalize amIx c x = ix at *
          obtain ⟨x0, x1, x2, x3⟩ := x
          obtain ⟨d0, d1, d2, d3⟩ := hx
          obtain ⟨f0, f1, f2, f3⟩ := hbt
          simp only [Bl.cells, Nat.zero_add] at d0 d1 d2 d3 f0 f1 f2 f3 ho2 HAt HZ
          obtain ⟨rfl, rfl⟩ := ho2
          unfold StEnd
          rw [hE1, enE_ne (by decide)]
          clear hof HSn HAn HBd HR HSt hE1
          go_wp2_with (go_at_call 30; rw [HZ.out]; refine HAt.out.mono ?_; rintro e w' ⟨rfl, hw'⟩)
          have HBB : Hid (Below w.heap.size w w') := HRZ.out.2.trans (hw'.mono HRZ.out.2.size)
          go_ret2
          exact ⟨HBB.out, fun _ => rfl, fun h => absurd h (by decide)⟩
        · obtain ⟨j, hj, hje, -⟩ := idxP_some (p := hasCode x.acc) (l := c) (by unfold amIx at hneg; omega)
          have hje2 : amIx c x = (j : Int) := hje
          have hrl := amTo_length c ent cur (l.take k)
          have HN : Hid (∀ U, Below Z.heap.size Z U → (IRow (U.setCell ⟨G, j, none⟩ (.int .i64 x.amt)) G (amTo c ent cur (l.take (k + 1))) ∧ Below w.heap.size w (U.setCell ⟨G, j, none⟩ (.int .i64 x.amt)) ∧ (l.take (k + 1)).any (amNo c ent cur) = false) ∧ (∃ z, U.cell? ⟨G, j, none⟩ = some (.int .i64 z)) ∧ U.frozen? ⟨G, j, none⟩ = false ∧ BlAt U wr.heap.size 0 x) := fun U hU => by
            have hRU := irow_below HRZ.out.1 hU HGZ.out
            have hs := irow_set hRU j x.amt
            refine ⟨⟨?_, (HRZ.out.2.trans (hU.mono HRZ.out.2.size)).setCell (p := ⟨G, j, none⟩) HGw.out _, ?_⟩, ⟨_, irow_cell hRU (i := j) (by omega)⟩, irow_frozen hRU j, HBt.out.1.below hU HBt.out.2⟩
            · rw [HSn.out]
              unfold amAt
              rw [if_pos hof, hje2]
              exact hs
            · rw [HAn.out]
              simp [amNo, hof]
              omega
          rw [hje2] at HAt
          obtain ⟨x0, x1, x2, x3⟩ := x
          obtain ⟨d0, d1, d2, d3⟩ := hx
          obtain ⟨f0, f1, f2, f3⟩ := hbt
          simp only [Bl.cells, Nat.zero_add] at d0 d1 d2 d3 f0 f1 f2 f3 ho2 HAt HZ HN
          obtain ⟨rfl, rfl⟩ := ho2
          have j0 : (0 : Int) ≤ j := by omega
          have j1 : (j : Int) < c.length := by omega
          have j2 : ¬ (j : Int) < 0 := by omega
          clear hof HSn HAn HBd HR hneg hje hje2 hrl
          go_wp2_with (go_at_call 30; rw [HZ.out]; refine HAt.out.mono ?_; rintro e w' ⟨rfl, hw'⟩; obtain ⟨hN1, ⟨zz, hN2⟩, hN3, hN4⟩ := HN.out w' hw'; have HN1 : Hid _ := hN1; clear hN1; obtain ⟨g0, g1, g2, g3⟩ := hN4; simp only [Nat.zero_add] at g0 g1 g2 g3)
          go_roundw
          case rel => exact ⟨k + 1, by omega, by go_num, HN1⟩
          case measure => simp [intOf]; omega
      · have HN : Hid (IRow Z G (amTo c ent cur (l.take (k + 1))) ∧ Below w.heap.size w Z ∧ (l.take (k + 1)).any (amNo c ent cur) = false) := by
          refine ⟨?_, HRZ.out.2, ?_⟩
          · rw [HSn.out]; unfold amAt; rw [if_neg hof]; exact HRZ.out.1
          · rw [HAn.out]; unfold amNo; rw [Bool.eq_false_iff.2 hof]; rfl
        obtain ⟨x0, x1, x2, x3⟩ := x
        obtain ⟨d0, d1, d2, d3⟩ := hx
        simp only [isOf, Bl.cells] at d0 d1 d2 d3 hof HZ
        rw [← HZ.out] at HN
        clear HSn HAn HBd HR HRZ HBt hbt HGZ
        by_cases he : x0 = ent
        · subst he
          have hne : x2 ≠ cur := fun e => hof (by simp [e])
          have h1' : ¬ x2.toList = cur.toList := fun e => hne (toList_inj e)
          have h1b := en_ne hne
          clear hof hne
          go_wp2
          go_roundw
          case rel => exact ⟨k + 1, by omega, by go_num, HN⟩
          case measure => simp [intOf]; omega
        · have h1' : (x0 != ent) = true := by simp [he]
          clear hof
          go_wp2
          go_roundw
          case rel => exact ⟨k + 1, by omega, by go_num, HN⟩
          case measure => simp [intOf]; omega
    · obtain rfl : k = l.length := by omega
      have h1 := HR.out
      rw [List.take_length] at h1
      have hal := amTo_length c ent cur l
      have hft := amTo_fits c ent cur l (fun x hx => by have := HFl.out.amt x hx; exact ⟨by omega, by omega⟩)
      have hin : IsInts wr (some ⟨G, 0, none⟩) (amTo c ent cur l) c.length := ⟨by omega, hft, .inr ⟨G, 0, rfl, irow_lt h1.1, fun k hk => by rw [Nat.zero_add]; exact irow_cell h1.1 hk⟩⟩
      have hr := roll_any a1 c1 c (some ⟨G, 0, none⟩) (amTo c ent cur l) c.length wr (HLc.out.below h1.2.1) hin
      rw [hal] at hr
      have hst : stE c l ent cur = rollBad c (amTo c ent cur l) := by
        have hrb : rollBad c (amTo c ent cur l) = if rollOk c (amTo c ent cur l) c.length = true then 0 else 10 := by
          unfold rollBad
          rw [if_neg (by have := HCh.out; omega), if_neg (by omega)]
        rw [HSt.out, hrb, if_neg (by rw [h1.2.2]; simp)]
      have HB : Hid (Below w.heap.size w wr) := h1.2.1
      have HRl : Hid (Calls Tryz.prog 32 #[.slice a1 c.length c1, .slice (some ⟨G, 0, none⟩) c.length c.length] wr (RollEnd c (amTo c ent cur l) wr)) := hr
      have HStE : Hid (stE c l ent cur = rollBad c (amTo c ent cur l)) := hst
      have i3 : ¬ (l.length : Int) < l.length := by omega
      clear HR h1 hal hft hin hr hst HSt
      by_cases h0 : rollBad c (amTo c ent cur l) = 0
      · go_wp2_with fail
        refine HRl.out.mono ?_
        rintro e w5 ⟨hb5, -, hok⟩
        obtain ⟨g, rfl, -, hrow⟩ := hok h0
        have HEnd : Hid (Below w.heap.size w w5 ∧ IRow w5 g ((List.range c.length).map (rollI c (amTo c ent cur l)))) := ⟨HB.out.trans (hb5.mono HB.out.size), hrow⟩
        clear hb5 hok hrow
        go_wp2
        go_ret2
        exact ⟨HEnd.out.1, fun h => absurd (HStE.out.trans h0) h, fun _ => ⟨g, rfl, HEnd.out.2⟩⟩
      · have ee : enE (stE c l ent cur) = chE (rollBad c (amTo c ent cur l)) := by rw [HStE.out]; rfl
        rw [chE_ne h0] at ee
        have Hee : Hid _ := ee
        clear ee
        go_wp2_with fail
        refine HRl.out.mono ?_
        rintro e w5 ⟨hb5, hno, -⟩
        obtain rfl := hno h0
        have HEnd : Hid (Below w.heap.size w w5) := HB.out.trans (hb5.mono HB.out.size)
        rw [chE_ne h0]
        clear hb5 hno
        go_wp2
        go_ret2
        exact ⟨HEnd.out, fun _ => by rw [Hee.out]; rfl, fun h => absurd (HStE.out.symm.trans h) h0⟩
end Go.Proofs.YtfkafjffjeipaaaGreatDoor
