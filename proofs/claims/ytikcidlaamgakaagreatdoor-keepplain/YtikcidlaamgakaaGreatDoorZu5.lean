/-
  The contract of area.pieces: all pieces that are there, in a row of one's own.
-/
import Derived.Test.YtikcidlaamgakaaGreatDoorZu4
import Derived.Deep.CutRange
import Derived.Deep.CutBlock
namespace Go.Proofs.YtikcidlaamgakaaGreatDoor
set_option linter.unusedVariables false
set_option linter.unusedSimpArgs false
set_option maxRecDepth 100000
open Go.RowKit Go.Lib
section
variable {w W : World} {p nb sb : Nat} {cv : Value} {n : Nat} {D : Dk}
set_option maxHeartbeats 2000000 in
theorem readPiece_ok (a : Tn w W p nb sb cv n D) (fr mn i : Nat) (hi : fr + i < n) (hn : n ≤ 200) (hm : mn ≤ 200) (ht : (D.now.getD (fr + i) bk0).torn = false) :
    Calls Tryz.prog 61 #[.agg #[.pointer (some ⟨p, 0, none⟩), .int .i64 (fr : Int), .int .i64 (mn : Int)], .int .i64 (i : Int)] W fun e w' => ((pcOf mn (D.now.getD (fr + i) bk0) = none ∧ e = .returned (.tuple #[.agg pc0C, .bool false])) ∨ ∃ q ad cap, pcOf mn (D.now.getD (fr + i) bk0) = some q ∧ e = .returned (.tuple #[.agg (Pm.mk i q ad cap).cells.toArray, .bool true]) ∧ Hid (Pm.ok w' (Pm.mk i q ad cap))) ∧ Hid (Below W.heap.size W w') := by
  have hok : (D.now.getD (fr + i) bk0).byt.length = 64 := getD_ok a.1.ok.nowO (fr + i)
  have hal := alloc_pc
  obtain ⟨W0, hW0⟩ : ∃ W0, (W.alloc (.cells #[.pointer (some ⟨p, 0, none⟩), .int .i64 (fr : Int), .int .i64 (mn : Int)] 71)).alloc (.cells pc0C 122) = W0 := ⟨_, rfl⟩
  obtain ⟨ha0, hr0, hb0⟩ := two_new W (.cells #[.pointer (some ⟨p, 0, none⟩), .int .i64 (fr : Int), .int .i64 (mn : Int)] 71) (.cells pc0C 122)
  rw [hW0] at ha0 hr0 hb0
  have c0 : W0.cell? ⟨W.heap.size, 0, none⟩ = some (.pointer (some ⟨p, 0, none⟩)) := by simp [World.cell?, ha0]
  have c1 : W0.cell? ⟨W.heap.size, 1, none⟩ = some (.int .i64 (fr : Int)) := by simp [World.cell?, ha0]
  have HR : Hid (Calls _ _ _ W0 _) := tn_read (a.below hb0) (fr + i) hi ht
  rw [show ((fr + i : Nat) : Int) = (fr : Int) + (i : Int) by omega] at HR
  have hbd := build_pc0
  have HB : Hid (Below W.heap.size W W0) := hb0
  have Hr0 : Hid (W0.heap[W.heap.size + 1]? = some (.cells pc0C 122 (0, 0))) := hr0
  have Ha0 : Hid (W0.heap[W.heap.size]? = some (.cells #[.pointer (some ⟨p, 0, none⟩), .int .i64 (fr : Int), .int .i64 (mn : Int)] 71 (0, 0))) := ha0
  have f0 : (0 : Int) ≤ fr := by omega
  have i0 : (0 : Int) ≤ i := by omega
  have fi : (fr : Int) + i < 200 := by omega
  have hG : W.heap.size + 1 < W0.heap.size := (Array.getElem?_eq_some_iff.1 hr0).1
  have HP : Hid (∀ x, pcOf mn (D.now.getD (fr + i) bk0) = x ↔ pcOf mn ⟨(D.now.getD (fr + i) bk0).byt, false⟩ = x) := fun x => by
    generalize D.now.getD (fr + i) bk0 = b at *
    obtain ⟨byt, torn⟩ := b
    simp only at ht
    subst ht
    exact Iff.rfl
  obtain ⟨pv, hpv⟩ : ∃ pv, pcOf mn (D.now.getD (fr + i) bk0) = pv := ⟨_, rfl⟩
  rw [hpv]
  have hpv' := (HP.out pv).1 hpv
  clear a ht hb0 hr0 ha0 hpv HP
  generalize (D.now.getD (fr + i) bk0).byt = byt at *
  obtain ⟨x0, x1, x2, x3, rest, rfl, hrest⟩ : ∃ x0 x1 x2 x3 rest, byt = x0 :: x1 :: x2 :: x3 :: rest ∧ rest.length = 60 := by
    match byt, hok with
    | x0 :: x1 :: x2 :: x3 :: rest, h => exact ⟨x0, x1, x2, x3, rest, rfl, by simpa using h⟩
  clear hok
  unfold pcOf at hpv'
  rw [if_neg (by simp)] at hpv'
  simp only [List.getD_cons_zero, List.getD_cons_succ, List.drop_succ_cons, List.drop_zero] at hpv'
  have hX0 := x0.toNat_lt
  have hX3 := x3.toNat_lt
  have hwd : wordN (x1 :: x2 :: x3 :: rest) = wordN [x1, x2] := rfl
  rw [hwd] at hpv'
  have hWd : wordN [x1, x2] < 65536 := by
    have h1 := x1.toNat_lt
    have h2 := x2.toNat_lt
    show x1.toNat * 256 + x2.toNat < 65536
    omega
  have HWord : Hid (∀ (u : World) (G : Nat), G < u.heap.size → u.cell? ⟨G, 1, none⟩ = some (.int .u8 (x1.toNat : Int)) → u.cell? ⟨G, 2, none⟩ = some (.int .u8 (x2.toNat : Int)) → Calls Tryz.prog 54 #[.slice (some ⟨G, 1, none⟩) 2 63] u fun e w' => e = .returned (.int .i64 (wordN [x1, x2] : Nat)) ∧ ∃ k, w' = u.drewN k) := fun u G hG h1 h2 =>
    word_at (some ⟨G, 1, none⟩) [x1, x2] 63 u ⟨by simp, .inr ⟨G, 1, rfl, hG, fun k hk => by
      match k, hk with
      | 0, _ => exact h1
      | 1, _ => exact h2⟩⟩ (by simp) (by simp)
  have HSize : Hid (∀ u : World, Calls Tryz.prog 62 #[.agg #[.pointer (some ⟨p, 0, none⟩), .int .i64 (fr : Int), .int .i64 (mn : Int)]] u fun e w' => e = .returned (.int .i64 (((mn - 2) * 60 : Nat) : Int)) ∧ Below u.heap.size u w') := fun u => size_any p fr mn u hm
  obtain ⟨wd, hwdd⟩ : ∃ wd, wordN [x1, x2] = wd := ⟨_, rfl⟩
  rw [hwdd] at HWord hpv' hWd
  have hA : bits .and .u8 (x3.toNat : Int) 128 = if 128 ≤ x3.toNat then 128 else 0 := and_mark _ hX3
  have hN : bits .andNot .u8 (x3.toNat : Int) 128 = ((x3.toNat % 128 : Nat) : Int) := andNot_mark _ hX3
  obtain ⟨fb, hfb⟩ : ∃ fb, decide (128 ≤ x3.toNat) = fb := ⟨_, rfl⟩
  rw [hfb] at hpv'
  have HN : Hid (x3.toNat % 128 < 128) := Nat.mod_lt _ (by omega)
  clear hwdd hwd
  generalize hk3 : x3.toNat % 128 = k at *
  clear hk3
  obtain ⟨X0, hX00⟩ : ∃ X0, x0.toNat = X0 := ⟨_, rfl⟩
  rw [hX00] at hpv' hX0
  obtain ⟨ms, hms⟩ : ∃ ms, (mn - 2) * 60 = ms := ⟨_, rfl⟩
  rw [hms] at HSize hpv'
  have hmsl : ms ≤ 12000 := by omega
  have HX00 : Hid (x0.toNat = X0) := hX00
  clear hX00 hms
  have X00 : (0 : Int) ≤ X0 := by omega
  have X01 : (X0 : Int) < 256 := by omega
  have k0 : (0 : Int) ≤ k := by omega
  have k1 : (k : Int) < 128 := by have := HN.out; omega
  have s0 : (0 : Int) ≤ ms := by omega
  have s1 : (ms : Int) ≤ 12000 := by omega
  go_enter Tryz.func61, Tryz.ntmps61
  go_wp2_with (refine wpList_alloc_run rfl 122 rfl (hal _) ?_)
  refine HR.out.mono ?_
  rintro e w1 ⟨rfl, _, hrow, hb1⟩
  have HBW1 : Hid (Below W.heap.size W w1) := HB.out.trans (hb1.out.mono HB.out.size)
  have HG1 : Hid (W0.heap.size < w1.heap.size) := (Array.getElem?_eq_some_iff.1 hrow.out).1
  have Hr1 : Hid (w1.heap[W.heap.size + 1]? = some (.cells pc0C 122 (0, 0))) := (hb1.out.block _ hG).trans Hr0.out
  have Hra1 : Hid (w1.heap[W.heap.size]? = some (.cells #[.pointer (some ⟨p, 0, none⟩), .int .i64 (fr : Int), .int .i64 (mn : Int)] 71 (0, 0))) := (hb1.out.block _ (by omega)).trans Ha0.out
  have Hrow : Hid (w1.heap[W0.heap.size]? = some (.cells (byC (x0 :: x1 :: x2 :: x3 :: rest)).toArray 5 (0, 0))) := hrow.out
  clear HR hrow hb1 c0 c1 Hr0 Ha0 hW0 hal
  obtain ⟨G, hGG⟩ : ∃ G, W0.heap.size = G := ⟨_, rfl⟩
  rw [hGG] at Hrow hG HG1
  try rw [hGG]
  have HBW0 : Hid (W.heap.size + 1 < G) := hG
  have d0 : w1.cell? ⟨G, 0, none⟩ = some (.int .u8 (X0 : Int)) := by
    rw [cell_of_row _ _ _ _ _ (0, 0) Hrow.out, ← HX00.out]; rfl
  have d1 : w1.cell? ⟨G, 1, none⟩ = some (.int .u8 (x1.toNat : Int)) := by
    rw [cell_of_row _ _ _ _ _ (0, 0) Hrow.out]; rfl
  have d2 : w1.cell? ⟨G, 2, none⟩ = some (.int .u8 (x2.toNat : Int)) := by
    rw [cell_of_row _ _ _ _ _ (0, 0) Hrow.out]; rfl
  have d3 : w1.cell? ⟨G, 3, none⟩ = some (.int .u8 (x3.toNat : Int)) := by
    rw [cell_of_row _ _ _ _ _ (0, 0) Hrow.out]; rfl
  have gl : G < w1.heap.size := HG1.out
  clear hGG HB hG
  have HRow : Hid (w1.heap[G]? = some (.cells (byC (x0 :: x1 :: x2 :: x3 :: rest)).toArray 5 (0, 0)) ∧ Below W.heap.size W w1) := ⟨Hrow.out, HBW1.out⟩
  have Hc : Hid (∀ u : World, u.heap[G]? = some (.cells (byC (x0 :: x1 :: x2 :: x3 :: rest)).toArray 5 (0, 0)) → u.cell? ⟨G, 0, none⟩ = some (.int .u8 (X0 : Int)) ∧ u.cell? ⟨G, 1, none⟩ = some (.int .u8 (x1.toNat : Int)) ∧ u.cell? ⟨G, 2, none⟩ = some (.int .u8 (x2.toNat : Int)) ∧ u.cell? ⟨G, 3, none⟩ = some (.int .u8 (x3.toNat : Int))) := fun u hu =>
    ⟨by rw [cell_of_row _ _ _ _ _ (0, 0) hu, ← HX00.out]; rfl, by rw [cell_of_row _ _ _ _ _ (0, 0) hu]; rfl, by rw [cell_of_row _ _ _ _ _ (0, 0) hu]; rfl, by rw [cell_of_row _ _ _ _ _ (0, 0) hu]; rfl⟩
  clear d0 d1 d2
  go_upto_region 4 with fail
  go_cut [8] from 23 to 36 (fun t wx => ∃ B5, t = .pointer (some ⟨B5, 0, none⟩) ∧ Hid (wx.heap[B5]? = some (.cells #[.int .i64 (i : Int), .int .i64 (X0 : Int), .int .i64 (wd : Int), .bool fb, .slice none 0 0] 122 (0, 0)) ∧ Below w1.heap.size w1 wx ∧ w1.heap.size ≤ B5))
  case first =>
    clear HSize
    by_cases h128 : 128 ≤ x3.toNat
    · rw [if_pos h128] at hA
      rw [decide_eq_true h128] at hfb
      subst hfb
      clear h128
      have hbd4 := build_pc4 (i : Int) (X0 : Int) (wd : Int) true
      have hal := alloc_pc
      have hdr : Below w1.heap.size w1 w1.drew := ⟨rfl, rfl, rfl, Nat.le_refl _, fun _ _ => rfl⟩
      have HT : Hid (w1.drew.heap[G]? = some (.cells (byC (x0 :: x1 :: x2 :: x3 :: rest)).toArray 5 (0, 0)) ∧ Below w1.heap.size w1 w1.drew) := ⟨Hrow.out, hdr⟩
      refine wp_region_drawn (by kernel_rfl) ?_
      generalize w1.drew = v2 at *
      clear hdr
      refine wpAny_take (i := 0) (v := .int .i64 (i : Int)) rfl (by kernel_rfl) (by kernel_rfl) (by kernel_rfl) (fun _ _ _ h => h) (Or.inl ⟨by rfl, fun w => by go_simp⟩) ?_
      simp only [Act.put, List.getElem_toArray, List.getElem_cons_succ, List.getElem_cons_zero, List.setIfInBounds_toArray, List.set_cons_zero, List.set_cons_succ]
      refine wpAny_take (i := 1) (v := .slice (some ⟨G, 0, none⟩) 64 64) rfl (by kernel_rfl) (by kernel_rfl) (by kernel_rfl) (fun _ _ _ h => h) (Or.inl ⟨by rfl, fun w => by go_simp⟩) ?_
      simp only [Act.put, List.getElem_toArray, List.getElem_cons_succ, List.getElem_cons_zero, List.setIfInBounds_toArray, List.set_cons_zero, List.set_cons_succ]
      refine wpAny_take (i := 2) (v := .pointer (some ⟨G, 0, none⟩)) rfl (by kernel_rfl) (by kernel_rfl) (by kernel_rfl) (fun _ _ _ h => h) (Or.inl ⟨by rfl, fun w => by go_simp⟩) ?_
      simp only [Act.put, List.getElem_toArray, List.getElem_cons_succ, List.getElem_cons_zero, List.setIfInBounds_toArray, List.set_cons_zero, List.set_cons_succ]
      refine wpAny_take (i := 5) (v := .slice (some ⟨G, 0, none⟩) 64 64) rfl (by kernel_rfl) (by kernel_rfl) (by kernel_rfl) (fun _ _ _ h => h) (Or.inl ⟨by rfl, fun w => by go_simp⟩) ?_
      simp only [Act.put, List.getElem_toArray, List.getElem_cons_succ, List.getElem_cons_zero, List.setIfInBounds_toArray, List.set_cons_zero, List.set_cons_succ]
      refine wpAny_take (i := 6) (v := .slice (some ⟨G, 1, none⟩) 2 63) rfl (by kernel_rfl) (by kernel_rfl) (by kernel_rfl) (fun _ _ _ h => h) (Or.inl ⟨by rfl, fun w => by go_simp⟩) ?_
      simp only [Act.put, List.getElem_toArray, List.getElem_cons_succ, List.getElem_cons_zero, List.setIfInBounds_toArray, List.set_cons_zero, List.set_cons_succ]
      refine wpAny_take (i := 8) (v := .slice (some ⟨G, 0, none⟩) 64 64) rfl (by kernel_rfl) (by kernel_rfl) (by kernel_rfl) (fun _ _ _ h => h) (Or.inl ⟨by rfl, fun w => by go_simp⟩) ?_
      simp only [Act.put, List.getElem_toArray, List.getElem_cons_succ, List.getElem_cons_zero, List.setIfInBounds_toArray, List.set_cons_zero, List.set_cons_succ]
      refine wpAny_take (i := 9) (v := .pointer (some ⟨G, 3, none⟩)) rfl (by kernel_rfl) (by kernel_rfl) (by kernel_rfl) (fun _ _ _ h => h) (Or.inl ⟨by rfl, fun w => by go_simp⟩) ?_
      simp only [Act.put, List.getElem_toArray, List.getElem_cons_succ, List.getElem_cons_zero, List.setIfInBounds_toArray, List.set_cons_zero, List.set_cons_succ]
      refine any_of_L (g := 15) (T := fun u => u.heap[G]? = some (.cells (byC (x0 :: x1 :: x2 :: x3 :: rest)).toArray 5 (0, 0)) ∧ Below w1.heap.size w1 u) _ _ _ _ ?_
      refine L_take (i := 3) (v := .int .u8 (X0 : Int)) rfl rfl (by kernel_rfl) (by decide) (by kernel_rfl) (by kernel_rfl) (by kernel_rfl) (by kernel_rfl) (fun _ _ _ h => h) (Or.inl ⟨by rfl, fun w' hw' => by have c0 := (Hc.out w' hw'.1).1; clear hw'; go_simp⟩) HT.out ?_
      simp only [Act.put, List.getElem_toArray, List.getElem_cons_succ, List.getElem_cons_zero, List.setIfInBounds_toArray, List.set_cons_zero, List.set_cons_succ]
      refine L_take (i := 10) (v := .int .u8 (x3.toNat : Int)) rfl rfl (by kernel_rfl) (by decide) (by kernel_rfl) (by kernel_rfl) (by kernel_rfl) (by kernel_rfl) (fun _ _ _ h => h) (Or.inl ⟨by rfl, fun w' hw' => by have c0 := (Hc.out w' hw'.1).2.2.2; clear hw'; go_simp⟩) HT.out ?_
      simp only [Act.put, List.getElem_toArray, List.getElem_cons_succ, List.getElem_cons_zero, List.setIfInBounds_toArray, List.set_cons_zero, List.set_cons_succ]
      refine L_take (i := 4) (v := .int .i64 (X0 : Int)) rfl rfl (by kernel_rfl) (by decide) (by kernel_rfl) (by kernel_rfl) (by kernel_rfl) (by kernel_rfl) (fun _ _ _ h => h) (Or.inl ⟨by rfl, fun w' hw' => by clear hw'; have hwr : IntKind.i64.wrap (X0 : Int) = X0 := (by rw [IntKind.wrap_i64]; omega); go_simp⟩) HT.out ?_
      simp only [Act.put, List.getElem_toArray, List.getElem_cons_succ, List.getElem_cons_zero, List.setIfInBounds_toArray, List.set_cons_zero, List.set_cons_succ]
      refine L_take (i := 11) (v := .int .u8 128) rfl rfl (by kernel_rfl) (by decide) (by kernel_rfl) (by kernel_rfl) (by kernel_rfl) (by kernel_rfl) (fun _ _ _ h => h) (Or.inl ⟨by rfl, fun w' hw' => by clear hw'; go_simp⟩) HT.out ?_
      simp only [Act.put, List.getElem_toArray, List.getElem_cons_succ, List.getElem_cons_zero, List.setIfInBounds_toArray, List.set_cons_zero, List.set_cons_succ]
      refine L_take (i := 12) (v := .bool true) rfl rfl (by kernel_rfl) (by decide) (by kernel_rfl) (by kernel_rfl) (by kernel_rfl) (by kernel_rfl) (fun _ _ _ h => h) (Or.inl ⟨by rfl, fun w' hw' => by clear hw'; go_simp⟩) HT.out ?_
      simp only [Act.put, List.getElem_toArray, List.getElem_cons_succ, List.getElem_cons_zero, List.setIfInBounds_toArray, List.set_cons_zero, List.set_cons_succ]
      refine L_two (i := 7) (j := 14) (by kernel_rfl) ?_ ?_
      · obtain ⟨_, c1, c2, _⟩ := Hc.out v2 HT.out.1
        have HCw : Hid (Calls _ _ _ v2 _) := HWord.out v2 G (Array.getElem?_eq_some_iff.1 HT.out.1).1 c1 c2
        clear c1 c2
        refine wpOp_step rfl ?_
        intro K hK
        rw [if_pos (by rfl)]
        have hK' : Shut (∀ a w, _ → K a w) := hK
        clear hK
        go_wp2_with fail
        refine HCw.out.mono ?_
        rintro e w3 ⟨rfl, hw3⟩
        have H3 : Hid (w3.heap[G]? = some (.cells (byC (x0 :: x1 :: x2 :: x3 :: rest)).toArray 5 (0, 0)) ∧ Below w1.heap.size w1 w3) := by
          obtain ⟨k2, rfl⟩ := hw3
          exact ⟨HT.out.1, HT.out.2.trans ((Still.drewN v2 k2).below _)⟩
        clear hw3 HCw
        refine hK'.out _ _ ⟨H3.out, ?_⟩
        clear hK' K
        try simp only [Act.put, List.getElem_toArray, List.getElem_cons_succ, List.getElem_cons_zero, List.setIfInBounds_toArray, List.set_cons_zero, List.set_cons_succ]
        refine L_take (i := 13) (v := .agg #[.int .i64 (i : Int), .int .i64 (X0 : Int), .int .i64 (wd : Int), .bool true, .slice none 0 0]) rfl rfl (by kernel_rfl) (by decide) (by kernel_rfl) (by kernel_rfl) (by kernel_rfl) (by kernel_rfl) (fun _ _ _ h => h) ?_ H3.out ?_
        · refine yields_build_run (by rfl) 122 #[(0, .tmp 23), (1, .tmp 27), (2, .tmp 30), (3, .tmp 35)] (by rfl) #[(0, .int .i64 (i : Int)), (1, .int .i64 (X0 : Int)), (2, .int .i64 (wd : Int)), (3, .bool true)] (by simp [Act.eval]) ?_
          exact fun u _ => hbd4 u
        try simp only [Act.put, List.getElem_toArray, List.getElem_cons_succ, List.getElem_cons_zero, List.setIfInBounds_toArray, List.set_cons_zero, List.set_cons_succ]
        refine L_one (i := 14) (by kernel_rfl) ?_
        refine wpOp_step rfl ?_
        intro K hK
        rw [if_pos (by rfl)]
        have hK' : Shut (∀ a w, _ → K a w) := hK
        clear hK
        refine wp_alloc_run 122 (by rfl) (hal _) ?_
        have hW3 := H3.out.2.size
        obtain ⟨B5, hB5⟩ : ∃ B5, w3.heap.size = B5 := ⟨_, rfl⟩
        obtain ⟨V5, hV5⟩ : ∃ V5, w3.alloc (.cells pc0C 122) = V5 := ⟨_, rfl⟩
        have HE5 : Hid (V5.heap[B5]? = some (.cells pc0C 122 (0, 0)) ∧ Below w1.heap.size w1 V5 ∧ w1.heap.size ≤ B5) := by
          rw [← hV5, ← hB5]
          exact ⟨new_heap w3 _, H3.out.2.alloc hW3 _, hW3⟩
        have hT5 : V5.heap[G]? = some (.cells (byC (x0 :: x1 :: x2 :: x3 :: rest)).toArray 5 (0, 0)) ∧ Below w1.heap.size w1 V5 := by
          rw [← hV5]
          exact ⟨(Below.heap_alloc _ _ _ (Array.getElem?_eq_some_iff.1 H3.out.1).1).trans H3.out.1, H3.out.2.alloc hW3 _⟩
        rw [hV5, hB5]
        refine hK'.out _ _ ⟨hT5, ?_⟩
        clear hK' K hT5 hV5
        try simp only [Act.put, List.getElem_toArray, List.getElem_cons_succ, List.getElem_cons_zero, List.setIfInBounds_toArray, List.set_cons_zero, List.set_cons_succ]
        refine L_go (by kernel_rfl) (by kernel_rfl) ?_
        refine wpOp_step rfl ?_
        intro K hK
        rw [if_pos (by rfl)]
        have hK' : Shut (∀ a w, _ → K a w) := hK
        clear hK
        refine wp_store_run 122 (.tmp 8) (.tmp 36) (by rfl) (.pointer (some ⟨B5, 0, none⟩)) (.agg #[.int .i64 (i : Int), .int .i64 (X0 : Int), .int .i64 (wd : Int), .bool true, .slice none 0 0]) (by rfl) (by rfl) (store_pcs (cs := [.int .i64 (i : Int), .int .i64 (X0 : Int), .int .i64 (wd : Int), .bool true, .slice none 0 0]) (cs' := pc0C.toList) rfl rfl (by simp [Value.oneCell']) HE5.out.1) ?_
        refine hK'.out _ _ ?_
        clear hK' K
        refine wpAny_done (by kernel_rfl) ?_ _
        go_wp2_with fail
        go_meet
        exact ⟨B5, rfl, setRow_heap _ _ _ _ _ _ HE5.out.1, setRow_below HE5.out.2.1 HE5.out.2.2, HE5.out.2.2⟩
      · skip
        refine wpOp_step rfl ?_
        intro K hK
        rw [if_pos (by rfl)]
        have hK' : Shut (∀ a w, _ → K a w) := hK
        clear hK
        refine wp_alloc_run 122 (by rfl) (hal _) ?_
        have hW2 := HT.out.2.size
        obtain ⟨B5, hB5⟩ : ∃ B5, v2.heap.size = B5 := ⟨_, rfl⟩
        obtain ⟨V4, hV4⟩ : ∃ V4, v2.alloc (.cells pc0C 122) = V4 := ⟨_, rfl⟩
        have HE4 : Hid (V4.heap[B5]? = some (.cells pc0C 122 (0, 0)) ∧ Below w1.heap.size w1 V4 ∧ w1.heap.size ≤ B5 ∧ V4.heap[G]? = some (.cells (byC (x0 :: x1 :: x2 :: x3 :: rest)).toArray 5 (0, 0))) := by
          rw [← hV4, ← hB5]
          exact ⟨new_heap v2 _, HT.out.2.alloc hW2 _, hW2, (Below.heap_alloc _ _ _ (Array.getElem?_eq_some_iff.1 HT.out.1).1).trans HT.out.1⟩
        rw [hV4, hB5]
        refine hK'.out _ _ ⟨⟨HE4.out.2.2.2, HE4.out.2.1⟩, ?_⟩
        clear hK' K hV4
        try simp only [Act.put, List.getElem_toArray, List.getElem_cons_succ, List.getElem_cons_zero, List.setIfInBounds_toArray, List.set_cons_zero, List.set_cons_succ]
        refine L_one (i := 7) (by kernel_rfl) ?_
        obtain ⟨_, c1, c2, _⟩ := Hc.out V4 HE4.out.2.2.2
        have HCw : Hid (Calls _ _ _ V4 _) := HWord.out V4 G (Array.getElem?_eq_some_iff.1 HE4.out.2.2.2).1 c1 c2
        clear c1 c2
        refine wpOp_step rfl ?_
        intro K hK
        rw [if_pos (by rfl)]
        have hK' : Shut (∀ a w, _ → K a w) := hK
        clear hK
        go_wp2_with fail
        refine HCw.out.mono ?_
        rintro e w3 ⟨rfl, hw3⟩
        have H3 : Hid (w3.heap[B5]? = some (.cells pc0C 122 (0, 0)) ∧ w3.heap[G]? = some (.cells (byC (x0 :: x1 :: x2 :: x3 :: rest)).toArray 5 (0, 0)) ∧ Below w1.heap.size w1 w3) := by
          obtain ⟨k2, rfl⟩ := hw3
          exact ⟨HE4.out.1, HE4.out.2.2.2, HE4.out.2.1.trans ((Still.drewN V4 k2).below _)⟩
        clear hw3 HCw
        refine hK'.out _ _ ⟨H3.out.2, ?_⟩
        clear hK' K
        try simp only [Act.put, List.getElem_toArray, List.getElem_cons_succ, List.getElem_cons_zero, List.setIfInBounds_toArray, List.set_cons_zero, List.set_cons_succ]
        refine L_take (i := 13) (v := .agg #[.int .i64 (i : Int), .int .i64 (X0 : Int), .int .i64 (wd : Int), .bool true, .slice none 0 0]) rfl rfl (by kernel_rfl) (by decide) (by kernel_rfl) (by kernel_rfl) (by kernel_rfl) (by kernel_rfl) (fun _ _ _ h => h) ?_ H3.out.2 ?_
        · refine yields_build_run (by rfl) 122 #[(0, .tmp 23), (1, .tmp 27), (2, .tmp 30), (3, .tmp 35)] (by rfl) #[(0, .int .i64 (i : Int)), (1, .int .i64 (X0 : Int)), (2, .int .i64 (wd : Int)), (3, .bool true)] (by simp [Act.eval]) ?_
          exact fun u _ => hbd4 u
        try simp only [Act.put, List.getElem_toArray, List.getElem_cons_succ, List.getElem_cons_zero, List.setIfInBounds_toArray, List.set_cons_zero, List.set_cons_succ]
        refine L_go (by kernel_rfl) (by kernel_rfl) ?_
        refine wpOp_step rfl ?_
        intro K hK
        rw [if_pos (by rfl)]
        have hK' : Shut (∀ a w, _ → K a w) := hK
        clear hK
        refine wp_store_run 122 (.tmp 8) (.tmp 36) (by rfl) (.pointer (some ⟨B5, 0, none⟩)) (.agg #[.int .i64 (i : Int), .int .i64 (X0 : Int), .int .i64 (wd : Int), .bool true, .slice none 0 0]) (by rfl) (by rfl) (store_pcs (cs := [.int .i64 (i : Int), .int .i64 (X0 : Int), .int .i64 (wd : Int), .bool true, .slice none 0 0]) (cs' := pc0C.toList) rfl rfl (by simp [Value.oneCell']) H3.out.1) ?_
        refine hK'.out _ _ ?_
        clear hK' K
        refine wpAny_done (by kernel_rfl) ?_ _
        go_wp2_with fail
        go_meet
        exact ⟨B5, rfl, setRow_heap _ _ _ _ _ _ H3.out.1, setRow_below H3.out.2.2 HE4.out.2.2.1, HE4.out.2.2.1⟩
    · rw [if_neg h128] at hA
      rw [decide_eq_false h128] at hfb
      subst hfb
      clear h128
      have hbd4 := build_pc4 (i : Int) (X0 : Int) (wd : Int) false
      have hal := alloc_pc
      have hdr : Below w1.heap.size w1 w1.drew := ⟨rfl, rfl, rfl, Nat.le_refl _, fun _ _ => rfl⟩
      have HT : Hid (w1.drew.heap[G]? = some (.cells (byC (x0 :: x1 :: x2 :: x3 :: rest)).toArray 5 (0, 0)) ∧ Below w1.heap.size w1 w1.drew) := ⟨Hrow.out, hdr⟩
      refine wp_region_drawn (by kernel_rfl) ?_
      generalize w1.drew = v2 at *
      clear hdr
      refine wpAny_take (i := 0) (v := .int .i64 (i : Int)) rfl (by kernel_rfl) (by kernel_rfl) (by kernel_rfl) (fun _ _ _ h => h) (Or.inl ⟨by rfl, fun w => by go_simp⟩) ?_
      simp only [Act.put, List.getElem_toArray, List.getElem_cons_succ, List.getElem_cons_zero, List.setIfInBounds_toArray, List.set_cons_zero, List.set_cons_succ]
      refine wpAny_take (i := 1) (v := .slice (some ⟨G, 0, none⟩) 64 64) rfl (by kernel_rfl) (by kernel_rfl) (by kernel_rfl) (fun _ _ _ h => h) (Or.inl ⟨by rfl, fun w => by go_simp⟩) ?_
      simp only [Act.put, List.getElem_toArray, List.getElem_cons_succ, List.getElem_cons_zero, List.setIfInBounds_toArray, List.set_cons_zero, List.set_cons_succ]
      refine wpAny_take (i := 2) (v := .pointer (some ⟨G, 0, none⟩)) rfl (by kernel_rfl) (by kernel_rfl) (by kernel_rfl) (fun _ _ _ h => h) (Or.inl ⟨by rfl, fun w => by go_simp⟩) ?_
      simp only [Act.put, List.getElem_toArray, List.getElem_cons_succ, List.getElem_cons_zero, List.setIfInBounds_toArray, List.set_cons_zero, List.set_cons_succ]
      refine wpAny_take (i := 5) (v := .slice (some ⟨G, 0, none⟩) 64 64) rfl (by kernel_rfl) (by kernel_rfl) (by kernel_rfl) (fun _ _ _ h => h) (Or.inl ⟨by rfl, fun w => by go_simp⟩) ?_
      simp only [Act.put, List.getElem_toArray, List.getElem_cons_succ, List.getElem_cons_zero, List.setIfInBounds_toArray, List.set_cons_zero, List.set_cons_succ]
      refine wpAny_take (i := 6) (v := .slice (some ⟨G, 1, none⟩) 2 63) rfl (by kernel_rfl) (by kernel_rfl) (by kernel_rfl) (fun _ _ _ h => h) (Or.inl ⟨by rfl, fun w => by go_simp⟩) ?_
      simp only [Act.put, List.getElem_toArray, List.getElem_cons_succ, List.getElem_cons_zero, List.setIfInBounds_toArray, List.set_cons_zero, List.set_cons_succ]
      refine wpAny_take (i := 8) (v := .slice (some ⟨G, 0, none⟩) 64 64) rfl (by kernel_rfl) (by kernel_rfl) (by kernel_rfl) (fun _ _ _ h => h) (Or.inl ⟨by rfl, fun w => by go_simp⟩) ?_
      simp only [Act.put, List.getElem_toArray, List.getElem_cons_succ, List.getElem_cons_zero, List.setIfInBounds_toArray, List.set_cons_zero, List.set_cons_succ]
      refine wpAny_take (i := 9) (v := .pointer (some ⟨G, 3, none⟩)) rfl (by kernel_rfl) (by kernel_rfl) (by kernel_rfl) (fun _ _ _ h => h) (Or.inl ⟨by rfl, fun w => by go_simp⟩) ?_
      simp only [Act.put, List.getElem_toArray, List.getElem_cons_succ, List.getElem_cons_zero, List.setIfInBounds_toArray, List.set_cons_zero, List.set_cons_succ]
      refine any_of_L (g := 15) (T := fun u => u.heap[G]? = some (.cells (byC (x0 :: x1 :: x2 :: x3 :: rest)).toArray 5 (0, 0)) ∧ Below w1.heap.size w1 u) _ _ _ _ ?_
      refine L_take (i := 3) (v := .int .u8 (X0 : Int)) rfl rfl (by kernel_rfl) (by decide) (by kernel_rfl) (by kernel_rfl) (by kernel_rfl) (by kernel_rfl) (fun _ _ _ h => h) (Or.inl ⟨by rfl, fun w' hw' => by have c0 := (Hc.out w' hw'.1).1; clear hw'; go_simp⟩) HT.out ?_
      simp only [Act.put, List.getElem_toArray, List.getElem_cons_succ, List.getElem_cons_zero, List.setIfInBounds_toArray, List.set_cons_zero, List.set_cons_succ]
      refine L_take (i := 10) (v := .int .u8 (x3.toNat : Int)) rfl rfl (by kernel_rfl) (by decide) (by kernel_rfl) (by kernel_rfl) (by kernel_rfl) (by kernel_rfl) (fun _ _ _ h => h) (Or.inl ⟨by rfl, fun w' hw' => by have c0 := (Hc.out w' hw'.1).2.2.2; clear hw'; go_simp⟩) HT.out ?_
      simp only [Act.put, List.getElem_toArray, List.getElem_cons_succ, List.getElem_cons_zero, List.setIfInBounds_toArray, List.set_cons_zero, List.set_cons_succ]
      refine L_take (i := 4) (v := .int .i64 (X0 : Int)) rfl rfl (by kernel_rfl) (by decide) (by kernel_rfl) (by kernel_rfl) (by kernel_rfl) (by kernel_rfl) (fun _ _ _ h => h) (Or.inl ⟨by rfl, fun w' hw' => by clear hw'; have hwr : IntKind.i64.wrap (X0 : Int) = X0 := (by rw [IntKind.wrap_i64]; omega); go_simp⟩) HT.out ?_
      simp only [Act.put, List.getElem_toArray, List.getElem_cons_succ, List.getElem_cons_zero, List.setIfInBounds_toArray, List.set_cons_zero, List.set_cons_succ]
      refine L_take (i := 11) (v := .int .u8 0) rfl rfl (by kernel_rfl) (by decide) (by kernel_rfl) (by kernel_rfl) (by kernel_rfl) (by kernel_rfl) (fun _ _ _ h => h) (Or.inl ⟨by rfl, fun w' hw' => by clear hw'; go_simp⟩) HT.out ?_
      simp only [Act.put, List.getElem_toArray, List.getElem_cons_succ, List.getElem_cons_zero, List.setIfInBounds_toArray, List.set_cons_zero, List.set_cons_succ]
      refine L_take (i := 12) (v := .bool false) rfl rfl (by kernel_rfl) (by decide) (by kernel_rfl) (by kernel_rfl) (by kernel_rfl) (by kernel_rfl) (fun _ _ _ h => h) (Or.inl ⟨by rfl, fun w' hw' => by clear hw'; go_simp⟩) HT.out ?_
      simp only [Act.put, List.getElem_toArray, List.getElem_cons_succ, List.getElem_cons_zero, List.setIfInBounds_toArray, List.set_cons_zero, List.set_cons_succ]
      refine L_two (i := 7) (j := 14) (by kernel_rfl) ?_ ?_
      · obtain ⟨_, c1, c2, _⟩ := Hc.out v2 HT.out.1
        have HCw : Hid (Calls _ _ _ v2 _) := HWord.out v2 G (Array.getElem?_eq_some_iff.1 HT.out.1).1 c1 c2
        clear c1 c2
        refine wpOp_step rfl ?_
        intro K hK
        rw [if_pos (by rfl)]
        have hK' : Shut (∀ a w, _ → K a w) := hK
        clear hK
        go_wp2_with fail
        refine HCw.out.mono ?_
        rintro e w3 ⟨rfl, hw3⟩
        have H3 : Hid (w3.heap[G]? = some (.cells (byC (x0 :: x1 :: x2 :: x3 :: rest)).toArray 5 (0, 0)) ∧ Below w1.heap.size w1 w3) := by
          obtain ⟨k2, rfl⟩ := hw3
          exact ⟨HT.out.1, HT.out.2.trans ((Still.drewN v2 k2).below _)⟩
        clear hw3 HCw
        refine hK'.out _ _ ⟨H3.out, ?_⟩
        clear hK' K
        try simp only [Act.put, List.getElem_toArray, List.getElem_cons_succ, List.getElem_cons_zero, List.setIfInBounds_toArray, List.set_cons_zero, List.set_cons_succ]
        refine L_take (i := 13) (v := .agg #[.int .i64 (i : Int), .int .i64 (X0 : Int), .int .i64 (wd : Int), .bool false, .slice none 0 0]) rfl rfl (by kernel_rfl) (by decide) (by kernel_rfl) (by kernel_rfl) (by kernel_rfl) (by kernel_rfl) (fun _ _ _ h => h) ?_ H3.out ?_
        · refine yields_build_run (by rfl) 122 #[(0, .tmp 23), (1, .tmp 27), (2, .tmp 30), (3, .tmp 35)] (by rfl) #[(0, .int .i64 (i : Int)), (1, .int .i64 (X0 : Int)), (2, .int .i64 (wd : Int)), (3, .bool false)] (by simp [Act.eval]) ?_
          exact fun u _ => hbd4 u
        try simp only [Act.put, List.getElem_toArray, List.getElem_cons_succ, List.getElem_cons_zero, List.setIfInBounds_toArray, List.set_cons_zero, List.set_cons_succ]
        refine L_one (i := 14) (by kernel_rfl) ?_
        refine wpOp_step rfl ?_
        intro K hK
        rw [if_pos (by rfl)]
        have hK' : Shut (∀ a w, _ → K a w) := hK
        clear hK
        refine wp_alloc_run 122 (by rfl) (hal _) ?_
        have hW3 := H3.out.2.size
        obtain ⟨B5, hB5⟩ : ∃ B5, w3.heap.size = B5 := ⟨_, rfl⟩
        obtain ⟨V5, hV5⟩ : ∃ V5, w3.alloc (.cells pc0C 122) = V5 := ⟨_, rfl⟩
        have HE5 : Hid (V5.heap[B5]? = some (.cells pc0C 122 (0, 0)) ∧ Below w1.heap.size w1 V5 ∧ w1.heap.size ≤ B5) := by
          rw [← hV5, ← hB5]
          exact ⟨new_heap w3 _, H3.out.2.alloc hW3 _, hW3⟩
        have hT5 : V5.heap[G]? = some (.cells (byC (x0 :: x1 :: x2 :: x3 :: rest)).toArray 5 (0, 0)) ∧ Below w1.heap.size w1 V5 := by
          rw [← hV5]
          exact ⟨(Below.heap_alloc _ _ _ (Array.getElem?_eq_some_iff.1 H3.out.1).1).trans H3.out.1, H3.out.2.alloc hW3 _⟩
        rw [hV5, hB5]
        refine hK'.out _ _ ⟨hT5, ?_⟩
        clear hK' K hT5 hV5
        try simp only [Act.put, List.getElem_toArray, List.getElem_cons_succ, List.getElem_cons_zero, List.setIfInBounds_toArray, List.set_cons_zero, List.set_cons_succ]
        refine L_go (by kernel_rfl) (by kernel_rfl) ?_
        refine wpOp_step rfl ?_
        intro K hK
        rw [if_pos (by rfl)]
        have hK' : Shut (∀ a w, _ → K a w) := hK
        clear hK
        refine wp_store_run 122 (.tmp 8) (.tmp 36) (by rfl) (.pointer (some ⟨B5, 0, none⟩)) (.agg #[.int .i64 (i : Int), .int .i64 (X0 : Int), .int .i64 (wd : Int), .bool false, .slice none 0 0]) (by rfl) (by rfl) (store_pcs (cs := [.int .i64 (i : Int), .int .i64 (X0 : Int), .int .i64 (wd : Int), .bool false, .slice none 0 0]) (cs' := pc0C.toList) rfl rfl (by simp [Value.oneCell']) HE5.out.1) ?_
        refine hK'.out _ _ ?_
        clear hK' K
        refine wpAny_done (by kernel_rfl) ?_ _
        go_wp2_with fail
        go_meet
        exact ⟨B5, rfl, setRow_heap _ _ _ _ _ _ HE5.out.1, setRow_below HE5.out.2.1 HE5.out.2.2, HE5.out.2.2⟩
      · skip
        refine wpOp_step rfl ?_
        intro K hK
        rw [if_pos (by rfl)]
        have hK' : Shut (∀ a w, _ → K a w) := hK
        clear hK
        refine wp_alloc_run 122 (by rfl) (hal _) ?_
        have hW2 := HT.out.2.size
        obtain ⟨B5, hB5⟩ : ∃ B5, v2.heap.size = B5 := ⟨_, rfl⟩
        obtain ⟨V4, hV4⟩ : ∃ V4, v2.alloc (.cells pc0C 122) = V4 := ⟨_, rfl⟩
        have HE4 : Hid (V4.heap[B5]? = some (.cells pc0C 122 (0, 0)) ∧ Below w1.heap.size w1 V4 ∧ w1.heap.size ≤ B5 ∧ V4.heap[G]? = some (.cells (byC (x0 :: x1 :: x2 :: x3 :: rest)).toArray 5 (0, 0))) := by
          rw [← hV4, ← hB5]
          exact ⟨new_heap v2 _, HT.out.2.alloc hW2 _, hW2, (Below.heap_alloc _ _ _ (Array.getElem?_eq_some_iff.1 HT.out.1).1).trans HT.out.1⟩
        rw [hV4, hB5]
        refine hK'.out _ _ ⟨⟨HE4.out.2.2.2, HE4.out.2.1⟩, ?_⟩
        clear hK' K hV4
        try simp only [Act.put, List.getElem_toArray, List.getElem_cons_succ, List.getElem_cons_zero, List.setIfInBounds_toArray, List.set_cons_zero, List.set_cons_succ]
        refine L_one (i := 7) (by kernel_rfl) ?_
        obtain ⟨_, c1, c2, _⟩ := Hc.out V4 HE4.out.2.2.2
        have HCw : Hid (Calls _ _ _ V4 _) := HWord.out V4 G (Array.getElem?_eq_some_iff.1 HE4.out.2.2.2).1 c1 c2
        clear c1 c2
        refine wpOp_step rfl ?_
        intro K hK
        rw [if_pos (by rfl)]
        have hK' : Shut (∀ a w, _ → K a w) := hK
        clear hK
        go_wp2_with fail
        refine HCw.out.mono ?_
        rintro e w3 ⟨rfl, hw3⟩
        have H3 : Hid (w3.heap[B5]? = some (.cells pc0C 122 (0, 0)) ∧ w3.heap[G]? = some (.cells (byC (x0 :: x1 :: x2 :: x3 :: rest)).toArray 5 (0, 0)) ∧ Below w1.heap.size w1 w3) := by
          obtain ⟨k2, rfl⟩ := hw3
          exact ⟨HE4.out.1, HE4.out.2.2.2, HE4.out.2.1.trans ((Still.drewN V4 k2).below _)⟩
        clear hw3 HCw
        refine hK'.out _ _ ⟨H3.out.2, ?_⟩
        clear hK' K
        try simp only [Act.put, List.getElem_toArray, List.getElem_cons_succ, List.getElem_cons_zero, List.setIfInBounds_toArray, List.set_cons_zero, List.set_cons_succ]
        refine L_take (i := 13) (v := .agg #[.int .i64 (i : Int), .int .i64 (X0 : Int), .int .i64 (wd : Int), .bool false, .slice none 0 0]) rfl rfl (by kernel_rfl) (by decide) (by kernel_rfl) (by kernel_rfl) (by kernel_rfl) (by kernel_rfl) (fun _ _ _ h => h) ?_ H3.out.2 ?_
        · refine yields_build_run (by rfl) 122 #[(0, .tmp 23), (1, .tmp 27), (2, .tmp 30), (3, .tmp 35)] (by rfl) #[(0, .int .i64 (i : Int)), (1, .int .i64 (X0 : Int)), (2, .int .i64 (wd : Int)), (3, .bool false)] (by simp [Act.eval]) ?_
          exact fun u _ => hbd4 u
        try simp only [Act.put, List.getElem_toArray, List.getElem_cons_succ, List.getElem_cons_zero, List.setIfInBounds_toArray, List.set_cons_zero, List.set_cons_succ]
        refine L_go (by kernel_rfl) (by kernel_rfl) ?_
        refine wpOp_step rfl ?_
        intro K hK
        rw [if_pos (by rfl)]
        have hK' : Shut (∀ a w, _ → K a w) := hK
        clear hK
        refine wp_store_run 122 (.tmp 8) (.tmp 36) (by rfl) (.pointer (some ⟨B5, 0, none⟩)) (.agg #[.int .i64 (i : Int), .int .i64 (X0 : Int), .int .i64 (wd : Int), .bool false, .slice none 0 0]) (by rfl) (by rfl) (store_pcs (cs := [.int .i64 (i : Int), .int .i64 (X0 : Int), .int .i64 (wd : Int), .bool false, .slice none 0 0]) (cs' := pc0C.toList) rfl rfl (by simp [Value.oneCell']) H3.out.1) ?_
        refine hK'.out _ _ ?_
        clear hK' K
        refine wpAny_done (by kernel_rfl) ?_ _
        go_wp2_with fail
        go_meet
        exact ⟨B5, rfl, setRow_heap _ _ _ _ _ _ H3.out.1, setRow_below H3.out.2.2 HE4.out.2.2.1, HE4.out.2.2.1⟩
  case rest =>
    obtain ⟨B5, rfl, HX⟩ := hcut
    clear HWord Hc d3
    have Hfacts : Hid (∀ u, Below wc.heap.size wc u → (u.cell? ⟨B5, 1, none⟩ = some (.int .i64 (X0 : Int)) ∧ u.cell? ⟨W.heap.size, 0, none⟩ = some (.pointer (some ⟨p, 0, none⟩)) ∧ u.cell? ⟨W.heap.size, 1, none⟩ = some (.int .i64 (fr : Int)) ∧ u.cell? ⟨W.heap.size, 2, none⟩ = some (.int .i64 (mn : Int))) ∧ u.cell? ⟨G, 3, none⟩ = some (.int .u8 (x3.toNat : Int)) ∧ u.heap[B5]? = some (.cells #[.int .i64 (i : Int), .int .i64 (X0 : Int), .int .i64 (wd : Int), .bool fb, .slice none 0 0] 122 (0, 0)) ∧ u.heap[W.heap.size + 1]? = some (.cells pc0C 122 (0, 0)) ∧ u.heap[G]? = some (.cells (byC (x0 :: x1 :: x2 :: x3 :: rest)).toArray 5 (0, 0)) ∧ Below W.heap.size W u) := by
      intro u hu
      obtain ⟨h1, h2, h3⟩ := HX.out
      have hB5 := (Array.getElem?_eq_some_iff.1 h1).1
      have hw1 := HBW1.out.size
      have hG := HG1.out
      have hBW0 := HBW0.out
      have hs := h2.size
      have g5 := (hu.block B5 hB5).trans h1
      have ga := (hu.block W.heap.size (by omega)).trans ((h2.block W.heap.size (by omega)).trans Hra1.out)
      have gz := (hu.block (W.heap.size + 1) (by omega)).trans ((h2.block (W.heap.size + 1) (by omega)).trans Hr1.out)
      have gG := (hu.block G (by omega)).trans ((h2.block G (by omega)).trans Hrow.out)
      refine ⟨⟨by simp [World.cell?, g5], by simp [World.cell?, ga], by simp [World.cell?, ga], by simp [World.cell?, ga]⟩, ?_, g5, gz, gG, HBW1.out.trans ((h2.mono hw1).trans (hu.mono (by omega)))⟩
      rw [cell_of_row _ _ _ _ _ (0, 0) gG]; rfl
    obtain ⟨⟨a1, a2, a3, a4⟩, a5, _⟩ := Hfacts.out wc (Below.refl _ _)
    have HB5 : Hid (W.heap.size + 1 < B5) := by
      have h1 := HX.out.2.2
      have h2 := HG1.out
      have h3 := HBW0.out
      unfold Hid
      omega
    clear HBW1 HG1 HBW0 Hra1 Hr1 HRow HX Hrow
    obtain ⟨Y, hY⟩ : ∃ Y : Nat, X0 * 60 = Y := ⟨_, rfl⟩
    have hw60 : IntKind.i64.wrap ((X0 : Int) * 60) = (Y : Int) := by rw [IntKind.wrap_i64]; omega
    rw [hY] at hpv'
    obtain ⟨b1, hb1⟩ : ∃ b1, decide ((ms : Int) ≤ (Y : Int)) = b1 := ⟨_, rfl⟩
    obtain ⟨b2, hb2⟩ : ∃ b2, decide ((k : Int) < 1) = b2 := ⟨_, rfl⟩
    obtain ⟨b3, hb3⟩ : ∃ b3, decide ((60 : Int) < (k : Int)) = b3 := ⟨_, rfl⟩
    have Hb : Hid ((ms ≤ Y ∨ k < 1 ∨ 60 < k) ↔ (b1 || (b2 || b3)) = true) := by
      unfold Hid
      rw [← hb1, ← hb2, ← hb3]
      simp only [Bool.or_eq_true, decide_eq_true_eq]
      omega
    have y0 : (0 : Int) ≤ Y := by omega
    have y1 : (Y : Int) ≤ 100000 := by omega
    clear hY
    go_upto_region 6 with fail
    go_cut [55] from 42 to 54 (fun t wx => t = .bool (b1 || (b2 || b3)) ∧ Hid (Below wc.heap.size wc wx))
    case first =>
      have HT : Hid (Below wc.heap.size wc wc.drew) := ⟨rfl, rfl, rfl, Nat.le_refl _, fun _ _ => rfl⟩
      clear a1 a2 a3 a4 a5
      refine wp_region_drawn (by kernel_rfl) ?_
      generalize wc.drew = v2 at *
      refine wpAny_take (i := 0) (v := .pointer (some ⟨B5, 1, none⟩)) rfl (by kernel_rfl) (by kernel_rfl) (by kernel_rfl) (fun _ _ _ h => h) (Or.inl ⟨by rfl, fun w => by go_simp⟩) ?_
      simp only [Act.put, List.getElem_toArray, List.getElem_cons_succ, List.getElem_cons_zero, List.setIfInBounds_toArray, List.set_cons_zero, List.set_cons_succ]
      refine any_of_L (g := 5) (T := fun u => Below wc.heap.size wc u) _ _ _ _ ?_
      refine L_take2 (i := 1) (m := 2) (v := .int .i64 (X0 : Int)) rfl rfl rfl (by kernel_rfl) (by kernel_rfl) (by decide) (by kernel_rfl) (by kernel_rfl) (by kernel_rfl) (by kernel_rfl) (by kernel_rfl) (fun _ _ _ h => h) (Or.inl ⟨by rfl, fun w' hw' => by have c0 := (Hfacts.out w' hw').1.1; clear hw'; go_simp⟩) HT.out ?_
      simp only [Act.put, List.getElem_toArray, List.getElem_cons_succ, List.getElem_cons_zero, List.setIfInBounds_toArray, List.set_cons_zero, List.set_cons_succ]
      refine L_take (i := 2) (v := .int .i64 (Y : Int)) rfl rfl (by kernel_rfl) (by decide) (by kernel_rfl) (by kernel_rfl) (by kernel_rfl) (by kernel_rfl) (fun _ _ _ h => h) (Or.inl ⟨by rfl, fun w' hw' => by clear hw'; go_simp⟩) HT.out ?_
      simp only [Act.put, List.getElem_toArray, List.getElem_cons_succ, List.getElem_cons_zero, List.setIfInBounds_toArray, List.set_cons_zero, List.set_cons_succ]
      refine L_take2 (i := 3) (m := 4) (v := .agg #[.pointer (some ⟨p, 0, none⟩), .int .i64 (fr : Int), .int .i64 (mn : Int)]) rfl rfl rfl (by kernel_rfl) (by kernel_rfl) (by decide) (by kernel_rfl) (by kernel_rfl) (by kernel_rfl) (by kernel_rfl) (by kernel_rfl) (fun _ _ _ h => h) (Or.inl ⟨by rfl, fun w' hw' => by obtain ⟨_, c0, c1, c2⟩ := (Hfacts.out w' hw').1; clear hw'; go_simp⟩) HT.out ?_
      simp only [Act.put, List.getElem_toArray, List.getElem_cons_succ, List.getElem_cons_zero, List.setIfInBounds_toArray, List.set_cons_zero, List.set_cons_succ]
      refine L_one (i := 4) (by kernel_rfl) ?_
      have HSz : Hid (Calls _ _ _ v2 _) := HSize.out v2
      refine wpOp_step rfl ?_
      intro K hK
      rw [if_pos (by rfl)]
      have hK' : Shut (∀ a w, _ → K a w) := hK
      clear hK
      go_wp2_with fail
      refine HSz.out.mono ?_
      rintro e w3 ⟨rfl, hb3'⟩
      have H3 : Hid (Below wc.heap.size wc w3) := HT.out.trans (hb3'.mono HT.out.size)
      clear hb3' HSz
      refine hK'.out _ _ ⟨H3.out, ?_⟩
      clear hK' K
      try simp only [Act.put, List.getElem_toArray, List.getElem_cons_succ, List.getElem_cons_zero, List.setIfInBounds_toArray, List.set_cons_zero, List.set_cons_succ]
      refine L_go (by kernel_rfl) (by kernel_rfl) ?_
      refine wpOp_step rfl ?_
      intro K hK
      rw [if_pos (by rfl)]
      have hK' : Shut (∀ a w, _ → K a w) := hK
      clear hK
      go_wp2_with fail
      refine hK'.out _ _ ?_
      clear hK' K
      try simp only [Act.put, List.getElem_toArray, List.getElem_cons_succ, List.getElem_cons_zero, List.setIfInBounds_toArray, List.set_cons_zero, List.set_cons_succ]
      cases b1
      · have hn1 : Y < ms := by have := of_decide_eq_false hb1; omega
        refine wpAny_take (i := 6) (v := .bool false) rfl (by kernel_rfl) (by kernel_rfl) (by kernel_rfl) (fun _ _ _ h => h) (Or.inl ⟨by rfl, fun w => by go_simp⟩) ?_
        simp only [Act.put, List.getElem_toArray, List.getElem_cons_succ, List.getElem_cons_zero, List.setIfInBounds_toArray, List.set_cons_zero, List.set_cons_succ]
        refine wpAny_take (i := 7) (v := .int .i64 (k : Int)) rfl (by kernel_rfl) (by kernel_rfl) (by kernel_rfl) (fun _ _ _ h => h) (Or.inl ⟨by rfl, fun w => by go_simp⟩) ?_
        simp only [Act.put, List.getElem_toArray, List.getElem_cons_succ, List.getElem_cons_zero, List.setIfInBounds_toArray, List.set_cons_zero, List.set_cons_succ]
        refine wpAny_take (i := 8) (v := .bool b2) rfl (by kernel_rfl) (by kernel_rfl) (by kernel_rfl) (fun _ _ _ h => h) (Or.inl ⟨by rfl, fun w => by go_simp⟩) ?_
        simp only [Act.put, List.getElem_toArray, List.getElem_cons_succ, List.getElem_cons_zero, List.setIfInBounds_toArray, List.set_cons_zero, List.set_cons_succ]
        refine wpAny_take (i := 9) (v := .bool b2) rfl (by kernel_rfl) (by kernel_rfl) (by kernel_rfl) (fun _ _ _ h => h) (Or.inl ⟨by rfl, fun w => by go_simp⟩) ?_
        simp only [Act.put, List.getElem_toArray, List.getElem_cons_succ, List.getElem_cons_zero, List.setIfInBounds_toArray, List.set_cons_zero, List.set_cons_succ]
        refine wpAny_take (i := 10) (v := .bool b2) rfl (by kernel_rfl) (by kernel_rfl) (by kernel_rfl) (fun _ _ _ h => h) (Or.inl ⟨by rfl, fun w => by go_simp⟩) ?_
        simp only [Act.put, List.getElem_toArray, List.getElem_cons_succ, List.getElem_cons_zero, List.setIfInBounds_toArray, List.set_cons_zero, List.set_cons_succ]
        cases b2
        · skip
          refine wpAny_take (i := 11) (v := .int .i64 (k : Int)) rfl (by kernel_rfl) (by kernel_rfl) (by kernel_rfl) (fun _ _ _ h => h) (Or.inl ⟨by rfl, fun w => by go_simp⟩) ?_
          simp only [Act.put, List.getElem_toArray, List.getElem_cons_succ, List.getElem_cons_zero, List.setIfInBounds_toArray, List.set_cons_zero, List.set_cons_succ]
          refine wpAny_take (i := 12) (v := .bool b3) rfl (by kernel_rfl) (by kernel_rfl) (by kernel_rfl) (fun _ _ _ h => h) (Or.inl ⟨by rfl, fun w => by go_simp⟩) ?_
          simp only [Act.put, List.getElem_toArray, List.getElem_cons_succ, List.getElem_cons_zero, List.setIfInBounds_toArray, List.set_cons_zero, List.set_cons_succ]
          refine wpAny_take (i := 13) (v := .bool b3) rfl (by kernel_rfl) (by kernel_rfl) (by kernel_rfl) (fun _ _ _ h => h) (Or.inl ⟨by rfl, fun w => by go_simp⟩) ?_
          simp only [Act.put, List.getElem_toArray, List.getElem_cons_succ, List.getElem_cons_zero, List.setIfInBounds_toArray, List.set_cons_zero, List.set_cons_succ]
          refine wpAny_done (by kernel_rfl) ?_ _
          go_wp2_with fail
          go_meet
          exact ⟨by simp, H3⟩
        · skip
          refine wpAny_take (i := 11) (v := undef) rfl (by kernel_rfl) (by kernel_rfl) (by kernel_rfl) (fun _ _ _ h => h) (Or.inr ⟨by rfl, rfl⟩) ?_
          simp only [Act.put, List.getElem_toArray, List.getElem_cons_succ, List.getElem_cons_zero, List.setIfInBounds_toArray, List.set_cons_zero, List.set_cons_succ]
          refine wpAny_take (i := 12) (v := undef) rfl (by kernel_rfl) (by kernel_rfl) (by kernel_rfl) (fun _ _ _ h => h) (Or.inr ⟨by rfl, rfl⟩) ?_
          simp only [Act.put, List.getElem_toArray, List.getElem_cons_succ, List.getElem_cons_zero, List.setIfInBounds_toArray, List.set_cons_zero, List.set_cons_succ]
          refine wpAny_take (i := 13) (v := .bool true) rfl (by kernel_rfl) (by kernel_rfl) (by kernel_rfl) (fun _ _ _ h => h) (Or.inl ⟨by rfl, fun w => by go_simp⟩) ?_
          simp only [Act.put, List.getElem_toArray, List.getElem_cons_succ, List.getElem_cons_zero, List.setIfInBounds_toArray, List.set_cons_zero, List.set_cons_succ]
          refine wpAny_done (by kernel_rfl) ?_ _
          go_wp2_with fail
          go_meet
          exact ⟨by simp, H3⟩
      · have hn1 : ms ≤ Y := by have := of_decide_eq_true hb1; omega
        refine wpAny_take (i := 6) (v := .bool true) rfl (by kernel_rfl) (by kernel_rfl) (by kernel_rfl) (fun _ _ _ h => h) (Or.inl ⟨by rfl, fun w => by go_simp⟩) ?_
        simp only [Act.put, List.getElem_toArray, List.getElem_cons_succ, List.getElem_cons_zero, List.setIfInBounds_toArray, List.set_cons_zero, List.set_cons_succ]
        refine wpAny_take (i := 7) (v := undef) rfl (by kernel_rfl) (by kernel_rfl) (by kernel_rfl) (fun _ _ _ h => h) (Or.inr ⟨by rfl, rfl⟩) ?_
        simp only [Act.put, List.getElem_toArray, List.getElem_cons_succ, List.getElem_cons_zero, List.setIfInBounds_toArray, List.set_cons_zero, List.set_cons_succ]
        refine wpAny_take (i := 8) (v := undef) rfl (by kernel_rfl) (by kernel_rfl) (by kernel_rfl) (fun _ _ _ h => h) (Or.inr ⟨by rfl, rfl⟩) ?_
        simp only [Act.put, List.getElem_toArray, List.getElem_cons_succ, List.getElem_cons_zero, List.setIfInBounds_toArray, List.set_cons_zero, List.set_cons_succ]
        refine wpAny_take (i := 9) (v := .bool true) rfl (by kernel_rfl) (by kernel_rfl) (by kernel_rfl) (fun _ _ _ h => h) (Or.inl ⟨by rfl, fun w => by go_simp⟩) ?_
        simp only [Act.put, List.getElem_toArray, List.getElem_cons_succ, List.getElem_cons_zero, List.setIfInBounds_toArray, List.set_cons_zero, List.set_cons_succ]
        refine wpAny_take (i := 10) (v := .bool true) rfl (by kernel_rfl) (by kernel_rfl) (by kernel_rfl) (fun _ _ _ h => h) (Or.inl ⟨by rfl, fun w => by go_simp⟩) ?_
        simp only [Act.put, List.getElem_toArray, List.getElem_cons_succ, List.getElem_cons_zero, List.setIfInBounds_toArray, List.set_cons_zero, List.set_cons_succ]
        refine wpAny_take (i := 11) (v := undef) rfl (by kernel_rfl) (by kernel_rfl) (by kernel_rfl) (fun _ _ _ h => h) (Or.inr ⟨by rfl, rfl⟩) ?_
        simp only [Act.put, List.getElem_toArray, List.getElem_cons_succ, List.getElem_cons_zero, List.setIfInBounds_toArray, List.set_cons_zero, List.set_cons_succ]
        refine wpAny_take (i := 12) (v := undef) rfl (by kernel_rfl) (by kernel_rfl) (by kernel_rfl) (fun _ _ _ h => h) (Or.inr ⟨by rfl, rfl⟩) ?_
        simp only [Act.put, List.getElem_toArray, List.getElem_cons_succ, List.getElem_cons_zero, List.setIfInBounds_toArray, List.set_cons_zero, List.set_cons_succ]
        refine wpAny_take (i := 13) (v := .bool true) rfl (by kernel_rfl) (by kernel_rfl) (by kernel_rfl) (fun _ _ _ h => h) (Or.inl ⟨by rfl, fun w => by go_simp⟩) ?_
        simp only [Act.put, List.getElem_toArray, List.getElem_cons_succ, List.getElem_cons_zero, List.setIfInBounds_toArray, List.set_cons_zero, List.set_cons_succ]
        refine wpAny_done (by kernel_rfl) ?_ _
        go_wp2_with fail
        go_meet
        exact ⟨by simp, H3⟩
    case rest =>
      obtain ⟨rfl, HX2⟩ := hcut
      rename World => wd2
      obtain ⟨_, _, g5, gz, gG, hbW⟩ := Hfacts.out wd2 HX2.out
      have hne1 : W.heap.size + 1 < B5 := HB5.out
      have Hb' := Hb.out
      clear hb1 hb2 hb3 Hb HSize HX2 Hfacts a1 a2 a3 a4 a5 hw60
      generalize (b1 || (b2 || b3)) = bb at *
      cases bb
      · have hnb : ¬ (ms ≤ Y ∨ k < 1 ∨ 60 < k) := fun h => by have := Hb'.1 h; cases this
        rw [if_neg hnb] at hpv'
        have HK : Hid (1 ≤ k ∧ k ≤ 60) := by unfold Hid; omega
        have k3 : (4 : Int) + k ≤ 64 := by omega
        have k4 : (4 : Int) ≤ 4 + k := by omega
        have c4 : wd2.cell? ⟨B5, 4, none⟩ = some (.slice none 0 0) := by simp [World.cell?, g5]
        have f4 : wd2.frozen? ⟨B5, 4, none⟩ = false := by simp [World.frozen?, g5]
        have hneG : B5 ≠ G := fun e => by rw [e, gG] at g5; cases g5
        obtain ⟨PM, hPM⟩ : ∃ PM : Pm, PM = ⟨i, ⟨X0, wd, fb, rest.take k⟩, some ⟨G, 4, none⟩, 60⟩ := ⟨_, rfl⟩
        have hkl : (rest.take k).length = k := by rw [List.length_take]; have := HK.out; omega
        have hcl : PM.cells = [.int .i64 (i : Int), .int .i64 (X0 : Int), .int .i64 (wd : Int), .bool fb, .slice (some ⟨G, 4, none⟩) k 60] := by
          rw [hPM]; simp only [Pm.cells, hkl]
        obtain ⟨wd3, hwd3⟩ : ∃ wd3, wd2.setCell ⟨B5, 4, none⟩ (.slice (some ⟨G, 4, none⟩) k 60) = wd3 := ⟨_, rfl⟩
        have g5' : wd3.heap[B5]? = some (.cells PM.cells.toArray 122 (0, 0)) := by
          rw [← hwd3, setCell_eq_setRow wd2 B5 4 _ _ (0, 0) _ g5, setRow_heap wd2 B5 _ _ _ (0, 0) g5, hcl]
          rfl
        have gz' : wd3.heap[W.heap.size + 1]? = some (.cells pc0C 122 (0, 0)) := by
          rw [← hwd3, Below.heap_setCell _ _ _ _ (by simp only; omega)]; exact gz
        have gG' : wd3.heap[G]? = some (.cells (byC (x0 :: x1 :: x2 :: x3 :: rest)).toArray 5 (0, 0)) := by
          rw [← hwd3, Below.heap_setCell _ _ _ _ (fun e => hneG e.symm)]; exact gG
        have hbW' : Below W.heap.size W wd3 := by
          rw [← hwd3]; exact hbW.setCell (by simp only; omega) _
        have hld := load_pm PM (range0 g5')
        have hst := store_pcs (cs := PM.cells) (cs' := pc0C.toList) PM.cells_length rfl PM.cells_one gz'
        have HE : Hid ((wd3.setRow (W.heap.size + 1) PM.cells.toArray).heap[W.heap.size + 1]? = some (.cells PM.cells.toArray 122 (0, 0)) ∧ Below W.heap.size W (wd3.setRow (W.heap.size + 1) PM.cells.toArray) ∧ Pm.ok (wd3.setRow (W.heap.size + 1) PM.cells.toArray) PM) := by
          have hGz : G ≠ W.heap.size + 1 := fun e => by rw [e, gz'] at gG'; cases gG'
          refine ⟨setRow_heap _ _ _ _ _ _ gz', setRow_below hbW' (by omega), ?_, by rw [hPM]; simp⟩
          rw [hPM]
          have gG2 := (setRow_other wd3 (W.heap.size + 1) G PM.cells.toArray hGz).trans gG'
          rw [hPM] at gG2
          refine ⟨some ⟨G, 4, none⟩, 60, rfl, by simp only [hkl]; have := HK.out; omega, (fun e => by cases e), .inr ⟨G, 4, _, rfl, gG2, fun j hj => ?_⟩⟩
          rw [List.getElem?_toArray]
          simp only [hkl] at hj
          have hj2 : j < rest.length := by rw [hrest]; have := HK.out; omega
          rw [Nat.add_comm 4 j, byC_get _ (j + 4) (by simp; omega)]
          simp
        have HPV : Hid (some PM.q = pv) := by rw [hPM]; exact hpv'
        have HPA : Hid (PM.at_ = i) := by rw [hPM]; rfl
        clear g5 gz gG hbW g5' gz' gG' hbW' hPM Hb' hpv' hcl hkl
        go_wp2_with (first | (refine wpList_load_run rfl 122 _ rfl _ (by rfl) hld ?_) | (refine wpList_store_run rfl 122 _ _ rfl _ _ (by rfl) (by rfl) hst ?_))
        refine bodyPost_ret (pc_results (cs := PM.cells) rfl _ PM.cells_length (by rfl) HE.out.1) rfl ?_
        refine ⟨.inr ⟨PM.q, PM.a, PM.cap, HPV.out.symm, ?_, ?_⟩, HE.out.2.1⟩
        · rw [← HPA.out]; rfl
        · rw [← HPA.out]; exact HE.out.2.2
      · have hnb : ms ≤ Y ∨ k < 1 ∨ 60 < k := Hb'.2 rfl
        rw [if_pos hnb] at hpv'
        have hst := store_pcs (cs := pc0C.toList) (cs' := pc0C.toList) rfl rfl (by decide) gz
        have HE : Hid ((wd2.setRow (W.heap.size + 1) pc0C).heap[W.heap.size + 1]? = some (.cells pc0C 122 (0, 0)) ∧ Below W.heap.size W (wd2.setRow (W.heap.size + 1) pc0C)) := ⟨setRow_heap _ _ _ _ _ _ gz, setRow_below hbW (by omega)⟩
        clear g5 gz gG hbW Hb' hnb
        go_wp2_with (first | (refine wpList_build_run rfl 122 #[] rfl #[] (by simp) (hbd _) ?_) | (refine wpList_store_run rfl 122 _ _ rfl _ _ (by rfl) (by rfl) hst ?_))
        refine bodyPost_ret (pc_results (cs := pc0C.toList) rfl _ rfl (by rfl) HE.out.1) rfl ?_
        exact ⟨.inl ⟨hpv'.symm, rfl⟩, HE.out.2⟩
end
end Go.Proofs.YtikcidlaamgakaaGreatDoor

namespace Go.Proofs.YtikcidlaamgakaaGreatDoor
set_option linter.unusedVariables false
set_option linter.unusedSimpArgs false
set_option maxRecDepth 100000
open Go.RowKit Go.Lib

theorem pc_info : (Tryz.prog.info? 122).map (fun i => (i.zero, i.size, i.bytes)) = some (some (.agg pc0C), 5, 56) := by kernel_rfl
theorem pc_tinfo : ∃ q, Tryz.prog.info? 122 = some q ∧ q.zero = some (.agg pc0C) ∧ q.size = 5 ∧ q.bytes = 56 := by
  obtain ⟨q, hq, hz⟩ := Option.map_eq_some_iff.1 pc_info
  simp only [Prod.mk.injEq] at hz
  exact ⟨q, hq, hz.1, hz.2.1, hz.2.2⟩
/-- What stands in an area's blocks. -/
def imgF (fr mn : Nat) (D : Dk) (a : Nat) : Option Pc := if 1 ≤ a ∧ a < mn then pcOf mn (D.now.getD (fr + a) bk0) else none
theorem img_dom (fr mn : Nat) (D : Dk) : Dom mn (imgF fr mn D) := fun a q h => by
  unfold imgF at h
  split at h
  · assumption
  · cases h
def Pm.pair (x : Pm) : Nat × Pc := (x.at_, x.q)
/-- Pieces in a row of one's own. -/
structure PmRow (W : World) (base : Nat) (v : Value) (xs : List Pm) : Prop where
  row : W.ownsRow base 122 5 v xs.length (rowOf Pm.cells xs)
  ok : ∀ x ∈ xs, Pm.ok W x
theorem ownBy_keep {V W : World} {v : Value} {l : List UInt8} (h : OwnBy V v l) (hk : ∀ (b : Nat) (cs : Array Value), V.heap[b]? = some (.cells cs 5 (0, 0)) → W.heap[b]? = some (.cells cs 5 (0, 0))) : OwnBy W v l := by
  obtain ⟨a, cap, e, hc, hn, h⟩ := h
  refine ⟨a, cap, e, hc, hn, ?_⟩
  rcases h with h | ⟨b, off, cs, e, hb, hx⟩
  · exact .inl h
  · exact .inr ⟨b, off, cs, e, hk b cs hb, hx⟩
theorem ownBy_below {V W : World} {v : Value} {l : List UInt8} (h : OwnBy V v l) (hb : Below V.heap.size V W) : OwnBy W v l := ownBy_keep h (fun b cs e => (hb.block b (Array.getElem?_eq_some_iff.1 e).1).trans e)
theorem Pm.ok_below {W U : World} {x : Pm} (h : Pm.ok W x) (hb : Below W.heap.size W U) : Pm.ok U x := ⟨ownBy_below h.1 hb, h.2⟩
theorem PmRow.nil (W : World) (base : Nat) : PmRow W base (.slice none 0 0) [] := ⟨World.ownsRow_nil _ _ _ _, fun _ h => absurd h (by simp)⟩
theorem PmRow.below {W U : World} {base : Nat} {v : Value} {xs : List Pm} (h : PmRow W base v xs) (hb : Below W.heap.size W U) : PmRow U base v xs :=
  ⟨ownsRow_keep h.row (fun b cs e _ => hb.block b (Array.getElem?_eq_some_iff.1 e).1), fun x hx => Pm.ok_below (h.ok x hx) hb⟩
theorem allF_step (mn j : Nat) (P : Nat → Option Pc) (hj : 1 ≤ j) : allF (j + 1) P = allF j P ++ ((P j).map fun q => (j, q)).toList := by
  unfold allF
  rw [show j + 1 - 1 = (j - 1) + 1 by omega, List.range'_concat, List.filterMap_append]
  congr 1
  rw [show 1 + 1 * (j - 1) = j by omega, List.filterMap_cons]
  cases P j <;> rfl
theorem pm_rowL (xs : List Pm) : (rowOf Pm.cells xs).length = xs.length * 5 := rowOf_length Pm.cells 5 xs (fun x _ => x.cells_length)
/-- One more piece behind a row. -/
theorem wpList_appP {w : World} {ops : Array Oper} {rest : List Oper} {o : Oper} {a : Act} {Q : Exit → Act → World → Prop} (hgd : o.guard = none) (d s : Operand) (ho : o.op = .call { callee := .builtin .append, args := #[d, s], argTypes := #[89, 89] })
    (base : Nat) (v : Value) (xs : List Pm) (x : Pm) (b : Nat) (hd : a.eval d = v) (hs : a.eval s = .slice (some ⟨b, 0, none⟩) 1 1) (hr : PmRow w base v xs) (hx : Pm.ok w x) (hb : w.heap[b]? = some (.cells x.cells.toArray 122 (0, 0))) (hbs : base ≤ w.heap.size) (hlen : xs.length ≤ 100000)
    (h : ∀ v' w', PmRow w' base v' (xs ++ [x]) → Below base w w' → (∀ b, b < w.heap.size → v.ownBlock ≠ some b → w'.heap[b]? = w.heap[b]?) → wpList Tryz.prog ops Q rest (a.put o.dst v') w') : wpList Tryz.prog ops Q (o :: rest) a w := by
  obtain ⟨qi, hqi, hqz⟩ := pc_tinfo
  refine wpList_append_own_at _ hgd d s 89 ho base 122 qi (.agg pc0C) 5 56 Tryz.underlying89 hqi hqz.1 hqz.2.1 hqz.2.2 rfl (by omega) v xs.length (rowOf Pm.cells xs) hd hr.row ⟨b, 0, none⟩ 1 1 x.cells hs x.cells_length (fun j u hj => ?_) x.cells_one (by unfold maxLen; omega) (by omega) hbs ?_
  · rw [Addr.add_mid, Nat.zero_add, cell_of_row w b _ _ _ (0, 0) hb]
    simpa using hj
  · intro v' w' hown hgrow _ _
    have hown' : ∀ j, v.ownBlock = some j → base ≤ j ∧ ∃ cs, w.heap[j]? = some (.cells cs 122 (0, 0)) := fun j hj => by
      rcases hr.row.2 with ⟨h1, _⟩ | ⟨g1, c1, cur, h1, hg1, hh, _⟩
      · rw [h1] at hj; cases hj
      · rw [h1] at hj; cases hj; exact ⟨hg1, cur, hh⟩
    refine h v' w' ⟨?_, fun y hy => ?_⟩ ((Below.refl base w).grown hgrow hbs (fun j hj => (hown' j hj).1)) (fun b hb hne => hgrow.block b hb (fun e => hne e.symm))
    · rw [List.length_append, rowOf_append, rowOf_one]
      exact hown
    · have hy' : Pm.ok w y := by
        rcases List.mem_append.1 hy with hy | hy
        · exact hr.ok y hy
        · rw [List.mem_singleton.1 hy]; exact hx
      refine ⟨ownBy_keep hy'.1 (fun b' cs e => (hgrow.block b' (Array.getElem?_eq_some_iff.1 e).1 (fun e2 => ?_)).trans e), hy'.2⟩
      obtain ⟨_, cs', hcs'⟩ := hown' b' e2.symm
      rw [e] at hcs'
      cases hcs'
theorem PmRow.ownLt {W : World} {base : Nat} {v : Value} {xs : List Pm} (h : PmRow W base v xs) : ∀ b, W.heap.size ≤ b → v.ownBlock ≠ some b := fun b hb e => by
  rcases h.row.2 with ⟨h1, _⟩ | ⟨g1, c1, cur, h1, hg1, hh, _⟩
  · rw [h1] at e; cases e
  · rw [h1] at e
    cases e
    have := (Array.getElem?_eq_some_iff.1 hh).1
    simp only at hb
    omega
theorem buildP (x : Pm) (w : World) : (Instr.buildSlice 89 1 #[(0, .agg x.cells.toArray)]).run Tryz.prog w = .ok (.slice (some ⟨w.heap.size, 0, none⟩) 1 1) (w.alloc (.cells x.cells.toArray 122)) := by
  obtain ⟨qi, hqi, hqz⟩ := pc_tinfo
  exact buildSlice_one 89 122 qi (.agg pc0C) Tryz.underlying89 hqi hqz.1 x.cells.toArray (by rw [List.size_toArray, x.cells_length, hqz.2.1]) (by rw [hqz.2.1]; omega) (by rw [hqz.2.1]; omega) w
theorem storeP (x : Pm) (U : World) : (Instr.storeAt 122 (.pointer (some ⟨U.heap.size, 0, none⟩)) (.agg x.cells.toArray)).run Tryz.prog (U.alloc (.cells pc0C 122)) = .ok () (U.alloc (.cells x.cells.toArray 122)) :=
  run_storeAt_new U 122 pc0C x.cells.toArray (by rw [List.size_toArray, x.cells_length]; exact pc_size) (by simp [Pm.cells, pc0C]) (all_oneCell_toArray x.cells_one)
section
variable {w W : World} {p nb sb : Nat} {cv : Value} {n : Nat} {D : Dk}
theorem readPiece_any (a : Tn w W p nb sb cv n D) (fr mn i : Nat) (hi : fr + i < n) (hn : n ≤ 200) (hm : mn ≤ 200) :
    Calls Tryz.prog 61 #[.agg #[.pointer (some ⟨p, 0, none⟩), .int .i64 (fr : Int), .int .i64 (mn : Int)], .int .i64 (i : Int)] W fun e w' => ((pcOf mn (D.now.getD (fr + i) bk0) = none ∧ e = .returned (.tuple #[.agg pc0C, .bool false])) ∨ ∃ q ad cap, pcOf mn (D.now.getD (fr + i) bk0) = some q ∧ e = .returned (.tuple #[.agg (Pm.mk i q ad cap).cells.toArray, .bool true]) ∧ Hid (Pm.ok w' (Pm.mk i q ad cap))) ∧ Hid (Below W.heap.size W w') := by
  cases ht : (D.now.getD (fr + i) bk0).torn with
  | false => exact readPiece_ok a fr mn i hi hn hm ht
  | true =>
    refine (readPiece_torn a fr mn i hi hn ht).mono ?_
    rintro e w' ⟨rfl, hb⟩
    exact ⟨.inl ⟨by unfold pcOf; rw [if_pos ht], rfl⟩, hb⟩
set_option maxHeartbeats 2000000 in
theorem piecesA_any (a : Tn w W p nb sb cv n D) (fr mn : Nat) (hi : fr + mn ≤ n) (hn : n ≤ 200) :
    Calls Tryz.prog 40 #[.agg #[.pointer (some ⟨p, 0, none⟩), .int .i64 (fr : Int), .int .i64 (mn : Int)]] W fun e w' => ∃ v, e = .returned v ∧ ∃ xs : List Pm, xs.map Pm.pair = allF mn (imgF fr mn D) ∧ Hid (PmRow w' W.heap.size v xs) ∧ Hid (Below W.heap.size W w') := by
  obtain ⟨W1, hW1⟩ : ∃ W1, W.alloc (.cells #[.pointer (some ⟨p, 0, none⟩), .int .i64 (fr : Int), .int .i64 (mn : Int)] 71) = W1 := ⟨_, rfl⟩
  have hB : Below W.heap.size W W1 := by rw [← hW1]; exact (Below.refl _ W).alloc (Nat.le_refl _) _
  have hr := new_heap W (.cells #[.pointer (some ⟨p, 0, none⟩), .int .i64 (fr : Int), .int .i64 (mn : Int)] 71)
  rw [hW1] at hr
  have HC : Hid (∀ U, Below W1.heap.size W1 U → (U.cell? ⟨W.heap.size, 0, none⟩ = some (.pointer (some ⟨p, 0, none⟩)) ∧ U.cell? ⟨W.heap.size, 1, none⟩ = some (.int .i64 (fr : Int)) ∧ U.cell? ⟨W.heap.size, 2, none⟩ = some (.int .i64 (mn : Int))) ∧ Tn w U p nb sb cv n D ∧ Below W.heap.size W U) := fun U hU => by
    have hU2 : Below W.heap.size W U := hB.trans (hU.mono hB.size)
    have hr' := (hU.block _ (Array.getElem?_eq_some_iff.1 hr).1).trans hr
    exact ⟨⟨by simp [World.cell?, hr'], by simp [World.cell?, hr'], by simp [World.cell?, hr']⟩, a.below hU2, hU2⟩
  have HRd : Hid (∀ (U : World) (i : Nat), Below W1.heap.size W1 U → fr + i < n → Calls Tryz.prog 61 #[.agg #[.pointer (some ⟨p, 0, none⟩), .int .i64 (fr : Int), .int .i64 (mn : Int)], .int .i64 (i : Int)] U fun e w' => ((pcOf mn (D.now.getD (fr + i) bk0) = none ∧ e = .returned (.tuple #[.agg pc0C, .bool false])) ∨ ∃ q ad cap, pcOf mn (D.now.getD (fr + i) bk0) = some q ∧ e = .returned (.tuple #[.agg (Pm.mk i q ad cap).cells.toArray, .bool true]) ∧ Hid (Pm.ok w' (Pm.mk i q ad cap))) ∧ Hid (Below U.heap.size U w')) := fun U i hU h => readPiece_any (HC.out U hU).2.1 fr mn i h hn (by omega)
  have HS : Hid (W.heap.size < W1.heap.size) := (Array.getElem?_eq_some_iff.1 hr).1
  have hal := alloc_pc
  have m0 : (0 : Int) ≤ mn := by omega
  have m1 : (mn : Int) ≤ 200 := by omega
  clear a hB hr
  go_enter Tryz.func40, Tryz.ntmps40
  go_wp2_with fail
  go_loopw [2, 3] (fun v t wr => ∃ (j : Nat) (xs : List Pm), 1 ≤ j ∧ (j ≤ mn ∨ j = 1) ∧ t = .int .i64 j ∧ Hid (xs.map Pm.pair = allF j (imgF fr mn D) ∧ PmRow wr W1.heap.size v xs ∧ Below W1.heap.size W1 wr ∧ xs.length ≤ j)) (fun _ t _ => 200 - (RowKit.intOf t).toNat)
  case atStart => exact ⟨1, [], by omega, .inr rfl, rfl, rfl, PmRow.nil _ _, Below.refl _ _, by simp⟩
  case round =>
    obtain ⟨j, xs, hj1, hj2, rfl, H⟩ := hrel
    obtain ⟨h1, h2, h3, h4⟩ := H.out
    obtain ⟨⟨c0, c1, c2⟩, _, hbW⟩ := HC.out wr h3
    have j0 : (0 : Int) ≤ j := by omega
    have j3 : (j : Int) ≤ 200 := by omega
    by_cases hlt : j < mn
    · have j1 : (j : Int) < mn := by omega
      have HR : Hid (Calls _ _ _ wr _) := HRd.out wr j h3 (by omega)
      have himg : imgF fr mn D j = pcOf mn (D.now.getD (fr + j) bk0) := if_pos ⟨hj1, hlt⟩
      have Hst : Hid (allF (j + 1) (imgF fr mn D) = allF j (imgF fr mn D) ++ ((pcOf mn (D.now.getD (fr + j) bk0)).map fun q => (j, q)).toList) := by
        rw [← himg]; exact allF_step mn j _ hj1
      have HH : Hid (xs.map Pm.pair = allF j (imgF fr mn D) ∧ PmRow wr W1.heap.size u2 xs ∧ Below W1.heap.size W1 wr ∧ xs.length ≤ j) := ⟨h1, h2, h3, h4⟩
      obtain ⟨pv, hpv⟩ : ∃ pv, pcOf mn (D.now.getD (fr + j) bk0) = pv := ⟨_, rfl⟩
      rw [hpv] at HR Hst
      clear H h1 h2 h3 h4 himg hpv hbW
      go_wp2_with fail
      refine HR.out.mono ?_
      rintro e w2 ⟨hres, hb2⟩
      rcases hres with ⟨rfl, rfl⟩ | ⟨q, ad, cap, rfl, rfl, hok⟩
      · have hsp := fun U : World => run_storeAt_new (P := Tryz.prog) U 122 pc0C pc0C (by exact pc_size) rfl (by simp [pc0C, Value.oneCell'])
        have hb3 : Below W1.heap.size W1 (w2.alloc (.cells pc0C 122)) := (HH.out.2.2.1.trans (hb2.out.mono HH.out.2.2.1.size)).alloc (Nat.le_trans HH.out.2.2.1.size hb2.out.size) _
        have hbw : Below wr.heap.size wr (w2.alloc (.cells pc0C 122)) := hb2.out.alloc hb2.out.size _
        have HN : Hid (xs.map Pm.pair = allF (j + 1) (imgF fr mn D) ∧ PmRow (w2.alloc (.cells pc0C 122)) W1.heap.size u2 xs ∧ Below W1.heap.size W1 (w2.alloc (.cells pc0C 122)) ∧ xs.length ≤ j + 1) := by
          refine ⟨?_, HH.out.2.1.below hbw, hb3, by have := HH.out.2.2.2; omega⟩
          rw [Hst.out, HH.out.1]
          simp
        clear HR hb2 hb3 hbw HH Hst
        go_wp2_with (first | (refine wpList_alloc_run rfl 122 rfl (hal _) ?_) | (refine wpList_store_run rfl 122 _ _ rfl _ _ (by rfl) (by rfl) (hsp _) ?_))
        go_roundw
        case rel => exact ⟨j + 1, xs, by omega, .inl (by omega), by go_num, HN⟩
        case measure => simp [RowKit.intOf]; omega
      · obtain ⟨x, hx⟩ : ∃ x : Pm, x = Pm.mk j q ad cap := ⟨_, rfl⟩
        rw [← hx] at hok ⊢
        have hsp := storeP x
        have hbd := buildP x
        have s2 : w2.heap.size < (w2.alloc (.cells x.cells.toArray 122)).heap.size := by simp
        have hld := load_pm x (range0 (new_heap w2 (.cells x.cells.toArray 122)))
        obtain ⟨w3, hw3⟩ : ∃ w3, (w2.alloc (.cells x.cells.toArray 122)).alloc (.cells x.cells.toArray 122) = w3 := ⟨_, rfl⟩
        obtain ⟨_, hn2, hn3⟩ := two_new w2 (.cells x.cells.toArray 122) (.cells x.cells.toArray 122)
        rw [hw3] at hn2 hn3
        have hb3 : Below W1.heap.size W1 w3 := (HH.out.2.2.1.trans (hb2.out.mono HH.out.2.2.1.size)).trans (hn3.mono (Nat.le_trans HH.out.2.2.1.size hb2.out.size))
        have hbw : Below wr.heap.size wr w3 := hb2.out.trans (hn3.mono hb2.out.size)
        have HApp : Hid (PmRow w3 W1.heap.size u2 xs ∧ Pm.ok w3 x ∧ w3.heap[w2.heap.size + 1]? = some (.cells x.cells.toArray 122 (0, 0)) ∧ W1.heap.size ≤ w3.heap.size ∧ xs.length ≤ 100000) :=
          ⟨HH.out.2.1.below hbw, Pm.ok_below hok.out hn3, hn2, hb3.size, by have := HH.out.2.2.2; omega⟩
        have HB3 : Hid (Below W1.heap.size W1 w3) := hb3
        have HM : Hid ((xs ++ [x]).map Pm.pair = allF (j + 1) (imgF fr mn D) ∧ (xs ++ [x]).length ≤ j + 1) := by
          constructor
          · rw [Hst.out, List.map_append, HH.out.1, hx]
            rfl
          · have := HH.out.2.2.2
            simp; omega
        clear HR hb2 hb3 hbw HH Hst hok hn2 hn3 hx s2
        subst hw3
        go_wp2_with (first | (refine wpList_alloc_run rfl 122 rfl (hal _) ?_) | (refine wpList_store_run rfl 122 _ _ rfl _ _ (by rfl) (by rfl) (hsp _) ?_) | (refine wpList_load_run rfl 122 _ rfl _ (by rfl) hld ?_) | (refine wpList_buildSlice_run rfl 89 1 #[(0, .tmp 20)] rfl #[(0, .agg x.cells.toArray)] (by first | rfl | simp [Act.eval, Act.put]) (hbd _) ?_) | (at_builtin; go_loud (refine wpList_appP rfl (.tmp 19) (.tmp 21) rfl W1.heap.size u2 xs x (w2.heap.size + 1) (by rfl) (by simp [Act.eval, Act.put]) HApp.out.1 HApp.out.2.1 HApp.out.2.2.1 HApp.out.2.2.2.1 HApp.out.2.2.2.2 ?_); intro v' w4 hr4 hb4 _))
        have HN : Hid ((xs ++ [x]).map Pm.pair = allF (j + 1) (imgF fr mn D) ∧ PmRow w4 W1.heap.size v' (xs ++ [x]) ∧ Below W1.heap.size W1 w4 ∧ (xs ++ [x]).length ≤ j + 1) := ⟨HM.out.1, hr4, HB3.out.trans hb4, HM.out.2⟩
        clear hr4 hb4 HApp HM HB3
        go_wp2_with fail
        go_roundw
        case rel => exact ⟨j + 1, xs ++ [x], by omega, .inl (by omega), by go_num, HN⟩
        case measure => simp [RowKit.intOf]; omega
    · have j1 : ¬ (j : Int) < mn := by omega
      have HE : Hid (xs.map Pm.pair = allF mn (imgF fr mn D) ∧ PmRow wr W.heap.size u2 xs ∧ Below W.heap.size W wr) := by
        refine ⟨?_, ⟨?_, h2.ok⟩, hbW⟩
        · rw [h1]
          rcases hj2 with h | h
          · rw [show j = mn by omega]
          · subst h
            unfold allF
            rw [show mn - 1 = 0 by omega]
        · rcases h2.row.2 with ⟨e1, e2⟩ | ⟨g, cap, cur, e, hg, r⟩
          · exact ⟨h2.row.1, .inl ⟨e1, e2⟩⟩
          · exact ⟨h2.row.1, .inr ⟨g, cap, cur, e, by have := HS.out; omega, r⟩⟩
      clear H h1 h2 h3 h4 hbW HC HRd
      go_wp2_with fail
      go_ret
      exact ⟨u2, rfl, xs, HE.out.1, HE.out.2.1, HE.out.2.2⟩
end
end Go.Proofs.YtikcidlaamgakaaGreatDoor
