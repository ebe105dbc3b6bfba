/-
  The contract of a disk's Crash.
-/
import Derived.Test.YtidccclfngcpgaaBk6
namespace Go.Proofs.Ytidccclfngcpgaa
set_option linter.unusedVariables false
set_option linter.unusedSimpArgs false
set_option maxRecDepth 100000
open Go.RowKit Go.Lib

/-- What is safe behind a crash: of the changes from number k on those that are marked are done. -/
def crashS (mk : List Bool) (torn : Int) : Nat → List Cg → List Bk → List Bk
  | _, [], s => s
  | k, c :: cs, s => crashS mk torn (k + 1) cs (if mk.getD k false = true then s.set c.at_ ⟨c.to.byt, decide ((k : Int) = torn)⟩ else s)
def Dk.crash (D : Dk) (keep : List Int) (torn : Int) : Dk :=
  ⟨crashS (markL keep D.chg.length) torn 0 D.chg D.safe, crashS (markL keep D.chg.length) torn 0 D.chg D.safe, [], 0, -1⟩
theorem crashS_ok (mk : List Bool) (torn : Int) (n : Nat) : ∀ (cs : List Cg) (k : Nat) (s : List Bk), s.length = n → (∀ x ∈ s, x.ok) → (∀ c ∈ cs, c.to.ok ∧ c.at_ < n) → (crashS mk torn k cs s).length = n ∧ ∀ x ∈ crashS mk torn k cs s, x.ok
  | [], _, s, h1, h2, _ => ⟨h1, h2⟩
  | c :: cs, k, s, h1, h2, h3 => by
    unfold crashS
    refine crashS_ok mk torn n cs (k + 1) _ ?_ ?_ (fun x hx => h3 x (by simp [hx]))
    · split
      · rw [List.length_set]; exact h1
      · exact h1
    · intro x hx
      split at hx
      · rcases List.mem_or_eq_of_mem_set hx with hx | rfl
        · exact h2 x hx
        · exact (h3 c (by simp)).1
      · exact h2 x hx
theorem crashS_step {mk : List Bool} {torn : Int} {l : List Cg} {k : Nat} {s : List Bk} (hk : k < l.length) :
    crashS mk torn k (l.drop k) s = crashS mk torn (k + 1) (l.drop (k + 1)) (if mk.getD k false = true then s.set (l.getD k cg0).at_ ⟨(l.getD k cg0).to.byt, decide ((k : Int) = torn)⟩ else s) := by
  have hc : l.getD k cg0 = l[k] := by rw [List.getD_eq_getElem?_getD, List.getElem?_eq_getElem hk]; rfl
  rw [List.drop_eq_getElem_cons hk, hc]
  rfl

theorem set_torn (c : Cg) (h : c.to.ok) (b : Bool) : c.cells.toArray.setIfInBounds 65 (.bool b) = (Cg.mk c.at_ ⟨c.to.byt, b⟩).cells.toArray := by
  have hl : (byC c.to.byt).length = 64 := by rw [byC_length]; exact h
  simp only [List.setIfInBounds_toArray, Cg.cells, Bk.cells]
  congr 1
  rw [List.set_cons_succ]
  congr 1
  rw [List.set_append_right _ _ (by rw [hl]; exact Nat.le_refl _), hl]
  rfl

/-- A change's cells, in its row. -/
theorem chg_range {w : World} {g : Nat} {cur : Array Value} {t : TypeId} {l : List Cg} (h : w.heap[g]? = some (.cells cur t (0, 0))) (hr : cur.toList.take (l.length * 66) = rowOf Cg.cells l) (ho : ∀ c ∈ l, c.to.ok) (k : Nat) (hk : k < l.length) : w.rangeAt g (k * 66) (l.getD k cg0).cells := by
  intro j v hv
  have hc : (l.getD k cg0) = l[k] := by rw [List.getD_eq_getElem?_getD, List.getElem?_eq_getElem hk]; rfl
  rw [hc] at hv
  have hj : j < 66 := by
    have := (List.getElem?_eq_some_iff.1 hv).1
    rw [Cg.cells_length (ho _ (List.getElem_mem hk))] at this
    exact this
  have e := rowOf_get Cg.cells 66 l k j hk (fun x hx => Cg.cells_length (ho x hx)) hj
  rw [← hr, List.getElem?_take, if_pos (by omega)] at e
  rw [cell_of_row w g _ _ t (0, 0) h, ← Array.getElem?_toList, e]
  exact hv

set_option maxHeartbeats 8000000 in
theorem crash_any (lo p nb sb : Nat) (cv : Value) (n : Nat) (D : Dk) (a : Option Addr) (keep : List Int) (cap : Nat) (torn : Int) (w : World) (h : DkAt w lo p nb sb cv n D) (hlo : lo ≤ w.heap.size) (hc0 : D.chg.length ≤ 1000000) (hkl : keep.length ≤ 9223372036854775807) (hin : IsIn w a keep cap) :
    Calls Try.prog 13 #[.pointer (some ⟨p, 0, none⟩), .slice a keep.length cap, .int .i64 torn] w fun e w' => e = .returned (.tuple #[]) ∧ Hid (DkAt w' lo p nb sb (.slice none 0 0) n (D.crash keep torn) ∧ Keeps lo dkT w w') := by
  have HM : Hid (Calls _ _ _ _ _) := marked_any a keep cap D.chg.length w hin hc0 hkl
  have HD : Hid (DkAt w lo p nb sb cv n D) := h
  obtain ⟨av, cpv, hcv⟩ : ∃ av cpv, cv = .slice av D.chg.length cpv := by
    rcases h.chg.2 with ⟨rfl, e⟩ | ⟨g1, c1, cur, rfl, _⟩
    · exact ⟨none, 0, by rw [e]⟩
    · exact ⟨_, _, rfl⟩
  have c2 := h.p2
  rw [hcv] at c2
  have HF : Hid (crashS (markL keep D.chg.length) torn 0 D.chg D.safe = (D.crash keep torn).safe) := rfl
  have HCO : Hid (∀ c ∈ D.chg, c.to.ok ∧ c.at_ < n) := h.ok.chgO
  have HFo : Hid ((D.crash keep torn).safe.length = n ∧ ∀ x ∈ (D.crash keep torn).safe, x.ok) := crashS_ok _ _ _ _ _ _ h.ok.safeL h.ok.safeO h.ok.chgO
  have HCR : Hid (D.crash keep torn = ⟨(D.crash keep torn).safe, (D.crash keep torn).safe, [], 0, -1⟩) := rfl
  generalize D.crash keep torn = DC at *
  generalize DC.safe = fin at *
  generalize hmk : markL keep D.chg.length = mk at *
  have HML : Hid (mk.length = D.chg.length) := by rw [← hmk]; exact markL_length _ _
  clear hin hmk
  go_enter Try.func13, Try.ntmps13
  go_wp2_with fail
  refine HM.out.mono ?_
  rintro e w1 ⟨rfl, hrow, hb1⟩
  clear HM c2
  have hd1 := HD.out.below hb1
  have hk1 : Keeps lo dkT w w1 := Keeps.of_below hb1
  have c2 := hd1.p2
  rw [hcv] at c2
  have HR1 : Hid (BoRow w1 w.heap.size mk) := hrow
  have HD1 : Hid (DkAt w1 lo p nb sb cv n D) := hd1
  have HK1 : Hid (Keeps lo dkT w w1) := hk1
  have Hcv : Hid (cv = .slice av D.chg.length cpv) := hcv
  clear hrow hb1 hd1 hk1 hcv h
  generalize w.heap.size = G at *
  go_wp2
  clear c2
  go_loopw [21] (fun i wr => ∃ k : Nat, k ≤ D.chg.length ∧ i = .int .i64 k ∧ Hid (∃ s, crashS mk torn k (D.chg.drop k) s = fin ∧ DkAt wr lo p nb sb cv n { D with safe := s } ∧ Keeps lo dkT w wr ∧ BoRow wr G mk)) (fun i _ => D.chg.length - (intOf i).toNat)
  case atStart => exact ⟨0, Nat.zero_le _, rfl, D.safe, HF.out, HD1.out, HK1.out, HR1.out⟩
  case round =>
    obtain ⟨k, hk, rfl, H⟩ := hrel
    by_cases hlt : k < D.chg.length
    · obtain ⟨s, hfin, hd, hkp, hbo⟩ := H.out
      clear H
      have hgk : D.chg.getD k cg0 ∈ D.chg := by
        rw [List.getD_eq_getElem?_getD, List.getElem?_eq_getElem hlt]; exact List.getElem_mem hlt
      obtain ⟨hcok, hcat⟩ := HCO.out _ hgk
      rw [crashS_step hlt] at hfin
      have hldc : ∃ g1, av = some ⟨g1, 0, none⟩ ∧ (Instr.loadAt 68 (.pointer (some ⟨g1, k * 66, none⟩))).run Try.prog wr = .ok (.agg (D.chg.getD k cg0).cells.toArray) wr := by
        rcases hd.chg.2 with ⟨_, e⟩ | ⟨g1, c1, cur, e1, _, hh, _, _, _, ht⟩
        · simp only at e; omega
        · rw [Hcv.out] at e1
          cases e1
          exact ⟨g1, rfl, run_loadAt_mid wr g1 (k * 66) 68 _ _ (chg_range hh ht (fun c hc => (HCO.out c hc).1) k hlt) Try.underlying68 rfl (by rw [Cg.cells_length hcok]; exact change_size)⟩
      obtain ⟨g1, rfl, hld⟩ := hldc
      have hmkc := hbo.cell (i := k) (by rw [HML.out]; exact hlt)
      generalize D.chg.getD k cg0 = c at *
      have hal := alloc_change
      have hstn := fun W => run_storeAt_new (P := Try.prog) W 68 cg0.cells.toArray c.cells.toArray (by rw [List.size_toArray, Cg.cells_length hcok]; exact change_size) (by rw [List.size_toArray, List.size_toArray, Cg.cells_length bk0_ok, Cg.cells_length hcok]) (all_oneCell_toArray (Cg.cells_one _))
      generalize cg0.cells.toArray = C0 at *
      have hb1 := new_heap wr (.cells c.cells.toArray 68)
      have hbel1 := (Below.refl wr.heap.size wr).alloc (Nat.le_refl _) (.cells c.cells.toArray 68)
      have hm1 : (wr.alloc (.cells c.cells.toArray 68)).cell? ⟨G, k, none⟩ = some (.bool (mk.getD k false)) := (World.cell?_alloc_lt _ _ _ hbo.lt).trans hmkc
      have j0 : (0 : Int) ≤ k := by omega
      have j1 : (k : Int) < D.chg.length := by omega
      have HDr : Hid (DkAt wr lo p nb sb cv n { D with safe := s }) := hd
      have HKr : Hid (Keeps lo dkT w wr) := hkp
      have HBr : Hid (BoRow wr G mk) := hbo
      have Hfin : Hid (crashS mk torn (k + 1) (D.chg.drop (k + 1)) (if mk.getD k false = true then s.set c.at_ ⟨c.to.byt, decide ((k : Int) = torn)⟩ else s) = fin) := hfin
      have Hb1 : Hid (_ = _) := hb1
      have HB1 : Hid (Below _ _ _) := hbel1
      have Hcok : Hid (c.to.ok) := hcok
      generalize hC : c.cells.toArray = C at *
      have HCC : Hid (c.cells.toArray = C) := hC
      clear hd hkp hbo hfin hmkc hb1 hbel1 hcok hC hgk
      cases hmb : mk.getD k false
      · rw [hmb] at hm1 Hfin
        go_wp2_with (first | (refine wpList_load_run rfl 68 (.tmp 24) rfl (.pointer (some ⟨g1, k * 66, none⟩)) rfl hld ?_) | (refine wpList_alloc_run rfl 68 rfl (hal _) ?_) | (refine wpList_store_run rfl 68 (.tmp 8) (.tmp 25) rfl (.pointer (some ⟨wr.heap.size, 0, none⟩)) (.agg C) rfl rfl (hstn _) ?_))
        go_roundw
        case rel => exact ⟨k + 1, by omega, by go_num, s, Hfin.out, HDr.out.below HB1.out, HKr.out.trans (Keeps.of_below HB1.out), by have := HB1.out.block G HBr.out.lt; exact this.trans HBr.out⟩
        case measure => simp [intOf]; omega
      · rw [hmb] at hm1 Hfin
        have Hfin2 : Hid (crashS mk torn (k + 1) (D.chg.drop (k + 1)) (s.set c.at_ ⟨c.to.byt, decide ((k : Int) = torn)⟩) = fin) := Hfin.out
        clear Hfin
        obtain ⟨tt, htt⟩ : ∃ tt : Bool, decide ((k : Int) = torn) = tt := ⟨_, rfl⟩
        have htt2 : ((k : Int) == torn) = tt := by rw [← htt]; rfl
        rw [htt] at Hfin2
        have h65 : C[65]? = some (.bool c.to.torn) := by
          have hk := Hcok.out
          unfold Bk.ok at hk
          rw [← HCC.out]
          simp only [List.getElem?_toArray, Cg.cells, Bk.cells, List.getElem?_cons_succ]
          rw [List.getElem?_append_right (by rw [byC_length, hk]; exact Nat.le_refl _), byC_length, hk]
          rfl
        obtain ⟨C', hC'⟩ : ∃ C', C.setIfInBounds 65 (.bool tt) = C' := ⟨_, rfl⟩
        obtain ⟨c', hc'⟩ : ∃ c', c' = Cg.mk c.at_ ⟨c.to.byt, tt⟩ := ⟨_, rfl⟩
        have HC' : Hid (C' = c'.cells.toArray) := by
          unfold Hid
          rw [← hC', ← HCC.out, set_torn c Hcok.out, hc']
        have Hc' : Hid (c' = Cg.mk c.at_ ⟨c.to.byt, tt⟩) := hc'
        clear hc' htt
        go_wp2_with (first | (refine wpList_load_run rfl 68 (.tmp 24) rfl (.pointer (some ⟨g1, k * 66, none⟩)) rfl hld ?_) | (refine wpList_alloc_run rfl 68 rfl (hal _) ?_) | (refine wpList_store_run rfl 68 (.tmp 8) (.tmp 25) rfl (.pointer (some ⟨wr.heap.size, 0, none⟩)) (.agg C) rfl rfl (hstn _) ?_))
        have hok' : c'.to.ok := by rw [Hc'.out]; exact Hcok.out
        have hat' : c'.at_ < n := by rw [Hc'.out]; exact hcat
        have hbel2 := (Below.refl wr.heap.size wr).alloc (Nat.le_refl _) (.cells C' 68)
        have hb2 := new_heap wr (.cells C' 68)
        have hd2 := HDr.out.below hbel2
        have hk2 : Keeps lo dkT w (wr.alloc (.cells C' 68)) := HKr.out.trans (Keeps.of_below hbel2)
        have hr2 : BoRow (wr.alloc (.cells C' 68)) G mk := (hbel2.block G HBr.out.lt).trans HBr.out
        clear hld hal hstn hm1 h65 hC' HDr HKr HBr Hb1 HB1 HCC hbel2
        generalize wr.alloc (.cells C' 68) = W2 at *
        generalize wr.heap.size = B at *
        rw [HC'.out] at hb2
        have c1 : W2.drew.cell? ⟨p, 1, none⟩ = some (.slice (some ⟨sb, 0, none⟩) n n) := hd2.p1
        have cB : W2.drew.cell? ⟨B, 0, none⟩ = some (.int .i64 (c'.at_ : Int)) := by
          show W2.cell? _ = _
          rw [cell_of_row W2 B 0 _ _ (0, 0) hb2]
          simp [Cg.cells]
        have hld1 : (Instr.loadAt 66 (.pointer (some ⟨B, 1, none⟩))).run Try.prog W2.drew = .ok (.agg c'.to.cells.toArray) W2.drew := load_to hok' hb2
        have hst1 := store_block (w := W2.drew) (g := sb) hd2.drew.safe hd2.ok.safeO c'.at_ (by rw [hd2.ok.safeL]; exact hat') c'.to hok'
        have hd3 := hd2.drew.setSafe (s.set c'.at_ c'.to) (by rw [List.length_set]; exact hd2.ok.safeL) (fun x hx => by
          rcases List.mem_or_eq_of_mem_set hx with hx | rfl
          · exact hd2.ok.safeO x hx
          · exact hok')
        have hk3 := hk2.drew.setRow hd2.drew.safe (by simp [dkT]) hd2.ls (rowOf Bk.cells (s.set c'.at_ c'.to)).toArray
        have hr3 : BoRow (W2.drew.setRow sb (rowOf Bk.cells (s.set c'.at_ c'.to)).toArray) G mk := (setRow_other _ _ _ _ (fun e => by
          have h1 : W2.heap[G]? = _ := hr2
          rw [e, hd2.safe] at h1
          simp at h1)).trans hr2
        have hfin3 : crashS mk torn (k + 1) (D.chg.drop (k + 1)) (s.set c'.at_ c'.to) = fin := by rw [Hc'.out]; exact Hfin2.out
        have HS3 : Hid (∃ s', crashS mk torn (k + 1) (D.chg.drop (k + 1)) s' = fin ∧ DkAt (W2.drew.setRow sb (rowOf Bk.cells (s.set c'.at_ c'.to)).toArray) lo p nb sb cv n { D with safe := s' } ∧ Keeps lo dkT w (W2.drew.setRow sb (rowOf Bk.cells (s.set c'.at_ c'.to)).toArray) ∧ BoRow (W2.drew.setRow sb (rowOf Bk.cells (s.set c'.at_ c'.to)).toArray) G mk) := ⟨_, hfin3, hd3, hk3, hr3⟩
        have a0 : (0 : Int) ≤ c'.at_ := by omega
        have a1 : (c'.at_ : Int) < n := by omega
        simp only at hst1
        generalize (rowOf Bk.cells (s.set c'.at_ c'.to)).toArray = R at *
        generalize c'.to.cells.toArray = X at *
        generalize c'.at_ = q at *
        clear hd3 hk3 hr3 hfin3 hd2 hk2 hr2 hb2 Hfin2 hok' Hc' HC' Hcok
        try simp only [Act.put, List.setIfInBounds_toArray, List.set_cons_zero, List.set_cons_succ]
        refine wp_region_drawn (by kernel_rfl) ?_
        refine wpAny_take (i := 0) (v := .pointer (some ⟨p, 0, none⟩)) rfl (by kernel_rfl) (by kernel_rfl) (by kernel_rfl) (fun _ _ _ h => h) (Or.inl ⟨by rfl, fun w => by go_simp⟩) ?_
        simp only [Act.put, List.getElem_toArray, List.getElem_cons_succ, List.getElem_cons_zero, List.setIfInBounds_toArray, List.set_cons_zero, List.set_cons_succ]
        refine wpAny_take (i := 1) (v := .pointer (some ⟨p, 0, none⟩)) rfl (by kernel_rfl) (by kernel_rfl) (by kernel_rfl) (fun _ _ _ h => h) (Or.inl ⟨by rfl, fun w => by go_simp⟩) ?_
        simp only [Act.put, List.getElem_toArray, List.getElem_cons_succ, List.getElem_cons_zero, List.setIfInBounds_toArray, List.set_cons_zero, List.set_cons_succ]
        refine wpAny_take (i := 2) (v := .pointer (some ⟨p, 1, none⟩)) rfl (by kernel_rfl) (by kernel_rfl) (by kernel_rfl) (fun _ _ _ h => h) (Or.inl ⟨by rfl, fun w => by go_simp⟩) ?_
        simp only [Act.put, List.getElem_toArray, List.getElem_cons_succ, List.getElem_cons_zero, List.setIfInBounds_toArray, List.set_cons_zero, List.set_cons_succ]
        refine wpAny_take (i := 4) (v := .pointer (some ⟨B, 0, none⟩)) rfl (by kernel_rfl) (by kernel_rfl) (by kernel_rfl) (fun _ _ _ h => h) (Or.inl ⟨by rfl, fun w => by go_simp⟩) ?_
        simp only [Act.put, List.getElem_toArray, List.getElem_cons_succ, List.getElem_cons_zero, List.setIfInBounds_toArray, List.set_cons_zero, List.set_cons_succ]
        refine wpAny_take (i := 6) (v := .pointer (some ⟨B, 1, none⟩)) rfl (by kernel_rfl) (by kernel_rfl) (by kernel_rfl) (fun _ _ _ h => h) (Or.inl ⟨by rfl, fun w => by go_simp⟩) ?_
        simp only [Act.put, List.getElem_toArray, List.getElem_cons_succ, List.getElem_cons_zero, List.setIfInBounds_toArray, List.set_cons_zero, List.set_cons_succ]
        refine any_of_L (g := 9) (T := fun u => u = W2.drew) _ _ _ _ ?_
        refine L_take (i := 3) (v := .slice (some ⟨sb, 0, none⟩) n n) rfl rfl (by kernel_rfl) (by decide) (by kernel_rfl) (by kernel_rfl) (by kernel_rfl) (by kernel_rfl) (fun _ _ _ h => h) (Or.inl ⟨by rfl, fun w' hw' => by subst hw'; go_simp⟩) rfl ?_
        simp only [Act.put, List.getElem_toArray, List.getElem_cons_succ, List.getElem_cons_zero, List.setIfInBounds_toArray, List.set_cons_zero, List.set_cons_succ]
        refine L_take (i := 5) (v := .int .i64 q) rfl rfl (by kernel_rfl) (by decide) (by kernel_rfl) (by kernel_rfl) (by kernel_rfl) (by kernel_rfl) (fun _ _ _ h => h) (Or.inl ⟨by rfl, fun w' hw' => by subst hw'; go_simp⟩) rfl ?_
        simp only [Act.put, List.getElem_toArray, List.getElem_cons_succ, List.getElem_cons_zero, List.setIfInBounds_toArray, List.set_cons_zero, List.set_cons_succ]
        refine L_take (i := 7) (v := .agg X) rfl rfl (by kernel_rfl) (by decide) (by kernel_rfl) (by kernel_rfl) (by kernel_rfl) (by kernel_rfl) (fun _ _ _ h => h) ?_ rfl ?_
        · refine yields_load_run (by rfl) 66 (.tmp 41) (by rfl) (.pointer (some ⟨B, 1, none⟩)) (by rfl) ?_
          exact (fun u hu => by subst hu; exact hld1)
        simp only [Act.put, List.getElem_toArray, List.getElem_cons_succ, List.getElem_cons_zero, List.setIfInBounds_toArray, List.set_cons_zero, List.set_cons_succ]
        refine L_take (i := 8) (v := .pointer (some ⟨sb, q * 65, none⟩)) rfl rfl (by kernel_rfl) (by decide) (by kernel_rfl) (by kernel_rfl) (by kernel_rfl) (by kernel_rfl) (fun _ _ _ h => h) (Or.inl ⟨by rfl, fun w' hw' => by subst hw'; go_simp⟩) rfl ?_
        simp only [Act.put, List.getElem_toArray, List.getElem_cons_succ, List.getElem_cons_zero, List.setIfInBounds_toArray, List.set_cons_zero, List.set_cons_succ]
        refine L_go (by kernel_rfl) (by kernel_rfl) ?_
        refine wpOp_step rfl ?_
        intro K hK
        rw [if_pos (by rfl)]
        refine wp_store_run 66 (.tmp 43) (.tmp 42) rfl (.pointer (some ⟨sb, q * 65, none⟩)) (.agg X) rfl rfl hst1 ?_
        refine hK _ _ ?_
        clear hK K hst1 hld1 cB c1
        refine wpAny_done (by kernel_rfl) ?_ _
        generalize W2.drew.setRow sb R = W3 at *
        go_wp2
        go_roundw
        case rel => exact ⟨k + 1, by omega, by go_num, HS3⟩
        case measure => simp [intOf]; omega
    · have ek : k = D.chg.length := by omega
      subst ek
      obtain ⟨s, hfin, hd, hkp, hbo⟩ := H.out
      clear H hbo
      rw [List.drop_length] at hfin
      have hsf : s = fin := hfin
      subst hsf
      have j1 : ¬ (D.chg.length : Int) < D.chg.length := by omega
      have c0 : wr.drew.cell? ⟨p, 0, none⟩ = some (.slice (some ⟨nb, 0, none⟩) n n) := hd.p0
      have c1 : wr.drew.cell? ⟨p, 1, none⟩ = some (.slice (some ⟨sb, 0, none⟩) n n) := hd.p1
      have hcp := fun ty => copy_blocks wr.drew nb sb n D.now s hd.ok.nowL hd.ok.safeL hd.ok.nowO hd.ok.safeO hd.drew.now hd.drew.safe ty
      have hd2 := hd.drew.setNow s hd.ok.safeL hd.ok.safeO
      have hk2 := hkp.drew.setRow hd.drew.now (by simp [dkT]) hd.ln (rowOf Bk.cells s).toArray
      have HD2 : Hid (DkAt _ _ _ _ _ _ _ _) := hd2
      have HK2 : Hid (Keeps _ _ _ _) := hk2
      generalize (rowOf Bk.cells s).toArray = R at *
      clear hd2 hk2 hd hkp hfin
      go_wp2
      refine wp_region_drawn (by kernel_rfl) ?_
      refine wpAny_take (i := 0) (v := .pointer (some ⟨p, 0, none⟩)) rfl (by kernel_rfl) (by kernel_rfl) (by kernel_rfl) (fun _ _ _ h => h) (Or.inl ⟨by rfl, fun w => by go_simp⟩) ?_
      simp only [Act.put, List.getElem_toArray, List.getElem_cons_succ, List.getElem_cons_zero, List.setIfInBounds_toArray, List.set_cons_zero, List.set_cons_succ]
      refine wpAny_take (i := 1) (v := .pointer (some ⟨p, 0, none⟩)) rfl (by kernel_rfl) (by kernel_rfl) (by kernel_rfl) (fun _ _ _ h => h) (Or.inl ⟨by rfl, fun w => by go_simp⟩) ?_
      simp only [Act.put, List.getElem_toArray, List.getElem_cons_succ, List.getElem_cons_zero, List.setIfInBounds_toArray, List.set_cons_zero, List.set_cons_succ]
      refine wpAny_take (i := 2) (v := .pointer (some ⟨p, 0, none⟩)) rfl (by kernel_rfl) (by kernel_rfl) (by kernel_rfl) (fun _ _ _ h => h) (Or.inl ⟨by rfl, fun w => by go_simp⟩) ?_
      simp only [Act.put, List.getElem_toArray, List.getElem_cons_succ, List.getElem_cons_zero, List.setIfInBounds_toArray, List.set_cons_zero, List.set_cons_succ]
      refine wpAny_take (i := 4) (v := .pointer (some ⟨p, 0, none⟩)) rfl (by kernel_rfl) (by kernel_rfl) (by kernel_rfl) (fun _ _ _ h => h) (Or.inl ⟨by rfl, fun w => by go_simp⟩) ?_
      simp only [Act.put, List.getElem_toArray, List.getElem_cons_succ, List.getElem_cons_zero, List.setIfInBounds_toArray, List.set_cons_zero, List.set_cons_succ]
      refine wpAny_take (i := 5) (v := .pointer (some ⟨p, 0, none⟩)) rfl (by kernel_rfl) (by kernel_rfl) (by kernel_rfl) (fun _ _ _ h => h) (Or.inl ⟨by rfl, fun w => by go_simp⟩) ?_
      simp only [Act.put, List.getElem_toArray, List.getElem_cons_succ, List.getElem_cons_zero, List.setIfInBounds_toArray, List.set_cons_zero, List.set_cons_succ]
      refine wpAny_take (i := 6) (v := .pointer (some ⟨p, 1, none⟩)) rfl (by kernel_rfl) (by kernel_rfl) (by kernel_rfl) (fun _ _ _ h => h) (Or.inl ⟨by rfl, fun w => by go_simp⟩) ?_
      simp only [Act.put, List.getElem_toArray, List.getElem_cons_succ, List.getElem_cons_zero, List.setIfInBounds_toArray, List.set_cons_zero, List.set_cons_succ]
      refine any_of_L (g := 8) (T := fun u => u = wr.drew) _ _ _ _ ?_
      refine L_take (i := 3) (v := .slice (some ⟨nb, 0, none⟩) n n) rfl rfl (by kernel_rfl) (by decide) (by kernel_rfl) (by kernel_rfl) (by kernel_rfl) (by kernel_rfl) (fun _ _ _ h => h) (Or.inl ⟨by rfl, fun w' hw' => by subst hw'; go_simp⟩) rfl ?_
      simp only [Act.put, List.getElem_toArray, List.getElem_cons_succ, List.getElem_cons_zero, List.setIfInBounds_toArray, List.set_cons_zero, List.set_cons_succ]
      refine L_take (i := 7) (v := .slice (some ⟨sb, 0, none⟩) n n) rfl rfl (by kernel_rfl) (by decide) (by kernel_rfl) (by kernel_rfl) (by kernel_rfl) (by kernel_rfl) (fun _ _ _ h => h) (Or.inl ⟨by rfl, fun w' hw' => by subst hw'; go_simp⟩) rfl ?_
      simp only [Act.put, List.getElem_toArray, List.getElem_cons_succ, List.getElem_cons_zero, List.setIfInBounds_toArray, List.set_cons_zero, List.set_cons_succ]
      refine L_go (by kernel_rfl) (by kernel_rfl) ?_
      refine wpOp_step rfl ?_
      intro K hK
      rw [if_pos (by rfl)]
      refine wp_copy_run (.tmp 48) (.tmp 52) 44 44 (by rfl) (.slice (some ⟨nb, 0, none⟩) n n) (.slice (some ⟨sb, 0, none⟩) n n) (by rfl) (by rfl) (hcp _) ?_
      refine hK _ _ ?_
      clear hK K hcp c0 c1
      refine wpAny_done (by kernel_rfl) ?_ _
      generalize wr.drew.setRow nb R = W2 at *
      have c2 := HD2.out.p2
      have f2 := HD2.out.fz 2
      have hd3 := HD2.out.setNone
      have hk3 := HK2.out.setCell (o := 2) HD2.out.box (by simp [dkT]) HD2.out.lp (.slice none 0 0)
      have c3 := hd3.p3
      have f3 := hd3.fz 3
      have hd4 := hd3.setSteps 0
      have hk4 := hk3.setCell (o := 3) hd3.box (by simp [dkT]) hd3.lp (.int .i64 ((0 : Nat) : Int))
      have c4 := hd4.p4
      have f4 := hd4.fz 4
      have hd5 := hd4.setFail (-1)
      have hk5 := hk4.setCell (o := 4) hd4.box (by simp [dkT]) hd4.lp (.int .i64 (-1))
      have HD5 : Hid (DkAt _ _ _ _ _ _ _ _) := hd5
      have HK5 : Hid (Keeps _ _ _ _) := hk5
      clear hd3 hk3 hd4 hk4 hd5 hk5 HD2 HK2
      rw [Hcv.out] at c2
      simp only [Int.natCast_zero] at HD5 HK5 c4 f4
      go_wp2
      go_end0
      refine ⟨rfl, ?_, HK5.out⟩
      rw [HCR.out]
      exact HD5.out
end Go.Proofs.Ytidccclfngcpgaa
