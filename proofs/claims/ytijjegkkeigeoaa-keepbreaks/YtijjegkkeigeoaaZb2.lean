/-
  A log, numbers alone: records as bytes, and what is read of them.
-/
import Derived.Test.YtijjegkkeigeoaaZb1
import Derived.Lib.AppendStr
import Derived.Laws.BytesArg
import Derived.Laws.AppendOwnNone
import Derived.Lib.SliceRun
import Derived.Lib.SlBytesConst
import Derived.Test.YtijjegkkeigeoaaProg
namespace Go.Proofs.Ytijjegkkeigeoaa
set_option linter.unusedVariables false
set_option linter.unusedSimpArgs false
set_option maxRecDepth 100000
open Go.RowKit Go.Lib

/-- What is safe behind a crash: of the changes from number k on those that are marked are done. -/
def crashS (mk : List Bool) (torn : Int) : Nat → List Cg → List Bk → List Bk
  | _, [], s => s
  | k, c :: cs, s => crashS mk torn (k + 1) cs (if mk.getD k false = true then s.set c.at_ ⟨c.tgt.byt, decide ((k : Int) = torn)⟩ else s)
def Dk.crash (D : Dk) (keep : List Int) (torn : Int) : Dk :=
  ⟨crashS (markL keep D.chg.length) torn 0 D.chg D.safe, crashS (markL keep D.chg.length) torn 0 D.chg D.safe, [], 0, -1⟩
theorem crashS_ok (mk : List Bool) (torn : Int) (n : Nat) : ∀ (cs : List Cg) (k : Nat) (s : List Bk), s.length = n → (∀ x ∈ s, x.ok) → (∀ c ∈ cs, c.tgt.ok ∧ c.at_ < n) → (crashS mk torn k cs s).length = n ∧ ∀ x ∈ crashS mk torn k cs s, x.ok
  | [], _, s, h1, h2, _ => ⟨h1, h2⟩
  | c :: cs, k, s, h1, h2, h3 => by
    unfold crashS
    refine crashS_ok mk torn n cs (k + 1) _ ?_ ?_ (fun x hx => h3 x (by simp [hx]))
    · split
      · rw [List.length_set]; exact h1
      · exact h1
    · intro x hx
      split at hx
      · rcases List.mem_or_eq_of_mem_set hx with hx | rfl
        · exact h2 x hx
        · exact (h3 c (by simp)).1
      · exact h2 x hx
theorem crashS_step {mk : List Bool} {torn : Int} {l : List Cg} {k : Nat} {s : List Bk} (hk : k < l.length) :
    crashS mk torn k (l.drop k) s = crashS mk torn (k + 1) (l.drop (k + 1)) (if mk.getD k false = true then s.set (l.getD k cg0).at_ ⟨(l.getD k cg0).tgt.byt, decide ((k : Int) = torn)⟩ else s) := by
  have hc : l.getD k cg0 = l[k] := by rw [List.getD_eq_getElem?_getD, List.getElem?_eq_getElem hk]; rfl
  rw [List.drop_eq_getElem_cons hk, hc]
  rfl

theorem set_torn (c : Cg) (h : c.tgt.ok) (b : Bool) : c.cells.toArray.setIfInBounds 65 (.bool b) = (Cg.mk c.at_ ⟨c.tgt.byt, b⟩).cells.toArray := by
  have hl : (byC c.tgt.byt).length = 64 := by rw [byC_length]; exact h
  simp only [List.setIfInBounds_toArray, Cg.cells, Bk.cells]
  congr 1
  rw [List.set_cons_succ]
  congr 1
  rw [List.set_append_right _ _ (by rw [hl]; exact Nat.le_refl _), hl]
  rfl

/-- A change's cells, in its row. -/
theorem chg_range {w : World} {g : Nat} {cur : Array Value} {t : TypeId} {l : List Cg} (h : w.heap[g]? = some (.cells cur t (0, 0))) (hr : cur.toList.take (l.length * 66) = rowOf Cg.cells l) (ho : ∀ c ∈ l, c.tgt.ok) (k : Nat) (hk : k < l.length) : w.rangeAt g (k * 66) (l.getD k cg0).cells := by
  intro j v hv
  have hc : (l.getD k cg0) = l[k] := by rw [List.getD_eq_getElem?_getD, List.getElem?_eq_getElem hk]; rfl
  rw [hc] at hv
  have hj : j < 66 := by
    have := (List.getElem?_eq_some_iff.1 hv).1
    rw [Cg.cells_length (ho _ (List.getElem_mem hk))] at this
    exact this
  have e := rowOf_get Cg.cells 66 l k j hk (fun x hx => Cg.cells_length (ho x hx)) hj
  rw [← hr, List.getElem?_take, if_pos (by omega)] at e
  rw [cell_of_row w g _ _ t (0, 0) h, ← Array.getElem?_toList, e]
  exact hv

set_option maxHeartbeats 8000000 in
theorem crash_any (lo p nb sb : Nat) (cv : Value) (n : Nat) (D : Dk) (a : Option Addr) (keep : List Int) (cap : Nat) (torn : Int) (w : World) (h : DkAt w lo p nb sb cv n D) (hlo : lo ≤ w.heap.size) (hc0 : D.chg.length ≤ 1000000) (hkl : keep.length ≤ 9223372036854775807) (hin : IsIn w a keep cap) :
    Calls Try.prog 11 #[.pointer (some ⟨p, 0, none⟩), .slice a keep.length cap, .int .i64 torn] w fun e w' => e = .returned (.tuple #[]) ∧ Hid (DkAt w' lo p nb sb (.slice none 0 0) n (D.crash keep torn) ∧ Keeps lo dkT w w') := by
  have HM : Hid (Calls _ _ _ _ _) := marked_any a keep cap D.chg.length w hin hc0 hkl
  have HD : Hid (DkAt w lo p nb sb cv n D) := h
  obtain ⟨av, cpv, hcv⟩ : ∃ av cpv, cv = .slice av D.chg.length cpv := by
    rcases h.chg.2 with ⟨rfl, e⟩ | ⟨g1, c1, cur, rfl, _⟩
    · exact ⟨none, 0, by rw [e]⟩
    · exact ⟨_, _, rfl⟩
  have c2 := h.p2
  rw [hcv] at c2
  have HF : Hid (crashS (markL keep D.chg.length) torn 0 D.chg D.safe = (D.crash keep torn).safe) := rfl
  have HCO : Hid (∀ c ∈ D.chg, c.tgt.ok ∧ c.at_ < n) := h.ok.chgO
  have HFo : Hid ((D.crash keep torn).safe.length = n ∧ ∀ x ∈ (D.crash keep torn).safe, x.ok) := crashS_ok _ _ _ _ _ _ h.ok.safeL h.ok.safeO h.ok.chgO
  have HCR : Hid (D.crash keep torn = ⟨(D.crash keep torn).safe, (D.crash keep torn).safe, [], 0, -1⟩) := rfl
  generalize D.crash keep torn = DC at *
  generalize DC.safe = fin at *
  generalize hmk : markL keep D.chg.length = mk at *
  have HML : Hid (mk.length = D.chg.length) := by rw [← hmk]; exact markL_length _ _
  clear hin hmk
  go_enter Try.func11, Try.ntmps11
  go_wp2_with fail
  refine HM.out.mono ?_
  rintro e w1 ⟨rfl, hrow, hb1⟩
  clear HM c2
  have hd1 := HD.out.below hb1
  have hk1 : Keeps lo dkT w w1 := Keeps.of_below hb1
  have c2 := hd1.p2
  rw [hcv] at c2
  have HR1 : Hid (BoRow w1 w.heap.size mk) := hrow
  have HD1 : Hid (DkAt w1 lo p nb sb cv n D) := hd1
  have HK1 : Hid (Keeps lo dkT w w1) := hk1
  have Hcv : Hid (cv = .slice av D.chg.length cpv) := hcv
  clear hrow hb1 hd1 hk1 hcv h
  generalize w.heap.size = G at *
  go_wp2
  clear c2
  go_loopw [21] (fun i wr => ∃ k : Nat, k ≤ D.chg.length ∧ i = .int .i64 k ∧ Hid (∃ s, crashS mk torn k (D.chg.drop k) s = fin ∧ DkAt wr lo p nb sb cv n { D with safe := s } ∧ Keeps lo dkT w wr ∧ BoRow wr G mk)) (fun i _ => D.chg.length - (RowKit.intOf i).toNat)
  case atStart => exact ⟨0, Nat.zero_le _, rfl, D.safe, HF.out, HD1.out, HK1.out, HR1.out⟩
  case round =>
    obtain ⟨k, hk, rfl, H⟩ := hrel
    by_cases hlt : k < D.chg.length
    · obtain ⟨s, hfin, hd, hkp, hbo⟩ := H.out
      clear H
      have hgk : D.chg.getD k cg0 ∈ D.chg := by
        rw [List.getD_eq_getElem?_getD, List.getElem?_eq_getElem hlt]; exact List.getElem_mem hlt
      obtain ⟨hcok, hcat⟩ := HCO.out _ hgk
      rw [crashS_step hlt] at hfin
      have hldc : ∃ g1, av = some ⟨g1, 0, none⟩ ∧ (Instr.loadAt 74 (.pointer (some ⟨g1, k * 66, none⟩))).run Try.prog wr = .ok (.agg (D.chg.getD k cg0).cells.toArray) wr := by
        rcases hd.chg.2 with ⟨_, e⟩ | ⟨g1, c1, cur, e1, _, hh, _, _, _, ht⟩
        · simp only at e; omega
        · rw [Hcv.out] at e1
          cases e1
          exact ⟨g1, rfl, run_loadAt_mid wr g1 (k * 66) 74 _ _ (chg_range hh ht (fun c hc => (HCO.out c hc).1) k hlt) Try.underlying74 rfl (by rw [Cg.cells_length hcok]; exact change_size)⟩
      obtain ⟨g1, rfl, hld⟩ := hldc
      have hmkc := hbo.cell (i := k) (by rw [HML.out]; exact hlt)
      generalize D.chg.getD k cg0 = c at *
      have hal := alloc_change
      have hstn := fun W => run_storeAt_new (P := Try.prog) W 74 cg0.cells.toArray c.cells.toArray (by rw [List.size_toArray, Cg.cells_length hcok]; exact change_size) (by rw [List.size_toArray, List.size_toArray, Cg.cells_length bk0_ok, Cg.cells_length hcok]) (all_oneCell_toArray (Cg.cells_one _))
      generalize cg0.cells.toArray = C0 at *
      have hb1 := new_heap wr (.cells c.cells.toArray 74)
      have hbel1 := (Below.refl wr.heap.size wr).alloc (Nat.le_refl _) (.cells c.cells.toArray 74)
      have hm1 : (wr.alloc (.cells c.cells.toArray 74)).cell? ⟨G, k, none⟩ = some (.bool (mk.getD k false)) := (World.cell?_alloc_lt _ _ _ hbo.lt).trans hmkc
      have j0 : (0 : Int) ≤ k := by omega
      have j1 : (k : Int) < D.chg.length := by omega
      have HDr : Hid (DkAt wr lo p nb sb cv n { D with safe := s }) := hd
      have HKr : Hid (Keeps lo dkT w wr) := hkp
      have HBr : Hid (BoRow wr G mk) := hbo
      have Hfin : Hid (crashS mk torn (k + 1) (D.chg.drop (k + 1)) (if mk.getD k false = true then s.set c.at_ ⟨c.tgt.byt, decide ((k : Int) = torn)⟩ else s) = fin) := hfin
      have Hb1 : Hid (_ = _) := hb1
      have HB1 : Hid (Below _ _ _) := hbel1
      have Hcok : Hid (c.tgt.ok) := hcok
      generalize hC : c.cells.toArray = C at *
      have HCC : Hid (c.cells.toArray = C) := hC
      clear hd hkp hbo hfin hmkc hb1 hbel1 hcok hC hgk
      cases hmb : mk.getD k false
      · rw [hmb] at hm1 Hfin
        go_wp2_with (first | (refine wpList_load_run rfl 74 (.tmp 24) rfl (.pointer (some ⟨g1, k * 66, none⟩)) rfl hld ?_) | (refine wpList_alloc_run rfl 74 rfl (hal _) ?_) | (refine wpList_store_run rfl 74 (.tmp 8) (.tmp 25) rfl (.pointer (some ⟨wr.heap.size, 0, none⟩)) (.agg C) rfl rfl (hstn _) ?_))
        go_roundw
        case rel => exact ⟨k + 1, by omega, by go_num, s, Hfin.out, HDr.out.below HB1.out, HKr.out.trans (Keeps.of_below HB1.out), by have := HB1.out.block G HBr.out.lt; exact this.trans HBr.out⟩
        case measure => simp [RowKit.intOf]; omega
      · rw [hmb] at hm1 Hfin
        have Hfin2 : Hid (crashS mk torn (k + 1) (D.chg.drop (k + 1)) (s.set c.at_ ⟨c.tgt.byt, decide ((k : Int) = torn)⟩) = fin) := Hfin.out
        clear Hfin
        obtain ⟨tt, htt⟩ : ∃ tt : Bool, decide ((k : Int) = torn) = tt := ⟨_, rfl⟩
        have htt2 : ((k : Int) == torn) = tt := by rw [← htt]; rfl
        rw [htt] at Hfin2
        have h65 : C[65]? = some (.bool c.tgt.torn) := by
          have hk := Hcok.out
          unfold Bk.ok at hk
          rw [← HCC.out]
          simp only [List.getElem?_toArray, Cg.cells, Bk.cells, List.getElem?_cons_succ]
          rw [List.getElem?_append_right (by rw [byC_length, hk]; exact Nat.le_refl _), byC_length, hk]
          rfl
        obtain ⟨C', hC'⟩ : ∃ C', C.setIfInBounds 65 (.bool tt) = C' := ⟨_, rfl⟩
        obtain ⟨c', hc'⟩ : ∃ c', c' = Cg.mk c.at_ ⟨c.tgt.byt, tt⟩ := ⟨_, rfl⟩
        have HC' : Hid (C' = c'.cells.toArray) := by
          unfold Hid
          rw [← hC', ← HCC.out, set_torn c Hcok.out, hc']
        have Hc' : Hid (c' = Cg.mk c.at_ ⟨c.tgt.byt, tt⟩) := hc'
        clear hc' htt
        go_wp2_with (first | (refine wpList_load_run rfl 74 (.tmp 24) rfl (.pointer (some ⟨g1, k * 66, none⟩)) rfl hld ?_) | (refine wpList_alloc_run rfl 74 rfl (hal _) ?_) | (refine wpList_store_run rfl 74 (.tmp 8) (.tmp 25) rfl (.pointer (some ⟨wr.heap.size, 0, none⟩)) (.agg C) rfl rfl (hstn _) ?_))
        have hok' : c'.tgt.ok := by rw [Hc'.out]; exact Hcok.out
        have hat' : c'.at_ < n := by rw [Hc'.out]; exact hcat
        have hbel2 := (Below.refl wr.heap.size wr).alloc (Nat.le_refl _) (.cells C' 74)
        have hb2 := new_heap wr (.cells C' 74)
        have hd2 := HDr.out.below hbel2
        have hk2 : Keeps lo dkT w (wr.alloc (.cells C' 74)) := HKr.out.trans (Keeps.of_below hbel2)
        have hr2 : BoRow (wr.alloc (.cells C' 74)) G mk := (hbel2.block G HBr.out.lt).trans HBr.out
        clear hld hal hstn hm1 h65 hC' HDr HKr HBr Hb1 HB1 HCC hbel2
        generalize wr.alloc (.cells C' 74) = W2 at *
        generalize wr.heap.size = B at *
        rw [HC'.out] at hb2
        have c1 : W2.drew.cell? ⟨p, 1, none⟩ = some (.slice (some ⟨sb, 0, none⟩) n n) := hd2.p1
        have cB : W2.drew.cell? ⟨B, 0, none⟩ = some (.int .i64 (c'.at_ : Int)) := by
          show W2.cell? _ = _
          rw [cell_of_row W2 B 0 _ _ (0, 0) hb2]
          simp [Cg.cells]
        have hld1 : (Instr.loadAt 72 (.pointer (some ⟨B, 1, none⟩))).run Try.prog W2.drew = .ok (.agg c'.tgt.cells.toArray) W2.drew := load_to hok' hb2
        have hst1 := store_block (w := W2.drew) (g := sb) hd2.drew.safe hd2.ok.safeO c'.at_ (by rw [hd2.ok.safeL]; exact hat') c'.tgt hok'
        have hd3 := hd2.drew.setSafe (s.set c'.at_ c'.tgt) (by rw [List.length_set]; exact hd2.ok.safeL) (fun x hx => by
          rcases List.mem_or_eq_of_mem_set hx with hx | rfl
          · exact hd2.ok.safeO x hx
          · exact hok')
        have hk3 := hk2.drew.setRow hd2.drew.safe (by simp [dkT]) hd2.ls (rowOf Bk.cells (s.set c'.at_ c'.tgt)).toArray
        have hr3 : BoRow (W2.drew.setRow sb (rowOf Bk.cells (s.set c'.at_ c'.tgt)).toArray) G mk := (setRow_other _ _ _ _ (fun e => by
          have h1 : W2.heap[G]? = _ := hr2
          rw [e, hd2.safe] at h1
          simp at h1)).trans hr2
        have hfin3 : crashS mk torn (k + 1) (D.chg.drop (k + 1)) (s.set c'.at_ c'.tgt) = fin := by rw [Hc'.out]; exact Hfin2.out
        have HS3 : Hid (∃ s', crashS mk torn (k + 1) (D.chg.drop (k + 1)) s' = fin ∧ DkAt (W2.drew.setRow sb (rowOf Bk.cells (s.set c'.at_ c'.tgt)).toArray) lo p nb sb cv n { D with safe := s' } ∧ Keeps lo dkT w (W2.drew.setRow sb (rowOf Bk.cells (s.set c'.at_ c'.tgt)).toArray) ∧ BoRow (W2.drew.setRow sb (rowOf Bk.cells (s.set c'.at_ c'.tgt)).toArray) G mk) := ⟨_, hfin3, hd3, hk3, hr3⟩
        have a0 : (0 : Int) ≤ c'.at_ := by omega
        have a1 : (c'.at_ : Int) < n := by omega
        simp only at hst1
        generalize (rowOf Bk.cells (s.set c'.at_ c'.tgt)).toArray = R at *
        generalize c'.tgt.cells.toArray = X at *
        generalize c'.at_ = q at *
        clear hd3 hk3 hr3 hfin3 hd2 hk2 hr2 hb2 Hfin2 hok' Hc' HC' Hcok
        try simp only [Act.put, List.setIfInBounds_toArray, List.set_cons_zero, List.set_cons_succ]
        refine wp_region_drawn (by kernel_rfl) ?_
        refine wpAny_take (i := 0) (v := .pointer (some ⟨p, 0, none⟩)) rfl (by kernel_rfl) (by kernel_rfl) (by kernel_rfl) (fun _ _ _ h => h) (Or.inl ⟨by rfl, fun w => by go_simp⟩) ?_
        simp only [Act.put, List.getElem_toArray, List.getElem_cons_succ, List.getElem_cons_zero, List.setIfInBounds_toArray, List.set_cons_zero, List.set_cons_succ]
        refine wpAny_take (i := 1) (v := .pointer (some ⟨p, 0, none⟩)) rfl (by kernel_rfl) (by kernel_rfl) (by kernel_rfl) (fun _ _ _ h => h) (Or.inl ⟨by rfl, fun w => by go_simp⟩) ?_
        simp only [Act.put, List.getElem_toArray, List.getElem_cons_succ, List.getElem_cons_zero, List.setIfInBounds_toArray, List.set_cons_zero, List.set_cons_succ]
        refine wpAny_take (i := 2) (v := .pointer (some ⟨p, 1, none⟩)) rfl (by kernel_rfl) (by kernel_rfl) (by kernel_rfl) (fun _ _ _ h => h) (Or.inl ⟨by rfl, fun w => by go_simp⟩) ?_
        simp only [Act.put, List.getElem_toArray, List.getElem_cons_succ, List.getElem_cons_zero, List.setIfInBounds_toArray, List.set_cons_zero, List.set_cons_succ]
        refine wpAny_take (i := 4) (v := .pointer (some ⟨B, 0, none⟩)) rfl (by kernel_rfl) (by kernel_rfl) (by kernel_rfl) (fun _ _ _ h => h) (Or.inl ⟨by rfl, fun w => by go_simp⟩) ?_
        simp only [Act.put, List.getElem_toArray, List.getElem_cons_succ, List.getElem_cons_zero, List.setIfInBounds_toArray, List.set_cons_zero, List.set_cons_succ]
        refine wpAny_take (i := 6) (v := .pointer (some ⟨B, 1, none⟩)) rfl (by kernel_rfl) (by kernel_rfl) (by kernel_rfl) (fun _ _ _ h => h) (Or.inl ⟨by rfl, fun w => by go_simp⟩) ?_
        simp only [Act.put, List.getElem_toArray, List.getElem_cons_succ, List.getElem_cons_zero, List.setIfInBounds_toArray, List.set_cons_zero, List.set_cons_succ]
        refine any_of_L (g := 9) (T := fun u => u = W2.drew) _ _ _ _ ?_
        refine L_take (i := 3) (v := .slice (some ⟨sb, 0, none⟩) n n) rfl rfl (by kernel_rfl) (by decide) (by kernel_rfl) (by kernel_rfl) (by kernel_rfl) (by kernel_rfl) (fun _ _ _ h => h) (Or.inl ⟨by rfl, fun w' hw' => by subst hw'; go_simp⟩) rfl ?_
        simp only [Act.put, List.getElem_toArray, List.getElem_cons_succ, List.getElem_cons_zero, List.setIfInBounds_toArray, List.set_cons_zero, List.set_cons_succ]
        refine L_take (i := 5) (v := .int .i64 q) rfl rfl (by kernel_rfl) (by decide) (by kernel_rfl) (by kernel_rfl) (by kernel_rfl) (by kernel_rfl) (fun _ _ _ h => h) (Or.inl ⟨by rfl, fun w' hw' => by subst hw'; go_simp⟩) rfl ?_
        simp only [Act.put, List.getElem_toArray, List.getElem_cons_succ, List.getElem_cons_zero, List.setIfInBounds_toArray, List.set_cons_zero, List.set_cons_succ]
        refine L_take (i := 7) (v := .agg X) rfl rfl (by kernel_rfl) (by decide) (by kernel_rfl) (by kernel_rfl) (by kernel_rfl) (by kernel_rfl) (fun _ _ _ h => h) ?_ rfl ?_
        · refine yields_load_run (by rfl) 72 (.tmp 41) (by rfl) (.pointer (some ⟨B, 1, none⟩)) (by rfl) ?_
          exact (fun u hu => by subst hu; exact hld1)
        simp only [Act.put, List.getElem_toArray, List.getElem_cons_succ, List.getElem_cons_zero, List.setIfInBounds_toArray, List.set_cons_zero, List.set_cons_succ]
        refine L_take (i := 8) (v := .pointer (some ⟨sb, q * 65, none⟩)) rfl rfl (by kernel_rfl) (by decide) (by kernel_rfl) (by kernel_rfl) (by kernel_rfl) (by kernel_rfl) (fun _ _ _ h => h) (Or.inl ⟨by rfl, fun w' hw' => by subst hw'; go_simp⟩) rfl ?_
        simp only [Act.put, List.getElem_toArray, List.getElem_cons_succ, List.getElem_cons_zero, List.setIfInBounds_toArray, List.set_cons_zero, List.set_cons_succ]
        refine L_go (by kernel_rfl) (by kernel_rfl) ?_
        refine wpOp_step rfl ?_
        intro K hK
        rw [if_pos (by rfl)]
        refine wp_store_run 72 (.tmp 43) (.tmp 42) rfl (.pointer (some ⟨sb, q * 65, none⟩)) (.agg X) rfl rfl hst1 ?_
        refine hK _ _ ?_
        clear hK K hst1 hld1 cB c1
        refine wpAny_done (by kernel_rfl) ?_ _
        generalize W2.drew.setRow sb R = W3 at *
        go_wp2
        go_roundw
        case rel => exact ⟨k + 1, by omega, by go_num, HS3⟩
        case measure => simp [RowKit.intOf]; omega
    · have ek : k = D.chg.length := by omega
      subst ek
      obtain ⟨s, hfin, hd, hkp, hbo⟩ := H.out
      clear H hbo
      rw [List.drop_length] at hfin
      have hsf : s = fin := hfin
      subst hsf
      have j1 : ¬ (D.chg.length : Int) < D.chg.length := by omega
      have c0 : wr.drew.cell? ⟨p, 0, none⟩ = some (.slice (some ⟨nb, 0, none⟩) n n) := hd.p0
      have c1 : wr.drew.cell? ⟨p, 1, none⟩ = some (.slice (some ⟨sb, 0, none⟩) n n) := hd.p1
      have hcp := fun ty => copy_blocks wr.drew nb sb n D.now s hd.ok.nowL hd.ok.safeL hd.ok.nowO hd.ok.safeO hd.drew.now hd.drew.safe ty
      have hd2 := hd.drew.setNow s hd.ok.safeL hd.ok.safeO
      have hk2 := hkp.drew.setRow hd.drew.now (by simp [dkT]) hd.ln (rowOf Bk.cells s).toArray
      have HD2 : Hid (DkAt _ _ _ _ _ _ _ _) := hd2
      have HK2 : Hid (Keeps _ _ _ _) := hk2
      generalize (rowOf Bk.cells s).toArray = R at *
      clear hd2 hk2 hd hkp hfin
      go_wp2
      refine wp_region_drawn (by kernel_rfl) ?_
      refine wpAny_take (i := 0) (v := .pointer (some ⟨p, 0, none⟩)) rfl (by kernel_rfl) (by kernel_rfl) (by kernel_rfl) (fun _ _ _ h => h) (Or.inl ⟨by rfl, fun w => by go_simp⟩) ?_
      simp only [Act.put, List.getElem_toArray, List.getElem_cons_succ, List.getElem_cons_zero, List.setIfInBounds_toArray, List.set_cons_zero, List.set_cons_succ]
      refine wpAny_take (i := 1) (v := .pointer (some ⟨p, 0, none⟩)) rfl (by kernel_rfl) (by kernel_rfl) (by kernel_rfl) (fun _ _ _ h => h) (Or.inl ⟨by rfl, fun w => by go_simp⟩) ?_
      simp only [Act.put, List.getElem_toArray, List.getElem_cons_succ, List.getElem_cons_zero, List.setIfInBounds_toArray, List.set_cons_zero, List.set_cons_succ]
      refine wpAny_take (i := 2) (v := .pointer (some ⟨p, 0, none⟩)) rfl (by kernel_rfl) (by kernel_rfl) (by kernel_rfl) (fun _ _ _ h => h) (Or.inl ⟨by rfl, fun w => by go_simp⟩) ?_
      simp only [Act.put, List.getElem_toArray, List.getElem_cons_succ, List.getElem_cons_zero, List.setIfInBounds_toArray, List.set_cons_zero, List.set_cons_succ]
      refine wpAny_take (i := 4) (v := .pointer (some ⟨p, 0, none⟩)) rfl (by kernel_rfl) (by kernel_rfl) (by kernel_rfl) (fun _ _ _ h => h) (Or.inl ⟨by rfl, fun w => by go_simp⟩) ?_
      simp only [Act.put, List.getElem_toArray, List.getElem_cons_succ, List.getElem_cons_zero, List.setIfInBounds_toArray, List.set_cons_zero, List.set_cons_succ]
      refine wpAny_take (i := 5) (v := .pointer (some ⟨p, 0, none⟩)) rfl (by kernel_rfl) (by kernel_rfl) (by kernel_rfl) (fun _ _ _ h => h) (Or.inl ⟨by rfl, fun w => by go_simp⟩) ?_
      simp only [Act.put, List.getElem_toArray, List.getElem_cons_succ, List.getElem_cons_zero, List.setIfInBounds_toArray, List.set_cons_zero, List.set_cons_succ]
      refine wpAny_take (i := 6) (v := .pointer (some ⟨p, 1, none⟩)) rfl (by kernel_rfl) (by kernel_rfl) (by kernel_rfl) (fun _ _ _ h => h) (Or.inl ⟨by rfl, fun w => by go_simp⟩) ?_
      simp only [Act.put, List.getElem_toArray, List.getElem_cons_succ, List.getElem_cons_zero, List.setIfInBounds_toArray, List.set_cons_zero, List.set_cons_succ]
      refine any_of_L (g := 8) (T := fun u => u = wr.drew) _ _ _ _ ?_
      refine L_take (i := 3) (v := .slice (some ⟨nb, 0, none⟩) n n) rfl rfl (by kernel_rfl) (by decide) (by kernel_rfl) (by kernel_rfl) (by kernel_rfl) (by kernel_rfl) (fun _ _ _ h => h) (Or.inl ⟨by rfl, fun w' hw' => by subst hw'; go_simp⟩) rfl ?_
      simp only [Act.put, List.getElem_toArray, List.getElem_cons_succ, List.getElem_cons_zero, List.setIfInBounds_toArray, List.set_cons_zero, List.set_cons_succ]
      refine L_take (i := 7) (v := .slice (some ⟨sb, 0, none⟩) n n) rfl rfl (by kernel_rfl) (by decide) (by kernel_rfl) (by kernel_rfl) (by kernel_rfl) (by kernel_rfl) (fun _ _ _ h => h) (Or.inl ⟨by rfl, fun w' hw' => by subst hw'; go_simp⟩) rfl ?_
      simp only [Act.put, List.getElem_toArray, List.getElem_cons_succ, List.getElem_cons_zero, List.setIfInBounds_toArray, List.set_cons_zero, List.set_cons_succ]
      refine L_go (by kernel_rfl) (by kernel_rfl) ?_
      refine wpOp_step rfl ?_
      intro K hK
      rw [if_pos (by rfl)]
      refine wp_copy_run (.tmp 48) (.tmp 52) 45 45 (by rfl) (.slice (some ⟨nb, 0, none⟩) n n) (.slice (some ⟨sb, 0, none⟩) n n) (by rfl) (by rfl) (hcp _) ?_
      refine hK _ _ ?_
      clear hK K hcp c0 c1
      refine wpAny_done (by kernel_rfl) ?_ _
      generalize wr.drew.setRow nb R = W2 at *
      have c2 := HD2.out.p2
      have f2 := HD2.out.fz 2
      have hd3 := HD2.out.setNone
      have hk3 := HK2.out.setCell (o := 2) HD2.out.box (by simp [dkT]) HD2.out.lp (.slice none 0 0)
      have c3 := hd3.p3
      have f3 := hd3.fz 3
      have hd4 := hd3.setSteps 0
      have hk4 := hk3.setCell (o := 3) hd3.box (by simp [dkT]) hd3.lp (.int .i64 ((0 : Nat) : Int))
      have c4 := hd4.p4
      have f4 := hd4.fz 4
      have hd5 := hd4.setFail (-1)
      have hk5 := hk4.setCell (o := 4) hd4.box (by simp [dkT]) hd4.lp (.int .i64 (-1))
      have HD5 : Hid (DkAt _ _ _ _ _ _ _ _) := hd5
      have HK5 : Hid (Keeps _ _ _ _) := hk5
      clear hd3 hk3 hd4 hk4 hd5 hk5 HD2 HK2
      rw [Hcv.out] at c2
      simp only [Int.natCast_zero] at HD5 HK5 c4 f4
      go_wp2
      go_end0
      refine ⟨rfl, ?_, HK5.out⟩
      rw [HCR.out]
      exact HD5.out
end Go.Proofs.Ytijjegkkeigeoaa

namespace Go.Proofs.Ytijjegkkeigeoaa
set_option linter.unusedVariables false
set_option linter.unusedSimpArgs false
set_option maxRecDepth 100000
open Go.RowKit Go.Lib

def txt (l : List UInt8) : ByteArray := ⟨l.toArray⟩
theorem strNums (l : List UInt8) : strOfNums (l.map fun b => (b.toNat : Int)) = txt l := by
  unfold strOfNums txt
  congr 1
  congr 1
  rw [List.map_map]
  conv => rhs; rw [← List.map_id l]
  apply List.map_congr_left
  intro b _
  simp
/-- 'string(b)'. -/
theorem run_str (W : World) (a : Option Addr) (l : List UInt8) (cap : Nat) (h : IsBy W a l cap) : (convert 52 9 (.slice a l.length cap)).run Try.prog W = .ok (.string (txt l)) W := by
  rcases h.lies with rfl | ⟨b, off, rfl, hlt, hc⟩
  · cases a with
    | none => exact run_convert_bytes_nil W 52 5 Try.underlying52 Try.underlying5 0 cap 9 Try.underlying9
    | some ad =>
      rw [run_convert_bytes_string W 52 9 5 _ _ _ Try.underlying52 Try.underlying5 Try.underlying9]
      have := run_bytesToString (P := Try.prog) W ad 0 cap [] (by
        have := run_loadCells_list (P := Try.prog) W ad [] (fun j v hj => by simp at hj)
        simpa using this)
      exact this
  · rw [run_convert_bytes_arg W 52 5 Try.underlying52 Try.underlying5 b off l.length cap (l.map fun b => (b.toNat : Int)) (by simp) (fun i hi => by
      rw [hc i hi]
      simp [List.getD, hi]) 9 Try.underlying9, strNums]
/-- A beginning of what was read. -/
theorem isBy_row {W : World} {g : Nat} {l : List UInt8} {t : TypeId} (h : W.heap[g]? = some (.cells (byC l).toArray t (0, 0))) (m : Nat) (hm : m ≤ l.length) (cap : Nat) (hc : m ≤ cap) : IsBy W (some ⟨g, 0, none⟩) (l.take m) cap := by
  refine ⟨by rw [List.length_take]; omega, .inr ⟨g, 0, rfl, (Array.getElem?_eq_some_iff.1 h).1, fun k hk => ?_⟩⟩
  rw [List.length_take] at hk
  rw [cell_of_row W g _ _ t (0, 0) h]
  have : k < l.length := by omega
  simp [byC, this]
theorem padB_take (l : List UInt8) : (padB l).take l.length = l := by simp [padB]

/-- A disk that a call has made. -/
def Tn (w W : World) (p nb sb : Nat) (cv : Value) (n : Nat) (D : Dk) : Prop := DkAt W w.heap.size p nb sb cv n D ∧ Below w.heap.size w W
theorem Tn.still {w W U : World} {p nb sb : Nat} {cv : Value} {n : Nat} {D : Dk} (h : Tn w W p nb sb cv n D) (hs : Still W U) : Tn w U p nb sb cv n D := ⟨h.1.still hs, h.2.trans (hs.below _)⟩
theorem Tn.below {w W U : World} {p nb sb : Nat} {cv : Value} {n : Nat} {D : Dk} (h : Tn w W p nb sb cv n D) (hs : Below W.heap.size W U) : Tn w U p nb sb cv n D := ⟨h.1.below hs, h.2.trans (hs.mono h.2.size)⟩
theorem Tn.keeps {w W U : World} {p nb sb : Nat} {cv cv' : Value} {n : Nat} {D D' : Dk} (h : Tn w W p nb sb cv n D) (hd : DkAt U w.heap.size p nb sb cv' n D') (hk : Keeps w.heap.size dkT W U) : Tn w U p nb sb cv' n D' := ⟨hd, h.2.trans (hk.below h.2.size)⟩

section
variable {w W : World} {p nb sb : Nat} {cv : Value} {n : Nat} {D : Dk}
theorem tn_write (h : Tn w W p nb sb cv n D) (i : Nat) (a : Option Addr) (l : List UInt8) (cap : Nat) (hf : D.failing = false) (hi : i < n) (hl : l.length ≤ 64) (hn : n ≤ 200) (hs0 : D.steps ≤ 1000000) (hc0 : D.chg.length ≤ 1000000) (hB : IsBy W a l cap) :
    Calls Try.prog 16 #[.pointer (some ⟨p, 0, none⟩), .int .i64 (i : Int), .slice a l.length cap] W fun e w' => e = .returned .nilIface ∧ ∃ cv', Hid (Tn w w' p nb sb cv' n (D.write i l)) ∧ Hid (Keeps w.heap.size dkT W w') := by
  refine (write_ok w.heap.size p nb sb cv n D i a l cap W h.1 h.2.size hf hi hl hn hs0 hc0 hB).mono ?_
  rintro e w' ⟨rfl, cv', hd, hk⟩
  exact ⟨rfl, cv', h.keeps hd hk, hk⟩
theorem tn_writeBad (h : Tn w W p nb sb cv n D) (i : Int) (a : Option Addr) (l : List UInt8) (cap : Nat) (h0 : wrBad D n i l ≠ 0) :
    Calls Try.prog 16 #[.pointer (some ⟨p, 0, none⟩), .int .i64 i, .slice a l.length cap] W fun e w' => e = .returned (enE (wrBad D n i l)) ∧ Hid (Tn w w' p nb sb cv n D) ∧ Hid (Still W w') := by
  refine (write_bad w.heap.size p nb sb cv n D i a l cap W h.1 h0).mono ?_
  rintro e w' ⟨rfl, hs⟩
  exact ⟨rfl, h.still hs, hs⟩
theorem tn_readTorn (h : Tn w W p nb sb cv n D) (i : Nat) (hi : i < n) (ht : (D.now.getD i bk0).torn = true) :
    Calls Try.prog 33 #[.pointer (some ⟨p, 0, none⟩), .int .i64 (i : Int)] W fun e w' => e = .returned (.tuple #[.slice none 0 0, enE 9]) ∧ Hid (Tn w w' p nb sb cv n D) ∧ Hid (Still W w') := by
  refine (read_torn w.heap.size p nb sb cv n D i W h.1 hi ht).mono ?_
  rintro e w' ⟨rfl, hs⟩
  exact ⟨rfl, h.still hs, hs⟩
theorem tn_read (h : Tn w W p nb sb cv n D) (i : Nat) (hi : i < n) (ht : (D.now.getD i bk0).torn = false) :
    Calls Try.prog 33 #[.pointer (some ⟨p, 0, none⟩), .int .i64 (i : Int)] W fun e w' => e = .returned (.tuple #[.slice (some ⟨W.heap.size, 0, none⟩) 64 64, .nilIface]) ∧ Hid (Tn w w' p nb sb cv n D) ∧ Hid (w'.heap[W.heap.size]? = some (.cells (byC (D.now.getD i bk0).byt).toArray 5 (0, 0))) ∧ Hid (Below W.heap.size W w') := by
  refine (read_ok w.heap.size p nb sb cv n D i W h.1 hi ht).mono ?_
  rintro e w' ⟨rfl, h1, h2⟩
  exact ⟨rfl, h.below h2, h1, h2⟩
theorem tn_crash (h : Tn w W p nb sb cv n D) (a : Option Addr) (keep : List Int) (cap : Nat) (torn : Int) (hc0 : D.chg.length ≤ 1000000) (hkl : keep.length ≤ 9223372036854775807) (hin : IsIn W a keep cap) :
    Calls Try.prog 11 #[.pointer (some ⟨p, 0, none⟩), .slice a keep.length cap, .int .i64 torn] W fun e w' => e = .returned (.tuple #[]) ∧ Hid (Tn w w' p nb sb (.slice none 0 0) n (D.crash keep torn)) ∧ Hid (Keeps w.heap.size dkT W w') := by
  refine (crash_any w.heap.size p nb sb cv n D a keep cap torn W h.1 h.2.size hc0 hkl hin).mono ?_
  rintro e w' ⟨rfl, hh⟩
  exact ⟨rfl, h.keeps hh.out.1 hh.out.2, hh.out.2⟩
end
theorem tn_new (n : Nat) (w : World) (h1 : 1 ≤ n) (h2 : n ≤ 200) :
    Calls Try.prog 4 #[.int .i64 (n : Int)] w fun e w' => ∃ p nb sb, e = .returned (.tuple #[.pointer (some ⟨p, 0, none⟩), .nilIface]) ∧ Hid (Tn w w' p nb sb (.slice none 0 0) n (dk0 n)) := by
  refine (new_ok n w h1 h2).mono ?_
  rintro e w' ⟨p, nb, sb, rfl, hd, hb⟩
  exact ⟨p, nb, sb, rfl, hd, hb⟩
theorem IsBy.belowN {w w' : World} {n : Nat} {a : Option Addr} {l : List UInt8} {cap : Nat} (h : IsBy w a l cap) (hb : Below n w w') (hn : w.heap.size ≤ n) : IsBy w' a l cap := h.below (hb.mono hn)
theorem isIn_new (W : World) (l : List Int) (t : TypeId) : IsIn (W.alloc (.cells (l.map (Value.int .i64)).toArray t)) (some ⟨W.heap.size, 0, none⟩) l l.length := by
  refine ⟨Nat.le_refl _, .inr ⟨W.heap.size, 0, rfl, by simp, fun k hk => ?_⟩⟩
  rw [cell_of_row _ _ _ _ _ (0, 0) (new_heap W _)]
  simp [hk]
end Go.Proofs.Ytijjegkkeigeoaa

namespace Go.Proofs.Ytijjegkkeigeoaa
set_option linter.unusedVariables false
set_option linter.unusedSimpArgs false
set_option maxRecDepth 100000
open Go.RowKit Go.Lib

/-- So many bytes, rising. -/
def bysN (n m : Nat) : List UInt8 := (List.range m).map fun i => UInt8.ofNat (i + n)
theorem bysN_length (n m : Nat) : (bysN n m).length = m := by simp [bysN]
theorem bysN_succ (n m : Nat) : bysN n (m + 1) = bysN n m ++ [UInt8.ofNat (m + n)] := by simp [bysN, List.range_succ]
/-- How many bytes are made of a number. -/
def cutN (n : Int) : Nat := if n < 0 then 0 else if 65 < n then 65 else n.toNat
theorem cutN_le (n : Int) : cutN n ≤ 65 := by unfold cutN; split <;> (try split) <;> omega
def bysOf (n : Int) : List UInt8 := bysN (cutN n) (cutN n)
theorem bysOf_length (n : Int) : (bysOf n).length = cutN n := bysN_length _ _

/-- Bytes in a row of one's own. -/
def ByRow (w : World) (n : Nat) (v : Value) (l : List UInt8) : Prop := w.ownsRow n 5 1 v l.length (byC l)
theorem ByRow.nil (w : World) (n : Nat) : ByRow w n (.slice none 0 0) [] := World.ownsRow_nil _ _ _ _
theorem ByRow.isBy {W : World} {n0 : Nat} {v : Value} {l : List UInt8} (h : ByRow W n0 v l) : ∃ a cap, v = .slice a l.length cap ∧ IsBy W a l cap := by
  obtain ⟨hlen, ⟨rfl, h0⟩ | ⟨g, cap, cur, rfl, hb, hg, hc, hm, hs, ht⟩⟩ := h
  · have : l = [] := List.eq_nil_of_length_eq_zero h0
    subst this
    exact ⟨none, 0, rfl, Nat.le_refl _, .inl rfl⟩
  · refine ⟨_, cap, rfl, hc, .inr ⟨g, 0, rfl, (Array.getElem?_eq_some_iff.1 hg).1, ?_⟩⟩
    intro k hk
    have e1 : (byC l)[k]? = cur[k]? := by
      rw [← ht, List.getElem?_take, if_pos (by omega)]
      simp
    rw [← byC_get l k hk, e1]
    simp [World.cell?, hg]
theorem u8_tinfo : ∃ q, Try.prog.info? 5 = some q ∧ q.zero = some (.int .u8 0) ∧ q.size = 1 ∧ q.bytes = 1 := by
  obtain ⟨q, hq, hz⟩ := Option.map_eq_some_iff.1 u8_info
  simp only [Prod.mk.injEq] at hz
  exact ⟨q, hq, hz.1, hz.2.1, hz.2.2⟩

/-- Behind a Write, with an error or without. -/
def Dk.wr (D : Dk) (n : Nat) (i : Int) (l : List UInt8) : Dk := if wrBad D n i l = 0 then D.write i.toNat l else D
theorem wrBad_zero {D : Dk} {n : Nat} {i : Int} {l : List UInt8} (h : wrBad D n i l = 0) : D.failing = false ∧ hasK n i = true ∧ l.length ≤ 64 := by
  unfold wrBad at h
  split at h
  · cases h
  · rename_i h1
    split at h
    · cases h
    · rename_i h2
      split at h
      · cases h
      · exact ⟨by simpa using h1, by simpa using h2, by omega⟩
theorem tn_wr {w W : World} {p nb sb : Nat} {cv : Value} {n : Nat} {D : Dk} (h : Tn w W p nb sb cv n D) (i : Int) (a : Option Addr) (l : List UInt8) (cap : Nat) (hn : n ≤ 200) (hs0 : D.steps ≤ 1000000) (hc0 : D.chg.length ≤ 1000000) (hB : IsBy W a l cap) :
    Calls Try.prog 16 #[.pointer (some ⟨p, 0, none⟩), .int .i64 i, .slice a l.length cap] W fun e w' => e = .returned (enE (wrBad D n i l)) ∧ ∃ cv', Hid (Tn w w' p nb sb cv' n (D.wr n i l)) ∧ Hid (Keeps w.heap.size dkT W w') := by
  by_cases h0 : wrBad D n i l = 0
  · obtain ⟨h1, h2, h3⟩ := wrBad_zero h0
    have h2' : 0 ≤ i ∧ i < n := by simpa [hasK] using h2
    have e : D.wr n i l = D.write i.toNat l := if_pos h0
    rw [e, h0, enE_zero]
    have := tn_write h i.toNat a l cap h1 (by omega) h3 hn hs0 hc0 hB
    rwa [Int.toNat_of_nonneg h2'.1] at this
  · have e : D.wr n i l = D := if_neg h0
    rw [e]
    refine (tn_writeBad h i a l cap h0).mono ?_
    rintro e w' ⟨rfl, h1, h2⟩
    exact ⟨rfl, cv, h1, h2.out.keeps _ _⟩
/-- How much has been done, at most. -/
structure Dk.few (D : Dk) (k : Nat) : Prop where
  steps : D.steps ≤ k
  chg : D.chg.length ≤ k
theorem Dk.few.wr {D : Dk} {k : Nat} (h : D.few k) (n : Nat) (i : Int) (l : List UInt8) : (D.wr n i l).few (k + 1) := by
  unfold Dk.wr
  split
  · exact ⟨by simp only [Dk.write]; have := h.steps; omega, by simp only [Dk.write, List.length_append, List.length_singleton]; have := h.chg; omega⟩
  · exact ⟨by have := h.steps; omega, by have := h.chg; omega⟩
theorem Dk.fail_wr (D : Dk) (n : Nat) (i : Int) (l : List UInt8) : (D.wr n i l).fail = D.fail := by
  unfold Dk.wr
  split <;> rfl
theorem failing_neg {D : Dk} (h : D.fail < 0) : D.failing = false := by
  unfold Dk.failing
  exact decide_eq_false (by omega)
theorem tn_flush {w W : World} {p nb sb : Nat} {cv : Value} {n : Nat} {D : Dk} (h : Tn w W p nb sb cv n D) (hf : D.failing = false) (hs0 : D.steps ≤ 1000000) :
    Calls Try.prog 17 #[.pointer (some ⟨p, 0, none⟩)] W fun e w' => e = .returned .nilIface ∧ Hid (Tn w w' p nb sb (.slice none 0 0) n D.flush) ∧ Hid (Keeps w.heap.size dkT W w') := by
  refine (flush_ok w.heap.size p nb sb cv n D W h.1 hf hs0).mono ?_
  rintro e w' ⟨rfl, hd, hk⟩
  exact ⟨rfl, h.keeps hd hk, hk⟩
theorem ByRow.isBy' {W : World} {n0 : Nat} {a : Option Addr} {m cap : Nat} {l : List UInt8} (h : ByRow W n0 (.slice a m cap) l) : IsBy W a l cap := by
  obtain ⟨a', c', e, hs⟩ := h.isBy
  cases e
  exact hs
theorem ByRow.keeps {w W : World} {lo n0 : Nat} {v : Value} {l : List UInt8} (h : ByRow w n0 v l) (hk : Keeps lo dkT w W) : ByRow W n0 v l :=
  ownsRow_keep h (fun b cs e _ => (hk.row e (by simp [dkT])).trans e.symm)
theorem ByRow.below {w W : World} {n0 : Nat} {v : Value} {l : List UInt8} (h : ByRow w n0 v l) (hb : Below w.heap.size w W) : ByRow W n0 v l :=
  ownsRow_keep h (fun b cs e _ => hb.block b (Array.getElem?_eq_some_iff.1 e).1)
end Go.Proofs.Ytijjegkkeigeoaa

namespace Go.Proofs.Ytijjegkkeigeoaa
set_option linter.unusedVariables false
set_option linter.unusedSimpArgs false
set_option maxRecDepth 100000
open Go.RowKit Go.Lib

theorem ByRow.own {W : World} {n : Nat} {v : Value} {l : List UInt8} (h : ByRow W n v l) : ∀ j, v.ownBlock = some j → n ≤ j := by
  intro j hj
  rcases h.2 with ⟨h1, _⟩ | ⟨g1, c1, cur, h1, hg1, _⟩
  · rw [h1] at hj; cases hj
  · rw [h1] at hj; cases hj; exact hg1
theorem grown_below {w w' : World} {base : Nat} {v : Value} (hg : w.grownBy w' v.ownBlock) (hb : base ≤ w.heap.size) (ho : ∀ j, v.ownBlock = some j → base ≤ j) : Below base w w' := (Below.refl base w).grown hg hb ho
/-- 'append(v, x...)', v a row of one's own. -/
theorem run_appB (w : World) (ty : TypeId) (base : Nat) (v : Value) (l : List UInt8) (a : Option Addr) (m : List UInt8) (cap : Nat) (hr : ByRow w base v l) (hm : IsBy w a m cap) (hc : cap = 0 ∨ a ≠ none) (hb : base ≤ w.heap.size) (hlen : l.length + m.length ≤ 1000000) :
    ∃ v' w', (Builtin.append_ #[52, 52] ty #[v, .slice a m.length cap]).run Try.prog w = .ok v' w' ∧ ByRow w' base v' (l ++ m) ∧ Below base w w' ∧ (∀ b, b < w.heap.size → v.ownBlock ≠ some b → w'.heap[b]? = w.heap[b]?) ∧ (v'.ownBlock = v.ownBlock ∨ v'.ownBlock = some w.heap.size) := by
  obtain ⟨qi, hqi, hqz⟩ := u8_tinfo
  cases a with
  | none =>
    have hm0 : m = [] := by
      rcases hm.lies with h | ⟨b, off, e, _⟩
      · exact h
      · cases e
    subst hm0
    have hc0 : cap = 0 := by rcases hc with h | h; exact h; exact absurd rfl h
    subst hc0
    refine ⟨v, w, run_append_owned_none (P := Try.prog) (w := w) base 52 ty 5 qi 1 Try.underlying52 hqi v _ _ hr, by simpa using hr, Below.refl _ _, fun _ _ _ => rfl, .inl rfl⟩
  | some ad =>
    obtain ⟨v', w', h1, h2, h3, _, h5⟩ := run_append_own_at (P := Try.prog) w base 52 ty 5 qi (.int .u8 0) 1 1 Try.underlying52 hqi hqz.1 hqz.2.1 hqz.2.2 rfl (by omega) v l.length (byC l) hr ad m.length cap (byC m) (by rw [byC_length]; omega) (fun j u hj => by
      have hjl : j < m.length := by
        have := (List.getElem?_eq_some_iff.1 hj).1
        rwa [byC_length] at this
      rcases hm.lies with h | ⟨b, off, e, hlt, hk⟩
      · subst h; simp at hjl
      · cases e
        rw [Addr.add_mid, hk j hjl]
        rw [byC_get m j hjl] at hj
        exact hj) (byC_one m) (by unfold maxLen; omega) (by omega) hb
    refine ⟨v', w', h1, ?_, grown_below h3 hb hr.own, fun b hlt hne => h3.block b hlt (fun e => hne e.symm), h5⟩
    unfold ByRow
    rw [List.length_append, byC_append]
    exact h2
theorem wpList_appB {w : World} {ops : Array Oper} {rest : List Oper} {o : Oper} {a : Act} {Q : Exit → Act → World → Prop} (hgd : o.guard = none) (d s : Operand) (ho : o.op = .call { callee := .builtin .append, args := #[d, s], argTypes := #[52, 52] })
    (base : Nat) (v : Value) (l : List UInt8) (ad : Option Addr) (m : List UInt8) (k cap : Nat) (hd : a.eval d = v) (hs : a.eval s = .slice ad k cap) (hk : m.length = k) (hr : ByRow w base v l) (hm : IsBy w ad m cap) (hc : cap = 0 ∨ ad ≠ none) (hb : base ≤ w.heap.size) (hlen : l.length + m.length ≤ 1000000)
    (h : ∀ v' w', ByRow w' base v' (l ++ m) → Below base w w' → (∀ b, b < w.heap.size → v.ownBlock ≠ some b → w'.heap[b]? = w.heap[b]?) → (v'.ownBlock = v.ownBlock ∨ v'.ownBlock = some w.heap.size) → wpList Try.prog ops Q rest (a.put o.dst v') w') : wpList Try.prog ops Q (o :: rest) a w := by
  subst hk
  obtain ⟨v', w', h1, h2, h3, h4, h5⟩ := run_appB w o.type base v l ad m cap hr hm hc hb hlen
  exact wpList_append_run hgd d s 52 52 ho v _ hd hs h1 (h v' w' h2 h3 h4 h5)
/-- A literal of bytes. -/
theorem byRow_new (W : World) (l : List UInt8) (base : Nat) (hb : base ≤ W.heap.size) (hl : l.length ≤ 1000000) : ByRow (W.alloc (.cells (byC l).toArray 5)) base (.slice (some ⟨W.heap.size, 0, none⟩) l.length l.length) l := by
  refine ⟨by rw [byC_length]; omega, .inr ⟨W.heap.size, l.length, (byC l).toArray, rfl, hb, new_heap W _, Nat.le_refl _, by unfold maxLen; omega, by simp [byC_length], ?_⟩⟩
  rw [List.toList_toArray, Nat.mul_one, ← byC_length l, List.take_length]
theorem isBy_new (W : World) (l : List UInt8) : IsBy (W.alloc (.cells (byC l).toArray 5)) (some ⟨W.heap.size, 0, none⟩) l l.length := by
  refine ⟨Nat.le_refl _, .inr ⟨W.heap.size, 0, rfl, by simp, fun k hk => ?_⟩⟩
  rw [Nat.zero_add, cell_of_row _ _ _ _ _ (0, 0) (new_heap W _)]
  simp [byC, hk]

/-- Bytes that no one turns. -/
def OwnBy (W : World) (v : Value) (l : List UInt8) : Prop := ∃ a cap, v = .slice a l.length cap ∧ l.length ≤ cap ∧ (a = none → cap = 0) ∧ (l = [] ∨ ∃ b off cs, a = some ⟨b, off, none⟩ ∧ W.heap[b]? = some (.cells cs 5 (0, 0)) ∧ ∀ k (h : k < l.length), cs[off + k]? = some (.int .u8 (l[k]'h).toNat))
theorem OwnBy.isBy {W : World} {v : Value} {l : List UInt8} (h : OwnBy W v l) : ∃ a cap, v = .slice a l.length cap ∧ (cap = 0 ∨ a ≠ none) ∧ IsBy W a l cap := by
  obtain ⟨a, cap, rfl, hc, hn, h⟩ := h
  refine ⟨a, cap, rfl, ?_, hc, ?_⟩
  · by_cases e : a = none
    · exact .inl (hn e)
    · exact .inr e
  rcases h with h | ⟨b, off, cs, e, hb, hk⟩
  · exact .inl h
  · refine .inr ⟨b, off, e, (Array.getElem?_eq_some_iff.1 hb).1, fun k h => ?_⟩
    rw [cell_of_row W b _ _ _ (0, 0) hb]
    exact hk k h
theorem OwnBy.of_row {W : World} {n : Nat} {v : Value} {l : List UInt8} (h : ByRow W n v l) : OwnBy W v l := by
  obtain ⟨hlen, ⟨rfl, h0⟩ | ⟨g, cap, cur, rfl, hb, hg, hc, hm, hs, ht⟩⟩ := h
  · have : l = [] := List.eq_nil_of_length_eq_zero h0
    subst this
    exact ⟨none, 0, rfl, Nat.le_refl _, fun _ => rfl, .inl rfl⟩
  · refine ⟨_, cap, rfl, hc, (fun e => by cases e), .inr ⟨g, 0, cur, rfl, hg, fun k hk => ?_⟩⟩
    have e1 : (byC l)[k]? = cur[k]? := by
      rw [← ht, List.getElem?_take, if_pos (by omega)]
      simp
    rw [Nat.zero_add, ← byC_get l k hk, e1]
set_option maxHeartbeats 2000000 in
theorem clone_any (a : Option Addr) (l : List UInt8) (cap : Nat) (w : World) (h : IsBy w a l cap) (hc : cap = 0 ∨ a ≠ none) (hl : l.length ≤ 1000) :
    Calls Try.prog 47 #[.slice a l.length cap] w fun e w' => ∃ v, e = .returned v ∧ Hid (OwnBy w' v l) ∧ Hid (Below w.heap.size w w') := by
  have q35 : ∀ (w : World) (a : Option Addr) (n c n' c' : Nat), (binOp .eql 52 (.slice a n c) (.slice none n' c')).run Try.prog w = .ok (.bool a.isNone) w := fun w a n c n' c' => Lib.run_eql_slice_nil w _ _ a n c n' c' Try.underlying52
  cases a with
  | none =>
    have hl0 : l = [] := by
      rcases h.lies with h | ⟨b, off, e, _⟩
      · exact h
      · cases e
    subst hl0
    have hc0 : cap = 0 := by rcases hc with h | h; exact h; exact absurd rfl h
    subst hc0
    clear h hc
    go_enter Try.func47, Try.ntmps47
    go_wp2
    go_ret
    exact ⟨_, rfl, ⟨none, 0, rfl, Nat.le_refl _, fun _ => rfl, .inl rfl⟩, Below.refl _ _⟩
  | some ad =>
    have HB : Hid (IsBy w (some ad) l cap) := h
    have l0 : (0 : Int) ≤ l.length := by omega
    clear h hc
    go_enter Try.func47, Try.ntmps47
    go_wp2_with (at_builtin; refine wpList_appB rfl (.tmp 5) (.tmp 6) rfl w.heap.size (.slice (some ⟨w.heap.size, 0, none⟩) 0 0) [] (some ad) l l.length cap rfl rfl rfl (byRow_new w [] w.heap.size (Nat.le_refl _) (by simp)) (HB.out.below ((Below.refl _ w).alloc (Nat.le_refl _) _)) (.inr (by simp)) (by simp) (by simp; omega) ?_; intro v' w2 hr hb _ _)
    have HE : Hid (OwnBy w2 v' l ∧ Below w.heap.size w w2) := ⟨OwnBy.of_row (by simpa using hr), ((Below.refl _ w).alloc (Nat.le_refl _) _).trans hb⟩
    clear hr hb
    go_wp2
    go_ret
    exact ⟨_, rfl, HE.out.1, HE.out.2⟩

/-- Behind a Flush, with an error or without. -/
def flR (D : Dk) : Int × Dk := if D.failing = true then (7, D) else (0, D.flush)
/-- Behind a Write of bytes that fit into a block that is there. -/
def wrR (D : Dk) (i : Nat) (l : List UInt8) : Int × Dk := if D.failing = true then (7, D) else (0, D.write i l)
/-- What a disk has done, at most. -/
structure Dk.lim (D : Dk) (k : Nat) : Prop where
  s : D.steps ≤ k
  c : D.chg.length ≤ k
theorem Dk.lim.mono {D : Dk} {j k : Nat} (h : D.lim j) (hk : j ≤ k) : D.lim k := ⟨Nat.le_trans h.s hk, Nat.le_trans h.c hk⟩
theorem flR_lim {D : Dk} {k : Nat} (h : D.lim k) : (flR D).2.lim (k + 1) := by
  unfold flR
  split
  · exact h.mono (Nat.le_succ _)
  · exact ⟨Nat.succ_le_succ h.s, by simp [Dk.flush]⟩
theorem wrR_lim {D : Dk} {k : Nat} (h : D.lim k) (i : Nat) (l : List UInt8) : (wrR D i l).2.lim (k + 1) := by
  unfold wrR
  split
  · exact h.mono (Nat.le_succ _)
  · exact ⟨Nat.succ_le_succ h.s, by have := h.c; simp [Dk.write]; omega⟩
section
variable {w W : World} {p nb sb : Nat} {cv : Value} {n : Nat} {D : Dk}
theorem tn_fl (h : Tn w W p nb sb cv n D) (hs : D.lim 1000000) :
    Calls Try.prog 17 #[.pointer (some ⟨p, 0, none⟩)] W fun e w' => e = .returned (enE (flR D).1) ∧ ∃ cv', Hid (Tn w w' p nb sb cv' n (flR D).2) ∧ Hid (Keeps w.heap.size dkT W w') := by
  unfold flR
  by_cases hf : D.failing = true
  · rw [if_pos hf]
    refine (flush_bad w.heap.size p nb sb cv n D W h.1 hf).mono ?_
    rintro e w' ⟨rfl, hs⟩
    exact ⟨rfl, cv, h.still hs, hs.keeps _ _⟩
  · rw [if_neg hf]
    refine (tn_flush h (by simpa using hf) hs.s).mono ?_
    rintro e w' ⟨rfl, h1, h2⟩
    exact ⟨rfl, _, h1, h2⟩
theorem tn_wrR (h : Tn w W p nb sb cv n D) (i : Nat) (a : Option Addr) (l : List UInt8) (cap : Nat) (hi : i < n) (hl : l.length ≤ 64) (hn : n ≤ 200) (hs : D.lim 1000000) (hB : IsBy W a l cap) :
    Calls Try.prog 16 #[.pointer (some ⟨p, 0, none⟩), .int .i64 (i : Int), .slice a l.length cap] W fun e w' => e = .returned (enE (wrR D i l).1) ∧ ∃ cv', Hid (Tn w w' p nb sb cv' n (wrR D i l).2) ∧ Hid (Keeps w.heap.size dkT W w') := by
  unfold wrR
  by_cases hf : D.failing = true
  · rw [if_pos hf]
    have e7 : wrBad D n (i : Int) l = 7 := by unfold wrBad; rw [if_pos hf]
    refine (tn_writeBad h i a l cap (by rw [e7]; decide)).mono ?_
    rintro e w' ⟨rfl, h1, h2⟩
    exact ⟨by rw [e7], cv, h1, h2.out.keeps _ _⟩
  · rw [if_neg hf]
    refine (tn_write h i a l cap (by simpa using hf) hi hl hn hs.s hs.c hB).mono ?_
    rintro e w' ⟨rfl, h1⟩
    exact ⟨rfl, h1⟩
end
theorem flR_code (D : Dk) : (flR D).1 = 0 ∨ (flR D).1 = 7 := by unfold flR; split <;> simp
theorem wrR_code (D : Dk) (i : Nat) (l : List UInt8) : (wrR D i l).1 = 0 ∨ (wrR D i l).1 = 7 := by unfold wrR; split <;> simp
theorem or_byte (x y : Nat) (h0 : x < 1000000000) (h1 : y < 256) : bits .or .i64 ((x : Int) * 256) (y : Int) = ((x * 256 + y : Nat) : Int) := by
  rw [show (x : Int) * 256 = ((x * 256 : Nat) : Int) by omega]
  have e1 : (BitVec.ofInt 64 ((x * 256 : Nat) : Int)).toNat = x * 256 := by
    rw [BitVec.ofInt_natCast, BitVec.toNat_ofNat]; exact Nat.mod_eq_of_lt (by omega)
  have e2 : (BitVec.ofInt 64 (y : Int)).toNat = y := by
    rw [BitVec.ofInt_natCast, BitVec.toNat_ofNat]; exact Nat.mod_eq_of_lt (by omega)
  show IntKind.i64.wrap ((BitVec.ofInt 64 ((x * 256 : Nat) : Int) ||| BitVec.ofInt 64 (y : Int)).toNat : Int) = _
  have h3 := Nat.two_pow_add_eq_or_of_lt (i := 8) (b := y) (by omega) x
  rw [show 2 ^ 8 * x = x * 256 by omega] at h3
  rw [BitVec.toNat_or, e1, e2, ← h3, IntKind.wrap_i64]
  omega
end Go.Proofs.Ytijjegkkeigeoaa

namespace Go.Proofs.Ytijjegkkeigeoaa
set_option linter.unusedVariables false
set_option linter.unusedSimpArgs false

/-- A record behind its length. -/
def enc1 (r : List UInt8) : List UInt8 := UInt8.ofNat (r.length / 256) :: UInt8.ofNat r.length :: r
def enc (rs : List (List UInt8)) : List UInt8 := rs.flatMap enc1
def okR (r : List UInt8) : Prop := 1 ≤ r.length ∧ r.length ≤ 200
def okL (rs : List (List UInt8)) : Prop := ∀ r ∈ rs, okR r
theorem enc1_length (r : List UInt8) : (enc1 r).length = r.length + 2 := by simp [enc1]
theorem enc_nil : enc [] = [] := rfl
theorem enc_cons (r : List UInt8) (rs : List (List UInt8)) : enc (r :: rs) = enc1 r ++ enc rs := by simp [enc]
theorem enc_append (rs ss : List (List UInt8)) : enc (rs ++ ss) = enc rs ++ enc ss := by simp [enc]
theorem enc_one (r : List UInt8) : enc [r] = enc1 r := by simp [enc]
theorem enc_prefix {rs ss : List (List UInt8)} (h : rs <+: ss) : enc rs <+: enc ss := by
  obtain ⟨t, rfl⟩ := h
  rw [enc_append]
  exact List.prefix_append _ _
theorem okL_nil : okL [] := fun _ h => absurd h (by simp)
theorem okL_append {rs ss : List (List UInt8)} (h : okL rs) (k : okL ss) : okL (rs ++ ss) := fun r hr => (List.mem_append.1 hr).elim (h r) (k r)
theorem okL_prefix {rs ss : List (List UInt8)} (h : rs <+: ss) (k : okL ss) : okL rs := fun r hr => k r (h.subset hr)
/-- A number of two bytes. -/
def wordN (l : List UInt8) : Nat := (l.getD 0 0).toNat * 256 + (l.getD 1 0).toNat
theorem wordN_enc1 {r : List UInt8} (h : okR r) (y : List UInt8) : wordN (enc1 r ++ y) = r.length := by
  have := h.2
  unfold wordN enc1
  simp only [List.cons_append, List.getD_cons_zero, List.getD_cons_succ, UInt8.toNat_ofNat']
  omega
/-- The first record of a text, if it is whole. -/
def cutL (t : List UInt8) : Option (List UInt8 × List UInt8) :=
  if t.length < 2 then none else if wordN t = 0 ∨ 200 < wordN t ∨ t.length < 2 + wordN t then none else some ((t.drop 2).take (wordN t), t.drop (2 + wordN t))
theorem cutL_enc {r : List UInt8} (h : okR r) (y : List UInt8) : cutL (enc1 r ++ y) = some (r, y) := by
  have hw := wordN_enc1 h y
  have h1 := h.1
  have h2 := h.2
  have hl : (enc1 r ++ y).length = r.length + 2 + y.length := by rw [List.length_append, enc1_length]
  unfold cutL
  rw [hw, hl, if_neg (by omega), if_neg (by omega)]
  have e1 : (enc1 r ++ y).drop 2 = r ++ y := by simp [enc1]
  have e2 : (enc1 r ++ y).drop (2 + r.length) = y := by rw [← List.drop_drop, e1]; simp
  rw [e1, e2]
  simp
theorem cutL_some {t r y : List UInt8} (h : cutL t = some (r, y)) : okR r ∧ t = enc1 r ++ y := by
  unfold cutL at h
  split at h
  · cases h
  · split at h
    · cases h
    · rename_i h1 h2
      simp only [Option.some.injEq, Prod.mk.injEq] at h
      obtain ⟨rfl, rfl⟩ := h
      have hl : ((t.drop 2).take (wordN t)).length = wordN t := by rw [List.length_take, List.length_drop]; omega
      refine ⟨⟨by omega, by omega⟩, ?_⟩
      rcases t with _ | ⟨a, _ | ⟨b, t'⟩⟩
      · exact absurd h1 (by decide)
      · exact absurd h1 (by simp)
      · have ea : a.toNat < 256 := a.toNat_lt
        have eb : b.toNat < 256 := b.toNat_lt
        have hw : wordN (a :: b :: t') = a.toNat * 256 + b.toNat := rfl
        unfold enc1
        rw [hl]
        generalize wordN (a :: b :: t') = k at *
        have e1 : UInt8.ofNat (k / 256) = a := by
          apply UInt8.toNat_inj.1
          rw [UInt8.toNat_ofNat']
          omega
        have e2 : UInt8.ofNat k = b := by
          apply UInt8.toNat_inj.1
          rw [UInt8.toNat_ofNat']
          omega
        rw [e1, e2, show 2 + k = k + 1 + 1 by omega]
        simp only [List.drop_succ_cons, List.drop_zero, List.cons_append, List.take_append_drop]
theorem wordN_prefix {t u : List UInt8} (h : t <+: u) (k : 2 ≤ t.length) : wordN t = wordN u := by
  obtain ⟨z, rfl⟩ := h
  match t, k with
  | a :: b :: t', _ => rfl
theorem cutL_none_prefix {t u : List UInt8} (h : t <+: u) (k : cutL u = none) : cutL t = none := by
  unfold cutL
  split
  · rfl
  · rename_i h1
    rw [wordN_prefix h (by omega)]
    rw [if_pos]
    have hl := h.length_le
    unfold cutL at k
    rw [if_neg (by omega)] at k
    split at k
    · rename_i h2
      omega
    · cases k
/-- All whole records of a text. -/
def recsF : Nat → List UInt8 → List (List UInt8)
  | 0, _ => []
  | f + 1, t => (cutL t).elim [] (fun p => p.1 :: recsF f p.2)
def recs (t : List UInt8) : List (List UInt8) := recsF t.length t
theorem recsF_enough : ∀ (f g : Nat) (t : List UInt8), t.length ≤ f → t.length ≤ g → recsF f t = recsF g t
  | 0, 0, t, _, _ => rfl
  | 0, g + 1, t, h, _ => by
    have : t = [] := List.eq_nil_of_length_eq_zero (by omega)
    subst this
    rfl
  | f + 1, 0, t, _, h => by
    have : t = [] := List.eq_nil_of_length_eq_zero (by omega)
    subst this
    rfl
  | f + 1, g + 1, t, h1, h2 => by
    unfold recsF
    cases e : cutL t with
    | none => rfl
    | some p =>
      obtain ⟨r, y⟩ := p
      obtain ⟨hr, rfl⟩ := cutL_some e
      have := hr.1
      simp only [List.length_append, enc1_length] at h1 h2
      show r :: recsF f y = r :: recsF g y
      rw [recsF_enough f g y (by omega) (by omega)]
theorem recs_none {t : List UInt8} (h : cutL t = none) : recs t = [] := by
  unfold recs
  cases t.length with
  | zero => rfl
  | succ f => unfold recsF; rw [h]; rfl
theorem recs_some {t r y : List UInt8} (h : cutL t = some (r, y)) : recs t = r :: recs y := by
  obtain ⟨hr, e⟩ := cutL_some h
  have hl : t.length = r.length + 2 + y.length := by rw [e, List.length_append, enc1_length]
  unfold recs
  rw [show t.length = (r.length + 1 + y.length) + 1 by omega]
  show (cutL t).elim [] (fun p => p.1 :: recsF (r.length + 1 + y.length) p.2) = _
  rw [h]
  show r :: recsF _ y = _
  rw [recsF_enough _ y.length y (by omega) (Nat.le_refl _)]
theorem recs_cons {r : List UInt8} (h : okR r) (y : List UInt8) : recs (enc1 r ++ y) = r :: recs y := recs_some (cutL_enc h y)
theorem recs_enc : ∀ (rs : List (List UInt8)) (y : List UInt8), okL rs → recs (enc rs ++ y) = rs ++ recs y
  | [], y, _ => rfl
  | r :: rs, y, h => by
    rw [enc_cons, List.append_assoc, recs_cons (h r (by simp)), recs_enc rs y (fun x hx => h x (by simp [hx]))]
    rfl
theorem recs_ok : ∀ (f : Nat) (t : List UInt8), t.length ≤ f → okL (recs t) ∧ ∃ y, t = enc (recs t) ++ y ∧ cutL y = none
  | 0, t, h => by
    have : t = [] := List.eq_nil_of_length_eq_zero (by omega)
    subst this
    exact ⟨okL_nil, [], rfl, rfl⟩
  | f + 1, t, h => by
    cases e : cutL t with
    | none =>
      rw [recs_none e]
      exact ⟨okL_nil, t, rfl, e⟩
    | some p =>
      obtain ⟨r, y⟩ := p
      obtain ⟨hr, et⟩ := cutL_some e
      have hl : t.length = r.length + 2 + y.length := by rw [et, List.length_append, enc1_length]
      obtain ⟨h1, z, h2, h3⟩ := recs_ok f y (by omega)
      rw [recs_some e]
      refine ⟨fun x hx => ?_, z, ?_, h3⟩
      · rcases List.mem_cons.1 hx with rfl | hx
        · exact hr
        · exact h1 x hx
      · rw [enc_cons, List.append_assoc, ← h2]
        exact et
theorem recs_okL (t : List UInt8) : okL (recs t) := (recs_ok t.length t (Nat.le_refl _)).1
theorem enc_recs (t : List UInt8) : enc (recs t) <+: t := by
  obtain ⟨_, y, h, _⟩ := recs_ok t.length t (Nat.le_refl _)
  exact ⟨y, h.symm⟩
theorem prefix_cancel {a b c : List UInt8} (h : a ++ b <+: a ++ c) : b <+: c := (List.prefix_append_right_inj a).1 h
/-- Less of what is not whole: the same records. -/
theorem recs_less {t u : List UInt8} (h : t <+: u) (k : enc (recs u) <+: t) : recs t = recs u := by
  obtain ⟨h1, y, h2, h3⟩ := recs_ok u.length u (Nat.le_refl _)
  obtain ⟨z, rfl⟩ := k
  rw [recs_enc _ z h1]
  have : z <+: y := prefix_cancel (a := enc (recs u)) (by rw [← h2]; exact h)
  rw [recs_none (cutL_none_prefix this h3), List.append_nil]
theorem recs_exact {rs : List (List UInt8)} (h : okL rs) : recs (enc rs) = rs := by
  have := recs_enc rs [] h
  rw [List.append_nil, recs_none (show cutL [] = none from rfl), List.append_nil] at this
  exact this
/-- A beginning of a text has a beginning of its records. -/
theorem recs_begin : ∀ (rs : List (List UInt8)) (t : List UInt8), okL rs → t <+: enc rs → recs t <+: rs
  | [], t, _, h => by
    have : t = [] := List.prefix_nil.1 h
    subst this
    exact List.prefix_refl _
  | r :: rs, t, hk, h => by
    have hr := hk r (by simp)
    rw [enc_cons] at h
    by_cases hl : (enc1 r).length ≤ t.length
    · obtain ⟨y, rfl⟩ := List.prefix_of_prefix_length_le (List.prefix_append (enc1 r) (enc rs)) h hl
      rw [recs_cons hr]
      have := recs_begin rs y (fun x hx => hk x (by simp [hx])) (prefix_cancel h)
      obtain ⟨z, hz⟩ := this
      exact ⟨z, by rw [← hz]; rfl⟩
    · have hp : t <+: enc1 r := List.prefix_of_prefix_length_le h (List.prefix_append _ _) (by omega)
      have hc : cutL t = none := by
        unfold cutL
        split
        · rfl
        · rename_i h2
          have e := wordN_prefix hp (by omega)
          have e' := wordN_enc1 hr []
          rw [List.append_nil] at e'
          rw [if_pos]
          rw [enc1_length] at hl
          omega
      rw [recs_none hc]
      exact List.nil_prefix
theorem recs_between {rs ss : List (List UInt8)} {t : List UInt8} (h : okL rs) (hs : okL ss) (h1 : enc ss <+: t) (h2 : t <+: enc rs) : ss <+: recs t ∧ recs t <+: rs := by
  refine ⟨?_, recs_begin rs t h h2⟩
  obtain ⟨y, rfl⟩ := h1
  rw [recs_enc ss y hs]
  exact List.prefix_append _ _
end Go.Proofs.Ytijjegkkeigeoaa
