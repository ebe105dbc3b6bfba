/-
  The contract of Crash on dayref2's disk.
-/
import Derived.Test.YtofmhjeojjdagaaDoorRfK4
namespace Go.Proofs.YtofmhjeojjdagaaDoor
set_option linter.unusedVariables false
set_option linter.unusedSimpArgs false
set_option maxRecDepth 100000
open Go.RowKit Go.Lib

/-- A disk without its rows. -/
structure KC (W : World) (lo kp : Nat) (vn vs vw : Value) (ws : List (Nat × Value)) (D : Dk) : Prop where
  box : W.heap[kp]? = some (.cells #[vn, vs, vw, .int .i64 (D.steps : Int), .int .i64 (stopOf D.fail)] 44 (0, 0))
  lk : lo ≤ kp
  since : W.ownsRow lo 62 2 vw ws.length (wRow ws)
  hw : HwL W ws D.chg
theorem KAt.kc {W : World} {lo kp : Nat} {vn vs vw : Value} {ns ss : List Value} {ws : List (Nat × Value)} {D : Dk} (h : KAt W lo kp vn vs vw ns ss ws D) : KC W lo kp vn vs vw ws D := ⟨h.box, h.lk, h.since, h.hw⟩
theorem KC.keep {W U : World} {lo kp : Nat} {vn vs vw : Value} {ws : List (Nat × Value)} {D : Dk} (h : KC W lo kp vn vs vw ws D) (hk : ∀ (b : Nat) (cs : Array Value) (t : TypeId), W.heap[b]? = some (.cells cs t (0, 0)) → t ≠ 33 → U.heap[b]? = W.heap[b]?) : KC U lo kp vn vs vw ws D :=
  ⟨(hk _ _ _ h.box (by decide)).trans h.box, h.lk, ownsRow_keep h.since (fun b cs e _ => hk b cs _ e (by decide)), h.hw.keep (fun g cs e => hk g cs _ e (by decide))⟩
/-- A row of blocks that is being made. -/
structure LR (W : World) (lo gl n cl : Nat) (ls : List Value) (s : List Bk) : Prop where
  row : W.ownsRow lo 33 1 (.slice (some ⟨gl, 0, none⟩) n cl) n ls
  hb : HbL W ls s
  len : ls.length = n
  one : ∀ v ∈ ls, v.oneCell' = true
theorem LR.tag {W : World} {lo gl n cl : Nat} {ls : List Value} {s : List Bk} (h : LR W lo gl n cl ls s) : lo ≤ gl ∧ ∃ cs, W.heap[gl]? = some (.cells cs 33 (0, 0)) := own_tag h.row gl rfl
theorem LR.set {W : World} {lo gl n cl : Nat} {ls : List Value} {s : List Bk} (h : LR W lo gl n cl ls s) (i : Nat) (hi : i < n) (v : Value) (b : Bk) (hv : Hb W v b) (ho : v.oneCell' = true) : LR (W.setCell ⟨gl, i, none⟩ v) lo gl n cl (ls.set i v) (s.set i b) := by
  obtain ⟨_, cs0, hg⟩ := h.tag
  have hu : KeepU W (W.setCell ⟨gl, i, none⟩ v) := fun q cs e => Below.heap_setCell _ _ _ _ (tag_ne e hg (by decide))
  refine ⟨own_set h.row i hi v, (h.hb.keep hu).set i v b (hv.keep hu), by rw [List.length_set]; exact h.len, fun x hx => ?_⟩
  rcases List.mem_or_eq_of_mem_set hx with hx | rfl
  · exact h.one x hx
  · exact ho
theorem KC.setL {W : World} {lo kp : Nat} {vn vs vw : Value} {ws : List (Nat × Value)} {D : Dk} (h : KC W lo kp vn vs vw ws D) {gl n cl : Nat} {ls : List Value} {s : List Bk} (hl : LR W lo gl n cl ls s) (i : Nat) (v : Value) : KC (W.setCell ⟨gl, i, none⟩ v) lo kp vn vs vw ws D := by
  obtain ⟨_, cs0, hg⟩ := hl.tag
  exact h.keep (fun b cs t e ht => Below.heap_setCell _ _ _ _ (tag_ne e hg ht))
theorem LR.still {W U : World} {lo gl n cl : Nat} {ls : List Value} {s : List Bk} (h : LR W lo gl n cl ls s) (hs : Still W U) : LR U lo gl n cl ls s :=
  ⟨ownsRow_keep h.row (fun b cs e _ => by rw [hs.heap]), h.hb.keep (fun g cs e => by rw [hs.heap]), h.len, h.one⟩
theorem KC.still {W U : World} {lo kp : Nat} {vn vs vw : Value} {ws : List (Nat × Value)} {D : Dk} (h : KC W lo kp vn vs vw ws D) (hs : Still W U) : KC U lo kp vn vs vw ws D := h.keep (fun b cs t e ht => by rw [hs.heap])
/-- A write since, read. -/
theorem KC.get {W : World} {lo kp : Nat} {vn vs vw : Value} {ws : List (Nat × Value)} {D : Dk} (h : KC W lo kp vn vs vw ws D) (m : Nat) (hm : m < D.chg.length) :
    ∃ gw cw vb, vw = .slice (some ⟨gw, 0, none⟩) D.chg.length cw ∧ W.cell? ⟨gw, m * 2, none⟩ = some (.int .i64 ((D.chg.getD m cg0).at_ : Int)) ∧ W.cell? ⟨gw, m * 2 + 1, none⟩ = some vb ∧ Hb W vb (D.chg.getD m cg0).to := by
  have hl := h.hw.1
  rcases h.since.2 with ⟨_, h0⟩ | ⟨g1, c1, cur, rfl, hb1, hh, hm1, hc, hs, ht⟩
  · omega
  · have hmw : m < ws.length := by omega
    have hg : ws.getD m (0, nilS) = ws[m] := by rw [List.getD_eq_getElem?_getD, List.getElem?_eq_getElem hmw]; rfl
    obtain ⟨e1, e2⟩ := h.hw.2 m hm
    rw [hg] at e1 e2
    have C : ∀ j, j < 2 → W.cell? ⟨g1, m * 2 + j, none⟩ = ([.int .i64 ((ws[m]).1 : Int), (ws[m]).2] : List Value)[j]? := fun j hj => by
      have e3 := wRow_get ws m j hmw hj
      rw [← ht, List.getElem?_take, if_pos (by omega)] at e3
      rw [cell_of_row W g1 _ _ _ (0, 0) hh, ← Array.getElem?_toList, e3]
    refine ⟨g1, c1, (ws[m]).2, by rw [hl], ?_, C 1 (by omega), e2⟩
    rw [← e1]
    exact C 0 (by omega)
theorem KC.asm {W : World} {lo kp : Nat} {vn vs vw : Value} {ws : List (Nat × Value)} {D : Dk} (h : KC W lo kp vn vs vw ws D) {gl n cl : Nat} {ls : List Value} {s : List Bk} (hl : LR W lo gl n cl ls s) :
    KAt ((W.setCell ⟨kp, 0, none⟩ (.slice (some ⟨gl, 0, none⟩) n cl)).setCell ⟨kp, 1, none⟩ (.slice none 0 0)) lo kp (.slice (some ⟨gl, 0, none⟩) n cl) (.slice none 0 0) vw ls [] ws ⟨s, [], D.chg, D.steps, D.fail⟩ := by
  have hba := (box_set h.box 0 (.slice (some ⟨gl, 0, none⟩) n cl))
  have hk1 : ∀ (b : Nat) (cs : Array Value) (t : TypeId), W.heap[b]? = some (.cells cs t (0, 0)) → t ≠ 44 → (W.setCell ⟨kp, 0, none⟩ (.slice (some ⟨gl, 0, none⟩) n cl)).heap[b]? = W.heap[b]? := fun b cs t e ht => Below.heap_setCell _ _ _ _ (tag_ne e h.box ht)
  have hk : ∀ (b : Nat) (cs : Array Value) (t : TypeId), W.heap[b]? = some (.cells cs t (0, 0)) → t ≠ 44 → ((W.setCell ⟨kp, 0, none⟩ (.slice (some ⟨gl, 0, none⟩) n cl)).setCell ⟨kp, 1, none⟩ (.slice none 0 0)).heap[b]? = W.heap[b]? := fun b cs t e ht => (Below.heap_setCell _ _ _ _ (tag_ne e h.box ht)).trans (hk1 b cs t e ht)
  have hu : KeepU W ((W.setCell ⟨kp, 0, none⟩ (.slice (some ⟨gl, 0, none⟩) n cl)).setCell ⟨kp, 1, none⟩ (.slice none 0 0)) := fun g cs e => hk g cs _ e (by decide)
  refine ⟨(box_set (v0 := .slice (some ⟨gl, 0, none⟩) n cl) (v1 := vs) (v2 := vw) (v3 := .int .i64 (D.steps : Int)) (v4 := .int .i64 (stopOf D.fail)) (hba.trans rfl) 1 _).trans rfl, h.lk, ?_, World.ownsRow_nil _ _ _ _, ownsRow_keep h.since (fun b cs e _ => hk b cs _ e (by decide)), (fun j hj e => by cases e), hl.hb.keep hu, ⟨rfl, (fun j hj => by simp at hj)⟩, h.hw.keep hu, hl.one, by simp⟩
  rw [hl.len]
  exact ownsRow_keep hl.row (fun b cs e _ => hk b cs _ e (by decide))
theorem hb_one {W : World} {v : Value} {b : Bk} (h : Hb W v b) : ∃ a l c, v = .slice a l c := by
  rcases h with ⟨_, rfl⟩ | ⟨_, g, rfl, _⟩
  · exact ⟨_, _, _, rfl⟩
  · exact ⟨_, _, _, rfl⟩

set_option maxHeartbeats 8000000 in
theorem kcrash_any (lo kp n : Nat) (D : Dk) (a : Option Addr) (keep : List Int) (cap : Nat) (torn : Int) (w : World) (h : IsK w lo kp D) (hlo : lo ≤ w.heap.size) (hn0 : 0 < n) (hn : n ≤ 200) (hok : D.ok n) (hto : ∀ c ∈ D.chg, c.to.torn = false) (hc0 : D.chg.length ≤ 1000000) (hkl : keep.length ≤ 9223372036854775807) (hin : ∀ W, Keeps lo kT w W → IsIn W a keep cap) :
    Calls Tryd.prog 13 #[.pointer (some ⟨kp, 0, none⟩), .slice a keep.length cap, .int .i64 torn] w fun e w' => e = .returned (.tuple #[]) ∧ Hid (IsK w' lo kp (D.crash keep torn) ∧ Keeps lo kT w w') := by
  obtain ⟨vn, vs, vw, ns, ss, ws, h⟩ := h
  obtain ⟨as', ls', cs', hvs⟩ := slice_of h.safe
  subst hvs
  obtain ⟨an, ln, cn, hvn⟩ := slice_of h.now
  subst hvn
  have c1 := h.c1
  have hssl : ss.length = n := by rw [h.hs.1]; exact hok.safeL
  obtain ⟨v1, w1, hrun, hr1, hg1, hat1⟩ := append_copy w lo _ ss h.safe h.o2 (by omega) hlo 41
  have hlr1 : ∃ gl cl, v1 = .slice (some ⟨gl, 0, none⟩) n cl ∧ LR w1 lo gl n cl ss D.safe := by
    rw [hssl] at hr1
    rcases hr1.2 with ⟨_, h0⟩ | ⟨g1, c1', cur, rfl, _⟩
    · omega
    · exact ⟨g1, c1', rfl, hr1, h.hs.keep (fun g cs e => hg1.block g (Array.getElem?_eq_some_iff.1 e).1 (by simp)), hssl, h.o2⟩
  obtain ⟨gl, cl, rfl, hl1⟩ := hlr1
  have hkc1 : KC w1 lo kp (.slice an ln cn) (.slice as' ls' cs') vw ws D := h.kc.keep (fun b cs t e _ => hg1.block b (Array.getElem?_eq_some_iff.1 e).1 (by simp))
  have hk1 : Keeps lo kT w w1 := (Keeps.refl lo kT w).grown hg1 (fun j hj => by cases hj)
  have HF : Hid (crashS (markL keep D.chg.length) torn 0 D.chg D.safe = (D.crash keep torn).safe) := rfl
  have HCR : Hid (D.crash keep torn = ⟨(D.crash keep torn).safe, (D.crash keep torn).safe, [], 0, -1⟩) := rfl
  have HMK : Hid (∀ m, m < D.chg.length → (markL keep D.chg.length).getD m false = decide ((m : Int) ∈ keep)) := fun m hm => markL_get keep _ m hm
  generalize D.crash keep torn = DC at *
  generalize DC.safe = fin at *
  generalize markL keep D.chg.length = mk at *
  have HL1 : Hid (LR w1 lo gl n cl ss D.safe) := hl1
  have HC1 : Hid (KC w1 lo kp (.slice an ln cn) (.slice as' ls' cs') vw ws D) := hkc1
  have HK1 : Hid (Keeps lo kT w w1) := hk1
  have HIN : Hid (∀ W, Keeps lo kT w W → IsIn W a keep cap) := hin
  have HOK : Hid (D.ok n) := hok
  have HTO : Hid (∀ c ∈ D.chg, c.to.torn = false) := hto
  have Hlo : Hid (∀ W, Keeps lo kT w W → lo ≤ W.heap.size) := fun W hW => Nat.le_trans hlo hW.size
  obtain ⟨aw, lw, cw, hvw⟩ := slice_of h.since
  have hlw : vw = .slice aw D.chg.length cw := by
    rcases h.since.2 with ⟨e, h0⟩ | ⟨g1, c1', cur, e, _⟩
    · rw [e]; rw [e] at hvw; cases hvw; rw [← h.hw.1, h0]
    · rw [e]; rw [e] at hvw; cases hvw; rw [← h.hw.1]
  clear hvw
  subst hlw
  clear hl1 hkc1 hk1 hin hok hto hr1 hg1 hat1 h
  go_enter Tryd.func13, Tryd.ntmps13
  go_wp2_with (refine wpList_append_run rfl (.tmp 10) (.tmp 14) 41 41 rfl (.slice none 0 0) (.slice as' ls' cs') rfl rfl hrun ?_)
  clear hrun c1
  go_loopw [7] (fun i wr => ∃ m : Nat, m ≤ D.chg.length ∧ i = .int .i64 m ∧ Hid (∃ ls s, crashS mk torn m (D.chg.drop m) s = fin ∧ LR wr lo gl n cl ls s ∧ KC wr lo kp (.slice an ln cn) (.slice as' ls' cs') (.slice aw D.chg.length cw) ws D ∧ Keeps lo kT w wr)) (fun i _ => D.chg.length - (intOf i).toNat)
  case atStart => exact ⟨0, Nat.zero_le _, rfl, ss, D.safe, HF.out, HL1.out, HC1.out, HK1.out⟩
  case round =>
    obtain ⟨m, hm, rfl, H⟩ := hrel
    obtain ⟨ls, s, hfin, hlr, hkc, hkp⟩ := H.out
    have c2 : wr.cell? ⟨kp, 2, none⟩ = some (.slice aw D.chg.length cw) := by have := hkc.box; simp [World.cell?, this]
    by_cases hlt : m < D.chg.length
    · have m0 : (0 : Int) ≤ m := by omega
      have m1 : (m : Int) < D.chg.length := by omega
      rw [crashS_step hlt] at hfin
      rw [HMK.out m hlt] at hfin
      have hgk : D.chg.getD m cg0 ∈ D.chg := by
        rw [List.getD_eq_getElem?_getD, List.getElem?_eq_getElem hlt]; exact List.getElem_mem hlt
      have hat : (D.chg.getD m cg0).at_ < n := (HOK.out.chgO _ hgk).2
      have hcto : (D.chg.getD m cg0).to.torn = false := HTO.out _ hgk
      obtain ⟨gw, cw', vb, ew, cw0, cw1, hvb⟩ := hkc.get m hlt
      cases ew
      obtain ⟨c, hcg⟩ : ∃ c, D.chg.getD m cg0 = c := ⟨_, rfl⟩
      rw [hcg] at hfin hat hcto cw0 hvb
      have Hcg : Hid ((D.chg.getD m cg0).at_ = c.at_) := by unfold Hid; rw [hcg]
      clear hcg hgk
      have hcin := HIN.out wr hkp
      have Hcell : Hid (∀ q, q < keep.length → ∃ b off, a = some ⟨b, off, none⟩ ∧ wr.cell? ⟨b, off + q, none⟩ = some (.int .i64 (keep.getD q 0))) := by
        intro q hq
        rcases hcin.lies with h | ⟨b, off, e, hlt, hc⟩
        · subst h; simp at hq
        · exact ⟨b, off, e, hc q hq⟩
      have hkl' : (keep.length : Int) ≤ 9223372036854775807 := by omega
      have Hfin : Hid (_ = fin) := hfin
      have HLR : Hid (LR wr lo gl n cl ls s) := hlr
      have HKC : Hid (KC wr lo kp (.slice an ln cn) (.slice as' ls' cs') (.slice (some ⟨gw, 0, none⟩) D.chg.length cw) ws D) := hkc
      have HKP : Hid (Keeps lo kT w wr) := hkp
      have HVB : Hid (Hb wr vb c.to) := hvb
      clear hfin hlr hkc hkp hvb hcin H
      go_wp2_with fail
      go_loopw [8, 9] (fun v j wq => ∃ q : Nat, q ≤ keep.length ∧ j = .int .i64 q ∧ v = .bool (decide ((m : Int) ∈ keep.take q)) ∧ wq = wr) (fun _ j _ => keep.length - (intOf j).toNat)
      case atStart => exact ⟨0, Nat.zero_le _, rfl, by simp, rfl⟩
      case round =>
        rename World => wr2
        obtain ⟨q, hq, rfl, rfl, rfl⟩ := hrel
        by_cases hlq : q < keep.length
        · obtain ⟨b0, off, rfl, hc⟩ := Hcell.out q hlq
          have et := ints_take keep q hlq
          have j0 : (0 : Int) ≤ q := by omega
          have j1 : (q : Int) < keep.length := by omega
          generalize keep.getD q 0 = y at *
          have hnext : decide ((m : Int) ∈ keep.take (q + 1)) = (decide ((m : Int) ∈ keep.take q) || decide (y = (m : Int))) := by
            rw [et]
            simp [eq_comm]
          have Hnext : Hid (_ = _) := hnext
          clear hnext et
          generalize decide ((m : Int) ∈ keep.take q) = t at *
          cases t
          · obtain ⟨u, hu⟩ : ∃ u, decide (y = (m : Int)) = u := ⟨_, rfl⟩
            have hq2 : (y == (m : Int)) = u := hu
            go_wp2_with fail
            go_roundw
            case rel => exact ⟨q + 1, by omega, by go_num, by rw [Hnext.out, hu]; simp, by first | rfl | trivial⟩
            case measure => simp [intOf]; omega
          · go_wp2_with fail
            go_roundw
            case rel => exact ⟨q + 1, by omega, by go_num, by rw [Hnext.out]; simp, by first | rfl | trivial⟩
            case measure => simp [intOf]; omega
        · have eq : q = keep.length := by omega
          subst eq
          rw [List.take_length]
          have j1 : ¬ (keep.length : Int) < keep.length := by omega
          by_cases hmk : (m : Int) ∈ keep
          · rw [decide_eq_true hmk]
            rw [decide_eq_true hmk] at Hfin
            have Hfin2 : Hid (crashS mk torn (m + 1) (D.chg.drop (m + 1)) (s.set c.at_ ⟨c.to.byt, decide ((m : Int) = torn)⟩) = fin) := Hfin.out
            clear Hfin Hcell
            obtain ⟨ab, lb, cb, rfl⟩ := hb_one HVB.out
            have hl1 := HLR.out.still (Still.drew wr2)
            have hv1 : Hb wr2.drew (.slice ab lb cb) c.to := HVB.out.keep (fun g cs e => rfl)
            obtain ⟨gl', cl', egl, cg, fg⟩ := own_get hl1.row c.at_ hat
            cases egl
            have hl2 := hl1.set c.at_ hat _ _ hv1 rfl
            have hc2 := (HKC.out.still (Still.drew wr2)).setL hl1 c.at_ (.slice ab lb cb)
            have hk2 : Keeps lo kT w (wr2.drew.setCell ⟨gl, c.at_, none⟩ (.slice ab lb cb)) := by
              obtain ⟨h1, cs, h2⟩ := hl1.tag
              exact HKP.out.drew.setCell h2 (by simp [kT]) h1 _
            have c2d : wr2.drew.cell? ⟨kp, 2, none⟩ = some (.slice (some ⟨gw, 0, none⟩) D.chg.length cw) := c2
            have cw0d : wr2.drew.cell? ⟨gw, m * 2, none⟩ = some (.int .i64 (c.at_ : Int)) := cw0
            have cw1d : wr2.drew.cell? ⟨gw, m * 2 + 1, none⟩ = some (.slice ab lb cb) := cw1
            have HL2 : Hid (LR _ _ _ _ _ _ _) := hl2
            have HC2 : Hid (KC _ _ _ _ _ _ _ _) := hc2
            have HK2 : Hid (Keeps _ _ _ _) := hk2
            have a0 : (0 : Int) ≤ c.at_ := by omega
            have a1 : (c.at_ : Int) < n := by omega
            have Hat : Hid (c.at_ < n) := hat
            clear hl1 hv1 hl2 hc2 hk2 HLR HKC HKP HVB c2 cw0 cw1
            generalize hqa : c.at_ = qa at *
            have Hqa : Hid (c.at_ = qa) := hqa
            clear hqa
            go_wp2_with fail
            refine wp_region_drawn (by kernel_rfl) ?_
            refine wpAny_take (i := 0) (v := .slice (some ⟨gl, 0, none⟩) n cl) rfl (by kernel_rfl) (by kernel_rfl) (by kernel_rfl) (fun _ _ _ h => h) (Or.inl ⟨by rfl, fun w => by go_simp⟩) ?_
            simp only [Act.put, List.getElem_toArray, List.getElem_cons_succ, List.getElem_cons_zero, List.setIfInBounds_toArray, List.set_cons_zero, List.set_cons_succ]
            refine wpAny_take (i := 1) (v := .pointer (some ⟨kp, 0, none⟩)) rfl (by kernel_rfl) (by kernel_rfl) (by kernel_rfl) (fun _ _ _ h => h) (Or.inl ⟨by rfl, fun w => by go_simp⟩) ?_
            simp only [Act.put, List.getElem_toArray, List.getElem_cons_succ, List.getElem_cons_zero, List.setIfInBounds_toArray, List.set_cons_zero, List.set_cons_succ]
            refine wpAny_take (i := 2) (v := .pointer (some ⟨kp, 0, none⟩)) rfl (by kernel_rfl) (by kernel_rfl) (by kernel_rfl) (fun _ _ _ h => h) (Or.inl ⟨by rfl, fun w => by go_simp⟩) ?_
            simp only [Act.put, List.getElem_toArray, List.getElem_cons_succ, List.getElem_cons_zero, List.setIfInBounds_toArray, List.set_cons_zero, List.set_cons_succ]
            refine wpAny_take (i := 3) (v := .pointer (some ⟨kp, 2, none⟩)) rfl (by kernel_rfl) (by kernel_rfl) (by kernel_rfl) (fun _ _ _ h => h) (Or.inl ⟨by rfl, fun w => by go_simp⟩) ?_
            simp only [Act.put, List.getElem_toArray, List.getElem_cons_succ, List.getElem_cons_zero, List.setIfInBounds_toArray, List.set_cons_zero, List.set_cons_succ]
            refine wpAny_take (i := 5) (v := .int .i64 m) rfl (by kernel_rfl) (by kernel_rfl) (by kernel_rfl) (fun _ _ _ h => h) (Or.inl ⟨by rfl, fun w => by go_simp⟩) ?_
            simp only [Act.put, List.getElem_toArray, List.getElem_cons_succ, List.getElem_cons_zero, List.setIfInBounds_toArray, List.set_cons_zero, List.set_cons_succ]
            refine wpAny_take (i := 9) (v := .pointer (some ⟨kp, 0, none⟩)) rfl (by kernel_rfl) (by kernel_rfl) (by kernel_rfl) (fun _ _ _ h => h) (Or.inl ⟨by rfl, fun w => by go_simp⟩) ?_
            simp only [Act.put, List.getElem_toArray, List.getElem_cons_succ, List.getElem_cons_zero, List.setIfInBounds_toArray, List.set_cons_zero, List.set_cons_succ]
            refine wpAny_take (i := 10) (v := .pointer (some ⟨kp, 0, none⟩)) rfl (by kernel_rfl) (by kernel_rfl) (by kernel_rfl) (fun _ _ _ h => h) (Or.inl ⟨by rfl, fun w => by go_simp⟩) ?_
            simp only [Act.put, List.getElem_toArray, List.getElem_cons_succ, List.getElem_cons_zero, List.setIfInBounds_toArray, List.set_cons_zero, List.set_cons_succ]
            refine wpAny_take (i := 11) (v := .pointer (some ⟨kp, 2, none⟩)) rfl (by kernel_rfl) (by kernel_rfl) (by kernel_rfl) (fun _ _ _ h => h) (Or.inl ⟨by rfl, fun w => by go_simp⟩) ?_
            simp only [Act.put, List.getElem_toArray, List.getElem_cons_succ, List.getElem_cons_zero, List.setIfInBounds_toArray, List.set_cons_zero, List.set_cons_succ]
            refine wpAny_take (i := 13) (v := .int .i64 m) rfl (by kernel_rfl) (by kernel_rfl) (by kernel_rfl) (fun _ _ _ h => h) (Or.inl ⟨by rfl, fun w => by go_simp⟩) ?_
            simp only [Act.put, List.getElem_toArray, List.getElem_cons_succ, List.getElem_cons_zero, List.setIfInBounds_toArray, List.set_cons_zero, List.set_cons_succ]
            refine any_of_L (g := 18) (T := fun u => u = wr2.drew) _ _ _ _ ?_
            refine L_take (i := 4) (v := .slice (some ⟨gw, 0, none⟩) D.chg.length cw) rfl rfl (by kernel_rfl) (by decide) (by kernel_rfl) (by kernel_rfl) (by kernel_rfl) (by kernel_rfl) (fun _ _ _ h => h) (Or.inl ⟨by rfl, fun w' hw' => by subst hw'; go_simp⟩) rfl ?_
            simp only [Act.put, List.getElem_toArray, List.getElem_cons_succ, List.getElem_cons_zero, List.setIfInBounds_toArray, List.set_cons_zero, List.set_cons_succ]
            refine L_take (i := 12) (v := .slice (some ⟨gw, 0, none⟩) D.chg.length cw) rfl rfl (by kernel_rfl) (by decide) (by kernel_rfl) (by kernel_rfl) (by kernel_rfl) (by kernel_rfl) (fun _ _ _ h => h) (Or.inl ⟨by rfl, fun w' hw' => by subst hw'; go_simp⟩) rfl ?_
            simp only [Act.put, List.getElem_toArray, List.getElem_cons_succ, List.getElem_cons_zero, List.setIfInBounds_toArray, List.set_cons_zero, List.set_cons_succ]
            refine L_take (i := 6) (v := .pointer (some ⟨gw, m * 2, none⟩)) rfl rfl (by kernel_rfl) (by decide) (by kernel_rfl) (by kernel_rfl) (by kernel_rfl) (by kernel_rfl) (fun _ _ _ h => h) (Or.inl ⟨by rfl, fun w' hw' => by subst hw'; go_simp⟩) rfl ?_
            simp only [Act.put, List.getElem_toArray, List.getElem_cons_succ, List.getElem_cons_zero, List.setIfInBounds_toArray, List.set_cons_zero, List.set_cons_succ]
            refine L_take (i := 14) (v := .pointer (some ⟨gw, m * 2, none⟩)) rfl rfl (by kernel_rfl) (by decide) (by kernel_rfl) (by kernel_rfl) (by kernel_rfl) (by kernel_rfl) (fun _ _ _ h => h) (Or.inl ⟨by rfl, fun w' hw' => by subst hw'; go_simp⟩) rfl ?_
            simp only [Act.put, List.getElem_toArray, List.getElem_cons_succ, List.getElem_cons_zero, List.setIfInBounds_toArray, List.set_cons_zero, List.set_cons_succ]
            refine L_take (i := 7) (v := .pointer (some ⟨gw, m * 2, none⟩)) rfl rfl (by kernel_rfl) (by decide) (by kernel_rfl) (by kernel_rfl) (by kernel_rfl) (by kernel_rfl) (fun _ _ _ h => h) (Or.inl ⟨by rfl, fun w' hw' => by subst hw'; go_simp⟩) rfl ?_
            simp only [Act.put, List.getElem_toArray, List.getElem_cons_succ, List.getElem_cons_zero, List.setIfInBounds_toArray, List.set_cons_zero, List.set_cons_succ]
            refine L_take (i := 15) (v := .pointer (some ⟨gw, m * 2 + 1, none⟩)) rfl rfl (by kernel_rfl) (by decide) (by kernel_rfl) (by kernel_rfl) (by kernel_rfl) (by kernel_rfl) (fun _ _ _ h => h) (Or.inl ⟨by rfl, fun w' hw' => by subst hw'; go_simp⟩) rfl ?_
            simp only [Act.put, List.getElem_toArray, List.getElem_cons_succ, List.getElem_cons_zero, List.setIfInBounds_toArray, List.set_cons_zero, List.set_cons_succ]
            refine L_take (i := 8) (v := .int .i64 qa) rfl rfl (by kernel_rfl) (by decide) (by kernel_rfl) (by kernel_rfl) (by kernel_rfl) (by kernel_rfl) (fun _ _ _ h => h) (Or.inl ⟨by rfl, fun w' hw' => by subst hw'; go_simp⟩) rfl ?_
            simp only [Act.put, List.getElem_toArray, List.getElem_cons_succ, List.getElem_cons_zero, List.setIfInBounds_toArray, List.set_cons_zero, List.set_cons_succ]
            refine L_take (i := 16) (v := .slice ab lb cb) rfl rfl (by kernel_rfl) (by decide) (by kernel_rfl) (by kernel_rfl) (by kernel_rfl) (by kernel_rfl) (fun _ _ _ h => h) (Or.inl ⟨by rfl, fun w' hw' => by subst hw'; go_simp⟩) rfl ?_
            simp only [Act.put, List.getElem_toArray, List.getElem_cons_succ, List.getElem_cons_zero, List.setIfInBounds_toArray, List.set_cons_zero, List.set_cons_succ]
            refine L_take (i := 17) (v := .pointer (some ⟨gl, qa, none⟩)) rfl rfl (by kernel_rfl) (by decide) (by kernel_rfl) (by kernel_rfl) (by kernel_rfl) (by kernel_rfl) (fun _ _ _ h => h) (Or.inl ⟨by rfl, fun w' hw' => by subst hw'; go_simp⟩) rfl ?_
            simp only [Act.put, List.getElem_toArray, List.getElem_cons_succ, List.getElem_cons_zero, List.setIfInBounds_toArray, List.set_cons_zero, List.set_cons_succ]
            refine L_go (by kernel_rfl) (by kernel_rfl) ?_
            refine wpOp_step rfl ?_
            intro K hK
            rw [if_pos (by rfl)]
            have hK' : Shut (∀ a w, _ → K a w) := hK
            clear hK
            go_wp2
            refine hK'.out _ _ ?_
            clear hK' K
            refine wpAny_done (by kernel_rfl) ?_ _
            clear c2d cw0d cw1d cg fg
            have eW : wr2.drew.setCell ⟨gl, qa, none⟩ (.slice ab lb cb) = (wr2.setCell ⟨gl, qa, none⟩ (.slice ab lb cb)).drew := rfl
            rw [eW] at HL2 HC2 HK2
            clear eW
            generalize (wr2.setCell ⟨gl, qa, none⟩ (.slice ab lb cb)).drew = W1 at *
            by_cases ht : (m : Int) = torn
            · rw [decide_eq_true ht] at Hfin2
              have ht2 : ((m : Int) == torn) = true := by rw [ht]; simp
              obtain ⟨gw', cw'', vb', ew, cw0, cw1, _⟩ := HC2.out.get m hlt
              cases ew
              rw [show (D.chg.getD m cg0).at_ = qa from Hcg.out] at cw0
              have c2 : W1.cell? ⟨kp, 2, none⟩ = some (.slice (some ⟨gw, 0, none⟩) D.chg.length cw) := by have := HC2.out.box; simp [World.cell?, this]
              obtain ⟨gl', cl', egl, cg, fg⟩ := own_get HL2.out.row qa Hat.out
              cases egl
              have hl3 := HL2.out.set qa Hat.out (.slice none 0 0) ⟨c.to.byt, true⟩ (.inl ⟨rfl, rfl⟩) rfl
              rw [List.set_set, List.set_set] at hl3
              have hc3 := HC2.out.setL HL2.out qa (.slice none 0 0)
              have hk3 : Keeps lo kT w (W1.setCell ⟨gl, qa, none⟩ (.slice none 0 0)) := by
                obtain ⟨h1, cs, h2⟩ := HL2.out.tag
                exact HK2.out.setCell h2 (by simp [kT]) h1 _
              have HR : Hid (∃ ls s, crashS mk torn (m + 1) (D.chg.drop (m + 1)) s = fin ∧ LR (W1.setCell ⟨gl, qa, none⟩ (.slice none 0 0)) lo gl n cl ls s ∧ KC (W1.setCell ⟨gl, qa, none⟩ (.slice none 0 0)) lo kp (.slice an ln cn) (.slice as' ls' cs') (.slice (some ⟨gw, 0, none⟩) D.chg.length cw) ws D ∧ Keeps lo kT w (W1.setCell ⟨gl, qa, none⟩ (.slice none 0 0))) := ⟨_, _, Hfin2.out, hl3, hc3, hk3⟩
              have hoc : ∀ v, v ∈ ls → True := fun _ _ => trivial
              generalize (ls.set qa (Value.slice ab lb cb)).getD qa nilS = zz at cg
              clear hl3 hc3 hk3 HL2 HC2 HK2 Hfin2 hoc ht
              go_wp2
              go_roundw
              case rel => exact ⟨m + 1, by omega, by go_num, HR⟩
              case measure => simp [intOf]; omega
            · rw [decide_eq_false ht] at Hfin2
              have ht2 : ((m : Int) == torn) = false := by rw [beq_eq_false_iff_ne]; exact ht
              have ec : (⟨c.to.byt, false⟩ : Bk) = c.to := by
                have := hcto
                cases hcc : c.to with
                | mk b t => rw [hcc] at this; simp only at this; rw [this]
              rw [ec] at Hfin2
              have HR : Hid (∃ ls s, crashS mk torn (m + 1) (D.chg.drop (m + 1)) s = fin ∧ LR W1 lo gl n cl ls s ∧ KC W1 lo kp (.slice an ln cn) (.slice as' ls' cs') (.slice (some ⟨gw, 0, none⟩) D.chg.length cw) ws D ∧ Keeps lo kT w W1) := ⟨_, _, Hfin2.out, HL2.out, HC2.out, HK2.out⟩
              clear HL2 HC2 HK2 Hfin2 ec
              go_wp2
              go_roundw
              case rel => exact ⟨m + 1, by omega, by go_num, HR⟩
              case measure => simp [intOf]; omega
          · rw [decide_eq_false hmk]
            rw [decide_eq_false hmk] at Hfin
            clear Hcell
            go_wp2_with fail
            go_roundw
            case rel => exact ⟨m + 1, by omega, by go_num, ls, s, Hfin.out, HLR.out, HKC.out, HKP.out⟩
            case measure => simp [intOf]; omega
    · have em : m = D.chg.length := by omega
      subst em
      rw [List.drop_length] at hfin
      have hsf : s = fin := hfin
      subst hsf
      have m1 : ¬ (D.chg.length : Int) < D.chg.length := by omega
      have c0 : wr.cell? ⟨kp, 0, none⟩ = some (.slice an ln cn) := by have := hkc.box; simp [World.cell?, this]
      have f0 : wr.frozen? ⟨kp, 0, none⟩ = false := by have := hkc.box; simp [World.frozen?, this]
      have hba := (box_set hkc.box 0 (.slice (some ⟨gl, 0, none⟩) n cl))
      have c1a : (wr.setCell ⟨kp, 0, none⟩ (.slice (some ⟨gl, 0, none⟩) n cl)).cell? ⟨kp, 1, none⟩ = some (.slice as' ls' cs') := by simp [World.cell?, hba]
      have f1a : (wr.setCell ⟨kp, 0, none⟩ (.slice (some ⟨gl, 0, none⟩) n cl)).frozen? ⟨kp, 1, none⟩ = false := by simp [World.frozen?, hba]
      have hdb := hkc.asm hlr
      have hka := hkp.setCell (o := 0) hkc.box (by simp [kT]) hkc.lk (.slice (some ⟨gl, 0, none⟩) n cl)
      have hkb := hka.setCell (o := 1) hba (by simp [kT]) hkc.lk (.slice none 0 0)
      obtain ⟨Wb, hWb⟩ : ∃ Wb, (wr.setCell ⟨kp, 0, none⟩ (.slice (some ⟨gl, 0, none⟩) n cl)).setCell ⟨kp, 1, none⟩ (.slice none 0 0) = Wb := ⟨_, rfl⟩
      rw [hWb] at hdb hkb
      have hlsl : ls.length = n := hlr.len
      obtain ⟨v2, w5, hrun, hr5, hg5, hat5⟩ := append_copy Wb lo _ ls hdb.now hdb.o1 (by omega) (Hlo.out Wb hkb) 41
      have hd5 := hdb.safeCopy hg5 hr5 hat5
      have cb1 := hdb.c1
      have hb5 : w5.heap[kp]? = _ := (hg5.block kp hdb.lt (by simp)).trans hdb.box
      have c15 : w5.cell? ⟨kp, 1, none⟩ = some (.slice none 0 0) := by simp [World.cell?, hb5]
      have f15 : w5.frozen? ⟨kp, 1, none⟩ = false := by simp [World.frozen?, hb5]
      have hk5 : Keeps lo kT w w5 := hkb.grown hg5 (fun j hj => by cases hj)
      have hk6 := hk5.setCell (o := 1) hb5 (by simp [kT]) hdb.lk v2
      obtain ⟨av, lv, cpv, rfl⟩ := slice_of hr5
      have c26 := hd5.c2
      have f26 := hd5.fz 2
      have hd7 := hd5.sinceNil
      have hk7 := hk6.setCell (o := 2) hd5.box (by simp [kT]) hd5.lk (.slice none 0 0)
      have c37 := hd7.c3
      have f37 := hd7.fz 3
      have hd8 := hd7.setSteps 0
      have hk8 := hk7.setCell (o := 3) hd7.box (by simp [kT]) hd7.lk (.int .i64 ((0 : Nat) : Int))
      have c48 := hd8.c4
      have f48 := hd8.fz 4
      have hd9 := hd8.num 4 (.int .i64 (-1)) ⟨s, s, [], 0, -1⟩ rfl rfl rfl rfl
      have hk9 := hk8.setCell (o := 4) hd8.box (by simp [kT]) hd8.lk (.int .i64 (-1))
      have HD9 : Hid (KAt _ _ _ _ _ _ _ _ _ _) := hd9
      have HK9 : Hid (Keeps _ _ _ _) := hk9
      simp only [Int.natCast_zero] at HD9 HK9 c48 f48
      clear hd5 hd7 hd8 hd9 hk5 hk6 hk7 hk8 hk9 hdb hka hkb hba hb5 hr5 hg5 hat5 hlr hkc hkp H HL1 HC1 HK1
      go_wp2_with (refine wpList_append_run rfl (.tmp 83) (.tmp 84) 41 41 rfl (.slice none 0 0) (.slice (some ⟨gl, 0, none⟩) n cl) rfl rfl hrun ?_)
      go_end0
      have hfinK := HD9.out
      rw [← HCR.out] at hfinK
      exact ⟨rfl, ⟨_, _, _, _, _, _, hfinK⟩, HK9.out⟩
end Go.Proofs.YtofmhjeojjdagaaDoor
