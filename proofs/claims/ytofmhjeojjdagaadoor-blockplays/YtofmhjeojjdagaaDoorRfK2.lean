/-
  The contract of Write on dayref2's disk.
-/
import Derived.Test.YtofmhjeojjdagaaDoorRfK1
namespace Go.Proofs.YtofmhjeojjdagaaDoor
set_option linter.unusedVariables false
set_option linter.unusedSimpArgs false
set_option maxRecDepth 100000
open Go.RowKit Go.Lib

/-- Where a disk of dayref2 lies, some way or other. -/
def IsK (W : World) (lo kp : Nat) (D : Dk) : Prop := ∃ vn vs vw ns ss ws, KAt W lo kp vn vs vw ns ss ws D

theorem stop_fail (D : Dk) (h : D.failing = true) : 0 ≤ stopOf D.fail ∧ stopOf D.fail ≤ (D.steps : Int) := by
  unfold Dk.failing at h
  have := of_decide_eq_true h
  unfold stopOf
  rw [if_neg (by omega)]
  exact this
theorem stop_not (D : Dk) (h : D.failing = false) : stopOf D.fail < 0 ∨ (0 ≤ stopOf D.fail ∧ (D.steps : Int) < stopOf D.fail) := by
  unfold Dk.failing at h
  have := of_decide_eq_false h
  unfold stopOf
  split
  · left; omega
  · right; omega

/-- The bytes are copied into a row that was just made. -/
theorem copy_pad (W : World) (a : Option Addr) (l : List UInt8) (cap : Nat) (h : IsBy W a l cap) (hl : l.length ≤ 64) (ty : TypeId) :
    (Builtin.copy_ #[33, 33] ty #[.slice (some ⟨W.heap.size, 0, none⟩) 64 64, .slice a l.length cap]).run Tryd.prog (W.alloc (.cells (madeCells #[.int .u8 0] 64) 5)) =
      .ok (goInt l.length) (W.alloc (.cells (byC (padB l)).toArray 5)) := by
  have eZ : madeCells #[Value.int .u8 0] 64 = (byC (List.replicate 64 0)).toArray := by kernel_rfl
  rw [eZ]
  by_cases h0 : l.length = 0
  · have e : l = [] := List.eq_nil_of_length_eq_zero h0
    subst e
    exact run_copy_none (P := Tryd.prog) _ 33 33 ty 5 _ _ _ _ _ _ Tryd.underlying33 u8_one (by simp)
  · rcases h.lies with e | ⟨b, off, rfl, hlt, hc⟩
    · subst e; simp at h0
    have hL : (byC l).length = l.length := byC_length l
    have := run_copy_row Tryd.prog (W.alloc (.cells (byC (List.replicate 64 0)).toArray 5)) 33 33 ty 5 W.heap.size 0 64 64 ⟨b, off, none⟩ l.length cap (byC (List.replicate 64 0)).toArray 5 (byC l) Tryd.underlying33 u8_one
      (new_heap W _) (by rw [hL]; simp only [Nat.min_def]; rw [if_pos hl]) (fun j v hj => by
        have hjl : j < l.length := by
          rw [← hL]; exact (List.getElem?_eq_some_iff.1 hj).1
        rw [Addr.add_mid, World.cell?_alloc_lt _ _ _ hlt, hc j hjl]
        rw [byC_get l j hjl] at hj
        exact hj) (by rw [hL, List.size_toArray, byC_length, List.length_replicate]; omega) (byC_one l)
    rw [this, hL, World.setRow_alloc_new]
    congr 4
    have e3 : (byC (List.replicate 64 0)).drop l.length = byC (List.replicate (64 - l.length) 0) := by
      simp only [byC, List.map_replicate, List.drop_replicate]
    simp only [List.take_zero, List.nil_append, Nat.zero_add, e3, padB, byC_append]

set_option maxHeartbeats 8000000 in
theorem kwrite_bad (lo kp : Nat) (n : Nat) (D : Dk) (i : Int) (a : Option Addr) (l : List UInt8) (cap : Nat) (w : World) (h : IsK w lo kp D) (hn : D.now.length = n) (h0 : wrBad D n i l ≠ 0) :
    Calls Tryd.prog 9 #[.pointer (some ⟨kp, 0, none⟩), .int .i64 i, .slice a l.length cap] w fun e w' => e = .returned (.int .i64 (wrBad D n i l)) ∧ Still w w' := by
  obtain ⟨vn, vs, vw, ns, ss, ws, h⟩ := h
  have c3 := h.c3
  have c4 := h.c4
  have c0 := h.c0
  have hnl : ns.length = n := by rw [h.hn.1]; exact hn
  obtain ⟨an, cn, rfl⟩ : ∃ an cn, vn = .slice an ns.length cn := by
    rcases h.now.2 with ⟨rfl, e⟩ | ⟨g1, c1, cur, rfl, _⟩
    · exact ⟨none, 0, by rw [e]⟩
    · exact ⟨_, _, rfl⟩
  rw [hnl] at c0
  unfold wrBad at h0 ⊢
  by_cases hf : D.failing = true
  · rw [if_pos hf]
    obtain ⟨s1, s2⟩ := stop_fail D hf
    generalize stopOf D.fail = f at *
    generalize (D.steps : Int) = st at *
    clear h h0 hf
    go_enter Tryd.func9, Tryd.ntmps9
    go_wp2
    go_region_held3 (fun u => u.cell? ⟨kp, 3, none⟩ = some (.int .i64 st) ∧ u.cell? ⟨kp, 4, none⟩ = some (.int .i64 f)) (go_keep) (fail)
    go_wp2
    go_ret
    exact ⟨rfl, Still.drew _⟩
  · rw [if_neg hf] at h0 ⊢
    have hf' : D.failing = false := by simpa using hf
    have HS := stop_not D hf'
    generalize stopOf D.fail = f at *
    generalize (D.steps : Int) = st at *
    have HC0 : Hid (w.cell? ⟨kp, 0, none⟩ = some (.slice an n cn)) := c0
    clear h hf hf'
    have go : ∀ (q : Int) (hq : (q = 1 ∧ ¬ (0 ≤ i ∧ i < n)) ∨ (q = 4 ∧ (0 ≤ i ∧ i < n) ∧ 64 < l.length)), Calls Tryd.prog 9 #[.pointer (some ⟨kp, 0, none⟩), .int .i64 i, .slice a l.length cap] w fun e w' => e = .returned (.int .i64 q) ∧ Still w w' := by
      intro q hq
      rcases HS with hs | ⟨hs1, hs2⟩
      · have hd0 : decide (0 ≤ f) = false := decide_eq_false (by omega)
        rcases hq with ⟨rfl, hq⟩ | ⟨rfl, ⟨q1, q2⟩, q3⟩
        · by_cases hi0 : i < 0
          · go_enter Tryd.func9, Tryd.ntmps9
            go_wp2
            go_quiet (fail)
            go_wp2
            go_ret
            exact ⟨rfl, Still.drewN _ _⟩
          · have hi1 : (n : Int) ≤ i := by omega
            go_enter Tryd.func9, Tryd.ntmps9
            go_wp2
            go_quiet (fail)
            go_wp2
            go_ret
            exact ⟨rfl, Still.drewN _ _⟩
        · have q3' : (64 : Int) < l.length := by omega
          go_enter Tryd.func9, Tryd.ntmps9
          go_wp2
          go_quiet (fail)
          go_wp2
          go_ret
          exact ⟨rfl, Still.drewN _ _⟩
      · have hd1 : decide (f ≤ st) = false := decide_eq_false (by omega)
        rcases hq with ⟨rfl, hq⟩ | ⟨rfl, ⟨q1, q2⟩, q3⟩
        · by_cases hi0 : i < 0
          · go_enter Tryd.func9, Tryd.ntmps9
            go_wp2
            go_region_held3 (fun u => u.cell? ⟨kp, 3, none⟩ = some (.int .i64 st) ∧ u.cell? ⟨kp, 4, none⟩ = some (.int .i64 f)) (go_keep) (fail)
            go_wp2
            go_ret
            exact ⟨rfl, Still.drew _⟩
          · have hi1 : (n : Int) ≤ i := by omega
            go_enter Tryd.func9, Tryd.ntmps9
            go_wp2
            go_region_held3 (fun u => u.cell? ⟨kp, 3, none⟩ = some (.int .i64 st) ∧ u.cell? ⟨kp, 4, none⟩ = some (.int .i64 f)) (go_keep) (fail)
            go_wp2
            go_ret
            exact ⟨rfl, Still.drew _⟩
        · have q3' : (64 : Int) < l.length := by omega
          go_enter Tryd.func9, Tryd.ntmps9
          go_wp2
          go_region_held3 (fun u => u.cell? ⟨kp, 3, none⟩ = some (.int .i64 st) ∧ u.cell? ⟨kp, 4, none⟩ = some (.int .i64 f)) (go_keep) (fail)
          go_wp2
          go_ret
          exact ⟨rfl, Still.drew _⟩
    by_cases hh : hasB n i = false
    · rw [if_pos hh]
      exact go 1 (.inl ⟨rfl, by simpa [hasB] using hh⟩)
    · rw [if_neg hh] at h0 ⊢
      have hh' : 0 ≤ i ∧ i < n := by
        have : hasB n i = true := by simpa using hh
        simpa [hasB] using this
      by_cases hl : 64 < l.length
      · rw [if_pos hl]
        exact go 4 (.inr ⟨rfl, hh', hl⟩)
      · rw [if_neg hl] at h0
        exact absurd rfl h0

theorem w_tinfo : ∃ q, Tryd.prog.info? 62 = some q ∧ q.zero = some (.agg #[.int .i64 0, .slice none 0 0]) ∧ q.size = 2 ∧ q.bytes = 32 := by
  have h : (Tryd.prog.info? 62).map (fun i => (i.zero, i.size, i.bytes)) = some (some (.agg #[.int .i64 0, .slice none 0 0]), 2, 32) := by kernel_rfl
  obtain ⟨q, hq, hz⟩ := Option.map_eq_some_iff.1 h
  simp only [Prod.mk.injEq] at hz
  exact ⟨q, hq, hz.1, hz.2.1, hz.2.2⟩
theorem slice_of {W : World} {lo : Nat} {e : TypeId} {z : Nat} {v : Value} {m : Nat} {xs : List Value} (h : W.ownsRow lo e z v m xs) : ∃ a l c, v = .slice a l c := by
  rcases h.2 with ⟨rfl, _⟩ | ⟨g1, c1, cur, rfl, _⟩
  · exact ⟨_, _, _, rfl⟩
  · exact ⟨_, _, _, rfl⟩
/-- A write more. -/
theorem KAt.moreW {W w' : World} {lo kp : Nat} {vn vs vw : Value} {ns ss : List Value} {ws : List (Nat × Value)} {D : Dk} (h : KAt W lo kp vn vs vw ns ss ws D) (i : Nat) (x : Value) (b : Bk) (hx : Hb W x b) (v : Value) (hg : W.grownBy w' vw.ownBlock) (hr : w'.ownsRow lo 62 2 v (ws.length + 1) (wRow ws ++ [.int .i64 (i : Int), x])) :
    KAt (w'.setCell ⟨kp, 2, none⟩ v) lo kp vn vs v ns ss (ws ++ [(i, x)]) { D with chg := D.chg ++ [⟨i, b⟩] } := by
  have hk1 : ∀ (b : Nat) (cs : Array Value) (t : TypeId), W.heap[b]? = some (.cells cs t (0, 0)) → t ≠ 62 → w'.heap[b]? = W.heap[b]? := fun b cs t e ht => hg.block b (Array.getElem?_eq_some_iff.1 e).1 (fun eb => by
    obtain ⟨_, cs', hh⟩ := own_tag h.since b eb.symm
    exact tag_ne e hh ht rfl)
  have hbox := (hk1 _ _ _ h.box (by decide)).trans h.box
  have hk2 : ∀ (b : Nat) (cs : Array Value) (t : TypeId), w'.heap[b]? = some (.cells cs t (0, 0)) → t ≠ 44 → (w'.setCell ⟨kp, 2, none⟩ v).heap[b]? = w'.heap[b]? := fun b cs t e ht => Below.heap_setCell _ _ _ _ (tag_ne e hbox ht)
  have hk : ∀ (b : Nat) (cs : Array Value) (t : TypeId), W.heap[b]? = some (.cells cs t (0, 0)) → t ≠ 62 → t ≠ 44 → (w'.setCell ⟨kp, 2, none⟩ v).heap[b]? = W.heap[b]? := fun b cs t e h1 h2 => (hk2 b cs t ((hk1 b cs t e h1).trans e) h2).trans (hk1 b cs t e h1)
  have hu : KeepU W (w'.setCell ⟨kp, 2, none⟩ v) := fun g cs e => hk g cs _ e (by decide) (by decide)
  refine ⟨(box_set hbox 2 v).trans rfl, h.lk, ownsRow_keep h.now (fun b cs e _ => hk b cs _ e (by decide) (by decide)), ownsRow_keep h.safe (fun b cs e _ => hk b cs _ e (by decide) (by decide)), ?_, h.ne, h.hn.keep hu, h.hs.keep hu, (h.hw.keep hu).snoc i x b (hx.keep hu), h.o1, h.o2⟩
  rw [wRow_snoc, List.length_append, List.length_singleton]
  exact ownsRow_keep hr (fun b cs e _ => hk2 b cs _ e (by decide))

set_option maxHeartbeats 8000000 in
theorem kwrite_ok (lo kp : Nat) (n : Nat) (D : Dk) (i : Nat) (a : Option Addr) (l : List UInt8) (cap : Nat) (w : World) (h : IsK w lo kp D) (hn : D.now.length = n) (hlo : lo ≤ w.heap.size) (hf : D.failing = false) (hi : i < n) (hl : l.length ≤ 64) (hs0 : D.steps ≤ 1000000) (hc0 : D.chg.length ≤ 1000000) (hB : IsBy w a l cap) :
    Calls Tryd.prog 9 #[.pointer (some ⟨kp, 0, none⟩), .int .i64 (i : Int), .slice a l.length cap] w fun e w' => e = .returned (.int .i64 0) ∧ Hid (IsK w' lo kp (D.write i l) ∧ Keeps lo kT w w') := by
  obtain ⟨vn, vs, vw, ns, ss, ws, h⟩ := h
  have hnl : ns.length = n := by rw [h.hn.1]; exact hn
  obtain ⟨gn, cn, rfl, _, _⟩ := own_get h.now i (by omega)
  have c3 := h.c3
  have c4 := h.c4
  have i0 : (0 : Int) ≤ i := by omega
  have i1 : (i : Int) < ns.length := by omega
  have l1 : (l.length : Int) ≤ 64 := by omega
  have HC0 : ∀ U, Still w U → U.cell? ⟨kp, 0, none⟩ = some (.slice (some ⟨gn, 0, none⟩) ns.length cn) := fun U hU => (h.below (hU.below _)).c0
  have HH : Hid (∀ U, Still w U → U.cell? ⟨kp, 0, none⟩ = some (.slice (some ⟨gn, 0, none⟩) ns.length cn)) := HC0
  clear HC0
  generalize hff : stopOf D.fail = f at *
  rcases stop_not D hf with hs | ⟨hs1, hs2⟩
  · rw [hff] at hs
    have hd0 : decide (0 ≤ f) = false := decide_eq_false (by omega)
    go_enter Tryd.func9, Tryd.ntmps9
    go_wp2
    go_quiet (fail)
    rename Nat => nq
    have hst : Still w (w.drewN nq) := Still.drewN w nq
    generalize w.drewN nq = U at *
    have c0 := HH.out U hst
    clear HH
    have hd1 := h.below (hst.below _)
    have hB1 := hB.below (hst.below _)
    have hmk : ∀ W, (Instr.makeSlice 33 (.int .i64 64) (.int .i64 64)).run Tryd.prog W = .ok (.slice (some ⟨W.heap.size, 0, none⟩) 64 64) (W.alloc (.cells (madeCells #[.int .u8 0] 64) 5)) := fun W => run_make_row' (P := Tryd.prog) 33 5 (.int .u8 0) 1 Tryd.underlying33 u8_info rfl .i64 .i64 64 (by omega) (by omega) W
    have hcp := fun ty => copy_pad U a l cap hB1 hl ty
    have hk1 : Keeps lo kT w U := hst.keeps _ _
    have hd2 := hd1.below ((Below.refl _ U).alloc (Nat.le_refl _) (.cells (byC (padB l)).toArray 5))
    have hk2 : Keeps lo kT w (U.alloc (.cells (byC (padB l)).toArray 5)) := hk1.alloc _
    have hb2 := new_heap U (.cells (byC (padB l)).toArray 5)
    have hx2 : Hb (U.alloc (.cells (byC (padB l)).toArray 5)) (.slice (some ⟨U.heap.size, 0, none⟩) 64 64) ⟨padB l, false⟩ := .inr ⟨rfl, _, rfl, hb2⟩
    have c3' := hd2.c3
    have f3' := hd2.fz 3
    have hst1 : (D.steps : Int) + 1 = ((D.steps + 1 : Nat) : Int) := by omega
    have hd3 := hd2.setSteps (D.steps + 1)
    have hk3 := hk2.setCell (o := 3) hd2.box (by simp [kT]) hd2.lk (.int .i64 ((D.steps + 1 : Nat) : Int))
    have hu3 : KeepU (U.alloc (.cells (byC (padB l)).toArray 5)) ((U.alloc (.cells (byC (padB l)).toArray 5)).setCell ⟨kp, 3, none⟩ (.int .i64 ((D.steps + 1 : Nat) : Int))) := fun g cs e => Below.heap_setCell _ _ _ _ (tag_ne e hd2.box (by decide))
    have hx3 := hx2.keep hu3
    rw [← hst1] at hd3 hk3 hx3
    clear hu3 hx2 hst1
    generalize madeCells #[.int .u8 0] 64 = Z at *
    generalize (byC (padB l)).toArray = X at *
    obtain ⟨W3, hW3⟩ : ∃ W3, (U.alloc (.cells X 5)).setCell ⟨kp, 3, none⟩ (.int .i64 ((D.steps : Int) + 1)) = W3 := ⟨_, rfl⟩
    rw [hW3] at hd3 hk3 hx3
    have HD3 : Hid (KAt _ _ _ _ _ _ _ _ _ _) := hd3
    have HK3 : Hid (Keeps lo kT w W3) := hk3
    have HX3 : Hid (Hb W3 _ _) := hx3
    have hs7 : (D.steps : Int) ≤ 1000000 := by omega
    have HZ : Hid (lo ≤ W3.heap.size) := Nat.le_trans hlo hk3.size
    generalize hgx : U.heap.size = gx at *
    have hmk1 : (Instr.makeSlice 33 (.int .i64 64) (.int .i64 64)).run Tryd.prog U = .ok (.slice (some ⟨gx, 0, none⟩) 64 64) (U.alloc (.cells Z 5)) := by rw [← hgx]; exact hmk U
    clear hd1 hB1 hk1 hd2 hk2 hb2 hd3 hk3 hx3 hmk h hB hst hgx c3 c4
    have c0' := HD3.out.c0
    obtain ⟨gn', cn', egn, cg, fg⟩ := own_get HD3.out.now i (by omega)
    cases egn
    have hd4 := HD3.out.setNow i (by omega) _ _ HX3.out rfl
    have hg3 := (own_tag HD3.out.now gn rfl)
    have hk4 : Keeps lo kT w (W3.setCell ⟨gn, i, none⟩ (.slice (some ⟨gx, 0, none⟩) 64 64)) := by
      obtain ⟨h1, cs, h2⟩ := hg3
      exact HK3.out.setCell h2 (by simp [kT]) h1 _
    have hu4 : KeepU W3 (W3.setCell ⟨gn, i, none⟩ (.slice (some ⟨gx, 0, none⟩) 64 64)) := fun q cs e => by
      obtain ⟨_, cs', h2⟩ := hg3
      exact Below.heap_setCell _ _ _ _ (tag_ne e h2 (by decide))
    have hx4 := HX3.out.keep hu4
    have hz4 : lo ≤ (W3.setCell ⟨gn, i, none⟩ (.slice (some ⟨gx, 0, none⟩) 64 64)).heap.size := Nat.le_trans hlo hk4.size
    obtain ⟨W4, hW4⟩ : ∃ W4, W3.setCell ⟨gn, i, none⟩ (.slice (some ⟨gx, 0, none⟩) 64 64) = W4 := ⟨_, rfl⟩
    rw [hW4] at hd4 hk4 hx4 hz4
    obtain ⟨aw, cw, hvw⟩ : ∃ aw cw, vw = .slice aw ws.length cw := by
      rcases hd4.since.2 with ⟨rfl, e⟩ | ⟨g1, c1, cur, rfl, _⟩
      · exact ⟨none, 0, by rw [e]⟩
      · exact ⟨_, _, rfl⟩
    subst hvw
    have c2' := hd4.c2
    obtain ⟨qi, hqi, hqz⟩ := w_tinfo
    have hwl : ws.length ≤ 1000000 := by rw [hd4.hw.1]; exact hc0
    have hd5 := hd4.below ((Below.refl _ W4).alloc (Nat.le_refl _) (.cells #[.int .i64 (i : Int), .slice (some ⟨gx, 0, none⟩) 64 64] 62))
    have Hown : Hid ((W4.alloc (.cells #[.int .i64 (i : Int), .slice (some ⟨gx, 0, none⟩) 64 64] 62)).ownsRow lo 62 2 (.slice aw ws.length cw) ws.length (wRow ws)) := hd5.since
    have Hcell : Hid (∀ j u, ([.int .i64 (i : Int), .slice (some ⟨gx, 0, none⟩) 64 64] : List Value)[j]? = some u → (W4.alloc (.cells #[.int .i64 (i : Int), .slice (some ⟨gx, 0, none⟩) 64 64] 62)).cell? ((⟨W4.heap.size, 0, none⟩ : Addr).add j) = some u) := fun j u hj => by
      rw [Addr.add_mid, cell_of_row _ _ _ _ _ (0, 0) (new_heap W4 _)]
      simpa using hj
    have HD5 : Hid (KAt _ _ _ _ _ _ _ _ _ _) := hd5
    have Hgo : Hid (∀ w6, (W4.alloc (.cells #[.int .i64 (i : Int), .slice (some ⟨gx, 0, none⟩) 64 64] 62)).grownBy w6 (Value.slice aw ws.length cw).ownBlock → w6.cell? ⟨kp, 2, none⟩ = some (.slice aw ws.length cw) ∧ w6.frozen? ⟨kp, 2, none⟩ = false) := fun w6 hg => by
      have e := (hg.block kp HD5.out.lt (fun eb => by
        obtain ⟨_, cs', hh⟩ := own_tag HD5.out.since kp eb.symm
        exact tag_ne HD5.out.box hh (by decide) rfl)).trans HD5.out.box
      exact ⟨by simp [World.cell?, e], by simp [World.frozen?, e]⟩
    have HX4 : Hid (Hb W4 _ _) := hx4
    have HK4 : Hid (Keeps lo kT w W4) := hk4
    have HZ4 : Hid (lo ≤ W4.heap.size) := hz4
    have Hwl : Hid (ws.length ≤ 1000000) := hwl
    clear hd4 hd5 hx4 hk4 hz4 hu4 hg3 HD3 HX3 HK3 HZ hwl
    go_wp2_with (first | (refine wpList_copy_run rfl (.tmp 39) (.tmp 40) _ _ rfl (.slice (some ⟨gx, 0, none⟩) 64 64) (.slice a l.length cap) rfl rfl (hcp _) ?_) | (at_builtin; refine wpList_append_own_at _ rfl (.tmp 60) (.tmp 64) 42 rfl lo 62 qi (.agg #[.int .i64 0, .slice none 0 0]) 2 32 Tryd.underlying42 hqi hqz.1 hqz.2.1 hqz.2.2 rfl (by omega) (.slice aw ws.length cw) ws.length (wRow ws) rfl Hown.out ⟨W4.heap.size, 0, none⟩ 1 1 [.int .i64 (i : Int), .slice (some ⟨gx, 0, none⟩) 64 64] rfl rfl Hcell.out (by simp [Value.oneCell']) (by have := Hwl.out; unfold maxLen; omega) (by have := Hwl.out; omega) (by have := HZ4.out; simp; omega) ?_; intro v' w6 hown hgrow hnil hat; obtain ⟨c6, f6⟩ := Hgo.out w6 hgrow; obtain ⟨av, lv, cpv, rfl⟩ := slice_of hown; have HO6 : Hid (World.ownsRow _ _ _ _ _ _ _) := hown; have HG6 : Hid (World.grownBy _ _ _) := hgrow; clear hown hgrow hnil hat))
    go_ret
    have hfin := HD5.out.moreW i (.slice (some ⟨gx, 0, none⟩) 64 64) ⟨padB l, false⟩ (HX4.out.keep (KeepU.of_below ((Below.refl _ W4).alloc (Nat.le_refl _) _))) _ HG6.out HO6.out
    have hkeep : Keeps lo kT w (w6.setCell ⟨kp, 2, none⟩ (.slice av lv cpv)) := by
      refine ((HK4.out.alloc _).grown HG6.out (fun j hj => ?_)).setCell (t := 44) ((HG6.out.block kp HD5.out.lt (fun eb => ?_)).trans HD5.out.box) (by simp [kT]) HD5.out.lk _
      · obtain ⟨h1, cs, h2⟩ := own_tag HD5.out.since j hj
        exact ⟨h1, cs, _, _, h2, by simp [kT]⟩
      · obtain ⟨_, cs', hh⟩ := own_tag HD5.out.since kp eb.symm
        exact tag_ne HD5.out.box hh (by decide) rfl
    exact ⟨rfl, ⟨_, _, _, _, _, _, hfin⟩, hkeep⟩
  · rw [hff] at hs1 hs2
    have hd1 : decide (f ≤ (D.steps : Int)) = false := decide_eq_false (by omega)
    go_enter Tryd.func9, Tryd.ntmps9
    go_wp2
    go_region_held3 (fun u => u.cell? ⟨kp, 3, none⟩ = some (.int .i64 (D.steps : Int)) ∧ u.cell? ⟨kp, 4, none⟩ = some (.int .i64 f)) (go_keep) (fail)
    have hst : Still w w.drew := Still.drew w
    clear hd1
    generalize w.drew = U at *
    have c0 := HH.out U hst
    clear HH
    have hd1 := h.below (hst.below _)
    have hB1 := hB.below (hst.below _)
    have hmk : ∀ W, (Instr.makeSlice 33 (.int .i64 64) (.int .i64 64)).run Tryd.prog W = .ok (.slice (some ⟨W.heap.size, 0, none⟩) 64 64) (W.alloc (.cells (madeCells #[.int .u8 0] 64) 5)) := fun W => run_make_row' (P := Tryd.prog) 33 5 (.int .u8 0) 1 Tryd.underlying33 u8_info rfl .i64 .i64 64 (by omega) (by omega) W
    have hcp := fun ty => copy_pad U a l cap hB1 hl ty
    have hk1 : Keeps lo kT w U := hst.keeps _ _
    have hd2 := hd1.below ((Below.refl _ U).alloc (Nat.le_refl _) (.cells (byC (padB l)).toArray 5))
    have hk2 : Keeps lo kT w (U.alloc (.cells (byC (padB l)).toArray 5)) := hk1.alloc _
    have hb2 := new_heap U (.cells (byC (padB l)).toArray 5)
    have hx2 : Hb (U.alloc (.cells (byC (padB l)).toArray 5)) (.slice (some ⟨U.heap.size, 0, none⟩) 64 64) ⟨padB l, false⟩ := .inr ⟨rfl, _, rfl, hb2⟩
    have c3' := hd2.c3
    have f3' := hd2.fz 3
    have hst1 : (D.steps : Int) + 1 = ((D.steps + 1 : Nat) : Int) := by omega
    have hd3 := hd2.setSteps (D.steps + 1)
    have hk3 := hk2.setCell (o := 3) hd2.box (by simp [kT]) hd2.lk (.int .i64 ((D.steps + 1 : Nat) : Int))
    have hu3 : KeepU (U.alloc (.cells (byC (padB l)).toArray 5)) ((U.alloc (.cells (byC (padB l)).toArray 5)).setCell ⟨kp, 3, none⟩ (.int .i64 ((D.steps + 1 : Nat) : Int))) := fun g cs e => Below.heap_setCell _ _ _ _ (tag_ne e hd2.box (by decide))
    have hx3 := hx2.keep hu3
    rw [← hst1] at hd3 hk3 hx3
    clear hu3 hx2 hst1
    generalize madeCells #[.int .u8 0] 64 = Z at *
    generalize (byC (padB l)).toArray = X at *
    obtain ⟨W3, hW3⟩ : ∃ W3, (U.alloc (.cells X 5)).setCell ⟨kp, 3, none⟩ (.int .i64 ((D.steps : Int) + 1)) = W3 := ⟨_, rfl⟩
    rw [hW3] at hd3 hk3 hx3
    have HD3 : Hid (KAt _ _ _ _ _ _ _ _ _ _) := hd3
    have HK3 : Hid (Keeps lo kT w W3) := hk3
    have HX3 : Hid (Hb W3 _ _) := hx3
    have hs7 : (D.steps : Int) ≤ 1000000 := by omega
    have HZ : Hid (lo ≤ W3.heap.size) := Nat.le_trans hlo hk3.size
    generalize hgx : U.heap.size = gx at *
    have hmk1 : (Instr.makeSlice 33 (.int .i64 64) (.int .i64 64)).run Tryd.prog U = .ok (.slice (some ⟨gx, 0, none⟩) 64 64) (U.alloc (.cells Z 5)) := by rw [← hgx]; exact hmk U
    clear hd1 hB1 hk1 hd2 hk2 hb2 hd3 hk3 hx3 hmk h hB hst hgx c3 c4
    have c0' := HD3.out.c0
    obtain ⟨gn', cn', egn, cg, fg⟩ := own_get HD3.out.now i (by omega)
    cases egn
    have hd4 := HD3.out.setNow i (by omega) _ _ HX3.out rfl
    have hg3 := (own_tag HD3.out.now gn rfl)
    have hk4 : Keeps lo kT w (W3.setCell ⟨gn, i, none⟩ (.slice (some ⟨gx, 0, none⟩) 64 64)) := by
      obtain ⟨h1, cs, h2⟩ := hg3
      exact HK3.out.setCell h2 (by simp [kT]) h1 _
    have hu4 : KeepU W3 (W3.setCell ⟨gn, i, none⟩ (.slice (some ⟨gx, 0, none⟩) 64 64)) := fun q cs e => by
      obtain ⟨_, cs', h2⟩ := hg3
      exact Below.heap_setCell _ _ _ _ (tag_ne e h2 (by decide))
    have hx4 := HX3.out.keep hu4
    have hz4 : lo ≤ (W3.setCell ⟨gn, i, none⟩ (.slice (some ⟨gx, 0, none⟩) 64 64)).heap.size := Nat.le_trans hlo hk4.size
    obtain ⟨W4, hW4⟩ : ∃ W4, W3.setCell ⟨gn, i, none⟩ (.slice (some ⟨gx, 0, none⟩) 64 64) = W4 := ⟨_, rfl⟩
    rw [hW4] at hd4 hk4 hx4 hz4
    obtain ⟨aw, cw, hvw⟩ : ∃ aw cw, vw = .slice aw ws.length cw := by
      rcases hd4.since.2 with ⟨rfl, e⟩ | ⟨g1, c1, cur, rfl, _⟩
      · exact ⟨none, 0, by rw [e]⟩
      · exact ⟨_, _, rfl⟩
    subst hvw
    have c2' := hd4.c2
    obtain ⟨qi, hqi, hqz⟩ := w_tinfo
    have hwl : ws.length ≤ 1000000 := by rw [hd4.hw.1]; exact hc0
    have hd5 := hd4.below ((Below.refl _ W4).alloc (Nat.le_refl _) (.cells #[.int .i64 (i : Int), .slice (some ⟨gx, 0, none⟩) 64 64] 62))
    have Hown : Hid ((W4.alloc (.cells #[.int .i64 (i : Int), .slice (some ⟨gx, 0, none⟩) 64 64] 62)).ownsRow lo 62 2 (.slice aw ws.length cw) ws.length (wRow ws)) := hd5.since
    have Hcell : Hid (∀ j u, ([.int .i64 (i : Int), .slice (some ⟨gx, 0, none⟩) 64 64] : List Value)[j]? = some u → (W4.alloc (.cells #[.int .i64 (i : Int), .slice (some ⟨gx, 0, none⟩) 64 64] 62)).cell? ((⟨W4.heap.size, 0, none⟩ : Addr).add j) = some u) := fun j u hj => by
      rw [Addr.add_mid, cell_of_row _ _ _ _ _ (0, 0) (new_heap W4 _)]
      simpa using hj
    have HD5 : Hid (KAt _ _ _ _ _ _ _ _ _ _) := hd5
    have Hgo : Hid (∀ w6, (W4.alloc (.cells #[.int .i64 (i : Int), .slice (some ⟨gx, 0, none⟩) 64 64] 62)).grownBy w6 (Value.slice aw ws.length cw).ownBlock → w6.cell? ⟨kp, 2, none⟩ = some (.slice aw ws.length cw) ∧ w6.frozen? ⟨kp, 2, none⟩ = false) := fun w6 hg => by
      have e := (hg.block kp HD5.out.lt (fun eb => by
        obtain ⟨_, cs', hh⟩ := own_tag HD5.out.since kp eb.symm
        exact tag_ne HD5.out.box hh (by decide) rfl)).trans HD5.out.box
      exact ⟨by simp [World.cell?, e], by simp [World.frozen?, e]⟩
    have HX4 : Hid (Hb W4 _ _) := hx4
    have HK4 : Hid (Keeps lo kT w W4) := hk4
    have HZ4 : Hid (lo ≤ W4.heap.size) := hz4
    have Hwl : Hid (ws.length ≤ 1000000) := hwl
    clear hd4 hd5 hx4 hk4 hz4 hu4 hg3 HD3 HX3 HK3 HZ hwl
    go_wp2_with (first | (refine wpList_copy_run rfl (.tmp 39) (.tmp 40) _ _ rfl (.slice (some ⟨gx, 0, none⟩) 64 64) (.slice a l.length cap) rfl rfl (hcp _) ?_) | (at_builtin; refine wpList_append_own_at _ rfl (.tmp 60) (.tmp 64) 42 rfl lo 62 qi (.agg #[.int .i64 0, .slice none 0 0]) 2 32 Tryd.underlying42 hqi hqz.1 hqz.2.1 hqz.2.2 rfl (by omega) (.slice aw ws.length cw) ws.length (wRow ws) rfl Hown.out ⟨W4.heap.size, 0, none⟩ 1 1 [.int .i64 (i : Int), .slice (some ⟨gx, 0, none⟩) 64 64] rfl rfl Hcell.out (by simp [Value.oneCell']) (by have := Hwl.out; unfold maxLen; omega) (by have := Hwl.out; omega) (by have := HZ4.out; simp; omega) ?_; intro v' w6 hown hgrow hnil hat; obtain ⟨c6, f6⟩ := Hgo.out w6 hgrow; obtain ⟨av, lv, cpv, rfl⟩ := slice_of hown; have HO6 : Hid (World.ownsRow _ _ _ _ _ _ _) := hown; have HG6 : Hid (World.grownBy _ _ _) := hgrow; clear hown hgrow hnil hat))
    go_ret
    have hfin := HD5.out.moreW i (.slice (some ⟨gx, 0, none⟩) 64 64) ⟨padB l, false⟩ (HX4.out.keep (KeepU.of_below ((Below.refl _ W4).alloc (Nat.le_refl _) _))) _ HG6.out HO6.out
    have hkeep : Keeps lo kT w (w6.setCell ⟨kp, 2, none⟩ (.slice av lv cpv)) := by
      refine ((HK4.out.alloc _).grown HG6.out (fun j hj => ?_)).setCell (t := 44) ((HG6.out.block kp HD5.out.lt (fun eb => ?_)).trans HD5.out.box) (by simp [kT]) HD5.out.lk _
      · obtain ⟨h1, cs, h2⟩ := own_tag HD5.out.since j hj
        exact ⟨h1, cs, _, _, h2, by simp [kT]⟩
      · obtain ⟨_, cs', hh⟩ := own_tag HD5.out.since kp eb.symm
        exact tag_ne HD5.out.box hh (by decide) rfl
    exact ⟨rfl, ⟨_, _, _, _, _, _, hfin⟩, hkeep⟩
end Go.Proofs.YtofmhjeojjdagaaDoor
