/-
  What was in a row of bytes ahead of an append is still there behind it, where it was.
-/
import Derived.Test.YteledlbcbcnidaaDoorZy9
namespace Go.Proofs.YteledlbcbcnidaaDoor
open Go
set_option linter.unusedVariables false

section
variable {P : Program} {ops : Array Oper} {Q : Exit → Act → World → Prop} {md : Region.Mode} {T : World → Prop} {g : Nat}

theorem L_firstP {i : Nat} {oi : Oper} {v : Value} (hi : ops[i]? = some oi) (hgi : g ≠ i)
    (hsel : ∀ (j : Nat) (o : Oper) cs b, ops[j]? = some o → o.op ≠ .select cs b) (hQ : ∀ c a w, Q (.panic c) (a.put oi.dst v) w → Q (.panic c) a w) :
    ∀ (fuel : Nat) (listed : Array Bool) (a : Act) (w : World),
      (∀ j oj, ops[j]? = some oj → j ≠ i → listed.getD j true = false → (∀ e ∈ oj.after, Region.binds md e = true → e.on ≠ i) → oi.apart ops oj = true) →
      i ∈ Region.ready md ops listed → YieldsIf P ops (fun _ => True) oi v a → (listed.getD g true = false → T w) →
      wpAnyL P md ops Q g T fuel (listed.setIfInBounds i true) (a.put oi.dst v) w → wpAnyL P md ops Q g T (fuel + 1) listed a w := by
  have hset : ∀ listed : Array Bool, (listed.setIfInBounds i true).getD g true = listed.getD g true := fun listed => getD_set_ne true (Ne.symm hgi)
  intro fuel
  induction fuel with
  | zero =>
    intro listed a w _ hr hy hT H
    refine ⟨fun h => (by rw [h] at hr; cases hr), fun j hj => ?_⟩
    by_cases hji : j = i
    · subst hji; exact hy.wpOp hi trivial ⟨fun h => hT (by rw [← hset]; exact h), H⟩
    · have := ready_mono hj hji
      rw [H.1] at this
      cases this
  | succ fuel ih =>
    intro listed a w hfree hr hy hT H
    refine ⟨fun h => (by rw [h] at hr; cases hr), fun j hj => ?_⟩
    by_cases hji : j = i
    · subst hji; exact hy.wpOp hi trivial ⟨fun h => hT (by rw [← hset]; exact h), H⟩
    · have h1 := H.2 j (ready_mono hj hji)
      obtain ⟨hjun, oj, hoj, hall⟩ := mem_ready.1 hj
      have hnot : ∀ e ∈ oj.after, Region.binds md e = true → e.on ≠ i := fun e he hb heq => by
        have h1 := hall e he hb
        have h0 := (mem_ready.1 hr).1
        rw [heq] at h1
        rcases Nat.lt_or_ge i listed.size with h' | h'
        · simp [h'] at h0 h1; rw [h0] at h1; cases h1
        · simp [Array.getElem?_eq_none h'] at h1
      have h2 := wpOp_putIf hoj (hfree j oj hoj hji hjun hnot) (fun cs b => hsel i oi cs b hi) (fun cs b => hsel j oj cs b hoj) hQ hy h1
      have hfree' : ∀ k ok, ops[k]? = some ok → k ≠ i → (listed.setIfInBounds j true).getD k true = false →
          (∀ e ∈ ok.after, Region.binds md e = true → e.on ≠ i) → oi.apart ops ok = true := fun k ok hk hki hun hno => by
        refine hfree k ok hk hki ?_ hno
        by_cases hjk : j = k
        · subst hjk; exact hjun
        · rw [getD_set_ne true hjk] at hun; exact hun
      refine wpOp_mono (fun a' w' h3 => ?_) h2
      have hT' : (listed.setIfInBounds j true).getD g true = false → T w' := fun hg => h3.2.1 (by
        rw [Array.setIfInBounds_comm _ _ (Ne.symm hji), hset]
        exact hg)
      refine ⟨hT', ih (listed.setIfInBounds j true) a' w' hfree' (ready_mono hr (Ne.symm hji)) h3.1 hT' ?_⟩
      rw [Array.setIfInBounds_comm _ _ hji]
      exact h3.2.2

/-- The move of a walk. -/
theorem L_takeP {i : Nat} {oi : Oper} {v : Value} {fuel : Nat} {listed : Array Bool} {a : Act} {w : World} (hi : ops[i]? = some oi) (hgi : g ≠ i)
    (hs : Region.noSelect ops = true) (hf : Region.free md ops listed i = true) (hr : (Region.ready md ops listed).contains i = true)
    (hQ : ∀ c a w, Q (.panic c) (a.put oi.dst v) w → Q (.panic c) a w) (hy : YieldsIf P ops (fun _ => True) oi v a) (hT : T w)
    (h : wpAnyL P md ops Q g T fuel (listed.setIfInBounds i true) (a.put oi.dst v) w) : wpAnyL P md ops Q g T (fuel + 1) listed a w :=
  L_firstP hi hgi (Region.noSelect_spec hs) hQ fuel listed a w (Region.free_spec hi hf) (by simpa using hr) hy (fun _ => hT) h
end
end Go.Proofs.YteledlbcbcnidaaDoor

namespace Go.Proofs.YteledlbcbcnidaaDoor
set_option linter.unusedVariables false
set_option linter.unusedSimpArgs false
set_option maxRecDepth 100000
set_option maxHeartbeats 2000000
open Go.RowKit Go.Lib
theorem NaRow.set {W : World} {base g cap : Nat} {l : List Nat} (h : NaRow W base (.slice (some ⟨g, 0, none⟩) l.length cap) l) (k : Nat) (hk : k < l.length) (x : Nat) : NaRow (W.setCell ⟨g, k, none⟩ (.int .i64 (x : Int))) base (.slice (some ⟨g, 0, none⟩) l.length cap) (l.set k x) := by
  rcases h.2 with ⟨hv, hn⟩ | ⟨g1, c1, cur, hv, hb, hg, h1, h2, h3, ht⟩
  · cases hv
  · cases hv
    refine ⟨by simp [naC], .inr ⟨g, cap, cur.setIfInBounds k (.int .i64 (x : Int)), by rw [List.length_set], hb, ?_, by rw [List.length_set]; exact h1, h2, by simpa using h3, ?_⟩⟩
    · rw [setCell_eq_setRow W g k _ _ (0, 0) _ hg, setRow_heap W g _ _ _ (0, 0) hg]
    · rw [List.length_set, Array.toList_setIfInBounds, List.take_set, ht]
      simp [naC, List.map_set]
section
variable {w W U : World} {p nb sb : Nat} {cv : Value} {n : Nat} {D : Dk} {lb fr mn : Nat} {tv wv : Value} {s : Ls} {tx : List UInt8} {wh : List Nat}
theorem place_move (a : LgAt w W p nb sb cv n D lb fr mn tv wv s tx wh) (k : Nat) (hk : k < wh.length) (hsf : k < s.sf) (hl : wh.length ≤ 1000) :
    Calls Tryd.prog 38 #[.pointer (some ⟨lb, 0, none⟩), .int .i64 (k : Int)] W fun e w' => e = .returned (.tuple #[]) ∧ ∃ f, IsFree s.old wh f ∧ Hid (LgAt w w' p nb sb cv n D lb fr mn tv wv { s with old := wh.getD k 0, sf := k } tx (wh.set k f)) ∧ Hid (LKeep w.heap.size lb .nilIface wv .nilIface wv W w') := by
  obtain ⟨g, wc, hwv, hgb, hcl, _⟩ := a.wh.cell k hk
  obtain ⟨wk, hwk⟩ : ∃ wk, wh.getD k 0 = wk := ⟨_, rfl⟩
  have HWk : Hid (wh.getD k 0 = wk) := hwk
  rw [hwk]
  clear hwk
  have c7 : W.cell? ⟨lb, 7, none⟩ = some (.slice (some ⟨g, 0, none⟩) wh.length wc) := by rw [a.box.at, ← hwv]; rfl
  have c8 : W.cell? ⟨lb, 8, none⟩ = some (.int .i64 (s.sf : Int)) := by rw [a.box.at]; rfl
  have k1 : ¬ (k : Int) = (wh.length : Int) := by omega
  have k2 : ((k : Int) == (wh.length : Int)) = false := by rw [beq_eq_false_iff_ne]; exact k1
  have k3 : (k : Int) < (s.sf : Int) := by omega
  have k4 : (k : Int) < (wh.length : Int) := by omega
  subst hwv
  have HAt : Hid (∀ U, Below W.heap.size W U → LgAt w U p nb sb cv n D lb fr mn tv (.slice (some ⟨g, 0, none⟩) wh.length wc) s tx wh ∧ U.cell? ⟨g, k, none⟩ = some (.int .i64 ((wk : Nat) : Int)) ∧ U.frozen? ⟨g, k, none⟩ = false) := fun U hU => by
    have a' := a.below hU
    obtain ⟨g', wc', e', _, h1, h2⟩ := a'.wh.cell k hk
    cases e'
    rw [HWk.out] at h1
    exact ⟨a', h1, h2⟩
  have HDr : Hid (Below W.heap.size W W.drew) := ⟨rfl, rfl, rfl, Nat.le_refl _, fun _ _ => rfl⟩
  have HG : Hid (w.heap.size ≤ g) := hgb
  clear a hcl
  go_enter Tryd.func38, Tryd.ntmps38
  go_upto_region 3 with fail
  refine wp_region_drawn (by kernel_rfl) ?_
  generalize W.drew = v2 at *
  clear c7 c8
  refine wpAny_take (i := 0) (v := .pointer (some ⟨lb, 0, none⟩)) rfl (by kernel_rfl) (by kernel_rfl) (by kernel_rfl) (fun _ _ _ h => h) (Or.inl ⟨by rfl, fun w => by go_simp⟩) ?_
  simp only [Act.put, List.getElem_toArray, List.getElem_cons_succ, List.getElem_cons_zero, List.setIfInBounds_toArray, List.set_cons_zero, List.set_cons_succ]
  refine wpAny_take (i := 1) (v := .pointer (some ⟨lb, 0, none⟩)) rfl (by kernel_rfl) (by kernel_rfl) (by kernel_rfl) (fun _ _ _ h => h) (Or.inl ⟨by rfl, fun w => by go_simp⟩) ?_
  simp only [Act.put, List.getElem_toArray, List.getElem_cons_succ, List.getElem_cons_zero, List.setIfInBounds_toArray, List.set_cons_zero, List.set_cons_succ]
  refine wpAny_take (i := 2) (v := .pointer (some ⟨lb, 0, none⟩)) rfl (by kernel_rfl) (by kernel_rfl) (by kernel_rfl) (fun _ _ _ h => h) (Or.inl ⟨by rfl, fun w => by go_simp⟩) ?_
  simp only [Act.put, List.getElem_toArray, List.getElem_cons_succ, List.getElem_cons_zero, List.setIfInBounds_toArray, List.set_cons_zero, List.set_cons_succ]
  refine wpAny_take (i := 3) (v := .pointer (some ⟨lb, 7, none⟩)) rfl (by kernel_rfl) (by kernel_rfl) (by kernel_rfl) (fun _ _ _ h => h) (Or.inl ⟨by rfl, fun w => by go_simp⟩) ?_
  simp only [Act.put, List.getElem_toArray, List.getElem_cons_succ, List.getElem_cons_zero, List.setIfInBounds_toArray, List.set_cons_zero, List.set_cons_succ]
  refine wpAny_take (i := 5) (v := .int .i64 (k : Int)) rfl (by kernel_rfl) (by kernel_rfl) (by kernel_rfl) (fun _ _ _ h => h) (Or.inl ⟨by rfl, fun w => by go_simp⟩) ?_
  simp only [Act.put, List.getElem_toArray, List.getElem_cons_succ, List.getElem_cons_zero, List.setIfInBounds_toArray, List.set_cons_zero, List.set_cons_succ]
  refine wpAny_take (i := 6) (v := .pointer (some ⟨lb, 0, none⟩)) rfl (by kernel_rfl) (by kernel_rfl) (by kernel_rfl) (fun _ _ _ h => h) (Or.inl ⟨by rfl, fun w => by go_simp⟩) ?_
  simp only [Act.put, List.getElem_toArray, List.getElem_cons_succ, List.getElem_cons_zero, List.setIfInBounds_toArray, List.set_cons_zero, List.set_cons_succ]
  refine wpAny_take (i := 7) (v := .pointer (some ⟨lb, 0, none⟩)) rfl (by kernel_rfl) (by kernel_rfl) (by kernel_rfl) (fun _ _ _ h => h) (Or.inl ⟨by rfl, fun w => by go_simp⟩) ?_
  simp only [Act.put, List.getElem_toArray, List.getElem_cons_succ, List.getElem_cons_zero, List.setIfInBounds_toArray, List.set_cons_zero, List.set_cons_succ]
  refine wpAny_take (i := 8) (v := .pointer (some ⟨lb, 7, none⟩)) rfl (by kernel_rfl) (by kernel_rfl) (by kernel_rfl) (fun _ _ _ h => h) (Or.inl ⟨by rfl, fun w => by go_simp⟩) ?_
  simp only [Act.put, List.getElem_toArray, List.getElem_cons_succ, List.getElem_cons_zero, List.setIfInBounds_toArray, List.set_cons_zero, List.set_cons_succ]
  refine wpAny_take (i := 10) (v := .int .i64 (k : Int)) rfl (by kernel_rfl) (by kernel_rfl) (by kernel_rfl) (fun _ _ _ h => h) (Or.inl ⟨by rfl, fun w => by go_simp⟩) ?_
  simp only [Act.put, List.getElem_toArray, List.getElem_cons_succ, List.getElem_cons_zero, List.setIfInBounds_toArray, List.set_cons_zero, List.set_cons_succ]
  refine wpAny_take (i := 13) (v := .pointer (some ⟨lb, 0, none⟩)) rfl (by kernel_rfl) (by kernel_rfl) (by kernel_rfl) (fun _ _ _ h => h) (Or.inl ⟨by rfl, fun w => by go_simp⟩) ?_
  simp only [Act.put, List.getElem_toArray, List.getElem_cons_succ, List.getElem_cons_zero, List.setIfInBounds_toArray, List.set_cons_zero, List.set_cons_succ]
  refine any_of_L (g := 17) (T := fun u => Below W.heap.size W u) _ _ _ _ ?_
  refine L_take (i := 4) (v := .slice (some ⟨g, 0, none⟩) wh.length wc) rfl rfl (by kernel_rfl) (by decide) (by kernel_rfl) (by kernel_rfl) (by kernel_rfl) (by kernel_rfl) (fun _ _ _ h => h) (Or.inl ⟨by rfl, fun w' hw' => by have c0 : w'.cell? ⟨lb, 7, none⟩ = some (.slice (some ⟨g, 0, none⟩) wh.length wc) := (by rw [(HAt.out w' hw').1.box.at]; rfl); clear hw'; go_simp⟩) HDr.out ?_
  simp only [Act.put, List.getElem_toArray, List.getElem_cons_succ, List.getElem_cons_zero, List.setIfInBounds_toArray, List.set_cons_zero, List.set_cons_succ]
  refine L_take (i := 9) (v := .slice (some ⟨g, 0, none⟩) wh.length wc) rfl rfl (by kernel_rfl) (by decide) (by kernel_rfl) (by kernel_rfl) (by kernel_rfl) (by kernel_rfl) (fun _ _ _ h => h) (Or.inl ⟨by rfl, fun w' hw' => by have c0 : w'.cell? ⟨lb, 7, none⟩ = some (.slice (some ⟨g, 0, none⟩) wh.length wc) := (by rw [(HAt.out w' hw').1.box.at]; rfl); clear hw'; go_simp⟩) HDr.out ?_
  simp only [Act.put, List.getElem_toArray, List.getElem_cons_succ, List.getElem_cons_zero, List.setIfInBounds_toArray, List.set_cons_zero, List.set_cons_succ]
  refine L_take (i := 11) (v := .pointer (some ⟨g, k, none⟩)) rfl rfl (by kernel_rfl) (by decide) (by kernel_rfl) (by kernel_rfl) (by kernel_rfl) (by kernel_rfl) (fun _ _ _ h => h) (Or.inl ⟨by rfl, fun w' hw' => by clear hw'; go_simp⟩) HDr.out ?_
  simp only [Act.put, List.getElem_toArray, List.getElem_cons_succ, List.getElem_cons_zero, List.setIfInBounds_toArray, List.set_cons_zero, List.set_cons_succ]
  refine L_take (i := 12) (v := .int .i64 ((wk : Nat) : Int)) rfl rfl (by kernel_rfl) (by decide) (by kernel_rfl) (by kernel_rfl) (by kernel_rfl) (by kernel_rfl) (fun _ _ _ h => h) (Or.inl ⟨by rfl, fun w' hw' => by have c0 := (HAt.out w' hw').2.1; clear hw'; go_simp⟩) HDr.out ?_
  simp only [Act.put, List.getElem_toArray, List.getElem_cons_succ, List.getElem_cons_zero, List.setIfInBounds_toArray, List.set_cons_zero, List.set_cons_succ]
  have HFr : Hid (Calls _ _ _ v2 _) := free_any (HAt.out v2 HDr.out).1 hl
  refine L_one (i := 14) (by kernel_rfl) ?_
  refine wpOp_step rfl ?_
  intro K hK
  rw [if_pos (by rfl)]
  have hK' : Shut (∀ a w, _ → K a w) := hK
  clear hK
  go_wp2_with fail
  refine HFr.out.mono ?_
  rintro e v5 ⟨f, rfl, hf, hs5⟩
  have H5 : Hid (Below W.heap.size W v5) := HDr.out.trans ((hs5.below _).mono HDr.out.size)
  have HIf : Hid (IsFree s.old wh f) := hf
  refine hK'.out _ _ ⟨H5.out, ?_⟩
  clear hK' K hs5 hf HFr HDr
  try simp only [Act.put, List.getElem_toArray, List.getElem_cons_succ, List.getElem_cons_zero, List.setIfInBounds_toArray, List.set_cons_zero, List.set_cons_succ]
  refine L_takeP (i := 15) (v := .pointer (some ⟨lb, 0, none⟩)) rfl (by decide) (by kernel_rfl) (by kernel_rfl) (by kernel_rfl) (fun _ _ _ h => h) (Or.inl ⟨by rfl, fun w' _ => by go_simp⟩) H5.out ?_
  simp only [Act.put, List.getElem_toArray, List.getElem_cons_succ, List.getElem_cons_zero, List.setIfInBounds_toArray, List.set_cons_zero, List.set_cons_succ]
  refine L_takeP (i := 16) (v := .pointer (some ⟨lb, 9, none⟩)) rfl (by decide) (by kernel_rfl) (by kernel_rfl) (by kernel_rfl) (fun _ _ _ h => h) (Or.inl ⟨by rfl, fun w' _ => by go_simp⟩) H5.out ?_
  simp only [Act.put, List.getElem_toArray, List.getElem_cons_succ, List.getElem_cons_zero, List.setIfInBounds_toArray, List.set_cons_zero, List.set_cons_succ]
  obtain ⟨a5, c5, f5⟩ := HAt.out v5 H5.out
  have a6 := a5.set 9 (.int .i64 ((wk : Nat) : Int)) (s' := { s with old := wk }) rfl
  have hlg : lb ≠ g := fun e => by
    have hh := a5.box
    unfold LgBox at hh
    rcases a5.wh.2 with ⟨hv, _⟩ | ⟨g1, c1, cur, hv, _, hg, _⟩
    · cases hv
    · cases hv
      rw [← e, hh] at hg
      cases hg
  have e9 : v5.cell? ⟨lb, 9, none⟩ = some (.int .i64 (s.old : Int)) := by rw [a5.box.at]; rfl
  have f9 := a5.box.fz 9
  obtain ⟨w6, hw6⟩ : ∃ w6, v5.setCell ⟨lb, 9, none⟩ (.int .i64 ((wk : Nat) : Int)) = w6 := ⟨_, rfl⟩
  have K6 : Hid (LKeep w.heap.size lb .nilIface (.slice (some ⟨g, 0, none⟩) wh.length wc) .nilIface (.slice (some ⟨g, 0, none⟩) wh.length wc) W w6) := by
    have k1 : LKeep w.heap.size lb .nilIface (.slice (some ⟨g, 0, none⟩) wh.length wc) .nilIface (.slice (some ⟨g, 0, none⟩) wh.length wc) W v5 := .of_below H5.out
    have hbs : Below w.heap.size v5 (v5.setCell ⟨lb, 9, none⟩ (.int .i64 ((wk : Nat) : Int))) := (Below.refl _ v5).setCell (p := ⟨lb, 9, none⟩) a5.llb _
    rw [← hw6]
    exact k1.setBox a5.llb 9 _ hbs.size hbs.os hbs.tape hbs.output
  rw [hw6] at a6
  have hc6 : w6.cell? ⟨g, k, none⟩ = some (.int .i64 ((wk : Nat) : Int)) ∧ w6.frozen? ⟨g, k, none⟩ = false := by
    obtain ⟨g', wc', e', _, h1, h2⟩ := a6.wh.cell k hk
    cases e'
    rw [HWk.out] at h1
    exact ⟨h1, h2⟩
  obtain ⟨w7, hw7⟩ : ∃ w7, w6.setCell ⟨g, k, none⟩ (.int .i64 (f : Int)) = w7 := ⟨_, rfl⟩
  have hb7 : Below w.heap.size w6 w7 := by rw [← hw7]; exact (Below.refl _ w6).setCell (p := ⟨g, k, none⟩) HG.out _
  have hne7 : ∀ b, b ≠ g → w7.heap[b]? = w6.heap[b]? := fun b hb => by rw [← hw7]; exact Below.heap_setCell _ _ _ _ hb
  have a7 : LgAt w w7 p nb sb cv n D lb fr mn tv (.slice (some ⟨g, 0, none⟩) wh.length wc) { s with old := wk } tx (wh.set k f) := by
    have hrow := a6.wh.set k hk f
    rw [hw7] at hrow
    refine a6.turn (fun j cs' t' e' h1' h2' => hne7 j (fun e2 => ?_)) ((hne7 lb hlg).trans a6.box) (by unfold NaRow at hrow ⊢; exact hrow) hb7
    rcases a6.wh.2 with ⟨hv, _⟩ | ⟨g1, c1, cur, hv, _, hg, _⟩
    · cases hv
    · cases hv
      rw [← e2, e'] at hg
      cases hg
      exact h2' rfl
  have e8 : w7.cell? ⟨lb, 8, none⟩ = some (.int .i64 (s.sf : Int)) := by rw [a7.box.at]; rfl
  have f8 := a7.box.fz 8
  have a8 : Hid (LgAt w (w7.setCell ⟨lb, 8, none⟩ (.int .i64 (k : Int))) p nb sb cv n D lb fr mn tv (.slice (some ⟨g, 0, none⟩) wh.length wc) { s with old := wk, sf := k } tx (wh.set k f)) := a7.set 8 (.int .i64 (k : Int)) rfl
  have K8 : Hid (LKeep w.heap.size lb .nilIface (.slice (some ⟨g, 0, none⟩) wh.length wc) .nilIface (.slice (some ⟨g, 0, none⟩) wh.length wc) W (w7.setCell ⟨lb, 8, none⟩ (.int .i64 (k : Int)))) := by
    have k2 : LKeep w.heap.size lb .nilIface (.slice (some ⟨g, 0, none⟩) wh.length wc) .nilIface (.slice (some ⟨g, 0, none⟩) wh.length wc) w6 w7 := ⟨hb7.os, hb7.tape, hb7.output, hb7.size, fun b hb hc => by
      rcases hc with hc | hc
      · exact hb7.block b hc
      · exact hne7 b (fun e => hc.2.2.1 (by rw [e]; rfl)), .refl _ _, .refl _ _⟩
    have hbs : Below w.heap.size w7 (w7.setCell ⟨lb, 8, none⟩ (.int .i64 (k : Int))) := (Below.refl _ w7).setCell (p := ⟨lb, 8, none⟩) a7.llb _
    exact (K6.out.trans k2).setBox a7.llb 8 _ hbs.size hbs.os hbs.tape hbs.output
  obtain ⟨c6, f6⟩ := hc6
  clear a5 a6 a7 hb7 hne7 K6 H5 HAt HG hlg hgb c5 f5
  refine L_go (by kernel_rfl) (by kernel_rfl) ?_
  refine wpOp_step rfl ?_
  intro K hK
  rw [if_pos (by rfl)]
  have hK' : Shut (∀ a w, _ → K a w) := hK
  clear hK
  go_wp2_with fail
  try rw [hw6]
  clear hw6 e9 f9
  refine hK'.out _ _ ?_
  clear hK' K
  try simp only [Act.put, List.getElem_toArray, List.getElem_cons_succ, List.getElem_cons_zero, List.setIfInBounds_toArray, List.set_cons_zero, List.set_cons_succ]
  refine wpAny_take (i := 18) (v := .pointer (some ⟨g, k, none⟩)) rfl (by kernel_rfl) (by kernel_rfl) (by kernel_rfl) (fun _ _ _ h => h) (Or.inl ⟨by rfl, fun w => by go_simp⟩) ?_
  simp only [Act.put, List.getElem_toArray, List.getElem_cons_succ, List.getElem_cons_zero, List.setIfInBounds_toArray, List.set_cons_zero, List.set_cons_succ]
  refine any_one (i := 19) (by kernel_rfl) ?_
  refine wpOp_step rfl ?_
  intro K hK
  rw [if_pos (by rfl)]
  have hK' : Shut (∀ a w, _ → K a w) := hK
  clear hK
  go_wp2_with fail
  try rw [hw7]
  clear hw7 c6 f6
  refine hK'.out _ _ ?_
  clear hK' K
  refine wpAny_done (by kernel_rfl) ?_ _
  go_wp2
  go_end0
  exact ⟨rfl, f, HIf.out, a8, K8⟩
end
end Go.Proofs.YteledlbcbcnidaaDoor

namespace Go.Proofs.YteledlbcbcnidaaDoor
set_option linter.unusedVariables false
set_option linter.unusedSimpArgs false
set_option maxRecDepth 100000
set_option maxHeartbeats 2000000
open Go.RowKit Go.Lib
/-- What is not safe is written once more, and made safe. -/
def flW (fr : Nat) (s : Ls) (tx : List UInt8) (wh : List Nat) : Nat → Nat → Dk → Int × Dk
  | 0, _, D => flR D
  | m + 1, k, D => if (wrR D (fr + wh.getD k 0) (pcB (pcAt s tx k))).1 = 0 then flW fr s tx wh m (k + 1) (wrR D (fr + wh.getD k 0) (pcB (pcAt s tx k))).2 else wrR D (fr + wh.getD k 0) (pcB (pcAt s tx k))
theorem wrR_two (D : Dk) (i : Nat) (l : List UInt8) : (wrR D i l).1 = 0 ∨ (wrR D i l).1 = 7 := by unfold wrR; split <;> simp
theorem flR_two (D : Dk) : (flR D).1 = 0 ∨ (flR D).1 = 7 := by unfold flR; split <;> simp
/-- A log's numbers are within bounds. -/
structure LgB (n fr : Nat) (s : Ls) (tx : List UInt8) (wh : List Nat) : Prop where
  nn : n ≤ 200
  wl : wh.length ≤ 250
  wp : wh.length * 60 ≤ tx.length + 59
  at_ : ∀ k, k < wh.length → fr + wh.getD k 0 < n
  tl : tx.length ≤ 100000
  sit : s.sit < 65536
  st : s.st ≤ 100000
  sf : s.sf ≤ wh.length
theorem ByRow.some {W : World} {base : Nat} {a : Option Addr} {m cap : Nat} {l : List UInt8} (h : ByRow W base (.slice a m cap) l) : cap = 0 ∨ a ≠ none := by
  rcases h.2 with ⟨e, _⟩ | ⟨g, c, cur, e, _⟩
  · cases e; exact .inl rfl
  · cases e; right; simp
section
variable {w W U : World} {p nb sb : Nat} {cv : Value} {n : Nat} {D : Dk} {lb fr mn : Nat} {tv wv : Value} {s : Ls} {tx : List UInt8} {wh : List Nat}
theorem flush_any (a : LgAt w W p nb sb cv n D lb fr mn tv wv s tx wh) (hB : LgB n fr s tx wh) (hs : D.lim 900000) :
    Calls Tryd.prog 24 #[.pointer (some ⟨lb, 0, none⟩)] W fun e w' => e = .returned (enE (flW fr s tx wh (wh.length - s.sf) s.sf D).1) ∧ ∃ cv', Hid (LgAt w w' p nb sb cv' n (flW fr s tx wh (wh.length - s.sf) s.sf D).2 lb fr mn tv wv s tx wh) ∧ Hid (Keeps w.heap.size dkT W w') := by
  obtain ⟨F, hF⟩ : ∃ F, flW fr s tx wh (wh.length - s.sf) s.sf D = F := ⟨_, rfl⟩
  obtain ⟨wa, wc, hwv⟩ := a.wh.shape
  obtain ⟨ta, tc, htv, _⟩ := a.tx.isBy
  subst hwv htv
  have c8 : W.cell? ⟨lb, 8, none⟩ = some (.int .i64 (s.sf : Int)) := by rw [a.box.at]; rfl
  have HA : Hid (LgAt w W p nb sb cv n D lb fr mn (.slice ta tx.length tc) (.slice wa wh.length wc) s tx wh) := a
  have HB : Hid (LgB n fr s tx wh) := hB
  have HF0 : Hid (flW fr s tx wh (wh.length - s.sf) s.sf D = F) := hF
  have HL0 : Hid (D.lim 900000) := hs
  have HC : Hid (∀ (V : World) (cv1 : Value) (D1 : Dk), LgAt w V p nb sb cv1 n D1 lb fr mn (.slice ta tx.length tc) (.slice wa wh.length wc) s tx wh → V.cell? ⟨lb, 0, none⟩ = some (.pointer (some ⟨p, 0, none⟩)) ∧ V.cell? ⟨lb, 3, none⟩ = some (.slice ta tx.length tc) ∧ V.cell? ⟨lb, 7, none⟩ = some (.slice wa wh.length wc)) := fun V cv1 D1 h => ⟨by rw [h.box.at]; rfl, by rw [h.box.at]; rfl, by rw [h.box.at]; rfl⟩
  have b1 : s.sf ≤ wh.length := hB.sf
  have b2 : wh.length ≤ 250 := hB.wl
  rw [hF]
  clear a hB hF hs
  go_enter Tryd.func24, Tryd.ntmps24
  go_wp2_with fail
  go_loopw [3] (fun t wr => ∃ (k : Nat) (cv1 : Value) (D1 : Dk), k ≤ wh.length ∧ t = .int .i64 k ∧ Hid (LgAt w wr p nb sb cv1 n D1 lb fr mn (.slice ta tx.length tc) (.slice wa wh.length wc) s tx wh ∧ Keeps w.heap.size dkT W wr ∧ flW fr s tx wh (wh.length - k) k D1 = F ∧ D1.lim (900000 + k))) (fun t _ => wh.length - (RowKit.intOf t).toNat)
  case atStart => exact ⟨s.sf, cv, D, b1, rfl, HA.out, Keeps.refl _ _ _, HF0.out, HL0.out.mono (by omega)⟩
  case round =>
    obtain ⟨k, cv1, D1, hk, rfl, H⟩ := hrel
    obtain ⟨a1, k1, hF1, hl1⟩ := H.out
    obtain ⟨c0, c3, c7⟩ := HC.out wr cv1 D1 a1
    have HK1 : Hid (Keeps w.heap.size dkT W wr) := k1
    have k0 : (0 : Int) ≤ k := by omega
    clear c8 HC HA HF0 HL0 H k1
    by_cases hlt : k < wh.length
    · have klt : (k : Int) < (wh.length : Int) := by omega
      obtain ⟨m, hm⟩ : ∃ m, wh.length - k = m + 1 := ⟨wh.length - k - 1, by omega⟩
      have hm' : wh.length - (k + 1) = m := by omega
      rw [hm] at hF1
      have hW := writePieceL a1 ta tx tc a1.tx.isBy' a1.tx.some k hlt (by have := HB.out.wp; omega) (by omega) HB.out.tl (HB.out.at_ k hlt) HB.out.nn HB.out.sit HB.out.st (hl1.mono (by omega))
      have hl2 := wrR_lim hl1 (fr + wh.getD k 0) (pcB (pcAt s tx k))
      have h2 := wrR_two D1 (fr + wh.getD k 0) (pcB (pcAt s tx k))
      unfold flW at hF1
      generalize wrR D1 (fr + wh.getD k 0) (pcB (pcAt s tx k)) = R at *
      rcases h2 with h2 | h2
      · rw [if_pos h2] at hF1
        rw [h2, enE_zero] at hW
        have HW : Hid (Calls _ _ _ wr _) := hW
        have HN : Hid (flW fr s tx wh (wh.length - (k + 1)) (k + 1) R.2 = F ∧ R.2.lim (900000 + (k + 1))) := ⟨by rw [hm']; exact hF1, hl2.mono (by omega)⟩
        clear a1 hF1 hl1 hl2 h2 hW hm hm'
        go_wp2_with fail
        refine HW.out.mono ?_
        rintro e w7 ⟨rfl, cv7, h7, k7⟩
        have HX : Hid (LgAt w w7 p nb sb cv7 n R.2 lb fr mn (.slice ta tx.length tc) (.slice wa wh.length wc) s tx wh ∧ Keeps w.heap.size dkT W w7 ∧ flW fr s tx wh (wh.length - (k + 1)) (k + 1) R.2 = F ∧ R.2.lim (900000 + (k + 1))) := ⟨h7.out, HK1.out.trans k7.out, HN.out.1, HN.out.2⟩
        clear h7 k7 HW HN HK1
        go_wp2_with fail
        go_roundw
        case rel => exact ⟨k + 1, cv7, R.2, by omega, by go_num, HX⟩
        case measure => simp [RowKit.intOf]; omega
      · have h2' : ¬ R.1 = 0 := by omega
        rw [if_neg h2'] at hF1
        have HE : Hid (R = F) := hF1
        rw [h2, enE_ne (show (7 : Int) ≠ 0 by decide)] at hW
        have HW : Hid (Calls _ _ _ wr _) := hW
        have H7 : Hid (R.1 = 7) := h2
        clear a1 hF1 hl1 hl2 h2 h2' hW hm hm'
        go_wp2_with fail
        refine HW.out.mono ?_
        rintro e w7 ⟨rfl, cv7, h7, k7⟩
        go_wp2
        go_ret
        refine ⟨?_, cv7, ?_, HK1.out.trans k7.out⟩
        · rw [← HE.out, H7.out, enE_ne (show (7 : Int) ≠ 0 by decide)]
          rfl
        · rw [← HE.out]
          exact h7
    · have klt : ¬ (k : Int) < (wh.length : Int) := by omega
      have hk0 : wh.length - k = 0 := by omega
      rw [hk0] at hF1
      have hFl := tn_fl a1.tn (hl1.mono (by omega))
      unfold flW at hF1
      rw [hF1] at hFl
      have HFl : Hid (Calls _ _ _ wr _) := hFl
      have H1 : Hid (LgAt w wr p nb sb cv1 n D1 lb fr mn (.slice ta tx.length tc) (.slice wa wh.length wc) s tx wh) := a1
      clear a1 hF1 hl1 hFl
      go_wp2_with fail
      refine HFl.out.mono ?_
      rintro e w7 ⟨rfl, cv7, h7, k7⟩
      go_wp2
      go_ret
      exact ⟨rfl, cv7, H1.out.disk h7.out k7.out, HK1.out.trans k7.out⟩
end
end Go.Proofs.YteledlbcbcnidaaDoor

namespace Go.Proofs.YteledlbcbcnidaaDoor
set_option linter.unusedVariables false
set_option linter.unusedSimpArgs false
set_option maxRecDepth 100000
set_option maxHeartbeats 2000000
open Go.RowKit Go.Lib
theorem IsFree.unique {old : Nat} {wh : List Nat} {f g : Nat} (h : IsFree old wh f) (k : IsFree old wh g) : f = g := by
  rcases Nat.lt_trichotomy f g with hl | hl | hl
  · rcases k.all f h.pos hl with e | e
    · exact absurd e h.no
    · exact absurd e h.out
  · exact hl
  · rcases h.all g k.pos hl with e | e
    · exact absurd e k.no
    · exact absurd e k.out
/-- The free block. -/
def freeN (old : Nat) (wh : List Nat) : Nat := ((List.range (wh.length + 3)).find? fun i => decide (1 ≤ i) && (decide (i ≠ old) && decide (i ∉ wh))).getD 0
theorem freeN_eq {old : Nat} {wh : List Nat} {f : Nat} (h : IsFree old wh f) : freeN old wh = f := by
  have hle := h.le.1
  unfold freeN
  have : (List.range (wh.length + 3)).find? (fun i => decide (1 ≤ i) && (decide (i ≠ old) && decide (i ∉ wh))) = some f := by
    rw [List.find?_range_eq_some]
    refine ⟨?_, by simp; omega, fun j hj => ?_⟩
    · simp only [Bool.and_eq_true, decide_eq_true_eq]
      exact ⟨h.pos, h.no, h.out⟩
    · by_cases h1 : 1 ≤ j
      · rcases h.all j h1 hj with e | e
        · simp [e]
        · simp [e]
      · simp [h1]
  rw [this]
  rfl
/-- Behind place. -/
def plc (s : Ls) (wh : List Nat) (k : Nat) : Ls × List Nat := if k = wh.length then (s, wh ++ [freeN s.old wh]) else if k < s.sf then ({ s with old := wh.getD k 0, sf := k }, wh.set k (freeN s.old wh)) else (s, wh)
/-- Behind write's loop. -/
def wrL (fr : Nat) (tt : List UInt8) : Nat → Nat → Ls → List Nat → Dk → Int × Ls × List Nat × Dk
  | 0, _, s, wh, D => (0, s, wh, D)
  | m + 1, k, s, wh, D =>
    if (wrR D (fr + (plc s wh k).2.getD k 0) (pcB (pcAt (plc s wh k).1 tt k))).1 = 0 then wrL fr tt m (k + 1) (plc s wh k).1 (plc s wh k).2 (wrR D (fr + (plc s wh k).2.getD k 0) (pcB (pcAt (plc s wh k).1 tt k))).2
    else ((wrR D (fr + (plc s wh k).2.getD k 0) (pcB (pcAt (plc s wh k).1 tt k))).1, (plc s wh k).1, (plc s wh k).2, (wrR D (fr + (plc s wh k).2.getD k 0) (pcB (pcAt (plc s wh k).1 tt k))).2)
section
variable {w W U : World} {p nb sb : Nat} {cv : Value} {n : Nat} {D : Dk} {lb fr mn : Nat} {tv wv : Value} {s : Ls} {tx : List UInt8} {wh : List Nat}
theorem place_any (a : LgAt w W p nb sb cv n D lb fr mn tv wv s tx wh) (k : Nat) (hk : k ≤ wh.length) (hl : wh.length ≤ 1000) :
    Calls Tryd.prog 38 #[.pointer (some ⟨lb, 0, none⟩), .int .i64 (k : Int)] W fun e w' => e = .returned (.tuple #[]) ∧ ∃ wv', Hid (LgAt w w' p nb sb cv n D lb fr mn tv wv' (plc s wh k).1 tx (plc s wh k).2) ∧ Hid (LKeep w.heap.size lb .nilIface wv .nilIface wv' W w') := by
  unfold plc
  by_cases h1 : k = wh.length
  · rw [if_pos h1, h1]
    refine (place_new a hl).mono ?_
    rintro e w' ⟨rfl, f, wv', hf, h2, h3⟩
    rw [freeN_eq hf]
    exact ⟨rfl, wv', h2, h3⟩
  · rw [if_neg h1]
    by_cases h2 : k < s.sf
    · rw [if_pos h2]
      refine (place_move a k (by omega) h2 hl).mono ?_
      rintro e w' ⟨rfl, f, hf, h2, h3⟩
      rw [freeN_eq hf]
      exact ⟨rfl, wv, h2, h3⟩
    · rw [if_neg h2]
      refine (place_none a k (by omega) (by omega) hl).mono ?_
      rintro e w' ⟨rfl, hs⟩
      exact ⟨rfl, wv, a.still hs, .of_below (hs.below _)⟩
end
end Go.Proofs.YteledlbcbcnidaaDoor

namespace Go.Proofs.YteledlbcbcnidaaDoor
set_option linter.unusedVariables false
set_option linter.unusedSimpArgs false
set_option maxRecDepth 100000
set_option maxHeartbeats 2000000
open Go.RowKit Go.Lib
section
variable {w W U : World} {p nb sb : Nat} {cv : Value} {n : Nat} {D : Dk} {lb fr mn : Nat} {tv wv : Value} {s : Ls} {tx : List UInt8} {wh : List Nat}
/-- What is begun is begun. -/
theorem begin_yes (a : LgAt w W p nb sb cv n D lb fr mn tv wv s tx wh) (hb : s.bg = true) :
    Calls Tryd.prog 37 #[.pointer (some ⟨lb, 0, none⟩)] W fun e w' => e = .returned .nilIface ∧ Hid (LgAt w w' p nb sb cv n D lb fr mn tv wv s tx wh) ∧ Hid (LKeep w.heap.size lb .nilIface wv .nilIface wv W w') := by
  have c11 : W.cell? ⟨lb, 11, none⟩ = some (.bool true) := by rw [a.box.at]; simp [lgC, hb]
  have hset := a.set 11 (.bool true) (s' := s) (by simp [lgC, hb])
  have HKp : Hid (LKeep w.heap.size lb .nilIface wv .nilIface wv W (W.setCell ⟨lb, 11, none⟩ (.bool true))) := by
    have hbs : Below w.heap.size W (W.setCell ⟨lb, 11, none⟩ (.bool true)) := (Below.refl _ W).setCell (p := ⟨lb, 11, none⟩) a.llb _
    exact (LKeep.refl _ _ _ _ _).setBox a.llb 11 _ hbs.size hbs.os hbs.tape hbs.output
  have HA : Hid (LgAt w (W.setCell ⟨lb, 11, none⟩ (.bool true)) p nb sb cv n D lb fr mn tv wv s tx wh) := hset
  have hf : W.frozen? ⟨lb, 11, none⟩ = false := a.box.fz 11
  clear a hset hb
  go_enter Tryd.func37, Tryd.ntmps37
  go_wp2
  go_ret
  exact ⟨rfl, HA, HKp⟩
/-- What Open found is made safe. -/
theorem begin_no (a : LgAt w W p nb sb cv n D lb fr mn tv wv s tx wh) (hb : s.bg = false) (hl : s.ld = true) (hs : D.lim 1000000) :
    Calls Tryd.prog 37 #[.pointer (some ⟨lb, 0, none⟩)] W fun e w' => e = .returned (enE (flR D).1) ∧ ∃ cv', Hid (LgAt w w' p nb sb cv' n (flR D).2 lb fr mn tv wv { s with bg := decide ((flR D).1 = 0) } tx wh) ∧ Hid (LKeep w.heap.size lb .nilIface wv .nilIface wv W w') := by
  have c11 : W.cell? ⟨lb, 11, none⟩ = some (.bool false) := by rw [a.box.at]; simp [lgC, hb]
  have c10 : W.cell? ⟨lb, 10, none⟩ = some (.bool true) := by rw [a.box.at]; simp [lgC, hl]
  have c0 : W.cell? ⟨lb, 0, none⟩ = some (.pointer (some ⟨p, 0, none⟩)) := by rw [a.box.at]; rfl
  have HF : Hid (Calls _ _ _ W _) := tn_fl a.tn hs
  have HN : Hid (∀ (U : World) (cv' : Value), Tn w U p nb sb cv' n (flR D).2 → Keeps w.heap.size dkT W U → LgAt w (U.setCell ⟨lb, 11, none⟩ (.bool (decide ((flR D).1 = 0)))) p nb sb cv' n (flR D).2 lb fr mn tv wv { s with bg := decide ((flR D).1 = 0) } tx wh ∧ U.cell? ⟨lb, 11, none⟩ = some (.bool false) ∧ U.frozen? ⟨lb, 11, none⟩ = false ∧ LKeep w.heap.size lb .nilIface wv .nilIface wv W (U.setCell ⟨lb, 11, none⟩ (.bool (decide ((flR D).1 = 0))))) := fun U cv' ht hk => by
    have a' := a.disk ht hk
    refine ⟨a'.set 11 _ rfl, by rw [a'.box.at]; simp [lgC, hb], a'.box.fz 11, ?_⟩
    have hbs : Below w.heap.size U (U.setCell ⟨lb, 11, none⟩ (.bool (decide ((flR D).1 = 0)))) := (Below.refl _ U).setCell (p := ⟨lb, 11, none⟩) a'.llb _
    exact (LKeep.of_keeps hk).setBox a'.llb 11 _ hbs.size hbs.os hbs.tape hbs.output
  have hfl : (flR D).1 = 0 ∨ (flR D).1 = 7 := by unfold flR; split <;> simp
  clear a hb hl
  generalize flR D = R at *
  rcases hfl with h0 | h0
  · rw [h0] at HF HN ⊢
    rw [enE_zero] at HF ⊢
    rw [show decide ((0 : Int) = 0) = true from rfl] at HN ⊢
    go_enter Tryd.func37, Tryd.ntmps37
    go_wp2_with fail
    refine HF.out.mono ?_
    rintro e w7 ⟨rfl, cv7, h7, k7⟩
    obtain ⟨h1, c11', f11, hk⟩ := HN.out w7 cv7 h7.out k7.out
    have H1 : Hid (LgAt _ _ _ _ _ _ _ _ _ _ _ _ _ _ _ _) := h1
    have HK : Hid (LKeep _ _ _ _ _ _ _ _) := hk
    clear HF HN h7 k7 h1 hk
    go_wp2
    go_ret
    exact ⟨rfl, cv7, H1, HK⟩
  · rw [h0] at HF HN ⊢
    rw [enE_ne (show (7 : Int) ≠ 0 by decide)] at HF ⊢
    rw [show decide ((7 : Int) = 0) = false from rfl] at HN ⊢
    go_enter Tryd.func37, Tryd.ntmps37
    go_wp2_with fail
    refine HF.out.mono ?_
    rintro e w7 ⟨rfl, cv7, h7, k7⟩
    obtain ⟨h1, c11', f11, hk⟩ := HN.out w7 cv7 h7.out k7.out
    have H1 : Hid (LgAt _ _ _ _ _ _ _ _ _ _ _ _ _ _ _ _) := h1
    have HK : Hid (LKeep _ _ _ _ _ _ _ _) := hk
    clear HF HN h7 k7 h1 hk
    go_wp2
    go_ret
    exact ⟨rfl, cv7, H1, HK⟩
/-- Behind begin. -/
def bgn (s : Ls) (D : Dk) : Int × Ls × Dk := if s.bg = true then (0, s, D) else ((flR D).1, { s with bg := decide ((flR D).1 = 0) }, (flR D).2)
theorem begin_any (a : LgAt w W p nb sb cv n D lb fr mn tv wv s tx wh) (hl : s.bg = true ∨ s.ld = true) (hs : D.lim 1000000) :
    Calls Tryd.prog 37 #[.pointer (some ⟨lb, 0, none⟩)] W fun e w' => e = .returned (enE (bgn s D).1) ∧ ∃ cv', Hid (LgAt w w' p nb sb cv' n (bgn s D).2.2 lb fr mn tv wv (bgn s D).2.1 tx wh) ∧ Hid (LKeep w.heap.size lb .nilIface wv .nilIface wv W w') := by
  unfold bgn
  by_cases h : s.bg = true
  · rw [if_pos h]
    refine (begin_yes a h).mono ?_
    rintro e w' ⟨rfl, h1, h2⟩
    exact ⟨rfl, cv, h1, h2⟩
  · rw [if_neg h]
    exact begin_no a (by simpa using h) (hl.resolve_left h) hs
theorem bgn_two (s : Ls) (D : Dk) : (bgn s D).1 = 0 ∨ (bgn s D).1 = 7 := by
  unfold bgn
  split
  · exact .inl rfl
  · exact flR_two D
theorem bgn_same (s : Ls) (D : Dk) : (bgn s D).2.1.sit = s.sit ∧ (bgn s D).2.1.st = s.st ∧ (bgn s D).2.1.sf = s.sf ∧ (bgn s D).2.1.old = s.old := by
  unfold bgn
  split <;> exact ⟨rfl, rfl, rfl, rfl⟩
theorem bgn_lim {s : Ls} {D : Dk} {k : Nat} (h : D.lim k) : (bgn s D).2.2.lim (k + 1) := by
  unfold bgn
  split
  · exact h.mono (Nat.le_succ _)
  · exact flR_lim h
end
end Go.Proofs.YteledlbcbcnidaaDoor

namespace Go.Proofs.YteledlbcbcnidaaDoor
set_option linter.unusedVariables false
set_option linter.unusedSimpArgs false
set_option maxRecDepth 100000
set_option maxHeartbeats 2000000
open Go.RowKit Go.Lib
/-- What write asks of a log's numbers. -/
def wrOk (n fr : Nat) : Nat → Nat → Ls → List Nat → Prop
  | 0, _, _, _ => True
  | m + 1, k, s, wh => (k ≤ wh.length ∧ wh.length ≤ 240 ∧ s.sit < 65536 ∧ s.st ≤ 100000 ∧ fr + (plc s wh k).2.getD k 0 < n) ∧ wrOk n fr m (k + 1) (plc s wh k).1 (plc s wh k).2
/-- Behind write. -/
def wrT (fr : Nat) (tt tx : List UInt8) (s : Ls) (wh : List Nat) (D : Dk) : Int × Ls × List Nat × Dk :=
  if (bgn s D).1 = 0 then wrL fr tt (pcs tt.length - tx.length / 60) (tx.length / 60) (bgn s D).2.1 wh (bgn s D).2.2 else ((bgn s D).1, (bgn s D).2.1, wh, (bgn s D).2.2)
theorem plc_len (s : Ls) (wh : List Nat) (k : Nat) (h : k ≤ wh.length) : k < (plc s wh k).2.length := by
  unfold plc
  split
  · simp; omega
  · split
    · simp; omega
    · simp only; omega
theorem plc_same (s : Ls) (wh : List Nat) (k : Nat) : (plc s wh k).1.sit = s.sit ∧ (plc s wh k).1.st = s.st := by
  unfold plc
  split
  · exact ⟨rfl, rfl⟩
  · split <;> exact ⟨rfl, rfl⟩
section
variable {w W U : World} {p nb sb : Nat} {cv : Value} {n : Nat} {D : Dk} {lb fr mn : Nat} {tv wv wv' : Value} {s : Ls} {tx : List UInt8} {wh : List Nat}
theorem LgAt.bytes (a : LgAt w W p nb sb cv n D lb fr mn tv wv s tx wh) {v : Value} {l : List UInt8} (h : ByRow W w.heap.size v l) (k : LKeep w.heap.size lb .nilIface wv .nilIface wv' W U) : ByRow U w.heap.size v l :=
  ownsRow_keep h (fun b cs e _ => by
    have h1 : b ≠ lb := fun e2 => by
      have hh := a.box
      unfold LgBox at hh
      rw [← e2, e] at hh
      cases hh
    have h2 : (Value.nilIface).ownBlock ≠ some b := fun e2 => by cases e2
    have h3 : ∀ (cs' : Array Value) (t : TypeId) (fr' : Nat × Nat), W.heap[b]? = some (.cells cs' t fr') → t ∉ dkT := fun cs' t fr' e' => by
      rw [e] at e'
      cases e'
      decide
    exact k.block b (Array.getElem?_eq_some_iff.1 e).1 (.inr ⟨h1, h2, a.wh.own_ne e (by decide), h3⟩))
theorem write_any (a : LgAt w W p nb sb cv n D lb fr mn tv wv s tx wh) (ttv : Value) (tt : List UInt8) (htt : ByRow W w.heap.size ttv tt) (hl : s.bg = true ∨ s.ld = true) (hs : D.lim 900000) (hn : n ≤ 200) (htl : tt.length ≤ 14000) (htx : tx.length ≤ tt.length) (hok : wrOk n fr (pcs tt.length - tx.length / 60) (tx.length / 60) (bgn s D).2.1 wh) :
    Calls Tryd.prog 23 #[.pointer (some ⟨lb, 0, none⟩), ttv] W fun e w' => e = .returned (enE (wrT fr tt tx s wh D).1) ∧ ∃ cv' wv', Hid (LgAt w w' p nb sb cv' n (wrT fr tt tx s wh D).2.2.2 lb fr mn tv wv' (wrT fr tt tx s wh D).2.1 tx (wrT fr tt tx s wh D).2.2.1) ∧ Hid (LKeep w.heap.size lb .nilIface wv .nilIface wv' W w') := by
  obtain ⟨ta, tc, htv, _⟩ := htt.isBy
  obtain ⟨xa, xc, hxv, _⟩ := a.tx.isBy
  subst htv hxv
  have hB := begin_any a hl (hs.mono (by omega))
  have hlim := bgn_lim (s := s) hs
  have h2 := bgn_two s D
  obtain ⟨F, hF⟩ : ∃ F, wrT fr tt tx s wh D = F := ⟨_, rfl⟩
  obtain ⟨P, hP⟩ : ∃ P, pcs tt.length = P := ⟨_, rfl⟩
  have hP1 : P * 60 ≤ tt.length + 59 := by rw [← hP]; unfold pcs; omega
  have hP2 : tx.length / 60 ≤ P := by rw [← hP]; unfold pcs; omega
  have HPc : Hid (∀ V : World, Calls Tryd.prog 35 #[.slice ta tt.length tc] V fun e w' => e = .returned (.int .i64 (P : Nat)) ∧ w' = V) := fun V => by
    rw [← hP]
    exact pieces_any ta tt.length tc V (by omega)
  have HT : Hid (∀ (V : World) (wv1 : Value), LKeep w.heap.size lb .nilIface wv .nilIface wv1 W V → ByRow V w.heap.size (.slice ta tt.length tc) tt) := fun V wv1 h => a.bytes htt h
  rw [hF]
  unfold wrT at hF
  rw [hP] at hF hok
  generalize bgn s D = G at *
  have P1 : (P : Int) ≤ 240 := by omega
  have P0 : P ≤ 240 := by omega
  have xl : (tx.length : Int) ≤ 14000 := by omega
  have HP1 : Hid (P * 60 ≤ tt.length + 59) := hP1
  have HTl : Hid (tt.length ≤ 14000 ∧ n ≤ 200) := ⟨htl, hn⟩
  rcases h2 with h2 | h2
  · rw [if_pos h2] at hF
    rw [h2, enE_zero] at hB
    have HB : Hid (Calls _ _ _ W _) := hB
    have HF : Hid (wrL fr tt (P - tx.length / 60) (tx.length / 60) G.2.1 wh G.2.2 = F ∧ wrOk n fr (P - tx.length / 60) (tx.length / 60) G.2.1 wh ∧ G.2.2.lim 900001) := ⟨hF, hok, hlim⟩
    clear a htt hl hs hn htl htx hok hlim hF hB h2 hP hP1
    go_enter Tryd.func23, Tryd.ntmps23
    go_wp2_with fail
    refine HB.out.mono ?_
    rintro e w3 ⟨rfl, cv3, h3, k3⟩
    have c3 : w3.cell? ⟨lb, 3, none⟩ = some (.slice xa tx.length xc) := by rw [h3.out.box.at]; rfl
    have hdiv : (tx.length : Int) / 60 = ((tx.length / 60 : Nat) : Int) := by omega
    obtain ⟨q, hq⟩ : ∃ q : Nat, tx.length / 60 = q := ⟨_, rfl⟩
    rw [hq] at hdiv HF hP2
    have HS : Hid (LgAt w w3 p nb sb cv3 n G.2.2 lb fr mn (.slice xa tx.length xc) wv G.2.1 tx wh ∧ LKeep w.heap.size lb .nilIface wv .nilIface wv W w3) := ⟨h3.out, k3.out⟩
    clear HB h3 k3 hq
    go_wp2_with fail
    have HQ : Hid ((tx.length : Int) / 60 = (q : Int)) := hdiv
    clear c3
    go_loopw [6] (fun t wr => ∃ (k : Nat) (cv1 wv1 : Value) (s1 : Ls) (wh1 : List Nat) (D1 : Dk), k ≤ P ∧ t = .int .i64 k ∧ Hid (LgAt w wr p nb sb cv1 n D1 lb fr mn (.slice xa tx.length xc) wv1 s1 tx wh1 ∧ LKeep w.heap.size lb .nilIface wv .nilIface wv1 W wr ∧ wrL fr tt (P - k) k s1 wh1 D1 = F ∧ wrOk n fr (P - k) k s1 wh1 ∧ D1.lim (900001 + k))) (fun t _ => P - (RowKit.intOf t).toNat)
    case atStart => exact ⟨q, cv3, wv, G.2.1, wh, G.2.2, hP2, by first | rfl | rw [HQ.out], HS.out.1, HS.out.2, HF.out.1, HF.out.2.1, HF.out.2.2.mono (by omega)⟩
    case round =>
      obtain ⟨k, cv1, wv1, s1, wh1, D1, hk, rfl, H⟩ := hrel
      obtain ⟨a1, k1, hF1, ho1, hl1⟩ := H.out
      have HPw : Hid (Calls _ _ _ wr _) := HPc.out wr
      have k0 : (0 : Int) ≤ k := by omega
      clear H HS HF hdiv HQ HPc
      by_cases hlt : k < P
      · have klt : (k : Int) < (P : Int) := by omega
        obtain ⟨m, hm⟩ : ∃ m, P - k = m + 1 := ⟨P - k - 1, by omega⟩
        have hm' : P - (k + 1) = m := by omega
        rw [hm] at hF1 ho1
        unfold wrOk at ho1
        obtain ⟨⟨o1, o2, o3, o4, o5⟩, ho2⟩ := ho1
        have hpl := place_any a1 k o1 (by omega)
        have hW : ∀ (V : World) (wv2 : Value), LgAt w V p nb sb cv1 n D1 lb fr mn (.slice xa tx.length xc) wv2 (plc s1 wh1 k).1 tx (plc s1 wh1 k).2 → LKeep w.heap.size lb .nilIface wv1 .nilIface wv2 wr V → Calls Tryd.prog 39 #[.pointer (some ⟨lb, 0, none⟩), .slice ta tt.length tc, .int .i64 (k : Int)] V fun e w' => e = .returned (enE (wrR D1 (fr + (plc s1 wh1 k).2.getD k 0) (pcB (pcAt (plc s1 wh1 k).1 tt k))).1) ∧ ∃ cv', Hid (LgAt w w' p nb sb cv' n (wrR D1 (fr + (plc s1 wh1 k).2.getD k 0) (pcB (pcAt (plc s1 wh1 k).1 tt k))).2 lb fr mn (.slice xa tx.length xc) wv2 (plc s1 wh1 k).1 tx (plc s1 wh1 k).2) ∧ Hid (LKeep w.heap.size lb .nilIface wv .nilIface wv2 W w') := fun V wv2 a2 k2 => by
          have k12 := k1.trans k2
          have hby := HT.out V wv2 k12
          refine (writePieceL a2 ta tt tc hby.isBy' hby.some k (plc_len s1 wh1 k o1) (by have := HP1.out; omega) (by omega) (by have := HTl.out.1; omega) o5 HTl.out.2 (by rw [(plc_same s1 wh1 k).1]; exact o3) (by rw [(plc_same s1 wh1 k).2]; exact o4) (hl1.mono (by omega))).mono ?_
          rintro e w' ⟨rfl, cv', h1, h2⟩
          exact ⟨rfl, cv', h1, k12.trans (.of_keeps h2.out)⟩
        have hl2 := wrR_lim hl1 (fr + (plc s1 wh1 k).2.getD k 0) (pcB (pcAt (plc s1 wh1 k).1 tt k))
        have h2 := wrR_two D1 (fr + (plc s1 wh1 k).2.getD k 0) (pcB (pcAt (plc s1 wh1 k).1 tt k))
        unfold wrL at hF1
        generalize wrR D1 (fr + (plc s1 wh1 k).2.getD k 0) (pcB (pcAt (plc s1 wh1 k).1 tt k)) = R at *
        generalize plc s1 wh1 k = S1 at *
        have HPl : Hid (Calls _ _ _ wr _) := hpl
        rcases h2 with h2 | h2
        · rw [if_pos h2] at hF1
          simp only [h2, enE_zero] at hW
          have HW : Hid (∀ (V : World) (wv2 : Value), _ → _ → Calls _ _ _ V _) := hW
          have HN : Hid (wrL fr tt (P - (k + 1)) (k + 1) S1.1 S1.2 R.2 = F ∧ wrOk n fr (P - (k + 1)) (k + 1) S1.1 S1.2 ∧ R.2.lim (900001 + (k + 1))) := ⟨by rw [hm']; exact hF1, by rw [hm']; exact ho2, hl2.mono (by omega)⟩
          clear a1 k1 hF1 ho2 hl1 hl2 h2 hW hm hm' o1 o2 o3 o4 o5 hpl
          go_wp2_with fail
          refine HPw.out.mono ?_
          rintro e w4 ⟨rfl, rfl⟩
          go_wp2_with fail
          refine HPl.out.mono ?_
          rintro e w5 ⟨rfl, wv2, h5, k5⟩
          have HW5 : Hid (Calls _ _ _ w5 _) := HW.out w5 wv2 h5.out k5.out
          clear HPl HPw HW h5 k5
          go_wp2_with fail
          refine HW5.out.mono ?_
          rintro e w7 ⟨rfl, cv7, h7, k7⟩
          have HX : Hid (LgAt w w7 p nb sb cv7 n R.2 lb fr mn (.slice xa tx.length xc) wv2 S1.1 tx S1.2 ∧ LKeep w.heap.size lb .nilIface wv .nilIface wv2 W w7 ∧ wrL fr tt (P - (k + 1)) (k + 1) S1.1 S1.2 R.2 = F ∧ wrOk n fr (P - (k + 1)) (k + 1) S1.1 S1.2 ∧ R.2.lim (900001 + (k + 1))) := ⟨h7.out, k7.out, HN.out⟩
          clear h7 k7 HW5 HN
          go_wp2_with fail
          go_roundw
          case rel => exact ⟨k + 1, cv7, wv2, S1.1, S1.2, R.2, by omega, by go_num, HX⟩
          case measure => simp [RowKit.intOf]; omega
        · have h2' : ¬ R.1 = 0 := by omega
          rw [if_neg h2'] at hF1
          have HE : Hid ((R.1, S1.1, S1.2, R.2) = F) := hF1
          simp only [h2, enE_ne (show (7 : Int) ≠ 0 by decide)] at hW
          have HW : Hid (∀ (V : World) (wv2 : Value), _ → _ → Calls _ _ _ V _) := hW
          have H7 : Hid (R.1 = 7) := h2
          clear a1 k1 hF1 ho2 hl1 hl2 h2 h2' hW hm hm' o1 o2 o3 o4 o5 hpl
          go_wp2_with fail
          refine HPw.out.mono ?_
          rintro e w4 ⟨rfl, rfl⟩
          go_wp2_with fail
          refine HPl.out.mono ?_
          rintro e w5 ⟨rfl, wv2, h5, k5⟩
          have HW5 : Hid (Calls _ _ _ w5 _) := HW.out w5 wv2 h5.out k5.out
          clear HPl HPw HW h5 k5
          go_wp2_with fail
          refine HW5.out.mono ?_
          rintro e w7 ⟨rfl, cv7, h7, k7⟩
          go_wp2
          go_ret
          rw [← HE.out]
          refine ⟨?_, cv7, wv2, h7, k7⟩
          simp only [H7.out, enE_ne (show (7 : Int) ≠ 0 by decide)]
          rfl
      · have klt : ¬ (k : Int) < (P : Int) := by omega
        have hk0 : P - k = 0 := by omega
        rw [hk0] at hF1
        unfold wrL at hF1
        have HE : Hid ((0, s1, wh1, D1) = F) := hF1
        have HA1 : Hid (LgAt w wr p nb sb cv1 n D1 lb fr mn (.slice xa tx.length xc) wv1 s1 tx wh1 ∧ LKeep w.heap.size lb .nilIface wv .nilIface wv1 W wr) := ⟨a1, k1⟩
        clear a1 k1 hF1 ho1 hl1
        go_wp2_with fail
        refine HPw.out.mono ?_
        rintro e w4 ⟨rfl, rfl⟩
        go_wp2
        go_ret
        rw [← HE.out]
        exact ⟨rfl, cv1, wv1, HA1.out.1, HA1.out.2⟩
  · have h2' : ¬ G.1 = 0 := by omega
    rw [if_neg h2'] at hF
    have HE : Hid ((G.1, G.2.1, wh, G.2.2) = F) := hF
    rw [h2, enE_ne (show (7 : Int) ≠ 0 by decide)] at hB
    have HB : Hid (Calls _ _ _ W _) := hB
    have H7 : Hid (G.1 = 7) := h2
    clear a htt hl hs hn htl htx hok hlim hF hB h2 h2' hP hP1
    go_enter Tryd.func23, Tryd.ntmps23
    go_wp2_with fail
    refine HB.out.mono ?_
    rintro e w7 ⟨rfl, cv7, h7, k7⟩
    go_wp2
    go_ret
    rw [← HE.out]
    refine ⟨?_, cv7, wv, h7, k7⟩
    simp only [H7.out, enE_ne (show (7 : Int) ≠ 0 by decide)]
    rfl
end
end Go.Proofs.YteledlbcbcnidaaDoor

namespace Go.Proofs.YteledlbcbcnidaaDoor
set_option linter.unusedVariables false
set_option linter.unusedSimpArgs false
set_option maxRecDepth 100000
set_option maxHeartbeats 2000000
open Go.RowKit Go.Lib
theorem flW_two (fr : Nat) (s : Ls) (tx : List UInt8) (wh : List Nat) : ∀ (m k : Nat) (D : Dk), (flW fr s tx wh m k D).1 = 0 ∨ (flW fr s tx wh m k D).1 = 7
  | 0, _, D => flR_two D
  | m + 1, k, D => by
    unfold flW
    split
    · exact flW_two fr s tx wh m (k + 1) _
    · exact wrR_two _ _ _
/-- Behind Sync. -/
def snc (fr : Nat) (s : Ls) (tx : List UInt8) (wh : List Nat) (D : Dk) : Int × Ls × Dk :=
  if s.lo = true then (7, s, D) else if (flW fr s tx wh (wh.length - s.sf) s.sf D).1 = 0 then (0, { s with sf := wh.length, old := 0 }, (flW fr s tx wh (wh.length - s.sf) s.sf D).2) else (7, { s with lo := true }, (flW fr s tx wh (wh.length - s.sf) s.sf D).2)
section
variable {w W U : World} {p nb sb : Nat} {cv : Value} {n : Nat} {D : Dk} {lb fr mn : Nat} {tv wv wv' : Value} {s : Ls} {tx : List UInt8} {wh : List Nat}
theorem sync_any (a : LgAt w W p nb sb cv n D lb fr mn tv wv s tx wh) (hB : LgB n fr s tx wh) (hs : D.lim 900000) :
    Calls Tryd.prog 9 #[.pointer (some ⟨lb, 0, none⟩)] W fun e w' => e = .returned (enE (snc fr s tx wh D).1) ∧ ∃ cv', Hid (LgAt w w' p nb sb cv' n (snc fr s tx wh D).2.2 lb fr mn tv wv (snc fr s tx wh D).2.1 tx wh) ∧ Hid (LKeep w.heap.size lb .nilIface wv .nilIface wv W w') := by
  have c12 : W.cell? ⟨lb, 12, none⟩ = some (.bool s.lo) := by rw [a.box.at]; rfl
  unfold snc
  by_cases hlo : s.lo = true
  · rw [if_pos hlo]
    rw [hlo] at c12
    have HA : Hid (LgAt w W p nb sb cv n D lb fr mn tv wv s tx wh) := a
    clear a hB hs hlo
    rw [enE_ne (show (7 : Int) ≠ 0 by decide)]
    go_enter Tryd.func9, Tryd.ntmps9
    go_wp2
    go_ret
    exact ⟨rfl, cv, HA, LKeep.refl _ _ _ _ _⟩
  · rw [if_neg hlo]
    have hlo' : s.lo = false := by simpa using hlo
    rw [hlo'] at c12
    have hFl := flush_any a hB hs
    have h2 := flW_two fr s tx wh (wh.length - s.sf) s.sf D
    obtain ⟨wa, wc, hwv⟩ := a.wh.shape
    clear hlo hB hs a
    generalize flW fr s tx wh (wh.length - s.sf) s.sf D = R at *
    rcases h2 with h2 | h2
    · rw [if_pos h2]
      rw [h2, enE_zero] at hFl
      have HF : Hid (Calls _ _ _ W _) := hFl
      have HN : Hid (∀ (V : World) (cv1 : Value), LgAt w V p nb sb cv1 n R.2 lb fr mn tv wv s tx wh → LgAt w ((V.setCell ⟨lb, 8, none⟩ (.int .i64 (wh.length : Int))).setCell ⟨lb, 9, none⟩ (.int .i64 0)) p nb sb cv1 n R.2 lb fr mn tv wv { s with sf := wh.length, old := 0 } tx wh ∧ LKeep w.heap.size lb .nilIface wv .nilIface wv V ((V.setCell ⟨lb, 8, none⟩ (.int .i64 (wh.length : Int))).setCell ⟨lb, 9, none⟩ (.int .i64 0)) ∧ V.cell? ⟨lb, 7, none⟩ = some (.slice wa wh.length wc) ∧ V.cell? ⟨lb, 8, none⟩ = some (.int .i64 (s.sf : Int)) ∧ V.frozen? ⟨lb, 8, none⟩ = false ∧ (V.setCell ⟨lb, 8, none⟩ (.int .i64 (wh.length : Int))).cell? ⟨lb, 9, none⟩ = some (.int .i64 (s.old : Int)) ∧ (V.setCell ⟨lb, 8, none⟩ (.int .i64 (wh.length : Int))).frozen? ⟨lb, 9, none⟩ = false) := fun V cv1 a1 => by
        have a2 := a1.set 8 (.int .i64 (wh.length : Int)) (s' := { s with sf := wh.length }) rfl
        have a3 := a2.set 9 (.int .i64 0) (s' := { s with sf := wh.length, old := 0 }) rfl
        have b1 : Below w.heap.size V (V.setCell ⟨lb, 8, none⟩ (.int .i64 (wh.length : Int))) := (Below.refl _ V).setCell (p := ⟨lb, 8, none⟩) a1.llb _
        have b2 : Below w.heap.size (V.setCell ⟨lb, 8, none⟩ (.int .i64 (wh.length : Int))) ((V.setCell ⟨lb, 8, none⟩ (.int .i64 (wh.length : Int))).setCell ⟨lb, 9, none⟩ (.int .i64 0)) := (Below.refl _ _).setCell (p := ⟨lb, 9, none⟩) a1.llb _
        exact ⟨a3, ((LKeep.refl _ _ _ _ _).setBox a1.llb 8 _ b1.size b1.os b1.tape b1.output).setBox a1.llb 9 _ b2.size b2.os b2.tape b2.output, by rw [a1.box.at, ← hwv]; rfl, by rw [a1.box.at]; rfl, a1.box.fz 8, by rw [a2.box.at]; rfl, a2.box.fz 9⟩
      clear hFl h2 hwv
      go_enter Tryd.func9, Tryd.ntmps9
      go_wp2_with fail
      refine HF.out.mono ?_
      rintro e w7 ⟨rfl, cv7, h7, k7⟩
      obtain ⟨n1, n2, d7, d8, f8, d9, f9⟩ := HN.out w7 cv7 h7.out
      have H1 : Hid (LgAt _ _ _ _ _ _ _ _ _ _ _ _ _ _ _ _) := n1
      have HK : Hid (LKeep _ _ _ _ _ _ _ _) := (LKeep.of_keeps k7.out).trans n2
      clear HF HN h7 k7 n1 n2 c12
      go_wp2
      go_ret
      exact ⟨rfl, cv7, H1, HK⟩
    · have h2' : ¬ R.1 = 0 := by omega
      rw [if_neg h2', enE_ne (show (7 : Int) ≠ 0 by decide)]
      rw [h2, enE_ne (show (7 : Int) ≠ 0 by decide)] at hFl
      have HF : Hid (Calls _ _ _ W _) := hFl
      have HN : Hid (∀ (V : World) (cv1 : Value), LgAt w V p nb sb cv1 n R.2 lb fr mn tv wv s tx wh → LgAt w (V.setCell ⟨lb, 12, none⟩ (.bool true)) p nb sb cv1 n R.2 lb fr mn tv wv { s with lo := true } tx wh ∧ LKeep w.heap.size lb .nilIface wv .nilIface wv V (V.setCell ⟨lb, 12, none⟩ (.bool true)) ∧ V.cell? ⟨lb, 12, none⟩ = some (.bool s.lo) ∧ V.frozen? ⟨lb, 12, none⟩ = false) := fun V cv1 a1 => by
        have b1 : Below w.heap.size V (V.setCell ⟨lb, 12, none⟩ (.bool true)) := (Below.refl _ V).setCell (p := ⟨lb, 12, none⟩) a1.llb _
        exact ⟨a1.set 12 (.bool true) rfl, (LKeep.refl _ _ _ _ _).setBox a1.llb 12 _ b1.size b1.os b1.tape b1.output, by rw [a1.box.at]; rfl, a1.box.fz 12⟩
      clear hFl h2 h2' hwv
      go_enter Tryd.func9, Tryd.ntmps9
      go_wp2_with fail
      refine HF.out.mono ?_
      rintro e w7 ⟨rfl, cv7, h7, k7⟩
      obtain ⟨n1, n2, d12, f12⟩ := HN.out w7 cv7 h7.out
      have H1 : Hid (LgAt _ _ _ _ _ _ _ _ _ _ _ _ _ _ _ _) := n1
      have HK : Hid (LKeep _ _ _ _ _ _ _ _) := (LKeep.of_keeps k7.out).trans n2
      clear HF HN h7 k7 n1 n2 c12
      go_wp2
      go_ret
      exact ⟨rfl, cv7, H1, HK⟩
end
end Go.Proofs.YteledlbcbcnidaaDoor

namespace Go.Proofs.YteledlbcbcnidaaDoor
set_option linter.unusedVariables false
set_option linter.unusedSimpArgs false
set_option maxRecDepth 100000
set_option maxHeartbeats 2000000
open Go.RowKit Go.Lib
section
variable {w W U : World} {p nb sb : Nat} {cv : Value} {n : Nat} {D : Dk} {lb fr mn : Nat} {tv wv wv' : Value} {s : Ls} {tx : List UInt8} {wh : List Nat}
theorem room_any (a : LgAt w W p nb sb cv n D lb fr mn tv wv s tx wh) (hm : mn ≤ 200) (hx : tx.length ≤ (mn - 2) * 60) :
    Calls Tryd.prog 12 #[.pointer (some ⟨lb, 0, none⟩)] W fun e w' => e = .returned (.int .i64 (((mn - 2) * 60 - tx.length : Nat) : Int)) ∧ Below W.heap.size W w' := by
  obtain ⟨xa, xc, hxv, _⟩ := a.tx.isBy
  have HAt : Hid (∀ U, Below W.heap.size W U → LgBox U lb p fr mn (.slice xa tx.length xc) wv s) := fun U hU => by rw [← hxv]; exact (a.below hU).box
  have HDr : Hid (Below W.heap.size W W.drew) := ⟨rfl, rfl, rfl, Nat.le_refl _, fun _ _ => rfl⟩
  have HSz : Hid (∀ V : World, Calls Tryd.prog 27 #[.agg #[.pointer (some ⟨p, 0, none⟩), .int .i64 (fr : Int), .int .i64 (mn : Int)]] V fun e w' => e = .returned (.int .i64 (((mn - 2) * 60 : Nat) : Int)) ∧ Below V.heap.size V w') := fun V => size_any p fr mn V hm
  obtain ⟨z, hz⟩ : ∃ z, (mn - 2) * 60 = z := ⟨_, rfl⟩
  rw [hz] at HSz hx ⊢
  have z1 : (z : Int) ≤ 12000 := by omega
  have z2 : (tx.length : Int) ≤ (z : Int) := by omega
  have e1 : ((z - tx.length : Nat) : Int) = (z : Int) - (tx.length : Int) := by omega
  rw [e1]
  clear a hxv hm hx hz e1
  go_enter Tryd.func12, Tryd.ntmps12
  go_upto_region 1 with fail
  refine wp_region_drawn (by kernel_rfl) ?_
  generalize W.drew = v2 at *
  refine wpAny_take (i := 0) (v := .pointer (some ⟨lb, 0, none⟩)) rfl (by kernel_rfl) (by kernel_rfl) (by kernel_rfl) (fun _ _ _ h => h) (Or.inl ⟨by rfl, fun w => by go_simp⟩) ?_
  simp only [Act.put, List.getElem_toArray, List.getElem_cons_succ, List.getElem_cons_zero, List.setIfInBounds_toArray, List.set_cons_zero, List.set_cons_succ]
  refine wpAny_take (i := 1) (v := .pointer (some ⟨lb, 0, none⟩)) rfl (by kernel_rfl) (by kernel_rfl) (by kernel_rfl) (fun _ _ _ h => h) (Or.inl ⟨by rfl, fun w => by go_simp⟩) ?_
  simp only [Act.put, List.getElem_toArray, List.getElem_cons_succ, List.getElem_cons_zero, List.setIfInBounds_toArray, List.set_cons_zero, List.set_cons_succ]
  refine wpAny_take (i := 2) (v := .pointer (some ⟨lb, 0, none⟩)) rfl (by kernel_rfl) (by kernel_rfl) (by kernel_rfl) (fun _ _ _ h => h) (Or.inl ⟨by rfl, fun w => by go_simp⟩) ?_
  simp only [Act.put, List.getElem_toArray, List.getElem_cons_succ, List.getElem_cons_zero, List.setIfInBounds_toArray, List.set_cons_zero, List.set_cons_succ]
  refine wpAny_take (i := 5) (v := .pointer (some ⟨lb, 0, none⟩)) rfl (by kernel_rfl) (by kernel_rfl) (by kernel_rfl) (fun _ _ _ h => h) (Or.inl ⟨by rfl, fun w => by go_simp⟩) ?_
  simp only [Act.put, List.getElem_toArray, List.getElem_cons_succ, List.getElem_cons_zero, List.setIfInBounds_toArray, List.set_cons_zero, List.set_cons_succ]
  refine wpAny_take (i := 6) (v := .pointer (some ⟨lb, 0, none⟩)) rfl (by kernel_rfl) (by kernel_rfl) (by kernel_rfl) (fun _ _ _ h => h) (Or.inl ⟨by rfl, fun w => by go_simp⟩) ?_
  simp only [Act.put, List.getElem_toArray, List.getElem_cons_succ, List.getElem_cons_zero, List.setIfInBounds_toArray, List.set_cons_zero, List.set_cons_succ]
  refine wpAny_take (i := 7) (v := .pointer (some ⟨lb, 3, none⟩)) rfl (by kernel_rfl) (by kernel_rfl) (by kernel_rfl) (fun _ _ _ h => h) (Or.inl ⟨by rfl, fun w => by go_simp⟩) ?_
  simp only [Act.put, List.getElem_toArray, List.getElem_cons_succ, List.getElem_cons_zero, List.setIfInBounds_toArray, List.set_cons_zero, List.set_cons_succ]
  refine any_of_L (g := 10) (T := fun u => Below W.heap.size W u) _ _ _ _ ?_
  refine L_takeC [10, 4] (i := 3) (v := .agg #[.pointer (some ⟨p, 0, none⟩), .int .i64 (fr : Int), .int .i64 (mn : Int)]) rfl (by kernel_rfl) (by kernel_rfl) (by decide) (by kernel_rfl) (by kernel_rfl) (by kernel_rfl) (by kernel_rfl) (fun _ _ _ h => h) ?_ HDr.out ?_
  · refine yields_load_run (by rfl) 50 (.tmp 5) (by rfl) (.pointer (some ⟨lb, 0, none⟩)) (by rfl) ?_
    exact fun w' hw' => load_area (HAt.out w' hw')
  simp only [Act.put, List.getElem_toArray, List.getElem_cons_succ, List.getElem_cons_zero, List.setIfInBounds_toArray, List.set_cons_zero, List.set_cons_succ]
  refine L_takeC [10, 9] (i := 8) (v := .slice xa tx.length xc) rfl (by kernel_rfl) (by kernel_rfl) (by decide) (by kernel_rfl) (by kernel_rfl) (by kernel_rfl) (by kernel_rfl) (fun _ _ _ h => h) (Or.inl ⟨by rfl, fun w' hw' => by have c0 : w'.cell? ⟨lb, 3, none⟩ = some (.slice xa tx.length xc) := (by rw [(HAt.out w' hw').at]; rfl); clear hw'; go_simp⟩) HDr.out ?_
  simp only [Act.put, List.getElem_toArray, List.getElem_cons_succ, List.getElem_cons_zero, List.setIfInBounds_toArray, List.set_cons_zero, List.set_cons_succ]
  refine L_takeC [10] (i := 9) (v := .int .i64 (tx.length : Int)) rfl (by kernel_rfl) (by kernel_rfl) (by decide) (by kernel_rfl) (by kernel_rfl) (by kernel_rfl) (by kernel_rfl) (fun _ _ _ h => h) (Or.inl ⟨by rfl, fun w' hw' => by clear hw'; go_simp⟩) HDr.out ?_
  simp only [Act.put, List.getElem_toArray, List.getElem_cons_succ, List.getElem_cons_zero, List.setIfInBounds_toArray, List.set_cons_zero, List.set_cons_succ]
  refine L_one (i := 4) (by kernel_rfl) ?_
  refine wpOp_step rfl ?_
  intro K hK
  rw [if_pos (by rfl)]
  have hK' : Shut (∀ a w, _ → K a w) := hK
  clear hK
  go_wp2_with fail
  refine (HSz.out v2).mono ?_
  rintro e v5 ⟨rfl, hs5⟩
  have H5 : Hid (Below W.heap.size W v5) := HDr.out.trans (hs5.mono HDr.out.size)
  refine hK'.out _ _ ⟨H5.out, ?_⟩
  clear hK' K hs5 HSz HDr HAt
  try simp only [Act.put, List.getElem_toArray, List.getElem_cons_succ, List.getElem_cons_zero, List.setIfInBounds_toArray, List.set_cons_zero, List.set_cons_succ]
  refine L_go (by kernel_rfl) (by kernel_rfl) ?_
  refine wpOp_step rfl ?_
  intro K hK
  rw [if_pos (by rfl)]
  have hK' : Shut (∀ a w, _ → K a w) := hK
  clear hK
  go_wp2_with fail
  refine hK'.out _ _ ?_
  clear hK' K
  try simp only [Act.put, List.getElem_toArray, List.getElem_cons_succ, List.getElem_cons_zero, List.setIfInBounds_toArray, List.set_cons_zero, List.set_cons_succ]
  refine any_one (i := 11) (by kernel_rfl) ?_
  refine wpOp_step rfl ?_
  intro K hK
  rw [if_pos (by rfl)]
  have hK' : Shut (∀ a w, _ → K a w) := hK
  clear hK
  go_wp2_with fail
  refine hK'.out _ _ ?_
  clear hK' K
  refine wpAny_done (by kernel_rfl) ?_ _
  go_wp2
  go_ret
  exact ⟨rfl, H5.out⟩
end
end Go.Proofs.YteledlbcbcnidaaDoor

namespace Go.Proofs.YteledlbcbcnidaaDoor
set_option linter.unusedVariables false
set_option linter.unusedSimpArgs false
set_option maxRecDepth 100000
open Go.RowKit Go.Lib
theorem app_old (w : World) (ty : TypeId) (base : Nat) (v : Value) (l : List UInt8) (a : Option Addr) (m : List UInt8) (cap : Nat) (hr : ByRow w base v l) (hm : IsBy w a m cap) (hc : cap = 0 ∨ a ≠ none) (hb : base ≤ w.heap.size) (hlen : l.length + m.length ≤ 1000000)
    (v' : Value) (w' : World) (hrun : (Builtin.append_ #[36, 36] ty #[v, .slice a m.length cap]).run Tryd.prog w = .ok v' w') : ByRow w' base v l := by
  obtain ⟨qi, hqi, hqz⟩ := u8_tinfo
  cases a with
  | none =>
    have hm0 : m = [] := by
      rcases hm.lies with h | ⟨b, off, e, _⟩
      · exact h
      · cases e
    subst hm0
    have hc0 : cap = 0 := by rcases hc with h | h; exact h; exact absurd rfl h
    subst hc0
    have h0 := run_append_owned_none (P := Tryd.prog) (w := w) base 36 ty 5 qi 1 Tryd.underlying36 hqi v _ _ hr
    rw [show (([] : List UInt8).length) = 0 from rfl, h0] at hrun
    cases hrun
    exact hr
  | some ad =>
    have hnews : ∀ j u, (byC m)[j]? = some u → w.cell? (ad.add j) = some u := fun j u hj => by
      have hjl : j < m.length := by
        have := (List.getElem?_eq_some_iff.1 hj).1
        rwa [byC_length] at this
      rcases hm.lies with h | ⟨b, off, e, hlt, hk⟩
      · subst h; simp at hjl
      · cases e
        rw [Addr.add_mid, hk j hjl]
        rw [byC_get m j hjl] at hj
        exact hj
    have hl : (byC m).length = m.length * qi.size := by rw [byC_length, hqz.2.1]; omega
    rcases hr.2 with ⟨hv, h0⟩ | ⟨g, cap0, cur, hv, hbg, hg, hnc, hcm, hcs, htake⟩
    · exact ⟨hr.1, .inl ⟨hv, h0⟩⟩
    · subst hv
      have hxl : (byC l).length = l.length * qi.size := by rw [byC_length, hqz.2.1]; omega
      by_cases hroom : l.length + m.length ≤ cap0
      · have hfit : l.length * qi.size + (byC m).length ≤ cur.size := by rw [hqz.2.1, byC_length, hcs]; omega
        have h2 := run_append_room (P := Tryd.prog) w 36 ty 5 qi Tryd.underlying36 hqi g l.length cap0 cur hg ad m.length cap (byC m) hl hnews (byC_one m) hroom hfit
        rw [h2] at hrun
        cases hrun
        refine ⟨hr.1, .inr ⟨g, cap0, _, rfl, hbg, setRow_heap w g cur _ 5 _ hg, hnc, hcm, ?_, ?_⟩⟩
        · have := byC_length m
          simp only [List.size_toArray, List.length_append, List.length_take, List.length_drop, Array.length_toList, hqz.2.1]
          omega
        · have ht' : cur.toList.take (l.length * qi.size) = byC l := by rw [hqz.2.1]; exact htake
          simp only [ht', List.append_assoc]
          rw [List.take_append_of_le_length (by rw [byC_length]; omega), List.take_of_length_le (by rw [byC_length]; omega)]
      · have hown : w.ownsRow base 5 1 (.slice (some ⟨g, 0, none⟩) l.length cap0) l.length (byC l) := hr
        have holds : ∀ j u, (byC l)[j]? = some u → w.cell? ((⟨g, 0, none⟩ : Addr).add j) = some u := hown.cells (g := g) rfl
        have h2 := run_append_grow (P := Tryd.prog) w 36 ty 5 qi (.int .u8 0) Tryd.underlying36 hqi hqz.1 ⟨g, 0, none⟩ l.length cap0 (byC l) hxl holds ad m.length cap (byC m) hl hnews (by omega) (by omega) (growslice_fits (by omega) (by rw [hqz.2.2]; omega))
        rw [h2] at hrun
        cases hrun
        exact ⟨hr.1, .inr ⟨g, cap0, cur, rfl, hbg, (heap_alloc_old w.drew _ (show g < w.drew.heap.size from (Array.getElem?_eq_some_iff.1 hg).1)).trans hg, hnc, hcm, hcs, htake⟩⟩
end Go.Proofs.YteledlbcbcnidaaDoor
