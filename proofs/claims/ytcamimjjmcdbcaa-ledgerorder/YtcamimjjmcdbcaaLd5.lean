/-
  slices.SortFunc over a row of balances; a step of a range over ledger's map.
-/
import Derived.Test.YtcamimjjmcdbcaaLd4
namespace Go.Proofs.Ytcamimjjmcdbcaa
set_option linter.unusedVariables false
set_option linter.unusedSimpArgs false
set_option maxRecDepth 100000
open Go.RowKit Go.Lib Go.Sort
def blEnc (x : Bl) : List Value := x.cells.toList
theorem bl_swo : SWO (ltOf cmpB) where
  irrefl x := decide_eq_false (cmpB_irr x)
  trans x y z h1 h2 := decide_eq_true (cmpB_trans (of_decide_eq_true h1) (of_decide_eq_true h2))
  ntrans x y z h1 h2 := by
    refine decide_eq_false (fun h => ?_)
    have h1' := of_decide_eq_false h1
    have h2' := of_decide_eq_false h2
    by_cases e1 : x.key = y.key
    · refine h2' ?_
      rw [cmpB_lt] at h ⊢
      unfold Bl.key at e1
      rw [Prod.mk.injEq, Prod.mk.injEq] at e1
      rw [← e1.1, ← e1.2.1, ← e1.2.2]
      exact h
    · have h3 := cmpB_total h1' e1
      by_cases e2 : y.key = z.key
      · refine h1' ?_
        rw [cmpB_lt] at h ⊢
        unfold Bl.key at e2
        rw [Prod.mk.injEq, Prod.mk.injEq] at e2
        rw [e2.1, e2.2.1, e2.2.2]
        exact h
      · have h4 := cmpB_total h2' e2
        exact cmpB_irr x (cmpB_trans h (cmpB_trans h4 h3))
theorem bl_holds {W : World} {n g cap : Nat} {L : List Bl} (h : BlRow W n (.slice (some ⟨g, 0, none⟩) L.length cap) L) (hi : Inhabited Bl) : HoldsK blEnc 4 W g 0 L.toArray := by
  rcases h.2 with ⟨e, _⟩ | ⟨g1, c1, cur, e, hb1, hh, hc, hm, hs, ht⟩
  · cases e
  · cases e
    intro t htt
    rw [size_flatK, List.size_toArray] at htt
    rw [get_flatK _ _ _ t (by simpa using htt)]
    have hk : t / 4 < L.length := by omega
    have hb := blRow_get L (t / 4) (t % 4) hk (by omega)
    have e1 : t / 4 * 4 + t % 4 = t := by omega
    rw [e1] at hb
    have e2 : (blRow L)[t]? = cur[t]? := by
      rw [← ht, List.getElem?_take, if_pos (by omega)]
      simp
    have e3 : L.toArray[t / 4]! = L.getD (t / 4) bl0 := by
      rw [List.getD_eq_getElem?_getD, List.getElem?_eq_getElem hk, getElem!_pos L.toArray (t / 4) (by simpa using hk)]
      simp
    refine ⟨?_, by simp [World.frozen?, hh]⟩
    rw [e3]
    simp only [World.cell?, hh, Nat.zero_add]
    rw [← e2, hb]
    unfold blEnc
    have hl : t % 4 < (L.getD (t / 4) bl0).cells.toList.length := by rw [Bl.cells_length]; omega
    rw [List.getElem?_eq_getElem hl, getElem!_pos (L.getD (t / 4) bl0).cells.toList (t % 4) hl]
    rfl
/-- What a sort leaves. -/
theorem bl_sorted {W : World} {n g cap : Nat} {L : List Bl} (h : BlRow W n (.slice (some ⟨g, 0, none⟩) L.length cap) L) (hi : Inhabited Bl) (d : Array Bl) (hd : d.size = L.length) (m : Nat) (os : Array Obj) :
    BlRow (sortWorldK blEnc 4 W g 0 m d os) n (.slice (some ⟨g, 0, none⟩) d.toList.length cap) d.toList ∧ W.grownBy (sortWorldK blEnc 4 W g 0 m d os) (some g) := by
  rcases h.2 with ⟨e, _⟩ | ⟨g1, c1, cur, e, hb1, hh, hc, hm, hs, ht⟩
  · cases e
  · cases e
    have hlt : g < W.heap.size := (Array.getElem?_eq_some_iff.1 hh).1
    have hg : (sortWorldK blEnc 4 W g 0 m d os).heap[g]? = some (.cells (putCells id 0 (flatK blEnc 4 d) cur) 28 (0, 0)) := by
      unfold sortWorldK putRowK putRow mapBlock
      rw [heap_grow_old _ _ (by simpa [ahead] using hlt)]
      show (W.heap.modify g _)[g]? = _
      rw [Array.getElem?_modify, if_pos rfl, hh]
      rfl
    refine ⟨⟨blRow_length _, .inr ⟨g, cap, _, rfl, hb1, hg, by simp [hd, hc], hm, by simp [putCells, hs], ?_⟩⟩, rfl, rfl, rfl, ?_, fun b hb hne => ?_⟩
    · apply List.ext_getElem?
      intro t
      rw [List.getElem?_take]
      by_cases htt : t < d.toList.length * 4
      · rw [if_pos htt]
        have hk : t / 4 < d.toList.length := by omega
        have hb := blRow_get d.toList (t / 4) (t % 4) hk (by omega)
        have e1 : t / 4 * 4 + t % 4 = t := by omega
        rw [e1] at hb
        rw [hb]
        have hts : t < cur.size := by rw [hs]; simp [hd] at htt; omega
        have hF : t < (flatK blEnc 4 d).size := by simpa using htt
        have e3 : d[t / 4]! = d.toList.getD (t / 4) bl0 := by
          rw [List.getD_eq_getElem?_getD, List.getElem?_eq_getElem hk, getElem!_pos d (t / 4) (by simpa using hk)]
          simp
        have hl : t % 4 < (d.toList.getD (t / 4) bl0).cells.toList.length := by rw [Bl.cells_length]; omega
        rw [Array.getElem?_toList]
        unfold putCells
        rw [Array.getElem?_mapIdx, Array.getElem?_eq_getElem hts]
        simp only [Option.map_some, Nat.zero_le, true_and, Nat.zero_add, hF, if_true, Nat.sub_zero, id]
        rw [get_flatK _ _ _ t (by simpa using htt), e3, List.getElem?_eq_getElem hl]
        unfold blEnc
        rw [getElem!_pos (d.toList.getD (t / 4) bl0).cells.toList (t % 4) hl]
      · rw [if_neg htt, List.getElem?_eq_none (by rw [blRow_length]; omega)]
    · unfold sortWorldK putRowK putRow mapBlock
      simp [ahead]
    · unfold sortWorldK putRowK putRow mapBlock
      rw [heap_grow_old _ _ (by simpa [ahead] using hb)]
      have : g ≠ b := fun e => hne (by rw [e])
      simp [ahead, Array.getElem?_modify, this]
theorem cmp_lays (hi : Inhabited Bl) (blk off size : Nat) (w : World) : CmpLays Try.prog 19 #[] blEnc 4 cmpB blk off size w :=
  fun m os dk _ x y => ldCompareB_at x y _
/-- A row of balances is sorted. -/
theorem sort_any (W : World) (n : Nat) (v : Value) (L : List Bl) (h : BlRow W n v L) (hl : L.length ≤ 1000000) (hnd : (L.map Bl.key).Nodup) :
    Calls Try.prog 21 #[v, .func (.func 19) #[] #[]] W fun e w' => e = .returned (.tuple #[]) ∧ ∃ R, R.Perm L ∧ Rises R ∧ BlRow w' n v R ∧ W.grownBy w' v.ownBlock := by
  have hi : Inhabited Bl := ⟨bl0⟩
  by_cases h0 : L = []
  · subst h0
    obtain ⟨a, cap, rfl, _⟩ := h.isBl
    refine (AnyF.slices_SortFunc_none { sortLays with } a cap _ W).mono ?_
    rintro e w' ⟨rfl, rfl⟩
    exact ⟨rfl, [], .nil, .nil, h, rfl, rfl, rfl, Nat.le_refl _, fun _ _ _ => rfl⟩
  · obtain ⟨g, cap, rfl, hlt⟩ : ∃ g cap, v = .slice (some ⟨g, 0, none⟩) L.length cap ∧ g < W.heap.size := by
      rcases h.2 with ⟨e, hn⟩ | ⟨g1, c1, cur, e, hb1, hh, _⟩
      · exact absurd (List.eq_nil_of_length_eq_zero hn) h0
      · exact ⟨g1, c1, e, (Array.getElem?_eq_some_iff.1 hh).1⟩
    have eg : ∀ args w, (callFunc 19 args).run Try.prog w = .ok (.enter 19 args) w := fun args w => en_enters Try.func19 (by kernel_rfl) ⟨_, rfl⟩ args w
    have hcon := AnyQ.slices_SortFunc sortLays 4 Try.isAgg28 Try.sizeOf28 blEnc (fun _ => rfl) (fun x v hv => by simp [blEnc, Bl.cells] at hv; rcases hv with rfl | rfl | rfl | rfl <;> rfl) cmpB bl_swo 19 #[] g 0 cap L.toArray W eg (cmp_lays hi g 0 _ W) (bl_holds h hi) hlt (by simp; omega)
    refine Calls.mono hcon ?_
    rintro e w' ⟨rfl, d, m, os, hp, hs, rfl⟩
    obtain ⟨p1, _, p3⟩ := hp
    have hsz : d.size = L.length := by rw [p1]; simp
    have hpm : d.toList.Perm L := by
      simp only [List.size_toArray] at p3
      have e1 : (d.extract 0 L.length).toList = d.toList := by
        rw [← hsz]; simp
      have e2 : (L.toArray.extract 0 L.length).toList = L := by simp
      rw [e1, e2] at p3
      exact p3
    obtain ⟨b1, b2⟩ := bl_sorted h hi d hsz m os
    refine ⟨rfl, d.toList, hpm, ?_, ?_, b2⟩
    · have hnd' : (d.toList.map Bl.key).Nodup := ((hpm.map Bl.key).nodup_iff).2 hnd
      refine List.pairwise_iff_getElem.2 (fun i j hi' hj' hij => ?_)
      have h1 := hs i j (Nat.zero_le _) hij (by simp at hj'; simp; omega)
      have hi2 : i < d.size := by simpa using hi'
      have hj2 : j < d.size := by simpa using hj'
      rw [getElem!_pos d i hi2, getElem!_pos d j hj2] at h1
      have h2 : ¬ cmpB d[j] d[i] < 0 := of_decide_eq_false h1
      have h3 : d[j].key ≠ d[i].key := fun e => by
        have := (List.pairwise_iff_getElem.1 hnd') i j (by simpa using hi2) (by simpa using hj2) hij
        simp at this
        exact this e.symm
      have := cmpB_total h2 h3
      simpa using this
    · have e : d.toList.length = L.length := by simpa using hsz
      rw [e] at b1
      exact b1

/-- A step of a range over the map. -/
theorem parts_next {W : World} {n mb r : Nat} {ps : List Pt} {vs : Nat → Value} (h : PMp W n mb ps vs) {sn : List Nat} (hr : W.heap[r]? = some (.mapIter (some mb) ps.length sn.toArray ps.length)) (ty : TypeId) :
    ((∀ i, i < ps.length → i ∈ sn) ∧ (Instr.next (.pointer (some ⟨r, 0, none⟩)) false ty).run Try.prog W = .ok (.tuple #[.bool false]) W) ∨
    ∃ i, ∃ hi : i < ps.length, i ∉ sn ∧ ∃ W', (Instr.next (.pointer (some ⟨r, 0, none⟩)) false ty).run Try.prog W = .ok (.tuple #[.bool true, plV (ps[i]).key, vs i]) W' ∧ W'.heap[r]? = some (.mapIter (some mb) ps.length (sn ++ [i]).toArray ps.length) ∧ W.grownBy W' (some r) ∧ W'.heap.size = W.heap.size ∧
      (Instr.entry (.pointer (some ⟨r, 0, none⟩))).run Try.prog W' = .ok (.tuple #[plV (ps[i]).key, vs i]) W' := by
  have hold : ∀ x ∈ (ents ps vs).toArray.toList, x.born < ps.length := fun x hx => by
    obtain ⟨i, hi, rfl⟩ := ents_mem (by simpa using hx)
    exact hi
  have hne : r ≠ mb := fun e => by rw [e, h.map] at hr; cases hr
  have hlt : r < W.heap.size := (Array.getElem?_eq_some_iff.1 hr).1
  rcases run_next_at (P := Try.prog) W ty r mb ps.length ps.length sn.toArray (ents ps vs).toArray ps.length hr h.map hold (Nat.le_refl _) with ⟨h0, hrun⟩ | ⟨e, he, w1, hal, hrun⟩
  · refine .inl ⟨fun i hi => ?_, hrun⟩
    have h1 := all_seen _ _ h0 ⟨plV (ps[i]).key, vs i, i⟩ (by simpa using List.mem_of_getElem? (ents_get ps vs i hi))
    simpa using h1
  · obtain ⟨hem, hes⟩ := mem_left he
    obtain ⟨i, hi, rfl⟩ := ents_mem (by simpa using hem)
    have hns : i ∉ sn := by simpa using hes
    have hr1 : w1.heap[r]? = some (.mapIter (some mb) ps.length sn.toArray ps.length) := by rcases hal with rfl | rfl <;> exact hr
    have hb1 : w1.heap[mb]? = some (.map (ents ps vs).toArray ps.length) := by rcases hal with rfl | rfl <;> exact h.map
    have hlt1 : r < w1.heap.size := (Array.getElem?_eq_some_iff.1 hr1).1
    have hset := setBlock_at hlt1 (.mapIter (some mb) ps.length (sn.toArray.push i) ps.length)
    have hb' : (ChangeMaps.setBlock w1 r (.mapIter (some mb) ps.length (sn.toArray.push i) ps.length)).heap[mb]? = some (.map (ents ps vs).toArray ps.length) := (setBlock_ne hne _).trans hb1
    refine .inr ⟨i, hi, hns, _, hrun, by rw [hset]; simp, ?_, ?_, run_entry_at _ r mb ps.length sn.toArray (ents ps vs).toArray ps.length ⟨plV (ps[i]).key, vs i, i⟩ hset hb' hem (by simp only [ents_born]; exact List.nodup_range)⟩
    · rcases hal with rfl | rfl <;> exact ⟨rfl, rfl, rfl, by simp [ChangeMaps.setBlock], fun b _ hb => setBlock_ne (fun e1 => hb (by rw [e1])) _⟩
    · rcases hal with rfl | rfl <;> simp [ChangeMaps.setBlock]
end Go.Proofs.Ytcamimjjmcdbcaa
