/-
  The contract of a journal's Post, where nothing is wrong.
-/
import Derived.Test.YtffekgndlhleiaaDoorJn3
namespace Go.Proofs.YtffekgndlhleiaaDoor
set_option linter.unusedVariables false
set_option linter.unusedSimpArgs false
set_option maxRecDepth 100000
open Go.RowKit Go.Lib
theorem ln_keep {W W' : World} {n : Nat} {v : Value} {l : List Ln} (h : LnRow W n v l) (hb : ∀ (j : Nat) (cs : Array Value) (fr : Nat × Nat), W.heap[j]? = some (.cells cs 55 fr) → W'.heap[j]? = W.heap[j]?) : LnRow W' n v l := by
  rcases h.2 with ⟨hv, hn⟩ | ⟨g1, c1, cur, hv, hb1, hh, r⟩
  · exact ⟨h.1, .inl ⟨hv, hn⟩⟩
  · exact ⟨h.1, .inr ⟨g1, c1, cur, hv, hb1, (hb g1 _ _ hh).trans hh, r⟩⟩
/-- A row's block is of the row's type. -/
theorem JeRow.typ {w : World} {n : Nat} {v : Value} {xs : List Je} (h : JeRow w n v xs) : ∀ j, v.ownBlock = some j → ∃ cs, w.heap[j]? = some (.cells cs 33 (0, 0)) := fun j ej => by
  rcases h.2 with ⟨rfl, _⟩ | ⟨g, cp, cur, rfl, hg, hh, _⟩
  · cases ej
  · cases ej; exact ⟨cur, hh⟩

section
variable {W : World} {n0 bj bm : Nat} {v : Value} {es : List Je}
/-- Behind the append, the store and the map's turn. -/
theorem post_end {V V1 V2 V3 : World} {r : ByteArray} {en pe : Int} {a' : Option Addr} {cap' : Nat} {l : List Ln} {g cp : Nat}
    (j : JAt V n0 bj bm v es) (hl : LnRow V n0 (.slice a' l.length cap') l)
    (hown : V1.ownsRow n0 33 4 (.slice (some ⟨g, 0, none⟩) (es.length + 1) cp) (es.length + 1) (jeRow es ++ (Je.mk r en pe a' cap' l).cells.toList)) (hg : V.grownBy V1 v.ownBlock)
    (hV2 : V2 = V1.setCell ⟨bj, 0, none⟩ (.slice (some ⟨g, 0, none⟩) (es.length + 1) cp))
    (hm : SMap V3 bm (es.map (·.ref) ++ [r])) (hos : V3.os = V2.os) (htp : V3.tape = V2.tape) (hou : V3.output = V2.output) (hsz : V3.heap.size = V2.heap.size) (hb : ∀ b, b ≠ bm → V3.heap[b]? = V2.heap[b]?) :
    JAt V3 n0 bj bm (.slice (some ⟨g, 0, none⟩) (es.length + 1) cp) (es ++ [⟨r, en, pe, a', cap', l⟩]) ∧ JKeep bj bm v V V3 := by
  have hbm : bj ≠ bm := fun e => by
    obtain ⟨_, _, h1, _⟩ := j.map
    rw [← e, j.box] at h1
    cases h1
  have hbv : some bj ≠ v.ownBlock := fun e => by
    obtain ⟨cs, h1⟩ := j.row.typ bj e.symm
    rw [j.box] at h1
    cases h1
  have hbg : bj ≠ g := fun e => by
    rcases hown.2 with ⟨hv, _⟩ | ⟨g1, c1, cur, hv, _, hh, _⟩
    · cases hv
    · cases hv
      have h1 := hg.block bj j.ltj hbv
      rw [j.box, e, hh] at h1
      cases h1
  have hbx1 : V1.heap[bj]? = some (.cells #[v, .map (some bm)] 49 (0, 0)) := (hg.block bj j.ltj hbv).trans j.box
  have hbx2 : V2.heap[bj]? = some (.cells #[.slice (some ⟨g, 0, none⟩) (es.length + 1) cp, .map (some bm)] 49 (0, 0)) := by
    rw [hV2, setCell_eq_setRow V1 bj 0 _ 49 (0, 0) _ hbx1, setRow_heap V1 bj _ _ 49 (0, 0) hbx1]
    rfl
  have hoth : ∀ b, b ≠ bj → V2.heap[b]? = V1.heap[b]? := fun b hne => by rw [hV2]; exact Below.heap_setCell _ _ _ _ hne
  have hsz2 : V2.heap.size = V1.heap.size := by rw [hV2]; simp [World.setCell]
  have hlow : ∀ b, b < V.heap.size → b ≠ bj → b ≠ bm → some b ≠ v.ownBlock → V3.heap[b]? = V.heap[b]? := fun b hlt h1 h2 h3 => by
    rw [hb b h2, hoth b h1, hg.block b hlt h3]
  have hline : ∀ (b : Nat) (cs : Array Value) (fr : Nat × Nat), V.heap[b]? = some (.cells cs 55 fr) → V3.heap[b]? = V.heap[b]? := fun b cs fr hh => by
    refine hlow b (Array.getElem?_eq_some_iff.1 hh).1 (fun e => ?_) (fun e => ?_) (fun e => ?_)
    · rw [e, j.box] at hh; cases hh
    · obtain ⟨_, _, h1, _⟩ := j.map
      rw [e, h1] at hh; cases hh
    · obtain ⟨cs', h1⟩ := j.row.typ b e.symm
      rw [h1] at hh; cases hh
  refine ⟨⟨(hb bj hbm).trans hbx2, by simpa using hm, ?_, fun x hx => ?_, j.hj, j.hm⟩, ⟨?_, ?_, ?_, ?_, hlow⟩⟩
  · unfold JeRow
    rw [jeRow_append, jeRow_one, List.length_append]
    rcases hown.2 with ⟨hv, _⟩ | ⟨g1, c1, cur, hv, hb1, hh, rr⟩
    · cases hv
    · have hgm : g1 ≠ bm := fun e => by
        obtain ⟨_, _, h1, _⟩ := hm
        cases hv
        have h2 := hg.block bm j.ltm (fun e => by
          obtain ⟨cs', h3⟩ := j.row.typ bm e.symm
          obtain ⟨_, _, h4, _⟩ := j.map
          rw [h4] at h3; cases h3)
        obtain ⟨_, _, h4, _⟩ := j.map
        rw [h4, ← e, hh] at h2
        cases h2
      have hgj : g1 ≠ bj := fun e => by cases hv; exact hbg e.symm
      exact ⟨hown.1, .inr ⟨g1, c1, cur, hv, hb1, ((hb g1 hgm).trans (hoth g1 hgj)).trans hh, rr⟩⟩
  · rcases List.mem_append.1 hx with hx | hx
    · exact ln_keep (j.lns x hx) hline
    · rw [List.mem_singleton.1 hx]
      exact ln_keep hl hline
  · rw [hos, hV2]; exact hg.os
  · rw [htp, hV2]; exact hg.tape
  · rw [hou, hV2]; exact hg.output
  · rw [hsz, hsz2]; exact hg.size

set_option maxHeartbeats 4000000 in
theorem post_ok (h : JAt W n0 bj bm v es) (ca : Option Addr) (cc : Nat) (c : List Ac) (r : ByteArray) (en pe : Int) (a : Option Addr) (cap : Nat) (l : List Ln) (hc : IsSl W ca c cc) (hl : IsLn W a l cap) (h0 : pBad c es r en pe l = 0) :
    Calls Tryd.prog 5 #[.pointer (some ⟨bj, 0, none⟩), .slice ca c.length cc, .agg #[.string r, .int .i64 en, .int .i64 pe, .slice a l.length cap]] W fun e w' => e = .returned (.tuple #[.int .i64 (es.length : Int), .nilIface]) ∧ ∃ g cp a' cap', JAt w' n0 bj bm (.slice (some ⟨g, 0, none⟩) (es.length + 1) cp) (es ++ [⟨r, en, pe, a', cap', l⟩]) ∧ JKeep bj bm v W w' ∧ (v.ownBlock = some g ∨ W.heap.size ≤ g) := by
  obtain ⟨h1, h2, h3⟩ := pBad_zero.1 h0
  obtain ⟨_, q2, _, _⟩ := entBad_zero.1 h1
  have hll := headBad_len q2
  have hne : l ≠ [] := fun e => by rw [e] at hll; simp at hll
  have b0 : Below W.heap.size W (W.alloc (.cells #[.string r, .int .i64 en, .int .i64 pe, .slice a l.length cap] 33)) := (Below.refl _ W).alloc (Nat.le_refl _) _
  have x0 := Box4.new W r en pe (.slice a l.length cap)
  have hs0 : (W.alloc (.cells #[.string r, .int .i64 en, .int .i64 pe, .slice a l.length cap] 33)).heap.size = W.heap.size + 1 := by simp
  have HC : Hid (Calls _ _ _ _ _) := check_any ca cc c r en pe a cap l _ (hc.below b0) (hl.below b0)
  rw [h1, enE_zero] at HC
  have Hj : Hid (JAt W n0 bj bm v es) := h
  have Hl : Hid (IsLn W a l cap) := hl
  have hn0 : n0 ≤ W.heap.size := by have := h.hj; have := h.ltj; omega
  have Hnin : Hid (r ∉ es.map (·.ref)) := by
    exact isInR_not.1 h2
  have h3' : ¬ (200 : Int) ≤ es.length := by omega
  have h3n : es.length < 200 := h3
  obtain ⟨va, vc, rfl, _⟩ := h.row.lies
  have Hlt : Hid (∀ j, (Value.slice va es.length vc).ownBlock = some j → j < W.heap.size) := h.row.lt
  clear h hc hl h0 h1 q2 h3
  go_enter Tryd.func5, Tryd.ntmps5
  go_wp2_with fail
  refine HC.out.mono ?_
  rintro e w1 ⟨rfl, b1⟩
  rw [hs0] at b1
  have B1 := b0.trans (b1.mono (by omega))
  have x1 := x0.below b1 (by omega)
  have HH : Hid (Calls _ _ _ _ _) := jhas_any (Hj.out.below B1) r
  rw [h2] at HH
  have d0 := x1.c0
  have hs1 := b1.size
  rw [hs0] at hs1
  clear HC b1 x0 b0 h2 hs0
  go_wp2_with fail
  refine HH.out.mono ?_
  rintro e w2 ⟨rfl, b2⟩
  have B2 := B1.trans (b2.mono B1.size)
  have x2 := x1.below b2 (by omega)
  have hs2 := b2.size
  have HL : Hid (Calls _ _ _ _ _) := jlen_any (Hj.out.below B2)
  clear HH b2 B1 x1 d0
  go_wp2_with fail
  refine HL.out.mono ?_
  rintro e w3 ⟨rfl, hw⟩
  rw [hw]; clear hw w3 HL
  go_upto_region 8 with fail
  refine wp_region_drawn (by kernel_rfl) ?_
  have HDr : Hid (Below w2.heap.size w2 w2.drew) := ⟨rfl, rfl, rfl, Nat.le_refl _, fun _ _ => rfl⟩
  generalize w2.drew = v2 at *
  have HAt : Hid (∀ u, Below w2.heap.size w2 u → JAt u n0 bj bm (.slice va es.length vc) es ∧ Box4 u W.heap.size r en pe (.slice a l.length cap) ∧ IsLn u a l cap) := fun u hu => by
    have B := B2.trans (hu.mono B2.size)
    exact ⟨Hj.out.below B, x2.below hu (by omega), Hl.out.below B⟩
  have HB2 : Hid (Below W.heap.size W w2) := B2
  have hs2 : W.heap.size ≤ w2.heap.size := by omega
  clear B2 x2 Hj Hl
  refine wpAny_take (i := 0) (v := .pointer (some ⟨bj, 0, none⟩)) rfl (by kernel_rfl) (by kernel_rfl) (by kernel_rfl) (fun _ _ _ h => h) (Or.inl ⟨by rfl, fun w => by go_simp⟩) ?_
  simp only [Act.put, List.getElem_toArray, List.getElem_cons_succ, List.getElem_cons_zero, List.setIfInBounds_toArray, List.set_cons_zero, List.set_cons_succ]
  refine wpAny_take (i := 1) (v := .pointer (some ⟨bj, 0, none⟩)) rfl (by kernel_rfl) (by kernel_rfl) (by kernel_rfl) (fun _ _ _ h => h) (Or.inl ⟨by rfl, fun w => by go_simp⟩) ?_
  simp only [Act.put, List.getElem_toArray, List.getElem_cons_succ, List.getElem_cons_zero, List.setIfInBounds_toArray, List.set_cons_zero, List.set_cons_succ]
  refine wpAny_take (i := 2) (v := .pointer (some ⟨bj, 0, none⟩)) rfl (by kernel_rfl) (by kernel_rfl) (by kernel_rfl) (fun _ _ _ h => h) (Or.inl ⟨by rfl, fun w => by go_simp⟩) ?_
  simp only [Act.put, List.getElem_toArray, List.getElem_cons_succ, List.getElem_cons_zero, List.setIfInBounds_toArray, List.set_cons_zero, List.set_cons_succ]
  refine wpAny_take (i := 3) (v := .pointer (some ⟨bj, 0, none⟩)) rfl (by kernel_rfl) (by kernel_rfl) (by kernel_rfl) (fun _ _ _ h => h) (Or.inl ⟨by rfl, fun w => by go_simp⟩) ?_
  simp only [Act.put, List.getElem_toArray, List.getElem_cons_succ, List.getElem_cons_zero, List.setIfInBounds_toArray, List.set_cons_zero, List.set_cons_succ]
  refine any_of_L (g := 8) (T := fun u => Below w2.heap.size w2 u) _ _ _ _ ?_
  refine L_take (i := 4) (v := .slice va es.length vc) rfl rfl (by kernel_rfl) (by decide) (by kernel_rfl) (by kernel_rfl) (by kernel_rfl) (by kernel_rfl) (fun _ _ _ h => h) (Or.inl ⟨by rfl, fun w' hw' => by have c0 := (HAt.out w' hw').1.c0; clear hw'; go_simp⟩) HDr.out ?_
  simp only [Act.put, List.getElem_toArray, List.getElem_cons_succ, List.getElem_cons_zero, List.setIfInBounds_toArray, List.set_cons_zero, List.set_cons_succ]
  refine L_takeC [8, 7, 6] (i := 5) (v := .agg #[.string r, .int .i64 en, .int .i64 pe, .slice a l.length cap]) rfl (by kernel_rfl) (by kernel_rfl) (by decide) (by kernel_rfl) (by kernel_rfl) (by kernel_rfl) (by kernel_rfl) (fun _ _ _ h => h) (Or.inl ⟨by rfl, fun w' hw' => by have c0 := (HAt.out w' hw').2.1.c0; have c1 := (HAt.out w' hw').2.1.c1; have c2 := (HAt.out w' hw').2.1.c2; have c3 := (HAt.out w' hw').2.1.c3; clear hw'; go_simp⟩) HDr.out ?_
  simp only [Act.put, List.getElem_toArray, List.getElem_cons_succ, List.getElem_cons_zero, List.setIfInBounds_toArray, List.set_cons_zero, List.set_cons_succ]
  have HAp : Hid (Calls _ _ _ v2 _) := apart_any r en pe a l cap v2 (HAt.out v2 HDr.out).2.2 hne hll.2
  refine L_oneJ (i := 6) (by kernel_rfl) ?_
  refine wpOp_step rfl ?_
  intro K hK
  rw [if_pos (by rfl)]
  have hK' : Shut (∀ a w, _ → K a w) := hK
  clear hK
  go_wp2_with fail
  refine HAp.out.mono ?_
  rintro e v5 ⟨a5, k5, rfl, r5, b5⟩
  have H5 : Hid (Below w2.heap.size w2 v5) := HDr.out.trans (b5.mono HDr.out.size)
  have R5 : Hid (LnRow v5 w2.heap.size (.slice a5 l.length k5) l) := r5.mono HDr.out.size
  refine hK'.out _ _ ⟨H5.out, ?_⟩
  clear hK' K b5 r5 HAp HDr
  try simp only [Act.put, List.getElem_toArray, List.getElem_cons_succ, List.getElem_cons_zero, List.setIfInBounds_toArray, List.set_cons_zero, List.set_cons_succ]
  refine L_oneJ (i := 7) (by kernel_rfl) ?_
  refine wpOp_step rfl ?_
  intro K hK
  rw [if_pos (by rfl)]
  have hK' : Shut (∀ a w, _ → K a w) := hK
  clear hK
  go_wp2_with fail
  obtain ⟨v3, hv3⟩ : ∃ v3, v5.alloc (.cells #[.string r, .int .i64 en, .int .i64 pe, .slice a5 l.length k5] 33) = v3 := ⟨_, rfl⟩
  have hb23 : Below v5.heap.size v5 v3 := by rw [← hv3]; exact (Below.refl _ v5).alloc (Nat.le_refl _) _
  have H3 : Hid (Below w2.heap.size w2 v3) := H5.out.trans (hb23.mono H5.out.size)
  have R3 : Hid (LnRow v3 w2.heap.size (.slice a5 l.length k5) l) := R5.out.below hb23
  have hr3 : v3.heap[v5.heap.size]? = some (.cells #[.string r, .int .i64 en, .int .i64 pe, .slice a5 l.length k5] 33 (0, 0)) := by rw [← hv3]; exact World.alloc_heap_new v5 _
  have j3 := (HAt.out v3 H3.out).1
  have x3 := (HAt.out v3 H3.out).2.1
  rw [hv3]
  refine hK'.out _ _ ⟨H3.out, ?_⟩
  clear hK' K hv3 hb23 HAt
  try simp only [Act.put, List.getElem_toArray, List.getElem_cons_succ, List.getElem_cons_zero, List.setIfInBounds_toArray, List.set_cons_zero, List.set_cons_succ]
  refine L_go (by kernel_rfl) (by kernel_rfl) ?_
  obtain ⟨i0, hi, hz0, hz1, hz2⟩ := info_parts je_info
  obtain ⟨g, cp, w8, h1, h2, h4, h5, h6⟩ := run_append_lies (P := Tryd.prog) v3 23 23 n0 33 i0 (.agg #[.string ByteArray.empty, .int .i64 0, .int .i64 0, .slice none 0 0]) 4 56 Tryd.underlying23 hi hz0 hz1 hz2 rfl (by decide) (.slice va es.length vc) es.length (jeRow es) j3.row ⟨v5.heap.size, 0, none⟩ 1 1 (Je.mk r en pe a5 k5 l).cells.toList rfl (World.news_of_block hr3) (je_one _) (by decide) (by unfold maxLen; omega) (by omega) (by have := H3.out.size; omega) v3.heap.size rfl
  obtain ⟨w9, hw9⟩ : ∃ w9, w8.setCell ⟨bj, 0, none⟩ (.slice (some ⟨g, 0, none⟩) (es.length + 1) cp) = w9 := ⟨_, rfl⟩
  have hbv : some bj ≠ (Value.slice va es.length vc).ownBlock := fun e => by
    obtain ⟨cs, hh⟩ := j3.row.typ bj e.symm
    rw [j3.box] at hh
    cases hh
  have hbx8 : w8.heap[bj]? = some (.cells #[.slice va es.length vc, .map (some bm)] 49 (0, 0)) := (h4.block bj j3.ltj hbv).trans j3.box
  have e8 : w8.cell? ⟨bj, 0, none⟩ = some (.slice va es.length vc) := by simp [World.cell?, hbx8]
  have f8 : w8.frozen? ⟨bj, 0, none⟩ = false := by simp [World.frozen?, hbx8]
  have hbm : bj ≠ bm := fun e => by
    obtain ⟨_, _, hh, _⟩ := j3.map
    rw [← e, j3.box] at hh
    cases hh
  have hx9 : Box4 w9 W.heap.size r en pe (.slice a l.length cap) := by
    have hne1 : W.heap.size ≠ bj := fun e => by
      have hh := x3
      unfold Box4 at hh
      rw [e, j3.box] at hh
      cases hh
    have hne2 : some W.heap.size ≠ (Value.slice va es.length vc).ownBlock := fun e => by
      have := Hlt.out _ e.symm
      omega
    unfold Box4
    rw [← hw9, Below.heap_setCell _ _ _ _ hne1, h4.block _ (Array.getElem?_eq_some_iff.1 x3).1 hne2]
    exact x3
  have hm9 : SMap w9 bm (es.map (·.ref)) := by
    refine j3.map.of ?_
    rw [← hw9, Below.heap_setCell _ _ _ _ hbm.symm]
    refine h4.block bm j3.ltm (fun e => ?_)
    obtain ⟨cs, hh⟩ := j3.row.typ bm e.symm
    obtain ⟨_, _, h7, _⟩ := j3.map
    rw [h7] at hh
    cases hh
  have hb9 : w9.heap[bj]? = some (.cells #[.slice (some ⟨g, 0, none⟩) (es.length + 1) cp, .map (some bm)] 49 (0, 0)) := by
    rw [← hw9, setCell_eq_setRow w8 bj 0 _ 49 (0, 0) _ hbx8, setRow_heap w8 bj _ _ 49 (0, 0) hbx8]
    rfl
  have hm9d : SMap w9.drew bm (es.map (·.ref)) := hm9
  obtain ⟨w10, hrun, hm10, ho10, ht10, hu10, hz10, hb10⟩ := run_sput hm9d r Hnin.out
  have hend := post_end (V3 := w10) j3 (R3.out.mono (by omega)) h2 h4 hw9.symm hm10 ho10 ht10 hu10 hz10 hb10
  have HEnd : Hid (JAt w10 n0 bj bm (.slice (some ⟨g, 0, none⟩) (es.length + 1) cp) (es ++ [⟨r, en, pe, a5, k5, l⟩]) ∧ JKeep bj bm (.slice va es.length vc) v3 w10) := hend
  have HBW : Hid (Below W.heap.size W v3) := HB2.out.trans (H3.out.mono hs2)
  have Hg : Hid ((Value.slice va es.length vc).ownBlock = some g ∨ W.heap.size ≤ g) := by
    rcases h5 with h5 | h5
    · exact .inl h5
    · have := HBW.out.size
      exact .inr (by omega)
  have dm : w9.drew.cell? ⟨bj, 1, none⟩ = some (.map (some bm)) := by
    show w9.cell? ⟨bj, 1, none⟩ = _
    simp [World.cell?, hb9]
  have dr : w9.drew.cell? ⟨W.heap.size, 0, none⟩ = some (.string r) := by
    show w9.cell? ⟨W.heap.size, 0, none⟩ = _
    exact hx9.c0
  clear j3 x3 hbx8 h2 h4 h5 h6 hm9 hb9 hm9d hm10 ho10 ht10 hu10 hz10 hb10 hend H3 H5 R5 R3 hr3 hbv hbm hx9 HB2 Hlt Hnin
  refine wpOp_step rfl ?_
  intro K hK
  rw [if_pos (by rfl)]
  have hK' : Shut (∀ a w, _ → K a w) := hK
  clear hK
  refine wp_append_run (.tmp 28) (.tmp 31) 23 23 (by rfl) (.slice va es.length vc) (.slice (some ⟨v5.heap.size, 0, none⟩) 1 1) (by rfl) (by rfl) h1 ?_
  refine hK'.out _ _ ?_
  clear hK' K
  clear h1
  try simp only [Act.put, List.getElem_toArray, List.getElem_cons_succ, List.getElem_cons_zero, List.setIfInBounds_toArray, List.set_cons_zero, List.set_cons_succ]
  refine wpAny_take (i := 9) (v := .pointer (some ⟨bj, 0, none⟩)) rfl (by kernel_rfl) (by kernel_rfl) (by kernel_rfl) (fun _ _ _ h => h) (Or.inl ⟨by rfl, fun w => by go_simp⟩) ?_
  simp only [Act.put, List.getElem_toArray, List.getElem_cons_succ, List.getElem_cons_zero, List.setIfInBounds_toArray, List.set_cons_zero, List.set_cons_succ]
  refine wpAny_take (i := 10) (v := .pointer (some ⟨bj, 0, none⟩)) rfl (by kernel_rfl) (by kernel_rfl) (by kernel_rfl) (fun _ _ _ h => h) (Or.inl ⟨by rfl, fun w => by go_simp⟩) ?_
  simp only [Act.put, List.getElem_toArray, List.getElem_cons_succ, List.getElem_cons_zero, List.setIfInBounds_toArray, List.set_cons_zero, List.set_cons_succ]
  refine any_one (i := 11) (by kernel_rfl) ?_
  refine wpOp_step rfl ?_
  intro K hK
  rw [if_pos (by rfl)]
  have hK' : Shut (∀ a w, _ → K a w) := hK
  clear hK
  go_wp2_with fail
  try rw [hw9]
  clear hw9 e8 f8
  refine hK'.out _ _ ?_
  clear hK' K
  refine wpAny_done (by kernel_rfl) ?_ _
  go_upto_region 9 with fail
  refine wp_region_drawn (by kernel_rfl) ?_
  generalize w9.drew = v9 at *
  refine wpAny_take (i := 0) (v := .pointer (some ⟨bj, 0, none⟩)) rfl (by kernel_rfl) (by kernel_rfl) (by kernel_rfl) (fun _ _ _ h => h) (Or.inl ⟨by rfl, fun w => by go_simp⟩) ?_
  simp only [Act.put, List.getElem_toArray, List.getElem_cons_succ, List.getElem_cons_zero, List.setIfInBounds_toArray, List.set_cons_zero, List.set_cons_succ]
  refine wpAny_take (i := 1) (v := .pointer (some ⟨bj, 0, none⟩)) rfl (by kernel_rfl) (by kernel_rfl) (by kernel_rfl) (fun _ _ _ h => h) (Or.inl ⟨by rfl, fun w => by go_simp⟩) ?_
  simp only [Act.put, List.getElem_toArray, List.getElem_cons_succ, List.getElem_cons_zero, List.setIfInBounds_toArray, List.set_cons_zero, List.set_cons_succ]
  refine wpAny_take (i := 2) (v := .pointer (some ⟨bj, 1, none⟩)) rfl (by kernel_rfl) (by kernel_rfl) (by kernel_rfl) (fun _ _ _ h => h) (Or.inl ⟨by rfl, fun w => by go_simp⟩) ?_
  simp only [Act.put, List.getElem_toArray, List.getElem_cons_succ, List.getElem_cons_zero, List.setIfInBounds_toArray, List.set_cons_zero, List.set_cons_succ]
  refine wpAny_take (i := 4) (v := .pointer (some ⟨W.heap.size, 0, none⟩)) rfl (by kernel_rfl) (by kernel_rfl) (by kernel_rfl) (fun _ _ _ h => h) (Or.inl ⟨by rfl, fun w => by go_simp⟩) ?_
  simp only [Act.put, List.getElem_toArray, List.getElem_cons_succ, List.getElem_cons_zero, List.setIfInBounds_toArray, List.set_cons_zero, List.set_cons_succ]
  refine any_of_L (g := 7) (T := fun u => u = v9) _ _ _ _ ?_
  refine L_take (i := 3) (v := .map (some bm)) rfl rfl (by kernel_rfl) (by decide) (by kernel_rfl) (by kernel_rfl) (by kernel_rfl) (by kernel_rfl) (fun _ _ _ h => h) (Or.inl ⟨by rfl, fun w' hw' => by rw [hw']; clear hw'; go_simp⟩) rfl ?_
  simp only [Act.put, List.getElem_toArray, List.getElem_cons_succ, List.getElem_cons_zero, List.setIfInBounds_toArray, List.set_cons_zero, List.set_cons_succ]
  refine L_take (i := 5) (v := .string r) rfl rfl (by kernel_rfl) (by decide) (by kernel_rfl) (by kernel_rfl) (by kernel_rfl) (by kernel_rfl) (fun _ _ _ h => h) (Or.inl ⟨by rfl, fun w' hw' => by rw [hw']; clear hw'; go_simp⟩) rfl ?_
  simp only [Act.put, List.getElem_toArray, List.getElem_cons_succ, List.getElem_cons_zero, List.setIfInBounds_toArray, List.set_cons_zero, List.set_cons_succ]
  refine L_take (i := 6) (v := .agg #[]) rfl rfl (by kernel_rfl) (by decide) (by kernel_rfl) (by kernel_rfl) (by kernel_rfl) (by kernel_rfl) (fun _ _ _ h => h) (Or.inl ⟨by rfl, fun w' hw' => by clear hw'; go_simp⟩) rfl ?_
  simp only [Act.put, List.getElem_toArray, List.getElem_cons_succ, List.getElem_cons_zero, List.setIfInBounds_toArray, List.set_cons_zero, List.set_cons_succ]
  refine L_go (by kernel_rfl) (by kernel_rfl) ?_
  refine wpOp_step rfl ?_
  intro K hK
  rw [if_pos (by rfl)]
  have hK' : Shut (∀ a w, _ → K a w) := hK
  clear hK
  refine wp_sput_run 47 (.tmp 38) (.tmp 40) (.tmp 41) (by rfl) (.map (some bm)) (.string r) (.agg #[]) (by rfl) (by rfl) (by rfl) hrun ?_
  refine hK'.out _ _ ?_
  clear hK' K
  clear hrun dm dr
  refine wpAny_done (by kernel_rfl) ?_ _
  have HL : Hid (Calls _ _ _ _ _) := jlen_any HEnd.out.1
  rw [List.length_append, List.length_singleton] at HL
  have q0 : ((es.length + 1 : Nat) : Int) = (es.length : Int) + 1 := by omega
  rw [q0] at HL
  clear q0
  go_wp2_with fail
  refine HL.out.mono ?_
  rintro e w3 ⟨rfl, hw⟩
  rw [hw]; clear hw w3 HL
  go_wp2
  go_ret2
  refine ⟨?_, g, cp, a5, k5, HEnd.out.1, ?_, Hg.out⟩
  · simp
  · have k1 : JKeep bj bm (.slice va es.length vc) W v3 := .of_below HBW.out
    have k2 := HEnd.out.2
    have hz := HBW.out.size
    exact ⟨k2.os.trans k1.os, k2.tape.trans k1.tape, k2.output.trans k1.output, Nat.le_trans k1.size k2.size, fun b hb h1 h2 h3 => (k2.block b (by omega) h1 h2 h3).trans (k1.block b hb h1 h2 h3)⟩
end
end Go.Proofs.YtffekgndlhleiaaDoor
