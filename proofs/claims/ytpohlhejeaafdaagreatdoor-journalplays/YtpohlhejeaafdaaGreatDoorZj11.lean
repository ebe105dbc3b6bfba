/-
  The contracts of a journal's At and Of.
-/
import Derived.Test.YtpohlhejeaafdaaGreatDoorZj10
import Derived.Deep.Cut
namespace Go.Proofs.YtpohlhejeaafdaaGreatDoor
set_option linter.unusedVariables false
set_option linter.unusedSimpArgs false
set_option maxRecDepth 100000
open Go.RowKit Go.Lib
section
variable {P : Program} {o : Oper} {a : Act} {w w' : World} {K : Act → World → Prop} {Q : Exit → Act → World → Prop}
theorem wp_sput_run (t : TypeId) (m k x : Operand) (ho : o.op = .mapUpdate t m k x) (u1 u2 u3 : Value) (h1 : a.eval m = u1) (h2 : a.eval k = u2) (h3 : a.eval x = u3) (hr : (Instr.mapUpdate t u1 u2 u3).run P w = .ok () w') (h : K (a.put o.dst undef) w') : o.wp P a w K Q := by
  unfold Oper.wp execOp
  simp only [ho, Sem.run_bind, Sem.run_pure, Result.andThen_ok, h1, h2, h3, hr]
  exact h
end
section
variable {P : Program} {ops : Array Oper} {Q : Exit → Act → World → Prop} {md : Region.Mode} {T : World → Prop} {g : Nat}
/-- The only one that may come up, ahead of the named one. -/
theorem L_oneJ {i fuel : Nat} {listed : Array Bool} {a : Act} {w : World} (hr : Region.ready md ops listed = [i])
    (h : wpOp P ops Q i (fun a' w' => T w' ∧ wpAnyL P md ops Q g T fuel (listed.setIfInBounds i true) a' w') a w) : wpAnyL P md ops Q g T (fuel + 1) listed a w := by
  refine ⟨(fun h0 => by rw [hr] at h0; simp at h0), fun j hj => ?_⟩
  rw [hr] at hj
  obtain rfl := List.mem_singleton.1 hj
  exact wpOp_mono (fun a' w' h' => ⟨fun _ => h'.1, h'.2⟩) h
end
/-- What a Post may turn. -/
structure JKeep (bj bm : Nat) (v : Value) (W W' : World) : Prop where
  os : W'.os = W.os
  tape : W'.tape = W.tape
  output : W'.output = W.output
  size : W.heap.size ≤ W'.heap.size
  block : ∀ b, b < W.heap.size → b ≠ bj → b ≠ bm → some b ≠ v.ownBlock → W'.heap[b]? = W.heap[b]?
theorem JKeep.of_below {bj bm : Nat} {v : Value} {W W' : World} (h : Below W.heap.size W W') : JKeep bj bm v W W' := ⟨h.os, h.tape, h.output, h.size, fun b hb _ _ _ => h.block b hb⟩
theorem JKeep.below {n0 bj bm : Nat} {v : Value} {W W' : World} {es : List Je} (h : JKeep bj bm v W W') (j : JAt W n0 bj bm v es) : Below n0 W W' :=
  ⟨h.os, h.tape, h.output, h.size, fun b hb => h.block b (by have := j.hj; have := j.ltj; omega) (by have := j.hj; omega) (by have := j.hm; omega) (fun e => by have := j.row.own b e.symm; omega)⟩

/-- What is wrong with a Post. -/
def pBad (c : List Ac) (es : List Je) (r : ByteArray) (en pe : Int) (l : List Ln) : Int :=
  if entBad c r en pe l ≠ 0 then entBad c r en pe l else if hasR es r = true then 8 else if 200 ≤ es.length then 4 else 0
theorem pBad_zero {c : List Ac} {es : List Je} {r : ByteArray} {en pe : Int} {l : List Ln} : pBad c es r en pe l = 0 ↔ entBad c r en pe l = 0 ∧ hasR es r = false ∧ es.length < 200 := by
  unfold pBad
  constructor
  · intro h
    split at h
    · rename_i h1; exact absurd h h1
    · rename_i h1
      split at h
      · omega
      · rename_i h2
        split at h
        · omega
        · exact ⟨Classical.not_not.1 h1, by simpa using h2, by omega⟩
  · rintro ⟨h1, h2, h3⟩
    rw [if_neg (by simp [h1]), if_neg (by simp [h2]), if_neg (by omega)]

section
variable {W : World} {n0 bj bm : Nat} {v : Value} {es : List Je}
set_option maxHeartbeats 2000000 in
theorem post_bad (h : JAt W n0 bj bm v es) (hlen : es.length ≤ 1000000) (ca : Option Addr) (cc : Nat) (c : List Ac) (r : ByteArray) (en pe : Int) (a : Option Addr) (cap : Nat) (l : List Ln) (hc : IsSl W ca c cc) (hl : IsLn W a l cap) (h0 : pBad c es r en pe l ≠ 0) :
    Calls Tryz.prog 6 #[.pointer (some ⟨bj, 0, none⟩), .slice ca c.length cc, .agg #[.string r, .int .i64 en, .int .i64 pe, .slice a l.length cap]] W fun e w' => e = .returned (.tuple #[.int .i64 0, enE (pBad c es r en pe l)]) ∧ Below W.heap.size W w' := by
  have b0 : Below W.heap.size W (W.alloc (.cells #[.string r, .int .i64 en, .int .i64 pe, .slice a l.length cap] 29)) := (Below.refl _ W).alloc (Nat.le_refl _) _
  have x0 := Box4.new W r en pe (.slice a l.length cap)
  have hs0 : (W.alloc (.cells #[.string r, .int .i64 en, .int .i64 pe, .slice a l.length cap] 29)).heap.size = W.heap.size + 1 := by simp
  have HC : Hid (Calls _ _ _ _ _) := check_any ca cc c r en pe a cap l _ (hc.below b0) (hl.below b0)
  have Hj : Hid (JAt W n0 bj bm v es) := h
  clear h hc hl
  unfold pBad at h0 ⊢
  by_cases h1 : entBad c r en pe l = 0
  · rw [if_neg (by simp [h1])] at h0 ⊢
    rw [h1, enE_zero] at HC
    clear h1
    by_cases h2 : hasR es r = true
    · rw [if_pos h2] at h0 ⊢
      rw [enE_ne (by decide)]
      go_enter Tryz.func6, Tryz.ntmps6
      go_wp2_with fail
      refine HC.out.mono ?_
      rintro e w1 ⟨rfl, b1⟩
      rw [hs0] at b1
      have B1 := b0.trans (b1.mono (by omega))
      have x1 := x0.below b1 (by omega)
      have HH : Hid (Calls _ _ _ _ _) := jhas_any (Hj.out.below B1) r
      have d0 := x1.c0
      rw [h2] at HH
      clear HC b1 x0 b0 h2
      go_wp2_with fail
      refine HH.out.mono ?_
      rintro e w2 ⟨rfl, b2⟩
      have B2 := B1.trans (b2.mono B1.size)
      clear HH b2 B1 Hj x1 d0
      go_wp2
      go_ret2
      exact ⟨rfl, B2⟩
    · rw [if_neg h2] at h0 ⊢
      have h2' : hasR es r = false := by simpa using h2
      by_cases h3 : 200 ≤ es.length
      · rw [if_pos h3]
        rw [enE_ne (by decide)]
        have h3' : (200 : Int) ≤ es.length := by omega
        clear h3 h0 h2
        go_enter Tryz.func6, Tryz.ntmps6
        go_wp2_with fail
        refine HC.out.mono ?_
        rintro e w1 ⟨rfl, b1⟩
        rw [hs0] at b1
        have B1 := b0.trans (b1.mono (by omega))
        have x1 := x0.below b1 (by omega)
        have HH : Hid (Calls _ _ _ _ _) := jhas_any (Hj.out.below B1) r
        have d0 := x1.c0
        rw [h2'] at HH
        clear HC b1 x0 b0 h2'
        go_wp2_with fail
        refine HH.out.mono ?_
        rintro e w2 ⟨rfl, b2⟩
        have B2 := B1.trans (b2.mono B1.size)
        have HL : Hid (Calls _ _ _ _ _) := jlen_any (Hj.out.below B2)
        clear HH b2 B1 Hj x1 d0
        go_wp2_with fail
        refine HL.out.mono ?_
        rintro e w3 ⟨rfl, hw⟩
        rw [hw]; clear hw w3 HL
        go_wp2
        go_ret2
        exact ⟨rfl, B2⟩
      · rw [if_neg h3] at h0
        exact absurd rfl h0
  · rw [if_pos h1]
    rw [enE_ne h1] at HC ⊢
    generalize entBad c r en pe l = bad at *
    clear h1 h0
    go_enter Tryz.func6, Tryz.ntmps6
    go_wp2_with fail
    refine HC.out.mono ?_
    rintro e w1 ⟨rfl, b1⟩
    rw [hs0] at b1
    have B1 := b0.trans (b1.mono (by omega))
    clear HC b1 x0 b0 Hj
    go_wp2
    go_ret2
    exact ⟨rfl, B1⟩
end
end Go.Proofs.YtpohlhejeaafdaaGreatDoor

namespace Go.Proofs.YtpohlhejeaafdaaGreatDoor
set_option linter.unusedVariables false
set_option linter.unusedSimpArgs false
set_option maxRecDepth 100000
open Go.RowKit Go.Lib
theorem ln_keep {W W' : World} {n : Nat} {v : Value} {l : List Ln} (h : LnRow W n v l) (hb : ∀ (j : Nat) (cs : Array Value) (fr : Nat × Nat), W.heap[j]? = some (.cells cs 44 fr) → W'.heap[j]? = W.heap[j]?) : LnRow W' n v l := by
  rcases h.2 with ⟨hv, hn⟩ | ⟨g1, c1, cur, hv, hb1, hh, r⟩
  · exact ⟨h.1, .inl ⟨hv, hn⟩⟩
  · exact ⟨h.1, .inr ⟨g1, c1, cur, hv, hb1, (hb g1 _ _ hh).trans hh, r⟩⟩
/-- A row's block is of the row's type. -/
theorem JeRow.typ {w : World} {n : Nat} {v : Value} {xs : List Je} (h : JeRow w n v xs) : ∀ j, v.ownBlock = some j → ∃ cs, w.heap[j]? = some (.cells cs 29 (0, 0)) := fun j ej => by
  rcases h.2 with ⟨rfl, _⟩ | ⟨g, cp, cur, rfl, hg, hh, _⟩
  · cases ej
  · cases ej; exact ⟨cur, hh⟩

section
variable {W : World} {n0 bj bm : Nat} {v : Value} {es : List Je}
/-- Behind the append, the store and the map's turn. -/
theorem post_end {V V1 V2 V3 : World} {r : ByteArray} {en pe : Int} {a' : Option Addr} {cap' : Nat} {l : List Ln} {g cp : Nat}
    (j : JAt V n0 bj bm v es) (hl : LnRow V n0 (.slice a' l.length cap') l)
    (hown : V1.ownsRow n0 29 4 (.slice (some ⟨g, 0, none⟩) (es.length + 1) cp) (es.length + 1) (jeRow es ++ (Je.mk r en pe a' cap' l).cells.toList)) (hg : V.grownBy V1 v.ownBlock)
    (hV2 : V2 = V1.setCell ⟨bj, 0, none⟩ (.slice (some ⟨g, 0, none⟩) (es.length + 1) cp))
    (hm : SMap V3 bm (es.map (·.ref) ++ [r])) (hos : V3.os = V2.os) (htp : V3.tape = V2.tape) (hou : V3.output = V2.output) (hsz : V3.heap.size = V2.heap.size) (hb : ∀ b, b ≠ bm → V3.heap[b]? = V2.heap[b]?) :
    JAt V3 n0 bj bm (.slice (some ⟨g, 0, none⟩) (es.length + 1) cp) (es ++ [⟨r, en, pe, a', cap', l⟩]) ∧ JKeep bj bm v V V3 := by
  have hbm : bj ≠ bm := fun e => by
    obtain ⟨_, _, h1, _⟩ := j.map
    rw [← e, j.box] at h1
    cases h1
  have hbv : some bj ≠ v.ownBlock := fun e => by
    obtain ⟨cs, h1⟩ := j.row.typ bj e.symm
    rw [j.box] at h1
    cases h1
  have hbg : bj ≠ g := fun e => by
    rcases hown.2 with ⟨hv, _⟩ | ⟨g1, c1, cur, hv, _, hh, _⟩
    · cases hv
    · cases hv
      have h1 := hg.block bj j.ltj hbv
      rw [j.box, e, hh] at h1
      cases h1
  have hbx1 : V1.heap[bj]? = some (.cells #[v, .map (some bm)] 54 (0, 0)) := (hg.block bj j.ltj hbv).trans j.box
  have hbx2 : V2.heap[bj]? = some (.cells #[.slice (some ⟨g, 0, none⟩) (es.length + 1) cp, .map (some bm)] 54 (0, 0)) := by
    rw [hV2, setCell_eq_setRow V1 bj 0 _ 54 (0, 0) _ hbx1, setRow_heap V1 bj _ _ 54 (0, 0) hbx1]
    rfl
  have hoth : ∀ b, b ≠ bj → V2.heap[b]? = V1.heap[b]? := fun b hne => by rw [hV2]; exact Below.heap_setCell _ _ _ _ hne
  have hsz2 : V2.heap.size = V1.heap.size := by rw [hV2]; simp [World.setCell]
  have hlow : ∀ b, b < V.heap.size → b ≠ bj → b ≠ bm → some b ≠ v.ownBlock → V3.heap[b]? = V.heap[b]? := fun b hlt h1 h2 h3 => by
    rw [hb b h2, hoth b h1, hg.block b hlt h3]
  have hline : ∀ (b : Nat) (cs : Array Value) (fr : Nat × Nat), V.heap[b]? = some (.cells cs 44 fr) → V3.heap[b]? = V.heap[b]? := fun b cs fr hh => by
    refine hlow b (Array.getElem?_eq_some_iff.1 hh).1 (fun e => ?_) (fun e => ?_) (fun e => ?_)
    · rw [e, j.box] at hh; cases hh
    · obtain ⟨_, _, h1, _⟩ := j.map
      rw [e, h1] at hh; cases hh
    · obtain ⟨cs', h1⟩ := j.row.typ b e.symm
      rw [h1] at hh; cases hh
  refine ⟨⟨(hb bj hbm).trans hbx2, by simpa using hm, ?_, fun x hx => ?_, j.hj, j.hm⟩, ⟨?_, ?_, ?_, ?_, hlow⟩⟩
  · unfold JeRow
    rw [jeRow_append, jeRow_one, List.length_append]
    rcases hown.2 with ⟨hv, _⟩ | ⟨g1, c1, cur, hv, hb1, hh, rr⟩
    · cases hv
    · have hgm : g1 ≠ bm := fun e => by
        obtain ⟨_, _, h1, _⟩ := hm
        cases hv
        have h2 := hg.block bm j.ltm (fun e => by
          obtain ⟨cs', h3⟩ := j.row.typ bm e.symm
          obtain ⟨_, _, h4, _⟩ := j.map
          rw [h4] at h3; cases h3)
        obtain ⟨_, _, h4, _⟩ := j.map
        rw [h4, ← e, hh] at h2
        cases h2
      have hgj : g1 ≠ bj := fun e => by cases hv; exact hbg e.symm
      exact ⟨hown.1, .inr ⟨g1, c1, cur, hv, hb1, ((hb g1 hgm).trans (hoth g1 hgj)).trans hh, rr⟩⟩
  · rcases List.mem_append.1 hx with hx | hx
    · exact ln_keep (j.lns x hx) hline
    · rw [List.mem_singleton.1 hx]
      exact ln_keep hl hline
  · rw [hos, hV2]; exact hg.os
  · rw [htp, hV2]; exact hg.tape
  · rw [hou, hV2]; exact hg.output
  · rw [hsz, hsz2]; exact hg.size

set_option maxHeartbeats 4000000 in
theorem post_ok (h : JAt W n0 bj bm v es) (ca : Option Addr) (cc : Nat) (c : List Ac) (r : ByteArray) (en pe : Int) (a : Option Addr) (cap : Nat) (l : List Ln) (hc : IsSl W ca c cc) (hl : IsLn W a l cap) (h0 : pBad c es r en pe l = 0) :
    Calls Tryz.prog 6 #[.pointer (some ⟨bj, 0, none⟩), .slice ca c.length cc, .agg #[.string r, .int .i64 en, .int .i64 pe, .slice a l.length cap]] W fun e w' => e = .returned (.tuple #[.int .i64 (es.length : Int), .nilIface]) ∧ ∃ g cp a' cap', JAt w' n0 bj bm (.slice (some ⟨g, 0, none⟩) (es.length + 1) cp) (es ++ [⟨r, en, pe, a', cap', l⟩]) ∧ JKeep bj bm v W w' ∧ (v.ownBlock = some g ∨ W.heap.size ≤ g) := by
  obtain ⟨h1, h2, h3⟩ := pBad_zero.1 h0
  obtain ⟨_, q2, _, _⟩ := entBad_zero.1 h1
  have hll := headBad_len q2
  have hne : l ≠ [] := fun e => by rw [e] at hll; simp at hll
  have b0 : Below W.heap.size W (W.alloc (.cells #[.string r, .int .i64 en, .int .i64 pe, .slice a l.length cap] 29)) := (Below.refl _ W).alloc (Nat.le_refl _) _
  have x0 := Box4.new W r en pe (.slice a l.length cap)
  have hs0 : (W.alloc (.cells #[.string r, .int .i64 en, .int .i64 pe, .slice a l.length cap] 29)).heap.size = W.heap.size + 1 := by simp
  have HC : Hid (Calls _ _ _ _ _) := check_any ca cc c r en pe a cap l _ (hc.below b0) (hl.below b0)
  rw [h1, enE_zero] at HC
  have Hj : Hid (JAt W n0 bj bm v es) := h
  have Hl : Hid (IsLn W a l cap) := hl
  have hn0 : n0 ≤ W.heap.size := by have := h.hj; have := h.ltj; omega
  have Hnin : Hid (r ∉ es.map (·.ref)) := by
    exact isInR_not.1 h2
  have h3' : ¬ (200 : Int) ≤ es.length := by omega
  have h3n : es.length < 200 := h3
  obtain ⟨va, vc, rfl, _⟩ := h.row.lies
  have Hlt : Hid (∀ j, (Value.slice va es.length vc).ownBlock = some j → j < W.heap.size) := h.row.lt
  clear h hc hl h0 h1 q2 h3
  go_enter Tryz.func6, Tryz.ntmps6
  go_wp2_with fail
  refine HC.out.mono ?_
  rintro e w1 ⟨rfl, b1⟩
  rw [hs0] at b1
  have B1 := b0.trans (b1.mono (by omega))
  have x1 := x0.below b1 (by omega)
  have HH : Hid (Calls _ _ _ _ _) := jhas_any (Hj.out.below B1) r
  rw [h2] at HH
  have d0 := x1.c0
  have hs1 := b1.size
  rw [hs0] at hs1
  clear HC b1 x0 b0 h2 hs0
  go_wp2_with fail
  refine HH.out.mono ?_
  rintro e w2 ⟨rfl, b2⟩
  have B2 := B1.trans (b2.mono B1.size)
  have x2 := x1.below b2 (by omega)
  have hs2 := b2.size
  have HL : Hid (Calls _ _ _ _ _) := jlen_any (Hj.out.below B2)
  clear HH b2 B1 x1 d0
  go_wp2_with fail
  refine HL.out.mono ?_
  rintro e w3 ⟨rfl, hw⟩
  rw [hw]; clear hw w3 HL
  go_upto_region 8 with fail
  refine wp_region_drawn (by kernel_rfl) ?_
  have HDr : Hid (Below w2.heap.size w2 w2.drew) := ⟨rfl, rfl, rfl, Nat.le_refl _, fun _ _ => rfl⟩
  generalize w2.drew = v2 at *
  have HAt : Hid (∀ u, Below w2.heap.size w2 u → JAt u n0 bj bm (.slice va es.length vc) es ∧ Box4 u W.heap.size r en pe (.slice a l.length cap) ∧ IsLn u a l cap) := fun u hu => by
    have B := B2.trans (hu.mono B2.size)
    exact ⟨Hj.out.below B, x2.below hu (by omega), Hl.out.below B⟩
  have HB2 : Hid (Below W.heap.size W w2) := B2
  have hs2 : W.heap.size ≤ w2.heap.size := by omega
  clear B2 x2 Hj Hl
  refine wpAny_take (i := 0) (v := .pointer (some ⟨bj, 0, none⟩)) rfl (by kernel_rfl) (by kernel_rfl) (by kernel_rfl) (fun _ _ _ h => h) (Or.inl ⟨by rfl, fun w => by go_simp⟩) ?_
  simp only [Act.put, List.getElem_toArray, List.getElem_cons_succ, List.getElem_cons_zero, List.setIfInBounds_toArray, List.set_cons_zero, List.set_cons_succ]
  refine wpAny_take (i := 1) (v := .pointer (some ⟨bj, 0, none⟩)) rfl (by kernel_rfl) (by kernel_rfl) (by kernel_rfl) (fun _ _ _ h => h) (Or.inl ⟨by rfl, fun w => by go_simp⟩) ?_
  simp only [Act.put, List.getElem_toArray, List.getElem_cons_succ, List.getElem_cons_zero, List.setIfInBounds_toArray, List.set_cons_zero, List.set_cons_succ]
  refine wpAny_take (i := 2) (v := .pointer (some ⟨bj, 0, none⟩)) rfl (by kernel_rfl) (by kernel_rfl) (by kernel_rfl) (fun _ _ _ h => h) (Or.inl ⟨by rfl, fun w => by go_simp⟩) ?_
  simp only [Act.put, List.getElem_toArray, List.getElem_cons_succ, List.getElem_cons_zero, List.setIfInBounds_toArray, List.set_cons_zero, List.set_cons_succ]
  refine wpAny_take (i := 3) (v := .pointer (some ⟨bj, 0, none⟩)) rfl (by kernel_rfl) (by kernel_rfl) (by kernel_rfl) (fun _ _ _ h => h) (Or.inl ⟨by rfl, fun w => by go_simp⟩) ?_
  simp only [Act.put, List.getElem_toArray, List.getElem_cons_succ, List.getElem_cons_zero, List.setIfInBounds_toArray, List.set_cons_zero, List.set_cons_succ]
  refine any_of_L (g := 8) (T := fun u => Below w2.heap.size w2 u) _ _ _ _ ?_
  refine L_take (i := 4) (v := .slice va es.length vc) rfl rfl (by kernel_rfl) (by decide) (by kernel_rfl) (by kernel_rfl) (by kernel_rfl) (by kernel_rfl) (fun _ _ _ h => h) (Or.inl ⟨by rfl, fun w' hw' => by have c0 := (HAt.out w' hw').1.c0; clear hw'; go_simp⟩) HDr.out ?_
  simp only [Act.put, List.getElem_toArray, List.getElem_cons_succ, List.getElem_cons_zero, List.setIfInBounds_toArray, List.set_cons_zero, List.set_cons_succ]
  refine L_takeC [8, 7, 6] (i := 5) (v := .agg #[.string r, .int .i64 en, .int .i64 pe, .slice a l.length cap]) rfl (by kernel_rfl) (by kernel_rfl) (by decide) (by kernel_rfl) (by kernel_rfl) (by kernel_rfl) (by kernel_rfl) (fun _ _ _ h => h) (Or.inl ⟨by rfl, fun w' hw' => by have c0 := (HAt.out w' hw').2.1.c0; have c1 := (HAt.out w' hw').2.1.c1; have c2 := (HAt.out w' hw').2.1.c2; have c3 := (HAt.out w' hw').2.1.c3; clear hw'; go_simp⟩) HDr.out ?_
  simp only [Act.put, List.getElem_toArray, List.getElem_cons_succ, List.getElem_cons_zero, List.setIfInBounds_toArray, List.set_cons_zero, List.set_cons_succ]
  have HAp : Hid (Calls _ _ _ v2 _) := apart_any r en pe a l cap v2 (HAt.out v2 HDr.out).2.2 hne hll.2
  refine L_oneJ (i := 6) (by kernel_rfl) ?_
  refine wpOp_step rfl ?_
  intro K hK
  rw [if_pos (by rfl)]
  have hK' : Shut (∀ a w, _ → K a w) := hK
  clear hK
  go_wp2_with fail
  refine HAp.out.mono ?_
  rintro e v5 ⟨a5, k5, rfl, r5, b5⟩
  have H5 : Hid (Below w2.heap.size w2 v5) := HDr.out.trans (b5.mono HDr.out.size)
  have R5 : Hid (LnRow v5 w2.heap.size (.slice a5 l.length k5) l) := r5.mono HDr.out.size
  refine hK'.out _ _ ⟨H5.out, ?_⟩
  clear hK' K b5 r5 HAp HDr
  try simp only [Act.put, List.getElem_toArray, List.getElem_cons_succ, List.getElem_cons_zero, List.setIfInBounds_toArray, List.set_cons_zero, List.set_cons_succ]
  refine L_oneJ (i := 7) (by kernel_rfl) ?_
  refine wpOp_step rfl ?_
  intro K hK
  rw [if_pos (by rfl)]
  have hK' : Shut (∀ a w, _ → K a w) := hK
  clear hK
  go_wp2_with fail
  obtain ⟨v3, hv3⟩ : ∃ v3, v5.alloc (.cells #[.string r, .int .i64 en, .int .i64 pe, .slice a5 l.length k5] 29) = v3 := ⟨_, rfl⟩
  have hb23 : Below v5.heap.size v5 v3 := by rw [← hv3]; exact (Below.refl _ v5).alloc (Nat.le_refl _) _
  have H3 : Hid (Below w2.heap.size w2 v3) := H5.out.trans (hb23.mono H5.out.size)
  have R3 : Hid (LnRow v3 w2.heap.size (.slice a5 l.length k5) l) := R5.out.below hb23
  have hr3 : v3.heap[v5.heap.size]? = some (.cells #[.string r, .int .i64 en, .int .i64 pe, .slice a5 l.length k5] 29 (0, 0)) := by rw [← hv3]; exact World.alloc_heap_new v5 _
  have j3 := (HAt.out v3 H3.out).1
  have x3 := (HAt.out v3 H3.out).2.1
  rw [hv3]
  refine hK'.out _ _ ⟨H3.out, ?_⟩
  clear hK' K hv3 hb23 HAt
  try simp only [Act.put, List.getElem_toArray, List.getElem_cons_succ, List.getElem_cons_zero, List.setIfInBounds_toArray, List.set_cons_zero, List.set_cons_succ]
  refine L_go (by kernel_rfl) (by kernel_rfl) ?_
  obtain ⟨i0, hi, hz0, hz1, hz2⟩ := info_parts je_info
  obtain ⟨g, cp, w8, h1, h2, h4, h5, h6⟩ := run_append_lies (P := Tryz.prog) v3 23 23 n0 29 i0 (.agg #[.string ByteArray.empty, .int .i64 0, .int .i64 0, .slice none 0 0]) 4 56 Tryz.underlying23 hi hz0 hz1 hz2 rfl (by decide) (.slice va es.length vc) es.length (jeRow es) j3.row ⟨v5.heap.size, 0, none⟩ 1 1 (Je.mk r en pe a5 k5 l).cells.toList rfl (World.news_of_block hr3) (je_one _) (by decide) (by unfold maxLen; omega) (by omega) (by have := H3.out.size; omega) v3.heap.size rfl
  obtain ⟨w9, hw9⟩ : ∃ w9, w8.setCell ⟨bj, 0, none⟩ (.slice (some ⟨g, 0, none⟩) (es.length + 1) cp) = w9 := ⟨_, rfl⟩
  have hbv : some bj ≠ (Value.slice va es.length vc).ownBlock := fun e => by
    obtain ⟨cs, hh⟩ := j3.row.typ bj e.symm
    rw [j3.box] at hh
    cases hh
  have hbx8 : w8.heap[bj]? = some (.cells #[.slice va es.length vc, .map (some bm)] 54 (0, 0)) := (h4.block bj j3.ltj hbv).trans j3.box
  have e8 : w8.cell? ⟨bj, 0, none⟩ = some (.slice va es.length vc) := by simp [World.cell?, hbx8]
  have f8 : w8.frozen? ⟨bj, 0, none⟩ = false := by simp [World.frozen?, hbx8]
  have hbm : bj ≠ bm := fun e => by
    obtain ⟨_, _, hh, _⟩ := j3.map
    rw [← e, j3.box] at hh
    cases hh
  have hx9 : Box4 w9 W.heap.size r en pe (.slice a l.length cap) := by
    have hne1 : W.heap.size ≠ bj := fun e => by
      have hh := x3
      unfold Box4 at hh
      rw [e, j3.box] at hh
      cases hh
    have hne2 : some W.heap.size ≠ (Value.slice va es.length vc).ownBlock := fun e => by
      have := Hlt.out _ e.symm
      omega
    unfold Box4
    rw [← hw9, Below.heap_setCell _ _ _ _ hne1, h4.block _ (Array.getElem?_eq_some_iff.1 x3).1 hne2]
    exact x3
  have hm9 : SMap w9 bm (es.map (·.ref)) := by
    refine j3.map.of ?_
    rw [← hw9, Below.heap_setCell _ _ _ _ hbm.symm]
    refine h4.block bm j3.ltm (fun e => ?_)
    obtain ⟨cs, hh⟩ := j3.row.typ bm e.symm
    obtain ⟨_, _, h7, _⟩ := j3.map
    rw [h7] at hh
    cases hh
  have hb9 : w9.heap[bj]? = some (.cells #[.slice (some ⟨g, 0, none⟩) (es.length + 1) cp, .map (some bm)] 54 (0, 0)) := by
    rw [← hw9, setCell_eq_setRow w8 bj 0 _ 54 (0, 0) _ hbx8, setRow_heap w8 bj _ _ 54 (0, 0) hbx8]
    rfl
  have hm9d : SMap w9.drew bm (es.map (·.ref)) := hm9
  obtain ⟨w10, hrun, hm10, ho10, ht10, hu10, hz10, hb10⟩ := run_sput hm9d r Hnin.out
  have hend := post_end (V3 := w10) j3 (R3.out.mono (by omega)) h2 h4 hw9.symm hm10 ho10 ht10 hu10 hz10 hb10
  have HEnd : Hid (JAt w10 n0 bj bm (.slice (some ⟨g, 0, none⟩) (es.length + 1) cp) (es ++ [⟨r, en, pe, a5, k5, l⟩]) ∧ JKeep bj bm (.slice va es.length vc) v3 w10) := hend
  have HBW : Hid (Below W.heap.size W v3) := HB2.out.trans (H3.out.mono hs2)
  have Hg : Hid ((Value.slice va es.length vc).ownBlock = some g ∨ W.heap.size ≤ g) := by
    rcases h5 with h5 | h5
    · exact .inl h5
    · have := HBW.out.size
      exact .inr (by omega)
  have dm : w9.drew.cell? ⟨bj, 1, none⟩ = some (.map (some bm)) := by
    show w9.cell? ⟨bj, 1, none⟩ = _
    simp [World.cell?, hb9]
  have dr : w9.drew.cell? ⟨W.heap.size, 0, none⟩ = some (.string r) := by
    show w9.cell? ⟨W.heap.size, 0, none⟩ = _
    exact hx9.c0
  clear j3 x3 hbx8 h2 h4 h5 h6 hm9 hb9 hm9d hm10 ho10 ht10 hu10 hz10 hb10 hend H3 H5 R5 R3 hr3 hbv hbm hx9 HB2 Hlt Hnin
  refine wpOp_step rfl ?_
  intro K hK
  rw [if_pos (by rfl)]
  have hK' : Shut (∀ a w, _ → K a w) := hK
  clear hK
  refine wp_append_run (.tmp 28) (.tmp 31) 23 23 (by rfl) (.slice va es.length vc) (.slice (some ⟨v5.heap.size, 0, none⟩) 1 1) (by rfl) (by rfl) h1 ?_
  refine hK'.out _ _ ?_
  clear hK' K
  clear h1
  try simp only [Act.put, List.getElem_toArray, List.getElem_cons_succ, List.getElem_cons_zero, List.setIfInBounds_toArray, List.set_cons_zero, List.set_cons_succ]
  refine wpAny_take (i := 9) (v := .pointer (some ⟨bj, 0, none⟩)) rfl (by kernel_rfl) (by kernel_rfl) (by kernel_rfl) (fun _ _ _ h => h) (Or.inl ⟨by rfl, fun w => by go_simp⟩) ?_
  simp only [Act.put, List.getElem_toArray, List.getElem_cons_succ, List.getElem_cons_zero, List.setIfInBounds_toArray, List.set_cons_zero, List.set_cons_succ]
  refine wpAny_take (i := 10) (v := .pointer (some ⟨bj, 0, none⟩)) rfl (by kernel_rfl) (by kernel_rfl) (by kernel_rfl) (fun _ _ _ h => h) (Or.inl ⟨by rfl, fun w => by go_simp⟩) ?_
  simp only [Act.put, List.getElem_toArray, List.getElem_cons_succ, List.getElem_cons_zero, List.setIfInBounds_toArray, List.set_cons_zero, List.set_cons_succ]
  refine any_one (i := 11) (by kernel_rfl) ?_
  refine wpOp_step rfl ?_
  intro K hK
  rw [if_pos (by rfl)]
  have hK' : Shut (∀ a w, _ → K a w) := hK
  clear hK
  go_wp2_with fail
  try rw [hw9]
  clear hw9 e8 f8
  refine hK'.out _ _ ?_
  clear hK' K
  refine wpAny_done (by kernel_rfl) ?_ _
  go_upto_region 9 with fail
  refine wp_region_drawn (by kernel_rfl) ?_
  generalize w9.drew = v9 at *
  refine wpAny_take (i := 0) (v := .pointer (some ⟨bj, 0, none⟩)) rfl (by kernel_rfl) (by kernel_rfl) (by kernel_rfl) (fun _ _ _ h => h) (Or.inl ⟨by rfl, fun w => by go_simp⟩) ?_
  simp only [Act.put, List.getElem_toArray, List.getElem_cons_succ, List.getElem_cons_zero, List.setIfInBounds_toArray, List.set_cons_zero, List.set_cons_succ]
  refine wpAny_take (i := 1) (v := .pointer (some ⟨bj, 0, none⟩)) rfl (by kernel_rfl) (by kernel_rfl) (by kernel_rfl) (fun _ _ _ h => h) (Or.inl ⟨by rfl, fun w => by go_simp⟩) ?_
  simp only [Act.put, List.getElem_toArray, List.getElem_cons_succ, List.getElem_cons_zero, List.setIfInBounds_toArray, List.set_cons_zero, List.set_cons_succ]
  refine wpAny_take (i := 2) (v := .pointer (some ⟨bj, 1, none⟩)) rfl (by kernel_rfl) (by kernel_rfl) (by kernel_rfl) (fun _ _ _ h => h) (Or.inl ⟨by rfl, fun w => by go_simp⟩) ?_
  simp only [Act.put, List.getElem_toArray, List.getElem_cons_succ, List.getElem_cons_zero, List.setIfInBounds_toArray, List.set_cons_zero, List.set_cons_succ]
  refine wpAny_take (i := 4) (v := .pointer (some ⟨W.heap.size, 0, none⟩)) rfl (by kernel_rfl) (by kernel_rfl) (by kernel_rfl) (fun _ _ _ h => h) (Or.inl ⟨by rfl, fun w => by go_simp⟩) ?_
  simp only [Act.put, List.getElem_toArray, List.getElem_cons_succ, List.getElem_cons_zero, List.setIfInBounds_toArray, List.set_cons_zero, List.set_cons_succ]
  refine any_of_L (g := 7) (T := fun u => u = v9) _ _ _ _ ?_
  refine L_take (i := 3) (v := .map (some bm)) rfl rfl (by kernel_rfl) (by decide) (by kernel_rfl) (by kernel_rfl) (by kernel_rfl) (by kernel_rfl) (fun _ _ _ h => h) (Or.inl ⟨by rfl, fun w' hw' => by rw [hw']; clear hw'; go_simp⟩) rfl ?_
  simp only [Act.put, List.getElem_toArray, List.getElem_cons_succ, List.getElem_cons_zero, List.setIfInBounds_toArray, List.set_cons_zero, List.set_cons_succ]
  refine L_take (i := 5) (v := .string r) rfl rfl (by kernel_rfl) (by decide) (by kernel_rfl) (by kernel_rfl) (by kernel_rfl) (by kernel_rfl) (fun _ _ _ h => h) (Or.inl ⟨by rfl, fun w' hw' => by rw [hw']; clear hw'; go_simp⟩) rfl ?_
  simp only [Act.put, List.getElem_toArray, List.getElem_cons_succ, List.getElem_cons_zero, List.setIfInBounds_toArray, List.set_cons_zero, List.set_cons_succ]
  refine L_take (i := 6) (v := .agg #[]) rfl rfl (by kernel_rfl) (by decide) (by kernel_rfl) (by kernel_rfl) (by kernel_rfl) (by kernel_rfl) (fun _ _ _ h => h) (Or.inl ⟨by rfl, fun w' hw' => by clear hw'; go_simp⟩) rfl ?_
  simp only [Act.put, List.getElem_toArray, List.getElem_cons_succ, List.getElem_cons_zero, List.setIfInBounds_toArray, List.set_cons_zero, List.set_cons_succ]
  refine L_go (by kernel_rfl) (by kernel_rfl) ?_
  refine wpOp_step rfl ?_
  intro K hK
  rw [if_pos (by rfl)]
  have hK' : Shut (∀ a w, _ → K a w) := hK
  clear hK
  refine wp_sput_run 52 (.tmp 38) (.tmp 40) (.tmp 41) (by rfl) (.map (some bm)) (.string r) (.agg #[]) (by rfl) (by rfl) (by rfl) hrun ?_
  refine hK'.out _ _ ?_
  clear hK' K
  clear hrun dm dr
  refine wpAny_done (by kernel_rfl) ?_ _
  have HL : Hid (Calls _ _ _ _ _) := jlen_any HEnd.out.1
  rw [List.length_append, List.length_singleton] at HL
  have q0 : ((es.length + 1 : Nat) : Int) = (es.length : Int) + 1 := by omega
  rw [q0] at HL
  clear q0
  go_wp2_with fail
  refine HL.out.mono ?_
  rintro e w3 ⟨rfl, hw⟩
  rw [hw]; clear hw w3 HL
  go_wp2
  go_ret2
  refine ⟨?_, g, cp, a5, k5, HEnd.out.1, ?_, Hg.out⟩
  · simp
  · have k1 : JKeep bj bm (.slice va es.length vc) W v3 := .of_below HBW.out
    have k2 := HEnd.out.2
    have hz := HBW.out.size
    exact ⟨k2.os.trans k1.os, k2.tape.trans k1.tape, k2.output.trans k1.output, Nat.le_trans k1.size k2.size, fun b hb h1 h2 h3 => (k2.block b (by omega) h1 h2 h3).trans (k1.block b hb h1 h2 h3)⟩
end
end Go.Proofs.YtpohlhejeaafdaaGreatDoor

namespace Go.Proofs.YtpohlhejeaafdaaGreatDoor
set_option linter.unusedVariables false
set_option linter.unusedSimpArgs false
set_option maxRecDepth 100000
open Go.RowKit Go.Lib
section
variable {W : World} {n0 bj bm : Nat} {v : Value} {es : List Je}
set_option maxHeartbeats 2000000 in
theorem jat_ok (h : JAt W n0 bj bm v es) (hlen : es.length ≤ 200) (k : Nat) (hk : k < es.length) (h1 : (es.getD k je0).lns ≠ []) (h2 : (es.getD k je0).lns.length ≤ 20) :
    Calls Tryz.prog 11 #[.pointer (some ⟨bj, 0, none⟩), .int .i64 (k : Int)] W fun e w' => ∃ a' cap', e = .returned (.tuple #[.agg #[.string (es.getD k je0).ref, .int .i64 (es.getD k je0).ent, .int .i64 (es.getD k je0).per, .slice a' (es.getD k je0).lns.length cap'], .nilIface]) ∧ LnRow w' W.heap.size (.slice a' (es.getD k je0).lns.length cap') (es.getD k je0).lns ∧ Below W.heap.size W w' := by
  have b0 : Below W.heap.size W (W.alloc (.cells #[.string ByteArray.empty, .int .i64 0, .int .i64 0, .slice none 0 0] 29)) := (Below.refl _ W).alloc (Nat.le_refl _) _
  have x0 := Box4.new W ByteArray.empty 0 0 (.slice none 0 0)
  have hs0 : (W.alloc (.cells #[.string ByteArray.empty, .int .i64 0, .int .i64 0, .slice none 0 0] 29)).heap.size = W.heap.size + 1 := by simp
  have j0 := h.below b0
  have HL : Hid (Calls _ _ _ _ _) := jlen_any j0
  have hln := j0.lns _ (jes_mem es k hk)
  obtain ⟨va, vc, rfl, hcap, hlie⟩ := j0.row.lies
  rcases hlie with hh | ⟨b, off, rfl, hb, hcl⟩
  · rw [hh] at hk; simp at hk
  have c0 := j0.c0
  obtain ⟨d0, d1, d2, d3⟩ := hcl k hk
  generalize es.getD k je0 = x at *
  obtain ⟨r, en, pe, a, cap, l⟩ := x
  simp only at h1 h2 hln d0 d1 d2 d3 ⊢
  obtain ⟨a', cap', e', hil⟩ := hln.isLn
  cases e'
  have HA : Hid (Calls _ _ _ _ _) := apart_any r en pe a l cap _ hil h1 h2
  have q0 : (0 : Int) ≤ k := by omega
  have q1 : (k : Int) < es.length := by omega
  have q2 : ¬ (es.length : Int) ≤ k := by omega
  have q3 : ¬ (k : Int) < 0 := by omega
  have q4 : (es.length : Int) ≤ 200 := by omega
  clear h hlen hln hil hcl h1 h2 j0 hcap hk
  go_enter Tryz.func11, Tryz.ntmps11
  go_wp2_with fail
  refine HL.out.mono ?_
  rintro e w1 ⟨rfl, hw⟩
  rw [hw]; clear hw w1 HL
  go_wp2_with fail
  refine HA.out.mono ?_
  rintro e w3 ⟨a3, k3, rfl, r3, b3⟩
  rw [hs0] at r3 b3
  have B3 := b0.trans (b3.mono (by omega))
  have y3 := x0.below b3 (by omega)
  have c0 := y3.c0
  have c1 := y3.c1
  have c2 := y3.c2
  have c3 := y3.c3
  have f0 := y3.fz 0
  have f1 := y3.fz 1
  have f2 := y3.fz 2
  have f3 := y3.fz 3
  have HR : Hid (LnRow w3 (W.heap.size + 1) (.slice a3 l.length k3) l) := r3
  have hlt : W.heap.size < W.heap.size + 1 := by omega
  clear r3 b3 y3 b0 x0 HA hs0 d0 d1 d2 d3 hb
  go_wp2
  exact bodyPost_ret (v := .tuple #[.agg #[.string r, .int .i64 en, .int .i64 pe, .slice a3 l.length k3], .nilIface]) (by simp [results, Tryz.results11, go_sem, c0, c1, c2, c3]) rfl ⟨_, _, rfl, LnRow.mono (LnRow.setOther (b := W.heap.size) (o := 3) (LnRow.setOther (b := W.heap.size) (o := 2) (LnRow.setOther (b := W.heap.size) (o := 1) (LnRow.setOther (b := W.heap.size) (o := 0) HR.out hlt) hlt) hlt) hlt) (by omega), ((((B3.setCell (p := ⟨W.heap.size, 0, none⟩) (by simp) _).setCell (p := ⟨W.heap.size, 1, none⟩) (by simp) _).setCell (p := ⟨W.heap.size, 2, none⟩) (by simp) _).setCell (p := ⟨W.heap.size, 3, none⟩) (by simp) _)⟩

/-- Numbers in a row of one's own. -/
def NsRow (W : World) (n : Nat) (v : Value) (l : List Nat) : Prop := W.ownsRow n 3 1 v l.length (l.map fun i => Value.int .i64 ((i : Nat) : Int))
theorem NsRow.nil (w : World) (n : Nat) : NsRow w n (.slice none 0 0) [] := World.ownsRow_nil _ _ _ _
theorem NsRow.own {w : World} {n : Nat} {v : Value} {xs : List Nat} (h : NsRow w n v xs) : ∀ j, v.ownBlock = some j → n ≤ j := fun j ej => by
  rcases h.2 with ⟨rfl, _⟩ | ⟨g, cp, cur, rfl, hg, _⟩
  · cases ej
  · cases ej; exact hg
theorem NsRow.below {w w' : World} {n : Nat} {v : Value} {l : List Nat} (h : NsRow w n v l) (hb : Below w.heap.size w w') : NsRow w' n v l := by
  rcases h.2 with ⟨hv, hn⟩ | ⟨g1, c1, cur, hv, hb1, hh, r⟩
  · exact ⟨h.1, .inl ⟨hv, hn⟩⟩
  · exact ⟨h.1, .inr ⟨g1, c1, cur, hv, hb1, (hb.block g1 (Array.getElem?_eq_some_iff.1 hh).1).trans hh, r⟩⟩
theorem NsRow.shape {w : World} {n : Nat} {v : Value} {l : List Nat} (h : NsRow w n v l) : ∃ a cap, v = .slice a l.length cap := by
  rcases h.2 with ⟨hv, hn⟩ | ⟨g1, c1, cur, hv, _⟩
  · rw [hn]; exact ⟨_, _, hv⟩
  · exact ⟨_, _, hv⟩
theorem NsRow.cell {W : World} {base : Nat} {v : Value} {l : List Nat} (h : NsRow W base v l) (k : Nat) (hk : k < l.length) : ∃ g cap, v = .slice (some ⟨g, 0, none⟩) l.length cap ∧ base ≤ g ∧ g < W.heap.size ∧ ∀ k, k < l.length → W.cell? ⟨g, k, none⟩ = some (.int .i64 ((l.getD k 0 : Nat) : Int)) := by
  rcases h.2 with ⟨hv, hn⟩ | ⟨g, cap, cur, hv, hb, hg, _, _, _, ht⟩
  · omega
  · refine ⟨g, cap, hv, hb, (Array.getElem?_eq_some_iff.1 hg).1, fun k hk => ?_⟩
    have e1 : (l.map fun i => Value.int .i64 ((i : Nat) : Int))[k]? = cur[k]? := by
      rw [← ht, List.getElem?_take, if_pos (by omega)]
      simp
    have e2 : W.cell? ⟨g, k, none⟩ = cur[k]? := by simp [World.cell?, hg]
    rw [e2, ← e1, List.getD_eq_getElem?_getD, List.getElem?_eq_getElem hk]
    simp [hk]
theorem nint_info : (Tryz.prog.info? 3).map (fun i => (i.zero, i.size, i.bytes)) = some (some (.int .i64 0), 1, 8) := by kernel_rfl
/-- Is an entry asked for? -/
def askedB (en pe : Int) (x : Je) : Bool := isAskedB en x.ent && isAskedB pe x.per
/-- The numbers of those that are asked for. -/
def ofL (es : List Je) (en pe : Int) (k : Nat) : List Nat := (List.range k).filter fun i => askedB en pe (es.getD i je0)
theorem ofL_yes {es : List Je} {en pe : Int} {k : Nat} (h : askedB en pe (es.getD k je0) = true) : ofL es en pe (k + 1) = ofL es en pe k ++ [k] := by
  unfold ofL
  rw [List.range_succ, List.filter_append]
  have h' := h
  simp only [List.getD_eq_getElem?_getD] at h'
  simp [h']
theorem ofL_no {es : List Je} {en pe : Int} {k : Nat} (h : askedB en pe (es.getD k je0) = false) : ofL es en pe (k + 1) = ofL es en pe k := by
  unfold ofL
  rw [List.range_succ, List.filter_append]
  have h' := h
  simp only [List.getD_eq_getElem?_getD] at h'
  simp [h']
theorem ofL_len (es : List Je) (en pe : Int) (k : Nat) : (ofL es en pe k).length ≤ k := by
  unfold ofL
  have := List.length_filter_le (fun i => askedB en pe (es.getD i je0)) (List.range k)
  simpa using this

set_option maxHeartbeats 4000000 in
theorem jof_any (h : JAt W n0 bj bm v es) (hlen : es.length ≤ 200) (en pe : Int) :
    Calls Tryz.prog 16 #[.pointer (some ⟨bj, 0, none⟩), .int .i64 en, .int .i64 pe] W fun e w' => ∃ u, e = .returned u ∧ NsRow w' W.heap.size u (ofL es en pe es.length) ∧ Below W.heap.size W w' := by
  have c0 := h.c0
  obtain ⟨va, vc, rfl, hcap, hlie⟩ := h.row.lies
  have q4 : (es.length : Int) ≤ 200 := by omega
  obtain ⟨i0, hi, hz0, hz1, hz2⟩ := info_parts nint_info
  have Hlie : Hid (es = [] ∨ ∃ b off, va = some ⟨b, off, none⟩ ∧ b < W.heap.size ∧ ∀ k, k < es.length → JeAt W b (off + k * 4) (es.getD k je0)) := hlie
  clear h hlie hcap
  go_enter Tryz.func16, Tryz.ntmps16
  go_wp2
  go_loopw [6, 14] (fun u i wr => ∃ k : Nat, k ≤ es.length ∧ i = .int .i64 k ∧ Hid (NsRow wr W.heap.size u (ofL es en pe k)) ∧ Below W.heap.size W wr) (fun _ i _ => es.length - (RowKit.intOf i).toNat)
  case atStart => exact ⟨0, Nat.zero_le _, rfl, NsRow.nil _ _, Below.refl _ _⟩
  case round =>
    obtain ⟨k, hk, rfl, R, BW⟩ := hrel
    by_cases hlt : k < es.length
    · rcases Hlie.out with hh | ⟨b, off, rfl, hb, hcl⟩
      · rw [hh] at hlt; simp at hlt
      obtain ⟨d0, d1, d2, d3⟩ := (hcl k hlt).below BW hb
      have hyes := @ofL_yes es en pe k
      have hno := @ofL_no es en pe k
      have hol := ofL_len es en pe k
      have HY : Hid (askedB en pe (es.getD k je0) = true → ofL es en pe (k + 1) = ofL es en pe k ++ [k]) := hyes
      have HN : Hid (askedB en pe (es.getD k je0) = false → ofL es en pe (k + 1) = ofL es en pe k) := hno
      clear hcl hyes hno
      generalize es.getD k je0 = x at *
      obtain ⟨r, xe, xp, a, cap, l⟩ := x
      simp only at d0 d1 d2 d3
      obtain ⟨W1, hW1⟩ : ∃ W1, wr.alloc (.cells #[.string r, .int .i64 xe, .int .i64 xp, .slice a l.length cap] 29) = W1 := ⟨_, rfl⟩
      have bx : Box4 W1 wr.heap.size r xe xp (.slice a l.length cap) := by rw [← hW1]; exact Box4.new _ _ _ _ _
      have b1 : Below wr.heap.size wr W1 := by rw [← hW1]; exact (Below.refl _ _).alloc (Nat.le_refl _) _
      have B1 := BW.trans (b1.mono BW.size)
      have R1 : Hid (NsRow W1 W.heap.size _ (ofL es en pe k)) := R.out.below b1
      have e1 := bx.c1
      have e2 := bx.c2
      have HA : Hid (∀ a n, Calls Tryz.prog 34 #[.int .i64 a, .int .i64 n] W1 fun e w' => e = .returned (.bool (isAskedB a n)) ∧ w' = W1) := fun a n => isAsked_any a n W1
      have q0 : (0 : Int) ≤ k := by omega
      have q1 : (k : Int) < es.length := by omega
      have HW1 : Hid (_ = W1) := hW1
      clear hW1 bx
      go_wp2_with fail
      rw [HW1.out]
      refine (HA.out en xe).mono ?_
      rintro e w2 ⟨rfl, hw⟩
      rw [hw]; clear hw w2
      have Hend : Hid (∀ (u : Value) (w' : World), NsRow w' W.heap.size u (ofL es en pe (k + 1)) → Below W.heap.size W w' → ∃ k' : Nat, k' ≤ es.length ∧ Value.int .i64 ((k : Int) + 1) = .int .i64 k' ∧ Hid (NsRow w' W.heap.size u (ofL es en pe k')) ∧ Below W.heap.size W w') := fun u w' hr hb => ⟨k + 1, by omega, by simp, hr, hb⟩
      by_cases ha : isAskedB en xe = true
      · rw [ha]
        go_wp2_with fail
        refine (HA.out pe xp).mono ?_
        rintro e w2 ⟨rfl, hw⟩
        rw [hw]; clear hw w2
        by_cases hb : isAskedB pe xp = true
        · rw [hb]
          have hq := HY.out (by unfold askedB; simp only; rw [ha, hb]; rfl)
          obtain ⟨ua, uc, hu⟩ := R1.out.shape
          cases hu
          have hm1 : (ofL es en pe k).length + 1 ≤ maxLen := by unfold maxLen; omega
          have hm2 : ((ofL es en pe k).length + 1) * 8 ≤ 140737488355328 := by omega
          obtain ⟨W2, hW2⟩ : ∃ W2, W1.alloc (.cells #[.int .i64 (k : Int)] 3) = W2 := ⟨_, rfl⟩
          have b2 : Below W1.heap.size W1 W2 := by rw [← hW2]; exact (Below.refl _ _).alloc (Nat.le_refl _) _
          have R2 : NsRow W2 W.heap.size _ (ofL es en pe k) := R1.out.below b2
          have B2 := B1.trans (b2.mono B1.size)
          have hr2 : W2.heap[W1.heap.size]? = some (.cells #[.int .i64 (k : Int)] 3 (0, 0)) := by rw [← hW2]; exact World.alloc_heap_new W1 _
          have Hsrc : Hid (∀ j u, [Value.int .i64 (k : Int)][j]? = some u → W2.cell? ((⟨W1.heap.size, 0, none⟩ : Addr).add j) = some u) := World.news_of_block hr2
          have HR2 : Hid (NsRow W2 W.heap.size _ (ofL es en pe k)) := R2
          have HW2 : Hid (_ = W2) := hW2
          have Hown := R2.own
          have HOw : Hid (∀ j, _ = some j → W.heap.size ≤ j) := Hown
          have HB2 : Hid (Below W.heap.size W W2) := B2
          have Hm1 : Hid ((ofL es en pe k).length + 1 ≤ maxLen) := hm1
          have Hm2 : Hid (((ofL es en pe k).length + 1) * 8 ≤ 140737488355328) := hm2
          have Hq : Hid (ofL es en pe (k + 1) = ofL es en pe k ++ [k]) := hq
          have Hs1 : Hid (∀ u ∈ [Value.int .i64 (k : Int)], u.oneCell' = true) := by intro u hu; simp at hu; subst hu; rfl
          clear hm1 hm2 hW2 b2 R2 B2 hr2 R1 R B1 BW HA HY HN hq e1 e2 d0 d1 d2 d3 Hown b1 ha hb HW1
          go_wp2_with (at_builtin; rw [HW2.out]; refine wpList_append_own _ rfl _ _ 37 rfl W.heap.size 3 i0 (.int .i64 0) 1 8 Tryz.underlying37 hi hz0 hz1 hz2 rfl (by decide) _ _ _ rfl HR2.out ⟨W1.heap.size, 0, none⟩ 1 1 [.int .i64 (k : Int)] rfl rfl Hsrc.out Hs1.out Hm1.out Hm2.out HB2.out.size ?_)
          intro v3 w3 hown hgrow _
          have HN3 : Hid (NsRow w3 W.heap.size v3 (ofL es en pe (k + 1))) := by
            unfold Hid NsRow
            rw [Hq.out, List.length_append, List.map_append]
            exact hown
          have HB3 : Hid (Below W.heap.size W w3) := HB2.out.grown hgrow HB2.out.size (fun j e => HOw.out j e)
          obtain ⟨a3, c3, rfl⟩ := HN3.out.shape
          clear hown hgrow
          go_wp2
          go_roundw
          case rel => exact Hend.out _ _ HN3.out HB3.out
          case measure => simp [RowKit.intOf]; omega
        · have hb' : isAskedB pe xp = false := by simpa using hb
          rw [hb']
          have hq := HN.out (by unfold askedB; simp only; rw [hb']; simp)
          have Hr := R1
          rw [← hq] at Hr
          clear ha hb hb' HY HN hq R R1
          go_wp2
          go_roundw
          case rel => exact Hend.out _ _ Hr.out B1
          case measure => simp [RowKit.intOf]; omega
      · have ha' : isAskedB en xe = false := by simpa using ha
        rw [ha']
        have hq := HN.out (by unfold askedB; simp only; rw [ha']; simp)
        have Hr := R1
        rw [← hq] at Hr
        clear ha ha' HY HN hq R R1
        go_wp2
        go_roundw
        case rel => exact Hend.out _ _ Hr.out B1
        case measure => simp [RowKit.intOf]; omega
    · have hke : k = es.length := by omega
      subst hke
      go_wp2
      go_ret
      exact ⟨_, rfl, R.out, BW⟩
end
end Go.Proofs.YtpohlhejeaafdaaGreatDoor
