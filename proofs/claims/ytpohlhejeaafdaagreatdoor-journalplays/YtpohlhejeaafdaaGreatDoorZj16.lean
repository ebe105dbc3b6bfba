/-
  The contracts of dayref1.Amount, Few, Ref: they say what the program's own say.
-/
import Derived.Test.YtpohlhejeaafdaaGreatDoorZj13
import Derived.Test.YtpohlhejeaafdaaGreatDoorZj14
import Derived.Test.YtpohlhejeaafdaaGreatDoorZj15
import Derived.Laws.StructEq
import Derived.Maps.AppendAt
import Derived.Test.YtpohlhejeaafdaaGreatDoorZj4
namespace Go.Proofs.YtpohlhejeaafdaaGreatDoor
set_option linter.unusedVariables false
set_option linter.unusedSimpArgs false
set_option maxRecDepth 100000
open Go.RowKit Go.Lib

theorem chGo_range : ∀ (r pre : List Ac), -9223372036854775808 ≤ chGo pre r ∧ chGo pre r ≤ 9223372036854775807
  | [], _ => by simp [chGo]
  | x :: r, pre => by
    rw [chGo]
    split
    · unfold nextBad
      split
      · omega
      · split
        · omega
        · split
          · omega
          · unfold parBad
            split
            · omega
            · split
              · omega
              · split <;> omega
    · exact chGo_range r _
theorem linesBad_range (c : List Ac) : ∀ l : List Ln, -9223372036854775808 ≤ linesBad c l ∧ linesBad c l ≤ 9223372036854775807
  | [] => by simp [linesBad]
  | x :: l => by
    rw [linesBad]
    split
    · unfold lnBad
      split
      · omega
      · split
        · omega
        · split
          · omega
          · split <;> omega
    · exact linesBad_range c l
theorem entBad_range (c : List Ac) (r : ByteArray) (en pe : Int) (l : List Ln) : -9223372036854775808 ≤ entBad c r en pe l ∧ entBad c r en pe l ≤ 9223372036854775807 := by
  unfold entBad
  split
  · unfold chBad
    split
    · omega
    · exact chGo_range c []
  · split
    · unfold headBad
      split
      · omega
      · split
        · omega
        · split
          · omega
          · split <;> omega
    · split
      · exact linesBad_range c l
      · split <;> omega
theorem ent_errIs (n : Int) (h : -9223372036854775808 ≤ n ∧ n ≤ 9223372036854775807) : ErrIs (enE n) n := by
  by_cases h0 : n = 0
  · subst h0; exact .inl ⟨rfl, rfl⟩
  · rw [enE_ne h0]; exact .inr ⟨rfl, h.1, h.2⟩

/-- An entry without the place of its lines. -/
def Je.core (x : Je) : ByteArray × Int × Int × List Ln := (x.ref, x.ent, x.per, x.lns)
def SameJ (es ls : List Je) : Prop := es.map Je.core = ls.map Je.core
theorem SameJ.len {es ls : List Je} (h : SameJ es ls) : es.length = ls.length := by
  have := congrArg List.length h
  simpa using this
theorem SameJ.at {es ls : List Je} (h : SameJ es ls) (k : Nat) : (es.getD k je0).core = (ls.getD k je0).core := by
  have h1 : (es.map Je.core).getD k je0.core = (ls.map Je.core).getD k je0.core := by
    unfold SameJ at h
    rw [h]
  have e : ∀ l : List Je, (l.map Je.core).getD k je0.core = (l.getD k je0).core := fun l => by
    simp only [List.getD_eq_getElem?_getD, List.getElem?_map]
    cases l[k]? <;> rfl
  rw [e, e] at h1
  exact h1
theorem SameJ.refs {es ls : List Je} (h : SameJ es ls) : es.map (·.ref) = ls.map (·.ref) := by
  have := congrArg (List.map fun x : ByteArray × Int × Int × List Ln => x.1) h
  simpa [List.map_map, Function.comp_def, Je.core] using this
theorem SameJ.has {es ls : List Je} (h : SameJ es ls) (s : ByteArray) : hasR es s = hasR ls s := by
  unfold hasR
  rw [h.refs]
theorem SameJ.all {es ls : List Je} (h : SameJ es ls) : allL es = allL ls := by
  have e : ∀ l : List Je, allL l = (l.map Je.core).flatMap (fun x => x.2.2.2) := fun l => by
    unfold allL
    rw [List.flatMap_map]
    rfl
  unfold SameJ at h
  rw [e, e, h]
theorem SameJ.ofL {es ls : List Je} (h : SameJ es ls) (en pe : Int) (k : Nat) : ofL es en pe k = ofL ls en pe k := by
  unfold Go.Proofs.YtpohlhejeaafdaaGreatDoor.ofL
  apply List.filter_congr
  intro i _
  have := h.at i
  unfold Je.core at this
  simp only [Prod.mk.injEq] at this
  unfold askedB
  rw [this.2.1, this.2.2.1]
theorem SameJ.snoc {es ls : List Je} {x y : Je} (h : SameJ es ls) (hx : x.core = y.core) : SameJ (es ++ [x]) (ls ++ [y]) := by
  unfold SameJ at *
  rw [List.map_append, List.map_append, h]
  simp [hx]
theorem hasR_zero (ls : List Je) (s : ByteArray) : hasR (ls.take 0) s = false := rfl
theorem hasR_succ (ls : List Je) (s : ByteArray) (k : Nat) (h : k < ls.length) : hasR (ls.take (k + 1)) s = (hasR (ls.take k) s || ((ls.getD k je0).ref.toList == s.toList)) := by
  rw [jes_take ls k h]
  unfold hasR isInR
  rw [List.map_append, List.any_append]
  simp only [List.map_cons, List.map_nil, List.any_cons, List.any_nil, Bool.or_false, beq_toListBytes]
theorem hasR_mono {ls : List Je} {s : ByteArray} {k : Nat} (h : hasR (ls.take k) s = true) : hasR ls s = true := by
  have h1 := isInR_iff.1 h
  refine isInR_iff.2 ?_
  obtain ⟨x, hx, rfl⟩ := List.mem_map.1 h1
  exact List.mem_map.2 ⟨x, List.mem_of_mem_take hx, rfl⟩
/-- What the law expects of a Post, where so many of its own have been looked at. -/
def expE (e0 : Int) (b : Bool) : Int := if e0 ≠ 0 then e0 else if b = true then 8 else 0
theorem pBad_exp {c : List Ac} {es ls : List Je} {r : ByteArray} {en pe : Int} {l : List Ln} (h : SameJ es ls) (hl : ls.length < 200) : pBad c es r en pe l = expE (entBad c r en pe l) (hasR ls r) := by
  unfold pBad expE
  rw [h.has, if_neg (by rw [h.len]; omega : ¬ 200 ≤ es.length)]
theorem expE_range {e0 : Int} (b : Bool) (h : -9223372036854775808 ≤ e0 ∧ e0 ≤ 9223372036854775807) : -9223372036854775808 ≤ expE e0 b ∧ expE e0 b ≤ 9223372036854775807 := by
  unfold expE
  split
  · exact h
  · split <;> omega
theorem expE_end {e0 : Int} {ls : List Je} {s : ByteArray} {k : Nat} (h : expE e0 (hasR (ls.take k) s) ≠ 0) : expE e0 (hasR (ls.take k) s) = expE e0 (hasR ls s) := by
  unfold expE at *
  by_cases h0 : e0 ≠ 0
  · rw [if_pos h0, if_pos h0]
  · rw [if_neg h0] at h ⊢
    rw [if_neg h0]
    by_cases h1 : hasR (ls.take k) s = true
    · rw [h1, hasR_mono h1]
    · rw [if_neg h1] at h
      exact absurd rfl h
theorem expE_none {e0 : Int} {b : Bool} (h : expE e0 b = 0) : e0 = 0 ∧ b = false := by
  unfold expE at h
  split at h
  · rename_i h0; exact absurd h h0
  · rename_i h0
    split at h
    · omega
    · rename_i h1
      exact ⟨by omega, by simpa using h1⟩
/-- Behind the growing of a row of entries that is not the journal's. -/
theorem JAt.grown {W W' : World} {n0 bj bm : Nat} {v : Value} {es : List Je} {row : Option Nat} (h : JAt W n0 bj bm v es) (hg : W.grownBy W' row) (hr : ∀ j, row = some j → (∃ cs, W.heap[j]? = some (.cells cs 29 (0, 0))) ∧ v.ownBlock ≠ some j) : JAt W' n0 bj bm v es := by
  have h1 : W'.heap[bj]? = W.heap[bj]? := hg.block bj h.ltj (fun e => by
    obtain ⟨⟨cs, hh⟩, _⟩ := hr bj e.symm
    rw [h.box] at hh; cases hh)
  have h2 : W'.heap[bm]? = W.heap[bm]? := hg.block bm h.ltm (fun e => by
    obtain ⟨⟨cs, hh⟩, _⟩ := hr bm e.symm
    obtain ⟨_, _, h4, _⟩ := h.map
    rw [h4] at hh; cases hh)
  refine ⟨h1.trans h.box, h.map.of h2, h.row.of (fun j e => hg.block j (h.row.lt j e) (fun e2 => (hr j e2.symm).2 e)), fun x hx => ln_keep (h.lns x hx) (fun j cs fr hh => hg.block j (Array.getElem?_eq_some_iff.1 hh).1 (fun e2 => ?_)), h.hj, h.hm⟩
  obtain ⟨⟨cs', h3⟩, _⟩ := hr j e2.symm
  rw [h3] at hh
  cases hh
/-- A row of entries that is not the journal's, behind a Post. -/
theorem JeRow.post {W W' : World} {n0 m bj bm : Nat} {v va : Value} {es ls : List Je} (h : JeRow W m va ls) (j : JAt W n0 bj bm v es) (k : JKeep bj bm v W W') (ha : ∀ j, va.ownBlock = some j → v.ownBlock ≠ some j) : JeRow W' m va ls := by
  refine h.of (fun i e => k.block i (h.lt i e) (fun e2 => ?_) (fun e2 => ?_) (fun e2 => ha i e e2.symm))
  · obtain ⟨cs, hh⟩ := h.typ i e
    rw [e2, j.box] at hh; cases hh
  · obtain ⟨cs, hh⟩ := h.typ i e
    obtain ⟨_, _, h4, _⟩ := j.map
    rw [e2, h4] at hh; cases hh
theorem jpost_uni {c : List Ac} {n0 bj bm : Nat} {v : Value} {es : List Je} {W : World} (j : JAt W n0 bj bm v es) (g : JGood c es) (hlen : es.length ≤ 1000000) (ca : Option Addr) (cc : Nat) (x : Je) (hc : IsSl W ca c cc) (hl : IsLn W x.adr x.lns x.cap) (pb : Int) (hpb : pBad c es x.ref x.ent x.per x.lns = pb) :
    Calls Tryz.prog 6 #[.pointer (some ⟨bj, 0, none⟩), .slice ca c.length cc, .agg #[.string x.ref, .int .i64 x.ent, .int .i64 x.per, .slice x.adr x.lns.length x.cap]] W fun e w' => ∃ n v' es', e = .returned (.tuple #[.int .i64 n, enE pb]) ∧ JAt w' n0 bj bm v' es' ∧ JGood c es' ∧ JKeep bj bm v W w' ∧ (v'.ownBlock = v.ownBlock ∨ ∃ g, v'.ownBlock = some g ∧ W.heap.size ≤ g) ∧ (pb = 0 → n = es.length ∧ ∃ a' cap', es' = es ++ [⟨x.ref, x.ent, x.per, a', cap', x.lns⟩]) ∧ (pb ≠ 0 → es' = es) := by
  subst hpb
  by_cases h0 : pBad c es x.ref x.ent x.per x.lns = 0
  · refine (post_ok j ca cc c x.ref x.ent x.per x.adr x.cap x.lns hc hl h0).mono ?_
    rintro e w' ⟨rfl, g', cp, a', cap', j', k, hg'⟩
    refine ⟨(es.length : Int), _, es ++ [⟨x.ref, x.ent, x.per, a', cap', x.lns⟩], ?_, j', g.push h0, k, ?_, fun _ => ⟨rfl, a', cap', rfl⟩, fun hn => absurd h0 hn⟩
    · rw [h0, enE_zero]
    · rcases hg' with h | h
      · exact .inl h.symm
      · exact .inr ⟨g', rfl, h⟩
  · refine (post_bad j hlen ca cc c x.ref x.ent x.per x.adr x.cap x.lns hc hl h0).mono ?_
    rintro e w' ⟨rfl, b⟩
    exact ⟨0, v, es, rfl, j.below b, g, .of_below b, .inl rfl, fun hn => absurd hn h0, fun _ => rfl⟩
theorem JGood.amtL {c : List Ac} {es : List Je} (h : JGood c es) : ∀ y ∈ allL es, -mostA ≤ y.amt ∧ y.amt ≤ mostA := fun y hy => by
  obtain ⟨x, hx, hyx⟩ := allL_mem hy
  exact lnBad_amt (linesBad_zero (entBad_zero.1 (h.ok x hx)).2.2.1 y hyx)
theorem dSum_yes {acc cur : ByteArray} {x : Ln} (h1 : mB acc cur x = true) (h2 : 0 < x.amt) (l : List Ln) : dSum acc cur (l ++ [x]) = dSum acc cur l + x.amt := by
  unfold dSum
  rw [dOf_yes h1 h2, List.sum_append]
  simp
theorem dSum_no {acc cur : ByteArray} {x : Ln} (h : mB acc cur x = false ∨ ¬ 0 < x.amt) (l : List Ln) : dSum acc cur (l ++ [x]) = dSum acc cur l := by
  unfold dSum
  rw [dOf_no h]
theorem cSum_yes {acc cur : ByteArray} {x : Ln} (h1 : mB acc cur x = true) (h2 : ¬ 0 < x.amt) (l : List Ln) : cSum acc cur (l ++ [x]) = cSum acc cur l + x.amt := by
  unfold cSum
  rw [cOf_yes h1 h2, List.sum_append]
  simp
theorem cSum_no {acc cur : ByteArray} {x : Ln} (h : mB acc cur x = false ∨ 0 < x.amt) (l : List Ln) : cSum acc cur (l ++ [x]) = cSum acc cur l := by
  unfold cSum
  rw [cOf_no h]
theorem allL_pre {ls : List Je} {k : Nat} (hk : k < ls.length) {y : Ln} (h : y ∈ allL (ls.take k) ++ (ls.getD k je0).lns) : y ∈ allL ls := by
  rw [← allL_snoc ls k hk] at h
  obtain ⟨x, hx, hy⟩ := allL_mem h
  exact List.mem_flatMap.2 ⟨x, List.mem_of_mem_take hx, hy⟩
set_option maxHeartbeats 2000000 in
theorem jat_none {W : World} {n0 bj bm : Nat} {v : Value} {es : List Je} (h : JAt W n0 bj bm v es) (hlen : es.length ≤ 200) (k : Nat) (hk : k = es.length) :
    Calls Tryz.prog 11 #[.pointer (some ⟨bj, 0, none⟩), .int .i64 (k : Int)] W fun e w' => e = .returned (.tuple #[.agg #[.string ByteArray.empty, .int .i64 0, .int .i64 0, .slice none 0 0], enE 6]) ∧ Below W.heap.size W w' := by
  subst hk
  have b0 : Below W.heap.size W (W.alloc (.cells #[.string ⟨#[]⟩, .int .i64 0, .int .i64 0, .slice none 0 0] 29)) := (Below.refl _ W).alloc (Nat.le_refl _) _
  have x0 := Box4.new W ⟨#[]⟩ 0 0 (.slice none 0 0)
  have HL : Hid (Calls _ _ _ _ _) := jlen_any (h.below b0)
  have q0 : ¬ (es.length : Int) < 0 := by omega
  have q4 : (es.length : Int) ≤ 200 := by omega
  have f0 := x0.fz 0
  have f1 := x0.fz 1
  have f2 := x0.fz 2
  have f3 := x0.fz 3
  have c0 := x0.c0
  have c1 := x0.c1
  have c2 := x0.c2
  have c3 := x0.c3
  rw [enE_ne (by decide)]
  clear h x0
  go_enter Tryz.func11, Tryz.ntmps11
  go_wp2_with fail
  refine HL.out.mono ?_
  rintro e w1 ⟨rfl, hw⟩
  rw [hw]; clear hw w1 HL
  go_wp2
  exact bodyPost_ret (v := .tuple #[.agg #[.string ⟨#[]⟩, .int .i64 0, .int .i64 0, .slice none 0 0], .iface 60 (.int .i64 6)]) (by simp [results, Tryz.results11, go_sem]) rfl ⟨rfl, b0⟩
theorem NsRow.lt {w : World} {n : Nat} {v : Value} {xs : List Nat} (h : NsRow w n v xs) : ∀ j, v.ownBlock = some j → j < w.heap.size := fun j ej => by
  rcases h.2 with ⟨rfl, _⟩ | ⟨g, cp, cur, rfl, hg, hh, _⟩
  · cases ej
  · cases ej; exact (Array.getElem?_eq_some_iff.1 hh).1
theorem NsRow.ofBlock {w w' : World} {n : Nat} {v : Value} {l : List Nat} (h : NsRow w n v l) (hb : ∀ j, v.ownBlock = some j → w'.heap[j]? = w.heap[j]?) : NsRow w' n v l := by
  rcases h.2 with ⟨hv, hn⟩ | ⟨g1, c1, cur, hv, hb1, hh, r⟩
  · exact ⟨h.1, .inl ⟨hv, hn⟩⟩
  · exact ⟨h.1, .inr ⟨g1, c1, cur, hv, hb1, (hb g1 (by rw [hv]; rfl)).trans hh, r⟩⟩
/-- A row of numbers, whose spare places hold numbers too. -/
def AllI (w : World) (v : Value) : Prop := ∀ g, v.ownBlock = some g → ∃ cs, w.heap[g]? = some (.cells cs 3 (0, 0)) ∧ ∀ (i : Nat) (u : Value), cs[i]? = some u → ∃ n, u = .int .i64 n
theorem AllI.nil (w : World) : AllI w (.slice none 0 0) := fun g e => by cases e
theorem AllI.ofBlock {w w' : World} {v : Value} (h : AllI w v) (hb : ∀ j, v.ownBlock = some j → w'.heap[j]? = w.heap[j]?) : AllI w' v := fun g e => by
  obtain ⟨cs, h1, h2⟩ := h g e
  exact ⟨cs, (hb g e).trans h1, h2⟩
theorem AllI.below {w w' : World} {v : Value} (h : AllI w v) (hb : Below w.heap.size w w') : AllI w' v := h.ofBlock fun j e => by
  obtain ⟨cs, h1, _⟩ := h j e
  exact hb.block j (Array.getElem?_eq_some_iff.1 h1).1
theorem AllI.apart {w : World} {v : Value} (h : AllI w v) : ∀ j, v.ownBlock = some j → ∃ cs t, w.heap[j]? = some (.cells cs t (0, 0)) ∧ t ≠ 72 ∧ ∀ (i : Nat) (n : Int), cs[i]? ≠ some (.int .u32 n) := fun j e => by
  obtain ⟨cs, h1, h2⟩ := h j e
  refine ⟨cs, 3, h1, by decide, fun i n e2 => ?_⟩
  obtain ⟨m, h3⟩ := h2 i _ e2
  cases h3
theorem zeros_i64 (n : Nat) : ∀ (i : Nat) (u : Value), (Builtin.zeroCells #[.int .i64 0] n)[i]? = some u → u = .int .i64 0 := by
  intro i u h
  have hm := Array.mem_of_getElem? h
  unfold Builtin.zeroCells at hm
  simp at hm
  obtain ⟨a, _, hm⟩ := hm
  rw [Nat.mod_one] at hm
  exact hm.symm
theorem run_appI (w : World) (ty : TypeId) (base : Nat) (v : Value) (l : List Nat) (k b : Nat) (hown : NsRow w base v l) (hz : AllI w v) (hb : w.heap[b]? = some (.cells #[.int .i64 (k : Int)] 3 (0, 0))) (hbs : base ≤ w.heap.size) (hlen : l.length ≤ 100000) :
    ∃ g cap w', (Builtin.append_ #[37, 37] ty #[v, .slice (some ⟨b, 0, none⟩) 1 1]).run Tryz.prog w = .ok (.slice (some ⟨g, 0, none⟩) (l.length + 1) cap) w' ∧ NsRow w' base (.slice (some ⟨g, 0, none⟩) (l.length + 1) cap) (l ++ [k]) ∧ AllI w' (.slice (some ⟨g, 0, none⟩) (l.length + 1) cap) ∧ w.grownBy w' v.ownBlock := by
  obtain ⟨qi, hqi, hq0, hq1, hq2⟩ := info_parts nint_info
  have hnews : ∀ j u, [Value.int .i64 (k : Int)][j]? = some u → w.cell? ((⟨b, 0, none⟩ : Addr).add j) = some u := World.news_of_block hb
  have hmk : ∀ w' g cap, w'.ownsRow base 3 1 (.slice (some ⟨g, 0, none⟩) (l.length + 1) cap) (l.length + 1) ((l.map fun i => Value.int .i64 ((i : Nat) : Int)) ++ [.int .i64 (k : Int)]) → NsRow w' base (.slice (some ⟨g, 0, none⟩) (l.length + 1) cap) (l ++ [k]) := fun w' g cap h => by
    unfold NsRow
    rw [List.length_append, List.map_append]
    exact h
  have hxs : (l.map fun i => Value.int .i64 ((i : Nat) : Int)).length = l.length * 1 := by simp
  have hgrown : ∀ (old : Nat) (row : Option Nat), old < l.length + 1 → ∃ g cap w', w' = w.drew.alloc (.cells ((l.map fun i => Value.int .i64 ((i : Nat) : Int)).toArray ++ #[.int .i64 (k : Int)] ++ Builtin.zeroCells #[.int .i64 0] (grownCap w (l.length + 1) old 3 - (l.length + 1))) 3) ∧ g = w.heap.size ∧ cap = grownCap w (l.length + 1) old 3 ∧ NsRow w' base (.slice (some ⟨g, 0, none⟩) (l.length + 1) cap) (l ++ [k]) ∧ AllI w' (.slice (some ⟨g, 0, none⟩) (l.length + 1) cap) ∧ w.grownBy w' row := by
    intro old row ho
    have hge := grownCap_ge w (l.length + 1) old 3
    have hcm := grownCap_le_maxLen w (l.length + 1) old 3 (by unfold maxLen; omega)
    refine ⟨_, _, _, rfl, rfl, rfl, hmk _ _ _ ⟨by simp, .inr ⟨w.heap.size, _, _, rfl, hbs, World.alloc_heap_new w.drew _, hge, hcm, ?_, ?_⟩⟩, ?_, ⟨rfl, rfl, rfl, by simp, fun i hi _ => Below.heap_alloc w.drew _ i hi⟩⟩
    · simp only [Array.size_append, List.size_toArray, size_zeroCells, List.length_map]
      simp
      omega
    · simp only [Array.toList_append, List.append_assoc]
      rw [← List.append_assoc, Nat.mul_one]
      exact List.take_left' (by simp)
    · intro g e
      cases e
      refine ⟨_, World.alloc_heap_new w.drew _, fun i u hu => ?_⟩
      have hm := Array.mem_of_getElem? hu
      rw [Array.mem_append, Array.mem_append] at hm
      rcases hm with (hm | hm) | hm
      · simp at hm
        obtain ⟨n, _, rfl⟩ := hm
        exact ⟨_, rfl⟩
      · simp at hm
        exact ⟨_, hm⟩
      · obtain ⟨i', hi'⟩ := Array.getElem?_of_mem hm
        exact ⟨_, zeros_i64 _ i' u hi'⟩
  rcases hown.2 with ⟨rfl, hn⟩ | ⟨g, cap, cur, rfl, hbg, hg, hnc, hcm, hcs, htake⟩
  · have hl0 : l = [] := List.eq_nil_of_length_eq_zero hn
    subst hl0
    obtain ⟨g, cap, w', hw, hg, hcp, h1, h2, h3⟩ := hgrown 0 (Value.ownBlock (.slice none 0 0)) (by simp)
    refine ⟨g, cap, w', ?_, h1, h2, h3⟩
    have hr := run_append_nil (P := Tryz.prog) w 37 ty 3 qi (.int .i64 0) Tryz.underlying37 hqi hq0 ⟨b, 0, none⟩ 1 1 [.int .i64 (k : Int)] (by rw [hq1]; rfl) hnews (by omega) (by omega) (by rw [hq2]; omega)
    rw [hw, hg, hcp]
    simpa [Value.cells] using hr
  · by_cases hroom : l.length + 1 ≤ cap
    · have hfit : l.length * qi.size + [Value.int .i64 (k : Int)].length ≤ cur.size := by rw [hq1, hcs]; simp; omega
      have hr := run_append_room (P := Tryz.prog) w 37 ty 3 qi Tryz.underlying37 hqi g l.length cap cur hg ⟨b, 0, none⟩ 1 1 [.int .i64 (k : Int)] (by rw [hq1]; rfl) hnews (by intro u hu; simp at hu; subst hu; rfl) hroom hfit
      refine ⟨g, cap, _, hr, hmk _ _ _ ⟨by simp, .inr ⟨g, cap, _, rfl, hbg, setRow_heap w g cur _ 3 _ hg, hroom, hcm, ?_, ?_⟩⟩, ?_, ⟨rfl, rfl, rfl, by simp, fun i _ hi => setRow_other w g i _ (fun e => hi (by simp [Value.ownBlock, e]))⟩⟩
      · simp only [List.size_toArray, List.length_append, List.length_take, List.length_drop, Array.length_toList, hq1]
        simp
        omega
      · rw [hq1, htake, Nat.mul_one]
        exact List.take_left' (by simp)
      · intro g' e
        cases e
        refine ⟨_, setRow_heap w g cur _ 3 _ hg, fun i u hu => ?_⟩
        obtain ⟨cs, h1, h2⟩ := hz g rfl
        rw [hg] at h1
        cases h1
        have hm := Array.mem_of_getElem? hu
        simp only [List.mem_toArray, List.mem_append] at hm
        rcases hm with (hm | hm) | hm
        · have := List.mem_of_mem_take hm
          obtain ⟨i', hi'⟩ := Array.getElem?_of_mem (Array.mem_toList_iff.1 this)
          exact h2 i' u hi'
        · simp at hm
          exact ⟨_, hm⟩
        · have := List.mem_of_mem_drop hm
          obtain ⟨i', hi'⟩ := Array.getElem?_of_mem (Array.mem_toList_iff.1 this)
          exact h2 i' u hi'
    · obtain ⟨g', cap', w', hw, hg', hcp, h1, h2, h3⟩ := hgrown cap (Value.ownBlock (.slice (some ⟨g, 0, none⟩) l.length cap)) (by omega)
      refine ⟨g', cap', w', ?_, h1, h2, h3⟩
      have holds : ∀ j u, (l.map fun i => Value.int .i64 ((i : Nat) : Int))[j]? = some u → w.cell? ((⟨g, 0, none⟩ : Addr).add j) = some u := hown.cells (g := g) rfl
      have hr := run_append_grow (P := Tryz.prog) w 37 ty 3 qi (.int .i64 0) Tryz.underlying37 hqi hq0 ⟨g, 0, none⟩ l.length cap _ (by rw [hq1]; exact hxs) holds ⟨b, 0, none⟩ 1 1 [.int .i64 (k : Int)] (by rw [hq1]; rfl) hnews (by omega) (by omega) (growslice_fits (by omega) (by rw [hq2]; omega))
      rw [hw, hg', hcp]
      exact hr
theorem hasInts_ns {w : World} {n : Nat} {v : Value} {l : List Nat} (h : NsRow w n v l) : HasInts w v (l.map fun i => ((i : Nat) : Int)) := by
  obtain ⟨a, cap, e⟩ := h.shape
  refine ⟨a, cap, by rw [e, List.length_map], ?_⟩
  by_cases h0 : l = []
  · left; rw [h0]; rfl
  · right
    obtain ⟨g, cp, e2, _, _, hc⟩ := h.cell 0 (List.length_pos_iff.2 h0)
    rw [e] at e2
    cases e2
    refine ⟨g, 0, rfl, fun k hk => ?_⟩
    rw [List.length_map] at hk
    rw [Nat.zero_add, hc k hk]
    simp [List.getD_eq_getElem?_getD, hk]
end Go.Proofs.YtpohlhejeaafdaaGreatDoor

namespace Go.Proofs.YtpohlhejeaafdaaGreatDoor
set_option linter.unusedVariables false
set_option linter.unusedSimpArgs false
set_option maxRecDepth 100000
open Go.RowKit Go.Lib

theorem en_get (s : ByteArray) (k : Nat) (h : k < s.size) : s.get! k = s[k]'h := by
  show s.data[k]! = s.data[k]'h
  exact getElem!_pos s.data k h

theorem refAmount_any (n : Int) (w : World) :
    Calls Tryz.prog 25 #[.int .i64 n] w fun e w' => e = .returned (.bool (isAmtB n)) ∧ w' = w := by
  by_cases h : -1000000000000000 ≤ n
  · have : isAmtB n = decide (n ≤ 1000000000000000) := by simp [isAmtB, h]
    rw [this]
    go_enter Tryz.func25, Tryz.ntmps25
    go_wp2
    go_ret
    exact ⟨rfl, rfl⟩
  · have : isAmtB n = false := by simp [isAmtB, h]
    rw [this]
    go_enter Tryz.func25, Tryz.ntmps25
    go_wp2
    go_ret
    exact ⟨rfl, rfl⟩

theorem refRef_any (s : ByteArray) (w : World) :
    Calls Tryz.prog 20 #[.string s] w fun e w' => e = .returned (.bool (isRefB s)) ∧ w' = w := by
  by_cases h0 : s.size = 0
  · have e0 := en_empty h0
    have e1 : isRefB s = false := by simp [isRefB, h0]
    rw [e1]
    go_enter Tryz.func20, Tryz.ntmps20
    go_wp2
    go_ret
    exact ⟨rfl, rfl⟩
  have e0 := en_some h0
  have e0' : s.toList.isEmpty = false := by simpa using e0
  by_cases h1 : s.size ≤ 12
  · have h1'' : ¬ ((12 : Int) < s.size) := by omega
    have h2' : (0 : Int) < s.size := by omega
    have hp : 0 < s.size := by omega
    have hg : s.get! 0 = s[0]'hp := getElem!_pos s.data 0 hp
    by_cases h2 : (s.get! 0).toNat = 45
    · have er : isRefB s = false := by simp [isRefB, h2]
      have h3 : ((s[0]'hp).toNat : Int) = 45 := by rw [← hg, h2]; rfl
      rw [er]
      clear h2 hg
      go_enter Tryz.func20, Tryz.ntmps20
      go_wp2
      go_ret
      exact ⟨rfl, rfl⟩
    have h3 : ¬ ((s[0]'hp).toNat : Int) = 45 := by rw [← hg]; omega
    have h3b : (((s[0]'hp).toNat : Int) == 45) = false := by simpa using h3
    have H2 : Hid ((s.get! 0).toNat ≠ 45) := h2
    clear h2 hg
    obtain ⟨res, hres⟩ : ∃ res, isRefB s = res := ⟨_, rfl⟩
    have Hres : Hid (isRefB s = res) := hres
    rw [hres]
    clear hres
    go_enter Tryz.func20, Tryz.ntmps20
    go_wp2
    go_loop [3] (fun i => ∃ k : Nat, k ≤ s.size ∧ i = .int .i64 k ∧ Hid (∀ j, j < k → badR (s.get! j).toNat = false)) (fun i => s.size - (RowKit.intOf i).toNat)
    case atStart => exact ⟨0, Nat.zero_le _, rfl, fun j hj => absurd hj (Nat.not_lt_zero _)⟩
    case round =>
      obtain ⟨k, hk, rfl, Hk⟩ := hrel
      by_cases hlt : k < s.size
      · have i0 : (0 : Int) ≤ k := by omega
        have i1 : (k : Int) < s.size := by omega
        obtain ⟨c, hc⟩ : ∃ c, (s[k]'hlt).toNat = c := ⟨_, rfl⟩
        have Hg : Hid (badR (s.get! k).toNat = badR c) := by unfold Hid; rw [en_get s k hlt, hc]
        have bad : badR c = true → res = false := fun hb => by
          rw [← Hres.out]
          cases hm : isRefB s
          · rfl
          · have := (isRefB_iff.1 hm).2.2.2 k hlt
            rw [Hg.out, hb] at this
            cases this
        have HN : Hid (badR c = false → ∀ j, j < k + 1 → badR (s.get! j).toNat = false) := fun hb j hj => by
          rcases (by omega : j < k ∨ j = k) with h' | rfl
          · exact Hk.out j h'
          · rw [Hg.out]; exact hb
        have hcs : (c : Int) = 45 ∨ ((c : Int) ≠ 45 ∧ (c : Int) < 48) ∨ ((48 : Int) ≤ c ∧ (c : Int) ≤ 57) ∨ ((57 : Int) < c ∧ (c : Int) < 97) ∨ ((97 : Int) ≤ c ∧ (c : Int) ≤ 122) ∨ (122 : Int) < c := by omega
        rcases hcs with a | ⟨a, b⟩ | ⟨a, b⟩ | ⟨a, b⟩ | ⟨a, b⟩ | a
        · have HM : Hid _ := HN.out (by simp [badR]; omega)
          clear bad HN
          have q : ((c : Int) != 45) = false := by simp; omega
          go_wp2
          go_round
          case rel => exact ⟨k + 1, by omega, by go_num, HM⟩
          case measure => simp [RowKit.intOf]; omega
        · have e1 := bad (by simp [badR]; omega)
          subst e1
          clear bad HN
          have q : ((c : Int) != 45) = true := by simp; omega
          have q2 : (c : Int) < 97 := by omega
          go_wp2
          go_ret
          exact ⟨rfl, rfl⟩
        · have HM : Hid _ := HN.out (by simp [badR]; omega)
          clear bad HN
          have q : ((c : Int) != 45) = true := by simp; omega
          have q2 : ¬ (c : Int) < 48 := by omega
          have q3 : ¬ (57 : Int) < c := by omega
          go_wp2
          go_round
          case rel => exact ⟨k + 1, by omega, by go_num, HM⟩
          case measure => simp [RowKit.intOf]; omega
        · have e1 := bad (by simp [badR]; omega)
          subst e1
          clear bad HN
          have q : ((c : Int) != 45) = true := by simp; omega
          have q2 : ¬ (c : Int) < 48 := by omega
          go_wp2
          go_ret
          exact ⟨rfl, rfl⟩
        · have HM : Hid _ := HN.out (by simp [badR]; omega)
          clear bad HN
          have q : ((c : Int) != 45) = true := by simp; omega
          have q2 : ¬ (c : Int) < 48 := by omega
          have q3 : (57 : Int) < c := by omega
          have q4 : ¬ (c : Int) < 97 := by omega
          have q5 : ¬ (122 : Int) < c := by omega
          go_wp2
          go_round
          case rel => exact ⟨k + 1, by omega, by go_num, HM⟩
          case measure => simp [RowKit.intOf]; omega
        · have e1 := bad (by simp [badR]; omega)
          subst e1
          clear bad HN
          have q : ((c : Int) != 45) = true := by simp; omega
          have q2 : ¬ (c : Int) < 48 := by omega
          have q3 : (57 : Int) < c := by omega
          have q4 : ¬ (c : Int) < 97 := by omega
          go_wp2
          go_ret
          exact ⟨rfl, rfl⟩
      · have hk2 : k = s.size := by omega
        have er : res = true := by
          rw [← Hres.out]
          exact isRefB_iff.2 ⟨h0, h1, H2.out, fun i hi => Hk.out i (by omega)⟩
        subst er
        go_wp2
        go_ret
        exact ⟨rfl, rfl⟩
  · have h1'' : (12 : Int) < s.size := by omega
    have e1 : isRefB s = false := by simp [isRefB, h1]
    rw [e1]
    go_enter Tryz.func20, Tryz.ntmps20
    go_wp2
    go_ret
    exact ⟨rfl, rfl⟩

end Go.Proofs.YtpohlhejeaafdaaGreatDoor
