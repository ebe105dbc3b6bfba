/-
  The contract of ledger's add: an amount to the others of its place.
-/
import Derived.Test.YtcamimjjmcdbcaaLd3
namespace Go.Proofs.Ytcamimjjmcdbcaa
set_option linter.unusedVariables false
set_option linter.unusedSimpArgs false
set_option maxRecDepth 100000
open Go.RowKit Go.Lib
theorem pt_info : (Try.prog.info? 3).map (fun i => (i.zero, i.size, i.bytes)) = some (some (.int .i64 0), 1, 8) := by kernel_rfl
theorem ld_new_heap (W : World) (o : Obj) : (W.alloc o).heap[W.heap.size]? = some o := by unfold World.alloc; simp only [Array.getElem?_push_size]
theorem row_block {W : World} {n : Nat} {t : TypeId} {s : Nat} {v : Value} {m : Nat} {xs : List Value} (h : W.ownsRow n t s v m xs) {g : Nat} (e : v.ownBlock = some g) : n ≤ g ∧ g < W.heap.size ∧ ∃ cs, W.heap[g]? = some (.cells cs t (0, 0)) := by
  rcases h.2 with ⟨rfl, _⟩ | ⟨g1, c1, cur, rfl, hb1, hh, _⟩
  · cases e
  · cases e
    exact ⟨hb1, (Array.getElem?_eq_some_iff.1 hh).1, _, hh⟩
theorem row_keep {W U : World} {n : Nat} {t : TypeId} {s : Nat} {v : Value} {m : Nat} {xs : List Value} (h : W.ownsRow n t s v m xs) (hk : ∀ g, v.ownBlock = some g → U.heap[g]? = W.heap[g]?) : U.ownsRow n t s v m xs := by
  rcases h.2 with ⟨hv, hn⟩ | ⟨g1, c1, cur, hv, hb1, hh, r⟩
  · exact ⟨h.1, .inl ⟨hv, hn⟩⟩
  · exact ⟨h.1, .inr ⟨g1, c1, cur, hv, hb1, (hk g1 (by rw [hv]; rfl)).trans hh, r⟩⟩
/-- What an add leaves as it was: all but the map, and rows of amounts. -/
structure AKeep (n mb : Nat) (V W : World) : Prop where
  os : W.os = V.os
  tape : W.tape = V.tape
  output : W.output = V.output
  size : V.heap.size ≤ W.heap.size
  block : ∀ b, b < V.heap.size → b ≠ mb → (b < n ∨ ∀ cs : Array Value, V.heap[b]? ≠ some (Obj.cells cs 3 (0, 0))) → W.heap[b]? = V.heap[b]?
theorem AKeep.refl (n mb : Nat) (V : World) : AKeep n mb V V := ⟨rfl, rfl, rfl, Nat.le_refl _, fun _ _ _ _ => rfl⟩
theorem AKeep.trans {n mb : Nat} {U V W : World} (h : AKeep n mb U V) (k : AKeep n mb V W) : AKeep n mb U W :=
  ⟨k.os.trans h.os, k.tape.trans h.tape, k.output.trans h.output, Nat.le_trans h.size k.size, fun b hb hne hc => by
    have e := h.block b hb hne hc
    exact (k.block b (Nat.lt_of_lt_of_le hb h.size) hne (hc.imp id (fun h2 cs => by rw [e]; exact h2 cs))).trans e⟩
theorem AKeep.of_below {n mb : Nat} {V W : World} (h : Below V.heap.size V W) : AKeep n mb V W := ⟨h.os, h.tape, h.output, h.size, fun b hb _ _ => h.block b hb⟩
theorem AKeep.below {n mb : Nat} {V W : World} (h : AKeep n mb V W) (hm : n ≤ mb) (hn : n ≤ V.heap.size) : Below n V W := ⟨h.os, h.tape, h.output, h.size, fun b hb => h.block b (by omega) (by omega) (.inl hb)⟩
/-- An entry's slice is put into the map. -/
theorem run_estore {W U : World} {n mb : Nat} {ps : List Pt} {vs : Nat → Value} (h : PMp W n mb ps vs) {j : Nat} (hj : j < ps.length) {v' : Value} {z : Int} (hz : -9223372036854775808 ≤ z ∧ z ≤ 9223372036854775807)
    (ho : U.ownsRow n 3 1 v' ((ps[j]).zs.length + 1) ((ps[j]).zs.map (Value.int .i64) ++ [.int .i64 z])) (hg : W.grownBy U (vs j).ownBlock) (hl : v'.ownBlock = (vs j).ownBlock ∨ v'.ownBlock = some W.heap.size) (hn : n ≤ W.heap.size) :
    ∃ U', (Instr.entryStore 40 (.map (some mb)) (.int .i64 (j : Int)) v').run Try.prog U = .ok () U' ∧ PMp U' n mb (ps.set j ⟨(ps[j]).key, (ps[j]).zs ++ [z]⟩) (fun i => if i = j then v' else vs i) ∧ AKeep n mb W U' := by
  have hnb : (vs j).ownBlock ≠ some mb := fun e => by
    obtain ⟨_, _, cs, e2⟩ := row_block (h.rows j hj) e
    rw [h.map] at e2
    cases e2
  have hlt : mb < W.heap.size := (Array.getElem?_eq_some_iff.1 h.map).1
  have hm : U.heap[mb]? = some (.map (ents ps vs).toArray ps.length) := (hg.block mb hlt (fun e => hnb e.symm)).trans h.map
  have hltU : mb < U.heap.size := (Array.getElem?_eq_some_iff.1 hm).1
  have hidx : (ents ps vs).findIdx? (fun e => ((e.born : Nat) : Int) == (j : Int)) = some j :=
    WideElems.findIdx_born (e0 := ⟨plV (ps[j]).key, vs j, j⟩) (by rw [ents_born]; exact List.nodup_range) (ents_get ps vs j hj)
  have hset := ents_set ps vs j hj ((ps[j]).zs ++ [z]) v'
  refine ⟨ChangeMaps.setBlock U mb (.map (ents (ps.set j ⟨(ps[j]).key, (ps[j]).zs ++ [z]⟩) (fun i => if i = j then v' else vs i)).toArray ps.length), ?_, ⟨?_, h.mbn, ?_, ?_, ?_, ?_, ?_⟩, ?_⟩
  · simp [Instr.entryStore, MapKept.run_getObj_map hm, asInt, asIntOf, hidx, MapKept.run_setObj_map _ hm, Result.andThen, ChangeMaps.setBlock, hset]
  · rw [setBlock_at hltU]
    simp
  · intro p hp
    rcases List.mem_or_eq_of_mem_set hp with hp | rfl
    · exact h.keys p hp
    · have := h.keys _ (List.getElem_mem hj)
      exact this
  · rw [List.map_set]
    have : (ps.map Pt.key).set j (ps[j]).key = ps.map Pt.key := by
      have e : (ps[j]).key = (ps.map Pt.key)[j]'(by simpa using hj) := by simp
      rw [e, List.set_getElem_self]
    rw [this]
    exact h.nodup
  · intro i hi
    have hi' : i < ps.length := by simpa using hi
    by_cases e : i = j
    · subst e
      simp only [if_true, List.getElem_set_self, List.length_append, List.map_append, List.length_cons, List.length_nil, List.map_cons, List.map_nil]
      refine row_keep ho (fun g eg => setBlock_ne (fun e2 => ?_) _)
      obtain ⟨_, _, cs, e3⟩ := row_block ho eg
      rw [← e2, hm] at e3
      cases e3
    · have e' : ¬ j = i := fun h => e h.symm
      simp only [if_neg e, List.getElem_set_ne e']
      refine row_keep (h.rows i hi') (fun g eg => ?_)
      obtain ⟨_, g2, cs, e3⟩ := row_block (h.rows i hi') eg
      rw [setBlock_ne (fun e2 => by rw [← e2, h.map] at e3; cases e3) _]
      exact hg.block g g2 (fun e4 => h.apart i j hi' hj e g eg e4.symm)
  · intro a b ha hb hab g eg
    have ha' : a < ps.length := by simpa using ha
    have hb' : b < ps.length := by simpa using hb
    by_cases e : a = j
    · subst e
      have e2 : ¬ b = a := fun h => hab h.symm
      simp only [if_true, if_neg e2] at eg ⊢
      rcases hl with hl | hl
      · rw [hl] at eg
        exact h.apart a b ha' hb' hab g eg
      · rw [hl] at eg
        cases eg
        intro e3
        have := (row_block (h.rows b hb') e3).2.1
        omega
    · simp only [if_neg e] at eg
      by_cases e2 : b = j
      · subst e2
        simp only [if_true]
        rcases hl with hl | hl
        · rw [hl]; exact h.apart a b ha' hb' hab g eg
        · rw [hl]
          intro e3
          cases e3
          have := (row_block (h.rows a ha') eg).2.1
          omega
      · simp only [if_neg e2]
        exact h.apart a b ha' hb' hab g eg
  · intro p hp
    rcases List.mem_or_eq_of_mem_set hp with hp | rfl
    · exact h.i64 p hp
    · intro y hy
      rcases List.mem_append.1 hy with hy | hy
      · exact h.i64 _ (List.getElem_mem hj) y hy
      · rw [List.mem_singleton.1 hy]; exact hz
  · refine ⟨hg.os, hg.tape, hg.output, by simpa [ChangeMaps.setBlock] using hg.size, fun b hb hne hc => ?_⟩
    rw [setBlock_ne (fun e => hne e.symm)]
    refine hg.block b hb (fun e => ?_)
    obtain ⟨g1, _, cs, e2⟩ := row_block (h.rows j hj) e.symm
    rcases hc with hc | hc
    · omega
    · exact hc cs e2

set_option maxHeartbeats 4000000 in
theorem add_any (x : Bl) (W : World) (n mb : Nat) (ps : List Pt) (vs : Nat → Value) (h : PMp W n mb ps vs) (hk : PkOk x.key) (hz : -9223372036854775808 ≤ x.amt ∧ x.amt ≤ 9223372036854775807) (hl : ∀ p ∈ ps, p.zs.length < 17592186044416) :
    Calls Try.prog 11 #[.map (some mb), .agg x.cells] W fun e w' => e = .returned (.tuple #[]) ∧ ∃ vs', Hid (PMp w' n mb (addP ps x) vs' ∧ AKeep n mb W w') := by
  obtain ⟨x0, x1, x2, x3⟩ := x
  have hn : n ≤ W.heap.size := Nat.le_of_lt (Nat.lt_of_le_of_lt h.mbn (Array.getElem?_eq_some_iff.1 h.map).1)
  obtain ⟨V, hV⟩ : ∃ V, (((W.alloc (.cells #[.int .i64 x0, .string x1, .string x2, .int .i64 x3] 28)).alloc (.cells #[.int .i64 x0, .string x1, .string x2] 55)).alloc (.cells #[.int .i64 x3] 3)) = V := ⟨_, rfl⟩
  have hbV : Below W.heap.size W V := by
    rw [← hV]
    exact (((Below.refl _ W).alloc (Nat.le_refl _) _).alloc (by simp) _).alloc (by simp; omega) _
  have hsV : V.heap.size = W.heap.size + 3 := by rw [← hV]; simp
  obtain ⟨ps1, vs1, j, hj, V1, hrun, hP1, hkey, hB1, hsz, hoth, -, hmem, hadd⟩ := run_entry (h.below hbV) hk
  have e1 : V.heap[W.heap.size + 2]? = some (.cells #[.int .i64 x3] 3 (0, 0)) := by
    rw [← hV]
    have := ld_new_heap ((W.alloc (.cells #[.int .i64 x0, .string x1, .string x2, .int .i64 x3] 28)).alloc (.cells #[.int .i64 x0, .string x1, .string x2] 55)) (.cells #[.int .i64 x3] 3)
    simpa using this
  have e2 : V1.heap[W.heap.size + 2]? = some (.cells #[.int .i64 x3] 3 (0, 0)) := (hoth _ (fun e => by
    have := (Array.getElem?_eq_some_iff.1 h.map).1
    omega)).trans e1
  have hnews : ∀ i u, [Value.int .i64 x3][i]? = some u → V1.cell? ((⟨W.heap.size + 2, 0, none⟩ : Addr).add i) = some u := by
    intro i u hi
    rcases i with _ | i
    · simp at hi
      subst hi
      simp [Addr.add, World.cell?, e2]
    · simp at hi
  clear e1 e2
  have hzl : (ps1[j]).zs.length < 17592186044416 := by
    rcases hmem _ (List.getElem_mem hj) with hp | hp
    · exact hl _ hp
    · rw [hp]; simp
  have hown := hP1.rows j hj
  have HE : Hid (∀ v' U, U.ownsRow n 3 1 v' ((ps1[j]).zs.length + 1) ((ps1[j]).zs.map (Value.int .i64) ++ [.int .i64 x3]) → V1.grownBy U (vs1 j).ownBlock → (v'.ownBlock = (vs1 j).ownBlock ∨ v'.ownBlock = some V1.heap.size) →
      ∃ U', (Instr.entryStore 40 (.map (some mb)) (.int .i64 (j : Int)) v').run Try.prog U = .ok () U' ∧ ∃ vs', Hid (PMp U' n mb (addP ps ⟨x0, x1, x2, x3⟩) vs' ∧ AKeep n mb W U')) := fun v' U h1 h2 h3 => by
    obtain ⟨U', g1, g2, g3⟩ := run_estore hP1 hj (z := x3) hz h1 h2 h3 (by omega)
    rw [← hadd ⟨x0, x1, x2, x3⟩ rfl] at g2
    exact ⟨U', g1, _, g2, ((AKeep.of_below hbV).trans ⟨hB1.os, hB1.tape, hB1.output, by omega, fun b _ hne _ => hoth b hne⟩).trans g3⟩
  obtain ⟨v, hv⟩ : ∃ v, vs1 j = v := ⟨_, rfl⟩
  obtain ⟨zs, hzs⟩ : ∃ zs, (ps1[j]).zs = zs := ⟨_, rfl⟩
  rw [hv, hzs] at HE hown
  rw [hv] at hrun
  rw [hzs] at hzl
  simp only [plV, Bl.key, goInt] at hrun
  obtain ⟨js, hjs⟩ : ∃ js : Int, (j : Int) = js := ⟨_, rfl⟩
  rw [hjs] at hrun HE
  obtain ⟨i0, hi0, hz0, hz1, hz2⟩ := info_parts pt_info
  have HO : Hid (V1.ownsRow n 3 1 v zs.length (zs.map (Value.int .i64))) := hown
  have HNw : Hid (∀ i u, [Value.int .i64 x3][i]? = some u → V1.cell? ((⟨W.heap.size + 2, 0, none⟩ : Addr).add i) = some u) := hnews
  have HS : Hid (n ≤ V1.heap.size) := by unfold Hid; omega
  have Hm1 : Hid (zs.length + 1 ≤ maxLen) := by unfold Hid maxLen; omega
  have Hm2 : Hid ((zs.length + 1) * 8 ≤ 140737488355328) := by unfold Hid; omega
  have Hs1 : Hid (∀ u ∈ [Value.int .i64 x3], u.oneCell' = true) := by intro u hu; simp at hu; subst hu; rfl
  have HV : Hid (_ = V) := hV
  simp only [Bl.cells]
  clear hP1 hkey hB1 hsz hoth hmem hadd hown hnews h hl hk hz hn hbV hsV hv hzs hjs hj hzl
  subst hV
  go_enter Try.func11, Try.ntmps11
  go_wp2_with (at_builtin; refine wpList_append_own_at _ rfl _ _ 56 rfl n 3 i0 (.int .i64 0) 1 8 Try.underlying56 hi0 hz0 hz1 hz2 rfl (by decide) _ _ _ rfl HO.out ⟨W.heap.size + 2, 0, none⟩ 1 1 [.int .i64 x3] rfl rfl HNw.out Hs1.out Hm1.out Hm2.out HS.out ?_)
  intro v' U h1 h2 _ h3
  obtain ⟨U', g1, g2⟩ := HE.out v' U h1 h2 h3
  have G2 : Hid (∃ vs', Hid (PMp U' n mb (addP ps ⟨x0, x1, x2, x3⟩) vs' ∧ AKeep n mb W U')) := g2
  clear h1 h2 h3 g2 HE hrun
  go_wp2
  go_end0
  exact ⟨rfl, G2.out⟩
end Go.Proofs.Ytcamimjjmcdbcaa
