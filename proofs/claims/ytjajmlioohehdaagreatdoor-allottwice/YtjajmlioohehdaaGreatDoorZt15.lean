/-
  slices.SortFunc over a row of balances; a step of a range over ledger's map.
-/
import Derived.Test.YtjajmlioohehdaaGreatDoorZt14
import Derived.Laws.AppendOwnNone
import Derived.Laws.OwnMore
import Derived.Test.YtjajmlioohehdaaGreatDoorShelf
namespace Go.Proofs.YtjajmlioohehdaaGreatDoor
set_option linter.unusedVariables false
set_option linter.unusedSimpArgs false
set_option maxRecDepth 100000
open Go.RowKit Go.Lib
theorem pt_info : (Tryz.prog.info? 3).map (fun i => (i.zero, i.size, i.bytes)) = some (some (.int .i64 0), 1, 8) := by kernel_rfl
theorem ld_new_heap (W : World) (o : Obj) : (W.alloc o).heap[W.heap.size]? = some o := by unfold World.alloc; simp only [Array.getElem?_push_size]
theorem row_block {W : World} {n : Nat} {t : TypeId} {s : Nat} {v : Value} {m : Nat} {xs : List Value} (h : W.ownsRow n t s v m xs) {g : Nat} (e : v.ownBlock = some g) : n ≤ g ∧ g < W.heap.size ∧ ∃ cs, W.heap[g]? = some (.cells cs t (0, 0)) := by
  rcases h.2 with ⟨rfl, _⟩ | ⟨g1, c1, cur, rfl, hb1, hh, _⟩
  · cases e
  · cases e
    exact ⟨hb1, (Array.getElem?_eq_some_iff.1 hh).1, _, hh⟩
theorem row_keep {W U : World} {n : Nat} {t : TypeId} {s : Nat} {v : Value} {m : Nat} {xs : List Value} (h : W.ownsRow n t s v m xs) (hk : ∀ g, v.ownBlock = some g → U.heap[g]? = W.heap[g]?) : U.ownsRow n t s v m xs := by
  rcases h.2 with ⟨hv, hn⟩ | ⟨g1, c1, cur, hv, hb1, hh, r⟩
  · exact ⟨h.1, .inl ⟨hv, hn⟩⟩
  · exact ⟨h.1, .inr ⟨g1, c1, cur, hv, hb1, (hk g1 (by rw [hv]; rfl)).trans hh, r⟩⟩
/-- What an add leaves as it was: all but the map, and rows of amounts. -/
structure AKeep (n mb : Nat) (V W : World) : Prop where
  os : W.os = V.os
  tape : W.tape = V.tape
  output : W.output = V.output
  size : V.heap.size ≤ W.heap.size
  block : ∀ b, b < V.heap.size → b ≠ mb → (b < n ∨ ∀ cs : Array Value, V.heap[b]? ≠ some (Obj.cells cs 3 (0, 0))) → W.heap[b]? = V.heap[b]?
theorem AKeep.refl (n mb : Nat) (V : World) : AKeep n mb V V := ⟨rfl, rfl, rfl, Nat.le_refl _, fun _ _ _ _ => rfl⟩
theorem AKeep.trans {n mb : Nat} {U V W : World} (h : AKeep n mb U V) (k : AKeep n mb V W) : AKeep n mb U W :=
  ⟨k.os.trans h.os, k.tape.trans h.tape, k.output.trans h.output, Nat.le_trans h.size k.size, fun b hb hne hc => by
    have e := h.block b hb hne hc
    exact (k.block b (Nat.lt_of_lt_of_le hb h.size) hne (hc.imp id (fun h2 cs => by rw [e]; exact h2 cs))).trans e⟩
theorem AKeep.of_below {n mb : Nat} {V W : World} (h : Below V.heap.size V W) : AKeep n mb V W := ⟨h.os, h.tape, h.output, h.size, fun b hb _ _ => h.block b hb⟩
theorem AKeep.below {n mb : Nat} {V W : World} (h : AKeep n mb V W) (hm : n ≤ mb) (hn : n ≤ V.heap.size) : Below n V W := ⟨h.os, h.tape, h.output, h.size, fun b hb => h.block b (by omega) (by omega) (.inl hb)⟩
/-- An entry's slice is put into the map. -/
theorem run_estore {W U : World} {n mb : Nat} {ps : List Pt} {vs : Nat → Value} (h : PMp W n mb ps vs) {j : Nat} (hj : j < ps.length) {v' : Value} {z : Int} (hz : -9223372036854775808 ≤ z ∧ z ≤ 9223372036854775807)
    (ho : U.ownsRow n 3 1 v' ((ps[j]).zs.length + 1) ((ps[j]).zs.map (Value.int .i64) ++ [.int .i64 z])) (hg : W.grownBy U (vs j).ownBlock) (hl : v'.ownBlock = (vs j).ownBlock ∨ v'.ownBlock = some W.heap.size) (hn : n ≤ W.heap.size) :
    ∃ U', (Instr.entryStore 59 (.map (some mb)) (.int .i64 (j : Int)) v').run Tryz.prog U = .ok () U' ∧ PMp U' n mb (ps.set j ⟨(ps[j]).key, (ps[j]).zs ++ [z]⟩) (fun i => if i = j then v' else vs i) ∧ AKeep n mb W U' := by
  have hnb : (vs j).ownBlock ≠ some mb := fun e => by
    obtain ⟨_, _, cs, e2⟩ := row_block (h.rows j hj) e
    rw [h.map] at e2
    cases e2
  have hlt : mb < W.heap.size := (Array.getElem?_eq_some_iff.1 h.map).1
  have hm : U.heap[mb]? = some (.map (ents ps vs).toArray ps.length) := (hg.block mb hlt (fun e => hnb e.symm)).trans h.map
  have hltU : mb < U.heap.size := (Array.getElem?_eq_some_iff.1 hm).1
  have hidx : (ents ps vs).findIdx? (fun e => ((e.born : Nat) : Int) == (j : Int)) = some j :=
    WideElems.findIdx_born (e0 := ⟨plV (ps[j]).key, vs j, j⟩) (by rw [ents_born]; exact List.nodup_range) (ents_get ps vs j hj)
  have hset := ents_set ps vs j hj ((ps[j]).zs ++ [z]) v'
  refine ⟨ChangeMaps.setBlock U mb (.map (ents (ps.set j ⟨(ps[j]).key, (ps[j]).zs ++ [z]⟩) (fun i => if i = j then v' else vs i)).toArray ps.length), ?_, ⟨?_, h.mbn, ?_, ?_, ?_, ?_, ?_⟩, ?_⟩
  · simp [Instr.entryStore, MapKept.run_getObj_map hm, asInt, asIntOf, hidx, MapKept.run_setObj_map _ hm, Result.andThen, ChangeMaps.setBlock, hset]
  · rw [setBlock_at hltU]
    simp
  · intro p hp
    rcases List.mem_or_eq_of_mem_set hp with hp | rfl
    · exact h.keys p hp
    · have := h.keys _ (List.getElem_mem hj)
      exact this
  · rw [List.map_set]
    have : (ps.map Pt.key).set j (ps[j]).key = ps.map Pt.key := by
      have e : (ps[j]).key = (ps.map Pt.key)[j]'(by simpa using hj) := by simp
      rw [e, List.set_getElem_self]
    rw [this]
    exact h.nodup
  · intro i hi
    have hi' : i < ps.length := by simpa using hi
    by_cases e : i = j
    · subst e
      simp only [if_true, List.getElem_set_self, List.length_append, List.map_append, List.length_cons, List.length_nil, List.map_cons, List.map_nil]
      refine row_keep ho (fun g eg => setBlock_ne (fun e2 => ?_) _)
      obtain ⟨_, _, cs, e3⟩ := row_block ho eg
      rw [← e2, hm] at e3
      cases e3
    · have e' : ¬ j = i := fun h => e h.symm
      simp only [if_neg e, List.getElem_set_ne e']
      refine row_keep (h.rows i hi') (fun g eg => ?_)
      obtain ⟨_, g2, cs, e3⟩ := row_block (h.rows i hi') eg
      rw [setBlock_ne (fun e2 => by rw [← e2, h.map] at e3; cases e3) _]
      exact hg.block g g2 (fun e4 => h.apart i j hi' hj e g eg e4.symm)
  · intro a b ha hb hab g eg
    have ha' : a < ps.length := by simpa using ha
    have hb' : b < ps.length := by simpa using hb
    by_cases e : a = j
    · subst e
      have e2 : ¬ b = a := fun h => hab h.symm
      simp only [if_true, if_neg e2] at eg ⊢
      rcases hl with hl | hl
      · rw [hl] at eg
        exact h.apart a b ha' hb' hab g eg
      · rw [hl] at eg
        cases eg
        intro e3
        have := (row_block (h.rows b hb') e3).2.1
        omega
    · simp only [if_neg e] at eg
      by_cases e2 : b = j
      · subst e2
        simp only [if_true]
        rcases hl with hl | hl
        · rw [hl]; exact h.apart a b ha' hb' hab g eg
        · rw [hl]
          intro e3
          cases e3
          have := (row_block (h.rows a ha') eg).2.1
          omega
      · simp only [if_neg e2]
        exact h.apart a b ha' hb' hab g eg
  · intro p hp
    rcases List.mem_or_eq_of_mem_set hp with hp | rfl
    · exact h.i64 p hp
    · intro y hy
      rcases List.mem_append.1 hy with hy | hy
      · exact h.i64 _ (List.getElem_mem hj) y hy
      · rw [List.mem_singleton.1 hy]; exact hz
  · refine ⟨hg.os, hg.tape, hg.output, by simpa [ChangeMaps.setBlock] using hg.size, fun b hb hne hc => ?_⟩
    rw [setBlock_ne (fun e => hne e.symm)]
    refine hg.block b hb (fun e => ?_)
    obtain ⟨g1, _, cs, e2⟩ := row_block (h.rows j hj) e.symm
    rcases hc with hc | hc
    · omega
    · exact hc cs e2

set_option maxHeartbeats 4000000 in
theorem ldAdd_any (x : Bl) (W : World) (n mb : Nat) (ps : List Pt) (vs : Nat → Value) (h : PMp W n mb ps vs) (hk : PkOk x.key) (hz : -9223372036854775808 ≤ x.amt ∧ x.amt ≤ 9223372036854775807) (hl : ∀ p ∈ ps, p.zs.length < 17592186044416) :
    Calls Tryz.prog 17 #[.map (some mb), .agg x.cells] W fun e w' => e = .returned (.tuple #[]) ∧ ∃ vs', Hid (PMp w' n mb (addP ps x) vs' ∧ AKeep n mb W w') := by
  obtain ⟨x0, x1, x2, x3⟩ := x
  have hn : n ≤ W.heap.size := Nat.le_of_lt (Nat.lt_of_le_of_lt h.mbn (Array.getElem?_eq_some_iff.1 h.map).1)
  obtain ⟨V, hV⟩ : ∃ V, (((W.alloc (.cells #[.int .i64 x0, .string x1, .string x2, .int .i64 x3] 36)).alloc (.cells #[.int .i64 x0, .string x1, .string x2] 77)).alloc (.cells #[.int .i64 x3] 3)) = V := ⟨_, rfl⟩
  have hbV : Below W.heap.size W V := by
    rw [← hV]
    exact (((Below.refl _ W).alloc (Nat.le_refl _) _).alloc (by simp) _).alloc (by simp; omega) _
  have hsV : V.heap.size = W.heap.size + 3 := by rw [← hV]; simp
  obtain ⟨ps1, vs1, j, hj, V1, hrun, hP1, hkey, hB1, hsz, hoth, -, hmem, hadd⟩ := run_entry (h.below hbV) hk
  have e1 : V.heap[W.heap.size + 2]? = some (.cells #[.int .i64 x3] 3 (0, 0)) := by
    rw [← hV]
    have := ld_new_heap ((W.alloc (.cells #[.int .i64 x0, .string x1, .string x2, .int .i64 x3] 36)).alloc (.cells #[.int .i64 x0, .string x1, .string x2] 77)) (.cells #[.int .i64 x3] 3)
    simpa using this
  have e2 : V1.heap[W.heap.size + 2]? = some (.cells #[.int .i64 x3] 3 (0, 0)) := (hoth _ (fun e => by
    have := (Array.getElem?_eq_some_iff.1 h.map).1
    omega)).trans e1
  have hnews : ∀ i u, [Value.int .i64 x3][i]? = some u → V1.cell? ((⟨W.heap.size + 2, 0, none⟩ : Addr).add i) = some u := by
    intro i u hi
    rcases i with _ | i
    · simp at hi
      subst hi
      simp [Addr.add, World.cell?, e2]
    · simp at hi
  clear e1 e2
  have hzl : (ps1[j]).zs.length < 17592186044416 := by
    rcases hmem _ (List.getElem_mem hj) with hp | hp
    · exact hl _ hp
    · rw [hp]; simp
  have hown := hP1.rows j hj
  have HE : Hid (∀ v' U, U.ownsRow n 3 1 v' ((ps1[j]).zs.length + 1) ((ps1[j]).zs.map (Value.int .i64) ++ [.int .i64 x3]) → V1.grownBy U (vs1 j).ownBlock → (v'.ownBlock = (vs1 j).ownBlock ∨ v'.ownBlock = some V1.heap.size) →
      ∃ U', (Instr.entryStore 59 (.map (some mb)) (.int .i64 (j : Int)) v').run Tryz.prog U = .ok () U' ∧ ∃ vs', Hid (PMp U' n mb (addP ps ⟨x0, x1, x2, x3⟩) vs' ∧ AKeep n mb W U')) := fun v' U h1 h2 h3 => by
    obtain ⟨U', g1, g2, g3⟩ := run_estore hP1 hj (z := x3) hz h1 h2 h3 (by omega)
    rw [← hadd ⟨x0, x1, x2, x3⟩ rfl] at g2
    exact ⟨U', g1, _, g2, ((AKeep.of_below hbV).trans ⟨hB1.os, hB1.tape, hB1.output, by omega, fun b _ hne _ => hoth b hne⟩).trans g3⟩
  obtain ⟨v, hv⟩ : ∃ v, vs1 j = v := ⟨_, rfl⟩
  obtain ⟨zs, hzs⟩ : ∃ zs, (ps1[j]).zs = zs := ⟨_, rfl⟩
  rw [hv, hzs] at HE hown
  rw [hv] at hrun
  rw [hzs] at hzl
  simp only [plV, Bl.key, goInt] at hrun
  obtain ⟨js, hjs⟩ : ∃ js : Int, (j : Int) = js := ⟨_, rfl⟩
  rw [hjs] at hrun HE
  obtain ⟨i0, hi0, hz0, hz1, hz2⟩ := info_parts pt_info
  have HO : Hid (V1.ownsRow n 3 1 v zs.length (zs.map (Value.int .i64))) := hown
  have HNw : Hid (∀ i u, [Value.int .i64 x3][i]? = some u → V1.cell? ((⟨W.heap.size + 2, 0, none⟩ : Addr).add i) = some u) := hnews
  have HS : Hid (n ≤ V1.heap.size) := by unfold Hid; omega
  have Hm1 : Hid (zs.length + 1 ≤ maxLen) := by unfold Hid maxLen; omega
  have Hm2 : Hid ((zs.length + 1) * 8 ≤ 140737488355328) := by unfold Hid; omega
  have Hs1 : Hid (∀ u ∈ [Value.int .i64 x3], u.oneCell' = true) := by intro u hu; simp at hu; subst hu; rfl
  have HV : Hid (_ = V) := hV
  simp only [Bl.cells]
  clear hP1 hkey hB1 hsz hoth hmem hadd hown hnews h hl hk hz hn hbV hsV hv hzs hjs hj hzl
  subst hV
  go_enter Tryz.func17, Tryz.ntmps17
  go_wp2_with (at_builtin; refine wpList_append_own_at _ rfl _ _ 26 rfl n 3 i0 (.int .i64 0) 1 8 Tryz.underlying26 hi0 hz0 hz1 hz2 rfl (by decide) _ _ _ rfl HO.out ⟨W.heap.size + 2, 0, none⟩ 1 1 [.int .i64 x3] rfl rfl HNw.out Hs1.out Hm1.out Hm2.out HS.out ?_)
  intro v' U h1 h2 _ h3
  obtain ⟨U', g1, g2⟩ := HE.out v' U h1 h2 h3
  have G2 : Hid (∃ vs', Hid (PMp U' n mb (addP ps ⟨x0, x1, x2, x3⟩) vs' ∧ AKeep n mb W U')) := g2
  clear h1 h2 h3 g2 HE hrun
  go_wp2
  go_end0
  exact ⟨rfl, G2.out⟩
end Go.Proofs.YtjajmlioohehdaaGreatDoor

namespace Go.Proofs.YtjajmlioohehdaaGreatDoor
set_option linter.unusedVariables false
set_option linter.unusedSimpArgs false
set_option maxRecDepth 100000
open Go.RowKit Go.Lib

theorem blsAt_cells {w : World} {b off : Nat} {l : List Bl} (h : BlsAt w b off l) : ∀ j u, (blRow l)[j]? = some u → w.cell? ((⟨b, off, none⟩ : Addr).add j) = some u := fun j u hu => by
  obtain ⟨q, r, hr, rfl⟩ : ∃ q r, r < 4 ∧ j = q * 4 + r := ⟨j / 4, j % 4, Nat.mod_lt _ (by omega), by omega⟩
  have hj : q * 4 + r < (blRow l).length := by
    false_or_by_contra
    rename_i hn
    rw [List.getElem?_eq_none (by omega)] at hu
    cases hu
  rw [blRow_length] at hj
  have hq : q < l.length := by omega
  rw [blRow_get l q r hq hr] at hu
  have hc := h q hq
  obtain ⟨c0, c1, c2, c3⟩ := hc
  have ea : (⟨b, off, none⟩ : Addr).add (q * 4 + r) = ⟨b, off + q * 4 + r, none⟩ := by simp [Addr.add, Nat.add_assoc]
  rw [ea]
  rcases (by omega : r = 0 ∨ r = 1 ∨ r = 2 ∨ r = 3) with rfl | rfl | rfl | rfl
  · rw [Nat.add_zero, c0]; exact hu
  · rw [c1]; exact hu
  · rw [c2]; exact hu
  · rw [c3]; exact hu

/-- Some balances behind a row of one's own. -/
theorem run_appBl (ty : TypeId) (base : Nat) (v : Value) (l1 : List Bl) (w : World) (hown : BlRow w base v l1) (a : Option Addr) (l2 : List Bl) (c : Nat) (h : IsBl w a l2 c) (hlen : l1.length + l2.length ≤ 1000) (hbase : base ≤ w.heap.size) :
    ∃ v' w', (Builtin.append_ #[24, 24] ty #[v, .slice a l2.length c]).run Tryz.prog w = .ok v' w' ∧ BlRow w' base v' (l1 ++ l2) ∧ w.grownBy w' v.ownBlock := by
  obtain ⟨i, hi, hz0, hz1, hz2⟩ := info_parts bl_info
  rcases a with _ | ⟨b, off, f⟩
  · have e : l2 = [] := by
      rcases h.lies with h | ⟨b, off, e, _⟩
      · exact h
      · cases e
    subst e
    refine ⟨v, w, ?_, by rw [List.append_nil]; exact hown, ⟨rfl, rfl, rfl, Nat.le_refl _, fun _ _ _ => rfl⟩⟩
    rcases hown.2 with ⟨rfl, hn⟩ | ⟨g, cap, cur, rfl, _, _, hnc, _⟩
    · simp [Builtin.append_, run_underlying Tryz.underlying24, sizeOf, typeInfo, hi, Builtin.lenOf, Builtin.firstCells]
    · simp [Builtin.append_, run_underlying Tryz.underlying24, sizeOf, typeInfo, hi, Builtin.lenOf, Builtin.firstCells, hnc, storeCells]
  · have hn : ∀ j u, (blRow l2)[j]? = some u → w.cell? ((⟨b, off, f⟩ : Addr).add j) = some u := by
      rcases h.lies with h | ⟨b', off', e, _, hc⟩
      · subst h
        intro j u hu
        simp [blRow] at hu
      · cases e
        exact blsAt_cells hc
    obtain ⟨v', w', hr, h2, h3, _⟩ := run_append_own (P := Tryz.prog) w base 24 ty 36 i (.agg #[.int .i64 0, .string ByteArray.empty, .string ByteArray.empty, .int .i64 0]) 4 48 Tryz.underlying24 hi hz0 hz1 hz2 rfl (by decide) v l1.length (blRow l1) hown ⟨b, off, f⟩ l2.length c (blRow l2) (blRow_length l2) hn (blRow_one_cell l2) (by unfold maxLen; omega) (by omega) hbase
    refine ⟨v', w', hr, ?_, h3⟩
    unfold BlRow
    rw [blRow_append, List.length_append]
    exact h2
theorem wpList_appBl {w : World} {ops : Array Oper} {rest : List Oper} {o : Oper} {a : Act} {Q : Exit → Act → World → Prop} (hgd : o.guard = none) (s x : Operand)
    (ho : o.op = .call { callee := .builtin .append, args := #[s, x], argTypes := #[24, 24] })
    (base : Nat) (v : Value) (l1 : List Bl) (hs : a.eval s = v) (hown : BlRow w base v l1) (ad : Option Addr) (m c : Nat) (l2 : List Bl) (hx : a.eval x = .slice ad m c) (hm : l2.length = m) (h : IsBl w ad l2 c) (hlen : l1.length + l2.length ≤ 1000) (hbase : base ≤ w.heap.size)
    (hh : ∀ v' w', BlRow w' base v' (l1 ++ l2) → w.grownBy w' v.ownBlock → wpList Tryz.prog ops Q rest (a.put o.dst v') w') : wpList Tryz.prog ops Q (o :: rest) a w := by
  subst hm
  refine wpList_plain hgd fun K hK => ?_
  obtain ⟨v', w', hr, h2, h3⟩ := run_appBl o.type base v l1 w hown ad l2 c h hlen hbase
  unfold Oper.wp execOp
  simp only [ho, resolve, invoke, builtin, Sem.run_bind, Sem.run_pure, Result.andThen_ok, List.map_toArray, List.map_cons, List.map_nil, hs, hx, hr]
  exact hK _ _ (hh v' w' h2 h3)

/-- A balance of a row that is one's own gets another amount. -/
theorem BlRow.setAmt {W : World} {n0 g cap : Nat} {l : List Bl} (h : BlRow W n0 (.slice (some ⟨g, 0, none⟩) l.length cap) l) (k : Nat) (hk : k < l.length) (a : Int) :
    BlRow (W.setCell ⟨g, k * 4 + 3, none⟩ (.int .i64 a)) n0 (.slice (some ⟨g, 0, none⟩) l.length cap) (l.set k ⟨(l.getD k bl0).ent, (l.getD k bl0).acc, (l.getD k bl0).cur, a⟩) ∧ W.frozen? ⟨g, k * 4 + 3, none⟩ = false := by
  rcases h.2 with ⟨hv, _⟩ | ⟨g1, c1, cur, hv, hb, hg, hc, hm, hs, ht⟩
  · cases hv
  cases hv
  have e1 : blRow (l.set k ⟨(l.getD k bl0).ent, (l.getD k bl0).acc, (l.getD k bl0).cur, a⟩) = (blRow l).set (k * 4 + 3) (.int .i64 a) := by
    apply List.ext_getElem?
    intro j
    obtain ⟨q, r, hr, rfl⟩ : ∃ q r, r < 4 ∧ j = q * 4 + r := ⟨j / 4, j % 4, Nat.mod_lt _ (by omega), by omega⟩
    by_cases hq : q < l.length
    · rw [blRow_get _ q r (by simpa using hq) hr, List.getElem?_set]
      by_cases hqk : q = k
      · subst hqk
        rw [List.getD_eq_getElem?_getD, List.getElem?_set_self hq, Option.getD_some]
        by_cases hr2 : r = 3
        · subst hr2
          rw [if_pos rfl, if_pos (by rw [blRow_length]; omega)]
          rfl
        · rw [if_neg (by omega), blRow_get l q r hq hr]
          rcases (by omega : r = 0 ∨ r = 1 ∨ r = 2) with rfl | rfl | rfl <;> rfl
      · rw [if_neg (by omega), blRow_get l q r hq hr, List.getD_eq_getElem?_getD, List.getElem?_set_ne (fun e => hqk e.symm), ← List.getD_eq_getElem?_getD]
    · rw [List.getElem?_eq_none (by rw [blRow_length, List.length_set]; omega), List.getElem?_eq_none (by rw [List.length_set, blRow_length]; omega)]
  refine ⟨⟨by rw [blRow_length, List.length_set], .inr ⟨g, cap, cur.setIfInBounds (k * 4 + 3) (.int .i64 a), by rw [List.length_set], hb, ?_, by rw [List.length_set]; exact hc, hm, by simpa using hs, ?_⟩⟩, by simp [World.frozen?, hg]⟩
  · rw [setCell_eq_setRow W g (k * 4 + 3) cur 36 (0, 0) _ hg]
    exact setRow_heap W g cur _ 36 (0, 0) hg
  · rw [e1, List.length_set, ← ht, Array.toList_setIfInBounds, List.take_set]

theorem full_take (l : List Bl) (k : Nat) (h : k < l.length) : full (l.take (k + 1)) = if (l.getD k bl0).amt = 0 then full (l.take k) else full (l.take k) ++ [l.getD k bl0] := by
  rw [bls_take l k h]
  generalize l.getD k bl0 = x
  unfold full
  rw [List.filter_append]
  by_cases h0 : x.amt = 0
  · rw [if_pos h0, List.filter_cons, if_neg (by simp [h0])]; simp
  · rw [if_neg h0, List.filter_cons, if_pos (by simp [h0])]; simp
theorem full_length (l : List Bl) : (full l).length ≤ l.length := List.length_filter_le _ _

set_option maxHeartbeats 4000000 in
theorem lmFull_any (a : Option Addr) (cap : Nat) (l : List Bl) (w : World) (hlen : l.length ≤ 400) (h : IsBl w a l cap) :
    Calls Tryz.prog 8 #[.slice a l.length cap] w fun e w' => ∃ v, e = .returned v ∧ Hid (BlRow w' w.heap.size v (full l) ∧ Below w.heap.size w w') := by
  have HL : Hid (IsBl w a l cap) := h
  clear h
  go_enter Tryz.func8, Tryz.ntmps8
  go_wp2
  go_loopw [3, 4] (fun v i wr => ∃ (k : Nat) (va : Option Addr) (vn vc : Nat), k ≤ l.length ∧ i = .int .i64 k ∧ v = .slice va vn vc ∧ Hid (BlRow wr w.heap.size (.slice va vn vc) (full (l.take k)) ∧ Below w.heap.size w wr)) (fun _ i _ => l.length - (RowKit.intOf i).toNat)
  case atStart => exact ⟨0, none, 0, 0, Nat.zero_le _, rfl, rfl, BlRow.nil _ _, Below.refl _ _⟩
  case round =>
    obtain ⟨k, va, vn, vc, hk, rfl, rfl, HR⟩ := hrel
    by_cases hlt : k < l.length
    · obtain ⟨b, off, rfl, hb, hc⟩ := HL.out.some hlt
      have hx := (hc k hlt).below HR.out.2 hb
      have i0 : (0 : Int) ≤ k := by omega
      have i3 : (k : Int) < l.length := by omega
      have hft := full_take l k hlt
      obtain ⟨x, hxx⟩ : ∃ x, l.getD k bl0 = x := ⟨_, rfl⟩
      rw [hxx] at hx hft
      have HFT : Hid (full (l.take (k + 1)) = if x.amt = 0 then full (l.take k) else full (l.take k) ++ [x]) := hft
      have Hfl : Hid ((full (l.take k)).length ≤ 400) := by
        have := full_length (l.take k)
        rw [List.length_take] at this
        unfold Hid
        omega
      clear hft hxx hc
      obtain ⟨x0, x1, x2, x3⟩ := x
      obtain ⟨d0, d1, d2, d3⟩ := hx
      simp only at d0 d1 d2 d3 HFT
      by_cases c0 : x3 = 0
      · have HN : Hid (BlRow wr w.heap.size (.slice va vn vc) (full (l.take (k + 1))) ∧ Below w.heap.size w wr) := by
          unfold Hid
          rw [HFT.out, if_pos c0]
          exact HR.out
        have c0' : (x3 != 0) = false := by simp [c0]
        subst c0
        clear HR
        go_wp2
        go_roundw
        case rel => exact ⟨k + 1, va, vn, vc, by omega, by go_num, rfl, HN⟩
        case measure => simp [RowKit.intOf]; omega
      · have c0' : (x3 != 0) = true := by simp [c0]
        obtain ⟨Z, hZ⟩ : ∃ Z, wr.alloc (.cells #[.int .i64 x0, .string x1, .string x2, .int .i64 x3] 36) = Z := ⟨_, rfl⟩
        have hbZ : Below wr.heap.size wr Z := by rw [← hZ]; exact (Below.refl _ _).alloc (Nat.le_refl _) _
        have HSrc : Hid (IsBl Z (some ⟨wr.heap.size, 0, none⟩) [⟨x0, x1, x2, x3⟩] 1) := by
          refine ⟨Nat.le_refl _, .inr ⟨_, _, rfl, by rw [← hZ]; simp, fun j hj => ?_⟩⟩
          have : j = 0 := by simpa using hj
          subst this
          rw [← hZ]
          exact BlAt.new wr ⟨x0, x1, x2, x3⟩ 36
        have HZr : Hid (BlRow Z w.heap.size (.slice va vn vc) (full (l.take k))) := HR.out.1.below hbZ
        have HNw : Hid (∀ v' U, BlRow U w.heap.size v' (full (l.take k) ++ [⟨x0, x1, x2, x3⟩]) → Z.grownBy U (Value.slice va vn vc).ownBlock → BlRow U w.heap.size v' (full (l.take (k + 1))) ∧ Below w.heap.size w U) := fun v' U ho hg => by
          refine ⟨?_, (HR.out.2.trans (hbZ.mono HR.out.2.size)).grown hg (Nat.le_trans HR.out.2.size hbZ.size) (fun g e => (row_block HZr.out e).1)⟩
          rw [HFT.out, if_neg c0]
          exact ho
        have Hsz : Hid (w.heap.size ≤ Z.heap.size) := Nat.le_trans HR.out.2.size hbZ.size
        have HZ : Hid (wr.alloc (.cells #[.int .i64 x0, .string x1, .string x2, .int .i64 x3] 36) = Z) := hZ
        have Hle : Hid ((full (l.take k)).length + [(⟨x0, x1, x2, x3⟩ : Bl)].length ≤ 1000) := by have := Hfl.out; unfold Hid; simp; omega
        clear hbZ hZ HR HFT
        go_wp2_with (at_builtin; rw [HZ.out]; refine wpList_appBl rfl _ _ rfl w.heap.size _ _ rfl HZr.out _ 1 1 _ rfl rfl HSrc.out Hle.out Hsz.out ?_)
        intro v' U ho hg
        have HG : Hid (BlRow U w.heap.size v' (full (l.take (k + 1))) ∧ Below w.heap.size w U) := HNw.out v' U ho hg
        obtain ⟨a9, c9, e9, -⟩ := HG.out.1.isBl
        subst e9
        clear ho hg HNw HSrc HZr
        go_wp2_with fail
        go_roundw
        case rel => exact ⟨k + 1, _, _, _, by omega, by go_num, rfl, HG⟩
        case measure => simp [RowKit.intOf]; omega
    · obtain rfl : k = l.length := by omega
      have HR2 : Hid (BlRow wr w.heap.size (.slice va vn vc) (full l) ∧ Below w.heap.size w wr) := by
        have := HR.out
        rw [List.take_length] at this
        exact this
      clear HR
      go_wp2
      go_ret
      exact ⟨_, rfl, HR2⟩
end Go.Proofs.YtjajmlioohehdaaGreatDoor

namespace Go.Proofs.YtjajmlioohehdaaGreatDoor
set_option linter.unusedVariables false
set_option linter.unusedSimpArgs false
set_option maxRecDepth 100000
open Go.RowKit Go.Lib

def blA (a : Option Addr) (cap k : Nat) : Option Addr := if cap = k then a else a.map (·.add (k * 4))
theorem bls_under : Tryz.prog.underlying 24 = some (.slice (Tryz.prog.elem 24)) := by kernel_rfl
theorem bls_size (W : World) : (sizeOf (Tryz.prog.elem 24)).run Tryz.prog W = .ok 4 W := by
  obtain ⟨i, hi, hz0, hz1, hz2⟩ := info_parts bl_info
  rw [show Tryz.prog.elem 24 = 36 by kernel_rfl]
  simp [sizeOf, typeInfo, hi, hz1]
theorem run_blH (a : Option Addr) (L cap m : Nat) (hm : m ≤ cap) (W : World) : (Instr.slice 24 (.slice a L cap) none (some (.int .i64 (m : Int))) none).run Tryz.prog W = .ok (.slice (blA a cap 0) m cap) W := by
  rw [run_slice_h W 24 a L cap bls_under .i64 m (by omega) (by omega), bls_size]
  simp [Result.andThen, sliced, blA]
theorem run_blL (a : Option Addr) (L cap k : Nat) (hk : k ≤ L) (W : World) : (Instr.slice 24 (.slice a L cap) (some (.int .i64 (k : Int))) none none).run Tryz.prog W = .ok (.slice (blA a cap k) (L - k) (cap - k)) W := by
  rw [run_slice_l W 24 a L cap bls_under .i64 k (by omega) (by omega), bls_size]
  simp [Result.andThen, sliced, blA]
theorem IsBl.take {W : World} {a : Option Addr} {l : List Bl} {cap : Nat} (h : IsBl W a l cap) (k : Nat) (hk : k ≤ l.length) : IsBl W (blA a cap 0) (l.take k) cap := by
  refine ⟨by have := h.cap; rw [List.length_take]; omega, ?_⟩
  rcases h.lies with h0 | ⟨b, off, rfl, hb, hc⟩
  · subst h0; exact .inl (by simp)
  · right
    refine ⟨b, off, ?_, hb, fun j hj => ?_⟩
    · unfold blA
      split
      · rfl
      · simp [Addr.add]
    · rw [List.length_take] at hj
      have := hc j (by omega)
      rw [List.getD_eq_getElem?_getD, List.getElem?_take, if_pos (by omega), ← List.getD_eq_getElem?_getD]
      exact this
theorem IsBl.drop {W : World} {a : Option Addr} {l : List Bl} {cap : Nat} (h : IsBl W a l cap) (k : Nat) (hk : k ≤ l.length) : IsBl W (blA a cap k) (l.drop k) (cap - k) := by
  have hcap := h.cap
  refine ⟨by rw [List.length_drop]; omega, ?_⟩
  by_cases he : cap = k
  · exact .inl (List.drop_eq_nil_of_le (by omega))
  · rcases h.lies with h0 | ⟨b, off, rfl, hb, hc⟩
    · subst h0; exact .inl (by simp)
    · refine .inr ⟨b, off + k * 4, by unfold blA; rw [if_neg he]; simp [Addr.add], hb, fun j hj => ?_⟩
      rw [List.length_drop] at hj
      have := hc (k + j) (by omega)
      rw [List.getD_eq_getElem?_getD, List.getElem?_drop, ← List.getD_eq_getElem?_getD]
      rw [show off + k * 4 + j * 4 = off + (k + j) * 4 by omega]
      exact this

set_option maxHeartbeats 8000000 in
theorem lmPut_any (a : Option Addr) (cap : Nat) (l : List Bl) (x : Bl) (w : World) (hlen : l.length ≤ 400) (h : IsBl w a l cap)
    (hov : ∀ y ∈ l, y.key = x.key → -9223372036854775808 ≤ y.amt + x.amt ∧ y.amt + x.amt ≤ 9223372036854775807) :
    Calls Tryz.prog 6 #[.slice a l.length cap, .agg x.cells] w fun e w' => ∃ v, e = .returned v ∧ Hid (BlRow w' w.heap.size v (putB l x) ∧ Below w.heap.size w w') := by
  have HL : Hid (IsBl w a l cap) := h
  have Hov : Hid (∀ y ∈ l, y.key = x.key → -9223372036854775808 ≤ y.amt + x.amt ∧ y.amt + x.amt ≤ 9223372036854775807) := hov
  have hcap := h.cap
  clear h hov
  obtain ⟨x0, x1, x2, x3⟩ := x
  simp only [Bl.cells]
  obtain ⟨W1, hW1⟩ : ∃ W1, w.alloc (.cells #[.int .i64 x0, .string x1, .string x2, .int .i64 x3] 36) = W1 := ⟨_, rfl⟩
  have hbx : W1.heap[w.heap.size]? = some (.cells #[.int .i64 x0, .string x1, .string x2, .int .i64 x3] 36 (0, 0)) := by rw [← hW1]; exact ld_new_heap w _
  have HB0 : Hid (Below w.heap.size w W1) := by rw [← hW1]; exact (Below.refl _ _).alloc (Nat.le_refl _) _
  have HX : Hid (∀ U, Below W1.heap.size W1 U → U.cell? ⟨w.heap.size, 0, none⟩ = some (.int .i64 x0) ∧ U.cell? ⟨w.heap.size, 1, none⟩ = some (.string x1) ∧ U.cell? ⟨w.heap.size, 2, none⟩ = some (.string x2) ∧ U.cell? ⟨w.heap.size, 3, none⟩ = some (.int .i64 x3)) := fun U hU => by
    have hlt' : w.heap.size < W1.heap.size := (Array.getElem?_eq_some_iff.1 hbx).1
    have e := (hU.block _ hlt').trans hbx
    simp [World.cell?, e]
  have HW1 : Hid (w.alloc (.cells #[.int .i64 x0, .string x1, .string x2, .int .i64 x3] 36) = W1) := hW1
  have HSz : Hid (w.heap.size < W1.heap.size) := (Array.getElem?_eq_some_iff.1 hbx).1
  clear hW1 hbx
  go_enter Tryz.func6, Tryz.ntmps6
  go_wp2
  rw [HW1.out]
  clear HW1
  obtain ⟨B, hB⟩ : ∃ B, w.heap.size = B := ⟨_, rfl⟩
  have HBn : Hid (w.heap.size = B) := hB
  have Hbl : Hid (Below B w W1) := by unfold Hid; rw [← hB]; exact HB0.out
  rw [hB] at HX HSz ⊢
  clear hB
  go_loopw [5] (fun i wr => ∃ k : Nat, k ≤ l.length ∧ i = .int .i64 k ∧ Hid (∀ j, j < k → cmpB (l.getD j bl0) ⟨x0, x1, x2, x3⟩ < 0) ∧ Hid (Below W1.heap.size W1 wr)) (fun i _ => l.length - (RowKit.intOf i).toNat)
  case atStart => exact ⟨0, Nat.zero_le _, rfl, fun j hj => by omega, Below.refl _ _⟩
  case round =>
    obtain ⟨k, hk, rfl, HA, HWx⟩ := hrel
    have HWb : Hid (Below w.heap.size w wr) := HB0.out.trans (HWx.out.mono HB0.out.size)
    go_upto_region 2 with fail
    go_cut [19] from 8 to 19 (fun t wx => t = .bool (decide (k < l.length ∧ cmpB (l.getD k bl0) ⟨x0, x1, x2, x3⟩ < 0)) ∧ Hid (Below wr.heap.size wr wx))
    case first =>
      by_cases hlt : k < l.length
      · obtain ⟨b, off, rfl, hb, hc⟩ := HL.out.some hlt
        have hy := (hc k hlt).below HWb.out hb
        obtain ⟨c, hcc⟩ : ∃ c, decide (cmpB (l.getD k bl0) ⟨x0, x1, x2, x3⟩ < 0) = c := ⟨_, rfl⟩
        have HER : Hid (decide (k < l.length ∧ cmpB (l.getD k bl0) ⟨x0, x1, x2, x3⟩ < 0) = c) := by
          unfold Hid
          rw [← hcc, Bool.eq_iff_iff]
          simp [hlt]
        have HCm : Hid (∀ W, Calls Tryz.prog 16 #[.agg (l.getD k bl0).cells, .agg (Bl.mk x0 x1 x2 x3).cells] W fun e w' => e = .returned (.bool c) ∧ Below W.heap.size W w') := fun W => by
          have := lmAhead_any (l.getD k bl0) (Bl.mk x0 x1 x2 x3) W
          rw [hcc] at this
          exact this
        clear hcc
        generalize l.getD k bl0 = y at hy HCm
        obtain ⟨y0, y1, y2, y3⟩ := y
        obtain ⟨d0, d1, d2, d3⟩ := hy
        obtain ⟨f0, f1, f2, f3⟩ := HX.out wr HWx.out
        simp only [Bl.cells] at d0 d1 d2 d3 f0 f1 f2 f3 HCm
        have hbW : b < wr.heap.size := Nat.lt_of_lt_of_le hb HWb.out.size
        have hBW : B < wr.heap.size := Nat.lt_of_lt_of_le HSz.out HWx.out.size
        have HK : Hid (∀ W V, Below W.heap.size W V → b < W.heap.size → B < W.heap.size → (W.cell? ⟨b, off + k * 4, none⟩ = some (.int .i64 y0) ∧ W.cell? ⟨b, off + k * 4 + 1, none⟩ = some (.string y1) ∧ W.cell? ⟨b, off + k * 4 + 2, none⟩ = some (.string y2) ∧ W.cell? ⟨b, off + k * 4 + 3, none⟩ = some (.int .i64 y3)) ∧ W.cell? ⟨B, 0, none⟩ = some (.int .i64 x0) ∧ W.cell? ⟨B, 1, none⟩ = some (.string x1) ∧ W.cell? ⟨B, 2, none⟩ = some (.string x2) ∧ W.cell? ⟨B, 3, none⟩ = some (.int .i64 x3) → (V.cell? ⟨b, off + k * 4, none⟩ = some (.int .i64 y0) ∧ V.cell? ⟨b, off + k * 4 + 1, none⟩ = some (.string y1) ∧ V.cell? ⟨b, off + k * 4 + 2, none⟩ = some (.string y2) ∧ V.cell? ⟨b, off + k * 4 + 3, none⟩ = some (.int .i64 y3)) ∧ V.cell? ⟨B, 0, none⟩ = some (.int .i64 x0) ∧ V.cell? ⟨B, 1, none⟩ = some (.string x1) ∧ V.cell? ⟨B, 2, none⟩ = some (.string x2) ∧ V.cell? ⟨B, 3, none⟩ = some (.int .i64 x3)) := fun W V hB hlt hlt2 hh => by
          have C : ∀ o, V.cell? ⟨b, o, none⟩ = W.cell? ⟨b, o, none⟩ := fun o => hB.cell (p := ⟨b, o, none⟩) hlt
          have C2 : ∀ o, V.cell? ⟨B, o, none⟩ = W.cell? ⟨B, o, none⟩ := fun o => hB.cell (p := ⟨B, o, none⟩) hlt2
          simp only [C, C2]
          exact hh
        have j0 : (0 : Int) ≤ k := by omega
        have j1 : (k : Int) < l.length := by omega
        clear HX HL HSz HWb HWx HB0 hc
        go_wp2_with fail
        go_region_held3 (fun u => (u.cell? ⟨b, off + k * 4, none⟩ = some (.int .i64 y0) ∧ u.cell? ⟨b, off + k * 4 + 1, none⟩ = some (.string y1) ∧ u.cell? ⟨b, off + k * 4 + 2, none⟩ = some (.string y2) ∧ u.cell? ⟨b, off + k * 4 + 3, none⟩ = some (.int .i64 y3)) ∧ u.cell? ⟨B, 0, none⟩ = some (.int .i64 x0) ∧ u.cell? ⟨B, 1, none⟩ = some (.string x1) ∧ u.cell? ⟨B, 2, none⟩ = some (.string x2) ∧ u.cell? ⟨B, 3, none⟩ = some (.int .i64 x3)) (go_keep) (first | (go_at_call 16; refine (HCm.out _).mono ?_; rintro e w' ⟨rfl, hb'⟩; obtain ⟨⟨p0, p1, p2, p3⟩, p4, p5, p6, p7⟩ := HK.out _ _ hb' (by simpa using hbW) (by simpa using hBW) (by simpa using ⟨⟨d0, d1, d2, d3⟩, f0, f1, f2, f3⟩)))
        all_goals
          go_wp2
          go_meet
          case rel => exact ⟨by rw [HER.out], (Below.refl _ _).drew.trans hb'⟩
      · have j1 : ¬ (k : Int) < l.length := by omega
        have HER : Hid (decide (k < l.length ∧ cmpB (l.getD k bl0) ⟨x0, x1, x2, x3⟩ < 0) = false) := by
          unfold Hid
          simp [hlt]
        go_wp2_with fail
        go_quiet (fail)
        rename Nat => nk
        have HZ : Hid (Below wr.heap.size wr (wr.drewN nk)) := en_drewN (Below.refl _ _) nk
        go_wp2
        go_meet
        case rel => exact ⟨by rw [HER.out], HZ⟩
    case rest =>
      obtain ⟨rfl, HBc⟩ := hcut
      have HCx : Hid (Below W1.heap.size W1 wc) := HWx.out.trans (HBc.out.mono HWx.out.size)
      clear HBc HWx HWb
      by_cases c1 : k < l.length ∧ cmpB (l.getD k bl0) ⟨x0, x1, x2, x3⟩ < 0
      · rw [decide_eq_true c1]
        have hlt := c1.1
        have HA2 : Hid (∀ j, j < k + 1 → cmpB (l.getD j bl0) ⟨x0, x1, x2, x3⟩ < 0) := fun j hj => by
          rcases (by omega : j < k ∨ j = k) with h | rfl
          · exact HA.out j h
          · exact c1.2
        clear c1 HA
        go_wp2
        go_roundw
        case rel => exact ⟨k + 1, by omega, by go_num, HA2, HCx⟩
        case measure => simp [RowKit.intOf]; omega
      · rw [decide_eq_false c1]
        have HKA : Hid (k = putAt l ⟨x0, x1, x2, x3⟩) := putAt_eq HA.out (fun h1 h2 => c1 ⟨h1, h2⟩) hk
        have HWb : Hid (Below w.heap.size w wc) := HB0.out.trans (HCx.out.mono HB0.out.size)
        have HIL : Hid (IsBl wc a l cap) := HL.out.below HWb.out
        have HNil : Hid (BlRow wc B (.slice none 0 0) []) := BlRow.nil _ _
        have Hsz : Hid (B ≤ wc.heap.size) := by have := HWb.out.size; rw [HBn.out] at this; exact this
        have Hle : Hid (([] : List Bl).length + l.length ≤ 1000) := by unfold Hid; simp; omega
        clear c1 HA
        go_wp2_with (at_builtin; refine wpList_appBl rfl _ _ rfl B _ [] rfl HNil.out a l.length cap l rfl rfl HIL.out Hle.out Hsz.out ?_)
        intro vo wo ho hg
        have HO : Hid (BlRow wo B vo l) := ho
        have HOb : Hid (Below wc.heap.size wc wo) := (Below.refl _ _).grown hg (Nat.le_refl _) (fun g e => by cases e)
        have HWx : Hid (Below W1.heap.size W1 wo) := HCx.out.trans (HOb.out.mono HCx.out.size)
        have HWb2 : Hid (Below w.heap.size w wo) := HB0.out.trans (HWx.out.mono HB0.out.size)
        clear ho hg HNil HIL HOb HCx HWb Hsz Hle
        have HWb := HWb2
        clear HWb2
        go_upto_region 6 with fail
        go_cut [37] from 25 to 37 (fun t wx => t = .bool (decide (k < l.length ∧ ¬ cmpB ⟨x0, x1, x2, x3⟩ (l.getD k bl0) < 0)) ∧ Hid (Below wo.heap.size wo wx))
        case first =>
          by_cases hlt : k < l.length
          · obtain ⟨b, off, rfl, hb, hc⟩ := HL.out.some hlt
            have hy := (hc k hlt).below HWb.out hb
            obtain ⟨c, hcc⟩ : ∃ c, decide (cmpB ⟨x0, x1, x2, x3⟩ (l.getD k bl0) < 0) = c := ⟨_, rfl⟩
            have HER : Hid (decide (k < l.length ∧ ¬ cmpB ⟨x0, x1, x2, x3⟩ (l.getD k bl0) < 0) = !c) := by
              unfold Hid
              rw [← hcc, Bool.eq_iff_iff]
              simp [hlt]
            have HCm : Hid (∀ W, Calls Tryz.prog 16 #[.agg (Bl.mk x0 x1 x2 x3).cells, .agg (l.getD k bl0).cells] W fun e w' => e = .returned (.bool c) ∧ Below W.heap.size W w') := fun W => by
              have := lmAhead_any (Bl.mk x0 x1 x2 x3) (l.getD k bl0) W
              rw [hcc] at this
              exact this
            clear hcc
            generalize l.getD k bl0 = y at hy HCm
            obtain ⟨y0, y1, y2, y3⟩ := y
            obtain ⟨d0, d1, d2, d3⟩ := hy
            obtain ⟨f0, f1, f2, f3⟩ := HX.out wo HWx.out
            simp only [Bl.cells] at d0 d1 d2 d3 f0 f1 f2 f3 HCm
            have hbW : b < wo.heap.size := Nat.lt_of_lt_of_le hb HWb.out.size
            have hBW : B < wo.heap.size := Nat.lt_of_lt_of_le HSz.out HWx.out.size
            have HK : Hid (∀ W V, Below W.heap.size W V → b < W.heap.size → B < W.heap.size → (W.cell? ⟨b, off + k * 4, none⟩ = some (.int .i64 y0) ∧ W.cell? ⟨b, off + k * 4 + 1, none⟩ = some (.string y1) ∧ W.cell? ⟨b, off + k * 4 + 2, none⟩ = some (.string y2) ∧ W.cell? ⟨b, off + k * 4 + 3, none⟩ = some (.int .i64 y3)) ∧ W.cell? ⟨B, 0, none⟩ = some (.int .i64 x0) ∧ W.cell? ⟨B, 1, none⟩ = some (.string x1) ∧ W.cell? ⟨B, 2, none⟩ = some (.string x2) ∧ W.cell? ⟨B, 3, none⟩ = some (.int .i64 x3) → (V.cell? ⟨b, off + k * 4, none⟩ = some (.int .i64 y0) ∧ V.cell? ⟨b, off + k * 4 + 1, none⟩ = some (.string y1) ∧ V.cell? ⟨b, off + k * 4 + 2, none⟩ = some (.string y2) ∧ V.cell? ⟨b, off + k * 4 + 3, none⟩ = some (.int .i64 y3)) ∧ V.cell? ⟨B, 0, none⟩ = some (.int .i64 x0) ∧ V.cell? ⟨B, 1, none⟩ = some (.string x1) ∧ V.cell? ⟨B, 2, none⟩ = some (.string x2) ∧ V.cell? ⟨B, 3, none⟩ = some (.int .i64 x3)) := fun W V hB hlt hlt2 hh => by
              have C : ∀ o, V.cell? ⟨b, o, none⟩ = W.cell? ⟨b, o, none⟩ := fun o => hB.cell (p := ⟨b, o, none⟩) hlt
              have C2 : ∀ o, V.cell? ⟨B, o, none⟩ = W.cell? ⟨B, o, none⟩ := fun o => hB.cell (p := ⟨B, o, none⟩) hlt2
              simp only [C, C2]
              exact hh
            have j0 : (0 : Int) ≤ k := by omega
            have j1 : (k : Int) < l.length := by omega
            clear HX HL HSz HWb HWx HB0 hc
            go_wp2_with fail
            go_region_held3 (fun u => (u.cell? ⟨b, off + k * 4, none⟩ = some (.int .i64 y0) ∧ u.cell? ⟨b, off + k * 4 + 1, none⟩ = some (.string y1) ∧ u.cell? ⟨b, off + k * 4 + 2, none⟩ = some (.string y2) ∧ u.cell? ⟨b, off + k * 4 + 3, none⟩ = some (.int .i64 y3)) ∧ u.cell? ⟨B, 0, none⟩ = some (.int .i64 x0) ∧ u.cell? ⟨B, 1, none⟩ = some (.string x1) ∧ u.cell? ⟨B, 2, none⟩ = some (.string x2) ∧ u.cell? ⟨B, 3, none⟩ = some (.int .i64 x3)) (go_keep) (first | (go_at_call 16; refine (HCm.out _).mono ?_; rintro e w' ⟨rfl, hb'⟩; obtain ⟨⟨p0, p1, p2, p3⟩, p4, p5, p6, p7⟩ := HK.out _ _ hb' (by simpa using hbW) (by simpa using hBW) (by simpa using ⟨⟨d0, d1, d2, d3⟩, f0, f1, f2, f3⟩)))
            all_goals
              go_wp2
              go_meet
              case rel => exact ⟨by rw [HER.out], (Below.refl _ _).drew.trans hb'⟩
          · have j1 : ¬ (k : Int) < l.length := by omega
            have HER : Hid (decide (k < l.length ∧ ¬ cmpB ⟨x0, x1, x2, x3⟩ (l.getD k bl0) < 0) = false) := by
              unfold Hid
              simp [hlt]
            go_wp2_with fail
            go_quiet (fail)
            rename Nat => nk
            have HZ : Hid (Below wo.heap.size wo (wo.drewN nk)) := en_drewN (Below.refl _ _) nk
            go_wp2
            go_meet
            case rel => exact ⟨by rw [HER.out], HZ⟩
        case rest =>
          obtain ⟨rfl, HBc⟩ := hcut
          have HCx : Hid (Below W1.heap.size W1 wc) := HWx.out.trans (HBc.out.mono HWx.out.size)
          have HWc : Hid (Below w.heap.size w wc) := HWb.out.trans (HBc.out.mono HWb.out.size)
          have HOc : Hid (BlRow wc B vo l) := HO.out.below HBc.out
          obtain ⟨f0, f1, f2, f3⟩ := HX.out wc HCx.out
          clear HBc HWx HWb HO
          by_cases c2 : k < l.length ∧ ¬ cmpB ⟨x0, x1, x2, x3⟩ (l.getD k bl0) < 0
          · rw [decide_eq_true c2]
            have hlt := c2.1
            have hst := putAt_stop l ⟨x0, x1, x2, x3⟩ (by rw [← HKA.out]; exact hlt)
            rw [← HKA.out] at hst
            have hke : (l.getD k bl0).key = (⟨x0, x1, x2, x3⟩ : Bl).key := by
              false_or_by_contra
              rename_i hne
              exact c2.2 (cmpB_total hst hne)
            have hov := Hov.out _ (bls_mem l k hlt) hke
            have HPut : Hid (putB l ⟨x0, x1, x2, x3⟩ = l.set k ((l.getD k bl0).plus ⟨x0, x1, x2, x3⟩)) := by
              unfold Hid
              rw [putB_eq, ← HKA.out, if_pos c2, List.set_eq_take_append_cons_drop, if_pos hlt]
            obtain ⟨g, vc, rfl⟩ : ∃ g vc, vo = .slice (some ⟨g, 0, none⟩) l.length vc := by
              rcases HOc.out.2 with ⟨_, h0⟩ | ⟨g, cp, cur, rfl, _⟩
              · omega
              · exact ⟨g, cp, rfl⟩
            have hy : BlAt wc g (k * 4) (l.getD k bl0) := by
              obtain ⟨a', cq', hv, hsl'⟩ := HOc.out.isBl
              cases hv
              rcases hsl'.lies with h | ⟨b', off', e, _, hc'⟩
              · rw [h] at hlt; simp at hlt
              · cases e
                have := hc' k hlt
                rwa [Nat.zero_add] at this
            have hgb := HOc.out.own g rfl
            obtain ⟨R3, hfz⟩ := BlRow.setAmt HOc.out k hlt ((l.getD k bl0).amt + x3)
            have HR3 : Hid (BlRow (wc.setCell ⟨g, k * 4 + 3, none⟩ (.int .i64 ((l.getD k bl0).amt + x3))).drew w.heap.size (.slice (some ⟨g, 0, none⟩) l.length vc) (putB l ⟨x0, x1, x2, x3⟩) ∧ Below w.heap.size w (wc.setCell ⟨g, k * 4 + 3, none⟩ (.int .i64 ((l.getD k bl0).amt + x3))).drew) := by
              refine ⟨?_, (HWc.out.setCell (p := ⟨g, k * 4 + 3, none⟩) (by rw [HBn.out]; exact hgb) _).drew⟩
              rw [HPut.out, HBn.out]
              exact R3
            obtain ⟨y, hyy⟩ : ∃ y, l.getD k bl0 = y := ⟨_, rfl⟩
            rw [hyy] at hy HR3 hov
            obtain ⟨y0, y1, y2, y3⟩ := y
            obtain ⟨d0, d1, d2, d3⟩ := hy
            simp only at d0 d1 d2 d3 HR3 hov
            have hwrap : IntKind.i64.wrap (y3 + x3) = y3 + x3 := by
              obtain ⟨o1, o2⟩ := hov
              rw [IntKind.wrap_i64]; omega
            have j0 : (0 : Int) ≤ k := by omega
            have j1 : (k : Int) < l.length := by omega
            clear R3 hyy hov hke hst HKA Hov HOc c2 HPut
            go_wp2
            go_region
            all_goals
              go_wp2
              go_ret
              exact ⟨_, rfl, HR3⟩
          · rw [decide_eq_false c2]
            have HPut : Hid (putB l ⟨x0, x1, x2, x3⟩ = l.take k ++ ⟨x0, x1, x2, x3⟩ :: l.drop k) := by
              unfold Hid
              rw [putB_eq, ← HKA.out, if_neg c2]
            have s1 : ∀ U, (Instr.slice 24 (.slice a l.length cap) none (some (.int .i64 (k : Int))) none).run Tryz.prog U = .ok (.slice (blA a cap 0) k cap) U := fun U => run_blH a l.length cap k (by omega) U
            have s2 : ∀ U, (Instr.slice 24 (.slice a l.length cap) (some (.int .i64 (k : Int))) none none).run Tryz.prog U = .ok (.slice (blA a cap k) (l.length - k) (cap - k)) U := fun U => run_blL a l.length cap k hk U
            have HIL : Hid (IsBl wc a l cap) := HL.out.below HWc.out
            have HIT : Hid (IsBl wc (blA a cap 0) (l.take k) cap) := HIL.out.take k hk
            have Hlt : Hid ((l.take k).length = k) := by unfold Hid; rw [List.length_take]; omega
            have Hld : Hid ((l.drop k).length = l.length - k) := by unfold Hid; rw [List.length_drop]
            have HNil : Hid (BlRow wc B (.slice none 0 0) []) := BlRow.nil _ _
            have Hsz : Hid (B ≤ wc.heap.size) := by have := HWc.out.size; rw [HBn.out] at this; exact this
            have Hle : Hid (([] : List Bl).length + (l.take k).length ≤ 1000) := by have := Hlt.out; unfold Hid; simp only [List.length_nil]; omega
            clear c2 HOc HKA Hov
            go_wp2_with (at_builtin; refine wpList_appBl rfl _ _ rfl B _ [] rfl HNil.out _ k cap (l.take k) rfl Hlt.out HIT.out Hle.out Hsz.out ?_)
            intro v1 w1 h1 g1
            have HO1 : Hid (BlRow w1 B v1 (l.take k)) := h1
            have HW1b : Hid (Below wc.heap.size wc w1) := (Below.refl _ _).grown g1 (Nat.le_refl _) (fun g e => by cases e)
            obtain ⟨f0, f1, f2, f3⟩ := HX.out w1 (HCx.out.trans (HW1b.out.mono HCx.out.size))
            obtain ⟨Z, hZ⟩ : ∃ Z, w1.alloc (.cells #[.int .i64 x0, .string x1, .string x2, .int .i64 x3] 36) = Z := ⟨_, rfl⟩
            have hbZ : Below w1.heap.size w1 Z := by rw [← hZ]; exact (Below.refl _ _).alloc (Nat.le_refl _) _
            have HSrc : Hid (IsBl Z (some ⟨w1.heap.size, 0, none⟩) [⟨x0, x1, x2, x3⟩] 1) := by
              refine ⟨Nat.le_refl _, .inr ⟨_, _, rfl, by rw [← hZ]; simp, fun j hj => ?_⟩⟩
              have : j = 0 := by simpa using hj
              subst this
              rw [← hZ]
              exact BlAt.new w1 ⟨x0, x1, x2, x3⟩ 36
            have HO1Z : Hid (BlRow Z B v1 (l.take k)) := HO1.out.below hbZ
            have HWZ : Hid (Below wc.heap.size wc Z) := HW1b.out.trans (hbZ.mono HW1b.out.size)
            have HszZ : Hid (B ≤ Z.heap.size) := Nat.le_trans Hsz.out HWZ.out.size
            have HZ : Hid (w1.alloc (.cells #[.int .i64 x0, .string x1, .string x2, .int .i64 x3] 36) = Z) := hZ
            have Hle2 : Hid ((l.take k).length + [(⟨x0, x1, x2, x3⟩ : Bl)].length ≤ 1000) := by have := Hlt.out; unfold Hid; simp only [List.length_cons, List.length_nil]; omega
            clear hbZ hZ h1 g1 HIT HO1 HW1b
            go_wp2_with (at_builtin; rw [HZ.out]; refine wpList_appBl rfl _ _ rfl B _ _ rfl HO1Z.out _ 1 1 _ rfl rfl HSrc.out Hle2.out HszZ.out ?_)
            intro v2 w2 h2 g2
            have HO2 : Hid (BlRow w2 B v2 (l.take k ++ [⟨x0, x1, x2, x3⟩])) := h2
            have HWcB : Hid (Below w.heap.size w Z) := HWc.out.trans (HWZ.out.mono HWc.out.size)
            have HW2 : Hid (Below w.heap.size w w2) := HWcB.out.grown g2 HWcB.out.size (fun g e => by rw [HBn.out]; exact HO1Z.out.own g e)
            have HID : Hid (IsBl w2 (blA a cap k) (l.drop k) (cap - k)) := (HL.out.below HW2.out).drop k hk
            have Hsz2 : Hid (B ≤ w2.heap.size) := by have := HW2.out.size; rw [HBn.out] at this; exact this
            have Hle3 : Hid ((l.take k ++ [(⟨x0, x1, x2, x3⟩ : Bl)]).length + (l.drop k).length ≤ 1000) := by
              have h1 := Hlt.out
              have h2 := Hld.out
              unfold Hid
              simp only [List.length_append, List.length_cons, List.length_nil]
              omega
            clear h2 g2 HSrc HO1Z HZ HWZ
            go_wp2_with (at_builtin; refine wpList_appBl rfl _ _ rfl B _ _ rfl HO2.out _ _ _ (l.drop k) rfl Hld.out HID.out Hle3.out Hsz2.out ?_)
            intro v3 w3 h3 g3
            have HE : Hid (BlRow w3 w.heap.size v3 (putB l ⟨x0, x1, x2, x3⟩) ∧ Below w.heap.size w w3) := by
              refine ⟨?_, HW2.out.grown g3 HW2.out.size (fun g e => by rw [HBn.out]; exact HO2.out.own g e)⟩
              rw [HPut.out, HBn.out]
              simpa using h3
            clear h3 g3
            go_wp2
            go_ret
            exact ⟨_, rfl, HE⟩
end Go.Proofs.YtjajmlioohehdaaGreatDoor

namespace Go.Proofs.YtjajmlioohehdaaGreatDoor
set_option linter.unusedVariables false
set_option linter.unusedSimpArgs false
set_option maxRecDepth 100000
open Go.RowKit Go.Lib Go.Sort
def blEnc (x : Bl) : List Value := x.cells.toList
theorem bl_swo : SWO (ltOf cmpB) where
  irrefl x := decide_eq_false (cmpB_irr x)
  trans x y z h1 h2 := decide_eq_true (cmpB_trans (of_decide_eq_true h1) (of_decide_eq_true h2))
  ntrans x y z h1 h2 := by
    refine decide_eq_false (fun h => ?_)
    have h1' := of_decide_eq_false h1
    have h2' := of_decide_eq_false h2
    by_cases e1 : x.key = y.key
    · refine h2' ?_
      rw [cmpB_lt] at h ⊢
      unfold Bl.key at e1
      rw [Prod.mk.injEq, Prod.mk.injEq] at e1
      rw [← e1.1, ← e1.2.1, ← e1.2.2]
      exact h
    · have h3 := cmpB_total h1' e1
      by_cases e2 : y.key = z.key
      · refine h1' ?_
        rw [cmpB_lt] at h ⊢
        unfold Bl.key at e2
        rw [Prod.mk.injEq, Prod.mk.injEq] at e2
        rw [e2.1, e2.2.1, e2.2.2]
        exact h
      · have h4 := cmpB_total h2' e2
        exact cmpB_irr x (cmpB_trans h (cmpB_trans h4 h3))
theorem bl_holds {W : World} {n g cap : Nat} {L : List Bl} (h : BlRow W n (.slice (some ⟨g, 0, none⟩) L.length cap) L) (hi : Inhabited Bl) : HoldsK blEnc 4 W g 0 L.toArray := by
  rcases h.2 with ⟨e, _⟩ | ⟨g1, c1, cur, e, hb1, hh, hc, hm, hs, ht⟩
  · cases e
  · cases e
    intro t htt
    rw [size_flatK, List.size_toArray] at htt
    rw [get_flatK _ _ _ t (by simpa using htt)]
    have hk : t / 4 < L.length := by omega
    have hb := blRow_get L (t / 4) (t % 4) hk (by omega)
    have e1 : t / 4 * 4 + t % 4 = t := by omega
    rw [e1] at hb
    have e2 : (blRow L)[t]? = cur[t]? := by
      rw [← ht, List.getElem?_take, if_pos (by omega)]
      simp
    have e3 : L.toArray[t / 4]! = L.getD (t / 4) bl0 := by
      rw [List.getD_eq_getElem?_getD, List.getElem?_eq_getElem hk, getElem!_pos L.toArray (t / 4) (by simpa using hk)]
      simp
    refine ⟨?_, by simp [World.frozen?, hh]⟩
    rw [e3]
    simp only [World.cell?, hh, Nat.zero_add]
    rw [← e2, hb]
    unfold blEnc
    have hl : t % 4 < (L.getD (t / 4) bl0).cells.toList.length := by rw [Bl.cells_length]; omega
    rw [List.getElem?_eq_getElem hl, getElem!_pos (L.getD (t / 4) bl0).cells.toList (t % 4) hl]
    rfl
/-- What a sort leaves. -/
theorem bl_sorted {W : World} {n g cap : Nat} {L : List Bl} (h : BlRow W n (.slice (some ⟨g, 0, none⟩) L.length cap) L) (hi : Inhabited Bl) (d : Array Bl) (hd : d.size = L.length) (m : Nat) (os : Array Obj) :
    BlRow (sortWorldK blEnc 4 W g 0 m d os) n (.slice (some ⟨g, 0, none⟩) d.toList.length cap) d.toList ∧ W.grownBy (sortWorldK blEnc 4 W g 0 m d os) (some g) := by
  rcases h.2 with ⟨e, _⟩ | ⟨g1, c1, cur, e, hb1, hh, hc, hm, hs, ht⟩
  · cases e
  · cases e
    have hlt : g < W.heap.size := (Array.getElem?_eq_some_iff.1 hh).1
    have hg : (sortWorldK blEnc 4 W g 0 m d os).heap[g]? = some (.cells (putCells id 0 (flatK blEnc 4 d) cur) 36 (0, 0)) := by
      unfold sortWorldK putRowK putRow mapBlock
      rw [heap_grow_old _ _ (by simpa [ahead] using hlt)]
      show (W.heap.modify g _)[g]? = _
      rw [Array.getElem?_modify, if_pos rfl, hh]
      rfl
    refine ⟨⟨blRow_length _, .inr ⟨g, cap, _, rfl, hb1, hg, by simp [hd, hc], hm, by simp [putCells, hs], ?_⟩⟩, rfl, rfl, rfl, ?_, fun b hb hne => ?_⟩
    · apply List.ext_getElem?
      intro t
      rw [List.getElem?_take]
      by_cases htt : t < d.toList.length * 4
      · rw [if_pos htt]
        have hk : t / 4 < d.toList.length := by omega
        have hb := blRow_get d.toList (t / 4) (t % 4) hk (by omega)
        have e1 : t / 4 * 4 + t % 4 = t := by omega
        rw [e1] at hb
        rw [hb]
        have hts : t < cur.size := by rw [hs]; simp [hd] at htt; omega
        have hF : t < (flatK blEnc 4 d).size := by simpa using htt
        have e3 : d[t / 4]! = d.toList.getD (t / 4) bl0 := by
          rw [List.getD_eq_getElem?_getD, List.getElem?_eq_getElem hk, getElem!_pos d (t / 4) (by simpa using hk)]
          simp
        have hl : t % 4 < (d.toList.getD (t / 4) bl0).cells.toList.length := by rw [Bl.cells_length]; omega
        rw [Array.getElem?_toList]
        unfold putCells
        rw [Array.getElem?_mapIdx, Array.getElem?_eq_getElem hts]
        simp only [Option.map_some, Nat.zero_le, true_and, Nat.zero_add, hF, if_true, Nat.sub_zero, id]
        rw [get_flatK _ _ _ t (by simpa using htt), e3, List.getElem?_eq_getElem hl]
        unfold blEnc
        rw [getElem!_pos (d.toList.getD (t / 4) bl0).cells.toList (t % 4) hl]
      · rw [if_neg htt, List.getElem?_eq_none (by rw [blRow_length]; omega)]
    · unfold sortWorldK putRowK putRow mapBlock
      simp [ahead]
    · unfold sortWorldK putRowK putRow mapBlock
      rw [heap_grow_old _ _ (by simpa [ahead] using hb)]
      have : g ≠ b := fun e => hne (by rw [e])
      simp [ahead, Array.getElem?_modify, this]
theorem cmp_lays (hi : Inhabited Bl) (blk off size : Nat) (w : World) : CmpLays Tryz.prog 24 #[] blEnc 4 cmpB blk off size w :=
  fun m os dk _ x y => ldCompareB_at x y _
/-- A row of balances is sorted. -/
theorem sort_any (W : World) (n : Nat) (v : Value) (L : List Bl) (h : BlRow W n v L) (hl : L.length ≤ 1000000) (hnd : (L.map Bl.key).Nodup) :
    Calls Tryz.prog 33 #[v, .func (.func 24) #[] #[]] W fun e w' => e = .returned (.tuple #[]) ∧ ∃ R, R.Perm L ∧ Rises R ∧ BlRow w' n v R ∧ W.grownBy w' v.ownBlock := by
  have hi : Inhabited Bl := ⟨bl0⟩
  by_cases h0 : L = []
  · subst h0
    obtain ⟨a, cap, rfl, _⟩ := h.isBl
    refine (AnyF.slices_SortFunc_none { sortLays with } a cap _ W).mono ?_
    rintro e w' ⟨rfl, rfl⟩
    exact ⟨rfl, [], .nil, .nil, h, rfl, rfl, rfl, Nat.le_refl _, fun _ _ _ => rfl⟩
  · obtain ⟨g, cap, rfl, hlt⟩ : ∃ g cap, v = .slice (some ⟨g, 0, none⟩) L.length cap ∧ g < W.heap.size := by
      rcases h.2 with ⟨e, hn⟩ | ⟨g1, c1, cur, e, hb1, hh, _⟩
      · exact absurd (List.eq_nil_of_length_eq_zero hn) h0
      · exact ⟨g1, c1, e, (Array.getElem?_eq_some_iff.1 hh).1⟩
    have eg : ∀ args w, (callFunc 24 args).run Tryz.prog w = .ok (.enter 24 args) w := fun args w => en_enters Tryz.func24 (by kernel_rfl) ⟨_, rfl⟩ args w
    have hcon := AnyQ.slices_SortFunc sortLays 4 Tryz.isAgg36 Tryz.sizeOf36 blEnc (fun _ => rfl) (fun x v hv => by simp [blEnc, Bl.cells] at hv; rcases hv with rfl | rfl | rfl | rfl <;> rfl) cmpB bl_swo 24 #[] g 0 cap L.toArray W eg (cmp_lays hi g 0 _ W) (bl_holds h hi) hlt (by simp; omega)
    refine Calls.mono hcon ?_
    rintro e w' ⟨rfl, d, m, os, hp, hs, rfl⟩
    obtain ⟨p1, _, p3⟩ := hp
    have hsz : d.size = L.length := by rw [p1]; simp
    have hpm : d.toList.Perm L := by
      simp only [List.size_toArray] at p3
      have e1 : (d.extract 0 L.length).toList = d.toList := by
        rw [← hsz]; simp
      have e2 : (L.toArray.extract 0 L.length).toList = L := by simp
      rw [e1, e2] at p3
      exact p3
    obtain ⟨b1, b2⟩ := bl_sorted h hi d hsz m os
    refine ⟨rfl, d.toList, hpm, ?_, ?_, b2⟩
    · have hnd' : (d.toList.map Bl.key).Nodup := ((hpm.map Bl.key).nodup_iff).2 hnd
      refine List.pairwise_iff_getElem.2 (fun i j hi' hj' hij => ?_)
      have h1 := hs i j (Nat.zero_le _) hij (by simp at hj'; simp; omega)
      have hi2 : i < d.size := by simpa using hi'
      have hj2 : j < d.size := by simpa using hj'
      rw [getElem!_pos d i hi2, getElem!_pos d j hj2] at h1
      have h2 : ¬ cmpB d[j] d[i] < 0 := of_decide_eq_false h1
      have h3 : d[j].key ≠ d[i].key := fun e => by
        have := (List.pairwise_iff_getElem.1 hnd') i j (by simpa using hi2) (by simpa using hj2) hij
        simp at this
        exact this e.symm
      have := cmpB_total h2 h3
      simpa using this
    · have e : d.toList.length = L.length := by simpa using hsz
      rw [e] at b1
      exact b1

/-- A step of a range over the map. -/
theorem parts_next {W : World} {n mb r : Nat} {ps : List Pt} {vs : Nat → Value} (h : PMp W n mb ps vs) {sn : List Nat} (hr : W.heap[r]? = some (.mapIter (some mb) ps.length sn.toArray ps.length)) (ty : TypeId) :
    ((∀ i, i < ps.length → i ∈ sn) ∧ (Instr.next (.pointer (some ⟨r, 0, none⟩)) false ty).run Tryz.prog W = .ok (.tuple #[.bool false]) W) ∨
    ∃ i, ∃ hi : i < ps.length, i ∉ sn ∧ ∃ W', (Instr.next (.pointer (some ⟨r, 0, none⟩)) false ty).run Tryz.prog W = .ok (.tuple #[.bool true, plV (ps[i]).key, vs i]) W' ∧ W'.heap[r]? = some (.mapIter (some mb) ps.length (sn ++ [i]).toArray ps.length) ∧ W.grownBy W' (some r) ∧ W'.heap.size = W.heap.size ∧
      (Instr.entry (.pointer (some ⟨r, 0, none⟩))).run Tryz.prog W' = .ok (.tuple #[plV (ps[i]).key, vs i]) W' := by
  have hold : ∀ x ∈ (ents ps vs).toArray.toList, x.born < ps.length := fun x hx => by
    obtain ⟨i, hi, rfl⟩ := ents_mem (by simpa using hx)
    exact hi
  have hne : r ≠ mb := fun e => by rw [e, h.map] at hr; cases hr
  have hlt : r < W.heap.size := (Array.getElem?_eq_some_iff.1 hr).1
  rcases run_next_at (P := Tryz.prog) W ty r mb ps.length ps.length sn.toArray (ents ps vs).toArray ps.length hr h.map hold (Nat.le_refl _) with ⟨h0, hrun⟩ | ⟨e, he, w1, hal, hrun⟩
  · refine .inl ⟨fun i hi => ?_, hrun⟩
    have h1 := all_seen _ _ h0 ⟨plV (ps[i]).key, vs i, i⟩ (by simpa using List.mem_of_getElem? (ents_get ps vs i hi))
    simpa using h1
  · obtain ⟨hem, hes⟩ := mem_left he
    obtain ⟨i, hi, rfl⟩ := ents_mem (by simpa using hem)
    have hns : i ∉ sn := by simpa using hes
    have hr1 : w1.heap[r]? = some (.mapIter (some mb) ps.length sn.toArray ps.length) := by rcases hal with rfl | rfl <;> exact hr
    have hb1 : w1.heap[mb]? = some (.map (ents ps vs).toArray ps.length) := by rcases hal with rfl | rfl <;> exact h.map
    have hlt1 : r < w1.heap.size := (Array.getElem?_eq_some_iff.1 hr1).1
    have hset := setBlock_at hlt1 (.mapIter (some mb) ps.length (sn.toArray.push i) ps.length)
    have hb' : (ChangeMaps.setBlock w1 r (.mapIter (some mb) ps.length (sn.toArray.push i) ps.length)).heap[mb]? = some (.map (ents ps vs).toArray ps.length) := (setBlock_ne hne _).trans hb1
    refine .inr ⟨i, hi, hns, _, hrun, by rw [hset]; simp, ?_, ?_, run_entry_at _ r mb ps.length sn.toArray (ents ps vs).toArray ps.length ⟨plV (ps[i]).key, vs i, i⟩ hset hb' hem (by simp only [ents_born]; exact List.nodup_range)⟩
    · rcases hal with rfl | rfl <;> exact ⟨rfl, rfl, rfl, by simp [ChangeMaps.setBlock], fun b _ hb => setBlock_ne (fun e1 => hb (by rw [e1])) _⟩
    · rcases hal with rfl | rfl <;> simp [ChangeMaps.setBlock]
end Go.Proofs.YtjajmlioohehdaaGreatDoor
