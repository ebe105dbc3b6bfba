/-
  The contract of slices.Insert of one line into lines that are one's own.
-/
import Derived.Test.YtffekgndlhleiaaDoorEn5
import Derived.Laws.CopyRow
import Derived.Laws.Tables
import Derived.Laws.Externs
import Derived.Lib.Overlaps
import Derived.Lib.AppendZerosOnto
import Derived.Lib.SliceRun
import Derived.Deep.RegionLaw
namespace Go.Proofs.YtffekgndlhleiaaDoor
set_option linter.unusedVariables false
set_option linter.unusedSimpArgs false
set_option maxRecDepth 100000
open Go.RowKit Go.Lib

/-- copy of lines into a row that is known whole. -/
theorem run_copy3 {P : Program} (w : World) (dT sT ty elem : TypeId) (g o dLen dCap : Nat) (a : Addr) (sLen sCap : Nat) (cur : Array Value) (t : TypeId) (cs : List Value)
    (hu : P.underlying dT = some (.slice elem)) (hs : (P.info? elem).map (·.size) = some 3)
    (hg : w.heap[g]? = some (.cells cur t (0, 0))) (hn : Nat.min sLen dLen * 3 = cs.length)
    (hsrc : ∀ j v, cs[j]? = some v → w.cell? (a.add j) = some v) (hfit : o + cs.length ≤ cur.size) (h1 : ∀ v ∈ cs, v.oneCell' = true) :
    (Builtin.copy_ #[dT, sT] ty #[.slice (some ⟨g, o, none⟩) dLen dCap, .slice (some a) sLen sCap]).run P w =
      .ok (goInt (Nat.min sLen dLen)) (w.setRow g (cur.toList.take o ++ cs ++ cur.toList.drop (o + cs.length)).toArray) := by
  have hl := run_loadCells_list (P := P) w a cs hsrc
  have hst := run_storeCells_at P g o t cs 0 cur w hg (by simpa using hfit) h1
  cases hq : P.info? elem with
  | none => simp [hq] at hs
  | some i =>
    have hi : i.size = 3 := by simpa [hq] using hs
    have hm : Nat.min sLen dLen * i.size = cs.length := by rw [hi]; exact hn
    simp only [hi] at hm
    simp [Builtin.copy_, run_underlying hu, Builtin.lenOf, Builtin.firstCells, sizeOf, typeInfo, hq, hi, hm, hl, hst]

theorem wpList_copy_at {P : Program} (w : World) {ops : Array Oper} {rest : List Oper} {o : Oper} {a : Act} {Q : Exit → Act → World → Prop} (hgd : o.guard = none) (d s : Operand) (t t' : TypeId)
    (ho : o.op = .call { callee := .builtin .copy, args := #[d, s], argTypes := #[t, t'] }) (v u : Value) (hd : a.eval d = v) (hs : a.eval s = u) {v' : Value} {w' : World}
    (hr : (Builtin.copy_ #[t, t'] o.type #[v, u]).run P w = .ok v' w') (h : wpList P ops Q rest (a.put o.dst v') w') : wpList P ops Q (o :: rest) a w :=
  wpList_plain hgd fun _ hK => by
    unfold Oper.wp execOp
    simp only [ho, resolve, invoke, builtin, Sem.run_bind, Sem.run_pure, Result.andThen_ok, List.map_toArray, List.map_cons, List.map_nil, hd, hs, hr]
    exact hK _ _ h

theorem step_copy_at {P : Program} {ops : Array Oper} {o : Oper} {a : Act} {w : World} {K : Act → World → Prop} {Q : Exit → Act → World → Prop} {E : Prop}
    (hg : o.guard = none) (d x : Operand) (dT sT : TypeId) (hop : o.op = Op.call { callee := Callee.builtin Builtin.copy, args := #[d, x], argTypes := #[dT, sT] })
    (v u : Value) (hd : a.eval d = v) (hx : a.eval x = u) {v' : Value} {w' : World} (hr : (Builtin.copy_ #[dT, sT] o.type #[v, u]).run P w = .ok v' w') (hK : K (a.put o.dst v') w') :
    if Region.wanted o (yielded ops a.tmps) = true then Oper.wp P o a w K Q else E := by
  have hw : Region.wanted o (yielded ops a.tmps) = true := by simp [Region.wanted, hg]
  rw [if_pos hw]
  unfold Oper.wp
  simp [execOp, hop, resolve, invoke, builtin, hd, hx, hr, Result.andThen]
  exact hK

theorem ln_size3 : (Tryd.prog.info? 55).map (·.size) = some 3 := by
  obtain ⟨i0, hi, hz0, hz1, hz2⟩ := info_parts ln_info
  rw [hi]; simp [hz1]
theorem ln_sizeOf (w : World) : (Go.sizeOf 55).run Tryd.prog w = .ok 3 w := by
  obtain ⟨i0, hi, hz0, hz1, hz2⟩ := info_parts ln_info
  simp [Go.sizeOf, typeInfo, hi, hz1]

set_option maxHeartbeats 2000000 in
theorem insert_shift (g cap i vb : Nat) (cur : Array Value) (l : List Ln) (x : Ln) (W : World) (hg : W.heap[g]? = some (.cells cur 55 (0, 0))) (hcap : l.length + 1 ≤ cap) (hm : cap ≤ maxLen) (hcs : cur.size = cap * 3) (ht : cur.toList.take (l.length * 3) = lnRow l) (hi : i < l.length) (hlen : l.length ≤ 1000)
    (hv : W.heap[vb]? = some (.cells x.cells 55 (0, 0))) (hne : vb ≠ g) :
    Calls Tryd.prog 56 #[.slice (some ⟨g, 0, none⟩) l.length cap, .int .i64 i, .slice (some ⟨vb, 0, none⟩) 1 1] W fun e w' =>
      e = .returned (.slice (some ⟨g, 0, none⟩) (l.length + 1) cap) ∧ LnRow w' g (.slice (some ⟨g, 0, none⟩) (l.length + 1) cap) (l.take i ++ x :: l.drop i) ∧ W.grownBy w' (some g) := by
  obtain ⟨n, hn⟩ : ∃ n, l.length = n := ⟨_, rfl⟩
  have hn1 : (n : Int) ≤ 1000 := by omega
  have hz2 : ¬ ((i : Int) = (n : Int)) := by omega
  have hlc : cur.toList.length = cap * 3 := by simpa using hcs
  have hov : ∀ lb cb, (callFunc 64 #[.slice (some ⟨vb, 0, none⟩) 1 1, .slice (some ⟨g, (i + 1) * 3, none⟩) lb cb]).run Tryd.prog W = .ok (.value (.bool false)) W := fun lb cb => by
    rw [run_callFunc_extern Tryd.func64 (by kernel_rfl) (by kernel_rfl) (by kernel_rfl) (e := Extern.SlicesOverlaps.overlaps #[31, 31] #[4]) (by kernel_rfl),
      Lib.run_overlaps_apart W 31 4 55 Tryd.underlying31 3 ln_sizeOf ⟨vb, 0, none⟩ ⟨g, (i + 1) * 3, none⟩ 1 1 lb cb hne 55 55 3 (cap * 3) (by simp [World.shape?, hv, Ln.cells]) (by simp [World.shape?, hg, hcs]) (by omega) (by simp [World.frozen?, hv]) (by simp [World.frozen?, hv])]
    rfl
  have hd : (lnRow (l.drop i)).length = (n - i) * 3 := by rw [lnRow_length, List.length_drop, hn]
  obtain ⟨A1, hA1⟩ : ∃ A1 : Array Value, A1 = (cur.toList.take ((i + 1) * 3) ++ lnRow (l.drop i) ++ cur.toList.drop ((i + 1) * 3 + (lnRow (l.drop i)).length)).toArray := ⟨_, rfl⟩
  have hA1s : A1.size = cap * 3 := by
    rw [hA1]
    simp only [List.size_toArray, List.length_append, List.length_take, List.length_drop, hd, hlc]
    omega
  have hcp1 : ∀ ty dc sc, (Builtin.copy_ #[31, 31] ty #[.slice (some ⟨g, (i + 1) * 3, none⟩) (n - i) dc, .slice (some ⟨g, i * 3, none⟩) (n + 1 - i) sc]).run Tryd.prog W.drew = .ok (goInt ((n - i : Nat) : Int)) (W.drew.setRow g A1) := fun ty dc sc => by
    have hmin : Nat.min (n + 1 - i) (n - i) = n - i := by simp only [Nat.min_def]; split <;> omega
    have := run_copy3 (P := Tryd.prog) W.drew 31 31 ty 55 g ((i + 1) * 3) (n - i) dc ⟨g, i * 3, none⟩ (n + 1 - i) sc cur 55 (lnRow (l.drop i)) Tryd.underlying31 ln_size3 hg (by rw [hmin, hd])
      (fun j v hj => by
        rw [Addr.add_lit]
        have hjl : j < (n - i) * 3 := by
          rw [← hd]
          exact (List.getElem?_eq_some_iff.1 hj).1
        have e1 : (lnRow (l.drop i))[j]? = cur[i * 3 + j]? := by
          rw [lnRow_drop, List.getElem?_drop, ← ht, List.getElem?_take, if_pos (by omega)]
          simp
        rw [e1] at hj
        show W.cell? _ = _
        simp only [World.cell?, hg]
        exact hj) (by rw [hd]; omega) (lnRow_one_cell _)
    rw [hmin, ← hA1] at this
    exact this
  obtain ⟨A2, hA2⟩ : ∃ A2 : Array Value, A2 = (A1.toList.take (i * 3) ++ x.cells.toList ++ A1.toList.drop (i * 3 + 3)).toArray := ⟨_, rfl⟩
  have hcp2 : ∀ (W2 : World), (∀ k : Nat, W2.heap[k]? = (W.drew.setRow g A1).heap[k]?) → ∀ ty dc, (Builtin.copy_ #[31, 31] ty #[.slice (some ⟨g, i * 3, none⟩) (n + 1 - i) dc, .slice (some ⟨vb, 0, none⟩) 1 1]).run Tryd.prog W2 = .ok (goInt 1) (W2.setRow g A2) := fun W2 h2 ty dc => by
    have hmin : Nat.min 1 (n + 1 - i) = 1 := by simp only [Nat.min_def]; split <;> omega
    have hg2 : W2.heap[g]? = some (.cells A1 55 (0, 0)) := by rw [h2]; exact setRow_heap W.drew g cur A1 55 (0, 0) hg
    have hv2 : W2.heap[vb]? = some (.cells x.cells 55 (0, 0)) := by rw [h2, setRow_other _ _ _ _ hne]; exact hv
    have := run_copy3 (P := Tryd.prog) W2 31 31 ty 55 g (i * 3) (n + 1 - i) dc ⟨vb, 0, none⟩ 1 1 A1 55 x.cells.toList Tryd.underlying31 ln_size3 hg2 (by rw [hmin]; rfl)
      (fun j v hj => by
        rw [Addr.add_lit]
        simp [World.cell?, hv2]
        simpa using hj) (by rw [Ln.cells_length]; omega) (by
        intro v hv
        simp [Ln.cells] at hv
        rcases hv with rfl | rfl | rfl <;> rfl)
    rw [hmin, Ln.cells_length, ← hA2] at this
    exact this
  have hb1 : (0 : Int) ≤ (i : Int) + 1 := by omega
  have hin : i ≤ n := by omega
  have hb2 : ¬ (cap = i + 1) := by omega
  have hb3 : (i : Int) ≤ (n : Int) + 1 := by omega
  have hb4 : ¬ (cap = i) := by omega
  have hcm : (cap : Int) ≤ 9223372036854775807 := by unfold maxLen at hm; omega
  have hfin : ∀ W3 : World, (∀ k : Nat, W3.heap[k]? = ((W.drew.setRow g A1).setRow g A2).heap[k]?) → W3.os = W.os → W3.tape = W.tape → W3.output = W.output → LnRow W3 g (.slice (some ⟨g, 0, none⟩) (n + 1) cap) (l.take i ++ x :: l.drop i) ∧ W.grownBy W3 (some g) := by
    intro W3 h3 q1 q2 q3
    have e0 : cur.toList.take (i * 3) = lnRow (l.take i) := by
      rw [lnRow_take, ← ht, List.take_take, Nat.min_eq_left (by omega)]
    have e1 : A1.toList.take (i * 3) = lnRow (l.take i) := by
      rw [hA1, List.toList_toArray, List.append_assoc, List.take_append_of_le_length (by rw [List.length_take, hlc]; omega), List.take_take, Nat.min_eq_left (by omega), e0]
    have e2 : A1.toList.drop (i * 3 + 3) = lnRow (l.drop i) ++ cur.toList.drop ((i + 1) * 3 + (lnRow (l.drop i)).length) := by
      rw [hA1, List.toList_toArray, List.append_assoc]
      exact List.drop_left' (by rw [List.length_take, hlc]; omega)
    have hl3 : (l.take i).length = i := by rw [List.length_take]; omega
    have e3 : lnRow (l.take i ++ x :: l.drop i) = lnRow (l.take i) ++ x.cells.toList ++ lnRow (l.drop i) := by
      rw [show x :: l.drop i = [x] ++ l.drop i from rfl, lnRow_append, lnRow_append, lnRow_one, List.append_assoc]
    have e4 : A2.toList = lnRow (l.take i ++ x :: l.drop i) ++ cur.toList.drop ((i + 1) * 3 + (lnRow (l.drop i)).length) := by
      rw [hA2, List.toList_toArray, e1, e2, e3]
      simp only [List.append_assoc]
    have hll : (l.take i ++ x :: l.drop i).length = n + 1 := by
      rw [List.length_append, List.length_cons, hl3, List.length_drop]; omega
    have hA2s : A2.size = cap * 3 := by
      have : A2.toList.length = cap * 3 := by
        rw [e4, List.length_append, lnRow_length, hll, List.length_drop, hd, hlc]; omega
      simpa using this
    have hg1 : (W.drew.setRow g A1).heap[g]? = some (.cells A1 55 (0, 0)) := setRow_heap W.drew g cur A1 55 (0, 0) hg
    refine ⟨⟨by rw [lnRow_length], .inr ⟨g, cap, A2, by rw [hll], Nat.le_refl _, ?_, by rw [hll]; omega, hm, hA2s, ?_⟩⟩, ⟨q1, q2, q3, ?_, ?_⟩⟩
    · rw [h3]; exact setRow_heap _ g A1 A2 55 (0, 0) hg1
    · rw [e4]; exact List.take_left' (by rw [lnRow_length])
    · rcases Nat.lt_or_ge W3.heap.size W.heap.size with h | h
      · have h4 := h3 W3.heap.size
        rw [Array.getElem?_eq_none (Nat.le_refl _)] at h4
        have h5 := h4.symm
        rw [Array.getElem?_eq_none_iff, setRow_size, setRow_size] at h5
        have : W.drew.heap.size = W.heap.size := rfl
        omega
      · exact h
    · intro k hk hk2
      rw [h3, setRow_other _ _ _ _ (fun e => hk2 (by rw [e])), setRow_other _ _ _ _ (fun e => hk2 (by rw [e]))]
      rfl
  have hw1 : IntKind.i64.wrap ((i : Int) + 1) = (i : Int) + 1 := by rw [IntKind.wrap_i64]; omega
  have htn : ((i : Int) + 1).toNat = i + 1 := by omega
  have hle : (i : Int) + 1 ≤ (n : Int) + 1 := by omega
  have hcn : ¬ ((cap : Int) < (n : Int) + 1) := by omega
  have hcn2 : (n : Int) + 1 ≤ cap := by omega
  have HF : Hid _ := hfin
  have Hc1 : Hid _ := hcp1
  have Hc2 : Hid _ := hcp2
  rw [hn] at hcap hi hlen ⊢
  clear hfin hcp1 hcp2 hA1 hA2 hd hlc hcs ht hn hg hv hm
  go_enter Tryd.func56, Tryd.ntmps56
  go_wp2_with (simp only [hov])
  go_region_law (refine step_copy_at rfl _ _ 31 31 rfl (.slice (some ⟨g, (i + 1) * 3, none⟩) (n - i) (cap - (i + 1))) (.slice (some ⟨g, i * 3, none⟩) (n + 1 - i) (cap - i)) (by simp [Act.eval, Act.put]) (by simp [Act.eval, Act.put]) (Hc1.out 3 (cap - (i + 1)) (cap - i)) ?_)
  all_goals
    have hq2 := Hc2.out (W.drew.setRow g A1) (fun _ => rfl)
    go_wp2
    go_ret
    exact ⟨rfl, HF.out _ (fun _ => rfl) rfl rfl rfl⟩
end Go.Proofs.YtffekgndlhleiaaDoor
