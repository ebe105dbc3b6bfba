/-
  The contract of slices.Insert of one line, where there is no room, and at the end.
-/
import Derived.Test.YtffekgndlhleiaaDoorEn6
namespace Go.Proofs.YtffekgndlhleiaaDoor
set_option linter.unusedVariables false
set_option linter.unusedSimpArgs false
set_option maxRecDepth 100000
open Go.RowKit Go.Lib

theorem zero3_length (k : Nat) : (Builtin.zeroCells (Value.agg #[.string ByteArray.empty, .string ByteArray.empty, .int .i64 0]).cells k).toList.length = k * 3 := by
  simp [Builtin.zeroCells, Value.cells]

set_option maxHeartbeats 2000000 in
theorem insert_grow (g cap i vb : Nat) (cur : Array Value) (l : List Ln) (x : Ln) (W : World) (hg : W.heap[g]? = some (.cells cur 55 (0, 0))) (hcap0 : l.length ≤ cap) (hcap : cap < l.length + 1) (hcs : cur.size = cap * 3) (ht : cur.toList.take (l.length * 3) = lnRow l) (hi : i < l.length) (hlen : l.length ≤ 1000)
    (hv : W.heap[vb]? = some (.cells x.cells 55 (0, 0))) :
    Calls Tryd.prog 56 #[.slice (some ⟨g, 0, none⟩) l.length cap, .int .i64 i, .slice (some ⟨vb, 0, none⟩) 1 1] W fun e w' =>
      ∃ G, e = .returned (.slice (some ⟨W.heap.size, 0, none⟩) (l.length + 1) G) ∧ LnRow w' W.heap.size (.slice (some ⟨W.heap.size, 0, none⟩) (l.length + 1) G) (l.take i ++ x :: l.drop i) ∧ W.grownBy w' none := by
  obtain ⟨n, hn⟩ : ∃ n, l.length = n := ⟨_, rfl⟩
  obtain ⟨i0, hi0, hz0, hzs, hzb⟩ := info_parts ln_info
  have hgw : g < W.heap.size := (Array.getElem?_eq_some_iff.1 hg).1
  have hvw : vb < W.heap.size := (Array.getElem?_eq_some_iff.1 hv).1
  have hn1 : (n : Int) ≤ 1000 := by omega
  have hz2 : ¬ ((i : Int) = (n : Int)) := by omega
  have hlc : cur.toList.length = cap * 3 := by simpa using hcs
  have hkk : (n : Int) + 1 - (i : Int) = ((n + 1 - i : Nat) : Int) := by omega
  have hik : i + (n + 1 - i) = n + 1 := by omega
  have e0 : cur.toList.take (i * 3) = lnRow (l.take i) := by
    rw [lnRow_take, ← ht, List.take_take, Nat.min_eq_left (by omega)]
  have hl3 : (l.take i).length = i := by rw [List.length_take]; omega
  have hl4 : (lnRow (l.take i)).length = i * 3 := by rw [lnRow_length, hl3]
  have hold : (Builtin.firstCells i0.size i (.slice (some ⟨g, 0, none⟩) i cap)).run Tryd.prog W.drew = .ok (lnRow (l.take i)).toArray W.drew := by
    rw [hzs]
    show (loadCells ⟨g, 0, none⟩ (i * 3)).run Tryd.prog W.drew = _
    rw [← hl4]
    refine run_loadCells_list (P := Tryd.prog) W.drew ⟨g, 0, none⟩ _ (fun j v hj => ?_)
    rw [Addr.add_lit]
    have hjl : j < i * 3 := by
      rw [← hl4]
      exact (List.getElem?_eq_some_iff.1 hj).1
    have e1 : (lnRow (l.take i))[j]? = cur[0 + j]? := by
      rw [← e0, List.getElem?_take, if_pos hjl]
      simp
    rw [e1] at hj
    show W.cell? _ = _
    simp only [World.cell?, hg]
    exact hj
  have hrz : ∀ ty, (Builtin.append_ #[31, 3] ty #[.slice (some ⟨g, 0, none⟩) i cap, .int .i64 ((n : Int) + 1 - (i : Int))]).run Tryd.prog W =
      .ok (.slice (some ⟨W.heap.size, 0, none⟩) (n + 1) (grownCap W (n + 1) cap 55)) (W.drew.alloc (.cells ((lnRow (l.take i)).toArray ++ Builtin.zeroCells (Value.agg #[.string ByteArray.empty, .string ByteArray.empty, .int .i64 0]).cells (n + 1 - i) ++ Builtin.zeroCells (Value.agg #[.string ByteArray.empty, .string ByteArray.empty, .int .i64 0]).cells (grownCap W (n + 1) cap 55 - (n + 1))) 55)) := fun ty => by
    have h := Lib.run_append_grow_zeros W 31 3 ty 55 i0 _ .i64 .i64 Tryd.underlying31 Tryd.underlying3 hi0 hz0 (some ⟨g, 0, none⟩) i cap (lnRow (l.take i)) hold (n + 1 - i) (by omega) (by omega) (by omega) (by omega) (by rw [hzb]; omega) (by rw [hzb, hik]; exact growslice_fits (by omega) (by omega))
    rw [hik] at h
    rw [hkk]
    exact h
  obtain ⟨G, hG⟩ : ∃ G, G = grownCap W (n + 1) cap 55 := ⟨_, rfl⟩
  obtain ⟨ROW, hROW⟩ : ∃ ROW : Array Value, ROW = (lnRow (l.take i)).toArray ++ Builtin.zeroCells (Value.agg #[.string ByteArray.empty, .string ByteArray.empty, .int .i64 0]).cells (n + 1 - i) ++ Builtin.zeroCells (Value.agg #[.string ByteArray.empty, .string ByteArray.empty, .int .i64 0]).cells (G - (n + 1)) := ⟨_, rfl⟩
  rw [← hG, ← hROW] at hrz
  have hGn : n + 1 ≤ G := by rw [hG]; exact grownCap_ge W _ _ _
  have hGm : G ≤ maxLen := by rw [hG]; exact grownCap_le_maxLen W (n + 1) cap 55 (by unfold maxLen; omega)
  have hR : ROW.toList = lnRow (l.take i) ++ ((Builtin.zeroCells (Value.agg #[.string ByteArray.empty, .string ByteArray.empty, .int .i64 0]).cells (n + 1 - i)).toList ++ (Builtin.zeroCells (Value.agg #[.string ByteArray.empty, .string ByteArray.empty, .int .i64 0]).cells (G - (n + 1))).toList) := by
    rw [hROW]; simp
  have hRl : ROW.toList.length = G * 3 := by
    rw [hR, List.length_append, List.length_append, hl4, zero3_length, zero3_length]; omega
  have hRs : ROW.size = G * 3 := by simpa using hRl
  obtain ⟨N, hN⟩ : ∃ N, W.heap.size = N := ⟨_, rfl⟩
  have hgN : g ≠ N := by omega
  have hvN : vb ≠ N := by omega
  obtain ⟨W1, hW1⟩ : ∃ W1, W1 = (W.alloc (.cells ROW 55)).drew := ⟨_, rfl⟩
  have hg1 : W1.heap[g]? = some (.cells cur 55 (0, 0)) := by rw [hW1]; exact ((World.grownBy_alloc W _ none).block g hgw (by simp)).trans hg
  have hv1 : W1.heap[vb]? = some (.cells x.cells 55 (0, 0)) := by rw [hW1]; exact ((World.grownBy_alloc W _ none).block vb hvw (by simp)).trans hv
  have hr1 : W1.heap[N]? = some (.cells ROW 55 (0, 0)) := by rw [hW1, ← hN]; exact World.alloc_heap_new W _
  have hd : (lnRow (l.drop i)).length = (n - i) * 3 := by rw [lnRow_length, List.length_drop, hn]
  obtain ⟨B1, hB1⟩ : ∃ B1 : Array Value, B1 = (ROW.toList.take (i * 3) ++ x.cells.toList ++ ROW.toList.drop (i * 3 + 3)).toArray := ⟨_, rfl⟩
  have f0 : ROW.toList.take (i * 3) = lnRow (l.take i) := by rw [hR]; exact List.take_left' hl4
  have f1 : B1.toList = lnRow (l.take i) ++ x.cells.toList ++ ROW.toList.drop (i * 3 + 3) := by rw [hB1, List.toList_toArray, f0]
  have f1l : B1.toList.length = G * 3 := by
    rw [f1, List.length_append, List.length_append, hl4, Ln.cells_length, List.length_drop, hRl]; omega
  have f1s : B1.size = G * 3 := by simpa using f1l
  obtain ⟨B2, hB2⟩ : ∃ B2 : Array Value, B2 = (B1.toList.take ((i + 1) * 3) ++ lnRow (l.drop i) ++ B1.toList.drop ((i + 1) * 3 + (lnRow (l.drop i)).length)).toArray := ⟨_, rfl⟩
  have hcpA : ∀ ty dc, (Builtin.copy_ #[31, 31] ty #[.slice (some ⟨N, i * 3, none⟩) (n + 1 - i) dc, .slice (some ⟨vb, 0, none⟩) 1 1]).run Tryd.prog W1 = .ok (goInt 1) (W1.setRow N B1) := fun ty dc => by
    have hmin : Nat.min 1 (n + 1 - i) = 1 := by simp only [Nat.min_def]; split <;> omega
    have := run_copy3 (P := Tryd.prog) W1 31 31 ty 55 N (i * 3) (n + 1 - i) dc ⟨vb, 0, none⟩ 1 1 ROW 55 x.cells.toList Tryd.underlying31 ln_size3 hr1 (by rw [hmin]; rfl)
      (fun j v hj => by
        rw [Addr.add_lit]
        simp [World.cell?, hv1]
        simpa using hj) (by rw [Ln.cells_length]; omega) (by
        intro v hv
        simp [Ln.cells] at hv
        rcases hv with rfl | rfl | rfl <;> rfl)
    rw [hmin, Ln.cells_length, ← hB1] at this
    exact this
  have hcpB : ∀ ty dc sc, (Builtin.copy_ #[31, 31] ty #[.slice (some ⟨N, (i + 1) * 3, none⟩) (n - i) dc, .slice (some ⟨g, i * 3, none⟩) (n - i) sc]).run Tryd.prog (W1.setRow N B1).drew = .ok (goInt ((n - i : Nat) : Int)) ((W1.setRow N B1).drew.setRow N B2) := fun ty dc sc => by
    have hmin : Nat.min (n - i) (n - i) = n - i := by simp only [Nat.min_def]; split <;> omega
    have hg2 : (W1.setRow N B1).drew.heap[g]? = some (.cells cur 55 (0, 0)) := (setRow_other _ _ _ _ hgN).trans hg1
    have := run_copy3 (P := Tryd.prog) (W1.setRow N B1).drew 31 31 ty 55 N ((i + 1) * 3) (n - i) dc ⟨g, i * 3, none⟩ (n - i) sc B1 55 (lnRow (l.drop i)) Tryd.underlying31 ln_size3 (setRow_heap W1 N ROW B1 55 (0, 0) hr1) (by rw [hmin, hd])
      (fun j v hj => by
        rw [Addr.add_lit]
        have hjl : j < (n - i) * 3 := by
          rw [← hd]
          exact (List.getElem?_eq_some_iff.1 hj).1
        have e1 : (lnRow (l.drop i))[j]? = cur[i * 3 + j]? := by
          rw [lnRow_drop, List.getElem?_drop, ← ht, List.getElem?_take, if_pos (by omega)]
          simp
        rw [e1] at hj
        simp only [World.cell?, hg2]
        exact hj) (by rw [hd]; omega) (lnRow_one_cell _)
    rw [hmin, ← hB2] at this
    exact this
  have hfin : ∀ W3 : World, (∀ k : Nat, W3.heap[k]? = ((W1.setRow N B1).drew.setRow N B2).heap[k]?) → W3.os = W.os → W3.tape = W.tape → W3.output = W.output → LnRow W3 N (.slice (some ⟨N, 0, none⟩) (n + 1) G) (l.take i ++ x :: l.drop i) ∧ W.grownBy W3 none := by
    intro W3 h3 q1 q2 q3
    have e2 : B1.toList.take ((i + 1) * 3) = lnRow (l.take i) ++ x.cells.toList := by
      rw [f1]
      exact List.take_left' (by rw [List.length_append, hl4, Ln.cells_length]; omega)
    have e3 : lnRow (l.take i ++ x :: l.drop i) = lnRow (l.take i) ++ x.cells.toList ++ lnRow (l.drop i) := by
      rw [show x :: l.drop i = [x] ++ l.drop i from rfl, lnRow_append, lnRow_append, lnRow_one, List.append_assoc]
    have e4 : B2.toList = lnRow (l.take i ++ x :: l.drop i) ++ B1.toList.drop ((i + 1) * 3 + (lnRow (l.drop i)).length) := by
      rw [hB2, List.toList_toArray, e2, e3]
    have hll : (l.take i ++ x :: l.drop i).length = n + 1 := by
      rw [List.length_append, List.length_cons, hl3, List.length_drop]; omega
    have hs2 : B2.size = G * 3 := by
      have : B2.toList.length = G * 3 := by
        rw [e4, List.length_append, lnRow_length, hll, List.length_drop, hd, f1l]; omega
      simpa using this
    have hsz1 : W1.heap.size = N + 1 := by rw [hW1, ← hN]; show (W.alloc _).heap.size = _; simp
    refine ⟨⟨by rw [lnRow_length], .inr ⟨N, G, B2, by rw [hll], Nat.le_refl _, ?_, by rw [hll]; omega, hGm, hs2, ?_⟩⟩, ⟨q1, q2, q3, ?_, ?_⟩⟩
    · rw [h3]; exact setRow_heap (W1.setRow N B1).drew N B1 B2 55 (0, 0) (setRow_heap W1 N ROW B1 55 (0, 0) hr1)
    · rw [e4]; exact List.take_left' (by rw [lnRow_length])
    · rcases Nat.lt_or_ge W3.heap.size W.heap.size with h | h
      · have h4 := h3 W3.heap.size
        rw [Array.getElem?_eq_none (Nat.le_refl _)] at h4
        have h5 := h4.symm
        rw [Array.getElem?_eq_none_iff, setRow_size] at h5
        have : (W1.setRow N B1).drew.heap.size = N + 1 := by show (W1.setRow N B1).heap.size = _; rw [setRow_size, hsz1]
        omega
      · exact h
    · intro k hk hk2
      rw [h3, setRow_other _ _ _ _ (by omega)]
      show (W1.setRow N B1).heap[k]? = _
      rw [setRow_other _ _ _ _ (by omega), hW1]
      exact (World.grownBy_alloc W _ none).block k hk (by simp)
  subst hW1
  have HF : Hid _ := hfin
  have Hrz : Hid _ := hrz
  have HcA : Hid _ := hcpA
  have HcB : Hid _ := hcpB
  have hb1 : (0 : Int) ≤ (i : Int) + 1 := by omega
  have hin : i ≤ n := by omega
  have hb3 : (i : Int) ≤ (n : Int) + 1 := by omega
  have hci : ¬ (cap = i) := by omega
  have hGi : ¬ (G = i) := by omega
  have hGim : ¬ (G = i + 1) := by omega
  have hG63 : (G : Int) ≤ 9223372036854775807 := by unfold maxLen at hGm; omega
  have hw1 : IntKind.i64.wrap ((i : Int) + 1) = (i : Int) + 1 := by rw [IntKind.wrap_i64]; omega
  have htn : ((i : Int) + 1).toNat = i + 1 := by omega
  have hle : (i : Int) + 1 ≤ (n : Int) + 1 := by omega
  have hle2 : (i : Int) ≤ (n : Int) := by omega
  have hcn : (cap : Int) < (n : Int) + 1 := by omega
  rw [hn] at hcap hcap0 hi hlen ⊢
  rw [hN] at Hrz ⊢
  clear hfin hrz hcpA hcpB hB1 hB2 f0 f1 f1l f1s hd hR hRl hRs hROW hr1 hg1 hv1 hlc hcs ht hn hg hv hold e0 hl4 hl3 hkk hik hG hGm
  have hqA := HcA.out
  go_enter Tryd.func56, Tryd.ntmps56
  go_wp2_with (at_builtin; refine Lib.wpList_append_run _ rfl _ _ _ _ rfl _ _ rfl rfl _ _ (Hrz.out _) ?_)
  clear hqA
  go_region_law (refine step_copy_at rfl _ _ 31 31 rfl (.slice (some ⟨N, (i + 1) * 3, none⟩) (n - i) (G - (i + 1))) (.slice (some ⟨g, i * 3, none⟩) (n - i) (cap - i)) (by simp [Act.eval, Act.put]) (by simp [Act.eval, Act.put]) (HcB.out 3 (G - (i + 1)) (cap - i)) ?_)
  all_goals
    go_wp2
    go_ret
    exact ⟨G, rfl, HF.out _ (fun _ => rfl) rfl rfl rfl⟩

set_option maxHeartbeats 2000000 in
theorem insert_end (n0 : Nat) (v : Value) (vb : Nat) (l : List Ln) (x : Ln) (W : World) (h : LnRow W n0 v l) (hn0 : n0 ≤ W.heap.size) (hlen : l.length ≤ 1000)
    (hv : W.heap[vb]? = some (.cells x.cells 55 (0, 0))) :
    Calls Tryd.prog 56 #[v, .int .i64 l.length, .slice (some ⟨vb, 0, none⟩) 1 1] W fun e w' =>
      ∃ v', e = .returned v' ∧ LnRow w' n0 v' (l ++ [x]) ∧ W.grownBy w' v.ownBlock := by
  obtain ⟨i0, hi, hz0, hz1, hz2⟩ := info_parts ln_info
  obtain ⟨a, cap, rfl, hsl⟩ := h.isLn
  have hca : (l.length : Int) ≤ cap := by have := hsl.cap; omega
  have hn1 : (l.length : Int) ≤ 1000 := by omega
  have Hh : Hid (LnRow W n0 (.slice a l.length cap) l) := h
  have c3 : ∀ j u, ([.string x.acc, .string x.cur, .int .i64 x.amt] : List Value)[j]? = some u → W.cell? ((⟨vb, 0, none⟩ : Addr).add j) = some u := fun j u hj => by
    rw [Addr.add_lit]
    simp only [World.cell?, hv, Ln.cells]
    simpa using hj
  have hcm : (l.length + 1) ≤ maxLen := by unfold maxLen; omega
  have hc40 : (l.length + 1) * 40 ≤ 140737488355328 := by omega
  have ho : ∀ u ∈ ([.string x.acc, .string x.cur, .int .i64 x.amt] : List Value), u.oneCell' = true := by intro u hu; simp at hu; rcases hu with rfl | rfl | rfl <;> rfl
  have hdisj : cap = l.length ∨ ¬ cap = l.length := Decidable.em _
  clear h hsl hv
  go_enter Tryd.func56, Tryd.ntmps56
  cases a with
  | none =>
    have h0 : l.length = 0 := by
      rcases Hh.out.2 with ⟨_, h⟩ | ⟨g1, c1, cur, hh, _⟩
      · exact h
      · cases hh
    go_wp2_with (at_builtin; refine wpList_append_own _ rfl _ _ 31 rfl n0 55 i0 (.agg #[.string ByteArray.empty, .string ByteArray.empty, .int .i64 0]) 3 40 Tryd.underlying31 hi hz0 hz1 hz2 rfl (by decide) _ _ _ rfl Hh.out ⟨vb, 0, none⟩ 1 1 [.string x.acc, .string x.cur, .int .i64 x.amt] rfl rfl c3 ho hcm hc40 hn0 ?_; intro v' w3 hown' hgrow _)
    all_goals
      go_ret
      refine ⟨_, rfl, ?_, hgrow⟩
      unfold LnRow
      rw [lnRow_append, lnRow_one, List.length_append]
      exact hown'
  | some ad =>
    obtain ⟨ab, ao, asp⟩ := ad
    go_wp2_with (at_builtin; refine wpList_append_own _ rfl _ _ 31 rfl n0 55 i0 (.agg #[.string ByteArray.empty, .string ByteArray.empty, .int .i64 0]) 3 40 Tryd.underlying31 hi hz0 hz1 hz2 rfl (by decide) _ _ _ rfl Hh.out ⟨vb, 0, none⟩ 1 1 [.string x.acc, .string x.cur, .int .i64 x.amt] rfl rfl c3 ho hcm hc40 hn0 ?_; intro v' w3 hown' hgrow _)
    all_goals
      go_ret
      refine ⟨_, rfl, ?_, hgrow⟩
      unfold LnRow
      rw [lnRow_append, lnRow_one, List.length_append]
      exact hown'
end Go.Proofs.YtffekgndlhleiaaDoor
