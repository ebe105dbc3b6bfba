/-
  The contract of slices.Insert of one line, whole; of entry.together.
-/
import Derived.Test.YtaknjpbmhidmdaaGreatDoorZj1
namespace Go.Proofs.YtaknjpbmhidmdaaGreatDoor
set_option linter.unusedVariables false
set_option linter.unusedSimpArgs false
set_option maxRecDepth 100000
open Go.RowKit Go.Lib

theorem zero3_length (k : Nat) : (Builtin.zeroCells (Value.agg #[.string ByteArray.empty, .string ByteArray.empty, .int .i64 0]).cells k).toList.length = k * 3 := by
  simp [Builtin.zeroCells, Value.cells]

set_option maxHeartbeats 2000000 in
theorem insert_grow (g cap i vb : Nat) (cur : Array Value) (l : List Ln) (x : Ln) (W : World) (hg : W.heap[g]? = some (.cells cur 44 (0, 0))) (hcap0 : l.length ≤ cap) (hcap : cap < l.length + 1) (hcs : cur.size = cap * 3) (ht : cur.toList.take (l.length * 3) = lnRow l) (hi : i < l.length) (hlen : l.length ≤ 1000)
    (hv : W.heap[vb]? = some (.cells x.cells 44 (0, 0))) :
    Calls Tryz.prog 81 #[.slice (some ⟨g, 0, none⟩) l.length cap, .int .i64 i, .slice (some ⟨vb, 0, none⟩) 1 1] W fun e w' =>
      ∃ G, e = .returned (.slice (some ⟨W.heap.size, 0, none⟩) (l.length + 1) G) ∧ LnRow w' W.heap.size (.slice (some ⟨W.heap.size, 0, none⟩) (l.length + 1) G) (l.take i ++ x :: l.drop i) ∧ W.grownBy w' none := by
  obtain ⟨n, hn⟩ : ∃ n, l.length = n := ⟨_, rfl⟩
  obtain ⟨i0, hi0, hz0, hzs, hzb⟩ := info_parts ln_info
  have hgw : g < W.heap.size := (Array.getElem?_eq_some_iff.1 hg).1
  have hvw : vb < W.heap.size := (Array.getElem?_eq_some_iff.1 hv).1
  have hn1 : (n : Int) ≤ 1000 := by omega
  have hz2 : ¬ ((i : Int) = (n : Int)) := by omega
  have hlc : cur.toList.length = cap * 3 := by simpa using hcs
  have hkk : (n : Int) + 1 - (i : Int) = ((n + 1 - i : Nat) : Int) := by omega
  have hik : i + (n + 1 - i) = n + 1 := by omega
  have e0 : cur.toList.take (i * 3) = lnRow (l.take i) := by
    rw [lnRow_take, ← ht, List.take_take, Nat.min_eq_left (by omega)]
  have hl3 : (l.take i).length = i := by rw [List.length_take]; omega
  have hl4 : (lnRow (l.take i)).length = i * 3 := by rw [lnRow_length, hl3]
  have hold : (Builtin.firstCells i0.size i (.slice (some ⟨g, 0, none⟩) i cap)).run Tryz.prog W.drew = .ok (lnRow (l.take i)).toArray W.drew := by
    rw [hzs]
    show (loadCells ⟨g, 0, none⟩ (i * 3)).run Tryz.prog W.drew = _
    rw [← hl4]
    refine run_loadCells_list (P := Tryz.prog) W.drew ⟨g, 0, none⟩ _ (fun j v hj => ?_)
    rw [Addr.add_lit]
    have hjl : j < i * 3 := by
      rw [← hl4]
      exact (List.getElem?_eq_some_iff.1 hj).1
    have e1 : (lnRow (l.take i))[j]? = cur[0 + j]? := by
      rw [← e0, List.getElem?_take, if_pos hjl]
      simp
    rw [e1] at hj
    show W.cell? _ = _
    simp only [World.cell?, hg]
    exact hj
  have hrz : ∀ ty, (Builtin.append_ #[27, 3] ty #[.slice (some ⟨g, 0, none⟩) i cap, .int .i64 ((n : Int) + 1 - (i : Int))]).run Tryz.prog W =
      .ok (.slice (some ⟨W.heap.size, 0, none⟩) (n + 1) (grownCap W (n + 1) cap 44)) (W.drew.alloc (.cells ((lnRow (l.take i)).toArray ++ Builtin.zeroCells (Value.agg #[.string ByteArray.empty, .string ByteArray.empty, .int .i64 0]).cells (n + 1 - i) ++ Builtin.zeroCells (Value.agg #[.string ByteArray.empty, .string ByteArray.empty, .int .i64 0]).cells (grownCap W (n + 1) cap 44 - (n + 1))) 44)) := fun ty => by
    have h := Lib.run_append_grow_zeros W 27 3 ty 44 i0 _ .i64 .i64 Tryz.underlying27 Tryz.underlying3 hi0 hz0 (some ⟨g, 0, none⟩) i cap (lnRow (l.take i)) hold (n + 1 - i) (by omega) (by omega) (by omega) (by omega) (by rw [hzb]; omega) (by rw [hzb, hik]; exact growslice_fits (by omega) (by omega))
    rw [hik] at h
    rw [hkk]
    exact h
  obtain ⟨G, hG⟩ : ∃ G, G = grownCap W (n + 1) cap 44 := ⟨_, rfl⟩
  obtain ⟨ROW, hROW⟩ : ∃ ROW : Array Value, ROW = (lnRow (l.take i)).toArray ++ Builtin.zeroCells (Value.agg #[.string ByteArray.empty, .string ByteArray.empty, .int .i64 0]).cells (n + 1 - i) ++ Builtin.zeroCells (Value.agg #[.string ByteArray.empty, .string ByteArray.empty, .int .i64 0]).cells (G - (n + 1)) := ⟨_, rfl⟩
  rw [← hG, ← hROW] at hrz
  have hGn : n + 1 ≤ G := by rw [hG]; exact grownCap_ge W _ _ _
  have hGm : G ≤ maxLen := by rw [hG]; exact grownCap_le_maxLen W (n + 1) cap 44 (by unfold maxLen; omega)
  have hR : ROW.toList = lnRow (l.take i) ++ ((Builtin.zeroCells (Value.agg #[.string ByteArray.empty, .string ByteArray.empty, .int .i64 0]).cells (n + 1 - i)).toList ++ (Builtin.zeroCells (Value.agg #[.string ByteArray.empty, .string ByteArray.empty, .int .i64 0]).cells (G - (n + 1))).toList) := by
    rw [hROW]; simp
  have hRl : ROW.toList.length = G * 3 := by
    rw [hR, List.length_append, List.length_append, hl4, zero3_length, zero3_length]; omega
  have hRs : ROW.size = G * 3 := by simpa using hRl
  obtain ⟨N, hN⟩ : ∃ N, W.heap.size = N := ⟨_, rfl⟩
  have hgN : g ≠ N := by omega
  have hvN : vb ≠ N := by omega
  obtain ⟨W1, hW1⟩ : ∃ W1, W1 = (W.alloc (.cells ROW 44)).drew := ⟨_, rfl⟩
  have hg1 : W1.heap[g]? = some (.cells cur 44 (0, 0)) := by rw [hW1]; exact ((World.grownBy_alloc W _ none).block g hgw (by simp)).trans hg
  have hv1 : W1.heap[vb]? = some (.cells x.cells 44 (0, 0)) := by rw [hW1]; exact ((World.grownBy_alloc W _ none).block vb hvw (by simp)).trans hv
  have hr1 : W1.heap[N]? = some (.cells ROW 44 (0, 0)) := by rw [hW1, ← hN]; exact World.alloc_heap_new W _
  have hd : (lnRow (l.drop i)).length = (n - i) * 3 := by rw [lnRow_length, List.length_drop, hn]
  obtain ⟨B1, hB1⟩ : ∃ B1 : Array Value, B1 = (ROW.toList.take (i * 3) ++ x.cells.toList ++ ROW.toList.drop (i * 3 + 3)).toArray := ⟨_, rfl⟩
  have f0 : ROW.toList.take (i * 3) = lnRow (l.take i) := by rw [hR]; exact List.take_left' hl4
  have f1 : B1.toList = lnRow (l.take i) ++ x.cells.toList ++ ROW.toList.drop (i * 3 + 3) := by rw [hB1, List.toList_toArray, f0]
  have f1l : B1.toList.length = G * 3 := by
    rw [f1, List.length_append, List.length_append, hl4, Ln.cells_length, List.length_drop, hRl]; omega
  have f1s : B1.size = G * 3 := by simpa using f1l
  obtain ⟨B2, hB2⟩ : ∃ B2 : Array Value, B2 = (B1.toList.take ((i + 1) * 3) ++ lnRow (l.drop i) ++ B1.toList.drop ((i + 1) * 3 + (lnRow (l.drop i)).length)).toArray := ⟨_, rfl⟩
  have hcpA : ∀ ty dc, (Builtin.copy_ #[27, 27] ty #[.slice (some ⟨N, i * 3, none⟩) (n + 1 - i) dc, .slice (some ⟨vb, 0, none⟩) 1 1]).run Tryz.prog W1 = .ok (goInt 1) (W1.setRow N B1) := fun ty dc => by
    have hmin : Nat.min 1 (n + 1 - i) = 1 := by simp only [Nat.min_def]; split <;> omega
    have := run_copy3 (P := Tryz.prog) W1 27 27 ty 44 N (i * 3) (n + 1 - i) dc ⟨vb, 0, none⟩ 1 1 ROW 44 x.cells.toList Tryz.underlying27 ln_size3 hr1 (by rw [hmin]; rfl)
      (fun j v hj => by
        rw [Addr.add_lit]
        simp [World.cell?, hv1]
        simpa using hj) (by rw [Ln.cells_length]; omega) (by
        intro v hv
        simp [Ln.cells] at hv
        rcases hv with rfl | rfl | rfl <;> rfl)
    rw [hmin, Ln.cells_length, ← hB1] at this
    exact this
  have hcpB : ∀ ty dc sc, (Builtin.copy_ #[27, 27] ty #[.slice (some ⟨N, (i + 1) * 3, none⟩) (n - i) dc, .slice (some ⟨g, i * 3, none⟩) (n - i) sc]).run Tryz.prog (W1.setRow N B1).drew = .ok (goInt ((n - i : Nat) : Int)) ((W1.setRow N B1).drew.setRow N B2) := fun ty dc sc => by
    have hmin : Nat.min (n - i) (n - i) = n - i := by simp only [Nat.min_def]; split <;> omega
    have hg2 : (W1.setRow N B1).drew.heap[g]? = some (.cells cur 44 (0, 0)) := (setRow_other _ _ _ _ hgN).trans hg1
    have := run_copy3 (P := Tryz.prog) (W1.setRow N B1).drew 27 27 ty 44 N ((i + 1) * 3) (n - i) dc ⟨g, i * 3, none⟩ (n - i) sc B1 44 (lnRow (l.drop i)) Tryz.underlying27 ln_size3 (setRow_heap W1 N ROW B1 44 (0, 0) hr1) (by rw [hmin, hd])
      (fun j v hj => by
        rw [Addr.add_lit]
        have hjl : j < (n - i) * 3 := by
          rw [← hd]
          exact (List.getElem?_eq_some_iff.1 hj).1
        have e1 : (lnRow (l.drop i))[j]? = cur[i * 3 + j]? := by
          rw [lnRow_drop, List.getElem?_drop, ← ht, List.getElem?_take, if_pos (by omega)]
          simp
        rw [e1] at hj
        simp only [World.cell?, hg2]
        exact hj) (by rw [hd]; omega) (lnRow_one_cell _)
    rw [hmin, ← hB2] at this
    exact this
  have hfin : ∀ W3 : World, (∀ k : Nat, W3.heap[k]? = ((W1.setRow N B1).drew.setRow N B2).heap[k]?) → W3.os = W.os → W3.tape = W.tape → W3.output = W.output → LnRow W3 N (.slice (some ⟨N, 0, none⟩) (n + 1) G) (l.take i ++ x :: l.drop i) ∧ W.grownBy W3 none := by
    intro W3 h3 q1 q2 q3
    have e2 : B1.toList.take ((i + 1) * 3) = lnRow (l.take i) ++ x.cells.toList := by
      rw [f1]
      exact List.take_left' (by rw [List.length_append, hl4, Ln.cells_length]; omega)
    have e3 : lnRow (l.take i ++ x :: l.drop i) = lnRow (l.take i) ++ x.cells.toList ++ lnRow (l.drop i) := by
      rw [show x :: l.drop i = [x] ++ l.drop i from rfl, lnRow_append, lnRow_append, lnRow_one, List.append_assoc]
    have e4 : B2.toList = lnRow (l.take i ++ x :: l.drop i) ++ B1.toList.drop ((i + 1) * 3 + (lnRow (l.drop i)).length) := by
      rw [hB2, List.toList_toArray, e2, e3]
    have hll : (l.take i ++ x :: l.drop i).length = n + 1 := by
      rw [List.length_append, List.length_cons, hl3, List.length_drop]; omega
    have hs2 : B2.size = G * 3 := by
      have : B2.toList.length = G * 3 := by
        rw [e4, List.length_append, lnRow_length, hll, List.length_drop, hd, f1l]; omega
      simpa using this
    have hsz1 : W1.heap.size = N + 1 := by rw [hW1, ← hN]; show (W.alloc _).heap.size = _; simp
    refine ⟨⟨by rw [lnRow_length], .inr ⟨N, G, B2, by rw [hll], Nat.le_refl _, ?_, by rw [hll]; omega, hGm, hs2, ?_⟩⟩, ⟨q1, q2, q3, ?_, ?_⟩⟩
    · rw [h3]; exact setRow_heap (W1.setRow N B1).drew N B1 B2 44 (0, 0) (setRow_heap W1 N ROW B1 44 (0, 0) hr1)
    · rw [e4]; exact List.take_left' (by rw [lnRow_length])
    · rcases Nat.lt_or_ge W3.heap.size W.heap.size with h | h
      · have h4 := h3 W3.heap.size
        rw [Array.getElem?_eq_none (Nat.le_refl _)] at h4
        have h5 := h4.symm
        rw [Array.getElem?_eq_none_iff, setRow_size] at h5
        have : (W1.setRow N B1).drew.heap.size = N + 1 := by show (W1.setRow N B1).heap.size = _; rw [setRow_size, hsz1]
        omega
      · exact h
    · intro k hk hk2
      rw [h3, setRow_other _ _ _ _ (by omega)]
      show (W1.setRow N B1).heap[k]? = _
      rw [setRow_other _ _ _ _ (by omega), hW1]
      exact (World.grownBy_alloc W _ none).block k hk (by simp)
  subst hW1
  have HF : Hid _ := hfin
  have Hrz : Hid _ := hrz
  have HcA : Hid _ := hcpA
  have HcB : Hid _ := hcpB
  have hb1 : (0 : Int) ≤ (i : Int) + 1 := by omega
  have hin : i ≤ n := by omega
  have hb3 : (i : Int) ≤ (n : Int) + 1 := by omega
  have hci : ¬ (cap = i) := by omega
  have hGi : ¬ (G = i) := by omega
  have hGim : ¬ (G = i + 1) := by omega
  have hG63 : (G : Int) ≤ 9223372036854775807 := by unfold maxLen at hGm; omega
  have hw1 : IntKind.i64.wrap ((i : Int) + 1) = (i : Int) + 1 := by rw [IntKind.wrap_i64]; omega
  have htn : ((i : Int) + 1).toNat = i + 1 := by omega
  have hle : (i : Int) + 1 ≤ (n : Int) + 1 := by omega
  have hle2 : (i : Int) ≤ (n : Int) := by omega
  have hcn : (cap : Int) < (n : Int) + 1 := by omega
  rw [hn] at hcap hcap0 hi hlen ⊢
  rw [hN] at Hrz ⊢
  clear hfin hrz hcpA hcpB hB1 hB2 f0 f1 f1l f1s hd hR hRl hRs hROW hr1 hg1 hv1 hlc hcs ht hn hg hv hold e0 hl4 hl3 hkk hik hG hGm
  have hqA := HcA.out
  go_enter Tryz.func81, Tryz.ntmps81
  go_wp2_with (at_builtin; refine Lib.wpList_append_run _ rfl _ _ _ _ rfl _ _ rfl rfl _ _ (Hrz.out _) ?_)
  clear hqA
  go_region_law (refine step_copy_at rfl _ _ 27 27 rfl (.slice (some ⟨N, (i + 1) * 3, none⟩) (n - i) (G - (i + 1))) (.slice (some ⟨g, i * 3, none⟩) (n - i) (cap - i)) (by simp [Act.eval, Act.put]) (by simp [Act.eval, Act.put]) (HcB.out 3 (G - (i + 1)) (cap - i)) ?_)
  all_goals
    go_wp2
    go_ret
    exact ⟨G, rfl, HF.out _ (fun _ => rfl) rfl rfl rfl⟩

set_option maxHeartbeats 2000000 in
theorem insert_end (n0 : Nat) (v : Value) (vb : Nat) (l : List Ln) (x : Ln) (W : World) (h : LnRow W n0 v l) (hn0 : n0 ≤ W.heap.size) (hlen : l.length ≤ 1000)
    (hv : W.heap[vb]? = some (.cells x.cells 44 (0, 0))) :
    Calls Tryz.prog 81 #[v, .int .i64 l.length, .slice (some ⟨vb, 0, none⟩) 1 1] W fun e w' =>
      ∃ v', e = .returned v' ∧ LnRow w' n0 v' (l ++ [x]) ∧ W.grownBy w' v.ownBlock := by
  obtain ⟨i0, hi, hz0, hz1, hz2⟩ := info_parts ln_info
  obtain ⟨a, cap, rfl, hsl⟩ := h.isLn
  have hca : (l.length : Int) ≤ cap := by have := hsl.cap; omega
  have hn1 : (l.length : Int) ≤ 1000 := by omega
  have Hh : Hid (LnRow W n0 (.slice a l.length cap) l) := h
  have c3 : ∀ j u, ([.string x.acc, .string x.cur, .int .i64 x.amt] : List Value)[j]? = some u → W.cell? ((⟨vb, 0, none⟩ : Addr).add j) = some u := fun j u hj => by
    rw [Addr.add_lit]
    simp only [World.cell?, hv, Ln.cells]
    simpa using hj
  have hcm : (l.length + 1) ≤ maxLen := by unfold maxLen; omega
  have hc40 : (l.length + 1) * 40 ≤ 140737488355328 := by omega
  have ho : ∀ u ∈ ([.string x.acc, .string x.cur, .int .i64 x.amt] : List Value), u.oneCell' = true := by intro u hu; simp at hu; rcases hu with rfl | rfl | rfl <;> rfl
  have hdisj : cap = l.length ∨ ¬ cap = l.length := Decidable.em _
  clear h hsl hv
  go_enter Tryz.func81, Tryz.ntmps81
  cases a with
  | none =>
    have h0 : l.length = 0 := by
      rcases Hh.out.2 with ⟨_, h⟩ | ⟨g1, c1, cur, hh, _⟩
      · exact h
      · cases hh
    go_wp2_with (at_builtin; refine wpList_append_own _ rfl _ _ 27 rfl n0 44 i0 (.agg #[.string ByteArray.empty, .string ByteArray.empty, .int .i64 0]) 3 40 Tryz.underlying27 hi hz0 hz1 hz2 rfl (by decide) _ _ _ rfl Hh.out ⟨vb, 0, none⟩ 1 1 [.string x.acc, .string x.cur, .int .i64 x.amt] rfl rfl c3 ho hcm hc40 hn0 ?_; intro v' w3 hown' hgrow _)
    all_goals
      go_ret
      refine ⟨_, rfl, ?_, hgrow⟩
      unfold LnRow
      rw [lnRow_append, lnRow_one, List.length_append]
      exact hown'
  | some ad =>
    obtain ⟨ab, ao, asp⟩ := ad
    go_wp2_with (at_builtin; refine wpList_append_own _ rfl _ _ 27 rfl n0 44 i0 (.agg #[.string ByteArray.empty, .string ByteArray.empty, .int .i64 0]) 3 40 Tryz.underlying27 hi hz0 hz1 hz2 rfl (by decide) _ _ _ rfl Hh.out ⟨vb, 0, none⟩ 1 1 [.string x.acc, .string x.cur, .int .i64 x.amt] rfl rfl c3 ho hcm hc40 hn0 ?_; intro v' w3 hown' hgrow _)
    all_goals
      go_ret
      refine ⟨_, rfl, ?_, hgrow⟩
      unfold LnRow
      rw [lnRow_append, lnRow_one, List.length_append]
      exact hown'
end Go.Proofs.YtaknjpbmhidmdaaGreatDoor

namespace Go.Proofs.YtaknjpbmhidmdaaGreatDoor
set_option linter.unusedVariables false
set_option linter.unusedSimpArgs false
set_option maxRecDepth 100000
open Go.RowKit Go.Lib

theorem grown_any {w w' : World} (h : w.grownBy w' none) (row : Option Nat) : w.grownBy w' row := ⟨h.os, h.tape, h.output, h.size, fun k hk _ => h.block k hk (by simp)⟩

theorem insert_any (n0 i vb : Nat) (v : Value) (l : List Ln) (x : Ln) (W : World) (h : LnRow W n0 v l) (hn0 : n0 ≤ W.heap.size) (hi : i ≤ l.length) (hlen : l.length ≤ 1000)
    (hv : W.heap[vb]? = some (.cells x.cells 44 (0, 0))) (hne : v.ownBlock ≠ some vb) :
    Calls Tryz.prog 81 #[v, .int .i64 i, .slice (some ⟨vb, 0, none⟩) 1 1] W fun e w' =>
      ∃ v', e = .returned v' ∧ LnRow w' n0 v' (l.take i ++ x :: l.drop i) ∧ W.grownBy w' v.ownBlock := by
  by_cases he : i = l.length
  · subst he
    rw [List.take_length, List.drop_length]
    exact insert_end n0 v vb l x W h hn0 hlen hv
  · have hlt : i < l.length := by omega
    rcases h.2 with ⟨_, h0⟩ | ⟨g, cap, cur, rfl, hb, hg, hc, hm, hs, ht⟩
    · omega
    · by_cases hr : l.length + 1 ≤ cap
      · refine (insert_shift g cap i vb cur l x W hg hr hm hs ht hlt hlen hv (fun e => hne (by rw [e]; rfl))).mono ?_
        rintro e w' ⟨rfl, hrow, hgr⟩
        exact ⟨_, rfl, hrow.mono hb, hgr⟩
      · refine (insert_grow g cap i vb cur l x W hg hc (by omega) hs ht hlt hlen hv).mono ?_
        rintro e w' ⟨G, rfl, hrow, hgr⟩
        exact ⟨_, rfl, hrow.mono hn0, grown_any hgr _⟩

/-- A line of a row that is one's own gets another amount. -/
theorem LnRow.setAmt {W : World} {n0 g cap : Nat} {l : List Ln} (h : LnRow W n0 (.slice (some ⟨g, 0, none⟩) l.length cap) l) (k : Nat) (hk : k < l.length) (a : Int) :
    LnRow (W.setCell ⟨g, k * 3 + 2, none⟩ (.int .i64 a)) n0 (.slice (some ⟨g, 0, none⟩) l.length cap) (l.set k ⟨(l.getD k ln0).acc, (l.getD k ln0).cur, a⟩) ∧ W.frozen? ⟨g, k * 3 + 2, none⟩ = false := by
  rcases h.2 with ⟨hv, _⟩ | ⟨g1, c1, cur, hv, hb, hg, hc, hm, hs, ht⟩
  · cases hv
  cases hv
  have e1 : lnRow (l.set k ⟨(l.getD k ln0).acc, (l.getD k ln0).cur, a⟩) = (lnRow l).set (k * 3 + 2) (.int .i64 a) := by
    apply List.ext_getElem?
    intro j
    obtain ⟨q, r, hr, rfl⟩ : ∃ q r, r < 3 ∧ j = q * 3 + r := ⟨j / 3, j % 3, Nat.mod_lt _ (by omega), by omega⟩
    by_cases hq : q < l.length
    · rw [lnRow_get _ q r (by simpa using hq) hr, List.getElem?_set]
      by_cases hqk : q = k
      · subst hqk
        rw [List.getD_eq_getElem?_getD, List.getElem?_set_self hq, Option.getD_some]
        by_cases hr2 : r = 2
        · subst hr2
          rw [if_pos rfl, if_pos (by rw [lnRow_length]; omega)]
          rfl
        · rw [if_neg (by omega), lnRow_get l q r hq hr]
          rcases (by omega : r = 0 ∨ r = 1) with rfl | rfl <;> rfl
      · rw [if_neg (by omega), lnRow_get l q r hq hr, List.getD_eq_getElem?_getD, List.getElem?_set_ne (fun e => hqk e.symm), ← List.getD_eq_getElem?_getD]
    · rw [List.getElem?_eq_none (by rw [lnRow_length, List.length_set]; omega), List.getElem?_eq_none (by rw [List.length_set, lnRow_length]; omega)]
  refine ⟨⟨by rw [lnRow_length, List.length_set], .inr ⟨g, cap, cur.setIfInBounds (k * 3 + 2) (.int .i64 a), by rw [List.length_set], hb, ?_, by rw [List.length_set]; exact hc, hm, by simpa using hs, ?_⟩⟩, by simp [World.frozen?, hg]⟩
  · rw [setCell_eq_setRow W g (k * 3 + 2) cur 44 (0, 0) _ hg]
    exact setRow_heap W g cur _ 44 (0, 0) hg
  · rw [e1, List.length_set, ← ht, Array.toList_setIfInBounds, List.take_set]

theorem grown_setCell (W : World) (g o : Nat) (v : Value) : W.grownBy (W.setCell ⟨g, o, none⟩ v) (some g) :=
  ⟨rfl, rfl, rfl, by simp, fun k hk hne => Below.heap_setCell _ _ _ k (fun e => hne (by rw [e]))⟩

set_option maxHeartbeats 4000000 in
theorem together_some (b off cap : Nat) (l : List Ln) (w : World) (hb : b < w.heap.size) (hlen : l.length ≤ 20) (hwi : Within mostA l) (hc : LnsAt w b off l) :
    Calls Tryz.prog 64 #[.slice (some ⟨b, off, none⟩) l.length cap] w fun e w' => ∃ v, e = .returned v ∧ LnRow w' w.heap.size v (grp l) ∧ Below w.heap.size w w' := by
  have Hc : Hid (LnsAt w b off l) := hc
  have Hwi : Hid (Within mostA l) := hwi
  clear hc hwi
  have Hlen : (l.length : Int) ≤ 20 := by omega
  go_enter Tryz.func64, Tryz.ntmps64
  go_wp2
  go_loopw [3, 10] (fun s i wr => ∃ k : Nat, k ≤ l.length ∧ i = .int .i64 k ∧ Hid (LnRow wr w.heap.size s (grp (l.take k))) ∧ Below w.heap.size w wr) (fun _ i _ => l.length - (intOf i).toNat)
  case atStart => exact ⟨0, Nat.zero_le _, rfl, LnRow.nil _ _, Below.refl _ _⟩
  case round =>
    obtain ⟨k, hk, rfl, R, BW⟩ := hrel
    by_cases hlt : k < l.length
    · have hn := (Hc.out k hlt).below BW hb
      have hst : grp (l.take (k + 1)) = insL (l.getD k ln0) (grp (l.take k)) := by rw [lns_take l k hlt, grp_snoc]
      have hxw := Hwi.out _ (lns_mem l k hlt)
      have hgl : (grp (l.take k)).length ≤ 20 := by
        have := grp_length (l.take k)
        rw [List.length_take] at this
        omega
      have hgw : Within (20 * mostA) (grp (l.take k)) := by
        have h1 := within_grp (m := mostA) (by simp [mostA]) (l := l.take k) (fun z hz => Hwi.out z (List.mem_of_mem_take hz))
        intro z hz
        have h2 := h1 z hz
        have h3 : ((l.take k).length : Int) ≤ 20 := by rw [List.length_take]; omega
        simp only [mostA] at h2 ⊢
        omega
      have hsrt := grp_sort (l.take k)
      have B2 := BW.alloc BW.size (.cells (l.getD k ln0).cells 44)
      have R1 : LnRow (wr.alloc (.cells (l.getD k ln0).cells 44)) w.heap.size _ (grp (l.take k)) := World.ownsRow.alloc R.out (.cells (l.getD k ln0).cells 44)
      have hx := LnAt.new wr (l.getD k ln0) 44
      generalize l.getD k ln0 = x at *
      generalize grp (l.take k) = q at *
      obtain ⟨a, cq, rfl, hsl⟩ := R1.isLn
      have hS := search_any a cq q x _ (by omega) hsl hsrt
      have Hst : Hid (grp (l.take (k + 1)) = insL x q) := hst
      have HS : Hid (Calls _ _ _ _ _) := hS
      have HR1 : Hid (LnRow _ _ _ _) := R1
      have Hgw : Hid (Within (20 * mostA) q) := hgw
      have Hxw : Hid (-mostA ≤ x.amt ∧ x.amt ≤ mostA) := hxw
      have hpl := posL_le x q
      clear hst hS R1 R hgw hxw hsl hsrt
      obtain ⟨c0, c1, c2⟩ := hn
      have hx0 := hx
      obtain ⟨d0, d1, d2⟩ := hx
      have hsz : (wr.alloc (.cells x.cells 44)).heap.size = wr.heap.size + 1 := by simp
      have j0 : (0 : Int) ≤ k := by omega
      have j1 : (k : Int) < l.length := by omega
      have hws := BW.size
      cases hq : hasL x q
      · rw [hq] at HS
        have hnew : Hid (insL x q = q.take (posL x q) ++ x :: q.drop (posL x q)) := insL_new x q (fun h => by
          unfold hasL at hq
          rw [decide_eq_true h, Bool.true_and] at hq
          exact hq)
        obtain ⟨p, hp⟩ : ∃ p, posL x q = p := ⟨_, rfl⟩
        rw [hp] at HS hnew hpl
        clear hp hq
        have Hx0 : Hid (LnAt _ _ _ _) := hx0
        clear hx0
        obtain ⟨x0, x1, x2⟩ := x
        simp only [Ln.cells, Nat.zero_add] at c0 c1 c2 d0 d1 d2 HS HR1 B2 Hx0 hsz
        go_wp2_with fail
        refine HS.out.mono ?_
        rintro e w2 ⟨rfl, hb2⟩
        have HR2 : Hid (LnRow w2 w.heap.size _ q) := LnRow.below HR1.out hb2
        have B3 := B2.trans (hb2.mono B2.size)
        have hs2 := hb2.size
        rw [hsz] at hb2 hs2
        have hx2 := Hx0.out.below hb2 (Nat.lt_succ_self _)
        clear c0 c1 c2 d0 d1 d2 HR1 B2 Hx0 HS hb2
        obtain ⟨d0, d1, d2⟩ := hx2
        simp only [Nat.zero_add] at d0 d1 d2
        have hsw2 : w.heap.size ≤ w2.heap.size := by omega
        have hI := insert_any w.heap.size p w2.heap.size _ q ⟨x0, x1, x2⟩ (w2.alloc (.cells #[.string x0, .string x1, .int .i64 x2] 44)) (World.ownsRow.alloc HR2.out _) (by simp; omega) hpl (by omega) (World.alloc_heap_new w2 _) (fun e => by have := (World.ownsRow.lt HR2.out _ e).2; omega)
        have HI : Hid (Calls _ _ _ _ _) := hI
        clear hI
        go_wp2_with fail
        refine HI.out.mono ?_
        rintro e w3 ⟨v3, rfl, R3, hgr⟩
        have B4 : Below w.heap.size w w3 := (B3.alloc hsw2 (.cells #[.string x0, .string x1, .int .i64 x2] 44)).grown hgr (by simp; omega) (HR2.out.own)
        have HR3 : Hid (LnRow w3 w.heap.size v3 (grp (l.take (k + 1)))) := by unfold Hid; rw [Hst.out, hnew.out]; exact R3
        clear R3 hgr HI HR2
        go_wp2
        go_roundw
        case rel => exact ⟨k + 1, by omega, by go_num, HR3.out, B4⟩
        case measure => simp [intOf]; omega
      · rw [hq] at HS
        have hqs : posL x q < q.length ∧ lnEq (q.getD (posL x q) ln0) x = true := by
          unfold hasL at hq
          rw [Bool.and_eq_true, decide_eq_true_eq] at hq
          exact hq
        have hnew : Hid (insL x q = _) := insL_found x q hqs.1 hqs.2
        obtain ⟨p, hp⟩ : ∃ p, posL x q = p := ⟨_, rfl⟩
        rw [hp] at HS hnew hpl hqs
        have hpq := hqs.1
        clear hp hq hqs
        have Hx0 : Hid (LnAt _ _ _ _) := hx0
        clear hx0
        obtain ⟨x0, x1, x2⟩ := x
        simp only [Ln.cells, Nat.zero_add] at c0 c1 c2 d0 d1 d2 HS HR1 B2 Hx0 hsz
        obtain ⟨g, hga⟩ : ∃ g, a = some ⟨g, 0, none⟩ := by
          rcases HR1.out.2 with ⟨_, h0⟩ | ⟨g, c1, cur, hv, _⟩
          · omega
          · cases hv; exact ⟨g, rfl⟩
        subst hga
        go_wp2_with fail
        refine HS.out.mono ?_
        rintro e w2 ⟨rfl, hb2⟩
        have HR2 : Hid (LnRow w2 w.heap.size _ q) := LnRow.below HR1.out hb2
        have B3 := B2.trans (hb2.mono B2.size)
        have hs2 := hb2.size
        rw [hsz] at hb2 hs2
        have hx2 := Hx0.out.below hb2 (Nat.lt_succ_self _)
        clear c0 c1 c2 d0 d1 d2 HR1 B2 Hx0 HS hb2
        obtain ⟨d0, d1, d2⟩ := hx2
        simp only [Nat.zero_add] at d0 d1 d2
        have hgb := (HR2.out.own) g rfl
        have hpi : (p : Int) < q.length := by omega
        have hp0 : (0 : Int) ≤ p := by omega
        obtain ⟨cy0, cy1, cy2⟩ : LnAt w2 g (p * 3) (q.getD p ln0) := by
          obtain ⟨a', cq', hv, hsl'⟩ := HR2.out.isLn
          cases hv
          rcases hsl'.lies with h | ⟨b', off', e, _, hc'⟩
          · rw [h] at hpq; simp at hpq
          · cases e
            have := hc' p hpq
            rwa [Nat.zero_add] at this
        have hyw := Hgw.out _ (lns_mem q p hpq)
        obtain ⟨y2, hy2⟩ : ∃ y2, (q.getD p ln0).amt = y2 := ⟨_, rfl⟩
        rw [hy2] at cy2 hyw hnew
        have hwrap : IntKind.i64.wrap (y2 + x2) = y2 + x2 := by
          have := Hxw.out
          simp only [mostA] at this hyw
          rw [IntKind.wrap_i64]; omega
        obtain ⟨R3, hfz⟩ := LnRow.setAmt HR2.out p hpq (y2 + x2)
        have B4 : Below w.heap.size w (w2.setCell ⟨g, p * 3 + 2, none⟩ (.int .i64 (y2 + x2))).drew := (B3.setCell (p := ⟨g, p * 3 + 2, none⟩) hgb _).drew
        have HR3 : Hid (LnRow (w2.setCell ⟨g, p * 3 + 2, none⟩ (.int .i64 (y2 + x2))).drew w.heap.size (.slice (some ⟨g, 0, none⟩) q.length cq) (grp (l.take (k + 1)))) := by unfold Hid; rw [Hst.out, hnew.out]; exact R3
        clear R3 cy0 cy1 hy2 hnew Hst hyw HR2
        go_wp2
        go_region
        all_goals
          go_wp2
          go_roundw
          case rel => exact ⟨k + 1, by omega, by go_num, HR3.out, B4⟩
          case measure => simp [intOf]; omega
    · have hk2 : k = l.length := by omega
      subst hk2
      go_wp2
      go_ret
      refine ⟨_, rfl, ?_, BW⟩
      have := R.out
      rw [List.take_length] at this
      exact this
theorem together_none (a : Option Addr) (cap : Nat) (w : World) :
    Calls Tryz.prog 64 #[.slice a 0 cap] w fun e w' => e = .returned (.slice none 0 0) ∧ Below w.heap.size w w' := by
  go_enter Tryz.func64, Tryz.ntmps64
  go_wp2
  refine wp_loop_rounds 1 ?_
  rw [rounds_succ]
  go_wp2
  go_ret
  exact ⟨rfl, Below.refl _ _⟩

theorem together_any (a : Option Addr) (cap : Nat) (l : List Ln) (w : World) (hlen : l.length ≤ 20) (hwi : Within mostA l) (h : IsLn w a l cap) :
    Calls Tryz.prog 64 #[.slice a l.length cap] w fun e w' => ∃ v, e = .returned v ∧ LnRow w' w.heap.size v (grp l) ∧ Below w.heap.size w w' := by
  rcases h.lies with rfl | ⟨b, off, rfl, hlt, hc⟩
  · refine (together_none a cap w).mono ?_
    rintro e w' ⟨rfl, hb⟩
    exact ⟨_, rfl, LnRow.nil _ _, hb⟩
  · exact together_some b off cap l w hlt hlen hwi hc

/-- The sums of each currency. -/
def curSums (l : List Ln) : List Ln := grp (l.map bareL)
theorem within_bare {m : Int} {l : List Ln} (h : Within m l) : Within m (l.map bareL) := by
  intro z hz
  obtain ⟨y, hy, rfl⟩ := List.mem_map.1 hz
  exact h y hy

theorem ofCurrencies_any (a : Option Addr) (cap : Nat) (l : List Ln) (w : World) (hlen : l.length ≤ 20) (hwi : Within mostA l) (h : IsLn w a l cap) :
    Calls Tryz.prog 45 #[.slice a l.length cap] w fun e w' => ∃ v, e = .returned v ∧ LnRow w' w.heap.size v (curSums l) ∧ Below w.heap.size w w' := by
  have hE := each_any _ bareL _ a cap l w ofCurrencies1_makes (fun _ _ => trivial) (by omega) h
  have HT : Hid (∀ v W, LnRow W w.heap.size v (l.map bareL) → Below w.heap.size w W → Calls Tryz.prog 64 #[v] W fun e w' => ∃ v, e = .returned v ∧ LnRow w' w.heap.size v (curSums l) ∧ Below w.heap.size w w') := fun v W hr hb => by
    obtain ⟨a', c', rfl, hsl⟩ := hr.isLn
    refine (together_any a' c' (l.map bareL) W (by simpa using hlen) (within_bare hwi) hsl).mono ?_
    rintro e w' ⟨v, rfl, hr', hb'⟩
    exact ⟨v, rfl, hr'.mono hb.size, hb.trans (hb'.mono hb.size)⟩
  clear h hwi
  go_enter Tryz.func45, Tryz.ntmps45
  go_wp2_with fail
  refine hE.mono ?_
  rintro e w1 ⟨v1, rfl, r1, b1⟩
  have hT := HT.out v1 w1 r1 b1
  clear HT r1 b1 hE
  go_wp2_with fail
  refine hT.mono ?_
  rintro e w2 ⟨v2, rfl, r2, b2⟩
  have HR : Hid (LnRow _ _ _ _) := r2
  clear r2 hT
  go_wp2
  go_ret
  exact ⟨v2, rfl, HR.out, b2⟩
end Go.Proofs.YtaknjpbmhidmdaaGreatDoor
