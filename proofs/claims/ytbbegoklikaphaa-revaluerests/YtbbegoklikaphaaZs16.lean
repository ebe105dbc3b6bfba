/-
  The laws' own chart.
-/
import Derived.Test.YtbbegoklikaphaaZs13
import Derived.Test.YtbbegoklikaphaaZs10
import Derived.Test.YtbbegoklikaphaaZs14
import Derived.Laws.AppendOwnNone
import Derived.Laws.OwnMore
import Derived.Test.YtbbegoklikaphaaZs2
import Derived.Laws.NewBlocks
import Derived.RangeFuncRecord
import Derived.KernelRfl
namespace Go.Proofs.Ytbbegoklikaphaa
set_option linter.unusedVariables false
set_option linter.unusedSimpArgs false
set_option maxRecDepth 100000
open Go.RowKit Go.Lib

set_option maxHeartbeats 1000000 in
theorem lmAhead_any (x y : Bl) (w : World) :
    Calls Try.prog 20 #[.agg x.cells, .agg y.cells] w fun e w' => e = .returned (.bool (decide (cmpB x y < 0))) ∧ Below w.heap.size w w' := by
  obtain ⟨x0, x1, x2, x3⟩ := x
  obtain ⟨y0, y1, y2, y3⟩ := y
  simp only [Bl.cells, cmpB]
  have bl : Below w.heap.size w ((w.alloc (.cells #[.int .i64 x0, .string x1, .string x2, .int .i64 x3] 34)).alloc (.cells #[.int .i64 y0, .string y1, .string y2, .int .i64 y3] 34)) := ((Below.refl _ w).alloc (Nat.le_refl _) _).alloc (by simp) _
  by_cases h0 : x0 = y0
  · subst h0
    have e0 : cmpI x0 x0 = 0 := by simp [cmpI]
    rw [e0, if_neg (by simp)]
    by_cases h1 : x1 = y1
    · subst h1
      rw [if_neg (by simp [ldCmpS_eq.2 rfl])]
      have er : decide (cmpS x2 y2 < 0) = Op.bytesLess x2.toList y2.toList := by rw [Bool.eq_iff_iff, decide_eq_true_eq, cmpS_neg]
      rw [er]
      clear er e0
      go_enter Try.func20, Try.ntmps20
      go_wp2
      go_ret
      exact ⟨rfl, bl⟩
    · have hc : cmpS x1 y1 ≠ 0 := fun h => h1 (ldCmpS_eq.1 h)
      rw [if_pos hc]
      have er : decide (cmpS x1 y1 < 0) = Op.bytesLess x1.toList y1.toList := by rw [Bool.eq_iff_iff, decide_eq_true_eq, cmpS_neg]
      rw [er]
      have h1' : ¬ x1.toList = y1.toList := fun e => h1 (toList_inj e)
      have h1b := en_ne h1
      clear er e0 hc h1
      go_enter Try.func20, Try.ntmps20
      go_wp2
      go_ret
      exact ⟨rfl, bl⟩
  · have hc : cmpI x0 y0 ≠ 0 := by unfold cmpI; split <;> (try split) <;> omega
    rw [if_pos hc]
    have er : decide (cmpI x0 y0 < 0) = decide (x0 < y0) := by
      unfold cmpI
      by_cases h : x0 < y0
      · simp [h]
      · rw [if_neg h]; simp [h]; split <;> omega
    rw [er]
    have h0' : (x0 != y0) = true := by simp [h0]
    clear er hc
    go_enter Try.func20, Try.ntmps20
    go_wp2
    go_ret
    exact ⟨rfl, bl⟩

end Go.Proofs.Ytbbegoklikaphaa

namespace Go.Proofs.Ytbbegoklikaphaa
set_option linter.unusedVariables false
set_option linter.unusedSimpArgs false
set_option maxRecDepth 100000
open Go.RowKit Go.Lib

theorem blsAt_cells {w : World} {b off : Nat} {l : List Bl} (h : BlsAt w b off l) : ∀ j u, (blRow l)[j]? = some u → w.cell? ((⟨b, off, none⟩ : Addr).add j) = some u := fun j u hu => by
  obtain ⟨q, r, hr, rfl⟩ : ∃ q r, r < 4 ∧ j = q * 4 + r := ⟨j / 4, j % 4, Nat.mod_lt _ (by omega), by omega⟩
  have hj : q * 4 + r < (blRow l).length := by
    false_or_by_contra
    rename_i hn
    rw [List.getElem?_eq_none (by omega)] at hu
    cases hu
  rw [blRow_length] at hj
  have hq : q < l.length := by omega
  rw [blRow_get l q r hq hr] at hu
  have hc := h q hq
  obtain ⟨c0, c1, c2, c3⟩ := hc
  have ea : (⟨b, off, none⟩ : Addr).add (q * 4 + r) = ⟨b, off + q * 4 + r, none⟩ := by simp [Addr.add, Nat.add_assoc]
  rw [ea]
  rcases (by omega : r = 0 ∨ r = 1 ∨ r = 2 ∨ r = 3) with rfl | rfl | rfl | rfl
  · rw [Nat.add_zero, c0]; exact hu
  · rw [c1]; exact hu
  · rw [c2]; exact hu
  · rw [c3]; exact hu

/-- Some balances behind a row of one's own. -/
theorem run_appBl (ty : TypeId) (base : Nat) (v : Value) (l1 : List Bl) (w : World) (hown : BlRow w base v l1) (a : Option Addr) (l2 : List Bl) (c : Nat) (h : IsBl w a l2 c) (hlen : l1.length + l2.length ≤ 1000) (hbase : base ≤ w.heap.size) :
    ∃ v' w', (Builtin.append_ #[24, 24] ty #[v, .slice a l2.length c]).run Try.prog w = .ok v' w' ∧ BlRow w' base v' (l1 ++ l2) ∧ w.grownBy w' v.ownBlock := by
  obtain ⟨i, hi, hz0, hz1, hz2⟩ := info_parts bl_info
  rcases a with _ | ⟨b, off, f⟩
  · have e : l2 = [] := by
      rcases h.lies with h | ⟨b, off, e, _⟩
      · exact h
      · cases e
    subst e
    refine ⟨v, w, ?_, by rw [List.append_nil]; exact hown, ⟨rfl, rfl, rfl, Nat.le_refl _, fun _ _ _ => rfl⟩⟩
    rcases hown.2 with ⟨rfl, hn⟩ | ⟨g, cap, cur, rfl, _, _, hnc, _⟩
    · simp [Builtin.append_, run_underlying Try.underlying24, sizeOf, typeInfo, hi, Builtin.lenOf, Builtin.firstCells]
    · simp [Builtin.append_, run_underlying Try.underlying24, sizeOf, typeInfo, hi, Builtin.lenOf, Builtin.firstCells, hnc, storeCells]
  · have hn : ∀ j u, (blRow l2)[j]? = some u → w.cell? ((⟨b, off, f⟩ : Addr).add j) = some u := by
      rcases h.lies with h | ⟨b', off', e, _, hc⟩
      · subst h
        intro j u hu
        simp [blRow] at hu
      · cases e
        exact blsAt_cells hc
    obtain ⟨v', w', hr, h2, h3, _⟩ := run_append_own (P := Try.prog) w base 24 ty 34 i (.agg #[.int .i64 0, .string ByteArray.empty, .string ByteArray.empty, .int .i64 0]) 4 48 Try.underlying24 hi hz0 hz1 hz2 rfl (by decide) v l1.length (blRow l1) hown ⟨b, off, f⟩ l2.length c (blRow l2) (blRow_length l2) hn (blRow_one_cell l2) (by unfold maxLen; omega) (by omega) hbase
    refine ⟨v', w', hr, ?_, h3⟩
    unfold BlRow
    rw [blRow_append, List.length_append]
    exact h2
theorem wpList_appBl {w : World} {ops : Array Oper} {rest : List Oper} {o : Oper} {a : Act} {Q : Exit → Act → World → Prop} (hgd : o.guard = none) (s x : Operand)
    (ho : o.op = .call { callee := .builtin .append, args := #[s, x], argTypes := #[24, 24] })
    (base : Nat) (v : Value) (l1 : List Bl) (hs : a.eval s = v) (hown : BlRow w base v l1) (ad : Option Addr) (m c : Nat) (l2 : List Bl) (hx : a.eval x = .slice ad m c) (hm : l2.length = m) (h : IsBl w ad l2 c) (hlen : l1.length + l2.length ≤ 1000) (hbase : base ≤ w.heap.size)
    (hh : ∀ v' w', BlRow w' base v' (l1 ++ l2) → w.grownBy w' v.ownBlock → wpList Try.prog ops Q rest (a.put o.dst v') w') : wpList Try.prog ops Q (o :: rest) a w := by
  subst hm
  refine wpList_plain hgd fun K hK => ?_
  obtain ⟨v', w', hr, h2, h3⟩ := run_appBl o.type base v l1 w hown ad l2 c h hlen hbase
  unfold Oper.wp execOp
  simp only [ho, resolve, invoke, builtin, Sem.run_bind, Sem.run_pure, Result.andThen_ok, List.map_toArray, List.map_cons, List.map_nil, hs, hx, hr]
  exact hK _ _ (hh v' w' h2 h3)

/-- A balance of a row that is one's own gets another amount. -/
theorem BlRow.setAmt {W : World} {n0 g cap : Nat} {l : List Bl} (h : BlRow W n0 (.slice (some ⟨g, 0, none⟩) l.length cap) l) (k : Nat) (hk : k < l.length) (a : Int) :
    BlRow (W.setCell ⟨g, k * 4 + 3, none⟩ (.int .i64 a)) n0 (.slice (some ⟨g, 0, none⟩) l.length cap) (l.set k ⟨(l.getD k bl0).ent, (l.getD k bl0).acc, (l.getD k bl0).cur, a⟩) ∧ W.frozen? ⟨g, k * 4 + 3, none⟩ = false := by
  rcases h.2 with ⟨hv, _⟩ | ⟨g1, c1, cur, hv, hb, hg, hc, hm, hs, ht⟩
  · cases hv
  cases hv
  have e1 : blRow (l.set k ⟨(l.getD k bl0).ent, (l.getD k bl0).acc, (l.getD k bl0).cur, a⟩) = (blRow l).set (k * 4 + 3) (.int .i64 a) := by
    apply List.ext_getElem?
    intro j
    obtain ⟨q, r, hr, rfl⟩ : ∃ q r, r < 4 ∧ j = q * 4 + r := ⟨j / 4, j % 4, Nat.mod_lt _ (by omega), by omega⟩
    by_cases hq : q < l.length
    · rw [blRow_get _ q r (by simpa using hq) hr, List.getElem?_set]
      by_cases hqk : q = k
      · subst hqk
        rw [List.getD_eq_getElem?_getD, List.getElem?_set_self hq, Option.getD_some]
        by_cases hr2 : r = 3
        · subst hr2
          rw [if_pos rfl, if_pos (by rw [blRow_length]; omega)]
          rfl
        · rw [if_neg (by omega), blRow_get l q r hq hr]
          rcases (by omega : r = 0 ∨ r = 1 ∨ r = 2) with rfl | rfl | rfl <;> rfl
      · rw [if_neg (by omega), blRow_get l q r hq hr, List.getD_eq_getElem?_getD, List.getElem?_set_ne (fun e => hqk e.symm), ← List.getD_eq_getElem?_getD]
    · rw [List.getElem?_eq_none (by rw [blRow_length, List.length_set]; omega), List.getElem?_eq_none (by rw [List.length_set, blRow_length]; omega)]
  refine ⟨⟨by rw [blRow_length, List.length_set], .inr ⟨g, cap, cur.setIfInBounds (k * 4 + 3) (.int .i64 a), by rw [List.length_set], hb, ?_, by rw [List.length_set]; exact hc, hm, by simpa using hs, ?_⟩⟩, by simp [World.frozen?, hg]⟩
  · rw [setCell_eq_setRow W g (k * 4 + 3) cur 34 (0, 0) _ hg]
    exact setRow_heap W g cur _ 34 (0, 0) hg
  · rw [e1, List.length_set, ← ht, Array.toList_setIfInBounds, List.take_set]

theorem full_take (l : List Bl) (k : Nat) (h : k < l.length) : full (l.take (k + 1)) = if (l.getD k bl0).amt = 0 then full (l.take k) else full (l.take k) ++ [l.getD k bl0] := by
  rw [bls_take l k h]
  generalize l.getD k bl0 = x
  unfold full
  rw [List.filter_append]
  by_cases h0 : x.amt = 0
  · rw [if_pos h0, List.filter_cons, if_neg (by simp [h0])]; simp
  · rw [if_neg h0, List.filter_cons, if_pos (by simp [h0])]; simp
theorem full_length (l : List Bl) : (full l).length ≤ l.length := List.length_filter_le _ _

set_option maxHeartbeats 4000000 in
theorem lmFull_any (a : Option Addr) (cap : Nat) (l : List Bl) (w : World) (hlen : l.length ≤ 400) (h : IsBl w a l cap) :
    Calls Try.prog 10 #[.slice a l.length cap] w fun e w' => ∃ v, e = .returned v ∧ Hid (BlRow w' w.heap.size v (full l) ∧ Below w.heap.size w w') := by
  have HL : Hid (IsBl w a l cap) := h
  clear h
  go_enter Try.func10, Try.ntmps10
  go_wp2
  go_loopw [3, 4] (fun v i wr => ∃ (k : Nat) (va : Option Addr) (vn vc : Nat), k ≤ l.length ∧ i = .int .i64 k ∧ v = .slice va vn vc ∧ Hid (BlRow wr w.heap.size (.slice va vn vc) (full (l.take k)) ∧ Below w.heap.size w wr)) (fun _ i _ => l.length - (RowKit.intOf i).toNat)
  case atStart => exact ⟨0, none, 0, 0, Nat.zero_le _, rfl, rfl, BlRow.nil _ _, Below.refl _ _⟩
  case round =>
    obtain ⟨k, va, vn, vc, hk, rfl, rfl, HR⟩ := hrel
    by_cases hlt : k < l.length
    · obtain ⟨b, off, rfl, hb, hc⟩ := HL.out.some hlt
      have hx := (hc k hlt).below HR.out.2 hb
      have i0 : (0 : Int) ≤ k := by omega
      have i3 : (k : Int) < l.length := by omega
      have hft := full_take l k hlt
      obtain ⟨x, hxx⟩ : ∃ x, l.getD k bl0 = x := ⟨_, rfl⟩
      rw [hxx] at hx hft
      have HFT : Hid (full (l.take (k + 1)) = if x.amt = 0 then full (l.take k) else full (l.take k) ++ [x]) := hft
      have Hfl : Hid ((full (l.take k)).length ≤ 400) := by
        have := full_length (l.take k)
        rw [List.length_take] at this
        unfold Hid
        omega
      clear hft hxx hc
      obtain ⟨x0, x1, x2, x3⟩ := x
      obtain ⟨d0, d1, d2, d3⟩ := hx
      simp only at d0 d1 d2 d3 HFT
      by_cases c0 : x3 = 0
      · have HN : Hid (BlRow wr w.heap.size (.slice va vn vc) (full (l.take (k + 1))) ∧ Below w.heap.size w wr) := by
          unfold Hid
          rw [HFT.out, if_pos c0]
          exact HR.out
        have c0' : (x3 != 0) = false := by simp [c0]
        subst c0
        clear HR
        go_wp2
        go_roundw
        case rel => exact ⟨k + 1, va, vn, vc, by omega, by go_num, rfl, HN⟩
        case measure => simp [RowKit.intOf]; omega
      · have c0' : (x3 != 0) = true := by simp [c0]
        obtain ⟨Z, hZ⟩ : ∃ Z, wr.alloc (.cells #[.int .i64 x0, .string x1, .string x2, .int .i64 x3] 34) = Z := ⟨_, rfl⟩
        have hbZ : Below wr.heap.size wr Z := by rw [← hZ]; exact (Below.refl _ _).alloc (Nat.le_refl _) _
        have HSrc : Hid (IsBl Z (some ⟨wr.heap.size, 0, none⟩) [⟨x0, x1, x2, x3⟩] 1) := by
          refine ⟨Nat.le_refl _, .inr ⟨_, _, rfl, by rw [← hZ]; simp, fun j hj => ?_⟩⟩
          have : j = 0 := by simpa using hj
          subst this
          rw [← hZ]
          exact BlAt.new wr ⟨x0, x1, x2, x3⟩ 34
        have HZr : Hid (BlRow Z w.heap.size (.slice va vn vc) (full (l.take k))) := HR.out.1.below hbZ
        have HNw : Hid (∀ v' U, BlRow U w.heap.size v' (full (l.take k) ++ [⟨x0, x1, x2, x3⟩]) → Z.grownBy U (Value.slice va vn vc).ownBlock → BlRow U w.heap.size v' (full (l.take (k + 1))) ∧ Below w.heap.size w U) := fun v' U ho hg => by
          refine ⟨?_, (HR.out.2.trans (hbZ.mono HR.out.2.size)).grown hg (Nat.le_trans HR.out.2.size hbZ.size) (fun g e => (row_block HZr.out e).1)⟩
          rw [HFT.out, if_neg c0]
          exact ho
        have Hsz : Hid (w.heap.size ≤ Z.heap.size) := Nat.le_trans HR.out.2.size hbZ.size
        have HZ : Hid (wr.alloc (.cells #[.int .i64 x0, .string x1, .string x2, .int .i64 x3] 34) = Z) := hZ
        have Hle : Hid ((full (l.take k)).length + [(⟨x0, x1, x2, x3⟩ : Bl)].length ≤ 1000) := by have := Hfl.out; unfold Hid; simp; omega
        clear hbZ hZ HR HFT
        go_wp2_with (at_builtin; rw [HZ.out]; refine wpList_appBl rfl _ _ rfl w.heap.size _ _ rfl HZr.out _ 1 1 _ rfl rfl HSrc.out Hle.out Hsz.out ?_)
        intro v' U ho hg
        have HG : Hid (BlRow U w.heap.size v' (full (l.take (k + 1))) ∧ Below w.heap.size w U) := HNw.out v' U ho hg
        obtain ⟨a9, c9, e9, -⟩ := HG.out.1.isBl
        subst e9
        clear ho hg HNw HSrc HZr
        go_wp2_with fail
        go_roundw
        case rel => exact ⟨k + 1, _, _, _, by omega, by go_num, rfl, HG⟩
        case measure => simp [RowKit.intOf]; omega
    · obtain rfl : k = l.length := by omega
      have HR2 : Hid (BlRow wr w.heap.size (.slice va vn vc) (full l) ∧ Below w.heap.size w wr) := by
        have := HR.out
        rw [List.take_length] at this
        exact this
      clear HR
      go_wp2
      go_ret
      exact ⟨_, rfl, HR2⟩
end Go.Proofs.Ytbbegoklikaphaa

namespace Go.Proofs.Ytbbegoklikaphaa
set_option linter.unusedVariables false
set_option linter.unusedSimpArgs false
set_option maxRecDepth 100000
open Go.RowKit Go.Lib

def blA (a : Option Addr) (cap k : Nat) : Option Addr := if cap = k then a else a.map (·.add (k * 4))
theorem bls_under : Try.prog.underlying 24 = some (.slice (Try.prog.elem 24)) := by kernel_rfl
theorem bls_size (W : World) : (sizeOf (Try.prog.elem 24)).run Try.prog W = .ok 4 W := by
  obtain ⟨i, hi, hz0, hz1, hz2⟩ := info_parts bl_info
  rw [show Try.prog.elem 24 = 34 by kernel_rfl]
  simp [sizeOf, typeInfo, hi, hz1]
theorem run_blH (a : Option Addr) (L cap m : Nat) (hm : m ≤ cap) (W : World) : (Instr.slice 24 (.slice a L cap) none (some (.int .i64 (m : Int))) none).run Try.prog W = .ok (.slice (blA a cap 0) m cap) W := by
  rw [run_slice_h W 24 a L cap bls_under .i64 m (by omega) (by omega), bls_size]
  simp [Result.andThen, sliced, blA]
theorem run_blL (a : Option Addr) (L cap k : Nat) (hk : k ≤ L) (W : World) : (Instr.slice 24 (.slice a L cap) (some (.int .i64 (k : Int))) none none).run Try.prog W = .ok (.slice (blA a cap k) (L - k) (cap - k)) W := by
  rw [run_slice_l W 24 a L cap bls_under .i64 k (by omega) (by omega), bls_size]
  simp [Result.andThen, sliced, blA]
theorem IsBl.take {W : World} {a : Option Addr} {l : List Bl} {cap : Nat} (h : IsBl W a l cap) (k : Nat) (hk : k ≤ l.length) : IsBl W (blA a cap 0) (l.take k) cap := by
  refine ⟨by have := h.cap; rw [List.length_take]; omega, ?_⟩
  rcases h.lies with h0 | ⟨b, off, rfl, hb, hc⟩
  · subst h0; exact .inl (by simp)
  · right
    refine ⟨b, off, ?_, hb, fun j hj => ?_⟩
    · unfold blA
      split
      · rfl
      · simp [Addr.add]
    · rw [List.length_take] at hj
      have := hc j (by omega)
      rw [List.getD_eq_getElem?_getD, List.getElem?_take, if_pos (by omega), ← List.getD_eq_getElem?_getD]
      exact this
theorem IsBl.drop {W : World} {a : Option Addr} {l : List Bl} {cap : Nat} (h : IsBl W a l cap) (k : Nat) (hk : k ≤ l.length) : IsBl W (blA a cap k) (l.drop k) (cap - k) := by
  have hcap := h.cap
  refine ⟨by rw [List.length_drop]; omega, ?_⟩
  by_cases he : cap = k
  · exact .inl (List.drop_eq_nil_of_le (by omega))
  · rcases h.lies with h0 | ⟨b, off, rfl, hb, hc⟩
    · subst h0; exact .inl (by simp)
    · refine .inr ⟨b, off + k * 4, by unfold blA; rw [if_neg he]; simp [Addr.add], hb, fun j hj => ?_⟩
      rw [List.length_drop] at hj
      have := hc (k + j) (by omega)
      rw [List.getD_eq_getElem?_getD, List.getElem?_drop, ← List.getD_eq_getElem?_getD]
      rw [show off + k * 4 + j * 4 = off + (k + j) * 4 by omega]
      exact this

set_option maxHeartbeats 8000000 in
theorem lmPut_any (a : Option Addr) (cap : Nat) (l : List Bl) (x : Bl) (w : World) (hlen : l.length ≤ 400) (h : IsBl w a l cap)
    (hov : ∀ y ∈ l, y.key = x.key → -9223372036854775808 ≤ y.amt + x.amt ∧ y.amt + x.amt ≤ 9223372036854775807) :
    Calls Try.prog 8 #[.slice a l.length cap, .agg x.cells] w fun e w' => ∃ v, e = .returned v ∧ Hid (BlRow w' w.heap.size v (putB l x) ∧ Below w.heap.size w w') := by
  have HL : Hid (IsBl w a l cap) := h
  have Hov : Hid (∀ y ∈ l, y.key = x.key → -9223372036854775808 ≤ y.amt + x.amt ∧ y.amt + x.amt ≤ 9223372036854775807) := hov
  have hcap := h.cap
  clear h hov
  obtain ⟨x0, x1, x2, x3⟩ := x
  simp only [Bl.cells]
  obtain ⟨W1, hW1⟩ : ∃ W1, w.alloc (.cells #[.int .i64 x0, .string x1, .string x2, .int .i64 x3] 34) = W1 := ⟨_, rfl⟩
  have hbx : W1.heap[w.heap.size]? = some (.cells #[.int .i64 x0, .string x1, .string x2, .int .i64 x3] 34 (0, 0)) := by rw [← hW1]; exact ld_new_heap w _
  have HB0 : Hid (Below w.heap.size w W1) := by rw [← hW1]; exact (Below.refl _ _).alloc (Nat.le_refl _) _
  have HX : Hid (∀ U, Below W1.heap.size W1 U → U.cell? ⟨w.heap.size, 0, none⟩ = some (.int .i64 x0) ∧ U.cell? ⟨w.heap.size, 1, none⟩ = some (.string x1) ∧ U.cell? ⟨w.heap.size, 2, none⟩ = some (.string x2) ∧ U.cell? ⟨w.heap.size, 3, none⟩ = some (.int .i64 x3)) := fun U hU => by
    have hlt' : w.heap.size < W1.heap.size := (Array.getElem?_eq_some_iff.1 hbx).1
    have e := (hU.block _ hlt').trans hbx
    simp [World.cell?, e]
  have HW1 : Hid (w.alloc (.cells #[.int .i64 x0, .string x1, .string x2, .int .i64 x3] 34) = W1) := hW1
  have HSz : Hid (w.heap.size < W1.heap.size) := (Array.getElem?_eq_some_iff.1 hbx).1
  clear hW1 hbx
  go_enter Try.func8, Try.ntmps8
  go_wp2
  rw [HW1.out]
  clear HW1
  obtain ⟨B, hB⟩ : ∃ B, w.heap.size = B := ⟨_, rfl⟩
  have HBn : Hid (w.heap.size = B) := hB
  have Hbl : Hid (Below B w W1) := by unfold Hid; rw [← hB]; exact HB0.out
  rw [hB] at HX HSz ⊢
  clear hB
  go_loopw [5] (fun i wr => ∃ k : Nat, k ≤ l.length ∧ i = .int .i64 k ∧ Hid (∀ j, j < k → cmpB (l.getD j bl0) ⟨x0, x1, x2, x3⟩ < 0) ∧ Hid (Below W1.heap.size W1 wr)) (fun i _ => l.length - (RowKit.intOf i).toNat)
  case atStart => exact ⟨0, Nat.zero_le _, rfl, fun j hj => by omega, Below.refl _ _⟩
  case round =>
    obtain ⟨k, hk, rfl, HA, HWx⟩ := hrel
    have HWb : Hid (Below w.heap.size w wr) := HB0.out.trans (HWx.out.mono HB0.out.size)
    go_upto_region 2 with fail
    go_cut [19] from 8 to 19 (fun t wx => t = .bool (decide (k < l.length ∧ cmpB (l.getD k bl0) ⟨x0, x1, x2, x3⟩ < 0)) ∧ Hid (Below wr.heap.size wr wx))
    case first =>
      by_cases hlt : k < l.length
      · obtain ⟨b, off, rfl, hb, hc⟩ := HL.out.some hlt
        have hy := (hc k hlt).below HWb.out hb
        obtain ⟨c, hcc⟩ : ∃ c, decide (cmpB (l.getD k bl0) ⟨x0, x1, x2, x3⟩ < 0) = c := ⟨_, rfl⟩
        have HER : Hid (decide (k < l.length ∧ cmpB (l.getD k bl0) ⟨x0, x1, x2, x3⟩ < 0) = c) := by
          unfold Hid
          rw [← hcc, Bool.eq_iff_iff]
          simp [hlt]
        have HCm : Hid (∀ W, Calls Try.prog 20 #[.agg (l.getD k bl0).cells, .agg (Bl.mk x0 x1 x2 x3).cells] W fun e w' => e = .returned (.bool c) ∧ Below W.heap.size W w') := fun W => by
          have := lmAhead_any (l.getD k bl0) (Bl.mk x0 x1 x2 x3) W
          rw [hcc] at this
          exact this
        clear hcc
        generalize l.getD k bl0 = y at hy HCm
        obtain ⟨y0, y1, y2, y3⟩ := y
        obtain ⟨d0, d1, d2, d3⟩ := hy
        obtain ⟨f0, f1, f2, f3⟩ := HX.out wr HWx.out
        simp only [Bl.cells] at d0 d1 d2 d3 f0 f1 f2 f3 HCm
        have hbW : b < wr.heap.size := Nat.lt_of_lt_of_le hb HWb.out.size
        have hBW : B < wr.heap.size := Nat.lt_of_lt_of_le HSz.out HWx.out.size
        have HK : Hid (∀ W V, Below W.heap.size W V → b < W.heap.size → B < W.heap.size → (W.cell? ⟨b, off + k * 4, none⟩ = some (.int .i64 y0) ∧ W.cell? ⟨b, off + k * 4 + 1, none⟩ = some (.string y1) ∧ W.cell? ⟨b, off + k * 4 + 2, none⟩ = some (.string y2) ∧ W.cell? ⟨b, off + k * 4 + 3, none⟩ = some (.int .i64 y3)) ∧ W.cell? ⟨B, 0, none⟩ = some (.int .i64 x0) ∧ W.cell? ⟨B, 1, none⟩ = some (.string x1) ∧ W.cell? ⟨B, 2, none⟩ = some (.string x2) ∧ W.cell? ⟨B, 3, none⟩ = some (.int .i64 x3) → (V.cell? ⟨b, off + k * 4, none⟩ = some (.int .i64 y0) ∧ V.cell? ⟨b, off + k * 4 + 1, none⟩ = some (.string y1) ∧ V.cell? ⟨b, off + k * 4 + 2, none⟩ = some (.string y2) ∧ V.cell? ⟨b, off + k * 4 + 3, none⟩ = some (.int .i64 y3)) ∧ V.cell? ⟨B, 0, none⟩ = some (.int .i64 x0) ∧ V.cell? ⟨B, 1, none⟩ = some (.string x1) ∧ V.cell? ⟨B, 2, none⟩ = some (.string x2) ∧ V.cell? ⟨B, 3, none⟩ = some (.int .i64 x3)) := fun W V hB hlt hlt2 hh => by
          have C : ∀ o, V.cell? ⟨b, o, none⟩ = W.cell? ⟨b, o, none⟩ := fun o => hB.cell (p := ⟨b, o, none⟩) hlt
          have C2 : ∀ o, V.cell? ⟨B, o, none⟩ = W.cell? ⟨B, o, none⟩ := fun o => hB.cell (p := ⟨B, o, none⟩) hlt2
          simp only [C, C2]
          exact hh
        have j0 : (0 : Int) ≤ k := by omega
        have j1 : (k : Int) < l.length := by omega
        clear HX HL HSz HWb HWx HB0 hc
        go_wp2_with fail
        go_region_held3 (fun u => (u.cell? ⟨b, off + k * 4, none⟩ = some (.int .i64 y0) ∧ u.cell? ⟨b, off + k * 4 + 1, none⟩ = some (.string y1) ∧ u.cell? ⟨b, off + k * 4 + 2, none⟩ = some (.string y2) ∧ u.cell? ⟨b, off + k * 4 + 3, none⟩ = some (.int .i64 y3)) ∧ u.cell? ⟨B, 0, none⟩ = some (.int .i64 x0) ∧ u.cell? ⟨B, 1, none⟩ = some (.string x1) ∧ u.cell? ⟨B, 2, none⟩ = some (.string x2) ∧ u.cell? ⟨B, 3, none⟩ = some (.int .i64 x3)) (go_keep) (first | (go_at_call 20; refine (HCm.out _).mono ?_; rintro e w' ⟨rfl, hb'⟩; obtain ⟨⟨p0, p1, p2, p3⟩, p4, p5, p6, p7⟩ := HK.out _ _ hb' (by simpa using hbW) (by simpa using hBW) (by simpa using ⟨⟨d0, d1, d2, d3⟩, f0, f1, f2, f3⟩)))
        all_goals
          go_wp2
          go_meet
          case rel => exact ⟨by rw [HER.out], (Below.refl _ _).drew.trans hb'⟩
      · have j1 : ¬ (k : Int) < l.length := by omega
        have HER : Hid (decide (k < l.length ∧ cmpB (l.getD k bl0) ⟨x0, x1, x2, x3⟩ < 0) = false) := by
          unfold Hid
          simp [hlt]
        go_wp2_with fail
        go_quiet (fail)
        rename Nat => nk
        have HZ : Hid (Below wr.heap.size wr (wr.drewN nk)) := en_drewN (Below.refl _ _) nk
        go_wp2
        go_meet
        case rel => exact ⟨by rw [HER.out], HZ⟩
    case rest =>
      obtain ⟨rfl, HBc⟩ := hcut
      have HCx : Hid (Below W1.heap.size W1 wc) := HWx.out.trans (HBc.out.mono HWx.out.size)
      clear HBc HWx HWb
      by_cases c1 : k < l.length ∧ cmpB (l.getD k bl0) ⟨x0, x1, x2, x3⟩ < 0
      · rw [decide_eq_true c1]
        have hlt := c1.1
        have HA2 : Hid (∀ j, j < k + 1 → cmpB (l.getD j bl0) ⟨x0, x1, x2, x3⟩ < 0) := fun j hj => by
          rcases (by omega : j < k ∨ j = k) with h | rfl
          · exact HA.out j h
          · exact c1.2
        clear c1 HA
        go_wp2
        go_roundw
        case rel => exact ⟨k + 1, by omega, by go_num, HA2, HCx⟩
        case measure => simp [RowKit.intOf]; omega
      · rw [decide_eq_false c1]
        have HKA : Hid (k = putAt l ⟨x0, x1, x2, x3⟩) := putAt_eq HA.out (fun h1 h2 => c1 ⟨h1, h2⟩) hk
        have HWb : Hid (Below w.heap.size w wc) := HB0.out.trans (HCx.out.mono HB0.out.size)
        have HIL : Hid (IsBl wc a l cap) := HL.out.below HWb.out
        have HNil : Hid (BlRow wc B (.slice none 0 0) []) := BlRow.nil _ _
        have Hsz : Hid (B ≤ wc.heap.size) := by have := HWb.out.size; rw [HBn.out] at this; exact this
        have Hle : Hid (([] : List Bl).length + l.length ≤ 1000) := by unfold Hid; simp; omega
        clear c1 HA
        go_wp2_with (at_builtin; refine wpList_appBl rfl _ _ rfl B _ [] rfl HNil.out a l.length cap l rfl rfl HIL.out Hle.out Hsz.out ?_)
        intro vo wo ho hg
        have HO : Hid (BlRow wo B vo l) := ho
        have HOb : Hid (Below wc.heap.size wc wo) := (Below.refl _ _).grown hg (Nat.le_refl _) (fun g e => by cases e)
        have HWx : Hid (Below W1.heap.size W1 wo) := HCx.out.trans (HOb.out.mono HCx.out.size)
        have HWb2 : Hid (Below w.heap.size w wo) := HB0.out.trans (HWx.out.mono HB0.out.size)
        clear ho hg HNil HIL HOb HCx HWb Hsz Hle
        have HWb := HWb2
        clear HWb2
        go_upto_region 6 with fail
        go_cut [37] from 25 to 37 (fun t wx => t = .bool (decide (k < l.length ∧ ¬ cmpB ⟨x0, x1, x2, x3⟩ (l.getD k bl0) < 0)) ∧ Hid (Below wo.heap.size wo wx))
        case first =>
          by_cases hlt : k < l.length
          · obtain ⟨b, off, rfl, hb, hc⟩ := HL.out.some hlt
            have hy := (hc k hlt).below HWb.out hb
            obtain ⟨c, hcc⟩ : ∃ c, decide (cmpB ⟨x0, x1, x2, x3⟩ (l.getD k bl0) < 0) = c := ⟨_, rfl⟩
            have HER : Hid (decide (k < l.length ∧ ¬ cmpB ⟨x0, x1, x2, x3⟩ (l.getD k bl0) < 0) = !c) := by
              unfold Hid
              rw [← hcc, Bool.eq_iff_iff]
              simp [hlt]
            have HCm : Hid (∀ W, Calls Try.prog 20 #[.agg (Bl.mk x0 x1 x2 x3).cells, .agg (l.getD k bl0).cells] W fun e w' => e = .returned (.bool c) ∧ Below W.heap.size W w') := fun W => by
              have := lmAhead_any (Bl.mk x0 x1 x2 x3) (l.getD k bl0) W
              rw [hcc] at this
              exact this
            clear hcc
            generalize l.getD k bl0 = y at hy HCm
            obtain ⟨y0, y1, y2, y3⟩ := y
            obtain ⟨d0, d1, d2, d3⟩ := hy
            obtain ⟨f0, f1, f2, f3⟩ := HX.out wo HWx.out
            simp only [Bl.cells] at d0 d1 d2 d3 f0 f1 f2 f3 HCm
            have hbW : b < wo.heap.size := Nat.lt_of_lt_of_le hb HWb.out.size
            have hBW : B < wo.heap.size := Nat.lt_of_lt_of_le HSz.out HWx.out.size
            have HK : Hid (∀ W V, Below W.heap.size W V → b < W.heap.size → B < W.heap.size → (W.cell? ⟨b, off + k * 4, none⟩ = some (.int .i64 y0) ∧ W.cell? ⟨b, off + k * 4 + 1, none⟩ = some (.string y1) ∧ W.cell? ⟨b, off + k * 4 + 2, none⟩ = some (.string y2) ∧ W.cell? ⟨b, off + k * 4 + 3, none⟩ = some (.int .i64 y3)) ∧ W.cell? ⟨B, 0, none⟩ = some (.int .i64 x0) ∧ W.cell? ⟨B, 1, none⟩ = some (.string x1) ∧ W.cell? ⟨B, 2, none⟩ = some (.string x2) ∧ W.cell? ⟨B, 3, none⟩ = some (.int .i64 x3) → (V.cell? ⟨b, off + k * 4, none⟩ = some (.int .i64 y0) ∧ V.cell? ⟨b, off + k * 4 + 1, none⟩ = some (.string y1) ∧ V.cell? ⟨b, off + k * 4 + 2, none⟩ = some (.string y2) ∧ V.cell? ⟨b, off + k * 4 + 3, none⟩ = some (.int .i64 y3)) ∧ V.cell? ⟨B, 0, none⟩ = some (.int .i64 x0) ∧ V.cell? ⟨B, 1, none⟩ = some (.string x1) ∧ V.cell? ⟨B, 2, none⟩ = some (.string x2) ∧ V.cell? ⟨B, 3, none⟩ = some (.int .i64 x3)) := fun W V hB hlt hlt2 hh => by
              have C : ∀ o, V.cell? ⟨b, o, none⟩ = W.cell? ⟨b, o, none⟩ := fun o => hB.cell (p := ⟨b, o, none⟩) hlt
              have C2 : ∀ o, V.cell? ⟨B, o, none⟩ = W.cell? ⟨B, o, none⟩ := fun o => hB.cell (p := ⟨B, o, none⟩) hlt2
              simp only [C, C2]
              exact hh
            have j0 : (0 : Int) ≤ k := by omega
            have j1 : (k : Int) < l.length := by omega
            clear HX HL HSz HWb HWx HB0 hc
            go_wp2_with fail
            go_region_held3 (fun u => (u.cell? ⟨b, off + k * 4, none⟩ = some (.int .i64 y0) ∧ u.cell? ⟨b, off + k * 4 + 1, none⟩ = some (.string y1) ∧ u.cell? ⟨b, off + k * 4 + 2, none⟩ = some (.string y2) ∧ u.cell? ⟨b, off + k * 4 + 3, none⟩ = some (.int .i64 y3)) ∧ u.cell? ⟨B, 0, none⟩ = some (.int .i64 x0) ∧ u.cell? ⟨B, 1, none⟩ = some (.string x1) ∧ u.cell? ⟨B, 2, none⟩ = some (.string x2) ∧ u.cell? ⟨B, 3, none⟩ = some (.int .i64 x3)) (go_keep) (first | (go_at_call 20; refine (HCm.out _).mono ?_; rintro e w' ⟨rfl, hb'⟩; obtain ⟨⟨p0, p1, p2, p3⟩, p4, p5, p6, p7⟩ := HK.out _ _ hb' (by simpa using hbW) (by simpa using hBW) (by simpa using ⟨⟨d0, d1, d2, d3⟩, f0, f1, f2, f3⟩)))
            all_goals
              go_wp2
              go_meet
              case rel => exact ⟨by rw [HER.out], (Below.refl _ _).drew.trans hb'⟩
          · have j1 : ¬ (k : Int) < l.length := by omega
            have HER : Hid (decide (k < l.length ∧ ¬ cmpB ⟨x0, x1, x2, x3⟩ (l.getD k bl0) < 0) = false) := by
              unfold Hid
              simp [hlt]
            go_wp2_with fail
            go_quiet (fail)
            rename Nat => nk
            have HZ : Hid (Below wo.heap.size wo (wo.drewN nk)) := en_drewN (Below.refl _ _) nk
            go_wp2
            go_meet
            case rel => exact ⟨by rw [HER.out], HZ⟩
        case rest =>
          obtain ⟨rfl, HBc⟩ := hcut
          have HCx : Hid (Below W1.heap.size W1 wc) := HWx.out.trans (HBc.out.mono HWx.out.size)
          have HWc : Hid (Below w.heap.size w wc) := HWb.out.trans (HBc.out.mono HWb.out.size)
          have HOc : Hid (BlRow wc B vo l) := HO.out.below HBc.out
          obtain ⟨f0, f1, f2, f3⟩ := HX.out wc HCx.out
          clear HBc HWx HWb HO
          by_cases c2 : k < l.length ∧ ¬ cmpB ⟨x0, x1, x2, x3⟩ (l.getD k bl0) < 0
          · rw [decide_eq_true c2]
            have hlt := c2.1
            have hst := putAt_stop l ⟨x0, x1, x2, x3⟩ (by rw [← HKA.out]; exact hlt)
            rw [← HKA.out] at hst
            have hke : (l.getD k bl0).key = (⟨x0, x1, x2, x3⟩ : Bl).key := by
              false_or_by_contra
              rename_i hne
              exact c2.2 (cmpB_total hst hne)
            have hov := Hov.out _ (bls_mem l k hlt) hke
            have HPut : Hid (putB l ⟨x0, x1, x2, x3⟩ = l.set k ((l.getD k bl0).plus ⟨x0, x1, x2, x3⟩)) := by
              unfold Hid
              rw [putB_eq, ← HKA.out, if_pos c2, List.set_eq_take_append_cons_drop, if_pos hlt]
            obtain ⟨g, vc, rfl⟩ : ∃ g vc, vo = .slice (some ⟨g, 0, none⟩) l.length vc := by
              rcases HOc.out.2 with ⟨_, h0⟩ | ⟨g, cp, cur, rfl, _⟩
              · omega
              · exact ⟨g, cp, rfl⟩
            have hy : BlAt wc g (k * 4) (l.getD k bl0) := by
              obtain ⟨a', cq', hv, hsl'⟩ := HOc.out.isBl
              cases hv
              rcases hsl'.lies with h | ⟨b', off', e, _, hc'⟩
              · rw [h] at hlt; simp at hlt
              · cases e
                have := hc' k hlt
                rwa [Nat.zero_add] at this
            have hgb := HOc.out.own g rfl
            obtain ⟨R3, hfz⟩ := BlRow.setAmt HOc.out k hlt ((l.getD k bl0).amt + x3)
            have HR3 : Hid (BlRow (wc.setCell ⟨g, k * 4 + 3, none⟩ (.int .i64 ((l.getD k bl0).amt + x3))).drew w.heap.size (.slice (some ⟨g, 0, none⟩) l.length vc) (putB l ⟨x0, x1, x2, x3⟩) ∧ Below w.heap.size w (wc.setCell ⟨g, k * 4 + 3, none⟩ (.int .i64 ((l.getD k bl0).amt + x3))).drew) := by
              refine ⟨?_, (HWc.out.setCell (p := ⟨g, k * 4 + 3, none⟩) (by rw [HBn.out]; exact hgb) _).drew⟩
              rw [HPut.out, HBn.out]
              exact R3
            obtain ⟨y, hyy⟩ : ∃ y, l.getD k bl0 = y := ⟨_, rfl⟩
            rw [hyy] at hy HR3 hov
            obtain ⟨y0, y1, y2, y3⟩ := y
            obtain ⟨d0, d1, d2, d3⟩ := hy
            simp only at d0 d1 d2 d3 HR3 hov
            have hwrap : IntKind.i64.wrap (y3 + x3) = y3 + x3 := by
              obtain ⟨o1, o2⟩ := hov
              rw [IntKind.wrap_i64]; omega
            have j0 : (0 : Int) ≤ k := by omega
            have j1 : (k : Int) < l.length := by omega
            clear R3 hyy hov hke hst HKA Hov HOc c2 HPut
            go_wp2
            go_region
            all_goals
              go_wp2
              go_ret
              exact ⟨_, rfl, HR3⟩
          · rw [decide_eq_false c2]
            have HPut : Hid (putB l ⟨x0, x1, x2, x3⟩ = l.take k ++ ⟨x0, x1, x2, x3⟩ :: l.drop k) := by
              unfold Hid
              rw [putB_eq, ← HKA.out, if_neg c2]
            have s1 : ∀ U, (Instr.slice 24 (.slice a l.length cap) none (some (.int .i64 (k : Int))) none).run Try.prog U = .ok (.slice (blA a cap 0) k cap) U := fun U => run_blH a l.length cap k (by omega) U
            have s2 : ∀ U, (Instr.slice 24 (.slice a l.length cap) (some (.int .i64 (k : Int))) none none).run Try.prog U = .ok (.slice (blA a cap k) (l.length - k) (cap - k)) U := fun U => run_blL a l.length cap k hk U
            have HIL : Hid (IsBl wc a l cap) := HL.out.below HWc.out
            have HIT : Hid (IsBl wc (blA a cap 0) (l.take k) cap) := HIL.out.take k hk
            have Hlt : Hid ((l.take k).length = k) := by unfold Hid; rw [List.length_take]; omega
            have Hld : Hid ((l.drop k).length = l.length - k) := by unfold Hid; rw [List.length_drop]
            have HNil : Hid (BlRow wc B (.slice none 0 0) []) := BlRow.nil _ _
            have Hsz : Hid (B ≤ wc.heap.size) := by have := HWc.out.size; rw [HBn.out] at this; exact this
            have Hle : Hid (([] : List Bl).length + (l.take k).length ≤ 1000) := by have := Hlt.out; unfold Hid; simp only [List.length_nil]; omega
            clear c2 HOc HKA Hov
            go_wp2_with (at_builtin; refine wpList_appBl rfl _ _ rfl B _ [] rfl HNil.out _ k cap (l.take k) rfl Hlt.out HIT.out Hle.out Hsz.out ?_)
            intro v1 w1 h1 g1
            have HO1 : Hid (BlRow w1 B v1 (l.take k)) := h1
            have HW1b : Hid (Below wc.heap.size wc w1) := (Below.refl _ _).grown g1 (Nat.le_refl _) (fun g e => by cases e)
            obtain ⟨f0, f1, f2, f3⟩ := HX.out w1 (HCx.out.trans (HW1b.out.mono HCx.out.size))
            obtain ⟨Z, hZ⟩ : ∃ Z, w1.alloc (.cells #[.int .i64 x0, .string x1, .string x2, .int .i64 x3] 34) = Z := ⟨_, rfl⟩
            have hbZ : Below w1.heap.size w1 Z := by rw [← hZ]; exact (Below.refl _ _).alloc (Nat.le_refl _) _
            have HSrc : Hid (IsBl Z (some ⟨w1.heap.size, 0, none⟩) [⟨x0, x1, x2, x3⟩] 1) := by
              refine ⟨Nat.le_refl _, .inr ⟨_, _, rfl, by rw [← hZ]; simp, fun j hj => ?_⟩⟩
              have : j = 0 := by simpa using hj
              subst this
              rw [← hZ]
              exact BlAt.new w1 ⟨x0, x1, x2, x3⟩ 34
            have HO1Z : Hid (BlRow Z B v1 (l.take k)) := HO1.out.below hbZ
            have HWZ : Hid (Below wc.heap.size wc Z) := HW1b.out.trans (hbZ.mono HW1b.out.size)
            have HszZ : Hid (B ≤ Z.heap.size) := Nat.le_trans Hsz.out HWZ.out.size
            have HZ : Hid (w1.alloc (.cells #[.int .i64 x0, .string x1, .string x2, .int .i64 x3] 34) = Z) := hZ
            have Hle2 : Hid ((l.take k).length + [(⟨x0, x1, x2, x3⟩ : Bl)].length ≤ 1000) := by have := Hlt.out; unfold Hid; simp only [List.length_cons, List.length_nil]; omega
            clear hbZ hZ h1 g1 HIT HO1 HW1b
            go_wp2_with (at_builtin; rw [HZ.out]; refine wpList_appBl rfl _ _ rfl B _ _ rfl HO1Z.out _ 1 1 _ rfl rfl HSrc.out Hle2.out HszZ.out ?_)
            intro v2 w2 h2 g2
            have HO2 : Hid (BlRow w2 B v2 (l.take k ++ [⟨x0, x1, x2, x3⟩])) := h2
            have HWcB : Hid (Below w.heap.size w Z) := HWc.out.trans (HWZ.out.mono HWc.out.size)
            have HW2 : Hid (Below w.heap.size w w2) := HWcB.out.grown g2 HWcB.out.size (fun g e => by rw [HBn.out]; exact HO1Z.out.own g e)
            have HID : Hid (IsBl w2 (blA a cap k) (l.drop k) (cap - k)) := (HL.out.below HW2.out).drop k hk
            have Hsz2 : Hid (B ≤ w2.heap.size) := by have := HW2.out.size; rw [HBn.out] at this; exact this
            have Hle3 : Hid ((l.take k ++ [(⟨x0, x1, x2, x3⟩ : Bl)]).length + (l.drop k).length ≤ 1000) := by
              have h1 := Hlt.out
              have h2 := Hld.out
              unfold Hid
              simp only [List.length_append, List.length_cons, List.length_nil]
              omega
            clear h2 g2 HSrc HO1Z HZ HWZ
            go_wp2_with (at_builtin; refine wpList_appBl rfl _ _ rfl B _ _ rfl HO2.out _ _ _ (l.drop k) rfl Hld.out HID.out Hle3.out Hsz2.out ?_)
            intro v3 w3 h3 g3
            have HE : Hid (BlRow w3 w.heap.size v3 (putB l ⟨x0, x1, x2, x3⟩) ∧ Below w.heap.size w w3) := by
              refine ⟨?_, HW2.out.grown g3 HW2.out.size (fun g e => by rw [HBn.out]; exact HO2.out.own g e)⟩
              rw [HPut.out, HBn.out]
              simpa using h3
            clear h3 g3
            go_wp2
            go_ret
            exact ⟨_, rfl, HE⟩
end Go.Proofs.Ytbbegoklikaphaa

namespace Go.Proofs.Ytbbegoklikaphaa
set_option linter.unusedVariables false
set_option linter.unusedSimpArgs false
set_option maxRecDepth 100000
open Go.RowKit Go.Lib

/-- The laws' own chart. -/
def jC : List Ac := [⟨⟨#[49, 48]⟩, ⟨#[99, 97, 115, 104]⟩, 1, ⟨#[]⟩, true⟩, ⟨⟨#[50, 48]⟩, ⟨#[100, 101, 98, 116]⟩, 2, ⟨#[]⟩, true⟩, ⟨⟨#[51, 48]⟩, ⟨#[107, 101, 112, 116]⟩, 3, ⟨#[]⟩, false⟩, ⟨⟨#[52, 48]⟩, ⟨#[115, 97, 108, 101, 115]⟩, 4, ⟨#[]⟩, false⟩, ⟨⟨#[53, 48]⟩, ⟨#[99, 111, 115, 116]⟩, 5, ⟨#[]⟩, false⟩]
def jCells : Array Value := #[.string ⟨#[49, 48]⟩, .string ⟨#[99, 97, 115, 104]⟩, .int .i64 1, .string ⟨#[]⟩, .bool true, .string ⟨#[50, 48]⟩, .string ⟨#[100, 101, 98, 116]⟩, .int .i64 2, .string ⟨#[]⟩, .bool true, .string ⟨#[51, 48]⟩, .string ⟨#[107, 101, 112, 116]⟩, .int .i64 3, .string ⟨#[]⟩, .bool false, .string ⟨#[52, 48]⟩, .string ⟨#[115, 97, 108, 101, 115]⟩, .int .i64 4, .string ⟨#[]⟩, .bool false, .string ⟨#[53, 48]⟩, .string ⟨#[99, 111, 115, 116]⟩, .int .i64 5, .string ⟨#[]⟩, .bool false]
theorem jC_at (W : World) : IsSl (W.alloc (.cells jCells 42)) (some ⟨W.heap.size, 0, none⟩) jC 5 := by
  have h := World.alloc_heap_new W (.cells jCells 42)
  generalize W.alloc (.cells jCells 42) = V at *
  generalize W.heap.size = b at *
  refine ⟨Nat.le_refl _, .inr ⟨b, 0, rfl, (Array.getElem?_eq_some_iff.1 h).1, fun k hk => ?_⟩⟩
  rcases (by simp [jC] at hk; omega : k = 0 ∨ k = 1 ∨ k = 2 ∨ k = 3 ∨ k = 4) with rfl | rfl | rfl | rfl | rfl <;>
  exact ⟨by simp [World.cell?, h, jCells, jC], by simp [World.cell?, h, jCells, jC], by simp [World.cell?, h, jCells, jC], by simp [World.cell?, h, jCells, jC], by simp [World.cell?, h, jCells, jC]⟩
theorem accounts3_any (w : World) :
    Calls Try.prog 5 #[] w fun e w' => e = .returned (.slice (some ⟨w.heap.size, 0, none⟩) 5 5) ∧ IsSl w' (some ⟨w.heap.size, 0, none⟩) jC 5 ∧ Below w.heap.size w w' := by
  have h := jC_at w
  have b : Below w.heap.size w (w.alloc (.cells jCells 42)) := (Below.refl _ w).alloc (Nat.le_refl _) _
  have H : Hid (IsSl (w.alloc (.cells jCells 42)) (some ⟨w.heap.size, 0, none⟩) jC 5 ∧ Below w.heap.size w (w.alloc (.cells jCells 42))) := ⟨h, b⟩
  clear h b
  go_enter Try.func5, Try.ntmps5
  go_wp2
  go_ret
  exact ⟨rfl, H.out.1, H.out.2⟩
end Go.Proofs.Ytbbegoklikaphaa
