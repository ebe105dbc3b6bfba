/-
  The contract of group.Translate where all is of the base already.
-/
import Derived.Test.YthaidbicimiljaaZn8
import Derived.Laws.AppendOwnNone
import Derived.Laws.OwnMore
import Derived.Test.YthaidbicimiljaaZn5
import Derived.Test.YthaidbicimiljaaZn3
import Derived.Deep.Cut
namespace Go.Proofs.Ythaidbicimiljaa
set_option linter.unusedVariables false
set_option linter.unusedSimpArgs false
set_option maxRecDepth 100000
open Go.RowKit Go.Lib
theorem pt_info : (Try.prog.info? 3).map (fun i => (i.zero, i.size, i.bytes)) = some (some (.int .i64 0), 1, 8) := by kernel_rfl
theorem ld_new_heap (W : World) (o : Obj) : (W.alloc o).heap[W.heap.size]? = some o := by unfold World.alloc; simp only [Array.getElem?_push_size]
theorem row_block {W : World} {n : Nat} {t : TypeId} {s : Nat} {v : Value} {m : Nat} {xs : List Value} (h : W.ownsRow n t s v m xs) {g : Nat} (e : v.ownBlock = some g) : n ≤ g ∧ g < W.heap.size ∧ ∃ cs, W.heap[g]? = some (.cells cs t (0, 0)) := by
  rcases h.2 with ⟨rfl, _⟩ | ⟨g1, c1, cur, rfl, hb1, hh, _⟩
  · cases e
  · cases e
    exact ⟨hb1, (Array.getElem?_eq_some_iff.1 hh).1, _, hh⟩
theorem row_keep {W U : World} {n : Nat} {t : TypeId} {s : Nat} {v : Value} {m : Nat} {xs : List Value} (h : W.ownsRow n t s v m xs) (hk : ∀ g, v.ownBlock = some g → U.heap[g]? = W.heap[g]?) : U.ownsRow n t s v m xs := by
  rcases h.2 with ⟨hv, hn⟩ | ⟨g1, c1, cur, hv, hb1, hh, r⟩
  · exact ⟨h.1, .inl ⟨hv, hn⟩⟩
  · exact ⟨h.1, .inr ⟨g1, c1, cur, hv, hb1, (hk g1 (by rw [hv]; rfl)).trans hh, r⟩⟩
/-- What an add leaves as it was: all but the map, and rows of amounts. -/
structure AKeep (n mb : Nat) (V W : World) : Prop where
  os : W.os = V.os
  tape : W.tape = V.tape
  output : W.output = V.output
  size : V.heap.size ≤ W.heap.size
  block : ∀ b, b < V.heap.size → b ≠ mb → (b < n ∨ ∀ cs : Array Value, V.heap[b]? ≠ some (Obj.cells cs 3 (0, 0))) → W.heap[b]? = V.heap[b]?
theorem AKeep.refl (n mb : Nat) (V : World) : AKeep n mb V V := ⟨rfl, rfl, rfl, Nat.le_refl _, fun _ _ _ _ => rfl⟩
theorem AKeep.trans {n mb : Nat} {U V W : World} (h : AKeep n mb U V) (k : AKeep n mb V W) : AKeep n mb U W :=
  ⟨k.os.trans h.os, k.tape.trans h.tape, k.output.trans h.output, Nat.le_trans h.size k.size, fun b hb hne hc => by
    have e := h.block b hb hne hc
    exact (k.block b (Nat.lt_of_lt_of_le hb h.size) hne (hc.imp id (fun h2 cs => by rw [e]; exact h2 cs))).trans e⟩
theorem AKeep.of_below {n mb : Nat} {V W : World} (h : Below V.heap.size V W) : AKeep n mb V W := ⟨h.os, h.tape, h.output, h.size, fun b hb _ _ => h.block b hb⟩
theorem AKeep.below {n mb : Nat} {V W : World} (h : AKeep n mb V W) (hm : n ≤ mb) (hn : n ≤ V.heap.size) : Below n V W := ⟨h.os, h.tape, h.output, h.size, fun b hb => h.block b (by omega) (by omega) (.inl hb)⟩
end Go.Proofs.Ythaidbicimiljaa

namespace Go.Proofs.Ythaidbicimiljaa
set_option linter.unusedVariables false
set_option linter.unusedSimpArgs false
set_option maxRecDepth 100000
open Go.RowKit Go.Lib

theorem blsAt_cells {w : World} {b off : Nat} {l : List Bl} (h : BlsAt w b off l) : ∀ j u, (blRow l)[j]? = some u → w.cell? ((⟨b, off, none⟩ : Addr).add j) = some u := fun j u hu => by
  obtain ⟨q, r, hr, rfl⟩ : ∃ q r, r < 4 ∧ j = q * 4 + r := ⟨j / 4, j % 4, Nat.mod_lt _ (by omega), by omega⟩
  have hj : q * 4 + r < (blRow l).length := by
    false_or_by_contra
    rename_i hn
    rw [List.getElem?_eq_none (by omega)] at hu
    cases hu
  rw [blRow_length] at hj
  have hq : q < l.length := by omega
  rw [blRow_get l q r hq hr] at hu
  have hc := h q hq
  obtain ⟨c0, c1, c2, c3⟩ := hc
  have ea : (⟨b, off, none⟩ : Addr).add (q * 4 + r) = ⟨b, off + q * 4 + r, none⟩ := by simp [Addr.add, Nat.add_assoc]
  rw [ea]
  rcases (by omega : r = 0 ∨ r = 1 ∨ r = 2 ∨ r = 3) with rfl | rfl | rfl | rfl
  · rw [Nat.add_zero, c0]; exact hu
  · rw [c1]; exact hu
  · rw [c2]; exact hu
  · rw [c3]; exact hu

/-- Some balances behind a row of one's own. -/
theorem run_appBl (ty : TypeId) (base : Nat) (v : Value) (l1 : List Bl) (w : World) (hown : BlRow w base v l1) (a : Option Addr) (l2 : List Bl) (c : Nat) (h : IsBl w a l2 c) (hlen : l1.length + l2.length ≤ 1000) (hbase : base ≤ w.heap.size) :
    ∃ v' w', (Builtin.append_ #[24, 24] ty #[v, .slice a l2.length c]).run Try.prog w = .ok v' w' ∧ BlRow w' base v' (l1 ++ l2) ∧ w.grownBy w' v.ownBlock := by
  obtain ⟨i, hi, hz0, hz1, hz2⟩ := info_parts bl_info
  rcases a with _ | ⟨b, off, f⟩
  · have e : l2 = [] := by
      rcases h.lies with h | ⟨b, off, e, _⟩
      · exact h
      · cases e
    subst e
    refine ⟨v, w, ?_, by rw [List.append_nil]; exact hown, ⟨rfl, rfl, rfl, Nat.le_refl _, fun _ _ _ => rfl⟩⟩
    rcases hown.2 with ⟨rfl, hn⟩ | ⟨g, cap, cur, rfl, _, _, hnc, _⟩
    · simp [Builtin.append_, run_underlying Try.underlying24, sizeOf, typeInfo, hi, Builtin.lenOf, Builtin.firstCells]
    · simp [Builtin.append_, run_underlying Try.underlying24, sizeOf, typeInfo, hi, Builtin.lenOf, Builtin.firstCells, hnc, storeCells]
  · have hn : ∀ j u, (blRow l2)[j]? = some u → w.cell? ((⟨b, off, f⟩ : Addr).add j) = some u := by
      rcases h.lies with h | ⟨b', off', e, _, hc⟩
      · subst h
        intro j u hu
        simp [blRow] at hu
      · cases e
        exact blsAt_cells hc
    obtain ⟨v', w', hr, h2, h3, _⟩ := run_append_own (P := Try.prog) w base 24 ty 33 i (.agg #[.int .i64 0, .string ByteArray.empty, .string ByteArray.empty, .int .i64 0]) 4 48 Try.underlying24 hi hz0 hz1 hz2 rfl (by decide) v l1.length (blRow l1) hown ⟨b, off, f⟩ l2.length c (blRow l2) (blRow_length l2) hn (blRow_one_cell l2) (by unfold maxLen; omega) (by omega) hbase
    refine ⟨v', w', hr, ?_, h3⟩
    unfold BlRow
    rw [blRow_append, List.length_append]
    exact h2
theorem wpList_appBl {w : World} {ops : Array Oper} {rest : List Oper} {o : Oper} {a : Act} {Q : Exit → Act → World → Prop} (hgd : o.guard = none) (s x : Operand)
    (ho : o.op = .call { callee := .builtin .append, args := #[s, x], argTypes := #[24, 24] })
    (base : Nat) (v : Value) (l1 : List Bl) (hs : a.eval s = v) (hown : BlRow w base v l1) (ad : Option Addr) (m c : Nat) (l2 : List Bl) (hx : a.eval x = .slice ad m c) (hm : l2.length = m) (h : IsBl w ad l2 c) (hlen : l1.length + l2.length ≤ 1000) (hbase : base ≤ w.heap.size)
    (hh : ∀ v' w', BlRow w' base v' (l1 ++ l2) → w.grownBy w' v.ownBlock → wpList Try.prog ops Q rest (a.put o.dst v') w') : wpList Try.prog ops Q (o :: rest) a w := by
  subst hm
  refine wpList_plain hgd fun K hK => ?_
  obtain ⟨v', w', hr, h2, h3⟩ := run_appBl o.type base v l1 w hown ad l2 c h hlen hbase
  unfold Oper.wp execOp
  simp only [ho, resolve, invoke, builtin, Sem.run_bind, Sem.run_pure, Result.andThen_ok, List.map_toArray, List.map_cons, List.map_nil, hs, hx, hr]
  exact hK _ _ (hh v' w' h2 h3)

/-- A balance of a row that is one's own gets another amount. -/
theorem BlRow.setAmt {W : World} {n0 g cap : Nat} {l : List Bl} (h : BlRow W n0 (.slice (some ⟨g, 0, none⟩) l.length cap) l) (k : Nat) (hk : k < l.length) (a : Int) :
    BlRow (W.setCell ⟨g, k * 4 + 3, none⟩ (.int .i64 a)) n0 (.slice (some ⟨g, 0, none⟩) l.length cap) (l.set k ⟨(l.getD k bl0).ent, (l.getD k bl0).acc, (l.getD k bl0).cur, a⟩) ∧ W.frozen? ⟨g, k * 4 + 3, none⟩ = false := by
  rcases h.2 with ⟨hv, _⟩ | ⟨g1, c1, cur, hv, hb, hg, hc, hm, hs, ht⟩
  · cases hv
  cases hv
  have e1 : blRow (l.set k ⟨(l.getD k bl0).ent, (l.getD k bl0).acc, (l.getD k bl0).cur, a⟩) = (blRow l).set (k * 4 + 3) (.int .i64 a) := by
    apply List.ext_getElem?
    intro j
    obtain ⟨q, r, hr, rfl⟩ : ∃ q r, r < 4 ∧ j = q * 4 + r := ⟨j / 4, j % 4, Nat.mod_lt _ (by omega), by omega⟩
    by_cases hq : q < l.length
    · rw [blRow_get _ q r (by simpa using hq) hr, List.getElem?_set]
      by_cases hqk : q = k
      · subst hqk
        rw [List.getD_eq_getElem?_getD, List.getElem?_set_self hq, Option.getD_some]
        by_cases hr2 : r = 3
        · subst hr2
          rw [if_pos rfl, if_pos (by rw [blRow_length]; omega)]
          rfl
        · rw [if_neg (by omega), blRow_get l q r hq hr]
          rcases (by omega : r = 0 ∨ r = 1 ∨ r = 2) with rfl | rfl | rfl <;> rfl
      · rw [if_neg (by omega), blRow_get l q r hq hr, List.getD_eq_getElem?_getD, List.getElem?_set_ne (fun e => hqk e.symm), ← List.getD_eq_getElem?_getD]
    · rw [List.getElem?_eq_none (by rw [blRow_length, List.length_set]; omega), List.getElem?_eq_none (by rw [List.length_set, blRow_length]; omega)]
  refine ⟨⟨by rw [blRow_length, List.length_set], .inr ⟨g, cap, cur.setIfInBounds (k * 4 + 3) (.int .i64 a), by rw [List.length_set], hb, ?_, by rw [List.length_set]; exact hc, hm, by simpa using hs, ?_⟩⟩, by simp [World.frozen?, hg]⟩
  · rw [setCell_eq_setRow W g (k * 4 + 3) cur 33 (0, 0) _ hg]
    exact setRow_heap W g cur _ 33 (0, 0) hg
  · rw [e1, List.length_set, ← ht, Array.toList_setIfInBounds, List.take_set]

theorem full_take (l : List Bl) (k : Nat) (h : k < l.length) : full (l.take (k + 1)) = if (l.getD k bl0).amt = 0 then full (l.take k) else full (l.take k) ++ [l.getD k bl0] := by
  rw [bls_take l k h]
  generalize l.getD k bl0 = x
  unfold full
  rw [List.filter_append]
  by_cases h0 : x.amt = 0
  · rw [if_pos h0, List.filter_cons, if_neg (by simp [h0])]; simp
  · rw [if_neg h0, List.filter_cons, if_pos (by simp [h0])]; simp
theorem full_length (l : List Bl) : (full l).length ≤ l.length := List.length_filter_le _ _

end Go.Proofs.Ythaidbicimiljaa

namespace Go.Proofs.Ythaidbicimiljaa
set_option linter.unusedVariables false
set_option linter.unusedSimpArgs false
set_option maxRecDepth 100000
open Go.RowKit Go.Lib Go.Maps Math

/-- The base. -/
def eurB : ByteArray := ⟨#[69, 85, 82]⟩
theorem eur_cur : isCur eurB = true := by kernel_rfl
theorem trV_self {m : Int} (h : -1000000000000000000 ≤ m ∧ m ≤ 1000000000000000000) : ratV m 1 1 = m ∧ partOf (absI m) 1 1 ≤ 9223372036854775807 + (if m < 0 then 1 else 0) := by
  have e : partOf (absI m) 1 1 = absI m := part_all (absI m) 1 (by omega)
  have e2 : absI m ≤ 1000000000000000000 := by unfold absI; split <;> omega
  have e3 : absI m ≤ 9223372036854775807 + (if m < 0 then 1 else 0) := by split <;> omega
  unfold ratV ratioV
  rw [e]
  refine ⟨?_, e3⟩
  rw [if_pos e3]
  unfold absI
  split <;> omega
theorem trS_self : findS (tabS []) eurB eurB eurB 1 = (1, 1, 0) := by
  unfold findS
  rw [if_neg (by simp [show (tabS []).1 = 0 from rfl]), if_neg (by simp [eur_cur]), if_neg (by decide), if_pos rfl]
theorem eur_conv {m : Int} (h : -1000000000000000000 ≤ m ∧ m ≤ 1000000000000000000) : convV (findS (tabS []) eurB eurB eurB 1) m = m ∧ convE (findS (tabS []) eurB eurB eurB 1) m = .nilIface := by
  obtain ⟨r1, r2⟩ := trV_self h
  rw [trS_self]
  refine ⟨?_, ?_⟩
  · unfold convV
    rw [if_pos rfl, r1]
  · rw [convE_cv]
    unfold cvE
    rw [if_pos rfl, if_pos r2]
    rfl
/-- What translating ends in, where all is of the base. -/
def TrEnd (s : List Bl) (w : World) (e : Ending) (w' : World) : Prop :=
  Below w.heap.size w w' ∧ (chk s ≠ 0 → e = .returned (.tuple #[.slice none 0 0, .iface 41 (.int .i64 (chk s))])) ∧ (chk s = 0 → ∃ a c, e = .returned (.tuple #[.slice a s.length c, .nilIface]) ∧ IsBl w' a s c)
theorem eur_ask (s : List Bl) : askP (tabS []) eurB s 1 = chk s := by
  unfold askP
  by_cases h : chk s ≠ 0
  · rw [if_pos h]
  · rw [if_neg h, if_neg (by simp [rn_tab0]), if_neg (by rw [eur_cur]; decide), if_neg (by decide)]
    exact (Decidable.of_not_not h).symm
where rn_tab0 : (tabS []).1 = 0 := rfl
theorem next_apart {s : List Bl} (hf : Fine s) (hc : ∀ x ∈ s, x.cur = eurB) {m : Nat} (hm : m + 1 < s.length) : (s.getD m bl0).ent ≠ (s.getD (m + 1) bl0).ent ∨ ((s.getD m bl0).ent = (s.getD (m + 1) bl0).ent ∧ (s.getD m bl0).acc ≠ (s.getD (m + 1) bl0).acc) := by
  have h := cmpB_lt.1 (hf.rises.next m hm)
  have e1 := hc _ (getD_mem s m (by omega))
  have e2 := hc _ (getD_mem s (m + 1) hm)
  by_cases he : (s.getD m bl0).ent = (s.getD (m + 1) bl0).ent
  · refine .inr ⟨he, fun ha => ?_⟩
    rw [e1, e2, ha] at h
    rcases h with h | ⟨_, h | ⟨_, h⟩⟩
    · omega
    · unfold cmpS at h; simp [less_self] at h
    · unfold cmpS at h; simp [less_self] at h
  · exact .inl he

theorem isBl_one' {W : World} {b : Nat} {x : Bl} (h : BlAt W b 0 x) (hb : b < W.heap.size) : IsBl W (some ⟨b, 0, none⟩) [x] 1 := by
  refine ⟨Nat.le_refl _, .inr ⟨b, 0, rfl, hb, fun k hk => ?_⟩⟩
  have e : k = 0 := by simp at hk; omega
  subst e
  exact h
theorem ga_drewN {n : Nat} {w W : World} (h : Below n w W) (k : Nat) : Below n w (W.drewN k) := h.trans ⟨rfl, rfl, rfl, Nat.le_refl _, fun _ _ => rfl⟩

set_option maxHeartbeats 20000000 in
theorem trans_eur (a : Option Addr) (cap : Nat) (s : List Bl) (w : World) (hb : IsBl w a s cap) (hbl : s.length ≤ 9223372036854775807) (hc : ∀ x ∈ s, x.cur = eurB) :
    Calls Try.prog 12 #[.slice none 0 0, .string eurB, .slice a s.length cap, .int .i64 1] w (TrEnd s w) := by
  have HC : Hid (Calls Try.prog 24 #[.slice none 0 0, .string eurB, .slice a s.length cap, .int .i64 1] w fun e w' => e = .returned (errV (chk s)) ∧ Below w.heap.size w w') := by
    have := asked_any none a 0 0 cap (tabS []) eurB s 1 w (fun W _ => table_none none 0 W) hb hbl
    rwa [eur_ask] at this
  by_cases c1 : chk s ≠ 0
  · unfold TrEnd
    rw [errV_ne c1] at HC
    generalize chk s = z at *
    clear hb
    go_enter Try.func12, Try.ntmps12
    go_wp2_with fail
    refine HC.out.mono ?_
    rintro e w1 ⟨rfl, hb1⟩
    have HB1 : Hid (Below w.heap.size w w1) := hb1
    clear hb1
    go_wp2
    go_ret2
    exact ⟨HB1.out, fun _ => rfl, fun h => absurd h c1⟩
  have c1' := Decidable.of_not_not c1
  rw [c1', errV_zero] at HC
  have hf : Fine s := chk_zero.1 c1'
  have Hf : Hid (Fine s) := hf
  have Hb : Hid (IsBl w a s cap) := hb
  have HEnd : Hid (∀ e w', TrEnd s w e w' ↔ (Below w.heap.size w w' ∧ ∃ a c, e = .returned (.tuple #[.slice a s.length c, .nilIface]) ∧ IsBl w' a s c)) := fun e w' => by
    unfold TrEnd
    exact ⟨fun h => ⟨h.1, h.2.2 c1'⟩, fun h => ⟨h.1, fun h0 => absurd c1' h0, fun _ => h.2⟩⟩
  have HAp : Hid (∀ m, m + 1 < s.length → _) := fun m hm => next_apart hf hc (m := m) hm
  have HCu : Hid (∀ x ∈ s, x.cur = eurB) := hc
  have HCv : Hid (∀ W (m : Int), (-1000000000000000000 ≤ m ∧ m ≤ 1000000000000000000) → Calls Try.prog 25 #[.slice none 0 0, .string eurB, .string eurB, .string eurB, .int .i64 1, .int .i64 m] W fun e w' => e = .returned (.tuple #[.int .i64 m, .nilIface]) ∧ Below W.heap.size W w') := fun W m hm => by
    have := convert_any none 0 0 (tabS []) eurB eurB eurB 1 m W (table_none none 0 W) (tabS_good []).1 (by omega) (by omega)
    rwa [(eur_conv hm).1, (eur_conv hm).2] at this
  have HAdd : Hid (∀ W (m : Int), (-1000000000000000000 ≤ m ∧ m ≤ 1000000000000000000) → Calls Try.prog 26 #[.int .i64 0, .int .i64 m] W fun e w' => e = .returned (.tuple #[.int .i64 m, .nilIface]) ∧ Below W.heap.size W w') := fun W m hm => by
    refine (moneyAdd_any 0 m W (by unfold I64; omega) (by unfold I64; omega)).mono ?_
    rintro e w' ⟨rfl, c, rfl⟩
    refine ⟨?_, (Below.refl _ W).alloc (Nat.le_refl _) _⟩
    rw [Int.zero_add]
    unfold sumV sumE
    rw [if_pos (by omega), if_pos (by omega)]
  have hl200 : (s.length : Int) ≤ 200 := by have := hf.len; omega
  clear hf hc hb c1 c1' hbl
  go_enter Try.func12, Try.ntmps12
  go_wp2_with fail
  refine HC.out.mono ?_
  rintro e w1 ⟨rfl, hb1⟩
  have HB1 : Hid (Below w.heap.size w w1) := hb1
  clear hb1 HC
  go_wp2
  go_loopw [11, 28] (fun v i wr => ∃ (k c' : Nat) (a' : Option Addr), k ≤ s.length ∧ i = .int .i64 k ∧ v = .slice a' k c' ∧ Hid (BlRow wr w.heap.size (.slice a' k c') (s.take k)) ∧ Hid (Below w.heap.size w wr)) (fun _ i _ => s.length - (RowKit.intOf i).toNat)
  case atStart => exact ⟨0, 0, none, Nat.zero_le _, rfl, rfl, BlRow.nil _ _, HB1⟩
  case round =>
    obtain ⟨k, c', a', hk, rfl, rfl, HR, HB⟩ := hrel
    clear HB1
    by_cases hlt : k < s.length
    · obtain ⟨b, off, rfl, hbb, hcc⟩ := Hb.out.some hlt
      have hx := (hcc k hlt).below HB.out hbb
      have hmem := getD_mem s k hlt
      have hcu := HCu.out _ hmem
      have ham := Hf.out.amt _ hmem
      have HT : Hid (s.take (k + 1) = s.take k ++ [s.getD k bl0]) := bls_take s k hlt
      have HPv : Hid (∀ m, k = m + 1 → (s.take k).getD m bl0 = s.getD m bl0 ∧ ((s.getD m bl0).ent ≠ (s.getD k bl0).ent ∨ ((s.getD m bl0).ent = (s.getD k bl0).ent ∧ (s.getD m bl0).acc ≠ (s.getD k bl0).acc))) := fun m hm => by
        subst hm
        refine ⟨?_, HAp.out m hlt⟩
        rw [List.getD_eq_getElem?_getD, List.getElem?_take, if_pos (by omega), ← List.getD_eq_getElem?_getD]
      clear hcc hmem HEnd HAp HCu Hf
      generalize s.getD k bl0 = x at *
      obtain ⟨x0, x1, x2, x3⟩ := x
      obtain ⟨d0, d1, d2, d3⟩ := hx
      simp only at d0 d1 d2 d3 hcu ham
      subst hcu
      have i0 : (0 : Int) ≤ k := by omega
      have i1 : (k : Int) < s.length := by omega
      obtain ⟨W0, hW0⟩ : ∃ W0, wr.alloc (.cells #[.int .i64 x0, .string x1, .string eurB, .int .i64 x3] 33) = W0 := ⟨_, rfl⟩
      have hb0 : Below wr.heap.size wr W0 := by rw [← hW0]; exact (Below.refl _ _).alloc (Nat.le_refl _) _
      have hat : BlAt W0 wr.heap.size 0 ⟨x0, x1, eurB, x3⟩ := by rw [← hW0]; exact BlAt.new wr ⟨x0, x1, eurB, x3⟩ 33
      have hsz : wr.heap.size < W0.heap.size := by rw [← hW0]; simp
      have HCx : Hid (Calls Try.prog 25 #[.slice none 0 0, .string eurB, .string eurB, .string eurB, .int .i64 1, .int .i64 x3] W0 fun e w' => e = .returned (.tuple #[.int .i64 x3, .nilIface]) ∧ BlAt w' wr.heap.size 0 ⟨x0, x1, eurB, x3⟩ ∧ BlRow w' w.heap.size (.slice a' k c') (s.take k) ∧ Below w.heap.size w w') := by
        refine (HCv.out W0 x3 ham).mono ?_
        rintro e w' ⟨rfl, h⟩
        exact ⟨rfl, hat.below h hsz, (HR.out.below hb0).below h, (HB.out.trans (hb0.mono HB.out.size)).trans (h.mono (Nat.le_trans HB.out.size hb0.size))⟩
      have HW0 : Hid (wr.alloc (.cells #[.int .i64 x0, .string x1, .string eurB, .int .i64 x3] 33) = W0) := hW0
      obtain ⟨f0, f1, f2, f3⟩ := hat
      simp only [Nat.zero_add] at f0 f1 f2 f3
      clear hW0 hb0 hsz HR HB HCv
      go_upto_region 8 with fail
      rw [HW0.out]
      clear HW0 d0 d1 d2 d3
      go_wp2_with fail
      refine HCx.out.mono ?_
      rintro e w2 ⟨rfl, hat2, hr2, hb2⟩
      obtain ⟨e0, e1, e2, e3⟩ := hat2
      simp only [Nat.zero_add] at e0 e1 e2 e3
      have HR2 : Hid (BlRow w2 w.heap.size (.slice a' k c') (s.take k)) := hr2
      have HB2 : Hid (Below w.heap.size w w2) := hb2
      clear hr2 hb2 HCx f0 f1 f2 f3
      have HLk : Hid ((s.take k).length = k) := by unfold Hid; rw [List.length_take]; omega
      have HT2 : Hid (s.take (k + 1) = s.take k ++ [⟨x0, x1, eurB, x3⟩]) := HT
      obtain ⟨T, hT⟩ : ∃ T, s.take k = T := ⟨_, rfl⟩
      rw [hT] at HLk HT2 HR2 HPv
      clear hT HT
      rcases Nat.eq_zero_or_pos k with hk0 | hk0
      · subst hk0
        go_wp2_with fail
        go_quiet (fail)
        obtain ⟨W3, hW3⟩ : ∃ W3, (w2.drewN nq).alloc (.cells #[.int .i64 x0, .string x1, .string eurB, .int .i64 0] 33) = W3 := ⟨_, rfl⟩
        have hb3 : Below w2.heap.size (w2.drewN nq) W3 := by rw [← hW3]; exact (Below.refl _ (w2.drewN nq)).alloc (Nat.le_refl _) _
        have HB3 : Hid (Below w.heap.size w W3) := (ga_drewN HB2.out nq).trans (hb3.mono HB2.out.size)
        have HR3 : Hid (BlRow W3 w.heap.size (.slice a' 0 c') T) := (HR2.out.below (ga_drewN (Below.refl _ _) nq)).below hb3
        have HI3 : Hid (IsBl W3 (some ⟨w2.heap.size, 0, none⟩) [⟨x0, x1, eurB, 0⟩] 1) := by
          refine isBl_one' ?_ ?_
          · rw [← hW3]; exact BlAt.new (w2.drewN nq) ⟨x0, x1, eurB, 0⟩ 33
          · rw [← hW3]; simp
        have HW3 : Hid ((w2.drewN nq).alloc (.cells #[.int .i64 x0, .string x1, .string eurB, .int .i64 0] 33) = W3) := hW3
        clear hW3 hb3 HR2 HB2
        go_wp2_with (at_builtin; rw [HW3.out]; refine wpList_appBl rfl _ _ rfl w.heap.size _ T rfl HR3.out (some ⟨w2.heap.size, 0, none⟩) 1 1 [⟨x0, x1, eurB, 0⟩] rfl rfl HI3.out (by rw [HLk.out]; show _ + 1 ≤ 1000; omega) HB3.out.size ?_)
        intro v4 w4 hr4 hg4
        have hb4 : Below w.heap.size w w4 := HB3.out.grown hg4 HB3.out.size HR3.out.own
        obtain ⟨ad4, c4, hv4, his4⟩ := hr4.isBl
        have hl4 : (T ++ [(⟨x0, x1, eurB, 0⟩ : Bl)]).length = 0 + 1 := by rw [List.length_append, HLk.out]; rfl
        obtain ⟨g4, o4, rfl, hg4lt, hcc4⟩ := his4.some (k := 0) (by omega)
        have ho4 : o4 = 0 := by
          rcases hr4.2 with ⟨hv, _⟩ | ⟨g1, cc, cur, hv, _⟩
          · rw [hv4] at hv; cases hv
          · rw [hv4] at hv; cases hv; rfl
        subst ho4
        rw [hl4] at hv4
        subst hv4
        have hlast : (T ++ [(⟨x0, x1, eurB, 0⟩ : Bl)]).getD 0 bl0 = ⟨x0, x1, eurB, 0⟩ := by
          rw [List.getD_eq_getElem?_getD, List.getElem?_append_right (by rw [HLk.out]; exact Nat.le_refl _), HLk.out, Nat.sub_self]; rfl
        have hc4 := (hcc4 0 (by omega)).c3
        rw [hlast, Nat.zero_add] at hc4
        simp only at hc4
        have HR4 : Hid (BlRow w4 w.heap.size (.slice (some ⟨g4, 0, none⟩) (T ++ [(⟨x0, x1, eurB, 0⟩ : Bl)]).length c4) (T ++ [⟨x0, x1, eurB, 0⟩])) := by unfold Hid; rw [hl4]; exact hr4
        have HB4 : Hid (Below w.heap.size w w4) := hb4
        have HAd : Hid (Calls Try.prog 26 #[.int .i64 0, .int .i64 x3] w4 fun e w' => e = .returned (.tuple #[.int .i64 x3, .nilIface]) ∧ w'.cell? ⟨g4, 0 * 4 + 3, none⟩ = some (.int .i64 0) ∧ w'.frozen? ⟨g4, 0 * 4 + 3, none⟩ = false ∧ BlRow (w'.setCell ⟨g4, 0 * 4 + 3, none⟩ (.int .i64 x3)) w.heap.size (.slice (some ⟨g4, 0, none⟩) (0 + 1) c4) (s.take (0 + 1)) ∧ Below w.heap.size w (w'.setCell ⟨g4, 0 * 4 + 3, none⟩ (.int .i64 x3))) := by
          refine (HAdd.out w4 x3 ham).mono ?_
          rintro e w' ⟨rfl, h⟩
          have hr5 := HR4.out.below h
          have hset := BlRow.setAmt hr5 0 (by omega) x3
          rw [hlast] at hset
          have hfin : (T ++ [(⟨x0, x1, eurB, 0⟩ : Bl)]).set 0 ⟨x0, x1, eurB, x3⟩ = s.take (0 + 1) := by
            rw [HT2.out, List.set_append_right _ _ (by rw [HLk.out]; exact Nat.le_refl _), HLk.out, Nat.sub_self]; rfl
          refine ⟨rfl, (h.cell (p := ⟨g4, 0 * 4 + 3, none⟩) hg4lt).trans hc4, hset.2, ?_, (HB4.out.trans (h.mono HB4.out.size)).setCell (p := ⟨g4, 0 * 4 + 3, none⟩) (hr5.own g4 rfl) _⟩
          have h6 := hset.1
          rw [hfin, hl4] at h6
          exact h6
        clear HR4 HB4 hr4 hb4 hg4 his4 hcc4 hlast hl4 HI3 HR3 HB3 HW3 HAdd e0 e1 e2 e3
        go_wp2_with fail
        refine HAd.out.mono ?_
        rintro e w5 ⟨rfl, q1, q2, q3, q4⟩
        have HF : Hid (BlRow _ w.heap.size (.slice (some ⟨g4, 0, none⟩) (0 + 1) c4) (s.take (0 + 1)) ∧ Below w.heap.size w _) := ⟨q3, q4⟩
        clear q3 q4 HAd hc4
        go_wp2
        go_roundw
        case rel => exact ⟨0 + 1, c4, _, by omega, by go_num, rfl, HF.out.1, HF.out.2⟩
        case measure => simp [RowKit.intOf]; omega
      · obtain ⟨m, rfl⟩ : ∃ m, k = m + 1 := ⟨k - 1, by omega⟩
        obtain ⟨hp1, hp2⟩ := HPv.out m rfl
        obtain ⟨hn2, his2⟩ := HR2.out.isBl'
        have hlm : m < T.length := by have := HLk.out; omega
        obtain ⟨g2, o2, rfl, hg2lt, hcc2⟩ := his2.some hlm
        obtain ⟨y0, y1, y2, y3⟩ := hcc2 m hlm
        rw [hp1] at y0 y1 y2 y3
        clear hcc2 his2 hn2 hlm HPv hp1
        generalize s.getD m bl0 = y at *
        obtain ⟨z0, z1, z2, z3⟩ := y
        simp only at y0 y1 y2 y3 hp2
        have hz1 : (((m + 1 : Nat) : Int) == 0) = false := beq_eq_false_iff_ne.2 (by omega)
        have hz2 : ((m : Int) + 1 == 0) = false := beq_eq_false_iff_ne.2 (by omega)
        have hz4 : (0 : Int) ≤ m := by omega
        have hz5 : (m : Int) < (m : Int) + 1 := by omega
        rcases hp2 with hp | ⟨hp, hq⟩
        · have hp3 : (z0 != x0) = true := by simp [hp]
          go_wp2_with fail
          go_quiet (fail)
          obtain ⟨W3, hW3⟩ : ∃ W3, (w2.drewN nq).alloc (.cells #[.int .i64 x0, .string x1, .string eurB, .int .i64 0] 33) = W3 := ⟨_, rfl⟩
          have hb3 : Below w2.heap.size (w2.drewN nq) W3 := by rw [← hW3]; exact (Below.refl _ (w2.drewN nq)).alloc (Nat.le_refl _) _
          have HB3 : Hid (Below w.heap.size w W3) := (ga_drewN HB2.out nq).trans (hb3.mono HB2.out.size)
          have HR3 : Hid (BlRow W3 w.heap.size (.slice (some ⟨g2, o2, none⟩) (m + 1) c') T) := (HR2.out.below (ga_drewN (Below.refl _ _) nq)).below hb3
          have HI3 : Hid (IsBl W3 (some ⟨w2.heap.size, 0, none⟩) [⟨x0, x1, eurB, 0⟩] 1) := by
            refine isBl_one' ?_ ?_
            · rw [← hW3]; exact BlAt.new (w2.drewN nq) ⟨x0, x1, eurB, 0⟩ 33
            · rw [← hW3]; simp
          have HW3 : Hid ((w2.drewN nq).alloc (.cells #[.int .i64 x0, .string x1, .string eurB, .int .i64 0] 33) = W3) := hW3
          clear hW3 hb3 HR2 HB2
          go_wp2_with (at_builtin; rw [HW3.out]; refine wpList_appBl rfl _ _ rfl w.heap.size _ T rfl HR3.out (some ⟨w2.heap.size, 0, none⟩) 1 1 [⟨x0, x1, eurB, 0⟩] rfl rfl HI3.out (by rw [HLk.out]; show _ + 1 ≤ 1000; omega) HB3.out.size ?_)
          intro v4 w4 hr4 hg4
          have hb4 : Below w.heap.size w w4 := HB3.out.grown hg4 HB3.out.size HR3.out.own
          obtain ⟨ad4, c4, hv4, his4⟩ := hr4.isBl
          have hl4 : (T ++ [(⟨x0, x1, eurB, 0⟩ : Bl)]).length = (m + 1) + 1 := by rw [List.length_append, HLk.out]; rfl
          obtain ⟨g4, o4, rfl, hg4lt, hcc4⟩ := his4.some (k := (m + 1)) (by omega)
          have ho4 : o4 = 0 := by
            rcases hr4.2 with ⟨hv, _⟩ | ⟨g1, cc, cur, hv, _⟩
            · rw [hv4] at hv; cases hv
            · rw [hv4] at hv; cases hv; rfl
          subst ho4
          rw [hl4] at hv4
          subst hv4
          have hlast : (T ++ [(⟨x0, x1, eurB, 0⟩ : Bl)]).getD (m + 1) bl0 = ⟨x0, x1, eurB, 0⟩ := by
            rw [List.getD_eq_getElem?_getD, List.getElem?_append_right (by rw [HLk.out]; exact Nat.le_refl _), HLk.out, Nat.sub_self]; rfl
          have hc4 := (hcc4 (m + 1) (by omega)).c3
          rw [hlast, Nat.zero_add] at hc4
          simp only at hc4
          have HR4 : Hid (BlRow w4 w.heap.size (.slice (some ⟨g4, 0, none⟩) (T ++ [(⟨x0, x1, eurB, 0⟩ : Bl)]).length c4) (T ++ [⟨x0, x1, eurB, 0⟩])) := by unfold Hid; rw [hl4]; exact hr4
          have HB4 : Hid (Below w.heap.size w w4) := hb4
          have HAd : Hid (Calls Try.prog 26 #[.int .i64 0, .int .i64 x3] w4 fun e w' => e = .returned (.tuple #[.int .i64 x3, .nilIface]) ∧ w'.cell? ⟨g4, (m + 1) * 4 + 3, none⟩ = some (.int .i64 0) ∧ w'.frozen? ⟨g4, (m + 1) * 4 + 3, none⟩ = false ∧ BlRow (w'.setCell ⟨g4, (m + 1) * 4 + 3, none⟩ (.int .i64 x3)) w.heap.size (.slice (some ⟨g4, 0, none⟩) (m + 1 + 1) c4) (s.take (m + 1 + 1)) ∧ Below w.heap.size w (w'.setCell ⟨g4, (m + 1) * 4 + 3, none⟩ (.int .i64 x3))) := by
            refine (HAdd.out w4 x3 ham).mono ?_
            rintro e w' ⟨rfl, h⟩
            have hr5 := HR4.out.below h
            have hset := BlRow.setAmt hr5 (m + 1) (by omega) x3
            rw [hlast] at hset
            have hfin : (T ++ [(⟨x0, x1, eurB, 0⟩ : Bl)]).set (m + 1) ⟨x0, x1, eurB, x3⟩ = s.take (m + 1 + 1) := by
              rw [HT2.out, List.set_append_right _ _ (by rw [HLk.out]; exact Nat.le_refl _), HLk.out, Nat.sub_self]; rfl
            refine ⟨rfl, (h.cell (p := ⟨g4, (m + 1) * 4 + 3, none⟩) hg4lt).trans hc4, hset.2, ?_, (HB4.out.trans (h.mono HB4.out.size)).setCell (p := ⟨g4, (m + 1) * 4 + 3, none⟩) (hr5.own g4 rfl) _⟩
            have h6 := hset.1
            rw [hfin, hl4] at h6
            exact h6
          clear HR4 HB4 hr4 hb4 hg4 his4 hcc4 hlast hl4 HI3 HR3 HB3 HW3 HAdd e0 e1 e2 e3
          go_wp2_with fail
          refine HAd.out.mono ?_
          rintro e w5 ⟨rfl, q1, q2, q3, q4⟩
          have HF : Hid (BlRow _ w.heap.size (.slice (some ⟨g4, 0, none⟩) (m + 1 + 1) c4) (s.take (m + 1 + 1)) ∧ Below w.heap.size w _) := ⟨q3, q4⟩
          clear q3 q4 HAd hc4
          go_wp2
          go_roundw
          case rel => exact ⟨m + 1 + 1, c4, _, by omega, by go_num, rfl, HF.out.1, HF.out.2⟩
          case measure => simp [RowKit.intOf]; omega
        · obtain hp' := hp.symm
          subst hp'
          have hq3 := ch_ne hq
          go_wp2_with fail
          go_quiet (fail)
          obtain ⟨W3, hW3⟩ : ∃ W3, (w2.drewN nq).alloc (.cells #[.int .i64 x0, .string x1, .string eurB, .int .i64 0] 33) = W3 := ⟨_, rfl⟩
          have hb3 : Below w2.heap.size (w2.drewN nq) W3 := by rw [← hW3]; exact (Below.refl _ (w2.drewN nq)).alloc (Nat.le_refl _) _
          have HB3 : Hid (Below w.heap.size w W3) := (ga_drewN HB2.out nq).trans (hb3.mono HB2.out.size)
          have HR3 : Hid (BlRow W3 w.heap.size (.slice (some ⟨g2, o2, none⟩) (m + 1) c') T) := (HR2.out.below (ga_drewN (Below.refl _ _) nq)).below hb3
          have HI3 : Hid (IsBl W3 (some ⟨w2.heap.size, 0, none⟩) [⟨x0, x1, eurB, 0⟩] 1) := by
            refine isBl_one' ?_ ?_
            · rw [← hW3]; exact BlAt.new (w2.drewN nq) ⟨x0, x1, eurB, 0⟩ 33
            · rw [← hW3]; simp
          have HW3 : Hid ((w2.drewN nq).alloc (.cells #[.int .i64 x0, .string x1, .string eurB, .int .i64 0] 33) = W3) := hW3
          clear hW3 hb3 HR2 HB2
          go_wp2_with (at_builtin; rw [HW3.out]; refine wpList_appBl rfl _ _ rfl w.heap.size _ T rfl HR3.out (some ⟨w2.heap.size, 0, none⟩) 1 1 [⟨x0, x1, eurB, 0⟩] rfl rfl HI3.out (by rw [HLk.out]; show _ + 1 ≤ 1000; omega) HB3.out.size ?_)
          intro v4 w4 hr4 hg4
          have hb4 : Below w.heap.size w w4 := HB3.out.grown hg4 HB3.out.size HR3.out.own
          obtain ⟨ad4, c4, hv4, his4⟩ := hr4.isBl
          have hl4 : (T ++ [(⟨x0, x1, eurB, 0⟩ : Bl)]).length = (m + 1) + 1 := by rw [List.length_append, HLk.out]; rfl
          obtain ⟨g4, o4, rfl, hg4lt, hcc4⟩ := his4.some (k := (m + 1)) (by omega)
          have ho4 : o4 = 0 := by
            rcases hr4.2 with ⟨hv, _⟩ | ⟨g1, cc, cur, hv, _⟩
            · rw [hv4] at hv; cases hv
            · rw [hv4] at hv; cases hv; rfl
          subst ho4
          rw [hl4] at hv4
          subst hv4
          have hlast : (T ++ [(⟨x0, x1, eurB, 0⟩ : Bl)]).getD (m + 1) bl0 = ⟨x0, x1, eurB, 0⟩ := by
            rw [List.getD_eq_getElem?_getD, List.getElem?_append_right (by rw [HLk.out]; exact Nat.le_refl _), HLk.out, Nat.sub_self]; rfl
          have hc4 := (hcc4 (m + 1) (by omega)).c3
          rw [hlast, Nat.zero_add] at hc4
          simp only at hc4
          have HR4 : Hid (BlRow w4 w.heap.size (.slice (some ⟨g4, 0, none⟩) (T ++ [(⟨x0, x1, eurB, 0⟩ : Bl)]).length c4) (T ++ [⟨x0, x1, eurB, 0⟩])) := by unfold Hid; rw [hl4]; exact hr4
          have HB4 : Hid (Below w.heap.size w w4) := hb4
          have HAd : Hid (Calls Try.prog 26 #[.int .i64 0, .int .i64 x3] w4 fun e w' => e = .returned (.tuple #[.int .i64 x3, .nilIface]) ∧ w'.cell? ⟨g4, (m + 1) * 4 + 3, none⟩ = some (.int .i64 0) ∧ w'.frozen? ⟨g4, (m + 1) * 4 + 3, none⟩ = false ∧ BlRow (w'.setCell ⟨g4, (m + 1) * 4 + 3, none⟩ (.int .i64 x3)) w.heap.size (.slice (some ⟨g4, 0, none⟩) (m + 1 + 1) c4) (s.take (m + 1 + 1)) ∧ Below w.heap.size w (w'.setCell ⟨g4, (m + 1) * 4 + 3, none⟩ (.int .i64 x3))) := by
            refine (HAdd.out w4 x3 ham).mono ?_
            rintro e w' ⟨rfl, h⟩
            have hr5 := HR4.out.below h
            have hset := BlRow.setAmt hr5 (m + 1) (by omega) x3
            rw [hlast] at hset
            have hfin : (T ++ [(⟨x0, x1, eurB, 0⟩ : Bl)]).set (m + 1) ⟨x0, x1, eurB, x3⟩ = s.take (m + 1 + 1) := by
              rw [HT2.out, List.set_append_right _ _ (by rw [HLk.out]; exact Nat.le_refl _), HLk.out, Nat.sub_self]; rfl
            refine ⟨rfl, (h.cell (p := ⟨g4, (m + 1) * 4 + 3, none⟩) hg4lt).trans hc4, hset.2, ?_, (HB4.out.trans (h.mono HB4.out.size)).setCell (p := ⟨g4, (m + 1) * 4 + 3, none⟩) (hr5.own g4 rfl) _⟩
            have h6 := hset.1
            rw [hfin, hl4] at h6
            exact h6
          clear HR4 HB4 hr4 hb4 hg4 his4 hcc4 hlast hl4 HI3 HR3 HB3 HW3 HAdd e0 e1 e2 e3
          go_wp2_with fail
          refine HAd.out.mono ?_
          rintro e w5 ⟨rfl, q1, q2, q3, q4⟩
          have HF : Hid (BlRow _ w.heap.size (.slice (some ⟨g4, 0, none⟩) (m + 1 + 1) c4) (s.take (m + 1 + 1)) ∧ Below w.heap.size w _) := ⟨q3, q4⟩
          clear q3 q4 HAd hc4
          go_wp2
          go_roundw
          case rel => exact ⟨m + 1 + 1, c4, _, by omega, by go_num, rfl, HF.out.1, HF.out.2⟩
          case measure => simp [RowKit.intOf]; omega
    · have hk2 : k = s.length := by omega
      subst hk2
      rw [List.take_length] at HR
      obtain ⟨hn2, his⟩ := HR.out.isBl'
      have HD : Hid (Calls Try.prog 27 #[.slice a' s.length c', .func (.func 28) #[] #[]] wr fun e w' => e = .returned (.slice a' s.length c') ∧ TrEnd s w (.returned (.tuple #[.slice a' s.length c', .nilIface])) w') := by
        refine (trDel_none a' c' s wr (by omega) his Hf.out.ne).mono ?_
        rintro e w' ⟨rfl, h⟩
        exact ⟨rfl, (HEnd.out _ _).2 ⟨HB.out.trans (h.mono HB.out.size), _, _, rfl, his.below h⟩⟩
      clear HR HB HEnd HAp HCu HCv Hf Hb his hn2
      go_wp2_with fail
      refine HD.out.mono ?_
      rintro e w3 ⟨rfl, h3⟩
      have HL : Hid _ := h3
      clear h3 HD
      go_wp2
      go_ret2
      exact HL.out
end Go.Proofs.Ythaidbicimiljaa
