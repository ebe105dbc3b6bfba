/-
  The contract of slices.DeleteFunc over holdings that are one's own.
-/
import Derived.Test.YtmpjaogomabfiaaDoorGr3
namespace Go.Proofs.YtmpjaogomabfiaaDoor
set_option linter.unusedVariables false
set_option linter.unusedSimpArgs false
set_option maxRecDepth 100000
open Go.RowKit Go.Lib

theorem ho_zero (w : World) : (zeroValue 38).run Tryd.prog w = .ok (.agg #[.int .i64 0, .int .i64 0, .int .i64 0]) w := by
  obtain ⟨i0, hi, hz0, hz1, hz2⟩ := info_parts ho_info
  simp [zeroValue, typeInfo, hi, hz0]

theorem zeroh_length (k : Nat) : (Builtin.zeroCells (Value.agg #[.int .i64 0, .int .i64 0, .int .i64 0]).cells k).toList.length = k * 3 := by
  simp [Builtin.zeroCells, Value.cells]
theorem hidx_two (p : Ho → Bool) : ∀ (l : List Ho) (k : Nat), (hidx p k l = -1 ∧ l.any p = false) ∨ ∃ j, j < l.length ∧ hidx p k l = ((k + j : Nat) : Int) ∧ p (l.getD j ho0) = true ∧ (l.take j).any p = false
  | [], k => .inl ⟨rfl, rfl⟩
  | x :: l, k => by
    cases h : p x
    · rcases hidx_two p l (k + 1) with ⟨e, ha⟩ | ⟨j, hj, e, hp, ha⟩
      · exact .inl ⟨by rw [hidx, if_neg (by simp [h]), e], by simp [h, ha]⟩
      · exact .inr ⟨j + 1, by simpa using hj, by rw [hidx, if_neg (by simp [h]), e]; congr 1; omega, by simpa using hp, by simp [h, ha]⟩
    · exact .inr ⟨0, by simp, by rw [hidx, if_pos h]; simp, by simpa using h, rfl⟩

theorem zeroh_one (k : Nat) : ∀ u ∈ (Builtin.zeroCells (Value.agg #[.int .i64 0, .int .i64 0, .int .i64 0]).cells k).toList, u.oneCell' = true := by
  intro u hu
  simp only [Builtin.zeroCells, Value.cells, Array.toList_map, List.mem_map] at hu
  obtain ⟨i, _, rfl⟩ := hu
  have h3 : i % 3 = 0 ∨ i % 3 = 1 ∨ i % 3 = 2 := by omega
  rcases h3 with h | h | h <;> simp [h] <;> rfl

/-- Clearing the end of a row that is known whole. -/
theorem run_clearh (w : World) (ty : TypeId) (g o n c : Nat) (cur : Array Value) (t : TypeId) (hg : w.heap[g]? = some (.cells cur t (0, 0))) (hn : 0 < n) (hfit : o + n * 3 ≤ cur.size) :
    ∃ Z : List Value, Z.length = n * 3 ∧ (Builtin.clear_ #[22] ty #[.slice (some ⟨g, o, none⟩) n c]).run Tryd.prog w = .ok (.tuple #[]) (w.setRow g (cur.toList.take o ++ Z ++ cur.toList.drop (o + Z.length)).toArray) := by
  refine ⟨(Builtin.zeroCells (Value.agg #[.int .i64 0, .int .i64 0, .int .i64 0]).cells n).toList, zeroh_length n, ?_⟩
  have hst := run_storeCells_at Tryd.prog g o t (Builtin.zeroCells (Value.agg #[.int .i64 0, .int .i64 0, .int .i64 0]).cells n).toList 0 cur w hg (by rw [zeroh_length]; omega) (zeroh_one n)
  obtain ⟨m, rfl⟩ : ∃ m, n = m + 1 := ⟨n - 1, by omega⟩
  simp only [Nat.add_zero] at hst
  have hz := ho_zero
  generalize Value.agg #[.int .i64 0, .int .i64 0, .int .i64 0] = zv at hz hst ⊢
  generalize hZ : (Builtin.zeroCells zv.cells (m + 1)).toList = Z at hst ⊢
  simp [Builtin.clear_, run_underlying Tryd.underlying22, hz, hZ, hst]

/-- A holding of a row that is one's own is written anew. -/
theorem HoRow.setHo {W : World} {n0 g cap : Nat} {l : List Ho} (h : HoRow W n0 (.slice (some ⟨g, 0, none⟩) l.length cap) l) (k : Nat) (hk : k < l.length) (x : Ho) :
    HoRow (((W.setCell ⟨g, k * 3, none⟩ (.int .i64 x.en)).setCell ⟨g, k * 3 + 1, none⟩ (.int .i64 x.of_)).setCell ⟨g, k * 3 + 2, none⟩ (.int .i64 x.pt)) n0 (.slice (some ⟨g, 0, none⟩) l.length cap) (l.set k x) ∧ ∀ o, W.frozen? ⟨g, o, none⟩ = false := by
  rcases h.2 with ⟨hv, _⟩ | ⟨g1, c1, cur, hv, hb, hg, hc, hm, hs, ht⟩
  · cases hv
  cases hv
  have e1 : hoRow (l.set k x) = (((hoRow l).set (k * 3) (.int .i64 x.en)).set (k * 3 + 1) (.int .i64 x.of_)).set (k * 3 + 2) (.int .i64 x.pt) := by
    apply List.ext_getElem?
    intro j
    obtain ⟨q, r, hr, rfl⟩ : ∃ q r, r < 3 ∧ j = q * 3 + r := ⟨j / 3, j % 3, Nat.mod_lt _ (by omega), by omega⟩
    by_cases hq : q < l.length
    · rw [hoRow_get _ q r (by simpa using hq) hr]
      have hlr : k * 3 + 2 < (hoRow l).length := by rw [hoRow_length]; omega
      by_cases hqk : q = k
      · subst hqk
        rw [List.getD_eq_getElem?_getD, List.getElem?_set_self hq, Option.getD_some]
        rcases (by omega : r = 0 ∨ r = 1 ∨ r = 2) with rfl | rfl | rfl
        · rw [List.getElem?_set_ne (by omega), List.getElem?_set_ne (by omega), Nat.add_zero, List.getElem?_set_self (by omega)]; rfl
        · rw [List.getElem?_set_ne (by omega), List.getElem?_set_self (by rw [List.length_set]; omega)]; rfl
        · rw [List.getElem?_set_self (by rw [List.length_set, List.length_set]; omega)]; rfl
      · rw [List.getElem?_set_ne (by omega), List.getElem?_set_ne (by omega), List.getElem?_set_ne (by omega), hoRow_get l q r hq hr, List.getD_eq_getElem?_getD, List.getElem?_set_ne (fun e => hqk e.symm), ← List.getD_eq_getElem?_getD]
    · rw [List.getElem?_eq_none (by rw [hoRow_length, List.length_set]; omega), List.getElem?_eq_none (by rw [List.length_set, List.length_set, List.length_set, hoRow_length]; omega)]
  have g1 : (W.setCell ⟨g, k * 3, none⟩ (.int .i64 x.en)).heap[g]? = some (.cells (cur.setIfInBounds (k * 3) (.int .i64 x.en)) 38 (0, 0)) := by
    rw [setCell_eq_setRow W g (k * 3) cur 38 (0, 0) _ hg]
    exact setRow_heap W g cur _ 38 (0, 0) hg
  have g2 : ((W.setCell ⟨g, k * 3, none⟩ (.int .i64 x.en)).setCell ⟨g, k * 3 + 1, none⟩ (.int .i64 x.of_)).heap[g]? = some (.cells ((cur.setIfInBounds (k * 3) (.int .i64 x.en)).setIfInBounds (k * 3 + 1) (.int .i64 x.of_)) 38 (0, 0)) := by
    rw [setCell_eq_setRow _ g (k * 3 + 1) _ 38 (0, 0) _ g1]
    exact setRow_heap _ g _ _ 38 (0, 0) g1
  have g3 : (((W.setCell ⟨g, k * 3, none⟩ (.int .i64 x.en)).setCell ⟨g, k * 3 + 1, none⟩ (.int .i64 x.of_)).setCell ⟨g, k * 3 + 2, none⟩ (.int .i64 x.pt)).heap[g]? = some (.cells (((cur.setIfInBounds (k * 3) (.int .i64 x.en)).setIfInBounds (k * 3 + 1) (.int .i64 x.of_)).setIfInBounds (k * 3 + 2) (.int .i64 x.pt)) 38 (0, 0)) := by
    rw [setCell_eq_setRow _ g (k * 3 + 2) _ 38 (0, 0) _ g2]
    exact setRow_heap _ g _ _ 38 (0, 0) g2
  refine ⟨⟨by rw [hoRow_length, List.length_set], .inr ⟨g, cap, _, by rw [List.length_set], hb, g3, by rw [List.length_set]; exact hc, hm, by simpa using hs, ?_⟩⟩, fun o => by simp [World.frozen?, hg]⟩
  rw [e1, List.length_set, ← ht, Array.toList_setIfInBounds, Array.toList_setIfInBounds, Array.toList_setIfInBounds, List.take_set, List.take_set, List.take_set]

/-- What holds between the rounds of DeleteFunc. -/
structure HDelAt (p : Ho → Bool) (l d : List Ho) (i j : Nat) : Prop where
  len : d.length = l.length
  lt : i < j
  le : j ≤ l.length
  pre : d.take i = (l.take j).filter fun x => !p x
  suf : d.drop j = l.drop j

theorem hfil_out {p : Ho → Bool} {x : Ho} (h : p x = true) : [x].filter (fun y => !p y) = [] := by simp [h]
theorem hfil_in {p : Ho → Bool} {x : Ho} (h : p x = false) : [x].filter (fun y => !p y) = [x] := by simp [h]

theorem HDelAt.skip {p : Ho → Bool} {l d : List Ho} {i j : Nat} (h : HDelAt p l d i j) (hj : j < l.length) (hp : p (l.getD j ho0) = true) : HDelAt p l d i (j + 1) :=
  ⟨h.len, by have := h.lt; omega, by omega, by rw [h.pre, hos_take l j hj, List.filter_append, hfil_out hp, List.append_nil], by have := congrArg (List.drop 1) h.suf; rwa [List.drop_drop, List.drop_drop] at this⟩
theorem HDelAt.keep {p : Ho → Bool} {l d : List Ho} {i j : Nat} (h : HDelAt p l d i j) (hj : j < l.length) (hp : p (l.getD j ho0) = false) : HDelAt p l (d.set i (l.getD j ho0)) (i + 1) (j + 1) := by
  have h1 := h.lt
  have h2 := h.len
  refine ⟨by rw [List.length_set, h.len], by omega, by omega, ?_, ?_⟩
  · rw [hos_take l j hj, List.filter_append, ← h.pre, List.take_set, hos_take d i (by omega)]
    have hl : (d.take i).length = i := by rw [List.length_take]; omega
    rw [List.set_append_right _ _ (by omega), hl, Nat.sub_self, hfil_in hp]
    rfl
  · rw [List.drop_set_of_lt (by omega)]
    have := congrArg (List.drop 1) h.suf
    rwa [List.drop_drop, List.drop_drop] at this
theorem HDelAt.at {p : Ho → Bool} {l d : List Ho} {i j : Nat} (h : HDelAt p l d i j) (hj : j < l.length) : d.getD j ho0 = l.getD j ho0 := by
  have h1 := hos_drop d j (by rw [h.len]; exact hj)
  rw [h.suf, hos_drop l j hj] at h1
  exact (List.cons.inj h1).1.symm

set_option maxHeartbeats 4000000 in
theorem hdelete_own (g0 : Nat) (u : Value) (p : Ho → Bool) (T : World → Prop) (n0 : Nat) (v : Value) (l : List Ho) (w : World) (hT : T w) (hp : HTells g0 u p l T) (hset : ∀ W g off x, v.ownBlock = some g → T W → T (W.setCell ⟨g, off, none⟩ x)) (hlen : l.length ≤ 1000) (hn0 : n0 ≤ w.heap.size) (h : HoRow w n0 v l) :
    Calls Tryd.prog 22 #[v, .func (.func g0) #[] #[u]] w fun e w' => ∃ v', e = .returned v' ∧ HoRow w' n0 v' (l.filter fun x => !p x) ∧ Below n0 w w' := by
  obtain ⟨a, cap, rfl, hsl⟩ := h.isHo
  have hI := hidx_any g0 u p T a cap l w hT hp (by omega) hsl
  have HSt : Hid (∀ W g off x, a = some ⟨g, 0, none⟩ → T W → T (W.setCell ⟨g, off, none⟩ x)) := fun W g off x e hW => hset W g off x (by rw [e]; rfl) hW
  have HTw : Hid (T w) := hT
  clear hset hT
  have Hlen : (l.length : Int) ≤ 1000 := by omega
  have Hh : Hid (HoRow _ _ _ _) := h
  rcases hidx_two p l 0 with ⟨e1, ha⟩ | ⟨k, hk, e1, hpk, ha⟩
  · rw [e1] at hI
    have ef : (l.filter fun x => !p x) = l := by
      rw [List.filter_eq_self]
      intro x hx
      rw [List.any_eq_false] at ha
      simpa using ha x hx
    rw [ef]
    clear h ef hp HSt HTw
    go_enter Tryd.func22, Tryd.ntmps22
    go_wp2_with fail
    refine hI.mono ?_
    rintro e w1 ⟨rfl, hb1⟩
    have HR : Hid (HoRow w1 _ _ _) := Hh.out.below hb1
    clear hI Hh
    go_wp2
    go_ret
    exact ⟨_, rfl, HR.out, hb1.mono hn0⟩
  · rw [e1] at hI
    rw [Nat.zero_add] at hI
    obtain ⟨g, hga⟩ : ∃ g, a = some ⟨g, 0, none⟩ := by
      rcases Hh.out.2 with ⟨_, h0⟩ | ⟨g, c1, cur, hv, _⟩
      · omega
      · cases hv; exact ⟨g, rfl⟩
    subst hga
    have hne1 : ((k : Int) == -1) = false := beq_eq_false_iff_ne.2 (by omega)
    have HD0 : Hid (HDelAt p l l k (k + 1)) := ⟨rfl, Nat.lt_succ_self _, hk, by
      rw [hos_take l k hk, List.filter_append]
      have : (l.take k).filter (fun x => !p x) = l.take k := by
        rw [List.filter_eq_self]
        intro x hx
        rw [List.any_eq_false] at ha
        simpa using ha x hx
      rw [this, hfil_out hpk, List.append_nil], rfl⟩
    have eg := hp.eg
    have Hp : Hid (HTells g0 u p l T) := hp
    have HSt2 : Hid (∀ W off x, T W → T (W.setCell ⟨g, off, none⟩ x)) := fun W off x hW => HSt.out W g off x rfl hW
    clear HSt
    have hki : (k : Int) < l.length := by omega
    clear h hsl e1 ha hpk hp
    go_enter Tryd.func22, Tryd.ntmps22
    go_wp2_with fail
    refine hI.mono ?_
    rintro e w1 ⟨rfl, hb1⟩
    have HR : Hid (HoRow w1 _ _ _) := Hh.out.below hb1
    have HB1 := hb1.mono hn0
    have HT1 : Hid (T w1) := Hp.out.below _ _ HTw.out hb1
    clear HTw
    have hs1 := hb1.size
    clear hI Hh hb1
    go_wp2
    go_loopw [5, 6] (fun s5 s6 wr => ∃ (i j : Nat) (d : List Ho), s5 = .int .i64 i ∧ s6 = .int .i64 j ∧ Hid (HDelAt p l d i j) ∧ Hid (HoRow wr n0 (.slice (some ⟨g, 0, none⟩) l.length cap) d) ∧ Below n0 w wr ∧ j ≤ l.length ∧ Hid (T wr)) (fun _ s6 _ => l.length - (intOf s6).toNat)
    case atStart => exact ⟨k, k + 1, l, rfl, by go_num, HD0, HR.out, HB1, by omega, HT1⟩
    case round =>
      obtain ⟨i, j, d, rfl, rfl, HD, R, BW, hjl, HTr⟩ := hrel
      clear HT1
      have hij := HD.out.lt
      have hdl := HD.out.len
      by_cases hlt : j < l.length
      · have hj1 : (j : Int) < l.length := by omega
        have hi1 : (i : Int) < l.length := by omega
        have hi0 : (0 : Int) ≤ i := by omega
        have hj0 : (0 : Int) ≤ j := by omega
        have hat := HD.out.at hlt
        have hR2 := R.out
        rw [← hdl] at hR2
        have hn : HoAt wr g (j * 3) (d.getD j ho0) := by
          obtain ⟨a', cq', hv, hsl'⟩ := hR2.isHo
          cases hv
          rcases hsl'.lies with h | ⟨b', off', e, _, hc'⟩
          · rw [h] at hdl; simp at hdl; omega
          · cases e
            have := hc' j (by omega)
            rwa [Nat.zero_add] at this
        rw [hat] at hn
        have hws := BW.size
        have hn0w : n0 ≤ wr.heap.size := Nat.le_trans hn0 hws
        have B2 := BW.alloc hn0w (.cells (l.getD j ho0).cells 38)
        have R1 : HoRow (wr.alloc (.cells (l.getD j ho0).cells 38)) n0 (.slice (some ⟨g, 0, none⟩) l.length cap) d := World.ownsRow.alloc R.out _
        have hx := HoAt.new wr (l.getD j ho0) 38
        have HTa : Hid (T (wr.alloc (.cells (l.getD j ho0).cells 38))) := Hp.out.below _ _ HTr.out ((Below.refl _ wr).alloc (Nat.le_refl _) _)
        have hcall := Hp.out.call (l.getD j ho0) (wr.alloc (.cells (l.getD j ho0).cells 38)) (hos_mem l j hlt) HTa.out
        have HS : Hid (p (l.getD j ho0) = true → HDelAt p l d i (j + 1)) := HD.out.skip hlt
        have HK : Hid (p (l.getD j ho0) = false → HDelAt p l (d.set i (l.getD j ho0)) (i + 1) (j + 1)) := HD.out.keep hlt
        have hsz : (wr.alloc (.cells (l.getD j ho0).cells 38)).heap.size = wr.heap.size + 1 := by simp
        have hgb := (R.out.own) g rfl
        have hgw := (World.ownsRow.lt R.out g rfl).2
        clear hR2 R hat HD
        generalize l.getD j ho0 = x at *
        have HR1 : Hid (HoRow _ _ _ _) := R1
        have Hx : Hid (HoAt _ _ _ _) := hx
        have Hcall : Hid (Calls _ _ _ _ _) := hcall
        clear R1 hx hcall
        cases hq : p x
        · have HK2 : Hid (HDelAt _ _ _ _ _) := HK.out hq
          rw [hq] at Hcall
          clear HK HS hq
          obtain ⟨x0, x1, x2⟩ := x
          obtain ⟨c0, c1, c2⟩ := hn
          simp only [Ho.cells] at c0 c1 c2 B2 HR1 Hx Hcall hsz HTa
          go_wp2_with fail
          refine Hcall.out.mono ?_
          rintro e w2 ⟨rfl, hb2⟩
          have R2 := HoRow.below HR1.out hb2
          have HT2 : Hid (T w2) := Hp.out.below _ _ HTa.out hb2
          have HT3 : Hid (T _) := HSt2.out _ (i * 3 + 2) (.int .i64 x2) (HSt2.out _ (i * 3 + 1) (.int .i64 x1) (HSt2.out _ (i * 3) (.int .i64 x0) HT2.out))
          have B3 := B2.trans (hb2.mono (by simp; omega))
          rw [hsz] at hb2
          obtain ⟨d0, d1, d2⟩ := Hx.out.below hb2 (Nat.lt_succ_self _)
          simp only [Nat.zero_add] at d0 d1 d2
          have hs2 := hb2.size
          rw [hsz] at hs2
          rw [← hdl] at R2
          obtain ⟨R3, hfz⟩ := HoRow.setHo R2 i (by omega) ⟨x0, x1, x2⟩
          rw [hdl] at R3
          have c3 : ∀ o, o < 3 → ∃ v, w2.cell? ⟨g, i * 3 + o, none⟩ = some v := fun o ho => by
            obtain ⟨a', cq', hv, hsl'⟩ := R2.isHo
            cases hv
            rcases hsl'.lies with h | ⟨b', off', e, _, hc'⟩
            · rw [h] at hdl; simp at hdl; omega
            · cases e
              have := hc' i (by omega)
              rw [Nat.zero_add] at this
              rcases (by omega : o = 0 ∨ o = 1 ∨ o = 2) with rfl | rfl | rfl
              · exact ⟨_, this.c0⟩
              · exact ⟨_, this.c1⟩
              · exact ⟨_, this.c2⟩
          obtain ⟨v0, q0⟩ := c3 0 (by omega)
          obtain ⟨v1, q1⟩ := c3 1 (by omega)
          obtain ⟨v2, q2⟩ := c3 2 (by omega)
          rw [Nat.add_zero] at q0
          have f0 := hfz (i * 3)
          have f1 := hfz (i * 3 + 1)
          have f2 := hfz (i * 3 + 2)
          have HR3 : Hid (HoRow _ n0 (.slice (some ⟨g, 0, none⟩) l.length cap) (d.set i ⟨x0, x1, x2⟩)) := R3
          have B4 := ((B3.setCell (p := ⟨g, i * 3, none⟩) hgb (.int .i64 x0)).setCell (p := ⟨g, i * 3 + 1, none⟩) hgb (.int .i64 x1)).setCell (p := ⟨g, i * 3 + 2, none⟩) hgb (.int .i64 x2)
          clear R3 R2 hfz c3 HR1 B2 Hx Hcall c0 c1 c2 hb2
          go_wp2
          go_roundw
          case rel => exact ⟨i + 1, j + 1, _, by go_num, by go_num, HK2, HR3.out, B4, by omega, HT3⟩
          case measure => simp [intOf]; omega
        · have HS2 : Hid (HDelAt _ _ _ _ _) := HS.out hq
          rw [hq] at Hcall
          clear HK HS hq
          obtain ⟨x0, x1, x2⟩ := x
          obtain ⟨c0, c1, c2⟩ := hn
          simp only [Ho.cells] at c0 c1 c2 B2 HR1 Hcall HTa
          go_wp2_with fail
          refine Hcall.out.mono ?_
          rintro e w2 ⟨rfl, hb2⟩
          have HR2 : Hid (HoRow w2 _ _ _) := HoRow.below HR1.out hb2
          have HT2 : Hid (T w2) := Hp.out.below _ _ HTa.out hb2
          have B3 := B2.trans (hb2.mono (by simp; omega))
          clear HR1 B2 Hcall hb2 c0 c1 c2
          go_wp2
          go_roundw
          case rel => exact ⟨i, j + 1, d, rfl, by go_num, HS2, HR2.out, B3, by omega, HT2⟩
          case measure => simp [intOf]; omega
      · have hj : j = l.length := by omega
        subst hj
        have hpre := HD.out.pre
        rw [List.take_length] at hpre
        have hi1 : (i : Int) < l.length := by omega
        have hi0 : (0 : Int) ≤ i := by omega
        have hgb := (R.out.own) g rfl
        have hgw := (World.ownsRow.lt R.out g rfl).2
        have hR2 := R.out
        rw [← hdl] at hR2
        rcases hR2.2 with ⟨hv, _⟩ | ⟨g1, c1, cur, hv, hb, hg, hc, hm, hs, ht⟩
        · cases hv
        cases hv
        obtain ⟨Z, hZl, hcl⟩ := run_clearh wr 0 g (i * 3) (l.length - i) (cap - i) cur 38 hg (by omega) (by rw [hs]; omega)
        obtain ⟨A, hA⟩ : ∃ A : Array Value, A = (cur.toList.take (i * 3) ++ Z ++ cur.toList.drop (i * 3 + Z.length)).toArray := ⟨_, rfl⟩
        rw [← hA] at hcl
        have hlc : cur.toList.length = cap * 3 := by simpa using hs
        have hti : (d.take i).length = i := by rw [List.length_take]; omega
        have hAl : A.toList.length = cap * 3 := by
          rw [hA, List.toList_toArray, List.length_append, List.length_append, List.length_take, List.length_drop, hlc, hZl]; omega
        have e0 : cur.toList.take (i * 3) = hoRow (d.take i) := by
          rw [hoRow_take, ← ht, List.take_take, Nat.min_eq_left (by omega)]
        have hfin : HoRow (wr.setRow g A) n0 (.slice (some ⟨g, 0, none⟩) i cap) (l.filter fun x => !p x) := by
          rw [← hpre]
          refine ⟨by rw [hoRow_length], .inr ⟨g, cap, A, by rw [hti], hb, setRow_heap wr g cur A 38 (0, 0) hg, by rw [hti]; omega, hm, by simpa using hAl, ?_⟩⟩
          rw [hA, List.toList_toArray, e0, List.append_assoc]
          exact List.take_left' (by rw [hoRow_length])
        have HF : Hid (HoRow _ _ _ _) := hfin
        have B4 : Below n0 w (wr.setRow g A) := by
          refine BW.trans ⟨rfl, rfl, rfl, by rw [setRow_size]; exact Nat.le_refl _, fun k hk => setRow_other _ _ _ _ (by omega)⟩
        have hci : ¬ cap = i := by omega
        have hc2 : (i : Int) ≤ cap := by omega
        have hlc2 : (l.length : Int) ≤ cap := by omega
        clear hfin hA hlc hti hAl e0 hpre hR2 hg hs ht hZl
        go_wp2
        go_ret
        exact ⟨_, rfl, HF.out, B4⟩
end Go.Proofs.YtmpjaogomabfiaaDoor
