/-
  The best piece of each number: an array of two hundred pieces in memory.
-/
import Derived.Test.YtikcidlaamgakaaGreatDoorZu6
namespace Go.Proofs.YtikcidlaamgakaaGreatDoor
set_option linter.unusedVariables false
set_option linter.unusedSimpArgs false
set_option maxRecDepth 100000
open Go.RowKit Go.Lib
/-- Behind a head that is written. -/
def hdD (D : Dk) (fr mn since : Nat) : Dk := (D.flush.write fr (lhB mn since)).flush
/-- 'append(s, x)' where s is full: a new row. -/
theorem run_appFull (w : World) (ty : TypeId) (base : Nat) (b : Nat) (l : List UInt8) (g : Nat) (m : List UInt8) (cap : Nat) (hs : ∀ k (h : k < l.length), w.cell? ⟨b, k, none⟩ = some (.int .u8 (l[k]'h).toNat)) (hm : ∀ k (h : k < m.length), w.cell? ⟨g, k, none⟩ = some (.int .u8 (m[k]'h).toNat)) (h0 : 0 < m.length) (hb : base ≤ w.heap.size) (hlen : l.length + m.length ≤ 1000) (hfit : Builtin.nextslicecap (l.length + m.length) l.length * 1 ≤ 281474976710656) :
    ∃ v' w', (Builtin.append_ #[35, 35] ty #[.slice (some ⟨b, 0, none⟩) l.length l.length, .slice (some ⟨g, 0, none⟩) m.length cap]).run Tryz.prog w = .ok v' w' ∧ ByRow w' base v' (l ++ m) ∧ Below w.heap.size w w' ∧ v'.ownBlock = some w.heap.size := by
  obtain ⟨qi, hqi, hqz⟩ := u8_tinfo
  have h := run_append_grow (P := Tryz.prog) w 35 ty 5 qi (.int .u8 0) Tryz.underlying35 hqi hqz.1 ⟨b, 0, none⟩ l.length l.length (byC l) (by rw [byC_length, hqz.2.1]; omega) (fun j v hj => by
      have hjl : j < l.length := by
        have := (List.getElem?_eq_some_iff.1 hj).1
        rwa [byC_length] at this
      rw [Addr.add_mid, Nat.zero_add, hs j hjl]
      rw [byC_get l j hjl] at hj
      exact hj) ⟨g, 0, none⟩ m.length cap (byC m) (by rw [byC_length, hqz.2.1]; omega) (fun j v hj => by
      have hjl : j < m.length := by
        have := (List.getElem?_eq_some_iff.1 hj).1
        rwa [byC_length] at this
      rw [Addr.add_mid, Nat.zero_add, hm j hjl]
      rw [byC_get m j hjl] at hj
      exact hj) (by omega) (by omega) (by rw [hqz.2.2]; exact hfit)
  refine ⟨_, _, h, ?_, (show Below w.heap.size w w.drew from ⟨rfl, rfl, rfl, Nat.le_refl _, fun _ _ => rfl⟩).alloc (Nat.le_refl _) _, rfl⟩
  have hge := grownCap_ge w (l.length + m.length) l.length 5
  have hcm := grownCap_le_maxLen w (l.length + m.length) l.length 5 (by unfold maxLen; omega)
  unfold ByRow
  rw [List.length_append, byC_append]
  refine ⟨by rw [List.length_append, byC_length, byC_length]; omega, .inr ⟨w.heap.size, _, _, rfl, hb, new_heap w.drew _, hge, hcm, ?_, ?_⟩⟩
  · simp only [Array.size_append, List.size_toArray, size_zeroCells, byC_length, Value.cells, Array.size_singleton]
    simp
    omega
  · simp only [Array.toList_append, List.append_assoc]
    rw [← List.append_assoc, Nat.mul_one, ← byC_length l, ← byC_length m, ← List.length_append]
    exact List.take_left
theorem wpList_appFull {w : World} {ops : Array Oper} {rest : List Oper} {o : Oper} {a : Act} {Q : Exit → Act → World → Prop} (hgd : o.guard = none) (d s : Operand) (ho : o.op = .call { callee := .builtin .append, args := #[d, s], argTypes := #[35, 35] })
    (base b : Nat) (l : List UInt8) (g : Nat) (m : List UInt8) (k q cap : Nat) (hd : a.eval d = .slice (some ⟨b, 0, none⟩) q q) (he : a.eval s = .slice (some ⟨g, 0, none⟩) k cap) (hq : l.length = q) (hk : m.length = k) (hs : ∀ k (h : k < l.length), w.cell? ⟨b, k, none⟩ = some (.int .u8 (l[k]'h).toNat)) (hm : ∀ k (h : k < m.length), w.cell? ⟨g, k, none⟩ = some (.int .u8 (m[k]'h).toNat)) (h0 : 0 < m.length) (hb : base ≤ w.heap.size) (hlen : l.length + m.length ≤ 1000) (hfit : Builtin.nextslicecap (l.length + m.length) l.length * 1 ≤ 281474976710656)
    (h : ∀ v' w', ByRow w' base v' (l ++ m) → Below w.heap.size w w' → v'.ownBlock = some w.heap.size → wpList Tryz.prog ops Q rest (a.put o.dst v') w') : wpList Tryz.prog ops Q (o :: rest) a w := by
  subst hk
  subst hq
  obtain ⟨v', w', h1, h2, h3, h4⟩ := run_appFull w o.type base b l g m cap hs hm h0 hb hlen hfit
  exact wpList_append_run hgd d s 35 35 ho _ _ hd he h1 (h v' w' h2 h3 h4)

section
variable {w W : World} {p nb sb : Nat} {cv : Value} {n : Nat} {D : Dk}
set_option maxHeartbeats 2000000 in
theorem writeLHead_ok (a : Tn w W p nb sb cv n D) (fr mn since : Nat) (hf : D.fail < 0) (hi : fr < n) (hn : n ≤ 200) (hm : mn ≤ 200) (hsn : since < 65536) (hs : D.lim 999000) :
    Calls Tryz.prog 38 #[.agg #[.pointer (some ⟨p, 0, none⟩), .int .i64 (fr : Int), .int .i64 (mn : Int)], .int .i64 (since : Int)] W fun e w' => e = .returned .nilIface ∧ ∃ cv', Hid (Tn w w' p nb sb cv' n (hdD D fr mn since)) ∧ Hid (Keeps w.heap.size dkT W w') := by
  obtain ⟨W1, hW1⟩ : ∃ W1, W.alloc (.cells #[.pointer (some ⟨p, 0, none⟩), .int .i64 (fr : Int), .int .i64 (mn : Int)] 71) = W1 := ⟨_, rfl⟩
  have hB : Below W.heap.size W W1 := by rw [← hW1]; exact (Below.refl _ W).alloc (Nat.le_refl _) _
  have hr := new_heap W (.cells #[.pointer (some ⟨p, 0, none⟩), .int .i64 (fr : Int), .int .i64 (mn : Int)] 71)
  rw [hW1] at hr
  have HF : Hid (∀ U : World, U.heap[W.heap.size]? = some (.cells #[.pointer (some ⟨p, 0, none⟩), .int .i64 (fr : Int), .int .i64 (mn : Int)] 71 (0, 0)) → U.cell? ⟨W.heap.size, 0, none⟩ = some (.pointer (some ⟨p, 0, none⟩)) ∧ U.cell? ⟨W.heap.size, 1, none⟩ = some (.int .i64 (fr : Int)) ∧ U.cell? ⟨W.heap.size, 2, none⟩ = some (.int .i64 (mn : Int))) := fun U h => ⟨by simp [World.cell?, h], by simp [World.cell?, h], by simp [World.cell?, h]⟩
  obtain ⟨c0, _, _⟩ := HF.out W1 hr
  have HFl : Hid (Calls _ _ _ W1 _) := tn_flush (a.below hB) (failing_neg hf) (by have := hs.s; omega)
  have HH : Hid (W1.heap[W.heap.size]? = some (.cells #[.pointer (some ⟨p, 0, none⟩), .int .i64 (fr : Int), .int .i64 (mn : Int)] 71 (0, 0)) ∧ Below W.heap.size W W1) := ⟨hr, hB⟩
  have hf1 : D.flush.fail < 0 := hf
  have hl1 : D.flush.lim 999001 := by
    have := flR_lim hs
    unfold flR at this
    rw [if_neg (by rw [failing_neg hf]; decide)] at this
    exact this
  have hf2 : (D.flush.write fr (lhB mn since)).fail < 0 := hf
  have hl2 : (D.flush.write fr (lhB mn since)).lim 999002 := by
    have := wrR_lim hl1 fr (lhB mn since)
    unfold wrR at this
    rw [if_neg (by rw [failing_neg hf1]; decide)] at this
    exact this
  have HWr : Hid (∀ (U : World) (cv' : Value) (a' : Option Addr) (c' : Nat), Tn w U p nb sb cv' n D.flush → IsBy U a' (lhB mn since) c' → Calls Tryz.prog 18 #[.pointer (some ⟨p, 0, none⟩), .int .i64 (fr : Int), .slice a' (lhB mn since).length c'] U fun e w' => e = .returned .nilIface ∧ ∃ cv', Hid (Tn w w' p nb sb cv' n (D.flush.write fr (lhB mn since))) ∧ Hid (Keeps w.heap.size dkT U w')) := fun U cv' a' c' ht hb => tn_write ht fr a' (lhB mn since) c' (failing_neg hf1) hi (by rw [lhB_length]; omega) hn (by have := hl1.s; omega) (by have := hl1.c; omega) hb
  have HF2 : Hid (∀ (U : World) (cv' : Value), Tn w U p nb sb cv' n (D.flush.write fr (lhB mn since)) → Calls Tryz.prog 19 #[.pointer (some ⟨p, 0, none⟩)] U fun e w' => e = .returned .nilIface ∧ Hid (Tn w w' p nb sb (.slice none 0 0) n (hdD D fr mn since)) ∧ Hid (Keeps w.heap.size dkT U w')) := fun U cv' ht => tn_flush ht (failing_neg hf2) (by have := hl2.s; omega)
  have HAdd : Hid (∀ (U : World) (base : Nat) (v : Value), ByRow U base v (mkB ++ [UInt8.ofNat mn]) → base ≤ U.heap.size → Calls Tryz.prog 48 #[v, .int .i64 (since : Int)] U fun e w' => ∃ v', e = .returned v' ∧ Hid (ByRow w' base v' ((mkB ++ [UInt8.ofNat mn]) ++ w2B since)) ∧ Hid (Below base U w') ∧ Hid (∀ b, b < U.heap.size → v.ownBlock ≠ some b → w'.heap[b]? = U.heap[b]?) ∧ Hid (∀ j, v'.ownBlock = some j → v.ownBlock = some j ∨ U.heap.size ≤ j)) := fun U base v h hb => addWord_any base v _ since U h hb (by simp [mkB]) hsn
  have hwm : IntKind.u8.wrap (mn : Int) = (mn : Int) := by rw [IntKind.wrap_u8]; omega
  have Hby : Hid (((UInt8.ofNat mn).toNat : Int) = (mn : Int)) := by unfold Hid; rw [UInt8.toNat_ofNat']; omega
  have m0 : (0 : Int) ≤ mn := by omega
  have m1 : (mn : Int) ≤ 200 := by omega
  clear a hB hr hf1 hf2 hl1 hl2
  go_enter Tryz.func38, Tryz.ntmps38
  go_wp2_with fail
  refine HFl.out.mono ?_
  rintro e w2 ⟨rfl, ht2, hk2⟩
  have hr2 := hk2.out.row HH.out.1 (by decide)
  have hlt2 : W.heap.size < w2.heap.size := (Array.getElem?_eq_some_iff.1 hr2).1
  have hcv := run_convert_bytes_const (P := Tryz.prog) w2 35 5 #[.int .u8 255, .int .u8 113, .int .u8 100, .int .u8 32, .int .u8 108, .int .u8 111, .int .u8 103] 7 7 Tryz.underlying35 Tryz.underlying5
  obtain ⟨w3, hw3⟩ : ∃ w3, w2.alloc (.cells #[.int .u8 255, .int .u8 113, .int .u8 100, .int .u8 32, .int .u8 108, .int .u8 111, .int .u8 103] 5 (7, 8)) = w3 := ⟨_, rfl⟩
  have hcv' : (convert 35 35 (.slice (some ⟨w2.heap.size, 0, none⟩) 7 7)).run Tryz.prog (w2.alloc (.cells #[.int .u8 255, .int .u8 113, .int .u8 100, .int .u8 32, .int .u8 108, .int .u8 111, .int .u8 103] 5)) = .ok (.slice (some ⟨w2.heap.size, 0, none⟩) 7 7) w3 := by rw [← hw3]; exact hcv
  have hb3 : Below w2.heap.size w2 w3 := by rw [← hw3]; exact (Below.refl _ w2).alloc (Nat.le_refl _) _
  have hr3 : w3.heap[w2.heap.size]? = some (.cells #[.int .u8 255, .int .u8 113, .int .u8 100, .int .u8 32, .int .u8 108, .int .u8 111, .int .u8 103] 5 (7, 8)) := by rw [← hw3]; exact new_heap w2 _
  have hs3 : w3.heap.size = w2.heap.size + 1 := by rw [← hw3]; simp
  have ha3 := (hb3.block _ hlt2).trans hr2
  obtain ⟨_, _, e2⟩ := HF.out w3 ha3
  obtain ⟨w4, hw4⟩ : ∃ w4, w3.alloc (.cells #[.int .u8 (mn : Int)] 5) = w4 := ⟨_, rfl⟩
  have hb4 : Below w3.heap.size w3 w4 := by rw [← hw4]; exact (Below.refl _ w3).alloc (Nat.le_refl _) _
  have hr4 : w4.heap[w2.heap.size + 1]? = some (.cells #[.int .u8 (mn : Int)] 5 (0, 0)) := by rw [← hw4, ← hs3]; exact new_heap w3 _
  have HK : Hid (Keeps w.heap.size dkT W w2) := (Keeps.of_below HH.out.2).trans hk2.out
  have H4 : Hid ((∀ k (h : k < mkB.length), w4.cell? ⟨w2.heap.size, k, none⟩ = some (.int .u8 (mkB[k]'h).toNat)) ∧ (∀ k (h : k < [UInt8.ofNat mn].length), w4.cell? ⟨w2.heap.size + 1, k, none⟩ = some (.int .u8 (([UInt8.ofNat mn])[k]'h).toNat)) ∧ w2.heap.size ≤ w4.heap.size ∧ Below w2.heap.size w2 w4) := by
    have hr34 := (hb4.block w2.heap.size (by omega)).trans hr3
    refine ⟨fun k h => ?_, fun k h => ?_, Nat.le_trans hb3.size hb4.size, hb3.trans (hb4.mono hb3.size)⟩
    · rw [cell_of_row _ _ _ _ _ (7, 8) hr34]
      have hk : k < 7 := h
      match k, hk with
      | 0, _ => rfl
      | 1, _ => rfl
      | 2, _ => rfl
      | 3, _ => rfl
      | 4, _ => rfl
      | 5, _ => rfl
      | 6, _ => rfl
    · have hk : k = 0 := by simpa using h
      subst hk
      rw [cell_of_row _ _ _ _ _ (0, 0) hr4]
      show some (Value.int .u8 (mn : Int)) = some (Value.int .u8 ((UInt8.ofNat mn).toNat : Int))
      rw [Hby.out]
  clear hcv
  have Ha2 : Hid (w2.heap[W.heap.size]? = some (.cells #[.pointer (some ⟨p, 0, none⟩), .int .i64 (fr : Int), .int .i64 (mn : Int)] 71 (0, 0)) ∧ W.heap.size < w2.heap.size) := ⟨hr2, hlt2⟩
  have HT2 : Hid (Tn w w2 p nb sb (.slice none 0 0) n D.flush) := ht2.out
  clear HFl ht2 hk2 hr2 hb3 hr3 ha3 hb4 hr4 c0 HH
  go_wp2_with (at_builtin; refine wpList_appFull rfl (.tmp 15) (.tmp 19) rfl w2.heap.size w2.heap.size mkB (w2.heap.size + 1) [UInt8.ofNat mn] 1 7 1 (by rfl) (by rfl) rfl rfl H4.out.1 H4.out.2.1 Nat.zero_lt_one H4.out.2.2.1 (by show 7 + 1 ≤ 1000; decide) (by show Builtin.nextslicecap (7 + 1) 7 * 1 ≤ 281474976710656; decide) ?_; intro v5 w5 hr5 hb5 ho5)
  obtain ⟨av5, cv5, rfl, _⟩ := hr5.isBy
  have hl5 : (mkB ++ [UInt8.ofNat mn]).length = 8 := by simp [mkB]
  rw [hl5] at hr5 ⊢
  have hlt4 := Nat.le_trans H4.out.2.2.1 (Nat.le_refl w4.heap.size)
  have hb25 : Below w2.heap.size w2 w5 := H4.out.2.2.2.trans (hb5.mono H4.out.2.2.1)
  have H5 : Hid (w5.heap[W.heap.size]? = some (.cells #[.pointer (some ⟨p, 0, none⟩), .int .i64 (fr : Int), .int .i64 (mn : Int)] 71 (0, 0)) ∧ Below w2.heap.size w2 w5 ∧ ByRow w5 w2.heap.size (.slice av5 8 cv5) (mkB ++ [UInt8.ofNat mn]) ∧ w2.heap.size ≤ w5.heap.size) :=
    ⟨(hb25.block _ Ha2.out.2).trans Ha2.out.1, hb25, hr5, hb25.size⟩
  clear H4 hr5 hb5 ho5 hl5 hlt4 hb25 e2
  go_upto_region 5 with fail
  have HT : Hid (w5.drew.heap[W.heap.size]? = some (.cells #[.pointer (some ⟨p, 0, none⟩), .int .i64 (fr : Int), .int .i64 (mn : Int)] 71 (0, 0)) ∧ Below w2.heap.size w2 w5.drew ∧ ByRow w5.drew w2.heap.size (.slice av5 8 cv5) (mkB ++ [UInt8.ofNat mn]) ∧ w2.heap.size ≤ w5.drew.heap.size) := ⟨H5.out.1, H5.out.2.1.trans ⟨rfl, rfl, rfl, Nat.le_refl _, fun _ _ => rfl⟩, H5.out.2.2.1, H5.out.2.2.2⟩
  refine wp_region_drawn (by kernel_rfl) ?_
  clear H5
  generalize w5.drew = v2 at *
  refine wpAny_take (i := 0) (v := .pointer (some ⟨W.heap.size, 0, none⟩)) rfl (by kernel_rfl) (by kernel_rfl) (by kernel_rfl) (fun _ _ _ h => h) (Or.inl ⟨by rfl, fun w => by go_simp⟩) ?_
  simp only [Act.put, List.getElem_toArray, List.getElem_cons_succ, List.getElem_cons_zero, List.setIfInBounds_toArray, List.set_cons_zero, List.set_cons_succ]
  refine wpAny_take (i := 2) (v := .pointer (some ⟨W.heap.size, 1, none⟩)) rfl (by kernel_rfl) (by kernel_rfl) (by kernel_rfl) (fun _ _ _ h => h) (Or.inl ⟨by rfl, fun w => by go_simp⟩) ?_
  simp only [Act.put, List.getElem_toArray, List.getElem_cons_succ, List.getElem_cons_zero, List.setIfInBounds_toArray, List.set_cons_zero, List.set_cons_succ]
  refine wpAny_take (i := 4) (v := .slice av5 8 cv5) rfl (by kernel_rfl) (by kernel_rfl) (by kernel_rfl) (fun _ _ _ h => h) (Or.inl ⟨by rfl, fun w => by go_simp⟩) ?_
  simp only [Act.put, List.getElem_toArray, List.getElem_cons_succ, List.getElem_cons_zero, List.setIfInBounds_toArray, List.set_cons_zero, List.set_cons_succ]
  refine wpAny_take (i := 5) (v := .int .i64 (since : Int)) rfl (by kernel_rfl) (by kernel_rfl) (by kernel_rfl) (fun _ _ _ h => h) (Or.inl ⟨by rfl, fun w => by go_simp⟩) ?_
  simp only [Act.put, List.getElem_toArray, List.getElem_cons_succ, List.getElem_cons_zero, List.setIfInBounds_toArray, List.set_cons_zero, List.set_cons_succ]
  refine any_of_L (g := 7) (T := fun u => u.heap[W.heap.size]? = some (.cells #[.pointer (some ⟨p, 0, none⟩), .int .i64 (fr : Int), .int .i64 (mn : Int)] 71 (0, 0))) _ _ _ _ ?_
  refine L_take (i := 1) (v := .pointer (some ⟨p, 0, none⟩)) rfl rfl (by kernel_rfl) (by decide) (by kernel_rfl) (by kernel_rfl) (by kernel_rfl) (by kernel_rfl) (fun _ _ _ h => h) (Or.inl ⟨by rfl, fun w' hw' => by have c0 := (HF.out w' hw').1; clear hw'; go_simp⟩) HT.out.1 ?_
  simp only [Act.put, List.getElem_toArray, List.getElem_cons_succ, List.getElem_cons_zero, List.setIfInBounds_toArray, List.set_cons_zero, List.set_cons_succ]
  refine L_take (i := 3) (v := .int .i64 (fr : Int)) rfl rfl (by kernel_rfl) (by decide) (by kernel_rfl) (by kernel_rfl) (by kernel_rfl) (by kernel_rfl) (fun _ _ _ h => h) (Or.inl ⟨by rfl, fun w' hw' => by have c0 := (HF.out w' hw').2.1; clear hw'; go_simp⟩) HT.out.1 ?_
  simp only [Act.put, List.getElem_toArray, List.getElem_cons_succ, List.getElem_cons_zero, List.setIfInBounds_toArray, List.set_cons_zero, List.set_cons_succ]
  refine L_one (i := 6) (by kernel_rfl) ?_
  have HA6 : Hid (Calls _ _ _ v2 _) := HAdd.out v2 w2.heap.size (.slice av5 8 cv5) HT.out.2.2.1 HT.out.2.2.2
  refine wpOp_step rfl ?_
  intro K hK
  rw [if_pos (by rfl)]
  have hK' : Shut (∀ a w, _ → K a w) := hK
  clear hK
  go_wp2_with fail
  refine HA6.out.mono ?_
  rintro e w6 ⟨v6, rfl, hr6, hb6, _, _⟩
  have hb26 : Below w2.heap.size w2 w6 := HT.out.2.1.trans hb6.out
  have H6 : Hid (w6.heap[W.heap.size]? = some (.cells #[.pointer (some ⟨p, 0, none⟩), .int .i64 (fr : Int), .int .i64 (mn : Int)] 71 (0, 0)) ∧ Below w2.heap.size w2 w6) := ⟨(hb26.block _ Ha2.out.2).trans Ha2.out.1, hb26⟩
  obtain ⟨av6, cv6, rfl, hby6⟩ := hr6.out.isBy
  have HW6 : Hid (Calls _ _ _ w6 _) := HWr.out w6 _ av6 cv6 (HT2.out.below hb26) hby6
  refine hK'.out _ _ ⟨H6.out.1, ?_⟩
  clear hK' K hr6 hb6 hb26 hby6 HA6 HWr
  rw [show ((mkB ++ [UInt8.ofNat mn]) ++ w2B since).length = (lhB mn since).length from rfl]
  try simp only [Act.put, List.getElem_toArray, List.getElem_cons_succ, List.getElem_cons_zero, List.setIfInBounds_toArray, List.set_cons_zero, List.set_cons_succ]
  refine L_go (by kernel_rfl) (by kernel_rfl) ?_
  refine wpOp_step rfl ?_
  intro K hK
  rw [if_pos (by rfl)]
  have hK' : Shut (∀ a w, _ → K a w) := hK
  clear hK
  go_wp2_with fail
  refine HW6.out.mono ?_
  rintro e w7 ⟨rfl, cv7, h7, k7⟩
  have hr7 := k7.out.row H6.out.1 (by decide)
  have HF7 : Hid (Calls _ _ _ w7 _) := HF2.out w7 cv7 h7.out
  have HK7 : Hid (Keeps w.heap.size dkT W w7) := (HK.out.trans (Keeps.of_below H6.out.2)).trans k7.out
  have c70 := (HF.out w7 hr7).1
  clear HW6 h7 k7 hr7 H6 HF2
  refine hK'.out _ _ ?_
  clear hK' K
  try simp only [Act.put, List.getElem_toArray, List.getElem_cons_succ, List.getElem_cons_zero, List.setIfInBounds_toArray, List.set_cons_zero, List.set_cons_succ]
  refine any_one (i := 8) (by kernel_rfl) ?_
  refine wpOp_step rfl ?_
  intro K hK
  rw [if_pos (by rfl)]
  have hK' : Shut (∀ a w, _ → K a w) := hK
  clear hK
  go_wp2_with fail
  refine hK'.out _ _ ?_
  clear hK' K
  refine wpAny_done (by kernel_rfl) ?_ _
  go_wp2_with fail
  refine HF7.out.mono ?_
  rintro e w8 ⟨rfl, h8, k8⟩
  go_wp2
  go_ret
  exact ⟨rfl, _, h8, HK7.out.trans k8.out⟩
end
end Go.Proofs.YtikcidlaamgakaaGreatDoor

namespace Go.Proofs.YtikcidlaamgakaaGreatDoor
set_option linter.unusedVariables false
set_option linter.unusedSimpArgs false
set_option maxRecDepth 100000
open Go.RowKit Go.Lib
theorem PmRow.shape {W : World} {base : Nat} {v : Value} {xs : List Pm} (h : PmRow W base v xs) : ∃ a cap, v = .slice a xs.length cap := by
  rcases h.row.2 with ⟨rfl, h0⟩ | ⟨g, cap, cur, rfl, _⟩
  · exact ⟨none, 0, by rw [h0]⟩
  · exact ⟨_, _, rfl⟩
section
variable {w W : World} {p nb sb : Nat} {cv : Value} {n : Nat} {D : Dk}
theorem lay_none (a : Tn w W p nb sb cv n D) (fr mn : Nat) (hf : D.fail < 0) (hm1 : 1 ≤ mn) (hi : fr + mn ≤ n) (hn : n ≤ 200) (hs : D.lim 999000) (hz : allF mn (imgF fr mn D) = []) :
    Calls Tryz.prog 37 #[.agg #[.pointer (some ⟨p, 0, none⟩), .int .i64 (fr : Int), .int .i64 (mn : Int)]] W fun e w' => e = .returned .nilIface ∧ ∃ cv', Hid (Tn w w' p nb sb cv' n (hdD D fr mn 1)) ∧ Hid (Keeps w.heap.size dkT W w') := by
  obtain ⟨W1, hW1⟩ : ∃ W1, W.alloc (.cells #[.pointer (some ⟨p, 0, none⟩), .int .i64 (fr : Int), .int .i64 (mn : Int)] 71) = W1 := ⟨_, rfl⟩
  have hB : Below W.heap.size W W1 := by rw [← hW1]; exact (Below.refl _ W).alloc (Nat.le_refl _) _
  have hr := new_heap W (.cells #[.pointer (some ⟨p, 0, none⟩), .int .i64 (fr : Int), .int .i64 (mn : Int)] 71)
  rw [hW1] at hr
  have HF : Hid (∀ U : World, U.heap[W.heap.size]? = some (.cells #[.pointer (some ⟨p, 0, none⟩), .int .i64 (fr : Int), .int .i64 (mn : Int)] 71 (0, 0)) → U.cell? ⟨W.heap.size, 0, none⟩ = some (.pointer (some ⟨p, 0, none⟩)) ∧ U.cell? ⟨W.heap.size, 1, none⟩ = some (.int .i64 (fr : Int)) ∧ U.cell? ⟨W.heap.size, 2, none⟩ = some (.int .i64 (mn : Int))) := fun U h => ⟨by simp [World.cell?, h], by simp [World.cell?, h], by simp [World.cell?, h]⟩
  obtain ⟨c0, c1, c2⟩ := HF.out W1 hr
  have HP : Hid (Calls _ _ _ W1 _) := piecesA_any (a.below hB) fr mn hi hn
  rw [hz] at HP
  have HH : Hid (W1.heap[W.heap.size]? = some (.cells #[.pointer (some ⟨p, 0, none⟩), .int .i64 (fr : Int), .int .i64 (mn : Int)] 71 (0, 0)) ∧ Below W.heap.size W W1) := ⟨hr, hB⟩
  have HW : Hid (∀ U, Below W.heap.size W U → Calls Tryz.prog 38 #[.agg #[.pointer (some ⟨p, 0, none⟩), .int .i64 (fr : Int), .int .i64 (mn : Int)], .int .i64 1] U fun e w' => e = .returned .nilIface ∧ ∃ cv', Hid (Tn w w' p nb sb cv' n (hdD D fr mn 1)) ∧ Hid (Keeps w.heap.size dkT U w')) := fun U hU => writeLHead_ok (a.below hU) fr mn 1 hf (by omega) hn (by omega) (by omega) hs
  clear a hB hr
  go_enter Tryz.func37, Tryz.ntmps37
  go_wp2_with fail
  refine HP.out.mono ?_
  rintro e w2 ⟨v, rfl, xs, hxs, hrow, hb2⟩
  have hx0 : xs = [] := by simpa using hxs
  subst hx0
  obtain ⟨av, capv, rfl⟩ := hrow.out.shape
  have hr2 := (hb2.out.block _ (Array.getElem?_eq_some_iff.1 HH.out.1).1).trans HH.out.1
  obtain ⟨d0, d1, d2⟩ := HF.out w2 hr2
  have hbw : Below W.heap.size W w2 := HH.out.2.trans (hb2.out.mono HH.out.2.size)
  have HW2 : Hid (Calls _ _ _ w2 _) := HW.out w2 hbw
  have HB2 : Hid (Below W.heap.size W w2) := hbw
  clear HP hrow hb2 hxs hr2 hbw HW HH c0 c1 c2
  go_wp2_with fail
  refine wp_loop_rounds 1 ?_
  rw [rounds_succ]
  go_wp2_with fail
  refine HW2.out.mono ?_
  rintro e w3 ⟨rfl, cv3, h3, k3⟩
  go_wp2
  go_ret
  exact ⟨rfl, cv3, h3, (Keeps.of_below HB2.out).trans k3.out⟩
theorem build_area (p : Nat) (fr mn : Int) (w : World) : (Instr.build 71 #[(0, .pointer (some ⟨p, 0, none⟩)), (1, .int .i64 fr), (2, .int .i64 mn)]).run Tryz.prog w = .ok (.agg #[.pointer (some ⟨p, 0, none⟩), .int .i64 fr, .int .i64 mn]) w := by
  refine run_build w 71 _ _ ?_
  kernel_rfl
theorem img_fresh (fr mn : Nat) (D : Dk) (h : ∀ i, i < mn → D.now.getD (fr + i) bk0 = bk0) : allF mn (imgF fr mn D) = [] := by
  unfold allF
  rw [List.filterMap_eq_nil_iff]
  intro a ha
  rw [List.mem_range'_1] at ha
  unfold imgF
  split
  · rename_i h1
    rw [h a h1.2, pcOf_zero]
    rfl
  · rfl
theorem formatL_fresh (a : Tn w W p nb sb cv n D) (fr mn : Nat) (hf : D.fail < 0) (hm1 : 1 ≤ mn) (hi : fr + mn ≤ n) (hn : n ≤ 200) (hs : D.lim 999000) (hz : ∀ i, i < mn → D.now.getD (fr + i) bk0 = bk0) :
    Calls Tryz.prog 16 #[.pointer (some ⟨p, 0, none⟩), .int .i64 (fr : Int), .int .i64 (mn : Int)] W fun e w' => e = .returned .nilIface ∧ ∃ cv', Hid (Tn w w' p nb sb cv' n (hdD D fr mn 1)) ∧ Hid (Keeps w.heap.size dkT W w') := by
  obtain ⟨W1, hW1⟩ : ∃ W1, W.alloc (.cells #[.pointer (some ⟨p, 0, none⟩), .int .i64 (fr : Int), .int .i64 (mn : Int)] 71) = W1 := ⟨_, rfl⟩
  have hB : Below W.heap.size W W1 := by rw [← hW1]; exact (Below.refl _ W).alloc (Nat.le_refl _) _
  have hr := new_heap W (.cells #[.pointer (some ⟨p, 0, none⟩), .int .i64 (fr : Int), .int .i64 (mn : Int)] 71)
  rw [hW1] at hr
  have HF : Hid (∀ U : World, Below W1.heap.size W1 U → (U.cell? ⟨W.heap.size, 0, none⟩ = some (.pointer (some ⟨p, 0, none⟩)) ∧ U.cell? ⟨W.heap.size, 1, none⟩ = some (.int .i64 (fr : Int)) ∧ U.cell? ⟨W.heap.size, 2, none⟩ = some (.int .i64 (mn : Int))) ∧ Tn w U p nb sb cv n D ∧ Below W.heap.size W U) := fun U hU => by
    have h := (hU.block _ (Array.getElem?_eq_some_iff.1 hr).1).trans hr
    have hU2 : Below W.heap.size W U := hB.trans (hU.mono hB.size)
    exact ⟨⟨by simp [World.cell?, h], by simp [World.cell?, h], by simp [World.cell?, h]⟩, a.below hU2, hU2⟩
  obtain ⟨⟨c0, c1, c2⟩, _, _⟩ := HF.out W1 (Below.refl _ _)
  have HV : Hid (Calls _ _ _ W1 _) := valid_any (a.below hB) (fr : Int) (mn : Int) hn (by omega)
  rw [show decide (1 ≤ (mn : Int) ∧ 0 ≤ (fr : Int) ∧ (fr : Int) ≤ (n : Int) - (mn : Int)) = true by rw [decide_eq_true_eq]; omega] at HV
  have HRd : Hid (∀ U, Tn w U p nb sb cv n D → Calls Tryz.prog 36 #[.agg #[.pointer (some ⟨p, 0, none⟩), .int .i64 (fr : Int), .int .i64 (mn : Int)]] U fun e w' => e = .returned (.tuple #[.int .i64 0, .bool false]) ∧ Hid (Below U.heap.size U w')) := fun U hU => readLHead_none hU fr mn (by omega) hn (by have := hz 0 (by omega); rwa [Nat.add_zero] at this)
  have HLy : Hid (∀ U, Tn w U p nb sb cv n D → Calls Tryz.prog 37 #[.agg #[.pointer (some ⟨p, 0, none⟩), .int .i64 (fr : Int), .int .i64 (mn : Int)]] U fun e w' => e = .returned .nilIface ∧ ∃ cv', Hid (Tn w w' p nb sb cv' n (hdD D fr mn 1)) ∧ Hid (Keeps w.heap.size dkT U w')) := fun U hU => lay_none hU fr mn hf hm1 hi hn hs (img_fresh fr mn D hz)
  clear a hB hr
  go_enter Tryz.func16, Tryz.ntmps16
  go_wp2_with fail
  refine HV.out.mono ?_
  rintro e w2 ⟨rfl, hb2⟩
  obtain ⟨⟨d0, d1, d2⟩, ht2, _⟩ := HF.out w2 hb2
  have HR2 : Hid (Calls _ _ _ w2 _) := HRd.out w2 ht2
  have HB2 : Hid (Below W1.heap.size W1 w2) := hb2
  clear HV ht2 hb2 c0 c1 c2 HRd
  go_wp2_with fail
  refine HR2.out.mono ?_
  rintro e w3 ⟨rfl, hb3⟩
  have hb13 : Below W1.heap.size W1 w3 := HB2.out.trans (hb3.out.mono HB2.out.size)
  obtain ⟨⟨e0, e1, e2⟩, ht3, hbw3⟩ := HF.out w3 hb13
  have HL3 : Hid (Calls _ _ _ w3 _) := HLy.out w3 ht3
  have HB3 : Hid (Below W.heap.size W w3) := hbw3
  clear HR2 ht3 hb3 hb13 hbw3 HLy HB2 d0 d1 d2
  go_wp2_with fail
  refine HL3.out.mono ?_
  rintro e w4 ⟨rfl, cv4, h4, k4⟩
  go_wp2
  go_ret
  exact ⟨rfl, cv4, h4, (Keeps.of_below HB3.out).trans k4.out⟩
theorem formatL_bad (a : Tn w W p nb sb cv n D) (fr mn : Int) (hn : n ≤ 200) (hw : mn ≤ 9223372036854775807) (hb : ¬ (1 ≤ mn ∧ 0 ≤ fr ∧ fr ≤ (n : Int) - mn)) :
    Calls Tryz.prog 16 #[.pointer (some ⟨p, 0, none⟩), .int .i64 fr, .int .i64 mn] W fun e w' => e = .returned (.iface 41 (.int .i64 1)) ∧ Hid (Below W.heap.size W w') := by
  obtain ⟨W1, hW1⟩ : ∃ W1, W.alloc (.cells #[.pointer (some ⟨p, 0, none⟩), .int .i64 fr, .int .i64 mn] 71) = W1 := ⟨_, rfl⟩
  have hB : Below W.heap.size W W1 := by rw [← hW1]; exact (Below.refl _ W).alloc (Nat.le_refl _) _
  have hr := new_heap W (.cells #[.pointer (some ⟨p, 0, none⟩), .int .i64 fr, .int .i64 mn] 71)
  rw [hW1] at hr
  have c0 : W1.cell? ⟨W.heap.size, 0, none⟩ = some (.pointer (some ⟨p, 0, none⟩)) := by simp [World.cell?, hr]
  have c1 : W1.cell? ⟨W.heap.size, 1, none⟩ = some (.int .i64 fr) := by simp [World.cell?, hr]
  have c2 : W1.cell? ⟨W.heap.size, 2, none⟩ = some (.int .i64 mn) := by simp [World.cell?, hr]
  have HV : Hid (Calls _ _ _ W1 _) := valid_any (a.below hB) fr mn hn hw
  rw [decide_eq_false hb] at HV
  have HB : Hid (Below W.heap.size W W1) := hB
  clear a hB hr hb
  go_enter Tryz.func16, Tryz.ntmps16
  go_wp2_with fail
  refine HV.out.mono ?_
  rintro e w2 ⟨rfl, hb2⟩
  have HE : Hid (Below W.heap.size W w2) := HB.out.trans (hb2.mono HB.out.size)
  clear HV hb2 HB c0 c1 c2
  go_wp2
  go_ret
  exact ⟨rfl, HE⟩
theorem openL_bad (a : Tn w W p nb sb cv n D) (fr mn : Int) (hn : n ≤ 200) (hw : mn ≤ 9223372036854775807) (hb : ¬ (1 ≤ mn ∧ 0 ≤ fr ∧ fr ≤ (n : Int) - mn)) :
    Calls Tryz.prog 27 #[.pointer (some ⟨p, 0, none⟩), .int .i64 fr, .int .i64 mn] W fun e w' => e = .returned (.tuple #[.pointer none, .iface 41 (.int .i64 1)]) ∧ Hid (Below W.heap.size W w') := by
  obtain ⟨W1, hW1⟩ : ∃ W1, W.alloc (.cells #[.pointer (some ⟨p, 0, none⟩), .int .i64 fr, .int .i64 mn] 71) = W1 := ⟨_, rfl⟩
  have hB : Below W.heap.size W W1 := by rw [← hW1]; exact (Below.refl _ W).alloc (Nat.le_refl _) _
  have hr := new_heap W (.cells #[.pointer (some ⟨p, 0, none⟩), .int .i64 fr, .int .i64 mn] 71)
  rw [hW1] at hr
  have c0 : W1.cell? ⟨W.heap.size, 0, none⟩ = some (.pointer (some ⟨p, 0, none⟩)) := by simp [World.cell?, hr]
  have c1 : W1.cell? ⟨W.heap.size, 1, none⟩ = some (.int .i64 fr) := by simp [World.cell?, hr]
  have c2 : W1.cell? ⟨W.heap.size, 2, none⟩ = some (.int .i64 mn) := by simp [World.cell?, hr]
  have HV : Hid (Calls _ _ _ W1 _) := valid_any (a.below hB) fr mn hn hw
  rw [decide_eq_false hb] at HV
  have HB : Hid (Below W.heap.size W W1) := hB
  clear a hB hr hb
  go_enter Tryz.func27, Tryz.ntmps27
  go_wp2_with fail
  refine HV.out.mono ?_
  rintro e w2 ⟨rfl, hb2⟩
  have HE : Hid (Below W.heap.size W w2) := HB.out.trans (hb2.mono HB.out.size)
  clear HV hb2 HB c0 c1 c2
  go_wp2
  go_ret2
  exact ⟨rfl, HE⟩
end
end Go.Proofs.YtikcidlaamgakaaGreatDoor

namespace Go.Proofs.YtikcidlaamgakaaGreatDoor
set_option linter.unusedVariables false
set_option linter.unusedSimpArgs false
set_option maxRecDepth 100000
open Go.RowKit Go.Lib
theorem over_any (x y : Pm) (W : World) (hx : x.q.byt.length ≤ 1000000) (hy : y.q.byt.length ≤ 1000000) :
    Calls Tryz.prog 74 #[.agg x.cells.toArray, .agg y.cells.toArray] W fun e w' => e = .returned (.bool (x.q.over y.q)) ∧ Below W.heap.size W w' := by
  obtain ⟨at1, ⟨num1, sit1, fst1, byt1⟩, ad1, cap1⟩ := x
  obtain ⟨at2, ⟨num2, sit2, fst2, byt2⟩, ad2, cap2⟩ := y
  simp only at hx hy
  simp only [Pm.cells]
  have hb := (two_new W (.cells #[.int .i64 (at1 : Int), .int .i64 (num1 : Int), .int .i64 (sit1 : Int), .bool fst1, .slice ad1 byt1.length cap1] 122) (.cells #[.int .i64 (at2 : Int), .int .i64 (num2 : Int), .int .i64 (sit2 : Int), .bool fst2, .slice ad2 byt2.length cap2] 122)).2.2
  have HB : Hid (Below W.heap.size W ((W.alloc (.cells #[.int .i64 (at1 : Int), .int .i64 (num1 : Int), .int .i64 (sit1 : Int), .bool fst1, .slice ad1 byt1.length cap1] 122)).alloc (.cells #[.int .i64 (at2 : Int), .int .i64 (num2 : Int), .int .i64 (sit2 : Int), .bool fst2, .slice ad2 byt2.length cap2] 122))) := hb
  clear hb
  have l1 : (byt1.length : Int) ≤ 1000000 := by omega
  have l2 : (byt2.length : Int) ≤ 1000000 := by omega
  unfold Pc.over
  simp only
  by_cases h1 : sit2 < sit1
  · rw [decide_eq_true h1, Bool.true_or]
    have h1' : (sit2 : Int) < sit1 := by omega
    go_enter Tryz.func74, Tryz.ntmps74
    go_wp2
    go_ret
    exact ⟨rfl, HB.out⟩
  · rw [decide_eq_false h1, Bool.false_or]
    have h1' : ¬ (sit2 : Int) < sit1 := by omega
    by_cases h2 : sit1 = sit2
    · subst h2
      rw [decide_eq_true rfl, Bool.true_and]
      by_cases h3 : byt2.length < byt1.length
      · rw [decide_eq_true h3]
        have h3' : (byt2.length : Int) < byt1.length := by omega
        go_enter Tryz.func74, Tryz.ntmps74
        go_wp2
        go_ret
        exact ⟨rfl, HB.out⟩
      · rw [decide_eq_false h3]
        have h3' : ¬ (byt2.length : Int) < byt1.length := by omega
        go_enter Tryz.func74, Tryz.ntmps74
        go_wp2
        go_ret
        exact ⟨rfl, HB.out⟩
    · rw [decide_eq_false h2, Bool.false_and]
      have h2' : ¬ (sit1 : Int) = sit2 := by omega
      have h2'' : ((sit1 : Int) == (sit2 : Int)) = false := by rw [beq_eq_false_iff_ne]; exact h2'
      go_enter Tryz.func74, Tryz.ntmps74
      go_wp2
      go_ret
      exact ⟨rfl, HB.out⟩
/-- Pieces that are read. -/
structure IsPm (W : World) (v : Value) (xs : List Pm) : Prop where
  shape : ∃ a cap, v = .slice a xs.length cap ∧ (xs = [] ∨ ∃ g, a = some ⟨g, 0, none⟩ ∧ g < W.heap.size ∧ ∀ k (h : k < xs.length), W.rangeAt g (k * 5) (xs[k]'h).cells)
  ok : ∀ x ∈ xs, Pm.ok W x
theorem PmRow.isPm {W : World} {base : Nat} {v : Value} {xs : List Pm} (h : PmRow W base v xs) : IsPm W v xs := by
  refine ⟨?_, h.ok⟩
  rcases h.row.2 with ⟨rfl, h0⟩ | ⟨g, cap, cur, rfl, _, hg, _, _, _, ht⟩
  · exact ⟨none, 0, by rw [h0], .inl (List.eq_nil_of_length_eq_zero h0)⟩
  · refine ⟨_, _, rfl, .inr ⟨g, rfl, (Array.getElem?_eq_some_iff.1 hg).1, fun k hk j u hj => ?_⟩⟩
    have hj5 : j < 5 := by
      have := (List.getElem?_eq_some_iff.1 hj).1
      rwa [Pm.cells_length] at this
    have e := rowOf_get Pm.cells 5 xs k j hk (fun x _ => x.cells_length) hj5
    rw [cell_of_row W g _ _ _ (0, 0) hg]
    rw [← ht, List.getElem?_take, if_pos (by
      have : (k + 1) * 5 ≤ xs.length * 5 := Nat.mul_le_mul_right 5 hk
      omega), hj] at e
    simpa using e
theorem IsPm.below {W U : World} {v : Value} {xs : List Pm} (h : IsPm W v xs) (hb : Below W.heap.size W U) : IsPm U v xs := by
  refine ⟨?_, fun x hx => Pm.ok_below (h.ok x hx) hb⟩
  obtain ⟨a, cap, e, hh⟩ := h.shape
  refine ⟨a, cap, e, ?_⟩
  rcases hh with hh | ⟨g, e1, hlt, hr⟩
  · exact .inl hh
  · exact .inr ⟨g, e1, by have := hb.size; omega, fun k hk j u hj => (hb.cell (p := ⟨g, k * 5 + j, none⟩) hlt).trans (hr k hk j u hj)⟩
/-- The last sitting of which there is a piece. -/
def newestF (since : Nat) (l : List (Nat × Pc)) : Nat := l.foldl (fun m p => max m p.2.sit) (since - 1)
theorem newestF_ge (since : Nat) (l : List (Nat × Pc)) : since - 1 ≤ newestF since l ∧ ∀ p ∈ l, p.2.sit ≤ newestF since l := by
  unfold newestF
  generalize since - 1 = s
  induction l generalizing s with
  | nil => exact ⟨Nat.le_refl _, fun p hp => absurd hp (by simp)⟩
  | cons x l ih =>
    obtain ⟨h1, h2⟩ := ih (max s x.2.sit)
    simp only [List.foldl_cons]
    refine ⟨by omega, fun p hp => ?_⟩
    rcases List.mem_cons.1 hp with rfl | hp
    · omega
    · exact h2 p hp
theorem newestF_le (since K : Nat) (l : List (Nat × Pc)) (h0 : since - 1 ≤ K) (h : ∀ p ∈ l, p.2.sit ≤ K) : newestF since l ≤ K := by
  unfold newestF
  generalize since - 1 = s at *
  induction l generalizing s with
  | nil => exact h0
  | cons x l ih =>
    simp only [List.foldl_cons]
    exact ih (fun p hp => h p (by simp [hp])) (max s x.2.sit) (by have := h x (by simp); omega)
theorem foldl_take {α β : Type} (f : β → α → β) (b : β) (l : List α) (k : Nat) (h : k < l.length) : (l.take (k + 1)).foldl f b = f ((l.take k).foldl f b) l[k] := by
  rw [List.take_add_one, List.getElem?_eq_getElem h, List.foldl_append]
  rfl
set_option maxHeartbeats 1000000 in
theorem newest_any (v : Value) (xs : List Pm) (since : Nat) (W : World) (h : IsPm W v xs) (hl : xs.length ≤ 100000) (h1 : 1 ≤ since) (h2 : since ≤ 100000) (hs : ∀ x ∈ xs, x.q.sit ≤ 100000) :
    Calls Tryz.prog 39 #[v, .int .i64 (since : Int)] W fun e w' => e = .returned (.int .i64 (newestF since (xs.map Pm.pair) : Nat)) ∧ Below W.heap.size W w' := by
  have hal := alloc_pc
  have HI : Hid (IsPm W v xs) := h
  obtain ⟨av, capv, rfl, _⟩ := h.shape
  have s0 : (1 : Int) ≤ since := by omega
  have s1 : (since : Int) ≤ 100000 := by omega
  have hl' : (xs.length : Int) ≤ 100000 := by omega
  have Hs : Hid (∀ x ∈ xs, x.q.sit ≤ 100000) := hs
  clear h hs
  go_enter Tryz.func39, Tryz.ntmps39
  go_wp2_with fail
  go_loopw [5, 12] (fun t i wr => ∃ k : Nat, k ≤ xs.length ∧ t = .int .i64 (newestF since ((xs.take k).map Pm.pair) : Nat) ∧ i = .int .i64 k ∧ Hid (Below W.heap.size W wr)) (fun _ i _ => xs.length - (RowKit.intOf i).toNat)
  case atStart =>
    refine ⟨0, Nat.zero_le _, ?_, rfl, Below.refl _ _⟩
    show _ = Value.int .i64 ((since - 1 : Nat) : Int)
    go_num
  case round =>
    obtain ⟨k, hk, rfl, rfl, HB⟩ := hrel
    have k0 : (0 : Int) ≤ k := by omega
    by_cases hlt : k < xs.length
    · have k1 : (k : Int) < xs.length := by omega
      obtain ⟨a', cap', e, hh⟩ := (HI.out.below HB.out).shape
      cases e
      rcases hh with hh | ⟨g, rfl, hg, hr⟩
      · subst hh; simp at hlt
      have hld := load_pm (xs[k]'hlt) (hr k hlt)
      have hst := storeP (xs[k]'hlt)
      have hss := Hs.out _ (List.getElem_mem hlt)
      have hn1 : newestF since ((xs.take (k + 1)).map Pm.pair) = max (newestF since ((xs.take k).map Pm.pair)) (xs[k]'hlt).q.sit := by
        unfold newestF
        rw [List.map_take, List.map_take, foldl_take _ _ _ k (by simpa using hlt)]
        simp [Pm.pair]
      have HN1 : Hid (newestF since ((xs.take (k + 1)).map Pm.pair) = max (newestF since ((xs.take k).map Pm.pair)) (xs[k]'hlt).q.sit) := hn1
      have hnl : newestF since ((xs.take k).map Pm.pair) ≤ 100000 := newestF_le since 100000 _ (by omega) (fun p hp => by
        obtain ⟨x, hx, rfl⟩ := List.mem_map.1 hp
        exact Hs.out x (List.mem_of_mem_take hx))
      have HB2 : Hid (Below W.heap.size W (wr.alloc (.cells (xs[k]'hlt).cells.toArray 122))) := HB.out.alloc HB.out.size _
      have c2 : (wr.alloc (.cells (xs[k]'hlt).cells.toArray 122)).cell? ⟨wr.heap.size, 2, none⟩ = some (.int .i64 ((xs[k]'hlt).q.sit : Int)) := by
        rw [cell_of_row _ _ _ _ _ (0, 0) (new_heap wr _)]; rfl
      generalize xs[k]'hlt = x at *
      generalize newestF since ((xs.take k).map Pm.pair) = m at *
      obtain ⟨w2, hw2⟩ : ∃ w2, wr.alloc (.cells x.cells.toArray 122) = w2 := ⟨_, rfl⟩
      rw [hw2] at c2 HB2
      obtain ⟨sx, hsx⟩ : ∃ sx, x.q.sit = sx := ⟨_, rfl⟩
      rw [hsx] at c2 HN1 hss
      have m0 : (0 : Int) ≤ m := by omega
      have m1 : (m : Int) ≤ 100000 := by omega
      have x0 : (0 : Int) ≤ sx := by omega
      have x1 : (sx : Int) ≤ 100000 := by omega
      clear hn1 hr HB hsx
      by_cases hmx : m < sx
      · have hm' : (m : Int) < sx := by omega
        have HMx : Hid (max m sx = sx) := by unfold Hid; omega
        go_wp2_with (first | (refine wpList_load_run rfl 122 _ rfl _ (by rfl) hld ?_) | (refine wpList_alloc_run rfl 122 rfl (hal _) ?_) | (refine wpList_store_run rfl 122 _ _ rfl _ _ (by rfl) (by rfl) (hst _) ?_))
        go_roundw
        case rel => exact ⟨k + 1, by omega, by rw [HN1.out, HMx.out], by go_num, HB2⟩
        case measure => simp [RowKit.intOf]; omega
      · have hm' : ¬ (m : Int) < sx := by omega
        have HMx : Hid (max m sx = m) := by unfold Hid; omega
        go_wp2_with (first | (refine wpList_load_run rfl 122 _ rfl _ (by rfl) hld ?_) | (refine wpList_alloc_run rfl 122 rfl (hal _) ?_) | (refine wpList_store_run rfl 122 _ _ rfl _ _ (by rfl) (by rfl) (hst _) ?_))
        go_roundw
        case rel => exact ⟨k + 1, by omega, by rw [HN1.out, HMx.out], by go_num, HB2⟩
        case measure => simp [RowKit.intOf]; omega
    · have ek : k = xs.length := by omega
      have k1 : ¬ (k : Int) < xs.length := by omega
      rw [List.take_of_length_le (by omega)]
      go_wp2_with fail
      go_ret
      exact ⟨rfl, HB.out⟩
end Go.Proofs.YtikcidlaamgakaaGreatDoor

namespace Go.Proofs.YtikcidlaamgakaaGreatDoor
set_option linter.unusedVariables false
set_option linter.unusedSimpArgs false
set_option maxRecDepth 100000
open Go.RowKit Go.Lib
def pm0 : Pm := ⟨0, ⟨0, 0, false, []⟩, none, 0⟩
theorem pm0_cells : pm0.cells = pc0C.toList := rfl
theorem best_size : (Tryz.prog.info? 134).map (·.size) = some 1000 := by kernel_rfl
theorem best_zero : (Tryz.prog.info? 134).map (·.zero) = some (some (.agg (rowOf Pm.cells (List.replicate 200 pm0)).toArray)) := by kernel_rfl
theorem alloc_best (w : World) : (Instr.alloc 134 true (.tuple #[])).run Tryz.prog w = .ok (.pointer (some ⟨w.heap.size, 0, none⟩)) (w.alloc (.cells (rowOf Pm.cells (List.replicate 200 pm0)).toArray 134)) := by
  cases hq : Tryz.prog.info? 134 with
  | none => have := best_zero; simp [hq] at this
  | some q =>
    have hz : q.zero = some (.agg (rowOf Pm.cells (List.replicate 200 pm0)).toArray) := by
      have := best_zero
      rw [hq] at this
      exact Option.some.inj this
    generalize (rowOf Pm.cells (List.replicate 200 pm0)).toArray = Z at *
    simp [Instr.alloc, zeroValue, typeInfo, hq, hz, newVar, newRow, Value.cells]
theorem ys_len (ys : List Pm) : (rowOf Pm.cells ys).length = ys.length * 5 := pm_rowL ys
theorem ys_one (ys : List Pm) : ∀ u ∈ rowOf Pm.cells ys, u.oneCell' = true := rowOf_oneC Pm.cells ys (fun x _ => x.cells_one)
/-- One of them is read. -/
theorem ys_range {u : World} {B : Nat} {ys : List Pm} {t : TypeId} (h : u.heap[B]? = some (.cells (rowOf Pm.cells ys).toArray t (0, 0))) (k : Nat) (hk : k < ys.length) : u.rangeAt B (k * 5) (ys.getD k pm0).cells := by
  intro j v hj
  have hj5 : j < 5 := by
    have := (List.getElem?_eq_some_iff.1 hj).1
    rwa [Pm.cells_length] at this
  rw [cell_of_row u B _ _ t (0, 0) h, List.getElem?_toArray, rowOf_get Pm.cells 5 ys k j hk (fun x _ => x.cells_length) hj5]
  rw [List.getD_eq_getElem?_getD, List.getElem?_eq_getElem hk] at hj
  exact hj
/-- One of them is set. -/
theorem ys_store {u : World} {B : Nat} {ys : List Pm} {t : TypeId} (h : u.heap[B]? = some (.cells (rowOf Pm.cells ys).toArray t (0, 0))) (k : Nat) (hk : k < ys.length) (x : Pm) :
    (Instr.storeAt 122 (.pointer (some ⟨B, k * 5, none⟩)) (.agg x.cells.toArray)).run Tryz.prog u = .ok () (u.setRow B (rowOf Pm.cells (ys.set k x)).toArray) := by
  have hle : (k + 1) * 5 ≤ ys.length * 5 := Nat.mul_le_mul_right 5 hk
  have := run_storeCells_at Tryz.prog B (k * 5) t x.cells 0 (rowOf Pm.cells ys).toArray u h (by rw [x.cells_length, List.size_toArray, ys_len]; omega) x.cells_one
  rw [Nat.add_zero, x.cells_length] at this
  simp only at this
  rw [rowOf_set Pm.cells 5 ys k x (fun y _ => y.cells_length) hk] at this
  cases hq : Tryz.prog.info? 122 with
  | none => have := pc_size; simp [hq] at this
  | some q =>
    have hs : q.size = 5 := by have := pc_size; simpa [hq] using this
    simp [Instr.storeAt, Instr.sureAddr, storeVar, sizeOf, typeInfo, hq, Value.cells, hs, x.cells_length, this]
theorem ys_load {u : World} {B : Nat} {ys : List Pm} (hl : ys.length = 200) (h : u.heap[B]? = some (.cells (rowOf Pm.cells ys).toArray 134 (0, 0))) :
    (Instr.loadAt 134 (.pointer (some ⟨B, 0, none⟩))).run Tryz.prog u = .ok (.agg (rowOf Pm.cells ys).toArray) u :=
  run_loadAt_mid u B 0 134 _ _ (range0 h) Tryz.underlying134 rfl (by rw [ys_len, hl]; exact best_size)
theorem ys_index {ys : List Pm} (k : Nat) (hk : k < 200) (hl : ys.length = 200) (u : World) :
    (Instr.index 134 (.agg (rowOf Pm.cells ys).toArray) (.int .i64 (k : Int))).run Tryz.prog u = .ok (.agg (ys.getD k pm0).cells.toArray) u := by
  have hle : (k + 1) * 5 ≤ ys.length * 5 := Nat.mul_le_mul_right 5 (by omega)
  have hL : ((rowOf Pm.cells ys).drop (k * 5)).take 5 = (ys.getD k pm0).cells := by
    have hy : ys.getD k pm0 = ys[k]'(by omega) := by
      rw [List.getD_eq_getElem?_getD, List.getElem?_eq_getElem (show k < ys.length by omega)]
      rfl
    rw [hy]
    refine List.ext_getElem? (fun j => ?_)
    rw [List.getElem?_take]
    by_cases hj : j < 5
    · rw [if_pos hj, List.getElem?_drop, rowOf_get Pm.cells 5 ys k j (by omega) (fun x _ => x.cells_length) hj]
    · rw [if_neg hj, List.getElem?_eq_none (by rw [Pm.cells_length]; omega)]
  cases hq : Tryz.prog.info? 122 with
  | none => have := pc_size; simp [hq] at this
  | some q =>
    have hs : q.size = 5 := by have := pc_size; simpa [hq] using this
    simp [Instr.index, run_underlying Tryz.underlying134, asIntOf, part, isAgg, run_underlying Tryz.underlying122, sizeOf, typeInfo, hq, hs, hk]
    simpa [List.getD_eq_getElem?_getD] using hL
/-- The best piece of each number, as they lie there. -/
def YsIs (xs ys : List Pm) (B : Nat → Option (Nat × Pc)) : Prop := ys.length = 200 ∧ ∀ n, n < 200 → (B n = none ∧ ys.getD n pm0 = pm0) ∨ (∃ p, B n = some p ∧ (ys.getD n pm0).pair = p ∧ ys.getD n pm0 ∈ xs)
theorem YsIs.start (xs : List Pm) (c : Pc → Bool) : YsIs xs (List.replicate 200 pm0) (bestF c []) := by
  refine ⟨by simp, fun n hn => .inl ⟨rfl, ?_⟩⟩
  rw [List.getD_eq_getElem?_getD, List.getElem?_replicate, if_pos hn]
  rfl
theorem bestF_take (c : Pc → Bool) (l : List (Nat × Pc)) (k n : Nat) (h : k < l.length) : bestF c (l.take (k + 1)) n = stepB c n (bestF c (l.take k) n) l[k] := by
  unfold bestF
  rw [foldl_take _ _ _ k h]
theorem getD_set_pm (ys : List Pm) (i j : Nat) (x : Pm) (hi : i < ys.length) : (ys.set i x).getD j pm0 = if j = i then x else ys.getD j pm0 := by
  rw [List.getD_eq_getElem?_getD, List.getElem?_set]
  by_cases e : i = j
  · subst e
    rw [if_pos rfl, if_pos hi, if_pos rfl]; rfl
  · rw [if_neg e, if_neg (fun h => e h.symm), List.getD_eq_getElem?_getD]
/-- One piece more. -/
theorem YsIs.step {xs ys : List Pm} {since : Nat} {s : Nat × Nat} (h1 : 1 ≤ since) (k : Nat) (hk : k < xs.length) (h : YsIs xs ys (bestF (cntF since s) ((xs.map Pm.pair).take k))) (hn : (xs[k]).q.num < 200) :
    ((cntF since s (xs[k]).q && (xs[k]).q.over (ys.getD (xs[k]).q.num pm0).q) = true → YsIs xs (ys.set (xs[k]).q.num xs[k]) (bestF (cntF since s) ((xs.map Pm.pair).take (k + 1)))) ∧
    ((cntF since s (xs[k]).q && (xs[k]).q.over (ys.getD (xs[k]).q.num pm0).q) = false → YsIs xs ys (bestF (cntF since s) ((xs.map Pm.pair).take (k + 1)))) := by
  obtain ⟨hl, hy⟩ := h
  have hkm : k < (xs.map Pm.pair).length := by simpa using hk
  have hg : (xs.map Pm.pair)[k] = (xs[k]).pair := by simp
  have hcond : (decide ((xs[k]).q.num = (xs[k]).q.num) && cntF since s (xs[k]).q && ((bestF (cntF since s) ((xs.map Pm.pair).take k) (xs[k]).q.num).elim true (fun q => (xs[k]).q.over q.2))) = (cntF since s (xs[k]).q && (xs[k]).q.over (ys.getD (xs[k]).q.num pm0).q) := by
    rw [decide_eq_true rfl, Bool.true_and]
    rcases hy _ hn with ⟨e1, e2⟩ | ⟨p, e1, e2, _⟩
    · rw [e1, e2]
      cases hc : cntF since s (xs[k]).q with
      | false => rfl
      | true =>
        have : since ≤ (xs[k]).q.sit := by
          unfold cntF at hc
          simp only [Bool.and_eq_true, decide_eq_true_eq] at hc
          exact hc.2
        have ho : (xs[k]).q.over pm0.q = true := over_true.2 (.inl (by show 0 < _; omega))
        rw [ho]
        rfl
    · rw [e1]
      have : p.2 = (ys.getD (xs[k]).q.num pm0).q := by rw [← e2]; rfl
      simp only [Option.elim_some, this]
  constructor
  · intro hc
    refine ⟨by simp [hl], fun n hn2 => ?_⟩
    rw [bestF_take _ _ _ _ hkm, hg, getD_set_pm _ _ _ _ (by omega)]
    by_cases e : n = (xs[k]).q.num
    · rw [if_pos e]
      refine .inr ⟨(xs[k]).pair, ?_, rfl, List.getElem_mem hk⟩
      unfold stepB
      rw [e, if_pos]
      rw [show (xs[k]).pair.2 = (xs[k]).q from rfl, hcond]
      exact hc
    · rw [if_neg e]
      have : stepB (cntF since s) n (bestF (cntF since s) ((xs.map Pm.pair).take k) n) (xs[k]).pair = bestF (cntF since s) ((xs.map Pm.pair).take k) n := by
        unfold stepB
        rw [if_neg]
        rw [show (xs[k]).pair.2 = (xs[k]).q from rfl, decide_eq_false (fun h => e h.symm)]
        simp
      rw [this]
      exact hy n hn2
  · intro hc
    refine ⟨hl, fun n hn2 => ?_⟩
    rw [bestF_take _ _ _ _ hkm, hg]
    have : stepB (cntF since s) n (bestF (cntF since s) ((xs.map Pm.pair).take k) n) (xs[k]).pair = bestF (cntF since s) ((xs.map Pm.pair).take k) n := by
      unfold stepB
      rw [if_neg]
      rw [show (xs[k]).pair.2 = (xs[k]).q from rfl]
      by_cases e : (xs[k]).q.num = n
      · rw [← e, hcond, hc]
        simp
      · rw [decide_eq_false e]
        simp
    rw [this]
    exact hy n hn2
theorem startF_take (since : Nat) (l : List (Nat × Pc)) (k : Nat) (h : k < l.length) : startF since (l.take (k + 1)) = if l[k].2.fst = true ∧ (startF since (l.take k)).1 < l[k].2.sit then (l[k].2.sit, l[k].2.num) else startF since (l.take k) := by
  unfold startF
  rw [foldl_take _ _ _ k h]
end Go.Proofs.YtikcidlaamgakaaGreatDoor
