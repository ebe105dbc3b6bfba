/-
  The contracts of a piece's block, of writePiece and has.
-/
import Derived.Test.YtikcidlaamgakaaGreatDoorZu5
import Derived.Test.YtikcidlaamgakaaGreatDoorZu3
import Derived.Test.YtikcidlaamgakaaGreatDoorZu0
namespace Go.Proofs.YtikcidlaamgakaaGreatDoor
set_option linter.unusedVariables false
set_option linter.unusedSimpArgs false
set_option maxRecDepth 100000
open Go.RowKit Go.Lib
def mkB : List UInt8 := [255, 113, 100, 32, 108, 111, 103]
/-- A head's bytes. -/
def lhB (mn since : Nat) : List UInt8 := (mkB ++ [UInt8.ofNat mn]) ++ w2B since
theorem lhB_length (mn since : Nat) : (lhB mn since).length = 10 := by simp [lhB, mkB, w2B]
theorem mk_zero : ((txt (List.replicate 7 0)).toList == [255, 113, 100, 32, 108, 111, 103]) = false := by
  rw [ByteArray.toList_eq]
  decide
theorem mk_mark : ((txt mkB).toList == [255, 113, 100, 32, 108, 111, 103]) = true := by
  rw [ByteArray.toList_eq]
  decide
section
variable {w W : World} {p nb sb : Nat} {cv : Value} {n : Nat} {D : Dk}
theorem readLHead_none (a : Tn w W p nb sb cv n D) (fr mn : Nat) (hi : fr < n) (hn : n ≤ 200) (hz : D.now.getD fr bk0 = bk0) :
    Calls Tryz.prog 36 #[.agg #[.pointer (some ⟨p, 0, none⟩), .int .i64 (fr : Int), .int .i64 (mn : Int)]] W fun e w' => e = .returned (.tuple #[.int .i64 0, .bool false]) ∧ Hid (Below W.heap.size W w') := by
  obtain ⟨W1, hW1⟩ : ∃ W1, W.alloc (.cells #[.pointer (some ⟨p, 0, none⟩), .int .i64 (fr : Int), .int .i64 (mn : Int)] 71) = W1 := ⟨_, rfl⟩
  have hB : Below W.heap.size W W1 := by rw [← hW1]; exact (Below.refl _ W).alloc (Nat.le_refl _) _
  have hr := new_heap W (.cells #[.pointer (some ⟨p, 0, none⟩), .int .i64 (fr : Int), .int .i64 (mn : Int)] 71)
  rw [hW1] at hr
  have c0 : W1.cell? ⟨W.heap.size, 0, none⟩ = some (.pointer (some ⟨p, 0, none⟩)) := by simp [World.cell?, hr]
  have c1 : W1.cell? ⟨W.heap.size, 1, none⟩ = some (.int .i64 (fr : Int)) := by simp [World.cell?, hr]
  have HR : Hid (Calls _ _ _ W1 _) := tn_read (a.below hB) fr hi (by rw [hz]; rfl)
  rw [hz] at HR
  have HB : Hid (Below W.heap.size W W1) := hB
  have f0 : (0 : Int) ≤ fr := by omega
  have f1 : (fr : Int) < 200 := by omega
  obtain ⟨T, hT⟩ : ∃ T, txt (List.replicate 7 0) = T := ⟨_, rfl⟩
  have hmk := mk_zero
  rw [hT] at hmk
  clear a hz hB hr
  go_enter Tryz.func36, Tryz.ntmps36
  go_wp2_with fail
  refine HR.out.mono ?_
  rintro e w1 ⟨rfl, _, hrow, hs⟩
  have hstr : ∀ k, (convert 35 9 (.slice (some ⟨W1.heap.size, 0, none⟩) 7 64)).run Tryz.prog (w1.drewN k) = .ok (.string T) (w1.drewN k) := fun k => by
    have h1 := isBy_row hrow.out 7 (by simp [bk0]) 64 (by omega)
    have h2 := run_str (w1.drewN k) (some ⟨W1.heap.size, 0, none⟩) (List.replicate 7 0) 64 (by
      have := h1.below ((Still.drewN w1 k).below _)
      simpa [bk0] using this)
    rw [hT] at h2
    exact h2
  have HB1 : Hid (Below W.heap.size W w1) := HB.out.trans (hs.out.mono HB.out.size)
  clear HR hrow hs HB c0 c1
  go_wp2_with fail
  go_quiet (fail)
  rename Nat => nq
  have HE : Hid (Below W.heap.size W (w1.drewN nq)) := HB1.out.trans ((Still.drewN w1 nq).below _)
  clear hstr HB1
  go_wp2
  go_ret2
  exact ⟨rfl, HE⟩
theorem lh_take (mn since : Nat) : (padB (lhB mn since)).take 7 = mkB := by
  unfold padB lhB
  rw [List.append_assoc, List.append_assoc, List.take_append_of_le_length (by decide)]
  rfl
theorem lh_many (mn since : Nat) : (padB (lhB mn since))[7]? = some (UInt8.ofNat mn) := by
  unfold padB lhB
  rw [List.append_assoc, List.append_assoc]
  rfl
theorem lh_since (mn since : Nat) : (padB (lhB mn since)).drop 8 = w2B since ++ List.replicate 54 0 := by
  unfold padB
  rw [lhB_length]
  unfold lhB
  rw [List.append_assoc, List.drop_append_of_le_length (by simp [mkB]), List.drop_eq_nil_of_le (by simp [mkB])]
  rfl
theorem wordN_w2B (k : Nat) (h : k < 65536) : wordN (w2B k) = k := by
  unfold wordN w2B
  simp only [List.getD_cons_zero, List.getD_cons_succ, UInt8.toNat_ofNat']
  omega
theorem readLHead_some (a : Tn w W p nb sb cv n D) (fr mn since : Nat) (hi : fr < n) (hn : n ≤ 200) (hm : mn ≤ 200) (hsn : since < 65536) (hz : D.now.getD fr bk0 = ⟨padB (lhB mn since), false⟩) :
    Calls Tryz.prog 36 #[.agg #[.pointer (some ⟨p, 0, none⟩), .int .i64 (fr : Int), .int .i64 (mn : Int)]] W fun e w' => e = .returned (.tuple #[.int .i64 (since : Int), .bool true]) ∧ Hid (Below W.heap.size W w') := by
  obtain ⟨W1, hW1⟩ : ∃ W1, W.alloc (.cells #[.pointer (some ⟨p, 0, none⟩), .int .i64 (fr : Int), .int .i64 (mn : Int)] 71) = W1 := ⟨_, rfl⟩
  have hB : Below W.heap.size W W1 := by rw [← hW1]; exact (Below.refl _ W).alloc (Nat.le_refl _) _
  have hr := new_heap W (.cells #[.pointer (some ⟨p, 0, none⟩), .int .i64 (fr : Int), .int .i64 (mn : Int)] 71)
  rw [hW1] at hr
  have c0 : W1.cell? ⟨W.heap.size, 0, none⟩ = some (.pointer (some ⟨p, 0, none⟩)) := by simp [World.cell?, hr]
  have c1 : W1.cell? ⟨W.heap.size, 1, none⟩ = some (.int .i64 (fr : Int)) := by simp [World.cell?, hr]
  have Hc2 : Hid (W.heap.size < W1.heap.size ∧ W1.cell? ⟨W.heap.size, 2, none⟩ = some (.int .i64 (mn : Int))) := ⟨(Array.getElem?_eq_some_iff.1 hr).1, by simp [World.cell?, hr]⟩
  have HR : Hid (Calls _ _ _ W1 _) := tn_read (a.below hB) fr hi (by rw [hz])
  rw [hz] at HR
  have HB : Hid (Below W.heap.size W W1) := hB
  have f0 : (0 : Int) ≤ fr := by omega
  have f1 : (fr : Int) < 200 := by omega
  obtain ⟨T, hT⟩ : ∃ T, txt mkB = T := ⟨_, rfl⟩
  have hmk := mk_mark
  rw [hT] at hmk
  have HW2 : Hid (∀ (u : World) (G : Nat), u.heap[G]? = some (.cells (byC (padB (lhB mn since))).toArray 5 (0, 0)) → Calls Tryz.prog 54 #[.slice (some ⟨G, 8, none⟩) 2 56] u fun e w' => e = .returned (.int .i64 (since : Int)) ∧ ∃ k, w' = u.drewN k) := fun u G hu => by
    have := word_at (some ⟨G, 8, none⟩) (w2B since) 56 u ⟨by simp [w2B], .inr ⟨G, 8, rfl, (Array.getElem?_eq_some_iff.1 hu).1, fun k hk => by
      rw [cell_of_row _ _ _ _ _ (0, 0) hu, List.getElem?_toArray]
      have hk2 : k < 2 := hk
      have hl : (padB (lhB mn since)).length = 64 := padB_length _ (by rw [lhB_length]; omega)
      rw [byC_get _ (8 + k) (by omega)]
      have e1 : (padB (lhB mn since))[8 + k]? = (w2B since)[k]? := by
        rw [← List.getElem?_drop, lh_since, List.getElem?_append_left hk]
      rw [List.getElem?_eq_getElem (by omega), List.getElem?_eq_getElem hk] at e1
      rw [Option.some.inj e1]⟩⟩ (by simp [w2B]) (by simp [w2B])
    rw [wordN_w2B since hsn] at this
    exact this
  have hby : ((UInt8.ofNat mn).toNat : Int) = (mn : Int) := by
    rw [UInt8.toNat_ofNat']
    omega
  have Hby : Hid (((UInt8.ofNat mn).toNat : Int) = (mn : Int)) := hby
  have m0 : (0 : Int) ≤ mn := by omega
  have m1 : (mn : Int) ≤ 200 := by omega
  clear a hz hB hr hby
  go_enter Tryz.func36, Tryz.ntmps36
  go_wp2_with fail
  refine HR.out.mono ?_
  rintro e w1 ⟨rfl, _, hrow, hs⟩
  have hstr : ∀ k, (convert 35 9 (.slice (some ⟨W1.heap.size, 0, none⟩) 7 64)).run Tryz.prog (w1.drewN k) = .ok (.string T) (w1.drewN k) := fun k => by
    have h1 := isBy_row hrow.out 7 (by show 7 ≤ (padB (lhB mn since)).length; rw [padB_length _ (by rw [lhB_length]; omega)]; omega) 64 (by omega)
    rw [lh_take] at h1
    have h2 := run_str (w1.drewN k) (some ⟨W1.heap.size, 0, none⟩) mkB 64 (h1.below ((Still.drewN w1 k).below _))
    rw [hT] at h2
    exact h2
  have c7 : w1.cell? ⟨W1.heap.size, 7, none⟩ = some (.int .u8 (mn : Int)) := by
    rw [cell_of_row _ _ _ _ _ (0, 0) hrow.out, List.getElem?_toArray]
    have hl : 7 < (padB (lhB mn since)).length := by rw [padB_length _ (by rw [lhB_length]; omega)]; omega
    have e7 := lh_many mn since
    rw [List.getElem?_eq_getElem hl] at e7
    rw [byC_get _ 7 hl, Option.some.inj e7, Hby.out]
  have c2 : w1.cell? ⟨W.heap.size, 2, none⟩ = some (.int .i64 (mn : Int)) := (hs.out.cell (p := ⟨W.heap.size, 2, none⟩) Hc2.out.1).trans Hc2.out.2
  have HB1 : Hid (Below W.heap.size W w1) := HB.out.trans (hs.out.mono HB.out.size)
  have Hrow : Hid (w1.heap[W1.heap.size]? = some (.cells (byC (padB (lhB mn since))).toArray 5 (0, 0))) := hrow.out
  clear HR hrow hs HB c0 c1 Hc2
  go_wp2_with fail
  go_quiet (fail)
  rename Nat => nq
  have HE : Hid (Below W.heap.size W (w1.drewN nq)) := HB1.out.trans ((Still.drewN w1 nq).below _)
  have HWc : Hid (Calls _ _ _ (w1.drewN nq) _) := HW2.out (w1.drewN nq) W1.heap.size Hrow.out
  clear hstr HB1 HW2 Hrow
  go_wp2_with fail
  refine HWc.out.mono ?_
  rintro e w3 ⟨rfl, hk⟩
  have HE3 : Hid (Below W.heap.size W w3) := by
    obtain ⟨k, rfl⟩ := hk
    exact HE.out.trans ((Still.drewN _ k).below _)
  clear hk HWc HE
  go_wp2
  go_ret2
  exact ⟨rfl, HE3⟩
end
end Go.Proofs.YtikcidlaamgakaaGreatDoor

namespace Go.Proofs.YtikcidlaamgakaaGreatDoor
set_option linter.unusedVariables false
set_option linter.unusedSimpArgs false
set_option maxRecDepth 100000
open Go.RowKit Go.Lib
def slA (a : Option Addr) (cap k : Nat) : Option Addr := if cap = k then a else a.map (·.add (k * 1))
theorem slA_ne {a : Option Addr} (h : a ≠ none) (cap k : Nat) : slA a cap k ≠ none := by
  unfold slA
  split
  · exact h
  · cases a with
    | none => exact absurd rfl h
    | some x => simp
theorem by_under : Tryz.prog.underlying 35 = some (.slice (Tryz.prog.elem 35)) := by kernel_rfl
theorem by_size : (sizeOf (Tryz.prog.elem 35)).run Tryz.prog = fun W => .ok 1 W := by kernel_rfl
theorem run_byLH (a : Option Addr) (L cap k m : Nat) (hk : k ≤ m) (hm : m ≤ cap) (W : World) : (Instr.slice 35 (.slice a L cap) (some (.int .i64 (k : Int))) (some (.int .i64 (m : Int))) none).run Tryz.prog W = .ok (.slice (slA a cap k) (m - k) (cap - k)) W := by
  rw [run_slice_lh W 35 a L cap by_under .i64 .i64 k m (by omega) (by omega) (by omega), by_size]
  simp [Result.andThen, sliced, slA]
theorem run_byL (a : Option Addr) (L cap k : Nat) (hk : k ≤ L) (W : World) : (Instr.slice 35 (.slice a L cap) (some (.int .i64 (k : Int))) none none).run Tryz.prog W = .ok (.slice (slA a cap k) (L - k) (cap - k)) W := by
  rw [run_slice_l W 35 a L cap by_under .i64 k (by omega) (by omega), by_size]
  simp [Result.andThen, sliced, slA]
theorem run_byH (a : Option Addr) (L cap m : Nat) (hm : m ≤ cap) (W : World) : (Instr.slice 35 (.slice a L cap) none (some (.int .i64 (m : Int))) none).run Tryz.prog W = .ok (.slice (slA a cap 0) m cap) W := by
  rw [run_slice_h W 35 a L cap by_under .i64 m (by omega) (by omega), by_size]
  simp [Result.andThen, sliced, slA]
theorem slA_zero (b o cap : Nat) : slA (some ⟨b, o, none⟩) cap 0 = some ⟨b, o, none⟩ := by
  unfold slA
  split
  · rfl
  · simp [Addr.add_mid]
theorem slA_none (cap k : Nat) : slA none cap k = none := by unfold slA; split <;> rfl
theorem isBy_mid {w : World} {a : Option Addr} {l : List UInt8} {cap : Nat} (h : IsBy w a l cap) (k m : Nat) (hk : k ≤ m) (hm : m ≤ l.length) : IsBy w (slA a cap k) ((l.drop k).take (m - k)) (cap - k) := by
  have hc := h.cap
  refine ⟨by rw [List.length_take, List.length_drop]; omega, ?_⟩
  by_cases h0 : (l.drop k).take (m - k) = []
  · exact .inl h0
  · right
    have hp : 0 < ((l.drop k).take (m - k)).length := List.length_pos_iff.2 h0
    rw [List.length_take, List.length_drop] at hp
    rcases h.lies with e | ⟨b, off, rfl, hlt, hcs⟩
    · subst e; simp at hp
    · refine ⟨b, off + k, ?_, hlt, fun i hi => ?_⟩
      · unfold slA
        rw [if_neg (by omega)]
        simp [Addr.add_mid]
      · rw [List.length_take, List.length_drop] at hi
        have e := hcs (k + i) (by omega)
        rw [show off + k + i = off + (k + i) by omega, e]
        simp
theorem isBy_drop {w : World} {a : Option Addr} {l : List UInt8} {cap : Nat} (h : IsBy w a l cap) (k : Nat) (hk : k ≤ l.length) : IsBy w (slA a cap k) (l.drop k) (cap - k) := by
  have := isBy_mid h k l.length hk (Nat.le_refl _)
  rwa [List.take_of_length_le (by rw [List.length_drop]; exact Nat.le_refl _)] at this
end Go.Proofs.YtikcidlaamgakaaGreatDoor

namespace Go.Proofs.YtikcidlaamgakaaGreatDoor
set_option linter.unusedVariables false
set_option linter.unusedSimpArgs false
set_option maxRecDepth 100000
open Go.RowKit Go.Lib
theorem byTxt_inj {l m : List UInt8} : txt l = txt m ↔ l = m := ⟨fun h => by
  have : (txt l).data.toList = (txt m).data.toList := by rw [h]
  simpa [txt] using this, fun h => by rw [h]⟩
theorem byTxt_list (l : List UInt8) : (txt l).toList = l := by
  simp [txt]
theorem byEqual_any (a : Option Addr) (l : List UInt8) (cap : Nat) (b : Option Addr) (m : List UInt8) (cap2 : Nat) (w : World) (hl : IsBy w a l cap) (hm : IsBy w b m cap2) :
    Calls Tryz.prog 47 #[.slice a l.length cap, .slice b m.length cap2] w fun e w' => e = .returned (.bool (decide (l = m))) ∧ w' = w := by
  have hS1 := run_str w a l cap hl
  have hS2 := run_str w b m cap2 hm
  have HD : Hid (((txt l).toList == (txt m).toList) = decide (l = m)) := by
    unfold Hid
    rw [Bool.eq_iff_iff, beq_iff_eq, decide_eq_true_eq, byTxt_list, byTxt_list]
  clear hl hm
  go_enter Tryz.func47, Tryz.ntmps47
  go_wp2
  go_ret
  exact ⟨by rw [← HD.out]; rfl, rfl⟩
/-- Whether bytes begin so. -/
def begB (l m : List UInt8) : Bool := decide (l.take m.length = m)
theorem begB_iff {l m : List UInt8} : begB l m = true ↔ m <+: l := by
  unfold begB
  rw [decide_eq_true_eq]
  exact ⟨fun h => by rw [← h]; exact List.take_prefix _ _, fun h => (List.prefix_iff_eq_take.1 h).symm⟩
theorem byPrefix_any (a : Option Addr) (l : List UInt8) (cap : Nat) (b : Option Addr) (m : List UInt8) (cap2 : Nat) (w : World) (hl : IsBy w a l cap) (hm : IsBy w b m cap2) :
    Calls Tryz.prog 42 #[.slice a l.length cap, .slice b m.length cap2] w fun e w' => e = .returned (.bool (begB l m)) ∧ w' = w := by
  have hcap := hl.cap
  by_cases h : m.length ≤ l.length
  · have hE : Calls _ _ _ w _ := byEqual_any (slA a cap 0) (l.take m.length) cap b m cap2 w (by have := isBy_mid hl 0 m.length (Nat.zero_le _) h; simpa using this) hm
    have HE : Hid (Calls _ _ _ w _) := hE
    have el : (l.take m.length).length = m.length := by rw [List.length_take]; omega
    rw [el] at HE
    have HB : Hid (begB l m = decide (l.take m.length = m)) := rfl
    have hle : (m.length : Int) ≤ (l.length : Int) := by omega
    have hlc : (m.length : Int) ≤ (cap : Int) := by omega
    have m0 : (0 : Int) ≤ m.length := by omega
    have hcut := run_byH a l.length cap m.length (by omega) w
    clear hl hm h hE el
    go_enter Tryz.func42, Tryz.ntmps42
    go_wp2_with fail
    refine HE.out.mono ?_
    rintro e w1 ⟨rfl, rfl⟩
    go_wp2
    go_ret
    exact ⟨by rw [HB.out]; rfl, rfl⟩
  · have HB : Hid (begB l m = false) := by
      unfold Hid begB
      rw [decide_eq_false_iff_not]
      intro e
      have := congrArg List.length e
      rw [List.length_take] at this
      omega
    have hle : ¬ (m.length : Int) ≤ (l.length : Int) := by omega
    clear hl hm h
    go_enter Tryz.func42, Tryz.ntmps42
    go_wp2
    go_ret
    exact ⟨by rw [HB.out]; rfl, rfl⟩
end Go.Proofs.YtikcidlaamgakaaGreatDoor

namespace Go.Proofs.YtikcidlaamgakaaGreatDoor
open Go
set_option linter.unusedVariables false

section
variable {P : Program} {ops : Array Oper} {Q : Exit → Act → World → Prop} {md : Region.Mode} {T : World → Prop} {g : Nat}

theorem L_firstC {i : Nat} {oi : Oper} {v : Value} {C : List Nat} (hi : ops[i]? = some oi) (hC : ∀ k ∈ C, ∃ ok, ops[k]? = some ok ∧ ∃ e ∈ ok.after, Region.binds md e = true ∧ (e.on = i ∨ e.on ∈ C)) (hgC : g ∈ C) (hgi : g ≠ i)
    (hsel : ∀ (j : Nat) (o : Oper) cs b, ops[j]? = some o → o.op ≠ .select cs b) (hQ : ∀ c a w, Q (.panic c) (a.put oi.dst v) w → Q (.panic c) a w) :
    ∀ (fuel : Nat) (listed : Array Bool) (a : Act) (w : World),
      (∀ j oj, ops[j]? = some oj → j ≠ i → listed.getD j true = false → (∀ e ∈ oj.after, Region.binds md e = true → e.on ≠ i) → oi.apart ops oj = true) →
      i ∈ Region.ready md ops listed → (∀ k ∈ C, listed.getD k true = false) → YieldsIf P ops T oi v a → T w →
      wpAnyL P md ops Q g T fuel (listed.setIfInBounds i true) (a.put oi.dst v) w → wpAnyL P md ops Q g T (fuel + 1) listed a w := by
  intro fuel
  induction fuel with
  | zero =>
    intro listed a w _ hr _ hy hT H
    refine ⟨fun h => (by rw [h] at hr; cases hr), fun j hj => ?_⟩
    by_cases hji : j = i
    · subst hji; exact hy.wpOp hi hT ⟨fun _ => hT, H⟩
    · have := ready_mono hj hji
      rw [H.1] at this
      cases this
  | succ fuel ih =>
    intro listed a w hfree hr hlC hy hT H
    refine ⟨fun h => (by rw [h] at hr; cases hr), fun j hj => ?_⟩
    by_cases hji : j = i
    · subst hji; exact hy.wpOp hi hT ⟨fun _ => hT, H⟩
    · have h1 := H.2 j (ready_mono hj hji)
      obtain ⟨hjun, oj, hoj, hall⟩ := mem_ready.1 hj
      have hnot : ∀ e ∈ oj.after, Region.binds md e = true → e.on ≠ i := fun e he hb heq => by
        have h1 := hall e he hb
        have h0 := (mem_ready.1 hr).1
        rw [heq] at h1
        rcases Nat.lt_or_ge i listed.size with h' | h'
        · simp [h'] at h0 h1; rw [h0] at h1; cases h1
        · simp [Array.getElem?_eq_none h'] at h1
      have hjC : ∀ k ∈ C, j ≠ k := fun k hk hjk => by
        obtain ⟨ok, hok, e, he, hb, ho⟩ := hC k hk
        rw [← hjk, hoj] at hok
        cases hok
        rcases ho with ho | ho
        · exact hnot e he hb ho
        · have h1 := hall e he hb
          have hl := hlC _ ho
          rcases Nat.lt_or_ge e.on listed.size with h' | h'
          · simp [h'] at hl h1; rw [hl] at h1; cases h1
          · simp [Array.getElem?_eq_none h'] at h1
      have h2 := wpOp_putIf hoj (hfree j oj hoj hji hjun hnot) (fun cs b => hsel i oi cs b hi) (fun cs b => hsel j oj cs b hoj) hQ hy h1
      have hfree' : ∀ k ok, ops[k]? = some ok → k ≠ i → (listed.setIfInBounds j true).getD k true = false →
          (∀ e ∈ ok.after, Region.binds md e = true → e.on ≠ i) → oi.apart ops ok = true := fun k ok hk hki hun hno => by
        refine hfree k ok hk hki ?_ hno
        by_cases hjk : j = k
        · subst hjk; exact hjun
        · rw [getD_set_ne true hjk] at hun; exact hun
      have hlC' : ∀ k ∈ C, (listed.setIfInBounds j true).getD k true = false := fun k hk => by rw [getD_set_ne true (hjC k hk)]; exact hlC k hk
      refine wpOp_mono (fun a' w' h3 => ?_) h2
      have hT' : T w' := h3.2.1 (by rw [getD_set_ne true (hjC g hgC), getD_set_ne true (Ne.symm hgi)]; exact hlC g hgC)
      refine ⟨fun _ => hT', ih (listed.setIfInBounds j true) a' w' hfree' (ready_mono hr (Ne.symm hji)) hlC' h3.1 hT' ?_⟩
      rw [Array.setIfInBounds_comm _ _ hji]
      exact h3.2.2

/-- One of a chain waits for the operation, or for another of the chain. -/
def waits (md : Region.Mode) (ops : Array Oper) (i : Nat) (C : List Nat) (k : Nat) : Bool := match ops[k]? with
  | some ok => ok.after.any fun e => Region.binds md e && (e.on == i || C.contains e.on)
  | none => false
/-- The move of a walk. -/
theorem L_takeC (C : List Nat) {i : Nat} {oi : Oper} {v : Value} {fuel : Nat} {listed : Array Bool} {a : Act} {w : World} (hi : ops[i]? = some oi)
    (hC : C.all (waits md ops i C) = true) (hgC : C.contains g = true) (hgi : g ≠ i)
    (hs : Region.noSelect ops = true) (hf : Region.free md ops listed i = true) (hr : (Region.ready md ops listed).contains i = true) (hl : C.all (fun k => !(listed.getD k true)) = true)
    (hQ : ∀ c a w, Q (.panic c) (a.put oi.dst v) w → Q (.panic c) a w) (hy : YieldsIf P ops T oi v a) (hT : T w)
    (h : wpAnyL P md ops Q g T fuel (listed.setIfInBounds i true) (a.put oi.dst v) w) : wpAnyL P md ops Q g T (fuel + 1) listed a w := by
  refine L_firstC hi (fun k hk => ?_) (by simpa using hgC) hgi (Region.noSelect_spec hs) hQ fuel listed a w (Region.free_spec hi hf) (by simpa using hr) (fun k hk => ?_) hy hT h
  · have := List.all_eq_true.1 hC k hk
    unfold waits at this
    split at this
    · rename_i ok hok
      rw [Array.any_eq_true] at this
      obtain ⟨q, hq, he⟩ := this
      simp only [Bool.and_eq_true, Bool.or_eq_true, beq_iff_eq, List.contains_iff_mem] at he
      exact ⟨ok, hok, ok.after[q], Array.getElem_mem hq, he.1, he.2⟩
    · cases this
  · have := List.all_eq_true.1 hl k hk
    simpa using this
end
end Go.Proofs.YtikcidlaamgakaaGreatDoor

namespace Go.Proofs.YtikcidlaamgakaaGreatDoor
set_option linter.unusedVariables false
set_option linter.unusedSimpArgs false
set_option maxRecDepth 100000
open Go.RowKit Go.Lib
section
variable {w W : World} {p nb sb : Nat} {cv : Value} {n : Nat} {D : Dk}
/-- A piece's box beside an area's. -/
theorem box_facts (W : World) (X Y : Array Value) (t t' : TypeId) : ∀ U, Below (W.heap.size + 2) ((W.alloc (.cells X t)).alloc (.cells Y t')) U → U.heap[W.heap.size]? = some (.cells X t (0, 0)) ∧ U.heap[W.heap.size + 1]? = some (.cells Y t' (0, 0)) ∧ Below W.heap.size W U := by
  intro U hU
  obtain ⟨h1, h2, h3⟩ := two_new W (.cells X t) (.cells Y t')
  have hs : ((W.alloc (.cells X t)).alloc (.cells Y t')).heap.size = W.heap.size + 2 := by simp
  exact ⟨(hU.block _ (by omega)).trans h1, (hU.block _ (by omega)).trans h2, h3.trans (hU.mono (by omega))⟩
/-- A piece's box. -/
theorem box_fact1 (W : World) (X : Array Value) (t : TypeId) : ∀ U, Below (W.heap.size + 1) (W.alloc (.cells X t)) U → U.heap[W.heap.size]? = some (.cells X t (0, 0)) ∧ Below W.heap.size W U := by
  intro U hU
  have hs : (W.alloc (.cells X t)).heap.size = W.heap.size + 1 := by simp
  exact ⟨(hU.block _ (by omega)).trans (new_heap W _), ((Below.refl _ W).alloc (Nat.le_refl _) (.cells X t)).trans (hU.mono (by omega))⟩
set_option maxHeartbeats 2000000 in
/-- A piece as it is written. -/
theorem pcBlock_any (x : Pm) (hx : IsBy W x.a x.q.byt x.cap) (hxa : x.cap = 0 ∨ x.a ≠ none) (hl : x.q.byt.length ≤ 60) (hnum : x.q.num < 256) (hsit : x.q.sit < 65536) :
    Calls Tryz.prog 84 #[.agg x.cells.toArray] W fun e w' => ∃ v', e = .returned v' ∧ Hid (ByRow w' (W.heap.size + 1) v' (pcB x.q)) ∧ Hid (Below W.heap.size W w') := by
  obtain ⟨at_, ⟨num, sit, fst, byt⟩, ad, cap⟩ := x
  simp only at hx hxa hl hnum hsit
  simp only [Pm.cells]
  obtain ⟨W0, hW0⟩ : ∃ W0, W.alloc (.cells #[.int .i64 (at_ : Int), .int .i64 (num : Int), .int .i64 (sit : Int), .bool fst, .slice ad byt.length cap] 122) = W0 := ⟨_, rfl⟩
  have hbx := box_fact1 W #[.int .i64 (at_ : Int), .int .i64 (num : Int), .int .i64 (sit : Int), .bool fst, .slice ad byt.length cap] 122
  have hs0 : W0.heap.size = W.heap.size + 1 := by rw [← hW0]; simp
  rw [hW0] at hbx
  have HS0 : Hid (W0.heap.size = W.heap.size + 1) := hs0
  have HF : Hid (∀ U, Below (W.heap.size + 1) W0 U → (U.cell? ⟨W.heap.size, 1, none⟩ = some (.int .i64 (num : Int)) ∧ U.cell? ⟨W.heap.size, 2, none⟩ = some (.int .i64 (sit : Int)) ∧ U.cell? ⟨W.heap.size, 3, none⟩ = some (.bool fst) ∧ U.cell? ⟨W.heap.size, 4, none⟩ = some (.slice ad byt.length cap)) ∧ IsBy U ad byt cap ∧ Below W.heap.size W U) := fun U hU => by
    obtain ⟨h2, h3⟩ := hbx U hU
    exact ⟨⟨by simp [World.cell?, h2], by simp [World.cell?, h2], by simp [World.cell?, h2], by simp [World.cell?, h2]⟩, hx.below h3, h3⟩
  obtain ⟨mb, hmb⟩ : ∃ mb : Nat, byt.length + (if fst = true then 128 else 0) = mb := ⟨_, rfl⟩
  have hmb1 : mb < 256 := by rw [← hmb]; split <;> omega
  have HAdd : Hid (∀ (U : World) (B : Nat), Below (W.heap.size + 1) W0 U → U.heap[B]? = some (.cells #[.int .u8 (num : Int)] 5 (0, 0)) → W.heap.size + 1 ≤ B → Calls Tryz.prog 48 #[.slice (some ⟨B, 0, none⟩) 1 1, .int .i64 (sit : Int)] U fun e w' => ∃ v', e = .returned v' ∧ Hid (ByRow w' (W.heap.size + 1) v' ([UInt8.ofNat num] ++ w2B sit)) ∧ Hid (Below (W.heap.size + 1) W0 w')) := fun U B hU hB hlo => by
    have hrow : ByRow U (W.heap.size + 1) (.slice (some ⟨B, 0, none⟩) 1 1) [UInt8.ofNat num] := by
      refine ⟨rfl, .inr ⟨B, 1, _, rfl, hlo, hB, Nat.le_refl _, by unfold maxLen; omega, rfl, ?_⟩⟩
      simp [byC]
      omega
    have := hU.size
    refine (addWord_any (W.heap.size + 1) _ [UInt8.ofNat num] sit U hrow (by omega) (by simp) hsit).mono ?_
    rintro e w' ⟨v', rfl, h1, h2, _, _⟩
    exact ⟨v', rfl, h1, hU.trans h2.out⟩
  have HPc : Hid (pcB ⟨num, sit, fst, byt⟩ = (([UInt8.ofNat num] ++ w2B sit) ++ [UInt8.ofNat mb]) ++ byt) := by
    unfold Hid pcB
    rw [← hmb]
  have hxl : (byt.length : Int) ≤ 60 := by omega
  have hx0 : (0 : Int) ≤ byt.length := by omega
  have n0 : (0 : Int) ≤ num := by omega
  have n1 : (num : Int) < 256 := by omega
  have t0 : (0 : Int) ≤ sit := by omega
  have t1 : (sit : Int) < 65536 := by omega
  have hwl : IntKind.u8.wrap (byt.length : Int) = (byt.length : Int) := by rw [IntKind.wrap_u8]; omega
  have hwn : IntKind.u8.wrap (num : Int) = (num : Int) := by rw [IntKind.wrap_u8]; omega
  have hor := or_mark byt.length (by omega)
  obtain ⟨ol, hol⟩ : ∃ ol : Nat, byt.length + 128 = ol := ⟨_, rfl⟩
  rw [hol] at hor
  obtain ⟨⟨d1, d2, d3, d4⟩, _⟩ := HF.out W0 (Below.refl _ _)
  have HC : Hid (cap = 0 ∨ ad ≠ none) := hxa
  have HL : Hid (byt.length ≤ 60) := hl
  have hfm : (if fst = true then ol else byt.length) = mb := by rw [← hmb, ← hol]; cases fst <;> rfl
  obtain ⟨pc, hpc⟩ : ∃ pc, pcB ⟨num, sit, fst, byt⟩ = pc := ⟨_, rfl⟩
  rw [hpc] at HPc
  simp only [hpc]
  clear hx hbx hxa hl hpc hmb hol hs0
  have HMb : Hid (mb < 256 ∧ byt.length ≤ 60) := ⟨hmb1, HL.out⟩
  have hlt0 : W.heap.size < W0.heap.size := by rw [HS0.out]; omega
  have HFm : Hid ((if fst = true then ol else byt.length) = mb) := hfm
  clear hfm hmb1
  cases fst
  all_goals
    have hfm' := HFm.out
    simp only [if_true, Bool.false_eq_true, if_false] at hfm'
    rw [← hfm'] at HPc HMb
    clear hfm' HFm
  · go_enter Tryz.func84, Tryz.ntmps84
    go_upto_region 4 with fail
    obtain ⟨W2, hW2⟩ : ∃ W2, W0.alloc (.cells #[.int .u8 (num : Int)] 5) = W2 := ⟨_, rfl⟩
    have hb2 : Below (W.heap.size + 1) W0 W2 := by rw [← hW2]; exact (Below.refl _ W0).alloc (by rw [HS0.out]; exact Nat.le_refl _) _
    have hr2 := new_heap W0 (.cells #[.int .u8 (num : Int)] 5)
    rw [hW2] at hr2
    obtain ⟨⟨_, e2, _, _⟩, _⟩ := HF.out W2 hb2
    have HA2 : Hid (Calls _ _ _ W2 _) := HAdd.out W2 W0.heap.size hb2 hr2 (by rw [HS0.out]; exact Nat.le_refl _)
    clear hb2 hr2 HAdd
    go_wp2_with fail
    refine HA2.out.mono ?_
    rintro e w3 ⟨v3, rfl, hr3, hb3⟩
    obtain ⟨av3, cv3, rfl, _⟩ := hr3.out.isBy
    have hl3 : ([UInt8.ofNat num] ++ w2B sit).length = 3 := by simp [w2B]
    rw [hl3]
    have hb4 : Below (W.heap.size + 1) W0 (w3.alloc (.cells #[.int .u8 (byt.length : Int)] 5)) := hb3.out.alloc (by have := hb3.out.size; rw [HS0.out] at this; exact this) _
    have HR4 : Hid (ByRow (w3.alloc (.cells #[.int .u8 (byt.length : Int)] 5)) (W.heap.size + 1) (.slice av3 3 cv3) ([UInt8.ofNat num] ++ w2B sit)) := by
      have := hr3.out.below ((Below.refl _ w3).alloc (Nat.le_refl _) (.cells #[.int .u8 (byt.length : Int)] 5))
      rw [hl3] at this
      exact this
    have HM4 : Hid (IsBy (w3.alloc (.cells #[.int .u8 (byt.length : Int)] 5)) (some ⟨w3.heap.size, 0, none⟩) [UInt8.ofNat (byt.length)] 1) := by
      have := isBy_new w3 [UInt8.ofNat (byt.length)]
      rw [show (byC [UInt8.ofNat (byt.length)]).toArray = #[.int .u8 (byt.length : Int)] by
        have := HMb.out.1
        simp [byC]
        omega] at this
      exact this
    have hsz : W.heap.size + 1 ≤ (w3.alloc (.cells #[.int .u8 (byt.length : Int)] 5)).heap.size := by have := hb4.size; rw [HS0.out] at this; exact this
    have HB4 : Hid (Below (W.heap.size + 1) W0 (w3.alloc (.cells #[.int .u8 (byt.length : Int)] 5))) := hb4
    have HSZ : Hid (W.heap.size + 1 ≤ (w3.alloc (.cells #[.int .u8 (byt.length : Int)] 5)).heap.size) := hsz
    clear HA2 hr3 hb3 hb4 hsz hl3
    go_upto_region 5 with (at_builtin; refine wpList_appB rfl (.tmp 19) (.tmp 21) rfl (W.heap.size + 1) (.slice av3 3 cv3) ([UInt8.ofNat num] ++ w2B sit) (some ⟨w3.heap.size, 0, none⟩) [UInt8.ofNat (byt.length)] 1 1 (by rfl) (by rfl) rfl HR4.out HM4.out (.inr (by simp)) HSZ.out (by simp [w2B]) ?_; intro v5 w5 hr5 hb5 _ _)
    obtain ⟨av5, cv5, rfl, _⟩ := hr5.isBy
    have hl5 : (([UInt8.ofNat num] ++ w2B sit) ++ [UInt8.ofNat (byt.length)]).length = 4 := by simp [w2B]
    rw [hl5] at hr5 ⊢
    have HR5 : Hid (ByRow w5 (W.heap.size + 1) (.slice av5 4 cv5) (([UInt8.ofNat num] ++ w2B sit) ++ [UInt8.ofNat (byt.length)])) := hr5
    have HB5 : Hid (Below (W.heap.size + 1) W0 w5) := HB4.out.trans hb5
    obtain ⟨⟨_, _, _, e4⟩, _⟩ := HF.out w5 HB5.out
    clear HR4 HM4 HB4 HSZ hr5 hb5 hl5 d1 d2 d3 d4
    go_wp2_with (at_builtin; refine wpList_appB rfl (.tmp 23) (.tmp 25) rfl (W.heap.size + 1) (.slice av5 4 cv5) (([UInt8.ofNat num] ++ w2B sit) ++ [UInt8.ofNat (byt.length)]) ad byt byt.length cap (by rfl) (by rfl) rfl HR5.out (HF.out w5 HB5.out).2.1 HC.out (by have := HB5.out.size; rw [HS0.out] at this; exact this) (by simp [w2B]; have := HMb.out.2; omega) ?_; intro v6 w6 hr6 hb6 _ _)
    have H6 : Hid (ByRow w6 (W.heap.size + 1) v6 pc ∧ Below W.heap.size W w6) := ⟨by rw [HPc.out]; exact hr6, (HF.out w6 (HB5.out.trans hb6)).2.2⟩
    clear HR5 HB5 hr6 hb6 e4
    go_wp2
    go_ret
    exact ⟨_, rfl, H6.out.1, H6.out.2⟩
  · go_enter Tryz.func84, Tryz.ntmps84
    go_upto_region 4 with fail
    obtain ⟨W2, hW2⟩ : ∃ W2, W0.alloc (.cells #[.int .u8 (num : Int)] 5) = W2 := ⟨_, rfl⟩
    have hb2 : Below (W.heap.size + 1) W0 W2 := by rw [← hW2]; exact (Below.refl _ W0).alloc (by rw [HS0.out]; exact Nat.le_refl _) _
    have hr2 := new_heap W0 (.cells #[.int .u8 (num : Int)] 5)
    rw [hW2] at hr2
    obtain ⟨⟨_, e2, _, _⟩, _⟩ := HF.out W2 hb2
    have HA2 : Hid (Calls _ _ _ W2 _) := HAdd.out W2 W0.heap.size hb2 hr2 (by rw [HS0.out]; exact Nat.le_refl _)
    clear hb2 hr2 HAdd
    go_wp2_with fail
    refine HA2.out.mono ?_
    rintro e w3 ⟨v3, rfl, hr3, hb3⟩
    obtain ⟨av3, cv3, rfl, _⟩ := hr3.out.isBy
    have hl3 : ([UInt8.ofNat num] ++ w2B sit).length = 3 := by simp [w2B]
    rw [hl3]
    have hb4 : Below (W.heap.size + 1) W0 (w3.alloc (.cells #[.int .u8 (ol : Int)] 5)) := hb3.out.alloc (by have := hb3.out.size; rw [HS0.out] at this; exact this) _
    have HR4 : Hid (ByRow (w3.alloc (.cells #[.int .u8 (ol : Int)] 5)) (W.heap.size + 1) (.slice av3 3 cv3) ([UInt8.ofNat num] ++ w2B sit)) := by
      have := hr3.out.below ((Below.refl _ w3).alloc (Nat.le_refl _) (.cells #[.int .u8 (ol : Int)] 5))
      rw [hl3] at this
      exact this
    have HM4 : Hid (IsBy (w3.alloc (.cells #[.int .u8 (ol : Int)] 5)) (some ⟨w3.heap.size, 0, none⟩) [UInt8.ofNat (ol)] 1) := by
      have := isBy_new w3 [UInt8.ofNat (ol)]
      rw [show (byC [UInt8.ofNat (ol)]).toArray = #[.int .u8 (ol : Int)] by
        have := HMb.out.1
        simp [byC]
        omega] at this
      exact this
    have hsz : W.heap.size + 1 ≤ (w3.alloc (.cells #[.int .u8 (ol : Int)] 5)).heap.size := by have := hb4.size; rw [HS0.out] at this; exact this
    have HB4 : Hid (Below (W.heap.size + 1) W0 (w3.alloc (.cells #[.int .u8 (ol : Int)] 5))) := hb4
    have HSZ : Hid (W.heap.size + 1 ≤ (w3.alloc (.cells #[.int .u8 (ol : Int)] 5)).heap.size) := hsz
    clear HA2 hr3 hb3 hb4 hsz hl3
    go_upto_region 5 with (at_builtin; refine wpList_appB rfl (.tmp 19) (.tmp 21) rfl (W.heap.size + 1) (.slice av3 3 cv3) ([UInt8.ofNat num] ++ w2B sit) (some ⟨w3.heap.size, 0, none⟩) [UInt8.ofNat (ol)] 1 1 (by rfl) (by rfl) rfl HR4.out HM4.out (.inr (by simp)) HSZ.out (by simp [w2B]) ?_; intro v5 w5 hr5 hb5 _ _)
    obtain ⟨av5, cv5, rfl, _⟩ := hr5.isBy
    have hl5 : (([UInt8.ofNat num] ++ w2B sit) ++ [UInt8.ofNat (ol)]).length = 4 := by simp [w2B]
    rw [hl5] at hr5 ⊢
    have HR5 : Hid (ByRow w5 (W.heap.size + 1) (.slice av5 4 cv5) (([UInt8.ofNat num] ++ w2B sit) ++ [UInt8.ofNat (ol)])) := hr5
    have HB5 : Hid (Below (W.heap.size + 1) W0 w5) := HB4.out.trans hb5
    obtain ⟨⟨_, _, _, e4⟩, _⟩ := HF.out w5 HB5.out
    clear HR4 HM4 HB4 HSZ hr5 hb5 hl5 d1 d2 d3 d4
    go_wp2_with (at_builtin; refine wpList_appB rfl (.tmp 23) (.tmp 25) rfl (W.heap.size + 1) (.slice av5 4 cv5) (([UInt8.ofNat num] ++ w2B sit) ++ [UInt8.ofNat (ol)]) ad byt byt.length cap (by rfl) (by rfl) rfl HR5.out (HF.out w5 HB5.out).2.1 HC.out (by have := HB5.out.size; rw [HS0.out] at this; exact this) (by simp [w2B]; have := HMb.out.2; omega) ?_; intro v6 w6 hr6 hb6 _ _)
    have H6 : Hid (ByRow w6 (W.heap.size + 1) v6 pc ∧ Below W.heap.size W w6) := ⟨by rw [HPc.out]; exact hr6, (HF.out w6 (HB5.out.trans hb6)).2.2⟩
    clear HR5 HB5 hr6 hb6 e4
    go_wp2
    go_ret
    exact ⟨_, rfl, H6.out.1, H6.out.2⟩
/-- A piece is written into its block. -/
theorem writePieceA (a : Tn w W p nb sb cv n D) (fr mn : Nat) (x : Pm) (hx : IsBy W x.a x.q.byt x.cap) (hxa : x.cap = 0 ∨ x.a ≠ none) (hi : fr + x.at_ < n) (hn : n ≤ 200) (hl : x.q.byt.length ≤ 60) (hnum : x.q.num < 256) (hsit : x.q.sit < 65536) (hs : D.lim 1000000) :
    Calls Tryz.prog 71 #[.agg #[.pointer (some ⟨p, 0, none⟩), .int .i64 (fr : Int), .int .i64 (mn : Int)], .agg x.cells.toArray] W fun e w' => e = .returned (enE (wrR D (fr + x.at_) (pcB x.q)).1) ∧ ∃ cv', Hid (Tn w w' p nb sb cv' n (wrR D (fr + x.at_) (pcB x.q)).2) ∧ Hid (Keeps w.heap.size dkT W w') := by
  obtain ⟨W0, hW0⟩ : ∃ W0, (W.alloc (.cells #[.pointer (some ⟨p, 0, none⟩), .int .i64 (fr : Int), .int .i64 (mn : Int)] 71)).alloc (.cells x.cells.toArray 122) = W0 := ⟨_, rfl⟩
  have hbx := box_facts W #[.pointer (some ⟨p, 0, none⟩), .int .i64 (fr : Int), .int .i64 (mn : Int)] x.cells.toArray 71 122
  have hs0 : W0.heap.size = W.heap.size + 2 := by rw [← hW0]; simp
  rw [hW0] at hbx
  have HF : Hid (∀ U, Below (W.heap.size + 2) W0 U → (U.cell? ⟨W.heap.size, 0, none⟩ = some (.pointer (some ⟨p, 0, none⟩)) ∧ U.cell? ⟨W.heap.size, 1, none⟩ = some (.int .i64 (fr : Int))) ∧ U.cell? ⟨W.heap.size + 1, 0, none⟩ = some (.int .i64 (x.at_ : Int)) ∧ (Instr.loadAt 122 (.pointer (some ⟨W.heap.size + 1, 0, none⟩))).run Tryz.prog U = .ok (.agg x.cells.toArray) U ∧ Tn w U p nb sb cv n D ∧ IsBy U x.a x.q.byt x.cap ∧ Below W.heap.size W U) := fun U hU => by
    obtain ⟨h1, h2, h3⟩ := hbx U hU
    exact ⟨⟨by simp [World.cell?, h1], by simp [World.cell?, h1]⟩, by simp [World.cell?, h2, Pm.cells], load_pm x (range0 h2), a.below h3, hx.below h3, h3⟩
  have HBk : Hid (∀ U, Below (W.heap.size + 2) W0 U → Calls Tryz.prog 84 #[.agg x.cells.toArray] U fun e w' => ∃ ad cp, e = .returned (.slice ad (pcB x.q).length cp) ∧ Hid (IsBy w' ad (pcB x.q) cp) ∧ Hid (Below (W.heap.size + 2) W0 w')) := fun U hU => by
    refine (pcBlock_any x (HF.out U hU).2.2.2.2.1 hxa hl hnum hsit).mono ?_
    rintro e w' ⟨v', rfl, h1, h2⟩
    obtain ⟨av, ac, rfl, h3⟩ := h1.out.isBy
    exact ⟨av, ac, rfl, h3, hU.trans (h2.out.mono (by have := hU.size; omega))⟩
  have HWr : Hid (∀ (U : World) (a' : Option Addr) (c' : Nat), Below (W.heap.size + 2) W0 U → IsBy U a' (pcB x.q) c' → Calls Tryz.prog 18 #[.pointer (some ⟨p, 0, none⟩), .int .i64 ((fr : Int) + (x.at_ : Int)), .slice a' (pcB x.q).length c'] U fun e w' => e = .returned (enE (wrR D (fr + x.at_) (pcB x.q)).1) ∧ ∃ cv', Hid (Tn w w' p nb sb cv' n (wrR D (fr + x.at_) (pcB x.q)).2) ∧ Hid (Keeps w.heap.size dkT W w')) := fun U a' c' hU hB => by
    obtain ⟨_, _, _, ht, _, hb⟩ := HF.out U hU
    have := tn_wrR ht (fr + x.at_) a' (pcB x.q) c' hi (by rw [pcB_length]; omega) hn hs hB
    rw [show ((fr + x.at_ : Nat) : Int) = (fr : Int) + (x.at_ : Int) by omega] at this
    refine this.mono ?_
    rintro e w' ⟨rfl, cv', h1, h2⟩
    exact ⟨rfl, cv', h1, (Keeps.of_below hb).trans h2.out⟩
  have f0 : (0 : Int) ≤ fr := by omega
  have a0 : (0 : Int) ≤ x.at_ := by omega
  have fa : (fr : Int) + x.at_ < 200 := by omega
  have hlt0 : W.heap.size < W0.heap.size := by omega
  have hlt1 : W.heap.size + 1 < W0.heap.size := by omega
  generalize hR : wrR D (fr + x.at_) (pcB x.q) = R at *
  generalize pcB x.q = pb at *
  generalize hxc : x.cells.toArray = xc at *
  generalize x.at_ = at_ at *
  clear a hx hbx hxa hi hl hnum hsit hs hs0 hn hR
  go_enter Tryz.func71, Tryz.ntmps71
  go_upto_region 1 with fail
  have HT : Hid (Below (W.heap.size + 2) W0 W0.drew) := ⟨rfl, rfl, rfl, Nat.le_refl _, fun _ _ => rfl⟩
  refine wp_region_drawn (by kernel_rfl) ?_
  generalize W0.drew = v2 at *
  refine wpAny_take (i := 0) (v := .pointer (some ⟨W.heap.size, 0, none⟩)) rfl (by kernel_rfl) (by kernel_rfl) (by kernel_rfl) (fun _ _ _ h => h) (Or.inl ⟨by rfl, fun w => by go_simp⟩) ?_
  simp only [Act.put, List.getElem_toArray, List.getElem_cons_succ, List.getElem_cons_zero, List.setIfInBounds_toArray, List.set_cons_zero, List.set_cons_succ]
  refine wpAny_take (i := 2) (v := .pointer (some ⟨W.heap.size, 1, none⟩)) rfl (by kernel_rfl) (by kernel_rfl) (by kernel_rfl) (fun _ _ _ h => h) (Or.inl ⟨by rfl, fun w => by go_simp⟩) ?_
  simp only [Act.put, List.getElem_toArray, List.getElem_cons_succ, List.getElem_cons_zero, List.setIfInBounds_toArray, List.set_cons_zero, List.set_cons_succ]
  refine wpAny_take (i := 4) (v := .pointer (some ⟨W.heap.size + 1, 0, none⟩)) rfl (by kernel_rfl) (by kernel_rfl) (by kernel_rfl) (fun _ _ _ h => h) (Or.inl ⟨by rfl, fun w => by go_simp⟩) ?_
  simp only [Act.put, List.getElem_toArray, List.getElem_cons_succ, List.getElem_cons_zero, List.setIfInBounds_toArray, List.set_cons_zero, List.set_cons_succ]
  refine any_of_L (g := 9) (T := fun u => Below (W.heap.size + 2) W0 u) _ _ _ _ ?_
  refine L_take (i := 1) (v := .pointer (some ⟨p, 0, none⟩)) rfl rfl (by kernel_rfl) (by decide) (by kernel_rfl) (by kernel_rfl) (by kernel_rfl) (by kernel_rfl) (fun _ _ _ h => h) (Or.inl ⟨by rfl, fun w' hw' => by have c0 := (HF.out w' hw').1.1; clear hw'; go_simp⟩) HT.out ?_
  simp only [Act.put, List.getElem_toArray, List.getElem_cons_succ, List.getElem_cons_zero, List.setIfInBounds_toArray, List.set_cons_zero, List.set_cons_succ]
  refine L_take2 (i := 3) (m := 6) (v := .int .i64 (fr : Int)) rfl rfl rfl (by kernel_rfl) (by kernel_rfl) (by decide) (by kernel_rfl) (by kernel_rfl) (by kernel_rfl) (by kernel_rfl) (by kernel_rfl) (fun _ _ _ h => h) (Or.inl ⟨by rfl, fun w' hw' => by have c0 := (HF.out w' hw').1.2; clear hw'; go_simp⟩) HT.out ?_
  simp only [Act.put, List.getElem_toArray, List.getElem_cons_succ, List.getElem_cons_zero, List.setIfInBounds_toArray, List.set_cons_zero, List.set_cons_succ]
  refine L_take2 (i := 5) (m := 6) (v := .int .i64 (at_ : Int)) rfl rfl rfl (by kernel_rfl) (by kernel_rfl) (by decide) (by kernel_rfl) (by kernel_rfl) (by kernel_rfl) (by kernel_rfl) (by kernel_rfl) (fun _ _ _ h => h) (Or.inl ⟨by rfl, fun w' hw' => by have c0 := (HF.out w' hw').2.1; clear hw'; go_simp⟩) HT.out ?_
  simp only [Act.put, List.getElem_toArray, List.getElem_cons_succ, List.getElem_cons_zero, List.setIfInBounds_toArray, List.set_cons_zero, List.set_cons_succ]
  refine L_take (i := 6) (v := .int .i64 ((fr : Int) + (at_ : Int))) rfl rfl (by kernel_rfl) (by decide) (by kernel_rfl) (by kernel_rfl) (by kernel_rfl) (by kernel_rfl) (fun _ _ _ h => h) (Or.inl ⟨by rfl, fun w' hw' => by clear hw'; have hwr : IntKind.i64.wrap ((fr : Int) + (at_ : Int)) = (fr : Int) + (at_ : Int) := (by rw [IntKind.wrap_i64]; omega); go_simp⟩) HT.out ?_
  simp only [Act.put, List.getElem_toArray, List.getElem_cons_succ, List.getElem_cons_zero, List.setIfInBounds_toArray, List.set_cons_zero, List.set_cons_succ]
  refine L_takeC [9, 8] (i := 7) (v := .agg xc) rfl (by kernel_rfl) (by kernel_rfl) (by decide) (by kernel_rfl) (by kernel_rfl) (by kernel_rfl) (by kernel_rfl) (fun _ _ _ h => h) ?_ HT.out ?_
  · refine yields_load_run (by rfl) 122 (.tmp 3) (by rfl) (.pointer (some ⟨W.heap.size + 1, 0, none⟩)) (by rfl) ?_
    exact fun w' hw' => (HF.out w' hw').2.2.1
  simp only [Act.put, List.getElem_toArray, List.getElem_cons_succ, List.getElem_cons_zero, List.setIfInBounds_toArray, List.set_cons_zero, List.set_cons_succ]
  refine L_one (i := 8) (by kernel_rfl) ?_
  have HB8 : Hid (Calls _ _ _ v2 _) := HBk.out v2 HT.out
  refine wpOp_step rfl ?_
  intro K hK
  rw [if_pos (by rfl)]
  have hK' : Shut (∀ a w, _ → K a w) := hK
  clear hK
  go_wp2_with fail
  refine HB8.out.mono ?_
  rintro e w6 ⟨a6, c6, rfl, h6, b6⟩
  have HW6 : Hid (Calls _ _ _ w6 _) := HWr.out w6 a6 c6 b6.out h6.out
  refine hK'.out _ _ ⟨b6.out, ?_⟩
  clear hK' K h6 b6 HWr HT HB8 HBk
  try simp only [Act.put, List.getElem_toArray, List.getElem_cons_succ, List.getElem_cons_zero, List.setIfInBounds_toArray, List.set_cons_zero, List.set_cons_succ]
  refine L_go (by kernel_rfl) (by kernel_rfl) ?_
  refine wpOp_step rfl ?_
  intro K hK
  rw [if_pos (by rfl)]
  have hK' : Shut (∀ a w, _ → K a w) := hK
  clear hK
  go_wp2_with fail
  refine HW6.out.mono ?_
  rintro e w7 ⟨rfl, cv7, h7, k7⟩
  refine hK'.out _ _ ?_
  clear hK' K
  try simp only [Act.put, List.getElem_toArray, List.getElem_cons_succ, List.getElem_cons_zero, List.setIfInBounds_toArray, List.set_cons_zero, List.set_cons_succ]
  refine any_one (i := 10) (by kernel_rfl) ?_
  refine wpOp_step rfl ?_
  intro K hK
  rw [if_pos (by rfl)]
  have hK' : Shut (∀ a w, _ → K a w) := hK
  clear hK
  go_wp2_with fail
  refine hK'.out _ _ ?_
  clear hK' K
  refine wpAny_done (by kernel_rfl) ?_ _
  go_wp2
  go_ret
  exact ⟨rfl, cv7, h7, k7⟩
/-- Whether bytes stand at a block's beginning. -/
def hasP (D : Dk) (i : Nat) (l : List UInt8) : Bool := !(D.now.getD i bk0).torn && begB (D.now.getD i bk0).byt l
set_option maxHeartbeats 1000000 in
/-- Whether a piece stands in its block. -/
theorem hasPiece_any (a : Tn w W p nb sb cv n D) (fr mn : Nat) (x : Pm) (hx : IsBy W x.a x.q.byt x.cap) (hxa : x.cap = 0 ∨ x.a ≠ none) (hi : fr + x.at_ < n) (hn : n ≤ 200) (hl : x.q.byt.length ≤ 60) (hnum : x.q.num < 256) (hsit : x.q.sit < 65536) :
    Calls Tryz.prog 73 #[.agg #[.pointer (some ⟨p, 0, none⟩), .int .i64 (fr : Int), .int .i64 (mn : Int)], .agg x.cells.toArray] W fun e w' => e = .returned (.bool (hasP D (fr + x.at_) (pcB x.q))) ∧ Hid (Below W.heap.size W w') := by
  have HBk0 : Hid (∀ U, Below W.heap.size W U → Calls Tryz.prog 84 #[.agg x.cells.toArray] U fun e w' => ∃ ad cp, e = .returned (.slice ad (pcB x.q).length cp) ∧ Hid (IsBy w' ad (pcB x.q) cp) ∧ Hid (Below U.heap.size U w')) := fun U hU => by
    refine (pcBlock_any x (hx.below hU) hxa hl hnum hsit).mono ?_
    rintro e w' ⟨v', rfl, h1, h2⟩
    obtain ⟨av, ac, rfl, h3⟩ := h1.out.isBy
    exact ⟨av, ac, rfl, h3, h2⟩
  obtain ⟨at_, ⟨num, sit, fst, byt⟩, ad, cap⟩ := x
  simp only at hx hxa hi hl hnum hsit
  simp only [Pm.cells] at HBk0 ⊢
  obtain ⟨W0, hW0⟩ : ∃ W0, (W.alloc (.cells #[.pointer (some ⟨p, 0, none⟩), .int .i64 (fr : Int), .int .i64 (mn : Int)] 71)).alloc (.cells #[.int .i64 (at_ : Int), .int .i64 (num : Int), .int .i64 (sit : Int), .bool fst, .slice ad byt.length cap] 122) = W0 := ⟨_, rfl⟩
  have hbx := box_facts W #[.pointer (some ⟨p, 0, none⟩), .int .i64 (fr : Int), .int .i64 (mn : Int)] #[.int .i64 (at_ : Int), .int .i64 (num : Int), .int .i64 (sit : Int), .bool fst, .slice ad byt.length cap] 71 122
  have hs0 : W0.heap.size = W.heap.size + 2 := by rw [← hW0]; simp
  rw [hW0] at hbx
  have HF : Hid (∀ U, Below (W.heap.size + 2) W0 U → (U.cell? ⟨W.heap.size + 1, 0, none⟩ = some (.int .i64 (at_ : Int)) ∧ U.cell? ⟨W.heap.size + 1, 1, none⟩ = some (.int .i64 (num : Int)) ∧ U.cell? ⟨W.heap.size + 1, 2, none⟩ = some (.int .i64 (sit : Int)) ∧ U.cell? ⟨W.heap.size + 1, 3, none⟩ = some (.bool fst) ∧ U.cell? ⟨W.heap.size + 1, 4, none⟩ = some (.slice ad byt.length cap)) ∧ Below W.heap.size W U) := fun U hU => by
    obtain ⟨h1, h2, h3⟩ := hbx U hU
    exact ⟨⟨by simp [World.cell?, h2], by simp [World.cell?, h2], by simp [World.cell?, h2], by simp [World.cell?, h2], by simp [World.cell?, h2]⟩, h3⟩
  obtain ⟨h1, h2, h3⟩ := hbx W0 (Below.refl _ _)
  have c0 : W0.cell? ⟨W.heap.size, 0, none⟩ = some (.pointer (some ⟨p, 0, none⟩)) := by simp [World.cell?, h1]
  have c1 : W0.cell? ⟨W.heap.size, 1, none⟩ = some (.int .i64 (fr : Int)) := by simp [World.cell?, h1]
  have d0 : W0.cell? ⟨W.heap.size + 1, 0, none⟩ = some (.int .i64 (at_ : Int)) := by simp [World.cell?, h2]
  have f0 : (0 : Int) ≤ fr := by omega
  have a0 : (0 : Int) ≤ at_ := by omega
  have fa : (fr : Int) + at_ < 200 := by omega
  have ef : ((fr + at_ : Nat) : Int) = (fr : Int) + (at_ : Int) := by omega
  have HB0 : Hid (Below W.heap.size W W0) := h3
  have HS0 : Hid (W0.heap.size = W.heap.size + 2) := hs0
  generalize pcB ⟨num, sit, fst, byt⟩ = pb at *
  by_cases ht : (D.now.getD (fr + at_) bk0).torn = true
  · have hR : Calls _ _ _ W0 _ := tn_readTorn (a.below h3) (fr + at_) hi ht
    rw [ef] at hR
    rw [enE_ne (by decide)] at hR
    have HR : Hid (Calls _ _ _ W0 _) := hR
    have HH : Hid (hasP D (fr + at_) pb = false) := by unfold Hid hasP; rw [ht]; rfl
    generalize hasP D (fr + at_) pb = hp at *
    clear a hx hbx hxa hi hl hnum hsit hs0 hn h1 h2 h3 ht hR ef HF HBk0
    go_enter Tryz.func73, Tryz.ntmps73
    go_wp2_with fail
    refine HR.out.mono ?_
    rintro e w1 ⟨rfl, _, hs⟩
    go_wp2
    go_ret
    exact ⟨by rw [HH.out]; rfl, HB0.out.trans (hs.out.below _)⟩
  · have htf : (D.now.getD (fr + at_) bk0).torn = false := by simpa using ht
    have hR : Calls _ _ _ W0 _ := tn_read (a.below h3) (fr + at_) hi htf
    rw [ef] at hR
    have HR : Hid (Calls _ _ _ W0 _) := hR
    have HH : Hid (hasP D (fr + at_) pb = begB (D.now.getD (fr + at_) bk0).byt pb) := by unfold Hid hasP; rw [htf]; rfl
    have HOk : Hid ((D.now.getD (fr + at_) bk0).byt.length = 64) := getD_ok a.1.ok.nowO (fr + at_)
    generalize hasP D (fr + at_) pb = hp at *
    generalize (D.now.getD (fr + at_) bk0).byt = bt at *
    clear a hx hbx hxa hi hl hnum hsit hs0 hn h1 h2 h3 ht htf hR ef
    go_enter Tryz.func73, Tryz.ntmps73
    go_wp2_with fail
    refine HR.out.mono ?_
    rintro e w1 ⟨rfl, _, hrow, hb⟩
    have HB1 : Hid (Below (W.heap.size + 2) W0 w1) := by have := HS0.out; rw [← this]; exact hb.out
    have HI1 : Hid (IsBy w1 (some ⟨W0.heap.size, 0, none⟩) bt 64) := by
      have := isBy_row hrow.out bt.length (Nat.le_refl _) 64 (by rw [HOk.out]; exact Nat.le_refl _)
      rwa [List.take_length] at this
    obtain ⟨⟨e0, e1, e2, e3, e4⟩, hbw⟩ := HF.out w1 HB1.out
    have HB8 : Hid (Calls _ _ _ w1 _) := HBk0.out w1 hbw
    clear HR hrow hb c0 c1 d0 HBk0 HF hbw
    go_wp2_with fail
    refine HB8.out.mono ?_
    rintro e w2 ⟨a2, c2, rfl, h2, b2⟩
    have HP : Hid (Calls _ _ _ w2 _) := byPrefix_any (some ⟨W0.heap.size, 0, none⟩) bt 64 a2 pb c2 w2 (HI1.out.below b2.out) h2.out
    have HE : Hid (Below W.heap.size W w2) := (HB0.out.trans (HB1.out.mono (by omega))).trans (b2.out.mono (by have := HB1.out.size; have := HS0.out; omega))
    rw [HOk.out] at HP
    clear HI1 HB8 h2 b2 HB1 e0 e1 e2 e3 e4
    go_wp2_with fail
    refine HP.out.mono ?_
    rintro e w3 ⟨rfl, rfl⟩
    go_wp2
    go_ret
    exact ⟨by rw [HH.out]; rfl, HE.out⟩
end
end Go.Proofs.YtikcidlaamgakaaGreatDoor
