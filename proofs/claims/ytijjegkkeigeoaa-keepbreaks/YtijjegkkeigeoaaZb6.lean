/-
  The contracts of lay and Format of an area that has nothing.
-/
import Derived.Test.YtijjegkkeigeoaaZb5
namespace Go.Proofs.Ytijjegkkeigeoaa
set_option linter.unusedVariables false
set_option linter.unusedSimpArgs false
set_option maxRecDepth 100000
open Go.RowKit Go.Lib
section
variable {w W : World} {p nb sb : Nat} {cv : Value} {n : Nat} {D : Dk}
/-- A piece's box beside an area's. -/
theorem box_facts (W : World) (X Y : Array Value) (t t' : TypeId) : ∀ U, Below (W.heap.size + 2) ((W.alloc (.cells X t)).alloc (.cells Y t')) U → U.heap[W.heap.size]? = some (.cells X t (0, 0)) ∧ U.heap[W.heap.size + 1]? = some (.cells Y t' (0, 0)) ∧ Below W.heap.size W U := by
  intro U hU
  obtain ⟨h1, h2, h3⟩ := two_new W (.cells X t) (.cells Y t')
  have hs : ((W.alloc (.cells X t)).alloc (.cells Y t')).heap.size = W.heap.size + 2 := by simp
  exact ⟨(hU.block _ (by omega)).trans h1, (hU.block _ (by omega)).trans h2, h3.trans (hU.mono (by omega))⟩
/-- A piece's box. -/
theorem box_fact1 (W : World) (X : Array Value) (t : TypeId) : ∀ U, Below (W.heap.size + 1) (W.alloc (.cells X t)) U → U.heap[W.heap.size]? = some (.cells X t (0, 0)) ∧ Below W.heap.size W U := by
  intro U hU
  have hs : (W.alloc (.cells X t)).heap.size = W.heap.size + 1 := by simp
  exact ⟨(hU.block _ (by omega)).trans (new_heap W _), ((Below.refl _ W).alloc (Nat.le_refl _) (.cells X t)).trans (hU.mono (by omega))⟩
set_option maxHeartbeats 2000000 in
/-- A piece as it is written. -/
theorem pcBlock_any (x : Pm) (hx : IsBy W x.a x.q.byt x.cap) (hxa : x.cap = 0 ∨ x.a ≠ none) (hl : x.q.byt.length ≤ 60) (hnum : x.q.num < 256) (hsit : x.q.sit < 65536) :
    Calls Try.prog 76 #[.agg x.cells.toArray] W fun e w' => ∃ v', e = .returned v' ∧ Hid (ByRow w' (W.heap.size + 1) v' (pcB x.q)) ∧ Hid (Below W.heap.size W w') := by
  obtain ⟨at_, ⟨num, sit, fst, byt⟩, ad, cap⟩ := x
  simp only at hx hxa hl hnum hsit
  simp only [Pm.cells]
  obtain ⟨W0, hW0⟩ : ∃ W0, W.alloc (.cells #[.int .i64 (at_ : Int), .int .i64 (num : Int), .int .i64 (sit : Int), .bool fst, .slice ad byt.length cap] 106) = W0 := ⟨_, rfl⟩
  have hbx := box_fact1 W #[.int .i64 (at_ : Int), .int .i64 (num : Int), .int .i64 (sit : Int), .bool fst, .slice ad byt.length cap] 106
  have hs0 : W0.heap.size = W.heap.size + 1 := by rw [← hW0]; simp
  rw [hW0] at hbx
  have HS0 : Hid (W0.heap.size = W.heap.size + 1) := hs0
  have HF : Hid (∀ U, Below (W.heap.size + 1) W0 U → (U.cell? ⟨W.heap.size, 1, none⟩ = some (.int .i64 (num : Int)) ∧ U.cell? ⟨W.heap.size, 2, none⟩ = some (.int .i64 (sit : Int)) ∧ U.cell? ⟨W.heap.size, 3, none⟩ = some (.bool fst) ∧ U.cell? ⟨W.heap.size, 4, none⟩ = some (.slice ad byt.length cap)) ∧ IsBy U ad byt cap ∧ Below W.heap.size W U) := fun U hU => by
    obtain ⟨h2, h3⟩ := hbx U hU
    exact ⟨⟨by simp [World.cell?, h2], by simp [World.cell?, h2], by simp [World.cell?, h2], by simp [World.cell?, h2]⟩, hx.below h3, h3⟩
  obtain ⟨mb, hmb⟩ : ∃ mb : Nat, byt.length + (if fst = true then 128 else 0) = mb := ⟨_, rfl⟩
  have hmb1 : mb < 256 := by rw [← hmb]; split <;> omega
  have HAdd : Hid (∀ (U : World) (B : Nat), Below (W.heap.size + 1) W0 U → U.heap[B]? = some (.cells #[.int .u8 (num : Int)] 5 (0, 0)) → W.heap.size + 1 ≤ B → Calls Try.prog 41 #[.slice (some ⟨B, 0, none⟩) 1 1, .int .i64 (sit : Int)] U fun e w' => ∃ v', e = .returned v' ∧ Hid (ByRow w' (W.heap.size + 1) v' ([UInt8.ofNat num] ++ w2B sit)) ∧ Hid (Below (W.heap.size + 1) W0 w')) := fun U B hU hB hlo => by
    have hrow : ByRow U (W.heap.size + 1) (.slice (some ⟨B, 0, none⟩) 1 1) [UInt8.ofNat num] := by
      refine ⟨rfl, .inr ⟨B, 1, _, rfl, hlo, hB, Nat.le_refl _, by unfold maxLen; omega, rfl, ?_⟩⟩
      simp [byC]
      omega
    have := hU.size
    refine (addWord_any (W.heap.size + 1) _ [UInt8.ofNat num] sit U hrow (by omega) (by simp) hsit).mono ?_
    rintro e w' ⟨v', rfl, h1, h2, _, _⟩
    exact ⟨v', rfl, h1, hU.trans h2.out⟩
  have HPc : Hid (pcB ⟨num, sit, fst, byt⟩ = (([UInt8.ofNat num] ++ w2B sit) ++ [UInt8.ofNat mb]) ++ byt) := by
    unfold Hid pcB
    rw [← hmb]
  have hxl : (byt.length : Int) ≤ 60 := by omega
  have hx0 : (0 : Int) ≤ byt.length := by omega
  have n0 : (0 : Int) ≤ num := by omega
  have n1 : (num : Int) < 256 := by omega
  have t0 : (0 : Int) ≤ sit := by omega
  have t1 : (sit : Int) < 65536 := by omega
  have hwl : IntKind.u8.wrap (byt.length : Int) = (byt.length : Int) := by rw [IntKind.wrap_u8]; omega
  have hwn : IntKind.u8.wrap (num : Int) = (num : Int) := by rw [IntKind.wrap_u8]; omega
  have hor := or_mark byt.length (by omega)
  obtain ⟨ol, hol⟩ : ∃ ol : Nat, byt.length + 128 = ol := ⟨_, rfl⟩
  rw [hol] at hor
  obtain ⟨⟨d1, d2, d3, d4⟩, _⟩ := HF.out W0 (Below.refl _ _)
  have HC : Hid (cap = 0 ∨ ad ≠ none) := hxa
  have HL : Hid (byt.length ≤ 60) := hl
  have hfm : (if fst = true then ol else byt.length) = mb := by rw [← hmb, ← hol]; cases fst <;> rfl
  obtain ⟨pc, hpc⟩ : ∃ pc, pcB ⟨num, sit, fst, byt⟩ = pc := ⟨_, rfl⟩
  rw [hpc] at HPc
  simp only [hpc]
  clear hx hbx hxa hl hpc hmb hol hs0
  have HMb : Hid (mb < 256 ∧ byt.length ≤ 60) := ⟨hmb1, HL.out⟩
  have hlt0 : W.heap.size < W0.heap.size := by rw [HS0.out]; omega
  have HFm : Hid ((if fst = true then ol else byt.length) = mb) := hfm
  clear hfm hmb1
  cases fst
  all_goals
    have hfm' := HFm.out
    simp only [if_true, Bool.false_eq_true, if_false] at hfm'
    rw [← hfm'] at HPc HMb
    clear hfm' HFm
  · go_enter Try.func76, Try.ntmps76
    go_upto_region 4 with fail
    obtain ⟨W2, hW2⟩ : ∃ W2, W0.alloc (.cells #[.int .u8 (num : Int)] 5) = W2 := ⟨_, rfl⟩
    have hb2 : Below (W.heap.size + 1) W0 W2 := by rw [← hW2]; exact (Below.refl _ W0).alloc (by rw [HS0.out]; exact Nat.le_refl _) _
    have hr2 := new_heap W0 (.cells #[.int .u8 (num : Int)] 5)
    rw [hW2] at hr2
    obtain ⟨⟨_, e2, _, _⟩, _⟩ := HF.out W2 hb2
    have HA2 : Hid (Calls _ _ _ W2 _) := HAdd.out W2 W0.heap.size hb2 hr2 (by rw [HS0.out]; exact Nat.le_refl _)
    clear hb2 hr2 HAdd
    go_wp2_with fail
    refine HA2.out.mono ?_
    rintro e w3 ⟨v3, rfl, hr3, hb3⟩
    obtain ⟨av3, cv3, rfl, _⟩ := hr3.out.isBy
    have hl3 : ([UInt8.ofNat num] ++ w2B sit).length = 3 := by simp [w2B]
    rw [hl3]
    have hb4 : Below (W.heap.size + 1) W0 (w3.alloc (.cells #[.int .u8 (byt.length : Int)] 5)) := hb3.out.alloc (by have := hb3.out.size; rw [HS0.out] at this; exact this) _
    have HR4 : Hid (ByRow (w3.alloc (.cells #[.int .u8 (byt.length : Int)] 5)) (W.heap.size + 1) (.slice av3 3 cv3) ([UInt8.ofNat num] ++ w2B sit)) := by
      have := hr3.out.below ((Below.refl _ w3).alloc (Nat.le_refl _) (.cells #[.int .u8 (byt.length : Int)] 5))
      rw [hl3] at this
      exact this
    have HM4 : Hid (IsBy (w3.alloc (.cells #[.int .u8 (byt.length : Int)] 5)) (some ⟨w3.heap.size, 0, none⟩) [UInt8.ofNat (byt.length)] 1) := by
      have := isBy_new w3 [UInt8.ofNat (byt.length)]
      rw [show (byC [UInt8.ofNat (byt.length)]).toArray = #[.int .u8 (byt.length : Int)] by
        have := HMb.out.1
        simp [byC]
        omega] at this
      exact this
    have hsz : W.heap.size + 1 ≤ (w3.alloc (.cells #[.int .u8 (byt.length : Int)] 5)).heap.size := by have := hb4.size; rw [HS0.out] at this; exact this
    have HB4 : Hid (Below (W.heap.size + 1) W0 (w3.alloc (.cells #[.int .u8 (byt.length : Int)] 5))) := hb4
    have HSZ : Hid (W.heap.size + 1 ≤ (w3.alloc (.cells #[.int .u8 (byt.length : Int)] 5)).heap.size) := hsz
    clear HA2 hr3 hb3 hb4 hsz hl3
    go_upto_region 5 with (at_builtin; refine wpList_appB rfl (.tmp 19) (.tmp 21) rfl (W.heap.size + 1) (.slice av3 3 cv3) ([UInt8.ofNat num] ++ w2B sit) (some ⟨w3.heap.size, 0, none⟩) [UInt8.ofNat (byt.length)] 1 1 (by rfl) (by rfl) rfl HR4.out HM4.out (.inr (by simp)) HSZ.out (by simp [w2B]) ?_; intro v5 w5 hr5 hb5 _ _)
    obtain ⟨av5, cv5, rfl, _⟩ := hr5.isBy
    have hl5 : (([UInt8.ofNat num] ++ w2B sit) ++ [UInt8.ofNat (byt.length)]).length = 4 := by simp [w2B]
    rw [hl5] at hr5 ⊢
    have HR5 : Hid (ByRow w5 (W.heap.size + 1) (.slice av5 4 cv5) (([UInt8.ofNat num] ++ w2B sit) ++ [UInt8.ofNat (byt.length)])) := hr5
    have HB5 : Hid (Below (W.heap.size + 1) W0 w5) := HB4.out.trans hb5
    obtain ⟨⟨_, _, _, e4⟩, _⟩ := HF.out w5 HB5.out
    clear HR4 HM4 HB4 HSZ hr5 hb5 hl5 d1 d2 d3 d4
    go_wp2_with (at_builtin; refine wpList_appB rfl (.tmp 23) (.tmp 25) rfl (W.heap.size + 1) (.slice av5 4 cv5) (([UInt8.ofNat num] ++ w2B sit) ++ [UInt8.ofNat (byt.length)]) ad byt byt.length cap (by rfl) (by rfl) rfl HR5.out (HF.out w5 HB5.out).2.1 HC.out (by have := HB5.out.size; rw [HS0.out] at this; exact this) (by simp [w2B]; have := HMb.out.2; omega) ?_; intro v6 w6 hr6 hb6 _ _)
    have H6 : Hid (ByRow w6 (W.heap.size + 1) v6 pc ∧ Below W.heap.size W w6) := ⟨by rw [HPc.out]; exact hr6, (HF.out w6 (HB5.out.trans hb6)).2.2⟩
    clear HR5 HB5 hr6 hb6 e4
    go_wp2
    go_ret
    exact ⟨_, rfl, H6.out.1, H6.out.2⟩
  · go_enter Try.func76, Try.ntmps76
    go_upto_region 4 with fail
    obtain ⟨W2, hW2⟩ : ∃ W2, W0.alloc (.cells #[.int .u8 (num : Int)] 5) = W2 := ⟨_, rfl⟩
    have hb2 : Below (W.heap.size + 1) W0 W2 := by rw [← hW2]; exact (Below.refl _ W0).alloc (by rw [HS0.out]; exact Nat.le_refl _) _
    have hr2 := new_heap W0 (.cells #[.int .u8 (num : Int)] 5)
    rw [hW2] at hr2
    obtain ⟨⟨_, e2, _, _⟩, _⟩ := HF.out W2 hb2
    have HA2 : Hid (Calls _ _ _ W2 _) := HAdd.out W2 W0.heap.size hb2 hr2 (by rw [HS0.out]; exact Nat.le_refl _)
    clear hb2 hr2 HAdd
    go_wp2_with fail
    refine HA2.out.mono ?_
    rintro e w3 ⟨v3, rfl, hr3, hb3⟩
    obtain ⟨av3, cv3, rfl, _⟩ := hr3.out.isBy
    have hl3 : ([UInt8.ofNat num] ++ w2B sit).length = 3 := by simp [w2B]
    rw [hl3]
    have hb4 : Below (W.heap.size + 1) W0 (w3.alloc (.cells #[.int .u8 (ol : Int)] 5)) := hb3.out.alloc (by have := hb3.out.size; rw [HS0.out] at this; exact this) _
    have HR4 : Hid (ByRow (w3.alloc (.cells #[.int .u8 (ol : Int)] 5)) (W.heap.size + 1) (.slice av3 3 cv3) ([UInt8.ofNat num] ++ w2B sit)) := by
      have := hr3.out.below ((Below.refl _ w3).alloc (Nat.le_refl _) (.cells #[.int .u8 (ol : Int)] 5))
      rw [hl3] at this
      exact this
    have HM4 : Hid (IsBy (w3.alloc (.cells #[.int .u8 (ol : Int)] 5)) (some ⟨w3.heap.size, 0, none⟩) [UInt8.ofNat (ol)] 1) := by
      have := isBy_new w3 [UInt8.ofNat (ol)]
      rw [show (byC [UInt8.ofNat (ol)]).toArray = #[.int .u8 (ol : Int)] by
        have := HMb.out.1
        simp [byC]
        omega] at this
      exact this
    have hsz : W.heap.size + 1 ≤ (w3.alloc (.cells #[.int .u8 (ol : Int)] 5)).heap.size := by have := hb4.size; rw [HS0.out] at this; exact this
    have HB4 : Hid (Below (W.heap.size + 1) W0 (w3.alloc (.cells #[.int .u8 (ol : Int)] 5))) := hb4
    have HSZ : Hid (W.heap.size + 1 ≤ (w3.alloc (.cells #[.int .u8 (ol : Int)] 5)).heap.size) := hsz
    clear HA2 hr3 hb3 hb4 hsz hl3
    go_upto_region 5 with (at_builtin; refine wpList_appB rfl (.tmp 19) (.tmp 21) rfl (W.heap.size + 1) (.slice av3 3 cv3) ([UInt8.ofNat num] ++ w2B sit) (some ⟨w3.heap.size, 0, none⟩) [UInt8.ofNat (ol)] 1 1 (by rfl) (by rfl) rfl HR4.out HM4.out (.inr (by simp)) HSZ.out (by simp [w2B]) ?_; intro v5 w5 hr5 hb5 _ _)
    obtain ⟨av5, cv5, rfl, _⟩ := hr5.isBy
    have hl5 : (([UInt8.ofNat num] ++ w2B sit) ++ [UInt8.ofNat (ol)]).length = 4 := by simp [w2B]
    rw [hl5] at hr5 ⊢
    have HR5 : Hid (ByRow w5 (W.heap.size + 1) (.slice av5 4 cv5) (([UInt8.ofNat num] ++ w2B sit) ++ [UInt8.ofNat (ol)])) := hr5
    have HB5 : Hid (Below (W.heap.size + 1) W0 w5) := HB4.out.trans hb5
    obtain ⟨⟨_, _, _, e4⟩, _⟩ := HF.out w5 HB5.out
    clear HR4 HM4 HB4 HSZ hr5 hb5 hl5 d1 d2 d3 d4
    go_wp2_with (at_builtin; refine wpList_appB rfl (.tmp 23) (.tmp 25) rfl (W.heap.size + 1) (.slice av5 4 cv5) (([UInt8.ofNat num] ++ w2B sit) ++ [UInt8.ofNat (ol)]) ad byt byt.length cap (by rfl) (by rfl) rfl HR5.out (HF.out w5 HB5.out).2.1 HC.out (by have := HB5.out.size; rw [HS0.out] at this; exact this) (by simp [w2B]; have := HMb.out.2; omega) ?_; intro v6 w6 hr6 hb6 _ _)
    have H6 : Hid (ByRow w6 (W.heap.size + 1) v6 pc ∧ Below W.heap.size W w6) := ⟨by rw [HPc.out]; exact hr6, (HF.out w6 (HB5.out.trans hb6)).2.2⟩
    clear HR5 HB5 hr6 hb6 e4
    go_wp2
    go_ret
    exact ⟨_, rfl, H6.out.1, H6.out.2⟩
/-- A piece is written into its block. -/
theorem writePieceA (a : Tn w W p nb sb cv n D) (fr mn : Nat) (x : Pm) (hx : IsBy W x.a x.q.byt x.cap) (hxa : x.cap = 0 ∨ x.a ≠ none) (hi : fr + x.at_ < n) (hn : n ≤ 200) (hl : x.q.byt.length ≤ 60) (hnum : x.q.num < 256) (hsit : x.q.sit < 65536) (hs : D.lim 1000000) :
    Calls Try.prog 65 #[.agg #[.pointer (some ⟨p, 0, none⟩), .int .i64 (fr : Int), .int .i64 (mn : Int)], .agg x.cells.toArray] W fun e w' => e = .returned (enE (wrR D (fr + x.at_) (pcB x.q)).1) ∧ ∃ cv', Hid (Tn w w' p nb sb cv' n (wrR D (fr + x.at_) (pcB x.q)).2) ∧ Hid (Keeps w.heap.size dkT W w') := by
  obtain ⟨W0, hW0⟩ : ∃ W0, (W.alloc (.cells #[.pointer (some ⟨p, 0, none⟩), .int .i64 (fr : Int), .int .i64 (mn : Int)] 77)).alloc (.cells x.cells.toArray 106) = W0 := ⟨_, rfl⟩
  have hbx := box_facts W #[.pointer (some ⟨p, 0, none⟩), .int .i64 (fr : Int), .int .i64 (mn : Int)] x.cells.toArray 77 106
  have hs0 : W0.heap.size = W.heap.size + 2 := by rw [← hW0]; simp
  rw [hW0] at hbx
  have HF : Hid (∀ U, Below (W.heap.size + 2) W0 U → (U.cell? ⟨W.heap.size, 0, none⟩ = some (.pointer (some ⟨p, 0, none⟩)) ∧ U.cell? ⟨W.heap.size, 1, none⟩ = some (.int .i64 (fr : Int))) ∧ U.cell? ⟨W.heap.size + 1, 0, none⟩ = some (.int .i64 (x.at_ : Int)) ∧ (Instr.loadAt 106 (.pointer (some ⟨W.heap.size + 1, 0, none⟩))).run Try.prog U = .ok (.agg x.cells.toArray) U ∧ Tn w U p nb sb cv n D ∧ IsBy U x.a x.q.byt x.cap ∧ Below W.heap.size W U) := fun U hU => by
    obtain ⟨h1, h2, h3⟩ := hbx U hU
    exact ⟨⟨by simp [World.cell?, h1], by simp [World.cell?, h1]⟩, by simp [World.cell?, h2, Pm.cells], load_pm x (range0 h2), a.below h3, hx.below h3, h3⟩
  have HBk : Hid (∀ U, Below (W.heap.size + 2) W0 U → Calls Try.prog 76 #[.agg x.cells.toArray] U fun e w' => ∃ ad cp, e = .returned (.slice ad (pcB x.q).length cp) ∧ Hid (IsBy w' ad (pcB x.q) cp) ∧ Hid (Below (W.heap.size + 2) W0 w')) := fun U hU => by
    refine (pcBlock_any x (HF.out U hU).2.2.2.2.1 hxa hl hnum hsit).mono ?_
    rintro e w' ⟨v', rfl, h1, h2⟩
    obtain ⟨av, ac, rfl, h3⟩ := h1.out.isBy
    exact ⟨av, ac, rfl, h3, hU.trans (h2.out.mono (by have := hU.size; omega))⟩
  have HWr : Hid (∀ (U : World) (a' : Option Addr) (c' : Nat), Below (W.heap.size + 2) W0 U → IsBy U a' (pcB x.q) c' → Calls Try.prog 16 #[.pointer (some ⟨p, 0, none⟩), .int .i64 ((fr : Int) + (x.at_ : Int)), .slice a' (pcB x.q).length c'] U fun e w' => e = .returned (enE (wrR D (fr + x.at_) (pcB x.q)).1) ∧ ∃ cv', Hid (Tn w w' p nb sb cv' n (wrR D (fr + x.at_) (pcB x.q)).2) ∧ Hid (Keeps w.heap.size dkT W w')) := fun U a' c' hU hB => by
    obtain ⟨_, _, _, ht, _, hb⟩ := HF.out U hU
    have := tn_wrR ht (fr + x.at_) a' (pcB x.q) c' hi (by rw [pcB_length]; omega) hn hs hB
    rw [show ((fr + x.at_ : Nat) : Int) = (fr : Int) + (x.at_ : Int) by omega] at this
    refine this.mono ?_
    rintro e w' ⟨rfl, cv', h1, h2⟩
    exact ⟨rfl, cv', h1, (Keeps.of_below hb).trans h2.out⟩
  have f0 : (0 : Int) ≤ fr := by omega
  have a0 : (0 : Int) ≤ x.at_ := by omega
  have fa : (fr : Int) + x.at_ < 200 := by omega
  have hlt0 : W.heap.size < W0.heap.size := by omega
  have hlt1 : W.heap.size + 1 < W0.heap.size := by omega
  generalize hR : wrR D (fr + x.at_) (pcB x.q) = R at *
  generalize pcB x.q = pb at *
  generalize hxc : x.cells.toArray = xc at *
  generalize x.at_ = at_ at *
  clear a hx hbx hxa hi hl hnum hsit hs hs0 hn hR
  go_enter Try.func65, Try.ntmps65
  go_upto_region 1 with fail
  have HT : Hid (Below (W.heap.size + 2) W0 W0.drew) := ⟨rfl, rfl, rfl, Nat.le_refl _, fun _ _ => rfl⟩
  refine wp_region_drawn (by kernel_rfl) ?_
  generalize W0.drew = v2 at *
  refine wpAny_take (i := 0) (v := .pointer (some ⟨W.heap.size, 0, none⟩)) rfl (by kernel_rfl) (by kernel_rfl) (by kernel_rfl) (fun _ _ _ h => h) (Or.inl ⟨by rfl, fun w => by go_simp⟩) ?_
  simp only [Act.put, List.getElem_toArray, List.getElem_cons_succ, List.getElem_cons_zero, List.setIfInBounds_toArray, List.set_cons_zero, List.set_cons_succ]
  refine wpAny_take (i := 2) (v := .pointer (some ⟨W.heap.size, 1, none⟩)) rfl (by kernel_rfl) (by kernel_rfl) (by kernel_rfl) (fun _ _ _ h => h) (Or.inl ⟨by rfl, fun w => by go_simp⟩) ?_
  simp only [Act.put, List.getElem_toArray, List.getElem_cons_succ, List.getElem_cons_zero, List.setIfInBounds_toArray, List.set_cons_zero, List.set_cons_succ]
  refine wpAny_take (i := 4) (v := .pointer (some ⟨W.heap.size + 1, 0, none⟩)) rfl (by kernel_rfl) (by kernel_rfl) (by kernel_rfl) (fun _ _ _ h => h) (Or.inl ⟨by rfl, fun w => by go_simp⟩) ?_
  simp only [Act.put, List.getElem_toArray, List.getElem_cons_succ, List.getElem_cons_zero, List.setIfInBounds_toArray, List.set_cons_zero, List.set_cons_succ]
  refine any_of_L (g := 9) (T := fun u => Below (W.heap.size + 2) W0 u) _ _ _ _ ?_
  refine L_take (i := 1) (v := .pointer (some ⟨p, 0, none⟩)) rfl rfl (by kernel_rfl) (by decide) (by kernel_rfl) (by kernel_rfl) (by kernel_rfl) (by kernel_rfl) (fun _ _ _ h => h) (Or.inl ⟨by rfl, fun w' hw' => by have c0 := (HF.out w' hw').1.1; clear hw'; go_simp⟩) HT.out ?_
  simp only [Act.put, List.getElem_toArray, List.getElem_cons_succ, List.getElem_cons_zero, List.setIfInBounds_toArray, List.set_cons_zero, List.set_cons_succ]
  refine L_take2 (i := 3) (m := 6) (v := .int .i64 (fr : Int)) rfl rfl rfl (by kernel_rfl) (by kernel_rfl) (by decide) (by kernel_rfl) (by kernel_rfl) (by kernel_rfl) (by kernel_rfl) (by kernel_rfl) (fun _ _ _ h => h) (Or.inl ⟨by rfl, fun w' hw' => by have c0 := (HF.out w' hw').1.2; clear hw'; go_simp⟩) HT.out ?_
  simp only [Act.put, List.getElem_toArray, List.getElem_cons_succ, List.getElem_cons_zero, List.setIfInBounds_toArray, List.set_cons_zero, List.set_cons_succ]
  refine L_take2 (i := 5) (m := 6) (v := .int .i64 (at_ : Int)) rfl rfl rfl (by kernel_rfl) (by kernel_rfl) (by decide) (by kernel_rfl) (by kernel_rfl) (by kernel_rfl) (by kernel_rfl) (by kernel_rfl) (fun _ _ _ h => h) (Or.inl ⟨by rfl, fun w' hw' => by have c0 := (HF.out w' hw').2.1; clear hw'; go_simp⟩) HT.out ?_
  simp only [Act.put, List.getElem_toArray, List.getElem_cons_succ, List.getElem_cons_zero, List.setIfInBounds_toArray, List.set_cons_zero, List.set_cons_succ]
  refine L_take (i := 6) (v := .int .i64 ((fr : Int) + (at_ : Int))) rfl rfl (by kernel_rfl) (by decide) (by kernel_rfl) (by kernel_rfl) (by kernel_rfl) (by kernel_rfl) (fun _ _ _ h => h) (Or.inl ⟨by rfl, fun w' hw' => by clear hw'; have hwr : IntKind.i64.wrap ((fr : Int) + (at_ : Int)) = (fr : Int) + (at_ : Int) := (by rw [IntKind.wrap_i64]; omega); go_simp⟩) HT.out ?_
  simp only [Act.put, List.getElem_toArray, List.getElem_cons_succ, List.getElem_cons_zero, List.setIfInBounds_toArray, List.set_cons_zero, List.set_cons_succ]
  refine L_takeC [9, 8] (i := 7) (v := .agg xc) rfl (by kernel_rfl) (by kernel_rfl) (by decide) (by kernel_rfl) (by kernel_rfl) (by kernel_rfl) (by kernel_rfl) (fun _ _ _ h => h) ?_ HT.out ?_
  · refine yields_load_run (by rfl) 106 (.tmp 3) (by rfl) (.pointer (some ⟨W.heap.size + 1, 0, none⟩)) (by rfl) ?_
    exact fun w' hw' => (HF.out w' hw').2.2.1
  simp only [Act.put, List.getElem_toArray, List.getElem_cons_succ, List.getElem_cons_zero, List.setIfInBounds_toArray, List.set_cons_zero, List.set_cons_succ]
  refine L_one (i := 8) (by kernel_rfl) ?_
  have HB8 : Hid (Calls _ _ _ v2 _) := HBk.out v2 HT.out
  refine wpOp_step rfl ?_
  intro K hK
  rw [if_pos (by rfl)]
  have hK' : Shut (∀ a w, _ → K a w) := hK
  clear hK
  go_wp2_with fail
  refine HB8.out.mono ?_
  rintro e w6 ⟨a6, c6, rfl, h6, b6⟩
  have HW6 : Hid (Calls _ _ _ w6 _) := HWr.out w6 a6 c6 b6.out h6.out
  refine hK'.out _ _ ⟨b6.out, ?_⟩
  clear hK' K h6 b6 HWr HT HB8 HBk
  try simp only [Act.put, List.getElem_toArray, List.getElem_cons_succ, List.getElem_cons_zero, List.setIfInBounds_toArray, List.set_cons_zero, List.set_cons_succ]
  refine L_go (by kernel_rfl) (by kernel_rfl) ?_
  refine wpOp_step rfl ?_
  intro K hK
  rw [if_pos (by rfl)]
  have hK' : Shut (∀ a w, _ → K a w) := hK
  clear hK
  go_wp2_with fail
  refine HW6.out.mono ?_
  rintro e w7 ⟨rfl, cv7, h7, k7⟩
  refine hK'.out _ _ ?_
  clear hK' K
  try simp only [Act.put, List.getElem_toArray, List.getElem_cons_succ, List.getElem_cons_zero, List.setIfInBounds_toArray, List.set_cons_zero, List.set_cons_succ]
  refine any_one (i := 10) (by kernel_rfl) ?_
  refine wpOp_step rfl ?_
  intro K hK
  rw [if_pos (by rfl)]
  have hK' : Shut (∀ a w, _ → K a w) := hK
  clear hK
  go_wp2_with fail
  refine hK'.out _ _ ?_
  clear hK' K
  refine wpAny_done (by kernel_rfl) ?_ _
  go_wp2
  go_ret
  exact ⟨rfl, cv7, h7, k7⟩
/-- Whether bytes stand at a block's beginning. -/
def hasP (D : Dk) (i : Nat) (l : List UInt8) : Bool := !(D.now.getD i bk0).torn && begB (D.now.getD i bk0).byt l
set_option maxHeartbeats 1000000 in
/-- Whether a piece stands in its block. -/
theorem hasPiece_any (a : Tn w W p nb sb cv n D) (fr mn : Nat) (x : Pm) (hx : IsBy W x.a x.q.byt x.cap) (hxa : x.cap = 0 ∨ x.a ≠ none) (hi : fr + x.at_ < n) (hn : n ≤ 200) (hl : x.q.byt.length ≤ 60) (hnum : x.q.num < 256) (hsit : x.q.sit < 65536) :
    Calls Try.prog 67 #[.agg #[.pointer (some ⟨p, 0, none⟩), .int .i64 (fr : Int), .int .i64 (mn : Int)], .agg x.cells.toArray] W fun e w' => e = .returned (.bool (hasP D (fr + x.at_) (pcB x.q))) ∧ Hid (Below W.heap.size W w') := by
  have HBk0 : Hid (∀ U, Below W.heap.size W U → Calls Try.prog 76 #[.agg x.cells.toArray] U fun e w' => ∃ ad cp, e = .returned (.slice ad (pcB x.q).length cp) ∧ Hid (IsBy w' ad (pcB x.q) cp) ∧ Hid (Below U.heap.size U w')) := fun U hU => by
    refine (pcBlock_any x (hx.below hU) hxa hl hnum hsit).mono ?_
    rintro e w' ⟨v', rfl, h1, h2⟩
    obtain ⟨av, ac, rfl, h3⟩ := h1.out.isBy
    exact ⟨av, ac, rfl, h3, h2⟩
  obtain ⟨at_, ⟨num, sit, fst, byt⟩, ad, cap⟩ := x
  simp only at hx hxa hi hl hnum hsit
  simp only [Pm.cells] at HBk0 ⊢
  obtain ⟨W0, hW0⟩ : ∃ W0, (W.alloc (.cells #[.pointer (some ⟨p, 0, none⟩), .int .i64 (fr : Int), .int .i64 (mn : Int)] 77)).alloc (.cells #[.int .i64 (at_ : Int), .int .i64 (num : Int), .int .i64 (sit : Int), .bool fst, .slice ad byt.length cap] 106) = W0 := ⟨_, rfl⟩
  have hbx := box_facts W #[.pointer (some ⟨p, 0, none⟩), .int .i64 (fr : Int), .int .i64 (mn : Int)] #[.int .i64 (at_ : Int), .int .i64 (num : Int), .int .i64 (sit : Int), .bool fst, .slice ad byt.length cap] 77 106
  have hs0 : W0.heap.size = W.heap.size + 2 := by rw [← hW0]; simp
  rw [hW0] at hbx
  have HF : Hid (∀ U, Below (W.heap.size + 2) W0 U → (U.cell? ⟨W.heap.size + 1, 0, none⟩ = some (.int .i64 (at_ : Int)) ∧ U.cell? ⟨W.heap.size + 1, 1, none⟩ = some (.int .i64 (num : Int)) ∧ U.cell? ⟨W.heap.size + 1, 2, none⟩ = some (.int .i64 (sit : Int)) ∧ U.cell? ⟨W.heap.size + 1, 3, none⟩ = some (.bool fst) ∧ U.cell? ⟨W.heap.size + 1, 4, none⟩ = some (.slice ad byt.length cap)) ∧ Below W.heap.size W U) := fun U hU => by
    obtain ⟨h1, h2, h3⟩ := hbx U hU
    exact ⟨⟨by simp [World.cell?, h2], by simp [World.cell?, h2], by simp [World.cell?, h2], by simp [World.cell?, h2], by simp [World.cell?, h2]⟩, h3⟩
  obtain ⟨h1, h2, h3⟩ := hbx W0 (Below.refl _ _)
  have c0 : W0.cell? ⟨W.heap.size, 0, none⟩ = some (.pointer (some ⟨p, 0, none⟩)) := by simp [World.cell?, h1]
  have c1 : W0.cell? ⟨W.heap.size, 1, none⟩ = some (.int .i64 (fr : Int)) := by simp [World.cell?, h1]
  have d0 : W0.cell? ⟨W.heap.size + 1, 0, none⟩ = some (.int .i64 (at_ : Int)) := by simp [World.cell?, h2]
  have f0 : (0 : Int) ≤ fr := by omega
  have a0 : (0 : Int) ≤ at_ := by omega
  have fa : (fr : Int) + at_ < 200 := by omega
  have ef : ((fr + at_ : Nat) : Int) = (fr : Int) + (at_ : Int) := by omega
  have HB0 : Hid (Below W.heap.size W W0) := h3
  have HS0 : Hid (W0.heap.size = W.heap.size + 2) := hs0
  generalize pcB ⟨num, sit, fst, byt⟩ = pb at *
  by_cases ht : (D.now.getD (fr + at_) bk0).torn = true
  · have hR : Calls _ _ _ W0 _ := tn_readTorn (a.below h3) (fr + at_) hi ht
    rw [ef] at hR
    rw [enE_ne (by decide)] at hR
    have HR : Hid (Calls _ _ _ W0 _) := hR
    have HH : Hid (hasP D (fr + at_) pb = false) := by unfold Hid hasP; rw [ht]; rfl
    generalize hasP D (fr + at_) pb = hp at *
    clear a hx hbx hxa hi hl hnum hsit hs0 hn h1 h2 h3 ht hR ef HF HBk0
    go_enter Try.func67, Try.ntmps67
    go_wp2_with fail
    refine HR.out.mono ?_
    rintro e w1 ⟨rfl, _, hs⟩
    go_wp2
    go_ret
    exact ⟨by rw [HH.out]; rfl, HB0.out.trans (hs.out.below _)⟩
  · have htf : (D.now.getD (fr + at_) bk0).torn = false := by simpa using ht
    have hR : Calls _ _ _ W0 _ := tn_read (a.below h3) (fr + at_) hi htf
    rw [ef] at hR
    have HR : Hid (Calls _ _ _ W0 _) := hR
    have HH : Hid (hasP D (fr + at_) pb = begB (D.now.getD (fr + at_) bk0).byt pb) := by unfold Hid hasP; rw [htf]; rfl
    have HOk : Hid ((D.now.getD (fr + at_) bk0).byt.length = 64) := getD_ok a.1.ok.nowO (fr + at_)
    generalize hasP D (fr + at_) pb = hp at *
    generalize (D.now.getD (fr + at_) bk0).byt = bt at *
    clear a hx hbx hxa hi hl hnum hsit hs0 hn h1 h2 h3 ht htf hR ef
    go_enter Try.func67, Try.ntmps67
    go_wp2_with fail
    refine HR.out.mono ?_
    rintro e w1 ⟨rfl, _, hrow, hb⟩
    have HB1 : Hid (Below (W.heap.size + 2) W0 w1) := by have := HS0.out; rw [← this]; exact hb.out
    have HI1 : Hid (IsBy w1 (some ⟨W0.heap.size, 0, none⟩) bt 64) := by
      have := isBy_row hrow.out bt.length (Nat.le_refl _) 64 (by rw [HOk.out]; exact Nat.le_refl _)
      rwa [List.take_length] at this
    obtain ⟨⟨e0, e1, e2, e3, e4⟩, hbw⟩ := HF.out w1 HB1.out
    have HB8 : Hid (Calls _ _ _ w1 _) := HBk0.out w1 hbw
    clear HR hrow hb c0 c1 d0 HBk0 HF hbw
    go_wp2_with fail
    refine HB8.out.mono ?_
    rintro e w2 ⟨a2, c2, rfl, h2, b2⟩
    have HP : Hid (Calls _ _ _ w2 _) := byPrefix_any (some ⟨W0.heap.size, 0, none⟩) bt 64 a2 pb c2 w2 (HI1.out.below b2.out) h2.out
    have HE : Hid (Below W.heap.size W w2) := (HB0.out.trans (HB1.out.mono (by omega))).trans (b2.out.mono (by have := HB1.out.size; have := HS0.out; omega))
    rw [HOk.out] at HP
    clear HI1 HB8 h2 b2 HB1 e0 e1 e2 e3 e4
    go_wp2_with fail
    refine HP.out.mono ?_
    rintro e w3 ⟨rfl, rfl⟩
    go_wp2
    go_ret
    exact ⟨by rw [HH.out]; rfl, HE.out⟩
end
end Go.Proofs.Ytijjegkkeigeoaa

namespace Go.Proofs.Ytijjegkkeigeoaa
set_option linter.unusedVariables false
set_option linter.unusedSimpArgs false
set_option maxRecDepth 100000
open Go.RowKit Go.Lib
/-- Behind a head that is written. -/
def hdD (D : Dk) (fr mn since : Nat) : Dk := (D.flush.write fr (lhB mn since)).flush
/-- 'append(s, x)' where s is full: a new row. -/
theorem run_appFull (w : World) (ty : TypeId) (base : Nat) (b : Nat) (l : List UInt8) (g : Nat) (m : List UInt8) (cap : Nat) (hs : ∀ k (h : k < l.length), w.cell? ⟨b, k, none⟩ = some (.int .u8 (l[k]'h).toNat)) (hm : ∀ k (h : k < m.length), w.cell? ⟨g, k, none⟩ = some (.int .u8 (m[k]'h).toNat)) (h0 : 0 < m.length) (hb : base ≤ w.heap.size) (hlen : l.length + m.length ≤ 1000) (hfit : Builtin.nextslicecap (l.length + m.length) l.length * 1 ≤ 281474976710656) :
    ∃ v' w', (Builtin.append_ #[52, 52] ty #[.slice (some ⟨b, 0, none⟩) l.length l.length, .slice (some ⟨g, 0, none⟩) m.length cap]).run Try.prog w = .ok v' w' ∧ ByRow w' base v' (l ++ m) ∧ Below w.heap.size w w' ∧ v'.ownBlock = some w.heap.size := by
  obtain ⟨qi, hqi, hqz⟩ := u8_tinfo
  have h := run_append_grow (P := Try.prog) w 52 ty 5 qi (.int .u8 0) Try.underlying52 hqi hqz.1 ⟨b, 0, none⟩ l.length l.length (byC l) (by rw [byC_length, hqz.2.1]; omega) (fun j v hj => by
      have hjl : j < l.length := by
        have := (List.getElem?_eq_some_iff.1 hj).1
        rwa [byC_length] at this
      rw [Addr.add_mid, Nat.zero_add, hs j hjl]
      rw [byC_get l j hjl] at hj
      exact hj) ⟨g, 0, none⟩ m.length cap (byC m) (by rw [byC_length, hqz.2.1]; omega) (fun j v hj => by
      have hjl : j < m.length := by
        have := (List.getElem?_eq_some_iff.1 hj).1
        rwa [byC_length] at this
      rw [Addr.add_mid, Nat.zero_add, hm j hjl]
      rw [byC_get m j hjl] at hj
      exact hj) (by omega) (by omega) (by rw [hqz.2.2]; exact hfit)
  refine ⟨_, _, h, ?_, (show Below w.heap.size w w.drew from ⟨rfl, rfl, rfl, Nat.le_refl _, fun _ _ => rfl⟩).alloc (Nat.le_refl _) _, rfl⟩
  have hge := grownCap_ge w (l.length + m.length) l.length 5
  have hcm := grownCap_le_maxLen w (l.length + m.length) l.length 5 (by unfold maxLen; omega)
  unfold ByRow
  rw [List.length_append, byC_append]
  refine ⟨by rw [List.length_append, byC_length, byC_length]; omega, .inr ⟨w.heap.size, _, _, rfl, hb, new_heap w.drew _, hge, hcm, ?_, ?_⟩⟩
  · simp only [Array.size_append, List.size_toArray, size_zeroCells, byC_length, Value.cells, Array.size_singleton]
    simp
    omega
  · simp only [Array.toList_append, List.append_assoc]
    rw [← List.append_assoc, Nat.mul_one, ← byC_length l, ← byC_length m, ← List.length_append]
    exact List.take_left
theorem wpList_appFull {w : World} {ops : Array Oper} {rest : List Oper} {o : Oper} {a : Act} {Q : Exit → Act → World → Prop} (hgd : o.guard = none) (d s : Operand) (ho : o.op = .call { callee := .builtin .append, args := #[d, s], argTypes := #[52, 52] })
    (base b : Nat) (l : List UInt8) (g : Nat) (m : List UInt8) (k q cap : Nat) (hd : a.eval d = .slice (some ⟨b, 0, none⟩) q q) (he : a.eval s = .slice (some ⟨g, 0, none⟩) k cap) (hq : l.length = q) (hk : m.length = k) (hs : ∀ k (h : k < l.length), w.cell? ⟨b, k, none⟩ = some (.int .u8 (l[k]'h).toNat)) (hm : ∀ k (h : k < m.length), w.cell? ⟨g, k, none⟩ = some (.int .u8 (m[k]'h).toNat)) (h0 : 0 < m.length) (hb : base ≤ w.heap.size) (hlen : l.length + m.length ≤ 1000) (hfit : Builtin.nextslicecap (l.length + m.length) l.length * 1 ≤ 281474976710656)
    (h : ∀ v' w', ByRow w' base v' (l ++ m) → Below w.heap.size w w' → v'.ownBlock = some w.heap.size → wpList Try.prog ops Q rest (a.put o.dst v') w') : wpList Try.prog ops Q (o :: rest) a w := by
  subst hk
  subst hq
  obtain ⟨v', w', h1, h2, h3, h4⟩ := run_appFull w o.type base b l g m cap hs hm h0 hb hlen hfit
  exact wpList_append_run hgd d s 52 52 ho _ _ hd he h1 (h v' w' h2 h3 h4)

section
variable {w W : World} {p nb sb : Nat} {cv : Value} {n : Nat} {D : Dk}
set_option maxHeartbeats 2000000 in
theorem writeLHead_ok (a : Tn w W p nb sb cv n D) (fr mn since : Nat) (hf : D.fail < 0) (hi : fr < n) (hn : n ≤ 200) (hm : mn ≤ 200) (hsn : since < 65536) (hs : D.lim 999000) :
    Calls Try.prog 30 #[.agg #[.pointer (some ⟨p, 0, none⟩), .int .i64 (fr : Int), .int .i64 (mn : Int)], .int .i64 (since : Int)] W fun e w' => e = .returned .nilIface ∧ ∃ cv', Hid (Tn w w' p nb sb cv' n (hdD D fr mn since)) ∧ Hid (Keeps w.heap.size dkT W w') := by
  obtain ⟨W1, hW1⟩ : ∃ W1, W.alloc (.cells #[.pointer (some ⟨p, 0, none⟩), .int .i64 (fr : Int), .int .i64 (mn : Int)] 77) = W1 := ⟨_, rfl⟩
  have hB : Below W.heap.size W W1 := by rw [← hW1]; exact (Below.refl _ W).alloc (Nat.le_refl _) _
  have hr := new_heap W (.cells #[.pointer (some ⟨p, 0, none⟩), .int .i64 (fr : Int), .int .i64 (mn : Int)] 77)
  rw [hW1] at hr
  have HF : Hid (∀ U : World, U.heap[W.heap.size]? = some (.cells #[.pointer (some ⟨p, 0, none⟩), .int .i64 (fr : Int), .int .i64 (mn : Int)] 77 (0, 0)) → U.cell? ⟨W.heap.size, 0, none⟩ = some (.pointer (some ⟨p, 0, none⟩)) ∧ U.cell? ⟨W.heap.size, 1, none⟩ = some (.int .i64 (fr : Int)) ∧ U.cell? ⟨W.heap.size, 2, none⟩ = some (.int .i64 (mn : Int))) := fun U h => ⟨by simp [World.cell?, h], by simp [World.cell?, h], by simp [World.cell?, h]⟩
  obtain ⟨c0, _, _⟩ := HF.out W1 hr
  have HFl : Hid (Calls _ _ _ W1 _) := tn_flush (a.below hB) (failing_neg hf) (by have := hs.s; omega)
  have HH : Hid (W1.heap[W.heap.size]? = some (.cells #[.pointer (some ⟨p, 0, none⟩), .int .i64 (fr : Int), .int .i64 (mn : Int)] 77 (0, 0)) ∧ Below W.heap.size W W1) := ⟨hr, hB⟩
  have hf1 : D.flush.fail < 0 := hf
  have hl1 : D.flush.lim 999001 := by
    have := flR_lim hs
    unfold flR at this
    rw [if_neg (by rw [failing_neg hf]; decide)] at this
    exact this
  have hf2 : (D.flush.write fr (lhB mn since)).fail < 0 := hf
  have hl2 : (D.flush.write fr (lhB mn since)).lim 999002 := by
    have := wrR_lim hl1 fr (lhB mn since)
    unfold wrR at this
    rw [if_neg (by rw [failing_neg hf1]; decide)] at this
    exact this
  have HWr : Hid (∀ (U : World) (cv' : Value) (a' : Option Addr) (c' : Nat), Tn w U p nb sb cv' n D.flush → IsBy U a' (lhB mn since) c' → Calls Try.prog 16 #[.pointer (some ⟨p, 0, none⟩), .int .i64 (fr : Int), .slice a' (lhB mn since).length c'] U fun e w' => e = .returned .nilIface ∧ ∃ cv', Hid (Tn w w' p nb sb cv' n (D.flush.write fr (lhB mn since))) ∧ Hid (Keeps w.heap.size dkT U w')) := fun U cv' a' c' ht hb => tn_write ht fr a' (lhB mn since) c' (failing_neg hf1) hi (by rw [lhB_length]; omega) hn (by have := hl1.s; omega) (by have := hl1.c; omega) hb
  have HF2 : Hid (∀ (U : World) (cv' : Value), Tn w U p nb sb cv' n (D.flush.write fr (lhB mn since)) → Calls Try.prog 17 #[.pointer (some ⟨p, 0, none⟩)] U fun e w' => e = .returned .nilIface ∧ Hid (Tn w w' p nb sb (.slice none 0 0) n (hdD D fr mn since)) ∧ Hid (Keeps w.heap.size dkT U w')) := fun U cv' ht => tn_flush ht (failing_neg hf2) (by have := hl2.s; omega)
  have HAdd : Hid (∀ (U : World) (base : Nat) (v : Value), ByRow U base v (mkB ++ [UInt8.ofNat mn]) → base ≤ U.heap.size → Calls Try.prog 41 #[v, .int .i64 (since : Int)] U fun e w' => ∃ v', e = .returned v' ∧ Hid (ByRow w' base v' ((mkB ++ [UInt8.ofNat mn]) ++ w2B since)) ∧ Hid (Below base U w') ∧ Hid (∀ b, b < U.heap.size → v.ownBlock ≠ some b → w'.heap[b]? = U.heap[b]?) ∧ Hid (∀ j, v'.ownBlock = some j → v.ownBlock = some j ∨ U.heap.size ≤ j)) := fun U base v h hb => addWord_any base v _ since U h hb (by simp [mkB]) hsn
  have hwm : IntKind.u8.wrap (mn : Int) = (mn : Int) := by rw [IntKind.wrap_u8]; omega
  have Hby : Hid (((UInt8.ofNat mn).toNat : Int) = (mn : Int)) := by unfold Hid; rw [UInt8.toNat_ofNat']; omega
  have m0 : (0 : Int) ≤ mn := by omega
  have m1 : (mn : Int) ≤ 200 := by omega
  clear a hB hr hf1 hf2 hl1 hl2
  go_enter Try.func30, Try.ntmps30
  go_wp2_with fail
  refine HFl.out.mono ?_
  rintro e w2 ⟨rfl, ht2, hk2⟩
  have hr2 := hk2.out.row HH.out.1 (by decide)
  have hlt2 : W.heap.size < w2.heap.size := (Array.getElem?_eq_some_iff.1 hr2).1
  have hcv := run_convert_bytes_const (P := Try.prog) w2 52 5 #[.int .u8 255, .int .u8 113, .int .u8 100, .int .u8 32, .int .u8 108, .int .u8 111, .int .u8 103] 7 7 Try.underlying52 Try.underlying5
  obtain ⟨w3, hw3⟩ : ∃ w3, w2.alloc (.cells #[.int .u8 255, .int .u8 113, .int .u8 100, .int .u8 32, .int .u8 108, .int .u8 111, .int .u8 103] 5 (7, 8)) = w3 := ⟨_, rfl⟩
  have hcv' : (convert 52 52 (.slice (some ⟨w2.heap.size, 0, none⟩) 7 7)).run Try.prog (w2.alloc (.cells #[.int .u8 255, .int .u8 113, .int .u8 100, .int .u8 32, .int .u8 108, .int .u8 111, .int .u8 103] 5)) = .ok (.slice (some ⟨w2.heap.size, 0, none⟩) 7 7) w3 := by rw [← hw3]; exact hcv
  have hb3 : Below w2.heap.size w2 w3 := by rw [← hw3]; exact (Below.refl _ w2).alloc (Nat.le_refl _) _
  have hr3 : w3.heap[w2.heap.size]? = some (.cells #[.int .u8 255, .int .u8 113, .int .u8 100, .int .u8 32, .int .u8 108, .int .u8 111, .int .u8 103] 5 (7, 8)) := by rw [← hw3]; exact new_heap w2 _
  have hs3 : w3.heap.size = w2.heap.size + 1 := by rw [← hw3]; simp
  have ha3 := (hb3.block _ hlt2).trans hr2
  obtain ⟨_, _, e2⟩ := HF.out w3 ha3
  obtain ⟨w4, hw4⟩ : ∃ w4, w3.alloc (.cells #[.int .u8 (mn : Int)] 5) = w4 := ⟨_, rfl⟩
  have hb4 : Below w3.heap.size w3 w4 := by rw [← hw4]; exact (Below.refl _ w3).alloc (Nat.le_refl _) _
  have hr4 : w4.heap[w2.heap.size + 1]? = some (.cells #[.int .u8 (mn : Int)] 5 (0, 0)) := by rw [← hw4, ← hs3]; exact new_heap w3 _
  have HK : Hid (Keeps w.heap.size dkT W w2) := (Keeps.of_below HH.out.2).trans hk2.out
  have H4 : Hid ((∀ k (h : k < mkB.length), w4.cell? ⟨w2.heap.size, k, none⟩ = some (.int .u8 (mkB[k]'h).toNat)) ∧ (∀ k (h : k < [UInt8.ofNat mn].length), w4.cell? ⟨w2.heap.size + 1, k, none⟩ = some (.int .u8 (([UInt8.ofNat mn])[k]'h).toNat)) ∧ w2.heap.size ≤ w4.heap.size ∧ Below w2.heap.size w2 w4) := by
    have hr34 := (hb4.block w2.heap.size (by omega)).trans hr3
    refine ⟨fun k h => ?_, fun k h => ?_, Nat.le_trans hb3.size hb4.size, hb3.trans (hb4.mono hb3.size)⟩
    · rw [cell_of_row _ _ _ _ _ (7, 8) hr34]
      have hk : k < 7 := h
      match k, hk with
      | 0, _ => rfl
      | 1, _ => rfl
      | 2, _ => rfl
      | 3, _ => rfl
      | 4, _ => rfl
      | 5, _ => rfl
      | 6, _ => rfl
    · have hk : k = 0 := by simpa using h
      subst hk
      rw [cell_of_row _ _ _ _ _ (0, 0) hr4]
      show some (Value.int .u8 (mn : Int)) = some (Value.int .u8 ((UInt8.ofNat mn).toNat : Int))
      rw [Hby.out]
  clear hcv
  have Ha2 : Hid (w2.heap[W.heap.size]? = some (.cells #[.pointer (some ⟨p, 0, none⟩), .int .i64 (fr : Int), .int .i64 (mn : Int)] 77 (0, 0)) ∧ W.heap.size < w2.heap.size) := ⟨hr2, hlt2⟩
  have HT2 : Hid (Tn w w2 p nb sb (.slice none 0 0) n D.flush) := ht2.out
  clear HFl ht2 hk2 hr2 hb3 hr3 ha3 hb4 hr4 c0 HH
  go_wp2_with (at_builtin; refine wpList_appFull rfl (.tmp 15) (.tmp 19) rfl w2.heap.size w2.heap.size mkB (w2.heap.size + 1) [UInt8.ofNat mn] 1 7 1 (by rfl) (by rfl) rfl rfl H4.out.1 H4.out.2.1 Nat.zero_lt_one H4.out.2.2.1 (by show 7 + 1 ≤ 1000; decide) (by show Builtin.nextslicecap (7 + 1) 7 * 1 ≤ 281474976710656; decide) ?_; intro v5 w5 hr5 hb5 ho5)
  obtain ⟨av5, cv5, rfl, _⟩ := hr5.isBy
  have hl5 : (mkB ++ [UInt8.ofNat mn]).length = 8 := by simp [mkB]
  rw [hl5] at hr5 ⊢
  have hlt4 := Nat.le_trans H4.out.2.2.1 (Nat.le_refl w4.heap.size)
  have hb25 : Below w2.heap.size w2 w5 := H4.out.2.2.2.trans (hb5.mono H4.out.2.2.1)
  have H5 : Hid (w5.heap[W.heap.size]? = some (.cells #[.pointer (some ⟨p, 0, none⟩), .int .i64 (fr : Int), .int .i64 (mn : Int)] 77 (0, 0)) ∧ Below w2.heap.size w2 w5 ∧ ByRow w5 w2.heap.size (.slice av5 8 cv5) (mkB ++ [UInt8.ofNat mn]) ∧ w2.heap.size ≤ w5.heap.size) :=
    ⟨(hb25.block _ Ha2.out.2).trans Ha2.out.1, hb25, hr5, hb25.size⟩
  clear H4 hr5 hb5 ho5 hl5 hlt4 hb25 e2
  go_upto_region 5 with fail
  have HT : Hid (w5.drew.heap[W.heap.size]? = some (.cells #[.pointer (some ⟨p, 0, none⟩), .int .i64 (fr : Int), .int .i64 (mn : Int)] 77 (0, 0)) ∧ Below w2.heap.size w2 w5.drew ∧ ByRow w5.drew w2.heap.size (.slice av5 8 cv5) (mkB ++ [UInt8.ofNat mn]) ∧ w2.heap.size ≤ w5.drew.heap.size) := ⟨H5.out.1, H5.out.2.1.trans ⟨rfl, rfl, rfl, Nat.le_refl _, fun _ _ => rfl⟩, H5.out.2.2.1, H5.out.2.2.2⟩
  refine wp_region_drawn (by kernel_rfl) ?_
  clear H5
  generalize w5.drew = v2 at *
  refine wpAny_take (i := 0) (v := .pointer (some ⟨W.heap.size, 0, none⟩)) rfl (by kernel_rfl) (by kernel_rfl) (by kernel_rfl) (fun _ _ _ h => h) (Or.inl ⟨by rfl, fun w => by go_simp⟩) ?_
  simp only [Act.put, List.getElem_toArray, List.getElem_cons_succ, List.getElem_cons_zero, List.setIfInBounds_toArray, List.set_cons_zero, List.set_cons_succ]
  refine wpAny_take (i := 2) (v := .pointer (some ⟨W.heap.size, 1, none⟩)) rfl (by kernel_rfl) (by kernel_rfl) (by kernel_rfl) (fun _ _ _ h => h) (Or.inl ⟨by rfl, fun w => by go_simp⟩) ?_
  simp only [Act.put, List.getElem_toArray, List.getElem_cons_succ, List.getElem_cons_zero, List.setIfInBounds_toArray, List.set_cons_zero, List.set_cons_succ]
  refine wpAny_take (i := 4) (v := .slice av5 8 cv5) rfl (by kernel_rfl) (by kernel_rfl) (by kernel_rfl) (fun _ _ _ h => h) (Or.inl ⟨by rfl, fun w => by go_simp⟩) ?_
  simp only [Act.put, List.getElem_toArray, List.getElem_cons_succ, List.getElem_cons_zero, List.setIfInBounds_toArray, List.set_cons_zero, List.set_cons_succ]
  refine wpAny_take (i := 5) (v := .int .i64 (since : Int)) rfl (by kernel_rfl) (by kernel_rfl) (by kernel_rfl) (fun _ _ _ h => h) (Or.inl ⟨by rfl, fun w => by go_simp⟩) ?_
  simp only [Act.put, List.getElem_toArray, List.getElem_cons_succ, List.getElem_cons_zero, List.setIfInBounds_toArray, List.set_cons_zero, List.set_cons_succ]
  refine any_of_L (g := 7) (T := fun u => u.heap[W.heap.size]? = some (.cells #[.pointer (some ⟨p, 0, none⟩), .int .i64 (fr : Int), .int .i64 (mn : Int)] 77 (0, 0))) _ _ _ _ ?_
  refine L_take (i := 1) (v := .pointer (some ⟨p, 0, none⟩)) rfl rfl (by kernel_rfl) (by decide) (by kernel_rfl) (by kernel_rfl) (by kernel_rfl) (by kernel_rfl) (fun _ _ _ h => h) (Or.inl ⟨by rfl, fun w' hw' => by have c0 := (HF.out w' hw').1; clear hw'; go_simp⟩) HT.out.1 ?_
  simp only [Act.put, List.getElem_toArray, List.getElem_cons_succ, List.getElem_cons_zero, List.setIfInBounds_toArray, List.set_cons_zero, List.set_cons_succ]
  refine L_take (i := 3) (v := .int .i64 (fr : Int)) rfl rfl (by kernel_rfl) (by decide) (by kernel_rfl) (by kernel_rfl) (by kernel_rfl) (by kernel_rfl) (fun _ _ _ h => h) (Or.inl ⟨by rfl, fun w' hw' => by have c0 := (HF.out w' hw').2.1; clear hw'; go_simp⟩) HT.out.1 ?_
  simp only [Act.put, List.getElem_toArray, List.getElem_cons_succ, List.getElem_cons_zero, List.setIfInBounds_toArray, List.set_cons_zero, List.set_cons_succ]
  refine L_one (i := 6) (by kernel_rfl) ?_
  have HA6 : Hid (Calls _ _ _ v2 _) := HAdd.out v2 w2.heap.size (.slice av5 8 cv5) HT.out.2.2.1 HT.out.2.2.2
  refine wpOp_step rfl ?_
  intro K hK
  rw [if_pos (by rfl)]
  have hK' : Shut (∀ a w, _ → K a w) := hK
  clear hK
  go_wp2_with fail
  refine HA6.out.mono ?_
  rintro e w6 ⟨v6, rfl, hr6, hb6, _, _⟩
  have hb26 : Below w2.heap.size w2 w6 := HT.out.2.1.trans hb6.out
  have H6 : Hid (w6.heap[W.heap.size]? = some (.cells #[.pointer (some ⟨p, 0, none⟩), .int .i64 (fr : Int), .int .i64 (mn : Int)] 77 (0, 0)) ∧ Below w2.heap.size w2 w6) := ⟨(hb26.block _ Ha2.out.2).trans Ha2.out.1, hb26⟩
  obtain ⟨av6, cv6, rfl, hby6⟩ := hr6.out.isBy
  have HW6 : Hid (Calls _ _ _ w6 _) := HWr.out w6 _ av6 cv6 (HT2.out.below hb26) hby6
  refine hK'.out _ _ ⟨H6.out.1, ?_⟩
  clear hK' K hr6 hb6 hb26 hby6 HA6 HWr
  rw [show ((mkB ++ [UInt8.ofNat mn]) ++ w2B since).length = (lhB mn since).length from rfl]
  try simp only [Act.put, List.getElem_toArray, List.getElem_cons_succ, List.getElem_cons_zero, List.setIfInBounds_toArray, List.set_cons_zero, List.set_cons_succ]
  refine L_go (by kernel_rfl) (by kernel_rfl) ?_
  refine wpOp_step rfl ?_
  intro K hK
  rw [if_pos (by rfl)]
  have hK' : Shut (∀ a w, _ → K a w) := hK
  clear hK
  go_wp2_with fail
  refine HW6.out.mono ?_
  rintro e w7 ⟨rfl, cv7, h7, k7⟩
  have hr7 := k7.out.row H6.out.1 (by decide)
  have HF7 : Hid (Calls _ _ _ w7 _) := HF2.out w7 cv7 h7.out
  have HK7 : Hid (Keeps w.heap.size dkT W w7) := (HK.out.trans (Keeps.of_below H6.out.2)).trans k7.out
  have c70 := (HF.out w7 hr7).1
  clear HW6 h7 k7 hr7 H6 HF2
  refine hK'.out _ _ ?_
  clear hK' K
  try simp only [Act.put, List.getElem_toArray, List.getElem_cons_succ, List.getElem_cons_zero, List.setIfInBounds_toArray, List.set_cons_zero, List.set_cons_succ]
  refine any_one (i := 8) (by kernel_rfl) ?_
  refine wpOp_step rfl ?_
  intro K hK
  rw [if_pos (by rfl)]
  have hK' : Shut (∀ a w, _ → K a w) := hK
  clear hK
  go_wp2_with fail
  refine hK'.out _ _ ?_
  clear hK' K
  refine wpAny_done (by kernel_rfl) ?_ _
  go_wp2_with fail
  refine HF7.out.mono ?_
  rintro e w8 ⟨rfl, h8, k8⟩
  go_wp2
  go_ret
  exact ⟨rfl, _, h8, HK7.out.trans k8.out⟩
end
end Go.Proofs.Ytijjegkkeigeoaa

namespace Go.Proofs.Ytijjegkkeigeoaa
set_option linter.unusedVariables false
set_option linter.unusedSimpArgs false
set_option maxRecDepth 100000
open Go.RowKit Go.Lib
theorem PmRow.shape {W : World} {base : Nat} {v : Value} {xs : List Pm} (h : PmRow W base v xs) : ∃ a cap, v = .slice a xs.length cap := by
  rcases h.row.2 with ⟨rfl, h0⟩ | ⟨g, cap, cur, rfl, _⟩
  · exact ⟨none, 0, by rw [h0]⟩
  · exact ⟨_, _, rfl⟩
section
variable {w W : World} {p nb sb : Nat} {cv : Value} {n : Nat} {D : Dk}
theorem lay_none (a : Tn w W p nb sb cv n D) (fr mn : Nat) (hf : D.fail < 0) (hm1 : 1 ≤ mn) (hi : fr + mn ≤ n) (hn : n ≤ 200) (hs : D.lim 999000) (hz : allF mn (imgF fr mn D) = []) :
    Calls Try.prog 29 #[.agg #[.pointer (some ⟨p, 0, none⟩), .int .i64 (fr : Int), .int .i64 (mn : Int)]] W fun e w' => e = .returned .nilIface ∧ ∃ cv', Hid (Tn w w' p nb sb cv' n (hdD D fr mn 1)) ∧ Hid (Keeps w.heap.size dkT W w') := by
  obtain ⟨W1, hW1⟩ : ∃ W1, W.alloc (.cells #[.pointer (some ⟨p, 0, none⟩), .int .i64 (fr : Int), .int .i64 (mn : Int)] 77) = W1 := ⟨_, rfl⟩
  have hB : Below W.heap.size W W1 := by rw [← hW1]; exact (Below.refl _ W).alloc (Nat.le_refl _) _
  have hr := new_heap W (.cells #[.pointer (some ⟨p, 0, none⟩), .int .i64 (fr : Int), .int .i64 (mn : Int)] 77)
  rw [hW1] at hr
  have HF : Hid (∀ U : World, U.heap[W.heap.size]? = some (.cells #[.pointer (some ⟨p, 0, none⟩), .int .i64 (fr : Int), .int .i64 (mn : Int)] 77 (0, 0)) → U.cell? ⟨W.heap.size, 0, none⟩ = some (.pointer (some ⟨p, 0, none⟩)) ∧ U.cell? ⟨W.heap.size, 1, none⟩ = some (.int .i64 (fr : Int)) ∧ U.cell? ⟨W.heap.size, 2, none⟩ = some (.int .i64 (mn : Int))) := fun U h => ⟨by simp [World.cell?, h], by simp [World.cell?, h], by simp [World.cell?, h]⟩
  obtain ⟨c0, c1, c2⟩ := HF.out W1 hr
  have HP : Hid (Calls _ _ _ W1 _) := piecesA_any (a.below hB) fr mn hi hn
  rw [hz] at HP
  have HH : Hid (W1.heap[W.heap.size]? = some (.cells #[.pointer (some ⟨p, 0, none⟩), .int .i64 (fr : Int), .int .i64 (mn : Int)] 77 (0, 0)) ∧ Below W.heap.size W W1) := ⟨hr, hB⟩
  have HW : Hid (∀ U, Below W.heap.size W U → Calls Try.prog 30 #[.agg #[.pointer (some ⟨p, 0, none⟩), .int .i64 (fr : Int), .int .i64 (mn : Int)], .int .i64 1] U fun e w' => e = .returned .nilIface ∧ ∃ cv', Hid (Tn w w' p nb sb cv' n (hdD D fr mn 1)) ∧ Hid (Keeps w.heap.size dkT U w')) := fun U hU => writeLHead_ok (a.below hU) fr mn 1 hf (by omega) hn (by omega) (by omega) hs
  clear a hB hr
  go_enter Try.func29, Try.ntmps29
  go_wp2_with fail
  refine HP.out.mono ?_
  rintro e w2 ⟨v, rfl, xs, hxs, hrow, hb2⟩
  have hx0 : xs = [] := by simpa using hxs
  subst hx0
  obtain ⟨av, capv, rfl⟩ := hrow.out.shape
  have hr2 := (hb2.out.block _ (Array.getElem?_eq_some_iff.1 HH.out.1).1).trans HH.out.1
  obtain ⟨d0, d1, d2⟩ := HF.out w2 hr2
  have hbw : Below W.heap.size W w2 := HH.out.2.trans (hb2.out.mono HH.out.2.size)
  have HW2 : Hid (Calls _ _ _ w2 _) := HW.out w2 hbw
  have HB2 : Hid (Below W.heap.size W w2) := hbw
  clear HP hrow hb2 hxs hr2 hbw HW HH c0 c1 c2
  go_wp2_with fail
  refine wp_loop_rounds 1 ?_
  rw [rounds_succ]
  go_wp2_with fail
  refine HW2.out.mono ?_
  rintro e w3 ⟨rfl, cv3, h3, k3⟩
  go_wp2
  go_ret
  exact ⟨rfl, cv3, h3, (Keeps.of_below HB2.out).trans k3.out⟩
theorem build_area (p : Nat) (fr mn : Int) (w : World) : (Instr.build 77 #[(0, .pointer (some ⟨p, 0, none⟩)), (1, .int .i64 fr), (2, .int .i64 mn)]).run Try.prog w = .ok (.agg #[.pointer (some ⟨p, 0, none⟩), .int .i64 fr, .int .i64 mn]) w := by
  refine run_build w 77 _ _ ?_
  kernel_rfl
theorem img_fresh (fr mn : Nat) (D : Dk) (h : ∀ i, i < mn → D.now.getD (fr + i) bk0 = bk0) : allF mn (imgF fr mn D) = [] := by
  unfold allF
  rw [List.filterMap_eq_nil_iff]
  intro a ha
  rw [List.mem_range'_1] at ha
  unfold imgF
  split
  · rename_i h1
    rw [h a h1.2, pcOf_zero]
    rfl
  · rfl
theorem formatL_fresh (a : Tn w W p nb sb cv n D) (fr mn : Nat) (hf : D.fail < 0) (hm1 : 1 ≤ mn) (hi : fr + mn ≤ n) (hn : n ≤ 200) (hs : D.lim 999000) (hz : ∀ i, i < mn → D.now.getD (fr + i) bk0 = bk0) :
    Calls Try.prog 14 #[.pointer (some ⟨p, 0, none⟩), .int .i64 (fr : Int), .int .i64 (mn : Int)] W fun e w' => e = .returned .nilIface ∧ ∃ cv', Hid (Tn w w' p nb sb cv' n (hdD D fr mn 1)) ∧ Hid (Keeps w.heap.size dkT W w') := by
  obtain ⟨W1, hW1⟩ : ∃ W1, W.alloc (.cells #[.pointer (some ⟨p, 0, none⟩), .int .i64 (fr : Int), .int .i64 (mn : Int)] 77) = W1 := ⟨_, rfl⟩
  have hB : Below W.heap.size W W1 := by rw [← hW1]; exact (Below.refl _ W).alloc (Nat.le_refl _) _
  have hr := new_heap W (.cells #[.pointer (some ⟨p, 0, none⟩), .int .i64 (fr : Int), .int .i64 (mn : Int)] 77)
  rw [hW1] at hr
  have HF : Hid (∀ U : World, Below W1.heap.size W1 U → (U.cell? ⟨W.heap.size, 0, none⟩ = some (.pointer (some ⟨p, 0, none⟩)) ∧ U.cell? ⟨W.heap.size, 1, none⟩ = some (.int .i64 (fr : Int)) ∧ U.cell? ⟨W.heap.size, 2, none⟩ = some (.int .i64 (mn : Int))) ∧ Tn w U p nb sb cv n D ∧ Below W.heap.size W U) := fun U hU => by
    have h := (hU.block _ (Array.getElem?_eq_some_iff.1 hr).1).trans hr
    have hU2 : Below W.heap.size W U := hB.trans (hU.mono hB.size)
    exact ⟨⟨by simp [World.cell?, h], by simp [World.cell?, h], by simp [World.cell?, h]⟩, a.below hU2, hU2⟩
  obtain ⟨⟨c0, c1, c2⟩, _, _⟩ := HF.out W1 (Below.refl _ _)
  have HV : Hid (Calls _ _ _ W1 _) := valid_any (a.below hB) (fr : Int) (mn : Int) hn (by omega)
  rw [show decide (1 ≤ (mn : Int) ∧ 0 ≤ (fr : Int) ∧ (fr : Int) ≤ (n : Int) - (mn : Int)) = true by rw [decide_eq_true_eq]; omega] at HV
  have HRd : Hid (∀ U, Tn w U p nb sb cv n D → Calls Try.prog 28 #[.agg #[.pointer (some ⟨p, 0, none⟩), .int .i64 (fr : Int), .int .i64 (mn : Int)]] U fun e w' => e = .returned (.tuple #[.int .i64 0, .bool false]) ∧ Hid (Below U.heap.size U w')) := fun U hU => readLHead_none hU fr mn (by omega) hn (by have := hz 0 (by omega); rwa [Nat.add_zero] at this)
  have HLy : Hid (∀ U, Tn w U p nb sb cv n D → Calls Try.prog 29 #[.agg #[.pointer (some ⟨p, 0, none⟩), .int .i64 (fr : Int), .int .i64 (mn : Int)]] U fun e w' => e = .returned .nilIface ∧ ∃ cv', Hid (Tn w w' p nb sb cv' n (hdD D fr mn 1)) ∧ Hid (Keeps w.heap.size dkT U w')) := fun U hU => lay_none hU fr mn hf hm1 hi hn hs (img_fresh fr mn D hz)
  clear a hB hr
  go_enter Try.func14, Try.ntmps14
  go_wp2_with fail
  refine HV.out.mono ?_
  rintro e w2 ⟨rfl, hb2⟩
  obtain ⟨⟨d0, d1, d2⟩, ht2, _⟩ := HF.out w2 hb2
  have HR2 : Hid (Calls _ _ _ w2 _) := HRd.out w2 ht2
  have HB2 : Hid (Below W1.heap.size W1 w2) := hb2
  clear HV ht2 hb2 c0 c1 c2 HRd
  go_wp2_with fail
  refine HR2.out.mono ?_
  rintro e w3 ⟨rfl, hb3⟩
  have hb13 : Below W1.heap.size W1 w3 := HB2.out.trans (hb3.out.mono HB2.out.size)
  obtain ⟨⟨e0, e1, e2⟩, ht3, hbw3⟩ := HF.out w3 hb13
  have HL3 : Hid (Calls _ _ _ w3 _) := HLy.out w3 ht3
  have HB3 : Hid (Below W.heap.size W w3) := hbw3
  clear HR2 ht3 hb3 hb13 hbw3 HLy HB2 d0 d1 d2
  go_wp2_with fail
  refine HL3.out.mono ?_
  rintro e w4 ⟨rfl, cv4, h4, k4⟩
  go_wp2
  go_ret
  exact ⟨rfl, cv4, h4, (Keeps.of_below HB3.out).trans k4.out⟩
theorem formatL_bad (a : Tn w W p nb sb cv n D) (fr mn : Int) (hn : n ≤ 200) (hw : mn ≤ 9223372036854775807) (hb : ¬ (1 ≤ mn ∧ 0 ≤ fr ∧ fr ≤ (n : Int) - mn)) :
    Calls Try.prog 14 #[.pointer (some ⟨p, 0, none⟩), .int .i64 fr, .int .i64 mn] W fun e w' => e = .returned (.iface 44 (.int .i64 1)) ∧ Hid (Below W.heap.size W w') := by
  obtain ⟨W1, hW1⟩ : ∃ W1, W.alloc (.cells #[.pointer (some ⟨p, 0, none⟩), .int .i64 fr, .int .i64 mn] 77) = W1 := ⟨_, rfl⟩
  have hB : Below W.heap.size W W1 := by rw [← hW1]; exact (Below.refl _ W).alloc (Nat.le_refl _) _
  have hr := new_heap W (.cells #[.pointer (some ⟨p, 0, none⟩), .int .i64 fr, .int .i64 mn] 77)
  rw [hW1] at hr
  have c0 : W1.cell? ⟨W.heap.size, 0, none⟩ = some (.pointer (some ⟨p, 0, none⟩)) := by simp [World.cell?, hr]
  have c1 : W1.cell? ⟨W.heap.size, 1, none⟩ = some (.int .i64 fr) := by simp [World.cell?, hr]
  have c2 : W1.cell? ⟨W.heap.size, 2, none⟩ = some (.int .i64 mn) := by simp [World.cell?, hr]
  have HV : Hid (Calls _ _ _ W1 _) := valid_any (a.below hB) fr mn hn hw
  rw [decide_eq_false hb] at HV
  have HB : Hid (Below W.heap.size W W1) := hB
  clear a hB hr hb
  go_enter Try.func14, Try.ntmps14
  go_wp2_with fail
  refine HV.out.mono ?_
  rintro e w2 ⟨rfl, hb2⟩
  have HE : Hid (Below W.heap.size W w2) := HB.out.trans (hb2.mono HB.out.size)
  clear HV hb2 HB c0 c1 c2
  go_wp2
  go_ret
  exact ⟨rfl, HE⟩
theorem openL_bad (a : Tn w W p nb sb cv n D) (fr mn : Int) (hn : n ≤ 200) (hw : mn ≤ 9223372036854775807) (hb : ¬ (1 ≤ mn ∧ 0 ≤ fr ∧ fr ≤ (n : Int) - mn)) :
    Calls Try.prog 37 #[.pointer (some ⟨p, 0, none⟩), .int .i64 fr, .int .i64 mn] W fun e w' => e = .returned (.tuple #[.pointer none, .iface 44 (.int .i64 1)]) ∧ Hid (Below W.heap.size W w') := by
  obtain ⟨W1, hW1⟩ : ∃ W1, W.alloc (.cells #[.pointer (some ⟨p, 0, none⟩), .int .i64 fr, .int .i64 mn] 77) = W1 := ⟨_, rfl⟩
  have hB : Below W.heap.size W W1 := by rw [← hW1]; exact (Below.refl _ W).alloc (Nat.le_refl _) _
  have hr := new_heap W (.cells #[.pointer (some ⟨p, 0, none⟩), .int .i64 fr, .int .i64 mn] 77)
  rw [hW1] at hr
  have c0 : W1.cell? ⟨W.heap.size, 0, none⟩ = some (.pointer (some ⟨p, 0, none⟩)) := by simp [World.cell?, hr]
  have c1 : W1.cell? ⟨W.heap.size, 1, none⟩ = some (.int .i64 fr) := by simp [World.cell?, hr]
  have c2 : W1.cell? ⟨W.heap.size, 2, none⟩ = some (.int .i64 mn) := by simp [World.cell?, hr]
  have HV : Hid (Calls _ _ _ W1 _) := valid_any (a.below hB) fr mn hn hw
  rw [decide_eq_false hb] at HV
  have HB : Hid (Below W.heap.size W W1) := hB
  clear a hB hr hb
  go_enter Try.func37, Try.ntmps37
  go_wp2_with fail
  refine HV.out.mono ?_
  rintro e w2 ⟨rfl, hb2⟩
  have HE : Hid (Below W.heap.size W w2) := HB.out.trans (hb2.mono HB.out.size)
  clear HV hb2 HB c0 c1 c2
  go_wp2
  go_ret2
  exact ⟨rfl, HE⟩
end
end Go.Proofs.Ytijjegkkeigeoaa
