/-
  The contracts of accrue.isRef, accrue.checkRef, accrue.checkAccounts.
-/
import Derived.Test.YtdadhoangnkfeaaDoorPn1
import Derived.Test.YtdadhoangnkfeaaDoorLf
import Derived.Test.YtdadhoangnkfeaaDoorCur
import Derived.Test.YtdadhoangnkfeaaDoorEn1
import Derived.Deep.CutBlock
namespace Go.Proofs.YtdadhoangnkfeaaDoor
set_option linter.unusedVariables false
set_option linter.unusedSimpArgs false
set_option maxRecDepth 100000
open Go.RowKit Go.Lib

/-- A sign that a plan's Ref does not have. -/
def badP (r : Nat) : Bool := (decide (r < 97) || decide (122 < r)) && (decide (r < 48) || decide (57 < r))
theorem badP_low {r : Nat} (h : badP r = false) : r < 128 := by
  simp [badP] at h
  omega
/-- May a text be a plan's Ref? -/
def isPRef (s : ByteArray) : Bool := decide (s.size ≠ 0) && (decide (s.size ≤ 8) && decide (signFrom badP s s.size 0 < 0))
theorem isPRef_iff {s : ByteArray} : isPRef s = true ↔ s.size ≠ 0 ∧ s.size ≤ 8 ∧ ∀ i, i < s.size → badP (s.get! i).toNat = false := by
  unfold isPRef
  simp only [Bool.and_eq_true, decide_eq_true_eq]
  rw [sign_none badP (fun r h => badP_low h) s s.size 0 (by omega)]
  exact ⟨fun ⟨a, b, d⟩ => ⟨a, b, fun i hi => d i (Nat.zero_le _) hi⟩, fun ⟨a, b, d⟩ => ⟨a, b, fun i _ hi => d i hi⟩⟩
theorem plRef1_any (r : Nat) (w : World) :
    Calls Tryd.prog 38 #[.int .i32 r] w fun e w' => e = .returned (.bool (badP r)) ∧ w' = w := by
  have h1 : (r : Int) < 48 ∨ (48 : Int) ≤ r ∧ (r : Int) ≤ 57 ∨ (57 : Int) < r ∧ (r : Int) < 97 ∨ (97 : Int) ≤ r ∧ (r : Int) ≤ 122 ∨ (122 : Int) < r := by omega
  rcases h1 with a | ⟨a, b⟩ | ⟨a, b⟩ | ⟨a, b⟩ | a
  · have : badP r = true := by simp [badP]; omega
    rw [this]
    have n97 : (r : Int) < 97 := by omega
    go_enter Tryd.func38, Tryd.ntmps38
    go_wp2
    go_ret
    exact ⟨rfl, rfl⟩
  · have : badP r = false := by simp [badP]; omega
    rw [this]
    have n97 : (r : Int) < 97 := by omega
    have n57 : ¬ (57 : Int) < r := by omega
    go_enter Tryd.func38, Tryd.ntmps38
    go_wp2
    go_ret
    refine ⟨?_, rfl⟩
    first | rfl | (simp <;> omega)
  · have : badP r = true := by simp [badP]; omega
    rw [this]
    have n48 : ¬ (r : Int) < 48 := by omega
    go_enter Tryd.func38, Tryd.ntmps38
    go_wp2
    go_ret
    refine ⟨?_, rfl⟩
    first | rfl | (simp <;> omega)
  · have : badP r = false := by simp [badP]; omega
    rw [this]
    have n97 : ¬ (r : Int) < 97 := by omega
    have n122 : ¬ (122 : Int) < r := by omega
    go_enter Tryd.func38, Tryd.ntmps38
    go_wp2
    go_ret
    exact ⟨rfl, rfl⟩
  · have : badP r = true := by simp [badP]; omega
    rw [this]
    have n97 : ¬ (r : Int) < 97 := by omega
    have n48 : ¬ (r : Int) < 48 := by omega
    have n57 : (57 : Int) < r := by omega
    go_enter Tryd.func38, Tryd.ntmps38
    go_wp2
    go_ret
    refine ⟨?_, rfl⟩
    first | rfl | (simp <;> omega)
set_option maxHeartbeats 1000000 in
theorem plIndexFunc_any (s : ByteArray) (w : World) :
    Calls Tryd.prog 43 #[.string s, .func (.func 38) #[] #[], .bool true] w fun e w' => e = .returned (.int .i64 (signFrom badP s s.size 0)) ∧ Below w.heap.size w w' := by
  go_enter Tryd.func43, Tryd.ntmps43
  go_wp2
  go_loopg [] s.size (fun gf wx => ∃ pos : Nat, wx.heap[w.heap.size]? = some (.stringIter s pos) ∧ Below w.heap.size w wx ∧ signFrom badP s gf pos = signFrom badP s s.size 0 ∧ s.size ≤ pos + gf)
  case atStart => exact ⟨0, World.iter_heap w s 0, (Below.refl _ w).alloc (Nat.le_refl _) _, rfl, by omega⟩
  case round =>
    obtain ⟨pos, hit, hbw, hleft, hfu⟩ := hrel
    by_cases hps : pos < s.size
    · obtain ⟨g', rfl⟩ : ∃ g', gk = g' + 1 := ⟨gk - 1, by omega⟩
      have hnx : ∀ ty, (Instr.next (.pointer (some ⟨w.heap.size, 0, none⟩)) true ty).run Tryd.prog wr = _ := fun ty => Lib.run_next_any_at wr w.heap.size s pos ty hit hps
      have hwd := Lib.width_pos s pos
      obtain ⟨R, hR⟩ : ∃ R, (Utf8.decode s pos).1 = R := ⟨_, rfl⟩
      obtain ⟨K, hK⟩ : ∃ K, (Utf8.decode s pos).2 = K := ⟨_, rfl⟩
      simp only [signFrom, hps, if_true, hR, hK] at hleft
      rw [hR, hK] at hnx
      rw [hK] at hwd
      have hit2 := Lib.iterAt_heap wr w.heap.size s pos (pos + K) hit
      have hbw2 := Lib.below_iterAt hbw (k := w.heap.size) (Nat.le_refl _) s (pos + K)
      obtain ⟨W, hWd⟩ : ∃ W, wr.iterAt w.heap.size s (pos + K) = W := ⟨_, rfl⟩
      rw [hWd] at hnx hit2 hbw2
      cases hsp : badP R <;> simp only [hsp, if_true, Bool.false_eq_true, if_false] at hleft
      · go_wp2_with (go_at_call 38; refine (plRef1_any R _).mono ?_; rintro e W' ⟨rfl, rfl⟩; rw [hsp])
        go_roundg g'
        case measure => omega
        case rel => exact ⟨pos + K, hit2, hbw2, hleft, by omega⟩
      · go_wp2_with (go_at_call 38; refine (plRef1_any R _).mono ?_; rintro e W' ⟨rfl, rfl⟩; rw [hsp])
        go_ret
        exact ⟨by rw [← hleft]; rfl, hbw2⟩
    · have hnx : ∀ ty, (Instr.next (.pointer (some ⟨w.heap.size, 0, none⟩)) true ty).run Tryd.prog wr = _ := fun ty => Lib.run_next_end_at wr w.heap.size s pos ty hit hps
      rw [signFrom_end badP s gk pos hps] at hleft
      go_wp2
      go_ret
      exact ⟨by rw [← hleft]; rfl, hbw⟩
theorem plContainsFunc_any (s : ByteArray) (w : World) :
    Calls Tryd.prog 29 #[.string s, .func (.func 38) #[] #[]] w fun e w' => e = .returned (.bool (decide (0 ≤ signFrom badP s s.size 0))) ∧ Below w.heap.size w w' := by
  have hI : Calls Tryd.prog 40 #[.string s, .func (.func 38) #[] #[]] w fun e w' => e = .returned (.int .i64 (signFrom badP s s.size 0)) ∧ Below w.heap.size w w' := by
    go_enter Tryd.func40, Tryd.ntmps40
    go_wp2_with fail
    refine (plIndexFunc_any s _).mono ?_
    rintro e w' ⟨rfl, hb⟩
    go_wp2
    go_ret
    exact ⟨rfl, hb⟩
  go_enter Tryd.func29, Tryd.ntmps29
  go_wp2_with fail
  refine hI.mono ?_
  rintro e w' ⟨rfl, hb⟩
  go_wp2
  go_ret
  exact ⟨rfl, hb⟩
theorem plIsRef_any (s : ByteArray) (w : World) :
    Calls Tryd.prog 26 #[.string s] w fun e w' => e = .returned (.bool (isPRef s)) ∧ Below w.heap.size w w' := by
  by_cases h0 : s.size = 0
  · have e0 := en_empty h0
    have er : isPRef s = false := by simp [isPRef, h0]
    rw [er]
    go_enter Tryd.func26, Tryd.ntmps26
    go_wp2
    go_ret
    exact ⟨rfl, Below.refl _ _⟩
  have e0 := en_some h0
  have e0' : s.toList.isEmpty = false := by simpa using e0
  by_cases h1 : s.size ≤ 8
  · have h1' : decide ((s.size : Int) ≤ 8) = true := by simp; omega
    have er : isPRef s = !decide (0 ≤ signFrom badP s s.size 0) := by
      have d1 : decide (s.size ≠ 0) = true := by simp [h0]
      have d2 : decide (s.size ≤ 8) = true := by simp [h1]
      have d3 : decide (signFrom badP s s.size 0 < 0) = !decide (0 ≤ signFrom badP s s.size 0) := by
        by_cases hh : 0 ≤ signFrom badP s s.size 0
        · rw [decide_eq_true hh, decide_eq_false (by omega)]; rfl
        · rw [decide_eq_false hh, decide_eq_true (by omega)]; rfl
      unfold isPRef; rw [d1, d2, d3]; rfl
    rw [er]
    clear er
    go_enter Tryd.func26, Tryd.ntmps26
    go_wp2_with fail
    refine (plContainsFunc_any s _).mono ?_
    rintro e w' ⟨rfl, hb⟩
    go_wp2
    go_ret
    exact ⟨rfl, hb⟩
  · have h1' : decide ((s.size : Int) ≤ 8) = false := by simp; omega
    have er : isPRef s = false := by simp [isPRef, h1]
    rw [er]
    go_enter Tryd.func26, Tryd.ntmps26
    go_wp2
    go_ret
    exact ⟨rfl, Below.refl _ _⟩

/-- Has a plan a Ref? -/
def hasPR (r : ByteArray) (p : Pn) : Bool := decide (p.ref = r)
/-- Where the first plan stands that has a Ref. -/
def pidx (r : ByteArray) : Nat → List Pn → Int
  | _, [] => -1
  | k, a :: l => if hasPR r a = true then (k : Int) else pidx r (k + 1) l
theorem pidx_any (r : ByteArray) : ∀ (l : List Pn) (k : Nat), decide (0 ≤ pidx r k l) = l.any (hasPR r)
  | [], k => by simp [pidx]
  | a :: l, k => by
    rw [pidx, List.any_cons]
    cases h : hasPR r a
    · rw [if_neg (by simp), pidx_any r l (k + 1)]; rfl
    · rw [if_pos rfl]; simp
theorem pns_drop (l : List Pn) (k : Nat) (h : k < l.length) : l.drop k = l.getD k pn0 :: l.drop (k + 1) := by
  rw [List.getD_eq_getElem?_getD, List.getElem?_eq_getElem h]
  exact List.drop_eq_getElem_cons h
/-- What is wrong with a Ref behind others. -/
def refBad (ah : List Pn) (r : ByteArray) : Int := if isPRef r = false then 2 else if ah.any (hasPR r) = true then 8 else 0
set_option maxHeartbeats 1000000 in
theorem plRefIs_any (p : Pn) (r : ByteArray) (B : Nat) (w : World) (hB : w.cell? ⟨B, 0, none⟩ = some (.string r)) (hlt : B < w.heap.size) :
    Calls Tryd.prog 28 #[.agg p.cells, .pointer (some ⟨B, 0, none⟩)] w fun e w' => e = .returned (.bool (hasPR r p)) ∧ Below w.heap.size w w' := by
  have b0 : Below w.heap.size w (w.alloc (.cells p.cells 23)) := (Below.refl _ w).alloc (Nat.le_refl _) _
  have hB2 : (w.alloc (.cells p.cells 23)).cell? ⟨B, 0, none⟩ = some (.string r) := (b0.cell (p := ⟨B, 0, none⟩) hlt).trans hB
  obtain ⟨a0, a1, a2, a3, a4, a5, a6, a7⟩ := p
  simp only [Pn.cells] at b0 hB2 ⊢
  by_cases h : a0 = r
  · subst h
    have e1 : hasPR a0 ⟨a0, a1, a2, a3, a4, a5, a6, a7⟩ = true := by simp [hasPR]
    rw [e1]
    go_enter Tryd.func28, Tryd.ntmps28
    go_wp2
    go_ret
    exact ⟨rfl, b0⟩
  · have e1 : hasPR r ⟨a0, a1, a2, a3, a4, a5, a6, a7⟩ = false := by simp [hasPR, h]
    have h' := ch_ne h
    rw [e1]
    go_enter Tryd.func28, Tryd.ntmps28
    go_wp2
    go_ret
    exact ⟨by rw [← h']; rfl, b0⟩
set_option maxHeartbeats 1000000 in
theorem plIdx_any (a : Option Addr) (cap : Nat) (l : List Pn) (r : ByteArray) (B : Nat) (w : World) (hlen : l.length ≤ 1000) (h : IsPn w a l cap) (hB : w.cell? ⟨B, 0, none⟩ = some (.string r)) (hlt : B < w.heap.size) :
    Calls Tryd.prog 39 #[.slice a l.length cap, .func (.func 28) #[] #[.pointer (some ⟨B, 0, none⟩)]] w fun e w' => e = .returned (.int .i64 (pidx r 0 l)) ∧ Below w.heap.size w w' := by
  have eg : ∀ args W, (callFunc 28 args).run Tryd.prog W = .ok (.enter 28 args) W := fun args W => en_enters Tryd.func28 (by kernel_rfl) ⟨_, rfl⟩ args W
  have Hp : Hid (∀ x W, Below w.heap.size w W → Calls Tryd.prog 28 #[.agg x.cells, .pointer (some ⟨B, 0, none⟩)] W fun e w' => e = .returned (.bool (hasPR r x)) ∧ Below W.heap.size W w') := fun x W hW => plRefIs_any x r B W ((hW.cell (p := ⟨B, 0, none⟩) hlt).trans hB) (by have := hW.size; omega)
  have Hc : Hid (IsPn w a l cap) := h
  have hl1 : (l.length : Int) ≤ 1000 := by omega
  clear h hB
  obtain ⟨res, hres⟩ : ∃ res, pidx r 0 l = res := ⟨_, rfl⟩
  have Hres : Hid (pidx r 0 l = res) := hres
  rw [hres]
  clear hres
  go_enter Tryd.func39, Tryd.ntmps39
  go_wp2
  go_loopw [8] (fun i wr => ∃ k : Nat, k ≤ l.length ∧ i = .int .i64 k ∧ Hid (pidx r k (l.drop k) = res) ∧ Below w.heap.size w wr) (fun i _ => l.length - (RowKit.intOf i).toNat)
  case atStart => exact ⟨0, Nat.zero_le _, rfl, Hres.out, Below.refl _ _⟩
  case round =>
    obtain ⟨k, hk, rfl, H, BW⟩ := hrel
    by_cases hkl : k < l.length
    · obtain ⟨b, off, e, hb, hn⟩ := (Hc.out.below BW).at hkl
      subst e
      have hcall := Hp.out (l.getD k pn0) wr BW
      have E : Hid ((if hasPR r (l.getD k pn0) = true then (k : Int) else pidx r (k + 1) (l.drop (k + 1))) = res) := by
        have := H.out
        rw [pns_drop l k hkl] at this
        exact this
      clear H
      generalize l.getD k pn0 = x at *
      obtain ⟨a0, a1, a2, a3, a4, a5, a6, a7⟩ := x
      obtain ⟨c0, c1, c2, c3, c4, c5, c6, c7⟩ := hn
      simp only [Pn.cells] at c0 c1 c2 c3 c4 c5 c6 c7 hcall
      have i0 : (0 : Int) ≤ k := by omega
      have i1 : (k : Int) < l.length := by omega
      cases hq : hasPR r ⟨a0, a1, a2, a3, a4, a5, a6, a7⟩
      · rw [hq] at hcall
        have HN : Hid (pidx r (k + 1) (l.drop (k + 1)) = res) := by
          have := E.out; rw [if_neg (by rw [hq]; simp)] at this; exact this
        go_wp2_with (go_at_fn 28; refine hcall.mono ?_; rintro e w' ⟨rfl, hb'⟩)
        go_roundw
        case rel => exact ⟨k + 1, by omega, by go_num, HN, BW.trans (hb'.mono BW.size)⟩
        case measure => simp [RowKit.intOf]; omega
      · rw [hq] at hcall
        have er : res = k := by rw [← E.out, if_pos hq]
        subst er
        go_wp2_with (go_at_fn 28; refine hcall.mono ?_; rintro e w' ⟨rfl, hb'⟩)
        go_ret
        exact ⟨rfl, BW.trans (hb'.mono BW.size)⟩
    · have hk2 : k = l.length := by omega
      subst hk2
      have er : res = -1 := by rw [← H.out, List.drop_length]; rfl
      subst er
      go_wp2
      go_ret
      exact ⟨rfl, BW⟩
theorem plHas_any (a : Option Addr) (cap : Nat) (l : List Pn) (r : ByteArray) (B : Nat) (w : World) (hlen : l.length ≤ 1000) (h : IsPn w a l cap) (hB : w.cell? ⟨B, 0, none⟩ = some (.string r)) (hlt : B < w.heap.size) :
    Calls Tryd.prog 27 #[.slice a l.length cap, .func (.func 28) #[] #[.pointer (some ⟨B, 0, none⟩)]] w fun e w' => e = .returned (.bool (l.any (hasPR r))) ∧ Below w.heap.size w w' := by
  rw [← pidx_any r l 0]
  have hI := plIdx_any a cap l r B w hlen h hB hlt
  clear h
  go_enter Tryd.func27, Tryd.ntmps27
  go_wp2_with fail
  refine hI.mono ?_
  rintro e w' ⟨rfl, hb⟩
  go_wp2
  go_ret
  exact ⟨rfl, hb⟩
set_option maxHeartbeats 1000000 in
theorem checkRef_any (a : Option Addr) (cap : Nat) (l : List Pn) (r : ByteArray) (w : World) (hlen : l.length ≤ 1000) (h : IsPn w a l cap) :
    Calls Tryd.prog 16 #[.slice a l.length cap, .string r] w fun e w' => e = .returned (chE (refBad l r)) ∧ Below w.heap.size w w' := by
  obtain ⟨w0, hw0⟩ : ∃ w0, w.alloc (.cells #[.string r] 9) = w0 := ⟨_, rfl⟩
  have b0 : Below w.heap.size w w0 := by rw [← hw0]; exact (Below.refl _ w).alloc (Nat.le_refl _) _
  have k0 : w0.cell? ⟨w.heap.size, 0, none⟩ = some (.string r) := by rw [← hw0]; simp
  have hs : w.heap.size < w0.heap.size := by rw [← hw0]; simp
  have HI : Hid (Calls _ _ _ _ _) := plIsRef_any r w0
  have HK : Hid (∀ W, Below w0.heap.size w0 W → W.cell? ⟨w.heap.size, 0, none⟩ = some (.string r) ∧ Below w.heap.size w W ∧ Calls Tryd.prog 27 #[.slice a l.length cap, .func (.func 28) #[] #[.pointer (some ⟨w.heap.size, 0, none⟩)]] W fun e w' => e = .returned (.bool (l.any (hasPR r))) ∧ Below W.heap.size W w') := fun W hW => by
    have k1 := (hW.cell (p := ⟨w.heap.size, 0, none⟩) hs).trans k0
    exact ⟨k1, b0.trans (hW.mono (by omega)), plHas_any a cap l r w.heap.size W hlen ((h.below b0).below hW) k1 (by have := hW.size; omega)⟩
  obtain ⟨res, hres⟩ : ∃ res, refBad l r = res := ⟨_, rfl⟩
  have Hres : Hid (refBad l r = res) := hres
  rw [hres]
  have HW0 : Hid (_ = w0) := hw0
  clear hres h hw0 b0 hs
  cases hr : isPRef r
  · rw [hr] at HI
    have er : res = 2 := by rw [← Hres.out]; unfold refBad; rw [if_pos hr]
    subst er
    rw [chE_ne (by decide)]
    clear Hres
    go_enter Tryd.func16, Tryd.ntmps16
    go_upto_region 1 with fail
    rw [HW0.out]
    clear HW0
    go_wp2_with fail
    refine HI.out.mono ?_
    rintro e w1 ⟨rfl, hb1⟩
    have B1 := (HK.out w1 hb1).2.1
    clear HI HK hb1 k0
    go_wp2
    go_ret
    exact ⟨rfl, B1⟩
  rw [hr] at HI
  have HR1 : Hid ((if l.any (hasPR r) = true then (8 : Int) else 0) = res) := by
    have := Hres.out
    unfold refBad at this
    rw [if_neg (by rw [hr]; simp : ¬ isPRef r = false)] at this
    exact this
  clear Hres hr
  cases ha : l.any (hasPR r)
  · rw [ha] at HK HR1
    have er : res = 0 := by rw [← HR1.out]; rfl
    subst er
    rw [chE_zero]
    clear HR1 ha
    go_enter Tryd.func16, Tryd.ntmps16
    go_upto_region 1 with fail
    rw [HW0.out]
    clear HW0
    go_wp2_with fail
    refine HI.out.mono ?_
    rintro e w1 ⟨rfl, hb1⟩
    obtain ⟨k1, B1, hC⟩ := HK.out w1 hb1
    have HC : Hid (Calls _ _ _ _ _) := hC
    clear HI HK hb1 k0 hC
    go_wp2_with fail
    refine HC.out.mono ?_
    rintro e w2 ⟨rfl, hb2⟩
    have B2 := B1.trans (hb2.mono B1.size)
    clear HC hb2
    go_wp2
    go_ret
    exact ⟨rfl, B2⟩
  · rw [ha] at HK HR1
    have er : res = 8 := by rw [← HR1.out]; rfl
    subst er
    rw [chE_ne (by decide)]
    clear HR1 ha
    go_enter Tryd.func16, Tryd.ntmps16
    go_upto_region 1 with fail
    rw [HW0.out]
    clear HW0
    go_wp2_with fail
    refine HI.out.mono ?_
    rintro e w1 ⟨rfl, hb1⟩
    obtain ⟨k1, B1, hC⟩ := HK.out w1 hb1
    have HC : Hid (Calls _ _ _ _ _) := hC
    clear HI HK hb1 k0 hC
    go_wp2_with fail
    refine HC.out.mono ?_
    rintro e w2 ⟨rfl, hb2⟩
    have B2 := B1.trans (hb2.mono B1.size)
    clear HC hb2
    go_wp2
    go_ret
    exact ⟨rfl, B2⟩
end Go.Proofs.YtdadhoangnkfeaaDoor
