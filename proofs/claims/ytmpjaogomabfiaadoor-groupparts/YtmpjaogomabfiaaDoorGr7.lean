/-
  What is wrong with any holdings: the contract of group.Check.
-/
import Derived.Test.YtmpjaogomabfiaaDoorGr5
import Derived.Test.YtmpjaogomabfiaaDoorGr6
namespace Go.Proofs.YtmpjaogomabfiaaDoor
set_option linter.unusedVariables false
set_option linter.unusedSimpArgs false
set_option maxRecDepth 100000
open Go.RowKit Go.Lib

def nxGo : List Ho → List Ho → Int
  | _, [] => 0
  | a, x :: l => if nxBad a x ≠ 0 then nxBad a x else nxGo (a ++ [x]) l
def hadOver (l : List Ho) : Bool := (List.range 13).any fun n => decide (1000 < hadL l n)
/-- What is wrong with holdings that are right one by one. -/
def hBad2 (l : List Ho) : Int := if hadOver l = true then 11 else if 0 < (prN l.length l).length then 5 else 0
/-- What is wrong with holdings. -/
def hBad (l : List Ho) : Int := if 20 < l.length then 4 else if nxGo [] l ≠ 0 then nxGo [] l else hBad2 l
theorem nxGo_all : ∀ (l a : List Ho), nxGo a l = 0 → ∀ k, k < l.length → nxBad (a ++ l.take k) (l.getD k ho0) = 0
  | [], _, _, k, hk => absurd hk (by simp)
  | x :: l, a, h, k, hk => by
    rw [nxGo] at h
    by_cases hx : nxBad a x ≠ 0
    · rw [if_pos hx] at h; exact absurd h hx
    · rw [if_neg hx] at h
      cases k with
      | zero => simpa using Decidable.of_not_not hx
      | succ k =>
        have := nxGo_all l (a ++ [x]) h k (by simpa using hk)
        simpa using this
theorem nxGo_ok {l : List Ho} (h20 : l.length ≤ 20) (h : nxGo [] l = 0) : HoOk l := by
  have A : ∀ x ∈ l, ∃ m, nxBad m x = 0 := fun x hx => by
    obtain ⟨k, hk, rfl⟩ := List.getElem_of_mem hx
    have := nxGo_all l [] h k hk
    rw [List.getD_eq_getElem?_getD, List.getElem?_eq_getElem hk] at this
    exact ⟨_, this⟩
  exact ⟨h20, fun x hx => (nxBad_ok.1 (A x hx).choose_spec).1, fun x hx => (nxBad_ok.1 (A x hx).choose_spec).2.1, fun x hx => (nxBad_ok.1 (A x hx).choose_spec).2.2.1⟩
theorem idx13 (f : Nat → Int) (n : Nat) (hn : n < 13) (W : World) : (Instr.index 40 (.agg (a13 f)) (.int .i64 n)).run Tryd.prog W = .ok (.int .i64 (f n)) W := by
  rcases (by omega : n = 0 ∨ n = 1 ∨ n = 2 ∨ n = 3 ∨ n = 4 ∨ n = 5 ∨ n = 6 ∨ n = 7 ∨ n = 8 ∨ n = 9 ∨ n = 10 ∨ n = 11 ∨ n = 12) with rfl | rfl | rfl | rfl | rfl | rfl | rfl | rfl | rfl | rfl | rfl | rfl | rfl <;> kernel_rfl
theorem over_false {l : List Ho} {n : Nat} (h : ∀ m, m < n → hadL l m ≤ 1000) (hn : n = 13) : hadOver l = false := by
  subst hn
  unfold hadOver
  rw [List.any_eq_false]
  intro m hm
  have := h m (List.mem_range.1 hm)
  simpa using this
theorem over_true {l : List Ho} {n : Nat} (h : 1000 < hadL l n) (hn : n < 13) : hadOver l = true := by
  unfold hadOver
  rw [List.any_eq_true]
  exact ⟨n, List.mem_range.2 hn, by simpa using h⟩
theorem IsHo.take {w : World} {a : Option Addr} {l : List Ho} {cap : Nat} (h : IsHo w a l cap) (k : Nat) : IsHo w a (l.take k) cap := by
  refine ⟨by have := h.cap; rw [List.length_take]; omega, ?_⟩
  rcases h.lies with rfl | ⟨b, off, rfl, hlt, hc⟩
  · exact .inl (by simp)
  · refine .inr ⟨b, off, rfl, hlt, fun j hj => ?_⟩
    rw [List.length_take] at hj
    have := hc j (by omega)
    rwa [List.getD_eq_getElem?_getD, List.getElem?_take, if_pos (by omega), ← List.getD_eq_getElem?_getD]

set_option maxHeartbeats 8000000 in
theorem grCheck_any (a : Option Addr) (cap : Nat) (l : List Ho) (w : World) (hll : l.length ≤ 9223372036854775807) (h : IsHo w a l cap) :
    Calls Tryd.prog 5 #[.slice a l.length cap] w fun e w' => e = .returned (grE (hBad l)) ∧ Below w.heap.size w w' := by
  by_cases h20 : 20 < l.length
  · have e1 : grE (hBad l) = .iface 35 (.int .i64 4) := by unfold hBad; rw [if_pos h20]; rfl
    have i1 : (20 : Int) < l.length := by omega
    rw [e1]
    clear h e1
    go_enter Tryd.func5, Tryd.ntmps5
    go_wp2
    go_ret
    exact ⟨rfl, Below.refl _ _⟩
  have HRes : Hid (hBad l = if nxGo [] l ≠ 0 then nxGo [] l else hBad2 l) := if_neg h20
  obtain ⟨res, hres⟩ : ∃ res, hBad l = res := ⟨_, rfl⟩
  rw [hres] at HRes ⊢
  have i1 : ¬ (20 : Int) < l.length := by omega
  have i2 : (l.length : Int) ≤ 20 := by omega
  have Hs : Hid (IsHo w a l cap) := h
  clear hres h
  go_enter Tryd.func5, Tryd.ntmps5
  go_wp2
  go_loopw [14] (fun i wr => ∃ k : Nat, k ≤ l.length ∧ i = .int .i64 k ∧ Hid (nxGo (l.take k) (l.drop k) = nxGo [] l) ∧ Below w.heap.size w wr) (fun i _ => l.length - (intOf i).toNat)
  case atStart => exact ⟨0, Nat.zero_le _, rfl, by unfold Hid; simp, Below.refl _ _⟩
  case round =>
    obtain ⟨k, hk, rfl, H, BW⟩ := hrel
    by_cases hlt : k < l.length
    · obtain ⟨b, off, rfl, hb, hc⟩ := Hs.out.some hlt
      have hn := (hc k hlt).below BW hb
      have E : Hid ((if nxBad (l.take k) (l.getD k ho0) ≠ 0 then nxBad (l.take k) (l.getD k ho0) else nxGo (l.take (k + 1)) (l.drop (k + 1))) = nxGo [] l) := by
        have := H.out
        rw [hos_drop l k hlt] at this
        rw [hos_take l k hlt]
        exact this
      have hcall : ∀ W, Below w.heap.size w W → Calls Tryd.prog 11 #[.slice (some ⟨b, off, none⟩) k cap, .agg (l.getD k ho0).cells] W fun e w' => e = .returned (grE (nxBad (l.take k) (l.getD k ho0))) ∧ Below w.heap.size w w' := fun W hW => by
        have := checkNext_any (some ⟨b, off, none⟩) cap (l.take k) (l.getD k ho0) W (by simp; omega) ((Hs.out.below hW).take k)
        rw [show (l.take k).length = k by simp; omega] at this
        refine this.mono ?_
        rintro e w' ⟨rfl, hb'⟩
        exact ⟨rfl, hW.trans (hb'.mono hW.size)⟩
      have hcap : (l.length : Int) ≤ cap := by have := Hs.out.cap; omega
      clear H hc
      obtain ⟨bad, hbad⟩ : ∃ bad, nxBad (l.take k) (l.getD k ho0) = bad := ⟨_, rfl⟩
      rw [hbad] at hcall E
      clear hbad
      generalize l.getD k ho0 = x at *
      obtain ⟨x0, x1, x2⟩ := x
      obtain ⟨c0, c1, c2⟩ := hn
      simp only [Ho.cells] at c0 c1 c2 hcall
      have Hcall : Hid (∀ W, _) := hcall
      clear hcall
      have i0 : (0 : Int) ≤ k := by omega
      have i3 : (k : Int) < l.length := by omega
      have i4 : (k : Int) ≤ cap := by omega
      have B2 := BW.alloc BW.size (.cells #[.int .i64 x0, .int .i64 x1, .int .i64 x2] 38)
      by_cases hb0 : bad = 0
      · subst hb0
        have HN : Hid (nxGo (l.take (k + 1)) (l.drop (k + 1)) = nxGo [] l) := by
          have := E.out; rw [if_neg (by simp)] at this; exact this
        rw [grE_zero] at Hcall
        clear E HRes Hs
        go_wp2_with fail
        go_region_with (go_at_call 11; refine (Hcall.out _ B2.drew).mono ?_; rintro e w' ⟨rfl, hb'⟩)
        all_goals
          go_wp2
          go_roundw
          case rel => exact ⟨k + 1, by omega, by go_num, HN, hb'⟩
          case measure => simp [intOf]; omega
      · have er : res = bad := by
          have h1 := E.out
          rw [if_pos hb0] at h1
          rw [HRes.out, ← h1, if_pos hb0]
        subst er
        have hE := grE_ne hb0
        rw [hE] at Hcall
        have HE : Hid (grE res = _) := hE
        clear hE E HRes Hs
        go_wp2_with fail
        go_region_with (go_at_call 11; refine (Hcall.out _ B2.drew).mono ?_; rintro e w' ⟨rfl, hb'⟩)
        all_goals
          go_wp2
          go_ret
          exact ⟨by rw [HE.out]; rfl, hb'⟩
    · have hk2 : k = l.length := by omega
      subst hk2
      have e0 : nxGo [] l = 0 := by rw [← H.out, List.drop_length]; rfl
      have hok := nxGo_ok (by omega) e0
      have HR2 : Hid (hBad2 l = res) := by unfold Hid; rw [HRes.out, if_neg (by simp [e0])]
      have HBW : Hid (Below w.heap.size w wr) := BW
      have HH : Hid (Calls Tryd.prog 12 #[.slice a l.length cap] wr fun e w' => e = .returned (.agg (a13 (hadL l))) ∧ Below wr.heap.size wr w') := had_any a cap l wr hok (Hs.out.below BW)
      have HCi : Hid (∀ W, Below w.heap.size w W → Calls Tryd.prog 13 #[.slice a l.length cap] W fun e w' => e = .returned (.bool (decide (0 < (prN l.length l).length))) ∧ Below W.heap.size W w') := fun W hW => circle_any a cap l W hok (Hs.out.below hW)
      have Hbd : Hid (∀ n, 0 ≤ hadL l n ∧ hadL l n ≤ 20000) := hok.had
      have HIx : Hid (∀ (n : Nat), n < 13 → ∀ W, (Instr.index 40 (.agg (a13 (hadL l))) (.int .i64 n)).run Tryd.prog W = .ok (.int .i64 (hadL l n)) W) := fun n hn W => idx13 _ n hn W
      have HOv : Hid (∀ n, n < 13 → 1000 < hadL l n → hBad2 l = 11) := fun n hn h => by unfold hBad2; rw [over_true h hn]; rfl
      have HNo : Hid ((∀ m, m < 13 → hadL l m ≤ 1000) → hBad2 l = if 0 < (prN l.length l).length then 5 else 0) := fun h => by unfold hBad2; rw [over_false h rfl]; rfl
      clear HRes H e0 hok BW Hs
      unfold a13 at HH HIx
      generalize hadL l = f at *
      generalize hBad2 l = r2 at *
      generalize (prN l.length l).length = pz at *
      have er : res = r2 := HR2.out.symm
      subst er
      clear HR2
      go_wp2_with fail
      refine HH.out.mono ?_
      rintro e w3 ⟨rfl, hb3⟩
      have HB3 : Hid (Below w.heap.size w w3) := HBW.out.trans (hb3.mono HBW.out.size)
      clear HH hb3 HBW
      go_wp2
      go_loopw [30] (fun i wq => ∃ n : Nat, n ≤ 13 ∧ i = .int .i64 n ∧ Hid (∀ m, m < n → f m ≤ 1000) ∧ wq = w3) (fun i _ => 13 - (intOf i).toNat)
      case atStart => exact ⟨0, Nat.zero_le _, rfl, (fun m hm => absurd hm (Nat.not_lt_zero m)), rfl⟩
      case round =>
        obtain ⟨n, hn, rfl, HF, rfl⟩ := hrel
        have n0 : (0 : Int) ≤ n := by omega
        by_cases hlt13 : n < 13
        · have n1 : (n : Int) < 13 := by omega
          have hix := HIx.out n hlt13
          have hbd := Hbd.out n
          by_cases ho : 1000 < f n
          · have er : res = 11 := HOv.out n hlt13 ho
            subst er
            clear HOv HNo HF HIx Hbd
            generalize f n = z at *
            go_wp2
            go_ret
            exact ⟨rfl, HB3.out⟩
          · have HF2 : Hid (∀ m, m < n + 1 → f m ≤ 1000) := fun m hm => by
              by_cases e : m = n
              · subst e; omega
              · exact HF.out m (by omega)
            clear HF HIx HOv HNo Hbd
            generalize f n = z at *
            go_wp2
            go_roundw
            case rel => exact ⟨n + 1, by omega, by go_num, HF2, by first | rfl | trivial⟩
            case measure => simp [intOf]; omega
        · have e13 : n = 13 := by omega
          subst e13
          have er : res = if 0 < pz then 5 else 0 := HNo.out HF.out
          have HCi2 : Hid (Calls _ _ _ _ _) := HCi.out _ HB3.out
          clear HNo HOv HF HIx Hbd HCi
          by_cases hz : 0 < pz
          · rw [if_pos hz] at er
            subst er
            have ez : decide (0 < pz) = true := by simpa using hz
            rw [ez] at HCi2
            go_wp2_with fail
            refine HCi2.out.mono ?_
            rintro e w5 ⟨rfl, hb5⟩
            have HB5 : Hid (Below w.heap.size w w5) := HB3.out.trans (hb5.mono HB3.out.size)
            clear HCi2 hb5
            go_wp2
            go_ret
            exact ⟨rfl, HB5.out⟩
          · rw [if_neg hz] at er
            subst er
            have ez : decide (0 < pz) = false := by simpa using hz
            rw [ez] at HCi2
            go_wp2_with fail
            refine HCi2.out.mono ?_
            rintro e w5 ⟨rfl, hb5⟩
            have HB5 : Hid (Below w.heap.size w w5) := HB3.out.trans (hb5.mono HB3.out.size)
            clear HCi2 hb5
            go_wp2
            go_ret
            exact ⟨rfl, HB5.out⟩
end Go.Proofs.YtmpjaogomabfiaaDoor
