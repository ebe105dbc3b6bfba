/-
  Holdings that are left out again and again: the contract of group.hasCircle.
-/
import Derived.Test.YtmpjaogomabfiaaDoorGr4
import Derived.Deep.Cut
namespace Go.Proofs.YtmpjaogomabfiaaDoor
set_option linter.unusedVariables false
set_option linter.unusedSimpArgs false
set_option maxRecDepth 100000
open Go.RowKit Go.Lib

/-- Is a holding of an entity of which nobody has a part? -/
def outB (f : Nat → Int) (x : Ho) : Bool := decide (f x.en.toNat = 0)
/-- What stays where such are left out. -/
def prn (l : List Ho) : List Ho := l.filter fun x => !(outB (hadL l) x)
def prN : Nat → List Ho → List Ho
  | 0, l => l
  | n + 1, l => prn (prN n l)
theorem prn_sub (l : List Ho) : (prn l).Sublist l := List.filter_sublist
theorem prN_sub : ∀ (n : Nat) (l : List Ho), (prN n l).Sublist l
  | 0, l => List.Sublist.refl l
  | n + 1, l => (prn_sub _).trans (prN_sub n l)

theorem a13_new (w : World) (f : Nat → Int) : A13 (w.alloc (.cells (a13 f) 40)) w.heap.size f := A13.new w f

theorem out_tells (f : Nat → Int) (b : Nat) (l : List Ho) (hl : ∀ x ∈ l, 1 ≤ x.en ∧ x.en ≤ 12) (hf : ∀ n, -1000000 ≤ f n ∧ f n ≤ 1000000) : HTells 23 (.pointer (some ⟨b, 0, none⟩)) (outB f) l (fun W => A13 W b f) := by
  refine ⟨fun args W => rfl, fun y W hy hT => ?_, fun W W' hT hb => hT.below hb hT.lt⟩
  have hlt := hT.lt
  have hen := hl y hy
  have hb := (Below.refl W.heap.size W).alloc (Nat.le_refl _) (.cells y.cells 38)
  have HT2 : A13 (W.alloc (.cells y.cells 38)) b f := hT.below hb hlt
  obtain ⟨y0, y1, y2⟩ := y
  simp only at hen
  obtain ⟨m, rfl⟩ : ∃ m : Nat, y0 = m := ⟨y0.toNat, by omega⟩
  have hc := HT2.cell m (by omega)
  have hm0 : (0 : Int) ≤ m := by omega
  have hm1 : (m : Int) < 13 := by omega
  have hfm := hf m
  unfold outB
  simp only [Ho.cells, Int.toNat_natCast] at hc hb ⊢
  clear HT2 hT hlt hf hl hy
  by_cases e : f m = 0
  · have e1 : decide (f m = 0) = true := by simp [e]
    simp only [e1]
    rw [e] at hc
    clear hfm
    go_enter Tryd.func23, Tryd.ntmps23
    go_wp2
    go_ret
    exact ⟨rfl, hb⟩
  · have e1 : decide (f m = 0) = false := by simp [e]
    simp only [e1]
    clear e1
    generalize f m = z at *
    have e2 : (z == 0) = false := beq_eq_false_iff_ne.2 e
    go_enter Tryd.func23, Tryd.ntmps23
    go_wp2
    go_ret
    exact ⟨by simp [e2], hb⟩

theorem ho_src {w : World} {a : Option Addr} {l : List Ho} {cap : Nat} (h : IsHo w a l cap) : l.length ≠ 0 → ∃ x : Addr, a = some x ∧ x.block < w.heap.size ∧ ∀ j u, (hoRow l)[j]? = some u → w.cell? (x.add j) = some u := by
  intro hne
  rcases h.lies with rfl | ⟨b, off, rfl, hlt, hc⟩
  · exact absurd rfl hne
  · refine ⟨_, rfl, hlt, fun j u hu => ?_⟩
    have hj : j < l.length * 3 := by
      rw [← hoRow_length]
      exact (List.getElem?_eq_some_iff.1 hu).1
    obtain ⟨q, r, hr, rfl⟩ : ∃ q r, r < 3 ∧ j = q * 3 + r := ⟨j / 3, j % 3, Nat.mod_lt _ (by omega), by omega⟩
    rw [hoRow_get l q r (by omega) hr] at hu
    have hq := hc q (by omega)
    have ea : (⟨b, off, none⟩ : Addr).add (q * 3 + r) = ⟨b, off + (q * 3 + r), none⟩ := by simp [Addr.add]
    rw [ea]
    rcases (by omega : r = 0 ∨ r = 1 ∨ r = 2) with rfl | rfl | rfl
    · rw [← hu, ← Nat.add_assoc]; exact hq.c0
    · rw [← hu, ← Nat.add_assoc]; exact hq.c1
    · rw [← hu, ← Nat.add_assoc]; exact hq.c2

set_option maxHeartbeats 4000000 in
theorem circle_any (a : Option Addr) (cap : Nat) (l : List Ho) (w : World) (hok : HoOk l) (h : IsHo w a l cap) :
    Calls Tryd.prog 13 #[.slice a l.length cap] w fun e w' => e = .returned (.bool (decide (0 < (prN l.length l).length))) ∧ Below w.heap.size w w' := by
  have HC : Hid (Calls Tryd.prog 21 #[.slice a l.length cap] w fun e w' => ∃ a' c', e = .returned (.slice a' l.length c') ∧ HoRow w' w.heap.size (.slice a' l.length c') l ∧ Below w.heap.size w w') :=
    clone_Ho a l.length cap (hoRow l) w (hoRow_length l) (hoRow_one_cell l) (ho_src h) (by have := hok.len; omega)
  have Hok : Hid (HoOk l) := hok
  have hlen : (l.length : Int) ≤ 20 := by have := hok.len; omega
  clear h hok
  obtain ⟨z, hz⟩ : ∃ z, (prN l.length l).length = z := ⟨_, rfl⟩
  have HZ : Hid ((prN l.length l).length = z) := hz
  have hl2 : (z : Int) ≤ 20 := by have := (prN_sub l.length l).length_le; omega
  rw [hz]
  clear hz
  go_enter Tryd.func13, Tryd.ntmps13
  go_wp2_with fail
  refine HC.out.mono ?_
  rintro e w1 ⟨a1, c1, rfl, hr1, hb1⟩
  have HR1 : Hid (HoRow w1 w.heap.size (.slice a1 l.length c1) l) := hr1
  have HB1 : Hid (Below w.heap.size w w1) := hb1
  clear hr1 hb1 HC
  go_wp2
  go_loopw [3, 9] (fun v i wr => ∃ (k : Nat) (a' : Option Addr) (c' n' : Nat), k ≤ l.length ∧ i = .int .i64 k ∧ v = .slice a' n' c' ∧ Hid (n' = (prN k l).length ∧ HoRow wr w.heap.size (.slice a' n' c') (prN k l)) ∧ Hid (Below w.heap.size w wr)) (fun _ i _ => l.length - (intOf i).toNat)
  case atStart => exact ⟨0, a1, c1, l.length, Nat.zero_le _, rfl, rfl, ⟨rfl, HR1.out⟩, HB1⟩
  case round =>
    obtain ⟨k, a2, c2, n2, hk, rfl, rfl, HR, HB⟩ := hrel
    clear HR1 HB1
    by_cases hlt : k < l.length
    · have hsub := prN_sub k l
      have Hk : Hid (HoOk (prN k l)) := Hok.out.sub hsub
      obtain ⟨m, hm⟩ : ∃ m, prN k l = m := ⟨_, rfl⟩
      have HN : Hid (prN (k + 1) l = prn m) := by show prn (prN k l) = _; rw [hm]
      rw [hm] at HR Hk
      obtain ⟨rfl, hrow⟩ := HR.out
      have hk20 := Hk.out.len
      have hki : (k : Int) < l.length := by omega
      have hk0 : (0 : Int) ≤ k := by omega
      obtain ⟨a', c', e', his⟩ := hrow.isHo
      cases e'
      have HH : Hid (Calls Tryd.prog 12 #[.slice a2 m.length c2] wr fun e w' => e = .returned (.agg (a13 (hadL m))) ∧ Below wr.heap.size wr w') := had_any a2 c2 m wr Hk.out his
      have HRw : Hid (HoRow wr w.heap.size (.slice a2 m.length c2) m) := hrow
      have HD : Hid (∀ W2, Below wr.heap.size wr W2 → Calls Tryd.prog 22 #[.slice a2 m.length c2, .func (.func 23) #[] #[.pointer (some ⟨W2.heap.size, 0, none⟩)]] (W2.alloc (.cells (a13 (hadL m)) 40)) fun e w' => ∃ v', e = .returned v' ∧ HoRow w' w.heap.size v' (prn m) ∧ Below w.heap.size (W2.alloc (.cells (a13 (hadL m)) 40)) w') := fun W2 hW2 => by
        have hr2 : HoRow W2 w.heap.size (.slice a2 m.length c2) m := hrow.below hW2
        have hb2 := (Below.refl W2.heap.size W2).alloc (Nat.le_refl _) (.cells (a13 (hadL m)) 40)
        have hlt2 : ∀ g, (Value.slice a2 m.length c2).ownBlock = some g → g < W2.heap.size := fun g hg => (World.ownsRow.lt hr2 g hg).2
        refine hdelete_own _ _ (outB (hadL m)) (fun W => A13 W W2.heap.size (hadL m)) w.heap.size _ m _ (a13_new W2 _) (out_tells _ _ m Hk.out.en (fun n => by have := Hk.out.had n; omega)) ?_ (by omega) ?_ (hr2.below hb2)
        · intro W g off x hg hA
          have := hlt2 g hg
          unfold A13 at hA ⊢
          rw [Below.heap_setCell]
          · exact hA
          · show W2.heap.size ≠ g
            omega
        · have := hb2.size
          have h3 := hW2.size
          have h4 := HB.out.size
          omega
      have HTr : Hid (∀ W2, Below wr.heap.size wr W2 → Below w.heap.size w (W2.alloc (.cells (a13 (hadL m)) 40))) := fun W2 hW2 => by
        have h2 := HB.out.trans (hW2.mono HB.out.size)
        exact h2.alloc h2.size _
      unfold a13 at HH HD HTr
      generalize hadL m = f at *
      clear HR HRw his hrow HB hsub hm
      go_wp2_with fail
      refine HH.out.mono ?_
      rintro e w3 ⟨rfl, hb3⟩
      have HD3 : Hid (Calls _ _ _ _ _) := HD.out w3 hb3
      have HT3 : Hid _ := HTr.out w3 hb3
      clear HH HD HTr hb3
      go_wp2_with fail
      refine HD3.out.mono ?_
      rintro e w4 ⟨v', rfl, hr4, hb4⟩
      obtain ⟨a4, c4, rfl, _⟩ := hr4.isHo
      have HR4 : Hid ((prn m).length = (prN (k + 1) l).length ∧ HoRow w4 w.heap.size (.slice a4 (prn m).length c4) (prN (k + 1) l)) := by
        rw [HN.out]; exact ⟨rfl, hr4⟩
      have HB4 : Hid (Below w.heap.size w w4) := HT3.out.trans hb4
      clear HD3 HT3 hr4 hb4 HN
      go_wp2
      go_roundw
      case rel => exact ⟨k + 1, a4, c4, _, by omega, by go_num, rfl, HR4, HB4⟩
      case measure => simp [intOf]; omega
    · have hk2 : k = l.length := by omega
      subst hk2
      obtain ⟨rfl, hrow⟩ := HR.out
      have HB2 : Hid (Below w.heap.size w wr) := HB
      rw [HZ.out]
      clear HR HB hrow HZ
      go_wp2
      go_ret
      exact ⟨rfl, HB2.out⟩
end Go.Proofs.YtmpjaogomabfiaaDoor
