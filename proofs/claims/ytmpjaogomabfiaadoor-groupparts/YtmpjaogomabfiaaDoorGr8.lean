/-
  How many thousandths the top has of an entity: the closure of group.Parts, which calls itself.
-/
import Derived.Test.YtmpjaogomabfiaaDoorGr7
namespace Go.Proofs.YtmpjaogomabfiaaDoor
set_option linter.unusedVariables false
set_option linter.unusedSimpArgs false
set_option maxRecDepth 100000
open Go.RowKit Go.Lib

/-- What comes together of those that have a part of an entity. -/
def ptS (l : List Ho) (e : Int) (v : Int → Int) : Int := (l.map fun h => if h.of_ = e then v h.en * h.pt else 0).sum
theorem ptS_snoc (l : List Ho) (x : Ho) (e : Int) (v : Int → Int) : ptS (l ++ [x]) e v = ptS l e v + if x.of_ = e then v x.en * x.pt else 0 := by simp [ptS]
theorem ptS_bd (v : Int → Int) (e : Int) : ∀ l : List Ho, (∀ x ∈ l, 1 ≤ x.pt ∧ x.pt ≤ 1000) → (∀ x ∈ l, x.of_ = e → 0 ≤ v x.en ∧ v x.en ≤ 1000) → 0 ≤ ptS l e v ∧ ptS l e v ≤ 1000000 * l.length
  | [], _, _ => by simp [ptS]
  | x :: l, h, hv => by
    have ih := ptS_bd v e l (fun y hy => h y (List.mem_cons_of_mem _ hy)) (fun y hy => hv y (List.mem_cons_of_mem _ hy))
    have hx := h x List.mem_cons_self
    have hvx := hv x List.mem_cons_self
    have e1 : ptS (x :: l) e v = (if x.of_ = e then v x.en * x.pt else 0) + ptS l e v := by simp [ptS]
    rw [e1, List.length_cons]
    split
    · rename_i h1
      obtain ⟨v0, v1⟩ := hvx h1
      have p0 : 0 ≤ v x.en * x.pt := Int.mul_nonneg v0 (by omega)
      have p1 : v x.en * x.pt ≤ 1000 * 1000 := Int.mul_le_mul v1 hx.2 (by omega) (by omega)
      omega
    · omega

/-- What the closure stands on. -/
structure PtAt (W : World) (B1 B2 B3 : Nat) (a : Option Addr) (l : List Ho) (cap : Nat) (top : Int) : Prop where
  c1 : W.cell? ⟨B1, 0, none⟩ = some (.int .i64 top)
  c2 : W.cell? ⟨B2, 0, none⟩ = some (.slice a l.length cap)
  c3 : W.cell? ⟨B3, 0, none⟩ = some (.func (.func 17) #[] #[.pointer (some ⟨B1, 0, none⟩), .pointer (some ⟨B2, 0, none⟩), .pointer (some ⟨B3, 0, none⟩)])
  l1 : B1 < W.heap.size
  l2 : B2 < W.heap.size
  l3 : B3 < W.heap.size
  ho : IsHo W a l cap
theorem PtAt.below {W V : World} {B1 B2 B3 : Nat} {a : Option Addr} {l : List Ho} {cap : Nat} {top : Int} (h : PtAt W B1 B2 B3 a l cap top) (hb : Below W.heap.size W V) : PtAt V B1 B2 B3 a l cap top :=
  ⟨(hb.cell (p := ⟨B1, 0, none⟩) h.l1).trans h.c1, (hb.cell (p := ⟨B2, 0, none⟩) h.l2).trans h.c2, (hb.cell (p := ⟨B3, 0, none⟩) h.l3).trans h.c3, Nat.lt_of_lt_of_le h.l1 hb.size, Nat.lt_of_lt_of_le h.l2 hb.size, Nat.lt_of_lt_of_le h.l3 hb.size, h.ho.below hb⟩

set_option maxHeartbeats 8000000 in
theorem part_step (B1 B2 B3 : Nat) (a : Option Addr) (l : List Ho) (cap : Nat) (top e : Int) (v : Int → Int) (w : World) (hl : l.length ≤ 20) (hp : ∀ x ∈ l, 1 ≤ x.pt ∧ x.pt ≤ 1000) (hv : ∀ x ∈ l, x.of_ = e → 0 ≤ v x.en ∧ v x.en ≤ 1000)
    (hc : ∀ x ∈ l, x.of_ = e → ∀ W, PtAt W B1 B2 B3 a l cap top → Calls Tryd.prog 17 #[.int .i64 x.en, .pointer (some ⟨B1, 0, none⟩), .pointer (some ⟨B2, 0, none⟩), .pointer (some ⟨B3, 0, none⟩)] W fun r w' => r = .returned (.int .i64 (v x.en)) ∧ Below W.heap.size W w') (h : PtAt w B1 B2 B3 a l cap top) :
    Calls Tryd.prog 17 #[.int .i64 e, .pointer (some ⟨B1, 0, none⟩), .pointer (some ⟨B2, 0, none⟩), .pointer (some ⟨B3, 0, none⟩)] w fun r w' => r = .returned (.int .i64 (if e = top then 1000 else ptS l e v / 1000)) ∧ Below w.heap.size w w' := by
  have H : Hid (PtAt w B1 B2 B3 a l cap top) := h
  obtain ⟨c1, c2, c3, l1, l2, l3, ho⟩ := h
  by_cases he : e = top
  · subst he
    rw [if_pos rfl]
    clear hc hv hp H
    go_enter Tryd.func17, Tryd.ntmps17
    go_wp2
    go_ret
    exact ⟨rfl, Below.refl _ _⟩
  rw [if_neg he]
  have he1 : (e == top) = false := beq_eq_false_iff_ne.2 he
  have Hc : Hid _ := hc
  have Hv : Hid (∀ x ∈ l, x.of_ = e → 0 ≤ v x.en ∧ v x.en ≤ 1000) := hv
  have Hp : Hid (∀ x ∈ l, 1 ≤ x.pt ∧ x.pt ≤ 1000) := hp
  have i2 : (l.length : Int) ≤ 20 := by omega
  have HQ : Hid (∀ k, 0 ≤ ptS (l.take k) e v ∧ ptS (l.take k) e v ≤ 20000000) := fun k => by
    have := ptS_bd v e (l.take k) (fun x hx => hp x (List.mem_of_mem_take hx)) (fun x hx => hv x (List.mem_of_mem_take hx))
    have h2 : (l.take k).length ≤ 20 := by rw [List.length_take]; omega
    omega
  obtain ⟨res, hres⟩ : ∃ res, ptS l e v = res := ⟨_, rfl⟩
  have HR : Hid (ptS l e v = res) := hres
  rw [hres]
  clear hres hc hv hp ho
  go_enter Tryd.func17, Tryd.ntmps17
  go_wp2
  go_loopw [6, 14] (fun s i wr => ∃ k : Nat, k ≤ l.length ∧ i = .int .i64 k ∧ s = .int .i64 (ptS (l.take k) e v) ∧ Hid (Below w.heap.size w wr)) (fun _ i _ => l.length - (intOf i).toNat)
  case atStart => exact ⟨0, Nat.zero_le _, rfl, rfl, Below.refl _ _⟩
  case round =>
    obtain ⟨k, hk, rfl, rfl, HB⟩ := hrel
    have hbd := HQ.out k
    by_cases hlt : k < l.length
    · obtain ⟨b, off, rfl, hb, hcc⟩ := H.out.ho.some hlt
      have hx := (hcc k hlt).below HB.out hb
      have hmem := hos_mem l k hlt
      have hp1 := Hp.out _ hmem
      have hv1 := Hv.out _ hmem
      have HT : Hid (ptS (l.take (k + 1)) e v = ptS (l.take k) e v + if (l.getD k ho0).of_ = e then v (l.getD k ho0).en * (l.getD k ho0).pt else 0) := by
        unfold Hid; rw [hos_take l k hlt, ptS_snoc]
      have hc1 := fun h => Hc.out (l.getD k ho0) hmem h
      have HPt : Hid (PtAt wr B1 B2 B3 _ l cap top) := H.out.below HB.out
      obtain ⟨q1, q2, q3, m1, m2, m3, _⟩ := HPt.out
      clear hmem hcc c1 c2 c3 l1 l2 l3
      generalize l.getD k ho0 = x at *
      have hba : Below wr.heap.size wr (wr.alloc (.cells x.cells 38)) := (Below.refl _ wr).alloc (Nat.le_refl _) _
      have HPa : Hid (PtAt (wr.alloc (.cells x.cells 38)) B1 B2 B3 _ l cap top) := HPt.out.below hba
      have HBa : Hid (Below w.heap.size w (wr.alloc (.cells x.cells 38))) := HB.out.trans (hba.mono HB.out.size)
      have hat := HoAt.new wr x 38
      obtain ⟨r1, r2, r3, _, _, _, _⟩ := HPa.out
      have i0 : (0 : Int) ≤ k := by omega
      have i3 : (k : Int) < l.length := by omega
      by_cases hof : x.of_ = e
      · rw [if_pos hof] at HT
        obtain ⟨v0, v1⟩ := hv1 hof
        have HCc : Hid (∀ W, Below wr.heap.size (wr.alloc (.cells x.cells 38)) W → Below (wr.alloc (.cells x.cells 38)).heap.size (wr.alloc (.cells x.cells 38)) W → Calls Tryd.prog 17 #[.int .i64 x.en, .pointer (some ⟨B1, 0, none⟩), .pointer (some ⟨B2, 0, none⟩), .pointer (some ⟨B3, 0, none⟩)] W fun r w' => r = .returned (.int .i64 (v x.en)) ∧ Below w.heap.size w w' ∧ w'.cell? ⟨wr.heap.size, 2, none⟩ = some (.int .i64 x.pt)) := fun W _ hW => by
          refine (hc1 hof W (HPa.out.below hW)).mono ?_
          rintro r w' ⟨rfl, hb'⟩
          have h3 := hW.trans (hb'.mono hW.size)
          refine ⟨rfl, HBa.out.trans (h3.mono HBa.out.size), ?_⟩
          have := (hat.below h3 (by simp)).c2
          simpa using this
        have hpr0 : 0 ≤ v x.en * x.pt := Int.mul_nonneg v0 (by omega)
        have hpr1 : v x.en * x.pt ≤ 1000 * 1000 := Int.mul_le_mul v1 hp1.2 (by omega) (by omega)
        have hHH : ∀ W : World, Below W.heap.size W W.drew := fun W => ⟨rfl, rfl, rfl, Nat.le_refl _, fun _ _ => rfl⟩
        have eg : ∀ args W, (callFunc 17 args).run Tryd.prog W = .ok (.enter 17 args) W := fun args W => rfl
        obtain ⟨S0, hS0⟩ : ∃ S0, ptS (l.take k) e v = S0 := ⟨_, rfl⟩
        obtain ⟨vx, hvx⟩ : ∃ vx, v x.en = vx := ⟨_, rfl⟩
        rw [hS0] at hbd HT ⊢
        rw [hvx] at HT HCc hpr0 hpr1 v0 v1
        clear hc1 hv1 hS0 hvx HQ Hc Hv Hp HPt HPa hba
        obtain ⟨x0, x1, x2⟩ := x
        obtain ⟨d0, d1, d2⟩ := hx
        simp only [Ho.cells, Nat.zero_add] at d0 d1 d2 hat r1 r2 r3 HT HCc hpr0 hpr1 hof hp1 HBa
        subst hof
        have HXX : Hid (0 ≤ vx * x2 ∧ vx * x2 ≤ 1000 * 1000) := ⟨hpr0, hpr1⟩
        have hm1 : -9223372036854775808 ≤ vx * x2 := by omega
        have hm2 : vx * x2 ≤ 9223372036854775807 := by omega
        clear HR H HB
        go_wp2_with fail
        go_region_with (go_at_call 17; refine (HCc.out _ (gr_drew (Below.refl _ _)) (gr_drew (Below.refl _ _))).mono ?_; rintro r w' ⟨rfl, hb', q2'⟩)
        all_goals
          go_wp2
          go_roundw
          case rel => exact ⟨k + 1, by omega, by go_num, by rw [HT.out], hb'⟩
          case measure => simp [intOf]; omega
      · rw [if_neg hof, Int.add_zero] at HT
        have hof1 : (x.of_ == e) = false := beq_eq_false_iff_ne.2 hof
        have HBx : Hid _ := HBa
        obtain ⟨x0, x1, x2⟩ := x
        obtain ⟨d0, d1, d2⟩ := hx
        simp only [Ho.cells] at d0 d1 d2 HBx hof hof1 r1 r2 r3
        clear HPa HBa HPt hat hc1 hv1 hba
        go_wp2
        go_roundw
        case rel => exact ⟨k + 1, by omega, by go_num, by rw [HT.out], HBx⟩
        case measure => simp [intOf]; omega
    · have hk2 : k = l.length := by omega
      subst hk2
      have er : ptS (l.take l.length) e v = res := by rw [List.take_length]; exact HR.out
      rw [er] at hbd
      rw [er]
      go_wp2
      go_ret
      exact ⟨rfl, HB.out⟩

/-- How many thousandths the top has of an entity, by chains of so many. -/
def pv (l : List Ho) (top : Int) : Nat → Int → Int
  | 0, e => if e = top then 1000 else 0
  | n + 1, e => if e = top then 1000 else ptS l e (pv l top n) / 1000
/-- Nobody has a part of an entity by what stays. -/
def Lev (l : List Ho) (k : Nat) (e : Int) : Prop := ∀ x ∈ prN k l, x.of_ ≠ e
theorem hadL_pos : ∀ (l : List Ho) (n : Nat), (∀ x ∈ l, 1 ≤ x.pt) → hadL l n = 0 → ∀ x ∈ l, x.of_ ≠ (n : Int)
  | [], _, _, _ => by simp
  | y :: l, n, h, h0 => by
    have h1 : ∀ l : List Ho, (∀ x ∈ l, 1 ≤ x.pt) → 0 ≤ hadL l n := fun l => by
      induction l with
      | nil => intro _; simp [hadL]
      | cons z l ih =>
        intro hz
        have e : hadL (z :: l) n = (if z.of_ = (n : Int) then z.pt else 0) + hadL l n := by simp [hadL]
        have := ih (fun x hx => hz x (List.mem_cons_of_mem _ hx))
        have := hz z List.mem_cons_self
        rw [e]; split <;> omega
    have e : hadL (y :: l) n = (if y.of_ = (n : Int) then y.pt else 0) + hadL l n := by simp [hadL]
    have hl := h1 l (fun x hx => h x (List.mem_cons_of_mem _ hx))
    have hy := h y List.mem_cons_self
    rw [e] at h0
    have hne : y.of_ ≠ (n : Int) := fun e2 => by rw [if_pos e2] at h0; omega
    rw [if_neg hne] at h0
    intro x hx
    rcases List.mem_cons.1 hx with rfl | hx
    · exact hne
    · exact hadL_pos l n (fun x hx => h x (List.mem_cons_of_mem _ hx)) (by omega) x hx
theorem prN_le (l : List Ho) : ∀ (k j : Nat), j ≤ k → ∀ x ∈ prN k l, x ∈ prN j l := fun k => by
  induction k with
  | zero => intro j hj x hx; have : j = 0 := by omega
            subst this; exact hx
  | succ k ih =>
    intro j hj x hx
    by_cases e : j = k + 1
    · subst e; exact hx
    · exact ih j (by omega) x ((prn_sub _).subset hx)
theorem lev_mono {l : List Ho} {j k : Nat} {e : Int} (h : Lev l j e) (hj : j ≤ k) : Lev l k e := fun x hx => h x (prN_le l k j hj x hx)
theorem lev_out {l : List Ho} (hok : HoOk l) : ∀ (k : Nat) (x : Ho), x ∈ l → x ∉ prN (k + 1) l → Lev l k x.en
  | 0, x, hx, hn => by
    have hen := hok.en x hx
    have h0 : hadL l x.en.toNat = 0 := by
      rcases Decidable.em (hadL l x.en.toNat = 0) with h | h
      · exact h
      · exact absurd (List.mem_filter.2 ⟨hx, by simp [outB, prN, h]⟩) hn
    intro y hy
    have := hadL_pos l _ (fun z hz => (hok.pt z hz).1) h0 y hy
    rwa [Int.toNat_of_nonneg (by omega)] at this
  | k + 1, x, hx, hn => by
    rcases Classical.em (x ∈ prN (k + 1) l) with hm | hm
    · have hen := hok.en x hx
      have h0 : hadL (prN (k + 1) l) x.en.toNat = 0 := by
        rcases Decidable.em (hadL (prN (k + 1) l) x.en.toNat = 0) with h | h
        · exact h
        · exact absurd (List.mem_filter.2 ⟨hm, by simp [outB, h]⟩) hn
      intro y hy
      have := hadL_pos _ _ (fun z hz => ((hok.sub (prN_sub _ _)).pt z hz).1) h0 y hy
      rwa [Int.toNat_of_nonneg (by omega)] at this
    · exact lev_mono (lev_out hok k x hx hm) (by omega)
theorem ptS_none {l : List Ho} {e : Int} {v : Int → Int} (h : ∀ x ∈ l, x.of_ ≠ e) : ptS l e v = 0 := by
  unfold ptS
  induction l with
  | nil => rfl
  | cons x l ih =>
    rw [List.map_cons, List.sum_cons, if_neg (h x List.mem_cons_self), ih (fun y hy => h y (List.mem_cons_of_mem _ hy))]
    rfl
theorem ptS_had (v : Int → Int) (e : Nat) : ∀ l : List Ho, (∀ x ∈ l, 1 ≤ x.pt) → (∀ x ∈ l, x.of_ = e → 0 ≤ v x.en ∧ v x.en ≤ 1000) → 0 ≤ ptS l e v ∧ ptS l e v ≤ 1000 * hadL l e
  | [], _, _ => by simp [ptS, hadL]
  | x :: l, h, hv => by
    have ih := ptS_had v e l (fun y hy => h y (List.mem_cons_of_mem _ hy)) (fun y hy => hv y (List.mem_cons_of_mem _ hy))
    have hx := h x List.mem_cons_self
    have hvx := hv x List.mem_cons_self
    have e1 : ptS (x :: l) e v = (if x.of_ = e then v x.en * x.pt else 0) + ptS l e v := by simp [ptS]
    have e2 : hadL (x :: l) e = (if x.of_ = (e : Int) then x.pt else 0) + hadL l e := by simp [hadL]
    rw [e1, e2]
    by_cases h1 : x.of_ = e
    · rw [if_pos h1, if_pos h1]
      obtain ⟨v0, v1⟩ := hvx h1
      have p0 : 0 ≤ v x.en * x.pt := Int.mul_nonneg v0 (by omega)
      have p1 : v x.en * x.pt ≤ 1000 * x.pt := Int.mul_le_mul_of_nonneg_right v1 (by omega)
      omega
    · rw [if_neg h1, if_neg h1]; omega
/-- Each is a part of a thousand. -/
theorem pv_bd {l : List Ho} (hok : HoOk l) (hs : ∀ n, n < 13 → hadL l n ≤ 1000) (top : Int) : ∀ (k : Nat) (e : Int), 1 ≤ e → e ≤ 12 → 0 ≤ pv l top k e ∧ pv l top k e ≤ 1000
  | 0, e, _, _ => by unfold pv; split <;> omega
  | k + 1, e, h1, h2 => by
    unfold pv
    split
    · omega
    · obtain ⟨n, rfl⟩ : ∃ n : Nat, e = n := ⟨e.toNat, by omega⟩
      have := ptS_had (pv l top k) n l (fun x hx => (hok.pt x hx).1) (fun x hx _ => pv_bd hok hs top k x.en (hok.en x hx).1 (hok.en x hx).2)
      have := hs n (by omega)
      omega
theorem part_any (B1 B2 B3 : Nat) (a : Option Addr) (l : List Ho) (cap : Nat) (top : Int) (hok : HoOk l) (hs : ∀ n, n < 13 → hadL l n ≤ 1000) : ∀ (k : Nat) (e : Int) (w : World), 1 ≤ e → e ≤ 12 → Lev l k e → PtAt w B1 B2 B3 a l cap top →
    Calls Tryd.prog 17 #[.int .i64 e, .pointer (some ⟨B1, 0, none⟩), .pointer (some ⟨B2, 0, none⟩), .pointer (some ⟨B3, 0, none⟩)] w fun r w' => r = .returned (.int .i64 (pv l top (k + 1) e)) ∧ Below w.heap.size w w'
  | 0, e, w, h1, h2, hl, h =>
    part_step B1 B2 B3 a l cap top e (pv l top 0) w hok.len hok.pt (fun x hx _ => pv_bd hok hs top 0 x.en (hok.en x hx).1 (hok.en x hx).2) (fun x hx hx2 => absurd hx2 (hl x hx)) h
  | k + 1, e, w, h1, h2, hl, h =>
    part_step B1 B2 B3 a l cap top e (pv l top (k + 1)) w hok.len hok.pt (fun x hx _ => pv_bd hok hs top (k + 1) x.en (hok.en x hx).1 (hok.en x hx).2)
      (fun x hx hx2 W hW => part_any B1 B2 B3 a l cap top hok hs k x.en W (hok.en x hx).1 (hok.en x hx).2 (lev_out hok k x hx (fun hm => hl x hm hx2)) hW) h
end Go.Proofs.YtmpjaogomabfiaaDoor
