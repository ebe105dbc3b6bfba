/-
  Numbers behind a slice; the contract of daysame.Ints.
-/
import Derived.Test.YthaidbicimiljaaZn11
import Derived.Test.YthaidbicimiljaaZn8
import Derived.Deep.OwnRows
import Derived.Test.YthaidbicimiljaaZn10
import Derived.Deep.Cut
import Derived.Test.YthaidbicimiljaaZn1
import Derived.Deep.QuietTactic
import Derived.BigQuiet
namespace Go.Proofs.Ythaidbicimiljaa
set_option linter.unusedVariables false
set_option linter.unusedSimpArgs false
set_option maxRecDepth 100000
open Go.RowKit Go.Lib

/-- What comes together of those that have a part of an entity. -/
def ptS (l : List Ho) (e : Int) (v : Int → Int) : Int := (l.map fun h => if h.of_ = e then v h.en * h.pt else 0).sum
theorem ptS_snoc (l : List Ho) (x : Ho) (e : Int) (v : Int → Int) : ptS (l ++ [x]) e v = ptS l e v + if x.of_ = e then v x.en * x.pt else 0 := by simp [ptS]
theorem ptS_bd (v : Int → Int) (e : Int) : ∀ l : List Ho, (∀ x ∈ l, 1 ≤ x.pt ∧ x.pt ≤ 1000) → (∀ x ∈ l, x.of_ = e → 0 ≤ v x.en ∧ v x.en ≤ 1000) → 0 ≤ ptS l e v ∧ ptS l e v ≤ 1000000 * l.length
  | [], _, _ => by simp [ptS]
  | x :: l, h, hv => by
    have ih := ptS_bd v e l (fun y hy => h y (List.mem_cons_of_mem _ hy)) (fun y hy => hv y (List.mem_cons_of_mem _ hy))
    have hx := h x List.mem_cons_self
    have hvx := hv x List.mem_cons_self
    have e1 : ptS (x :: l) e v = (if x.of_ = e then v x.en * x.pt else 0) + ptS l e v := by simp [ptS]
    rw [e1, List.length_cons]
    split
    · rename_i h1
      obtain ⟨v0, v1⟩ := hvx h1
      have p0 : 0 ≤ v x.en * x.pt := Int.mul_nonneg v0 (by omega)
      have p1 : v x.en * x.pt ≤ 1000 * 1000 := Int.mul_le_mul v1 hx.2 (by omega) (by omega)
      omega
    · omega

/-- What the closure stands on. -/
structure PtAt (W : World) (B1 B2 B3 : Nat) (a : Option Addr) (l : List Ho) (cap : Nat) (top : Int) : Prop where
  c1 : W.cell? ⟨B1, 0, none⟩ = some (.int .i64 top)
  c2 : W.cell? ⟨B2, 0, none⟩ = some (.slice a l.length cap)
  c3 : W.cell? ⟨B3, 0, none⟩ = some (.func (.func 10) #[] #[.pointer (some ⟨B1, 0, none⟩), .pointer (some ⟨B2, 0, none⟩), .pointer (some ⟨B3, 0, none⟩)])
  l1 : B1 < W.heap.size
  l2 : B2 < W.heap.size
  l3 : B3 < W.heap.size
  ho : IsHo W a l cap
theorem PtAt.below {W V : World} {B1 B2 B3 : Nat} {a : Option Addr} {l : List Ho} {cap : Nat} {top : Int} (h : PtAt W B1 B2 B3 a l cap top) (hb : Below W.heap.size W V) : PtAt V B1 B2 B3 a l cap top :=
  ⟨(hb.cell (p := ⟨B1, 0, none⟩) h.l1).trans h.c1, (hb.cell (p := ⟨B2, 0, none⟩) h.l2).trans h.c2, (hb.cell (p := ⟨B3, 0, none⟩) h.l3).trans h.c3, Nat.lt_of_lt_of_le h.l1 hb.size, Nat.lt_of_lt_of_le h.l2 hb.size, Nat.lt_of_lt_of_le h.l3 hb.size, h.ho.below hb⟩

set_option maxHeartbeats 8000000 in
theorem part_step (B1 B2 B3 : Nat) (a : Option Addr) (l : List Ho) (cap : Nat) (top e : Int) (v : Int → Int) (w : World) (hl : l.length ≤ 20) (hp : ∀ x ∈ l, 1 ≤ x.pt ∧ x.pt ≤ 1000) (hv : ∀ x ∈ l, x.of_ = e → 0 ≤ v x.en ∧ v x.en ≤ 1000)
    (hc : ∀ x ∈ l, x.of_ = e → ∀ W, PtAt W B1 B2 B3 a l cap top → Calls Try.prog 10 #[.int .i64 x.en, .pointer (some ⟨B1, 0, none⟩), .pointer (some ⟨B2, 0, none⟩), .pointer (some ⟨B3, 0, none⟩)] W fun r w' => r = .returned (.int .i64 (v x.en)) ∧ Below W.heap.size W w') (h : PtAt w B1 B2 B3 a l cap top) :
    Calls Try.prog 10 #[.int .i64 e, .pointer (some ⟨B1, 0, none⟩), .pointer (some ⟨B2, 0, none⟩), .pointer (some ⟨B3, 0, none⟩)] w fun r w' => r = .returned (.int .i64 (if e = top then 1000 else ptS l e v / 1000)) ∧ Below w.heap.size w w' := by
  have H : Hid (PtAt w B1 B2 B3 a l cap top) := h
  obtain ⟨c1, c2, c3, l1, l2, l3, ho⟩ := h
  by_cases he : e = top
  · subst he
    rw [if_pos rfl]
    clear hc hv hp H
    go_enter Try.func10, Try.ntmps10
    go_wp2
    go_ret
    exact ⟨rfl, Below.refl _ _⟩
  rw [if_neg he]
  have he1 : (e == top) = false := beq_eq_false_iff_ne.2 he
  have Hc : Hid _ := hc
  have Hv : Hid (∀ x ∈ l, x.of_ = e → 0 ≤ v x.en ∧ v x.en ≤ 1000) := hv
  have Hp : Hid (∀ x ∈ l, 1 ≤ x.pt ∧ x.pt ≤ 1000) := hp
  have i2 : (l.length : Int) ≤ 20 := by omega
  have HQ : Hid (∀ k, 0 ≤ ptS (l.take k) e v ∧ ptS (l.take k) e v ≤ 20000000) := fun k => by
    have := ptS_bd v e (l.take k) (fun x hx => hp x (List.mem_of_mem_take hx)) (fun x hx => hv x (List.mem_of_mem_take hx))
    have h2 : (l.take k).length ≤ 20 := by rw [List.length_take]; omega
    omega
  obtain ⟨res, hres⟩ : ∃ res, ptS l e v = res := ⟨_, rfl⟩
  have HR : Hid (ptS l e v = res) := hres
  rw [hres]
  clear hres hc hv hp ho
  go_enter Try.func10, Try.ntmps10
  go_wp2
  go_loopw [6, 14] (fun s i wr => ∃ k : Nat, k ≤ l.length ∧ i = .int .i64 k ∧ s = .int .i64 (ptS (l.take k) e v) ∧ Hid (Below w.heap.size w wr)) (fun _ i _ => l.length - (RowKit.intOf i).toNat)
  case atStart => exact ⟨0, Nat.zero_le _, rfl, rfl, Below.refl _ _⟩
  case round =>
    obtain ⟨k, hk, rfl, rfl, HB⟩ := hrel
    have hbd := HQ.out k
    by_cases hlt : k < l.length
    · obtain ⟨b, off, rfl, hb, hcc⟩ := H.out.ho.some hlt
      have hx := (hcc k hlt).below HB.out hb
      have hmem := hos_mem l k hlt
      have hp1 := Hp.out _ hmem
      have hv1 := Hv.out _ hmem
      have HT : Hid (ptS (l.take (k + 1)) e v = ptS (l.take k) e v + if (l.getD k ho0).of_ = e then v (l.getD k ho0).en * (l.getD k ho0).pt else 0) := by
        unfold Hid; rw [hos_take l k hlt, ptS_snoc]
      have hc1 := fun h => Hc.out (l.getD k ho0) hmem h
      have HPt : Hid (PtAt wr B1 B2 B3 _ l cap top) := H.out.below HB.out
      obtain ⟨q1, q2, q3, m1, m2, m3, _⟩ := HPt.out
      clear hmem hcc c1 c2 c3 l1 l2 l3
      generalize l.getD k ho0 = x at *
      have hba : Below wr.heap.size wr (wr.alloc (.cells x.cells 31)) := (Below.refl _ wr).alloc (Nat.le_refl _) _
      have HPa : Hid (PtAt (wr.alloc (.cells x.cells 31)) B1 B2 B3 _ l cap top) := HPt.out.below hba
      have HBa : Hid (Below w.heap.size w (wr.alloc (.cells x.cells 31))) := HB.out.trans (hba.mono HB.out.size)
      have hat := HoAt.new wr x 31
      obtain ⟨r1, r2, r3, _, _, _, _⟩ := HPa.out
      have i0 : (0 : Int) ≤ k := by omega
      have i3 : (k : Int) < l.length := by omega
      by_cases hof : x.of_ = e
      · rw [if_pos hof] at HT
        obtain ⟨v0, v1⟩ := hv1 hof
        have HCc : Hid (∀ W, Below wr.heap.size (wr.alloc (.cells x.cells 31)) W → Below (wr.alloc (.cells x.cells 31)).heap.size (wr.alloc (.cells x.cells 31)) W → Calls Try.prog 10 #[.int .i64 x.en, .pointer (some ⟨B1, 0, none⟩), .pointer (some ⟨B2, 0, none⟩), .pointer (some ⟨B3, 0, none⟩)] W fun r w' => r = .returned (.int .i64 (v x.en)) ∧ Below w.heap.size w w' ∧ w'.cell? ⟨wr.heap.size, 2, none⟩ = some (.int .i64 x.pt)) := fun W _ hW => by
          refine (hc1 hof W (HPa.out.below hW)).mono ?_
          rintro r w' ⟨rfl, hb'⟩
          have h3 := hW.trans (hb'.mono hW.size)
          refine ⟨rfl, HBa.out.trans (h3.mono HBa.out.size), ?_⟩
          have := (hat.below h3 (by simp)).c2
          simpa using this
        have hpr0 : 0 ≤ v x.en * x.pt := Int.mul_nonneg v0 (by omega)
        have hpr1 : v x.en * x.pt ≤ 1000 * 1000 := Int.mul_le_mul v1 hp1.2 (by omega) (by omega)
        have hHH : ∀ W : World, Below W.heap.size W W.drew := fun W => ⟨rfl, rfl, rfl, Nat.le_refl _, fun _ _ => rfl⟩
        have eg : ∀ args W, (callFunc 10 args).run Try.prog W = .ok (.enter 10 args) W := fun args W => rfl
        obtain ⟨S0, hS0⟩ : ∃ S0, ptS (l.take k) e v = S0 := ⟨_, rfl⟩
        obtain ⟨vx, hvx⟩ : ∃ vx, v x.en = vx := ⟨_, rfl⟩
        rw [hS0] at hbd HT ⊢
        rw [hvx] at HT HCc hpr0 hpr1 v0 v1
        clear hc1 hv1 hS0 hvx HQ Hc Hv Hp HPt HPa hba
        obtain ⟨x0, x1, x2⟩ := x
        obtain ⟨d0, d1, d2⟩ := hx
        simp only [Ho.cells, Nat.zero_add] at d0 d1 d2 hat r1 r2 r3 HT HCc hpr0 hpr1 hof hp1 HBa
        subst hof
        have HXX : Hid (0 ≤ vx * x2 ∧ vx * x2 ≤ 1000 * 1000) := ⟨hpr0, hpr1⟩
        have hm1 : -9223372036854775808 ≤ vx * x2 := by omega
        have hm2 : vx * x2 ≤ 9223372036854775807 := by omega
        clear HR H HB
        go_wp2_with fail
        go_region_with (go_at_call 10; refine (HCc.out _ (gr_drew (Below.refl _ _)) (gr_drew (Below.refl _ _))).mono ?_; rintro r w' ⟨rfl, hb', q2'⟩)
        all_goals
          go_wp2
          go_roundw
          case rel => exact ⟨k + 1, by omega, by go_num, by rw [HT.out], hb'⟩
          case measure => simp [RowKit.intOf]; omega
      · rw [if_neg hof, Int.add_zero] at HT
        have hof1 : (x.of_ == e) = false := beq_eq_false_iff_ne.2 hof
        have HBx : Hid _ := HBa
        obtain ⟨x0, x1, x2⟩ := x
        obtain ⟨d0, d1, d2⟩ := hx
        simp only [Ho.cells] at d0 d1 d2 HBx hof hof1 r1 r2 r3
        clear HPa HBa HPt hat hc1 hv1 hba
        go_wp2
        go_roundw
        case rel => exact ⟨k + 1, by omega, by go_num, by rw [HT.out], HBx⟩
        case measure => simp [RowKit.intOf]; omega
    · have hk2 : k = l.length := by omega
      subst hk2
      have er : ptS (l.take l.length) e v = res := by rw [List.take_length]; exact HR.out
      rw [er] at hbd
      rw [er]
      go_wp2
      go_ret
      exact ⟨rfl, HB.out⟩

/-- How many thousandths the top has of an entity, by chains of so many. -/
def pv (l : List Ho) (top : Int) : Nat → Int → Int
  | 0, e => if e = top then 1000 else 0
  | n + 1, e => if e = top then 1000 else ptS l e (pv l top n) / 1000
/-- Nobody has a part of an entity by what stays. -/
def Lev (l : List Ho) (k : Nat) (e : Int) : Prop := ∀ x ∈ prN k l, x.of_ ≠ e
theorem hadL_pos : ∀ (l : List Ho) (n : Nat), (∀ x ∈ l, 1 ≤ x.pt) → hadL l n = 0 → ∀ x ∈ l, x.of_ ≠ (n : Int)
  | [], _, _, _ => by simp
  | y :: l, n, h, h0 => by
    have h1 : ∀ l : List Ho, (∀ x ∈ l, 1 ≤ x.pt) → 0 ≤ hadL l n := fun l => by
      induction l with
      | nil => intro _; simp [hadL]
      | cons z l ih =>
        intro hz
        have e : hadL (z :: l) n = (if z.of_ = (n : Int) then z.pt else 0) + hadL l n := by simp [hadL]
        have := ih (fun x hx => hz x (List.mem_cons_of_mem _ hx))
        have := hz z List.mem_cons_self
        rw [e]; split <;> omega
    have e : hadL (y :: l) n = (if y.of_ = (n : Int) then y.pt else 0) + hadL l n := by simp [hadL]
    have hl := h1 l (fun x hx => h x (List.mem_cons_of_mem _ hx))
    have hy := h y List.mem_cons_self
    rw [e] at h0
    have hne : y.of_ ≠ (n : Int) := fun e2 => by rw [if_pos e2] at h0; omega
    rw [if_neg hne] at h0
    intro x hx
    rcases List.mem_cons.1 hx with rfl | hx
    · exact hne
    · exact hadL_pos l n (fun x hx => h x (List.mem_cons_of_mem _ hx)) (by omega) x hx
theorem prN_le (l : List Ho) : ∀ (k j : Nat), j ≤ k → ∀ x ∈ prN k l, x ∈ prN j l := fun k => by
  induction k with
  | zero => intro j hj x hx; have : j = 0 := by omega
            subst this; exact hx
  | succ k ih =>
    intro j hj x hx
    by_cases e : j = k + 1
    · subst e; exact hx
    · exact ih j (by omega) x ((prn_sub _).subset hx)
theorem lev_mono {l : List Ho} {j k : Nat} {e : Int} (h : Lev l j e) (hj : j ≤ k) : Lev l k e := fun x hx => h x (prN_le l k j hj x hx)
theorem lev_out {l : List Ho} (hok : HoOk l) : ∀ (k : Nat) (x : Ho), x ∈ l → x ∉ prN (k + 1) l → Lev l k x.en
  | 0, x, hx, hn => by
    have hen := hok.en x hx
    have h0 : hadL l x.en.toNat = 0 := by
      rcases Decidable.em (hadL l x.en.toNat = 0) with h | h
      · exact h
      · exact absurd (List.mem_filter.2 ⟨hx, by simp [outB, prN, h]⟩) hn
    intro y hy
    have := hadL_pos l _ (fun z hz => (hok.pt z hz).1) h0 y hy
    rwa [Int.toNat_of_nonneg (by omega)] at this
  | k + 1, x, hx, hn => by
    rcases Classical.em (x ∈ prN (k + 1) l) with hm | hm
    · have hen := hok.en x hx
      have h0 : hadL (prN (k + 1) l) x.en.toNat = 0 := by
        rcases Decidable.em (hadL (prN (k + 1) l) x.en.toNat = 0) with h | h
        · exact h
        · exact absurd (List.mem_filter.2 ⟨hm, by simp [outB, h]⟩) hn
      intro y hy
      have := hadL_pos _ _ (fun z hz => ((hok.sub (prN_sub _ _)).pt z hz).1) h0 y hy
      rwa [Int.toNat_of_nonneg (by omega)] at this
    · exact lev_mono (lev_out hok k x hx hm) (by omega)
theorem ptS_none {l : List Ho} {e : Int} {v : Int → Int} (h : ∀ x ∈ l, x.of_ ≠ e) : ptS l e v = 0 := by
  unfold ptS
  induction l with
  | nil => rfl
  | cons x l ih =>
    rw [List.map_cons, List.sum_cons, if_neg (h x List.mem_cons_self), ih (fun y hy => h y (List.mem_cons_of_mem _ hy))]
    rfl
theorem ptS_had (v : Int → Int) (e : Nat) : ∀ l : List Ho, (∀ x ∈ l, 1 ≤ x.pt) → (∀ x ∈ l, x.of_ = e → 0 ≤ v x.en ∧ v x.en ≤ 1000) → 0 ≤ ptS l e v ∧ ptS l e v ≤ 1000 * hadL l e
  | [], _, _ => by simp [ptS, hadL]
  | x :: l, h, hv => by
    have ih := ptS_had v e l (fun y hy => h y (List.mem_cons_of_mem _ hy)) (fun y hy => hv y (List.mem_cons_of_mem _ hy))
    have hx := h x List.mem_cons_self
    have hvx := hv x List.mem_cons_self
    have e1 : ptS (x :: l) e v = (if x.of_ = e then v x.en * x.pt else 0) + ptS l e v := by simp [ptS]
    have e2 : hadL (x :: l) e = (if x.of_ = (e : Int) then x.pt else 0) + hadL l e := by simp [hadL]
    rw [e1, e2]
    by_cases h1 : x.of_ = e
    · rw [if_pos h1, if_pos h1]
      obtain ⟨v0, v1⟩ := hvx h1
      have p0 : 0 ≤ v x.en * x.pt := Int.mul_nonneg v0 (by omega)
      have p1 : v x.en * x.pt ≤ 1000 * x.pt := Int.mul_le_mul_of_nonneg_right v1 (by omega)
      omega
    · rw [if_neg h1, if_neg h1]; omega
/-- Each is a part of a thousand. -/
theorem pv_bd {l : List Ho} (hok : HoOk l) (hs : ∀ n, n < 13 → hadL l n ≤ 1000) (top : Int) : ∀ (k : Nat) (e : Int), 1 ≤ e → e ≤ 12 → 0 ≤ pv l top k e ∧ pv l top k e ≤ 1000
  | 0, e, _, _ => by unfold pv; split <;> omega
  | k + 1, e, h1, h2 => by
    unfold pv
    split
    · omega
    · obtain ⟨n, rfl⟩ : ∃ n : Nat, e = n := ⟨e.toNat, by omega⟩
      have := ptS_had (pv l top k) n l (fun x hx => (hok.pt x hx).1) (fun x hx _ => pv_bd hok hs top k x.en (hok.en x hx).1 (hok.en x hx).2)
      have := hs n (by omega)
      omega
theorem part_any (B1 B2 B3 : Nat) (a : Option Addr) (l : List Ho) (cap : Nat) (top : Int) (hok : HoOk l) (hs : ∀ n, n < 13 → hadL l n ≤ 1000) : ∀ (k : Nat) (e : Int) (w : World), 1 ≤ e → e ≤ 12 → Lev l k e → PtAt w B1 B2 B3 a l cap top →
    Calls Try.prog 10 #[.int .i64 e, .pointer (some ⟨B1, 0, none⟩), .pointer (some ⟨B2, 0, none⟩), .pointer (some ⟨B3, 0, none⟩)] w fun r w' => r = .returned (.int .i64 (pv l top (k + 1) e)) ∧ Below w.heap.size w w'
  | 0, e, w, h1, h2, hl, h =>
    part_step B1 B2 B3 a l cap top e (pv l top 0) w hok.len hok.pt (fun x hx _ => pv_bd hok hs top 0 x.en (hok.en x hx).1 (hok.en x hx).2) (fun x hx hx2 => absurd hx2 (hl x hx)) h
  | k + 1, e, w, h1, h2, hl, h =>
    part_step B1 B2 B3 a l cap top e (pv l top (k + 1)) w hok.len hok.pt (fun x hx _ => pv_bd hok hs top (k + 1) x.en (hok.en x hx).1 (hok.en x hx).2)
      (fun x hx hx2 W hW => part_any B1 B2 B3 a l cap top hok hs k x.en W (hok.en x hx).1 (hok.en x hx).2 (lev_out hok k x hx (fun hm => hl x hm hx2)) hW) h
end Go.Proofs.Ythaidbicimiljaa

namespace Go.Proofs.Ythaidbicimiljaa
set_option linter.unusedVariables false
set_option linter.unusedSimpArgs false
set_option maxRecDepth 100000
open Go.RowKit Go.Lib

/-- How many thousandths, of all entities. -/
def ptsL (l : List Ho) (top : Int) : List Int := (List.range 12).map fun i => pv l top (l.length + 1) (((i + 1 : Nat) : Int))
theorem ptsL_len (l : List Ho) (top : Int) : (ptsL l top).length = 12 := by simp [ptsL]
theorem ptsL_get (l : List Ho) (top : Int) (i : Nat) (hi : i < 12) : (ptsL l top).getD i 0 = pv l top (l.length + 1) (((i + 1 : Nat) : Int)) := by
  unfold ptsL
  rw [List.getD_eq_getElem?_getD, List.getElem?_map, List.getElem?_range hi]
  rfl
/-- What is wrong with holdings and a top. -/
def ptsBad (l : List Ho) (top : Int) : Int := if hBad l ≠ 0 then hBad l else if upTo top 12 = false then 1 else 0
theorem ptsBad_ok {l : List Ho} {top : Int} : ptsBad l top = 0 ↔ hBad l = 0 ∧ 1 ≤ top ∧ top ≤ 12 := by
  unfold ptsBad
  rw [← upTo_iff]
  constructor
  · intro h
    split at h
    · contradiction
    · rename_i h1
      split at h
      · omega
      · rename_i h2
        exact ⟨Decidable.of_not_not h1, by simpa using h2⟩
  · rintro ⟨h1, h2⟩
    rw [if_neg (by simp [h1]), if_neg (by simp [h2])]
def PtsEnd (l : List Ho) (top : Int) (w : World) (e : Ending) (w' : World) : Prop :=
  Below w.heap.size w w' ∧ (ptsBad l top ≠ 0 → e = .returned (.tuple #[.slice none 0 0, grE (ptsBad l top)])) ∧ (ptsBad l top = 0 → ∃ g, e = .returned (.tuple #[.slice (some ⟨g, 0, none⟩) 12 12, .nilIface]) ∧ w.heap.size ≤ g ∧ NRow w' g (ptsL l top))
theorem over_ok {l : List Ho} (h : hadOver l = false) : ∀ n, n < 13 → hadL l n ≤ 1000 := by
  intro n hn
  unfold hadOver at h
  rw [List.any_eq_false] at h
  have := h n (List.mem_range.2 hn)
  simpa using this
theorem hBad_ok {l : List Ho} (h : hBad l = 0) : HoOk l ∧ nxGo [] l = 0 ∧ (∀ n, n < 13 → hadL l n ≤ 1000) ∧ prN l.length l = [] := by
  unfold hBad at h
  split at h
  · omega
  · rename_i h20
    split at h
    · contradiction
    · rename_i h1
      have h1' := Decidable.of_not_not h1
      unfold hBad2 at h
      split at h
      · omega
      · rename_i h2
        split at h
        · omega
        · rename_i h3
          exact ⟨nxGo_ok (by omega) h1', h1', over_ok (by simpa using h2), List.eq_nil_of_length_eq_zero (by omega)⟩
theorem gr_int : (Try.prog.info? 3).map (fun i => (i.zero, i.size, i.bytes)) = some (some (.int .i64 0), 1, 8) := by kernel_rfl
theorem row_set (f : Nat → Int) (k n : Nat) (hk : k < n) : ((List.range k).map f ++ List.replicate (n - k) 0).set k (f k) = (List.range (k + 1)).map f ++ List.replicate (n - (k + 1)) 0 := by
  obtain ⟨m, hm⟩ : ∃ m, n - k = m + 1 := ⟨n - k - 1, by omega⟩
  have hm2 : n - (k + 1) = m := by omega
  rw [hm, hm2, List.set_append_right _ _ (by simp), List.range_succ, List.map_append, List.append_assoc]
  simp [List.replicate_succ]

set_option maxHeartbeats 8000000 in
theorem grParts_any (a : Option Addr) (cap : Nat) (l : List Ho) (top : Int) (w : World) (hll : l.length ≤ 9223372036854775807) (h : IsHo w a l cap) :
    Calls Try.prog 4 #[.slice a l.length cap, .int .i64 top] w (PtsEnd l top w) := by
  obtain ⟨W0, hW0⟩ : ∃ W0, (w.alloc (.cells #[.slice a l.length cap] 23)).alloc (.cells #[.int .i64 top] 3) = W0 := ⟨_, rfl⟩
  have hb0 : Below w.heap.size w W0 := by rw [← hW0]; exact ((Below.refl _ w).alloc (Nat.le_refl _) _).alloc (by simp) _
  have hs0 : W0.heap.size = w.heap.size + 2 := by rw [← hW0]; simp
  have hc1 : W0.cell? ⟨w.heap.size, 0, none⟩ = some (.slice a l.length cap) := by rw [← hW0]; simp
  have hc2 : W0.cell? ⟨w.heap.size + 1, 0, none⟩ = some (.int .i64 top) := by rw [← hW0]; simp
  have HCk : Hid (Calls Try.prog 8 #[.slice a l.length cap] W0 fun e w' => e = .returned (grE (hBad l)) ∧ Below W0.heap.size W0 w') := grCheck_any a cap l W0 hll (h.below hb0)
  have HW0 : Hid ((w.alloc (.cells #[.slice a l.length cap] 23)).alloc (.cells #[.int .i64 top] 3) = W0) := hW0
  have HB0 : Hid (Below w.heap.size w W0 ∧ W0.heap.size = w.heap.size + 2) := ⟨hb0, hs0⟩
  have Hs : Hid (IsHo w a l cap) := h
  have HIs : Hid (∀ W, Calls Try.prog 9 #[.int .i64 top] W fun e w' => e = .returned (.bool (upTo top 12)) ∧ w' = W) := fun W => isEntity_any top W
  clear hb0 hW0 h hs0
  by_cases c1 : hBad l ≠ 0
  · have e1 : ptsBad l top = hBad l := if_pos c1
    unfold PtsEnd
    rw [e1, grE_ne c1]
    rw [grE_ne c1] at HCk
    clear e1
    generalize hBad l = z at *
    go_enter Try.func4, Try.ntmps4
    go_upto_region 1 with fail
    rw [HW0.out]
    go_wp2_with fail
    refine HCk.out.mono ?_
    rintro e w1 ⟨rfl, hb1⟩
    have HB1 : Hid (Below w.heap.size w w1) := HB0.out.1.trans (hb1.mono HB0.out.1.size)
    clear hb1 hc1 hc2
    go_wp2
    go_ret2
    exact ⟨HB1.out, fun _ => rfl, fun h => absurd h c1⟩
  have c1' := Decidable.of_not_not c1
  rw [c1', grE_zero] at HCk
  by_cases c2 : upTo top 12 = false
  · have e1 : ptsBad l top = 1 := by unfold ptsBad; rw [if_neg c1, if_pos c2]
    have e2 : grE 1 = .iface 41 (.int .i64 1) := rfl
    unfold PtsEnd
    rw [e1, e2]
    rw [c2] at HIs
    clear e1 e2
    go_enter Try.func4, Try.ntmps4
    go_upto_region 1 with fail
    rw [HW0.out]
    go_wp2_with fail
    refine HCk.out.mono ?_
    rintro e w1 ⟨rfl, hb1⟩
    have HB1 : Hid (Below w.heap.size w w1) := HB0.out.1.trans (hb1.mono HB0.out.1.size)
    have q2 := (hb1.cell (p := ⟨w.heap.size + 1, 0, none⟩) (by show w.heap.size + 1 < _; have := HB0.out.2; omega)).trans hc2
    clear hb1 hc1 hc2
    go_wp2_with fail
    refine (HIs.out _).mono ?_
    rintro e w' ⟨rfl, hw⟩
    rw [hw]; clear hw w'
    go_wp2
    go_ret2
    exact ⟨HB1.out, fun _ => rfl, fun h => absurd h (by decide)⟩
  have c2' : upTo top 12 = true := by simpa using c2
  have e1 : ptsBad l top = 0 := ptsBad_ok.2 ⟨c1', upTo_iff.1 c2'⟩
  rw [c2'] at HIs
  obtain ⟨hok, _, hs13, hnil⟩ := hBad_ok c1'
  have Hlev : Hid (∀ e, Lev l l.length e) := fun e x hx => by rw [hnil] at hx; cases hx
  have HP : Hid (∀ (B3 : Nat) (W : World) (i : Nat), i < 12 → PtAt W (w.heap.size + 1) w.heap.size B3 a l cap top → Calls Try.prog 10 #[.int .i64 (((i + 1 : Nat) : Int)), .pointer (some ⟨w.heap.size + 1, 0, none⟩), .pointer (some ⟨w.heap.size, 0, none⟩), .pointer (some ⟨B3, 0, none⟩)] W fun r w' => r = .returned (.int .i64 (pv l top (l.length + 1) (((i + 1 : Nat) : Int)))) ∧ Below W.heap.size W w') := fun B3 W i hi hW =>
    part_any _ _ B3 a l cap top hok hs13 l.length _ W (by omega) (by omega) (Hlev.out _) hW
  have HEnd : Hid (∀ e w', PtsEnd l top w e w' ↔ (Below w.heap.size w w' ∧ ∃ g, e = .returned (.tuple #[.slice (some ⟨g, 0, none⟩) 12 12, .nilIface]) ∧ w.heap.size ≤ g ∧ NRow w' g (ptsL l top))) := fun e w' => by
    unfold PtsEnd
    rw [e1]
    exact ⟨fun h => ⟨h.1, h.2.2 rfl⟩, fun h => ⟨h.1, fun h0 => absurd rfl h0, fun _ => h.2⟩⟩
  have hmk : ∀ w, (Instr.makeSlice 25 (.int .i64 12) (.int .i64 12)).run Try.prog w = .ok (.slice (some ⟨w.heap.size, 0, none⟩) 12 12) (w.alloc (.cells (madeCells #[.int .i64 0] 12) 3)) := fun w => run_make_row' (P := Try.prog) 25 3 (.int .i64 0) 8 Try.underlying25 gr_int rfl .i64 .i64 12 (by omega) (by omega) w
  have eg : ∀ args W, (callFunc 10 args).run Try.prog W = .ok (.enter 10 args) W := fun args W => rfl
  clear c1 c1' c2 c2' hok hs13 hnil Hlev e1
  obtain ⟨fpv, hfpv⟩ : ∃ fpv : Nat → Int, fpv = fun i => pv l top (l.length + 1) (((i + 1 : Nat) : Int)) := ⟨_, rfl⟩
  have HFin : Hid ((List.range 12).map fpv = ptsL l top) := by rw [hfpv]; rfl
  have HP2 : Hid (∀ (B3 : Nat) (W : World) (i : Nat), i < 12 → PtAt W (w.heap.size + 1) w.heap.size B3 a l cap top → Calls Try.prog 10 #[.int .i64 (((i + 1 : Nat) : Int)), .pointer (some ⟨w.heap.size + 1, 0, none⟩), .pointer (some ⟨w.heap.size, 0, none⟩), .pointer (some ⟨B3, 0, none⟩)] W fun r w' => r = .returned (.int .i64 (fpv i)) ∧ Below W.heap.size W w') := by rw [hfpv]; exact HP.out
  clear hfpv HP
  go_enter Try.func4, Try.ntmps4
  go_upto_region 1 with fail
  rw [HW0.out]
  go_wp2_with fail
  refine HCk.out.mono ?_
  rintro e w1 ⟨rfl, hb1⟩
  have HB1 : Hid (Below w.heap.size w w1) := HB0.out.1.trans (hb1.mono HB0.out.1.size)
  have q2 := (hb1.cell (p := ⟨w.heap.size + 1, 0, none⟩) (by show w.heap.size + 1 < _; have := HB0.out.2; omega)).trans hc2
  have q1 := (hb1.cell (p := ⟨w.heap.size, 0, none⟩) (by show w.heap.size < _; have := HB0.out.2; omega)).trans hc1
  have hlt1 : w.heap.size + 1 < w1.heap.size := by have := HB0.out.2; have := hb1.size; omega
  clear hb1 hc1 hc2 HCk
  go_wp2_with fail
  refine (HIs.out _).mono ?_
  rintro e w' ⟨rfl, hw⟩
  rw [hw]; clear hw w' HIs
  obtain ⟨w2, hw2⟩ : ∃ w2, (w1.alloc (.cells #[.nilFunc] 42)).setCell ⟨w1.heap.size, 0, none⟩ (.func (.func 10) #[] #[.pointer (some ⟨w.heap.size + 1, 0, none⟩), .pointer (some ⟨w.heap.size, 0, none⟩), .pointer (some ⟨w1.heap.size, 0, none⟩)]) = w2 := ⟨_, rfl⟩
  have hb2 : Below w1.heap.size w1 w2 := by rw [← hw2]; exact ((Below.refl _ w1).alloc (Nat.le_refl _) _).setCell (p := ⟨w1.heap.size, 0, none⟩) (Nat.le_refl _) _
  have HB2 : Hid (Below w.heap.size w w2) := HB1.out.trans (hb2.mono HB1.out.size)
  have hs2 : w2.heap.size = w1.heap.size + 1 := by rw [← hw2]; simp
  have hcn : (w1.alloc (.cells #[.nilFunc] 42)).cell? ⟨w1.heap.size, 0, none⟩ = some .nilFunc := by simp
  have hfn : (w1.alloc (.cells #[.nilFunc] 42)).frozen? ⟨w1.heap.size, 0, none⟩ = false := by simp
  have hst : (store ⟨w1.heap.size, 0, none⟩ (.func (.func 10) #[] #[.pointer (some ⟨w.heap.size + 1, 0, none⟩), .pointer (some ⟨w.heap.size, 0, none⟩), .pointer (some ⟨w1.heap.size, 0, none⟩)])).run Try.prog (w1.alloc (.cells #[.nilFunc] 42)) = .ok () w2 := by
    rw [run_store _ _ _ _ _ rfl, hw2, hcn]
    simp only [hfn]
    rfl
  have hc3 : w2.cell? ⟨w1.heap.size, 0, none⟩ = some (.func (.func 10) #[] #[.pointer (some ⟨w.heap.size + 1, 0, none⟩), .pointer (some ⟨w.heap.size, 0, none⟩), .pointer (some ⟨w1.heap.size, 0, none⟩)]) := by rw [← hw2]; exact World.cell?_setCell_same _ _ _ hcn
  have HPt : Hid (PtAt w2 (w.heap.size + 1) w.heap.size w1.heap.size a l cap top) :=
    ⟨(hb2.cell (p := ⟨w.heap.size + 1, 0, none⟩) hlt1).trans q2, (hb2.cell (p := ⟨w.heap.size, 0, none⟩) (by show w.heap.size < _; omega)).trans q1, hc3, by omega, by omega, by omega, Hs.out.below HB2.out⟩
  clear q1 q2 hw2 hc3 hb2 hs2 hcn hfn
  go_upto_region 8 with fail
  have HR0 : Hid (NRow (w2.alloc (.cells (madeCells #[.int .i64 0] 12) 3)) w2.heap.size ((List.range 0).map fpv ++ List.replicate (12 - 0) 0)) := nrow_made w2 12
  have HBr0 : Hid (Below w2.heap.size w2 (w2.alloc (.cells (madeCells #[.int .i64 0] 12) 3))) := (Below.refl _ w2).alloc (Nat.le_refl _) _
  have HG : Hid (w.heap.size ≤ w2.heap.size) := HB2.out.size
  clear hst HW0 HB0 HB1
  go_upto_region 9 with fail
  clear hmk
  go_wp2_with fail
  go_loopw [23] (fun i wr => ∃ k : Nat, k ≤ 12 ∧ i = .int .i64 k ∧ Hid (NRow wr w2.heap.size ((List.range k).map fpv ++ List.replicate (12 - k) 0)) ∧ Hid (Below w2.heap.size w2 wr)) (fun i _ => 12 - (RowKit.intOf i).toNat)
  case atStart => exact ⟨0, Nat.zero_le _, rfl, HR0, HBr0⟩
  case round =>
    obtain ⟨k, hk, rfl, HR, HB⟩ := hrel
    clear HR0 HBr0
    by_cases hlt : k < 12
    · have HPw : Hid (PtAt wr (w.heap.size + 1) w.heap.size w1.heap.size a l cap top) := HPt.out.below HB.out
      obtain ⟨_, _, r3, _, _, _, _⟩ := HPw.out
      have HCc : Hid (Calls Try.prog 10 #[.int .i64 (((k + 1 : Nat) : Int)), .pointer (some ⟨w.heap.size + 1, 0, none⟩), .pointer (some ⟨w.heap.size, 0, none⟩), .pointer (some ⟨w1.heap.size, 0, none⟩)] wr fun r w' => r = .returned (.int .i64 (fpv k)) ∧ Below wr.heap.size wr w') := HP2.out _ wr k hlt HPw.out
      have HS : Hid (((List.range k).map fpv ++ List.replicate (12 - k) 0).set k (fpv k) = (List.range (k + 1)).map fpv ++ List.replicate (12 - (k + 1)) 0) := row_set fpv k 12 hlt
      have hlen : k < ((List.range k).map fpv ++ List.replicate (12 - k) 0).length := by simp; omega
      have e1 : (((k + 1 : Nat) : Int)) = (k : Int) + 1 := by omega
      rw [e1] at HCc
      generalize ((List.range k).map fpv ++ List.replicate (12 - k) 0) = R at *
      generalize fpv k = z at *
      have hgl := HR.out.ltS
      have k0 : (0 : Int) ≤ k := by omega
      have k1 : (k : Int) < 12 := by omega
      clear HP2 HPt HPw e1
      go_wp2_with (go_at_fn 10; refine HCc.out.mono ?_; rintro r w' ⟨rfl, hb'⟩; have hr2 := HR.out.belowS hb' hgl; have hq2 := hr2.cell hlen; have hz2 := hr2.frozen k)
      go_roundw
      case rel => exact ⟨k + 1, by omega, by go_num, by rw [← HS.out]; exact hr2.set k z, (HB.out.trans (hb'.mono HB.out.size)).setCell (p := ⟨w2.heap.size, k, none⟩) (Nat.le_refl _) _⟩
      case measure => simp [RowKit.intOf]; omega
    · obtain rfl : k = 12 := by omega
      have HL : Hid (PtsEnd l top w (.returned (.tuple #[.slice (some ⟨w2.heap.size, 0, none⟩) 12 12, .nilIface])) wr) := by
        have h1 := HR.out
        rw [Nat.sub_self, List.replicate_zero, List.append_nil, HFin.out] at h1
        exact (HEnd.out _ _).2 ⟨HB2.out.trans (HB.out.mono HG.out), _, rfl, HG.out, h1⟩
      clear HR HB HEnd HP2 HPt
      go_wp2
      go_ret2
      exact HL.out
end Go.Proofs.Ythaidbicimiljaa

namespace Go.Proofs.Ythaidbicimiljaa
set_option linter.unusedVariables false
set_option linter.unusedSimpArgs false
set_option maxRecDepth 100000
open Go.RowKit Go.Lib Go.Maps Math

/-- What is under each account of an entity. -/
def uL (c : List Ac) (s : List Bl) (k : Nat) : List Int := (List.range c.length).map (rollI c (amTo c (((k + 1 : Nat) : Int)) eurB s))
theorem uL_len (c : List Ac) (s : List Bl) (k : Nat) : (uL c s k).length = c.length := by simp [uL]
/-- What is wrong with an entity. -/
def uBad (c : List Ac) (s : List Bl) (k : Nat) (r : List Int) : Int :=
  if s.any (amNo c (((k + 1 : Nat) : Int)) eurB) = true then 6 else if rollOk c (amTo c (((k + 1 : Nat) : Int)) eurB s) c.length = true then (if addOk r (uL c s k) = true then 0 else 10) else 10
def whTo (pl : List Int) (c : List Ac) (s : List Bl) : Nat → List Int
  | 0 => List.replicate c.length 0
  | k + 1 => if pl.getD k 0 = 0 then whTo pl c s k else addL (whTo pl c s k) (uL c s k)
def whBad (pl : List Int) (c : List Ac) (s : List Bl) : Nat → Int
  | 0 => 0
  | k + 1 => if whBad pl c s k ≠ 0 then whBad pl c s k else if pl.getD k 0 = 0 then 0 else uBad c s k (whTo pl c s k)
theorem whTo_len (pl : List Int) (c : List Ac) (s : List Bl) : ∀ k, (whTo pl c s k).length = c.length
  | 0 => by simp [whTo]
  | k + 1 => by
    unfold whTo
    split
    · exact whTo_len pl c s k
    · rw [addL_len]; exact whTo_len pl c s k
theorem whBad_stay {pl : List Int} {c : List Ac} {s : List Bl} {k : Nat} (h : whBad pl c s k ≠ 0) : ∀ n, whBad pl c s (k + n) = whBad pl c s k
  | 0 => rfl
  | n + 1 => by
    show (if whBad pl c s (k + n) ≠ 0 then whBad pl c s (k + n) else _) = _
    rw [whBad_stay h n, if_pos h]
theorem fitB_iff {s : Int} : fitB s = true ↔ I64 s := by unfold fitB I64; simp
theorem addL_get (r u : List Int) (i : Nat) (hi : i < r.length) : (addL r u).getD i 0 = r.getD i 0 + u.getD i 0 := by
  unfold addL
  rw [List.getD_eq_getElem?_getD, List.getElem?_map, List.getElem?_range hi]
  rfl
theorem addL_fit {r u : List Int} (h : addOk r u = true) : ∀ i, i < (addL r u).length → I64 ((addL r u).getD i 0) := fun i hi => by
  rw [addL_len] at hi
  rw [addL_get r u i hi]
  unfold addOk at h
  rw [List.all_eq_true] at h
  exact fitB_iff.1 (h i (List.mem_range.2 hi))
theorem whTo_fit {pl : List Int} {c : List Ac} {s : List Bl} : ∀ k, whBad pl c s k = 0 → ∀ i, i < (whTo pl c s k).length → I64 ((whTo pl c s k).getD i 0)
  | 0, _, i, _ => by
    show I64 ((List.replicate c.length (0 : Int)).getD i 0)
    rw [List.getD_eq_getElem?_getD, List.getElem?_replicate]
    split <;> exact ⟨by decide, by decide⟩
  | k + 1, h, i, hi => by
    have h0 : whBad pl c s k = 0 := by
      rcases Decidable.em (whBad pl c s k = 0) with e | e
      · exact e
      · have := whBad_stay (pl := pl) (c := c) (s := s) e 1
        rw [this] at h; exact h
    have h1 : (if pl.getD k 0 = 0 then 0 else uBad c s k (whTo pl c s k)) = 0 := by
      have : whBad pl c s (k + 1) = (if whBad pl c s k ≠ 0 then whBad pl c s k else if pl.getD k 0 = 0 then 0 else uBad c s k (whTo pl c s k)) := rfl
      rw [this, if_neg (by simp [h0])] at h
      exact h
    unfold whTo at hi ⊢
    by_cases hp : pl.getD k 0 = 0
    · rw [if_pos hp] at hi ⊢
      exact whTo_fit k h0 i hi
    · rw [if_neg hp] at hi ⊢ h1
      refine addL_fit ?_ i hi
      unfold uBad at h1
      split at h1
      · omega
      · split at h1
        · split at h1
          · assumption
          · omega
        · omega
theorem uL_fit {c : List Ac} {s : List Bl} {k : Nat} (h : rollOk c (amTo c (((k + 1 : Nat) : Int)) eurB s) c.length = true) : ∀ i, i < (uL c s k).length → I64 ((uL c s k).getD i 0) := fun i hi => by
  rw [uL_len] at hi
  unfold uL
  rw [List.getD_eq_getElem?_getD, List.getElem?_map, List.getElem?_range hi]
  unfold rollOk at h
  rw [List.all_eq_true] at h
  exact fitB_iff.1 (h i (List.mem_range.2 hi))
/-- What is wrong with a group. -/
def gwBad (pl : List Int) (c : List Ac) (s : List Bl) : Int := if chBad c ≠ 0 then chBad c else if chk s ≠ 0 then chk s else whBad pl c s 12
def GwEnd (pl : List Int) (c : List Ac) (s : List Bl) (w : World) (e : Ending) (w' : World) : Prop :=
  Below w.heap.size w w' ∧ (gwBad pl c s ≠ 0 → e = .returned (.tuple #[.slice none 0 0, .slice none 0 0, .iface 41 (.int .i64 (gwBad pl c s))])) ∧
  (gwBad pl c s = 0 → ∃ g1 g2, e = .returned (.tuple #[.slice (some ⟨g1, 0, none⟩) c.length c.length, .slice (some ⟨g2, 0, none⟩) c.length c.length, .nilIface]) ∧ IRow w' g1 (whTo pl c s 12) ∧ IRow w' g2 (List.replicate c.length 0))
theorem wh_err {pl : List Int} {c : List Ac} {s : List Bl} {k : Nat} (hk : k < 12) (h0 : whBad pl c s k = 0) (hp : pl.getD k 0 ≠ 0) (h : uBad c s k (whTo pl c s k) ≠ 0) : whBad pl c s 12 = uBad c s k (whTo pl c s k) := by
  have e1 : whBad pl c s (k + 1) = uBad c s k (whTo pl c s k) := by
    show (if whBad pl c s k ≠ 0 then whBad pl c s k else if pl.getD k 0 = 0 then 0 else _) = _
    rw [if_neg (by simp [h0]), if_neg hp]
  have := whBad_stay (pl := pl) (c := c) (s := s) (k := k + 1) (by rw [e1]; exact h) (12 - (k + 1))
  rw [show k + 1 + (12 - (k + 1)) = 12 by omega, e1] at this
  exact this
theorem wh_go {pl : List Int} {c : List Ac} {s : List Bl} {k : Nat} (h0 : whBad pl c s k = 0) (h : pl.getD k 0 = 0 ∨ uBad c s k (whTo pl c s k) = 0) : whBad pl c s (k + 1) = 0 := by
  show (if whBad pl c s k ≠ 0 then whBad pl c s k else if pl.getD k 0 = 0 then 0 else _) = _
  rw [if_neg (by simp [h0])]
  rcases h with h | h
  · rw [if_pos h]
  · split
    · rfl
    · exact h
/-- An entity, as group.Whole goes through it: the call of underEach. -/
theorem undW_any (a a2 : Option Addr) (cap cap2 : Nat) (c : List Ac) (s : List Bl) (k : Nat) (w : World) (h : IsSl w a c cap) (hb : IsBl w a2 s cap2) (hf : Fine s) (hc0 : chBad c = 0) (hno : s.any (amNo c (((k + 1 : Nat) : Int)) eurB) = false) :
    Calls Try.prog 14 #[.slice a c.length cap, .slice a2 s.length cap2, .string eurB, .int .i64 (((k + 1 : Nat) : Int))] w fun e w' => Below w.heap.size w w' ∧
      (rollOk c (amTo c (((k + 1 : Nat) : Int)) eurB s) c.length = false → e = .returned (.tuple #[.slice none 0 0, .iface 41 (.int .i64 10)])) ∧
      (rollOk c (amTo c (((k + 1 : Nat) : Int)) eurB s) c.length = true → ∃ g, e = .returned (.tuple #[.slice (some ⟨g, 0, none⟩) c.length c.length, .nilIface]) ∧ w.heap.size ≤ g ∧ IRow w' g (uL c s k)) := by
  have h60 := chBad_len hc0
  refine (undE_any a a2 cap cap2 c s _ w h hb hf.len h60 hf.amt).mono ?_
  rintro e w' ⟨r1, r2, r3⟩
  rw [am_map hc0 hf.rises _ eurB hno] at r2 r3
  have e1 : rollBad c (amTo c (((k + 1 : Nat) : Int)) eurB s) = if rollOk c (amTo c (((k + 1 : Nat) : Int)) eurB s) c.length = true then 0 else 10 := by
    unfold rollBad
    rw [if_neg (by simp [hc0]), if_neg (by rw [amTo_length]; simp)]
  rw [e1] at r2 r3
  refine ⟨r1, fun h0 => ?_, fun h0 => ?_⟩
  · rw [h0] at r2
    have := r2 (by decide)
    rw [this]; rfl
  · rw [h0] at r3
    obtain ⟨g, q1, q2, q3⟩ := r3 rfl
    exact ⟨g, q1, q2, q3⟩
end Go.Proofs.Ythaidbicimiljaa

namespace Go.Proofs.Ythaidbicimiljaa
set_option linter.unusedVariables false
set_option linter.unusedSimpArgs false
set_option maxRecDepth 100000
open Go.RowKit Go.Lib Go.Maps Math

set_option maxHeartbeats 20000000 in
theorem whole_any (a a2 a3 : Option Addr) (cap cap2 cap3 : Nat) (c : List Ac) (hs : List Ho) (top : Int) (s : List Bl) (w : World) (h : IsSl w a c cap) (hh : IsHo w a3 hs cap3) (hhl : hs.length ≤ 9223372036854775807) (hb : IsBl w a2 s cap2) (hbl : s.length ≤ 9223372036854775807) (hcu : ∀ x ∈ s, x.cur = eurB) (hp0 : ptsBad hs top = 0) (hpv : ∀ k, k < 12 → (ptsL hs top).getD k 0 = 0 ∨ (ptsL hs top).getD k 0 = 1000) :
    Calls Try.prog 5 #[.slice a c.length cap, .slice none 0 0, .string eurB, .slice a3 hs.length cap3, .int .i64 top, .slice a2 s.length cap2, .int .i64 1] w (GwEnd (ptsL hs top) c s w) := by
  have HC : Hid (Calls Try.prog 11 #[.slice a c.length cap] w fun e w' => e = .returned (chE (chBad c)) ∧ Below w.heap.size w w') := chCheck_any a cap c w h
  have HEnd : Hid (∀ e w', GwEnd (ptsL hs top) c s w e w' ↔ (Below w.heap.size w w' ∧ (gwBad (ptsL hs top) c s ≠ 0 → e = .returned (.tuple #[.slice none 0 0, .slice none 0 0, .iface 41 (.int .i64 (gwBad (ptsL hs top) c s))])) ∧ (gwBad (ptsL hs top) c s = 0 → ∃ g1 g2, e = .returned (.tuple #[.slice (some ⟨g1, 0, none⟩) c.length c.length, .slice (some ⟨g2, 0, none⟩) c.length c.length, .nilIface]) ∧ IRow w' g1 (whTo (ptsL hs top) c s 12) ∧ IRow w' g2 (List.replicate c.length 0)))) := fun _ _ => Iff.rfl
  have Hs : Hid (IsSl w a c cap ∧ IsBl w a2 s cap2) := ⟨h, hb⟩
  by_cases c1 : chBad c ≠ 0
  · have e1 : gwBad (ptsL hs top) c s = chBad c := if_pos c1
    unfold GwEnd
    rw [e1]
    rw [chE_ne c1] at HC
    generalize chBad c = z at *
    clear h hh hb hcu hp0 hpv HEnd
    go_enter Try.func5, Try.ntmps5
    go_wp2_with fail
    refine HC.out.mono ?_
    rintro e w1 ⟨rfl, hb1⟩
    have HB1 : Hid (Below w.heap.size w w1) := hb1
    clear hb1
    go_wp2
    exact bodyPost_ret (v := .tuple #[.slice none 0 0, .slice none 0 0, .iface 41 (.int .i64 z)]) (by simp [results, Try.results5, go_sem]) rfl ⟨HB1.out, fun _ => rfl, fun h => absurd h c1⟩
  have c1' := Decidable.of_not_not c1
  rw [c1', chE_zero] at HC
  have HPt : Hid (∀ W, Below w.heap.size w W → Calls Try.prog 4 #[.slice a3 hs.length cap3, .int .i64 top] W fun e w' => ∃ g, e = .returned (.tuple #[.slice (some ⟨g, 0, none⟩) 12 12, .nilIface]) ∧ W.heap.size ≤ g ∧ NRow w' g (ptsL hs top) ∧ Below W.heap.size W w') := fun W hW => by
    refine (grParts_any a3 cap3 hs top W hhl (hh.below hW)).mono ?_
    rintro e w' ⟨h1, _, h3⟩
    obtain ⟨g, h4, h5, h6⟩ := h3 hp0
    exact ⟨g, h4, h5, h6, h1⟩
  have HTr : Hid (∀ W, Below w.heap.size w W → Calls Try.prog 12 #[.slice none 0 0, .string eurB, .slice a2 s.length cap2, .int .i64 1] W (TrEnd s W)) := fun W hW => trans_eur a2 cap2 s W (hb.below hW) hbl hcu
  by_cases c2 : chk s ≠ 0
  · have e1 : gwBad (ptsL hs top) c s = chk s := by unfold gwBad; rw [if_neg c1, if_pos c2]
    unfold GwEnd
    rw [e1]
    have HTr2 : Hid (∀ W, Below w.heap.size w W → Calls Try.prog 12 #[.slice none 0 0, .string eurB, .slice a2 s.length cap2, .int .i64 1] W fun e w' => e = .returned (.tuple #[.slice none 0 0, .iface 41 (.int .i64 (chk s))]) ∧ Below w.heap.size w w') := fun W hW => by
      refine (HTr.out W hW).mono ?_
      rintro e w' ⟨h1, h2, _⟩
      exact ⟨h2 c2, hW.trans (h1.mono hW.size)⟩
    generalize chk s = z at *
    clear h hh hb hcu hp0 hpv HEnd HTr
    go_enter Try.func5, Try.ntmps5
    go_wp2_with fail
    refine HC.out.mono ?_
    rintro e w1 ⟨rfl, hb1⟩
    have HB1 : Hid (Below w.heap.size w w1) := hb1
    clear hb1
    go_wp2_with fail
    refine (HPt.out w1 HB1.out).mono ?_
    rintro e w2 ⟨g, rfl, _, _, hb2⟩
    have HB2 : Hid (Below w.heap.size w w2) := HB1.out.trans (hb2.mono HB1.out.size)
    clear hb2
    go_wp2_with fail
    refine (HTr2.out w2 HB2.out).mono ?_
    rintro e w3 ⟨rfl, hb3⟩
    have HB3 : Hid (Below w.heap.size w w3) := hb3
    clear hb3
    go_wp2
    exact bodyPost_ret (v := .tuple #[.slice none 0 0, .slice none 0 0, .iface 41 (.int .i64 z)]) (by simp [results, Try.results5, go_sem]) rfl ⟨HB3.out, fun _ => rfl, fun h => absurd h c2⟩
  have c2' := Decidable.of_not_not c2
  have HFn : Hid (Fine s) := chk_zero.1 c2'
  have HG : Hid (gwBad (ptsL hs top) c s = whBad (ptsL hs top) c s 12) := by unfold Hid gwBad; rw [if_neg c1, if_neg c2]
  have HTr2 : Hid (∀ W, Below w.heap.size w W → Calls Try.prog 12 #[.slice none 0 0, .string eurB, .slice a2 s.length cap2, .int .i64 1] W fun e w' => ∃ at_ ct, e = .returned (.tuple #[.slice at_ s.length ct, .nilIface]) ∧ IsBl w' at_ s ct ∧ Below W.heap.size W w') := fun W hW => by
    refine (HTr.out W hW).mono ?_
    rintro e w' ⟨h1, _, h3⟩
    obtain ⟨a', c', h4, h5⟩ := h3 c2'
    exact ⟨a', c', h4, h5, h1⟩
  have HCk : Hid (∀ W en, Below w.heap.size w W → Calls Try.prog 13 #[.slice a c.length cap, .slice a2 s.length cap2, .int .i64 en] W fun e w' => e = .returned (if s.any (amNo c en eurB) = true then .iface 41 (.int .i64 6) else .nilIface) ∧ Below W.heap.size W w') := fun W en hW => ckAcc_any a a2 cap cap2 c s en W (h.below hW) (hb.below hW) HFn.out.len c1' hcu
  have HUn : Hid (∀ W at_ ct k, Below w.heap.size w W → IsBl W at_ s ct → s.any (amNo c (((k + 1 : Nat) : Int)) eurB) = false → _) := fun W at_ ct k hW hat hno => undW_any a at_ cap ct c s k W (h.below hW) hat HFn.out c1' hno
  have H60 : Hid (c.length ≤ 60) := chBad_len c1'
  have hcl : (c.length : Int) ≤ 60 := by have := H60.out; omega
  have hcl2 : c.length ≤ 60 := H60.out
  have hmk := fun w => run_make_row' (P := Try.prog) 25 3 (.int .i64 0) 8 Try.underlying25 ga_int rfl .i64 .i64 c.length (by omega) (by omega) w
  have HPv : Hid (∀ k, k < 12 → (ptsL hs top).getD k 0 = 0 ∨ (ptsL hs top).getD k 0 = 1000) := hpv
  have HPl : Hid ((ptsL hs top).length = 12) := ptsL_len hs top
  clear h hh hb hcu hp0 hpv HTr c1 c1' c2 c2'
  generalize ptsL hs top = pl at *
  go_enter Try.func5, Try.ntmps5
  go_wp2_with fail
  refine HC.out.mono ?_
  rintro e w1 ⟨rfl, hb1⟩
  have HB1 : Hid (Below w.heap.size w w1) := hb1
  clear hb1 HC
  go_wp2_with fail
  refine (HPt.out w1 HB1.out).mono ?_
  rintro e w2 ⟨gp, rfl, _, hr2, hb2⟩
  have HR2 : Hid (NRow w2 gp pl) := hr2
  have HB2 : Hid (Below w.heap.size w w2) := HB1.out.trans (hb2.mono HB1.out.size)
  clear hb2 hr2 HPt HB1
  go_wp2_with fail
  refine (HTr2.out w2 HB2.out).mono ?_
  rintro e w3 ⟨at_, ct, rfl, hi3, hb3⟩
  have HR3 : Hid (NRow w3 gp pl ∧ IsBl w3 at_ s ct ∧ Below w.heap.size w w3) := ⟨HR2.out.belowS hb3 HR2.out.ltS, hi3, HB2.out.trans (hb3.mono HB2.out.size)⟩
  clear hb3 hi3 HTr2 HB2 HR2
  go_upto_region 10 with fail
  go_cut [21, 22] from 54 to 59 (fun v1 v2 wx => ∃ g1 g2, v1 = .slice (some ⟨g1, 0, none⟩) c.length c.length ∧ v2 = .slice (some ⟨g2, 0, none⟩) c.length c.length ∧ Hid (g1 ≠ g2 ∧ w3.heap.size ≤ g1 ∧ w3.heap.size ≤ g2 ∧ IRow wx g1 (List.replicate c.length 0) ∧ IRow wx g2 (List.replicate c.length 0) ∧ Below w3.heap.size w3 wx))
  case first =>
    have hn1 := irow_made w3 c.length
    have hn2 := irow_made (w3.alloc (.cells (madeCells #[.int .i64 0] c.length) 3)) c.length
    have hb4 : Below w3.heap.size w3 (w3.alloc (.cells (madeCells #[.int .i64 0] c.length) 3)) := (Below.refl _ w3).alloc (Nat.le_refl _) _
    have hb5 : Below w3.heap.size w3 ((w3.alloc (.cells (madeCells #[.int .i64 0] c.length) 3)).alloc (.cells (madeCells #[.int .i64 0] c.length) 3)) := hb4.alloc hb4.size _
    have hb6 : Below (w3.heap.size + 1) (w3.alloc (.cells (madeCells #[.int .i64 0] c.length) 3)) ((w3.alloc (.cells (madeCells #[.int .i64 0] c.length) 3)).alloc (.cells (madeCells #[.int .i64 0] c.length) 3)) := (Below.refl _ _).alloc (by simp) _
    have hs1 : (w3.alloc (.cells (madeCells #[.int .i64 0] c.length) 3)).heap.size = w3.heap.size + 1 := by simp
    rw [hs1] at hn2
    have HT2 : Hid (IRow ((w3.alloc (.cells (madeCells #[.int .i64 0] c.length) 3)).alloc (.cells (madeCells #[.int .i64 0] c.length) 3)).drew w3.heap.size (List.replicate c.length 0) ∧ IRow ((w3.alloc (.cells (madeCells #[.int .i64 0] c.length) 3)).alloc (.cells (madeCells #[.int .i64 0] c.length) 3)).drew (w3.heap.size + 1) (List.replicate c.length 0) ∧ Below w3.heap.size w3 ((w3.alloc (.cells (madeCells #[.int .i64 0] c.length) 3)).alloc (.cells (madeCells #[.int .i64 0] c.length) 3)).drew) :=
      ⟨irow_below hn1 (gr_drew hb6) (Nat.lt_succ_self _), hn2, hb5.trans ⟨rfl, rfl, rfl, Nat.le_refl _, fun _ _ => rfl⟩⟩
    clear hn1 hn2 hb4 hb5 hb6 hs1
    go_region
    all_goals
      go_wp2_with fail
      go_meet
      case rel =>
        first
        | exact ⟨_, _, rfl, rfl, by omega, Nat.le_refl _, Nat.le_succ _, HT2.out.1, HT2.out.2.1, HT2.out.2.2⟩
        | exact ⟨_, _, rfl, rfl, by omega, Nat.le_succ _, Nat.le_refl _, HT2.out.2.1, HT2.out.1, HT2.out.2.2⟩
  case rest =>
    rename World => wx
    obtain ⟨g1, g2, rfl, rfl, HG12⟩ := hcut
    clear hmk
    have H0 : Hid (IRow wx g1 (whTo pl c s 0) ∧ IRow wx g2 (List.replicate c.length 0) ∧ NRow wx gp pl ∧ IsBl wx at_ s ct ∧ Below w.heap.size w wx) :=
      ⟨HG12.out.2.2.2.1, HG12.out.2.2.2.2.1, HR3.out.1.belowS HG12.out.2.2.2.2.2 HR3.out.1.ltS, HR3.out.2.1.below HG12.out.2.2.2.2.2, HR3.out.2.2.trans (HG12.out.2.2.2.2.2.mono HR3.out.2.2.size)⟩
    have HQ : Hid (g1 ≠ g2 ∧ w3.heap.size ≤ g1 ∧ w3.heap.size ≤ g2 ∧ w.heap.size ≤ g1 ∧ w.heap.size ≤ g2 ∧ gp ≠ g1 ∧ gp ≠ g2) := by
      have h1 := HR3.out.1.ltS
      have h2 := HR3.out.2.2.size
      have h3 := HG12.out
      refine ⟨h3.1, h3.2.1, h3.2.2.1, by omega, by omega, by omega, by omega⟩
    have HAt : Hid (∀ W V, IsBl W at_ s ct → But2 g1 g2 W V → IsBl V at_ s ct) := fun W V hW hV => by
      refine ⟨hW.cap, ?_⟩
      rcases HR3.out.2.1.lies with h0 | ⟨b, off, e, hlt, _⟩
      · exact .inl h0
      · rcases hW.lies with h0 | ⟨b', off', e', hlt', hc'⟩
        · exact .inl h0
        · rw [e] at e'
          cases e'
          have hne1 : b ≠ g1 := by have := HQ.out.2.1; omega
          have hne2 : b ≠ g2 := by have := HQ.out.2.2.1; omega
          refine .inr ⟨b, off, e, Nat.lt_of_lt_of_le hlt' hV.size, fun k hk => ?_⟩
          have hx := hc' k hk
          have hblk := hV.block b hlt' hne1 hne2
          exact ⟨by rw [← hx.c0]; simp [World.cell?, hblk], by rw [← hx.c1]; simp [World.cell?, hblk], by rw [← hx.c2]; simp [World.cell?, hblk], by rw [← hx.c3]; simp [World.cell?, hblk]⟩
    clear HG12 HR3
    go_wp2
    go_loopw [62] (fun i wr => ∃ k : Nat, k ≤ 12 ∧ i = .int .i64 k ∧ Hid (whBad pl c s k = 0) ∧ Hid (IRow wr g1 (whTo pl c s k) ∧ IRow wr g2 (List.replicate c.length 0) ∧ NRow wr gp pl ∧ IsBl wr at_ s ct ∧ Below w.heap.size w wr)) (fun i _ => 12 - (RowKit.intOf i).toNat)
    case atStart => exact ⟨0, Nat.zero_le _, rfl, rfl, H0⟩
    case round =>
      obtain ⟨k, hk, rfl, H0k, HR⟩ := hrel
      clear H0
      by_cases hlt : k < 12
      · have qp := HR.out.2.2.1.cell (i := k) (by have := HPl.out; omega)
        have i0 : (0 : Int) ≤ k := by omega
        have i1 : (k : Int) < 12 := by omega
        rcases HPv.out k hlt with hz | hz
        · have HN2 : Hid (whBad pl c s (k + 1) = 0) := wh_go H0k.out (.inl hz)
          have HT2 : Hid (whTo pl c s (k + 1) = whTo pl c s k) := if_pos hz
          rw [hz] at qp
          clear HEnd HCk HUn HPv HG HAt
          go_wp2
          go_roundw
          case rel => exact ⟨k + 1, by omega, by go_num, HN2, by rw [HT2.out]; exact HR⟩
          case measure => simp [RowKit.intOf]; omega
        · have hz0 : pl.getD k 0 ≠ 0 := by rw [hz]; decide
          rw [hz] at qp
          have HErr : Hid (∀ z, z ≠ 0 → uBad c s k (whTo pl c s k) = z → gwBad pl c s = z) := fun z h1 h2 => by
            rw [HG.out, wh_err hlt H0k.out hz0 (by rw [h2]; exact h1), h2]
          have HNx : Hid (uBad c s k (whTo pl c s k) = 0 → whBad pl c s (k + 1) = 0) := fun h1 => wh_go H0k.out (.inr h1)
          have HT2 : Hid (whTo pl c s (k + 1) = addL (whTo pl c s k) (uL c s k)) := if_neg hz0
          have HFt : Hid (∀ i, i < (whTo pl c s k).length → I64 ((whTo pl c s k).getD i 0)) := whTo_fit k H0k.out
          have HLn : Hid ((whTo pl c s k).length = c.length) := whTo_len pl c s k
          have HFin : Hid (∀ z U, z ≠ 0 → uBad c s k (whTo pl c s k) = z → Below w.heap.size w U → GwEnd pl c s w (.returned (.tuple #[.slice none 0 0, .slice none 0 0, .iface 41 (.int .i64 z)])) U) := fun z U h1 h2 hU => by
            have h3 := HErr.out z h1 h2
            rw [HEnd.out, h3]
            exact ⟨hU, fun _ => rfl, fun h => absurd h h1⟩
          have HCk1 : Hid (Calls _ _ _ _ _) := HCk.out wr (((k + 1 : Nat) : Int)) HR.out.2.2.2.2
          have HUb : Hid (uBad c s k (whTo pl c s k) = if s.any (amNo c (((k + 1 : Nat) : Int)) eurB) = true then 6 else if rollOk c (amTo c (((k + 1 : Nat) : Int)) eurB s) c.length = true then (if addOk (whTo pl c s k) (uL c s k) = true then 0 else 10) else 10) := rfl
          have HUn1 : Hid (∀ W, Below w.heap.size w W → IsBl W at_ s ct → s.any (amNo c (((k + 1 : Nat) : Int)) eurB) = false → _) := fun W hW h1 h2 => HUn.out W at_ ct k hW h1 h2
          have ek : (((k + 1 : Nat) : Int)) = (k : Int) + 1 := by omega
          rw [ek] at HCk1 HUb HUn1
          clear HCk HUn HPv HG HEnd HErr hz hz0 ek
          generalize uBad c s k (whTo pl c s k) = ub at *
          generalize whTo pl c s k = r at *
          have hrl := HLn.out
          go_wp2_with fail
          refine HCk1.out.mono ?_
          rintro e w4 ⟨rfl, hb4⟩
          have HR4 : Hid (IRow w4 g1 r ∧ IRow w4 g2 (List.replicate c.length 0) ∧ NRow w4 gp pl ∧ IsBl w4 at_ s ct ∧ Below w.heap.size w w4) :=
            ⟨irow_below HR.out.1 hb4 (irow_lt HR.out.1), irow_below HR.out.2.1 hb4 (irow_lt HR.out.2.1), HR.out.2.2.1.belowS hb4 HR.out.2.2.1.ltS, HR.out.2.2.2.1.below hb4, HR.out.2.2.2.2.trans (hb4.mono HR.out.2.2.2.2.size)⟩
          clear hb4 HR HCk1 qp
          cases hno : s.any (amNo c ((k : Int) + 1) eurB)
          · rw [hno, if_neg (by decide)] at HUb
            have HU1 : Hid (Calls _ _ _ _ _) := HUn1.out w4 HR4.out.2.2.2.2 HR4.out.2.2.2.1 hno
            simp only [Bool.false_eq_true, if_false]
            clear HUn1 hno
            cases hro : rollOk c (amTo c ((k : Int) + 1) eurB s) c.length
            · rw [hro, if_neg (by decide)] at HUb
              rw [hro] at HU1
              have HF10 : Hid (∀ U, Below w.heap.size w U → _) := fun U hU => HFin.out 10 U (by decide) HUb.out hU
              clear HFin HNx hro
              go_wp2_with fail
              refine HU1.out.mono ?_
              rintro e w5 ⟨hb5, h10, _⟩
              obtain rfl := h10 (by first | rfl | trivial)
              have HL : Hid _ := HF10.out w5 (HR4.out.2.2.2.2.trans (hb5.mono HR4.out.2.2.2.2.size))
              clear hb5 h10 HU1 HF10 HR4
              go_wp2
              exact bodyPost_ret (v := .tuple #[.slice none 0 0, .slice none 0 0, .iface 41 (.int .i64 10)]) (by simp [results, Try.results5, go_sem]) rfl HL.out
            · rw [hro, if_pos rfl] at HUb
              have HUf : Hid (∀ i, i < (uL c s k).length → I64 ((uL c s k).getD i 0)) := uL_fit (by rw [show (((k + 1 : Nat) : Int)) = (k : Int) + 1 by omega]; exact hro)
              have HUl : Hid ((uL c s k).length = c.length) := uL_len c s k
              rw [hro] at HU1
              clear hro
              generalize uL c s k = u at *
              go_wp2_with fail
              refine HU1.out.mono ?_
              rintro e w5 ⟨hb5, _, hok⟩
              obtain ⟨gu, rfl, hgu, hru⟩ := hok (by first | rfl | trivial)
              have hg1 := irow_lt HR4.out.1
              have hg2 := irow_lt HR4.out.2.1
              have HR5 : Hid (IRow w5 g1 r ∧ IRow w5 g2 (List.replicate c.length 0) ∧ NRow w5 gp pl ∧ IsBl w5 at_ s ct ∧ Below w.heap.size w w5) :=
                ⟨irow_below HR4.out.1 hb5 hg1, irow_below HR4.out.2.1 hb5 hg2, HR4.out.2.2.1.belowS hb5 HR4.out.2.2.1.ltS, HR4.out.2.2.2.1.below hb5, HR4.out.2.2.2.2.trans (hb5.mono HR4.out.2.2.2.2.size)⟩
              have HAd : Hid (Calls Try.prog 15 #[.slice (some ⟨g1, 0, none⟩) c.length c.length, .slice (some ⟨g2, 0, none⟩) c.length c.length, .slice (some ⟨gu, 0, none⟩) c.length c.length, .int .i64 1000] w5 (AdEnd r u g1 g2 w5)) := by
                have := addP_any r u g1 g2 gu w5 (by rw [HUl.out, hrl]) (by rw [hrl]; exact hcl2) HFt.out HUf.out HR5.out.1 (by rw [hrl]; exact HR5.out.2.1) hru HQ.out.1 (by omega) (by omega)
                rwa [hrl] at this
              clear hb5 hok hgu hru hg1 hg2 HU1 HR4 HUf HFt
              cases had : addOk r u
              · rw [had, if_neg (by decide)] at HUb
                have HF10 : Hid (∀ U, Below w.heap.size w U → _) := fun U hU => HFin.out 10 U (by decide) HUb.out hU
                clear HFin HNx
                go_wp2_with fail
                refine HAd.out.mono ?_
                rintro e w6 ⟨hb6, h10, _⟩
                obtain rfl := h10 had
                have HL : Hid _ := HF10.out w6 (HR5.out.2.2.2.2.trans (hb6.low HQ.out.2.2.2.1 HQ.out.2.2.2.2.1 HR5.out.2.2.2.2.size))
                clear hb6 h10 HAd HF10 HR5
                go_wp2
                exact bodyPost_ret (v := .tuple #[.slice none 0 0, .slice none 0 0, .iface 41 (.int .i64 10)]) (by simp [results, Try.results5, go_sem]) rfl HL.out
              · rw [had, if_pos rfl] at HUb
                have HN2 : Hid (whBad pl c s (k + 1) = 0) := HNx.out HUb.out
                clear HFin HNx
                go_wp2_with fail
                refine HAd.out.mono ?_
                rintro e w6 ⟨hb6, _, hok⟩
                obtain ⟨rfl, hr6, ho6⟩ := hok had
                have HR6 : Hid (IRow w6 g1 (whTo pl c s (k + 1)) ∧ IRow w6 g2 (List.replicate c.length 0) ∧ NRow w6 gp pl ∧ IsBl w6 at_ s ct ∧ Below w.heap.size w w6) := by
                  refine ⟨by rw [HT2.out]; exact hr6, by rw [hrl] at ho6; exact ho6, (hb6.block gp HR5.out.2.2.1.ltS HQ.out.2.2.2.2.2.1 HQ.out.2.2.2.2.2.2).trans HR5.out.2.2.1, HAt.out _ _ HR5.out.2.2.2.1 hb6, HR5.out.2.2.2.2.trans (hb6.low HQ.out.2.2.2.1 HQ.out.2.2.2.2.1 HR5.out.2.2.2.2.size)⟩
                clear hb6 hok hr6 ho6 HAd HR5 had
                go_wp2
                go_roundw
                case rel => exact ⟨k + 1, by omega, by go_num, HN2, HR6⟩
                case measure => simp [RowKit.intOf]; omega
          · rw [hno, if_pos rfl] at HUb
            have HL : Hid _ := HFin.out 6 w4 (by decide) HUb.out HR4.out.2.2.2.2
            simp only [if_true]
            clear HFin HNx HUn1 hno HR4
            go_wp2
            exact bodyPost_ret (v := .tuple #[.slice none 0 0, .slice none 0 0, .iface 41 (.int .i64 6)]) (by simp [results, Try.results5, go_sem]) rfl HL.out
      · obtain rfl : k = 12 := by omega
        have HL : Hid (GwEnd pl c s w (.returned (.tuple #[.slice (some ⟨g1, 0, none⟩) c.length c.length, .slice (some ⟨g2, 0, none⟩) c.length c.length, .nilIface])) wr) := by
          have h3 : gwBad pl c s = 0 := HG.out.trans H0k.out
          rw [HEnd.out, h3]
          exact ⟨HR.out.2.2.2.2, fun h => absurd rfl h, fun _ => ⟨g1, g2, rfl, HR.out.1, HR.out.2.1⟩⟩
        clear HEnd HCk HUn HPv HG HAt HR
        go_wp2
        exact bodyPost_ret (v := .tuple #[.slice (some ⟨g1, 0, none⟩) c.length c.length, .slice (some ⟨g2, 0, none⟩) c.length c.length, .nilIface]) (by simp [results, Try.results5, go_sem]) rfl HL.out
end Go.Proofs.Ythaidbicimiljaa

namespace Go.Proofs.Ythaidbicimiljaa
set_option linter.unusedVariables false
set_option linter.unusedSimpArgs false
set_option maxRecDepth 100000
open Go.RowKit Go.Lib

/-- Numbers behind a slice. -/
def HasInts (w : World) (v : Value) (xs : List Int) : Prop := ∃ a cap, v = .slice a xs.length cap ∧ (xs = [] ∨ ∃ g off, a = some ⟨g, off, none⟩ ∧ ∀ k, k < xs.length → w.cell? ⟨g, off + k, none⟩ = some (.int .i64 (xs.getD k 0)))

theorem hasInts_nil (w : World) : HasInts w (.slice none 0 0) [] := ⟨none, 0, rfl, .inl rfl⟩

--@if{quarterday/daysame.Ints}
set_option maxHeartbeats 1000000 in
theorem sameInts_any (v1 v2 : Value) (xs : List Int) (w : World) (hlen : xs.length ≤ 1000) (h1 : HasInts w v1 xs) (h2 : HasInts w v2 xs) :
    Calls Try.prog 7 #[v1, v2] w fun e w' => e = .returned (.bool true) ∧ Below w.heap.size w w' := by
  obtain ⟨a1, c1, rfl, h1⟩ := h1
  obtain ⟨a2, c2, rfl, h2⟩ := h2
  have Hlen : (xs.length : Int) ≤ 1000 := by omega
  have H1 : Hid (xs = [] ∨ _) := h1
  have H2 : Hid (xs = [] ∨ _) := h2
  clear h1 h2
  go_enter Try.func7, Try.ntmps7
  go_wp2
  go_loopw [5] (fun i wr => ∃ k : Nat, k ≤ xs.length ∧ i = .int .i64 k ∧ ∃ n, wr = w.drewN n) (fun i _ => xs.length - (RowKit.intOf i).toNat)
  case atStart => exact ⟨0, Nat.zero_le _, rfl, 0, rfl⟩
  case round =>
    obtain ⟨k, hk, rfl, nd, rfl⟩ := hrel
    by_cases hlt : k < xs.length
    · rcases H1.out with h | ⟨g1, o1, rfl, q1⟩
      · rw [h] at hlt; simp at hlt
      rcases H2.out with h | ⟨g2, o2, rfl, q2⟩
      · rw [h] at hlt; simp at hlt
      have d1 := q1 k hlt
      have d2 := q2 k hlt
      clear q1 q2 H1 H2
      generalize xs.getD k 0 = x at *
      have i0 : (0 : Int) ≤ k := by omega
      have i1 : (k : Int) < xs.length := by omega
      go_wp2_with fail
      go_quiet (fail)
      go_wp2
      go_roundw
      case rel => exact ⟨k + 1, by omega, by go_num, _, rfl⟩
      case measure => simp [RowKit.intOf]; omega
    · have hk2 : k = xs.length := by omega
      subst hk2
      go_wp2
      go_ret
      exact ⟨rfl, ch_drewN (Below.refl _ _) _⟩
--@fi
end Go.Proofs.Ythaidbicimiljaa
