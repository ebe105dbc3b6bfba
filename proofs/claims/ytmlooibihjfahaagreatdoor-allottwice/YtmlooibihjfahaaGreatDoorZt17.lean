/-
  What was given out is not there any more: the walk of daylaw5.AllotTwice.
-/
import Derived.Test.YtmlooibihjfahaaGreatDoorZt16
import Derived.Test.YtmlooibihjfahaaGreatDoorZt14
import Derived.Test.YtmlooibihjfahaaGreatDoorZt0
import Derived.Laws.NewBlocks
import Derived.RangeFuncRecord
import Derived.KernelRfl
namespace Go.Proofs.YtmlooibihjfahaaGreatDoor
set_option linter.unusedVariables false
set_option linter.unusedSimpArgs false
set_option maxRecDepth 100000
open Go.RowKit Go.Lib
/-- The place of the first balance for which something holds, counted from a number on; else -1. -/
def bidxFrom (p : Bl → Bool) : Nat → List Bl → Int
  | _, [] => -1
  | k, a :: l => if p a = true then (k : Int) else bidxFrom p (k + 1) l
theorem bidx_any (p : Bl → Bool) : ∀ (l : List Bl) (k : Nat), decide (0 ≤ bidxFrom p k l) = l.any p
  | [], k => by simp [bidxFrom]
  | x :: l, k => by
    rw [bidxFrom]
    cases h : p x
    · rw [if_neg (by simp), bidx_any p l (k + 1)]; simp [h]
    · rw [if_pos rfl]; simp [h]
theorem bidx_spec (p : Bl → Bool) : ∀ (l : List Bl) (k : Nat), (bidxFrom p k l = -1 ∧ l.any p = false) ∨ ∃ j, j < l.length ∧ bidxFrom p k l = ((k + j : Nat) : Int) ∧ p (l.getD j bl0) = true ∧ (l.take j).any p = false
  | [], k => .inl ⟨rfl, rfl⟩
  | x :: l, k => by
    cases h : p x
    · rcases bidx_spec p l (k + 1) with ⟨e, ha⟩ | ⟨j, hj, e, hp, ha⟩
      · exact .inl ⟨by rw [bidxFrom, if_neg (by simp [h]), e], by simp [h, ha]⟩
      · exact .inr ⟨j + 1, by simpa using hj, by rw [bidxFrom, if_neg (by simp [h]), e]; congr 1; omega, by simpa using hp, by simp [h, ha]⟩
    · exact .inr ⟨0, by simp, by rw [bidxFrom, if_pos h]; simp, by simpa using h, by simp⟩

/-- What is asked of a function that is told a balance and says yes or no. -/
structure BTells (g : Nat) (p : Bl → Bool) : Prop where
  eg : ∀ args W, (callFunc g args).run Tryz.prog W = .ok (.enter g args) W
  call : ∀ (x : Bl) W, Calls Tryz.prog g #[.agg x.cells] W fun e w' => e = .returned (.bool (p x)) ∧ Below W.heap.size W w'

set_option maxHeartbeats 1000000 in
theorem blIdx_some (g : Nat) (p : Bl → Bool) (b off cap : Nat) (l : List Bl) (w : World) (hp : BTells g p) (hb : b < w.heap.size) (hlen : (l.length : Int) ≤ 9223372036854775807) (hc : BlsAt w b off l) :
    Calls Tryz.prog 25 #[.slice (some ⟨b, off, none⟩) l.length cap, .func (.func g) #[] #[]] w fun e w' => e = .returned (.int .i64 (bidxFrom p 0 l)) ∧ Below w.heap.size w w' := by
  have eg := hp.eg
  have Hp : Hid (BTells g p) := hp
  have Hc : Hid (BlsAt w b off l) := hc
  clear hp hc
  obtain ⟨res, hres⟩ : ∃ res, bidxFrom p 0 l = res := ⟨_, rfl⟩
  have Hres : Hid (bidxFrom p 0 l = res) := hres
  rw [hres]
  clear hres
  go_enter Tryz.func25, Tryz.ntmps25
  go_wp2
  go_loopw [8] (fun i wr => ∃ k : Nat, k ≤ l.length ∧ i = .int .i64 k ∧ Hid (bidxFrom p k (l.drop k) = res) ∧ Below w.heap.size w wr) (fun i _ => l.length - (RowKit.intOf i).toNat)
  case atStart => exact ⟨0, Nat.zero_le _, rfl, Hres.out, Below.refl _ _⟩
  case round =>
    obtain ⟨k, hk, rfl, H, BW⟩ := hrel
    by_cases hlt : k < l.length
    · have hn := (Hc.out k hlt).below BW hb
      have hcall := Hp.out.call (l.getD k bl0) wr
      have E : Hid ((if p (l.getD k bl0) = true then (k : Int) else bidxFrom p (k + 1) (l.drop (k + 1))) = res) := by
        have := H.out
        rw [bls_drop l k hlt] at this
        exact this
      clear H
      generalize l.getD k bl0 = a at *
      obtain ⟨a0, a1, a2, a3⟩ := a
      obtain ⟨c0, c1, c2, c3⟩ := hn
      simp only [Bl.cells] at c0 c1 c2 c3 hcall
      have i0 : (0 : Int) ≤ k := by omega
      have i1 : (k : Int) < l.length := by omega
      cases hq : p ⟨a0, a1, a2, a3⟩
      · rw [hq] at hcall
        have HN : Hid (bidxFrom p (k + 1) (l.drop (k + 1)) = res) := by
          have := E.out; rw [if_neg (by rw [hq]; simp)] at this; exact this
        go_wp2_with (go_at_fn g; refine hcall.mono ?_; rintro e w' ⟨rfl, hb'⟩)
        go_roundw
        case rel => exact ⟨k + 1, by omega, by go_num, HN, BW.trans (hb'.mono BW.size)⟩
        case measure => simp [RowKit.intOf]; omega
      · rw [hq] at hcall
        have er : res = k := by rw [← E.out, if_pos hq]
        subst er
        go_wp2_with (go_at_fn g; refine hcall.mono ?_; rintro e w' ⟨rfl, hb'⟩)
        go_ret
        exact ⟨rfl, BW.trans (hb'.mono BW.size)⟩
    · have hk2 : k = l.length := by omega
      subst hk2
      have er : res = -1 := by rw [← H.out, List.drop_length]; rfl
      subst er
      go_wp2
      go_ret
      exact ⟨rfl, BW⟩

theorem blIdx_none (a : Option Addr) (cap : Nat) (f : Value) (w : World) :
    Calls Tryz.prog 25 #[.slice a 0 cap, f] w fun e w' => e = .returned (.int .i64 (-1)) ∧ Below w.heap.size w w' := by
  go_enter Tryz.func25, Tryz.ntmps25
  go_wp2
  refine wp_loop_rounds 1 ?_
  rw [rounds_succ]
  go_wp2
  go_ret
  exact ⟨rfl, Below.refl _ _⟩

theorem blIdx_any (g : Nat) (p : Bl → Bool) (a : Option Addr) (cap : Nat) (l : List Bl) (w : World) (hp : BTells g p) (hlen : (l.length : Int) ≤ 9223372036854775807) (h : IsBl w a l cap) :
    Calls Tryz.prog 25 #[.slice a l.length cap, .func (.func g) #[] #[]] w fun e w' => e = .returned (.int .i64 (bidxFrom p 0 l)) ∧ Below w.heap.size w w' := by
  rcases h.lies with rfl | ⟨b, off, rfl, hlt, hc⟩
  · exact blIdx_none a cap _ w
  · exact blIdx_some g p b off cap l w hp hlt hlen hc

theorem blContains_any (g : Nat) (p : Bl → Bool) (a : Option Addr) (cap : Nat) (l : List Bl) (w : World) (hp : BTells g p) (hlen : (l.length : Int) ≤ 9223372036854775807) (h : IsBl w a l cap) :
    Calls Tryz.prog 19 #[.slice a l.length cap, .func (.func g) #[] #[]] w fun e w' => e = .returned (.bool (l.any p)) ∧ Below w.heap.size w w' := by
  rw [← bidx_any p l 0]
  have hI := blIdx_any g p a cap l w hp hlen h
  clear h
  go_enter Tryz.func19, Tryz.ntmps19
  go_wp2_with fail
  refine hI.mono ?_
  rintro e w' ⟨rfl, hb⟩
  go_wp2
  go_ret
  exact ⟨rfl, hb⟩


/-- A balance that is too great. -/
def tooB (x : Bl) : Bool := !decide (-1000000000000000000 ≤ x.amt ∧ x.amt ≤ 1000000000000000000)
theorem merge1_any (x : Bl) (w : World) :
    Calls Tryz.prog 20 #[.agg x.cells] w fun e w' => e = .returned (.bool (tooB x)) ∧ Below w.heap.size w w' := by
  obtain ⟨a0, a1, a2, a3⟩ := x
  simp only [Bl.cells, tooB]
  have HI : Hid (∀ W, Calls Tryz.prog 21 #[.int .i64 a3, .int .i64 1000000000000000000] W fun e w' => e = .returned (.bool (decide (-1000000000000000000 ≤ a3 ∧ a3 ≤ 1000000000000000000))) ∧ w' = W) := fun W => isWithin_any a3 1000000000000000000 (by decide) W
  generalize decide (-1000000000000000000 ≤ a3 ∧ a3 ≤ 1000000000000000000) = r at *
  go_enter Tryz.func20, Tryz.ntmps20
  go_wp2_with (go_at_call 21; refine (HI.out _).mono ?_; rintro e w' ⟨rfl, rfl⟩)
  go_ret
  exact ⟨rfl, (Below.refl _ w).alloc (Nat.le_refl _) _⟩
theorem merge1_tells : BTells 20 tooB :=
  ⟨fun args W => en_enters Tryz.func20 (by kernel_rfl) ⟨_, rfl⟩ args W, merge1_any⟩
theorem addP_zs (x : Bl) (m : Nat) : ∀ ps : List Pt, (∀ p ∈ ps, p.zs.length ≤ m) → ∀ p ∈ addP ps x, p.zs.length ≤ m + 1
  | [], _, p, hp => by
    rw [addP, List.mem_singleton] at hp
    rw [hp]; simp
  | q :: ps, h, p, hp => by
    unfold addP at hp
    split at hp
    · rcases List.mem_cons.1 hp with rfl | hp
      · have := h q (List.mem_cons_self ..)
        simp; omega
      · have := h p (List.mem_cons_of_mem _ hp)
        omega
    · rcases List.mem_cons.1 hp with rfl | hp
      · have := h p (List.mem_cons_self ..)
        omega
      · exact addP_zs x m ps (fun q hq => h q (List.mem_cons_of_mem _ hq)) p hp
theorem parts_zs (l : List Bl) : ∀ p ∈ parts l, p.zs.length ≤ l.length := by
  have key : ∀ (l : List Bl) (ps : List Pt) (m : Nat), (∀ p ∈ ps, p.zs.length ≤ m) → ∀ p ∈ l.foldl addP ps, p.zs.length ≤ m + l.length := by
    intro l
    induction l with
    | nil => intro ps m h; simpa using h
    | cons x l ih =>
      intro ps m h p hp
      have := ih (addP ps x) (m + 1) (addP_zs x m ps h) p hp
      simp only [List.length_cons]
      omega
  have := key l [] 0 (by simp)
  simpa [parts] using this
/-- All that comes of places is of a place, and what comes of it. -/
theorem sums_of_perm {l R : List Bl} (hr : Rises R) (hp : R.Perm (full ((parts l).map Pt.bal))) : Sums l R :=
  ⟨hr, fun x hx => full_ne _ x (hp.mem_iff.1 hx), fun k => by rw [ltot_perm k hp, ltot_full, ltot_bal, parts_tot]⟩
theorem ok_of_perm {l R : List Bl} (hp : R.Perm (full ((parts l).map Pt.bal))) (hok : ∀ x ∈ l, BlOk x) (hi : ∀ p ∈ parts l, -9223372036854775808 ≤ p.zs.sum ∧ p.zs.sum ≤ 9223372036854775807) : ∀ x ∈ R, BlOk x := fun x hx => by
  have h1 := (List.mem_filter.1 (hp.mem_iff.1 hx)).1
  obtain ⟨p, hp1, rfl⟩ := List.mem_map.1 h1
  obtain ⟨y, hy, e⟩ := (parts_keys p.key l).1 (List.mem_map.2 ⟨p, hp1, rfl⟩)
  exact ⟨by rw [bal_key, ← e]; exact (hok y hy).key, hi p hp1⟩
theorem len_of_perm {l R : List Bl} (hp : R.Perm (full ((parts l).map Pt.bal))) : R.length ≤ (parts l).length := by
  rw [hp.length_eq]
  have := full_len ((parts l).map Pt.bal)
  simpa using this
/-- What comes of two lists. -/
structure MgR (a b R : List Bl) : Prop where
  sums : Sums (a ++ b) R
  len : R.length ≤ 200
  ok : ∀ x ∈ R, BlOk x
/-- Of two right lists, no place has more than two amounts. -/
theorem ltot_abs {l : List Bl} (h : Fine l) (k : Pk) : -1000000000000000000 ≤ ltot k l ∧ ltot k l ≤ 1000000000000000000 := by
  by_cases e : ltot k l = 0
  · rw [e]; omega
  · obtain ⟨x, hx, rfl⟩ := ltot_ex e
    rw [ltot_mem h.rises x hx]
    exact h.amt x hx
theorem two_fit {a b : List Bl} (ha : Fine a) (hb : Fine b) : ∀ p ∈ parts (a ++ b), -9223372036854775808 ≤ p.zs.sum ∧ p.zs.sum ≤ 9223372036854775807 :=
  (parts_all (l := a ++ b) (P := fun z => -9223372036854775808 ≤ z ∧ z ≤ 9223372036854775807)).2 (fun x _ => by
    rw [ltot_append]
    have h1 := ltot_abs ha x.key
    have h2 := ltot_abs hb x.key
    omega)
theorem tgE_two {a b : List Bl} (ha : Fine a) (hb : Fine b) : tgE (parts (a ++ b)) = if 200 < (parts (a ++ b)).length then 4 else 0 := by
  unfold tgE
  split
  · rfl
  · rw [if_pos (List.all_eq_true.2 (fun p hp => decide_eq_true (two_fit ha hb p hp)))]
/-- Something is too great. -/
theorem any_too {l R : List Bl} (hp : R.Perm (full ((parts l).map Pt.bal))) : R.any tooB = true ↔ ¬ (parts l).all (fun p => decide (-1000000000000000000 ≤ p.zs.sum ∧ p.zs.sum ≤ 1000000000000000000)) = true := by
  rw [List.all_eq_true]
  constructor
  · intro h h2
    obtain ⟨x, hx, hx2⟩ := List.any_eq_true.1 h
    obtain ⟨p, hp1, rfl⟩ := List.mem_map.1 (List.mem_filter.1 (hp.mem_iff.1 hx)).1
    have := h2 p hp1
    unfold tooB at hx2
    have e : p.bal.amt = p.zs.sum := rfl
    rw [e, this] at hx2
    cases hx2
  · intro h
    false_or_by_contra
    rename_i hn
    refine h (fun p hp1 => ?_)
    false_or_by_contra
    rename_i hn2
    refine hn (List.any_eq_true.2 ⟨p.bal, hp.mem_iff.2 (List.mem_filter.2 ⟨List.mem_map.2 ⟨p, hp1, rfl⟩, ?_⟩), ?_⟩)
    · have e : p.bal.amt = p.zs.sum := rfl
      by_cases h0 : p.zs.sum = 0
      · exact absurd (decide_eq_true (by rw [h0]; omega)) hn2
      · simp [e, h0]
    · unfold tooB
      have e : p.bal.amt = p.zs.sum := rfl
      rw [e]
      have h2 : decide (-1000000000000000000 ≤ p.zs.sum ∧ p.zs.sum ≤ 1000000000000000000) = false := by
        cases hq : decide (-1000000000000000000 ≤ p.zs.sum ∧ p.zs.sum ≤ 1000000000000000000)
        · rfl
        · exact absurd hq hn2
      rw [h2]
      rfl
end Go.Proofs.YtmlooibihjfahaaGreatDoor

namespace Go.Proofs.YtmlooibihjfahaaGreatDoor
set_option linter.unusedVariables false
set_option linter.unusedSimpArgs false
set_option maxRecDepth 100000
open Go.RowKit Go.Lib
theorem PMp.new (W : World) (n : Nat) (hn : n ≤ W.heap.size) (vs : Nat → Value) : PMp (W.alloc (.map #[] 0)) n W.heap.size [] vs :=
  ⟨ld_new_heap W _, hn, fun p hp => by simp at hp, by simp, fun i hi => by simp at hi, fun i j hi => by simp at hi, fun p hp => by simp at hp⟩
/-- A list of two. -/
def mgL (a b : List Bl) (i : Nat) : List Bl := if i = 0 then a else b
/-- What the outer loop keeps: so many lists are in. -/
structure Mo (W : World) (a b : List Bl) (i : Nat) (U : World) : Prop where
  pm : ∃ vs, PMp U W.heap.size W.heap.size (parts (if i = 0 then [] else if i = 1 then a else a ++ b)) vs
  keep : AKeep W.heap.size W.heap.size (W.alloc (.map #[] 0)) U
  fa : 1 ≤ i → Fine a
  fb : 2 ≤ i → Fine b
theorem parts_take (l m : List Bl) (k : Nat) (h : k < m.length) : parts (l ++ m.take (k + 1)) = addP (parts (l ++ m.take k)) (m.getD k bl0) := by
  rw [bls_take m k h, ← List.append_assoc, parts_snoc]
theorem AKeep.isBl {n mb : Nat} {V W : World} {a : Option Addr} {l : List Bl} {cap : Nat} (h : IsBl V a l cap) (hk : AKeep n mb V W) (hm : ∀ b off, a = some ⟨b, off, none⟩ → b < n ∧ b ≠ mb) : IsBl W a l cap := by
  refine ⟨h.cap, ?_⟩
  rcases h.lies with e | ⟨b, off, e, hlt, hc⟩
  · exact .inl e
  · refine .inr ⟨b, off, e, Nat.lt_of_lt_of_le hlt hk.size, fun k hk2 => ?_⟩
    obtain ⟨h1, h2⟩ := hm b off e
    have hb := hk.block b hlt h2 (.inl h1)
    have hcell : ∀ o, W.cell? ⟨b, o, none⟩ = V.cell? ⟨b, o, none⟩ := fun o => by simp only [World.cell?, hb]
    have := hc k hk2
    exact ⟨(hcell _).trans this.c0, (hcell _).trans this.c1, (hcell _).trans this.c2, (hcell _).trans this.c3⟩

set_option maxHeartbeats 8000000 in
theorem merge_any (a1 a2 : Option Addr) (c1 c2 : Nat) (a b : List Bl) (W : World) (ha : IsBl W a1 a c1) (hb : IsBl W a2 b c2) (la : a.length ≤ 9223372036854775807) (lb : b.length ≤ 9223372036854775807) (oka : ∀ x ∈ a, BlOk x) (okb : ∀ x ∈ b, BlOk x) :
    Calls Tryz.prog 7 #[.slice a1 a.length c1, .slice a2 b.length c2] W fun e w' => Below W.heap.size W w' ∧ (mgE a b ≠ 0 → e = .returned (.tuple #[.slice none 0 0, enE (mgE a b)])) ∧ (mgE a b = 0 → ∃ v R, e = .returned (.tuple #[v, .nilIface]) ∧ Hid (BlRow w' W.heap.size v R ∧ MgR a b R)) := by
  have hmm := @run_makeMap Tryz.prog
  obtain ⟨W2, hW2⟩ : ∃ W2, (W.alloc (.map #[] 0)).alloc (.cells #[.slice a1 a.length c1, .slice a2 b.length c2] 24) = W2 := ⟨_, rfl⟩
  have hb1 : Below W.heap.size W (W.alloc (.map #[] 0)) := (Below.refl _ W).alloc (Nat.le_refl _) _
  have hb2 : Below (W.alloc (.map #[] 0)).heap.size (W.alloc (.map #[] 0)) W2 := by rw [← hW2]; exact (Below.refl _ _).alloc (Nat.le_refl _) _
  have hrow : W2.heap[W.heap.size + 1]? = some (.cells #[.slice a1 a.length c1, .slice a2 b.length c2] 24 (0, 0)) := by
    rw [← hW2]
    have := ld_new_heap (W.alloc (.map #[] 0)) (.cells #[.slice a1 a.length c1, .slice a2 b.length c2] 24)
    simpa using this
  have HM0 : Hid (Mo W a b 0 W2) := ⟨⟨fun _ => .slice none 0 0, (PMp.new W _ (Nat.le_refl _) _).below hb2⟩, AKeep.of_below hb2, fun h => by omega, fun h => by omega⟩
  have HF : Hid (∀ U, AKeep W.heap.size W.heap.size (W.alloc (.map #[] 0)) U → Below W.heap.size W U) := fun U hk => hb1.trans (hk.below (Nat.le_refl _) (by simp))
  have HR : Hid (∀ U, AKeep W.heap.size W.heap.size W2 U → U.cell? ⟨W.heap.size + 1, 0, none⟩ = some (.slice a1 a.length c1) ∧ U.cell? ⟨W.heap.size + 1, 1, none⟩ = some (.slice a2 b.length c2)) := fun U hk => by
    have e := (hk.block (W.heap.size + 1) (Array.getElem?_eq_some_iff.1 hrow).1 (by omega) (.inr (fun cs e => by rw [hrow] at e; simp only [Option.some.injEq, Obj.cells.injEq] at e; exact absurd e.2.1 (by decide)))).trans hrow
    simp [World.cell?, e]
  have HA : Hid (IsBl W a1 a c1 ∧ IsBl W a2 b c2 ∧ (∀ x ∈ a, BlOk x) ∧ (∀ x ∈ b, BlOk x) ∧ a.length ≤ 9223372036854775807 ∧ b.length ≤ 9223372036854775807) := ⟨ha, hb, oka, okb, la, lb⟩
  have HW2 : Hid ((W.alloc (.map #[] 0)).alloc (.cells #[.slice a1 a.length c1, .slice a2 b.length c2] 24) = W2) := hW2
  have HK2 : Hid (AKeep W.heap.size W.heap.size W2 W2) := AKeep.refl _ _ _
  obtain ⟨la', hla⟩ : ∃ x, a.length = x := ⟨_, rfl⟩
  obtain ⟨lb', hlb⟩ : ∃ x, b.length = x := ⟨_, rfl⟩
  rw [hla, hlb] at HR HW2 ⊢
  have HLA : Hid (a.length = la' ∧ b.length = lb') := ⟨hla, hlb⟩
  clear ha hb la lb oka okb hb1 hb2 hrow hW2 hla hlb
  go_enter Tryz.func7, Tryz.ntmps7
  go_wp2_with fail
  rw [HW2.out]
  go_loopw [19] (fun iv wr => ∃ i : Nat, i ≤ 2 ∧ iv = .int .i64 i ∧ Hid (Mo W a b i wr ∧ AKeep W.heap.size W.heap.size W2 wr)) (fun iv _ => 2 - (RowKit.intOf iv).toNat)
  case atStart => exact ⟨0, by omega, rfl, HM0.out, HK2.out⟩
  case round =>
    obtain ⟨i, hi, rfl, HM⟩ := hrel
    by_cases hlt : i < 2
    · obtain ⟨ai, ci, hcell, hIs, hok, hll⟩ : ∃ ai ci, wr.cell? ⟨W.heap.size + 1, i, none⟩ = some (.slice ai (mgL a b i).length ci) ∧ IsBl W ai (mgL a b i) ci ∧ (∀ x ∈ mgL a b i, BlOk x) ∧ (mgL a b i).length ≤ 9223372036854775807 := by
        obtain ⟨r0, r1⟩ := HR.out wr HM.out.2
        rcases (by omega : i = 0 ∨ i = 1) with rfl | rfl
        · exact ⟨a1, c1, by rw [show mgL a b 0 = a from rfl, HLA.out.1]; exact r0, HA.out.1, HA.out.2.2.1, HA.out.2.2.2.2.1⟩
        · exact ⟨a2, c2, by rw [show mgL a b 1 = b from rfl, HLA.out.2]; exact r1, HA.out.2.1, HA.out.2.2.2.1, HA.out.2.2.2.2.2⟩
      have hIs1 : IsBl wr ai (mgL a b i) ci := hIs.below (HF.out wr HM.out.1.keep)
      have HCk : Hid (Calls _ _ _ wr _) := ldCheck_any ai ci (mgL a b i) wr hll hIs1
      have i0 : (0 : Int) ≤ i := by omega
      have i1 : (i : Int) < 2 := by omega
      obtain ⟨li, hli⟩ : ∃ li, mgL a b i = li := ⟨_, rfl⟩
      have HLi : Hid (mgL a b i = li) := hli
      rw [hli] at hcell hIs hok HCk hIs1 hll
      have HIs : Hid (IsBl W ai li ci ∧ ∀ x ∈ li, BlOk x) := ⟨hIs, hok⟩
      clear hli hIs hok hIs1
      by_cases hck : chk li = 0
      · rw [hck, enE_zero] at HCk
        have hfine : Fine li := chk_zero.1 hck
        have HFi : Hid (Fine li) := hfine
        have hl200 : (li.length : Int) ≤ 200 := by have := hfine.len; omega
        clear hfine hck
        go_wp2_with (go_at_call 10; refine HCk.out.mono ?_; rintro e w' ⟨rfl, hbc⟩)
        obtain ⟨pre, hpre⟩ : ∃ pre, (if i = 0 then [] else if i = 1 then a else a ++ b) = pre := ⟨_, rfl⟩
        have HPre : Hid ((if i = 0 then [] else if i = 1 then a else a ++ b) = pre) := hpre
        have hprel : pre.length ≤ 200 := by
          rw [← hpre]
          rcases (by omega : i = 0 ∨ i = 1) with rfl | rfl
          · simp
          · exact (HM.out.1.fa (Nat.le_refl _)).len
        have HP0 : Hid ((∃ vs, PMp w' W.heap.size W.heap.size (parts (pre ++ li.take 0)) vs) ∧ AKeep W.heap.size W.heap.size wr w') := by
          obtain ⟨vs, hvs⟩ := HM.out.1.pm
          rw [hpre] at hvs
          exact ⟨⟨vs, by rw [List.take_zero, List.append_nil]; exact hvs.below hbc⟩, AKeep.of_below hbc⟩
        clear hbc HCk hpre hcell
        go_loopw [30] (fun jv wq => ∃ j : Nat, j ≤ li.length ∧ jv = .int .i64 j ∧ Hid ((∃ vs, PMp wq W.heap.size W.heap.size (parts (pre ++ li.take j)) vs) ∧ AKeep W.heap.size W.heap.size wr wq)) (fun jv _ => li.length - (RowKit.intOf jv).toNat)
        case atStart => exact ⟨0, Nat.zero_le _, rfl, HP0⟩
        case round =>
          rename World => wq
          obtain ⟨j, hj, rfl, HJ⟩ := hrel
          have j0 : (0 : Int) ≤ j := by omega
          by_cases hjl : j < li.length
          · have j1 : (j : Int) < li.length := by omega
            obtain ⟨b0, off0, rfl, hb0, hc0⟩ := HIs.out.1.some hjl
            have hBq : Below W.heap.size W wq := HF.out wq (HM.out.1.keep.trans HJ.out.2)
            have hx := (hc0 j hjl).below hBq hb0
            obtain ⟨vs, hvs⟩ := HJ.out.1
            have hokx := HIs.out.2 _ (bls_mem li j hjl)
            obtain ⟨x, hxx⟩ : ∃ x, li.getD j bl0 = x := ⟨_, rfl⟩
            have HX : Hid (li.getD j bl0 = x) := hxx
            rw [hxx] at hx hokx
            obtain ⟨V, hV⟩ : ∃ V, wq.alloc (.cells x.cells 36) = V := ⟨_, rfl⟩
            have hbV : Below wq.heap.size wq V := by rw [← hV]; exact (Below.refl _ _).alloc (Nat.le_refl _) _
            have hVh : V.heap[wq.heap.size]? = some (.cells x.cells 36 (0, 0)) := by rw [← hV]; exact ld_new_heap wq _
            have HAdd : Hid (Calls _ _ _ V _) := ldAdd_any x V _ _ _ vs (hvs.below hbV) hokx.key hokx.amt (fun p hp => by
              have := parts_zs _ p hp
              simp only [List.length_append, List.length_take] at this
              omega)
            have HNx : Hid (∀ U, (∃ vs', Hid (PMp U W.heap.size W.heap.size (addP (parts (pre ++ li.take j)) x) vs' ∧ AKeep W.heap.size W.heap.size V U)) → (∃ vs, PMp U W.heap.size W.heap.size (parts (pre ++ li.take (j + 1))) vs) ∧ AKeep W.heap.size W.heap.size wr U) := fun U ⟨vs', h⟩ => by
              refine ⟨⟨vs', ?_⟩, HJ.out.2.trans ((AKeep.of_below hbV).trans h.out.2)⟩
              rw [parts_take pre li j hjl, HX.out]
              exact h.out.1
            have HV : Hid (wq.alloc (.cells x.cells 36) = V) := hV
            clear hvs hc0 hBq hokx hxx hbV hV HX
            obtain ⟨x0, x1, x2, x3⟩ := x
            obtain ⟨d0, d1, d2, d3⟩ := hx
            simp only [Bl.cells] at d0 d1 d2 d3 HV hVh HAdd
            have f0 : V.cell? ⟨wq.heap.size, 0, none⟩ = some (.int .i64 x0) := by simp [World.cell?, hVh]
            have f1 : V.cell? ⟨wq.heap.size, 1, none⟩ = some (.string x1) := by simp [World.cell?, hVh]
            have f2 : V.cell? ⟨wq.heap.size, 2, none⟩ = some (.string x2) := by simp [World.cell?, hVh]
            have f3 : V.cell? ⟨wq.heap.size, 3, none⟩ = some (.int .i64 x3) := by simp [World.cell?, hVh]
            clear hVh
            go_wp2_with (go_at_call 17; rw [HV.out]; refine HAdd.out.mono ?_; rintro e U ⟨rfl, hU⟩)
            have HU : Hid ((∃ vs, PMp U W.heap.size W.heap.size (parts (pre ++ li.take (j + 1))) vs) ∧ AKeep W.heap.size W.heap.size wr U) := HNx.out U hU
            clear hU HNx HAdd d0 d1 d2 d3 f0 f1 f2 f3
            go_roundw
            case rel => exact ⟨j + 1, by omega, by go_num, HU⟩
            case measure => simp [RowKit.intOf]; omega
          · have j1 : ¬ (j : Int) < li.length := by omega
            obtain rfl : j = li.length := by omega
            have HN : Hid (Mo W a b (i + 1) wq ∧ AKeep W.heap.size W.heap.size W2 wq) := by
              obtain ⟨vs, hvs⟩ := HJ.out.1
              rw [List.take_length] at hvs
              refine ⟨⟨⟨vs, ?_⟩, HM.out.1.keep.trans HJ.out.2, fun _ => ?_, fun h => ?_⟩, HM.out.2.trans HJ.out.2⟩
              · rcases (by omega : i = 0 ∨ i = 1) with rfl | rfl
                · rw [← HPre.out, ← HLi.out] at hvs
                  exact hvs
                · rw [← HPre.out, ← HLi.out] at hvs
                  exact hvs
              · rcases (by omega : i = 0 ∨ i = 1) with rfl | rfl
                · have := HFi.out; rw [← HLi.out] at this; exact this
                · exact HM.out.1.fa (Nat.le_refl _)
              · have e : i = 1 := by omega
                subst e
                have := HFi.out; rw [← HLi.out] at this; exact this
            clear HJ HP0
            go_wp2_with fail
            go_roundw
            case rel => exact ⟨i + 1, by omega, by go_num, HN⟩
            case measure => simp [RowKit.intOf]; omega
      · have HE : Hid (mgE a b = chk li) := by
          unfold Hid mgE
          rcases (by omega : i = 0 ∨ i = 1) with rfl | rfl
          · rw [← HLi.out] at hck ⊢
            exact if_pos hck
          · have h0 : chk a = 0 := chk_zero.2 (HM.out.1.fa (Nat.le_refl _))
            rw [← HLi.out] at hck ⊢
            rw [if_neg (by simp [h0])]
            exact if_pos hck
        have HB : Hid (Below W.heap.size W wr) := HF.out wr HM.out.1.keep
        rw [enE_ne hck] at HCk
        obtain ⟨cc, hcc⟩ : ∃ cc, chk li = cc := ⟨_, rfl⟩
        rw [hcc] at HCk HE hck
        clear hcc
        go_wp2_with (go_at_call 10; refine HCk.out.mono ?_; rintro e w' ⟨rfl, hbc⟩)
        go_ret2
        exact ⟨HB.out.trans (hbc.mono HB.out.size), fun _ => by rw [HE.out, enE_ne hck]; rfl, fun h => absurd (HE.out.symm.trans h) hck⟩
    · obtain rfl : i = 2 := by omega
      obtain ⟨vs, hvs⟩ := HM.out.1.pm
      have hvs' : PMp wr W.heap.size W.heap.size (parts (a ++ b)) vs := hvs
      have fa := HM.out.1.fa (by omega)
      have fb := HM.out.1.fb (by omega)
      have hpl := parts_length (a ++ b)
      have la := fa.len
      have lb := fb.len
      rw [List.length_append] at hpl
      have HTg : Hid (Calls _ _ _ wr _) := ldTogether_any wr _ _ _ vs hvs' (fun p hp => by
        have := parts_zs _ p hp
        simp only [List.length_append] at this
        omega) (by omega)
      have ht := tgE_two fa fb
      have hk1 : chk a = 0 := chk_zero.2 fa
      have hk2 : chk b = 0 := chk_zero.2 fb
      have HB : Hid (Below W.heap.size W wr) := HF.out wr HM.out.1.keep
      by_cases h200 : 200 < (parts (a ++ b)).length
      · rw [if_pos h200] at ht
        have HE : Hid (mgE a b = 4) := by
          unfold Hid mgE
          rw [if_neg (by simp [hk1]), if_neg (by simp [hk2]), if_pos h200]
        have HT2 : Hid (Calls Tryz.prog 18 #[.map (some W.heap.size)] wr fun e w' => e = .returned (.tuple #[.slice none 0 0, .iface 50 (.int .i64 4)]) ∧ Below wr.heap.size wr w') := HTg.out.mono (fun e w' ⟨h1, h2, _⟩ => ⟨by rw [h2 (by rw [ht]; decide), ht]; rfl, h1⟩)
        clear HTg hvs hvs' hpl la lb ht hk1 hk2 HM fa fb
        go_wp2_with (go_at_call 18; refine HT2.out.mono ?_; rintro e w' ⟨rfl, hbc⟩)
        go_ret2
        exact ⟨HB.out.trans (hbc.mono HB.out.size), fun _ => by rw [HE.out]; rfl, fun h => by rw [HE.out] at h; cases h⟩
      · rw [if_neg h200] at ht
        have hok2 : ∀ x ∈ a ++ b, BlOk x := fun x hx => by
          rcases List.mem_append.1 hx with hx | hx
          · exact HA.out.2.2.1 x hx
          · exact HA.out.2.2.2.1 x hx
        have HT2 : Hid (Calls Tryz.prog 18 #[.map (some W.heap.size)] wr fun e w' => ∃ sa sc R, e = .returned (.tuple #[.slice sa R.length sc, .nilIface]) ∧ Hid (Below W.heap.size W w' ∧ BlRow w' W.heap.size (.slice sa R.length sc) R ∧ MgR a b R ∧ (R.any tooB = true → mgE a b = 10) ∧ (R.any tooB = false → mgE a b = 0))) := by
          refine HTg.out.mono ?_
          rintro e w' ⟨h1, _, h3⟩
          obtain ⟨v, R, rfl, h4⟩ := h3 ht
          obtain ⟨h5, h6, h7⟩ := h4.out
          have hBw : Below W.heap.size W w' := HB.out.trans (h1.mono HB.out.size)
          have h8 : BlRow w' W.heap.size v R := by
            rcases h5.2 with ⟨hv, hn⟩ | ⟨g1, c1, cur, hv, hb1, r⟩
            · exact ⟨h5.1, .inl ⟨hv, hn⟩⟩
            · exact ⟨h5.1, .inr ⟨g1, c1, cur, hv, Nat.le_trans HB.out.size hb1, r⟩⟩
          obtain ⟨sa, sc, rfl, _⟩ := h8.isBl
          refine ⟨sa, sc, R, rfl, hBw, h8, ⟨sums_of_perm h6 h7, Nat.le_trans (len_of_perm h7) (by omega), ok_of_perm h7 hok2 (two_fit fa fb)⟩, fun h => ?_, fun h => ?_⟩
          · have := (any_too h7).1 h
            unfold mgE
            rw [if_neg (by simp [hk1]), if_neg (by simp [hk2]), if_neg h200, if_neg this]
          · have : ¬ R.any tooB = true := by rw [h]; simp
            unfold mgE
            rw [if_neg (by simp [hk1]), if_neg (by simp [hk2]), if_neg h200, if_pos]
            false_or_by_contra
            rename_i h9
            exact this ((any_too h7).2 h9)
        clear HTg hvs hvs' hpl la lb ht hk1 hk2 HM fa fb hok2 HB
        go_wp2_with (go_at_call 18; refine HT2.out.mono ?_; rintro e w' ⟨sa, sc, R, rfl, hR⟩)
        have HCf : Hid (Calls _ _ _ w' _) := blContains_any 20 tooB sa sc R w' merge1_tells (by have := hR.out.2.2.1.len; omega) (by
          obtain ⟨_, _, e, h⟩ := hR.out.2.1.isBl
          cases e
          exact h)
        cases hq : R.any tooB
        · rw [hq] at HCf
          have HE : Hid (mgE a b = 0) := hR.out.2.2.2.2 hq
          clear hq
          go_wp2_with (go_at_call 19; refine HCf.out.mono ?_; rintro e w9 ⟨rfl, hb9⟩)
          go_ret2
          exact ⟨hR.out.1.trans (hb9.mono hR.out.1.size), fun h => absurd HE.out h, fun _ => ⟨_, R, rfl, hR.out.2.1.below hb9, hR.out.2.2.1⟩⟩
        · rw [hq] at HCf
          have HE : Hid (mgE a b = 10) := hR.out.2.2.2.1 hq
          clear hq
          go_wp2_with (go_at_call 19; refine HCf.out.mono ?_; rintro e w9 ⟨rfl, hb9⟩)
          go_ret2
          exact ⟨hR.out.1.trans (hb9.mono hR.out.1.size), fun _ => by rw [HE.out]; rfl, fun h => by rw [HE.out] at h; cases h⟩
end Go.Proofs.YtmlooibihjfahaaGreatDoor

namespace Go.Proofs.YtmlooibihjfahaaGreatDoor
set_option linter.unusedVariables false
set_option linter.unusedSimpArgs false
set_option maxRecDepth 100000
open Go.RowKit Go.Lib
theorem merge_ok (a1 a2 : Option Addr) (c1 c2 : Nat) (a b : List Bl) (W : World) (ha : IsBl W a1 a c1) (hb : IsBl W a2 b c2) (oka : ∀ x ∈ a, BlOk x) (okb : ∀ x ∈ b, BlOk x) (h0 : mgE a b = 0) :
    Calls Tryz.prog 7 #[.slice a1 a.length c1, .slice a2 b.length c2] W fun e w' => ∃ sa sc R, e = .returned (.tuple #[.slice sa R.length sc, .nilIface]) ∧ Hid (Below W.heap.size W w' ∧ IsBl w' sa R sc ∧ MgR a b R) := by
  obtain ⟨fa, fb, _⟩ := mgE_zero.1 h0
  refine (merge_any a1 a2 c1 c2 a b W ha hb (by have := fa.len; omega) (by have := fb.len; omega) oka okb).mono ?_
  rintro e w' ⟨h1, _, h3⟩
  obtain ⟨v, R, rfl, h4⟩ := h3 h0
  obtain ⟨sa, sc, rfl, hI⟩ := h4.out.1.isBl
  exact ⟨sa, sc, R, rfl, h1, hI, h4.out.2⟩
theorem merge_bad (a1 a2 : Option Addr) (c1 c2 : Nat) (a b : List Bl) (W : World) (ha : IsBl W a1 a c1) (hb : IsBl W a2 b c2) (la : a.length ≤ 9223372036854775807) (lb : b.length ≤ 9223372036854775807) (oka : ∀ x ∈ a, BlOk x) (okb : ∀ x ∈ b, BlOk x) (h0 : mgE a b ≠ 0) :
    Calls Tryz.prog 7 #[.slice a1 a.length c1, .slice a2 b.length c2] W fun e w' => e = .returned (.tuple #[.slice none 0 0, .iface 50 (.int .i64 (mgE a b))]) ∧ Below W.heap.size W w' :=
  (merge_any a1 a2 c1 c2 a b W ha hb la lb oka okb).mono fun e w' ⟨h1, h2, _⟩ => ⟨by rw [h2 h0, enE_ne h0], h1⟩
theorem isBl_new {W : World} {b : Nat} {x : Bl} (h : W.heap[b]? = some (.cells x.cells 36 (0, 0))) : IsBl W (some ⟨b, 0, none⟩) [x] 1 := by
  refine ⟨Nat.le_refl _, .inr ⟨b, 0, rfl, (Array.getElem?_eq_some_iff.1 h).1, fun k hk => ?_⟩⟩
  have e : k = 0 := by simp at hk; omega
  subst e
  simp only [List.getD_cons_zero]
  exact ⟨by simp [World.cell?, h, Bl.cells], by simp [World.cell?, h, Bl.cells], by simp [World.cell?, h, Bl.cells], by simp [World.cell?, h, Bl.cells]⟩
theorem isBl_none (W : World) (a : Option Addr) (c : Nat) : IsBl W a [] c := ⟨Nat.zero_le _, .inl rfl⟩

theorem mg_comm {a b : List Bl} (h : mgE a b = 0) : mgE b a = 0 := by
  obtain ⟨fa, fb, h1, h2⟩ := mgE_zero.1 h
  refine mgE_zero.2 ⟨fb, fa, ?_, fun x hx => ?_⟩
  · rw [parts_count (l := b ++ a) (m := a ++ b) (fun k => by simp only [List.mem_append, or_comm])]
    exact h1
  · have := h2 x (by simp only [List.mem_append] at hx ⊢; exact hx.symm)
    rw [ltot_append] at this ⊢
    omega
theorem mg_comm_eq {a b R S : List Bl} (h : MgR a b R) (k : MgR b a S) : R = S := h.sums.uniq k.sums (fun q => by rw [ltot_append, ltot_append]; omega)
theorem mg_nil {a : List Bl} (h : Fine a) : mgE a [] = 0 := by
  refine mgE_zero.2 ⟨h, ⟨by simp, .nil, by simp, by simp⟩, ?_, fun x hx => ?_⟩
  · have := parts_length (a ++ [])
    have := h.len
    simp at *
    omega
  · rw [List.append_nil]; exact ltot_abs h x.key
theorem mg_nil_eq {a R : List Bl} (h : Fine a) (k : MgR a [] R) : R = a := k.sums.uniq h.sums (fun q => by rw [List.append_nil])
/-- A balance's contrary. -/
def Bl.neg (x : Bl) : Bl := ⟨x.ent, x.acc, x.cur, -x.amt⟩
def negL (l : List Bl) : List Bl := l.map Bl.neg
theorem negL_length (l : List Bl) : (negL l).length = l.length := by simp [negL]
theorem neg_fine {l : List Bl} (h : Fine l) : Fine (negL l) := by
  refine ⟨by rw [negL_length]; exact h.len, ?_, fun x hx => ?_, fun x hx => ?_⟩
  · unfold Rises negL
    rw [List.pairwise_map]
    exact h.rises
  · obtain ⟨y, hy, rfl⟩ := List.mem_map.1 hx
    have := h.amt y hy
    unfold Bl.neg
    simp only
    omega
  · obtain ⟨y, hy, rfl⟩ := List.mem_map.1 hx
    have := h.ne y hy
    unfold Bl.neg
    simp only
    omega
theorem neg_ok {l : List Bl} (h : Fine l) (hok : ∀ x ∈ l, BlOk x) : ∀ x ∈ negL l, BlOk x := fun x hx => by
  obtain ⟨y, hy, rfl⟩ := List.mem_map.1 hx
  have := h.amt y hy
  exact ⟨(hok y hy).key, by unfold Bl.neg; simp only; omega⟩
theorem neg_tot (k : Pk) : ∀ l : List Bl, ltot k (negL l) = - ltot k l
  | [] => rfl
  | x :: l => by
    have ih := neg_tot k l
    unfold negL at ih ⊢
    rw [List.map_cons, ltot, ltot, ih]
    have e : x.neg.key = x.key := rfl
    rw [e]
    split
    · unfold Bl.neg; simp only; omega
    · omega
theorem mg_neg {a : List Bl} (h : Fine a) : mgE a (negL a) = 0 := by
  refine mgE_zero.2 ⟨h, neg_fine h, ?_, fun x hx => ?_⟩
  · have e := parts_count (l := a ++ negL a) (m := a) (fun k => by
      constructor
      · rintro ⟨x, hx, rfl⟩
        rcases List.mem_append.1 hx with hx | hx
        · exact ⟨x, hx, rfl⟩
        · obtain ⟨y, hy, rfl⟩ := List.mem_map.1 hx
          exact ⟨y, hy, rfl⟩
      · rintro ⟨x, hx, rfl⟩
        exact ⟨x, List.mem_append_left _ hx, rfl⟩)
    rw [e]
    exact Nat.le_trans (parts_length a) h.len
  · rw [ltot_append, neg_tot]; omega
theorem mg_neg_eq {a R : List Bl} (k : MgR a (negL a) R) : R = [] := by
  have h : Sums [] [] := ⟨.nil, by simp, fun _ => rfl⟩
  exact k.sums.uniq h (fun q => by rw [ltot_append, neg_tot]; simp [ltot]; omega)
theorem mg_assoc {a b c x q p r : List Bl} (hx : MgR a b x) (hp : MgR x c p) (hq : MgR b c q) (hr : MgR a q r) : p = r :=
  hp.sums.uniq hr.sums (fun k => by
    rw [ltot_append, ltot_append, hx.sums.ltot, hq.sums.ltot, ltot_append, ltot_append]
    omega)
/-- The law's own two. -/
def lo2 (n : Int) : Bl := ⟨1, ⟨#[49]⟩, ⟨#[69, 85, 82]⟩, n⟩
theorem lo_fine (n : Int) (h : 1 ≤ n ∧ n ≤ 5) : Fine [lo2 n] := ⟨by simp, List.pairwise_singleton _ _, by simp [lo2]; omega, by simp [lo2]; omega⟩
theorem lo_ok (n : Int) (h : 1 ≤ n ∧ n ≤ 5) : ∀ x ∈ [lo2 n], BlOk x := fun x hx => by
  rw [List.mem_singleton.1 hx]
  exact ⟨⟨by show (-9223372036854775808 : Int) ≤ 1 ∧ (1 : Int) ≤ 9223372036854775807; decide, by show ByteArray.size ⟨#[49]⟩ ≤ maxLen; decide, by show ByteArray.size ⟨#[69, 85, 82]⟩ ≤ maxLen; decide⟩, by simp [lo2]; omega⟩
theorem lo_tot (k : Pk) : ltot k ([lo2 2] ++ [lo2 3]) = ltot k [lo2 5] := by
  have e : ∀ n m, (lo2 n).key = (lo2 m).key := fun _ _ => rfl
  simp only [List.cons_append, List.nil_append, ltot]
  rw [e 2 5, e 3 5]
  split <;> simp [lo2]
theorem lo_mg : mgE [lo2 2] [lo2 3] = 0 := by
  refine mgE_zero.2 ⟨lo_fine 2 (by omega), lo_fine 3 (by omega), ?_, fun x hx => ?_⟩
  · have := parts_length ([lo2 2] ++ [lo2 3])
    simp at *
    omega
  · rw [lo_tot]; exact ltot_abs (lo_fine 5 (by omega)) _
theorem lo_eq {R : List Bl} (h : MgR [lo2 2] [lo2 3] R) : R = [lo2 5] := h.sums.uniq (lo_fine 5 (by omega)).sums lo_tot
theorem negL_take (l : List Bl) (k : Nat) (h : k < l.length) : negL (l.take (k + 1)) = negL (l.take k) ++ [(l.getD k bl0).neg] := by
  rw [bls_take l k h]
  simp [negL]
end Go.Proofs.YtmlooibihjfahaaGreatDoor

namespace Go.Proofs.YtmlooibihjfahaaGreatDoor
set_option linter.unusedVariables false
set_option linter.unusedSimpArgs false
set_option maxRecDepth 100000
open Go.RowKit Go.Lib

theorem goL_full (en : Int) (p : Po) (has : Int) : lnsBs en (goL p has) = full (lnsBs en (allL p has)) := by
  unfold lnsBs goL full
  rw [List.filter_map]
  congr 1
theorem to_ne {c : List Ac} {p : Po} (h : poBad c p = 0) {k : Nat} (hk : k < p.tos.length) : p.tos.getD k ByteArray.empty ≠ p.acc := by
  have h1 := (poBad_ok h).2.2.2.2.1 k hk
  unfold toBad at h1
  split at h1
  · contradiction
  · split at h1
    · omega
    · rename_i h2
      exact fun e => h2 (.inl e)
theorem gives_all {c : List Ac} {p : Po} (h : poBad c p = 0) (en has : Int) : ltot (en, p.acc, p.cur) (lnsBs en (goL p has)) = -has := by
  rw [goL_full, ltot_full]
  unfold allL lnsBs
  rw [List.map_cons, ltot]
  have h1 : ltot (en, p.acc, p.cur) (((List.range p.tos.length).map (toLn p has)).map (lnB en)) = 0 := tot_none_acc en p.acc p.cur _ fun x hx => by
    obtain ⟨k, hk, rfl⟩ := List.mem_map.1 hx
    exact to_ne h (List.mem_range.1 hk)
  rw [h1, if_pos (show (lnB en ⟨p.acc, p.cur, -has⟩).key = (en, p.acc, p.cur) from rfl)]
  show -has + 0 = -has
  omega
theorem goL_amt {c : List Ac} {p : Po} {has : Int} (h : poBad c p = 0) (ha : isAmt has) : ∀ x ∈ goL p has, -1000000000000000 ≤ x.amt ∧ x.amt ≤ 1000000000000000 := fun x hx => by
  have hx := (List.mem_filter.1 hx).1
  obtain ⟨q1, q2, q3, q4, _⟩ := poBad_ok h
  unfold isAmt at ha
  rcases List.mem_cons.1 hx with rfl | hx
  · show -1000000000000000 ≤ -has ∧ -has ≤ 1000000000000000
    omega
  · obtain ⟨k, hk, rfl⟩ := List.mem_map.1 hx
    have := share_bd (t := has) (shBad_zero q4) (i := k) (by rw [q1]; exact List.mem_range.1 hk)
    show -1000000000000000 ≤ shareI has p.ws k ∧ shareI has p.ws k ≤ 1000000000000000
    by_cases h0 : 0 ≤ has
    · have := this.1 h0; omega
    · have := this.2 (by omega); omega
theorem goL_len (p : Po) (has : Int) : (goL p has).length ≤ p.tos.length + 1 := by
  have := List.length_filter_le (fun x => !isNo x) (allL p has)
  rw [allL_len] at this
  exact this
theorem goL_tx {p : Po} {has : Int} (h : PoTx p) : ∀ x ∈ goL p has, x.acc.size ≤ maxLen ∧ x.cur.size ≤ maxLen := fun x hx => by
  have hx := (List.mem_filter.1 hx).1
  rcases List.mem_cons.1 hx with rfl | hx
  · exact ⟨h.acc, h.cur⟩
  · obtain ⟨k, hk, rfl⟩ := List.mem_map.1 hx
    refine ⟨h.tos _ ?_, h.cur⟩
    show p.tos.getD k ByteArray.empty ∈ p.tos
    rw [List.getD_eq_getElem?_getD, List.getElem?_eq_getElem (List.mem_range.1 hk)]
    exact List.getElem_mem _
/-- What is there behind it. -/
theorem gone {c : List Ac} {p : Po} {b R : List Bl} {en : Int} (h : poBad c p = 0) (hb : Fine b) (m : List Bl) (hm : m = (if getB b en p.acc p.cur = 0 then [] else lnsBs en (goL p (getB b en p.acc p.cur)))) (hmg : mgE b (full (putL [] m)) = 0) (hR : MgR b (full (putL [] m)) R) : getB R en p.acc p.cur = 0 ∧ chk R = 0 := by
  have e1 := getB_tot hR.sums.rises en p.acc p.cur
  have e2 := hR.sums.ltot (en, p.acc, p.cur)
  have e3 := getB_tot hb.rises en p.acc p.cur
  rw [e1, e2, ltot_append, ltot_full, putL_tot, List.nil_append]
  refine ⟨?_, ?_⟩
  · rw [hm]
    split
    · rename_i h0
      rw [← e3, h0]; rfl
    · rw [gives_all h, ← e3]; omega
  · rw [chk_zero]
    obtain ⟨_, _, _, h4⟩ := mgE_zero.1 hmg
    exact ⟨hR.len, hR.sums.rises, hR.sums.amt (ltot_all h4), hR.sums.ne⟩
end Go.Proofs.YtmlooibihjfahaaGreatDoor

namespace Go.Proofs.YtmlooibihjfahaaGreatDoor
set_option linter.unusedVariables false
set_option linter.unusedSimpArgs false
set_option maxRecDepth 100000
open Go.RowKit Go.Lib

/-- The laws' own chart. -/
def jC : List Ac := [⟨⟨#[49, 48]⟩, ⟨#[99, 97, 115, 104]⟩, 1, ⟨#[]⟩, true⟩, ⟨⟨#[50, 48]⟩, ⟨#[100, 101, 98, 116]⟩, 2, ⟨#[]⟩, true⟩, ⟨⟨#[51, 48]⟩, ⟨#[107, 101, 112, 116]⟩, 3, ⟨#[]⟩, false⟩, ⟨⟨#[52, 48]⟩, ⟨#[115, 97, 108, 101, 115]⟩, 4, ⟨#[]⟩, false⟩, ⟨⟨#[53, 48]⟩, ⟨#[99, 111, 115, 116]⟩, 5, ⟨#[]⟩, false⟩]
def jCells : Array Value := #[.string ⟨#[49, 48]⟩, .string ⟨#[99, 97, 115, 104]⟩, .int .i64 1, .string ⟨#[]⟩, .bool true, .string ⟨#[50, 48]⟩, .string ⟨#[100, 101, 98, 116]⟩, .int .i64 2, .string ⟨#[]⟩, .bool true, .string ⟨#[51, 48]⟩, .string ⟨#[107, 101, 112, 116]⟩, .int .i64 3, .string ⟨#[]⟩, .bool false, .string ⟨#[52, 48]⟩, .string ⟨#[115, 97, 108, 101, 115]⟩, .int .i64 4, .string ⟨#[]⟩, .bool false, .string ⟨#[53, 48]⟩, .string ⟨#[99, 111, 115, 116]⟩, .int .i64 5, .string ⟨#[]⟩, .bool false]
theorem jC_at (W : World) : IsSl (W.alloc (.cells jCells 56)) (some ⟨W.heap.size, 0, none⟩) jC 5 := by
  have h := World.alloc_heap_new W (.cells jCells 56)
  generalize W.alloc (.cells jCells 56) = V at *
  generalize W.heap.size = b at *
  refine ⟨Nat.le_refl _, .inr ⟨b, 0, rfl, (Array.getElem?_eq_some_iff.1 h).1, fun k hk => ?_⟩⟩
  rcases (by simp [jC] at hk; omega : k = 0 ∨ k = 1 ∨ k = 2 ∨ k = 3 ∨ k = 4) with rfl | rfl | rfl | rfl | rfl <;>
  exact ⟨by simp [World.cell?, h, jCells, jC], by simp [World.cell?, h, jCells, jC], by simp [World.cell?, h, jCells, jC], by simp [World.cell?, h, jCells, jC], by simp [World.cell?, h, jCells, jC]⟩
theorem accounts_any (w : World) :
    Calls Tryz.prog 5 #[] w fun e w' => e = .returned (.slice (some ⟨w.heap.size, 0, none⟩) 5 5) ∧ IsSl w' (some ⟨w.heap.size, 0, none⟩) jC 5 ∧ Below w.heap.size w w' := by
  have h := jC_at w
  have b : Below w.heap.size w (w.alloc (.cells jCells 56)) := (Below.refl _ w).alloc (Nat.le_refl _) _
  have H : Hid (IsSl (w.alloc (.cells jCells 56)) (some ⟨w.heap.size, 0, none⟩) jC 5 ∧ Below w.heap.size w (w.alloc (.cells jCells 56))) := ⟨h, b⟩
  clear h b
  go_enter Tryz.func5, Tryz.ntmps5
  go_wp2
  go_ret
  exact ⟨rfl, H.out.1, H.out.2⟩
end Go.Proofs.YtmlooibihjfahaaGreatDoor

namespace Go.Proofs.YtmlooibihjfahaaGreatDoor
set_option linter.unusedVariables false
set_option linter.unusedSimpArgs false
set_option maxRecDepth 100000
open Go.RowKit Go.Lib

/-- The law's own pool, and its balance. -/
def atP (a b : Nat) : Po := ⟨⟨#[53, 48]⟩, ⟨#[69, 85, 82]⟩, some ⟨a, 0, none⟩, 1, [⟨#[49, 48]⟩], some ⟨b, 0, none⟩, 1, [1]⟩
def atB : Bl := ⟨1, ⟨#[53, 48]⟩, ⟨#[69, 85, 82]⟩, 8⟩
theorem at_bad (a b : Nat) : alBad jC [atP a b] [atB] 1 1 = 0 := by kernel_rfl
theorem at_all (a b : Nat) : alTo 1 1 [atB] [atP a b] 1 = [⟨refA 0, 1, 1, [⟨⟨#[53, 48]⟩, ⟨#[69, 85, 82]⟩, -8⟩, ⟨⟨#[49, 48]⟩, ⟨#[69, 85, 82]⟩, 8⟩]⟩] := by kernel_rfl
theorem isTx_new {W : World} {b : Nat} {x : ByteArray} (h : W.heap[b]? = some (.cells #[.string x] 9 (0, 0))) : IsTx W (some ⟨b, 0, none⟩) [x] 1 := by
  refine ⟨Nat.le_refl _, .inr ⟨b, 0, rfl, (Array.getElem?_eq_some_iff.1 h).1, fun k hk => ?_⟩⟩
  have e : k = 0 := by simp at hk; omega
  subst e
  simp [World.cell?, h]
theorem isW_new {W : World} {b : Nat} {x : Int} (h : W.heap[b]? = some (.cells #[.int .i64 x] 3 (0, 0))) : IsW W (some ⟨b, 0, none⟩) [x] 1 := by
  refine ⟨Nat.le_refl _, .inr ⟨b, 0, rfl, (Array.getElem?_eq_some_iff.1 h).1, fun k hk => ?_⟩⟩
  have e : k = 0 := by simp at hk; omega
  subst e
  simp [World.cell?, h]
theorem isPs_new {W : World} {b : Nat} {p : Po} (h : W.heap[b]? = some (.cells p.cells 28 (0, 0))) (hp : PoOk W p) : IsPs W (some ⟨b, 0, none⟩) [p] 1 := by
  refine ⟨Nat.le_refl _, .inr ⟨b, 0, rfl, (Array.getElem?_eq_some_iff.1 h).1, fun k hk => ?_⟩, fun q hq => by rw [List.mem_singleton] at hq; subst hq; exact hp⟩
  have e : k = 0 := by simp at hk; omega
  subst e
  simp only [List.getD_cons_zero]
  exact ⟨by simp [World.cell?, h, Po.cells], by simp [World.cell?, h, Po.cells], by simp [World.cell?, h, Po.cells], by simp [World.cell?, h, Po.cells]⟩
theorem ep_one {L : List Je} {x : Ep} (h : L.map Je.ep = [x]) : ∃ j, L = [j] ∧ j.ref = x.ref ∧ j.ent = x.ent ∧ j.per = x.per ∧ j.lns = x.lns := by
  match L, h with
  | [j], h =>
    have e : j.ep = x := by simpa using h
    subst e
    exact ⟨j, rfl, rfl, rfl, rfl, rfl⟩

set_option maxHeartbeats 8000000 in
/-- The law's own fact. -/
theorem at_fact (w : World) (n1 n2 n3 : Nat) (h1 : w.heap.size = n1) (h2 : n2 = n1 + 1) (h3 : n3 = n1 + 2) :
    ∀ W, Below (n1 + 3) (((w.alloc (.cells #[.string ⟨#[49, 48]⟩] 9)).alloc (.cells #[.int .i64 1] 3)).alloc (.cells #[.string ⟨#[53, 48]⟩, .string ⟨#[69, 85, 82]⟩, .slice (some ⟨n1, 0, none⟩) 1 1, .slice (some ⟨n2, 0, none⟩) 1 1] 28)) W → IsPs W (some ⟨n3, 0, none⟩) [atP n1 n2] 1 ∧ Below w.heap.size w W := fun W hW => by
  subst h2 h3
  obtain ⟨V1, hV1⟩ : ∃ V1, w.alloc (.cells #[.string ⟨#[49, 48]⟩] 9) = V1 := ⟨_, rfl⟩
  rw [hV1] at hW
  obtain ⟨V2, hV2⟩ : ∃ V2, V1.alloc (.cells #[.int .i64 1] 3) = V2 := ⟨_, rfl⟩
  rw [hV2] at hW
  obtain ⟨V, hV⟩ : ∃ V, V2.alloc (.cells #[.string ⟨#[53, 48]⟩, .string ⟨#[69, 85, 82]⟩, .slice (some ⟨n1, 0, none⟩) 1 1, .slice (some ⟨n1 + 1, 0, none⟩) 1 1] 28) = V := ⟨_, rfl⟩
  rw [hV] at hW
  have s1 : V1.heap.size = n1 + 1 := by rw [← hV1, ← h1]; simp
  have s2 : V2.heap.size = n1 + 2 := by rw [← hV2]; simp [s1]
  have s3 : V.heap.size = n1 + 3 := by rw [← hV]; simp [s2]
  have b0 : Below w.heap.size w V1 := by rw [← hV1]; exact (Below.refl _ w).alloc (Nat.le_refl _) _
  have b1 : Below V1.heap.size V1 V2 := by rw [← hV2]; exact (Below.refl _ V1).alloc (Nat.le_refl _) _
  have b2 : Below V2.heap.size V2 V := by rw [← hV]; exact (Below.refl _ V2).alloc (Nat.le_refl _) _
  have e1 : V1.heap[n1]? = some (.cells #[.string ⟨#[49, 48]⟩] 9 (0, 0)) := by rw [← hV1, ← h1]; exact World.alloc_heap_new w _
  have e2 : V2.heap[n1 + 1]? = some (.cells #[.int .i64 1] 3 (0, 0)) := by rw [← hV2, ← s1]; exact World.alloc_heap_new V1 _
  have e3 : V.heap[n1 + 2]? = some (.cells #[.string ⟨#[53, 48]⟩, .string ⟨#[69, 85, 82]⟩, .slice (some ⟨n1, 0, none⟩) 1 1, .slice (some ⟨n1 + 1, 0, none⟩) 1 1] 28 (0, 0)) := by rw [← hV, ← s2]; exact World.alloc_heap_new V2 _
  have f2 : W.heap[n1 + 1]? = _ := (hW.block _ (by omega)).trans ((b2.block _ (by omega)).trans e2)
  have f1 : W.heap[n1]? = _ := (hW.block _ (by omega)).trans ((b2.block _ (by omega)).trans ((b1.block _ (by omega)).trans e1))
  refine ⟨isPs_new (p := atP n1 (n1 + 1)) ((hW.block _ (by omega)).trans e3) ⟨isTx_new f1, isW_new f2, by simp [atP], by simp [atP]⟩, ?_⟩
  exact ((b0.trans (b1.mono (by omega))).trans (b2.mono (by omega))).trans (hW.mono (by omega))
theorem al_one {c : List Ac} {p : Po} {b : List Bl} {en : Int} (h : alBad c [p] b en 2 = 0) : poBad c p = 0 ∧ Fine b ∧ isAmt (getB b en p.acc p.cur) ∧ psBad c [p] = 0 ∧ (upTo en 12 && upTo 2 120) = true := by
  unfold alBad at h
  split at h
  · contradiction
  · rename_i h1
    split at h
    · contradiction
    · rename_i h2
      split at h
      · omega
      · rename_i h3
        have h4 := firstTo_zero h 0 (by simp)
        have h5 := Decidable.of_not_not h1
        refine ⟨(psBad_ok h5).2.2 0 (by simp), chk_zero.1 (Decidable.of_not_not h2), ?_, h5, by simpa using h3⟩
        simp only [List.getD_cons_zero] at h4
        unfold hasBad at h4
        split at h4
        · assumption
        · omega
theorem al_again {c : List Ac} {p : Po} {R : List Bl} {en : Int} (h1 : psBad c [p] = 0) (h2 : chk R = 0) (h3 : (upTo en 12 && upTo 2 120) = true) (h4 : getB R en p.acc p.cur = 0) : alBad c [p] R en 2 = 0 ∧ alTo en 2 R [p] 1 = [] := by
  constructor
  · unfold alBad
    rw [if_neg (by simp [h1]), if_neg (by simp [h2]), if_neg (by simp [h3])]
    refine firstTo_of fun k hk => ?_
    have e : k = 0 := by simp at hk; omega
    subst e
    simp only [List.getD_cons_zero]
    unfold hasBad
    rw [h4, if_pos (by unfold isAmt; omega)]
  · unfold alTo poE
    simp [h4]
theorem al_lines {L : List Je} {p : Po} {b : List Bl} {en : Int} (h : L.map Je.ep = alTo en 2 b [p] 1) : lnsBs en (L.flatMap Je.lns) = (if getB b en p.acc p.cur = 0 then [] else lnsBs en (goL p (getB b en p.acc p.cur))) ∧ L.length ≤ 1 := by
  have e : alTo en 2 b [p] 1 = poE en 2 b 0 p := by simp [alTo]
  rw [e] at h
  unfold poE at h
  by_cases h0 : getB b en p.acc p.cur = 0
  · rw [if_pos h0] at h ⊢
    have : L = [] := List.map_eq_nil_iff.1 h
    subst this
    exact ⟨rfl, by simp⟩
  · rw [if_neg h0] at h ⊢
    obtain ⟨j, rfl, _, _, _, hj⟩ := ep_one h
    simp [hj]
theorem lines_ok {c : List Ac} {p : Po} {b : List Bl} {en : Int} (h : alBad c [p] b en 2 = 0) (ht : PoTx p) (hen : -9223372036854775808 ≤ en ∧ en ≤ 9223372036854775807) : PutOk (if getB b en p.acc p.cur = 0 then [] else lnsBs en (goL p (getB b en p.acc p.cur))) := by
  obtain ⟨h1, _, h3, _⟩ := al_one h
  split
  · exact ⟨by simp, by simp, by simp⟩
  · refine ⟨?_, fun x hx => ?_, fun x hx => ?_⟩
    · unfold lnsBs
      rw [List.length_map]
      have := goL_len p (getB b en p.acc p.cur)
      have := (poBad_ok h1).2.2.1
      omega
    · obtain ⟨y, hy, rfl⟩ := List.mem_map.1 hx
      exact goL_amt h1 h3 y hy
    · obtain ⟨y, hy, rfl⟩ := List.mem_map.1 hx
      obtain ⟨t1, t2⟩ := goL_tx ht y hy
      exact ⟨hen, t1, t2⟩
end Go.Proofs.YtmlooibihjfahaaGreatDoor
