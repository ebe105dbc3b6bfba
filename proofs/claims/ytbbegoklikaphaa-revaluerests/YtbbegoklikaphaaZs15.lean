/-
  What is valued anew is worth what it is: numbers alone.
-/
import Derived.Test.YtbbegoklikaphaaZs14
import Derived.Test.YtbbegoklikaphaaZs13
import Derived.Test.YtbbegoklikaphaaZs8
namespace Go.Proofs.Ytbbegoklikaphaa
set_option linter.unusedVariables false
set_option linter.unusedSimpArgs false
set_option maxRecDepth 100000
open Go.RowKit Go.Lib
/-- The place of the first balance for which something holds, counted from a number on; else -1. -/
def bidxFrom (p : Bl → Bool) : Nat → List Bl → Int
  | _, [] => -1
  | k, a :: l => if p a = true then (k : Int) else bidxFrom p (k + 1) l
theorem bidx_any (p : Bl → Bool) : ∀ (l : List Bl) (k : Nat), decide (0 ≤ bidxFrom p k l) = l.any p
  | [], k => by simp [bidxFrom]
  | x :: l, k => by
    rw [bidxFrom]
    cases h : p x
    · rw [if_neg (by simp), bidx_any p l (k + 1)]; simp [h]
    · rw [if_pos rfl]; simp [h]
theorem bidx_spec (p : Bl → Bool) : ∀ (l : List Bl) (k : Nat), (bidxFrom p k l = -1 ∧ l.any p = false) ∨ ∃ j, j < l.length ∧ bidxFrom p k l = ((k + j : Nat) : Int) ∧ p (l.getD j bl0) = true ∧ (l.take j).any p = false
  | [], k => .inl ⟨rfl, rfl⟩
  | x :: l, k => by
    cases h : p x
    · rcases bidx_spec p l (k + 1) with ⟨e, ha⟩ | ⟨j, hj, e, hp, ha⟩
      · exact .inl ⟨by rw [bidxFrom, if_neg (by simp [h]), e], by simp [h, ha]⟩
      · exact .inr ⟨j + 1, by simpa using hj, by rw [bidxFrom, if_neg (by simp [h]), e]; congr 1; omega, by simpa using hp, by simp [h, ha]⟩
    · exact .inr ⟨0, by simp, by rw [bidxFrom, if_pos h]; simp, by simpa using h, by simp⟩

/-- What is asked of a function that is told a balance and says yes or no. -/
structure BTells (g : Nat) (p : Bl → Bool) : Prop where
  eg : ∀ args W, (callFunc g args).run Try.prog W = .ok (.enter g args) W
  call : ∀ (x : Bl) W, Calls Try.prog g #[.agg x.cells] W fun e w' => e = .returned (.bool (p x)) ∧ Below W.heap.size W w'

set_option maxHeartbeats 1000000 in
theorem blIdx_some (g : Nat) (p : Bl → Bool) (b off cap : Nat) (l : List Bl) (w : World) (hp : BTells g p) (hb : b < w.heap.size) (hlen : (l.length : Int) ≤ 9223372036854775807) (hc : BlsAt w b off l) :
    Calls Try.prog 34 #[.slice (some ⟨b, off, none⟩) l.length cap, .func (.func g) #[] #[]] w fun e w' => e = .returned (.int .i64 (bidxFrom p 0 l)) ∧ Below w.heap.size w w' := by
  have eg := hp.eg
  have Hp : Hid (BTells g p) := hp
  have Hc : Hid (BlsAt w b off l) := hc
  clear hp hc
  obtain ⟨res, hres⟩ : ∃ res, bidxFrom p 0 l = res := ⟨_, rfl⟩
  have Hres : Hid (bidxFrom p 0 l = res) := hres
  rw [hres]
  clear hres
  go_enter Try.func34, Try.ntmps34
  go_wp2
  go_loopw [8] (fun i wr => ∃ k : Nat, k ≤ l.length ∧ i = .int .i64 k ∧ Hid (bidxFrom p k (l.drop k) = res) ∧ Below w.heap.size w wr) (fun i _ => l.length - (RowKit.intOf i).toNat)
  case atStart => exact ⟨0, Nat.zero_le _, rfl, Hres.out, Below.refl _ _⟩
  case round =>
    obtain ⟨k, hk, rfl, H, BW⟩ := hrel
    by_cases hlt : k < l.length
    · have hn := (Hc.out k hlt).below BW hb
      have hcall := Hp.out.call (l.getD k bl0) wr
      have E : Hid ((if p (l.getD k bl0) = true then (k : Int) else bidxFrom p (k + 1) (l.drop (k + 1))) = res) := by
        have := H.out
        rw [bls_drop l k hlt] at this
        exact this
      clear H
      generalize l.getD k bl0 = a at *
      obtain ⟨a0, a1, a2, a3⟩ := a
      obtain ⟨c0, c1, c2, c3⟩ := hn
      simp only [Bl.cells] at c0 c1 c2 c3 hcall
      have i0 : (0 : Int) ≤ k := by omega
      have i1 : (k : Int) < l.length := by omega
      cases hq : p ⟨a0, a1, a2, a3⟩
      · rw [hq] at hcall
        have HN : Hid (bidxFrom p (k + 1) (l.drop (k + 1)) = res) := by
          have := E.out; rw [if_neg (by rw [hq]; simp)] at this; exact this
        go_wp2_with (go_at_fn g; refine hcall.mono ?_; rintro e w' ⟨rfl, hb'⟩)
        go_roundw
        case rel => exact ⟨k + 1, by omega, by go_num, HN, BW.trans (hb'.mono BW.size)⟩
        case measure => simp [RowKit.intOf]; omega
      · rw [hq] at hcall
        have er : res = k := by rw [← E.out, if_pos hq]
        subst er
        go_wp2_with (go_at_fn g; refine hcall.mono ?_; rintro e w' ⟨rfl, hb'⟩)
        go_ret
        exact ⟨rfl, BW.trans (hb'.mono BW.size)⟩
    · have hk2 : k = l.length := by omega
      subst hk2
      have er : res = -1 := by rw [← H.out, List.drop_length]; rfl
      subst er
      go_wp2
      go_ret
      exact ⟨rfl, BW⟩

theorem blIdx_none (a : Option Addr) (cap : Nat) (f : Value) (w : World) :
    Calls Try.prog 34 #[.slice a 0 cap, f] w fun e w' => e = .returned (.int .i64 (-1)) ∧ Below w.heap.size w w' := by
  go_enter Try.func34, Try.ntmps34
  go_wp2
  refine wp_loop_rounds 1 ?_
  rw [rounds_succ]
  go_wp2
  go_ret
  exact ⟨rfl, Below.refl _ _⟩

theorem blIdx_any (g : Nat) (p : Bl → Bool) (a : Option Addr) (cap : Nat) (l : List Bl) (w : World) (hp : BTells g p) (hlen : (l.length : Int) ≤ 9223372036854775807) (h : IsBl w a l cap) :
    Calls Try.prog 34 #[.slice a l.length cap, .func (.func g) #[] #[]] w fun e w' => e = .returned (.int .i64 (bidxFrom p 0 l)) ∧ Below w.heap.size w w' := by
  rcases h.lies with rfl | ⟨b, off, rfl, hlt, hc⟩
  · exact blIdx_none a cap _ w
  · exact blIdx_some g p b off cap l w hp hlt hlen hc

theorem blContains_any (g : Nat) (p : Bl → Bool) (a : Option Addr) (cap : Nat) (l : List Bl) (w : World) (hp : BTells g p) (hlen : (l.length : Int) ≤ 9223372036854775807) (h : IsBl w a l cap) :
    Calls Try.prog 13 #[.slice a l.length cap, .func (.func g) #[] #[]] w fun e w' => e = .returned (.bool (l.any p)) ∧ Below w.heap.size w w' := by
  rw [← bidx_any p l 0]
  have hI := blIdx_any g p a cap l w hp hlen h
  clear h
  go_enter Try.func13, Try.ntmps13
  go_wp2_with fail
  refine hI.mono ?_
  rintro e w' ⟨rfl, hb⟩
  go_wp2
  go_ret
  exact ⟨rfl, hb⟩


/-- A balance that is too great. -/
def tooB (x : Bl) : Bool := !decide (-1000000000000000000 ≤ x.amt ∧ x.amt ≤ 1000000000000000000)
theorem merge1_any (x : Bl) (w : World) :
    Calls Try.prog 24 #[.agg x.cells] w fun e w' => e = .returned (.bool (tooB x)) ∧ Below w.heap.size w w' := by
  obtain ⟨a0, a1, a2, a3⟩ := x
  simp only [Bl.cells, tooB]
  have HI : Hid (∀ W, Calls Try.prog 25 #[.int .i64 a3, .int .i64 1000000000000000000] W fun e w' => e = .returned (.bool (decide (-1000000000000000000 ≤ a3 ∧ a3 ≤ 1000000000000000000))) ∧ w' = W) := fun W => isWithin_any a3 1000000000000000000 (by decide) W
  generalize decide (-1000000000000000000 ≤ a3 ∧ a3 ≤ 1000000000000000000) = r at *
  go_enter Try.func24, Try.ntmps24
  go_wp2_with (go_at_call 25; refine (HI.out _).mono ?_; rintro e w' ⟨rfl, rfl⟩)
  go_ret
  exact ⟨rfl, (Below.refl _ w).alloc (Nat.le_refl _) _⟩
theorem merge1_tells : BTells 24 tooB :=
  ⟨fun args W => en_enters Try.func24 (by kernel_rfl) ⟨_, rfl⟩ args W, merge1_any⟩
theorem addP_zs (x : Bl) (m : Nat) : ∀ ps : List Pt, (∀ p ∈ ps, p.zs.length ≤ m) → ∀ p ∈ addP ps x, p.zs.length ≤ m + 1
  | [], _, p, hp => by
    rw [addP, List.mem_singleton] at hp
    rw [hp]; simp
  | q :: ps, h, p, hp => by
    unfold addP at hp
    split at hp
    · rcases List.mem_cons.1 hp with rfl | hp
      · have := h q (List.mem_cons_self ..)
        simp; omega
      · have := h p (List.mem_cons_of_mem _ hp)
        omega
    · rcases List.mem_cons.1 hp with rfl | hp
      · have := h p (List.mem_cons_self ..)
        omega
      · exact addP_zs x m ps (fun q hq => h q (List.mem_cons_of_mem _ hq)) p hp
theorem parts_zs (l : List Bl) : ∀ p ∈ parts l, p.zs.length ≤ l.length := by
  have key : ∀ (l : List Bl) (ps : List Pt) (m : Nat), (∀ p ∈ ps, p.zs.length ≤ m) → ∀ p ∈ l.foldl addP ps, p.zs.length ≤ m + l.length := by
    intro l
    induction l with
    | nil => intro ps m h; simpa using h
    | cons x l ih =>
      intro ps m h p hp
      have := ih (addP ps x) (m + 1) (addP_zs x m ps h) p hp
      simp only [List.length_cons]
      omega
  have := key l [] 0 (by simp)
  simpa [parts] using this
/-- All that comes of places is of a place, and what comes of it. -/
theorem sums_of_perm {l R : List Bl} (hr : Rises R) (hp : R.Perm (full ((parts l).map Pt.bal))) : Sums l R :=
  ⟨hr, fun x hx => full_ne _ x (hp.mem_iff.1 hx), fun k => by rw [ltot_perm k hp, ltot_full, ltot_bal, parts_tot]⟩
theorem ok_of_perm {l R : List Bl} (hp : R.Perm (full ((parts l).map Pt.bal))) (hok : ∀ x ∈ l, BlOk x) (hi : ∀ p ∈ parts l, -9223372036854775808 ≤ p.zs.sum ∧ p.zs.sum ≤ 9223372036854775807) : ∀ x ∈ R, BlOk x := fun x hx => by
  have h1 := (List.mem_filter.1 (hp.mem_iff.1 hx)).1
  obtain ⟨p, hp1, rfl⟩ := List.mem_map.1 h1
  obtain ⟨y, hy, e⟩ := (parts_keys p.key l).1 (List.mem_map.2 ⟨p, hp1, rfl⟩)
  exact ⟨by rw [bal_key, ← e]; exact (hok y hy).key, hi p hp1⟩
theorem len_of_perm {l R : List Bl} (hp : R.Perm (full ((parts l).map Pt.bal))) : R.length ≤ (parts l).length := by
  rw [hp.length_eq]
  have := full_len ((parts l).map Pt.bal)
  simpa using this
/-- What comes of two lists. -/
structure MgR (a b R : List Bl) : Prop where
  sums : Sums (a ++ b) R
  len : R.length ≤ 200
  ok : ∀ x ∈ R, BlOk x
/-- Of two right lists, no place has more than two amounts. -/
theorem ltot_abs {l : List Bl} (h : Fine l) (k : Pk) : -1000000000000000000 ≤ ltot k l ∧ ltot k l ≤ 1000000000000000000 := by
  by_cases e : ltot k l = 0
  · rw [e]; omega
  · obtain ⟨x, hx, rfl⟩ := ltot_ex e
    rw [ltot_mem h.rises x hx]
    exact h.amt x hx
theorem two_fit {a b : List Bl} (ha : Fine a) (hb : Fine b) : ∀ p ∈ parts (a ++ b), -9223372036854775808 ≤ p.zs.sum ∧ p.zs.sum ≤ 9223372036854775807 :=
  (parts_all (l := a ++ b) (P := fun z => -9223372036854775808 ≤ z ∧ z ≤ 9223372036854775807)).2 (fun x _ => by
    rw [ltot_append]
    have h1 := ltot_abs ha x.key
    have h2 := ltot_abs hb x.key
    omega)
theorem tgE_two {a b : List Bl} (ha : Fine a) (hb : Fine b) : tgE (parts (a ++ b)) = if 200 < (parts (a ++ b)).length then 4 else 0 := by
  unfold tgE
  split
  · rfl
  · rw [if_pos (List.all_eq_true.2 (fun p hp => decide_eq_true (two_fit ha hb p hp)))]
/-- Something is too great. -/
theorem any_too {l R : List Bl} (hp : R.Perm (full ((parts l).map Pt.bal))) : R.any tooB = true ↔ ¬ (parts l).all (fun p => decide (-1000000000000000000 ≤ p.zs.sum ∧ p.zs.sum ≤ 1000000000000000000)) = true := by
  rw [List.all_eq_true]
  constructor
  · intro h h2
    obtain ⟨x, hx, hx2⟩ := List.any_eq_true.1 h
    obtain ⟨p, hp1, rfl⟩ := List.mem_map.1 (List.mem_filter.1 (hp.mem_iff.1 hx)).1
    have := h2 p hp1
    unfold tooB at hx2
    have e : p.bal.amt = p.zs.sum := rfl
    rw [e, this] at hx2
    cases hx2
  · intro h
    false_or_by_contra
    rename_i hn
    refine h (fun p hp1 => ?_)
    false_or_by_contra
    rename_i hn2
    refine hn (List.any_eq_true.2 ⟨p.bal, hp.mem_iff.2 (List.mem_filter.2 ⟨List.mem_map.2 ⟨p, hp1, rfl⟩, ?_⟩), ?_⟩)
    · have e : p.bal.amt = p.zs.sum := rfl
      by_cases h0 : p.zs.sum = 0
      · exact absurd (decide_eq_true (by rw [h0]; omega)) hn2
      · simp [e, h0]
    · unfold tooB
      have e : p.bal.amt = p.zs.sum := rfl
      rw [e]
      have h2 : decide (-1000000000000000000 ≤ p.zs.sum ∧ p.zs.sum ≤ 1000000000000000000) = false := by
        cases hq : decide (-1000000000000000000 ≤ p.zs.sum ∧ p.zs.sum ≤ 1000000000000000000)
        · rfl
        · exact absurd hq hn2
      rw [h2]
      rfl
end Go.Proofs.Ytbbegoklikaphaa

namespace Go.Proofs.Ytbbegoklikaphaa
set_option linter.unusedVariables false
set_option linter.unusedSimpArgs false
set_option maxRecDepth 100000
open Go.RowKit Go.Lib
theorem PMp.new (W : World) (n : Nat) (hn : n ≤ W.heap.size) (vs : Nat → Value) : PMp (W.alloc (.map #[] 0)) n W.heap.size [] vs :=
  ⟨ld_new_heap W _, hn, fun p hp => by simp at hp, by simp, fun i hi => by simp at hi, fun i j hi => by simp at hi, fun p hp => by simp at hp⟩
/-- A list of two. -/
def mgL (a b : List Bl) (i : Nat) : List Bl := if i = 0 then a else b
/-- What the outer loop keeps: so many lists are in. -/
structure Mo (W : World) (a b : List Bl) (i : Nat) (U : World) : Prop where
  pm : ∃ vs, PMp U W.heap.size W.heap.size (parts (if i = 0 then [] else if i = 1 then a else a ++ b)) vs
  keep : AKeep W.heap.size W.heap.size (W.alloc (.map #[] 0)) U
  fa : 1 ≤ i → Fine a
  fb : 2 ≤ i → Fine b
theorem parts_take (l m : List Bl) (k : Nat) (h : k < m.length) : parts (l ++ m.take (k + 1)) = addP (parts (l ++ m.take k)) (m.getD k bl0) := by
  rw [bls_take m k h, ← List.append_assoc, parts_snoc]
theorem AKeep.isBl {n mb : Nat} {V W : World} {a : Option Addr} {l : List Bl} {cap : Nat} (h : IsBl V a l cap) (hk : AKeep n mb V W) (hm : ∀ b off, a = some ⟨b, off, none⟩ → b < n ∧ b ≠ mb) : IsBl W a l cap := by
  refine ⟨h.cap, ?_⟩
  rcases h.lies with e | ⟨b, off, e, hlt, hc⟩
  · exact .inl e
  · refine .inr ⟨b, off, e, Nat.lt_of_lt_of_le hlt hk.size, fun k hk2 => ?_⟩
    obtain ⟨h1, h2⟩ := hm b off e
    have hb := hk.block b hlt h2 (.inl h1)
    have hcell : ∀ o, W.cell? ⟨b, o, none⟩ = V.cell? ⟨b, o, none⟩ := fun o => by simp only [World.cell?, hb]
    have := hc k hk2
    exact ⟨(hcell _).trans this.c0, (hcell _).trans this.c1, (hcell _).trans this.c2, (hcell _).trans this.c3⟩

set_option maxHeartbeats 8000000 in
theorem merge_any (a1 a2 : Option Addr) (c1 c2 : Nat) (a b : List Bl) (W : World) (ha : IsBl W a1 a c1) (hb : IsBl W a2 b c2) (la : a.length ≤ 9223372036854775807) (lb : b.length ≤ 9223372036854775807) (oka : ∀ x ∈ a, BlOk x) (okb : ∀ x ∈ b, BlOk x) :
    Calls Try.prog 9 #[.slice a1 a.length c1, .slice a2 b.length c2] W fun e w' => Below W.heap.size W w' ∧ (mgE a b ≠ 0 → e = .returned (.tuple #[.slice none 0 0, enE (mgE a b)])) ∧ (mgE a b = 0 → ∃ v R, e = .returned (.tuple #[v, .nilIface]) ∧ Hid (BlRow w' W.heap.size v R ∧ MgR a b R)) := by
  have hmm := @run_makeMap Try.prog
  obtain ⟨W2, hW2⟩ : ∃ W2, (W.alloc (.map #[] 0)).alloc (.cells #[.slice a1 a.length c1, .slice a2 b.length c2] 24) = W2 := ⟨_, rfl⟩
  have hb1 : Below W.heap.size W (W.alloc (.map #[] 0)) := (Below.refl _ W).alloc (Nat.le_refl _) _
  have hb2 : Below (W.alloc (.map #[] 0)).heap.size (W.alloc (.map #[] 0)) W2 := by rw [← hW2]; exact (Below.refl _ _).alloc (Nat.le_refl _) _
  have hrow : W2.heap[W.heap.size + 1]? = some (.cells #[.slice a1 a.length c1, .slice a2 b.length c2] 24 (0, 0)) := by
    rw [← hW2]
    have := ld_new_heap (W.alloc (.map #[] 0)) (.cells #[.slice a1 a.length c1, .slice a2 b.length c2] 24)
    simpa using this
  have HM0 : Hid (Mo W a b 0 W2) := ⟨⟨fun _ => .slice none 0 0, (PMp.new W _ (Nat.le_refl _) _).below hb2⟩, AKeep.of_below hb2, fun h => by omega, fun h => by omega⟩
  have HF : Hid (∀ U, AKeep W.heap.size W.heap.size (W.alloc (.map #[] 0)) U → Below W.heap.size W U) := fun U hk => hb1.trans (hk.below (Nat.le_refl _) (by simp))
  have HR : Hid (∀ U, AKeep W.heap.size W.heap.size W2 U → U.cell? ⟨W.heap.size + 1, 0, none⟩ = some (.slice a1 a.length c1) ∧ U.cell? ⟨W.heap.size + 1, 1, none⟩ = some (.slice a2 b.length c2)) := fun U hk => by
    have e := (hk.block (W.heap.size + 1) (Array.getElem?_eq_some_iff.1 hrow).1 (by omega) (.inr (fun cs e => by rw [hrow] at e; simp only [Option.some.injEq, Obj.cells.injEq] at e; exact absurd e.2.1 (by decide)))).trans hrow
    simp [World.cell?, e]
  have HA : Hid (IsBl W a1 a c1 ∧ IsBl W a2 b c2 ∧ (∀ x ∈ a, BlOk x) ∧ (∀ x ∈ b, BlOk x) ∧ a.length ≤ 9223372036854775807 ∧ b.length ≤ 9223372036854775807) := ⟨ha, hb, oka, okb, la, lb⟩
  have HW2 : Hid ((W.alloc (.map #[] 0)).alloc (.cells #[.slice a1 a.length c1, .slice a2 b.length c2] 24) = W2) := hW2
  have HK2 : Hid (AKeep W.heap.size W.heap.size W2 W2) := AKeep.refl _ _ _
  obtain ⟨la', hla⟩ : ∃ x, a.length = x := ⟨_, rfl⟩
  obtain ⟨lb', hlb⟩ : ∃ x, b.length = x := ⟨_, rfl⟩
  rw [hla, hlb] at HR HW2 ⊢
  have HLA : Hid (a.length = la' ∧ b.length = lb') := ⟨hla, hlb⟩
  clear ha hb la lb oka okb hb1 hb2 hrow hW2 hla hlb
  go_enter Try.func9, Try.ntmps9
  go_wp2_with fail
  rw [HW2.out]
  go_loopw [19] (fun iv wr => ∃ i : Nat, i ≤ 2 ∧ iv = .int .i64 i ∧ Hid (Mo W a b i wr ∧ AKeep W.heap.size W.heap.size W2 wr)) (fun iv _ => 2 - (RowKit.intOf iv).toNat)
  case atStart => exact ⟨0, by omega, rfl, HM0.out, HK2.out⟩
  case round =>
    obtain ⟨i, hi, rfl, HM⟩ := hrel
    by_cases hlt : i < 2
    · obtain ⟨ai, ci, hcell, hIs, hok, hll⟩ : ∃ ai ci, wr.cell? ⟨W.heap.size + 1, i, none⟩ = some (.slice ai (mgL a b i).length ci) ∧ IsBl W ai (mgL a b i) ci ∧ (∀ x ∈ mgL a b i, BlOk x) ∧ (mgL a b i).length ≤ 9223372036854775807 := by
        obtain ⟨r0, r1⟩ := HR.out wr HM.out.2
        rcases (by omega : i = 0 ∨ i = 1) with rfl | rfl
        · exact ⟨a1, c1, by rw [show mgL a b 0 = a from rfl, HLA.out.1]; exact r0, HA.out.1, HA.out.2.2.1, HA.out.2.2.2.2.1⟩
        · exact ⟨a2, c2, by rw [show mgL a b 1 = b from rfl, HLA.out.2]; exact r1, HA.out.2.1, HA.out.2.2.2.1, HA.out.2.2.2.2.2⟩
      have hIs1 : IsBl wr ai (mgL a b i) ci := hIs.below (HF.out wr HM.out.1.keep)
      have HCk : Hid (Calls _ _ _ wr _) := ldCheck_any ai ci (mgL a b i) wr hll hIs1
      have i0 : (0 : Int) ≤ i := by omega
      have i1 : (i : Int) < 2 := by omega
      obtain ⟨li, hli⟩ : ∃ li, mgL a b i = li := ⟨_, rfl⟩
      have HLi : Hid (mgL a b i = li) := hli
      rw [hli] at hcell hIs hok HCk hIs1 hll
      have HIs : Hid (IsBl W ai li ci ∧ ∀ x ∈ li, BlOk x) := ⟨hIs, hok⟩
      clear hli hIs hok hIs1
      by_cases hck : chk li = 0
      · rw [hck, enE_zero] at HCk
        have hfine : Fine li := chk_zero.1 hck
        have HFi : Hid (Fine li) := hfine
        have hl200 : (li.length : Int) ≤ 200 := by have := hfine.len; omega
        clear hfine hck
        go_wp2_with (go_at_call 21; refine HCk.out.mono ?_; rintro e w' ⟨rfl, hbc⟩)
        obtain ⟨pre, hpre⟩ : ∃ pre, (if i = 0 then [] else if i = 1 then a else a ++ b) = pre := ⟨_, rfl⟩
        have HPre : Hid ((if i = 0 then [] else if i = 1 then a else a ++ b) = pre) := hpre
        have hprel : pre.length ≤ 200 := by
          rw [← hpre]
          rcases (by omega : i = 0 ∨ i = 1) with rfl | rfl
          · simp
          · exact (HM.out.1.fa (Nat.le_refl _)).len
        have HP0 : Hid ((∃ vs, PMp w' W.heap.size W.heap.size (parts (pre ++ li.take 0)) vs) ∧ AKeep W.heap.size W.heap.size wr w') := by
          obtain ⟨vs, hvs⟩ := HM.out.1.pm
          rw [hpre] at hvs
          exact ⟨⟨vs, by rw [List.take_zero, List.append_nil]; exact hvs.below hbc⟩, AKeep.of_below hbc⟩
        clear hbc HCk hpre hcell
        go_loopw [30] (fun jv wq => ∃ j : Nat, j ≤ li.length ∧ jv = .int .i64 j ∧ Hid ((∃ vs, PMp wq W.heap.size W.heap.size (parts (pre ++ li.take j)) vs) ∧ AKeep W.heap.size W.heap.size wr wq)) (fun jv _ => li.length - (RowKit.intOf jv).toNat)
        case atStart => exact ⟨0, Nat.zero_le _, rfl, HP0⟩
        case round =>
          rename World => wq
          obtain ⟨j, hj, rfl, HJ⟩ := hrel
          have j0 : (0 : Int) ≤ j := by omega
          by_cases hjl : j < li.length
          · have j1 : (j : Int) < li.length := by omega
            obtain ⟨b0, off0, rfl, hb0, hc0⟩ := HIs.out.1.some hjl
            have hBq : Below W.heap.size W wq := HF.out wq (HM.out.1.keep.trans HJ.out.2)
            have hx := (hc0 j hjl).below hBq hb0
            obtain ⟨vs, hvs⟩ := HJ.out.1
            have hokx := HIs.out.2 _ (bls_mem li j hjl)
            obtain ⟨x, hxx⟩ : ∃ x, li.getD j bl0 = x := ⟨_, rfl⟩
            have HX : Hid (li.getD j bl0 = x) := hxx
            rw [hxx] at hx hokx
            obtain ⟨V, hV⟩ : ∃ V, wq.alloc (.cells x.cells 34) = V := ⟨_, rfl⟩
            have hbV : Below wq.heap.size wq V := by rw [← hV]; exact (Below.refl _ _).alloc (Nat.le_refl _) _
            have hVh : V.heap[wq.heap.size]? = some (.cells x.cells 34 (0, 0)) := by rw [← hV]; exact ld_new_heap wq _
            have HAdd : Hid (Calls _ _ _ V _) := ldAdd_any x V _ _ _ vs (hvs.below hbV) hokx.key hokx.amt (fun p hp => by
              have := parts_zs _ p hp
              simp only [List.length_append, List.length_take] at this
              omega)
            have HNx : Hid (∀ U, (∃ vs', Hid (PMp U W.heap.size W.heap.size (addP (parts (pre ++ li.take j)) x) vs' ∧ AKeep W.heap.size W.heap.size V U)) → (∃ vs, PMp U W.heap.size W.heap.size (parts (pre ++ li.take (j + 1))) vs) ∧ AKeep W.heap.size W.heap.size wr U) := fun U ⟨vs', h⟩ => by
              refine ⟨⟨vs', ?_⟩, HJ.out.2.trans ((AKeep.of_below hbV).trans h.out.2)⟩
              rw [parts_take pre li j hjl, HX.out]
              exact h.out.1
            have HV : Hid (wq.alloc (.cells x.cells 34) = V) := hV
            clear hvs hc0 hBq hokx hxx hbV hV HX
            obtain ⟨x0, x1, x2, x3⟩ := x
            obtain ⟨d0, d1, d2, d3⟩ := hx
            simp only [Bl.cells] at d0 d1 d2 d3 HV hVh HAdd
            have f0 : V.cell? ⟨wq.heap.size, 0, none⟩ = some (.int .i64 x0) := by simp [World.cell?, hVh]
            have f1 : V.cell? ⟨wq.heap.size, 1, none⟩ = some (.string x1) := by simp [World.cell?, hVh]
            have f2 : V.cell? ⟨wq.heap.size, 2, none⟩ = some (.string x2) := by simp [World.cell?, hVh]
            have f3 : V.cell? ⟨wq.heap.size, 3, none⟩ = some (.int .i64 x3) := by simp [World.cell?, hVh]
            clear hVh
            go_wp2_with (go_at_call 22; rw [HV.out]; refine HAdd.out.mono ?_; rintro e U ⟨rfl, hU⟩)
            have HU : Hid ((∃ vs, PMp U W.heap.size W.heap.size (parts (pre ++ li.take (j + 1))) vs) ∧ AKeep W.heap.size W.heap.size wr U) := HNx.out U hU
            clear hU HNx HAdd d0 d1 d2 d3 f0 f1 f2 f3
            go_roundw
            case rel => exact ⟨j + 1, by omega, by go_num, HU⟩
            case measure => simp [RowKit.intOf]; omega
          · have j1 : ¬ (j : Int) < li.length := by omega
            obtain rfl : j = li.length := by omega
            have HN : Hid (Mo W a b (i + 1) wq ∧ AKeep W.heap.size W.heap.size W2 wq) := by
              obtain ⟨vs, hvs⟩ := HJ.out.1
              rw [List.take_length] at hvs
              refine ⟨⟨⟨vs, ?_⟩, HM.out.1.keep.trans HJ.out.2, fun _ => ?_, fun h => ?_⟩, HM.out.2.trans HJ.out.2⟩
              · rcases (by omega : i = 0 ∨ i = 1) with rfl | rfl
                · rw [← HPre.out, ← HLi.out] at hvs
                  exact hvs
                · rw [← HPre.out, ← HLi.out] at hvs
                  exact hvs
              · rcases (by omega : i = 0 ∨ i = 1) with rfl | rfl
                · have := HFi.out; rw [← HLi.out] at this; exact this
                · exact HM.out.1.fa (Nat.le_refl _)
              · have e : i = 1 := by omega
                subst e
                have := HFi.out; rw [← HLi.out] at this; exact this
            clear HJ HP0
            go_wp2_with fail
            go_roundw
            case rel => exact ⟨i + 1, by omega, by go_num, HN⟩
            case measure => simp [RowKit.intOf]; omega
      · have HE : Hid (mgE a b = chk li) := by
          unfold Hid mgE
          rcases (by omega : i = 0 ∨ i = 1) with rfl | rfl
          · rw [← HLi.out] at hck ⊢
            exact if_pos hck
          · have h0 : chk a = 0 := chk_zero.2 (HM.out.1.fa (Nat.le_refl _))
            rw [← HLi.out] at hck ⊢
            rw [if_neg (by simp [h0])]
            exact if_pos hck
        have HB : Hid (Below W.heap.size W wr) := HF.out wr HM.out.1.keep
        rw [enE_ne hck] at HCk
        obtain ⟨cc, hcc⟩ : ∃ cc, chk li = cc := ⟨_, rfl⟩
        rw [hcc] at HCk HE hck
        clear hcc
        go_wp2_with (go_at_call 21; refine HCk.out.mono ?_; rintro e w' ⟨rfl, hbc⟩)
        go_ret2
        exact ⟨HB.out.trans (hbc.mono HB.out.size), fun _ => by rw [HE.out, enE_ne hck]; rfl, fun h => absurd (HE.out.symm.trans h) hck⟩
    · obtain rfl : i = 2 := by omega
      obtain ⟨vs, hvs⟩ := HM.out.1.pm
      have hvs' : PMp wr W.heap.size W.heap.size (parts (a ++ b)) vs := hvs
      have fa := HM.out.1.fa (by omega)
      have fb := HM.out.1.fb (by omega)
      have hpl := parts_length (a ++ b)
      have la := fa.len
      have lb := fb.len
      rw [List.length_append] at hpl
      have HTg : Hid (Calls _ _ _ wr _) := ldTogether_any wr _ _ _ vs hvs' (fun p hp => by
        have := parts_zs _ p hp
        simp only [List.length_append] at this
        omega) (by omega)
      have ht := tgE_two fa fb
      have hk1 : chk a = 0 := chk_zero.2 fa
      have hk2 : chk b = 0 := chk_zero.2 fb
      have HB : Hid (Below W.heap.size W wr) := HF.out wr HM.out.1.keep
      by_cases h200 : 200 < (parts (a ++ b)).length
      · rw [if_pos h200] at ht
        have HE : Hid (mgE a b = 4) := by
          unfold Hid mgE
          rw [if_neg (by simp [hk1]), if_neg (by simp [hk2]), if_pos h200]
        have HT2 : Hid (Calls Try.prog 23 #[.map (some W.heap.size)] wr fun e w' => e = .returned (.tuple #[.slice none 0 0, .iface 58 (.int .i64 4)]) ∧ Below wr.heap.size wr w') := HTg.out.mono (fun e w' ⟨h1, h2, _⟩ => ⟨by rw [h2 (by rw [ht]; decide), ht]; rfl, h1⟩)
        clear HTg hvs hvs' hpl la lb ht hk1 hk2 HM fa fb
        go_wp2_with (go_at_call 23; refine HT2.out.mono ?_; rintro e w' ⟨rfl, hbc⟩)
        go_ret2
        exact ⟨HB.out.trans (hbc.mono HB.out.size), fun _ => by rw [HE.out]; rfl, fun h => by rw [HE.out] at h; cases h⟩
      · rw [if_neg h200] at ht
        have hok2 : ∀ x ∈ a ++ b, BlOk x := fun x hx => by
          rcases List.mem_append.1 hx with hx | hx
          · exact HA.out.2.2.1 x hx
          · exact HA.out.2.2.2.1 x hx
        have HT2 : Hid (Calls Try.prog 23 #[.map (some W.heap.size)] wr fun e w' => ∃ sa sc R, e = .returned (.tuple #[.slice sa R.length sc, .nilIface]) ∧ Hid (Below W.heap.size W w' ∧ BlRow w' W.heap.size (.slice sa R.length sc) R ∧ MgR a b R ∧ (R.any tooB = true → mgE a b = 10) ∧ (R.any tooB = false → mgE a b = 0))) := by
          refine HTg.out.mono ?_
          rintro e w' ⟨h1, _, h3⟩
          obtain ⟨v, R, rfl, h4⟩ := h3 ht
          obtain ⟨h5, h6, h7⟩ := h4.out
          have hBw : Below W.heap.size W w' := HB.out.trans (h1.mono HB.out.size)
          have h8 : BlRow w' W.heap.size v R := by
            rcases h5.2 with ⟨hv, hn⟩ | ⟨g1, c1, cur, hv, hb1, r⟩
            · exact ⟨h5.1, .inl ⟨hv, hn⟩⟩
            · exact ⟨h5.1, .inr ⟨g1, c1, cur, hv, Nat.le_trans HB.out.size hb1, r⟩⟩
          obtain ⟨sa, sc, rfl, _⟩ := h8.isBl
          refine ⟨sa, sc, R, rfl, hBw, h8, ⟨sums_of_perm h6 h7, Nat.le_trans (len_of_perm h7) (by omega), ok_of_perm h7 hok2 (two_fit fa fb)⟩, fun h => ?_, fun h => ?_⟩
          · have := (any_too h7).1 h
            unfold mgE
            rw [if_neg (by simp [hk1]), if_neg (by simp [hk2]), if_neg h200, if_neg this]
          · have : ¬ R.any tooB = true := by rw [h]; simp
            unfold mgE
            rw [if_neg (by simp [hk1]), if_neg (by simp [hk2]), if_neg h200, if_pos]
            false_or_by_contra
            rename_i h9
            exact this ((any_too h7).2 h9)
        clear HTg hvs hvs' hpl la lb ht hk1 hk2 HM fa fb hok2 HB
        go_wp2_with (go_at_call 23; refine HT2.out.mono ?_; rintro e w' ⟨sa, sc, R, rfl, hR⟩)
        have HCf : Hid (Calls _ _ _ w' _) := blContains_any 24 tooB sa sc R w' merge1_tells (by have := hR.out.2.2.1.len; omega) (by
          obtain ⟨_, _, e, h⟩ := hR.out.2.1.isBl
          cases e
          exact h)
        cases hq : R.any tooB
        · rw [hq] at HCf
          have HE : Hid (mgE a b = 0) := hR.out.2.2.2.2 hq
          clear hq
          go_wp2_with (go_at_call 13; refine HCf.out.mono ?_; rintro e w9 ⟨rfl, hb9⟩)
          go_ret2
          exact ⟨hR.out.1.trans (hb9.mono hR.out.1.size), fun h => absurd HE.out h, fun _ => ⟨_, R, rfl, hR.out.2.1.below hb9, hR.out.2.2.1⟩⟩
        · rw [hq] at HCf
          have HE : Hid (mgE a b = 10) := hR.out.2.2.2.1 hq
          clear hq
          go_wp2_with (go_at_call 13; refine HCf.out.mono ?_; rintro e w9 ⟨rfl, hb9⟩)
          go_ret2
          exact ⟨hR.out.1.trans (hb9.mono hR.out.1.size), fun _ => by rw [HE.out]; rfl, fun h => by rw [HE.out] at h; cases h⟩
end Go.Proofs.Ytbbegoklikaphaa

namespace Go.Proofs.Ytbbegoklikaphaa
set_option linter.unusedVariables false
set_option linter.unusedSimpArgs false
set_option maxRecDepth 100000
open Go.RowKit Go.Lib
theorem merge_ok (a1 a2 : Option Addr) (c1 c2 : Nat) (a b : List Bl) (W : World) (ha : IsBl W a1 a c1) (hb : IsBl W a2 b c2) (oka : ∀ x ∈ a, BlOk x) (okb : ∀ x ∈ b, BlOk x) (h0 : mgE a b = 0) :
    Calls Try.prog 9 #[.slice a1 a.length c1, .slice a2 b.length c2] W fun e w' => ∃ sa sc R, e = .returned (.tuple #[.slice sa R.length sc, .nilIface]) ∧ Hid (Below W.heap.size W w' ∧ IsBl w' sa R sc ∧ MgR a b R) := by
  obtain ⟨fa, fb, _⟩ := mgE_zero.1 h0
  refine (merge_any a1 a2 c1 c2 a b W ha hb (by have := fa.len; omega) (by have := fb.len; omega) oka okb).mono ?_
  rintro e w' ⟨h1, _, h3⟩
  obtain ⟨v, R, rfl, h4⟩ := h3 h0
  obtain ⟨sa, sc, rfl, hI⟩ := h4.out.1.isBl
  exact ⟨sa, sc, R, rfl, h1, hI, h4.out.2⟩
theorem merge_bad (a1 a2 : Option Addr) (c1 c2 : Nat) (a b : List Bl) (W : World) (ha : IsBl W a1 a c1) (hb : IsBl W a2 b c2) (la : a.length ≤ 9223372036854775807) (lb : b.length ≤ 9223372036854775807) (oka : ∀ x ∈ a, BlOk x) (okb : ∀ x ∈ b, BlOk x) (h0 : mgE a b ≠ 0) :
    Calls Try.prog 9 #[.slice a1 a.length c1, .slice a2 b.length c2] W fun e w' => e = .returned (.tuple #[.slice none 0 0, .iface 58 (.int .i64 (mgE a b))]) ∧ Below W.heap.size W w' :=
  (merge_any a1 a2 c1 c2 a b W ha hb la lb oka okb).mono fun e w' ⟨h1, h2, _⟩ => ⟨by rw [h2 h0, enE_ne h0], h1⟩
theorem isBl_new {W : World} {b : Nat} {x : Bl} (h : W.heap[b]? = some (.cells x.cells 34 (0, 0))) : IsBl W (some ⟨b, 0, none⟩) [x] 1 := by
  refine ⟨Nat.le_refl _, .inr ⟨b, 0, rfl, (Array.getElem?_eq_some_iff.1 h).1, fun k hk => ?_⟩⟩
  have e : k = 0 := by simp at hk; omega
  subst e
  simp only [List.getD_cons_zero]
  exact ⟨by simp [World.cell?, h, Bl.cells], by simp [World.cell?, h, Bl.cells], by simp [World.cell?, h, Bl.cells], by simp [World.cell?, h, Bl.cells]⟩
theorem isBl_none (W : World) (a : Option Addr) (c : Nat) : IsBl W a [] c := ⟨Nat.zero_le _, .inl rfl⟩

theorem mg_comm {a b : List Bl} (h : mgE a b = 0) : mgE b a = 0 := by
  obtain ⟨fa, fb, h1, h2⟩ := mgE_zero.1 h
  refine mgE_zero.2 ⟨fb, fa, ?_, fun x hx => ?_⟩
  · rw [parts_count (l := b ++ a) (m := a ++ b) (fun k => by simp only [List.mem_append, or_comm])]
    exact h1
  · have := h2 x (by simp only [List.mem_append] at hx ⊢; exact hx.symm)
    rw [ltot_append] at this ⊢
    omega
theorem mg_comm_eq {a b R S : List Bl} (h : MgR a b R) (k : MgR b a S) : R = S := h.sums.uniq k.sums (fun q => by rw [ltot_append, ltot_append]; omega)
theorem mg_nil {a : List Bl} (h : Fine a) : mgE a [] = 0 := by
  refine mgE_zero.2 ⟨h, ⟨by simp, .nil, by simp, by simp⟩, ?_, fun x hx => ?_⟩
  · have := parts_length (a ++ [])
    have := h.len
    simp at *
    omega
  · rw [List.append_nil]; exact ltot_abs h x.key
theorem mg_nil_eq {a R : List Bl} (h : Fine a) (k : MgR a [] R) : R = a := k.sums.uniq h.sums (fun q => by rw [List.append_nil])
/-- A balance's contrary. -/
def Bl.neg (x : Bl) : Bl := ⟨x.ent, x.acc, x.cur, -x.amt⟩
def negL (l : List Bl) : List Bl := l.map Bl.neg
theorem negL_length (l : List Bl) : (negL l).length = l.length := by simp [negL]
theorem neg_fine {l : List Bl} (h : Fine l) : Fine (negL l) := by
  refine ⟨by rw [negL_length]; exact h.len, ?_, fun x hx => ?_, fun x hx => ?_⟩
  · unfold Rises negL
    rw [List.pairwise_map]
    exact h.rises
  · obtain ⟨y, hy, rfl⟩ := List.mem_map.1 hx
    have := h.amt y hy
    unfold Bl.neg
    simp only
    omega
  · obtain ⟨y, hy, rfl⟩ := List.mem_map.1 hx
    have := h.ne y hy
    unfold Bl.neg
    simp only
    omega
theorem neg_ok {l : List Bl} (h : Fine l) (hok : ∀ x ∈ l, BlOk x) : ∀ x ∈ negL l, BlOk x := fun x hx => by
  obtain ⟨y, hy, rfl⟩ := List.mem_map.1 hx
  have := h.amt y hy
  exact ⟨(hok y hy).key, by unfold Bl.neg; simp only; omega⟩
theorem neg_tot (k : Pk) : ∀ l : List Bl, ltot k (negL l) = - ltot k l
  | [] => rfl
  | x :: l => by
    have ih := neg_tot k l
    unfold negL at ih ⊢
    rw [List.map_cons, ltot, ltot, ih]
    have e : x.neg.key = x.key := rfl
    rw [e]
    split
    · unfold Bl.neg; simp only; omega
    · omega
theorem mg_neg {a : List Bl} (h : Fine a) : mgE a (negL a) = 0 := by
  refine mgE_zero.2 ⟨h, neg_fine h, ?_, fun x hx => ?_⟩
  · have e := parts_count (l := a ++ negL a) (m := a) (fun k => by
      constructor
      · rintro ⟨x, hx, rfl⟩
        rcases List.mem_append.1 hx with hx | hx
        · exact ⟨x, hx, rfl⟩
        · obtain ⟨y, hy, rfl⟩ := List.mem_map.1 hx
          exact ⟨y, hy, rfl⟩
      · rintro ⟨x, hx, rfl⟩
        exact ⟨x, List.mem_append_left _ hx, rfl⟩)
    rw [e]
    exact Nat.le_trans (parts_length a) h.len
  · rw [ltot_append, neg_tot]; omega
theorem mg_neg_eq {a R : List Bl} (k : MgR a (negL a) R) : R = [] := by
  have h : Sums [] [] := ⟨.nil, by simp, fun _ => rfl⟩
  exact k.sums.uniq h (fun q => by rw [ltot_append, neg_tot]; simp [ltot]; omega)
theorem mg_assoc {a b c x q p r : List Bl} (hx : MgR a b x) (hp : MgR x c p) (hq : MgR b c q) (hr : MgR a q r) : p = r :=
  hp.sums.uniq hr.sums (fun k => by
    rw [ltot_append, ltot_append, hx.sums.ltot, hq.sums.ltot, ltot_append, ltot_append]
    omega)
/-- The law's own two. -/
def lo2 (n : Int) : Bl := ⟨1, ⟨#[49]⟩, ⟨#[69, 85, 82]⟩, n⟩
theorem lo_fine (n : Int) (h : 1 ≤ n ∧ n ≤ 5) : Fine [lo2 n] := ⟨by simp, List.pairwise_singleton _ _, by simp [lo2]; omega, by simp [lo2]; omega⟩
theorem lo_ok (n : Int) (h : 1 ≤ n ∧ n ≤ 5) : ∀ x ∈ [lo2 n], BlOk x := fun x hx => by
  rw [List.mem_singleton.1 hx]
  exact ⟨⟨by show (-9223372036854775808 : Int) ≤ 1 ∧ (1 : Int) ≤ 9223372036854775807; decide, by show ByteArray.size ⟨#[49]⟩ ≤ maxLen; decide, by show ByteArray.size ⟨#[69, 85, 82]⟩ ≤ maxLen; decide⟩, by simp [lo2]; omega⟩
theorem lo_tot (k : Pk) : ltot k ([lo2 2] ++ [lo2 3]) = ltot k [lo2 5] := by
  have e : ∀ n m, (lo2 n).key = (lo2 m).key := fun _ _ => rfl
  simp only [List.cons_append, List.nil_append, ltot]
  rw [e 2 5, e 3 5]
  split <;> simp [lo2]
theorem lo_mg : mgE [lo2 2] [lo2 3] = 0 := by
  refine mgE_zero.2 ⟨lo_fine 2 (by omega), lo_fine 3 (by omega), ?_, fun x hx => ?_⟩
  · have := parts_length ([lo2 2] ++ [lo2 3])
    simp at *
    omega
  · rw [lo_tot]; exact ltot_abs (lo_fine 5 (by omega)) _
theorem lo_eq {R : List Bl} (h : MgR [lo2 2] [lo2 3] R) : R = [lo2 5] := h.sums.uniq (lo_fine 5 (by omega)).sums lo_tot
theorem negL_take (l : List Bl) (k : Nat) (h : k < l.length) : negL (l.take (k + 1)) = negL (l.take k) ++ [(l.getD k bl0).neg] := by
  rw [bls_take l k h]
  simp [negL]
end Go.Proofs.Ytbbegoklikaphaa

namespace Go.Proofs.Ytbbegoklikaphaa
set_option linter.unusedVariables false
set_option linter.unusedSimpArgs false
set_option maxRecDepth 100000
open Go.RowKit Go.Lib Go.Maps Math

/-- All that holds where nothing is wrong. -/
theorem rvBad_ok {S : Int × DataW Unit} {c : List Ac} {base gain : ByteArray} {b : List Bl} {en pe : Int} : rvBad S c base gain b en pe = 0 ↔ chBad c = 0 ∧ (Fine b ∧ S.1 = 0 ∧ isCur base = true ∧ upTo en 12 = true ∧ upTo pe 120 = true) ∧ (∀ x ∈ b, wE S base en pe x = 0) ∧ leafBad c gain = 0 ∧ (∀ x ∈ b, x.ent = en → isAcc c x.acc = true) ∧ ∀ i, i < c.length → acBad (wV S base en pe) base gain b en (c.getD i ac0) = 0 := by
  have hw : wRvBad S base b en pe = 0 ↔ (Fine b ∧ S.1 = 0 ∧ isCur base = true ∧ upTo en 12 = true ∧ upTo pe 120 = true) ∧ ∀ x ∈ b, wE S base en pe x = 0 := by
    unfold wRvBad
    constructor
    · intro h
      split at h
      · contradiction
      · rename_i h1
        refine ⟨askBad_ok.1 (Decidable.of_not_not h1), fun x hx => ?_⟩
        obtain ⟨k, hk, rfl⟩ := mem_getD hx
        exact firstTo_zero h k hk
    · rintro ⟨h1, h2⟩
      rw [if_neg (by simp [askBad_ok.2 h1])]
      exact firstTo_of fun k hk => h2 _ (getD_mem b k hk)
  have hn : b.any (noAcc c en) = true ↔ ¬ ∀ x ∈ b, x.ent = en → isAcc c x.acc = true := by
    rw [List.any_eq_true]
    constructor
    · rintro ⟨x, hx, h⟩ hh
      unfold noAcc at h
      simp only [Bool.and_eq_true, decide_eq_true_eq, Bool.not_eq_true'] at h
      rw [hh x hx h.1] at h
      exact absurd h.2 (by simp)
    · intro h
      refine Classical.byContradiction fun h2 => h fun x hx he => ?_
      cases hh : isAcc c x.acc
      · exact absurd ⟨x, hx, by unfold noAcc; simp [he, hh]⟩ h2
      · rfl
  unfold rvBad
  constructor
  · intro h
    split at h
    · contradiction
    · rename_i h1
      split at h
      · contradiction
      · rename_i h2
        split at h
        · contradiction
        · rename_i h3
          split at h
          · omega
          · rename_i h4
            obtain ⟨w1, w2⟩ := hw.1 (Decidable.of_not_not h2)
            exact ⟨Decidable.of_not_not h1, w1, w2, Decidable.of_not_not h3, Classical.byContradiction fun hh => h4 (hn.2 hh), fun i hi => firstTo_zero h i hi⟩
  · rintro ⟨h1, h2, h3, h4, h5, h6⟩
    rw [if_neg (by simp [h1]), if_neg (by simp [hw.2 ⟨h2, h3⟩]), if_neg (by simp [h4]), if_neg (fun hh => (hn.1 hh) h5)]
    exact firstTo_of h6
theorem isAcc_mem {c : List Ac} (h : chBad c = 0) {i : Nat} (hi : i < c.length) : isAcc c (c.getD i ac0).code = true := by
  unfold isAcc
  rw [idx_code h hi]
  exact decide_eq_true (by omega)
theorem isAcc_leaf {c : List Ac} {gain : ByteArray} (h : leafBad c gain = 0) : isAcc c gain = true ∧ 0 ≤ idxP (hasCode gain) c := by
  unfold leafBad at h
  split at h
  · omega
  · rename_i h1
    exact ⟨decide_eq_true (by omega), by omega⟩
/-- An account's lines, as balances. -/
def acM (f : Bl → Int) (base gain : ByteArray) (b : List Bl) (en : Int) (x : Ac) : List Bl := if x.mon = true ∧ acAmt f base b en x ≠ 0 then [⟨en, x.code, base, acAmt f base b en x⟩, ⟨en, gain, base, -acAmt f base b en x⟩] else []
def mTo (f : Bl → Int) (base gain : ByteArray) (b : List Bl) (en : Int) (c : List Ac) (k : Nat) : List Bl := (List.range k).flatMap fun i => acM f base gain b en (c.getD i ac0)
theorem mTo_next (f : Bl → Int) (base gain : ByteArray) (b : List Bl) (en : Int) (c : List Ac) (k : Nat) : mTo f base gain b en c (k + 1) = mTo f base gain b en c k ++ acM f base gain b en (c.getD k ac0) := by
  unfold mTo; rw [List.range_succ, List.flatMap_append]; simp
theorem mTo_lines (f : Bl → Int) (base gain : ByteArray) (b : List Bl) (en pe : Int) (c : List Ac) : ∀ k, lnsBs en ((rvTo f base gain b en pe c k).flatMap Ep.lns) = mTo f base gain b en c k
  | 0 => rfl
  | k + 1 => by
    rw [rvTo_next, mTo_next, ← mTo_lines f base gain b en pe c k, List.flatMap_append]
    unfold lnsBs
    rw [List.map_append]
    congr 1
    unfold acE acM
    split
    · rfl
    · rfl
theorem rv_lines {f : Bl → Int} {base gain : ByteArray} {b : List Bl} {en pe : Int} {c : List Ac} {L : List Je} (hL : L.map Je.ep = rvTo f base gain b en pe c c.length) : lnsBs en (L.flatMap Je.lns) = mTo f base gain b en c c.length := by
  rw [← mTo_lines f base gain b en pe c, ← hL, List.flatMap_map]
  rfl
theorem mTo_mem {f : Bl → Int} {base gain : ByteArray} {b : List Bl} {en : Int} {c : List Ac} {k : Nat} {x : Bl} (h : x ∈ mTo f base gain b en c k) : ∃ i, i < k ∧ (c.getD i ac0).mon = true ∧ (x = ⟨en, (c.getD i ac0).code, base, acAmt f base b en (c.getD i ac0)⟩ ∨ x = ⟨en, gain, base, -acAmt f base b en (c.getD i ac0)⟩) := by
  obtain ⟨i, hi, hx⟩ := List.mem_flatMap.1 h
  refine ⟨i, List.mem_range.1 hi, ?_⟩
  unfold acM at hx
  split at hx
  · rename_i hh
    simp only [List.mem_cons, List.not_mem_nil, or_false] at hx
    exact ⟨hh.1, hx⟩
  · cases hx
theorem mTo_len (f : Bl → Int) (base gain : ByteArray) (b : List Bl) (en : Int) (c : List Ac) : ∀ k, (mTo f base gain b en c k).length ≤ 2 * k
  | 0 => by simp [mTo]
  | k + 1 => by
    have := mTo_len f base gain b en c k
    rw [mTo_next, List.length_append]
    unfold acM
    split
    · simp; omega
    · simp; omega
/-- What a line is at most. -/
theorem amt_of_ok {f : Bl → Int} {base gain : ByteArray} {b : List Bl} {en : Int} {x : Ac} (h : acBad f base gain b en x = 0) (hm : x.mon = true) : (-1000000000000000 ≤ acAmt f base b en x ∧ acAmt f base b en x ≤ 1000000000000000) ∧ acErr f base b en x = 0 := by
  unfold acBad at h
  rw [if_neg (by simp [hm])] at h
  split at h
  · contradiction
  · rename_i h1
    unfold brBad at h
    split at h
    · omega
    · rename_i h2
      have h3 : isAmtB (acAmt f base b en x) = true := by simpa using h2
      have := isAmtB_iff.1 h3
      unfold mostA at this
      exact ⟨this, Decidable.of_not_not h1⟩
theorem mTo_ok {S : Int × DataW Unit} {c : List Ac} {base gain : ByteArray} {b : List Bl} {en pe : Int} (h : rvBad S c base gain b en pe = 0) (hgs : gain.size ≤ maxLen) : PutOk (mTo (wV S base en pe) base gain b en c c.length) := by
  obtain ⟨h1, ⟨_, _, h2, h3, _⟩, _, _, _, h6⟩ := rvBad_ok.1 h
  have hl := chBad_len h1
  have hen := upTo_bd h3
  refine ⟨by have := mTo_len (wV S base en pe) base gain b en c c.length; omega, fun x hx => ?_, fun x hx => ?_⟩
  · obtain ⟨i, hi, hm, hx⟩ := mTo_mem hx
    obtain ⟨q1, _⟩ := amt_of_ok (h6 i hi) hm
    rcases hx with rfl | rfl
    · exact q1
    · show -1000000000000000 ≤ -_ ∧ -_ ≤ 1000000000000000
      omega
  · obtain ⟨i, hi, hm, hx⟩ := mTo_mem hx
    have q2 := code_six h1 hi
    have q3 := cur_size h2
    rcases hx with rfl | rfl
    · exact ⟨⟨by show -9223372036854775808 ≤ en; omega, by show en ≤ 9223372036854775807; omega⟩, by show (c.getD i ac0).code.size ≤ maxLen; unfold maxLen; omega, q3⟩
    · exact ⟨⟨by show -9223372036854775808 ≤ en; omega, by show en ≤ 9223372036854775807; omega⟩, hgs, q3⟩
/-- What the lines bring. -/
theorem mTo_cur {f : Bl → Int} {base gain : ByteArray} {b : List Bl} {en : Int} {c : List Ac} {k : Nat} {q : Pk} (h : q.2.2 ≠ base) : ltot q (mTo f base gain b en c k) = 0 := by
  refine ltot_none _ _ fun x hx e => ?_
  obtain ⟨i, _, _, hx⟩ := mTo_mem hx
  rcases hx with rfl | rfl
  · exact h (by rw [← e]; rfl)
  · exact h (by rw [← e]; rfl)
theorem mTo_acc {f : Bl → Int} {base gain : ByteArray} {b : List Bl} {en : Int} {c : List Ac} (hc : chBad c = 0) {j : Nat} (hj : j < c.length) (hm : (c.getD j ac0).mon = true) (hg : (c.getD j ac0).code ≠ gain) : ∀ k, k ≤ c.length → ltot (en, (c.getD j ac0).code, base) (mTo f base gain b en c k) = if j < k then acAmt f base b en (c.getD j ac0) else 0
  | 0, _ => by simp [mTo, ltot]
  | k + 1, hk => by
    rw [mTo_next, ltot_append, mTo_acc hc hj hm hg k (by omega)]
    by_cases e : k = j
    · subst e
      rw [if_neg (by omega), if_pos (by omega)]
      unfold acM
      by_cases h0 : acAmt f base b en (c.getD k ac0) = 0
      · rw [if_neg (fun h => h.2 h0), h0]; rfl
      · rw [if_pos ⟨hm, h0⟩]
        rw [ltot, if_pos (by rfl), ltot, if_neg (by
          intro e
          simp only [Bl.key, Prod.mk.injEq] at e
          exact hg e.2.1.symm), ltot]
        show 0 + (acAmt f base b en (c.getD k ac0) + (0 + 0)) = acAmt f base b en (c.getD k ac0)
        omega
    · have hz : ltot (en, (c.getD j ac0).code, base) (acM f base gain b en (c.getD k ac0)) = 0 := by
        refine ltot_none _ _ fun x hx e2 => ?_
        unfold acM at hx
        split at hx
        · simp only [List.mem_cons, List.not_mem_nil, or_false] at hx
          rcases hx with rfl | rfl
          · simp only [Bl.key, Prod.mk.injEq] at e2
            exact e (code_inj hc (by omega) hj e2.2.1)
          · simp only [Bl.key, Prod.mk.injEq] at e2
            exact hg e2.2.1.symm
        · cases hx
      rw [hz]
      by_cases h1 : j < k
      · rw [if_pos h1, if_pos (by omega)]; omega
      · rw [if_neg h1, if_neg (by omega)]; rfl
theorem ltot_filter (p : Bl → Bool) (P : Pk → Bool) (hp : ∀ x : Bl, p x = P x.key) (q : Pk) : ∀ l : List Bl, ltot q (l.filter p) = if P q = true then ltot q l else 0
  | [] => by simp [ltot]
  | x :: l => by
    have ih := ltot_filter p P hp q l
    by_cases hx : p x = true
    · rw [List.filter_cons_of_pos hx, ltot, ih, ltot]
      by_cases hk : x.key = q
      · rw [if_pos hk, ← hk, ← hp x, if_pos hx, if_pos hx]
      · rw [if_neg hk]
        split <;> simp
    · rw [List.filter_cons_of_neg hx, ih, ltot]
      by_cases hk : x.key = q
      · rw [← hk, ← hp x, if_neg hx, if_neg hx]
      · rw [if_neg hk]
        split <;> simp
def isOthK (en : Int) (code base : ByteArray) (q : Pk) : Bool := decide (q.1 = en) && (decide (q.2.1 = code) && !decide (q.2.2 = base))
/-- The others stay. -/
theorem oth_same {b R : List Bl} (hb : Fine b) (hR : Rises R) (hz : ∀ x ∈ R, x.amt ≠ 0) (en : Int) (code base : ByteArray) (h : ∀ q : Pk, q.2.2 ≠ base → ltot q R = ltot q b) : R.filter (isOth en code base) = b.filter (isOth en code base) := by
  refine rises_tot (hR.sublist List.filter_sublist) (hb.rises.sublist List.filter_sublist) (fun x hx => hz x (List.mem_filter.1 hx).1) (fun x hx => hb.ne x (List.mem_filter.1 hx).1) fun q => ?_
  rw [ltot_filter (isOth en code base) (isOthK en code base) (fun _ => rfl), ltot_filter (isOth en code base) (isOthK en code base) (fun _ => rfl)]
  by_cases hq : isOthK en code base q = true
  · rw [if_pos hq, if_pos hq]
    unfold isOthK at hq
    simp only [Bool.and_eq_true, decide_eq_true_eq, Bool.not_eq_true', decide_eq_false_iff_not] at hq
    exact h q hq.2.2
  · rw [if_neg hq, if_neg hq]
theorem rv_rests {S : Int × DataW Unit} {c : List Ac} {base gain : ByteArray} {b R : List Bl} {en pe : Int} (h : rvBad S c base gain b en pe = 0) (hg : ∀ i, i < c.length → (c.getD i ac0).mon = true → (c.getD i ac0).code ≠ gain) (hmg : mgE b (full (putL [] (mTo (wV S base en pe) base gain b en c c.length))) = 0) (hR : MgR b (full (putL [] (mTo (wV S base en pe) base gain b en c c.length))) R) :
    rvBad S c base gain R en pe = 0 ∧ rvTo (wV S base en pe) base gain R en pe c c.length = [] := by
  obtain ⟨h1, ⟨hfi, hs, hcur, hen, hpe⟩, h3, h4, h5, h6⟩ := rvBad_ok.1 h
  have hfR : Fine R := by
    obtain ⟨_, _, _, m4⟩ := mgE_zero.1 hmg
    exact ⟨hR.len, hR.sums.rises, hR.sums.amt (ltot_all m4), hR.sums.ne⟩
  have ht : ∀ q : Pk, ltot q R = ltot q b + ltot q (mTo (wV S base en pe) base gain b en c c.length) := fun q => by
    rw [hR.sums.ltot q, ltot_append, ltot_full, putL_tot, List.nil_append]
  have hcr : ∀ q : Pk, q.2.2 ≠ base → ltot q R = ltot q b := fun q hq => by rw [ht q, mTo_cur hq]; omega
  have hfil := fun code => oth_same hfi hfR.rises hfR.ne en code base hcr
  have hac : ∀ i, i < c.length → (c.getD i ac0).mon = true → acAmt (wV S base en pe) base R en (c.getD i ac0) = 0 ∧ acErr (wV S base en pe) base R en (c.getD i ac0) = 0 := fun i hi hm => by
    have hl := ht (en, (c.getD i ac0).code, base)
    rw [mTo_acc h1 hi hm (hg i hi hm) c.length (Nat.le_refl _), if_pos hi] at hl
    obtain ⟨_, e2⟩ := amt_of_ok (h6 i hi) hm
    unfold acAmt acErr at *
    have ho : othL (wV S base en pe) en (c.getD i ac0).code base R = othL (wV S base en pe) en (c.getD i ac0).code base b := by
      unfold othL; rw [hfil]
    rw [ho, hl]
    generalize othL (wV S base en pe) en (c.getD i ac0).code base b = o at *
    generalize ltot (en, (c.getD i ac0).code, base) b = hb at *
    unfold lkE at e2 ⊢
    unfold lkV
    by_cases c0 : o.length = 0
    · rw [if_pos c0, if_pos c0]; exact ⟨rfl, rfl⟩
    · rw [if_neg c0] at e2
      by_cases c1 : fit64 o.sum
      · have n1 : ¬ ¬ fit64 o.sum := fun hh => hh c1
        rw [if_neg n1] at e2
        by_cases c2 : fit64 (o.sum - hb)
        · have n2 : ¬ ¬ fit64 (o.sum - hb) := fun hh => hh c2
          simp only [if_neg c0, if_neg n1, if_neg n2]
          have e0 : o.sum - (hb + (o.sum - hb)) = 0 := by omega
          rw [e0]
          have n3 : ¬ ¬ fit64 0 := fun hh => hh ⟨by omega, by omega⟩
          simp only [if_neg n3]
          exact ⟨trivial, trivial⟩
        · rw [if_pos c2] at e2; omega
      · rw [if_pos c1] at e2; omega
  refine ⟨rvBad_ok.2 ⟨h1, ⟨hfR, hs, hcur, hen, hpe⟩, fun x hx => ?_, h4, fun x hx he => ?_, fun i hi => ?_⟩, rvTo_nil fun i hi hm => (hac i hi hm).1⟩
  · by_cases hc : x.cur = base
    · exact (wV_self hs hcur hpe hc (hfR.amt x hx)).2
    · have e1 := ltot_mem hfR.rises x hx
      rw [hcr x.key hc] at e1
      obtain ⟨y, hy, hk⟩ := ltot_ex (l := b) (k := x.key) (by rw [e1]; exact hfR.ne x hx)
      have e2 := ltot_mem hfi.rises y hy
      rw [hk, e1] at e2
      rw [← bl_ext hk e2.symm]
      exact h3 y hy
  · have e1 := ltot_mem hfR.rises x hx
    have e2 := hfR.ne x hx
    rw [ht x.key] at e1
    by_cases hb0 : ltot x.key b = 0
    · obtain ⟨y, hy, hk⟩ := ltot_ex (l := mTo (wV S base en pe) base gain b en c c.length) (k := x.key) (by omega)
      have ea : y.acc = x.acc := by simp only [Bl.key, Prod.mk.injEq] at hk; exact hk.2.1
      rw [← ea]
      obtain ⟨i, hi, _, hy⟩ := mTo_mem hy
      rcases hy with rfl | rfl
      · exact isAcc_mem h1 hi
      · exact (isAcc_leaf h4).1
    · obtain ⟨y, hy, hk⟩ := ltot_ex hb0
      simp only [Bl.key, Prod.mk.injEq] at hk
      rw [← hk.2.1]
      exact h5 y hy (hk.1.trans he)
  · unfold acBad
    cases hm : (c.getD i ac0).mon
    · rfl
    · obtain ⟨e1, e2⟩ := hac i hi hm
      rw [if_neg (by simp), if_neg (fun hh => hh e2), e1]
      unfold brBad
      rw [if_neg (by decide), if_neg (by simp)]
/-- The entries are even. -/
theorem br_zero (n : Int) (base code gain : ByteArray) (h : -mostA ≤ n ∧ n ≤ mostA) : 0 < (brL n base code gain).length ∧ (brL n base code gain).length ≤ 20 ∧ Within mostA (brL n base code gain) ∧ ∀ y ∈ curSums (brL n base code gain), y.amt = 0 := by
  refine ⟨by simp [brL], by simp [brL], ?_, ?_⟩
  · intro x hx
    simp only [brL, List.mem_cons, List.not_mem_nil, or_false] at hx
    rcases hx with rfl | rfl
    · exact h
    · show -mostA ≤ -n ∧ -n ≤ mostA
      omega
  · have key : ∀ p' : Ln → Bool, KeyP p' → tot p' ((brL n base code gain).map bareL) = 0 := fun p' hp => by
      have e : (brL n base code gain).map bareL = [bareL ⟨code, base, n⟩] ++ [bareL ⟨code, base, n⟩].map turnL := rfl
      rw [e, tot_append, tot_turn hp]; omega
    exact grp_null.2 key
theorem rvTo_mem {f : Bl → Int} {base gain : ByteArray} {b : List Bl} {en pe : Int} {c : List Ac} {n : Nat} {x : Ep} (h : x ∈ rvTo f base gain b en pe c n) : ∃ k, k < n ∧ (c.getD k ac0).mon = true ∧ x.ent = en ∧ x.lns = brL (acAmt f base b en (c.getD k ac0)) base (c.getD k ac0).code gain := by
  obtain ⟨k, hk, hx⟩ := List.mem_flatMap.1 h
  refine ⟨k, List.mem_range.1 hk, ?_⟩
  unfold acE at hx
  split at hx
  · rename_i hh
    rw [List.mem_singleton] at hx
    subst hx
    exact ⟨hh.1, rfl, rfl⟩
  · cases hx
theorem rv_even {S : Int × DataW Unit} {c : List Ac} {base gain : ByteArray} {b : List Bl} {en pe : Int} (h : rvBad S c base gain b en pe = 0) {L : List Je} (hL : L.map Je.ep = rvTo (wV S base en pe) base gain b en pe c c.length) : (∀ x ∈ L, x.ent = en) ∧ ∀ x ∈ L, 0 < x.lns.length ∧ x.lns.length ≤ 20 ∧ Within mostA x.lns ∧ ∀ y ∈ curSums x.lns, y.amt = 0 := by
  have key : ∀ x ∈ L, ∃ k, k < c.length ∧ (c.getD k ac0).mon = true ∧ x.ent = en ∧ x.lns = brL (acAmt (wV S base en pe) base b en (c.getD k ac0)) base (c.getD k ac0).code gain := fun x hx => by
    have hm : x.ep ∈ rvTo (wV S base en pe) base gain b en pe c c.length := by rw [← hL]; exact List.mem_map_of_mem hx
    exact rvTo_mem hm
  obtain ⟨_, _, _, _, _, h6⟩ := rvBad_ok.1 h
  refine ⟨fun x hx => (key x hx).choose_spec.2.2.1, fun x hx => ?_⟩
  obtain ⟨k, hk, hm, _, e⟩ := key x hx
  rw [e]
  obtain ⟨q, _⟩ := amt_of_ok (h6 k hk) hm
  exact br_zero _ _ _ _ (by unfold mostA; exact q)
end Go.Proofs.Ytbbegoklikaphaa
