/-
  slices.ContainsFunc over balances; what Merge makes of two lists.
-/
import Derived.Test.YtcamimjjmcdbcaaLd6
namespace Go.Proofs.Ytcamimjjmcdbcaa
set_option linter.unusedVariables false
set_option linter.unusedSimpArgs false
set_option maxRecDepth 100000
open Go.RowKit Go.Lib
/-- The place of the first balance for which something holds, counted from a number on; else -1. -/
def bidxFrom (p : Bl → Bool) : Nat → List Bl → Int
  | _, [] => -1
  | k, a :: l => if p a = true then (k : Int) else bidxFrom p (k + 1) l
theorem bidx_any (p : Bl → Bool) : ∀ (l : List Bl) (k : Nat), decide (0 ≤ bidxFrom p k l) = l.any p
  | [], k => by simp [bidxFrom]
  | x :: l, k => by
    rw [bidxFrom]
    cases h : p x
    · rw [if_neg (by simp), bidx_any p l (k + 1)]; simp [h]
    · rw [if_pos rfl]; simp [h]
theorem bidx_spec (p : Bl → Bool) : ∀ (l : List Bl) (k : Nat), (bidxFrom p k l = -1 ∧ l.any p = false) ∨ ∃ j, j < l.length ∧ bidxFrom p k l = ((k + j : Nat) : Int) ∧ p (l.getD j bl0) = true ∧ (l.take j).any p = false
  | [], k => .inl ⟨rfl, rfl⟩
  | x :: l, k => by
    cases h : p x
    · rcases bidx_spec p l (k + 1) with ⟨e, ha⟩ | ⟨j, hj, e, hp, ha⟩
      · exact .inl ⟨by rw [bidxFrom, if_neg (by simp [h]), e], by simp [h, ha]⟩
      · exact .inr ⟨j + 1, by simpa using hj, by rw [bidxFrom, if_neg (by simp [h]), e]; congr 1; omega, by simpa using hp, by simp [h, ha]⟩
    · exact .inr ⟨0, by simp, by rw [bidxFrom, if_pos h]; simp, by simpa using h, by simp⟩

/-- What is asked of a function that is told a balance and says yes or no. -/
structure BTells (g : Nat) (p : Bl → Bool) : Prop where
  eg : ∀ args W, (callFunc g args).run Try.prog W = .ok (.enter g args) W
  call : ∀ (x : Bl) W, Calls Try.prog g #[.agg x.cells] W fun e w' => e = .returned (.bool (p x)) ∧ Below W.heap.size W w'

set_option maxHeartbeats 1000000 in
theorem blIdx_some (g : Nat) (p : Bl → Bool) (b off cap : Nat) (l : List Bl) (w : World) (hp : BTells g p) (hb : b < w.heap.size) (hlen : (l.length : Int) ≤ 9223372036854775807) (hc : BlsAt w b off l) :
    Calls Try.prog 22 #[.slice (some ⟨b, off, none⟩) l.length cap, .func (.func g) #[] #[]] w fun e w' => e = .returned (.int .i64 (bidxFrom p 0 l)) ∧ Below w.heap.size w w' := by
  have eg := hp.eg
  have Hp : Hid (BTells g p) := hp
  have Hc : Hid (BlsAt w b off l) := hc
  clear hp hc
  obtain ⟨res, hres⟩ : ∃ res, bidxFrom p 0 l = res := ⟨_, rfl⟩
  have Hres : Hid (bidxFrom p 0 l = res) := hres
  rw [hres]
  clear hres
  go_enter Try.func22, Try.ntmps22
  go_wp2
  go_loopw [8] (fun i wr => ∃ k : Nat, k ≤ l.length ∧ i = .int .i64 k ∧ Hid (bidxFrom p k (l.drop k) = res) ∧ Below w.heap.size w wr) (fun i _ => l.length - (intOf i).toNat)
  case atStart => exact ⟨0, Nat.zero_le _, rfl, Hres.out, Below.refl _ _⟩
  case round =>
    obtain ⟨k, hk, rfl, H, BW⟩ := hrel
    by_cases hlt : k < l.length
    · have hn := (Hc.out k hlt).below BW hb
      have hcall := Hp.out.call (l.getD k bl0) wr
      have E : Hid ((if p (l.getD k bl0) = true then (k : Int) else bidxFrom p (k + 1) (l.drop (k + 1))) = res) := by
        have := H.out
        rw [bls_drop l k hlt] at this
        exact this
      clear H
      generalize l.getD k bl0 = a at *
      obtain ⟨a0, a1, a2, a3⟩ := a
      obtain ⟨c0, c1, c2, c3⟩ := hn
      simp only [Bl.cells] at c0 c1 c2 c3 hcall
      have i0 : (0 : Int) ≤ k := by omega
      have i1 : (k : Int) < l.length := by omega
      cases hq : p ⟨a0, a1, a2, a3⟩
      · rw [hq] at hcall
        have HN : Hid (bidxFrom p (k + 1) (l.drop (k + 1)) = res) := by
          have := E.out; rw [if_neg (by rw [hq]; simp)] at this; exact this
        go_wp2_with (go_at_fn g; refine hcall.mono ?_; rintro e w' ⟨rfl, hb'⟩)
        go_roundw
        case rel => exact ⟨k + 1, by omega, by go_num, HN, BW.trans (hb'.mono BW.size)⟩
        case measure => simp [intOf]; omega
      · rw [hq] at hcall
        have er : res = k := by rw [← E.out, if_pos hq]
        subst er
        go_wp2_with (go_at_fn g; refine hcall.mono ?_; rintro e w' ⟨rfl, hb'⟩)
        go_ret
        exact ⟨rfl, BW.trans (hb'.mono BW.size)⟩
    · have hk2 : k = l.length := by omega
      subst hk2
      have er : res = -1 := by rw [← H.out, List.drop_length]; rfl
      subst er
      go_wp2
      go_ret
      exact ⟨rfl, BW⟩

theorem blIdx_none (a : Option Addr) (cap : Nat) (f : Value) (w : World) :
    Calls Try.prog 22 #[.slice a 0 cap, f] w fun e w' => e = .returned (.int .i64 (-1)) ∧ Below w.heap.size w w' := by
  go_enter Try.func22, Try.ntmps22
  go_wp2
  refine wp_loop_rounds 1 ?_
  rw [rounds_succ]
  go_wp2
  go_ret
  exact ⟨rfl, Below.refl _ _⟩

theorem blIdx_any (g : Nat) (p : Bl → Bool) (a : Option Addr) (cap : Nat) (l : List Bl) (w : World) (hp : BTells g p) (hlen : (l.length : Int) ≤ 9223372036854775807) (h : IsBl w a l cap) :
    Calls Try.prog 22 #[.slice a l.length cap, .func (.func g) #[] #[]] w fun e w' => e = .returned (.int .i64 (bidxFrom p 0 l)) ∧ Below w.heap.size w w' := by
  rcases h.lies with rfl | ⟨b, off, rfl, hlt, hc⟩
  · exact blIdx_none a cap _ w
  · exact blIdx_some g p b off cap l w hp hlt hlen hc

theorem blContains_any (g : Nat) (p : Bl → Bool) (a : Option Addr) (cap : Nat) (l : List Bl) (w : World) (hp : BTells g p) (hlen : (l.length : Int) ≤ 9223372036854775807) (h : IsBl w a l cap) :
    Calls Try.prog 13 #[.slice a l.length cap, .func (.func g) #[] #[]] w fun e w' => e = .returned (.bool (l.any p)) ∧ Below w.heap.size w w' := by
  rw [← bidx_any p l 0]
  have hI := blIdx_any g p a cap l w hp hlen h
  clear h
  go_enter Try.func13, Try.ntmps13
  go_wp2_with fail
  refine hI.mono ?_
  rintro e w' ⟨rfl, hb⟩
  go_wp2
  go_ret
  exact ⟨rfl, hb⟩


/-- A balance that is too great. -/
def tooB (x : Bl) : Bool := !decide (-1000000000000000000 ≤ x.amt ∧ x.amt ≤ 1000000000000000000)
theorem merge1_any (x : Bl) (w : World) :
    Calls Try.prog 14 #[.agg x.cells] w fun e w' => e = .returned (.bool (tooB x)) ∧ Below w.heap.size w w' := by
  obtain ⟨a0, a1, a2, a3⟩ := x
  simp only [Bl.cells, tooB]
  have HI : Hid (∀ W, Calls Try.prog 15 #[.int .i64 a3, .int .i64 1000000000000000000] W fun e w' => e = .returned (.bool (decide (-1000000000000000000 ≤ a3 ∧ a3 ≤ 1000000000000000000))) ∧ w' = W) := fun W => isWithin_any a3 1000000000000000000 (by decide) W
  generalize decide (-1000000000000000000 ≤ a3 ∧ a3 ≤ 1000000000000000000) = r at *
  go_enter Try.func14, Try.ntmps14
  go_wp2_with (go_at_call 15; refine (HI.out _).mono ?_; rintro e w' ⟨rfl, rfl⟩)
  go_ret
  exact ⟨rfl, (Below.refl _ w).alloc (Nat.le_refl _) _⟩
theorem merge1_tells : BTells 14 tooB :=
  ⟨fun args W => en_enters Try.func14 (by kernel_rfl) ⟨_, rfl⟩ args W, merge1_any⟩
/-- A balance as it can be in memory. -/
structure BlOk (x : Bl) : Prop where
  key : PkOk x.key
  amt : -9223372036854775808 ≤ x.amt ∧ x.amt ≤ 9223372036854775807
theorem addP_zs (x : Bl) (m : Nat) : ∀ ps : List Pt, (∀ p ∈ ps, p.zs.length ≤ m) → ∀ p ∈ addP ps x, p.zs.length ≤ m + 1
  | [], _, p, hp => by
    rw [addP, List.mem_singleton] at hp
    rw [hp]; simp
  | q :: ps, h, p, hp => by
    unfold addP at hp
    split at hp
    · rcases List.mem_cons.1 hp with rfl | hp
      · have := h q (List.mem_cons_self ..)
        simp; omega
      · have := h p (List.mem_cons_of_mem _ hp)
        omega
    · rcases List.mem_cons.1 hp with rfl | hp
      · have := h p (List.mem_cons_self ..)
        omega
      · exact addP_zs x m ps (fun q hq => h q (List.mem_cons_of_mem _ hq)) p hp
theorem parts_zs (l : List Bl) : ∀ p ∈ parts l, p.zs.length ≤ l.length := by
  have key : ∀ (l : List Bl) (ps : List Pt) (m : Nat), (∀ p ∈ ps, p.zs.length ≤ m) → ∀ p ∈ l.foldl addP ps, p.zs.length ≤ m + l.length := by
    intro l
    induction l with
    | nil => intro ps m h; simpa using h
    | cons x l ih =>
      intro ps m h p hp
      have := ih (addP ps x) (m + 1) (addP_zs x m ps h) p hp
      simp only [List.length_cons]
      omega
  have := key l [] 0 (by simp)
  simpa [parts] using this
/-- All that comes of places is of a place, and what comes of it. -/
theorem sums_of_perm {l R : List Bl} (hr : Rises R) (hp : R.Perm (full ((parts l).map Pt.bal))) : Sums l R :=
  ⟨hr, fun x hx => full_ne _ x (hp.mem_iff.1 hx), fun k => by rw [tot_perm k hp, tot_full, tot_bal, parts_tot]⟩
theorem ok_of_perm {l R : List Bl} (hp : R.Perm (full ((parts l).map Pt.bal))) (hok : ∀ x ∈ l, BlOk x) (hi : ∀ p ∈ parts l, -9223372036854775808 ≤ p.zs.sum ∧ p.zs.sum ≤ 9223372036854775807) : ∀ x ∈ R, BlOk x := fun x hx => by
  have h1 := (List.mem_filter.1 (hp.mem_iff.1 hx)).1
  obtain ⟨p, hp1, rfl⟩ := List.mem_map.1 h1
  obtain ⟨y, hy, e⟩ := (parts_keys p.key l).1 (List.mem_map.2 ⟨p, hp1, rfl⟩)
  exact ⟨by rw [bal_key, ← e]; exact (hok y hy).key, hi p hp1⟩
theorem len_of_perm {l R : List Bl} (hp : R.Perm (full ((parts l).map Pt.bal))) : R.length ≤ (parts l).length := by
  rw [hp.length_eq]
  have := full_len ((parts l).map Pt.bal)
  simpa using this
/-- What comes of two lists. -/
structure MgR (a b R : List Bl) : Prop where
  sums : Sums (a ++ b) R
  len : R.length ≤ 200
  ok : ∀ x ∈ R, BlOk x
/-- Of two right lists, no place has more than two amounts. -/
theorem tot_abs {l : List Bl} (h : Fine l) (k : Pk) : -1000000000000000000 ≤ tot k l ∧ tot k l ≤ 1000000000000000000 := by
  by_cases e : tot k l = 0
  · rw [e]; omega
  · obtain ⟨x, hx, rfl⟩ := tot_ex e
    rw [tot_mem h.rises x hx]
    exact h.amt x hx
theorem two_fit {a b : List Bl} (ha : Fine a) (hb : Fine b) : ∀ p ∈ parts (a ++ b), -9223372036854775808 ≤ p.zs.sum ∧ p.zs.sum ≤ 9223372036854775807 :=
  (parts_all (l := a ++ b) (P := fun z => -9223372036854775808 ≤ z ∧ z ≤ 9223372036854775807)).2 (fun x _ => by
    rw [tot_append]
    have h1 := tot_abs ha x.key
    have h2 := tot_abs hb x.key
    omega)
theorem tgE_two {a b : List Bl} (ha : Fine a) (hb : Fine b) : tgE (parts (a ++ b)) = if 200 < (parts (a ++ b)).length then 4 else 0 := by
  unfold tgE
  split
  · rfl
  · rw [if_pos (List.all_eq_true.2 (fun p hp => decide_eq_true (two_fit ha hb p hp)))]
/-- Something is too great. -/
theorem any_too {l R : List Bl} (hp : R.Perm (full ((parts l).map Pt.bal))) : R.any tooB = true ↔ ¬ (parts l).all (fun p => decide (-1000000000000000000 ≤ p.zs.sum ∧ p.zs.sum ≤ 1000000000000000000)) = true := by
  rw [List.all_eq_true]
  constructor
  · intro h h2
    obtain ⟨x, hx, hx2⟩ := List.any_eq_true.1 h
    obtain ⟨p, hp1, rfl⟩ := List.mem_map.1 (List.mem_filter.1 (hp.mem_iff.1 hx)).1
    have := h2 p hp1
    unfold tooB at hx2
    have e : p.bal.amt = p.zs.sum := rfl
    rw [e, this] at hx2
    cases hx2
  · intro h
    false_or_by_contra
    rename_i hn
    refine h (fun p hp1 => ?_)
    false_or_by_contra
    rename_i hn2
    refine hn (List.any_eq_true.2 ⟨p.bal, hp.mem_iff.2 (List.mem_filter.2 ⟨List.mem_map.2 ⟨p, hp1, rfl⟩, ?_⟩), ?_⟩)
    · have e : p.bal.amt = p.zs.sum := rfl
      by_cases h0 : p.zs.sum = 0
      · exact absurd (decide_eq_true (by rw [h0]; omega)) hn2
      · simp [e, h0]
    · unfold tooB
      have e : p.bal.amt = p.zs.sum := rfl
      rw [e]
      have h2 : decide (-1000000000000000000 ≤ p.zs.sum ∧ p.zs.sum ≤ 1000000000000000000) = false := by
        cases hq : decide (-1000000000000000000 ≤ p.zs.sum ∧ p.zs.sum ≤ 1000000000000000000)
        · rfl
        · exact absurd hq hn2
      rw [h2]
      rfl
end Go.Proofs.Ytcamimjjmcdbcaa
