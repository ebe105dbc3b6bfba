/-
  Merging is adding: numbers alone, and Merge's contract in two halves.
-/
import Derived.Test.YtcamimjjmcdbcaaLd8
namespace Go.Proofs.Ytcamimjjmcdbcaa
set_option linter.unusedVariables false
set_option linter.unusedSimpArgs false
set_option maxRecDepth 100000
open Go.RowKit Go.Lib
theorem merge_ok (a1 a2 : Option Addr) (c1 c2 : Nat) (a b : List Bl) (W : World) (ha : IsBl W a1 a c1) (hb : IsBl W a2 b c2) (oka : ∀ x ∈ a, BlOk x) (okb : ∀ x ∈ b, BlOk x) (h0 : mgE a b = 0) :
    Calls Try.prog 5 #[.slice a1 a.length c1, .slice a2 b.length c2] W fun e w' => ∃ sa sc R, e = .returned (.tuple #[.slice sa R.length sc, .nilIface]) ∧ Hid (Below W.heap.size W w' ∧ IsBl w' sa R sc ∧ MgR a b R) := by
  obtain ⟨fa, fb, _⟩ := mgE_zero.1 h0
  refine (merge_any a1 a2 c1 c2 a b W ha hb (by have := fa.len; omega) (by have := fb.len; omega) oka okb).mono ?_
  rintro e w' ⟨h1, _, h3⟩
  obtain ⟨v, R, rfl, h4⟩ := h3 h0
  obtain ⟨sa, sc, rfl, hI⟩ := h4.out.1.isBl
  exact ⟨sa, sc, R, rfl, h1, hI, h4.out.2⟩
theorem merge_bad (a1 a2 : Option Addr) (c1 c2 : Nat) (a b : List Bl) (W : World) (ha : IsBl W a1 a c1) (hb : IsBl W a2 b c2) (la : a.length ≤ 9223372036854775807) (lb : b.length ≤ 9223372036854775807) (oka : ∀ x ∈ a, BlOk x) (okb : ∀ x ∈ b, BlOk x) (h0 : mgE a b ≠ 0) :
    Calls Try.prog 5 #[.slice a1 a.length c1, .slice a2 b.length c2] W fun e w' => e = .returned (.tuple #[.slice none 0 0, .iface 48 (.int .i64 (mgE a b))]) ∧ Below W.heap.size W w' :=
  (merge_any a1 a2 c1 c2 a b W ha hb la lb oka okb).mono fun e w' ⟨h1, h2, _⟩ => ⟨by rw [h2 h0, enE_ne h0], h1⟩
theorem isBl_new {W : World} {b : Nat} {x : Bl} (h : W.heap[b]? = some (.cells x.cells 28 (0, 0))) : IsBl W (some ⟨b, 0, none⟩) [x] 1 := by
  refine ⟨Nat.le_refl _, .inr ⟨b, 0, rfl, (Array.getElem?_eq_some_iff.1 h).1, fun k hk => ?_⟩⟩
  have e : k = 0 := by simp at hk; omega
  subst e
  simp only [List.getD_cons_zero]
  exact ⟨by simp [World.cell?, h, Bl.cells], by simp [World.cell?, h, Bl.cells], by simp [World.cell?, h, Bl.cells], by simp [World.cell?, h, Bl.cells]⟩
theorem isBl_none (W : World) (a : Option Addr) (c : Nat) : IsBl W a [] c := ⟨Nat.zero_le _, .inl rfl⟩

theorem mg_comm {a b : List Bl} (h : mgE a b = 0) : mgE b a = 0 := by
  obtain ⟨fa, fb, h1, h2⟩ := mgE_zero.1 h
  refine mgE_zero.2 ⟨fb, fa, ?_, fun x hx => ?_⟩
  · rw [parts_count (l := b ++ a) (m := a ++ b) (fun k => by simp only [List.mem_append, or_comm])]
    exact h1
  · have := h2 x (by simp only [List.mem_append] at hx ⊢; exact hx.symm)
    rw [tot_append] at this ⊢
    omega
theorem mg_comm_eq {a b R S : List Bl} (h : MgR a b R) (k : MgR b a S) : R = S := h.sums.uniq k.sums (fun q => by rw [tot_append, tot_append]; omega)
theorem mg_nil {a : List Bl} (h : Fine a) : mgE a [] = 0 := by
  refine mgE_zero.2 ⟨h, ⟨by simp, .nil, by simp, by simp⟩, ?_, fun x hx => ?_⟩
  · have := parts_length (a ++ [])
    have := h.len
    simp at *
    omega
  · rw [List.append_nil]; exact tot_abs h x.key
theorem mg_nil_eq {a R : List Bl} (h : Fine a) (k : MgR a [] R) : R = a := k.sums.uniq h.sums (fun q => by rw [List.append_nil])
/-- A balance's contrary. -/
def Bl.neg (x : Bl) : Bl := ⟨x.ent, x.acc, x.cur, -x.amt⟩
def negL (l : List Bl) : List Bl := l.map Bl.neg
theorem negL_length (l : List Bl) : (negL l).length = l.length := by simp [negL]
theorem neg_fine {l : List Bl} (h : Fine l) : Fine (negL l) := by
  refine ⟨by rw [negL_length]; exact h.len, ?_, fun x hx => ?_, fun x hx => ?_⟩
  · unfold Rises negL
    rw [List.pairwise_map]
    exact h.rises
  · obtain ⟨y, hy, rfl⟩ := List.mem_map.1 hx
    have := h.amt y hy
    unfold Bl.neg
    simp only
    omega
  · obtain ⟨y, hy, rfl⟩ := List.mem_map.1 hx
    have := h.ne y hy
    unfold Bl.neg
    simp only
    omega
theorem neg_ok {l : List Bl} (h : Fine l) (hok : ∀ x ∈ l, BlOk x) : ∀ x ∈ negL l, BlOk x := fun x hx => by
  obtain ⟨y, hy, rfl⟩ := List.mem_map.1 hx
  have := h.amt y hy
  exact ⟨(hok y hy).key, by unfold Bl.neg; simp only; omega⟩
theorem neg_tot (k : Pk) : ∀ l : List Bl, tot k (negL l) = - tot k l
  | [] => rfl
  | x :: l => by
    have ih := neg_tot k l
    unfold negL at ih ⊢
    rw [List.map_cons, tot, tot, ih]
    have e : x.neg.key = x.key := rfl
    rw [e]
    split
    · unfold Bl.neg; simp only; omega
    · omega
theorem mg_neg {a : List Bl} (h : Fine a) : mgE a (negL a) = 0 := by
  refine mgE_zero.2 ⟨h, neg_fine h, ?_, fun x hx => ?_⟩
  · have e := parts_count (l := a ++ negL a) (m := a) (fun k => by
      constructor
      · rintro ⟨x, hx, rfl⟩
        rcases List.mem_append.1 hx with hx | hx
        · exact ⟨x, hx, rfl⟩
        · obtain ⟨y, hy, rfl⟩ := List.mem_map.1 hx
          exact ⟨y, hy, rfl⟩
      · rintro ⟨x, hx, rfl⟩
        exact ⟨x, List.mem_append_left _ hx, rfl⟩)
    rw [e]
    exact Nat.le_trans (parts_length a) h.len
  · rw [tot_append, neg_tot]; omega
theorem mg_neg_eq {a R : List Bl} (k : MgR a (negL a) R) : R = [] := by
  have h : Sums [] [] := ⟨.nil, by simp, fun _ => rfl⟩
  exact k.sums.uniq h (fun q => by rw [tot_append, neg_tot]; simp [tot]; omega)
theorem mg_assoc {a b c x q p r : List Bl} (hx : MgR a b x) (hp : MgR x c p) (hq : MgR b c q) (hr : MgR a q r) : p = r :=
  hp.sums.uniq hr.sums (fun k => by
    rw [tot_append, tot_append, hx.sums.tot, hq.sums.tot, tot_append, tot_append]
    omega)
/-- The law's own two. -/
def lo2 (n : Int) : Bl := ⟨1, ⟨#[49]⟩, ⟨#[69, 85, 82]⟩, n⟩
theorem lo_fine (n : Int) (h : 1 ≤ n ∧ n ≤ 5) : Fine [lo2 n] := ⟨by simp, List.pairwise_singleton _ _, by simp [lo2]; omega, by simp [lo2]; omega⟩
theorem lo_ok (n : Int) (h : 1 ≤ n ∧ n ≤ 5) : ∀ x ∈ [lo2 n], BlOk x := fun x hx => by
  rw [List.mem_singleton.1 hx]
  exact ⟨⟨by show (-9223372036854775808 : Int) ≤ 1 ∧ (1 : Int) ≤ 9223372036854775807; decide, by show ByteArray.size ⟨#[49]⟩ ≤ maxLen; decide, by show ByteArray.size ⟨#[69, 85, 82]⟩ ≤ maxLen; decide⟩, by simp [lo2]; omega⟩
theorem lo_tot (k : Pk) : tot k ([lo2 2] ++ [lo2 3]) = tot k [lo2 5] := by
  have e : ∀ n m, (lo2 n).key = (lo2 m).key := fun _ _ => rfl
  simp only [List.cons_append, List.nil_append, tot]
  rw [e 2 5, e 3 5]
  split <;> simp [lo2]
theorem lo_mg : mgE [lo2 2] [lo2 3] = 0 := by
  refine mgE_zero.2 ⟨lo_fine 2 (by omega), lo_fine 3 (by omega), ?_, fun x hx => ?_⟩
  · have := parts_length ([lo2 2] ++ [lo2 3])
    simp at *
    omega
  · rw [lo_tot]; exact tot_abs (lo_fine 5 (by omega)) _
theorem lo_eq {R : List Bl} (h : MgR [lo2 2] [lo2 3] R) : R = [lo2 5] := h.sums.uniq (lo_fine 5 (by omega)).sums lo_tot
theorem negL_take (l : List Bl) (k : Nat) (h : k < l.length) : negL (l.take (k + 1)) = negL (l.take k) ++ [(l.getD k bl0).neg] := by
  rw [bls_take l k h]
  simp [negL]
end Go.Proofs.Ytcamimjjmcdbcaa
