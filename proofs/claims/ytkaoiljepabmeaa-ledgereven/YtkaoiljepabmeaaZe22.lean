/-
  Balances are even: numbers alone, and the law's own entry.
-/
import Derived.Test.YtkaoiljepabmeaaZe17
import Derived.Test.YtkaoiljepabmeaaZe8
import Derived.Test.YtkaoiljepabmeaaZe21
namespace Go.Proofs.Ytkaoiljepabmeaa
set_option linter.unusedVariables false
set_option linter.unusedSimpArgs false
set_option maxRecDepth 100000
open Go.RowKit Go.Lib
/-- All of an entity and a currency. -/
def eSum (ent : Int) (cur : ByteArray) : List Bl → Int
  | [] => 0
  | x :: l => (if x.ent = ent ∧ x.cur = cur then x.amt else 0) + eSum ent cur l
theorem eSum_append (ent : Int) (cur : ByteArray) : ∀ l m : List Bl, eSum ent cur (l ++ m) = eSum ent cur l + eSum ent cur m
  | [], m => by simp [eSum]
  | x :: l, m => by rw [List.cons_append, eSum, eSum, eSum_append ent cur l m]; omega
theorem eSum_neg (ent : Int) (cur : ByteArray) : ∀ l : List Bl, eSum ent cur (negL l) = - eSum ent cur l
  | [] => rfl
  | x :: l => by
    have ih := eSum_neg ent cur l
    unfold negL at ih ⊢
    rw [List.map_cons, eSum, eSum, ih]
    have e1 : x.neg.ent = x.ent := rfl
    have e2 : x.neg.cur = x.cur := rfl
    have e3 : x.neg.amt = -x.amt := rfl
    rw [e1, e2, e3]
    split <;> omega
/-- Without a place. -/
def offK (k : Pk) (l : List Bl) : List Bl := l.filter fun x => decide (x.key ≠ k)
theorem offK_tot (k q : Pk) : ∀ l : List Bl, ltot q (offK k l) = if q = k then 0 else ltot q l
  | [] => by simp [offK, ltot]
  | x :: l => by
    have ih := offK_tot k q l
    unfold offK at ih ⊢
    rw [List.filter_cons]
    by_cases h : x.key = k
    · rw [if_neg (by simp [h]), ih, ltot]
      by_cases hq : q = k
      · rw [if_pos hq, if_pos hq]
      · rw [if_neg hq, if_neg hq, if_neg (fun e => hq (by rw [← e, h]))]; omega
    · rw [if_pos (by simp [h]), ltot, ltot, ih]
      by_cases hq : q = k
      · rw [if_pos hq, if_pos hq, if_neg (fun e => h (by rw [e, hq]))]; omega
      · rw [if_neg hq, if_neg hq]
theorem offK_sum (ent : Int) (cur : ByteArray) (k : Pk) : ∀ l : List Bl, eSum ent cur l = eSum ent cur (offK k l) + if k.1 = ent ∧ k.2.2 = cur then ltot k l else 0
  | [] => by simp [offK, eSum, ltot]
  | x :: l => by
    have ih := offK_sum ent cur k l
    unfold offK at ih ⊢
    by_cases h : x.key = k
    · have e1 : x.ent = k.1 := by rw [← h]; rfl
      have e2 : x.cur = k.2.2 := by rw [← h]; rfl
      rw [List.filter_cons_of_neg (by simp [h]), eSum, ltot, if_pos h, ih, e1, e2]
      split <;> omega
    · rw [List.filter_cons_of_pos (by simp [h]), eSum, eSum, ltot, if_neg h, ih]
      split <;> split <;> omega
theorem offK_len (k : Pk) (x : Bl) (l : List Bl) (h : x.key = k) : (offK k (x :: l)).length ≤ l.length := by
  unfold offK
  rw [List.filter_cons, if_neg (by simp [h])]
  exact List.length_filter_le _ _
theorem eSum_zero (ent : Int) (cur : ByteArray) : ∀ (n : Nat) (l : List Bl), l.length ≤ n → (∀ k, ltot k l = 0) → eSum ent cur l = 0
  | 0, l, h, _ => by
    have : l = [] := List.eq_nil_of_length_eq_zero (by omega)
    rw [this]; rfl
  | n + 1, [], _, _ => rfl
  | n + 1, x :: l, h, hz => by
    rw [offK_sum ent cur x.key, hz x.key]
    have h1 := offK_len x.key x l rfl
    simp only [List.length_cons] at h
    rw [eSum_zero ent cur n (offK x.key (x :: l)) (by omega) (fun k => by rw [offK_tot]; split; rfl; exact hz k)]
    simp
/-- What each place has is all of an entity and a currency. -/
theorem eSum_eq {l m : List Bl} (h : ∀ k, ltot k l = ltot k m) (ent : Int) (cur : ByteArray) : eSum ent cur l = eSum ent cur m := by
  have := eSum_zero ent cur _ (l ++ negL m) (Nat.le_refl _) (fun k => by rw [ltot_append, neg_tot, h]; omega)
  rw [eSum_append, eSum_neg] at this
  omega
theorem eSum_take (ent : Int) (cur : ByteArray) (l : List Bl) (k : Nat) (h : k < l.length) : eSum ent cur (l.take (k + 1)) = eSum ent cur (l.take k) + if (l.getD k bl0).ent = ent ∧ (l.getD k bl0).cur = cur then (l.getD k bl0).amt else 0 := by
  rw [bls_take l k h, eSum_append]
  simp [eSum]
def ldCurP (cur : ByteArray) (x : Ln) : Bool := x.cur.toList == cur.toList
theorem even_cur {l : List Ln} (h4 : evenL l) (cur : ByteArray) : tot (ldCurP cur) l = 0 := by
  have hk : KeyP (ldCurP cur) := fun a b hab => by
    have := (lnEq_iff.1 hab).2
    unfold ldCurP
    rw [this]
  have h5 := h4 (ldCurP cur) hk
  have h6 : ∀ l : List Ln, tot (ldCurP cur) (l.map bareL) = tot (ldCurP cur) l := fun l => by
    induction l with
    | nil => rfl
    | cons z l ih =>
      simp only [List.map_cons, tot, ih]
      rfl
  rw [h6] at h5
  exact h5
theorem lns_sum (ent : Int) (cur : ByteArray) (x : Je) : eSum ent cur (lnsB x) = if x.ent = ent then tot (ldCurP cur) x.lns else 0 := by
  obtain ⟨r, en, pe, a, c, l⟩ := x
  simp only [lnsB]
  induction l with
  | nil => simp [eSum, tot]
  | cons y l ih =>
    rw [List.map_cons, eSum, ih, tot]
    by_cases h1 : en = ent
    · rw [if_pos h1, if_pos h1]
      by_cases h2 : y.cur = cur
      · rw [if_pos ⟨h1, h2⟩, if_pos (by unfold ldCurP; rw [h2]; simp)]
      · rw [if_neg (fun h => h2 h.2), if_neg (by unfold ldCurP; rw [beq_iff_eq]; exact fun e => h2 (toList_inj e))]
    · rw [if_neg h1, if_neg h1, if_neg (fun h => h1 h.1)]
      rfl
/-- An entry that is right. -/
def okJ (c : List Ac) (x : Je) : Bool := decide (entBad c x.ref x.ent x.per x.lns = 0)
structure GoodJ (G : List Je) : Prop where
  ent : ∀ x ∈ G, 1 ≤ x.ent ∧ x.ent ≤ 12
  per : ∀ x ∈ G, 1 ≤ x.per ∧ x.per ≤ 120
  few : ∀ x ∈ G, x.lns.length ≤ 20
  even : ∀ x ∈ G, evenL x.lns
theorem good_of {c : List Ac} {G : List Je} (h : ∀ x ∈ G, okJ c x = true) : GoodJ G := by
  have key : ∀ x ∈ G, (1 ≤ x.ent ∧ x.ent ≤ 12) ∧ (1 ≤ x.per ∧ x.per ≤ 120) ∧ x.lns.length ≤ 20 ∧ evenL x.lns := fun x hx => by
    obtain ⟨_, h2, _, h4⟩ := entBad_zero.1 (of_decide_eq_true (h x hx))
    unfold headBad at h2
    split at h2
    · omega
    · split at h2
      · omega
      · rename_i _ h3
        split at h2
        · omega
        · split at h2
          · omega
          · have h5 : ¬ upTo x.ent 12 = false := fun e => h3 (.inl e)
            have h6 : ¬ upTo x.per 120 = false := fun e => h3 (.inr e)
            unfold upTo at h5 h6
            simp only [Bool.and_eq_false_iff, decide_eq_false_iff_not, not_or, Classical.not_not] at h5 h6
            exact ⟨h5, h6, by omega, h4⟩
  exact ⟨fun x hx => (key x hx).1, fun x hx => (key x hx).2.1, fun x hx => (key x hx).2.2.1, fun x hx => (key x hx).2.2.2⟩
theorem GoodJ.all {G : List Je} (h : GoodJ G) : (G.flatMap lnsB).length ≤ 20 * G.length := by
  have key : ∀ G : List Je, (∀ x ∈ G, x.lns.length ≤ 20) → (G.flatMap lnsB).length ≤ 20 * G.length := by
    intro G
    induction G with
    | nil => intro _; simp
    | cons x G ih =>
      intro h
      have h1 := ih (fun y hy => h y (List.mem_cons_of_mem _ hy))
      have h2 := h x (List.mem_cons_self ..)
      rw [List.flatMap_cons, List.length_append, lnsB_length, List.length_cons]
      omega
  exact key G h.few
/-- Of right entries all of an entity and a currency is nothing. -/
theorem even_flat {p : Je → Bool} (ent : Int) (cur : ByteArray) : ∀ {G : List Je}, (∀ x ∈ G, evenL x.lns) → eSum ent cur (flatB p G) = 0
  | [], _ => rfl
  | x :: G, h => by
    have ih := even_flat (p := p) ent cur (G := G) (fun y hy => h y (List.mem_cons_of_mem _ hy))
    unfold flatB at ih ⊢
    rw [List.filter_cons]
    split
    · rw [List.flatMap_cons, eSum_append, ih, lns_sum, even_cur (h x (List.mem_cons_self ..))]
      simp
    · exact ih
theorem oer_even {p : Je → Bool} {G : List Je} {R : List Bl} (h : OeR p G R) (hG : GoodJ G) (ent : Int) (cur : ByteArray) : eSum ent cur R = 0 := by
  rw [eSum_eq h.sums.ltot, even_flat ent cur hG.even]
/-- What is there up to the period ahead, and of some entities in the period. -/
def befE (per i : Int) (x : Je) : Bool := decide (x.per ≤ per - 1 ∨ (x.per = per ∧ x.ent < i))
theorem befE_first {G : List Je} (hG : GoodJ G) (per : Int) : flatB (ldUpTo (per - 1)) G = flatB (befE per 1) G := flatB_congr (fun x hx => by
  have h := hG.ent x hx
  unfold ldUpTo befE
  rw [decide_eq_decide]
  omega)
theorem befE_last {G : List Je} (hG : GoodJ G) (per : Int) : flatB (befE per 13) G = flatB (ldUpTo per) G := flatB_congr (fun x hx => by
  have h := hG.ent x hx
  unfold ldUpTo befE
  rw [decide_eq_decide]
  omega)
theorem befE_step {G : List Je} (per i : Int) (k : Pk) : ltot k (flatB (befE per (i + 1)) G) = ltot k (flatB (befE per i) G) + ltot k (flatB (ofBoth i per) G) :=
  ltot_flat_or k G (fun x hx => by
    unfold befE ofBoth
    by_cases h1 : x.per ≤ per - 1 ∨ (x.per = per ∧ x.ent < i)
    · have h2 : ¬ (x.ent = i ∧ x.per = per) := by omega
      have h3 : x.per ≤ per - 1 ∨ (x.per = per ∧ x.ent < i + 1) := by omega
      simp [decide_eq_true h1, decide_eq_false h2, decide_eq_true h3]
    · by_cases h2 : x.ent = i ∧ x.per = per
      · have h3 : x.per ≤ per - 1 ∨ (x.per = per ∧ x.ent < i + 1) := by omega
        simp [decide_eq_false h1, decide_eq_true h2, decide_eq_true h3]
      · have h3 : ¬ (x.per ≤ per - 1 ∨ (x.per = per ∧ x.ent < i + 1)) := by omega
        simp [decide_eq_false h1, decide_eq_false h2, decide_eq_false h3])
theorem OeR.stepE {G : List Je} {per i : Int} {A T M : List Bl} (h : OeR (befE per i) G A) (ht : OeR (ofBoth i per) G T) (hm : MgR A T M) : OeR (befE per (i + 1)) G M :=
  ⟨⟨hm.sums.rises, hm.sums.ne, fun k => by rw [hm.sums.ltot, ltot_append, h.sums.ltot, ht.sums.ltot, befE_step]⟩, hm.len, hm.ok⟩
theorem OeR.congr {p q : Je → Bool} {G : List Je} {R : List Bl} (h : OeR p G R) (e : flatB p G = flatB q G) : OeR q G R := ⟨by rw [← e]; exact h.sums, h.len, h.ok⟩
theorem OeR.uniq {p q : Je → Bool} {G : List Je} {R S : List Bl} (h : OeR p G R) (k : OeR q G S) (e : flatB p G = flatB q G) : R = S := h.sums.uniq k.sums (fun _ => by rw [e])
theorem wrap_wrap (x y : Int) : IntKind.i64.wrap (IntKind.i64.wrap x + y) = IntKind.i64.wrap (x + y) := by
  simp only [IntKind.wrap, IntKind.bits, IntKind.signed]
  simp
  split <;> split <;> split <;> omega
theorem wrap64_zero : wrap64 0 = 0 := by unfold wrap64; omega
theorem eSum_start (ent : Int) (cur : ByteArray) (R : List Bl) : Value.int .i64 0 = Value.int .i64 (wrap64 (eSum ent cur (R.take 0))) := by
  rw [List.take_zero]
  show Value.int .i64 0 = Value.int .i64 (wrap64 0)
  rw [wrap64_zero]
theorem wrap64_twice (x y : Int) : wrap64 (wrap64 x + y) = wrap64 (x + y) := by
  unfold wrap64
  omega
/-- The law's own entry. -/
def leE (a : Option Addr) (c : Nat) : Je := ⟨⟨#[97]⟩, 1, 1, a, c, [⟨⟨#[49, 48]⟩, ⟨#[69, 85, 82]⟩, 5⟩, ⟨⟨#[52, 48]⟩, ⟨#[69, 85, 82]⟩, -5⟩]⟩
def leR : List Bl := [⟨1, ⟨#[49, 48]⟩, ⟨#[69, 85, 82]⟩, 5⟩, ⟨1, ⟨#[52, 48]⟩, ⟨#[69, 85, 82]⟩, -5⟩]
theorem le_flat (a : Option Addr) (c : Nat) : flatB (ldUpTo 1) [leE a c] = leR := rfl
theorem le_parts : tgE (parts leR) = 0 := by decide +kernel
theorem le_oe (a : Option Addr) (c : Nat) : oeE (ldUpTo 1) [leE a c] = 0 := by
  unfold oeE
  rw [le_flat, le_parts]
  have : ceE [leE a c] = 0 := rfl
  rw [this]
  rfl
theorem le_rises : Rises leR := List.pairwise_cons.2 ⟨fun y hy => by rw [List.mem_singleton.1 hy]; decide +kernel, List.pairwise_singleton _ _⟩
theorem le_eq {a : Option Addr} {c : Nat} {R : List Bl} (h : OeR (ldUpTo 1) [leE a c] R) : R = leR := by
  have h0 : Sums leR leR := ⟨le_rises, by decide +kernel, fun _ => rfl⟩
  have h1 := h.sums
  rw [le_flat] at h1
  exact h1.uniq h0 (fun _ => rfl)
theorem le_ok (a : Option Addr) (c : Nat) : JsOk [leE a c] := by
  refine ⟨fun x hx => ?_, fun x hx => ?_, fun x hx n hn => ?_, ?_⟩
  · rw [List.mem_singleton.1 hx]; show (-9223372036854775808 : Int) ≤ 1 ∧ (1 : Int) ≤ 9223372036854775807; decide
  · rw [List.mem_singleton.1 hx]; show (-9223372036854775808 : Int) ≤ 1 ∧ (1 : Int) ≤ 9223372036854775807; decide
  · rw [List.mem_singleton.1 hx] at hn
    simp only [leE, List.mem_cons, List.not_mem_nil, or_false] at hn
    rcases hn with rfl | rfl
    · exact ⟨by decide, by decide⟩
    · exact ⟨by decide, by decide⟩
  · show (2 : Nat) ≤ 17592186044400; decide
theorem ld_entry_any (ref : ByteArray) (en pe : Int) (dr cr cur : ByteArray) (n : Int) (w : World) (hn : IntKind.i64.wrap (-n) = -n) :
    Calls Try.prog 5 #[.string ref, .int .i64 en, .int .i64 pe, .string dr, .string cr, .string cur, .int .i64 n] w fun e w' => ∃ a cap, e = .returned (.agg #[.string ref, .int .i64 en, .int .i64 pe, .slice a 2 cap]) ∧ IsLn w' a [⟨dr, cur, n⟩, ⟨cr, cur, -n⟩] cap ∧ Below w.heap.size w w' := by
  go_enter Try.func5, Try.ntmps5
  go_wp2
  have d0 : ((w.alloc (.cells #[.string ref, .int .i64 en, .int .i64 pe, .slice (some ⟨w.heap.size + 1, 0, none⟩) 2 2] 31)).alloc (.cells #[.string dr, .string cur, .int .i64 n, .string cr, .string cur, .int .i64 (-n)] 43)).heap[w.heap.size]? = some (.cells #[.string ref, .int .i64 en, .int .i64 pe, .slice (some ⟨w.heap.size + 1, 0, none⟩) 2 2] 31 (0, 0)) := ((World.grownBy_alloc _ _ none).block w.heap.size (by simp) (by simp)).trans (ld_new_heap w _)
  generalize hX : (w.alloc (.cells #[.string ref, .int .i64 en, .int .i64 pe, .slice (some ⟨w.heap.size + 1, 0, none⟩) 2 2] 31)).alloc (.cells #[.string dr, .string cur, .int .i64 n, .string cr, .string cur, .int .i64 (-n)] 43) = X at *
  have q0 : X.cell? ⟨w.heap.size, 0, none⟩ = some (.string ref) := by simp [World.cell?, d0]
  have q1 : X.cell? ⟨w.heap.size, 1, none⟩ = some (.int .i64 en) := by simp [World.cell?, d0]
  have q2 : X.cell? ⟨w.heap.size, 2, none⟩ = some (.int .i64 pe) := by simp [World.cell?, d0]
  have q3 : X.cell? ⟨w.heap.size, 3, none⟩ = some (.slice (some ⟨w.heap.size + 1, 0, none⟩) 2 2) := by simp [World.cell?, d0]
  have hI : IsLn X (some ⟨w.heap.size + 1, 0, none⟩) [⟨dr, cur, n⟩, ⟨cr, cur, -n⟩] 2 := by
    rw [← hX]
    exact ld_pair_new _ _ _ _ _ _ _ _ (by simp)
  have hB : Below w.heap.size w X := by
    rw [← hX]
    exact ((Below.refl _ w).alloc (Nat.le_refl _) _).alloc (by simp) _
  exact bodyPost_ret (v := .agg #[.string ref, .int .i64 en, .int .i64 pe, .slice (some ⟨w.heap.size + 1, 0, none⟩) 2 2]) (by simp [results, Try.results5, go_sem, q0, q1, q2, q3]) rfl ⟨_, _, rfl, hI, hB⟩
theorem bls_src {W : World} {b off : Nat} {l : List Bl} (h : BlsAt W b off l) : ∀ j u, (blRow l)[j]? = some u → W.cell? ((⟨b, off, none⟩ : Addr).add j) = some u := by
  intro j u hj
  rw [Addr.add_lit]
  obtain ⟨q, r, hr, rfl⟩ : ∃ q r, r < 4 ∧ j = q * 4 + r := ⟨j / 4, j % 4, Nat.mod_lt _ (by omega), by omega⟩
  have hlt := (List.getElem?_eq_some_iff.1 hj).1
  rw [blRow_length] at hlt
  have hq : q < l.length := by omega
  rw [blRow_get l q r hq hr] at hj
  have := h q hq
  rcases (by omega : r = 0 ∨ r = 1 ∨ r = 2 ∨ r = 3) with rfl | rfl | rfl | rfl
  · rw [← hj, Nat.add_zero, this.c0]; rfl
  · rw [← hj, ← Nat.add_assoc, this.c1]; rfl
  · rw [← hj, ← Nat.add_assoc, this.c2]; rfl
  · rw [← hj, ← Nat.add_assoc, this.c3]; rfl
end Go.Proofs.Ytkaoiljepabmeaa
