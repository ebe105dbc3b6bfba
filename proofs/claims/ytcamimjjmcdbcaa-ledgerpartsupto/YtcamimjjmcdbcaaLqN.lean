/-
  All balances are what each period brought: numbers alone, and the law's own entry.
-/
import Derived.Test.YtcamimjjmcdbcaaLoN
import Derived.Test.YtcamimjjmcdbcaaLd11
namespace Go.Proofs.Ytcamimjjmcdbcaa
set_option linter.unusedVariables false
set_option linter.unusedSimpArgs false
set_option maxRecDepth 100000
open Go.RowKit Go.Lib
theorem tot_flat_or {p q r : Je → Bool} (k : Pk) : ∀ L : List Je, (∀ x ∈ L, r x = (p x || q x) ∧ (p x && q x) = false) → tot k (flatB r L) = tot k (flatB p L) + tot k (flatB q L)
  | [], _ => rfl
  | x :: L, h => by
    have ih := tot_flat_or k L (fun y hy => h y (List.mem_cons_of_mem _ hy))
    obtain ⟨h1, h2⟩ := h x (List.mem_cons_self ..)
    unfold flatB at ih ⊢
    rw [List.filter_cons, List.filter_cons, List.filter_cons, h1]
    cases hp : p x
    · cases hq : q x
      · simpa [hp, hq] using ih
      · simp only [Bool.false_or, Bool.false_eq_true, if_false, if_true, List.flatMap_cons, tot_append]
        omega
    · cases hq : q x
      · simp only [Bool.or_false, Bool.false_eq_true, if_false, if_true, List.flatMap_cons, tot_append]
        omega
      · rw [hp, hq] at h2; cases h2
theorem flatB_congr {p q : Je → Bool} {L : List Je} (h : ∀ x ∈ L, p x = q x) : flatB p L = flatB q L := by
  unfold flatB
  rw [List.filter_congr h]
theorem flatB_none {p : Je → Bool} {L : List Je} (h : ∀ x ∈ L, p x = false) : flatB p L = [] := by
  unfold flatB
  have : L.filter p = [] := List.filter_eq_nil_iff.2 (fun x hx => by rw [h x hx]; simp)
  rw [this]
  rfl
/-- Entries of three entities and four periods. -/
def gd (x : Je) : Bool := decide ((1 ≤ x.ent ∧ x.ent ≤ 3) ∧ 1 ≤ x.per ∧ x.per ≤ 4)
/-- What lies ahead of an entity and a period. -/
def bef (i p : Int) (x : Je) : Bool := decide (x.ent < i ∨ (x.ent = i ∧ x.per < p))
theorem JsOk.sub {L M : List Je} (h : JsOk L) (hs : M.Sublist L) : JsOk M := by
  refine ⟨fun x hx => h.ent x (hs.mem hx), fun x hx => h.per x (hs.mem hx), fun x hx => h.lns x (hs.mem hx), ?_⟩
  have key : ∀ {M L : List Je}, M.Sublist L → (M.flatMap lnsB).length ≤ (L.flatMap lnsB).length := by
    intro M L hs
    induction hs with
    | slnil => exact Nat.le_refl _
    | cons x _ ih => rw [List.flatMap_cons, List.length_append]; omega
    | cons_cons x _ ih => rw [List.flatMap_cons, List.flatMap_cons, List.length_append, List.length_append]; omega
  exact Nat.le_trans (key hs) h.all
theorem gd_of {x : Je} (h : gd x = true) : (1 ≤ x.ent ∧ x.ent ≤ 3) ∧ 1 ≤ x.per ∧ x.per ≤ 4 := of_decide_eq_true h
theorem bef_step {G : List Je} (i p : Int) (k : Pk) : tot k (flatB (bef i (p + 1)) G) = tot k (flatB (bef i p) G) + tot k (flatB (ofBoth i p) G) :=
  tot_flat_or k G (fun x hx => by
    unfold bef ofBoth
    by_cases h1 : x.ent < i ∨ (x.ent = i ∧ x.per < p)
    · have h2 : ¬ (x.ent = i ∧ x.per = p) := by omega
      have h3 : x.ent < i ∨ (x.ent = i ∧ x.per < p + 1) := by omega
      simp [decide_eq_true h1, decide_eq_false h2, decide_eq_true h3]
    · by_cases h2 : x.ent = i ∧ x.per = p
      · have h3 : x.ent < i ∨ (x.ent = i ∧ x.per < p + 1) := by omega
        simp [decide_eq_false h1, decide_eq_true h2, decide_eq_true h3]
      · have h3 : ¬ (x.ent < i ∨ (x.ent = i ∧ x.per < p + 1)) := by omega
        simp [decide_eq_false h1, decide_eq_false h2, decide_eq_false h3])
theorem bef_turn {G : List Je} (hG : ∀ x ∈ G, gd x = true) (i : Int) : flatB (bef i 5) G = flatB (bef (i + 1) 1) G := flatB_congr (fun x hx => by
  have h := gd_of (hG x hx)
  unfold bef
  rw [decide_eq_decide]
  omega)
theorem bef_first {G : List Je} (hG : ∀ x ∈ G, gd x = true) : flatB (bef 1 1) G = [] := flatB_none (fun x hx => by
  have h := gd_of (hG x hx)
  unfold bef
  exact decide_eq_false (by omega))
theorem bef_last {G : List Je} (hG : ∀ x ∈ G, gd x = true) : flatB (bef 4 1) G = flatB (upTo 4) G := flatB_congr (fun x hx => by
  have h := gd_of (hG x hx)
  unfold bef upTo
  rw [decide_eq_decide]
  omega)
theorem up_none {G : List Je} (hG : ∀ x ∈ G, gd x = true) : flatB (upTo 0) G = [] := flatB_none (fun x hx => by
  have h := gd_of (hG x hx)
  unfold upTo
  exact decide_eq_false (by omega))
theorem oe_none {p q : Je → Bool} {G : List Je} (h : oeE q G = 0) (hp : flatB p G = []) : oeE p G = 0 := by
  unfold oeE at h ⊢
  by_cases hc : ceE G = 0
  · rw [if_neg (by simp [hc]), hp]; rfl
  · rw [if_pos hc] at h; exact absurd h hc
theorem oer_none {p : Je → Bool} {G : List Je} {R : List Bl} (h : OeR p G R) (hp : flatB p G = []) : R = [] := by
  have h0 : Sums [] [] := ⟨.nil, by simp, fun _ => rfl⟩
  have := h.sums
  rw [hp] at this
  exact this.uniq h0 (fun _ => rfl)
/-- All that was merged so far. -/
structure AllS (G : List Je) (i p : Int) (A : List Bl) : Prop where
  sums : Sums (flatB (bef i p) G) A
  len : A.length ≤ 200
  ok : ∀ x ∈ A, BlOk x
theorem AllS.step {G : List Je} {i p : Int} {A T M : List Bl} (hG : ∀ x ∈ G, gd x = true) (h : AllS G i p A) (ht : OeR (ofBoth i p) G T) (hm : MgR A T M) : AllS G i (p + 1) M :=
  ⟨⟨hm.sums.rises, hm.sums.ne, fun k => by rw [hm.sums.tot, tot_append, h.sums.tot, ht.sums.tot, bef_step]⟩, hm.len, hm.ok⟩
theorem AllS.turn {G : List Je} {i : Int} {A : List Bl} (hG : ∀ x ∈ G, gd x = true) (h : AllS G i 5 A) : AllS G (i + 1) 1 A := ⟨by rw [← bef_turn hG]; exact h.sums, h.len, h.ok⟩
theorem AllS.first {G : List Je} (hG : ∀ x ∈ G, gd x = true) : AllS G 1 1 [] := ⟨by rw [bef_first hG]; exact ⟨.nil, by simp, fun _ => rfl⟩, by simp, by simp⟩
theorem AllS.last {G : List Je} {A R : List Bl} (hG : ∀ x ∈ G, gd x = true) (h : AllS G 4 1 A) (hr : OeR (upTo 4) G R) : A = R :=
  h.sums.uniq hr.sums (fun k => by rw [bef_last hG])
/-- The law's own entry. -/
def lqE (a : Option Addr) (c : Nat) : Je := ⟨⟨#[97]⟩, 2, 3, a, c, [⟨⟨#[49, 48]⟩, ⟨#[69, 85, 82]⟩, 5⟩, ⟨⟨#[50, 48]⟩, ⟨#[69, 85, 82]⟩, -5⟩]⟩
def lqR : List Bl := [⟨2, ⟨#[49, 48]⟩, ⟨#[69, 85, 82]⟩, 5⟩, ⟨2, ⟨#[50, 48]⟩, ⟨#[69, 85, 82]⟩, -5⟩]
theorem lq_flat (a : Option Addr) (c : Nat) : flatB (ofBoth 2 3) [lqE a c] = lqR := rfl
theorem lq_parts : tgE (parts lqR) = 0 := by decide +kernel
theorem lq_oe (a : Option Addr) (c : Nat) : oeE (ofBoth 2 3) [lqE a c] = 0 := by
  unfold oeE
  rw [lq_flat, lq_parts]
  have : ceE [lqE a c] = 0 := rfl
  rw [this]
  rfl
theorem lq_rises : Rises lqR := List.pairwise_cons.2 ⟨fun y hy => by rw [List.mem_singleton.1 hy]; decide +kernel, List.pairwise_singleton _ _⟩
theorem lq_len {a : Option Addr} {c : Nat} {R : List Bl} (h : OeR (ofBoth 2 3) [lqE a c] R) : R.length = 2 := by
  have h0 : Sums lqR lqR := ⟨lq_rises, by decide +kernel, fun _ => rfl⟩
  have h1 := h.sums
  rw [lq_flat] at h1
  rw [h1.uniq h0 (fun _ => rfl)]
  rfl
theorem lq_ok (a : Option Addr) (c : Nat) : JsOk [lqE a c] := by
  refine ⟨fun x hx => ?_, fun x hx => ?_, fun x hx n hn => ?_, ?_⟩
  · rw [List.mem_singleton.1 hx]; show (-9223372036854775808 : Int) ≤ 2 ∧ (2 : Int) ≤ 9223372036854775807; decide
  · rw [List.mem_singleton.1 hx]; show (-9223372036854775808 : Int) ≤ 3 ∧ (3 : Int) ≤ 9223372036854775807; decide
  · rw [List.mem_singleton.1 hx] at hn
    simp only [lqE, List.mem_cons, List.not_mem_nil, or_false] at hn
    rcases hn with rfl | rfl
    · exact ⟨by decide, by decide⟩
    · exact ⟨by decide, by decide⟩
  · show (2 : Nat) ≤ 17592186044400; decide
theorem ld_pair_new (W : World) (x0 x1 y0 y1 : ByteArray) (x2 y2 : Int) (b : Nat) (hb : b = W.heap.size) : IsLn (W.alloc (.cells #[.string x0, .string x1, .int .i64 x2, .string y0, .string y1, .int .i64 y2] 52)) (some ⟨b, 0, none⟩) [⟨x0, x1, x2⟩, ⟨y0, y1, y2⟩] 2 := by
  have h := ld_new_heap W (.cells #[.string x0, .string x1, .int .i64 x2, .string y0, .string y1, .int .i64 y2] 52)
  rw [← hb] at h
  generalize W.alloc (.cells #[.string x0, .string x1, .int .i64 x2, .string y0, .string y1, .int .i64 y2] 52) = V at *
  refine ⟨Nat.le_refl _, .inr ⟨b, 0, rfl, (Array.getElem?_eq_some_iff.1 h).1, fun k hk => ?_⟩⟩
  rcases (by simp at hk; omega : k = 0 ∨ k = 1) with rfl | rfl
  · exact ⟨by simp [World.cell?, h], by simp [World.cell?, h], by simp [World.cell?, h]⟩
  · exact ⟨by simp [World.cell?, h], by simp [World.cell?, h], by simp [World.cell?, h]⟩
theorem ld_two_any (ref : ByteArray) (en pe : Int) (dr cr : ByteArray) (n : Int) (w : World) (hn : IntKind.i64.wrap (-n) = -n) :
    Calls Try.prog 8 #[.string ref, .int .i64 en, .int .i64 pe, .string dr, .string cr, .int .i64 n] w fun e w' => ∃ a cap, e = .returned (.agg #[.string ref, .int .i64 en, .int .i64 pe, .slice a 2 cap]) ∧ IsLn w' a [⟨dr, ⟨#[69, 85, 82]⟩, n⟩, ⟨cr, ⟨#[69, 85, 82]⟩, -n⟩] cap ∧ Below w.heap.size w w' := by
  go_enter Try.func8, Try.ntmps8
  go_wp2
  have d0 : ((w.alloc (.cells #[.string ref, .int .i64 en, .int .i64 pe, .slice (some ⟨w.heap.size + 1, 0, none⟩) 2 2] 35)).alloc (.cells #[.string dr, .string ⟨#[69, 85, 82]⟩, .int .i64 n, .string cr, .string ⟨#[69, 85, 82]⟩, .int .i64 (-n)] 52)).heap[w.heap.size]? = some (.cells #[.string ref, .int .i64 en, .int .i64 pe, .slice (some ⟨w.heap.size + 1, 0, none⟩) 2 2] 35 (0, 0)) := ((World.grownBy_alloc _ _ none).block w.heap.size (by simp) (by simp)).trans (ld_new_heap w _)
  generalize hX : (w.alloc (.cells #[.string ref, .int .i64 en, .int .i64 pe, .slice (some ⟨w.heap.size + 1, 0, none⟩) 2 2] 35)).alloc (.cells #[.string dr, .string ⟨#[69, 85, 82]⟩, .int .i64 n, .string cr, .string ⟨#[69, 85, 82]⟩, .int .i64 (-n)] 52) = X at *
  have q0 : X.cell? ⟨w.heap.size, 0, none⟩ = some (.string ref) := by simp [World.cell?, d0]
  have q1 : X.cell? ⟨w.heap.size, 1, none⟩ = some (.int .i64 en) := by simp [World.cell?, d0]
  have q2 : X.cell? ⟨w.heap.size, 2, none⟩ = some (.int .i64 pe) := by simp [World.cell?, d0]
  have q3 : X.cell? ⟨w.heap.size, 3, none⟩ = some (.slice (some ⟨w.heap.size + 1, 0, none⟩) 2 2) := by simp [World.cell?, d0]
  have hI : IsLn X (some ⟨w.heap.size + 1, 0, none⟩) [⟨dr, ⟨#[69, 85, 82]⟩, n⟩, ⟨cr, ⟨#[69, 85, 82]⟩, -n⟩] 2 := by
    rw [← hX]
    exact ld_pair_new _ _ _ _ _ _ _ _ (by simp)
  have hB : Below w.heap.size w X := by
    rw [← hX]
    exact ((Below.refl _ w).alloc (Nat.le_refl _) _).alloc (by simp) _
  exact bodyPost_ret (v := .agg #[.string ref, .int .i64 en, .int .i64 pe, .slice (some ⟨w.heap.size + 1, 0, none⟩) 2 2]) (by simp [results, Try.results8, go_sem, q0, q1, q2, q3]) rfl ⟨_, _, rfl, hI, hB⟩
/-- An entry of one's own as a list. -/
theorem isJs_new {W : World} {b : Nat} {x : Je} (h : W.heap[b]? = some (.cells x.cells 35 (0, 0))) (hl : IsLn W x.adr x.lns x.cap) : IsJs W (some ⟨b, 0, none⟩) [x] 1 := by
  refine ⟨Nat.le_refl _, .inr ⟨b, 0, rfl, (Array.getElem?_eq_some_iff.1 h).1, fun k hk => ?_⟩, fun y hy => by rw [List.mem_singleton.1 hy]; exact hl⟩
  have e : k = 0 := by simp at hk; omega
  subst e
  simp only [List.getD_cons_zero]
  exact ⟨by simp [World.cell?, h, Je.cells], by simp [World.cell?, h, Je.cells], by simp [World.cell?, h, Je.cells], by simp [World.cell?, h, Je.cells]⟩
theorem JeRow.isJs {W : World} {n : Nat} {v : Value} {l : List Je} (h : JeRow W n v l) (hl : ∀ x ∈ l, IsLn W x.adr x.lns x.cap) : ∃ a cap, v = .slice a l.length cap ∧ IsJs W a l cap := by
  obtain ⟨a, cap, rfl, h1, h2⟩ := h.lies
  exact ⟨a, cap, rfl, h1, h2, hl⟩
end Go.Proofs.Ytcamimjjmcdbcaa
