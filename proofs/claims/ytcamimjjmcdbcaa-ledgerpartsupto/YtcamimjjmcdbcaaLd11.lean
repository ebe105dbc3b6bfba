/-
  The contracts of ledger.Balances and ledger.Trial.
-/
import Derived.Test.YtcamimjjmcdbcaaLd10
namespace Go.Proofs.Ytcamimjjmcdbcaa
set_option linter.unusedVariables false
set_option linter.unusedSimpArgs false
set_option maxRecDepth 100000
open Go.RowKit Go.Lib
/-- Entries up to a period. -/
def upTo (per : Int) (x : Je) : Bool := decide (x.per ≤ per)
/-- Entries of an entity and a period. -/
def ofBoth (ent per : Int) (x : Je) : Bool := decide (x.ent = ent ∧ x.per = per)
theorem balances1_any (per : Int) (pb : Nat) (x : Je) (U : World) (h : U.cell? ⟨pb, 0, none⟩ = some (.int .i64 per)) :
    Calls Try.prog 18 #[.agg x.cells, .pointer (some ⟨pb, 0, none⟩)] U fun e w' => e = .returned (.bool (upTo per x)) ∧ Below U.heap.size U w' := by
  obtain ⟨x0, x1, x2, xa, xc, xl⟩ := x
  simp only [Je.cells, upTo]
  have hlt : pb < U.heap.size := World.block_lt_of_cell? _ _ h
  have h2 : (U.alloc (.cells #[.string x0, .int .i64 x1, .int .i64 x2, .slice xa xl.length xc] 35)).cell? ⟨pb, 0, none⟩ = some (.int .i64 per) := (World.cell?_alloc_lt _ _ _ hlt).trans h
  go_enter Try.func18, Try.ntmps18
  go_wp2
  go_ret
  exact ⟨rfl, (Below.refl _ _).alloc (Nat.le_refl _) _⟩
theorem trial1_any (ent per : Int) (eb pb : Nat) (x : Je) (U : World) (h1 : U.cell? ⟨eb, 0, none⟩ = some (.int .i64 ent)) (h2 : U.cell? ⟨pb, 0, none⟩ = some (.int .i64 per)) :
    Calls Try.prog 17 #[.agg x.cells, .pointer (some ⟨eb, 0, none⟩), .pointer (some ⟨pb, 0, none⟩)] U fun e w' => e = .returned (.bool (ofBoth ent per x)) ∧ Below U.heap.size U w' := by
  obtain ⟨x0, x1, x2, xa, xc, xl⟩ := x
  have l1 : eb < U.heap.size := World.block_lt_of_cell? _ _ h1
  have l2 : pb < U.heap.size := World.block_lt_of_cell? _ _ h2
  have h3 : (U.alloc (.cells #[.string x0, .int .i64 x1, .int .i64 x2, .slice xa xl.length xc] 35)).cell? ⟨eb, 0, none⟩ = some (.int .i64 ent) := (World.cell?_alloc_lt _ _ _ l1).trans h1
  have h4 : (U.alloc (.cells #[.string x0, .int .i64 x1, .int .i64 x2, .slice xa xl.length xc] 35)).cell? ⟨pb, 0, none⟩ = some (.int .i64 per) := (World.cell?_alloc_lt _ _ _ l2).trans h2
  have HB : Hid (Below U.heap.size U (U.alloc (.cells #[.string x0, .int .i64 x1, .int .i64 x2, .slice xa xl.length xc] 35))) := (Below.refl _ _).alloc (Nat.le_refl _) _
  by_cases c1 : x1 = ent
  · by_cases c2 : x2 = per
    · have e : ofBoth ent per ⟨x0, x1, x2, xa, xc, xl⟩ = true := decide_eq_true ⟨c1, c2⟩
      rw [e]
      simp only [Je.cells]
      subst c1 c2
      clear e
      go_enter Try.func17, Try.ntmps17
      go_wp2
      go_ret
      exact ⟨rfl, HB.out⟩
    · have e : ofBoth ent per ⟨x0, x1, x2, xa, xc, xl⟩ = false := decide_eq_false (fun h => c2 h.2)
      rw [e]
      simp only [Je.cells]
      have c2' : (x2 == per) = false := by rw [beq_eq_false_iff_ne]; exact c2
      subst c1
      clear e
      go_enter Try.func17, Try.ntmps17
      go_wp2
      go_ret
      exact ⟨rfl, HB.out⟩
  · have e : ofBoth ent per ⟨x0, x1, x2, xa, xc, xl⟩ = false := decide_eq_false (fun h => c1 h.1)
    rw [e]
    simp only [Je.cells]
    have c1' : (x1 == ent) = false := by rw [beq_eq_false_iff_ne]; exact c1
    clear e
    go_enter Try.func17, Try.ntmps17
    go_wp2
    go_ret
    exact ⟨rfl, HB.out⟩
/-- What Balances and Trial answer. -/
def OeEnd (p : Je → Bool) (L : List Je) (W : World) (e : Ending) (w' : World) : Prop := (oeE p L ≠ 0 ∧ e = .returned (.tuple #[.slice none 0 0, .iface 48 (.int .i64 (oeE p L))]) ∧ Hid (Below W.heap.size W w')) ∨ (oeE p L = 0 ∧ ∃ sa sc R, e = .returned (.tuple #[.slice sa R.length sc, .nilIface]) ∧ Hid (Below W.heap.size W w' ∧ IsBl w' sa R sc ∧ OeR p L R))
theorem balances_any (a : Option Addr) (cap : Nat) (L : List Je) (W : World) (per : Int) (hlen : L.length ≤ 9223372036854775807) (h : IsJs W a L cap) (hok : JsOk L) :
    Calls Try.prog 9 #[.slice a L.length cap, .int .i64 per] W fun e w' => OeEnd (upTo per) L W e w' := by
  have hb : Below W.heap.size W (W.alloc (.cells #[.int .i64 per] 3)) := (Below.refl _ _).alloc (Nat.le_refl _) _
  have hc : (W.alloc (.cells #[.int .i64 per] 3)).cell? ⟨W.heap.size, 0, none⟩ = some (.int .i64 per) := by
    have := ld_new_heap W (.cells #[.int .i64 per] 3)
    unfold World.cell?
    rw [this]
    rfl
  have hT : JTells 18 #[.pointer (some ⟨W.heap.size, 0, none⟩)] (upTo per) (W.alloc (.cells #[.int .i64 per] 3)).heap.size (W.alloc (.cells #[.int .i64 per] 3)) :=
    ⟨fun args W => en_enters Try.func18 (by kernel_rfl) ⟨_, rfl⟩ args W, fun x U hU => balances1_any per W.heap.size x U ((hU.cell (p := ⟨W.heap.size, 0, none⟩) (by simp)).trans hc)⟩
  have HO : Hid (Calls Try.prog 16 #[.slice a L.length cap, .func (.func 18) #[] #[.pointer (some ⟨W.heap.size, 0, none⟩)]] (W.alloc (.cells #[.int .i64 per] 3)) fun e w' => OeEnd (upTo per) L W e w') := by
    refine (ofEntries_any a cap L _ _ _ _ hlen (h.below hb) hok hT).mono ?_
    rintro e w' ⟨h1, h2, h3⟩
    have hB : Below W.heap.size W w' := hb.trans (h1.mono (by simp))
    by_cases h0 : oeE (upTo per) L = 0
    · obtain ⟨v, R, rfl, h4⟩ := h3 h0
      obtain ⟨sa, sc, rfl, hI⟩ := h4.out.1.isBl
      exact .inr ⟨h0, sa, sc, R, rfl, hB, hI, h4.out.2⟩
    · exact .inl ⟨h0, by rw [h2 h0, enE_ne h0], hB⟩
  clear hb hc hT h hok
  go_enter Try.func9, Try.ntmps9
  go_wp2_with fail
  refine HO.out.mono ?_
  rintro e w' hE
  rcases hE with ⟨h0, rfl, hB⟩ | ⟨h0, sa, sc, R, rfl, hR⟩
  · have HQ : Hid (OeEnd (upTo per) L W (.returned (.tuple #[.slice none 0 0, .iface 48 (.int .i64 (oeE (upTo per) L))])) w') := .inl ⟨h0, rfl, hB⟩
    clear HO h0 hB
    generalize oeE (upTo per) L = oo at *
    go_wp2
    go_ret2
    exact HQ.out
  · have HQ : Hid (OeEnd (upTo per) L W (.returned (.tuple #[.slice sa R.length sc, .nilIface])) w') := .inr ⟨h0, sa, sc, R, rfl, hR⟩
    clear HO h0 hR
    go_wp2
    go_ret2
    exact HQ.out
theorem trial_any (a : Option Addr) (cap : Nat) (L : List Je) (W : World) (ent per : Int) (hlen : L.length ≤ 9223372036854775807) (h : IsJs W a L cap) (hok : JsOk L) :
    Calls Try.prog 7 #[.slice a L.length cap, .int .i64 ent, .int .i64 per] W fun e w' => OeEnd (ofBoth ent per) L W e w' := by
  obtain ⟨V, hV⟩ : ∃ V, (W.alloc (.cells #[.int .i64 ent] 3)).alloc (.cells #[.int .i64 per] 3) = V := ⟨_, rfl⟩
  have hb : Below W.heap.size W V := by rw [← hV]; exact ((Below.refl _ _).alloc (Nat.le_refl _) _).alloc (by simp) _
  have hsV : V.heap.size = W.heap.size + 2 := by rw [← hV]; simp
  have hc1 : V.cell? ⟨W.heap.size, 0, none⟩ = some (.int .i64 ent) := by
    have e : V.heap[W.heap.size]? = some (.cells #[.int .i64 ent] 3 (0, 0)) := by
      rw [← hV]
      exact ((World.grownBy_alloc _ _ none).block _ (by simp) (by simp)).trans (ld_new_heap W _)
    simp [World.cell?, e]
  have hc2 : V.cell? ⟨W.heap.size + 1, 0, none⟩ = some (.int .i64 per) := by
    have e : V.heap[W.heap.size + 1]? = some (.cells #[.int .i64 per] 3 (0, 0)) := by
      rw [← hV]
      have := ld_new_heap (W.alloc (.cells #[.int .i64 ent] 3)) (.cells #[.int .i64 per] 3)
      simpa using this
    simp [World.cell?, e]
  have hT : JTells 17 #[.pointer (some ⟨W.heap.size, 0, none⟩), .pointer (some ⟨W.heap.size + 1, 0, none⟩)] (ofBoth ent per) V.heap.size V :=
    ⟨fun args W => en_enters Try.func17 (by kernel_rfl) ⟨_, rfl⟩ args W, fun x U hU => trial1_any ent per W.heap.size (W.heap.size + 1) x U ((hU.cell (p := ⟨W.heap.size, 0, none⟩) (by simp [hsV])).trans hc1) ((hU.cell (p := ⟨W.heap.size + 1, 0, none⟩) (by simp [hsV])).trans hc2)⟩
  have HO : Hid (Calls Try.prog 16 #[.slice a L.length cap, .func (.func 17) #[] #[.pointer (some ⟨W.heap.size, 0, none⟩), .pointer (some ⟨W.heap.size + 1, 0, none⟩)]] V fun e w' => OeEnd (ofBoth ent per) L W e w') := by
    refine (ofEntries_any a cap L _ _ _ _ hlen (h.below hb) hok hT).mono ?_
    rintro e w' ⟨h1, h2, h3⟩
    have hB : Below W.heap.size W w' := hb.trans (h1.mono (by omega))
    by_cases h0 : oeE (ofBoth ent per) L = 0
    · obtain ⟨v, R, rfl, h4⟩ := h3 h0
      obtain ⟨sa, sc, rfl, hI⟩ := h4.out.1.isBl
      exact .inr ⟨h0, sa, sc, R, rfl, hB, hI, h4.out.2⟩
    · exact .inl ⟨h0, by rw [h2 h0, enE_ne h0], hB⟩
  have HV : Hid ((W.alloc (.cells #[.int .i64 ent] 3)).alloc (.cells #[.int .i64 per] 3) = V) := hV
  clear hb hc1 hc2 hT h hok hV hsV
  go_enter Try.func7, Try.ntmps7
  go_wp2_with fail
  rw [HV.out]
  refine HO.out.mono ?_
  rintro e w' hE
  rcases hE with ⟨h0, rfl, hB⟩ | ⟨h0, sa, sc, R, rfl, hR⟩
  · have HQ : Hid (OeEnd (ofBoth ent per) L W (.returned (.tuple #[.slice none 0 0, .iface 48 (.int .i64 (oeE (ofBoth ent per) L))])) w') := .inl ⟨h0, rfl, hB⟩
    clear HO h0 hB
    generalize oeE (ofBoth ent per) L = oo at *
    go_wp2
    go_ret2
    exact HQ.out
  · have HQ : Hid (OeEnd (ofBoth ent per) L W (.returned (.tuple #[.slice sa R.length sc, .nilIface])) w') := .inr ⟨h0, sa, sc, R, rfl, hR⟩
    clear HO h0 hR
    go_wp2
    go_ret2
    exact HQ.out
end Go.Proofs.Ytcamimjjmcdbcaa
