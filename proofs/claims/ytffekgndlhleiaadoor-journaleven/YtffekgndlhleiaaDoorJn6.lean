/-
  What the laws on journals share: their own chart and entry; a Post, whatever it says; numbers.
-/
import Derived.Test.YtffekgndlhleiaaDoorJn5
import Derived.Test.YtffekgndlhleiaaDoorJnC
import Derived.KernelRfl
namespace Go.Proofs.YtffekgndlhleiaaDoor
set_option linter.unusedVariables false
set_option linter.unusedSimpArgs false
set_option maxRecDepth 100000
open Go.RowKit Go.Lib

theorem jpair_new (W : World) (x0 x1 : ByteArray) (x2 : Int) (y0 y1 : ByteArray) (y2 : Int) (b : Nat) (hb : b = W.heap.size) :
    IsLn (W.alloc (.cells #[.string x0, .string x1, .int .i64 x2, .string y0, .string y1, .int .i64 y2] 55)) (some ⟨b, 0, none⟩) [⟨x0, x1, x2⟩, ⟨y0, y1, y2⟩] 2 := by
  subst hb
  have h := World.alloc_heap_new W (.cells #[.string x0, .string x1, .int .i64 x2, .string y0, .string y1, .int .i64 y2] 55)
  generalize W.alloc (.cells #[.string x0, .string x1, .int .i64 x2, .string y0, .string y1, .int .i64 y2] 55) = V at *
  generalize W.heap.size = b at *
  refine ⟨Nat.le_refl _, .inr ⟨b, 0, rfl, (Array.getElem?_eq_some_iff.1 h).1, fun k hk => ?_⟩⟩
  rcases (by simp at hk; omega : k = 0 ∨ k = 1) with rfl | rfl
  · exact ⟨by simp [World.cell?, h], by simp [World.cell?, h], by simp [World.cell?, h]⟩
  · exact ⟨by simp [World.cell?, h], by simp [World.cell?, h], by simp [World.cell?, h]⟩
theorem jentry_any (ref : ByteArray) (en pe : Int) (to fr cur : ByteArray) (n : Int) (w : World) (hn : IntKind.i64.wrap (-n) = -n) :
    Calls Tryd.prog 7 #[.string ref, .int .i64 en, .int .i64 pe, .string to, .string fr, .string cur, .int .i64 n] w fun e w' => ∃ a cap, e = .returned (.agg #[.string ref, .int .i64 en, .int .i64 pe, .slice a 2 cap]) ∧ IsLn w' a [⟨to, cur, n⟩, ⟨fr, cur, -n⟩] cap ∧ Below w.heap.size w w' := by
  go_enter Tryd.func7, Tryd.ntmps7
  go_wp2
  have d0 : ((w.alloc (.cells #[.string ref, .int .i64 en, .int .i64 pe, .slice (some ⟨w.heap.size + 1, 0, none⟩) 2 2] 33)).alloc (.cells #[.string to, .string cur, .int .i64 n, .string fr, .string cur, .int .i64 (-n)] 55)).heap[w.heap.size]? = some (.cells #[.string ref, .int .i64 en, .int .i64 pe, .slice (some ⟨w.heap.size + 1, 0, none⟩) 2 2] 33 (0, 0)) := ((World.grownBy_alloc _ _ none).block w.heap.size (by simp) (by simp)).trans (World.alloc_heap_new w _)
  have b4 : Box4 _ _ _ _ _ _ := d0
  have q0 := b4.c0
  have q1 := b4.c1
  have q2 := b4.c2
  have q3 := b4.c3
  exact bodyPost_ret (v := .agg #[.string ref, .int .i64 en, .int .i64 pe, .slice (some ⟨w.heap.size + 1, 0, none⟩) 2 2]) (by simp [results, Tryd.results7, go_sem, q0, q1, q2, q3]) rfl ⟨_, _, rfl, jpair_new _ _ _ _ _ _ _ _ (by simp), ((Below.refl _ w).alloc (Nat.le_refl _) _).alloc (by simp) _⟩
theorem jfact_ok : entBad jC ⟨#[97]⟩ 1 1 [⟨⟨#[49, 48]⟩, ⟨#[69, 85, 82]⟩, 5⟩, ⟨⟨#[50, 48]⟩, ⟨#[69, 85, 82]⟩, -5⟩] = 0 := by kernel_rfl
theorem jfact_ok3 : entBad jC ⟨#[97]⟩ 1 1 [⟨⟨#[49, 48]⟩, ⟨#[69, 85, 82]⟩, 5⟩, ⟨⟨#[52, 48]⟩, ⟨#[69, 85, 82]⟩, -5⟩] = 0 := by kernel_rfl

/-- All entries are right, and no ref is there twice. -/
structure JGood (c : List Ac) (es : List Je) : Prop where
  ok : ∀ x ∈ es, entBad c x.ref x.ent x.per x.lns = 0
  one : (es.map (·.ref)).Nodup
theorem JGood.nil (c : List Ac) : JGood c [] := ⟨by simp, by simp⟩
theorem JGood.push {c : List Ac} {es : List Je} {x : Je} (h : JGood c es) (h0 : pBad c es x.ref x.ent x.per x.lns = 0) : JGood c (es ++ [x]) := by
  obtain ⟨h1, h2, _⟩ := pBad_zero.1 h0
  refine ⟨fun y hy => ?_, ?_⟩
  · rcases List.mem_append.1 hy with hy | hy
    · exact h.ok y hy
    · rw [List.mem_singleton.1 hy]; exact h1
  · rw [List.map_append, List.nodup_append]
    refine ⟨h.one, by simp, fun a ha b hb e => ?_⟩
    simp only [List.map_cons, List.map_nil, List.mem_singleton] at hb
    subst hb
    subst e
    exact isInR_not.1 h2 ha
theorem JGood.lns {c : List Ac} {es : List Je} (h : JGood c es) {x : Je} (hx : x ∈ es) : x.lns ≠ [] ∧ x.lns.length ≤ 20 := by
  obtain ⟨_, h2, _⟩ := entBad_zero.1 (h.ok x hx)
  have := headBad_len h2
  exact ⟨fun e => by rw [e] at this; simp at this, this.2⟩
theorem headBad_en {r : ByteArray} {en pe : Int} {n : Nat} (h : headBad r en pe n = 0) : 1 ≤ en ∧ en ≤ 12 ∧ 1 ≤ pe ∧ pe ≤ 120 := by
  unfold headBad at h
  split at h
  · omega
  · split at h
    · omega
    · rename_i h2
      simp only [not_or, upTo, Bool.not_eq_false, Bool.and_eq_true, decide_eq_true_eq] at h2
      omega
theorem JGood.ent {c : List Ac} {es : List Je} (h : JGood c es) {x : Je} (hx : x ∈ es) : 1 ≤ x.ent ∧ x.ent ≤ 12 ∧ 1 ≤ x.per ∧ x.per ≤ 120 := headBad_en (entBad_zero.1 (h.ok x hx)).2.1

/-- A journal with right entries. -/
def JSt (c : List Ac) (n0 bj bm : Nat) (es : List Je) (W : World) : Prop := (∃ v, JAt W n0 bj bm v es) ∧ JGood c es
theorem JSt.below {c : List Ac} {n0 bj bm : Nat} {es : List Je} {W W' : World} (h : JSt c n0 bj bm es W) (hb : Below W.heap.size W W') : JSt c n0 bj bm es W' := by
  obtain ⟨⟨v, h⟩, g⟩ := h
  exact ⟨⟨v, h.below hb⟩, g⟩
theorem jpost_step {c : List Ac} {n0 bj bm : Nat} {es : List Je} {W : World} (h : JSt c n0 bj bm es W) (hlen : es.length ≤ 1000000) (ca : Option Addr) (cc : Nat) (x : Je) (hc : IsSl W ca c cc) (hl : IsLn W x.adr x.lns x.cap) :
    Calls Tryd.prog 5 #[.pointer (some ⟨bj, 0, none⟩), .slice ca c.length cc, .agg #[.string x.ref, .int .i64 x.ent, .int .i64 x.per, .slice x.adr x.lns.length x.cap]] W fun e w' => ∃ n es', e = .returned (.tuple #[.int .i64 n, enE (pBad c es x.ref x.ent x.per x.lns)]) ∧ JSt c n0 bj bm es' w' ∧ es'.length ≤ es.length + 1 ∧ Below n0 W w' := by
  obtain ⟨⟨v, j⟩, g⟩ := h
  by_cases h0 : pBad c es x.ref x.ent x.per x.lns = 0
  · refine (post_ok j ca cc c x.ref x.ent x.per x.adr x.cap x.lns hc hl h0).mono ?_
    rintro e w' ⟨rfl, g', cp, a', cap', j', k, _⟩
    refine ⟨(es.length : Int), es ++ [⟨x.ref, x.ent, x.per, a', cap', x.lns⟩], ?_, ⟨⟨_, j'⟩, g.push h0⟩, by simp, k.below j⟩
    rw [h0, enE_zero]
  · refine (post_bad j hlen ca cc c x.ref x.ent x.per x.adr x.cap x.lns hc hl h0).mono ?_
    rintro e w' ⟨rfl, b⟩
    exact ⟨0, es, rfl, ⟨⟨v, j.below b⟩, g⟩, by omega, b.mono (by have := j.hj; have := j.ltj; omega)⟩
end Go.Proofs.YtffekgndlhleiaaDoor
