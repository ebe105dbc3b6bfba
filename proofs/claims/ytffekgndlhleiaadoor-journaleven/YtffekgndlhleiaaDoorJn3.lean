/-
  The contract of a journal's Post.
-/
import Derived.Test.YtffekgndlhleiaaDoorJn2
import Derived.Test.YtffekgndlhleiaaDoorRegionL3
import Derived.Test.YtffekgndlhleiaaDoorRunL
import Derived.Deep.Cut
namespace Go.Proofs.YtffekgndlhleiaaDoor
set_option linter.unusedVariables false
set_option linter.unusedSimpArgs false
set_option maxRecDepth 100000
open Go.RowKit Go.Lib
section
variable {P : Program} {o : Oper} {a : Act} {w w' : World} {K : Act → World → Prop} {Q : Exit → Act → World → Prop}
theorem wp_sput_run (t : TypeId) (m k x : Operand) (ho : o.op = .mapUpdate t m k x) (u1 u2 u3 : Value) (h1 : a.eval m = u1) (h2 : a.eval k = u2) (h3 : a.eval x = u3) (hr : (Instr.mapUpdate t u1 u2 u3).run P w = .ok () w') (h : K (a.put o.dst undef) w') : o.wp P a w K Q := by
  unfold Oper.wp execOp
  simp only [ho, Sem.run_bind, Sem.run_pure, Result.andThen_ok, h1, h2, h3, hr]
  exact h
end
section
variable {P : Program} {ops : Array Oper} {Q : Exit → Act → World → Prop} {md : Region.Mode} {T : World → Prop} {g : Nat}
/-- The only one that may come up, ahead of the named one. -/
theorem L_oneJ {i fuel : Nat} {listed : Array Bool} {a : Act} {w : World} (hr : Region.ready md ops listed = [i])
    (h : wpOp P ops Q i (fun a' w' => T w' ∧ wpAnyL P md ops Q g T fuel (listed.setIfInBounds i true) a' w') a w) : wpAnyL P md ops Q g T (fuel + 1) listed a w := by
  refine ⟨(fun h0 => by rw [hr] at h0; simp at h0), fun j hj => ?_⟩
  rw [hr] at hj
  obtain rfl := List.mem_singleton.1 hj
  exact wpOp_mono (fun a' w' h' => ⟨fun _ => h'.1, h'.2⟩) h
end
/-- What a Post may turn. -/
structure JKeep (bj bm : Nat) (v : Value) (W W' : World) : Prop where
  os : W'.os = W.os
  tape : W'.tape = W.tape
  output : W'.output = W.output
  size : W.heap.size ≤ W'.heap.size
  block : ∀ b, b < W.heap.size → b ≠ bj → b ≠ bm → some b ≠ v.ownBlock → W'.heap[b]? = W.heap[b]?
theorem JKeep.of_below {bj bm : Nat} {v : Value} {W W' : World} (h : Below W.heap.size W W') : JKeep bj bm v W W' := ⟨h.os, h.tape, h.output, h.size, fun b hb _ _ _ => h.block b hb⟩
theorem JKeep.below {n0 bj bm : Nat} {v : Value} {W W' : World} {es : List Je} (h : JKeep bj bm v W W') (j : JAt W n0 bj bm v es) : Below n0 W W' :=
  ⟨h.os, h.tape, h.output, h.size, fun b hb => h.block b (by have := j.hj; have := j.ltj; omega) (by have := j.hj; omega) (by have := j.hm; omega) (fun e => by have := j.row.own b e.symm; omega)⟩

/-- What is wrong with a Post. -/
def pBad (c : List Ac) (es : List Je) (r : ByteArray) (en pe : Int) (l : List Ln) : Int :=
  if entBad c r en pe l ≠ 0 then entBad c r en pe l else if hasR es r = true then 8 else if 200 ≤ es.length then 4 else 0
theorem pBad_zero {c : List Ac} {es : List Je} {r : ByteArray} {en pe : Int} {l : List Ln} : pBad c es r en pe l = 0 ↔ entBad c r en pe l = 0 ∧ hasR es r = false ∧ es.length < 200 := by
  unfold pBad
  constructor
  · intro h
    split at h
    · rename_i h1; exact absurd h h1
    · rename_i h1
      split at h
      · omega
      · rename_i h2
        split at h
        · omega
        · exact ⟨Classical.not_not.1 h1, by simpa using h2, by omega⟩
  · rintro ⟨h1, h2, h3⟩
    rw [if_neg (by simp [h1]), if_neg (by simp [h2]), if_neg (by omega)]

section
variable {W : World} {n0 bj bm : Nat} {v : Value} {es : List Je}
set_option maxHeartbeats 2000000 in
theorem post_bad (h : JAt W n0 bj bm v es) (hlen : es.length ≤ 1000000) (ca : Option Addr) (cc : Nat) (c : List Ac) (r : ByteArray) (en pe : Int) (a : Option Addr) (cap : Nat) (l : List Ln) (hc : IsSl W ca c cc) (hl : IsLn W a l cap) (h0 : pBad c es r en pe l ≠ 0) :
    Calls Tryd.prog 5 #[.pointer (some ⟨bj, 0, none⟩), .slice ca c.length cc, .agg #[.string r, .int .i64 en, .int .i64 pe, .slice a l.length cap]] W fun e w' => e = .returned (.tuple #[.int .i64 0, enE (pBad c es r en pe l)]) ∧ Below W.heap.size W w' := by
  have b0 : Below W.heap.size W (W.alloc (.cells #[.string r, .int .i64 en, .int .i64 pe, .slice a l.length cap] 33)) := (Below.refl _ W).alloc (Nat.le_refl _) _
  have x0 := Box4.new W r en pe (.slice a l.length cap)
  have hs0 : (W.alloc (.cells #[.string r, .int .i64 en, .int .i64 pe, .slice a l.length cap] 33)).heap.size = W.heap.size + 1 := by simp
  have HC : Hid (Calls _ _ _ _ _) := check_any ca cc c r en pe a cap l _ (hc.below b0) (hl.below b0)
  have Hj : Hid (JAt W n0 bj bm v es) := h
  clear h hc hl
  unfold pBad at h0 ⊢
  by_cases h1 : entBad c r en pe l = 0
  · rw [if_neg (by simp [h1])] at h0 ⊢
    rw [h1, enE_zero] at HC
    clear h1
    by_cases h2 : hasR es r = true
    · rw [if_pos h2] at h0 ⊢
      rw [enE_ne (by decide)]
      go_enter Tryd.func5, Tryd.ntmps5
      go_wp2_with fail
      refine HC.out.mono ?_
      rintro e w1 ⟨rfl, b1⟩
      rw [hs0] at b1
      have B1 := b0.trans (b1.mono (by omega))
      have x1 := x0.below b1 (by omega)
      have HH : Hid (Calls _ _ _ _ _) := jhas_any (Hj.out.below B1) r
      have d0 := x1.c0
      rw [h2] at HH
      clear HC b1 x0 b0 h2
      go_wp2_with fail
      refine HH.out.mono ?_
      rintro e w2 ⟨rfl, b2⟩
      have B2 := B1.trans (b2.mono B1.size)
      clear HH b2 B1 Hj x1 d0
      go_wp2
      go_ret2
      exact ⟨rfl, B2⟩
    · rw [if_neg h2] at h0 ⊢
      have h2' : hasR es r = false := by simpa using h2
      by_cases h3 : 200 ≤ es.length
      · rw [if_pos h3]
        rw [enE_ne (by decide)]
        have h3' : (200 : Int) ≤ es.length := by omega
        clear h3 h0 h2
        go_enter Tryd.func5, Tryd.ntmps5
        go_wp2_with fail
        refine HC.out.mono ?_
        rintro e w1 ⟨rfl, b1⟩
        rw [hs0] at b1
        have B1 := b0.trans (b1.mono (by omega))
        have x1 := x0.below b1 (by omega)
        have HH : Hid (Calls _ _ _ _ _) := jhas_any (Hj.out.below B1) r
        have d0 := x1.c0
        rw [h2'] at HH
        clear HC b1 x0 b0 h2'
        go_wp2_with fail
        refine HH.out.mono ?_
        rintro e w2 ⟨rfl, b2⟩
        have B2 := B1.trans (b2.mono B1.size)
        have HL : Hid (Calls _ _ _ _ _) := jlen_any (Hj.out.below B2)
        clear HH b2 B1 Hj x1 d0
        go_wp2_with fail
        refine HL.out.mono ?_
        rintro e w3 ⟨rfl, hw⟩
        rw [hw]; clear hw w3 HL
        go_wp2
        go_ret2
        exact ⟨rfl, B2⟩
      · rw [if_neg h3] at h0
        exact absurd rfl h0
  · rw [if_pos h1]
    rw [enE_ne h1] at HC ⊢
    generalize entBad c r en pe l = bad at *
    clear h1 h0
    go_enter Tryd.func5, Tryd.ntmps5
    go_wp2_with fail
    refine HC.out.mono ?_
    rintro e w1 ⟨rfl, b1⟩
    rw [hs0] at b1
    have B1 := b0.trans (b1.mono (by omega))
    clear HC b1 x0 b0 Hj
    go_wp2
    go_ret2
    exact ⟨rfl, B1⟩
end
end Go.Proofs.YtffekgndlhleiaaDoor
