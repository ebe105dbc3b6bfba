/-
  daylaw1.EntryChecks, walked.
-/
import Derived.Test.YtggabmjbblgfeaaDoorRfE5
import Derived.Test.YtggabmjbblgfeaaDoorErrT
namespace Go.Proofs.YtggabmjbblgfeaaDoor
set_option linter.unusedVariables false
set_option linter.unusedSimpArgs false
set_option maxRecDepth 100000
open Go.RowKit Go.Lib

theorem chGo_range : ∀ (r pre : List Ac), -9223372036854775808 ≤ chGo pre r ∧ chGo pre r ≤ 9223372036854775807
  | [], _ => by simp [chGo]
  | x :: r, pre => by
    rw [chGo]
    split
    · unfold nextBad
      split
      · omega
      · split
        · omega
        · split
          · omega
          · unfold parBad
            split
            · omega
            · split
              · omega
              · split <;> omega
    · exact chGo_range r _
theorem linesBad_range (c : List Ac) : ∀ l : List Ln, -9223372036854775808 ≤ linesBad c l ∧ linesBad c l ≤ 9223372036854775807
  | [] => by simp [linesBad]
  | x :: l => by
    rw [linesBad]
    split
    · unfold lnBad
      split
      · omega
      · split
        · omega
        · split
          · omega
          · split <;> omega
    · exact linesBad_range c l
theorem entBad_range (c : List Ac) (r : ByteArray) (en pe : Int) (l : List Ln) : -9223372036854775808 ≤ entBad c r en pe l ∧ entBad c r en pe l ≤ 9223372036854775807 := by
  unfold entBad
  split
  · unfold chBad
    split
    · omega
    · exact chGo_range c []
  · split
    · unfold headBad
      split
      · omega
      · split
        · omega
        · split
          · omega
          · split <;> omega
    · split
      · exact linesBad_range c l
      · split <;> omega
theorem ent_errIs (n : Int) (h : -9223372036854775808 ≤ n ∧ n ≤ 9223372036854775807) : ErrIs (enE n) n := by
  by_cases h0 : n = 0
  · subst h0; exact .inl ⟨rfl, rfl⟩
  · rw [enE_ne h0]; exact .inr ⟨rfl, h.1, h.2⟩

set_option maxHeartbeats 2000000 in
theorem checks_walk (ca : Option Addr) (cc : Nat) (c : List Ac) (r : ByteArray) (en pe : Int) (a : Option Addr) (cap : Nat) (l : List Ln) (w : World) (hg : ErrT w) (hc : IsSl w ca c cc) (hok : ∀ k, k < c.length → (c.getD k ac0).code.size ≤ maxLen ∧ (c.getD k ac0).name.size ≤ maxLen) (h : IsLn w a l cap) :
    Calls Tryd.prog 3 #[.slice ca c.length cc, .agg #[.string r, .int .i64 en, .int .i64 pe, .slice a l.length cap]] w fun e w' => e = .returned (.bool true) ∧ Below w.heap.size w w' := by
  have b0 : Below w.heap.size w (w.alloc (.cells #[.string r, .int .i64 en, .int .i64 pe, .slice a l.length cap] 25)) := (Below.refl _ w).alloc (Nat.le_refl _) _
  have x0 := Box4.new w r en pe (.slice a l.length cap)
  have hs0 : (w.alloc (.cells #[.string r, .int .i64 en, .int .i64 pe, .slice a l.length cap] 25)).heap.size = w.heap.size + 1 := by simp
  have hR := refEntry_any ca cc c r en pe a cap l _ (hc.below b0) hok (h.below b0)
  have HR : Hid (Calls _ _ _ _ _) := hR
  have HC : Hid (∀ W, Below w.heap.size w W → Calls Tryd.prog 6 #[.slice ca c.length cc, .agg #[.string r, .int .i64 en, .int .i64 pe, .slice a l.length cap]] W fun e w' => e = .returned (enE (entBad c r en pe l)) ∧ Below W.heap.size W w') := fun W hW => check_any ca cc c r en pe a cap l W (hc.below hW) (h.below hW)
  have HI := ent_errIs _ (entBad_range c r en pe l)
  generalize entBad c r en pe l = bad at *
  obtain ⟨ev, hev⟩ : ∃ ev, enE bad = ev := ⟨_, rfl⟩
  rw [hev] at HC HI
  have HE : Hid (∀ W, Below w.heap.size w W → Calls Tryd.prog 5 #[ev, .int .i64 bad] W fun e w' => e = .returned (.bool true) ∧ Below W.heap.size W w') := fun W hW => err_true HI W (hg.below hW (Nat.le_refl _))
  clear hR hc h HI hev hg
  go_enter Tryd.func3, Tryd.ntmps3
  go_wp2_with fail
  refine HR.out.mono ?_
  rintro e w1 ⟨rfl, hb1⟩
  rw [hs0] at hb1
  have B1 := b0.trans (hb1.mono (by omega))
  have hs1 := hb1.size
  rw [hs0] at hs1
  have y1 := x0.below hb1 (by omega)
  have c0 := y1.c0
  have c1 := y1.c1
  have c2 := y1.c2
  have c3 := y1.c3
  clear HR hb1 b0 x0 hs0
  go_wp2_with fail
  refine (HC.out w1 B1).mono ?_
  rintro e w2 ⟨rfl, hb2⟩
  have B2 := B1.trans (hb2.mono (by omega))
  clear HC hb2 c0 c1 c2 c3 y1
  go_wp2_with fail
  refine (HE.out w2 B2).mono ?_
  rintro e w3 ⟨rfl, hb3⟩
  have B3 := B2.trans (hb3.mono B2.size)
  clear HE hb3
  go_wp2
  go_ret
  exact ⟨rfl, B3⟩
end Go.Proofs.YtggabmjbblgfeaaDoor
