/-
  The contracts of daysame.Lines and daysame.Entry at what is the same.
-/
import Derived.Test.YtenbeffmanccoaaDoorEn9
import Derived.Laws.StructEq
namespace Go.Proofs.YtenbeffmanccoaaDoor
set_option linter.unusedVariables false
set_option linter.unusedSimpArgs false
set_option maxRecDepth 100000
open Go.RowKit

theorem line_struct : Tryd.prog.underlying 30 = some (.struct (Tryd.prog.fieldsOf 30)) := by kernel_rfl
theorem line_stood : Tryd.prog.stoodInHeld 30 = false := by kernel_rfl

theorem line_same (x0 x1 : ByteArray) (x2 : Int) (W : World) : (binOp .neq 30 (.agg #[.string x0, .string x1, .int .i64 x2]) (.agg #[.string x0, .string x1, .int .i64 x2])).run Tryd.prog W = .ok (.bool false) W := by
  rw [run_neq_struct, show (10000 : Nat) = 9998 + 1 + 1 from rfl, run_equalIn_agg W (9998 + 1) 30 _ _ line_struct line_stood]
  unfold Program.fieldsOf
  rw [Tryd.underlying30]
  simp [Op.eqFields, part, go_sem, run_equalIn_string W 9998 9 _ _ Tryd.underlying9, run_equalIn_int W 9998 3 .i64 .i64 _ _ Tryd.underlying3, Tryd.isAgg9, Tryd.isAgg3]

set_option maxHeartbeats 1000000 in
theorem sameLines_any (a1 a2 : Option Addr) (c1 c2 : Nat) (l : List Ln) (w : World) (hlen : l.length ≤ 1000) (h1 : IsLn w a1 l c1) (h2 : IsLn w a2 l c2) :
    Calls Tryd.prog 10 #[.slice a1 l.length c1, .slice a2 l.length c2] w fun e w' => e = .returned (.bool true) ∧ Below w.heap.size w w' := by
  have Hlen : (l.length : Int) ≤ 1000 := by omega
  have H1 : Hid (l = [] ∨ _) := h1.lies
  have H2 : Hid (l = [] ∨ _) := h2.lies
  clear h1 h2
  have hS := line_same
  go_enter Tryd.func10, Tryd.ntmps10
  go_wp2
  go_loopw [5] (fun i wr => ∃ k : Nat, k ≤ l.length ∧ i = .int .i64 k ∧ ∃ n, wr = w.drewN n) (fun i _ => l.length - (intOf i).toNat)
  case atStart => exact ⟨0, Nat.zero_le _, rfl, 0, rfl⟩
  case round =>
    obtain ⟨k, hk, rfl, nd, rfl⟩ := hrel
    by_cases hlt : k < l.length
    · rcases H1.out with h | ⟨g1, o1, rfl, _, q1⟩
      · rw [h] at hlt; simp at hlt
      rcases H2.out with h | ⟨g2, o2, rfl, _, q2⟩
      · rw [h] at hlt; simp at hlt
      have d1 := q1 k hlt
      have d2 := q2 k hlt
      clear q1 q2 H1 H2
      generalize l.getD k ln0 = x at *
      obtain ⟨x0, x1, x2⟩ := x
      obtain ⟨e0, e1, e2⟩ := d1
      obtain ⟨f0, f1, f2⟩ := d2
      simp only at e0 e1 e2 f0 f1 f2
      have i0 : (0 : Int) ≤ k := by omega
      have i1 : (k : Int) < l.length := by omega
      go_wp2_with fail
      go_quiet (fail)
      go_wp2
      go_roundw
      case rel => exact ⟨k + 1, by omega, by go_num, _, rfl⟩
      case measure => simp [intOf]; omega
    · have hk2 : k = l.length := by omega
      subst hk2
      go_wp2
      go_ret
      exact ⟨rfl, en_drewN (Below.refl _ _) _⟩

set_option maxHeartbeats 1000000 in
theorem sameEntry_any (r : ByteArray) (en pe : Int) (a1 a2 : Option Addr) (c1 c2 : Nat) (l : List Ln) (w : World) (hlen : l.length ≤ 1000) (h1 : IsLn w a1 l c1) (h2 : IsLn w a2 l c2) :
    Calls Tryd.prog 12 #[.agg #[.string r, .int .i64 en, .int .i64 pe, .slice a1 l.length c1], .agg #[.string r, .int .i64 en, .int .i64 pe, .slice a2 l.length c2]] w fun e w' => e = .returned (.bool true) ∧ Below w.heap.size w w' := by
  have b0 : Below w.heap.size w ((w.alloc (.cells #[.string r, .int .i64 en, .int .i64 pe, .slice a1 l.length c1] 24)).alloc (.cells #[.string r, .int .i64 en, .int .i64 pe, .slice a2 l.length c2] 24)) := ((Below.refl _ w).alloc (Nat.le_refl _) _).alloc (by simp) _
  have x1 := (Box4.new w r en pe (.slice a1 l.length c1)).alloc (.cells #[.string r, .int .i64 en, .int .i64 pe, .slice a2 l.length c2] 24)
  have x2 := Box4.new (w.alloc (.cells #[.string r, .int .i64 en, .int .i64 pe, .slice a1 l.length c1] 24)) r en pe (.slice a2 l.length c2)
  rw [World.size_alloc] at x2
  have hs0 : ((w.alloc (.cells #[.string r, .int .i64 en, .int .i64 pe, .slice a1 l.length c1] 24)).alloc (.cells #[.string r, .int .i64 en, .int .i64 pe, .slice a2 l.length c2] 24)).heap.size = w.heap.size + 2 := by simp
  have hL := sameLines_any a1 a2 c1 c2 l _ hlen (h1.below b0) (h2.below b0)
  have HL : Hid (Calls _ _ _ _ _) := hL
  clear hL h1 h2
  go_enter Tryd.func12, Tryd.ntmps12
  go_wp2_with fail
  refine HL.out.mono ?_
  rintro e w1 ⟨rfl, hb1⟩
  rw [hs0] at hb1
  have B1 := b0.trans (hb1.mono (by omega))
  have y1 := x1.below hb1 (by omega)
  have y2 := x2.below hb1 (by omega)
  have d0 := y1.c0
  have d1 := y1.c1
  have d2 := y1.c2
  have e0 := y2.c0
  have e1 := y2.c1
  have e2 := y2.c2
  clear HL hb1 x1 x2 y1 y2 b0 hs0
  go_wp2
  go_ret
  exact ⟨rfl, B1⟩
end Go.Proofs.YtenbeffmanccoaaDoor
