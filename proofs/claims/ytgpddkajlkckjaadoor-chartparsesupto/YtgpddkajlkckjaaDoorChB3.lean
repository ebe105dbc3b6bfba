/-
  The contract of daysame.Charts; daylaw1.ChartBack, walked.
-/
import Derived.Test.YtgpddkajlkckjaaDoorChB2
import Derived.Test.YtgpddkajlkckjaaDoorChR7
import Derived.Deep.QuietTactic
import Derived.BigQuiet
namespace Go.Proofs.YtgpddkajlkckjaaDoor
set_option linter.unusedVariables false
set_option linter.unusedSimpArgs false
set_option maxRecDepth 100000
open Go.RowKit

theorem cha_struct : Tryd.prog.underlying 33 = some (.struct (Tryd.prog.fieldsOf 33)) := by kernel_rfl
theorem cha_stood : Tryd.prog.stoodInHeld 33 = false := by kernel_rfl
theorem cha_same (x0 x1 : ByteArray) (x2 : Int) (x3 : ByteArray) (x4 : Bool) (W : World) : (binOp .neq 33 (.agg #[.string x0, .string x1, .int .i64 x2, .string x3, .bool x4]) (.agg #[.string x0, .string x1, .int .i64 x2, .string x3, .bool x4])).run Tryd.prog W = .ok (.bool false) W := by
  rw [run_neq_struct, show (10000 : Nat) = 9998 + 1 + 1 from rfl, run_equalIn_agg W (9998 + 1) 33 _ _ cha_struct cha_stood]
  unfold Program.fieldsOf
  rw [Tryd.underlying33]
  simp [Op.eqFields, part, go_sem, run_equalIn_string W 9998 9 _ _ Tryd.underlying9, run_equalIn_int W 9998 3 .i64 .i64 _ _ Tryd.underlying3, run_equalIn_bool' W 9998 4 _ _ Tryd.underlying4, Tryd.isAgg9, Tryd.isAgg3, Tryd.isAgg4]

set_option maxHeartbeats 1000000 in
theorem sameCharts_any (a1 a2 : Option Addr) (c1 c2 : Nat) (l : List Ac) (w : World) (hlen : l.length ≤ 1000) (h1 : IsSl w a1 l c1) (h2 : IsSl w a2 l c2) :
    Calls Tryd.prog 8 #[.slice a1 l.length c1, .slice a2 l.length c2] w fun e w' => e = .returned (.bool true) ∧ Below w.heap.size w w' := by
  have Hlen : (l.length : Int) ≤ 1000 := by omega
  have H1 : Hid (l = [] ∨ _) := h1.lies
  have H2 : Hid (l = [] ∨ _) := h2.lies
  clear h1 h2
  have hS := cha_same
  go_enter Tryd.func8, Tryd.ntmps8
  go_wp2
  go_loopw [5] (fun i wr => ∃ k : Nat, k ≤ l.length ∧ i = .int .i64 k ∧ ∃ n, wr = w.drewN n) (fun i _ => l.length - (intOf i).toNat)
  case atStart => exact ⟨0, Nat.zero_le _, rfl, 0, rfl⟩
  case round =>
    obtain ⟨k, hk, rfl, nd, rfl⟩ := hrel
    by_cases hlt : k < l.length
    · rcases H1.out with h | ⟨g1, o1, rfl, _, q1⟩
      · rw [h] at hlt; simp at hlt
      rcases H2.out with h | ⟨g2, o2, rfl, _, q2⟩
      · rw [h] at hlt; simp at hlt
      have d1 := q1 k hlt
      have d2 := q2 k hlt
      clear q1 q2 H1 H2
      generalize l.getD k ac0 = x at *
      obtain ⟨x0, x1, x2, x3, x4⟩ := x
      obtain ⟨e0, e1, e2, e3, e4⟩ := d1
      obtain ⟨f0, f1, f2, f3, f4⟩ := d2
      simp only at e0 e1 e2 e3 e4 f0 f1 f2 f3 f4
      have i0 : (0 : Int) ≤ k := by omega
      have i1 : (k : Int) < l.length := by omega
      go_wp2_with fail
      go_quiet (fail)
      go_wp2
      go_roundw
      case rel => exact ⟨k + 1, by omega, by go_num, _, rfl⟩
      case measure => simp [intOf]; omega
    · have hk2 : k = l.length := by omega
      subst hk2
      go_wp2
      go_ret
      exact ⟨rfl, ch_drewN (Below.refl _ _) _⟩

/-- The fact that the law begins with. -/
def t0 : ByteArray := ⟨#[49, 48, 32, 99, 97, 115, 104, 32, 65, 32, 109, 32, 45, 10]⟩
def x0 : Ac := ⟨⟨#[49, 48]⟩, ⟨#[99, 97, 115, 104]⟩, 1, ⟨#[]⟩, true⟩
theorem fact0 : parseS t0 = ([x0], 0, 0) := by kernel_rfl

/-- chart.Parse, by what it gives. -/
theorem parse_u (t : ByteArray) (ht : t.size < 4294967281) (w : World) (hg : MaxL w) :
    Calls Tryd.prog 6 #[.string t] w fun e w' => ∃ a c, e = .returned (.tuple #[.slice a (parseS t).1.length c, .int .i64 (parseS t).2.1, chE (parseS t).2.2]) ∧ IsSl w' a (parseS t).1 c ∧ Below w.heap.size w w' := by
  refine (parse_any t ht w hg).mono ?_
  rintro e w' ⟨⟨v, rfl, hr, _⟩, hb⟩
  obtain ⟨a, c, rfl, hs⟩ := row_isSl hr
  exact ⟨a, c, rfl, hs, hb⟩
end Go.Proofs.YtgpddkajlkckjaaDoor
