/-
  What is written is read: the contracts of frame.Entry and frame.ReadEntry, one upon the other.
-/
import Derived.Test.YtbnoedndbehghaaFr3
import Derived.Test.YtbnoedndbehghaaFr6
import Derived.Test.YtbnoedndbehghaaFrS
namespace Go.Proofs.Ytbnoedndbehghaa
set_option linter.unusedVariables false
set_option linter.unusedSimpArgs false
set_option maxRecDepth 100000
open Go.RowKit Go.Lib

/-- Bytes that an entry stands at the beginning of. -/
theorem reads_some {x : En} {r : List UInt8} (a : Option Addr) (cap : Nat) (l : List UInt8) (w : World) (hl : l.length ≤ 9223372036854775807) (h : IsBy w a l cap) (hr : rdE l = some (x, r)) :
    Calls Try.prog 6 #[.slice a l.length cap] w fun e w' =>
      ∃ v, e = .returned (.tuple #[.agg #[.string x.ref, .int .i64 x.ent, .int .i64 x.per, v], .int .i64 (entB x).length, .nilIface]) ∧ LnRow w' w.heap.size v x.lns ∧ Below w.heap.size w w' := by
  have hE : entS (some l) = (x, some r) := by
    rcases @entS_of l with ⟨h1, _⟩ | ⟨s, r', h1, h2⟩
    · rw [hr] at h1; cases h1
    · rw [hr] at h1
      cases h1
      exact h2
  have hlen : (l.length : Int) - r.length = (entB x).length := by
    have := (rdE_back hr).1
    have h2 := congrArg List.length this
    rw [List.length_append] at h2
    omega
  have H := fReadEntry_any a cap l w hl h
  rw [hE, ] at H
  refine H.mono ?_
  rintro e w' ⟨⟨h1, _⟩ | ⟨r', v, h1, rfl, hrow⟩, hb⟩
  · cases h1
  · cases h1
    refine ⟨v, ?_, hrow, hb⟩
    rw [hlen]
/-- Bytes that no entry stands at the beginning of. -/
theorem reads_none (a : Option Addr) (cap : Nat) (l : List UInt8) (w : World) (hl : l.length ≤ 9223372036854775807) (h : IsBy w a l cap) (hr : rdE l = none) :
    Calls Try.prog 6 #[.slice a l.length cap] w fun e w' =>
      e = .returned (.tuple #[.agg #[.string ByteArray.empty, .int .i64 0, .int .i64 0, .slice none 0 0], .int .i64 0, .iface 36 (.int .i64 9)]) ∧ Below w.heap.size w w' := by
  have hE : (entS (some l)).2 = none := by
    rcases @entS_of l with ⟨_, h2⟩ | ⟨s, r', h1, h2⟩
    · exact h2
    · rw [hr] at h1; cases h1
  refine (fReadEntry_any a cap l w hl h).mono ?_
  rintro e w' ⟨⟨_, rfl⟩ | ⟨r', v, h1, _⟩, hb⟩
  · exact ⟨rfl, hb⟩
  · rw [hE] at h1; cases h1
theorem ebLen {e : En} (h : EnFit e) : (entB e).length ≤ 1634 := by
  have h0 := entW_fit h
  obtain ⟨h1, h2, h3, h4, h5⟩ := h
  rw [← h0]
  have i1 : ∀ x ∈ e.lns, I64 x.amt := fun x hx => by
    have := (h5 x hx).2.2
    unfold mostA at this
    exact ⟨by omega, by omega⟩
  have j1 := lnsW_length e.lns i1
  have j2 := txtW_length e.ref
  have j3 := @numB_length e.ent (by omega) (by omega)
  have j4 := @numB_length e.per (by omega) (by omega)
  have j5 := @numB_length e.lns.length (by omega) (by omega)
  simp only [headW, List.length_append]
  omega
end Go.Proofs.Ytbnoedndbehghaa
