/-
  daylaw2.StorePlays, for every number of blocks.
-/
import Derived.Test.YteffpglmgekkiaaDoorSp7
import Derived.Test.YteffpglmgekkiaaDoorSp4
namespace Go.Proofs.YteffpglmgekkiaaDoor
set_option linter.unusedVariables false
set_option linter.unusedSimpArgs false
set_option maxRecDepth 100000
open Go.RowKit Go.Lib
theorem splays_walk (n : Int) (a : Option Addr) (rs : List Rw) (cap : Nat) (w : World) (hg : ErrT w) (hrs : IsRs w a rs cap) (hrl : rs.length ≤ 9223372036854775807) :
    Calls Tryd.prog 3 #[.int .i64 n, .slice a rs.length cap] w fun e w' => e = .returned (.bool true) ∧ Below w.heap.size w w' := by
  by_cases h : 1 ≤ n ∧ n ≤ 200
  · obtain ⟨m, rfl⟩ : ∃ m : Nat, n = m := ⟨n.toNat, by omega⟩
    by_cases h90 : m < 90
    · exact splays_few m a rs.length cap w hg (by omega) h90
    · exact splays_in m a rs cap w hg (by omega) (by omega) hrs hrl
  · exact splays_out n a rs.length cap w h
end Go.Proofs.YteffpglmgekkiaaDoor
