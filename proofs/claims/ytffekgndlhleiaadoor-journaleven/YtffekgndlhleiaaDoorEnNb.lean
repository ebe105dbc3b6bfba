/-
  Two entries make one. It names no call.
-/
import Derived.Test.YtffekgndlhleiaaDoorEn11
import Derived.Test.YtffekgndlhleiaaDoorEnN
namespace Go.Proofs.YtffekgndlhleiaaDoor
set_option linter.unusedVariables false
set_option linter.unusedSimpArgs false
open Go.RowKit Go.Lib

theorem entBad_zero {c : List Ac} {r : ByteArray} {en pe : Int} {l : List Ln} : entBad c r en pe l = 0 ↔ chBad c = 0 ∧ headBad r en pe l.length = 0 ∧ linesBad c l = 0 ∧ evenL l := by
  rw [← even_iff]
  unfold entBad
  constructor
  · intro h
    split at h
    · rename_i h1; exact absurd h h1
    · rename_i h1
      split at h
      · rename_i h2; exact absurd h h2
      · rename_i h2
        split at h
        · rename_i h3; exact absurd h h3
        · rename_i h3
          split at h
          · omega
          · rename_i h4
            exact ⟨Classical.not_not.1 h1, Classical.not_not.1 h2, Classical.not_not.1 h3, by simpa [someL] using h4⟩
  · rintro ⟨h1, h2, h3, h4⟩
    rw [if_neg (by simp [h1]), if_neg (by simp [h2]), if_neg (by simp [h3]), if_neg]
    show ¬ ((curSums l).any fun x => !nullL x) = true
    rw [h4]
    simp
theorem entBad_few {c : List Ac} {r : ByteArray} {en pe : Int} {l : List Ln} (h : entBad c r en pe l = 0) : fewBad l = 0 := by
  obtain ⟨_, h2, h3, _⟩ := entBad_zero.1 h
  exact fewBad_of (headBad_len h2).2 (fun x hx => lnBad_amt (linesBad_zero h3 x hx))
theorem headBad_more {r : ByteArray} {en pe : Int} {n m : Nat} (h : headBad r en pe n = 0) (h1 : n ≤ m) (h2 : m ≤ 20) : headBad r en pe m = 0 := by
  have := headBad_len h
  unfold headBad at *
  split at h
  · omega
  · split at h
    · omega
    · rename_i a b
      rw [if_neg a, if_neg b, if_neg (by omega), if_neg (by omega)]
theorem ent_join {c : List Ac} {r r' : ByteArray} {en pe en' pe' : Int} {l m : List Ln} (h1 : entBad c r en pe l = 0) (h2 : entBad c r' en' pe' m = 0) (hl : l.length + m.length ≤ 20) : entBad c r en pe (l ++ m) = 0 := by
  obtain ⟨a1, a2, a3, a4⟩ := entBad_zero.1 h1
  obtain ⟨_, _, b3, b4⟩ := entBad_zero.1 h2
  refine entBad_zero.2 ⟨a1, headBad_more a2 (by simp) (by simpa using hl), linesBad_of (fun x hx => ?_), even_append a4 b4⟩
  rcases List.mem_append.1 hx with hx | hx
  · exact linesBad_zero a3 x hx
  · exact linesBad_zero b3 x hx
theorem fewBad_double {l : List Ln} (h : fewBad l = 0) (hl : 2 * l.length ≤ 20) : fewBad (l ++ l.map turnL) = 0 := by
  obtain ⟨_, h2⟩ := fewBad_zero h
  refine fewBad_of (by simp; omega) (fun x hx => ?_)
  rcases List.mem_append.1 hx with hx | hx
  · exact h2 x hx
  · obtain ⟨y, hy, rfl⟩ := List.mem_map.1 hx
    have := h2 y hy
    simp only [turnL]
    omega
end Go.Proofs.YtffekgndlhleiaaDoor
