/-
  A disk of any number of blocks that does not fail: what a store finds there when it is opened.
-/
import Derived.Test.YteffpglmgekkiaaDoorSw2
import Derived.Test.YteffpglmgekkiaaDoorSp1
namespace Go.Proofs.YteffpglmgekkiaaDoor
set_option linter.unusedVariables false
set_option linter.unusedSimpArgs false
set_option maxRecDepth 100000
open Go.RowKit Go.Lib
structure Gd (D : Dk) (n : Nat) (h : Hd) (f : Nat → List UInt8) : Prop where
  fl : D.fail < 0
  ln : D.now.length = n
  hd : hdAt D h.blk (some h)
  ot : ∃ o, hdAt D (1 - h.blk) o ∧ (h.blk = 0 → newer (some h) o = some h) ∧ (h.blk = 1 → newer o (some h) = some h)
  pg : Pages D n h f
theorem Gd.heads {D : Dk} {n : Nat} {h : Hd} {f : Nat → List UInt8} (g : Gd D n h f) : ∃ o0 o1, hdAt D 0 o0 ∧ hdAt D 1 o1 ∧ newer o0 o1 = some h := by
  obtain ⟨o, h1, h2, h3⟩ := g.ot
  have hb := g.hd.2.1.b
  have hd := g.hd
  rcases (show h.blk = 0 ∨ h.blk = 1 by omega) with e | e
  · rw [e] at h1 hd
    exact ⟨some h, o, hd, h1, h2 e⟩
  · rw [e] at h1 hd
    exact ⟨o, some h, h1, hd, h3 e⟩
theorem Gd.next {D : Dk} {n : Nat} {h : Hd} {f : Nat → List UInt8} (g : Gd D n h f) (hn : 90 ≤ n) (P : List (Nat × List UInt8)) (hP : ∀ k l, look P k = some l → l.length ≤ 60) (hv : h.ver + 1 ≤ 1000000) : Gd (nxD D h P) n (nxH h P) (fun j => (look P j).getD (f j)) := by
  have hb := g.hd.2.1.b
  have hk := g.hd.2.1
  have gl := g.ln
  have en := nxD_now D h P g.fl
  have hlen : (wpD h P D.flush 40).now.length = n := by rw [wpD_now_len]; exact g.ln
  have hbn : (nxH h P).blk = 1 - h.blk := rfl
  have kn : (nxH h P).ok := ⟨by rw [hbn]; omega, hv, by show (wpW h P h.whr 40).length = 40; rw [wpW_length]; exact hk.w⟩
  refine ⟨nxD_fail D h P g.fl, by rw [en, List.length_set, hlen], ⟨by rw [hbn, en, getD_set_eq _ _ _ _ (by omega)], kn, rfl⟩, ⟨some h, ?_, newer_next h P hb⟩, g.pg.next hk g.ln (by omega) P hP g.fl⟩
  refine ⟨?_, hk, by rw [hbn]; omega⟩
  rw [hbn, show 1 - (1 - h.blk) = h.blk by omega, en, getD_set_ne _ _ _ _ _ (by omega), wpD_stay]
  · exact g.hd.1
  · intro j hj _ e
    have := freeB_lt j (h.whr.getD j 0) hj
    omega
theorem fmt_gd (n : Nat) (hn : 90 ≤ n) : Gd (fmtD n) n (fmtH none) (fun _ => []) := by
  obtain ⟨ef, en, ff, fl⟩ := fmtD_eq n
  obtain ⟨h0, h1⟩ := fmtD_heads n hn
  exact ⟨by rw [ff]; decide, by rw [en, List.length_set, List.length_replicate], h1, ⟨none, h0, fun _ => rfl, fun _ => rfl⟩, fmtD_pages n⟩
end Go.Proofs.YteffpglmgekkiaaDoor
