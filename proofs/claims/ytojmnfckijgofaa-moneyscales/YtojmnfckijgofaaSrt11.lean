/-
  The contract of money.byCut: the numbers of the parts, those of which most was cut off first.
-/
import Derived.Test.YtojmnfckijgofaaSrt10
import Derived.Deep.OwnRows
import Derived.Below
import Derived.Shelf.Abstract
namespace Go.Proofs.Ytojmnfckijgofaa
set_option linter.unusedVariables false
set_option linter.unusedSimpArgs false
set_option maxRecDepth 100000
open Go.RowKit Go.Lib

theorem srt_int : (Try.prog.info? 3).map (fun i => (i.zero, i.size, i.bytes)) = some (some (.int .i64 0), 1, 8) := by kernel_rfl
theorem srt_u64 : (Try.prog.info? 32).map (fun i => (i.zero, i.size, i.bytes)) = some (some (.int .u64 0), 1, 8) := by kernel_rfl
theorem nrow_made (w : World) (n : Nat) : NRow (w.alloc (.cells (madeCells #[.int .i64 0] n) 3)) w.heap.size (List.replicate n 0) := by
  unfold NRow
  rw [show (w.alloc (.cells (madeCells #[.int .i64 0] n) 3)).heap[w.heap.size]? = some (.cells (madeCells #[.int .i64 0] n) 3 (0, 0)) by unfold World.alloc; simp only [Array.getElem?_push_size]]
  congr 2
  apply Array.ext
  · simp [madeCells]
  · intro i h1 h2
    simp [madeCells, Nat.mod_one]
theorem srow_step (f : Nat → Int) (n k : Nat) (h : k < n) : ((List.range k).map f ++ List.replicate (n - k) 0).set k (f k) = (List.range (k + 1)).map f ++ List.replicate (n - (k + 1)) 0 := by
  rw [List.set_append_right _ _ (by simp)]
  simp only [List.length_map, List.length_range, Nat.sub_self]
  obtain ⟨m, hm⟩ : ∃ m, n - k = m + 1 := ⟨n - k - 1, by omega⟩
  rw [hm, List.replicate_succ, List.set_cons_zero, List.range_succ, List.map_append, List.append_assoc, show n - (k + 1) = m by omega]
  rfl
theorem But.below {g n : Nat} {A B : World} (h : But g A B) (hn : n ≤ g) : Below n A B := ⟨h.os, h.tape, h.output, Nat.le_of_eq h.size, fun b hb => h.block b (by omega)⟩

set_option maxHeartbeats 4000000 in
theorem byCut_any (gc ccap : Nat) (cut : List Int) (w : World) (hg : gc < w.heap.size) (hc : ∀ i, i < cut.length → w.cell? ⟨gc, i, none⟩ = some (.int .u64 (cut.getD i 0))) (hn0 : 0 < cut.length) (hn : cut.length ≤ 40) :
    Calls Try.prog 11 #[.slice (some ⟨gc, 0, none⟩) cut.length ccap] w fun e w' => e = .returned (.slice (some ⟨w.heap.size + 1, 0, none⟩) cut.length cut.length) ∧ Hid (Below w.heap.size w w' ∧ ∃ s : List Nat, s.Perm (List.range cut.length) ∧ s.Pairwise (LT cut) ∧ NRow w' (w.heap.size + 1) (toI s)) := by
  have hmk := fun w => run_make_row' (P := Try.prog) 22 3 (.int .i64 0) 8 Try.underlying22 srt_int rfl .i64 .i64 cut.length (by omega) (by omega) w
  obtain ⟨wA, hwA⟩ : ∃ wA, w.alloc (.cells #[.slice (some ⟨gc, 0, none⟩) cut.length ccap] 35) = wA := ⟨_, rfl⟩
  have hA1 : wA.heap.size = w.heap.size + 1 := by rw [← hwA]; simp
  have hA2 : wA.cell? ⟨w.heap.size, 0, none⟩ = some (.slice (some ⟨gc, 0, none⟩) cut.length ccap) := by rw [← hwA]; simp
  have bA : Below w.heap.size w wA := by rw [← hwA]; exact (Below.refl _ w).alloc (Nat.le_refl _) _
  have hrow := nrow_made wA cut.length
  have bB : Below wA.heap.size wA (wA.alloc (.cells (madeCells #[.int .i64 0] cut.length) 3)) := (Below.refl _ wA).alloc (Nat.le_refl _) _
  have hsB : (wA.alloc (.cells (madeCells #[.int .i64 0] cut.length) 3)).heap.size = w.heap.size + 2 := by simp [hA1]
  have HS : Hid (∀ W, But (w.heap.size + 1) (wA.alloc (.cells (madeCells #[.int .i64 0] cut.length) 3)) W → NRow W (w.heap.size + 1) (toI (List.range cut.length)) → Calls Try.prog 19 #[.slice (some ⟨w.heap.size + 1, 0, none⟩) cut.length cut.length, byF w.heap.size] W fun e w' => e = .returned (.tuple #[]) ∧ Hid (Below w.heap.size w w' ∧ ∃ s : List Nat, s.Perm (List.range cut.length) ∧ s.Pairwise (LT cut) ∧ NRow w' (w.heap.size + 1) (toI s))) := fun W hW hR => by
    have hb : Below (w.heap.size + 1) wA W := by
      have := bB.trans (hW.below (n := wA.heap.size) (by omega))
      rw [hA1] at this; exact this
    have hca : CutAt W w.heap.size gc cut ccap := ⟨(hb.cell (p := ⟨w.heap.size, 0, none⟩) (Nat.lt_succ_self _)).trans hA2, fun i hi => ((bA.trans (hb.mono (Nat.le_succ _))).cell (p := ⟨gc, i, none⟩) hg).trans (hc i hi)⟩
    have c := sortStable_any (w.heap.size + 1) cut.length w.heap.size gc ccap cut (List.range cut.length) W hR (by simpa using hn0) (by simpa using hn) hca (by omega) (by omega) (fun z hz => List.mem_range.1 hz) List.pairwise_lt_range
    rw [List.length_range] at c
    refine c.mono ?_
    rintro e w' ⟨rfl, hh⟩
    obtain ⟨s, p1, p2, p3, p4⟩ := hh.out
    refine ⟨rfl, (bA.trans (hb.mono (Nat.le_succ _))).trans (p4.below (by omega)), s, p1, p2, p3⟩
  have HB0 : Hid (NRow (wA.alloc (.cells (madeCells #[.int .i64 0] cut.length) 3)) wA.heap.size (List.replicate cut.length 0)) := hrow
  unfold byF at HS
  rw [hA1] at HB0
  generalize cut.length = n at *
  have n0 : (0 : Int) ≤ n := by omega
  have n1 : (n : Int) ≤ 40 := by omega
  clear hc hrow bB bA
  go_enter Try.func11, Try.ntmps11
  go_wp2
  clear hmk
  obtain ⟨wB, hwB⟩ : ∃ wB, wA.alloc (.cells (madeCells #[.int .i64 0] n) 3) = wB := ⟨_, rfl⟩
  rw [hwB] at HS HB0 ⊢
  obtain ⟨g, hgg⟩ : ∃ g, w.heap.size + 1 = g := ⟨_, rfl⟩
  rw [hgg] at HS HB0 ⊢
  clear hwB hwA hA2
  go_loopw [10] (fun t wr => ∃ k : Nat, k ≤ n ∧ t = .int .i64 k ∧ Hid (NRow wr g ((List.range k).map (fun i : Nat => (i : Int)) ++ List.replicate (n - k) 0) ∧ But g wB wr)) (fun t _ => n - (intOf t).toNat)
  case atStart => exact ⟨0, Nat.zero_le _, rfl, by simpa using HB0.out, But.refl _ _⟩
  case round =>
    obtain ⟨k, hk, rfl, H⟩ := hrel
    obtain ⟨R, B⟩ := H.out
    by_cases hlt : k < n
    · have hrl : ((List.range k).map (fun i : Nat => (i : Int)) ++ List.replicate (n - k) 0).length = n := by simp; omega
      have ck := R.cell (i := k) (by rw [hrl]; exact hlt)
      have fk := R.frozen k
      have R2 := R.set k (k : Int)
      rw [srow_step (fun i : Nat => (i : Int)) n k hlt] at R2
      have HR2 : Hid (NRow (wr.setCell ⟨g, k, none⟩ (.int .i64 (k : Int))) g ((List.range (k + 1)).map (fun i : Nat => (i : Int)) ++ List.replicate (n - (k + 1)) 0) ∧ But g wB (wr.setCell ⟨g, k, none⟩ (.int .i64 (k : Int)))) := ⟨R2, B.set k _⟩
      have k0 : (0 : Int) ≤ k := by omega
      have k1 : (k : Int) < n := by omega
      generalize ((List.range k).map (fun i : Nat => (i : Int)) ++ List.replicate (n - k) 0).getD k 0 = z at ck
      clear R B R2 H hrl
      go_wp2
      go_roundw
      case rel => exact ⟨k + 1, by omega, by go_num, HR2⟩
      case measure => simp [intOf]; omega
    · have ek : k = n := by omega
      subst ek
      have k1 : ¬ (k : Int) < k := by omega
      have HC : Hid (Calls _ _ _ _ _) := HS.out wr B (by have R' := R; rw [Nat.sub_self, List.replicate_zero, List.append_nil] at R'; exact R')
      clear R B H
      go_wp2_with fail
      refine HC.out.mono ?_
      rintro e w1 ⟨rfl, hh⟩
      go_wp2
      go_ret
      rw [← hgg] at hh
      refine ⟨?_, hh⟩
      rw [hgg]; rfl
end Go.Proofs.Ytojmnfckijgofaa
