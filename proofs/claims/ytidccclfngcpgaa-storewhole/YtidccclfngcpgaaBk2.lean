/-
  The contracts of block.New and block.marked.
-/
import Derived.Test.YtidccclfngcpgaaBk1
import Derived.Test.YtidccclfngcpgaaRegionL2
import Derived.Deep.RegionWith
import Derived.Deep.OwnRows
import Derived.BigRegion
namespace Go.Proofs.Ytidccclfngcpgaa
set_option linter.unusedVariables false
set_option linter.unusedSimpArgs false
set_option maxRecDepth 100000
open Go.RowKit Go.Lib

def dk0 (n : Nat) : Dk := ⟨List.replicate n bk0, List.replicate n bk0, [], 0, -1⟩
theorem dk0_ok (n : Nat) : (dk0 n).ok n :=
  ⟨by simp [dk0], by simp [dk0], by simp [dk0, bk0_ok], by simp [dk0, bk0_ok], by simp [dk0]⟩

theorem content_info : (Try.prog.info? 66).map (fun i => (i.zero, i.size, i.bytes)) = some (some (.agg bk0.cells.toArray), 65, 65) := by kernel_rfl
theorem rep_row {α : Type} (f : α → List Value) (z : Nat) (x : α) (hz : (f x).length = z) (hp : 0 < z) (n : Nat) : madeCells (f x).toArray (n * z) = (rowOf f (List.replicate n x)).toArray := by
  apply Array.ext
  · rw [size_madeCells, List.size_toArray, rowOf_length f z _ (by intro y hy; rw [List.eq_of_mem_replicate hy]; exact hz), List.length_replicate]
  · intro k h1 h2
    rw [size_madeCells] at h1
    have hq : k / z < n := Nat.div_lt_of_lt_mul (by rw [Nat.mul_comm]; exact h1)
    have hr : k % z < z := Nat.mod_lt _ hp
    have e : k / z * z + k % z = k := by rw [Nat.mul_comm]; exact Nat.div_add_mod k z
    have g := rowOf_get f z (List.replicate n x) (k / z) (k % z) (by simpa using hq) (by intro y hy; rw [List.eq_of_mem_replicate hy]; exact hz) hr
    rw [e] at g
    simp only [List.getElem_replicate] at g
    simp only [madeCells, Array.getElem_map, Array.getElem_range, List.size_toArray, hz, List.getElem_toArray]
    have h3 : k % z < (f x).toArray.size := by simpa [hz] using hr
    rw [getElem!_pos (f x).toArray (k % z) h3]
    rw [List.getElem?_eq_getElem (by simpa using h2), List.getElem?_eq_getElem (by simpa [hz] using hr)] at g
    simpa using (Option.some.inj g).symm
theorem make_blocks (n : Nat) (hn : n ≤ 200) (w : World) : (Instr.makeSlice 44 (.int .i64 (n : Int)) (.int .i64 (n : Int))).run Try.prog w = .ok (.slice (some ⟨w.heap.size, 0, none⟩) n n) (w.alloc (.cells (rowOf Bk.cells (List.replicate n bk0)).toArray 66)) := by
  obtain ⟨i, hi, hzz⟩ := Option.map_eq_some_iff.1 content_info
  simp only [Prod.mk.injEq] at hzz
  obtain ⟨hz, hs, hb⟩ := hzz
  have h := run_make (P := Try.prog) w 44 66 i (.agg bk0.cells.toArray) Try.underlying44 hi hz .i64 .i64 n n (by omega) (by omega) (by rw [hb]; omega) (by omega)
  rw [hs] at h
  simp only [Int.toNat_natCast, Value.cells] at h
  rw [rep_row Bk.cells 65 bk0 (Bk.cells_length bk0_ok) (by omega)] at h
  exact h

theorem new_bad (n : Int) (w : World) (h : ¬ (1 ≤ n ∧ n ≤ 200)) :
    Calls Try.prog 4 #[.int .i64 n] w fun e w' => e = .returned (.tuple #[.pointer none, enE 1]) ∧ w' = w := by
  rw [enE_ne (by decide)]
  by_cases h1 : n < 1
  · go_enter Try.func4, Try.ntmps4
    go_wp2
    go_ret2
    exact ⟨rfl, rfl⟩
  · have h2 : 200 < n := by omega
    go_enter Try.func4, Try.ntmps4
    go_wp2
    go_ret2
    exact ⟨rfl, rfl⟩

theorem three_new (w : World) (o1 o2 o3 : Obj) : (((w.alloc o1).alloc o2).alloc o3).heap[w.heap.size]? = some o1 ∧ (((w.alloc o1).alloc o2).alloc o3).heap[w.heap.size + 1]? = some o2 ∧ (((w.alloc o1).alloc o2).alloc o3).heap[w.heap.size + 2]? = some o3 := by
  refine ⟨?_, ?_, ?_⟩
  · rw [Below.heap_alloc _ _ _ (by simp; omega), Below.heap_alloc _ _ _ (by simp), new_heap]
  · rw [Below.heap_alloc _ _ _ (by simp)]
    have := new_heap (w.alloc o1) o2
    rwa [World.size_alloc] at this
  · have := new_heap ((w.alloc o1).alloc o2) o3
    rwa [World.size_alloc, World.size_alloc] at this

set_option maxHeartbeats 4000000 in
theorem new_ok (n : Nat) (w : World) (h1 : 1 ≤ n) (h2 : n ≤ 200) :
    Calls Try.prog 4 #[.int .i64 (n : Int)] w fun e w' => ∃ p nb sb, e = .returned (.tuple #[.pointer (some ⟨p, 0, none⟩), .nilIface]) ∧ DkAt w' w.heap.size p nb sb (.slice none 0 0) n (dk0 n) ∧ Below w.heap.size w w' := by
  have hmk := make_blocks n h2
  have Hend : Hid (∀ R, R = rowOf Bk.cells (List.replicate n bk0) → ∀ a b, ((a = w.heap.size ∧ b = w.heap.size + 1) ∨ (a = w.heap.size + 1 ∧ b = w.heap.size)) →
      DkAt (((w.drew.alloc (.cells R.toArray 66)).alloc (.cells R.toArray 66)).alloc (.cells #[.slice (some ⟨a, 0, none⟩) n n, .slice (some ⟨b, 0, none⟩) n n, .slice none 0 0, .int .i64 0, .int .i64 (-1)] 47)) w.heap.size (w.heap.size + 2) a b (.slice none 0 0) n (dk0 n)) := by
    intro R hR a b hab
    obtain ⟨e1, e2, e3⟩ := three_new w.drew (.cells R.toArray 66) (.cells R.toArray 66) (.cells #[.slice (some ⟨a, 0, none⟩) n n, .slice (some ⟨b, 0, none⟩) n n, .slice none 0 0, .int .i64 0, .int .i64 (-1)] 47)
    have ew : w.drew.heap.size = w.heap.size := rfl
    rw [ew] at e1 e2 e3
    subst hR
    rcases hab with ⟨rfl, rfl⟩ | ⟨rfl, rfl⟩
    · exact ⟨e3, e1, e2, by omega, by omega, by omega, by omega, World.ownsRow_nil _ _ _ _, dk0_ok n⟩
    · exact ⟨e3, e2, e1, by omega, by omega, by omega, by omega, World.ownsRow_nil _ _ _ _, dk0_ok n⟩
  have n1 : (1 : Int) ≤ n := by omega
  have n2 : (n : Int) ≤ 200 := by omega
  have HR : Hid (_ = _) := (rfl : rowOf Bk.cells (List.replicate n bk0) = rowOf Bk.cells (List.replicate n bk0))
  generalize hRR : rowOf Bk.cells (List.replicate n bk0) = R at hmk HR
  have HRR : Hid (R = rowOf Bk.cells (List.replicate n bk0)) := hRR.symm
  clear hRR HR
  go_enter Try.func4, Try.ntmps4
  go_wp2
  refine wp_region_any (by kernel_rfl) ?_
  refine wpAny_take (i := 0) (v := .int .i64 n) rfl (by kernel_rfl) (by kernel_rfl) (by kernel_rfl) (fun _ _ _ h => h) (Or.inl ⟨by rfl, fun w => by go_simp⟩) ?_
  simp only [Act.put, List.getElem_toArray, List.getElem_cons_succ, List.getElem_cons_zero, List.setIfInBounds_toArray, List.set_cons_zero, List.set_cons_succ]
  refine wpAny_take (i := 2) (v := .int .i64 n) rfl (by kernel_rfl) (by kernel_rfl) (by kernel_rfl) (fun _ _ _ h => h) (Or.inl ⟨by rfl, fun w => by go_simp⟩) ?_
  simp only [Act.put, List.getElem_toArray, List.getElem_cons_succ, List.getElem_cons_zero, List.setIfInBounds_toArray, List.set_cons_zero, List.set_cons_succ]
  refine wpAny_ready (rs := [1, 3]) (by kernel_rfl) (by simp) (AllReady.cons rfl (fun K hK => ?_) (AllReady.cons rfl (fun K hK => ?_) AllReady.nil))
  · rw [if_pos (by rfl)]
    have hK' : Shut (∀ a w, _ → K a w) := hK
    clear hK
    go_wp2
    refine hK'.out _ _ ?_
    clear hK' K
    refine any_one (i := 3) (by kernel_rfl) ?_
    refine wpOp_step rfl ?_
    intro K hK
    rw [if_pos (by rfl)]
    have hK' : Shut (∀ a w, _ → K a w) := hK
    clear hK
    go_wp2
    refine hK'.out _ _ ?_
    clear hK' K
    refine any_one (i := 4) (by kernel_rfl) ?_
    refine wpOp_step rfl ?_
    intro K hK
    rw [if_pos (by rfl)]
    have hK' : Shut (∀ a w, _ → K a w) := hK
    clear hK
    go_wp2
    refine hK'.out _ _ ?_
    clear hK' K
    refine any_one (i := 5) (by kernel_rfl) ?_
    refine wpOp_step rfl ?_
    intro K hK
    rw [if_pos (by rfl)]
    have hK' : Shut (∀ a w, _ → K a w) := hK
    clear hK
    go_wp2
    refine hK'.out _ _ ?_
    clear hK' K
    refine any_one (i := 6) (by kernel_rfl) ?_
    refine wpOp_step rfl ?_
    intro K hK
    rw [if_pos (by rfl)]
    have hK' : Shut (∀ a w, _ → K a w) := hK
    clear hK
    go_wp2
    refine hK'.out _ _ ?_
    clear hK' K
    refine any_one (i := 7) (by kernel_rfl) ?_
    refine wpOp_step rfl ?_
    intro K hK
    rw [if_pos (by rfl)]
    have hK' : Shut (∀ a w, _ → K a w) := hK
    clear hK
    go_wp2
    refine hK'.out _ _ ?_
    clear hK' K
    refine wpAny_done (by kernel_rfl) ?_ _
    go_wp2
    go_ret2
    exact ⟨_, _, _, rfl, Hend.out R HRR.out _ _ (.inl ⟨rfl, rfl⟩), (((Below.refl _ w).drew.alloc (Nat.le_refl _) _).alloc (by simp) _).alloc (by simp; omega) _⟩
  · rw [if_pos (by rfl)]
    have hK' : Shut (∀ a w, _ → K a w) := hK
    clear hK
    go_wp2
    refine hK'.out _ _ ?_
    clear hK' K
    refine any_one (i := 1) (by kernel_rfl) ?_
    refine wpOp_step rfl ?_
    intro K hK
    rw [if_pos (by rfl)]
    have hK' : Shut (∀ a w, _ → K a w) := hK
    clear hK
    go_wp2
    refine hK'.out _ _ ?_
    clear hK' K
    refine any_one (i := 4) (by kernel_rfl) ?_
    refine wpOp_step rfl ?_
    intro K hK
    rw [if_pos (by rfl)]
    have hK' : Shut (∀ a w, _ → K a w) := hK
    clear hK
    go_wp2
    refine hK'.out _ _ ?_
    clear hK' K
    refine any_one (i := 5) (by kernel_rfl) ?_
    refine wpOp_step rfl ?_
    intro K hK
    rw [if_pos (by rfl)]
    have hK' : Shut (∀ a w, _ → K a w) := hK
    clear hK
    go_wp2
    refine hK'.out _ _ ?_
    clear hK' K
    refine any_one (i := 6) (by kernel_rfl) ?_
    refine wpOp_step rfl ?_
    intro K hK
    rw [if_pos (by rfl)]
    have hK' : Shut (∀ a w, _ → K a w) := hK
    clear hK
    go_wp2
    refine hK'.out _ _ ?_
    clear hK' K
    refine any_one (i := 7) (by kernel_rfl) ?_
    refine wpOp_step rfl ?_
    intro K hK
    rw [if_pos (by rfl)]
    have hK' : Shut (∀ a w, _ → K a w) := hK
    clear hK
    go_wp2
    refine hK'.out _ _ ?_
    clear hK' K
    refine wpAny_done (by kernel_rfl) ?_ _
    go_wp2
    go_ret2
    exact ⟨_, _, _, rfl, Hend.out R HRR.out _ _ (.inr ⟨rfl, rfl⟩), (((Below.refl _ w).drew.alloc (Nat.le_refl _) _).alloc (by simp) _).alloc (by simp; omega) _⟩
end Go.Proofs.Ytidccclfngcpgaa
