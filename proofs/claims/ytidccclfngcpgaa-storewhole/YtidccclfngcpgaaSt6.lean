/-
  The contracts of store.newest and of a head's write.
-/
import Derived.Test.YtidccclfngcpgaaSt5
namespace Go.Proofs.Ytidccclfngcpgaa
set_option linter.unusedVariables false
set_option linter.unusedSimpArgs false
set_option maxRecDepth 100000
open Go.RowKit Go.Lib
/-- The newer one of two heads. -/
def newer (a b : Option Hd) : Option Hd := match b with
  | none => a
  | some y => match a with
    | none => some y
    | some x => if y.turn = x.turn + 1 then some y else some x
theorem getD_okH {o : Option Hd} (h : ∀ x, o = some x → x.ok) : (o.getD hd0).ok := by
  cases o with
  | none => exact hd0_ok
  | some x => exact h x rfl
section
variable {w W : World} {p nb sb : Nat} {cv : Value} {n : Nat} {D : Dk}
theorem readHead_any (a : Tn w W p nb sb cv n D) (i : Nat) (hi : i < n) (o : Option Hd) (h : hdAt D i o) :
    Calls Try.prog 23 #[.pointer (some ⟨p, 0, none⟩), .int .i64 (i : Int)] W fun e w' => e = .returned (.tuple #[hdV o, .bool o.isSome]) ∧ Hid (Below W.heap.size W w') := by
  cases o with
  | none =>
    rcases h with h | h
    · exact readHead_torn a i hi h
    · exact readHead_zero a i hi h
  | some x => exact readHead_some a i hi x h.2.1 h.2.2 h.1
theorem hdAt_ok {o : Option Hd} {i : Nat} (h : hdAt D i o) : ∀ x, o = some x → x.ok := fun x e => by subst e; exact h.2.1
theorem turn_add (x : UInt8) : ((x + 1).toNat : Int) = ((x.toNat : Int) + 1) % 256 := by
  rw [UInt8.toNat_add]
  have : (1 : UInt8).toNat = 1 := rfl
  rw [this]
  omega
set_option maxHeartbeats 4000000 in
theorem newest_any (a : Tn w W p nb sb cv n D) (hn : 2 ≤ n) (o0 o1 : Option Hd) (h0 : hdAt D 0 o0) (h1 : hdAt D 1 o1) :
    Calls Try.prog 15 #[.pointer (some ⟨p, 0, none⟩)] W fun e w' => e = .returned (.tuple #[hdV (newer o0 o1), .bool (newer o0 o1).isSome]) ∧ Hid (Below W.heap.size W w') := by
  have hal := alloc_head
  have k0 := getD_okH (hdAt_ok h0)
  have k1 := getD_okH (hdAt_ok h1)
  have kn : ((newer o0 o1).getD hd0).ok := getD_okH (fun x e => by
    unfold newer at e
    cases o1 with
    | none => exact hdAt_ok h0 x e
    | some y =>
      cases o0 with
      | none => exact hdAt_ok h1 x e
      | some z =>
        simp only at e
        split at e
        · exact hdAt_ok h1 x e
        · exact hdAt_ok h0 x e)
  have HR0 : Hid (∀ U, Below W.heap.size W U → Calls Try.prog 23 #[.pointer (some ⟨p, 0, none⟩), .int .i64 0] U fun e w' => e = .returned (.tuple #[hdV o0, .bool o0.isSome]) ∧ Hid (Below U.heap.size U w')) := fun U hU => readHead_any (a.below hU) 0 (by omega) o0 h0
  have HR1 : Hid (∀ U, Below W.heap.size W U → Calls Try.prog 23 #[.pointer (some ⟨p, 0, none⟩), .int .i64 1] U fun e w' => e = .returned (.tuple #[hdV o1, .bool o1.isSome]) ∧ Hid (Below U.heap.size U w')) := fun U hU => readHead_any (a.below hU) 1 (by omega) o1 h1
  obtain ⟨x0, hx0⟩ : ∃ x0, o0.getD hd0 = x0 := ⟨_, rfl⟩
  obtain ⟨x1, hx1⟩ : ∃ x1, o1.getD hd0 = x1 := ⟨_, rfl⟩
  have hsel : (newer o0 o1).getD hd0 = (if (o1.isSome && (!o0.isSome || ((x1.turn.toNat : Int) == ((x0.turn.toNat : Int) + 1) % 256))) = true then x1 else x0) ∧ (newer o0 o1).isSome = (if (o1.isSome && (!o0.isSome || ((x1.turn.toNat : Int) == ((x0.turn.toNat : Int) + 1) % 256))) = true then true else o0.isSome) := by
    subst hx0 hx1
    cases o1 with
    | none => simp [newer]
    | some y =>
      cases o0 with
      | none => simp [newer]
      | some z =>
        have e : ((y.turn.toNat : Int) == ((z.turn.toNat : Int) + 1) % 256) = decide (y.turn = z.turn + 1) := by
          rw [← turn_add]
          by_cases h : y.turn = z.turn + 1
          · rw [h]; simp
          · rw [decide_eq_false h, beq_eq_false_iff_ne]
            intro e
            exact h (UInt8.toNat_inj.1 (by omega))
        simp only [newer, Option.getD_some, Option.isSome_some, Bool.not_true, Bool.false_or, Bool.true_and, e, decide_eq_true_eq]
        split <;> simp
  have Hsel : Hid (_ ∧ _) := hsel
  have HK : Hid (x0.ok ∧ x1.ok) := ⟨hx0 ▸ k0, hx1 ▸ k1⟩
  unfold hdV at HR0 HR1
  rw [hx0] at HR0
  rw [hx1] at HR1
  unfold hdV
  rw [hsel.1, hsel.2]
  generalize o0.isSome = s0 at *
  generalize o1.isSome = s1 at *
  obtain ⟨C0, hC0⟩ : ∃ C0, hd0.cells.toArray = C0 := ⟨_, rfl⟩
  have HB0 : Hid (Below W.heap.size W (W.alloc (.cells hd0.cells.toArray 50))) := (Below.refl _ W).alloc (Nat.le_refl _) _
  have Hr0 : Hid ((W.alloc (.cells hd0.cells.toArray 50)).heap[W.heap.size]? = some (.cells hd0.cells.toArray 50 (0, 0))) := new_heap W _
  have hstn := fun (x : Hd) (kx : x.ok) U => run_storeAt_new (P := Try.prog) U 50 hd0.cells.toArray x.cells.toArray (by rw [List.size_toArray, Hd.cells_length kx]; exact head_size) (by rw [List.size_toArray, List.size_toArray, Hd.cells_length hd0_ok, Hd.cells_length kx]) (all_oneCell_toArray (Hd.cells_one _))
  have hst0 := hstn x0 HK.out.1
  have hst1 := hstn x1 HK.out.2
  rw [hC0] at hal HB0 hst0 hst1
  have Hr0' : Hid ((W.alloc (.cells C0 50)).heap[W.heap.size]? = some (.cells hd0.cells.toArray 50 (0, 0))) := by rw [← hC0]; exact new_heap W _
  obtain ⟨W0, hW0⟩ : ∃ W0, W.alloc (.cells C0 50) = W0 := ⟨_, rfl⟩
  rw [hW0] at HB0 Hr0'
  clear a h0 h1 k0 k1 kn hx0 hx1 hsel hstn Hr0
  go_enter Try.func15, Try.ntmps15
  go_wp2_with (refine wpList_alloc_run rfl 50 rfl (hal _) ?_)
  refine (HR0.out W0 HB0.out).mono ?_
  rintro e w1 ⟨rfl, hb1⟩
  have hsz1 : W.heap.size < w1.heap.size := by
    have := (Array.getElem?_eq_some_iff.1 Hr0'.out).1
    have := hb1.out.size
    omega
  have B1 : Hid (Below W.heap.size W (w1.alloc (.cells x0.cells.toArray 50))) := (HB0.out.trans (hb1.out.mono HB0.out.size)).alloc (by omega) _
  have H1 : Hid ((w1.alloc (.cells x0.cells.toArray 50)).heap[w1.heap.size]? = some (.cells x0.cells.toArray 50 (0, 0)) ∧ (w1.alloc (.cells x0.cells.toArray 50)).heap[W.heap.size]? = some (.cells hd0.cells.toArray 50 (0, 0))) :=
    ⟨new_heap w1 _, (Below.heap_alloc _ _ _ hsz1).trans ((hb1.out.block _ ((Array.getElem?_eq_some_iff.1 Hr0'.out).1)).trans Hr0'.out)⟩
  obtain ⟨B4, hB4⟩ : ∃ B4, w1.heap.size = B4 := ⟨_, rfl⟩
  obtain ⟨v1, hv1⟩ : ∃ v1, w1.alloc (.cells x0.cells.toArray 50) = v1 := ⟨_, rfl⟩
  rw [hv1, hB4] at H1
  rw [hv1] at B1
  have hst0' := hst0 w1
  rw [hv1] at hst0'
  clear hb1 hst0
  go_wp2_with (first | (refine wpList_alloc_run rfl 50 rfl (hal _) ?_) | (refine wpList_store_run rfl 50 _ _ rfl _ _ (by rfl) (by rfl) hst0' ?_))
  refine (HR1.out v1 B1.out).mono ?_
  rintro e w2 ⟨rfl, hb2⟩
  have hsv1 : B4 < v1.heap.size := (Array.getElem?_eq_some_iff.1 H1.out.1).1
  have hsz2 : v1.heap.size ≤ w2.heap.size := hb2.out.size
  have B2 : Hid (Below W.heap.size W (w2.alloc (.cells x1.cells.toArray 50))) := (B1.out.trans (hb2.out.mono B1.out.size)).alloc (by have := B1.out.size; omega) _
  have H2 : Hid ((w2.alloc (.cells x1.cells.toArray 50)).heap[w2.heap.size]? = some (.cells x1.cells.toArray 50 (0, 0)) ∧ (w2.alloc (.cells x1.cells.toArray 50)).heap[B4]? = some (.cells x0.cells.toArray 50 (0, 0)) ∧ (w2.alloc (.cells x1.cells.toArray 50)).heap[W.heap.size]? = some (.cells hd0.cells.toArray 50 (0, 0))) :=
    ⟨new_heap w2 _, (Below.heap_alloc _ _ _ (by omega)).trans ((hb2.out.block _ hsv1).trans H1.out.1), (Below.heap_alloc _ _ _ (by omega)).trans ((hb2.out.block _ (by omega)).trans H1.out.2)⟩
  obtain ⟨B6, hB6⟩ : ∃ B6, w2.heap.size = B6 := ⟨_, rfl⟩
  obtain ⟨v2, hv2⟩ : ∃ v2, w2.alloc (.cells x1.cells.toArray 50) = v2 := ⟨_, rfl⟩
  rw [hv2, hB6] at H2
  rw [hv2] at B2
  have hst1' := hst1 w2
  rw [hv2] at hst1'
  have c6 : v2.cell? ⟨B6, 1, none⟩ = some (.int .u8 (x1.turn.toNat : Int)) := by
    rw [cell_of_row v2 _ _ _ _ (0, 0) H2.out.1]; rfl
  have c4 : v2.cell? ⟨B4, 1, none⟩ = some (.int .u8 (x0.turn.toNat : Int)) := by
    rw [cell_of_row v2 _ _ _ _ (0, 0) H2.out.2.1]; rfl
  have hld1 := load_head (o := 0) HK.out.2 (range0 H2.out.1)
  have hld0 := load_head (o := 0) HK.out.1 (range0 H2.out.2.1)
  have hsr1 := store_box HK.out.2 hd0_ok H2.out.2.2
  have hsr0 := store_box HK.out.1 hd0_ok H2.out.2.2
  have HE1 : Hid ((v2.setRow W.heap.size x1.cells.toArray).heap[W.heap.size]? = some (.cells x1.cells.toArray 50 (0, 0)) ∧ Below W.heap.size W (v2.setRow W.heap.size x1.cells.toArray)) := ⟨setRow_heap _ _ _ _ _ _ H2.out.2.2, setRow_below B2.out (Nat.le_refl _)⟩
  have HE0 : Hid ((v2.setRow W.heap.size x0.cells.toArray).heap[W.heap.size]? = some (.cells x0.cells.toArray 50 (0, 0)) ∧ Below W.heap.size W (v2.setRow W.heap.size x0.cells.toArray)) := ⟨setRow_heap _ _ _ _ _ _ H2.out.2.2, setRow_below B2.out (Nat.le_refl _)⟩
  have t0 := UInt8.toNat_lt x0.turn
  have t1 := UInt8.toNat_lt x1.turn
  have t0' : (x0.turn.toNat : Int) < 256 := by omega
  have t0'' : (0 : Int) ≤ (x0.turn.toNat : Int) := by omega
  clear hb2 hst1 H1 H2 B1 B2 t0 t1 Hsel HR0 HR1 hst0' HB0 Hr0'
  cases s1
  · go_wp2_with (first | (refine wpList_alloc_run rfl 50 rfl (hal _) ?_) | (refine wpList_store_run rfl 50 _ _ rfl _ _ (by rfl) (by rfl) hst1' ?_) | (refine wpList_load_run rfl 50 _ rfl _ (by rfl) hld0 ?_) | (refine wpList_store_run rfl 50 _ _ rfl _ _ (by rfl) (by rfl) hsr0 ?_))
    refine bodyPost_ret (head_results rfl _ HK.out.1 (by rfl) HE0.out.1) rfl ?_
    exact ⟨rfl, HE0.out.2⟩
  · cases s0
    · go_wp2_with (first | (refine wpList_alloc_run rfl 50 rfl (hal _) ?_) | (refine wpList_store_run rfl 50 _ _ rfl _ _ (by rfl) (by rfl) hst1' ?_) | (refine wpList_load_run rfl 50 _ rfl _ (by rfl) hld1 ?_) | (refine wpList_store_run rfl 50 _ _ rfl _ _ (by rfl) (by rfl) hsr1 ?_))
      refine bodyPost_ret (head_results rfl _ HK.out.2 (by rfl) HE1.out.1) rfl ?_
      exact ⟨rfl, HE1.out.2⟩
    · have hqq : ((x1.turn.toNat : Int) == ((x0.turn.toNat : Int) + 1) % 256) = false ∨ ((x1.turn.toNat : Int) == ((x0.turn.toNat : Int) + 1) % 256) = true := by
        cases ((x1.turn.toNat : Int) == ((x0.turn.toNat : Int) + 1) % 256)
        · exact .inl rfl
        · exact .inr rfl
      rcases hqq with hq | hq
      · have Hq : Hid (((x1.turn.toNat : Int) == ((x0.turn.toNat : Int) + 1) % 256) = false) := hq
        go_wp2_with (first | (refine wpList_alloc_run rfl 50 rfl (hal _) ?_) | (refine wpList_store_run rfl 50 _ _ rfl _ _ (by rfl) (by rfl) hst1' ?_) | (refine wpList_load_run rfl 50 _ rfl _ (by rfl) hld0 ?_) | (refine wpList_store_run rfl 50 _ _ rfl _ _ (by rfl) (by rfl) hsr0 ?_))
        all_goals
          refine bodyPost_ret (head_results rfl _ HK.out.1 (by rfl) HE0.out.1) rfl ?_
          exact ⟨rfl, HE0.out.2⟩
      · have Hq : Hid (((x1.turn.toNat : Int) == ((x0.turn.toNat : Int) + 1) % 256) = true) := hq
        go_wp2_with (first | (refine wpList_alloc_run rfl 50 rfl (hal _) ?_) | (refine wpList_store_run rfl 50 _ _ rfl _ _ (by rfl) (by rfl) hst1' ?_) | (refine wpList_load_run rfl 50 _ rfl _ (by rfl) hld1 ?_) | (refine wpList_store_run rfl 50 _ _ rfl _ _ (by rfl) (by rfl) hsr1 ?_))
        all_goals
          refine bodyPost_ret (head_results rfl _ HK.out.2 (by rfl) HE1.out.1) rfl ?_
          exact ⟨rfl, HE1.out.2⟩
end
end Go.Proofs.Ytidccclfngcpgaa
