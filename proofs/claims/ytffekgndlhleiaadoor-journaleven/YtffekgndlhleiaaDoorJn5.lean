/-
  The contracts of a journal's At and Of.
-/
import Derived.Test.YtffekgndlhleiaaDoorJn4
namespace Go.Proofs.YtffekgndlhleiaaDoor
set_option linter.unusedVariables false
set_option linter.unusedSimpArgs false
set_option maxRecDepth 100000
open Go.RowKit Go.Lib
section
variable {W : World} {n0 bj bm : Nat} {v : Value} {es : List Je}
set_option maxHeartbeats 2000000 in
theorem jat_ok (h : JAt W n0 bj bm v es) (hlen : es.length ≤ 200) (k : Nat) (hk : k < es.length) (h1 : (es.getD k je0).lns ≠ []) (h2 : (es.getD k je0).lns.length ≤ 20) :
    Calls Tryd.prog 11 #[.pointer (some ⟨bj, 0, none⟩), .int .i64 (k : Int)] W fun e w' => ∃ a' cap', e = .returned (.tuple #[.agg #[.string (es.getD k je0).ref, .int .i64 (es.getD k je0).ent, .int .i64 (es.getD k je0).per, .slice a' (es.getD k je0).lns.length cap'], .nilIface]) ∧ LnRow w' W.heap.size (.slice a' (es.getD k je0).lns.length cap') (es.getD k je0).lns ∧ Below W.heap.size W w' := by
  have b0 : Below W.heap.size W (W.alloc (.cells #[.string ByteArray.empty, .int .i64 0, .int .i64 0, .slice none 0 0] 33)) := (Below.refl _ W).alloc (Nat.le_refl _) _
  have x0 := Box4.new W ByteArray.empty 0 0 (.slice none 0 0)
  have hs0 : (W.alloc (.cells #[.string ByteArray.empty, .int .i64 0, .int .i64 0, .slice none 0 0] 33)).heap.size = W.heap.size + 1 := by simp
  have j0 := h.below b0
  have HL : Hid (Calls _ _ _ _ _) := jlen_any j0
  have hln := j0.lns _ (jes_mem es k hk)
  obtain ⟨va, vc, rfl, hcap, hlie⟩ := j0.row.lies
  rcases hlie with hh | ⟨b, off, rfl, hb, hcl⟩
  · rw [hh] at hk; simp at hk
  have c0 := j0.c0
  obtain ⟨d0, d1, d2, d3⟩ := hcl k hk
  generalize es.getD k je0 = x at *
  obtain ⟨r, en, pe, a, cap, l⟩ := x
  simp only at h1 h2 hln d0 d1 d2 d3 ⊢
  obtain ⟨a', cap', e', hil⟩ := hln.isLn
  cases e'
  have HA : Hid (Calls _ _ _ _ _) := apart_any r en pe a l cap _ hil h1 h2
  have q0 : (0 : Int) ≤ k := by omega
  have q1 : (k : Int) < es.length := by omega
  have q2 : ¬ (es.length : Int) ≤ k := by omega
  have q3 : ¬ (k : Int) < 0 := by omega
  have q4 : (es.length : Int) ≤ 200 := by omega
  clear h hlen hln hil hcl h1 h2 j0 hcap hk
  go_enter Tryd.func11, Tryd.ntmps11
  go_wp2_with fail
  refine HL.out.mono ?_
  rintro e w1 ⟨rfl, hw⟩
  rw [hw]; clear hw w1 HL
  go_wp2_with fail
  refine HA.out.mono ?_
  rintro e w3 ⟨a3, k3, rfl, r3, b3⟩
  rw [hs0] at r3 b3
  have B3 := b0.trans (b3.mono (by omega))
  have y3 := x0.below b3 (by omega)
  have c0 := y3.c0
  have c1 := y3.c1
  have c2 := y3.c2
  have c3 := y3.c3
  have f0 := y3.fz 0
  have f1 := y3.fz 1
  have f2 := y3.fz 2
  have f3 := y3.fz 3
  have HR : Hid (LnRow w3 (W.heap.size + 1) (.slice a3 l.length k3) l) := r3
  have hlt : W.heap.size < W.heap.size + 1 := by omega
  clear r3 b3 y3 b0 x0 HA hs0 d0 d1 d2 d3 hb
  go_wp2
  exact bodyPost_ret (v := .tuple #[.agg #[.string r, .int .i64 en, .int .i64 pe, .slice a3 l.length k3], .nilIface]) (by simp [results, Tryd.results11, go_sem, c0, c1, c2, c3]) rfl ⟨_, _, rfl, LnRow.mono (LnRow.setOther (b := W.heap.size) (o := 3) (LnRow.setOther (b := W.heap.size) (o := 2) (LnRow.setOther (b := W.heap.size) (o := 1) (LnRow.setOther (b := W.heap.size) (o := 0) HR.out hlt) hlt) hlt) hlt) (by omega), ((((B3.setCell (p := ⟨W.heap.size, 0, none⟩) (by simp) _).setCell (p := ⟨W.heap.size, 1, none⟩) (by simp) _).setCell (p := ⟨W.heap.size, 2, none⟩) (by simp) _).setCell (p := ⟨W.heap.size, 3, none⟩) (by simp) _)⟩

/-- Numbers in a row of one's own. -/
def NsRow (W : World) (n : Nat) (v : Value) (l : List Nat) : Prop := W.ownsRow n 3 1 v l.length (l.map fun i => Value.int .i64 ((i : Nat) : Int))
theorem NsRow.nil (w : World) (n : Nat) : NsRow w n (.slice none 0 0) [] := World.ownsRow_nil _ _ _ _
theorem NsRow.own {w : World} {n : Nat} {v : Value} {xs : List Nat} (h : NsRow w n v xs) : ∀ j, v.ownBlock = some j → n ≤ j := fun j ej => by
  rcases h.2 with ⟨rfl, _⟩ | ⟨g, cp, cur, rfl, hg, _⟩
  · cases ej
  · cases ej; exact hg
theorem NsRow.below {w w' : World} {n : Nat} {v : Value} {l : List Nat} (h : NsRow w n v l) (hb : Below w.heap.size w w') : NsRow w' n v l := by
  rcases h.2 with ⟨hv, hn⟩ | ⟨g1, c1, cur, hv, hb1, hh, r⟩
  · exact ⟨h.1, .inl ⟨hv, hn⟩⟩
  · exact ⟨h.1, .inr ⟨g1, c1, cur, hv, hb1, (hb.block g1 (Array.getElem?_eq_some_iff.1 hh).1).trans hh, r⟩⟩
theorem NsRow.shape {w : World} {n : Nat} {v : Value} {l : List Nat} (h : NsRow w n v l) : ∃ a cap, v = .slice a l.length cap := by
  rcases h.2 with ⟨hv, hn⟩ | ⟨g1, c1, cur, hv, _⟩
  · rw [hn]; exact ⟨_, _, hv⟩
  · exact ⟨_, _, hv⟩
theorem NsRow.cell {W : World} {base : Nat} {v : Value} {l : List Nat} (h : NsRow W base v l) (k : Nat) (hk : k < l.length) : ∃ g cap, v = .slice (some ⟨g, 0, none⟩) l.length cap ∧ base ≤ g ∧ g < W.heap.size ∧ ∀ k, k < l.length → W.cell? ⟨g, k, none⟩ = some (.int .i64 ((l.getD k 0 : Nat) : Int)) := by
  rcases h.2 with ⟨hv, hn⟩ | ⟨g, cap, cur, hv, hb, hg, _, _, _, ht⟩
  · omega
  · refine ⟨g, cap, hv, hb, (Array.getElem?_eq_some_iff.1 hg).1, fun k hk => ?_⟩
    have e1 : (l.map fun i => Value.int .i64 ((i : Nat) : Int))[k]? = cur[k]? := by
      rw [← ht, List.getElem?_take, if_pos (by omega)]
      simp
    have e2 : W.cell? ⟨g, k, none⟩ = cur[k]? := by simp [World.cell?, hg]
    rw [e2, ← e1, List.getD_eq_getElem?_getD, List.getElem?_eq_getElem hk]
    simp [hk]
theorem nint_info : (Tryd.prog.info? 3).map (fun i => (i.zero, i.size, i.bytes)) = some (some (.int .i64 0), 1, 8) := by kernel_rfl
/-- Is an entry asked for? -/
def askedB (en pe : Int) (x : Je) : Bool := isAskedB en x.ent && isAskedB pe x.per
/-- The numbers of those that are asked for. -/
def ofL (es : List Je) (en pe : Int) (k : Nat) : List Nat := (List.range k).filter fun i => askedB en pe (es.getD i je0)
theorem ofL_yes {es : List Je} {en pe : Int} {k : Nat} (h : askedB en pe (es.getD k je0) = true) : ofL es en pe (k + 1) = ofL es en pe k ++ [k] := by
  unfold ofL
  rw [List.range_succ, List.filter_append]
  have h' := h
  simp only [List.getD_eq_getElem?_getD] at h'
  simp [h']
theorem ofL_no {es : List Je} {en pe : Int} {k : Nat} (h : askedB en pe (es.getD k je0) = false) : ofL es en pe (k + 1) = ofL es en pe k := by
  unfold ofL
  rw [List.range_succ, List.filter_append]
  have h' := h
  simp only [List.getD_eq_getElem?_getD] at h'
  simp [h']
theorem ofL_len (es : List Je) (en pe : Int) (k : Nat) : (ofL es en pe k).length ≤ k := by
  unfold ofL
  have := List.length_filter_le (fun i => askedB en pe (es.getD i je0)) (List.range k)
  simpa using this

end
end Go.Proofs.YtffekgndlhleiaaDoor
