/-
  The contracts of a journal's At and Of.
-/
import Derived.Test.YtgeophoghlgdiaaJn4
namespace Go.Proofs.Ytgeophoghlgdiaa
set_option linter.unusedVariables false
set_option linter.unusedSimpArgs false
set_option maxRecDepth 100000
open Go.RowKit Go.Lib
section
variable {W : World} {n0 bj bm : Nat} {v : Value} {es : List Je}
set_option maxHeartbeats 2000000 in
theorem jat_ok (h : JAt W n0 bj bm v es) (hlen : es.length ≤ 200) (k : Nat) (hk : k < es.length) (h1 : (es.getD k je0).lns ≠ []) (h2 : (es.getD k je0).lns.length ≤ 20) :
    Calls Try.prog 10 #[.pointer (some ⟨bj, 0, none⟩), .int .i64 (k : Int)] W fun e w' => ∃ a' cap', e = .returned (.tuple #[.agg #[.string (es.getD k je0).ref, .int .i64 (es.getD k je0).ent, .int .i64 (es.getD k je0).per, .slice a' (es.getD k je0).lns.length cap'], .nilIface]) ∧ LnRow w' W.heap.size (.slice a' (es.getD k je0).lns.length cap') (es.getD k je0).lns ∧ Below W.heap.size W w' := by
  have b0 : Below W.heap.size W (W.alloc (.cells #[.string ByteArray.empty, .int .i64 0, .int .i64 0, .slice none 0 0] 33)) := (Below.refl _ W).alloc (Nat.le_refl _) _
  have x0 := Box4.new W ByteArray.empty 0 0 (.slice none 0 0)
  have hs0 : (W.alloc (.cells #[.string ByteArray.empty, .int .i64 0, .int .i64 0, .slice none 0 0] 33)).heap.size = W.heap.size + 1 := by simp
  have j0 := h.below b0
  have HL : Hid (Calls _ _ _ _ _) := jlen_any j0
  have hln := j0.lns _ (jes_mem es k hk)
  obtain ⟨va, vc, rfl, hcap, hlie⟩ := j0.row.lies
  rcases hlie with hh | ⟨b, off, rfl, hb, hcl⟩
  · rw [hh] at hk; simp at hk
  have c0 := j0.c0
  obtain ⟨d0, d1, d2, d3⟩ := hcl k hk
  generalize es.getD k je0 = x at *
  obtain ⟨r, en, pe, a, cap, l⟩ := x
  simp only at h1 h2 hln d0 d1 d2 d3 ⊢
  obtain ⟨a', cap', e', hil⟩ := hln.isLn
  cases e'
  have HA : Hid (Calls _ _ _ _ _) := apart_any r en pe a l cap _ hil h1 h2
  have q0 : (0 : Int) ≤ k := by omega
  have q1 : (k : Int) < es.length := by omega
  have q2 : ¬ (es.length : Int) ≤ k := by omega
  have q3 : ¬ (k : Int) < 0 := by omega
  have q4 : (es.length : Int) ≤ 200 := by omega
  clear h hlen hln hil hcl h1 h2 j0 hcap hk
  go_enter Try.func10, Try.ntmps10
  go_wp2_with fail
  refine HL.out.mono ?_
  rintro e w1 ⟨rfl, hw⟩
  rw [hw]; clear hw w1 HL
  go_wp2_with fail
  refine HA.out.mono ?_
  rintro e w3 ⟨a3, k3, rfl, r3, b3⟩
  rw [hs0] at r3 b3
  have B3 := b0.trans (b3.mono (by omega))
  have y3 := x0.below b3 (by omega)
  have c0 := y3.c0
  have c1 := y3.c1
  have c2 := y3.c2
  have c3 := y3.c3
  have f0 := y3.fz 0
  have f1 := y3.fz 1
  have f2 := y3.fz 2
  have f3 := y3.fz 3
  have HR : Hid (LnRow w3 (W.heap.size + 1) (.slice a3 l.length k3) l) := r3
  have hlt : W.heap.size < W.heap.size + 1 := by omega
  clear r3 b3 y3 b0 x0 HA hs0 d0 d1 d2 d3 hb
  go_wp2
  exact bodyPost_ret (v := .tuple #[.agg #[.string r, .int .i64 en, .int .i64 pe, .slice a3 l.length k3], .nilIface]) (by simp [results, Try.results10, go_sem, c0, c1, c2, c3]) rfl ⟨_, _, rfl, LnRow.mono (LnRow.setOther (b := W.heap.size) (o := 3) (LnRow.setOther (b := W.heap.size) (o := 2) (LnRow.setOther (b := W.heap.size) (o := 1) (LnRow.setOther (b := W.heap.size) (o := 0) HR.out hlt) hlt) hlt) hlt) (by omega), ((((B3.setCell (p := ⟨W.heap.size, 0, none⟩) (by simp) _).setCell (p := ⟨W.heap.size, 1, none⟩) (by simp) _).setCell (p := ⟨W.heap.size, 2, none⟩) (by simp) _).setCell (p := ⟨W.heap.size, 3, none⟩) (by simp) _)⟩

/-- Numbers in a row of one's own. -/
def NsRow (W : World) (n : Nat) (v : Value) (l : List Nat) : Prop := W.ownsRow n 3 1 v l.length (l.map fun i => Value.int .i64 ((i : Nat) : Int))
theorem NsRow.nil (w : World) (n : Nat) : NsRow w n (.slice none 0 0) [] := World.ownsRow_nil _ _ _ _
theorem NsRow.own {w : World} {n : Nat} {v : Value} {xs : List Nat} (h : NsRow w n v xs) : ∀ j, v.ownBlock = some j → n ≤ j := fun j ej => by
  rcases h.2 with ⟨rfl, _⟩ | ⟨g, cp, cur, rfl, hg, _⟩
  · cases ej
  · cases ej; exact hg
theorem NsRow.below {w w' : World} {n : Nat} {v : Value} {l : List Nat} (h : NsRow w n v l) (hb : Below w.heap.size w w') : NsRow w' n v l := by
  rcases h.2 with ⟨hv, hn⟩ | ⟨g1, c1, cur, hv, hb1, hh, r⟩
  · exact ⟨h.1, .inl ⟨hv, hn⟩⟩
  · exact ⟨h.1, .inr ⟨g1, c1, cur, hv, hb1, (hb.block g1 (Array.getElem?_eq_some_iff.1 hh).1).trans hh, r⟩⟩
theorem NsRow.shape {w : World} {n : Nat} {v : Value} {l : List Nat} (h : NsRow w n v l) : ∃ a cap, v = .slice a l.length cap := by
  rcases h.2 with ⟨hv, hn⟩ | ⟨g1, c1, cur, hv, _⟩
  · rw [hn]; exact ⟨_, _, hv⟩
  · exact ⟨_, _, hv⟩
theorem NsRow.cell {W : World} {base : Nat} {v : Value} {l : List Nat} (h : NsRow W base v l) (k : Nat) (hk : k < l.length) : ∃ g cap, v = .slice (some ⟨g, 0, none⟩) l.length cap ∧ base ≤ g ∧ g < W.heap.size ∧ ∀ k, k < l.length → W.cell? ⟨g, k, none⟩ = some (.int .i64 ((l.getD k 0 : Nat) : Int)) := by
  rcases h.2 with ⟨hv, hn⟩ | ⟨g, cap, cur, hv, hb, hg, _, _, _, ht⟩
  · omega
  · refine ⟨g, cap, hv, hb, (Array.getElem?_eq_some_iff.1 hg).1, fun k hk => ?_⟩
    have e1 : (l.map fun i => Value.int .i64 ((i : Nat) : Int))[k]? = cur[k]? := by
      rw [← ht, List.getElem?_take, if_pos (by omega)]
      simp
    have e2 : W.cell? ⟨g, k, none⟩ = cur[k]? := by simp [World.cell?, hg]
    rw [e2, ← e1, List.getD_eq_getElem?_getD, List.getElem?_eq_getElem hk]
    simp [hk]
theorem nint_info : (Try.prog.info? 3).map (fun i => (i.zero, i.size, i.bytes)) = some (some (.int .i64 0), 1, 8) := by kernel_rfl
/-- Is an entry asked for? -/
def askedB (en pe : Int) (x : Je) : Bool := isAskedB en x.ent && isAskedB pe x.per
/-- The numbers of those that are asked for. -/
def ofL (es : List Je) (en pe : Int) (k : Nat) : List Nat := (List.range k).filter fun i => askedB en pe (es.getD i je0)
theorem ofL_yes {es : List Je} {en pe : Int} {k : Nat} (h : askedB en pe (es.getD k je0) = true) : ofL es en pe (k + 1) = ofL es en pe k ++ [k] := by
  unfold ofL
  rw [List.range_succ, List.filter_append]
  have h' := h
  simp only [List.getD_eq_getElem?_getD] at h'
  simp [h']
theorem ofL_no {es : List Je} {en pe : Int} {k : Nat} (h : askedB en pe (es.getD k je0) = false) : ofL es en pe (k + 1) = ofL es en pe k := by
  unfold ofL
  rw [List.range_succ, List.filter_append]
  have h' := h
  simp only [List.getD_eq_getElem?_getD] at h'
  simp [h']
theorem ofL_len (es : List Je) (en pe : Int) (k : Nat) : (ofL es en pe k).length ≤ k := by
  unfold ofL
  have := List.length_filter_le (fun i => askedB en pe (es.getD i je0)) (List.range k)
  simpa using this

set_option maxHeartbeats 4000000 in
theorem jof_any (h : JAt W n0 bj bm v es) (hlen : es.length ≤ 200) (en pe : Int) :
    Calls Try.prog 8 #[.pointer (some ⟨bj, 0, none⟩), .int .i64 en, .int .i64 pe] W fun e w' => ∃ u, e = .returned u ∧ NsRow w' W.heap.size u (ofL es en pe es.length) ∧ Below W.heap.size W w' := by
  have c0 := h.c0
  obtain ⟨va, vc, rfl, hcap, hlie⟩ := h.row.lies
  have q4 : (es.length : Int) ≤ 200 := by omega
  obtain ⟨i0, hi, hz0, hz1, hz2⟩ := info_parts nint_info
  have Hlie : Hid (es = [] ∨ ∃ b off, va = some ⟨b, off, none⟩ ∧ b < W.heap.size ∧ ∀ k, k < es.length → JeAt W b (off + k * 4) (es.getD k je0)) := hlie
  clear h hlie hcap
  go_enter Try.func8, Try.ntmps8
  go_wp2
  go_loopw [6, 14] (fun u i wr => ∃ k : Nat, k ≤ es.length ∧ i = .int .i64 k ∧ Hid (NsRow wr W.heap.size u (ofL es en pe k)) ∧ Below W.heap.size W wr) (fun _ i _ => es.length - (intOf i).toNat)
  case atStart => exact ⟨0, Nat.zero_le _, rfl, NsRow.nil _ _, Below.refl _ _⟩
  case round =>
    obtain ⟨k, hk, rfl, R, BW⟩ := hrel
    by_cases hlt : k < es.length
    · rcases Hlie.out with hh | ⟨b, off, rfl, hb, hcl⟩
      · rw [hh] at hlt; simp at hlt
      obtain ⟨d0, d1, d2, d3⟩ := (hcl k hlt).below BW hb
      have hyes := @ofL_yes es en pe k
      have hno := @ofL_no es en pe k
      have hol := ofL_len es en pe k
      have HY : Hid (askedB en pe (es.getD k je0) = true → ofL es en pe (k + 1) = ofL es en pe k ++ [k]) := hyes
      have HN : Hid (askedB en pe (es.getD k je0) = false → ofL es en pe (k + 1) = ofL es en pe k) := hno
      clear hcl hyes hno
      generalize es.getD k je0 = x at *
      obtain ⟨r, xe, xp, a, cap, l⟩ := x
      simp only at d0 d1 d2 d3
      obtain ⟨W1, hW1⟩ : ∃ W1, wr.alloc (.cells #[.string r, .int .i64 xe, .int .i64 xp, .slice a l.length cap] 33) = W1 := ⟨_, rfl⟩
      have bx : Box4 W1 wr.heap.size r xe xp (.slice a l.length cap) := by rw [← hW1]; exact Box4.new _ _ _ _ _
      have b1 : Below wr.heap.size wr W1 := by rw [← hW1]; exact (Below.refl _ _).alloc (Nat.le_refl _) _
      have B1 := BW.trans (b1.mono BW.size)
      have R1 : Hid (NsRow W1 W.heap.size _ (ofL es en pe k)) := R.out.below b1
      have e1 := bx.c1
      have e2 := bx.c2
      have HA : Hid (∀ a n, Calls Try.prog 14 #[.int .i64 a, .int .i64 n] W1 fun e w' => e = .returned (.bool (isAskedB a n)) ∧ w' = W1) := fun a n => isAsked_any a n W1
      have q0 : (0 : Int) ≤ k := by omega
      have q1 : (k : Int) < es.length := by omega
      have HW1 : Hid (_ = W1) := hW1
      clear hW1 bx
      go_wp2_with fail
      rw [HW1.out]
      refine (HA.out en xe).mono ?_
      rintro e w2 ⟨rfl, hw⟩
      rw [hw]; clear hw w2
      have Hend : Hid (∀ (u : Value) (w' : World), NsRow w' W.heap.size u (ofL es en pe (k + 1)) → Below W.heap.size W w' → ∃ k' : Nat, k' ≤ es.length ∧ Value.int .i64 ((k : Int) + 1) = .int .i64 k' ∧ Hid (NsRow w' W.heap.size u (ofL es en pe k')) ∧ Below W.heap.size W w') := fun u w' hr hb => ⟨k + 1, by omega, by simp, hr, hb⟩
      by_cases ha : isAskedB en xe = true
      · rw [ha]
        go_wp2_with fail
        refine (HA.out pe xp).mono ?_
        rintro e w2 ⟨rfl, hw⟩
        rw [hw]; clear hw w2
        by_cases hb : isAskedB pe xp = true
        · rw [hb]
          have hq := HY.out (by unfold askedB; simp only; rw [ha, hb]; rfl)
          obtain ⟨ua, uc, hu⟩ := R1.out.shape
          cases hu
          have hm1 : (ofL es en pe k).length + 1 ≤ maxLen := by unfold maxLen; omega
          have hm2 : ((ofL es en pe k).length + 1) * 8 ≤ 140737488355328 := by omega
          obtain ⟨W2, hW2⟩ : ∃ W2, W1.alloc (.cells #[.int .i64 (k : Int)] 3) = W2 := ⟨_, rfl⟩
          have b2 : Below W1.heap.size W1 W2 := by rw [← hW2]; exact (Below.refl _ _).alloc (Nat.le_refl _) _
          have R2 : NsRow W2 W.heap.size _ (ofL es en pe k) := R1.out.below b2
          have B2 := B1.trans (b2.mono B1.size)
          have hr2 : W2.heap[W1.heap.size]? = some (.cells #[.int .i64 (k : Int)] 3 (0, 0)) := by rw [← hW2]; exact World.alloc_heap_new W1 _
          have Hsrc : Hid (∀ j u, [Value.int .i64 (k : Int)][j]? = some u → W2.cell? ((⟨W1.heap.size, 0, none⟩ : Addr).add j) = some u) := World.news_of_block hr2
          have HR2 : Hid (NsRow W2 W.heap.size _ (ofL es en pe k)) := R2
          have HW2 : Hid (_ = W2) := hW2
          have Hown := R2.own
          have HOw : Hid (∀ j, _ = some j → W.heap.size ≤ j) := Hown
          have HB2 : Hid (Below W.heap.size W W2) := B2
          have Hm1 : Hid ((ofL es en pe k).length + 1 ≤ maxLen) := hm1
          have Hm2 : Hid (((ofL es en pe k).length + 1) * 8 ≤ 140737488355328) := hm2
          have Hq : Hid (ofL es en pe (k + 1) = ofL es en pe k ++ [k]) := hq
          have Hs1 : Hid (∀ u ∈ [Value.int .i64 (k : Int)], u.oneCell' = true) := by intro u hu; simp at hu; subst hu; rfl
          clear hm1 hm2 hW2 b2 R2 B2 hr2 R1 R B1 BW HA HY HN hq e1 e2 d0 d1 d2 d3 Hown b1 ha hb HW1
          go_wp2_with (at_builtin; rw [HW2.out]; refine wpList_append_own _ rfl _ _ 35 rfl W.heap.size 3 i0 (.int .i64 0) 1 8 Try.underlying35 hi hz0 hz1 hz2 rfl (by decide) _ _ _ rfl HR2.out ⟨W1.heap.size, 0, none⟩ 1 1 [.int .i64 (k : Int)] rfl rfl Hsrc.out Hs1.out Hm1.out Hm2.out HB2.out.size ?_)
          intro v3 w3 hown hgrow _
          have HN3 : Hid (NsRow w3 W.heap.size v3 (ofL es en pe (k + 1))) := by
            unfold Hid NsRow
            rw [Hq.out, List.length_append, List.map_append]
            exact hown
          have HB3 : Hid (Below W.heap.size W w3) := HB2.out.grown hgrow HB2.out.size (fun j e => HOw.out j e)
          obtain ⟨a3, c3, rfl⟩ := HN3.out.shape
          clear hown hgrow
          go_wp2
          go_roundw
          case rel => exact Hend.out _ _ HN3.out HB3.out
          case measure => simp [intOf]; omega
        · have hb' : isAskedB pe xp = false := by simpa using hb
          rw [hb']
          have hq := HN.out (by unfold askedB; simp only; rw [hb']; simp)
          have Hr := R1
          rw [← hq] at Hr
          clear ha hb hb' HY HN hq R R1
          go_wp2
          go_roundw
          case rel => exact Hend.out _ _ Hr.out B1
          case measure => simp [intOf]; omega
      · have ha' : isAskedB en xe = false := by simpa using ha
        rw [ha']
        have hq := HN.out (by unfold askedB; simp only; rw [ha']; simp)
        have Hr := R1
        rw [← hq] at Hr
        clear ha ha' HY HN hq R R1
        go_wp2
        go_roundw
        case rel => exact Hend.out _ _ Hr.out B1
        case measure => simp [intOf]; omega
    · have hke : k = es.length := by omega
      subst hke
      go_wp2
      go_ret
      exact ⟨_, rfl, R.out, BW⟩
end
end Go.Proofs.Ytgeophoghlgdiaa
