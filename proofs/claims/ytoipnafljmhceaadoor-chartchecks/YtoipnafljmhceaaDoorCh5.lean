/-
  The contract of chart.eachUnder.
-/
import Derived.Test.YtoipnafljmhceaaDoorCh4
namespace Go.Proofs.YtoipnafljmhceaaDoor
set_option linter.unusedVariables false
set_option linter.unusedSimpArgs false
set_option maxRecDepth 100000
open Go.RowKit Go.Lib

theorem eachUnder_none (a : Option Addr) (cap : Nat) (code : ByteArray) (f : Value) (w : World) :
    Calls Tryd.prog 25 #[.slice a 0 cap, .string code, f] w fun e w' => e = .returned (.tuple #[]) ∧ w' = w := by
  go_enter Tryd.func25, Tryd.ntmps25
  go_wp2
  refine wp_loop_rounds 1 ?_
  rw [rounds_succ]
  go_wp2
  go_end0
  exact ⟨rfl, rfl⟩

set_option maxHeartbeats 4000000 in
theorem eachUnder_some (g : Nat) (lb : Value × Value) (b off cap : Nat) (l : List Ac) (code : ByteArray) (J : Option Nat → List Nat → World → Prop) (w : World) (hlen : l.length ≤ 60) (D : Does g lb w.heap.size (some ⟨b, off, none⟩) l cap J) (h0 : J none [] w) :
    Calls Tryd.prog 25 #[.slice (some ⟨b, off, none⟩) l.length cap, .string code, .func (.func g) #[] #[lb.1, lb.2]] w fun e w' => e = .returned (.tuple #[]) ∧ ∃ gc, J gc (und l code) w' ∧ w.heap.size ≤ w'.heap.size := by
  have Hlen : (l.length : Int) ≤ 60 := by omega
  have eg := D.eg
  have HD : Hid (Does g lb w.heap.size (some ⟨b, off, none⟩) l cap J) := D
  have H0 : Hid (J none [] w) := h0
  clear D h0
  obtain ⟨l1, l2⟩ := lb
  obtain ⟨i0, hi, hz0, hz1, hz2⟩ := info_parts str_info
  obtain ⟨res, hres⟩ : ∃ res, und l code = res := ⟨_, rfl⟩
  have Hres : Hid (und l code = res) := hres
  rw [hres]
  clear hres
  go_enter Tryd.func25, Tryd.ntmps25
  go_wp2
  go_loopw [6, 11] (fun s6 i wr => ∃ (k : Nat) (fs : List ByteArray) (pre : List Nat) (gc : Option Nat), k ≤ l.length ∧ i = .int .i64 k ∧ Hid (UndAt w.heap.size J gc pre fs s6 wr ∧ fs.length ≤ k ∧ pre.length ≤ k ∧ undGo code fs pre k (l.drop k) = res)) (fun _ i _ => l.length - (intOf i).toNat)
  case atStart => exact ⟨0, [], [], none, Nat.zero_le _, rfl, ⟨World.ownsRow_nil _ _ _ _, H0.out, Nat.le_refl _, fun b hb => by cases hb⟩, by simp, by simp, Hres.out⟩
  case round =>
    obtain ⟨k, fs, pre, gc, hk, rfl, H⟩ := hrel
    by_cases hlt : k < l.length
    · obtain ⟨U, hf, hp, hg⟩ := H.out
      clear H
      have hn : AcAt wr b (off + k * 5) (l.getD k ac0) := by
        rcases (HD.out.reads gc pre wr U.has).lies with h | ⟨b', off', e, _, hc⟩
        · rw [h] at hlt; simp at hlt
        · cases e
          exact hc k hlt
      rw [acs_drop l k hlt] at hg
      simp only [undGo] at hg
      generalize l.getD k ac0 = x at *
      have U1 := U.alloc HD.out (.cells x.cells 30)
      have hx := AcAt.new wr x 30
      have hsz : (wr.alloc (.cells x.cells 30)).heap.size = wr.heap.size + 1 := by simp
      obtain ⟨x0, x1, x2, x3, x4⟩ := x
      obtain ⟨c0, c1, c2, c3, c4⟩ := hn
      obtain ⟨d0, d1, d2, d3, d4⟩ := hx
      simp only [Ac.cells, Nat.zero_add] at c0 c1 c2 c3 c4 d0 d1 d2 d3 d4 U1 hg hsz
      have U2 := U1.alloc HD.out (.cells #[.string x0] 9)
      have HU2 : Hid (UndAt w.heap.size J gc pre fs _ _) := U2
      have HU1 : Hid (UndAt w.heap.size J gc pre fs _ _) := U1
      have Hg : Hid (_ = res) := hg
      clear U U1 U2 hg
      have i0' : (0 : Int) ≤ k := by omega
      have i1' : (k : Int) < l.length := by omega
      by_cases h1 : x0 = code
      · have HN : Hid (undGo code (fs ++ [x0]) (pre ++ [k]) (k + 1) (l.drop (k + 1)) = res) := by
          have := Hg.out; rw [if_pos (.inl h1)] at this; exact this
        clear Hg
        subst h1
        go_wp2_with (first | (at_builtin; refine wpList_append_lies _ rfl _ _ 28 rfl w.heap.size 9 i0 (.string ByteArray.empty) 1 16 Tryd.underlying28 hi hz0 hz1 hz2 rfl (by decide) _ _ _ rfl HU2.out.row ⟨wr.heap.size + 1, 0, none⟩ 1 1 [.string x0] rfl rfl ?c1 ?c2 (by decide) ?c3 ?c4 ?c5 (wr.heap.size + 1 + 1) ?c6 ?_))
        case c1 =>
          intro j u hj
          match j, hj with
          | 0, hj => simp at hj; subst hj; simp [Addr.add]
        case c2 => intro u hu; simp at hu; subst hu; rfl
        case c3 => unfold maxLen; omega
        case c4 => omega
        case c5 => have := HU2.out.size; exact this
        case c6 => simp
        intro g' cap' w1 hown hgrow hat hlt2
        have U3 := HU2.out.grown HD.out (fs' := fs ++ [x0]) (g' := g') (c' := cap') (by unfold TxtRow; simpa using hown) hgrow (by simpa using hat)
        have hcall := U3.called HD.out k hlt hp
        dsimp only at hcall
        clear U3 HU1 HU2 hown hgrow hat
        have Hcall : Hid (Calls _ _ _ _ _) := hcall
        clear hcall
        rw [show (fs ++ [x0]).length = fs.length + 1 by simp] at Hcall
        go_wp2_with (go_at_fn g; refine Hcall.out.mono ?_; rintro e w2 ⟨rfl, gc', U4⟩)
        go_roundw
        case rel => exact ⟨k + 1, fs ++ [x0], pre ++ [k], gc', by omega, by go_num, U4, by simp; omega, by simp; omega, HN.out⟩
        case measure => simp [intOf]; omega
      have h1' := ch_ne h1
      cases h2 : memB x3 fs
      · have HN : Hid (undGo code fs pre (k + 1) (l.drop (k + 1)) = res) := by
          have := Hg.out; rw [if_neg (by simp [h1, h2])] at this; exact this
        clear Hg HU2
        go_wp2_with (go_at_call 36; refine (tContains_any w.heap.size _ fs x3 _ (by omega) HU1.out.row).mono ?_; rintro e w' ⟨rfl, rfl⟩; rw [h2])
        go_roundw
        case rel => exact ⟨k + 1, fs, pre, gc, by omega, by go_num, HU1.out, by omega, by omega, HN.out⟩
        case measure => simp [intOf]; omega
      · have HN : Hid (undGo code (fs ++ [x0]) (pre ++ [k]) (k + 1) (l.drop (k + 1)) = res) := by
          have := Hg.out; rw [if_pos (.inr h2)] at this; exact this
        clear Hg
        go_wp2_with (first | (at_builtin; refine wpList_append_lies _ rfl _ _ 28 rfl w.heap.size 9 i0 (.string ByteArray.empty) 1 16 Tryd.underlying28 hi hz0 hz1 hz2 rfl (by decide) _ _ _ rfl HU2.out.row ⟨wr.heap.size + 1, 0, none⟩ 1 1 [.string x0] rfl rfl ?c1 ?c2 (by decide) ?c3 ?c4 ?c5 (wr.heap.size + 1 + 1) ?c6 ?_) | (go_at_call 36; refine (tContains_any w.heap.size _ fs x3 _ (by omega) HU1.out.row).mono ?_; rintro e w' ⟨rfl, rfl⟩; rw [h2]))
        case c1 =>
          intro j u hj
          match j, hj with
          | 0, hj => simp at hj; subst hj; simp [Addr.add]
        case c2 => intro u hu; simp at hu; subst hu; rfl
        case c3 => unfold maxLen; omega
        case c4 => omega
        case c5 => have := HU2.out.size; exact this
        case c6 => simp
        intro g' cap' w1 hown hgrow hat hlt2
        have U3 := HU2.out.grown HD.out (fs' := fs ++ [x0]) (g' := g') (c' := cap') (by unfold TxtRow; simpa using hown) hgrow (by simpa using hat)
        have hcall := U3.called HD.out k hlt hp
        dsimp only at hcall
        clear U3 HU1 HU2 hown hgrow hat
        have Hcall : Hid (Calls _ _ _ _ _) := hcall
        clear hcall
        rw [show (fs ++ [x0]).length = fs.length + 1 by simp] at Hcall
        go_wp2_with (go_at_fn g; refine Hcall.out.mono ?_; rintro e w2 ⟨rfl, gc', U4⟩)
        go_roundw
        case rel => exact ⟨k + 1, fs ++ [x0], pre ++ [k], gc', by omega, by go_num, U4, by simp; omega, by simp; omega, HN.out⟩
        case measure => simp [intOf]; omega
    · have hk2 : k = l.length := by omega
      subst hk2
      obtain ⟨U, hf, hp, hg⟩ := H.out
      have er : pre = res := by rw [List.drop_length] at hg; exact hg
      go_wp2
      go_end0
      exact ⟨rfl, gc, by rw [← er]; exact U.has, U.size⟩

theorem eachUnder_any (g : Nat) (lb : Value × Value) (a : Option Addr) (cap : Nat) (l : List Ac) (code : ByteArray) (J : Option Nat → List Nat → World → Prop) (w : World) (hlen : l.length ≤ 60) (D : Does g lb w.heap.size a l cap J) (h0 : J none [] w) :
    Calls Tryd.prog 25 #[.slice a l.length cap, .string code, .func (.func g) #[] #[lb.1, lb.2]] w fun e w' => e = .returned (.tuple #[]) ∧ ∃ gc, J gc (und l code) w' ∧ w.heap.size ≤ w'.heap.size := by
  rcases (D.reads _ _ _ h0).lies with rfl | ⟨b, off, rfl, hlt, hc⟩
  · refine (eachUnder_none a cap code _ w).mono ?_
    rintro e w' ⟨rfl, rfl⟩
    exact ⟨rfl, none, h0, Nat.le_refl _⟩
  · exact eachUnder_some g lb b off cap l code J w hlen D h0
end Go.Proofs.YtoipnafljmhceaaDoor
