/-
  The walk of daylaw2.KeepBreaks.
-/
import Derived.Test.YtijjegkkeigeoaaZb22
import Derived.Test.YtijjegkkeigeoaaZb5
import Derived.Deep.CutRange
import Derived.Deep.CutBlock
import Derived.Deep.RegionWith
import Derived.WalkLawsBesides
namespace Go.Proofs.Ytijjegkkeigeoaa
set_option linter.unusedVariables false
set_option linter.unusedSimpArgs false
set_option maxRecDepth 100000
set_option maxHeartbeats 20000000
open Go.RowKit Go.Lib
theorem Made.lowB {W : World} {n n' : Nat} {v : Value} {l : List Je} (h : Made W n v l) (hn : n' ≤ n) : Made W n' v l := by
  refine ⟨?_, fun x hx => (h.lns x hx).mono hn⟩
  have hrow := h.row
  unfold JeRow at hrow ⊢
  rcases hrow.2 with ⟨e1, e2⟩ | ⟨g, c, cur, e1, hg, r⟩
  · exact ⟨hrow.1, .inl ⟨e1, e2⟩⟩
  · exact ⟨hrow.1, .inr ⟨g, c, cur, e1, Nat.le_trans hn hg, r⟩⟩
def K64 (L : List Je) : Prop := ∀ x ∈ L, I64 x.ent ∧ I64 x.per ∧ ∀ y ∈ x.lns, I64 y.amt
theorem k64_fit {L : List Je} {E : List En} (he : L.map Je.en = E) (h : ∀ e ∈ E, EnFit e) : K64 L := fun x hx => by
  have h1 := h x.en (by rw [← he]; exact List.mem_map.2 ⟨x, hx, rfl⟩)
  obtain ⟨_, h2, h3, _, h5⟩ := h1
  have h2' : 0 ≤ x.ent ∧ x.ent ≤ 200 := h2
  have h3' : 0 ≤ x.per ∧ x.per ≤ 200 := h3
  refine ⟨⟨by omega, by omega⟩, ⟨by omega, by omega⟩, fun y hy => ?_⟩
  have := (h5 y hy).2.2
  unfold mostA at this
  exact ⟨by omega, by omega⟩
theorem k64_of (n g : Nat) (hn : n ≤ 1000) : K64 [Je.mk (eRef n) (1 + (n : Int) % 12) (1 + (n : Int) % 120) (some ⟨g, 0, none⟩) 2 (eLns n)] := fun x hx => by
  rw [List.mem_singleton] at hx
  subst hx
  refine ⟨⟨by show _ ≤ 1 + (n : Int) % 12; omega, by show 1 + (n : Int) % 12 ≤ _; omega⟩, ⟨by show _ ≤ 1 + (n : Int) % 120; omega, by show 1 + (n : Int) % 120 ≤ _; omega⟩, fun y hy => ?_⟩
  have hy' : y ∈ eLns n := hy
  unfold eLns at hy'
  simp only [List.mem_cons, List.not_mem_nil, or_false] at hy'
  rcases hy' with rfl | rfl
  · exact ⟨by show _ ≤ (n : Int) + 1; omega, by show (n : Int) + 1 ≤ _; omega⟩
  · exact ⟨by show _ ≤ -(n : Int) - 1; omega, by show -(n : Int) - 1 ≤ _; omega⟩
/-- At a round's head. -/
def KbH (w W : World) (p nb sb : Nat) (v : Value) (m i : Nat) : Prop := ∃ E Ls, PkS w W p nb sb 150 E (1000 + 3000 * i) (2 + 3 * i) ∧ Made W w.heap.size v Ls ∧ Ls.map Je.en = E ∧ E.length = m ∧ m ≤ 1 + 4 * i
theorem KbH.bel {w W : World} {p nb sb m i : Nat} {v : Value} (h : KbH w W p nb sb v m i) : Below w.heap.size w W := by
  obtain ⟨E, Ls, h1, r⟩ := h
  exact h1.bel
/-- All that is given to a Save: what is kept, and a few more. -/
structure KbA (w W : World) (p nb sb : Nat) (v : Value) (E : List En) (Ls : List Je) (i m k : Nat) : Prop where
  S : PkS w W p nb sb 150 E (1000 + 3000 * i) (2 + 3 * i)
  M : Made W w.heap.size v Ls
  pre : E <+: Ls.map Je.en
  j : K64 Ls
  le : E.length = m
  ll : Ls.length = m + k
theorem eOf_ok : adL [] [eOf 0] = 0 ∧ costL [eOf 0] ≤ 6000 := by
  have h1 : frBad (eOf 0) = 0 := by decide +kernel
  have h2 : (entB (eOf 0)).length ≤ 200 := by decide +kernel
  refine ⟨by rw [adL_c0 h1 (by omega)]; rfl, ?_⟩
  unfold costL
  simp only [List.map_cons, List.map_nil, List.sum_cons, List.sum_nil]
  omega
theorem keOf_zero (w : World) :
    Calls Try.prog 7 #[.int .i64 0] w fun e w' => ∃ g, e = .returned (.agg #[.string (eRef 0), .int .i64 1, .int .i64 1, .slice (some ⟨g, 0, none⟩) 2 2]) ∧ Hid (LnRow w' w.heap.size (.slice (some ⟨g, 0, none⟩) 2 2) (eLns 0)) ∧ Hid (Below w.heap.size w w') := keOf_any 0 (by omega) w
/-- A row of one entry. -/
theorem one_made {W : World} {n0 g : Nat} {r : ByteArray} {en pe : Int} {l : List Ln} (hn : n0 ≤ W.heap.size) (h : LnRow W n0 (.slice (some ⟨g, 0, none⟩) l.length l.length) l) : Made (W.alloc (.cells #[.string r, .int .i64 en, .int .i64 pe, .slice (some ⟨g, 0, none⟩) l.length l.length] 32)) n0 (.slice (some ⟨W.heap.size, 0, none⟩) 1 1) [Je.mk r en pe (some ⟨g, 0, none⟩) l.length l] := by
  refine ⟨⟨by rw [jeRow_length], .inr ⟨W.heap.size, 1, _, rfl, hn, new_heap W _, Nat.le_refl _, by unfold maxLen; decide, by simp, by simp [jeRow, Je.cells]⟩⟩, fun x hx => ?_⟩
  rw [List.mem_singleton] at hx
  subst hx
  exact h.below ((Below.refl _ W).alloc (Nat.le_refl _) _)
theorem kb_drewN {B : Nat} {a w : World} (h : Below B a w) (n : Nat) : Below B a (w.drewN n) := h.trans ⟨rfl, rfl, rfl, Nat.le_refl _, fun _ _ => rfl⟩
theorem adE_okK {room : Nat} {old : List (List UInt8)} {E : List En} (h : old.length ≤ E.length) (h0 : adL old E = 0) (hc : costL (E.drop old.length) ≤ room) : adE room old E = 0 := by
  unfold adE
  rw [if_neg (by omega), if_neg (by rw [h0]; decide), if_neg (by omega)]
/-- A row of entries has grown. -/
theorem PkS.grown {w W U : World} {p nb sb n L S n0 : Nat} {E : List En} {v : Value} {Ls : List Je} (h : PkS w W p nb sb n E L S) (hv : JeRow W n0 v Ls) (hg : W.grownBy U v.ownBlock) (hn : w.heap.size ≤ n0 := by exact Nat.le_refl _) : PkS w U p nb sb n E L S := by
  obtain ⟨cv, D, h1, r⟩ := h
  have key : ∀ (g : Nat) (cs : Array Value) (t : TypeId), W.heap[g]? = some (.cells cs t (0, 0)) → t ≠ 32 → U.heap[g]? = W.heap[g]? := fun g cs t e ht => hg.block g (Array.getElem?_eq_some_iff.1 e).1 (fun e2 => by
    obtain ⟨cs2, h2⟩ := made_typ hv g e2.symm
    rw [e] at h2
    cases h2
    exact ht rfl)
  have d := h1.1
  refine ⟨cv, D, ⟨⟨(key _ _ _ d.box (by decide)).trans d.box, (key _ _ _ d.now (by decide)).trans d.now, (key _ _ _ d.safe (by decide)).trans d.safe, d.ne, d.lp, d.ln, d.ls, ownsRow_keep d.chg (fun b' cs' e' _ => key b' _ _ e' (by decide)), d.ok⟩, h1.2.grown hg h1.2.size (fun j e => Nat.le_trans hn (hv.own j e))⟩, r⟩
theorem kbreaks_walk (a : Option Addr) (c : Nat) (rs : List Rw) (w : World) (hRS : IsRs w a rs c) :
    Calls Try.prog 3 #[.slice a rs.length c] w fun e w' => e = .returned (.bool true) ∧ Below w.heap.size w w' := by
  have HRS : Hid (∀ U, Below w.heap.size w U → IsRs U a rs c) := fun U hU => hRS.below hU
  have HNew : Hid (Calls _ _ _ w _) := tn_new 150 w (by omega) (by omega)
  have HRl : Hid (rs.length ≤ c) := hRS.cap
  have HRb : Hid (rs = [] ∨ ∃ b off, a = some ⟨b, off, none⟩ ∧ b < w.heap.size ∧ ∀ k, k < rs.length → w.cell? ⟨b, off + k, none⟩ = some (.slice (rs.getD k rw0).ad (rs.getD k rw0).l.length (rs.getD k rw0).cap)) := hRS.lies
  clear hRS
  go_enter Try.func3, Try.ntmps3
  go_wp2_with fail
  refine HNew.out.mono ?_
  rintro e u1 ⟨p, nb, sb, rfl, ht⟩
  have HF1 : Hid (Calls _ _ _ u1 _) := pkS_format ht.out (by omega) (by omega)
  clear HNew ht
  go_wp2_with fail
  refine HF1.out.mono ?_
  rintro e u2 ⟨rfl, h2⟩
  have HS2 : Hid (PkS w u2 p nb sb 150 [] 10 0) := h2.out.1
  have HE2 : Hid (Calls _ _ _ u2 _) := keOf_zero u2
  clear HF1 h2
  go_wp2_with fail
  refine HE2.out.mono ?_
  rintro e u3 ⟨g3, rfl, hl3, hb3⟩
  obtain ⟨U4, hU4⟩ : ∃ U4, u3.alloc (.cells #[.string (eRef 0), .int .i64 1, .int .i64 1, .slice (some ⟨g3, 0, none⟩) 2 2] 32) = U4 := ⟨_, rfl⟩
  have hm4 := one_made (r := eRef 0) (en := 1) (pe := 1) (Nat.le_trans HS2.out.bel.size hb3.out.size) (hl3.out.mono HS2.out.bel.size)
  have hb34 : Below u3.heap.size u3 U4 := by rw [← hU4]; exact (Below.refl _ _).alloc (Nat.le_refl _) _
  have hU4' : u3.alloc (.cells #[.string (eRef 0), .int .i64 1, .int .i64 1, .slice (some ⟨g3, 0, none⟩) (eLns 0).length (eLns 0).length] 32) = U4 := hU4
  rw [hU4'] at hm4
  have HS4 : Hid (PkS w U4 p nb sb 150 [] 10 0) := (HS2.out.below hb3.out).below hb34
  obtain ⟨a4, c4, e4, hj4⟩ := hm4.isJs
  cases e4
  have HSv : Hid (Calls _ _ _ U4 _) := HS4.out.save_ok (by omega) _ 1 _ hj4 (k64_of 0 g3 (by omega)) (by simp) (by simp) (adE_okK (Nat.zero_le _) eOf_ok.1 (by
    show costL [eOf 0] ≤ roomE 150 []
    have := eOf_ok.2
    have h0 : roomE 150 [] = 8820 := rfl
    omega))
  clear HE2 HS2 hl3 hb3 hm4 hb34 hj4 hU4' HS4
  go_wp2_with fail
  refine HSv.out.mono ?_
  rintro e u5 ⟨rfl, h5⟩
  have HS5 : Hid (PkS w u5 p nb sb 150 [eOf 0] 1000 2) := h5.out.1.monoK (by simp) (by omega)
  have HLd : Hid (Calls _ _ _ u5 _) := HS5.out.load (by omega)
  clear HSv h5 hU4
  go_wp2_with fail
  refine HLd.out.mono ?_
  rintro e u6 ⟨a6, c6, L6, rfl, h6⟩
  have HS6 : Hid (PkS w u6 p nb sb 150 [eOf 0] 1000 2) := h6.out.2.2.2
  have hl6 : L6.length = 1 := by have := congrArg List.length h6.out.2.1; simpa using this
  have HE6 : Hid (Calls _ _ _ u6 _) := keOf_zero u6
  rw [hl6]
  clear HLd h6 HS5 hl6
  go_wp2_with fail
  refine HE6.out.mono ?_
  rintro e u7 ⟨g7, rfl, hl7, hb7⟩
  obtain ⟨U8, hU8⟩ : ∃ U8, u7.alloc (.cells #[.string (eRef 0), .int .i64 1, .int .i64 1, .slice (some ⟨g7, 0, none⟩) 2 2] 32) = U8 := ⟨_, rfl⟩
  have hm8 := one_made (r := eRef 0) (en := 1) (pe := 1) (Nat.le_trans HS6.out.bel.size hb7.out.size) (hl7.out.mono HS6.out.bel.size)
  have hb78 : Below u7.heap.size u7 U8 := by rw [← hU8]; exact (Below.refl _ _).alloc (Nat.le_refl _) _
  have hU8' : u7.alloc (.cells #[.string (eRef 0), .int .i64 1, .int .i64 1, .slice (some ⟨g7, 0, none⟩) (eLns 0).length (eLns 0).length] 32) = U8 := hU8
  rw [hU8'] at hm8
  have HK8 : Hid (KbH w U8 p nb sb (.slice (some ⟨u7.heap.size, 0, none⟩) 1 1) 1 0) := ⟨_, _, (HS6.out.below hb7.out).below hb78, hm8, rfl, rfl, by omega⟩
  clear HE6 HS6 hl7 hb7 hm8 hb78 hU8'
  go_wp2_with fail
  go_loopw [9, 10, 11] (fun av fv iv wr => ∃ (m i ac : Nat) (aa : Option Addr), i ≤ 25 ∧ av = .slice aa m ac ∧ fv = .int .i64 (m : Int) ∧ iv = .int .i64 (i : Int) ∧ Hid (KbH w wr p nb sb (.slice aa m ac) m i)) (fun _ _ i _ => 25 - (RowKit.intOf i).toNat)
  case atStart =>
    refine ⟨1, 0, 1, some ⟨u7.heap.size, 0, none⟩, by omega, ?_, rfl, rfl, ?_⟩
    · first | rfl | simp
    · first | exact HK8 | (rw [hU8]; exact HK8)
  case round =>
    clear HK8
    obtain ⟨m, i, ac, aa, hi, rfl, rfl, rfl, H⟩ := hrel
    by_cases hlt : i < rs.length ∧ i < 25
    · obtain ⟨hlt1, hlt2⟩ := hlt
      have m0 : (0 : Int) ≤ i := by omega
      have m1 : (i : Int) < rs.length := by omega
      have m2 : (i : Int) < 25 := by omega
      have hal := alloc_v
      have hbw : Below w.heap.size w wr := H.out.bel
      have hrs := HRS.out wr hbw
      have hmem : rs.getD i rw0 ∈ rs := by
        rw [List.getD_eq_getElem?_getD, List.getElem?_eq_getElem hlt1]; exact List.getElem_mem hlt1
      obtain ⟨hrow, hrowl⟩ := hrs.rows _ hmem
      have hroww := ((HRS.out w (Below.refl _ _)).rows _ hmem).1
      obtain ⟨b0, off0, rfl, hb0w, hcRw⟩ : ∃ b off, a = some ⟨b, off, none⟩ ∧ b < w.heap.size ∧ w.cell? ⟨b, off + i, none⟩ = some (.slice (rs.getD i rw0).ad (rs.getD i rw0).l.length (rs.getD i rw0).cap) := by
        rcases HRb.out with e | ⟨b, off, e, h1, h2⟩
        · subst e; simp at hlt1
        · exact ⟨b, off, e, h1, h2 i hlt1⟩
      have hcR0 := (hbw.cell (p := ⟨b0, off0 + i, none⟩) hb0w).trans hcRw
      generalize rs.getD i rw0 = r at *
      obtain ⟨ra, rl, rc⟩ := r
      simp only at hrow hrowl hcR0 hroww hcRw
      clear hcRw
      have HROWw : Hid (IsIn w ra rl rc) := hroww
      clear hroww
      have HE : Hid (∀ X j, j < rl.length → ∃ b1 off1, ra = some ⟨b1, off1, none⟩ ∧ (wr.alloc (.cells X 38)).cell? ⟨b1, off1 + j, none⟩ = some (.int .i64 (rl.getD j 0))) := by
        intro X j hj
        rcases hrow.lies with e | ⟨b, off, e, h1, h2⟩
        · subst e; simp at hj
        · exact ⟨b, off, e, (World.cell?_alloc_lt _ _ _ h1).trans (h2 j hj)⟩
      have hrowl' : (rl.length : Int) ≤ 9223372036854775807 := by omega
      clear hrs hmem hrow hbw HRb
      go_upto_block 2 with (refine wpList_alloc_run rfl 38 rfl (hal _) ?_)
      go_cut [14] from 70 to 168 (fun t wx => wx = wr.alloc (.cells (va rl) 38))
      case first =>
        as_aux_lemma =>
          clear hal
          go_wp2_with fail
          go_loopw [14] (fun t wq => ∃ j : Nat, j ≤ 3 ∧ j ≤ rl.length ∧ t = .int .i64 j ∧ wq = wr.alloc (.cells (va (rl.take j)) 38)) (fun t _ => 3 - (RowKit.intOf t).toNat)
          case atStart => exact ⟨0, by omega, by omega, rfl, by simp⟩
          case round =>
            rename World => wq
            obtain ⟨j, hj4, hjl, rfl, rfl⟩ := hrel
            by_cases hj : j < rl.length ∧ j < 3
            · obtain ⟨b1, off1, rfl, hce⟩ := HE.out (va (rl.take j)) j hj.1
              have hset := va_set rl j hj.1 hj.2
              have hget := va_get (rl.take j) j hj.2
              have j0 : (0 : Int) ≤ j := by omega
              have j1 : (j : Int) < rl.length := by omega
              have j2 : (j : Int) < 3 := by omega
              generalize rl.getD j 0 = x at *
              generalize (rl.take j).getD j 0 = z at *
              go_wp2_with fail
              go_roundw
              case rel => exact ⟨j + 1, by omega, by omega, by go_num, by first | rfl | trivial⟩
              case measure => simp [RowKit.intOf]; omega
            · have hv := va_take rl j (by omega)
              rw [hv]
              by_cases hjj : j < rl.length
              · have j2 : ¬ (j : Int) < 3 := by omega
                have j1 : (j : Int) < rl.length := by omega
                go_wp2_with fail
                go_meet
                first | rfl | trivial
              · have j1 : ¬ (j : Int) < rl.length := by omega
                go_wp2_with fail
                go_meet
                first | rfl | trivial
      case rest =>
        clear hal HE
        subst hcut
        have hbx := new_heap wr (.cells (va rl) 38)
        have hbW1 : Below wr.heap.size wr (wr.alloc (.cells (va rl) 38)) := (Below.refl _ wr).alloc (Nat.le_refl _) _
        obtain ⟨E, Ls, hS, hM, hE, hEm, hm4⟩ := H.out
        have HA1 : Hid (KbA w (wr.alloc (.cells (va rl) 38)) p nb sb (.slice aa m ac) E Ls i m 0) := by
          have hfit : ∀ e ∈ E, EnFit e := by obtain ⟨_, _, _, _, _, h⟩ := hS; exact h
          exact ⟨hS.below hbW1, hM.below hbW1, by rw [hE]; exact List.prefix_refl _, k64_fit hE hfit, hEm, by have := congrArg List.length hE; rw [List.length_map] at this; omega⟩
        have HM4 : Hid (m ≤ 1 + 4 * i ∧ i < 25) := ⟨hm4, hlt2⟩
        generalize wr.alloc (.cells (va rl) 38) = W1 at *
        generalize wr.heap.size = B at *
        clear hS hM hE hEm hm4 H hbW1
        have HV : Hid (∀ U : World, U.heap[B]? = some (.cells (va rl) 38 (0, 0)) → U.cell? ⟨B, 0, none⟩ = some (.int .i64 (rl.getD 0 0)) ∧ U.cell? ⟨B, 1, none⟩ = some (.int .i64 (rl.getD 1 0)) ∧ U.cell? ⟨B, 2, none⟩ = some (.int .i64 (rl.getD 2 0))) := by
          intro U hU
          simp [World.cell?, hU, va]
        generalize hv0 : rl.getD 0 0 = v0 at *
        generalize hv1 : rl.getD 1 0 = v1 at *
        generalize hv2 : rl.getD 2 0 = v2 at *
        clear hv0 hv1 hv2
        generalize hAR : (Obj.cells (va rl) 38 (0, 0)) = AR at *
        have HAR : Hid (Obj.cells (va rl) 38 (0, 0) = AR) := hAR
        clear hAR
        have HBX : Hid (W1.heap[B]? = some AR) := hbx
        clear hbx
        obtain ⟨t4, ht4⟩ : ∃ t4, v0.tmod 4 = t4 := ⟨_, rfl⟩
        have ht4b : -4 < t4 ∧ t4 < 4 := by rw [← ht4]; exact ⟨by have := Int.lt_tmod_of_pos v0 (show (0 : Int) < 4 by omega); omega, Int.tmod_lt_of_pos v0 (by omega)⟩
        obtain ⟨t4a, t4b⟩ := ht4b
        obtain ⟨q4, hq4⟩ : ∃ q4, (t4 + 4).tmod 4 = q4 := ⟨_, rfl⟩
        have hq4b : 0 ≤ q4 ∧ q4 < 4 := by rw [← hq4]; exact ⟨Int.tmod_nonneg 4 (by omega), Int.tmod_lt_of_pos _ (by omega)⟩
        obtain ⟨q4a, q4b⟩ := hq4b
        go_upto_block 4 with fail
        go_cut [9, 15, 16] from 70 to 168 (fun av _ _ wx => ∃ (aa' : Option Addr) (m' ac' : Nat) (Ls' : List Je) (k : Nat), av = .slice aa' m' ac' ∧ k ≤ 4 ∧ m' = m + k ∧ Hid (KbA w wx p nb sb (.slice aa' m' ac') E Ls' i m k) ∧ Hid (wx.heap[B]? = some AR))
        case first =>
          as_aux_lemma =>
            obtain ⟨qi, hqq, hz0, hz1, hz2⟩ := kj_info
            have hal := kalloc_je
            go_wp2_with fail
            go_loopw [9, 15] (fun av jv wq => ∃ (aa' : Option Addr) (m' ac' : Nat) (Ls' : List Je) (k : Nat), av = .slice aa' m' ac' ∧ jv = .int .i64 (k : Int) ∧ k ≤ 4 ∧ m' = m + k ∧ Hid (KbA w wq p nb sb (.slice aa' m' ac') E Ls' i m k) ∧ Hid (wq.heap[B]? = some AR)) (fun _ jv _ => 5 - (RowKit.intOf jv).toNat)
            case atStart => exact ⟨aa, m, ac, Ls, 0, rfl, rfl, by omega, rfl, HA1, HBX⟩
            case round =>
              rename World => wq
              obtain ⟨aa', m', ac', Ls', k, rfl, rfl, hk4, hm', HA, HB⟩ := hrel
              obtain ⟨d0, _, _⟩ := HV.out wq HB.out
              have k0 : (0 : Int) ≤ k := by omega
              have k5 : (k : Int) ≤ 4 := by omega
              have HMm : Hid (m' = m + k) := hm'
              clear HA1 HBX hm'
              by_cases hkq : (k : Int) < 1 + q4
              · have hmn : m' ≤ 1000 := by have := HM4.out; have := HMm.out; omega
                have HEo : Hid (Calls _ _ _ wq _) := keOf_any m' hmn wq
                clear hmn
                go_wp2_with fail
                refine HEo.out.mono ?_
                rintro e w3 ⟨g3, rfl, hl3, hb3⟩
                clear HEo
                have hB3 : w3.heap[B]? = some AR := (hb3.out.block B (Array.getElem?_eq_some_iff.1 HB.out).1).trans HB.out
                have hle3 : LnRow w3 w.heap.size (.slice (some ⟨g3, 0, none⟩) 2 2) (eLns m') := hl3.out.mono HA.out.S.bel.size
                have HAn : Hid (KbA w w3 p nb sb (.slice aa' m' ac') E Ls' i m k) := ⟨HA.out.S.below hb3.out, HA.out.M.below hb3.out, HA.out.pre, HA.out.j, HA.out.le, HA.out.ll⟩
                have HK6 : Hid (K64 [Je.mk (eRef m') (1 + (m' : Int) % 12) (1 + (m' : Int) % 120) (some ⟨g3, 0, none⟩) 2 (eLns m')]) := k64_of m' g3 (by have := HM4.out; have := HMm.out; omega)
                obtain ⟨xe, hxe⟩ : ∃ xe, Je.mk (eRef m') (1 + (m' : Int) % 12) (1 + (m' : Int) % 120) (some ⟨g3, 0, none⟩) 2 (eLns m') = xe := ⟨_, rfl⟩
                have hxc : [.string (eRef m'), .int .i64 (1 + (m' : Int) % 12), .int .i64 (1 + (m' : Int) % 120), .slice (some ⟨g3, 0, none⟩) 2 2] = xe.cells.toList := by rw [← hxe]; rfl
                have hxl : LnRow w3 w.heap.size (.slice xe.adr xe.lns.length xe.cap) xe.lns := by rw [← hxe]; exact hle3
                rw [hxe] at HK6
                generalize eRef m' = rf at *
                generalize 1 + (m' : Int) % 12 = x1 at *
                generalize 1 + (m' : Int) % 120 = x2 at *
                have hst := kstore_je (cs := [.string rf, .int .i64 x1, .int .i64 x2, .slice (some ⟨g3, 0, none⟩) 2 2]) (cs' := je0C.toList) rfl rfl (by intro u hu; simp at hu; rcases hu with rfl | rfl | rfl | rfl <;> rfl) (new_heap w3 (.cells je0C 32))
                obtain ⟨W4, hW4⟩ : ∃ W4, (w3.alloc (.cells je0C 32)).setRow w3.heap.size [.string rf, .int .i64 x1, .int .i64 x2, .slice (some ⟨g3, 0, none⟩) 2 2].toArray = W4 := ⟨_, rfl⟩
                have hr4 : W4.heap[w3.heap.size]? = some (.cells [.string rf, .int .i64 x1, .int .i64 x2, .slice (some ⟨g3, 0, none⟩) 2 2].toArray 32 (0, 0)) := by
                  rw [← hW4]; exact setRow_heap _ _ _ _ _ _ (new_heap w3 (.cells je0C 32))
                have b4 : Below w3.heap.size w3 W4 := by rw [← hW4]; exact setRow_below ((Below.refl _ w3).alloc (Nat.le_refl _) _) (Nat.le_refl _)
                obtain ⟨W5, hW5⟩ : ∃ W5, W4.alloc (.cells #[.string rf, .int .i64 x1, .int .i64 x2, .slice (some ⟨g3, 0, none⟩) 2 2] 32) = W5 := ⟨_, rfl⟩
                have b5 : Below W4.heap.size W4 W5 := by rw [← hW5]; exact (Below.refl _ _).alloc (Nat.le_refl _) _
                have hr5 : W5.heap[W4.heap.size]? = some (.cells #[.string rf, .int .i64 x1, .int .i64 x2, .slice (some ⟨g3, 0, none⟩) 2 2] 32 (0, 0)) := by rw [← hW5]; exact new_heap W4 _
                have f0 : W4.cell? ⟨w3.heap.size, 0, none⟩ = some (.string rf) := by simp [World.cell?, hr4]
                have f1 : W4.cell? ⟨w3.heap.size, 1, none⟩ = some (.int .i64 x1) := by simp [World.cell?, hr4]
                have f2 : W4.cell? ⟨w3.heap.size, 2, none⟩ = some (.int .i64 x2) := by simp [World.cell?, hr4]
                have f3 : W4.cell? ⟨w3.heap.size, 3, none⟩ = some (.slice (some ⟨g3, 0, none⟩) 2 2) := by simp [World.cell?, hr4]
                rw [hW4] at hst
                have B35 : Below w3.heap.size w3 W5 := b4.trans (b5.mono b4.size)
                have HA5 : Hid (KbA w W5 p nb sb (.slice aa' m' ac') E Ls' i m k) := ⟨HAn.out.S.below B35, HAn.out.M.below B35, HAn.out.pre, HAn.out.j, HAn.out.le, HAn.out.ll⟩
                have hrw5 : W5.ownsRow w.heap.size 32 4 (.slice aa' m' ac') m' (jeRow Ls') := by
                  have := HA5.out.M.row
                  unfold JeRow at this
                  rw [HA5.out.ll, ← HMm.out] at this
                  exact this
                have HRw : Hid (W5.ownsRow w.heap.size 32 4 (.slice aa' m' ac') m' (jeRow Ls')) := hrw5
                have HXl : Hid (LnRow W5 w.heap.size (.slice xe.adr xe.lns.length xe.cap) xe.lns ∧ W5.heap[B]? = some AR) := ⟨hxl.below B35, (B35.block B (Array.getElem?_eq_some_iff.1 hB3).1).trans hB3⟩
                have Hsrc : Hid (∀ j u, xe.cells.toList[j]? = some u → W5.cell? ((⟨W4.heap.size, 0, none⟩ : Addr).add j) = some u) := by rw [← hxc]; exact World.news_of_block hr5
                have Hs1 : Hid (∀ u ∈ xe.cells.toList, u.oneCell' = true) := je_one _
                have Hm1 : Hid (m' + 1 ≤ maxLen) := by have := HM4.out; have := HMm.out; unfold Hid maxLen; omega
                have Hm2 : Hid ((m' + 1) * 56 ≤ 140737488355328) := by have := HM4.out; have := HMm.out; unfold Hid; omega
                have Hsz : Hid (w.heap.size ≤ W5.heap.size) := HA5.out.S.bel.size
                have HW5 : Hid (_ = W5) := hW5
                clear hl3 hb3 hB3 hle3 HAn hxe hxc hxl hr4 b4 b5 hr5 B35 hrw5 hW5 HA HB d0
                go_wp2_with (first | (refine wpList_alloc_run rfl 32 rfl (hal _) ?_) | (refine wpList_store_run rfl 32 _ _ rfl _ _ (by rfl) (by rfl) hst ?_) | (at_builtin; rw [HW5.out]; refine wpList_append_own _ rfl _ _ 34 rfl w.heap.size 32 qi (.agg #[.string ByteArray.empty, .int .i64 0, .int .i64 0, .slice none 0 0]) 4 56 Try.underlying34 hqq hz0 hz1 hz2 rfl (by decide) _ _ _ rfl HRw.out ⟨W4.heap.size, 0, none⟩ 1 1 xe.cells.toList rfl rfl Hsrc.out Hs1.out Hm1.out Hm2.out Hsz.out ?_))
                intro v6 w6 hown hgrow _
                have hl5 := HA5.out.ll
                have hown' : w6.ownsRow w.heap.size 32 4 v6 (Ls'.length + 1) (jeRow Ls' ++ xe.cells.toList) := by rw [hl5, ← HMm.out]; exact hown
                have M6 : Made w6 w.heap.size v6 (Ls' ++ [xe]) := Made.add HA5.out.M HXl.out.1 hown' hgrow
                have hba : ∀ j, (Value.slice aa' m' ac').ownBlock = some j → w.heap.size ≤ j := fun j e => HA5.out.M.row.own j e
                obtain ⟨v6a, v6c, rfl, _⟩ := M6.isJs
                have hl6 : (Ls' ++ [xe]).length = m' + 1 := by rw [List.length_append, hl5, HMm.out]; rfl
                rw [hl6] at M6 ⊢
                have hS6 : PkS w w6 p nb sb 150 E (1000 + 3000 * i) (2 + 3 * i) := HA5.out.S.grown HA5.out.M.row hgrow
                have hB6 : w6.heap[B]? = some AR := by
                  have hAR := HAR.out
                  refine (hgrow.block B (Array.getElem?_eq_some_iff.1 HXl.out.2).1 (fun e => ?_)).trans HXl.out.2
                  obtain ⟨cs, h2⟩ := made_typ HA5.out.M.row B e.symm
                  rw [HXl.out.2, ← hAR] at h2
                  cases h2
                have HF6 : Hid (KbA w w6 p nb sb (.slice v6a (m' + 1) v6c) E (Ls' ++ [xe]) i m (k + 1)) := ⟨hS6, M6, by
                  rw [List.map_append]
                  exact HA5.out.pre.trans (List.prefix_append _ _), fun x hx => by
                  rcases List.mem_append.1 hx with h | h
                  · exact HA5.out.j x h
                  · exact HK6.out x h, HA5.out.le, by rw [hl6, HMm.out]; omega⟩
                have HB6 : Hid (w6.heap[B]? = some AR) := hB6
                clear hown hgrow hown' M6 hba hS6 hB6 HA5 HRw HXl Hsrc Hs1 Hm1 Hm2 Hsz HW5 hW4 hst f0 f1 f2 f3 hl5 HK6
                go_wp2_with fail
                go_roundw
                case rel => exact ⟨v6a, m' + 1, v6c, Ls' ++ [xe], k + 1, rfl, by go_num, by omega, by have := HMm.out; omega, HF6, HB6⟩
                case measure => simp [RowKit.intOf]; omega
              · go_wp2_with fail
                go_meet
                case rel => exact ⟨aa', m', ac', Ls', k, rfl, hk4, HMm.out, HA, HB⟩
        case rest =>
          clear HA1 HBX
          rename World => w4
          obtain ⟨aa', m', ac', Ls', k, rfl, hk4, hm', HA4, HB4⟩ := hcut
          have HMk : Hid (m' = m + k) := hm'
          clear hm'
          by_cases hv1 : 0 ≤ v1
          · -- the disk is set to fail
            obtain ⟨kk, hkk, hst⟩ := HA4.out.S.f.steps
            obtain ⟨r, hr⟩ : ∃ r, v1.tmod 9 = r := ⟨_, rfl⟩
            have r1 : 0 ≤ r ∧ r < 9 := by rw [← hr]; exact ⟨Int.tmod_nonneg 9 hv1, Int.tmod_lt_of_pos v1 (by omega)⟩
            obtain ⟨r0, r8⟩ := r1
            have q0 : (0 : Int) ≤ (kk : Int) := by omega
            have q1 : (kk : Int) ≤ 100000 := by have := HM4.out.2; omega
            obtain ⟨_, d1, _⟩ := HV.out w4 HB4.out
            have d1d : w4.drew.cell? ⟨B, 1, none⟩ = some (.int .i64 v1) := d1
            have bd : Below w4.heap.size w4 w4.drew := ⟨rfl, rfl, rfl, Nat.le_refl _, fun _ _ => rfl⟩
            have HSt : Hid (Calls _ _ _ w4.drew _) := hst w4.drew bd
            have HFl : Hid (Calls _ _ _ w4.drew _) := (HA4.out.S.f.below bd).fail_ ((kk : Int) + r)
            have HKD : Hid (Made w4.drew w.heap.size (.slice aa' m' ac') Ls' ∧ w4.drew.heap[B]? = some AR) := ⟨HA4.out.M.below bd, HB4.out⟩
            have HP4 : Hid (E <+: Ls'.map Je.en ∧ K64 Ls' ∧ E.length = m ∧ Ls'.length = m + k) := ⟨HA4.out.pre, HA4.out.j, HA4.out.le, HA4.out.ll⟩
            have HKk : Hid (kk ≤ 100000) := by have := HM4.out.2; unfold Hid; omega
            clear hst bd HA4 HB4 hkk ht4 t4a t4b hq4 q4a q4b
            go_upto_region 26 with fail
            refine wp_region_drawn (by kernel_rfl) ?_
            clear d1
            generalize w4.drew = W5 at *
            refine wpAny_take (i := 0) (v := .pointer (some ⟨p, 0, none⟩)) rfl (by kernel_rfl) (by kernel_rfl) (by kernel_rfl) (fun _ _ _ h => h) (Or.inl ⟨by rfl, fun w => by go_simp⟩) ?_
            simp only [Act.put, List.getElem_toArray, List.getElem_cons_succ, List.getElem_cons_zero, List.setIfInBounds_toArray, List.set_cons_zero, List.set_cons_succ]
            refine wpAny_take (i := 1) (v := .pointer (some ⟨p, 0, none⟩)) rfl (by kernel_rfl) (by kernel_rfl) (by kernel_rfl) (fun _ _ _ h => h) (Or.inl ⟨by rfl, fun w => by go_simp⟩) ?_
            simp only [Act.put, List.getElem_toArray, List.getElem_cons_succ, List.getElem_cons_zero, List.setIfInBounds_toArray, List.set_cons_zero, List.set_cons_succ]
            refine wpAny_take (i := 3) (v := .pointer (some ⟨B, 1, none⟩)) rfl (by kernel_rfl) (by kernel_rfl) (by kernel_rfl) (fun _ _ _ h => h) (Or.inl ⟨by rfl, fun w => by go_simp⟩) ?_
            simp only [Act.put, List.getElem_toArray, List.getElem_cons_succ, List.getElem_cons_zero, List.setIfInBounds_toArray, List.set_cons_zero, List.set_cons_succ]
            refine any_of_L (g := 7) (T := fun u => u = W5) _ _ _ _ ?_
            refine L_takeC [7, 6, 5] (i := 4) (v := .int .i64 v1) rfl (by kernel_rfl) (by kernel_rfl) (by decide) (by kernel_rfl) (by kernel_rfl) (by kernel_rfl) (by kernel_rfl) (fun _ _ _ h => h) (Or.inl ⟨by rfl, fun w' hw' => by subst hw'; go_simp⟩) rfl ?_
            simp only [Act.put, List.getElem_toArray, List.getElem_cons_succ, List.getElem_cons_zero, List.setIfInBounds_toArray, List.set_cons_zero, List.set_cons_succ]
            refine L_takeC [7, 6] (i := 5) (v := .int .i64 r) rfl (by kernel_rfl) (by kernel_rfl) (by decide) (by kernel_rfl) (by kernel_rfl) (by kernel_rfl) (by kernel_rfl) (fun _ _ _ h => h) (Or.inl ⟨by rfl, fun w' hw' => by subst hw'; go_simp⟩) rfl ?_
            simp only [Act.put, List.getElem_toArray, List.getElem_cons_succ, List.getElem_cons_zero, List.setIfInBounds_toArray, List.set_cons_zero, List.set_cons_succ]
            refine L_one (i := 2) (by kernel_rfl) ?_
            refine wpOp_step rfl ?_
            intro K hK
            rw [if_pos (by rfl)]
            have hK' : Shut (∀ a w, _ → K a w) := hK
            clear hK
            go_wp2_with fail
            refine HSt.out.mono ?_
            rintro e W5b ⟨rfl, hw5⟩
            rw [hw5]
            refine hK'.out _ _ ⟨rfl, ?_⟩
            clear hK' K hw5 W5b
            try simp only [Act.put, List.getElem_toArray, List.getElem_cons_succ, List.getElem_cons_zero, List.setIfInBounds_toArray, List.set_cons_zero, List.set_cons_succ]
            refine L_one (i := 6) (by kernel_rfl) ?_
            refine wpOp_step rfl ?_
            intro K hK
            rw [if_pos (by rfl)]
            have hK' : Shut (∀ a w, _ → K a w) := hK
            clear hK
            go_wp2_with fail
            refine hK'.out _ _ ⟨rfl, ?_⟩
            clear hK' K
            try simp only [Act.put, List.getElem_toArray, List.getElem_cons_succ, List.getElem_cons_zero, List.setIfInBounds_toArray, List.set_cons_zero, List.set_cons_succ]
            refine L_go (by kernel_rfl) (by kernel_rfl) ?_
            refine wpOp_step rfl ?_
            intro K hK
            rw [if_pos (by rfl)]
            have hK' : Shut (∀ a w, _ → K a w) := hK
            clear hK
            go_wp2_with fail
            refine HFl.out.mono ?_
            rintro e w6 ⟨rfl, h6⟩
            refine hK'.out _ _ ?_
            clear hK' K
            try simp only [Act.put, List.getElem_toArray, List.getElem_cons_succ, List.getElem_cons_zero, List.setIfInBounds_toArray, List.set_cons_zero, List.set_cons_succ]
            refine wpAny_done (by kernel_rfl) ?_ _
            have HF6 : Hid (PkF w w6 p nb sb E (1000 + 3000 * i) (2 + 3 * i) true) := h6.out.1
            have HM6 : Hid (Made w6 w.heap.size (.slice aa' m' ac') Ls' ∧ w6.heap[B]? = some AR) := by
              refine ⟨HKD.out.1.keeps h6.out.2, ?_⟩
              have hAR := HAR.out
              rw [← hAR] at HKD ⊢
              exact h6.out.2.row HKD.out.2 (by decide)
            clear HSt HFl HKD h6 d1d q0 q1 r0 r8 HKk
            have hm2 : Ls'.length = m' := by have := HP4.out.2.2.2; have := HMk.out; omega
            obtain ⟨aj, cj, ej, hj⟩ := HM6.out.1.isJs
            rw [hm2] at ej
            cases ej
            have hSv := HF6.out.save (by have := HM4.out.2; omega) aa' ac' Ls' hj HP4.out.2.1 (by have := HM4.out; have := HP4.out.2.2.2; omega) (by have := HM4.out.2; omega) HP4.out.1 (by have := HP4.out.2.2; have := HMk.out; omega)
            rw [hm2] at hSv
            have HSv : Hid (Calls _ _ _ w6 _) := hSv
            have HM2 : Hid (Ls'.length = m') := hm2
            clear hSv hj HF6 hm2
            go_wp2_with fail
            refine HSv.out.mono ?_
            rintro e u7 ⟨sf, ev, rfl, hcase0, h7⟩
            have HX7 : Hid ((KbX w u7 p nb sb (Ls'.map Je.en) sf (1000 + 3000 * i + 1600) (2 + 3 * i + 2) ∧ (true = false → KbD w u7 p nb sb (Ls'.map Je.en) sf (1000 + 3000 * i + 1600) (2 + 3 * i + 2))) ∧ Made u7 w.heap.size (.slice aa' m' ac') Ls' ∧ u7.heap[B]? = some AR) := by
              refine ⟨⟨h7.out.1, fun e => by first | exact h7.out.2.1 e | exact h7.out.2.1 trivial | cases e⟩, HM6.out.1.keeps h7.out.2.2, ?_⟩
              have hAR := HAR.out
              rw [← hAR] at HM6 ⊢
              exact h7.out.2.2.row HM6.out.2 (by decide)
            obtain ⟨nbv, hcase⟩ : ∃ nbv : Bool, (nbv = true ∧ ev = .nilIface ∧ sf = m') ∨ (nbv = false ∧ ∃ cc : Int, ev = .iface 44 (.int .i64 cc) ∧ sf = m) := by
              rcases hcase0 with ⟨h1, h2⟩ | ⟨cc, h1, h2⟩
              · exact ⟨true, .inl ⟨rfl, h1, h2⟩⟩
              · exact ⟨false, .inr ⟨rfl, cc, h1, by rw [h2, HP4.out.2.2.1]⟩⟩
            have HCs : Hid ((nbv = true ∧ ev = .nilIface ∧ sf = m') ∨ (nbv = false ∧ ∃ cc : Int, ev = .iface 44 (.int .i64 cc) ∧ sf = m)) := hcase
            clear HSv h7 hcase0 HM6 hcase
            go_upto_region 28 with fail
            go_cut [118] from 70 to 168 (fun t wx => t = .bool nbv ∧ u7 = wx)
            case first =>
              clear HX7
              rcases HCs.out with ⟨rfl, rfl, _⟩ | ⟨rfl, cc, rfl, _⟩
              · go_wp2
                go_meet
                case rel => exact ⟨rfl, rfl⟩
              · go_wp2
                go_meet
                case rel => exact ⟨rfl, rfl⟩
            case rest =>
              obtain ⟨rfl, rfl⟩ := hcut
              go_upto_if 118 with fail
              go_cut [10] from 70 to 168 (fun fv wx => fv = .int .i64 (sf : Int) ∧ u7 = wx)
              case first =>
                clear HX7
                rcases HCs.out with ⟨rfl, hev, rfl⟩ | ⟨rfl, cc, hev, rfl⟩
                · clear hev
                  go_wp2
                  go_meet
                  case rel => exact ⟨rfl, rfl⟩
                · clear hev
                  go_wp2
                  go_meet
                  case rel => exact ⟨rfl, rfl⟩
              case rest =>
                obtain ⟨rfl, rfl⟩ := hcut
                have HSf : Hid (sf ≤ m') := by
                  rcases HCs.out with ⟨_, _, h⟩ | ⟨_, _, _, h⟩
                  · exact Nat.le_of_eq h
                  · have := HP4.out.2.2; have := HM2.out; have := HMk.out; unfold Hid; omega
                clear HCs
                -- the Crash
                obtain ⟨_, e1, e2⟩ := HV.out u7 HX7.out.2.2
                have HCr : Hid (Calls _ _ _ u7 _) := HX7.out.1.1.crash (by have := HM4.out.2; omega) ra rl rc v2 hrowl (HROWw.out.below HX7.out.1.1.bel)
                have HM7 : Hid (Made u7 w.heap.size (.slice aa' m' ac') Ls') := HX7.out.2.1
                clear HX7
                go_wp2_with fail
                refine HCr.out.mono ?_
                rintro e u8 ⟨rfl, h8⟩
                have HD8 : Hid (KbD w u8 p nb sb (Ls'.map Je.en) sf 10 (2 + 3 * i + 2)) := h8.out.1
                have HM8 : Hid (Below w.heap.size w u8 ∧ Made u8 w.heap.size (.slice aa' m' ac') Ls') := ⟨h8.out.1.bel, HM7.out.keeps h8.out.2⟩
                clear HCr h8 HM7 e1 e2
                obtain ⟨E2, hS8, hpre8, hsf8⟩ := HD8.out
                have HLd : Hid (Calls _ _ _ u8 _) := hS8.load (by have := HM4.out.2; omega)
                have HP8 : Hid (E2 <+: Ls'.map Je.en ∧ sf ≤ E2.length) := ⟨hpre8, hsf8⟩
                clear HD8 hS8 hpre8 hsf8
                go_wp2_with fail
                refine HLd.out.mono ?_
                rintro e u9 ⟨a9, c9, L9, rfl, h9⟩
                have hl9 : L9.length = E2.length := by have := congrArg List.length h9.out.2.1; simpa using this
                have hle9 := HP8.out.1.length_le
                rw [List.length_map, HM2.out] at hle9
                have hsf9 := HP8.out.2
                have l9a : (sf : Int) ≤ (L9.length : Int) := by omega
                have l9b : (L9.length : Int) ≤ (m' : Int) := by omega
                have l9c : (0 : Int) ≤ (L9.length : Int) := by omega
                have HR9 : Hid (Made u9 w.heap.size (.slice a9 L9.length c9) L9 ∧ Made u9 w.heap.size (.slice aa' m' ac') Ls' ∧ PkS w u9 p nb sb 150 E2 10 (2 + 3 * i + 2) ∧ L9.map Je.en = E2) := ⟨h9.out.1.lowB HM8.out.1.size, HM8.out.2.below h9.out.2.2.1, h9.out.2.2.2, h9.out.2.1⟩
                have HL9 : Hid (L9.length = E2.length ∧ L9.length ≤ m') := ⟨hl9, by omega⟩
                clear HLd h9 hl9 hle9 hsf9 HM8
                go_upto_block 6 with fail
                have HLi : Hid ((L9.length : Int) ≤ (m' : Int)) := l9b
                clear l9a l9b
                try (rename sf ≤ L9.length => h617a; clear h617a)
                try (rename ¬L9.length < sf ∧ ¬m' < L9.length => h617b; clear h617b)
                go_cut [20, 21] from 70 to 168 (fun _ _ wx => Hid (Below u9.heap.size u9 wx))
                case first =>
                  as_aux_lemma =>
                    go_wp2_with fail
                    go_loopw [20] (fun jv wq => ∃ j : Nat, j ≤ L9.length ∧ jv = .int .i64 (j : Int) ∧ Hid (Below u9.heap.size u9 wq)) (fun jv _ => L9.length - (RowKit.intOf jv).toNat)
                    case atStart => exact ⟨0, Nat.zero_le _, rfl, Below.refl _ _⟩
                    case round =>
                      rename World => wq
                      obtain ⟨j, hj, rfl, HBq⟩ := hrel
                      have j0 : (0 : Int) ≤ j := by omega
                      by_cases hjl : j < L9.length
                      · have j1 : (j : Int) < (L9.length : Int) := by omega
                        have j2 : (j : Int) < (m' : Int) := by have := HLi.out; omega
                        have j3 : (j : Int) ≤ 1000 := by have := HM4.out; have := HMk.out; have := HP4.out.2.2; omega
                        obtain ⟨x9, y9, e9, hj9⟩ := (HR9.out.1.below HBq.out).isJs
                        cases e9
                        obtain ⟨xb, yb, eb, hjb⟩ := (HR9.out.2.1.below HBq.out).isJs
                        rw [HM2.out] at eb
                        cases eb
                        have hjL : j < Ls'.length := by have := HM2.out; have := HLi.out; omega
                        rcases hj9.lies with h0 | ⟨b1, o1, e1, hb1, hat1⟩
                        · rw [h0] at hjl; simp at hjl
                        rcases hjb.lies with h0 | ⟨b2, o2, e2, hb2, hat2⟩
                        · rw [h0] at hjL; simp at hjL
                        subst e1
                        subst e2
                        have y1 := hat1 j hjl
                        have y2 := hat2 j hjL
                        have l1 := hj9.lns _ (jes_mem L9 j hjl)
                        have l2 := hjb.lns _ (jes_mem Ls' j hjL)
                        have hee : (L9.getD j je0).en = (Ls'.getD j je0).en := by
                          have h1 := getD_en L9 j hjl
                          have h2 := getD_en Ls' j hjL
                          rw [← h1, ← h2, HR9.out.2.2.2]
                          have h3 := List.prefix_iff_eq_take.1 HP8.out.1
                          rw [h3, List.getD_eq_getElem?_getD, List.getD_eq_getElem?_getD, List.getElem?_take, if_pos (by have := HL9.out.1; omega)]
                        have hll : (L9.getD j je0).lns.length ≤ 1000 := by
                          have hfit : ∀ e ∈ E2, EnFit e := by obtain ⟨_, _, _, _, _, h⟩ := HR9.out.2.2.1; exact h
                          have := (hfit (L9.getD j je0).en (by rw [← HR9.out.2.2.2]; exact List.mem_map.2 ⟨_, jes_mem L9 j hjl, rfl⟩)).2.2.2.1
                          have e2 : (L9.getD j je0).en.lns.length = (L9.getD j je0).lns.length := rfl
                          omega
                        clear hat1 hat2 hj9 hjb
                        generalize L9.getD j je0 = x at *
                        generalize Ls'.getD j je0 = y at *
                        obtain ⟨x0, x1, x2, x3, x4, x5⟩ := x
                        obtain ⟨y0, y1', y2', y3, y4, y5⟩ := y
                        simp only [Je.en, En.mk.injEq] at hee
                        obtain ⟨rfl, rfl, rfl, rfl⟩ := hee
                        obtain ⟨d0, d1, d2, d3⟩ := y1
                        obtain ⟨f0, f1, f2, f3⟩ := y2
                        simp only at d0 d1 d2 d3 f0 f1 f2 f3 l1 l2 hll
                        have HS : Hid (∀ W, Below wq.heap.size wq W → Calls Try.prog 12 #[.agg #[.string x0, .int .i64 x1, .int .i64 x2, .slice x3 x5.length x4], .agg #[.string x0, .int .i64 x1, .int .i64 x2, .slice y3 x5.length y4]] W fun e w' => e = .returned (.bool true) ∧ Below u9.heap.size u9 w') := fun W hW => by
                          refine (sameEntry_any x0 x1 x2 x3 y3 x4 y4 x5 W hll (l1.below hW) (l2.below hW)).mono ?_
                          rintro e w' ⟨rfl, hb⟩
                          have z := HBq.out.trans (hW.mono HBq.out.size)
                          exact ⟨rfl, z.trans (hb.mono z.size)⟩
                        clear l1 l2
                        have bd : Below wq.heap.size wq wq.drew := ⟨rfl, rfl, rfl, Nat.le_refl _, fun _ _ => rfl⟩
                        have HS5 : Hid (Calls _ _ _ wq.drew _) := HS.out wq.drew bd
                        have z0 : wq.drew.cell? ⟨b1, o1 + j * 4, none⟩ = some (.string x0) := d0
                        have z1 : wq.drew.cell? ⟨b1, o1 + j * 4 + 1, none⟩ = some (.int .i64 x1) := d1
                        have z2 : wq.drew.cell? ⟨b1, o1 + j * 4 + 2, none⟩ = some (.int .i64 x2) := d2
                        have z3 : wq.drew.cell? ⟨b1, o1 + j * 4 + 3, none⟩ = some (.slice x3 x5.length x4) := d3
                        have y0 : wq.drew.cell? ⟨b2, o2 + j * 4, none⟩ = some (.string x0) := f0
                        have y1 : wq.drew.cell? ⟨b2, o2 + j * 4 + 1, none⟩ = some (.int .i64 x1) := f1
                        have y2 : wq.drew.cell? ⟨b2, o2 + j * 4 + 2, none⟩ = some (.int .i64 x2) := f2
                        have y3' : wq.drew.cell? ⟨b2, o2 + j * 4 + 3, none⟩ = some (.slice y3 x5.length y4) := f3
                        go_upto_region 38 with fail
                        refine wp_region_drawn (by kernel_rfl) ?_
                        clear d0 d1 d2 d3 f0 f1 f2 f3 HS bd
                        generalize wq.drew = W5 at *
                        refine wpAny_take (i := 0) (v := .slice (some ⟨b1, o1, none⟩) L9.length c9) rfl (by kernel_rfl) (by kernel_rfl) (by kernel_rfl) (fun _ _ _ h => h) (Or.inl ⟨by rfl, fun w => by go_simp⟩) ?_
                        simp only [Act.put, List.getElem_toArray, List.getElem_cons_succ, List.getElem_cons_zero, List.setIfInBounds_toArray, List.set_cons_zero, List.set_cons_succ]
                        refine wpAny_take (i := 1) (v := .int .i64 (j : Int)) rfl (by kernel_rfl) (by kernel_rfl) (by kernel_rfl) (fun _ _ _ h => h) (Or.inl ⟨by rfl, fun w => by go_simp⟩) ?_
                        simp only [Act.put, List.getElem_toArray, List.getElem_cons_succ, List.getElem_cons_zero, List.setIfInBounds_toArray, List.set_cons_zero, List.set_cons_succ]
                        refine wpAny_take (i := 2) (v := .pointer (some ⟨b1, o1 + j * 4, none⟩)) rfl (by kernel_rfl) (by kernel_rfl) (by kernel_rfl) (fun _ _ _ h => h) (Or.inl ⟨by rfl, fun w => by go_simp⟩) ?_
                        simp only [Act.put, List.getElem_toArray, List.getElem_cons_succ, List.getElem_cons_zero, List.setIfInBounds_toArray, List.set_cons_zero, List.set_cons_succ]
                        refine wpAny_take (i := 4) (v := .slice (some ⟨b2, o2, none⟩) m' ac') rfl (by kernel_rfl) (by kernel_rfl) (by kernel_rfl) (fun _ _ _ h => h) (Or.inl ⟨by rfl, fun w => by go_simp⟩) ?_
                        simp only [Act.put, List.getElem_toArray, List.getElem_cons_succ, List.getElem_cons_zero, List.setIfInBounds_toArray, List.set_cons_zero, List.set_cons_succ]
                        refine wpAny_take (i := 5) (v := .int .i64 (j : Int)) rfl (by kernel_rfl) (by kernel_rfl) (by kernel_rfl) (fun _ _ _ h => h) (Or.inl ⟨by rfl, fun w => by go_simp⟩) ?_
                        simp only [Act.put, List.getElem_toArray, List.getElem_cons_succ, List.getElem_cons_zero, List.setIfInBounds_toArray, List.set_cons_zero, List.set_cons_succ]
                        refine wpAny_take (i := 6) (v := .pointer (some ⟨b2, o2 + j * 4, none⟩)) rfl (by kernel_rfl) (by kernel_rfl) (by kernel_rfl) (fun _ _ _ h => h) (Or.inl ⟨by rfl, fun w => by go_simp⟩) ?_
                        simp only [Act.put, List.getElem_toArray, List.getElem_cons_succ, List.getElem_cons_zero, List.setIfInBounds_toArray, List.set_cons_zero, List.set_cons_succ]
                        refine any_of_L (g := 8) (T := fun u => u = W5) _ _ _ _ ?_
                        refine L_take (i := 3) (v := .agg #[.string x0, .int .i64 x1, .int .i64 x2, .slice x3 x5.length x4]) rfl rfl (by kernel_rfl) (by decide) (by kernel_rfl) (by kernel_rfl) (by kernel_rfl) (by kernel_rfl) (fun _ _ _ h => h) (Or.inl ⟨by rfl, fun w' hw' => by rw [hw']; clear hw'; go_simp⟩) rfl ?_
                        simp only [Act.put, List.getElem_toArray, List.getElem_cons_succ, List.getElem_cons_zero, List.setIfInBounds_toArray, List.set_cons_zero, List.set_cons_succ]
                        refine L_take (i := 7) (v := .agg #[.string x0, .int .i64 x1, .int .i64 x2, .slice y3 x5.length y4]) rfl rfl (by kernel_rfl) (by decide) (by kernel_rfl) (by kernel_rfl) (by kernel_rfl) (by kernel_rfl) (fun _ _ _ h => h) (Or.inl ⟨by rfl, fun w' hw' => by rw [hw']; clear hw'; go_simp⟩) rfl ?_
                        simp only [Act.put, List.getElem_toArray, List.getElem_cons_succ, List.getElem_cons_zero, List.setIfInBounds_toArray, List.set_cons_zero, List.set_cons_succ]
                        refine L_go (by kernel_rfl) (by kernel_rfl) ?_
                        refine wpOp_step rfl ?_
                        intro K hK
                        rw [if_pos (by rfl)]
                        have hK' : Shut (∀ a w, _ → K a w) := hK
                        clear hK
                        go_wp2_with fail
                        refine HS5.out.mono ?_
                        rintro e w2 ⟨rfl, hb2⟩
                        have HB2 : Hid (Below u9.heap.size u9 w2) := hb2
                        clear hb2 HS5 z0 z1 z2 z3 y0 y1 y2 y3'
                        refine hK'.out _ _ ?_
                        clear hK' K
                        try simp only [Act.put, List.getElem_toArray, List.getElem_cons_succ, List.getElem_cons_zero, List.setIfInBounds_toArray, List.set_cons_zero, List.set_cons_succ]
                        refine wpAny_take (i := 9) (v := .bool true) rfl (by kernel_rfl) (by kernel_rfl) (by kernel_rfl) (fun _ _ _ h => h) (Or.inl ⟨by rfl, fun w => by go_simp⟩) ?_
                        simp only [Act.put, List.getElem_toArray, List.getElem_cons_succ, List.getElem_cons_zero, List.setIfInBounds_toArray, List.set_cons_zero, List.set_cons_succ]
                        refine wpAny_done (by kernel_rfl) ?_ _
                        go_wp2_with fail
                        go_roundw
                        case rel => exact ⟨j + 1, by omega, by go_num, HB2⟩
                        case measure => simp [RowKit.intOf]; omega
                      · have j1 : ¬ (j : Int) < (L9.length : Int) := by omega
                        go_wp2
                        go_meet
                        case rel => exact HBq
                case rest =>
                  rename World => w10
                  have HK : Hid (KbH w w10 p nb sb (.slice a9 L9.length c9) L9.length (i + 1)) := ⟨E2, L9, (HR9.out.2.2.1.below hcut.out).monoK (by omega) (by omega), HR9.out.1.below hcut.out, HR9.out.2.2.2, HL9.out.1.symm, by have := HL9.out.2; have := HM4.out; have := HMk.out; omega⟩
                  clear HR9 HL9 hcut HP8 HLi
                  go_wp2_with fail
                  go_roundw
                  case rel => exact ⟨L9.length, i + 1, c9, a9, by omega, rfl, rfl, by go_num, HK⟩
                  case measure => simp [RowKit.intOf]; omega
          · have HP4 : Hid (E <+: Ls'.map Je.en ∧ K64 Ls' ∧ E.length = m ∧ Ls'.length = m + k) := ⟨HA4.out.pre, HA4.out.j, HA4.out.le, HA4.out.ll⟩
            have HF6 : Hid (PkF w w4 p nb sb E (1000 + 3000 * i) (2 + 3 * i) false) := HA4.out.S.f
            have HM6 : Hid (Made w4 w.heap.size (.slice aa' m' ac') Ls' ∧ w4.heap[B]? = some AR) := ⟨HA4.out.M, HB4.out⟩
            obtain ⟨_, d1, _⟩ := HV.out w4 HB4.out
            clear HA4 HB4 ht4 t4a t4b hq4 q4a q4b
            go_upto_region 27 with fail
            clear d1
            have hm2 : Ls'.length = m' := by have := HP4.out.2.2.2; have := HMk.out; omega
            obtain ⟨aj, cj, ej, hj⟩ := HM6.out.1.isJs
            rw [hm2] at ej
            cases ej
            have hSv := HF6.out.save (by have := HM4.out.2; omega) aa' ac' Ls' hj HP4.out.2.1 (by have := HM4.out; have := HP4.out.2.2.2; omega) (by have := HM4.out.2; omega) HP4.out.1 (by have := HP4.out.2.2; have := HMk.out; omega)
            rw [hm2] at hSv
            have HSv : Hid (Calls _ _ _ w4 _) := hSv
            have HM2 : Hid (Ls'.length = m') := hm2
            clear hSv hj HF6 hm2
            go_wp2_with fail
            refine HSv.out.mono ?_
            rintro e u7 ⟨sf, ev, rfl, hcase0, h7⟩
            have HX7 : Hid ((KbX w u7 p nb sb (Ls'.map Je.en) sf (1000 + 3000 * i + 1600) (2 + 3 * i + 2) ∧ (false = false → KbD w u7 p nb sb (Ls'.map Je.en) sf (1000 + 3000 * i + 1600) (2 + 3 * i + 2))) ∧ Made u7 w.heap.size (.slice aa' m' ac') Ls' ∧ u7.heap[B]? = some AR) := by
              refine ⟨⟨h7.out.1, fun e => by first | exact h7.out.2.1 e | exact h7.out.2.1 trivial | cases e⟩, HM6.out.1.keeps h7.out.2.2, ?_⟩
              have hAR := HAR.out
              rw [← hAR] at HM6 ⊢
              exact h7.out.2.2.row HM6.out.2 (by decide)
            obtain ⟨nbv, hcase⟩ : ∃ nbv : Bool, (nbv = true ∧ ev = .nilIface ∧ sf = m') ∨ (nbv = false ∧ ∃ cc : Int, ev = .iface 44 (.int .i64 cc) ∧ sf = m) := by
              rcases hcase0 with ⟨h1, h2⟩ | ⟨cc, h1, h2⟩
              · exact ⟨true, .inl ⟨rfl, h1, h2⟩⟩
              · exact ⟨false, .inr ⟨rfl, cc, h1, by rw [h2, HP4.out.2.2.1]⟩⟩
            have HCs : Hid ((nbv = true ∧ ev = .nilIface ∧ sf = m') ∨ (nbv = false ∧ ∃ cc : Int, ev = .iface 44 (.int .i64 cc) ∧ sf = m)) := hcase
            clear HSv h7 hcase0 HM6 hcase
            go_upto_region 28 with fail
            go_cut [118] from 70 to 168 (fun t wx => t = .bool nbv ∧ u7 = wx)
            case first =>
              clear HX7
              rcases HCs.out with ⟨rfl, rfl, _⟩ | ⟨rfl, cc, rfl, _⟩
              · go_wp2
                go_meet
                case rel => exact ⟨rfl, rfl⟩
              · go_wp2
                go_meet
                case rel => exact ⟨rfl, rfl⟩
            case rest =>
              obtain ⟨rfl, rfl⟩ := hcut
              go_upto_if 118 with fail
              go_cut [10] from 70 to 168 (fun fv wx => fv = .int .i64 (sf : Int) ∧ u7 = wx)
              case first =>
                clear HX7
                rcases HCs.out with ⟨rfl, hev, rfl⟩ | ⟨rfl, cc, hev, rfl⟩
                · clear hev
                  go_wp2
                  go_meet
                  case rel => exact ⟨rfl, rfl⟩
                · clear hev
                  go_wp2
                  go_meet
                  case rel => exact ⟨rfl, rfl⟩
              case rest =>
                obtain ⟨rfl, rfl⟩ := hcut
                have HSf : Hid (sf ≤ m') := by
                  rcases HCs.out with ⟨_, _, h⟩ | ⟨_, _, _, h⟩
                  · exact Nat.le_of_eq h
                  · have := HP4.out.2.2; have := HM2.out; have := HMk.out; unfold Hid; omega
                clear HCs
                obtain ⟨_, e1, _⟩ := HV.out u7 HX7.out.2.2
                have HD8 : Hid (KbD w u7 p nb sb (Ls'.map Je.en) sf (1000 + 3000 * i + 1600) (2 + 3 * i + 2)) := HX7.out.1.2 (by first | rfl | trivial)
                have HM8 : Hid (Below w.heap.size w u7 ∧ Made u7 w.heap.size (.slice aa' m' ac') Ls') := ⟨HX7.out.1.1.bel, HX7.out.2.1⟩
                clear HX7
                go_upto_region 32 with fail
                clear e1
                obtain ⟨E2, hS8, hpre8, hsf8⟩ := HD8.out
                have HLd : Hid (Calls _ _ _ u7 _) := hS8.load (by have := HM4.out.2; omega)
                have HP8 : Hid (E2 <+: Ls'.map Je.en ∧ sf ≤ E2.length) := ⟨hpre8, hsf8⟩
                clear HD8 hS8 hpre8 hsf8
                go_wp2_with fail
                refine HLd.out.mono ?_
                rintro e u9 ⟨a9, c9, L9, rfl, h9⟩
                have hl9 : L9.length = E2.length := by have := congrArg List.length h9.out.2.1; simpa using this
                have hle9 := HP8.out.1.length_le
                rw [List.length_map, HM2.out] at hle9
                have hsf9 := HP8.out.2
                have l9a : (sf : Int) ≤ (L9.length : Int) := by omega
                have l9b : (L9.length : Int) ≤ (m' : Int) := by omega
                have l9c : (0 : Int) ≤ (L9.length : Int) := by omega
                have HR9 : Hid (Made u9 w.heap.size (.slice a9 L9.length c9) L9 ∧ Made u9 w.heap.size (.slice aa' m' ac') Ls' ∧ PkS w u9 p nb sb 150 E2 (1000 + 3000 * i + 1600) (2 + 3 * i + 2) ∧ L9.map Je.en = E2) := ⟨h9.out.1.lowB HM8.out.1.size, HM8.out.2.below h9.out.2.2.1, h9.out.2.2.2, h9.out.2.1⟩
                have HL9 : Hid (L9.length = E2.length ∧ L9.length ≤ m') := ⟨hl9, by omega⟩
                clear HLd h9 hl9 hle9 hsf9 HM8
                go_upto_block 6 with fail
                have HLi : Hid ((L9.length : Int) ≤ (m' : Int)) := l9b
                clear l9a l9b
                try (rename sf ≤ L9.length => h617a; clear h617a)
                try (rename ¬L9.length < sf ∧ ¬m' < L9.length => h617b; clear h617b)
                go_cut [20, 21] from 70 to 168 (fun _ _ wx => Hid (Below u9.heap.size u9 wx))
                case first =>
                  as_aux_lemma =>
                    go_wp2_with fail
                    go_loopw [20] (fun jv wq => ∃ j : Nat, j ≤ L9.length ∧ jv = .int .i64 (j : Int) ∧ Hid (Below u9.heap.size u9 wq)) (fun jv _ => L9.length - (RowKit.intOf jv).toNat)
                    case atStart => exact ⟨0, Nat.zero_le _, rfl, Below.refl _ _⟩
                    case round =>
                      rename World => wq
                      obtain ⟨j, hj, rfl, HBq⟩ := hrel
                      have j0 : (0 : Int) ≤ j := by omega
                      by_cases hjl : j < L9.length
                      · have j1 : (j : Int) < (L9.length : Int) := by omega
                        have j2 : (j : Int) < (m' : Int) := by have := HLi.out; omega
                        have j3 : (j : Int) ≤ 1000 := by have := HM4.out; have := HMk.out; have := HP4.out.2.2; omega
                        obtain ⟨x9, y9, e9, hj9⟩ := (HR9.out.1.below HBq.out).isJs
                        cases e9
                        obtain ⟨xb, yb, eb, hjb⟩ := (HR9.out.2.1.below HBq.out).isJs
                        rw [HM2.out] at eb
                        cases eb
                        have hjL : j < Ls'.length := by have := HM2.out; have := HLi.out; omega
                        rcases hj9.lies with h0 | ⟨b1, o1, e1, hb1, hat1⟩
                        · rw [h0] at hjl; simp at hjl
                        rcases hjb.lies with h0 | ⟨b2, o2, e2, hb2, hat2⟩
                        · rw [h0] at hjL; simp at hjL
                        subst e1
                        subst e2
                        have y1 := hat1 j hjl
                        have y2 := hat2 j hjL
                        have l1 := hj9.lns _ (jes_mem L9 j hjl)
                        have l2 := hjb.lns _ (jes_mem Ls' j hjL)
                        have hee : (L9.getD j je0).en = (Ls'.getD j je0).en := by
                          have h1 := getD_en L9 j hjl
                          have h2 := getD_en Ls' j hjL
                          rw [← h1, ← h2, HR9.out.2.2.2]
                          have h3 := List.prefix_iff_eq_take.1 HP8.out.1
                          rw [h3, List.getD_eq_getElem?_getD, List.getD_eq_getElem?_getD, List.getElem?_take, if_pos (by have := HL9.out.1; omega)]
                        have hll : (L9.getD j je0).lns.length ≤ 1000 := by
                          have hfit : ∀ e ∈ E2, EnFit e := by obtain ⟨_, _, _, _, _, h⟩ := HR9.out.2.2.1; exact h
                          have := (hfit (L9.getD j je0).en (by rw [← HR9.out.2.2.2]; exact List.mem_map.2 ⟨_, jes_mem L9 j hjl, rfl⟩)).2.2.2.1
                          have e2 : (L9.getD j je0).en.lns.length = (L9.getD j je0).lns.length := rfl
                          omega
                        clear hat1 hat2 hj9 hjb
                        generalize L9.getD j je0 = x at *
                        generalize Ls'.getD j je0 = y at *
                        obtain ⟨x0, x1, x2, x3, x4, x5⟩ := x
                        obtain ⟨y0, y1', y2', y3, y4, y5⟩ := y
                        simp only [Je.en, En.mk.injEq] at hee
                        obtain ⟨rfl, rfl, rfl, rfl⟩ := hee
                        obtain ⟨d0, d1, d2, d3⟩ := y1
                        obtain ⟨f0, f1, f2, f3⟩ := y2
                        simp only at d0 d1 d2 d3 f0 f1 f2 f3 l1 l2 hll
                        have HS : Hid (∀ W, Below wq.heap.size wq W → Calls Try.prog 12 #[.agg #[.string x0, .int .i64 x1, .int .i64 x2, .slice x3 x5.length x4], .agg #[.string x0, .int .i64 x1, .int .i64 x2, .slice y3 x5.length y4]] W fun e w' => e = .returned (.bool true) ∧ Below u9.heap.size u9 w') := fun W hW => by
                          refine (sameEntry_any x0 x1 x2 x3 y3 x4 y4 x5 W hll (l1.below hW) (l2.below hW)).mono ?_
                          rintro e w' ⟨rfl, hb⟩
                          have z := HBq.out.trans (hW.mono HBq.out.size)
                          exact ⟨rfl, z.trans (hb.mono z.size)⟩
                        clear l1 l2
                        have bd : Below wq.heap.size wq wq.drew := ⟨rfl, rfl, rfl, Nat.le_refl _, fun _ _ => rfl⟩
                        have HS5 : Hid (Calls _ _ _ wq.drew _) := HS.out wq.drew bd
                        have z0 : wq.drew.cell? ⟨b1, o1 + j * 4, none⟩ = some (.string x0) := d0
                        have z1 : wq.drew.cell? ⟨b1, o1 + j * 4 + 1, none⟩ = some (.int .i64 x1) := d1
                        have z2 : wq.drew.cell? ⟨b1, o1 + j * 4 + 2, none⟩ = some (.int .i64 x2) := d2
                        have z3 : wq.drew.cell? ⟨b1, o1 + j * 4 + 3, none⟩ = some (.slice x3 x5.length x4) := d3
                        have y0 : wq.drew.cell? ⟨b2, o2 + j * 4, none⟩ = some (.string x0) := f0
                        have y1 : wq.drew.cell? ⟨b2, o2 + j * 4 + 1, none⟩ = some (.int .i64 x1) := f1
                        have y2 : wq.drew.cell? ⟨b2, o2 + j * 4 + 2, none⟩ = some (.int .i64 x2) := f2
                        have y3' : wq.drew.cell? ⟨b2, o2 + j * 4 + 3, none⟩ = some (.slice y3 x5.length y4) := f3
                        go_upto_region 38 with fail
                        refine wp_region_drawn (by kernel_rfl) ?_
                        clear d0 d1 d2 d3 f0 f1 f2 f3 HS bd
                        generalize wq.drew = W5 at *
                        refine wpAny_take (i := 0) (v := .slice (some ⟨b1, o1, none⟩) L9.length c9) rfl (by kernel_rfl) (by kernel_rfl) (by kernel_rfl) (fun _ _ _ h => h) (Or.inl ⟨by rfl, fun w => by go_simp⟩) ?_
                        simp only [Act.put, List.getElem_toArray, List.getElem_cons_succ, List.getElem_cons_zero, List.setIfInBounds_toArray, List.set_cons_zero, List.set_cons_succ]
                        refine wpAny_take (i := 1) (v := .int .i64 (j : Int)) rfl (by kernel_rfl) (by kernel_rfl) (by kernel_rfl) (fun _ _ _ h => h) (Or.inl ⟨by rfl, fun w => by go_simp⟩) ?_
                        simp only [Act.put, List.getElem_toArray, List.getElem_cons_succ, List.getElem_cons_zero, List.setIfInBounds_toArray, List.set_cons_zero, List.set_cons_succ]
                        refine wpAny_take (i := 2) (v := .pointer (some ⟨b1, o1 + j * 4, none⟩)) rfl (by kernel_rfl) (by kernel_rfl) (by kernel_rfl) (fun _ _ _ h => h) (Or.inl ⟨by rfl, fun w => by go_simp⟩) ?_
                        simp only [Act.put, List.getElem_toArray, List.getElem_cons_succ, List.getElem_cons_zero, List.setIfInBounds_toArray, List.set_cons_zero, List.set_cons_succ]
                        refine wpAny_take (i := 4) (v := .slice (some ⟨b2, o2, none⟩) m' ac') rfl (by kernel_rfl) (by kernel_rfl) (by kernel_rfl) (fun _ _ _ h => h) (Or.inl ⟨by rfl, fun w => by go_simp⟩) ?_
                        simp only [Act.put, List.getElem_toArray, List.getElem_cons_succ, List.getElem_cons_zero, List.setIfInBounds_toArray, List.set_cons_zero, List.set_cons_succ]
                        refine wpAny_take (i := 5) (v := .int .i64 (j : Int)) rfl (by kernel_rfl) (by kernel_rfl) (by kernel_rfl) (fun _ _ _ h => h) (Or.inl ⟨by rfl, fun w => by go_simp⟩) ?_
                        simp only [Act.put, List.getElem_toArray, List.getElem_cons_succ, List.getElem_cons_zero, List.setIfInBounds_toArray, List.set_cons_zero, List.set_cons_succ]
                        refine wpAny_take (i := 6) (v := .pointer (some ⟨b2, o2 + j * 4, none⟩)) rfl (by kernel_rfl) (by kernel_rfl) (by kernel_rfl) (fun _ _ _ h => h) (Or.inl ⟨by rfl, fun w => by go_simp⟩) ?_
                        simp only [Act.put, List.getElem_toArray, List.getElem_cons_succ, List.getElem_cons_zero, List.setIfInBounds_toArray, List.set_cons_zero, List.set_cons_succ]
                        refine any_of_L (g := 8) (T := fun u => u = W5) _ _ _ _ ?_
                        refine L_take (i := 3) (v := .agg #[.string x0, .int .i64 x1, .int .i64 x2, .slice x3 x5.length x4]) rfl rfl (by kernel_rfl) (by decide) (by kernel_rfl) (by kernel_rfl) (by kernel_rfl) (by kernel_rfl) (fun _ _ _ h => h) (Or.inl ⟨by rfl, fun w' hw' => by rw [hw']; clear hw'; go_simp⟩) rfl ?_
                        simp only [Act.put, List.getElem_toArray, List.getElem_cons_succ, List.getElem_cons_zero, List.setIfInBounds_toArray, List.set_cons_zero, List.set_cons_succ]
                        refine L_take (i := 7) (v := .agg #[.string x0, .int .i64 x1, .int .i64 x2, .slice y3 x5.length y4]) rfl rfl (by kernel_rfl) (by decide) (by kernel_rfl) (by kernel_rfl) (by kernel_rfl) (by kernel_rfl) (fun _ _ _ h => h) (Or.inl ⟨by rfl, fun w' hw' => by rw [hw']; clear hw'; go_simp⟩) rfl ?_
                        simp only [Act.put, List.getElem_toArray, List.getElem_cons_succ, List.getElem_cons_zero, List.setIfInBounds_toArray, List.set_cons_zero, List.set_cons_succ]
                        refine L_go (by kernel_rfl) (by kernel_rfl) ?_
                        refine wpOp_step rfl ?_
                        intro K hK
                        rw [if_pos (by rfl)]
                        have hK' : Shut (∀ a w, _ → K a w) := hK
                        clear hK
                        go_wp2_with fail
                        refine HS5.out.mono ?_
                        rintro e w2 ⟨rfl, hb2⟩
                        have HB2 : Hid (Below u9.heap.size u9 w2) := hb2
                        clear hb2 HS5 z0 z1 z2 z3 y0 y1 y2 y3'
                        refine hK'.out _ _ ?_
                        clear hK' K
                        try simp only [Act.put, List.getElem_toArray, List.getElem_cons_succ, List.getElem_cons_zero, List.setIfInBounds_toArray, List.set_cons_zero, List.set_cons_succ]
                        refine wpAny_take (i := 9) (v := .bool true) rfl (by kernel_rfl) (by kernel_rfl) (by kernel_rfl) (fun _ _ _ h => h) (Or.inl ⟨by rfl, fun w => by go_simp⟩) ?_
                        simp only [Act.put, List.getElem_toArray, List.getElem_cons_succ, List.getElem_cons_zero, List.setIfInBounds_toArray, List.set_cons_zero, List.set_cons_succ]
                        refine wpAny_done (by kernel_rfl) ?_ _
                        go_wp2_with fail
                        go_roundw
                        case rel => exact ⟨j + 1, by omega, by go_num, HB2⟩
                        case measure => simp [RowKit.intOf]; omega
                      · have j1 : ¬ (j : Int) < (L9.length : Int) := by omega
                        go_wp2
                        go_meet
                        case rel => exact HBq
                case rest =>
                  rename World => w10
                  have HK : Hid (KbH w w10 p nb sb (.slice a9 L9.length c9) L9.length (i + 1)) := ⟨E2, L9, (HR9.out.2.2.1.below hcut.out).monoK (by omega) (by omega), HR9.out.1.below hcut.out, HR9.out.2.2.2, HL9.out.1.symm, by have := HL9.out.2; have := HM4.out; have := HMk.out; omega⟩
                  clear HR9 HL9 hcut HP8 HLi
                  go_wp2_with fail
                  go_roundw
                  case rel => exact ⟨L9.length, i + 1, c9, a9, by omega, rfl, rfl, by go_num, HK⟩
                  case measure => simp [RowKit.intOf]; omega
    · have HEb : Hid (Below w.heap.size w wr) := H.out.bel
      clear H
      by_cases h1 : i < rs.length
      · have m1 : (i : Int) < rs.length := by omega
        have m2 : ¬ (i : Int) < 25 := by omega
        go_wp2
        go_ret
        exact ⟨rfl, HEb.out⟩
      · have m1 : ¬ (i : Int) < rs.length := by omega
        go_wp2
        go_ret
        exact ⟨rfl, HEb.out⟩
end Go.Proofs.Ytijjegkkeigeoaa
