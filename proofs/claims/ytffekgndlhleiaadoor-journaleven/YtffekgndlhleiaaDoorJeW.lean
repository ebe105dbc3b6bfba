/-
  daylaw3.JournalEven, walked.
-/
import Derived.Test.YtffekgndlhleiaaDoorJeN
import Derived.Test.YtffekgndlhleiaaDoorErrT
import Derived.Deep.CutBlock
namespace Go.Proofs.YtffekgndlhleiaaDoor
set_option linter.unusedVariables false
set_option linter.unusedSimpArgs false
set_option maxRecDepth 100000
open Go.RowKit Go.Lib Math

theorem jturn_d : dSum ⟨#[49, 48]⟩ ⟨#[69, 85, 82]⟩ [⟨⟨#[49, 48]⟩, ⟨#[69, 85, 82]⟩, 5⟩, ⟨⟨#[52, 48]⟩, ⟨#[69, 85, 82]⟩, -5⟩] = 5 := by kernel_rfl
theorem jturn_c : cSum ⟨#[49, 48]⟩ ⟨#[69, 85, 82]⟩ [⟨⟨#[49, 48]⟩, ⟨#[69, 85, 82]⟩, 5⟩, ⟨⟨#[52, 48]⟩, ⟨#[69, 85, 82]⟩, -5⟩] = 0 := by kernel_rfl
theorem hasR_at {es : List Je} {k : Nat} (hk : k < es.length) : hasR es (es.getD k je0).ref = true := isInR_iff.2 (List.mem_map.2 ⟨_, jes_mem es k hk, rfl⟩)
theorem pBad_again {c : List Ac} {es : List Je} (h : JGood c es) {k : Nat} (hk : k < es.length) : pBad c es (es.getD k je0).ref (es.getD k je0).ent (es.getD k je0).per (es.getD k je0).lns = 8 := by
  unfold pBad
  rw [if_neg (fun hh => hh (h.ok _ (jes_mem es k hk))), if_pos (hasR_at hk)]
theorem jeven_calls {c : List Ac} {n0 bj bm : Nat} {es : List Je} {W : World} (h : JSt c n0 bj bm es W) (hlen : es.length ≤ 200) :
    (∀ acc cur, Calls Tryd.prog 8 #[.pointer (some ⟨bj, 0, none⟩), .string acc, .string cur] W fun e w' => e = .returned (.tuple #[.int .i64 (dSum acc cur (allL es)), .int .i64 (-cSum acc cur (allL es)), .nilIface]) ∧ Below W.heap.size W w') ∧
    (Calls Tryd.prog 10 #[.pointer (some ⟨bj, 0, none⟩)] W fun e w' => e = .returned (.int .i64 (es.length : Int)) ∧ w' = W) ∧
    (∀ k : Nat, k < es.length → Calls Tryd.prog 11 #[.pointer (some ⟨bj, 0, none⟩), .int .i64 (k : Int)] W fun e w' => ∃ a' cap', e = .returned (.tuple #[.agg #[.string (es.getD k je0).ref, .int .i64 (es.getD k je0).ent, .int .i64 (es.getD k je0).per, .slice a' (es.getD k je0).lns.length cap'], .nilIface]) ∧ LnRow w' W.heap.size (.slice a' (es.getD k je0).lns.length cap') (es.getD k je0).lns ∧ Below W.heap.size W w') ∧
    (∀ k : Nat, k < es.length → Calls Tryd.prog 12 #[.pointer (some ⟨bj, 0, none⟩), .string (es.getD k je0).ref] W fun e w' => e = .returned (.bool true) ∧ Below W.heap.size W w') ∧
    (∀ (k : Nat) (ca : Option Addr) (cc : Nat) (a : Option Addr) (cap : Nat), k < es.length → IsSl W ca c cc → IsLn W a (es.getD k je0).lns cap → Calls Tryd.prog 5 #[.pointer (some ⟨bj, 0, none⟩), .slice ca c.length cc, .agg #[.string (es.getD k je0).ref, .int .i64 (es.getD k je0).ent, .int .i64 (es.getD k je0).per, .slice a (es.getD k je0).lns.length cap]] W fun e w' => e = .returned (.tuple #[.int .i64 0, enE 8]) ∧ Below W.heap.size W w') := by
  obtain ⟨⟨v, j⟩, g⟩ := h
  refine ⟨fun acc cur => turns_any j hlen (fun x hx => (g.lns hx).2) g.amt acc cur, jlen_any j, fun k hk => jat_ok j hlen k hk (g.lns (jes_mem es k hk)).1 (g.lns (jes_mem es k hk)).2, fun k hk => ?_, fun k ca cc a cap hk hc hl => ?_⟩
  · have := jhas_any j (es.getD k je0).ref
    rw [hasR_at hk] at this
    exact this
  · have := post_bad j (by omega) ca cc c (es.getD k je0).ref (es.getD k je0).ent (es.getD k je0).per a cap (es.getD k je0).lns hc hl (by rw [pBad_again g hk]; decide)
    rw [pBad_again g hk] at this
    exact this

set_option maxHeartbeats 8000000 in
theorem jeven_any (ca : Option Addr) (cc : Nat) (c : List Ac) (a : Option Addr) (cap : Nat) (L : List Je) (cur : ByteArray) (w : World) (hlen : L.length ≤ maxLen) (hcl : c.length ≤ 17000000000000) (hc : IsSl w ca c cc) (h : IsJs w a L cap) (hg : ErrT w) :
    Calls Tryd.prog 3 #[.slice ca c.length cc, .slice a L.length cap, .string cur] w fun e w' => e = .returned (.bool true) ∧ Below w.heap.size w w' := by
  have HN : Hid (∀ W, Calls Tryd.prog 4 #[] W fun e w' => e = .returned (.pointer (some ⟨W.heap.size + 1, 0, none⟩)) ∧ JAt w' W.heap.size (W.heap.size + 1) W.heap.size (.slice none 0 0) [] ∧ Below W.heap.size W w' ∧ w'.heap.size = W.heap.size + 2) := jnew_any
  have hL' : (L.length : Int) ≤ 9223372036854775807 := by unfold maxLen at hlen; omega
  have hcl' : (c.length : Int) ≤ 17000000000000 := by omega
  have HL : Hid (IsJs w a L cap) := h
  have Hc : Hid (IsSl w ca c cc) := hc
  have Hg : Hid (ErrT w) := hg
  obtain ⟨i0, hi, hz0, hz1, hz2⟩ := info_parts nint_info
  clear h hc hlen hg
  go_enter Tryd.func3, Tryd.ntmps3
  go_wp2_with fail
  refine (HN.out w).mono ?_
  rintro e w1 ⟨rfl, j1, b1, -⟩
  have HA : Hid (Calls _ _ _ w1 _) := accounts3_any w1
  have Hj1 : Hid (JAt w1 _ _ _ _ _) := j1
  have Hb1 : Hid (Below w.heap.size w w1) := b1
  clear j1 b1
  go_wp2_with fail
  refine HA.out.mono ?_
  rintro e w2 ⟨rfl, k2, b2⟩
  have HT : Hid (Calls _ _ _ w2 _) := jentry_any ⟨#[97]⟩ 1 1 ⟨#[49, 48]⟩ ⟨#[52, 48]⟩ ⟨#[69, 85, 82]⟩ 5 w2 (by decide)
  have Hk2 : Hid (IsSl w2 _ _ _) := k2
  have Hb2 : Hid (Below w1.heap.size w1 w2) := b2
  clear HA k2 b2
  go_wp2_with fail
  refine HT.out.mono ?_
  rintro e w3 ⟨a3, c3, rfl, l3, b3⟩
  have J3 := (Hj1.out.below Hb2.out).below b3
  have HP : Hid (Calls Tryd.prog 5 #[.pointer (some ⟨w.heap.size + 1, 0, none⟩), .slice (some ⟨w1.heap.size, 0, none⟩) 5 5, .agg #[.string ⟨#[97]⟩, .int .i64 1, .int .i64 1, .slice a3 2 c3]] w3 fun e w' => e = .returned (.tuple #[.int .i64 0, .nilIface]) ∧ ∃ x : Value × Option Addr × Nat, JAt w' w.heap.size (w.heap.size + 1) w.heap.size x.1 [⟨⟨#[97]⟩, 1, 1, x.2.1, x.2.2, [⟨⟨#[49, 48]⟩, ⟨#[69, 85, 82]⟩, 5⟩, ⟨⟨#[52, 48]⟩, ⟨#[69, 85, 82]⟩, -5⟩]⟩] ∧ Below w.heap.size w3 w') := by
    refine (post_ok J3 _ 5 jC ⟨#[97]⟩ 1 1 a3 c3 _ (Hk2.out.below b3) l3 (pBad_zero.2 ⟨jfact_ok3, rfl, by decide⟩)).mono ?_
    rintro e w4 ⟨rfl, g4, cp4, a4, cap4, j4, k4, _⟩
    exact ⟨rfl, ⟨_, a4, cap4⟩, j4, k4.below J3⟩
  have Hb3 : Hid (Below w.heap.size w w3) := (Hb1.out.trans (Hb2.out.mono Hb1.out.size)).trans (b3.mono (by have := Hb1.out.size; have := Hb2.out.size; omega))
  clear HT l3 b3 J3 Hk2 Hb2 Hb1 Hj1
  go_wp2_with fail
  refine HP.out.mono ?_
  rintro e w4 ⟨rfl, ⟨v4, a4, cap4⟩, j4, hb4⟩
  have Hb4 : Hid (Below w.heap.size w w4) := Hb3.out.trans hb4
  have HO : Hid (Calls Tryd.prog 8 #[.pointer (some ⟨w.heap.size + 1, 0, none⟩), .string ⟨#[49, 48]⟩, .string ⟨#[69, 85, 82]⟩] w4 fun e w' => e = .returned (.tuple #[.int .i64 5, .int .i64 0, .nilIface]) ∧ Below w4.heap.size w4 w') := by
    have := turns_any j4 (by simp) (by simp) (by
      intro y hy
      simp [allL] at hy
      rcases hy with rfl | rfl <;> simp [mostA]) ⟨#[49, 48]⟩ ⟨#[69, 85, 82]⟩
    have e : allL [Je.mk ⟨#[97]⟩ 1 1 a4 cap4 [⟨⟨#[49, 48]⟩, ⟨#[69, 85, 82]⟩, 5⟩, ⟨⟨#[52, 48]⟩, ⟨#[69, 85, 82]⟩, -5⟩]] = [⟨⟨#[49, 48]⟩, ⟨#[69, 85, 82]⟩, 5⟩, ⟨⟨#[52, 48]⟩, ⟨#[69, 85, 82]⟩, -5⟩] := rfl
    rw [e, jturn_d, jturn_c] at this
    exact this
  clear HP j4 hb4 Hb3
  go_wp2_with fail
  refine HO.out.mono ?_
  rintro e w5 ⟨rfl, b5⟩
  have Hb5 : Hid (Below w.heap.size w w5) := Hb4.out.trans (b5.mono Hb4.out.size)
  clear HO b5 Hb4
  go_wp2_with fail
  refine (HN.out w5).mono ?_
  rintro e w6 ⟨rfl, j6, b6, -⟩
  have Hb6 : Hid (Below w.heap.size w w6) := Hb5.out.trans (b6.mono Hb5.out.size)
  have hn6 : w.heap.size ≤ w5.heap.size := Hb5.out.size
  have HS6 : Hid (JSt c w5.heap.size (w5.heap.size + 1) w5.heap.size [] w6) := ⟨⟨_, j6⟩, JGood.nil c⟩
  clear HN j6 b6 Hb5
  generalize w5.heap.size = n5 at *
  go_upto_block 0 with fail
  go_cut [13] from 30 (fun _ wx => Hid (∃ es, es.length ≤ 60 ∧ JSt c n5 (n5 + 1) n5 es wx) ∧ Hid (Below w.heap.size w wx))
  case first =>
    go_wp2_with fail
    go_loopw [13] (fun i wr => ∃ k : Nat, k ≤ L.length ∧ k ≤ 60 ∧ i = .int .i64 k ∧ Hid (∃ es, es.length ≤ k ∧ JSt c n5 (n5 + 1) n5 es wr) ∧ Hid (Below w.heap.size w wr)) (fun i _ => 60 - (intOf i).toNat)
    case atStart => exact ⟨0, Nat.zero_le _, Nat.zero_le _, rfl, ⟨[], Nat.le_refl _, HS6.out⟩, Hb6.out⟩
    case round =>
      obtain ⟨k, hk1, hk60, rfl, HE, HB⟩ := hrel
      have HE60 : Hid (∃ es, es.length ≤ 60 ∧ JSt c n5 (n5 + 1) n5 es wr) := by
        obtain ⟨es, h1, h2⟩ := HE.out
        exact ⟨es, by omega, h2⟩
      by_cases hlt : k < L.length
      · by_cases h60 : k < 60
        · obtain ⟨es, hes, hst⟩ := HE.out
          rcases HL.out.lies with h0 | ⟨gb, go, rfl, hgb, hgc⟩
          · rw [h0] at hlt; simp at hlt
          obtain ⟨d0, d1, d2, d3⟩ := (hgc k hlt).below HB.out hgb
          have hln := (HL.out.lns _ (jes_mem L k hlt)).below HB.out
          have HP : Hid (Calls _ _ _ wr _) := jpost_step hst (by omega) ca cc (L.getD k je0) (Hc.out.below HB.out) hln
          generalize L.getD k je0 = x at *
          obtain ⟨xr, xe, xp, xa, xc, xl⟩ := x
          simp only at d0 d1 d2 d3 HP
          have q0 : (0 : Int) ≤ k := by omega
          have q1 : (k : Int) < L.length := by omega
          have q2 : (k : Int) < 60 := by omega
          clear hgc hln hst HE60
          go_wp2_with fail
          refine HP.out.mono ?_
          rintro e w7 ⟨n7, es', rfl, st7, hl7, b7⟩
          have HE7 : Hid (∃ es, es.length ≤ k + 1 ∧ JSt c n5 (n5 + 1) n5 es w7) := ⟨es', by omega, st7⟩
          have HB7 : Hid (Below w.heap.size w w7) := HB.out.trans (b7.mono hn6)
          clear HP st7 b7 HE HB d0 d1 d2 d3
          go_wp2
          go_roundw
          case rel => exact ⟨k + 1, by omega, by omega, by go_num, HE7, HB7⟩
          case measure => simp [intOf]; omega
        · have q1 : (k : Int) < L.length := by omega
          have q2 : ¬ (k : Int) < 60 := by omega
          clear HE
          go_wp2
          go_meet
          case rel => exact ⟨HE60, HB⟩
      · have q1 : ¬ (k : Int) < L.length := by omega
        clear HE
        go_wp2
        go_meet
        case rel => exact ⟨HE60, HB⟩
  case rest =>
    obtain ⟨HE, HB⟩ := hcut
    obtain ⟨es, hes, hst⟩ := HE.out
    have Hst : Hid (JSt c n5 (n5 + 1) n5 es wc) := hst
    have hes' : (es.length : Int) ≤ 60 := by omega
    have hl4 : (allL es).length ≤ 4000 := by have := allL_len (es := es) (fun x hx => (hst.2.lns hx).2); omega
    have Hbd : Hid (∀ acc, (0 ≤ dSum acc cur (allL es) ∧ dSum acc cur (allL es) ≤ 4000000000000000000) ∧ -4000000000000000000 ≤ cSum acc cur (allL es) ∧ cSum acc cur (allL es) ≤ 0) := fun acc => ⟨dSum_bd hst.2.amt hl4, cSum_bd hst.2.amt hl4⟩
    clear hst HE HS6 Hb6 HL hl4
    go_wp2
    go_loopw [14, 15, 16] (fun dv cv iv wr => ∃ k : Nat, k ≤ c.length ∧ iv = .int .i64 k ∧ Hid (TwoR wr wc.heap.size dv ((List.range k).map fun i => dSum (c.getD i ac0).code cur (allL es)) cv ((List.range k).map fun i => - cSum (c.getD i ac0).code cur (allL es))) ∧ Below wc.heap.size wc wr) (fun _ _ iv _ => c.length - (intOf iv).toNat)
    case atStart => exact ⟨0, Nat.zero_le _, rfl, TwoR.nil _ _, Below.refl _ _⟩
    case round =>
      obtain ⟨k, hk, rfl, R, BW⟩ := hrel
      have Bw := HB.out.trans (BW.mono HB.out.size)
      by_cases hlt : k < c.length
      · rcases (Hc.out.below Bw).lies with h0 | ⟨gb, go, rfl, hgb, hgc⟩
        · rw [h0] at hlt; simp at hlt
        have d0 := (hgc k hlt).c0
        have HT : Hid (Calls _ _ _ wr _) := (jeven_calls (Hst.out.below BW) (by omega)).1 (c.getD k ac0).code cur
        obtain ⟨⟨f1, f2⟩, f3, f4⟩ := Hbd.out (c.getD k ac0).code
        have hnd : ((List.range (k + 1)).map fun i => dSum (c.getD i ac0).code cur (allL es)) = ((List.range k).map fun i => dSum (c.getD i ac0).code cur (allL es)) ++ [dSum (c.getD k ac0).code cur (allL es)] := by rw [List.range_succ, List.map_append]; rfl
        have hnc : ((List.range (k + 1)).map fun i => - cSum (c.getD i ac0).code cur (allL es)) = ((List.range k).map fun i => - cSum (c.getD i ac0).code cur (allL es)) ++ [- cSum (c.getD k ac0).code cur (allL es)] := by rw [List.range_succ, List.map_append]; rfl
        have hld : ((List.range k).map fun i => dSum (c.getD i ac0).code cur (allL es)).length = k := by simp
        have hlc : ((List.range k).map fun i => - cSum (c.getD i ac0).code cur (allL es)).length = k := by simp
        have HND : Hid (_ = _) := hnd
        have HNC : Hid (_ = _) := hnc
        generalize ((List.range k).map fun i => dSum (c.getD i ac0).code cur (allL es)) = ds at *
        generalize ((List.range k).map fun i => - cSum (c.getD i ac0).code cur (allL es)) = cs at *
        generalize dSum (c.getD k ac0).code cur (allL es) = dk at *
        generalize cSum (c.getD k ac0).code cur (allL es) = ck at *
        obtain ⟨nk, hnk⟩ : ∃ nk, -ck = nk := ⟨_, rfl⟩
        rw [hnk] at HT HNC
        have f5 : 0 ≤ nk := by omega
        have f6 : nk ≤ 4000000000000000000 := by omega
        generalize (c.getD k ac0).code = kc at *
        have q0 : (0 : Int) ≤ k := by omega
        have q1 : (k : Int) < c.length := by omega
        have g1 : ¬ dk < 0 := by omega
        have g2 : ¬ nk < 0 := by omega
        have Hlk : Hid (ds.length = k ∧ cs.length = k) := ⟨hld, hlc⟩
        clear hgc hnd hnc hnk hld hlc f3 f4
        go_wp2_with fail
        refine HT.out.mono ?_
        rintro e w7 ⟨rfl, b7⟩
        have R7 : Hid (TwoR w7 wc.heap.size _ ds _ cs) := R.out.below b7
        have B7 := BW.trans (b7.mono BW.size)
        obtain ⟨da, dc, hd⟩ := R7.out.rd.shape
        cases hd
        obtain ⟨xa, xc, hx⟩ := R7.out.rc.shape
        cases hx
        have hdk : ds.length ≤ 17000000000000 := by rw [Hlk.out.1]; omega
        have hck : cs.length ≤ 17000000000000 := by rw [Hlk.out.2]; omega
        obtain ⟨W8, hW8⟩ : ∃ W8, w7.alloc (.cells #[.int .i64 dk] 3) = W8 := ⟨_, rfl⟩
        have b8 : Below w7.heap.size w7 W8 := by rw [← hW8]; exact (Below.refl _ _).alloc (Nat.le_refl _) _
        have R8 : Hid (TwoR W8 wc.heap.size _ ds _ cs) := R7.out.below b8
        have B8 := B7.trans (b8.mono B7.size)
        have hr8 : W8.heap[w7.heap.size]? = some (.cells #[.int .i64 dk] 3 (0, 0)) := by rw [← hW8]; exact World.alloc_heap_new w7 _
        have Hsrc : Hid (∀ j u, [Value.int .i64 dk][j]? = some u → W8.cell? ((⟨w7.heap.size, 0, none⟩ : Addr).add j) = some u) := World.news_of_block hr8
        have Hs1 : Hid (∀ u ∈ [Value.int .i64 dk], u.oneCell' = true) := by intro u hu; simp at hu; subst hu; rfl
        have HW8 : Hid (_ = W8) := hW8
        have HB8 : Hid (Below wc.heap.size wc W8) := B8
        have Hm1 : Hid (ds.length + 1 ≤ maxLen) := by unfold Hid maxLen; omega
        have Hm2 : Hid ((ds.length + 1) * 8 ≤ 140737488355328) := by unfold Hid; omega
        clear HT b7 R R7 hW8 b8 B8 hr8 B7 d0
        go_wp2_with (at_builtin; rw [HW8.out]; refine wpList_append_lies _ rfl _ _ 37 rfl wc.heap.size 3 i0 (.int .i64 0) 1 8 Tryd.underlying37 hi hz0 hz1 hz2 rfl (by decide) _ _ _ rfl R8.out.rd ⟨w7.heap.size, 0, none⟩ 1 1 [.int .i64 dk] rfl rfl Hsrc.out Hs1.out (by decide) Hm1.out Hm2.out HB8.out.size W8.heap.size rfl ?_)
        intro g9 c9 w9 hown hgrow hat _
        have R9 : Hid (TwoR w9 wc.heap.size (.slice (some ⟨g9, 0, none⟩) (ds.length + 1) c9) (ds ++ [dk]) (.slice xa cs.length xc) cs) := R8.out.left rfl hown hgrow hat
        have HB9 : Hid (Below wc.heap.size wc w9) := HB8.out.grown hgrow HB8.out.size (fun j e => (R8.out.rd.lt j e).1)
        obtain ⟨W10, hW10⟩ : ∃ W10, w9.alloc (.cells #[.int .i64 nk] 3) = W10 := ⟨_, rfl⟩
        have b10 : Below w9.heap.size w9 W10 := by rw [← hW10]; exact (Below.refl _ _).alloc (Nat.le_refl _) _
        have R10 : Hid (TwoR W10 wc.heap.size _ (ds ++ [dk]) _ cs) := R9.out.below b10
        have HB10 : Hid (Below wc.heap.size wc W10) := HB9.out.trans (b10.mono HB9.out.size)
        have hr10 : W10.heap[w9.heap.size]? = some (.cells #[.int .i64 nk] 3 (0, 0)) := by rw [← hW10]; exact World.alloc_heap_new w9 _
        have Hsrc2 : Hid (∀ j u, [Value.int .i64 nk][j]? = some u → W10.cell? ((⟨w9.heap.size, 0, none⟩ : Addr).add j) = some u) := World.news_of_block hr10
        have Hs2 : Hid (∀ u ∈ [Value.int .i64 nk], u.oneCell' = true) := by intro u hu; simp at hu; subst hu; rfl
        have HW10 : Hid (_ = W10) := hW10
        have Hm3 : Hid (cs.length + 1 ≤ maxLen) := by unfold Hid maxLen; omega
        have Hm4 : Hid ((cs.length + 1) * 8 ≤ 140737488355328) := by unfold Hid; omega
        clear hown hgrow hat R8 R9 HW8 HB8 HB9 Hsrc Hs1 hW10 b10 hr10 Hm1 Hm2
        go_wp2_with (at_builtin; rw [HW10.out]; refine wpList_append_lies _ rfl _ _ 37 rfl wc.heap.size 3 i0 (.int .i64 0) 1 8 Tryd.underlying37 hi hz0 hz1 hz2 rfl (by decide) _ _ _ rfl R10.out.rc ⟨w9.heap.size, 0, none⟩ 1 1 [.int .i64 nk] rfl rfl Hsrc2.out Hs2.out (by decide) Hm3.out Hm4.out HB10.out.size W10.heap.size rfl ?_)
        intro g11 c11 w11 hown hgrow hat _
        have R11 : Hid (TwoR w11 wc.heap.size (.slice (some ⟨g9, 0, none⟩) (ds.length + 1) c9) (ds ++ [dk]) (.slice (some ⟨g11, 0, none⟩) (cs.length + 1) c11) (cs ++ [nk])) := (R10.out.swap.left rfl hown hgrow hat).swap
        have HB11 : Hid (Below wc.heap.size wc w11) := HB10.out.grown hgrow HB10.out.size (fun j e => (R10.out.rc.lt j e).1)
        rw [← HND.out, ← HNC.out] at R11
        clear hown hgrow hat R10 HW10 HB10
        go_wp2
        go_roundw
        case rel => exact ⟨k + 1, by omega, by go_num, R11, HB11.out⟩
        case measure => simp [intOf]; omega
      · have hke : k = c.length := by omega
        subst hke
        have hsb := even_bd Hst.out.2 (by omega) cur
        have hse := even_all Hst.out.2 cur
        have hld : ((List.range c.length).map fun i => dSum (c.getD i ac0).code cur (allL es)).length = c.length := by simp
        have hlc : ((List.range c.length).map fun i => - cSum (c.getD i ac0).code cur (allL es)).length = c.length := by simp
        have hId : ∀ x ∈ (List.range c.length).map fun i => dSum (c.getD i ac0).code cur (allL es), I64 x := fun x hx => by
          obtain ⟨i, _, rfl⟩ := List.mem_map.1 hx
          have := Hbd.out (c.getD i ac0).code
          unfold I64
          omega
        have hIc : ∀ x ∈ (List.range c.length).map fun i => - cSum (c.getD i ac0).code cur (allL es), I64 x := fun x hx => by
          obtain ⟨i, _, rfl⟩ := List.mem_map.1 hx
          have := Hbd.out (c.getD i ac0).code
          unfold I64
          omega
        generalize ((List.range c.length).map fun i => dSum (c.getD i ac0).code cur (allL es)) = ds at *
        generalize ((List.range c.length).map fun i => - cSum (c.getD i ac0).code cur (allL es)) = cs at *
        have hI : ∀ {l : List Int}, (∀ x ∈ l, I64 x) → ∀ i, i < l.length → I64 (l.getD i 0) := fun h i hi => h _ (by
          rw [List.getD_eq_getElem?_getD, List.getElem?_eq_getElem hi]
          exact List.getElem_mem hi)
        have H1 := sum_own wc.heap.size ds.length 3 _ ds wr (by omega) (hI hId) R.out.rd
        have H2 := sum_own wc.heap.size cs.length 3 _ cs wr (by omega) (hI hIc) R.out.rc
        have hf1 := sum_fit ds.sum ⟨by omega, by omega⟩
        have hf2 := sum_fit cs.sum ⟨by omega, by omega⟩
        rw [hf1.1, hf1.2] at H1
        rw [hf2.1, hf2.2, ← hse] at H2
        obtain ⟨da, dc, hd⟩ := R.out.rd.shape
        cases hd
        obtain ⟨xa, xc, hx⟩ := R.out.rc.shape
        cases hx
        have HH1 : Hid (Calls _ _ _ wr _) := H1
        have HH2 : Hid (Calls _ _ _ wr _) := H2
        have HSt : Hid (JSt c n5 (n5 + 1) n5 es wr) := Hst.out.below BW
        clear H1 H2 hf1 hf2 hI hId hIc hse R Hst Hbd hsb hld hlc
        generalize ds.sum = sm at *
        obtain ⟨wb, hwb⟩ : ∃ wb, wb = wr := ⟨_, rfl⟩
        subst hwb
        go_wp2_with fail
        refine HH1.out.mono ?_
        rintro e w9 ⟨rfl, hw⟩
        rw [hw]; clear hw w9 HH1
        go_wp2_with fail
        refine HH2.out.mono ?_
        rintro e w9 ⟨rfl, hw⟩
        rw [hw]; clear hw w9 HH2
        go_wp2
        go_loopw [24] (fun iv wr => ∃ m : Nat, m ≤ es.length ∧ iv = .int .i64 m ∧ Below wb.heap.size wb wr) (fun iv _ => es.length - (intOf iv).toNat)
        case atStart => exact ⟨0, Nat.zero_le _, rfl, Below.refl _ _⟩
        case round =>
          obtain ⟨m, hm, rfl, B2⟩ := hrel
          have Bx := Bw.trans (B2.mono Bw.size)
          have HC := jeven_calls (HSt.out.below B2) (by omega)
          have HLn : Hid (Calls _ _ _ wr _) := HC.2.1
          by_cases hlm : m < es.length
          · have HAt : Hid (Calls _ _ _ wr _) := HC.2.2.1 m hlm
            have q0 : (0 : Int) ≤ m := by omega
            have q1 : (m : Int) < es.length := by omega
            have HHs : Hid (∀ W, Below wb.heap.size wb W → Calls Tryd.prog 12 #[.pointer (some ⟨n5 + 1, 0, none⟩), .string (es.getD m je0).ref] W fun e w' => e = .returned (.bool true) ∧ Below W.heap.size W w') := fun W hW => (jeven_calls (HSt.out.below hW) (by omega)).2.2.2.1 m hlm
            have HPs : Hid (∀ W a' cap', Below wb.heap.size wb W → IsLn W a' (es.getD m je0).lns cap' → Calls Tryd.prog 5 #[.pointer (some ⟨n5 + 1, 0, none⟩), .slice ca c.length cc, .agg #[.string (es.getD m je0).ref, .int .i64 (es.getD m je0).ent, .int .i64 (es.getD m je0).per, .slice a' (es.getD m je0).lns.length cap']] W fun e w' => e = .returned (.tuple #[.int .i64 0, enE 8]) ∧ Below W.heap.size W w') := fun W a' cap' hW hl => (jeven_calls (HSt.out.below hW) (by omega)).2.2.2.2 m ca cc a' cap' hlm (Hc.out.below (Bw.trans (hW.mono Bw.size))) hl
            generalize es.getD m je0 = x at *
            obtain ⟨xr, xe, xp, xaa, xcc, xl⟩ := x
            simp only at HAt HHs HPs
            clear HC
            go_wp2_with fail
            refine HLn.out.mono ?_
            rintro e w9 ⟨rfl, hw⟩
            rw [hw]; clear hw w9 HLn
            go_wp2_with fail
            refine HAt.out.mono ?_
            rintro e w10 ⟨a10, c10, rfl, r10, b10⟩
            obtain ⟨W11, hW11⟩ : ∃ W11, w10.alloc (.cells #[.string xr, .int .i64 xe, .int .i64 xp, .slice a10 xl.length c10] 33) = W11 := ⟨_, rfl⟩
            have bx : Box4 W11 w10.heap.size xr xe xp (.slice a10 xl.length c10) := by rw [← hW11]; exact Box4.new _ _ _ _ _
            have b11 : Below w10.heap.size w10 W11 := by rw [← hW11]; exact (Below.refl _ _).alloc (Nat.le_refl _) _
            have B11 := (B2.trans (b10.mono B2.size)).trans (b11.mono (by have := b10.size; have := B2.size; omega))
            have HH : Hid (Calls _ _ _ W11 _) := HHs.out W11 B11
            have e0 := bx.c0
            have hb10 := (Array.getElem?_eq_some_iff.1 bx).1
            obtain ⟨a', cap', e', hil⟩ := r10.isLn
            cases e'
            have Hil : Hid (IsLn W11 a10 xl c10) := hil.below b11
            have Hbx : Hid (Box4 W11 w10.heap.size xr xe xp (.slice a10 xl.length c10)) := bx
            have HW11 : Hid (_ = W11) := hW11
            clear HAt b10 b11 hW11 bx r10 HHs hil
            go_wp2_with fail
            rw [HW11.out]
            refine HH.out.mono ?_
            rintro e w12 ⟨rfl, b12⟩
            have B12 := B11.trans (b12.mono B11.size)
            have x12 := Hbx.out.below b12 hb10
            have HP : Hid (Calls _ _ _ w12 _) := HPs.out w12 a10 c10 B12 (Hil.out.below b12)
            rw [enE_ne (by decide)] at HP
            have f0 := x12.c0
            have f1 := x12.c1
            have f2 := x12.c2
            have f3 := x12.c3
            clear HH HPs b12 Hbx x12 Hil e0 HW11 hb10
            go_wp2_with fail
            refine HP.out.mono ?_
            rintro e w13 ⟨rfl, b13⟩
            have B13 := B12.trans (b13.mono B12.size)
            have B13w := Bw.trans (B13.mono Bw.size)
            have HE : Hid (Calls _ _ _ w13 _) := err_true (E := .iface 51 (.int .i64 8)) (c := 8) (.inr ⟨rfl, by decide, by decide⟩) w13 (Hg.out.below B13w (Nat.le_refl _))
            clear HP f0 f1 f2 f3 b13
            go_wp2_with fail
            refine HE.out.mono ?_
            rintro e w14 ⟨rfl, b14⟩
            have B14 := B13.trans (b14.mono B13.size)
            clear HE b14
            go_wp2
            go_roundw
            case rel => exact ⟨m + 1, by omega, by go_num, B14⟩
            case measure => simp [intOf]; omega
          · have hme : m = es.length := by omega
            subst hme
            clear HC
            go_wp2_with fail
            refine HLn.out.mono ?_
            rintro e w9 ⟨rfl, hw⟩
            rw [hw]; clear hw w9 HLn
            go_wp2
            go_ret
            exact ⟨by simp, Bx⟩
end Go.Proofs.YtffekgndlhleiaaDoor
