/-
  daylaw3.JournalPlays, walked: the entries are posted.
-/
import Derived.Test.YtpohlhejeaafdaaGreatDoorZj16
import Derived.Test.YtpohlhejeaafdaaGreatDoorZj18
import Derived.Test.YtpohlhejeaafdaaGreatDoorZj19
import Derived.Test.YtpohlhejeaafdaaGreatDoorZj21
import Derived.Deep.CutBlock
import Derived.Deep.QuietTactic
import Derived.BigQuiet
namespace Go.Proofs.YtpohlhejeaafdaaGreatDoor
set_option linter.unusedVariables false
set_option linter.unusedSimpArgs false
set_option maxRecDepth 100000
open Go.RowKit Go.Lib

/-- The journal, and the law's own list. -/
structure JPl (c : List Ac) (w W : World) (va v : Value) (es ls : List Je) : Prop where
  j : JAt W w.heap.size (w.heap.size + 1) w.heap.size v es
  g : JGood c es
  r : JeRow W w.heap.size va ls
  ap : ∀ j, va.ownBlock = some j → v.ownBlock ≠ some j
  s : SameJ es ls
  ln : ∀ x ∈ ls, IsLn w x.adr x.lns x.cap
  b : Below w.heap.size w W
theorem JPl.below {c : List Ac} {w W W' : World} {va v : Value} {es ls : List Je} (h : JPl c w W va v es ls) (hb : Below W.heap.size W W') : JPl c w W' va v es ls :=
  ⟨h.j.below hb, h.g, h.r.below hb, h.ap, h.s, h.ln, h.b.trans (hb.mono h.b.size)⟩
/-- Where the law's own list grows. -/
theorem JPl.push {c : List Ac} {w W W' : World} {va v : Value} {es ls : List Je} {x y : Je} {g cap : Nat} (j : JAt W w.heap.size (w.heap.size + 1) w.heap.size v (es ++ [y])) (hgd : JGood c (es ++ [y])) (r : JeRow W w.heap.size va ls) (ap : ∀ j, va.ownBlock = some j → v.ownBlock ≠ some j) (s : SameJ es ls) (ln : ∀ x ∈ ls, IsLn w x.adr x.lns x.cap) (b : Below w.heap.size w W)
    (hxy : y.core = x.core) (hx : IsLn w x.adr x.lns x.cap)
    (hown : W'.ownsRow w.heap.size 29 4 (.slice (some ⟨g, 0, none⟩) (ls.length + 1) cap) (ls.length + 1) (jeRow ls ++ x.cells.toList)) (hg : W.grownBy W' va.ownBlock) (hat : va.ownBlock = some g ∨ g = W.heap.size) :
    JPl c w W' (.slice (some ⟨g, 0, none⟩) (ls.length + 1) cap) v (es ++ [y]) (ls ++ [x]) := by
  refine ⟨j.grown hg (fun i e => ⟨r.typ i e, ap i e⟩), hgd, ?_, fun i e1 e2 => ?_, s.snoc hxy, fun z hz => ?_, b.grown hg b.size (fun i e => r.own i e)⟩
  · unfold JeRow
    rw [jeRow_append, jeRow_one, List.length_append]
    exact hown
  · have : g = i := by simpa [Value.ownBlock] using e1
    subst this
    rcases hat with hat | hat
    · exact ap g hat e2
    · have := j.row.lt g e2; omega
  · rcases List.mem_append.1 hz with hz | hz
    · exact ln z hz
    · rw [List.mem_singleton.1 hz]; exact hx

set_option maxHeartbeats 8000000 in
theorem jplays_any (ca : Option Addr) (cc : Nat) (c : List Ac) (a : Option Addr) (cap : Nat) (L : List Je) (en pe : Int) (acc cur : ByteArray) (w : World) (hlen : L.length ≤ maxLen) (hc : IsSl w ca c cc) (hok : ∀ k, k < c.length → (c.getD k ac0).code.size ≤ maxLen ∧ (c.getD k ac0).name.size ≤ maxLen) (h : IsJs w a L cap) (hg : ErrT w) :
    Calls Tryz.prog 3 #[.slice ca c.length cc, .slice a L.length cap, .int .i64 en, .int .i64 pe, .string acc, .string cur] w fun e w' => e = .returned (.bool true) ∧ Below w.heap.size w w' := by
  have HN : Hid (Calls _ _ _ w _) := jnew_any w
  have hL' : (L.length : Int) ≤ 9223372036854775807 := by unfold maxLen at hlen; omega
  have HL : Hid (IsJs w a L cap) := h
  have Hc : Hid (IsSl w ca c cc) := hc
  have Hg : Hid (ErrT w) := hg
  have Hok : Hid (∀ k, k < c.length → (c.getD k ac0).code.size ≤ maxLen ∧ (c.getD k ac0).name.size ≤ maxLen) := hok
  obtain ⟨i0, hi, hz0, hz1, hz2⟩ := info_parts je_info
  clear h hc hlen hg hok
  go_enter Tryz.func3, Tryz.ntmps3
  go_wp2_with fail
  refine HN.out.mono ?_
  rintro e w1 ⟨rfl, j1, b1, -⟩
  have H1 : Hid (JPl c w w1 (.slice none 0 0) (.slice none 0 0) [] []) := ⟨j1, JGood.nil c, JeRow.nil _ _, (fun j e => by cases e), rfl, (by simp), b1⟩
  clear HN j1 b1
  go_upto_block 0 with fail
  go_cut [14, 15] from 38 (fun va _ wx => Hid (∃ v es ls, ls.length ≤ 60 ∧ JPl c w wx va v es ls))
  case first =>
    as_aux_lemma =>
      go_wp2_with fail
      go_loopw [14, 15] (fun va i wr => ∃ k : Nat, k ≤ L.length ∧ k ≤ 60 ∧ i = .int .i64 k ∧ Hid (∃ v es ls, ls.length ≤ k ∧ JPl c w wr va v es ls)) (fun _ i _ => 60 - (RowKit.intOf i).toNat)
      case atStart => exact ⟨0, Nat.zero_le _, Nat.zero_le _, rfl, ⟨_, [], [], Nat.le_refl _, H1.out⟩⟩
      case round =>
        obtain ⟨k, hk1, hk60, rfl, HE⟩ := hrel
        by_cases hlt : k < L.length
        · by_cases h60 : k < 60
          · obtain ⟨v, es, ls, hls, P⟩ := HE.out
            have HB := P.b
            rcases HL.out.lies with h0 | ⟨gb, go, rfl, hgb, hgc⟩
            · rw [h0] at hlt; simp at hlt
            obtain ⟨d0, d1, d2, d3⟩ := (hgc k hlt).below HB hgb
            have hln := HL.out.lns _ (jes_mem L k hlt)
            have Hx : Hid (∀ W, Below w.heap.size w W → JeAt W gb (go + k * 4) (L.getD k je0)) := fun W hW => (hgc k hlt).below hW hgb
            generalize L.getD k je0 = x at *
            obtain ⟨xr, xe, xp, xa, xc, xl⟩ := x
            simp only at d0 d1 d2 d3 hln
            have HR : Hid (Calls _ _ _ wr _) := refEntry_any ca cc c xr xe xp xa xc xl wr (Hc.out.below HB) Hok.out (hln.below HB)
            have HP : Hid (JPl c w wr _ v es ls) := P
            have Hln : Hid (IsLn w xa xl xc) := hln
            have q0 : (0 : Int) ≤ k := by omega
            have q1 : (k : Int) < L.length := by omega
            have q2 : (k : Int) < 60 := by omega
            obtain ⟨va, vc, ev, hcap, hlie⟩ := P.r.lies
            have hls' : (ls.length : Int) ≤ 60 := by omega
            obtain ⟨e0, he0⟩ : ∃ e0, entBad c xr xe xp xl = e0 := ⟨_, rfl⟩
            have her := entBad_range c xr xe xp xl
            rw [he0] at HR her
            have He0 : Hid (entBad c xr xe xp xl = e0) := he0
            have Hlie : Hid (ls = [] ∨ ∃ b off, va = some ⟨b, off, none⟩ ∧ b < wr.heap.size ∧ ∀ k, k < ls.length → JeAt wr b (off + k * 4) (ls.getD k je0)) := hlie
            clear hgc hln he0 hlie HE hcap P
            subst ev
            go_wp2_with fail
            refine HR.out.mono ?_
            rintro e w2 ⟨rfl, b2⟩
            have Hb2 : Hid (Below wr.heap.size wr w2) := b2
            have HP2 : Hid (JPl c w w2 _ v es ls) := HP.out.below b2
            clear HR b2 d0 d1 d2 d3 HB HP
            go_upto_block 2 with fail
            obtain ⟨pb, hpb⟩ : ∃ pb, expE e0 (hasR ls xr) = pb := ⟨_, rfl⟩
            have Hpb : Hid (expE e0 (hasR ls xr) = pb) := hpb
            have hpr := expE_range (hasR ls xr) her
            rw [hpb] at hpr
            clear hpb her
            go_cut [16, 17] from 39 to 138 (fun ev _ wx => ev = .int .i64 pb ∧ Hid (Below w2.heap.size w2 wx))
            case first =>
              go_wp2_with fail
              go_loopw [16, 17] (fun ev iv wr2 => ∃ j : Nat, j ≤ ls.length ∧ iv = .int .i64 j ∧ ev = .int .i64 (expE e0 (hasR (ls.take j) xr)) ∧ Below w2.heap.size w2 wr2) (fun _ iv _ => ls.length - (RowKit.intOf iv).toNat)
              case atStart => exact ⟨0, Nat.zero_le _, rfl, by
                rw [hasR_zero]
                unfold expE
                by_cases h0 : e0 = 0
                · rw [if_neg (by simp [h0]), h0]; rfl
                · rw [if_pos h0], Below.refl _ _⟩
              case round =>
                obtain ⟨j, hj, rfl, rfl, B3⟩ := hrel
                by_cases hlj : j < ls.length
                · have r1 : (0 : Int) ≤ j := by omega
                  have r2 : (j : Int) < ls.length := by omega
                  by_cases hz : expE e0 (hasR (ls.take j) xr) = 0
                  · obtain ⟨z1, z2⟩ := expE_none hz
                    have Bw3 := HP2.out.b.trans (B3.mono HP2.out.b.size)
                    obtain ⟨d0, _, _, _⟩ := Hx.out _ Bw3
                    rcases Hlie.out with h0 | ⟨bl, ol, rfl, hbl, hlc⟩
                    · rw [h0] at hlj; simp at hlj
                    have hby := (hlc j hlj).below (Hb2.out.trans (B3.mono Hb2.out.size)) hbl
                    have hsu := hasR_succ ls xr j hlj
                    generalize ls.getD j je0 = y at *
                    obtain ⟨y0, _, _, _⟩ := hby
                    rw [z2, Bool.false_or] at hsu
                    have Hsu : Hid (hasR (ls.take (j + 1)) xr = (y.ref.toList == xr.toList)) := hsu
                    have Hz1 : Hid (e0 = 0) := z1
                    simp only at d0
                    generalize y.ref = yr at *
                    rw [hz]
                    clear hsu z1 z2 hlc hz
                    by_cases hq : (yr.toList == xr.toList) = true
                    · have Hn : Hid (expE e0 (hasR (ls.take (j + 1)) xr) = 8) := by
                        unfold Hid
                        rw [Hsu.out, hq, Hz1.out]
                        rfl
                      go_wp2
                      go_quiet (fail)
                      go_wp2
                      go_roundw
                      case rel => exact ⟨j + 1, by omega, by go_num, by rw [Hn.out], en_drewN B3 _⟩
                      case measure => simp [RowKit.intOf]; omega
                    · have hq' : (yr.toList == xr.toList) = false := by simpa using hq
                      have Hn : Hid (expE e0 (hasR (ls.take (j + 1)) xr) = 0) := by
                        unfold Hid
                        rw [Hsu.out, hq', Hz1.out]
                        rfl
                      clear hq
                      go_wp2
                      go_quiet (fail)
                      go_wp2
                      go_roundw
                      case rel => exact ⟨j + 1, by omega, by go_num, by rw [Hn.out], en_drewN B3 _⟩
                      case measure => simp [RowKit.intOf]; omega
                  · have hze := expE_end hz
                    rw [Hpb.out] at hze
                    rw [hze] at hz ⊢
                    clear hze
                    go_wp2
                    go_meet
                    case rel => exact ⟨rfl, B3⟩
                · have hje : j = ls.length := by omega
                  subst hje
                  rw [List.take_length, Hpb.out]
                  go_wp2
                  go_meet
                  case rel => exact ⟨rfl, B3⟩
            case rest =>
              obtain ⟨rfl, HBc⟩ := hcut
              have HP3 := HP2.out.below HBc.out
              obtain ⟨d0, d1, d2, d3⟩ := Hx.out _ HP3.b
              simp only at d0 d1 d2 d3
              have hlt3 : ls.length < 200 := by omega
              have HPo : Hid (Calls _ _ _ wc _) := jpost_uni HP3.j HP3.g (by have := HP3.s.len; omega) ca cc ⟨xr, xe, xp, xa, xc, xl⟩ (Hc.out.below HP3.b) (Hln.out.below HP3.b) pb (by
                rw [pBad_exp HP3.s hlt3]
                simp only
                rw [He0.out, Hpb.out])
              simp only at HPo
              have HP3h : Hid (JPl c w wc _ v es ls) := HP3
              have HI := ent_errIs pb hpr
              obtain ⟨ev, hev⟩ : ∃ ev, enE pb = ev := ⟨_, rfl⟩
              rw [hev] at HPo HI
              have HIh : Hid (ErrIs ev pb) := HI
              clear HP3 hlt3 HI hev HP2 HBc Hb2 Hlie
              go_wp2_with fail
              refine HPo.out.mono ?_
              rintro e w3 ⟨n3, v3, es3, rfl, j3, g3, k3, o3, hy3, hn3⟩
              have B3 : Below w.heap.size w w3 := HP3h.out.b.trans (k3.below HP3h.out.j)
              have R3 : JeRow w3 w.heap.size _ ls := HP3h.out.r.post HP3h.out.j k3 HP3h.out.ap
              have A3 : ∀ i, (Value.slice va ls.length vc).ownBlock = some i → v3.ownBlock ≠ some i := fun i e1 e2 => by
                rcases o3 with o3 | ⟨g', o3, o4⟩
                · exact HP3h.out.ap i e1 (o3.symm.trans e2)
                · rw [o3] at e2
                  have := HP3h.out.r.lt i e1
                  cases e2
                  omega
              have HEr : Hid (Calls _ _ _ w3 _) := err_true HIh.out w3 (Hg.out.below B3 (Nat.le_refl _))
              have HS3 : Hid (JAt w3 w.heap.size (w.heap.size + 1) w.heap.size v3 es3 ∧ JGood c es3 ∧ JeRow w3 w.heap.size (.slice va ls.length vc) ls ∧ (∀ i, (Value.slice va ls.length vc).ownBlock = some i → v3.ownBlock ≠ some i) ∧ SameJ es ls ∧ (∀ x ∈ ls, IsLn w x.adr x.lns x.cap) ∧ Below w.heap.size w w3) := ⟨j3, g3, R3, A3, HP3h.out.s, HP3h.out.ln, B3⟩
              have Hy3 : Hid (pb = 0 → n3 = es.length ∧ ∃ a' cap', es3 = es ++ [⟨xr, xe, xp, a', cap', xl⟩]) := hy3
              have Hn3 : Hid (pb ≠ 0 → es3 = es) := hn3
              clear HPo j3 g3 k3 o3 hy3 hn3 B3 R3 A3 d0 d1 d2 d3 HIh HP3h
              go_wp2_with fail
              refine HEr.out.mono ?_
              rintro e w4 ⟨rfl, b4⟩
              have Hb4 : Hid (Below w3.heap.size w3 w4) := b4
              clear HEr b4
              go_upto_region 14 with fail
              go_cut [100] from 39 to 138 (fun t wx => t = .bool false ∧ wx = w4)
              case first =>
                by_cases h0 : pb = 0
                · obtain ⟨hn, _⟩ := Hy3.out h0
                  have hn' : n3 = (ls.length : Int) := by rw [hn, HS3.out.2.2.2.2.1.len]
                  subst h0
                  subst hn'
                  clear hn
                  go_wp2
                  go_meet
                  case rel => exact ⟨rfl, rfl⟩
                · go_wp2
                  go_meet
                  case rel => exact ⟨rfl, rfl⟩
              case rest =>
                obtain ⟨rfl, rfl⟩ := hcut
                go_upto_if 102 with fail
                go_cut [14] from 39 to 138 (fun vv wx => Hid (∃ v es ls, ls.length ≤ k + 1 ∧ JPl c w wx vv v es ls))
                case first =>
                  obtain ⟨j3, g3, R3, A3, S3, L3, B3⟩ := HS3.out
                  have Bc := B3.trans (Hb4.out.mono B3.size)
                  by_cases h0 : pb = 0
                  · obtain ⟨-, a', cap', he⟩ := Hy3.out h0
                    subst h0
                    subst he
                    obtain ⟨d0, d1, d2, d3⟩ := Hx.out _ Bc
                    simp only at d0 d1 d2 d3
                    obtain ⟨W5, hW5⟩ : ∃ W5, wc.alloc (.cells #[.string xr, .int .i64 xe, .int .i64 xp, .slice xa xl.length xc] 29) = W5 := ⟨_, rfl⟩
                    have b5 : Below wc.heap.size wc W5 := by rw [← hW5]; exact (Below.refl _ _).alloc (Nat.le_refl _) _
                    have hr5 : W5.heap[wc.heap.size]? = some (.cells #[.string xr, .int .i64 xe, .int .i64 xp, .slice xa xl.length xc] 29 (0, 0)) := by rw [← hW5]; exact World.alloc_heap_new wc _
                    have R5 : JeRow W5 w.heap.size _ ls := (R3.below Hb4.out).below b5
                    have J5 := (j3.below Hb4.out).below b5
                    have B5 := Bc.trans (b5.mono Bc.size)
                    have Hsrc : Hid (∀ j u, (Je.mk xr xe xp xa xc xl).cells.toList[j]? = some u → W5.cell? ((⟨wc.heap.size, 0, none⟩ : Addr).add j) = some u) := World.news_of_block hr5
                    have Hs1 : Hid (∀ u ∈ (Je.mk xr xe xp xa xc xl).cells.toList, u.oneCell' = true) := je_one _
                    have HW5 : Hid (_ = W5) := hW5
                    have HR5 : Hid (JeRow W5 w.heap.size (.slice va ls.length vc) ls) := R5
                    have HB5 : Hid (Below w.heap.size w W5) := B5
                    have Hm1 : Hid (ls.length + 1 ≤ maxLen) := by unfold Hid maxLen; omega
                    have Hm2 : Hid ((ls.length + 1) * 56 ≤ 140737488355328) := by unfold Hid; omega
                    have HE5 : Hid (JAt W5 w.heap.size (w.heap.size + 1) w.heap.size v3 (es ++ [⟨xr, xe, xp, a', cap', xl⟩]) ∧ JGood c (es ++ [⟨xr, xe, xp, a', cap', xl⟩]) ∧ (∀ i, (Value.slice va ls.length vc).ownBlock = some i → v3.ownBlock ≠ some i) ∧ SameJ es ls ∧ (∀ x ∈ ls, IsLn w x.adr x.lns x.cap)) := ⟨J5, g3, A3, S3, L3⟩
                    clear hW5 b5 hr5 R5 J5 B5 j3 g3 R3 A3 S3 L3 HS3 Hy3 Hn3
                    go_wp2_with (at_builtin; rw [HW5.out]; refine wpList_append_lies _ rfl _ _ 23 rfl w.heap.size 29 i0 (.agg #[.string ByteArray.empty, .int .i64 0, .int .i64 0, .slice none 0 0]) 4 56 Tryz.underlying23 hi hz0 hz1 hz2 rfl (by decide) _ _ _ rfl HR5.out ⟨wc.heap.size, 0, none⟩ 1 1 (Je.mk xr xe xp xa xc xl).cells.toList rfl rfl Hsrc.out Hs1.out (by decide) Hm1.out Hm2.out HB5.out.size W5.heap.size rfl ?_)
                    intro g6 c6 w6 hown hgrow hat _
                    obtain ⟨J5, g5, A5, S5, L5⟩ := HE5.out
                    have HF : Hid (JPl c w w6 (.slice (some ⟨g6, 0, none⟩) (ls.length + 1) c6) v3 (es ++ [⟨xr, xe, xp, a', cap', xl⟩]) (ls ++ [⟨xr, xe, xp, xa, xc, xl⟩])) := JPl.push J5 g5 HR5.out A5 S5 L5 HB5.out rfl Hln.out hown hgrow hat
                    clear hown hgrow hat J5 g5 A5 S5 L5 HE5 HR5 HB5 HW5
                    go_wp2
                    go_meet
                    case rel => exact ⟨_, _, _, by simp; omega, HF.out⟩
                  · have he := Hn3.out h0
                    subst he
                    have HF : Hid (JPl c w wc (.slice va ls.length vc) v3 es3 ls) := ⟨j3.below Hb4.out, g3, R3.below Hb4.out, A3, S3, L3, Bc⟩
                    clear j3 g3 R3 A3 S3 L3 HS3 Hy3 Hn3
                    go_wp2
                    go_meet
                    case rel => exact ⟨_, _, _, by omega, HF.out⟩
                case rest =>
                  obtain ⟨v5, es5, ls5, hl5, P5⟩ := hcut.out
                  have HP5 : Hid (JPl c w wc _ v5 es5 ls5) := P5
                  have HH : Hid (Calls _ _ _ wc _) := jhas_any P5.j xr
                  obtain ⟨va5, vc5, ev5, hcap5, hlie5⟩ := P5.r.lies
                  have Hlie5 : Hid (ls5 = [] ∨ ∃ b off, va5 = some ⟨b, off, none⟩ ∧ b < wc.heap.size ∧ ∀ k, k < ls5.length → JeAt wc b (off + k * 4) (ls5.getD k je0)) := hlie5
                  have hl5' : (ls5.length : Int) ≤ 61 := by omega
                  clear P5 hcap5 hlie5 HS3 Hy3 Hn3
                  subst ev5
                  go_wp2
                  go_loopw [21, 22] (fun nv iv wr2 => ∃ j : Nat, j ≤ ls5.length ∧ iv = .int .i64 j ∧ nv = .bool (hasR (ls5.take j) xr) ∧ Below wc.heap.size wc wr2) (fun _ iv _ => ls5.length - (RowKit.intOf iv).toNat)
                  case atStart => exact ⟨0, Nat.zero_le _, rfl, by rw [hasR_zero], Below.refl _ _⟩
                  case round =>
                    obtain ⟨j, hj, rfl, rfl, B6⟩ := hrel
                    have Bw6 := HP5.out.b.trans (B6.mono HP5.out.b.size)
                    obtain ⟨d0, _, _, _⟩ := Hx.out _ Bw6
                    simp only at d0
                    by_cases hlj : j < ls5.length
                    · have r1 : (0 : Int) ≤ j := by omega
                      have r2 : (j : Int) < ls5.length := by omega
                      rcases Hlie5.out with h0 | ⟨bl, ol, rfl, hbl, hlc⟩
                      · rw [h0] at hlj; simp at hlj
                      obtain ⟨y0, _, _, _⟩ := (hlc j hlj).below B6 hbl
                      have hsu := hasR_succ ls5 xr j hlj
                      generalize ls5.getD j je0 = y at *
                      generalize y.ref = yr at *
                      have Hsu : Hid (hasR (ls5.take (j + 1)) xr = (hasR (ls5.take j) xr || (yr.toList == xr.toList))) := hsu
                      clear hsu hlc
                      by_cases hin : hasR (ls5.take j) xr = true
                      · have Hn : Hid (hasR (ls5.take (j + 1)) xr = true) := by unfold Hid; rw [Hsu.out, hin]; rfl
                        rw [hin]
                        clear hin
                        go_wp2
                        go_quiet (fail)
                        go_wp2
                        go_roundw
                        case rel => exact ⟨j + 1, by omega, by go_num, by rw [Hn.out], en_drewN B6 _⟩
                        case measure => simp [RowKit.intOf]; omega
                      · have hin' : hasR (ls5.take j) xr = false := by simpa using hin
                        have Hn : Hid (hasR (ls5.take (j + 1)) xr = (yr.toList == xr.toList)) := by unfold Hid; rw [Hsu.out, hin']; rfl
                        rw [hin']
                        clear hin hin' Hsu
                        go_wp2
                        go_quiet (fail)
                        go_wp2
                        go_roundw
                        case rel => exact ⟨j + 1, by omega, by go_num, by rw [Hn.out], en_drewN B6 _⟩
                        case measure => simp [RowKit.intOf]; omega
                    · have hje : j = ls5.length := by omega
                      subst hje
                      rw [List.take_length]
                      have HH6 : Hid (Calls _ _ _ wr _) := jhas_any (HP5.out.j.below B6) xr
                      rw [HP5.out.s.has] at HH6
                      generalize hasR ls5 xr = qb at *
                      go_wp2_with fail
                      refine HH6.out.mono ?_
                      rintro e w7 ⟨rfl, b7⟩
                      have HF : Hid (JPl c w w7 (.slice va5 ls5.length vc5) v5 es5 ls5) := (HP5.out.below B6).below b7
                      clear HH6 b7
                      cases qb
                      · go_wp2
                        go_roundw
                        case rel => exact ⟨k + 1, by omega, by omega, by go_num, ⟨_, _, _, hl5, HF.out⟩⟩
                        case measure => simp [RowKit.intOf]; omega
                      · go_wp2
                        go_roundw
                        case rel => exact ⟨k + 1, by omega, by omega, by go_num, ⟨_, _, _, hl5, HF.out⟩⟩
                        case measure => simp [RowKit.intOf]; omega
          · have q1 : (k : Int) < L.length := by omega
            have q2 : ¬ (k : Int) < 60 := by omega
            have HE60 : Hid (∃ v es ls, ls.length ≤ 60 ∧ JPl c w wr u14 v es ls) := by
              obtain ⟨v, es, ls, h1, h2⟩ := HE.out
              exact ⟨v, es, ls, by omega, h2⟩
            clear HE
            go_wp2
            go_meet
            case rel => exact HE60
        · have q1 : ¬ (k : Int) < L.length := by omega
          have HE60 : Hid (∃ v es ls, ls.length ≤ 60 ∧ JPl c w wr u14 v es ls) := by
            obtain ⟨v, es, ls, h1, h2⟩ := HE.out
            exact ⟨v, es, ls, by omega, h2⟩
          clear HE
          go_wp2
          go_meet
          case rel => exact HE60
  case rest =>
    obtain ⟨v, es, ls, hl60, P⟩ := hcut.out
    clear hcut
    obtain ⟨wo, hwo⟩ : ∃ wo, wo = wc := ⟨_, rfl⟩
    subst hwo
    have HP : Hid (JPl c w wo _ v es ls) := P
    obtain ⟨va, vc, ev, hcap, hlie⟩ := P.r.lies
    have Hlie : Hid (ls = [] ∨ ∃ b off, va = some ⟨b, off, none⟩ ∧ b < wo.heap.size ∧ ∀ k, k < ls.length → JeAt wo b (off + k * 4) (ls.getD k je0)) := hlie
    have HLn : Hid (Calls _ _ _ wo _) := jlen_any P.j
    rw [P.s.len] at HLn
    have hl60' : (ls.length : Int) ≤ 60 := by omega
    have hA := P.g.amtL
    have h20 : ∀ x ∈ ls, x.lns.length ≤ 20 := fun x hx => by
      obtain ⟨i, hi', rfl⟩ := List.mem_iff_getElem.1 hx
      have h1 := P.s.at i
      have h2 : ls.getD i je0 = ls[i] := by rw [List.getD_eq_getElem?_getD, List.getElem?_eq_getElem hi']; rfl
      unfold Je.core at h1
      simp only [Prod.mk.injEq] at h1
      rw [h2] at h1
      rw [← h1.2.2.2]
      exact (P.g.lns (jes_mem es i (by rw [P.s.len]; exact hi'))).2
    rw [P.s.all] at hA
    have HA : Hid (∀ y ∈ allL ls, -mostA ≤ y.amt ∧ y.amt ≤ mostA) := hA
    have H20 : Hid (∀ x ∈ ls, x.lns.length ≤ 20) := h20
    obtain ⟨i1, hj0, hj1, hj2, hj3⟩ := info_parts nint_info
    clear P hcap hlie hA h20 H1 HL hi hz0 hz1 hz2
    subst ev
    go_wp2_with fail
    refine HLn.out.mono ?_
    rintro e w1' ⟨rfl, hw⟩
    rw [hw]; clear hw w1' HLn
    have HG : Hid (∀ (x : Int) (W : World), -9223372036854775808 ≤ x → x ≤ 9223372036854775807 → Calls Tryz.prog 10 #[.int .i64 x] W fun e w' => e = .returned (.pointer (some ⟨W.heap.size, 0, none⟩)) ∧ BigIs w' W.heap.size x ∧ W.grownBy w' none) := big_any
    go_wp2_with fail
    refine (HG.out 0 wo (by decide) (by decide)).mono ?_
    rintro e w2 ⟨rfl, bi2, g2⟩
    have Hbi2 : Hid (BigIs w2 wo.heap.size 0) := bi2
    have Hg2 : Hid (wo.grownBy w2 none) := g2
    clear bi2 g2
    go_wp2_with fail
    refine (HG.out 0 w2 (by decide) (by decide)).mono ?_
    rintro e w3 ⟨rfl, bi3, g3⟩
    have Hbi3 : Hid (BigIs w3 wo.heap.size 0 ∧ BigIs w3 w2.heap.size 0) := ⟨Hbi2.out.rowKept g3 (fun j e => by cases e), bi3⟩
    have hpp : wo.heap.size < w2.heap.size := Hbi2.out.lt
    have hpq : w2.heap.size < w3.heap.size := bi3.lt
    have HB3 : Hid (Below wo.heap.size wo w3) := (gbelow Hg2.out).trans ((gbelow g3).mono Hg2.out.size)
    clear bi3 g3 Hbi2 Hg2
    obtain ⟨pd, hpd⟩ : ∃ pd, wo.heap.size = pd := ⟨_, rfl⟩
    obtain ⟨pc, hpc⟩ : ∃ pc, w2.heap.size = pc := ⟨_, rfl⟩
    rw [hpc] at hpp hpq Hbi3 ⊢
    have Hpd : Hid (wo.heap.size = pd) := hpd
    rw [hpd] at hpp Hbi3 ⊢
    clear hpd hpc
    go_wp2
    go_loopw [23, 26] (fun uv iv wr => ∃ k : Nat, k ≤ ls.length ∧ iv = .int .i64 k ∧ Hid (NsRow wr w3.heap.size uv (ofL ls en pe k) ∧ AllI wr uv) ∧ Hid (BigIs wr pd (dSum acc cur (allL (ls.take k))) ∧ BigIs wr pc (-cSum acc cur (allL (ls.take k)))) ∧ Hid (Below wo.heap.size wo wr) ∧ w3.heap.size ≤ wr.heap.size) (fun _ iv _ => ls.length - (RowKit.intOf iv).toNat)
    case atStart => exact ⟨0, Nat.zero_le _, rfl, ⟨NsRow.nil _ _, AllI.nil _⟩, Hbi3.out, HB3.out, Nat.le_refl _⟩
    case round =>
      obtain ⟨k, hk, rfl, RN, BB, BW, hws⟩ := hrel
      have HPr : Hid (JPl c w wr _ v es ls) := HP.out.below BW.out
      by_cases hlt : k < ls.length
      · have hes : k < es.length := by rw [HP.out.s.len]; exact hlt
        have HAt := jat_ok HPr.out.j (by have := HP.out.s.len; omega) k hes (HP.out.g.lns (jes_mem es k hes)).1 (HP.out.g.lns (jes_mem es k hes)).2
        have hcore := HP.out.s.at k
        unfold Je.core at hcore
        simp only [Prod.mk.injEq] at hcore
        rw [hcore.1, hcore.2.1, hcore.2.2.1, hcore.2.2.2] at HAt
        have HAth : Hid (Calls _ _ _ wr _) := HAt
        rcases Hlie.out with h0 | ⟨bl, ol, rfl, hbl, hlc⟩
        · rw [h0] at hlt; simp at hlt
        have hlc' : JeAt wr bl (ol + k * 4) (ls.getD k je0) := (hlc k hlt).below BW.out hbl
        have hlk := HP.out.ln _ (jes_mem ls k hlt)
        have h20 := H20.out _ (jes_mem ls k hlt)
        have hAk : ∀ y ∈ allL (ls.take k) ++ (ls.getD k je0).lns, -mostA ≤ y.amt ∧ y.amt ≤ mostA := fun y hy => HA.out y (allL_pre hlt hy)
        have hpl := allL_take_len H20.out k
        have hnx := allL_snoc ls k hlt
        have hyes := @ofL_yes ls en pe k
        have hno := @ofL_no ls en pe k
        have hol := ofL_len ls en pe k
        have HY : Hid (askedB en pe (ls.getD k je0) = true → ofL ls en pe (k + 1) = ofL ls en pe k ++ [k]) := hyes
        have HNo : Hid (askedB en pe (ls.getD k je0) = false → ofL ls en pe (k + 1) = ofL ls en pe k) := hno
        have HNx : Hid (allL (ls.take (k + 1)) = allL (ls.take k) ++ (ls.getD k je0).lns) := hnx
        have HAk : Hid (∀ y ∈ allL (ls.take k) ++ (ls.getD k je0).lns, -mostA ≤ y.amt ∧ y.amt ≤ mostA) := hAk
        have Hlk : Hid (IsLn w (ls.getD k je0).adr (ls.getD k je0).lns (ls.getD k je0).cap) := hlk
        have Hat : Hid (∀ W, Below wo.heap.size wo W → JeAt W bl (ol + k * 4) (ls.getD k je0)) := fun W hW => (hlc k hlt).below hW hbl
        clear hyes hno hnx hAk hlk HAt hcore hlc
        generalize ls.getD k je0 = x at *
        generalize allL (ls.take k) = pre at *
        obtain ⟨xr, xe, xp, xa, xc, xl⟩ := x
        simp only at HAth Hlk HAk HNx h20 hlc'
        obtain ⟨d0, d1, d2, d3⟩ := hlc'
        simp only at d0 d1 d2 d3
        have q0 : (0 : Int) ≤ k := by omega
        have q1 : (k : Int) < ls.length := by omega
        have q2 : (xl.length : Int) ≤ 20 := by omega
        go_wp2_with fail
        refine HAth.out.mono ?_
        rintro e w4 ⟨a4, c4, rfl, r4, b4⟩
        obtain ⟨W5, hW5⟩ : ∃ W5, w4.alloc (.cells #[.string xr, .int .i64 xe, .int .i64 xp, .slice a4 xl.length c4] 29) = W5 := ⟨_, rfl⟩
        have bx : Box4 W5 w4.heap.size xr xe xp (.slice a4 xl.length c4) := by rw [← hW5]; exact Box4.new _ _ _ _ _
        have b5 : Below w4.heap.size w4 W5 := by rw [← hW5]; exact (Below.refl _ _).alloc (Nat.le_refl _) _
        have b45 : Below wr.heap.size wr W5 := b4.trans (b5.mono b4.size)
        obtain ⟨a', cap', e', hil⟩ := r4.isLn
        cases e'
        have B5 := BW.out.trans (b45.mono BW.out.size)
        have Bw5 := HP.out.b.trans (B5.mono HP.out.b.size)
        have HD : Hid (Below W5.heap.size W5 W5.drew) := ⟨rfl, rfl, rfl, Nat.le_refl _, fun _ _ => rfl⟩
        have HSE : Hid (Calls _ _ _ W5.drew _) := sameEntry_any xr xe xp a4 xa c4 xc xl W5.drew (by omega) ((hil.below b5).below HD.out) ((Hlk.out.below Bw5).below HD.out)
        have e0 : Box4 W5.drew w4.heap.size xr xe xp (.slice a4 xl.length c4) := bx
        have f0 : JeAt W5.drew bl (ol + k * 4) ⟨xr, xe, xp, xa, xc, xl⟩ := Hat.out W5.drew B5.drew
        have HE0 : Hid (Box4 W5.drew w4.heap.size xr xe xp (.slice a4 xl.length c4)) := e0
        have HF0 : Hid (JeAt W5.drew bl (ol + k * 4) ⟨xr, xe, xp, xa, xc, xl⟩) := f0
        have HW5 : Hid (_ = W5) := hW5
        have Hb45 : Hid (Below wr.heap.size wr W5) := b45
        clear HAth r4 b4 hW5 bx b5 hil e0 f0 B5 Bw5 b45 d0 d1 d2 d3
        go_upto_region 34 with fail
        rw [HW5.out]
        refine wp_region_drawn (by kernel_rfl) ?_
        generalize W5.drew = V5 at *
        refine wpAny_take (i := 1) (v := .slice (some ⟨bl, ol, none⟩) ls.length vc) rfl (by kernel_rfl) (by kernel_rfl) (by kernel_rfl) (fun _ _ _ h => h) (Or.inl ⟨by rfl, fun w => by go_simp⟩) ?_
        simp only [Act.put, List.getElem_toArray, List.getElem_cons_succ, List.getElem_cons_zero, List.setIfInBounds_toArray, List.set_cons_zero, List.set_cons_succ]
        refine wpAny_take (i := 2) (v := .int .i64 (k : Int)) rfl (by kernel_rfl) (by kernel_rfl) (by kernel_rfl) (fun _ _ _ h => h) (Or.inl ⟨by rfl, fun w => by go_simp⟩) ?_
        simp only [Act.put, List.getElem_toArray, List.getElem_cons_succ, List.getElem_cons_zero, List.setIfInBounds_toArray, List.set_cons_zero, List.set_cons_succ]
        refine wpAny_take (i := 3) (v := .pointer (some ⟨bl, ol + k * 4, none⟩)) rfl (by kernel_rfl) (by kernel_rfl) (by kernel_rfl) (fun _ _ _ h => h) (Or.inl ⟨by rfl, fun w => by go_simp⟩) ?_
        simp only [Act.put, List.getElem_toArray, List.getElem_cons_succ, List.getElem_cons_zero, List.setIfInBounds_toArray, List.set_cons_zero, List.set_cons_succ]
        refine any_of_L (g := 5) (T := fun u => u = V5) _ _ _ _ ?_
        refine L_take (i := 0) (v := .agg #[.string xr, .int .i64 xe, .int .i64 xp, .slice a4 xl.length c4]) rfl rfl (by kernel_rfl) (by decide) (by kernel_rfl) (by kernel_rfl) (by kernel_rfl) (by kernel_rfl) (fun _ _ _ h => h) (Or.inl ⟨by rfl, fun w' hw' => by have c0 := HE0.out.c0; have c1 := HE0.out.c1; have c2 := HE0.out.c2; have c3 := HE0.out.c3; rw [hw']; clear hw'; go_simp⟩) rfl ?_
        simp only [Act.put, List.getElem_toArray, List.getElem_cons_succ, List.getElem_cons_zero, List.setIfInBounds_toArray, List.set_cons_zero, List.set_cons_succ]
        refine L_take (i := 4) (v := .agg #[.string xr, .int .i64 xe, .int .i64 xp, .slice xa xl.length xc]) rfl rfl (by kernel_rfl) (by decide) (by kernel_rfl) (by kernel_rfl) (by kernel_rfl) (by kernel_rfl) (fun _ _ _ h => h) (Or.inl ⟨by rfl, fun w' hw' => by have c0 := HF0.out.c0; have c1 := HF0.out.c1; have c2 := HF0.out.c2; have c3 := HF0.out.c3; simp only at c0 c1 c2 c3; rw [hw']; clear hw'; go_simp⟩) rfl ?_
        simp only [Act.put, List.getElem_toArray, List.getElem_cons_succ, List.getElem_cons_zero, List.setIfInBounds_toArray, List.set_cons_zero, List.set_cons_succ]
        refine L_go (by kernel_rfl) (by kernel_rfl) ?_
        refine wpOp_step rfl ?_
        intro K hK
        rw [if_pos (by rfl)]
        have hK' : Shut (∀ a w, _ → K a w) := hK
        clear hK
        go_wp2_with fail
        refine HSE.out.mono ?_
        rintro e w6 ⟨rfl, b6⟩
        have HB6 : Hid (Below wr.heap.size wr w6) := Hb45.out.trans ((HD.out.mono Hb45.out.size).trans (b6.mono (by have := HD.out.size; have := Hb45.out.size; omega)))
        refine hK'.out _ _ ?_
        clear hK' K
        clear b6 HSE HE0 HF0 HD Hb45 HW5
        try simp only [Act.put, List.getElem_toArray, List.getElem_cons_succ, List.getElem_cons_zero, List.setIfInBounds_toArray, List.set_cons_zero, List.set_cons_succ]
        refine any_one (i := 6) (by kernel_rfl) ?_
        refine wpOp_step rfl ?_
        intro K hK
        rw [if_pos (by rfl)]
        have hK' : Shut (∀ a w, _ → K a w) := hK
        clear hK
        go_wp2_with fail
        refine hK'.out _ _ ?_
        clear hK' K
        refine wpAny_done (by kernel_rfl) ?_ _
        have RN6 : Hid (NsRow w6 w3.heap.size u23 (ofL ls en pe k) ∧ AllI w6 u23) := ⟨RN.out.1.below HB6.out, RN.out.2.below HB6.out⟩
        have BB6 : Hid (BigIs w6 pd (dSum acc cur pre) ∧ BigIs w6 pc (-cSum acc cur pre)) := ⟨BB.out.1.below HB6.out, BB.out.2.below HB6.out⟩
        have BW6 : Hid (Below wo.heap.size wo w6) := BW.out.trans (HB6.out.mono BW.out.size)
        have hws6 : w3.heap.size ≤ w6.heap.size := by have := HB6.out.size; omega
        clear RN BB BW HPr HB6 hws
        have f0 := Hat.out w6 BW6.out
        obtain ⟨d0, d1, d2, d3⟩ := f0
        simp only at d0 d1 d2 d3
        go_upto_region 37 with fail
        go_cut [193] from 146 to 240 (fun t wx => t = .bool (askedB en pe ⟨xr, xe, xp, xa, xc, xl⟩) ∧ wx = w6)
        case first =>
          as_aux_lemma =>
            by_cases e1 : en = 0
            · subst e1
              by_cases p1 : pe = 0
              · subst p1
                go_wp2
                go_meet
                case rel => exact ⟨by simp [askedB, isAskedB], rfl⟩
              · by_cases p2 : xp = pe
                · subst p2
                  go_wp2
                  go_meet
                  case rel => exact ⟨by simp [askedB, isAskedB, p1], rfl⟩
                · have p3 : ¬ pe = xp := fun e => p2 e.symm
                  go_wp2
                  go_meet
                  case rel => exact ⟨by simp [askedB, isAskedB, p1, p2, p3], rfl⟩
            · by_cases e2 : xe = en
              · subst e2
                by_cases p1 : pe = 0
                · subst p1
                  go_wp2
                  go_meet
                  case rel => exact ⟨by simp [askedB, isAskedB, e1], rfl⟩
                · by_cases p2 : xp = pe
                  · subst p2
                    go_wp2
                    go_meet
                    case rel => exact ⟨by simp [askedB, isAskedB, e1, p1], rfl⟩
                  · have p3 : ¬ pe = xp := fun e => p2 e.symm
                    go_wp2
                    go_meet
                    case rel => exact ⟨by simp [askedB, isAskedB, e1, p1, p2, p3], rfl⟩
              · have e3 : ¬ en = xe := fun e => e2 e.symm
                have e4 : (xe == en) = false := beq_eq_false_iff_ne.2 e2
                have E23 : Hid (¬ xe = en ∧ ¬ en = xe) := ⟨e2, e3⟩
                clear e2 e3
                go_wp2
                go_meet
                case rel => exact ⟨by simp [askedB, isAskedB, e1, E23.out.1, E23.out.2], rfl⟩
        case rest =>
          obtain ⟨rfl, rfl⟩ := hcut
          clear d0 d1 d2 d3
          go_upto_if 193 with fail
          go_cut [23] from 146 to 240 (fun uv wx => Hid (NsRow wx w3.heap.size uv (ofL ls en pe (k + 1)) ∧ AllI wx uv) ∧ Hid (BigIs wx pd (dSum acc cur pre) ∧ BigIs wx pc (-cSum acc cur pre)) ∧ Hid (Below wo.heap.size wo wx) ∧ w3.heap.size ≤ wx.heap.size)
          case first =>
            as_aux_lemma =>
              by_cases ha : askedB en pe ⟨xr, xe, xp, xa, xc, xl⟩ = true
              · have hq := HY.out ha
                rw [ha]
                obtain ⟨ua, uc, hu⟩ := RN6.out.1.shape
                cases hu
                obtain ⟨W7, hW7⟩ : ∃ W7, wc.alloc (.cells #[.int .i64 (k : Int)] 3) = W7 := ⟨_, rfl⟩
                have b7 : Below wc.heap.size wc W7 := by rw [← hW7]; exact (Below.refl _ _).alloc (Nat.le_refl _) _
                have hr7 : W7.heap[wc.heap.size]? = some (.cells #[.int .i64 (k : Int)] 3 (0, 0)) := by rw [← hW7]; exact World.alloc_heap_new wc _
                have hs7 : w3.heap.size ≤ W7.heap.size := by have := b7.size; omega
                have hR7 := RN6.out.1.below b7
                have hI7 := RN6.out.2.below b7
                obtain ⟨g8, c8, w8, hrun, hN8, hI8, hgrow⟩ := run_appI W7 37 w3.heap.size _ (ofL ls en pe k) k wc.heap.size hR7 hI7 hr7 hs7 (by omega)
                rw [← hq] at hN8
                have HN8 : Hid (NsRow w8 w3.heap.size (.slice (some ⟨g8, 0, none⟩) ((ofL ls en pe k).length + 1) c8) (ofL ls en pe (k + 1)) ∧ AllI w8 (.slice (some ⟨g8, 0, none⟩) ((ofL ls en pe k).length + 1) c8)) := ⟨hN8, hI8⟩
                have HB8 : Hid (BigIs w8 pd (dSum acc cur pre) ∧ BigIs w8 pc (-cSum acc cur pre)) := ⟨(BB6.out.1.below b7).rowKept hgrow hI7.apart, (BB6.out.2.below b7).rowKept hgrow hI7.apart⟩
                have HW8 : Hid (Below wo.heap.size wo w8) := (BW6.out.trans (b7.mono BW6.out.size)).grown hgrow (by have := BW6.out.size; have := b7.size; omega) (fun j e => by have := hR7.own j e; have := HB3.out.size; omega)
                have hs8 : w3.heap.size ≤ w8.heap.size := by have := hgrow.size; omega
                have HW7 : Hid (_ = W7) := hW7
                generalize (ofL ls en pe k).length = m8 at *
                clear hq hW7 b7 hr7 RN6 BB6 BW6 ha HY HNo hR7 hI7 hN8 hI8 hgrow hs7
                go_wp2_with (at_builtin; rw [HW7.out]; refine wpList_append_run rfl (.tmp 194) (.tmp 196) 37 37 (by rfl) (.slice ua m8 uc) (.slice (some ⟨wc.heap.size, 0, none⟩) 1 1) (by rfl) (by rfl) hrun ?_)
                clear hrun
                go_wp2
                go_meet
                case rel => exact ⟨HN8, HB8, HW8, hs8⟩
              · have ha' : askedB en pe ⟨xr, xe, xp, xa, xc, xl⟩ = false := by simpa using ha
                have hq := HNo.out ha'
                rw [ha']
                rw [← hq] at RN6
                clear hq ha ha' HY HNo
                go_wp2
                go_meet
                case rel => exact ⟨RN6, BB6, BW6, hws6⟩
          case rest =>
            obtain ⟨RN7, BB7, BW7, hws7⟩ := hcut
            have Hso : Hid (wo.heap.size ≤ w3.heap.size) := HB3.out.size
            have Hpl : Hid (pre.length ≤ 1200) := by unfold Hid; omega
            clear HY HNo RN6 BB6 BW6 hws6 hol hpl
            obtain ⟨wq, hwq⟩ : ∃ wq, wq = wc := ⟨_, rfl⟩
            subst hwq
            go_wp2
            go_loopw [30] (fun jv wr5 => ∃ j : Nat, j ≤ xl.length ∧ jv = .int .i64 j ∧ Hid (NsRow wr5 w3.heap.size u23 (ofL ls en pe (k + 1)) ∧ AllI wr5 u23) ∧ Hid (BigIs wr5 pd (dSum acc cur (pre ++ xl.take j)) ∧ BigIs wr5 pc (-cSum acc cur (pre ++ xl.take j))) ∧ Hid (Below wo.heap.size wo wr5) ∧ w3.heap.size ≤ wr5.heap.size) (fun jv _ => xl.length - (RowKit.intOf jv).toNat)
            case atStart => exact ⟨0, Nat.zero_le _, rfl, RN7, by unfold Hid; simpa using BB7.out, BW7, hws7⟩
            case round =>
              obtain ⟨j, hj, rfl, RN8, BB8, BW8, hws8⟩ := hrel
              obtain ⟨-, -, -, d3⟩ := Hat.out _ BW8.out
              simp only at d3
              by_cases hlj : j < xl.length
              · have Bw8 := HP.out.b.trans (BW8.out.mono HP.out.b.size)
                rcases (Hlk.out.below Bw8).lies with h0 | ⟨gx, gy, hxa, hgx, hgc⟩
                · rw [h0] at hlj; simp at hlj
                obtain ⟨y0, y1, y2⟩ := hgc j hlj
                have hsn : pre ++ xl.take (j + 1) = (pre ++ xl.take j) ++ [xl.getD j ln0] := by rw [lns_take xl j hlj, List.append_assoc]
                have hdy := fun h1 h2 => dSum_yes (acc := acc) (cur := cur) (x := xl.getD j ln0) h1 h2 (pre ++ xl.take j)
                have hdn := fun h => dSum_no (acc := acc) (cur := cur) (x := xl.getD j ln0) h (pre ++ xl.take j)
                have hcy := fun h1 h2 => cSum_yes (acc := acc) (cur := cur) (x := xl.getD j ln0) h1 h2 (pre ++ xl.take j)
                have hcn := fun h => cSum_no (acc := acc) (cur := cur) (x := xl.getD j ln0) h (pre ++ xl.take j)
                rw [← hsn] at hdy hdn hcy hcn
                have Hdy : Hid (_ → _ → _) := hdy
                have Hdn : Hid (_ → _) := hdn
                have Hcy : Hid (_ → _ → _) := hcy
                have Hcn : Hid (_ → _) := hcn
                have hAy : -mostA ≤ (xl.getD j ln0).amt ∧ (xl.getD j ln0).amt ≤ mostA := HAk.out _ (List.mem_append_right _ (lns_mem xl j hlj))
                have hAp : ∀ y ∈ pre ++ xl.take j, -mostA ≤ y.amt ∧ y.amt ≤ mostA := fun y hy => HAk.out y (by
                  rcases List.mem_append.1 hy with hy | hy
                  · exact List.mem_append_left _ hy
                  · exact List.mem_append_right _ (List.mem_of_mem_take hy))
                have hlp : (pre ++ xl.take j).length ≤ 4000 := by rw [List.length_append, List.length_take]; have := Hpl.out; omega
                have hbd := dSum_bd (acc := acc) (cur := cur) hAp hlp
                have hbc := cSum_bd (acc := acc) (cur := cur) hAp hlp
                clear hdy hdn hcy hcn hsn hgc hAp hlp
                generalize xl.getD j ln0 = y at *
                obtain ⟨ya, yc, ym⟩ := y
                simp only [mB, mostA] at y0 y1 y2 Hdy Hdn Hcy Hcn hAy
                generalize dSum acc cur (pre ++ xl.take j) = ds at *
                generalize cSum acc cur (pre ++ xl.take j) = cs at *
                obtain ⟨W9, hW9⟩ : ∃ W9, wr.alloc (.cells #[.string ya, .string yc, .int .i64 ym] 44) = W9 := ⟨_, rfl⟩
                have bx := LnAt.new wr ⟨ya, yc, ym⟩ 44
                have b9 : Below wr.heap.size wr W9 := by rw [← hW9]; exact (Below.refl _ _).alloc (Nat.le_refl _) _
                simp only [Ln.cells] at bx
                rw [hW9] at bx
                obtain ⟨e0, e1, e2⟩ := bx
                simp only at e0 e1 e2
                rw [Nat.zero_add] at e1 e2
                have RN9 : Hid (NsRow W9 w3.heap.size u23 (ofL ls en pe (k + 1)) ∧ AllI W9 u23) := ⟨RN8.out.1.below b9, RN8.out.2.below b9⟩
                have BB9 : Hid (BigIs W9 pd ds ∧ BigIs W9 pc (-cs)) := ⟨BB8.out.1.below b9, BB8.out.2.below b9⟩
                have BW9 : Hid (Below wo.heap.size wo W9) := BW8.out.trans (b9.mono BW8.out.size)
                have hws9 : w3.heap.size ≤ W9.heap.size := by have := b9.size; omega
                have r1 : (0 : Int) ≤ j := by omega
                have r2 : (j : Int) < xl.length := by omega
                have Hend : Hid (∀ (w' : World), (NsRow w' w3.heap.size u23 (ofL ls en pe (k + 1)) ∧ AllI w' u23) → (BigIs w' pd (dSum acc cur (pre ++ xl.take (j + 1))) ∧ BigIs w' pc (-cSum acc cur (pre ++ xl.take (j + 1)))) → Below wo.heap.size wo w' → w3.heap.size ≤ w'.heap.size → ∃ j' : Nat, j' ≤ xl.length ∧ Value.int .i64 ((j : Int) + 1) = .int .i64 j' ∧ Hid (NsRow w' w3.heap.size u23 (ofL ls en pe (k + 1)) ∧ AllI w' u23) ∧ Hid (BigIs w' pd (dSum acc cur (pre ++ xl.take j')) ∧ BigIs w' pc (-cSum acc cur (pre ++ xl.take j'))) ∧ Hid (Below wo.heap.size wo w') ∧ w3.heap.size ≤ w'.heap.size) := fun w' h1 h2 h3 h4 => ⟨j + 1, by omega, by simp, h1, h2, h3, h4⟩
                subst hxa
                clear b9 RN8 BB8 BW8 hws8 HAk Hlk
                by_cases hm : ((ya.toList == acc.toList) && (yc.toList == cur.toList)) = true
                · have hm' := hm
                  rw [Bool.and_eq_true] at hm'
                  obtain ⟨hm1, hm2⟩ := hm'
                  have HBg : Hid (Calls _ _ _ W9 _) := HG.out ym W9 (by omega) (by omega)
                  by_cases hp : 0 < ym
                  · have hD := Hdy.out hm hp
                    have hC := Hcn.out (.inr hp)
                    have HDC : Hid (dSum acc cur (pre ++ xl.take (j + 1)) = ds + ym ∧ cSum acc cur (pre ++ xl.take (j + 1)) = cs) := ⟨hD, hC⟩
                    clear hD hC Hdy Hdn Hcy Hcn hm
                    go_wp2_with fail
                    try rw [hW9]
                    refine HBg.out.mono ?_
                    rintro e wb ⟨rfl, bb, gb2⟩
                    have B1 : BigIs wb pd ds := BB9.out.1.rowKept gb2 (fun i e => by cases e)
                    have B2 : BigIs wb pc (-cs) := BB9.out.2.rowKept gb2 (fun i e => by cases e)
                    have HAd : Hid (Calls _ _ _ wb _) := add_big pd pd W9.heap.size ds ds ym wb B1 B1 bb (by unfold Few; omega) (by unfold Few; omega)
                    have HK : Hid (∀ w', BigIs w' pd (ds + ym) → wb.grownBy w' (some pd) → (NsRow w' w3.heap.size u23 (ofL ls en pe (k + 1)) ∧ AllI w' u23) ∧ (BigIs w' pd (dSum acc cur (pre ++ xl.take (j + 1))) ∧ BigIs w' pc (-cSum acc cur (pre ++ xl.take (j + 1)))) ∧ Below wo.heap.size wo w' ∧ w3.heap.size ≤ w'.heap.size) := fun w' h1 h2 => by
                      rw [HDC.out.1, HDC.out.2]
                      have gb3 := gbelow gb2
                      refine ⟨?_, ⟨h1, B2.kept (by omega) B1 h2⟩, ?_, by have := h2.size; have := gb2.size; omega⟩
                      · have hk : ∀ i, u23.ownBlock = some i → w'.heap[i]? = wb.heap[i]? := fun i e => h2.block i ((RN9.out.1.below gb3).lt i e) (fun e2 => by
                          have := RN9.out.1.own i e
                          cases e2
                          omega)
                        exact ⟨(RN9.out.1.below gb3).ofBlock hk, (RN9.out.2.below gb3).ofBlock hk⟩
                      · exact (BW9.out.trans (gb3.mono BW9.out.size)).grown h2 (by have := BW9.out.size; have := gb3.size; omega) (fun i e => by cases e; have := Hpd.out; omega)
                    clear HBg bb gb2 B1 B2 e0 e1 RN9 BB9 BW9
                    go_wp2_with fail
                    refine HAd.out.mono ?_
                    rintro e wd ⟨rfl, hdd⟩
                    have hfin := HK.out wd hdd.out.1 hdd.out.2
                    have HFin : Hid _ := hfin
                    clear hdd HAd HK hfin
                    go_wp2
                    go_roundw
                    case rel => exact Hend.out _ HFin.out.1 HFin.out.2.1 HFin.out.2.2.1 HFin.out.2.2.2
                    case measure => simp [RowKit.intOf]; omega
                  · have hD := Hdn.out (.inr hp)
                    have hC := Hcy.out hm hp
                    have HDC : Hid (dSum acc cur (pre ++ xl.take (j + 1)) = ds ∧ cSum acc cur (pre ++ xl.take (j + 1)) = cs + ym) := ⟨hD, hC⟩
                    clear hD hC Hdy Hdn Hcy Hcn hm
                    go_wp2_with fail
                    try rw [hW9]
                    refine HBg.out.mono ?_
                    rintro e wb ⟨rfl, bb, gb2⟩
                    have B1 : BigIs wb pd ds := BB9.out.1.rowKept gb2 (fun i e => by cases e)
                    have B2 : BigIs wb pc (-cs) := BB9.out.2.rowKept gb2 (fun i e => by cases e)
                    have HAd : Hid (Calls _ _ _ wb _) := sub_big pc pc W9.heap.size (-cs) (-cs) ym wb B2 B2 bb (by unfold Few; omega) (by unfold Few; omega)
                    have HK : Hid (∀ w', BigIs w' pc (-cs - ym) → wb.grownBy w' (some pc) → (NsRow w' w3.heap.size u23 (ofL ls en pe (k + 1)) ∧ AllI w' u23) ∧ (BigIs w' pd (dSum acc cur (pre ++ xl.take (j + 1))) ∧ BigIs w' pc (-cSum acc cur (pre ++ xl.take (j + 1)))) ∧ Below wo.heap.size wo w' ∧ w3.heap.size ≤ w'.heap.size) := fun w' h1 h2 => by
                      rw [HDC.out.1, HDC.out.2]
                      have gb3 := gbelow gb2
                      refine ⟨?_, ⟨B1.kept (by omega) B2 h2, by rw [show -(cs + ym) = -cs - ym from by omega]; exact h1⟩, ?_, by have := h2.size; have := gb2.size; omega⟩
                      · have hk : ∀ i, u23.ownBlock = some i → w'.heap[i]? = wb.heap[i]? := fun i e => h2.block i ((RN9.out.1.below gb3).lt i e) (fun e2 => by
                          have := RN9.out.1.own i e
                          cases e2
                          omega)
                        exact ⟨(RN9.out.1.below gb3).ofBlock hk, (RN9.out.2.below gb3).ofBlock hk⟩
                      · exact (BW9.out.trans (gb3.mono BW9.out.size)).grown h2 (by have := BW9.out.size; have := gb3.size; omega) (fun i e => by cases e; have := Hpd.out; omega)
                    clear HBg bb gb2 B1 B2 e0 e1 RN9 BB9 BW9
                    go_wp2_with fail
                    refine HAd.out.mono ?_
                    rintro e wd ⟨rfl, hdd⟩
                    have hfin := HK.out wd hdd.out.1 hdd.out.2
                    have HFin : Hid _ := hfin
                    clear hdd HAd HK hfin
                    go_wp2
                    go_roundw
                    case rel => exact Hend.out _ HFin.out.1 HFin.out.2.1 HFin.out.2.2.1 HFin.out.2.2.2
                    case measure => simp [RowKit.intOf]; omega
                · have hD := Hdn.out (.inl (by simpa using hm))
                  have hC := Hcn.out (.inl (by simpa using hm))
                  have HDC : Hid (dSum acc cur (pre ++ xl.take (j + 1)) = ds ∧ cSum acc cur (pre ++ xl.take (j + 1)) = cs) := ⟨hD, hC⟩
                  have HFB : Hid (BigIs W9 pd (dSum acc cur (pre ++ xl.take (j + 1))) ∧ BigIs W9 pc (-cSum acc cur (pre ++ xl.take (j + 1)))) := by
                    unfold Hid
                    rw [HDC.out.1, HDC.out.2]
                    exact BB9.out
                  clear hD hC Hdy Hdn Hcy Hcn BB9 HDC
                  by_cases hm1 : (ya.toList == acc.toList) = true
                  · have hm2 : (yc.toList == cur.toList) = false := by simpa [hm1] using hm
                    clear hm
                    go_wp2
                    go_roundw
                    case rel => exact Hend.out _ RN9.out HFB.out BW9.out hws9
                    case measure => simp [RowKit.intOf]; omega
                  · have hm1' : (ya.toList == acc.toList) = false := by simpa using hm1
                    clear hm hm1
                    go_wp2
                    go_roundw
                    case rel => exact Hend.out _ RN9.out HFB.out BW9.out hws9
                    case measure => simp [RowKit.intOf]; omega
              · have hje : j = xl.length := by omega
                subst hje
                rw [List.take_length, ← HNx.out] at BB8
                go_wp2
                go_roundw
                case rel => exact ⟨k + 1, by omega, by go_num, RN8, BB8, BW8, hws8⟩
                case measure => simp [RowKit.intOf]; omega
      · have hke : k = ls.length := by omega
        subst hke
        rw [List.take_length] at BB
        have hl4 : (allL ls).length ≤ 4000 := by have := allL_len H20.out; omega
        have hbd := dSum_bd (acc := acc) (cur := cur) HA.out hl4
        have hbc := cSum_bd (acc := acc) (cur := cur) HA.out hl4
        have hsl := HP.out.s.len
        have HN : Hid (Calls _ _ _ wr _) := jat_none HPr.out.j (by omega) ls.length hsl.symm
        rw [enE_ne (by decide)] at HN
        have hsl' : Hid (es.length = ls.length) := hsl
        clear hl4 hsl
        go_wp2_with fail
        refine HN.out.mono ?_
        rintro e w4 ⟨rfl, b4⟩
        obtain ⟨W5, hW5⟩ : ∃ W5, w4.alloc (.cells #[.string ByteArray.empty, .int .i64 0, .int .i64 0, .slice none 0 0] 29) = W5 := ⟨_, rfl⟩
        have b5 : Below w4.heap.size w4 W5 := by rw [← hW5]; exact (Below.refl _ _).alloc (Nat.le_refl _) _
        have b45 : Below wr.heap.size wr W5 := b4.trans (b5.mono b4.size)
        have HPr5 := HPr.out.below b45
        have HEr : Hid (Calls _ _ _ W5 _) := err_true (E := .iface 60 (.int .i64 6)) (c := 6) (.inr ⟨rfl, by decide, by decide⟩) W5 (Hg.out.below HPr5.b (Nat.le_refl _))
        have Hb45 : Hid (Below wr.heap.size wr W5) := b45
        have HW5 : Hid (_ = W5) := hW5
        clear HN b4 b5 b45 HPr5 hW5
        go_wp2_with fail
        rw [HW5.out]
        refine HEr.out.mono ?_
        rintro e w6 ⟨rfl, b6⟩
        have Hb6 : Hid (Below wr.heap.size wr w6) := Hb45.out.trans (b6.mono Hb45.out.size)
        have HPr6 : Hid (JPl c w w6 _ v es ls) := HPr.out.below Hb6.out
        have HOf : Hid (Calls _ _ _ w6 _) := jof_any HPr6.out.j (by have := hsl'.out; omega) en pe
        rw [hsl'.out, HPr6.out.s.ofL] at HOf
        clear HEr b6 Hb45 HW5
        go_wp2_with fail
        refine HOf.out.mono ?_
        rintro e w7 ⟨u7, rfl, r7, b7⟩
        have Hb7 : Hid (Below wr.heap.size wr w7) := Hb6.out.trans (b7.mono Hb6.out.size)
        have HPr7 : Hid (JPl c w w7 _ v es ls) := HPr.out.below Hb7.out
        have HSI : Hid (Calls _ _ _ w7 _) := sameInts_any u7 _ _ w7 (by rw [List.length_map]; have := ofL_len ls en pe ls.length; omega) (hasInts_ns r7) (hasInts_ns (RN.out.1.below Hb7.out))
        clear HOf r7 b7 HPr6 Hb6
        go_wp2_with fail
        refine HSI.out.mono ?_
        rintro e w8 ⟨rfl, b8⟩
        have Hb8 : Hid (Below wr.heap.size wr w8) := Hb7.out.trans (b8.mono Hb7.out.size)
        have HPr8 := HPr.out.below Hb8.out
        have HTu := turns_any HPr8.j (by have := hsl'.out; omega) (fun x hx => (HPr8.g.lns hx).2) HPr8.g.amtL acc cur
        rw [HPr8.s.all] at HTu
        have HTh : Hid (Calls _ _ _ w8 _) := HTu
        clear HSI b8 HPr8 HTu HPr7 Hb7
        generalize dSum acc cur (allL ls) = ds at *
        generalize cSum acc cur (allL ls) = cs at *
        obtain ⟨nc, hnc⟩ : ∃ nc, -cs = nc := ⟨_, rfl⟩
        rw [hnc] at HTh BB
        have hn0 : 0 ≤ nc := by omega
        have hn1 : nc ≤ 4000000000000000000 := by omega
        obtain ⟨hd0, hd1⟩ := hbd
        clear hnc hbc
        go_wp2_with fail
        refine HTh.out.mono ?_
        rintro e w9 ⟨rfl, b9⟩
        have Hb9 : Hid (Below wr.heap.size wr w9) := Hb8.out.trans (b9.mono Hb8.out.size)
        have HB1 : Hid (Calls _ _ _ w9 _) := HG.out ds w9 (by omega) (by omega)
        clear HTh b9 Hb8
        go_wp2_with fail
        refine HB1.out.mono ?_
        rintro e w10 ⟨rfl, bb10, g10⟩
        have Hb10 : Hid (Below wr.heap.size wr w10) := Hb9.out.trans ((gbelow g10).mono Hb9.out.size)
        have HC1 := cmp_big w9.heap.size pd ds ds w10 bb10 (BB.out.1.below Hb10.out) ⟨hd0, by omega⟩ ⟨hd0, by omega⟩
        rw [cmpV_eq rfl] at HC1
        have HC1h : Hid (Calls _ _ _ w10 _) := HC1
        clear HB1 bb10 g10 HC1 Hb9
        go_wp2_with fail
        refine HC1h.out.mono ?_
        rintro e w11 ⟨rfl, n11, hw11⟩
        have Hb11 : Hid (Below wr.heap.size wr w11) := by
          unfold Hid
          rw [hw11]
          exact en_drewN Hb10.out _
        have HB2 : Hid (Calls _ _ _ w11 _) := HG.out nc w11 (by omega) (by omega)
        clear HC1h hw11 Hb10
        go_wp2_with fail
        refine HB2.out.mono ?_
        rintro e w12 ⟨rfl, bb12, g12⟩
        have Hb12 : Hid (Below wr.heap.size wr w12) := Hb11.out.trans ((gbelow g12).mono Hb11.out.size)
        have HC2 := cmp_big w11.heap.size pc nc nc w12 bb12 (BB.out.2.below Hb12.out) ⟨hn0, by omega⟩ ⟨hn0, by omega⟩
        rw [cmpV_eq rfl] at HC2
        have HC2h : Hid (Calls _ _ _ w12 _) := HC2
        clear HB2 bb12 g12 HC2 Hb11
        go_wp2_with fail
        refine HC2h.out.mono ?_
        rintro e w13 ⟨rfl, n13, hw13⟩
        have HFin : Hid (Below w.heap.size w w13) := by
          unfold Hid
          have B : Below wr.heap.size wr w13 := by rw [hw13]; exact en_drewN Hb12.out _
          exact HPr.out.b.trans (B.mono HPr.out.b.size)
        clear hw13 HC2h
        go_wp2
        go_ret
        exact ⟨rfl, HFin.out⟩
end Go.Proofs.YtpohlhejeaafdaaGreatDoor
