/-
  The contract of ledger.ofEntries.
-/
import Derived.Test.YtcamimjjmcdbcaaLd9
namespace Go.Proofs.Ytcamimjjmcdbcaa
set_option linter.unusedVariables false
set_option linter.unusedSimpArgs false
set_option maxRecDepth 100000
open Go.RowKit Go.Lib
set_option maxHeartbeats 8000000 in
theorem ofEntries_any (a : Option Addr) (cap : Nat) (L : List Je) (W : World) (g : Nat) (cb : Array Value) (p : Je → Bool) (hlen : L.length ≤ 9223372036854775807) (h : IsJs W a L cap) (hok : JsOk L) (hp : JTells g cb p W.heap.size W) :
    Calls Try.prog 16 #[.slice a L.length cap, .func (.func g) #[] cb] W fun e w' => Below W.heap.size W w' ∧ (oeE p L ≠ 0 → e = .returned (.tuple #[.slice none 0 0, enE (oeE p L)])) ∧ (oeE p L = 0 → ∃ v R, e = .returned (.tuple #[v, .nilIface]) ∧ Hid (BlRow w' W.heap.size v R ∧ OeR p L R)) := by
  have hmm := @run_makeMap Try.prog
  have eg := hp.eg
  have HCk : Hid (Calls _ _ _ W _) := ckEntries_any a cap L W hlen hok.fit h
  have HA : Hid (IsJs W a L cap ∧ JsOk L ∧ JTells g cb p W.heap.size W) := ⟨h, hok, hp⟩
  clear h hok hp
  by_cases hce : ceE L = 0
  · rw [hce, enE_zero] at HCk
    have hl200 : (L.length : Int) ≤ 200 := by have := (ce_zero hce).1; omega
    have HCe : Hid (ceE L = 0) := hce
    clear hce
    go_enter Try.func16, Try.ntmps16
    go_wp2_with (go_at_call 23; refine HCk.out.mono ?_; rintro e W0 ⟨rfl, hb0⟩)
    have HB0 : Hid (Below W.heap.size W W0) := hb0
    obtain ⟨W1, hW1⟩ : ∃ W1, W0.alloc (.map #[] 0) = W1 := ⟨_, rfl⟩
    rw [hW1]
    obtain ⟨mb, hmb⟩ : ∃ mb, W0.heap.size = mb := ⟨_, rfl⟩
    have hWm : W.heap.size ≤ mb := by rw [← hmb]; exact hb0.size
    have HS : Hid ((∃ vs, PMp W1 mb mb (parts (flatB p (L.take 0))) vs) ∧ AKeep mb mb W1 W1) := by
      rw [← hW1, ← hmb]
      exact ⟨⟨fun _ => .slice none 0 0, PMp.new W0 _ (Nat.le_refl _) _⟩, AKeep.refl _ _ _⟩
    have HF : Hid (∀ U, AKeep mb mb W1 U → Below W.heap.size W U) := fun U hk => by
      have h1 : Below mb W0 U := by
        have h2 := hk.below (Nat.le_refl _) (by rw [← hW1, ← hmb]; simp)
        have h3 : Below mb W0 W1 := by rw [← hW1, ← hmb]; exact (Below.refl _ _).alloc (Nat.le_refl _) _
        exact h3.trans h2
      exact hb0.trans (h1.mono hWm)
    rw [hmb]
    clear hb0 hW1 hmb HCk
    go_loopw [20] (fun iv wr => ∃ k : Nat, k ≤ L.length ∧ iv = .int .i64 k ∧ Hid ((∃ vs, PMp wr mb mb (parts (flatB p (L.take k))) vs) ∧ AKeep mb mb W1 wr)) (fun iv _ => L.length - (intOf iv).toNat)
    case atStart => exact ⟨0, Nat.zero_le _, rfl, HS⟩
    case round =>
      clear HS
      obtain ⟨k, hk, rfl, HJ⟩ := hrel
      have k0 : (0 : Int) ≤ k := by omega
      by_cases hkl : k < L.length
      · have k1 : (k : Int) < L.length := by omega
        obtain ⟨b0, off0, rfl, hb0, hc0⟩ := HA.out.1.some hkl
        have hBq : Below W.heap.size W wr := HF.out wr HJ.out.2
        have hx := (hc0 k hkl).below hBq hb0
        have hmem := jes_mem L k hkl
        have hln := HA.out.1.lns _ hmem
        have hpre := flatB_pre p L k hkl
        have hall := HA.out.2.1.all
        have hent := HA.out.2.1.ent _ hmem
        have hlns := HA.out.2.1.lns _ hmem
        have hamt := (ce_zero HCe.out).2 _ hmem
        obtain ⟨x, hxx⟩ : ∃ x, L.getD k je0 = x := ⟨_, rfl⟩
        have HX : Hid (L.getD k je0 = x) := hxx
        rw [hxx] at hx hln hpre hent hlns hamt
        obtain ⟨V, hV⟩ : ∃ V, wr.alloc (.cells x.cells 35) = V := ⟨_, rfl⟩
        have hbV : Below wr.heap.size wr V := by rw [← hV]; exact (Below.refl _ _).alloc (Nat.le_refl _) _
        have hVh : V.heap[wr.heap.size]? = some (.cells x.cells 35 (0, 0)) := by rw [← hV]; exact ld_new_heap wr _
        have HCt : Hid (Calls _ _ _ V _) := HA.out.2.2.call x V (hBq.trans (hbV.mono hBq.size))
        have HV : Hid (wr.alloc (.cells x.cells 35) = V) := hV
        obtain ⟨B, hB⟩ : ∃ B, wr.heap.size = B := ⟨_, rfl⟩
        have HBx : Hid (∀ U, Below V.heap.size V U → U.heap[B]? = some (.cells x.cells 35 (0, 0))) := fun U hU => by
          rw [← hB]
          exact (hU.block _ (Array.getElem?_eq_some_iff.1 hVh).1).trans hVh
        have HBm : Hid (B ≠ mb) := fun e => by
          obtain ⟨vs, hvs⟩ := HJ.out.1
          have := (Array.getElem?_eq_some_iff.1 hvs.map).1
          omega
        have HJV : Hid ((∃ vs, PMp V mb mb (parts (flatB p (L.take k))) vs) ∧ AKeep mb mb W1 V) := by
          obtain ⟨vs, hvs⟩ := HJ.out.1
          exact ⟨⟨vs, hvs.below hbV⟩, HJ.out.2.trans (AKeep.of_below hbV)⟩
        have HXs : Hid (IsLn W x.adr x.lns x.cap ∧ (flatB p (L.take k)).length + x.lns.length ≤ 17592186044400 ∧ (-9223372036854775808 ≤ x.ent ∧ x.ent ≤ 9223372036854775807) ∧ (∀ n ∈ x.lns, n.acc.size ≤ maxLen ∧ n.cur.size ≤ maxLen) ∧ (∀ n ∈ x.lns, -1000000000000000 ≤ n.amt ∧ n.amt ≤ 1000000000000000)) := ⟨hln, by omega, hent, hlns, hamt⟩
        obtain ⟨c0, c1, c2, c3⟩ : V.cell? ⟨B, 0, none⟩ = some (.string x.ref) ∧ V.cell? ⟨B, 1, none⟩ = some (.int .i64 x.ent) ∧ V.cell? ⟨B, 2, none⟩ = some (.int .i64 x.per) ∧ V.cell? ⟨B, 3, none⟩ = some (.slice x.adr x.lns.length x.cap) := by
          have e := HBx.out V (Below.refl _ _)
          simp [World.cell?, e, Je.cells]
        clear hbV hV hVh hc0 hBq hln hpre hall hent hlns hamt hmem hxx
        have HBe : Hid (wr.heap.size = B) := hB
        clear hB
        cases hpx : p x
        · rw [hpx] at HCt
          have HPx : Hid (p x = false) := hpx
          clear hpx
          obtain ⟨x0, x1, x2, xa, xc, xl⟩ := x
          obtain ⟨d0, d1, d2, d3⟩ := hx
          simp only [Je.cells] at d0 d1 d2 d3 HV HCt c0 c1 c2 c3
          have HN : Hid (∀ U, Below V.heap.size V U → (∃ vs, PMp U mb mb (parts (flatB p (L.take (k + 1)))) vs) ∧ AKeep mb mb W1 U) := fun U hU => by
            obtain ⟨vs, hvs⟩ := HJV.out.1
            rw [jes_take L k hkl, HX.out, flatB_snoc_no HPx.out]
            exact ⟨⟨vs, hvs.below hU⟩, HJV.out.2.trans (AKeep.of_below hU)⟩
          clear HJV HJ HBx HXs
          go_wp2_with (go_at_fn g; rw [HV.out]; refine HCt.out.mono ?_; rintro e U ⟨rfl, hU⟩)
          have HU : Hid ((∃ vs, PMp U mb mb (parts (flatB p (L.take (k + 1)))) vs) ∧ AKeep mb mb W1 U) := HN.out U hU
          go_roundw
          case rel => exact ⟨k + 1, by omega, by go_num, HU⟩
          case measure => simp [intOf]; omega
        · rw [hpx] at HCt
          have HPx : Hid (p x = true) := hpx
          clear hpx
          obtain ⟨lb', hlb'⟩ : ∃ lb', lnsB x = lb' := ⟨_, rfl⟩
          have HLB : Hid (lnsB x = lb' ∧ lb'.length = x.lns.length) := ⟨hlb', by rw [← hlb', lnsB_length]⟩
          have HLg : Hid (∀ j, j < x.lns.length → lb'.getD j bl0 = ⟨x.ent, (x.lns.getD j ln0).acc, (x.lns.getD j ln0).cur, (x.lns.getD j ln0).amt⟩) := fun j hj => by rw [← hlb']; exact lnsB_get x j hj
          clear hlb'
          obtain ⟨x0, x1, x2, xa, xc, xl⟩ := x
          obtain ⟨d0, d1, d2, d3⟩ := hx
          simp only [Je.cells] at d0 d1 d2 d3 HV HCt c0 c1 c2 c3 HBx HXs HLg HLB
          have hxl : (xl.length : Int) ≤ 17592186044400 := by have := HXs.out.2.1; omega
          have HE3 : Hid (∀ U, Below V.heap.size V U → U.cell? ⟨wr.heap.size, 3, none⟩ = some (.slice xa xl.length xc)) := fun U hU => by
            have e := HBx.out U hU
            rw [HBe.out]
            simp [World.cell?, e]
          go_wp2_with (go_at_fn g; rw [HV.out]; refine HCt.out.mono ?_; rintro e U ⟨rfl, hU⟩; have e3 := HE3.out U hU)
          have HUB := HBx.out U hU
          have HQ0 : Hid ((∃ vs, PMp U mb mb (parts (flatB p (L.take k) ++ lb'.take 0)) vs) ∧ AKeep mb mb W1 U ∧ U.heap[B]? = some (.cells #[.string x0, .int .i64 x1, .int .i64 x2, .slice xa xl.length xc] 35 (0, 0))) := by
            obtain ⟨vs, hvs⟩ := HJV.out.1
            rw [List.take_zero, List.append_nil]
            exact ⟨⟨vs, hvs.below hU⟩, HJV.out.2.trans (AKeep.of_below hU), HUB⟩
          clear HUB hU HCt HJV HJ HBx c0 c1 c2 c3 d0 d1 d2 d3 HE3 e3
          rw [HBe.out]
          go_loopw [31] (fun jv wq => ∃ j : Nat, j ≤ xl.length ∧ jv = .int .i64 j ∧ Hid ((∃ vs, PMp wq mb mb (parts (flatB p (L.take k) ++ lb'.take j)) vs) ∧ AKeep mb mb W1 wq ∧ wq.heap[B]? = some (.cells #[.string x0, .int .i64 x1, .int .i64 x2, .slice xa xl.length xc] 35 (0, 0)))) (fun jv _ => xl.length - (intOf jv).toNat)
          case atStart => exact ⟨0, Nat.zero_le _, rfl, HQ0⟩
          case round =>
            clear HQ0
            rename World => wq
            obtain ⟨j, hj, rfl, HQ⟩ := hrel
            have j0 : (0 : Int) ≤ j := by omega
            by_cases hjl : j < xl.length
            · have j1 : (j : Int) < xl.length := by omega
              obtain ⟨b1, off1, rfl, hb1, hc1⟩ : ∃ b off, xa = some ⟨b, off, none⟩ ∧ b < W.heap.size ∧ LnsAt W b off xl := by
                rcases HXs.out.1.lies with h | h
                · rw [h] at hjl; simp at hjl
                · exact h
              have hBw : Below W.heap.size W wq := HF.out wq HQ.out.2.1
              have hn := (hc1 j hjl).below hBw hb1
              have hlm := lns_mem xl j hjl
              have hsz := HXs.out.2.2.2.1 _ hlm
              have ham := HXs.out.2.2.2.2 _ hlm
              have hgj := HLg.out j hjl
              obtain ⟨nn, hnn⟩ : ∃ nn, xl.getD j ln0 = nn := ⟨_, rfl⟩
              rw [hnn] at hn hsz ham hgj
              obtain ⟨n0, n1, n2⟩ := nn
              obtain ⟨f0, f1, f2⟩ := hn
              simp only at f0 f1 f2 hsz ham hgj
              obtain ⟨Z, hZ⟩ : ∃ Z, wq.alloc (.cells #[.string n0, .string n1, .int .i64 n2] 52) = Z := ⟨_, rfl⟩
              have hbZ : Below wq.heap.size wq Z := by rw [← hZ]; exact (Below.refl _ _).alloc (Nat.le_refl _) _
              have hZh : Z.heap[wq.heap.size]? = some (.cells #[.string n0, .string n1, .int .i64 n2] 52 (0, 0)) := by rw [← hZ]; exact ld_new_heap wq _
              have hZB : Z.heap[B]? = some (.cells #[.string x0, .int .i64 x1, .int .i64 x2, .slice (some ⟨b1, off1, none⟩) xl.length xc] 35 (0, 0)) := (hbZ.block _ (Array.getElem?_eq_some_iff.1 HQ.out.2.2).1).trans HQ.out.2.2
              obtain ⟨vs, hvs⟩ := HQ.out.1
              have HAdd : Hid (Calls _ _ _ Z _) := add_any ⟨x1, n0, n1, n2⟩ Z mb mb _ vs (hvs.below hbZ) ⟨HXs.out.2.2.1, hsz.1, hsz.2⟩ (by simp only; omega) (fun q hq => by
                have h1 := parts_zs _ q hq
                have h2 := HXs.out.2.1
                have h3 := HLB.out.2
                simp only [List.length_append, List.length_take] at h1
                omega)
              have HNx : Hid (∀ U, (∃ vs', Hid (PMp U mb mb (addP (parts (flatB p (L.take k) ++ lb'.take j)) ⟨x1, n0, n1, n2⟩) vs' ∧ AKeep mb mb Z U)) → (∃ vs, PMp U mb mb (parts (flatB p (L.take k) ++ lb'.take (j + 1))) vs) ∧ AKeep mb mb W1 U ∧ U.heap[B]? = some (.cells #[.string x0, .int .i64 x1, .int .i64 x2, .slice (some ⟨b1, off1, none⟩) xl.length xc] 35 (0, 0))) := fun U ⟨vs', h⟩ => by
                refine ⟨⟨vs', ?_⟩, HQ.out.2.1.trans ((AKeep.of_below hbZ).trans h.out.2), ?_⟩
                · rw [parts_take _ lb' j (by have := HLB.out.2; omega), hgj]
                  exact h.out.1
                · exact (h.out.2.block B (Array.getElem?_eq_some_iff.1 hZB).1 HBm.out (.inr (fun cs e => by rw [hZB] at e; simp only [Option.some.injEq, Obj.cells.injEq] at e; exact absurd e.2.1 (by decide)))).trans hZB
              have HZ : Hid (wq.alloc (.cells #[.string n0, .string n1, .int .i64 n2] 52) = Z) := hZ
              have g0 : Z.cell? ⟨wq.heap.size, 0, none⟩ = some (.string n0) := by simp [World.cell?, hZh]
              have g1 : Z.cell? ⟨wq.heap.size, 1, none⟩ = some (.string n1) := by simp [World.cell?, hZh]
              have g2 : Z.cell? ⟨wq.heap.size, 2, none⟩ = some (.int .i64 n2) := by simp [World.cell?, hZh]
              have gB : wq.cell? ⟨B, 1, none⟩ = some (.int .i64 x1) := by simp [World.cell?, HQ.out.2.2]
              have gB2 : (wq.alloc (.cells #[.string n0, .string n1, .int .i64 n2] 52)).cell? ⟨B, 1, none⟩ = some (.int .i64 x1) := by rw [hZ]; simp [World.cell?, hZB]
              simp only [Bl.cells] at HAdd
              clear hvs hc1 hBw hsz ham hgj hnn hbZ hZ hZh hZB hlm HQ HLg
              go_wp2_with (go_at_call 11; rw [HZ.out]; refine HAdd.out.mono ?_; rintro e U9 ⟨rfl, hU9⟩)
              have HU9 : Hid ((∃ vs, PMp U9 mb mb (parts (flatB p (L.take k) ++ lb'.take (j + 1))) vs) ∧ AKeep mb mb W1 U9 ∧ U9.heap[B]? = some (.cells #[.string x0, .int .i64 x1, .int .i64 x2, .slice (some ⟨b1, off1, none⟩) xl.length xc] 35 (0, 0))) := HNx.out U9 hU9
              clear hU9 HNx HAdd
              go_roundw
              case rel => exact ⟨j + 1, by omega, by go_num, HU9⟩
              case measure => simp [intOf]; omega
            · have j1 : ¬ (j : Int) < xl.length := by omega
              obtain rfl : j = xl.length := by omega
              have HN : Hid ((∃ vs, PMp wq mb mb (parts (flatB p (L.take (k + 1)))) vs) ∧ AKeep mb mb W1 wq) := by
                obtain ⟨vs, hvs⟩ := HQ.out.1
                rw [jes_take L k hkl, HX.out, flatB_snoc HPx.out, HLB.out.1]
                rw [← HLB.out.2, List.take_length] at hvs
                exact ⟨⟨vs, hvs⟩, HQ.out.2.1⟩
              clear HQ
              go_wp2_with fail
              go_roundw
              case rel => exact ⟨k + 1, by omega, by go_num, HN⟩
              case measure => simp [intOf]; omega
      · have k1 : ¬ (k : Int) < L.length := by omega
        obtain rfl : k = L.length := by omega
        obtain ⟨vs, hvs⟩ := HJ.out.1
        rw [List.take_length] at hvs
        have hfl := flatB_len p L
        have hall := HA.out.2.1.all
        have HTg : Hid (Calls _ _ _ wr _) := together_any wr mb mb _ vs hvs (fun q hq => by
          have := parts_zs _ q hq
          omega) (by have := parts_length (flatB p L); omega)
        have HB : Hid (Below W.heap.size W wr) := HF.out wr HJ.out.2
        have HOe : Hid (oeE p L = tgE (parts (flatB p L))) := by
          unfold Hid oeE
          rw [if_neg (by simp [HCe.out])]
        have hokf := flatB_ok (p := p) HA.out.2.1 HCe.out
        by_cases ht : tgE (parts (flatB p L)) = 0
        · have HT2 : Hid (Calls Try.prog 12 #[.map (some mb)] wr fun e w' => ∃ v R, e = .returned (.tuple #[v, .nilIface]) ∧ Hid (Below W.heap.size W w' ∧ BlRow w' W.heap.size v R ∧ OeR p L R)) := by
            refine HTg.out.mono ?_
            rintro e w' ⟨h1, _, h3⟩
            obtain ⟨v, R, rfl, h4⟩ := h3 ht
            obtain ⟨h5, h6, h7⟩ := h4.out
            have h8 : BlRow w' W.heap.size v R := by
              rcases h5.2 with ⟨hv, hn⟩ | ⟨g1, c1, cur, hv, hb1, r⟩
              · exact ⟨h5.1, .inl ⟨hv, hn⟩⟩
              · exact ⟨h5.1, .inr ⟨g1, c1, cur, hv, Nat.le_trans HB.out.size hb1, r⟩⟩
            have h200 : ¬ 200 < (parts (flatB p L)).length := fun hh => by
              unfold tgE at ht
              rw [if_pos hh] at ht
              omega
            have hfit : ∀ q ∈ parts (flatB p L), -9223372036854775808 ≤ q.zs.sum ∧ q.zs.sum ≤ 9223372036854775807 := fun q hq => by
              unfold tgE at ht
              rw [if_neg h200] at ht
              split at ht
              · rename_i hh
                exact of_decide_eq_true (List.all_eq_true.1 hh q hq)
              · omega
            exact ⟨v, R, rfl, HB.out.trans (h1.mono HB.out.size), h8, ⟨sums_of_perm h6 h7, Nat.le_trans (len_of_perm h7) (by omega), ok_of_perm h7 hokf hfit⟩⟩
          have HO0 : Hid (oeE p L = 0) := HOe.out.trans ht
          clear HTg hvs hfl hall HOe HB hokf ht HJ
          go_wp2_with (go_at_call 12; refine HT2.out.mono ?_; rintro e w' ⟨v, R, rfl, hR⟩)
          go_ret2
          exact ⟨hR.out.1, fun h => absurd HO0.out h, fun _ => ⟨v, R, rfl, hR.out.2.1, hR.out.2.2⟩⟩
        · have HT2 : Hid (Calls Try.prog 12 #[.map (some mb)] wr fun e w' => e = .returned (.tuple #[.slice none 0 0, enE (tgE (parts (flatB p L)))]) ∧ Hid (Below W.heap.size W w')) := by
            refine HTg.out.mono ?_
            rintro e w' ⟨h1, h2, _⟩
            exact ⟨h2 ht, HB.out.trans (h1.mono HB.out.size)⟩
          rw [enE_ne ht] at HT2
          have HOt : Hid (oeE p L = tgE (parts (flatB p L)) ∧ tgE (parts (flatB p L)) ≠ 0) := ⟨HOe.out, ht⟩
          clear HTg hvs hfl hall HOe HB hokf ht HJ
          generalize tgE (parts (flatB p L)) = tt at *
          go_wp2_with (go_at_call 12; refine HT2.out.mono ?_; rintro e w' ⟨rfl, hR⟩)
          go_ret2
          exact ⟨hR.out, fun _ => by rw [HOt.out.1, enE_ne HOt.out.2]; rfl, fun h => absurd (HOt.out.1.symm.trans h) HOt.out.2⟩
  · rw [enE_ne hce] at HCk
    have HO : Hid (oeE p L = ceE L ∧ ceE L ≠ 0) := ⟨if_pos hce, hce⟩
    clear hce
    generalize ceE L = cc at *
    go_enter Try.func16, Try.ntmps16
    go_wp2_with (go_at_call 23; refine HCk.out.mono ?_; rintro e W0 ⟨rfl, hb0⟩)
    go_ret2
    exact ⟨hb0, fun _ => by rw [HO.out.1, enE_ne HO.out.2]; rfl, fun h => absurd (HO.out.1.symm.trans h) HO.out.2⟩
end Go.Proofs.Ytcamimjjmcdbcaa
