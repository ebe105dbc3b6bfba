/-
  All balances are what each period brought: numbers alone, and the law's own entry.
-/
import Derived.Test.YtkaoiljepabmeaaZe15
namespace Go.Proofs.Ytkaoiljepabmeaa
set_option linter.unusedVariables false
set_option linter.unusedSimpArgs false
set_option maxRecDepth 100000
open Go.RowKit Go.Lib
set_option maxHeartbeats 8000000 in
theorem ofEntries_any (a : Option Addr) (cap : Nat) (L : List Je) (W : World) (g : Nat) (cb : Array Value) (p : Je → Bool) (hlen : L.length ≤ 9223372036854775807) (h : IsJs W a L cap) (hok : JsOk L) (hp : JTells g cb p W.heap.size W) :
    Calls Try.prog 10 #[.slice a L.length cap, .func (.func g) #[] cb] W fun e w' => Below W.heap.size W w' ∧ (oeE p L ≠ 0 → e = .returned (.tuple #[.slice none 0 0, enE (oeE p L)])) ∧ (oeE p L = 0 → ∃ v R, e = .returned (.tuple #[v, .nilIface]) ∧ Hid (BlRow w' W.heap.size v R ∧ OeR p L R)) := by
  have hmm := @run_makeMap Try.prog
  have eg := hp.eg
  have HCk : Hid (Calls _ _ _ W _) := ckEntries_any a cap L W hlen hok.fit h
  have HA : Hid (IsJs W a L cap ∧ JsOk L ∧ JTells g cb p W.heap.size W) := ⟨h, hok, hp⟩
  clear h hok hp
  by_cases hce : ceE L = 0
  · rw [hce, enE_zero] at HCk
    have hl200 : (L.length : Int) ≤ 200 := by have := (ce_zero hce).1; omega
    have HCe : Hid (ceE L = 0) := hce
    clear hce
    go_enter Try.func10, Try.ntmps10
    go_wp2_with (go_at_call 27; refine HCk.out.mono ?_; rintro e W0 ⟨rfl, hb0⟩)
    have HB0 : Hid (Below W.heap.size W W0) := hb0
    obtain ⟨W1, hW1⟩ : ∃ W1, W0.alloc (.map #[] 0) = W1 := ⟨_, rfl⟩
    rw [hW1]
    obtain ⟨mb, hmb⟩ : ∃ mb, W0.heap.size = mb := ⟨_, rfl⟩
    have hWm : W.heap.size ≤ mb := by rw [← hmb]; exact hb0.size
    have HS : Hid ((∃ vs, PMp W1 mb mb (parts (flatB p (L.take 0))) vs) ∧ AKeep mb mb W1 W1) := by
      rw [← hW1, ← hmb]
      exact ⟨⟨fun _ => .slice none 0 0, PMp.new W0 _ (Nat.le_refl _) _⟩, AKeep.refl _ _ _⟩
    have HF : Hid (∀ U, AKeep mb mb W1 U → Below W.heap.size W U) := fun U hk => by
      have h1 : Below mb W0 U := by
        have h2 := hk.below (Nat.le_refl _) (by rw [← hW1, ← hmb]; simp)
        have h3 : Below mb W0 W1 := by rw [← hW1, ← hmb]; exact (Below.refl _ _).alloc (Nat.le_refl _) _
        exact h3.trans h2
      exact hb0.trans (h1.mono hWm)
    rw [hmb]
    clear hb0 hW1 hmb HCk
    go_loopw [20] (fun iv wr => ∃ k : Nat, k ≤ L.length ∧ iv = .int .i64 k ∧ Hid ((∃ vs, PMp wr mb mb (parts (flatB p (L.take k))) vs) ∧ AKeep mb mb W1 wr)) (fun iv _ => L.length - (intOf iv).toNat)
    case atStart => exact ⟨0, Nat.zero_le _, rfl, HS⟩
    case round =>
      clear HS
      obtain ⟨k, hk, rfl, HJ⟩ := hrel
      have k0 : (0 : Int) ≤ k := by omega
      by_cases hkl : k < L.length
      · have k1 : (k : Int) < L.length := by omega
        obtain ⟨b0, off0, rfl, hb0, hc0⟩ := HA.out.1.some hkl
        have hBq : Below W.heap.size W wr := HF.out wr HJ.out.2
        have hx := (hc0 k hkl).below hBq hb0
        have hmem := jes_mem L k hkl
        have hln := HA.out.1.lns _ hmem
        have hpre := flatB_pre p L k hkl
        have hall := HA.out.2.1.all
        have hent := HA.out.2.1.ent _ hmem
        have hlns := HA.out.2.1.lns _ hmem
        have hamt := (ce_zero HCe.out).2 _ hmem
        obtain ⟨x, hxx⟩ : ∃ x, L.getD k je0 = x := ⟨_, rfl⟩
        have HX : Hid (L.getD k je0 = x) := hxx
        rw [hxx] at hx hln hpre hent hlns hamt
        obtain ⟨V, hV⟩ : ∃ V, wr.alloc (.cells x.cells 31) = V := ⟨_, rfl⟩
        have hbV : Below wr.heap.size wr V := by rw [← hV]; exact (Below.refl _ _).alloc (Nat.le_refl _) _
        have hVh : V.heap[wr.heap.size]? = some (.cells x.cells 31 (0, 0)) := by rw [← hV]; exact ld_new_heap wr _
        have HCt : Hid (Calls _ _ _ V _) := HA.out.2.2.call x V (hBq.trans (hbV.mono hBq.size))
        have HV : Hid (wr.alloc (.cells x.cells 31) = V) := hV
        obtain ⟨B, hB⟩ : ∃ B, wr.heap.size = B := ⟨_, rfl⟩
        have HBx : Hid (∀ U, Below V.heap.size V U → U.heap[B]? = some (.cells x.cells 31 (0, 0))) := fun U hU => by
          rw [← hB]
          exact (hU.block _ (Array.getElem?_eq_some_iff.1 hVh).1).trans hVh
        have HBm : Hid (B ≠ mb) := fun e => by
          obtain ⟨vs, hvs⟩ := HJ.out.1
          have := (Array.getElem?_eq_some_iff.1 hvs.map).1
          omega
        have HJV : Hid ((∃ vs, PMp V mb mb (parts (flatB p (L.take k))) vs) ∧ AKeep mb mb W1 V) := by
          obtain ⟨vs, hvs⟩ := HJ.out.1
          exact ⟨⟨vs, hvs.below hbV⟩, HJ.out.2.trans (AKeep.of_below hbV)⟩
        have HXs : Hid (IsLn W x.adr x.lns x.cap ∧ (flatB p (L.take k)).length + x.lns.length ≤ 17592186044400 ∧ (-9223372036854775808 ≤ x.ent ∧ x.ent ≤ 9223372036854775807) ∧ (∀ n ∈ x.lns, n.acc.size ≤ maxLen ∧ n.cur.size ≤ maxLen) ∧ (∀ n ∈ x.lns, -1000000000000000 ≤ n.amt ∧ n.amt ≤ 1000000000000000)) := ⟨hln, by omega, hent, hlns, hamt⟩
        obtain ⟨c0, c1, c2, c3⟩ : V.cell? ⟨B, 0, none⟩ = some (.string x.ref) ∧ V.cell? ⟨B, 1, none⟩ = some (.int .i64 x.ent) ∧ V.cell? ⟨B, 2, none⟩ = some (.int .i64 x.per) ∧ V.cell? ⟨B, 3, none⟩ = some (.slice x.adr x.lns.length x.cap) := by
          have e := HBx.out V (Below.refl _ _)
          simp [World.cell?, e, Je.cells]
        clear hbV hV hVh hc0 hBq hln hpre hall hent hlns hamt hmem hxx
        have HBe : Hid (wr.heap.size = B) := hB
        clear hB
        cases hpx : p x
        · rw [hpx] at HCt
          have HPx : Hid (p x = false) := hpx
          clear hpx
          obtain ⟨x0, x1, x2, xa, xc, xl⟩ := x
          obtain ⟨d0, d1, d2, d3⟩ := hx
          simp only [Je.cells] at d0 d1 d2 d3 HV HCt c0 c1 c2 c3
          have HN : Hid (∀ U, Below V.heap.size V U → (∃ vs, PMp U mb mb (parts (flatB p (L.take (k + 1)))) vs) ∧ AKeep mb mb W1 U) := fun U hU => by
            obtain ⟨vs, hvs⟩ := HJV.out.1
            rw [jes_take L k hkl, HX.out, flatB_snoc_no HPx.out]
            exact ⟨⟨vs, hvs.below hU⟩, HJV.out.2.trans (AKeep.of_below hU)⟩
          clear HJV HJ HBx HXs
          go_wp2_with (go_at_fn g; rw [HV.out]; refine HCt.out.mono ?_; rintro e U ⟨rfl, hU⟩)
          have HU : Hid ((∃ vs, PMp U mb mb (parts (flatB p (L.take (k + 1)))) vs) ∧ AKeep mb mb W1 U) := HN.out U hU
          go_roundw
          case rel => exact ⟨k + 1, by omega, by go_num, HU⟩
          case measure => simp [intOf]; omega
        · rw [hpx] at HCt
          have HPx : Hid (p x = true) := hpx
          clear hpx
          obtain ⟨lb', hlb'⟩ : ∃ lb', lnsB x = lb' := ⟨_, rfl⟩
          have HLB : Hid (lnsB x = lb' ∧ lb'.length = x.lns.length) := ⟨hlb', by rw [← hlb', lnsB_length]⟩
          have HLg : Hid (∀ j, j < x.lns.length → lb'.getD j bl0 = ⟨x.ent, (x.lns.getD j ln0).acc, (x.lns.getD j ln0).cur, (x.lns.getD j ln0).amt⟩) := fun j hj => by rw [← hlb']; exact lnsB_get x j hj
          clear hlb'
          obtain ⟨x0, x1, x2, xa, xc, xl⟩ := x
          obtain ⟨d0, d1, d2, d3⟩ := hx
          simp only [Je.cells] at d0 d1 d2 d3 HV HCt c0 c1 c2 c3 HBx HXs HLg HLB
          have hxl : (xl.length : Int) ≤ 17592186044400 := by have := HXs.out.2.1; omega
          have HE3 : Hid (∀ U, Below V.heap.size V U → U.cell? ⟨wr.heap.size, 3, none⟩ = some (.slice xa xl.length xc)) := fun U hU => by
            have e := HBx.out U hU
            rw [HBe.out]
            simp [World.cell?, e]
          go_wp2_with (go_at_fn g; rw [HV.out]; refine HCt.out.mono ?_; rintro e U ⟨rfl, hU⟩; have e3 := HE3.out U hU)
          have HUB := HBx.out U hU
          have HQ0 : Hid ((∃ vs, PMp U mb mb (parts (flatB p (L.take k) ++ lb'.take 0)) vs) ∧ AKeep mb mb W1 U ∧ U.heap[B]? = some (.cells #[.string x0, .int .i64 x1, .int .i64 x2, .slice xa xl.length xc] 31 (0, 0))) := by
            obtain ⟨vs, hvs⟩ := HJV.out.1
            rw [List.take_zero, List.append_nil]
            exact ⟨⟨vs, hvs.below hU⟩, HJV.out.2.trans (AKeep.of_below hU), HUB⟩
          clear HUB hU HCt HJV HJ HBx c0 c1 c2 c3 d0 d1 d2 d3 HE3 e3
          rw [HBe.out]
          go_loopw [31] (fun jv wq => ∃ j : Nat, j ≤ xl.length ∧ jv = .int .i64 j ∧ Hid ((∃ vs, PMp wq mb mb (parts (flatB p (L.take k) ++ lb'.take j)) vs) ∧ AKeep mb mb W1 wq ∧ wq.heap[B]? = some (.cells #[.string x0, .int .i64 x1, .int .i64 x2, .slice xa xl.length xc] 31 (0, 0)))) (fun jv _ => xl.length - (intOf jv).toNat)
          case atStart => exact ⟨0, Nat.zero_le _, rfl, HQ0⟩
          case round =>
            clear HQ0
            rename World => wq
            obtain ⟨j, hj, rfl, HQ⟩ := hrel
            have j0 : (0 : Int) ≤ j := by omega
            by_cases hjl : j < xl.length
            · have j1 : (j : Int) < xl.length := by omega
              obtain ⟨b1, off1, rfl, hb1, hc1⟩ : ∃ b off, xa = some ⟨b, off, none⟩ ∧ b < W.heap.size ∧ LnsAt W b off xl := by
                rcases HXs.out.1.lies with h | h
                · rw [h] at hjl; simp at hjl
                · exact h
              have hBw : Below W.heap.size W wq := HF.out wq HQ.out.2.1
              have hn := (hc1 j hjl).below hBw hb1
              have hlm := lns_mem xl j hjl
              have hsz := HXs.out.2.2.2.1 _ hlm
              have ham := HXs.out.2.2.2.2 _ hlm
              have hgj := HLg.out j hjl
              obtain ⟨nn, hnn⟩ : ∃ nn, xl.getD j ln0 = nn := ⟨_, rfl⟩
              rw [hnn] at hn hsz ham hgj
              obtain ⟨n0, n1, n2⟩ := nn
              obtain ⟨f0, f1, f2⟩ := hn
              simp only at f0 f1 f2 hsz ham hgj
              obtain ⟨Z, hZ⟩ : ∃ Z, wq.alloc (.cells #[.string n0, .string n1, .int .i64 n2] 43) = Z := ⟨_, rfl⟩
              have hbZ : Below wq.heap.size wq Z := by rw [← hZ]; exact (Below.refl _ _).alloc (Nat.le_refl _) _
              have hZh : Z.heap[wq.heap.size]? = some (.cells #[.string n0, .string n1, .int .i64 n2] 43 (0, 0)) := by rw [← hZ]; exact ld_new_heap wq _
              have hZB : Z.heap[B]? = some (.cells #[.string x0, .int .i64 x1, .int .i64 x2, .slice (some ⟨b1, off1, none⟩) xl.length xc] 31 (0, 0)) := (hbZ.block _ (Array.getElem?_eq_some_iff.1 HQ.out.2.2).1).trans HQ.out.2.2
              obtain ⟨vs, hvs⟩ := HQ.out.1
              have HAdd : Hid (Calls _ _ _ Z _) := ldAdd_any ⟨x1, n0, n1, n2⟩ Z mb mb _ vs (hvs.below hbZ) ⟨HXs.out.2.2.1, hsz.1, hsz.2⟩ (by simp only; omega) (fun q hq => by
                have h1 := parts_zs _ q hq
                have h2 := HXs.out.2.1
                have h3 := HLB.out.2
                simp only [List.length_append, List.length_take] at h1
                omega)
              have HNx : Hid (∀ U, (∃ vs', Hid (PMp U mb mb (addP (parts (flatB p (L.take k) ++ lb'.take j)) ⟨x1, n0, n1, n2⟩) vs' ∧ AKeep mb mb Z U)) → (∃ vs, PMp U mb mb (parts (flatB p (L.take k) ++ lb'.take (j + 1))) vs) ∧ AKeep mb mb W1 U ∧ U.heap[B]? = some (.cells #[.string x0, .int .i64 x1, .int .i64 x2, .slice (some ⟨b1, off1, none⟩) xl.length xc] 31 (0, 0))) := fun U ⟨vs', h⟩ => by
                refine ⟨⟨vs', ?_⟩, HQ.out.2.1.trans ((AKeep.of_below hbZ).trans h.out.2), ?_⟩
                · rw [parts_take _ lb' j (by have := HLB.out.2; omega), hgj]
                  exact h.out.1
                · exact (h.out.2.block B (Array.getElem?_eq_some_iff.1 hZB).1 HBm.out (.inr (fun cs e => by rw [hZB] at e; simp only [Option.some.injEq, Obj.cells.injEq] at e; exact absurd e.2.1 (by decide)))).trans hZB
              have HZ : Hid (wq.alloc (.cells #[.string n0, .string n1, .int .i64 n2] 43) = Z) := hZ
              have g0 : Z.cell? ⟨wq.heap.size, 0, none⟩ = some (.string n0) := by simp [World.cell?, hZh]
              have g1 : Z.cell? ⟨wq.heap.size, 1, none⟩ = some (.string n1) := by simp [World.cell?, hZh]
              have g2 : Z.cell? ⟨wq.heap.size, 2, none⟩ = some (.int .i64 n2) := by simp [World.cell?, hZh]
              have gB : wq.cell? ⟨B, 1, none⟩ = some (.int .i64 x1) := by simp [World.cell?, HQ.out.2.2]
              have gB2 : (wq.alloc (.cells #[.string n0, .string n1, .int .i64 n2] 43)).cell? ⟨B, 1, none⟩ = some (.int .i64 x1) := by rw [hZ]; simp [World.cell?, hZB]
              simp only [Bl.cells] at HAdd
              clear hvs hc1 hBw hsz ham hgj hnn hbZ hZ hZh hZB hlm HQ HLg
              go_wp2_with (go_at_call 22; rw [HZ.out]; refine HAdd.out.mono ?_; rintro e U9 ⟨rfl, hU9⟩)
              have HU9 : Hid ((∃ vs, PMp U9 mb mb (parts (flatB p (L.take k) ++ lb'.take (j + 1))) vs) ∧ AKeep mb mb W1 U9 ∧ U9.heap[B]? = some (.cells #[.string x0, .int .i64 x1, .int .i64 x2, .slice (some ⟨b1, off1, none⟩) xl.length xc] 31 (0, 0))) := HNx.out U9 hU9
              clear hU9 HNx HAdd
              go_roundw
              case rel => exact ⟨j + 1, by omega, by go_num, HU9⟩
              case measure => simp [intOf]; omega
            · have j1 : ¬ (j : Int) < xl.length := by omega
              obtain rfl : j = xl.length := by omega
              have HN : Hid ((∃ vs, PMp wq mb mb (parts (flatB p (L.take (k + 1)))) vs) ∧ AKeep mb mb W1 wq) := by
                obtain ⟨vs, hvs⟩ := HQ.out.1
                rw [jes_take L k hkl, HX.out, flatB_snoc HPx.out, HLB.out.1]
                rw [← HLB.out.2, List.take_length] at hvs
                exact ⟨⟨vs, hvs⟩, HQ.out.2.1⟩
              clear HQ
              go_wp2_with fail
              go_roundw
              case rel => exact ⟨k + 1, by omega, by go_num, HN⟩
              case measure => simp [intOf]; omega
      · have k1 : ¬ (k : Int) < L.length := by omega
        obtain rfl : k = L.length := by omega
        obtain ⟨vs, hvs⟩ := HJ.out.1
        rw [List.take_length] at hvs
        have hfl := flatB_len p L
        have hall := HA.out.2.1.all
        have HTg : Hid (Calls _ _ _ wr _) := ldTogether_any wr mb mb _ vs hvs (fun q hq => by
          have := parts_zs _ q hq
          omega) (by have := parts_length (flatB p L); omega)
        have HB : Hid (Below W.heap.size W wr) := HF.out wr HJ.out.2
        have HOe : Hid (oeE p L = tgE (parts (flatB p L))) := by
          unfold Hid oeE
          rw [if_neg (by simp [HCe.out])]
        have hokf := flatB_ok (p := p) HA.out.2.1 HCe.out
        by_cases ht : tgE (parts (flatB p L)) = 0
        · have HT2 : Hid (Calls Try.prog 23 #[.map (some mb)] wr fun e w' => ∃ v R, e = .returned (.tuple #[v, .nilIface]) ∧ Hid (Below W.heap.size W w' ∧ BlRow w' W.heap.size v R ∧ OeR p L R)) := by
            refine HTg.out.mono ?_
            rintro e w' ⟨h1, _, h3⟩
            obtain ⟨v, R, rfl, h4⟩ := h3 ht
            obtain ⟨h5, h6, h7⟩ := h4.out
            have h8 : BlRow w' W.heap.size v R := by
              rcases h5.2 with ⟨hv, hn⟩ | ⟨g1, c1, cur, hv, hb1, r⟩
              · exact ⟨h5.1, .inl ⟨hv, hn⟩⟩
              · exact ⟨h5.1, .inr ⟨g1, c1, cur, hv, Nat.le_trans HB.out.size hb1, r⟩⟩
            have h200 : ¬ 200 < (parts (flatB p L)).length := fun hh => by
              unfold tgE at ht
              rw [if_pos hh] at ht
              omega
            have hfit : ∀ q ∈ parts (flatB p L), -9223372036854775808 ≤ q.zs.sum ∧ q.zs.sum ≤ 9223372036854775807 := fun q hq => by
              unfold tgE at ht
              rw [if_neg h200] at ht
              split at ht
              · rename_i hh
                exact of_decide_eq_true (List.all_eq_true.1 hh q hq)
              · omega
            exact ⟨v, R, rfl, HB.out.trans (h1.mono HB.out.size), h8, ⟨sums_of_perm h6 h7, Nat.le_trans (len_of_perm h7) (by omega), ok_of_perm h7 hokf hfit⟩⟩
          have HO0 : Hid (oeE p L = 0) := HOe.out.trans ht
          clear HTg hvs hfl hall HOe HB hokf ht HJ
          go_wp2_with (go_at_call 23; refine HT2.out.mono ?_; rintro e w' ⟨v, R, rfl, hR⟩)
          go_ret2
          exact ⟨hR.out.1, fun h => absurd HO0.out h, fun _ => ⟨v, R, rfl, hR.out.2.1, hR.out.2.2⟩⟩
        · have HT2 : Hid (Calls Try.prog 23 #[.map (some mb)] wr fun e w' => e = .returned (.tuple #[.slice none 0 0, enE (tgE (parts (flatB p L)))]) ∧ Hid (Below W.heap.size W w')) := by
            refine HTg.out.mono ?_
            rintro e w' ⟨h1, h2, _⟩
            exact ⟨h2 ht, HB.out.trans (h1.mono HB.out.size)⟩
          rw [enE_ne ht] at HT2
          have HOt : Hid (oeE p L = tgE (parts (flatB p L)) ∧ tgE (parts (flatB p L)) ≠ 0) := ⟨HOe.out, ht⟩
          clear HTg hvs hfl hall HOe HB hokf ht HJ
          generalize tgE (parts (flatB p L)) = tt at *
          go_wp2_with (go_at_call 23; refine HT2.out.mono ?_; rintro e w' ⟨rfl, hR⟩)
          go_ret2
          exact ⟨hR.out, fun _ => by rw [HOt.out.1, enE_ne HOt.out.2]; rfl, fun h => absurd (HOt.out.1.symm.trans h) HOt.out.2⟩
  · rw [enE_ne hce] at HCk
    have HO : Hid (oeE p L = ceE L ∧ ceE L ≠ 0) := ⟨if_pos hce, hce⟩
    clear hce
    generalize ceE L = cc at *
    go_enter Try.func10, Try.ntmps10
    go_wp2_with (go_at_call 27; refine HCk.out.mono ?_; rintro e W0 ⟨rfl, hb0⟩)
    go_ret2
    exact ⟨hb0, fun _ => by rw [HO.out.1, enE_ne HO.out.2]; rfl, fun h => absurd (HO.out.1.symm.trans h) HO.out.2⟩
end Go.Proofs.Ytkaoiljepabmeaa

namespace Go.Proofs.Ytkaoiljepabmeaa
set_option linter.unusedVariables false
set_option linter.unusedSimpArgs false
set_option maxRecDepth 100000
open Go.RowKit Go.Lib
/-- Entries up to a period. -/
def ldUpTo (per : Int) (x : Je) : Bool := decide (x.per ≤ per)
/-- Entries of an entity and a period. -/
def ofBoth (ent per : Int) (x : Je) : Bool := decide (x.ent = ent ∧ x.per = per)
theorem balances1_any (per : Int) (pb : Nat) (x : Je) (U : World) (h : U.cell? ⟨pb, 0, none⟩ = some (.int .i64 per)) :
    Calls Try.prog 11 #[.agg x.cells, .pointer (some ⟨pb, 0, none⟩)] U fun e w' => e = .returned (.bool (ldUpTo per x)) ∧ Below U.heap.size U w' := by
  obtain ⟨x0, x1, x2, xa, xc, xl⟩ := x
  simp only [Je.cells, ldUpTo]
  have hlt : pb < U.heap.size := World.block_lt_of_cell? _ _ h
  have h2 : (U.alloc (.cells #[.string x0, .int .i64 x1, .int .i64 x2, .slice xa xl.length xc] 31)).cell? ⟨pb, 0, none⟩ = some (.int .i64 per) := (World.cell?_alloc_lt _ _ _ hlt).trans h
  go_enter Try.func11, Try.ntmps11
  go_wp2
  go_ret
  exact ⟨rfl, (Below.refl _ _).alloc (Nat.le_refl _) _⟩
theorem trial1_any (ent per : Int) (eb pb : Nat) (x : Je) (U : World) (h1 : U.cell? ⟨eb, 0, none⟩ = some (.int .i64 ent)) (h2 : U.cell? ⟨pb, 0, none⟩ = some (.int .i64 per)) :
    Calls Try.prog 20 #[.agg x.cells, .pointer (some ⟨eb, 0, none⟩), .pointer (some ⟨pb, 0, none⟩)] U fun e w' => e = .returned (.bool (ofBoth ent per x)) ∧ Below U.heap.size U w' := by
  obtain ⟨x0, x1, x2, xa, xc, xl⟩ := x
  have l1 : eb < U.heap.size := World.block_lt_of_cell? _ _ h1
  have l2 : pb < U.heap.size := World.block_lt_of_cell? _ _ h2
  have h3 : (U.alloc (.cells #[.string x0, .int .i64 x1, .int .i64 x2, .slice xa xl.length xc] 31)).cell? ⟨eb, 0, none⟩ = some (.int .i64 ent) := (World.cell?_alloc_lt _ _ _ l1).trans h1
  have h4 : (U.alloc (.cells #[.string x0, .int .i64 x1, .int .i64 x2, .slice xa xl.length xc] 31)).cell? ⟨pb, 0, none⟩ = some (.int .i64 per) := (World.cell?_alloc_lt _ _ _ l2).trans h2
  have HB : Hid (Below U.heap.size U (U.alloc (.cells #[.string x0, .int .i64 x1, .int .i64 x2, .slice xa xl.length xc] 31))) := (Below.refl _ _).alloc (Nat.le_refl _) _
  by_cases c1 : x1 = ent
  · by_cases c2 : x2 = per
    · have e : ofBoth ent per ⟨x0, x1, x2, xa, xc, xl⟩ = true := decide_eq_true ⟨c1, c2⟩
      rw [e]
      simp only [Je.cells]
      subst c1 c2
      clear e
      go_enter Try.func20, Try.ntmps20
      go_wp2
      go_ret
      exact ⟨rfl, HB.out⟩
    · have e : ofBoth ent per ⟨x0, x1, x2, xa, xc, xl⟩ = false := decide_eq_false (fun h => c2 h.2)
      rw [e]
      simp only [Je.cells]
      have c2' : (x2 == per) = false := by rw [beq_eq_false_iff_ne]; exact c2
      subst c1
      clear e
      go_enter Try.func20, Try.ntmps20
      go_wp2
      go_ret
      exact ⟨rfl, HB.out⟩
  · have e : ofBoth ent per ⟨x0, x1, x2, xa, xc, xl⟩ = false := decide_eq_false (fun h => c1 h.1)
    rw [e]
    simp only [Je.cells]
    have c1' : (x1 == ent) = false := by rw [beq_eq_false_iff_ne]; exact c1
    clear e
    go_enter Try.func20, Try.ntmps20
    go_wp2
    go_ret
    exact ⟨rfl, HB.out⟩
/-- What Balances and Trial answer. -/
def OeEnd (p : Je → Bool) (L : List Je) (W : World) (e : Ending) (w' : World) : Prop := (oeE p L ≠ 0 ∧ e = .returned (.tuple #[.slice none 0 0, .iface 58 (.int .i64 (oeE p L))]) ∧ Hid (Below W.heap.size W w')) ∨ (oeE p L = 0 ∧ ∃ sa sc R, e = .returned (.tuple #[.slice sa R.length sc, .nilIface]) ∧ Hid (Below W.heap.size W w' ∧ IsBl w' sa R sc ∧ OeR p L R))
theorem balances_any (a : Option Addr) (cap : Nat) (L : List Je) (W : World) (per : Int) (hlen : L.length ≤ 9223372036854775807) (h : IsJs W a L cap) (hok : JsOk L) :
    Calls Try.prog 4 #[.slice a L.length cap, .int .i64 per] W fun e w' => OeEnd (ldUpTo per) L W e w' := by
  have hb : Below W.heap.size W (W.alloc (.cells #[.int .i64 per] 3)) := (Below.refl _ _).alloc (Nat.le_refl _) _
  have hc : (W.alloc (.cells #[.int .i64 per] 3)).cell? ⟨W.heap.size, 0, none⟩ = some (.int .i64 per) := by
    have := ld_new_heap W (.cells #[.int .i64 per] 3)
    unfold World.cell?
    rw [this]
    rfl
  have hT : JTells 11 #[.pointer (some ⟨W.heap.size, 0, none⟩)] (ldUpTo per) (W.alloc (.cells #[.int .i64 per] 3)).heap.size (W.alloc (.cells #[.int .i64 per] 3)) :=
    ⟨fun args W => en_enters Try.func11 (by kernel_rfl) ⟨_, rfl⟩ args W, fun x U hU => balances1_any per W.heap.size x U ((hU.cell (p := ⟨W.heap.size, 0, none⟩) (by simp)).trans hc)⟩
  have HO : Hid (Calls Try.prog 10 #[.slice a L.length cap, .func (.func 11) #[] #[.pointer (some ⟨W.heap.size, 0, none⟩)]] (W.alloc (.cells #[.int .i64 per] 3)) fun e w' => OeEnd (ldUpTo per) L W e w') := by
    refine (ofEntries_any a cap L _ _ _ _ hlen (h.below hb) hok hT).mono ?_
    rintro e w' ⟨h1, h2, h3⟩
    have hB : Below W.heap.size W w' := hb.trans (h1.mono (by simp))
    by_cases h0 : oeE (ldUpTo per) L = 0
    · obtain ⟨v, R, rfl, h4⟩ := h3 h0
      obtain ⟨sa, sc, rfl, hI⟩ := h4.out.1.isBl
      exact .inr ⟨h0, sa, sc, R, rfl, hB, hI, h4.out.2⟩
    · exact .inl ⟨h0, by rw [h2 h0, enE_ne h0], hB⟩
  clear hb hc hT h hok
  go_enter Try.func4, Try.ntmps4
  go_wp2_with fail
  refine HO.out.mono ?_
  rintro e w' hE
  rcases hE with ⟨h0, rfl, hB⟩ | ⟨h0, sa, sc, R, rfl, hR⟩
  · have HQ : Hid (OeEnd (ldUpTo per) L W (.returned (.tuple #[.slice none 0 0, .iface 58 (.int .i64 (oeE (ldUpTo per) L))])) w') := .inl ⟨h0, rfl, hB⟩
    clear HO h0 hB
    generalize oeE (ldUpTo per) L = oo at *
    go_wp2
    go_ret2
    exact HQ.out
  · have HQ : Hid (OeEnd (ldUpTo per) L W (.returned (.tuple #[.slice sa R.length sc, .nilIface])) w') := .inr ⟨h0, sa, sc, R, rfl, hR⟩
    clear HO h0 hR
    go_wp2
    go_ret2
    exact HQ.out
theorem trial_any (a : Option Addr) (cap : Nat) (L : List Je) (W : World) (ent per : Int) (hlen : L.length ≤ 9223372036854775807) (h : IsJs W a L cap) (hok : JsOk L) :
    Calls Try.prog 7 #[.slice a L.length cap, .int .i64 ent, .int .i64 per] W fun e w' => OeEnd (ofBoth ent per) L W e w' := by
  obtain ⟨V, hV⟩ : ∃ V, (W.alloc (.cells #[.int .i64 ent] 3)).alloc (.cells #[.int .i64 per] 3) = V := ⟨_, rfl⟩
  have hb : Below W.heap.size W V := by rw [← hV]; exact ((Below.refl _ _).alloc (Nat.le_refl _) _).alloc (by simp) _
  have hsV : V.heap.size = W.heap.size + 2 := by rw [← hV]; simp
  have hc1 : V.cell? ⟨W.heap.size, 0, none⟩ = some (.int .i64 ent) := by
    have e : V.heap[W.heap.size]? = some (.cells #[.int .i64 ent] 3 (0, 0)) := by
      rw [← hV]
      exact ((World.grownBy_alloc _ _ none).block _ (by simp) (by simp)).trans (ld_new_heap W _)
    simp [World.cell?, e]
  have hc2 : V.cell? ⟨W.heap.size + 1, 0, none⟩ = some (.int .i64 per) := by
    have e : V.heap[W.heap.size + 1]? = some (.cells #[.int .i64 per] 3 (0, 0)) := by
      rw [← hV]
      have := ld_new_heap (W.alloc (.cells #[.int .i64 ent] 3)) (.cells #[.int .i64 per] 3)
      simpa using this
    simp [World.cell?, e]
  have hT : JTells 20 #[.pointer (some ⟨W.heap.size, 0, none⟩), .pointer (some ⟨W.heap.size + 1, 0, none⟩)] (ofBoth ent per) V.heap.size V :=
    ⟨fun args W => en_enters Try.func20 (by kernel_rfl) ⟨_, rfl⟩ args W, fun x U hU => trial1_any ent per W.heap.size (W.heap.size + 1) x U ((hU.cell (p := ⟨W.heap.size, 0, none⟩) (by simp [hsV])).trans hc1) ((hU.cell (p := ⟨W.heap.size + 1, 0, none⟩) (by simp [hsV])).trans hc2)⟩
  have HO : Hid (Calls Try.prog 10 #[.slice a L.length cap, .func (.func 20) #[] #[.pointer (some ⟨W.heap.size, 0, none⟩), .pointer (some ⟨W.heap.size + 1, 0, none⟩)]] V fun e w' => OeEnd (ofBoth ent per) L W e w') := by
    refine (ofEntries_any a cap L _ _ _ _ hlen (h.below hb) hok hT).mono ?_
    rintro e w' ⟨h1, h2, h3⟩
    have hB : Below W.heap.size W w' := hb.trans (h1.mono (by omega))
    by_cases h0 : oeE (ofBoth ent per) L = 0
    · obtain ⟨v, R, rfl, h4⟩ := h3 h0
      obtain ⟨sa, sc, rfl, hI⟩ := h4.out.1.isBl
      exact .inr ⟨h0, sa, sc, R, rfl, hB, hI, h4.out.2⟩
    · exact .inl ⟨h0, by rw [h2 h0, enE_ne h0], hB⟩
  have HV : Hid ((W.alloc (.cells #[.int .i64 ent] 3)).alloc (.cells #[.int .i64 per] 3) = V) := hV
  clear hb hc1 hc2 hT h hok hV hsV
  go_enter Try.func7, Try.ntmps7
  go_wp2_with fail
  rw [HV.out]
  refine HO.out.mono ?_
  rintro e w' hE
  rcases hE with ⟨h0, rfl, hB⟩ | ⟨h0, sa, sc, R, rfl, hR⟩
  · have HQ : Hid (OeEnd (ofBoth ent per) L W (.returned (.tuple #[.slice none 0 0, .iface 58 (.int .i64 (oeE (ofBoth ent per) L))])) w') := .inl ⟨h0, rfl, hB⟩
    clear HO h0 hB
    generalize oeE (ofBoth ent per) L = oo at *
    go_wp2
    go_ret2
    exact HQ.out
  · have HQ : Hid (OeEnd (ofBoth ent per) L W (.returned (.tuple #[.slice sa R.length sc, .nilIface])) w') := .inr ⟨h0, sa, sc, R, rfl, hR⟩
    clear HO h0 hR
    go_wp2
    go_ret2
    exact HQ.out
end Go.Proofs.Ytkaoiljepabmeaa

namespace Go.Proofs.Ytkaoiljepabmeaa
set_option linter.unusedVariables false
set_option linter.unusedSimpArgs false
set_option maxRecDepth 100000
open Go.RowKit Go.Lib
theorem ltot_flat_or {p q r : Je → Bool} (k : Pk) : ∀ L : List Je, (∀ x ∈ L, r x = (p x || q x) ∧ (p x && q x) = false) → ltot k (flatB r L) = ltot k (flatB p L) + ltot k (flatB q L)
  | [], _ => rfl
  | x :: L, h => by
    have ih := ltot_flat_or k L (fun y hy => h y (List.mem_cons_of_mem _ hy))
    obtain ⟨h1, h2⟩ := h x (List.mem_cons_self ..)
    unfold flatB at ih ⊢
    rw [List.filter_cons, List.filter_cons, List.filter_cons, h1]
    cases hp : p x
    · cases hq : q x
      · simpa [hp, hq] using ih
      · simp only [Bool.false_or, Bool.false_eq_true, if_false, if_true, List.flatMap_cons, ltot_append]
        omega
    · cases hq : q x
      · simp only [Bool.or_false, Bool.false_eq_true, if_false, if_true, List.flatMap_cons, ltot_append]
        omega
      · rw [hp, hq] at h2; cases h2
theorem flatB_congr {p q : Je → Bool} {L : List Je} (h : ∀ x ∈ L, p x = q x) : flatB p L = flatB q L := by
  unfold flatB
  rw [List.filter_congr h]
theorem flatB_none {p : Je → Bool} {L : List Je} (h : ∀ x ∈ L, p x = false) : flatB p L = [] := by
  unfold flatB
  have : L.filter p = [] := List.filter_eq_nil_iff.2 (fun x hx => by rw [h x hx]; simp)
  rw [this]
  rfl
/-- Entries of three entities and four periods. -/
def gd (x : Je) : Bool := decide ((1 ≤ x.ent ∧ x.ent ≤ 3) ∧ 1 ≤ x.per ∧ x.per ≤ 4)
/-- What lies ahead of an entity and a period. -/
def bef (i p : Int) (x : Je) : Bool := decide (x.ent < i ∨ (x.ent = i ∧ x.per < p))
theorem JsOk.sub {L M : List Je} (h : JsOk L) (hs : M.Sublist L) : JsOk M := by
  refine ⟨fun x hx => h.ent x (hs.mem hx), fun x hx => h.per x (hs.mem hx), fun x hx => h.lns x (hs.mem hx), ?_⟩
  have key : ∀ {M L : List Je}, M.Sublist L → (M.flatMap lnsB).length ≤ (L.flatMap lnsB).length := by
    intro M L hs
    induction hs with
    | slnil => exact Nat.le_refl _
    | cons x _ ih => rw [List.flatMap_cons, List.length_append]; omega
    | cons_cons x _ ih => rw [List.flatMap_cons, List.flatMap_cons, List.length_append, List.length_append]; omega
  exact Nat.le_trans (key hs) h.all
theorem gd_of {x : Je} (h : gd x = true) : (1 ≤ x.ent ∧ x.ent ≤ 3) ∧ 1 ≤ x.per ∧ x.per ≤ 4 := of_decide_eq_true h
theorem bef_step {G : List Je} (i p : Int) (k : Pk) : ltot k (flatB (bef i (p + 1)) G) = ltot k (flatB (bef i p) G) + ltot k (flatB (ofBoth i p) G) :=
  ltot_flat_or k G (fun x hx => by
    unfold bef ofBoth
    by_cases h1 : x.ent < i ∨ (x.ent = i ∧ x.per < p)
    · have h2 : ¬ (x.ent = i ∧ x.per = p) := by omega
      have h3 : x.ent < i ∨ (x.ent = i ∧ x.per < p + 1) := by omega
      simp [decide_eq_true h1, decide_eq_false h2, decide_eq_true h3]
    · by_cases h2 : x.ent = i ∧ x.per = p
      · have h3 : x.ent < i ∨ (x.ent = i ∧ x.per < p + 1) := by omega
        simp [decide_eq_false h1, decide_eq_true h2, decide_eq_true h3]
      · have h3 : ¬ (x.ent < i ∨ (x.ent = i ∧ x.per < p + 1)) := by omega
        simp [decide_eq_false h1, decide_eq_false h2, decide_eq_false h3])
theorem bef_turn {G : List Je} (hG : ∀ x ∈ G, gd x = true) (i : Int) : flatB (bef i 5) G = flatB (bef (i + 1) 1) G := flatB_congr (fun x hx => by
  have h := gd_of (hG x hx)
  unfold bef
  rw [decide_eq_decide]
  omega)
theorem bef_first {G : List Je} (hG : ∀ x ∈ G, gd x = true) : flatB (bef 1 1) G = [] := flatB_none (fun x hx => by
  have h := gd_of (hG x hx)
  unfold bef
  exact decide_eq_false (by omega))
theorem bef_last {G : List Je} (hG : ∀ x ∈ G, gd x = true) : flatB (bef 4 1) G = flatB (ldUpTo 4) G := flatB_congr (fun x hx => by
  have h := gd_of (hG x hx)
  unfold bef ldUpTo
  rw [decide_eq_decide]
  omega)
theorem up_none {G : List Je} (hG : ∀ x ∈ G, gd x = true) : flatB (ldUpTo 0) G = [] := flatB_none (fun x hx => by
  have h := gd_of (hG x hx)
  unfold ldUpTo
  exact decide_eq_false (by omega))
theorem oe_none {p q : Je → Bool} {G : List Je} (h : oeE q G = 0) (hp : flatB p G = []) : oeE p G = 0 := by
  unfold oeE at h ⊢
  by_cases hc : ceE G = 0
  · rw [if_neg (by simp [hc]), hp]; rfl
  · rw [if_pos hc] at h; exact absurd h hc
theorem oer_none {p : Je → Bool} {G : List Je} {R : List Bl} (h : OeR p G R) (hp : flatB p G = []) : R = [] := by
  have h0 : Sums [] [] := ⟨.nil, by simp, fun _ => rfl⟩
  have := h.sums
  rw [hp] at this
  exact this.uniq h0 (fun _ => rfl)
/-- All that was merged so far. -/
structure AllS (G : List Je) (i p : Int) (A : List Bl) : Prop where
  sums : Sums (flatB (bef i p) G) A
  len : A.length ≤ 200
  ok : ∀ x ∈ A, BlOk x
theorem AllS.step {G : List Je} {i p : Int} {A T M : List Bl} (hG : ∀ x ∈ G, gd x = true) (h : AllS G i p A) (ht : OeR (ofBoth i p) G T) (hm : MgR A T M) : AllS G i (p + 1) M :=
  ⟨⟨hm.sums.rises, hm.sums.ne, fun k => by rw [hm.sums.ltot, ltot_append, h.sums.ltot, ht.sums.ltot, bef_step]⟩, hm.len, hm.ok⟩
theorem AllS.turn {G : List Je} {i : Int} {A : List Bl} (hG : ∀ x ∈ G, gd x = true) (h : AllS G i 5 A) : AllS G (i + 1) 1 A := ⟨by rw [← bef_turn hG]; exact h.sums, h.len, h.ok⟩
theorem AllS.first {G : List Je} (hG : ∀ x ∈ G, gd x = true) : AllS G 1 1 [] := ⟨by rw [bef_first hG]; exact ⟨.nil, by simp, fun _ => rfl⟩, by simp, by simp⟩
theorem AllS.last {G : List Je} {A R : List Bl} (hG : ∀ x ∈ G, gd x = true) (h : AllS G 4 1 A) (hr : OeR (ldUpTo 4) G R) : A = R :=
  h.sums.uniq hr.sums (fun k => by rw [bef_last hG])
/-- The law's own entry. -/
def lqE (a : Option Addr) (c : Nat) : Je := ⟨⟨#[97]⟩, 2, 3, a, c, [⟨⟨#[49, 48]⟩, ⟨#[69, 85, 82]⟩, 5⟩, ⟨⟨#[50, 48]⟩, ⟨#[69, 85, 82]⟩, -5⟩]⟩
def lqR : List Bl := [⟨2, ⟨#[49, 48]⟩, ⟨#[69, 85, 82]⟩, 5⟩, ⟨2, ⟨#[50, 48]⟩, ⟨#[69, 85, 82]⟩, -5⟩]
theorem lq_flat (a : Option Addr) (c : Nat) : flatB (ofBoth 2 3) [lqE a c] = lqR := rfl
theorem lq_parts : tgE (parts lqR) = 0 := by decide +kernel
theorem lq_oe (a : Option Addr) (c : Nat) : oeE (ofBoth 2 3) [lqE a c] = 0 := by
  unfold oeE
  rw [lq_flat, lq_parts]
  have : ceE [lqE a c] = 0 := rfl
  rw [this]
  rfl
theorem lq_rises : Rises lqR := List.pairwise_cons.2 ⟨fun y hy => by rw [List.mem_singleton.1 hy]; decide +kernel, List.pairwise_singleton _ _⟩
theorem lq_len {a : Option Addr} {c : Nat} {R : List Bl} (h : OeR (ofBoth 2 3) [lqE a c] R) : R.length = 2 := by
  have h0 : Sums lqR lqR := ⟨lq_rises, by decide +kernel, fun _ => rfl⟩
  have h1 := h.sums
  rw [lq_flat] at h1
  rw [h1.uniq h0 (fun _ => rfl)]
  rfl
theorem lq_ok (a : Option Addr) (c : Nat) : JsOk [lqE a c] := by
  refine ⟨fun x hx => ?_, fun x hx => ?_, fun x hx n hn => ?_, ?_⟩
  · rw [List.mem_singleton.1 hx]; show (-9223372036854775808 : Int) ≤ 2 ∧ (2 : Int) ≤ 9223372036854775807; decide
  · rw [List.mem_singleton.1 hx]; show (-9223372036854775808 : Int) ≤ 3 ∧ (3 : Int) ≤ 9223372036854775807; decide
  · rw [List.mem_singleton.1 hx] at hn
    simp only [lqE, List.mem_cons, List.not_mem_nil, or_false] at hn
    rcases hn with rfl | rfl
    · exact ⟨by decide, by decide⟩
    · exact ⟨by decide, by decide⟩
  · show (2 : Nat) ≤ 17592186044400; decide
theorem ld_pair_new (W : World) (x0 x1 y0 y1 : ByteArray) (x2 y2 : Int) (b : Nat) (hb : b = W.heap.size) : IsLn (W.alloc (.cells #[.string x0, .string x1, .int .i64 x2, .string y0, .string y1, .int .i64 y2] 43)) (some ⟨b, 0, none⟩) [⟨x0, x1, x2⟩, ⟨y0, y1, y2⟩] 2 := by
  have h := ld_new_heap W (.cells #[.string x0, .string x1, .int .i64 x2, .string y0, .string y1, .int .i64 y2] 43)
  rw [← hb] at h
  generalize W.alloc (.cells #[.string x0, .string x1, .int .i64 x2, .string y0, .string y1, .int .i64 y2] 43) = V at *
  refine ⟨Nat.le_refl _, .inr ⟨b, 0, rfl, (Array.getElem?_eq_some_iff.1 h).1, fun k hk => ?_⟩⟩
  rcases (by simp at hk; omega : k = 0 ∨ k = 1) with rfl | rfl
  · exact ⟨by simp [World.cell?, h], by simp [World.cell?, h], by simp [World.cell?, h]⟩
  · exact ⟨by simp [World.cell?, h], by simp [World.cell?, h], by simp [World.cell?, h]⟩
/-- An entry of one's own as a list. -/
theorem isJs_new {W : World} {b : Nat} {x : Je} (h : W.heap[b]? = some (.cells x.cells 31 (0, 0))) (hl : IsLn W x.adr x.lns x.cap) : IsJs W (some ⟨b, 0, none⟩) [x] 1 := by
  refine ⟨Nat.le_refl _, .inr ⟨b, 0, rfl, (Array.getElem?_eq_some_iff.1 h).1, fun k hk => ?_⟩, fun y hy => by rw [List.mem_singleton.1 hy]; exact hl⟩
  have e : k = 0 := by simp at hk; omega
  subst e
  simp only [List.getD_cons_zero]
  exact ⟨by simp [World.cell?, h, Je.cells], by simp [World.cell?, h, Je.cells], by simp [World.cell?, h, Je.cells], by simp [World.cell?, h, Je.cells]⟩
theorem JeRow.isJs {W : World} {n : Nat} {v : Value} {l : List Je} (h : JeRow W n v l) (hl : ∀ x ∈ l, IsLn W x.adr x.lns x.cap) : ∃ a cap, v = .slice a l.length cap ∧ IsJs W a l cap := by
  obtain ⟨a, cap, rfl, h1, h2⟩ := h.lies
  exact ⟨a, cap, rfl, h1, h2, hl⟩
end Go.Proofs.Ytkaoiljepabmeaa
