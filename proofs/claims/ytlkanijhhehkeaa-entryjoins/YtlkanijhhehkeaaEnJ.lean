/-
  daylaw5.EntryJoins, walked.
-/
import Derived.Test.YtlkanijhhehkeaaEnNb
namespace Go.Proofs.Ytlkanijhhehkeaa
set_option linter.unusedVariables false
set_option linter.unusedSimpArgs false
set_option maxRecDepth 100000
open Go.RowKit Go.Lib

theorem pair_new (W : World) (x0 x1 : ByteArray) (x2 : Int) (y0 y1 : ByteArray) (y2 : Int) (b : Nat) (hb : b = W.heap.size) :
    IsLn (W.alloc (.cells #[.string x0, .string x1, .int .i64 x2, .string y0, .string y1, .int .i64 y2] 31)) (some ⟨b, 0, none⟩) [⟨x0, x1, x2⟩, ⟨y0, y1, y2⟩] 2 := by
  subst hb
  have h := World.alloc_heap_new W (.cells #[.string x0, .string x1, .int .i64 x2, .string y0, .string y1, .int .i64 y2] 31)
  generalize W.alloc (.cells #[.string x0, .string x1, .int .i64 x2, .string y0, .string y1, .int .i64 y2] 31) = V at *
  generalize W.heap.size = b at *
  refine ⟨Nat.le_refl _, .inr ⟨b, 0, rfl, (Array.getElem?_eq_some_iff.1 h).1, fun k hk => ?_⟩⟩
  rcases (by simp at hk; omega : k = 0 ∨ k = 1) with rfl | rfl
  · exact ⟨by simp [World.cell?, h], by simp [World.cell?, h], by simp [World.cell?, h]⟩
  · exact ⟨by simp [World.cell?, h], by simp [World.cell?, h], by simp [World.cell?, h]⟩

theorem two_any (ref : ByteArray) (en pe : Int) (to fr : ByteArray) (n : Int) (w : World) (hn : IntKind.i64.wrap (-n) = -n) :
    Calls Try.prog 6 #[.string ref, .int .i64 en, .int .i64 pe, .string to, .string fr, .int .i64 n] w fun e w' => ∃ a cap, e = .returned (.agg #[.string ref, .int .i64 en, .int .i64 pe, .slice a 2 cap]) ∧ IsLn w' a [⟨to, ⟨#[69, 85, 82]⟩, n⟩, ⟨fr, ⟨#[69, 85, 82]⟩, -n⟩] cap ∧ Below w.heap.size w w' := by
  go_enter Try.func6, Try.ntmps6
  go_wp2
  have d0 : ((w.alloc (.cells #[.string ref, .int .i64 en, .int .i64 pe, .slice (some ⟨w.heap.size + 1, 0, none⟩) 2 2] 25)).alloc (.cells #[.string to, .string ⟨#[69, 85, 82]⟩, .int .i64 n, .string fr, .string ⟨#[69, 85, 82]⟩, .int .i64 (-n)] 31)).heap[w.heap.size]? = some (.cells #[.string ref, .int .i64 en, .int .i64 pe, .slice (some ⟨w.heap.size + 1, 0, none⟩) 2 2] 25 (0, 0)) := ((World.grownBy_alloc _ _ none).block w.heap.size (by simp) (by simp)).trans (World.alloc_heap_new w _)
  have b4 : Box4 _ _ _ _ _ _ := d0
  have q0 := b4.c0
  have q1 := b4.c1
  have q2 := b4.c2
  have q3 := b4.c3
  exact bodyPost_ret (v := .agg #[.string ref, .int .i64 en, .int .i64 pe, .slice (some ⟨w.heap.size + 1, 0, none⟩) 2 2]) (by simp [results, Try.results6, go_sem, q0, q1, q2, q3]) rfl ⟨_, _, rfl, pair_new _ _ _ _ _ _ _ _ (by simp), ((Below.refl _ w).alloc (Nat.le_refl _) _).alloc (by simp) _⟩

theorem Box4.set3 {W : World} {b : Nat} {r : ByteArray} {en pe : Int} {v : Value} (h : Box4 W b r en pe v) (v' : Value) : Box4 (W.setCell ⟨b, 3, none⟩ v') b r en pe v' := by
  unfold Box4 at *
  rw [setCell_eq_setRow W b 3 _ 25 (0, 0) _ h, setRow_heap W b _ _ 25 (0, 0) h]
  rfl
theorem Box4.grown {W W' : World} {b : Nat} {row : Option Nat} {r : ByteArray} {en pe : Int} {v : Value} (h : Box4 W b r en pe v) (hg : W.grownBy W' row) (hr : ∀ j, row = some j → b < j) : Box4 W' b r en pe v :=
  (hg.block b (Array.getElem?_eq_some_iff.1 h).1 (fun e => by have := hr b e.symm; omega)).trans h
theorem lns_src {W : World} {b off : Nat} {l : List Ln} (h : LnsAt W b off l) : ∀ j u, (lnRow l)[j]? = some u → W.cell? ((⟨b, off, none⟩ : Addr).add j) = some u := by
  intro j u hj
  rw [Addr.add_lit]
  obtain ⟨q, r, hr, rfl⟩ : ∃ q r, r < 3 ∧ j = q * 3 + r := ⟨j / 3, j % 3, Nat.mod_lt _ (by omega), by omega⟩
  have hlt := (List.getElem?_eq_some_iff.1 hj).1
  rw [lnRow_length] at hlt
  have hq : q < l.length := by omega
  rw [lnRow_get l q r hq hr] at hj
  have := h q hq
  rcases (by omega : r = 0 ∨ r = 1 ∨ r = 2) with rfl | rfl | rfl
  · rw [← hj, Nat.add_zero, this.c0]; rfl
  · rw [← hj, ← Nat.add_assoc, this.c1]; rfl
  · rw [← hj, ← Nat.add_assoc, this.c2]; rfl

theorem ref_r : isRefB ⟨#[114]⟩ = true := isRefB_iff.2 ⟨by decide, by decide, by decide, fun i hi => by
  have : i = 0 := by have : (⟨#[114]⟩ : ByteArray).size = 1 := rfl; omega
  subst this
  decide⟩
theorem within_two (x y : ByteArray) (u v : ByteArray) : Within mostA [⟨x, u, 5⟩, ⟨y, v, -5⟩] := by
  intro z hz
  simp only [List.mem_cons, List.not_mem_nil, or_false] at hz
  rcases hz with rfl | rfl <;> simp [mostA]
theorem sums_two (x y u : ByteArray) : (curSums [⟨x, u, 5⟩, ⟨y, u, -5⟩]).length = 1 := by
  have e : lnEq (bareL ⟨x, u, 5⟩) (bareL ⟨y, u, -5⟩) = true := lnEq_iff.2 ⟨rfl, rfl⟩
  have e2 := lnLt_eq e
  simp only [curSums, grp, List.map_cons, List.map_nil, List.foldl_cons, List.foldl_nil, insL, e2, e]
  rfl
theorem net_fact (u v : ByteArray) : netL [⟨u, v, 5⟩, ⟨u, v, -5⟩] = [] := net_twice [⟨u, v, 5⟩]

set_option maxHeartbeats 8000000 in
theorem joins_any (ca : Option Addr) (cc : Nat) (c : List Ac) (r r' : ByteArray) (en pe en' pe' : Int) (a a' : Option Addr) (cap cap' : Nat) (l l' : List Ln) (w : World) (hc : IsSl w ca c cc) (h : IsLn w a l cap) (h' : IsLn w a' l' cap') :
    Calls Try.prog 3 #[.slice ca c.length cc, .agg #[.string r, .int .i64 en, .int .i64 pe, .slice a l.length cap], .agg #[.string r', .int .i64 en', .int .i64 pe', .slice a' l'.length cap']] w fun e w' => e = .returned (.bool true) ∧ Below w.heap.size w w' := by
  have b0 : Below w.heap.size w (((w.alloc (.cells #[.string r, .int .i64 en, .int .i64 pe, .slice a l.length cap] 25)).alloc (.cells #[.string r', .int .i64 en', .int .i64 pe', .slice a' l'.length cap'] 25)).alloc (.cells #[.string ⟨#[49]⟩, .string ⟨#[69, 85, 82]⟩, .int .i64 5, .string ⟨#[49]⟩, .string ⟨#[69, 85, 82]⟩, .int .i64 (-5)] 31)) := (((Below.refl _ w).alloc (Nat.le_refl _) _).alloc (by simp) _).alloc (by simp; omega) _
  have xa := ((Box4.new w r en pe (.slice a l.length cap)).alloc (.cells #[.string r', .int .i64 en', .int .i64 pe', .slice a' l'.length cap'] 25)).alloc (.cells #[.string ⟨#[49]⟩, .string ⟨#[69, 85, 82]⟩, .int .i64 5, .string ⟨#[49]⟩, .string ⟨#[69, 85, 82]⟩, .int .i64 (-5)] 31)
  have xb := (Box4.new (w.alloc (.cells #[.string r, .int .i64 en, .int .i64 pe, .slice a l.length cap] 25)) r' en' pe' (.slice a' l'.length cap')).alloc (.cells #[.string ⟨#[49]⟩, .string ⟨#[69, 85, 82]⟩, .int .i64 5, .string ⟨#[49]⟩, .string ⟨#[69, 85, 82]⟩, .int .i64 (-5)] 31)
  rw [World.size_alloc] at xb
  have hp := pair_new ((w.alloc (.cells #[.string r, .int .i64 en, .int .i64 pe, .slice a l.length cap] 25)).alloc (.cells #[.string r', .int .i64 en', .int .i64 pe', .slice a' l'.length cap'] 25)) ⟨#[49]⟩ ⟨#[69, 85, 82]⟩ 5 ⟨#[49]⟩ ⟨#[69, 85, 82]⟩ (-5) (w.heap.size + 1 + 1) (by simp)
  have hsz : (((w.alloc (.cells #[.string r, .int .i64 en, .int .i64 pe, .slice a l.length cap] 25)).alloc (.cells #[.string r', .int .i64 en', .int .i64 pe', .slice a' l'.length cap'] 25)).alloc (.cells #[.string ⟨#[49]⟩, .string ⟨#[69, 85, 82]⟩, .int .i64 5, .string ⟨#[49]⟩, .string ⟨#[69, 85, 82]⟩, .int .i64 (-5)] 31)).heap.size = w.heap.size + 3 := by simp
  have hN := net_ok ⟨#[]⟩ 0 0 _ 2 _ _ hp (fewBad_of (by simp) (within_two _ _ _ _))
  rw [net_fact] at hN
  have HN : Hid (Calls _ _ _ _ _) := hN
  have HC : Hid (∀ W, Below w.heap.size w W → Calls Try.prog 7 #[.slice ca c.length cc, .agg #[.string r, .int .i64 en, .int .i64 pe, .slice a l.length cap]] W fun e w' => e = .returned (enE (entBad c r en pe l)) ∧ Below W.heap.size W w') := fun W hW => check_any ca cc c r en pe a cap l W (hc.below hW) (h.below hW)
  have HC' : Hid (∀ W, Below w.heap.size w W → Calls Try.prog 7 #[.slice ca c.length cc, .agg #[.string r', .int .i64 en', .int .i64 pe', .slice a' l'.length cap']] W fun e w' => e = .returned (enE (entBad c r' en' pe' l')) ∧ Below W.heap.size W w') := fun W hW => check_any ca cc c r' en' pe' a' cap' l' W (hc.below hW) (h'.below hW)
  clear hN hp
  go_enter Try.func3, Try.ntmps3
  go_wp2_with fail
  refine HN.out.mono ?_
  rintro e w4 ⟨v4, rfl, r4, b4⟩
  rw [hsz] at b4 r4
  obtain ⟨a4, k4, rfl, _⟩ := r4.isLn
  have B4 := b0.trans (b4.mono (by omega))
  have xa4 := xa.below b4 (by omega)
  have xb4 := xb.below b4 (by omega)
  have hs4 := b4.size
  rw [hsz] at hs4
  clear b0 xa xb b4 r4 HN hsz
  simp only [List.length_nil]
  have xf := Box4.new w4 ⟨#[]⟩ 0 0 (.slice a4 0 k4)
  have B4 := B4.alloc (by omega) (.cells #[.string ⟨#[]⟩, .int .i64 0, .int .i64 0, .slice a4 0 k4] 25)
  have xa4 := xa4.alloc (.cells #[.string ⟨#[]⟩, .int .i64 0, .int .i64 0, .slice a4 0 k4] 25)
  have xb4 := xb4.alloc (.cells #[.string ⟨#[]⟩, .int .i64 0, .int .i64 0, .slice a4 0 k4] 25)
  have hs4a : (w4.alloc (.cells #[.string ⟨#[]⟩, .int .i64 0, .int .i64 0, .slice a4 0 k4] 25)).heap.size = w4.heap.size + 1 := by simp
  have hT := two_any ⟨#[97]⟩ 1 1 ⟨#[49, 48]⟩ ⟨#[50, 48]⟩ 5 (w4.alloc (.cells #[.string ⟨#[]⟩, .int .i64 0, .int .i64 0, .slice a4 0 k4] 25)) (by decide)
  have HT : Hid (Calls _ _ _ _ _) := hT
  clear hT
  go_wp2_with fail
  refine HT.out.mono ?_
  rintro e w5 ⟨a5, k5, rfl, s5, b5⟩
  rw [hs4a] at b5
  have B5 := B4.trans (b5.mono (by omega))
  have xa5 := xa4.below b5 (by omega)
  have xb5 := xb4.below b5 (by omega)
  have xf5 := xf.below b5 (by omega)
  have hs5 := b5.size
  rw [hs4a] at hs5
  have hS := sums_ok ⟨#[97]⟩ 1 1 a5 k5 _ w5 s5 (fewBad_of (by simp) (within_two _ _ _ _))
  have HS : Hid (Calls _ _ _ _ _) := hS
  clear B4 xa4 xb4 b5 hS s5 xf HT hs4a
  go_wp2_with fail
  refine HS.out.mono ?_
  rintro e w6 ⟨v6, rfl, r6, b6⟩
  obtain ⟨a6, k6, rfl, _⟩ := r6.isLn
  rw [sums_two]
  have B6 := B5.trans (b6.mono (by omega))
  have xa6 := xa5.below b6 (by omega)
  have xb6 := xb5.below b6 (by omega)
  have xf6 := xf5.below b6 (by omega)
  have hs6 := b6.size
  clear B5 xa5 xb5 b6 HS r6 xf5
  have cf3 := xf6.c3
  have ca0 := xa6.c0
  have ca1 := xa6.c1
  have ca2 := xa6.c2
  have ca3 := xa6.c3
  go_wp2_with fail
  refine (HC.out w6 B6).mono ?_
  rintro e w7 ⟨rfl, b7⟩
  have B7 := B6.trans (b7.mono (by omega))
  have xa7 := xa6.below b7 (by omega)
  have xb7 := xb6.below b7 (by omega)
  have hs7 := b7.size
  clear ca0 ca1 ca2 ca3 cf3 xf6 b7 B6 xa6 xb6 HC
  obtain ⟨bad, hbad⟩ : ∃ bad, entBad c r en pe l = bad := ⟨_, rfl⟩
  obtain ⟨bad', hbad'⟩ : ∃ bad', entBad c r' en' pe' l' = bad' := ⟨_, rfl⟩
  rw [hbad'] at HC'
  rw [hbad]
  have Hbad : Hid (entBad c r en pe l = bad) := hbad
  have Hbad' : Hid (entBad c r' en' pe' l' = bad') := hbad'
  clear hbad hbad'
  obtain ⟨ev, hev⟩ : ∃ ev, enE bad = ev := ⟨_, rfl⟩
  obtain ⟨ev', hev'⟩ : ∃ ev', enE bad' = ev' := ⟨_, rfl⟩
  rw [hev'] at HC'
  rw [hev]
  have cb0 := xb7.c0
  have cb1 := xb7.c1
  have cb2 := xb7.c2
  have cb3 := xb7.c3
  go_wp2_with fail
  refine (HC'.out w7 B7).mono ?_
  rintro e w8 ⟨rfl, b8⟩
  have B8 := B7.trans (b8.mono (by omega))
  have xa8 := xa7.below b8 (by omega)
  have xb8 := xb7.below b8 (by omega)
  have hs8 := b8.size
  clear cb0 cb1 cb2 cb3 b8 B7 xa7 xb7 HC'
  have ca3 := xa8.c3
  have cb3 := xb8.c3
  by_cases h1 : bad = 0
  · by_cases h2 : bad' = 0
    · subst h1
      subst h2
      rw [enE_zero] at hev hev'
      subst hev
      subst hev'
      by_cases h3 : l.length + l'.length ≤ 20
      · by_cases h4 : 2 * l.length ≤ 20
        · have i3 : ¬ (20 : Int) < (l.length : Int) + l'.length := by omega
          have i4 : ¬ (20 : Int) < 2 * (l.length : Int) := by omega
          have ca0 := xa8.c0
          have ca1 := xa8.c1
          have ca2 := xa8.c2
          have xx9 := Box4.new w8 r en pe (.slice none 0 0)
          have xa9 := xa8.alloc (.cells #[.string r, .int .i64 en, .int .i64 pe, .slice none 0 0] 25)
          have xb9 := xb8.alloc (.cells #[.string r, .int .i64 en, .int .i64 pe, .slice none 0 0] 25)
          have B9 := B8.alloc B8.size (.cells #[.string r, .int .i64 en, .int .i64 pe, .slice none 0 0] 25)
          have hs9 : (w8.alloc (.cells #[.string r, .int .i64 en, .int .i64 pe, .slice none 0 0] 25)).heap.size = w8.heap.size + 1 := by simp
          have da3 := xa9.c3
          have hl1 := headBad_len (entBad_zero.1 Hbad.out).2.1
          have hl2 := headBad_len (entBad_zero.1 Hbad'.out).2.1
          rcases h.lies with h0 | ⟨b, off, rfl, hbl, hcl⟩
          · rw [h0] at hl1; simp at hl1
          rcases h'.lies with h0 | ⟨b', off', rfl, hbl', hcl'⟩
          · rw [h0] at hl2; simp at hl2
          obtain ⟨i0, hi, hz0, hz1, hz2⟩ := info_parts ln_info
          have HS9 : Hid _ := lns_src (l := l) (fun k hk => (hcl k hk).below B9 hbl)
          have Hm1 : Hid (0 + l.length ≤ maxLen) := by unfold Hid maxLen; omega
          have Hm2 : Hid ((0 + l.length) * 40 ≤ 140737488355328) := by unfold Hid; omega
          have Hm3 : Hid (w8.heap.size + 1 ≤ (w8.alloc (.cells #[.string r, .int .i64 en, .int .i64 pe, .slice none 0 0] 25)).heap.size) := by unfold Hid; rw [hs9]; exact Nat.le_refl _
          go_wp2_with (at_builtin; refine wpList_append_own _ rfl _ _ 23 rfl (w8.heap.size + 1) 31 i0 (.agg #[.string ByteArray.empty, .string ByteArray.empty, .int .i64 0]) 3 40 Try.underlying23 hi hz0 hz1 hz2 rfl (by decide) _ _ _ rfl (World.ownsRow_nil _ _ _ _) ⟨b, off, none⟩ l.length cap (lnRow l) rfl (lnRow_length l) HS9.out (lnRow_one_cell l) Hm1.out Hm2.out Hm3.out ?_)
          intro v10 w10 hown hgrow _
          have r10 : LnRow w10 (w8.heap.size + 1) v10 l := hown
          obtain ⟨a10, k10, rfl, _⟩ := r10.isLn
          have hg10 : Hid (World.grownBy _ w10 none) := hgrow
          have xx10 := xx9.grown hg10.out (fun j e => by cases e)
          have xa10 := xa9.grown hg10.out (fun j e => by cases e)
          have xb10 := xb9.grown hg10.out (fun j e => by cases e)
          have B10 := B9.grown hg10.out B9.size (fun j e => by cases e)
          have hs10 := hg10.out.size
          rw [hs9] at hs10
          have dx3 := xx10.c3
          have fx3 := xx10.fz 3
          obtain ⟨w11, hw11⟩ : ∃ w11, w10.setCell ⟨w8.heap.size, 3, none⟩ (.slice a10 l.length k10) = w11 := ⟨_, rfl⟩
          have xx11 := xx10.set3 (.slice a10 l.length k10)
          have xa11 := xa10.other (b' := w8.heap.size) (o := 3) (u := .slice a10 l.length k10) (by omega)
          have xb11 := xb10.other (b' := w8.heap.size) (o := 3) (u := .slice a10 l.length k10) (by omega)
          have B11 := B10.setCell (p := ⟨w8.heap.size, 3, none⟩) B8.size (.slice a10 l.length k10)
          have r11 := r10.setOther (b := w8.heap.size) (o := 3) (u := .slice a10 l.length k10) (by omega)
          have hs11 : (w10.setCell ⟨w8.heap.size, 3, none⟩ (.slice a10 l.length k10)).heap.size = w10.heap.size := by simp
          rw [hw11] at xx11 xa11 xb11 B11 r11 hs11
          have db3 := xb11.c3
          have dy3 := xx11.c3
          have HS11 : Hid _ := lns_src (l := l') (fun k hk => (hcl' k hk).below B11 hbl')
          have Hm1 : Hid (l.length + l'.length ≤ maxLen) := by unfold Hid maxLen; omega
          have Hm2 : Hid ((l.length + l'.length) * 40 ≤ 140737488355328) := by unfold Hid; omega
          have Hm3 : Hid (w8.heap.size + 1 ≤ w11.heap.size) := by unfold Hid; omega
          have Hr11 : Hid (LnRow _ _ _ _) := r11
          clear r10 r11 hgrow hown hg10 xx10 xa10 xb10 B10 HS9 da3 xx9 xa9 xb9 B9
          go_wp2_with (at_builtin; refine wpList_append_own _ rfl _ _ 23 rfl (w8.heap.size + 1) 31 i0 (.agg #[.string ByteArray.empty, .string ByteArray.empty, .int .i64 0]) 3 40 Try.underlying23 hi hz0 hz1 hz2 rfl (by decide) _ _ _ rfl Hr11.out ⟨b', off', none⟩ l'.length cap' (lnRow l') rfl (lnRow_length l') HS11.out (lnRow_one_cell l') Hm1.out Hm2.out Hm3.out ?_)
          intro v12 w12 hown hgrow _
          clear hw11 dx3 fx3 db3 dy3 HS11
          rw [← lnRow_append, ← List.length_append] at hown
          have r12 : LnRow w12 (w8.heap.size + 1) v12 (l ++ l') := hown
          obtain ⟨a12, k12, rfl, hsl12⟩ := r12.isLn
          have hgj := Hr11.out.own
          have hg12 : Hid (World.grownBy w11 w12 _) := hgrow
          have xx12 := xx11.grown hg12.out (fun j e => by have := hgj j e; omega)
          have xa12 := xa11.grown hg12.out (fun j e => by have := hgj j e; omega)
          have B12 := B11.grown hg12.out B11.size (fun j e => by have := hgj j e; omega)
          have hs12 := hg12.out.size
          have dx3 := xx12.c3
          have fx3 := xx12.fz 3
          obtain ⟨w13, hw13⟩ : ∃ w13, w12.setCell ⟨w8.heap.size, 3, none⟩ (.slice a12 (l ++ l').length k12) = w13 := ⟨_, rfl⟩
          have xx13 := xx12.set3 (.slice a12 (l ++ l').length k12)
          have xa13 := xa12.other (b' := w8.heap.size) (o := 3) (u := .slice a12 (l ++ l').length k12) (by omega)
          have B13 := B12.setCell (p := ⟨w8.heap.size, 3, none⟩) B8.size (.slice a12 (l ++ l').length k12)
          have r13 := r12.setOther (b := w8.heap.size) (o := 3) (u := .slice a12 (l ++ l').length k12) (by omega)
          have hs13 : (w12.setCell ⟨w8.heap.size, 3, none⟩ (.slice a12 (l ++ l').length k12)).heap.size = w12.heap.size := by simp
          rw [hw13] at xx13 xa13 B13 r13 hs13
          obtain ⟨a13, k13, e13, hsl13⟩ := r13.isLn
          cases e13
          have hCk := check_any ca cc c r en pe a12 k12 (l ++ l') w13 (hc.below B13) hsl13
          rw [ent_join Hbad.out Hbad'.out h3, enE_zero] at hCk
          have HCk : Hid (Calls _ _ _ _ _) := hCk
          have gx0 := xx13.c0
          have gx1 := xx13.c1
          have gx2 := xx13.c2
          have gx3 := xx13.c3
          generalize (l ++ l').length = m12 at *
          clear r12 r13 hgrow hown hg12 xx12 xa12 B12 Hr11 hsl12 hsl13 hCk xx11 xa11 xb11 B11
          go_wp2_with fail
          refine HCk.out.mono ?_
          rintro e w14 ⟨rfl, b14⟩
          have B14 := B13.trans (b14.mono B13.size)
          have xa14 := xa13.below b14 (by omega)
          have hs14 := b14.size
          clear HCk b14 B13 xa13 gx0 gx1 gx2 gx3 xx13 hw13 dx3 fx3
          have ca0 := xa14.c0
          have ca1 := xa14.c1
          have ca2 := xa14.c2
          have ca3 := xa14.c3
          have hsl14 : IsLn w (some ⟨b, off, none⟩) l cap := ⟨by have := hcl; exact h.cap, .inr ⟨b, off, rfl, hbl, hcl⟩⟩
          have hRv := rev_ok r ⟨#[114]⟩ en pe (some ⟨b, off, none⟩) cap l w14 (hsl14.below B14) (by unfold revBad; rw [ref_r, if_neg (by simp)]; exact entBad_few Hbad.out)
          obtain ⟨lt, hlt⟩ : ∃ lt, l.map turnL = lt := ⟨_, rfl⟩
          have Hml : Hid (lt.length = l.length) := by unfold Hid; rw [← hlt, List.length_map]
          rw [hlt] at hRv
          have Hlt : Hid (l.map turnL = lt) := hlt
          have HRv : Hid (Calls _ _ _ _ _) := hRv
          clear hRv hlt
          go_wp2_with fail
          refine HRv.out.mono ?_
          rintro e w15 ⟨v15, rfl, r15, b15⟩
          obtain ⟨a15, k15, rfl, hsl15⟩ := r15.isLn
          have B15 := B14.trans (b15.mono B14.size)
          have xa15 := xa14.below b15 (by omega)
          have hs15 := b15.size
          rcases hsl15.lies with h0 | ⟨b2, off2, rfl, hbl2, hcl2⟩
          · have hml := Hml.out; rw [h0] at hml; simp at hml; omega
          have xr16 := (Box4.new w15 ⟨#[114]⟩ en pe (.slice (some ⟨b2, off2, none⟩) lt.length k15)).alloc (.cells #[.string r, .int .i64 en, .int .i64 pe, .slice none 0 0] 25)
          have xy16 := Box4.new (w15.alloc (.cells #[.string ⟨#[114]⟩, .int .i64 en, .int .i64 pe, .slice (some ⟨b2, off2, none⟩) lt.length k15] 25)) r en pe (.slice none 0 0)
          have xa16 := (xa15.alloc (.cells #[.string ⟨#[114]⟩, .int .i64 en, .int .i64 pe, .slice (some ⟨b2, off2, none⟩) lt.length k15] 25)).alloc (.cells #[.string r, .int .i64 en, .int .i64 pe, .slice none 0 0] 25)
          have xa15' := xa15.alloc (.cells #[.string ⟨#[114]⟩, .int .i64 en, .int .i64 pe, .slice (some ⟨b2, off2, none⟩) lt.length k15] 25)
          have hs16 : ((w15.alloc (.cells #[.string ⟨#[114]⟩, .int .i64 en, .int .i64 pe, .slice (some ⟨b2, off2, none⟩) lt.length k15] 25)).alloc (.cells #[.string r, .int .i64 en, .int .i64 pe, .slice none 0 0] 25)).heap.size = w15.heap.size + 2 := by simp
          have b16 : Below w15.heap.size w15 ((w15.alloc (.cells #[.string ⟨#[114]⟩, .int .i64 en, .int .i64 pe, .slice (some ⟨b2, off2, none⟩) lt.length k15] 25)).alloc (.cells #[.string r, .int .i64 en, .int .i64 pe, .slice none 0 0] 25)) := ((Below.refl _ w15).alloc (Nat.le_refl _) _).alloc (by simp) _
          rw [World.size_alloc] at xy16
          have B16 := B15.trans (b16.mono B15.size)
          have da0 := xa15'.c0
          have da1 := xa15'.c1
          have da2 := xa15'.c2
          have da3 := xa15'.c3
          have ea3 := xa16.c3
          obtain ⟨w17, hw17⟩ : ∃ w17, (w15.alloc (.cells #[.string ⟨#[114]⟩, .int .i64 en, .int .i64 pe, .slice (some ⟨b2, off2, none⟩) lt.length k15] 25)).alloc (.cells #[.string r, .int .i64 en, .int .i64 pe, .slice none 0 0] 25) = w17 := ⟨_, rfl⟩
          have ey3 := xy16.c3
          have HS17 : Hid _ := lns_src (l := l) (fun k hk => (hcl k hk).below B16 hbl)
          have Hm3 : Hid (w15.heap.size + 2 ≤ ((w15.alloc (.cells #[.string ⟨#[114]⟩, .int .i64 en, .int .i64 pe, .slice (some ⟨b2, off2, none⟩) lt.length k15] 25)).alloc (.cells #[.string r, .int .i64 en, .int .i64 pe, .slice none 0 0] 25)).heap.size) := by unfold Hid; rw [hs16]; exact Nat.le_refl _
          rw [hw17] at xr16 xy16 xa16 hs16 b16 B16
          have Hw17 : Hid (_ = w17) := hw17
          clear hw17
          have Hc2 : Hid (LnsAt w15 b2 off2 lt) := hcl2
          have Hm1 : Hid (0 + l.length ≤ maxLen) := by unfold Hid maxLen; omega
          have Hm2 : Hid ((0 + l.length) * 40 ≤ 140737488355328) := by unfold Hid; omega
          clear HRv r15 b15 hsl15 hcl2 B14 xa14 xa15
          clear ca0 ca1 ca2 ca3
          go_wp2_with (at_builtin; refine wpList_append_own _ rfl _ _ 23 rfl (w15.heap.size + 2) 31 i0 (.agg #[.string ByteArray.empty, .string ByteArray.empty, .int .i64 0]) 3 40 Try.underlying23 hi hz0 hz1 hz2 rfl (by decide) _ _ _ rfl (World.ownsRow_nil _ _ _ _) ⟨b, off, none⟩ l.length cap (lnRow l) rfl (lnRow_length l) HS17.out (lnRow_one_cell l) Hm1.out Hm2.out Hm3.out ?_)
          intro v18 w18 hown hgrow _
          have r18 : LnRow w18 (w15.heap.size + 2) v18 l := hown
          obtain ⟨a18, k18, rfl, _⟩ := r18.isLn
          rw [Hw17.out] at hgrow
          have hg18 : Hid (World.grownBy w17 w18 none) := hgrow
          have xy18 := xy16.grown hg18.out (fun j e => by cases e)
          have xr18 := xr16.grown hg18.out (fun j e => by cases e)
          have B18 := B16.grown hg18.out B16.size (fun j e => by cases e)
          have b18 := b16.grown hg18.out b16.size (fun j e => by cases e)
          have hs18 := hg18.out.size
          have dx3 := xy18.c3
          have fx3 := xy18.fz 3
          obtain ⟨w19, hw19⟩ : ∃ w19, w18.setCell ⟨w15.heap.size + 1, 3, none⟩ (.slice a18 l.length k18) = w19 := ⟨_, rfl⟩
          have xy19 := xy18.set3 (.slice a18 l.length k18)
          have xr19 := xr18.other (b' := w15.heap.size + 1) (o := 3) (u := .slice a18 l.length k18) (by omega)
          have B19 := B18.setCell (p := ⟨w15.heap.size + 1, 3, none⟩) (by simp only; omega) (.slice a18 l.length k18)
          have b19 := b18.setCell (p := ⟨w15.heap.size + 1, 3, none⟩) (by simp only; omega) (.slice a18 l.length k18)
          have r19 := r18.setOther (b := w15.heap.size + 1) (o := 3) (u := .slice a18 l.length k18) (by omega)
          have hs19 : (w18.setCell ⟨w15.heap.size + 1, 3, none⟩ (.slice a18 l.length k18)).heap.size = w18.heap.size := by simp
          rw [hw19] at xy19 xr19 B19 b19 r19 hs19
          have db3 := xr19.c3
          have dy3 := xy19.c3
          have HS19 : Hid _ := lns_src (l := lt) (fun k hk => (Hc2.out k hk).below b19 hbl2)
          have Hm1 : Hid (l.length + lt.length ≤ maxLen) := by unfold Hid maxLen; rw [Hml.out]; omega
          have Hm2 : Hid ((l.length + lt.length) * 40 ≤ 140737488355328) := by unfold Hid; rw [Hml.out]; omega
          have Hm3 : Hid (w15.heap.size + 2 ≤ w19.heap.size) := by unfold Hid; omega
          have Hr19 : Hid (LnRow _ _ _ _) := r19
          clear r18 r19 hgrow hown hg18 xy18 xr18 B18 b18 HS17 da0 da1 da2 da3 ea3 ey3 xy16 xr16 xa16 xa15' b16 B16 Hw17
          go_wp2_with (at_builtin; refine wpList_append_own _ rfl _ _ 23 rfl (w15.heap.size + 2) 31 i0 (.agg #[.string ByteArray.empty, .string ByteArray.empty, .int .i64 0]) 3 40 Try.underlying23 hi hz0 hz1 hz2 rfl (by decide) _ _ _ rfl Hr19.out ⟨b2, off2, none⟩ lt.length k15 (lnRow lt) rfl (lnRow_length lt) HS19.out (lnRow_one_cell lt) Hm1.out Hm2.out Hm3.out ?_)
          intro v20 w20 hown hgrow _
          clear hw19 dx3 fx3 db3 dy3 HS19
          rw [← lnRow_append, ← List.length_append] at hown
          have r20 : LnRow w20 (w15.heap.size + 2) v20 (l ++ lt) := hown
          obtain ⟨a20, k20, rfl, _⟩ := r20.isLn
          have hgj := Hr19.out.own
          have hg20 : Hid (World.grownBy w19 w20 _) := hgrow
          have xy20 := xy19.grown hg20.out (fun j e => by have := hgj j e; omega)
          have B20 := B19.grown hg20.out B19.size (fun j e => by have := hgj j e; omega)
          have hs20 := hg20.out.size
          have dx3 := xy20.c3
          have fx3 := xy20.fz 3
          obtain ⟨w21, hw21⟩ : ∃ w21, w20.setCell ⟨w15.heap.size + 1, 3, none⟩ (.slice a20 (l ++ lt).length k20) = w21 := ⟨_, rfl⟩
          have xy21 := xy20.set3 (.slice a20 (l ++ lt).length k20)
          have B21 := B20.setCell (p := ⟨w15.heap.size + 1, 3, none⟩) (by simp only; omega) (.slice a20 (l ++ lt).length k20)
          have r21 := r20.setOther (b := w15.heap.size + 1) (o := 3) (u := .slice a20 (l ++ lt).length k20) (by omega)
          have hs21 : (w20.setCell ⟨w15.heap.size + 1, 3, none⟩ (.slice a20 (l ++ lt).length k20)).heap.size = w20.heap.size := by simp
          rw [hw21] at xy21 B21 r21 hs21
          obtain ⟨a21, k21, e21, hsl21⟩ := r21.isLn
          cases e21
          have hNt := net_ok r en pe a20 k20 (l ++ lt) w21 hsl21 (by rw [← Hlt.out]; exact fewBad_double (entBad_few Hbad.out) h4)
          have hz : netL (l ++ lt) = [] := by rw [← Hlt.out]; exact net_twice l
          rw [hz] at hNt
          have HNt : Hid (Calls _ _ _ _ _) := hNt
          have gx0 := xy21.c0
          have gx1 := xy21.c1
          have gx2 := xy21.c2
          have gx3 := xy21.c3
          generalize (l ++ lt).length = m20 at *
          clear r20 r21 hgrow hown hg20 xy20 B20 Hr19 hsl21 hNt hz xy19 xr19 B19 b19
          go_wp2_with fail
          refine HNt.out.mono ?_
          rintro e w22 ⟨v22, rfl, r22, b22⟩
          obtain ⟨a22, k22, rfl, _⟩ := r22.isLn
          have B22 := B21.trans (b22.mono B21.size)
          clear HNt r22 b22 B21 gx0 gx1 gx2 gx3 xy21 hw21 dx3 fx3
          simp only [List.length_nil]
          have B23 := B22.alloc B22.size (.cells #[.string r, .int .i64 en, .int .i64 pe, .slice a22 0 k22] 25)
          go_wp2
          go_ret
          exact ⟨rfl, B23⟩
        · have i3 : ¬ (20 : Int) < (l.length : Int) + l'.length := by omega
          have i4 : (20 : Int) < 2 * (l.length : Int) := by omega
          have i5 : (l.length : Int) ≤ 20 := by omega
          go_wp2
          go_ret
          exact ⟨rfl, B8⟩
      · have hl1 := (headBad_len (entBad_zero.1 Hbad.out).2.1).2
        have hl2 := (headBad_len (entBad_zero.1 Hbad'.out).2.1).2
        have i3 : (20 : Int) < (l.length : Int) + l'.length := by omega
        have i4 : (l.length : Int) ≤ 20 := by omega
        have i5 : (l'.length : Int) ≤ 20 := by omega
        go_wp2
        go_ret
        exact ⟨rfl, B8⟩
    · subst h1
      rw [enE_zero] at hev
      subst hev
      rw [enE_ne h2] at hev'
      subst hev'
      go_wp2
      go_ret
      exact ⟨rfl, B8⟩
  · rw [enE_ne h1] at hev
    subst hev
    go_wp2
    go_ret
    exact ⟨rfl, B8⟩
end Go.Proofs.Ytlkanijhhehkeaa
