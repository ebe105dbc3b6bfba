/-
  A journal in memory: its entries, and the map of their refs.
-/
import Derived.Test.YtpohlhejeaafdaaGreatDoorZj8
import Derived.Test.YtpohlhejeaafdaaGreatDoorZj4
import Derived.MapKept
import Derived.Deep.AppendLies
namespace Go.Proofs.YtpohlhejeaafdaaGreatDoor
set_option linter.unusedVariables false
set_option linter.unusedSimpArgs false
set_option maxRecDepth 100000
open Go.RowKit Go.Lib

/-- A line of something. -/
def someL (x : Ln) : Bool := !nullL x
theorem check1_any (x : Ln) (w : World) :
    Calls Tryz.prog 46 #[.agg x.cells] w fun e w' => e = .returned (.bool (someL x)) ∧ Below w.heap.size w w' := by
  obtain ⟨a0, a1, a2⟩ := x
  have b0 : Below w.heap.size w (w.alloc (.cells #[.string a0, .string a1, .int .i64 a2] 44)) := (Below.refl _ w).alloc (Nat.le_refl _) _
  simp only [Ln.cells, someL, nullL]
  by_cases h : a2 = 0
  · rw [decide_eq_true h]
    subst h
    go_enter Tryz.func46, Tryz.ntmps46
    go_wp2
    go_ret
    exact ⟨rfl, b0⟩
  · rw [decide_eq_false h]
    have h' : (a2 != 0) = true := by simpa using h
    go_enter Tryz.func46, Tryz.ntmps46
    go_wp2
    go_ret
    exact ⟨rfl, b0⟩
theorem check1_tells : LTells 46 someL :=
  ⟨fun args W => en_enters Tryz.func46 (by kernel_rfl) ⟨_, rfl⟩ args W, check1_any⟩

/-- What is wrong with lines, one by one. -/
def linesBad (c : List Ac) : List Ln → Int
  | [] => 0
  | x :: r => if lnBad c x ≠ 0 then lnBad c x else linesBad c r
/-- What is wrong with an entry. -/
def entBad (c : List Ac) (r : ByteArray) (en pe : Int) (l : List Ln) : Int :=
  if chBad c ≠ 0 then chBad c else if headBad r en pe l.length ≠ 0 then headBad r en pe l.length else if linesBad c l ≠ 0 then linesBad c l else if (curSums l).any someL = true then 11 else 0

theorem linesBad_zero {c : List Ac} : ∀ {l : List Ln}, linesBad c l = 0 → ∀ x ∈ l, lnBad c x = 0
  | [], _, x, hx => by simp at hx
  | y :: l, h, x, hx => by
    rw [linesBad] at h
    split at h
    · rename_i hy; exact absurd h hy
    · rename_i hy
      rcases List.mem_cons.1 hx with rfl | hx
      · exact Classical.not_not.1 hy
      · exact linesBad_zero h x hx
theorem linesBad_of {c : List Ac} : ∀ {l : List Ln}, (∀ x ∈ l, lnBad c x = 0) → linesBad c l = 0
  | [], _ => rfl
  | y :: l, h => by
    rw [linesBad, if_neg (by rw [h y (by simp)]; simp)]
    exact linesBad_of (fun x hx => h x (by simp [hx]))
theorem lnBad_amt {c : List Ac} {x : Ln} (h : lnBad c x = 0) : -mostA ≤ x.amt ∧ x.amt ≤ mostA := by
  unfold lnBad at h
  split at h
  · omega
  · split at h
    · omega
    · split at h
      · omega
      · split at h
        · omega
        · rename_i hh
          simp only [not_or] at hh
          exact isAmtB_iff.1 (by simpa using hh.2)
theorem headBad_len {r : ByteArray} {en pe : Int} {n : Nat} (h : headBad r en pe n = 0) : 2 ≤ n ∧ n ≤ 20 := by
  unfold headBad at h
  split at h
  · omega
  · split at h
    · omega
    · split at h
      · omega
      · split at h
        · omega
        · omega

set_option maxHeartbeats 4000000 in
theorem check_any (ca : Option Addr) (cc : Nat) (c : List Ac) (r : ByteArray) (en pe : Int) (a : Option Addr) (cap : Nat) (l : List Ln) (w : World) (hc : IsSl w ca c cc) (h : IsLn w a l cap) :
    Calls Tryz.prog 27 #[.slice ca c.length cc, .agg #[.string r, .int .i64 en, .int .i64 pe, .slice a l.length cap]] w fun e w' => e = .returned (enE (entBad c r en pe l)) ∧ Below w.heap.size w w' := by
  have b0 : Below w.heap.size w (w.alloc (.cells #[.string r, .int .i64 en, .int .i64 pe, .slice a l.length cap] 29)) := (Below.refl _ w).alloc (Nat.le_refl _) _
  have x0 := Box4.new w r en pe (.slice a l.length cap)
  have hs0 : (w.alloc (.cells #[.string r, .int .i64 en, .int .i64 pe, .slice a l.length cap] 29)).heap.size = w.heap.size + 1 := by simp
  obtain ⟨res, hres⟩ : ∃ res, entBad c r en pe l = res := ⟨_, rfl⟩
  rw [hres]
  have Hres : Hid (entBad c r en pe l = res) := hres
  clear hres
  by_cases h1 : chBad c = 0
  · have hL := leafCheck_ok ca cc c _ (hc.below b0) h1
    have HL : Hid (Calls _ _ _ _ _) := hL
    have hlen := chBad_len h1
    have HH : Hid (∀ W, Calls Tryz.prog 42 #[.agg #[.string r, .int .i64 en, .int .i64 pe, .slice a l.length cap]] W fun e w' => e = .returned (enE (headBad r en pe l.length)) ∧ Below W.heap.size W w') := fun W => checkHead_any r en pe a cap l.length W
    go_enter Tryz.func27, Tryz.ntmps27
    go_wp2_with fail
    refine HL.out.mono ?_
    rintro e w1 ⟨F1, F2, rfl, tr1, hb1⟩
    rw [hs0] at hb1
    have B1 := b0.trans (hb1.mono (by omega))
    have hs1 := hb1.size
    rw [hs0] at hs1
    have y1 := x0.below hb1 (by omega)
    have c0 := y1.c0
    have c1 := y1.c1
    have c2 := y1.c2
    have c3 := y1.c3
    have HHo := HH.out w1
    have HHH : Hid (Calls _ _ _ _ _) := HHo
    clear HL hL hb1 b0 x0 HHo HH
    by_cases h2 : headBad r en pe l.length = 0
    · rw [h2, enE_zero] at HHH
      go_wp2_with fail
      refine HHH.out.mono ?_
      rintro e w2 ⟨rfl, hb2⟩
      have B2 := B1.trans (hb2.mono (by omega))
      have hs2 := hb2.size
      have y2 := y1.below hb2 (by omega)
      have tr2 := tr1.below hb2
      clear y1 c0 c1 c2 c3 HHH tr1
      have c3 := y2.c3
      have hll := headBad_len h2
      have Hlen : (l.length : Int) ≤ 20 := by omega
      have ER : Hid (res = if linesBad c l ≠ 0 then linesBad c l else if (curSums l).any someL = true then 11 else 0) := by
        unfold Hid
        rw [← Hres.out]
        unfold entBad
        rw [if_neg (by simp [h1]), if_neg (by simp [h2])]
      rcases h.lies with h0 | ⟨b, off, rfl, hbl, hcl⟩
      · rw [h0] at hll; simp at hll
      have Hc : Hid (LnsAt w b off l) := hcl
      have Hsl : Hid (IsLn w (some ⟨b, off, none⟩) l cap) := h
      have HK : Hid (∀ x W, Below w2.heap.size w2 W → Calls Tryz.prog 43 #[.agg x.cells, .func (.func 56) #[] #[.pointer (some ⟨F1, 0, none⟩), .pointer (some ⟨F2, 0, none⟩)]] W fun e w' => e = .returned (enE (lnBad c x)) ∧ Below W.heap.size W w') := fun x W hW => checkLine_any c F1 F2 x W (tr2.below hW)
      clear Hres hcl h hc h2 h1 tr2
      go_wp2
      go_loopw [27] (fun i wr => ∃ k : Nat, k ≤ l.length ∧ i = .int .i64 k ∧ Hid (res = if linesBad c (l.drop k) ≠ 0 then linesBad c (l.drop k) else if (curSums l).any someL = true then 11 else 0) ∧ Hid (∀ x ∈ l.take k, lnBad c x = 0) ∧ Below w2.heap.size w2 wr) (fun i _ => l.length - (RowKit.intOf i).toNat)
      case atStart => exact ⟨0, Nat.zero_le _, rfl, ER, (fun x hx => by simp at hx), Below.refl _ _⟩
      case round =>
        obtain ⟨k, hk, rfl, H, HA, BW⟩ := hrel
        have hws := BW.size
        have B3 := B2.trans (BW.mono (by omega))
        by_cases hlt : k < l.length
        · have hn := (Hc.out k hlt).below B3 hbl
          have E := H.out
          rw [lns_drop l k hlt, linesBad] at E
          have B4 := BW.alloc (by omega) (.cells (l.getD k ln0).cells 44)
          have hcall := HK.out (l.getD k ln0) _ B4
          have HA2 : Hid (lnBad c (l.getD k ln0) = 0 → ∀ x ∈ l.take (k + 1), lnBad c x = 0) := fun h0 x hx => by
            rw [lns_take l k hlt] at hx
            rcases List.mem_append.1 hx with hx | hx
            · exact HA.out x hx
            · rw [List.mem_singleton.1 hx]; exact h0
          generalize l.getD k ln0 = x at *
          have Hcall : Hid (Calls _ _ _ _ _) := hcall
          have HE : Hid (res = _) := E
          clear hcall E H HA
          obtain ⟨x0, x1, x2⟩ := x
          obtain ⟨c0, c1, c2⟩ := hn
          simp only [Ln.cells] at c0 c1 c2 B4 Hcall
          have j0 : (0 : Int) ≤ k := by omega
          have j1 : (k : Int) < l.length := by omega
          by_cases hb : lnBad c ⟨x0, x1, x2⟩ = 0
          · have HE2 : Hid (res = if linesBad c (l.drop (k + 1)) ≠ 0 then linesBad c (l.drop (k + 1)) else if (curSums l).any someL = true then 11 else 0) := by
              have := HE.out
              rw [if_neg (by rw [hb]; simp : ¬ lnBad c ⟨x0, x1, x2⟩ ≠ 0)] at this
              exact this
            have HA3 : Hid _ := HA2.out hb
            rw [hb, enE_zero] at Hcall
            clear HE HA2 hb
            go_wp2_with fail
            refine Hcall.out.mono ?_
            rintro e w3 ⟨rfl, hb3⟩
            have B5 := B4.trans (hb3.mono (by simp; omega))
            clear Hcall hb3 B4 c0 c1 c2
            go_wp2
            go_roundw
            case rel => exact ⟨k + 1, by omega, by go_num, HE2, HA3, B5⟩
            case measure => simp [RowKit.intOf]; omega
          · have er : res = lnBad c ⟨x0, x1, x2⟩ := by
              have := HE.out
              rw [if_pos hb, if_pos hb] at this
              exact this
            rw [← er] at hb Hcall
            rw [enE_ne hb] at Hcall
            clear HE HA2 er
            go_wp2_with fail
            refine Hcall.out.mono ?_
            rintro e w3 ⟨rfl, hb3⟩
            have B5 := B2.trans ((B4.trans (hb3.mono (by simp; omega))).mono (by omega))
            clear Hcall hb3 B4 c0 c1 c2
            go_wp2
            go_ret
            exact ⟨by rw [enE_ne hb]; rfl, B5⟩
        · have hk2 : k = l.length := by omega
          subst hk2
          have E := H.out
          rw [List.drop_length] at E
          have HE : Hid (res = if (curSums l).any someL = true then 11 else 0) := E
          have hw : Within mostA l := fun x hx => lnBad_amt (HA.out x (by rw [List.take_length]; exact hx))
          have hO := ofCurrencies_any (some ⟨b, off, none⟩) cap l wr hll.2 hw (Hsl.out.below B3)
          have HO : Hid (Calls _ _ _ _ _) := hO
          have c3' := (y2.below BW (by omega)).c3
          have HCF : Hid (∀ v W, LnRow W wr.heap.size v (curSums l) → Calls Tryz.prog 44 #[v, .func (.func 46) #[] #[]] W fun e w' => e = .returned (.bool ((curSums l).any someL)) ∧ Below W.heap.size W w') := fun v W hr => by
            obtain ⟨a', k', rfl, hsl'⟩ := hr.isLn
            exact lnContains_any _ someL a' k' (curSums l) W check1_tells (by have := grp_length (l.map bareL); rw [List.length_map] at this; unfold curSums; omega) hsl'
          clear hO hw E H HA HK ER Hc Hsl
          go_wp2_with fail
          refine HO.out.mono ?_
          rintro e w3 ⟨v3, rfl, r3, b3⟩
          have hC := HCF.out v3 w3 r3
          have B4 := B3.trans (b3.mono (by omega))
          have hs4 := b3.size
          have HC : Hid (Calls _ _ _ _ _) := hC
          clear HO HCF r3 b3 hC c3'
          cases hq : (curSums l).any someL
          · have er : res = 0 := by rw [HE.out, hq]; rfl
            subst er
            rw [hq] at HC
            clear HE hq
            go_wp2_with fail
            refine HC.out.mono ?_
            rintro e w4 ⟨rfl, hb4⟩
            have B5 := B4.trans (hb4.mono (by omega))
            clear HC hb4
            go_wp2
            go_ret
            exact ⟨rfl, B5⟩
          · have er : res = 11 := by rw [HE.out, hq]; rfl
            subst er
            rw [hq] at HC
            clear HE hq
            go_wp2_with fail
            refine HC.out.mono ?_
            rintro e w4 ⟨rfl, hb4⟩
            have B5 := B4.trans (hb4.mono (by omega))
            clear HC hb4
            go_wp2
            go_ret
            exact ⟨rfl, B5⟩
    · have er : res = headBad r en pe l.length := by rw [← Hres.out]; unfold entBad; rw [if_neg (by simp [h1]), if_pos h2]
      rw [← er] at h2 HHH
      rw [enE_ne h2] at HHH
      clear er Hres
      go_wp2_with fail
      refine HHH.out.mono ?_
      rintro e w2 ⟨rfl, hb2⟩
      have B2 := B1.trans (hb2.mono (by omega))
      clear HHH y1 c0 c1 c2 c3
      go_wp2
      go_ret
      exact ⟨by rw [enE_ne h2]; rfl, B2⟩
  · have hL := leafCheck_bad ca cc c _ (hc.below b0) h1
    have er : res = chBad c := by rw [← Hres.out]; unfold entBad; rw [if_pos h1]
    subst er
    rw [enE_ne h1]
    rw [chE_ne h1] at hL
    have HL : Hid (Calls _ _ _ _ _) := hL
    clear hL Hres hc h
    generalize chBad c = bad at *
    go_enter Tryz.func27, Tryz.ntmps27
    go_wp2_with fail
    refine HL.out.mono ?_
    rintro e w1 ⟨rfl, hb1⟩
    have B1 := b0.trans (hb1.mono (by simp))
    clear HL hb1 b0 x0
    go_wp2
    go_ret
    exact ⟨rfl, B1⟩
end Go.Proofs.YtpohlhejeaafdaaGreatDoor

namespace Go.Proofs.YtpohlhejeaafdaaGreatDoor
set_option linter.unusedVariables false
set_option linter.unusedSimpArgs false
open Go.RowKit Go.Lib

/-- The sum of those amounts that are asked for. -/
def tot (p : Ln → Bool) : List Ln → Int
  | [] => 0
  | x :: l => (if p x = true then x.amt else 0) + tot p l
/-- Only account and currency are asked. -/
def KeyP (p : Ln → Bool) : Prop := ∀ x y, lnEq x y = true → p x = p y

theorem lnEq_refl (x : Ln) : lnEq x x = true := lnEq_iff.2 ⟨rfl, rfl⟩
theorem lnEq_symm {x y : Ln} (h : lnEq x y = true) : lnEq y x = true := by
  obtain ⟨h1, h2⟩ := lnEq_iff.1 h
  exact lnEq_iff.2 ⟨h1.symm, h2.symm⟩
theorem keyP_eq (x : Ln) : KeyP (lnEq x) := fun a b h => by
  obtain ⟨h1, h2⟩ := lnEq_iff.1 h
  unfold lnEq
  rw [h1, h2]

theorem tot_append (p : Ln → Bool) : ∀ l m : List Ln, tot p (l ++ m) = tot p l + tot p m
  | [], m => by simp [tot]
  | x :: l, m => by
    rw [List.cons_append, tot, tot, tot_append p l m]
    omega
theorem tot_ins {p : Ln → Bool} (hp : KeyP p) (x : Ln) : ∀ l : List Ln, tot p (insL x l) = tot p l + (if p x = true then x.amt else 0)
  | [] => by simp [insL, tot]
  | y :: l => by
    rw [insL]
    split
    · rw [tot, tot, tot_ins hp x l]; omega
    · split
      · rename_i h1 h2
        rw [tot, tot]
        have e1 : p ⟨y.acc, y.cur, y.amt + x.amt⟩ = p y := hp _ _ (lnEq_iff.2 ⟨rfl, rfl⟩)
        have e2 : p x = p y := (hp _ _ h2).symm
        rw [e1, e2]
        split
        · simp only; omega
        · omega
      · rw [tot, tot]; omega
theorem tot_grp_from {p : Ln → Bool} (hp : KeyP p) : ∀ l r : List Ln, tot p (l.foldl (fun r x => insL x r) r) = tot p r + tot p l
  | [], r => by simp [tot]
  | x :: l, r => by
    rw [List.foldl_cons, tot_grp_from hp l, tot_ins hp, tot]
    omega
theorem tot_grp {p : Ln → Bool} (hp : KeyP p) (l : List Ln) : tot p (grp l) = tot p l := by
  have := tot_grp_from hp l []
  simpa [grp, tot] using this
theorem tot_turn {p : Ln → Bool} (hp : KeyP p) : ∀ l : List Ln, tot p (l.map turnL) = -tot p l
  | [] => rfl
  | x :: l => by
    rw [List.map_cons, tot, tot, tot_turn hp l]
    have e : p (turnL x) = p x := hp _ _ (lnEq_iff.2 ⟨rfl, rfl⟩)
    rw [e]
    simp only [turnL]
    split <;> omega
theorem tot_none {p : Ln → Bool} : ∀ {l : List Ln}, (∀ x ∈ l, p x = false) → tot p l = 0
  | [], _ => rfl
  | x :: l, h => by
    rw [tot, tot_none (fun y hy => h y (by simp [hy])), h x (by simp)]
    rfl
theorem tot_null (p : Ln → Bool) : ∀ {l : List Ln}, (∀ x ∈ l, x.amt = 0) → tot p l = 0
  | [], _ => rfl
  | x :: l, h => by
    rw [tot, tot_null p (fun y hy => h y (by simp [hy])), h x (by simp)]
    simp
theorem tot_sort : ∀ {l : List Ln}, SortL l → ∀ y ∈ l, tot (lnEq y) l = y.amt
  | [], _, y, hy => by simp at hy
  | z :: l, h, y, hy => by
    have h1 : ∀ x ∈ l, lnLt z x = true := (List.pairwise_cons.1 h).1
    have h2 : SortL l := (List.pairwise_cons.1 h).2
    rw [tot]
    rcases List.mem_cons.1 hy with rfl | hy
    · rw [if_pos (lnEq_refl _), tot_none (fun x hx => ?_)]
      · omega
      · cases hh : lnEq y x
        · rfl
        · have := h1 x hx
          rw [lnLt_eq hh] at this
          cases this
    · have : lnEq y z = false := by
        cases hh : lnEq y z
        · rfl
        · have := h1 y hy
          rw [lnLt_eq (lnEq_symm hh)] at this
          cases this
      rw [this, tot_sort h2 y hy]
      simp
/-- What is alike together is nothing if, and only if, each sum is. -/
theorem grp_null {l : List Ln} : (∀ y ∈ grp l, y.amt = 0) ↔ ∀ p, KeyP p → tot p l = 0 := by
  constructor
  · intro h p hp
    rw [← tot_grp hp l]
    exact tot_null p h
  · intro h y hy
    rw [← tot_sort (grp_sort l) y hy, tot_grp (keyP_eq y)]
    exact h _ (keyP_eq y)
/-- Each currency's sum is nothing. -/
def evenL (l : List Ln) : Prop := ∀ p, KeyP p → tot p (l.map bareL) = 0
theorem even_iff {l : List Ln} : ((curSums l).any fun x => !nullL x) = false ↔ evenL l := by
  unfold evenL
  rw [← grp_null, List.any_eq_false]
  unfold curSums
  constructor
  · intro h y hy
    have := h y hy
    simpa [nullL] using this
  · intro h y hy
    have := h y hy
    simp [nullL, this]
theorem even_append {l m : List Ln} (h1 : evenL l) (h2 : evenL m) : evenL (l ++ m) := fun p hp => by
  rw [List.map_append, tot_append, h1 p hp, h2 p hp]
  rfl
theorem bare_turn (l : List Ln) : (l.map turnL).map bareL = (l.map bareL).map turnL := by
  rw [List.map_map, List.map_map]
  rfl
theorem even_turn {l : List Ln} (h : evenL l) : evenL (l.map turnL) := fun p hp => by
  rw [bare_turn, tot_turn hp, h p hp]
  rfl
end Go.Proofs.YtpohlhejeaafdaaGreatDoor

namespace Go.Proofs.YtpohlhejeaafdaaGreatDoor
set_option linter.unusedVariables false
set_option linter.unusedSimpArgs false
open Go.RowKit Go.Lib

theorem entBad_zero {c : List Ac} {r : ByteArray} {en pe : Int} {l : List Ln} : entBad c r en pe l = 0 ↔ chBad c = 0 ∧ headBad r en pe l.length = 0 ∧ linesBad c l = 0 ∧ evenL l := by
  rw [← even_iff]
  unfold entBad
  constructor
  · intro h
    split at h
    · rename_i h1; exact absurd h h1
    · rename_i h1
      split at h
      · rename_i h2; exact absurd h h2
      · rename_i h2
        split at h
        · rename_i h3; exact absurd h h3
        · rename_i h3
          split at h
          · omega
          · rename_i h4
            exact ⟨Classical.not_not.1 h1, Classical.not_not.1 h2, Classical.not_not.1 h3, by simpa [someL] using h4⟩
  · rintro ⟨h1, h2, h3, h4⟩
    rw [if_neg (by simp [h1]), if_neg (by simp [h2]), if_neg (by simp [h3]), if_neg]
    show ¬ ((curSums l).any fun x => !nullL x) = true
    rw [h4]
    simp
theorem entBad_few {c : List Ac} {r : ByteArray} {en pe : Int} {l : List Ln} (h : entBad c r en pe l = 0) : fewBad l = 0 := by
  obtain ⟨_, h2, h3, _⟩ := entBad_zero.1 h
  exact fewBad_of (headBad_len h2).2 (fun x hx => lnBad_amt (linesBad_zero h3 x hx))
theorem headBad_more {r : ByteArray} {en pe : Int} {n m : Nat} (h : headBad r en pe n = 0) (h1 : n ≤ m) (h2 : m ≤ 20) : headBad r en pe m = 0 := by
  have := headBad_len h
  unfold headBad at *
  split at h
  · omega
  · split at h
    · omega
    · rename_i a b
      rw [if_neg a, if_neg b, if_neg (by omega), if_neg (by omega)]
theorem ent_join {c : List Ac} {r r' : ByteArray} {en pe en' pe' : Int} {l m : List Ln} (h1 : entBad c r en pe l = 0) (h2 : entBad c r' en' pe' m = 0) (hl : l.length + m.length ≤ 20) : entBad c r en pe (l ++ m) = 0 := by
  obtain ⟨a1, a2, a3, a4⟩ := entBad_zero.1 h1
  obtain ⟨_, _, b3, b4⟩ := entBad_zero.1 h2
  refine entBad_zero.2 ⟨a1, headBad_more a2 (by simp) (by simpa using hl), linesBad_of (fun x hx => ?_), even_append a4 b4⟩
  rcases List.mem_append.1 hx with hx | hx
  · exact linesBad_zero a3 x hx
  · exact linesBad_zero b3 x hx
theorem fewBad_double {l : List Ln} (h : fewBad l = 0) (hl : 2 * l.length ≤ 20) : fewBad (l ++ l.map turnL) = 0 := by
  obtain ⟨_, h2⟩ := fewBad_zero h
  refine fewBad_of (by simp; omega) (fun x hx => ?_)
  rcases List.mem_append.1 hx with hx | hx
  · exact h2 x hx
  · obtain ⟨y, hy, rfl⟩ := List.mem_map.1 hx
    have := h2 y hy
    simp only [turnL]
    omega
end Go.Proofs.YtpohlhejeaafdaaGreatDoor

namespace Go.Proofs.YtpohlhejeaafdaaGreatDoor
set_option linter.unusedVariables false
set_option linter.unusedSimpArgs false
set_option maxRecDepth 100000
open Go.RowKit Go.Lib

/-- An entry, with the place of its lines. -/
structure Je where
  ref : ByteArray
  ent : Int
  per : Int
  adr : Option Addr
  cap : Nat
  lns : List Ln
def je0 : Je := ⟨ByteArray.empty, 0, 0, none, 0, []⟩
def Je.cells (x : Je) : Array Value := #[.string x.ref, .int .i64 x.ent, .int .i64 x.per, .slice x.adr x.lns.length x.cap]
theorem Je.cells_length (x : Je) : x.cells.toList.length = 4 := rfl
/-- An entry as it lies in memory. -/
structure JeAt (W : World) (b off : Nat) (x : Je) : Prop where
  c0 : W.cell? ⟨b, off, none⟩ = some (.string x.ref)
  c1 : W.cell? ⟨b, off + 1, none⟩ = some (.int .i64 x.ent)
  c2 : W.cell? ⟨b, off + 2, none⟩ = some (.int .i64 x.per)
  c3 : W.cell? ⟨b, off + 3, none⟩ = some (.slice x.adr x.lns.length x.cap)
theorem JeAt.below {W W' : World} {b off n : Nat} {x : Je} (h : JeAt W b off x) (hb : Below n W W') (hlt : b < n) : JeAt W' b off x :=
  ⟨(hb.cell (p := ⟨b, off, none⟩) hlt).trans h.c0, (hb.cell (p := ⟨b, off + 1, none⟩) hlt).trans h.c1, (hb.cell (p := ⟨b, off + 2, none⟩) hlt).trans h.c2, (hb.cell (p := ⟨b, off + 3, none⟩) hlt).trans h.c3⟩
/-- A slice of entries that is read. -/
structure IsJs (W : World) (a : Option Addr) (L : List Je) (cap : Nat) : Prop where
  cap : L.length ≤ cap
  lies : L = [] ∨ ∃ b off, a = some ⟨b, off, none⟩ ∧ b < W.heap.size ∧ ∀ k, k < L.length → JeAt W b (off + k * 4) (L.getD k je0)
  lns : ∀ x ∈ L, IsLn W x.adr x.lns x.cap
theorem IsJs.below {W W' : World} {a : Option Addr} {L : List Je} {cap : Nat} (h : IsJs W a L cap) (hb : Below W.heap.size W W') : IsJs W' a L cap := by
  refine ⟨h.cap, ?_, fun x hx => (h.lns x hx).below hb⟩
  rcases h.lies with h | ⟨b, off, e, hlt, hc⟩
  · exact .inl h
  · exact .inr ⟨b, off, e, by have := hb.size; omega, fun k hk => (hc k hk).below hb hlt⟩
theorem jes_take (l : List Je) (k : Nat) (h : k < l.length) : l.take (k + 1) = l.take k ++ [l.getD k je0] := by
  rw [List.take_add_one, List.getElem?_eq_getElem h, List.getD_eq_getElem?_getD, List.getElem?_eq_getElem h]
  rfl
theorem jes_drop (l : List Je) (k : Nat) (h : k < l.length) : l.drop k = l.getD k je0 :: l.drop (k + 1) := by
  rw [List.drop_eq_getElem_cons h, List.getD_eq_getElem?_getD, List.getElem?_eq_getElem h]
  rfl
theorem jes_mem (l : List Je) (k : Nat) (h : k < l.length) : l.getD k je0 ∈ l := by
  rw [List.getD_eq_getElem?_getD, List.getElem?_eq_getElem h]
  exact List.getElem_mem h

/-- The cells of entries, one behind the other. -/
def jeRow (l : List Je) : List Value := l.flatMap fun x => x.cells.toList
theorem jeRow_length : ∀ l : List Je, (jeRow l).length = l.length * 4
  | [] => rfl
  | x :: l => by
    have := jeRow_length l
    unfold jeRow at *
    simp only [List.flatMap_cons, List.length_append, Je.cells_length, this, List.length_cons]
    omega
theorem jeRow_append (l m : List Je) : jeRow (l ++ m) = jeRow l ++ jeRow m := by simp [jeRow]
theorem jeRow_one (x : Je) : jeRow [x] = x.cells.toList := by simp [jeRow]
theorem jeRow_get : ∀ (l : List Je) (k j : Nat), k < l.length → j < 4 → (jeRow l)[k * 4 + j]? = (l.getD k je0).cells.toList[j]?
  | [], _, _, h, _ => absurd h (by simp)
  | x :: l, 0, j, _, hj => by
    simp only [jeRow, List.flatMap_cons, Nat.zero_mul, Nat.zero_add, List.getD_cons_zero]
    rw [List.getElem?_append_left (by rw [Je.cells_length]; exact hj)]
  | x :: l, k + 1, j, h, hj => by
    have ih := jeRow_get l k j (by simpa using h) hj
    simp only [jeRow, List.flatMap_cons, List.getD_cons_succ] at ih ⊢
    rw [List.getElem?_append_right (by rw [Je.cells_length]; omega), Je.cells_length, ← ih]
    congr 1
    omega
theorem je_one (x : Je) : ∀ u ∈ x.cells.toList, u.oneCell' = true := by
  intro u hu
  simp [Je.cells] at hu
  rcases hu with rfl | rfl | rfl | rfl <;> rfl
/-- Entries in a row of one's own. -/
def JeRow (W : World) (n : Nat) (v : Value) (l : List Je) : Prop := W.ownsRow n 29 4 v l.length (jeRow l)
theorem JeRow.nil (w : World) (n : Nat) : JeRow w n (.slice none 0 0) [] := World.ownsRow_nil _ _ _ _
theorem JeRow.own {w : World} {n : Nat} {v : Value} {xs : List Je} (h : JeRow w n v xs) : ∀ j, v.ownBlock = some j → n ≤ j := fun j ej => by
  rcases h.2 with ⟨rfl, _⟩ | ⟨g, cp, cur, rfl, hg, _⟩
  · cases ej
  · cases ej; exact hg
theorem JeRow.lt {w : World} {n : Nat} {v : Value} {xs : List Je} (h : JeRow w n v xs) : ∀ j, v.ownBlock = some j → j < w.heap.size := fun j ej => by
  rcases h.2 with ⟨rfl, _⟩ | ⟨g, cp, cur, rfl, hg, hh, _⟩
  · cases ej
  · cases ej; exact (Array.getElem?_eq_some_iff.1 hh).1
theorem JeRow.of {w w' : World} {n : Nat} {v : Value} {l : List Je} (h : JeRow w n v l) (hb : ∀ j, v.ownBlock = some j → w'.heap[j]? = w.heap[j]?) : JeRow w' n v l := by
  rcases h.2 with ⟨hv, hn⟩ | ⟨g1, c1, cur, hv, hb1, hh, r⟩
  · exact ⟨h.1, .inl ⟨hv, hn⟩⟩
  · exact ⟨h.1, .inr ⟨g1, c1, cur, hv, hb1, (hb g1 (by rw [hv]; rfl)).trans hh, r⟩⟩
theorem JeRow.below {w w' : World} {n : Nat} {v : Value} {l : List Je} (h : JeRow w n v l) (hb : Below w.heap.size w w') : JeRow w' n v l := h.of fun j ej => hb.block j (h.lt j ej)
theorem JeRow.lies {W : World} {n : Nat} {v : Value} {l : List Je} (h : JeRow W n v l) :
    ∃ a cap, v = .slice a l.length cap ∧ l.length ≤ cap ∧ (l = [] ∨ ∃ b off, a = some ⟨b, off, none⟩ ∧ b < W.heap.size ∧ ∀ k, k < l.length → JeAt W b (off + k * 4) (l.getD k je0)) := by
  obtain ⟨hlen, ⟨rfl, h0⟩ | ⟨g, cap, cur, rfl, hb, hg, hc, hm, hs, ht⟩⟩ := h
  · have : l = [] := List.eq_nil_of_length_eq_zero h0
    subst this
    exact ⟨none, 0, rfl, Nat.le_refl _, .inl rfl⟩
  · refine ⟨_, cap, rfl, hc, .inr ⟨g, 0, rfl, (Array.getElem?_eq_some_iff.1 hg).1, ?_⟩⟩
    intro k hk
    have C : ∀ j, j < 4 → W.cell? ⟨g, 0 + k * 4 + j, none⟩ = (l.getD k je0).cells.toList[j]? := fun j hj => by
      have e1 : (jeRow l)[k * 4 + j]? = cur[k * 4 + j]? := by
        rw [← ht, List.getElem?_take, if_pos (by omega)]
        simp
      rw [← jeRow_get l k j hk hj, e1]
      simp [World.cell?, hg]
    exact ⟨C 0 (by omega), C 1 (by omega), C 2 (by omega), C 3 (by omega)⟩
theorem je_info : (Tryz.prog.info? 29).map (fun i => (i.zero, i.size, i.bytes)) = some (some (.agg #[.string ByteArray.empty, .int .i64 0, .int .i64 0, .slice none 0 0]), 4, 56) := by kernel_rfl

/-- The map of refs. -/
def SMap (W : World) (bm : Nat) (rs : List ByteArray) : Prop := ∃ es c, W.heap[bm]? = some (.map es c) ∧ es.toList.map (·.key) = rs.map Value.string ∧ ∀ e ∈ es.toList, e.val = .agg #[]
theorem skey_ok (w : World) (x : ByteArray) (b : Bool) : (Instr.checkKey b 10000 9 (.string x)).run Tryz.prog w = .ok () w :=
  MapKept.run_checkKey (k := .string x) Tryz.underlying9 (by simp [MapKept.IsKey]) b 9999
theorem sfind_none : ∀ (es : List MapEntry) (rs : List ByteArray) (s : ByteArray) (i : Nat), es.map (·.key) = rs.map Value.string → s ∉ rs → Instr.findNow .string (.string s) es i = some none
  | [], _, _, _, _, _ => rfl
  | e :: es, [], _, _, h, _ => by simp at h
  | e :: es, r :: rs, s, i, h, hs => by
    simp only [List.map_cons, List.cons.injEq] at h
    simp only [List.mem_cons, not_or] at hs
    unfold Instr.findNow
    have hne : (s == r) = false := by cases hq : (s == r) with | false => rfl | true => exact absurd ((MapKept.bytes_beq s r).1 hq) hs.1
    simp only [h.1, Instr.sameNow, hne]
    exact sfind_none es rs s (i + 1) h.2 hs.2
theorem sfind_some : ∀ (es : List MapEntry) (rs : List ByteArray) (s : ByteArray) (i : Nat), es.map (·.key) = rs.map Value.string → (∀ e ∈ es, e.val = .agg #[]) → s ∈ rs → ∃ j, Instr.findNow .string (.string s) es i = some (some (j, .agg #[]))
  | [], rs, s, _, h, _, hs => by
    have : rs = [] := by simpa using h.symm
    rw [this] at hs; simp at hs
  | e :: es, [], _, _, h, _, _ => by simp at h
  | e :: es, r :: rs, s, i, h, hv, hs => by
    simp only [List.map_cons, List.cons.injEq] at h
    unfold Instr.findNow
    by_cases hq : s = r
    · subst hq
      simp only [h.1, Instr.sameNow, (MapKept.bytes_beq s s).2 rfl]
      exact ⟨i, by rw [hv e (by simp)]⟩
    · have hne : (s == r) = false := by cases hq' : (s == r) with | false => rfl | true => exact absurd ((MapKept.bytes_beq s r).1 hq') hq
      simp only [h.1, Instr.sameNow, hne]
      exact sfind_some es rs s (i + 1) h.2 (fun x hx => hv x (by simp [hx])) (by rcases List.mem_cons.1 hs with e | e; exact absurd e hq; exact e)
/-- Is a text one of some? -/
def isInR (rs : List ByteArray) (s : ByteArray) : Bool := rs.any fun r => r == s
theorem isInR_iff {rs : List ByteArray} {s : ByteArray} : isInR rs s = true ↔ s ∈ rs := by
  unfold isInR
  rw [List.any_eq_true]
  constructor
  · rintro ⟨x, hx, he⟩
    rw [(MapKept.bytes_beq x s).1 he] at hx
    exact hx
  · intro h
    exact ⟨s, h, (MapKept.bytes_beq s s).2 rfl⟩
theorem isInR_not {rs : List ByteArray} {s : ByteArray} : isInR rs s = false ↔ s ∉ rs := by
  rw [← isInR_iff]
  simp
theorem unit_zero (w : World) : (zeroValue 62).run Tryz.prog w = .ok (.agg #[]) w := by kernel_rfl
theorem run_slook {W : World} {bm : Nat} {rs : List ByteArray} (h : SMap W bm rs) (s : ByteArray) : (Instr.lookup 52 (.map (some bm)) (.string s) true).run Tryz.prog W = .ok (.tuple #[.agg #[], .bool (isInR rs s)]) W := by
  obtain ⟨es, c, h1, h2, hv⟩ := h
  by_cases hs : s ∈ rs
  · have hq := isInR_iff.2 hs
    obtain ⟨j, f⟩ := sfind_some es.toList rs s 0 h2 hv hs
    simp [Instr.lookup, run_underlying Tryz.underlying52, MapKept.run_getObj_map h1, skey_ok, MapKept.run_findKey Tryz.underlying9 f, Result.andThen, hq]
  · have hq := isInR_not.2 hs
    have f := sfind_none es.toList rs s 0 h2 hs
    simp [Instr.lookup, run_underlying Tryz.underlying52, MapKept.run_getObj_map h1, skey_ok, MapKept.run_findKey Tryz.underlying9 f, unit_zero, Result.andThen, hq]
theorem run_sput {W : World} {bm : Nat} {rs : List ByteArray} (h : SMap W bm rs) (s : ByteArray) (hs : s ∉ rs) :
    ∃ W', (Instr.mapUpdate 52 (.map (some bm)) (.string s) (.agg #[])).run Tryz.prog W = .ok () W' ∧ SMap W' bm (rs ++ [s]) ∧ W'.os = W.os ∧ W'.tape = W.tape ∧ W'.output = W.output ∧ W'.heap.size = W.heap.size ∧ ∀ b, b ≠ bm → W'.heap[b]? = W.heap[b]? := by
  obtain ⟨es, c, h1, h2, hv⟩ := h
  have hlt : bm < W.heap.size := (Array.getElem?_eq_some_iff.1 h1).1
  have f := sfind_none es.toList rs s 0 h2 hs
  refine ⟨{ W with heap := W.heap.setIfInBounds bm (.map (es.push ⟨.string s, .agg #[], c⟩) (c + 1)) }, ?_, ⟨es.push ⟨.string s, .agg #[], c⟩, c + 1, by simp [hlt], ?_, ?_⟩, rfl, rfl, rfl, by simp, fun b hb => Array.getElem?_setIfInBounds_ne (fun e => hb e.symm)⟩
  · simp [Instr.mapUpdate, run_underlying Tryz.underlying52, MapKept.run_getObj_map h1, skey_ok, MapKept.run_findKey Tryz.underlying9 f, MapKept.run_setObj_map _ h1, Result.andThen]
  · simp [h2]
  · intro e he
    simp only [Array.toList_push, List.mem_append, List.mem_singleton] at he
    rcases he with he | rfl
    · exact hv e he
    · rfl

/-- A journal. -/
structure JAt (W : World) (n0 bj bm : Nat) (v : Value) (es : List Je) : Prop where
  box : W.heap[bj]? = some (.cells #[v, .map (some bm)] 54 (0, 0))
  map : SMap W bm (es.map (·.ref))
  row : JeRow W n0 v es
  lns : ∀ x ∈ es, LnRow W n0 (.slice x.adr x.lns.length x.cap) x.lns
  hj : n0 ≤ bj
  hm : n0 ≤ bm
theorem JAt.c0 {W : World} {n0 bj bm : Nat} {v : Value} {es : List Je} (h : JAt W n0 bj bm v es) : W.cell? ⟨bj, 0, none⟩ = some v := by simp [World.cell?, h.box]
theorem JAt.c1 {W : World} {n0 bj bm : Nat} {v : Value} {es : List Je} (h : JAt W n0 bj bm v es) : W.cell? ⟨bj, 1, none⟩ = some (.map (some bm)) := by simp [World.cell?, h.box]
theorem JAt.fz {W : World} {n0 bj bm : Nat} {v : Value} {es : List Je} (h : JAt W n0 bj bm v es) (i : Nat) : W.frozen? ⟨bj, i, none⟩ = false := by simp [World.frozen?, h.box]
theorem JAt.ltj {W : World} {n0 bj bm : Nat} {v : Value} {es : List Je} (h : JAt W n0 bj bm v es) : bj < W.heap.size := (Array.getElem?_eq_some_iff.1 h.box).1
theorem JAt.ltm {W : World} {n0 bj bm : Nat} {v : Value} {es : List Je} (h : JAt W n0 bj bm v es) : bm < W.heap.size := by
  obtain ⟨_, _, h1, _, _⟩ := h.map
  exact (Array.getElem?_eq_some_iff.1 h1).1
theorem SMap.of {W W' : World} {bm : Nat} {rs : List ByteArray} (h : SMap W bm rs) (hb : W'.heap[bm]? = W.heap[bm]?) : SMap W' bm rs := by
  obtain ⟨es, c, h1, h2⟩ := h
  exact ⟨es, c, hb.trans h1, h2⟩
theorem JAt.below {W W' : World} {n0 bj bm : Nat} {v : Value} {es : List Je} (h : JAt W n0 bj bm v es) (hb : Below W.heap.size W W') : JAt W' n0 bj bm v es :=
  ⟨(hb.block bj h.ltj).trans h.box, h.map.of (hb.block bm h.ltm), h.row.below hb, fun x hx => (h.lns x hx).below hb, h.hj, h.hm⟩
end Go.Proofs.YtpohlhejeaafdaaGreatDoor
