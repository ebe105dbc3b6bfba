/-
  What is given out is given: numbers alone.
-/
import Derived.Test.YtpkopanigeinpaaGreatDoorZv14
import Derived.Test.YtpkopanigeinpaaGreatDoorZv7
import Derived.Laws.AppendOwn
import Derived.Conc.MuLone
import Derived.Test.YtpkopanigeinpaaGreatDoorZv2
import Derived.Lib.Slices
import Derived.Laws.NewBlocks
import Derived.Deep.RegionWith
import Derived.Deep.RegionHeld3
import Derived.Test.YtpkopanigeinpaaGreatDoorZv11
namespace Go.Proofs.YtpkopanigeinpaaGreatDoor
set_option linter.unusedVariables false
set_option linter.unusedSimpArgs false
set_option maxRecDepth 100000
open Go.RowKit Go.Lib

/-- A row of numbers that is one's own, with places to spare. -/
def HRow (w : World) (g cap : Nat) (r : List Int) : Prop := ∃ cur : Array Value, w.heap[g]? = some (.cells cur 3 (0, 0)) ∧ cur.size = cap ∧ r.length ≤ cap ∧ cur.toList.take r.length = r.map (Value.int .i64)
theorem HRow.lt {w : World} {g cap : Nat} {r : List Int} (h : HRow w g cap r) : g < w.heap.size := by
  obtain ⟨cur, h1, _⟩ := h
  exact (Array.getElem?_eq_some_iff.1 h1).1
theorem HRow.le {w : World} {g cap : Nat} {r : List Int} (h : HRow w g cap r) : r.length ≤ cap := by
  obtain ⟨cur, h1, h2, h3, _⟩ := h
  exact h3
theorem HRow.cell {w : World} {g cap : Nat} {r : List Int} (h : HRow w g cap r) {i : Nat} (hi : i < r.length) : w.cell? ⟨g, i, none⟩ = some (.int .i64 (r.getD i 0)) := by
  obtain ⟨cur, h1, h2, h3, h4⟩ := h
  have e : cur[i]? = (r.map (Value.int .i64))[i]? := by
    rw [← h4, List.getElem?_take, if_pos hi]; simp
  simp only [World.cell?, h1]
  rw [e, List.getElem?_map, List.getElem?_eq_getElem hi, List.getD_eq_getElem?_getD, List.getElem?_eq_getElem hi]
  rfl
theorem HRow.frozen {w : World} {g cap : Nat} {r : List Int} (h : HRow w g cap r) (i : Nat) : w.frozen? ⟨g, i, none⟩ = false := by
  obtain ⟨cur, h1, _⟩ := h
  simp [World.frozen?, h1]
theorem HRow.set {w : World} {g cap : Nat} {r : List Int} (h : HRow w g cap r) (i : Nat) (x : Int) : HRow (w.setCell ⟨g, i, none⟩ (.int .i64 x)) g cap (r.set i x) := by
  obtain ⟨cur, h1, h2, h3, h4⟩ := h
  refine ⟨cur.setIfInBounds i (.int .i64 x), ?_, by simpa using h2, by simpa using h3, ?_⟩
  · rw [setCell_eq_setRow w g i cur 3 (0, 0) _ h1]
    exact setRow_heap w g cur _ 3 (0, 0) h1
  · rw [List.length_set, Array.toList_setIfInBounds, List.take_set, h4, List.map_set]
theorem HRow.below {w w' : World} {g cap : Nat} {r : List Int} (h : HRow w g cap r) (hb : Below w.heap.size w w') : HRow w' g cap r := by
  have hl := h.lt
  obtain ⟨cur, h1, h2⟩ := h
  exact ⟨cur, (hb.block g hl).trans h1, h2⟩
theorem HRow.drewN {w : World} {g cap : Nat} {r : List Int} (h : HRow w g cap r) (n : Nat) : HRow (w.drewN n) g cap r := h
theorem HRow.isW {w : World} {g cap : Nat} {r : List Int} (h : HRow w g cap r) : IsW w (some ⟨g, 0, none⟩) r cap :=
  ⟨h.le, .inr ⟨g, 0, rfl, h.lt, fun k hk => by rw [Nat.zero_add]; exact h.cell hk⟩⟩

theorem al_enters {f : FuncId} {fn : Func} (hf : Tryz.prog.funcs[f]? = some fn) (hn : (fn.name == "runtime.NumGoroutine") = false) (hb : ∃ c, fn.body = some c) (args : Array Value) (w : World) : (callFunc f args).run Tryz.prog w = .ok (.enter f args) w := by
  obtain ⟨c, hc⟩ := hb
  exact MuLone.run_callFunc_enter hf hn hc args w
/-- What is asked of a function that is told a number and says yes or no. -/
structure ITells (g : Nat) (p : Int → Bool) : Prop where
  eg : ∀ args W, (callFunc g args).run Tryz.prog W = .ok (.enter g args) W
  call : ∀ (x : Int) W, Calls Tryz.prog g #[.int .i64 x] W fun e w' => e = .returned (.bool (p x)) ∧ w' = W
set_option maxHeartbeats 1000000 in
theorem nIdx_any (g : Nat) (p : Int → Bool) (a : Option Addr) (l : List Int) (cap : Nat) (w : World) (hp : ITells g p) (h : IsW w a l cap) (hl : l.length ≤ 9223372036854775807) :
    Calls Tryz.prog 56 #[.slice a l.length cap, .func (.func g) #[] #[]] w fun e w' => (∃ r, e = .returned (.int .i64 r) ∧ decide (0 ≤ r) = l.any p) ∧ w' = w := by
  have eg := hp.eg
  have Hp : Hid (ITells g p) := hp
  have H1 : Hid (IsW w a l cap) := h
  have Hl : (l.length : Int) ≤ 9223372036854775807 := by omega
  clear hp h
  go_enter Tryz.func56, Tryz.ntmps56
  go_wp2
  go_loop [8] (fun i => ∃ k : Nat, k ≤ l.length ∧ i = .int .i64 k ∧ Hid ((l.take k).any p = false)) (fun i => l.length - (RowKit.intOf i).toNat)
  case atStart => exact ⟨0, Nat.zero_le _, rfl, rfl⟩
  case round =>
    obtain ⟨k, hk, rfl, H⟩ := hrel
    by_cases hlt : k < l.length
    · obtain ⟨b, off, e, hb, hc⟩ := H1.out.at hlt
      subst e
      have hcall := Hp.out.call (l.getD k 0) w
      have HN : Hid ((l.take (k + 1)).any p = p (l.getD k 0)) := by
        rw [w_take l k hlt]
        unfold Hid
        rw [List.any_append, H.out]
        simp
      have HT : Hid (p (l.getD k 0) = true → l.any p = true) := fun h => List.any_eq_true.2 ⟨_, w_mem l k hlt, h⟩
      generalize l.getD k 0 = x at *
      have i0 : (0 : Int) ≤ k := by omega
      have i1 : (k : Int) < l.length := by omega
      cases hq : p x
      · rw [hq] at hcall HN
        clear HT
        go_wp2_with (go_at_fn g; refine hcall.mono ?_; rintro e w' ⟨rfl, rfl⟩)
        go_round
        case rel => exact ⟨k + 1, by omega, by go_num, HN⟩
        case measure => simp [RowKit.intOf]; omega
      · rw [hq] at hcall
        have HE : Hid (decide (0 ≤ (k : Int)) = l.any p) := by rw [HT.out hq]; exact decide_eq_true i0
        clear HT HN
        go_wp2_with (go_at_fn g; refine hcall.mono ?_; rintro e w' ⟨rfl, rfl⟩)
        go_ret
        exact ⟨⟨k, rfl, HE.out⟩, rfl⟩
    · have hk2 : k = l.length := by omega
      subst hk2
      have HE : Hid (decide (0 ≤ (-1 : Int)) = l.any p) := by
        have h1 := H.out
        rw [List.take_length] at h1
        rw [h1]; exact rfl
      clear H
      go_wp2
      go_ret
      exact ⟨⟨-1, rfl, HE.out⟩, rfl⟩
theorem nHas_any (g : Nat) (p : Int → Bool) (a : Option Addr) (l : List Int) (cap : Nat) (w : World) (hp : ITells g p) (h : IsW w a l cap) (hl : l.length ≤ 9223372036854775807) :
    Calls Tryz.prog 37 #[.slice a l.length cap, .func (.func g) #[] #[]] w fun e w' => e = .returned (.bool (l.any p)) ∧ w' = w := by
  have HC : Hid (Calls _ _ _ _ _) := nIdx_any g p a l cap w hp h hl
  clear h hp
  generalize l.any p = q at *
  go_enter Tryz.func37, Tryz.ntmps37
  go_wp2_with fail
  refine HC.out.mono ?_
  rintro e w' ⟨⟨r, rfl, hr⟩, hw⟩
  rw [hw]; clear hw w'
  go_wp2
  go_ret
  refine ⟨?_, rfl⟩
  rw [← hr]
  rfl

theorem down1_tells : ITells 38 posB := by
  refine ⟨fun args W => al_enters Tryz.func38 (by kernel_rfl) ⟨_, rfl⟩ args W, fun x W => ?_⟩
  go_enter Tryz.func38, Tryz.ntmps38
  go_wp2
  go_ret
  exact ⟨rfl, rfl⟩
theorem check2_tells : ITells 36 wBad := by
  refine ⟨fun args W => al_enters Tryz.func36 (by kernel_rfl) ⟨_, rfl⟩ args W, fun x W => ?_⟩
  by_cases h : x < 0
  · have e : wBad x = true := by simp [wBad, h]
    rw [e]
    go_enter Tryz.func36, Tryz.ntmps36
    go_wp2
    go_ret
    exact ⟨rfl, rfl⟩
  · have e : wBad x = decide (1000000000 < x) := by simp [wBad, h]
    rw [e]
    go_enter Tryz.func36, Tryz.ntmps36
    go_wp2
    go_ret
    exact ⟨rfl, rfl⟩

theorem size_bd {x : Int} {M : Int} (h : sizeI x ≤ M) : -M ≤ x ∧ x ≤ M := by unfold sizeI at h; split at h <;> omega
theorem getD_mem_int {l : List Int} {i : Nat} (h : i < l.length) : l.getD i 0 ∈ l := by
  rw [List.getD_eq_getElem?_getD, List.getElem?_eq_getElem h]; exact List.getElem_mem h

set_option maxHeartbeats 8000000 in
theorem stepDown_any (g cap i n : Nat) (has beh : List Int) (aw : Option Addr) (cw : Nat) (w : World) (hr : HRow w g cap has) (hi : i < n) (hn : has.length = n) (hb : beh.length = n - (i + 1)) (hw : IsW w aw beh cw) (hl : n ≤ 20) (hg : ∀ x ∈ beh, 0 ≤ x ∧ x ≤ 1000000000) (ha : absS has ≤ 1000000000000000000) :
    Calls Tryz.prog 20 #[.slice (some ⟨g, i, none⟩) (n - i) (cap - i), .slice aw beh.length cw] w fun e w' => e = .returned .nilIface ∧ HRow w' g cap (downL has i beh) ∧ Below g w w' := by
  have HT : Hid (Calls _ _ _ _ _) := nHas_any 38 posB aw beh cw w down1_tells hw (by omega)
  have hi' : i < has.length := by omega
  have hb' : beh.length = has.length - (i + 1) := by omega
  cases hp : beh.any posB
  · have e0 : downL has i beh = has := by unfold downL; rw [if_neg (by rw [hp]; simp)]
    rw [e0]
    rw [hp] at HT
    have HR : Hid (HRow w g cap has) := hr
    clear hr e0 hp hw ha hg hb hb' hn hi'
    go_enter Tryz.func20, Tryz.ntmps20
    go_wp2_with (go_at_call 37; refine HT.out.mono ?_; rintro e w' ⟨rfl, rfl⟩)
    go_ret
    exact ⟨rfl, HR.out, Below.refl _ _⟩
  have hG := good_beh (by omega) hg hp
  have ht := size_bd (Int.le_trans (size_le_abs (getD_mem_int hi')) ha)
  have HS : Hid (Calls Tryz.prog 29 #[.int .i64 (has.getD i 0), .slice aw beh.length cw] w fun e w' => ∃ gs, e = .returned (.tuple #[.slice (some ⟨gs, 0, none⟩) beh.length beh.length, .nilIface]) ∧ NRow w' gs (cameL (has.getD i 0) beh) ∧ w.heap.size ≤ gs ∧ Below w.heap.size w w') := by
    refine (shares_any (has.getD i 0) aw beh cw w hw (by omega) (by unfold Math.I64; omega)).mono ?_
    rintro e w' ⟨h1, _, h2⟩
    obtain ⟨gs, h3, rfl, h4⟩ := h2 (good_zero hG)
    exact ⟨gs, rfl, h4, h3, h1⟩
  rw [hp] at HT
  have HM : Hid (∀ k, k < beh.length → (midL has i beh k).getD (i + 1 + k) 0 = (has.drop (i + 1)).getD k 0 ∧ (midL has i beh k).set (i + 1 + k) ((has.drop (i + 1)).getD k 0 + shareI (has.getD i 0) beh k) = midL has i beh (k + 1) ∧ (midL has i beh k).length = n) := fun k hk => ⟨mid_at has i beh k hi' hb' hk, mid_next has i beh k hi' hb' hk, by rw [mid_len has i beh k hi' hb' (by omega)]; exact hn⟩
  have HM0 : Hid (midL has i beh 0 = has.set i 0) := mid_zero has i beh hi'
  have HMe : Hid (midL has i beh beh.length = downL has i beh) := mid_all has i beh hb' hp
  have HBd : Hid (∀ k, k < beh.length → (-1000000000000000000 ≤ (has.drop (i + 1)).getD k 0 ∧ (has.drop (i + 1)).getD k 0 ≤ 1000000000000000000) ∧ -1000000000000000000 ≤ shareI (has.getD i 0) beh k ∧ shareI (has.getD i 0) beh k ≤ 1000000000000000000) := fun k hk => by
    refine ⟨size_bd (Int.le_trans (size_le_abs (List.mem_of_mem_drop (i := i + 1) (getD_mem_int (by rw [List.length_drop]; omega)))) ha), ?_⟩
    have := share_bd hG hk (t := has.getD i 0)
    by_cases h0 : 0 ≤ has.getD i 0
    · have := this.1 h0; omega
    · have := this.2 (by omega); omega
  have HR : Hid (HRow w g cap has) := hr
  have c0 : w.cell? ⟨g, i, none⟩ = some (.int .i64 (has.getD i 0)) := hr.cell hi'
  have hgl := hr.lt
  have hcap := hr.le
  obtain ⟨t, hte⟩ : ∃ t, has.getD i 0 = t := ⟨_, rfl⟩
  rw [hte] at c0 HS HM HBd ht
  have Hn : Hid (has.length = n) := hn
  obtain ⟨m, hm⟩ : ∃ m, beh.length = m := ⟨_, rfl⟩
  have Hm : Hid (beh.length = m) := hm
  have HCm : Hid (∀ k, k < m → (cameL t beh).getD k 0 = shareI t beh k) := fun k hk => by
    unfold cameL; rw [hm]; simp [List.getD_eq_getElem?_getD, hk]
  have HCl : Hid ((cameL t beh).length = m) := by rw [came_len]; exact hm
  rw [hm] at HS HM HMe HBd hb HT ⊢
  have i1 : (0 : Int) < (n : Int) - i := by omega
  have i2 : ((n - i : Nat) : Int) = (n : Int) - i := by omega
  have i3 : 0 < n - i := by omega
  have i4 : (0 : Int) < ((n - i : Nat) : Int) := by omega
  have i5 : (m : Int) ≤ 19 := by omega
  clear hr hw hg ha hp hG hi' hb' hm hte hn i2
  have Hb : Hid (m = n - (i + 1)) := hb
  clear hb
  go_enter Tryz.func20, Tryz.ntmps20
  go_wp2_with fail
  refine HT.out.mono ?_
  rintro e w' ⟨rfl, hw⟩
  rw [hw]; clear hw w' HT
  go_wp2_with fail
  refine HS.out.mono ?_
  rintro e w1 ⟨gs, rfl, hns, hgs, hb1⟩
  have HR1 : Hid (HRow w1 g cap has) := HR.out.below hb1
  have HN1 : Hid (NRow w1 gs (cameL t beh)) := hns
  have HB1 : Hid (Below g w w1) := hb1.mono (by omega)
  have hne : gs ≠ g := by omega
  have c1 := HR1.out.cell (i := i) (by rw [Hn.out]; omega)
  have f1 := HR1.out.frozen i
  generalize has.getD i 0 = z at c1
  have HR2 : Hid (HRow (w1.setCell ⟨g, i, none⟩ (.int .i64 0)) g cap (midL has i beh 0) ∧ NRow (w1.setCell ⟨g, i, none⟩ (.int .i64 0)) gs (cameL t beh) ∧ Below g w (w1.setCell ⟨g, i, none⟩ (.int .i64 0))) := by
    rw [HM0.out]
    exact ⟨HR1.out.set i 0, HN1.out.other hne i _, HB1.out.setCell (p := ⟨g, i, none⟩) (Nat.le_refl _) _⟩
  clear hns hb1 HS c0 HR1 HN1 HB1
  obtain ⟨w2, hw2⟩ : ∃ w2, w1.setCell ⟨g, i, none⟩ (.int .i64 0) = w2 := ⟨_, rfl⟩
  rw [hw2] at HR2
  have HW2 : Hid (w1.setCell ⟨g, i, none⟩ (.int .i64 0) = w2) := hw2
  clear hw2
  go_upto_region 7 with fail
  rw [HW2.out]
  clear HW2 c1 f1
  go_wp2
  go_loopw [27] (fun ix wr => ∃ k : Nat, k ≤ m ∧ ix = .int .i64 k ∧ Hid (HRow wr g cap (midL has i beh k) ∧ NRow wr gs (cameL t beh) ∧ Below g w wr)) (fun ix _ => m - (RowKit.intOf ix).toNat)
  case atStart => exact ⟨0, Nat.zero_le _, rfl, HR2⟩
  case round =>
    obtain ⟨k, hk, rfl, H⟩ := hrel
    by_cases hkm : k < m
    · obtain ⟨r1, r2, r3⟩ := H.out
      obtain ⟨m1, m2, m3⟩ := HM.out k hkm
      obtain ⟨⟨b1, b2⟩, b3, b4⟩ := HBd.out k hkm
      have hb := Hb.out
      have cs := r2.cell (i := k) (by rw [HCl.out]; exact hkm)
      rw [HCm.out k hkm] at cs
      have ch := r1.cell (i := i + 1 + k) (by rw [m3]; omega)
      rw [m1] at ch
      have fh := r1.frozen (i + 1 + k)
      have hset := r1.set (i + 1 + k) ((has.drop (i + 1)).getD k 0 + shareI t beh k)
      rw [m2] at hset
      have HN : Hid (HRow (wr.setCell ⟨g, i + 1 + k, none⟩ (.int .i64 ((has.drop (i + 1)).getD k 0 + shareI t beh k))) g cap (midL has i beh (k + 1)) ∧ NRow (wr.setCell ⟨g, i + 1 + k, none⟩ (.int .i64 ((has.drop (i + 1)).getD k 0 + shareI t beh k))) gs (cameL t beh) ∧ Below g w (wr.setCell ⟨g, i + 1 + k, none⟩ (.int .i64 ((has.drop (i + 1)).getD k 0 + shareI t beh k)))) := ⟨hset, r2.other hne _ _, r3.setCell (p := ⟨g, i + 1 + k, none⟩) (Nat.le_refl _) _⟩
      have j0 : (0 : Int) ≤ k := by omega
      have j1 : (k : Int) < m := by omega
      have j3 : (0 : Int) ≤ (k : Int) + 1 := by omega
      have j4 : (k : Int) + 1 < ((n - i : Nat) : Int) := by omega
      have j5 : ((k : Int) + 1).toNat = k + 1 := by omega
      have eo : i + 1 + k = i + (k + 1) := by omega
      rw [eo] at ch fh HN
      clear H r1 r2 r3 m1 m2 m3 hset hb eo
      generalize (has.drop (i + 1)).getD k 0 = x at *
      generalize shareI t beh k = y at *
      go_wp2
      go_roundw
      case rel => exact ⟨k + 1, by omega, by go_num, HN⟩
      case measure => simp [RowKit.intOf]; omega
    · have ek : k = m := by omega
      subst ek
      obtain ⟨r1, r2, r3⟩ := H.out
      rw [HMe.out] at r1
      have HF : Hid (HRow wr g cap (downL has i beh) ∧ Below g w wr) := ⟨r1, r3⟩
      have j1 : ¬ (k : Int) < k := by omega
      clear H r1 r2 r3
      go_wp2
      go_ret
      exact ⟨rfl, HF.out.1, HF.out.2⟩
end Go.Proofs.YtpkopanigeinpaaGreatDoor

namespace Go.Proofs.YtpkopanigeinpaaGreatDoor
set_option linter.unusedVariables false
set_option linter.unusedSimpArgs false
set_option maxRecDepth 100000
open Go.RowKit Go.Lib

/-- An error by its number. -/
def spE (n : Int) : Value := if n = 0 then .nilIface else .iface 53 (.int .i64 n)
theorem spE_zero : spE 0 = .nilIface := rfl
theorem spE_ne {n : Int} (h : n ≠ 0) : spE n = .iface 53 (.int .i64 n) := if_neg h
/-- The first number that is not 0. -/
def foundTo (f : Nat → Int) : Nat → Int
  | 0 => 0
  | k + 1 => if foundTo f k ≠ 0 then foundTo f k else f k
theorem foundTo_next {f : Nat → Int} {k : Nat} (h : foundTo f k = 0) : foundTo f (k + 1) = f k := by
  unfold foundTo; rw [if_neg (by simp [h])]
theorem foundTo_stays {f : Nat → Int} {k : Nat} (h : foundTo f k ≠ 0) : ∀ n, k ≤ n → foundTo f n = foundTo f k
  | 0, hn => by obtain rfl : k = 0 := by omega
                rfl
  | n + 1, hn => by
    by_cases e : k = n + 1
    · subst e; rfl
    · have ih := foundTo_stays h n (by omega)
      show (if foundTo f n ≠ 0 then foundTo f n else f n) = _
      rw [if_pos (by rw [ih]; exact h), ih]
theorem foundTo_first {f : Nat → Int} {n k : Nat} (h0 : foundTo f k = 0) (h1 : f k ≠ 0) (hlt : k < n) : foundTo f n = f k := by
  have e := foundTo_next h0
  rw [foundTo_stays (k := k + 1) (by rw [e]; exact h1) n hlt, e]
theorem foundTo_zero {f : Nat → Int} : ∀ {n : Nat}, foundTo f n = 0 → ∀ k, k < n → f k = 0
  | 0, _, k, hk => by omega
  | n + 1, h, k, hk => by
    have h0 : foundTo f n = 0 := by
      by_cases e : foundTo f n = 0
      · exact e
      · rw [foundTo_stays e (n + 1) (by omega)] at h; exact absurd h e
    rw [foundTo_next h0] at h
    by_cases e : k = n
    · subst e; exact h
    · exact foundTo_zero h0 k (by omega)

/-- A row of weights, with its place. -/
structure Wr where
  adr : Option Addr
  cap : Nat
  xs : List Int
def wr0 : Wr := ⟨none, 0, []⟩
/-- A slice of rows of weights. -/
structure IsWs (w : World) (a : Option Addr) (l : List Wr) (cap : Nat) : Prop where
  cap : l.length ≤ cap
  lies : l = [] ∨ ∃ b off, a = some ⟨b, off, none⟩ ∧ b < w.heap.size ∧ ∀ k, k < l.length → w.cell? ⟨b, off + k, none⟩ = some (.slice (l.getD k wr0).adr (l.getD k wr0).xs.length (l.getD k wr0).cap)
  rows : ∀ r ∈ l, IsW w r.adr r.xs r.cap ∧ r.xs.length ≤ 9223372036854775807
theorem IsWs.below {w w' : World} {a : Option Addr} {l : List Wr} {cap : Nat} (h : IsWs w a l cap) (hb : Below w.heap.size w w') : IsWs w' a l cap := by
  refine ⟨h.cap, ?_, fun r hr => ⟨(h.rows r hr).1.below hb, (h.rows r hr).2⟩⟩
  rcases h.lies with h | ⟨b, off, e, hlt, hc⟩
  · exact .inl h
  · exact .inr ⟨b, off, e, by have := hb.size; omega, fun k hk => (hb.cell (p := ⟨b, off + k, none⟩) hlt).trans (hc k hk)⟩
theorem wr_mem (l : List Wr) (k : Nat) (h : k < l.length) : l.getD k wr0 ∈ l := by
  rw [List.getD_eq_getElem?_getD, List.getElem?_eq_getElem h]
  exact List.getElem_mem h
theorem wr_take (l : List Wr) (k : Nat) (h : k < l.length) : l.take (k + 1) = l.take k ++ [l.getD k wr0] := by
  rw [List.take_add_one, List.getElem?_eq_getElem h, List.getD_eq_getElem?_getD, List.getElem?_eq_getElem h]
  rfl
theorem IsWs.at {w : World} {a : Option Addr} {l : List Wr} {cap : Nat} (h : IsWs w a l cap) {k : Nat} (hk : k < l.length) : ∃ b off, a = some ⟨b, off, none⟩ ∧ b < w.heap.size ∧ w.cell? ⟨b, off + k, none⟩ = some (.slice (l.getD k wr0).adr (l.getD k wr0).xs.length (l.getD k wr0).cap) ∧ IsW w (l.getD k wr0).adr (l.getD k wr0).xs (l.getD k wr0).cap ∧ (l.getD k wr0).xs.length ≤ 9223372036854775807 := by
  rcases h.lies with rfl | ⟨b, off, e, hlt, hc⟩
  · simp at hk
  · exact ⟨b, off, e, hlt, hc k hk, (h.rows _ (wr_mem l k hk)).1, (h.rows _ (wr_mem l k hk)).2⟩

/-- Is a row of another length? -/
def otherB (n : Nat) (r : Wr) : Bool := decide (r.xs.length ≠ n)
def amtB (x : Int) : Bool := decide (-1000000000000000 ≤ x ∧ x ≤ 1000000000000000)
/-- What is wrong with a row and its amount. -/
def rowBad (l : List Wr) (am : List Int) (k : Nat) : Int := if (l.getD k wr0).xs.any wBad = true ∨ amtB (am.getD k 0) = false then 1 else 0
/-- What stands against stepping down. -/
def spBad (l : List Wr) (am : List Int) : Int :=
  if 20 < am.length then 4 else if l.length ≠ am.length ∨ l.any (otherB am.length) = true then 3 else foundTo (rowBad l am) am.length

theorem spBad_ok {l : List Wr} {am : List Int} (h : spBad l am = 0) : l.length = am.length ∧ GoodR (fun k => (l.getD k wr0).xs) am.length ∧ ∀ x ∈ am, -1000000000000000 ≤ x ∧ x ≤ 1000000000000000 := by
  unfold spBad at h
  split at h
  · omega
  · rename_i h1
    split at h
    · omega
    · rename_i h2
      have hl : l.length = am.length := by
        by_cases e : l.length = am.length
        · exact e
        · exact absurd (.inl e) h2
      have ho : l.any (otherB am.length) = false := by
        cases e : l.any (otherB am.length)
        · rfl
        · exact absurd (.inr e) h2
      have hz := foundTo_zero h
      have hrow : ∀ k, k < am.length → (l.getD k wr0).xs.any wBad = false ∧ amtB (am.getD k 0) = true := fun k hk => by
        have := hz k hk
        unfold rowBad at this
        split at this
        · omega
        · rename_i h3
          cases e1 : (l.getD k wr0).xs.any wBad
          · cases e2 : amtB (am.getD k 0)
            · exact absurd (.inr e2) h3
            · exact ⟨rfl, rfl⟩
          · exact absurd (.inl e1) h3
      refine ⟨hl, ⟨by omega, fun k hk => ⟨?_, fun x hx => ?_⟩⟩, fun x hx => ?_⟩
      · rw [List.any_eq_false] at ho
        have := ho _ (wr_mem l k (by omega))
        simpa [otherB] using this
      · have h3 := (hrow k hk).1
        rw [List.any_eq_false] at h3
        have := h3 x hx
        simp [wBad] at this
        omega
      · obtain ⟨k, hk, rfl⟩ := List.getElem_of_mem hx
        have := (hrow k hk).2
        rw [List.getD_eq_getElem?_getD, List.getElem?_eq_getElem hk] at this
        exact of_decide_eq_true this

theorem stepc1_any (r : Wr) (a : Option Addr) (n cap B : Nat) (w : World) (h : w.cell? ⟨B, 0, none⟩ = some (.slice a n cap)) :
    Calls Tryz.prog 34 #[.slice r.adr r.xs.length r.cap, .pointer (some ⟨B, 0, none⟩)] w fun e w' => e = .returned (.bool (otherB n r)) ∧ w' = w := by
  unfold otherB
  generalize r.xs.length = m
  by_cases hm : m = n
  · subst hm
    rw [decide_eq_false (by simp)]
    go_enter Tryz.func34, Tryz.ntmps34
    go_wp2
    go_ret
    exact ⟨rfl, rfl⟩
  · rw [decide_eq_true hm]
    have n1 : ((m : Int) != (n : Int)) = true := by rw [bne_iff_ne]; omega
    have n2 : ((m : Int) == (n : Int)) = false := by rw [beq_eq_false_iff_ne]; omega
    go_enter Tryz.func34, Tryz.ntmps34
    go_wp2
    go_ret
    exact ⟨rfl, rfl⟩
set_option maxHeartbeats 1000000 in
theorem rIdx_any (a a2 : Option Addr) (l : List Wr) (cap n cap2 B : Nat) (w : World) (h : IsWs w a l cap) (hB : w.cell? ⟨B, 0, none⟩ = some (.slice a2 n cap2)) (hl : l.length ≤ 9223372036854775807) :
    Calls Tryz.prog 55 #[.slice a l.length cap, .func (.func 34) #[] #[.pointer (some ⟨B, 0, none⟩)]] w fun e w' => (∃ r, e = .returned (.int .i64 r) ∧ decide (0 ≤ r) = l.any (otherB n)) ∧ w' = w := by
  have eg : ∀ args W, (callFunc 34 args).run Tryz.prog W = .ok (.enter 34 args) W := fun args W => al_enters Tryz.func34 (by kernel_rfl) ⟨_, rfl⟩ args W
  have H1 : Hid (IsWs w a l cap) := h
  have HCk : Hid (∀ r : Wr, Calls Tryz.prog 34 #[.slice r.adr r.xs.length r.cap, .pointer (some ⟨B, 0, none⟩)] w fun e w' => e = .returned (.bool (otherB n r)) ∧ w' = w) := fun r => stepc1_any r a2 n cap2 B w hB
  have Hl : (l.length : Int) ≤ 9223372036854775807 := by omega
  clear h hB
  go_enter Tryz.func55, Tryz.ntmps55
  go_wp2
  go_loop [8] (fun i => ∃ k : Nat, k ≤ l.length ∧ i = .int .i64 k ∧ Hid ((l.take k).any (otherB n) = false)) (fun i => l.length - (RowKit.intOf i).toNat)
  case atStart => exact ⟨0, Nat.zero_le _, rfl, rfl⟩
  case round =>
    obtain ⟨k, hk, rfl, H⟩ := hrel
    by_cases hlt : k < l.length
    · obtain ⟨b, off, e, hb, hc, _⟩ := H1.out.at hlt
      subst e
      have hcall := HCk.out (l.getD k wr0)
      have HN : Hid ((l.take (k + 1)).any (otherB n) = otherB n (l.getD k wr0)) := by
        rw [wr_take l k hlt]
        unfold Hid
        rw [List.any_append, H.out]
        simp
      have HT : Hid (otherB n (l.getD k wr0) = true → l.any (otherB n) = true) := fun h => List.any_eq_true.2 ⟨_, wr_mem l k hlt, h⟩
      generalize l.getD k wr0 = x at *
      have i0 : (0 : Int) ≤ k := by omega
      have i1 : (k : Int) < l.length := by omega
      cases hq : otherB n x
      · rw [hq] at hcall HN
        clear HT
        go_wp2_with (go_at_fn 34; refine hcall.mono ?_; rintro e w' ⟨rfl, rfl⟩)
        go_round
        case rel => exact ⟨k + 1, by omega, by go_num, HN⟩
        case measure => simp [RowKit.intOf]; omega
      · rw [hq] at hcall
        have HE : Hid (decide (0 ≤ (k : Int)) = l.any (otherB n)) := by rw [HT.out hq]; exact decide_eq_true i0
        clear HT HN
        go_wp2_with (go_at_fn 34; refine hcall.mono ?_; rintro e w' ⟨rfl, rfl⟩)
        go_ret
        exact ⟨⟨k, rfl, HE.out⟩, rfl⟩
    · have hk2 : k = l.length := by omega
      subst hk2
      have HE : Hid (decide (0 ≤ (-1 : Int)) = l.any (otherB n)) := by
        have h1 := H.out
        rw [List.take_length] at h1
        rw [h1]; exact rfl
      clear H
      go_wp2
      go_ret
      exact ⟨⟨-1, rfl, HE.out⟩, rfl⟩
theorem rHas_any (a a2 : Option Addr) (l : List Wr) (cap n cap2 B : Nat) (w : World) (h : IsWs w a l cap) (hB : w.cell? ⟨B, 0, none⟩ = some (.slice a2 n cap2)) (hl : l.length ≤ 9223372036854775807) :
    Calls Tryz.prog 35 #[.slice a l.length cap, .func (.func 34) #[] #[.pointer (some ⟨B, 0, none⟩)]] w fun e w' => e = .returned (.bool (l.any (otherB n))) ∧ w' = w := by
  have HC : Hid (Calls _ _ _ _ _) := rIdx_any a a2 l cap n cap2 B w h hB hl
  clear h hB
  generalize l.any (otherB n) = q at *
  go_enter Tryz.func35, Tryz.ntmps35
  go_wp2_with fail
  refine HC.out.mono ?_
  rintro e w' ⟨⟨r, rfl, hr⟩, hw⟩
  rw [hw]; clear hw w'
  go_wp2
  go_ret
  refine ⟨?_, rfl⟩
  rw [← hr]
  rfl
theorem spWithin_any (n : Int) (w : World) :
    Calls Tryz.prog 28 #[.int .i64 n] w fun e w' => e = .returned (.bool (decide (-(1000000000000000 : Int) ≤ n ∧ n ≤ 1000000000000000))) ∧ w' = w := by
  have h := isAmount_any n w
  have e : isAmtB n = decide (-(1000000000000000 : Int) ≤ n ∧ n ≤ 1000000000000000) := by unfold isAmtB; rw [Bool.decide_and]
  rw [e] at h
  exact h

set_option maxHeartbeats 8000000 in
theorem checkSteps_any (a a2 : Option Addr) (l : List Wr) (am : List Int) (cap cap2 : Nat) (w : World) (h : IsWs w a l cap) (h2 : IsW w a2 am cap2) (hl : l.length ≤ 9223372036854775807) (hl2 : am.length ≤ 9223372036854775807) :
    Calls Tryz.prog 18 #[.slice a l.length cap, .slice a2 am.length cap2] w fun e w' => e = .returned (spE (spBad l am)) ∧ Below w.heap.size w w' := by
  obtain ⟨B, hB⟩ : ∃ B, w.heap.size = B := ⟨_, rfl⟩
  obtain ⟨w0, hw0⟩ : ∃ w0, w.alloc (.cells #[.slice a2 am.length cap2] 26) = w0 := ⟨_, rfl⟩
  have B0 : Below w.heap.size w w0 := by rw [← hw0]; exact (Below.refl _ w).alloc (Nat.le_refl _) _
  have c0 : w0.cell? ⟨B, 0, none⟩ = some (.slice a2 am.length cap2) := by rw [← hw0, ← hB]; simp
  have HO : Hid (Calls _ _ _ _ _) := rHas_any a a2 l cap am.length cap2 B w0 (h.below B0) c0 hl
  have H1 : Hid (IsWs w0 a l cap) := h.below B0
  have H2 : Hid (IsW w0 a2 am cap2) := h2.below B0
  have HW0 : Hid (w.alloc (.cells #[.slice a2 am.length cap2] 26) = w0) := hw0
  have HB0 : Hid (Below w.heap.size w w0) := B0
  have HWi : Hid (∀ x, Calls Tryz.prog 28 #[.int .i64 x] w0 fun e w' => e = .returned (.bool (amtB x)) ∧ w' = w0) := fun x => spWithin_any x w0
  have HWb : Hid (∀ (r : Wr), IsW w0 r.adr r.xs r.cap → r.xs.length ≤ 9223372036854775807 → Calls Tryz.prog 37 #[.slice r.adr r.xs.length r.cap, .func (.func 36) #[] #[]] w0 fun e w' => e = .returned (.bool (r.xs.any wBad)) ∧ w' = w0) := fun r hr hrl => nHas_any _ wBad r.adr r.xs r.cap w0 check2_tells hr hrl
  obtain ⟨res, hres⟩ : ∃ res, spE (spBad l am) = res := ⟨_, rfl⟩
  have HR0 : Hid (spE (spBad l am) = res) := hres
  rw [hres]
  clear hres h h2 hw0 B0
  by_cases c1 : 20 < am.length
  · have er : res = spE 4 := by rw [← HR0.out]; unfold spBad; rw [if_pos c1]
    rw [spE_ne (by decide)] at er
    subst er
    have i1 : (20 : Int) < am.length := by omega
    clear HR0 HO HWi HWb
    go_enter Tryz.func18, Tryz.ntmps18
    go_upto_region 1 with fail
    rw [HW0.out]
    go_wp2
    go_ret
    exact ⟨rfl, by first | exact HB0.out | (rw [← hB]; exact HB0.out)⟩
  have i1 : ¬ (20 : Int) < am.length := by omega
  have HR1 : Hid (spE (if l.length ≠ am.length ∨ l.any (otherB am.length) = true then 3 else foundTo (rowBad l am) am.length) = res) := by
    have := HR0.out; unfold spBad at this; rw [if_neg c1] at this; exact this
  clear HR0
  by_cases c2 : l.length = am.length
  case neg =>
    have er : res = spE 3 := by rw [← HR1.out, if_pos (.inl c2)]
    rw [spE_ne (by decide)] at er
    subst er
    have n1 : ((l.length : Int) != (am.length : Int)) = true := by rw [bne_iff_ne]; omega
    have n2 : ((l.length : Int) == (am.length : Int)) = false := by rw [beq_eq_false_iff_ne]; omega
    clear HR1 HO HWi HWb
    go_enter Tryz.func18, Tryz.ntmps18
    go_upto_region 1 with fail
    rw [HW0.out]
    go_wp2
    go_ret
    exact ⟨rfl, by first | exact HB0.out | (rw [← hB]; exact HB0.out)⟩
  obtain ⟨n, hn⟩ : ∃ n, am.length = n := ⟨_, rfl⟩
  rw [hn] at c2
  have Hn : Hid (am.length = n) := hn
  have Hn2 : Hid (l.length = n) := c2
  have h20 : n ≤ 20 := by omega
  rw [hn] at HR1 HO c0 HW0 i1 ⊢
  rw [c2] at HO ⊢
  cases c3 : l.any (otherB n)
  case true =>
    have er : res = spE 3 := by rw [← HR1.out, if_pos (.inr c3)]
    rw [spE_ne (by decide)] at er
    subst er
    rw [c3] at HO
    clear HR1 HWi HWb hn c2 c3 hl hl2
    go_enter Tryz.func18, Tryz.ntmps18
    go_upto_region 1 with fail
    rw [HW0.out]
    go_wp2_with (go_at_call 35; refine HO.out.mono ?_; rintro e w' ⟨rfl, rfl⟩)
    go_ret
    exact ⟨rfl, by first | exact HB0.out | (rw [← hB]; exact HB0.out)⟩
  rw [c3] at HO
  have HR2 : Hid (spE (foundTo (rowBad l am) n) = res) := by
    have := HR1.out; rw [if_neg (by simp [c2, c3])] at this; exact this
  have i2 : (n : Int) ≤ 20 := by omega
  clear HR1 hn c2 c3 hl hl2
  go_enter Tryz.func18, Tryz.ntmps18
  go_upto_region 1 with fail
  rw [HW0.out]
  clear HW0
  go_wp2_with fail
  refine HO.out.mono ?_
  rintro e w' ⟨rfl, hw⟩
  rw [hw]; clear hw w' HO
  go_wp2
  go_loop [27] (fun i => ∃ k : Nat, k ≤ n ∧ i = .int .i64 k ∧ Hid (foundTo (rowBad l am) k = 0)) (fun i => n - (RowKit.intOf i).toNat)
  case atStart => exact ⟨0, Nat.zero_le _, rfl, rfl⟩
  case round =>
    obtain ⟨k, hk, rfl, H0⟩ := hrel
    by_cases hkn : k < n
    · obtain ⟨b, off, e, hb, hc, hw1, hw2⟩ := H1.out.at (k := k) (by rw [Hn2.out]; exact hkn)
      subst e
      obtain ⟨b', off', e, hb', hc'⟩ := H2.out.at (k := k) (by rw [Hn.out]; exact hkn)
      subst e
      have HC1 : Hid (Calls _ _ _ _ _) := HWb.out (l.getD k wr0) hw1 hw2
      have HC2 : Hid (Calls _ _ _ _ _) := HWi.out (am.getD k 0)
      have HRb : Hid (rowBad l am k = if (l.getD k wr0).xs.any wBad = true ∨ amtB (am.getD k 0) = false then 1 else 0) := rfl
      have HRet : Hid (rowBad l am k = 1 → res = spE 1) := fun h => by
        rw [← HR2.out, foundTo_first H0.out (by rw [h]; decide) hkn, h]
      have HNx : Hid (rowBad l am k = 0 → foundTo (rowBad l am) (k + 1) = 0) := fun h => by rw [foundTo_next H0.out, h]
      have j0 : (0 : Int) ≤ k := by omega
      have j1 : (k : Int) < n := by omega
      clear hw1 hw2
      generalize l.getD k wr0 = r at *
      generalize am.getD k 0 = x at *
      generalize rowBad l am k = rb at *
      cases q1 : r.xs.any wBad
      · rw [q1] at HC1 HRb
        cases q2 : amtB x
        · rw [q2] at HC2 HRb
          have er : res = spE 1 := HRet.out (by rw [HRb.out]; rfl)
          rw [spE_ne (by decide)] at er
          subst er
          clear HRb HRet HNx HR2 q1 q2
          go_wp2_with fail
          refine HC1.out.mono ?_
          rintro e w' ⟨rfl, hw⟩
          rw [hw]; clear hw w' HC1
          go_wp2_with fail
          refine HC2.out.mono ?_
          rintro e w' ⟨rfl, hw⟩
          rw [hw]; clear hw w' HC2
          go_wp2
          go_ret
          exact ⟨rfl, by first | exact HB0.out | (rw [← hB]; exact HB0.out)⟩
        · rw [q2] at HC2 HRb
          have HN : Hid _ := HNx.out (by rw [HRb.out]; rfl)
          clear HRb HRet HNx q1 q2
          go_wp2_with fail
          refine HC1.out.mono ?_
          rintro e w' ⟨rfl, hw⟩
          rw [hw]; clear hw w' HC1
          go_wp2_with fail
          refine HC2.out.mono ?_
          rintro e w' ⟨rfl, hw⟩
          rw [hw]; clear hw w' HC2
          go_wp2
          go_round
          case rel => exact ⟨k + 1, by omega, by go_num, HN⟩
          case measure => simp [RowKit.intOf]; omega
      · rw [q1] at HC1 HRb
        have er : res = spE 1 := HRet.out (by rw [HRb.out, if_pos (.inl rfl)])
        rw [spE_ne (by decide)] at er
        subst er
        clear HRb HRet HNx HR2 q1
        go_wp2_with fail
        refine HC1.out.mono ?_
        rintro e w' ⟨rfl, hw⟩
        rw [hw]; clear hw w' HC1
        go_wp2
        go_ret
        exact ⟨rfl, by first | exact HB0.out | (rw [← hB]; exact HB0.out)⟩
    · have ek : k = n := by omega
      subst ek
      have er : res = spE 0 := by rw [← HR2.out, H0.out]
      rw [spE_zero] at er
      subst er
      have j1 : ¬ (k : Int) < k := by omega
      clear HR2 H0
      go_wp2
      go_ret
      exact ⟨rfl, by first | exact HB0.out | (rw [← hB]; exact HB0.out)⟩
end Go.Proofs.YtpkopanigeinpaaGreatDoor

namespace Go.Proofs.YtpkopanigeinpaaGreatDoor
set_option linter.unusedVariables false
set_option linter.unusedSimpArgs false
set_option maxRecDepth 100000
open Go.RowKit Go.Lib

theorem st_int_info : (Tryz.prog.info? 3).map (fun i => (i.zero, i.size, i.bytes)) = some (some (.int .i64 0), 1, 8) := by kernel_rfl
/-- What a clone is. -/
def Cloned (w w' : World) (v : Value) (l : List Int) : Prop := Below w.heap.size w w' ∧ ((l = [] ∧ ∃ a cap, v = .slice a 0 cap) ∨ ∃ g cap, v = .slice (some ⟨g, 0, none⟩) l.length cap ∧ HRow w' g cap l ∧ w.heap.size ≤ g)
theorem intRow_none (w : World) : World.ownsRow (w.alloc (.cells #[] 3)) w.heap.size 3 1 (.slice (some ⟨w.heap.size, 0, none⟩) 0 0) 0 [] :=
  ⟨rfl, .inr ⟨w.heap.size, 0, #[], rfl, Nat.le_refl _, by unfold World.alloc; simp only [Array.getElem?_push_size], Nat.le_refl _, by unfold maxLen; omega, rfl, rfl⟩⟩
theorem cloneI_some (x : Addr) (l : List Int) (cap : Nat) (w : World) (hc : ∀ j u, (l.map (Value.int .i64))[j]? = some u → w.cell? (x.add j) = some u) (hx : l ≠ [] → x.block < w.heap.size) (hl : l.length ≤ 1000000) :
    Calls Tryz.prog 19 #[.slice (some x) l.length cap] w fun e w' => ∃ v, e = .returned v ∧ Cloned w w' v l := by
  have q35 : ∀ (w : World) (a : Option Addr) (n c n' c' : Nat), (binOp .eql 26 (.slice a n c) (.slice none n' c')).run Tryz.prog w = .ok (.bool a.isNone) w := fun w a n c n' c' => Lib.run_eql_slice_nil w _ _ a n c n' c' Tryz.underlying26
  have B1 : Below w.heap.size w (w.alloc (.cells #[] 3)) := (Below.refl _ w).alloc (Nat.le_refl _) _
  have HS : Hid (∀ j u, (l.map (Value.int .i64))[j]? = some u → (w.alloc (.cells #[] 3)).cell? (x.add j) = some u) := fun j u h => by
    have hne : l ≠ [] := fun e => by rw [e] at h; simp at h
    rw [B1.cell (p := x.add j) (by have := hx hne; unfold Addr.add; split <;> exact this)]
    exact hc j u h
  have Hm1 : Hid (0 + l.length ≤ maxLen) := by unfold Hid maxLen; omega
  have Hm2 : Hid ((0 + l.length) * 8 ≤ 140737488355328) := by unfold Hid; omega
  have Hm3 : Hid (w.heap.size ≤ (w.alloc (.cells #[] 3)).heap.size) := by unfold Hid; simp
  have HRw : Hid (World.ownsRow (w.alloc (.cells #[] 3)) w.heap.size 3 1 (.slice (some ⟨w.heap.size, 0, none⟩) 0 0) 0 []) := intRow_none w
  have HOne : Hid (∀ u ∈ l.map (Value.int .i64), u.oneCell' = true) := fun u hu => by
    obtain ⟨y, _, rfl⟩ := List.mem_map.1 hu; rfl
  have HLen : Hid ((l.map (Value.int .i64)).length = l.length * 1) := by unfold Hid; simp
  obtain ⟨i0, hi, hz0, hz1, hz2⟩ := info_parts st_int_info
  have l0 : (0 : Int) ≤ l.length := by omega
  clear hc hx
  go_enter Tryz.func19, Tryz.ntmps19
  go_wp2_with (at_builtin; refine wpList_append_own _ rfl _ _ 26 rfl w.heap.size 3 i0 (.int .i64 0) 1 8 Tryz.underlying26 hi hz0 hz1 hz2 rfl (by decide) _ _ _ rfl HRw.out x l.length cap (l.map (Value.int .i64)) rfl HLen.out HS.out HOne.out Hm1.out Hm2.out Hm3.out ?_)
  intro v w1 hown hgrow _
  have hb : Below w.heap.size w w1 := B1.grown hgrow B1.size (fun j e => by simp [Value.ownBlock] at e; omega)
  have hr : Cloned w w1 v l := by
    refine ⟨hb, ?_⟩
    rcases hown.2 with ⟨hv, hn⟩ | ⟨g, c1, cur, hv, hg, hh, h1, h2, h3, h4⟩
    · exact .inl ⟨List.eq_nil_of_length_eq_zero (by omega), none, 0, hv⟩
    · exact .inr ⟨g, c1, hv, ⟨cur, hh, by omega, h1, by simpa using h4⟩, hg⟩
  have HE : Hid (Cloned w w1 v l) := hr
  obtain ⟨a1, n1, k1, hv⟩ : ∃ a1 n1 k1, v = .slice a1 n1 k1 := by
    rcases hr.2 with ⟨_, a, c, e⟩ | ⟨g, c, e, _⟩
    · exact ⟨_, _, _, e⟩
    · exact ⟨_, _, _, e⟩
  subst hv
  clear hown hgrow hr hb B1 HS HRw
  go_wp2
  go_ret
  exact ⟨_, rfl, HE.out⟩
theorem cloneI_nil (cap : Nat) (w : World) :
    Calls Tryz.prog 19 #[.slice none 0 cap] w fun e w' => ∃ v, e = .returned v ∧ Cloned w w' v [] := by
  have q35 : ∀ (w : World) (a : Option Addr) (n c n' c' : Nat), (binOp .eql 26 (.slice a n c) (.slice none n' c')).run Tryz.prog w = .ok (.bool a.isNone) w := fun w a n c n' c' => Lib.run_eql_slice_nil w _ _ a n c n' c' Tryz.underlying26
  go_enter Tryz.func19, Tryz.ntmps19
  go_wp2
  go_ret
  exact ⟨_, rfl, Below.refl _ _, .inl ⟨rfl, none, 0, rfl⟩⟩
theorem cloneI_any (a : Option Addr) (l : List Int) (cap : Nat) (w : World) (h : IsW w a l cap) (hl : l.length ≤ 1000000) :
    Calls Tryz.prog 19 #[.slice a l.length cap] w fun e w' => ∃ v, e = .returned v ∧ Cloned w w' v l := by
  rcases h.lies with rfl | ⟨b, off, rfl, hlt, hc⟩
  · cases a with
    | none => exact cloneI_nil cap w
    | some x => exact cloneI_some x [] cap w (by simp) (by simp) (by simp)
  · refine cloneI_some ⟨b, off, none⟩ l cap w (fun j u hj => ?_) (fun _ => hlt) hl
    have hlt2 := (List.getElem?_eq_some_iff.1 hj).1
    rw [List.length_map] at hlt2
    rw [Addr.add_lit]
    rw [hc j hlt2, ← hj, List.getElem?_map, List.getElem?_eq_getElem hlt2, List.getD_eq_getElem?_getD, List.getElem?_eq_getElem hlt2]
    rfl

def inA (a : Option Addr) (cap k : Nat) : Option Addr := if cap = k then a else a.map (·.add k)
theorem ins_under : Tryz.prog.underlying 26 = some (.slice (Tryz.prog.elem 26)) := by kernel_rfl
theorem ins_size (W : World) : (sizeOf (Tryz.prog.elem 26)).run Tryz.prog W = .ok 1 W := by
  obtain ⟨i, hi, hz0, hz1, hz2⟩ := info_parts st_int_info
  rw [show Tryz.prog.elem 26 = 3 by kernel_rfl]
  simp [sizeOf, typeInfo, hi, hz1]
theorem run_inL (a : Option Addr) (L cap k : Nat) (hk : k ≤ L) (W : World) : (Instr.slice 26 (.slice a L cap) (some (.int .i64 (k : Int))) none none).run Tryz.prog W = .ok (.slice (inA a cap k) (L - k) (cap - k)) W := by
  rw [run_slice_l W 26 a L cap ins_under .i64 k (by omega) (by omega), ins_size]
  simp [Result.andThen, sliced, inA]
theorem IsW.drop {W : World} {a : Option Addr} {l : List Int} {cap : Nat} (h : IsW W a l cap) (k : Nat) (hk : k ≤ l.length) : IsW W (inA a cap k) (l.drop k) (cap - k) := by
  have hcap := h.cap
  refine ⟨by rw [List.length_drop]; omega, ?_⟩
  by_cases he : cap = k
  · exact .inl (List.drop_eq_nil_of_le (by omega))
  · rcases h.lies with h0 | ⟨b, off, rfl, hb, hc⟩
    · subst h0; exact .inl (by simp)
    · refine .inr ⟨b, off + k, by unfold inA; rw [if_neg he]; simp [Addr.add], hb, fun j hj => ?_⟩
      rw [List.length_drop] at hj
      have := hc (k + j) (by omega)
      rw [List.getD_eq_getElem?_getD, List.getElem?_drop, ← List.getD_eq_getElem?_getD]
      rw [show off + k + j = off + (k + j) by omega]
      exact this

/-- What Steps leaves. -/
def StepEnd (l : List Wr) (am : List Int) (w : World) (e : Ending) (w' : World) : Prop :=
  Below w.heap.size w w' ∧ (spBad l am ≠ 0 → e = .returned (.tuple #[.slice none 0 0, spE (spBad l am)])) ∧
    (spBad l am = 0 → ∃ a cap, e = .returned (.tuple #[.slice a am.length cap, .nilIface]) ∧ IsW w' a (stepL (fun k => (l.getD k wr0).xs) am am.length) cap)
set_option maxHeartbeats 8000000 in
theorem steps_any (a a2 : Option Addr) (l : List Wr) (am : List Int) (cap cap2 : Nat) (w : World) (h : IsWs w a l cap) (h2 : IsW w a2 am cap2) (hl : l.length ≤ 9223372036854775807) (hl2 : am.length ≤ 9223372036854775807) :
    Calls Tryz.prog 8 #[.slice a l.length cap, .slice a2 am.length cap2] w (StepEnd l am w) := by
  have HC : Hid (Calls _ _ _ _ _) := checkSteps_any a a2 l am cap cap2 w h h2 hl hl2
  by_cases c1 : spBad l am ≠ 0
  · have HE : Hid (∀ W, Below w.heap.size w W → StepEnd l am w (.returned (.tuple #[.slice none 0 0, .iface 53 (.int .i64 (spBad l am))])) W) := fun W hW => ⟨hW, fun _ => by rw [spE_ne c1], fun e => absurd e c1⟩
    rw [spE_ne c1] at HC
    generalize spBad l am = z at HC HE
    clear c1 h h2
    go_enter Tryz.func8, Tryz.ntmps8
    go_wp2_with (go_at_call 18; refine HC.out.mono ?_; rintro e w1 ⟨rfl, hb1⟩)
    go_ret2
    exact HE.out _ hb1
  have c1' := Decidable.of_not_not c1
  rw [c1', spE_zero] at HC
  obtain ⟨p1, p2, p3⟩ := spBad_ok c1'
  have HOk : Hid (∀ a' c' W, Below w.heap.size w W → IsW W a' (stepL (fun k => (l.getD k wr0).xs) am am.length) c' → StepEnd l am w (.returned (.tuple #[.slice a' am.length c', .nilIface])) W) := fun a' c' W h1 h2 => ⟨h1, fun h0 => absurd c1' h0, fun _ => ⟨a', c', rfl, h2⟩⟩
  have HCl : Hid (∀ W, Below w.heap.size w W → Calls Tryz.prog 19 #[.slice a2 am.length cap2] W fun e w' => ∃ v, e = .returned v ∧ Cloned W w' v am) := fun W hW => cloneI_any a2 am cap2 W (h2.below hW) (by have := p2.1; omega)
  have HL : Hid (IsWs w a l cap) := h
  have HK : Hid (∀ k, k ≤ am.length → (stepL (fun k => (l.getD k wr0).xs) am k).length = am.length ∧ absS (stepL (fun k => (l.getD k wr0).xs) am k) ≤ 1000000000000000000) := fun k hk => by
    obtain ⟨h1, _, h3⟩ := step_keeps p2 k hk
    have h4 := abs_le (l := am) (M := 1000000000000000) fun x hx => by have := p3 x hx; unfold sizeI; split <;> omega
    have := p2.1
    exact ⟨h1, by omega⟩
  have HG : Hid (∀ k, k < am.length → (l.getD k wr0).xs.length = am.length ∧ ∀ x ∈ (l.getD k wr0).xs, 0 ≤ x ∧ x ≤ 1000000000) := p2.2
  have h20 := p2.1
  obtain ⟨rw_, hrw⟩ : ∃ rw_ : Nat → List Int, (fun k => (l.getD k wr0).xs) = rw_ := ⟨_, rfl⟩
  rw [hrw] at HOk HK
  have HRw : Hid (∀ k, rw_ k = (l.getD k wr0).xs) := fun k => by rw [← hrw]
  obtain ⟨n, hn⟩ : ∃ n, am.length = n := ⟨_, rfl⟩
  rw [hn] at HC HOk HCl HK HG h20 ⊢
  have Hn : Hid (am.length = n) := hn
  have Hln : Hid (l.length = n) := p1.trans hn
  rw [p1, hn] at HC ⊢
  clear h h2 c1 c1' p1 p2 p3 hrw hn hl hl2
  go_enter Tryz.func8, Tryz.ntmps8
  go_wp2_with fail
  refine HC.out.mono ?_
  rintro e w1 ⟨rfl, hb1⟩
  have HB1 : Hid (Below w.heap.size w w1) := hb1
  clear HC hb1
  go_wp2_with fail
  refine (HCl.out w1 HB1.out).mono ?_
  rintro e w2 ⟨v, rfl, hb2, hv⟩
  have HB2 : Hid (Below w.heap.size w w2) := HB1.out.trans (hb2.mono HB1.out.size)
  have hs1 := HB1.out.size
  clear HCl
  rcases hv with ⟨e0, a', c', rfl⟩ | ⟨g, cg, rfl, hg, hgw⟩
  · subst e0
    have e1 : n = 0 := by rw [← Hn.out]; rfl
    subst e1
    have HE : Hid (StepEnd l [] w (.returned (.tuple #[.slice a' 0 c', .nilIface])) w2) := HOk.out a' c' w2 HB2.out ⟨Nat.zero_le _, .inl rfl⟩
    clear HOk HK HG HL hb2
    go_wp2
    refine wp_loop_rounds 1 ?_
    rw [rounds_succ]
    go_wp2
    go_ret2
    exact HE.out
  rw [Hn.out]
  have HR2 : Hid (HRow w2 g cg am) := hg
  have Hgw : Hid (w.heap.size ≤ g) := by unfold Hid; omega
  have i20 : (n : Int) ≤ 20 := by omega
  have hcn : n ≤ cg := by have := hg.le; rw [Hn.out] at this; exact this
  clear hg hb2 hs1 hgw
  go_wp2
  go_loopw [21] (fun ix wr => ∃ k : Nat, k ≤ n ∧ ix = .int .i64 k ∧ Hid (HRow wr g cg (stepL rw_ am k)) ∧ Hid (Below w.heap.size w wr)) (fun ix _ => n - (RowKit.intOf ix).toNat)
  case atStart => exact ⟨0, Nat.zero_le _, rfl, HR2, HB2⟩
  case round =>
    obtain ⟨k, hk, rfl, R, HB⟩ := hrel
    by_cases hkn : k < n
    · obtain ⟨b, off, e, hb, hc, hw1, _⟩ := ((HL.out).below HB.out).at (k := k) (by rw [Hln.out]; exact hkn)
      subst e
      obtain ⟨g1, g2⟩ := HG.out k hkn
      obtain ⟨k1, k2⟩ := HK.out k hk
      have hd := hw1.drop (k + 1) (by omega)
      have hdl : ((l.getD k wr0).xs.drop (k + 1)).length = n - (k + 1) := by rw [List.length_drop, g1]
      have HD : Hid (∀ q, Calls Tryz.prog 20 #[.slice (some ⟨g, k, none⟩) (n - k) (cg - k), .slice (inA (l.getD k wr0).adr (l.getD k wr0).cap (k + 1)) (n - (k + 1)) ((l.getD k wr0).cap - (k + 1))] (wr.drewN q) fun e w' => e = .returned .nilIface ∧ HRow w' g cg (stepL rw_ am (k + 1)) ∧ Below w.heap.size w w') := fun q => by
        have := stepDown_any g cg k n (stepL rw_ am k) ((l.getD k wr0).xs.drop (k + 1)) (inA (l.getD k wr0).adr (l.getD k wr0).cap (k + 1)) ((l.getD k wr0).cap - (k + 1)) (wr.drewN q) (R.out.drewN q) hkn k1 hdl (hd.below ⟨rfl, rfl, rfl, Nat.le_refl _, fun _ _ => rfl⟩) h20 (fun x hx => g2 x (List.mem_of_mem_drop hx)) k2
        rw [hdl] at this
        refine this.mono ?_
        rintro e w' ⟨rfl, z1, z2⟩
        refine ⟨rfl, ?_, (HB.out.trans (show Below w.heap.size wr (wr.drewN q) from ⟨rfl, rfl, rfl, Nat.le_refl _, fun _ _ => rfl⟩)).trans (z2.mono Hgw.out)⟩
        show HRow w' g cg (downL (stepL rw_ am k) k ((rw_ k).drop (k + 1)))
        rw [HRw.out k]; exact z1
      have e1 : ∀ W, (Instr.slice 26 (.slice (some ⟨g, 0, none⟩) n cg) (some (.int .i64 (k : Int))) none none).run Tryz.prog W = .ok (.slice (some ⟨g, k, none⟩) (n - k) (cg - k)) W := fun W => by
        rw [run_inL _ _ _ _ hk]
        unfold inA
        rw [if_neg (by omega), Option.map_some, Addr.add_lit, Nat.zero_add]
      have e2 : ∀ W, (Instr.slice 26 (.slice (l.getD k wr0).adr n (l.getD k wr0).cap) (some (.int .i64 ((k : Int) + 1))) none none).run Tryz.prog W = .ok (.slice (inA (l.getD k wr0).adr (l.getD k wr0).cap (k + 1)) (n - (k + 1)) ((l.getD k wr0).cap - (k + 1))) W := fun W => by
        have h := run_inL (l.getD k wr0).adr n (l.getD k wr0).cap (k + 1) (by omega) W
        rw [show (((k + 1 : Nat)) : Int) = (k : Int) + 1 by omega] at h
        exact h
      rw [g1] at hc
      clear hw1 hd hdl g1 g2 k1 k2 R HB
      generalize l.getD k wr0 = r at *
      generalize inA r.adr r.cap (k + 1) = ia at *
      generalize r.cap - (k + 1) = ic at *
      generalize n - (k + 1) = nl at *
      have j0 : (0 : Int) ≤ k := by omega
      have j1 : (k : Int) < n := by omega
      have j3 : (0 : Int) ≤ (k : Int) + 1 := by omega
      have j4 : (k : Int) + 1 ≤ n := by omega
      have iw : IntKind.i64.wrap ((k : Int) + 1) = (k : Int) + 1 := by
        simp only [IntKind.wrap, IntKind.bits, IntKind.signed]
        simp
        omega
      go_wp2_with fail
      go_region_with (go_at_call 20; refine (HD.out _).mono ?_; rintro e w3 ⟨rfl, z1, z2⟩)
      all_goals
        have HR3 : Hid (HRow w3 g cg (stepL rw_ am (k + 1))) := z1
        have HB3 : Hid (Below w.heap.size w w3) := z2
        clear z1 z2
        go_wp2
        go_roundw
        case rel => exact ⟨k + 1, by omega, by go_num, HR3, HB3⟩
        case measure => simp [RowKit.intOf]; omega
    · have ek : k = n := by omega
      subst ek
      have HE : Hid (StepEnd l am w (.returned (.tuple #[.slice (some ⟨g, 0, none⟩) k cg, .nilIface])) wr) := HOk.out _ cg wr HB.out R.out.isW
      have j1 : ¬ (k : Int) < k := by omega
      clear HOk HK HG HL R
      go_wp2
      go_ret2
      exact HE.out
end Go.Proofs.YtpkopanigeinpaaGreatDoor

namespace Go.Proofs.YtpkopanigeinpaaGreatDoor
set_option linter.unusedVariables false
set_option linter.unusedSimpArgs false
set_option maxRecDepth 100000
open Go.RowKit Go.Lib

theorem abs_sum : ∀ l : List Int, sizeI l.sum ≤ absS l
  | [] => by simp [absS, sizeI]
  | x :: l => by
    have h1 := abs_sum l
    have h2 := size_add x l.sum
    rw [absS_cons, List.sum_cons]
    omega
theorem tot_one {p : Ln → Bool} (cur : ByteArray) (hp : KeyP p) : ∀ l : List Ln, (∀ x ∈ l, x.cur = cur) → tot p (l.map bareL) = if p ⟨ByteArray.empty, cur, 0⟩ = true then (l.map Ln.amt).sum else 0
  | [], _ => by simp [tot]
  | x :: l, h => by
    have ih := tot_one cur hp l fun y hy => h y (List.mem_cons_of_mem _ hy)
    have hx := h x (List.mem_cons_self ..)
    have e : p (bareL x) = p ⟨ByteArray.empty, cur, 0⟩ := hp _ _ (by simp [lnEq, bareL, hx])
    rw [List.map_cons, tot, ih, e, List.map_cons, List.sum_cons]
    split <;> simp [bareL]
theorem sum_noz : ∀ l : List Ln, ((l.filter fun x => !isNo x).map Ln.amt).sum = (l.map Ln.amt).sum
  | [] => rfl
  | x :: l => by
    have ih := sum_noz l
    rw [List.filter_cons]
    split
    · rw [List.map_cons, List.sum_cons, ih, List.map_cons, List.sum_cons]
    · rename_i h
      have : x.amt = 0 := by simpa [isNo] using h
      rw [ih, List.map_cons, List.sum_cons, this]; omega
theorem goL_cur {p : Po} {has : Int} : ∀ x ∈ goL p has, x.cur = p.cur := fun x hx => by
  have hx := (List.mem_filter.1 hx).1
  rcases List.mem_cons.1 hx with rfl | hx
  · rfl
  · obtain ⟨k, _, rfl⟩ := List.mem_map.1 hx
    rfl
theorem goL_sum {c : List Ac} {p : Po} {has : Int} (h : poBad c p = 0) : ((goL p has).map Ln.amt).sum = 0 := by
  obtain ⟨q1, q2, q3, q4, _⟩ := poBad_ok h
  unfold goL
  rw [sum_noz]
  unfold allL
  rw [List.map_cons, List.sum_cons, List.map_map]
  have e : (List.range p.tos.length).map (Ln.amt ∘ toLn p has) = (List.range p.ws.length).map (shareI has p.ws) := by rw [q1]; rfl
  rw [e, share_sum (shBad_zero q4)]
  show -has + has = 0
  omega
theorem goL_even {c : List Ac} {p : Po} {has : Int} (h : poBad c p = 0) : evenL (goL p has) := fun q hq => by
  rw [tot_one p.cur hq _ goL_cur, goL_sum h]
  split <;> rfl
theorem ae_within {c : List Ac} {p : Po} {has : Int} (h : poBad c p = 0) (ha : isAmt has) : Within mostA (goL p has) := fun x hx => by
  have hx := (List.mem_filter.1 hx).1
  obtain ⟨q1, q2, q3, q4, _⟩ := poBad_ok h
  unfold isAmt at ha
  unfold mostA
  rcases List.mem_cons.1 hx with rfl | hx
  · show -1000000000000000 ≤ -has ∧ -has ≤ 1000000000000000
    omega
  · obtain ⟨k, hk, rfl⟩ := List.mem_map.1 hx
    have := share_bd (t := has) (shBad_zero q4) (i := k) (by rw [q1]; exact List.mem_range.1 hk)
    show -1000000000000000 ≤ shareI has p.ws k ∧ shareI has p.ws k ≤ 1000000000000000
    by_cases h0 : 0 ≤ has
    · have := this.1 h0; omega
    · have := this.2 (by omega); omega
theorem ae_len (p : Po) (has : Int) : (goL p has).length ≤ p.tos.length + 1 := by
  have := List.length_filter_le (fun x => !isNo x) (allL p has)
  rw [allL_len] at this
  exact this
/-- The first line takes all; the others give to those that are named. -/
theorem goL_head (p : Po) {has : Int} (h0 : has ≠ 0) : ∃ t, goL p has = ⟨p.acc, p.cur, -has⟩ :: t ∧ ∀ x ∈ t, memB x.acc p.tos = true := by
  unfold goL allL
  rw [List.filter_cons, if_pos (by simp [isNo]; omega)]
  refine ⟨_, rfl, fun x hx => ?_⟩
  obtain ⟨k, hk, rfl⟩ := List.mem_map.1 (List.mem_filter.1 hx).1
  unfold memB
  rw [List.any_eq_true]
  refine ⟨p.tos.getD k ByteArray.empty, ?_, by simp [toLn]⟩
  rw [List.getD_eq_getElem?_getD, List.getElem?_eq_getElem (List.mem_range.1 hk)]
  exact List.getElem_mem _
theorem alTo_split (en pe : Int) (b : List Bl) (l : List Po) : ∀ n k, k ≤ n → ∃ t, alTo en pe b l n = alTo en pe b l k ++ t
  | 0, k, hk => by
    obtain rfl : k = 0 := by omega
    exact ⟨[], by simp⟩
  | n + 1, k, hk => by
    by_cases e : k = n + 1
    · subst e; exact ⟨[], by simp⟩
    · obtain ⟨t, ht⟩ := alTo_split en pe b l n k (by omega)
      exact ⟨t ++ poE en pe b n (l.getD n po0), by rw [alTo_next, ht, List.append_assoc]⟩
theorem alTo_at {en pe : Int} {b : List Bl} {l : List Po} {L : List Je} (hL : L.map Je.ep = alTo en pe b l l.length) {k : Nat} (hk : k < l.length) (h0 : getB b en (l.getD k po0).acc (l.getD k po0).cur ≠ 0) :
    (alTo en pe b l k).length < L.length ∧ (L.getD (alTo en pe b l k).length je0).lns = goL (l.getD k po0) (getB b en (l.getD k po0).acc (l.getD k po0).cur) ∧ (alTo en pe b l (k + 1)).length = (alTo en pe b l k).length + 1 := by
  obtain ⟨t, ht⟩ := alTo_split en pe b l l.length (k + 1) hk
  rw [alTo_next] at ht
  have e : poE en pe b k (l.getD k po0) = [⟨refA k, en, pe, goL (l.getD k po0) (getB b en (l.getD k po0).acc (l.getD k po0).cur)⟩] := by unfold poE; rw [if_neg h0]
  rw [e] at ht
  rw [ht] at hL
  have hlen := congrArg List.length hL
  simp only [List.length_map, List.length_append, List.length_singleton] at hlen
  have hlt : (alTo en pe b l k).length < L.length := by omega
  refine ⟨hlt, ?_, by rw [alTo_next, e, List.length_append]; rfl⟩
  have h1 : (L.map Je.ep)[(alTo en pe b l k).length]? = some ⟨refA k, en, pe, goL (l.getD k po0) (getB b en (l.getD k po0).acc (l.getD k po0).cur)⟩ := by
    rw [hL, List.append_assoc, List.getElem?_append_right (Nat.le_refl _), Nat.sub_self]; rfl
  rw [List.getElem?_map, List.getElem?_eq_getElem hlt] at h1
  rw [List.getD_eq_getElem?_getD, List.getElem?_eq_getElem hlt]
  have h2 : (L[(alTo en pe b l k).length]).ep = _ := Option.some.inj h1
  exact congrArg Ep.lns h2
theorem alTo_skip {en pe : Int} {b : List Bl} {l : List Po} {k : Nat} (h0 : getB b en (l.getD k po0).acc (l.getD k po0).cur = 0) : (alTo en pe b l (k + 1)).length = (alTo en pe b l k).length := by
  rw [alTo_next]
  have e : poE en pe b k (l.getD k po0) = [] := by unfold poE; rw [if_pos h0]
  rw [e, List.append_nil]
/-- What each of the entries is. -/
theorem alTo_mem {en pe : Int} {b : List Bl} {l : List Po} {n : Nat} {x : Ep} (h : x ∈ alTo en pe b l n) : ∃ k, k < n ∧ getB b en (l.getD k po0).acc (l.getD k po0).cur ≠ 0 ∧ x.lns = goL (l.getD k po0) (getB b en (l.getD k po0).acc (l.getD k po0).cur) := by
  obtain ⟨k, hk, hx⟩ := List.mem_flatMap.1 h
  refine ⟨k, List.mem_range.1 hk, ?_⟩
  unfold poE at hx
  split at hx
  · cases hx
  · rename_i h0
    rw [List.mem_singleton] at hx
    subst hx
    exact ⟨h0, rfl⟩
/-- What Entries gave is even. -/
theorem all_even {c : List Ac} {l : List Po} {b : List Bl} {en pe : Int} (h : alBad c l b en pe = 0) {L : List Je} (hL : L.map Je.ep = alTo en pe b l l.length) : ∀ x ∈ L, 0 < x.lns.length ∧ x.lns.length ≤ 20 ∧ Within mostA x.lns ∧ ∀ y ∈ curSums x.lns, y.amt = 0 := fun x hx => by
  have hm : x.ep ∈ alTo en pe b l l.length := by rw [← hL]; exact List.mem_map_of_mem hx
  obtain ⟨k, hk, h0, e⟩ := alTo_mem hm
  have e' : x.lns = goL (l.getD k po0) (getB b en (l.getD k po0).acc (l.getD k po0).cur) := e
  unfold alBad at h
  split at h
  · contradiction
  · rename_i h1
    have hps := (psBad_ok (Decidable.of_not_not h1)).2.2 k hk
    split at h
    · contradiction
    · split at h
      · omega
      · have hz := firstTo_zero h k hk
        unfold hasBad at hz
        split at hz
        · rename_i ha
          rw [e']
          obtain ⟨t, ht, _⟩ := goL_head (l.getD k po0) h0
          refine ⟨by rw [ht]; simp, ?_, ae_within hps ha, fun y hy => ?_⟩
          · have := ae_len (l.getD k po0) (getB b en (l.getD k po0).acc (l.getD k po0).cur)
            have := (poBad_ok hps).2.2.1
            omega
          · have := (even_iff (l := goL (l.getD k po0) (getB b en (l.getD k po0).acc (l.getD k po0).cur))).2 (goL_even hps)
            rw [List.any_eq_false] at this
            have := this y hy
            simpa [nullL] using this
        · omega
end Go.Proofs.YtpkopanigeinpaaGreatDoor
