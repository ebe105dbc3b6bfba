/-
  What is of the base is not valued anew: for every chart, all balances, every entity and every period the call of daylaw5.RevalueNone returns true, and its arguments read as they did. No condition.
-/
import Derived.Test.YtmaifbemfcmmgaaZr12
import Derived.Test.YtmaifbemfcmmgaaZr3
import Derived.Deep.Slices
import Derived.OpenShut
import Derived.Test.YtmaifbemfcmmgaaZr9
import Derived.KernelRfl
import Derived.Test.YtmaifbemfcmmgaaRows
import Derived.WalkKit
import Derived.SizedLaws
import Derived.ProofKit
import Derived.ShutString
import Derived.ChangeOld
import Derived.Below
namespace Go.Proofs.Ytmaifbemfcmmgaa
set_option linter.unusedVariables false
set_option linter.unusedSimpArgs false
set_option maxRecDepth 100000
open Go.RowKit Go.Lib Go.Maps Math

theorem ratV_self {m : Int} (h : -1000000000000000000 ≤ m ∧ m ≤ 1000000000000000000) : ratV m 1 1 = m ∧ partOf (absI m) 1 1 ≤ 9223372036854775807 + (if m < 0 then 1 else 0) := by
  have e : partOf (absI m) 1 1 = absI m := part_all (absI m) 1 (by omega)
  have e2 : absI m ≤ 1000000000000000000 := by unfold absI; split <;> omega
  have e3 : absI m ≤ 9223372036854775807 + (if m < 0 then 1 else 0) := by split <;> omega
  unfold ratV ratioV
  rw [e]
  refine ⟨?_, e3⟩
  rw [if_pos e3]
  unfold absI
  split <;> omega
theorem findS_self {S : Int × DataW Unit} {base : ByteArray} {pe : Int} (h1 : S.1 = 0) (h2 : isCur base = true) (h3 : upTo pe 120 = true) : findS S base base base pe = (1, 1, 0) := by
  unfold findS
  rw [if_neg (by simp [h1]), if_neg (by simp [h2]), if_neg (by simp [h3]), if_pos rfl]
theorem wV_self {S : Int × DataW Unit} {base : ByteArray} {en pe : Int} {x : Bl} (h1 : S.1 = 0) (h2 : isCur base = true) (h3 : upTo pe 120 = true) (hc : x.cur = base) (ha : -1000000000000000000 ≤ x.amt ∧ x.amt ≤ 1000000000000000000) : wV S base en pe x = (if x.ent = en then x.amt else 0) ∧ wE S base en pe x = 0 := by
  obtain ⟨r1, r2⟩ := ratV_self ha
  unfold wV wE
  rw [hc, findS_self h1 h2 h3]
  refine ⟨?_, ?_⟩
  · unfold convV
    rw [if_pos rfl, r1]
  · unfold cvE
    rw [if_pos rfl, if_pos r2]
    split <;> rfl
theorem acAmt_none {f : Bl → Int} {base : ByteArray} {b : List Bl} {en : Int} (x : Ac) (h : othL f en x.code base b = []) : acAmt f base b en x = 0 ∧ acErr f base b en x = 0 := by
  unfold acAmt acErr lkV lkE
  rw [h]
  exact ⟨rfl, rfl⟩
theorem rvTo_nil {f : Bl → Int} {base gain : ByteArray} {b : List Bl} {en pe : Int} {c : List Ac} : ∀ {k : Nat}, (∀ i, i < k → (c.getD i ac0).mon = true → acAmt f base b en (c.getD i ac0) = 0) → rvTo f base gain b en pe c k = []
  | 0, _ => rfl
  | k + 1, h => by
    rw [rvTo_next, rvTo_nil fun i hi => h i (by omega), List.nil_append]
    unfold acE
    exact if_neg fun hh => hh.2 (h k (by omega) hh.1)
end Go.Proofs.Ytmaifbemfcmmgaa

namespace Go.Proofs.Ytmaifbemfcmmgaa
set_option linter.unusedVariables false
set_option linter.unusedSimpArgs false
set_option maxRecDepth 100000
open Go.RowKit Go.Lib Go.Maps Math

def rnC : ByteArray := ⟨#[69, 85, 82]⟩
def rnB : Bl := ⟨1, ⟨#[49, 48]⟩, ⟨#[69, 85, 82]⟩, 8⟩
theorem rn_tab : (tabS []).1 = 0 := rfl
theorem rn_cur : isCur ⟨#[69, 85, 82]⟩ = true := by kernel_rfl
theorem rn_bad : wBad (tabS []) ⟨#[69, 85, 82]⟩ [rnB] 1 1 = 0 := by kernel_rfl
theorem rn_row : ([rnB] : List Bl).map (wV (tabS []) ⟨#[69, 85, 82]⟩ 1 1) = [8] := by kernel_rfl
def isRn (x : Bl) : Bool := decide (x.cur = ⟨#[69, 85, 82]⟩)
theorem rn_next (b : List Bl) (k : Nat) (h : k < b.length) : (b.take (k + 1)).filter isRn = (b.take k).filter isRn ++ (if (b.getD k bl0).cur = ⟨#[69, 85, 82]⟩ then [b.getD k bl0] else []) := by
  rw [bls_take b k h, List.filter_append]
  congr 1
  by_cases hh : (b.getD k bl0).cur = ⟨#[69, 85, 82]⟩
  · rw [List.filter_cons_of_pos (by unfold isRn; exact decide_eq_true hh), if_pos hh]; rfl
  · rw [List.filter_cons_of_neg (by unfold isRn; simpa using hh), if_neg hh]; rfl
theorem rn_len (b : List Bl) (k : Nat) : ((b.take k).filter isRn).length ≤ k := by
  have h1 := List.length_filter_le isRn (b.take k)
  rw [List.length_take] at h1
  omega
theorem rn_oth (f : Bl → Int) (en : Int) (code : ByteArray) (b : List Bl) : othL f en code ⟨#[69, 85, 82]⟩ (b.filter isRn) = [] := by
  unfold othL
  have : (b.filter isRn).filter (isOth en code ⟨#[69, 85, 82]⟩) = [] := by
    rw [List.filter_eq_nil_iff]
    intro x hx
    have h1 := (List.mem_filter.1 hx).2
    unfold isRn at h1
    have h2 := of_decide_eq_true h1
    unfold isOth
    simp [h2]
  rw [this]
  rfl
theorem rn_new {W : World} {b : Nat} {x : Bl} (h : W.heap[b]? = some (.cells x.cells 30 (0, 0))) : IsBl W (some ⟨b, 0, none⟩) [x] 1 := by
  refine ⟨Nat.le_refl _, .inr ⟨b, 0, rfl, (Array.getElem?_eq_some_iff.1 h).1, fun k hk => ?_⟩⟩
  have e : k = 0 := by simp at hk; omega
  subst e
  simp only [List.getD_cons_zero]
  exact ⟨by simp [World.cell?, h, Bl.cells], by simp [World.cell?, h, Bl.cells], by simp [World.cell?, h, Bl.cells], by simp [World.cell?, h, Bl.cells]⟩

set_option maxHeartbeats 8000000 in
theorem rnone_walk (a a2 : Option Addr) (cap cap2 : Nat) (c : List Ac) (b : List Bl) (en pe : Int) (w : World) (h : IsSl w a c cap) (hb : IsBl w a2 b cap2) (hbs : b.length * 48 ≤ 140737488355328) :
    Calls Try.prog 3 #[.slice a c.length cap, .slice a2 b.length cap2, .int .i64 en, .int .i64 pe] w fun e w' => e = .returned (.bool true) ∧ Below w.heap.size w w' := by
  have HSl : Hid (IsSl w a c cap) := h
  have HBl : Hid (IsBl w a2 b cap2) := hb
  have HBs : Hid (b.length * 48 ≤ 140737488355328) := hbs
  have HWo : Hid (∀ W a' c' (R : List Bl) e' p', IsBl W a' R c' → R.length ≤ 9223372036854775807 → Calls Try.prog 4 #[.slice none 0 0, .string ⟨#[69, 85, 82]⟩, .slice a' R.length c', .int .i64 e', .int .i64 p'] W (WorthEnd (tabS []) ⟨#[69, 85, 82]⟩ R e' p' W)) := fun W a' c' R e' p' hR hl =>
    worth_any none a' 0 0 c' (tabS []) ⟨#[69, 85, 82]⟩ R e' p' W (fun W' _ => table_none none 0 W') (tabS_good []).1 hR hl
  have HEn : Hid (∀ W a' c' (R : List Bl), Below w.heap.size w W → IsBl W a' R c' → R.length ≤ 9223372036854775807 → Calls Try.prog 5 #[.slice a c.length cap, .slice none 0 0, .string ⟨#[69, 85, 82]⟩, .string ⟨#[52, 48]⟩, .slice a' R.length c', .int .i64 en, .int .i64 pe] W (RvEnd (tabS []) c ⟨#[69, 85, 82]⟩ ⟨#[52, 48]⟩ R en pe W)) := fun W a' c' R hW hR hl =>
    rvEntries_any a a' none cap c' 0 0 (tabS []) c ⟨#[69, 85, 82]⟩ ⟨#[52, 48]⟩ R en pe W (HSl.out.below hW) (fun W' _ => table_none none 0 W') (tabS_good []).1 hR hl
  have hbx : IsBl (w.alloc (.cells #[.int .i64 1, .string ⟨#[49, 48]⟩, .string ⟨#[69, 85, 82]⟩, .int .i64 8] 30)) (some ⟨w.heap.size, 0, none⟩) [rnB] 1 := rn_new (x := rnB) (World.alloc_heap_new w _)
  have b1 : Below w.heap.size w (w.alloc (.cells #[.int .i64 1, .string ⟨#[49, 48]⟩, .string ⟨#[69, 85, 82]⟩, .int .i64 8] 30)) := (Below.refl _ w).alloc (Nat.le_refl _) _
  have HF : Hid (Calls Try.prog 4 #[.slice none 0 0, .string ⟨#[69, 85, 82]⟩, .slice (some ⟨w.heap.size, 0, none⟩) 1 1, .int .i64 1, .int .i64 1] (w.alloc (.cells #[.int .i64 1, .string ⟨#[49, 48]⟩, .string ⟨#[69, 85, 82]⟩, .int .i64 8] 30)) fun e w' => ∃ g, e = .returned (.tuple #[.slice (some ⟨g, 0, none⟩) 1 1, .nilIface]) ∧ w'.cell? ⟨g, 0, none⟩ = some (.int .i64 8) ∧ Below w.heap.size w w') := by
    refine (HWo.out _ _ 1 [rnB] 1 1 hbx (by simp)).mono ?_
    rintro e w' ⟨z1, _, z3⟩
    obtain ⟨g, rfl, _, hr⟩ := z3 rn_bad
    rw [rn_row] at hr
    exact ⟨g, rfl, hr.cell (i := 0) (by simp), b1.trans (z1.mono b1.size)⟩
  have hcap := hb.cap
  clear h hb hbs hbx b1
  obtain ⟨N, hN⟩ : ∃ N, b.length = N := ⟨_, rfl⟩
  have HN : Hid (b.length = N) := hN
  have hN47 : N ≤ 140737488355328 := by have := HBs.out; omega
  have hNi : (N : Int) ≤ 140737488355328 := by omega
  rw [hN]
  clear hN hcap
  go_enter Try.func3, Try.ntmps3
  go_wp2_with fail
  refine HF.out.mono ?_
  rintro e w1 ⟨g, rfl, hc8, hb1⟩
  have HB1 : Hid (Below w.heap.size w w1) := hb1
  clear HF hb1
  go_wp2
  clear hc8
  go_loopw [11, 12] (fun v i wr => ∃ (k : Nat) (sa : Option Addr) (sn sc : Nat), k ≤ N ∧ i = .int .i64 k ∧ v = .slice sa sn sc ∧ Hid (sn = ((b.take k).filter isRn).length ∧ BlRow wr w1.heap.size (.slice sa sn sc) ((b.take k).filter isRn) ∧ Below w1.heap.size w1 wr)) (fun _ i _ => N - (RowKit.intOf i).toNat)
  case atStart => exact ⟨0, none, 0, 0, Nat.zero_le _, rfl, rfl, rfl, BlRow.nil _ _, Below.refl _ _⟩
  case round =>
    obtain ⟨k, sa, sn, sc, hk, rfl, rfl, HR⟩ := hrel
    by_cases hkn : k < N
    · have hkb : k < b.length := by rw [HN.out]; exact hkn
      obtain ⟨bb, off, rfl, hbb, hcc⟩ := HBl.out.some hkb
      have hbw : Below w.heap.size w wr := HB1.out.trans (HR.out.2.2.mono HB1.out.size)
      have hx := (hcc k hkb).below hbw hbb
      have hnx := rn_next b k hkb
      have hln := rn_len b k
      have i0 : (0 : Int) ≤ k := by omega
      have i1 : (k : Int) < N := by omega
      obtain ⟨x, hxx⟩ : ∃ x, b.getD k bl0 = x := ⟨_, rfl⟩
      rw [hxx] at hx hnx
      have HNx : Hid ((b.take (k + 1)).filter isRn = (b.take k).filter isRn ++ (if x.cur = ⟨#[69, 85, 82]⟩ then [x] else [])) := hnx
      clear hxx hcc hnx
      by_cases hc : x.cur = ⟨#[69, 85, 82]⟩
      · have hbZ : Below wr.heap.size wr (wr.alloc (.cells x.cells 30)) := (Below.refl _ _).alloc (Nat.le_refl _) _
        have hsz1 := HR.out.2.2.size
        have HAdd : Hid (∀ v' w6, World.ownsRow w6 w1.heap.size 30 4 v' (((b.take k).filter isRn).length + 1) (blRow ((b.take k).filter isRn) ++ x.cells.toList) → (wr.alloc (.cells x.cells 30)).grownBy w6 (Value.slice sa sn sc).ownBlock → ∃ ta tn tc, v' = .slice ta tn tc ∧ tn = ((b.take (k + 1)).filter isRn).length ∧ BlRow w6 w1.heap.size (.slice ta tn tc) ((b.take (k + 1)).filter isRn) ∧ Below w1.heap.size w1 w6) := fun v' w6 h1 h2 => by
          have e1 : (b.take (k + 1)).filter isRn = (b.take k).filter isRn ++ [x] := by rw [HNx.out, if_pos hc]
          have h3 : BlRow w6 w1.heap.size v' ((b.take (k + 1)).filter isRn) := by
            rw [e1]
            unfold BlRow
            rw [blRow_append, blRow_one, List.length_append]
            exact h1
          obtain ⟨ta, tc, rfl, _⟩ := h3.isBl
          exact ⟨ta, _, tc, rfl, rfl, h3, (HR.out.2.2.trans (hbZ.mono HR.out.2.2.size)).grown h2 (Nat.le_trans HR.out.2.2.size hbZ.size) fun j e => HR.out.2.1.own j e⟩
        have HRow : Hid (World.ownsRow (wr.alloc (.cells x.cells 30)) w1.heap.size 30 4 (.slice sa sn sc) ((b.take k).filter isRn).length (blRow ((b.take k).filter isRn))) := World.ownsRow.alloc HR.out.2.1 _
        have s2 : Hid (((b.take k).filter isRn).length + 1 ≤ maxLen ∧ (((b.take k).filter isRn).length + 1) * 48 ≤ 140737488355328) := by
          have h1 := HBs.out
          have h2 := HN.out
          unfold Hid maxLen
          omega
        have s4 : Hid (w1.heap.size ≤ (wr.alloc (.cells x.cells 30)).heap.size) := Nat.le_trans HR.out.2.2.size hbZ.size
        have s5 : Hid (∀ u ∈ x.cells.toList, u.oneCell' = true) := by have := blRow_one_cell [x]; rw [blRow_one] at this; exact this
        obtain ⟨qi, hq, hz0, hz1, hz2⟩ := info_parts bl_info
        obtain ⟨x0, x1, x2, x3⟩ := x
        obtain ⟨d0, d1, d2, d3⟩ := hx
        simp only [Bl.cells] at d0 d1 d2 d3 hc HAdd HRow s4 s5
        subst hc
        clear HNx HR hbZ hbw hsz1 hln
        generalize blRow ((b.take k).filter isRn) = OL at HAdd HRow
        generalize ((b.take k).filter isRn).length = ON at HAdd HRow s2
        go_wp2_with (at_builtin; refine wpList_append_own _ rfl _ _ 23 rfl w1.heap.size 30 qi (.agg #[.int .i64 0, .string ByteArray.empty, .string ByteArray.empty, .int .i64 0]) 4 48 Try.underlying23 hq hz0 hz1 hz2 rfl (by decide) _ _ _ rfl HRow.out ⟨wr.heap.size, 0, none⟩ 1 1 [.int .i64 x0, .string x1, .string ⟨#[69, 85, 82]⟩, .int .i64 x3] rfl rfl (World.news_of_block (World.alloc_heap_new wr _)) s5.out s2.out.1 s2.out.2 s4.out ?_)
        intro v' w6 hown' hgrow _
        obtain ⟨ta, tn, tc, rfl, hn1, hn2, hn3⟩ := HAdd.out v' w6 hown' hgrow
        have HN2 : Hid _ := And.intro hn1 (And.intro hn2 hn3)
        clear HAdd HRow hown' hgrow hn1 hn2 hn3 d0 d1 d2 d3
        go_wp2
        go_roundw
        case rel => exact ⟨k + 1, ta, tn, tc, by omega, by go_num, rfl, HN2⟩
        case measure => simp [RowKit.intOf]; omega
      · have HN2 : Hid (sn = ((b.take (k + 1)).filter isRn).length ∧ BlRow wr w1.heap.size (.slice sa sn sc) ((b.take (k + 1)).filter isRn) ∧ Below w1.heap.size w1 wr) := by
          rw [HNx.out, if_neg hc, List.append_nil]
          exact HR.out
        have hc' := ch_ne hc
        have el : (⟨#[69, 85, 82]⟩ : ByteArray).toList = [69, 85, 82] := by kernel_rfl
        rw [el] at hc'
        have hc2 : ¬ x.cur.toList = [69, 85, 82] := by simpa using hc'
        obtain ⟨x0, x1, x2, x3⟩ := x
        obtain ⟨d0, d1, d2, d3⟩ := hx
        simp only at d0 d1 d2 d3 hc' hc2
        clear HNx HR hc hln hbw el
        go_wp2
        go_roundw
        case rel => exact ⟨k + 1, sa, sn, sc, by omega, by go_num, rfl, HN2⟩
        case measure => simp [RowKit.intOf]; omega
    · obtain rfl : k = N := by omega
      obtain ⟨r1, r2, r3⟩ := HR.out
      have htk : b.take k = b := by rw [← HN.out]; exact List.take_length
      rw [htk] at r1 r2
      have hof := rn_oth (wV (tabS []) ⟨#[69, 85, 82]⟩ en pe) en
      have hmem : ∀ x ∈ b.filter isRn, x.cur = ⟨#[69, 85, 82]⟩ := fun x hx => of_decide_eq_true (List.mem_filter.1 hx).2
      have hfl : (b.filter isRn).length ≤ 9223372036854775807 := by have := List.length_filter_le isRn b; have := HN.out; omega
      have HOf : Hid (∀ code, othL (wV (tabS []) ⟨#[69, 85, 82]⟩ en pe) en code ⟨#[69, 85, 82]⟩ (b.filter isRn) = []) := fun code => hof code b
      have HMem : Hid (∀ x ∈ b.filter isRn, x.cur = ⟨#[69, 85, 82]⟩) := hmem
      obtain ⟨_, hib⟩ := BlRow.isBl' r2
      have HB2 : Hid (Below w.heap.size w wr) := HB1.out.trans (r3.mono HB1.out.size)
      have j1 : ¬ (k : Int) < k := by omega
      clear HR hof hmem r2 r3 htk HBl HBs HB1
      generalize b.filter isRn = F at *
      subst r1
      have HIb : Hid (IsBl wr sa F sc) := hib
      have HWw : Hid (Calls Try.prog 4 #[.slice none 0 0, .string ⟨#[69, 85, 82]⟩, .slice sa F.length sc, .int .i64 en, .int .i64 pe] wr (WorthEnd (tabS []) ⟨#[69, 85, 82]⟩ F en pe wr)) := HWo.out wr sa sc F en pe hib hfl
      have HE1 : Hid (∀ W, Below wr.heap.size wr W → Calls Try.prog 5 #[.slice a c.length cap, .slice none 0 0, .string ⟨#[69, 85, 82]⟩, .string ⟨#[52, 48]⟩, .slice sa F.length sc, .int .i64 en, .int .i64 pe] W fun e w' => (∃ z, e = .returned (.tuple #[.slice none 0 0, .iface 45 (.int .i64 z)]) ∧ Below w.heap.size w w') ∨ (∃ xa xc, e = .returned (.tuple #[.slice xa 0 xc, .nilIface]) ∧ Below w.heap.size w w')) := fun W hW => by
        have hBW := HB2.out.trans (hW.mono HB2.out.size)
        refine (HEn.out W sa sc F hBW (HIb.out.below hW) hfl).mono ?_
        rintro e w' ⟨z1, z2, z3⟩
        have hBw' := hBW.trans (z1.mono hBW.size)
        by_cases hz : rvBad (tabS []) c ⟨#[69, 85, 82]⟩ ⟨#[52, 48]⟩ F en pe = 0
        · obtain ⟨v, L, rfl, hm, hL, _⟩ := z3 hz
          rw [rvTo_nil fun i _ _ => (acAmt_none _ (HOf.out _)).1] at hL
          have e0 : L = [] := List.map_eq_nil_iff.1 hL
          subst e0
          obtain ⟨xa, xc, rfl, _⟩ := hm.isJs
          exact .inr ⟨xa, xc, rfl, hBw'⟩
        · refine .inl ⟨rvBad (tabS []) c ⟨#[69, 85, 82]⟩ ⟨#[52, 48]⟩ F en pe, ?_, hBw'⟩
          rw [z2 hz, errV_ne hz]
      clear HWo HEn hib HOf
      by_cases c1 : wBad (tabS []) ⟨#[69, 85, 82]⟩ F en pe ≠ 0
      · have HW2 : Hid (Calls Try.prog 4 #[.slice none 0 0, .string ⟨#[69, 85, 82]⟩, .slice sa F.length sc, .int .i64 en, .int .i64 pe] wr fun e w' => e = .returned (.tuple #[.slice none 0 0, .iface 45 (.int .i64 (wBad (tabS []) ⟨#[69, 85, 82]⟩ F en pe))]) ∧ Below wr.heap.size wr w') := by
          refine HWw.out.mono ?_
          rintro e w' ⟨z1, z2, _⟩
          have z3 := z2 c1
          rw [errV_ne c1] at z3
          exact ⟨z3, z1⟩
        clear HWw HMem HIb c1
        generalize wBad (tabS []) ⟨#[69, 85, 82]⟩ F en pe = z at *
        go_wp2_with fail
        refine HW2.out.mono ?_
        rintro e w2 ⟨rfl, hb2⟩
        have HE2 : Hid (Calls _ _ _ w2 _) := HE1.out w2 hb2
        clear HW2 hb2 HE1
        go_wp2
        refine wp_loop_rounds 1 ?_
        rw [rounds_succ]
        go_wp2_with fail
        refine HE2.out.mono ?_
        rintro e w3 (⟨z3, rfl, hb3⟩ | ⟨xa, xc, rfl, hb3⟩)
        · have HB3 : Hid (Below w.heap.size w w3) := hb3
          clear hb3 HE2
          go_wp2
          go_ret
          exact ⟨rfl, HB3.out⟩
        · have HB3 : Hid (Below w.heap.size w w3) := hb3
          clear hb3 HE2
          go_wp2
          go_ret
          exact ⟨rfl, HB3.out⟩
      have c1' := Decidable.of_not_not c1
      have hask : askBad (tabS []) ⟨#[69, 85, 82]⟩ F en pe = 0 := by
        unfold wBad at c1'
        split at c1'
        · contradiction
        · rename_i hh; exact Decidable.of_not_not hh
      obtain ⟨g1, g2, g3, g4, g5⟩ := askBad_ok.1 hask
      have hF200 := g1.len
      have HV : Hid (∀ j, j < F.length → (F.map (wV (tabS []) ⟨#[69, 85, 82]⟩ en pe)).getD j 0 = if (F.getD j bl0).ent = en then (F.getD j bl0).amt else 0) := fun j hj => by
        have hm := getD_mem F j hj
        rw [← (wV_self (S := tabS []) (en := en) g2 g3 g5 (HMem.out _ hm) (g1.amt _ hm)).1]
        simp [List.getD_eq_getElem?_getD, List.getElem?_eq_getElem hj]
      have HW2 : Hid (Calls Try.prog 4 #[.slice none 0 0, .string ⟨#[69, 85, 82]⟩, .slice sa F.length sc, .int .i64 en, .int .i64 pe] wr fun e w' => ∃ g, e = .returned (.tuple #[.slice (some ⟨g, 0, none⟩) F.length F.length, .nilIface]) ∧ NRow w' g (F.map (wV (tabS []) ⟨#[69, 85, 82]⟩ en pe)) ∧ Below wr.heap.size wr w') := by
        refine HWw.out.mono ?_
        rintro e w' ⟨z1, _, z3⟩
        obtain ⟨g, e1, _, e3⟩ := z3 c1'
        exact ⟨g, e1, e3, z1⟩
      clear HWw c1 c1' hask g1 g2 g3 g4 g5 HMem
      have hFi : (F.length : Int) ≤ 200 := by omega
      go_wp2_with fail
      refine HW2.out.mono ?_
      rintro e w2 ⟨gr, rfl, hrow, hb2⟩
      have HRo : Hid (NRow w2 gr (F.map (wV (tabS []) ⟨#[69, 85, 82]⟩ en pe))) := hrow
      have HB22 : Hid (Below wr.heap.size wr w2) := hb2
      have HI2 : Hid (IsBl w2 sa F sc) := HIb.out.below hb2
      clear HW2 hb2 hrow HIb
      have hln : (F.map (wV (tabS []) ⟨#[69, 85, 82]⟩ en pe)).length = F.length := List.length_map _
      have HLn : Hid ((F.map (wV (tabS []) ⟨#[69, 85, 82]⟩ en pe)).length = F.length) := hln
      clear hln
      generalize F.map (wV (tabS []) ⟨#[69, 85, 82]⟩ en pe) = RW at *
      obtain ⟨wo, hwo⟩ : ∃ wo, wo = wr := ⟨_, rfl⟩
      subst hwo
      go_wp2
      go_loopw [15] (fun i wr => ∃ j : Nat, j ≤ F.length ∧ i = .int .i64 j ∧ Hid (Below w2.heap.size w2 wr)) (fun i _ => F.length - (RowKit.intOf i).toNat)
      case atStart => exact ⟨0, Nat.zero_le _, rfl, Below.refl _ _⟩
      case round =>
        obtain ⟨j, hj, rfl, HJ⟩ := hrel
        by_cases hjl : j < F.length
        · obtain ⟨bb, off, rfl, hbb, hcc⟩ := HI2.out.some hjl
          have hx := (hcc j hjl).below HJ.out hbb
          have hv := HV.out j hjl
          have hwc : wr.cell? ⟨gr, j, none⟩ = some (.int .i64 (RW.getD j 0)) := (HRo.out.belowS HJ.out HRo.out.ltS).cell (by rw [HLn.out]; exact hjl)
          rw [hv] at hwc
          have m0 : (0 : Int) ≤ j := by omega
          have m1 : (j : Int) < F.length := by omega
          generalize F.getD j bl0 = x at *
          obtain ⟨x0, x1, x2, x3⟩ := x
          obtain ⟨d0, d1, d2, d3⟩ := hx
          simp only at d0 d1 d2 d3 hwc
          clear hcc hv
          have HJ2 : Hid (∀ n, Below w2.heap.size w2 (wr.drewN n)) := fun n => ch_drewN HJ.out n
          by_cases he : x0 = en
          · rw [if_pos he] at hwc
            subst he
            have he' : (x0 == x0) = true := by simp
            have he2 : (x0 != x0) = false := by simp
            have he3 : (x3 != x3) = false := by simp
            go_wp2_with fail
            go_quiet (fail)
            rename Nat => nq
            have HJ3 : Hid (Below w2.heap.size w2 (wr.drewN nq)) := HJ2.out nq
            clear HJ2 d0 d1 d2 d3 hwc
            go_wp2
            go_roundw
            case rel => exact ⟨j + 1, by omega, by go_num, HJ3⟩
            case measure => simp [RowKit.intOf]; omega
          · rw [if_neg he] at hwc
            have he' : (x0 == en) = false := by rw [beq_eq_false_iff_ne]; exact he
            have he2 : (x0 != en) = true := by simp [he]
            go_wp2_with fail
            go_quiet (fail)
            rename Nat => nq
            have HJ3 : Hid (Below w2.heap.size w2 (wr.drewN nq)) := HJ2.out nq
            clear HJ2 d0 d1 d2 d3 hwc
            go_wp2
            go_roundw
            case rel => exact ⟨j + 1, by omega, by go_num, HJ3⟩
            case measure => simp [RowKit.intOf]; omega
        · obtain rfl : j = F.length := by omega
          have m1 : ¬ (F.length : Int) < F.length := by omega
          have HE2 : Hid (Calls _ _ _ wr _) := HE1.out wr (HB22.out.trans (HJ.out.mono HB22.out.size))
          clear HE1 HI2 HRo HV
          go_wp2_with fail
          refine HE2.out.mono ?_
          rintro e w3 (⟨z3, rfl, hb3⟩ | ⟨xa, xc, rfl, hb3⟩)
          · have HB3 : Hid (Below w.heap.size w w3) := hb3
            clear hb3 HE2
            go_wp2
            go_ret
            exact ⟨rfl, HB3.out⟩
          · have HB3 : Hid (Below w.heap.size w w3) := hb3
            clear hb3 HE2
            go_wp2
            go_ret
            exact ⟨rfl, HB3.out⟩
end Go.Proofs.Ytmaifbemfcmmgaa

namespace Go.Proofs.Ytmaifbemfcmmgaa
set_option linter.unusedVariables false
set_option linter.unusedSimpArgs false
set_option maxRecDepth 100000
open Go.RowKit Go.Lib Go.Deep

section
variable {H : Type} {enc : TypeId × Value → H} {w : World} {base : Nat} {spare : Nat → Bool} {held : Bool}

theorem ch_string {m : Nat} {c : Value} {y : DataW H × List MemPlace} (h : DataW.trod enc Try.prog w base spare held m 9 [c] = some y) : ∃ s, c = .string s ∧ s.size ≤ maxLen := by
  cases m with
  | zero => simp [DataW.trod] at h
  | succ m =>
    rw [DataW.trod_step] at h
    unfold DataW.trodStep at h
    rw [Try.underlying9] at h
    cases c <;> simp at h
    exact ⟨_, rfl, h.1⟩

theorem ch_int {m : Nat} {c : Value} {y : DataW H × List MemPlace} (h : DataW.trod enc Try.prog w base spare held m 3 [c] = some y) : ∃ n, c = .int .i64 n ∧ (Lit.int .i64 n).wf = true := by
  cases m with
  | zero => simp [DataW.trod] at h
  | succ m =>
    rw [DataW.trod_step] at h
    unfold DataW.trodStep at h
    rw [Try.underlying3] at h
    cases c <;> simp at h
    rename_i k n
    obtain ⟨⟨rfl, h2⟩, _⟩ := h
    exact ⟨n, rfl, h2⟩

theorem ch_bool {m : Nat} {c : Value} {y : DataW H × List MemPlace} (h : DataW.trod enc Try.prog w base spare held m 4 [c] = some y) : ∃ n, c = .bool n := by
  cases m with
  | zero => simp [DataW.trod] at h
  | succ m =>
    rw [DataW.trod_step] at h
    unfold DataW.trodStep at h
    rw [Try.underlying4] at h
    cases c <;> simp at h
    exact ⟨_, rfl⟩

/-- What is asked of an account that came in. -/
def AcOk (a : Ac) : Prop := a.code.size ≤ maxLen ∧ a.name.size ≤ maxLen ∧ (Lit.int .i64 a.kind).wf = true ∧ a.par.size ≤ maxLen

theorem acct_cells : Try.prog.cellsOf 47 = 5 := by kernel_rfl
theorem acct_str : Try.prog.cellsOf 9 = 1 := by kernel_rfl
theorem acct_int : Try.prog.cellsOf 3 = 1 := by kernel_rfl
theorem acct_bool : Try.prog.cellsOf 4 = 1 := by kernel_rfl

theorem open_acct {m : Nat} {cs : List Value} {x : DataW H × List MemPlace} (h : DataW.trod enc Try.prog w base spare held m 47 cs = some x) : ∃ a : Ac, cs = a.cells.toList ∧ AcOk a := by
  cases m with
  | zero => simp [DataW.trod] at h
  | succ m =>
    rw [DataW.trod_step] at h
    unfold DataW.trodStep at h
    rw [Try.underlying47] at h
    simp only [acct_cells] at h
    split at h
    · rename_i hl
      match cs, hl with
      | [c0, c1, c2, c3, c4], _ =>
        simp [acct_str, acct_int, acct_bool] at h
        cases h0 : DataW.trod enc Try.prog w base spare held m 9 [c0]
        · simp [h0] at h
        cases h1 : DataW.trod enc Try.prog w base spare held m 9 [c1]
        · simp [h0, h1] at h
        cases h2 : DataW.trod enc Try.prog w base spare held m 3 [c2]
        · simp [h0, h1, h2] at h
        cases h3 : DataW.trod enc Try.prog w base spare held m 9 [c3]
        · simp [h0, h1, h2, h3] at h
        cases h4 : DataW.trod enc Try.prog w base spare held m 4 [c4]
        · simp [h0, h1, h2, h3, h4] at h
        obtain ⟨f, rfl, hf⟩ := ch_string h0
        obtain ⟨t, rfl, ht⟩ := ch_string h1
        obtain ⟨p, rfl, hp⟩ := ch_int h2
        obtain ⟨n, rfl, hn⟩ := ch_string h3
        obtain ⟨d, rfl⟩ := ch_bool h4
        exact ⟨⟨f, t, p, n, d⟩, rfl, hf, ht, hp, hn⟩
    · cases h

theorem ac_cells (w : World) (b off : Nat) (a : Ac) (h : ∀ i, i < 5 → w.cell? ⟨b, off + i, none⟩ = a.cells.toList[i]?) : AcAt w b off a :=
  ⟨h 0 (by omega), h 1 (by omega), h 2 (by omega), h 3 (by omega), h 4 (by omega)⟩

theorem ch_add (b off n : Nat) : (⟨b, off, none⟩ : Addr).add n = ⟨b, off + n, none⟩ := by
  unfold Addr.add
  split
  · rename_i h; subst h; rfl
  · rfl

/-- A chart that came in. -/
theorem acs_of_trod {W : World} {a : Option Addr} {len cap fuel : Nat} {x : DataW H × List MemPlace} (h : DataW.trod enc Try.prog W 0 (fun _ => true) true fuel 22 [.slice a len cap] = some x) :
    ∃ l : List Ac, l.length = len ∧ (∀ k, k < l.length → AcOk (l.getD k ac0)) ∧ IsSl W a l cap := by
  rcases open_slice Try.underlying22 h with ⟨hcs, _⟩ | ⟨x, l, c, m, n, D, Pl, hcs, _, hl, hm, hmm, _, hx⟩
  · simp at hcs
    obtain ⟨rfl, rfl, rfl⟩ := hcs
    exact ⟨[], rfl, by simp, ⟨by simp, .inl rfl⟩⟩
  · simp at hcs
    obtain ⟨rfl, rfl, rfl⟩ := hcs
    have hmm2 : m = cap := hmm
    rw [acct_cells] at hx
    have hr : ∀ i, i < len → ∃ r : Ac, (∀ j, j < 5 → W.cell? ((x.add (i * 5)).add j) = r.cells.toList[j]?) ∧ AcOk r := fun i hi => by
      obtain ⟨cs', h1, h2⟩ := hx i (by omega)
      obtain ⟨r, rfl, ok⟩ := open_acct h2
      exact ⟨r, (World.cells?_some h1).2.2, ok⟩
    obtain ⟨f, hf⟩ := @choose_lt Ac ⟨ac0⟩ _ _ hr
    have hget : ∀ k, k < len → ((List.range len).map f).getD k ac0 = f k := fun k hk => by simp [List.getD, hk]
    have hlen : ((List.range len).map f).length = len := by simp
    refine ⟨(List.range len).map f, hlen, fun k hk => ?_, ⟨by rw [hlen]; exact hl, ?_⟩⟩
    · rw [hlen] at hk
      rw [hget k hk]
      exact (hf k hk).2
    · by_cases h0 : len = 0
      · subst h0
        exact .inl rfl
      · right
        obtain ⟨b, off, spot⟩ := x
        have hc : W.cell? ⟨b, off, spot⟩ = some (.string (f 0).code) := (hf 0 (by omega)).1 0 (by omega)
        have hspot : spot = none := World.cell?_spot hc
        subst hspot
        have hlt : b < W.heap.size := World.block_lt_of_cell? _ _ hc
        refine ⟨b, off, rfl, hlt, fun k hk => ?_⟩
        rw [hlen] at hk
        rw [hget k hk]
        refine ac_cells W b (off + k * 5) (f k) (fun i hi => ?_)
        have := (hf k hk).1 i hi
        rw [ch_add, ch_add] at this
        exact this
end
end Go.Proofs.Ytmaifbemfcmmgaa

namespace Go.Proofs.Ytmaifbemfcmmgaa
set_option linter.unusedVariables false
set_option linter.unusedSimpArgs false
set_option maxRecDepth 100000
open Go.RowKit Go.Lib
theorem ldP_str : Try.prog.cellsOf 9 = 1 := by kernel_rfl
theorem ldP_int : Try.prog.cellsOf 3 = 1 := by kernel_rfl
/-- A place as it can be in memory. -/
structure PkOk (k : Pk) : Prop where
  ent : -9223372036854775808 ≤ k.1 ∧ k.1 ≤ 9223372036854775807
  acc : k.2.1.size ≤ maxLen
  cur : k.2.2.size ≤ maxLen
/-- A balance as it can be in memory. -/
structure BlOk (x : Bl) : Prop where
  key : PkOk x.key
  amt : -9223372036854775808 ≤ x.amt ∧ x.amt ≤ 9223372036854775807
end Go.Proofs.Ytmaifbemfcmmgaa

namespace Go.Proofs.Ytmaifbemfcmmgaa
set_option linter.unusedVariables false
set_option linter.unusedSimpArgs false
set_option maxRecDepth 100000
open Go.RowKit Go.Lib

theorem ld_add (b off i : Nat) : (⟨b, off, none⟩ : Addr).add i = ⟨b, off + i, none⟩ := by
  rcases Nat.eq_zero_or_pos i with h | h
  · subst h; simp [Addr.add]
  · simp [Addr.add]; omega
theorem ld_wf {n : Int} (h : (Lit.int .i64 n).wf = true) : -9223372036854775808 ≤ n ∧ n ≤ 9223372036854775807 := by
  simp [Lit.wf, IntKind.min, IntKind.max, IntKind.bits, IntKind.signed] at h
  omega
section
variable {H : Type} {enc : TypeId × Value → H}
theorem ld_cell_string {w : World} {base : Nat} {spare : Nat → Bool} {held : Bool} {m : Nat} {c : Value} {y : DataW H × List MemPlace} (h : DataW.trod enc Try.prog w base spare held m 9 [c] = some y) : ∃ s, c = .string s ∧ s.size ≤ maxLen := by
  cases m with
  | zero => simp [DataW.trod] at h
  | succ m =>
    rw [DataW.trod_step] at h
    unfold DataW.trodStep at h
    rw [Try.underlying9] at h
    cases c <;> simp at h
    exact ⟨_, rfl, h.1⟩

theorem ld_cell_int {w : World} {base : Nat} {spare : Nat → Bool} {held : Bool} {m : Nat} {c : Value} {y : DataW H × List MemPlace} (h : DataW.trod enc Try.prog w base spare held m 3 [c] = some y) : ∃ n, c = .int .i64 n ∧ (Lit.int .i64 n).wf = true := by
  cases m with
  | zero => simp [DataW.trod] at h
  | succ m =>
    rw [DataW.trod_step] at h
    unfold DataW.trodStep at h
    rw [Try.underlying3] at h
    cases c <;> simp at h
    rename_i k n
    obtain ⟨⟨rfl, h2⟩, _⟩ := h
    exact ⟨n, rfl, h2⟩

theorem ld_bal_cells : Try.prog.cellsOf 30 = 4 := by kernel_rfl
theorem ld_open_bal {w : World} {base : Nat} {spare : Nat → Bool} {held : Bool} {m : Nat} {cs : List Value} {x : DataW H × List MemPlace} (h : DataW.trod enc Try.prog w base spare held m 30 cs = some x) : ∃ a : Bl, cs = a.cells.toList ∧ BlOk a := by
  cases m with
  | zero => simp [DataW.trod] at h
  | succ m =>
    rw [DataW.trod_step] at h
    unfold DataW.trodStep at h
    rw [Try.underlying30] at h
    simp only [ld_bal_cells] at h
    split at h
    · rename_i hl
      match cs, hl with
      | [c0, c1, c2, c3], _ =>
        simp [ldP_str, ldP_int] at h
        cases h0 : DataW.trod enc Try.prog w base spare held m 3 [c0]
        · simp [h0] at h
        cases h1 : DataW.trod enc Try.prog w base spare held m 9 [c1]
        · simp [h0, h1] at h
        cases h2 : DataW.trod enc Try.prog w base spare held m 9 [c2]
        · simp [h0, h1, h2] at h
        cases h3 : DataW.trod enc Try.prog w base spare held m 3 [c3]
        · simp [h0, h1, h2, h3] at h
        obtain ⟨f, rfl, hf⟩ := ld_cell_int h0
        obtain ⟨s, rfl, hs⟩ := ld_cell_string h1
        obtain ⟨t, rfl, ht⟩ := ld_cell_string h2
        obtain ⟨p, rfl, hp⟩ := ld_cell_int h3
        exact ⟨⟨f, s, t, p⟩, rfl, ⟨ld_wf hf, hs, ht⟩, ld_wf hp⟩
    · cases h

/-- Balances that came in. -/
theorem ld_bls_of_trod {W : World} {a : Option Addr} {len cap fuel : Nat} {x : DataW H × List MemPlace} (h : DataW.trod enc Try.prog W 0 (fun _ => true) true fuel 23 [.slice a len cap] = some x) :
    ∃ l : List Bl, l.length = len ∧ IsBl W a l cap ∧ (∀ x ∈ l, BlOk x) ∧ len ≤ maxLen := by
  rcases Go.Deep.open_slice Try.underlying23 h with ⟨hcs, _⟩ | ⟨x, l, c, m, n, D, Pl, hcs, _, hl, hm, hmm, _, hx⟩
  · simp at hcs
    obtain ⟨rfl, rfl, rfl⟩ := hcs
    exact ⟨[], rfl, ⟨by simp, .inl rfl⟩, by simp, by unfold maxLen; omega⟩
  · simp at hcs
    obtain ⟨rfl, rfl, rfl⟩ := hcs
    have hmm2 : m = cap := hmm
    rw [ld_bal_cells] at hx
    have hr : ∀ i, i < len → ∃ r : Bl, (∀ j, j < 4 → W.cell? ((x.add (i * 4)).add j) = r.cells.toList[j]?) ∧ BlOk r := fun i hi => by
      obtain ⟨cs', h1, h2⟩ := hx i (by omega)
      obtain ⟨r, rfl, hw⟩ := ld_open_bal h2
      exact ⟨r, (World.cells?_some h1).2.2, hw⟩
    obtain ⟨f, hf⟩ := @Go.Deep.choose_lt Bl ⟨bl0⟩ _ _ hr
    have hget : ∀ k, k < len → ((List.range len).map f).getD k bl0 = f k := fun k hk => by simp [List.getD, hk]
    have hlen : ((List.range len).map f).length = len := by simp
    refine ⟨(List.range len).map f, hlen, ⟨by rw [hlen]; exact hl, ?_⟩, ?_, Nat.le_trans hl hm⟩
    · by_cases h0 : len = 0
      · subst h0
        exact .inl rfl
      · right
        obtain ⟨b, off, spot⟩ := x
        have hc : W.cell? ⟨b, off, spot⟩ = some (.int .i64 (f 0).ent) := (hf 0 (by omega)).1 0 (by omega)
        have hspot : spot = none := World.cell?_spot hc
        subst hspot
        have hlt : b < W.heap.size := World.block_lt_of_cell? _ _ hc
        refine ⟨b, off, rfl, hlt, fun k hk => ?_⟩
        rw [hlen] at hk
        rw [hget k hk]
        have C : ∀ i, i < 4 → W.cell? ⟨b, off + k * 4 + i, none⟩ = (f k).cells.toList[i]? := fun i hi => by
          have := (hf k hk).1 i hi
          rw [ld_add, ld_add] at this
          exact this
        exact ⟨C 0 (by omega), C 1 (by omega), C 2 (by omega), C 3 (by omega)⟩
    · intro y hy
      obtain ⟨k, hk, rfl⟩ := List.mem_map.1 hy
      exact (hf k (List.mem_range.1 hk)).2

end

end Go.Proofs.Ytmaifbemfcmmgaa

namespace Go.Proofs.Ytmaifbemfcmmgaa
open Go.ChangeShapes Go.WideShapes Go.ChangeAt Go.RowKit Go.Deep
open Go.ChangeMaps (open_string shut_string)
set_option linter.unusedVariables false
set_option linter.unusedSimpArgs false

theorem rnone_own : ownKnob Try.prog.godebug = none := by kernel_rfl
theorem rnone_laidOut : laidOutB Try.prog = true := by kernel_rfl

set_option maxRecDepth 100000 in
theorem rnone_lifted (os : Os) (started : os.Started) (H : Type) (enc : TypeId × Value → H) :
    ReturnsInHanded {} Try.checked os 3 .any (Rows.revalueNoneSpec.pre6 enc Try.prog Try.f3 Rows.revalueNoneRow.domain false) (Rows.revalueNoneSpec.post enc Try.prog Try.f3 false true false false) := by
  refine returnsInHanded_of_change_sized (C := Try.checked) rnone_own started (by kernel_rfl) Try.func3
    (ChangeSpec.witness6 (enc := enc) (C := Try.checked) false ⟨#[], #[.slice none 0 0, .slice none 0 0, .int .i64 0, .int .i64 0], []⟩ 8 (by kernel_rfl) (by kernel_rfl) (by kernel_rfl) (by kernel_rfl)) ?_
  intro W base args ds gs before hval0 hW hcnd hsz0 _
  have hsz : (DataW.weightsEach Try.prog (Try.f3.params.toList ++ Rows.revalueNoneSpec.plain.varTypes Try.prog) (ds ++ gs)).all (· ≤ reachBytes) = true := hsz0
  clear hsz0
  have hval : ∀ (j : Nat) t v, Try.f3.params[j]? = some t → args[j]? = some v → Value.okWide Try.prog W .any base t v := hval0
  have hW' := hW
  obtain ⟨p, q, hA0, hV, rfl, hfz, hnd⟩ := hW
  have hA : DataW.TrodAll enc Try.prog W 0 (fun _ => true) true Try.f3.params.toList args.toList ds p := hA0
  rw [Try.params3] at hA hval hsz
  obtain ⟨v0, vs0, d0, ds0, p0, q0, hargs, rfl, rfl, h0, r0⟩ := trodAll_cons hA
  obtain ⟨v1, vs1, d1, ds1, p1, q1, rfl, rfl, rfl, h1, r1⟩ := trodAll_cons r0
  obtain ⟨v2, vs2, d2, ds2, p2, q2, rfl, rfl, rfl, h2, r2⟩ := trodAll_cons r1
  obtain ⟨v3, vs3, d3, ds3, p3, q3, rfl, rfl, rfl, h3, r3⟩ := trodAll_cons r2
  obtain ⟨rfl, rfl, rfl⟩ := trodAll_nil r3
  obtain rfl : args = #[v0, v1, v2, v3] := by cases args; simp_all
  obtain ⟨rfl, rfl⟩ := trodVars_none hV
  obtain ⟨a0, len0, cap0, rfl⟩ := okWide_slice Try.underlying22 (hval 0 22 v0 rfl rfl)
  have k0 := h0
  have lt0 : ∀ x ∈ p0, x.block < W.heap.size := by obtain ⟨m, hm⟩ := k0; exact DataW.trod_lt m _ _ _ hm
  obtain ⟨c0, hl0, hac0, hsl0⟩ : ∃ l : List Ac, l.length = len0 ∧ (∀ k, k < l.length → AcOk (l.getD k ac0)) ∧ IsSl W a0 l cap0 := by
    obtain ⟨fuel, hf⟩ := h0
    exact acs_of_trod hf
  subst hl0
  obtain ⟨a1, len1, cap1, rfl⟩ := okWide_slice Try.underlying23 (hval 1 23 v1 rfl rfl)
  have k1 := h1
  have lt1 : ∀ x ∈ p1, x.block < W.heap.size := by obtain ⟨m, hm⟩ := k1; exact DataW.trod_lt m _ _ _ hm
  have hz1 : len1 * 48 ≤ 140737488355328 := by
    obtain ⟨fuel, hf⟩ := h1
    rcases open_slice Try.underlying23 hf with ⟨hcs, _⟩ | ⟨x, l, cp, m, n, D, Pl, hcs, _, hl, hm, hmm, hx, _⟩
    · simp [Value.cells] at hcs
      omega
    · simp [Value.cells] at hcs
      obtain ⟨rfl, rfl, rfl⟩ := hcs
      simp only [Prod.mk.injEq] at hx
      obtain ⟨rfl, _⟩ := hx
      have := sized_slice hsz (j := 1) (t := 23) (e := 30) rfl rfl Try.underlying23
      rw [show Try.prog.bytesOf 30 = 48 from by kernel_rfl] at this
      simp only [List.length_map, List.length_range, reachBytes] at this
      omega
  obtain ⟨l1, hl1, hi1, ho1, hm1⟩ : ∃ l : List Bl, l.length = len1 ∧ IsBl W a1 l cap1 ∧ (∀ x ∈ l, BlOk x) ∧ len1 ≤ maxLen := by
    obtain ⟨fuel, hf⟩ := h1
    exact ld_bls_of_trod hf
  subst hl1
  obtain ⟨x2, rfl, rfl, rfl, w2⟩ := open_int Try.underlying3 (hval 2 3 v2 rfl rfl) h2
  obtain ⟨x3, rfl, rfl, rfl, w3⟩ := open_int Try.underlying3 (hval 3 3 v3 rfl rfl) h3
  clear hA0 hval0
  refine (rnone_walk a0 a1 cap0 cap1 c0 l1 x2 x3 W hsl0 hi1 hz1).mono fun e W' ⟨he, bel⟩ => ?_
  subst he
  exact ⟨_, rfl, _, _, _, [], _, [], hW', trodAll_mk1 (shut_bool Try.underlying4 _), (trodAll_cons_mk (Below.trod rnone_laidOut (by kernel_rfl) (of_decide_eq_true (by kernel_rfl)) k0 bel lt0) (trodAll_cons_mk (Below.trod rnone_laidOut (by kernel_rfl) (of_decide_eq_true (by kernel_rfl)) k1 bel lt1) (trodAll_cons_mk (shut_int Try.underlying3 w2) (trodAll_cons_mk (shut_int Try.underlying3 w3) trodAll_mk0)))), rfl, bel.frame _, fun h => by cases h⟩

theorem rnone_over : Rows.revalueNoneRow.holds Try.pinned (OpenSpec.ofChange Rows.revalueNoneSpec) :=
  OpenClaim.holds_of_wide 3 Try.f3 rfl rfl rfl rfl rfl rfl rfl ⟨rfl, rfl, rfl, rfl, rfl⟩ rfl rfl rfl rfl rfl (by kernel_rfl) Try.func3 (by kernel_rfl)
    (of_decide_eq_true (by kernel_rfl)) (by unfold Func.isWrapper; first | (rw [if_pos (by decide +kernel)]; kernel_rfl) | (rw [if_neg (by decide +kernel)]; exact ⟨rfl, rfl⟩))
    (fun os started H enc _ => rnone_lifted os started H enc)

/-- The statement. -/
theorem revalueNone_holds : Rows.RevalueNoneSaid := rnone_over
#print axioms revalueNone_holds
end Go.Proofs.Ytmaifbemfcmmgaa
