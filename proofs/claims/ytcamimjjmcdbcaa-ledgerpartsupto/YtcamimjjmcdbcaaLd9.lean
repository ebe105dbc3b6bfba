/-
  The contracts of ledger.checkEntries and ledger.ofEntries.
-/
import Derived.Test.YtcamimjjmcdbcaaLd8
namespace Go.Proofs.Ytcamimjjmcdbcaa
set_option linter.unusedVariables false
set_option linter.unusedSimpArgs false
set_option maxRecDepth 100000
open Go.RowKit Go.Lib
/-- A line whose amount is none. -/
def ldWrong (x : Ln) : Bool := !decide (-1000000000000000 ≤ x.amt ∧ x.amt ≤ 1000000000000000)
theorem ckE1_any (x : Ln) (w : World) :
    Calls Try.prog 31 #[.agg x.cells] w fun e w' => e = .returned (.bool (ldWrong x)) ∧ Below w.heap.size w w' := by
  obtain ⟨a0, a1, a3⟩ := x
  simp only [Ln.cells, ldWrong]
  have HI : Hid (∀ W, Calls Try.prog 15 #[.int .i64 a3, .int .i64 1000000000000000] W fun e w' => e = .returned (.bool (decide (-1000000000000000 ≤ a3 ∧ a3 ≤ 1000000000000000))) ∧ w' = W) := fun W => isWithin_any a3 1000000000000000 (by decide) W
  generalize decide (-1000000000000000 ≤ a3 ∧ a3 ≤ 1000000000000000) = r at *
  go_enter Try.func31, Try.ntmps31
  go_wp2_with (go_at_call 15; refine (HI.out _).mono ?_; rintro e w' ⟨rfl, rfl⟩)
  go_ret
  exact ⟨rfl, (Below.refl _ w).alloc (Nat.le_refl _) _⟩
theorem ckE1_tells : LTells 31 ldWrong :=
  ⟨fun args W => en_enters Try.func31 (by kernel_rfl) ⟨_, rfl⟩ args W, ckE1_any⟩
/-- What stands against adding entries up. -/
def ceE (L : List Je) : Int := if 200 < L.length then 4 else if L.any (fun x => x.lns.any ldWrong) = true then 1 else 0
theorem IsJs.some {w : World} {a : Option Addr} {L : List Je} {cap k : Nat} (h : IsJs w a L cap) (hk : k < L.length) : ∃ b off, a = some ⟨b, off, none⟩ ∧ b < w.heap.size ∧ ∀ k, k < L.length → JeAt w b (off + k * 4) (L.getD k je0) := by
  rcases h.lies with h | h
  · rw [h] at hk; simp at hk
  · exact h
/-- Lines are at most so many. -/
def JeFit (L : List Je) : Prop := ∀ x ∈ L, x.lns.length ≤ 9223372036854775807

set_option maxHeartbeats 4000000 in
theorem ckEntries_any (a : Option Addr) (cap : Nat) (L : List Je) (w : World) (hlen : L.length ≤ 9223372036854775807) (hfit : JeFit L) (h : IsJs w a L cap) :
    Calls Try.prog 23 #[.slice a L.length cap] w fun e w' => e = .returned (enE (ceE L)) ∧ Below w.heap.size w w' := by
  by_cases h2 : 200 < L.length
  · have e4 : ceE L = 4 := if_pos h2
    rw [e4, enE_ne (by decide)]
    have i1 : (200 : Int) < L.length := by omega
    clear h e4 hfit
    go_enter Try.func23, Try.ntmps23
    go_wp2
    go_ret
    exact ⟨rfl, Below.refl _ _⟩
  have i1 : ¬ (200 : Int) < L.length := by omega
  have i2 : (L.length : Int) ≤ 200 := by omega
  obtain ⟨res, hres⟩ : ∃ res, enE (ceE L) = res := ⟨_, rfl⟩
  have Hres : Hid (enE (if L.any (fun x => x.lns.any ldWrong) = true then 1 else 0) = res) := by
    rw [← hres]; unfold ceE; rw [if_neg h2]; exact rfl
  rw [hres]
  clear hres
  have HL : Hid (IsJs w a L cap ∧ JeFit L) := ⟨h, hfit⟩
  clear h hfit
  go_enter Try.func23, Try.ntmps23
  go_wp2
  go_loopw [11] (fun i wr => ∃ k : Nat, k ≤ L.length ∧ i = .int .i64 k ∧ Hid ((L.take k).any (fun x => x.lns.any ldWrong) = false) ∧ Hid (Below w.heap.size w wr)) (fun i _ => L.length - (intOf i).toNat)
  case atStart => exact ⟨0, Nat.zero_le _, rfl, by simp [Hid], Below.refl _ _⟩
  case round =>
    obtain ⟨k, hk, rfl, H0, HB⟩ := hrel
    by_cases hlt : k < L.length
    · obtain ⟨b, off, rfl, hb, hc⟩ := HL.out.1.some hlt
      have hy := (hc k hlt).below HB.out hb
      have hln := (HL.out.1.lns _ (jes_mem L k hlt)).below HB.out
      have hll := HL.out.2 _ (jes_mem L k hlt)
      have i0 : (0 : Int) ≤ k := by omega
      have i3 : (k : Int) < L.length := by omega
      obtain ⟨y, hyy⟩ : ∃ y, L.getD k je0 = y := ⟨_, rfl⟩
      have HY : Hid (L.getD k je0 = y) := hyy
      rw [hyy] at hy hln hll
      clear hyy hc
      obtain ⟨y0, y1, y2, ya, yc, yl⟩ := y
      obtain ⟨d0, d1, d2, d3⟩ := hy
      simp only at d0 d1 d2 d3 hln hll
      obtain ⟨V, hV⟩ : ∃ V, wr.alloc (.cells #[.string y0, .int .i64 y1, .int .i64 y2, .slice ya yl.length yc] 35) = V := ⟨_, rfl⟩
      have hbV : Below wr.heap.size wr V := by rw [← hV]; exact (Below.refl _ _).alloc (Nat.le_refl _) _
      have HC : Hid (Calls _ _ _ V _) := lnContains_any 31 ldWrong ya yc yl V ckE1_tells (by omega) (hln.below hbV)
      have HV : Hid (wr.alloc (.cells #[.string y0, .int .i64 y1, .int .i64 y2, .slice ya yl.length yc] 35) = V) := hV
      have HBV : Hid (Below w.heap.size w V) := HB.out.trans (hbV.mono HB.out.size)
      clear hV hbV hln
      cases hq : yl.any ldWrong
      · rw [hq] at HC
        have HN : Hid ((L.take (k + 1)).any (fun x => x.lns.any ldWrong) = false) := by
          unfold Hid
          rw [jes_take L k hlt, List.any_append, H0.out, HY.out]
          simp [hq]
        clear hq
        go_wp2_with (go_at_call 30; rw [HV.out]; refine HC.out.mono ?_; rintro e w' ⟨rfl, hbc⟩)
        have HB2 : Hid (Below w.heap.size w w') := HBV.out.trans (hbc.mono HBV.out.size)
        go_roundw
        case rel => exact ⟨k + 1, by omega, by go_num, HN, HB2⟩
        case measure => simp [intOf]; omega
      · rw [hq] at HC
        have er : res = enE 1 := by
          rw [← Hres.out, if_pos]
          exact List.any_eq_true.2 ⟨L.getD k je0, jes_mem L k hlt, by rw [HY.out]; exact hq⟩
        rw [enE_ne (by decide)] at er
        subst er
        clear hq Hres
        go_wp2_with (go_at_call 30; rw [HV.out]; refine HC.out.mono ?_; rintro e w' ⟨rfl, hbc⟩)
        go_ret
        exact ⟨rfl, HBV.out.trans (hbc.mono HBV.out.size)⟩
    · have hk2 : k = L.length := by omega
      subst hk2
      have er : res = enE 0 := by
        have h0 := H0.out
        rw [List.take_length] at h0
        rw [← Hres.out, h0]
        rfl
      rw [enE_zero] at er
      subst er
      clear Hres
      go_wp2
      go_ret
      exact ⟨rfl, HB.out⟩
/-- An entry's lines as balances. -/
def lnsB (x : Je) : List Bl := x.lns.map fun n => ⟨x.ent, n.acc, n.cur, n.amt⟩
/-- Those of entries that count. -/
def flatB (p : Je → Bool) (L : List Je) : List Bl := (L.filter p).flatMap lnsB
theorem lnsB_length (x : Je) : (lnsB x).length = x.lns.length := by simp [lnsB]
theorem lnsB_get (x : Je) (k : Nat) (h : k < x.lns.length) : (lnsB x).getD k bl0 = ⟨x.ent, (x.lns.getD k ln0).acc, (x.lns.getD k ln0).cur, (x.lns.getD k ln0).amt⟩ := by
  rw [List.getD_eq_getElem?_getD, List.getD_eq_getElem?_getD, lnsB, List.getElem?_map, List.getElem?_eq_getElem h]
  rfl
theorem flatB_snoc_no {p : Je → Bool} {L : List Je} {x : Je} (h : p x = false) : flatB p (L ++ [x]) = flatB p L := by
  unfold flatB
  rw [List.filter_append]
  simp [h]
theorem flatB_snoc {p : Je → Bool} {L : List Je} {x : Je} (h : p x = true) : flatB p (L ++ [x]) = flatB p L ++ lnsB x := by
  unfold flatB
  rw [List.filter_append, List.flatMap_append]
  simp [h]
/-- What is asked of a function that is told an entry and says yes or no. -/
structure JTells (g : Nat) (cb : Array Value) (p : Je → Bool) (n : Nat) (W0 : World) : Prop where
  eg : ∀ args W, (callFunc g args).run Try.prog W = .ok (.enter g args) W
  call : ∀ (x : Je) U, Below n W0 U → Calls Try.prog g (#[.agg x.cells] ++ cb) U fun e w' => e = .returned (.bool (p x)) ∧ Below U.heap.size U w'
/-- Entries as they can be in memory. -/
structure JsOk (L : List Je) : Prop where
  ent : ∀ x ∈ L, -9223372036854775808 ≤ x.ent ∧ x.ent ≤ 9223372036854775807
  per : ∀ x ∈ L, -9223372036854775808 ≤ x.per ∧ x.per ≤ 9223372036854775807
  lns : ∀ x ∈ L, ∀ n ∈ x.lns, n.acc.size ≤ maxLen ∧ n.cur.size ≤ maxLen
  all : (L.flatMap lnsB).length ≤ 17592186044400
theorem JsOk.fit {L : List Je} (h : JsOk L) : JeFit L := fun x hx => by
  have h1 := h.all
  obtain ⟨s, t, rfl⟩ := List.append_of_mem hx
  rw [List.flatMap_append, List.length_append, List.flatMap_cons, List.length_append, lnsB_length] at h1
  omega
theorem flatB_len (p : Je → Bool) : ∀ L : List Je, (flatB p L).length ≤ (L.flatMap lnsB).length
  | [] => by simp [flatB]
  | x :: L => by
    have ih := flatB_len p L
    unfold flatB at ih ⊢
    rw [List.filter_cons]
    split
    · rw [List.flatMap_cons, List.flatMap_cons, List.length_append, List.length_append]; omega
    · rw [List.flatMap_cons, List.length_append]; omega
theorem flatB_pre (p : Je → Bool) (L : List Je) (k : Nat) (h : k < L.length) : (flatB p (L.take k)).length + (L.getD k je0).lns.length ≤ (L.flatMap lnsB).length := by
  have h1 := flatB_len p (L.take k)
  have e : L = L.take k ++ L.getD k je0 :: L.drop (k + 1) := by rw [← jes_drop L k h, List.take_append_drop]
  have e2 : (L.flatMap lnsB).length = ((L.take k).flatMap lnsB).length + ((L.getD k je0).lns.length + ((L.drop (k + 1)).flatMap lnsB).length) := by
    conv => lhs; rw [e]
    rw [List.flatMap_append, List.length_append, List.flatMap_cons, List.length_append, lnsB_length]
  omega
theorem ce_zero {L : List Je} (h : ceE L = 0) : L.length ≤ 200 ∧ ∀ x ∈ L, ∀ n ∈ x.lns, -1000000000000000 ≤ n.amt ∧ n.amt ≤ 1000000000000000 := by
  unfold ceE at h
  split at h
  · omega
  · split at h
    · omega
    · rename_i h1 h2
      refine ⟨by omega, fun x hx n hn => ?_⟩
      false_or_by_contra
      rename_i h3
      refine h2 (List.any_eq_true.2 ⟨x, hx, List.any_eq_true.2 ⟨n, hn, ?_⟩⟩)
      unfold ldWrong
      rw [decide_eq_false h3]
      rfl
theorem flatB_mem {p : Je → Bool} {L : List Je} {y : Bl} (h : y ∈ flatB p L) : ∃ x ∈ L, p x = true ∧ ∃ n ∈ x.lns, y = ⟨x.ent, n.acc, n.cur, n.amt⟩ := by
  obtain ⟨x, hx, hy⟩ := List.mem_flatMap.1 h
  obtain ⟨h1, h2⟩ := List.mem_filter.1 hx
  obtain ⟨n, hn, rfl⟩ := List.mem_map.1 hy
  exact ⟨x, h1, h2, n, hn, rfl⟩
theorem flatB_ok {p : Je → Bool} {L : List Je} (h : JsOk L) (hc : ceE L = 0) : ∀ y ∈ flatB p L, BlOk y := fun y hy => by
  obtain ⟨x, hx, _, n, hn, rfl⟩ := flatB_mem hy
  have h1 := (ce_zero hc).2 x hx n hn
  exact ⟨⟨h.ent x hx, (h.lns x hx n hn).1, (h.lns x hx n hn).2⟩, by simp only; omega⟩
/-- What is wrong with the balances of entries. -/
def oeE (p : Je → Bool) (L : List Je) : Int := if ceE L ≠ 0 then ceE L else tgE (parts (flatB p L))
/-- What comes of entries. -/
structure OeR (p : Je → Bool) (L : List Je) (R : List Bl) : Prop where
  sums : Sums (flatB p L) R
  len : R.length ≤ 200
  ok : ∀ x ∈ R, BlOk x
end Go.Proofs.Ytcamimjjmcdbcaa
