/-
  What is given out: for every chart, all pools, all balances, every entity and every period the call of daylaw3.AllotGives returns true, and its arguments read as they did. No condition.
-/
import Derived.Test.YtiolkeipgpkbmaaGreatDoorZg29
import Derived.Test.YtiolkeipgpkbmaaGreatDoorZg15
import Derived.Test.YtiolkeipgpkbmaaGreatDoorZg14
import Derived.Deep.Slices
import Derived.OpenShut
import Derived.Test.YtiolkeipgpkbmaaGreatDoorZg22
import Derived.KernelRfl
import Derived.Test.YtiolkeipgpkbmaaGreatDoorZg17
import Derived.Test.YtiolkeipgpkbmaaGreatDoorRows
import Derived.Test.YtiolkeipgpkbmaaGreatDoorCards
import Derived.Test.YtiolkeipgpkbmaaGreatDoorTie
import Derived.ChangeSame
import Derived.ChangeVars
import Derived.JoinedOf
import Derived.RowKit
import Derived.RowKitTokens
import Derived.LaidLaws
import Derived.LaidHandle
import Derived.Stop.Joined
import Derived.SevenTiedAt
import Derived.ProofKit
import Derived.Below
import Derived.ShutString
import Derived.ChangeOld
import Derived.SizedLaws
import Derived.Lib.LaidTab
import Derived.Stop.LaidErr
namespace Go.Proofs.YtiolkeipgpkbmaaGreatDoor
set_option linter.unusedVariables false
set_option linter.unusedSimpArgs false
set_option maxRecDepth 100000
open Go.RowKit Go.Lib

theorem ag_par_bd (pre : List Ac) (x : Ac) : 0 ≤ parBad pre x ∧ parBad pre x ≤ 12 := by
  unfold parBad
  split
  · omega
  · split
    · omega
    · split <;> omega
theorem ag_next_bd (pre : List Ac) (x : Ac) : 0 ≤ nextBad pre x ∧ nextBad pre x ≤ 12 := by
  have := ag_par_bd pre x
  unfold nextBad
  split
  · omega
  · split
    · omega
    · split <;> omega
theorem ag_go_bd : ∀ (r pre : List Ac), 0 ≤ chGo pre r ∧ chGo pre r ≤ 12
  | [], _ => by simp [chGo]
  | x :: r, pre => by
    have := ag_next_bd pre x
    rw [chGo]
    split
    · exact this
    · exact ag_go_bd r _
theorem ag_ch_bd (l : List Ac) : 0 ≤ chBad l ∧ chBad l ≤ 12 := by
  unfold chBad
  split
  · omega
  · exact ag_go_bd l []
theorem ag_leaf_bd (c : List Ac) (code : ByteArray) : 0 ≤ leafBad c code ∧ leafBad c code ≤ 12 := by
  unfold leafBad; split
  · omega
  · split <;> omega
theorem ag_first_bd {f : Nat → Int} (h : ∀ k, 0 ≤ f k ∧ f k ≤ 100) : ∀ n, 0 ≤ firstTo f n ∧ firstTo f n ≤ 100
  | 0 => ⟨Int.le_refl _, by show (0 : Int) ≤ 100; omega⟩
  | n + 1 => by
    have ih := ag_first_bd h n
    unfold firstTo
    split
    · exact ih
    · exact h n
theorem ag_sh_bd (ws : List Int) : 0 ≤ shBad ws ∧ shBad ws ≤ 6 := by
  rw [shBad_def]
  split
  · omega
  · split
    · omega
    · split <;> omega
theorem ag_po_bd (c : List Ac) (p : Po) : 0 ≤ poBad c p ∧ poBad c p ≤ 100 := by
  have h1 := ag_leaf_bd c p.acc
  have h2 := ag_first_bd (f := toBad c p.acc p.tos) (fun k => by
    have := ag_leaf_bd c (p.tos.getD k ByteArray.empty)
    unfold toBad
    split
    · omega
    · split <;> omega) p.tos.length
  have h3 := ag_sh_bd p.ws
  unfold poBad
  split
  · omega
  · split
    · omega
    · split
      · omega
      · split
        · omega
        · split
          · exact h2
          · omega
theorem ag_ps_bd (c : List Ac) (l : List Po) : 0 ≤ psBad c l ∧ psBad c l ≤ 100 := by
  have h1 := ag_ch_bd c
  unfold psBad
  split
  · omega
  · split
    · omega
    · exact ag_first_bd (fun k => ag_po_bd c (l.getD k po0)) _
theorem ag_chk_bd (b : List Bl) : 0 ≤ chk b ∧ chk b ≤ 100 := by
  have h1 : ∀ n, 0 ≤ chkTo b n ∧ chkTo b n ≤ 100 := fun n => by
    by_cases h : chkTo b n = 0
    · rw [h]; omega
    · induction n with
      | zero => exact absurd rfl h
      | succ n ih =>
        by_cases h0 : chkTo b n = 0
        · by_cases h2 : chkAt b n = 0
          · have := (chkTo_zero b (n + 1)).2 (fun k hk => by
              by_cases e : k = n
              · subst e; exact h2
              · exact (chkTo_zero b n).1 h0 k (by omega))
            exact absurd this h
          · rw [chkTo_first h0 h2 (Nat.lt_succ_self n)]
            unfold chkAt
            split
            · omega
            · split
              · omega
              · split <;> omega
        · have hk : ∃ k, k < n ∧ chkTo b k = 0 ∧ chkAt b k ≠ 0 := by
            have : ∀ m, chkTo b m ≠ 0 → ∃ k, k < m ∧ chkTo b k = 0 ∧ chkAt b k ≠ 0 := fun m => by
              induction m with
              | zero => intro hh; exact absurd rfl hh
              | succ m im =>
                intro hh
                by_cases hm : chkTo b m = 0
                · refine ⟨m, Nat.lt_succ_self m, hm, fun h3 => hh ((chkTo_zero b (m + 1)).2 fun k hk => ?_)⟩
                  by_cases e : k = m
                  · subst e; exact h3
                  · exact (chkTo_zero b m).1 hm k (by omega)
                · obtain ⟨k, k1, k2, k3⟩ := im hm
                  exact ⟨k, by omega, k2, k3⟩
            exact this n h0
          obtain ⟨k, k1, k2, k3⟩ := hk
          rw [chkTo_first k2 k3 (by omega : k < n + 1), ← chkTo_first k2 k3 k1]
          exact ih h0
  unfold chk
  split
  · omega
  · exact h1 _
theorem ag_al_bd (c : List Ac) (l : List Po) (b : List Bl) (en pe : Int) : 0 ≤ alBad c l b en pe ∧ alBad c l b en pe ≤ 100 := by
  have h1 := ag_ps_bd c l
  have h2 := ag_chk_bd b
  unfold alBad
  split
  · exact h1
  · split
    · exact h2
    · split
      · omega
      · exact ag_first_bd (fun k => by unfold hasBad; split <;> omega) _
theorem ag_is (n : Int) (h : 0 ≤ n ∧ n ≤ 100) : ErrIs (chE n) n := by
  by_cases h0 : n = 0
  · subst h0; exact .inl ⟨rfl, rfl⟩
  · rw [chE_ne h0]; exact .inr ⟨rfl, by omega, by omega⟩
theorem ag_len {c : List Ac} {l : List Po} {b : List Bl} {en pe : Int} (h : alBad c l b en pe = 0) : l.length ≤ 20 ∧ ∀ x ∈ alTo en pe b l l.length, x.lns.length ≤ 1000 := by
  have hp : psBad c l = 0 := by
    unfold alBad at h
    split at h
    · contradiction
    · rename_i h1; exact Decidable.of_not_not h1
  obtain ⟨_, p2, p3⟩ := psBad_ok hp
  refine ⟨p2, fun x hx => ?_⟩
  obtain ⟨i, hi, hx⟩ := List.mem_flatMap.1 hx
  have hi' := List.mem_range.1 hi
  unfold poE at hx
  split at hx
  · cases hx
  · rw [List.mem_singleton] at hx
    subst hx
    have h1 := (poBad_ok (p3 i hi')).2.2.1
    have h2 := List.length_filter_le (fun x => !isNo x) (allL (l.getD i po0) (getB b en (l.getD i po0).acc (l.getD i po0).cur))
    rw [allL_len] at h2
    show (goL _ _).length ≤ 1000
    unfold goL
    omega
theorem ag_toL {en pe : Int} {b : List Bl} {l : List Po} : ∀ k, (alTo en pe b l k).length ≤ k
  | 0 => by simp [alTo]
  | k + 1 => by
    have := ag_toL (en := en) (pe := pe) (b := b) (l := l) k
    rw [alTo_next, List.length_append]
    unfold poE
    split
    · simp; omega
    · simp; omega
set_option maxHeartbeats 8000000 in
theorem gives_walk (a a2 a3 : Option Addr) (cap cap2 cap3 : Nat) (c : List Ac) (l : List Po) (b : List Bl) (en pe : Int) (w : World) (h : IsSl w a c cap) (hok : ∀ k, k < c.length → (c.getD k ac0).code.size ≤ maxLen ∧ (c.getD k ac0).name.size ≤ maxLen) (hl : IsPs w a2 l cap2) (hll : l.length ≤ 9223372036854775807) (hb : IsBl w a3 b cap3) (hbl : b.length ≤ 9223372036854775807) (hg : ErrT w) :
    Calls Tryz.prog 3 #[.slice a c.length cap, .slice a2 l.length cap2, .slice a3 b.length cap3, .int .i64 en, .int .i64 pe] w fun e w' => e = .returned (.bool true) ∧ Below w.heap.size w w' := by
  have Err : Hid (∀ E c W, ErrIs E c → Below w.heap.size w W → Calls Tryz.prog 4 #[E, .int .i64 c] W fun e w' => e = .returned (.bool true) ∧ Below w.heap.size w w' ∧ Below W.heap.size W w') := fun E c W h hW => by
    refine (err_true h W (hg.below hW (Nat.le_refl _))).mono ?_
    rintro e w' ⟨rfl, hb⟩
    exact ⟨rfl, hW.trans (hb.mono hW.size), hb⟩
  have HC1 : Hid (Calls Tryz.prog 5 #[.slice a c.length cap, .slice a2 l.length cap2] w fun e w' => e = .returned (chE (psBad c l)) ∧ Below w.heap.size w w') := alCheck_any a a2 cap cap2 c l w h hl hll
  have HC2 : Hid (∀ W, Below w.heap.size w W → Calls Tryz.prog 6 #[.slice a c.length cap, .slice a2 l.length cap2] W fun e w' => e = .returned (.int .i64 (psBad c l)) ∧ Below w.heap.size w w') := fun W hW => by
    refine (refPools_any a a2 cap cap2 c l W (h.below hW) hok (hl.below hW) hll).mono ?_
    rintro e w' ⟨rfl, hb⟩
    exact ⟨rfl, hW.trans (hb.mono hW.size)⟩
  have HI1 : Hid (ErrIs (chE (psBad c l)) (psBad c l)) := ag_is _ (ag_ps_bd c l)
  have HI2 : Hid (ErrIs (chE (alBad c l b en pe)) (alBad c l b en pe)) := ag_is _ (ag_al_bd c l b en pe)
  have HA : Hid (∀ W, Below w.heap.size w W → Calls Tryz.prog 7 #[.slice a c.length cap, .slice a2 l.length cap2, .slice a3 b.length cap3, .int .i64 en, .int .i64 pe] W fun e w' => ∃ av cv L, e = .returned (.tuple #[.slice av L.length cv, .int .i64 (alBad c l b en pe)]) ∧ Hid (Below w.heap.size w w' ∧ IsJs w' av L cv ∧ L.map Je.ep = (if alBad c l b en pe = 0 then alTo en pe b l l.length else []))) := fun W hW => by
    refine (refAllot_any a a2 a3 cap cap2 cap3 c l b en pe W (h.below hW) hok (hl.below hW) hll (hb.below hW) hbl).mono ?_
    rintro e w' ⟨hbb, k1, k2⟩
    by_cases hz : alBad c l b en pe = 0
    · obtain ⟨v, L, rfl, hm, hL⟩ := k2 hz
      obtain ⟨av, cv, rfl, hj⟩ := hm.isJs
      exact ⟨av, cv, L, by rw [hz], hW.trans (hbb.mono hW.size), hj, by rw [if_pos hz]; exact hL⟩
    · exact ⟨none, 0, [], k1 hz, hW.trans (hbb.mono hW.size), ⟨Nat.le_refl _, .inl rfl, by simp⟩, by rw [if_neg hz]; rfl⟩
  have HE : Hid (∀ W, Below w.heap.size w W → Calls Tryz.prog 8 #[.slice a c.length cap, .slice a2 l.length cap2, .slice a3 b.length cap3, .int .i64 en, .int .i64 pe] W fun e w' => ∃ av cv L E, e = .returned (.tuple #[.slice av L.length cv, E]) ∧ E = chE (alBad c l b en pe) ∧ Hid (Below w.heap.size w w' ∧ Below W.heap.size W w' ∧ IsJs w' av L cv ∧ L.length ≤ 1000 ∧ (∀ x ∈ L, x.lns.length ≤ 1000) ∧ L.map Je.ep = (if alBad c l b en pe = 0 then alTo en pe b l l.length else []))) := fun W hW => by
    refine (alEntries_any a a2 a3 cap cap2 cap3 c l b en pe W (h.below hW) (hl.below hW) hll (hb.below hW) hbl).mono ?_
    rintro e w' ⟨hbb, k1, k2⟩
    by_cases hz : alBad c l b en pe = 0
    · obtain ⟨v, L, rfl, hm, hL⟩ := k2 hz
      obtain ⟨av, cv, rfl, hj⟩ := hm.isJs
      obtain ⟨n1, n2⟩ := ag_len hz
      refine ⟨av, cv, L, .nilIface, rfl, by rw [hz]; rfl, hW.trans (hbb.mono hW.size), hbb, hj, ?_, fun x hx => ?_, by rw [if_pos hz]; exact hL⟩
      · have h3 := congrArg List.length hL
        have h4 := ag_toL (en := en) (pe := pe) (b := b) (l := l) l.length
        rw [List.length_map] at h3
        omega
      · exact n2 x.ep (by rw [← hL]; exact List.mem_map_of_mem hx)
    · exact ⟨none, 0, [], _, k1 hz, rfl, hW.trans (hbb.mono hW.size), hbb, ⟨Nat.le_refl _, .inl rfl, by simp⟩, by simp, by simp, by rw [if_neg hz]; rfl⟩
  have HSm : Hid (∀ a1 a2 c1 c2 (L1 L2 : List Je) W, L1.length ≤ 1000 → L1.map Je.ep = L2.map Je.ep → (∀ x ∈ L1, x.lns.length ≤ 1000) → IsJs W a1 L1 c1 → IsJs W a2 L2 c2 → Calls Tryz.prog 9 #[.slice a1 L1.length c1, .slice a2 L2.length c2] W fun e w' => e = .returned (.bool true) ∧ Below W.heap.size W w') := fun a1 a2 c1 c2 L1 L2 W k1 k2 k3 k4 k5 => sameEntries_any a1 a2 c1 c2 L1 L2 W k1 k2 k3 k4 k5
  clear h hl hb hg hok
  generalize alBad c l b en pe = pb at *
  generalize psBad c l = nb at *
  obtain ⟨X, hX⟩ : ∃ X, chE nb = X := ⟨_, rfl⟩
  rw [hX] at HC1 HI1
  clear hX
  go_enter Tryz.func3, Tryz.ntmps3
  go_wp2_with fail
  refine HC1.out.mono ?_
  rintro e w1 ⟨rfl, B1⟩
  clear HC1
  go_wp2_with fail
  refine (HC2.out w1 B1).mono ?_
  rintro e w2 ⟨rfl, B2⟩
  clear HC2 B1
  go_wp2_with fail
  refine (Err.out _ _ w2 HI1.out B2).mono ?_
  rintro e w3 ⟨rfl, B3, _⟩
  clear B2 HI1
  go_wp2_with fail
  refine (HA.out w3 B3).mono ?_
  rintro e w4 ⟨ra, rc, RL, rfl, h4⟩
  clear HA B3
  go_wp2_with fail
  refine (HE.out w4 h4.out.1).mono ?_
  rintro e w5 ⟨ea, ec, EL, E, rfl, hE, h5⟩
  rw [← hE] at HI2
  clear HE hE
  go_wp2_with fail
  refine (Err.out _ _ w5 HI2.out h5.out.1).mono ?_
  rintro e w6 ⟨rfl, B6, B6'⟩
  have HS : Hid (Calls _ _ _ _ _) := HSm.out ea ra ec rc EL RL w6 h5.out.2.2.2.1 (by rw [h5.out.2.2.2.2.2, h4.out.2.2]) h5.out.2.2.2.2.1 (h5.out.2.2.1.below B6') ((h4.out.2.1.below h5.out.2.1).below B6')
  clear HI2 HSm h4 h5 B6'
  go_wp2_with fail
  refine HS.out.mono ?_
  rintro e w7 ⟨rfl, hb7⟩
  have HB7 : Hid (Below w.heap.size w w7) := B6.trans (hb7.mono B6.size)
  clear HS hb7 B6
  go_wp2
  go_ret
  exact ⟨rfl, HB7.out⟩
end Go.Proofs.YtiolkeipgpkbmaaGreatDoor

namespace Go.Proofs.YtiolkeipgpkbmaaGreatDoor
set_option linter.unusedVariables false
set_option linter.unusedSimpArgs false
set_option maxRecDepth 100000
open Go.RowKit Go.Lib Go.Deep

section
variable {H : Type} {enc : TypeId × Value → H} {w : World} {base : Nat} {spare : Nat → Bool} {held : Bool}

theorem ch_string {m : Nat} {c : Value} {y : DataW H × List MemPlace} (h : DataW.trod enc Tryz.prog w base spare held m 9 [c] = some y) : ∃ s, c = .string s ∧ s.size ≤ maxLen := by
  cases m with
  | zero => simp [DataW.trod] at h
  | succ m =>
    rw [DataW.trod_step] at h
    unfold DataW.trodStep at h
    rw [Tryz.underlying9] at h
    cases c <;> simp at h
    exact ⟨_, rfl, h.1⟩

theorem ch_int {m : Nat} {c : Value} {y : DataW H × List MemPlace} (h : DataW.trod enc Tryz.prog w base spare held m 3 [c] = some y) : ∃ n, c = .int .i64 n ∧ (Lit.int .i64 n).wf = true := by
  cases m with
  | zero => simp [DataW.trod] at h
  | succ m =>
    rw [DataW.trod_step] at h
    unfold DataW.trodStep at h
    rw [Tryz.underlying3] at h
    cases c <;> simp at h
    rename_i k n
    obtain ⟨⟨rfl, h2⟩, _⟩ := h
    exact ⟨n, rfl, h2⟩

theorem ch_bool {m : Nat} {c : Value} {y : DataW H × List MemPlace} (h : DataW.trod enc Tryz.prog w base spare held m 4 [c] = some y) : ∃ n, c = .bool n := by
  cases m with
  | zero => simp [DataW.trod] at h
  | succ m =>
    rw [DataW.trod_step] at h
    unfold DataW.trodStep at h
    rw [Tryz.underlying4] at h
    cases c <;> simp at h
    exact ⟨_, rfl⟩

/-- What is asked of an account that came in. -/
def AcOk (a : Ac) : Prop := a.code.size ≤ maxLen ∧ a.name.size ≤ maxLen ∧ (Lit.int .i64 a.kind).wf = true ∧ a.par.size ≤ maxLen

theorem acct_cells : Tryz.prog.cellsOf 72 = 5 := by kernel_rfl
theorem acct_str : Tryz.prog.cellsOf 9 = 1 := by kernel_rfl
theorem acct_int : Tryz.prog.cellsOf 3 = 1 := by kernel_rfl
theorem acct_bool : Tryz.prog.cellsOf 4 = 1 := by kernel_rfl

theorem open_acct {m : Nat} {cs : List Value} {x : DataW H × List MemPlace} (h : DataW.trod enc Tryz.prog w base spare held m 72 cs = some x) : ∃ a : Ac, cs = a.cells.toList ∧ AcOk a := by
  cases m with
  | zero => simp [DataW.trod] at h
  | succ m =>
    rw [DataW.trod_step] at h
    unfold DataW.trodStep at h
    rw [Tryz.underlying72] at h
    simp only [acct_cells] at h
    split at h
    · rename_i hl
      match cs, hl with
      | [c0, c1, c2, c3, c4], _ =>
        simp [acct_str, acct_int, acct_bool] at h
        cases h0 : DataW.trod enc Tryz.prog w base spare held m 9 [c0]
        · simp [h0] at h
        cases h1 : DataW.trod enc Tryz.prog w base spare held m 9 [c1]
        · simp [h0, h1] at h
        cases h2 : DataW.trod enc Tryz.prog w base spare held m 3 [c2]
        · simp [h0, h1, h2] at h
        cases h3 : DataW.trod enc Tryz.prog w base spare held m 9 [c3]
        · simp [h0, h1, h2, h3] at h
        cases h4 : DataW.trod enc Tryz.prog w base spare held m 4 [c4]
        · simp [h0, h1, h2, h3, h4] at h
        obtain ⟨f, rfl, hf⟩ := ch_string h0
        obtain ⟨t, rfl, ht⟩ := ch_string h1
        obtain ⟨p, rfl, hp⟩ := ch_int h2
        obtain ⟨n, rfl, hn⟩ := ch_string h3
        obtain ⟨d, rfl⟩ := ch_bool h4
        exact ⟨⟨f, t, p, n, d⟩, rfl, hf, ht, hp, hn⟩
    · cases h

theorem ac_cells (w : World) (b off : Nat) (a : Ac) (h : ∀ i, i < 5 → w.cell? ⟨b, off + i, none⟩ = a.cells.toList[i]?) : AcAt w b off a :=
  ⟨h 0 (by omega), h 1 (by omega), h 2 (by omega), h 3 (by omega), h 4 (by omega)⟩

theorem ch_add (b off n : Nat) : (⟨b, off, none⟩ : Addr).add n = ⟨b, off + n, none⟩ := by
  unfold Addr.add
  split
  · rename_i h; subst h; rfl
  · rfl

/-- A chart that came in. -/
theorem acs_of_trod {W : World} {a : Option Addr} {len cap fuel : Nat} {x : DataW H × List MemPlace} (h : DataW.trod enc Tryz.prog W 0 (fun _ => true) true fuel 22 [.slice a len cap] = some x) :
    ∃ l : List Ac, l.length = len ∧ (∀ k, k < l.length → AcOk (l.getD k ac0)) ∧ IsSl W a l cap := by
  rcases open_slice Tryz.underlying22 h with ⟨hcs, _⟩ | ⟨x, l, c, m, n, D, Pl, hcs, _, hl, hm, hmm, _, hx⟩
  · simp at hcs
    obtain ⟨rfl, rfl, rfl⟩ := hcs
    exact ⟨[], rfl, by simp, ⟨by simp, .inl rfl⟩⟩
  · simp at hcs
    obtain ⟨rfl, rfl, rfl⟩ := hcs
    have hmm2 : m = cap := hmm
    rw [acct_cells] at hx
    have hr : ∀ i, i < len → ∃ r : Ac, (∀ j, j < 5 → W.cell? ((x.add (i * 5)).add j) = r.cells.toList[j]?) ∧ AcOk r := fun i hi => by
      obtain ⟨cs', h1, h2⟩ := hx i (by omega)
      obtain ⟨r, rfl, ok⟩ := open_acct h2
      exact ⟨r, (World.cells?_some h1).2.2, ok⟩
    obtain ⟨f, hf⟩ := @choose_lt Ac ⟨ac0⟩ _ _ hr
    have hget : ∀ k, k < len → ((List.range len).map f).getD k ac0 = f k := fun k hk => by simp [List.getD, hk]
    have hlen : ((List.range len).map f).length = len := by simp
    refine ⟨(List.range len).map f, hlen, fun k hk => ?_, ⟨by rw [hlen]; exact hl, ?_⟩⟩
    · rw [hlen] at hk
      rw [hget k hk]
      exact (hf k hk).2
    · by_cases h0 : len = 0
      · subst h0
        exact .inl rfl
      · right
        obtain ⟨b, off, spot⟩ := x
        have hc : W.cell? ⟨b, off, spot⟩ = some (.string (f 0).code) := (hf 0 (by omega)).1 0 (by omega)
        have hspot : spot = none := World.cell?_spot hc
        subst hspot
        have hlt : b < W.heap.size := World.block_lt_of_cell? _ _ hc
        refine ⟨b, off, rfl, hlt, fun k hk => ?_⟩
        rw [hlen] at hk
        rw [hget k hk]
        refine ac_cells W b (off + k * 5) (f k) (fun i hi => ?_)
        have := (hf k hk).1 i hi
        rw [ch_add, ch_add] at this
        exact this
end
end Go.Proofs.YtiolkeipgpkbmaaGreatDoor

namespace Go.Proofs.YtiolkeipgpkbmaaGreatDoor
set_option linter.unusedVariables false
set_option linter.unusedSimpArgs false
set_option maxRecDepth 100000
open Go.RowKit Go.Lib
theorem ldP_str : Tryz.prog.cellsOf 9 = 1 := by kernel_rfl
theorem ldP_int : Tryz.prog.cellsOf 3 = 1 := by kernel_rfl
/-- A place as it can be in memory. -/
structure PkOk (k : Pk) : Prop where
  ent : -9223372036854775808 ≤ k.1 ∧ k.1 ≤ 9223372036854775807
  acc : k.2.1.size ≤ maxLen
  cur : k.2.2.size ≤ maxLen
/-- A balance as it can be in memory. -/
structure BlOk (x : Bl) : Prop where
  key : PkOk x.key
  amt : -9223372036854775808 ≤ x.amt ∧ x.amt ≤ 9223372036854775807
end Go.Proofs.YtiolkeipgpkbmaaGreatDoor

namespace Go.Proofs.YtiolkeipgpkbmaaGreatDoor
set_option linter.unusedVariables false
set_option linter.unusedSimpArgs false
set_option maxRecDepth 100000
open Go.RowKit Go.Lib

theorem ld_add (b off i : Nat) : (⟨b, off, none⟩ : Addr).add i = ⟨b, off + i, none⟩ := by
  rcases Nat.eq_zero_or_pos i with h | h
  · subst h; simp [Addr.add]
  · simp [Addr.add]; omega
theorem ld_wf {n : Int} (h : (Lit.int .i64 n).wf = true) : -9223372036854775808 ≤ n ∧ n ≤ 9223372036854775807 := by
  simp [Lit.wf, IntKind.min, IntKind.max, IntKind.bits, IntKind.signed] at h
  omega
section
variable {H : Type} {enc : TypeId × Value → H}
theorem ld_cell_string {w : World} {base : Nat} {spare : Nat → Bool} {held : Bool} {m : Nat} {c : Value} {y : DataW H × List MemPlace} (h : DataW.trod enc Tryz.prog w base spare held m 9 [c] = some y) : ∃ s, c = .string s ∧ s.size ≤ maxLen := by
  cases m with
  | zero => simp [DataW.trod] at h
  | succ m =>
    rw [DataW.trod_step] at h
    unfold DataW.trodStep at h
    rw [Tryz.underlying9] at h
    cases c <;> simp at h
    exact ⟨_, rfl, h.1⟩

theorem ld_cell_int {w : World} {base : Nat} {spare : Nat → Bool} {held : Bool} {m : Nat} {c : Value} {y : DataW H × List MemPlace} (h : DataW.trod enc Tryz.prog w base spare held m 3 [c] = some y) : ∃ n, c = .int .i64 n ∧ (Lit.int .i64 n).wf = true := by
  cases m with
  | zero => simp [DataW.trod] at h
  | succ m =>
    rw [DataW.trod_step] at h
    unfold DataW.trodStep at h
    rw [Tryz.underlying3] at h
    cases c <;> simp at h
    rename_i k n
    obtain ⟨⟨rfl, h2⟩, _⟩ := h
    exact ⟨n, rfl, h2⟩

theorem ld_bal_cells : Tryz.prog.cellsOf 93 = 4 := by kernel_rfl
theorem ld_open_bal {w : World} {base : Nat} {spare : Nat → Bool} {held : Bool} {m : Nat} {cs : List Value} {x : DataW H × List MemPlace} (h : DataW.trod enc Tryz.prog w base spare held m 93 cs = some x) : ∃ a : Bl, cs = a.cells.toList ∧ BlOk a := by
  cases m with
  | zero => simp [DataW.trod] at h
  | succ m =>
    rw [DataW.trod_step] at h
    unfold DataW.trodStep at h
    rw [Tryz.underlying93] at h
    simp only [ld_bal_cells] at h
    split at h
    · rename_i hl
      match cs, hl with
      | [c0, c1, c2, c3], _ =>
        simp [ldP_str, ldP_int] at h
        cases h0 : DataW.trod enc Tryz.prog w base spare held m 3 [c0]
        · simp [h0] at h
        cases h1 : DataW.trod enc Tryz.prog w base spare held m 9 [c1]
        · simp [h0, h1] at h
        cases h2 : DataW.trod enc Tryz.prog w base spare held m 9 [c2]
        · simp [h0, h1, h2] at h
        cases h3 : DataW.trod enc Tryz.prog w base spare held m 3 [c3]
        · simp [h0, h1, h2, h3] at h
        obtain ⟨f, rfl, hf⟩ := ld_cell_int h0
        obtain ⟨s, rfl, hs⟩ := ld_cell_string h1
        obtain ⟨t, rfl, ht⟩ := ld_cell_string h2
        obtain ⟨p, rfl, hp⟩ := ld_cell_int h3
        exact ⟨⟨f, s, t, p⟩, rfl, ⟨ld_wf hf, hs, ht⟩, ld_wf hp⟩
    · cases h

/-- Balances that came in. -/
theorem ld_bls_of_trod {W : World} {a : Option Addr} {len cap fuel : Nat} {x : DataW H × List MemPlace} (h : DataW.trod enc Tryz.prog W 0 (fun _ => true) true fuel 24 [.slice a len cap] = some x) :
    ∃ l : List Bl, l.length = len ∧ IsBl W a l cap ∧ (∀ x ∈ l, BlOk x) ∧ len ≤ maxLen := by
  rcases Go.Deep.open_slice Tryz.underlying24 h with ⟨hcs, _⟩ | ⟨x, l, c, m, n, D, Pl, hcs, _, hl, hm, hmm, _, hx⟩
  · simp at hcs
    obtain ⟨rfl, rfl, rfl⟩ := hcs
    exact ⟨[], rfl, ⟨by simp, .inl rfl⟩, by simp, by unfold maxLen; omega⟩
  · simp at hcs
    obtain ⟨rfl, rfl, rfl⟩ := hcs
    have hmm2 : m = cap := hmm
    rw [ld_bal_cells] at hx
    have hr : ∀ i, i < len → ∃ r : Bl, (∀ j, j < 4 → W.cell? ((x.add (i * 4)).add j) = r.cells.toList[j]?) ∧ BlOk r := fun i hi => by
      obtain ⟨cs', h1, h2⟩ := hx i (by omega)
      obtain ⟨r, rfl, hw⟩ := ld_open_bal h2
      exact ⟨r, (World.cells?_some h1).2.2, hw⟩
    obtain ⟨f, hf⟩ := @Go.Deep.choose_lt Bl ⟨bl0⟩ _ _ hr
    have hget : ∀ k, k < len → ((List.range len).map f).getD k bl0 = f k := fun k hk => by simp [List.getD, hk]
    have hlen : ((List.range len).map f).length = len := by simp
    refine ⟨(List.range len).map f, hlen, ⟨by rw [hlen]; exact hl, ?_⟩, ?_, Nat.le_trans hl hm⟩
    · by_cases h0 : len = 0
      · subst h0
        exact .inl rfl
      · right
        obtain ⟨b, off, spot⟩ := x
        have hc : W.cell? ⟨b, off, spot⟩ = some (.int .i64 (f 0).ent) := (hf 0 (by omega)).1 0 (by omega)
        have hspot : spot = none := World.cell?_spot hc
        subst hspot
        have hlt : b < W.heap.size := World.block_lt_of_cell? _ _ hc
        refine ⟨b, off, rfl, hlt, fun k hk => ?_⟩
        rw [hlen] at hk
        rw [hget k hk]
        have C : ∀ i, i < 4 → W.cell? ⟨b, off + k * 4 + i, none⟩ = (f k).cells.toList[i]? := fun i hi => by
          have := (hf k hk).1 i hi
          rw [ld_add, ld_add] at this
          exact this
        exact ⟨C 0 (by omega), C 1 (by omega), C 2 (by omega), C 3 (by omega)⟩
    · intro y hy
      obtain ⟨k, hk, rfl⟩ := List.mem_map.1 hy
      exact (hf k (List.mem_range.1 hk)).2

end

end Go.Proofs.YtiolkeipgpkbmaaGreatDoor

namespace Go.Proofs.YtiolkeipgpkbmaaGreatDoor
set_option linter.unusedVariables false
set_option linter.unusedSimpArgs false
set_option maxRecDepth 100000
open Go.RowKit Go.Lib
section
variable {H : Type} {enc : TypeId × Value → H}
theorem al_str_cells : Tryz.prog.cellsOf 9 = 1 := by kernel_rfl
theorem al_int_cells : Tryz.prog.cellsOf 3 = 1 := by kernel_rfl
/-- Texts that came in. -/
theorem txs_of_trod {W : World} {a : Option Addr} {len cap fuel : Nat} {x : DataW H × List MemPlace} (h : DataW.trod enc Tryz.prog W 0 (fun _ => true) true fuel 42 [.slice a len cap] = some x) :
    ∃ l : List ByteArray, l.length = len ∧ IsTx W a l cap ∧ (∀ t ∈ l, t.size ≤ maxLen) ∧ len ≤ maxLen := by
  rcases Go.Deep.open_slice Tryz.underlying42 h with ⟨hcs, _⟩ | ⟨x, l, c, m, n, D, Pl, hcs, _, hl, hm, hmm, _, hx⟩
  · simp at hcs
    obtain ⟨rfl, rfl, rfl⟩ := hcs
    exact ⟨[], rfl, ⟨by simp, .inl rfl⟩, by simp, by unfold maxLen; omega⟩
  · simp at hcs
    obtain ⟨rfl, rfl, rfl⟩ := hcs
    have hmm2 : m = cap := hmm
    rw [al_str_cells] at hx
    have hr : ∀ i, i < len → ∃ r : ByteArray, W.cell? (x.add (i * 1)) = some (.string r) ∧ r.size ≤ maxLen := fun i hi => by
      obtain ⟨cs', h1, h2⟩ := hx i (by omega)
      have hl1 : cs'.length = 1 := (World.cells?_some h1).2.1
      match cs', hl1 with
      | [c0], _ =>
        obtain ⟨s, rfl, hs⟩ := ld_cell_string h2
        have := (World.cells?_some h1).2.2 0 (by omega)
        simp [Addr.add] at this
        refine ⟨s, ?_, hs⟩
        simpa [Addr.add] using this
    obtain ⟨f, hf⟩ := @Go.Deep.choose_lt ByteArray ⟨ByteArray.empty⟩ _ _ hr
    have hget : ∀ k, k < len → ((List.range len).map f).getD k ByteArray.empty = f k := fun k hk => by simp [List.getD, hk]
    have hlen : ((List.range len).map f).length = len := by simp
    refine ⟨(List.range len).map f, hlen, ⟨by rw [hlen]; exact hl, ?_⟩, ?_, Nat.le_trans hl hm⟩
    · by_cases h0 : len = 0
      · subst h0
        exact .inl rfl
      · right
        obtain ⟨b, off, spot⟩ := x
        have hc := (hf 0 (by omega)).1
        simp only [Nat.zero_mul] at hc
        have hc' : W.cell? ⟨b, off, spot⟩ = some (.string (f 0)) := by simpa [Addr.add] using hc
        have hspot : spot = none := World.cell?_spot hc'
        subst hspot
        refine ⟨b, off, rfl, World.block_lt_of_cell? _ _ hc', fun k hk => ?_⟩
        rw [hlen] at hk
        rw [hget k hk]
        have := (hf k hk).1
        rw [Nat.mul_one, ld_add] at this
        exact this
    · intro y hy
      obtain ⟨k, hk, rfl⟩ := List.mem_map.1 hy
      exact (hf k (List.mem_range.1 hk)).2
/-- Numbers that came in. -/
theorem ws_of_trod {W : World} {a : Option Addr} {len cap fuel : Nat} {x : DataW H × List MemPlace} (h : DataW.trod enc Tryz.prog W 0 (fun _ => true) true fuel 43 [.slice a len cap] = some x) :
    ∃ l : List Int, l.length = len ∧ IsW W a l cap ∧ (∀ t ∈ l, -9223372036854775808 ≤ t ∧ t ≤ 9223372036854775807) ∧ len ≤ maxLen := by
  rcases Go.Deep.open_slice Tryz.underlying43 h with ⟨hcs, _⟩ | ⟨x, l, c, m, n, D, Pl, hcs, _, hl, hm, hmm, _, hx⟩
  · simp at hcs
    obtain ⟨rfl, rfl, rfl⟩ := hcs
    exact ⟨[], rfl, ⟨by simp, .inl rfl⟩, by simp, by unfold maxLen; omega⟩
  · simp at hcs
    obtain ⟨rfl, rfl, rfl⟩ := hcs
    have hmm2 : m = cap := hmm
    rw [al_int_cells] at hx
    have hr : ∀ i, i < len → ∃ r : Int, W.cell? (x.add (i * 1)) = some (.int .i64 r) ∧ (-9223372036854775808 ≤ r ∧ r ≤ 9223372036854775807) := fun i hi => by
      obtain ⟨cs', h1, h2⟩ := hx i (by omega)
      have hl1 : cs'.length = 1 := (World.cells?_some h1).2.1
      match cs', hl1 with
      | [c0], _ =>
        obtain ⟨s, rfl, hs⟩ := ld_cell_int h2
        have := (World.cells?_some h1).2.2 0 (by omega)
        simp [Addr.add] at this
        refine ⟨s, ?_, ld_wf hs⟩
        simpa [Addr.add] using this
    obtain ⟨f, hf⟩ := @Go.Deep.choose_lt Int ⟨0⟩ _ _ hr
    have hget : ∀ k, k < len → ((List.range len).map f).getD k 0 = f k := fun k hk => by simp [List.getD, hk]
    have hlen : ((List.range len).map f).length = len := by simp
    refine ⟨(List.range len).map f, hlen, ⟨by rw [hlen]; exact hl, ?_⟩, ?_, Nat.le_trans hl hm⟩
    · by_cases h0 : len = 0
      · subst h0
        exact .inl rfl
      · right
        obtain ⟨b, off, spot⟩ := x
        have hc := (hf 0 (by omega)).1
        simp only [Nat.zero_mul] at hc
        have hc' : W.cell? ⟨b, off, spot⟩ = some (.int .i64 (f 0)) := by simpa [Addr.add] using hc
        have hspot : spot = none := World.cell?_spot hc'
        subst hspot
        refine ⟨b, off, rfl, World.block_lt_of_cell? _ _ hc', fun k hk => ?_⟩
        rw [hlen] at hk
        rw [hget k hk]
        have := (hf k hk).1
        rw [Nat.mul_one, ld_add] at this
        exact this
    · intro y hy
      obtain ⟨k, hk, rfl⟩ := List.mem_map.1 hy
      exact (hf k (List.mem_range.1 hk)).2
theorem al_pool_cells : Tryz.prog.cellsOf 45 = 4 := by kernel_rfl
theorem al_txs_cells : Tryz.prog.cellsOf 42 = 1 := by kernel_rfl
theorem al_ws_cells : Tryz.prog.cellsOf 43 = 1 := by kernel_rfl
theorem al_cell_txs {w : World} {base : Nat} {spare : Nat → Bool} {held : Bool} {m : Nat} {c : Value} {y : DataW H × List MemPlace} (h : DataW.trod enc Tryz.prog w base spare held m 42 [c] = some y) : ∃ a len cap, c = .slice a len cap := by
  rcases Go.Deep.open_slice Tryz.underlying42 h with ⟨hcs, _⟩ | ⟨x, l, c', m, n, D, Pl, hcs, _⟩
  · simp at hcs; exact ⟨_, _, _, hcs⟩
  · simp at hcs; exact ⟨_, _, _, hcs⟩
theorem al_cell_ws {w : World} {base : Nat} {spare : Nat → Bool} {held : Bool} {m : Nat} {c : Value} {y : DataW H × List MemPlace} (h : DataW.trod enc Tryz.prog w base spare held m 43 [c] = some y) : ∃ a len cap, c = .slice a len cap := by
  rcases Go.Deep.open_slice Tryz.underlying43 h with ⟨hcs, _⟩ | ⟨x, l, c', m, n, D, Pl, hcs, _⟩
  · simp at hcs; exact ⟨_, _, _, hcs⟩
  · simp at hcs; exact ⟨_, _, _, hcs⟩
theorem al_open_pool {w : World} {m : Nat} {cs : List Value} {x : DataW H × List MemPlace} (h : DataW.trod enc Tryz.prog w 0 (fun _ => true) true m 45 cs = some x) :
    ∃ p : Po, cs = p.cells.toList ∧ PoOk w p ∧ PoTx p := by
  cases m with
  | zero => simp [DataW.trod] at h
  | succ m =>
    rw [DataW.trod_step] at h
    unfold DataW.trodStep at h
    rw [Tryz.underlying45] at h
    simp only [al_pool_cells] at h
    split at h
    · rename_i hl
      match cs, hl with
      | [c0, c1, c2, c3], _ =>
        simp [ldP_str, al_txs_cells, al_ws_cells] at h
        cases h0 : DataW.trod enc Tryz.prog w 0 (fun _ => true) true m 9 [c0]
        · simp [h0] at h
        cases h1 : DataW.trod enc Tryz.prog w 0 (fun _ => true) true m 9 [c1]
        · simp [h0, h1] at h
        cases h2 : DataW.trod enc Tryz.prog w 0 (fun _ => true) true m 42 [c2]
        · simp [h0, h1, h2] at h
        cases h3 : DataW.trod enc Tryz.prog w 0 (fun _ => true) true m 43 [c3]
        · simp [h0, h1, h2, h3] at h
        obtain ⟨s, rfl, hs⟩ := ld_cell_string h0
        obtain ⟨t, rfl, ht⟩ := ld_cell_string h1
        obtain ⟨a, len, cap, rfl⟩ := al_cell_txs h2
        obtain ⟨l, rfl, g1, g2, g3⟩ := txs_of_trod h2
        obtain ⟨a', len', cap', rfl⟩ := al_cell_ws h3
        obtain ⟨l', rfl, k1, k2, k3⟩ := ws_of_trod h3
        unfold maxLen at g3 k3
        exact ⟨⟨s, t, a, cap, l, a', cap', l'⟩, rfl, ⟨g1, k1, by show l.length ≤ _; omega, by show l'.length ≤ _; omega⟩, ⟨hs, ht, g2⟩⟩
    · cases h
/-- Pools that came in. -/
theorem pos_of_trod {W : World} {a : Option Addr} {len cap fuel : Nat} {x : DataW H × List MemPlace} (h : DataW.trod enc Tryz.prog W 0 (fun _ => true) true fuel 23 [.slice a len cap] = some x) :
    ∃ L : List Po, L.length = len ∧ IsPs W a L cap ∧ (∀ p ∈ L, PoTx p) ∧ len ≤ maxLen := by
  rcases Go.Deep.open_slice Tryz.underlying23 h with ⟨hcs, _⟩ | ⟨x, l, c, m, n, D, Pl, hcs, _, hl, hm, hmm, hxx, hx⟩
  · simp at hcs
    obtain ⟨rfl, rfl, rfl⟩ := hcs
    exact ⟨[], rfl, ⟨by simp, .inl rfl, by simp⟩, by simp, by unfold maxLen; omega⟩
  · simp at hcs
    obtain ⟨rfl, rfl, rfl⟩ := hcs
    have hmm2 : m = cap := hmm
    rw [al_pool_cells] at hx
    have hr : ∀ i, i < len → ∃ r : Po, (∀ j, j < 4 → W.cell? ((x.add (i * 4)).add j) = r.cells.toList[j]?) ∧ PoOk W r ∧ PoTx r := fun i hi => by
      obtain ⟨cs', h1, h2⟩ := hx i (by omega)
      obtain ⟨r, rfl, hw⟩ := al_open_pool h2
      exact ⟨r, (World.cells?_some h1).2.2, hw⟩
    obtain ⟨f, hf⟩ := @Go.Deep.choose_lt Po ⟨po0⟩ _ _ hr
    have hget : ∀ k, k < len → ((List.range len).map f).getD k po0 = f k := fun k hk => by simp [List.getD, hk]
    have hlen : ((List.range len).map f).length = len := by simp
    refine ⟨(List.range len).map f, hlen, ⟨by rw [hlen]; exact hl, ?_, ?_⟩, ?_, Nat.le_trans hl hm⟩
    · by_cases h0 : len = 0
      · subst h0
        exact .inl rfl
      · right
        obtain ⟨b, off, spot⟩ := x
        have hc : W.cell? ⟨b, off, spot⟩ = some (.string (f 0).acc) := (hf 0 (by omega)).1 0 (by omega)
        have hspot : spot = none := World.cell?_spot hc
        subst hspot
        refine ⟨b, off, rfl, World.block_lt_of_cell? _ _ hc, fun k hk => ?_⟩
        rw [hlen] at hk
        rw [hget k hk]
        have C : ∀ i, i < 4 → W.cell? ⟨b, off + k * 4 + i, none⟩ = (f k).cells.toList[i]? := fun i hi => by
          have := (hf k hk).1 i hi
          rw [ld_add, ld_add] at this
          exact this
        exact ⟨C 0 (by omega), C 1 (by omega), C 2 (by omega), C 3 (by omega)⟩
    · intro y hy
      obtain ⟨k, hk, rfl⟩ := List.mem_map.1 hy
      exact (hf k (List.mem_range.1 hk)).2.1
    · intro y hy
      obtain ⟨k, hk, rfl⟩ := List.mem_map.1 hy
      exact (hf k (List.mem_range.1 hk)).2.2
end
end Go.Proofs.YtiolkeipgpkbmaaGreatDoor

namespace Go.Proofs.YtiolkeipgpkbmaaGreatDoor
open Go.ChangeShapes Go.WideShapes Go.RowKit Go.ChangeAt Go.Deep
open Go.ChangeMaps (open_string shut_string)
set_option linter.unusedVariables false
set_option linter.unusedSimpArgs false

theorem agp_own : ownKnob Tryz.prog.godebug = none := by kernel_rfl
theorem agp_laidOut : laidOutB Tryz.prog = true := by kernel_rfl
/-- A table's cells. -/
def agp_cells (d : DataW Unit) : Array Value :=
  match d with
  | .agg l => (l.map fun x => match x with
    | .lit (.int k z) => Value.int k z
    | _ => .bool false).toArray
  | _ => #[]
def agp_put (cs : Array Value) (o : Obj) : Obj :=
  match o with
  | .cells _ t frozen => .cells cs t frozen
  | o => o
theorem agp_et : Tryz.prog.globalNamed "errors.errorType" = some 0 := by kernel_rfl
theorem agp_rt : (Tryz.prog.cutTypes.find? (·.1 == "internal/reflectlite.rtype")).map (·.2) = some 147 := by kernel_rfl
theorem agp_oneRow : ((List.range 228).filter fun t => Tryz.prog.rowNamed t [101, 114, 114, 111, 114]) = [27] := by kernel_rfl
theorem agp_size : Tryz.prog.types.size = 228 := by kernel_rfl
/-- What the condition gives: the variable's one cell. -/
theorem agp_handle {W : World} (h : laidMetH Tryz.prog Rows.allotGivesRow.laid W) : ErrT W := by
  have h' : laidMet Tryz.prog [("math/bits.deBruijn32tab", Rows.laid_math_bits_deBruijn32tab), ("math/bits.deBruijn64tab", Rows.laid_math_bits_deBruijn64tab), ("internal/strconv.uint64pow10", Rows.laid_internal_strconv_uint64pow10)] W ∧ handlesMet Tryz.prog [("errors.errorType", Rows.laid_errors_errorType)] W := h
  obtain ⟨name, u, ty, e1, e2, e3, e4, e5⟩ := h'.2 _ (List.mem_singleton.2 rfl)
  have en : name = [101, 114, 114, 111, 114] := (Option.some.inj e1).symm
  subst en
  obtain rfl := Option.some.inj (agp_rt.symm.trans e2)
  have hm : ty ∈ (List.range 228).filter fun t => Tryz.prog.rowNamed t [101, 114, 114, 111, 114] := List.mem_filter.2 ⟨List.mem_range.2 (by rw [← agp_size]; exact e3), e4⟩
  rw [agp_oneRow] at hm
  obtain rfl := List.mem_singleton.1 hm
  have hh : typeHandle Tryz.prog 27 = .pointer (some ⟨6, 27, none⟩) := by kernel_rfl
  rw [hh] at e5
  unfold ErrT
  simpa using World.var?_cell agp_et e5 0
/-- A world that meets the condition. -/
theorem agp_met (os : Os) (args : Array Value) : laidMetH Tryz.prog Rows.allotGivesRow.laid ((({ World.holding Tryz.prog os ⟨#[], #[], []⟩ with heap := ((((World.holding Tryz.prog os ⟨#[], #[], []⟩).heap.modify 4 (agp_put (agp_cells Rows.laid_math_bits_deBruijn32tab))).modify 5 (agp_put (agp_cells Rows.laid_math_bits_deBruijn64tab))).modify 3 (agp_put (agp_cells Rows.laid_internal_strconv_uint64pow10))).modify 0 fun | .cells _ t frozen => .cells #[.iface 147 (.agg #[.pointer (some ⟨6, 27, none⟩)])] t frozen | o => o } : World).forCall (fun _ _ => 0) ⟨#[], args, []⟩).memory) :=
  laidMetH_of_parts (laidMet_of_run' 8 (by kernel_rfl) (by kernel_rfl)) (by kernel_rfl)

set_option maxRecDepth 100000 in
theorem agp_lifted (os : Os) (started : os.Started) (H : Type) (enc : TypeId × Value → H) :
    ReturnsInHanded {} Tryz.checked os 3 .any (fun w args => (Rows.allotGivesSpec.pre enc Tryz.prog Tryz.f3 [] false w args ∧ laidMetH Tryz.prog Rows.allotGivesRow.laid w) ∧ sizedMet enc Tryz.prog Tryz.f3 (OpenSpec.ofChange Rows.allotGivesSpec) false w args)
      (Rows.allotGivesSpec.post enc Tryz.prog Tryz.f3 false true false false) := by
  refine returnsInHanded_of_change_and (C := Tryz.checked) (X := fun w _ => laidMetH Tryz.prog Rows.allotGivesRow.laid w) (fun _ _ _ hh h => h.of_heap hh) agp_own started (by kernel_rfl) Tryz.func3
    (ChangeSpec.witness_at (enc := enc) (C := Tryz.checked) (os := os) (X := fun w _ => laidMetH Tryz.prog Rows.allotGivesRow.laid w) false ({ World.holding Tryz.prog os ⟨#[], #[], []⟩ with heap := ((((World.holding Tryz.prog os ⟨#[], #[], []⟩).heap.modify 4 (agp_put (agp_cells Rows.laid_math_bits_deBruijn32tab))).modify 5 (agp_put (agp_cells Rows.laid_math_bits_deBruijn64tab))).modify 3 (agp_put (agp_cells Rows.laid_internal_strconv_uint64pow10))).modify 0 fun | .cells _ t frozen => .cells #[.iface 147 (.agg #[.pointer (some ⟨6, 27, none⟩)])] t frozen | o => o } : World) #[.slice none 0 0, .slice none 0 0, .slice none 0 0, .int .i64 0, .int .i64 0] 8 rfl (by kernel_rfl) (by kernel_rfl) (by kernel_rfl) (by kernel_rfl) (by kernel_rfl) (agp_met os _)) ?_
  intro W base args ds gs before hval0 hW hcnd hsz0 hL _
  have hg := agp_handle hL
  clear hsz0
  have hval : ∀ (j : Nat) t v, Tryz.f3.params[j]? = some t → args[j]? = some v → Value.okWide Tryz.prog W .any base t v := hval0
  have hW' := hW
  obtain ⟨p, q, hA0, hV, rfl, hfz, hnd⟩ := hW
  have hA : DataW.TrodAll enc Tryz.prog W 0 (fun _ => true) true Tryz.f3.params.toList args.toList ds p := hA0
  rw [Tryz.params3] at hA hval
  obtain ⟨v0, vs0, d0, ds0, p0, q0, hargs, rfl, rfl, h0, r0⟩ := trodAll_cons hA
  obtain ⟨v1, vs1, d1, ds1, p1, q1, rfl, rfl, rfl, h1, r1⟩ := trodAll_cons r0
  obtain ⟨v2, vs2, d2, ds2, p2, q2, rfl, rfl, rfl, h2, r2⟩ := trodAll_cons r1
  obtain ⟨v3, vs3, d3, ds3, p3, q3, rfl, rfl, rfl, h3, r3⟩ := trodAll_cons r2
  obtain ⟨v4, vs4, d4, ds4, p4, q4, rfl, rfl, rfl, h4, r4⟩ := trodAll_cons r3
  obtain ⟨rfl, rfl, rfl⟩ := trodAll_nil r4
  obtain rfl : args = #[v0, v1, v2, v3, v4] := by cases args; simp_all
  obtain ⟨rfl, rfl⟩ := trodVars_none hV
  obtain ⟨a0, len0, cap0, rfl⟩ := okWide_slice Tryz.underlying22 (hval 0 22 v0 rfl rfl)
  have k0 := h0
  have lt0 : ∀ x ∈ p0, x.block < W.heap.size := by obtain ⟨m, hm⟩ := k0; exact DataW.trod_lt m _ _ _ hm
  obtain ⟨l0, hl0, ho0, hi0⟩ : ∃ l : List Ac, l.length = len0 ∧ (∀ k, k < l.length → AcOk (l.getD k ac0)) ∧ IsSl W a0 l cap0 := by
    obtain ⟨fuel, hf⟩ := h0
    exact acs_of_trod hf
  subst hl0
  obtain ⟨a1, len1, cap1, rfl⟩ := okWide_slice Tryz.underlying23 (hval 1 23 v1 rfl rfl)
  have k1 := h1
  have lt1 : ∀ x ∈ p1, x.block < W.heap.size := by obtain ⟨m, hm⟩ := k1; exact DataW.trod_lt m _ _ _ hm
  obtain ⟨l1, hl1, hi1, ho1, hm1⟩ : ∃ l : List Po, l.length = len1 ∧ IsPs W a1 l cap1 ∧ (∀ p ∈ l, PoTx p) ∧ len1 ≤ maxLen := by
    obtain ⟨fuel, hf⟩ := h1
    exact pos_of_trod hf
  subst hl1
  have hb1 : l1.length ≤ 9223372036854775807 := by unfold maxLen at hm1; exact hm1
  obtain ⟨a2, len2, cap2, rfl⟩ := okWide_slice Tryz.underlying24 (hval 2 24 v2 rfl rfl)
  have k2 := h2
  have lt2 : ∀ x ∈ p2, x.block < W.heap.size := by obtain ⟨m, hm⟩ := k2; exact DataW.trod_lt m _ _ _ hm
  obtain ⟨l2, hl2, hi2, ho2, hm2⟩ : ∃ l : List Bl, l.length = len2 ∧ IsBl W a2 l cap2 ∧ (∀ x ∈ l, BlOk x) ∧ len2 ≤ maxLen := by
    obtain ⟨fuel, hf⟩ := h2
    exact ld_bls_of_trod hf
  subst hl2
  have hb2 : l2.length ≤ 9223372036854775807 := by unfold maxLen at hm2; exact hm2
  obtain ⟨x3, rfl, rfl, rfl, w3⟩ := open_int Tryz.underlying3 (hval 3 3 v3 rfl rfl) h3
  have wb3 := bounds_i64 w3
  obtain ⟨x4, rfl, rfl, rfl, w4⟩ := open_int Tryz.underlying3 (hval 4 3 v4 rfl rfl) h4
  have wb4 := bounds_i64 w4
  clear hA0 hval0
  refine (gives_walk a0 a1 a2 cap0 cap1 cap2 l0 l1 l2 x3 x4 W hi0 (fun k hk => ⟨(ho0 k hk).1, (ho0 k hk).2.1⟩) hi1 hb1 hi2 hb2 hg).mono fun e W' ⟨he, bel⟩ => ?_
  subst he
  exact ⟨_, rfl, _, _, _, [], _, [], hW', trodAll_mk1 (shut_bool Tryz.underlying4 _), (trodAll_cons_mk (Below.trod agp_laidOut (by kernel_rfl) (of_decide_eq_true (by kernel_rfl)) k0 bel lt0) (trodAll_cons_mk (Below.trod agp_laidOut (by kernel_rfl) (of_decide_eq_true (by kernel_rfl)) k1 bel lt1) (trodAll_cons_mk (Below.trod agp_laidOut (by kernel_rfl) (of_decide_eq_true (by kernel_rfl)) k2 bel lt2) (trodAll_cons_mk (shut_int Tryz.underlying3 w3) (trodAll_cons_mk (shut_int Tryz.underlying3 w4) trodAll_mk0))))), rfl, bel.frame _, fun h => by cases h⟩

theorem agp_over : Rows.AllotGivesSaid :=
  OpenClaim.holds_of_wide 3 Tryz.f3 rfl rfl rfl rfl rfl rfl rfl ⟨rfl, rfl, rfl, rfl, rfl⟩ rfl rfl rfl rfl rfl (by kernel_rfl) Tryz.func3 (by kernel_rfl)
    (of_decide_eq_true (by kernel_rfl)) (by unfold Func.isWrapper; first | (rw [if_pos (by decide +kernel)]; kernel_rfl) | (rw [if_neg (by decide +kernel)]; exact ⟨rfl, rfl⟩))
    (fun os started H enc _ => agp_lifted os started H enc)

/-- The statement. -/
theorem allotGives_holds : Rows.AllotGivesCardSaid :=
  Claim7.holds_tied_plain_at .later [] [.data, .data, .data, .handle] true _ true
    agp_over (fun _ h => by cases h) (by kernel_rfl) (fun _ h => by cases h) allotGives_row_tie rfl ⟨rfl, rfl⟩ (by kernel_rfl) rfl
    (fun f fn hf hfn => by
      obtain rfl : f = 3 := Option.some.inj ((show Tryz.prog.funcNamed "quarterday/daylaw3.AllotGives" = some 3 by kernel_rfl).symm.trans hf) |>.symm
      obtain rfl : fn = Tryz.f3 := (Option.some.inj (Tryz.func3.symm.trans hfn)).symm
      exact ⟨by kernel_rfl, fun j t ht => by
        rw [Tryz.params3] at ht
        have h3 : t = 22 ∨ t = 23 ∨ t = 24 ∨ t = 3 := by
          rcases j with _ | _ | _ | _ | _ | j
          · exact (.inl (by simpa using ht.symm))
          · exact (.inr (.inl (by simpa using ht.symm)))
          · exact (.inr (.inr (.inl (by simpa using ht.symm))))
          · exact (.inr (.inr (.inr (by simpa using ht.symm))))
          · exact (.inr (.inr (.inr (by simpa using ht.symm))))
          · simp at ht
        rcases h3 with rfl | rfl | rfl | rfl
        · exact (show Tryz.prog.wantsStandIn 22 = false by kernel_rfl)
        · exact (show Tryz.prog.wantsStandIn 23 = false by kernel_rfl)
        · exact (show Tryz.prog.wantsStandIn 24 = false by kernel_rfl)
        · exact (show Tryz.prog.wantsStandIn 3 = false by kernel_rfl)⟩)
    (by kernel_rfl)
#print axioms allotGives_holds
end Go.Proofs.YtiolkeipgpkbmaaGreatDoor
