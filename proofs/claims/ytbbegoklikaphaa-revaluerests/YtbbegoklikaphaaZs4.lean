/-
  The contract of entry.isRef.
-/
import Derived.Test.YtbbegoklikaphaaZs3
import Derived.Test.YtbbegoklikaphaaProg
import Derived.WalkKit
import Derived.WalkSpells
import Derived.Lib.OthersKept
import Derived.Lib.TrimU
import Derived.Deep.LoopGhost
import Derived.Conc.MuLone
import Derived.Shelf.Abstract
import Derived.Test.YtbbegoklikaphaaZs0
import Derived.Deep.QuietTactic
import Derived.BigQuiet
namespace Go.Proofs.Ytbbegoklikaphaa
set_option linter.unusedVariables false
set_option linter.unusedSimpArgs false
set_option maxRecDepth 100000
open Go.RowKit Go.Lib

/-- The codes of those that are under one. -/
def undC (l : List Ac) (c : ByteArray) : List ByteArray := (und l c).map fun i => (l.getD i ac0).code

theorem placeBad_ok {l : List Ac} {c : ByteArray} (h : placeBad l c = 0) : chBad l = 0 ∧ 0 ≤ idxP (hasCode c) l := by
  unfold placeBad at h
  split at h
  · omega
  · split at h
    · omega
    · exact ⟨by omega, by omega⟩

theorem TxtRow.below {w w' : World} {n : Nat} {v : Value} {fs : List ByteArray} (h : TxtRow w n v fs) (hb : Below w.heap.size w w') : TxtRow w' n v fs := by
  rcases h.2 with ⟨hv, hn⟩ | ⟨g1, c1, cur, hv, hb1, hh, r⟩
  · exact ⟨h.1, .inl ⟨hv, hn⟩⟩
  · exact ⟨h.1, .inr ⟨g1, c1, cur, hv, hb1, (hb.block g1 (Array.getElem?_eq_some_iff.1 hh).1).trans hh, r⟩⟩

theorem row_mono {w : World} {n m : Nat} {v : Value} {fs : List ByteArray} (h : TxtRow w n v fs) (hm : m ≤ n) : TxtRow w m v fs := by
  rcases h.2 with ⟨hv, hn⟩ | ⟨g1, c1, cur, hv, hb1, r⟩
  · exact ⟨h.1, .inl ⟨hv, hn⟩⟩
  · exact ⟨h.1, .inr ⟨g1, c1, cur, hv, by omega, r⟩⟩

/-- An account whose parent is a code. -/
def hasPar (c : ByteArray) (a : Ac) : Bool := decide (a.par = c)
def leafB (l : List Ac) (a : Ac) : Bool := decide (idxP (hasPar a.code) l < 0)
/-- The codes of the leaves. -/
def lvs (l : List Ac) : List ByteArray := (l.filter (leafB l)).map Ac.code

theorem leaves1_any (x : Ac) (c : ByteArray) (B : Nat) (w : World) (hB : w.cell? ⟨B, 0, none⟩ = some (.string c)) (hlt : B < w.heap.size) :
    Calls Try.prog 44 #[.agg x.cells, .pointer (some ⟨B, 0, none⟩)] w fun e w' => e = .returned (.bool (hasPar c x)) ∧ Below w.heap.size w w' := by
  obtain ⟨a0, a1, a2, a3, a4⟩ := x
  have b0 : Below w.heap.size w (w.alloc (.cells #[.string a0, .string a1, .int .i64 a2, .string a3, .bool a4] 42)) := (Below.refl _ w).alloc (Nat.le_refl _) _
  have hB2 : (w.alloc (.cells #[.string a0, .string a1, .int .i64 a2, .string a3, .bool a4] 42)).cell? ⟨B, 0, none⟩ = some (.string c) := (b0.cell (p := ⟨B, 0, none⟩) hlt).trans hB
  simp only [Ac.cells]
  by_cases h : a3 = c
  · subst h
    have e1 : hasPar a3 ⟨a0, a1, a2, a3, a4⟩ = true := by simp [hasPar]
    rw [e1]
    go_enter Try.func44, Try.ntmps44
    go_wp2
    go_ret
    exact ⟨rfl, b0⟩
  · have e1 : hasPar c ⟨a0, a1, a2, a3, a4⟩ = false := by simp [hasPar, h]
    have h' := ch_ne h
    rw [e1]
    go_enter Try.func44, Try.ntmps44
    go_wp2
    go_ret
    exact ⟨by rw [← h']; rfl, b0⟩

theorem leaves1_tells (c : ByteArray) (B : Nat) (w : World) (hB : w.cell? ⟨B, 0, none⟩ = some (.string c)) (hlt : B < w.heap.size) : Tells 44 B (hasPar c) w :=
  ⟨fun args W => enters Try.func44 (by kernel_rfl) ⟨_, rfl⟩ args W, fun x W hW => leaves1_any x c B W ((hW.cell (p := ⟨B, 0, none⟩) hlt).trans hB) (by have := hW.size; omega)⟩

theorem chContF_any (g B : Nat) (p : Ac → Bool) (a : Option Addr) (cap : Nat) (l : List Ac) (w : World) (hp : Tells g B p w) (hlen : l.length ≤ 1000) (h : IsSl w a l cap) :
    Calls Try.prog 35 #[.slice a l.length cap, .func (.func g) #[] #[.pointer (some ⟨B, 0, none⟩)]] w fun e w' => e = .returned (.bool (decide (0 ≤ idxP p l))) ∧ Below w.heap.size w w' := by
  have hI := chIdx_any g B p a cap l w hp hlen h
  clear hp h
  go_enter Try.func35, Try.ntmps35
  go_wp2_with fail
  refine hI.mono ?_
  rintro e w' ⟨rfl, hb⟩
  go_wp2
  go_ret
  exact ⟨rfl, hb⟩

theorem lvs_step (l : List Ac) (k : Nat) (h : k < l.length) : ((l.take (k + 1)).filter (leafB l)).map Ac.code = ((l.take k).filter (leafB l)).map Ac.code ++ (if leafB l (l.getD k ac0) = true then [(l.getD k ac0).code] else []) := by
  have e2 : l.take (k + 1) = l.take k ++ [l.getD k ac0] := by
    rw [List.take_succ_eq_append_getElem h, List.getD_eq_getElem?_getD, List.getElem?_eq_getElem h]; rfl
  rw [e2, List.filter_append, List.map_append]
  congr 1
  by_cases hh : leafB l (l.getD k ac0) = true
  · rw [if_pos hh, List.filter_cons_of_pos hh]; rfl
  · rw [if_neg hh, List.filter_cons_of_neg hh]; rfl

theorem leaves_none (a : Option Addr) (cap : Nat) (w : World) :
    Calls Try.prog 26 #[.slice a 0 cap] w fun e w' => e = .returned (.tuple #[.slice none 0 0, .nilIface]) ∧ Below w.heap.size w w' := by
  have HC := chCheck_none a cap w
  rw [chE_zero] at HC
  go_enter Try.func26, Try.ntmps26
  go_wp2_with fail
  refine HC.mono ?_
  rintro e w1 ⟨rfl, hb1⟩
  go_wp2
  refine wp_loop_rounds 1 ?_
  rw [rounds_succ]
  go_wp2
  go_ret2
  exact ⟨rfl, hb1⟩

theorem leaves_bad (a : Option Addr) (cap : Nat) (l : List Ac) (w : World) (h : IsSl w a l cap) (h0 : chBad l ≠ 0) :
    Calls Try.prog 26 #[.slice a l.length cap] w fun e w' => e = .returned (.tuple #[.slice none 0 0, chE (chBad l)]) ∧ Below w.heap.size w w' := by
  have HC := chCheck_any a cap l w h
  rw [chE_ne h0] at HC ⊢
  clear h h0
  generalize chBad l = bad at *
  go_enter Try.func26, Try.ntmps26
  go_wp2_with fail
  refine HC.mono ?_
  rintro e w1 ⟨rfl, hb1⟩
  go_wp2
  go_ret2
  exact ⟨rfl, hb1⟩

set_option maxHeartbeats 4000000 in
theorem leaves_some (b off cap : Nat) (l : List Ac) (w : World) (hb : b < w.heap.size) (hcap : l.length ≤ cap) (hc : AcsAt w b off l) (h0 : chBad l = 0) :
    Calls Try.prog 26 #[.slice (some ⟨b, off, none⟩) l.length cap] w fun e w' => ∃ v, e = .returned (.tuple #[v, .nilIface]) ∧ TxtRow w' w.heap.size v (lvs l) ∧ Below w.heap.size w w' := by
  have hlen := chBad_len h0
  have Hlen : (l.length : Int) ≤ 60 := by omega
  have hsl : IsSl w (some ⟨b, off, none⟩) l cap := ⟨hcap, .inr ⟨b, off, rfl, hb, hc⟩⟩
  have HC := chCheck_any (some ⟨b, off, none⟩) cap l w hsl
  rw [h0, chE_zero] at HC
  have HF : Hid (∀ B c W, Below w.heap.size w W → W.cell? ⟨B, 0, none⟩ = some (.string c) → B < W.heap.size → Calls Try.prog 35 #[.slice (some ⟨b, off, none⟩) l.length cap, .func (.func 44) #[] #[.pointer (some ⟨B, 0, none⟩)]] W fun e w' => e = .returned (.bool (decide (0 ≤ idxP (hasPar c) l))) ∧ Below W.heap.size W w') := fun B c W hW hB hlt =>
    chContF_any _ B (hasPar c) _ cap l W (leaves1_tells c B W hB hlt) (by omega) (hsl.below hW)
  have Hc : Hid (AcsAt w b off l) := hc
  clear hc hsl
  obtain ⟨i0, hi, hz0, hz1, hz2⟩ := info_parts str_info
  go_enter Try.func26, Try.ntmps26
  go_wp2_with fail
  refine HC.mono ?_
  rintro e w1 ⟨rfl, hb1⟩
  go_wp2
  go_loopw [5, 15] (fun s5 i wr => ∃ k : Nat, k ≤ l.length ∧ i = .int .i64 k ∧ Hid (TxtRow wr w.heap.size s5 (((l.take k).filter (leafB l)).map Ac.code)) ∧ Below w.heap.size w wr) (fun _ i _ => l.length - (RowKit.intOf i).toNat)
  case atStart => exact ⟨0, Nat.zero_le _, rfl, World.ownsRow_nil _ _ _ _, hb1⟩
  case round =>
    obtain ⟨k, hk, rfl, R, BW⟩ := hrel
    by_cases hlt : k < l.length
    · have hn := (Hc.out k hlt).below BW hb
      have hst := lvs_step l k hlt
      have hfl : (((l.take k).filter (leafB l)).map Ac.code).length ≤ 60 := by
        rw [List.length_map]
        have := List.length_filter_le (leafB l) (l.take k)
        simp only [List.length_take] at this
        omega
      have B2 := BW.alloc BW.size (.cells (l.getD k ac0).cells 42)
      have hcall := HF.out wr.heap.size (l.getD k ac0).code (wr.alloc (.cells (l.getD k ac0).cells 42)) B2 (AcAt.new wr _ _).c0 (by simp)
      have hx := AcAt.new wr (l.getD k ac0) 42
      have R1 := World.ownsRow.alloc R.out (.cells (l.getD k ac0).cells 42)
      have eL : leafB l (l.getD k ac0) = !decide (0 ≤ idxP (hasPar (l.getD k ac0).code) l) := by
        unfold leafB
        by_cases hh : 0 ≤ idxP (hasPar (l.getD k ac0).code) l
        · rw [decide_eq_true hh, decide_eq_false (by omega)]; rfl
        · rw [decide_eq_false hh, decide_eq_true (by omega)]; rfl
      rw [eL] at hst
      clear R eL
      generalize l.getD k ac0 = x at *
      generalize ((l.take k).filter (leafB l)).map Ac.code = fs at *
      have Hst : Hid (((l.take (k + 1)).filter (leafB l)).map Ac.code = _) := hst
      have HR1 : Hid (World.ownsRow _ _ _ _ _ _ _) := R1
      have Hcall : Hid (Calls _ _ _ _ _) := hcall
      clear hst R1 hcall
      obtain ⟨x0, x1, x2, x3, x4⟩ := x
      obtain ⟨c0, c1, c2, c3, c4⟩ := hn
      simp only [Ac.cells] at c0 c1 c2 c3 c4 hx B2 HR1 Hcall Hst
      have j0 : (0 : Int) ≤ k := by omega
      have j1 : (k : Int) < l.length := by omega
      cases hq : decide (0 ≤ idxP (hasPar x0) l)
      · rw [hq] at Hcall Hst
        go_wp2_with fail
        refine Hcall.out.mono ?_
        rintro e w2 ⟨rfl, hb2⟩
        have hx2 := hx.below hb2 (by simp)
        have HR2 : Hid (TxtRow w2 w.heap.size _ fs) := TxtRow.below HR1.out hb2
        have B3 := B2.trans (hb2.mono B2.size)
        have hs3 := B3.size
        clear hx hb2 Hcall HR1 B2 c0 c1 c2 c3 c4
        obtain ⟨d0, d1, d2, d3, d4⟩ := hx2
        simp only [Nat.zero_add] at d0 d1 d2 d3 d4
        go_wp2_with (at_builtin; refine wpList_append_own _ rfl _ _ 72 rfl w.heap.size 9 i0 (.string ByteArray.empty) 1 16 Try.underlying72 hi hz0 hz1 hz2 rfl (by decide) _ _ _ rfl (World.ownsRow.alloc HR2.out _) ⟨w2.heap.size, 0, none⟩ 1 1 [.string x0] rfl rfl (cell_one_new _ _ _) ?c2 ?c3 ?c4 ?c5 ?_)
        case c2 => intro u hu; simp at hu; subst hu; rfl
        case c3 => unfold maxLen; omega
        case c4 => omega
        case c5 => simp; omega
        intro v' w3 hown' hgrow _
        have B4 : Below w.heap.size w w3 := (B3.alloc hs3 (.cells #[.string x0] 9)).grown hgrow (by simp; omega) (fun j ej => by
          rcases HR2.out.form with ⟨hv, _⟩ | ⟨g1, c1, hv, hg1, _⟩
          · rw [hv] at ej; cases ej
          · rw [hv] at ej; cases ej; exact hg1)
        have R3 : TxtRow w3 w.heap.size v' (((l.take (k + 1)).filter (leafB l)).map Ac.code) := by
          rw [Hst.out]
          unfold TxtRow
          simpa using hown'
        have HR3 : Hid (TxtRow _ _ _ _) := R3
        clear hown' hgrow R3 HR2
        go_wp2
        go_roundw
        case rel => exact ⟨k + 1, by omega, by go_num, HR3.out, B4⟩
        case measure => simp [RowKit.intOf]; omega
      · rw [hq] at Hcall Hst
        go_wp2_with (go_at_call 35; refine Hcall.out.mono ?_; rintro e w2 ⟨rfl, hb2⟩)
        go_roundw
        case rel => exact ⟨k + 1, by omega, by go_num, by unfold Hid; rw [Hst.out]; simpa using TxtRow.below HR1.out hb2, B2.trans (hb2.mono B2.size)⟩
        case measure => simp [RowKit.intOf]; omega
    · have hk2 : k = l.length := by omega
      subst hk2
      go_wp2
      go_ret2
      refine ⟨_, rfl, ?_, BW⟩
      have := R.out
      rw [List.take_length] at this
      exact this

theorem leaves_ok (a : Option Addr) (cap : Nat) (l : List Ac) (w : World) (h : IsSl w a l cap) (h0 : chBad l = 0) :
    Calls Try.prog 26 #[.slice a l.length cap] w fun e w' => ∃ v, e = .returned (.tuple #[v, .nilIface]) ∧ TxtRow w' w.heap.size v (lvs l) ∧ Below w.heap.size w w' := by
  rcases h.lies with rfl | ⟨b, off, rfl, hlt, hc⟩
  · refine (leaves_none a cap w).mono ?_
    rintro e w' ⟨rfl, hb⟩
    exact ⟨_, rfl, World.ownsRow_nil _ _ _ _, hb⟩
  · exact leaves_some b off cap l w hlt h.cap hc h0
end Go.Proofs.Ytbbegoklikaphaa

namespace Go.Proofs.Ytbbegoklikaphaa
set_option linter.unusedVariables false
set_option linter.unusedSimpArgs false
set_option maxRecDepth 100000
open Go.RowKit Go.Lib

/-- A slice of texts that is read. -/
structure IsTx (w : World) (a : Option Addr) (l : List ByteArray) (cap : Nat) : Prop where
  cap : l.length ≤ cap
  lies : l = [] ∨ ∃ b off, a = some ⟨b, off, none⟩ ∧ b < w.heap.size ∧ ∀ k, k < l.length → w.cell? ⟨b, off + k, none⟩ = some (.string (l.getD k ByteArray.empty))
theorem IsTx.below {w w' : World} {a : Option Addr} {l : List ByteArray} {cap : Nat} (h : IsTx w a l cap) (hb : Below w.heap.size w w') : IsTx w' a l cap := by
  refine ⟨h.cap, ?_⟩
  rcases h.lies with h | ⟨b, off, e, hlt, hc⟩
  · exact .inl h
  · exact .inr ⟨b, off, e, by have := hb.size; omega, fun k hk => (hb.cell (p := ⟨b, off + k, none⟩) hlt).trans (hc k hk)⟩
theorem tx_take_getD (l : List ByteArray) (k j : Nat) (h : j < k) : (l.take k).getD j ByteArray.empty = l.getD j ByteArray.empty := by
  rw [List.getD_eq_getElem?_getD, List.getD_eq_getElem?_getD, List.getElem?_take, if_pos h]
theorem IsTx.take {w : World} {a : Option Addr} {l : List ByteArray} {cap : Nat} (h : IsTx w a l cap) (k : Nat) : IsTx w a (l.take k) cap := by
  refine ⟨by have := h.cap; simp; omega, ?_⟩
  rcases h.lies with h | ⟨b, off, e, hlt, hc⟩
  · exact .inl (by rw [h]; simp)
  · refine .inr ⟨b, off, e, hlt, fun j hj => ?_⟩
    simp only [List.length_take] at hj
    rw [tx_take_getD l k j (by omega)]
    exact hc j (by omega)
theorem IsTx.at {w : World} {a : Option Addr} {l : List ByteArray} {cap : Nat} (h : IsTx w a l cap) {k : Nat} (hk : k < l.length) : ∃ b off, a = some ⟨b, off, none⟩ ∧ b < w.heap.size ∧ w.cell? ⟨b, off + k, none⟩ = some (.string (l.getD k ByteArray.empty)) := by
  rcases h.lies with rfl | ⟨b, off, e, hlt, hc⟩
  · simp at hk
  · exact ⟨b, off, e, hlt, hc k hk⟩
theorem TxtRow.isTx {w : World} {n : Nat} {v : Value} {fs : List ByteArray} (h : TxtRow w n v fs) : ∃ a cap, v = .slice a fs.length cap ∧ IsTx w a fs cap := by
  rcases h.form with ⟨rfl, rfl⟩ | ⟨g, cap, rfl, _, hlt, hc, hr⟩
  · exact ⟨none, 0, rfl, Nat.le_refl _, .inl rfl⟩
  · exact ⟨_, cap, rfl, hc, .inr ⟨g, 0, rfl, hlt, fun k hk => by rw [Nat.zero_add]; exact hr k hk⟩⟩

set_option maxHeartbeats 1000000 in
theorem txIndex_some (b off cap : Nat) (fs : List ByteArray) (c : ByteArray) (w : World) (hlen : fs.length ≤ 1000) (hc : ∀ k, k < fs.length → w.cell? ⟨b, off + k, none⟩ = some (.string (fs.getD k ByteArray.empty))) :
    Calls Try.prog 47 #[.slice (some ⟨b, off, none⟩) fs.length cap, .string c] w fun e w' => e = .returned (.int .i64 (txtFrom c 0 fs)) ∧ w' = w := by
  have Hc : Hid (∀ k, k < fs.length → w.cell? ⟨b, off + k, none⟩ = some (.string (fs.getD k ByteArray.empty))) := hc
  have Hlen : (fs.length : Int) ≤ 1000 := by omega
  clear hc
  obtain ⟨res, hres⟩ : ∃ res, txtFrom c 0 fs = res := ⟨_, rfl⟩
  have Hres : Hid (txtFrom c 0 fs = res) := hres
  rw [hres]
  clear hres
  go_enter Try.func47, Try.ntmps47
  go_wp2
  go_loop [8] (fun i => ∃ k : Nat, k ≤ fs.length ∧ i = .int .i64 k ∧ Hid (txtFrom c k (fs.drop k) = res)) (fun i => fs.length - (RowKit.intOf i).toNat)
  case atStart => exact ⟨0, Nat.zero_le _, rfl, Hres.out⟩
  case round =>
    obtain ⟨k, hk, rfl, H⟩ := hrel
    by_cases hlt : k < fs.length
    · have hn := Hc.out k hlt
      have E : Hid ((if fs.getD k ByteArray.empty = c then (k : Int) else txtFrom c (k + 1) (fs.drop (k + 1))) = res) := by
        have := H.out
        rw [txt_drop fs k hlt] at this
        exact this
      clear H
      generalize fs.getD k ByteArray.empty = x at *
      have i0 : (0 : Int) ≤ k := by omega
      have i1 : (k : Int) < fs.length := by omega
      by_cases hx : x = c
      · have er : res = k := by rw [← E.out, if_pos hx]
        subst er
        subst hx
        go_wp2
        go_ret
        exact ⟨rfl, rfl⟩
      · have hx' := ch_ne (fun e => hx (Eq.symm e) : c ≠ x)
        have HN : Hid (txtFrom c (k + 1) (fs.drop (k + 1)) = res) := by
          have := E.out; rw [if_neg hx] at this; exact this
        go_wp2
        go_round
        case rel => exact ⟨k + 1, by omega, by go_num, HN⟩
        case measure => simp [RowKit.intOf]; omega
    · have hk2 : k = fs.length := by omega
      subst hk2
      have er : res = -1 := by rw [← H.out, List.drop_length]; rfl
      subst er
      go_wp2
      go_ret
      exact ⟨rfl, rfl⟩

theorem txIndex_none (a : Option Addr) (cap : Nat) (c : ByteArray) (w : World) :
    Calls Try.prog 47 #[.slice a 0 cap, .string c] w fun e w' => e = .returned (.int .i64 (-1)) ∧ w' = w := by
  go_enter Try.func47, Try.ntmps47
  go_wp2
  refine wp_loop_rounds 1 ?_
  rw [rounds_succ]
  go_wp2
  go_ret
  exact ⟨rfl, rfl⟩

theorem txContains_any (a : Option Addr) (cap : Nat) (fs : List ByteArray) (c : ByteArray) (w : World) (hlen : fs.length ≤ 1000) (h : IsTx w a fs cap) :
    Calls Try.prog 30 #[.slice a fs.length cap, .string c] w fun e w' => e = .returned (.bool (memB c fs)) ∧ w' = w := by
  rw [← txtFrom_mem c fs 0]
  have hI : Calls Try.prog 47 #[.slice a fs.length cap, .string c] w fun e w' => e = .returned (.int .i64 (txtFrom c 0 fs)) ∧ w' = w := by
    rcases h.lies with rfl | ⟨b, off, rfl, _, hc⟩
    · exact txIndex_none a cap c w
    · exact txIndex_some b off cap fs c w hlen hc
  clear h
  go_enter Try.func30, Try.ntmps30
  go_wp2_with fail
  refine hI.mono ?_
  rintro e w' ⟨rfl, rfl⟩
  go_wp2
  go_ret
  exact ⟨rfl, rfl⟩

/-- What is wrong with a code: it is no account's, or no leaf's. -/
def leafBad (c : List Ac) (code : ByteArray) : Int := if idxP (hasCode code) c < 0 then 6 else if memB code (lvs c) = true then 0 else 12

/-- The first number that is not 0. -/
def firstTo (f : Nat → Int) : Nat → Int
  | 0 => 0
  | k + 1 => if firstTo f k ≠ 0 then firstTo f k else f k
theorem firstTo_next {f : Nat → Int} {k : Nat} (h : firstTo f k = 0) : firstTo f (k + 1) = f k := by
  unfold firstTo; rw [if_neg (by simp [h])]
theorem firstTo_stays {f : Nat → Int} {k : Nat} (h : firstTo f k ≠ 0) : ∀ n, k ≤ n → firstTo f n = firstTo f k
  | 0, hn => by obtain rfl : k = 0 := by omega
                rfl
  | n + 1, hn => by
    by_cases e : k = n + 1
    · subst e; rfl
    · have ih := firstTo_stays h n (by omega)
      show (if firstTo f n ≠ 0 then firstTo f n else f n) = _
      rw [if_pos (by rw [ih]; exact h), ih]
theorem firstTo_first {f : Nat → Int} {n k : Nat} (h0 : firstTo f k = 0) (h1 : f k ≠ 0) (hlt : k < n) : firstTo f n = f k := by
  have e := firstTo_next h0
  rw [firstTo_stays (k := k + 1) (by rw [e]; exact h1) n hlt, e]
theorem firstTo_zero {f : Nat → Int} : ∀ {n : Nat}, firstTo f n = 0 → ∀ k, k < n → f k = 0
  | 0, _, k, hk => by omega
  | n + 1, h, k, hk => by
    have h0 : firstTo f n = 0 := by
      by_cases e : firstTo f n = 0
      · exact e
      · rw [firstTo_stays e (n + 1) (by omega)] at h; exact absurd h e
    rw [firstTo_next h0] at h
    by_cases e : k = n
    · subst e; exact h
    · exact firstTo_zero h0 k (by omega)
theorem firstTo_of {f : Nat → Int} : ∀ {n : Nat}, (∀ k, k < n → f k = 0) → firstTo f n = 0
  | 0, _ => rfl
  | n + 1, h => by rw [firstTo_next (firstTo_of fun k hk => h k (by omega))]; exact h n (by omega)

end Go.Proofs.Ytbbegoklikaphaa

namespace Go.Proofs.Ytbbegoklikaphaa
set_option linter.unusedVariables false
set_option linter.unusedSimpArgs false
open Go.RowKit

theorem bl_self : ∀ a : List UInt8, Op.bytesLess a a = false
  | [] => rfl
  | x :: a => by
    have := bl_self a
    simp [Op.bytesLess, this]

theorem bl_total : ∀ a b : List UInt8, Op.bytesLess a b = false → a ≠ b → Op.bytesLess b a = true
  | [], [], _, h => absurd rfl h
  | [], _ :: _, h, _ => by simp [Op.bytesLess] at h
  | _ :: _, [], _, _ => by simp [Op.bytesLess]
  | x :: a, y :: b, h, hne => by
    simp only [Op.bytesLess, Bool.or_eq_false_iff, decide_eq_false_iff_not, Bool.and_eq_false_iff, beq_eq_false_iff_ne] at h
    obtain ⟨h1, h2⟩ := h
    by_cases e : x = y
    · subst e
      have := bl_total a b (by simpa using h2) (fun e => hne (by rw [e]))
      simp [Op.bytesLess, this]
    · have : y < x := by
        rw [UInt8.lt_iff_toNat_lt] at h1 ⊢
        have : x.toNat ≠ y.toNat := fun h => e (UInt8.toNat_inj.1 h)
        omega
      simp [Op.bytesLess, this]

theorem bl_trans : ∀ a b c : List UInt8, Op.bytesLess a b = true → Op.bytesLess b c = true → Op.bytesLess a c = true
  | _, [], _, h, _ => by cases ‹List UInt8› <;> simp [Op.bytesLess] at h
  | _, _ :: _, [], _, h => by simp [Op.bytesLess] at h
  | [], _ :: _, _ :: _, _, _ => by simp [Op.bytesLess]
  | x :: a, y :: b, z :: c, h1, h2 => by
    simp only [Op.bytesLess, Bool.or_eq_true, decide_eq_true_eq, Bool.and_eq_true, beq_iff_eq] at h1 h2 ⊢
    simp only [UInt8.lt_iff_toNat_lt] at h1 h2 ⊢
    rcases h1 with h1 | ⟨rfl, h1⟩
    · rcases h2 with h2 | ⟨rfl, h2⟩
      · exact .inl (by omega)
      · exact .inl h1
    · rcases h2 with h2 | ⟨rfl, h2⟩
      · exact .inl h2
      · exact .inr ⟨rfl, bl_trans a b c h1 h2⟩

/-- A line. -/
structure Ln where
  acc : ByteArray
  cur : ByteArray
  amt : Int
def Ln.cells (x : Ln) : Array Value := #[.string x.acc, .string x.cur, .int .i64 x.amt]
/-- A line of nothing. -/
def ln0 : Ln := ⟨ByteArray.empty, ByteArray.empty, 0⟩

theorem toList_inj {a b : ByteArray} (h : a.toList = b.toList) : a = b := by
  rw [Lib.toList_data, Lib.toList_data] at h
  exact WideShapes.bytes_inj h

/-- A line stands ahead of another one, by account, then currency. -/
def lnLt (a b : Ln) : Bool := Op.bytesLess a.acc.toList b.acc.toList || (a.acc.toList == b.acc.toList && Op.bytesLess a.cur.toList b.cur.toList)
/-- Two lines are of the same account and currency. -/
def lnEq (a b : Ln) : Bool := a.acc.toList == b.acc.toList && a.cur.toList == b.cur.toList

theorem lnEq_iff {a b : Ln} : lnEq a b = true ↔ a.acc = b.acc ∧ a.cur = b.cur := by
  unfold lnEq
  simp only [Bool.and_eq_true, beq_iff_eq]
  exact ⟨fun h => ⟨toList_inj h.1, toList_inj h.2⟩, fun h => ⟨by rw [h.1], by rw [h.2]⟩⟩

theorem lnLt_self (a : Ln) : lnLt a a = false := by simp [lnLt, bl_self]
theorem lnLt_eq {a b : Ln} (h : lnEq a b = true) : lnLt a b = false := by
  obtain ⟨h1, h2⟩ := lnEq_iff.1 h
  simp [lnLt, h1, h2, bl_self]
theorem lnLt_key {a b c : Ln} (h : lnEq b c = true) : lnLt a b = lnLt a c ∧ lnLt b a = lnLt c a := by
  obtain ⟨h1, h2⟩ := lnEq_iff.1 h
  simp [lnLt, h1, h2]
theorem lnLt_total {a b : Ln} (h : lnLt a b = false) (hn : lnEq a b = false) : lnLt b a = true := by
  unfold lnLt at *
  unfold lnEq at hn
  simp only [Bool.or_eq_false_iff, Bool.and_eq_false_iff, beq_eq_false_iff_ne, Bool.or_eq_true, Bool.and_eq_true, beq_iff_eq] at h hn ⊢
  obtain ⟨h1, h2⟩ := h
  by_cases e : a.acc.toList = b.acc.toList
  · right
    refine ⟨e.symm, bl_total _ _ ?_ ?_⟩
    · rcases h2 with h2 | h2
      · exact absurd e h2
      · exact h2
    · rcases hn with hn | hn
      · exact absurd e hn
      · exact hn
  · exact .inl (bl_total _ _ h1 e)
theorem lnLt_trans {a b c : Ln} (h1 : lnLt a b = true) (h2 : lnLt b c = true) : lnLt a c = true := by
  unfold lnLt at *
  simp only [Bool.or_eq_true, Bool.and_eq_true, beq_iff_eq] at h1 h2 ⊢
  rcases h1 with h1 | ⟨e1, h1⟩
  · rcases h2 with h2 | ⟨e2, h2⟩
    · exact .inl (bl_trans _ _ _ h1 h2)
    · exact .inl (by rw [← e2]; exact h1)
  · rcases h2 with h2 | ⟨e2, h2⟩
    · exact .inl (by rw [e1]; exact h2)
    · exact .inr ⟨e1.trans e2, bl_trans _ _ _ h1 h2⟩
theorem lnLt_asymm {a b : Ln} (h : lnLt a b = true) : lnLt b a = false := by
  cases h2 : lnLt b a
  · rfl
  · have := lnLt_trans h h2
    rw [lnLt_self] at this
    cases this

/-- How many stand ahead of a line. -/
def posL (x : Ln) : List Ln → Nat
  | [] => 0
  | y :: l => if lnLt y x = true then posL x l + 1 else 0
/-- A line put to those in order. -/
def insL (x : Ln) : List Ln → List Ln
  | [] => [x]
  | y :: l => if lnLt y x = true then y :: insL x l else if lnEq y x = true then ⟨y.acc, y.cur, y.amt + x.amt⟩ :: l else x :: y :: l
/-- What is alike together, in order. -/
def grp (l : List Ln) : List Ln := l.foldl (fun r x => insL x r) []
theorem grp_snoc (l : List Ln) (x : Ln) : grp (l ++ [x]) = insL x (grp l) := by simp [grp]

/-- Lines in order. -/
def SortL (l : List Ln) : Prop := l.Pairwise fun a b => lnLt a b = true

theorem posL_le (x : Ln) : ∀ l : List Ln, posL x l ≤ l.length
  | [] => Nat.le_refl _
  | y :: l => by
    have := posL_le x l
    rw [posL]
    split
    · simp only [List.length_cons]; omega
    · exact Nat.zero_le _
theorem posL_lt (x : Ln) : ∀ (l : List Ln) (h : Nat), h < posL x l → lnLt (l.getD h ln0) x = true
  | [], h, hh => by simp [posL] at hh
  | y :: l, h, hh => by
    rw [posL] at hh
    split at hh
    · rename_i hy
      cases h with
      | zero => simpa using hy
      | succ h => simpa using posL_lt x l h (by omega)
    · omega
theorem posL_at (x : Ln) : ∀ (l : List Ln), posL x l < l.length → lnLt (l.getD (posL x l) ln0) x = false
  | [], h => by simp at h
  | y :: l, h => by
    rw [posL] at h ⊢
    split
    · rename_i hy
      rw [if_pos hy] at h
      simpa using posL_at x l (by simpa using h)
    · rename_i hy
      simpa using hy
theorem sort_lt {l : List Ln} (h : SortL l) {i j : Nat} (hij : i < j) (hj : j < l.length) : lnLt (l.getD i ln0) (l.getD j ln0) = true := by
  have := List.pairwise_iff_getElem.1 h i j (by omega) hj hij
  rw [List.getD_eq_getElem?_getD, List.getD_eq_getElem?_getD, List.getElem?_eq_getElem hj, List.getElem?_eq_getElem (by omega : i < l.length)]
  exact this
theorem pos_iff {l : List Ln} (hs : SortL l) (x : Ln) {h : Nat} (hh : h < l.length) : lnLt (l.getD h ln0) x = decide (h < posL x l) := by
  by_cases hp : h < posL x l
  · rw [posL_lt x l h hp, decide_eq_true hp]
  · rw [decide_eq_false hp]
    have hq := posL_at x l (by omega)
    by_cases e : h = posL x l
    · rw [e]; exact hq
    · cases h2 : lnLt (l.getD h ln0) x
      · rfl
      · have := lnLt_trans (sort_lt hs (by omega : posL x l < h) hh) h2
        rw [hq] at this
        cases this

theorem insL_found (x : Ln) : ∀ (l : List Ln), posL x l < l.length → lnEq (l.getD (posL x l) ln0) x = true → insL x l = l.set (posL x l) ⟨(l.getD (posL x l) ln0).acc, (l.getD (posL x l) ln0).cur, (l.getD (posL x l) ln0).amt + x.amt⟩
  | [], h, _ => by simp at h
  | y :: l, h, he => by
    by_cases hy : lnLt y x = true
    · rw [posL, if_pos hy] at h he ⊢
      rw [insL, if_pos hy]
      simp only [List.getD_cons_succ, List.set_cons_succ] at he ⊢
      rw [insL_found x l (by simpa using h) he]
    · rw [posL, if_neg hy] at h he ⊢
      simp only [List.getD_cons_zero, List.set_cons_zero] at he ⊢
      rw [insL, if_neg hy, if_pos he]
theorem insL_new (x : Ln) : ∀ (l : List Ln), (posL x l < l.length → lnEq (l.getD (posL x l) ln0) x = false) → insL x l = l.take (posL x l) ++ x :: l.drop (posL x l)
  | [], _ => rfl
  | y :: l, he => by
    by_cases hy : lnLt y x = true
    · rw [posL, if_pos hy] at he ⊢
      rw [insL, if_pos hy, insL_new x l (fun h => by simpa using he (by simpa using h))]
      rfl
    · rw [posL, if_neg hy] at he ⊢
      have := he (by simp)
      simp only [List.getD_cons_zero] at this
      rw [insL, if_neg hy, if_neg (by rw [this]; simp)]
      rfl
theorem insL_length (x : Ln) : ∀ l : List Ln, (insL x l).length ≤ l.length + 1
  | [] => Nat.le_refl _
  | y :: l => by
    have := insL_length x l
    rw [insL]
    split
    · simp only [List.length_cons]; omega
    · split <;> simp
theorem grp_length_from : ∀ (l r : List Ln), (l.foldl (fun r x => insL x r) r).length ≤ r.length + l.length
  | [], r => by simp
  | x :: l, r => by
    have h1 := grp_length_from l (insL x r)
    have h2 := insL_length x r
    simp only [List.foldl_cons, List.length_cons]
    omega
theorem grp_length (l : List Ln) : (grp l).length ≤ l.length := by
  have := grp_length_from l []
  simpa [grp] using this

theorem insL_mem (x : Ln) : ∀ (l : List Ln) (z : Ln), z ∈ insL x l → (∃ y ∈ l, lnEq z y = true) ∨ lnEq z x = true
  | [], z, h => by
    simp only [insL, List.mem_singleton] at h
    subst h
    exact .inr (lnEq_iff.2 ⟨rfl, rfl⟩)
  | y :: l, z, h => by
    rw [insL] at h
    split at h
    · rcases List.mem_cons.1 h with rfl | h
      · exact .inl ⟨z, by simp, lnEq_iff.2 ⟨rfl, rfl⟩⟩
      · rcases insL_mem x l z h with ⟨w, hw, e⟩ | e
        · exact .inl ⟨w, by simp [hw], e⟩
        · exact .inr e
    · split at h
      · rcases List.mem_cons.1 h with rfl | h
        · exact .inl ⟨y, by simp, lnEq_iff.2 ⟨rfl, rfl⟩⟩
        · exact .inl ⟨z, by simp [h], lnEq_iff.2 ⟨rfl, rfl⟩⟩
      · rcases List.mem_cons.1 h with rfl | h
        · exact .inr (lnEq_iff.2 ⟨rfl, rfl⟩)
        · exact .inl ⟨z, h, lnEq_iff.2 ⟨rfl, rfl⟩⟩
theorem insL_sort (x : Ln) : ∀ (l : List Ln), SortL l → SortL (insL x l)
  | [], _ => by simp [SortL, insL]
  | y :: l, h => by
    have h1 : ∀ z ∈ l, lnLt y z = true := (List.pairwise_cons.1 h).1
    have h2 : SortL l := (List.pairwise_cons.1 h).2
    rw [insL]
    split
    · rename_i hy
      refine List.pairwise_cons.2 ⟨fun z hz => ?_, insL_sort x l h2⟩
      rcases insL_mem x l z hz with ⟨w, hw, e⟩ | e
      · rw [(lnLt_key e).1]; exact h1 w hw
      · rw [(lnLt_key e).1]; exact hy
    · rename_i hy
      split
      · exact List.pairwise_cons.2 ⟨fun z hz => by
          have := h1 z hz
          rw [← (lnLt_key (a := z) (b := ⟨y.acc, y.cur, y.amt + x.amt⟩) (c := y) (lnEq_iff.2 ⟨rfl, rfl⟩)).2] at this
          exact this, h2⟩
      · rename_i he
        have hxy : lnLt x y = true := lnLt_total (by simpa using hy) (by simpa using he)
        refine List.pairwise_cons.2 ⟨fun z hz => ?_, h⟩
        rcases List.mem_cons.1 hz with rfl | hz
        · exact hxy
        · exact lnLt_trans hxy (h1 z hz)
theorem grp_sort_from : ∀ (l r : List Ln), SortL r → SortL (l.foldl (fun r x => insL x r) r)
  | [], r, h => h
  | x :: l, r, h => grp_sort_from l _ (insL_sort x r h)
theorem grp_sort (l : List Ln) : SortL (grp l) := grp_sort_from l [] List.Pairwise.nil

/-- All amounts lie within a number. -/
def Within (m : Int) (l : List Ln) : Prop := ∀ x ∈ l, -m ≤ x.amt ∧ x.amt ≤ m
theorem within_ins {m k : Int} (hk : 0 ≤ k) (x : Ln) (hx : -m ≤ x.amt ∧ x.amt ≤ m) : ∀ l : List Ln, Within k l → Within (k + m) (insL x l)
  | [], _ => by
    intro z hz
    simp only [insL, List.mem_singleton] at hz
    subst hz
    omega
  | y :: l, h => by
    have h1 := h y (by simp)
    have h2 : Within k l := fun z hz => h z (by simp [hz])
    rw [insL]
    split
    · intro z hz
      rcases List.mem_cons.1 hz with rfl | hz
      · omega
      · exact within_ins hk x hx l h2 z hz
    · split
      · intro z hz
        rcases List.mem_cons.1 hz with rfl | hz
        · simp only; omega
        · have := h2 z hz; omega
      · intro z hz
        rcases List.mem_cons.1 hz with rfl | hz
        · omega
        · have := h z hz; omega
theorem within_grp_from {m : Int} (hm : 0 ≤ m) : ∀ (l r : List Ln) (k : Int), 0 ≤ k → Within m l → Within k r → Within (k + l.length * m) (l.foldl (fun r x => insL x r) r)
  | [], r, k, hk, _, h => by simpa using h
  | x :: l, r, k, hk, hl, h => by
    have := within_grp_from hm l (insL x r) (k + m) (by omega) (fun z hz => hl z (by simp [hz])) (within_ins hk x (hl x (by simp)) r h)
    have e : k + ((x :: l).length : Int) * m = k + m + (l.length : Int) * m := by
      simp only [List.length_cons, Int.natCast_add, Int.natCast_one]
      rw [Int.add_mul]
      omega
    rw [e]
    exact this
theorem within_grp {m : Int} (hm : 0 ≤ m) {l : List Ln} (h : Within m l) : Within (l.length * m) (grp l) := by
  have := within_grp_from hm l [] 0 (Int.le_refl _) h (fun z hz => by simp at hz)
  simpa [grp] using this
end Go.Proofs.Ytbbegoklikaphaa

namespace Go.Proofs.Ytbbegoklikaphaa
set_option linter.unusedVariables false
set_option linter.unusedSimpArgs false
set_option maxRecDepth 100000
open Go.RowKit Go.Lib

theorem en_ne {a b : ByteArray} (h : a ≠ b) : (a.toList == b.toList) = false := by
  rw [beq_eq_false_iff_ne]
  exact fun e => h (toList_inj e)
theorem en_empty {a : ByteArray} (h : a.size = 0) : a.toList = [] := by
  rw [Lib.toList_data]
  exact List.eq_nil_of_length_eq_zero h
theorem en_some {a : ByteArray} (h : a.size ≠ 0) : ¬ a.toList = [] := by
  rw [Lib.toList_data]
  exact fun e => h (congrArg List.length e)
theorem en_drewN {B : Nat} {a w : World} (h : Below B a w) (n : Nat) : Below B a (w.drewN n) := h.trans ⟨rfl, rfl, rfl, Nat.le_refl _, fun _ _ => rfl⟩
theorem en_enters {f : FuncId} {fn : Func} (hf : Try.prog.funcs[f]? = some fn) (hn : (fn.name == "runtime.NumGoroutine") = false) (hb : ∃ c, fn.body = some c) (args : Array Value) (w : World) : (callFunc f args).run Try.prog w = .ok (.enter f args) w := by
  obtain ⟨c, hc⟩ := hb
  exact MuLone.run_callFunc_enter hf hn hc args w

/-- An error by its number. -/
def enE (n : Int) : Value := if n = 0 then .nilIface else .iface 58 (.int .i64 n)
theorem enE_zero : enE 0 = .nilIface := rfl
theorem enE_ne {n : Int} (h : n ≠ 0) : enE n = .iface 58 (.int .i64 n) := if_neg h

/-- A sign that a Ref does not have. -/
def badR (r : Nat) : Bool := (decide (r < 97) || decide (122 < r)) && (decide (r < 48) || decide (57 < r)) && !decide (r = 45)
theorem badR_low {r : Nat} (h : badR r = false) : r < 128 := by
  simp [badR] at h
  omega

/-- Where the first sign stands that is told, from a place on, among at most so many; else -1. -/
def signFrom (p : Nat → Bool) (s : ByteArray) : Nat → Nat → Int
  | 0, _ => -1
  | f + 1, pos => if pos < s.size then (if p (Utf8.decode s pos).1 = true then (pos : Int) else signFrom p s f (pos + (Utf8.decode s pos).2)) else -1
theorem signFrom_end (p : Nat → Bool) (s : ByteArray) (f pos : Nat) (h : ¬ pos < s.size) : signFrom p s f pos = -1 := by cases f <;> simp [signFrom, h]

theorem sign_none (p : Nat → Bool) (hp : ∀ r, p r = false → r < 128) (s : ByteArray) : ∀ (f pos : Nat), s.size ≤ pos + f → (signFrom p s f pos < 0 ↔ ∀ i, pos ≤ i → i < s.size → p (s.get! i).toNat = false)
  | 0, pos, h => by
    simp only [signFrom]
    exact ⟨fun _ i h1 h2 => by omega, fun _ => by omega⟩
  | f + 1, pos, h => by
    by_cases hlt : pos < s.size
    · have hg : s.get! pos = s[pos]'hlt := by
        show s.data[pos]! = s.data[pos]'hlt
        exact getElem!_pos s.data pos hlt
      rw [signFrom, if_pos hlt]
      by_cases ha : (s[pos]'hlt).toNat < 128
      · rw [decode_ascii s pos hlt ha]
        cases hc : p (s[pos]'hlt).toNat
        · rw [if_neg (by simp [hc]), sign_none p hp s f (pos + 1) (by omega)]
          constructor
          · intro hf i h1 h2
            by_cases e : i = pos
            · subst e; rw [hg]; exact hc
            · exact hf i (by omega) h2
          · intro hf i h1 h2
            exact hf i (by omega) h2
        · rw [if_pos (by simp [hc])]
          refine ⟨fun h => by omega, fun hf => ?_⟩
          have := hf pos (Nat.le_refl _) hlt
          rw [hg, hc] at this
          cases this
      · have hd := (decode_high s pos hlt (by omega)).1
        have hq : p (Utf8.decode s pos).1 = true := by
          cases hh : p (Utf8.decode s pos).1
          · have := hp _ hh; omega
          · rfl
        rw [if_pos hq]
        refine ⟨fun h => by omega, fun hf => ?_⟩
        have := hp _ (hf pos (Nat.le_refl _) hlt)
        rw [hg] at this
        omega
    · rw [signFrom_end p s _ _ hlt]
      exact ⟨fun _ i h1 h2 => by omega, fun _ => by omega⟩

/-- May a text be a Ref? -/
def isRefB (s : ByteArray) : Bool := decide (s.size ≠ 0) && (decide (s.size ≤ 12) && (decide ((s.get! 0).toNat ≠ 45) && decide (signFrom badR s s.size 0 < 0)))
theorem isRefB_iff {s : ByteArray} : isRefB s = true ↔ s.size ≠ 0 ∧ s.size ≤ 12 ∧ (s.get! 0).toNat ≠ 45 ∧ ∀ i, i < s.size → badR (s.get! i).toNat = false := by
  unfold isRefB
  simp only [Bool.and_eq_true, decide_eq_true_eq]
  rw [sign_none badR (fun r h => badR_low h) s s.size 0 (by omega)]
  exact ⟨fun ⟨a, b, c, d⟩ => ⟨a, b, c, fun i hi => d i (Nat.zero_le _) hi⟩, fun ⟨a, b, c, d⟩ => ⟨a, b, c, fun i _ hi => d i hi⟩⟩

end Go.Proofs.Ytbbegoklikaphaa
