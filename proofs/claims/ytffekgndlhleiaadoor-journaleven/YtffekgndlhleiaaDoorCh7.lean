/-
  The contracts of chart.Under, chart.Leaves and chart.Find.
-/
import Derived.Test.YtffekgndlhleiaaDoorCh6
namespace Go.Proofs.YtffekgndlhleiaaDoor
set_option linter.unusedVariables false
set_option linter.unusedSimpArgs false
set_option maxRecDepth 100000
open Go.RowKit Go.Lib

/-- The codes of those that are under one. -/
def undC (l : List Ac) (c : ByteArray) : List ByteArray := (und l c).map fun i => (l.getD i ac0).code

theorem placeBad_ok {l : List Ac} {c : ByteArray} (h : placeBad l c = 0) : chBad l = 0 ∧ 0 ≤ idxP (hasCode c) l := by
  unfold placeBad at h
  split at h
  · omega
  · split at h
    · omega
    · exact ⟨by omega, by omega⟩

theorem TxtRow.below {w w' : World} {n : Nat} {v : Value} {fs : List ByteArray} (h : TxtRow w n v fs) (hb : Below w.heap.size w w') : TxtRow w' n v fs := by
  rcases h.2 with ⟨hv, hn⟩ | ⟨g1, c1, cur, hv, hb1, hh, r⟩
  · exact ⟨h.1, .inl ⟨hv, hn⟩⟩
  · exact ⟨h.1, .inr ⟨g1, c1, cur, hv, hb1, (hb.block g1 (Array.getElem?_eq_some_iff.1 hh).1).trans hh, r⟩⟩

theorem row_mono {w : World} {n m : Nat} {v : Value} {fs : List ByteArray} (h : TxtRow w n v fs) (hm : m ≤ n) : TxtRow w m v fs := by
  rcases h.2 with ⟨hv, hn⟩ | ⟨g1, c1, cur, hv, hb1, r⟩
  · exact ⟨h.1, .inl ⟨hv, hn⟩⟩
  · exact ⟨h.1, .inr ⟨g1, c1, cur, hv, by omega, r⟩⟩

/-- An account whose parent is a code. -/
def hasPar (c : ByteArray) (a : Ac) : Bool := decide (a.par = c)
def leafB (l : List Ac) (a : Ac) : Bool := decide (idxP (hasPar a.code) l < 0)
/-- The codes of the leaves. -/
def lvs (l : List Ac) : List ByteArray := (l.filter (leafB l)).map Ac.code

theorem leaves1_any (x : Ac) (c : ByteArray) (B : Nat) (w : World) (hB : w.cell? ⟨B, 0, none⟩ = some (.string c)) (hlt : B < w.heap.size) :
    Calls Tryd.prog 47 #[.agg x.cells, .pointer (some ⟨B, 0, none⟩)] w fun e w' => e = .returned (.bool (hasPar c x)) ∧ Below w.heap.size w w' := by
  obtain ⟨a0, a1, a2, a3, a4⟩ := x
  have b0 : Below w.heap.size w (w.alloc (.cells #[.string a0, .string a1, .int .i64 a2, .string a3, .bool a4] 39)) := (Below.refl _ w).alloc (Nat.le_refl _) _
  have hB2 : (w.alloc (.cells #[.string a0, .string a1, .int .i64 a2, .string a3, .bool a4] 39)).cell? ⟨B, 0, none⟩ = some (.string c) := (b0.cell (p := ⟨B, 0, none⟩) hlt).trans hB
  simp only [Ac.cells]
  by_cases h : a3 = c
  · subst h
    have e1 : hasPar a3 ⟨a0, a1, a2, a3, a4⟩ = true := by simp [hasPar]
    rw [e1]
    go_enter Tryd.func47, Tryd.ntmps47
    go_wp2
    go_ret
    exact ⟨rfl, b0⟩
  · have e1 : hasPar c ⟨a0, a1, a2, a3, a4⟩ = false := by simp [hasPar, h]
    have h' := ch_ne h
    rw [e1]
    go_enter Tryd.func47, Tryd.ntmps47
    go_wp2
    go_ret
    exact ⟨by rw [← h']; rfl, b0⟩

theorem leaves1_tells (c : ByteArray) (B : Nat) (w : World) (hB : w.cell? ⟨B, 0, none⟩ = some (.string c)) (hlt : B < w.heap.size) : Tells 47 B (hasPar c) w :=
  ⟨fun args W => enters Tryd.func47 (by kernel_rfl) ⟨_, rfl⟩ args W, fun x W hW => leaves1_any x c B W ((hW.cell (p := ⟨B, 0, none⟩) hlt).trans hB) (by have := hW.size; omega)⟩

theorem chContF_any (g B : Nat) (p : Ac → Bool) (a : Option Addr) (cap : Nat) (l : List Ac) (w : World) (hp : Tells g B p w) (hlen : l.length ≤ 1000) (h : IsSl w a l cap) :
    Calls Tryd.prog 46 #[.slice a l.length cap, .func (.func g) #[] #[.pointer (some ⟨B, 0, none⟩)]] w fun e w' => e = .returned (.bool (decide (0 ≤ idxP p l))) ∧ Below w.heap.size w w' := by
  have hI := chIdx_any g B p a cap l w hp hlen h
  clear hp h
  go_enter Tryd.func46, Tryd.ntmps46
  go_wp2_with fail
  refine hI.mono ?_
  rintro e w' ⟨rfl, hb⟩
  go_wp2
  go_ret
  exact ⟨rfl, hb⟩

theorem lvs_step (l : List Ac) (k : Nat) (h : k < l.length) : ((l.take (k + 1)).filter (leafB l)).map Ac.code = ((l.take k).filter (leafB l)).map Ac.code ++ (if leafB l (l.getD k ac0) = true then [(l.getD k ac0).code] else []) := by
  have e2 : l.take (k + 1) = l.take k ++ [l.getD k ac0] := by
    rw [List.take_succ_eq_append_getElem h, List.getD_eq_getElem?_getD, List.getElem?_eq_getElem h]; rfl
  rw [e2, List.filter_append, List.map_append]
  congr 1
  by_cases hh : leafB l (l.getD k ac0) = true
  · rw [if_pos hh, List.filter_cons_of_pos hh]; rfl
  · rw [if_neg hh, List.filter_cons_of_neg hh]; rfl

theorem leaves_none (a : Option Addr) (cap : Nat) (w : World) :
    Calls Tryd.prog 27 #[.slice a 0 cap] w fun e w' => e = .returned (.tuple #[.slice none 0 0, .nilIface]) ∧ Below w.heap.size w w' := by
  have HC := chCheck_none a cap w
  rw [chE_zero] at HC
  go_enter Tryd.func27, Tryd.ntmps27
  go_wp2_with fail
  refine HC.mono ?_
  rintro e w1 ⟨rfl, hb1⟩
  go_wp2
  refine wp_loop_rounds 1 ?_
  rw [rounds_succ]
  go_wp2
  go_ret2
  exact ⟨rfl, hb1⟩

theorem leaves_bad (a : Option Addr) (cap : Nat) (l : List Ac) (w : World) (h : IsSl w a l cap) (h0 : chBad l ≠ 0) :
    Calls Tryd.prog 27 #[.slice a l.length cap] w fun e w' => e = .returned (.tuple #[.slice none 0 0, chE (chBad l)]) ∧ Below w.heap.size w w' := by
  have HC := chCheck_any a cap l w h
  rw [chE_ne h0] at HC ⊢
  clear h h0
  generalize chBad l = bad at *
  go_enter Tryd.func27, Tryd.ntmps27
  go_wp2_with fail
  refine HC.mono ?_
  rintro e w1 ⟨rfl, hb1⟩
  go_wp2
  go_ret2
  exact ⟨rfl, hb1⟩

set_option maxHeartbeats 4000000 in
theorem leaves_some (b off cap : Nat) (l : List Ac) (w : World) (hb : b < w.heap.size) (hcap : l.length ≤ cap) (hc : AcsAt w b off l) (h0 : chBad l = 0) :
    Calls Tryd.prog 27 #[.slice (some ⟨b, off, none⟩) l.length cap] w fun e w' => ∃ v, e = .returned (.tuple #[v, .nilIface]) ∧ TxtRow w' w.heap.size v (lvs l) ∧ Below w.heap.size w w' := by
  have hlen := chBad_len h0
  have Hlen : (l.length : Int) ≤ 60 := by omega
  have hsl : IsSl w (some ⟨b, off, none⟩) l cap := ⟨hcap, .inr ⟨b, off, rfl, hb, hc⟩⟩
  have HC := chCheck_any (some ⟨b, off, none⟩) cap l w hsl
  rw [h0, chE_zero] at HC
  have HF : Hid (∀ B c W, Below w.heap.size w W → W.cell? ⟨B, 0, none⟩ = some (.string c) → B < W.heap.size → Calls Tryd.prog 46 #[.slice (some ⟨b, off, none⟩) l.length cap, .func (.func 47) #[] #[.pointer (some ⟨B, 0, none⟩)]] W fun e w' => e = .returned (.bool (decide (0 ≤ idxP (hasPar c) l))) ∧ Below W.heap.size W w') := fun B c W hW hB hlt =>
    chContF_any _ B (hasPar c) _ cap l W (leaves1_tells c B W hB hlt) (by omega) (hsl.below hW)
  have Hc : Hid (AcsAt w b off l) := hc
  clear hc hsl
  obtain ⟨i0, hi, hz0, hz1, hz2⟩ := info_parts str_info
  go_enter Tryd.func27, Tryd.ntmps27
  go_wp2_with fail
  refine HC.mono ?_
  rintro e w1 ⟨rfl, hb1⟩
  go_wp2
  go_loopw [5, 15] (fun s5 i wr => ∃ k : Nat, k ≤ l.length ∧ i = .int .i64 k ∧ Hid (TxtRow wr w.heap.size s5 (((l.take k).filter (leafB l)).map Ac.code)) ∧ Below w.heap.size w wr) (fun _ i _ => l.length - (intOf i).toNat)
  case atStart => exact ⟨0, Nat.zero_le _, rfl, World.ownsRow_nil _ _ _ _, hb1⟩
  case round =>
    obtain ⟨k, hk, rfl, R, BW⟩ := hrel
    by_cases hlt : k < l.length
    · have hn := (Hc.out k hlt).below BW hb
      have hst := lvs_step l k hlt
      have hfl : (((l.take k).filter (leafB l)).map Ac.code).length ≤ 60 := by
        rw [List.length_map]
        have := List.length_filter_le (leafB l) (l.take k)
        simp only [List.length_take] at this
        omega
      have B2 := BW.alloc BW.size (.cells (l.getD k ac0).cells 39)
      have hcall := HF.out wr.heap.size (l.getD k ac0).code (wr.alloc (.cells (l.getD k ac0).cells 39)) B2 (AcAt.new wr _ _).c0 (by simp)
      have hx := AcAt.new wr (l.getD k ac0) 39
      have R1 := World.ownsRow.alloc R.out (.cells (l.getD k ac0).cells 39)
      have eL : leafB l (l.getD k ac0) = !decide (0 ≤ idxP (hasPar (l.getD k ac0).code) l) := by
        unfold leafB
        by_cases hh : 0 ≤ idxP (hasPar (l.getD k ac0).code) l
        · rw [decide_eq_true hh, decide_eq_false (by omega)]; rfl
        · rw [decide_eq_false hh, decide_eq_true (by omega)]; rfl
      rw [eL] at hst
      clear R eL
      generalize l.getD k ac0 = x at *
      generalize ((l.take k).filter (leafB l)).map Ac.code = fs at *
      have Hst : Hid (((l.take (k + 1)).filter (leafB l)).map Ac.code = _) := hst
      have HR1 : Hid (World.ownsRow _ _ _ _ _ _ _) := R1
      have Hcall : Hid (Calls _ _ _ _ _) := hcall
      clear hst R1 hcall
      obtain ⟨x0, x1, x2, x3, x4⟩ := x
      obtain ⟨c0, c1, c2, c3, c4⟩ := hn
      simp only [Ac.cells] at c0 c1 c2 c3 c4 hx B2 HR1 Hcall Hst
      have j0 : (0 : Int) ≤ k := by omega
      have j1 : (k : Int) < l.length := by omega
      cases hq : decide (0 ≤ idxP (hasPar x0) l)
      · rw [hq] at Hcall Hst
        go_wp2_with fail
        refine Hcall.out.mono ?_
        rintro e w2 ⟨rfl, hb2⟩
        have hx2 := hx.below hb2 (by simp)
        have HR2 : Hid (TxtRow w2 w.heap.size _ fs) := TxtRow.below HR1.out hb2
        have B3 := B2.trans (hb2.mono B2.size)
        have hs3 := B3.size
        clear hx hb2 Hcall HR1 B2 c0 c1 c2 c3 c4
        obtain ⟨d0, d1, d2, d3, d4⟩ := hx2
        simp only [Nat.zero_add] at d0 d1 d2 d3 d4
        go_wp2_with (at_builtin; refine wpList_append_own _ rfl _ _ 74 rfl w.heap.size 9 i0 (.string ByteArray.empty) 1 16 Tryd.underlying74 hi hz0 hz1 hz2 rfl (by decide) _ _ _ rfl (World.ownsRow.alloc HR2.out _) ⟨w2.heap.size, 0, none⟩ 1 1 [.string x0] rfl rfl (cell_one_new _ _ _) ?c2 ?c3 ?c4 ?c5 ?_)
        case c2 => intro u hu; simp at hu; subst hu; rfl
        case c3 => unfold maxLen; omega
        case c4 => omega
        case c5 => simp; omega
        intro v' w3 hown' hgrow _
        have B4 : Below w.heap.size w w3 := (B3.alloc hs3 (.cells #[.string x0] 9)).grown hgrow (by simp; omega) (fun j ej => by
          rcases HR2.out.form with ⟨hv, _⟩ | ⟨g1, c1, hv, hg1, _⟩
          · rw [hv] at ej; cases ej
          · rw [hv] at ej; cases ej; exact hg1)
        have R3 : TxtRow w3 w.heap.size v' (((l.take (k + 1)).filter (leafB l)).map Ac.code) := by
          rw [Hst.out]
          unfold TxtRow
          simpa using hown'
        have HR3 : Hid (TxtRow _ _ _ _) := R3
        clear hown' hgrow R3 HR2
        go_wp2
        go_roundw
        case rel => exact ⟨k + 1, by omega, by go_num, HR3.out, B4⟩
        case measure => simp [intOf]; omega
      · rw [hq] at Hcall Hst
        go_wp2_with (go_at_call 46; refine Hcall.out.mono ?_; rintro e w2 ⟨rfl, hb2⟩)
        go_roundw
        case rel => exact ⟨k + 1, by omega, by go_num, by unfold Hid; rw [Hst.out]; simpa using TxtRow.below HR1.out hb2, B2.trans (hb2.mono B2.size)⟩
        case measure => simp [intOf]; omega
    · have hk2 : k = l.length := by omega
      subst hk2
      go_wp2
      go_ret2
      refine ⟨_, rfl, ?_, BW⟩
      have := R.out
      rw [List.take_length] at this
      exact this

theorem leaves_ok (a : Option Addr) (cap : Nat) (l : List Ac) (w : World) (h : IsSl w a l cap) (h0 : chBad l = 0) :
    Calls Tryd.prog 27 #[.slice a l.length cap] w fun e w' => ∃ v, e = .returned (.tuple #[v, .nilIface]) ∧ TxtRow w' w.heap.size v (lvs l) ∧ Below w.heap.size w w' := by
  rcases h.lies with rfl | ⟨b, off, rfl, hlt, hc⟩
  · refine (leaves_none a cap w).mono ?_
    rintro e w' ⟨rfl, hb⟩
    exact ⟨_, rfl, World.ownsRow_nil _ _ _ _, hb⟩
  · exact leaves_some b off cap l w hlt h.cap hc h0
end Go.Proofs.YtffekgndlhleiaaDoor
