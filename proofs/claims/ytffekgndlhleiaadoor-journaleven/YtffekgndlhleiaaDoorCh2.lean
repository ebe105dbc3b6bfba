/-
  Accounts in memory; the contracts of slices.IndexFunc over them, of chart.index and chart.checkParent.
-/
import Derived.Test.YtffekgndlhleiaaDoorCh1
import Derived.Deep.QuietTactic
import Derived.BigQuiet
namespace Go.Proofs.YtffekgndlhleiaaDoor
set_option linter.unusedVariables false
set_option linter.unusedSimpArgs false
set_option maxRecDepth 100000
open Go.RowKit Go.Lib

theorem ch_ne {a b : ByteArray} (h : a ≠ b) : (a.toList == b.toList) = false := by
  rw [beq_eq_false_iff_ne]
  intro e
  rw [Lib.toList_data, Lib.toList_data] at e
  exact h (WideShapes.bytes_inj e)

theorem ch_empty {a : ByteArray} (h : a.size = 0) : a.toList = [] := by
  rw [Lib.toList_data]
  exact List.eq_nil_of_length_eq_zero h
theorem ch_some {a : ByteArray} (h : a.size ≠ 0) : ¬ a.toList = [] := by
  rw [Lib.toList_data]
  exact fun e => h (congrArg List.length e)

theorem ch_drewN {B : Nat} {a w : World} (h : Below B a w) (n : Nat) : Below B a (w.drewN n) := h.trans ⟨rfl, rfl, rfl, Nat.le_refl _, fun _ _ => rfl⟩

/-- An account. -/
structure Ac where
  code : ByteArray
  name : ByteArray
  kind : Int
  par : ByteArray
  mon : Bool

def Ac.cells (a : Ac) : Array Value := #[.string a.code, .string a.name, .int .i64 a.kind, .string a.par, .bool a.mon]
/-- An account of nothing. -/
def ac0 : Ac := ⟨ByteArray.empty, ByteArray.empty, 0, ByteArray.empty, false⟩

/-- An error by its number. -/
def chE (n : Int) : Value := if n = 0 then .nilIface else .iface 51 (.int .i64 n)
theorem chE_zero : chE 0 = .nilIface := rfl
theorem chE_ne {n : Int} (h : n ≠ 0) : chE n = .iface 51 (.int .i64 n) := if_neg h

structure AcAt (w : World) (b off : Nat) (a : Ac) : Prop where
  c0 : w.cell? ⟨b, off, none⟩ = some (.string a.code)
  c1 : w.cell? ⟨b, off + 1, none⟩ = some (.string a.name)
  c2 : w.cell? ⟨b, off + 2, none⟩ = some (.int .i64 a.kind)
  c3 : w.cell? ⟨b, off + 3, none⟩ = some (.string a.par)
  c4 : w.cell? ⟨b, off + 4, none⟩ = some (.bool a.mon)

theorem AcAt.below {w w' : World} {b off n : Nat} {a : Ac} (h : AcAt w b off a) (hb : Below n w w') (hn : b < n) : AcAt w' b off a :=
  ⟨(hb.cell (p := ⟨b, off, none⟩) hn).trans h.c0, (hb.cell (p := ⟨b, off + 1, none⟩) hn).trans h.c1, (hb.cell (p := ⟨b, off + 2, none⟩) hn).trans h.c2, (hb.cell (p := ⟨b, off + 3, none⟩) hn).trans h.c3, (hb.cell (p := ⟨b, off + 4, none⟩) hn).trans h.c4⟩

theorem AcAt.new (w : World) (a : Ac) (t : TypeId) : AcAt (w.alloc (.cells a.cells t)) w.heap.size 0 a :=
  ⟨by simp [Ac.cells], by simp [Ac.cells], by simp [Ac.cells], by simp [Ac.cells], by simp [Ac.cells]⟩

/-- Accounts in memory. -/
def AcsAt (w : World) (b off : Nat) (l : List Ac) : Prop := ∀ k, k < l.length → AcAt w b (off + k * 5) (l.getD k ac0)

/-- A slice of accounts. -/
structure IsSl (w : World) (a : Option Addr) (l : List Ac) (cap : Nat) : Prop where
  cap : l.length ≤ cap
  lies : l = [] ∨ ∃ b off, a = some ⟨b, off, none⟩ ∧ b < w.heap.size ∧ AcsAt w b off l

theorem IsSl.below {w w' : World} {a : Option Addr} {l : List Ac} {cap : Nat} (h : IsSl w a l cap) (hb : Below w.heap.size w w') : IsSl w' a l cap := by
  refine ⟨h.cap, ?_⟩
  rcases h.lies with h | ⟨b, off, e, hlt, hc⟩
  · exact .inl h
  · exact .inr ⟨b, off, e, by have := hb.size; omega, fun k hk => (hc k hk).below hb hlt⟩

theorem IsSl.take {w : World} {a : Option Addr} {l : List Ac} {cap : Nat} (h : IsSl w a l cap) (k : Nat) : IsSl w a (l.take k) cap := by
  refine ⟨by have := h.cap; simp; omega, ?_⟩
  rcases h.lies with h | ⟨b, off, e, hlt, hc⟩
  · exact .inl (by rw [h]; simp)
  · refine .inr ⟨b, off, e, hlt, fun j hj => ?_⟩
    simp only [List.length_take] at hj
    have : (l.take k).getD j ac0 = l.getD j ac0 := by
      rw [List.getD_eq_getElem?_getD, List.getD_eq_getElem?_getD, List.getElem?_take, if_pos (by omega)]
    rw [this]
    exact hc j (by omega)

theorem acs_drop (l : List Ac) (k : Nat) (h : k < l.length) : l.drop k = l.getD k ac0 :: l.drop (k + 1) := by
  rw [List.drop_eq_getElem_cons h, List.getD_eq_getElem?_getD, List.getElem?_eq_getElem h]
  rfl

/-- The place of the first account for which something holds, counted from a number on; else -1. -/
def idxFrom (p : Ac → Bool) : Nat → List Ac → Int
  | _, [] => -1
  | k, a :: l => if p a = true then (k : Int) else idxFrom p (k + 1) l
def idxP (p : Ac → Bool) (l : List Ac) : Int := idxFrom p 0 l

/-- What is asked of a function that is told an account and says yes or no. -/
structure Tells (g B : Nat) (p : Ac → Bool) (w : World) : Prop where
  eg : ∀ args W, (callFunc g args).run Tryd.prog W = .ok (.enter g args) W
  call : ∀ x W, Below w.heap.size w W → Calls Tryd.prog g #[.agg x.cells, .pointer (some ⟨B, 0, none⟩)] W fun e w' => e = .returned (.bool (p x)) ∧ Below W.heap.size W w'

set_option maxHeartbeats 1000000 in
theorem chIdx_some (g B : Nat) (p : Ac → Bool) (b off cap : Nat) (l : List Ac) (w : World) (hp : Tells g B p w) (hb : b < w.heap.size) (hlen : l.length ≤ 1000) (hc : AcsAt w b off l) :
    Calls Tryd.prog 48 #[.slice (some ⟨b, off, none⟩) l.length cap, .func (.func g) #[] #[.pointer (some ⟨B, 0, none⟩)]] w fun e w' => e = .returned (.int .i64 (idxP p l)) ∧ Below w.heap.size w w' := by
  have eg := hp.eg
  have Hp : Hid (Tells g B p w) := hp
  have Hc : Hid (AcsAt w b off l) := hc
  have Hlen : (l.length : Int) ≤ 1000 := by omega
  clear hp hc
  obtain ⟨res, hres⟩ : ∃ res, idxP p l = res := ⟨_, rfl⟩
  have Hres : Hid (idxP p l = res) := hres
  rw [hres]
  clear hres
  go_enter Tryd.func48, Tryd.ntmps48
  go_wp2
  go_loopw [8] (fun i wr => ∃ k : Nat, k ≤ l.length ∧ i = .int .i64 k ∧ Hid (idxFrom p k (l.drop k) = res) ∧ Below w.heap.size w wr) (fun i _ => l.length - (intOf i).toNat)
  case atStart => exact ⟨0, Nat.zero_le _, rfl, Hres.out, Below.refl _ _⟩
  case round =>
    obtain ⟨k, hk, rfl, H, BW⟩ := hrel
    by_cases hlt : k < l.length
    · have hn := (Hc.out k hlt).below BW hb
      have hcall := Hp.out.call (l.getD k ac0) wr BW
      have E : Hid ((if p (l.getD k ac0) = true then (k : Int) else idxFrom p (k + 1) (l.drop (k + 1))) = res) := by
        have := H.out
        rw [acs_drop l k hlt] at this
        exact this
      clear H
      generalize l.getD k ac0 = a at *
      obtain ⟨a0, a1, a2, a3, a4⟩ := a
      obtain ⟨c0, c1, c2, c3, c4⟩ := hn
      simp only [Ac.cells] at c0 c1 c2 c3 c4 hcall
      have i0 : (0 : Int) ≤ k := by omega
      have i1 : (k : Int) < l.length := by omega
      cases hq : p ⟨a0, a1, a2, a3, a4⟩
      · rw [hq] at hcall
        have HN : Hid (idxFrom p (k + 1) (l.drop (k + 1)) = res) := by
          have := E.out; rw [if_neg (by rw [hq]; simp)] at this; exact this
        go_wp2_with (go_at_fn g; refine hcall.mono ?_; rintro e w' ⟨rfl, hb'⟩)
        go_roundw
        case rel => exact ⟨k + 1, by omega, by go_num, HN, BW.trans (hb'.mono BW.size)⟩
        case measure => simp [intOf]; omega
      · rw [hq] at hcall
        have er : res = k := by rw [← E.out, if_pos hq]
        subst er
        go_wp2_with (go_at_fn g; refine hcall.mono ?_; rintro e w' ⟨rfl, hb'⟩)
        go_ret
        exact ⟨rfl, BW.trans (hb'.mono BW.size)⟩
    · have hk2 : k = l.length := by omega
      subst hk2
      have er : res = -1 := by rw [← H.out, List.drop_length]; rfl
      subst er
      go_wp2
      go_ret
      exact ⟨rfl, BW⟩

theorem chIdx_none (a : Option Addr) (cap : Nat) (f : Value) (w : World) :
    Calls Tryd.prog 48 #[.slice a 0 cap, f] w fun e w' => e = .returned (.int .i64 (-1)) ∧ Below w.heap.size w w' := by
  go_enter Tryd.func48, Tryd.ntmps48
  go_wp2
  refine wp_loop_rounds 1 ?_
  rw [rounds_succ]
  go_wp2
  go_ret
  exact ⟨rfl, Below.refl _ _⟩

theorem chIdx_any (g B : Nat) (p : Ac → Bool) (a : Option Addr) (cap : Nat) (l : List Ac) (w : World) (hp : Tells g B p w) (hlen : l.length ≤ 1000) (h : IsSl w a l cap) :
    Calls Tryd.prog 48 #[.slice a l.length cap, .func (.func g) #[] #[.pointer (some ⟨B, 0, none⟩)]] w fun e w' => e = .returned (.int .i64 (idxP p l)) ∧ Below w.heap.size w w' := by
  rcases h.lies with rfl | ⟨b, off, rfl, hlt, hc⟩
  · exact chIdx_none a cap _ w
  · exact chIdx_some g B p b off cap l w hp hlt hlen hc

/-- An account with a code. -/
def hasCode (c : ByteArray) (a : Ac) : Bool := decide (a.code = c)

theorem index1_any (x : Ac) (c : ByteArray) (B : Nat) (w : World) (hB : w.cell? ⟨B, 0, none⟩ = some (.string c)) (hlt : B < w.heap.size) :
    Calls Tryd.prog 49 #[.agg x.cells, .pointer (some ⟨B, 0, none⟩)] w fun e w' => e = .returned (.bool (hasCode c x)) ∧ Below w.heap.size w w' := by
  obtain ⟨a0, a1, a2, a3, a4⟩ := x
  have b0 : Below w.heap.size w (w.alloc (.cells #[.string a0, .string a1, .int .i64 a2, .string a3, .bool a4] 39)) := (Below.refl _ w).alloc (Nat.le_refl _) _
  have hB2 : (w.alloc (.cells #[.string a0, .string a1, .int .i64 a2, .string a3, .bool a4] 39)).cell? ⟨B, 0, none⟩ = some (.string c) := (b0.cell (p := ⟨B, 0, none⟩) hlt).trans hB
  simp only [Ac.cells]
  by_cases h : a0 = c
  · subst h
    have e1 : hasCode a0 ⟨a0, a1, a2, a3, a4⟩ = true := by simp [hasCode]
    rw [e1]
    go_enter Tryd.func49, Tryd.ntmps49
    go_wp2
    go_ret
    exact ⟨rfl, b0⟩
  · have e1 : hasCode c ⟨a0, a1, a2, a3, a4⟩ = false := by simp [hasCode, h]
    have h' := ch_ne h
    rw [e1]
    go_enter Tryd.func49, Tryd.ntmps49
    go_wp2
    go_ret
    exact ⟨by rw [← h']; rfl, b0⟩

theorem index1_tells (c : ByteArray) (B : Nat) (w : World) (hB : w.cell? ⟨B, 0, none⟩ = some (.string c)) (hlt : B < w.heap.size) : Tells 49 B (hasCode c) w :=
  ⟨fun args W => enters Tryd.func49 (by kernel_rfl) ⟨_, rfl⟩ args W, fun x W hW => index1_any x c B W ((hW.cell (p := ⟨B, 0, none⟩) hlt).trans hB) (by have := hW.size; omega)⟩

theorem chIndex_any (a : Option Addr) (cap : Nat) (l : List Ac) (c : ByteArray) (w : World) (hlen : l.length ≤ 1000) (h : IsSl w a l cap) :
    Calls Tryd.prog 30 #[.slice a l.length cap, .string c] w fun e w' => e = .returned (.int .i64 (idxP (hasCode c) l)) ∧ Below w.heap.size w w' := by
  have b0 : Below w.heap.size w (w.alloc (.cells #[.string c] 9)) := (Below.refl _ w).alloc (Nat.le_refl _) _
  have hc := chIdx_any 49 w.heap.size (hasCode c) a cap l (w.alloc (.cells #[.string c] 9)) (index1_tells c w.heap.size _ (by simp) (by simp)) hlen (h.below b0)
  clear h
  go_enter Tryd.func30, Tryd.ntmps30
  go_wp2_with fail
  refine hc.mono ?_
  rintro e w' ⟨rfl, hb⟩
  go_wp2
  go_ret
  exact ⟨rfl, b0.trans (hb.mono (by simp))⟩

theorem idxFrom_some (p : Ac → Bool) : ∀ (l : List Ac) (k : Nat), 0 ≤ idxFrom p k l → ∃ j, j < l.length ∧ idxFrom p k l = ((k + j : Nat) : Int) ∧ p (l.getD j ac0) = true ∧ ∀ i, i < j → p (l.getD i ac0) = false
  | [], k, h => by simp [idxFrom] at h
  | a :: l, k, h => by
    by_cases hp : p a = true
    · refine ⟨0, by simp, ?_, ?_, fun i hi => absurd hi (Nat.not_lt_zero _)⟩
      · rw [idxFrom, if_pos hp]; rfl
      · simpa using hp
    · rw [idxFrom, if_neg hp] at h ⊢
      obtain ⟨j, h1, h2, h3, h4⟩ := idxFrom_some p l (k + 1) h
      refine ⟨j + 1, by simpa using h1, by rw [h2]; congr 1; omega, by simpa using h3, fun i hi => ?_⟩
      cases i with
      | zero => simpa using hp
      | succ i => simpa using h4 i (by omega)

theorem idxFrom_none (p : Ac → Bool) : ∀ (l : List Ac) (k : Nat), idxFrom p k l < 0 → ∀ i, i < l.length → p (l.getD i ac0) = false
  | [], k, h, i, hi => by simp at hi
  | a :: l, k, h, i, hi => by
    by_cases hp : p a = true
    · rw [idxFrom, if_pos hp] at h; omega
    · rw [idxFrom, if_neg hp] at h
      cases i with
      | zero => simpa using hp
      | succ i => simpa using idxFrom_none p l (k + 1) h i (by simpa using hi)

theorem idxP_some {p : Ac → Bool} {l : List Ac} (h : 0 ≤ idxP p l) : ∃ j, j < l.length ∧ idxP p l = (j : Int) ∧ p (l.getD j ac0) = true ∧ ∀ i, i < j → p (l.getD i ac0) = false := by
  obtain ⟨j, h1, h2, h3, h4⟩ := idxFrom_some p l 0 h
  exact ⟨j, h1, by rw [idxP, h2]; congr 1; omega, h3, h4⟩
theorem idxP_none {p : Ac → Bool} {l : List Ac} (h : idxP p l < 0) : ∀ i, i < l.length → p (l.getD i ac0) = false := idxFrom_none p l 0 h

/-- What is wrong with an account's parent. -/
def parBad (pre : List Ac) (x : Ac) : Int :=
  if x.par.size = 0 then 0
  else if idxP (hasCode x.par) pre < 0 then 6
  else if (pre.getD (idxP (hasCode x.par) pre).toNat ac0).kind ≠ x.kind then 12 else 0

set_option maxHeartbeats 1000000 in
theorem checkParent_any (a : Option Addr) (cap : Nat) (pre : List Ac) (x : Ac) (w : World) (hlen : pre.length ≤ 1000) (h : IsSl w a pre cap) :
    Calls Tryd.prog 68 #[.slice a pre.length cap, .agg x.cells] w fun e w' => e = .returned (chE (parBad pre x)) ∧ Below w.heap.size w w' := by
  have hn := AcAt.new w x 39
  have b0 : Below w.heap.size w (w.alloc (.cells x.cells 39)) := (Below.refl _ w).alloc (Nat.le_refl _) _
  have hI := chIndex_any a cap pre x.par (w.alloc (.cells x.cells 39)) hlen (h.below b0)
  obtain ⟨res, hres⟩ : ∃ res, parBad pre x = res := ⟨_, rfl⟩
  have Hres : Hid (parBad pre x = res) := hres
  rw [hres]
  clear hres
  obtain ⟨x0, x1, x2, x3, x4⟩ := x
  simp only [Ac.cells] at hn hI b0 ⊢
  have hn0 := hn
  obtain ⟨c0, c1, c2, c3, c4⟩ := hn
  simp only [Nat.zero_add] at c0 c1 c2 c3 c4
  by_cases h0 : x3.size = 0
  · have e0 := ch_empty h0
    have er : res = 0 := by rw [← Hres.out]; simp [parBad, h0]
    subst er
    go_enter Tryd.func68, Tryd.ntmps68
    go_wp2
    go_ret
    exact ⟨rfl, b0⟩
  have e0 := ch_some h0
  have e0' : x3.toList.isEmpty = false := by simpa using e0
  have HI : Hid (Calls _ _ _ _ _) := hI
  clear hI
  go_enter Tryd.func68, Tryd.ntmps68
  go_wp2_with fail
  refine HI.out.mono ?_
  rintro e w1 ⟨rfl, hb1⟩
  have hsz : w.heap.size + 1 ≤ w1.heap.size := by have := hb1.size; simpa using this
  have B1 := b0.trans (hb1.mono (by simp))
  have hn1 := hn0.below hb1 (by simp)
  clear c0 c1 c2 c3 c4 hn0 HI hb1
  by_cases h1 : idxP (hasCode x3) pre < 0
  · have er : res = 6 := by rw [← Hres.out]; simp [parBad, h0, h1]
    subst er
    go_wp2
    go_ret
    exact ⟨rfl, B1⟩
  obtain ⟨j, hj, ej, hj2, hj3⟩ := idxP_some (p := hasCode x3) (l := pre) (by omega)
  have er : res = if (pre.getD j ac0).kind ≠ x2 then 12 else 0 := by
    rw [← Hres.out]; unfold parBad
    simp only
    rw [if_neg h0, if_neg h1, ej]; rfl
  have ER : Hid (res = if (pre.getD j ac0).kind ≠ x2 then 12 else 0) := er
  rw [ej]
  clear h1 ej hj2 hj3 er Hres
  rcases h.lies with rfl | ⟨b, off, rfl, hlt, hc⟩
  · simp at hj
  have hp := (hc j hj).below B1 hlt
  clear hc h
  generalize pre.getD j ac0 = y at *
  obtain ⟨y0, y1, y2, y3, y4⟩ := y
  obtain ⟨c0, c1, c2, c3, c4⟩ := hn1
  obtain ⟨d0, d1, d2, d3, d4⟩ := hp
  simp only [Nat.zero_add] at c0 c1 c2 c3 c4 d0 d1 d2 d3 d4
  have i0 : (0 : Int) ≤ j := by omega
  have i1 : (j : Int) < pre.length := by omega
  by_cases h2 : y2 = x2
  · subst h2
    have er : res = 0 := by rw [ER.out]; simp
    subst er
    go_wp2
    go_quiet (fail)
    go_wp2
    go_ret
    exact ⟨rfl, ch_drewN B1 _⟩
  · have er : res = 12 := by rw [ER.out]; simp [h2]
    subst er
    have h2' : (y2 != x2) = true := by simp [h2]
    go_wp2
    go_quiet (fail)
    go_wp2
    go_ret
    exact ⟨rfl, ch_drewN B1 _⟩
end Go.Proofs.YtffekgndlhleiaaDoor
