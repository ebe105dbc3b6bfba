/-
  The contracts of entry.checkHead, entry.checkLine, entry.Check.
-/
import Derived.Test.YtbbegoklikaphaaZs6
import Derived.Test.YtbbegoklikaphaaZs4
import Derived.Lib.Slices
import Derived.Laws.NewBlocks
import Derived.RangeFuncRecord
import Derived.Test.YtbbegoklikaphaaZs0
namespace Go.Proofs.Ytbbegoklikaphaa
set_option linter.unusedVariables false
set_option linter.unusedSimpArgs false
set_option maxRecDepth 100000
open Go.RowKit Go.Lib

/-- An entry in a box. -/
def Box4 (W : World) (b : Nat) (r : ByteArray) (en pe : Int) (v : Value) : Prop := W.heap[b]? = some (.cells #[.string r, .int .i64 en, .int .i64 pe, v] 39 (0, 0))
theorem Box4.c0 {W : World} {b : Nat} {r : ByteArray} {en pe : Int} {v : Value} (h : Box4 W b r en pe v) : W.cell? ⟨b, 0, none⟩ = some (.string r) := by unfold Box4 at h; simp [World.cell?, h]
theorem Box4.c1 {W : World} {b : Nat} {r : ByteArray} {en pe : Int} {v : Value} (h : Box4 W b r en pe v) : W.cell? ⟨b, 1, none⟩ = some (.int .i64 en) := by unfold Box4 at h; simp [World.cell?, h]
theorem Box4.c2 {W : World} {b : Nat} {r : ByteArray} {en pe : Int} {v : Value} (h : Box4 W b r en pe v) : W.cell? ⟨b, 2, none⟩ = some (.int .i64 pe) := by unfold Box4 at h; simp [World.cell?, h]
theorem Box4.c3 {W : World} {b : Nat} {r : ByteArray} {en pe : Int} {v : Value} (h : Box4 W b r en pe v) : W.cell? ⟨b, 3, none⟩ = some v := by unfold Box4 at h; simp [World.cell?, h]
theorem Box4.fz {W : World} {b : Nat} {r : ByteArray} {en pe : Int} {v : Value} (h : Box4 W b r en pe v) (o : Nat) : W.frozen? ⟨b, o, none⟩ = false := by unfold Box4 at h; simp [World.frozen?, h]
theorem Box4.below {W W' : World} {b n : Nat} {r : ByteArray} {en pe : Int} {v : Value} (h : Box4 W b r en pe v) (hb : Below n W W') (hn : b < n) : Box4 W' b r en pe v := (hb.block b hn).trans h
theorem Box4.new (W : World) (r : ByteArray) (en pe : Int) (v : Value) : Box4 (W.alloc (.cells #[.string r, .int .i64 en, .int .i64 pe, v] 39)) W.heap.size r en pe v := World.alloc_heap_new W _
theorem Box4.alloc {W : World} {b : Nat} {r : ByteArray} {en pe : Int} {v : Value} (h : Box4 W b r en pe v) (o : Obj) : Box4 (W.alloc o) b r en pe v := ((World.grownBy_alloc W o none).block b (Array.getElem?_eq_some_iff.1 h).1 (by simp)).trans h
theorem Box4.set0 {W : World} {b : Nat} {r : ByteArray} {en pe : Int} {v : Value} (h : Box4 W b r en pe v) (r' : ByteArray) : Box4 (W.setCell ⟨b, 0, none⟩ (.string r')) b r' en pe v := by
  unfold Box4 at *
  rw [setCell_eq_setRow W b 0 _ 39 (0, 0) _ h, setRow_heap W b _ _ 39 (0, 0) h]
  rfl
theorem Box4.other {W : World} {b b' o : Nat} {r : ByteArray} {en pe : Int} {v u : Value} (h : Box4 W b r en pe v) (hne : b ≠ b') : Box4 (W.setCell ⟨b', o, none⟩ u) b r en pe v :=
  (Below.heap_setCell _ _ _ b (fun e => hne e)).trans h
theorem LnRow.setOther {W : World} {n b o : Nat} {v u : Value} {l : List Ln} (h : LnRow W n v l) (hb : b < n) : LnRow (W.setCell ⟨b, o, none⟩ u) n v l := by
  rcases h.2 with ⟨hv, hn⟩ | ⟨g1, c1, cur, hv, hb1, hh, r⟩
  · exact ⟨h.1, .inl ⟨hv, hn⟩⟩
  · exact ⟨h.1, .inr ⟨g1, c1, cur, hv, hb1, (Below.heap_setCell _ _ _ g1 (fun e => by simp only at e; omega)).trans hh, r⟩⟩


/-- A line of nothing. -/
def nullL (x : Ln) : Bool := decide (x.amt = 0)

/-- What is wrong with turning an entry round. -/
def revBad (ref : ByteArray) (l : List Ln) : Int := if isRefB ref = false then 2 else fewBad l
end Go.Proofs.Ytbbegoklikaphaa

namespace Go.Proofs.Ytbbegoklikaphaa
set_option linter.unusedVariables false
set_option linter.unusedSimpArgs false
set_option maxRecDepth 100000
open Go.RowKit Go.Lib

/-- The cells of accounts, one behind the other. -/
def lfRow (l : List Ac) : List Value := l.flatMap fun x => x.cells.toList
theorem lf_five (x : Ac) : x.cells.toList.length = 5 := rfl
theorem lfRow_length : ∀ l : List Ac, (lfRow l).length = l.length * 5
  | [] => rfl
  | x :: l => by
    have := lfRow_length l
    unfold lfRow at *
    simp only [List.flatMap_cons, List.length_append, lf_five, this, List.length_cons]
    omega
theorem lfRow_get : ∀ (l : List Ac) (k j : Nat), k < l.length → j < 5 → (lfRow l)[k * 5 + j]? = (l.getD k ac0).cells.toList[j]?
  | [], _, _, h, _ => absurd h (by simp)
  | x :: l, 0, j, _, hj => by
    simp only [lfRow, List.flatMap_cons, Nat.zero_mul, Nat.zero_add, List.getD_cons_zero]
    rw [List.getElem?_append_left (by rw [lf_five]; exact hj)]
  | x :: l, k + 1, j, h, hj => by
    have ih := lfRow_get l k j (by simpa using h) hj
    simp only [lfRow, List.flatMap_cons, List.getD_cons_succ] at ih ⊢
    rw [List.getElem?_append_right (by rw [lf_five]; omega), lf_five, ← ih]
    congr 1
    omega
theorem lfRow_isSl {W : World} {n0 : Nat} {e : TypeId} {v : Value} {l : List Ac} (h : W.ownsRow n0 e 5 v l.length (lfRow l)) :
    ∃ a cap, v = .slice a l.length cap ∧ IsSl W a l cap := by
  obtain ⟨hlen, ⟨rfl, h0⟩ | ⟨g, cap, cur, rfl, hb, hg, hc, hm, hs, ht⟩⟩ := h
  · have : l = [] := List.eq_nil_of_length_eq_zero h0
    subst this
    exact ⟨none, 0, rfl, Nat.le_refl _, .inl rfl⟩
  · refine ⟨_, cap, rfl, hc, .inr ⟨g, 0, rfl, (Array.getElem?_eq_some_iff.1 hg).1, ?_⟩⟩
    intro k hk
    have C : ∀ j, j < 5 → W.cell? ⟨g, 0 + k * 5 + j, none⟩ = (l.getD k ac0).cells.toList[j]? := fun j hj => by
      have e1 : (lfRow l)[k * 5 + j]? = cur[k * 5 + j]? := by
        rw [← ht, List.getElem?_take, if_pos (by omega)]
        simp
      rw [← lfRow_get l k j hk hj, e1]
      simp [World.cell?, hg]
    exact ⟨C 0 (by omega), C 1 (by omega), C 2 (by omega), C 3 (by omega), C 4 (by omega)⟩
theorem lf_src {W : World} {b off : Nat} {l : List Ac} (h : AcsAt W b off l) : ∀ j u, (lfRow l)[j]? = some u → W.cell? ((⟨b, off, none⟩ : Addr).add j) = some u := by
  intro j u hj
  rw [Addr.add_lit]
  obtain ⟨q, r, hr, rfl⟩ : ∃ q r, r < 5 ∧ j = q * 5 + r := ⟨j / 5, j % 5, Nat.mod_lt _ (by omega), by omega⟩
  have hlt := (List.getElem?_eq_some_iff.1 hj).1
  rw [lfRow_length] at hlt
  have hq : q < l.length := by omega
  rw [lfRow_get l q r hq hr] at hj
  have := h q hq
  rcases (by omega : r = 0 ∨ r = 1 ∨ r = 2 ∨ r = 3 ∨ r = 4) with rfl | rfl | rfl | rfl | rfl
  · rw [← hj, Nat.add_zero, this.c0]; rfl
  · rw [← hj, ← Nat.add_assoc, this.c1]; rfl
  · rw [← hj, ← Nat.add_assoc, this.c2]; rfl
  · rw [← hj, ← Nat.add_assoc, this.c3]; rfl
  · rw [← hj, ← Nat.add_assoc, this.c4]; rfl
theorem lfRow_one (l : List Ac) : ∀ u ∈ lfRow l, u.oneCell' = true := by
  intro u hu
  obtain ⟨x, _, hx⟩ := List.mem_flatMap.1 hu
  simp only [Ac.cells, List.mem_cons, List.not_mem_nil, or_false] at hx
  rcases hx with rfl | rfl | rfl | rfl | rfl <;> rfl

theorem lf_info : (Try.prog.info? 42).map (fun i => (i.zero, i.size, i.bytes)) = some (some (.agg #[.string ByteArray.empty, .string ByteArray.empty, .int .i64 0, .string ByteArray.empty, .bool false]), 5, 64) := by kernel_rfl
theorem lf_none (w : World) : World.ownsRow (w.alloc (.cells #[] 42)) w.heap.size 42 5 (.slice (some ⟨w.heap.size, 0, none⟩) 0 0) 0 [] :=
  ⟨rfl, .inr ⟨w.heap.size, 0, #[], rfl, Nat.le_refl _, World.alloc_heap_new w _, Nat.le_refl _, by unfold maxLen; omega, rfl, rfl⟩⟩
theorem cloneA_some (x : Addr) (l : List Ac) (cap : Nat) (w : World) (hc : ∀ j u, (lfRow l)[j]? = some u → w.cell? (x.add j) = some u) (hx : l ≠ [] → x.block < w.heap.size) (hl : l.length ≤ 1000) :
    Calls Try.prog 27 #[.slice (some x) l.length cap] w fun e w' => ∃ a' cap', e = .returned (.slice a' l.length cap') ∧ IsSl w' a' l cap' ∧ Below w.heap.size w w' := by
  have q35 : ∀ (w : World) (a : Option Addr) (n c n' c' : Nat), (binOp .eql 22 (.slice a n c) (.slice none n' c')).run Try.prog w = .ok (.bool a.isNone) w := fun w a n c n' c' => Lib.run_eql_slice_nil w _ _ a n c n' c' Try.underlying22
  have B1 : Below w.heap.size w (w.alloc (.cells #[] 42)) := (Below.refl _ w).alloc (Nat.le_refl _) _
  have HS : Hid (∀ j u, (lfRow l)[j]? = some u → (w.alloc (.cells #[] 42)).cell? (x.add j) = some u) := fun j u h => by
    have hne : l ≠ [] := fun e => by rw [e] at h; simp [lfRow] at h
    rw [B1.cell (p := x.add j) (by have := hx hne; unfold Addr.add; split <;> exact this)]
    exact hc j u h
  have Hm1 : Hid (0 + l.length ≤ maxLen) := by unfold Hid maxLen; omega
  have Hm2 : Hid ((0 + l.length) * 64 ≤ 140737488355328) := by unfold Hid; omega
  have Hm3 : Hid (w.heap.size ≤ (w.alloc (.cells #[] 42)).heap.size) := by unfold Hid; simp
  have HRw : Hid (World.ownsRow (w.alloc (.cells #[] 42)) w.heap.size 42 5 (.slice (some ⟨w.heap.size, 0, none⟩) 0 0) 0 []) := lf_none w
  obtain ⟨i0, hi, hz0, hz1, hz2⟩ := info_parts lf_info
  have l0 : (0 : Int) ≤ l.length := by omega
  clear hc hx
  go_enter Try.func27, Try.ntmps27
  go_wp2_with (at_builtin; refine wpList_append_own _ rfl _ _ 22 rfl w.heap.size 42 i0 (.agg #[.string ByteArray.empty, .string ByteArray.empty, .int .i64 0, .string ByteArray.empty, .bool false]) 5 64 Try.underlying22 hi hz0 hz1 hz2 rfl (by decide) _ _ _ rfl HRw.out x l.length cap (lfRow l) rfl (lfRow_length l) HS.out (lfRow_one l) Hm1.out Hm2.out Hm3.out ?_)
  intro v w1 hown hgrow _
  have hb : Below w.heap.size w w1 := B1.grown hgrow B1.size (fun j e => by simp [Value.ownBlock] at e; omega)
  have hown2 : World.ownsRow w1 w.heap.size 42 5 v l.length (lfRow l) := by simpa using hown
  obtain ⟨a1, k1, rfl, hs⟩ := lfRow_isSl hown2
  have HE : Hid (IsSl w1 a1 l k1 ∧ Below w.heap.size w w1) := ⟨hs, hb⟩
  clear hown hown2 hgrow hs hb B1 HS HRw
  go_wp2
  go_ret
  exact ⟨_, _, rfl, HE.out.1, HE.out.2⟩
theorem cloneA_nil (cap : Nat) (w : World) :
    Calls Try.prog 27 #[.slice none 0 cap] w fun e w' => ∃ a' cap', e = .returned (.slice a' 0 cap') ∧ IsSl w' a' [] cap' ∧ Below w.heap.size w w' := by
  have q35 : ∀ (w : World) (a : Option Addr) (n c n' c' : Nat), (binOp .eql 22 (.slice a n c) (.slice none n' c')).run Try.prog w = .ok (.bool a.isNone) w := fun w a n c n' c' => Lib.run_eql_slice_nil w _ _ a n c n' c' Try.underlying22
  go_enter Try.func27, Try.ntmps27
  go_wp2
  go_ret
  exact ⟨_, _, rfl, ⟨Nat.zero_le _, .inl rfl⟩, Below.refl _ _⟩
theorem cloneA_any (a : Option Addr) (l : List Ac) (cap : Nat) (w : World) (h : IsSl w a l cap) (hl : l.length ≤ 1000) :
    Calls Try.prog 27 #[.slice a l.length cap] w fun e w' => ∃ a' cap', e = .returned (.slice a' l.length cap') ∧ IsSl w' a' l cap' ∧ Below w.heap.size w w' := by
  rcases h.lies with rfl | ⟨b, off, rfl, hlt, hc⟩
  · cases a with
    | none => exact cloneA_nil cap w
    | some x => exact cloneA_some x [] cap w (by simp [lfRow]) (by simp) (by simp)
  · exact cloneA_some ⟨b, off, none⟩ l cap w (lf_src hc) (fun _ => hlt) hl

/-- What the closure that tells why a code is no leaf's stands on. -/
structure Lfs (w : World) (B1 B2 : Nat) (c : List Ac) : Prop where
  b1 : B1 < w.heap.size
  b2 : B2 < w.heap.size
  len : c.length ≤ 60
  lo : ∃ a cap, w.cell? ⟨B1, 0, none⟩ = some (.slice a c.length cap) ∧ IsSl w a c cap
  lf : ∃ a cap, w.cell? ⟨B2, 0, none⟩ = some (.slice a (lvs c).length cap) ∧ IsTx w a (lvs c) cap
theorem Lfs.below {w w' : World} {B1 B2 : Nat} {c : List Ac} (h : Lfs w B1 B2 c) (hb : Below w.heap.size w w') : Lfs w' B1 B2 c := by
  obtain ⟨a, cap, h1, h2⟩ := h.lo
  obtain ⟨a', cap', h3, h4⟩ := h.lf
  exact ⟨by have := h.b1; have := hb.size; omega, by have := h.b2; have := hb.size; omega, h.len, ⟨a, cap, (hb.cell (p := ⟨B1, 0, none⟩) h.b1).trans h1, h2.below hb⟩, ⟨a', cap', (hb.cell (p := ⟨B2, 0, none⟩) h.b2).trans h3, h4.below hb⟩⟩
theorem lvs_len (c : List Ac) : (lvs c).length ≤ c.length := by unfold lvs; rw [List.length_map]; exact List.length_filter_le _ _

set_option maxHeartbeats 2000000 in
theorem leaf1_any (c : List Ac) (code : ByteArray) (B1 B2 : Nat) (w : World) (h : Lfs w B1 B2 c) :
    Calls Try.prog 28 #[.string code, .pointer (some ⟨B1, 0, none⟩), .pointer (some ⟨B2, 0, none⟩)] w fun e w' => e = .returned (chE (leafBad c code)) ∧ Below w.heap.size w w' := by
  obtain ⟨a, cap, k1, k2⟩ := h.lo
  have hlen := h.len
  have HC : Hid (Calls _ _ _ _ _) := chIndex_any a cap c code w (by omega) k2
  have HT : Hid (∀ w1, Below w.heap.size w w1 → ∃ a' cap', w1.cell? ⟨B2, 0, none⟩ = some (.slice a' (lvs c).length cap') ∧ Calls Try.prog 30 #[.slice a' (lvs c).length cap', .string code] w1 fun e w' => e = .returned (.bool (memB code (lvs c))) ∧ w' = w1) := fun w1 hb1 => by
    obtain ⟨a', cap', e1, e2⟩ := (h.below hb1).lf
    exact ⟨a', cap', e1, txContains_any a' cap' (lvs c) code w1 (by have := lvs_len c; omega) e2⟩
  obtain ⟨res, hres⟩ : ∃ res, leafBad c code = res := ⟨_, rfl⟩
  have Hres : Hid (leafBad c code = res) := hres
  rw [hres]
  clear hres h k2 hlen
  by_cases c1 : idxP (hasCode code) c < 0
  · have er : res = 6 := by rw [← Hres.out]; unfold leafBad; rw [if_pos c1]
    subst er
    rw [chE_ne (by decide)]
    clear Hres HT
    generalize idxP (hasCode code) c = ix at *
    go_enter Try.func28, Try.ntmps28
    go_wp2_with fail
    refine HC.out.mono ?_
    rintro e w1 ⟨rfl, hb1⟩
    clear HC
    go_wp2
    go_ret
    exact ⟨rfl, hb1⟩
  · have HR2 : Hid ((if memB code (lvs c) = true then (0 : Int) else 12) = res) := by
      have := Hres.out; unfold leafBad at this; rw [if_neg c1] at this; exact this
    clear Hres
    generalize idxP (hasCode code) c = ix at *
    cases hm : memB code (lvs c)
    · rw [hm] at HT HR2
      have er : res = 12 := by rw [← HR2.out]; rfl
      subst er
      rw [chE_ne (by decide)]
      go_enter Try.func28, Try.ntmps28
      go_wp2_with fail
      refine HC.out.mono ?_
      rintro e w1 ⟨rfl, hb1⟩
      obtain ⟨a', cap', d1, d3⟩ := HT.out w1 hb1
      have HD : Hid (Calls _ _ _ _ _) := d3
      clear HC HT d3 k1
      go_wp2_with (go_at_call 30; refine HD.out.mono ?_; rintro e w' ⟨rfl, rfl⟩)
      go_ret
      exact ⟨rfl, hb1⟩
    · rw [hm] at HT HR2
      have er : res = 0 := by rw [← HR2.out]; rfl
      subst er
      rw [chE_zero]
      go_enter Try.func28, Try.ntmps28
      go_wp2_with fail
      refine HC.out.mono ?_
      rintro e w1 ⟨rfl, hb1⟩
      obtain ⟨a', cap', d1, d3⟩ := HT.out w1 hb1
      have HD : Hid (Calls _ _ _ _ _) := d3
      clear HC HT d3 k1
      go_wp2_with (go_at_call 30; refine HD.out.mono ?_; rintro e w' ⟨rfl, rfl⟩)
      go_ret
      exact ⟨rfl, hb1⟩

theorem leafCheck_bad (a : Option Addr) (cap : Nat) (c : List Ac) (w : World) (h : IsSl w a c cap) (h0 : chBad c ≠ 0) :
    Calls Try.prog 11 #[.slice a c.length cap] w fun e w' => e = .returned (.tuple #[.nilFunc, chE (chBad c)]) ∧ Below w.heap.size w w' := by
  have HC := leaves_bad a cap c w h h0
  rw [chE_ne h0] at HC ⊢
  clear h h0
  generalize chBad c = bad at *
  go_enter Try.func11, Try.ntmps11
  go_wp2_with fail
  refine HC.mono ?_
  rintro e w1 ⟨rfl, hb1⟩
  have B2' := hb1.alloc hb1.size (.cells #[.slice none 0 0] 72)
  clear HC
  go_wp2
  go_ret2
  exact ⟨rfl, B2'⟩

set_option maxHeartbeats 2000000 in
theorem leafCheck_ok (a : Option Addr) (cap : Nat) (c : List Ac) (w : World) (h : IsSl w a c cap) (h0 : chBad c = 0) :
    Calls Try.prog 11 #[.slice a c.length cap] w fun e w' => ∃ B1 B2, e = .returned (.tuple #[.func (.func 28) #[] #[.pointer (some ⟨B1, 0, none⟩), .pointer (some ⟨B2, 0, none⟩)], .nilIface]) ∧ Lfs w' B1 B2 c ∧ Below w.heap.size w w' := by
  have HC := leaves_ok a cap c w h h0
  have hlen := chBad_len h0
  have HF : Hid (∀ w1 v, Below w.heap.size w w1 → TxtRow w1 w.heap.size v (lvs c) → Calls Try.prog 27 #[.slice a c.length cap] (w1.alloc (.cells #[v] 72)) fun e w' => ∃ a' cap', e = .returned (.slice a' c.length cap') ∧ Lfs (w'.alloc (.cells #[.slice a' c.length cap'] 22)) w'.heap.size w1.heap.size c ∧ Below w.heap.size w (w'.alloc (.cells #[.slice a' c.length cap'] 22))) := fun w1 v hb1 hr => by
    have B2' := hb1.alloc hb1.size (.cells #[v] 72)
    have B3 : Below w1.heap.size w1 (w1.alloc (.cells #[v] 72)) := (Below.refl _ w1).alloc (Nat.le_refl _) _
    obtain ⟨a', cap', rfl, hx⟩ := hr.isTx
    refine (cloneA_any a c cap _ (h.below B2') (by omega)).mono ?_
    rintro e w2 ⟨a2, cap2, rfl, hs2, hb2⟩
    have hsz : w1.heap.size < w2.heap.size := by have := hb2.size; simp at this; omega
    have B4 : Below w2.heap.size w2 (w2.alloc (.cells #[.slice a2 c.length cap2] 22)) := (Below.refl _ w2).alloc (Nat.le_refl _) _
    refine ⟨_, _, rfl, ⟨by simp, by simp; omega, hlen, ⟨a2, cap2, by simp, hs2.below B4⟩, ⟨a', cap', ?_, ((hx.below B3).below hb2).below B4⟩⟩, (B2'.trans (hb2.mono B2'.size)).alloc (by have := hb1.size; omega) _⟩
    rw [B4.cell (p := ⟨w1.heap.size, 0, none⟩) (by show w1.heap.size < w2.heap.size; omega), hb2.cell (p := ⟨w1.heap.size, 0, none⟩) (by simp)]
    simp
  clear h h0
  go_enter Try.func11, Try.ntmps11
  go_wp2_with fail
  refine HC.mono ?_
  rintro e w1 ⟨v, rfl, hr, hb1⟩
  have HD : Hid (Calls _ _ _ _ _) := HF.out w1 v hb1 hr
  obtain ⟨a', cap', rfl, hx⟩ := hr.isTx
  clear hr hb1 hx HC HF
  go_wp2_with fail
  refine HD.out.mono ?_
  rintro e w2 ⟨a2, cap2, rfl, hL, hB⟩
  have HL : Hid (Lfs _ _ _ _) := hL
  clear hL HD
  go_wp2
  go_ret2
  exact ⟨_, _, rfl, HL.out, hB⟩
end Go.Proofs.Ytbbegoklikaphaa

namespace Go.Proofs.Ytbbegoklikaphaa
set_option linter.unusedVariables false
set_option linter.unusedSimpArgs false
set_option maxRecDepth 100000
open Go.RowKit Go.Lib

theorem enE_chE (n : Int) : enE n = chE n := rfl

/-- What is wrong with an entry, whatever its lines have. -/
def headBad (r : ByteArray) (en pe : Int) (n : Nat) : Int :=
  if isRefB r = false then 2 else if upTo en 12 = false ∨ upTo pe 120 = false then 1 else if n < 2 then 3 else if 20 < n then 4 else 0

/-- What is wrong with a line by itself. -/
def lnBad (c : List Ac) (x : Ln) : Int :=
  if idxP (hasCode x.acc) c < 0 then 6 else if memB x.acc (lvs c) = false then 12 else if isCur x.cur = false then 2 else if x.amt = 0 ∨ isAmtB x.amt = false then 1 else 0
theorem lnBad_leaf (c : List Ac) (x : Ln) : lnBad c x = if leafBad c x.acc ≠ 0 then leafBad c x.acc else if isCur x.cur = false then 2 else if x.amt = 0 ∨ isAmtB x.amt = false then 1 else 0 := by
  unfold lnBad leafBad
  by_cases h1 : idxP (hasCode x.acc) c < 0
  · simp only [if_pos h1]; rfl
  · simp only [if_neg h1]
    cases h2 : memB x.acc (lvs c)
    · rfl
    · rfl

end Go.Proofs.Ytbbegoklikaphaa
