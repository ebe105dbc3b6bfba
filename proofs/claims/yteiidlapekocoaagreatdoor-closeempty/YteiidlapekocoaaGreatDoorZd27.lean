/-
  CloseEmpty: an entry of two lines; Post where a later period has begun; Entries where there are none; Advance where there is nothing.
-/
import Derived.Test.YteiidlapekocoaaGreatDoorZd26
import Derived.Test.YteiidlapekocoaaGreatDoorZd18
import Derived.WalkLawsBesides
import Derived.Test.YteiidlapekocoaaGreatDoorZd3
import Derived.Laws.NewBlocks
import Derived.RangeFuncRecord
import Derived.KernelRfl
import Derived.Test.YteiidlapekocoaaGreatDoorZd5
namespace Go.Proofs.YteiidlapekocoaaGreatDoor
set_option linter.unusedVariables false
set_option linter.unusedSimpArgs false
set_option maxRecDepth 100000
open Go.RowKit Go.Lib

def kent : List Ac → Nat → List MapEntry
  | [], _ => []
  | x :: l, i => ⟨.string x.code, .int .i64 x.kind, i⟩ :: kent l (i + 1)
def kOf : List Ac → ByteArray → Int
  | [], _ => 0
  | x :: l, s => if s = x.code then x.kind else kOf l s
theorem kent_snoc : ∀ (l : List Ac) (x : Ac) (i : Nat), kent (l ++ [x]) i = kent l i ++ [⟨.string x.code, .int .i64 x.kind, i + l.length⟩]
  | [], x, i => rfl
  | y :: l, x, i => by
    have := kent_snoc l x (i + 1)
    simp only [List.cons_append, kent, this, List.length_cons]
    rw [show i + 1 + l.length = i + (l.length + 1) by omega]
theorem bytes_ne {s r : ByteArray} (h : s ≠ r) : (s == r) = false := by cases hq' : (s == r) with | false => rfl | true => exact absurd ((MapKept.bytes_beq s r).1 hq') h
theorem kent_none : ∀ (l : List Ac) (s : ByteArray) (i j : Nat), (∀ x ∈ l, x.code ≠ s) → Instr.findNow .string (.string s) (kent l i) j = some none
  | [], _, _, _, _ => rfl
  | x :: l, s, i, j, h => by
    have hne := bytes_ne (fun e : s = x.code => h x (by simp) e.symm)
    simp only [kent]
    unfold Instr.findNow
    simp only [Instr.sameNow, hne]
    exact kent_none l s (i + 1) (j + 1) fun y hy => h y (by simp [hy])
theorem kent_look : ∀ (l : List Ac) (s : ByteArray) (i j : Nat), (Instr.findNow .string (.string s) (kent l i) j = some none ∧ kOf l s = 0) ∨ ∃ k, Instr.findNow .string (.string s) (kent l i) j = some (some (k, .int .i64 (kOf l s)))
  | [], _, _, _ => .inl ⟨rfl, rfl⟩
  | x :: l, s, i, j => by
    simp only [kent]
    unfold Instr.findNow
    by_cases h : s = x.code
    · refine .inr ⟨j, ?_⟩
      simp only [Instr.sameNow, h, (MapKept.bytes_beq x.code x.code).2 rfl, kOf]
      simp
    · have hne := bytes_ne h
      simp only [Instr.sameNow, hne, kOf, if_neg h]
      exact kent_look l s (i + 1) (j + 1)
def KMap (W : World) (mb : Nat) (l : List Ac) : Prop := W.heap[mb]? = some (.map (kent l 0).toArray l.length)
theorem run_klook {W : World} {mb : Nat} {l : List Ac} (h : KMap W mb l) (s : ByteArray) : (Instr.lookup 50 (.map (some mb)) (.string s) false).run Tryz.prog W = .ok (.int .i64 (kOf l s)) W := by
  rcases kent_look l s 0 0 with ⟨f, e⟩ | ⟨k, f⟩
  · rw [e]
    simp [Instr.lookup, run_underlying Tryz.underlying50, MapKept.run_getObj_map h, skey_ok, MapKept.run_findKey Tryz.underlying9 f, imap_zero, Result.andThen]
  · simp [Instr.lookup, run_underlying Tryz.underlying50, MapKept.run_getObj_map h, skey_ok, MapKept.run_findKey Tryz.underlying9 f, Result.andThen]
theorem run_kput {W : World} {mb : Nat} {l : List Ac} (h : KMap W mb l) (x : Ac) (hs : ∀ y ∈ l, y.code ≠ x.code) :
    ∃ W', (Instr.mapUpdate 50 (.map (some mb)) (.string x.code) (.int .i64 x.kind)).run Tryz.prog W = .ok () W' ∧ KMap W' mb (l ++ [x]) ∧ W.grownBy W' (some mb) := by
  have hlt : mb < W.heap.size := (Array.getElem?_eq_some_iff.1 h).1
  have f := kent_none l x.code 0 0 hs
  refine ⟨{ W with heap := W.heap.setIfInBounds mb (.map ((kent l 0).toArray.push ⟨.string x.code, .int .i64 x.kind, l.length⟩) (l.length + 1)) }, ?_, ?_, ⟨rfl, rfl, rfl, by simp, fun b _ hb => Array.getElem?_setIfInBounds_ne (fun e => hb (by rw [e]))⟩⟩
  · simp [Instr.mapUpdate, run_underlying Tryz.underlying50, MapKept.run_getObj_map h, skey_ok, MapKept.run_findKey Tryz.underlying9 f, MapKept.run_setObj_map _ h, Result.andThen]
  · unfold KMap
    rw [kent_snoc]
    simp [hlt]
theorem make_kinds (n : Int) (w : World) : (Instr.makeMap 50 (some (.int .i64 n))).run Tryz.prog w = .ok (.map (some w.heap.size)) (w.alloc (.map #[] 0)) := by
  simp [Instr.makeMap, run_underlying Tryz.underlying50, asInt, asIntOf, Result.andThen]
theorem kOf_take {c : List Ac} (hc : chBad c = 0) {k : Nat} (hk : k < c.length) : ∀ y ∈ c.take k, y.code ≠ (c.getD k ac0).code := fun y hy e => by
  obtain ⟨j, hj, rfl⟩ := List.getElem_of_mem hy
  rw [List.length_take] at hj
  have e1 : (c.getD j ac0) = (c.take k)[j] := by
    rw [List.getD_eq_getElem?_getD, List.getElem?_eq_getElem (by omega), List.getElem_take]
    rfl
  rw [← e1] at e
  have := code_inj hc (by omega) hk e
  omega
set_option maxHeartbeats 4000000 in
theorem kinds_any (a : Option Addr) (cap : Nat) (c : List Ac) (w : World) (h : IsSl w a c cap) (hc : chBad c = 0) :
    Calls Tryz.prog 16 #[.slice a c.length cap] w fun e w' => ∃ bm, e = .returned (.map (some bm)) ∧ KMap w' bm c ∧ w.heap.size ≤ bm ∧ Below w.heap.size w w' := by
  have hmk := make_kinds
  have hlen := chBad_len hc
  have hl : (c.length : Int) ≤ 60 := by omega
  have HS : Hid (IsSl w a c cap) := h
  have HD : Hid (∀ k, k < c.length → ∀ y ∈ c.take k, y.code ≠ (c.getD k ac0).code) := fun k hk => kOf_take hc hk
  have HK0 : Hid (KMap (w.alloc (.map #[] 0)) w.heap.size (c.take 0) ∧ Below w.heap.size w (w.alloc (.map #[] 0))) := ⟨World.alloc_heap_new w _, (Below.refl _ w).alloc (Nat.le_refl _) _⟩
  clear h hc
  go_enter Tryz.func16, Tryz.ntmps16
  go_wp2
  go_loopw [11] (fun i wr => ∃ k : Nat, k ≤ c.length ∧ i = .int .i64 k ∧ Hid (KMap wr w.heap.size (c.take k) ∧ Below w.heap.size w wr)) (fun i _ => c.length - (RowKit.intOf i).toNat)
  case atStart => exact ⟨0, Nat.zero_le _, rfl, HK0⟩
  case round =>
    obtain ⟨k, hk, rfl, HK⟩ := hrel
    by_cases hlt : k < c.length
    · rcases (HS.out.below HK.out.2).lies with h0 | ⟨b, off, e, hb, hcc⟩
      · rw [h0] at hlt; simp at hlt
      subst e
      have hx := hcc k hlt
      obtain ⟨x, hxe⟩ : ∃ x, c.getD k ac0 = x := ⟨_, rfl⟩
      rw [hxe] at hx
      obtain ⟨wa, hwa⟩ : ∃ wa, wr.alloc (.cells x.cells 54) = wa := ⟨_, rfl⟩
      have b1 : Below wr.heap.size wr wa := by rw [← hwa]; exact (Below.refl _ wr).alloc (Nat.le_refl _) _
      have hlt2 : w.heap.size < wr.heap.size := (Array.getElem?_eq_some_iff.1 HK.out.1).1
      have hka : KMap wa w.heap.size (c.take k) := (b1.block _ hlt2).trans HK.out.1
      obtain ⟨W', hput, hm, hg⟩ := run_kput hka x (by rw [← hxe]; exact HD.out k hlt)
      have HN : Hid (KMap W' w.heap.size (c.take (k + 1)) ∧ Below w.heap.size w W') := by
        refine ⟨?_, ?_⟩
        · rw [List.take_add_one, List.getElem?_eq_getElem hlt]
          rw [List.getD_eq_getElem?_getD, List.getElem?_eq_getElem hlt] at hxe
          simp only [Option.getD_some] at hxe
          rw [hxe]
          exact hm
        · have z := HK.out.2.trans (b1.mono HK.out.2.size)
          exact z.grown hg z.size fun j e => by cases e; exact Nat.le_refl _
      have hxa : AcAt wa wr.heap.size 0 x := by rw [← hwa]; exact AcAt.new wr x 54
      have HWa : Hid (wr.alloc (.cells x.cells 54) = wa) := hwa
      have i0 : (0 : Int) ≤ k := by omega
      have i1 : (k : Int) < c.length := by omega
      clear hcc hxe hwa b1 hka hm hg HK
      obtain ⟨x0, x1, x2, x3, x4⟩ := x
      obtain ⟨d0, d1, d2, d3, d4⟩ := hx
      obtain ⟨f0, f1, f2, f3, f4⟩ := hxa
      simp only [Ac.cells, Nat.zero_add] at d0 d1 d2 d3 d4 f0 f1 f2 f3 f4 HWa hput
      go_upto_region 5 with fail
      rw [HWa.out]
      clear HWa d0 d1 d2 d3 d4
      go_wp2
      go_roundw
      case rel => exact ⟨k + 1, by omega, by go_num, HN⟩
      case measure => simp [RowKit.intOf]; omega
    · have ek : k = c.length := by omega
      subst ek
      have h1 := HK.out
      rw [List.take_length] at h1
      have HE : Hid (KMap wr w.heap.size c ∧ Below w.heap.size w wr) := h1
      have i1 : ¬ (c.length : Int) < c.length := by omega
      clear h1 HK
      go_wp2
      go_ret
      exact ⟨_, rfl, HE.out.1, Nat.le_refl _, HE.out.2⟩
section
variable {W : World} {n0 m0 B : Nat} {P : Cp} {S : Cs}
theorem make_purses (w : World) : (Instr.makeMap 157 none).run Tryz.prog w = .ok (.map (some w.heap.size)) (w.alloc (.map #[] 0)) := by
  simp [Instr.makeMap, run_underlying purses_under, asInt, asIntOf, Result.andThen]
set_option maxHeartbeats 4000000 in
theorem earnedNone (h : ClAt W n0 m0 B P S) (ok : ClOk S) (ab : Option Addr) (cab : Nat) :
    Calls Tryz.prog 93 #[.pointer (some ⟨B, 0, none⟩), .slice ab 0 cab] W fun e w' => ∃ bm, e = .returned (.tuple #[.map (some bm), .nilIface]) ∧ w'.heap[bm]? = some (.map #[] 0) ∧ Below W.heap.size W w' := by
  have k0 : W.cell? ⟨B, 0, none⟩ = some (.slice P.ca S.c.length P.cc) := h.cell 0
  have HK : Hid (Calls _ _ _ _ _) := kinds_any P.ca P.cc S.c W h.dat.ch ok.c
  have hmk := make_purses
  clear h ok
  go_enter Tryz.func93, Tryz.ntmps93
  go_wp2_with fail
  refine HK.out.mono ?_
  rintro e w1 ⟨km, rfl, _, _, hb1⟩
  have HB : Hid (Below W.heap.size W (w1.alloc (.map #[] 0)) ∧ (w1.alloc (.map #[] 0)).heap[w1.heap.size]? = some (.map #[] 0)) := ⟨hb1.alloc hb1.size _, World.alloc_heap_new w1 _⟩
  clear HK hb1 k0
  go_wp2
  go_loopw [20] (fun i wr => i = .int .i64 0 ∧ wr = w1.alloc (.map #[] 0)) (fun _ _ => 0)
  case atStart => exact ⟨rfl, rfl⟩
  case round =>
    obtain ⟨rfl, rfl⟩ := hrel
    go_wp2
    go_ret2
    exact ⟨_, rfl, HB.out.2, HB.out.1⟩
set_option maxHeartbeats 4000000 in
theorem clearedNone (h : ClAt W n0 m0 B P S) (ok : ClOk S) (ab : Option Addr) (cab : Nat) (pe : Int) :
    Calls Tryz.prog 52 #[.pointer (some ⟨B, 0, none⟩), .slice ab 0 cab, .int .i64 pe] W (StEnd2 0 [] W) := by
  have HE : Hid (Calls _ _ _ _ _) := earnedNone h ok ab cab
  have HK : Hid (∀ bm U, Calls Tryz.prog 95 #[.map (some bm)] U fun e w' => e = .returned (.func (.func 133) #[] #[.pointer (some ⟨U.heap.size, 0, none⟩)]) ∧ w' = U.alloc (.cells #[.map (some bm)] 157)) := fun bm U => by
    go_enter Tryz.func95, Tryz.ntmps95
    go_wp2
    go_ret
    exact ⟨rfl, rfl⟩
  have HD : Hid (∀ U, Below W.heap.size W U → StEnd2 0 [] W (.returned (.tuple #[.slice none 0 0, .nilIface])) U) := fun U hU => ⟨hU, fun h => absurd rfl h, fun _ => ⟨_, [], rfl, Made.nil _ _, rfl, by simp⟩⟩
  clear h ok
  go_enter Tryz.func52, Tryz.ntmps52
  go_wp2_with fail
  refine HE.out.mono ?_
  rintro e w1 ⟨bm, rfl, hm, hb1⟩
  have HM : Hid (w1.heap[bm]? = some (.map #[] 0) ∧ Below W.heap.size W w1) := ⟨hm, hb1⟩
  clear HE hm hb1
  go_wp2_with fail
  refine (HK.out bm w1).mono ?_
  rintro e w2 ⟨rfl, hw2⟩
  have HB2 : Hid (Below W.heap.size W w2) := by unfold Hid; rw [hw2]; exact HM.out.2.alloc HM.out.2.size _
  have HS : Hid (Calls Tryz.prog 94 #[.func (.func 133) #[] #[.pointer (some ⟨w1.heap.size, 0, none⟩)], .func (.func 96) #[] #[]] w2 fun e w' => e = .returned (.slice none 0 0) ∧ Below w2.heap.size w2 w') := by
    refine sortedNone w1.heap.size bm w2 (by rw [hw2]; simp) ?_ ?_
    · rw [hw2]
      unfold World.cell?
      rw [World.alloc_heap_new]
      rfl
    · rw [hw2]
      exact (heap_alloc_lt _ _ _ (Array.getElem?_eq_some_iff.1 HM.out.1).1).trans HM.out.1
  clear HK hw2 HM
  go_wp2_with fail
  refine HS.out.mono ?_
  rintro e w3 ⟨rfl, hb3⟩
  have HE3 : Hid (StEnd2 0 [] W (.returned (.tuple #[.slice none 0 0, .nilIface])) w3) := HD.out w3 (HB2.out.trans (hb3.mono HB2.out.size))
  clear HS hb3 HB2 HD
  go_wp2
  go_loopw [10, 28] (fun v i wr => v = .slice none 0 0 ∧ i = .int .i64 0 ∧ wr = w3) (fun _ _ _ => 0)
  case atStart => exact ⟨rfl, rfl, rfl⟩
  case round =>
    obtain ⟨rfl, rfl, rfl⟩ := hrel
    go_wp2
    go_ret2
    exact HE3.out
end
end Go.Proofs.YteiidlapekocoaaGreatDoor

namespace Go.Proofs.YteiidlapekocoaaGreatDoor
set_option linter.unusedVariables false
set_option linter.unusedSimpArgs false
set_option maxRecDepth 100000
open Go.RowKit Go.Lib

def RtsAt (w : World) (b off : Nat) (l : List Rt) : Prop := ∀ k, k < l.length → RtAt w b (off + k * 5) (l.getD k rt0)
structure IsRt (w : World) (a : Option Addr) (l : List Rt) (cap : Nat) : Prop where
  cap : l.length ≤ cap
  lies : l = [] ∨ ∃ b off, a = some ⟨b, off, none⟩ ∧ b < w.heap.size ∧ RtsAt w b off l
theorem IsRt.below {w w' : World} {a : Option Addr} {l : List Rt} {cap : Nat} (h : IsRt w a l cap) (hb : Below w.heap.size w w') : IsRt w' a l cap := by
  refine ⟨h.cap, ?_⟩
  rcases h.lies with h | ⟨b, off, e, hlt, hc⟩
  · exact .inl h
  · exact .inr ⟨b, off, e, by have := hb.size; omega, fun k hk => (hc k hk).below hb hlt⟩
def RtsOk (rs : List Rt) : Prop := ∀ k, k < rs.length → ((rs.getD k rt0).frm.size ≤ maxLen ∧ (rs.getD k rt0).dst.size ≤ maxLen) ∧ (Lit.int .i64 (rs.getD k rt0).per).wf = true
theorem table_any (a : Option Addr) (cap : Nat) (rs : List Rt) (w : World) (h : IsRt w a rs cap) (hok : RtsOk rs) : Calls Tryz.prog 38 #[.slice a rs.length cap] w (TabEnd w (tabS rs)) := by
  by_cases h1 : 100 < rs.length
  · exact table_full a rs.length cap rs w rfl h1
  · rcases h.lies with rfl | ⟨b, off, rfl, hlt, hc⟩
    · exact table_none a cap w
    · exact table_some b off cap rs w hlt (by omega) h.cap hc (fun k hk => (hok k hk).1) (fun k hk => (hok k hk).2)
def rtRow (l : List Rt) : List Value := l.flatMap fun x => x.cells.toList
theorem rt_five (x : Rt) : x.cells.toList.length = 5 := rfl
theorem rtRow_length : ∀ l : List Rt, (rtRow l).length = l.length * 5
  | [] => rfl
  | x :: l => by
    have := rtRow_length l
    unfold rtRow at *
    simp only [List.flatMap_cons, List.length_append, rt_five, this, List.length_cons]
    omega
theorem rtRow_get : ∀ (l : List Rt) (k j : Nat), k < l.length → j < 5 → (rtRow l)[k * 5 + j]? = (l.getD k rt0).cells.toList[j]?
  | [], _, _, h, _ => absurd h (by simp)
  | x :: l, 0, j, _, hj => by
    simp only [rtRow, List.flatMap_cons, Nat.zero_mul, Nat.zero_add, List.getD_cons_zero]
    rw [List.getElem?_append_left (by rw [rt_five]; exact hj)]
  | x :: l, k + 1, j, h, hj => by
    have ih := rtRow_get l k j (by simpa using h) hj
    simp only [rtRow, List.flatMap_cons, List.getD_cons_succ] at ih ⊢
    rw [List.getElem?_append_right (by rw [rt_five]; omega), rt_five, ← ih]
    congr 1
    omega
theorem rtRow_isRt {W : World} {n0 : Nat} {e : TypeId} {v : Value} {l : List Rt} (h : W.ownsRow n0 e 5 v l.length (rtRow l)) :
    ∃ a cap, v = .slice a l.length cap ∧ IsRt W a l cap := by
  obtain ⟨hlen, ⟨rfl, h0⟩ | ⟨g, cap, cur, rfl, hb, hg, hc, hm, hs, ht⟩⟩ := h
  · have : l = [] := List.eq_nil_of_length_eq_zero h0
    subst this
    exact ⟨none, 0, rfl, Nat.le_refl _, .inl rfl⟩
  · refine ⟨_, cap, rfl, hc, .inr ⟨g, 0, rfl, (Array.getElem?_eq_some_iff.1 hg).1, ?_⟩⟩
    intro k hk
    have C : ∀ j, j < 5 → W.cell? ⟨g, 0 + k * 5 + j, none⟩ = (l.getD k rt0).cells.toList[j]? := fun j hj => by
      have e1 : (rtRow l)[k * 5 + j]? = cur[k * 5 + j]? := by
        rw [← ht, List.getElem?_take, if_pos (by omega)]
        simp
      rw [← rtRow_get l k j hk hj, e1]
      simp [World.cell?, hg]
    exact ⟨C 0 (by omega), C 1 (by omega), C 2 (by omega), C 3 (by omega), C 4 (by omega)⟩
theorem rt_src {W : World} {b off : Nat} {l : List Rt} (h : RtsAt W b off l) : ∀ j u, (rtRow l)[j]? = some u → W.cell? ((⟨b, off, none⟩ : Addr).add j) = some u := by
  intro j u hj
  rw [Addr.add_lit]
  obtain ⟨q, r, hr, rfl⟩ : ∃ q r, r < 5 ∧ j = q * 5 + r := ⟨j / 5, j % 5, Nat.mod_lt _ (by omega), by omega⟩
  have hlt := (List.getElem?_eq_some_iff.1 hj).1
  rw [rtRow_length] at hlt
  have hq : q < l.length := by omega
  rw [rtRow_get l q r hq hr] at hj
  have := h q hq
  rcases (by omega : r = 0 ∨ r = 1 ∨ r = 2 ∨ r = 3 ∨ r = 4) with rfl | rfl | rfl | rfl | rfl
  · rw [← hj, Nat.add_zero, this.c0]; rfl
  · rw [← hj, ← Nat.add_assoc, this.c1]; rfl
  · rw [← hj, ← Nat.add_assoc, this.c2]; rfl
  · rw [← hj, ← Nat.add_assoc, this.c3]; rfl
  · rw [← hj, ← Nat.add_assoc, this.c4]; rfl
theorem rtRow_one (l : List Rt) : ∀ u ∈ rtRow l, u.oneCell' = true := by
  intro u hu
  obtain ⟨x, _, hx⟩ := List.mem_flatMap.1 hu
  simp only [Rt.cells, List.mem_cons, List.not_mem_nil, or_false] at hx
  rcases hx with rfl | rfl | rfl | rfl | rfl <;> rfl

theorem cloneR_any (a : Option Addr) (l : List Rt) (cap : Nat) (w : World) (h : IsRt w a l cap) (hl : l.length ≤ 1000) :
    Calls Tryz.prog 18 #[.slice a l.length cap] w fun e w' => ∃ a' cap', e = .returned (.slice a' l.length cap') ∧ IsRt w' a' l cap' ∧ Below w.heap.size w w' := by
  refine (clone_Rt a l.length cap (rtRow l) w (rtRow_length l) (rtRow_one l) (fun h0 => ?_) hl).mono ?_
  · rcases h.lies with hh | ⟨b, off, rfl, hlt, hc⟩
    · rw [hh] at h0; exact absurd rfl h0
    · exact ⟨_, rfl, hlt, rt_src hc⟩
  · rintro e w' ⟨a', c', rfl, ho, hb⟩
    obtain ⟨a2, c2, e2, h2⟩ := rtRow_isRt ho
    cases e2
    exact ⟨a', c', rfl, h2, hb⟩
def nwBad (c : List Ac) (rs : List Rt) (base gain kept : ByteArray) : Int :=
  if chBad c ≠ 0 then chBad c else if (tabS rs).1 ≠ 0 then (tabS rs).1 else if isCur base = false then 2 else if leafBad c gain ≠ 0 then leafBad c gain else if leafBad c kept ≠ 0 then leafBad c kept else if kOf c kept ≠ 3 then 12 else 0
def csNew (c : List Ac) (rs : List Rt) (base gain kept : ByteArray) : Cs := ⟨c, tabS rs, base, gain, kept, [], [], [], [], []⟩
theorem nwBad_ok {c : List Ac} {rs : List Rt} {base gain kept : ByteArray} (h : nwBad c rs base gain kept = 0) : ClOk (csNew c rs base gain kept) ∧ kOf c kept = 3 := by
  unfold nwBad at h
  split at h
  · contradiction
  rename_i h1
  split at h
  · contradiction
  rename_i h2
  split at h
  · cases h
  rename_i h3
  split at h
  · contradiction
  rename_i h4
  split at h
  · contradiction
  rename_i h5
  split at h
  · cases h
  rename_i h6
  have hc := Decidable.of_not_not h1
  refine ⟨⟨hc, Decidable.of_not_not h2, (tabS_good rs).1, (show isCur base = true by simpa using h3), Decidable.of_not_not h4, Decidable.of_not_not h5, ?_, ?_, ?_, by simp [csNew], by simp [csNew], by simp [csNew], fun p => by simp [csNew, sgOf], by simp [csNew]⟩, Decidable.of_not_not h6⟩
  · unfold pnsBad csNew; rw [if_neg h1]; rfl
  · unfold psBad csNew; rw [if_neg h1]; rfl
  · unfold prsBad csNew; rw [if_neg h1]; rfl
theorem make_refs (w : World) : (Instr.makeMap 58 none).run Tryz.prog w = .ok (.map (some w.heap.size)) (w.alloc (.map #[] 0)) := by
  simp [Instr.makeMap, run_underlying Tryz.underlying58, asInt, asIntOf, Result.andThen]
theorem make_stages (w : World) : (Instr.makeMap 59 none).run Tryz.prog w = .ok (.map (some w.heap.size)) (w.alloc (.map #[] 0)) := by
  simp [Instr.makeMap, run_underlying Tryz.underlying59, asInt, asIntOf, Result.andThen]
def cpNew (a : Option Addr) (cap : Nat) (ra : Option Addr) (rl rc bm bs : Nat) : Cp := ⟨a, cap, ra, rl, rc, none, 0, none, 0, none, 0, none, 0, bm, bs⟩
theorem new_at {w w8 w11 : World} {c : List Ac} {rs : List Rt} {base gain kept : ByteArray} {a ra : Option Addr} {cap rc : Nat} (hok : RtsOk rs) (hs : IsSl w8 a c cap) (hr : IsRt w8 ra rs rc) (hb : Below w.heap.size w w8)
    (h11 : w11 = ((w8.alloc (.map #[] 0)).alloc (.map #[] 0)).alloc (.cells (clCells (cpNew a cap ra rs.length rc w8.heap.size (w8.heap.size + 1)) (csNew c rs base gain kept)) 64)) :
    ClAt w11 w.heap.size w11.heap.size (w8.heap.size + 2) (cpNew a cap ra rs.length rc w8.heap.size (w8.heap.size + 1)) (csNew c rs base gain kept) ∧ Below w.heap.size w w11 := by
  have e1 : (w8.alloc (.map #[] 0)).heap.size = w8.heap.size + 1 := by simp
  have e2 : ((w8.alloc (.map #[] 0)).alloc (.map #[] 0)).heap.size = w8.heap.size + 2 := by simp
  have e3 : w11.heap.size = w8.heap.size + 3 := by rw [h11]; simp
  have hz := hb.size
  have b8 : Below w8.heap.size w8 w11 := by rw [h11]; exact (((Below.refl _ w8).alloc (Nat.le_refl _) _).alloc (by simp) _).alloc (by simp; omega) _
  have hbox : w11.heap[w8.heap.size + 2]? = some (.cells (clCells (cpNew a cap ra rs.length rc w8.heap.size (w8.heap.size + 1)) (csNew c rs base gain kept)) 64 (0, 0)) := by
    have := World.alloc_heap_new ((w8.alloc (.map #[] 0)).alloc (.map #[] 0)) (.cells (clCells (cpNew a cap ra rs.length rc w8.heap.size (w8.heap.size + 1)) (csNew c rs base gain kept)) 64)
    rw [e2] at this
    rw [h11]
    exact this
  have hm1 : w11.heap[w8.heap.size]? = some (.map #[] 0) := by
    rw [h11, heap_alloc_lt _ _ _ (by rw [e2]; omega), heap_alloc_lt _ _ _ (by rw [e1]; omega)]
    exact World.alloc_heap_new w8 _
  have hm2 : w11.heap[w8.heap.size + 1]? = some (.map #[] 0) := by
    rw [h11, heap_alloc_lt _ _ _ (by rw [e2]; omega)]
    have := World.alloc_heap_new (w8.alloc (.map #[] 0)) (.map #[] 0)
    rw [e1] at this
    exact this
  refine ⟨⟨hbox, ⟨[], ⟨#[], 0, hm1, rfl, by simp⟩, fun s => Iff.rfl⟩, hm2, JeRow.nil _ _, by simp [csNew], fun U hU => ?_, ⟨by omega, by omega⟩, ⟨by show w.heap.size ≤ w8.heap.size; omega, by show w8.heap.size < _; omega⟩, ⟨by show w.heap.size ≤ w8.heap.size + 1; omega, by show w8.heap.size + 1 < _; omega⟩, Nat.le_refl _, by show w8.heap.size ≠ w8.heap.size + 1; omega⟩, hb.trans (b8.mono hz)⟩
  have bU : Below w8.heap.size w8 U := by
    refine b8.trans ⟨hU.os, hU.tape, hU.output, hU.size, fun b hlt => hU.block b (by omega) ?_⟩
    rintro (h | h | h | h)
    · omega
    · have : b = w8.heap.size := h
      omega
    · have : b = w8.heap.size + 1 := h
      omega
    · omega
  exact ⟨hs.below bU, fun V hV => table_any ra rc rs V ((hr.below bU).below hV) hok, ⟨Nat.le_refl _, .inl rfl⟩, ⟨Nat.le_refl _, .inl rfl, by simp [csNew]⟩, isPr_nil U⟩
def NwEnd (c : List Ac) (rs : List Rt) (base gain kept : ByteArray) (nb : Int) (w : World) (e : Ending) (w' : World) : Prop :=
  (nb ≠ 0 → e = .returned (.tuple #[.pointer none, chE nb]) ∧ Below w.heap.size w w') ∧
  (nb = 0 → ∃ B P, e = .returned (.tuple #[.pointer (some ⟨B, 0, none⟩), .nilIface]) ∧ Hid (ClAt w' w.heap.size w'.heap.size B P (csNew c rs base gain kept) ∧ Below w.heap.size w w' ∧ P.ea = none ∧ P.ec = 0))
set_option maxHeartbeats 8000000 in
theorem new_any (a ra : Option Addr) (cap rc : Nat) (c : List Ac) (rs : List Rt) (base gain kept : ByteArray) (w : World) (h : IsSl w a c cap) (hr : IsRt w ra rs rc) (hok : RtsOk rs) :
    Calls Tryz.prog 4 #[.slice a c.length cap, .slice ra rs.length rc, .string base, .string gain, .string kept] w (NwEnd c rs base gain kept (nwBad c rs base gain kept) w) := by
  obtain ⟨nb, hnb⟩ : ∃ nb, nwBad c rs base gain kept = nb := ⟨_, rfl⟩
  rw [hnb]
  have HNB : Hid ((if chBad c ≠ 0 then chBad c else if (tabS rs).1 ≠ 0 then (tabS rs).1 else if isCur base = false then 2 else if leafBad c gain ≠ 0 then leafBad c gain else if leafBad c kept ≠ 0 then leafBad c kept else if kOf c kept ≠ 3 then 12 else 0) = nb) := hnb
  clear hnb
  by_cases c0 : chBad c ≠ 0
  · have HC : Hid (Calls _ _ _ _ _) := leafCheck_bad a cap c w h c0
    have er : nb = chBad c := by rw [← HNB.out, if_pos c0]
    rw [← er] at HC c0
    rw [chE_ne c0] at HC
    clear h hr hok HNB er
    go_enter Tryz.func4, Tryz.ntmps4
    go_wp2_with fail
    refine HC.out.mono ?_
    rintro e w1 ⟨rfl, hb1⟩
    have HB : Hid (Below w.heap.size w w1) := hb1
    clear hb1 HC
    go_wp2
    go_ret2
    exact And.intro (fun _ => ⟨by rw [chE_ne c0]; rfl, HB.out⟩) (fun h => absurd h c0)
  have c0' := Decidable.of_not_not c0
  have HC : Hid (Calls _ _ _ _ _) := leafCheck_ok a cap c w h c0'
  have HR1 : Hid ((if (tabS rs).1 ≠ 0 then (tabS rs).1 else if isCur base = false then 2 else if leafBad c gain ≠ 0 then leafBad c gain else if leafBad c kept ≠ 0 then leafBad c kept else if kOf c kept ≠ 3 then 12 else 0) = nb) := by
    have := HNB.out; rw [if_neg c0] at this; exact this
  have HCk : Hid (∀ U, Below w.heap.size w U → Calls Tryz.prog 14 #[.slice ra rs.length rc] U fun e w' => e = .returned (chE (tabS rs).1) ∧ Below U.heap.size U w') := fun U hU => by
    refine (rvRates_any ra rs.length rc (tabS rs) U (table_any ra rc rs U (hr.below hU) hok)).mono ?_
    rintro e w' ⟨rfl, hb⟩
    exact ⟨rfl, hb⟩
  clear HNB
  by_cases c1 : (tabS rs).1 ≠ 0
  · have er : nb = (tabS rs).1 := by rw [← HR1.out, if_pos c1]
    rw [← er] at HCk c1
    rw [chE_ne c1] at HCk
    clear h hr hok HR1 er c0 c0'
    go_enter Tryz.func4, Tryz.ntmps4
    go_wp2_with fail
    refine HC.out.mono ?_
    rintro e w1 ⟨B1, B2, rfl, _, hb1⟩
    go_wp2_with fail
    refine (HCk.out w1 hb1).mono ?_
    rintro e w2 ⟨rfl, hb2⟩
    have HB : Hid (Below w.heap.size w w2) := hb1.trans (hb2.mono hb1.size)
    clear hb1 hb2 HC HCk
    go_wp2
    go_ret2
    exact And.intro (fun _ => ⟨by rw [chE_ne c1]; rfl, HB.out⟩) (fun h => absurd h c1)
  have c1' := Decidable.of_not_not c1
  rw [c1', chE_zero] at HCk
  have HR2 : Hid ((if isCur base = false then 2 else if leafBad c gain ≠ 0 then leafBad c gain else if leafBad c kept ≠ 0 then leafBad c kept else if kOf c kept ≠ 3 then 12 else 0) = nb) := by
    have := HR1.out; rw [if_neg c1] at this; exact this
  have HU : Hid (∀ U, Calls Tryz.prog 15 #[.string base] U fun e w' => e = .returned (.bool (isCur base)) ∧ Below U.heap.size U w') := fun U => cur_any base U
  have hr100 : rs.length ≤ 100 := by
    by_cases h1 : 100 < rs.length
    · rw [tabS_full h1] at c1'; cases c1'
    · omega
  clear HR1 c1 c1'
  cases c2 : isCur base
  · have er : nb = 2 := by rw [← HR2.out, c2, if_pos rfl]
    subst er
    rw [c2] at HU
    clear h hr hok HR2 c0 c0'
    go_enter Tryz.func4, Tryz.ntmps4
    go_wp2_with fail
    refine HC.out.mono ?_
    rintro e w1 ⟨B1, B2, rfl, _, hb1⟩
    go_wp2_with fail
    refine (HCk.out w1 hb1).mono ?_
    rintro e w2 ⟨rfl, hb2⟩
    go_wp2_with fail
    refine (HU.out w2).mono ?_
    rintro e w3 ⟨rfl, hb3⟩
    have hb2' := hb1.trans (hb2.mono hb1.size)
    have HB : Hid (Below w.heap.size w w3) := hb2'.trans (hb3.mono hb2'.size)
    clear hb1 hb2 hb2' hb3 HC HCk HU
    go_wp2
    go_ret2
    exact And.intro (fun _ => ⟨by rw [chE_ne (by decide)]; rfl, HB.out⟩) (fun h => absurd h (by decide))
  rw [c2] at HU
  have HR3 : Hid ((if leafBad c gain ≠ 0 then leafBad c gain else if leafBad c kept ≠ 0 then leafBad c kept else if kOf c kept ≠ 3 then 12 else 0) = nb) := by
    have := HR2.out; rw [c2, if_neg (by decide)] at this; exact this
  have HSl : Hid (IsSl w a c cap) := h
  have HRt : Hid (IsRt w ra rs rc) := hr
  have HOk : Hid (RtsOk rs) := hok
  have hcl := chBad_len c0'
  have HKi : Hid (∀ U, Below w.heap.size w U → Calls Tryz.prog 16 #[.slice a c.length cap] U fun e w' => ∃ bm, e = .returned (.map (some bm)) ∧ KMap w' bm c ∧ Below w.heap.size w w') := fun U hU => by
    refine (kinds_any a cap c U (h.below hU) c0').mono ?_
    rintro e w' ⟨bm, rfl, hk, _, hb⟩
    exact ⟨bm, rfl, hk, hU.trans (hb.mono hU.size)⟩
  clear h hr hok HR2 c0 c0' c2
  have eg : ∀ args W, (callFunc 35 args).run Tryz.prog W = .ok (.enter 35 args) W := fun args W => en_enters Tryz.func35 (by kernel_rfl) ⟨_, rfl⟩ args W
  have i0 : ∀ W, (Instr.index 49 (.agg #[.string gain, .string kept]) (.int .i64 0)).run Tryz.prog W = .ok (.string gain) W := fun _ => by kernel_rfl
  have i1 : ∀ W, (Instr.index 49 (.agg #[.string gain, .string kept]) (.int .i64 1)).run Tryz.prog W = .ok (.string kept) W := fun _ => by kernel_rfl
  go_enter Tryz.func4, Tryz.ntmps4
  go_wp2_with fail
  refine HC.out.mono ?_
  rintro e w1 ⟨B1, B2, rfl, hlf, hb1⟩
  go_wp2_with fail
  refine (HCk.out w1 hb1).mono ?_
  rintro e w2 ⟨rfl, hb2⟩
  go_wp2_with fail
  refine (HU.out w2).mono ?_
  rintro e w3 ⟨rfl, hb3⟩
  have hb2' := hb1.trans (hb2.mono hb1.size)
  have HB3 : Hid (Below w.heap.size w w3) := hb2'.trans (hb3.mono hb2'.size)
  have hlf3 := (hlf.below hb2).below hb3
  have HLf : Hid (∀ code U, Below w3.heap.size w3 U → Calls Tryz.prog 35 #[.string code, .pointer (some ⟨B1, 0, none⟩), .pointer (some ⟨B2, 0, none⟩)] U fun e w' => e = .returned (chE (leafBad c code)) ∧ Below w3.heap.size w3 w') := fun code U hU => by
    refine (leaf1_any c code B1 B2 U (hlf3.below hU)).mono ?_
    rintro e w' ⟨rfl, hb⟩
    exact ⟨rfl, hU.trans (hb.mono hU.size)⟩
  clear hb1 hb2 hb2' hb3 hlf hlf3 HC HCk HU
  have HF : Hid (Calls _ _ _ _ _) := HLf.out gain w3 (Below.refl _ _)
  go_wp2
  refine wp_loop_rounds 3 ?_
  rw [rounds_succ]
  by_cases c2 : leafBad c gain ≠ 0
  · have er : nb = leafBad c gain := by rw [← HR3.out, if_pos c2]
    rw [← er] at HF c2
    rw [chE_ne c2] at HF
    have HE : Hid (∀ U, Below w3.heap.size w3 U → Below w.heap.size w U) := fun U hU => HB3.out.trans (hU.mono HB3.out.size)
    clear HR3 HLf er
    go_wp2_with fail
    go_at_fn 35
    refine HF.out.mono ?_
    rintro e w' ⟨rfl, hb'⟩
    have HB4 : Hid (Below w.heap.size w w') := HE.out w' hb'
    clear hb' HE HF
    go_wp2
    go_ret2
    exact And.intro (fun _ => ⟨by rw [chE_ne c2]; rfl, HB4.out⟩) (fun h => absurd h c2)
  have c2' := Decidable.of_not_not c2
  rw [c2', chE_zero] at HF
  have HR4 : Hid ((if leafBad c kept ≠ 0 then leafBad c kept else if kOf c kept ≠ 3 then 12 else 0) = nb) := by
    have := HR3.out; rw [if_neg c2] at this; exact this
  clear HR3 c2 c2'
  go_wp2_with fail
  go_at_fn 35
  refine HF.out.mono ?_
  rintro e w4 ⟨rfl, hb4⟩
  have HF : Hid (Calls _ _ _ _ _) := HLf.out kept w4 hb4
  clear hb4 HLf
  go_wp2
  rw [rounds_succ]
  by_cases c3 : leafBad c kept ≠ 0
  · have er : nb = leafBad c kept := by rw [← HR4.out, if_pos c3]
    rw [← er] at HF c3
    rw [chE_ne c3] at HF
    have HE : Hid (∀ U, Below w3.heap.size w3 U → Below w.heap.size w U) := fun U hU => HB3.out.trans (hU.mono HB3.out.size)
    clear HR4 er
    go_wp2_with fail
    go_at_fn 35
    refine HF.out.mono ?_
    rintro e w' ⟨rfl, hb'⟩
    have HB4 : Hid (Below w.heap.size w w') := HE.out w' hb'
    clear hb' HE HF
    go_wp2
    go_ret2
    exact And.intro (fun _ => ⟨by rw [chE_ne c3]; rfl, HB4.out⟩) (fun h => absurd h c3)
  have c3' := Decidable.of_not_not c3
  rw [c3', chE_zero] at HF
  have HR5 : Hid ((if kOf c kept ≠ 3 then 12 else 0) = nb) := by
    have := HR4.out; rw [if_neg c3] at this; exact this
  clear HR4 c3 c3'
  go_wp2_with fail
  go_at_fn 35
  refine HF.out.mono ?_
  rintro e w5 ⟨rfl, hb5⟩
  have HB5 : Hid (Below w.heap.size w w5) := HB3.out.trans (hb5.mono HB3.out.size)
  clear hb5 HF HB3
  go_wp2
  rw [rounds_succ]
  have HK5 : Hid (Calls _ _ _ _ _) := HKi.out w5 HB5.out
  clear HKi
  go_wp2_with fail
  refine HK5.out.mono ?_
  rintro e w6 ⟨km, rfl, hkm, hb6⟩
  have hlook := run_klook hkm kept
  have HB6 : Hid (Below w.heap.size w w6) := hb6
  clear HK5 hb6 hkm HB5
  by_cases c4 : kOf c kept ≠ 3
  · have er : nb = 12 := by rw [← HR5.out, if_pos c4]
    subst er
    have c4' : (kOf c kept == 3) = false := by rw [beq_eq_false_iff_ne]; exact c4
    clear HR5
    generalize kOf c kept = kk at *
    go_wp2
    go_ret2
    exact And.intro (fun _ => ⟨by rw [chE_ne (by decide)]; rfl, HB6.out⟩) (fun h => absurd h (by decide))
  have er : nb = 0 := by rw [← HR5.out, if_neg c4]
  subst er
  rw [Decidable.of_not_not c4] at hlook
  have HA : Hid (Calls _ _ _ _ _) := cloneA_any a c cap w6 (HSl.out.below HB6.out) (by omega)
  have HRc : Hid (∀ U, Below w.heap.size w U → Calls Tryz.prog 18 #[.slice ra rs.length rc] U fun e w' => ∃ a' cap', e = .returned (.slice a' rs.length cap') ∧ IsRt w' a' rs cap' ∧ Below U.heap.size U w') := fun U hU => cloneR_any ra rs rc U (HRt.out.below hU) (by omega)
  have hmr := make_refs
  have hms := make_stages
  clear HR5 c4 eg i0 i1
  go_wp2_with fail
  refine HA.out.mono ?_
  rintro e w7 ⟨a7, c7, rfl, hs7, hb7⟩
  have b7 := HB6.out.trans (hb7.mono HB6.out.size)
  have HR7 : Hid (Calls _ _ _ _ _) := HRc.out w7 b7
  clear HA HRc hb7 hlook
  go_wp2_with fail
  refine HR7.out.mono ?_
  rintro e w8 ⟨a8, c8, rfl, hs8, hb8⟩
  have HE : Hid (ClAt (((w8.alloc (.map #[] 0)).alloc (.map #[] 0)).alloc (.cells #[.slice a7 c.length c7, .slice a8 rs.length c8, .string base, .string gain, .string kept, .slice none 0 0, .slice none 0 0, .slice none 0 0, .slice none 0 0, .map (some w8.heap.size), .map (some (w8.heap.size + 1))] 64)) w.heap.size (((w8.alloc (.map #[] 0)).alloc (.map #[] 0)).alloc (.cells #[.slice a7 c.length c7, .slice a8 rs.length c8, .string base, .string gain, .string kept, .slice none 0 0, .slice none 0 0, .slice none 0 0, .slice none 0 0, .map (some w8.heap.size), .map (some (w8.heap.size + 1))] 64)).heap.size (w8.heap.size + 2) (cpNew a7 c7 a8 rs.length c8 w8.heap.size (w8.heap.size + 1)) (csNew c rs base gain kept) ∧ Below w.heap.size w (((w8.alloc (.map #[] 0)).alloc (.map #[] 0)).alloc (.cells #[.slice a7 c.length c7, .slice a8 rs.length c8, .string base, .string gain, .string kept, .slice none 0 0, .slice none 0 0, .slice none 0 0, .slice none 0 0, .map (some w8.heap.size), .map (some (w8.heap.size + 1))] 64))) :=
    new_at HOk.out (hs7.below hb8) hs8 (b7.trans (hb8.mono b7.size)) rfl
  clear HR7 hs7 hs8 hb8 b7 HSl HRt HOk HB6
  go_wp2
  go_ret2
  exact And.intro (fun h => absurd rfl h) (fun _ => ⟨_, cpNew a7 c7 a8 rs.length c8 w8.heap.size (w8.heap.size + 1), rfl, HE.out.1, HE.out.2, rfl, rfl⟩)
end Go.Proofs.YteiidlapekocoaaGreatDoor

namespace Go.Proofs.YteiidlapekocoaaGreatDoor
set_option linter.unusedVariables false
set_option linter.unusedSimpArgs false
set_option maxRecDepth 100000
open Go.RowKit Go.Lib

def jC : List Ac := [⟨⟨#[49, 48]⟩, ⟨#[99, 97, 115, 104]⟩, 1, ⟨#[]⟩, true⟩, ⟨⟨#[50, 48]⟩, ⟨#[100, 101, 98, 116]⟩, 2, ⟨#[]⟩, true⟩, ⟨⟨#[51, 48]⟩, ⟨#[107, 101, 112, 116]⟩, 3, ⟨#[]⟩, false⟩, ⟨⟨#[52, 48]⟩, ⟨#[115, 97, 108, 101, 115]⟩, 4, ⟨#[]⟩, false⟩, ⟨⟨#[53, 48]⟩, ⟨#[99, 111, 115, 116]⟩, 5, ⟨#[]⟩, false⟩]
def jCells : Array Value := #[.string ⟨#[49, 48]⟩, .string ⟨#[99, 97, 115, 104]⟩, .int .i64 1, .string ⟨#[]⟩, .bool true, .string ⟨#[50, 48]⟩, .string ⟨#[100, 101, 98, 116]⟩, .int .i64 2, .string ⟨#[]⟩, .bool true, .string ⟨#[51, 48]⟩, .string ⟨#[107, 101, 112, 116]⟩, .int .i64 3, .string ⟨#[]⟩, .bool false, .string ⟨#[52, 48]⟩, .string ⟨#[115, 97, 108, 101, 115]⟩, .int .i64 4, .string ⟨#[]⟩, .bool false, .string ⟨#[53, 48]⟩, .string ⟨#[99, 111, 115, 116]⟩, .int .i64 5, .string ⟨#[]⟩, .bool false]
theorem jC_at (W : World) : IsSl (W.alloc (.cells jCells 54)) (some ⟨W.heap.size, 0, none⟩) jC 5 := by
  have h := World.alloc_heap_new W (.cells jCells 54)
  generalize W.alloc (.cells jCells 54) = V at *
  generalize W.heap.size = b at *
  refine ⟨Nat.le_refl _, .inr ⟨b, 0, rfl, (Array.getElem?_eq_some_iff.1 h).1, fun k hk => ?_⟩⟩
  rcases (by simp [jC] at hk; omega : k = 0 ∨ k = 1 ∨ k = 2 ∨ k = 3 ∨ k = 4) with rfl | rfl | rfl | rfl | rfl <;>
  exact ⟨by simp [World.cell?, h, jCells, jC], by simp [World.cell?, h, jCells, jC], by simp [World.cell?, h, jCells, jC], by simp [World.cell?, h, jCells, jC], by simp [World.cell?, h, jCells, jC]⟩
theorem accounts_any (w : World) :
    Calls Tryz.prog 5 #[] w fun e w' => e = .returned (.slice (some ⟨w.heap.size, 0, none⟩) 5 5) ∧ IsSl w' (some ⟨w.heap.size, 0, none⟩) jC 5 ∧ Below w.heap.size w w' := by
  have h := jC_at w
  have b : Below w.heap.size w (w.alloc (.cells jCells 54)) := (Below.refl _ w).alloc (Nat.le_refl _) _
  have H : Hid (IsSl (w.alloc (.cells jCells 54)) (some ⟨w.heap.size, 0, none⟩) jC 5 ∧ Below w.heap.size w (w.alloc (.cells jCells 54))) := ⟨h, b⟩
  clear h b
  go_enter Tryz.func5, Tryz.ntmps5
  go_wp2
  go_ret
  exact ⟨rfl, H.out.1, H.out.2⟩
end Go.Proofs.YteiidlapekocoaaGreatDoor

namespace Go.Proofs.YteiidlapekocoaaGreatDoor
set_option linter.unusedVariables false
set_option linter.unusedSimpArgs false
set_option maxRecDepth 100000
open Go.RowKit Go.Lib

def emS (c : List Ac) (base gain kept : ByteArray) (st : List (Int × Int)) : Cs := { csNew c [] base gain kept with st := st }
def stN (p : Int) (i : Nat) : List (Int × Int) := if i = 0 then [] else [(p, (i : Int))]
theorem stN_of (p q : Int) (i : Nat) : sgOf (stN p i) q = if q = p then (i : Int) else 0 := by
  unfold stN
  by_cases h : i = 0
  · rw [if_pos h, h]
    by_cases hq : q = p
    · rw [if_pos hq]; rfl
    · rw [if_neg hq]; rfl
  · rw [if_neg h]; rfl
theorem stN_next (p : Int) (i : Nat) : sgPut (stN p i) p (sgOf (stN p i) p + 1) = stN p (i + 1) := by
  rw [stN_of, if_pos rfl]
  unfold stN
  by_cases h : i = 0
  · subst h; simp [sgPut]
  · rw [if_neg h, if_neg (by omega)]; simp [sgPut]
theorem em_ok {c : List Ac} {base gain kept : ByteArray} (h : nwBad c [] base gain kept = 0) {p : Int} (hp : upTo p 120 = true) {i : Nat} (hi : i ≤ 6) : ClOk (emS c base gain kept (stN p i)) := by
  have k := (nwBad_ok h).1
  refine ⟨k.c, k.T, k.g, k.b, k.ga, k.ke, k.pn, k.po, k.pr, k.len, k.lns, k.per, fun q => ?_, fun x hx => ?_⟩
  · show 0 ≤ sgOf (stN p i) q ∧ sgOf (stN p i) q ≤ 6
    rw [stN_of]
    split <;> omega
  · have hx' : x ∈ stN p i := hx
    unfold stN at hx'
    split at hx'
    · cases hx'
    · rw [List.mem_singleton] at hx'
      rw [hx']
      exact hp
theorem em_done {c : List Ac} {base gain kept : ByteArray} (p i : Nat) : ∀ k, k < p → doneTo (emS c base gain kept (stN (p : Int) i)) k = true
  | 0, _ => rfl
  | k + 1, hk => by
    rw [doneTo, em_done p i k (by omega)]
    have e : sgOf (stN (p : Int) i) ((k : Int) + 1) = 0 := by rw [stN_of, if_neg (by omega)]
    have : doneAt (emS c base gain kept (stN (p : Int) i)) ((k : Int) + 1) = true := by
      unfold doneAt
      show (if sgOf (stN (p : Int) i) ((k : Int) + 1) = 6 then true else if sgOf (stN (p : Int) i) ((k : Int) + 1) = 0 then !(([] : List Je).any (ofPer ((k : Int) + 1))) else false) = true
      rw [e]
      rfl
    rw [this]
    rfl
theorem em_pre {c : List Ac} {base gain kept : ByteArray} (p i : Nat) (hp : 1 ≤ p ∧ p ≤ 120) (hi : i < 6) : avPre (emS c base gain kept (stN (p : Int) i)) p = 0 := by
  have u1 : upTo (p : Int) 120 = true := by simp [upTo]; omega
  unfold avPre
  rw [u1, if_neg (by decide)]
  have e : sgOf (emS c base gain kept (stN (p : Int) i)).st p = (i : Int) := by show sgOf (stN (p : Int) i) p = _; rw [stN_of, if_pos rfl]
  rw [e, if_neg (by omega), show ((p : Int)).toNat = p by omega, em_done p i (p - 1) (by omega), if_neg (by decide)]
  rfl
theorem eachBad_zero {bad : Int → Int} (h : ∀ en : Int, 1 ≤ en → en ≤ 12 → bad en = 0) : ∀ k, k ≤ 12 → eachBad bad k = 0
  | 0, _ => rfl
  | k + 1, hk => by
    unfold eachBad
    rw [firstTo_next (f := fun (i : Nat) => bad ((i : Int) + 1)) (eachBad_zero h k (by omega))]
    exact h _ (by omega) (by omega)
theorem eachTo_nil {ents : Int → List Ep} (h : ∀ en, ents en = []) : ∀ k, eachTo ents k = []
  | 0 => rfl
  | k + 1 => by rw [eachTo_next, eachTo_nil h k, h]; rfl
theorem ceRvTo_nil (f : Bl → Int) (base gain : ByteArray) (en pe : Int) (c : List Ac) : ∀ k, rvTo f base gain [] en pe c k = []
  | 0 => rfl
  | k + 1 => by
    rw [rvTo_next, ceRvTo_nil f base gain en pe c k]
    have e : acAmt f base [] en (c.getD k ac0) = 0 := rfl
    unfold acE
    rw [e, if_neg (by simp)]
    rfl
theorem em_bg {c : List Ac} {base gain kept : ByteArray} (h : nwBad c [] base gain kept = 0) (p : Nat) (hp : 1 ≤ p ∧ p ≤ 120) (st : List (Int × Int)) (sg : Int) : bgBad (emS c base gain kept st) [] p sg 0 = 0 ∧ bgTo (emS c base gain kept st) [] p sg [] = [] := by
  have k := (nwBad_ok h).1
  have kc : chBad c = 0 := k.c
  have kg : leafBad c gain = 0 := k.ga
  have kb : isCur base = true := k.b
  have u1 : upTo (p : Int) 120 = true := by simp [upTo]; omega
  have u2 : ∀ en : Int, 1 ≤ en → en ≤ 12 → (upTo en 12 && upTo (p : Int) 120) = true := fun en h1 h2 => by rw [u1]; simp [upTo]; omega
  unfold bgBad bgTo
  by_cases g1 : sg = 1
  · rw [if_pos g1, if_pos g1]
    refine ⟨eachBad_zero (fun en h1 h2 => ?_) 12 (Nat.le_refl _), eachTo_nil (fun en => rfl) 12⟩
    show plBad c [] en p = 0
    unfold plBad
    have : pnsBad c [] = 0 := k.pn
    rw [this, if_neg (by simp), u2 en h1 h2, if_neg (by simp)]
  rw [if_neg g1, if_neg g1]
  by_cases g2 : sg = 2
  · rw [if_pos g2, if_pos g2]
    refine ⟨eachBad_zero (fun en h1 h2 => ?_) 12 (Nat.le_refl _), eachTo_nil (fun en => rfl) 12⟩
    show alBad c [] [] en p = 0
    unfold alBad
    have : psBad c [] = 0 := k.po
    rw [this, if_neg (by simp), show chk [] = 0 from rfl, if_neg (by simp), u2 en h1 h2, if_neg (by simp)]
    rfl
  rw [if_neg g2, if_neg g2]
  by_cases g3 : sg = 3
  · rw [if_pos g3, if_pos g3]
    refine ⟨eachBad_zero (fun en h1 h2 => ?_) 12 (Nat.le_refl _), eachTo_nil (fun en => ceRvTo_nil _ _ _ en p c _) 12⟩
    show rvBad (tabS []) c base gain [] en p = 0
    have hask : askBad (tabS []) base [] en p = 0 := by
      unfold askBad
      rw [show chk [] = 0 from rfl, if_neg (by simp), show (tabS []).1 = 0 from rfl, if_neg (by simp), kb, if_neg (by simp), u2 en h1 h2, if_neg (by simp)]
    have hw : wRvBad (tabS []) base [] en p = 0 := by
      unfold wRvBad
      rw [hask, if_neg (by simp)]
      rfl
    unfold rvBad
    rw [kc, if_neg (by simp), hw, if_neg (by simp), kg, if_neg (by simp), if_neg (by simp)]
    have : ∀ n, firstTo (fun i => acBad (wV (tabS []) base en p) base gain [] en (c.getD i ac0)) n = 0 := fun n => by
      induction n with
      | zero => rfl
      | succ n ih =>
        rw [firstTo_next ih]
        show acBad _ base gain [] en (c.getD n ac0) = 0
        unfold acBad
        split
        · rfl
        · rw [show acErr (wV (tabS []) base en p) base [] en (c.getD n ac0) = 0 from rfl, if_neg (by simp)]
          rfl
    exact this _
  rw [if_neg g3, if_neg g3]
  by_cases g4 : sg = 4
  · rw [if_pos g4, if_pos g4]
    refine ⟨?_, rfl⟩
    show peBad c [] [] base p = 0
    unfold peBad
    have e1 : prsBad c [] = 0 := k.pr
    have e2 : lfE [] [] base = 0 := lfE_ok.2 ⟨by simp, chk_zero.1 rfl, kb⟩
    rw [e1, if_neg (by simp), e2, if_neg (by simp), u1, if_neg (by simp)]
    rfl
  rw [if_neg g4, if_neg g4]
  by_cases g6 : sg = 6
  · rw [if_pos g6, if_pos g6]; exact ⟨rfl, rfl⟩
  · rw [if_neg g6, if_neg g6]; exact ⟨rfl, rfl⟩
theorem oeR_nil {p : Int} {R : List Bl} (h : OeR (ldUpTo p) [] R) : R = [] := by
  have h1 := h.sums
  have h2 : Sums (flatB (ldUpTo p) []) [] := ⟨List.Pairwise.nil, by simp, fun k => rfl⟩
  exact h1.uniq h2 (fun _ => rfl)
theorem em_fact : nwBad jC [] ⟨#[69, 85, 82]⟩ ⟨#[52, 48]⟩ ⟨#[51, 48]⟩ = 0 := by kernel_rfl
end Go.Proofs.YteiidlapekocoaaGreatDoor

namespace Go.Proofs.YteiidlapekocoaaGreatDoor
set_option linter.unusedVariables false
set_option linter.unusedSimpArgs false
set_option maxRecDepth 100000
open Go.RowKit Go.Lib

theorem ce_pair (W : World) (x0 x1 : ByteArray) (x2 : Int) (y0 y1 : ByteArray) (y2 : Int) (b : Nat) (hb : b = W.heap.size) :
    IsLn (W.alloc (.cells #[.string x0, .string x1, .int .i64 x2, .string y0, .string y1, .int .i64 y2] 74)) (some ⟨b, 0, none⟩) [⟨x0, x1, x2⟩, ⟨y0, y1, y2⟩] 2 := by
  subst hb
  have h := World.alloc_heap_new W (.cells #[.string x0, .string x1, .int .i64 x2, .string y0, .string y1, .int .i64 y2] 74)
  generalize W.alloc (.cells #[.string x0, .string x1, .int .i64 x2, .string y0, .string y1, .int .i64 y2] 74) = V at *
  generalize W.heap.size = b at *
  refine ⟨Nat.le_refl _, .inr ⟨b, 0, rfl, (Array.getElem?_eq_some_iff.1 h).1, fun k hk => ?_⟩⟩
  rcases (by simp at hk; omega : k = 0 ∨ k = 1) with rfl | rfl
  · exact ⟨by simp [World.cell?, h], by simp [World.cell?, h], by simp [World.cell?, h]⟩
  · exact ⟨by simp [World.cell?, h], by simp [World.cell?, h], by simp [World.cell?, h]⟩

theorem ce_two (ref : ByteArray) (en pe : Int) (tf fr : ByteArray) (n : Int) (w : World) (hn : IntKind.i64.wrap (-n) = -n) :
    Calls Tryz.prog 8 #[.string ref, .int .i64 en, .int .i64 pe, .string tf, .string fr, .int .i64 n] w fun e w' => ∃ a cap, e = .returned (.agg #[.string ref, .int .i64 en, .int .i64 pe, .slice a 2 cap]) ∧ IsLn w' a [⟨tf, ⟨#[69, 85, 82]⟩, n⟩, ⟨fr, ⟨#[69, 85, 82]⟩, -n⟩] cap ∧ Below w.heap.size w w' := by
  go_enter Tryz.func8, Tryz.ntmps8
  go_wp2
  have d0 : ((w.alloc (.cells #[.string ref, .int .i64 en, .int .i64 pe, .slice (some ⟨w.heap.size + 1, 0, none⟩) 2 2] 34)).alloc (.cells #[.string tf, .string ⟨#[69, 85, 82]⟩, .int .i64 n, .string fr, .string ⟨#[69, 85, 82]⟩, .int .i64 (-n)] 74)).heap[w.heap.size]? = some (.cells #[.string ref, .int .i64 en, .int .i64 pe, .slice (some ⟨w.heap.size + 1, 0, none⟩) 2 2] 34 (0, 0)) := ((World.grownBy_alloc _ _ none).block w.heap.size (by simp) (by simp)).trans (World.alloc_heap_new w _)
  have b4 : Box4 _ _ _ _ _ _ := d0
  have q0 := b4.c0
  have q1 := b4.c1
  have q2 := b4.c2
  have q3 := b4.c3
  exact bodyPost_ret (v := .agg #[.string ref, .int .i64 en, .int .i64 pe, .slice (some ⟨w.heap.size + 1, 0, none⟩) 2 2]) (by simp [results, Tryz.results8, go_sem, q0, q1, q2, q3]) rfl ⟨_, _, rfl, ce_pair _ _ _ _ _ _ _ _ (by simp), ((Below.refl _ w).alloc (Nat.le_refl _) _).alloc (by simp) _⟩
section
variable {W : World} {n0 m0 B : Nat} {P : Cp} {S : Cs}
def psE (c : List Ac) (r : ByteArray) (en pe : Int) (l : List Ln) : Int := if entBad c r en pe l ≠ 0 then entBad c r en pe l else 7
set_option maxHeartbeats 4000000 in
theorem post_state (h : ClAt W n0 m0 B P S) (r : ByteArray) (en pe : Int) (a : Option Addr) (cap : Nat) (l : List Ln) (hl : IsLn W a l cap) (hs : sgOf S.st pe < 5) (hbg : begunB S pe = true) :
    Calls Tryz.prog 10 #[.pointer (some ⟨B, 0, none⟩), .agg #[.string r, .int .i64 en, .int .i64 pe, .slice a l.length cap]] W fun e w' => e = .returned (.tuple #[.int .i64 0, .iface 48 (.int .i64 (psE S.c r en pe l))]) ∧ Below W.heap.size W w' := by
  obtain ⟨w2, hw2⟩ : ∃ w2, W.alloc (.cells #[.string r, .int .i64 en, .int .i64 pe, .slice a l.length cap] 34) = w2 := ⟨_, rfl⟩
  have B2 : Below W.heap.size W w2 := by rw [← hw2]; exact (Below.refl _ W).alloc (Nat.le_refl _) _
  have x2 : Box4 w2 W.heap.size r en pe (.slice a l.length cap) := by rw [← hw2]; exact Box4.new W r en pe (.slice a l.length cap)
  have hs2e : W.heap.size < w2.heap.size := by rw [← hw2]; simp
  have HW2 : Hid (W.alloc (.cells #[.string r, .int .i64 en, .int .i64 pe, .slice a l.length cap] 34) = w2) := hw2
  have HBU : Hid (Below w2.heap.size w2 w2.drew) := (Below.refl _ w2).drew
  have HC : Hid (∀ U, Below w2.heap.size w2 U → Calls Tryz.prog 9 #[.slice P.ca S.c.length P.cc, .agg #[.string r, .int .i64 en, .int .i64 pe, .slice a l.length cap]] U fun e w' => e = .returned (enE (entBad S.c r en pe l)) ∧ Below w2.heap.size w2 w') := fun U hU => by
    have bU := B2.trans (hU.mono B2.size)
    refine (check_any P.ca P.cc S.c r en pe a cap l U (h.below bU).dat.ch (hl.below bU)).mono ?_
    rintro e w' ⟨rfl, hb⟩
    exact ⟨rfl, hU.trans (hb.mono hU.size)⟩
  have HJ : Hid (∀ U, Below w2.heap.size w2 U → ClAt U n0 m0 B P S ∧ Box4 U W.heap.size r en pe (.slice a l.length cap) ∧ Below W.heap.size W U) := fun U hU => by
    have bU := B2.trans (hU.mono B2.size)
    exact ⟨h.below bU, x2.below hU hs2e, bU⟩
  have k0 : w2.drew.cell? ⟨B, 0, none⟩ = some (.slice P.ca S.c.length P.cc) := (HJ.out _ HBU.out).1.cell 0
  obtain ⟨d0, d1, d2, d3⟩ : w2.drew.cell? ⟨W.heap.size, 0, none⟩ = some (.string r) ∧ w2.drew.cell? ⟨W.heap.size, 1, none⟩ = some (.int .i64 en) ∧ w2.drew.cell? ⟨W.heap.size, 2, none⟩ = some (.int .i64 pe) ∧ w2.drew.cell? ⟨W.heap.size, 3, none⟩ = some (.slice a l.length cap) := ⟨(HJ.out _ HBU.out).2.1.c0, (HJ.out _ HBU.out).2.1.c1, (HJ.out _ HBU.out).2.1.c2, (HJ.out _ HBU.out).2.1.c3⟩
  obtain ⟨ps, hps⟩ : ∃ ps, psE S.c r en pe l = ps := ⟨_, rfl⟩
  have HPs : Hid ((if entBad S.c r en pe l ≠ 0 then entBad S.c r en pe l else 7) = ps) := hps
  rw [hps]
  have Hs : Hid (sgOf S.st pe < 5 ∧ begunB S pe = true) := ⟨hs, hbg⟩
  clear h hl hw2 B2 x2 hps hs hbg
  generalize entBad S.c r en pe l = eb at *
  go_enter Tryz.func10, Tryz.ntmps10
  go_upto_region 1 with fail
  rw [HW2.out]
  clear HW2
  refine wp_region_drawn (by kernel_rfl) ?_
  generalize w2.drew = U at *
  refine wpAny_take (i := 0) (v := .pointer (some ⟨B, 0, none⟩)) rfl (by kernel_rfl) (by kernel_rfl) (by kernel_rfl) (fun _ _ _ h => h) (Or.inl ⟨by rfl, fun w => by go_simp⟩) ?_
  simp only [Act.put, List.getElem_toArray, List.getElem_cons_succ, List.getElem_cons_zero, List.setIfInBounds_toArray, List.set_cons_zero, List.set_cons_succ]
  refine wpAny_take (i := 1) (v := .pointer (some ⟨B, 0, none⟩)) rfl (by kernel_rfl) (by kernel_rfl) (by kernel_rfl) (fun _ _ _ h => h) (Or.inl ⟨by rfl, fun w => by go_simp⟩) ?_
  simp only [Act.put, List.getElem_toArray, List.getElem_cons_succ, List.getElem_cons_zero, List.setIfInBounds_toArray, List.set_cons_zero, List.set_cons_succ]
  refine wpAny_take (i := 2) (v := .pointer (some ⟨B, 0, none⟩)) rfl (by kernel_rfl) (by kernel_rfl) (by kernel_rfl) (fun _ _ _ h => h) (Or.inl ⟨by rfl, fun w => by go_simp⟩) ?_
  simp only [Act.put, List.getElem_toArray, List.getElem_cons_succ, List.getElem_cons_zero, List.setIfInBounds_toArray, List.set_cons_zero, List.set_cons_succ]
  refine any_of_L (g := 5) (T := fun u => u = U) _ _ _ _ ?_
  refine L_take (i := 3) (v := .slice P.ca S.c.length P.cc) rfl rfl (by kernel_rfl) (by decide) (by kernel_rfl) (by kernel_rfl) (by kernel_rfl) (by kernel_rfl) (fun _ _ _ h => h) (Or.inl ⟨by rfl, fun w' hw' => by rw [hw']; clear hw'; go_simp⟩) rfl ?_
  simp only [Act.put, List.getElem_toArray, List.getElem_cons_succ, List.getElem_cons_zero, List.setIfInBounds_toArray, List.set_cons_zero, List.set_cons_succ]
  refine L_take (i := 4) (v := .agg #[.string r, .int .i64 en, .int .i64 pe, .slice a l.length cap]) rfl rfl (by kernel_rfl) (by decide) (by kernel_rfl) (by kernel_rfl) (by kernel_rfl) (by kernel_rfl) (fun _ _ _ h => h) (Or.inl ⟨by rfl, fun w' hw' => by rw [hw']; clear hw'; go_simp⟩) rfl ?_
  simp only [Act.put, List.getElem_toArray, List.getElem_cons_succ, List.getElem_cons_zero, List.setIfInBounds_toArray, List.set_cons_zero, List.set_cons_succ]
  refine L_go (by kernel_rfl) (by kernel_rfl) ?_
  refine wpOp_step rfl ?_
  intro K hK
  rw [if_pos (by rfl)]
  have hK' : Shut (∀ a w, _ → K a w) := hK
  clear hK
  go_wp2_with fail
  refine (HC.out U HBU.out).mono ?_
  rintro e w3 ⟨rfl, hb3⟩
  have HB3 : Hid (Below w2.heap.size w2 w3) := hb3
  refine hK'.out _ _ ?_
  clear hK' K
  clear HC HBU hb3 k0 d0 d1 d2 d3
  try simp only [Act.put, List.getElem_toArray, List.getElem_cons_succ, List.getElem_cons_zero, List.setIfInBounds_toArray, List.set_cons_zero, List.set_cons_succ]
  refine wpAny_take (i := 6) (v := enE eb) rfl (by kernel_rfl) (by kernel_rfl) (by kernel_rfl) (fun _ _ _ h => h) (Or.inl ⟨by rfl, fun w => by go_simp⟩) ?_
  simp only [Act.put, List.getElem_toArray, List.getElem_cons_succ, List.getElem_cons_zero, List.setIfInBounds_toArray, List.set_cons_zero, List.set_cons_succ]
  refine wpAny_done (by kernel_rfl) ?_ _
  obtain ⟨j3, x3, b3⟩ := HJ.out w3 HB3.out
  by_cases c1 : eb ≠ 0
  · have er : eb = ps := by rw [← HPs.out, if_pos c1]
    subst er
    have HE : Hid (Below W.heap.size W w3) := b3
    rw [enE_ne c1]
    clear HJ HPs Hs j3 x3 b3 HB3
    go_wp2
    go_ret2
    exact ⟨rfl, HE.out⟩
  have c1' := Decidable.of_not_not c1
  have er : ps = 7 := by rw [← HPs.out, if_neg c1]
  subst er
  rw [c1', enE_zero]
  have y2 := x3.c2
  have HSt : Hid (Calls _ _ _ _ _) := stage_any j3 pe
  have HBg : Hid (Calls Tryz.prog 30 #[.pointer (some ⟨B, 0, none⟩), .int .i64 pe] w3 fun e w' => e = .returned (.bool true) ∧ Below W.heap.size W w') := by
    refine (begunBehind_any j3 pe).mono ?_
    rintro e w' ⟨rfl, hb⟩
    exact ⟨by rw [Hs.out.2], b3.trans (hb.mono b3.size)⟩
  have i1 : ¬ (5 : Int) ≤ sgOf S.st pe := by have := Hs.out.1; omega
  have i2 : sgOf S.st pe < 5 := Hs.out.1
  generalize sgOf S.st pe = sg at *
  clear HJ HPs Hs j3 x3 b3 HB3 c1 c1'
  go_wp2_with fail
  refine HSt.out.mono ?_
  rintro e w' ⟨rfl, hw⟩
  rw [hw]; clear hw w' HSt
  go_wp2_with fail
  refine HBg.out.mono ?_
  rintro e w4 ⟨rfl, hb4⟩
  have HE : Hid (Below W.heap.size W w4) := hb4
  clear hb4 HBg y2
  go_wp2
  go_ret2
  exact ⟨rfl, HE.out⟩
set_option maxHeartbeats 4000000 in
theorem entries_none (h : ClAt W n0 m0 B P S) (hes : S.es = []) :
    Calls Tryz.prog 12 #[.pointer (some ⟨B, 0, none⟩)] W fun e w' => ∃ a c, e = .returned (.slice a 0 c) ∧ Below W.heap.size W w' := by
  have k8 : W.cell? ⟨B, 8, none⟩ = some (.slice P.ea 0 P.ec) := by have := h.cell 8; rw [clCells, hes] at this; exact this
  have HC : Hid (Calls _ _ _ _ _) := clone_Je P.ea 0 P.ec [] W rfl (by simp) (fun h => absurd rfl h) (by omega)
  clear h hes
  go_enter Tryz.func12, Tryz.ntmps12
  go_wp2_with fail
  refine HC.out.mono ?_
  rintro e w1 ⟨a1, c1, rfl, _, hb1⟩
  have HB : Hid (Below W.heap.size W w1) := hb1
  clear HC hb1 k8
  go_wp2
  go_loopw [13] (fun i wr => i = .int .i64 0 ∧ wr = w1) (fun _ _ => 0)
  case atStart => exact ⟨rfl, rfl⟩
  case round =>
    obtain ⟨rfl, rfl⟩ := hrel
    go_wp2
    go_ret
    exact ⟨_, _, rfl, HB.out⟩
theorem adv_em {c : List Ac} {base gain kept : ByteArray} {p i : Nat} (h : ClAt W n0 m0 B P (emS c base gain kept (stN (p : Int) i))) (hn : nwBad c [] base gain kept = 0) (hp : 1 ≤ p ∧ p ≤ 120) (hi : i < 6) (hT : ∀ U, Below n0 W U → TabW U) :
    Calls Tryz.prog 6 #[.pointer (some ⟨B, 0, none⟩), .int .i64 (p : Int)] W fun e w' => e = .returned (.tuple #[.int .i64 0, .nilIface]) ∧ ∃ P', Hid (ClAt w' n0 m0 B P' (emS c base gain kept (stN (p : Int) (i + 1))) ∧ Below n0 W w') := by
  have u1 : upTo (p : Int) 120 = true := by simp [upTo]; omega
  have ok := em_ok hn u1 (i := i) (by omega)
  refine (advance_any h ok (EntK.all ok) hT p (fun _ => 0) (fun _ => []) (by simp) (fun ab R cab U hU hR hO => ?_)).mono ?_
  · have e : R = [] := oeR_nil hO
    subst e
    exact clearedNone (h.below hU) ok ab cab p
  · rintro e w' (⟨h1, _⟩ | ⟨_, R, hR, h2⟩)
    · exact absurd (em_pre p i hp hi) h1
    · have e : R = [] := oeR_nil hR
      subst e
      obtain ⟨b1, b2⟩ := em_bg hn p hp (stN (p : Int) i) (sgOf (emS c base gain kept (stN (p : Int) i)).st p + 1)
      have hav : avErr (emS c base gain kept (stN (p : Int) i)) p [] 0 [] = 0 := by
        unfold avErr
        rw [b1, if_neg (by simp), b2]
        rfl
      rcases h2 with ⟨h3, _⟩ | ⟨_, rfl, es, ea, ec, k1, k2, k3, k4⟩
      · exact absurd hav h3
      · rw [b2] at k2 ⊢
        have e0 : es = [] := by
          have := congrArg List.length k2
          rw [List.length_map] at this
          exact List.eq_nil_of_length_eq_zero this
        subst e0
        refine ⟨rfl, { P with ea := ea, ec := ec }, ?_, ?_⟩
        · have : (sgPut (emS c base gain kept (stN (p : Int) i)).st p (sgOf (emS c base gain kept (stN (p : Int) i)).st p + 1)) = stN (p : Int) (i + 1) := stN_next p i
          rw [this] at k1
          exact k1
        · refine k3.below (by have := h.hB; have := h.m0; omega) fun b hb => ?_
          rcases hb with hb | hb | hb | hb
          · rw [hb]; exact h.hB.1
          · rw [hb]; exact h.hm.1
          · rw [hb]; exact h.hs.1
          · have := h.row.own b hb.symm; have := h.hB; omega
end
end Go.Proofs.YteiidlapekocoaaGreatDoor
