/-
  Appends of balances; the contracts of dayref2's Full and Put.
-/
import Derived.Test.YtmlooibihjfahaaGreatDoorZt14
import Derived.Test.YtmlooibihjfahaaGreatDoorZt13
import Derived.DeepKeys4
import Derived.WideKeyEntry
import Derived.Maps.RangeRun
import Derived.Laws.AppendOwnNone
import Derived.Laws.OwnMore
namespace Go.Proofs.YtmlooibihjfahaaGreatDoor
set_option linter.unusedVariables false
set_option linter.unusedSimpArgs false
set_option maxRecDepth 100000
open Go.RowKit Go.Lib

set_option maxHeartbeats 1000000 in
theorem lmAhead_any (x y : Bl) (w : World) :
    Calls Tryz.prog 16 #[.agg x.cells, .agg y.cells] w fun e w' => e = .returned (.bool (decide (cmpB x y < 0))) ∧ Below w.heap.size w w' := by
  obtain ⟨x0, x1, x2, x3⟩ := x
  obtain ⟨y0, y1, y2, y3⟩ := y
  simp only [Bl.cells, cmpB]
  have bl : Below w.heap.size w ((w.alloc (.cells #[.int .i64 x0, .string x1, .string x2, .int .i64 x3] 36)).alloc (.cells #[.int .i64 y0, .string y1, .string y2, .int .i64 y3] 36)) := ((Below.refl _ w).alloc (Nat.le_refl _) _).alloc (by simp) _
  by_cases h0 : x0 = y0
  · subst h0
    have e0 : cmpI x0 x0 = 0 := by simp [cmpI]
    rw [e0, if_neg (by simp)]
    by_cases h1 : x1 = y1
    · subst h1
      rw [if_neg (by simp [ldCmpS_eq.2 rfl])]
      have er : decide (cmpS x2 y2 < 0) = Op.bytesLess x2.toList y2.toList := by rw [Bool.eq_iff_iff, decide_eq_true_eq, cmpS_neg]
      rw [er]
      clear er e0
      go_enter Tryz.func16, Tryz.ntmps16
      go_wp2
      go_ret
      exact ⟨rfl, bl⟩
    · have hc : cmpS x1 y1 ≠ 0 := fun h => h1 (ldCmpS_eq.1 h)
      rw [if_pos hc]
      have er : decide (cmpS x1 y1 < 0) = Op.bytesLess x1.toList y1.toList := by rw [Bool.eq_iff_iff, decide_eq_true_eq, cmpS_neg]
      rw [er]
      have h1' : ¬ x1.toList = y1.toList := fun e => h1 (toList_inj e)
      have h1b := en_ne h1
      clear er e0 hc h1
      go_enter Tryz.func16, Tryz.ntmps16
      go_wp2
      go_ret
      exact ⟨rfl, bl⟩
  · have hc : cmpI x0 y0 ≠ 0 := by unfold cmpI; split <;> (try split) <;> omega
    rw [if_pos hc]
    have er : decide (cmpI x0 y0 < 0) = decide (x0 < y0) := by
      unfold cmpI
      by_cases h : x0 < y0
      · simp [h]
      · rw [if_neg h]; simp [h]; split <;> omega
    rw [er]
    have h0' : (x0 != y0) = true := by simp [h0]
    clear er hc
    go_enter Tryz.func16, Tryz.ntmps16
    go_wp2
    go_ret
    exact ⟨rfl, bl⟩

end Go.Proofs.YtmlooibihjfahaaGreatDoor

namespace Go.Proofs.YtmlooibihjfahaaGreatDoor
set_option linter.unusedVariables false
set_option linter.unusedSimpArgs false
set_option maxRecDepth 100000
open Go.RowKit Go.Lib
theorem pl_laidOut : laidOutB Tryz.prog = true := by kernel_rfl
theorem pl_row : (77 : TypeId) < Tryz.prog.types.size := of_decide_eq_true (by kernel_rfl)
theorem pl_wide : (match Tryz.prog.underlying 77 with | some (.array _ _) | some (.struct _) => true | _ => false) = true := by kernel_rfl
theorem pl_law : WideMaps.KeyLaw Tryz.prog 77 := deep_law_laid pl_laidOut (m := 3) (by omega) pl_row (by kernel_rfl) pl_wide
theorem pl_type : Tryz.prog.keyType 77 = true := by kernel_rfl
theorem pl_cells : Tryz.prog.cellsOf 77 = 3 := by kernel_rfl
theorem pl_types : Tryz.prog.types.size = 174 := by kernel_rfl
/-- A key's value. -/
def plV (k : Pk) : Value := .agg #[.int .i64 k.1, .string k.2.1, .string k.2.2]
theorem keyOf_pl {k : Pk} (h : PkOk k) : ∃ kl, keyOf Tryz.prog 77 (plV k) = some kl := by
  obtain ⟨f, t, p⟩ := k
  have hp : (Lit.int .i64 f).wf = true := WalkArith.wf_i64 h.ent
  have k1 : ∀ d (s : ByteArray), s.size ≤ maxLen → Tryz.prog.keyLits (d + 1) 9 [.string s] = some [.string s.data.toList] := fun d s hs => by
    simp [Program.keyLits, Tryz.underlying9, hs]
  have k2 : ∀ d, Tryz.prog.keyLits (d + 1) 3 [.int .i64 f] = some [.int .i64 f] := fun d => by
    simp [Program.keyLits, Tryz.underlying3, hp]
  have k3 : ∀ d, Tryz.prog.keyLits (d + 1 + 1) 77 [.int .i64 f, .string t, .string p] = some [.int .i64 f, .string t.data.toList, .string p.data.toList] := fun d => by
    unfold Program.keyLits
    simp [Tryz.underlying77, pl_cells, ldP_str, ldP_int, k1 d t h.acc, k1 d p h.cur, k2 d]
  have k4 : Tryz.prog.types.size + 1 = Tryz.prog.types.size - 1 + 1 + 1 := by rw [pl_types]
  unfold keyOf
  rw [Tryz.underlying77]
  simp only [pl_type, Value.formed, Tryz.underlying77, plV, pl_cells, Value.cells]
  rw [k4, k3]
  exact ⟨_, rfl⟩
theorem plV_inj {k q : Pk} (h : plV k = plV q) : k = q := by
  obtain ⟨a, b, c⟩ := k
  obtain ⟨d, e, f⟩ := q
  simpa [plV] using h

/-- The entries: places, each with its amounts' slice, in the order in which they came. -/
def ents (ps : List Pt) (vs : Nat → Value) : List MapEntry := (List.range ps.length).map fun i => ⟨plV ((ps.map Pt.key).getD i (0, ByteArray.empty, ByteArray.empty)), vs i, i⟩
theorem ents_length (ps : List Pt) (vs : Nat → Value) : (ents ps vs).length = ps.length := by simp [ents]
theorem ents_get (ps : List Pt) (vs : Nat → Value) (i : Nat) (h : i < ps.length) : (ents ps vs)[i]? = some ⟨plV (ps[i]).key, vs i, i⟩ := by
  simp only [ents, List.getElem?_map, List.getElem?_range h, Option.map_some]
  rw [List.getD_eq_getElem?_getD, List.getElem?_map, List.getElem?_eq_getElem h]
  rfl
theorem ents_mem {ps : List Pt} {vs : Nat → Value} {e : MapEntry} (h : e ∈ ents ps vs) : ∃ i, ∃ hi : i < ps.length, e = ⟨plV (ps[i]).key, vs i, i⟩ := by
  obtain ⟨i, hi, e1⟩ := List.getElem_of_mem h
  rw [ents_length] at hi
  have := ents_get ps vs i hi
  rw [List.getElem?_eq_getElem (by rw [ents_length]; exact hi)] at this
  exact ⟨i, hi, by rw [← e1]; exact Option.some.inj this⟩
theorem ents_born (ps : List Pt) (vs : Nat → Value) : (ents ps vs).map (·.born) = List.range ps.length := by
  simp [ents, Function.comp_def]
/-- An entry's slice is set. -/
theorem ents_set (ps : List Pt) (vs : Nat → Value) (j : Nat) (hj : j < ps.length) (zs : List Int) (v : Value) : (ents ps vs).modify j (fun e => { e with val := v }) = ents (ps.set j ⟨(ps[j]).key, zs⟩) (fun i => if i = j then v else vs i) := by
  apply List.ext_getElem?
  intro i
  rw [List.getElem?_modify]
  by_cases hi : i < ps.length
  · rw [ents_get ps vs i hi, ents_get _ _ i (by simpa using hi), List.getElem_set]
    by_cases e : j = i
    · subst e; simp
    · have e2 : ¬ i = j := fun h => e h.symm
      simp [e, e2]
  · rw [List.getElem?_eq_none (by rw [ents_length]; omega), List.getElem?_eq_none (by rw [ents_length]; simp; omega)]
    rfl
theorem ents_push (ps : List Pt) (vs : Nat → Value) (p : Pt) : ents ps vs ++ [⟨plV p.key, vs ps.length, ps.length⟩] = ents (ps ++ [p]) vs := by
  apply List.ext_getElem?
  intro i
  by_cases hi : i < ps.length
  · rw [List.getElem?_append_left (by rw [ents_length]; exact hi), ents_get ps vs i hi, ents_get _ _ i (by simp; omega), List.getElem_append_left hi]
  · by_cases e : i = ps.length
    · subst e
      rw [List.getElem?_append_right (by rw [ents_length]; exact Nat.le_refl _), ents_length, ents_get _ _ _ (by simp), List.getElem_append_right (Nat.le_refl _)]
      simp
    · rw [List.getElem?_eq_none (by simp [ents_length]; omega), List.getElem?_eq_none (by rw [ents_length]; simp; omega)]

/-- The map of amounts. -/
structure PMp (W : World) (n mb : Nat) (ps : List Pt) (vs : Nat → Value) : Prop where
  map : W.heap[mb]? = some (.map (ents ps vs).toArray ps.length)
  mbn : n ≤ mb
  keys : ∀ p ∈ ps, PkOk p.key
  nodup : (ps.map Pt.key).Nodup
  rows : ∀ i (hi : i < ps.length), W.ownsRow n 3 1 (vs i) (ps[i]).zs.length ((ps[i]).zs.map (Value.int .i64))
  apart : ∀ i j, i < ps.length → j < ps.length → i ≠ j → ∀ g, (vs i).ownBlock = some g → (vs j).ownBlock ≠ some g
  i64 : ∀ p ∈ ps, ∀ z ∈ p.zs, -9223372036854775808 ≤ z ∧ z ≤ 9223372036854775807
theorem PMp.below {W U : World} {n mb : Nat} {ps : List Pt} {vs : Nat → Value} (h : PMp W n mb ps vs) (hb : Below W.heap.size W U) : PMp U n mb ps vs :=
  ⟨(hb.block mb (Array.getElem?_eq_some_iff.1 h.map).1).trans h.map, h.mbn, h.keys, h.nodup, fun i hi => by
    rcases (h.rows i hi).2 with ⟨hv, hn⟩ | ⟨g1, c1, cur, hv, hb1, hh, r⟩
    · exact ⟨(h.rows i hi).1, .inl ⟨hv, hn⟩⟩
    · exact ⟨(h.rows i hi).1, .inr ⟨g1, c1, cur, hv, hb1, (hb.block g1 (Array.getElem?_eq_some_iff.1 hh).1).trans hh, r⟩⟩, h.apart, h.i64⟩
theorem addP_none (x : Bl) : ∀ ps : List Pt, x.key ∉ ps.map Pt.key → addP ps x = ps ++ [⟨x.key, [x.amt]⟩]
  | [], _ => rfl
  | p :: ps, h => by
    simp only [List.map_cons, List.mem_cons, not_or] at h
    rw [addP, if_neg (fun e => h.1 e.symm), addP_none x ps h.2]
    rfl
theorem addP_some (x : Bl) : ∀ (ps : List Pt) (j : Nat) (hj : j < ps.length), (ps.map Pt.key).Nodup → (ps[j]).key = x.key → addP ps x = ps.set j ⟨(ps[j]).key, (ps[j]).zs ++ [x.amt]⟩
  | p :: ps, 0, _, _, e => by
    rw [addP, if_pos (by simpa using e)]
    rfl
  | p :: ps, j + 1, hj, hn, e => by
    simp only [List.map_cons, List.nodup_cons] at hn
    have hj' : j < ps.length := by simpa using hj
    have e' : (ps[j]).key = x.key := by simpa using e
    rw [addP, if_neg (fun h => hn.1 (by rw [h, ← e']; exact List.mem_map.2 ⟨_, List.getElem_mem hj', rfl⟩)), addP_some x ps j hj' hn.2 e']
    rfl
theorem pt_under : Tryz.prog.underlying 59 = some (.map 77 26) := Tryz.underlying59
theorem pt_zero (w : World) : (zeroValue 26).run Tryz.prog w = .ok (.slice none 0 0) w := by kernel_rfl
theorem setBlock_same {W : World} {b : Nat} {o : Obj} (h : W.heap[b]? = some o) : ChangeMaps.setBlock W b o = W := by
  unfold ChangeMaps.setBlock
  have : W.heap.setIfInBounds b o = W.heap := by
    apply Array.ext_getElem?
    intro i
    rw [Array.getElem?_setIfInBounds]
    by_cases e : b = i
    · subst e
      rw [if_pos rfl, if_pos (Array.getElem?_eq_some_iff.1 h).1, h]
    · rw [if_neg e]
  rw [this]
theorem setBlock_at {W : World} {b : Nat} (h : b < W.heap.size) (o : Obj) : (ChangeMaps.setBlock W b o).heap[b]? = some o := by
  simp [ChangeMaps.setBlock, h]
theorem setBlock_ne {W : World} {b i : Nat} (h : b ≠ i) (o : Obj) : (ChangeMaps.setBlock W b o).heap[i]? = W.heap[i]? := by
  simp [ChangeMaps.setBlock, Array.getElem?_setIfInBounds_ne h]
theorem setBlock_below {W : World} {b n : Nat} (hn : n ≤ b) (o : Obj) : Below n W (ChangeMaps.setBlock W b o) :=
  ⟨rfl, rfl, rfl, by simp [ChangeMaps.setBlock], fun i hi => setBlock_ne (by omega) o⟩
/-- A place that is there, or one more. -/
theorem run_entry {W : World} {n mb : Nat} {ps : List Pt} {vs : Nat → Value} (h : PMp W n mb ps vs) {k : Pk} (hk : PkOk k) :
    ∃ (ps1 : List Pt) (vs1 : Nat → Value) (j : Nat) (hj : j < ps1.length) (W1 : World), (Instr.mapEntry 59 (.map (some mb)) (plV k)).run Tryz.prog W = .ok (.tuple #[vs1 j, goInt j]) W1 ∧
      PMp W1 n mb ps1 vs1 ∧ (ps1[j]).key = k ∧ Below n W W1 ∧ W1.heap.size = W.heap.size ∧ (∀ i, i ≠ mb → W1.heap[i]? = W.heap[i]?) ∧ ps1.length ≤ ps.length + 1 ∧ (∀ p ∈ ps1, p ∈ ps ∨ p.zs = []) ∧
      ∀ x : Bl, x.key = k → addP ps x = ps1.set j ⟨(ps1[j]).key, (ps1[j]).zs ++ [x.amt]⟩ := by
  obtain ⟨kl, hkl⟩ := keyOf_pl hk
  have hlt : mb < W.heap.size := (Array.getElem?_eq_some_iff.1 h.map).1
  have hke : ∀ e ∈ (ents ps vs), ∃ l, keyOf Tryz.prog 77 e.key = some l := fun e he => by
    obtain ⟨i, hi, rfl⟩ := ents_mem he
    exact keyOf_pl (h.keys _ (List.getElem_mem hi))
  rcases pl_law.find W hkl (ents ps vs) hke with ⟨h1, h2⟩ | ⟨j, e0, h1, h2, h3⟩
  · have hno : k ∉ ps.map Pt.key := fun hm => by
      obtain ⟨p, hp, e⟩ := List.mem_map.1 hm
      obtain ⟨i, hi, e2⟩ := List.getElem_of_mem hp
      have := ents_get ps vs i hi
      refine h2 _ (List.mem_of_getElem? this) ?_
      show plV (ps[i]).key = plV k
      rw [e2, e]
    have hrun : (Instr.mapEntry 59 (.map (some mb)) (plV k)).run Tryz.prog W = .ok (.tuple #[.slice none 0 0, goInt ps.length]) (ChangeMaps.setBlock W mb (.map ((ents ps vs).toArray.push ⟨plV k, .slice none 0 0, ps.length⟩) (ps.length + 1))) := by
      simp [Instr.mapEntry, run_underlying pt_under, MapKept.run_getObj_map h.map, pl_law.check W false hkl, h1, pt_zero, MapKept.run_setObj_map _ h.map, Result.andThen, ChangeMaps.setBlock]
    refine ⟨ps ++ [⟨k, []⟩], fun i => if i = ps.length then .slice none 0 0 else vs i, ps.length, by simp, _, by simpa using hrun, ⟨?_, h.mbn, ?_, ?_, ?_, ?_, ?_⟩, by simp, setBlock_below h.mbn _, by simp [ChangeMaps.setBlock], fun i hi => setBlock_ne (fun e => hi e.symm) _, by simp, ?_, ?_⟩
    · rw [setBlock_at hlt]
      congr 2
      · rw [← ents_push]
        simp only [if_true]
        have e : ents ps (fun i => if i = ps.length then Value.slice none 0 0 else vs i) = ents ps vs := by
          unfold ents
          refine List.map_congr_left (fun i hi => ?_)
          have : i ≠ ps.length := by have := List.mem_range.1 hi; omega
          simp only [if_neg this]
        rw [e]
        try simp
      · simp
    · intro p hp
      rcases List.mem_append.1 hp with hp | hp
      · exact h.keys p hp
      · rw [List.mem_singleton.1 hp]; exact hk
    · rw [List.map_append, List.nodup_append]
      refine ⟨h.nodup, by simp, fun a ha b hb e => ?_⟩
      simp only [List.map_cons, List.map_nil, List.mem_singleton] at hb
      exact hno (by rw [← hb, ← e]; exact ha)
    · intro i hi
      by_cases e : i = ps.length
      · subst e
        simp only [if_true, List.getElem_append_right (Nat.le_refl _), Nat.sub_self, List.getElem_cons_zero, List.length_nil, List.map_nil]
        exact World.ownsRow_nil _ _ _ _
      · have hi' : i < ps.length := by simp at hi; omega
        rw [if_neg e]
        simp only [List.getElem_append_left hi']
        have hr := h.rows i hi'
        rcases hr.2 with ⟨hv, hn⟩ | ⟨g1, c1, cur, hv, hb1, hh, r⟩
        · exact ⟨hr.1, .inl ⟨hv, hn⟩⟩
        · exact ⟨hr.1, .inr ⟨g1, c1, cur, hv, hb1, (setBlock_ne (fun e => by rw [← e, h.map] at hh; cases hh) _).trans hh, r⟩⟩
    · intro i j hi hj hij g hg
      by_cases e : i = ps.length
      · rw [if_pos e] at hg; cases hg
      · rw [if_neg e] at hg
        by_cases e2 : j = ps.length
        · rw [if_pos e2]; exact fun h => by cases h
        · rw [if_neg e2]
          exact h.apart i j (by simp at hi; omega) (by simp at hj; omega) hij g hg
    · intro p hp
      rcases List.mem_append.1 hp with hp | hp
      · exact h.i64 p hp
      · rw [List.mem_singleton.1 hp]; intro z hz; simp at hz
    · intro p hp
      rcases List.mem_append.1 hp with hp | hp
      · exact .inl hp
      · exact .inr (by rw [List.mem_singleton.1 hp])
    · intro x hx
      rw [addP_none x ps (by rw [hx]; exact hno)]
      simp [hx]
  · have hj : j < ps.length := by have := (List.getElem?_eq_some_iff.1 h2).1; rw [ents_length] at this; exact this
    have he0 : e0 = ⟨plV (ps[j]).key, vs j, j⟩ := by rw [ents_get ps vs j hj] at h2; exact (Option.some.inj h2).symm
    have hkj : (ps[j]).key = k := plV_inj (by rw [he0] at h3; exact h3)
    have hj' : (ents ps vs).toArray[j]? = some e0 := by simpa using h2
    have hsame : (ents ps vs).toArray.modify j (fun e => { e with key := plV k }) = (ents ps vs).toArray := by
      apply Array.ext'
      rw [Array.toList_modify]
      apply List.ext_getElem?
      intro i
      rw [List.getElem?_modify]
      by_cases e : j = i
      · subst e
        rw [h2]
        simp only [if_true, he0]
        rw [hkj]
        rfl
      · simp [e]
    have hrun : (Instr.mapEntry 59 (.map (some mb)) (plV k)).run Tryz.prog W = .ok (.tuple #[vs j, goInt j]) W := by
      have h0 : (Instr.mapEntry 59 (.map (some mb)) (plV k)).run Tryz.prog W = .ok (.tuple #[vs j, goInt j]) (ChangeMaps.setBlock W mb (.map (ents ps vs).toArray ps.length)) := by
        have hst := pl_law.stays W hkl
        have hjl : (ents ps vs)[j]? = some e0 := h2
        have hso := MapKept.run_setObj_map (P := Tryz.prog) (.map (ents ps vs).toArray ps.length) h.map
        have hsl : (ents ps vs).modify j (fun e => { e with key := plV k }) = ents ps vs := by
          have := congrArg Array.toList hsame
          rw [Array.toList_modify] at this
          simpa using this
        simp [Instr.mapEntry, run_underlying pt_under, MapKept.run_getObj_map h.map, pl_law.check W false hkl, h1, hjl, h3, hst, hsl, hso, Result.andThen, ChangeMaps.setBlock]
        rw [he0]
        simp
      rw [setBlock_same h.map] at h0
      exact h0
    exact ⟨ps, vs, j, hj, W, hrun, h, hkj, Below.refl _ _, rfl, fun _ _ => rfl, Nat.le_succ _, fun p hp => .inl hp, fun x hx => addP_some x ps j hj h.nodup (by rw [hkj, hx])⟩
end Go.Proofs.YtmlooibihjfahaaGreatDoor

namespace Go.Proofs.YtmlooibihjfahaaGreatDoor
set_option linter.unusedVariables false
set_option linter.unusedSimpArgs false
set_option maxRecDepth 100000
open Go.RowKit Go.Lib
theorem pt_info : (Tryz.prog.info? 3).map (fun i => (i.zero, i.size, i.bytes)) = some (some (.int .i64 0), 1, 8) := by kernel_rfl
theorem ld_new_heap (W : World) (o : Obj) : (W.alloc o).heap[W.heap.size]? = some o := by unfold World.alloc; simp only [Array.getElem?_push_size]
theorem row_block {W : World} {n : Nat} {t : TypeId} {s : Nat} {v : Value} {m : Nat} {xs : List Value} (h : W.ownsRow n t s v m xs) {g : Nat} (e : v.ownBlock = some g) : n ≤ g ∧ g < W.heap.size ∧ ∃ cs, W.heap[g]? = some (.cells cs t (0, 0)) := by
  rcases h.2 with ⟨rfl, _⟩ | ⟨g1, c1, cur, rfl, hb1, hh, _⟩
  · cases e
  · cases e
    exact ⟨hb1, (Array.getElem?_eq_some_iff.1 hh).1, _, hh⟩
theorem row_keep {W U : World} {n : Nat} {t : TypeId} {s : Nat} {v : Value} {m : Nat} {xs : List Value} (h : W.ownsRow n t s v m xs) (hk : ∀ g, v.ownBlock = some g → U.heap[g]? = W.heap[g]?) : U.ownsRow n t s v m xs := by
  rcases h.2 with ⟨hv, hn⟩ | ⟨g1, c1, cur, hv, hb1, hh, r⟩
  · exact ⟨h.1, .inl ⟨hv, hn⟩⟩
  · exact ⟨h.1, .inr ⟨g1, c1, cur, hv, hb1, (hk g1 (by rw [hv]; rfl)).trans hh, r⟩⟩
/-- What an add leaves as it was: all but the map, and rows of amounts. -/
structure AKeep (n mb : Nat) (V W : World) : Prop where
  os : W.os = V.os
  tape : W.tape = V.tape
  output : W.output = V.output
  size : V.heap.size ≤ W.heap.size
  block : ∀ b, b < V.heap.size → b ≠ mb → (b < n ∨ ∀ cs : Array Value, V.heap[b]? ≠ some (Obj.cells cs 3 (0, 0))) → W.heap[b]? = V.heap[b]?
theorem AKeep.refl (n mb : Nat) (V : World) : AKeep n mb V V := ⟨rfl, rfl, rfl, Nat.le_refl _, fun _ _ _ _ => rfl⟩
theorem AKeep.trans {n mb : Nat} {U V W : World} (h : AKeep n mb U V) (k : AKeep n mb V W) : AKeep n mb U W :=
  ⟨k.os.trans h.os, k.tape.trans h.tape, k.output.trans h.output, Nat.le_trans h.size k.size, fun b hb hne hc => by
    have e := h.block b hb hne hc
    exact (k.block b (Nat.lt_of_lt_of_le hb h.size) hne (hc.imp id (fun h2 cs => by rw [e]; exact h2 cs))).trans e⟩
theorem AKeep.of_below {n mb : Nat} {V W : World} (h : Below V.heap.size V W) : AKeep n mb V W := ⟨h.os, h.tape, h.output, h.size, fun b hb _ _ => h.block b hb⟩
theorem AKeep.below {n mb : Nat} {V W : World} (h : AKeep n mb V W) (hm : n ≤ mb) (hn : n ≤ V.heap.size) : Below n V W := ⟨h.os, h.tape, h.output, h.size, fun b hb => h.block b (by omega) (by omega) (.inl hb)⟩
/-- An entry's slice is put into the map. -/
theorem run_estore {W U : World} {n mb : Nat} {ps : List Pt} {vs : Nat → Value} (h : PMp W n mb ps vs) {j : Nat} (hj : j < ps.length) {v' : Value} {z : Int} (hz : -9223372036854775808 ≤ z ∧ z ≤ 9223372036854775807)
    (ho : U.ownsRow n 3 1 v' ((ps[j]).zs.length + 1) ((ps[j]).zs.map (Value.int .i64) ++ [.int .i64 z])) (hg : W.grownBy U (vs j).ownBlock) (hl : v'.ownBlock = (vs j).ownBlock ∨ v'.ownBlock = some W.heap.size) (hn : n ≤ W.heap.size) :
    ∃ U', (Instr.entryStore 59 (.map (some mb)) (.int .i64 (j : Int)) v').run Tryz.prog U = .ok () U' ∧ PMp U' n mb (ps.set j ⟨(ps[j]).key, (ps[j]).zs ++ [z]⟩) (fun i => if i = j then v' else vs i) ∧ AKeep n mb W U' := by
  have hnb : (vs j).ownBlock ≠ some mb := fun e => by
    obtain ⟨_, _, cs, e2⟩ := row_block (h.rows j hj) e
    rw [h.map] at e2
    cases e2
  have hlt : mb < W.heap.size := (Array.getElem?_eq_some_iff.1 h.map).1
  have hm : U.heap[mb]? = some (.map (ents ps vs).toArray ps.length) := (hg.block mb hlt (fun e => hnb e.symm)).trans h.map
  have hltU : mb < U.heap.size := (Array.getElem?_eq_some_iff.1 hm).1
  have hidx : (ents ps vs).findIdx? (fun e => ((e.born : Nat) : Int) == (j : Int)) = some j :=
    WideElems.findIdx_born (e0 := ⟨plV (ps[j]).key, vs j, j⟩) (by rw [ents_born]; exact List.nodup_range) (ents_get ps vs j hj)
  have hset := ents_set ps vs j hj ((ps[j]).zs ++ [z]) v'
  refine ⟨ChangeMaps.setBlock U mb (.map (ents (ps.set j ⟨(ps[j]).key, (ps[j]).zs ++ [z]⟩) (fun i => if i = j then v' else vs i)).toArray ps.length), ?_, ⟨?_, h.mbn, ?_, ?_, ?_, ?_, ?_⟩, ?_⟩
  · simp [Instr.entryStore, MapKept.run_getObj_map hm, asInt, asIntOf, hidx, MapKept.run_setObj_map _ hm, Result.andThen, ChangeMaps.setBlock, hset]
  · rw [setBlock_at hltU]
    simp
  · intro p hp
    rcases List.mem_or_eq_of_mem_set hp with hp | rfl
    · exact h.keys p hp
    · have := h.keys _ (List.getElem_mem hj)
      exact this
  · rw [List.map_set]
    have : (ps.map Pt.key).set j (ps[j]).key = ps.map Pt.key := by
      have e : (ps[j]).key = (ps.map Pt.key)[j]'(by simpa using hj) := by simp
      rw [e, List.set_getElem_self]
    rw [this]
    exact h.nodup
  · intro i hi
    have hi' : i < ps.length := by simpa using hi
    by_cases e : i = j
    · subst e
      simp only [if_true, List.getElem_set_self, List.length_append, List.map_append, List.length_cons, List.length_nil, List.map_cons, List.map_nil]
      refine row_keep ho (fun g eg => setBlock_ne (fun e2 => ?_) _)
      obtain ⟨_, _, cs, e3⟩ := row_block ho eg
      rw [← e2, hm] at e3
      cases e3
    · have e' : ¬ j = i := fun h => e h.symm
      simp only [if_neg e, List.getElem_set_ne e']
      refine row_keep (h.rows i hi') (fun g eg => ?_)
      obtain ⟨_, g2, cs, e3⟩ := row_block (h.rows i hi') eg
      rw [setBlock_ne (fun e2 => by rw [← e2, h.map] at e3; cases e3) _]
      exact hg.block g g2 (fun e4 => h.apart i j hi' hj e g eg e4.symm)
  · intro a b ha hb hab g eg
    have ha' : a < ps.length := by simpa using ha
    have hb' : b < ps.length := by simpa using hb
    by_cases e : a = j
    · subst e
      have e2 : ¬ b = a := fun h => hab h.symm
      simp only [if_true, if_neg e2] at eg ⊢
      rcases hl with hl | hl
      · rw [hl] at eg
        exact h.apart a b ha' hb' hab g eg
      · rw [hl] at eg
        cases eg
        intro e3
        have := (row_block (h.rows b hb') e3).2.1
        omega
    · simp only [if_neg e] at eg
      by_cases e2 : b = j
      · subst e2
        simp only [if_true]
        rcases hl with hl | hl
        · rw [hl]; exact h.apart a b ha' hb' hab g eg
        · rw [hl]
          intro e3
          cases e3
          have := (row_block (h.rows a ha') eg).2.1
          omega
      · simp only [if_neg e2]
        exact h.apart a b ha' hb' hab g eg
  · intro p hp
    rcases List.mem_or_eq_of_mem_set hp with hp | rfl
    · exact h.i64 p hp
    · intro y hy
      rcases List.mem_append.1 hy with hy | hy
      · exact h.i64 _ (List.getElem_mem hj) y hy
      · rw [List.mem_singleton.1 hy]; exact hz
  · refine ⟨hg.os, hg.tape, hg.output, by simpa [ChangeMaps.setBlock] using hg.size, fun b hb hne hc => ?_⟩
    rw [setBlock_ne (fun e => hne e.symm)]
    refine hg.block b hb (fun e => ?_)
    obtain ⟨g1, _, cs, e2⟩ := row_block (h.rows j hj) e.symm
    rcases hc with hc | hc
    · omega
    · exact hc cs e2

set_option maxHeartbeats 4000000 in
theorem ldAdd_any (x : Bl) (W : World) (n mb : Nat) (ps : List Pt) (vs : Nat → Value) (h : PMp W n mb ps vs) (hk : PkOk x.key) (hz : -9223372036854775808 ≤ x.amt ∧ x.amt ≤ 9223372036854775807) (hl : ∀ p ∈ ps, p.zs.length < 17592186044416) :
    Calls Tryz.prog 17 #[.map (some mb), .agg x.cells] W fun e w' => e = .returned (.tuple #[]) ∧ ∃ vs', Hid (PMp w' n mb (addP ps x) vs' ∧ AKeep n mb W w') := by
  obtain ⟨x0, x1, x2, x3⟩ := x
  have hn : n ≤ W.heap.size := Nat.le_of_lt (Nat.lt_of_le_of_lt h.mbn (Array.getElem?_eq_some_iff.1 h.map).1)
  obtain ⟨V, hV⟩ : ∃ V, (((W.alloc (.cells #[.int .i64 x0, .string x1, .string x2, .int .i64 x3] 36)).alloc (.cells #[.int .i64 x0, .string x1, .string x2] 77)).alloc (.cells #[.int .i64 x3] 3)) = V := ⟨_, rfl⟩
  have hbV : Below W.heap.size W V := by
    rw [← hV]
    exact (((Below.refl _ W).alloc (Nat.le_refl _) _).alloc (by simp) _).alloc (by simp; omega) _
  have hsV : V.heap.size = W.heap.size + 3 := by rw [← hV]; simp
  obtain ⟨ps1, vs1, j, hj, V1, hrun, hP1, hkey, hB1, hsz, hoth, -, hmem, hadd⟩ := run_entry (h.below hbV) hk
  have e1 : V.heap[W.heap.size + 2]? = some (.cells #[.int .i64 x3] 3 (0, 0)) := by
    rw [← hV]
    have := ld_new_heap ((W.alloc (.cells #[.int .i64 x0, .string x1, .string x2, .int .i64 x3] 36)).alloc (.cells #[.int .i64 x0, .string x1, .string x2] 77)) (.cells #[.int .i64 x3] 3)
    simpa using this
  have e2 : V1.heap[W.heap.size + 2]? = some (.cells #[.int .i64 x3] 3 (0, 0)) := (hoth _ (fun e => by
    have := (Array.getElem?_eq_some_iff.1 h.map).1
    omega)).trans e1
  have hnews : ∀ i u, [Value.int .i64 x3][i]? = some u → V1.cell? ((⟨W.heap.size + 2, 0, none⟩ : Addr).add i) = some u := by
    intro i u hi
    rcases i with _ | i
    · simp at hi
      subst hi
      simp [Addr.add, World.cell?, e2]
    · simp at hi
  clear e1 e2
  have hzl : (ps1[j]).zs.length < 17592186044416 := by
    rcases hmem _ (List.getElem_mem hj) with hp | hp
    · exact hl _ hp
    · rw [hp]; simp
  have hown := hP1.rows j hj
  have HE : Hid (∀ v' U, U.ownsRow n 3 1 v' ((ps1[j]).zs.length + 1) ((ps1[j]).zs.map (Value.int .i64) ++ [.int .i64 x3]) → V1.grownBy U (vs1 j).ownBlock → (v'.ownBlock = (vs1 j).ownBlock ∨ v'.ownBlock = some V1.heap.size) →
      ∃ U', (Instr.entryStore 59 (.map (some mb)) (.int .i64 (j : Int)) v').run Tryz.prog U = .ok () U' ∧ ∃ vs', Hid (PMp U' n mb (addP ps ⟨x0, x1, x2, x3⟩) vs' ∧ AKeep n mb W U')) := fun v' U h1 h2 h3 => by
    obtain ⟨U', g1, g2, g3⟩ := run_estore hP1 hj (z := x3) hz h1 h2 h3 (by omega)
    rw [← hadd ⟨x0, x1, x2, x3⟩ rfl] at g2
    exact ⟨U', g1, _, g2, ((AKeep.of_below hbV).trans ⟨hB1.os, hB1.tape, hB1.output, by omega, fun b _ hne _ => hoth b hne⟩).trans g3⟩
  obtain ⟨v, hv⟩ : ∃ v, vs1 j = v := ⟨_, rfl⟩
  obtain ⟨zs, hzs⟩ : ∃ zs, (ps1[j]).zs = zs := ⟨_, rfl⟩
  rw [hv, hzs] at HE hown
  rw [hv] at hrun
  rw [hzs] at hzl
  simp only [plV, Bl.key, goInt] at hrun
  obtain ⟨js, hjs⟩ : ∃ js : Int, (j : Int) = js := ⟨_, rfl⟩
  rw [hjs] at hrun HE
  obtain ⟨i0, hi0, hz0, hz1, hz2⟩ := info_parts pt_info
  have HO : Hid (V1.ownsRow n 3 1 v zs.length (zs.map (Value.int .i64))) := hown
  have HNw : Hid (∀ i u, [Value.int .i64 x3][i]? = some u → V1.cell? ((⟨W.heap.size + 2, 0, none⟩ : Addr).add i) = some u) := hnews
  have HS : Hid (n ≤ V1.heap.size) := by unfold Hid; omega
  have Hm1 : Hid (zs.length + 1 ≤ maxLen) := by unfold Hid maxLen; omega
  have Hm2 : Hid ((zs.length + 1) * 8 ≤ 140737488355328) := by unfold Hid; omega
  have Hs1 : Hid (∀ u ∈ [Value.int .i64 x3], u.oneCell' = true) := by intro u hu; simp at hu; subst hu; rfl
  have HV : Hid (_ = V) := hV
  simp only [Bl.cells]
  clear hP1 hkey hB1 hsz hoth hmem hadd hown hnews h hl hk hz hn hbV hsV hv hzs hjs hj hzl
  subst hV
  go_enter Tryz.func17, Tryz.ntmps17
  go_wp2_with (at_builtin; refine wpList_append_own_at _ rfl _ _ 26 rfl n 3 i0 (.int .i64 0) 1 8 Tryz.underlying26 hi0 hz0 hz1 hz2 rfl (by decide) _ _ _ rfl HO.out ⟨W.heap.size + 2, 0, none⟩ 1 1 [.int .i64 x3] rfl rfl HNw.out Hs1.out Hm1.out Hm2.out HS.out ?_)
  intro v' U h1 h2 _ h3
  obtain ⟨U', g1, g2⟩ := HE.out v' U h1 h2 h3
  have G2 : Hid (∃ vs', Hid (PMp U' n mb (addP ps ⟨x0, x1, x2, x3⟩) vs' ∧ AKeep n mb W U')) := g2
  clear h1 h2 h3 g2 HE hrun
  go_wp2
  go_end0
  exact ⟨rfl, G2.out⟩
end Go.Proofs.YtmlooibihjfahaaGreatDoor

namespace Go.Proofs.YtmlooibihjfahaaGreatDoor
set_option linter.unusedVariables false
set_option linter.unusedSimpArgs false
set_option maxRecDepth 100000
open Go.RowKit Go.Lib

theorem blsAt_cells {w : World} {b off : Nat} {l : List Bl} (h : BlsAt w b off l) : ∀ j u, (blRow l)[j]? = some u → w.cell? ((⟨b, off, none⟩ : Addr).add j) = some u := fun j u hu => by
  obtain ⟨q, r, hr, rfl⟩ : ∃ q r, r < 4 ∧ j = q * 4 + r := ⟨j / 4, j % 4, Nat.mod_lt _ (by omega), by omega⟩
  have hj : q * 4 + r < (blRow l).length := by
    false_or_by_contra
    rename_i hn
    rw [List.getElem?_eq_none (by omega)] at hu
    cases hu
  rw [blRow_length] at hj
  have hq : q < l.length := by omega
  rw [blRow_get l q r hq hr] at hu
  have hc := h q hq
  obtain ⟨c0, c1, c2, c3⟩ := hc
  have ea : (⟨b, off, none⟩ : Addr).add (q * 4 + r) = ⟨b, off + q * 4 + r, none⟩ := by simp [Addr.add, Nat.add_assoc]
  rw [ea]
  rcases (by omega : r = 0 ∨ r = 1 ∨ r = 2 ∨ r = 3) with rfl | rfl | rfl | rfl
  · rw [Nat.add_zero, c0]; exact hu
  · rw [c1]; exact hu
  · rw [c2]; exact hu
  · rw [c3]; exact hu

/-- Some balances behind a row of one's own. -/
theorem run_appBl (ty : TypeId) (base : Nat) (v : Value) (l1 : List Bl) (w : World) (hown : BlRow w base v l1) (a : Option Addr) (l2 : List Bl) (c : Nat) (h : IsBl w a l2 c) (hlen : l1.length + l2.length ≤ 1000) (hbase : base ≤ w.heap.size) :
    ∃ v' w', (Builtin.append_ #[24, 24] ty #[v, .slice a l2.length c]).run Tryz.prog w = .ok v' w' ∧ BlRow w' base v' (l1 ++ l2) ∧ w.grownBy w' v.ownBlock := by
  obtain ⟨i, hi, hz0, hz1, hz2⟩ := info_parts bl_info
  rcases a with _ | ⟨b, off, f⟩
  · have e : l2 = [] := by
      rcases h.lies with h | ⟨b, off, e, _⟩
      · exact h
      · cases e
    subst e
    refine ⟨v, w, ?_, by rw [List.append_nil]; exact hown, ⟨rfl, rfl, rfl, Nat.le_refl _, fun _ _ _ => rfl⟩⟩
    rcases hown.2 with ⟨rfl, hn⟩ | ⟨g, cap, cur, rfl, _, _, hnc, _⟩
    · simp [Builtin.append_, run_underlying Tryz.underlying24, sizeOf, typeInfo, hi, Builtin.lenOf, Builtin.firstCells]
    · simp [Builtin.append_, run_underlying Tryz.underlying24, sizeOf, typeInfo, hi, Builtin.lenOf, Builtin.firstCells, hnc, storeCells]
  · have hn : ∀ j u, (blRow l2)[j]? = some u → w.cell? ((⟨b, off, f⟩ : Addr).add j) = some u := by
      rcases h.lies with h | ⟨b', off', e, _, hc⟩
      · subst h
        intro j u hu
        simp [blRow] at hu
      · cases e
        exact blsAt_cells hc
    obtain ⟨v', w', hr, h2, h3, _⟩ := run_append_own (P := Tryz.prog) w base 24 ty 36 i (.agg #[.int .i64 0, .string ByteArray.empty, .string ByteArray.empty, .int .i64 0]) 4 48 Tryz.underlying24 hi hz0 hz1 hz2 rfl (by decide) v l1.length (blRow l1) hown ⟨b, off, f⟩ l2.length c (blRow l2) (blRow_length l2) hn (blRow_one_cell l2) (by unfold maxLen; omega) (by omega) hbase
    refine ⟨v', w', hr, ?_, h3⟩
    unfold BlRow
    rw [blRow_append, List.length_append]
    exact h2
theorem wpList_appBl {w : World} {ops : Array Oper} {rest : List Oper} {o : Oper} {a : Act} {Q : Exit → Act → World → Prop} (hgd : o.guard = none) (s x : Operand)
    (ho : o.op = .call { callee := .builtin .append, args := #[s, x], argTypes := #[24, 24] })
    (base : Nat) (v : Value) (l1 : List Bl) (hs : a.eval s = v) (hown : BlRow w base v l1) (ad : Option Addr) (m c : Nat) (l2 : List Bl) (hx : a.eval x = .slice ad m c) (hm : l2.length = m) (h : IsBl w ad l2 c) (hlen : l1.length + l2.length ≤ 1000) (hbase : base ≤ w.heap.size)
    (hh : ∀ v' w', BlRow w' base v' (l1 ++ l2) → w.grownBy w' v.ownBlock → wpList Tryz.prog ops Q rest (a.put o.dst v') w') : wpList Tryz.prog ops Q (o :: rest) a w := by
  subst hm
  refine wpList_plain hgd fun K hK => ?_
  obtain ⟨v', w', hr, h2, h3⟩ := run_appBl o.type base v l1 w hown ad l2 c h hlen hbase
  unfold Oper.wp execOp
  simp only [ho, resolve, invoke, builtin, Sem.run_bind, Sem.run_pure, Result.andThen_ok, List.map_toArray, List.map_cons, List.map_nil, hs, hx, hr]
  exact hK _ _ (hh v' w' h2 h3)

/-- A balance of a row that is one's own gets another amount. -/
theorem BlRow.setAmt {W : World} {n0 g cap : Nat} {l : List Bl} (h : BlRow W n0 (.slice (some ⟨g, 0, none⟩) l.length cap) l) (k : Nat) (hk : k < l.length) (a : Int) :
    BlRow (W.setCell ⟨g, k * 4 + 3, none⟩ (.int .i64 a)) n0 (.slice (some ⟨g, 0, none⟩) l.length cap) (l.set k ⟨(l.getD k bl0).ent, (l.getD k bl0).acc, (l.getD k bl0).cur, a⟩) ∧ W.frozen? ⟨g, k * 4 + 3, none⟩ = false := by
  rcases h.2 with ⟨hv, _⟩ | ⟨g1, c1, cur, hv, hb, hg, hc, hm, hs, ht⟩
  · cases hv
  cases hv
  have e1 : blRow (l.set k ⟨(l.getD k bl0).ent, (l.getD k bl0).acc, (l.getD k bl0).cur, a⟩) = (blRow l).set (k * 4 + 3) (.int .i64 a) := by
    apply List.ext_getElem?
    intro j
    obtain ⟨q, r, hr, rfl⟩ : ∃ q r, r < 4 ∧ j = q * 4 + r := ⟨j / 4, j % 4, Nat.mod_lt _ (by omega), by omega⟩
    by_cases hq : q < l.length
    · rw [blRow_get _ q r (by simpa using hq) hr, List.getElem?_set]
      by_cases hqk : q = k
      · subst hqk
        rw [List.getD_eq_getElem?_getD, List.getElem?_set_self hq, Option.getD_some]
        by_cases hr2 : r = 3
        · subst hr2
          rw [if_pos rfl, if_pos (by rw [blRow_length]; omega)]
          rfl
        · rw [if_neg (by omega), blRow_get l q r hq hr]
          rcases (by omega : r = 0 ∨ r = 1 ∨ r = 2) with rfl | rfl | rfl <;> rfl
      · rw [if_neg (by omega), blRow_get l q r hq hr, List.getD_eq_getElem?_getD, List.getElem?_set_ne (fun e => hqk e.symm), ← List.getD_eq_getElem?_getD]
    · rw [List.getElem?_eq_none (by rw [blRow_length, List.length_set]; omega), List.getElem?_eq_none (by rw [List.length_set, blRow_length]; omega)]
  refine ⟨⟨by rw [blRow_length, List.length_set], .inr ⟨g, cap, cur.setIfInBounds (k * 4 + 3) (.int .i64 a), by rw [List.length_set], hb, ?_, by rw [List.length_set]; exact hc, hm, by simpa using hs, ?_⟩⟩, by simp [World.frozen?, hg]⟩
  · rw [setCell_eq_setRow W g (k * 4 + 3) cur 36 (0, 0) _ hg]
    exact setRow_heap W g cur _ 36 (0, 0) hg
  · rw [e1, List.length_set, ← ht, Array.toList_setIfInBounds, List.take_set]

theorem full_take (l : List Bl) (k : Nat) (h : k < l.length) : full (l.take (k + 1)) = if (l.getD k bl0).amt = 0 then full (l.take k) else full (l.take k) ++ [l.getD k bl0] := by
  rw [bls_take l k h]
  generalize l.getD k bl0 = x
  unfold full
  rw [List.filter_append]
  by_cases h0 : x.amt = 0
  · rw [if_pos h0, List.filter_cons, if_neg (by simp [h0])]; simp
  · rw [if_neg h0, List.filter_cons, if_pos (by simp [h0])]; simp
theorem full_length (l : List Bl) : (full l).length ≤ l.length := List.length_filter_le _ _

set_option maxHeartbeats 4000000 in
theorem lmFull_any (a : Option Addr) (cap : Nat) (l : List Bl) (w : World) (hlen : l.length ≤ 400) (h : IsBl w a l cap) :
    Calls Tryz.prog 8 #[.slice a l.length cap] w fun e w' => ∃ v, e = .returned v ∧ Hid (BlRow w' w.heap.size v (full l) ∧ Below w.heap.size w w') := by
  have HL : Hid (IsBl w a l cap) := h
  clear h
  go_enter Tryz.func8, Tryz.ntmps8
  go_wp2
  go_loopw [3, 4] (fun v i wr => ∃ (k : Nat) (va : Option Addr) (vn vc : Nat), k ≤ l.length ∧ i = .int .i64 k ∧ v = .slice va vn vc ∧ Hid (BlRow wr w.heap.size (.slice va vn vc) (full (l.take k)) ∧ Below w.heap.size w wr)) (fun _ i _ => l.length - (RowKit.intOf i).toNat)
  case atStart => exact ⟨0, none, 0, 0, Nat.zero_le _, rfl, rfl, BlRow.nil _ _, Below.refl _ _⟩
  case round =>
    obtain ⟨k, va, vn, vc, hk, rfl, rfl, HR⟩ := hrel
    by_cases hlt : k < l.length
    · obtain ⟨b, off, rfl, hb, hc⟩ := HL.out.some hlt
      have hx := (hc k hlt).below HR.out.2 hb
      have i0 : (0 : Int) ≤ k := by omega
      have i3 : (k : Int) < l.length := by omega
      have hft := full_take l k hlt
      obtain ⟨x, hxx⟩ : ∃ x, l.getD k bl0 = x := ⟨_, rfl⟩
      rw [hxx] at hx hft
      have HFT : Hid (full (l.take (k + 1)) = if x.amt = 0 then full (l.take k) else full (l.take k) ++ [x]) := hft
      have Hfl : Hid ((full (l.take k)).length ≤ 400) := by
        have := full_length (l.take k)
        rw [List.length_take] at this
        unfold Hid
        omega
      clear hft hxx hc
      obtain ⟨x0, x1, x2, x3⟩ := x
      obtain ⟨d0, d1, d2, d3⟩ := hx
      simp only at d0 d1 d2 d3 HFT
      by_cases c0 : x3 = 0
      · have HN : Hid (BlRow wr w.heap.size (.slice va vn vc) (full (l.take (k + 1))) ∧ Below w.heap.size w wr) := by
          unfold Hid
          rw [HFT.out, if_pos c0]
          exact HR.out
        have c0' : (x3 != 0) = false := by simp [c0]
        subst c0
        clear HR
        go_wp2
        go_roundw
        case rel => exact ⟨k + 1, va, vn, vc, by omega, by go_num, rfl, HN⟩
        case measure => simp [RowKit.intOf]; omega
      · have c0' : (x3 != 0) = true := by simp [c0]
        obtain ⟨Z, hZ⟩ : ∃ Z, wr.alloc (.cells #[.int .i64 x0, .string x1, .string x2, .int .i64 x3] 36) = Z := ⟨_, rfl⟩
        have hbZ : Below wr.heap.size wr Z := by rw [← hZ]; exact (Below.refl _ _).alloc (Nat.le_refl _) _
        have HSrc : Hid (IsBl Z (some ⟨wr.heap.size, 0, none⟩) [⟨x0, x1, x2, x3⟩] 1) := by
          refine ⟨Nat.le_refl _, .inr ⟨_, _, rfl, by rw [← hZ]; simp, fun j hj => ?_⟩⟩
          have : j = 0 := by simpa using hj
          subst this
          rw [← hZ]
          exact BlAt.new wr ⟨x0, x1, x2, x3⟩ 36
        have HZr : Hid (BlRow Z w.heap.size (.slice va vn vc) (full (l.take k))) := HR.out.1.below hbZ
        have HNw : Hid (∀ v' U, BlRow U w.heap.size v' (full (l.take k) ++ [⟨x0, x1, x2, x3⟩]) → Z.grownBy U (Value.slice va vn vc).ownBlock → BlRow U w.heap.size v' (full (l.take (k + 1))) ∧ Below w.heap.size w U) := fun v' U ho hg => by
          refine ⟨?_, (HR.out.2.trans (hbZ.mono HR.out.2.size)).grown hg (Nat.le_trans HR.out.2.size hbZ.size) (fun g e => (row_block HZr.out e).1)⟩
          rw [HFT.out, if_neg c0]
          exact ho
        have Hsz : Hid (w.heap.size ≤ Z.heap.size) := Nat.le_trans HR.out.2.size hbZ.size
        have HZ : Hid (wr.alloc (.cells #[.int .i64 x0, .string x1, .string x2, .int .i64 x3] 36) = Z) := hZ
        have Hle : Hid ((full (l.take k)).length + [(⟨x0, x1, x2, x3⟩ : Bl)].length ≤ 1000) := by have := Hfl.out; unfold Hid; simp; omega
        clear hbZ hZ HR HFT
        go_wp2_with (at_builtin; rw [HZ.out]; refine wpList_appBl rfl _ _ rfl w.heap.size _ _ rfl HZr.out _ 1 1 _ rfl rfl HSrc.out Hle.out Hsz.out ?_)
        intro v' U ho hg
        have HG : Hid (BlRow U w.heap.size v' (full (l.take (k + 1))) ∧ Below w.heap.size w U) := HNw.out v' U ho hg
        obtain ⟨a9, c9, e9, -⟩ := HG.out.1.isBl
        subst e9
        clear ho hg HNw HSrc HZr
        go_wp2_with fail
        go_roundw
        case rel => exact ⟨k + 1, _, _, _, by omega, by go_num, rfl, HG⟩
        case measure => simp [RowKit.intOf]; omega
    · obtain rfl : k = l.length := by omega
      have HR2 : Hid (BlRow wr w.heap.size (.slice va vn vc) (full l) ∧ Below w.heap.size w wr) := by
        have := HR.out
        rw [List.take_length] at this
        exact this
      clear HR
      go_wp2
      go_ret
      exact ⟨_, rfl, HR2⟩
end Go.Proofs.YtmlooibihjfahaaGreatDoor
