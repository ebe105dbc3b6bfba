/-
  ledger's map of amounts in memory; the contract of its add.
-/
import Derived.Test.YtcamimjjmcdbcaaLd2
import Derived.DeepKeys4
import Derived.WideKeyEntry
import Derived.Maps.RangeRun
namespace Go.Proofs.Ytcamimjjmcdbcaa
set_option linter.unusedVariables false
set_option linter.unusedSimpArgs false
set_option maxRecDepth 100000
open Go.RowKit Go.Lib
theorem pl_laidOut : laidOutB Try.prog = true := by kernel_rfl
theorem pl_row : (55 : TypeId) < Try.prog.types.size := of_decide_eq_true (by kernel_rfl)
theorem pl_wide : (match Try.prog.underlying 55 with | some (.array _ _) | some (.struct _) => true | _ => false) = true := by kernel_rfl
theorem pl_law : WideMaps.KeyLaw Try.prog 55 := deep_law_laid pl_laidOut (m := 3) (by omega) pl_row (by kernel_rfl) pl_wide
theorem pl_type : Try.prog.keyType 55 = true := by kernel_rfl
theorem pl_cells : Try.prog.cellsOf 55 = 3 := by kernel_rfl
theorem pl_str : Try.prog.cellsOf 9 = 1 := by kernel_rfl
theorem pl_int : Try.prog.cellsOf 3 = 1 := by kernel_rfl
theorem pl_types : Try.prog.types.size = 112 := by kernel_rfl
/-- A key's value. -/
def plV (k : Pk) : Value := .agg #[.int .i64 k.1, .string k.2.1, .string k.2.2]
structure PkOk (k : Pk) : Prop where
  ent : -9223372036854775808 ≤ k.1 ∧ k.1 ≤ 9223372036854775807
  acc : k.2.1.size ≤ maxLen
  cur : k.2.2.size ≤ maxLen
theorem keyOf_pl {k : Pk} (h : PkOk k) : ∃ kl, keyOf Try.prog 55 (plV k) = some kl := by
  obtain ⟨f, t, p⟩ := k
  have hp : (Lit.int .i64 f).wf = true := WalkArith.wf_i64 h.ent
  have k1 : ∀ d (s : ByteArray), s.size ≤ maxLen → Try.prog.keyLits (d + 1) 9 [.string s] = some [.string s.data.toList] := fun d s hs => by
    simp [Program.keyLits, Try.underlying9, hs]
  have k2 : ∀ d, Try.prog.keyLits (d + 1) 3 [.int .i64 f] = some [.int .i64 f] := fun d => by
    simp [Program.keyLits, Try.underlying3, hp]
  have k3 : ∀ d, Try.prog.keyLits (d + 1 + 1) 55 [.int .i64 f, .string t, .string p] = some [.int .i64 f, .string t.data.toList, .string p.data.toList] := fun d => by
    unfold Program.keyLits
    simp [Try.underlying55, pl_cells, pl_str, pl_int, k1 d t h.acc, k1 d p h.cur, k2 d]
  have k4 : Try.prog.types.size + 1 = Try.prog.types.size - 1 + 1 + 1 := by rw [pl_types]
  unfold keyOf
  rw [Try.underlying55]
  simp only [pl_type, Value.formed, Try.underlying55, plV, pl_cells, Value.cells]
  rw [k4, k3]
  exact ⟨_, rfl⟩
theorem plV_inj {k q : Pk} (h : plV k = plV q) : k = q := by
  obtain ⟨a, b, c⟩ := k
  obtain ⟨d, e, f⟩ := q
  simpa [plV] using h

/-- The entries: places, each with its amounts' slice, in the order in which they came. -/
def ents (ps : List Pt) (vs : Nat → Value) : List MapEntry := (List.range ps.length).map fun i => ⟨plV ((ps.map Pt.key).getD i (0, ByteArray.empty, ByteArray.empty)), vs i, i⟩
theorem ents_length (ps : List Pt) (vs : Nat → Value) : (ents ps vs).length = ps.length := by simp [ents]
theorem ents_get (ps : List Pt) (vs : Nat → Value) (i : Nat) (h : i < ps.length) : (ents ps vs)[i]? = some ⟨plV (ps[i]).key, vs i, i⟩ := by
  simp only [ents, List.getElem?_map, List.getElem?_range h, Option.map_some]
  rw [List.getD_eq_getElem?_getD, List.getElem?_map, List.getElem?_eq_getElem h]
  rfl
theorem ents_mem {ps : List Pt} {vs : Nat → Value} {e : MapEntry} (h : e ∈ ents ps vs) : ∃ i, ∃ hi : i < ps.length, e = ⟨plV (ps[i]).key, vs i, i⟩ := by
  obtain ⟨i, hi, e1⟩ := List.getElem_of_mem h
  rw [ents_length] at hi
  have := ents_get ps vs i hi
  rw [List.getElem?_eq_getElem (by rw [ents_length]; exact hi)] at this
  exact ⟨i, hi, by rw [← e1]; exact Option.some.inj this⟩
theorem ents_born (ps : List Pt) (vs : Nat → Value) : (ents ps vs).map (·.born) = List.range ps.length := by
  simp [ents, Function.comp_def]
/-- An entry's slice is set. -/
theorem ents_set (ps : List Pt) (vs : Nat → Value) (j : Nat) (hj : j < ps.length) (zs : List Int) (v : Value) : (ents ps vs).modify j (fun e => { e with val := v }) = ents (ps.set j ⟨(ps[j]).key, zs⟩) (fun i => if i = j then v else vs i) := by
  apply List.ext_getElem?
  intro i
  rw [List.getElem?_modify]
  by_cases hi : i < ps.length
  · rw [ents_get ps vs i hi, ents_get _ _ i (by simpa using hi), List.getElem_set]
    by_cases e : j = i
    · subst e; simp
    · have e2 : ¬ i = j := fun h => e h.symm
      simp [e, e2]
  · rw [List.getElem?_eq_none (by rw [ents_length]; omega), List.getElem?_eq_none (by rw [ents_length]; simp; omega)]
    rfl
theorem ents_push (ps : List Pt) (vs : Nat → Value) (p : Pt) : ents ps vs ++ [⟨plV p.key, vs ps.length, ps.length⟩] = ents (ps ++ [p]) vs := by
  apply List.ext_getElem?
  intro i
  by_cases hi : i < ps.length
  · rw [List.getElem?_append_left (by rw [ents_length]; exact hi), ents_get ps vs i hi, ents_get _ _ i (by simp; omega), List.getElem_append_left hi]
  · by_cases e : i = ps.length
    · subst e
      rw [List.getElem?_append_right (by rw [ents_length]; exact Nat.le_refl _), ents_length, ents_get _ _ _ (by simp), List.getElem_append_right (Nat.le_refl _)]
      simp
    · rw [List.getElem?_eq_none (by simp [ents_length]; omega), List.getElem?_eq_none (by rw [ents_length]; simp; omega)]

/-- The map of amounts. -/
structure PMp (W : World) (n mb : Nat) (ps : List Pt) (vs : Nat → Value) : Prop where
  map : W.heap[mb]? = some (.map (ents ps vs).toArray ps.length)
  mbn : n ≤ mb
  keys : ∀ p ∈ ps, PkOk p.key
  nodup : (ps.map Pt.key).Nodup
  rows : ∀ i (hi : i < ps.length), W.ownsRow n 3 1 (vs i) (ps[i]).zs.length ((ps[i]).zs.map (Value.int .i64))
  apart : ∀ i j, i < ps.length → j < ps.length → i ≠ j → ∀ g, (vs i).ownBlock = some g → (vs j).ownBlock ≠ some g
  i64 : ∀ p ∈ ps, ∀ z ∈ p.zs, -9223372036854775808 ≤ z ∧ z ≤ 9223372036854775807
theorem PMp.below {W U : World} {n mb : Nat} {ps : List Pt} {vs : Nat → Value} (h : PMp W n mb ps vs) (hb : Below W.heap.size W U) : PMp U n mb ps vs :=
  ⟨(hb.block mb (Array.getElem?_eq_some_iff.1 h.map).1).trans h.map, h.mbn, h.keys, h.nodup, fun i hi => by
    rcases (h.rows i hi).2 with ⟨hv, hn⟩ | ⟨g1, c1, cur, hv, hb1, hh, r⟩
    · exact ⟨(h.rows i hi).1, .inl ⟨hv, hn⟩⟩
    · exact ⟨(h.rows i hi).1, .inr ⟨g1, c1, cur, hv, hb1, (hb.block g1 (Array.getElem?_eq_some_iff.1 hh).1).trans hh, r⟩⟩, h.apart, h.i64⟩
theorem addP_none (x : Bl) : ∀ ps : List Pt, x.key ∉ ps.map Pt.key → addP ps x = ps ++ [⟨x.key, [x.amt]⟩]
  | [], _ => rfl
  | p :: ps, h => by
    simp only [List.map_cons, List.mem_cons, not_or] at h
    rw [addP, if_neg (fun e => h.1 e.symm), addP_none x ps h.2]
    rfl
theorem addP_some (x : Bl) : ∀ (ps : List Pt) (j : Nat) (hj : j < ps.length), (ps.map Pt.key).Nodup → (ps[j]).key = x.key → addP ps x = ps.set j ⟨(ps[j]).key, (ps[j]).zs ++ [x.amt]⟩
  | p :: ps, 0, _, _, e => by
    rw [addP, if_pos (by simpa using e)]
    rfl
  | p :: ps, j + 1, hj, hn, e => by
    simp only [List.map_cons, List.nodup_cons] at hn
    have hj' : j < ps.length := by simpa using hj
    have e' : (ps[j]).key = x.key := by simpa using e
    rw [addP, if_neg (fun h => hn.1 (by rw [h, ← e']; exact List.mem_map.2 ⟨_, List.getElem_mem hj', rfl⟩)), addP_some x ps j hj' hn.2 e']
    rfl
theorem pt_under : Try.prog.underlying 40 = some (.map 55 56) := Try.underlying40
theorem pt_zero (w : World) : (zeroValue 56).run Try.prog w = .ok (.slice none 0 0) w := by kernel_rfl
theorem setBlock_same {W : World} {b : Nat} {o : Obj} (h : W.heap[b]? = some o) : ChangeMaps.setBlock W b o = W := by
  unfold ChangeMaps.setBlock
  have : W.heap.setIfInBounds b o = W.heap := by
    apply Array.ext_getElem?
    intro i
    rw [Array.getElem?_setIfInBounds]
    by_cases e : b = i
    · subst e
      rw [if_pos rfl, if_pos (Array.getElem?_eq_some_iff.1 h).1, h]
    · rw [if_neg e]
  rw [this]
theorem setBlock_at {W : World} {b : Nat} (h : b < W.heap.size) (o : Obj) : (ChangeMaps.setBlock W b o).heap[b]? = some o := by
  simp [ChangeMaps.setBlock, h]
theorem setBlock_ne {W : World} {b i : Nat} (h : b ≠ i) (o : Obj) : (ChangeMaps.setBlock W b o).heap[i]? = W.heap[i]? := by
  simp [ChangeMaps.setBlock, Array.getElem?_setIfInBounds_ne h]
theorem setBlock_below {W : World} {b n : Nat} (hn : n ≤ b) (o : Obj) : Below n W (ChangeMaps.setBlock W b o) :=
  ⟨rfl, rfl, rfl, by simp [ChangeMaps.setBlock], fun i hi => setBlock_ne (by omega) o⟩
/-- A place that is there, or one more. -/
theorem run_entry {W : World} {n mb : Nat} {ps : List Pt} {vs : Nat → Value} (h : PMp W n mb ps vs) {k : Pk} (hk : PkOk k) :
    ∃ (ps1 : List Pt) (vs1 : Nat → Value) (j : Nat) (hj : j < ps1.length) (W1 : World), (Instr.mapEntry 40 (.map (some mb)) (plV k)).run Try.prog W = .ok (.tuple #[vs1 j, goInt j]) W1 ∧
      PMp W1 n mb ps1 vs1 ∧ (ps1[j]).key = k ∧ Below n W W1 ∧ W1.heap.size = W.heap.size ∧ (∀ i, i ≠ mb → W1.heap[i]? = W.heap[i]?) ∧ ps1.length ≤ ps.length + 1 ∧ (∀ p ∈ ps1, p ∈ ps ∨ p.zs = []) ∧
      ∀ x : Bl, x.key = k → addP ps x = ps1.set j ⟨(ps1[j]).key, (ps1[j]).zs ++ [x.amt]⟩ := by
  obtain ⟨kl, hkl⟩ := keyOf_pl hk
  have hlt : mb < W.heap.size := (Array.getElem?_eq_some_iff.1 h.map).1
  have hke : ∀ e ∈ (ents ps vs), ∃ l, keyOf Try.prog 55 e.key = some l := fun e he => by
    obtain ⟨i, hi, rfl⟩ := ents_mem he
    exact keyOf_pl (h.keys _ (List.getElem_mem hi))
  rcases pl_law.find W hkl (ents ps vs) hke with ⟨h1, h2⟩ | ⟨j, e0, h1, h2, h3⟩
  · have hno : k ∉ ps.map Pt.key := fun hm => by
      obtain ⟨p, hp, e⟩ := List.mem_map.1 hm
      obtain ⟨i, hi, e2⟩ := List.getElem_of_mem hp
      have := ents_get ps vs i hi
      refine h2 _ (List.mem_of_getElem? this) ?_
      show plV (ps[i]).key = plV k
      rw [e2, e]
    have hrun : (Instr.mapEntry 40 (.map (some mb)) (plV k)).run Try.prog W = .ok (.tuple #[.slice none 0 0, goInt ps.length]) (ChangeMaps.setBlock W mb (.map ((ents ps vs).toArray.push ⟨plV k, .slice none 0 0, ps.length⟩) (ps.length + 1))) := by
      simp [Instr.mapEntry, run_underlying pt_under, MapKept.run_getObj_map h.map, pl_law.check W false hkl, h1, pt_zero, MapKept.run_setObj_map _ h.map, Result.andThen, ChangeMaps.setBlock]
    refine ⟨ps ++ [⟨k, []⟩], fun i => if i = ps.length then .slice none 0 0 else vs i, ps.length, by simp, _, by simpa using hrun, ⟨?_, h.mbn, ?_, ?_, ?_, ?_, ?_⟩, by simp, setBlock_below h.mbn _, by simp [ChangeMaps.setBlock], fun i hi => setBlock_ne (fun e => hi e.symm) _, by simp, ?_, ?_⟩
    · rw [setBlock_at hlt]
      congr 2
      · rw [← ents_push]
        simp only [if_true]
        have e : ents ps (fun i => if i = ps.length then Value.slice none 0 0 else vs i) = ents ps vs := by
          unfold ents
          refine List.map_congr_left (fun i hi => ?_)
          have : i ≠ ps.length := by have := List.mem_range.1 hi; omega
          simp only [if_neg this]
        rw [e]
        try simp
      · simp
    · intro p hp
      rcases List.mem_append.1 hp with hp | hp
      · exact h.keys p hp
      · rw [List.mem_singleton.1 hp]; exact hk
    · rw [List.map_append, List.nodup_append]
      refine ⟨h.nodup, by simp, fun a ha b hb e => ?_⟩
      simp only [List.map_cons, List.map_nil, List.mem_singleton] at hb
      exact hno (by rw [← hb, ← e]; exact ha)
    · intro i hi
      by_cases e : i = ps.length
      · subst e
        simp only [if_true, List.getElem_append_right (Nat.le_refl _), Nat.sub_self, List.getElem_cons_zero, List.length_nil, List.map_nil]
        exact World.ownsRow_nil _ _ _ _
      · have hi' : i < ps.length := by simp at hi; omega
        rw [if_neg e]
        simp only [List.getElem_append_left hi']
        have hr := h.rows i hi'
        rcases hr.2 with ⟨hv, hn⟩ | ⟨g1, c1, cur, hv, hb1, hh, r⟩
        · exact ⟨hr.1, .inl ⟨hv, hn⟩⟩
        · exact ⟨hr.1, .inr ⟨g1, c1, cur, hv, hb1, (setBlock_ne (fun e => by rw [← e, h.map] at hh; cases hh) _).trans hh, r⟩⟩
    · intro i j hi hj hij g hg
      by_cases e : i = ps.length
      · rw [if_pos e] at hg; cases hg
      · rw [if_neg e] at hg
        by_cases e2 : j = ps.length
        · rw [if_pos e2]; exact fun h => by cases h
        · rw [if_neg e2]
          exact h.apart i j (by simp at hi; omega) (by simp at hj; omega) hij g hg
    · intro p hp
      rcases List.mem_append.1 hp with hp | hp
      · exact h.i64 p hp
      · rw [List.mem_singleton.1 hp]; intro z hz; simp at hz
    · intro p hp
      rcases List.mem_append.1 hp with hp | hp
      · exact .inl hp
      · exact .inr (by rw [List.mem_singleton.1 hp])
    · intro x hx
      rw [addP_none x ps (by rw [hx]; exact hno)]
      simp [hx]
  · have hj : j < ps.length := by have := (List.getElem?_eq_some_iff.1 h2).1; rw [ents_length] at this; exact this
    have he0 : e0 = ⟨plV (ps[j]).key, vs j, j⟩ := by rw [ents_get ps vs j hj] at h2; exact (Option.some.inj h2).symm
    have hkj : (ps[j]).key = k := plV_inj (by rw [he0] at h3; exact h3)
    have hj' : (ents ps vs).toArray[j]? = some e0 := by simpa using h2
    have hsame : (ents ps vs).toArray.modify j (fun e => { e with key := plV k }) = (ents ps vs).toArray := by
      apply Array.ext'
      rw [Array.toList_modify]
      apply List.ext_getElem?
      intro i
      rw [List.getElem?_modify]
      by_cases e : j = i
      · subst e
        rw [h2]
        simp only [if_true, he0]
        rw [hkj]
        rfl
      · simp [e]
    have hrun : (Instr.mapEntry 40 (.map (some mb)) (plV k)).run Try.prog W = .ok (.tuple #[vs j, goInt j]) W := by
      have h0 : (Instr.mapEntry 40 (.map (some mb)) (plV k)).run Try.prog W = .ok (.tuple #[vs j, goInt j]) (ChangeMaps.setBlock W mb (.map (ents ps vs).toArray ps.length)) := by
        have hst := pl_law.stays W hkl
        have hjl : (ents ps vs)[j]? = some e0 := h2
        have hso := MapKept.run_setObj_map (P := Try.prog) (.map (ents ps vs).toArray ps.length) h.map
        have hsl : (ents ps vs).modify j (fun e => { e with key := plV k }) = ents ps vs := by
          have := congrArg Array.toList hsame
          rw [Array.toList_modify] at this
          simpa using this
        simp [Instr.mapEntry, run_underlying pt_under, MapKept.run_getObj_map h.map, pl_law.check W false hkl, h1, hjl, h3, hst, hsl, hso, Result.andThen, ChangeMaps.setBlock]
        rw [he0]
        simp
      rw [setBlock_same h.map] at h0
      exact h0
    exact ⟨ps, vs, j, hj, W, hrun, h, hkj, Below.refl _ _, rfl, fun _ _ => rfl, Nat.le_succ _, fun p hp => .inl hp, fun x hx => addP_some x ps j hj h.nodup (by rw [hkj, hx])⟩
end Go.Proofs.Ytcamimjjmcdbcaa
