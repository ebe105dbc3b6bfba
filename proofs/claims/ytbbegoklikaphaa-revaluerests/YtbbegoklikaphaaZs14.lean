/-
  The contract of ledger's together: the sums, in order.
-/
import Derived.Test.YtbbegoklikaphaaZs10
import Derived.Test.YtbbegoklikaphaaZs13
import Derived.DeepKeys4
import Derived.WideKeyEntry
import Derived.Maps.RangeRun
import Derived.Test.YtbbegoklikaphaaShelf
import Derived.Test.YtbbegoklikaphaaZs11
namespace Go.Proofs.Ytbbegoklikaphaa
set_option linter.unusedVariables false
set_option linter.unusedSimpArgs false
set_option maxRecDepth 100000
open Go.RowKit Go.Lib
theorem pl_laidOut : laidOutB Try.prog = true := by kernel_rfl
theorem pl_row : (88 : TypeId) < Try.prog.types.size := of_decide_eq_true (by kernel_rfl)
theorem pl_wide : (match Try.prog.underlying 88 with | some (.array _ _) | some (.struct _) => true | _ => false) = true := by kernel_rfl
theorem pl_law : WideMaps.KeyLaw Try.prog 88 := deep_law_laid pl_laidOut (m := 3) (by omega) pl_row (by kernel_rfl) pl_wide
theorem pl_type : Try.prog.keyType 88 = true := by kernel_rfl
theorem pl_cells : Try.prog.cellsOf 88 = 3 := by kernel_rfl
theorem pl_types : Try.prog.types.size = 167 := by kernel_rfl
/-- A key's value. -/
def plV (k : Pk) : Value := .agg #[.int .i64 k.1, .string k.2.1, .string k.2.2]
theorem keyOf_pl {k : Pk} (h : PkOk k) : ∃ kl, keyOf Try.prog 88 (plV k) = some kl := by
  obtain ⟨f, t, p⟩ := k
  have hp : (Lit.int .i64 f).wf = true := WalkArith.wf_i64 h.ent
  have k1 : ∀ d (s : ByteArray), s.size ≤ maxLen → Try.prog.keyLits (d + 1) 9 [.string s] = some [.string s.data.toList] := fun d s hs => by
    simp [Program.keyLits, Try.underlying9, hs]
  have k2 : ∀ d, Try.prog.keyLits (d + 1) 3 [.int .i64 f] = some [.int .i64 f] := fun d => by
    simp [Program.keyLits, Try.underlying3, hp]
  have k3 : ∀ d, Try.prog.keyLits (d + 1 + 1) 88 [.int .i64 f, .string t, .string p] = some [.int .i64 f, .string t.data.toList, .string p.data.toList] := fun d => by
    unfold Program.keyLits
    simp [Try.underlying88, pl_cells, ldP_str, ldP_int, k1 d t h.acc, k1 d p h.cur, k2 d]
  have k4 : Try.prog.types.size + 1 = Try.prog.types.size - 1 + 1 + 1 := by rw [pl_types]
  unfold keyOf
  rw [Try.underlying88]
  simp only [pl_type, Value.formed, Try.underlying88, plV, pl_cells, Value.cells]
  rw [k4, k3]
  exact ⟨_, rfl⟩
theorem plV_inj {k q : Pk} (h : plV k = plV q) : k = q := by
  obtain ⟨a, b, c⟩ := k
  obtain ⟨d, e, f⟩ := q
  simpa [plV] using h

/-- The entries: places, each with its amounts' slice, in the order in which they came. -/
def ents (ps : List Pt) (vs : Nat → Value) : List MapEntry := (List.range ps.length).map fun i => ⟨plV ((ps.map Pt.key).getD i (0, ByteArray.empty, ByteArray.empty)), vs i, i⟩
theorem ents_length (ps : List Pt) (vs : Nat → Value) : (ents ps vs).length = ps.length := by simp [ents]
theorem ents_get (ps : List Pt) (vs : Nat → Value) (i : Nat) (h : i < ps.length) : (ents ps vs)[i]? = some ⟨plV (ps[i]).key, vs i, i⟩ := by
  simp only [ents, List.getElem?_map, List.getElem?_range h, Option.map_some]
  rw [List.getD_eq_getElem?_getD, List.getElem?_map, List.getElem?_eq_getElem h]
  rfl
theorem ents_mem {ps : List Pt} {vs : Nat → Value} {e : MapEntry} (h : e ∈ ents ps vs) : ∃ i, ∃ hi : i < ps.length, e = ⟨plV (ps[i]).key, vs i, i⟩ := by
  obtain ⟨i, hi, e1⟩ := List.getElem_of_mem h
  rw [ents_length] at hi
  have := ents_get ps vs i hi
  rw [List.getElem?_eq_getElem (by rw [ents_length]; exact hi)] at this
  exact ⟨i, hi, by rw [← e1]; exact Option.some.inj this⟩
theorem ents_born (ps : List Pt) (vs : Nat → Value) : (ents ps vs).map (·.born) = List.range ps.length := by
  simp [ents, Function.comp_def]
/-- An entry's slice is set. -/
theorem ents_set (ps : List Pt) (vs : Nat → Value) (j : Nat) (hj : j < ps.length) (zs : List Int) (v : Value) : (ents ps vs).modify j (fun e => { e with val := v }) = ents (ps.set j ⟨(ps[j]).key, zs⟩) (fun i => if i = j then v else vs i) := by
  apply List.ext_getElem?
  intro i
  rw [List.getElem?_modify]
  by_cases hi : i < ps.length
  · rw [ents_get ps vs i hi, ents_get _ _ i (by simpa using hi), List.getElem_set]
    by_cases e : j = i
    · subst e; simp
    · have e2 : ¬ i = j := fun h => e h.symm
      simp [e, e2]
  · rw [List.getElem?_eq_none (by rw [ents_length]; omega), List.getElem?_eq_none (by rw [ents_length]; simp; omega)]
    rfl
theorem ents_push (ps : List Pt) (vs : Nat → Value) (p : Pt) : ents ps vs ++ [⟨plV p.key, vs ps.length, ps.length⟩] = ents (ps ++ [p]) vs := by
  apply List.ext_getElem?
  intro i
  by_cases hi : i < ps.length
  · rw [List.getElem?_append_left (by rw [ents_length]; exact hi), ents_get ps vs i hi, ents_get _ _ i (by simp; omega), List.getElem_append_left hi]
  · by_cases e : i = ps.length
    · subst e
      rw [List.getElem?_append_right (by rw [ents_length]; exact Nat.le_refl _), ents_length, ents_get _ _ _ (by simp), List.getElem_append_right (Nat.le_refl _)]
      simp
    · rw [List.getElem?_eq_none (by simp [ents_length]; omega), List.getElem?_eq_none (by rw [ents_length]; simp; omega)]

/-- The map of amounts. -/
structure PMp (W : World) (n mb : Nat) (ps : List Pt) (vs : Nat → Value) : Prop where
  map : W.heap[mb]? = some (.map (ents ps vs).toArray ps.length)
  mbn : n ≤ mb
  keys : ∀ p ∈ ps, PkOk p.key
  nodup : (ps.map Pt.key).Nodup
  rows : ∀ i (hi : i < ps.length), W.ownsRow n 3 1 (vs i) (ps[i]).zs.length ((ps[i]).zs.map (Value.int .i64))
  apart : ∀ i j, i < ps.length → j < ps.length → i ≠ j → ∀ g, (vs i).ownBlock = some g → (vs j).ownBlock ≠ some g
  i64 : ∀ p ∈ ps, ∀ z ∈ p.zs, -9223372036854775808 ≤ z ∧ z ≤ 9223372036854775807
theorem PMp.below {W U : World} {n mb : Nat} {ps : List Pt} {vs : Nat → Value} (h : PMp W n mb ps vs) (hb : Below W.heap.size W U) : PMp U n mb ps vs :=
  ⟨(hb.block mb (Array.getElem?_eq_some_iff.1 h.map).1).trans h.map, h.mbn, h.keys, h.nodup, fun i hi => by
    rcases (h.rows i hi).2 with ⟨hv, hn⟩ | ⟨g1, c1, cur, hv, hb1, hh, r⟩
    · exact ⟨(h.rows i hi).1, .inl ⟨hv, hn⟩⟩
    · exact ⟨(h.rows i hi).1, .inr ⟨g1, c1, cur, hv, hb1, (hb.block g1 (Array.getElem?_eq_some_iff.1 hh).1).trans hh, r⟩⟩, h.apart, h.i64⟩
theorem addP_none (x : Bl) : ∀ ps : List Pt, x.key ∉ ps.map Pt.key → addP ps x = ps ++ [⟨x.key, [x.amt]⟩]
  | [], _ => rfl
  | p :: ps, h => by
    simp only [List.map_cons, List.mem_cons, not_or] at h
    rw [addP, if_neg (fun e => h.1 e.symm), addP_none x ps h.2]
    rfl
theorem addP_some (x : Bl) : ∀ (ps : List Pt) (j : Nat) (hj : j < ps.length), (ps.map Pt.key).Nodup → (ps[j]).key = x.key → addP ps x = ps.set j ⟨(ps[j]).key, (ps[j]).zs ++ [x.amt]⟩
  | p :: ps, 0, _, _, e => by
    rw [addP, if_pos (by simpa using e)]
    rfl
  | p :: ps, j + 1, hj, hn, e => by
    simp only [List.map_cons, List.nodup_cons] at hn
    have hj' : j < ps.length := by simpa using hj
    have e' : (ps[j]).key = x.key := by simpa using e
    rw [addP, if_neg (fun h => hn.1 (by rw [h, ← e']; exact List.mem_map.2 ⟨_, List.getElem_mem hj', rfl⟩)), addP_some x ps j hj' hn.2 e']
    rfl
theorem pt_under : Try.prog.underlying 66 = some (.map 88 52) := Try.underlying66
theorem pt_zero (w : World) : (zeroValue 52).run Try.prog w = .ok (.slice none 0 0) w := by kernel_rfl
theorem setBlock_same {W : World} {b : Nat} {o : Obj} (h : W.heap[b]? = some o) : ChangeMaps.setBlock W b o = W := by
  unfold ChangeMaps.setBlock
  have : W.heap.setIfInBounds b o = W.heap := by
    apply Array.ext_getElem?
    intro i
    rw [Array.getElem?_setIfInBounds]
    by_cases e : b = i
    · subst e
      rw [if_pos rfl, if_pos (Array.getElem?_eq_some_iff.1 h).1, h]
    · rw [if_neg e]
  rw [this]
theorem setBlock_at {W : World} {b : Nat} (h : b < W.heap.size) (o : Obj) : (ChangeMaps.setBlock W b o).heap[b]? = some o := by
  simp [ChangeMaps.setBlock, h]
theorem setBlock_ne {W : World} {b i : Nat} (h : b ≠ i) (o : Obj) : (ChangeMaps.setBlock W b o).heap[i]? = W.heap[i]? := by
  simp [ChangeMaps.setBlock, Array.getElem?_setIfInBounds_ne h]
theorem setBlock_below {W : World} {b n : Nat} (hn : n ≤ b) (o : Obj) : Below n W (ChangeMaps.setBlock W b o) :=
  ⟨rfl, rfl, rfl, by simp [ChangeMaps.setBlock], fun i hi => setBlock_ne (by omega) o⟩
/-- A place that is there, or one more. -/
theorem run_entry {W : World} {n mb : Nat} {ps : List Pt} {vs : Nat → Value} (h : PMp W n mb ps vs) {k : Pk} (hk : PkOk k) :
    ∃ (ps1 : List Pt) (vs1 : Nat → Value) (j : Nat) (hj : j < ps1.length) (W1 : World), (Instr.mapEntry 66 (.map (some mb)) (plV k)).run Try.prog W = .ok (.tuple #[vs1 j, goInt j]) W1 ∧
      PMp W1 n mb ps1 vs1 ∧ (ps1[j]).key = k ∧ Below n W W1 ∧ W1.heap.size = W.heap.size ∧ (∀ i, i ≠ mb → W1.heap[i]? = W.heap[i]?) ∧ ps1.length ≤ ps.length + 1 ∧ (∀ p ∈ ps1, p ∈ ps ∨ p.zs = []) ∧
      ∀ x : Bl, x.key = k → addP ps x = ps1.set j ⟨(ps1[j]).key, (ps1[j]).zs ++ [x.amt]⟩ := by
  obtain ⟨kl, hkl⟩ := keyOf_pl hk
  have hlt : mb < W.heap.size := (Array.getElem?_eq_some_iff.1 h.map).1
  have hke : ∀ e ∈ (ents ps vs), ∃ l, keyOf Try.prog 88 e.key = some l := fun e he => by
    obtain ⟨i, hi, rfl⟩ := ents_mem he
    exact keyOf_pl (h.keys _ (List.getElem_mem hi))
  rcases pl_law.find W hkl (ents ps vs) hke with ⟨h1, h2⟩ | ⟨j, e0, h1, h2, h3⟩
  · have hno : k ∉ ps.map Pt.key := fun hm => by
      obtain ⟨p, hp, e⟩ := List.mem_map.1 hm
      obtain ⟨i, hi, e2⟩ := List.getElem_of_mem hp
      have := ents_get ps vs i hi
      refine h2 _ (List.mem_of_getElem? this) ?_
      show plV (ps[i]).key = plV k
      rw [e2, e]
    have hrun : (Instr.mapEntry 66 (.map (some mb)) (plV k)).run Try.prog W = .ok (.tuple #[.slice none 0 0, goInt ps.length]) (ChangeMaps.setBlock W mb (.map ((ents ps vs).toArray.push ⟨plV k, .slice none 0 0, ps.length⟩) (ps.length + 1))) := by
      simp [Instr.mapEntry, run_underlying pt_under, MapKept.run_getObj_map h.map, pl_law.check W false hkl, h1, pt_zero, MapKept.run_setObj_map _ h.map, Result.andThen, ChangeMaps.setBlock]
    refine ⟨ps ++ [⟨k, []⟩], fun i => if i = ps.length then .slice none 0 0 else vs i, ps.length, by simp, _, by simpa using hrun, ⟨?_, h.mbn, ?_, ?_, ?_, ?_, ?_⟩, by simp, setBlock_below h.mbn _, by simp [ChangeMaps.setBlock], fun i hi => setBlock_ne (fun e => hi e.symm) _, by simp, ?_, ?_⟩
    · rw [setBlock_at hlt]
      congr 2
      · rw [← ents_push]
        simp only [if_true]
        have e : ents ps (fun i => if i = ps.length then Value.slice none 0 0 else vs i) = ents ps vs := by
          unfold ents
          refine List.map_congr_left (fun i hi => ?_)
          have : i ≠ ps.length := by have := List.mem_range.1 hi; omega
          simp only [if_neg this]
        rw [e]
        try simp
      · simp
    · intro p hp
      rcases List.mem_append.1 hp with hp | hp
      · exact h.keys p hp
      · rw [List.mem_singleton.1 hp]; exact hk
    · rw [List.map_append, List.nodup_append]
      refine ⟨h.nodup, by simp, fun a ha b hb e => ?_⟩
      simp only [List.map_cons, List.map_nil, List.mem_singleton] at hb
      exact hno (by rw [← hb, ← e]; exact ha)
    · intro i hi
      by_cases e : i = ps.length
      · subst e
        simp only [if_true, List.getElem_append_right (Nat.le_refl _), Nat.sub_self, List.getElem_cons_zero, List.length_nil, List.map_nil]
        exact World.ownsRow_nil _ _ _ _
      · have hi' : i < ps.length := by simp at hi; omega
        rw [if_neg e]
        simp only [List.getElem_append_left hi']
        have hr := h.rows i hi'
        rcases hr.2 with ⟨hv, hn⟩ | ⟨g1, c1, cur, hv, hb1, hh, r⟩
        · exact ⟨hr.1, .inl ⟨hv, hn⟩⟩
        · exact ⟨hr.1, .inr ⟨g1, c1, cur, hv, hb1, (setBlock_ne (fun e => by rw [← e, h.map] at hh; cases hh) _).trans hh, r⟩⟩
    · intro i j hi hj hij g hg
      by_cases e : i = ps.length
      · rw [if_pos e] at hg; cases hg
      · rw [if_neg e] at hg
        by_cases e2 : j = ps.length
        · rw [if_pos e2]; exact fun h => by cases h
        · rw [if_neg e2]
          exact h.apart i j (by simp at hi; omega) (by simp at hj; omega) hij g hg
    · intro p hp
      rcases List.mem_append.1 hp with hp | hp
      · exact h.i64 p hp
      · rw [List.mem_singleton.1 hp]; intro z hz; simp at hz
    · intro p hp
      rcases List.mem_append.1 hp with hp | hp
      · exact .inl hp
      · exact .inr (by rw [List.mem_singleton.1 hp])
    · intro x hx
      rw [addP_none x ps (by rw [hx]; exact hno)]
      simp [hx]
  · have hj : j < ps.length := by have := (List.getElem?_eq_some_iff.1 h2).1; rw [ents_length] at this; exact this
    have he0 : e0 = ⟨plV (ps[j]).key, vs j, j⟩ := by rw [ents_get ps vs j hj] at h2; exact (Option.some.inj h2).symm
    have hkj : (ps[j]).key = k := plV_inj (by rw [he0] at h3; exact h3)
    have hj' : (ents ps vs).toArray[j]? = some e0 := by simpa using h2
    have hsame : (ents ps vs).toArray.modify j (fun e => { e with key := plV k }) = (ents ps vs).toArray := by
      apply Array.ext'
      rw [Array.toList_modify]
      apply List.ext_getElem?
      intro i
      rw [List.getElem?_modify]
      by_cases e : j = i
      · subst e
        rw [h2]
        simp only [if_true, he0]
        rw [hkj]
        rfl
      · simp [e]
    have hrun : (Instr.mapEntry 66 (.map (some mb)) (plV k)).run Try.prog W = .ok (.tuple #[vs j, goInt j]) W := by
      have h0 : (Instr.mapEntry 66 (.map (some mb)) (plV k)).run Try.prog W = .ok (.tuple #[vs j, goInt j]) (ChangeMaps.setBlock W mb (.map (ents ps vs).toArray ps.length)) := by
        have hst := pl_law.stays W hkl
        have hjl : (ents ps vs)[j]? = some e0 := h2
        have hso := MapKept.run_setObj_map (P := Try.prog) (.map (ents ps vs).toArray ps.length) h.map
        have hsl : (ents ps vs).modify j (fun e => { e with key := plV k }) = ents ps vs := by
          have := congrArg Array.toList hsame
          rw [Array.toList_modify] at this
          simpa using this
        simp [Instr.mapEntry, run_underlying pt_under, MapKept.run_getObj_map h.map, pl_law.check W false hkl, h1, hjl, h3, hst, hsl, hso, Result.andThen, ChangeMaps.setBlock]
        rw [he0]
        simp
      rw [setBlock_same h.map] at h0
      exact h0
    exact ⟨ps, vs, j, hj, W, hrun, h, hkj, Below.refl _ _, rfl, fun _ _ => rfl, Nat.le_succ _, fun p hp => .inl hp, fun x hx => addP_some x ps j hj h.nodup (by rw [hkj, hx])⟩
end Go.Proofs.Ytbbegoklikaphaa

namespace Go.Proofs.Ytbbegoklikaphaa
set_option linter.unusedVariables false
set_option linter.unusedSimpArgs false
set_option maxRecDepth 100000
open Go.RowKit Go.Lib
theorem pt_info : (Try.prog.info? 3).map (fun i => (i.zero, i.size, i.bytes)) = some (some (.int .i64 0), 1, 8) := by kernel_rfl
theorem ld_new_heap (W : World) (o : Obj) : (W.alloc o).heap[W.heap.size]? = some o := by unfold World.alloc; simp only [Array.getElem?_push_size]
theorem row_block {W : World} {n : Nat} {t : TypeId} {s : Nat} {v : Value} {m : Nat} {xs : List Value} (h : W.ownsRow n t s v m xs) {g : Nat} (e : v.ownBlock = some g) : n ≤ g ∧ g < W.heap.size ∧ ∃ cs, W.heap[g]? = some (.cells cs t (0, 0)) := by
  rcases h.2 with ⟨rfl, _⟩ | ⟨g1, c1, cur, rfl, hb1, hh, _⟩
  · cases e
  · cases e
    exact ⟨hb1, (Array.getElem?_eq_some_iff.1 hh).1, _, hh⟩
theorem row_keep {W U : World} {n : Nat} {t : TypeId} {s : Nat} {v : Value} {m : Nat} {xs : List Value} (h : W.ownsRow n t s v m xs) (hk : ∀ g, v.ownBlock = some g → U.heap[g]? = W.heap[g]?) : U.ownsRow n t s v m xs := by
  rcases h.2 with ⟨hv, hn⟩ | ⟨g1, c1, cur, hv, hb1, hh, r⟩
  · exact ⟨h.1, .inl ⟨hv, hn⟩⟩
  · exact ⟨h.1, .inr ⟨g1, c1, cur, hv, hb1, (hk g1 (by rw [hv]; rfl)).trans hh, r⟩⟩
/-- What an add leaves as it was: all but the map, and rows of amounts. -/
structure AKeep (n mb : Nat) (V W : World) : Prop where
  os : W.os = V.os
  tape : W.tape = V.tape
  output : W.output = V.output
  size : V.heap.size ≤ W.heap.size
  block : ∀ b, b < V.heap.size → b ≠ mb → (b < n ∨ ∀ cs : Array Value, V.heap[b]? ≠ some (Obj.cells cs 3 (0, 0))) → W.heap[b]? = V.heap[b]?
theorem AKeep.refl (n mb : Nat) (V : World) : AKeep n mb V V := ⟨rfl, rfl, rfl, Nat.le_refl _, fun _ _ _ _ => rfl⟩
theorem AKeep.trans {n mb : Nat} {U V W : World} (h : AKeep n mb U V) (k : AKeep n mb V W) : AKeep n mb U W :=
  ⟨k.os.trans h.os, k.tape.trans h.tape, k.output.trans h.output, Nat.le_trans h.size k.size, fun b hb hne hc => by
    have e := h.block b hb hne hc
    exact (k.block b (Nat.lt_of_lt_of_le hb h.size) hne (hc.imp id (fun h2 cs => by rw [e]; exact h2 cs))).trans e⟩
theorem AKeep.of_below {n mb : Nat} {V W : World} (h : Below V.heap.size V W) : AKeep n mb V W := ⟨h.os, h.tape, h.output, h.size, fun b hb _ _ => h.block b hb⟩
theorem AKeep.below {n mb : Nat} {V W : World} (h : AKeep n mb V W) (hm : n ≤ mb) (hn : n ≤ V.heap.size) : Below n V W := ⟨h.os, h.tape, h.output, h.size, fun b hb => h.block b (by omega) (by omega) (.inl hb)⟩
/-- An entry's slice is put into the map. -/
theorem run_estore {W U : World} {n mb : Nat} {ps : List Pt} {vs : Nat → Value} (h : PMp W n mb ps vs) {j : Nat} (hj : j < ps.length) {v' : Value} {z : Int} (hz : -9223372036854775808 ≤ z ∧ z ≤ 9223372036854775807)
    (ho : U.ownsRow n 3 1 v' ((ps[j]).zs.length + 1) ((ps[j]).zs.map (Value.int .i64) ++ [.int .i64 z])) (hg : W.grownBy U (vs j).ownBlock) (hl : v'.ownBlock = (vs j).ownBlock ∨ v'.ownBlock = some W.heap.size) (hn : n ≤ W.heap.size) :
    ∃ U', (Instr.entryStore 66 (.map (some mb)) (.int .i64 (j : Int)) v').run Try.prog U = .ok () U' ∧ PMp U' n mb (ps.set j ⟨(ps[j]).key, (ps[j]).zs ++ [z]⟩) (fun i => if i = j then v' else vs i) ∧ AKeep n mb W U' := by
  have hnb : (vs j).ownBlock ≠ some mb := fun e => by
    obtain ⟨_, _, cs, e2⟩ := row_block (h.rows j hj) e
    rw [h.map] at e2
    cases e2
  have hlt : mb < W.heap.size := (Array.getElem?_eq_some_iff.1 h.map).1
  have hm : U.heap[mb]? = some (.map (ents ps vs).toArray ps.length) := (hg.block mb hlt (fun e => hnb e.symm)).trans h.map
  have hltU : mb < U.heap.size := (Array.getElem?_eq_some_iff.1 hm).1
  have hidx : (ents ps vs).findIdx? (fun e => ((e.born : Nat) : Int) == (j : Int)) = some j :=
    WideElems.findIdx_born (e0 := ⟨plV (ps[j]).key, vs j, j⟩) (by rw [ents_born]; exact List.nodup_range) (ents_get ps vs j hj)
  have hset := ents_set ps vs j hj ((ps[j]).zs ++ [z]) v'
  refine ⟨ChangeMaps.setBlock U mb (.map (ents (ps.set j ⟨(ps[j]).key, (ps[j]).zs ++ [z]⟩) (fun i => if i = j then v' else vs i)).toArray ps.length), ?_, ⟨?_, h.mbn, ?_, ?_, ?_, ?_, ?_⟩, ?_⟩
  · simp [Instr.entryStore, MapKept.run_getObj_map hm, asInt, asIntOf, hidx, MapKept.run_setObj_map _ hm, Result.andThen, ChangeMaps.setBlock, hset]
  · rw [setBlock_at hltU]
    simp
  · intro p hp
    rcases List.mem_or_eq_of_mem_set hp with hp | rfl
    · exact h.keys p hp
    · have := h.keys _ (List.getElem_mem hj)
      exact this
  · rw [List.map_set]
    have : (ps.map Pt.key).set j (ps[j]).key = ps.map Pt.key := by
      have e : (ps[j]).key = (ps.map Pt.key)[j]'(by simpa using hj) := by simp
      rw [e, List.set_getElem_self]
    rw [this]
    exact h.nodup
  · intro i hi
    have hi' : i < ps.length := by simpa using hi
    by_cases e : i = j
    · subst e
      simp only [if_true, List.getElem_set_self, List.length_append, List.map_append, List.length_cons, List.length_nil, List.map_cons, List.map_nil]
      refine row_keep ho (fun g eg => setBlock_ne (fun e2 => ?_) _)
      obtain ⟨_, _, cs, e3⟩ := row_block ho eg
      rw [← e2, hm] at e3
      cases e3
    · have e' : ¬ j = i := fun h => e h.symm
      simp only [if_neg e, List.getElem_set_ne e']
      refine row_keep (h.rows i hi') (fun g eg => ?_)
      obtain ⟨_, g2, cs, e3⟩ := row_block (h.rows i hi') eg
      rw [setBlock_ne (fun e2 => by rw [← e2, h.map] at e3; cases e3) _]
      exact hg.block g g2 (fun e4 => h.apart i j hi' hj e g eg e4.symm)
  · intro a b ha hb hab g eg
    have ha' : a < ps.length := by simpa using ha
    have hb' : b < ps.length := by simpa using hb
    by_cases e : a = j
    · subst e
      have e2 : ¬ b = a := fun h => hab h.symm
      simp only [if_true, if_neg e2] at eg ⊢
      rcases hl with hl | hl
      · rw [hl] at eg
        exact h.apart a b ha' hb' hab g eg
      · rw [hl] at eg
        cases eg
        intro e3
        have := (row_block (h.rows b hb') e3).2.1
        omega
    · simp only [if_neg e] at eg
      by_cases e2 : b = j
      · subst e2
        simp only [if_true]
        rcases hl with hl | hl
        · rw [hl]; exact h.apart a b ha' hb' hab g eg
        · rw [hl]
          intro e3
          cases e3
          have := (row_block (h.rows a ha') eg).2.1
          omega
      · simp only [if_neg e2]
        exact h.apart a b ha' hb' hab g eg
  · intro p hp
    rcases List.mem_or_eq_of_mem_set hp with hp | rfl
    · exact h.i64 p hp
    · intro y hy
      rcases List.mem_append.1 hy with hy | hy
      · exact h.i64 _ (List.getElem_mem hj) y hy
      · rw [List.mem_singleton.1 hy]; exact hz
  · refine ⟨hg.os, hg.tape, hg.output, by simpa [ChangeMaps.setBlock] using hg.size, fun b hb hne hc => ?_⟩
    rw [setBlock_ne (fun e => hne e.symm)]
    refine hg.block b hb (fun e => ?_)
    obtain ⟨g1, _, cs, e2⟩ := row_block (h.rows j hj) e.symm
    rcases hc with hc | hc
    · omega
    · exact hc cs e2

set_option maxHeartbeats 4000000 in
theorem ldAdd_any (x : Bl) (W : World) (n mb : Nat) (ps : List Pt) (vs : Nat → Value) (h : PMp W n mb ps vs) (hk : PkOk x.key) (hz : -9223372036854775808 ≤ x.amt ∧ x.amt ≤ 9223372036854775807) (hl : ∀ p ∈ ps, p.zs.length < 17592186044416) :
    Calls Try.prog 22 #[.map (some mb), .agg x.cells] W fun e w' => e = .returned (.tuple #[]) ∧ ∃ vs', Hid (PMp w' n mb (addP ps x) vs' ∧ AKeep n mb W w') := by
  obtain ⟨x0, x1, x2, x3⟩ := x
  have hn : n ≤ W.heap.size := Nat.le_of_lt (Nat.lt_of_le_of_lt h.mbn (Array.getElem?_eq_some_iff.1 h.map).1)
  obtain ⟨V, hV⟩ : ∃ V, (((W.alloc (.cells #[.int .i64 x0, .string x1, .string x2, .int .i64 x3] 34)).alloc (.cells #[.int .i64 x0, .string x1, .string x2] 88)).alloc (.cells #[.int .i64 x3] 3)) = V := ⟨_, rfl⟩
  have hbV : Below W.heap.size W V := by
    rw [← hV]
    exact (((Below.refl _ W).alloc (Nat.le_refl _) _).alloc (by simp) _).alloc (by simp; omega) _
  have hsV : V.heap.size = W.heap.size + 3 := by rw [← hV]; simp
  obtain ⟨ps1, vs1, j, hj, V1, hrun, hP1, hkey, hB1, hsz, hoth, -, hmem, hadd⟩ := run_entry (h.below hbV) hk
  have e1 : V.heap[W.heap.size + 2]? = some (.cells #[.int .i64 x3] 3 (0, 0)) := by
    rw [← hV]
    have := ld_new_heap ((W.alloc (.cells #[.int .i64 x0, .string x1, .string x2, .int .i64 x3] 34)).alloc (.cells #[.int .i64 x0, .string x1, .string x2] 88)) (.cells #[.int .i64 x3] 3)
    simpa using this
  have e2 : V1.heap[W.heap.size + 2]? = some (.cells #[.int .i64 x3] 3 (0, 0)) := (hoth _ (fun e => by
    have := (Array.getElem?_eq_some_iff.1 h.map).1
    omega)).trans e1
  have hnews : ∀ i u, [Value.int .i64 x3][i]? = some u → V1.cell? ((⟨W.heap.size + 2, 0, none⟩ : Addr).add i) = some u := by
    intro i u hi
    rcases i with _ | i
    · simp at hi
      subst hi
      simp [Addr.add, World.cell?, e2]
    · simp at hi
  clear e1 e2
  have hzl : (ps1[j]).zs.length < 17592186044416 := by
    rcases hmem _ (List.getElem_mem hj) with hp | hp
    · exact hl _ hp
    · rw [hp]; simp
  have hown := hP1.rows j hj
  have HE : Hid (∀ v' U, U.ownsRow n 3 1 v' ((ps1[j]).zs.length + 1) ((ps1[j]).zs.map (Value.int .i64) ++ [.int .i64 x3]) → V1.grownBy U (vs1 j).ownBlock → (v'.ownBlock = (vs1 j).ownBlock ∨ v'.ownBlock = some V1.heap.size) →
      ∃ U', (Instr.entryStore 66 (.map (some mb)) (.int .i64 (j : Int)) v').run Try.prog U = .ok () U' ∧ ∃ vs', Hid (PMp U' n mb (addP ps ⟨x0, x1, x2, x3⟩) vs' ∧ AKeep n mb W U')) := fun v' U h1 h2 h3 => by
    obtain ⟨U', g1, g2, g3⟩ := run_estore hP1 hj (z := x3) hz h1 h2 h3 (by omega)
    rw [← hadd ⟨x0, x1, x2, x3⟩ rfl] at g2
    exact ⟨U', g1, _, g2, ((AKeep.of_below hbV).trans ⟨hB1.os, hB1.tape, hB1.output, by omega, fun b _ hne _ => hoth b hne⟩).trans g3⟩
  obtain ⟨v, hv⟩ : ∃ v, vs1 j = v := ⟨_, rfl⟩
  obtain ⟨zs, hzs⟩ : ∃ zs, (ps1[j]).zs = zs := ⟨_, rfl⟩
  rw [hv, hzs] at HE hown
  rw [hv] at hrun
  rw [hzs] at hzl
  simp only [plV, Bl.key, goInt] at hrun
  obtain ⟨js, hjs⟩ : ∃ js : Int, (j : Int) = js := ⟨_, rfl⟩
  rw [hjs] at hrun HE
  obtain ⟨i0, hi0, hz0, hz1, hz2⟩ := info_parts pt_info
  have HO : Hid (V1.ownsRow n 3 1 v zs.length (zs.map (Value.int .i64))) := hown
  have HNw : Hid (∀ i u, [Value.int .i64 x3][i]? = some u → V1.cell? ((⟨W.heap.size + 2, 0, none⟩ : Addr).add i) = some u) := hnews
  have HS : Hid (n ≤ V1.heap.size) := by unfold Hid; omega
  have Hm1 : Hid (zs.length + 1 ≤ maxLen) := by unfold Hid maxLen; omega
  have Hm2 : Hid ((zs.length + 1) * 8 ≤ 140737488355328) := by unfold Hid; omega
  have Hs1 : Hid (∀ u ∈ [Value.int .i64 x3], u.oneCell' = true) := by intro u hu; simp at hu; subst hu; rfl
  have HV : Hid (_ = V) := hV
  simp only [Bl.cells]
  clear hP1 hkey hB1 hsz hoth hmem hadd hown hnews h hl hk hz hn hbV hsV hv hzs hjs hj hzl
  subst hV
  go_enter Try.func22, Try.ntmps22
  go_wp2_with (at_builtin; refine wpList_append_own_at _ rfl _ _ 52 rfl n 3 i0 (.int .i64 0) 1 8 Try.underlying52 hi0 hz0 hz1 hz2 rfl (by decide) _ _ _ rfl HO.out ⟨W.heap.size + 2, 0, none⟩ 1 1 [.int .i64 x3] rfl rfl HNw.out Hs1.out Hm1.out Hm2.out HS.out ?_)
  intro v' U h1 h2 _ h3
  obtain ⟨U', g1, g2⟩ := HE.out v' U h1 h2 h3
  have G2 : Hid (∃ vs', Hid (PMp U' n mb (addP ps ⟨x0, x1, x2, x3⟩) vs' ∧ AKeep n mb W U')) := g2
  clear h1 h2 h3 g2 HE hrun
  go_wp2
  go_end0
  exact ⟨rfl, G2.out⟩
end Go.Proofs.Ytbbegoklikaphaa

namespace Go.Proofs.Ytbbegoklikaphaa
set_option linter.unusedVariables false
set_option linter.unusedSimpArgs false
set_option maxRecDepth 100000
open Go.RowKit Go.Lib Go.Sort
def blEnc (x : Bl) : List Value := x.cells.toList
theorem bl_swo : SWO (ltOf cmpB) where
  irrefl x := decide_eq_false (cmpB_irr x)
  trans x y z h1 h2 := decide_eq_true (cmpB_trans (of_decide_eq_true h1) (of_decide_eq_true h2))
  ntrans x y z h1 h2 := by
    refine decide_eq_false (fun h => ?_)
    have h1' := of_decide_eq_false h1
    have h2' := of_decide_eq_false h2
    by_cases e1 : x.key = y.key
    · refine h2' ?_
      rw [cmpB_lt] at h ⊢
      unfold Bl.key at e1
      rw [Prod.mk.injEq, Prod.mk.injEq] at e1
      rw [← e1.1, ← e1.2.1, ← e1.2.2]
      exact h
    · have h3 := cmpB_total h1' e1
      by_cases e2 : y.key = z.key
      · refine h1' ?_
        rw [cmpB_lt] at h ⊢
        unfold Bl.key at e2
        rw [Prod.mk.injEq, Prod.mk.injEq] at e2
        rw [e2.1, e2.2.1, e2.2.2]
        exact h
      · have h4 := cmpB_total h2' e2
        exact cmpB_irr x (cmpB_trans h (cmpB_trans h4 h3))
theorem bl_holds {W : World} {n g cap : Nat} {L : List Bl} (h : BlRow W n (.slice (some ⟨g, 0, none⟩) L.length cap) L) (hi : Inhabited Bl) : HoldsK blEnc 4 W g 0 L.toArray := by
  rcases h.2 with ⟨e, _⟩ | ⟨g1, c1, cur, e, hb1, hh, hc, hm, hs, ht⟩
  · cases e
  · cases e
    intro t htt
    rw [size_flatK, List.size_toArray] at htt
    rw [get_flatK _ _ _ t (by simpa using htt)]
    have hk : t / 4 < L.length := by omega
    have hb := blRow_get L (t / 4) (t % 4) hk (by omega)
    have e1 : t / 4 * 4 + t % 4 = t := by omega
    rw [e1] at hb
    have e2 : (blRow L)[t]? = cur[t]? := by
      rw [← ht, List.getElem?_take, if_pos (by omega)]
      simp
    have e3 : L.toArray[t / 4]! = L.getD (t / 4) bl0 := by
      rw [List.getD_eq_getElem?_getD, List.getElem?_eq_getElem hk, getElem!_pos L.toArray (t / 4) (by simpa using hk)]
      simp
    refine ⟨?_, by simp [World.frozen?, hh]⟩
    rw [e3]
    simp only [World.cell?, hh, Nat.zero_add]
    rw [← e2, hb]
    unfold blEnc
    have hl : t % 4 < (L.getD (t / 4) bl0).cells.toList.length := by rw [Bl.cells_length]; omega
    rw [List.getElem?_eq_getElem hl, getElem!_pos (L.getD (t / 4) bl0).cells.toList (t % 4) hl]
    rfl
/-- What a sort leaves. -/
theorem bl_sorted {W : World} {n g cap : Nat} {L : List Bl} (h : BlRow W n (.slice (some ⟨g, 0, none⟩) L.length cap) L) (hi : Inhabited Bl) (d : Array Bl) (hd : d.size = L.length) (m : Nat) (os : Array Obj) :
    BlRow (sortWorldK blEnc 4 W g 0 m d os) n (.slice (some ⟨g, 0, none⟩) d.toList.length cap) d.toList ∧ W.grownBy (sortWorldK blEnc 4 W g 0 m d os) (some g) := by
  rcases h.2 with ⟨e, _⟩ | ⟨g1, c1, cur, e, hb1, hh, hc, hm, hs, ht⟩
  · cases e
  · cases e
    have hlt : g < W.heap.size := (Array.getElem?_eq_some_iff.1 hh).1
    have hg : (sortWorldK blEnc 4 W g 0 m d os).heap[g]? = some (.cells (putCells id 0 (flatK blEnc 4 d) cur) 34 (0, 0)) := by
      unfold sortWorldK putRowK putRow mapBlock
      rw [heap_grow_old _ _ (by simpa [ahead] using hlt)]
      show (W.heap.modify g _)[g]? = _
      rw [Array.getElem?_modify, if_pos rfl, hh]
      rfl
    refine ⟨⟨blRow_length _, .inr ⟨g, cap, _, rfl, hb1, hg, by simp [hd, hc], hm, by simp [putCells, hs], ?_⟩⟩, rfl, rfl, rfl, ?_, fun b hb hne => ?_⟩
    · apply List.ext_getElem?
      intro t
      rw [List.getElem?_take]
      by_cases htt : t < d.toList.length * 4
      · rw [if_pos htt]
        have hk : t / 4 < d.toList.length := by omega
        have hb := blRow_get d.toList (t / 4) (t % 4) hk (by omega)
        have e1 : t / 4 * 4 + t % 4 = t := by omega
        rw [e1] at hb
        rw [hb]
        have hts : t < cur.size := by rw [hs]; simp [hd] at htt; omega
        have hF : t < (flatK blEnc 4 d).size := by simpa using htt
        have e3 : d[t / 4]! = d.toList.getD (t / 4) bl0 := by
          rw [List.getD_eq_getElem?_getD, List.getElem?_eq_getElem hk, getElem!_pos d (t / 4) (by simpa using hk)]
          simp
        have hl : t % 4 < (d.toList.getD (t / 4) bl0).cells.toList.length := by rw [Bl.cells_length]; omega
        rw [Array.getElem?_toList]
        unfold putCells
        rw [Array.getElem?_mapIdx, Array.getElem?_eq_getElem hts]
        simp only [Option.map_some, Nat.zero_le, true_and, Nat.zero_add, hF, if_true, Nat.sub_zero, id]
        rw [get_flatK _ _ _ t (by simpa using htt), e3, List.getElem?_eq_getElem hl]
        unfold blEnc
        rw [getElem!_pos (d.toList.getD (t / 4) bl0).cells.toList (t % 4) hl]
      · rw [if_neg htt, List.getElem?_eq_none (by rw [blRow_length]; omega)]
    · unfold sortWorldK putRowK putRow mapBlock
      simp [ahead]
    · unfold sortWorldK putRowK putRow mapBlock
      rw [heap_grow_old _ _ (by simpa [ahead] using hb)]
      have : g ≠ b := fun e => hne (by rw [e])
      simp [ahead, Array.getElem?_modify, this]
theorem cmp_lays (hi : Inhabited Bl) (blk off size : Nat) (w : World) : CmpLays Try.prog 41 #[] blEnc 4 cmpB blk off size w :=
  fun m os dk _ x y => ldCompareB_at x y _
/-- A row of balances is sorted. -/
theorem sort_any (W : World) (n : Nat) (v : Value) (L : List Bl) (h : BlRow W n v L) (hl : L.length ≤ 1000000) (hnd : (L.map Bl.key).Nodup) :
    Calls Try.prog 42 #[v, .func (.func 41) #[] #[]] W fun e w' => e = .returned (.tuple #[]) ∧ ∃ R, R.Perm L ∧ Rises R ∧ BlRow w' n v R ∧ W.grownBy w' v.ownBlock := by
  have hi : Inhabited Bl := ⟨bl0⟩
  by_cases h0 : L = []
  · subst h0
    obtain ⟨a, cap, rfl, _⟩ := h.isBl
    refine (AnyF.slices_SortFunc_none { sortLays with } a cap _ W).mono ?_
    rintro e w' ⟨rfl, rfl⟩
    exact ⟨rfl, [], .nil, .nil, h, rfl, rfl, rfl, Nat.le_refl _, fun _ _ _ => rfl⟩
  · obtain ⟨g, cap, rfl, hlt⟩ : ∃ g cap, v = .slice (some ⟨g, 0, none⟩) L.length cap ∧ g < W.heap.size := by
      rcases h.2 with ⟨e, hn⟩ | ⟨g1, c1, cur, e, hb1, hh, _⟩
      · exact absurd (List.eq_nil_of_length_eq_zero hn) h0
      · exact ⟨g1, c1, e, (Array.getElem?_eq_some_iff.1 hh).1⟩
    have eg : ∀ args w, (callFunc 41 args).run Try.prog w = .ok (.enter 41 args) w := fun args w => en_enters Try.func41 (by kernel_rfl) ⟨_, rfl⟩ args w
    have hcon := AnyQ.slices_SortFunc sortLays 4 Try.isAgg34 Try.sizeOf34 blEnc (fun _ => rfl) (fun x v hv => by simp [blEnc, Bl.cells] at hv; rcases hv with rfl | rfl | rfl | rfl <;> rfl) cmpB bl_swo 41 #[] g 0 cap L.toArray W eg (cmp_lays hi g 0 _ W) (bl_holds h hi) hlt (by simp; omega)
    refine Calls.mono hcon ?_
    rintro e w' ⟨rfl, d, m, os, hp, hs, rfl⟩
    obtain ⟨p1, _, p3⟩ := hp
    have hsz : d.size = L.length := by rw [p1]; simp
    have hpm : d.toList.Perm L := by
      simp only [List.size_toArray] at p3
      have e1 : (d.extract 0 L.length).toList = d.toList := by
        rw [← hsz]; simp
      have e2 : (L.toArray.extract 0 L.length).toList = L := by simp
      rw [e1, e2] at p3
      exact p3
    obtain ⟨b1, b2⟩ := bl_sorted h hi d hsz m os
    refine ⟨rfl, d.toList, hpm, ?_, ?_, b2⟩
    · have hnd' : (d.toList.map Bl.key).Nodup := ((hpm.map Bl.key).nodup_iff).2 hnd
      refine List.pairwise_iff_getElem.2 (fun i j hi' hj' hij => ?_)
      have h1 := hs i j (Nat.zero_le _) hij (by simp at hj'; simp; omega)
      have hi2 : i < d.size := by simpa using hi'
      have hj2 : j < d.size := by simpa using hj'
      rw [getElem!_pos d i hi2, getElem!_pos d j hj2] at h1
      have h2 : ¬ cmpB d[j] d[i] < 0 := of_decide_eq_false h1
      have h3 : d[j].key ≠ d[i].key := fun e => by
        have := (List.pairwise_iff_getElem.1 hnd') i j (by simpa using hi2) (by simpa using hj2) hij
        simp at this
        exact this e.symm
      have := cmpB_total h2 h3
      simpa using this
    · have e : d.toList.length = L.length := by simpa using hsz
      rw [e] at b1
      exact b1

/-- A step of a range over the map. -/
theorem parts_next {W : World} {n mb r : Nat} {ps : List Pt} {vs : Nat → Value} (h : PMp W n mb ps vs) {sn : List Nat} (hr : W.heap[r]? = some (.mapIter (some mb) ps.length sn.toArray ps.length)) (ty : TypeId) :
    ((∀ i, i < ps.length → i ∈ sn) ∧ (Instr.next (.pointer (some ⟨r, 0, none⟩)) false ty).run Try.prog W = .ok (.tuple #[.bool false]) W) ∨
    ∃ i, ∃ hi : i < ps.length, i ∉ sn ∧ ∃ W', (Instr.next (.pointer (some ⟨r, 0, none⟩)) false ty).run Try.prog W = .ok (.tuple #[.bool true, plV (ps[i]).key, vs i]) W' ∧ W'.heap[r]? = some (.mapIter (some mb) ps.length (sn ++ [i]).toArray ps.length) ∧ W.grownBy W' (some r) ∧ W'.heap.size = W.heap.size ∧
      (Instr.entry (.pointer (some ⟨r, 0, none⟩))).run Try.prog W' = .ok (.tuple #[plV (ps[i]).key, vs i]) W' := by
  have hold : ∀ x ∈ (ents ps vs).toArray.toList, x.born < ps.length := fun x hx => by
    obtain ⟨i, hi, rfl⟩ := ents_mem (by simpa using hx)
    exact hi
  have hne : r ≠ mb := fun e => by rw [e, h.map] at hr; cases hr
  have hlt : r < W.heap.size := (Array.getElem?_eq_some_iff.1 hr).1
  rcases run_next_at (P := Try.prog) W ty r mb ps.length ps.length sn.toArray (ents ps vs).toArray ps.length hr h.map hold (Nat.le_refl _) with ⟨h0, hrun⟩ | ⟨e, he, w1, hal, hrun⟩
  · refine .inl ⟨fun i hi => ?_, hrun⟩
    have h1 := all_seen _ _ h0 ⟨plV (ps[i]).key, vs i, i⟩ (by simpa using List.mem_of_getElem? (ents_get ps vs i hi))
    simpa using h1
  · obtain ⟨hem, hes⟩ := mem_left he
    obtain ⟨i, hi, rfl⟩ := ents_mem (by simpa using hem)
    have hns : i ∉ sn := by simpa using hes
    have hr1 : w1.heap[r]? = some (.mapIter (some mb) ps.length sn.toArray ps.length) := by rcases hal with rfl | rfl <;> exact hr
    have hb1 : w1.heap[mb]? = some (.map (ents ps vs).toArray ps.length) := by rcases hal with rfl | rfl <;> exact h.map
    have hlt1 : r < w1.heap.size := (Array.getElem?_eq_some_iff.1 hr1).1
    have hset := setBlock_at hlt1 (.mapIter (some mb) ps.length (sn.toArray.push i) ps.length)
    have hb' : (ChangeMaps.setBlock w1 r (.mapIter (some mb) ps.length (sn.toArray.push i) ps.length)).heap[mb]? = some (.map (ents ps vs).toArray ps.length) := (setBlock_ne hne _).trans hb1
    refine .inr ⟨i, hi, hns, _, hrun, by rw [hset]; simp, ?_, ?_, run_entry_at _ r mb ps.length sn.toArray (ents ps vs).toArray ps.length ⟨plV (ps[i]).key, vs i, i⟩ hset hb' hem (by simp only [ents_born]; exact List.nodup_range)⟩
    · rcases hal with rfl | rfl <;> exact ⟨rfl, rfl, rfl, by simp [ChangeMaps.setBlock], fun b _ hb => setBlock_ne (fun e1 => hb (by rw [e1])) _⟩
    · rcases hal with rfl | rfl <;> simp [ChangeMaps.setBlock]
end Go.Proofs.Ytbbegoklikaphaa

namespace Go.Proofs.Ytbbegoklikaphaa
set_option linter.unusedVariables false
set_option linter.unusedSimpArgs false
set_option maxRecDepth 100000
open Go.RowKit Go.Lib Math
/-- What is wrong with all the sums. -/
def tgE (ps : List Pt) : Int := if 200 < ps.length then 4 else if ps.all (fun p => decide (-9223372036854775808 ≤ p.zs.sum ∧ p.zs.sum ≤ 9223372036854775807)) = true then 0 else 10
def balAt (ps : List Pt) (i : Nat) : Bl := (ps.map Pt.bal).getD i bl0
theorem balAt_get (ps : List Pt) (i : Nat) (h : i < ps.length) : balAt ps i = (ps[i]).bal := by
  unfold balAt
  rw [List.getD_eq_getElem?_getD, List.getElem?_map, List.getElem?_eq_getElem h]
  rfl
theorem balAt_all (ps : List Pt) : (List.range ps.length).map (balAt ps) = ps.map Pt.bal := by
  apply List.ext_getElem?
  intro i
  by_cases h : i < ps.length
  · rw [List.getElem?_map, List.getElem?_range h, Option.map_some, balAt_get ps i h, List.getElem?_map, List.getElem?_eq_getElem h]
    rfl
  · rw [List.getElem?_eq_none (by simp; omega), List.getElem?_eq_none (by simp; omega)]
theorem seen_perm {n : Nat} {sn : List Nat} (h1 : sn.Nodup) (h2 : ∀ i ∈ sn, i < n) (h3 : ∀ i, i < n → i ∈ sn) : sn.Perm (List.range n) :=
  (List.perm_ext_iff_of_nodup h1 List.nodup_range).2 (fun i => ⟨fun h => List.mem_range.2 (h2 i h), fun h => h3 i (List.mem_range.1 h)⟩)
theorem seen_le {n : Nat} {sn : List Nat} (h1 : sn.Nodup) (h2 : ∀ i ∈ sn, i < n) : sn.length ≤ n := by
  have key : ∀ (l m : List Nat), l.Nodup → (∀ k ∈ l, k ∈ m) → l.length ≤ m.length := by
    intro l
    induction l with
    | nil => intro m _ _; exact Nat.zero_le _
    | cons k l ih =>
      intro m h hs
      obtain ⟨g1, g2⟩ := List.nodup_cons.1 h
      obtain ⟨s, t, rfl⟩ := List.append_of_mem (hs k (List.mem_cons_self ..))
      have := ih (s ++ t) g2 (fun q hq => by
        have h3 := hs q (List.mem_cons_of_mem _ hq)
        simp only [List.mem_append, List.mem_cons] at h3 ⊢
        rcases h3 with h3 | h3 | h3
        · exact .inl h3
        · exact absurd (h3 ▸ hq) g1
        · exact .inr h3)
      simp only [List.length_append, List.length_cons] at this ⊢
      omega
  have := key sn (List.range n) h1 (fun k hk => List.mem_range.2 (h2 k hk))
  simpa using this
/-- How many an iterator has given out. -/
def itLen (W : World) (r : Nat) : Nat := match W.heap[r]? with | some (.mapIter _ _ seen _) => seen.size | _ => 0
theorem itLen_eq {W : World} {r : Nat} {m : Option Nat} {s c : Nat} {sn : List Nat} (h : W.heap[r]? = some (.mapIter m s sn.toArray c)) : itLen W r = sn.length := by
  unfold itLen
  rw [h]
  simp
/-- What the loop keeps. -/
structure Tg (W : World) (n mb : Nat) (ps : List Pt) (vs : Nat → Value) (r : Nat) (sn : List Nat) (lv : Value) (U : World) : Prop where
  nd : sn.Nodup
  lt : ∀ i ∈ sn, i < ps.length
  ok : ∀ i ∈ sn, -9223372036854775808 ≤ (balAt ps i).amt ∧ (balAt ps i).amt ≤ 9223372036854775807
  it : U.heap[r]? = some (.mapIter (some mb) ps.length sn.toArray ps.length)
  pm : PMp U n mb ps vs
  row : BlRow U W.heap.size lv (full (sn.map (balAt ps)))
  bel : Below W.heap.size W U
theorem full_len (l : List Bl) : (full l).length ≤ l.length := List.length_filter_le _ _
theorem run_pmlen {W : World} {n mb : Nat} {ps : List Pt} {vs : Nat → Value} (h : PMp W n mb ps vs) (ty : TypeId) : (Builtin.len_ #[66] ty #[.map (some mb)]).run Try.prog W = .ok (.int .i64 (ps.length : Int)) W := by
  have e : (ents ps vs).toArray.size = ps.length := by simp [ents_length]
  simp [Builtin.len_, run_underlying pt_under, MapKept.run_getObj_map h.map, Result.andThen, goInt, ents_length]

theorem PMp.keep {W U : World} {n mb : Nat} {ps : List Pt} {vs : Nat → Value} (h : PMp W n mb ps vs) (h1 : ∀ (es : Array MapEntry) (c : Nat), W.heap[mb]? = some (Obj.map es c) → U.heap[mb]? = W.heap[mb]?) (h2 : ∀ (g : Nat) (cs : Array Value), W.heap[g]? = some (Obj.cells cs 3 (0, 0)) → U.heap[g]? = W.heap[g]?) : PMp U n mb ps vs :=
  ⟨(h1 _ _ h.map).trans h.map, h.mbn, h.keys, h.nodup, fun i hi => row_keep (h.rows i hi) (fun g eg => by
    obtain ⟨_, _, cs, e⟩ := row_block (h.rows i hi) eg
    exact h2 g cs e), h.apart, h.i64⟩
theorem full_snoc (l : List Bl) (x : Bl) : full (l ++ [x]) = if x.amt = 0 then full l else full l ++ [x] := by
  unfold full
  rw [List.filter_append]
  by_cases h : x.amt = 0
  · rw [if_pos h]; simp [h]
  · rw [if_neg h]; simp [h]
/-- One more has come. -/
theorem Tg.more {W U : World} {n mb : Nat} {ps : List Pt} {vs : Nat → Value} {r : Nat} {sn : List Nat} {lv lv' : Value} {V : World} (h : Tg W n mb ps vs r sn lv V) {i : Nat} (hi : i < ps.length) (hns : i ∉ sn) (hok : -9223372036854775808 ≤ (ps[i]).zs.sum ∧ (ps[i]).zs.sum ≤ 9223372036854775807)
    (hit : U.heap[r]? = some (.mapIter (some mb) ps.length (sn ++ [i]).toArray ps.length)) (hpm : PMp U n mb ps vs) (hrow : BlRow U W.heap.size lv' (if (ps[i]).zs.sum = 0 then full (sn.map (balAt ps)) else full (sn.map (balAt ps)) ++ [(ps[i]).bal])) (hbel : Below W.heap.size W U) : Tg W n mb ps vs r (sn ++ [i]) lv' U := by
  refine ⟨?_, fun j hj => ?_, fun j hj => ?_, hit, hpm, ?_, hbel⟩
  · rw [List.nodup_append]
    exact ⟨h.nd, by simp, fun a ha b hb e => hns (by rw [List.mem_singleton.1 hb] at e; rw [← e]; exact ha)⟩
  · rcases List.mem_append.1 hj with hj | hj
    · exact h.lt j hj
    · rw [List.mem_singleton.1 hj]; exact hi
  · rcases List.mem_append.1 hj with hj | hj
    · exact h.ok j hj
    · rw [List.mem_singleton.1 hj, balAt_get ps i hi]; exact hok
  · rw [List.map_append, List.map_cons, List.map_nil, full_snoc, balAt_get ps i hi]
    exact hrow

set_option maxHeartbeats 4000000 in
theorem ldTogether_any (W : World) (n mb : Nat) (ps : List Pt) (vs : Nat → Value) (h : PMp W n mb ps vs) (hz : ∀ p ∈ ps, p.zs.length ≤ 17592186044416) (hn : ps.length ≤ 4611686018427387904) :
    Calls Try.prog 23 #[.map (some mb)] W fun e w' => Below W.heap.size W w' ∧ (tgE ps ≠ 0 → e = .returned (.tuple #[.slice none 0 0, enE (tgE ps)])) ∧ (tgE ps = 0 → ∃ v R, e = .returned (.tuple #[v, .nilIface]) ∧ Hid (BlRow w' W.heap.size v R ∧ Rises R ∧ R.Perm (full (ps.map Pt.bal)))) := by
  have hln := fun ty => run_pmlen h ty
  by_cases h2 : 200 < ps.length
  · have e4 : tgE ps = 4 := if_pos h2
    rw [e4]
    have i1 : (200 : Int) < ps.length := by omega
    clear h e4
    go_enter Try.func23, Try.ntmps23
    go_wp2
    go_ret2
    exact ⟨Below.refl _ _, fun _ => rfl, fun h => by cases h⟩
  have i1 : ¬ (200 : Int) < ps.length := by omega
  have hrg := run_range_map W 66 88 52 mb _ _ pt_under h.map
  have HT0 : Hid (Tg W n mb ps vs W.heap.size [] (.slice none 0 0) (W.alloc (.mapIter (some mb) ps.length #[] ps.length))) := by
    have hb : Below W.heap.size W (W.alloc (.mapIter (some mb) ps.length #[] ps.length)) := (Below.refl _ W).alloc (Nat.le_refl _) _
    exact ⟨List.nodup_nil, fun i hi => by simp at hi, fun i hi => by simp at hi, ld_new_heap W _, h.below hb, BlRow.nil _ _, hb⟩
  have Hz : Hid (∀ p ∈ ps, p.zs.length ≤ 17592186044416) := hz
  clear h hz
  go_enter Try.func23, Try.ntmps23
  go_wp2_with fail
  go_loopw [4] (fun lv wr => ∃ sn, Hid (Tg W n mb ps vs W.heap.size sn lv wr)) (fun _ wr => ps.length - itLen wr W.heap.size)
  case atStart => exact ⟨[], HT0⟩
  case round =>
    obtain ⟨sn, HT⟩ := hrel
    obtain ⟨a4, c4, rfl, _⟩ := HT.out.row.isBl
    obtain ⟨L4, hL4⟩ : ∃ L4, (full (sn.map (balAt ps))).length = L4 := ⟨_, rfl⟩
    have HL4 : Hid ((full (sn.map (balAt ps))).length = L4) := hL4
    rw [hL4] at HT ⊢
    clear hL4
    rcases parts_next HT.out.pm HT.out.it 0 with ⟨hall, hrun⟩ | ⟨i, hi, hns, W1, hrun, hit, hgr, hsz, hent⟩
    · -- all were there
      have hok : tgE ps = 0 := by
        unfold tgE
        rw [if_neg h2, if_pos (List.all_eq_true.2 (fun p hp => ?_))]
        obtain ⟨i, hi, rfl⟩ := List.getElem_of_mem hp
        have := HT.out.ok i (hall i hi)
        rw [balAt_get ps i hi] at this
        exact decide_eq_true this
      have hpm : (sn.map (balAt ps)).Perm (ps.map Pt.bal) := by
        rw [← balAt_all]
        exact (seen_perm HT.out.nd HT.out.lt hall).map _
      have hfp : (full (sn.map (balAt ps))).Perm (full (ps.map Pt.bal)) := hpm.filter _
      have hnd : ((full (sn.map (balAt ps))).map Bl.key).Nodup := by
        have h3 : ((ps.map Pt.bal).map Bl.key).Nodup := by
          rw [List.map_map]
          exact HT.out.pm.nodup
        have h4 := ((hpm.map Bl.key).nodup_iff).2 h3
        exact (List.Sublist.map Bl.key List.filter_sublist).nodup h4
      have hle : (full (sn.map (balAt ps))).length ≤ 1000000 := by
        have h5 := full_len (sn.map (balAt ps))
        have h6 := seen_le HT.out.nd HT.out.lt
        simp only [List.length_map] at h5
        omega
      have HS : Hid (Calls _ _ _ wr _) := sort_any wr W.heap.size (.slice a4 L4 c4) _ HT.out.row hle hnd
      have HQ : Hid (Below W.heap.size W wr ∧ (∀ j, (Value.slice a4 L4 c4).ownBlock = some j → W.heap.size ≤ j)) := ⟨HT.out.bel, fun j e => (row_block HT.out.row e).1⟩
      have HP : Hid ((full (sn.map (balAt ps))).Perm (full (ps.map Pt.bal))) := hfp
      have HOK : Hid (tgE ps = 0) := hok
      clear HT hpm hfp hnd hle hall hln hrg HT0 hok
      go_wp2_with (go_at_call 42; refine HS.out.mono ?_; rintro e w' ⟨rfl, R, hR1, hR2, hR3, hR4⟩)
      go_ret2
      exact ⟨HQ.out.1.grown hR4 HQ.out.1.size HQ.out.2, fun h => absurd HOK.out h, fun _ => ⟨_, R, rfl, hR3, hR2, hR1.trans HP.out⟩⟩
    · have hrI := HT.out.it
      have hrlt : W.heap.size < wr.heap.size := (Array.getElem?_eq_some_iff.1 hrI).1
      have hpm1 : PMp W1 n mb ps vs := HT.out.pm.keep (fun es c e => hgr.block mb (Array.getElem?_eq_some_iff.1 e).1 (fun e2 => by cases e2; rw [hrI] at e; cases e)) (fun g cs e => hgr.block g (Array.getElem?_eq_some_iff.1 e).1 (fun e2 => by cases e2; rw [hrI] at e; cases e))
      have hrow1 : BlRow W1 W.heap.size (.slice a4 L4 c4) (full (sn.map (balAt ps))) := row_keep HT.out.row (fun g eg => by
        obtain ⟨_, g2, cs, e⟩ := row_block HT.out.row eg
        exact hgr.block g g2 (fun e2 => by cases e2; rw [hrI] at e; cases e))
      have hbel1 : Below W.heap.size W W1 := HT.out.bel.grown hgr HT.out.bel.size (fun j e => by cases e; exact Nat.le_refl _)
      have HTg : Hid (Tg W n mb ps vs W.heap.size sn (.slice a4 L4 c4) wr) := HT
      obtain ⟨⟨k0, k1, k2⟩, hkk⟩ : ∃ kk : Pk, (ps[i]).key = kk := ⟨_, rfl⟩
      obtain ⟨V, hV⟩ : ∃ V, W1.alloc (.cells #[.int .i64 k0, .string k1, .string k2] 88) = V := ⟨_, rfl⟩
      have hbV : Below W1.heap.size W1 V := by rw [← hV]; exact (Below.refl _ _).alloc (Nat.le_refl _) _
      have hVh : V.heap[W1.heap.size]? = some (.cells #[.int .i64 k0, .string k1, .string k2] 88 (0, 0)) := by rw [← hV]; exact ld_new_heap W1 _
      have c0 : V.cell? ⟨W1.heap.size, 0, none⟩ = some (.int .i64 k0) := by simp [World.cell?, hVh]
      have c1 : V.cell? ⟨W1.heap.size, 1, none⟩ = some (.string k1) := by simp [World.cell?, hVh]
      have c2 : V.cell? ⟨W1.heap.size, 2, none⟩ = some (.string k2) := by simp [World.cell?, hVh]
      have hpmV := hpm1.below hbV
      have hrowV : BlRow V W.heap.size (.slice a4 L4 c4) (full (sn.map (balAt ps))) := hrow1.below hbV
      have hitV : V.heap[W.heap.size]? = some (.mapIter (some mb) ps.length (sn ++ [i]).toArray ps.length) := (hbV.block _ (Array.getElem?_eq_some_iff.1 hit).1).trans hit
      have hbelV : Below W.heap.size W V := hbel1.trans (hbV.mono hbel1.size)
      have HSum : Hid (Calls _ _ _ V _) := sum_own n (ps[i]).zs.length 3 (vs i) (ps[i]).zs V (by have := Hz.out _ (List.getElem_mem hi); omega) (fun j hj => hpmV.i64 _ (List.getElem_mem hi) _ (by rw [List.getD_eq_getElem?_getD, List.getElem?_eq_getElem hj]; exact List.getElem_mem hj)) (hpmV.rows i hi)
      simp only [plV, hkk] at hrun hent
      obtain ⟨S, hS⟩ : ∃ S, (ps[i]).zs.sum = S := ⟨_, rfl⟩
      rw [hS] at HSum
      have HV : Hid (W1.alloc (.cells #[.int .i64 k0, .string k1, .string k2] 88) = V) := hV
      have HVS : Hid (PMp V n mb ps vs ∧ BlRow V W.heap.size (.slice a4 L4 c4) (full (sn.map (balAt ps))) ∧ V.heap[W.heap.size]? = some (.mapIter (some mb) ps.length (sn ++ [i]).toArray ps.length) ∧ Below W.heap.size W V) := ⟨hpmV, hrowV, hitV, hbelV⟩
      have HI : Hid (itLen wr W.heap.size = sn.length ∧ sn.length + 1 ≤ ps.length) := ⟨itLen_eq hrI, by
        have := seen_le (n := ps.length) (sn := sn ++ [i]) (by
          rw [List.nodup_append]
          exact ⟨HTg.out.nd, by simp, fun a ha b hb e => hns (by rw [List.mem_singleton.1 hb] at e; rw [← e]; exact ha)⟩) (fun j hj => by
          rcases List.mem_append.1 hj with hj | hj
          · exact HTg.out.lt j hj
          · rw [List.mem_singleton.1 hj]; exact hi)
        simpa using this⟩
      clear hpmV hrowV hitV hbelV hpm1 hrow1 hbel1 hbV hV hit hgr hsz hrlt hrI HT HT0 hrg hln hVh
      by_cases hfit : -9223372036854775808 ≤ S ∧ S ≤ 9223372036854775807
      · obtain ⟨e1, e2⟩ := sum_fit S hfit
        rw [e1, e2] at HSum
        clear e1 e2
        have HBal : Hid ((ps[i]).bal = ⟨k0, k1, k2, S⟩) := by
          unfold Hid Pt.bal
          rw [hkk, hS]
        by_cases h0 : S = 0
        · subst h0
          have HN : Hid (Tg W n mb ps vs W.heap.size (sn ++ [i]) (.slice a4 L4 c4) V) := HTg.out.more hi hns (by rw [hS]; exact hfit) HVS.out.2.2.1 HVS.out.1 (by rw [hS, if_pos rfl]; exact HVS.out.2.1) HVS.out.2.2.2
          have HM : Hid (ps.length - itLen V W.heap.size < ps.length - itLen wr W.heap.size) := by
            have e1 := itLen_eq HVS.out.2.2.1
            have := HI.out
            unfold Hid
            rw [e1, List.length_append]
            simp only [List.length_cons, List.length_nil]
            omega
          clear HVS HTg c0 c1 c2
          go_wp2_with (first | (go_at_call 37; rw [HV.out]; refine HSum.out.mono ?_; rintro e w' ⟨rfl, hw⟩; obtain rfl := hw.symm))
          go_roundw
          case rel => exact ⟨_, HN⟩
          case measure => exact HM.out
        · have h0' : (S != 0) = true := by simp [h0]
          obtain ⟨X, hX⟩ : ∃ X, V.alloc (.cells #[.int .i64 k0, .string k1, .string k2, .int .i64 S] 34) = X := ⟨_, rfl⟩
          have hbX : Below V.heap.size V X := by rw [← hX]; exact (Below.refl _ _).alloc (Nat.le_refl _) _
          have hXh : X.heap[V.heap.size]? = some (.cells #[.int .i64 k0, .string k1, .string k2, .int .i64 S] 34 (0, 0)) := by rw [← hX]; exact ld_new_heap V _
          have Hsrc : Hid (∀ j' u, [Value.int .i64 k0, .string k1, .string k2, .int .i64 S][j']? = some u → X.cell? ((⟨V.heap.size, 0, none⟩ : Addr).add j') = some u) := World.news_of_block hXh
          have HXr : Hid (X.ownsRow W.heap.size 34 4 (.slice a4 L4 c4) L4 (blRow (full (sn.map (balAt ps))))) := by
            have := HVS.out.2.1.below hbX
            unfold BlRow at this
            rw [HL4.out] at this
            exact this
          have Hle : Hid ((full (sn.map (balAt ps))).length ≤ 200) := by
            have h5 := full_len (sn.map (balAt ps))
            have := HI.out
            simp only [List.length_map] at h5
            unfold Hid
            omega
          have HN : Hid (∀ v' U, U.ownsRow W.heap.size 34 4 v' (L4 + 1) (blRow (full (sn.map (balAt ps))) ++ [Value.int .i64 k0, .string k1, .string k2, .int .i64 S]) → X.grownBy U (Value.slice a4 L4 c4).ownBlock → Tg W n mb ps vs W.heap.size (sn ++ [i]) v' U ∧ ps.length - itLen U W.heap.size < ps.length - itLen wr W.heap.size) := fun v' U ho hg => by
            have hblk : ∀ g, (Value.slice a4 L4 c4).ownBlock = some g → ∃ cs, X.heap[g]? = some (.cells cs 34 (0, 0)) := fun g e => (row_block HXr.out e).2.2
            have hitX : X.heap[W.heap.size]? = some (.mapIter (some mb) ps.length (sn ++ [i]).toArray ps.length) := (hbX.block _ (Array.getElem?_eq_some_iff.1 HVS.out.2.2.1).1).trans HVS.out.2.2.1
            have hitU : U.heap[W.heap.size]? = some (.mapIter (some mb) ps.length (sn ++ [i]).toArray ps.length) := (hg.block _ (Array.getElem?_eq_some_iff.1 hitX).1 (fun e => by
              obtain ⟨cs, e2⟩ := hblk _ e.symm
              rw [hitX] at e2
              cases e2)).trans hitX
            have hpmU : PMp U n mb ps vs := (HVS.out.1.below hbX).keep (fun es c e => hg.block mb (Array.getElem?_eq_some_iff.1 e).1 (fun e1 => by
              obtain ⟨cs, e2⟩ := hblk _ e1.symm
              rw [e] at e2
              cases e2)) (fun g cs e => hg.block g (Array.getElem?_eq_some_iff.1 e).1 (fun e1 => by
              obtain ⟨cs', e2⟩ := hblk _ e1.symm
              rw [e] at e2
              simp only [Option.some.injEq, Obj.cells.injEq] at e2
              exact absurd e2.2.1 (by decide)))
            refine ⟨HTg.out.more hi hns (by rw [hS]; exact hfit) hitU hpmU ?_ ?_, ?_⟩
            · rw [hS, if_neg h0, HBal.out]
              unfold BlRow
              rw [blRow_append, blRow_one, List.length_append, HL4.out]
              exact ho
            · exact (HVS.out.2.2.2.trans (hbX.mono HVS.out.2.2.2.size)).grown hg (Nat.le_trans HVS.out.2.2.2.size hbX.size) (fun g e => (row_block HXr.out e).1)
            · rw [itLen_eq hitU, List.length_append]
              have := HI.out
              simp only [List.length_cons, List.length_nil]
              omega
          have Hsz : Hid (W.heap.size ≤ X.heap.size) := Nat.le_trans HVS.out.2.2.2.size hbX.size
          have HX : Hid (V.alloc (.cells #[.int .i64 k0, .string k1, .string k2, .int .i64 S] 34) = X) := hX
          obtain ⟨qi, hq, hz0, hz1, hz2⟩ := info_parts bl_info
          have Hm1 : Hid (L4 + 1 ≤ maxLen) := by have := Hle.out; rw [HL4.out] at this; unfold Hid maxLen; omega
          have Hm2 : Hid ((L4 + 1) * 48 ≤ 140737488355328) := by have := Hle.out; rw [HL4.out] at this; unfold Hid; omega
          have Hs1 : Hid (∀ u ∈ [Value.int .i64 k0, .string k1, .string k2, .int .i64 S], u.oneCell' = true) := by
            intro u hu
            simp at hu
            rcases hu with rfl | rfl | rfl | rfl <;> rfl
          clear hbX hXh hX HTg HVS Hle HBal HL4
          generalize full (sn.map (balAt ps)) = F at *
          go_wp2_with (first | (go_at_call 37; rw [HV.out]; refine HSum.out.mono ?_; rintro e w' ⟨rfl, hw⟩; obtain rfl := hw.symm) | (at_builtin; rw [HX.out]; refine wpList_append_own _ rfl _ _ 24 rfl W.heap.size 34 qi (.agg #[.int .i64 0, .string ByteArray.empty, .string ByteArray.empty, .int .i64 0]) 4 48 Try.underlying24 hq hz0 hz1 hz2 rfl (by decide) _ _ _ rfl HXr.out ⟨V.heap.size, 0, none⟩ 1 1 [Value.int .i64 k0, .string k1, .string k2, .int .i64 S] rfl rfl Hsrc.out Hs1.out Hm1.out Hm2.out Hsz.out ?_))
          intro v' U ho hg _
          obtain ⟨g1, g2⟩ := HN.out v' U ho hg
          have G1 : Hid (Tg W n mb ps vs W.heap.size (sn ++ [i]) v' U) := g1
          have G2 : Hid (ps.length - itLen U W.heap.size < ps.length - itLen wr W.heap.size) := g2
          clear g1 g2 ho hg HN Hsrc HXr
          go_wp2_with fail
          go_roundw
          case rel => exact ⟨_, G1⟩
          case measure => exact G2.out
      · obtain ⟨e1, e2⟩ := sum_nofit S hfit
        rw [e1, e2] at HSum
        have HE : Hid (tgE ps = 10) := by
          unfold Hid tgE
          rw [if_neg h2, if_neg]
          intro hall
          have := List.all_eq_true.1 hall _ (List.getElem_mem hi)
          rw [hS] at this
          exact hfit (of_decide_eq_true this)
        have HB : Hid (Below W.heap.size W V) := HVS.out.2.2.2
        clear e1 e2 HVS HTg c0 c1 c2
        go_wp2_with (first | (go_at_call 37; rw [HV.out]; refine HSum.out.mono ?_; rintro e w' ⟨rfl, hw⟩; obtain rfl := hw.symm))
        go_ret2
        exact ⟨HB.out, fun _ => by rw [HE.out]; rfl, fun h => by rw [HE.out] at h; cases h⟩
end Go.Proofs.Ytbbegoklikaphaa
