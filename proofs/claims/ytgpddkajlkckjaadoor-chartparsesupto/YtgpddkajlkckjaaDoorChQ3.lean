/-
  The contract of dayref1.Cut.
-/
import Derived.Test.YtgpddkajlkckjaaDoorChQ2
import Derived.Maps.AppendAt
namespace Go.Proofs.YtgpddkajlkckjaaDoor
set_option linter.unusedVariables false
set_option linter.unusedSimpArgs false
set_option maxRecDepth 100000
open Go.RowKit

/-- Texts in a row of the call's own. -/
def CutRow (w : World) (n : Nat) (v : Value) (fs : List ByteArray) : Prop := w.ownsRow n 9 1 v fs.length (fs.map Value.string)
theorem CutRow.form {w : World} {n : Nat} {v : Value} {fs : List ByteArray} (h : CutRow w n v fs) : (v = .slice none 0 0 ∧ fs = []) ∨ ∃ g cap, v = .slice (some ⟨g, 0, none⟩) fs.length cap ∧ n ≤ g ∧ g < w.heap.size ∧ fs.length ≤ cap ∧ ∀ k, k < fs.length → w.cell? ⟨g, k, none⟩ = some (.string (fs.getD k ByteArray.empty)) := by
  rcases h.2 with ⟨rfl, hn⟩ | ⟨g, cap, cur, rfl, hg, hh, hc, _⟩
  · exact .inl ⟨rfl, List.eq_nil_of_length_eq_zero hn⟩
  · refine .inr ⟨g, cap, rfl, hg, (Array.getElem?_eq_some_iff.1 hh).1, hc, fun k hk => ?_⟩
    have := World.ownsRow.cells h (g := g) rfl k (.string (fs.getD k ByteArray.empty)) (by simp [hk])
    rcases Nat.eq_zero_or_pos k with rfl | hp
    · simpa [Addr.add] using this
    · simpa [Addr.add, Nat.ne_of_gt hp] using this
theorem CutRow.own {w : World} {n : Nat} {v : Value} {xs : List ByteArray} (h : CutRow w n v xs) : ∀ j, v.ownBlock = some j → n ≤ j := fun j ej => by
  rcases h.2 with ⟨rfl, _⟩ | ⟨g1, c1, cur, rfl, hg1, _⟩
  · cases ej
  · cases ej; exact hg1
theorem cut_info : (Tryd.prog.info? 9).map (fun i => (i.zero, i.size, i.bytes)) = some (some (.string ByteArray.empty), 1, 16) := by kernel_rfl
theorem cut_cell (W : World) (v : Value) (t : TypeId) : ∀ j u, ([v] : List Value)[j]? = some u → (W.alloc (.cells #[v] t)).cell? ((⟨W.heap.size, 0, none⟩ : Addr).add j) = some u := by
  intro j u hj
  rcases j with _ | j
  · simp at hj
    subst hj
    simp [Addr.add]
  · simp at hj

theorem drop_split {l : List UInt8} {f k : Nat} (hf : f ≤ k) (hk : k < l.length) : l.drop f = (l.take k).drop f ++ l[k] :: l.drop (k + 1) := by
  have h1 : l = l.take k ++ l.drop k := (List.take_append_drop k l).symm
  have h2 : l.drop k = l[k] :: l.drop (k + 1) := List.drop_eq_getElem_cons hk
  have h3 : f ≤ (l.take k).length := by rw [List.length_take]; omega
  calc l.drop f = (l.take k ++ l.drop k).drop f := by rw [← h1]
    _ = (l.take k).drop f ++ l.drop k := by rw [List.drop_append_of_le_length h3]
    _ = _ := by rw [h2]
theorem take_more {l : List UInt8} {f k : Nat} (hf : f ≤ k) (hk : k < l.length) : (l.take (k + 1)).drop f = (l.take k).drop f ++ [l[k]] := by
  have h3 : f ≤ (l.take k).length := by rw [List.length_take]; omega
  rw [List.take_succ_eq_append_getElem hk, List.drop_append_of_le_length h3]

/-- Where the cutting of a text stands. -/
structure CutAt (c : UInt8) (l : List UInt8) (dn : List (List UInt8)) (f k : Nat) : Prop where
  fk : f ≤ k
  kl : k ≤ l.length
  all : cutL c l = dn ++ cutL c (l.drop f)
  no : c ∉ (l.take k).drop f
  few : dn.length ≤ f
theorem CutAt.start (c : UInt8) (l : List UInt8) : CutAt c l [] 0 0 := ⟨Nat.le_refl _, Nat.zero_le _, rfl, by simp, Nat.le_refl _⟩
theorem CutAt.hit {c : UInt8} {l : List UInt8} {dn : List (List UInt8)} {f k : Nat} (h : CutAt c l dn f k) (hk : k < l.length) (hc : l[k] = c) : CutAt c l (dn ++ [(l.take k).drop f]) (k + 1) (k + 1) := by
  refine ⟨Nat.le_refl _, hk, ?_, by simp, ?_⟩
  · rw [h.all, drop_split h.fk hk, hc, cutL_hit c _ _ h.no]
    simp
  · have := h.few
    have := h.fk
    simp
    omega
theorem CutAt.miss {c : UInt8} {l : List UInt8} {dn : List (List UInt8)} {f k : Nat} (h : CutAt c l dn f k) (hk : k < l.length) (hc : l[k] ≠ c) : CutAt c l dn f (k + 1) := by
  refine ⟨Nat.le_succ_of_le h.fk, hk, h.all, ?_, h.few⟩
  rw [take_more h.fk hk]
  intro hm
  rcases List.mem_append.1 hm with e | e
  · exact h.no e
  · exact hc (List.mem_singleton.1 e).symm
theorem CutAt.done {c : UInt8} {l : List UInt8} {dn : List (List UInt8)} {f k : Nat} (h : CutAt c l dn f k) (hk : ¬ k < l.length) : cutL c l = dn ++ [l.drop f] := by
  have hk' : k = l.length := by have := h.kl; omega
  have hn := h.no
  rw [hk', List.take_length] at hn
  rw [h.all, cutL_miss c _ hn]
/-- The parts as texts. -/
def cutB (c : UInt8) (s : ByteArray) : List ByteArray := (cutL c s.data.toList).map txt
theorem cutB_len (c : UInt8) (s : ByteArray) : (cutB c s).length ≤ s.size + 1 := by
  unfold cutB
  rw [List.length_map, cutL_length]
  have : s.data.toList.count c ≤ s.data.toList.length := List.count_le_length
  have e : s.data.toList.length = s.size := by simp
  omega

set_option maxHeartbeats 2000000 in
theorem refCut_any (s : ByteArray) (c : UInt8) (w : World) (hs : s.size ≤ 1048576) :
    Calls Tryd.prog 10 #[.string s, .int .u8 (c.toNat : Int)] w fun e w' => ∃ v, e = .returned v ∧ CutRow w' w.heap.size v (cutB c s) ∧ Below w.heap.size w w' := by
  obtain ⟨l, hl⟩ : ∃ l, s.data.toList = l := ⟨_, rfl⟩
  have hsl : s.size = l.length := by rw [← hl]; simp
  have Hsl : Hid (s.size = l.length) := hsl
  have hst : s = txt l := by rw [← hl]; exact txt_of s
  have Hst : Hid (s = txt l) := hst
  have hB : cutB c s = (cutL c l).map txt := by unfold cutB; rw [hl]
  rw [hB]
  obtain ⟨i0, hi, hz0, hz1, hz2⟩ := info_parts cut_info
  have Hl : Hid (s.data.toList = l) := hl
  clear hB hst hsl hl
  go_enter Tryd.func10, Tryd.ntmps10
  go_wp2
  go_loopw [5, 6, 7] (fun v fv i wr => ∃ f k : Nat, ∃ dn : List (List UInt8), k ≤ s.size ∧ f ≤ k ∧ fv = .int .i64 f ∧ i = .int .i64 k ∧ Hid (CutAt c l dn f k) ∧ Hid (CutRow wr w.heap.size v (dn.map txt)) ∧ Below w.heap.size w wr) (fun _ _ i _ => s.size - (intOf i).toNat)
  case atStart => exact ⟨0, 0, [], Nat.zero_le _, Nat.le_refl _, rfl, rfl, CutAt.start c l, World.ownsRow_nil _ _ _ _, Below.refl _ _⟩
  case round =>
    obtain ⟨f, k, dn, hk, hfk, rfl, rfl, C, R, BW⟩ := hrel
    have hsz := BW.size
    have hfew := C.out.few
    obtain ⟨ds, hds⟩ : ∃ ds, dn.map txt = ds := ⟨_, rfl⟩
    have hlen : ds.length = dn.length := by rw [← hds]; exact List.length_map ..
    have Hds : Hid (dn.map txt = ds) := hds
    rw [hds] at R
    have j0 : (0 : Int) ≤ f := by omega
    have j1 : (f : Int) ≤ k := by omega
    have j2 : (k : Int) ≤ s.size := by omega
    have hsm : (s.size : Int) ≤ 1048576 := by omega
    have s2 : Hid (ds.length + 1 ≤ maxLen) := by unfold Hid maxLen; rw [hlen]; omega
    have s3 : Hid ((ds.length + 1) * 16 ≤ 140737488355328) := by unfold Hid; rw [hlen]; omega
    clear hds hlen
    have hoj := R.out.own
    by_cases hlt : k < s.size
    · have j3 : (0 : Int) ≤ k := by omega
      have j4 : (k : Int) < s.size := by omega
      obtain ⟨b, hb⟩ : ∃ b, (s[k]'hlt).toNat = b := ⟨_, rfl⟩
      have hkl : k < l.length := by have := Hsl.out; omega
      have hbl : (l[k]'hkl).toNat = b := by
        rw [← hb]
        have : s[k]'hlt = l[k]'hkl := by
          show s.data[k] = _
          simp [← Hl.out]
        rw [this]
      by_cases hc : b = c.toNat
      · have hc' : l[k]'hkl = c := UInt8.toNat_inj.1 (by rw [hbl, hc])
        have HC : Hid (CutAt c l _ (k + 1) (k + 1)) := C.out.hit hkl hc'
        obtain ⟨x, hx⟩ : ∃ x, s.extract f k = x := ⟨_, rfl⟩
        have hx2 : x = txt ((l.take k).drop f) := by rw [← hx, Hst.out, txt_extract]
        have Hx2 : Hid (x = txt ((l.take k).drop f)) := hx2
        subst hc
        clear hx2 hbl hc' C
        go_wp2_with (at_builtin; refine wpList_append_own _ rfl _ _ 37 rfl w.heap.size 9 i0 (.string ByteArray.empty) 1 16 Tryd.underlying37 hi hz0 hz1 hz2 rfl (by decide) _ _ _ rfl (World.ownsRow.alloc R.out _) ⟨wr.heap.size, 0, none⟩ 1 1 [.string x] rfl rfl (cut_cell _ _ _) (by simp [Value.oneCell']) s2.out s3.out (by simp; omega) ?_)
        intro v' w3 hown hgrow _
        have B3 : Below w.heap.size w w3 := (BW.alloc hsz (.cells #[.string x] 9)).grown hgrow (by simp; omega) (fun j e => hoj j e)
        have HR : Hid (CutRow w3 w.heap.size v' ((dn ++ [(l.take k).drop f]).map txt)) := by
          unfold Hid CutRow
          rw [List.map_append, List.map_append, List.length_append, Hds.out]
          have e1 : ([(l.take k).drop f].map txt).map Value.string = [.string x] := by rw [Hx2.out]; rfl
          rw [e1]
          exact hown
        clear hown hgrow R Hx2 hoj s2 s3
        go_wp2
        go_roundw
        case rel => exact ⟨k + 1, k + 1, _, by omega, Nat.le_refl _, by go_num, by go_num, HC, HR, B3⟩
        case measure => simp [intOf]; omega
      · have hc' : l[k]'hkl ≠ c := fun e => hc (by rw [← hbl, e])
        have HC : Hid (CutAt c l dn f (k + 1)) := C.out.miss hkl hc'
        have hcb : ((b : Int) == (c.toNat : Int)) = false := by simp; omega
        clear hc' C hbl s2 s3 hoj
        rw [← Hds.out] at R
        go_wp2
        go_roundw
        case rel => exact ⟨f, k + 1, dn, by omega, by omega, rfl, by go_num, HC, R, BW⟩
        case measure => simp [intOf]; omega
    · have hall := C.out.done (by have := Hsl.out; omega)
      obtain ⟨x, hx⟩ : ∃ x, s.extract f s.size = x := ⟨_, rfl⟩
      have hx2 : x = txt (l.drop f) := by
        rw [← hx, Hst.out, txt_extract, txt_size, List.take_length]
      have Hx2 : Hid (x = txt (l.drop f)) := hx2
      have Hall : Hid (cutL c l = dn ++ [l.drop f]) := hall
      have hk2 : k = s.size := by omega
      subst hk2
      clear hx2 hall C
      go_wp2_with (at_builtin; refine wpList_append_own _ rfl _ _ 37 rfl w.heap.size 9 i0 (.string ByteArray.empty) 1 16 Tryd.underlying37 hi hz0 hz1 hz2 rfl (by decide) _ _ _ rfl (World.ownsRow.alloc R.out _) ⟨wr.heap.size, 0, none⟩ 1 1 [.string x] rfl rfl (cut_cell _ _ _) (by simp [Value.oneCell']) s2.out s3.out (by simp; omega) ?_)
      intro v' w3 hown hgrow _
      have B3 : Below w.heap.size w w3 := (BW.alloc hsz (.cells #[.string x] 9)).grown hgrow (by simp; omega) (fun j e => hoj j e)
      have HR : Hid (CutRow w3 w.heap.size v' ((cutL c l).map txt)) := by
        unfold Hid CutRow
        rw [Hall.out, List.map_append, List.map_append, List.length_append, Hds.out]
        have e1 : ([l.drop f].map txt).map Value.string = [.string x] := by rw [Hx2.out]; rfl
        rw [e1]
        exact hown
      clear hown hgrow R Hx2 hoj s2 s3 Hall
      go_wp2
      go_ret
      exact ⟨_, rfl, HR.out, B3⟩
end Go.Proofs.YtgpddkajlkckjaaDoor
