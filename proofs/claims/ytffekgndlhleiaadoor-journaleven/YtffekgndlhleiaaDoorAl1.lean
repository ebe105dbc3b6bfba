/-
  Texts that are read; the contract of slices.Contains over them; what is wrong with a code.
-/
import Derived.Test.YtffekgndlhleiaaDoorCh7
namespace Go.Proofs.YtffekgndlhleiaaDoor
set_option linter.unusedVariables false
set_option linter.unusedSimpArgs false
set_option maxRecDepth 100000
open Go.RowKit Go.Lib

/-- A slice of texts that is read. -/
structure IsTx (w : World) (a : Option Addr) (l : List ByteArray) (cap : Nat) : Prop where
  cap : l.length ≤ cap
  lies : l = [] ∨ ∃ b off, a = some ⟨b, off, none⟩ ∧ b < w.heap.size ∧ ∀ k, k < l.length → w.cell? ⟨b, off + k, none⟩ = some (.string (l.getD k ByteArray.empty))
theorem IsTx.below {w w' : World} {a : Option Addr} {l : List ByteArray} {cap : Nat} (h : IsTx w a l cap) (hb : Below w.heap.size w w') : IsTx w' a l cap := by
  refine ⟨h.cap, ?_⟩
  rcases h.lies with h | ⟨b, off, e, hlt, hc⟩
  · exact .inl h
  · exact .inr ⟨b, off, e, by have := hb.size; omega, fun k hk => (hb.cell (p := ⟨b, off + k, none⟩) hlt).trans (hc k hk)⟩
theorem tx_take_getD (l : List ByteArray) (k j : Nat) (h : j < k) : (l.take k).getD j ByteArray.empty = l.getD j ByteArray.empty := by
  rw [List.getD_eq_getElem?_getD, List.getD_eq_getElem?_getD, List.getElem?_take, if_pos h]
theorem IsTx.take {w : World} {a : Option Addr} {l : List ByteArray} {cap : Nat} (h : IsTx w a l cap) (k : Nat) : IsTx w a (l.take k) cap := by
  refine ⟨by have := h.cap; simp; omega, ?_⟩
  rcases h.lies with h | ⟨b, off, e, hlt, hc⟩
  · exact .inl (by rw [h]; simp)
  · refine .inr ⟨b, off, e, hlt, fun j hj => ?_⟩
    simp only [List.length_take] at hj
    rw [tx_take_getD l k j (by omega)]
    exact hc j (by omega)
theorem IsTx.at {w : World} {a : Option Addr} {l : List ByteArray} {cap : Nat} (h : IsTx w a l cap) {k : Nat} (hk : k < l.length) : ∃ b off, a = some ⟨b, off, none⟩ ∧ b < w.heap.size ∧ w.cell? ⟨b, off + k, none⟩ = some (.string (l.getD k ByteArray.empty)) := by
  rcases h.lies with rfl | ⟨b, off, e, hlt, hc⟩
  · simp at hk
  · exact ⟨b, off, e, hlt, hc k hk⟩
theorem TxtRow.isTx {w : World} {n : Nat} {v : Value} {fs : List ByteArray} (h : TxtRow w n v fs) : ∃ a cap, v = .slice a fs.length cap ∧ IsTx w a fs cap := by
  rcases h.form with ⟨rfl, rfl⟩ | ⟨g, cap, rfl, _, hlt, hc, hr⟩
  · exact ⟨none, 0, rfl, Nat.le_refl _, .inl rfl⟩
  · exact ⟨_, cap, rfl, hc, .inr ⟨g, 0, rfl, hlt, fun k hk => by rw [Nat.zero_add]; exact hr k hk⟩⟩

set_option maxHeartbeats 1000000 in
theorem txIndex_some (b off cap : Nat) (fs : List ByteArray) (c : ByteArray) (w : World) (hlen : fs.length ≤ 1000) (hc : ∀ k, k < fs.length → w.cell? ⟨b, off + k, none⟩ = some (.string (fs.getD k ByteArray.empty))) :
    Calls Tryd.prog 50 #[.slice (some ⟨b, off, none⟩) fs.length cap, .string c] w fun e w' => e = .returned (.int .i64 (txtFrom c 0 fs)) ∧ w' = w := by
  have Hc : Hid (∀ k, k < fs.length → w.cell? ⟨b, off + k, none⟩ = some (.string (fs.getD k ByteArray.empty))) := hc
  have Hlen : (fs.length : Int) ≤ 1000 := by omega
  clear hc
  obtain ⟨res, hres⟩ : ∃ res, txtFrom c 0 fs = res := ⟨_, rfl⟩
  have Hres : Hid (txtFrom c 0 fs = res) := hres
  rw [hres]
  clear hres
  go_enter Tryd.func50, Tryd.ntmps50
  go_wp2
  go_loop [8] (fun i => ∃ k : Nat, k ≤ fs.length ∧ i = .int .i64 k ∧ Hid (txtFrom c k (fs.drop k) = res)) (fun i => fs.length - (intOf i).toNat)
  case atStart => exact ⟨0, Nat.zero_le _, rfl, Hres.out⟩
  case round =>
    obtain ⟨k, hk, rfl, H⟩ := hrel
    by_cases hlt : k < fs.length
    · have hn := Hc.out k hlt
      have E : Hid ((if fs.getD k ByteArray.empty = c then (k : Int) else txtFrom c (k + 1) (fs.drop (k + 1))) = res) := by
        have := H.out
        rw [txt_drop fs k hlt] at this
        exact this
      clear H
      generalize fs.getD k ByteArray.empty = x at *
      have i0 : (0 : Int) ≤ k := by omega
      have i1 : (k : Int) < fs.length := by omega
      by_cases hx : x = c
      · have er : res = k := by rw [← E.out, if_pos hx]
        subst er
        subst hx
        go_wp2
        go_ret
        exact ⟨rfl, rfl⟩
      · have hx' := ch_ne (fun e => hx (Eq.symm e) : c ≠ x)
        have HN : Hid (txtFrom c (k + 1) (fs.drop (k + 1)) = res) := by
          have := E.out; rw [if_neg hx] at this; exact this
        go_wp2
        go_round
        case rel => exact ⟨k + 1, by omega, by go_num, HN⟩
        case measure => simp [intOf]; omega
    · have hk2 : k = fs.length := by omega
      subst hk2
      have er : res = -1 := by rw [← H.out, List.drop_length]; rfl
      subst er
      go_wp2
      go_ret
      exact ⟨rfl, rfl⟩

theorem txIndex_none (a : Option Addr) (cap : Nat) (c : ByteArray) (w : World) :
    Calls Tryd.prog 50 #[.slice a 0 cap, .string c] w fun e w' => e = .returned (.int .i64 (-1)) ∧ w' = w := by
  go_enter Tryd.func50, Tryd.ntmps50
  go_wp2
  refine wp_loop_rounds 1 ?_
  rw [rounds_succ]
  go_wp2
  go_ret
  exact ⟨rfl, rfl⟩

theorem txContains_any (a : Option Addr) (cap : Nat) (fs : List ByteArray) (c : ByteArray) (w : World) (hlen : fs.length ≤ 1000) (h : IsTx w a fs cap) :
    Calls Tryd.prog 31 #[.slice a fs.length cap, .string c] w fun e w' => e = .returned (.bool (memB c fs)) ∧ w' = w := by
  rw [← txtFrom_mem c fs 0]
  have hI : Calls Tryd.prog 50 #[.slice a fs.length cap, .string c] w fun e w' => e = .returned (.int .i64 (txtFrom c 0 fs)) ∧ w' = w := by
    rcases h.lies with rfl | ⟨b, off, rfl, _, hc⟩
    · exact txIndex_none a cap c w
    · exact txIndex_some b off cap fs c w hlen hc
  clear h
  go_enter Tryd.func31, Tryd.ntmps31
  go_wp2_with fail
  refine hI.mono ?_
  rintro e w' ⟨rfl, rfl⟩
  go_wp2
  go_ret
  exact ⟨rfl, rfl⟩

/-- What is wrong with a code: it is no account's, or no leaf's. -/
def leafBad (c : List Ac) (code : ByteArray) : Int := if idxP (hasCode code) c < 0 then 6 else if memB code (lvs c) = true then 0 else 12

/-- The first number that is not 0. -/
def firstTo (f : Nat → Int) : Nat → Int
  | 0 => 0
  | k + 1 => if firstTo f k ≠ 0 then firstTo f k else f k
theorem firstTo_next {f : Nat → Int} {k : Nat} (h : firstTo f k = 0) : firstTo f (k + 1) = f k := by
  unfold firstTo; rw [if_neg (by simp [h])]
theorem firstTo_stays {f : Nat → Int} {k : Nat} (h : firstTo f k ≠ 0) : ∀ n, k ≤ n → firstTo f n = firstTo f k
  | 0, hn => by obtain rfl : k = 0 := by omega
                rfl
  | n + 1, hn => by
    by_cases e : k = n + 1
    · subst e; rfl
    · have ih := firstTo_stays h n (by omega)
      show (if firstTo f n ≠ 0 then firstTo f n else f n) = _
      rw [if_pos (by rw [ih]; exact h), ih]
theorem firstTo_first {f : Nat → Int} {n k : Nat} (h0 : firstTo f k = 0) (h1 : f k ≠ 0) (hlt : k < n) : firstTo f n = f k := by
  have e := firstTo_next h0
  rw [firstTo_stays (k := k + 1) (by rw [e]; exact h1) n hlt, e]
theorem firstTo_zero {f : Nat → Int} : ∀ {n : Nat}, firstTo f n = 0 → ∀ k, k < n → f k = 0
  | 0, _, k, hk => by omega
  | n + 1, h, k, hk => by
    have h0 : firstTo f n = 0 := by
      by_cases e : firstTo f n = 0
      · exact e
      · rw [firstTo_stays e (n + 1) (by omega)] at h; exact absurd h e
    rw [firstTo_next h0] at h
    by_cases e : k = n
    · subst e; exact h
    · exact firstTo_zero h0 k (by omega)
theorem firstTo_of {f : Nat → Int} : ∀ {n : Nat}, (∀ k, k < n → f k = 0) → firstTo f n = 0
  | 0, _ => rfl
  | n + 1, h => by rw [firstTo_next (firstTo_of fun k hk => h k (by omega))]; exact h n (by omega)

end Go.Proofs.YtffekgndlhleiaaDoor
