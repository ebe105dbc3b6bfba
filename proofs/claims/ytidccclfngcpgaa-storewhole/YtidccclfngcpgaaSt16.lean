/-
  Numbers alone: what pages a disk has, before a Commit and behind it.
-/
import Derived.Test.YtidccclfngcpgaaSt15
namespace Go.Proofs.Ytidccclfngcpgaa
set_option linter.unusedVariables false
set_option linter.unusedSimpArgs false
set_option maxRecDepth 100000
open Go.RowKit Go.Lib
theorem getD_set_ne {α : Type} (l : List α) (i j : Nat) (x d : α) (h : i ≠ j) : (l.set i x).getD j d = l.getD j d := by
  rw [List.getD_eq_getElem?_getD, List.getElem?_set_ne h, ← List.getD_eq_getElem?_getD]
theorem getD_set_eq {α : Type} (l : List α) (i : Nat) (x d : α) (h : i < l.length) : (l.set i x).getD i d = x := by
  rw [List.getD_eq_getElem?_getD, List.getElem?_set_self h]
  rfl
theorem wpD_now_len (h : Hd) (P : List (Nat × List UInt8)) (D : Dk) (k : Nat) : (wpD h P D k).now.length = D.now.length := by
  induction k with
  | zero => rfl
  | succ k ih =>
    unfold wpD
    split
    · exact ih
    · simp only [Dk.write, List.length_set, ih]
/-- A block that is no page's that is written stays. -/
theorem wpD_stay (h : Hd) (P : List (Nat × List UInt8)) (D : Dk) (b : Nat) : ∀ k, (∀ j, j < k → look P j ≠ none → freeB j (h.whr.getD j 0) ≠ b) → (wpD h P D k).now.getD b bk0 = D.now.getD b bk0
  | 0, _ => rfl
  | k + 1, hj => by
    unfold wpD
    split
    · exact wpD_stay h P D b k (fun j hjk => hj j (by omega))
    · rename_i l hq
      simp only [Dk.write]
      rw [getD_set_ne _ _ _ _ _ (hj k (by omega) (by rw [hq]; simp))]
      exact wpD_stay h P D b k (fun j hjk => hj j (by omega))
theorem freeB_cases (k : Nat) (x : UInt8) : freeB k x = 2 + k ∨ freeB k x = 42 + k := by unfold freeB; split <;> simp
theorem freeB_apart {j k : Nat} (hj : j < 40) (hk : k < 40) (h : j ≠ k) (x y : UInt8) : freeB j x ≠ freeB k y := by
  rcases freeB_cases j x with e | e <;> rcases freeB_cases k y with e' | e' <;> omega
/-- A page that is written is there. -/
theorem wpD_there (h : Hd) (P : List (Nat × List UInt8)) (D : Dk) (n : Nat) (hl : D.now.length = n) (hn : 90 ≤ n) (j : Nat) (hj : j < 40) (l : List UInt8) (hq : look P j = some l) : ∀ k, j < k → k ≤ 40 → (wpD h P D k).now.getD (freeB j (h.whr.getD j 0)) bk0 = ⟨padB (pgB l), false⟩
  | 0, h0, _ => by omega
  | k + 1, hjk, hk => by
    by_cases e : j = k
    · subst e
      unfold wpD
      rw [hq]
      simp only [Dk.write]
      rw [getD_set_eq _ _ _ _ (by rw [wpD_now_len, hl]; have := freeB_lt j (h.whr.getD j 0) hj; omega)]
    · have ih := wpD_there h P D n hl hn j hj l hq k (by omega) (by omega)
      unfold wpD
      split
      · exact ih
      · simp only [Dk.write]
        rw [getD_set_ne _ _ _ _ _ (freeB_apart (by omega) hj (by omega) _ _)]
        exact ih
theorem wpW_get (h : Hd) (P : List (Nat × List UInt8)) (ws : List UInt8) (hw : ws.length = 40) (j : Nat) (hj : j < 40) : ∀ k, (wpW h P ws k).getD j 0 = if j < k ∧ look P j ≠ none then UInt8.ofNat (freeB j (h.whr.getD j 0)) else ws.getD j 0
  | 0 => by simp [wpW]
  | k + 1 => by
    have ih := wpW_get h P ws hw j hj k
    unfold wpW
    split
    · rename_i hq
      rw [ih]
      by_cases e : j = k
      · subst e
        simp [hq]
      · have : (j < k + 1) = (j < k) := by simp; omega
        simp only [this]
    · rename_i l hq
      by_cases e : j = k
      · subst e
        rw [getD_set_eq _ _ _ _ (by rw [wpW_length, hw]; exact hj), if_pos ⟨by omega, by rw [hq]; simp⟩]
      · rw [getD_set_ne _ _ _ _ _ (fun e' => e e'.symm), ih]
        have : (j < k + 1) = (j < k) := by simp; omega
        simp only [this]
/-- Each page stands in one of its two blocks, or nowhere. -/
def WhOk (h : Hd) : Prop := ∀ k, k < 40 → (h.whr.getD k 0).toNat = 0 ∨ (h.whr.getD k 0).toNat = 2 + k ∨ (h.whr.getD k 0).toNat = 42 + k
/-- The pages are those. -/
def Pages (D : Dk) (n : Nat) (h : Hd) (f : Nat → List UInt8) : Prop := WhOk h ∧ ∀ k, k < 40 → PgIs D n h k (f k)
theorem nxD_now (D : Dk) (h : Hd) (P : List (Nat × List UInt8)) (hf : D.fail < 0) : (nxD D h P).now = (wpD h P D.flush 40).now.set (1 - h.blk) ⟨padB (hdB (nxH h P)), false⟩ := by
  unfold nxD
  rw [neg_hwR (by rw [wpD_fail]; exact hf)]
  rfl
theorem nxD_fail (D : Dk) (h : Hd) (P : List (Nat × List UInt8)) (hf : D.fail < 0) : (nxD D h P).fail < 0 := by
  unfold nxD
  rw [neg_hwR (by rw [wpD_fail]; exact hf)]
  show (wpD h P D.flush 40).fail < 0
  rw [wpD_fail]
  exact hf
theorem nxD_lim {D : Dk} {h : Hd} {P : List (Nat × List UInt8)} {j : Nat} (hf : D.fail < 0) (hl : D.lim j) : (nxD D h P).lim (j + 50) := by
  unfold nxD
  rw [neg_hwR (by rw [wpD_fail]; exact hf)]
  have h1 : (wpD h P D.flush 40).lim (j + 1 + 40) := wpD_lim ⟨Nat.succ_le_succ hl.s, by simp [Dk.flush]⟩ 40
  refine ⟨?_, by simp [Dk.flush]⟩
  show (wpD h P D.flush 40).steps + 1 + 1 + 1 ≤ j + 50
  have := h1.s
  omega
theorem nxH_whr (h : Hd) (k : h.ok) (P : List (Nat × List UInt8)) (j : Nat) (hj : j < 40) : (nxH h P).whr.getD j 0 = if look P j ≠ none then UInt8.ofNat (freeB j (h.whr.getD j 0)) else h.whr.getD j 0 := by
  unfold nxH
  simp only
  rw [wpW_get h P h.whr k.w j hj 40]
  by_cases e : look P j = none
  · simp [e]
  · simp [e, hj]
theorem WhOk.next {h : Hd} (hw : WhOk h) (k : h.ok) (P : List (Nat × List UInt8)) : WhOk (nxH h P) := by
  intro j hj
  rw [nxH_whr h k P j hj]
  split
  · rw [free_u8 j _ hj]
    have := freeB_cases j (h.whr.getD j 0)
    omega
  · exact hw j hj
theorem Pages.next {D : Dk} {n : Nat} {h : Hd} {f : Nat → List UInt8} (hp : Pages D n h f) (k : h.ok) (hd : D.now.length = n) (hn : 90 ≤ n) (P : List (Nat × List UInt8)) (hP : ∀ k l, look P k = some l → l.length ≤ 60) (hf : D.fail < 0) : Pages (nxD D h P) n (nxH h P) (fun j => (look P j).getD (f j)) := by
  refine ⟨hp.1.next k P, fun j hj => ?_⟩
  have hb1 : 1 - h.blk ≤ 1 := by omega
  show PgIs (nxD D h P) n (nxH h P) j ((look P j).getD (f j))
  unfold PgIs
  rw [nxH_whr h k P j hj]
  cases hq : look P j with
  | some l =>
    right
    simp only [Option.getD_some]
    have hfb := freeB_lt j (h.whr.getD j 0) hj
    rw [if_pos (by simp), free_u8 j _ hj]
    refine ⟨fun e => ?_, by omega, ?_, hP j l hq⟩
    · have := congrArg UInt8.toNat e
      rw [free_u8 j _ hj] at this
      have h0 : (0 : UInt8).toNat = 0 := rfl
      omega
    · unfold pgAt
      rw [nxD_now D h P hf, getD_set_ne _ _ _ _ _ (by omega)]
      exact wpD_there h P D.flush n hd hn j hj l hq 40 hj (Nat.le_refl _)
  | none =>
    rw [if_neg (by simp)]
    simp only [Option.getD_none]
    rcases hp.2 j hj with ⟨h1, h2⟩ | ⟨h1, h2, h3, h4⟩
    · exact .inl ⟨h1, h2⟩
    · refine .inr ⟨h1, h2, ?_, h4⟩
      have hwj := hp.1 j hj
      have hne : (h.whr.getD j 0).toNat ≠ 0 := fun e => h1 (UInt8.toNat_inj.1 (by
        have h0 : (0 : UInt8).toNat = 0 := rfl
        omega))
      unfold pgAt
      rw [nxD_now D h P hf, getD_set_ne _ _ _ _ _ (by omega), wpD_stay]
      · exact h3
      · intro i hi hni e
        have hij : i ≠ j := fun e2 => hni (by rw [e2]; exact hq)
        have := freeB_cases i (h.whr.getD i 0)
        omega
/-- A store that was just formatted, on a disk that was just made. -/
def fmtD (n : Nat) : Dk := (hwR (dk0 n) (fmtH none)).2
theorem fmtD_eq (n : Nat) : hwR (dk0 n) (fmtH none) = (0, fmtD n) ∧ (fmtD n).now = (List.replicate n bk0).set 1 ⟨padB (hdB (fmtH none)), false⟩ ∧ (fmtD n).fail = -1 ∧ (fmtD n).lim 3 := by
  have hf : (dk0 n).fail < 0 := by show (-1 : Int) < 0; decide
  unfold fmtD
  rw [neg_hwR hf]
  exact ⟨rfl, rfl, rfl, ⟨Nat.le_refl 3, Nat.zero_le 3⟩⟩
theorem fmtD_heads (n : Nat) (hn : 90 ≤ n) : hdAt (fmtD n) 0 none ∧ hdAt (fmtD n) 1 (some (fmtH none)) := by
  have e := (fmtD_eq n).2.1
  refine ⟨.inr ?_, ?_, fmtH_ok none, rfl⟩
  · rw [e, getD_set_ne _ _ _ _ _ (by omega), List.getD_eq_getElem?_getD, List.getElem?_replicate]
    simp [show 0 < n by omega]
  · rw [e, getD_set_eq _ _ _ _ (by simp; omega)]
theorem fmtD_pages (n : Nat) : Pages (fmtD n) n (fmtH none) (fun _ => []) := by
  have e : ∀ k, k < 40 → (fmtH none).whr.getD k 0 = 0 := fun k hk => by
    rw [show (fmtH none).whr = List.replicate 40 0 from rfl, List.getD_eq_getElem?_getD, List.getElem?_replicate, if_pos hk]
    rfl
  refine ⟨fun k hk => .inl (by rw [e k hk]; rfl), fun k hk => .inl ⟨e k hk, rfl⟩⟩
end Go.Proofs.Ytidccclfngcpgaa
