/-
  Numbers alone: what a Commit, and a crash behind it, leave of heads and pages.
-/
import Derived.Test.YtidccclfngcpgaaSw1
namespace Go.Proofs.Ytidccclfngcpgaa
set_option linter.unusedVariables false
set_option linter.unusedSimpArgs false
set_option maxRecDepth 100000
open Go.RowKit Go.Lib
theorem flR_eq {D : Dk} (e : (flR D).1 = 0) : flR D = (0, D.flush) := by
  unfold flR at e ⊢
  split at e
  · cases e
  · rename_i hf; rw [if_neg hf]
theorem flR_ne {D : Dk} (e : (flR D).1 ≠ 0) : flR D = (7, D) := by
  unfold flR at e ⊢
  split at e
  · rename_i hf; rw [if_pos hf]
  · exact absurd rfl e
theorem wrR_eq {D : Dk} {i : Nat} {l : List UInt8} (e : (wrR D i l).1 = 0) : wrR D i l = (0, D.write i l) := by
  unfold wrR at e ⊢
  split at e
  · cases e
  · rename_i hf; rw [if_neg hf]
theorem wrR_ne {D : Dk} {i : Nat} {l : List UInt8} (e : (wrR D i l).1 ≠ 0) : wrR D i l = (7, D) := by
  unfold wrR at e ⊢
  split at e
  · rename_i hf; rw [if_pos hf]
  · exact absurd rfl e
theorem wpS_ok {h : Hd} {P : List (Nat × List UInt8)} {D : Dk} {ws : List UInt8} : ∀ k, (wpS h P D ws k).1 = 0 → (wpS h P D ws k).2.1 = wpD h P D k ∧ (wpS h P D ws k).2.2 = wpW h P ws k
  | 0, _ => ⟨rfl, rfl⟩
  | k + 1, e => by
    unfold wpS at e ⊢
    simp only at e ⊢
    by_cases hz : (wpS h P D ws k).1 = 0
    · rw [if_pos hz] at e ⊢
      obtain ⟨i1, i2⟩ := wpS_ok k hz
      unfold wpD wpW
      cases hq : look P k with
      | none => exact ⟨i1, i2⟩
      | some l =>
        rw [hq] at e
        simp only at e ⊢
        refine ⟨?_, by rw [i2]⟩
        rw [wrR_eq e, i1]
    · rw [if_neg hz] at e
      exact absurd e hz
theorem wpS_bad {h : Hd} {P : List (Nat × List UInt8)} {D : Dk} {ws : List UInt8} : ∀ k, (wpS h P D ws k).1 ≠ 0 → ∃ j, j ≤ k ∧ (wpS h P D ws k).2.1 = wpD h P D j
  | 0, e => absurd rfl e
  | k + 1, e => by
    unfold wpS at e ⊢
    simp only at e ⊢
    by_cases hz : (wpS h P D ws k).1 = 0
    · rw [if_pos hz] at e ⊢
      obtain ⟨i1, i2⟩ := wpS_ok k hz
      split
      · rename_i hq
        rw [hq] at e
        exact absurd hz e
      · rename_i l hq
        rw [hq] at e
        simp only at e ⊢
        unfold wrR at e ⊢
        split at e
        · rename_i hf
          rw [if_pos hf]
          exact ⟨k, by omega, i1⟩
        · exact absurd rfl e
    · rw [if_neg hz] at e ⊢
      obtain ⟨j, hj, e2⟩ := wpS_bad k hz
      exact ⟨j, by omega, e2⟩
/-- The head that comes of writePages' places. -/
def cmH (h : Hd) (ws : List UInt8) : Hd := ⟨1 - h.blk, h.turn + 1, h.ver + 1, ws⟩
theorem cmH_nx (h : Hd) (P : List (Nat × List UInt8)) : cmH h (wpW h P h.whr 40) = nxH h P := rfl
/-- What Commit tells, and the disk that it leaves. -/
def cmR (D : Dk) (h : Hd) (P : List (Nat × List UInt8)) : Int × Dk :=
  if (wpR h P D h.whr).1 = 0 then hwR (wpR h P D h.whr).2.1 (cmH h (wpR h P D h.whr).2.2) else ((wpR h P D h.whr).1, (wpR h P D h.whr).2.1)
theorem wpR_ok {D : Dk} {h : Hd} {P : List (Nat × List UInt8)} (e : (wpR h P D h.whr).1 = 0) : (wpR h P D h.whr).2.1 = wpD h P D.flush 40 ∧ (wpR h P D h.whr).2.2 = wpW h P h.whr 40 := by
  unfold wpR at e ⊢
  by_cases hz : (flR D).1 = 0
  · rw [if_pos hz] at e ⊢
    rw [flR_eq hz] at e ⊢
    exact wpS_ok 40 e
  · rw [if_neg hz] at e
    exact absurd e hz
theorem wpR_bad {D : Dk} {h : Hd} {P : List (Nat × List UInt8)} (e : (wpR h P D h.whr).1 ≠ 0) : (wpR h P D h.whr).2.1 = D ∨ ∃ j, j ≤ 40 ∧ (wpR h P D h.whr).2.1 = wpD h P D.flush j := by
  unfold wpR at e ⊢
  by_cases hz : (flR D).1 = 0
  · rw [if_pos hz] at e ⊢
    rw [flR_eq hz] at e ⊢
    exact .inr (wpS_bad 40 e)
  · rw [if_neg hz] at e ⊢
    rw [flR_ne hz]
    exact .inl rfl
/-- The five ends of a Commit. -/
theorem cmR_ends (D : Dk) (h : Hd) (P : List (Nat × List UInt8)) :
    (cmR D h P).1 = 0 ∧ (cmR D h P).2 = ((wpD h P D.flush 40).flush.write (1 - h.blk) (hdB (nxH h P))).flush ∧ (wpR h P D h.whr).2.2 = wpW h P h.whr 40 ∨
    (cmR D h P).1 = 7 ∧ ((cmR D h P).2 = D ∨ (∃ j, j ≤ 40 ∧ (cmR D h P).2 = wpD h P D.flush j) ∨ (cmR D h P).2 = (wpD h P D.flush 40).flush ∨ (cmR D h P).2 = (wpD h P D.flush 40).flush.write (1 - h.blk) (hdB (nxH h P))) := by
  unfold cmR
  by_cases hz : (wpR h P D h.whr).1 = 0
  · obtain ⟨e1, e2⟩ := wpR_ok hz
    rw [if_pos hz, e1, e2, cmH_nx]
    unfold hwR
    simp only
    by_cases f1 : (flR (wpD h P D.flush 40)).1 = 0
    · rw [if_pos f1, flR_eq f1]
      simp only
      by_cases f2 : (wrR (wpD h P D.flush 40).flush (nxH h P).blk (hdB (nxH h P))).1 = 0
      · rw [if_pos f2, wrR_eq f2]
        simp only
        by_cases f3 : (flR ((wpD h P D.flush 40).flush.write (nxH h P).blk (hdB (nxH h P)))).1 = 0
        · left
          rw [flR_eq f3]
          exact ⟨rfl, rfl, trivial⟩
        · right
          rw [flR_ne f3]
          exact ⟨rfl, .inr (.inr (.inr rfl))⟩
      · right
        rw [if_neg f2, wrR_ne f2]
        exact ⟨rfl, .inr (.inr (.inl rfl))⟩
    · right
      rw [if_neg f1, flR_ne f1]
      exact ⟨rfl, .inr (.inl ⟨40, Nat.le_refl _, rfl⟩)⟩
  · right
    rw [if_neg hz]
    have h7 : (wpR h P D h.whr).1 = 7 := by
      have hc : ∀ k, (wpS h P (flR D).2 h.whr k).1 = 0 ∨ (wpS h P (flR D).2 h.whr k).1 = 7 := fun k => by
        induction k with
        | zero => exact .inl rfl
        | succ k ih =>
          unfold wpS
          simp only
          split
          · split
            · exact ih
            · exact wrR_code _ _ _
          · exact ih
      unfold wpR at hz ⊢
      by_cases f : (flR D).1 = 0
      · rw [if_pos f] at hz ⊢
        rcases hc 40 with e | e
        · exact absurd e hz
        · exact e
      · rw [if_neg f]
        rcases flR_code D with e | e
        · exact absurd e f
        · exact e
    refine ⟨h7, ?_⟩
    rcases wpR_bad hz with e | ⟨j, hj, e⟩
    · exact .inl e
    · exact .inr (.inl ⟨j, hj, e⟩)

/-- A block of which no change speaks stays. -/
theorem crashS_stay (mk : List Bool) (torn : Int) (b : Nat) : ∀ (cs : List Cg) (k : Nat) (s : List Bk), (∀ c ∈ cs, c.at_ ≠ b) → (crashS mk torn k cs s).getD b bk0 = s.getD b bk0
  | [], _, s, _ => rfl
  | c :: cs, k, s, hc => by
    unfold crashS
    rw [crashS_stay mk torn b cs (k + 1) _ (fun x hx => hc x (by simp [hx]))]
    split
    · exact getD_set_ne _ _ _ _ _ (hc c (by simp))
    · rfl
theorem wpD_chg (h : Hd) (P : List (Nat × List UInt8)) (D : Dk) (hc : D.chg = []) : ∀ k, k ≤ 40 → ∀ c ∈ (wpD h P D k).chg, ∃ j, j < k ∧ look P j ≠ none ∧ c.at_ = freeB j (h.whr.getD j 0)
  | 0, _, c, hm => by rw [show (wpD h P D 0).chg = D.chg from rfl, hc] at hm; simp at hm
  | k + 1, hk, c, hm => by
    unfold wpD at hm
    split at hm
    · obtain ⟨j, h1, h2⟩ := wpD_chg h P D hc k (by omega) c hm
      exact ⟨j, by omega, h2⟩
    · rename_i l hq
      simp only [Dk.write, List.mem_append, List.mem_singleton] at hm
      rcases hm with hm | rfl
      · obtain ⟨j, h1, h2⟩ := wpD_chg h P D hc k (by omega) c hm
        exact ⟨j, by omega, h2⟩
      · exact ⟨k, by omega, by rw [hq]; simp, rfl⟩
theorem wpD_safe (h : Hd) (P : List (Nat × List UInt8)) (D : Dk) (k : Nat) : (wpD h P D k).safe = D.safe := by
  induction k with
  | zero => rfl
  | succ k ih =>
    unfold wpD
    split
    · exact ih
    · exact ih
theorem wpD_now_eq (h : Hd) (P : List (Nat × List UInt8)) (D E : Dk) (e : D.now = E.now) (k : Nat) : (wpD h P D k).now = (wpD h P E k).now := by
  induction k with
  | zero => exact e
  | succ k ih =>
    unfold wpD
    split
    · exact ih
    · simp only [Dk.write, ih]
theorem crashS_len (mk : List Bool) (torn : Int) : ∀ (cs : List Cg) (k : Nat) (s : List Bk), (crashS mk torn k cs s).length = s.length
  | [], _, _ => rfl
  | c :: cs, k, s => by
    unfold crashS
    rw [crashS_len mk torn cs (k + 1)]
    split <;> simp
/-- A disk that is safe, with a store whose head is h and whose pages are f. -/
structure Good (D : Dk) (h : Hd) (f : Nat → List UInt8) : Prop where
  sf : D.now = D.safe
  cg : D.chg = []
  fl : D.fail < 0
  ln : D.now.length = 90
  hd : hdAt D h.blk (some h)
  ot : ∃ o, hdAt D (1 - h.blk) o ∧ (h.blk = 0 → newer (some h) o = some h) ∧ (h.blk = 1 → newer o (some h) = some h)
  pg : Pages D 90 h f
theorem Good.heads {D : Dk} {h : Hd} {f : Nat → List UInt8} (g : Good D h f) : ∃ o0 o1, hdAt D 0 o0 ∧ hdAt D 1 o1 ∧ newer o0 o1 = some h := by
  obtain ⟨o, h1, h2, h3⟩ := g.ot
  have hb := g.hd.2.1.b
  have hd := g.hd
  rcases (show h.blk = 0 ∨ h.blk = 1 by omega) with e | e
  · rw [e] at h1 hd
    exact ⟨some h, o, hd, h1, h2 e⟩
  · rw [e] at h1 hd
    exact ⟨o, some h, h1, hd, h3 e⟩
theorem hdAt_congr {D E : Dk} {i : Nat} (e : E.now.getD i bk0 = D.now.getD i bk0) {o : Option Hd} (h : hdAt D i o) : hdAt E i o := by
  cases o with
  | none => unfold hdAt at *; simp only at *; rw [e]; exact h
  | some x => exact ⟨e.trans h.1, h.2⟩
/-- Where the head's block, and those that it names, are as they were, the store is as it was. -/
theorem Good.old {D E : Dk} {h : Hd} {f : Nat → List UInt8} (g : Good D h f) (sf : E.now = E.safe) (cg : E.chg = []) (fl : E.fail < 0) (ln : E.now.length = 90) (k1 : E.now.getD h.blk bk0 = D.now.getD h.blk bk0) (k2 : E.now.getD (1 - h.blk) bk0 = D.now.getD (1 - h.blk) bk0 ∨ (E.now.getD (1 - h.blk) bk0).torn = true)
    (k3 : ∀ j, j < 40 → (h.whr.getD j 0).toNat ≠ 0 → E.now.getD (h.whr.getD j 0).toNat bk0 = D.now.getD (h.whr.getD j 0).toNat bk0) : Good E h f := by
  refine ⟨sf, cg, fl, ln, hdAt_congr k1 g.hd, ?_, g.pg.1, fun j hj => ?_⟩
  · obtain ⟨o, h1, h2, h3⟩ := g.ot
    rcases k2 with e | e
    · exact ⟨o, hdAt_congr e h1, h2, h3⟩
    · exact ⟨none, .inl e, fun _ => rfl, fun _ => rfl⟩
  · rcases g.pg.2 j hj with h1 | ⟨h1, h2, h3, h4⟩
    · exact .inl h1
    · refine .inr ⟨h1, h2, ?_, h4⟩
      unfold pgAt at *
      rw [k3 j hj (fun e => h1 (UInt8.toNat_inj.1 (by have h0 : (0 : UInt8).toNat = 0 := rfl; omega)))]
      exact h3
theorem turn_two (t : UInt8) : t ≠ t + 1 + 1 := by
  intro e
  have := congrArg UInt8.toNat e
  rw [UInt8.toNat_add, UInt8.toNat_add] at this
  have h1 : (1 : UInt8).toNat = 1 := rfl
  have := UInt8.toNat_lt t
  omega
theorem newer_next (h : Hd) (P : List (Nat × List UInt8)) (hb : h.blk ≤ 1) : ((nxH h P).blk = 0 → newer (some (nxH h P)) (some h) = some (nxH h P)) ∧ ((nxH h P).blk = 1 → newer (some h) (some (nxH h P)) = some (nxH h P)) := by
  constructor
  · intro e
    unfold newer
    simp only
    rw [if_neg]
    show ¬ h.turn = h.turn + 1 + 1
    exact turn_two h.turn
  · intro e
    unfold newer
    simp only
    rw [if_pos]
    rfl
/-- Where the new head is there, the store is the new one. -/
theorem Good.new {D E : Dk} {h : Hd} {f : Nat → List UInt8} (g : Good D h f) (P : List (Nat × List UInt8)) (hP : ∀ k l, look P k = some l → l.length ≤ 60) (hv : h.ver + 1 ≤ 1000000) (sf : E.now = E.safe) (cg : E.chg = []) (fl : E.fail < 0)
    (en : E.now = (wpD h P D.flush 40).now.set (1 - h.blk) ⟨padB (hdB (nxH h P)), false⟩) : Good E (nxH h P) (fun j => (look P j).getD (f j)) := by
  have hb := g.hd.2.1.b
  have hk := g.hd.2.1
  have hlen : (wpD h P D.flush 40).now.length = 90 := by rw [wpD_now_len]; exact g.ln
  have hbn : (nxH h P).blk = 1 - h.blk := rfl
  have kn : (nxH h P).ok := ⟨by rw [hbn]; omega, hv, by show (wpW h P h.whr 40).length = 40; rw [wpW_length]; exact hk.w⟩
  refine ⟨sf, cg, fl, by rw [en, List.length_set, hlen], ⟨by rw [hbn, en, getD_set_eq _ _ _ _ (by omega)], kn, rfl⟩, ⟨some h, ?_, newer_next h P hb⟩, ?_⟩
  · refine ⟨?_, hk, by rw [hbn]; omega⟩
    rw [hbn, show 1 - (1 - h.blk) = h.blk by omega, en, getD_set_ne _ _ _ _ _ (by omega), wpD_stay]
    · exact g.hd.1
    · intro j hj _ e
      have := freeB_lt j (h.whr.getD j 0) hj
      omega
  · have hp := g.pg.next hk g.ln (by omega) P hP g.fl
    refine ⟨hp.1, fun j hj => ?_⟩
    have := hp.2 j hj
    unfold PgIs pgAt at this ⊢
    rw [nxD_now D h P g.fl] at this
    rw [en]
    exact this
/-- Behind a Commit and a crash the store is the old one or the new one; without an error it is the new one. -/
theorem Good.crash {D : Dk} {h : Hd} {f : Nat → List UInt8} (fl0 : D.fail < 0 → True) (g : Good { D with fail := -1 } h f) (P : List (Nat × List UInt8)) (hP : ∀ k l, look P k = some l → l.length ≤ 60) (hv : h.ver + 1 ≤ 1000000) (keep : List Int) (torn : Int) :
    ((cmR D h P).1 ≠ 0 ∧ Good ((cmR D h P).2.crash keep torn) h f) ∨ Good ((cmR D h P).2.crash keep torn) (nxH h P) (fun j => (look P j).getD (f j)) := by
  have hb := g.hd.2.1.b
  have hk := g.hd.2.1
  have gs : D.now = D.safe := g.sf
  have gc : D.chg = [] := g.cg
  have gl : D.now.length = 90 := g.ln
  have hwl : (wpD h P D.flush 40).now.length = 90 := by rw [wpD_now_len]; exact gl
  -- blocks of the heads and of the pages that stand are no page's that is written
  have far : ∀ b, (b = h.blk ∨ b = 1 - h.blk ∨ ∃ j, j < 40 ∧ (h.whr.getD j 0).toNat ≠ 0 ∧ b = (h.whr.getD j 0).toNat) → ∀ j, j < 40 → freeB j (h.whr.getD j 0) ≠ b := by
    intro b hbb j hj e
    have h2 := freeB_lt j (h.whr.getD j 0) hj
    rcases hbb with hbb | hbb | ⟨i, hi, hne, hbb⟩
    · omega
    · omega
    · have hw := g.pg.1 i hi
      by_cases hij : i = j
      · subst hij
        unfold freeB at e
        split at e <;> omega
      · have := freeB_cases j (h.whr.getD j 0)
        omega
  have stay : ∀ k, k ≤ 40 → ∀ b, (b = h.blk ∨ b = 1 - h.blk ∨ ∃ j, j < 40 ∧ (h.whr.getD j 0).toNat ≠ 0 ∧ b = (h.whr.getD j 0).toNat) → (wpD h P D.flush k).now.getD b bk0 = D.now.getD b bk0 := fun k hk b hbb => by
    rw [wpD_stay]
    · rfl
    · exact fun j hj _ => far b hbb j (by omega)
  have mkOld : ∀ E : Dk, E.now = E.safe → E.chg = [] → E.fail < 0 → E.now.length = 90 → (∀ b, (b = h.blk ∨ ∃ j, j < 40 ∧ (h.whr.getD j 0).toNat ≠ 0 ∧ b = (h.whr.getD j 0).toNat) → E.now.getD b bk0 = D.now.getD b bk0) → (E.now.getD (1 - h.blk) bk0 = D.now.getD (1 - h.blk) bk0 ∨ (E.now.getD (1 - h.blk) bk0).torn = true) → Good E h f := fun E q1 q2 q3 q4 q5 q6 =>
    g.old q1 q2 q3 q4 (q5 _ (.inl rfl)) q6 (fun j hj hne => q5 _ (.inr ⟨j, hj, hne, rfl⟩))
  rcases cmR_ends D h P with ⟨e0, e1, _⟩ | ⟨e0, e1 | ⟨j, hj, e1⟩ | e1 | e1⟩
  · right
    rw [e1]
    exact g.new (D := { D with fail := -1 }) P hP hv rfl rfl (by show (-1 : Int) < 0; decide) (by
      show (wpD h P D.flush 40).now.set (1 - h.blk) ⟨padB (hdB (nxH h P)), false⟩ = _
      rw [wpD_now_eq h P D.flush ({ D with fail := -1 } : Dk).flush rfl])
  · left
    refine ⟨by rw [e0]; decide, ?_⟩
    rw [e1]
    have en : (D.crash keep torn).now = D.now := by
      show crashS _ torn 0 D.chg D.safe = D.now
      rw [gc, gs]
      rfl
    exact mkOld _ rfl rfl (by show (-1 : Int) < 0; decide) (by rw [en]; exact gl) (fun b _ => by rw [en]) (.inl (by rw [en]))
  · left
    refine ⟨by rw [e0]; decide, ?_⟩
    rw [e1]
    have es : ∀ b, (b = h.blk ∨ b = 1 - h.blk ∨ ∃ j, j < 40 ∧ (h.whr.getD j 0).toNat ≠ 0 ∧ b = (h.whr.getD j 0).toNat) → ((wpD h P D.flush j).crash keep torn).now.getD b bk0 = D.now.getD b bk0 := fun b hbb => by
      show (crashS _ torn 0 (wpD h P D.flush j).chg (wpD h P D.flush j).safe).getD b bk0 = _
      rw [crashS_stay, wpD_safe]
      · rfl
      · intro c hc e
        obtain ⟨i, hi, _, hci⟩ := wpD_chg h P D.flush rfl j hj c hc
        exact far b hbb i (by omega) (hci.symm.trans e)
    refine mkOld _ rfl rfl (by show (-1 : Int) < 0; decide) ?_ (fun b hbb => es b (hbb.imp id .inr)) (.inl (es _ (.inr (.inl rfl))))
    show (crashS _ torn 0 (wpD h P D.flush j).chg (wpD h P D.flush j).safe).length = 90
    rw [crashS_len, wpD_safe]
    exact gl
  · left
    refine ⟨by rw [e0]; decide, ?_⟩
    rw [e1]
    have en : ((wpD h P D.flush 40).flush.crash keep torn).now = (wpD h P D.flush 40).now := rfl
    exact mkOld _ rfl rfl (by show (-1 : Int) < 0; decide) (by rw [en]; exact hwl) (fun b hbb => by rw [en]; exact stay 40 (Nat.le_refl _) b (hbb.imp id .inr)) (.inl (by rw [en]; exact stay 40 (Nat.le_refl _) _ (.inr (.inl rfl))))
  · rw [e1]
    have en : (((wpD h P D.flush 40).flush.write (1 - h.blk) (hdB (nxH h P))).crash keep torn).now = if (markL keep 1).getD 0 false = true then (wpD h P D.flush 40).now.set (1 - h.blk) ⟨padB (hdB (nxH h P)), decide ((0 : Int) = torn)⟩ else (wpD h P D.flush 40).now := rfl
    by_cases hm : (markL keep 1).getD 0 false = true
    · rw [if_pos hm] at en
      by_cases ht : (0 : Int) = torn
      · left
        refine ⟨by rw [e0]; decide, ?_⟩
        exact mkOld _ rfl rfl (by show (-1 : Int) < 0; decide) (by rw [en, List.length_set]; exact hwl) (fun b hbb => by
          rw [en, getD_set_ne, stay 40 (Nat.le_refl _) b (hbb.imp id .inr)]
          intro e
          rcases hbb with e2 | ⟨i, hi, hne, e2⟩
          · omega
          · have := g.pg.1 i hi
            omega) (.inr (by rw [en, getD_set_eq _ _ _ _ (by omega), decide_eq_true ht]))
      · right
        exact g.new (D := { D with fail := -1 }) P hP hv rfl rfl (by show (-1 : Int) < 0; decide) (by rw [en, decide_eq_false ht, wpD_now_eq h P D.flush ({ D with fail := -1 } : Dk).flush rfl])
    · rw [if_neg hm] at en
      left
      refine ⟨by rw [e0]; decide, ?_⟩
      exact mkOld _ rfl rfl (by show (-1 : Int) < 0; decide) (by rw [en]; exact hwl) (fun b hbb => by rw [en]; exact stay 40 (Nat.le_refl _) b (hbb.imp id .inr)) (.inl (by rw [en]; exact stay 40 (Nat.le_refl _) _ (.inr (.inl rfl))))
end Go.Proofs.Ytidccclfngcpgaa
