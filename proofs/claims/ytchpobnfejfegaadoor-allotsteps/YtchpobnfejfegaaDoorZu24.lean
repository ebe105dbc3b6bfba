/-
  Stepping down: for all rows of weights and all amounts the call of daylaw3.AllotSteps returns true, and its arguments read as they did. No condition.
-/
import Derived.Test.YtchpobnfejfegaaDoorZu23
import Derived.KernelRfl
import Derived.Deep.Slices
import Derived.OpenShut
import Derived.Test.YtchpobnfejfegaaDoorZu22
import Derived.Test.YtchpobnfejfegaaDoorZu16
import Derived.Test.YtchpobnfejfegaaDoorRows
import Derived.Test.YtchpobnfejfegaaDoorCards
import Derived.Test.YtchpobnfejfegaaDoorTie
import Derived.Test.YtchpobnfejfegaaDoorZu20
import Derived.ChangeSame
import Derived.ChangeVars
import Derived.JoinedOf
import Derived.RowKit
import Derived.RowKitTokens
import Derived.LaidLaws
import Derived.LaidHandle
import Derived.Stop.Joined
import Derived.SevenTiedAt
import Derived.ProofKit
import Derived.Below
import Derived.ShutString
import Derived.ChangeOld
import Derived.SizedLaws
import Derived.Lib.LaidTab
import Derived.Stop.LaidErr
namespace Go.Proofs.YtchpobnfejfegaaDoor
set_option linter.unusedVariables false
set_option linter.unusedSimpArgs false
open Go.RowKit

/-- What a balance is of. -/
abbrev Pk : Type := Int × ByteArray × ByteArray
def Bl.key (x : Bl) : Pk := (x.ent, x.acc, x.cur)
/-- The amounts of a place. -/
structure Pt where
  key : Pk
  zs : List Int
def addP : List Pt → Bl → List Pt
  | [], x => [⟨x.key, [x.amt]⟩]
  | p :: ps, x => if p.key = x.key then ⟨p.key, p.zs ++ [x.amt]⟩ :: ps else p :: addP ps x
def parts (l : List Bl) : List Pt := l.foldl addP []
theorem parts_snoc (l : List Bl) (x : Bl) : parts (l ++ [x]) = addP (parts l) x := by simp [parts]
/-- All of a place. -/
def ltot (k : Pk) : List Bl → Int
  | [] => 0
  | x :: l => (if x.key = k then x.amt else 0) + ltot k l
def totP (k : Pk) : List Pt → Int
  | [] => 0
  | p :: l => (if p.key = k then p.zs.sum else 0) + totP k l
theorem ltot_append (k : Pk) : ∀ l m : List Bl, ltot k (l ++ m) = ltot k l + ltot k m
  | [], m => by simp [ltot]
  | x :: l, m => by rw [List.cons_append, ltot, ltot, ltot_append k l m]; omega
theorem ltot_perm (k : Pk) {l m : List Bl} (h : l.Perm m) : ltot k l = ltot k m := by
  induction h with
  | nil => rfl
  | cons x _ ih => rw [ltot, ltot, ih]
  | swap x y l => simp only [ltot]; omega
  | trans _ _ h1 h2 => rw [h1, h2]
theorem addP_keys (k : Pk) (x : Bl) : ∀ ps : List Pt, k ∈ (addP ps x).map Pt.key ↔ k ∈ ps.map Pt.key ∨ k = x.key
  | [] => by simp [addP]
  | p :: ps => by
    unfold addP
    split
    · rename_i h
      simp only [List.map_cons, List.mem_cons]
      constructor
      · intro h1; exact .inl h1
      · rintro (h1 | h1)
        · exact h1
        · exact .inl (h1.trans h.symm)
    · simp only [List.map_cons, List.mem_cons, addP_keys k x ps, or_assoc]
theorem addP_nodup (x : Bl) : ∀ ps : List Pt, (ps.map Pt.key).Nodup → ((addP ps x).map Pt.key).Nodup
  | [], _ => by simp [addP]
  | p :: ps, h => by
    unfold addP
    split
    · exact h
    · rename_i hne
      simp only [List.map_cons, List.nodup_cons] at h ⊢
      refine ⟨fun h1 => ?_, addP_nodup x ps h.2⟩
      rcases (addP_keys _ x ps).1 h1 with h2 | h2
      · exact h.1 h2
      · exact hne h2
theorem addP_tot (k : Pk) (x : Bl) : ∀ ps : List Pt, totP k (addP ps x) = totP k ps + if x.key = k then x.amt else 0
  | [] => by simp [addP, totP]
  | p :: ps => by
    unfold addP
    split
    · rename_i h
      simp only [totP, List.sum_append, List.sum_cons, List.sum_nil, h]
      split <;> omega
    · simp only [totP, addP_tot k x ps]
      omega
theorem foldl_keys (k : Pk) : ∀ (l : List Bl) (ps : List Pt), k ∈ (l.foldl addP ps).map Pt.key ↔ k ∈ ps.map Pt.key ∨ ∃ x ∈ l, x.key = k
  | [], ps => by simp
  | x :: l, ps => by
    rw [List.foldl_cons, foldl_keys k l, addP_keys]
    constructor
    · rintro ((h | h) | ⟨y, hy, e⟩)
      · exact .inl h
      · exact .inr ⟨x, List.mem_cons_self .., h.symm⟩
      · exact .inr ⟨y, List.mem_cons_of_mem _ hy, e⟩
    · rintro (h | ⟨y, hy, e⟩)
      · exact .inl (.inl h)
      · rcases List.mem_cons.1 hy with rfl | hy
        · exact .inl (.inr e.symm)
        · exact .inr ⟨y, hy, e⟩
theorem foldl_nodup : ∀ (l : List Bl) (ps : List Pt), (ps.map Pt.key).Nodup → ((l.foldl addP ps).map Pt.key).Nodup
  | [], ps, h => h
  | x :: l, ps, h => foldl_nodup l _ (addP_nodup x ps h)
theorem foldl_tot (k : Pk) : ∀ (l : List Bl) (ps : List Pt), totP k (l.foldl addP ps) = totP k ps + ltot k l
  | [], ps => by simp [ltot]
  | x :: l, ps => by rw [List.foldl_cons, foldl_tot k l, addP_tot, ltot]; omega
theorem parts_keys (k : Pk) (l : List Bl) : k ∈ (parts l).map Pt.key ↔ ∃ x ∈ l, x.key = k := by
  rw [parts, foldl_keys]; simp
theorem parts_nodup (l : List Bl) : ((parts l).map Pt.key).Nodup := foldl_nodup l [] (by simp)
theorem parts_tot (k : Pk) (l : List Bl) : totP k (parts l) = ltot k l := by rw [parts, foldl_tot]; simp [totP]
/-- How many places there are hangs on which ones there are alone. -/
theorem parts_count {l m : List Bl} (h : ∀ k, (∃ x ∈ l, x.key = k) ↔ ∃ x ∈ m, x.key = k) : (parts l).length = (parts m).length := by
  have := ((List.perm_ext_iff_of_nodup (parts_nodup l) (parts_nodup m)).2 (fun k => by rw [parts_keys, parts_keys]; exact h k)).length_eq
  simpa using this
theorem nodup_le : ∀ {l m : List Pk}, l.Nodup → (∀ k ∈ l, k ∈ m) → l.length ≤ m.length
  | [], m, _, _ => Nat.zero_le _
  | k :: l, m, h, hs => by
    obtain ⟨h1, h2⟩ := List.nodup_cons.1 h
    obtain ⟨s, t, rfl⟩ := List.append_of_mem (hs k (List.mem_cons_self ..))
    have := nodup_le (m := s ++ t) h2 (fun q hq => by
      have h3 := hs q (List.mem_cons_of_mem _ hq)
      simp only [List.mem_append, List.mem_cons] at h3 ⊢
      rcases h3 with h3 | h3 | h3
      · exact .inl h3
      · exact absurd (h3 ▸ hq) h1
      · exact .inr h3)
    simp only [List.length_append, List.length_cons] at this ⊢
    omega
theorem parts_count_le {l m : List Bl} (h : ∀ k, (∃ x ∈ l, x.key = k) → ∃ x ∈ m, x.key = k) : (parts l).length ≤ (parts m).length := by
  have h1 := parts_nodup l
  have h2 : ∀ k ∈ (parts l).map Pt.key, k ∈ (parts m).map Pt.key := fun k hk => (parts_keys k m).2 (h k ((parts_keys k l).1 hk))
  have := nodup_le h1 h2
  simpa using this
theorem addP_length (x : Bl) : ∀ ps : List Pt, (addP ps x).length ≤ ps.length + 1
  | [] => by simp [addP]
  | p :: ps => by
    unfold addP
    split
    · simp
    · have := addP_length x ps; simp; exact this
theorem parts_length (l : List Bl) : (parts l).length ≤ l.length := by
  have key : ∀ (l : List Bl) (ps : List Pt), (l.foldl addP ps).length ≤ ps.length + l.length := by
    intro l
    induction l with
    | nil => intro ps; simp
    | cons x l ih => intro ps; have h1 := ih (addP ps x); have h2 := addP_length x ps; simp only [List.foldl_cons, List.length_cons]; omega
  have := key l []
  simpa [parts] using this

/-- A place's balance. -/
def Pt.bal (p : Pt) : Bl := ⟨p.key.1, p.key.2.1, p.key.2.2, p.zs.sum⟩
theorem bal_key (p : Pt) : p.bal.key = p.key := rfl
theorem ltot_bal (k : Pk) : ∀ ps : List Pt, ltot k (ps.map Pt.bal) = totP k ps
  | [] => rfl
  | p :: ps => by rw [List.map_cons, ltot, totP, ltot_bal k ps]; rfl
/-- Those that are not 0. -/
def full (l : List Bl) : List Bl := l.filter fun x => x.amt != 0
theorem ltot_full (k : Pk) : ∀ l : List Bl, ltot k (full l) = ltot k l
  | [] => rfl
  | x :: l => by
    have ih := ltot_full k l
    unfold full at ih ⊢
    rw [List.filter_cons]
    by_cases h : x.amt = 0
    · rw [if_neg (by simp [h]), ih, ltot, h]; simp
    · rw [if_pos (by simp [h]), ltot, ltot, ih]
theorem full_ne (l : List Bl) : ∀ x ∈ full l, x.amt ≠ 0 := fun x hx => by
  have := (List.mem_filter.1 hx).2
  simpa using this

/-- Balances rise. -/
def Rises (l : List Bl) : Prop := l.Pairwise fun x y => cmpB x y < 0
theorem cmpS_flip (a b : ByteArray) : cmpS a b < 0 ↔ 0 < cmpS b a := by
  unfold cmpS
  by_cases h : Op.bytesLess a.toList b.toList = true
  · have h2 : ¬ Op.bytesLess b.toList a.toList = true := fun h2 => by
      have := bl_trans _ _ _ h h2
      rw [bl_self] at this
      cases this
    have h3 : ¬ (b.toList == a.toList) = true := fun h3 => by
      rw [beq_iff_eq] at h3
      rw [h3, bl_self] at h
      cases h
    rw [if_pos h, if_neg h2, if_neg h3]
    omega
  · rw [if_neg h]
    by_cases h3 : (a.toList == b.toList) = true
    · rw [if_pos h3]
      have h4 := beq_iff_eq.1 h3
      rw [h4, bl_self]
      simp
    · rw [if_neg h3]
      have h5 := bl_total _ _ (by simpa using h) (by simpa using h3)
      rw [if_pos h5]
      omega
theorem ldCmpS_eq {a b : ByteArray} : cmpS a b = 0 ↔ a = b := by
  rw [cmpS_zero, beq_iff_eq]
  exact ⟨fun h => toList_inj h, fun h => by rw [h]⟩
theorem cmpS_trans {a b c : ByteArray} (h1 : cmpS a b < 0) (h2 : cmpS b c < 0) : cmpS a c < 0 := by
  rw [cmpS_neg] at *
  exact bl_trans _ _ _ h1 h2
theorem cmpI_neg {a b : Int} : cmpI a b < 0 ↔ a < b := by unfold cmpI; split <;> (try split) <;> omega
theorem cmpI_zero {a b : Int} : cmpI a b = 0 ↔ a = b := by unfold cmpI; split <;> (try split) <;> omega
theorem cmpI_flip (a b : Int) : cmpI a b < 0 ↔ 0 < cmpI b a := by unfold cmpI; split <;> (try split) <;> (try split) <;> (try split) <;> omega
theorem cmpB_lt {x y : Bl} : cmpB x y < 0 ↔ x.ent < y.ent ∨ (x.ent = y.ent ∧ (cmpS x.acc y.acc < 0 ∨ (x.acc = y.acc ∧ cmpS x.cur y.cur < 0))) := by
  unfold cmpB
  by_cases h1 : cmpI x.ent y.ent = 0
  · have e1 := cmpI_zero.1 h1
    rw [if_neg (by simp [h1])]
    by_cases h2 : cmpS x.acc y.acc = 0
    · have e2 := ldCmpS_eq.1 h2
      rw [if_neg (by simp [h2])]
      constructor
      · intro h; exact .inr ⟨e1, .inr ⟨e2, h⟩⟩
      · rintro (h | ⟨_, h | ⟨_, h⟩⟩)
        · omega
        · omega
        · exact h
    · rw [if_pos h2]
      constructor
      · intro h; exact .inr ⟨e1, .inl h⟩
      · rintro (h | ⟨_, h | ⟨h, _⟩⟩)
        · omega
        · exact h
        · exact absurd (ldCmpS_eq.2 h) h2
  · have e1 : x.ent ≠ y.ent := fun h => h1 (cmpI_zero.2 h)
    rw [if_pos h1, cmpI_neg]
    constructor
    · intro h; exact .inl h
    · rintro (h | ⟨h, _⟩)
      · exact h
      · exact absurd h e1
theorem cmpB_zero {x y : Bl} : cmpB x y = 0 ↔ x.key = y.key := by
  unfold cmpB Bl.key
  rw [Prod.mk.injEq, Prod.mk.injEq]
  by_cases h1 : cmpI x.ent y.ent = 0
  · rw [if_neg (by simp [h1])]
    by_cases h2 : cmpS x.acc y.acc = 0
    · rw [if_neg (by simp [h2]), ldCmpS_eq]
      exact ⟨fun h => ⟨cmpI_zero.1 h1, ldCmpS_eq.1 h2, h⟩, fun h => h.2.2⟩
    · rw [if_pos h2]
      exact ⟨fun h => absurd h h2, fun h => absurd (ldCmpS_eq.2 h.2.1) h2⟩
  · rw [if_pos h1]
    exact ⟨fun h => absurd h h1, fun h => absurd (cmpI_zero.2 h.1) h1⟩
theorem cmpB_trans {x y z : Bl} (h1 : cmpB x y < 0) (h2 : cmpB y z < 0) : cmpB x z < 0 := by
  rw [cmpB_lt] at *
  rcases h1 with h1 | ⟨e1, h1⟩
  · rcases h2 with h2 | ⟨e2, h2⟩
    · exact .inl (by omega)
    · exact .inl (by omega)
  · rcases h2 with h2 | ⟨e2, h2⟩
    · exact .inl (by omega)
    · refine .inr ⟨by omega, ?_⟩
      rcases h1 with h1 | ⟨f1, h1⟩
      · rcases h2 with h2 | ⟨f2, h2⟩
        · exact .inl (cmpS_trans h1 h2)
        · exact .inl (f2 ▸ h1)
      · rcases h2 with h2 | ⟨f2, h2⟩
        · exact .inl (f1 ▸ h2)
        · exact .inr ⟨f1.trans f2, cmpS_trans h1 h2⟩
theorem cmpB_irr (x : Bl) : ¬ cmpB x x < 0 := by
  have : cmpB x x = 0 := cmpB_zero.2 rfl
  omega
theorem cmpB_total {x y : Bl} (h : ¬ cmpB x y < 0) (hne : x.key ≠ y.key) : cmpB y x < 0 := by
  rw [cmpB_lt] at *
  have h1 : ¬ x.ent < y.ent := fun e => h (.inl e)
  by_cases e1 : x.ent = y.ent
  · refine .inr ⟨e1.symm, ?_⟩
    have h2 : ¬ cmpS x.acc y.acc < 0 := fun e => h (.inr ⟨e1, .inl e⟩)
    by_cases e2 : x.acc = y.acc
    · refine .inr ⟨e2.symm, ?_⟩
      have h3 : ¬ cmpS x.cur y.cur < 0 := fun e => h (.inr ⟨e1, .inr ⟨e2, e⟩⟩)
      have h4 : cmpS x.cur y.cur ≠ 0 := fun e => hne (by unfold Bl.key; rw [e1, e2, ldCmpS_eq.1 e])
      have := cmpS_flip y.cur x.cur
      omega
    · refine .inl ?_
      have h4 : cmpS x.acc y.acc ≠ 0 := fun e => e2 (ldCmpS_eq.1 e)
      have := cmpS_flip y.acc x.acc
      omega
  · exact .inl (by omega)
theorem ltot_none (k : Pk) : ∀ l : List Bl, (∀ x ∈ l, x.key ≠ k) → ltot k l = 0
  | [], _ => rfl
  | x :: l, h => by
    rw [ltot, if_neg (h x (List.mem_cons_self ..)), ltot_none k l (fun y hy => h y (List.mem_cons_of_mem _ hy))]
    rfl
theorem Rises.key_ne {x : Bl} {l : List Bl} (h : Rises (x :: l)) : ∀ y ∈ l, y.key ≠ x.key := fun y hy e => by
  have h1 := (List.pairwise_cons.1 h).1 y hy
  have := cmpB_zero.2 e.symm
  omega
theorem ltot_mem : ∀ {l : List Bl}, Rises l → ∀ x ∈ l, ltot x.key l = x.amt
  | y :: l, h, x, hx => by
    have hne := h.key_ne
    rcases List.mem_cons.1 hx with rfl | hx
    · rw [ltot, if_pos rfl, ltot_none _ _ hne]; omega
    · rw [ltot, if_neg (fun e => hne x hx e.symm), ltot_mem (List.pairwise_cons.1 h).2 x hx]; omega
theorem ltot_ex {k : Pk} {l : List Bl} (h : ltot k l ≠ 0) : ∃ x ∈ l, x.key = k := by
  false_or_by_contra
  rename_i hn
  exact h (ltot_none k l (fun x hx e => hn ⟨x, hx, e⟩))
theorem bl_ext {x y : Bl} (h : x.key = y.key) (ha : x.amt = y.amt) : x = y := by
  obtain ⟨x0, x1, x2, x3⟩ := x
  obtain ⟨y0, y1, y2, y3⟩ := y
  unfold Bl.key at h
  rw [Prod.mk.injEq, Prod.mk.injEq] at h
  obtain ⟨h1, h2, h3⟩ := h
  simp only at h1 h2 h3 ha
  rw [h1, h2, h3, ha]
theorem rises_ext : ∀ {l m : List Bl}, Rises l → Rises m → (∀ x, x ∈ l ↔ x ∈ m) → l = m
  | [], [], _, _, _ => rfl
  | [], y :: m, _, _, h => absurd ((h y).2 (List.mem_cons_self ..)) (by simp)
  | x :: l, [], _, _, h => absurd ((h x).1 (List.mem_cons_self ..)) (by simp)
  | x :: l, y :: m, hl, hm, h => by
    obtain ⟨l1, l2⟩ := List.pairwise_cons.1 hl
    obtain ⟨m1, m2⟩ := List.pairwise_cons.1 hm
    have e : x = y := by
      rcases List.mem_cons.1 ((h x).1 (List.mem_cons_self ..)) with e | e
      · exact e
      · rcases List.mem_cons.1 ((h y).2 (List.mem_cons_self ..)) with e2 | e2
        · exact e2.symm
        · exact absurd (cmpB_trans (m1 x e) (l1 y e2)) (cmpB_irr y)
    subst e
    rw [rises_ext l2 m2 (fun z => ?_)]
    constructor
    · intro hz
      rcases List.mem_cons.1 ((h z).1 (List.mem_cons_of_mem _ hz)) with e | e
      · exact absurd (e ▸ l1 z hz) (cmpB_irr x)
      · exact e
    · intro hz
      rcases List.mem_cons.1 ((h z).2 (List.mem_cons_of_mem _ hz)) with e | e
      · exact absurd (e ▸ m1 z hz) (cmpB_irr x)
      · exact e
/-- Balances that rise, none of 0, are known by what each place has. -/
theorem rises_tot {l m : List Bl} (hl : Rises l) (hm : Rises m) (zl : ∀ x ∈ l, x.amt ≠ 0) (zm : ∀ x ∈ m, x.amt ≠ 0) (h : ∀ k, ltot k l = ltot k m) : l = m := by
  refine rises_ext hl hm (fun x => ⟨fun hx => ?_, fun hx => ?_⟩)
  · have h1 := ltot_mem hl x hx
    have h2 : ltot x.key m ≠ 0 := by rw [← h, h1]; exact zl x hx
    obtain ⟨y, hy, e⟩ := ltot_ex h2
    have h3 := ltot_mem hm y hy
    rw [bl_ext e.symm (by rw [← h1, h, ← e, h3])]
    exact hy
  · have h1 := ltot_mem hm x hx
    have h2 : ltot x.key l ≠ 0 := by rw [h, h1]; exact zm x hx
    obtain ⟨y, hy, e⟩ := ltot_ex h2
    have h3 := ltot_mem hl y hy
    rw [bl_ext e.symm (by rw [← h1, ← h, ← e, h3])]
    exact hy

/-- What is wrong with one of some balances. -/
def chkAt (l : List Bl) (k : Nat) : Int := if 0 < k ∧ ¬ cmpB (l.getD (k - 1) bl0) (l.getD k bl0) < 0 then 5 else if ¬ (-1000000000000000000 ≤ (l.getD k bl0).amt ∧ (l.getD k bl0).amt ≤ 1000000000000000000) then 1 else if (l.getD k bl0).amt = 0 then 3 else 0
def chkTo (l : List Bl) : Nat → Int
  | 0 => 0
  | k + 1 => if chkTo l k ≠ 0 then chkTo l k else chkAt l k
/-- What is wrong with balances. -/
def chk (l : List Bl) : Int := if 200 < l.length then 4 else chkTo l l.length
theorem chkTo_zero (l : List Bl) : ∀ n, chkTo l n = 0 ↔ ∀ k, k < n → chkAt l k = 0
  | 0 => by simp [chkTo]
  | n + 1 => by
    unfold chkTo
    split
    · rename_i h
      constructor
      · intro h1; exact absurd h1 h
      · intro h1; exact absurd ((chkTo_zero l n).2 (fun k hk => h1 k (by omega))) h
    · rename_i h
      have h0 : chkTo l n = 0 := by simpa using h
      have h1 := (chkTo_zero l n).1 h0
      constructor
      · intro h2 k hk
        rcases (by omega : k < n ∨ k = n) with h3 | rfl
        · exact h1 k h3
        · exact h2
      · intro h2; exact h2 n (by omega)
theorem chkTo_first {l : List Bl} {k n : Nat} (h0 : chkTo l k = 0) (h1 : chkAt l k ≠ 0) (hn : k < n) : chkTo l n = chkAt l k := by
  induction n with
  | zero => omega
  | succ n ih =>
    unfold chkTo
    rcases (by omega : k < n ∨ k = n) with h | h
    · rw [if_pos (by rw [ih h]; exact h1), ih h]
    · rw [← h, if_neg (by simp [h0])]
theorem chkAt_zero {l : List Bl} {k : Nat} : chkAt l k = 0 ↔ (0 < k → cmpB (l.getD (k - 1) bl0) (l.getD k bl0) < 0) ∧ (-1000000000000000000 ≤ (l.getD k bl0).amt ∧ (l.getD k bl0).amt ≤ 1000000000000000000) ∧ (l.getD k bl0).amt ≠ 0 := by
  unfold chkAt
  split
  · rename_i h
    constructor
    · intro h1; omega
    · intro h1; exact absurd (h1.1 h.1) h.2
  · rename_i h
    split
    · rename_i h2
      constructor
      · intro h1; omega
      · intro h1; exact absurd h1.2.1 h2
    · rename_i h2
      split
      · rename_i h3
        constructor
        · intro h1; omega
        · intro h1; exact absurd h3 h1.2.2
      · rename_i h3
        refine ⟨fun _ => ⟨fun h4 => ?_, by omega, h3⟩, fun _ => rfl⟩
        false_or_by_contra
        rename_i h5
        exact h ⟨h4, h5⟩
theorem rises_of_next : ∀ l : List Bl, (∀ k, k + 1 < l.length → cmpB (l.getD k bl0) (l.getD (k + 1) bl0) < 0) → Rises l
  | [], _ => .nil
  | [x], _ => List.pairwise_singleton _ _
  | x :: y :: l, h => by
    have h0 : cmpB x y < 0 := by have := h 0 (by simp); simpa using this
    have h1 : Rises (y :: l) := rises_of_next (y :: l) (fun k hk => by have := h (k + 1) (by simp at hk ⊢; omega); simpa using this)
    refine List.pairwise_cons.2 ⟨fun z hz => ?_, h1⟩
    rcases List.mem_cons.1 hz with rfl | hz
    · exact h0
    · exact cmpB_trans h0 ((List.pairwise_cons.1 h1).1 z hz)
theorem getD_mem (l : List Bl) (k : Nat) (h : k < l.length) : l.getD k bl0 ∈ l := by
  rw [List.getD_eq_getElem?_getD, List.getElem?_eq_getElem h]
  exact List.getElem_mem h
theorem mem_getD {l : List Bl} {x : Bl} (h : x ∈ l) : ∃ k, k < l.length ∧ l.getD k bl0 = x := by
  obtain ⟨k, hk, e⟩ := List.getElem_of_mem h
  exact ⟨k, hk, by rw [List.getD_eq_getElem?_getD, List.getElem?_eq_getElem hk, e]; rfl⟩
theorem Rises.next {l : List Bl} (h : Rises l) (k : Nat) (hk : k + 1 < l.length) : cmpB (l.getD k bl0) (l.getD (k + 1) bl0) < 0 := by
  have := (List.pairwise_iff_getElem.1 h) k (k + 1) (by omega) hk (by omega)
  rw [List.getD_eq_getElem?_getD, List.getElem?_eq_getElem (by omega), List.getD_eq_getElem?_getD, List.getElem?_eq_getElem hk]
  exact this
/-- Right balances. -/
structure Fine (l : List Bl) : Prop where
  len : l.length ≤ 200
  rises : Rises l
  amt : ∀ x ∈ l, -1000000000000000000 ≤ x.amt ∧ x.amt ≤ 1000000000000000000
  ne : ∀ x ∈ l, x.amt ≠ 0
theorem chk_zero {l : List Bl} : chk l = 0 ↔ Fine l := by
  unfold chk
  split
  · rename_i h
    exact ⟨fun h1 => by omega, fun h1 => by have := h1.len; omega⟩
  · rename_i h
    rw [chkTo_zero]
    constructor
    · intro h1
      refine ⟨by omega, rises_of_next l (fun k hk => ?_), fun x hx => ?_, fun x hx => ?_⟩
      · have := (chkAt_zero.1 (h1 (k + 1) hk)).1 (by omega)
        simpa using this
      · obtain ⟨k, hk, rfl⟩ := mem_getD hx
        exact (chkAt_zero.1 (h1 k hk)).2.1
      · obtain ⟨k, hk, rfl⟩ := mem_getD hx
        exact (chkAt_zero.1 (h1 k hk)).2.2
    · intro h1 k hk
      refine chkAt_zero.2 ⟨fun h0 => ?_, h1.amt _ (getD_mem l k hk), h1.ne _ (getD_mem l k hk)⟩
      have := h1.rises.next (k - 1) (by omega)
      rw [show k - 1 + 1 = k by omega] at this
      exact this
/-- What comes of some: in order, none of 0, each place as it is. -/
structure Sums (l R : List Bl) : Prop where
  rises : Rises R
  ne : ∀ x ∈ R, x.amt ≠ 0
  ltot : ∀ k, ltot k R = ltot k l
theorem Sums.uniq {l m R S : List Bl} (h : Sums l R) (k : Sums m S) (e : ∀ k, Go.Proofs.YtchpobnfejfegaaDoor.ltot k l = Go.Proofs.YtchpobnfejfegaaDoor.ltot k m) : R = S :=
  rises_tot h.rises k.rises h.ne k.ne (fun q => by rw [h.ltot, k.ltot, e])
theorem Fine.sums {l : List Bl} (h : Fine l) : Sums l l := ⟨h.rises, h.ne, fun _ => rfl⟩
theorem Sums.amt {l R : List Bl} (h : Sums l R) (hb : ∀ k, -1000000000000000000 ≤ Go.Proofs.YtchpobnfejfegaaDoor.ltot k l ∧ Go.Proofs.YtchpobnfejfegaaDoor.ltot k l ≤ 1000000000000000000) : ∀ x ∈ R, -1000000000000000000 ≤ x.amt ∧ x.amt ≤ 1000000000000000000 := fun x hx => by
  have h1 := ltot_mem h.rises x hx
  rw [h.ltot] at h1
  rw [← h1]
  exact hb _
/-- What is wrong with what is added up. -/
def mgE (a b : List Bl) : Int := if chk a ≠ 0 then chk a else if chk b ≠ 0 then chk b else if 200 < (parts (a ++ b)).length then 4 else if (parts (a ++ b)).all (fun p => decide (-1000000000000000000 ≤ p.zs.sum ∧ p.zs.sum ≤ 1000000000000000000)) = true then 0 else 10
theorem totP_mem : ∀ {ps : List Pt}, (ps.map Pt.key).Nodup → ∀ p ∈ ps, totP p.key ps = p.zs.sum
  | q :: ps, h, p, hp => by
    simp only [List.map_cons, List.nodup_cons] at h
    have hz : ∀ (ps : List Pt) (k : Pk), k ∉ ps.map Pt.key → totP k ps = 0 := by
      intro ps k hk
      induction ps with
      | nil => rfl
      | cons r ps ih =>
        simp only [List.map_cons, List.mem_cons, not_or] at hk
        rw [totP, if_neg (fun e => hk.1 e.symm), ih hk.2]
        rfl
    rcases List.mem_cons.1 hp with rfl | hp
    · rw [totP, if_pos rfl, hz _ _ h.1]; omega
    · rw [totP, if_neg (fun e => h.1 (by rw [e]; exact List.mem_map.2 ⟨p, hp, rfl⟩)), totP_mem h.2 p hp]; omega
/-- Each place's sum is what it has. -/
theorem parts_all {l : List Bl} {P : Int → Prop} : (∀ p ∈ parts l, P p.zs.sum) ↔ ∀ x ∈ l, P (ltot x.key l) := by
  constructor
  · intro h x hx
    obtain ⟨p, hp, e⟩ := List.mem_map.1 ((parts_keys x.key l).2 ⟨x, hx, rfl⟩)
    have := totP_mem (parts_nodup l) p hp
    rw [parts_tot, e] at this
    rw [this]
    exact h p hp
  · intro h p hp
    obtain ⟨x, hx, e⟩ := (parts_keys p.key l).1 (List.mem_map.2 ⟨p, hp, rfl⟩)
    have := totP_mem (parts_nodup l) p hp
    rw [parts_tot, ← e] at this
    rw [← this]
    exact h x hx
/-- Where nothing is wrong. -/
theorem mgE_zero {a b : List Bl} : mgE a b = 0 ↔ Fine a ∧ Fine b ∧ (parts (a ++ b)).length ≤ 200 ∧ ∀ x ∈ a ++ b, -1000000000000000000 ≤ ltot x.key (a ++ b) ∧ ltot x.key (a ++ b) ≤ 1000000000000000000 := by
  unfold mgE
  split
  · rename_i h
    exact ⟨fun h1 => absurd h1 h, fun h1 => absurd (chk_zero.2 h1.1) h⟩
  · rename_i h
    have fa : Fine a := chk_zero.1 (by simpa using h)
    split
    · rename_i h2
      exact ⟨fun h1 => absurd h1 h2, fun h1 => absurd (chk_zero.2 h1.2.1) h2⟩
    · rename_i h2
      have fb : Fine b := chk_zero.1 (by simpa using h2)
      split
      · rename_i h3
        exact ⟨fun h1 => by omega, fun h1 => by have := h1.2.2.1; omega⟩
      · rename_i h3
        have key := parts_all (l := a ++ b) (P := fun z => -1000000000000000000 ≤ z ∧ z ≤ 1000000000000000000)
        split
        · rename_i h4
          refine ⟨fun _ => ⟨fa, fb, by omega, key.1 (fun p hp => ?_)⟩, fun _ => rfl⟩
          have := List.all_eq_true.1 h4 p hp
          simpa using this
        · rename_i h4
          refine ⟨fun h1 => by omega, fun h1 => absurd (List.all_eq_true.2 (fun p hp => ?_)) h4⟩
          have := key.2 h1.2.2.2 p hp
          simpa using this
theorem ltot_all {l : List Bl} (h : ∀ x ∈ l, -1000000000000000000 ≤ ltot x.key l ∧ ltot x.key l ≤ 1000000000000000000) (k : Pk) : -1000000000000000000 ≤ ltot k l ∧ ltot k l ≤ 1000000000000000000 := by
  by_cases e : ltot k l = 0
  · rw [e]; omega
  · obtain ⟨x, hx, rfl⟩ := ltot_ex e
    exact h x hx
end Go.Proofs.YtchpobnfejfegaaDoor

namespace Go.Proofs.YtchpobnfejfegaaDoor
set_option linter.unusedVariables false
set_option linter.unusedSimpArgs false
set_option maxRecDepth 100000
open Go.RowKit Go.Lib
theorem ldP_str : Tryd.prog.cellsOf 9 = 1 := by kernel_rfl
theorem ldP_int : Tryd.prog.cellsOf 3 = 1 := by kernel_rfl
/-- A place as it can be in memory. -/
structure PkOk (k : Pk) : Prop where
  ent : -9223372036854775808 ≤ k.1 ∧ k.1 ≤ 9223372036854775807
  acc : k.2.1.size ≤ maxLen
  cur : k.2.2.size ≤ maxLen
/-- A balance as it can be in memory. -/
structure BlOk (x : Bl) : Prop where
  key : PkOk x.key
  amt : -9223372036854775808 ≤ x.amt ∧ x.amt ≤ 9223372036854775807
end Go.Proofs.YtchpobnfejfegaaDoor

namespace Go.Proofs.YtchpobnfejfegaaDoor
set_option linter.unusedVariables false
set_option linter.unusedSimpArgs false
set_option maxRecDepth 100000
open Go.RowKit Go.Lib

theorem ld_add (b off i : Nat) : (⟨b, off, none⟩ : Addr).add i = ⟨b, off + i, none⟩ := by
  rcases Nat.eq_zero_or_pos i with h | h
  · subst h; simp [Addr.add]
  · simp [Addr.add]; omega
theorem ld_wf {n : Int} (h : (Lit.int .i64 n).wf = true) : -9223372036854775808 ≤ n ∧ n ≤ 9223372036854775807 := by
  simp [Lit.wf, IntKind.min, IntKind.max, IntKind.bits, IntKind.signed] at h
  omega
section
variable {H : Type} {enc : TypeId × Value → H}
theorem ld_cell_string {w : World} {base : Nat} {spare : Nat → Bool} {held : Bool} {m : Nat} {c : Value} {y : DataW H × List MemPlace} (h : DataW.trod enc Tryd.prog w base spare held m 9 [c] = some y) : ∃ s, c = .string s ∧ s.size ≤ maxLen := by
  cases m with
  | zero => simp [DataW.trod] at h
  | succ m =>
    rw [DataW.trod_step] at h
    unfold DataW.trodStep at h
    rw [Tryd.underlying9] at h
    cases c <;> simp at h
    exact ⟨_, rfl, h.1⟩

theorem ld_cell_int {w : World} {base : Nat} {spare : Nat → Bool} {held : Bool} {m : Nat} {c : Value} {y : DataW H × List MemPlace} (h : DataW.trod enc Tryd.prog w base spare held m 3 [c] = some y) : ∃ n, c = .int .i64 n ∧ (Lit.int .i64 n).wf = true := by
  cases m with
  | zero => simp [DataW.trod] at h
  | succ m =>
    rw [DataW.trod_step] at h
    unfold DataW.trodStep at h
    rw [Tryd.underlying3] at h
    cases c <;> simp at h
    rename_i k n
    obtain ⟨⟨rfl, h2⟩, _⟩ := h
    exact ⟨n, rfl, h2⟩

end

end Go.Proofs.YtchpobnfejfegaaDoor

namespace Go.Proofs.YtchpobnfejfegaaDoor
set_option linter.unusedVariables false
set_option linter.unusedSimpArgs false
set_option maxRecDepth 100000
open Go.RowKit Go.Lib
section
variable {H : Type} {enc : TypeId × Value → H}
theorem al_str_cells : Tryd.prog.cellsOf 9 = 1 := by kernel_rfl
theorem al_int_cells : Tryd.prog.cellsOf 3 = 1 := by kernel_rfl
/-- Numbers that came in. -/
theorem ws_of_trod {W : World} {a : Option Addr} {len cap fuel : Nat} {x : DataW H × List MemPlace} (h : DataW.trod enc Tryd.prog W 0 (fun _ => true) true fuel 23 [.slice a len cap] = some x) :
    ∃ l : List Int, l.length = len ∧ IsW W a l cap ∧ (∀ t ∈ l, -9223372036854775808 ≤ t ∧ t ≤ 9223372036854775807) ∧ len ≤ maxLen := by
  rcases Go.Deep.open_slice Tryd.underlying23 h with ⟨hcs, _⟩ | ⟨x, l, c, m, n, D, Pl, hcs, _, hl, hm, hmm, _, hx⟩
  · simp at hcs
    obtain ⟨rfl, rfl, rfl⟩ := hcs
    exact ⟨[], rfl, ⟨by simp, .inl rfl⟩, by simp, by unfold maxLen; omega⟩
  · simp at hcs
    obtain ⟨rfl, rfl, rfl⟩ := hcs
    have hmm2 : m = cap := hmm
    rw [al_int_cells] at hx
    have hr : ∀ i, i < len → ∃ r : Int, W.cell? (x.add (i * 1)) = some (.int .i64 r) ∧ (-9223372036854775808 ≤ r ∧ r ≤ 9223372036854775807) := fun i hi => by
      obtain ⟨cs', h1, h2⟩ := hx i (by omega)
      have hl1 : cs'.length = 1 := (World.cells?_some h1).2.1
      match cs', hl1 with
      | [c0], _ =>
        obtain ⟨s, rfl, hs⟩ := ld_cell_int h2
        have := (World.cells?_some h1).2.2 0 (by omega)
        simp [Addr.add] at this
        refine ⟨s, ?_, ld_wf hs⟩
        simpa [Addr.add] using this
    obtain ⟨f, hf⟩ := @Go.Deep.choose_lt Int ⟨0⟩ _ _ hr
    have hget : ∀ k, k < len → ((List.range len).map f).getD k 0 = f k := fun k hk => by simp [List.getD, hk]
    have hlen : ((List.range len).map f).length = len := by simp
    refine ⟨(List.range len).map f, hlen, ⟨by rw [hlen]; exact hl, ?_⟩, ?_, Nat.le_trans hl hm⟩
    · by_cases h0 : len = 0
      · subst h0
        exact .inl rfl
      · right
        obtain ⟨b, off, spot⟩ := x
        have hc := (hf 0 (by omega)).1
        simp only [Nat.zero_mul] at hc
        have hc' : W.cell? ⟨b, off, spot⟩ = some (.int .i64 (f 0)) := by simpa [Addr.add] using hc
        have hspot : spot = none := World.cell?_spot hc'
        subst hspot
        refine ⟨b, off, rfl, World.block_lt_of_cell? _ _ hc', fun k hk => ?_⟩
        rw [hlen] at hk
        rw [hget k hk]
        have := (hf k hk).1
        rw [Nat.mul_one, ld_add] at this
        exact this
    · intro y hy
      obtain ⟨k, hk, rfl⟩ := List.mem_map.1 hy
      exact (hf k (List.mem_range.1 hk)).2
theorem al_ws_cells : Tryd.prog.cellsOf 23 = 1 := by kernel_rfl
theorem al_cell_ws {w : World} {base : Nat} {spare : Nat → Bool} {held : Bool} {m : Nat} {c : Value} {y : DataW H × List MemPlace} (h : DataW.trod enc Tryd.prog w base spare held m 23 [c] = some y) : ∃ a len cap, c = .slice a len cap := by
  rcases Go.Deep.open_slice Tryd.underlying23 h with ⟨hcs, _⟩ | ⟨x, l, c', m, n, D, Pl, hcs, _⟩
  · simp at hcs; exact ⟨_, _, _, hcs⟩
  · simp at hcs; exact ⟨_, _, _, hcs⟩
end
end Go.Proofs.YtchpobnfejfegaaDoor

namespace Go.Proofs.YtchpobnfejfegaaDoor
set_option linter.unusedVariables false
set_option linter.unusedSimpArgs false
set_option maxRecDepth 100000
open Go.RowKit Go.Lib
section
variable {H : Type} {enc : TypeId × Value → H}
/-- Rows that came in. -/
theorem wrs_of_trod {W : World} {a : Option Addr} {len cap fuel : Nat} {x : DataW H × List MemPlace} (h : DataW.trod enc Tryd.prog W 0 (fun _ => true) true fuel 22 [.slice a len cap] = some x) :
    ∃ L : List Wr, L.length = len ∧ IsWs W a L cap ∧ True ∧ len ≤ maxLen := by
  rcases Go.Deep.open_slice Tryd.underlying22 h with ⟨hcs, _⟩ | ⟨x, l, c, m, n, D, Pl, hcs, _, hl, hm, hmm, hxx, hx⟩
  · simp at hcs
    obtain ⟨rfl, rfl, rfl⟩ := hcs
    exact ⟨[], rfl, ⟨by simp, .inl rfl, by simp⟩, trivial, by unfold maxLen; omega⟩
  · simp at hcs
    obtain ⟨rfl, rfl, rfl⟩ := hcs
    have hmm2 : m = cap := hmm
    rw [al_ws_cells] at hx
    have hr : ∀ i, i < len → ∃ r : Wr, W.cell? (x.add (i * 1)) = some (.slice r.adr r.xs.length r.cap) ∧ IsW W r.adr r.xs r.cap ∧ r.xs.length ≤ 9223372036854775807 := fun i hi => by
      obtain ⟨cs', h1, h2⟩ := hx i (by omega)
      have hl1 : cs'.length = 1 := (World.cells?_some h1).2.1
      match cs', hl1 with
      | [c0], _ =>
        obtain ⟨a', len', cap', rfl⟩ := al_cell_ws h2
        obtain ⟨l', rfl, k1, k2, k3⟩ := ws_of_trod h2
        have := (World.cells?_some h1).2.2 0 (by omega)
        simp [Addr.add] at this
        unfold maxLen at k3
        refine ⟨⟨a', cap', l'⟩, ?_, k1, k3⟩
        simpa [Addr.add] using this
    obtain ⟨f, hf⟩ := @Go.Deep.choose_lt Wr ⟨wr0⟩ _ _ hr
    have hget : ∀ k, k < len → ((List.range len).map f).getD k wr0 = f k := fun k hk => by simp [List.getD, hk]
    have hlen : ((List.range len).map f).length = len := by simp
    refine ⟨(List.range len).map f, hlen, ⟨by rw [hlen]; exact hl, ?_, ?_⟩, trivial, Nat.le_trans hl hm⟩
    · by_cases h0 : len = 0
      · subst h0
        exact .inl rfl
      · right
        obtain ⟨b, off, spot⟩ := x
        have hc := (hf 0 (by omega)).1
        simp only [Nat.zero_mul] at hc
        have hc' : W.cell? ⟨b, off, spot⟩ = some (.slice (f 0).adr (f 0).xs.length (f 0).cap) := by simpa [Addr.add] using hc
        have hspot : spot = none := World.cell?_spot hc'
        subst hspot
        refine ⟨b, off, rfl, World.block_lt_of_cell? _ _ hc', fun k hk => ?_⟩
        rw [hlen] at hk
        rw [hget k hk]
        have := (hf k hk).1
        rw [Nat.mul_one, ld_add] at this
        exact this
    · intro y hy
      obtain ⟨k, hk, rfl⟩ := List.mem_map.1 hy
      exact (hf k (List.mem_range.1 hk)).2
end
end Go.Proofs.YtchpobnfejfegaaDoor

namespace Go.Proofs.YtchpobnfejfegaaDoor
open Go.ChangeShapes Go.WideShapes Go.RowKit Go.ChangeAt Go.Deep
open Go.ChangeMaps (open_string shut_string)
set_option linter.unusedVariables false
set_option linter.unusedSimpArgs false

theorem asp_own : ownKnob Tryd.prog.godebug = none := by kernel_rfl
theorem asp_laidOut : laidOutB Tryd.prog = true := by kernel_rfl
/-- A table's cells. -/
def asp_cells (d : DataW Unit) : Array Value :=
  match d with
  | .agg l => (l.map fun x => match x with
    | .lit (.int k z) => Value.int k z
    | _ => .bool false).toArray
  | _ => #[]
def asp_put (cs : Array Value) (o : Obj) : Obj :=
  match o with
  | .cells _ t frozen => .cells cs t frozen
  | o => o
theorem asp_et : Tryd.prog.globalNamed "errors.errorType" = some 0 := by kernel_rfl
theorem asp_rt : (Tryd.prog.cutTypes.find? (·.1 == "internal/reflectlite.rtype")).map (·.2) = some 109 := by kernel_rfl
theorem asp_oneRow : ((List.range 159).filter fun t => Tryd.prog.rowNamed t [101, 114, 114, 111, 114]) = [27] := by kernel_rfl
theorem asp_size : Tryd.prog.types.size = 159 := by kernel_rfl
/-- What the condition gives: the variable's one cell. -/
theorem asp_handle {W : World} (h : laidMetH Tryd.prog Rows.allotStepsRow.laid W) : ErrT W := by
  have h' : laidMet Tryd.prog [] W ∧ handlesMet Tryd.prog [("errors.errorType", Rows.laid_errors_errorType)] W := h
  obtain ⟨name, u, ty, e1, e2, e3, e4, e5⟩ := h'.2 _ (List.mem_singleton.2 rfl)
  have en : name = [101, 114, 114, 111, 114] := (Option.some.inj e1).symm
  subst en
  obtain rfl := Option.some.inj (asp_rt.symm.trans e2)
  have hm : ty ∈ (List.range 159).filter fun t => Tryd.prog.rowNamed t [101, 114, 114, 111, 114] := List.mem_filter.2 ⟨List.mem_range.2 (by rw [← asp_size]; exact e3), e4⟩
  rw [asp_oneRow] at hm
  obtain rfl := List.mem_singleton.1 hm
  have hh : typeHandle Tryd.prog 27 = .pointer (some ⟨3, 27, none⟩) := by kernel_rfl
  rw [hh] at e5
  unfold ErrT
  simpa using World.var?_cell asp_et e5 0
/-- A world that meets the condition. -/
theorem asp_met (os : Os) (args : Array Value) : laidMetH Tryd.prog Rows.allotStepsRow.laid ((({ World.holding Tryd.prog os ⟨#[], #[], []⟩ with heap := (World.holding Tryd.prog os ⟨#[], #[], []⟩).heap.modify 0 fun | .cells _ t frozen => .cells #[.iface 109 (.agg #[.pointer (some ⟨3, 27, none⟩)])] t frozen | o => o } : World).forCall (fun _ _ => 0) ⟨#[], args, []⟩).memory) :=
  laidMetH_of_parts (laidMet_nil _ _) (by kernel_rfl)

set_option maxRecDepth 100000 in
theorem asp_lifted (os : Os) (started : os.Started) (H : Type) (enc : TypeId × Value → H) :
    ReturnsInHanded {} Tryd.checked os 3 .any (fun w args => (Rows.allotStepsSpec.pre enc Tryd.prog Tryd.f3 [] false w args ∧ laidMetH Tryd.prog Rows.allotStepsRow.laid w) ∧ sizedMet enc Tryd.prog Tryd.f3 (OpenSpec.ofChange Rows.allotStepsSpec) false w args)
      (Rows.allotStepsSpec.post enc Tryd.prog Tryd.f3 false true false false) := by
  refine returnsInHanded_of_change_and (C := Tryd.checked) (X := fun w _ => laidMetH Tryd.prog Rows.allotStepsRow.laid w) (fun _ _ _ hh h => h.of_heap hh) asp_own started (by kernel_rfl) Tryd.func3
    (ChangeSpec.witness_at (enc := enc) (C := Tryd.checked) (os := os) (X := fun w _ => laidMetH Tryd.prog Rows.allotStepsRow.laid w) false ({ World.holding Tryd.prog os ⟨#[], #[], []⟩ with heap := (World.holding Tryd.prog os ⟨#[], #[], []⟩).heap.modify 0 fun | .cells _ t frozen => .cells #[.iface 109 (.agg #[.pointer (some ⟨3, 27, none⟩)])] t frozen | o => o } : World) #[.slice none 0 0, .slice none 0 0] 8 rfl (by kernel_rfl) (by kernel_rfl) (by kernel_rfl) (by kernel_rfl) (by kernel_rfl) (asp_met os _)) ?_
  intro W base args ds gs before hval0 hW hcnd hsz0 hL _
  have hg := asp_handle hL
  clear hsz0
  have hval : ∀ (j : Nat) t v, Tryd.f3.params[j]? = some t → args[j]? = some v → Value.okWide Tryd.prog W .any base t v := hval0
  have hW' := hW
  obtain ⟨p, q, hA0, hV, rfl, hfz, hnd⟩ := hW
  have hA : DataW.TrodAll enc Tryd.prog W 0 (fun _ => true) true Tryd.f3.params.toList args.toList ds p := hA0
  rw [Tryd.params3] at hA hval
  obtain ⟨v0, vs0, d0, ds0, p0, q0, hargs, rfl, rfl, h0, r0⟩ := trodAll_cons hA
  obtain ⟨v1, vs1, d1, ds1, p1, q1, rfl, rfl, rfl, h1, r1⟩ := trodAll_cons r0
  obtain ⟨rfl, rfl, rfl⟩ := trodAll_nil r1
  obtain rfl : args = #[v0, v1] := by cases args; simp_all
  obtain ⟨rfl, rfl⟩ := trodVars_none hV
  obtain ⟨a0, len0, cap0, rfl⟩ := okWide_slice Tryd.underlying22 (hval 0 22 v0 rfl rfl)
  have k0 := h0
  have lt0 : ∀ x ∈ p0, x.block < W.heap.size := by obtain ⟨m, hm⟩ := k0; exact DataW.trod_lt m _ _ _ hm
  obtain ⟨l0, hl0, hi0, ho0, hm0⟩ : ∃ l : List Wr, l.length = len0 ∧ IsWs W a0 l cap0 ∧ True ∧ len0 ≤ maxLen := by
    obtain ⟨fuel, hf⟩ := h0
    exact wrs_of_trod hf
  subst hl0
  have hb0 : l0.length ≤ 9223372036854775807 := by unfold maxLen at hm0; exact hm0
  obtain ⟨a1, len1, cap1, rfl⟩ := okWide_slice Tryd.underlying23 (hval 1 23 v1 rfl rfl)
  have k1 := h1
  have lt1 : ∀ x ∈ p1, x.block < W.heap.size := by obtain ⟨m, hm⟩ := k1; exact DataW.trod_lt m _ _ _ hm
  obtain ⟨l1, hl1, hi1, ho1, hm1⟩ : ∃ l : List Int, l.length = len1 ∧ IsW W a1 l cap1 ∧ (∀ t ∈ l, -9223372036854775808 ≤ t ∧ t ≤ 9223372036854775807) ∧ len1 ≤ maxLen := by
    obtain ⟨fuel, hf⟩ := h1
    exact ws_of_trod hf
  subst hl1
  have hb1 : l1.length ≤ 9223372036854775807 := by unfold maxLen at hm1; exact hm1
  clear hA0 hval0
  refine (allotSteps_walk a0 a1 l0 l1 cap0 cap1 W hi0 hi1 hb0 hb1 hg).mono fun e W' ⟨he, bel⟩ => ?_
  subst he
  exact ⟨_, rfl, _, _, _, [], _, [], hW', trodAll_mk1 (shut_bool Tryd.underlying4 _), (trodAll_cons_mk (Below.trod asp_laidOut (by kernel_rfl) (of_decide_eq_true (by kernel_rfl)) k0 bel lt0) (trodAll_cons_mk (Below.trod asp_laidOut (by kernel_rfl) (of_decide_eq_true (by kernel_rfl)) k1 bel lt1) trodAll_mk0)), rfl, bel.frame _, fun h => by cases h⟩

theorem asp_over : Rows.AllotStepsSaid :=
  OpenClaim.holds_of_wide 3 Tryd.f3 rfl rfl rfl rfl rfl rfl rfl ⟨rfl, rfl, rfl, rfl, rfl⟩ rfl rfl rfl rfl rfl (by kernel_rfl) Tryd.func3 (by kernel_rfl)
    (of_decide_eq_true (by kernel_rfl)) (by unfold Func.isWrapper; first | (rw [if_pos (by decide +kernel)]; kernel_rfl) | (rw [if_neg (by decide +kernel)]; exact ⟨rfl, rfl⟩))
    (fun os started H enc _ => asp_lifted os started H enc)

/-- The statement. -/
theorem allotSteps_holds : Rows.AllotStepsCardSaid :=
  Claim7.holds_tied_plain_at .later [] [.handle] true _ true
    asp_over (fun _ h => by cases h) (by kernel_rfl) (fun _ h => by cases h) allotSteps_row_tie rfl ⟨rfl, rfl⟩ (by kernel_rfl) rfl
    (fun f fn hf hfn => by
      obtain rfl : f = 3 := Option.some.inj ((show Tryd.prog.funcNamed "quarterday/daylaw3.AllotSteps" = some 3 by kernel_rfl).symm.trans hf) |>.symm
      obtain rfl : fn = Tryd.f3 := (Option.some.inj (Tryd.func3.symm.trans hfn)).symm
      exact ⟨by kernel_rfl, fun j t ht => by
        rw [Tryd.params3] at ht
        have h3 : t = 22 ∨ t = 23 := by
          rcases j with _ | _ | j
          · exact (.inl (by simpa using ht.symm))
          · exact (.inr (by simpa using ht.symm))
          · simp at ht
        rcases h3 with rfl | rfl
        · exact (show Tryd.prog.wantsStandIn 22 = false by kernel_rfl)
        · exact (show Tryd.prog.wantsStandIn 23 = false by kernel_rfl)⟩)
    (by kernel_rfl)
#print axioms allotSteps_holds
end Go.Proofs.YtchpobnfejfegaaDoor
