/-
  A balance put where it belongs, as a list. It names no call.
-/
import Derived.Test.YtfkafjffjeipaaaGreatDoorZm0
namespace Go.Proofs.YtfkafjffjeipaaaGreatDoor
set_option linter.unusedVariables false
set_option linter.unusedSimpArgs false
open Go.RowKit

/-- What a balance is of. -/
abbrev Pk : Type := Int × ByteArray × ByteArray
def Bl.key (x : Bl) : Pk := (x.ent, x.acc, x.cur)
/-- The amounts of a place. -/
structure Pt where
  key : Pk
  zs : List Int
def addP : List Pt → Bl → List Pt
  | [], x => [⟨x.key, [x.amt]⟩]
  | p :: ps, x => if p.key = x.key then ⟨p.key, p.zs ++ [x.amt]⟩ :: ps else p :: addP ps x
def parts (l : List Bl) : List Pt := l.foldl addP []
theorem parts_snoc (l : List Bl) (x : Bl) : parts (l ++ [x]) = addP (parts l) x := by simp [parts]
/-- All of a place. -/
def ltot (k : Pk) : List Bl → Int
  | [] => 0
  | x :: l => (if x.key = k then x.amt else 0) + ltot k l
def totP (k : Pk) : List Pt → Int
  | [] => 0
  | p :: l => (if p.key = k then p.zs.sum else 0) + totP k l
theorem ltot_append (k : Pk) : ∀ l m : List Bl, ltot k (l ++ m) = ltot k l + ltot k m
  | [], m => by simp [ltot]
  | x :: l, m => by rw [List.cons_append, ltot, ltot, ltot_append k l m]; omega
theorem ltot_perm (k : Pk) {l m : List Bl} (h : l.Perm m) : ltot k l = ltot k m := by
  induction h with
  | nil => rfl
  | cons x _ ih => rw [ltot, ltot, ih]
  | swap x y l => simp only [ltot]; omega
  | trans _ _ h1 h2 => rw [h1, h2]
theorem addP_keys (k : Pk) (x : Bl) : ∀ ps : List Pt, k ∈ (addP ps x).map Pt.key ↔ k ∈ ps.map Pt.key ∨ k = x.key
  | [] => by simp [addP]
  | p :: ps => by
    unfold addP
    split
    · rename_i h
      simp only [List.map_cons, List.mem_cons]
      constructor
      · intro h1; exact .inl h1
      · rintro (h1 | h1)
        · exact h1
        · exact .inl (h1.trans h.symm)
    · simp only [List.map_cons, List.mem_cons, addP_keys k x ps, or_assoc]
theorem addP_nodup (x : Bl) : ∀ ps : List Pt, (ps.map Pt.key).Nodup → ((addP ps x).map Pt.key).Nodup
  | [], _ => by simp [addP]
  | p :: ps, h => by
    unfold addP
    split
    · exact h
    · rename_i hne
      simp only [List.map_cons, List.nodup_cons] at h ⊢
      refine ⟨fun h1 => ?_, addP_nodup x ps h.2⟩
      rcases (addP_keys _ x ps).1 h1 with h2 | h2
      · exact h.1 h2
      · exact hne h2
theorem addP_tot (k : Pk) (x : Bl) : ∀ ps : List Pt, totP k (addP ps x) = totP k ps + if x.key = k then x.amt else 0
  | [] => by simp [addP, totP]
  | p :: ps => by
    unfold addP
    split
    · rename_i h
      simp only [totP, List.sum_append, List.sum_cons, List.sum_nil, h]
      split <;> omega
    · simp only [totP, addP_tot k x ps]
      omega
theorem foldl_keys (k : Pk) : ∀ (l : List Bl) (ps : List Pt), k ∈ (l.foldl addP ps).map Pt.key ↔ k ∈ ps.map Pt.key ∨ ∃ x ∈ l, x.key = k
  | [], ps => by simp
  | x :: l, ps => by
    rw [List.foldl_cons, foldl_keys k l, addP_keys]
    constructor
    · rintro ((h | h) | ⟨y, hy, e⟩)
      · exact .inl h
      · exact .inr ⟨x, List.mem_cons_self .., h.symm⟩
      · exact .inr ⟨y, List.mem_cons_of_mem _ hy, e⟩
    · rintro (h | ⟨y, hy, e⟩)
      · exact .inl (.inl h)
      · rcases List.mem_cons.1 hy with rfl | hy
        · exact .inl (.inr e.symm)
        · exact .inr ⟨y, hy, e⟩
theorem foldl_nodup : ∀ (l : List Bl) (ps : List Pt), (ps.map Pt.key).Nodup → ((l.foldl addP ps).map Pt.key).Nodup
  | [], ps, h => h
  | x :: l, ps, h => foldl_nodup l _ (addP_nodup x ps h)
theorem foldl_tot (k : Pk) : ∀ (l : List Bl) (ps : List Pt), totP k (l.foldl addP ps) = totP k ps + ltot k l
  | [], ps => by simp [ltot]
  | x :: l, ps => by rw [List.foldl_cons, foldl_tot k l, addP_tot, ltot]; omega
theorem parts_keys (k : Pk) (l : List Bl) : k ∈ (parts l).map Pt.key ↔ ∃ x ∈ l, x.key = k := by
  rw [parts, foldl_keys]; simp
theorem parts_nodup (l : List Bl) : ((parts l).map Pt.key).Nodup := foldl_nodup l [] (by simp)
theorem parts_tot (k : Pk) (l : List Bl) : totP k (parts l) = ltot k l := by rw [parts, foldl_tot]; simp [totP]
/-- How many places there are hangs on which ones there are alone. -/
theorem parts_count {l m : List Bl} (h : ∀ k, (∃ x ∈ l, x.key = k) ↔ ∃ x ∈ m, x.key = k) : (parts l).length = (parts m).length := by
  have := ((List.perm_ext_iff_of_nodup (parts_nodup l) (parts_nodup m)).2 (fun k => by rw [parts_keys, parts_keys]; exact h k)).length_eq
  simpa using this
theorem nodup_le : ∀ {l m : List Pk}, l.Nodup → (∀ k ∈ l, k ∈ m) → l.length ≤ m.length
  | [], m, _, _ => Nat.zero_le _
  | k :: l, m, h, hs => by
    obtain ⟨h1, h2⟩ := List.nodup_cons.1 h
    obtain ⟨s, t, rfl⟩ := List.append_of_mem (hs k (List.mem_cons_self ..))
    have := nodup_le (m := s ++ t) h2 (fun q hq => by
      have h3 := hs q (List.mem_cons_of_mem _ hq)
      simp only [List.mem_append, List.mem_cons] at h3 ⊢
      rcases h3 with h3 | h3 | h3
      · exact .inl h3
      · exact absurd (h3 ▸ hq) h1
      · exact .inr h3)
    simp only [List.length_append, List.length_cons] at this ⊢
    omega
theorem parts_count_le {l m : List Bl} (h : ∀ k, (∃ x ∈ l, x.key = k) → ∃ x ∈ m, x.key = k) : (parts l).length ≤ (parts m).length := by
  have h1 := parts_nodup l
  have h2 : ∀ k ∈ (parts l).map Pt.key, k ∈ (parts m).map Pt.key := fun k hk => (parts_keys k m).2 (h k ((parts_keys k l).1 hk))
  have := nodup_le h1 h2
  simpa using this
theorem addP_length (x : Bl) : ∀ ps : List Pt, (addP ps x).length ≤ ps.length + 1
  | [] => by simp [addP]
  | p :: ps => by
    unfold addP
    split
    · simp
    · have := addP_length x ps; simp; exact this
theorem parts_length (l : List Bl) : (parts l).length ≤ l.length := by
  have key : ∀ (l : List Bl) (ps : List Pt), (l.foldl addP ps).length ≤ ps.length + l.length := by
    intro l
    induction l with
    | nil => intro ps; simp
    | cons x l ih => intro ps; have h1 := ih (addP ps x); have h2 := addP_length x ps; simp only [List.foldl_cons, List.length_cons]; omega
  have := key l []
  simpa [parts] using this

/-- A place's balance. -/
def Pt.bal (p : Pt) : Bl := ⟨p.key.1, p.key.2.1, p.key.2.2, p.zs.sum⟩
theorem bal_key (p : Pt) : p.bal.key = p.key := rfl
theorem ltot_bal (k : Pk) : ∀ ps : List Pt, ltot k (ps.map Pt.bal) = totP k ps
  | [] => rfl
  | p :: ps => by rw [List.map_cons, ltot, totP, ltot_bal k ps]; rfl
/-- Those that are not 0. -/
def full (l : List Bl) : List Bl := l.filter fun x => x.amt != 0
theorem ltot_full (k : Pk) : ∀ l : List Bl, ltot k (full l) = ltot k l
  | [] => rfl
  | x :: l => by
    have ih := ltot_full k l
    unfold full at ih ⊢
    rw [List.filter_cons]
    by_cases h : x.amt = 0
    · rw [if_neg (by simp [h]), ih, ltot, h]; simp
    · rw [if_pos (by simp [h]), ltot, ltot, ih]
theorem full_ne (l : List Bl) : ∀ x ∈ full l, x.amt ≠ 0 := fun x hx => by
  have := (List.mem_filter.1 hx).2
  simpa using this

/-- Balances rise. -/
def Rises (l : List Bl) : Prop := l.Pairwise fun x y => cmpB x y < 0
theorem cmpS_flip (a b : ByteArray) : cmpS a b < 0 ↔ 0 < cmpS b a := by
  unfold cmpS
  by_cases h : Op.bytesLess a.toList b.toList = true
  · have h2 : ¬ Op.bytesLess b.toList a.toList = true := fun h2 => by
      have := bl_trans _ _ _ h h2
      rw [bl_self] at this
      cases this
    have h3 : ¬ (b.toList == a.toList) = true := fun h3 => by
      rw [beq_iff_eq] at h3
      rw [h3, bl_self] at h
      cases h
    rw [if_pos h, if_neg h2, if_neg h3]
    omega
  · rw [if_neg h]
    by_cases h3 : (a.toList == b.toList) = true
    · rw [if_pos h3]
      have h4 := beq_iff_eq.1 h3
      rw [h4, bl_self]
      simp
    · rw [if_neg h3]
      have h5 := bl_total _ _ (by simpa using h) (by simpa using h3)
      rw [if_pos h5]
      omega
theorem ldCmpS_eq {a b : ByteArray} : cmpS a b = 0 ↔ a = b := by
  rw [cmpS_zero, beq_iff_eq]
  exact ⟨fun h => toList_inj h, fun h => by rw [h]⟩
theorem cmpS_trans {a b c : ByteArray} (h1 : cmpS a b < 0) (h2 : cmpS b c < 0) : cmpS a c < 0 := by
  rw [cmpS_neg] at *
  exact bl_trans _ _ _ h1 h2
theorem cmpI_neg {a b : Int} : cmpI a b < 0 ↔ a < b := by unfold cmpI; split <;> (try split) <;> omega
theorem cmpI_zero {a b : Int} : cmpI a b = 0 ↔ a = b := by unfold cmpI; split <;> (try split) <;> omega
theorem cmpI_flip (a b : Int) : cmpI a b < 0 ↔ 0 < cmpI b a := by unfold cmpI; split <;> (try split) <;> (try split) <;> (try split) <;> omega
theorem cmpB_lt {x y : Bl} : cmpB x y < 0 ↔ x.ent < y.ent ∨ (x.ent = y.ent ∧ (cmpS x.acc y.acc < 0 ∨ (x.acc = y.acc ∧ cmpS x.cur y.cur < 0))) := by
  unfold cmpB
  by_cases h1 : cmpI x.ent y.ent = 0
  · have e1 := cmpI_zero.1 h1
    rw [if_neg (by simp [h1])]
    by_cases h2 : cmpS x.acc y.acc = 0
    · have e2 := ldCmpS_eq.1 h2
      rw [if_neg (by simp [h2])]
      constructor
      · intro h; exact .inr ⟨e1, .inr ⟨e2, h⟩⟩
      · rintro (h | ⟨_, h | ⟨_, h⟩⟩)
        · omega
        · omega
        · exact h
    · rw [if_pos h2]
      constructor
      · intro h; exact .inr ⟨e1, .inl h⟩
      · rintro (h | ⟨_, h | ⟨h, _⟩⟩)
        · omega
        · exact h
        · exact absurd (ldCmpS_eq.2 h) h2
  · have e1 : x.ent ≠ y.ent := fun h => h1 (cmpI_zero.2 h)
    rw [if_pos h1, cmpI_neg]
    constructor
    · intro h; exact .inl h
    · rintro (h | ⟨h, _⟩)
      · exact h
      · exact absurd h e1
theorem cmpB_zero {x y : Bl} : cmpB x y = 0 ↔ x.key = y.key := by
  unfold cmpB Bl.key
  rw [Prod.mk.injEq, Prod.mk.injEq]
  by_cases h1 : cmpI x.ent y.ent = 0
  · rw [if_neg (by simp [h1])]
    by_cases h2 : cmpS x.acc y.acc = 0
    · rw [if_neg (by simp [h2]), ldCmpS_eq]
      exact ⟨fun h => ⟨cmpI_zero.1 h1, ldCmpS_eq.1 h2, h⟩, fun h => h.2.2⟩
    · rw [if_pos h2]
      exact ⟨fun h => absurd h h2, fun h => absurd (ldCmpS_eq.2 h.2.1) h2⟩
  · rw [if_pos h1]
    exact ⟨fun h => absurd h h1, fun h => absurd (cmpI_zero.2 h.1) h1⟩
theorem cmpB_trans {x y z : Bl} (h1 : cmpB x y < 0) (h2 : cmpB y z < 0) : cmpB x z < 0 := by
  rw [cmpB_lt] at *
  rcases h1 with h1 | ⟨e1, h1⟩
  · rcases h2 with h2 | ⟨e2, h2⟩
    · exact .inl (by omega)
    · exact .inl (by omega)
  · rcases h2 with h2 | ⟨e2, h2⟩
    · exact .inl (by omega)
    · refine .inr ⟨by omega, ?_⟩
      rcases h1 with h1 | ⟨f1, h1⟩
      · rcases h2 with h2 | ⟨f2, h2⟩
        · exact .inl (cmpS_trans h1 h2)
        · exact .inl (f2 ▸ h1)
      · rcases h2 with h2 | ⟨f2, h2⟩
        · exact .inl (f1 ▸ h2)
        · exact .inr ⟨f1.trans f2, cmpS_trans h1 h2⟩
theorem cmpB_irr (x : Bl) : ¬ cmpB x x < 0 := by
  have : cmpB x x = 0 := cmpB_zero.2 rfl
  omega
theorem cmpB_total {x y : Bl} (h : ¬ cmpB x y < 0) (hne : x.key ≠ y.key) : cmpB y x < 0 := by
  rw [cmpB_lt] at *
  have h1 : ¬ x.ent < y.ent := fun e => h (.inl e)
  by_cases e1 : x.ent = y.ent
  · refine .inr ⟨e1.symm, ?_⟩
    have h2 : ¬ cmpS x.acc y.acc < 0 := fun e => h (.inr ⟨e1, .inl e⟩)
    by_cases e2 : x.acc = y.acc
    · refine .inr ⟨e2.symm, ?_⟩
      have h3 : ¬ cmpS x.cur y.cur < 0 := fun e => h (.inr ⟨e1, .inr ⟨e2, e⟩⟩)
      have h4 : cmpS x.cur y.cur ≠ 0 := fun e => hne (by unfold Bl.key; rw [e1, e2, ldCmpS_eq.1 e])
      have := cmpS_flip y.cur x.cur
      omega
    · refine .inl ?_
      have h4 : cmpS x.acc y.acc ≠ 0 := fun e => e2 (ldCmpS_eq.1 e)
      have := cmpS_flip y.acc x.acc
      omega
  · exact .inl (by omega)
theorem ltot_none (k : Pk) : ∀ l : List Bl, (∀ x ∈ l, x.key ≠ k) → ltot k l = 0
  | [], _ => rfl
  | x :: l, h => by
    rw [ltot, if_neg (h x (List.mem_cons_self ..)), ltot_none k l (fun y hy => h y (List.mem_cons_of_mem _ hy))]
    rfl
theorem Rises.key_ne {x : Bl} {l : List Bl} (h : Rises (x :: l)) : ∀ y ∈ l, y.key ≠ x.key := fun y hy e => by
  have h1 := (List.pairwise_cons.1 h).1 y hy
  have := cmpB_zero.2 e.symm
  omega
theorem ltot_mem : ∀ {l : List Bl}, Rises l → ∀ x ∈ l, ltot x.key l = x.amt
  | y :: l, h, x, hx => by
    have hne := h.key_ne
    rcases List.mem_cons.1 hx with rfl | hx
    · rw [ltot, if_pos rfl, ltot_none _ _ hne]; omega
    · rw [ltot, if_neg (fun e => hne x hx e.symm), ltot_mem (List.pairwise_cons.1 h).2 x hx]; omega
theorem ltot_ex {k : Pk} {l : List Bl} (h : ltot k l ≠ 0) : ∃ x ∈ l, x.key = k := by
  false_or_by_contra
  rename_i hn
  exact h (ltot_none k l (fun x hx e => hn ⟨x, hx, e⟩))
theorem bl_ext {x y : Bl} (h : x.key = y.key) (ha : x.amt = y.amt) : x = y := by
  obtain ⟨x0, x1, x2, x3⟩ := x
  obtain ⟨y0, y1, y2, y3⟩ := y
  unfold Bl.key at h
  rw [Prod.mk.injEq, Prod.mk.injEq] at h
  obtain ⟨h1, h2, h3⟩ := h
  simp only at h1 h2 h3 ha
  rw [h1, h2, h3, ha]
theorem rises_ext : ∀ {l m : List Bl}, Rises l → Rises m → (∀ x, x ∈ l ↔ x ∈ m) → l = m
  | [], [], _, _, _ => rfl
  | [], y :: m, _, _, h => absurd ((h y).2 (List.mem_cons_self ..)) (by simp)
  | x :: l, [], _, _, h => absurd ((h x).1 (List.mem_cons_self ..)) (by simp)
  | x :: l, y :: m, hl, hm, h => by
    obtain ⟨l1, l2⟩ := List.pairwise_cons.1 hl
    obtain ⟨m1, m2⟩ := List.pairwise_cons.1 hm
    have e : x = y := by
      rcases List.mem_cons.1 ((h x).1 (List.mem_cons_self ..)) with e | e
      · exact e
      · rcases List.mem_cons.1 ((h y).2 (List.mem_cons_self ..)) with e2 | e2
        · exact e2.symm
        · exact absurd (cmpB_trans (m1 x e) (l1 y e2)) (cmpB_irr y)
    subst e
    rw [rises_ext l2 m2 (fun z => ?_)]
    constructor
    · intro hz
      rcases List.mem_cons.1 ((h z).1 (List.mem_cons_of_mem _ hz)) with e | e
      · exact absurd (e ▸ l1 z hz) (cmpB_irr x)
      · exact e
    · intro hz
      rcases List.mem_cons.1 ((h z).2 (List.mem_cons_of_mem _ hz)) with e | e
      · exact absurd (e ▸ m1 z hz) (cmpB_irr x)
      · exact e
/-- Balances that rise, none of 0, are known by what each place has. -/
theorem rises_tot {l m : List Bl} (hl : Rises l) (hm : Rises m) (zl : ∀ x ∈ l, x.amt ≠ 0) (zm : ∀ x ∈ m, x.amt ≠ 0) (h : ∀ k, ltot k l = ltot k m) : l = m := by
  refine rises_ext hl hm (fun x => ⟨fun hx => ?_, fun hx => ?_⟩)
  · have h1 := ltot_mem hl x hx
    have h2 : ltot x.key m ≠ 0 := by rw [← h, h1]; exact zl x hx
    obtain ⟨y, hy, e⟩ := ltot_ex h2
    have h3 := ltot_mem hm y hy
    rw [bl_ext e.symm (by rw [← h1, h, ← e, h3])]
    exact hy
  · have h1 := ltot_mem hm x hx
    have h2 : ltot x.key l ≠ 0 := by rw [h, h1]; exact zm x hx
    obtain ⟨y, hy, e⟩ := ltot_ex h2
    have h3 := ltot_mem hl y hy
    rw [bl_ext e.symm (by rw [← h1, ← h, ← e, h3])]
    exact hy

/-- What is wrong with one of some balances. -/
def chkAt (l : List Bl) (k : Nat) : Int := if 0 < k ∧ ¬ cmpB (l.getD (k - 1) bl0) (l.getD k bl0) < 0 then 5 else if ¬ (-1000000000000000000 ≤ (l.getD k bl0).amt ∧ (l.getD k bl0).amt ≤ 1000000000000000000) then 1 else if (l.getD k bl0).amt = 0 then 3 else 0
def chkTo (l : List Bl) : Nat → Int
  | 0 => 0
  | k + 1 => if chkTo l k ≠ 0 then chkTo l k else chkAt l k
/-- What is wrong with balances. -/
def chk (l : List Bl) : Int := if 200 < l.length then 4 else chkTo l l.length
theorem chkTo_zero (l : List Bl) : ∀ n, chkTo l n = 0 ↔ ∀ k, k < n → chkAt l k = 0
  | 0 => by simp [chkTo]
  | n + 1 => by
    unfold chkTo
    split
    · rename_i h
      constructor
      · intro h1; exact absurd h1 h
      · intro h1; exact absurd ((chkTo_zero l n).2 (fun k hk => h1 k (by omega))) h
    · rename_i h
      have h0 : chkTo l n = 0 := by simpa using h
      have h1 := (chkTo_zero l n).1 h0
      constructor
      · intro h2 k hk
        rcases (by omega : k < n ∨ k = n) with h3 | rfl
        · exact h1 k h3
        · exact h2
      · intro h2; exact h2 n (by omega)
theorem chkTo_first {l : List Bl} {k n : Nat} (h0 : chkTo l k = 0) (h1 : chkAt l k ≠ 0) (hn : k < n) : chkTo l n = chkAt l k := by
  induction n with
  | zero => omega
  | succ n ih =>
    unfold chkTo
    rcases (by omega : k < n ∨ k = n) with h | h
    · rw [if_pos (by rw [ih h]; exact h1), ih h]
    · rw [← h, if_neg (by simp [h0])]
theorem chkAt_zero {l : List Bl} {k : Nat} : chkAt l k = 0 ↔ (0 < k → cmpB (l.getD (k - 1) bl0) (l.getD k bl0) < 0) ∧ (-1000000000000000000 ≤ (l.getD k bl0).amt ∧ (l.getD k bl0).amt ≤ 1000000000000000000) ∧ (l.getD k bl0).amt ≠ 0 := by
  unfold chkAt
  split
  · rename_i h
    constructor
    · intro h1; omega
    · intro h1; exact absurd (h1.1 h.1) h.2
  · rename_i h
    split
    · rename_i h2
      constructor
      · intro h1; omega
      · intro h1; exact absurd h1.2.1 h2
    · rename_i h2
      split
      · rename_i h3
        constructor
        · intro h1; omega
        · intro h1; exact absurd h3 h1.2.2
      · rename_i h3
        refine ⟨fun _ => ⟨fun h4 => ?_, by omega, h3⟩, fun _ => rfl⟩
        false_or_by_contra
        rename_i h5
        exact h ⟨h4, h5⟩
theorem rises_of_next : ∀ l : List Bl, (∀ k, k + 1 < l.length → cmpB (l.getD k bl0) (l.getD (k + 1) bl0) < 0) → Rises l
  | [], _ => .nil
  | [x], _ => List.pairwise_singleton _ _
  | x :: y :: l, h => by
    have h0 : cmpB x y < 0 := by have := h 0 (by simp); simpa using this
    have h1 : Rises (y :: l) := rises_of_next (y :: l) (fun k hk => by have := h (k + 1) (by simp at hk ⊢; omega); simpa using this)
    refine List.pairwise_cons.2 ⟨fun z hz => ?_, h1⟩
    rcases List.mem_cons.1 hz with rfl | hz
    · exact h0
    · exact cmpB_trans h0 ((List.pairwise_cons.1 h1).1 z hz)
theorem getD_mem (l : List Bl) (k : Nat) (h : k < l.length) : l.getD k bl0 ∈ l := by
  rw [List.getD_eq_getElem?_getD, List.getElem?_eq_getElem h]
  exact List.getElem_mem h
theorem mem_getD {l : List Bl} {x : Bl} (h : x ∈ l) : ∃ k, k < l.length ∧ l.getD k bl0 = x := by
  obtain ⟨k, hk, e⟩ := List.getElem_of_mem h
  exact ⟨k, hk, by rw [List.getD_eq_getElem?_getD, List.getElem?_eq_getElem hk, e]; rfl⟩
theorem Rises.next {l : List Bl} (h : Rises l) (k : Nat) (hk : k + 1 < l.length) : cmpB (l.getD k bl0) (l.getD (k + 1) bl0) < 0 := by
  have := (List.pairwise_iff_getElem.1 h) k (k + 1) (by omega) hk (by omega)
  rw [List.getD_eq_getElem?_getD, List.getElem?_eq_getElem (by omega), List.getD_eq_getElem?_getD, List.getElem?_eq_getElem hk]
  exact this
/-- Right balances. -/
structure Fine (l : List Bl) : Prop where
  len : l.length ≤ 200
  rises : Rises l
  amt : ∀ x ∈ l, -1000000000000000000 ≤ x.amt ∧ x.amt ≤ 1000000000000000000
  ne : ∀ x ∈ l, x.amt ≠ 0
theorem chk_zero {l : List Bl} : chk l = 0 ↔ Fine l := by
  unfold chk
  split
  · rename_i h
    exact ⟨fun h1 => by omega, fun h1 => by have := h1.len; omega⟩
  · rename_i h
    rw [chkTo_zero]
    constructor
    · intro h1
      refine ⟨by omega, rises_of_next l (fun k hk => ?_), fun x hx => ?_, fun x hx => ?_⟩
      · have := (chkAt_zero.1 (h1 (k + 1) hk)).1 (by omega)
        simpa using this
      · obtain ⟨k, hk, rfl⟩ := mem_getD hx
        exact (chkAt_zero.1 (h1 k hk)).2.1
      · obtain ⟨k, hk, rfl⟩ := mem_getD hx
        exact (chkAt_zero.1 (h1 k hk)).2.2
    · intro h1 k hk
      refine chkAt_zero.2 ⟨fun h0 => ?_, h1.amt _ (getD_mem l k hk), h1.ne _ (getD_mem l k hk)⟩
      have := h1.rises.next (k - 1) (by omega)
      rw [show k - 1 + 1 = k by omega] at this
      exact this
/-- What comes of some: in order, none of 0, each place as it is. -/
structure Sums (l R : List Bl) : Prop where
  rises : Rises R
  ne : ∀ x ∈ R, x.amt ≠ 0
  ltot : ∀ k, ltot k R = ltot k l
theorem Sums.uniq {l m R S : List Bl} (h : Sums l R) (k : Sums m S) (e : ∀ k, Go.Proofs.YtfkafjffjeipaaaGreatDoor.ltot k l = Go.Proofs.YtfkafjffjeipaaaGreatDoor.ltot k m) : R = S :=
  rises_tot h.rises k.rises h.ne k.ne (fun q => by rw [h.ltot, k.ltot, e])
theorem Fine.sums {l : List Bl} (h : Fine l) : Sums l l := ⟨h.rises, h.ne, fun _ => rfl⟩
theorem Sums.amt {l R : List Bl} (h : Sums l R) (hb : ∀ k, -1000000000000000000 ≤ Go.Proofs.YtfkafjffjeipaaaGreatDoor.ltot k l ∧ Go.Proofs.YtfkafjffjeipaaaGreatDoor.ltot k l ≤ 1000000000000000000) : ∀ x ∈ R, -1000000000000000000 ≤ x.amt ∧ x.amt ≤ 1000000000000000000 := fun x hx => by
  have h1 := ltot_mem h.rises x hx
  rw [h.ltot] at h1
  rw [← h1]
  exact hb _
/-- What is wrong with what is added up. -/
def mgE (a b : List Bl) : Int := if chk a ≠ 0 then chk a else if chk b ≠ 0 then chk b else if 200 < (parts (a ++ b)).length then 4 else if (parts (a ++ b)).all (fun p => decide (-1000000000000000000 ≤ p.zs.sum ∧ p.zs.sum ≤ 1000000000000000000)) = true then 0 else 10
theorem totP_mem : ∀ {ps : List Pt}, (ps.map Pt.key).Nodup → ∀ p ∈ ps, totP p.key ps = p.zs.sum
  | q :: ps, h, p, hp => by
    simp only [List.map_cons, List.nodup_cons] at h
    have hz : ∀ (ps : List Pt) (k : Pk), k ∉ ps.map Pt.key → totP k ps = 0 := by
      intro ps k hk
      induction ps with
      | nil => rfl
      | cons r ps ih =>
        simp only [List.map_cons, List.mem_cons, not_or] at hk
        rw [totP, if_neg (fun e => hk.1 e.symm), ih hk.2]
        rfl
    rcases List.mem_cons.1 hp with rfl | hp
    · rw [totP, if_pos rfl, hz _ _ h.1]; omega
    · rw [totP, if_neg (fun e => h.1 (by rw [e]; exact List.mem_map.2 ⟨p, hp, rfl⟩)), totP_mem h.2 p hp]; omega
/-- Each place's sum is what it has. -/
theorem parts_all {l : List Bl} {P : Int → Prop} : (∀ p ∈ parts l, P p.zs.sum) ↔ ∀ x ∈ l, P (ltot x.key l) := by
  constructor
  · intro h x hx
    obtain ⟨p, hp, e⟩ := List.mem_map.1 ((parts_keys x.key l).2 ⟨x, hx, rfl⟩)
    have := totP_mem (parts_nodup l) p hp
    rw [parts_tot, e] at this
    rw [this]
    exact h p hp
  · intro h p hp
    obtain ⟨x, hx, e⟩ := (parts_keys p.key l).1 (List.mem_map.2 ⟨p, hp, rfl⟩)
    have := totP_mem (parts_nodup l) p hp
    rw [parts_tot, ← e] at this
    rw [← this]
    exact h x hx
/-- Where nothing is wrong. -/
theorem mgE_zero {a b : List Bl} : mgE a b = 0 ↔ Fine a ∧ Fine b ∧ (parts (a ++ b)).length ≤ 200 ∧ ∀ x ∈ a ++ b, -1000000000000000000 ≤ ltot x.key (a ++ b) ∧ ltot x.key (a ++ b) ≤ 1000000000000000000 := by
  unfold mgE
  split
  · rename_i h
    exact ⟨fun h1 => absurd h1 h, fun h1 => absurd (chk_zero.2 h1.1) h⟩
  · rename_i h
    have fa : Fine a := chk_zero.1 (by simpa using h)
    split
    · rename_i h2
      exact ⟨fun h1 => absurd h1 h2, fun h1 => absurd (chk_zero.2 h1.2.1) h2⟩
    · rename_i h2
      have fb : Fine b := chk_zero.1 (by simpa using h2)
      split
      · rename_i h3
        exact ⟨fun h1 => by omega, fun h1 => by have := h1.2.2.1; omega⟩
      · rename_i h3
        have key := parts_all (l := a ++ b) (P := fun z => -1000000000000000000 ≤ z ∧ z ≤ 1000000000000000000)
        split
        · rename_i h4
          refine ⟨fun _ => ⟨fa, fb, by omega, key.1 (fun p hp => ?_)⟩, fun _ => rfl⟩
          have := List.all_eq_true.1 h4 p hp
          simpa using this
        · rename_i h4
          refine ⟨fun h1 => by omega, fun h1 => absurd (List.all_eq_true.2 (fun p hp => ?_)) h4⟩
          have := key.2 h1.2.2.2 p hp
          simpa using this
theorem ltot_all {l : List Bl} (h : ∀ x ∈ l, -1000000000000000000 ≤ ltot x.key l ∧ ltot x.key l ≤ 1000000000000000000) (k : Pk) : -1000000000000000000 ≤ ltot k l ∧ ltot k l ≤ 1000000000000000000 := by
  by_cases e : ltot k l = 0
  · rw [e]; omega
  · obtain ⟨x, hx, rfl⟩ := ltot_ex e
    exact h x hx
end Go.Proofs.YtfkafjffjeipaaaGreatDoor

namespace Go.Proofs.YtfkafjffjeipaaaGreatDoor
set_option linter.unusedVariables false
set_option linter.unusedSimpArgs false
open Go.RowKit

def Bl.plus (y x : Bl) : Bl := ⟨y.ent, y.acc, y.cur, y.amt + x.amt⟩
theorem plus_key (y x : Bl) : (y.plus x).key = y.key := rfl
def putB : List Bl → Bl → List Bl
  | [], x => [x]
  | y :: l, x => if cmpB y x < 0 then y :: putB l x else if cmpB x y < 0 then x :: y :: l else y.plus x :: l
/-- How many stand ahead. -/
def putAt : List Bl → Bl → Nat
  | [], x => 0
  | y :: l, x => if cmpB y x < 0 then putAt l x + 1 else 0
theorem putAt_le : ∀ (l : List Bl) (x : Bl), putAt l x ≤ l.length
  | [], x => Nat.le_refl _
  | y :: l, x => by
    unfold putAt
    have := putAt_le l x
    split <;> simp <;> omega
theorem putAt_ahead : ∀ (l : List Bl) (x : Bl) (j : Nat), j < putAt l x → cmpB (l.getD j bl0) x < 0
  | [], x, j, h => by simp [putAt] at h
  | y :: l, x, j, h => by
    unfold putAt at h
    split at h
    · rename_i hy
      rcases j with _ | j
      · simpa using hy
      · have := putAt_ahead l x j (by omega)
        simpa using this
    · omega
theorem putAt_stop : ∀ (l : List Bl) (x : Bl), putAt l x < l.length → ¬ cmpB (l.getD (putAt l x) bl0) x < 0
  | [], x, h => by simp at h
  | y :: l, x, h => by
    unfold putAt at h ⊢
    split at h
    · rename_i hy
      rw [if_pos hy]
      have := putAt_stop l x (by simp at h; omega)
      simpa using this
    · rename_i hy
      rw [if_neg hy]
      simpa using hy
theorem putAt_eq {l : List Bl} {x : Bl} {k : Nat} (h1 : ∀ j, j < k → cmpB (l.getD j bl0) x < 0) (h2 : k < l.length → ¬ cmpB (l.getD k bl0) x < 0) (hk : k ≤ l.length) : k = putAt l x := by
  rcases (by omega : k < putAt l x ∨ k = putAt l x ∨ putAt l x < k) with h | h | h
  · exact absurd (putAt_ahead l x k h) (h2 (by have := putAt_le l x; omega))
  · exact h
  · exact absurd (h1 _ h) (putAt_stop l x (by omega))
theorem putB_eq : ∀ (l : List Bl) (x : Bl), putB l x = if putAt l x < l.length ∧ ¬ cmpB x (l.getD (putAt l x) bl0) < 0 then l.take (putAt l x) ++ (l.getD (putAt l x) bl0).plus x :: l.drop (putAt l x + 1) else l.take (putAt l x) ++ x :: l.drop (putAt l x)
  | [], x => by simp [putB, putAt]
  | y :: l, x => by
    unfold putB putAt
    by_cases h1 : cmpB y x < 0
    · simp only [h1, if_true, List.length_cons, Nat.add_lt_add_iff_right, List.getD_cons_succ, List.take_succ_cons, List.drop_succ_cons, putB_eq l x]
      split <;> simp
    · simp only [h1, if_false]
      by_cases h2 : cmpB x y < 0
      · simp [h2]
      · simp [h2]
theorem putB_tot (k : Pk) : ∀ (l : List Bl) (x : Bl), ltot k (putB l x) = ltot k l + if x.key = k then x.amt else 0
  | [], x => by simp [putB, ltot]
  | y :: l, x => by
    unfold putB
    split
    · rw [ltot, putB_tot k l x, ltot]; omega
    · split
      · rw [ltot]; omega
      · rename_i h1 h2
        have e : y.key = x.key := by
          false_or_by_contra
          rename_i hne
          exact h2 (cmpB_total h1 hne)
        rw [ltot, ltot, plus_key, e]
        simp only [Bl.plus]
        split <;> omega
theorem putB_keys (k : Pk) : ∀ (l : List Bl) (x : Bl), (∃ y ∈ putB l x, y.key = k) ↔ (∃ y ∈ l, y.key = k) ∨ x.key = k
  | [], x => by simp [putB]
  | y :: l, x => by
    have ih := putB_keys k l x
    simp only [List.mem_cons, exists_eq_or_imp] at ih ⊢
    unfold putB
    split
    · simp only [List.mem_cons, exists_eq_or_imp, ih, or_assoc]
    · split
      · simp only [List.mem_cons, exists_eq_or_imp]
        constructor
        · rintro (h | h)
          · exact .inr h
          · exact .inl h
        · rintro (h | h)
          · exact .inr h
          · exact .inl h
      · rename_i h1 h2
        have e : y.key = x.key := by
          false_or_by_contra
          rename_i hne
          exact h2 (cmpB_total h1 hne)
        simp only [List.mem_cons, exists_eq_or_imp, plus_key]
        constructor
        · intro h; exact .inl h
        · rintro (h | h)
          · exact h
          · exact .inl (e.trans h)
theorem cmpB_plus (y x z : Bl) : cmpB (y.plus x) z = cmpB y z ∧ cmpB z (y.plus x) = cmpB z y := ⟨rfl, rfl⟩
theorem putB_behind {y : Bl} : ∀ {l : List Bl} {x : Bl}, (∀ z ∈ l, cmpB y z < 0) → cmpB y x < 0 → ∀ z ∈ putB l x, cmpB y z < 0
  | [], x, _, hx, z, hz => by
    simp only [putB, List.mem_singleton] at hz
    rw [hz]; exact hx
  | q :: l, x, h, hx, z, hz => by
    have h1 := h q (List.mem_cons_self ..)
    have h2 : ∀ z ∈ l, cmpB y z < 0 := fun z hz => h z (List.mem_cons_of_mem _ hz)
    unfold putB at hz
    split at hz
    · rcases List.mem_cons.1 hz with rfl | hz
      · exact h1
      · exact putB_behind h2 hx z hz
    · split at hz
      · rcases List.mem_cons.1 hz with rfl | hz
        · exact hx
        · exact h z hz
      · rcases List.mem_cons.1 hz with rfl | hz
        · exact h1
        · exact h2 z hz
theorem putB_rises : ∀ {l : List Bl} {x : Bl}, Rises l → Rises (putB l x)
  | [], x, _ => List.pairwise_singleton _ _
  | y :: l, x, h => by
    obtain ⟨h1, h2⟩ := List.pairwise_cons.1 h
    unfold putB
    split
    · rename_i hy
      exact List.pairwise_cons.2 ⟨putB_behind h1 hy, putB_rises h2⟩
    · split
      · rename_i hy
        exact List.pairwise_cons.2 ⟨fun z hz => by
          rcases List.mem_cons.1 hz with rfl | hz
          · exact hy
          · exact cmpB_trans hy (h1 z hz), h⟩
      · exact List.pairwise_cons.2 ⟨h1, h2⟩
theorem putB_length : ∀ (l : List Bl) (x : Bl), (putB l x).length ≤ l.length + 1
  | [], x => by simp [putB]
  | y :: l, x => by
    have := putB_length l x
    unfold putB
    split
    · simp; exact this
    · split <;> simp
/-- All of some put into others. -/
def putL (l m : List Bl) : List Bl := m.foldl putB l
theorem putL_snoc (l m : List Bl) (k : Nat) (h : k < m.length) : putL l (m.take (k + 1)) = putB (putL l (m.take k)) (m.getD k bl0) := by
  rw [bls_take m k h, putL, List.foldl_append]; rfl
theorem putL_rises : ∀ {m l : List Bl}, Rises l → Rises (putL l m)
  | [], l, h => h
  | x :: m, l, h => putL_rises (m := m) (putB_rises h)
theorem putL_tot (k : Pk) : ∀ (m l : List Bl), ltot k (putL l m) = ltot k (l ++ m)
  | [], l => by simp [putL]
  | x :: m, l => by
    have h1 : ltot k (putL (putB l x) m) = ltot k (putB l x ++ m) := putL_tot k m (putB l x)
    show ltot k (putL (putB l x) m) = _
    rw [h1, ltot_append, putB_tot, ltot_append, ltot]
    omega
theorem putL_keys (k : Pk) : ∀ (m l : List Bl), (∃ y ∈ putL l m, y.key = k) ↔ ∃ y ∈ l ++ m, y.key = k
  | [], l => by simp [putL]
  | x :: m, l => by
    have h1 := putL_keys k m (putB l x)
    show (∃ y ∈ putL (putB l x) m, y.key = k) ↔ _
    rw [h1]
    have h2 := putB_keys k l x
    constructor
    · rintro ⟨y, hy, e⟩
      rcases List.mem_append.1 hy with hy | hy
      · rcases h2.1 ⟨y, hy, e⟩ with ⟨z, hz, ez⟩ | ez
        · exact ⟨z, List.mem_append_left _ hz, ez⟩
        · exact ⟨x, List.mem_append_right _ (List.mem_cons_self ..), ez⟩
      · exact ⟨y, List.mem_append_right _ (List.mem_cons_of_mem _ hy), e⟩
    · rintro ⟨y, hy, e⟩
      rcases List.mem_append.1 hy with hy | hy
      · obtain ⟨z, hz, ez⟩ := h2.2 (.inl ⟨y, hy, e⟩)
        exact ⟨z, List.mem_append_left _ hz, ez⟩
      · rcases List.mem_cons.1 hy with rfl | hy
        · obtain ⟨z, hz, ez⟩ := h2.2 (.inr e)
          exact ⟨z, List.mem_append_left _ hz, ez⟩
        · exact ⟨y, List.mem_append_right _ hy, e⟩
theorem putL_length : ∀ (m l : List Bl), (putL l m).length ≤ l.length + m.length
  | [], l => by simp [putL]
  | x :: m, l => by
    have h1 : (putL (putB l x) m).length ≤ _ := putL_length m (putB l x)
    have h2 := putB_length l x
    show (putL (putB l x) m).length ≤ _
    simp only [List.length_cons]
    omega
theorem Rises.nodup {l : List Bl} (h : Rises l) : (l.map Bl.key).Nodup := by
  rw [List.nodup_iff_pairwise_ne, List.pairwise_map]
  exact h.imp (fun {x y} hxy e => by have := cmpB_zero.2 e; omega)
/-- As many as there are places. -/
theorem putL_count {a b : List Bl} (ha : Rises a) : (putL a b).length = (parts (a ++ b)).length := by
  have h1 : ((putL a b).map Bl.key).Perm ((parts (a ++ b)).map Pt.key) := (List.perm_ext_iff_of_nodup (putL_rises ha).nodup (parts_nodup _)).2 (fun k => by
    rw [parts_keys, ← putL_keys k b a]
    simp)
  have := h1.length_eq
  simpa using this
theorem putL_sums {a b : List Bl} (ha : Rises a) : Sums (a ++ b) (full (putL a b)) :=
  ⟨(putL_rises ha).sublist List.filter_sublist, full_ne _, fun k => by rw [ltot_full, putL_tot]⟩
def inB (x : Bl) : Prop := -1000000000000000000 ≤ x.amt ∧ x.amt ≤ 1000000000000000000
/-- What is wrong with them, as it is looked for. -/
theorem mgE_put {a b : List Bl} (ha : chk a = 0) (hb : chk b = 0) (h2 : (putL a b).length ≤ 200) : ((∀ x ∈ full (putL a b), inB x) → mgE a b = 0) ∧ (¬ (∀ x ∈ full (putL a b), inB x) → mgE a b = 10) := by
  have fa := chk_zero.1 ha
  have fb := chk_zero.1 hb
  have hr := putL_rises (m := b) fa.rises
  have hc := putL_count (b := b) fa.rises
  have key : (∀ x ∈ full (putL a b), inB x) ↔ mgE a b = 0 := by
    rw [mgE_zero]
    constructor
    · intro h
      refine ⟨fa, fb, by omega, fun x hx => ?_⟩
      by_cases e : ltot x.key (a ++ b) = 0
      · rw [e]; omega
      · rw [← putL_tot, ← ltot_full] at e ⊢
        obtain ⟨y, hy, ey⟩ := ltot_ex e
        have h1 := ltot_mem (putL_sums (b := b) fa.rises).rises y hy
        rw [ey] at h1
        rw [h1]
        exact h y hy
    · intro h x hx
      have h1 := ltot_mem (putL_sums (b := b) fa.rises).rises x hx
      rw [ltot_full, putL_tot] at h1
      unfold inB
      rw [← h1]
      exact ltot_all h.2.2.2 _
  refine ⟨key.1, fun h => ?_⟩
  have h0 : mgE a b ≠ 0 := fun e => h (key.2 e)
  unfold mgE at h0 ⊢
  rw [if_neg (by simp [ha]), if_neg (by simp [hb]), if_neg (by omega)] at h0 ⊢
  split at h0
  · exact absurd rfl h0
  · rename_i h3
    rw [if_neg h3]
theorem mgE_put4 {a b : List Bl} (ha : chk a = 0) (hb : chk b = 0) (h2 : 200 < (putL a b).length) : mgE a b = 4 := by
  have hc := putL_count (b := b) (chk_zero.1 ha).rises
  unfold mgE
  rw [if_neg (by simp [ha]), if_neg (by simp [hb]), if_pos (by omega)]
end Go.Proofs.YtfkafjffjeipaaaGreatDoor
