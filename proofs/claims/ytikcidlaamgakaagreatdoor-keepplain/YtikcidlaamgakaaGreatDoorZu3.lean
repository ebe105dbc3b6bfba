/-
  A log, numbers alone: what is found whatever a disk leaves.
-/
import Derived.Test.YtikcidlaamgakaaGreatDoorZu2
import Derived.Laws.AppendOwnNone
import Derived.Lib.SliceRun
import Derived.Lib.SlBytesConst
import Derived.Test.YtikcidlaamgakaaGreatDoorProg
namespace Go.Proofs.YtikcidlaamgakaaGreatDoor
set_option linter.unusedVariables false
set_option linter.unusedSimpArgs false
set_option maxRecDepth 100000
open Go.RowKit Go.Lib

theorem ByRow.own {W : World} {n : Nat} {v : Value} {l : List UInt8} (h : ByRow W n v l) : ∀ j, v.ownBlock = some j → n ≤ j := by
  intro j hj
  rcases h.2 with ⟨h1, _⟩ | ⟨g1, c1, cur, h1, hg1, _⟩
  · rw [h1] at hj; cases hj
  · rw [h1] at hj; cases hj; exact hg1
theorem grown_below {w w' : World} {base : Nat} {v : Value} (hg : w.grownBy w' v.ownBlock) (hb : base ≤ w.heap.size) (ho : ∀ j, v.ownBlock = some j → base ≤ j) : Below base w w' := (Below.refl base w).grown hg hb ho
/-- 'append(v, x...)', v a row of one's own. -/
theorem run_appB (w : World) (ty : TypeId) (base : Nat) (v : Value) (l : List UInt8) (a : Option Addr) (m : List UInt8) (cap : Nat) (hr : ByRow w base v l) (hm : IsBy w a m cap) (hc : cap = 0 ∨ a ≠ none) (hb : base ≤ w.heap.size) (hlen : l.length + m.length ≤ 1000000) :
    ∃ v' w', (Builtin.append_ #[35, 35] ty #[v, .slice a m.length cap]).run Tryz.prog w = .ok v' w' ∧ ByRow w' base v' (l ++ m) ∧ Below base w w' ∧ (∀ b, b < w.heap.size → v.ownBlock ≠ some b → w'.heap[b]? = w.heap[b]?) ∧ (v'.ownBlock = v.ownBlock ∨ v'.ownBlock = some w.heap.size) := by
  obtain ⟨qi, hqi, hqz⟩ := u8_tinfo
  cases a with
  | none =>
    have hm0 : m = [] := by
      rcases hm.lies with h | ⟨b, off, e, _⟩
      · exact h
      · cases e
    subst hm0
    have hc0 : cap = 0 := by rcases hc with h | h; exact h; exact absurd rfl h
    subst hc0
    refine ⟨v, w, run_append_owned_none (P := Tryz.prog) (w := w) base 35 ty 5 qi 1 Tryz.underlying35 hqi v _ _ hr, by simpa using hr, Below.refl _ _, fun _ _ _ => rfl, .inl rfl⟩
  | some ad =>
    obtain ⟨v', w', h1, h2, h3, _, h5⟩ := run_append_own_at (P := Tryz.prog) w base 35 ty 5 qi (.int .u8 0) 1 1 Tryz.underlying35 hqi hqz.1 hqz.2.1 hqz.2.2 rfl (by omega) v l.length (byC l) hr ad m.length cap (byC m) (by rw [byC_length]; omega) (fun j u hj => by
      have hjl : j < m.length := by
        have := (List.getElem?_eq_some_iff.1 hj).1
        rwa [byC_length] at this
      rcases hm.lies with h | ⟨b, off, e, hlt, hk⟩
      · subst h; simp at hjl
      · cases e
        rw [Addr.add_mid, hk j hjl]
        rw [byC_get m j hjl] at hj
        exact hj) (byC_one m) (by unfold maxLen; omega) (by omega) hb
    refine ⟨v', w', h1, ?_, grown_below h3 hb hr.own, fun b hlt hne => h3.block b hlt (fun e => hne e.symm), h5⟩
    unfold ByRow
    rw [List.length_append, byC_append]
    exact h2
theorem wpList_appB {w : World} {ops : Array Oper} {rest : List Oper} {o : Oper} {a : Act} {Q : Exit → Act → World → Prop} (hgd : o.guard = none) (d s : Operand) (ho : o.op = .call { callee := .builtin .append, args := #[d, s], argTypes := #[35, 35] })
    (base : Nat) (v : Value) (l : List UInt8) (ad : Option Addr) (m : List UInt8) (k cap : Nat) (hd : a.eval d = v) (hs : a.eval s = .slice ad k cap) (hk : m.length = k) (hr : ByRow w base v l) (hm : IsBy w ad m cap) (hc : cap = 0 ∨ ad ≠ none) (hb : base ≤ w.heap.size) (hlen : l.length + m.length ≤ 1000000)
    (h : ∀ v' w', ByRow w' base v' (l ++ m) → Below base w w' → (∀ b, b < w.heap.size → v.ownBlock ≠ some b → w'.heap[b]? = w.heap[b]?) → (v'.ownBlock = v.ownBlock ∨ v'.ownBlock = some w.heap.size) → wpList Tryz.prog ops Q rest (a.put o.dst v') w') : wpList Tryz.prog ops Q (o :: rest) a w := by
  subst hk
  obtain ⟨v', w', h1, h2, h3, h4, h5⟩ := run_appB w o.type base v l ad m cap hr hm hc hb hlen
  exact wpList_append_run hgd d s 35 35 ho v _ hd hs h1 (h v' w' h2 h3 h4 h5)
/-- A literal of bytes. -/
theorem byRow_new (W : World) (l : List UInt8) (base : Nat) (hb : base ≤ W.heap.size) (hl : l.length ≤ 1000000) : ByRow (W.alloc (.cells (byC l).toArray 5)) base (.slice (some ⟨W.heap.size, 0, none⟩) l.length l.length) l := by
  refine ⟨by rw [byC_length]; omega, .inr ⟨W.heap.size, l.length, (byC l).toArray, rfl, hb, new_heap W _, Nat.le_refl _, by unfold maxLen; omega, by simp [byC_length], ?_⟩⟩
  rw [List.toList_toArray, Nat.mul_one, ← byC_length l, List.take_length]
theorem isBy_new (W : World) (l : List UInt8) : IsBy (W.alloc (.cells (byC l).toArray 5)) (some ⟨W.heap.size, 0, none⟩) l l.length := by
  refine ⟨Nat.le_refl _, .inr ⟨W.heap.size, 0, rfl, by simp, fun k hk => ?_⟩⟩
  rw [Nat.zero_add, cell_of_row _ _ _ _ _ (0, 0) (new_heap W _)]
  simp [byC, hk]

/-- Bytes that no one turns. -/
def OwnBy (W : World) (v : Value) (l : List UInt8) : Prop := ∃ a cap, v = .slice a l.length cap ∧ l.length ≤ cap ∧ (a = none → cap = 0) ∧ (l = [] ∨ ∃ b off cs, a = some ⟨b, off, none⟩ ∧ W.heap[b]? = some (.cells cs 5 (0, 0)) ∧ ∀ k (h : k < l.length), cs[off + k]? = some (.int .u8 (l[k]'h).toNat))
theorem OwnBy.isBy {W : World} {v : Value} {l : List UInt8} (h : OwnBy W v l) : ∃ a cap, v = .slice a l.length cap ∧ (cap = 0 ∨ a ≠ none) ∧ IsBy W a l cap := by
  obtain ⟨a, cap, rfl, hc, hn, h⟩ := h
  refine ⟨a, cap, rfl, ?_, hc, ?_⟩
  · by_cases e : a = none
    · exact .inl (hn e)
    · exact .inr e
  rcases h with h | ⟨b, off, cs, e, hb, hk⟩
  · exact .inl h
  · refine .inr ⟨b, off, e, (Array.getElem?_eq_some_iff.1 hb).1, fun k h => ?_⟩
    rw [cell_of_row W b _ _ _ (0, 0) hb]
    exact hk k h
theorem OwnBy.of_row {W : World} {n : Nat} {v : Value} {l : List UInt8} (h : ByRow W n v l) : OwnBy W v l := by
  obtain ⟨hlen, ⟨rfl, h0⟩ | ⟨g, cap, cur, rfl, hb, hg, hc, hm, hs, ht⟩⟩ := h
  · have : l = [] := List.eq_nil_of_length_eq_zero h0
    subst this
    exact ⟨none, 0, rfl, Nat.le_refl _, fun _ => rfl, .inl rfl⟩
  · refine ⟨_, cap, rfl, hc, (fun e => by cases e), .inr ⟨g, 0, cur, rfl, hg, fun k hk => ?_⟩⟩
    have e1 : (byC l)[k]? = cur[k]? := by
      rw [← ht, List.getElem?_take, if_pos (by omega)]
      simp
    rw [Nat.zero_add, ← byC_get l k hk, e1]
set_option maxHeartbeats 2000000 in
theorem clone_any (a : Option Addr) (l : List UInt8) (cap : Nat) (w : World) (h : IsBy w a l cap) (hc : cap = 0 ∨ a ≠ none) (hl : l.length ≤ 1000) :
    Calls Tryz.prog 29 #[.slice a l.length cap] w fun e w' => ∃ v, e = .returned v ∧ Hid (OwnBy w' v l) ∧ Hid (Below w.heap.size w w') := by
  have q35 : ∀ (w : World) (a : Option Addr) (n c n' c' : Nat), (binOp .eql 35 (.slice a n c) (.slice none n' c')).run Tryz.prog w = .ok (.bool a.isNone) w := fun w a n c n' c' => Lib.run_eql_slice_nil w _ _ a n c n' c' Tryz.underlying35
  cases a with
  | none =>
    have hl0 : l = [] := by
      rcases h.lies with h | ⟨b, off, e, _⟩
      · exact h
      · cases e
    subst hl0
    have hc0 : cap = 0 := by rcases hc with h | h; exact h; exact absurd rfl h
    subst hc0
    clear h hc
    go_enter Tryz.func29, Tryz.ntmps29
    go_wp2
    go_ret
    exact ⟨_, rfl, ⟨none, 0, rfl, Nat.le_refl _, fun _ => rfl, .inl rfl⟩, Below.refl _ _⟩
  | some ad =>
    have HB : Hid (IsBy w (some ad) l cap) := h
    have l0 : (0 : Int) ≤ l.length := by omega
    clear h hc
    go_enter Tryz.func29, Tryz.ntmps29
    go_wp2_with (at_builtin; refine wpList_appB rfl (.tmp 5) (.tmp 6) rfl w.heap.size (.slice (some ⟨w.heap.size, 0, none⟩) 0 0) [] (some ad) l l.length cap rfl rfl rfl (byRow_new w [] w.heap.size (Nat.le_refl _) (by simp)) (HB.out.below ((Below.refl _ w).alloc (Nat.le_refl _) _)) (.inr (by simp)) (by simp) (by simp; omega) ?_; intro v' w2 hr hb _ _)
    have HE : Hid (OwnBy w2 v' l ∧ Below w.heap.size w w2) := ⟨OwnBy.of_row (by simpa using hr), ((Below.refl _ w).alloc (Nat.le_refl _) _).trans hb⟩
    clear hr hb
    go_wp2
    go_ret
    exact ⟨_, rfl, HE.out.1, HE.out.2⟩

/-- Behind a Flush, with an error or without. -/
def flR (D : Dk) : Int × Dk := if D.failing = true then (7, D) else (0, D.flush)
/-- Behind a Write of bytes that fit into a block that is there. -/
def wrR (D : Dk) (i : Nat) (l : List UInt8) : Int × Dk := if D.failing = true then (7, D) else (0, D.write i l)
/-- What a disk has done, at most. -/
structure Dk.lim (D : Dk) (k : Nat) : Prop where
  s : D.steps ≤ k
  c : D.chg.length ≤ k
theorem Dk.lim.mono {D : Dk} {j k : Nat} (h : D.lim j) (hk : j ≤ k) : D.lim k := ⟨Nat.le_trans h.s hk, Nat.le_trans h.c hk⟩
theorem flR_lim {D : Dk} {k : Nat} (h : D.lim k) : (flR D).2.lim (k + 1) := by
  unfold flR
  split
  · exact h.mono (Nat.le_succ _)
  · exact ⟨Nat.succ_le_succ h.s, by simp [Dk.flush]⟩
theorem wrR_lim {D : Dk} {k : Nat} (h : D.lim k) (i : Nat) (l : List UInt8) : (wrR D i l).2.lim (k + 1) := by
  unfold wrR
  split
  · exact h.mono (Nat.le_succ _)
  · exact ⟨Nat.succ_le_succ h.s, by have := h.c; simp [Dk.write]; omega⟩
section
variable {w W : World} {p nb sb : Nat} {cv : Value} {n : Nat} {D : Dk}
theorem tn_fl (h : Tn w W p nb sb cv n D) (hs : D.lim 1000000) :
    Calls Tryz.prog 19 #[.pointer (some ⟨p, 0, none⟩)] W fun e w' => e = .returned (enE (flR D).1) ∧ ∃ cv', Hid (Tn w w' p nb sb cv' n (flR D).2) ∧ Hid (Keeps w.heap.size dkT W w') := by
  unfold flR
  by_cases hf : D.failing = true
  · rw [if_pos hf]
    refine (flush_bad w.heap.size p nb sb cv n D W h.1 hf).mono ?_
    rintro e w' ⟨rfl, hs⟩
    exact ⟨rfl, cv, h.still hs, hs.keeps _ _⟩
  · rw [if_neg hf]
    refine (tn_flush h (by simpa using hf) hs.s).mono ?_
    rintro e w' ⟨rfl, h1, h2⟩
    exact ⟨rfl, _, h1, h2⟩
theorem tn_wrR (h : Tn w W p nb sb cv n D) (i : Nat) (a : Option Addr) (l : List UInt8) (cap : Nat) (hi : i < n) (hl : l.length ≤ 64) (hn : n ≤ 200) (hs : D.lim 1000000) (hB : IsBy W a l cap) :
    Calls Tryz.prog 18 #[.pointer (some ⟨p, 0, none⟩), .int .i64 (i : Int), .slice a l.length cap] W fun e w' => e = .returned (enE (wrR D i l).1) ∧ ∃ cv', Hid (Tn w w' p nb sb cv' n (wrR D i l).2) ∧ Hid (Keeps w.heap.size dkT W w') := by
  unfold wrR
  by_cases hf : D.failing = true
  · rw [if_pos hf]
    have e7 : wrBad D n (i : Int) l = 7 := by unfold wrBad; rw [if_pos hf]
    refine (tn_writeBad h i a l cap (by rw [e7]; decide)).mono ?_
    rintro e w' ⟨rfl, h1, h2⟩
    exact ⟨by rw [e7], cv, h1, h2.out.keeps _ _⟩
  · rw [if_neg hf]
    refine (tn_write h i a l cap (by simpa using hf) hi hl hn hs.s hs.c hB).mono ?_
    rintro e w' ⟨rfl, h1⟩
    exact ⟨rfl, h1⟩
end
theorem flR_code (D : Dk) : (flR D).1 = 0 ∨ (flR D).1 = 7 := by unfold flR; split <;> simp
theorem wrR_code (D : Dk) (i : Nat) (l : List UInt8) : (wrR D i l).1 = 0 ∨ (wrR D i l).1 = 7 := by unfold wrR; split <;> simp
theorem or_byte (x y : Nat) (h0 : x < 1000000000) (h1 : y < 256) : bits .or .i64 ((x : Int) * 256) (y : Int) = ((x * 256 + y : Nat) : Int) := by
  rw [show (x : Int) * 256 = ((x * 256 : Nat) : Int) by omega]
  have e1 : (BitVec.ofInt 64 ((x * 256 : Nat) : Int)).toNat = x * 256 := by
    rw [BitVec.ofInt_natCast, BitVec.toNat_ofNat]; exact Nat.mod_eq_of_lt (by omega)
  have e2 : (BitVec.ofInt 64 (y : Int)).toNat = y := by
    rw [BitVec.ofInt_natCast, BitVec.toNat_ofNat]; exact Nat.mod_eq_of_lt (by omega)
  show IntKind.i64.wrap ((BitVec.ofInt 64 ((x * 256 : Nat) : Int) ||| BitVec.ofInt 64 (y : Int)).toNat : Int) = _
  have h3 := Nat.two_pow_add_eq_or_of_lt (i := 8) (b := y) (by omega) x
  rw [show 2 ^ 8 * x = x * 256 by omega] at h3
  rw [BitVec.toNat_or, e1, e2, ← h3, IntKind.wrap_i64]
  omega
end Go.Proofs.YtikcidlaamgakaaGreatDoor

namespace Go.Proofs.YtikcidlaamgakaaGreatDoor
set_option linter.unusedVariables false
set_option linter.unusedSimpArgs false

/-- A record behind its length. -/
def enc1 (r : List UInt8) : List UInt8 := UInt8.ofNat (r.length / 256) :: UInt8.ofNat r.length :: r
def enc (rs : List (List UInt8)) : List UInt8 := rs.flatMap enc1
def okR (r : List UInt8) : Prop := 1 ≤ r.length ∧ r.length ≤ 200
def okL (rs : List (List UInt8)) : Prop := ∀ r ∈ rs, okR r
theorem enc1_length (r : List UInt8) : (enc1 r).length = r.length + 2 := by simp [enc1]
theorem enc_nil : enc [] = [] := rfl
theorem enc_cons (r : List UInt8) (rs : List (List UInt8)) : enc (r :: rs) = enc1 r ++ enc rs := by simp [enc]
theorem enc_append (rs ss : List (List UInt8)) : enc (rs ++ ss) = enc rs ++ enc ss := by simp [enc]
theorem enc_one (r : List UInt8) : enc [r] = enc1 r := by simp [enc]
theorem enc_prefix {rs ss : List (List UInt8)} (h : rs <+: ss) : enc rs <+: enc ss := by
  obtain ⟨t, rfl⟩ := h
  rw [enc_append]
  exact List.prefix_append _ _
theorem okL_nil : okL [] := fun _ h => absurd h (by simp)
theorem okL_append {rs ss : List (List UInt8)} (h : okL rs) (k : okL ss) : okL (rs ++ ss) := fun r hr => (List.mem_append.1 hr).elim (h r) (k r)
theorem okL_prefix {rs ss : List (List UInt8)} (h : rs <+: ss) (k : okL ss) : okL rs := fun r hr => k r (h.subset hr)
/-- A number of two bytes. -/
def wordN (l : List UInt8) : Nat := (l.getD 0 0).toNat * 256 + (l.getD 1 0).toNat
theorem wordN_enc1 {r : List UInt8} (h : okR r) (y : List UInt8) : wordN (enc1 r ++ y) = r.length := by
  have := h.2
  unfold wordN enc1
  simp only [List.cons_append, List.getD_cons_zero, List.getD_cons_succ, UInt8.toNat_ofNat']
  omega
/-- The first record of a text, if it is whole. -/
def cutL (t : List UInt8) : Option (List UInt8 × List UInt8) :=
  if t.length < 2 then none else if wordN t = 0 ∨ 200 < wordN t ∨ t.length < 2 + wordN t then none else some ((t.drop 2).take (wordN t), t.drop (2 + wordN t))
theorem cutL_enc {r : List UInt8} (h : okR r) (y : List UInt8) : cutL (enc1 r ++ y) = some (r, y) := by
  have hw := wordN_enc1 h y
  have h1 := h.1
  have h2 := h.2
  have hl : (enc1 r ++ y).length = r.length + 2 + y.length := by rw [List.length_append, enc1_length]
  unfold cutL
  rw [hw, hl, if_neg (by omega), if_neg (by omega)]
  have e1 : (enc1 r ++ y).drop 2 = r ++ y := by simp [enc1]
  have e2 : (enc1 r ++ y).drop (2 + r.length) = y := by rw [← List.drop_drop, e1]; simp
  rw [e1, e2]
  simp
theorem cutL_some {t r y : List UInt8} (h : cutL t = some (r, y)) : okR r ∧ t = enc1 r ++ y := by
  unfold cutL at h
  split at h
  · cases h
  · split at h
    · cases h
    · rename_i h1 h2
      simp only [Option.some.injEq, Prod.mk.injEq] at h
      obtain ⟨rfl, rfl⟩ := h
      have hl : ((t.drop 2).take (wordN t)).length = wordN t := by rw [List.length_take, List.length_drop]; omega
      refine ⟨⟨by omega, by omega⟩, ?_⟩
      rcases t with _ | ⟨a, _ | ⟨b, t'⟩⟩
      · exact absurd h1 (by decide)
      · exact absurd h1 (by simp)
      · have ea : a.toNat < 256 := a.toNat_lt
        have eb : b.toNat < 256 := b.toNat_lt
        have hw : wordN (a :: b :: t') = a.toNat * 256 + b.toNat := rfl
        unfold enc1
        rw [hl]
        generalize wordN (a :: b :: t') = k at *
        have e1 : UInt8.ofNat (k / 256) = a := by
          apply UInt8.toNat_inj.1
          rw [UInt8.toNat_ofNat']
          omega
        have e2 : UInt8.ofNat k = b := by
          apply UInt8.toNat_inj.1
          rw [UInt8.toNat_ofNat']
          omega
        rw [e1, e2, show 2 + k = k + 1 + 1 by omega]
        simp only [List.drop_succ_cons, List.drop_zero, List.cons_append, List.take_append_drop]
theorem wordN_prefix {t u : List UInt8} (h : t <+: u) (k : 2 ≤ t.length) : wordN t = wordN u := by
  obtain ⟨z, rfl⟩ := h
  match t, k with
  | a :: b :: t', _ => rfl
theorem cutL_none_prefix {t u : List UInt8} (h : t <+: u) (k : cutL u = none) : cutL t = none := by
  unfold cutL
  split
  · rfl
  · rename_i h1
    rw [wordN_prefix h (by omega)]
    rw [if_pos]
    have hl := h.length_le
    unfold cutL at k
    rw [if_neg (by omega)] at k
    split at k
    · rename_i h2
      omega
    · cases k
/-- All whole records of a text. -/
def recsF : Nat → List UInt8 → List (List UInt8)
  | 0, _ => []
  | f + 1, t => (cutL t).elim [] (fun p => p.1 :: recsF f p.2)
def recs (t : List UInt8) : List (List UInt8) := recsF t.length t
theorem recsF_enough : ∀ (f g : Nat) (t : List UInt8), t.length ≤ f → t.length ≤ g → recsF f t = recsF g t
  | 0, 0, t, _, _ => rfl
  | 0, g + 1, t, h, _ => by
    have : t = [] := List.eq_nil_of_length_eq_zero (by omega)
    subst this
    rfl
  | f + 1, 0, t, _, h => by
    have : t = [] := List.eq_nil_of_length_eq_zero (by omega)
    subst this
    rfl
  | f + 1, g + 1, t, h1, h2 => by
    unfold recsF
    cases e : cutL t with
    | none => rfl
    | some p =>
      obtain ⟨r, y⟩ := p
      obtain ⟨hr, rfl⟩ := cutL_some e
      have := hr.1
      simp only [List.length_append, enc1_length] at h1 h2
      show r :: recsF f y = r :: recsF g y
      rw [recsF_enough f g y (by omega) (by omega)]
theorem recs_none {t : List UInt8} (h : cutL t = none) : recs t = [] := by
  unfold recs
  cases t.length with
  | zero => rfl
  | succ f => unfold recsF; rw [h]; rfl
theorem recs_some {t r y : List UInt8} (h : cutL t = some (r, y)) : recs t = r :: recs y := by
  obtain ⟨hr, e⟩ := cutL_some h
  have hl : t.length = r.length + 2 + y.length := by rw [e, List.length_append, enc1_length]
  unfold recs
  rw [show t.length = (r.length + 1 + y.length) + 1 by omega]
  show (cutL t).elim [] (fun p => p.1 :: recsF (r.length + 1 + y.length) p.2) = _
  rw [h]
  show r :: recsF _ y = _
  rw [recsF_enough _ y.length y (by omega) (Nat.le_refl _)]
theorem recs_cons {r : List UInt8} (h : okR r) (y : List UInt8) : recs (enc1 r ++ y) = r :: recs y := recs_some (cutL_enc h y)
theorem recs_enc : ∀ (rs : List (List UInt8)) (y : List UInt8), okL rs → recs (enc rs ++ y) = rs ++ recs y
  | [], y, _ => rfl
  | r :: rs, y, h => by
    rw [enc_cons, List.append_assoc, recs_cons (h r (by simp)), recs_enc rs y (fun x hx => h x (by simp [hx]))]
    rfl
theorem recs_ok : ∀ (f : Nat) (t : List UInt8), t.length ≤ f → okL (recs t) ∧ ∃ y, t = enc (recs t) ++ y ∧ cutL y = none
  | 0, t, h => by
    have : t = [] := List.eq_nil_of_length_eq_zero (by omega)
    subst this
    exact ⟨okL_nil, [], rfl, rfl⟩
  | f + 1, t, h => by
    cases e : cutL t with
    | none =>
      rw [recs_none e]
      exact ⟨okL_nil, t, rfl, e⟩
    | some p =>
      obtain ⟨r, y⟩ := p
      obtain ⟨hr, et⟩ := cutL_some e
      have hl : t.length = r.length + 2 + y.length := by rw [et, List.length_append, enc1_length]
      obtain ⟨h1, z, h2, h3⟩ := recs_ok f y (by omega)
      rw [recs_some e]
      refine ⟨fun x hx => ?_, z, ?_, h3⟩
      · rcases List.mem_cons.1 hx with rfl | hx
        · exact hr
        · exact h1 x hx
      · rw [enc_cons, List.append_assoc, ← h2]
        exact et
theorem recs_okL (t : List UInt8) : okL (recs t) := (recs_ok t.length t (Nat.le_refl _)).1
theorem enc_recs (t : List UInt8) : enc (recs t) <+: t := by
  obtain ⟨_, y, h, _⟩ := recs_ok t.length t (Nat.le_refl _)
  exact ⟨y, h.symm⟩
theorem prefix_cancel {a b c : List UInt8} (h : a ++ b <+: a ++ c) : b <+: c := (List.prefix_append_right_inj a).1 h
/-- Less of what is not whole: the same records. -/
theorem recs_less {t u : List UInt8} (h : t <+: u) (k : enc (recs u) <+: t) : recs t = recs u := by
  obtain ⟨h1, y, h2, h3⟩ := recs_ok u.length u (Nat.le_refl _)
  obtain ⟨z, rfl⟩ := k
  rw [recs_enc _ z h1]
  have : z <+: y := prefix_cancel (a := enc (recs u)) (by rw [← h2]; exact h)
  rw [recs_none (cutL_none_prefix this h3), List.append_nil]
theorem recs_exact {rs : List (List UInt8)} (h : okL rs) : recs (enc rs) = rs := by
  have := recs_enc rs [] h
  rw [List.append_nil, recs_none (show cutL [] = none from rfl), List.append_nil] at this
  exact this
/-- A beginning of a text has a beginning of its records. -/
theorem recs_begin : ∀ (rs : List (List UInt8)) (t : List UInt8), okL rs → t <+: enc rs → recs t <+: rs
  | [], t, _, h => by
    have : t = [] := List.prefix_nil.1 h
    subst this
    exact List.prefix_refl _
  | r :: rs, t, hk, h => by
    have hr := hk r (by simp)
    rw [enc_cons] at h
    by_cases hl : (enc1 r).length ≤ t.length
    · obtain ⟨y, rfl⟩ := List.prefix_of_prefix_length_le (List.prefix_append (enc1 r) (enc rs)) h hl
      rw [recs_cons hr]
      have := recs_begin rs y (fun x hx => hk x (by simp [hx])) (prefix_cancel h)
      obtain ⟨z, hz⟩ := this
      exact ⟨z, by rw [← hz]; rfl⟩
    · have hp : t <+: enc1 r := List.prefix_of_prefix_length_le h (List.prefix_append _ _) (by omega)
      have hc : cutL t = none := by
        unfold cutL
        split
        · rfl
        · rename_i h2
          have e := wordN_prefix hp (by omega)
          have e' := wordN_enc1 hr []
          rw [List.append_nil] at e'
          rw [if_pos]
          rw [enc1_length] at hl
          omega
      rw [recs_none hc]
      exact List.nil_prefix
theorem recs_between {rs ss : List (List UInt8)} {t : List UInt8} (h : okL rs) (hs : okL ss) (h1 : enc ss <+: t) (h2 : t <+: enc rs) : ss <+: recs t ∧ recs t <+: rs := by
  refine ⟨?_, recs_begin rs t h h2⟩
  obtain ⟨y, rfl⟩ := h1
  rw [recs_enc ss y hs]
  exact List.prefix_append _ _
end Go.Proofs.YtikcidlaamgakaaGreatDoor

namespace Go.Proofs.YtikcidlaamgakaaGreatDoor
set_option linter.unusedVariables false
set_option linter.unusedSimpArgs false

/-- A piece. -/
structure Pc where
  num : Nat
  sit : Nat
  fst : Bool
  byt : List UInt8
/-- One was written behind the other. -/
def Pc.over (p q : Pc) : Bool := decide (q.sit < p.sit) || (decide (p.sit = q.sit) && decide (q.byt.length < p.byt.length))
theorem over_true {p q : Pc} : p.over q = true ↔ q.sit < p.sit ∨ (p.sit = q.sit ∧ q.byt.length < p.byt.length) := by simp [Pc.over]
theorem over_false {p q : Pc} : p.over q = false ↔ ¬ (q.sit < p.sit ∨ (p.sit = q.sit ∧ q.byt.length < p.byt.length)) := by
  rw [← over_true]; simp
def startF (since : Nat) (l : List (Nat × Pc)) : Nat × Nat := l.foldl (fun s p => if p.2.fst = true ∧ s.1 < p.2.sit then (p.2.sit, p.2.num) else s) (since - 1, 0)
def cntF (since : Nat) (s : Nat × Nat) (p : Pc) : Bool := (decide (p.num < s.2) || decide (p.sit = s.1)) && decide (since ≤ p.sit)
def stepB (c : Pc → Bool) (n : Nat) (b : Option (Nat × Pc)) (p : Nat × Pc) : Option (Nat × Pc) :=
  if (decide (p.2.num = n) && c p.2 && (b.elim true (fun q => p.2.over q.2))) = true then some p else b
def bestF (c : Pc → Bool) (l : List (Nat × Pc)) (n : Nat) : Option (Nat × Pc) := l.foldl (stepB c n) none
def chainF (best : Nat → Option (Nat × Pc)) : Nat → Nat → List (Nat × Pc)
  | 0, _ => []
  | f + 1, n => (best n).elim [] (fun p => p :: (if p.2.byt.length < 60 then [] else chainF best f (n + 1)))

def InvB (c : Pc → Bool) (n : Nat) (l : List (Nat × Pc)) (b : Option (Nat × Pc)) : Prop :=
  match b with
  | none => ∀ p ∈ l, p.2.num = n → c p.2 = false
  | some q => q ∈ l ∧ q.2.num = n ∧ c q.2 = true ∧ ∀ p ∈ l, p.2.num = n → c p.2 = true → p.2.over q.2 = false ∧ (p.1 < q.1 → q.2.over p.2 = true)
theorem invB_step (c : Pc → Bool) (n : Nat) (l : List (Nat × Pc)) (b : Option (Nat × Pc)) (x : Nat × Pc) (hx : ∀ p ∈ l, p.1 < x.1) (h : InvB c n l b) : InvB c n (l ++ [x]) (stepB c n b x) := by
  unfold stepB
  by_cases h1 : x.2.num = n ∧ c x.2 = true
  · obtain ⟨hn, hc⟩ := h1
    cases b with
    | none =>
      rw [if_pos (by simp [hn, hc])]
      refine ⟨by simp, hn, hc, fun p hp e1 e2 => ?_⟩
      rcases List.mem_append.1 hp with hp | hp
      · rw [h p hp e1] at e2; cases e2
      · simp only [List.mem_singleton] at hp
        subst hp
        exact ⟨over_false.2 (by omega), fun h => absurd h (Nat.lt_irrefl _)⟩
    | some q =>
      obtain ⟨g1, g2, g3, g4⟩ := h
      by_cases ho : x.2.over q.2 = true
      · rw [if_pos (by simp [hn, hc, ho])]
        refine ⟨by simp, hn, hc, fun p hp e1 e2 => ?_⟩
        have hxq := over_true.1 ho
        rcases List.mem_append.1 hp with hp | hp
        · have hpq := over_false.1 (g4 p hp e1 e2).1
          exact ⟨over_false.2 (by omega), fun _ => over_true.2 (by omega)⟩
        · simp only [List.mem_singleton] at hp
          subst hp
          exact ⟨over_false.2 (by omega), fun h => absurd h (Nat.lt_irrefl _)⟩
      · rw [if_neg (by simp [ho])]
        refine ⟨by simp [g1], g2, g3, fun p hp e1 e2 => ?_⟩
        rcases List.mem_append.1 hp with hp | hp
        · exact g4 p hp e1 e2
        · simp only [List.mem_singleton] at hp
          subst hp
          exact ⟨by simpa using ho, fun h => absurd (Nat.lt_trans h (hx q g1)) (Nat.lt_irrefl _)⟩
  · rw [if_neg (by
      intro e
      simp only [Bool.and_eq_true, decide_eq_true_eq] at e
      exact h1 e.1)]
    cases b with
    | none =>
      intro p hp e1
      rcases List.mem_append.1 hp with hp | hp
      · exact h p hp e1
      · simp only [List.mem_singleton] at hp
        subst hp
        cases e : c p.2 with
        | true => exact absurd ⟨e1, e⟩ h1
        | false => rfl
    | some q =>
      obtain ⟨g1, g2, g3, g4⟩ := h
      refine ⟨by simp [g1], g2, g3, fun p hp e1 e2 => ?_⟩
      rcases List.mem_append.1 hp with hp | hp
      · exact g4 p hp e1 e2
      · simp only [List.mem_singleton] at hp
        subst hp
        exact absurd ⟨e1, e2⟩ h1
def Asc (l : List (Nat × Pc)) : Prop := l.Pairwise (fun a b => a.1 < b.1)
theorem invB_fold (c : Pc → Bool) (n : Nat) : ∀ (l l0 : List (Nat × Pc)) (b : Option (Nat × Pc)), Asc (l0 ++ l) → InvB c n l0 b → InvB c n (l0 ++ l) (l.foldl (stepB c n) b)
  | [], l0, b, _, h => by simpa using h
  | x :: l, l0, b, ha, h => by
    have := invB_fold c n l (l0 ++ [x]) (stepB c n b x) (by simpa using ha) (invB_step c n l0 b x (fun p hp => by
      unfold Asc at ha
      rw [List.pairwise_append] at ha
      exact ha.2.2 p hp x (by simp)) h)
    simpa using this
theorem bestF_inv (c : Pc → Bool) (n : Nat) (l : List (Nat × Pc)) (h : Asc l) : InvB c n l (bestF c l n) := by
  have := invB_fold c n l [] none (by simpa using h) (fun p hp => absurd hp (by simp))
  rw [List.nil_append] at this
  exact this
theorem asc_inj {l : List (Nat × Pc)} (h : Asc l) {p q : Nat × Pc} (hp : p ∈ l) (hq : q ∈ l) (e : p.1 = q.1) : p = q := by
  induction l with
  | nil => simp at hp
  | cons x l ih =>
    unfold Asc at h
    rw [List.pairwise_cons] at h
    rcases List.mem_cons.1 hp with e1 | hp'
    · rcases List.mem_cons.1 hq with e2 | hq'
      · rw [e1, e2]
      · have := h.1 q hq'; rw [← e1] at this; omega
    · rcases List.mem_cons.1 hq with e2 | hq'
      · have := h.1 p hp'; rw [← e2] at this; omega
      · exact ih h.2 hp' hq'

/-- What stands in the blocks: pieces, or none. -/
def allF (m : Nat) (P : Nat → Option Pc) : List (Nat × Pc) := (List.range' 1 (m - 1)).filterMap fun a => (P a).map fun q => (a, q)
def Dom (m : Nat) (P : Nat → Option Pc) : Prop := ∀ a q, P a = some q → 1 ≤ a ∧ a < m
theorem mem_allF {m : Nat} {P : Nat → Option Pc} (hd : Dom m P) (a : Nat) (q : Pc) : (a, q) ∈ allF m P ↔ P a = some q := by
  unfold allF
  rw [List.mem_filterMap]
  constructor
  · rintro ⟨b, _, hb⟩
    obtain ⟨q', h1, h2⟩ := Option.map_eq_some_iff.1 hb
    cases h2
    exact h1
  · intro h
    have := hd a q h
    refine ⟨a, ?_, by rw [h]; rfl⟩
    rw [List.mem_range'_1]
    omega
theorem asc_allF (m : Nat) (P : Nat → Option Pc) : Asc (allF m P) := by
  unfold Asc allF
  rw [List.pairwise_filterMap]
  refine List.Pairwise.imp ?_ (List.pairwise_lt_range' (s := 1) (n := m - 1))
  intro a b hab p hp q hq
  obtain ⟨p', _, rfl⟩ := Option.map_eq_some_iff.1 hp
  obtain ⟨q', _, rfl⟩ := Option.map_eq_some_iff.1 hq
  exact hab
def Bst (P : Nat → Option Pc) (c : Pc → Bool) (n a : Nat) (q : Pc) : Prop :=
  P a = some q ∧ q.num = n ∧ c q = true ∧ ∀ b p, P b = some p → p.num = n → c p = true → p.over q = false ∧ (b < a → q.over p = true)
section
variable {m : Nat} {P : Nat → Option Pc} {c : Pc → Bool} {n : Nat}
theorem best_some (hd : Dom m P) {a : Nat} {q : Pc} (h : bestF c (allF m P) n = some (a, q)) : Bst P c n a q := by
  have hi := bestF_inv c n _ (asc_allF m P)
  rw [h] at hi
  obtain ⟨h1, h2, h3, h4⟩ := hi
  exact ⟨(mem_allF hd a q).1 h1, h2, h3, fun b p hb e1 e2 => h4 (b, p) ((mem_allF hd b p).2 hb) e1 e2⟩
theorem best_none (hd : Dom m P) (h : bestF c (allF m P) n = none) : ∀ b p, P b = some p → p.num = n → c p = false := by
  have hi := bestF_inv c n _ (asc_allF m P)
  rw [h] at hi
  exact fun b p hb e => hi (b, p) ((mem_allF hd b p).2 hb) e
theorem best_of (hd : Dom m P) {a : Nat} {q : Pc} (h : Bst P c n a q) : bestF c (allF m P) n = some (a, q) := by
  obtain ⟨h1, h2, h3, h4⟩ := h
  cases e : bestF c (allF m P) n with
  | none => have := best_none hd e a q h1 h2; rw [h3] at this; cases this
  | some x =>
    obtain ⟨b, p⟩ := x
    obtain ⟨g1, g2, g3, g4⟩ := best_some hd e
    have e1 := h4 b p g1 g2 g3
    have e2 := g4 a q h1 h2 h3
    have : a = b := by
      rcases Nat.lt_trichotomy a b with h | h | h
      · have := e2.2 h
        rw [e1.1] at this
        cases this
      · exact h
      · have := e1.2 h
        rw [e2.1] at this
        cases this
    subst this
    rw [h1] at g1
    cases g1
    rfl
theorem best_no (hd : Dom m P) (h : ∀ b p, P b = some p → p.num = n → c p = false) : bestF c (allF m P) n = none := by
  cases e : bestF c (allF m P) n with
  | none => rfl
  | some x =>
    obtain ⟨b, p⟩ := x
    obtain ⟨g1, g2, g3, g4⟩ := best_some hd e
    rw [h b p g1 g2] at g3
    cases g3
theorem startF_fold (s0 : Nat × Nat) : ∀ (l : List (Nat × Pc)) (s : Nat × Nat),
    let r := l.foldl (fun s p => if p.2.fst = true ∧ s.1 < p.2.sit then (p.2.sit, p.2.num) else s) s
    s.1 ≤ r.1 ∧ (∀ p ∈ l, p.2.fst = true → p.2.sit ≤ r.1) ∧ (r = s ∨ ∃ p ∈ l, p.2.fst = true ∧ p.2.sit = r.1 ∧ p.2.num = r.2 ∧ s.1 < r.1)
  | [], s => ⟨Nat.le_refl _, fun p hp => absurd hp (by simp), .inl rfl⟩
  | x :: l, s => by
    simp only [List.foldl_cons]
    by_cases h : x.2.fst = true ∧ s.1 < x.2.sit
    · rw [if_pos h]
      obtain ⟨h1, h2, h3⟩ := startF_fold s0 l (x.2.sit, x.2.num)
      simp only at h1 h2 h3
      refine ⟨by omega, fun p hp hf => ?_, .inr ?_⟩
      · rcases List.mem_cons.1 hp with rfl | hp
        · exact h1
        · exact h2 p hp hf
      · rcases h3 with h3 | ⟨p, hp, g1, g2, g3, g4⟩
        · exact ⟨x, by simp, h.1, by rw [h3], by rw [h3], by rw [h3]; exact h.2⟩
        · exact ⟨p, by simp [hp], g1, g2, g3, by omega⟩
    · rw [if_neg h]
      obtain ⟨h1, h2, h3⟩ := startF_fold s0 l s
      refine ⟨h1, fun p hp hf => ?_, ?_⟩
      · rcases List.mem_cons.1 hp with rfl | hp
        · have : ¬ s.1 < p.2.sit := fun e => h ⟨hf, e⟩
          omega
        · exact h2 p hp hf
      · rcases h3 with h3 | ⟨p, hp, g⟩
        · exact .inl h3
        · exact .inr ⟨p, by simp [hp], g⟩
end
/-- The newest sitting whose first piece is there, and where it begins. -/
def vkF (m since : Nat) (P : Nat → Option Pc) : Nat × Nat := startF since (allF m P)
theorem vk_spec {m since : Nat} {P : Nat → Option Pc} (hd : Dom m P) : since - 1 ≤ (vkF m since P).1 ∧ (∀ b p, P b = some p → p.fst = true → p.sit ≤ (vkF m since P).1) ∧ (vkF m since P = (since - 1, 0) ∨ ∃ b p, P b = some p ∧ p.fst = true ∧ p.sit = (vkF m since P).1 ∧ p.num = (vkF m since P).2 ∧ since - 1 < (vkF m since P).1) := by
  obtain ⟨h1, h2, h3⟩ := startF_fold (0, 0) (allF m P) (since - 1, 0)
  refine ⟨h1, fun b p hb => h2 (b, p) ((mem_allF hd b p).2 hb), ?_⟩
  rcases h3 with h3 | ⟨⟨b, p⟩, hp, g⟩
  · exact .inl h3
  · exact .inr ⟨b, p, (mem_allF hd b p).1 hp, g⟩
def bsF (m since : Nat) (P : Nat → Option Pc) (n : Nat) : Option (Nat × Pc) := bestF (cntF since (vkF m since P)) (allF m P) n
def chF (m since : Nat) (P : Nat → Option Pc) : List (Nat × Pc) := chainF (bsF m since P) 200 0
def byts (l : List (Nat × Pc)) : List UInt8 := l.flatMap fun p => p.2.byt
def catF (m since : Nat) (P : Nat → Option Pc) : List UInt8 := byts (chF m since P)
/-- How many pieces so many bytes take. -/
def pcs (k : Nat) : Nat := (k + 59) / 60
def whF (m since : Nat) (P : Nat → Option Pc) : List Nat := ((chF m since P).take (pcs (enc (recs (catF m since P))).length)).map (·.1)
/-- Pieces are no longer than 60 bytes. -/
def Short (b : Nat → Option (Nat × Pc)) : Prop := ∀ n p, b n = some p → p.2.byt.length ≤ 60
theorem byts_cons (p : Nat × Pc) (l : List (Nat × Pc)) : byts (p :: l) = p.2.byt ++ byts l := by simp [byts]
theorem chainF_succ (b : Nat → Option (Nat × Pc)) (f n : Nat) : chainF b (f + 1) n = (b n).elim [] (fun p => p :: (if p.2.byt.length < 60 then [] else chainF b f (n + 1))) := rfl
theorem chainF_take {b b' : Nat → Option (Nat × Pc)} : ∀ (f n k : Nat), (∀ i, n ≤ i → i < n + k → b' i = b i) → (chainF b' f n).take k = (chainF b f n).take k
  | 0, n, k, _ => rfl
  | f + 1, n, 0, _ => by simp
  | f + 1, n, k + 1, h => by
    rw [chainF_succ, chainF_succ, h n (Nat.le_refl _) (by omega)]
    cases b n with
    | none => rfl
    | some p =>
      simp only [Option.elim_some, List.take_succ_cons]
      congr 1
      split
      · rfl
      · exact chainF_take f (n + 1) k (fun i h1 h2 => h i (by omega) (by omega))
/-- What is there of a text, piece by piece, is a beginning of it. -/
theorem chain_text {b : Nat → Option (Nat × Pc)} {T : List UInt8} : ∀ (f n : Nat), (∀ i p, n ≤ i → b i = some p → p.2.byt <+: T.drop (60 * i) ∧ p.2.byt.length ≤ 60) → byts (chainF b f n) <+: T.drop (60 * n)
  | 0, n, _ => List.nil_prefix
  | f + 1, n, h => by
    rw [chainF_succ]
    cases e : b n with
    | none => exact List.nil_prefix
    | some p =>
      obtain ⟨h1, h2⟩ := h n p (Nat.le_refl _) e
      simp only [Option.elim_some]
      rw [byts_cons]
      split
      · simpa [byts] using h1
      · rename_i h3
        have ih := chain_text f (n + 1) (fun i p hi => h i p (by omega))
        obtain ⟨z, hz⟩ := h1
        have hl : p.2.byt.length = 60 := by omega
        have e2 : T.drop (60 * (n + 1)) = z := by
          rw [show 60 * (n + 1) = 60 * n + 60 by omega, ← List.drop_drop, ← hz, List.drop_append_of_le_length (by omega), List.drop_eq_nil_of_le (by omega)]
          rfl
        rw [e2] at ih
        rw [← hz]
        exact (List.prefix_append_right_inj _).2 ih
/-- All of a text is there where each of its pieces is. -/
theorem chain_ge {b : Nat → Option (Nat × Pc)} {S : List UInt8} (hs : Short b) : ∀ (f n : Nat), (∀ i, n ≤ i → 60 * i < S.length → ∃ p, b i = some p ∧ (S.drop (60 * i)).take 60 <+: p.2.byt) → S.length ≤ 60 * (n + f) → S.drop (60 * n) <+: byts (chainF b f n)
  | 0, n, _, hf => by rw [List.drop_eq_nil_of_le (by omega)]; exact List.nil_prefix
  | f + 1, n, h, hf => by
    by_cases hn : 60 * n < S.length
    · obtain ⟨p, h1, h2⟩ := h n (Nat.le_refl _) hn
      have hp := hs n p h1
      rw [chainF_succ, h1]
      simp only [Option.elim_some]
      rw [byts_cons]
      have hl := h2.length_le
      rw [List.length_take, List.length_drop] at hl
      by_cases h6 : 60 * n + 60 ≤ S.length
      · have ep : (S.drop (60 * n)).take 60 = p.2.byt := h2.eq_of_length (by rw [List.length_take, List.length_drop]; omega)
        rw [if_neg (by omega)]
        have ih := chain_ge hs f (n + 1) (fun i hi => h i (by omega)) (by omega)
        rw [← List.take_append_drop 60 (S.drop (60 * n)), ep]
        refine (List.prefix_append_right_inj _).2 ?_
        rw [List.drop_drop, show 60 * n + 60 = 60 * (n + 1) by omega]
        exact ih
      · rw [List.take_of_length_le (by rw [List.length_drop]; omega)] at h2
        exact h2.trans (List.prefix_append _ _)
    · rw [List.drop_eq_nil_of_le (by omega)]
      exact List.nil_prefix
/-- Less of each piece: less of all. -/
theorem chain_le {b b' : Nat → Option (Nat × Pc)} (hs : Short b) : ∀ (f n : Nat), (∀ i p', n ≤ i → b' i = some p' → ∃ p, b i = some p ∧ p'.2.byt <+: p.2.byt) → byts (chainF b' f n) <+: byts (chainF b f n)
  | 0, n, _ => List.nil_prefix
  | f + 1, n, h => by
    rw [chainF_succ b' f n]
    cases e : b' n with
    | none => exact List.nil_prefix
    | some p' =>
      obtain ⟨p, h1, h2⟩ := h n p' (Nat.le_refl _) e
      have hp := hs n p h1
      have hl := h2.length_le
      rw [chainF_succ, h1]
      simp only [Option.elim_some]
      rw [byts_cons, byts_cons]
      by_cases h6 : p'.2.byt.length < 60
      · rw [if_pos h6]
        exact (by simpa [byts] using h2.trans (List.prefix_append _ _))
      · have ep : p'.2.byt = p.2.byt := h2.eq_of_length (by omega)
        rw [if_neg h6, if_neg (by omega), ep]
        exact (List.prefix_append_right_inj _).2 (chain_le hs f (n + 1) (fun i p' hi => h i p' (by omega)))
end Go.Proofs.YtikcidlaamgakaaGreatDoor

namespace Go.Proofs.YtikcidlaamgakaaGreatDoor
set_option linter.unusedVariables false
set_option linter.unusedSimpArgs false

theorem chain_len {b : Nat → Option (Nat × Pc)} : ∀ (f n i : Nat) (h : i < (chainF b f n).length), b (n + i) = some ((chainF b f n)[i])
  | 0, n, i, h => absurd h (by simp [chainF])
  | f + 1, n, i, h => by
    cases e : b n with
    | none =>
      have e2 : chainF b (f + 1) n = [] := by rw [chainF_succ, e]; rfl
      rw [e2] at h
      exact absurd h (by simp)
    | some p =>
      have e2 : chainF b (f + 1) n = p :: (if p.2.byt.length < 60 then [] else chainF b f (n + 1)) := by rw [chainF_succ, e]; rfl
      cases i with
      | zero =>
        have : (chainF b (f + 1) n)[0]'h = p := by simp [e2]
        rw [this, Nat.add_zero, e]
      | succ i =>
        by_cases h6 : p.2.byt.length < 60
        · rw [if_pos h6] at e2
          rw [e2] at h
          simp at h
        · rw [if_neg h6] at e2
          have hi : i < (chainF b f (n + 1)).length := by rw [e2] at h; simpa using h
          have := chain_len f (n + 1) i hi
          rw [show n + (i + 1) = n + 1 + i by omega, this]
          congr 1
          simp [e2]
/-- The bytes of a chain, piece by piece. -/
theorem chain_at {b : Nat → Option (Nat × Pc)} (hs : Short b) : ∀ (f n i : Nat) (h : i < (chainF b f n).length), ((byts (chainF b f n)).drop (60 * i)).take 60 = ((chainF b f n)[i]).2.byt
  | 0, n, i, h => absurd h (by simp [chainF])
  | f + 1, n, i, h => by
    cases e : b n with
    | none =>
      have e2 : chainF b (f + 1) n = [] := by rw [chainF_succ, e]; rfl
      rw [e2] at h
      exact absurd h (by simp)
    | some p =>
      have hp := hs n p e
      have e2 : chainF b (f + 1) n = p :: (if p.2.byt.length < 60 then [] else chainF b f (n + 1)) := by rw [chainF_succ, e]; rfl
      by_cases h6 : p.2.byt.length < 60
      · rw [if_pos h6] at e2
        have hi : i = 0 := by rw [e2] at h; simpa using h
        subst hi
        have : (chainF b (f + 1) n)[0]'h = p := by simp [e2]
        rw [this, e2]
        show (List.drop 0 (p.2.byt ++ [])).take 60 = p.2.byt
        rw [List.append_nil, List.drop_zero, List.take_of_length_le (by omega)]
      · rw [if_neg h6] at e2
        have hl : p.2.byt.length = 60 := by omega
        cases i with
        | zero =>
          have : (chainF b (f + 1) n)[0]'h = p := by simp [e2]
          rw [this, e2, byts_cons, Nat.mul_zero, List.drop_zero, List.take_append_of_le_length (by omega), List.take_of_length_le (by omega)]
        | succ i =>
          have hi : i < (chainF b f (n + 1)).length := by rw [e2] at h; simpa using h
          have ih := chain_at hs f (n + 1) i hi
          have e3 : (chainF b (f + 1) n)[i + 1]'h = (chainF b f (n + 1))[i] := by simp [e2]
          have e4 : (p.2.byt ++ byts (chainF b f (n + 1))).drop 60 = byts (chainF b f (n + 1)) := by rw [← hl, List.drop_left]
          rw [e3, ← ih, e2, byts_cons, show 60 * (i + 1) = 60 + 60 * i by omega, ← List.drop_drop, e4]
theorem chain_size {b : Nat → Option (Nat × Pc)} (hs : Short b) : ∀ (f n : Nat), (byts (chainF b f n)).length ≤ 60 * (chainF b f n).length
  | 0, n => by simp [chainF, byts]
  | f + 1, n => by
    rw [chainF_succ]
    cases e : b n with
    | none => simp [byts]
    | some p =>
      have hp := hs n p e
      simp only [Option.elim_some]
      rw [byts_cons, List.length_append, List.length_cons]
      split
      · simp [byts]; omega
      · have := chain_size hs f (n + 1)
        omega

def SubI (P' P : Nat → Option Pc) : Prop := ∀ a q, P' a = some q → P a = some q
structure GoodI (m since : Nat) (P : Nat → Option Pc) (rs : List (List UInt8)) (Wh : List Nat) : Prop where
  rc : recs (catF m since P) = rs
  wh : whF m since P = Wh
  gb : ∀ a q, P a = some q → (vkF m since P).1 < q.sit → (enc rs).length / 60 < q.num
  k3 : 60 * (vkF m since P).2 ≤ (enc rs).length
/-- What Open finds, and finds whatever else is lost. -/
structure RI (m since : Nat) (P : Nat → Option Pc) (rs : List (List UInt8)) (Wh : List Nat) : Prop where
  dom : Dom m P
  short : ∀ a q, P a = some q → q.byt.length ≤ 60
  sub : ∀ P', SubI P' P → (∀ a ∈ Wh, P' a = P a) → GoodI m since P' rs Wh
theorem SubI.refl (P : Nat → Option Pc) : SubI P P := fun _ _ h => h
theorem SubI.dom {P' P : Nat → Option Pc} {m : Nat} (h : SubI P' P) (hd : Dom m P) : Dom m P' := fun a q e => hd a q (h a q e)
theorem RI.good {m since : Nat} {P : Nat → Option Pc} {rs : List (List UInt8)} {Wh : List Nat} (h : RI m since P rs Wh) : GoodI m since P rs Wh := h.sub P (SubI.refl P) (fun _ _ => rfl)
theorem RI.shortB {m since : Nat} {P : Nat → Option Pc} (hd : Dom m P) (h : ∀ a q, P a = some q → q.byt.length ≤ 60) : Short (bsF m since P) := fun n p e => by
  obtain ⟨a, q⟩ := p
  exact h a q (best_some hd e).1
/-- The pieces of what is found. -/
theorem GoodI.piece {m since : Nat} {P : Nat → Option Pc} {rs : List (List UInt8)} {Wh : List Nat} (g : GoodI m since P rs Wh) (hd : Dom m P) (hs : ∀ a q, P a = some q → q.byt.length ≤ 60) : Wh.length = pcs (enc rs).length ∧ ∀ i, i < pcs (enc rs).length → ∃ q, bsF m since P i = some (Wh.getD i 0, q) ∧ P (Wh.getD i 0) = some q ∧ ((enc rs).drop (60 * i)).take 60 <+: q.byt := by
  have hS := RI.shortB (since := since) hd hs
  have hp : enc rs <+: catF m since P := by rw [← g.rc]; exact enc_recs _
  have hl := hp.length_le
  have hz := chain_size hS 200 0
  have hlen : pcs (enc rs).length ≤ (chF m since P).length := by
    unfold catF chF at hl
    unfold chF pcs
    omega
  have hw : Wh = ((chF m since P).take (pcs (enc rs).length)).map (·.1) := by
    rw [← g.wh]
    unfold whF
    rw [g.rc]
  refine ⟨by rw [hw, List.length_map, List.length_take, Nat.min_eq_left hlen], fun i hi => ?_⟩
  have hi' : i < (chF m since P).length := by omega
  have e1 := chain_len 200 0 i hi'
  rw [Nat.zero_add] at e1
  have e2 := chain_at hS 200 0 i hi'
  have e3 : Wh.getD i 0 = ((chF m since P)[i]).1 := by
    rw [hw, List.getD_eq_getElem?_getD, List.getElem?_map, List.getElem?_take, if_pos hi, List.getElem?_eq_getElem hi']
    rfl
  refine ⟨((chF m since P)[i]).2, by rw [e3]; exact e1, by rw [e3]; exact (best_some hd e1).1, ?_⟩
  have e4 : ((catF m since P).drop (60 * i)).take 60 = ((chF m since P)[i]).2.byt := e2
  rw [← e4]
  obtain ⟨z, hz⟩ := hp
  rw [← hz]
  by_cases h : 60 * i ≤ (enc rs).length
  · rw [List.drop_append_of_le_length h, List.take_append]
    exact List.prefix_append _ _
  · rw [List.drop_eq_nil_of_le (show (enc rs).length ≤ 60 * i by omega)]
    exact List.nil_prefix

/-- A piece that a sitting writes. -/
structure NewP (s st t0 : Nat) (T : List UInt8) (q : Pc) : Prop where
  sit : q.sit = s
  num : st ≤ q.num
  fst : q.fst = true ↔ q.num = st
  byt : q.byt <+: T.drop (60 * q.num)
  l2 : q.byt.length ≤ 60
  l0 : q.num = st → t0 ≤ 60 * st + q.byt.length
/-- What may be there behind a sitting. -/
structure Drawn (m : Nat) (P0 : Nat → Option Pc) (s st t0 : Nat) (T : List UInt8) (P : Nat → Option Pc) : Prop where
  dom : Dom m P
  each : ∀ a q, P a = some q → P0 a = some q ∨ NewP s st t0 T q
theorem Drawn.sub {m : Nat} {P0 : Nat → Option Pc} {s st t0 : Nat} {T : List UInt8} {P P' : Nat → Option Pc} (h : Drawn m P0 s st t0 T P) (k : SubI P' P) : Drawn m P0 s st t0 T P' := ⟨k.dom h.dom, fun a q e => h.each a q (k a q e)⟩
theorem Drawn.short {m : Nat} {P0 : Nat → Option Pc} {s st t0 : Nat} {T : List UInt8} {P : Nat → Option Pc} (h : Drawn m P0 s st t0 T P) (k : ∀ a q, P0 a = some q → q.byt.length ≤ 60) : ∀ a q, P a = some q → q.byt.length ≤ 60 := fun a q e => (h.each a q e).elim (k a q) (fun n => n.l2)
theorem startF_filter (since : Nat) (l : List (Nat × Pc)) : startF since l = startF since (l.filter fun p => p.2.fst) := by
  unfold startF
  generalize (since - 1, 0) = s
  induction l generalizing s with
  | nil => rfl
  | cons x l ih =>
    by_cases h : x.2.fst = true
    · rw [List.filter_cons_of_pos (p := fun p : Nat × Pc => p.2.fst) h]
      simp only [List.foldl_cons]
      exact ih _
    · rw [List.filter_cons_of_neg (p := fun p : Nat × Pc => p.2.fst) h]
      simp only [List.foldl_cons]
      rw [if_neg (fun e => h e.1)]
      exact ih _
theorem allF_filter (m : Nat) (P Q : Nat → Option Pc) (h : ∀ a q, q.fst = true → (P a = some q ↔ Q a = some q)) : (allF m P).filter (fun p => p.2.fst) = (allF m Q).filter (fun p => p.2.fst) := by
  unfold allF
  induction List.range' 1 (m - 1) with
  | nil => rfl
  | cons a l ih =>
    have key : ∀ (R : Nat → Option Pc), ((a :: l).filterMap fun a => (R a).map fun q => (a, q)).filter (fun p => p.2.fst) = (match R a with | some q => if q.fst = true then [(a, q)] else [] | none => []) ++ (l.filterMap fun a => (R a).map fun q => (a, q)).filter (fun p => p.2.fst) := by
      intro R
      rw [List.filterMap_cons]
      cases R a with
      | none => rfl
      | some q =>
        simp only [Option.map_some]
        by_cases hq : q.fst = true
        · rw [List.filter_cons_of_pos (p := fun p : Nat × Pc => p.2.fst) hq, if_pos hq]; rfl
        · rw [List.filter_cons_of_neg (p := fun p : Nat × Pc => p.2.fst) hq, if_neg hq]; rfl
    rw [key P, key Q, ih]
    congr 1
    cases hp : P a with
    | some q =>
      by_cases hq : q.fst = true
      · rw [(h a q hq).1 hp]
      · simp only [if_neg hq]
        cases hQ : Q a with
        | none => rfl
        | some r =>
          by_cases hr : r.fst = true
          · have := (h a r hr).2 hQ
            rw [hp] at this
            cases this
            exact absurd hr hq
          · simp only [if_neg hr]
    | none =>
      cases hQ : Q a with
      | none => rfl
      | some r =>
        by_cases hr : r.fst = true
        · have := (h a r hr).2 hQ
          rw [hp] at this
          cases this
        · simp only [if_neg hr]
/-- Where the first piece of a sitting is not there, none of it counts. -/
theorem ext_good {m since : Nat} {P0 : Nat → Option Pc} {rs0 : List (List UInt8)} {Wh0 : List Nat} (hR : RI m since P0 rs0 Wh0) {s : Nat} (hs : ∀ a q, P0 a = some q → q.sit < s) (h1 : 1 ≤ since) (h2 : since ≤ s) {T : List UInt8} {P : Nat → Option Pc} (hD : Drawn m P0 s ((enc rs0).length / 60) (enc rs0).length T P) (hf : ∀ a q, P a = some q → q.sit = s → q.fst = false) (hk : ∀ a ∈ Wh0, P a = P0 a) : GoodI m since P rs0 Wh0 := by
  obtain ⟨Q, hQ⟩ : ∃ Q : Nat → Option Pc, Q = fun a => (P a).bind fun q => if q.sit < s then some q else none := ⟨_, rfl⟩
  have q1 : ∀ a q, Q a = some q ↔ P a = some q ∧ q.sit < s := by
    intro a q
    rw [hQ]
    cases e : P a with
    | none => simp [e]
    | some r =>
      simp only [e, Option.bind_some]
      by_cases hr : r.sit < s
      · rw [if_pos hr]
        constructor
        · intro h; cases h; exact ⟨rfl, hr⟩
        · rintro ⟨h, _⟩; exact h
      · rw [if_neg hr]
        constructor
        · intro h; cases h
        · rintro ⟨h, h'⟩; cases h; exact absurd h' hr
  clear hQ
  have hsub : SubI Q P0 := fun a q e => by
    obtain ⟨e1, e2⟩ := (q1 a q).1 e
    rcases hD.each a q e1 with h | h
    · exact h
    · have := h.sit; omega
  have hdQ : Dom m Q := hsub.dom hR.dom
  have g : GoodI m since Q rs0 Wh0 := hR.sub Q hsub (fun a ha => by
    cases e : P0 a with
    | none =>
      cases e2 : Q a with
      | none => rfl
      | some r => have := hsub a r e2; rw [e] at this; cases this
    | some r => exact (q1 a r).2 ⟨(hk a ha).trans e, hs a r e⟩)
  have hvk : vkF m since P = vkF m since Q := by
    unfold vkF
    rw [startF_filter since (allF m P), startF_filter since (allF m Q), allF_filter m P Q (fun a q hq => ?_)]
    rw [q1]
    constructor
    · intro e
      refine ⟨e, ?_⟩
      rcases hD.each a q e with h | h
      · exact hs a q h
      · have := hf a q e h.sit
        rw [hq] at this
        cases this
    · exact fun e => e.1
  have hvs : (vkF m since Q).1 < s := by
    rcases (vk_spec (since := since) hdQ).2.2 with e | ⟨b, p, hb, _, e, _⟩
    · rw [e]; simp only; omega
    · rw [← e]; exact ((q1 b p).1 hb).2
  have hnew : ∀ a q, P a = some q → ¬ q.sit < s → q.sit = s ∧ (enc rs0).length / 60 < q.num := by
    intro a q e hn
    rcases hD.each a q e with h | h
    · exact absurd (hs a q h) hn
    · have h3 := hf a q e h.sit
      have h4 := h.num
      have h5 : ¬ q.num = (enc rs0).length / 60 := fun e => by
        have := h.fst.2 e
        rw [h3] at this
        cases this
      exact ⟨h.sit, by omega⟩
  have hk3 := g.k3
  have hnc : ∀ a q, P a = some q → ¬ q.sit < s → cntF since (vkF m since Q) q = false := by
    intro a q e hn
    obtain ⟨h3, h4⟩ := hnew a q e hn
    unfold cntF
    rw [decide_eq_false (show ¬ q.num < (vkF m since Q).2 by omega), decide_eq_false (show ¬ q.sit = (vkF m since Q).1 by omega)]
    rfl
  have hbs : bsF m since P = bsF m since Q := by
    funext n
    unfold bsF
    rw [hvk]
    cases e : bestF (cntF since (vkF m since Q)) (allF m Q) n with
    | some x =>
      obtain ⟨a, q⟩ := x
      obtain ⟨g1, g2, g3, g4⟩ := best_some hdQ e
      refine best_of hD.dom ⟨((q1 a q).1 g1).1, g2, g3, fun b p hb e1 e2 => ?_⟩
      by_cases hp : p.sit < s
      · exact g4 b p ((q1 b p).2 ⟨hb, hp⟩) e1 e2
      · rw [hnc b p hb hp] at e2; cases e2
    | none =>
      refine best_no hD.dom (fun b p hb e1 => ?_)
      by_cases hp : p.sit < s
      · exact best_none hdQ e b p ((q1 b p).2 ⟨hb, hp⟩) e1
      · exact hnc b p hb hp
  have hch : chF m since P = chF m since Q := by unfold chF; rw [hbs]
  have hcat : catF m since P = catF m since Q := by unfold catF; rw [hch]
  refine ⟨by rw [hcat]; exact g.rc, ?_, fun a q e hv => ?_, by rw [hvk]; exact hk3⟩
  · rw [← g.wh]
    unfold whF
    rw [hch, hcat]
  · by_cases hp : q.sit < s
    · exact g.gb a q ((q1 a q).2 ⟨e, hp⟩) (by rw [← hvk]; exact hv)
    · exact (hnew a q e hp).2
end Go.Proofs.YtikcidlaamgakaaGreatDoor
