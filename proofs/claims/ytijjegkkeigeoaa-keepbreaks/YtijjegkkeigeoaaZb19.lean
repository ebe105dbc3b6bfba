/-
  The contracts of Uint64 and Int64 of quarterdaybig's Int, where a number is of two words at most.
-/
import Derived.Test.YtijjegkkeigeoaaZb17
import Derived.Test.YtijjegkkeigeoaaZb18
import Derived.Test.YtijjegkkeigeoaaProg
import Derived.WalkKit
import Derived.WalkSpells
import Derived.Below
import Derived.WalkSmall
import Derived.Laws.Rows
import Derived.Laws.Bits64b
namespace Go.Proofs.Ytijjegkkeigeoaa
set_option linter.unusedVariables false
set_option linter.unusedSimpArgs false
set_option maxRecDepth 100000
open Go.RowKit Go.Lib

/-- What is kept, between two calls. -/
def PkS (w W : World) (p nb sb n : Nat) (E : List En) (L S : Nat) : Prop := ∃ cv D, Tn w W p nb sb cv n D ∧ KpD n D (E.map entB) L S ∧ D.fail < 0 ∧ ∀ e ∈ E, EnFit e
theorem JeRow.keeps {W U : World} {n lo : Nat} {v : Value} {l : List Je} (h : JeRow W n v l) (k : Keeps lo dkT W U) : JeRow U n v l := ownsRow_keep h (fun b cs e _ => (k.row e (by decide)).trans e.symm)
theorem LnRow.keeps {W U : World} {n lo : Nat} {v : Value} {l : List Ln} (h : LnRow W n v l) (k : Keeps lo dkT W U) : LnRow U n v l := ownsRow_keep h (fun b cs e _ => (k.row e (by decide)).trans e.symm)
theorem Made.keeps {W U : World} {n lo : Nat} {v : Value} {l : List Je} (h : Made W n v l) (k : Keeps lo dkT W U) : Made U n v l := ⟨h.row.keeps k, fun x hx => (h.lns x hx).keeps k⟩
section
variable {w W U : World} {p nb sb n L S : Nat} {E : List En}
theorem PkS.below (h : PkS w W p nb sb n E L S) (hb : Below W.heap.size W U) : PkS w U p nb sb n E L S := by
  obtain ⟨cv, D, h1, r⟩ := h
  exact ⟨cv, D, h1.below hb, r⟩
theorem PkS.bel (h : PkS w W p nb sb n E L S) : Below w.heap.size w W := by
  obtain ⟨cv, D, h1, r⟩ := h
  exact h1.2
theorem PkS.num (h : PkS w W p nb sb n E L S) : 150 ≤ n ∧ n ≤ 200 ∧ costL E ≤ (n - 1 - 2) * 60 := by
  obtain ⟨cv, D, h1, h2, _⟩ := h
  refine ⟨h2.n1, h2.n2, ?_⟩
  rw [← encs_map]
  exact h2.room
/-- The room that is left. -/
def roomE (n : Nat) (E : List En) : Nat := (n - 1 - 2) * 60 - costL E
/-- A Save that is refused. -/
theorem PkS.save_no (h : PkS w W p nb sb n E L S) (hS : S < 64000) (a : Option Addr) (c : Nat) (Js : List Je) (hJ : IsJs W a Js c) (h64 : ∀ x ∈ Js, I64 x.ent ∧ I64 x.per ∧ ∀ y ∈ x.lns, I64 y.amt) (hlen : Js.length ≤ 35184372088832) (hc : adE (roomE n E) (E.map entB) (Js.map Je.en) ≠ 0) :
    Calls Try.prog 6 #[.pointer (some ⟨p, 0, none⟩), .slice a Js.length c] W fun e w' => e = .returned (enE (adE (roomE n E) (E.map entB) (Js.map Je.en))) ∧ Hid (PkS w w' p nb sb n E L S ∧ Below W.heap.size W w') := by
  obtain ⟨cv, D, h1, h2, h3, h4⟩ := h
  have he : (n - 1 - 2) * 60 - (enc (E.map entB)).length = roomE n E := by unfold roomE; rw [encs_map]
  have := ksave_any h1 h2 hS a c Js hJ h64 hlen (.inr (by rw [he]; exact hc))
  rw [he] at this
  refine this.mono ?_
  rintro e w' (⟨_, rfl, hb⟩ | ⟨h0, _⟩)
  · exact ⟨rfl, ⟨cv, D, h1.below hb.out, h2, h3, h4⟩, hb.out⟩
  · exact absurd h0 hc
/-- A Save that is done. -/
theorem PkS.save_ok (h : PkS w W p nb sb n E L S) (hS : S < 64000) (a : Option Addr) (c : Nat) (Js : List Je) (hJ : IsJs W a Js c) (h64 : ∀ x ∈ Js, I64 x.ent ∧ I64 x.per ∧ ∀ y ∈ x.lns, I64 y.amt) (hlen : Js.length ≤ 35184372088832) (hL : L + 299 * Js.length ≤ 700000) (hc : adE (roomE n E) (E.map entB) (Js.map Je.en) = 0) :
    Calls Try.prog 6 #[.pointer (some ⟨p, 0, none⟩), .slice a Js.length c] W fun e w' => e = .returned .nilIface ∧ Hid (PkS w w' p nb sb n (Js.map Je.en) (L + 299 * (Js.length - E.length) + 299) (S + 1) ∧ Keeps w.heap.size dkT W w') := by
  obtain ⟨cv, D, h1, h2, h3, h4⟩ := h
  have he : (n - 1 - 2) * 60 - (enc (E.map entB)).length = roomE n E := by unfold roomE; rw [encs_map]
  have := ksave_any h1 h2 hS a c Js hJ h64 hlen (.inl hL)
  rw [he] at this
  obtain ⟨z1, z2, z3, z4⟩ := adE_zero hc
  refine this.mono ?_
  rintro e w' (⟨h0, _⟩ | ⟨_, hk, (⟨rfl, hh⟩ | ⟨_, hf, _⟩)⟩)
  · exact absurd hc h0
  · obtain ⟨cv', D', q1, q2, q3⟩ := hh.out
    rw [List.length_map] at q2
    exact ⟨rfl, ⟨cv', D', q1, q2, by rw [q3]; exact h3, fun e he => (z2 e he).1⟩, hk.out⟩
  · omega
/-- Load. -/
theorem PkS.load (h : PkS w W p nb sb n E L S) (hS : S < 65000) :
    Calls Try.prog 8 #[.pointer (some ⟨p, 0, none⟩)] W fun e w' => ∃ (a : Option Addr) (c : Nat) (Ls : List Je), e = .returned (.tuple #[.slice a Ls.length c, .nilIface]) ∧ Hid (Made w' W.heap.size (.slice a Ls.length c) Ls ∧ Ls.map Je.en = E ∧ Below W.heap.size W w' ∧ PkS w w' p nb sb n E L S) := by
  obtain ⟨cv, D, h1, h2, h3, h4⟩ := h
  refine (kload_any h1 h2 hS E rfl h4).mono ?_
  rintro e w' ⟨a, c, Ls, rfl, hh⟩
  exact ⟨a, c, Ls, rfl, hh.out.1, hh.out.2.1, hh.out.2.2, cv, D, h1.below hh.out.2.2, h2, h3, h4⟩
/-- A new disk, formatted. -/
theorem pkS_format {cv : Value} (h : Tn w W p nb sb cv n (dk0 n)) (h1 : 150 ≤ n) (hn : n ≤ 200) :
    Calls Try.prog 5 #[.pointer (some ⟨p, 0, none⟩)] W fun e w' => e = .returned .nilIface ∧ Hid (PkS w w' p nb sb n [] 10 0 ∧ Keeps w.heap.size dkT W w') := by
  refine (kformat_new h h1 hn).mono ?_
  rintro e w' ⟨rfl, ht, hk⟩
  obtain ⟨cv', ht⟩ := ht.out
  exact ⟨rfl, ⟨cv', kfD n, ht, kfD_ok h1 hn, by show (-1 : Int) < 0; decide, fun e he => by simp at he⟩, hk.out⟩
end
theorem entB_four (e : En) : 4 ≤ (entB e).length := by
  have h1 := numB_pos e.ent
  have h2 := numB_pos e.per
  have h3 := numB_pos e.lns.length
  have h4 := numB_pos (e.ref.size : Int)
  simp only [entB, textB, List.length_append]
  omega
theorem costL_six : ∀ es : List En, 6 * es.length ≤ costL es
  | [] => Nat.le_refl _
  | e :: es => by
    have h1 := costL_six es
    have h2 := entB_four e
    unfold costL at *
    simp only [List.map_cons, List.sum_cons, List.length_cons]
    omega
theorem costL_app (A B : List En) : costL (A ++ B) = costL A + costL B := by simp [costL]
theorem adL_c0 {x : En} {A : List En} (h1 : frBad x = 0) (h2 : ¬ 200 < (entB x).length) : adL [] (x :: A) = adL [] A := by
  conv => lhs; unfold adL
  rw [if_neg (by omega), if_neg h2]
theorem adL_c1 {x : En} {A : List En} (h1 : frBad x ≠ 0) : adL [] (x :: A) = frBad x := by
  unfold adL
  rw [if_pos h1]
theorem adL_c2 {x : En} {A : List En} (h1 : frBad x = 0) (h2 : 200 < (entB x).length) : adL [] (x :: A) = 4 := by
  unfold adL
  rw [if_neg (by omega), if_pos h2]
/-- The first error of entries that are all new. -/
theorem adL_snoc : ∀ (A : List En) (e : En), adL [] (A ++ [e]) = if adL [] A ≠ 0 then adL [] A else if frBad e ≠ 0 then frBad e else if 200 < (entB e).length then 4 else 0
  | [], e => by
    rw [List.nil_append, if_neg (show ¬ adL [] [] ≠ 0 from fun h => h rfl)]
    by_cases h1 : frBad e = 0
    · rw [if_neg (by omega)]
      by_cases h2 : 200 < (entB e).length
      · rw [if_pos h2, adL_c2 h1 h2]
      · rw [if_neg h2, adL_c0 h1 h2]; rfl
    · rw [if_pos h1, adL_c1 h1]
  | x :: A, e => by
    have ih := adL_snoc A e
    rw [List.cons_append]
    by_cases h1 : frBad x = 0
    · by_cases h2 : 200 < (entB x).length
      · rw [adL_c2 h1 h2, adL_c2 h1 h2, if_pos (by decide)]
      · rw [adL_c0 h1 h2, adL_c0 h1 h2]
        exact ih
    · rw [adL_c1 h1, adL_c1 h1, if_pos h1]
theorem adL_pre : ∀ (A B : List En), adL [] A ≠ 0 → adL [] (A ++ B) = adL [] A
  | [], B, h => absurd rfl h
  | x :: A, B, h => by
    rw [List.cons_append]
    by_cases h1 : frBad x = 0
    · by_cases h2 : 200 < (entB x).length
      · rw [adL_c2 h1 h2, adL_c2 h1 h2]
      · rw [adL_c0 h1 h2] at h ⊢
        rw [adL_c0 h1 h2]
        exact adL_pre A B h
    · rw [adL_c1 h1, adL_c1 h1]
theorem adL_zapp : ∀ (A B : List En), adL [] A = 0 → adL [] (A ++ B) = adL [] B
  | [], B, _ => rfl
  | x :: A, B, h => by
    rw [List.cons_append]
    by_cases h1 : frBad x = 0
    · by_cases h2 : 200 < (entB x).length
      · rw [adL_c2 h1 h2] at h; exact absurd h (by decide)
      · rw [adL_c0 h1 h2] at h ⊢
        exact adL_zapp A B h
    · rw [adL_c1 h1] at h; exact absurd h h1
/-- Beside what is kept already. -/
theorem adL_old : ∀ (A B : List En), adL [] A = 0 → adL (A.map entB) (A ++ B) = adL [] B
  | [], B, _ => rfl
  | x :: A, B, h => by
    rw [List.cons_append, List.map_cons]
    by_cases h1 : frBad x = 0
    · by_cases h2 : 200 < (entB x).length
      · rw [adL_c2 h1 h2] at h; exact absurd h (by decide)
      · rw [adL_c0 h1 h2] at h
        conv => lhs; unfold adL
        rw [if_neg (by omega), if_neg h2]
        simp only [if_true]
        exact adL_old A B h
    · rw [adL_c1 h1] at h; exact absurd h h1
theorem adL_nil_zero {A : List En} (h : adL [] A = 0) : ∀ e ∈ A, EnFit e ∧ (entB e).length ≤ 200 := (adL_zero [] A (Nat.zero_le _) h).1
theorem je_src {W : World} {b off : Nat} {l : List Je} (h : ∀ k, k < l.length → JeAt W b (off + k * 4) (l.getD k je0)) : ∀ j u, (jeRow l)[j]? = some u → W.cell? ((⟨b, off, none⟩ : Addr).add j) = some u := by
  intro j u hj
  rw [Addr.add_lit]
  obtain ⟨q, r, hr, rfl⟩ : ∃ q r, r < 4 ∧ j = q * 4 + r := ⟨j / 4, j % 4, Nat.mod_lt _ (by omega), by omega⟩
  have hlt := (List.getElem?_eq_some_iff.1 hj).1
  rw [jeRow_length] at hlt
  have hq : q < l.length := by omega
  rw [jeRow_get l q r hq hr] at hj
  have := h q hq
  rcases (by omega : r = 0 ∨ r = 1 ∨ r = 2 ∨ r = 3) with rfl | rfl | rfl | rfl
  · rw [← hj, Nat.add_zero, this.c0]; rfl
  · rw [← hj, ← Nat.add_assoc, this.c1]; rfl
  · rw [← hj, ← Nat.add_assoc, this.c2]; rfl
  · rw [← hj, ← Nat.add_assoc, this.c3]; rfl
theorem jeRow_one_cell (l : List Je) : ∀ u ∈ jeRow l, u.oneCell' = true := by
  intro u hu
  obtain ⟨x, _, hx⟩ := List.mem_flatMap.1 hu
  exact je_one x u hx
theorem run_appJe (ty : TypeId) (base : Nat) (v : Value) (l1 : List Je) (w : World) (hown : JeRow w base v l1) (a : Option Addr) (l2 : List Je) (c : Nat) (h : IsJs w a l2 c) (hlen : l1.length + l2.length ≤ 100000) (hbase : base ≤ w.heap.size) :
    ∃ v' w', (Builtin.append_ #[34, 34] ty #[v, .slice a l2.length c]).run Try.prog w = .ok v' w' ∧ JeRow w' base v' (l1 ++ l2) ∧ w.grownBy w' v.ownBlock := by
  obtain ⟨i, hi, hz0, hz1, hz2⟩ := info_parts je_info
  rcases a with _ | ⟨b, off, f⟩
  · have e : l2 = [] := by
      rcases h.lies with h | ⟨b, off, e, _⟩
      · exact h
      · cases e
    subst e
    refine ⟨v, w, ?_, by rw [List.append_nil]; exact hown, ⟨rfl, rfl, rfl, Nat.le_refl _, fun _ _ _ => rfl⟩⟩
    rcases hown.2 with ⟨rfl, hn⟩ | ⟨g, cap, cur, rfl, _, _, hnc, _⟩
    · simp [Builtin.append_, run_underlying Try.underlying34, sizeOf, typeInfo, hi, Builtin.lenOf, Builtin.firstCells]
    · simp [Builtin.append_, run_underlying Try.underlying34, sizeOf, typeInfo, hi, Builtin.lenOf, Builtin.firstCells, hnc, storeCells]
  · have hn : ∀ j u, (jeRow l2)[j]? = some u → w.cell? ((⟨b, off, f⟩ : Addr).add j) = some u := by
      rcases h.lies with h | ⟨b', off', e, _, hc⟩
      · subst h
        intro j u hu
        simp [jeRow] at hu
      · cases e
        exact je_src hc
    obtain ⟨v', w', hr, h2, h3, _⟩ := run_append_own (P := Try.prog) w base 34 ty 32 i (.agg #[.string ByteArray.empty, .int .i64 0, .int .i64 0, .slice none 0 0]) 4 56 Try.underlying34 hi hz0 hz1 hz2 rfl (by decide) v l1.length (jeRow l1) hown ⟨b, off, f⟩ l2.length c (jeRow l2) (jeRow_length l2) hn (jeRow_one_cell l2) (by unfold maxLen; omega) (by omega) hbase
    refine ⟨v', w', hr, ?_, h3⟩
    unfold JeRow
    rw [jeRow_append, List.length_append]
    exact h2
theorem wpList_appJe {w : World} {ops : Array Oper} {rest : List Oper} {o : Oper} {a : Act} {Q : Exit → Act → World → Prop} (hgd : o.guard = none) (s x : Operand)
    (ho : o.op = .call { callee := .builtin .append, args := #[s, x], argTypes := #[34, 34] })
    (base : Nat) (v : Value) (l1 : List Je) (hs : a.eval s = v) (hown : JeRow w base v l1) (ad : Option Addr) (m c : Nat) (l2 : List Je) (hx : a.eval x = .slice ad m c) (hm : l2.length = m) (h : IsJs w ad l2 c) (hlen : l1.length + l2.length ≤ 100000) (hbase : base ≤ w.heap.size)
    (hh : ∀ v' w', JeRow w' base v' (l1 ++ l2) → w.grownBy w' v.ownBlock → wpList Try.prog ops Q rest (a.put o.dst v') w') : wpList Try.prog ops Q (o :: rest) a w := by
  subst hm
  refine wpList_plain hgd fun K hK => ?_
  obtain ⟨v', w', hr, h2, h3⟩ := run_appJe o.type base v l1 w hown ad l2 c h hlen hbase
  unfold Oper.wp execOp
  simp only [ho, resolve, invoke, builtin, Sem.run_bind, Sem.run_pure, Result.andThen_ok, List.map_toArray, List.map_cons, List.map_nil, hs, hx, hr]
  exact hK _ _ (hh v' w' h2 h3)
theorem Made.join {W W1 : World} {n0 : Nat} {v v' : Value} {L M : List Je} (h : Made W n0 v L) (hM : ∀ x ∈ M, LnRow W n0 (.slice x.adr x.lns.length x.cap) x.lns) (ho : JeRow W1 n0 v' (L ++ M)) (hg : W.grownBy W1 v.ownBlock) : Made W1 n0 v' (L ++ M) := by
  have keep : ∀ y : Je, LnRow W n0 (.slice y.adr y.lns.length y.cap) y.lns → LnRow W1 n0 (.slice y.adr y.lns.length y.cap) y.lns := fun y hy => by
    rcases hy.2 with ⟨hv, hn⟩ | ⟨g1, c1, cur, hv, hb1, hh, r⟩
    · exact ⟨hy.1, .inl ⟨hv, hn⟩⟩
    · refine ⟨hy.1, .inr ⟨g1, c1, cur, hv, hb1, (hg.block g1 (Array.getElem?_eq_some_iff.1 hh).1 fun e => ?_).trans hh, r⟩⟩
      obtain ⟨cs, h2⟩ := made_typ h.row g1 e.symm
      rw [hh] at h2
      cases h2
  refine ⟨ho, fun y hy => ?_⟩
  rcases List.mem_append.1 hy with hy | hy
  · exact keep y (h.lns y hy)
  · exact keep y (hM y hy)

end Go.Proofs.Ytijjegkkeigeoaa

namespace Go.Proofs.Ytijjegkkeigeoaa.Big
set_option linter.unusedVariables false

/-- The number of some words. -/
def val : List Nat → Nat
  | [] => 0
  | x :: t => x + 4294967296 * val t

/-- How many words are left without the noughts at the end. -/
def tl (l : List Nat) : Nat → Nat
  | 0 => 0
  | n + 1 => if l.getD n 0 = 0 then tl l n else n + 1

/-- Each is a word. -/
def Ok (l : List Nat) : Prop := ∀ i, i < l.length → l.getD i 0 < 4294967296
/-- No nought at the end. -/
def Nrm (l : List Nat) : Prop := l.length = 0 ∨ l.getD (l.length - 1) 0 ≠ 0

theorem tl_zero (l : List Nat) (n : Nat) (h : l.getD n 0 = 0) : tl l (n + 1) = tl l n := by rw [tl, if_pos h]
theorem tl_pos (l : List Nat) (n : Nat) (h : l.getD n 0 ≠ 0) : tl l (n + 1) = n + 1 := by rw [tl, if_neg h]

theorem val_append (a b : List Nat) : val (a ++ b) = val a + 4294967296 ^ a.length * val b := by
  induction a with
  | nil => simp [val]
  | cons x t ih =>
    simp only [List.cons_append, val, ih, List.length_cons, Nat.pow_succ]
    rw [Nat.mul_add, ← Nat.mul_assoc, Nat.mul_comm 4294967296 (4294967296 ^ t.length), Nat.add_assoc]

theorem take_snoc (l : List Nat) (k : Nat) (h : k < l.length) : l.take (k + 1) = l.take k ++ [l.getD k 0] := by
  rw [List.take_succ_eq_append_getElem h]
  simp [h]

theorem val_take_succ (l : List Nat) (k : Nat) (h : k < l.length) : val (l.take (k + 1)) = val (l.take k) + 4294967296 ^ k * l.getD k 0 := by
  rw [take_snoc l k h, val_append]
  simp [val, Nat.min_eq_left (Nat.le_of_lt h)]

theorem tl_le (l : List Nat) (n : Nat) : tl l n ≤ n := by
  induction n with
  | zero => simp [tl]
  | succ n ih => unfold tl; split <;> omega

theorem val_tl (l : List Nat) (n : Nat) (h : n ≤ l.length) : val (l.take (tl l n)) = val (l.take n) := by
  induction n with
  | zero => simp [tl]
  | succ n ih =>
    unfold tl
    split
    · rename_i h0
      rw [ih (by omega), val_take_succ l n (by omega), h0]
      simp
    · rfl

theorem getD_take (l : List Nat) (n i : Nat) (h : i < n) : (l.take n).getD i 0 = l.getD i 0 := by
  simp [List.getD, h]

theorem ok_take {l : List Nat} (h : Ok l) (n : Nat) : Ok (l.take n) := by
  intro i hi
  have h1 : i < n := by simp at hi; omega
  have h2 : i < l.length := by simp at hi; omega
  rw [getD_take l n i h1]
  exact h i h2

theorem nrm_tl (l : List Nat) (n : Nat) (h : n ≤ l.length) : Nrm (l.take (tl l n)) := by
  induction n with
  | zero => exact .inl (by simp [tl])
  | succ n ih =>
    unfold tl
    split
    · exact ih (by omega)
    · rename_i h0
      right
      have e : (l.take (n + 1)).length = n + 1 := by simp; omega
      rw [e, Nat.add_sub_cancel, getD_take l (n + 1) n (by omega)]
      exact h0

theorem val_lt {l : List Nat} (h : Ok l) : val l < 4294967296 ^ l.length := by
  induction l with
  | nil => simp [val]
  | cons x t ih =>
    have hx : x < 4294967296 := by simpa using h 0 (by simp)
    have ht : Ok t := fun i hi => by simpa using h (i + 1) (by simp; omega)
    have := ih ht
    simp only [val, List.length_cons, Nat.pow_succ]
    omega

theorem val_ge {l : List Nat} (h : Nrm l) (hn : 0 < l.length) : 4294967296 ^ (l.length - 1) ≤ val l := by
  have h0 : l.getD (l.length - 1) 0 ≠ 0 := by
    rcases h with h | h
    · omega
    · exact h
  have e := val_take_succ l (l.length - 1) (by omega)
  rw [Nat.sub_add_cancel hn, List.take_length] at e
  rw [e]
  have h1 : 4294967296 ^ (l.length - 1) * 1 ≤ 4294967296 ^ (l.length - 1) * l.getD (l.length - 1) 0 := Nat.mul_le_mul_left _ (by omega)
  omega

theorem val_zero {l : List Nat} (h : Nrm l) : val l = 0 ↔ l = [] := by
  constructor
  · intro e
    rcases Nat.eq_zero_or_pos l.length with h0 | h0
    · exact List.eq_nil_of_length_eq_zero h0
    · have := val_ge h h0
      have := Nat.pow_pos (n := l.length - 1) (by omega : 0 < 4294967296)
      omega
  · rintro rfl; rfl

theorem take_set_lt (r : List Nat) (k d : Nat) : (r.set k d).take k = r.take k := by
  rw [List.take_set, List.set_eq_of_length_le (by simp; omega)]
theorem getD_set_same (r : List Nat) (k d : Nat) (h : k < r.length) : (r.set k d).getD k 0 = d := by simp [List.getD, h]
theorem val_set (r : List Nat) (k d : Nat) (h : k < r.length) : val ((r.set k d).take (k + 1)) = val (r.take k) + 4294967296 ^ k * d := by
  rw [val_take_succ _ k (by simpa using h), take_set_lt, getD_set_same r k d h]
theorem ok_set {r : List Nat} (h : Ok r) (k d : Nat) (hd : d < 4294967296) : Ok (r.set k d) := by
  intro i hi
  rw [List.length_set] at hi
  rcases Nat.decEq i k with hne | rfl
  · have := h i hi
    simp only [List.getD, List.getElem?_set_ne (fun e => hne e.symm)] at this ⊢
    exact this
  · rw [getD_set_same r i d hi]; exact hd
theorem ok_replicate (n : Nat) : Ok (List.replicate n 0) := by
  intro i hi
  simp at hi
  simp [List.getD, hi]
/-- A list beyond its end. -/
theorem take_getD (l : List Nat) (k : Nat) : val (l.take (k + 1)) = val (l.take k) + 4294967296 ^ k * l.getD k 0 := by
  rcases Nat.lt_or_ge k l.length with h | h
  · exact val_take_succ l k h
  · rw [List.take_of_length_le (by omega), List.take_of_length_le h]
    simp [List.getD, List.getElem?_eq_none h]

theorem split_word (c : Nat) : 4294967296 * (c / 4294967296) + c % 4294967296 = c := Nat.div_add_mod c 4294967296

/-- A round of the sum of two. -/
theorem add_step (a b r : List Nat) (k c : Nat) (hk : k < r.length) (h : val (r.take k) + 4294967296 ^ k * c = val (a.take k) + val (b.take k)) :
    val ((r.set k ((c + a.getD k 0 + b.getD k 0) % 4294967296)).take (k + 1)) + 4294967296 ^ (k + 1) * ((c + a.getD k 0 + b.getD k 0) / 4294967296) = val (a.take (k + 1)) + val (b.take (k + 1)) := by
  rw [val_set r k _ hk, take_getD a k, take_getD b k, Nat.pow_succ, Nat.mul_assoc, Nat.add_assoc, ← Nat.mul_add, Nat.add_comm (_ % _), split_word]
  rw [Nat.mul_add, Nat.mul_add]
  omega

/-- A round of the difference of two. -/
theorem sub_step (a b r : List Nat) (k c t c' : Nat) (hk : k < r.length) (h : val (r.take k) + val (b.take k) = val (a.take k) + 4294967296 ^ k * c) (ht : c' * 4294967296 + a.getD k 0 = t + c + b.getD k 0) :
    val ((r.set k t).take (k + 1)) + val (b.take (k + 1)) = val (a.take (k + 1)) + 4294967296 ^ (k + 1) * c' := by
  rw [val_set r k _ hk, take_getD a k, take_getD b k, Nat.pow_succ, Nat.mul_assoc]
  have e : 4294967296 ^ k * (c' * 4294967296 + a.getD k 0) = 4294967296 ^ k * (t + c + b.getD k 0) := by rw [ht]
  rw [Nat.mul_add, Nat.mul_add, Nat.mul_add] at e
  rw [Nat.mul_comm 4294967296 c']
  omega

/-- The longer of two is the greater. -/
theorem len_le {a b : List Nat} (ha : Ok a) (hb : Nrm b) (h : val b ≤ val a) : b.length ≤ a.length := by
  rcases Nat.eq_zero_or_pos b.length with h0 | h0
  · omega
  · apply Classical.byContradiction
    intro hn
    have h1 := val_lt ha
    have h2 := val_ge hb h0
    have h3 : 4294967296 ^ a.length ≤ 4294967296 ^ (b.length - 1) := Nat.pow_le_pow_right (by omega) (by omega)
    omega
theorem len_lt {a b : List Nat} (ha : Ok a) (hb : Nrm b) (h : a.length < b.length) : val a < val b := by
  apply Classical.byContradiction
  intro hn
  have := len_le ha hb (by omega)
  omega

/-- Two of one length, the same from word k on, differ as their first words do. -/
theorem top_lt {a b : List Nat} (ha : Ok a) (j : Nat) (h1 : j < a.length) (h2 : j < b.length) (hlen : a.length = b.length) (hs : a.drop (j + 1) = b.drop (j + 1)) (hlt : a.getD j 0 < b.getD j 0) : val a < val b := by
  have e1 : val a = val (a.take (j + 1)) + 4294967296 ^ (j + 1) * val (a.drop (j + 1)) := by
    have := val_append (a.take (j + 1)) (a.drop (j + 1))
    rw [List.take_append_drop] at this
    rw [this]; simp [Nat.min_eq_left h1]
  have e2 : val b = val (b.take (j + 1)) + 4294967296 ^ (j + 1) * val (b.drop (j + 1)) := by
    have := val_append (b.take (j + 1)) (b.drop (j + 1))
    rw [List.take_append_drop] at this
    rw [this]; simp [Nat.min_eq_left h2]
  rw [e1, e2, hs, val_take_succ a j h1, val_take_succ b j h2]
  have h3 := val_lt (ok_take ha j)
  rw [List.length_take, Nat.min_eq_left (Nat.le_of_lt h1)] at h3
  have h4 : 4294967296 ^ j * (a.getD j 0 + 1) ≤ 4294967296 ^ j * b.getD j 0 := Nat.mul_le_mul_left _ hlt
  rw [Nat.mul_add, Nat.mul_one] at h4
  omega
end Go.Proofs.Ytijjegkkeigeoaa.Big

namespace Go.Proofs.Ytijjegkkeigeoaa
set_option linter.unusedVariables false
open Go.RowKit Big

/-- A list of words in memory. -/
structure Wd (w : World) (v : Value) (l : List Nat) : Prop where
  ok : Ok l
  len : l.length ≤ 140737488355328
  at_ : (l = [] ∧ ∃ a cap, v = .slice a 0 cap) ∨ (0 < l.length ∧ ∃ b off cap, v = .slice (some ⟨b, off, none⟩) l.length cap ∧ b < w.heap.size ∧ l.length ≤ cap ∧ ∀ i, i < l.length → w.cell? ⟨b, off + i, none⟩ = some (.int .u32 (l.getD i 0 : Nat)))

/-- Words stay where nothing but a block that is not theirs is written. -/
theorem Wd.keep {w w' : World} {v : Value} {l : List Nat} {row : Option Nat} (h : Wd w v l) (hg : w.grownBy w' row) (hr : ∀ b off n cap, v = .slice (some ⟨b, off, none⟩) n cap → some b ≠ row) : Wd w' v l := by
  refine ⟨h.ok, h.len, ?_⟩
  rcases h.at_ with ⟨h0, a, cap, hv⟩ | ⟨h0, b, off, cap, hv, hb, hcap, hc⟩
  · exact .inl ⟨h0, a, cap, hv⟩
  · exact .inr ⟨h0, b, off, cap, hv, Nat.lt_of_lt_of_le hb hg.size, hcap, fun i hi => hg.cell (hc i hi) (hr b off _ cap hv)⟩

theorem Wd.grow {w w' : World} {v : Value} {l : List Nat} (h : Wd w v l) (hg : w.grownBy w' none) : Wd w' v l := h.keep hg (fun _ _ _ _ _ => by simp)

theorem wd_nil (w : World) (a : Option Addr) (cap : Nat) : Wd w (.slice a 0 cap) [] := ⟨fun i hi => by simp at hi, by simp, .inl ⟨rfl, a, cap, rfl⟩⟩
theorem wd_take {w : World} {b off n cap : Nat} {l : List Nat} (h : Wd w (.slice (some ⟨b, off, none⟩) n cap) l) (k : Nat) (hk : k ≤ l.length) : Wd w (.slice (some ⟨b, off, none⟩) k cap) (l.take k) := by
  rcases Nat.eq_zero_or_pos k with rfl | hp
  · exact wd_nil w _ _
  · have e : (l.take k).length = k := by simp; omega
    refine ⟨ok_take h.ok k, by rw [e]; have := h.len; omega, .inr ?_⟩
    rcases h.at_ with ⟨h0, a, cap', hv⟩ | ⟨h0, b', off', cap', hv, hb, hcap, hc⟩
    · subst h0; simp at hk; omega
    · cases hv
      refine ⟨by omega, b, off, cap, by rw [e], hb, by omega, fun i hi => ?_⟩
      rw [e] at hi
      rw [getD_take l k i hi]
      exact hc i (by omega)

set_option maxHeartbeats 1000000 in
theorem trim_any (v : Value) (l : List Nat) (w : World) (h : Wd w v l) :
    Calls Try.prog 85 #[v] w fun e w' => (∃ v', e = .returned v' ∧ Wd w v' (l.take (tl l l.length))) ∧ w' = w := by
  have hlen := h.len
  rcases h.at_ with ⟨h0, a, cap, hv⟩ | ⟨h0, b, off, cap, hv, hb, hcap, hc⟩
  · subst h0; subst hv
    go_enter Try.func85, Try.ntmps85
    go_wp2
    refine wp_loop_rounds 1 ?_
    rw [rounds_succ]
    cases a with
    | none =>
      go_wp2
      go_ret
      exact ⟨⟨_, rfl, wd_nil _ _ _⟩, rfl⟩
    | some a =>
      go_wp2
      go_ret
      exact ⟨⟨_, rfl, wd_nil _ _ _⟩, rfl⟩
  · subst hv
    have Hc : Hid (∀ i, i < l.length → w.cell? ⟨b, off + i, none⟩ = some (.int .u32 (l.getD i 0 : Nat))) := hc
    have Ho : Hid (Ok l) := h.ok
    have Hr : Hid (Wd w (.slice (some ⟨b, off, none⟩) l.length cap) l) := h
    clear hc h
    go_enter Try.func85, Try.ntmps85
    go_wp2
    go_loop [3] (fun n => ∃ k : Nat, k ≤ l.length ∧ n = .int .i64 k ∧ Hid (tl l k = tl l l.length)) (fun n => (RowKit.intOf n).toNat)
    case atStart => exact ⟨l.length, Nat.le_refl _, rfl, rfl⟩
    case round =>
      obtain ⟨k, hk, rfl, Hk⟩ := hrel
      cases k with
      | zero =>
        go_wp2
        go_ret
        refine ⟨⟨_, rfl, ?_⟩, rfl⟩
        rw [← Hk.out]
        exact wd_take Hr.out 0 (by omega)
      | succ j =>
        have hcj := Hc.out j (by omega)
        by_cases hz : l.getD j 0 = 0
        · rw [hz] at hcj
          have Hk2 : Hid (tl l j = tl l l.length) := by
            have := Hk.out; rw [tl_zero l j hz] at this; exact this
          clear Hk hz
          go_wp2
          go_round
          case rel => exact ⟨j, by omega, by go_num, Hk2⟩
          case measure => simp [RowKit.intOf]
        · have hb1 := Ho.out j (by omega)
          have Hk2 : Hid (j + 1 = tl l l.length) := by
            have := Hk.out; rw [tl_pos l j hz] at this; exact this
          generalize l.getD j 0 = x at *
          have hx : ((x : Int) == 0) = false := by simp; omega
          go_wp2
          go_ret
          refine ⟨⟨_, rfl, ?_⟩, rfl⟩
          rw [← Hk2.out]
          exact wd_take Hr.out (j + 1) hk
end Go.Proofs.Ytijjegkkeigeoaa

namespace Go.Proofs.Ytijjegkkeigeoaa
set_option linter.unusedVariables false
open Go.RowKit Big

/-- A number with its sign. -/
def sg (neg : Bool) (n : Nat) : Int := if neg then -(n : Int) else n

/-- A whole number of any size stands in block p. -/
structure IsBig (w : World) (p : Nat) (neg : Bool) (v : Value) (l : List Nat) : Prop where
  blk : w.heap[p]? = some (.cells #[.bool neg, v] 131 (0, 0))
  wd : Wd w v l
  nrm : Nrm l
  sgn : neg = true → 0 < l.length

theorem blk_lt {w : World} {p : Nat} {o : Obj} (h : w.heap[p]? = some o) : p < w.heap.size := by
  rcases Nat.lt_or_ge p w.heap.size with h1 | h1
  · exact h1
  · rw [Array.getElem?_eq_none h1] at h; cases h
theorem blk_cell0 {w : World} {p : Nat} {c0 c1 : Value} {t : TypeId} (h : w.heap[p]? = some (.cells #[c0, c1] t (0, 0))) : w.cell? ⟨p, 0, none⟩ = some c0 := by simp [World.cell?, h]
theorem blk_cell1 {w : World} {p : Nat} {c0 c1 : Value} {t : TypeId} (h : w.heap[p]? = some (.cells #[c0, c1] t (0, 0))) : w.cell? ⟨p, 1, none⟩ = some c1 := by simp [World.cell?, h]
theorem blk_frozen {w : World} {p i : Nat} {c : Array Value} {t : TypeId} (h : w.heap[p]? = some (.cells c t (0, 0))) : w.frozen? ⟨p, i, none⟩ = false := by simp [World.frozen?, h]

/-- The words of a list stand in no block of another kind. -/
theorem Wd.apart {w : World} {v : Value} {l : List Nat} (h : Wd w v l) {p : Nat} {neg : Bool} {u : Value} {t : TypeId} (hp : w.heap[p]? = some (.cells #[.bool neg, u] t (0, 0))) (hu : ∀ k n, u ≠ .int k n) :
    ∀ b off n cap, v = .slice (some ⟨b, off, none⟩) n cap → 0 < l.length → b ≠ p := by
  rintro b off n cap rfl h0 rfl
  rcases h.at_ with ⟨h1, _⟩ | ⟨h1, b', off', cap', hv, hb, hcap, hc⟩
  · subst h1; simp at h0
  · cases hv
    have h2 := hc 0 h1
    simp only [World.cell?, hp] at h2
    match off, h2 with
    | 0, h2 => simp at h2
    | 1, h2 => simp at h2; exact hu _ _ h2
    | n + 2, h2 => simp at h2

theorem Wd.keepP {w w' : World} {v : Value} {l : List Nat} (h : Wd w v l) {p : Nat} {neg : Bool} {u : Value} {t : TypeId} (hp : w.heap[p]? = some (.cells #[.bool neg, u] t (0, 0))) (hu : ∀ k n, u ≠ .int k n) (hg : w.grownBy w' (some p)) : Wd w' v l := by
  rcases Nat.eq_zero_or_pos l.length with h0 | h0
  · refine ⟨h.ok, h.len, ?_⟩
    rcases h.at_ with ⟨h1, a, cap, hv⟩ | ⟨h1, _⟩
    · exact .inl ⟨h1, a, cap, hv⟩
    · omega
  · exact h.keep hg (fun b off n cap hv => by have := h.apart hp hu b off n cap hv h0; simpa using this)

theorem Wd.noInt {w : World} {v : Value} {l : List Nat} (h : Wd w v l) : ∀ k n, v ≠ .int k n := by
  rintro k n rfl
  rcases h.at_ with ⟨_, _, _, hv⟩ | ⟨_, _, _, _, hv, _⟩ <;> cases hv

theorem Wd.slice {w : World} {v : Value} {l : List Nat} (h : Wd w v l) : ∃ a cap, v = .slice a l.length cap := by
  rcases h.at_ with ⟨h0, a, cap, hv⟩ | ⟨h0, b, off, cap, hv, _⟩
  · subst h0; exact ⟨a, cap, hv⟩
  · exact ⟨_, cap, hv⟩

theorem give_any (p : Nat) (neg n0 : Bool) (u v : Value) (l : List Nat) (w : World) (hp : w.heap[p]? = some (.cells #[.bool n0, u] 131 (0, 0))) (hu : ∀ k n, u ≠ .int k n) (hv : Wd w v l) (hn : Nrm l) :
    Calls Try.prog 83 #[.pointer (some ⟨p, 0, none⟩), .bool neg, v] w fun e w' => e = .returned (.pointer (some ⟨p, 0, none⟩)) ∧ IsBig w' p (neg && decide (0 < l.length)) v l ∧ w.grownBy w' (some p) := by
  obtain ⟨a, cap, rfl⟩ := hv.slice
  have c0 := blk_cell0 hp
  have c1 := blk_cell1 hp
  have f0 := blk_frozen (i := 0) hp
  have f1 := blk_frozen (i := 1) hp
  have hlt := blk_lt hp
  have key : ∀ b : Bool, ((w.setCell ⟨p, 1, none⟩ (.slice a l.length cap)).setCell ⟨p, 0, none⟩ (.bool b)).heap[p]? = some (.cells #[.bool b, .slice a l.length cap] 131 (0, 0)) := by
    intro b
    rw [heap_setCell_same _ p 0 #[.bool n0, .slice a l.length cap] 131 _ (by rw [heap_setCell_same _ p 1 _ _ _ hp]; rfl)]; rfl
  have grown : ∀ b : Bool, w.grownBy ((w.setCell ⟨p, 1, none⟩ (.slice a l.length cap)).setCell ⟨p, 0, none⟩ (.bool b)) (some p) := fun b =>
    ⟨rfl, rfl, rfl, by simp, fun k hk hne => by
      have hne : k ≠ p := fun e => hne (by rw [e])
      rw [heap_setCell_other _ _ _ _ hne, heap_setCell_other _ _ _ _ hne]⟩
  have fin : ∀ b : Bool, b = (neg && decide (0 < l.length)) → IsBig ((w.setCell ⟨p, 1, none⟩ (.slice a l.length cap)).setCell ⟨p, 0, none⟩ (.bool b)) p (neg && decide (0 < l.length)) (.slice a l.length cap) l := by
    rintro b rfl
    exact ⟨key _, hv.keepP hp hu (grown _), hn, by simp⟩
  have Fin : Hid (∀ b : Bool, b = (neg && decide (0 < l.length)) → IsBig ((w.setCell ⟨p, 1, none⟩ (.slice a l.length cap)).setCell ⟨p, 0, none⟩ (.bool b)) p (neg && decide (0 < l.length)) (.slice a l.length cap) l) := fin
  have Grown : Hid (∀ b : Bool, w.grownBy ((w.setCell ⟨p, 1, none⟩ (.slice a l.length cap)).setCell ⟨p, 0, none⟩ (.bool b)) (some p)) := grown
  clear key grown fin hp hu hv hn
  cases neg
  · go_enter Try.func83, Try.ntmps83
    go_wp2
    go_ret
    exact ⟨rfl, Fin.out _ rfl, Grown.out _⟩
  · go_enter Try.func83, Try.ntmps83
    go_wp2
    go_ret
    exact ⟨rfl, Fin.out _ (by simp), Grown.out _⟩
end Go.Proofs.Ytijjegkkeigeoaa

namespace Go.Proofs.Ytijjegkkeigeoaa
set_option linter.unusedVariables false
open Go.RowKit Big

theorem alloc_blk (w : World) (o : Obj) : (w.alloc o).heap[w.heap.size]? = some o := by
  show (w.heap.push o)[w.heap.size]? = some o
  exact Array.getElem?_push_size

theorem ret_val {a b : Value} (h : a = b) : Ending.returned a = .returned b := by rw [h]

theorem gtrans {a b c : World} {row : Option Nat} (h : a.grownBy b row) (k : b.grownBy c row) : a.grownBy c row :=
  ⟨k.os.trans h.os, k.tape.trans h.tape, k.output.trans h.output, Nat.le_trans h.size k.size, fun i hi hr => (k.block i (Nat.lt_of_lt_of_le hi h.size) hr).trans (h.block i hi hr)⟩
theorem gweak {a b : World} (h : a.grownBy b none) (row : Option Nat) : a.grownBy b row := ⟨h.os, h.tape, h.output, h.size, fun i hi _ => h.block i hi (by simp)⟩
theorem grefl (a : World) (row : Option Nat) : a.grownBy a row := ⟨rfl, rfl, rfl, Nat.le_refl _, fun _ _ _ => rfl⟩
theorem gnew {a b : World} {o : Obj} (h : (a.alloc o).grownBy b (some a.heap.size)) : a.grownBy b none :=
  ⟨h.os, h.tape, h.output, by have := h.size; simp at this; omega, fun i hi _ => by
    rw [h.block i (by simp; omega) (by simp; omega)]
    exact Below.heap_alloc a o i hi⟩
theorem gdrewN {a b : World} {row : Option Nat} (h : a.grownBy b row) (n : Nat) : a.grownBy (b.drewN n) row := ⟨h.os, h.tape, h.output, h.size, h.block⟩
theorem gbelow {a b : World} (h : a.grownBy b none) : Below a.heap.size a b := ⟨h.os, h.tape, h.output, h.size, fun k hk => h.block k hk (by simp)⟩
theorem belowg {a b : World} (h : Below a.heap.size a b) : a.grownBy b none := ⟨h.os, h.tape, h.output, h.size, fun k hk _ => h.block k hk⟩

/-- The number x stands in block p. -/
def BigIs (w : World) (p : Nat) (x : Int) : Prop := ∃ neg v l, IsBig w p neg v l ∧ sg neg (val l) = x

theorem words_any (x : Nat) (w : World) (hx : x < 18446744073709551616) :
    Calls Try.prog 84 #[.int .u64 x] w fun e w' => ∃ v l, e = .returned v ∧ Wd w' v l ∧ Nrm l ∧ val l = x ∧ w.grownBy w' none := by
  have e1 : IntKind.u32.wrap (x : Int) = ((x % 4294967296 : Nat) : Int) := by rw [IntKind.wrap_u32]; omega
  have e2 : (x : Int) / 4294967296 = ((x / 4294967296 : Nat) : Int) := by omega
  have hlo : x % 4294967296 < 4294967296 := Nat.mod_lt _ (by omega)
  have hhi : x / 4294967296 < 4294967296 := by omega
  have hs : x % 4294967296 + 4294967296 * (x / 4294967296) = x := Nat.mod_add_div x 4294967296
  generalize x % 4294967296 = lo at *
  generalize x / 4294967296 = hi at *
  have Hs : Hid (lo + 4294967296 * hi = x) := hs
  clear hs
  have hwd : Hid (∀ a : Nat, a = w.heap.size → Wd (w.alloc (.cells #[.int .u32 (lo : Int), .int .u32 (hi : Int)] 133)) (.slice (some ⟨a, 0, none⟩) 2 2) [lo, hi]) := by
    rintro a rfl
    refine ⟨?_, by simp, .inr ⟨by simp, w.heap.size, 0, 2, rfl, by simp, by simp, ?_⟩⟩
    · intro i hi'
      match i, hi' with
      | 0, _ => simpa using hlo
      | 1, _ => simpa using hhi
    · intro i hi'
      match i, hi' with
      | 0, _ => simp
      | 1, _ => simp
  go_enter Try.func84, Try.ntmps84
  go_wp2_with fail
  refine (trim_any _ [lo, hi] _ (hwd.out _ rfl)).mono ?_
  rintro e w' ⟨⟨v', rfl, hv⟩, hw⟩
  rw [hw]; clear hw w'
  have hn : Hid (Nrm ([lo, hi].take (tl [lo, hi] 2)) ∧ val ([lo, hi].take (tl [lo, hi] 2)) = x) := ⟨nrm_tl _ _ (by simp), by rw [val_tl _ _ (by simp)]; simp [val]; exact Hs.out⟩
  have Hv : Hid (Wd (w.alloc (.cells #[.int .u32 (lo : Int), .int .u32 (hi : Int)] 133)) v' ([lo, hi].take (tl [lo, hi] 2))) := hv
  clear hv hwd
  go_wp2
  go_ret
  exact ⟨v', _, rfl, Hv.out, hn.out.1, hn.out.2, World.grownBy_alloc _ _ _⟩

/-- The words that a number is made of, and give's two sides. -/
theorem setInt64_any (p : Nat) (x : Int) (n0 : Bool) (u : Value) (w : World) (hp : w.heap[p]? = some (.cells #[.bool n0, u] 131 (0, 0))) (hu : ∀ k n, u ≠ .int k n) (h1 : -9223372036854775808 ≤ x) (h2 : x ≤ 9223372036854775807) :
    Calls Try.prog 77 #[.pointer (some ⟨p, 0, none⟩), .int .i64 x] w fun e w' => e = .returned (.pointer (some ⟨p, 0, none⟩)) ∧ BigIs w' p x ∧ w.grownBy w' (some p) := by
  have Hp : Hid (w.heap[p]? = some (.cells #[.bool n0, u] 131 (0, 0))) := hp
  have Hu : Hid (∀ k n, u ≠ .int k n) := hu
  clear hp hu
  by_cases hx : x < 0
  · obtain ⟨m, rfl⟩ : ∃ m : Nat, x = -(m : Int) := ⟨(-x).toNat, by omega⟩
    have e1 : IntKind.u64.wrap (-IntKind.u64.wrap (-(m : Int))) = (m : Int) := by rw [IntKind.wrap_u64, IntKind.wrap_u64]; omega
    have hd : decide (-(m : Int) < 0) = true := by simpa using hx
    go_enter Try.func77, Try.ntmps77
    go_wp2_with fail
    refine (words_any m _ (by omega)).mono ?_
    rintro e w1 ⟨v, l, rfl, hv, hn, hval, hg⟩
    have Hv : Hid (Wd w1 v l) := hv
    have Hn : Hid (Nrm l) := hn
    have Hval : Hid (val l = m) := hval
    have Hg : Hid (w.grownBy w1 none) := hg
    clear hv hn hval hg
    go_wp2_with fail
    refine (give_any p true n0 u v l w1 ((Hg.out.block p (blk_lt Hp.out) (by simp)).trans Hp.out) Hu.out Hv.out Hn.out).mono ?_
    rintro e w2 ⟨rfl, hb, hg2⟩
    have R : Hid (BigIs w2 p (-(m : Int)) ∧ w.grownBy w2 (some p)) := by
      refine ⟨⟨_, v, l, hb, ?_⟩, gtrans (gweak Hg.out _) hg2⟩
      have hl : 0 < l.length := by
        rcases Nat.eq_zero_or_pos l.length with h0 | h0
        · have : l = [] := List.eq_nil_of_length_eq_zero h0
          have h3 := Hval.out
          rw [this] at h3
          simp only [val] at h3
          omega
        · exact h0
      simp only [hl, decide_true, Bool.and_true, sg, if_true, Hval.out]
    clear hb hg2
    go_wp2
    go_ret
    exact ⟨rfl, R.out.1, R.out.2⟩
  · have hd : decide (x < 0) = false := by simpa using hx
    have hx0 : 0 ≤ x := by omega
    obtain ⟨n, rfl⟩ := Int.eq_ofNat_of_zero_le hx0
    go_enter Try.func77, Try.ntmps77
    go_wp2_with fail
    refine (words_any n _ (by omega)).mono ?_
    rintro e w1 ⟨v, l, rfl, hv, hn, hval, hg⟩
    have Hv : Hid (Wd w1 v l) := hv
    have Hn : Hid (Nrm l) := hn
    have Hval : Hid (val l = n) := hval
    have Hg : Hid (w.grownBy w1 none) := hg
    clear hv hn hval hg
    go_wp2_with fail
    refine (give_any p false n0 u v l w1 ((Hg.out.block p (blk_lt Hp.out) (by simp)).trans Hp.out) Hu.out Hv.out Hn.out).mono ?_
    rintro e w2 ⟨rfl, hb, hg2⟩
    have R : Hid (BigIs w2 p (n : Int) ∧ w.grownBy w2 (some p)) := by
      refine ⟨⟨_, v, l, hb, ?_⟩, gtrans (gweak Hg.out _) hg2⟩
      simp [sg, Hval.out]
    clear hb hg2
    go_wp2
    go_ret
    exact ⟨rfl, R.out.1, R.out.2⟩

theorem newInt_any (x : Int) (w : World) (h1 : -9223372036854775808 ≤ x) (h2 : x ≤ 9223372036854775807) :
    Calls Try.prog 68 #[.int .i64 x] w fun e w' => e = .returned (.pointer (some ⟨w.heap.size, 0, none⟩)) ∧ BigIs w' w.heap.size x ∧ w.grownBy w' none := by
  go_enter Try.func68, Try.ntmps68
  go_wp2_with fail
  refine (setInt64_any w.heap.size x false (.slice none 0 0) _ (alloc_blk _ _) (by simp) h1 h2).mono ?_
  rintro e w1 ⟨rfl, hb, hg⟩
  have R : Hid (BigIs w1 w.heap.size x ∧ w.grownBy w1 none) := ⟨hb, gnew hg⟩
  clear hb hg
  go_wp2
  go_ret
  exact ⟨rfl, R.out.1, R.out.2⟩

theorem big_any (x : Int) (w : World) (h1 : -9223372036854775808 ≤ x) (h2 : x ≤ 9223372036854775807) :
    Calls Try.prog 44 #[.int .i64 x] w fun e w' => e = .returned (.pointer (some ⟨w.heap.size, 0, none⟩)) ∧ BigIs w' w.heap.size x ∧ w.grownBy w' none := by
  go_enter Try.func44, Try.ntmps44
  go_wp2_with fail
  refine (newInt_any x _ h1 h2).mono ?_
  rintro e w1 ⟨rfl, hb, hg⟩
  have R : Hid (BigIs w1 w.heap.size x ∧ w.grownBy w1 none) := ⟨hb, hg⟩
  clear hb hg
  go_wp2
  go_ret
  exact ⟨rfl, R.out.1, R.out.2⟩
end Go.Proofs.Ytijjegkkeigeoaa

namespace Go.Proofs.Ytijjegkkeigeoaa
set_option linter.unusedVariables false
open Go.RowKit Big

/-- How long a number is, in bits. -/
def Bits (n L : Nat) : Prop := (n = 0 ∧ L = 0) ∨ (1 ≤ L ∧ 2 ^ (L - 1) ≤ n ∧ n < 2 ^ L)

theorem pow32 (k : Nat) : 4294967296 ^ k = 2 ^ (32 * k) := by
  rw [Nat.pow_mul]

theorem bits_words {l : List Nat} (ho : Ok l) (h0 : 0 < l.length) (k : Nat) (hk : 1 ≤ k) (h1 : 2 ^ (k - 1) ≤ l.getD (l.length - 1) 0) (h2 : l.getD (l.length - 1) 0 < 2 ^ k) : Bits (val l) ((l.length - 1) * 32 + k) := by
  have e := val_take_succ l (l.length - 1) (by omega)
  rw [Nat.sub_add_cancel h0, List.take_length] at e
  have hlt := val_lt (ok_take ho (l.length - 1))
  rw [List.length_take, Nat.min_eq_left (by omega)] at hlt
  right
  refine ⟨by omega, ?_, ?_⟩
  · rw [show (l.length - 1) * 32 + k - 1 = 32 * (l.length - 1) + (k - 1) by omega, Nat.pow_add, ← pow32, e]
    have := Nat.mul_le_mul_left (4294967296 ^ (l.length - 1)) h1
    omega
  · rw [show (l.length - 1) * 32 + k = 32 * (l.length - 1) + k by omega, Nat.pow_add, ← pow32, e]
    have := Nat.mul_le_mul_left (4294967296 ^ (l.length - 1)) (Nat.succ_le_of_lt h2)
    rw [Nat.succ_eq_add_one, Nat.mul_add, Nat.mul_one] at this
    omega

theorem half_step (x k t : Nat) (h : t = x / 2 ^ k) : t / 2 = x / 2 ^ (k + 1) := by rw [h, Nat.div_div_eq_div_mul, Nat.pow_succ]

end Go.Proofs.Ytijjegkkeigeoaa

namespace Go.Proofs.Ytijjegkkeigeoaa
set_option linter.unusedVariables false
open Go.RowKit Big

theorem or_word (x0 x1 : Nat) (h0 : x0 < 4294967296) (h1 : x1 < 4294967296) : bits .or .u64 (x0 : Int) ((x1 * 4294967296 : Nat) : Int) = ((x0 + 4294967296 * x1 : Nat) : Int) := by
  rw [bits_or_u64_nat _ _ (by omega) (by omega)]
  have := Nat.two_pow_add_eq_or_of_lt (i := 32) (b := x0) (by omega) x1
  rw [Nat.or_comm, Nat.mul_comm x1 4294967296, Nat.add_comm]
  exact congrArg _ this.symm

end Go.Proofs.Ytijjegkkeigeoaa
