/-
  Bytes behind bytes; slices.Clone; a head's bytes.
-/
import Derived.Test.YtidccclfngcpgaaSt1
import Derived.Laws.AppendOwnNone
import Derived.Lib.SliceRun
import Derived.Lib.SlBytesConst
namespace Go.Proofs.Ytidccclfngcpgaa
set_option linter.unusedVariables false
set_option linter.unusedSimpArgs false
set_option maxRecDepth 100000
open Go.RowKit Go.Lib

theorem ByRow.own {W : World} {n : Nat} {v : Value} {l : List UInt8} (h : ByRow W n v l) : ∀ j, v.ownBlock = some j → n ≤ j := by
  intro j hj
  rcases h.2 with ⟨h1, _⟩ | ⟨g1, c1, cur, h1, hg1, _⟩
  · rw [h1] at hj; cases hj
  · rw [h1] at hj; cases hj; exact hg1
theorem grown_below {w w' : World} {base : Nat} {v : Value} (hg : w.grownBy w' v.ownBlock) (hb : base ≤ w.heap.size) (ho : ∀ j, v.ownBlock = some j → base ≤ j) : Below base w w' := (Below.refl base w).grown hg hb ho
/-- 'append(v, x...)', v a row of one's own. -/
theorem run_appB (w : World) (ty : TypeId) (base : Nat) (v : Value) (l : List UInt8) (a : Option Addr) (m : List UInt8) (cap : Nat) (hr : ByRow w base v l) (hm : IsBy w a m cap) (hc : cap = 0 ∨ a ≠ none) (hb : base ≤ w.heap.size) (hlen : l.length + m.length ≤ 1000000) :
    ∃ v' w', (Builtin.append_ #[33, 33] ty #[v, .slice a m.length cap]).run Try.prog w = .ok v' w' ∧ ByRow w' base v' (l ++ m) ∧ Below base w w' ∧ ∀ b, b < w.heap.size → v.ownBlock ≠ some b → w'.heap[b]? = w.heap[b]? := by
  obtain ⟨qi, hqi, hqz⟩ := u8_tinfo
  cases a with
  | none =>
    have hm0 : m = [] := by
      rcases hm.lies with h | ⟨b, off, e, _⟩
      · exact h
      · cases e
    subst hm0
    have hc0 : cap = 0 := by rcases hc with h | h; exact h; exact absurd rfl h
    subst hc0
    refine ⟨v, w, run_append_owned_none (P := Try.prog) (w := w) base 33 ty 5 qi 1 Try.underlying33 hqi v _ _ hr, by simpa using hr, Below.refl _ _, fun _ _ _ => rfl⟩
  | some ad =>
    obtain ⟨v', w', h1, h2, h3, _, _⟩ := run_append_own_at (P := Try.prog) w base 33 ty 5 qi (.int .u8 0) 1 1 Try.underlying33 hqi hqz.1 hqz.2.1 hqz.2.2 rfl (by omega) v l.length (byC l) hr ad m.length cap (byC m) (by rw [byC_length]; omega) (fun j u hj => by
      have hjl : j < m.length := by
        have := (List.getElem?_eq_some_iff.1 hj).1
        rwa [byC_length] at this
      rcases hm.lies with h | ⟨b, off, e, hlt, hk⟩
      · subst h; simp at hjl
      · cases e
        rw [Addr.add_mid, hk j hjl]
        rw [byC_get m j hjl] at hj
        exact hj) (byC_one m) (by unfold maxLen; omega) (by omega) hb
    refine ⟨v', w', h1, ?_, grown_below h3 hb hr.own, fun b hlt hne => h3.block b hlt (fun e => hne e.symm)⟩
    unfold ByRow
    rw [List.length_append, byC_append]
    exact h2
theorem wpList_appB {w : World} {ops : Array Oper} {rest : List Oper} {o : Oper} {a : Act} {Q : Exit → Act → World → Prop} (hgd : o.guard = none) (d s : Operand) (ho : o.op = .call { callee := .builtin .append, args := #[d, s], argTypes := #[33, 33] })
    (base : Nat) (v : Value) (l : List UInt8) (ad : Option Addr) (m : List UInt8) (k cap : Nat) (hd : a.eval d = v) (hs : a.eval s = .slice ad k cap) (hk : m.length = k) (hr : ByRow w base v l) (hm : IsBy w ad m cap) (hc : cap = 0 ∨ ad ≠ none) (hb : base ≤ w.heap.size) (hlen : l.length + m.length ≤ 1000000)
    (h : ∀ v' w', ByRow w' base v' (l ++ m) → Below base w w' → (∀ b, b < w.heap.size → v.ownBlock ≠ some b → w'.heap[b]? = w.heap[b]?) → wpList Try.prog ops Q rest (a.put o.dst v') w') : wpList Try.prog ops Q (o :: rest) a w := by
  subst hk
  obtain ⟨v', w', h1, h2, h3, h4⟩ := run_appB w o.type base v l ad m cap hr hm hc hb hlen
  exact wpList_append_run hgd d s 33 33 ho v _ hd hs h1 (h v' w' h2 h3 h4)
/-- A literal of bytes. -/
theorem byRow_new (W : World) (l : List UInt8) (base : Nat) (hb : base ≤ W.heap.size) (hl : l.length ≤ 1000000) : ByRow (W.alloc (.cells (byC l).toArray 5)) base (.slice (some ⟨W.heap.size, 0, none⟩) l.length l.length) l := by
  refine ⟨by rw [byC_length]; omega, .inr ⟨W.heap.size, l.length, (byC l).toArray, rfl, hb, new_heap W _, Nat.le_refl _, by unfold maxLen; omega, by simp [byC_length], ?_⟩⟩
  rw [List.toList_toArray, Nat.mul_one, ← byC_length l, List.take_length]
theorem isBy_new (W : World) (l : List UInt8) : IsBy (W.alloc (.cells (byC l).toArray 5)) (some ⟨W.heap.size, 0, none⟩) l l.length := by
  refine ⟨Nat.le_refl _, .inr ⟨W.heap.size, 0, rfl, by simp, fun k hk => ?_⟩⟩
  rw [Nat.zero_add, cell_of_row _ _ _ _ _ (0, 0) (new_heap W _)]
  simp [byC, hk]

set_option maxHeartbeats 2000000 in
theorem clone_any (a : Option Addr) (l : List UInt8) (cap : Nat) (w : World) (h : IsBy w a l cap) (hc : cap = 0 ∨ a ≠ none) (hl : l.length ≤ 1000) :
    Calls Try.prog 19 #[.slice a l.length cap] w fun e w' => ∃ v, e = .returned v ∧ Hid (OwnBy w' v l) ∧ Hid (Below w.heap.size w w') := by
  have q35 : ∀ (w : World) (a : Option Addr) (n c n' c' : Nat), (binOp .eql 33 (.slice a n c) (.slice none n' c')).run Try.prog w = .ok (.bool a.isNone) w := fun w a n c n' c' => Lib.run_eql_slice_nil w _ _ a n c n' c' Try.underlying33
  cases a with
  | none =>
    have hl0 : l = [] := by
      rcases h.lies with h | ⟨b, off, e, _⟩
      · exact h
      · cases e
    subst hl0
    have hc0 : cap = 0 := by rcases hc with h | h; exact h; exact absurd rfl h
    subst hc0
    clear h hc
    go_enter Try.func19, Try.ntmps19
    go_wp2
    go_ret
    exact ⟨_, rfl, ⟨none, 0, rfl, Nat.le_refl _, fun _ => rfl, .inl rfl⟩, Below.refl _ _⟩
  | some ad =>
    have HB : Hid (IsBy w (some ad) l cap) := h
    have l0 : (0 : Int) ≤ l.length := by omega
    clear h hc
    go_enter Try.func19, Try.ntmps19
    go_wp2_with (at_builtin; refine wpList_appB rfl (.tmp 5) (.tmp 6) rfl w.heap.size (.slice (some ⟨w.heap.size, 0, none⟩) 0 0) [] (some ad) l l.length cap rfl rfl rfl (byRow_new w [] w.heap.size (Nat.le_refl _) (by simp)) (HB.out.below ((Below.refl _ w).alloc (Nat.le_refl _) _)) (.inr (by simp)) (by simp) (by simp; omega) ?_; intro v' w2 hr hb _)
    have HE : Hid (OwnBy w2 v' l ∧ Below w.heap.size w w2) := ⟨OwnBy.of_row (by simpa using hr), ((Below.refl _ w).alloc (Nat.le_refl _) _).trans hb⟩
    clear hr hb
    go_wp2
    go_ret
    exact ⟨_, rfl, HE.out.1, HE.out.2⟩

/-- 'append(s, x)' where s is full: a new row. -/
theorem run_appFull (w : World) (ty : TypeId) (base : Nat) (b : Nat) (l : List UInt8) (g : Nat) (m : List UInt8) (cap : Nat) (hs : ∀ k (h : k < l.length), w.cell? ⟨b, k, none⟩ = some (.int .u8 (l[k]'h).toNat)) (hm : ∀ k (h : k < m.length), w.cell? ⟨g, k, none⟩ = some (.int .u8 (m[k]'h).toNat)) (h0 : 0 < m.length) (hb : base ≤ w.heap.size) (hlen : l.length + m.length ≤ 1000) (hfit : Builtin.nextslicecap (l.length + m.length) l.length * 1 ≤ 281474976710656) :
    ∃ v' w', (Builtin.append_ #[33, 33] ty #[.slice (some ⟨b, 0, none⟩) l.length l.length, .slice (some ⟨g, 0, none⟩) m.length cap]).run Try.prog w = .ok v' w' ∧ ByRow w' base v' (l ++ m) ∧ Below w.heap.size w w' ∧ v'.ownBlock = some w.heap.size := by
  obtain ⟨qi, hqi, hqz⟩ := u8_tinfo
  have h := run_append_grow (P := Try.prog) w 33 ty 5 qi (.int .u8 0) Try.underlying33 hqi hqz.1 ⟨b, 0, none⟩ l.length l.length (byC l) (by rw [byC_length, hqz.2.1]; omega) (fun j v hj => by
      have hjl : j < l.length := by
        have := (List.getElem?_eq_some_iff.1 hj).1
        rwa [byC_length] at this
      rw [Addr.add_mid, Nat.zero_add, hs j hjl]
      rw [byC_get l j hjl] at hj
      exact hj) ⟨g, 0, none⟩ m.length cap (byC m) (by rw [byC_length, hqz.2.1]; omega) (fun j v hj => by
      have hjl : j < m.length := by
        have := (List.getElem?_eq_some_iff.1 hj).1
        rwa [byC_length] at this
      rw [Addr.add_mid, Nat.zero_add, hm j hjl]
      rw [byC_get m j hjl] at hj
      exact hj) (by omega) (by omega) (by rw [hqz.2.2]; exact hfit)
  refine ⟨_, _, h, ?_, (show Below w.heap.size w w.drew from ⟨rfl, rfl, rfl, Nat.le_refl _, fun _ _ => rfl⟩).alloc (Nat.le_refl _) _, rfl⟩
  have hge := grownCap_ge w (l.length + m.length) l.length 5
  have hcm := grownCap_le_maxLen w (l.length + m.length) l.length 5 (by unfold maxLen; omega)
  unfold ByRow
  rw [List.length_append, byC_append]
  refine ⟨by rw [List.length_append, byC_length, byC_length]; omega, .inr ⟨w.heap.size, _, _, rfl, hb, new_heap w.drew _, hge, hcm, ?_, ?_⟩⟩
  · simp only [Array.size_append, List.size_toArray, size_zeroCells, byC_length, Value.cells, Array.size_singleton]
    simp
    omega
  · simp only [Array.toList_append, List.append_assoc]
    rw [← List.append_assoc, Nat.mul_one, ← byC_length l, ← byC_length m, ← List.length_append]
    exact List.take_left
theorem wpList_appFull {w : World} {ops : Array Oper} {rest : List Oper} {o : Oper} {a : Act} {Q : Exit → Act → World → Prop} (hgd : o.guard = none) (d s : Operand) (ho : o.op = .call { callee := .builtin .append, args := #[d, s], argTypes := #[33, 33] })
    (base b : Nat) (l : List UInt8) (g : Nat) (m : List UInt8) (k q cap : Nat) (hd : a.eval d = .slice (some ⟨b, 0, none⟩) q q) (he : a.eval s = .slice (some ⟨g, 0, none⟩) k cap) (hq : l.length = q) (hk : m.length = k) (hs : ∀ k (h : k < l.length), w.cell? ⟨b, k, none⟩ = some (.int .u8 (l[k]'h).toNat)) (hm : ∀ k (h : k < m.length), w.cell? ⟨g, k, none⟩ = some (.int .u8 (m[k]'h).toNat)) (h0 : 0 < m.length) (hb : base ≤ w.heap.size) (hlen : l.length + m.length ≤ 1000) (hfit : Builtin.nextslicecap (l.length + m.length) l.length * 1 ≤ 281474976710656)
    (h : ∀ v' w', ByRow w' base v' (l ++ m) → Below w.heap.size w w' → v'.ownBlock = some w.heap.size → wpList Try.prog ops Q rest (a.put o.dst v') w') : wpList Try.prog ops Q (o :: rest) a w := by
  subst hk
  subst hq
  obtain ⟨v', w', h1, h2, h3, h4⟩ := run_appFull w o.type base b l g m cap hs hm h0 hb hlen hfit
  exact wpList_append_run hgd d s 33 33 ho _ _ hd he h1 (h v' w' h2 h3 h4)

def markB : List UInt8 := [113, 100, 32, 112, 97, 103, 101, 115]
/-- A number's eight bytes, the greatest first. -/
def verB (v : Nat) : List UInt8 := (List.range 8).map fun i => UInt8.ofNat (v / 2 ^ (56 - 8 * i))
theorem verB_length (v : Nat) : (verB v).length = 8 := by simp [verB]
theorem verB_take (v i : Nat) (h : i < 8) : (verB v).take (i + 1) = (verB v).take i ++ [UInt8.ofNat (v / 2 ^ (56 - 8 * i))] := by
  rw [List.take_add_one, List.getElem?_eq_getElem (by rw [verB_length]; exact h)]
  simp [verB]
def hdB (h : Hd) : List UInt8 := ((markB ++ [h.turn]) ++ verB h.ver) ++ h.whr
theorem hdB_length {h : Hd} (k : h.ok) : (hdB h).length = 57 := by simp [hdB, markB, verB_length, k.w]
end Go.Proofs.Ytidccclfngcpgaa
