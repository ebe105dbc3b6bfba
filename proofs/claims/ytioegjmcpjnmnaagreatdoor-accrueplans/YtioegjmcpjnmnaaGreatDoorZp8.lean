/-
  The contracts of dayref1.Amount, Few, Ref: they say what the program's own say.
-/
import Derived.Test.YtioegjmcpjnmnaaGreatDoorZp7
import Derived.Laws.Tables
import Derived.OrdersHeld
import Derived.RegionTactic
import Derived.Deep.MidRow
import Derived.Great.BuildSlice
import Derived.Test.YtioegjmcpjnmnaaGreatDoorZp4
import Derived.Test.YtioegjmcpjnmnaaGreatDoorShelf
import Derived.Lib.ItoaLen
import Derived.Lib.ItoaMem
import Derived.Lib.AppendIntMem
import Derived.Test.YtioegjmcpjnmnaaGreatDoorZp6
namespace Go.Proofs.YtioegjmcpjnmnaaGreatDoor
open Go
set_option linter.unusedVariables false

section
variable {P : Program} {ops : Array Oper} {Q : Exit → Act → World → Prop} {md : Region.Mode} {T : World → Prop} {g : Nat}

theorem L_firstP {i : Nat} {oi : Oper} {v : Value} (hi : ops[i]? = some oi) (hgi : g ≠ i)
    (hsel : ∀ (j : Nat) (o : Oper) cs b, ops[j]? = some o → o.op ≠ .select cs b) (hQ : ∀ c a w, Q (.panic c) (a.put oi.dst v) w → Q (.panic c) a w) :
    ∀ (fuel : Nat) (listed : Array Bool) (a : Act) (w : World),
      (∀ j oj, ops[j]? = some oj → j ≠ i → listed.getD j true = false → (∀ e ∈ oj.after, Region.binds md e = true → e.on ≠ i) → oi.apart ops oj = true) →
      i ∈ Region.ready md ops listed → YieldsIf P ops (fun _ => True) oi v a → (listed.getD g true = false → T w) →
      wpAnyL P md ops Q g T fuel (listed.setIfInBounds i true) (a.put oi.dst v) w → wpAnyL P md ops Q g T (fuel + 1) listed a w := by
  have hset : ∀ listed : Array Bool, (listed.setIfInBounds i true).getD g true = listed.getD g true := fun listed => getD_set_ne true (Ne.symm hgi)
  intro fuel
  induction fuel with
  | zero =>
    intro listed a w _ hr hy hT H
    refine ⟨fun h => (by rw [h] at hr; cases hr), fun j hj => ?_⟩
    by_cases hji : j = i
    · subst hji; exact hy.wpOp hi trivial ⟨fun h => hT (by rw [← hset]; exact h), H⟩
    · have := ready_mono hj hji
      rw [H.1] at this
      cases this
  | succ fuel ih =>
    intro listed a w hfree hr hy hT H
    refine ⟨fun h => (by rw [h] at hr; cases hr), fun j hj => ?_⟩
    by_cases hji : j = i
    · subst hji; exact hy.wpOp hi trivial ⟨fun h => hT (by rw [← hset]; exact h), H⟩
    · have h1 := H.2 j (ready_mono hj hji)
      obtain ⟨hjun, oj, hoj, hall⟩ := mem_ready.1 hj
      have hnot : ∀ e ∈ oj.after, Region.binds md e = true → e.on ≠ i := fun e he hb heq => by
        have h1 := hall e he hb
        have h0 := (mem_ready.1 hr).1
        rw [heq] at h1
        rcases Nat.lt_or_ge i listed.size with h' | h'
        · simp [h'] at h0 h1; rw [h0] at h1; cases h1
        · simp [Array.getElem?_eq_none h'] at h1
      have h2 := wpOp_putIf hoj (hfree j oj hoj hji hjun hnot) (fun cs b => hsel i oi cs b hi) (fun cs b => hsel j oj cs b hoj) hQ hy h1
      have hfree' : ∀ k ok, ops[k]? = some ok → k ≠ i → (listed.setIfInBounds j true).getD k true = false →
          (∀ e ∈ ok.after, Region.binds md e = true → e.on ≠ i) → oi.apart ops ok = true := fun k ok hk hki hun hno => by
        refine hfree k ok hk hki ?_ hno
        by_cases hjk : j = k
        · subst hjk; exact hjun
        · rw [getD_set_ne true hjk] at hun; exact hun
      refine wpOp_mono (fun a' w' h3 => ?_) h2
      have hT' : (listed.setIfInBounds j true).getD g true = false → T w' := fun hg => h3.2.1 (by
        rw [Array.setIfInBounds_comm _ _ (Ne.symm hji), hset]
        exact hg)
      refine ⟨hT', ih (listed.setIfInBounds j true) a' w' hfree' (ready_mono hr (Ne.symm hji)) h3.1 hT' ?_⟩
      rw [Array.setIfInBounds_comm _ _ hji]
      exact h3.2.2

/-- The move of a walk. -/
theorem L_takeP {i : Nat} {oi : Oper} {v : Value} {fuel : Nat} {listed : Array Bool} {a : Act} {w : World} (hi : ops[i]? = some oi) (hgi : g ≠ i)
    (hs : Region.noSelect ops = true) (hf : Region.free md ops listed i = true) (hr : (Region.ready md ops listed).contains i = true)
    (hQ : ∀ c a w, Q (.panic c) (a.put oi.dst v) w → Q (.panic c) a w) (hy : YieldsIf P ops (fun _ => True) oi v a) (hT : T w)
    (h : wpAnyL P md ops Q g T fuel (listed.setIfInBounds i true) (a.put oi.dst v) w) : wpAnyL P md ops Q g T (fuel + 1) listed a w :=
  L_firstP hi hgi (Region.noSelect_spec hs) hQ fuel listed a w (Region.free_spec hi hf) (by simpa using hr) hy (fun _ => hT) h
end
end Go.Proofs.YtioegjmcpjnmnaaGreatDoor

namespace Go.Proofs.YtioegjmcpjnmnaaGreatDoor
open Go
set_option linter.unusedVariables false

section
variable {P : Program} {ops : Array Oper} {rest : List Oper} {o : Oper} {a : Act} {w w' : World} {K : Act → World → Prop} {Q : Exit → Act → World → Prop} {v : Value}

theorem wp_build_run (t : TypeId) (parts : Array (Nat × Operand)) (ho : o.op = .build t parts) (ps : Array (Nat × Value)) (hp : (parts.map fun (i, x) => (i, a.eval x)) = ps) (hr : (Instr.build t ps).run P w = .ok v w') (h : K (a.put o.dst v) w') : o.wp P a w K Q := by
  unfold Oper.wp execOp
  simp only [ho, Sem.run_bind, Sem.run_pure, Result.andThen_ok, hp, hr]
  exact h
theorem wp_buildSlice_run (t : TypeId) (m : Nat) (parts : Array (Nat × Operand)) (ho : o.op = .buildSlice t m parts) (ps : Array (Nat × Value)) (hp : (parts.map fun (i, x) => (i, a.eval x)) = ps) (hr : (Instr.buildSlice t m ps).run P w = .ok v w') (h : K (a.put o.dst v) w') : o.wp P a w K Q := by
  unfold Oper.wp execOp
  simp only [ho, Sem.run_bind, Sem.run_pure, Result.andThen_ok, hp, hr]
  exact h
theorem wp_alloc_run (t : TypeId) (ho : o.op = .alloc t) (hr : (Instr.alloc t true (.tuple #[])).run P w = .ok v w') (h : K (a.put o.dst v) w') : o.wp P a w K Q := by
  unfold Oper.wp execOp
  simp only [ho, Sem.run_bind, Sem.run_pure, Result.andThen_ok, hr]
  exact h
theorem wp_load_run (t : TypeId) (x : Operand) (ho : o.op = .load t x) (u : Value) (hx : a.eval x = u) (hr : (Instr.loadAt t u).run P w = .ok v w') (h : K (a.put o.dst v) w') : o.wp P a w K Q := by
  unfold Oper.wp execOp
  simp only [ho, Sem.run_bind, Sem.run_pure, Result.andThen_ok, hx, hr]
  exact h
theorem wp_store_run (t : TypeId) (x y : Operand) (ho : o.op = .store t x y) (u z : Value) (hx : a.eval x = u) (hy : a.eval y = z) (hr : (Instr.storeAt t u z).run P w = .ok () w') (h : K (a.put o.dst undef) w') : o.wp P a w K Q := by
  unfold Oper.wp execOp
  simp only [ho, Sem.run_bind, Sem.run_pure, Result.andThen_ok, hx, hy, hr]
  exact h
theorem wp_copy_run (d s : Operand) (t t' : TypeId) (ho : o.op = .call { callee := .builtin .copy, args := #[d, s], argTypes := #[t, t'] }) (u z : Value) (hd : a.eval d = u) (hs : a.eval s = z)
    (hr : (Builtin.copy_ #[t, t'] o.type #[u, z]).run P w = .ok v w') (h : K (a.put o.dst v) w') : o.wp P a w K Q := by
  unfold Oper.wp execOp
  simp only [ho, resolve, invoke, builtin, Sem.run_bind, Sem.run_pure, Result.andThen_ok, List.map_toArray, List.map_cons, List.map_nil, hd, hs, hr]
  exact h
theorem wp_append_run (d s : Operand) (t t' : TypeId) (ho : o.op = .call { callee := .builtin .append, args := #[d, s], argTypes := #[t, t'] }) (u z : Value) (hd : a.eval d = u) (hs : a.eval s = z)
    (hr : (Builtin.append_ #[t, t'] o.type #[u, z]).run P w = .ok v w') (h : K (a.put o.dst v) w') : o.wp P a w K Q := by
  unfold Oper.wp execOp
  simp only [ho, resolve, invoke, builtin, Sem.run_bind, Sem.run_pure, Result.andThen_ok, List.map_toArray, List.map_cons, List.map_nil, hd, hs, hr]
  exact h

theorem wpList_build_run (hgd : o.guard = none) (t : TypeId) (parts : Array (Nat × Operand)) (ho : o.op = .build t parts) (ps : Array (Nat × Value)) (hp : (parts.map fun (i, x) => (i, a.eval x)) = ps) (hr : (Instr.build t ps).run P w = .ok v w') (h : wpList P ops Q rest (a.put o.dst v) w') : wpList P ops Q (o :: rest) a w :=
  wpList_plain hgd fun _ hK => wp_build_run t parts ho ps hp hr (hK _ _ h)
theorem wpList_buildSlice_run (hgd : o.guard = none) (t : TypeId) (m : Nat) (parts : Array (Nat × Operand)) (ho : o.op = .buildSlice t m parts) (ps : Array (Nat × Value)) (hp : (parts.map fun (i, x) => (i, a.eval x)) = ps) (hr : (Instr.buildSlice t m ps).run P w = .ok v w') (h : wpList P ops Q rest (a.put o.dst v) w') : wpList P ops Q (o :: rest) a w :=
  wpList_plain hgd fun _ hK => wp_buildSlice_run t m parts ho ps hp hr (hK _ _ h)
theorem wpList_alloc_run (hgd : o.guard = none) (t : TypeId) (ho : o.op = .alloc t) (hr : (Instr.alloc t true (.tuple #[])).run P w = .ok v w') (h : wpList P ops Q rest (a.put o.dst v) w') : wpList P ops Q (o :: rest) a w :=
  wpList_plain hgd fun _ hK => wp_alloc_run t ho hr (hK _ _ h)
theorem wpList_load_run (hgd : o.guard = none) (t : TypeId) (x : Operand) (ho : o.op = .load t x) (u : Value) (hx : a.eval x = u) (hr : (Instr.loadAt t u).run P w = .ok v w') (h : wpList P ops Q rest (a.put o.dst v) w') : wpList P ops Q (o :: rest) a w :=
  wpList_plain hgd fun _ hK => wp_load_run t x ho u hx hr (hK _ _ h)
theorem wpList_store_run (hgd : o.guard = none) (t : TypeId) (x y : Operand) (ho : o.op = .store t x y) (u z : Value) (hx : a.eval x = u) (hy : a.eval y = z) (hr : (Instr.storeAt t u z).run P w = .ok () w') (h : wpList P ops Q rest (a.put o.dst undef) w') : wpList P ops Q (o :: rest) a w :=
  wpList_plain hgd fun _ hK => wp_store_run t x y ho u z hx hy hr (hK _ _ h)
theorem wpList_copy_run (hgd : o.guard = none) (d s : Operand) (t t' : TypeId) (ho : o.op = .call { callee := .builtin .copy, args := #[d, s], argTypes := #[t, t'] }) (u z : Value) (hd : a.eval d = u) (hs : a.eval s = z)
    (hr : (Builtin.copy_ #[t, t'] o.type #[u, z]).run P w = .ok v w') (h : wpList P ops Q rest (a.put o.dst v) w') : wpList P ops Q (o :: rest) a w :=
  wpList_plain hgd fun _ hK => wp_copy_run d s t t' ho u z hd hs hr (hK _ _ h)
theorem wpList_append_run (hgd : o.guard = none) (d s : Operand) (t t' : TypeId) (ho : o.op = .call { callee := .builtin .append, args := #[d, s], argTypes := #[t, t'] }) (u z : Value) (hd : a.eval d = u) (hs : a.eval s = z)
    (hr : (Builtin.append_ #[t, t'] o.type #[u, z]).run P w = .ok v w') (h : wpList P ops Q rest (a.put o.dst v) w') : wpList P ops Q (o :: rest) a w :=
  wpList_plain hgd fun _ hK => wp_append_run d s t t' ho u z hd hs hr (hK _ _ h)

theorem wp_region_drawn {id : Nat} (hm : P.follows .mixedOrders = true) (h : wpAny P .any ops Q ops.size (Array.replicate ops.size false) a w.drew) : (Code.region id ops true).wp P Q a w := wp_region_any hm h

theorem fold_sets : ∀ (vs : List Value) (k : Nat) (cs : Array Value), k + vs.length = cs.size → (vs.zipIdx k).foldl (fun (c : Array Value) (x : Value × Nat) => c.setIfInBounds (0 + x.2) x.1) cs = (cs.toList.take k ++ vs).toArray
  | [], k, cs, h => by
    simp only [List.zipIdx_nil, List.foldl_nil, List.append_nil]
    rw [List.take_of_length_le (by simp at h ⊢; omega)]
  | v :: vs, k, cs, h => by
    simp only [List.zipIdx_cons, List.foldl_cons]
    rw [fold_sets vs (k + 1) _ (by simp at h ⊢; omega)]
    congr 1
    have hk : k < cs.toList.length := by simp at h ⊢; omega
    simp only [Nat.zero_add, Array.toList_setIfInBounds]
    rw [List.take_add_one, List.getElem?_set_self hk, List.take_set_of_le (Nat.le_refl _)]
    simp

/-- A slice of one part, which is all of it. -/
theorem buildSlice_one (t e : TypeId) (i : TypeInfo) (z : Value) (ht : P.underlying t = some (.slice e)) (hi : P.info? e = some i) (hz : i.zero = some z) (cs : Array Value) (hs : cs.size = i.size) (h0 : 0 < i.size) (h1 : i.size ≤ 16777216) (w : World) :
    (Instr.buildSlice t 1 #[(0, .agg cs)]).run P w = .ok (.slice (some ⟨w.heap.size, 0, none⟩) 1 1) (w.alloc (.cells cs e)) := by
  refine run_buildSlice w t e 1 _ cs i z ht hi hz (by omega) (by omega) ?_
  have hsz : ∀ f : Nat → Value, ((Array.range (1 * i.size)).map f).size = i.size := fun f => by simp
  simp only [Instr.fill, Value.cells, Nat.zero_mul]
  rw [if_neg (by simp [hs])]
  rw [← Array.foldl_toList, Array.toList_zipIdx]
  have := fold_sets cs.toList 0 ((Array.range (1 * i.size)).map (z.cells[· % z.cells.size]!)) (by rw [hsz]; simp [hs])
  simp only [List.take_zero, List.nil_append, Array.toArray_toList] at this
  exact congrArg some this

/-- A load that is known in every world that meets a condition. -/
theorem yields_load_run {S : World → Prop} (hw : Region.wanted o (yielded ops a.tmps) = true) (t : TypeId) (x : Operand) (ho : o.op = .load t x) (u : Value) (hx : a.eval x = u) (hr : ∀ w, S w → (Instr.loadAt t u).run P w = .ok v w) : YieldsIf P ops S o v a :=
  .inl ⟨hw, fun w hS => by
    unfold execOp
    simp only [ho, Sem.run_bind, Sem.run_pure, Result.andThen_ok, hx, hr w hS]⟩
/-- A struct that is built: known in every world that meets a condition. -/
theorem yields_build_run {S : World → Prop} (hw : Region.wanted o (yielded ops a.tmps) = true) (t : TypeId) (parts : Array (Nat × Operand)) (ho : o.op = .build t parts) (ps : Array (Nat × Value)) (hp : (parts.map fun (i, x) => (i, a.eval x)) = ps) (hr : ∀ w, S w → (Instr.build t ps).run P w = .ok v w) : YieldsIf P ops S o v a :=
  .inl ⟨hw, fun w hS => by
    unfold execOp
    simp only [ho, Sem.run_bind, Sem.run_pure, Result.andThen_ok, hp, hr w hS]⟩
end
end Go.Proofs.YtioegjmcpjnmnaaGreatDoor

namespace Go.Proofs.YtioegjmcpjnmnaaGreatDoor
set_option linter.unusedVariables false
set_option linter.unusedSimpArgs false
set_option maxRecDepth 100000
open Go.RowKit Go.Lib

/-- The table of powers of ten is as it is laid. -/
def TabW (w : World) : Prop := Lib.TabIs Tryz.prog w "internal/strconv.uint64pow10" .u64 Lib.pow10Tab
theorem TabW.below {w w' : World} (h : TabW w) (hb : Below w.heap.size w w') : TabW w' := by
  unfold TabW Lib.TabIs World.var? at *
  cases hg : Tryz.prog.globalNamed "internal/strconv.uint64pow10" with
  | none => simp [hg] at h
  | some g =>
    simp only [hg, Option.bind_some] at h ⊢
    have hlt : g < w.heap.size := by
      rcases Nat.lt_or_ge g w.heap.size with h' | h'
      · exact h'
      · rw [Array.getElem?_eq_none h'] at h; simp at h
    rw [hb.block g hlt]
    exact h
/-- A number's digits. -/
def itS (n : Int) : ByteArray := ⟨(Lib.itoa n).toArray⟩
theorem itS_size (n : Int) (h1 : 1 ≤ n) (h2 : n ≤ 120) : (itS n).size ≤ 21 := by
  have := Lib.itoa_length_le n (by omega) (by omega)
  exact this
theorem plItoa_any (n : Int) (h1 : 1 ≤ n) (h2 : n ≤ 120) (w : World) (ht : TabW w) :
    Calls Tryz.prog 52 #[.int .i64 n] w fun e w' => e = .returned (.string (itS n)) ∧ Below w.heap.size w w' := by
  refine (shelf_strconv_Itoa n (by omega) (by omega) w ht).mono ?_
  rintro e w' ⟨rfl, k, os, rfl⟩
  exact ⟨rfl, Lib.below_grow w.heap.size w (Nat.le_refl _) k os⟩
/-- The ref of a plan's entry. -/
def refP (r : ByteArray) (pe : Int) : ByteArray := r ++ (⟨#[45]⟩ : ByteArray) ++ itS pe
/-- The lines of a plan's part. -/
def plLns (p : Pn) (n : Int) : List Ln := [⟨p.src, p.cur, n⟩, ⟨p.dst, p.cur, -n⟩]
theorem lnRow_two (w : World) (n0 : Nat) (x y : Ln) (hn : n0 ≤ w.heap.size) : LnRow (w.alloc (.cells (x.cells ++ y.cells) 60)) n0 (.slice (some ⟨w.heap.size, 0, none⟩) 2 2) [x, y] := by
  refine ⟨rfl, .inr ⟨w.heap.size, 2, x.cells ++ y.cells, rfl, hn, by unfold World.alloc; simp only [Array.getElem?_push_size], Nat.le_refl _, by unfold maxLen; omega, rfl, ?_⟩⟩
  simp [lnRow, Ln.cells]
theorem pl_build_ln (x0 x1 : ByteArray) (x2 : Int) (w : World) : (Instr.build 60 #[(0, .string x0), (1, .string x1), (2, .int .i64 x2)]).run Tryz.prog w = .ok (.agg #[.string x0, .string x1, .int .i64 x2]) w := by
  go_simp
theorem pl_build_en (x0 : ByteArray) (x1 x2 : Int) (a : Option Addr) (n c : Nat) (w : World) : (Instr.build 58 #[(0, .string x0), (1, .int .i64 x1), (2, .int .i64 x2), (3, .slice a n c)]).run Tryz.prog w = .ok (.agg #[.string x0, .int .i64 x1, .int .i64 x2, .slice a n c]) w := by
  go_simp
set_option maxHeartbeats 8000000 in
theorem accrued_any (p : Pn) (pe n : Int) (w : World) (ht : TabW w) (h1 : 1 ≤ pe) (h2 : pe ≤ 120) (hr : p.ref.size ≤ 8) (hn : -9223372036854775807 ≤ n ∧ n ≤ 9223372036854775807) :
    Calls Tryz.prog 29 #[.agg p.cells, .int .i64 pe, .int .i64 n] w fun e w' => ∃ adr cap, e = .returned (.agg #[.string (refP p.ref pe), .int .i64 p.ent, .int .i64 pe, .slice adr 2 cap]) ∧ LnRow w' w.heap.size (.slice adr 2 cap) (plLns p n) ∧ Below w.heap.size w w' := by
  obtain ⟨B, hB⟩ : ∃ B, w.heap.size = B := ⟨_, rfl⟩
  obtain ⟨V, hV⟩ : ∃ V, ((w.alloc (.cells p.cells 37)).alloc (.cells #[.string (⟨#[]⟩ : ByteArray), .int .i64 0, .int .i64 0, .slice none 0 0] 58)) = V := ⟨_, rfl⟩
  have b0 : Below B w V := by rw [← hV, ← hB]; exact ((Below.refl _ w).alloc (Nat.le_refl _) _).alloc (by simp) _
  have hs : V.heap.size = B + 2 := by rw [← hV, ← hB]; simp
  have hx : PnAt V B 0 p := by
    rw [← hV, ← hB]
    exact (PnAt.new w p _).below ((Below.refl _ _).alloc (Nat.le_refl _) _) (by simp)
  have hz : Box4 V (B + 1) (⟨#[]⟩ : ByteArray) 0 0 (.slice none 0 0) := by
    have := Box4.new (w.alloc (.cells p.cells 37)) (⟨#[]⟩ : ByteArray) 0 0 (.slice none 0 0)
    rw [← hV, ← hB]; simpa using this
  have hd : Below (B + 2) V V.drew := ⟨rfl, rfl, rfl, Nat.le_refl _, fun _ _ => rfl⟩
  have HP : Hid (∀ u, Below (B + 2) V.drew u → PnAt u B 0 p) := fun u hu => (hx.below hd (by omega)).below hu (by omega)
  have HZ : Hid (∀ u, Below (B + 2) V.drew u → Box4 u (B + 1) (⟨#[]⟩ : ByteArray) 0 0 (.slice none 0 0) ∧ Below B w u ∧ B + 2 ≤ u.heap.size) := fun u hu =>
    ⟨(hz.below hd (by omega)).below hu (by omega), b0.drew.trans (hu.mono (by omega)), by have := hu.size; show B + 2 ≤ u.heap.size; have h3 : V.drew.heap.size = B + 2 := hs; omega⟩
  have HIt : Hid (∀ u, Below (B + 2) V.drew u → Calls Tryz.prog 52 #[.int .i64 pe] u fun e w' => e = .returned (.string (itS pe)) ∧ Below (B + 2) V.drew w') := fun u hu => by
    refine (plItoa_any pe h1 h2 u ((ht.below (hB ▸ b0)).below (hs ▸ hd.trans hu))).mono ?_
    rintro e w' ⟨rfl, hb⟩
    exact ⟨rfl, hu.trans (hb.mono (HZ.out u hu).2.2)⟩
  have HIt2 : Hid (∀ u, Below (B + 2) V.drew u → Calls Tryz.prog 52 #[.int .i64 pe] u fun e w' => e = .returned (.string (itS pe)) ∧ Below (B + 2) V.drew w' ∧ Below u.heap.size u w') := fun u hu => by
    refine (plItoa_any pe h1 h2 u ((ht.below (hB ▸ b0)).below (hs ▸ hd.trans hu))).mono ?_
    rintro e w' ⟨rfl, hb⟩
    exact ⟨rfl, hu.trans (hb.mono (HZ.out u hu).2.2), hb⟩
  have hz1 : (itS pe).size ≤ 21 := itS_size pe h1 h2
  have HEnd : Hid (∀ u (a : Nat), Below (B + 2) V.drew u → B + 2 ≤ a → LnRow u (B + 2) (.slice (some ⟨a, 0, none⟩) 2 2) (plLns p n) → LnRow ((((u.setCell ⟨B + 1, 0, none⟩ (.string (refP p.ref pe))).setCell ⟨B + 1, 1, none⟩ (.int .i64 p.ent)).setCell ⟨B + 1, 2, none⟩ (.int .i64 pe)).setCell ⟨B + 1, 3, none⟩ (.slice (some ⟨a, 0, none⟩) 2 2)) B (.slice (some ⟨a, 0, none⟩) 2 2) (plLns p n) ∧ Below B w ((((u.setCell ⟨B + 1, 0, none⟩ (.string (refP p.ref pe))).setCell ⟨B + 1, 1, none⟩ (.int .i64 p.ent)).setCell ⟨B + 1, 2, none⟩ (.int .i64 pe)).setCell ⟨B + 1, 3, none⟩ (.slice (some ⟨a, 0, none⟩) 2 2))) := fun u a hu ha hl => by
    have hlt : B + 1 < B + 2 := by omega
    refine ⟨LnRow.mono (LnRow.setOther (b := B + 1) (o := 3) (LnRow.setOther (b := B + 1) (o := 2) (LnRow.setOther (b := B + 1) (o := 1) (LnRow.setOther (b := B + 1) (o := 0) hl hlt) hlt) hlt) hlt) (by omega), ?_⟩
    exact ((((HZ.out u hu).2.1.setCell (p := ⟨B + 1, 0, none⟩) (by simp) _).setCell (p := ⟨B + 1, 1, none⟩) (by simp) _).setCell (p := ⟨B + 1, 2, none⟩) (by simp) _).setCell (p := ⟨B + 1, 3, none⟩) (by simp) _
  have HsU : Hid (V.drew.heap.size = B + 2) := hs
  have wn : IntKind.i64.wrap (-n) = -n := pn_wrap (by omega) (by omega)
  have HLn : Hid (plLns p n = [⟨p.src, p.cur, n⟩, ⟨p.dst, p.cur, -n⟩]) := rfl
  have HRf : Hid (refP p.ref pe = p.ref ++ (⟨#[45]⟩ : ByteArray) ++ itS pe) := rfl
  have HV : Hid (_ = V) := hV
  clear hV b0 hx hz ht hn hs hd
  rw [hB]
  obtain ⟨ref, en, fr, tw, cu, am, fs, pr⟩ := p
  simp only [Pn.cells] at HV HP HEnd HLn HRf hr ⊢
  have s1 : ¬ 9223372036854775807 < ref.size + 1 := by omega
  have s2 : ¬ 9223372036854775807 < (ref ++ (⟨#[45]⟩ : ByteArray)).size + (itS pe).size := by
    have : (ref ++ (⟨#[45]⟩ : ByteArray)).size = ref.size + 1 := by rw [ByteArray.size_append]; rfl
    omega
  generalize itS pe = ds at *
  generalize plLns ⟨ref, en, fr, tw, cu, am, fs, pr⟩ n = LN at *
  have HRf2 : Hid (refP ref pe = ref ++ (⟨#[45]⟩ : ByteArray) ++ ds) := HRf.out
  generalize refP ref pe = RF at *
  clear HRf
  go_enter Tryz.func29, Tryz.ntmps29
  go_upto_region 1 with fail
  rw [HV.out]
  clear HV
  refine wp_region_drawn (by kernel_rfl) ?_
  generalize V.drew = U at *
  refine wpAny_take (i := 0) (v := .pointer (some ⟨B, 0, none⟩)) rfl (by kernel_rfl) (by kernel_rfl) (by kernel_rfl) (fun _ _ _ h => h) (Or.inl ⟨by rfl, fun w => by go_simp⟩) ?_
  simp only [Act.put, List.getElem_toArray, List.getElem_cons_succ, List.getElem_cons_zero, List.setIfInBounds_toArray, List.set_cons_zero, List.set_cons_succ]
  refine wpAny_take (i := 3) (v := .int .i64 pe) rfl (by kernel_rfl) (by kernel_rfl) (by kernel_rfl) (fun _ _ _ h => h) (Or.inl ⟨by rfl, fun w => by go_simp⟩) ?_
  simp only [Act.put, List.getElem_toArray, List.getElem_cons_succ, List.getElem_cons_zero, List.setIfInBounds_toArray, List.set_cons_zero, List.set_cons_succ]
  refine wpAny_take (i := 6) (v := .pointer (some ⟨B, 1, none⟩)) rfl (by kernel_rfl) (by kernel_rfl) (by kernel_rfl) (fun _ _ _ h => h) (Or.inl ⟨by rfl, fun w => by go_simp⟩) ?_
  simp only [Act.put, List.getElem_toArray, List.getElem_cons_succ, List.getElem_cons_zero, List.setIfInBounds_toArray, List.set_cons_zero, List.set_cons_succ]
  refine wpAny_take (i := 8) (v := .int .i64 pe) rfl (by kernel_rfl) (by kernel_rfl) (by kernel_rfl) (fun _ _ _ h => h) (Or.inl ⟨by rfl, fun w => by go_simp⟩) ?_
  simp only [Act.put, List.getElem_toArray, List.getElem_cons_succ, List.getElem_cons_zero, List.setIfInBounds_toArray, List.set_cons_zero, List.set_cons_succ]
  refine wpAny_take (i := 9) (v := .pointer (some ⟨B, 2, none⟩)) rfl (by kernel_rfl) (by kernel_rfl) (by kernel_rfl) (fun _ _ _ h => h) (Or.inl ⟨by rfl, fun w => by go_simp⟩) ?_
  simp only [Act.put, List.getElem_toArray, List.getElem_cons_succ, List.getElem_cons_zero, List.setIfInBounds_toArray, List.set_cons_zero, List.set_cons_succ]
  refine wpAny_take (i := 11) (v := .pointer (some ⟨B, 4, none⟩)) rfl (by kernel_rfl) (by kernel_rfl) (by kernel_rfl) (fun _ _ _ h => h) (Or.inl ⟨by rfl, fun w => by go_simp⟩) ?_
  simp only [Act.put, List.getElem_toArray, List.getElem_cons_succ, List.getElem_cons_zero, List.setIfInBounds_toArray, List.set_cons_zero, List.set_cons_succ]
  refine wpAny_take (i := 13) (v := .int .i64 n) rfl (by kernel_rfl) (by kernel_rfl) (by kernel_rfl) (fun _ _ _ h => h) (Or.inl ⟨by rfl, fun w => by go_simp⟩) ?_
  simp only [Act.put, List.getElem_toArray, List.getElem_cons_succ, List.getElem_cons_zero, List.setIfInBounds_toArray, List.set_cons_zero, List.set_cons_succ]
  refine wpAny_take (i := 15) (v := .pointer (some ⟨B, 3, none⟩)) rfl (by kernel_rfl) (by kernel_rfl) (by kernel_rfl) (fun _ _ _ h => h) (Or.inl ⟨by rfl, fun w => by go_simp⟩) ?_
  simp only [Act.put, List.getElem_toArray, List.getElem_cons_succ, List.getElem_cons_zero, List.setIfInBounds_toArray, List.set_cons_zero, List.set_cons_succ]
  refine wpAny_take (i := 17) (v := .pointer (some ⟨B, 4, none⟩)) rfl (by kernel_rfl) (by kernel_rfl) (by kernel_rfl) (fun _ _ _ h => h) (Or.inl ⟨by rfl, fun w => by go_simp⟩) ?_
  simp only [Act.put, List.getElem_toArray, List.getElem_cons_succ, List.getElem_cons_zero, List.setIfInBounds_toArray, List.set_cons_zero, List.set_cons_succ]
  refine wpAny_take (i := 19) (v := .int .i64 n) rfl (by kernel_rfl) (by kernel_rfl) (by kernel_rfl) (fun _ _ _ h => h) (Or.inl ⟨by rfl, fun w => by go_simp⟩) ?_
  simp only [Act.put, List.getElem_toArray, List.getElem_cons_succ, List.getElem_cons_zero, List.setIfInBounds_toArray, List.set_cons_zero, List.set_cons_succ]
  refine wpAny_take (i := 20) (v := .int .i64 (-n)) rfl (by kernel_rfl) (by kernel_rfl) (by kernel_rfl) (fun _ _ _ h => h) (Or.inl ⟨by rfl, fun w => by go_simp⟩) ?_
  simp only [Act.put, List.getElem_toArray, List.getElem_cons_succ, List.getElem_cons_zero, List.setIfInBounds_toArray, List.set_cons_zero, List.set_cons_succ]
  refine any_of_L (g := 24) (T := fun u => Below (B + 2) U u) _ _ _ _ ?_
  refine L_takeC [24, 23, 5, 2] (i := 1) (v := .string ref) rfl (by kernel_rfl) (by kernel_rfl) (by decide) (by kernel_rfl) (by kernel_rfl) (by kernel_rfl) (by kernel_rfl) (fun _ _ _ h => h) (Or.inl ⟨by rfl, fun w' hw' => by have c0 : w'.cell? ⟨B, 0, none⟩ = some (.string ref) := (by have := (HP.out w' hw').c0; simpa using this); clear hw'; go_simp⟩) (Below.refl _ _) ?_
  simp only [Act.put, List.getElem_toArray, List.getElem_cons_succ, List.getElem_cons_zero, List.setIfInBounds_toArray, List.set_cons_zero, List.set_cons_succ]
  refine L_takeC [24, 23] (i := 7) (v := .int .i64 en) rfl (by kernel_rfl) (by kernel_rfl) (by decide) (by kernel_rfl) (by kernel_rfl) (by kernel_rfl) (by kernel_rfl) (fun _ _ _ h => h) (Or.inl ⟨by rfl, fun w' hw' => by have c0 : w'.cell? ⟨B, 1, none⟩ = some (.int .i64 en) := (by have := (HP.out w' hw').c1; simpa using this); clear hw'; go_simp⟩) (Below.refl _ _) ?_
  simp only [Act.put, List.getElem_toArray, List.getElem_cons_succ, List.getElem_cons_zero, List.setIfInBounds_toArray, List.set_cons_zero, List.set_cons_succ]
  refine L_takeC [24, 23, 22, 14] (i := 10) (v := .string fr) rfl (by kernel_rfl) (by kernel_rfl) (by decide) (by kernel_rfl) (by kernel_rfl) (by kernel_rfl) (by kernel_rfl) (fun _ _ _ h => h) (Or.inl ⟨by rfl, fun w' hw' => by have c0 : w'.cell? ⟨B, 2, none⟩ = some (.string fr) := (by have := (HP.out w' hw').c2; simpa using this); clear hw'; go_simp⟩) (Below.refl _ _) ?_
  simp only [Act.put, List.getElem_toArray, List.getElem_cons_succ, List.getElem_cons_zero, List.setIfInBounds_toArray, List.set_cons_zero, List.set_cons_succ]
  refine L_takeC [24, 23, 22, 14] (i := 12) (v := .string cu) rfl (by kernel_rfl) (by kernel_rfl) (by decide) (by kernel_rfl) (by kernel_rfl) (by kernel_rfl) (by kernel_rfl) (fun _ _ _ h => h) (Or.inl ⟨by rfl, fun w' hw' => by have c0 : w'.cell? ⟨B, 4, none⟩ = some (.string cu) := (by have := (HP.out w' hw').c4; simpa using this); clear hw'; go_simp⟩) (Below.refl _ _) ?_
  simp only [Act.put, List.getElem_toArray, List.getElem_cons_succ, List.getElem_cons_zero, List.setIfInBounds_toArray, List.set_cons_zero, List.set_cons_succ]
  refine L_takeC [24, 23, 22, 21] (i := 16) (v := .string tw) rfl (by kernel_rfl) (by kernel_rfl) (by decide) (by kernel_rfl) (by kernel_rfl) (by kernel_rfl) (by kernel_rfl) (fun _ _ _ h => h) (Or.inl ⟨by rfl, fun w' hw' => by have c0 : w'.cell? ⟨B, 3, none⟩ = some (.string tw) := (by have := (HP.out w' hw').c3; simpa using this); clear hw'; go_simp⟩) (Below.refl _ _) ?_
  simp only [Act.put, List.getElem_toArray, List.getElem_cons_succ, List.getElem_cons_zero, List.setIfInBounds_toArray, List.set_cons_zero, List.set_cons_succ]
  refine L_takeC [24, 23, 22, 21] (i := 18) (v := .string cu) rfl (by kernel_rfl) (by kernel_rfl) (by decide) (by kernel_rfl) (by kernel_rfl) (by kernel_rfl) (by kernel_rfl) (fun _ _ _ h => h) (Or.inl ⟨by rfl, fun w' hw' => by have c0 : w'.cell? ⟨B, 4, none⟩ = some (.string cu) := (by have := (HP.out w' hw').c4; simpa using this); clear hw'; go_simp⟩) (Below.refl _ _) ?_
  simp only [Act.put, List.getElem_toArray, List.getElem_cons_succ, List.getElem_cons_zero, List.setIfInBounds_toArray, List.set_cons_zero, List.set_cons_succ]
  refine L_takeC [24, 23, 5] (i := 2) (v := .string (ref ++ (⟨#[45]⟩ : ByteArray))) rfl (by kernel_rfl) (by kernel_rfl) (by decide) (by kernel_rfl) (by kernel_rfl) (by kernel_rfl) (by kernel_rfl) (fun _ _ _ h => h) (Or.inl ⟨by rfl, fun w' hw' => by clear hw'; go_simp⟩) (Below.refl _ _) ?_
  simp only [Act.put, List.getElem_toArray, List.getElem_cons_succ, List.getElem_cons_zero, List.setIfInBounds_toArray, List.set_cons_zero, List.set_cons_succ]
  refine L_takeC [24, 23, 22] (i := 14) (v := .agg #[.string fr, .string cu, .int .i64 n]) rfl (by kernel_rfl) (by kernel_rfl) (by decide) (by kernel_rfl) (by kernel_rfl) (by kernel_rfl) (by kernel_rfl) (fun _ _ _ h => h) ?_ (Below.refl _ _) ?_
  · exact yields_build_run (by rfl) 60 _ (by rfl) #[(0, .string fr), (1, .string cu), (2, .int .i64 n)] (by simp [Act.eval]) (fun w' _ => pl_build_ln _ _ _ w')
  simp only [Act.put, List.getElem_toArray, List.getElem_cons_succ, List.getElem_cons_zero, List.setIfInBounds_toArray, List.set_cons_zero, List.set_cons_succ]
  refine L_takeC [24, 23, 22] (i := 21) (v := .agg #[.string tw, .string cu, .int .i64 (-n)]) rfl (by kernel_rfl) (by kernel_rfl) (by decide) (by kernel_rfl) (by kernel_rfl) (by kernel_rfl) (by kernel_rfl) (fun _ _ _ h => h) ?_ (Below.refl _ _) ?_
  · exact yields_build_run (by rfl) 60 _ (by rfl) #[(0, .string tw), (1, .string cu), (2, .int .i64 (-n))] (by simp [Act.eval]) (fun w' _ => pl_build_ln _ _ _ w')
  simp only [Act.put, List.getElem_toArray, List.getElem_cons_succ, List.getElem_cons_zero, List.setIfInBounds_toArray, List.set_cons_zero, List.set_cons_succ]
  refine L_two (i := 4) (j := 22) (by kernel_rfl) ?_ ?_
  · skip
    refine wpOp_step rfl ?_
    intro K hK
    rw [if_pos (by rfl)]
    have hK' : Shut (∀ a w, _ → K a w) := hK
    clear hK
    go_wp2_with fail
    refine (HIt.out _ (Below.refl _ _)).mono ?_
    rintro e w1 ⟨rfl, hb1⟩
    refine hK'.out _ _ ?_
    clear hK' K
    refine ⟨hb1, ?_⟩
    try simp only [Act.put, List.getElem_toArray, List.getElem_cons_succ, List.getElem_cons_zero, List.setIfInBounds_toArray, List.set_cons_zero, List.set_cons_succ]
    refine L_takeC [24, 23] (i := 5) (v := .string RF) rfl (by kernel_rfl) (by kernel_rfl) (by decide) (by kernel_rfl) (by kernel_rfl) (by kernel_rfl) (by kernel_rfl) (fun _ _ _ h => h) (Or.inl ⟨by rfl, fun w' hw' => by clear hw'; rw [HRf2.out]; go_simp; omega⟩) hb1 ?_
    simp only [Act.put, List.getElem_toArray, List.getElem_cons_succ, List.getElem_cons_zero, List.setIfInBounds_toArray, List.set_cons_zero, List.set_cons_succ]
    have hs1 := (HZ.out w1 hb1).2.2
    have hb2 : Below (B + 2) U (w1.alloc (.cells #[.string fr, .string cu, .int .i64 n, .string tw, .string cu, .int .i64 (-n)] 60)) := hb1.alloc hs1 _
    have hl2 : LnRow (w1.alloc (.cells #[.string fr, .string cu, .int .i64 n, .string tw, .string cu, .int .i64 (-n)] 60)) (B + 2) (.slice (some ⟨w1.heap.size, 0, none⟩) 2 2) LN := by rw [HLn.out]; exact lnRow_two w1 (B + 2) ⟨fr, cu, n⟩ ⟨tw, cu, -n⟩ hs1
    obtain ⟨W2, hW2⟩ : ∃ W2, w1.alloc (.cells #[.string fr, .string cu, .int .i64 n, .string tw, .string cu, .int .i64 (-n)] 60) = W2 := ⟨_, rfl⟩
    rw [hW2] at hb2 hl2
    obtain ⟨A2, hA2⟩ : ∃ A2, w1.heap.size = A2 := ⟨_, rfl⟩
    rw [hA2] at hl2 hs1
    have HW2 : Hid (w1.alloc (.cells #[.string fr, .string cu, .int .i64 n, .string tw, .string cu, .int .i64 (-n)] 60) = W2) := hW2
    have HA2 : Hid (w1.heap.size = A2) := hA2
    have HT2 : Hid (Below (B + 2) U W2) := hb2
    have HL2 : Hid (LnRow W2 (B + 2) (.slice (some ⟨A2, 0, none⟩) 2 2) LN) := hl2
    clear hb1 hW2 hA2 hb2 hl2
    refine L_one (i := 22) (by kernel_rfl) ?_
    refine wpOp_step rfl ?_
    intro K hK
    rw [if_pos (by rfl)]
    have hK' : Shut (∀ a w, _ → K a w) := hK
    clear hK
    go_wp2_with fail
    rw [HW2.out, HA2.out]
    clear HW2 HA2
    refine hK'.out _ _ ?_
    clear hK' K
    refine ⟨HT2.out, ?_⟩
    try simp only [Act.put, List.getElem_toArray, List.getElem_cons_succ, List.getElem_cons_zero, List.setIfInBounds_toArray, List.set_cons_zero, List.set_cons_succ]
    refine L_takeC [24] (i := 23) (v := .agg #[.string RF, .int .i64 en, .int .i64 pe, .slice (some ⟨A2, 0, none⟩) 2 2]) rfl (by kernel_rfl) (by kernel_rfl) (by decide) (by kernel_rfl) (by kernel_rfl) (by kernel_rfl) (by kernel_rfl) (fun _ _ _ h => h) ?_ HT2.out ?_
    · exact yields_build_run (by rfl) 58 _ (by rfl) #[(0, .string RF), (1, .int .i64 en), (2, .int .i64 pe), (3, .slice (some ⟨A2, 0, none⟩) 2 2)] (by simp [Act.eval]) (fun w' _ => pl_build_en _ _ _ _ _ _ w')
    simp only [Act.put, List.getElem_toArray, List.getElem_cons_succ, List.getElem_cons_zero, List.setIfInBounds_toArray, List.set_cons_zero, List.set_cons_succ]
    have z := (HZ.out W2 HT2.out).1
    have d0 := z.c0
    have d1 := z.c1
    have d2 := z.c2
    have d3 := z.c3
    have f0 := z.fz 0
    have f1 := z.fz 1
    have f2 := z.fz 2
    have f3 := z.fz 3
    have HE : Hid _ := HEnd.out W2 A2 HT2.out hs1 HL2.out
    clear z HT2 HL2 HEnd HZ HP HIt HIt2 HLn HRf2
    refine L_go (by kernel_rfl) (by kernel_rfl) ?_
    refine wpOp_step rfl ?_
    intro K hK
    rw [if_pos (by rfl)]
    have hK' : Shut (∀ a w, _ → K a w) := hK
    clear hK
    go_wp2_with fail
    refine hK'.out _ _ ?_
    clear hK' K
    refine wpAny_done (by kernel_rfl) ?_ _
    go_wp2
    exact bodyPost_ret (v := .agg #[.string RF, .int .i64 en, .int .i64 pe, .slice (some ⟨A2, 0, none⟩) 2 2]) (by simp [results, Tryz.results29, go_sem, d0, d1, d2, d3]) rfl ⟨_, _, rfl, HE.out.1, HE.out.2⟩
  · have hs1 : U.heap.size = B + 2 := HsU.out
    have hb2 : Below (B + 2) U (U.alloc (.cells #[.string fr, .string cu, .int .i64 n, .string tw, .string cu, .int .i64 (-n)] 60)) := (Below.refl _ _).alloc (by rw [hs1]; exact Nat.le_refl _) _
    have hl2 : LnRow (U.alloc (.cells #[.string fr, .string cu, .int .i64 n, .string tw, .string cu, .int .i64 (-n)] 60)) (B + 2) (.slice (some ⟨U.heap.size, 0, none⟩) 2 2) LN := by rw [HLn.out]; exact lnRow_two U (B + 2) ⟨fr, cu, n⟩ ⟨tw, cu, -n⟩ (by rw [hs1]; exact Nat.le_refl _)
    obtain ⟨W1, hW1⟩ : ∃ W1, U.alloc (.cells #[.string fr, .string cu, .int .i64 n, .string tw, .string cu, .int .i64 (-n)] 60) = W1 := ⟨_, rfl⟩
    rw [hW1] at hb2 hl2
    obtain ⟨A2, hA2⟩ : ∃ A2, U.heap.size = A2 := ⟨_, rfl⟩
    rw [hA2] at hl2 hs1
    have HW1 : Hid (U.alloc (.cells #[.string fr, .string cu, .int .i64 n, .string tw, .string cu, .int .i64 (-n)] 60) = W1) := hW1
    have HA2 : Hid (U.heap.size = A2) := hA2
    have HT1 : Hid (Below (B + 2) U W1) := hb2
    have HL1 : Hid (LnRow W1 (B + 2) (.slice (some ⟨A2, 0, none⟩) 2 2) LN) := hl2
    replace hs1 : B + 2 ≤ A2 := by omega
    clear hW1 hA2 hb2 hl2
    refine wpOp_step rfl ?_
    intro K hK
    rw [if_pos (by rfl)]
    have hK' : Shut (∀ a w, _ → K a w) := hK
    clear hK
    go_wp2_with fail
    rw [HW1.out, HA2.out]
    clear HW1 HA2
    refine hK'.out _ _ ?_
    clear hK' K
    refine ⟨HT1.out, ?_⟩
    try simp only [Act.put, List.getElem_toArray, List.getElem_cons_succ, List.getElem_cons_zero, List.setIfInBounds_toArray, List.set_cons_zero, List.set_cons_succ]
    refine L_one (i := 4) (by kernel_rfl) ?_
    refine wpOp_step rfl ?_
    intro K hK
    rw [if_pos (by rfl)]
    have hK' : Shut (∀ a w, _ → K a w) := hK
    clear hK
    go_wp2_with fail
    refine (HIt2.out _ HT1.out).mono ?_
    rintro e W2 ⟨rfl, hb2, hbw⟩
    have HT2 : Hid (Below (B + 2) U W2) := hb2
    refine hK'.out _ _ ?_
    clear hK' K
    refine ⟨hb2, ?_⟩
    try simp only [Act.put, List.getElem_toArray, List.getElem_cons_succ, List.getElem_cons_zero, List.setIfInBounds_toArray, List.set_cons_zero, List.set_cons_succ]
    refine L_takeC [24, 23] (i := 5) (v := .string RF) rfl (by kernel_rfl) (by kernel_rfl) (by decide) (by kernel_rfl) (by kernel_rfl) (by kernel_rfl) (by kernel_rfl) (fun _ _ _ h => h) (Or.inl ⟨by rfl, fun w' hw' => by clear hw'; rw [HRf2.out]; go_simp; omega⟩) hb2 ?_
    simp only [Act.put, List.getElem_toArray, List.getElem_cons_succ, List.getElem_cons_zero, List.setIfInBounds_toArray, List.set_cons_zero, List.set_cons_succ]
    have hlt1 : B + 2 ≤ W1.heap.size := (HZ.out W1 HT1.out).2.2
    have HL2 : Hid (LnRow W2 (B + 2) (.slice (some ⟨A2, 0, none⟩) 2 2) LN) := HL1.out.below hbw
    clear HL1 HT1 hb2 hlt1 hbw
    refine L_takeC [24] (i := 23) (v := .agg #[.string RF, .int .i64 en, .int .i64 pe, .slice (some ⟨A2, 0, none⟩) 2 2]) rfl (by kernel_rfl) (by kernel_rfl) (by decide) (by kernel_rfl) (by kernel_rfl) (by kernel_rfl) (by kernel_rfl) (fun _ _ _ h => h) ?_ HT2.out ?_
    · exact yields_build_run (by rfl) 58 _ (by rfl) #[(0, .string RF), (1, .int .i64 en), (2, .int .i64 pe), (3, .slice (some ⟨A2, 0, none⟩) 2 2)] (by simp [Act.eval]) (fun w' _ => pl_build_en _ _ _ _ _ _ w')
    simp only [Act.put, List.getElem_toArray, List.getElem_cons_succ, List.getElem_cons_zero, List.setIfInBounds_toArray, List.set_cons_zero, List.set_cons_succ]
    have z := (HZ.out W2 HT2.out).1
    have d0 := z.c0
    have d1 := z.c1
    have d2 := z.c2
    have d3 := z.c3
    have f0 := z.fz 0
    have f1 := z.fz 1
    have f2 := z.fz 2
    have f3 := z.fz 3
    have HE : Hid _ := HEnd.out W2 A2 HT2.out hs1 HL2.out
    clear z HT2 HL2 HEnd HZ HP HIt HIt2 HLn HRf2
    refine L_go (by kernel_rfl) (by kernel_rfl) ?_
    refine wpOp_step rfl ?_
    intro K hK
    rw [if_pos (by rfl)]
    have hK' : Shut (∀ a w, _ → K a w) := hK
    clear hK
    go_wp2_with fail
    refine hK'.out _ _ ?_
    clear hK' K
    refine wpAny_done (by kernel_rfl) ?_ _
    go_wp2
    exact bodyPost_ret (v := .agg #[.string RF, .int .i64 en, .int .i64 pe, .slice (some ⟨A2, 0, none⟩) 2 2]) (by simp [results, Tryz.results29, go_sem, d0, d1, d2, d3]) rfl ⟨_, _, rfl, HE.out.1, HE.out.2⟩
/-- The entry of a plan, if there is one. -/
def plE (en pe : Int) (p : Pn) : List Ep := if p.ent = en ∧ partN p.amt p.fst p.per pe ≠ 0 then [⟨refP p.ref pe, p.ent, pe, plLns p (partN p.amt p.fst p.per pe)⟩] else []
/-- The entries of the first plans. -/
def plTo (en pe : Int) (l : List Pn) (k : Nat) : List Ep := (List.range k).flatMap fun i => plE en pe (l.getD i pn0)
theorem plTo_next (en pe : Int) (l : List Pn) (k : Nat) : plTo en pe l (k + 1) = plTo en pe l k ++ plE en pe (l.getD k pn0) := by
  unfold plTo; rw [List.range_succ, List.flatMap_append]; simp
/-- What is wrong with all that is handed in. -/
def plBad (c : List Ac) (l : List Pn) (en pe : Int) : Int := if pnsBad c l ≠ 0 then pnsBad c l else if (upTo en 12 && upTo pe 120) = false then 1 else 0
/-- What Entries leaves. -/
def PlEnd (c : List Ac) (l : List Pn) (en pe : Int) (w : World) (e : Ending) (w' : World) : Prop :=
  Below w.heap.size w w' ∧ (plBad c l en pe ≠ 0 → e = .returned (.tuple #[.slice none 0 0, chE (plBad c l en pe)])) ∧
    (plBad c l en pe = 0 → ∃ v L, e = .returned (.tuple #[v, .nilIface]) ∧ Made w' w.heap.size v L ∧ L.map Je.ep = plTo en pe l l.length ∧ L.length ≤ 20)
theorem pnBad_ok {c : List Ac} {l : List Pn} {k : Nat} (h : pnBad c l k = 0) : refBad (l.take k) (l.getD k pn0).ref = 0 ∧ upTo (l.getD k pn0).ent 12 = true ∧ spreadB (l.getD k pn0).amt (l.getD k pn0).fst (l.getD k pn0).per = true ∧ accBad c (l.getD k pn0) = 0 ∧ isCur (l.getD k pn0).cur = true := by
  unfold pnBad at h
  split at h
  · contradiction
  · rename_i h1
    split at h
    · omega
    · rename_i h2
      split at h
      · contradiction
      · rename_i h3
        split at h
        · omega
        · rename_i h4
          have h2' : upTo (l.getD k pn0).ent 12 = true ∧ spreadB (l.getD k pn0).amt (l.getD k pn0).fst (l.getD k pn0).per = true := by simpa using h2
          exact ⟨Decidable.of_not_not h1, h2'.1, h2'.2, Decidable.of_not_not h3, by simpa using h4⟩
theorem pnsBad_ok {c : List Ac} {l : List Pn} (h : pnsBad c l = 0) : chBad c = 0 ∧ l.length ≤ 20 ∧ ∀ k, k < l.length → pnBad c l k = 0 := by
  unfold pnsBad at h
  split at h
  · contradiction
  · rename_i h1
    split at h
    · omega
    · exact ⟨Decidable.of_not_not h1, by omega, firstTo_zero h⟩
theorem refBad_ok {l : List Pn} {r : ByteArray} (h : refBad l r = 0) : r.size ≤ 8 := by
  unfold refBad at h
  split at h
  · omega
  · rename_i h1
    have : isPRef r = true := by simpa using h1
    exact (isPRef_iff.1 this).2.1
theorem pn_part_bd {am fs pr pe : Int} (h : spreadB am fs pr = true) (hp : upTo pe 120 = true) : -9223372036854775807 ≤ partN am fs pr pe ∧ partN am fs pr pe ≤ 9223372036854775807 := by
  obtain ⟨_, ha, hq, hf⟩ := spreadB_iff.1 h
  have hp' := upTo_iff.1 hp
  unfold partN
  split
  · omega
  · have m1 := pn_mul ha (k := pe - fs + 1) (by omega) (by omega)
    have m0 := pn_mul ha (k := pe - fs) (by omega) (by omega)
    have q1 := pn_tdiv m1 hq.1
    have q0 := pn_tdiv m0 hq.1
    omega
set_option maxHeartbeats 8000000 in
theorem plEntries_any (a a2 : Option Addr) (cap cap2 : Nat) (c : List Ac) (l : List Pn) (en pe : Int) (w : World) (h : IsSl w a c cap) (hl : IsPn w a2 l cap2) (hll : l.length ≤ 9223372036854775807) (ht : TabW w) :
    Calls Tryz.prog 8 #[.slice a c.length cap, .slice a2 l.length cap2, .int .i64 en, .int .i64 pe] w (PlEnd c l en pe w) := by
  have HErr : Hid (∀ z W, z ≠ 0 → plBad c l en pe = z → Below w.heap.size w W → PlEnd c l en pe w (.returned (.tuple #[.slice none 0 0, .iface 43 (.int .i64 z)])) W) := fun z W h0 h1 h2 => by
    refine ⟨h2, fun _ => by rw [h1, chE_ne h0], fun e => absurd (h1.symm.trans e) h0⟩
  have HOk : Hid (∀ v L W, plBad c l en pe = 0 → Below w.heap.size w W → Made W w.heap.size v L → L.map Je.ep = plTo en pe l l.length → L.length ≤ 20 → PlEnd c l en pe w (.returned (.tuple #[v, .nilIface])) W) := fun v L W h1 h2 h3 h4 h5 =>
    ⟨h2, fun h0 => absurd h1 h0, fun _ => ⟨v, L, rfl, h3, h4, h5⟩⟩
  have HC : Hid (Calls _ _ _ _ _) := plCheck_any a a2 cap cap2 c l w h hl hll
  by_cases c1 : pnsBad c l ≠ 0
  · have e1 : plBad c l en pe = pnsBad c l := by unfold plBad; rw [if_pos c1]
    have HE : Hid (∀ W, Below w.heap.size w W → PlEnd c l en pe w (.returned (.tuple #[.slice none 0 0, .iface 43 (.int .i64 (pnsBad c l))])) W) := fun W hW => HErr.out _ W c1 e1 hW
    rw [chE_ne c1] at HC
    clear h hl c1 e1 HErr HOk
    generalize pnsBad c l = z at *
    go_enter Tryz.func8, Tryz.ntmps8
    go_wp2_with (go_at_call 5; refine HC.out.mono ?_; rintro e w1 ⟨rfl, hb1⟩)
    go_ret2
    exact HE.out _ hb1
  have c1' := Decidable.of_not_not c1
  rw [c1', chE_zero] at HC
  have HU1 : Hid (∀ W, Calls Tryz.prog 17 #[.int .i64 en] W fun e w' => e = .returned (.bool (upTo en 12)) ∧ w' = W) := fun W => isEntity_any en W
  have HU2 : Hid (∀ W, Calls Tryz.prog 27 #[.int .i64 pe] W fun e w' => e = .returned (.bool (upTo pe 120)) ∧ w' = W) := fun W => isPeriod_any pe W
  by_cases c3 : (upTo en 12 && upTo pe 120) = false
  · have e1 : plBad c l en pe = 1 := by unfold plBad; rw [if_neg c1, if_pos c3]
    have HE : Hid (∀ W, Below w.heap.size w W → PlEnd c l en pe w (.returned (.tuple #[.slice none 0 0, .iface 43 (.int .i64 1)])) W) := fun W hW => HErr.out _ W (by decide) e1 hW
    clear h hl c1 c1' e1 HErr HOk
    cases u1 : upTo en 12
    · rw [u1] at HU1
      clear c3 u1
      go_enter Tryz.func8, Tryz.ntmps8
      go_wp2_with (first | (go_at_call 5; refine HC.out.mono ?_; rintro e w1 ⟨rfl, hb1⟩) | (go_at_call 17; refine (HU1.out _).mono ?_; rintro e w' ⟨rfl, rfl⟩))
      go_ret2
      exact HE.out _ hb1
    · have u2 : upTo pe 120 = false := by rw [u1] at c3; simpa using c3
      rw [u1] at HU1
      rw [u2] at HU2
      clear c3 u1 u2
      go_enter Tryz.func8, Tryz.ntmps8
      go_wp2_with fail
      refine HC.out.mono ?_
      rintro e w1 ⟨rfl, hb1⟩
      go_wp2_with fail
      refine (HU1.out _).mono ?_
      rintro e w' ⟨rfl, hw⟩
      rw [hw]; clear hw w'
      go_wp2_with fail
      refine (HU2.out _).mono ?_
      rintro e w' ⟨rfl, hw⟩
      rw [hw]; clear hw w'
      go_wp2
      go_ret2
      exact HE.out _ hb1
  have c3' : upTo en 12 = true ∧ upTo pe 120 = true := by simpa using c3
  have HB0 : Hid (plBad c l en pe = 0) := by unfold plBad Hid; rw [if_neg c1, if_neg c3]
  rw [c3'.1] at HU1
  rw [c3'.2] at HU2
  obtain ⟨p1, p2, p3⟩ := pnsBad_ok c1'
  have HPo : Hid (∀ k, k < l.length → pnBad c l k = 0) := p3
  have HPs : Hid (IsPn w a2 l cap2) := hl
  have HTb : Hid (TabW w) := ht
  have HPe : Hid (upTo pe 120 = true ∧ 1 ≤ pe ∧ pe ≤ 120) := ⟨c3'.2, (upTo_iff.1 c3'.2).1, (upTo_iff.1 c3'.2).2⟩
  have i2 : (l.length : Int) ≤ 20 := by omega
  clear h hl ht c1 c1' c3 c3' p1 p3
  obtain ⟨i0, hi, hz0, hz1, hz2⟩ := info_parts je_info
  go_enter Tryz.func8, Tryz.ntmps8
  go_wp2_with fail
  refine HC.out.mono ?_
  rintro e w2 ⟨rfl, hb2⟩
  clear HC
  go_wp2_with fail
  refine (HU1.out _).mono ?_
  rintro e w' ⟨rfl, hw⟩
  rw [hw]; clear hw w' HU1
  go_wp2_with fail
  refine (HU2.out _).mono ?_
  rintro e w' ⟨rfl, hw⟩
  rw [hw]; clear hw w' HU2
  have HB2 : Hid (Below w.heap.size w w2) := hb2
  clear hb2
  go_wp2
  go_loopw [11, 32] (fun v i wr => ∃ (k : Nat) (L : List Je), k ≤ l.length ∧ i = .int .i64 k ∧ Hid (Made wr w.heap.size v L ∧ L.map Je.ep = plTo en pe l k ∧ L.length ≤ k) ∧ Hid (Below w.heap.size w wr)) (fun _ i _ => l.length - (RowKit.intOf i).toNat)
  case atStart => exact ⟨0, [], Nat.zero_le _, rfl, ⟨Made.nil _ _, rfl, Nat.le_refl _⟩, HB2⟩
  case round =>
    obtain ⟨k, L, hk, rfl, HM, HB⟩ := hrel
    obtain ⟨av, cv, ev, _⟩ := HM.out.1.isJs
    subst ev
    by_cases hkn : k < l.length
    · obtain ⟨bb, off, e, hblt, hc⟩ := ((HPs.out).below HB.out).at hkn
      subst e
      obtain ⟨q1, q2, q3, q4, q5⟩ := pnBad_ok (HPo.out k hkn)
      have q6 := refBad_ok q1
      have q7 := pn_part_bd q3 HPe.out.1
      obtain ⟨wa, hwa⟩ : ∃ wa, wr.alloc (.cells (l.getD k pn0).cells 37) = wa := ⟨_, rfl⟩
      have b11 : Below wr.heap.size wr wa := by rw [← hwa]; exact (Below.refl _ wr).alloc (Nat.le_refl _) _
      have hsa : wr.heap.size < wa.heap.size := by rw [← hwa]; simp
      have hx : PnAt wa wr.heap.size 0 (l.getD k pn0) := by rw [← hwa]; exact PnAt.new wr (l.getD k pn0) 37
      have B1 : Below w.heap.size w wa := HB.out.trans (b11.mono HB.out.size)
      have HKeep : Hid (∀ W, Below wa.heap.size wa W → Below w.heap.size w W ∧ Below wr.heap.size wr W ∧ PnAt W wr.heap.size 0 (l.getD k pn0)) := fun W hW =>
        ⟨B1.trans (hW.mono B1.size), b11.trans (hW.mono b11.size), hx.below hW hsa⟩
      have HPt : Hid (Calls Tryz.prog 28 #[.agg (l.getD k pn0).cells, .int .i64 pe] wa fun e w' => e = .returned (.int .i64 (partN (l.getD k pn0).amt (l.getD k pn0).fst (l.getD k pn0).per pe)) ∧ Below wa.heap.size wa w') := plPart_any _ pe wa q3 HPe.out.1
      have HAc : Hid (∀ W, Below w.heap.size w W → Calls Tryz.prog 29 #[.agg (l.getD k pn0).cells, .int .i64 pe, .int .i64 (partN (l.getD k pn0).amt (l.getD k pn0).fst (l.getD k pn0).per pe)] W fun e w' => ∃ adr cap, e = .returned (.agg #[.string (refP (l.getD k pn0).ref pe), .int .i64 (l.getD k pn0).ent, .int .i64 pe, .slice adr 2 cap]) ∧ LnRow w' W.heap.size (.slice adr 2 cap) (plLns (l.getD k pn0) (partN (l.getD k pn0).amt (l.getD k pn0).fst (l.getD k pn0).per pe)) ∧ Below W.heap.size W w') := fun W hW => accrued_any _ pe _ W (HTb.out.below hW) HPe.out.2.1 HPe.out.2.2 q6 q7
      have HNx : Hid (plTo en pe l (k + 1) = plTo en pe l k ++ plE en pe (l.getD k pn0)) := plTo_next en pe l k
      have HPE : Hid (plE en pe (l.getD k pn0) = if (l.getD k pn0).ent = en ∧ partN (l.getD k pn0).amt (l.getD k pn0).fst (l.getD k pn0).per pe ≠ 0 then [⟨refP (l.getD k pn0).ref pe, (l.getD k pn0).ent, pe, plLns (l.getD k pn0) (partN (l.getD k pn0).amt (l.getD k pn0).fst (l.getD k pn0).per pe)⟩] else []) := rfl
      have HLen : Hid ((plLns (l.getD k pn0) (partN (l.getD k pn0).amt (l.getD k pn0).fst (l.getD k pn0).per pe)).length = 2) := rfl
      have HWa : Hid (wr.alloc (.cells (l.getD k pn0).cells 37) = wa) := hwa
      clear hwa q1 q2 q3 q4 q5 q6 q7 B1 b11 hsa
      generalize plLns (l.getD k pn0) (partN (l.getD k pn0).amt (l.getD k pn0).fst (l.getD k pn0).per pe) = gl at *
      generalize partN (l.getD k pn0).amt (l.getD k pn0).fst (l.getD k pn0).per pe = pn at *
      generalize refP (l.getD k pn0).ref pe = rf at *
      generalize plE en pe (l.getD k pn0) = pE at *
      generalize l.getD k pn0 = p at *
      obtain ⟨ref, ent, fr, tw, cu, am, fs, pr⟩ := p
      obtain ⟨d0, d1, d2, d3, d4, d5, d6, d7⟩ := hc
      obtain ⟨f0, f1, f2, f3, f4, f5, f6, f7⟩ := hx
      simp only [Pn.cells, Nat.zero_add] at d0 d1 d2 d3 d4 d5 d6 d7 f0 f1 f2 f3 f4 f5 f6 f7 HWa HKeep HPt HAc HPE
      have j0 : (0 : Int) ≤ k := by omega
      have j1 : (k : Int) < l.length := by omega
      go_upto_region 10 with fail
      rw [HWa.out]
      clear HWa d0 d1 d2 d3 d4 d5 d6 d7
      go_wp2_with fail
      refine HPt.out.mono ?_
      rintro e w3 ⟨rfl, hb3⟩
      clear HPt f0 f1 f2 f3 f4 f5 f6 f7
      obtain ⟨k1, k2, ⟨f0, f1, f2, f3, f4, f5, f6, f7⟩⟩ := HKeep.out w3 hb3
      simp only [Nat.zero_add] at f0 f1 f2 f3 f4 f5 f6 f7
      have HK1 : Hid (Below w.heap.size w w3) := k1
      have HK2 : Hid (Below wr.heap.size wr w3) := k2
      clear HKeep hb3 k1 k2
      by_cases g0 : ent = en ∧ pn ≠ 0
      · obtain ⟨g1, g2⟩ := g0
        have g1' : (ent == en) = true := by simp [g1]
        have g2' : (pn != 0) = true := by simpa using g2
        have HP2 : Hid (plTo en pe l (k + 1) = plTo en pe l k ++ [⟨rf, ent, pe, gl⟩]) := by rw [HNx.out, HPE.out, if_pos ⟨g1, g2⟩]; exact rfl
        have HA3 : Hid (Calls _ _ _ _ _) := HAc.out w3 HK1.out
        clear HAc HPE HNx HOk HErr
        subst g1
        go_wp2_with fail
        refine HA3.out.mono ?_
        rintro e w4 ⟨a4, c4', rfl, hr4, hb4⟩
        have HR4 : Hid (LnRow w4 w3.heap.size (.slice a4 gl.length c4') gl) := by rw [HLen.out]; exact hr4
        have HB4 : Hid (Below w3.heap.size w3 w4) := hb4
        have HAdd : Hid (∀ v' w6, World.ownsRow w6 w.heap.size 58 4 v' (L.length + 1) (jeRow L ++ (Je.mk rf ent pe a4 c4' gl).cells.toList) → (w4.alloc (.cells #[.string rf, .int .i64 ent, .int .i64 pe, .slice a4 2 c4'] 58)).grownBy w6 (Value.slice av L.length cv).ownBlock → (Made w6 w.heap.size v' (L ++ [Je.mk rf ent pe a4 c4' gl]) ∧ (L ++ [Je.mk rf ent pe a4 c4' gl]).map Je.ep = plTo ent pe l (k + 1) ∧ (L ++ [Je.mk rf ent pe a4 c4' gl]).length ≤ k + 1) ∧ Below w.heap.size w w6) := fun v' w6 h1 h2 => by
          obtain ⟨m1, m2, m3⟩ := HM.out
          have z1 := HK1.out.trans (HB4.out.mono HK1.out.size)
          have z2 := z1.alloc z1.size (.cells #[.string rf, .int .i64 ent, .int .i64 pe, .slice a4 2 c4'] 58)
          have z3 : Below w4.heap.size w4 (w4.alloc (.cells #[.string rf, .int .i64 ent, .int .i64 pe, .slice a4 2 c4'] 58)) := (Below.refl _ w4).alloc (Nat.le_refl _) _
          have m4 := ((m1.below HK2.out).below HB4.out).below z3
          refine ⟨⟨m4.add (x := Je.mk rf ent pe a4 c4' gl) ((HR4.out.below z3).mono HK1.out.size) h1 h2, ?_, ?_⟩, z2.grown h2 z2.size fun j e => m1.row.own j e⟩
          · rw [List.map_append, m2, HP2.out]; rfl
          · rw [List.length_append]; simp; exact m3
        have HRow : Hid (World.ownsRow (w4.alloc (.cells #[.string rf, .int .i64 ent, .int .i64 pe, .slice a4 2 c4'] 58)) w.heap.size 58 4 (.slice av L.length cv) L.length (jeRow L)) := by
          have m4 := (HM.out.1.below HK2.out).below HB4.out
          exact World.ownsRow.alloc m4.row _
        have s2 : Hid (L.length + 1 ≤ maxLen ∧ (L.length + 1) * 56 ≤ 140737488355328) := by
          have := HM.out.2.2
          unfold Hid maxLen; omega
        have s4 : Hid (w.heap.size ≤ (w4.alloc (.cells #[.string rf, .int .i64 ent, .int .i64 pe, .slice a4 2 c4'] 58)).heap.size) := by
          have z1 := HK1.out.size
          have z2 := HB4.out.size
          unfold Hid; simp; omega
        have HCl : Hid ((Je.mk rf ent pe a4 c4' gl).cells.toList = [.string rf, .int .i64 ent, .int .i64 pe, .slice a4 2 c4']) := by unfold Je.cells Hid; simp only [HLen.out]
        have HOne : Hid (∀ u ∈ ([.string rf, .int .i64 ent, .int .i64 pe, .slice a4 2 c4'] : List Value), u.oneCell' = true) := by rw [← HCl.out]; exact je_one _
        rw [HCl.out] at HAdd
        clear HA3 hr4 hb4 HM f0 f1 f2 f3 f4 f5 f6 f7 HCl
        go_wp2_with (at_builtin; refine wpList_append_own _ rfl _ _ 29 rfl w.heap.size 58 i0 (.agg #[.string ByteArray.empty, .int .i64 0, .int .i64 0, .slice none 0 0]) 4 56 Tryz.underlying29 hi hz0 hz1 hz2 rfl (by decide) _ _ _ rfl HRow.out ⟨w4.heap.size, 0, none⟩ 1 1 [.string rf, .int .i64 ent, .int .i64 pe, .slice a4 2 c4'] rfl rfl (World.news_of_block (World.alloc_heap_new w4 _)) HOne.out s2.out.1 s2.out.2 s4.out ?_)
        intro v' w6 hown' hgrow _
        obtain ⟨hm6, hb6⟩ := HAdd.out v' w6 hown' hgrow
        have HM6 : Hid _ := hm6
        have HB6 : Hid (Below w.heap.size w w6) := hb6
        clear hown' hgrow hm6 hb6 HAdd HRow
        go_wp2
        go_roundw
        case rel => exact ⟨k + 1, _, by omega, by go_num, HM6, HB6⟩
        case measure => simp [RowKit.intOf]; omega
      · have HM2 : Hid (Made w3 w.heap.size (.slice av L.length cv) L ∧ L.map Je.ep = plTo en pe l (k + 1) ∧ L.length ≤ k + 1) := by
          obtain ⟨m1, m2, m3⟩ := HM.out
          refine ⟨m1.below HK2.out, ?_, by omega⟩
          rw [HNx.out, HPE.out, if_neg g0, List.append_nil, m2]
        clear HAc HPE HNx HOk HErr HM
        by_cases g1 : ent = en
        · have g2 : pn = 0 := Classical.byContradiction fun h => g0 ⟨g1, h⟩
          have g1' : (ent == en) = true := by simp [g1]
          clear g0
          subst g1
          subst g2
          go_wp2
          go_roundw
          case rel => exact ⟨k + 1, L, by omega, by go_num, HM2, HK1⟩
          case measure => simp [RowKit.intOf]; omega
        · have g1' : (ent == en) = false := by rw [beq_eq_false_iff_ne]; exact g1
          clear g0
          go_wp2
          go_roundw
          case rel => exact ⟨k + 1, L, by omega, by go_num, HM2, HK1⟩
          case measure => simp [RowKit.intOf]; omega
    · have ek : k = l.length := by omega
      subst ek
      obtain ⟨m1, m2, m3⟩ := HM.out
      have HE : Hid (PlEnd c l en pe w (.returned (.tuple #[.slice av L.length cv, .nilIface])) wr) := HOk.out _ L wr HB0.out HB.out m1 m2 (by omega)
      clear m1 m2 m3 HM HErr HOk HPo HPs
      go_wp2
      go_ret2
      exact HE.out
end Go.Proofs.YtioegjmcpjnmnaaGreatDoor

namespace Go.Proofs.YtioegjmcpjnmnaaGreatDoor
set_option linter.unusedVariables false
set_option linter.unusedSimpArgs false
set_option maxRecDepth 100000
open Go.RowKit Go.Lib

theorem en_get (s : ByteArray) (k : Nat) (h : k < s.size) : s.get! k = s[k]'h := by
  show s.data[k]! = s.data[k]'h
  exact getElem!_pos s.data k h

theorem refAmount_any (n : Int) (w : World) :
    Calls Tryz.prog 31 #[.int .i64 n] w fun e w' => e = .returned (.bool (isAmtB n)) ∧ w' = w := by
  by_cases h : -1000000000000000 ≤ n
  · have : isAmtB n = decide (n ≤ 1000000000000000) := by simp [isAmtB, h]
    rw [this]
    go_enter Tryz.func31, Tryz.ntmps31
    go_wp2
    go_ret
    exact ⟨rfl, rfl⟩
  · have : isAmtB n = false := by simp [isAmtB, h]
    rw [this]
    go_enter Tryz.func31, Tryz.ntmps31
    go_wp2
    go_ret
    exact ⟨rfl, rfl⟩

end Go.Proofs.YtioegjmcpjnmnaaGreatDoor
