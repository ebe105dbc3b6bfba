/-
  Whatever pairs, balances and currency: daylaw5.PairTurns returns true, and the arguments read behind the call as before.
-/
import Derived.Laws.Tables
import Derived.OrdersHeld
import Derived.RegionTactic
import Derived.Deep.MidRow
import Derived.Great.BuildSlice
import Derived.Test.YteoifhnhmjcgmaaZn3
import Derived.Deep.RegionLaw
import Derived.Deep.AppendLies
import Derived.BigRegion
import Derived.Laws.NewBlocks
import Derived.Test.YteoifhnhmjcgmaaZn1
import Derived.KernelRfl
import Derived.Deep.Slices
import Derived.OpenShut
import Derived.Test.YteoifhnhmjcgmaaZn0
import Derived.Test.YteoifhnhmjcgmaaRows
import Derived.WalkKit
import Derived.SizedLaws
import Derived.ProofKit
import Derived.ShutString
import Derived.ChangeOld
import Derived.Below
namespace Go.Proofs.Yteoifhnhmjcgmaa
open Go
set_option linter.unusedVariables false

section
variable {P : Program} {ops : Array Oper} {rest : List Oper} {o : Oper} {a : Act} {w w' : World} {K : Act → World → Prop} {Q : Exit → Act → World → Prop} {v : Value}

theorem wp_build_run (t : TypeId) (parts : Array (Nat × Operand)) (ho : o.op = .build t parts) (ps : Array (Nat × Value)) (hp : (parts.map fun (i, x) => (i, a.eval x)) = ps) (hr : (Instr.build t ps).run P w = .ok v w') (h : K (a.put o.dst v) w') : o.wp P a w K Q := by
  unfold Oper.wp execOp
  simp only [ho, Sem.run_bind, Sem.run_pure, Result.andThen_ok, hp, hr]
  exact h
theorem wp_buildSlice_run (t : TypeId) (m : Nat) (parts : Array (Nat × Operand)) (ho : o.op = .buildSlice t m parts) (ps : Array (Nat × Value)) (hp : (parts.map fun (i, x) => (i, a.eval x)) = ps) (hr : (Instr.buildSlice t m ps).run P w = .ok v w') (h : K (a.put o.dst v) w') : o.wp P a w K Q := by
  unfold Oper.wp execOp
  simp only [ho, Sem.run_bind, Sem.run_pure, Result.andThen_ok, hp, hr]
  exact h
theorem wp_alloc_run (t : TypeId) (ho : o.op = .alloc t) (hr : (Instr.alloc t true (.tuple #[])).run P w = .ok v w') (h : K (a.put o.dst v) w') : o.wp P a w K Q := by
  unfold Oper.wp execOp
  simp only [ho, Sem.run_bind, Sem.run_pure, Result.andThen_ok, hr]
  exact h
theorem wp_load_run (t : TypeId) (x : Operand) (ho : o.op = .load t x) (u : Value) (hx : a.eval x = u) (hr : (Instr.loadAt t u).run P w = .ok v w') (h : K (a.put o.dst v) w') : o.wp P a w K Q := by
  unfold Oper.wp execOp
  simp only [ho, Sem.run_bind, Sem.run_pure, Result.andThen_ok, hx, hr]
  exact h
theorem wp_store_run (t : TypeId) (x y : Operand) (ho : o.op = .store t x y) (u z : Value) (hx : a.eval x = u) (hy : a.eval y = z) (hr : (Instr.storeAt t u z).run P w = .ok () w') (h : K (a.put o.dst undef) w') : o.wp P a w K Q := by
  unfold Oper.wp execOp
  simp only [ho, Sem.run_bind, Sem.run_pure, Result.andThen_ok, hx, hy, hr]
  exact h
theorem wp_copy_run (d s : Operand) (t t' : TypeId) (ho : o.op = .call { callee := .builtin .copy, args := #[d, s], argTypes := #[t, t'] }) (u z : Value) (hd : a.eval d = u) (hs : a.eval s = z)
    (hr : (Builtin.copy_ #[t, t'] o.type #[u, z]).run P w = .ok v w') (h : K (a.put o.dst v) w') : o.wp P a w K Q := by
  unfold Oper.wp execOp
  simp only [ho, resolve, invoke, builtin, Sem.run_bind, Sem.run_pure, Result.andThen_ok, List.map_toArray, List.map_cons, List.map_nil, hd, hs, hr]
  exact h
theorem wp_append_run (d s : Operand) (t t' : TypeId) (ho : o.op = .call { callee := .builtin .append, args := #[d, s], argTypes := #[t, t'] }) (u z : Value) (hd : a.eval d = u) (hs : a.eval s = z)
    (hr : (Builtin.append_ #[t, t'] o.type #[u, z]).run P w = .ok v w') (h : K (a.put o.dst v) w') : o.wp P a w K Q := by
  unfold Oper.wp execOp
  simp only [ho, resolve, invoke, builtin, Sem.run_bind, Sem.run_pure, Result.andThen_ok, List.map_toArray, List.map_cons, List.map_nil, hd, hs, hr]
  exact h

theorem wpList_build_run (hgd : o.guard = none) (t : TypeId) (parts : Array (Nat × Operand)) (ho : o.op = .build t parts) (ps : Array (Nat × Value)) (hp : (parts.map fun (i, x) => (i, a.eval x)) = ps) (hr : (Instr.build t ps).run P w = .ok v w') (h : wpList P ops Q rest (a.put o.dst v) w') : wpList P ops Q (o :: rest) a w :=
  wpList_plain hgd fun _ hK => wp_build_run t parts ho ps hp hr (hK _ _ h)
theorem wpList_buildSlice_run (hgd : o.guard = none) (t : TypeId) (m : Nat) (parts : Array (Nat × Operand)) (ho : o.op = .buildSlice t m parts) (ps : Array (Nat × Value)) (hp : (parts.map fun (i, x) => (i, a.eval x)) = ps) (hr : (Instr.buildSlice t m ps).run P w = .ok v w') (h : wpList P ops Q rest (a.put o.dst v) w') : wpList P ops Q (o :: rest) a w :=
  wpList_plain hgd fun _ hK => wp_buildSlice_run t m parts ho ps hp hr (hK _ _ h)
theorem wpList_alloc_run (hgd : o.guard = none) (t : TypeId) (ho : o.op = .alloc t) (hr : (Instr.alloc t true (.tuple #[])).run P w = .ok v w') (h : wpList P ops Q rest (a.put o.dst v) w') : wpList P ops Q (o :: rest) a w :=
  wpList_plain hgd fun _ hK => wp_alloc_run t ho hr (hK _ _ h)
theorem wpList_load_run (hgd : o.guard = none) (t : TypeId) (x : Operand) (ho : o.op = .load t x) (u : Value) (hx : a.eval x = u) (hr : (Instr.loadAt t u).run P w = .ok v w') (h : wpList P ops Q rest (a.put o.dst v) w') : wpList P ops Q (o :: rest) a w :=
  wpList_plain hgd fun _ hK => wp_load_run t x ho u hx hr (hK _ _ h)
theorem wpList_store_run (hgd : o.guard = none) (t : TypeId) (x y : Operand) (ho : o.op = .store t x y) (u z : Value) (hx : a.eval x = u) (hy : a.eval y = z) (hr : (Instr.storeAt t u z).run P w = .ok () w') (h : wpList P ops Q rest (a.put o.dst undef) w') : wpList P ops Q (o :: rest) a w :=
  wpList_plain hgd fun _ hK => wp_store_run t x y ho u z hx hy hr (hK _ _ h)
theorem wpList_copy_run (hgd : o.guard = none) (d s : Operand) (t t' : TypeId) (ho : o.op = .call { callee := .builtin .copy, args := #[d, s], argTypes := #[t, t'] }) (u z : Value) (hd : a.eval d = u) (hs : a.eval s = z)
    (hr : (Builtin.copy_ #[t, t'] o.type #[u, z]).run P w = .ok v w') (h : wpList P ops Q rest (a.put o.dst v) w') : wpList P ops Q (o :: rest) a w :=
  wpList_plain hgd fun _ hK => wp_copy_run d s t t' ho u z hd hs hr (hK _ _ h)
theorem wpList_append_run (hgd : o.guard = none) (d s : Operand) (t t' : TypeId) (ho : o.op = .call { callee := .builtin .append, args := #[d, s], argTypes := #[t, t'] }) (u z : Value) (hd : a.eval d = u) (hs : a.eval s = z)
    (hr : (Builtin.append_ #[t, t'] o.type #[u, z]).run P w = .ok v w') (h : wpList P ops Q rest (a.put o.dst v) w') : wpList P ops Q (o :: rest) a w :=
  wpList_plain hgd fun _ hK => wp_append_run d s t t' ho u z hd hs hr (hK _ _ h)

theorem wp_region_drawn {id : Nat} (hm : P.follows .mixedOrders = true) (h : wpAny P .any ops Q ops.size (Array.replicate ops.size false) a w.drew) : (Code.region id ops true).wp P Q a w := wp_region_any hm h

theorem fold_sets : ∀ (vs : List Value) (k : Nat) (cs : Array Value), k + vs.length = cs.size → (vs.zipIdx k).foldl (fun (c : Array Value) (x : Value × Nat) => c.setIfInBounds (0 + x.2) x.1) cs = (cs.toList.take k ++ vs).toArray
  | [], k, cs, h => by
    simp only [List.zipIdx_nil, List.foldl_nil, List.append_nil]
    rw [List.take_of_length_le (by simp at h ⊢; omega)]
  | v :: vs, k, cs, h => by
    simp only [List.zipIdx_cons, List.foldl_cons]
    rw [fold_sets vs (k + 1) _ (by simp at h ⊢; omega)]
    congr 1
    have hk : k < cs.toList.length := by simp at h ⊢; omega
    simp only [Nat.zero_add, Array.toList_setIfInBounds]
    rw [List.take_add_one, List.getElem?_set_self hk, List.take_set_of_le (Nat.le_refl _)]
    simp

/-- A slice of one part, which is all of it. -/
theorem buildSlice_one (t e : TypeId) (i : TypeInfo) (z : Value) (ht : P.underlying t = some (.slice e)) (hi : P.info? e = some i) (hz : i.zero = some z) (cs : Array Value) (hs : cs.size = i.size) (h0 : 0 < i.size) (h1 : i.size ≤ 16777216) (w : World) :
    (Instr.buildSlice t 1 #[(0, .agg cs)]).run P w = .ok (.slice (some ⟨w.heap.size, 0, none⟩) 1 1) (w.alloc (.cells cs e)) := by
  refine run_buildSlice w t e 1 _ cs i z ht hi hz (by omega) (by omega) ?_
  have hsz : ∀ f : Nat → Value, ((Array.range (1 * i.size)).map f).size = i.size := fun f => by simp
  simp only [Instr.fill, Value.cells, Nat.zero_mul]
  rw [if_neg (by simp [hs])]
  rw [← Array.foldl_toList, Array.toList_zipIdx]
  have := fold_sets cs.toList 0 ((Array.range (1 * i.size)).map (z.cells[· % z.cells.size]!)) (by rw [hsz]; simp [hs])
  simp only [List.take_zero, List.nil_append, Array.toArray_toList] at this
  exact congrArg some this

/-- A load that is known in every world that meets a condition. -/
theorem yields_load_run {S : World → Prop} (hw : Region.wanted o (yielded ops a.tmps) = true) (t : TypeId) (x : Operand) (ho : o.op = .load t x) (u : Value) (hx : a.eval x = u) (hr : ∀ w, S w → (Instr.loadAt t u).run P w = .ok v w) : YieldsIf P ops S o v a :=
  .inl ⟨hw, fun w hS => by
    unfold execOp
    simp only [ho, Sem.run_bind, Sem.run_pure, Result.andThen_ok, hx, hr w hS]⟩
/-- A struct that is built: known in every world that meets a condition. -/
theorem yields_build_run {S : World → Prop} (hw : Region.wanted o (yielded ops a.tmps) = true) (t : TypeId) (parts : Array (Nat × Operand)) (ho : o.op = .build t parts) (ps : Array (Nat × Value)) (hp : (parts.map fun (i, x) => (i, a.eval x)) = ps) (hr : ∀ w, S w → (Instr.build t ps).run P w = .ok v w) : YieldsIf P ops S o v a :=
  .inl ⟨hw, fun w hS => by
    unfold execOp
    simp only [ho, Sem.run_bind, Sem.run_pure, Result.andThen_ok, hp, hr w hS]⟩
end
end Go.Proofs.Yteoifhnhmjcgmaa

namespace Go.Proofs.Yteoifhnhmjcgmaa
set_option linter.unusedVariables false
set_option linter.unusedSimpArgs false
set_option maxRecDepth 100000
open Go.RowKit Go.Lib Math

def tuX (x : Pr) : Pr := ⟨x.eb, x.ea, x.oth, x.one, x.dif⟩
theorem tu_bad (l : List Pr) (b : List Bl) (cur : ByteArray) : lfE (l.map tuX) b cur = lfE l b cur := by unfold lfE; rw [List.length_map]
theorem tu_left (l : List Pr) (b : List Bl) (cur : ByteArray) : (l.map tuX).map (lfV b cur) = l.map (lfV b cur) := by
  rw [List.map_map]
  refine List.map_congr_left fun x _ => ?_
  show getB b x.eb x.oth cur + getB b x.ea x.one cur = getB b x.ea x.one cur + getB b x.eb x.oth cur
  omega
def tuP : Pr := ⟨1, 2, ⟨#[49, 48]⟩, ⟨#[50, 48]⟩, ⟨#[52, 48]⟩⟩
def tuB : Bl := ⟨1, ⟨#[49, 48]⟩, ⟨#[69, 85, 82]⟩, 8⟩
theorem tu_ok : lfE [tuP] [tuB] ⟨#[69, 85, 82]⟩ = 0 := by kernel_rfl
theorem tu_eight : [tuP].map (lfV [tuB] ⟨#[69, 85, 82]⟩) = [8] := by kernel_rfl
theorem tu_next (l : List Pr) (k : Nat) (h : k < l.length) : (l.take (k + 1)).map tuX = (l.take k).map tuX ++ [tuX (l.getD k pr0)] := by
  rw [prs_take l k h, List.map_append]; rfl
theorem isBl_one {W : World} {b : Nat} {x : Bl} (h : BlAt W b 0 x) (hb : b < W.heap.size) : IsBl W (some ⟨b, 0, none⟩) [x] 1 := by
  refine ⟨Nat.le_refl _, .inr ⟨b, 0, rfl, hb, fun k hk => ?_⟩⟩
  have e : k = 0 := by simp at hk; omega
  subst e
  exact h
theorem nrow_ints {w : World} {g : Nat} {r : List Int} (h : NRow w g r) (n : Nat) (hn : n = r.length) : HasInts w (.slice (some ⟨g, 0, none⟩) n n) r := by
  subst hn
  exact ⟨_, _, rfl, .inr ⟨g, 0, rfl, fun k hk => by rw [Nat.zero_add]; exact h.cell hk⟩⟩
theorem cells_five (wr : World) (u0 u1 u2 u3 u4 : Value) (t : TypeId) : ∀ j u, ([u0, u1, u2, u3, u4] : List Value)[j]? = some u → (wr.alloc (.cells #[u0, u1, u2, u3, u4] t)).drew.cell? ((⟨wr.heap.size, 0, none⟩ : Addr).add j) = some u := by
  intro j u h
  rcases j with _ | _ | _ | _ | _ | j
  · simp at h; subst h; simp [Addr.add]
  · simp at h; subst h; simp [Addr.add]
  · simp at h; subst h; simp [Addr.add]
  · simp at h; subst h; simp [Addr.add]
  · simp at h; subst h; simp [Addr.add]
  · simp at h

set_option maxHeartbeats 8000000 in
theorem pturns_walk (a a2 : Option Addr) (cap cap2 : Nat) (l : List Pr) (b : List Bl) (cur : ByteArray) (w : World) (hl : IsPr w a l cap) (hls : l.length * 64 ≤ 140737488355328) (hb : IsBl w a2 b cap2) (hbs : b.length ≤ 9223372036854775807) :
    Calls Try.prog 3 #[.slice a l.length cap, .slice a2 b.length cap2, .string cur] w fun e w' => e = .returned (.bool true) ∧ Below w.heap.size w w' := by
  obtain ⟨w0, hw0⟩ : ∃ w0, (w.alloc (.cells #[.int .i64 1, .int .i64 2, .string ⟨#[49, 48]⟩, .string ⟨#[50, 48]⟩, .string ⟨#[52, 48]⟩] 25)).alloc (.cells #[.int .i64 1, .string ⟨#[49, 48]⟩, .string ⟨#[69, 85, 82]⟩, .int .i64 8] 32) = w0 := ⟨_, rfl⟩
  have b1 : Below w.heap.size w (w.alloc (.cells #[.int .i64 1, .int .i64 2, .string ⟨#[49, 48]⟩, .string ⟨#[50, 48]⟩, .string ⟨#[52, 48]⟩] 25)) := (Below.refl _ w).alloc (Nat.le_refl _) _
  have b2 : Below w.heap.size w w0 := by rw [← hw0]; exact b1.alloc b1.size _
  have hs0 : w0.heap.size = w.heap.size + 2 := by rw [← hw0]; simp
  have hp1 : IsPr w0 (some ⟨w.heap.size, 0, none⟩) [tuP] 1 := by
    refine isPr_one ?_ (by omega)
    rw [← hw0]
    exact (PrAt.new w tuP 25).below ((Below.refl _ _).alloc (Nat.le_refl _) _) (by simp)
  have hq1 : IsBl w0 (some ⟨w.heap.size + 1, 0, none⟩) [tuB] 1 := by
    refine isBl_one ?_ (by omega)
    have := BlAt.new (w.alloc (.cells #[.int .i64 1, .int .i64 2, .string ⟨#[49, 48]⟩, .string ⟨#[50, 48]⟩, .string ⟨#[52, 48]⟩] 25)) tuB 32
    rw [← hw0]
    have e : (w.alloc (.cells #[.int .i64 1, .int .i64 2, .string ⟨#[49, 48]⟩, .string ⟨#[50, 48]⟩, .string ⟨#[52, 48]⟩] 25)).heap.size = w.heap.size + 1 := by simp
    rw [e] at this
    exact this
  have HF : Hid (Calls Try.prog 4 #[.slice (some ⟨w.heap.size, 0, none⟩) 1 1, .slice (some ⟨w.heap.size + 1, 0, none⟩) 1 1, .string ⟨#[69, 85, 82]⟩] w0 fun e w' => ∃ g, e = .returned (.tuple #[.slice (some ⟨g, 0, none⟩) 1 1, .nilIface]) ∧ w'.cell? ⟨g, 0, none⟩ = some (.int .i64 8) ∧ Below w.heap.size w w') := by
    refine (left_any _ _ 1 1 [tuP] [tuB] ⟨#[69, 85, 82]⟩ w0 hp1 (by simp) hq1 (by simp)).mono ?_
    rintro e w' ⟨z1, _, z3⟩
    obtain ⟨g, rfl, _, hr⟩ := z3 tu_ok
    rw [tu_eight] at hr
    exact ⟨g, rfl, hr.cell (i := 0) (by simp), b2.trans (z1.mono b2.size)⟩
  have HW0 : Hid (_ = w0) := hw0
  have HPr : Hid (IsPr w a l cap) := hl
  have HBl : Hid (IsBl w a2 b cap2) := hb
  have HSz : Hid (l.length * 64 ≤ 140737488355328) := hls
  have HLf : Hid (∀ W a' c' (m : List Pr), Below w.heap.size w W → IsPr W a' m c' → m.length ≤ 9223372036854775807 → Calls Try.prog 4 #[.slice a' m.length c', .slice a2 b.length cap2, .string cur] W (LeftEnd m b cur W)) := fun W a' c' m hW hm hml => left_any a' a2 c' cap2 m b cur W hm hml (HBl.out.below hW) hbs
  have hLi : (l.length : Int) ≤ 140737488355328 := by omega
  clear hw0 b1 b2 hs0 hp1 hq1 hl hb hls
  obtain ⟨i0, hi, hz0, hz1, hz2⟩ := info_parts pr_info
  go_enter Try.func3, Try.ntmps3
  go_upto_region 2 with fail
  go_wp2_with fail
  rw [HW0.out]
  refine HF.out.mono ?_
  rintro e w1 ⟨g, rfl, hc8, hb1⟩
  have HB1 : Hid (Below w.heap.size w w1) := hb1
  clear HF hb1 HW0
  go_wp2
  clear hc8
  go_loopw [10, 11] (fun v i wr => ∃ (k : Nat) (sa : Option Addr) (sc : Nat), k ≤ l.length ∧ i = .int .i64 k ∧ v = .slice sa k sc ∧ Hid (PrRow wr w1.heap.size (.slice sa k sc) ((l.take k).map tuX) ∧ Below w1.heap.size w1 wr)) (fun _ i _ => l.length - (RowKit.intOf i).toNat)
  case atStart => exact ⟨0, none, 0, Nat.zero_le _, rfl, rfl, PrRow.nil _ _, Below.refl _ _⟩
  case round =>
    obtain ⟨k, sa, sc, hk, rfl, rfl, HR⟩ := hrel
    by_cases hkn : k < l.length
    · obtain ⟨bb, off, rfl, hbb, hcc⟩ := HPr.out.some hkn
      have hbw : Below w.heap.size w wr := HB1.out.trans (HR.out.2.mono HB1.out.size)
      have hx := (hcc k hkn).below hbw hbb
      have hnx := tu_next l k hkn
      have q0 : (0 : Int) ≤ k := by omega
      have q1 : (k : Int) < l.length := by omega
      have hfl : ((l.take k).map tuX).length = k := by rw [List.length_map, List.length_take]; omega
      obtain ⟨x, hxx⟩ : ∃ x, l.getD k pr0 = x := ⟨_, rfl⟩
      rw [hxx] at hx hnx
      have HNx : Hid ((l.take (k + 1)).map tuX = (l.take k).map tuX ++ [tuX x]) := hnx
      clear hxx hcc hnx
      obtain ⟨x0, x1, x2, x3, x4⟩ := x
      obtain ⟨d0, d1, d2, d3, d4⟩ := hx
      simp only [tuX] at d0 d1 d2 d3 d4 HNx
      generalize hOL : (l.take k).map tuX = OL at *
      have Hfl : Hid (OL.length = k) := hfl
      have hd : Below wr.heap.size wr wr.drew := ⟨rfl, rfl, rfl, Nat.le_refl _, fun _ _ => rfl⟩
      have hbw1 : bb < wr.heap.size := Nat.lt_of_lt_of_le hbb hbw.size
      have HCell : Hid (∀ u, Below wr.drew.heap.size wr.drew u → u.cell? ⟨bb, off + k * 5, none⟩ = some (.int .i64 x0) ∧ u.cell? ⟨bb, off + k * 5 + 1, none⟩ = some (.int .i64 x1) ∧ u.cell? ⟨bb, off + k * 5 + 2, none⟩ = some (.string x2) ∧ u.cell? ⟨bb, off + k * 5 + 3, none⟩ = some (.string x3) ∧ u.cell? ⟨bb, off + k * 5 + 4, none⟩ = some (.string x4)) := fun u hu => by
        have h := hd.trans hu
        exact ⟨(h.cell (p := ⟨bb, _, none⟩) hbw1).trans d0, (h.cell (p := ⟨bb, _, none⟩) hbw1).trans d1, (h.cell (p := ⟨bb, _, none⟩) hbw1).trans d2, (h.cell (p := ⟨bb, _, none⟩) hbw1).trans d3, (h.cell (p := ⟨bb, _, none⟩) hbw1).trans d4⟩
      have HU1 : Hid (Below w1.heap.size w1 wr.drew) := HR.out.2.drew
      have HU3 : Hid (PrRow wr.drew w1.heap.size (.slice sa k sc) OL) := HR.out.1.below hd
      clear hd hbw1 hfl hOL hbw HR d0 d1 d2 d3 d4
      go_upto_region 9 with fail
      refine wp_region_drawn (by kernel_rfl) ?_
      generalize wr.drew = U at *
      refine wpAny_take (i := 0) (v := .slice sa k sc) rfl (by kernel_rfl) (by kernel_rfl) (by kernel_rfl) (fun _ _ _ h => h) (Or.inl ⟨by rfl, fun w => by go_simp⟩) ?_
      simp only [Act.put, List.getElem_toArray, List.getElem_cons_succ, List.getElem_cons_zero, List.setIfInBounds_toArray, List.set_cons_zero, List.set_cons_succ]
      refine wpAny_take (i := 1) (v := .slice (some ⟨bb, off, none⟩) l.length cap) rfl (by kernel_rfl) (by kernel_rfl) (by kernel_rfl) (fun _ _ _ h => h) (Or.inl ⟨by rfl, fun w => by go_simp⟩) ?_
      simp only [Act.put, List.getElem_toArray, List.getElem_cons_succ, List.getElem_cons_zero, List.setIfInBounds_toArray, List.set_cons_zero, List.set_cons_succ]
      refine wpAny_take (i := 2) (v := .int .i64 k) rfl (by kernel_rfl) (by kernel_rfl) (by kernel_rfl) (fun _ _ _ h => h) (Or.inl ⟨by rfl, fun w => by go_simp⟩) ?_
      simp only [Act.put, List.getElem_toArray, List.getElem_cons_succ, List.getElem_cons_zero, List.setIfInBounds_toArray, List.set_cons_zero, List.set_cons_succ]
      refine wpAny_take (i := 3) (v := .pointer (some ⟨bb, off + k * 5, none⟩)) rfl (by kernel_rfl) (by kernel_rfl) (by kernel_rfl) (fun _ _ _ h => h) (Or.inl ⟨by rfl, fun w => by go_simp⟩) ?_
      simp only [Act.put, List.getElem_toArray, List.getElem_cons_succ, List.getElem_cons_zero, List.setIfInBounds_toArray, List.set_cons_zero, List.set_cons_succ]
      refine wpAny_take (i := 4) (v := .pointer (some ⟨bb, off + k * 5 + 1, none⟩)) rfl (by kernel_rfl) (by kernel_rfl) (by kernel_rfl) (fun _ _ _ h => h) (Or.inl ⟨by rfl, fun w => by go_simp⟩) ?_
      simp only [Act.put, List.getElem_toArray, List.getElem_cons_succ, List.getElem_cons_zero, List.setIfInBounds_toArray, List.set_cons_zero, List.set_cons_succ]
      refine wpAny_take (i := 6) (v := .slice (some ⟨bb, off, none⟩) l.length cap) rfl (by kernel_rfl) (by kernel_rfl) (by kernel_rfl) (fun _ _ _ h => h) (Or.inl ⟨by rfl, fun w => by go_simp⟩) ?_
      simp only [Act.put, List.getElem_toArray, List.getElem_cons_succ, List.getElem_cons_zero, List.setIfInBounds_toArray, List.set_cons_zero, List.set_cons_succ]
      refine wpAny_take (i := 7) (v := .int .i64 k) rfl (by kernel_rfl) (by kernel_rfl) (by kernel_rfl) (fun _ _ _ h => h) (Or.inl ⟨by rfl, fun w => by go_simp⟩) ?_
      simp only [Act.put, List.getElem_toArray, List.getElem_cons_succ, List.getElem_cons_zero, List.setIfInBounds_toArray, List.set_cons_zero, List.set_cons_succ]
      refine wpAny_take (i := 8) (v := .pointer (some ⟨bb, off + k * 5, none⟩)) rfl (by kernel_rfl) (by kernel_rfl) (by kernel_rfl) (fun _ _ _ h => h) (Or.inl ⟨by rfl, fun w => by go_simp⟩) ?_
      simp only [Act.put, List.getElem_toArray, List.getElem_cons_succ, List.getElem_cons_zero, List.setIfInBounds_toArray, List.set_cons_zero, List.set_cons_succ]
      refine wpAny_take (i := 9) (v := .pointer (some ⟨bb, off + k * 5, none⟩)) rfl (by kernel_rfl) (by kernel_rfl) (by kernel_rfl) (fun _ _ _ h => h) (Or.inl ⟨by rfl, fun w => by go_simp⟩) ?_
      simp only [Act.put, List.getElem_toArray, List.getElem_cons_succ, List.getElem_cons_zero, List.setIfInBounds_toArray, List.set_cons_zero, List.set_cons_succ]
      refine wpAny_take (i := 11) (v := .slice (some ⟨bb, off, none⟩) l.length cap) rfl (by kernel_rfl) (by kernel_rfl) (by kernel_rfl) (fun _ _ _ h => h) (Or.inl ⟨by rfl, fun w => by go_simp⟩) ?_
      simp only [Act.put, List.getElem_toArray, List.getElem_cons_succ, List.getElem_cons_zero, List.setIfInBounds_toArray, List.set_cons_zero, List.set_cons_succ]
      refine wpAny_take (i := 12) (v := .int .i64 k) rfl (by kernel_rfl) (by kernel_rfl) (by kernel_rfl) (fun _ _ _ h => h) (Or.inl ⟨by rfl, fun w => by go_simp⟩) ?_
      simp only [Act.put, List.getElem_toArray, List.getElem_cons_succ, List.getElem_cons_zero, List.setIfInBounds_toArray, List.set_cons_zero, List.set_cons_succ]
      refine wpAny_take (i := 13) (v := .pointer (some ⟨bb, off + k * 5, none⟩)) rfl (by kernel_rfl) (by kernel_rfl) (by kernel_rfl) (fun _ _ _ h => h) (Or.inl ⟨by rfl, fun w => by go_simp⟩) ?_
      simp only [Act.put, List.getElem_toArray, List.getElem_cons_succ, List.getElem_cons_zero, List.setIfInBounds_toArray, List.set_cons_zero, List.set_cons_succ]
      refine wpAny_take (i := 14) (v := .pointer (some ⟨bb, off + k * 5 + 3, none⟩)) rfl (by kernel_rfl) (by kernel_rfl) (by kernel_rfl) (fun _ _ _ h => h) (Or.inl ⟨by rfl, fun w => by go_simp⟩) ?_
      simp only [Act.put, List.getElem_toArray, List.getElem_cons_succ, List.getElem_cons_zero, List.setIfInBounds_toArray, List.set_cons_zero, List.set_cons_succ]
      refine wpAny_take (i := 16) (v := .slice (some ⟨bb, off, none⟩) l.length cap) rfl (by kernel_rfl) (by kernel_rfl) (by kernel_rfl) (fun _ _ _ h => h) (Or.inl ⟨by rfl, fun w => by go_simp⟩) ?_
      simp only [Act.put, List.getElem_toArray, List.getElem_cons_succ, List.getElem_cons_zero, List.setIfInBounds_toArray, List.set_cons_zero, List.set_cons_succ]
      refine wpAny_take (i := 17) (v := .int .i64 k) rfl (by kernel_rfl) (by kernel_rfl) (by kernel_rfl) (fun _ _ _ h => h) (Or.inl ⟨by rfl, fun w => by go_simp⟩) ?_
      simp only [Act.put, List.getElem_toArray, List.getElem_cons_succ, List.getElem_cons_zero, List.setIfInBounds_toArray, List.set_cons_zero, List.set_cons_succ]
      refine wpAny_take (i := 18) (v := .pointer (some ⟨bb, off + k * 5, none⟩)) rfl (by kernel_rfl) (by kernel_rfl) (by kernel_rfl) (fun _ _ _ h => h) (Or.inl ⟨by rfl, fun w => by go_simp⟩) ?_
      simp only [Act.put, List.getElem_toArray, List.getElem_cons_succ, List.getElem_cons_zero, List.setIfInBounds_toArray, List.set_cons_zero, List.set_cons_succ]
      refine wpAny_take (i := 19) (v := .pointer (some ⟨bb, off + k * 5 + 2, none⟩)) rfl (by kernel_rfl) (by kernel_rfl) (by kernel_rfl) (fun _ _ _ h => h) (Or.inl ⟨by rfl, fun w => by go_simp⟩) ?_
      simp only [Act.put, List.getElem_toArray, List.getElem_cons_succ, List.getElem_cons_zero, List.setIfInBounds_toArray, List.set_cons_zero, List.set_cons_succ]
      refine wpAny_take (i := 21) (v := .slice (some ⟨bb, off, none⟩) l.length cap) rfl (by kernel_rfl) (by kernel_rfl) (by kernel_rfl) (fun _ _ _ h => h) (Or.inl ⟨by rfl, fun w => by go_simp⟩) ?_
      simp only [Act.put, List.getElem_toArray, List.getElem_cons_succ, List.getElem_cons_zero, List.setIfInBounds_toArray, List.set_cons_zero, List.set_cons_succ]
      refine wpAny_take (i := 22) (v := .int .i64 k) rfl (by kernel_rfl) (by kernel_rfl) (by kernel_rfl) (fun _ _ _ h => h) (Or.inl ⟨by rfl, fun w => by go_simp⟩) ?_
      simp only [Act.put, List.getElem_toArray, List.getElem_cons_succ, List.getElem_cons_zero, List.setIfInBounds_toArray, List.set_cons_zero, List.set_cons_succ]
      refine wpAny_take (i := 23) (v := .pointer (some ⟨bb, off + k * 5, none⟩)) rfl (by kernel_rfl) (by kernel_rfl) (by kernel_rfl) (fun _ _ _ h => h) (Or.inl ⟨by rfl, fun w => by go_simp⟩) ?_
      simp only [Act.put, List.getElem_toArray, List.getElem_cons_succ, List.getElem_cons_zero, List.setIfInBounds_toArray, List.set_cons_zero, List.set_cons_succ]
      refine wpAny_take (i := 24) (v := .pointer (some ⟨bb, off + k * 5 + 4, none⟩)) rfl (by kernel_rfl) (by kernel_rfl) (by kernel_rfl) (fun _ _ _ h => h) (Or.inl ⟨by rfl, fun w => by go_simp⟩) ?_
      simp only [Act.put, List.getElem_toArray, List.getElem_cons_succ, List.getElem_cons_zero, List.setIfInBounds_toArray, List.set_cons_zero, List.set_cons_succ]
      refine any_of_L (g := 28) (T := fun u => Below U.heap.size U u) _ _ _ _ ?_
      refine L_takeC [28, 27, 26] (i := 5) (v := .int .i64 x1) rfl (by kernel_rfl) (by kernel_rfl) (by decide) (by kernel_rfl) (by kernel_rfl) (by kernel_rfl) (by kernel_rfl) (fun _ _ _ h => h) (Or.inl ⟨by rfl, fun w' hw' => by have c0 := (HCell.out w' hw').2.1; clear hw'; go_simp⟩) (Below.refl _ _) ?_
      simp only [Act.put, List.getElem_toArray, List.getElem_cons_succ, List.getElem_cons_zero, List.setIfInBounds_toArray, List.set_cons_zero, List.set_cons_succ]
      refine L_takeC [28, 27, 26] (i := 10) (v := .int .i64 x0) rfl (by kernel_rfl) (by kernel_rfl) (by decide) (by kernel_rfl) (by kernel_rfl) (by kernel_rfl) (by kernel_rfl) (fun _ _ _ h => h) (Or.inl ⟨by rfl, fun w' hw' => by have c0 := (HCell.out w' hw').1; clear hw'; go_simp⟩) (Below.refl _ _) ?_
      simp only [Act.put, List.getElem_toArray, List.getElem_cons_succ, List.getElem_cons_zero, List.setIfInBounds_toArray, List.set_cons_zero, List.set_cons_succ]
      refine L_takeC [28, 27, 26] (i := 15) (v := .string x3) rfl (by kernel_rfl) (by kernel_rfl) (by decide) (by kernel_rfl) (by kernel_rfl) (by kernel_rfl) (by kernel_rfl) (fun _ _ _ h => h) (Or.inl ⟨by rfl, fun w' hw' => by have c0 := (HCell.out w' hw').2.2.2.1; clear hw'; go_simp⟩) (Below.refl _ _) ?_
      simp only [Act.put, List.getElem_toArray, List.getElem_cons_succ, List.getElem_cons_zero, List.setIfInBounds_toArray, List.set_cons_zero, List.set_cons_succ]
      refine L_takeC [28, 27, 26] (i := 20) (v := .string x2) rfl (by kernel_rfl) (by kernel_rfl) (by decide) (by kernel_rfl) (by kernel_rfl) (by kernel_rfl) (by kernel_rfl) (fun _ _ _ h => h) (Or.inl ⟨by rfl, fun w' hw' => by have c0 := (HCell.out w' hw').2.2.1; clear hw'; go_simp⟩) (Below.refl _ _) ?_
      simp only [Act.put, List.getElem_toArray, List.getElem_cons_succ, List.getElem_cons_zero, List.setIfInBounds_toArray, List.set_cons_zero, List.set_cons_succ]
      refine L_takeC [28, 27, 26] (i := 25) (v := .string x4) rfl (by kernel_rfl) (by kernel_rfl) (by decide) (by kernel_rfl) (by kernel_rfl) (by kernel_rfl) (by kernel_rfl) (fun _ _ _ h => h) (Or.inl ⟨by rfl, fun w' hw' => by have c0 := (HCell.out w' hw').2.2.2.2; clear hw'; go_simp⟩) (Below.refl _ _) ?_
      simp only [Act.put, List.getElem_toArray, List.getElem_cons_succ, List.getElem_cons_zero, List.setIfInBounds_toArray, List.set_cons_zero, List.set_cons_succ]
      refine L_takeC [28, 27] (i := 26) (v := .agg #[.int .i64 x1, .int .i64 x0, .string x3, .string x2, .string x4]) rfl (by kernel_rfl) (by kernel_rfl) (by decide) (by kernel_rfl) (by kernel_rfl) (by kernel_rfl) (by kernel_rfl) (fun _ _ _ h => h) (Or.inl ⟨by rfl, fun w' hw' => by clear hw'; go_simp⟩) (Below.refl _ _) ?_
      simp only [Act.put, List.getElem_toArray, List.getElem_cons_succ, List.getElem_cons_zero, List.setIfInBounds_toArray, List.set_cons_zero, List.set_cons_succ]
      have HAdd : Hid (∀ v' w6, World.ownsRow w6 w1.heap.size 25 5 v' (k + 1) (prRow OL ++ [.int .i64 x1, .int .i64 x0, .string x3, .string x2, .string x4]) → (U.alloc (.cells #[.int .i64 x1, .int .i64 x0, .string x3, .string x2, .string x4] 25)).grownBy w6 (Value.slice sa k sc).ownBlock → PrRow w6 w1.heap.size v' ((l.take (k + 1)).map tuX) ∧ Below w1.heap.size w1 w6) := fun v' w6 h1 h2 => by
        have z2 := HU1.out.alloc HU1.out.size (.cells #[.int .i64 x1, .int .i64 x0, .string x3, .string x2, .string x4] 25)
        refine ⟨?_, z2.grown h2 z2.size fun j e => HU3.out.own j e⟩
        rw [HNx.out]
        unfold PrRow
        rw [prRow_append, prRow_one, List.length_append, Hfl.out]
        exact h1
      have HRow : Hid (World.ownsRow (U.alloc (.cells #[.int .i64 x1, .int .i64 x0, .string x3, .string x2, .string x4] 25)) w1.heap.size 25 5 (.slice sa k sc) k (prRow OL)) := by
        have := World.ownsRow.alloc HU3.out (.cells #[.int .i64 x1, .int .i64 x0, .string x3, .string x2, .string x4] 25)
        rw [Hfl.out] at this
        exact this
      have s1 : Hid (∀ u ∈ ([.int .i64 x1, .int .i64 x0, .string x3, .string x2, .string x4] : List Value), u.oneCell' = true) := by intro u hu; simp at hu; rcases hu with rfl | rfl | rfl | rfl | rfl <;> rfl
      have s2 : Hid (k + 1 ≤ maxLen ∧ (k + 1) * 64 ≤ 140737488355328) := by have := HSz.out; unfold Hid maxLen; omega
      have s4 : Hid (w1.heap.size ≤ (U.alloc (.cells #[.int .i64 x1, .int .i64 x0, .string x3, .string x2, .string x4] 25)).heap.size) := by have := HU1.out.size; unfold Hid; simp; omega
      have hbA : Below U.heap.size U (U.alloc (.cells #[.int .i64 x1, .int .i64 x0, .string x3, .string x2, .string x4] 25)) := (Below.refl _ U).alloc (Nat.le_refl _) _
      clear HCell HU1 HU3
      refine L_one (i := 27) (by kernel_rfl) ?_
      refine wpOp_step rfl ?_
      intro K hK
      rw [if_pos (by rfl)]
      have hK' : Shut (∀ a w, _ → K a w) := hK
      clear hK
      go_wp2_with fail
      refine hK'.out _ _ ?_
      clear hK' K
      refine ⟨hbA, ?_⟩
      try simp only [Act.put, List.getElem_toArray, List.getElem_cons_succ, List.getElem_cons_zero, List.setIfInBounds_toArray, List.set_cons_zero, List.set_cons_succ]
      refine L_go (by kernel_rfl) (by kernel_rfl) ?_
      refine wpOp_step rfl (fun K hK => ?_)
      refine step_append_lies _ rfl (.tmp 45) (.tmp 72) 22 rfl w1.heap.size 25 i0 (.agg #[.int .i64 0, .int .i64 0, .string ByteArray.empty, .string ByteArray.empty, .string ByteArray.empty]) 5 64 Try.underlying22 hi hz0 hz1 hz2 rfl (Nat.zero_lt_succ _) (.slice sa k sc) k (prRow OL) rfl HRow.out ⟨U.heap.size, 0, none⟩ 1 1 [.int .i64 x1, .int .i64 x0, .string x3, .string x2, .string x4] rfl rfl (World.news_of_block (show (U.alloc (.cells #[.int .i64 x1, .int .i64 x0, .string x3, .string x2, .string x4] 25)).heap[U.heap.size]? = some (.cells #[.int .i64 x1, .int .i64 x0, .string x3, .string x2, .string x4] 25 (0, 0)) by unfold World.alloc; simp only [Array.getElem?_push_size])) s1.out (Nat.zero_lt_one) s2.out.1 s2.out.2 s4.out (U.heap.size + 1) (by simp) ?_
      intro g' cap' w6 hown' hgrow hat hlt2
      have HM6 : Hid _ := HAdd.out _ w6 hown' hgrow
      refine hK _ _ ?_
      clear hK K hown' hgrow HAdd HRow hat hlt2 hbA
      refine wpAny_take (i := 29) (v := .slice (some ⟨g', 0, none⟩) (k + 1) cap') rfl (by kernel_rfl) (by kernel_rfl) (by kernel_rfl) (fun _ _ _ h => h) (Or.inl ⟨by rfl, fun w => by go_simp⟩) ?_
      simp only [Act.put, List.getElem_toArray, List.getElem_cons_succ, List.getElem_cons_zero, List.setIfInBounds_toArray, List.set_cons_zero, List.set_cons_succ]
      refine wpAny_done (by kernel_rfl) ?_ _
      go_wp2
      go_roundw
      case rel => exact ⟨k + 1, _, _, by omega, by go_num, rfl, HM6⟩
      case measure => simp [RowKit.intOf]; omega
    · obtain rfl : k = l.length := by omega
      have r1 := HR.out.1
      rw [List.take_length] at r1
      obtain ⟨hml, hpr⟩ := PrRow.isPr' r1
      have HB2 : Hid (Below w.heap.size w wr) := HB1.out.trans (HR.out.2.mono HB1.out.size)
      have hl64 : l.length ≤ 9223372036854775807 := by have := HSz.out; omega
      have HC1 : Hid (Calls Try.prog 4 #[.slice a l.length cap, .slice a2 b.length cap2, .string cur] wr (LeftEnd l b cur wr)) := HLf.out wr a cap l HB2.out (HPr.out.below HB2.out) hl64
      have HC2 : Hid (∀ W, Below wr.heap.size wr W → Calls Try.prog 4 #[.slice sa l.length sc, .slice a2 b.length cap2, .string cur] W fun e w' => Below W.heap.size W w' ∧ (lfE l b cur ≠ 0 → e = .returned (.tuple #[.slice none 0 0, enE (lfE l b cur)])) ∧ (lfE l b cur = 0 → ∃ g, e = .returned (.tuple #[.slice (some ⟨g, 0, none⟩) l.length l.length, .nilIface]) ∧ W.heap.size ≤ g ∧ NRow w' g (l.map (lfV b cur)))) := fun W hW => by
        have h := HLf.out W sa sc (l.map tuX) (HB2.out.trans (hW.mono HB2.out.size)) (hpr.below hW) (by rw [List.length_map]; exact hl64)
        unfold LeftEnd at h
        rw [tu_bad, tu_left, List.length_map] at h
        exact h
      have q1 : ¬ (l.length : Int) < l.length := by omega
      have HLen : Hid ((l.map (lfV b cur)).length = l.length) := List.length_map _
      have H20 : Hid (lfE l b cur = 0 → l.length ≤ 20) := fun h => (lfE_ok.1 h).1
      clear HR r1 hpr HLf HPr HBl HSz hml HB1
      unfold LeftEnd at HC1
      generalize l.map (lfV b cur) = R at *
      generalize lfE l b cur = z at *
      by_cases c1 : z = 0
      · have HD1 : Hid (Calls Try.prog 4 #[.slice a l.length cap, .slice a2 b.length cap2, .string cur] wr fun e w' => ∃ g, e = .returned (.tuple #[.slice (some ⟨g, 0, none⟩) l.length l.length, .nilIface]) ∧ Hid (NRow w' g R ∧ Below wr.heap.size wr w')) := by
          refine HC1.out.mono ?_
          rintro e w' ⟨y1, _, y3⟩
          obtain ⟨g, rfl, _, hr⟩ := y3 c1
          exact ⟨g, rfl, hr, y1⟩
        have HD2 : Hid (∀ W, Below wr.heap.size wr W → Calls Try.prog 4 #[.slice sa l.length sc, .slice a2 b.length cap2, .string cur] W fun e w' => ∃ g, e = .returned (.tuple #[.slice (some ⟨g, 0, none⟩) l.length l.length, .nilIface]) ∧ Hid (NRow w' g R ∧ Below W.heap.size W w')) := fun W hW => by
          refine (HC2.out W hW).mono ?_
          rintro e w' ⟨y1, _, y3⟩
          obtain ⟨g, rfl, _, hr⟩ := y3 c1
          exact ⟨g, rfl, hr, y1⟩
        have h20 := H20.out c1
        clear HC1 HC2 H20 c1
        go_wp2_with fail
        refine HD1.out.mono ?_
        rintro e w2 ⟨g1, rfl, H1⟩
        go_wp2_with fail
        refine (HD2.out w2 H1.out.2).mono ?_
        rintro e w3 ⟨g2, rfl, H2⟩
        have HS : Hid (Calls Try.prog 5 #[.slice (some ⟨g1, 0, none⟩) l.length l.length, .slice (some ⟨g2, 0, none⟩) l.length l.length] w3 fun e w' => e = .returned (.bool true) ∧ Below w3.heap.size w3 w') := sameInts_any _ _ R w3 (by rw [HLen.out]; omega) (nrow_ints (H1.out.1.belowS H2.out.2 H1.out.1.ltS) _ HLen.out.symm) (nrow_ints H2.out.1 _ HLen.out.symm)
        have HB3 : Hid (Below w.heap.size w w3) := by
          have z1 := HB2.out.trans (H1.out.2.mono HB2.out.size)
          exact z1.trans (H2.out.2.mono z1.size)
        clear HD1 HD2 H1 H2 HB2
        go_wp2_with fail
        refine HS.out.mono ?_
        rintro e w4 ⟨rfl, hb4⟩
        have HB4 : Hid (Below w.heap.size w w4) := HB3.out.trans (hb4.mono HB3.out.size)
        clear HS hb4 HB3
        go_wp2_with fail
        go_quiet (fail)
        rename Nat => nq
        go_wp2
        go_ret
        exact ⟨rfl, ch_drewN HB4.out nq⟩
      · have HD1 : Hid (Calls Try.prog 4 #[.slice a l.length cap, .slice a2 b.length cap2, .string cur] wr fun e w' => e = .returned (.tuple #[.slice none 0 0, .iface 35 (.int .i64 z)]) ∧ Hid (Below wr.heap.size wr w')) := by
          refine HC1.out.mono ?_
          rintro e w' ⟨y1, y2, _⟩
          have := y2 c1
          rw [enE_ne c1] at this
          exact ⟨this, y1⟩
        have HD2 : Hid (∀ W, Below wr.heap.size wr W → Calls Try.prog 4 #[.slice sa l.length sc, .slice a2 b.length cap2, .string cur] W fun e w' => e = .returned (.tuple #[.slice none 0 0, .iface 35 (.int .i64 z)]) ∧ Hid (Below W.heap.size W w')) := fun W hW => by
          refine (HC2.out W hW).mono ?_
          rintro e w' ⟨y1, y2, _⟩
          have := y2 c1
          rw [enE_ne c1] at this
          exact ⟨this, y1⟩
        clear HC1 HC2 H20 c1
        go_wp2_with fail
        refine HD1.out.mono ?_
        rintro e w2 ⟨rfl, H1⟩
        go_wp2_with fail
        refine (HD2.out w2 H1.out).mono ?_
        rintro e w3 ⟨rfl, H2⟩
        have HS : Hid (Calls Try.prog 5 #[.slice none 0 0, .slice none 0 0] w3 fun e w' => e = .returned (.bool true) ∧ Below w3.heap.size w3 w') := sameInts_any _ _ [] w3 (by simp) (hasInts_nil _) (hasInts_nil _)
        have HB3 : Hid (Below w.heap.size w w3) := by
          have z1 := HB2.out.trans (H1.out.mono HB2.out.size)
          exact z1.trans (H2.out.mono z1.size)
        clear HD1 HD2 H1 H2 HB2
        go_wp2_with fail
        refine HS.out.mono ?_
        rintro e w4 ⟨rfl, hb4⟩
        have HB4 : Hid (Below w.heap.size w w4) := HB3.out.trans (hb4.mono HB3.out.size)
        clear HS hb4 HB3
        go_wp2_with fail
        go_quiet (fail)
        rename Nat => nq
        go_wp2
        go_ret
        exact ⟨rfl, ch_drewN HB4.out nq⟩
end Go.Proofs.Yteoifhnhmjcgmaa

namespace Go.Proofs.Yteoifhnhmjcgmaa
set_option linter.unusedVariables false
set_option linter.unusedSimpArgs false
set_option maxRecDepth 100000
open Go.RowKit Go.Lib
theorem ldP_str : Try.prog.cellsOf 9 = 1 := by kernel_rfl
theorem ldP_int : Try.prog.cellsOf 3 = 1 := by kernel_rfl
/-- A place as it can be in memory. -/
structure PkOk (k : Pk) : Prop where
  ent : -9223372036854775808 ≤ k.1 ∧ k.1 ≤ 9223372036854775807
  acc : k.2.1.size ≤ maxLen
  cur : k.2.2.size ≤ maxLen
/-- A balance as it can be in memory. -/
structure BlOk (x : Bl) : Prop where
  key : PkOk x.key
  amt : -9223372036854775808 ≤ x.amt ∧ x.amt ≤ 9223372036854775807
end Go.Proofs.Yteoifhnhmjcgmaa

namespace Go.Proofs.Yteoifhnhmjcgmaa
set_option linter.unusedVariables false
set_option linter.unusedSimpArgs false
set_option maxRecDepth 100000
open Go.RowKit Go.Lib

theorem ld_add (b off i : Nat) : (⟨b, off, none⟩ : Addr).add i = ⟨b, off + i, none⟩ := by
  rcases Nat.eq_zero_or_pos i with h | h
  · subst h; simp [Addr.add]
  · simp [Addr.add]; omega
theorem ld_wf {n : Int} (h : (Lit.int .i64 n).wf = true) : -9223372036854775808 ≤ n ∧ n ≤ 9223372036854775807 := by
  simp [Lit.wf, IntKind.min, IntKind.max, IntKind.bits, IntKind.signed] at h
  omega
section
variable {H : Type} {enc : TypeId × Value → H}
theorem ld_cell_string {w : World} {base : Nat} {spare : Nat → Bool} {held : Bool} {m : Nat} {c : Value} {y : DataW H × List MemPlace} (h : DataW.trod enc Try.prog w base spare held m 9 [c] = some y) : ∃ s, c = .string s ∧ s.size ≤ maxLen := by
  cases m with
  | zero => simp [DataW.trod] at h
  | succ m =>
    rw [DataW.trod_step] at h
    unfold DataW.trodStep at h
    rw [Try.underlying9] at h
    cases c <;> simp at h
    exact ⟨_, rfl, h.1⟩

theorem ld_cell_int {w : World} {base : Nat} {spare : Nat → Bool} {held : Bool} {m : Nat} {c : Value} {y : DataW H × List MemPlace} (h : DataW.trod enc Try.prog w base spare held m 3 [c] = some y) : ∃ n, c = .int .i64 n ∧ (Lit.int .i64 n).wf = true := by
  cases m with
  | zero => simp [DataW.trod] at h
  | succ m =>
    rw [DataW.trod_step] at h
    unfold DataW.trodStep at h
    rw [Try.underlying3] at h
    cases c <;> simp at h
    rename_i k n
    obtain ⟨⟨rfl, h2⟩, _⟩ := h
    exact ⟨n, rfl, h2⟩

theorem ld_bal_cells : Try.prog.cellsOf 32 = 4 := by kernel_rfl
theorem ld_open_bal {w : World} {base : Nat} {spare : Nat → Bool} {held : Bool} {m : Nat} {cs : List Value} {x : DataW H × List MemPlace} (h : DataW.trod enc Try.prog w base spare held m 32 cs = some x) : ∃ a : Bl, cs = a.cells.toList ∧ BlOk a := by
  cases m with
  | zero => simp [DataW.trod] at h
  | succ m =>
    rw [DataW.trod_step] at h
    unfold DataW.trodStep at h
    rw [Try.underlying32] at h
    simp only [ld_bal_cells] at h
    split at h
    · rename_i hl
      match cs, hl with
      | [c0, c1, c2, c3], _ =>
        simp [ldP_str, ldP_int] at h
        cases h0 : DataW.trod enc Try.prog w base spare held m 3 [c0]
        · simp [h0] at h
        cases h1 : DataW.trod enc Try.prog w base spare held m 9 [c1]
        · simp [h0, h1] at h
        cases h2 : DataW.trod enc Try.prog w base spare held m 9 [c2]
        · simp [h0, h1, h2] at h
        cases h3 : DataW.trod enc Try.prog w base spare held m 3 [c3]
        · simp [h0, h1, h2, h3] at h
        obtain ⟨f, rfl, hf⟩ := ld_cell_int h0
        obtain ⟨s, rfl, hs⟩ := ld_cell_string h1
        obtain ⟨t, rfl, ht⟩ := ld_cell_string h2
        obtain ⟨p, rfl, hp⟩ := ld_cell_int h3
        exact ⟨⟨f, s, t, p⟩, rfl, ⟨ld_wf hf, hs, ht⟩, ld_wf hp⟩
    · cases h

/-- Balances that came in. -/
theorem ld_bls_of_trod {W : World} {a : Option Addr} {len cap fuel : Nat} {x : DataW H × List MemPlace} (h : DataW.trod enc Try.prog W 0 (fun _ => true) true fuel 23 [.slice a len cap] = some x) :
    ∃ l : List Bl, l.length = len ∧ IsBl W a l cap ∧ (∀ x ∈ l, BlOk x) ∧ len ≤ maxLen := by
  rcases Go.Deep.open_slice Try.underlying23 h with ⟨hcs, _⟩ | ⟨x, l, c, m, n, D, Pl, hcs, _, hl, hm, hmm, _, hx⟩
  · simp at hcs
    obtain ⟨rfl, rfl, rfl⟩ := hcs
    exact ⟨[], rfl, ⟨by simp, .inl rfl⟩, by simp, by unfold maxLen; omega⟩
  · simp at hcs
    obtain ⟨rfl, rfl, rfl⟩ := hcs
    have hmm2 : m = cap := hmm
    rw [ld_bal_cells] at hx
    have hr : ∀ i, i < len → ∃ r : Bl, (∀ j, j < 4 → W.cell? ((x.add (i * 4)).add j) = r.cells.toList[j]?) ∧ BlOk r := fun i hi => by
      obtain ⟨cs', h1, h2⟩ := hx i (by omega)
      obtain ⟨r, rfl, hw⟩ := ld_open_bal h2
      exact ⟨r, (World.cells?_some h1).2.2, hw⟩
    obtain ⟨f, hf⟩ := @Go.Deep.choose_lt Bl ⟨bl0⟩ _ _ hr
    have hget : ∀ k, k < len → ((List.range len).map f).getD k bl0 = f k := fun k hk => by simp [List.getD, hk]
    have hlen : ((List.range len).map f).length = len := by simp
    refine ⟨(List.range len).map f, hlen, ⟨by rw [hlen]; exact hl, ?_⟩, ?_, Nat.le_trans hl hm⟩
    · by_cases h0 : len = 0
      · subst h0
        exact .inl rfl
      · right
        obtain ⟨b, off, spot⟩ := x
        have hc : W.cell? ⟨b, off, spot⟩ = some (.int .i64 (f 0).ent) := (hf 0 (by omega)).1 0 (by omega)
        have hspot : spot = none := World.cell?_spot hc
        subst hspot
        have hlt : b < W.heap.size := World.block_lt_of_cell? _ _ hc
        refine ⟨b, off, rfl, hlt, fun k hk => ?_⟩
        rw [hlen] at hk
        rw [hget k hk]
        have C : ∀ i, i < 4 → W.cell? ⟨b, off + k * 4 + i, none⟩ = (f k).cells.toList[i]? := fun i hi => by
          have := (hf k hk).1 i hi
          rw [ld_add, ld_add] at this
          exact this
        exact ⟨C 0 (by omega), C 1 (by omega), C 2 (by omega), C 3 (by omega)⟩
    · intro y hy
      obtain ⟨k, hk, rfl⟩ := List.mem_map.1 hy
      exact (hf k (List.mem_range.1 hk)).2

end

end Go.Proofs.Yteoifhnhmjcgmaa

namespace Go.Proofs.Yteoifhnhmjcgmaa
set_option linter.unusedVariables false
set_option linter.unusedSimpArgs false
set_option maxRecDepth 100000
open Go.RowKit Go.Lib

/-- A pair that came in. -/
def PrOk (x : Pr) : Prop := (-9223372036854775808 ≤ x.ea ∧ x.ea ≤ 9223372036854775807) ∧ (-9223372036854775808 ≤ x.eb ∧ x.eb ≤ 9223372036854775807) ∧ x.one.size ≤ maxLen ∧ x.oth.size ≤ maxLen ∧ x.dif.size ≤ maxLen
section
variable {H : Type} {enc : TypeId × Value → H}
theorem pr_cells : Try.prog.cellsOf 25 = 5 := by kernel_rfl
theorem pr_open {w : World} {base : Nat} {spare : Nat → Bool} {held : Bool} {m : Nat} {cs : List Value} {x : DataW H × List MemPlace} (h : DataW.trod enc Try.prog w base spare held m 25 cs = some x) : ∃ a : Pr, cs = a.cells.toList ∧ PrOk a := by
  cases m with
  | zero => simp [DataW.trod] at h
  | succ m =>
    rw [DataW.trod_step] at h
    unfold DataW.trodStep at h
    rw [Try.underlying25] at h
    simp only [pr_cells] at h
    split at h
    · rename_i hl
      match cs, hl with
      | [c0, c1, c2, c3, c4], _ =>
        simp [ldP_str, ldP_int] at h
        cases h0 : DataW.trod enc Try.prog w base spare held m 3 [c0]
        · simp [h0] at h
        cases h1 : DataW.trod enc Try.prog w base spare held m 3 [c1]
        · simp [h0, h1] at h
        cases h2 : DataW.trod enc Try.prog w base spare held m 9 [c2]
        · simp [h0, h1, h2] at h
        cases h3 : DataW.trod enc Try.prog w base spare held m 9 [c3]
        · simp [h0, h1, h2, h3] at h
        cases h4 : DataW.trod enc Try.prog w base spare held m 9 [c4]
        · simp [h0, h1, h2, h3, h4] at h
        obtain ⟨f, rfl, hf⟩ := ld_cell_int h0
        obtain ⟨p, rfl, hp⟩ := ld_cell_int h1
        obtain ⟨s, rfl, hs⟩ := ld_cell_string h2
        obtain ⟨t, rfl, ht⟩ := ld_cell_string h3
        obtain ⟨u, rfl, hu⟩ := ld_cell_string h4
        exact ⟨⟨f, p, s, t, u⟩, rfl, ld_wf hf, ld_wf hp, hs, ht, hu⟩
    · cases h

/-- Pairs that came in. -/
theorem prs_of_trod {W : World} {a : Option Addr} {len cap fuel : Nat} {x : DataW H × List MemPlace} (h : DataW.trod enc Try.prog W 0 (fun _ => true) true fuel 22 [.slice a len cap] = some x) :
    ∃ l : List Pr, l.length = len ∧ IsPr W a l cap ∧ (∀ x ∈ l, PrOk x) ∧ len ≤ maxLen := by
  rcases Go.Deep.open_slice Try.underlying22 h with ⟨hcs, _⟩ | ⟨x, l, c, m, n, D, Pl, hcs, _, hl, hm, hmm, _, hx⟩
  · simp at hcs
    obtain ⟨rfl, rfl, rfl⟩ := hcs
    exact ⟨[], rfl, ⟨by simp, .inl rfl⟩, by simp, by unfold maxLen; omega⟩
  · simp at hcs
    obtain ⟨rfl, rfl, rfl⟩ := hcs
    have hmm2 : m = cap := hmm
    rw [pr_cells] at hx
    have hr : ∀ i, i < len → ∃ r : Pr, (∀ j, j < 5 → W.cell? ((x.add (i * 5)).add j) = r.cells.toList[j]?) ∧ PrOk r := fun i hi => by
      obtain ⟨cs', h1, h2⟩ := hx i (by omega)
      obtain ⟨r, rfl, hw⟩ := pr_open h2
      exact ⟨r, (World.cells?_some h1).2.2, hw⟩
    obtain ⟨f, hf⟩ := @Go.Deep.choose_lt Pr ⟨pr0⟩ _ _ hr
    have hget : ∀ k, k < len → ((List.range len).map f).getD k pr0 = f k := fun k hk => by simp [List.getD, hk]
    have hlen : ((List.range len).map f).length = len := by simp
    refine ⟨(List.range len).map f, hlen, ⟨by rw [hlen]; exact hl, ?_⟩, ?_, Nat.le_trans hl hm⟩
    · by_cases h0 : len = 0
      · subst h0
        exact .inl rfl
      · right
        obtain ⟨b, off, spot⟩ := x
        have hc : W.cell? ⟨b, off, spot⟩ = some (.int .i64 (f 0).ea) := (hf 0 (by omega)).1 0 (by omega)
        have hspot : spot = none := World.cell?_spot hc
        subst hspot
        have hlt : b < W.heap.size := World.block_lt_of_cell? _ _ hc
        refine ⟨b, off, rfl, hlt, fun k hk => ?_⟩
        rw [hlen] at hk
        rw [hget k hk]
        have C : ∀ i, i < 5 → W.cell? ⟨b, off + k * 5 + i, none⟩ = (f k).cells.toList[i]? := fun i hi => by
          have := (hf k hk).1 i hi
          rw [ld_add, ld_add] at this
          exact this
        exact ⟨C 0 (by omega), C 1 (by omega), C 2 (by omega), C 3 (by omega), C 4 (by omega)⟩
    · intro y hy
      obtain ⟨k, hk, rfl⟩ := List.mem_map.1 hy
      exact (hf k (List.mem_range.1 hk)).2

end

end Go.Proofs.Yteoifhnhmjcgmaa

namespace Go.Proofs.Yteoifhnhmjcgmaa
open Go.ChangeShapes Go.WideShapes Go.ChangeAt Go.RowKit Go.Deep
open Go.ChangeMaps (open_string shut_string)
set_option linter.unusedVariables false
set_option linter.unusedSimpArgs false

theorem ptu_own : ownKnob Try.prog.godebug = none := by kernel_rfl
theorem ptu_laidOut : laidOutB Try.prog = true := by kernel_rfl

set_option maxRecDepth 100000 in
theorem ptu_lifted (os : Os) (started : os.Started) (H : Type) (enc : TypeId × Value → H) :
    ReturnsInHanded {} Try.checked os 3 .any (Rows.pairTurnsSpec.pre6 enc Try.prog Try.f3 Rows.pairTurnsRow.domain false) (Rows.pairTurnsSpec.post enc Try.prog Try.f3 false true false false) := by
  refine returnsInHanded_of_change_sized (C := Try.checked) ptu_own started (by kernel_rfl) Try.func3
    (ChangeSpec.witness6 (enc := enc) (C := Try.checked) false ⟨#[], #[.slice none 0 0, .slice none 0 0, .string ByteArray.empty], []⟩ 8 (by kernel_rfl) (by kernel_rfl) (by kernel_rfl) (by kernel_rfl)) ?_
  intro W base args ds gs before hval0 hW hcnd hsz0 _
  have hsz : (DataW.weightsEach Try.prog (Try.f3.params.toList ++ Rows.pairTurnsSpec.plain.varTypes Try.prog) (ds ++ gs)).all (· ≤ reachBytes) = true := hsz0
  clear hsz0
  have hval : ∀ (j : Nat) t v, Try.f3.params[j]? = some t → args[j]? = some v → Value.okWide Try.prog W .any base t v := hval0
  have hW' := hW
  obtain ⟨p, q, hA0, hV, rfl, hfz, hnd⟩ := hW
  have hA : DataW.TrodAll enc Try.prog W 0 (fun _ => true) true Try.f3.params.toList args.toList ds p := hA0
  rw [Try.params3] at hA hval hsz
  obtain ⟨v0, vs0, d0, ds0, p0, q0, hargs, rfl, rfl, h0, r0⟩ := trodAll_cons hA
  obtain ⟨v1, vs1, d1, ds1, p1, q1, rfl, rfl, rfl, h1, r1⟩ := trodAll_cons r0
  obtain ⟨v2, vs2, d2, ds2, p2, q2, rfl, rfl, rfl, h2, r2⟩ := trodAll_cons r1
  obtain ⟨rfl, rfl, rfl⟩ := trodAll_nil r2
  obtain rfl : args = #[v0, v1, v2] := by cases args; simp_all
  obtain ⟨rfl, rfl⟩ := trodVars_none hV
  obtain ⟨a0, len0, cap0, rfl⟩ := okWide_slice Try.underlying22 (hval 0 22 v0 rfl rfl)
  have k0 := h0
  have lt0 : ∀ x ∈ p0, x.block < W.heap.size := by obtain ⟨m, hm⟩ := k0; exact DataW.trod_lt m _ _ _ hm
  have hz0 : len0 * 64 ≤ 140737488355328 := by
    obtain ⟨fuel, hf⟩ := h0
    rcases open_slice Try.underlying22 hf with ⟨hcs, _⟩ | ⟨x, l, cp, m, n, D, Pl, hcs, _, hl, hm, hmm, hx, _⟩
    · simp [Value.cells] at hcs
      omega
    · simp [Value.cells] at hcs
      obtain ⟨rfl, rfl, rfl⟩ := hcs
      simp only [Prod.mk.injEq] at hx
      obtain ⟨rfl, _⟩ := hx
      have := sized_slice hsz (j := 0) (t := 22) (e := 25) rfl rfl Try.underlying22
      rw [show Try.prog.bytesOf 25 = 64 from by kernel_rfl] at this
      simp only [List.length_map, List.length_range, reachBytes] at this
      omega
  obtain ⟨l0, hl0, hi0, ho0, hm0⟩ : ∃ l : List Pr, l.length = len0 ∧ IsPr W a0 l cap0 ∧ (∀ x ∈ l, PrOk x) ∧ len0 ≤ maxLen := by
    obtain ⟨fuel, hf⟩ := h0
    exact prs_of_trod hf
  subst hl0
  obtain ⟨a1, len1, cap1, rfl⟩ := okWide_slice Try.underlying23 (hval 1 23 v1 rfl rfl)
  have k1 := h1
  have lt1 : ∀ x ∈ p1, x.block < W.heap.size := by obtain ⟨m, hm⟩ := k1; exact DataW.trod_lt m _ _ _ hm
  have hz1 : len1 * 48 ≤ 140737488355328 := by
    obtain ⟨fuel, hf⟩ := h1
    rcases open_slice Try.underlying23 hf with ⟨hcs, _⟩ | ⟨x, l, cp, m, n, D, Pl, hcs, _, hl, hm, hmm, hx, _⟩
    · simp [Value.cells] at hcs
      omega
    · simp [Value.cells] at hcs
      obtain ⟨rfl, rfl, rfl⟩ := hcs
      simp only [Prod.mk.injEq] at hx
      obtain ⟨rfl, _⟩ := hx
      have := sized_slice hsz (j := 1) (t := 23) (e := 32) rfl rfl Try.underlying23
      rw [show Try.prog.bytesOf 32 = 48 from by kernel_rfl] at this
      simp only [List.length_map, List.length_range, reachBytes] at this
      omega
  obtain ⟨l1, hl1, hi1, ho1, hm1⟩ : ∃ l : List Bl, l.length = len1 ∧ IsBl W a1 l cap1 ∧ (∀ x ∈ l, BlOk x) ∧ len1 ≤ maxLen := by
    obtain ⟨fuel, hf⟩ := h1
    exact ld_bls_of_trod hf
  subst hl1
  obtain ⟨s2, rfl, rfl, rfl, w2⟩ := open_string Try.underlying9 (hval 2 9 v2 rfl rfl) h2
  clear hA0 hval0
  refine (pturns_walk a0 a1 cap0 cap1 l0 l1 s2 W hi0 hz0 hi1 (by omega)).mono fun e W' ⟨he, bel⟩ => ?_
  subst he
  exact ⟨_, rfl, _, _, _, [], _, [], hW', trodAll_mk1 (shut_bool Try.underlying4 _), (trodAll_cons_mk (Below.trod ptu_laidOut (by kernel_rfl) (of_decide_eq_true (by kernel_rfl)) k0 bel lt0) (trodAll_cons_mk (Below.trod ptu_laidOut (by kernel_rfl) (of_decide_eq_true (by kernel_rfl)) k1 bel lt1) (trodAll_cons_mk (shut_string Try.underlying9 w2) trodAll_mk0))), rfl, bel.frame _, fun h => by cases h⟩

theorem ptu_over : Rows.pairTurnsRow.holds Try.pinned (OpenSpec.ofChange Rows.pairTurnsSpec) :=
  OpenClaim.holds_of_wide 3 Try.f3 rfl rfl rfl rfl rfl rfl rfl ⟨rfl, rfl, rfl, rfl, rfl⟩ rfl rfl rfl rfl rfl (by kernel_rfl) Try.func3 (by kernel_rfl)
    (of_decide_eq_true (by kernel_rfl)) (by unfold Func.isWrapper; first | (rw [if_pos (by decide +kernel)]; kernel_rfl) | (rw [if_neg (by decide +kernel)]; exact ⟨rfl, rfl⟩))
    (fun os started H enc _ => ptu_lifted os started H enc)

/-- The statement. -/
theorem pairTurns_holds : Rows.PairTurnsSaid := ptu_over
#print axioms pairTurns_holds
end Go.Proofs.Yteoifhnhmjcgmaa
