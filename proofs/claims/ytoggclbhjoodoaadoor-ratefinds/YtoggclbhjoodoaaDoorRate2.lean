/-
  Rates in a map: its keys are two currencies and a period, its elements two numbers; what a look-up and a store do. What rate.table comes to.
-/
import Derived.Test.YtoggclbhjoodoaaDoorRate1
import Derived.Maps.OwnSet
import Derived.DeepKeys4
namespace Go.Proofs.YtoggclbhjoodoaaDoor
set_option linter.unusedVariables false
open Go.RowKit Go.Lib Go.Maps

theorem rate_laidOut : laidOutB Tryd.prog = true := by kernel_rfl
theorem pair_row : (64 : TypeId) < Tryd.prog.types.size := of_decide_eq_true (by kernel_rfl)
theorem pair_wide : (match Tryd.prog.underlying 64 with | some (.array _ _) | some (.struct _) => true | _ => false) = true := by kernel_rfl
set_option maxRecDepth 100000 in
theorem pair_law : Keyed Tryd.prog 64 := Keyed.of_law (deep_law_laid rate_laidOut (m := 3) (by omega) pair_row (by kernel_rfl) pair_wide)
theorem pair_type : Tryd.prog.keyType 64 = true := by kernel_rfl
theorem pair_cells : Tryd.prog.cellsOf 64 = 3 := by kernel_rfl
theorem str_cells : Tryd.prog.cellsOf 9 = 1 := by kernel_rfl
theorem int_cells : Tryd.prog.cellsOf 3 = 1 := by kernel_rfl
theorem rate_types : Tryd.prog.types.size = 167 := by kernel_rfl

/-- A key's value. -/
def pairV (f t : ByteArray) (p : Int) : Value := .agg #[.string f, .string t, .int .i64 p]
/-- What it reads as. -/
def keyL (f t : ByteArray) (p : Int) : Lit := .string (keyBytes [.string f.data.toList, .string t.data.toList, .int .i64 p])

theorem keyOf_pair {f t : ByteArray} {p : Int} (hf : f.size ≤ maxLen) (ht : t.size ≤ maxLen) (hp : (Lit.int .i64 p).wf = true) : keyOf Tryd.prog 64 (pairV f t p) = some (keyL f t p) := by
  have k1 : ∀ d (s : ByteArray), s.size ≤ maxLen → Tryd.prog.keyLits (d + 1) 9 [.string s] = some [.string s.data.toList] := fun d s hs => by
    simp [Program.keyLits, Tryd.underlying9, hs]
  have k2 : ∀ d, Tryd.prog.keyLits (d + 1) 3 [.int .i64 p] = some [.int .i64 p] := fun d => by
    simp [Program.keyLits, Tryd.underlying3, hp]
  have k3 : ∀ d, Tryd.prog.keyLits (d + 1 + 1) 64 [.string f, .string t, .int .i64 p] = some [.string f.data.toList, .string t.data.toList, .int .i64 p] := fun d => by
    unfold Program.keyLits
    simp [Tryd.underlying64, pair_cells, str_cells, int_cells, k1 d f hf, k1 d t ht, k2 d]
  have k4 : Tryd.prog.types.size + 1 = Tryd.prog.types.size - 1 + 1 + 1 := by rw [rate_types]
  unfold keyOf
  rw [Tryd.underlying64]
  simp only [pair_type, Value.formed, Tryd.underlying64, pairV, pair_cells, Value.cells]
  rw [k4, k3]
  rfl

theorem keyL_isKey (f t : ByteArray) (p : Int) : WideAt.IsKeyLit (keyL f t p) := trivial

theorem keyL_inj {f t f' t' : ByteArray} {p p' : Int} (hf : f.size ≤ maxLen) (ht : t.size ≤ maxLen) (hp : (Lit.int .i64 p).wf = true) (hf' : f'.size ≤ maxLen) (ht' : t'.size ≤ maxLen) (hp' : (Lit.int .i64 p').wf = true)
    (h : keyL f t p = keyL f' t' p') : f = f' ∧ t = t' ∧ p = p' := by
  have h1 := keyOf_pair hf ht hp
  have h2 := keyOf_pair hf' ht' hp'
  rw [← h] at h2
  have := pair_law.inj h1 h2
  simpa [pairV] using this

/-- What n of one are of the other. -/
def wD (n d : Int) : DataW Unit := .agg [.lit (.int .i64 n), .lit (.int .i64 d)]
theorem wD_inj {n d n' d' : Int} (h : wD n d = wD n' d') : n = n' ∧ d = d' := by simpa [wD] using h
def worthV (n d : Int) : Value := .agg #[.int .i64 n, .int .i64 d]
def worthR : Value → Option (DataW Unit × List MemPlace)
  | .agg xs => match xs.toList with
    | [.int .i64 n, .int .i64 d] => some (wD n d, [])
    | _ => none
  | _ => none
theorem worthR_mk (n d : Int) : worthR (worthV n d) = some (wD n d, []) := rfl
theorem worthR_inv {v : Value} {z : DataW Unit × List MemPlace} (h : worthR v = some z) : ∃ n d, v = worthV n d ∧ z = (wD n d, []) := by
  unfold worthR at h
  split at h
  · rename_i xs
    split at h
    · rename_i n d hl
      obtain ⟨l⟩ := xs
      simp only at hl
      subst hl
      exact ⟨n, d, rfl, by simpa using h.symm⟩
    · cases h
  · cases h
theorem worth_zero (w : World) : (zeroValue 61).run Tryd.prog w = .ok (worthV 0 0) w := by kernel_rfl

/-- The map at a block. -/
abbrev TabAt (w : World) (b n : Nat) (D : DataW Unit) : Prop := w.ownsMap Tryd.prog 64 worthR b n D

theorem look_worth {P : Program} {ops : Array Oper} {rest : List Oper} {o : Oper} {a : Act} {Q : Exit → Act → World → Prop} (w : World) (hP : P = Tryd.prog) (hg : o.guard = none) (m x : Operand) (hop : o.op = Op.lookup 42 m x true) (b n : Nat) (D : DataW Unit)
    (hm : a.eval m = .map (some b)) (hown : TabAt w b n D) (key : Value) (kl : Lit) (hx : a.eval x = key) (hkey : keyOf Tryd.prog 64 key = some kl)
    (hK : ∀ p q : Int, D.atKey kl (wD 0 0) = wD p q → wpList P ops Q rest (a.put o.dst (.tuple #[.agg #[.int .i64 p, .int .i64 q], .bool (Maps.has D kl)])) w) :
    wpList P ops Q (o :: rest) a w := by
  subst hP
  refine wpList_lookup_own_ok w hg m x _ hop _ _ pair_law Tryd.underlying42 worthR (worth_zero w) (wD 0 0) [] (worthR_mk 0 0) b n D hm hown key kl hx hkey (fun v ps hv => ?_)
  obtain ⟨p, q, rfl, hz⟩ := worthR_inv hv
  exact hK p q (congrArg Prod.fst hz)

/-- What a rate adds. -/
def tabPut (D : DataW Unit) (r : Rt) : DataW Unit := (D.put (keyL r.frm r.dst r.per) (wD r.num r.den)).put (keyL r.dst r.frm r.per) (wD r.den r.num)
/-- What is wrong with rates, from one on; or all in one. -/
def tabGo : DataW Unit → List Rt → Int × DataW Unit
  | D, [] => (0, D)
  | D, r :: rs => if rateBad r ≠ 0 then (rateBad r, D) else if Maps.has D (keyL r.frm r.dst r.per) = true then (8, D) else tabGo (tabPut D r) rs
def tabS (rs : List Rt) : Int × DataW Unit := if 100 < rs.length then (4, .map []) else tabGo (.map []) rs

theorem tabGo_nil (D : DataW Unit) : tabGo D [] = (0, D) := rfl
theorem tabGo_bad {D : DataW Unit} {r : Rt} {rs : List Rt} (h : rateBad r ≠ 0) : tabGo D (r :: rs) = (rateBad r, D) := by simp [tabGo, h]
theorem tabGo_clash {D : DataW Unit} {r : Rt} {rs : List Rt} (h : rateBad r = 0) (h2 : Maps.has D (keyL r.frm r.dst r.per) = true) : tabGo D (r :: rs) = (8, D) := by simp [tabGo, h, h2]
theorem tabGo_step {D : DataW Unit} {r : Rt} {rs : List Rt} (h : rateBad r = 0) (h2 : Maps.has D (keyL r.frm r.dst r.per) = false) : tabGo D (r :: rs) = tabGo (tabPut D r) rs := by simp [tabGo, h, h2]
theorem tabS_full {rs : List Rt} (h : 100 < rs.length) : tabS rs = (4, .map []) := by simp [tabS, h]
theorem tabS_go {rs : List Rt} (h : ¬ 100 < rs.length) : tabS rs = tabGo (.map []) rs := by simp [tabS, h]
end Go.Proofs.YtoggclbhjoodoaaDoor
