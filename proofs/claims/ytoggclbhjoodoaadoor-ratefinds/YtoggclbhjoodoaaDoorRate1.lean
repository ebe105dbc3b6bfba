/-
  The contract of rate.check: what is wrong with a rate by itself.
-/
import Derived.Test.YtoggclbhjoodoaaDoorCur
namespace Go.Proofs.YtoggclbhjoodoaaDoor
set_option linter.unusedVariables false
open Go.RowKit Go.Lib

theorem texts_ne {a b : ByteArray} (h : a ≠ b) : (a.toList == b.toList) = false := by
  rw [beq_eq_false_iff_ne]
  intro e
  rw [Lib.toList_data, Lib.toList_data] at e
  exact h (WideShapes.bytes_inj e)

/-- A rate. -/
structure Rt where
  frm : ByteArray
  dst : ByteArray
  per : Int
  num : Int
  den : Int

def Rt.cells (r : Rt) : Array Value := #[.string r.frm, .string r.dst, .int .i64 r.per, .int .i64 r.num, .int .i64 r.den]

/-- An error by its number. -/
def errV (n : Int) : Value := if n = 0 then .nilIface else .iface 40 (.int .i64 n)
theorem errV_zero : errV 0 = .nilIface := rfl

/-- What is wrong with a rate. -/
def rateBad (r : Rt) : Int :=
  if isCur r.frm = false ∨ isCur r.dst = false then 2
  else if r.frm = r.dst then 3
  else if upTo r.per 120 = false ∨ upTo r.num 1000000000 = false ∨ upTo r.den 1000000000 = false then 1 else 0

structure RtAt (w : World) (b off : Nat) (r : Rt) : Prop where
  c0 : w.cell? ⟨b, off, none⟩ = some (.string r.frm)
  c1 : w.cell? ⟨b, off + 1, none⟩ = some (.string r.dst)
  c2 : w.cell? ⟨b, off + 2, none⟩ = some (.int .i64 r.per)
  c3 : w.cell? ⟨b, off + 3, none⟩ = some (.int .i64 r.num)
  c4 : w.cell? ⟨b, off + 4, none⟩ = some (.int .i64 r.den)

theorem RtAt.below {w w' : World} {b off n : Nat} {r : Rt} (h : RtAt w b off r) (hb : Below n w w') (hn : b < n) : RtAt w' b off r :=
  ⟨(hb.cell (p := ⟨b, off, none⟩) hn).trans h.c0, (hb.cell (p := ⟨b, off + 1, none⟩) hn).trans h.c1, (hb.cell (p := ⟨b, off + 2, none⟩) hn).trans h.c2, (hb.cell (p := ⟨b, off + 3, none⟩) hn).trans h.c3, (hb.cell (p := ⟨b, off + 4, none⟩) hn).trans h.c4⟩

theorem RtAt.new (w : World) (r : Rt) (t : TypeId) : RtAt (w.alloc (.cells r.cells t)) w.heap.size 0 r :=
  ⟨by simp [Rt.cells], by simp [Rt.cells], by simp [Rt.cells], by simp [Rt.cells], by simp [Rt.cells]⟩

set_option maxHeartbeats 2000000 in
theorem check_any (r : Rt) (w : World) :
    Calls Tryd.prog 30 #[.agg r.cells] w fun e w' => e = .returned (errV (rateBad r)) ∧ Below w.heap.size w w' := by
  have hn := RtAt.new w r 39
  obtain ⟨f, t, p, n, d⟩ := r
  have b0 : Below w.heap.size w (w.alloc (.cells #[.string f, .string t, .int .i64 p, .int .i64 n, .int .i64 d] 39)) := (Below.refl _ w).alloc (Nat.le_refl _) _
  have hsz : (w.alloc (.cells #[.string f, .string t, .int .i64 p, .int .i64 n, .int .i64 d] 39)).heap.size = w.heap.size + 1 := by simp
  obtain ⟨res, hres⟩ : ∃ res, rateBad ⟨f, t, p, n, d⟩ = res := ⟨_, rfl⟩
  simp only [Rt.cells] at hn ⊢
  rw [hres]
  have Hres : Hid (rateBad ⟨f, t, p, n, d⟩ = res) := hres
  clear hres
  have hn0 := hn
  obtain ⟨c0, c1, c2, c3, c4⟩ := hn
  simp only [Nat.zero_add] at c0 c1 c2 c3 c4
  go_enter Tryd.func30, Tryd.ntmps30
  go_wp2_with fail
  refine (cur_any f _).mono ?_
  rintro e w1 ⟨rfl, hb1⟩
  rw [hsz] at hb1
  clear c0 c1 c2 c3 c4
  have hn1 := hn0.below hb1 (Nat.lt_succ_self _)
  have B1 := b0.trans (hb1.mono (Nat.le_succ _))
  clear b0 hn0
  cases h1 : isCur f
  · have e1 : res = 2 := by rw [← Hres.out]; simp [rateBad, h1]
    subst e1
    go_wp2
    go_ret
    exact ⟨rfl, B1⟩
  obtain ⟨c0, c1, c2, c3, c4⟩ := hn1
  simp only [Nat.zero_add] at c0 c1 c2 c3 c4
  go_wp2_with fail
  refine (cur_any t _).mono ?_
  rintro e w2 ⟨rfl, hb2⟩
  have hn2 := (RtAt.mk c0 c1 c2 c3 c4 : RtAt w1 w.heap.size 0 ⟨f, t, p, n, d⟩).below hb2 (by have := hb1.size; omega)
  have B2 := B1.trans (hb2.mono (by have := hb1.size; omega))
  clear c0 c1 c2 c3 c4 hb1 B1 hb2
  cases h2 : isCur t
  · have e1 : res = 2 := by rw [← Hres.out]; simp [rateBad, h1, h2]
    subst e1
    go_wp2
    go_ret
    exact ⟨rfl, B2⟩
  obtain ⟨c0, c1, c2, c3, c4⟩ := hn2
  simp only [Nat.zero_add] at c0 c1 c2 c3 c4
  by_cases h3 : f = t
  · have e1 : res = 3 := by rw [← Hres.out]; simp [rateBad, h2, h3]
    subst e1
    subst h3
    go_wp2
    go_ret
    exact ⟨rfl, B2⟩
  have h3' := texts_ne h3
  have eR : res = if upTo p 120 = false ∨ upTo n 1000000000 = false ∨ upTo d 1000000000 = false then 1 else 0 := by
    rw [← Hres.out]; simp [rateBad, h1, h2, h3]
  have ER : Hid (res = if upTo p 120 = false ∨ upTo n 1000000000 = false ∨ upTo d 1000000000 = false then 1 else 0) := eR
  clear eR Hres
  go_wp2_with fail
  refine (upTo_any p 120 _).mono ?_
  rintro e w' ⟨rfl, hw⟩
  rw [hw]; clear hw w'
  cases h4 : upTo p 120
  · have e1 : res = 1 := by rw [ER.out]; simp [h4]
    subst e1
    go_wp2
    go_ret
    exact ⟨rfl, B2⟩
  go_wp2_with fail
  refine (upTo_any n 1000000000 _).mono ?_
  rintro e w' ⟨rfl, hw⟩
  rw [hw]; clear hw w'
  cases h5 : upTo n 1000000000
  · have e1 : res = 1 := by rw [ER.out]; simp [h5]
    subst e1
    go_wp2
    go_ret
    exact ⟨rfl, B2⟩
  go_wp2_with fail
  refine (upTo_any d 1000000000 _).mono ?_
  rintro e w' ⟨rfl, hw⟩
  rw [hw]; clear hw w'
  cases h6 : upTo d 1000000000
  · have e1 : res = 1 := by rw [ER.out]; simp [h6]
    subst e1
    go_wp2
    go_ret
    exact ⟨rfl, B2⟩
  have e1 : res = 0 := by rw [ER.out]; simp [h4, h5, h6]
  subst e1
  go_wp2
  go_ret
  exact ⟨rfl, B2⟩
end Go.Proofs.YtoggclbhjoodoaaDoor
