/-
  The contract of a journal's Turns.
-/
import Derived.Test.YtffekgndlhleiaaDoorJn7
namespace Go.Proofs.YtffekgndlhleiaaDoor
set_option linter.unusedVariables false
set_option linter.unusedSimpArgs false
set_option maxRecDepth 100000
open Go.RowKit Go.Lib Math

theorem sum_abs {M : Int} (hM : 0 ≤ M) : ∀ {l : List Int}, (∀ x ∈ l, -M ≤ x ∧ x ≤ M) → -(M * l.length) ≤ l.sum ∧ l.sum ≤ M * l.length
  | [], _ => by simp
  | x :: l, h => by
    have h1 := h x (by simp)
    have h2 := sum_abs hM (l := l) (fun y hy => h y (by simp [hy]))
    simp only [List.sum_cons, List.length_cons]
    have e : M * ((l.length + 1 : Nat) : Int) = M * (l.length : Int) + M := by rw [Int.natCast_add, Int.mul_add]; simp
    rw [e]
    omega
theorem dOf_mem {acc cur : ByteArray} {l : List Ln} {z : Int} (h : z ∈ dOf acc cur l) : ∃ x ∈ l, x.amt = z ∧ 0 < z := by
  unfold dOf at h
  obtain ⟨x, hx, rfl⟩ := List.mem_map.1 h
  obtain ⟨h1, h2⟩ := List.mem_filter.1 hx
  rw [Bool.and_eq_true] at h2
  exact ⟨x, h1, rfl, by simpa using h2.2⟩
theorem cOf_mem {acc cur : ByteArray} {l : List Ln} {z : Int} (h : z ∈ cOf acc cur l) : ∃ x ∈ l, x.amt = z ∧ z ≤ 0 := by
  unfold cOf at h
  obtain ⟨x, hx, rfl⟩ := List.mem_map.1 h
  obtain ⟨h1, h2⟩ := List.mem_filter.1 hx
  rw [Bool.and_eq_true] at h2
  exact ⟨x, h1, rfl, by simpa using h2.2⟩
theorem allL_mem {es : List Je} {y : Ln} (h : y ∈ allL es) : ∃ x ∈ es, y ∈ x.lns := by
  unfold allL at h
  exact List.mem_flatMap.1 h
/-- The sums of debits, and of credits. -/
def dSum (acc cur : ByteArray) (l : List Ln) : Int := (dOf acc cur l).sum
def cSum (acc cur : ByteArray) (l : List Ln) : Int := (cOf acc cur l).sum
theorem nonneg_sum {l : List Int} (h : ∀ x ∈ l, 0 ≤ x) : 0 ≤ l.sum := by
  induction l with
  | nil => simp
  | cons x l ih =>
    have := h x (by simp)
    have := ih (fun y hy => h y (by simp [hy]))
    simp only [List.sum_cons]
    omega
theorem nonpos_sum {l : List Int} (h : ∀ x ∈ l, x ≤ 0) : l.sum ≤ 0 := by
  induction l with
  | nil => simp
  | cons x l ih =>
    have := h x (by simp)
    have := ih (fun y hy => h y (by simp [hy]))
    simp only [List.sum_cons]
    omega
theorem amt_i64 {l : List Int} (h : ∀ x ∈ l, -mostA ≤ x ∧ x ≤ mostA) : ∀ i, i < l.length → I64 (l.getD i 0) := fun i hi => by
  have : l.getD i 0 ∈ l := by
    rw [List.getD_eq_getElem?_getD, List.getElem?_eq_getElem hi]
    exact List.getElem_mem hi
  have := h _ this
  unfold mostA at this
  unfold I64
  omega
theorem dSum_bd {acc cur : ByteArray} {l : List Ln} (hA : ∀ y ∈ l, -mostA ≤ y.amt ∧ y.amt ≤ mostA) (hl : l.length ≤ 4000) : 0 ≤ dSum acc cur l ∧ dSum acc cur l ≤ 4000000000000000000 := by
  have h1 : ∀ x ∈ dOf acc cur l, -mostA ≤ x ∧ x ≤ mostA := fun x hx => by
    obtain ⟨y, hy, rfl, _⟩ := dOf_mem hx
    exact hA y hy
  have h2 := sum_abs (M := mostA) (by unfold mostA; omega) h1
  have h3 := dOf_len acc cur l
  refine ⟨nonneg_sum (fun x hx => by obtain ⟨_, _, _, h⟩ := dOf_mem hx; omega), ?_⟩
  unfold dSum
  unfold mostA at h2
  omega
theorem cSum_bd {acc cur : ByteArray} {l : List Ln} (hA : ∀ y ∈ l, -mostA ≤ y.amt ∧ y.amt ≤ mostA) (hl : l.length ≤ 4000) : -4000000000000000000 ≤ cSum acc cur l ∧ cSum acc cur l ≤ 0 := by
  have h1 : ∀ x ∈ cOf acc cur l, -mostA ≤ x ∧ x ≤ mostA := fun x hx => by
    obtain ⟨y, hy, rfl, _⟩ := cOf_mem hx
    exact hA y hy
  have h2 := sum_abs (M := mostA) (by unfold mostA; omega) h1
  have h3 := cOf_len acc cur l
  refine ⟨?_, nonpos_sum (fun x hx => by obtain ⟨_, _, _, h⟩ := cOf_mem hx; omega)⟩
  unfold cSum
  unfold mostA at h2
  omega

section
variable {W : World} {n0 bj bm : Nat} {v : Value} {es : List Je}
set_option maxHeartbeats 2000000 in
theorem turns_any (h : JAt W n0 bj bm v es) (hlen : es.length ≤ 200) (h20 : ∀ x ∈ es, x.lns.length ≤ 20) (hA : ∀ y ∈ allL es, -mostA ≤ y.amt ∧ y.amt ≤ mostA) (acc cur : ByteArray) :
    Calls Tryd.prog 8 #[.pointer (some ⟨bj, 0, none⟩), .string acc, .string cur] W fun e w' => e = .returned (.tuple #[.int .i64 (dSum acc cur (allL es)), .int .i64 (-cSum acc cur (allL es)), .nilIface]) ∧ Below W.heap.size W w' := by
  have hl := allL_len h20
  have hl4 : (allL es).length ≤ 4000 := by omega
  obtain ⟨d1, d2⟩ := dSum_bd (acc := acc) (cur := cur) hA hl4
  obtain ⟨c1, c2⟩ := cSum_bd (acc := acc) (cur := cur) hA hl4
  have HS : Hid (Calls _ _ _ W _) := sides_any h hlen h20 acc cur
  have HD : Hid (∀ (d c : Value) (w' : World), TwoR w' W.heap.size d (dOf acc cur (allL es)) c (cOf acc cur (allL es)) → Calls Tryd.prog 9 #[d] w' fun e w'' => e = .returned (.tuple #[.int .i64 (dSum acc cur (allL es)), .nilIface]) ∧ w'' = w') := fun d c w' hr => by
    have hq := sum_own W.heap.size (dOf acc cur (allL es)).length 3 d (dOf acc cur (allL es)) w' (by have := dOf_len acc cur (allL es); omega) (amt_i64 (fun x hx => by
      obtain ⟨y, hy, rfl, _⟩ := dOf_mem hx
      exact hA y hy)) hr.rd
    have hf := sum_fit (dSum acc cur (allL es)) ⟨by omega, by omega⟩
    unfold dSum at hf
    rw [hf.1, hf.2] at hq
    exact hq
  have HC : Hid (∀ (d c : Value) (w' : World), TwoR w' W.heap.size d (dOf acc cur (allL es)) c (cOf acc cur (allL es)) → Calls Tryd.prog 9 #[c] w' fun e w'' => e = .returned (.tuple #[.int .i64 (cSum acc cur (allL es)), .nilIface]) ∧ w'' = w') := fun d c w' hr => by
    have hq := sum_own W.heap.size (cOf acc cur (allL es)).length 3 c (cOf acc cur (allL es)) w' (by have := cOf_len acc cur (allL es); omega) (amt_i64 (fun x hx => by
      obtain ⟨y, hy, rfl, _⟩ := cOf_mem hx
      exact hA y hy)) hr.rc
    have hf := sum_fit (cSum acc cur (allL es)) ⟨by omega, by omega⟩
    unfold cSum at hf
    rw [hf.1, hf.2] at hq
    exact hq
  generalize dSum acc cur (allL es) = ds at *
  generalize cSum acc cur (allL es) = cs at *
  have c3 : ¬ cs = -9223372036854775808 := by omega
  clear h hA hl hl4 h20
  go_enter Tryd.func8, Tryd.ntmps8
  go_wp2_with fail
  refine HS.out.mono ?_
  rintro e w1 ⟨d, c, rfl, r1, b1⟩
  have H1 : Hid (Calls _ _ _ w1 _) := HD.out d c w1 r1
  have H2 : Hid (Calls _ _ _ w1 _) := HC.out d c w1 r1
  obtain ⟨da, dc, rfl⟩ := r1.rd.shape
  obtain ⟨ca, cc, rfl⟩ := r1.rc.shape
  clear r1 HS HD HC
  go_wp2_with fail
  refine H1.out.mono ?_
  rintro e w2 ⟨rfl, hw⟩
  rw [hw]; clear hw w2 H1
  go_wp2_with fail
  refine H2.out.mono ?_
  rintro e w2 ⟨rfl, hw⟩
  rw [hw]; clear hw w2 H2
  go_wp2
  exact bodyPost_ret (v := .tuple #[.int .i64 ds, .int .i64 (-cs), .nilIface]) (by simp [results, Tryd.results8, go_sem]) rfl ⟨rfl, b1⟩
end
end Go.Proofs.YtffekgndlhleiaaDoor
