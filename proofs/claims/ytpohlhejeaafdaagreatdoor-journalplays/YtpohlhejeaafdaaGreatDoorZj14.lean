/-
  The contracts of chart.Find and of dayref1.At.
-/
import Derived.Test.YtpohlhejeaafdaaGreatDoorZj13
import Derived.Test.YtpohlhejeaafdaaGreatDoorZj6
namespace Go.Proofs.YtpohlhejeaafdaaGreatDoor
set_option linter.unusedVariables false
open Go.RowKit Go.Extern.Stop Go.Stop Go.Extern

theorem as_nil (t : Value) (w : World) :
    Calls Tryz.prog 48 #[.nilIface, t] w fun e w' => e = .returned (.bool false) ∧ w' = w := by
  go_enter Tryz.func48, Tryz.ntmps48
  go_wp2
  go_ret
  exact ⟨rfl, rfl⟩

set_option maxHeartbeats 4000000 in
theorem as_hit (n : Int) (t : Addr) (old : Value) (w : World) (hg : w.cell? ⟨0, 0, none⟩ = some (.iface 133 (.agg #[.pointer (some ⟨1, 31, none⟩)]))) (ht0 : w.cell? t = some old) (hf0 : w.frozen? t = false) :
    Calls Tryz.prog 48 #[.iface 60 (.int .i64 n), .iface 90 (.pointer (some t))] w fun ev w' => ev = .returned (.bool true) ∧ ∃ o1 o2 o3 o4, w' = ((((w.alloc o1).alloc o2).alloc o3).alloc o4).setCell t (.int .i64 n) := by
  have h6 := @run_callFunc_extern Tryz.prog 68 _ (fun args => ReflectliteValue.unpack (args.getD 0 (.tuple #[]))) Tryz.func68 (by kernel_rfl) (by kernel_rfl) (by kernel_rfl) (by kernel_rfl)
  have h7 := @run_callFunc_extern Tryz.prog 69 _ (ReflectliteValue.methodAny (ReflectliteValue.valueError "reflectlite.Value.Type" 0) (fun t _ _ _ => ReflectliteType.toType t)) Tryz.func69 (by kernel_rfl) (by kernel_rfl) (by kernel_rfl) (by kernel_rfl)
  have h8 := @run_callFunc_extern Tryz.prog 70 _ (ReflectliteValue.method (ReflectliteValue.valueError "reflectlite.Value.IsNil" 0) ReflectliteValue.isNil) Tryz.func70 (by kernel_rfl) (by kernel_rfl) (by kernel_rfl) (by kernel_rfl)
  have h27 := @run_callFunc_extern Tryz.prog 120 _ (ReflectliteType.abiMethod fun t => do pure (.int .u8 (← Rtype.kind t))) Tryz.func120 (by kernel_rfl) (by kernel_rfl) (by kernel_rfl) (by kernel_rfl)
  have h37 := @run_callFunc_extern Tryz.prog 132 _ (ReflectliteType.method ReflectliteType.elem) Tryz.func132 (by kernel_rfl) (by kernel_rfl) (by kernel_rfl) (by kernel_rfl)
  have h38 := @run_callFunc_extern Tryz.prog 133 _ (ReflectliteType.relation "Implements" ReflectliteType.implements_) Tryz.func133 (by kernel_rfl) (by kernel_rfl) (by kernel_rfl) (by kernel_rfl)
  have h10 := @run_callFunc_extern Tryz.prog 86 _ ReflectliteType.typeOf Tryz.func86 (by kernel_rfl) (by kernel_rfl) (by kernel_rfl) (by kernel_rfl)
  have h35 := @run_callFunc_extern Tryz.prog 130 _ (ReflectliteType.relation "AssignableTo" ReflectliteType.assignableTo) Tryz.func130 (by kernel_rfl) (by kernel_rfl) (by kernel_rfl) (by kernel_rfl)
  have h11 := @run_callFunc_extern Tryz.prog 87 _ (ReflectliteValue.method (ReflectliteValue.valueError "reflectlite.Value.Elem" 0) ReflectliteValue.elem) Tryz.func87 (by kernel_rfl) (by kernel_rfl) (by kernel_rfl) (by kernel_rfl)
  have h12 := @run_callFunc_extern Tryz.prog 88 _ ReflectliteValue.set Tryz.func88 (by kernel_rfl) (by kernel_rfl) (by kernel_rfl) (by kernel_rfl)
  have tO := typeOfE
  have mA := methodAssignableTo
  have aE := assignableE
  have vE := valueOfE
  have f6 := valueOfP
  have f7 := typeP
  have mK := methodKind
  have mE := methodElem
  have mI := methodImplements
  have kP := kindP
  have kE := kindE
  have eP := elemP
  have iE := implementsE
  have n8 := isNilP ⟨w.heap.size, 0, none⟩ t ((w.alloc (.cells #[.pointer (some t)] 90)).alloc (.cells #[.pointer (some ⟨1, 90, none⟩), .pointer (some ⟨w.heap.size, 0, none⟩), .int .u64 150] 109)) (by simp)
  have hlt : 0 < w.heap.size := World.block_lt_of_cell? _ _ hg
  have hg2 : ((w.alloc (.cells #[.pointer (some t)] 90)).alloc (.cells #[.pointer (some ⟨1, 90, none⟩), .pointer (some ⟨w.heap.size, 0, none⟩), .int .u64 150] 109)).cell? ⟨0, 0, none⟩ = some (.iface 133 (.agg #[.pointer (some ⟨1, 31, none⟩)])) := by
    rw [World.cell?_alloc_lt _ _ ⟨0, 0, none⟩ (by simp <;> omega), World.cell?_alloc_lt _ _ ⟨0, 0, none⟩ hlt]; exact hg
  have htl : t.block < w.heap.size := World.block_lt_of_cell? _ _ ht0
  generalize hW3 : (((w.alloc (.cells #[.pointer (some t)] 90)).alloc (.cells #[.pointer (some ⟨1, 90, none⟩), .pointer (some ⟨w.heap.size, 0, none⟩), .int .u64 150] 109)).alloc (.cells #[.pointer (some ⟨1, 90, none⟩), .pointer (some ⟨w.heap.size, 0, none⟩), .int .u64 150] 109)) = W3
  have k0 : W3.cell? ⟨w.heap.size, 0, none⟩ = some (.pointer (some t)) := by
    rw [← hW3, World.cell?_alloc_lt _ _ _ (by simp <;> omega), World.cell?_alloc_lt _ _ _ (by simp)]; simp
  have ksz : W3.heap.size = w.heap.size + 1 + 1 + 1 := by rw [← hW3]; simp
  have k1 : W3.cell? t = some old := by
    rw [← hW3, World.cell?_alloc_lt _ _ t (by simp <;> omega), World.cell?_alloc_lt _ _ t (by simp <;> omega), World.cell?_alloc_lt _ _ t htl]; exact ht0
  have k2 : W3.frozen? t = false := by
    rw [← hW3, World.frozen?_alloc_old _ _ t (by simp <;> omega), World.frozen?_alloc_old _ _ t (by simp <;> omega), World.frozen?_alloc_old _ _ t (Nat.ne_of_lt htl)]; exact hf0
  have el := elemVP ⟨w.heap.size, 0, none⟩ t W3 k0
  have st := setE t ⟨w.heap.size + 1 + 1 + 1, 0, none⟩ n old (W3.alloc (.cells #[.int .i64 n] 60)) (by rw [← ksz]; simp)
    (by rw [World.cell?_alloc_lt _ _ t (by omega)]; exact k1) (by rw [World.frozen?_alloc_old _ _ t (by omega)]; exact k2)
  subst hW3
  clear k0 k1 k2 ksz
  go_enter Tryz.func48, Tryz.ntmps48
  go_wp2
  refine wp_loop_rounds 1 ?_
  rw [rounds_succ]
  go_wp2
  go_ret
  exact ⟨rfl, _, _, _, _, rfl⟩

/-- What is told of an error. -/
theorem told_nil (w : World) : Calls Tryz.prog 29 #[.nilIface] w fun e w' => e = .returned (.int .i64 0) ∧ w' = w := by
  go_enter Tryz.func29, Tryz.ntmps29
  go_wp2
  go_ret
  exact ⟨rfl, rfl⟩

theorem told_errno (n : Int) (w : World) (hg : w.cell? ⟨0, 0, none⟩ = some (.iface 133 (.agg #[.pointer (some ⟨1, 31, none⟩)]))) :
    Calls Tryz.prog 29 #[.iface 60 (.int .i64 n)] w fun e w' => e = .returned (.int .i64 n) ∧ Below w.heap.size w w' := by
  go_enter Tryz.func29, Tryz.ntmps29
  go_wp2_with fail
  have hlt : 0 < w.heap.size := World.block_lt_of_cell? _ _ hg
  refine (as_hit n ⟨w.heap.size, 0, none⟩ (.int .i64 0) _ (by rw [World.cell?_alloc_lt _ _ _ hlt]; exact hg) (by simp) (by simp)).mono ?_
  rintro e w' ⟨rfl, o1, o2, o3, o4, hw⟩
  have hc : w'.cell? ⟨w.heap.size, 0, none⟩ = some (.int .i64 n) := by
    rw [hw]
    refine World.cell?_setCell_same _ _ _ (?_ : _ = some (.int .i64 0))
    rw [World.cell?_alloc_lt _ _ _ (by simp <;> omega), World.cell?_alloc_lt _ _ _ (by simp <;> omega), World.cell?_alloc_lt _ _ _ (by simp <;> omega), World.cell?_alloc_lt _ _ _ (by simp)]
    simp
  have hb : Below w.heap.size w w' := by
    rw [hw]
    refine Below.setCell (p := ⟨w.heap.size, 0, none⟩) ?_ (Nat.le_refl w.heap.size) _
    exact ((((((Below.refl _ _).alloc (Nat.le_refl _) _).alloc (by simp) _).alloc (by simp <;> omega) _).alloc (by simp <;> omega) _).alloc (by simp <;> omega) _)
  clear hw o1 o2 o3 o4
  go_wp2
  go_ret
  exact ⟨rfl, hb⟩

theorem error_nil (m : Int) (w : World) : Calls Tryz.prog 7 #[.nilIface, .int .i64 m] w fun e w' => e = .returned (.bool ((0 : Int) == m)) ∧ w' = w := by
  go_enter Tryz.func7, Tryz.ntmps7
  go_wp2_with fail
  refine (told_nil _).mono ?_
  rintro e w' ⟨rfl, hw⟩
  rw [hw]; clear hw w'
  go_wp2
  go_ret
  exact ⟨rfl, rfl⟩

theorem error_errno (n m : Int) (w : World) (h1 : -9223372036854775808 ≤ n) (h2 : n ≤ 9223372036854775807) (hg : w.cell? ⟨0, 0, none⟩ = some (.iface 133 (.agg #[.pointer (some ⟨1, 31, none⟩)]))) :
    Calls Tryz.prog 7 #[.iface 60 (.int .i64 n), .int .i64 m] w fun e w' => e = .returned (.bool (n == m)) ∧ Below w.heap.size w w' := by
  go_enter Tryz.func7, Tryz.ntmps7
  go_wp2_with fail
  refine (told_errno n _ hg).mono ?_
  rintro e w' ⟨rfl, hb⟩
  go_wp2
  go_ret
  exact ⟨rfl, hb⟩
end Go.Proofs.YtpohlhejeaafdaaGreatDoor

namespace Go.Proofs.YtpohlhejeaafdaaGreatDoor
set_option linter.unusedVariables false
open Go.RowKit

/-- The variable for the type of errors is as it is laid. -/
def ErrT (w : World) : Prop := w.cell? ⟨0, 0, none⟩ = some (.iface 133 (.agg #[.pointer (some ⟨1, 31, none⟩)]))
theorem ErrT.lt {w : World} (h : ErrT w) : 0 < w.heap.size := World.block_lt_of_cell? _ _ h
theorem ErrT.below {w w' : World} {B : Nat} (h : ErrT w) (hb : Below B w w') (hB : w.heap.size ≤ B) : ErrT w' := by
  unfold ErrT
  rw [hb.cell (p := ⟨0, 0, none⟩) (Nat.lt_of_lt_of_le h.lt hB)]
  exact h

/-- An error and its number. -/
def ErrIs (E : Value) (c : Int) : Prop := (E = .nilIface ∧ c = 0) ∨ (E = .iface 60 (.int .i64 c) ∧ -9223372036854775808 ≤ c ∧ c ≤ 9223372036854775807)

theorem err_true {E : Value} {c : Int} (h : ErrIs E c) (w : World) (hg : ErrT w) :
    Calls Tryz.prog 7 #[E, .int .i64 c] w fun e w' => e = .returned (.bool true) ∧ Below w.heap.size w w' := by
  rcases h with ⟨rfl, rfl⟩ | ⟨rfl, h1, h2⟩
  · refine (error_nil 0 w).mono ?_
    rintro e w' ⟨rfl, rfl⟩
    exact ⟨rfl, Below.refl _ _⟩
  · refine (error_errno c c w h1 h2 hg).mono ?_
    rintro e w' ⟨rfl, hb⟩
    exact ⟨by simp, hb⟩

end Go.Proofs.YtpohlhejeaafdaaGreatDoor

namespace Go.Proofs.YtpohlhejeaafdaaGreatDoor
set_option linter.unusedVariables false
set_option linter.unusedSimpArgs false
open Go.RowKit Go.Lib

theorem less_self : ∀ a : List UInt8, Op.bytesLess a a = false
  | [] => rfl
  | x :: a => by
    have := less_self a
    simp [Op.bytesLess, this]

theorem less_total : ∀ a b : List UInt8, Op.bytesLess a b = false → a ≠ b → Op.bytesLess b a = true
  | [], [], _, h => absurd rfl h
  | [], _ :: _, h, _ => by simp [Op.bytesLess] at h
  | _ :: _, [], _, _ => by simp [Op.bytesLess]
  | x :: a, y :: b, h, hne => by
    simp only [Op.bytesLess, Bool.or_eq_false_iff, decide_eq_false_iff_not, Bool.and_eq_false_iff, beq_eq_false_iff_ne] at h
    obtain ⟨h1, h2⟩ := h
    by_cases e : x = y
    · subst e
      have := less_total a b (by simpa using h2) (fun e => hne (by rw [e]))
      simp [Op.bytesLess, this]
    · have : y < x := by
        rw [UInt8.lt_iff_toNat_lt] at h1 ⊢
        have : x.toNat ≠ y.toNat := fun h => e (UInt8.toNat_inj.1 h)
        omega
      simp [Op.bytesLess, this]

theorem less_trans : ∀ a b c : List UInt8, Op.bytesLess a b = true → Op.bytesLess b c = true → Op.bytesLess a c = true
  | _, [], _, h, _ => by cases ‹List UInt8› <;> simp [Op.bytesLess] at h
  | _, _ :: _, [], _, h => by simp [Op.bytesLess] at h
  | [], _ :: _, _ :: _, _, _ => by simp [Op.bytesLess]
  | x :: a, y :: b, z :: c, h1, h2 => by
    simp only [Op.bytesLess, Bool.or_eq_true, decide_eq_true_eq, Bool.and_eq_true, beq_iff_eq] at h1 h2 ⊢
    simp only [UInt8.lt_iff_toNat_lt] at h1 h2 ⊢
    rcases h1 with h1 | ⟨rfl, h1⟩
    · rcases h2 with h2 | ⟨rfl, h2⟩
      · exact .inl (by omega)
      · exact .inl h1
    · rcases h2 with h2 | ⟨rfl, h2⟩
      · exact .inl h2
      · exact .inr ⟨rfl, less_trans a b c h1 h2⟩

theorem nextBad_zero {pre : List Ac} {x : Ac} (h : nextBad pre x = 0) : isCodeB x.code = true ∧ isNameB x.name = true ∧ 1 ≤ x.kind ∧ x.kind ≤ 5 ∧ (pre.length ≠ 0 → leB x.code (pre.getD (pre.length - 1) ac0).code = false) ∧ parBad pre x = 0 := by
  unfold nextBad at h
  split at h
  · omega
  · rename_i h1
    simp only [not_or, Bool.not_eq_false] at h1
    split at h
    · omega
    · rename_i h2
      split at h
      · omega
      · rename_i h3
        refine ⟨h1.1, h1.2, by omega, by omega, fun h0 => ?_, h⟩
        cases hl : leB x.code (pre.getD (pre.length - 1) ac0).code
        · rfl
        · exact absurd ⟨h0, hl⟩ h3

theorem chGo_zero : ∀ (r pre : List Ac), chGo pre r = 0 → ∀ k, k < r.length → nextBad (pre ++ r.take k) (r.getD k ac0) = 0
  | [], _, _, k, hk => by simp at hk
  | x :: r, pre, h, k, hk => by
    rw [chGo] at h
    split at h
    · rename_i hb; exact absurd h hb
    · rename_i hb
      cases k with
      | zero => simpa using hb
      | succ k =>
        have := chGo_zero r (pre ++ [x]) h k (by simpa using hk)
        simpa using this

theorem chBad_next {l : List Ac} (h : chBad l = 0) (k : Nat) (hk : k < l.length) : nextBad (l.take k) (l.getD k ac0) = 0 := by
  have hl := chBad_len h
  unfold chBad at h
  rw [if_neg (by omega)] at h
  have := chGo_zero l [] h k hk
  simpa using this

theorem take_getD (l : List Ac) (k j : Nat) (h : j < k) : (l.take k).getD j ac0 = l.getD j ac0 := by
  rw [List.getD_eq_getElem?_getD, List.getD_eq_getElem?_getD, List.getElem?_take, if_pos h]

theorem code_step {l : List Ac} (h : chBad l = 0) (k : Nat) (hk : k + 1 < l.length) : Op.bytesLess (l.getD k ac0).code.toList (l.getD (k + 1) ac0).code.toList = true := by
  obtain ⟨_, _, _, _, h5, _⟩ := nextBad_zero (chBad_next h (k + 1) hk)
  have hl : (l.take (k + 1)).length = k + 1 := by simp; omega
  have := h5 (by omega)
  rw [hl, show k + 1 - 1 = k by omega, take_getD l (k + 1) k (by omega)] at this
  simp only [leB, Bool.or_eq_false_iff, beq_eq_false_iff_ne] at this
  exact less_total _ _ this.1 this.2

theorem code_less {l : List Ac} (h : chBad l = 0) (i : Nat) : ∀ j, i < j → j < l.length → Op.bytesLess (l.getD i ac0).code.toList (l.getD j ac0).code.toList = true
  | 0, hi, _ => absurd hi (Nat.not_lt_zero _)
  | j + 1, hi, hj => by
    have hs := code_step h j hj
    by_cases e : i = j
    · subst e; exact hs
    · exact less_trans _ _ _ (code_less h i j (by omega) (by omega)) hs

theorem code_inj {l : List Ac} (h : chBad l = 0) {i j : Nat} (hi : i < l.length) (hj : j < l.length) (e : (l.getD i ac0).code = (l.getD j ac0).code) : i = j := by
  rcases Nat.lt_trichotomy i j with hlt | he | hlt
  · have := code_less h i j hlt hj
    rw [e, less_self] at this
    cases this
  · exact he
  · have := code_less h j i hlt hi
    rw [e, less_self] at this
    cases this

theorem code_size {l : List Ac} (h : chBad l = 0) {i : Nat} (hi : i < l.length) : (l.getD i ac0).code.size ≠ 0 := by
  obtain ⟨h1, _⟩ := nextBad_zero (chBad_next h i hi)
  exact ((madeOf_iff (fun r => digR_low)).1 h1).1

theorem idx_code {l : List Ac} (h : chBad l = 0) {i : Nat} (hi : i < l.length) : idxP (hasCode (l.getD i ac0).code) l = (i : Int) := by
  by_cases hn : idxP (hasCode (l.getD i ac0).code) l < 0
  · have := idxP_none hn i hi
    simp [hasCode] at this
  · obtain ⟨j, hj, e, hp, _⟩ := idxP_some (p := hasCode (l.getD i ac0).code) (l := l) (by omega)
    have : (l.getD j ac0).code = (l.getD i ac0).code := by simpa only [hasCode, decide_eq_true_eq] using hp
    rw [e, code_inj h hj hi this]

theorem place_code {l : List Ac} (h : chBad l = 0) {i : Nat} (hi : i < l.length) : placeBad l (l.getD i ac0).code = 0 := by
  have := idx_code h hi
  unfold placeBad
  rw [if_neg (by omega), if_neg (by omega)]

/-- The place of an account's parent. -/
def parOf (l : List Ac) (k : Nat) : Option Nat := if (l.getD k ac0).par.size = 0 then none else some (idxP (hasCode (l.getD k ac0).par) l).toNat

theorem parOf_none {l : List Ac} {k : Nat} : parOf l k = none ↔ (l.getD k ac0).par.size = 0 := by
  unfold parOf
  split <;> simp_all

theorem parOf_some {l : List Ac} (h : chBad l = 0) {k j : Nat} (hk : k < l.length) (e : parOf l k = some j) : j < k ∧ (l.getD j ac0).code = (l.getD k ac0).par ∧ (l.getD j ac0).kind = (l.getD k ac0).kind := by
  unfold parOf at e
  split at e
  · cases e
  rename_i h0
  obtain ⟨_, _, _, _, _, hp⟩ := nextBad_zero (chBad_next h k hk)
  unfold parBad at hp
  rw [if_neg h0] at hp
  split at hp
  · omega
  rename_i h1
  obtain ⟨m, hm, em, hc, _⟩ := idxP_some (p := hasCode (l.getD k ac0).par) (l := l.take k) (by omega)
  have hmk : m < k := by simp only [List.length_take] at hm; omega
  rw [em] at hp
  simp only [Int.toNat_natCast] at hp
  have hp' : ((l.take k).getD m ac0).kind = (l.getD k ac0).kind := by
    split at hp
    · omega
    · rename_i h2
      exact Decidable.not_not.1 h2
  rw [take_getD l k m hmk] at hp' hc
  have hcode : (l.getD m ac0).code = (l.getD k ac0).par := by simpa only [hasCode, decide_eq_true_eq] using hc
  have hi := idx_code h (show m < l.length by omega)
  rw [hcode] at hi
  rw [hi] at e
  simp only [Int.toNat_natCast, Option.some.injEq] at e
  subst e
  exact ⟨hmk, hcode, hp'⟩

/-- Is a place under another one? By so many steps at most. -/
def inU (P : Nat → Option Nat) : Nat → Nat → Nat → Bool
  | 0, _, _ => false
  | f + 1, i, k => k == i || (match P k with | none => false | some j => inU P f i j)

theorem inU_fuel {P : Nat → Option Nat} {n : Nat} (hP : ∀ k j, k < n → P k = some j → j < k) : ∀ (f g k i : Nat), k < n → k < f → k < g → inU P f i k = inU P g i k
  | 0, _, k, i, _, h, _ => absurd h (Nat.not_lt_zero _)
  | _ + 1, 0, k, i, _, _, h => absurd h (Nat.not_lt_zero _)
  | f + 1, g + 1, k, i, hn, h1, h2 => by
    simp only [inU]
    cases hk : P k with
    | none => rfl
    | some j =>
      have := hP k j hn hk
      simp only
      rw [inU_fuel hP f g j i (by omega) (by omega) (by omega)]

end Go.Proofs.YtpohlhejeaafdaaGreatDoor

namespace Go.Proofs.YtpohlhejeaafdaaGreatDoor
set_option linter.unusedVariables false
set_option linter.unusedSimpArgs false
set_option maxRecDepth 100000
open Go.RowKit Go.Lib

/-- What is found. -/
def findA (l : List Ac) (c : ByteArray) : Ac := if placeBad l c = 0 then l.getD (idxP (hasCode c) l).toNat ac0 else ac0

theorem refAt_none (a : Option Addr) (cap : Nat) (c : ByteArray) (w : World) :
    Calls Tryz.prog 39 #[.slice a 0 cap, .string c] w fun e w' => e = .returned (.int .i64 (-1)) ∧ w' = w := by
  go_enter Tryz.func39, Tryz.ntmps39
  go_wp2
  refine wp_loop_rounds 1 ?_
  rw [rounds_succ]
  go_wp2
  go_ret
  exact ⟨rfl, rfl⟩

set_option maxHeartbeats 1000000 in
theorem refAt_some (b off cap : Nat) (l : List Ac) (c : ByteArray) (w : World) (hlen : l.length ≤ 1000) (hc : AcsAt w b off l) :
    Calls Tryz.prog 39 #[.slice (some ⟨b, off, none⟩) l.length cap, .string c] w fun e w' => e = .returned (.int .i64 (idxP (hasCode c) l)) ∧ w' = w := by
  have Hc : Hid (AcsAt w b off l) := hc
  have Hlen : (l.length : Int) ≤ 1000 := by omega
  clear hc
  obtain ⟨res, hres⟩ : ∃ res, idxP (hasCode c) l = res := ⟨_, rfl⟩
  have Hres : Hid (idxP (hasCode c) l = res) := hres
  rw [hres]
  clear hres
  go_enter Tryz.func39, Tryz.ntmps39
  go_wp2
  go_loop [5] (fun i => ∃ k : Nat, k ≤ l.length ∧ i = .int .i64 k ∧ Hid (idxFrom (hasCode c) k (l.drop k) = res)) (fun i => l.length - (RowKit.intOf i).toNat)
  case atStart => exact ⟨0, Nat.zero_le _, rfl, Hres.out⟩
  case round =>
    obtain ⟨k, hk, rfl, H⟩ := hrel
    by_cases hlt : k < l.length
    · have hn := Hc.out k hlt
      have E : Hid ((if hasCode c (l.getD k ac0) = true then (k : Int) else idxFrom (hasCode c) (k + 1) (l.drop (k + 1))) = res) := by
        have := H.out
        rw [acs_drop l k hlt] at this
        exact this
      clear H
      generalize l.getD k ac0 = x at *
      obtain ⟨x0, x1, x2, x3, x4⟩ := x
      obtain ⟨c0, c1, c2, c3, c4⟩ := hn
      simp only at c0 c1 c2 c3 c4
      have i0 : (0 : Int) ≤ k := by omega
      have i1 : (k : Int) < l.length := by omega
      by_cases hx : x0 = c
      · have er : res = k := by rw [← E.out, if_pos (by simp [hasCode, hx])]
        subst er
        subst hx
        go_wp2
        go_ret
        exact ⟨rfl, rfl⟩
      · have hx' := ch_ne hx
        have HN : Hid (idxFrom (hasCode c) (k + 1) (l.drop (k + 1)) = res) := by
          have := E.out; rw [if_neg (by simp [hasCode, hx])] at this; exact this
        go_wp2
        go_round
        case rel => exact ⟨k + 1, by omega, by go_num, HN⟩
        case measure => simp [RowKit.intOf]; omega
    · have hk2 : k = l.length := by omega
      subst hk2
      have er : res = -1 := by rw [← H.out, List.drop_length]; rfl
      subst er
      go_wp2
      go_ret
      exact ⟨rfl, rfl⟩

theorem refAt_any (a : Option Addr) (cap : Nat) (l : List Ac) (c : ByteArray) (w : World) (hlen : l.length ≤ 1000) (h : IsSl w a l cap) :
    Calls Tryz.prog 39 #[.slice a l.length cap, .string c] w fun e w' => e = .returned (.int .i64 (idxP (hasCode c) l)) ∧ w' = w := by
  rcases h.lies with rfl | ⟨b, off, rfl, hlt, hc⟩
  · exact refAt_none a cap c w
  · exact refAt_some b off cap l c w hlen hc
end Go.Proofs.YtpohlhejeaafdaaGreatDoor
