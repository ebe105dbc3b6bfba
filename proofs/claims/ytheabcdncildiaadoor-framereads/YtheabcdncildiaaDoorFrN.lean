/-
  What a reader reads, step by step, against what is read at once. It names no call.
-/
import Derived.Test.YtheabcdncildiaaDoorFr5
namespace Go.Proofs.YtheabcdncildiaaDoor
set_option linter.unusedVariables false
set_option linter.unusedSimpArgs false
open Go.RowKit

abbrev St := Option (List UInt8)
/-- A line, read by a reader. -/
def lnS (st : St) : Ln × St := (⟨(rdTS st).1, (rdTS (rdTS st).2).1, (rdNS (-mostA) mostA (rdTS (rdTS st).2).2).1⟩, (rdNS (-mostA) mostA (rdTS (rdTS st).2).2).2)
def lnsS : Nat → St → List Ln × St
  | 0, st => ([], st)
  | k + 1, st => ((lnsS k st).1 ++ [(lnS (lnsS k st).2).1], (lnS (lnsS k st).2).2)
theorem lnsS_length : ∀ (k : Nat) (st : St), (lnsS k st).1.length = k
  | 0, _ => rfl
  | k + 1, st => by simp [lnsS, lnsS_length k st]
theorem lnS_len {st : St} (h : StLen st) : StLen (lnS st).2 := rdNS_len (rdTS_len (rdTS_len h))
theorem lnsS_len : ∀ (k : Nat) (st : St), StLen st → StLen (lnsS k st).2
  | 0, _, h => h
  | k + 1, st, h => lnS_len (lnsS_len k st h)
theorem rdTS_none : (rdTS none).2 = none := rfl
theorem rdNS_none (lo hi : Int) : (rdNS lo hi none).2 = none := rfl
theorem lnS_none : (lnS none).2 = none := rfl
theorem lnsS_none : ∀ k, (lnsS k none).2 = none
  | 0 => rfl
  | k + 1 => by simp only [lnsS, lnsS_none k]; rfl
theorem rdTS_of {l : List UInt8} : (rdT l = none ∧ (rdTS (some l)).2 = none) ∨ ∃ s r, rdT l = some (s, r) ∧ rdTS (some l) = (s, some r) := by
  cases h : rdT l with
  | none => exact .inl ⟨rfl, by simp [rdTS, h]⟩
  | some x => exact .inr ⟨x.1, x.2, rfl, by simp [rdTS, h]⟩
theorem rdNS_of {lo hi : Int} {l : List UInt8} : (rdN lo hi l = none ∧ (rdNS lo hi (some l)).2 = none) ∨ ∃ s r, rdN lo hi l = some (s, r) ∧ rdNS lo hi (some l) = (s, some r) := by
  cases h : rdN lo hi l with
  | none => exact .inl ⟨rfl, by simp [rdNS, h]⟩
  | some x => exact .inr ⟨x.1, x.2, rfl, by simp [rdNS, h]⟩
theorem lnS_of {l : List UInt8} : (rdL l = none ∧ (lnS (some l)).2 = none) ∨ ∃ s r, rdL l = some (s, r) ∧ lnS (some l) = (s, some r) := by
  rcases @rdTS_of l with ⟨h1, e1⟩ | ⟨s1, r1, h1, e1⟩
  · exact .inl ⟨by simp [rdL, h1], by simp only [lnS, e1]; rfl⟩
  rcases @rdTS_of r1 with ⟨h2, e2⟩ | ⟨s2, r2, h2, e2⟩
  · exact .inl ⟨by simp [rdL, h1, h2], by simp only [lnS, e1, e2]; rfl⟩
  rcases @rdNS_of (-mostA) mostA r2 with ⟨h3, e3⟩ | ⟨s3, r3, h3, e3⟩
  · exact .inl ⟨by simp [rdL, h1, h2, h3], by simp only [lnS, e1, e2, e3]⟩
  · exact .inr ⟨⟨s1, s2, s3⟩, r3, by simp [rdL, h1, h2, h3], by simp only [lnS, e1, e2, e3]⟩
theorem rdLs_snoc : ∀ (k : Nat) (l : List UInt8), rdLs (k + 1) l = (rdLs k l).bind fun y => (rdL y.2).map fun x => (y.1 ++ [x.1], x.2)
  | 0, l => by
    simp only [rdLs, Option.bind_some]
    cases rdL l <;> simp
  | k + 1, l => by
    rw [rdLs]
    cases h : rdL l with
    | none => simp [rdLs, h]
    | some x =>
      have := rdLs_snoc k x.2
      simp only [Option.bind_some]
      rw [this, rdLs, h]
      simp only [Option.bind_some]
      cases rdLs k x.2 with
      | none => simp
      | some y =>
        simp only [Option.bind_some, Option.map_some]
        cases rdL y.2 <;> simp
theorem lnsS_of : ∀ (k : Nat) (l : List UInt8), (rdLs k l = none ∧ (lnsS k (some l)).2 = none) ∨ ∃ s r, rdLs k l = some (s, r) ∧ lnsS k (some l) = (s, some r)
  | 0, l => .inr ⟨[], l, rfl, rfl⟩
  | k + 1, l => by
    rw [rdLs_snoc]
    rcases lnsS_of k l with ⟨h1, e1⟩ | ⟨s1, r1, h1, e1⟩
    · refine .inl ⟨by rw [h1]; rfl, ?_⟩
      simp only [lnsS, e1]; rfl
    · rcases @lnS_of r1 with ⟨h2, e2⟩ | ⟨s2, r2, h2, e2⟩
      · exact .inl ⟨by rw [h1]; simp [h2], by simp only [lnsS, e1, e2]⟩
      · exact .inr ⟨s1 ++ [s2], r2, by rw [h1]; simp [h2], by simp only [lnsS, e1, e2]⟩
/-- An entry, read by a reader. -/
def entS (st : St) : En × St :=
  (⟨(rdTS st).1, (rdNS 0 200 (rdTS st).2).1, (rdNS 0 200 (rdNS 0 200 (rdTS st).2).2).1, (lnsS (rdNS 0 20 (rdNS 0 200 (rdNS 0 200 (rdTS st).2).2).2).1.toNat (rdNS 0 20 (rdNS 0 200 (rdNS 0 200 (rdTS st).2).2).2).2).1⟩,
   (lnsS (rdNS 0 20 (rdNS 0 200 (rdNS 0 200 (rdTS st).2).2).2).1.toNat (rdNS 0 20 (rdNS 0 200 (rdNS 0 200 (rdTS st).2).2).2).2).2)
theorem entS_of {l : List UInt8} : (rdE l = none ∧ (entS (some l)).2 = none) ∨ ∃ s r, rdE l = some (s, r) ∧ entS (some l) = (s, some r) := by
  rcases @rdTS_of l with ⟨h1, e1⟩ | ⟨s1, r1, h1, e1⟩
  · exact .inl ⟨by simp [rdE, h1], by simp only [entS, e1]; exact lnsS_none _⟩
  rcases @rdNS_of 0 200 r1 with ⟨h2, e2⟩ | ⟨s2, r2, h2, e2⟩
  · exact .inl ⟨by simp [rdE, h1, h2], by simp only [entS, e1, e2]; exact lnsS_none _⟩
  rcases @rdNS_of 0 200 r2 with ⟨h3, e3⟩ | ⟨s3, r3, h3, e3⟩
  · exact .inl ⟨by simp [rdE, h1, h2, h3], by simp only [entS, e1, e2, e3]; exact lnsS_none _⟩
  rcases @rdNS_of 0 20 r3 with ⟨h4, e4⟩ | ⟨s4, r4, h4, e4⟩
  · exact .inl ⟨by simp [rdE, h1, h2, h3, h4], by simp only [entS, e1, e2, e3, e4]; exact lnsS_none _⟩
  rcases lnsS_of s4.toNat r4 with ⟨h5, e5⟩ | ⟨s5, r5, h5, e5⟩
  · exact .inl ⟨by simp [rdE, h1, h2, h3, h4, h5], by simp only [entS, e1, e2, e3, e4, e5]⟩
  · exact .inr ⟨⟨s1, s2, s3, s5⟩, r5, by simp [rdE, h1, h2, h3, h4, h5], by simp only [entS, e1, e2, e3, e4, e5]⟩
end Go.Proofs.YtheabcdncildiaaDoor
