/-
  The contract of daylaw2.bytesOf.
-/
import Derived.Test.YtidccclfngcpgaaBk8
namespace Go.Proofs.Ytidccclfngcpgaa
set_option linter.unusedVariables false
set_option linter.unusedSimpArgs false
set_option maxRecDepth 100000
open Go.RowKit Go.Lib

/-- So many bytes, rising. -/
def bysN (n m : Nat) : List UInt8 := (List.range m).map fun i => UInt8.ofNat (i + n)
theorem bysN_length (n m : Nat) : (bysN n m).length = m := by simp [bysN]
theorem bysN_succ (n m : Nat) : bysN n (m + 1) = bysN n m ++ [UInt8.ofNat (m + n)] := by simp [bysN, List.range_succ]
/-- How many bytes are made of a number. -/
def cutN (n : Int) : Nat := if n < 0 then 0 else if 65 < n then 65 else n.toNat
theorem cutN_le (n : Int) : cutN n ≤ 65 := by unfold cutN; split <;> (try split) <;> omega
def bysOf (n : Int) : List UInt8 := bysN (cutN n) (cutN n)
theorem bysOf_length (n : Int) : (bysOf n).length = cutN n := bysN_length _ _

/-- Bytes in a row of one's own. -/
def ByRow (w : World) (n : Nat) (v : Value) (l : List UInt8) : Prop := w.ownsRow n 5 1 v l.length (byC l)
theorem ByRow.nil (w : World) (n : Nat) : ByRow w n (.slice none 0 0) [] := World.ownsRow_nil _ _ _ _
theorem ByRow.isBy {W : World} {n0 : Nat} {v : Value} {l : List UInt8} (h : ByRow W n0 v l) : ∃ a cap, v = .slice a l.length cap ∧ IsBy W a l cap := by
  obtain ⟨hlen, ⟨rfl, h0⟩ | ⟨g, cap, cur, rfl, hb, hg, hc, hm, hs, ht⟩⟩ := h
  · have : l = [] := List.eq_nil_of_length_eq_zero h0
    subst this
    exact ⟨none, 0, rfl, Nat.le_refl _, .inl rfl⟩
  · refine ⟨_, cap, rfl, hc, .inr ⟨g, 0, rfl, (Array.getElem?_eq_some_iff.1 hg).1, ?_⟩⟩
    intro k hk
    have e1 : (byC l)[k]? = cur[k]? := by
      rw [← ht, List.getElem?_take, if_pos (by omega)]
      simp
    rw [← byC_get l k hk, e1]
    simp [World.cell?, hg]
theorem u8_tinfo : ∃ q, Try.prog.info? 5 = some q ∧ q.zero = some (.int .u8 0) ∧ q.size = 1 ∧ q.bytes = 1 := by
  obtain ⟨q, hq, hz⟩ := Option.map_eq_some_iff.1 u8_info
  simp only [Prod.mk.injEq] at hz
  exact ⟨q, hq, hz.1, hz.2.1, hz.2.2⟩

/-- Behind a Write, with an error or without. -/
def Dk.wr (D : Dk) (n : Nat) (i : Int) (l : List UInt8) : Dk := if wrBad D n i l = 0 then D.write i.toNat l else D
theorem wrBad_zero {D : Dk} {n : Nat} {i : Int} {l : List UInt8} (h : wrBad D n i l = 0) : D.failing = false ∧ hasB n i = true ∧ l.length ≤ 64 := by
  unfold wrBad at h
  split at h
  · cases h
  · rename_i h1
    split at h
    · cases h
    · rename_i h2
      split at h
      · cases h
      · exact ⟨by simpa using h1, by simpa using h2, by omega⟩
theorem tn_wr {w W : World} {p nb sb : Nat} {cv : Value} {n : Nat} {D : Dk} (h : Tn w W p nb sb cv n D) (i : Int) (a : Option Addr) (l : List UInt8) (cap : Nat) (hn : n ≤ 200) (hs0 : D.steps ≤ 1000000) (hc0 : D.chg.length ≤ 1000000) (hB : IsBy W a l cap) :
    Calls Try.prog 25 #[.pointer (some ⟨p, 0, none⟩), .int .i64 i, .slice a l.length cap] W fun e w' => e = .returned (enE (wrBad D n i l)) ∧ ∃ cv', Hid (Tn w w' p nb sb cv' n (D.wr n i l)) ∧ Hid (Keeps w.heap.size dkT W w') := by
  by_cases h0 : wrBad D n i l = 0
  · obtain ⟨h1, h2, h3⟩ := wrBad_zero h0
    have h2' : 0 ≤ i ∧ i < n := by simpa [hasB] using h2
    have e : D.wr n i l = D.write i.toNat l := if_pos h0
    rw [e, h0, enE_zero]
    have := tn_write h i.toNat a l cap h1 (by omega) h3 hn hs0 hc0 hB
    rwa [Int.toNat_of_nonneg h2'.1] at this
  · have e : D.wr n i l = D := if_neg h0
    rw [e]
    refine (tn_writeBad h i a l cap h0).mono ?_
    rintro e w' ⟨rfl, h1, h2⟩
    exact ⟨rfl, cv, h1, h2.out.keeps _ _⟩
/-- How much has been done, at most. -/
structure Dk.few (D : Dk) (k : Nat) : Prop where
  steps : D.steps ≤ k
  chg : D.chg.length ≤ k
theorem Dk.few.wr {D : Dk} {k : Nat} (h : D.few k) (n : Nat) (i : Int) (l : List UInt8) : (D.wr n i l).few (k + 1) := by
  unfold Dk.wr
  split
  · exact ⟨by simp only [Dk.write]; have := h.steps; omega, by simp only [Dk.write, List.length_append, List.length_singleton]; have := h.chg; omega⟩
  · exact ⟨by have := h.steps; omega, by have := h.chg; omega⟩
theorem Dk.fail_wr (D : Dk) (n : Nat) (i : Int) (l : List UInt8) : (D.wr n i l).fail = D.fail := by
  unfold Dk.wr
  split <;> rfl
theorem failing_neg {D : Dk} (h : D.fail < 0) : D.failing = false := by
  unfold Dk.failing
  exact decide_eq_false (by omega)
theorem tn_flush {w W : World} {p nb sb : Nat} {cv : Value} {n : Nat} {D : Dk} (h : Tn w W p nb sb cv n D) (hf : D.failing = false) (hs0 : D.steps ≤ 1000000) :
    Calls Try.prog 24 #[.pointer (some ⟨p, 0, none⟩)] W fun e w' => e = .returned .nilIface ∧ Hid (Tn w w' p nb sb (.slice none 0 0) n D.flush) ∧ Hid (Keeps w.heap.size dkT W w') := by
  refine (flush_ok w.heap.size p nb sb cv n D W h.1 hf hs0).mono ?_
  rintro e w' ⟨rfl, hd, hk⟩
  exact ⟨rfl, h.keeps hd hk, hk⟩
theorem ByRow.isBy' {W : World} {n0 : Nat} {a : Option Addr} {m cap : Nat} {l : List UInt8} (h : ByRow W n0 (.slice a m cap) l) : IsBy W a l cap := by
  obtain ⟨a', c', e, hs⟩ := h.isBy
  cases e
  exact hs
theorem ByRow.keeps {w W : World} {lo n0 : Nat} {v : Value} {l : List UInt8} (h : ByRow w n0 v l) (hk : Keeps lo dkT w W) : ByRow W n0 v l :=
  ownsRow_keep h (fun b cs e _ => (hk.row e (by simp [dkT])).trans e.symm)
theorem ByRow.below {w W : World} {n0 : Nat} {v : Value} {l : List UInt8} (h : ByRow w n0 v l) (hb : Below w.heap.size w W) : ByRow W n0 v l :=
  ownsRow_keep h (fun b cs e _ => hb.block b (Array.getElem?_eq_some_iff.1 e).1)
end Go.Proofs.Ytidccclfngcpgaa
