/-
  What daylaw2.KeepBreaks keeps: a disk that may fail, lose and tear; lists of lists of numbers.
-/
import Derived.Test.YtijjegkkeigeoaaZb21
import Derived.Test.YtijjegkkeigeoaaZb0
import Derived.Deep.RegionHeld
import Derived.Test.YtijjegkkeigeoaaZb19
import Derived.Below
namespace Go.Proofs.Ytijjegkkeigeoaa
set_option linter.unusedVariables false
open Go.RowKit Big

theorem top_bit (n : Nat) (h1 : 9223372036854775808 ≤ n) (h2 : n < 18446744073709551616) : bitOf n 63 = 1 := by
  unfold bitOf
  have : n / 2 ^ 63 = 1 := by
    apply Nat.div_eq_of_lt_le <;> omega
  rw [this]

theorem bit01 (n i : Nat) : bitOf n i = 0 ∨ bitOf n i = 1 := by unfold bitOf; omega

theorem len_two {l : List Nat} (ho : Ok l) (hn : Nrm l) (h2 : val l < 18446744073709551616) : l.length ≤ 2 := by
  rcases Nat.eq_zero_or_pos l.length with h0 | h0
  · omega
  · have h3 := val_ge hn h0
    apply Classical.byContradiction
    intro hc
    have : 4294967296 ^ 2 ≤ 4294967296 ^ (l.length - 1) := Nat.pow_le_pow_right (by omega) (by omega)
    omega
theorem len_two' {l : List Nat} (ho : Ok l) (h1 : 9223372036854775808 ≤ val l) : 2 ≤ l.length := by
  have h3 := val_lt ho
  apply Classical.byContradiction
  intro hc
  have : 4294967296 ^ l.length ≤ 4294967296 ^ 1 := Nat.pow_le_pow_right (by omega) (by omega)
  omega

/-- Is it of 64 bits? -/
def Fits (x : Int) : Prop := -9223372036854775808 ≤ x ∧ x ≤ 9223372036854775807

end Go.Proofs.Ytijjegkkeigeoaa

namespace Go.Proofs.Ytijjegkkeigeoaa
set_option linter.unusedVariables false
set_option linter.unusedSimpArgs false
set_option maxRecDepth 100000
open Go.RowKit Big

theorem grow_blk {w w' : World} {p : Nat} {o : Obj} (h : w.heap[p]? = some o) (hg : w.grownBy w' none) : w'.heap[p]? = some o := (hg.block p (blk_lt h) (by simp)).trans h
theorem grow_then {a b c : World} {p : Nat} (h : a.grownBy b none) (k : b.grownBy c (some p)) : a.grownBy c (some p) := gtrans (gweak h _) k

theorem string_any (p : Nat) (v : Value) (l : List Nat) (w : World) (h : IsBig w p false v l) (hl2 : l.length ≤ 2) :
    Calls Try.prog 45 #[.pointer (some ⟨p, 0, none⟩)] w fun e w' => e = .returned (.string (txt (Lib.decDigits (val l)))) ∧ w.grownBy w' none := by
  have HT : Hid (Calls _ _ _ _ _) := text_any p v l w h hl2
  clear h
  generalize txt (Lib.decDigits (val l)) = x at *
  go_enter Try.func45, Try.ntmps45
  go_wp2_with fail
  refine HT.out.mono ?_
  rintro e w1 ⟨rfl, hg⟩
  clear HT
  go_wp2
  go_ret
  exact ⟨rfl, hg⟩
end Go.Proofs.Ytijjegkkeigeoaa

namespace Go.Proofs.Ytijjegkkeigeoaa
set_option linter.unusedVariables false
set_option linter.unusedSimpArgs false
set_option maxRecDepth 100000
open Go.RowKit Go.Lib Big
/-- A number's digits. -/
def dgS (n : Nat) : ByteArray := txt (Lib.decDigits n)
theorem kdig_any (n : Nat) (hn : n ≤ 1000) (w : World) :
    Calls Try.prog 22 #[.int .i64 (n : Int)] w fun e w' => e = .returned (.string (dgS n)) ∧ Hid (Below w.heap.size w w') := by
  have HB : Hid (Calls _ _ _ _ _) := big_any (n : Int) w (by omega) (by omega)
  have HS : Hid (∀ W, BigIs W w.heap.size (n : Int) → Calls Try.prog 45 #[.pointer (some ⟨w.heap.size, 0, none⟩)] W fun e w' => e = .returned (.string (dgS n)) ∧ W.grownBy w' none) := fun W hW => by
    obtain ⟨neg, v, l, hb, hv⟩ := hW
    have hneg : neg = false := by
      cases neg
      · rfl
      · have h0 := hb.sgn rfl
        have h1 := val_ge hb.nrm h0
        have h2 := Nat.pow_pos (n := l.length - 1) (by omega : 0 < 4294967296)
        have e1 : sg true (val l) = -(val l : Int) := rfl
        rw [e1] at hv
        omega
    subst hneg
    have hvl : val l = n := by
      have e1 : sg false (val l) = (val l : Int) := rfl
      rw [e1] at hv
      omega
    have := string_any w.heap.size v l W hb (len_two hb.wd.ok hb.nrm (by omega))
    rw [hvl] at this
    exact this
  go_enter Try.func22, Try.ntmps22
  go_wp2_with fail
  refine HB.out.mono ?_
  rintro e w1 ⟨rfl, hb1, hg1⟩
  have HS1 : Hid (Calls _ _ _ _ _) := HS.out w1 hb1
  have B1 : Hid (Below w.heap.size w w1) := gbelow hg1
  clear HS HB hb1 hg1
  go_wp2_with fail
  refine HS1.out.mono ?_
  rintro e w2 ⟨rfl, hg2⟩
  have B2 : Hid (Below w.heap.size w w2) := B1.out.grown hg2 B1.out.size (by simp)
  clear HS1 hg2 B1
  go_wp2
  go_ret
  exact ⟨rfl, B2.out⟩
theorem dgS_size (n : Nat) (hn : n ≤ 1000) : (dgS n).size ≤ 20 := by
  have : ∀ n : Nat, n < 1001 → (dgS n).size ≤ 20 := by decide +kernel
  exact this n (by omega)
/-- An entry of a number. -/
def eRef (n : Nat) : ByteArray := ⟨#[101]⟩ ++ dgS n
def eLns (n : Nat) : List Ln := [⟨⟨#[49, 48]⟩, ⟨#[69, 85, 82]⟩, (n : Int) + 1⟩, ⟨⟨#[50, 48]⟩, ⟨#[69, 85, 82]⟩, -(n : Int) - 1⟩]
def eOf (n : Nat) : En := ⟨eRef n, 1 + (n : Int) % 12, 1 + (n : Int) % 120, eLns n⟩
theorem keOf_any (n : Nat) (hn : n ≤ 1000) (w : World) :
    Calls Try.prog 7 #[.int .i64 (n : Int)] w fun e w' => ∃ g, e = .returned (.agg #[.string (eRef n), .int .i64 (1 + (n : Int) % 12), .int .i64 (1 + (n : Int) % 120), .slice (some ⟨g, 0, none⟩) 2 2]) ∧ Hid (LnRow w' w.heap.size (.slice (some ⟨g, 0, none⟩) 2 2) (eLns n)) ∧ Hid (Below w.heap.size w w') := by
  have hal := kalloc_je
  obtain ⟨W0, hW0⟩ : ∃ W0, w.alloc (.cells je0C 32) = W0 := ⟨_, rfl⟩
  have hr0 := new_heap w (.cells je0C 32)
  have hb0 : Below w.heap.size w (w.alloc (.cells je0C 32)) := (Below.refl _ w).alloc (Nat.le_refl _) _
  rw [hW0] at hr0 hb0
  have HD : Hid (Calls _ _ _ W0 _) := kdig_any n hn W0
  have HR0 : Hid (W0.heap[w.heap.size]? = some (.cells je0C 32 (0, 0)) ∧ Below w.heap.size w W0) := ⟨hr0, hb0⟩
  have n0 : (0 : Int) ≤ n := by omega
  have n1 : (n : Int) ≤ 1000 := by omega
  have q1 : (0 : Int) ≤ (n : Int) % 12 := by omega
  have q2 : (n : Int) % 12 < 12 := by omega
  have q3 : (0 : Int) ≤ (n : Int) % 120 := by omega
  have q4 : (n : Int) % 120 < 120 := by omega
  have hsz := dgS_size n hn
  have ht12 : (n : Int).tmod 12 = (n : Int) % 12 := Int.tmod_eq_emod_of_nonneg n0
  have ht120 : (n : Int).tmod 120 = (n : Int) % 120 := Int.tmod_eq_emod_of_nonneg n0
  have hsz1 : ¬ 9223372036854775807 < 1 + (dgS n).size := by omega
  clear hr0 hb0
  go_enter Try.func7, Try.ntmps7
  go_wp2_with (refine wpList_alloc_run rfl 32 rfl (hal _) ?_)
  refine HD.out.mono ?_
  rintro e w1 ⟨rfl, hb⟩
  obtain ⟨W2, hW2⟩ : ∃ W2, w1.alloc (.cells #[.string ⟨#[49, 48]⟩, .string ⟨#[69, 85, 82]⟩, .int .i64 ((n : Int) + 1), .string ⟨#[50, 48]⟩, .string ⟨#[69, 85, 82]⟩, .int .i64 (-(n : Int) - 1)] 64) = W2 := ⟨_, rfl⟩
  have b2 : Below w1.heap.size w1 W2 := by rw [← hW2]; exact (Below.refl _ _).alloc (Nat.le_refl _) _
  have hl2 : W2.heap[w1.heap.size]? = some (.cells #[.string ⟨#[49, 48]⟩, .string ⟨#[69, 85, 82]⟩, .int .i64 ((n : Int) + 1), .string ⟨#[50, 48]⟩, .string ⟨#[69, 85, 82]⟩, .int .i64 (-(n : Int) - 1)] 64 (0, 0)) := by rw [← hW2]; exact new_heap w1 _
  have hlt0 : w.heap.size < W0.heap.size := (Array.getElem?_eq_some_iff.1 HR0.out.1).1
  have hr2 : W2.heap[w.heap.size]? = some (.cells je0C 32 (0, 0)) := (b2.block _ (by have := hb.out.size; omega)).trans ((hb.out.block _ hlt0).trans HR0.out.1)
  have B2 : Below w.heap.size w W2 := HR0.out.2.trans ((hb.out.trans (b2.mono hb.out.size)).mono HR0.out.2.size)
  have hst := kstore_je (cs := [.string (eRef n), .int .i64 (1 + (n : Int) % 12), .int .i64 (1 + (n : Int) % 120), .slice (some ⟨w1.heap.size, 0, none⟩) 2 2]) (cs' := je0C.toList) rfl rfl (by intro u hu; simp at hu; rcases hu with rfl | rfl | rfl | rfl <;> rfl) hr2
  obtain ⟨W3, hW3⟩ : ∃ W3, W2.setRow w.heap.size [.string (eRef n), .int .i64 (1 + (n : Int) % 12), .int .i64 (1 + (n : Int) % 120), .slice (some ⟨w1.heap.size, 0, none⟩) 2 2].toArray = W3 := ⟨_, rfl⟩
  have hr3 : W3.heap[w.heap.size]? = some (.cells [.string (eRef n), .int .i64 (1 + (n : Int) % 12), .int .i64 (1 + (n : Int) % 120), .slice (some ⟨w1.heap.size, 0, none⟩) 2 2].toArray 32 (0, 0)) := by rw [← hW3]; exact setRow_heap _ _ _ _ _ _ hr2
  have B3 : Below w.heap.size w W3 := by rw [← hW3]; exact setRow_below B2 (Nat.le_refl _)
  have hl3 : W3.heap[w1.heap.size]? = some (.cells #[.string ⟨#[49, 48]⟩, .string ⟨#[69, 85, 82]⟩, .int .i64 ((n : Int) + 1), .string ⟨#[50, 48]⟩, .string ⟨#[69, 85, 82]⟩, .int .i64 (-(n : Int) - 1)] 64 (0, 0)) := by
    rw [← hW3]
    exact (setRow_other _ _ _ _ (by have := hb.out.size; omega)).trans hl2
  have hlr : LnRow W3 w.heap.size (.slice (some ⟨w1.heap.size, 0, none⟩) 2 2) (eLns n) := by
    refine ⟨by rw [lnRow_length], .inr ⟨w1.heap.size, 2, _, rfl, by have := hb.out.size; omega, hl3, Nat.le_refl _, by unfold maxLen; decide, by simp, ?_⟩⟩
    simp [lnRow, eLns, Ln.cells]
  rw [hW3] at hst
  have HE : Hid (W3.heap[w.heap.size]? = some (.cells #[.string (eRef n), .int .i64 (1 + (n : Int) % 12), .int .i64 (1 + (n : Int) % 120), .slice (some ⟨w1.heap.size, 0, none⟩) 2 2] 32 (0, 0)) ∧ LnRow W3 w.heap.size (.slice (some ⟨w1.heap.size, 0, none⟩) 2 2) (eLns n) ∧ Below w.heap.size w W3) := ⟨hr3, hlr, B3⟩
  clear HD HR0 hb b2 hl2 hlt0 hr2 B2 hW3 hr3 B3 hl3 hlr
  go_wp2_with (first | (refine wpList_store_run rfl 32 _ _ rfl _ _ (by rfl) (by rfl) hst ?_))
  refine bodyPost_ret (results_cell_row rfl _ _ w.heap.size 32 _ (0, 0) _ (by rfl) HE.out.1 Try.underlying32 rfl kje_size) rfl ?_
  exact ⟨_, rfl, HE.out.2.1, HE.out.2.2⟩
end Go.Proofs.Ytijjegkkeigeoaa

namespace Go.Proofs.Ytijjegkkeigeoaa
set_option linter.unusedVariables false
set_option linter.unusedSimpArgs false
set_option maxRecDepth 100000
open Go.RowKit Go.Lib

/-- Lists of numbers that came in. -/
structure Rw where
  ad : Option Addr
  l : List Int
  cap : Nat
def rw0 : Rw := ⟨none, [], 0⟩
structure IsRs (W : World) (a : Option Addr) (rs : List Rw) (cap : Nat) : Prop where
  cap : rs.length ≤ cap
  lies : rs = [] ∨ ∃ b off, a = some ⟨b, off, none⟩ ∧ b < W.heap.size ∧ ∀ k, k < rs.length → W.cell? ⟨b, off + k, none⟩ = some (.slice (rs.getD k rw0).ad (rs.getD k rw0).l.length (rs.getD k rw0).cap)
  rows : ∀ r ∈ rs, IsIn W r.ad r.l r.cap ∧ r.l.length ≤ 9223372036854775807
theorem IsRs.below {w w' : World} {a : Option Addr} {rs : List Rw} {cap : Nat} (h : IsRs w a rs cap) (hb : Below w.heap.size w w') : IsRs w' a rs cap := by
  refine ⟨h.cap, ?_, fun r hr => ⟨(h.rows r hr).1.below hb, (h.rows r hr).2⟩⟩
  rcases h.lies with h | ⟨b, off, e, hlt, hc⟩
  · exact .inl h
  · exact .inr ⟨b, off, e, by have := hb.size; omega, fun k hk => (hb.cell (p := ⟨b, off + k, none⟩) hlt).trans (hc k hk)⟩

/-- The first three numbers of a list, and 0. -/
def va (l : List Int) : Array Value := #[.int .i64 (l.getD 0 0), .int .i64 (l.getD 1 0), .int .i64 (l.getD 2 0)]
theorem va_set (l : List Int) (j : Nat) (hj : j < l.length) (h4 : j < 3) : (va (l.take j)).setIfInBounds j (.int .i64 (l.getD j 0)) = va (l.take (j + 1)) := by
  have e : ∀ i, i < j → (l.take j).getD i 0 = (l.take (j + 1)).getD i 0 := fun i hi => by
    simp only [List.getD_eq_getElem?_getD, List.getElem?_take]
    rw [if_pos hi, if_pos (by omega)]
  have e2 : (l.take (j + 1)).getD j 0 = l.getD j 0 := by
    simp only [List.getD_eq_getElem?_getD, List.getElem?_take]
    rw [if_pos (by omega)]
  have e3 : ∀ i, j < i → (l.take j).getD i 0 = (l.take (j + 1)).getD i 0 := fun i hi => by
    simp only [List.getD_eq_getElem?_getD, List.getElem?_take]
    rw [if_neg (by omega), if_neg (by omega)]
  match j, h4 with
  | 0, _ => simp only [va]; rw [← e2, e3 1 (by omega), e3 2 (by omega)]; rfl
  | 1, _ => simp only [va]; rw [← e2, e 0 (by omega), e3 2 (by omega)]; rfl
  | 2, _ => simp only [va]; rw [← e2, e 0 (by omega), e 1 (by omega)]; rfl
theorem va_get (l : List Int) (j : Nat) (h4 : j < 3) : (va l)[j]? = some (.int .i64 (l.getD j 0)) := by
  match j, h4 with
  | 0, _ => rfl
  | 1, _ => rfl
  | 2, _ => rfl
theorem va_take (l : List Int) (j : Nat) (h : j = 3 ∨ l.length ≤ j) : va (l.take j) = va l := by
  rcases h with rfl | h
  · have e : ∀ i, i < 3 → (l.take 3).getD i 0 = l.getD i 0 := fun i hi => by
      simp only [List.getD_eq_getElem?_getD, List.getElem?_take]
      rw [if_pos hi]
    simp only [va]
    rw [e 0 (by omega), e 1 (by omega), e 2 (by omega)]
  · rw [List.take_of_length_le h]
theorem alloc_v (w : World) : (Instr.alloc 38 true (.tuple #[])).run Try.prog w = .ok (.pointer (some ⟨w.heap.size, 0, none⟩)) (w.alloc (.cells (va []) 38)) := by
  have hz0 : (Try.prog.info? 38).map (·.zero) = some (some (.agg (va []))) := by kernel_rfl
  cases hq : Try.prog.info? 38 with
  | none => simp [hq] at hz0
  | some q =>
    have hz : q.zero = some (.agg (va [])) := by simpa [hq] using hz0
    simp [Instr.alloc, zeroValue, typeInfo, hq, hz, newVar, newRow, Value.cells]

theorem tn_fail {w W : World} {p nb sb : Nat} {cv : Value} {n : Nat} {D : Dk} (h : Tn w W p nb sb cv n D) (f : Int) :
    Calls Try.prog 9 #[.pointer (some ⟨p, 0, none⟩), .int .i64 f] W fun e w' => e = .returned (.tuple #[]) ∧ Hid (Tn w w' p nb sb cv n { D with fail := f }) ∧ Hid (Keeps w.heap.size dkT W w') := by
  have c4 := h.1.p4
  have f4 := h.1.fz 4
  have hd := h.1.setFail f
  have hk := (Keeps.refl w.heap.size dkT W).setCell (o := 4) h.1.box (by simp [dkT]) h.1.lp (.int .i64 f)
  have HT : Hid (Tn w (W.setCell ⟨p, 4, none⟩ (.int .i64 f)) p nb sb cv n { D with fail := f }) := h.keeps hd hk
  have HK : Hid (Keeps _ _ _ _) := hk
  clear h hd hk
  go_enter Try.func9, Try.ntmps9
  go_wp2
  go_end0
  exact ⟨rfl, HT, HK⟩


/-- What is kept, on a disk that may fail (b). -/
def PkF (w W : World) (p nb sb : Nat) (E : List En) (L S : Nat) (b : Bool) : Prop := ∃ cv D, Tn w W p nb sb cv 150 D ∧ KpD 150 D (E.map entB) L S ∧ (D.fail < 0 ∨ b = true) ∧ ∀ e ∈ E, EnFit e
/-- For a Crash. -/
def KbX (w W : World) (p nb sb : Nat) (E1 : List En) (sf L S : Nat) : Prop := ∃ cv D Ea, Tn w W p nb sb cv 150 D ∧ KpX 150 D (Ea.map entB) sf L S ∧ Ea <+: E1 ∧ ∀ e ∈ Ea, EnFit e
/-- What is there. -/
def KbD (w W : World) (p nb sb : Nat) (E1 : List En) (sf L S : Nat) : Prop := ∃ E2, PkS w W p nb sb 150 E2 L S ∧ E2 <+: E1 ∧ sf ≤ E2.length
theorem PkS.monoK {w W : World} {p nb sb n L S L' S' : Nat} {E : List En} (h : PkS w W p nb sb n E L S) (h1 : L ≤ L') (h2 : S ≤ S') : PkS w W p nb sb n E L' S' := by
  obtain ⟨cv, D, a, b, c⟩ := h
  exact ⟨cv, D, a, b.mono h1 h2, c⟩
section
variable {w W U : World} {p nb sb L S sf : Nat} {E E1 : List En} {b : Bool}
theorem PkS.f (h : PkS w W p nb sb 150 E L S) : PkF w W p nb sb E L S false := by
  obtain ⟨cv, D, h1, h2, h3, h4⟩ := h
  exact ⟨cv, D, h1, h2, .inl h3, h4⟩
theorem PkF.bel (h : PkF w W p nb sb E L S b) : Below w.heap.size w W := by
  obtain ⟨cv, D, h1, r⟩ := h
  exact h1.2
theorem PkF.below (h : PkF w W p nb sb E L S b) (hb : Below W.heap.size W U) : PkF w U p nb sb E L S b := by
  obtain ⟨cv, D, h1, r⟩ := h
  exact ⟨cv, D, h1.below hb, r⟩
theorem KbX.below (h : KbX w W p nb sb E1 sf L S) (hb : Below W.heap.size W U) : KbX w U p nb sb E1 sf L S := by
  obtain ⟨cv, D, Ea, h1, r⟩ := h
  exact ⟨cv, D, Ea, h1.below hb, r⟩
theorem KbX.bel (h : KbX w W p nb sb E1 sf L S) : Below w.heap.size w W := by
  obtain ⟨cv, D, Ea, h1, r⟩ := h
  exact h1.2
theorem KbD.bel (h : KbD w W p nb sb E1 sf L S) : Below w.heap.size w W := by
  obtain ⟨E2, h1, r⟩ := h
  exact h1.bel
theorem KbD.mono (h : KbD w W p nb sb E1 sf L S) {L' S' : Nat} (h1 : L ≤ L') (h2 : S ≤ S') : KbD w W p nb sb E1 sf L' S' := by
  obtain ⟨E2, a, r⟩ := h
  exact ⟨E2, a.monoK h1 h2, r⟩
/-- How many steps a disk has done. -/
theorem PkF.steps (h : PkF w W p nb sb E L S b) : ∃ k : Nat, k ≤ L ∧ ∀ V, Below W.heap.size W V → Calls Try.prog 10 #[.pointer (some ⟨p, 0, none⟩)] V fun e w' => e = .returned (.int .i64 (k : Int)) ∧ w' = V := by
  obtain ⟨cv, D, h1, h2, r⟩ := h
  exact ⟨D.steps, h2.lim.s, fun V hV => steps_any w.heap.size p nb sb cv 150 D V (h1.below hV).1⟩
/-- It is set to fail. -/
theorem PkF.fail_ (h : PkF w W p nb sb E L S b) (f : Int) :
    Calls Try.prog 9 #[.pointer (some ⟨p, 0, none⟩), .int .i64 f] W fun e w' => e = .returned (.tuple #[]) ∧ Hid (PkF w w' p nb sb E L S true ∧ Keeps w.heap.size dkT W w') := by
  obtain ⟨cv, D, h1, h2, h3, h4⟩ := h
  refine (tn_fail h1 f).mono ?_
  rintro e w' ⟨rfl, ht, hk⟩
  exact ⟨rfl, ⟨cv, _, ht.out, h2.set f, .inr rfl, h4⟩, hk.out⟩
/-- A Save, whatever the disk does. -/
theorem PkF.save (h : PkF w W p nb sb E L S b) (hS : S < 64000) (a : Option Addr) (c : Nat) (Js : List Je) (hJ : IsJs W a Js c) (h64 : ∀ x ∈ Js, I64 x.ent ∧ I64 x.per ∧ ∀ y ∈ x.lns, I64 y.amt) (hlen : Js.length ≤ 2000) (hL : L ≤ 100000) (hE : E <+: Js.map Je.en) (hl4 : Js.length ≤ E.length + 4) :
    Calls Try.prog 6 #[.pointer (some ⟨p, 0, none⟩), .slice a Js.length c] W fun e w' => ∃ (sf : Nat) (ev : Value), e = .returned ev ∧ ((ev = .nilIface ∧ sf = Js.length) ∨ ∃ cc : Int, ev = .iface 44 (.int .i64 cc) ∧ sf = E.length) ∧ Hid (KbX w w' p nb sb (Js.map Je.en) sf (L + 1600) (S + 2) ∧ (b = false → KbD w w' p nb sb (Js.map Je.en) sf (L + 1600) (S + 2)) ∧ Keeps w.heap.size dkT W w') := by
  obtain ⟨cv, D, h1, h2, h3, h4⟩ := h
  have hle := hE.length_le
  rw [List.length_map] at hle
  refine (ksave_any h1 h2 hS a c Js hJ h64 (by omega) (.inl (by omega))).mono ?_
  rintro e w' (⟨h0, rfl, hb⟩ | ⟨h0, hk, (⟨rfl, hh⟩ | ⟨rfl, hf, hh⟩)⟩)
  · have hx := h2.x (by omega)
    rw [List.length_map] at hx
    refine ⟨E.length, _, rfl, .inr ⟨_, enE_ne h0, rfl⟩, ⟨cv, D, E, h1.below hb.out, ⟨hx.n1, hx.n2, hx.mrk, hx.hd, hx.lim.mono (by omega), ?_⟩, hE, h4⟩, fun e0 => ?_, Keeps.of_below hb.out⟩
    · obtain ⟨s, wh, P0, rs0, wh0, rs1, rsA, rsm, a1, a2, a3, a4⟩ := hx.I
      exact ⟨s, wh, P0, rs0, wh0, rs1, rsA, rsm, a1, a2, a3, by omega⟩
    · subst e0
      have hf : D.fail < 0 := h3.resolve_right (by simp)
      exact ⟨E, ⟨cv, D, h1.below hb.out, h2.mono (by omega) (by omega), hf, h4⟩, hE, Nat.le_refl _⟩
  · obtain ⟨cv', D', q1, q2, q3⟩ := hh.out
    obtain ⟨z1, z2, z3, z4⟩ := adE_zero h0
    have hx := q2.x (by omega)
    rw [List.length_map, List.length_map] at hx
    rw [List.length_map] at q2
    refine ⟨Js.length, _, rfl, .inl ⟨rfl, rfl⟩, ⟨cv', D', _, q1, ⟨hx.n1, hx.n2, hx.mrk, hx.hd, hx.lim.mono (by rw [List.length_map]; omega), ?_⟩, List.prefix_refl _, fun e he => (z2 e he).1⟩, fun e0 => ?_, hk.out⟩
    · obtain ⟨s, wh, P0, rs0, wh0, rs1, rsA, rsm, a1, a2, a3, a4⟩ := hx.I
      exact ⟨s, wh, P0, rs0, wh0, rs1, rsA, rsm, a1, a2, a3, by omega⟩
    · subst e0
      have hf : D.fail < 0 := h3.resolve_right (by simp)
      exact ⟨_, ⟨cv', D', q1, q2.mono (by omega) (by omega), by rw [q3]; exact hf, fun e he => (z2 e he).1⟩, List.prefix_refl _, by rw [List.length_map]; exact Nat.le_refl _⟩
  · obtain ⟨cv', D', q1, q2⟩ := hh.out
    obtain ⟨z1, z2, z3, z4⟩ := adE_zero h0
    rw [List.length_map] at q2
    refine ⟨E.length, _, rfl, .inr ⟨_, rfl, rfl⟩, ⟨cv', D', _, q1, ⟨q2.n1, q2.n2, q2.mrk, q2.hd, q2.lim.mono (by omega), ?_⟩, List.prefix_refl _, fun e he => (z2 e he).1⟩, fun e0 => ?_, hk.out⟩
    · obtain ⟨s, wh, P0, rs0, wh0, rs1, rsA, rsm, a1, a2, a3, a4⟩ := q2.I
      exact ⟨s, wh, P0, rs0, wh0, rs1, rsA, rsm, a1, a2, a3, by omega⟩
    · subst e0
      have hf2 : D.fail < 0 := h3.resolve_right (by simp)
      omega
theorem pre_map {rs : List (List UInt8)} {Ea : List En} (h : rs <+: Ea.map entB) : rs = (Ea.take rs.length).map entB := by
  have := List.prefix_iff_eq_take.1 h
  rw [List.map_take]
  exact this
/-- A Crash. -/
theorem KbX.crash (h : KbX w W p nb sb E1 sf L S) (hL : L ≤ 900000) (a : Option Addr) (keep : List Int) (cap : Nat) (torn : Int) (hkl : keep.length ≤ 9223372036854775807) (hin : IsIn W a keep cap) :
    Calls Try.prog 11 #[.pointer (some ⟨p, 0, none⟩), .slice a keep.length cap, .int .i64 torn] W fun e w' => e = .returned (.tuple #[]) ∧ Hid (KbD w w' p nb sb E1 sf 10 S ∧ Keeps w.heap.size dkT W w') := by
  obtain ⟨cv, D, Ea, h1, h2, h3, h4⟩ := h
  refine (h2.crash h1 hL a keep cap torn hkl hin).mono ?_
  rintro e w' ⟨rfl, hh, hk⟩
  obtain ⟨cv', D', rs', t1, t2, t3, t4, t5⟩ := hh.out
  have e1 := pre_map t3
  refine ⟨rfl, ⟨Ea.take rs'.length, ⟨cv', D', t1, by rw [← e1]; exact t2, t5, fun e he => h4 e (List.mem_of_mem_take he)⟩, (List.take_prefix _ _).trans h3, ?_⟩, hk.out⟩
  have := t3.length_le
  rw [List.length_map] at this
  rw [List.length_take]
  omega
end
end Go.Proofs.Ytijjegkkeigeoaa
