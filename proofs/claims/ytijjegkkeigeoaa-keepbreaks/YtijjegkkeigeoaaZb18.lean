/-
  The contract of daysame.Entries, beside frame's lines.
-/
import Derived.Test.YtijjegkkeigeoaaZb17
import Derived.Test.YtijjegkkeigeoaaZb0
import Derived.Deep.AppendLies
import Derived.Deep.RegionHeldLaw
import Derived.Deep.RegionHeld3
import Derived.BigRegion
import Derived.Test.YtijjegkkeigeoaaZb15
import Derived.Laws.StructEq
import Derived.Test.YtijjegkkeigeoaaZb16
import Derived.Test.YtijjegkkeigeoaaZb14
import Derived.Deep.RegionWith
namespace Go.Proofs.Ytijjegkkeigeoaa
set_option linter.unusedVariables false
set_option linter.unusedSimpArgs false
open Go.RowKit

abbrev St := Option (List UInt8)
/-- A line, read by a reader. -/
def lnS (st : St) : Ln × St := (⟨(rdTS st).1, (rdTS (rdTS st).2).1, (rdNS (-mostA) mostA (rdTS (rdTS st).2).2).1⟩, (rdNS (-mostA) mostA (rdTS (rdTS st).2).2).2)
def lnsS : Nat → St → List Ln × St
  | 0, st => ([], st)
  | k + 1, st => ((lnsS k st).1 ++ [(lnS (lnsS k st).2).1], (lnS (lnsS k st).2).2)
theorem lnsS_length : ∀ (k : Nat) (st : St), (lnsS k st).1.length = k
  | 0, _ => rfl
  | k + 1, st => by simp [lnsS, lnsS_length k st]
theorem lnS_len {st : St} (h : StLen st) : StLen (lnS st).2 := rdNS_len (rdTS_len (rdTS_len h))
theorem lnsS_len : ∀ (k : Nat) (st : St), StLen st → StLen (lnsS k st).2
  | 0, _, h => h
  | k + 1, st, h => lnS_len (lnsS_len k st h)
theorem rdTS_none : (rdTS none).2 = none := rfl
theorem rdNS_none (lo hi : Int) : (rdNS lo hi none).2 = none := rfl
theorem lnS_none : (lnS none).2 = none := rfl
theorem lnsS_none : ∀ k, (lnsS k none).2 = none
  | 0 => rfl
  | k + 1 => by simp only [lnsS, lnsS_none k]; rfl
theorem rdTS_of {l : List UInt8} : (rdT l = none ∧ (rdTS (some l)).2 = none) ∨ ∃ s r, rdT l = some (s, r) ∧ rdTS (some l) = (s, some r) := by
  cases h : rdT l with
  | none => exact .inl ⟨rfl, by simp [rdTS, h]⟩
  | some x => exact .inr ⟨x.1, x.2, rfl, by simp [rdTS, h]⟩
theorem rdNS_of {lo hi : Int} {l : List UInt8} : (rdN lo hi l = none ∧ (rdNS lo hi (some l)).2 = none) ∨ ∃ s r, rdN lo hi l = some (s, r) ∧ rdNS lo hi (some l) = (s, some r) := by
  cases h : rdN lo hi l with
  | none => exact .inl ⟨rfl, by simp [rdNS, h]⟩
  | some x => exact .inr ⟨x.1, x.2, rfl, by simp [rdNS, h]⟩
theorem lnS_of {l : List UInt8} : (rdL l = none ∧ (lnS (some l)).2 = none) ∨ ∃ s r, rdL l = some (s, r) ∧ lnS (some l) = (s, some r) := by
  rcases @rdTS_of l with ⟨h1, e1⟩ | ⟨s1, r1, h1, e1⟩
  · exact .inl ⟨by simp [rdL, h1], by simp only [lnS, e1]; rfl⟩
  rcases @rdTS_of r1 with ⟨h2, e2⟩ | ⟨s2, r2, h2, e2⟩
  · exact .inl ⟨by simp [rdL, h1, h2], by simp only [lnS, e1, e2]; rfl⟩
  rcases @rdNS_of (-mostA) mostA r2 with ⟨h3, e3⟩ | ⟨s3, r3, h3, e3⟩
  · exact .inl ⟨by simp [rdL, h1, h2, h3], by simp only [lnS, e1, e2, e3]⟩
  · exact .inr ⟨⟨s1, s2, s3⟩, r3, by simp [rdL, h1, h2, h3], by simp only [lnS, e1, e2, e3]⟩
theorem rdLs_snoc : ∀ (k : Nat) (l : List UInt8), rdLs (k + 1) l = (rdLs k l).bind fun y => (rdL y.2).map fun x => (y.1 ++ [x.1], x.2)
  | 0, l => by
    simp only [rdLs, Option.bind_some]
    cases rdL l <;> simp
  | k + 1, l => by
    rw [rdLs]
    cases h : rdL l with
    | none => simp [rdLs, h]
    | some x =>
      have := rdLs_snoc k x.2
      simp only [Option.bind_some]
      rw [this, rdLs, h]
      simp only [Option.bind_some]
      cases rdLs k x.2 with
      | none => simp
      | some y =>
        simp only [Option.bind_some, Option.map_some]
        cases rdL y.2 <;> simp
theorem lnsS_of : ∀ (k : Nat) (l : List UInt8), (rdLs k l = none ∧ (lnsS k (some l)).2 = none) ∨ ∃ s r, rdLs k l = some (s, r) ∧ lnsS k (some l) = (s, some r)
  | 0, l => .inr ⟨[], l, rfl, rfl⟩
  | k + 1, l => by
    rw [rdLs_snoc]
    rcases lnsS_of k l with ⟨h1, e1⟩ | ⟨s1, r1, h1, e1⟩
    · refine .inl ⟨by rw [h1]; rfl, ?_⟩
      simp only [lnsS, e1]; rfl
    · rcases @lnS_of r1 with ⟨h2, e2⟩ | ⟨s2, r2, h2, e2⟩
      · exact .inl ⟨by rw [h1]; simp [h2], by simp only [lnsS, e1, e2]⟩
      · exact .inr ⟨s1 ++ [s2], r2, by rw [h1]; simp [h2], by simp only [lnsS, e1, e2]⟩
/-- An entry, read by a reader. -/
def entS (st : St) : En × St :=
  (⟨(rdTS st).1, (rdNS 0 200 (rdTS st).2).1, (rdNS 0 200 (rdNS 0 200 (rdTS st).2).2).1, (lnsS (rdNS 0 20 (rdNS 0 200 (rdNS 0 200 (rdTS st).2).2).2).1.toNat (rdNS 0 20 (rdNS 0 200 (rdNS 0 200 (rdTS st).2).2).2).2).1⟩,
   (lnsS (rdNS 0 20 (rdNS 0 200 (rdNS 0 200 (rdTS st).2).2).2).1.toNat (rdNS 0 20 (rdNS 0 200 (rdNS 0 200 (rdTS st).2).2).2).2).2)
theorem entS_of {l : List UInt8} : (rdE l = none ∧ (entS (some l)).2 = none) ∨ ∃ s r, rdE l = some (s, r) ∧ entS (some l) = (s, some r) := by
  rcases @rdTS_of l with ⟨h1, e1⟩ | ⟨s1, r1, h1, e1⟩
  · exact .inl ⟨by simp [rdE, h1], by simp only [entS, e1]; exact lnsS_none _⟩
  rcases @rdNS_of 0 200 r1 with ⟨h2, e2⟩ | ⟨s2, r2, h2, e2⟩
  · exact .inl ⟨by simp [rdE, h1, h2], by simp only [entS, e1, e2]; exact lnsS_none _⟩
  rcases @rdNS_of 0 200 r2 with ⟨h3, e3⟩ | ⟨s3, r3, h3, e3⟩
  · exact .inl ⟨by simp [rdE, h1, h2, h3], by simp only [entS, e1, e2, e3]; exact lnsS_none _⟩
  rcases @rdNS_of 0 20 r3 with ⟨h4, e4⟩ | ⟨s4, r4, h4, e4⟩
  · exact .inl ⟨by simp [rdE, h1, h2, h3, h4], by simp only [entS, e1, e2, e3, e4]; exact lnsS_none _⟩
  rcases lnsS_of s4.toNat r4 with ⟨h5, e5⟩ | ⟨s5, r5, h5, e5⟩
  · exact .inl ⟨by simp [rdE, h1, h2, h3, h4, h5], by simp only [entS, e1, e2, e3, e4, e5]⟩
  · exact .inr ⟨⟨s1, s2, s3, s5⟩, r5, by simp [rdE, h1, h2, h3, h4, h5], by simp only [entS, e1, e2, e3, e4, e5]⟩
end Go.Proofs.Ytijjegkkeigeoaa

namespace Go.Proofs.Ytijjegkkeigeoaa
set_option linter.unusedVariables false
set_option linter.unusedSimpArgs false
set_option maxRecDepth 100000
open Go.RowKit Go.Lib

theorem IsBN.below' {w w' : World} {n m : Nat} {a : Option Addr} {l : List UInt8} {cap : Nat} (h : IsBN w n a l cap) (hb : Below m w w') (hm : n ≤ m) : IsBN w' n a l cap := h.of (hb.mono hm)
theorem RdAt.below {W W' : World} {b : Nat} {st : St} (h : RdAt W b st) (hb : Below (b + 1) W W') : RdAt W' b st := by
  cases st with
  | none => exact (hb.block b (Nat.lt_succ_self _)).trans h
  | some l =>
    obtain ⟨a, cap, x, hby⟩ := h
    exact ⟨a, cap, (hb.block b (Nat.lt_succ_self _)).trans x, hby.below' hb (Nat.le_succ _)⟩
theorem RdAt.drew {W : World} {b : Nat} {st : St} (h : RdAt W b st) : RdAt W.drew b st := h.below (Below.refl _ W).drew

/-- Where the reading of an entry stands. -/
structure ReSt (w : World) (eb : Nat) (s : ByteArray) (en pe : Int) (v : Value) (ls : List Ln) (W : World) (st : St) : Prop where
  rd : RdAt W (w.heap.size + 1) st
  len : StLen st
  box : Box4 W eb s en pe v
  row : LnRow W (eb + 1) v ls
  res : Box4 W w.heap.size ByteArray.empty 0 0 (.slice none 0 0)
  bel : Below w.heap.size w W
  lt : w.heap.size + 1 < eb
theorem ReSt.step {w : World} {eb : Nat} {s : ByteArray} {en pe : Int} {v : Value} {ls : List Ln} {W W' : World} {st st' : St} (h : ReSt w eb s en pe v ls W st) (hk : KeepBut (w.heap.size + 1) W W') (hr : RdAt W' (w.heap.size + 1) st') (hl : StLen st') : ReSt w eb s en pe v ls W' st' :=
  ⟨hr, hl, hk.box h.box (by have := h.lt; omega), hk.row h.row (by have := h.lt; omega), hk.box h.res (by omega), h.bel.trans (hk.toBelow (by omega) h.bel.size), h.lt⟩
theorem ReSt.drew {w : World} {eb : Nat} {s : ByteArray} {en pe : Int} {v : Value} {ls : List Ln} {W : World} {st : St} (h : ReSt w eb s en pe v ls W st) : ReSt w eb s en pe v ls W.drew st :=
  h.step (KeepBut.refl _ _).drew h.rd.drew h.len
theorem reText {w : World} {eb : Nat} {s : ByteArray} {en pe : Int} {v : Value} {ls : List Ln} {W : World} {st : St} (h : ReSt w eb s en pe v ls W st) :
    Calls Try.prog 48 #[.pointer (some ⟨w.heap.size + 1, 0, none⟩)] W fun e w' => e = .returned (.string (rdTS st).1) ∧ ReSt w eb s en pe v ls w' (rdTS st).2 ∧ w'.cell? ⟨eb, 3, none⟩ = some v := by
  refine (rtext_any _ st W h.rd h.len).mono ?_
  rintro e w' ⟨rfl, q1, q2⟩
  have := h.step q2 q1 (rdTS_len h.len)
  exact ⟨rfl, this, this.box.c3⟩
theorem reAmount {w : World} {eb : Nat} {s : ByteArray} {en pe : Int} {v : Value} {ls : List Ln} {W : World} {st : St} (h : ReSt w eb s en pe v ls W st) :
    Calls Try.prog 51 #[.pointer (some ⟨w.heap.size + 1, 0, none⟩)] W fun e w' => e = .returned (.int .i64 (rdNS (-mostA) mostA st).1) ∧ ReSt w eb s en pe v ls w' (rdNS (-mostA) mostA st).2 ∧ w'.cell? ⟨eb, 3, none⟩ = some v := by
  refine (ramount_any _ st W h.rd h.len).mono ?_
  rintro e w' ⟨rfl, q1, q2⟩
  have := h.step q2 q1 (rdNS_len h.len)
  exact ⟨rfl, this, this.box.c3⟩
theorem cells_line (w : World) (x0 x1 : ByteArray) (x2 : Int) : ∀ j u, ([.string x0, .string x1, .int .i64 x2] : List Value)[j]? = some u → (w.alloc (.cells #[.string x0, .string x1, .int .i64 x2] 64)).cell? ((⟨w.heap.size, 0, none⟩ : Addr).add j) = some u := by
  intro j u hj
  rw [by_add, Nat.zero_add]
  rcases j with _ | _ | _ | j
  · simpa using hj
  · simpa using hj
  · simpa using hj
  · simp at hj

theorem reOwn {w : World} {eb : Nat} {s : ByteArray} {en pe : Int} {v : Value} {ls : List Ln} {W : World} {st : St} {k : Nat} (hfl : ls.length = k) (h : ReSt w eb s en pe v ls W st) (o : Obj) : World.ownsRow (W.alloc o) (eb + 1) 64 3 v k (lnRow ls) := by
  have := World.ownsRow.alloc h.row o
  unfold LnRow at this
  rw [hfl] at this
  exact this
theorem reBase {w : World} {eb : Nat} {s : ByteArray} {en pe : Int} {v : Value} {ls : List Ln} {W : World} {st : St} (h : ReSt w eb s en pe v ls W st) (o : Obj) : eb + 1 ≤ (W.alloc o).heap.size := by
  have := (Array.getElem?_eq_some_iff.1 h.box).1
  simp
  omega
theorem reAfter {w : World} {eb : Nat} {s : ByteArray} {en pe : Int} {v : Value} {ls : List Ln} {W W' : World} {st : St} (h : ReSt w eb s en pe v ls W st) (o : Obj) (hg : (W.alloc o).grownBy W' v.ownBlock) : Box4 W' eb s en pe v :=
  (h.box.alloc o).grow hg (fun j e => h.row.own j e)
theorem reDone {w : World} {eb : Nat} {s : ByteArray} {en pe : Int} {v v' : Value} {ls : List Ln} {W W' : World} {st : St} {k : Nat} {x : Ln} (hfl : ls.length = k) (h : ReSt w eb s en pe v ls W st) (o : Obj) (hg : (W.alloc o).grownBy W' v.ownBlock)
    (hown : World.ownsRow W' (eb + 1) 64 3 v' (k + 1) (lnRow ls ++ x.cells.toList)) : ReSt w eb s en pe v' (ls ++ [x]) (W'.setCell ⟨eb, 3, none⟩ v') st := by
  have hlt := (Array.getElem?_eq_some_iff.1 h.box).1
  have hb := reAfter h o hg
  have B : Below eb W W' := ((Below.refl eb W).alloc (by omega) o).grown hg (by simp; omega) (fun j e => by have := h.row.own j e; omega)
  have B2 : Below eb W (W'.setCell ⟨eb, 3, none⟩ v') := B.setCell (p := ⟨eb, 3, none⟩) (Nat.le_refl _) v'
  have := h.lt
  refine ⟨h.rd.below (B2.mono (by omega)), h.len, ?_, LnRow.setOther ?_ (Nat.lt_succ_self _), h.res.below B2 (by omega), h.bel.trans (B2.mono (by omega)), h.lt⟩
  · unfold Box4 at hb ⊢
    rw [setCell_eq_setRow W' eb 3 _ 32 (0, 0) _ hb, setRow_heap W' eb _ _ 32 (0, 0) hb]
    rfl
  · unfold LnRow
    rw [lnRow_append, lnRow_one, List.length_append, hfl]
    exact hown
section
variable {P : Program} {ops : Array Oper} {Q : Exit → Act → World → Prop} {md : Region.Mode} {T : World → Prop} {g : Nat}
end
theorem line_one (x0 x1 : ByteArray) (x2 : Int) : ∀ u ∈ ([.string x0, .string x1, .int .i64 x2] : List Value), u.oneCell' = true := by
  intro u hu; simp at hu; rcases hu with rfl | rfl | rfl <;> rfl

set_option maxHeartbeats 4000000 in
theorem fReadEntry_any (a : Option Addr) (cap : Nat) (l : List UInt8) (w : World) (hl : l.length ≤ 9223372036854775807) (h : IsBy w a l cap) :
    Calls Try.prog 24 #[.slice a l.length cap] w fun e w' =>
      (((entS (some l)).2 = none ∧ e = .returned (.tuple #[.agg #[.string ByteArray.empty, .int .i64 0, .int .i64 0, .slice none 0 0], .int .i64 0, enE 9])) ∨
       (∃ r v, (entS (some l)).2 = some r ∧ e = .returned (.tuple #[.agg #[.string (entS (some l)).1.ref, .int .i64 (entS (some l)).1.ent, .int .i64 (entS (some l)).1.per, v], .int .i64 ((l.length : Int) - r.length), .nilIface]) ∧ LnRow w' w.heap.size v (entS (some l)).1.lns)) ∧ Below w.heap.size w w' := by
  obtain ⟨W0, hW0⟩ : ∃ W0, w.alloc (.cells #[.string ByteArray.empty, .int .i64 0, .int .i64 0, .slice none 0 0] 32) = W0 := ⟨_, rfl⟩
  obtain ⟨W1, hW1⟩ : ∃ W1, W0.alloc (.cells #[.slice a l.length cap, .bool false] 102) = W1 := ⟨_, rfl⟩
  have hs0 : W0.heap.size = w.heap.size + 1 := by rw [← hW0]; simp
  have b0 : Below w.heap.size w W0 := by rw [← hW0]; exact (Below.refl _ w).alloc (Nat.le_refl _) _
  have b1 : Below (w.heap.size + 1) W0 W1 := by rw [← hW1]; exact (Below.refl _ _).alloc (by omega) _
  have x0 : Box4 W1 w.heap.size ByteArray.empty 0 0 (.slice none 0 0) := by
    have := Box4.new w ByteArray.empty 0 0 (.slice none 0 0)
    rw [hW0] at this
    exact this.below b1 (Nat.lt_succ_self _)
  have r1 : RdAt W1 (w.heap.size + 1) (some l) := by
    refine ⟨a, cap, ?_, ?_⟩
    · rw [← hW1, ← hs0]; exact RBox.new _ _ _
    · have := (h.below (b0.trans (b1.mono (Nat.le_succ _)))).isBN
      have q := h.isBN
      refine ⟨q.cap, ?_⟩
      rcases q.lies with q | ⟨b, off, e, hlt, hc⟩
      · exact .inl q
      · exact .inr ⟨b, off, e, by omega, fun k hk => ((b0.trans (b1.mono (Nat.le_succ _))).cell (p := ⟨b, off + k, none⟩) hlt).trans (hc k hk)⟩
  have L0 : StLen (some l) := fun l' e => by cases e; exact hl
  have B1 : Below w.heap.size w W1 := b0.trans (b1.mono (Nat.le_succ _))
  have hs1 : W1.heap.size = w.heap.size + 2 := by rw [← hW1]; simp; omega
  have HT : Hid (Calls _ _ _ _ _) := rtext_any _ _ _ r1 L0
  obtain ⟨ee, hee⟩ : ∃ ee, entS (some l) = ee := ⟨_, rfl⟩
  have Hee : Hid (entS (some l) = ee) := hee
  rw [hee]
  unfold entS at Hee
  have L1 := rdTS_len L0
  generalize rdTS (some l) = p1 at *
  obtain ⟨s, st1⟩ := p1
  simp only at Hee HT L1
  have hl' : (l.length : Int) ≤ 9223372036854775807 := by omega
  have Hx0 : Hid (Box4 W1 _ _ _ _ _) := x0
  have HB1 : Hid (Below w.heap.size w W1) := B1
  have HL1 : Hid (StLen st1) := L1
  clear h hee r1 b0 b1 x0 B1 L1 L0
  have HWW : Hid ((w.alloc (.cells #[.string ⟨#[]⟩, .int .i64 0, .int .i64 0, .slice none 0 0] 32)).alloc (.cells #[.slice a l.length cap, .bool false] 102) = W1) := by
    unfold Hid
    rw [← hW1, ← hW0]
    rfl
  clear hW0 hW1
  go_enter Try.func24, Try.ntmps24
  go_wp2_with fail
  rw [HWW.out]
  clear HWW
  refine HT.out.mono ?_
  rintro e w1 ⟨rfl, q1, k1⟩
  have HS : Hid (Calls _ _ _ _ _) := rsmall_any _ _ _ q1 HL1.out
  have HL2 : Hid (StLen _) := @rdNS_len 0 200 st1 HL1.out
  have Hk1 : Hid (KeepBut _ W1 w1) := k1
  generalize rdNS 0 200 st1 = p2 at *
  obtain ⟨en, st2⟩ := p2
  simp only at Hee HS HL2
  clear HT q1 k1 HL1
  go_wp2_with fail
  refine HS.out.mono ?_
  rintro e w2 ⟨rfl, q2, k2⟩
  have HS2 : Hid (Calls _ _ _ _ _) := rsmall_any _ _ _ q2 HL2.out
  have HL3 : Hid (StLen _) := @rdNS_len 0 200 st2 HL2.out
  have Hk2 : Hid (KeepBut _ W1 w2) := Hk1.out.trans k2
  generalize rdNS 0 200 st2 = p3 at *
  obtain ⟨pe, st3⟩ := p3
  simp only at Hee HS2 HL3
  clear HS q2 k2 HL2 Hk1
  go_wp2_with fail
  refine HS2.out.mono ?_
  rintro e w3 ⟨rfl, q3, k3⟩
  have Hk3 : Hid (KeepBut _ W1 w3) := Hk2.out.trans k3
  have hs3 := Hk3.out.size
  rw [hs1] at hs3
  obtain ⟨W4, hW4⟩ : ∃ W4, w3.alloc (.cells #[.string s, .int .i64 en, .int .i64 pe, .slice none 0 0] 32) = W4 := ⟨_, rfl⟩
  have R4 : ReSt w w3.heap.size s en pe (.slice none 0 0) [] W4 st3 := by
    have b4 : Below w3.heap.size w3 W4 := by rw [← hW4]; exact (Below.refl _ _).alloc (Nat.le_refl _) _
    refine ⟨q3.below (b4.mono (by omega)), HL3.out, by rw [← hW4]; exact Box4.new _ _ _ _ _, LnRow.nil _ _, ?_, ?_, by omega⟩
    · exact ((Hk3.out.box Hx0.out (by omega))).below b4 (by omega)
    · exact (HB1.out.trans (Hk3.out.toBelow (by omega) HB1.out.size)).trans (b4.mono (by omega))
  have HC : Hid (Calls _ _ _ _ _) := rcount_any (w.heap.size + 1) st3 20 W4 R4.rd HL3.out (by omega)
  have HL4 : Hid (StLen _) := @rdNS_len 0 20 st3 HL3.out
  have hrg := @rdNS_range 20 st3 (by omega)
  generalize rdNS 0 20 st3 = p4 at *
  obtain ⟨n4, st4⟩ := p4
  simp only at Hee HC HL4 hrg
  obtain ⟨n, hn⟩ : ∃ n : Nat, n4 = n := ⟨n4.toNat, by omega⟩
  subst hn
  simp only [Int.toNat_natCast] at Hee
  have HR4 : Hid (ReSt _ _ _ _ _ _ _ _ _) := R4
  obtain ⟨eb, heb⟩ : ∃ eb, w3.heap.size = eb := ⟨_, rfl⟩
  rw [heb] at HR4 hs3
  clear HS2 q3 k3 HL3 Hk2 Hk3 R4 Hx0 HB1
  have HW4 : Hid (_ = W4) := hW4
  clear hW4
  go_wp2_with fail
  rw [HW4.out]
  refine HC.out.mono ?_
  rintro e w5 ⟨rfl, q5, k5⟩
  have HR5 : Hid (ReSt w eb s en pe (.slice none 0 0) [] w5 st4) := HR4.out.step k5 q5 HL4.out
  clear HC q5 k5 HL4 HR4 HW4
  have hn20 : n ≤ 20 := by omega
  have hn20' : (n : Int) ≤ 20 := by omega
  have d1 := (HR5.out.rd).lt
  obtain ⟨i0, hi, hz0, hz1, hz2⟩ := info_parts ln_info
  go_wp2
  go_loopw [14] (fun i wr => ∃ k : Nat, k ≤ n ∧ i = .int .i64 k ∧ ∃ v, Hid (ReSt w eb s en pe v (lnsS k st4).1 wr (lnsS k st4).2)) (fun i _ => n - (RowKit.intOf i).toNat)
  case atStart => exact ⟨0, Nat.zero_le _, rfl, _, HR5⟩
  case round =>
    obtain ⟨k, hk, rfl, v, R⟩ := hrel
    by_cases hlt : k < n
    · have hfl := lnsS_length k st4
      have hnx : lnsS (k + 1) st4 = ((lnsS k st4).1 ++ [(lnS (lnsS k st4).2).1], (lnS (lnsS k st4).2).2) := rfl
      generalize lnsS k st4 = pk at *
      obtain ⟨ls, st⟩ := pk
      simp only at R hfl hnx
      have Hnx : Hid (lnsS (k + 1) st4 = _) := hnx
      obtain ⟨av, cv, ev, _⟩ := R.out.row.isLn
      rw [hfl] at ev
      subst ev
      have c3 := R.out.box.c3
      have j1 : (k : Int) < n := by omega
      have T0 := R.out.drew
      have s2 : Hid (k + 1 ≤ maxLen) := by unfold Hid maxLen; omega
      have s3 : Hid ((k + 1) * 40 ≤ 140737488355328) := by unfold Hid; omega
      clear hnx
      go_wp2_with fail
      refine wp_region_any (by kernel_rfl) ?_
      refine wpAny_take (i := 0) (v := .pointer (some ⟨eb, 3, none⟩)) rfl (by kernel_rfl) (by kernel_rfl) (by kernel_rfl) (fun _ _ _ h => h) (Or.inl ⟨by rfl, fun w => by go_simp⟩) ?_
      simp only [Act.put, List.setIfInBounds_toArray, List.set_cons_zero, List.set_cons_succ]
      refine any_of_L (g := 7) (T := fun u => u.cell? ⟨eb, 3, none⟩ = some (.slice av k cv)) _ _ _ _ ?_
      refine L_take (i := 1) (v := .slice av k cv) rfl rfl (by kernel_rfl) (by decide) (by kernel_rfl) (by kernel_rfl) (by kernel_rfl) (by kernel_rfl) (fun _ _ _ h => h) (Or.inl ⟨by rfl, fun w' hw' => by go_simp⟩) T0.box.c3 ?_
      simp only [Act.put, List.setIfInBounds_toArray, List.set_cons_zero, List.set_cons_succ]
      refine L_one (i := 2) (by kernel_rfl) ?_
      refine wpOp_step rfl (fun K hK => ?_)
      rw [if_pos (by rfl)]
      go_wp2_with fail
      refine (reText T0).mono ?_
      rintro e u1 ⟨rfl, T1, c1⟩
      refine hK _ _ ⟨c1, ?_⟩
      clear hK K
      refine L_one (i := 3) (by kernel_rfl) ?_
      refine wpOp_step rfl (fun K hK => ?_)
      rw [if_pos (by rfl)]
      go_wp2_with fail
      refine (reText T1).mono ?_
      rintro e u2 ⟨rfl, T2, c2⟩
      refine hK _ _ ⟨c2, ?_⟩
      clear hK K
      refine L_one (i := 4) (by kernel_rfl) ?_
      refine wpOp_step rfl (fun K hK => ?_)
      rw [if_pos (by rfl)]
      go_wp2_with fail
      refine (reAmount T2).mono ?_
      rintro e u3 ⟨rfl, T3, c3'⟩
      refine hK _ _ ⟨c3', ?_⟩
      clear hK K
      refine L_one (i := 5) (by kernel_rfl) ?_
      refine wpOp_step rfl (fun K hK => ?_)
      rw [if_pos (by rfl)]
      have hK' : Shut (∀ a w, _ ∧ wpAnyL _ _ _ _ _ _ _ _ a w → K a w) := hK
      clear hK
      go_wp2
      refine hK'.out _ _ ⟨c3', ?_⟩
      clear hK' K
      refine L_one (i := 6) (by kernel_rfl) ?_
      refine wpOp_step rfl (fun K hK => ?_)
      rw [if_pos (by rfl)]
      have hK' : Shut (∀ a w, _ ∧ wpAnyL _ _ _ _ _ _ _ _ a w → K a w) := hK
      clear hK
      go_wp2
      refine hK'.out _ _ ⟨(T3.box.alloc _).c3, ?_⟩
      clear hK' K
      refine L_go (by kernel_rfl) (by kernel_rfl) ?_
      refine wpOp_step rfl (fun K hK => ?_)
      refine step_append_lies _ rfl (.tmp 17) (.tmp 22) 30 rfl (eb + 1) 64 i0 (.agg #[.string ByteArray.empty, .string ByteArray.empty, .int .i64 0]) 3 40 Try.underlying30 hi hz0 hz1 hz2 rfl (Nat.zero_lt_succ _) (.slice av k cv) k (lnRow ls) rfl (reOwn hfl T3 _) ⟨u3.heap.size, 0, none⟩ 1 1 [.string (rdTS st).1, .string (rdTS (rdTS st).2).1, .int .i64 (rdNS (-mostA) mostA (rdTS (rdTS st).2).2).1] rfl rfl (cells_line _ _ _ _) (line_one _ _ _) (Nat.zero_lt_one) s2.out s3.out (reBase T3 _) (u3.heap.size + 1) (by simp) ?_
      intro g' cap' w4 hown' hgrow hat hlt2
      refine hK _ _ ?_
      clear hK K
      have bx := reAfter T3 _ hgrow
      have cx := bx.c3
      have fx := bx.fz 3
      have HD : Hid (ReSt w eb s en pe (.slice (some ⟨g', 0, none⟩) (k + 1) cap') (lnsS (k + 1) st4).1 (w4.setCell ⟨eb, 3, none⟩ (.slice (some ⟨g', 0, none⟩) (k + 1) cap')) (lnsS (k + 1) st4).2) := by
        unfold Hid
        rw [Hnx.out]
        exact reDone hfl T3 _ hgrow hown'
      clear hown' hgrow hat T0 T1 T2 T3 R bx
      refine wpAny_take (i := 8) (v := .pointer (some ⟨eb, 3, none⟩)) rfl (by kernel_rfl) (by kernel_rfl) (by kernel_rfl) (fun _ _ _ h => h) (Or.inl ⟨by rfl, fun w => by go_simp⟩) ?_
      simp only [Act.put, List.setIfInBounds_toArray, List.set_cons_zero, List.set_cons_succ]
      refine any_one (i := 9) (by kernel_rfl) ?_
      refine wpOp_step rfl (fun K hK => ?_)
      rw [if_pos (by rfl)]
      have hK' : Shut (∀ a w, wpAny _ _ _ _ _ _ a w → K a w) := hK
      clear hK
      go_wp2
      refine hK'.out _ _ ?_
      clear hK' K
      refine wpAny_done (by kernel_rfl) ?_ _
      go_wp2
      go_roundw
      case rel => exact ⟨k + 1, by omega, by go_num, _, HD⟩
      case measure => simp [RowKit.intOf]; omega
    · have hk2 : k = n := by omega
      subst hk2
      have hR := R.out
      have he1 := Hee.out
      generalize lnsS k st4 = pk at *
      obtain ⟨ls, st⟩ := pk
      simp only at hR he1
      subst he1
      obtain ⟨av, cv, ev, _⟩ := hR.row.isLn
      subst ev
      have HR : Hid (ReSt _ _ _ _ _ _ _ _ _) := hR
      have g0 := hR.res.c0
      have g1 := hR.res.c1
      have g2 := hR.res.c2
      have g3 := hR.res.c3
      have f0 := hR.res.fz 0
      have f1 := hR.res.fz 1
      have f2 := hR.res.fz 2
      have f3 := hR.res.fz 3
      clear R Hee
      cases st with
      | none =>
        have c1 := RBox.c1 hR.rd
        clear hR
        go_wp2
        exact bodyPost_ret (v := .tuple #[.agg #[.string ByteArray.empty, .int .i64 0, .int .i64 0, .slice none 0 0], .int .i64 0, .iface 44 (.int .i64 9)]) (by simp [results, Try.results24, go_sem, g0, g1, g2, g3]; rfl) rfl ⟨rfl, ((((HR.out.bel.setCell (p := ⟨w.heap.size, 0, none⟩) (by simp) _).setCell (p := ⟨w.heap.size, 1, none⟩) (by simp) _).setCell (p := ⟨w.heap.size, 2, none⟩) (by simp) _).setCell (p := ⟨w.heap.size, 3, none⟩) (by simp) _)⟩
      | some r =>
        obtain ⟨ar, cr, x, _⟩ := hR.rd
        have c1 := x.c1
        have c0 := x.c0
        have e0 := hR.box.c0
        have e1 := hR.box.c1
        have e2 := hR.box.c2
        have e3 := hR.box.c3
        have hne1 : eb ≠ w.heap.size := by have := hR.lt; omega
        have hne2 : w.heap.size + 1 ≠ w.heap.size := by omega
        have hrl : (r.length : Int) ≤ 9223372036854775807 := by have := hR.len r rfl; omega
        have KX := (((((KeepBut.refl w.heap.size wr).set 0 (.string s)).set 1 (.int .i64 en)).set 2 (.int .i64 pe)).set 3 (.slice av ls.length cv)).drew
        have hbl : eb < wr.heap.size := (Array.getElem?_eq_some_iff.1 hR.box).1
        have hrl2 := x.lt
        have RS := And.intro (And.intro ((KX.cell (p := ⟨eb, 0, none⟩) hbl hne1).trans e0) (And.intro ((KX.cell (p := ⟨eb, 1, none⟩) hbl hne1).trans e1) (And.intro ((KX.cell (p := ⟨eb, 2, none⟩) hbl hne1).trans e2) ((KX.cell (p := ⟨eb, 3, none⟩) hbl hne1).trans e3)))) ((KX.cell (p := ⟨w.heap.size + 1, 0, none⟩) hrl2 hne2).trans c0)
        have HRS : Hid _ := RS
        have hwr : IntKind.i64.wrap ((l.length : Int) - r.length) = (l.length : Int) - r.length := by
          simp only [IntKind.wrap, IntKind.bits, IntKind.signed]
          simp
          omega
        have HKB : Hid (Below w.heap.size w ((((wr.setCell ⟨w.heap.size, 0, none⟩ (.string s)).setCell ⟨w.heap.size, 1, none⟩ (.int .i64 en)).setCell ⟨w.heap.size, 2, none⟩ (.int .i64 pe)).setCell ⟨w.heap.size, 3, none⟩ (.slice av ls.length cv)).drew) := HR.out.bel.trans (KX.toBelow (Nat.le_refl _) HR.out.bel.size)
        have HRow : Hid (LnRow ((((wr.setCell ⟨w.heap.size, 0, none⟩ (.string s)).setCell ⟨w.heap.size, 1, none⟩ (.int .i64 en)).setCell ⟨w.heap.size, 2, none⟩ (.int .i64 pe)).setCell ⟨w.heap.size, 3, none⟩ (.slice av ls.length cv)).drew w.heap.size (.slice av ls.length cv) ls) := by
          have := hR.lt
          exact (KX.row hR.row (by omega)).mono (by omega)
        clear hR x RS KX
        go_wp2_with fail
        go_region_held3 (fun u => (u.cell? ⟨eb, 0, none⟩ = some (.string s) ∧ u.cell? ⟨eb, 1, none⟩ = some (.int .i64 en) ∧ u.cell? ⟨eb, 2, none⟩ = some (.int .i64 pe) ∧ u.cell? ⟨eb, 3, none⟩ = some (.slice av ls.length cv)) ∧ u.cell? ⟨w.heap.size + 1, 0, none⟩ = some (.slice ar r.length cr)) (first | exact HRS.out | go_keep) (fail)
        go_wp2
        refine bodyPost_ret (v := .tuple #[.agg #[.string s, .int .i64 en, .int .i64 pe, .slice av ls.length cv], .int .i64 ((l.length : Int) - r.length), .nilIface]) (by simp [results, Try.results24, go_sem, g0, g1, g2, g3, hwr]) rfl ?_
        exact ⟨⟨_, rfl, HRow.out⟩, HKB.out⟩
end Go.Proofs.Ytijjegkkeigeoaa

namespace Go.Proofs.Ytijjegkkeigeoaa
set_option linter.unusedVariables false
set_option linter.unusedSimpArgs false
set_option maxRecDepth 100000
open Go.RowKit

theorem line_struct : Try.prog.underlying 64 = some (.struct (Try.prog.fieldsOf 64)) := by kernel_rfl
theorem line_stood : Try.prog.stoodInHeld 64 = false := by kernel_rfl

theorem line_same (x0 x1 : ByteArray) (x2 : Int) (W : World) : (binOp .neq 64 (.agg #[.string x0, .string x1, .int .i64 x2]) (.agg #[.string x0, .string x1, .int .i64 x2])).run Try.prog W = .ok (.bool false) W := by
  rw [run_neq_struct, show (10000 : Nat) = 9998 + 1 + 1 from rfl, run_equalIn_agg W (9998 + 1) 64 _ _ line_struct line_stood]
  unfold Program.fieldsOf
  rw [Try.underlying64]
  simp [Op.eqFields, part, go_sem, run_equalIn_string W 9998 9 _ _ Try.underlying9, run_equalIn_int W 9998 3 .i64 .i64 _ _ Try.underlying3, Try.isAgg9, Try.isAgg3]

set_option maxHeartbeats 1000000 in
theorem sameLines_any (a1 a2 : Option Addr) (c1 c2 : Nat) (l : List Ln) (w : World) (hlen : l.length ≤ 1000) (h1 : IsLn w a1 l c1) (h2 : IsLn w a2 l c2) :
    Calls Try.prog 26 #[.slice a1 l.length c1, .slice a2 l.length c2] w fun e w' => e = .returned (.bool true) ∧ Below w.heap.size w w' := by
  have Hlen : (l.length : Int) ≤ 1000 := by omega
  have H1 : Hid (l = [] ∨ _) := h1.lies
  have H2 : Hid (l = [] ∨ _) := h2.lies
  clear h1 h2
  have hS := line_same
  go_enter Try.func26, Try.ntmps26
  go_wp2
  go_loopw [5] (fun i wr => ∃ k : Nat, k ≤ l.length ∧ i = .int .i64 k ∧ ∃ n, wr = w.drewN n) (fun i _ => l.length - (RowKit.intOf i).toNat)
  case atStart => exact ⟨0, Nat.zero_le _, rfl, 0, rfl⟩
  case round =>
    obtain ⟨k, hk, rfl, nd, rfl⟩ := hrel
    by_cases hlt : k < l.length
    · rcases H1.out with h | ⟨g1, o1, rfl, _, q1⟩
      · rw [h] at hlt; simp at hlt
      rcases H2.out with h | ⟨g2, o2, rfl, _, q2⟩
      · rw [h] at hlt; simp at hlt
      have d1 := q1 k hlt
      have d2 := q2 k hlt
      clear q1 q2 H1 H2
      generalize l.getD k ln0 = x at *
      obtain ⟨x0, x1, x2⟩ := x
      obtain ⟨e0, e1, e2⟩ := d1
      obtain ⟨f0, f1, f2⟩ := d2
      simp only at e0 e1 e2 f0 f1 f2
      have i0 : (0 : Int) ≤ k := by omega
      have i1 : (k : Int) < l.length := by omega
      go_wp2_with fail
      go_quiet (fail)
      go_wp2
      go_roundw
      case rel => exact ⟨k + 1, by omega, by go_num, _, rfl⟩
      case measure => simp [RowKit.intOf]; omega
    · have hk2 : k = l.length := by omega
      subst hk2
      go_wp2
      go_ret
      exact ⟨rfl, en_drewN (Below.refl _ _) _⟩

set_option maxHeartbeats 1000000 in
theorem sameEntry_any (r : ByteArray) (en pe : Int) (a1 a2 : Option Addr) (c1 c2 : Nat) (l : List Ln) (w : World) (hlen : l.length ≤ 1000) (h1 : IsLn w a1 l c1) (h2 : IsLn w a2 l c2) :
    Calls Try.prog 12 #[.agg #[.string r, .int .i64 en, .int .i64 pe, .slice a1 l.length c1], .agg #[.string r, .int .i64 en, .int .i64 pe, .slice a2 l.length c2]] w fun e w' => e = .returned (.bool true) ∧ Below w.heap.size w w' := by
  have b0 : Below w.heap.size w ((w.alloc (.cells #[.string r, .int .i64 en, .int .i64 pe, .slice a1 l.length c1] 32)).alloc (.cells #[.string r, .int .i64 en, .int .i64 pe, .slice a2 l.length c2] 32)) := ((Below.refl _ w).alloc (Nat.le_refl _) _).alloc (by simp) _
  have x1 := (Box4.new w r en pe (.slice a1 l.length c1)).alloc (.cells #[.string r, .int .i64 en, .int .i64 pe, .slice a2 l.length c2] 32)
  have x2 := Box4.new (w.alloc (.cells #[.string r, .int .i64 en, .int .i64 pe, .slice a1 l.length c1] 32)) r en pe (.slice a2 l.length c2)
  rw [World.size_alloc] at x2
  have hs0 : ((w.alloc (.cells #[.string r, .int .i64 en, .int .i64 pe, .slice a1 l.length c1] 32)).alloc (.cells #[.string r, .int .i64 en, .int .i64 pe, .slice a2 l.length c2] 32)).heap.size = w.heap.size + 2 := by simp
  have hL := sameLines_any a1 a2 c1 c2 l _ hlen (h1.below b0) (h2.below b0)
  have HL : Hid (Calls _ _ _ _ _) := hL
  clear hL h1 h2
  go_enter Try.func12, Try.ntmps12
  go_wp2_with fail
  refine HL.out.mono ?_
  rintro e w1 ⟨rfl, hb1⟩
  rw [hs0] at hb1
  have B1 := b0.trans (hb1.mono (by omega))
  have y1 := x1.below hb1 (by omega)
  have y2 := x2.below hb1 (by omega)
  have d0 := y1.c0
  have d1 := y1.c1
  have d2 := y1.c2
  have e0 := y2.c0
  have e1 := y2.c1
  have e2 := y2.c2
  clear HL hb1 x1 x2 y1 y2 b0 hs0
  go_wp2
  go_ret
  exact ⟨rfl, B1⟩
end Go.Proofs.Ytijjegkkeigeoaa

namespace Go.Proofs.Ytijjegkkeigeoaa
set_option linter.unusedVariables false
set_option linter.unusedSimpArgs false
set_option maxRecDepth 100000
open Go.RowKit Go.Lib

/-- Bytes that an entry stands at the beginning of. -/
theorem reads_some {x : En} {r : List UInt8} (a : Option Addr) (cap : Nat) (l : List UInt8) (w : World) (hl : l.length ≤ 9223372036854775807) (h : IsBy w a l cap) (hr : rdE l = some (x, r)) :
    Calls Try.prog 24 #[.slice a l.length cap] w fun e w' =>
      ∃ v, e = .returned (.tuple #[.agg #[.string x.ref, .int .i64 x.ent, .int .i64 x.per, v], .int .i64 (entB x).length, .nilIface]) ∧ LnRow w' w.heap.size v x.lns ∧ Below w.heap.size w w' := by
  have hE : entS (some l) = (x, some r) := by
    rcases @entS_of l with ⟨h1, _⟩ | ⟨s, r', h1, h2⟩
    · rw [hr] at h1; cases h1
    · rw [hr] at h1
      cases h1
      exact h2
  have hlen : (l.length : Int) - r.length = (entB x).length := by
    have := (rdE_back hr).1
    have h2 := congrArg List.length this
    rw [List.length_append] at h2
    omega
  have H := fReadEntry_any a cap l w hl h
  rw [hE, ] at H
  refine H.mono ?_
  rintro e w' ⟨⟨h1, _⟩ | ⟨r', v, h1, rfl, hrow⟩, hb⟩
  · cases h1
  · cases h1
    refine ⟨v, ?_, hrow, hb⟩
    rw [hlen]
/-- Bytes that no entry stands at the beginning of. -/
theorem reads_none (a : Option Addr) (cap : Nat) (l : List UInt8) (w : World) (hl : l.length ≤ 9223372036854775807) (h : IsBy w a l cap) (hr : rdE l = none) :
    Calls Try.prog 24 #[.slice a l.length cap] w fun e w' =>
      e = .returned (.tuple #[.agg #[.string ByteArray.empty, .int .i64 0, .int .i64 0, .slice none 0 0], .int .i64 0, .iface 44 (.int .i64 9)]) ∧ Below w.heap.size w w' := by
  have hE : (entS (some l)).2 = none := by
    rcases @entS_of l with ⟨_, h2⟩ | ⟨s, r', h1, h2⟩
    · exact h2
    · rw [hr] at h1; cases h1
  refine (fReadEntry_any a cap l w hl h).mono ?_
  rintro e w' ⟨⟨_, rfl⟩ | ⟨r', v, h1, _⟩, hb⟩
  · exact ⟨rfl, hb⟩
  · rw [hE] at h1; cases h1
theorem ebLen {e : En} (h : EnFit e) : (entB e).length ≤ 1634 := by
  have h0 := entW_fit h
  obtain ⟨h1, h2, h3, h4, h5⟩ := h
  rw [← h0]
  have i1 : ∀ x ∈ e.lns, I64 x.amt := fun x hx => by
    have := (h5 x hx).2.2
    unfold mostA at this
    exact ⟨by omega, by omega⟩
  have j1 := lnsW_length e.lns i1
  have j2 := txtW_length e.ref
  have j3 := @numB_length e.ent (by omega) (by omega)
  have j4 := @numB_length e.per (by omega) (by omega)
  have j5 := @numB_length e.lns.length (by omega) (by omega)
  simp only [headW, List.length_append]
  omega
end Go.Proofs.Ytijjegkkeigeoaa

namespace Go.Proofs.Ytijjegkkeigeoaa
set_option linter.unusedVariables false
set_option linter.unusedSimpArgs false
set_option maxRecDepth 100000
set_option maxHeartbeats 4000000
open Go.RowKit Go.Lib
def je0C : Array Value := #[.string ByteArray.empty, .int .i64 0, .int .i64 0, .slice none 0 0]
theorem kje_size : (Try.prog.info? 32).map (·.size) = some 4 := by kernel_rfl
theorem kje_zero : (Try.prog.info? 32).map (·.zero) = some (some (.agg je0C)) := by kernel_rfl
theorem kalloc_je (w : World) : (Instr.alloc 32 true (.tuple #[])).run Try.prog w = .ok (.pointer (some ⟨w.heap.size, 0, none⟩)) (w.alloc (.cells je0C 32)) := by
  cases hq : Try.prog.info? 32 with
  | none => have := kje_zero; simp [hq] at this
  | some q =>
    have hz : q.zero = some (.agg je0C) := by have := kje_zero; simpa [hq] using this
    simp [Instr.alloc, zeroValue, typeInfo, hq, hz, newVar, newRow, Value.cells]
theorem kstore_je {u : World} {B : Nat} {cs cs' : List Value} {t : TypeId} (hl : cs.length = 4) (hl' : cs'.length = 4) (h1 : ∀ v ∈ cs, v.oneCell' = true) (hb : u.heap[B]? = some (.cells cs'.toArray t (0, 0))) :
    (Instr.storeAt 32 (.pointer (some ⟨B, 0, none⟩)) (.agg cs.toArray)).run Try.prog u = .ok () (u.setRow B cs.toArray) := by
  have := run_storeCells_at Try.prog B 0 t cs 0 cs'.toArray u hb (by rw [hl, List.size_toArray, hl']; omega) h1
  rw [Nat.add_zero, hl, List.take_zero, List.nil_append, List.drop_eq_nil_of_le (by simp [hl']), List.append_nil] at this
  cases hq : Try.prog.info? 32 with
  | none => have := kje_size; simp [hq] at this
  | some q =>
    have hs : q.size = 4 := by have := kje_size; simpa [hq] using this
    simp [Instr.storeAt, Instr.sureAddr, storeVar, sizeOf, typeInfo, hq, Value.cells, hs, hl, this]
section
variable {w W U : World} {p nb sb : Nat} {cv : Value} {n : Nat} {D : Dk} {rs : List (List UInt8)} {L S : Nat}
/-- Nothing was formatted. -/
theorem kload_no (h : Tn w W p nb sb cv n D) (h1 : 1 ≤ n) (hn : n ≤ 200) (hf : fmB n D = false) :
    Calls Try.prog 8 #[.pointer (some ⟨p, 0, none⟩)] W fun e w' => e = .returned (.tuple #[.slice none 0 0, .iface 44 (.int .i64 9)]) ∧ Hid (Below W.heap.size W w') := by
  have HO : Hid (Calls _ _ _ W _) := kopen_no h h1 hn hf
  clear h hf
  go_enter Try.func8, Try.ntmps8
  go_wp2_with fail
  refine HO.out.mono ?_
  rintro e w1 ⟨rfl, hb⟩
  go_wp2
  go_ret2
  exact ⟨rfl, hb⟩
theorem kload_any (hT : Tn w W p nb sb cv n D) (hk : KpD n D rs L S) (hS : S < 65000) (es : List En) (hes : rs = es.map entB) (hfit : ∀ e ∈ es, EnFit e) :
    Calls Try.prog 8 #[.pointer (some ⟨p, 0, none⟩)] W fun e w' => ∃ (a : Option Addr) (c : Nat) (Ls : List Je), e = .returned (.tuple #[.slice a Ls.length c, .nilIface]) ∧ Hid (Made w' W.heap.size (.slice a Ls.length c) Ls ∧ Ls.map Je.en = es ∧ Below W.heap.size W w') := by
  have HO : Hid (Calls _ _ _ W _) := kopen_ok hT hk hS
  have hrl := enc_len_ge rs
  have hroom := hk.room
  have hn2 := hk.n2
  have hok := hk.ok
  have HAll : Hid (∀ (V : World) (lb : Nat) (tv wv : Value) (s : Ls) (wh : List Nat), KpW w V p nb sb cv n D lb tv wv s wh rs rs L (S + 1) → Calls Try.prog 23 #[.pointer (some ⟨lb, 0, none⟩)] V fun e w' => ∃ a' c', e = .returned (.slice a' rs.length c') ∧ Hid (RsRow w' V.heap.size (.slice a' rs.length c') rs) ∧ Hid (Below V.heap.size V w')) := fun V lb tv wv s wh h => all_any h.A hok (by omega) (by rw [h.nums.1]; omega)
  have hlen : rs.length = es.length := by rw [hes, List.length_map]
  have HEs : Hid (∀ k, k < rs.length → ∃ x, es[k]? = some x ∧ rs.getD k [] = entB x ∧ EnFit x) := fun k hk => by
    have hk2 : k < es.length := by omega
    refine ⟨es[k], List.getElem?_eq_getElem hk2, ?_, hfit _ (List.getElem_mem hk2)⟩
    rw [hes, List.getD_eq_getElem?_getD, List.getElem?_map, List.getElem?_eq_getElem hk2]
    rfl
  have HEl : Hid (rs.length = es.length) := hlen
  have hrs : (rs.length : Int) ≤ 12000 := by omega
  obtain ⟨qi, hq, hz0, hz1, hz2⟩ := kj_info
  have hal := kalloc_je
  clear hT hk hS hes hfit hrl hroom hn2 hok hlen
  go_enter Try.func8, Try.ntmps8
  go_wp2_with fail
  refine HO.out.mono ?_
  rintro e w1 ⟨lb, rfl, hh⟩
  obtain ⟨tv, wv, s, wh, k1, hb1, _⟩ := hh.out
  have HA1 : Hid (Calls _ _ _ w1 _) := HAll.out w1 lb tv wv s wh k1
  have HB1 : Hid (Below W.heap.size W w1) := hb1
  clear HO HAll hh k1 hb1
  go_wp2_with fail
  refine HA1.out.mono ?_
  rintro e w2 ⟨a1, c1, rfl, hr2, hb2⟩
  have HR2 : Hid (RsRow w2 W.heap.size (.slice a1 rs.length c1) rs ∧ Below W.heap.size W w2) := by
    refine ⟨?_, HB1.out.trans (hb2.out.mono HB1.out.size)⟩
    obtain ⟨vs, h1, h2, h3⟩ := hr2.out
    refine ⟨vs, h1, ?_, fun k hk => byRow_low (h3 k hk) HB1.out.size⟩
    rcases h2.2 with ⟨e1, e2⟩ | ⟨g, c, cur, e1, hg, r⟩
    · exact ⟨h2.1, .inl ⟨e1, e2⟩⟩
    · exact ⟨h2.1, .inr ⟨g, c, cur, e1, by have := HB1.out.size; omega, r⟩⟩
  clear HA1 HB1 hr2 hb2
  go_wp2_with fail
  go_loopw [6, 23] (fun v i wr => ∃ (k : Nat) (a : Option Addr) (c : Nat) (Lk : List Je), k ≤ rs.length ∧ i = .int .i64 (k : Int) ∧ v = .slice a Lk.length c ∧ Hid (Made wr w2.heap.size (.slice a Lk.length c) Lk ∧ Lk.map Je.en = es.take k ∧ Below w2.heap.size w2 wr)) (fun _ i _ => rs.length - (RowKit.intOf i).toNat)
  case atStart => exact ⟨0, none, 0, [], Nat.zero_le _, rfl, rfl, Made.nil _ _, by simp, Below.refl _ _⟩
  case round =>
    obtain ⟨k, va, vc, Lk, hk, rfl, rfl, H⟩ := hrel
    have k0 : (0 : Int) ≤ k := by omega
    by_cases hkl : k < rs.length
    · have klt : (k : Int) < (rs.length : Int) := by omega
      obtain ⟨g, cap, xa, xc, hv, hcell, hxb⟩ := (HR2.out.1.below H.out.2.2).cell k hkl
      simp only [Value.slice.injEq] at hv
      obtain ⟨rfl, _, rfl⟩ := hv
      obtain ⟨x, hx1, hx2, hx3⟩ := HEs.out k hkl
      rw [hx2] at hcell hxb
      have hbl := ebLen hx3
      have HRd : Hid (Calls _ _ _ wr _) := reads_some xa xc (entB x) wr (by omega) hxb (by have := rdE_enc [] hx3; rwa [List.append_nil] at this)
      have hLl : Lk.length ≤ 12000 := by
        have := congrArg List.length H.out.2.1
        rw [List.length_map, List.length_take] at this
        omega
      have HN : Hid (∀ (U : World) (a' : Option Addr) (c' : Nat) (y : Je), y.en = x → Made U w2.heap.size (.slice a' (Lk ++ [y]).length c') (Lk ++ [y]) → Below w2.heap.size w2 U → Made U w2.heap.size (.slice a' (Lk ++ [y]).length c') (Lk ++ [y]) ∧ (Lk ++ [y]).map Je.en = es.take (k + 1) ∧ Below w2.heap.size w2 U) := fun U a' c' y hy h1 h2 => by
        refine ⟨h1, ?_, h2⟩
        rw [List.map_append, H.out.2.1, List.map_cons, List.map_nil, hy, List.take_add_one, hx1]
        rfl
      have HM : Hid (Made wr w2.heap.size (.slice va Lk.length vc) Lk ∧ Below w2.heap.size w2 wr ∧ Lk.length ≤ 12000) := ⟨H.out.1, H.out.2.2, hLl⟩
      have hg1 : g < wr.heap.size := World.block_lt_of_cell? _ _ hcell
      have bm : ((entB x).length : Int) ≤ 1634 := by omega
      have b0 : (0 : Int) ≤ (entB x).length := by omega
      clear H hxb hx1 hx2 hx3 HEs hbl hLl
      obtain ⟨BL, hBL⟩ : ∃ BL, (entB x).length = BL := ⟨_, rfl⟩
      rw [hBL] at hcell HRd bm b0
      clear hBL
      go_wp2_with fail
      refine HRd.out.mono ?_
      rintro e w3 ⟨v3, rfl, hl3, hb3⟩
      obtain ⟨a3, c3, rfl, _⟩ := hl3.isLn
      have hst := kstore_je (cs := [.string x.ref, .int .i64 x.ent, .int .i64 x.per, .slice a3 x.lns.length c3]) (cs' := je0C.toList) rfl rfl (by intro u hu; simp at hu; rcases hu with rfl | rfl | rfl | rfl <;> rfl) (new_heap w3 (.cells je0C 32))
      obtain ⟨W4, hW4⟩ : ∃ W4, (w3.alloc (.cells je0C 32)).setRow w3.heap.size [.string x.ref, .int .i64 x.ent, .int .i64 x.per, .slice a3 x.lns.length c3].toArray = W4 := ⟨_, rfl⟩
      have hr4 : W4.heap[w3.heap.size]? = some (.cells [.string x.ref, .int .i64 x.ent, .int .i64 x.per, .slice a3 x.lns.length c3].toArray 32 (0, 0)) := by
        rw [← hW4]; exact setRow_heap _ _ _ _ _ _ (new_heap w3 (.cells je0C 32))
      have b4 : Below w3.heap.size w3 W4 := by rw [← hW4]; exact setRow_below ((Below.refl _ w3).alloc (Nat.le_refl _) _) (Nat.le_refl _)
      obtain ⟨W5, hW5⟩ : ∃ W5, W4.alloc (.cells #[.string x.ref, .int .i64 x.ent, .int .i64 x.per, .slice a3 x.lns.length c3] 32) = W5 := ⟨_, rfl⟩
      have b5 : Below W4.heap.size W4 W5 := by rw [← hW5]; exact (Below.refl _ _).alloc (Nat.le_refl _) _
      have hr5 : W5.heap[W4.heap.size]? = some (.cells #[.string x.ref, .int .i64 x.ent, .int .i64 x.per, .slice a3 x.lns.length c3] 32 (0, 0)) := by rw [← hW5]; exact new_heap W4 _
      have d0 : W4.cell? ⟨w3.heap.size, 0, none⟩ = some (.string x.ref) := by simp [World.cell?, hr4]
      have d1 : W4.cell? ⟨w3.heap.size, 1, none⟩ = some (.int .i64 x.ent) := by simp [World.cell?, hr4]
      have d2 : W4.cell? ⟨w3.heap.size, 2, none⟩ = some (.int .i64 x.per) := by simp [World.cell?, hr4]
      have d3 : W4.cell? ⟨w3.heap.size, 3, none⟩ = some (.slice a3 x.lns.length c3) := by simp [World.cell?, hr4]
      rw [hW4] at hst
      have B3 : Below w2.heap.size w2 w3 := HM.out.2.1.trans (hb3.mono HM.out.2.1.size)
      have B35 : Below w3.heap.size w3 W5 := b4.trans (b5.mono b4.size)
      have B5 : Below w2.heap.size w2 W5 := B3.trans (B35.mono B3.size)
      have M5 : Made W5 w2.heap.size (.slice va Lk.length vc) Lk := (HM.out.1.below hb3).below B35
      have hx5 : LnRow W5 w2.heap.size (.slice a3 x.lns.length c3) x.lns := (hl3.below B35).mono HM.out.2.1.size
      have HRw : Hid (W5.ownsRow w2.heap.size 32 4 (.slice va Lk.length vc) Lk.length (jeRow Lk)) := M5.row
      have HM5 : Hid (Made W5 w2.heap.size (.slice va Lk.length vc) Lk ∧ LnRow W5 w2.heap.size (.slice a3 x.lns.length c3) x.lns ∧ Below w2.heap.size w2 W5) := ⟨M5, hx5, B5⟩
      have Hsrc : Hid (∀ j u, (Je.mk x.ref x.ent x.per a3 c3 x.lns).cells.toList[j]? = some u → W5.cell? ((⟨W4.heap.size, 0, none⟩ : Addr).add j) = some u) := World.news_of_block hr5
      have Hs1 : Hid (∀ u ∈ (Je.mk x.ref x.ent x.per a3 c3 x.lns).cells.toList, u.oneCell' = true) := je_one _
      have Hm1 : Hid (Lk.length + 1 ≤ maxLen) := by have := HM.out.2.2; unfold Hid maxLen; omega
      have Hm2 : Hid ((Lk.length + 1) * 56 ≤ 140737488355328) := by have := HM.out.2.2; unfold Hid; omega
      have Hsz : Hid (w2.heap.size ≤ W5.heap.size) := B5.size
      have HW5 : Hid (_ = W5) := hW5
      clear HRd hl3 hb3 hr4 b4 b5 hr5 B3 B35 B5 M5 hx5 hW5 HM
      go_wp2_with (first | (refine wpList_alloc_run rfl 32 rfl (hal _) ?_) | (refine wpList_store_run rfl 32 _ _ rfl _ _ (by rfl) (by rfl) hst ?_) | (at_builtin; rw [HW5.out]; refine wpList_append_own _ rfl _ _ 34 rfl w2.heap.size 32 qi (.agg #[.string ByteArray.empty, .int .i64 0, .int .i64 0, .slice none 0 0]) 4 56 Try.underlying34 hq hz0 hz1 hz2 rfl (by decide) _ _ _ rfl HRw.out ⟨W4.heap.size, 0, none⟩ 1 1 (Je.mk x.ref x.ent x.per a3 c3 x.lns).cells.toList rfl rfl Hsrc.out Hs1.out Hm1.out Hm2.out Hsz.out ?_))
      intro v6 w6 hown hgrow _
      have M6 : Made w6 w2.heap.size v6 (Lk ++ [Je.mk x.ref x.ent x.per a3 c3 x.lns]) := Made.add HM5.out.1 HM5.out.2.1 hown hgrow
      have B6 : Below w2.heap.size w2 w6 := HM5.out.2.2.grown hgrow Hsz.out (fun j e => HM5.out.1.row.own j e)
      obtain ⟨v6a, v6c, rfl, _⟩ := M6.isJs
      have HF6 : Hid _ := HN.out w6 v6a v6c (Je.mk x.ref x.ent x.per a3 c3 x.lns) rfl M6 B6
      clear hown hgrow M6 B6 HM5 HRw Hsrc Hs1 Hm1 Hm2 Hsz HN HW5 hW4 hst d0 d1 d2 d3 hcell
      generalize (Lk ++ [Je.mk x.ref x.ent x.per a3 c3 x.lns]) = Lk2 at *
      go_wp2_with fail
      go_roundw
      case rel => exact ⟨k + 1, _, _, _, by omega, by go_num, rfl, HF6⟩
      case measure => simp [RowKit.intOf]; omega
    · have klt : ¬ (k : Int) < (rs.length : Int) := by omega
      have hke : es.take k = es := List.take_of_length_le (by rw [← HEl.out]; omega)
      obtain ⟨h1, h2, h3⟩ := H.out
      rw [hke] at h2
      have HE : Hid (Made wr W.heap.size (.slice va Lk.length vc) Lk ∧ Lk.map Je.en = es ∧ Below W.heap.size W wr) := by
        refine ⟨⟨?_, fun x hx => (h1.lns x hx).mono HR2.out.2.size⟩, h2, HR2.out.2.trans (h3.mono HR2.out.2.size)⟩
        have hrow := h1.row
        unfold JeRow at hrow ⊢
        rcases hrow.2 with ⟨e1, e2⟩ | ⟨g, c, cur, e1, hg, r⟩
        · exact ⟨hrow.1, .inl ⟨e1, e2⟩⟩
        · exact ⟨hrow.1, .inr ⟨g, c, cur, e1, Nat.le_trans HR2.out.2.size hg, r⟩⟩
      clear H h1 h2 h3 hke HEs HEl HR2
      go_wp2
      go_ret2
      exact ⟨_, _, _, rfl, HE⟩
end
end Go.Proofs.Ytijjegkkeigeoaa

namespace Go.Proofs.Ytijjegkkeigeoaa
set_option linter.unusedVariables false
set_option linter.unusedSimpArgs false
set_option maxRecDepth 100000
open Go.RowKit Go.Lib

theorem ep_at {L1 L2 : List Je} (h : L1.map Je.ep = L2.map Je.ep) {k : Nat} (hk : k < L1.length) : (L1.getD k je0).ep = (L2.getD k je0).ep := by
  have hl : L1.length = L2.length := by have := congrArg List.length h; simpa using this
  have := congrArg (fun l => l[k]?) h
  simp only [List.getElem?_map, List.getElem?_eq_getElem hk, List.getElem?_eq_getElem (by omega : k < L2.length), Option.map_some, Option.some.injEq] at this
  rw [List.getD_eq_getElem?_getD, List.getD_eq_getElem?_getD, List.getElem?_eq_getElem hk, List.getElem?_eq_getElem (by omega : k < L2.length)]
  exact this
end Go.Proofs.Ytijjegkkeigeoaa
