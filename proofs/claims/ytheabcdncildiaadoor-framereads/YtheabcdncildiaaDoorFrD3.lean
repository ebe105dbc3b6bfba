/-
  The contract of dayref2.ReadEntry.
-/
import Derived.Test.YtheabcdncildiaaDoorFrD2
namespace Go.Proofs.YtheabcdncildiaaDoor
set_option linter.unusedVariables false
set_option linter.unusedSimpArgs false
set_option maxRecDepth 100000
open Go.RowKit Go.Lib

theorem lnsS_mono (st : St) : ∀ (m k : Nat), k ≤ m → (lnsS k st).2 = none → (lnsS m st).2 = none
  | 0, k, h, hn => by obtain rfl : k = 0 := by omega
                      exact hn
  | m + 1, k, h, hn => by
    by_cases hk : k = m + 1
    · subst hk; exact hn
    · have := lnsS_mono st m k (by omega) hn
      simp only [lnsS, this]
      rfl
theorem KeepBut.setNew {tb : Nat} {V W : World} (h : KeepBut tb V W) (lb o : Nat) (v : Value) (hb : V.heap.size ≤ lb) : KeepBut tb V (W.setCell ⟨lb, o, none⟩ v) :=
  ⟨((Below.refl 0 W).setCell (p := ⟨lb, o, none⟩) (Nat.zero_le _) v).os.trans h.os, ((Below.refl 0 W).setCell (p := ⟨lb, o, none⟩) (Nat.zero_le _) v).tape.trans h.tape, ((Below.refl 0 W).setCell (p := ⟨lb, o, none⟩) (Nat.zero_le _) v).output.trans h.output, by have := h.size; simp; omega, fun b hb' hn => (Below.heap_setCell _ _ _ b (fun e => by simp only at e; omega)).trans (h.block b hb' hn)⟩
theorem Box4.set1 {W : World} {b : Nat} {r : ByteArray} {en pe : Int} {v : Value} (h : Box4 W b r en pe v) (n : Int) : Box4 (W.setCell ⟨b, 1, none⟩ (.int .i64 n)) b r n pe v := by
  unfold Box4 at *
  rw [setCell_eq_setRow W b 1 _ 25 (0, 0) _ h, setRow_heap W b _ _ 25 (0, 0) h]
  rfl
theorem Box4.set2 {W : World} {b : Nat} {r : ByteArray} {en pe : Int} {v : Value} (h : Box4 W b r en pe v) (n : Int) : Box4 (W.setCell ⟨b, 2, none⟩ (.int .i64 n)) b r en n v := by
  unfold Box4 at *
  rw [setCell_eq_setRow W b 2 _ 25 (0, 0) _ h, setRow_heap W b _ _ 25 (0, 0) h]
  rfl
theorem Box4.set3 {W : World} {b : Nat} {r : ByteArray} {en pe : Int} {v : Value} (h : Box4 W b r en pe v) (v' : Value) : Box4 (W.setCell ⟨b, 3, none⟩ v') b r en pe v' := by
  unfold Box4 at *
  rw [setCell_eq_setRow W b 3 _ 25 (0, 0) _ h, setRow_heap W b _ _ 25 (0, 0) h]
  rfl
theorem Box4.lt {W : World} {b : Nat} {r : ByteArray} {en pe : Int} {v : Value} (h : Box4 W b r en pe v) : b < W.heap.size := (Array.getElem?_eq_some_iff.1 h).1
/-- A line in a box. -/
def LBox (W : World) (b : Nat) (x0 x1 : ByteArray) (x2 : Int) : Prop := W.heap[b]? = some (.cells #[.string x0, .string x1, .int .i64 x2] 47 (0, 0))
theorem LBox.c0 {W : World} {b : Nat} {x0 x1 : ByteArray} {x2 : Int} (h : LBox W b x0 x1 x2) : W.cell? ⟨b, 0, none⟩ = some (.string x0) := by unfold LBox at h; simp [World.cell?, h]
theorem LBox.c1 {W : World} {b : Nat} {x0 x1 : ByteArray} {x2 : Int} (h : LBox W b x0 x1 x2) : W.cell? ⟨b, 1, none⟩ = some (.string x1) := by unfold LBox at h; simp [World.cell?, h]
theorem LBox.c2 {W : World} {b : Nat} {x0 x1 : ByteArray} {x2 : Int} (h : LBox W b x0 x1 x2) : W.cell? ⟨b, 2, none⟩ = some (.int .i64 x2) := by unfold LBox at h; simp [World.cell?, h]
theorem LBox.fz {W : World} {b : Nat} {x0 x1 : ByteArray} {x2 : Int} (h : LBox W b x0 x1 x2) (o : Nat) : W.frozen? ⟨b, o, none⟩ = false := by unfold LBox at h; simp [World.frozen?, h]
theorem LBox.lt {W : World} {b : Nat} {x0 x1 : ByteArray} {x2 : Int} (h : LBox W b x0 x1 x2) : b < W.heap.size := (Array.getElem?_eq_some_iff.1 h).1
theorem LBox.new (W : World) (x0 x1 : ByteArray) (x2 : Int) : LBox (W.alloc (.cells #[.string x0, .string x1, .int .i64 x2] 47)) W.heap.size x0 x1 x2 := new_heap W _
theorem LBox.keep {W W' : World} {b tb : Nat} {x0 x1 : ByteArray} {x2 : Int} (h : LBox W b x0 x1 x2) (hk : KeepBut tb W W') (hn : b ≠ tb) : LBox W' b x0 x1 x2 := (hk.block b h.lt hn).trans h
theorem LBox.set0 {W : World} {b : Nat} {x0 x1 : ByteArray} {x2 : Int} (h : LBox W b x0 x1 x2) (y : ByteArray) : LBox (W.setCell ⟨b, 0, none⟩ (.string y)) b y x1 x2 := by
  unfold LBox at *
  rw [setCell_eq_setRow W b 0 _ 47 (0, 0) _ h, setRow_heap W b _ _ 47 (0, 0) h]
  rfl
theorem LBox.set1 {W : World} {b : Nat} {x0 x1 : ByteArray} {x2 : Int} (h : LBox W b x0 x1 x2) (y : ByteArray) : LBox (W.setCell ⟨b, 1, none⟩ (.string y)) b x0 y x2 := by
  unfold LBox at *
  rw [setCell_eq_setRow W b 1 _ 47 (0, 0) _ h, setRow_heap W b _ _ 47 (0, 0) h]
  rfl
theorem LBox.set2 {W : World} {b : Nat} {x0 x1 : ByteArray} {x2 : Int} (h : LBox W b x0 x1 x2) (y : Int) : LBox (W.setCell ⟨b, 2, none⟩ (.int .i64 y)) b x0 x1 y := by
  unfold LBox at *
  rw [setCell_eq_setRow W b 2 _ 47 (0, 0) _ h, setRow_heap W b _ _ 47 (0, 0) h]
  rfl
theorem DRd.setNew {W : World} {b lb o : Nat} {v : Value} {a : Option Addr} {cap : Nat} {l : List UInt8} {st : St} (h : DRd W b a cap l st) (hb : b < lb) : DRd (W.setCell ⟨lb, o, none⟩ v) b a cap l st :=
  h.below ((Below.refl _ W).setCell (p := ⟨lb, o, none⟩) hb v)
theorem DRd.alloc {W : World} {b : Nat} {a : Option Addr} {cap : Nat} {l : List UInt8} {st : St} (h : DRd W b a cap l st) (o : Obj) : DRd (W.alloc o) b a cap l st :=
  h.below ((Below.refl _ W).alloc h.lt o)

/-- Where the reading of an entry stands. -/
structure DeSt (w : World) (a : Option Addr) (cap : Nat) (l : List UInt8) (s : ByteArray) (en pe : Int) (v : Value) (ls : List Ln) (W : World) (st : St) : Prop where
  rd : DRd W (w.heap.size + 1) a cap l st
  box : Box4 W (w.heap.size + 2) s en pe v
  row : LnRow W (w.heap.size + 3) v ls
  res : Box4 W w.heap.size ByteArray.empty 0 0 (.slice none 0 0)
  bel : Below w.heap.size w W
theorem DeSt.step {w : World} {a : Option Addr} {cap : Nat} {l : List UInt8} {s : ByteArray} {en pe : Int} {v : Value} {ls : List Ln} {W W' : World} {st st' : St} (h : DeSt w a cap l s en pe v ls W st) (hk : KeepBut (w.heap.size + 1) W W') (hr : DRd W' (w.heap.size + 1) a cap l st') : DeSt w a cap l s en pe v ls W' st' :=
  ⟨hr, hk.box h.box (by omega), hk.row h.row (by omega), hk.box h.res (by omega), h.bel.trans (hk.toBelow (by omega) h.bel.size)⟩
theorem DeSt.set {w : World} {a : Option Addr} {cap : Nat} {l : List UInt8} {s s' : ByteArray} {en pe en' pe' : Int} {v u : Value} {ls : List Ln} {W : World} {st : St} {o : Nat} (h : DeSt w a cap l s en pe v ls W st) (hb : Box4 (W.setCell ⟨w.heap.size + 2, o, none⟩ u) (w.heap.size + 2) s' en' pe' v) : DeSt w a cap l s' en' pe' v ls (W.setCell ⟨w.heap.size + 2, o, none⟩ u) st :=
  ⟨h.rd.setNew (by omega), hb, h.row.setOther (by omega), h.res.other (by omega), h.bel.setCell (p := ⟨w.heap.size + 2, o, none⟩) (by simp) u⟩
theorem DeSt.num {w : World} {a : Option Addr} {cap : Nat} {l : List UInt8} {s : ByteArray} {en pe : Int} {v : Value} {ls : List Ln} {W : World} {st : St} (h : DeSt w a cap l s en pe v ls W st) (lo hi : Int) (hl : l.length ≤ 9223372036854775806) (h1 : -1000000000000000 ≤ lo) (h1' : lo ≤ 0) (h2 : 0 ≤ hi) (h2' : hi ≤ 1000000000000000) :
    Calls Tryd.prog 12 #[.pointer (some ⟨w.heap.size + 1, 0, none⟩), .int .i64 lo, .int .i64 hi] W fun e w' =>
      ∃ x, e = .returned (.int .i64 x) ∧ DeSt w a cap l s en pe v ls w' (rdNS lo hi st).2 ∧ ((rdNS lo hi st).2 ≠ none → x = (rdNS lo hi st).1) := by
  refine (dnum_any _ a cap l st lo hi W hl h1 h1' h2 h2' h.rd).mono ?_
  rintro e w' ⟨x, rfl, q1, q2, q3⟩
  exact ⟨x, rfl, h.step q3 q1, q2⟩
theorem deDone {w : World} {a : Option Addr} {cap : Nat} {l : List UInt8} {s : ByteArray} {en pe : Int} {v v' : Value} {ls : List Ln} {W W' : World} {st : St} {k : Nat} {x : Ln} (hfl : ls.length = k) (h : DeSt w a cap l s en pe v ls W st) (o : Obj) (hg : (W.alloc o).grownBy W' v.ownBlock)
    (hown : World.ownsRow W' (w.heap.size + 3) 47 3 v' (k + 1) (lnRow ls ++ x.cells.toList)) : DeSt w a cap l s en pe v' (ls ++ [x]) (W'.setCell ⟨w.heap.size + 2, 3, none⟩ v') st := by
  have hlt := h.box.lt
  have hb : Box4 W' (w.heap.size + 2) s en pe v := (h.box.alloc o).grow hg (fun j e => by have := h.row.own j e; omega)
  have B : Below (w.heap.size + 2) W W' := ((Below.refl _ W).alloc (by omega) o).grown hg (by simp; omega) (fun j e => by have := h.row.own j e; omega)
  have B2 : Below (w.heap.size + 2) W (W'.setCell ⟨w.heap.size + 2, 3, none⟩ v') := B.setCell (p := ⟨w.heap.size + 2, 3, none⟩) (Nat.le_refl _) v'
  refine ⟨h.rd.below B2, hb.set3 v', LnRow.setOther ?_ (by omega), h.res.below B2 (by omega), h.bel.trans (B2.mono (by omega))⟩
  unfold LnRow
  rw [lnRow_append, lnRow_one, List.length_append, hfl]
  exact hown

set_option maxHeartbeats 4000000 in
theorem refReadEntry_any (a : Option Addr) (cap : Nat) (l : List UInt8) (w : World) (hl : l.length ≤ 9223372036854775806) (h : IsBy w a l cap) :
    Calls Tryd.prog 4 #[.slice a l.length cap] w fun e w' =>
      (((entS (some l)).2 = none ∧ e = .returned (.tuple #[.agg #[.string ByteArray.empty, .int .i64 0, .int .i64 0, .slice none 0 0], .int .i64 0, .bool false])) ∨
       (∃ r v, (entS (some l)).2 = some r ∧ e = .returned (.tuple #[.agg #[.string (entS (some l)).1.ref, .int .i64 (entS (some l)).1.ent, .int .i64 (entS (some l)).1.per, v], .int .i64 ((l.length : Int) - r.length), .bool true]) ∧ LnRow w' w.heap.size v (entS (some l)).1.lns)) ∧ Below w.heap.size w w' := by
  obtain ⟨W3, hW3⟩ : ∃ W3, ((w.alloc (.cells #[.string ByteArray.empty, .int .i64 0, .int .i64 0, .slice none 0 0] 25)).alloc (.cells #[.slice a l.length cap, .int .i64 0, .bool false] 43)).alloc (.cells #[.string ByteArray.empty, .int .i64 0, .int .i64 0, .slice none 0 0] 25) = W3 := ⟨_, rfl⟩
  have R3 : DeSt w a cap l ByteArray.empty 0 0 (.slice none 0 0) [] W3 (some l) := by
    rw [← hW3]
    have b1 : Below w.heap.size w (w.alloc (.cells #[.string ByteArray.empty, .int .i64 0, .int .i64 0, .slice none 0 0] 25)) := (Below.refl _ w).alloc (Nat.le_refl _) _
    have r0 := Box4.new w ByteArray.empty 0 0 (.slice none 0 0)
    have hs1 : (w.alloc (.cells #[.string ByteArray.empty, .int .i64 0, .int .i64 0, .slice none 0 0] 25)).heap.size = w.heap.size + 1 := by simp
    generalize w.alloc (.cells #[.string ByteArray.empty, .int .i64 0, .int .i64 0, .slice none 0 0] 25) = V1 at *
    have b2 : Below V1.heap.size V1 (V1.alloc (.cells #[.slice a l.length cap, .int .i64 0, .bool false] 43)) := (Below.refl _ V1).alloc (Nat.le_refl _) _
    have d0 := DBox.new V1 (.slice a l.length cap) 0 false
    have hs2 : (V1.alloc (.cells #[.slice a l.length cap, .int .i64 0, .bool false] 43)).heap.size = w.heap.size + 2 := by simp; omega
    have hby : IsBN (V1.alloc (.cells #[.slice a l.length cap, .int .i64 0, .bool false] 43)) (w.heap.size + 1) a l cap := by
      have q := h.isBN
      refine ⟨q.cap, ?_⟩
      rcases q.lies with q | ⟨b, off, e, hlt, hc⟩
      · exact .inl q
      · exact .inr ⟨b, off, e, by omega, fun k hk => ((b1.trans (b2.mono (by omega))).cell (p := ⟨b, off + k, none⟩) hlt).trans (hc k hk)⟩
    have hrd : DRd (V1.alloc (.cells #[.slice a l.length cap, .int .i64 0, .bool false] 43)) (w.heap.size + 1) a cap l (some l) := by
      refine ⟨hby, 0, Nat.zero_le _, rfl, ?_⟩
      rw [← hs1]
      exact d0
    have r1 := r0.below b2 (by omega)
    have b12 := b1.trans (b2.mono (by omega))
    generalize V1.alloc (.cells #[.slice a l.length cap, .int .i64 0, .bool false] 43) = V2 at *
    have b3 : Below V2.heap.size V2 (V2.alloc (.cells #[.string ByteArray.empty, .int .i64 0, .int .i64 0, .slice none 0 0] 25)) := (Below.refl _ V2).alloc (Nat.le_refl _) _
    have r3 := Box4.new V2 ByteArray.empty 0 0 (.slice none 0 0)
    refine ⟨hrd.alloc _, ?_, LnRow.nil _ _, r1.below b3 (by omega), b12.trans (b3.mono (by omega))⟩
    rw [hs2] at r3
    exact r3
  obtain ⟨ee, hee⟩ : ∃ ee, entS (some l) = ee := ⟨_, rfl⟩
  have Hee : Hid (entS (some l) = ee) := hee
  rw [hee]
  unfold entS at Hee
  have HT : Hid (Calls _ _ _ _ _) := dtext_any _ a cap l _ W3 hl R3.rd
  have HR3 : Hid (DeSt w a cap l ByteArray.empty 0 0 (.slice none 0 0) [] W3 (some l)) := R3
  generalize rdTS (some l) = p1 at *
  obtain ⟨s, st1⟩ := p1
  simp only at Hee HT
  have hl' : (l.length : Int) ≤ 9223372036854775806 := by omega
  have HWW : Hid (((w.alloc (.cells #[.string ⟨#[]⟩, .int .i64 0, .int .i64 0, .slice none 0 0] 25)).alloc (.cells #[.slice a l.length cap, .int .i64 0, .bool false] 43)).alloc (.cells #[.string ⟨#[]⟩, .int .i64 0, .int .i64 0, .slice none 0 0] 25) = W3) := by
    unfold Hid
    rw [← hW3]
    rfl
  clear hW3 R3 h hee
  go_enter Tryd.func4, Tryd.ntmps4
  go_wp2_with fail
  rw [HWW.out]
  clear HWW
  refine HT.out.mono ?_
  rintro e w1 ⟨rfl, q1, k1⟩
  have T1 := HR3.out.step k1 q1
  have c0 := T1.box.c0
  have f0 := T1.box.fz 0
  have T1' := T1.set (T1.box.set0 s)
  have HN1 : Hid (Calls _ _ _ _ _) := T1'.num 0 200 hl (by omega) (by omega) (by omega) (by omega)
  clear HT HR3 q1 k1 T1 T1'
  go_wp2_with fail
  refine HN1.out.mono ?_
  rintro e w2 ⟨en, rfl, T2, hen⟩
  have c1 := T2.box.c1
  have f1 := T2.box.fz 1
  have T2' := T2.set (T2.box.set1 en)
  have HN2 : Hid (Calls _ _ _ _ _) := T2'.num 0 200 hl (by omega) (by omega) (by omega) (by omega)
  clear HN1 T2 T2' c0 f0
  have Hen : Hid ((rdNS 0 200 st1).2 ≠ none → en = (rdNS 0 200 st1).1) := hen
  clear hen
  generalize rdNS 0 200 st1 = p2 at *
  obtain ⟨en0, st2⟩ := p2
  simp only at Hee HN2 Hen
  go_wp2_with fail
  refine HN2.out.mono ?_
  rintro e w3 ⟨pe, rfl, T3, hpe⟩
  have c2 := T3.box.c2
  have f2 := T3.box.fz 2
  have T3' := T3.set (T3.box.set2 pe)
  have HN3 : Hid (Calls _ _ _ _ _) := T3'.num 0 20 hl (by omega) (by omega) (by omega) (by omega)
  clear HN2 T3 T3' c1 f1
  have Hpe : Hid ((rdNS 0 200 st2).2 ≠ none → pe = (rdNS 0 200 st2).1) := hpe
  have hz2 : Hid ((rdNS 0 200 st2).2 ≠ none → st2 ≠ none) := fun h e => h (by rw [e]; rfl)
  clear hpe
  generalize rdNS 0 200 st2 = p3 at *
  obtain ⟨pe0, st3⟩ := p3
  simp only at Hee HN3 Hpe hz2
  go_wp2_with fail
  refine HN3.out.mono ?_
  rintro e w4 ⟨x, rfl, T4, hx⟩
  have Hx : Hid ((rdNS 0 20 st3).2 ≠ none → x = (rdNS 0 20 st3).1) := hx
  have hz3 : Hid ((rdNS 0 20 st3).2 ≠ none → st3 ≠ none) := fun h e => h (by rw [e]; rfl)
  have hrg := @rdNS_range 20 st3 (by omega)
  clear hx HN3 c2 f2
  generalize rdNS 0 20 st3 = p4 at *
  obtain ⟨n4, st4⟩ := p4
  simp only at Hee T4 Hx hz3 hrg
  obtain ⟨n, hn⟩ : ∃ n : Nat, n4 = n := ⟨n4.toNat, by omega⟩
  subst hn
  simp only [Int.toNat_natCast] at Hee
  have hn20 : n ≤ 20 := by omega
  have HT4 : Hid (DeSt w a cap l s en pe (.slice none 0 0) [] w4 st4) := T4
  clear T4 hrg
  obtain ⟨i0, hi, hz0, hz1, hz2'⟩ := info_parts ln_info
  go_wp2
  go_loopw [8, 9] (fun i _ wr => ∃ k : Nat, k ≤ 20 ∧ i = .int .i64 k ∧ ∃ v ls, ls.length = k ∧ Hid (DeSt w a cap l s en pe v ls wr (lnsS k st4).2) ∧ Hid ((lnsS k st4).2 ≠ none → ls = (lnsS k st4).1) ∧ Hid (st4 ≠ none → k ≤ n)) (fun i _ _ => 21 - (intOf i).toNat)
  case atStart => exact ⟨0, Nat.zero_le _, rfl, _, [], rfl, HT4, fun _ => rfl, fun _ => Nat.zero_le _⟩
  case round =>
    obtain ⟨k, hk, rfl, v, ls, hfl, R, HL, HKn⟩ := hrel
    have hnx : lnsS (k + 1) st4 = ((lnsS k st4).1 ++ [(lnS (lnsS k st4).2).1], (lnS (lnsS k st4).2).2) := rfl
    have hend : (lnsS k st4).2 ≠ none → st4 ≠ none := fun h e => h (by rw [e]; exact lnsS_none k)
    have hmono := lnsS_mono st4 n k
    have hall : Hid (st4 ≠ none → k = n → lnsS k st4 = lnsS n st4) := fun _ e => by rw [e]
    have Hnx : Hid (lnsS (k + 1) st4 = _) := hnx
    have Hend : Hid ((lnsS k st4).2 ≠ none → st4 ≠ none) := hend
    have Hmono : Hid (k ≤ n → (lnsS k st4).2 = none → (lnsS n st4).2 = none) := hmono
    clear hnx hend hmono
    generalize lnsS k st4 = pk at *
    obtain ⟨ls0, st⟩ := pk
    simp only at R HL Hnx Hend Hmono hall
    cases st with
    | none =>
      have en0' : ee.2 = none := by
        rw [← Hee.out]
        show (lnsS n st4).2 = none
        by_cases h4 : st4 = none
        · rw [h4]; exact lnsS_none n
        · exact Hmono.out (HKn.out h4) rfl
      obtain ⟨e1, e2⟩ := ee
      simp only at en0'
      subst en0'
      obtain ⟨pp, hpp, X⟩ := R.out.rd.box
      have c2 := X.c2
      have g0 := R.out.res.c0
      have g1 := R.out.res.c1
      have g2 := R.out.res.c2
      have g3 := R.out.res.c3
      have f0 := R.out.res.fz 0
      have f1 := R.out.res.fz 1
      have f2 := R.out.res.fz 2
      have f3 := R.out.res.fz 3
      clear Hee Hnx Hend Hmono hall HL HKn X Hx hz3 hz2 Hpe Hen HT4
      by_cases hkx : (k : Int) < x
      · go_wp2
        exact bodyPost_ret (v := .tuple #[.agg #[.string ByteArray.empty, .int .i64 0, .int .i64 0, .slice none 0 0], .int .i64 0, .bool false]) (by simp [results, Tryd.results4, go_sem, g0, g1, g2, g3]; rfl) rfl ⟨rfl, ((((R.out.bel.setCell (p := ⟨w.heap.size, 0, none⟩) (by simp) _).setCell (p := ⟨w.heap.size, 1, none⟩) (by simp) _).setCell (p := ⟨w.heap.size, 2, none⟩) (by simp) _).setCell (p := ⟨w.heap.size, 3, none⟩) (by simp) _)⟩
      · go_wp2
        exact bodyPost_ret (v := .tuple #[.agg #[.string ByteArray.empty, .int .i64 0, .int .i64 0, .slice none 0 0], .int .i64 0, .bool false]) (by simp [results, Tryd.results4, go_sem, g0, g1, g2, g3]; rfl) rfl ⟨rfl, ((((R.out.bel.setCell (p := ⟨w.heap.size, 0, none⟩) (by simp) _).setCell (p := ⟨w.heap.size, 1, none⟩) (by simp) _).setCell (p := ⟨w.heap.size, 2, none⟩) (by simp) _).setCell (p := ⟨w.heap.size, 3, none⟩) (by simp) _)⟩
    | some r =>
      have h4 := Hend.out (by simp)
      have hxn := Hx.out h4
      subst hxn
      have hkn := HKn.out h4
      have hls : ls = ls0 := HL.out (by simp)
      subst hls
      have hr0 := R.out.rd.box
      obtain ⟨pp, hpp, hrp, X⟩ := hr0
      have c2 := X.c2
      by_cases hlt : k < n
      · have j1 : (k : Int) < n := by omega
        have L0 := LBox.new wr ⟨#[]⟩ ⟨#[]⟩ 0
        have rd0 := R.out.rd.alloc (.cells #[.string ⟨#[]⟩, .string ⟨#[]⟩, .int .i64 0] 47)
        have k0 := (KeepBut.refl (w.heap.size + 1) wr).alloc (.cells #[.string ⟨#[]⟩, .string ⟨#[]⟩, .int .i64 0] 47)
        have hlb : w.heap.size + 2 < wr.heap.size := R.out.box.lt
        have HT : Hid (Calls _ _ _ _ _) := dtext_any _ a cap l _ _ hl rd0
        have HL0 : Hid (LBox _ _ _ _ _) := L0
        have HK0 : Hid (KeepBut _ _ _) := k0
        obtain ⟨lb, hlbe⟩ : ∃ lb, wr.heap.size = lb := ⟨_, rfl⟩
        rw [hlbe] at HL0
        clear L0 rd0 k0 X hall Hmono Hend HKn HL Hee Hx hz3 hz2 Hpe Hen HT4
        go_wp2_with fail
        refine HT.out.mono ?_
        rintro e u1 ⟨rfl, q1, k1⟩
        have HL1 : Hid (LBox u1 lb _ _ _) := HL0.out.keep k1 (by omega)
        have HK1 : Hid (KeepBut _ wr u1) := HK0.out.trans k1
        have d0 := HL1.out.c0
        have g0 := HL1.out.fz 0
        obtain ⟨s0, hs0⟩ : ∃ s0, (rdTS (some r)).1 = s0 := ⟨_, rfl⟩
        rw [hs0]
        have L1 : LBox (u1.setCell ⟨lb, 0, none⟩ (.string s0)) lb s0 _ _ := HL1.out.set0 s0
        have kk1 : KeepBut (w.heap.size + 1) wr (u1.setCell ⟨lb, 0, none⟩ (.string s0)) := HK1.out.setNew lb 0 _ (by omega)
        have rd1 : DRd (u1.setCell ⟨lb, 0, none⟩ (.string s0)) _ a cap l _ := q1.setNew (by omega)
        have HT1 : Hid (Calls _ _ _ _ _) := dtext_any _ a cap l _ _ hl rd1
        have HL1' : Hid (LBox _ lb _ _ _) := L1
        have HK1' : Hid (KeepBut _ wr _) := kk1
        clear HT HL0 HK0 q1 k1 HL1 HK1 L1 kk1 rd1
        go_wp2_with fail
        refine HT1.out.mono ?_
        rintro e u2 ⟨rfl, q2, k2⟩
        have HL2 : Hid (LBox u2 lb _ _ _) := HL1'.out.keep k2 (by omega)
        have HK2 : Hid (KeepBut _ wr u2) := HK1'.out.trans k2
        have d1 := HL2.out.c1
        have g1 := HL2.out.fz 1
        obtain ⟨s1, hs1⟩ : ∃ s1, (rdTS (rdTS (some r)).2).1 = s1 := ⟨_, rfl⟩
        rw [hs1]
        have L2 : LBox (u2.setCell ⟨lb, 1, none⟩ (.string s1)) lb s0 s1 _ := HL2.out.set1 s1
        have kk2 : KeepBut (w.heap.size + 1) wr (u2.setCell ⟨lb, 1, none⟩ (.string s1)) := HK2.out.setNew lb 1 _ (by omega)
        have rd2 : DRd (u2.setCell ⟨lb, 1, none⟩ (.string s1)) _ a cap l _ := q2.setNew (by omega)
        have HT2 : Hid (Calls _ _ _ _ _) := dnum_any _ a cap l _ (-1000000000000000) 1000000000000000 _ hl (by omega) (by omega) (by omega) (by omega) rd2
        have HL2' : Hid (LBox _ lb _ _ _) := L2
        have HK2' : Hid (KeepBut _ wr _) := kk2
        clear HT1 HL1' HK1' q2 k2 HL2 HK2 L2 kk2 rd2 d0 g0
        go_wp2_with fail
        refine HT2.out.mono ?_
        rintro e u3 ⟨y, rfl, q3, hy, k3⟩
        have HL3 : Hid (LBox u3 lb _ _ _) := HL2'.out.keep k3 (by omega)
        have HK3 : Hid (KeepBut _ wr u3) := HK2'.out.trans k3
        have d2 := HL3.out.c2
        have g2 := HL3.out.fz 2
        have L3 : LBox (u3.setCell ⟨lb, 2, none⟩ (.int .i64 y)) lb s0 s1 y := HL3.out.set2 y
        have kk3 : KeepBut (w.heap.size + 1) wr (u3.setCell ⟨lb, 2, none⟩ (.int .i64 y)) := HK3.out.setNew lb 2 _ (by omega)
        have rd3 : DRd (u3.setCell ⟨lb, 2, none⟩ (.int .i64 y)) _ a cap l _ := q3.setNew (by omega)
        have T6 := R.out.step kk3 rd3
        have m0 := L3.c0
        have m1 := L3.c1
        have m2 := L3.c2
        obtain ⟨av, cv, ev, _⟩ := R.out.row.isLn
        rw [hfl] at ev
        subst ev
        have e3 := T6.box.c3
        have Hy : Hid _ := hy
        have HT6 : Hid (DeSt _ _ _ _ _ _ _ _ _ _ _) := T6
        clear HT2 HL2' HK2' q3 k3 HL3 HK3 L3 kk3 rd3 d1 g1 T6 hy
        have s2 : Hid (k + 1 ≤ maxLen) := by unfold Hid maxLen; omega
        have s3 : Hid ((k + 1) * 40 ≤ 140737488355328) := by unfold Hid; omega
        have hsz6 : w.heap.size + 3 ≤ (u3.setCell ⟨lb, 2, none⟩ (.int .i64 y)).heap.size := HT6.out.box.lt
        have hoj := R.out.row.own
        have hown6 : World.ownsRow ((u3.setCell ⟨lb, 2, none⟩ (.int .i64 y)).alloc (.cells #[.string s0, .string s1, .int .i64 y] 47)) (w.heap.size + 3) 47 3 (.slice av k cv) k (lnRow ls) := by
          have := World.ownsRow.alloc HT6.out.row (.cells #[.string s0, .string s1, .int .i64 y] 47)
          unfold LnRow at this
          rw [hfl] at this
          exact this
        have Hown6 : Hid (World.ownsRow _ _ _ _ _ _ _) := hown6
        have hcl : Hid (∀ j u, ([.string s0, .string s1, .int .i64 y] : List Value)[j]? = some u → ((u3.setCell ⟨lb, 2, none⟩ (.int .i64 y)).alloc (.cells #[.string s0, .string s1, .int .i64 y] 47)).cell? ((⟨(u3.setCell ⟨lb, 2, none⟩ (.int .i64 y)).heap.size, 0, none⟩ : Addr).add j) = some u) := cells_line _ s0 s1 y
        rw [World.size_setCell] at hcl
        clear hown6 R
        go_wp2_with (at_builtin; refine wpList_append_own _ rfl _ _ 23 rfl (w.heap.size + 3) 47 i0 (.agg #[.string ByteArray.empty, .string ByteArray.empty, .int .i64 0]) 3 40 Tryd.underlying23 hi hz0 hz1 hz2' rfl (by decide) _ _ _ rfl Hown6.out ⟨u3.heap.size, 0, none⟩ 1 1 [.string s0, .string s1, .int .i64 y] rfl rfl hcl.out (line_one _ _ _) s2.out s3.out (by simp; simp at hsz6; omega) ?_)
        intro v' u7 hown hgrow _
        have D7 := deDone (x := ⟨s0, s1, y⟩) hfl HT6.out _ hgrow hown
        have hlen7 : (ls ++ [(⟨s0, s1, y⟩ : Ln)]).length = k + 1 := by rw [List.length_append, hfl]; rfl
        obtain ⟨a7, c7, ev7, _⟩ := D7.row.isLn
        rw [hlen7] at ev7
        subst ev7
        have bx := (HT6.out.box.alloc (.cells #[.string s0, .string s1, .int .i64 y] 47)).grow hgrow (fun j e => by have := hoj j e; omega)
        have cx := bx.c3
        have fx := bx.fz 3
        have HD : Hid (DeSt w a cap l s en pe (.slice a7 (k + 1) c7) (ls ++ [⟨s0, s1, y⟩]) (u7.setCell ⟨w.heap.size + 2, 3, none⟩ (.slice a7 (k + 1) c7)) (lnsS (k + 1) st4).2) := by
          unfold Hid
          rw [Hnx.out]
          exact D7
        have HL' : Hid ((lnsS (k + 1) st4).2 ≠ none → ls ++ [(⟨s0, s1, y⟩ : Ln)] = (lnsS (k + 1) st4).1) := by
          unfold Hid
          rw [Hnx.out]
          intro hh
          have := Hy.out hh
          rw [← hs0, ← hs1, this]
          rfl
        clear hown hgrow HT6 Hown6 hcl D7 Hnx Hy bx hoj e3 d2 g2 m0 m1 m2
        go_wp2
        go_roundw
        case rel => exact ⟨k + 1, by omega, by go_num, _, _, hlen7, HD, HL', fun _ => hlt⟩
        case measure => simp [intOf]; omega
      · have hk2 : k = n := by omega
        subst hk2
        have he1 := Hee.out
        rw [← hall.out h4 rfl] at he1
        have h3 := hz3.out h4
        have h2 := hz2.out h3
        have e1' := Hen.out h2
        have e2' := Hpe.out h3
        subst e1' e2'
        simp only at he1
        subst he1
        obtain ⟨av, cv, ev, _⟩ := R.out.row.isLn
        subst ev
        have hR := R.out
        have g0 := hR.res.c0
        have g1 := hR.res.c1
        have g2 := hR.res.c2
        have g3 := hR.res.c3
        have f0 := hR.res.fz 0
        have f1 := hR.res.fz 1
        have f2 := hR.res.fz 2
        have f3 := hR.res.fz 3
        have c1 := X.c1
        have e0 := hR.box.c0
        have e1 := hR.box.c1
        have e2 := hR.box.c2
        have e3 := hR.box.c3
        have hne1 : w.heap.size + 2 ≠ w.heap.size := by omega
        have hne2 : w.heap.size + 1 ≠ w.heap.size := by omega
        have KX := (((((KeepBut.refl w.heap.size wr).set 0 (.string s)).set 1 (.int .i64 en)).set 2 (.int .i64 pe)).set 3 (.slice av ls.length cv)).drew
        have hbl : w.heap.size + 2 < wr.heap.size := hR.box.lt
        have hrl2 := X.lt
        have HRS : Hid _ := And.intro (And.intro ((KX.cell (p := ⟨w.heap.size + 2, 0, none⟩) hbl hne1).trans e0) (And.intro ((KX.cell (p := ⟨w.heap.size + 2, 1, none⟩) hbl hne1).trans e1) (And.intro ((KX.cell (p := ⟨w.heap.size + 2, 2, none⟩) hbl hne1).trans e2) ((KX.cell (p := ⟨w.heap.size + 2, 3, none⟩) hbl hne1).trans e3)))) ((KX.cell (p := ⟨w.heap.size + 1, 1, none⟩) hrl2 hne2).trans c1)
        have HKB : Hid (Below w.heap.size w ((((wr.setCell ⟨w.heap.size, 0, none⟩ (.string s)).setCell ⟨w.heap.size, 1, none⟩ (.int .i64 en)).setCell ⟨w.heap.size, 2, none⟩ (.int .i64 pe)).setCell ⟨w.heap.size, 3, none⟩ (.slice av ls.length cv)).drew) := hR.bel.trans (KX.toBelow (Nat.le_refl _) hR.bel.size)
        have HRow : Hid (LnRow ((((wr.setCell ⟨w.heap.size, 0, none⟩ (.string s)).setCell ⟨w.heap.size, 1, none⟩ (.int .i64 en)).setCell ⟨w.heap.size, 2, none⟩ (.int .i64 pe)).setCell ⟨w.heap.size, 3, none⟩ (.slice av ls.length cv)).drew w.heap.size (.slice av ls.length cv) ls) := (KX.row hR.row (by omega)).mono (by omega)
        have hpr : (pp : Int) = (l.length : Int) - r.length := by
          have : r.length = l.length - pp := by rw [hrp, List.length_drop]
          omega
        have Hpr : Hid ((pp : Int) = (l.length : Int) - r.length) := hpr
        have j1 : ¬ (k : Int) < k := by omega
        clear hfl hR X R KX hpr hall Hmono Hend HKn HL Hee Hx hz3 hz2 Hpe Hen HT4 Hnx hrp
        go_wp2_with fail
        go_region_held3 (fun u => (u.cell? ⟨w.heap.size + 2, 0, none⟩ = some (.string s) ∧ u.cell? ⟨w.heap.size + 2, 1, none⟩ = some (.int .i64 en) ∧ u.cell? ⟨w.heap.size + 2, 2, none⟩ = some (.int .i64 pe) ∧ u.cell? ⟨w.heap.size + 2, 3, none⟩ = some (.slice av ls.length cv)) ∧ u.cell? ⟨w.heap.size + 1, 1, none⟩ = some (.int .i64 (pp : Int))) (first | exact HRS.out | go_keep) (fail)
        go_wp2
        refine bodyPost_ret (v := .tuple #[.agg #[.string s, .int .i64 en, .int .i64 pe, .slice av ls.length cv], .int .i64 (pp : Int), .bool true]) (by simp [results, Tryd.results4, go_sem, g0, g1, g2, g3]) rfl ?_
        rw [Hpr.out]
        exact ⟨⟨_, rfl, HRow.out⟩, HKB.out⟩
end Go.Proofs.YtheabcdncildiaaDoor
