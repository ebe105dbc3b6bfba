/-
  The contract of dayref2.ReadBalances.
-/
import Derived.Test.YtheabcdncildiaaDoorFrD3
import Derived.Test.YtheabcdncildiaaDoorFrAh
import Derived.Test.YtheabcdncildiaaDoorFrB3
namespace Go.Proofs.YtheabcdncildiaaDoor
set_option linter.unusedVariables false
set_option linter.unusedSimpArgs false
set_option maxRecDepth 100000
open Go.RowKit Go.Lib

theorem balsS_none : ∀ k, (balsS k none).2 = none
  | 0 => rfl
  | k + 1 => by
    simp only [balsS, balsS_none k]
    split <;> rfl
theorem balsS_mono (st : St) : ∀ (m k : Nat), k ≤ m → (balsS k st).2 = none → (balsS m st).2 = none
  | 0, k, h, hn => by obtain rfl : k = 0 := by omega
                      exact hn
  | m + 1, k, h, hn => by
    by_cases hk : k = m + 1
    · subst hk; exact hn
    · have := balsS_mono st m k (by omega) hn
      simp only [balsS, this]
      split <;> rfl
/-- A balance in a box. -/
def QBox (W : World) (b : Nat) (x0 : Int) (x1 x2 : ByteArray) (x3 : Int) : Prop := W.heap[b]? = some (.cells #[.int .i64 x0, .string x1, .string x2, .int .i64 x3] 56 (0, 0))
theorem QBox.c0 {W : World} {b : Nat} {x0 : Int} {x1 x2 : ByteArray} {x3 : Int} (h : QBox W b x0 x1 x2 x3) : W.cell? ⟨b, 0, none⟩ = some (.int .i64 x0) := by unfold QBox at h; simp [World.cell?, h]
theorem QBox.c1 {W : World} {b : Nat} {x0 : Int} {x1 x2 : ByteArray} {x3 : Int} (h : QBox W b x0 x1 x2 x3) : W.cell? ⟨b, 1, none⟩ = some (.string x1) := by unfold QBox at h; simp [World.cell?, h]
theorem QBox.c2 {W : World} {b : Nat} {x0 : Int} {x1 x2 : ByteArray} {x3 : Int} (h : QBox W b x0 x1 x2 x3) : W.cell? ⟨b, 2, none⟩ = some (.string x2) := by unfold QBox at h; simp [World.cell?, h]
theorem QBox.c3 {W : World} {b : Nat} {x0 : Int} {x1 x2 : ByteArray} {x3 : Int} (h : QBox W b x0 x1 x2 x3) : W.cell? ⟨b, 3, none⟩ = some (.int .i64 x3) := by unfold QBox at h; simp [World.cell?, h]
theorem QBox.fz {W : World} {b : Nat} {x0 : Int} {x1 x2 : ByteArray} {x3 : Int} (h : QBox W b x0 x1 x2 x3) (o : Nat) : W.frozen? ⟨b, o, none⟩ = false := by unfold QBox at h; simp [World.frozen?, h]
theorem QBox.lt {W : World} {b : Nat} {x0 : Int} {x1 x2 : ByteArray} {x3 : Int} (h : QBox W b x0 x1 x2 x3) : b < W.heap.size := (Array.getElem?_eq_some_iff.1 h).1
theorem QBox.new (W : World) (x0 : Int) (x1 x2 : ByteArray) (x3 : Int) : QBox (W.alloc (.cells #[.int .i64 x0, .string x1, .string x2, .int .i64 x3] 56)) W.heap.size x0 x1 x2 x3 := new_heap W _
theorem QBox.keep {W W' : World} {b tb : Nat} {x0 : Int} {x1 x2 : ByteArray} {x3 : Int} (h : QBox W b x0 x1 x2 x3) (hk : KeepBut tb W W') (hn : b ≠ tb) : QBox W' b x0 x1 x2 x3 := (hk.block b h.lt hn).trans h
theorem QBox.below {W W' : World} {b n : Nat} {x0 : Int} {x1 x2 : ByteArray} {x3 : Int} (h : QBox W b x0 x1 x2 x3) (hb : Below n W W') (hn : b < n) : QBox W' b x0 x1 x2 x3 := (hb.block b hn).trans h
theorem QBox.set0 {W : World} {b : Nat} {x0 : Int} {x1 x2 : ByteArray} {x3 : Int} (h : QBox W b x0 x1 x2 x3) (y : Int) : QBox (W.setCell ⟨b, 0, none⟩ (.int .i64 y)) b y x1 x2 x3 := by
  unfold QBox at *
  rw [setCell_eq_setRow W b 0 _ 56 (0, 0) _ h, setRow_heap W b _ _ 56 (0, 0) h]
  rfl
theorem QBox.set1 {W : World} {b : Nat} {x0 : Int} {x1 x2 : ByteArray} {x3 : Int} (h : QBox W b x0 x1 x2 x3) (y : ByteArray) : QBox (W.setCell ⟨b, 1, none⟩ (.string y)) b x0 y x2 x3 := by
  unfold QBox at *
  rw [setCell_eq_setRow W b 1 _ 56 (0, 0) _ h, setRow_heap W b _ _ 56 (0, 0) h]
  rfl
theorem QBox.set2 {W : World} {b : Nat} {x0 : Int} {x1 x2 : ByteArray} {x3 : Int} (h : QBox W b x0 x1 x2 x3) (y : ByteArray) : QBox (W.setCell ⟨b, 2, none⟩ (.string y)) b x0 x1 y x3 := by
  unfold QBox at *
  rw [setCell_eq_setRow W b 2 _ 56 (0, 0) _ h, setRow_heap W b _ _ 56 (0, 0) h]
  rfl
theorem QBox.set3 {W : World} {b : Nat} {x0 : Int} {x1 x2 : ByteArray} {x3 : Int} (h : QBox W b x0 x1 x2 x3) (y : Int) : QBox (W.setCell ⟨b, 3, none⟩ (.int .i64 y)) b x0 x1 x2 y := by
  unfold QBox at *
  rw [setCell_eq_setRow W b 3 _ 56 (0, 0) _ h, setRow_heap W b _ _ 56 (0, 0) h]
  rfl
theorem DRd.any {W : World} {b : Nat} {a : Option Addr} {cap : Nat} {l : List UInt8} {st : St} (h : DRd W b a cap l st) : ∃ (p : Nat) (q : Bool), p ≤ l.length ∧ DBox W b (.slice a l.length cap) p q := by
  have := h.box
  cases st with
  | none => obtain ⟨p, hp, x⟩ := this; exact ⟨p, _, hp, x⟩
  | some r => obtain ⟨p, hp, _, x⟩ := this; exact ⟨p, _, hp, x⟩

/-- Where the reading of balances stands. -/
structure DbSt (w : World) (a : Option Addr) (cap : Nat) (l : List UInt8) (v : Value) (ls : List Bl) (W : World) (st : St) : Prop where
  rd : DRd W w.heap.size a cap l st
  row : BlRow W (w.heap.size + 1) v ls
  bel : Below w.heap.size w W
theorem DbSt.step {w : World} {a : Option Addr} {cap : Nat} {l : List UInt8} {v : Value} {ls : List Bl} {W W' : World} {st st' : St} (h : DbSt w a cap l v ls W st) (hk : KeepBut w.heap.size W W') (hr : DRd W' w.heap.size a cap l st') : DbSt w a cap l v ls W' st' :=
  ⟨hr, hk.brow h.row (by omega), h.bel.trans (hk.toBelow (by omega) h.bel.size)⟩
theorem DbSt.below {w : World} {a : Option Addr} {cap : Nat} {l : List UInt8} {v : Value} {ls : List Bl} {W W' : World} {st : St} (h : DbSt w a cap l v ls W st) (hb : Below W.heap.size W W') : DbSt w a cap l v ls W' st :=
  ⟨h.rd.below (hb.mono h.rd.lt), h.row.below hb, h.bel.trans (hb.mono h.bel.size)⟩
theorem DbSt.bad {w : World} {a : Option Addr} {cap : Nat} {l : List UInt8} {v : Value} {ls : List Bl} {W : World} {st : St} (h : DbSt w a cap l v ls W st) : DbSt w a cap l v ls (W.setCell ⟨w.heap.size, 2, none⟩ (.bool true)) none := by
  obtain ⟨p, q, hp, x⟩ := h.rd.any
  have k := (KeepBut.refl w.heap.size W).set 2 (.bool true)
  exact h.step k ⟨h.rd.bytes.keep k (Nat.le_of_lt h.rd.lt), p, hp, x.set2 true⟩
theorem dbDone {w : World} {a : Option Addr} {cap : Nat} {l : List UInt8} {v v' : Value} {ls : List Bl} {W W' : World} {st : St} {k : Nat} {x : Bl} (hfl : ls.length = k) (h : DbSt w a cap l v ls W st) (o : Obj) (hg : (W.alloc o).grownBy W' v.ownBlock)
    (hown : World.ownsRow W' (w.heap.size + 1) 56 4 v' (k + 1) (blRow ls ++ x.cells.toList)) : DbSt w a cap l v' (ls ++ [x]) W' st := by
  have hlt := h.rd.lt
  have B : Below (w.heap.size + 1) W W' := ((Below.refl _ W).alloc (by omega) o).grown hg (by simp; omega) (fun j e => h.row.own j e)
  refine ⟨h.rd.below B, ?_, h.bel.trans (B.mono (by omega))⟩
  unfold BlRow
  rw [blRow_append, blRow_one, List.length_append, hfl]
  exact hown
/-- The next state. -/
theorem next_eq {k : Nat} {st1 : St} {r : List UInt8} {ls : List Bl} {x : Bl} {q : Bool} (hfl : ls.length = k) (e : balsS k st1 = (ls, some r)) (hx : (blS (some r)).2 ≠ none → x = (blS (some r)).1) (hq : q = true ↔ k = 0 ∨ cmpB (ls.getD (k - 1) bl0) x < 0) :
    (balsS (k + 1) st1).2 = (if q = true then (blS (some r)).2 else none) ∧ ((balsS (k + 1) st1).2 ≠ none → ls ++ [x] = (balsS (k + 1) st1).1) := by
  have e1 : balsS (k + 1) st1 = (ls ++ [(blS (some r)).1], if ordAt (ls ++ [(blS (some r)).1]) k = 0 then (blS (some r)).2 else none) := by simp only [balsS, e]
  rw [e1]
  simp only
  by_cases hn : (blS (some r)).2 = none
  · rw [hn]
    refine ⟨by split <;> split <;> rfl, fun h => ?_⟩
    exact absurd (by split <;> rfl) h
  · have ex := hx hn
    have ho : ordAt (ls ++ [x]) k = 0 ↔ q = true := by
      rw [hq]
      unfold ordAt
      have g1 : (ls ++ [x]).getD k bl0 = x := by simp [List.getD, hfl]
      rw [g1]
      by_cases hk0 : k = 0
      · simp [hk0]
      · rw [getD_left ls [x] (k - 1) (by omega)]
        split <;> simp_all
    rw [← ex]
    refine ⟨?_, fun _ => rfl⟩
    by_cases hh : q = true
    · rw [if_pos (ho.2 hh), if_pos hh]
    · rw [if_neg (fun h => hh (ho.1 h)), if_neg hh]

set_option maxHeartbeats 4000000 in
theorem refReadBals_any (a : Option Addr) (cap : Nat) (l : List UInt8) (w : World) (hl : l.length ≤ 9223372036854775806) (h : IsBy w a l cap) :
    Calls Tryd.prog 8 #[.slice a l.length cap] w fun e w' =>
      (((balS (some l)).2 = none ∧ e = .returned (.tuple #[.slice none 0 0, .int .i64 0, .bool false])) ∨
       (∃ r v, (balS (some l)).2 = some r ∧ e = .returned (.tuple #[v, .int .i64 ((l.length : Int) - r.length), .bool true]) ∧ BlRow w' w.heap.size v (balS (some l)).1)) ∧ Below w.heap.size w w' := by
  obtain ⟨W1, hW1⟩ : ∃ W1, w.alloc (.cells #[.slice a l.length cap, .int .i64 0, .bool false] 43) = W1 := ⟨_, rfl⟩
  have R1 : DbSt w a cap l (.slice none 0 0) [] W1 (some l) := by
    rw [← hW1]
    have b1 : Below w.heap.size w (w.alloc (.cells #[.slice a l.length cap, .int .i64 0, .bool false] 43)) := (Below.refl _ w).alloc (Nat.le_refl _) _
    exact ⟨⟨h.isBN.of b1, 0, Nat.zero_le _, rfl, DBox.new w _ 0 false⟩, World.ownsRow_nil _ _ _ _, b1⟩
  obtain ⟨ee, hee⟩ : ∃ ee, balS (some l) = ee := ⟨_, rfl⟩
  have Hee : Hid (balS (some l) = ee) := hee
  rw [hee]
  unfold balS at Hee
  have HN : Hid (Calls _ _ _ _ _) := dnum_any _ a cap l _ 0 200 W1 hl (by omega) (by omega) (by omega) (by omega) R1.rd
  have HR1 : Hid (DbSt w a cap l (.slice none 0 0) [] W1 (some l)) := R1
  have HWW : Hid (_ = W1) := hW1
  have hl' : (l.length : Int) ≤ 9223372036854775806 := by omega
  have hrg := @rdNS_range 200 (some l) (by omega)
  generalize rdNS 0 200 (some l) = p1 at *
  obtain ⟨n4, st1⟩ := p1
  simp only at Hee HN hrg
  obtain ⟨n, hn⟩ : ∃ n : Nat, n4 = n := ⟨n4.toNat, by omega⟩
  subst hn
  simp only [Int.toNat_natCast] at Hee
  have hn200 : n ≤ 200 := by omega
  clear hW1 R1 h hee hrg
  obtain ⟨i0, hi, hz0, hz1, hz2⟩ := info_parts bl_info
  go_enter Tryd.func8, Tryd.ntmps8
  go_wp2_with fail
  rw [HWW.out]
  clear HWW
  refine HN.out.mono ?_
  rintro e w1 ⟨x, rfl, q1, hx, k1⟩
  have HT1 : Hid (DbSt w a cap l (.slice none 0 0) [] w1 st1) := HR1.out.step k1 q1
  have Hx : Hid (st1 ≠ none → x = (n : Int)) := hx
  clear HN HR1 q1 k1 hx
  go_wp2
  go_loopw [7, 8, 9] (fun v i _ wr => ∃ k : Nat, k ≤ 200 ∧ i = .int .i64 k ∧ ∃ ls, ls.length = k ∧ Hid (DbSt w a cap l v ls wr (balsS k st1).2) ∧ Hid ((balsS k st1).2 ≠ none → ls = (balsS k st1).1) ∧ Hid (st1 ≠ none → k ≤ n)) (fun _ i _ _ => 201 - (intOf i).toNat)
  case atStart => exact ⟨0, Nat.zero_le _, rfl, [], rfl, HT1, fun _ => rfl, fun _ => Nat.zero_le _⟩
  case round =>
    obtain ⟨k, hk, rfl, ls, hfl, R, HL, HKn⟩ := hrel
    have Hend : Hid ((balsS k st1).2 ≠ none → st1 ≠ none) := fun h e => h (by rw [e]; exact balsS_none k)
    have Hmono : Hid (k ≤ n → (balsS k st1).2 = none → (balsS n st1).2 = none) := balsS_mono st1 n k
    have Hall : Hid (k = n → balsS k st1 = balsS n st1) := fun e => by rw [e]
    obtain ⟨av, cv, ev, hbl⟩ := R.out.row.isBl
    rw [hfl] at ev
    subst ev
    have hpk : ∃ pk, balsS k st1 = pk := ⟨_, rfl⟩
    obtain ⟨⟨ls0, st⟩, hpk⟩ := hpk
    rw [hpk] at R HL Hend Hmono Hall
    simp only at R HL Hend Hmono Hall
    have Hpk : Hid (balsS k st1 = (ls0, st)) := hpk
    clear hpk
    cases st with
    | none =>
      have en0' : ee.2 = none := by
        rw [← Hee.out]
        show (balsS n st1).2 = none
        by_cases h4 : st1 = none
        · rw [h4]; exact balsS_none n
        · exact Hmono.out (HKn.out h4) rfl
      obtain ⟨e1, e2⟩ := ee
      simp only at en0'
      subst en0'
      obtain ⟨pp, hpp, X⟩ := R.out.rd.box
      have c2 := X.c2
      clear Hee Hpk Hend Hmono Hall HL HKn X Hx HT1 hbl
      by_cases hkx : (k : Int) < x
      · go_wp2
        go_ret3
        exact ⟨rfl, R.out.bel⟩
      · go_wp2
        go_ret3
        exact ⟨rfl, R.out.bel⟩
    | some r =>
      have h4 := Hend.out (by simp)
      have hxn := Hx.out h4
      subst hxn
      have hkn := HKn.out h4
      have hls : ls = ls0 := HL.out (by simp)
      subst hls
      have hr0 := R.out.rd.box
      obtain ⟨pp, hpp, hrp, X⟩ := hr0
      have c2 := X.c2
      by_cases hlt : k < n
      · have j1 : (k : Int) < n := by omega
        have L0 := QBox.new wr 0 ⟨#[]⟩ ⟨#[]⟩ 0
        have rd0 := R.out.rd.alloc (.cells #[.int .i64 0, .string ⟨#[]⟩, .string ⟨#[]⟩, .int .i64 0] 56)
        have k0 := (KeepBut.refl w.heap.size wr).alloc (.cells #[.int .i64 0, .string ⟨#[]⟩, .string ⟨#[]⟩, .int .i64 0] 56)
        have hlb : w.heap.size < wr.heap.size := R.out.rd.lt
        have HT : Hid (Calls _ _ _ _ _) := dnum_any _ a cap l _ 0 200 _ hl (by omega) (by omega) (by omega) (by omega) rd0
        have HL0 : Hid (QBox _ _ _ _ _ _) := L0
        have HK0 : Hid (KeepBut _ _ _) := k0
        obtain ⟨lb, hlbe⟩ : ∃ lb, wr.heap.size = lb := ⟨_, rfl⟩
        rw [hlbe] at HL0
        have Hbl : Hid (IsBl wr av ls cv) := hbl
        clear L0 rd0 k0 X Hall Hmono Hend HKn HL Hee Hx HT1 hbl
        go_wp2_with fail
        refine HT.out.mono ?_
        rintro e u1 ⟨x0, rfl, q1, hx0, k1⟩
        have HL1 : Hid (QBox u1 lb _ _ _ _) := HL0.out.keep k1 (by omega)
        have HK1 : Hid (KeepBut _ wr u1) := HK0.out.trans k1
        have d0 := HL1.out.c0
        have g0 := HL1.out.fz 0
        have L1 : QBox (u1.setCell ⟨lb, 0, none⟩ (.int .i64 x0)) lb x0 _ _ _ := HL1.out.set0 x0
        have kk1 : KeepBut w.heap.size wr (u1.setCell ⟨lb, 0, none⟩ (.int .i64 x0)) := HK1.out.setNew lb 0 _ (by omega)
        have rd1 : DRd (u1.setCell ⟨lb, 0, none⟩ (.int .i64 x0)) _ a cap l _ := q1.setNew (by omega)
        have HT1 : Hid (Calls _ _ _ _ _) := dtext_any _ a cap l _ _ hl rd1
        have HL1' : Hid (QBox _ lb _ _ _ _) := L1
        have HK1' : Hid (KeepBut _ wr _) := kk1
        have Hx0 : Hid _ := hx0
        clear HT HL0 HK0 q1 k1 HL1 HK1 L1 kk1 rd1 hx0
        go_wp2_with fail
        refine HT1.out.mono ?_
        rintro e u2 ⟨rfl, q2, k2⟩
        have HL2 : Hid (QBox u2 lb _ _ _ _) := HL1'.out.keep k2 (by omega)
        have HK2 : Hid (KeepBut _ wr u2) := HK1'.out.trans k2
        have d1 := HL2.out.c1
        have g1 := HL2.out.fz 1
        obtain ⟨x1, hs1⟩ : ∃ s1, (rdTS (rdNS 0 200 (some r)).2).1 = s1 := ⟨_, rfl⟩
        rw [hs1]
        have L2 : QBox (u2.setCell ⟨lb, 1, none⟩ (.string x1)) lb x0 x1 _ _ := HL2.out.set1 x1
        have kk2 : KeepBut w.heap.size wr (u2.setCell ⟨lb, 1, none⟩ (.string x1)) := HK2.out.setNew lb 1 _ (by omega)
        have rd2 : DRd (u2.setCell ⟨lb, 1, none⟩ (.string x1)) _ a cap l _ := q2.setNew (by omega)
        have HT2 : Hid (Calls _ _ _ _ _) := dtext_any _ a cap l _ _ hl rd2
        have HL2' : Hid (QBox _ lb _ _ _ _) := L2
        have HK2' : Hid (KeepBut _ wr _) := kk2
        clear HT1 HL1' HK1' q2 k2 HL2 HK2 L2 kk2 rd2 d0 g0
        go_wp2_with fail
        refine HT2.out.mono ?_
        rintro e u3 ⟨rfl, q3, k3⟩
        have HL3 : Hid (QBox u3 lb _ _ _ _) := HL2'.out.keep k3 (by omega)
        have HK3 : Hid (KeepBut _ wr u3) := HK2'.out.trans k3
        have d2 := HL3.out.c2
        have g2 := HL3.out.fz 2
        obtain ⟨x2, hs2⟩ : ∃ s2, (rdTS (rdTS (rdNS 0 200 (some r)).2).2).1 = s2 := ⟨_, rfl⟩
        rw [hs2]
        have L3 : QBox (u3.setCell ⟨lb, 2, none⟩ (.string x2)) lb x0 x1 x2 _ := HL3.out.set2 x2
        have kk3 : KeepBut w.heap.size wr (u3.setCell ⟨lb, 2, none⟩ (.string x2)) := HK3.out.setNew lb 2 _ (by omega)
        have rd3 : DRd (u3.setCell ⟨lb, 2, none⟩ (.string x2)) _ a cap l _ := q3.setNew (by omega)
        have HT3 : Hid (Calls _ _ _ _ _) := dnum_any _ a cap l _ (-1000000000000000) 1000000000000000 _ hl (by omega) (by omega) (by omega) (by omega) rd3
        have HL3' : Hid (QBox _ lb _ _ _ _) := L3
        have HK3' : Hid (KeepBut _ wr _) := kk3
        clear HT2 HL2' HK2' q3 k3 HL3 HK3 L3 kk3 rd3 d1 g1
        go_wp2_with fail
        refine HT3.out.mono ?_
        rintro e u4 ⟨x3, rfl, q4, hx3, k4⟩
        have HL4 : Hid (QBox u4 lb _ _ _ _) := HL3'.out.keep k4 (by omega)
        have HK4 : Hid (KeepBut _ wr u4) := HK3'.out.trans k4
        have d3 := HL4.out.c3
        have g3 := HL4.out.fz 3
        have L4 : QBox (u4.setCell ⟨lb, 3, none⟩ (.int .i64 x3)) lb x0 x1 x2 x3 := HL4.out.set3 x3
        have kk4 : KeepBut w.heap.size wr (u4.setCell ⟨lb, 3, none⟩ (.int .i64 x3)) := HK4.out.setNew lb 3 _ (by omega)
        have rd4 : DRd (u4.setCell ⟨lb, 3, none⟩ (.int .i64 x3)) _ a cap l _ := q4.setNew (by omega)
        obtain ⟨V, hV⟩ : ∃ V, u4.setCell ⟨lb, 3, none⟩ (.int .i64 x3) = V := ⟨_, rfl⟩
        rw [hV] at L4 kk4 rd4
        have HT6 : Hid (DbSt w a cap l (.slice av k cv) ls V (blS (some r)).2) := R.out.step kk4 rd4
        have Hxx : Hid ((blS (some r)).2 ≠ none → (⟨x0, x1, x2, x3⟩ : Bl) = (blS (some r)).1) := fun hh => by
          have e3 := hx3 hh
          have h0' : (rdNS 0 200 (some r)).2 ≠ none := fun e => hh (by
            show (rdNS _ _ (rdTS (rdTS (rdNS 0 200 (some r)).2).2).2).2 = none
            rw [e]; rfl)
          have e0 := Hx0.out h0'
          rw [← hs1, ← hs2, e0, e3]
          rfl
        have HLV : Hid (QBox V lb x0 x1 x2 x3) := L4
        have HV : Hid (_ = V) := hV
        have Hnx : Hid (∀ q : Bool, (q = true ↔ k = 0 ∨ cmpB (ls.getD (k - 1) bl0) ⟨x0, x1, x2, x3⟩ < 0) → (balsS (k + 1) st1).2 = (if q = true then (blS (some r)).2 else none) ∧ ((balsS (k + 1) st1).2 ≠ none → ls ++ [(⟨x0, x1, x2, x3⟩ : Bl)] = (balsS (k + 1) st1).1)) := fun q hq => next_eq hfl Hpk.out Hxx.out hq
        clear Hxx
        generalize (blS (some r)).2 = stN at *
        have m0 := L4.c0
        have m1 := L4.c1
        have m2 := L4.c2
        have m3 := L4.c3
        clear HT3 HL3' HK3' q4 k4 HL4 HK4 L4 kk4 rd4 hx3 Hx0 hs1 hs2 R d2 g2 hV
        have s2' : Hid (k + 1 ≤ maxLen) := by unfold Hid maxLen; omega
        have s3' : Hid ((k + 1) * 48 ≤ 140737488355328) := by unfold Hid; omega
        rcases k with _ | m
        · have Hn2 : Hid _ := Hnx.out true (by simp)
          simp only [if_true] at Hn2
          clear Hnx Hbl Hpk
          go_wp2_with fail
          rw [HV.out]
          go_quiet (fail)
          rename Nat => nq
          have HTU : Hid (DbSt w a cap l (.slice av 0 cv) ls (V.drewN nq) stN) := HT6.out.below (en_drewN (Below.refl _ _) nq)
          have HLU : Hid (QBox (V.drewN nq) lb x0 x1 x2 x3) := HLV.out.below (en_drewN (Below.refl V.heap.size V) nq) HLV.out.lt
          clear HT6 HLV HV m0 m1 m2 m3 d3 g3
          generalize V.drewN nq = U at *
          have m0 := HLU.out.c0
          have m1 := HLU.out.c1
          have m2 := HLU.out.c2
          have m3 := HLU.out.c3
          have hoj := HTU.out.row.own
          have hsz6 : w.heap.size + 1 ≤ U.heap.size := HTU.out.rd.lt
          have hown6 : World.ownsRow (U.alloc (.cells #[.int .i64 x0, .string x1, .string x2, .int .i64 x3] 56)) (w.heap.size + 1) 56 4 (.slice av (0) cv) (0) (blRow ls) := by
            have := World.ownsRow.alloc HTU.out.row (.cells #[.int .i64 x0, .string x1, .string x2, .int .i64 x3] 56)
            unfold BlRow at this
            rw [hfl] at this
            exact this
          have Hown6 : Hid (World.ownsRow _ _ _ _ _ _ _) := hown6
          have hszA : Hid (w.heap.size + 1 ≤ (U.alloc (.cells #[.int .i64 x0, .string x1, .string x2, .int .i64 x3] 56)).heap.size) := by
            unfold Hid
            rw [World.size_alloc]
            exact Nat.le_succ_of_le hsz6
          have hcl : Hid (∀ j u, ([.int .i64 x0, .string x1, .string x2, .int .i64 x3] : List Value)[j]? = some u → (U.alloc (.cells #[.int .i64 x0, .string x1, .string x2, .int .i64 x3] 56)).cell? ((⟨U.heap.size, 0, none⟩ : Addr).add j) = some u) := cells_bal _ x0 x1 x2 x3
          try rw [World.size_setCell] at hcl
          clear hown6
          go_wp2_with (at_builtin; refine wpList_append_own _ rfl _ _ 34 rfl (w.heap.size + 1) 56 i0 (.agg #[.int .i64 0, .string ByteArray.empty, .string ByteArray.empty, .int .i64 0]) 4 48 Tryd.underlying34 hi hz0 hz1 hz2 rfl (by decide) _ _ _ rfl Hown6.out ⟨U.heap.size, 0, none⟩ 1 1 [.int .i64 x0, .string x1, .string x2, .int .i64 x3] rfl rfl hcl.out (bal_one _ _ _ _) s2'.out s3'.out hszA.out ?_)
          intro v' u7 hown hgrow _
          have D7 := dbDone (x := ⟨x0, x1, x2, x3⟩) hfl HTU.out _ hgrow hown
          have hlen7 : (ls ++ [(⟨x0, x1, x2, x3⟩ : Bl)]).length = 0 + 1 := by rw [List.length_append, hfl]; rfl
          obtain ⟨a7, c7, ev7, _⟩ := D7.row.isBl
          rw [hlen7] at ev7
          subst ev7
          have HD : Hid (DbSt w a cap l (.slice a7 (0 + 1) c7) (ls ++ [⟨x0, x1, x2, x3⟩]) u7 (balsS (0 + 1) st1).2) := by
            unfold Hid
            rw [Hn2.out.1]
            exact D7
          have HL' : Hid ((balsS (0 + 1) st1).2 ≠ none → ls ++ [(⟨x0, x1, x2, x3⟩ : Bl)] = (balsS (0 + 1) st1).1) := Hn2.out.2
          clear hown hgrow HTU Hown6 HLU D7 Hn2 hoj m0 m1 m2 m3
          go_wp2
          go_roundw
          case rel => exact ⟨0 + 1, by omega, by go_num, _, hlen7, HD, HL', fun _ => hlt⟩
          case measure => first | (simp [intOf]; done) | (simp [intOf]; omega)
        · have hblV := (BlRow.isBl' HT6.out.row).2
          obtain ⟨gb, go, rfl, hgV, hgc⟩ : ∃ gb go, av = some ⟨gb, go, none⟩ ∧ gb < V.heap.size ∧ BlsAt V gb go ls := by
            rcases hblV.lies with h0 | h0
            · rw [h0] at hfl; simp at hfl
            · exact h0
          have hP := hgc m (by omega)
          have hAh := fun W => ahead_any (ls.getD m bl0) ⟨x0, x1, x2, x3⟩ W
          have hNX := fun q => Hnx.out q
          simp only [Nat.add_sub_cancel, Nat.succ_ne_zero, false_or] at hNX
          have HNX : Hid (∀ q : Bool, _) := hNX
          clear hNX Hnx
          generalize ls.getD m bl0 = p at *
          obtain ⟨p0, p1, p2, p3⟩ := p
          obtain ⟨f0, f1, f2, f3⟩ := hP
          simp only [Bl.cells] at f0 f1 f2 f3 hAh
          have hcV : lb < V.heap.size := HLV.out.lt
          have HK : Hid (∀ Y, Below V.drew.heap.size V.drew Y → (Y.cell? ⟨gb, go + m * 4, none⟩ = some (.int .i64 p0) ∧ Y.cell? ⟨gb, go + m * 4 + 1, none⟩ = some (.string p1) ∧ Y.cell? ⟨gb, go + m * 4 + 2, none⟩ = some (.string p2) ∧ Y.cell? ⟨gb, go + m * 4 + 3, none⟩ = some (.int .i64 p3)) ∧ Y.cell? ⟨lb, 0, none⟩ = some (.int .i64 x0) ∧ Y.cell? ⟨lb, 1, none⟩ = some (.string x1) ∧ Y.cell? ⟨lb, 2, none⟩ = some (.string x2) ∧ Y.cell? ⟨lb, 3, none⟩ = some (.int .i64 x3)) := fun Y hY =>
            ⟨⟨(hY.cell (p := ⟨gb, go + m * 4, none⟩) hgV).trans f0, (hY.cell (p := ⟨gb, go + m * 4 + 1, none⟩) hgV).trans f1, (hY.cell (p := ⟨gb, go + m * 4 + 2, none⟩) hgV).trans f2, (hY.cell (p := ⟨gb, go + m * 4 + 3, none⟩) hgV).trans f3⟩, (hY.cell (p := ⟨lb, 0, none⟩) hcV).trans m0, (hY.cell (p := ⟨lb, 1, none⟩) hcV).trans m1, (hY.cell (p := ⟨lb, 2, none⟩) hcV).trans m2, (hY.cell (p := ⟨lb, 3, none⟩) hcV).trans m3⟩
          have t0 : (0 : Int) ≤ m := by omega
          have t1 : (m : Int) < (m : Int) + 1 := by omega
          have t3 : (m : Int) ≤ 200 := by omega
          have t4 : (0 : Int) < (m : Int) + 1 := by omega
          have t6 : (m : Int) + 1 - 1 = m := by omega
          have tw1 : IntKind.i64.wrap (m : Int) = m := by
            simp only [IntKind.wrap, IntKind.bits, IntKind.signed]
            simp
            omega
          have tw2 : IntKind.i64.wrap ((m : Int) + 1 - 1) = m := by rw [t6, tw1]
          have HdV : Below V.heap.size V V.drew := (Below.refl _ V).drew
          have HTd : Hid (DbSt w a cap l (.slice (some ⟨gb, go, none⟩) (m + 1) cv) ls V.drew stN) := HT6.out.below HdV
          have HLd : Hid (QBox V.drew lb x0 x1 x2 x3) := HLV.out.below HdV hcV
          clear HT6 HLV HdV Hbl hblV hgc Hpk
          by_cases hc : cmpB ⟨p0, p1, p2, p3⟩ ⟨x0, x1, x2, x3⟩ < 0
          · have Hn2 : Hid _ := HNX.out true (by simp [hc])
            simp only [if_true] at Hn2
            rw [decide_eq_true hc] at hAh
            have HAh : Hid (∀ W, Calls _ _ _ W _) := hAh
            clear hAh hc HNX
            push_cast
            go_wp2_with fail
            rw [HV.out]
            clear HV d3 g3
            go_region_held3 (fun u => (u.cell? ⟨gb, go + m * 4, none⟩ = some (.int .i64 p0) ∧ u.cell? ⟨gb, go + m * 4 + 1, none⟩ = some (.string p1) ∧ u.cell? ⟨gb, go + m * 4 + 2, none⟩ = some (.string p2) ∧ u.cell? ⟨gb, go + m * 4 + 3, none⟩ = some (.int .i64 p3)) ∧ u.cell? ⟨lb, 0, none⟩ = some (.int .i64 x0) ∧ u.cell? ⟨lb, 1, none⟩ = some (.string x1) ∧ u.cell? ⟨lb, 2, none⟩ = some (.string x2) ∧ u.cell? ⟨lb, 3, none⟩ = some (.int .i64 x3)) (go_keep) (first | (go_at_call 19; refine (HAh.out _).mono ?_; rintro e u0 ⟨rfl, bu0⟩; obtain ⟨⟨s0, s1, s2, s3⟩, s4, s5, s6, s7⟩ := HK.out _ bu0))
            have HTU : Hid (DbSt w a cap l (.slice (some ⟨gb, go, none⟩) (m + 1) cv) ls u0 stN) := HTd.out.below bu0
            have HLU : Hid (QBox u0 lb x0 x1 x2 x3) := HLd.out.below bu0 hcV
            clear bu0 s0 s1 s2 s3 s4 s5 s6 s7 HAh HK HTd HLd m0 m1 m2 m3 f0 f1 f2 f3
            obtain ⟨U, hU⟩ : ∃ U, U = u0 := ⟨_, rfl⟩
            subst hU
            have m0 := HLU.out.c0
            have m1 := HLU.out.c1
            have m2 := HLU.out.c2
            have m3 := HLU.out.c3
            have hoj := HTU.out.row.own
            have hsz6 : w.heap.size + 1 ≤ U.heap.size := HTU.out.rd.lt
            have hown6 : World.ownsRow (U.alloc (.cells #[.int .i64 x0, .string x1, .string x2, .int .i64 x3] 56)) (w.heap.size + 1) 56 4 (.slice (some ⟨gb, go, none⟩) (m + 1) cv) (m + 1) (blRow ls) := by
              have := World.ownsRow.alloc HTU.out.row (.cells #[.int .i64 x0, .string x1, .string x2, .int .i64 x3] 56)
              unfold BlRow at this
              rw [hfl] at this
              exact this
            have Hown6 : Hid (World.ownsRow _ _ _ _ _ _ _) := hown6
            have hszA : Hid (w.heap.size + 1 ≤ (U.alloc (.cells #[.int .i64 x0, .string x1, .string x2, .int .i64 x3] 56)).heap.size) := by
              unfold Hid
              rw [World.size_alloc]
              exact Nat.le_succ_of_le hsz6
            have hcl : Hid (∀ j u, ([.int .i64 x0, .string x1, .string x2, .int .i64 x3] : List Value)[j]? = some u → (U.alloc (.cells #[.int .i64 x0, .string x1, .string x2, .int .i64 x3] 56)).cell? ((⟨U.heap.size, 0, none⟩ : Addr).add j) = some u) := cells_bal _ x0 x1 x2 x3
            try rw [World.size_setCell] at hcl
            clear hown6
            go_wp2_with (at_builtin; refine wpList_append_own _ rfl _ _ 34 rfl (w.heap.size + 1) 56 i0 (.agg #[.int .i64 0, .string ByteArray.empty, .string ByteArray.empty, .int .i64 0]) 4 48 Tryd.underlying34 hi hz0 hz1 hz2 rfl (by decide) _ _ _ rfl Hown6.out ⟨U.heap.size, 0, none⟩ 1 1 [.int .i64 x0, .string x1, .string x2, .int .i64 x3] rfl rfl hcl.out (bal_one _ _ _ _) s2'.out s3'.out hszA.out ?_)
            intro v' u7 hown hgrow _
            have D7 := dbDone (x := ⟨x0, x1, x2, x3⟩) hfl HTU.out _ hgrow hown
            have hlen7 : (ls ++ [(⟨x0, x1, x2, x3⟩ : Bl)]).length = m + 1 + 1 := by rw [List.length_append, hfl]; rfl
            obtain ⟨a7, c7, ev7, _⟩ := D7.row.isBl
            rw [hlen7] at ev7
            subst ev7
            have HD : Hid (DbSt w a cap l (.slice a7 (m + 1 + 1) c7) (ls ++ [⟨x0, x1, x2, x3⟩]) u7 (balsS (m + 1 + 1) st1).2) := by
              unfold Hid
              rw [Hn2.out.1]
              exact D7
            have HL' : Hid ((balsS (m + 1 + 1) st1).2 ≠ none → ls ++ [(⟨x0, x1, x2, x3⟩ : Bl)] = (balsS (m + 1 + 1) st1).1) := Hn2.out.2
            clear hown hgrow HTU Hown6 HLU D7 Hn2 hoj m0 m1 m2 m3
            go_wp2
            go_roundw
            case rel => exact ⟨m + 1 + 1, by omega, by go_num, _, hlen7, HD, HL', fun _ => hlt⟩
            case measure => first | (simp [intOf]; done) | (simp [intOf]; omega)
          · have Hn2 : Hid _ := HNX.out false (by simp [hc])
            simp only [Bool.false_eq_true, if_false] at Hn2
            rw [decide_eq_false hc] at hAh
            have HAh : Hid (∀ W, Calls _ _ _ W _) := hAh
            clear hAh hc HNX
            push_cast
            go_wp2_with fail
            rw [HV.out]
            clear HV d3 g3
            go_region_held3 (fun u => (u.cell? ⟨gb, go + m * 4, none⟩ = some (.int .i64 p0) ∧ u.cell? ⟨gb, go + m * 4 + 1, none⟩ = some (.string p1) ∧ u.cell? ⟨gb, go + m * 4 + 2, none⟩ = some (.string p2) ∧ u.cell? ⟨gb, go + m * 4 + 3, none⟩ = some (.int .i64 p3)) ∧ u.cell? ⟨lb, 0, none⟩ = some (.int .i64 x0) ∧ u.cell? ⟨lb, 1, none⟩ = some (.string x1) ∧ u.cell? ⟨lb, 2, none⟩ = some (.string x2) ∧ u.cell? ⟨lb, 3, none⟩ = some (.int .i64 x3)) (go_keep) (first | (go_at_call 19; refine (HAh.out _).mono ?_; rintro e u0 ⟨rfl, bu0⟩; obtain ⟨⟨s0, s1, s2, s3⟩, s4, s5, s6, s7⟩ := HK.out _ bu0))
            have HT0 : Hid (DbSt w a cap l (.slice (some ⟨gb, go, none⟩) (m + 1) cv) ls u0 stN) := HTd.out.below bu0
            obtain ⟨pb, qb, hpb, XB⟩ := HT0.out.rd.any
            have z2 := XB.c2
            have zf := XB.fz 2
            have HTU : Hid (DbSt w a cap l (.slice (some ⟨gb, go, none⟩) (m + 1) cv) ls (u0.setCell ⟨w.heap.size, 2, none⟩ (.bool true)) none) := HT0.out.bad
            have HLU : Hid (QBox (u0.setCell ⟨w.heap.size, 2, none⟩ (.bool true)) lb x0 x1 x2 x3) := (HLd.out.below bu0 hcV).keep ((KeepBut.refl w.heap.size u0).set 2 (.bool true)) (by omega)
            clear bu0 s0 s1 s2 s3 s4 s5 s6 s7 HAh HK HTd HLd m0 m1 m2 m3 f0 f1 f2 f3 HT0 XB
            have m0 := HLU.out.c0
            have m1 := HLU.out.c1
            have m2 := HLU.out.c2
            have m3 := HLU.out.c3
            have hoj := HTU.out.row.own
            have hsz6 : w.heap.size + 1 ≤ (u0.setCell ⟨w.heap.size, 2, none⟩ (.bool true)).heap.size := HTU.out.rd.lt
            have hown6 : World.ownsRow ((u0.setCell ⟨w.heap.size, 2, none⟩ (.bool true)).alloc (.cells #[.int .i64 x0, .string x1, .string x2, .int .i64 x3] 56)) (w.heap.size + 1) 56 4 (.slice (some ⟨gb, go, none⟩) (m + 1) cv) (m + 1) (blRow ls) := by
              have := World.ownsRow.alloc HTU.out.row (.cells #[.int .i64 x0, .string x1, .string x2, .int .i64 x3] 56)
              unfold BlRow at this
              rw [hfl] at this
              exact this
            have Hown6 : Hid (World.ownsRow _ _ _ _ _ _ _) := hown6
            have hszA : Hid (w.heap.size + 1 ≤ ((u0.setCell ⟨w.heap.size, 2, none⟩ (.bool true)).alloc (.cells #[.int .i64 x0, .string x1, .string x2, .int .i64 x3] 56)).heap.size) := by
              unfold Hid
              rw [World.size_alloc]
              exact Nat.le_succ_of_le hsz6
            have hcl : Hid (∀ j u, ([.int .i64 x0, .string x1, .string x2, .int .i64 x3] : List Value)[j]? = some u → ((u0.setCell ⟨w.heap.size, 2, none⟩ (.bool true)).alloc (.cells #[.int .i64 x0, .string x1, .string x2, .int .i64 x3] 56)).cell? ((⟨(u0.setCell ⟨w.heap.size, 2, none⟩ (.bool true)).heap.size, 0, none⟩ : Addr).add j) = some u) := cells_bal _ x0 x1 x2 x3
            try rw [World.size_setCell] at hcl
            clear hown6
            go_wp2_with (at_builtin; refine wpList_append_own _ rfl _ _ 34 rfl (w.heap.size + 1) 56 i0 (.agg #[.int .i64 0, .string ByteArray.empty, .string ByteArray.empty, .int .i64 0]) 4 48 Tryd.underlying34 hi hz0 hz1 hz2 rfl (by decide) _ _ _ rfl Hown6.out ⟨u0.heap.size, 0, none⟩ 1 1 [.int .i64 x0, .string x1, .string x2, .int .i64 x3] rfl rfl hcl.out (bal_one _ _ _ _) s2'.out s3'.out hszA.out ?_)
            intro v' u7 hown hgrow _
            have D7 := dbDone (x := ⟨x0, x1, x2, x3⟩) hfl HTU.out _ hgrow hown
            have hlen7 : (ls ++ [(⟨x0, x1, x2, x3⟩ : Bl)]).length = m + 1 + 1 := by rw [List.length_append, hfl]; rfl
            obtain ⟨a7, c7, ev7, _⟩ := D7.row.isBl
            rw [hlen7] at ev7
            subst ev7
            have HD : Hid (DbSt w a cap l (.slice a7 (m + 1 + 1) c7) (ls ++ [⟨x0, x1, x2, x3⟩]) u7 (balsS (m + 1 + 1) st1).2) := by
              unfold Hid
              rw [Hn2.out.1]
              exact D7
            have HL' : Hid ((balsS (m + 1 + 1) st1).2 ≠ none → ls ++ [(⟨x0, x1, x2, x3⟩ : Bl)] = (balsS (m + 1 + 1) st1).1) := Hn2.out.2
            clear hown hgrow HTU Hown6 HLU D7 Hn2 hoj m0 m1 m2 m3
            go_wp2
            go_roundw
            case rel => exact ⟨m + 1 + 1, by omega, by go_num, _, hlen7, HD, HL', fun _ => hlt⟩
            case measure => first | (simp [intOf]; done) | (simp [intOf]; omega)
      · have hk2 : k = n := by omega
        subst hk2
        have he1 := Hee.out
        rw [← Hall.out rfl] at he1
        subst he1
        have c1 := X.c1
        have HR := R
        have hpr : (pp : Int) = (l.length : Int) - r.length := by
          have : r.length = l.length - pp := by rw [hrp, List.length_drop]
          omega
        have Hpr : Hid ((pp : Int) = (l.length : Int) - r.length) := hpr
        have Hfl : Hid (ls.length = k) := hfl
        have j1 : ¬ (k : Int) < k := by omega
        clear hfl hpr Hall Hmono Hend HKn HL Hee Hx HT1 hrp X hbl Hpk
        go_wp2_with fail
        go_quiet (fail)
        go_wp2
        go_ret3
        rw [← Hpr.out]
        exact ⟨⟨_, rfl, BlRow.mono (n := w.heap.size + 1) (HR.out.row.below (en_drewN (Below.refl _ _) _)) (Nat.le_succ _)⟩, en_drewN HR.out.bel _⟩
end Go.Proofs.YtheabcdncildiaaDoor
