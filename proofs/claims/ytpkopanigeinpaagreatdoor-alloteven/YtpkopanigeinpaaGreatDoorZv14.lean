/-
  Stepping down, numbers alone.
-/
import Derived.Test.YtpkopanigeinpaaGreatDoorZv13
import Derived.Test.YtpkopanigeinpaaGreatDoorZv10
import Derived.Deep.RegionLaw
import Derived.Test.YtpkopanigeinpaaGreatDoorProg
import Derived.WalkKit
import Derived.WalkSpells
import Derived.Lib.ItoaNum
import Derived.Test.YtpkopanigeinpaaGreatDoorZv11
import Derived.Laws.NewBlocks
import Derived.Test.YtpkopanigeinpaaGreatDoorZv7
import Derived.Test.YtpkopanigeinpaaGreatDoorZv5
namespace Go.Proofs.YtpkopanigeinpaaGreatDoor
set_option linter.unusedVariables false
set_option linter.unusedSimpArgs false
set_option maxRecDepth 100000
open Go.RowKit Go.Lib

/-- A line of nothing to give. -/
def isNo (x : Ln) : Bool := decide (x.amt = 0)
/-- The line of one to whom is given. -/
def toLn (p : Po) (has : Int) (i : Nat) : Ln := ⟨p.tos.getD i ByteArray.empty, p.cur, shareI has p.ws i⟩
/-- All lines by which a pool gives out what it has. -/
def allL (p : Po) (has : Int) : List Ln := (⟨p.acc, p.cur, -has⟩ : Ln) :: (List.range p.tos.length).map (toLn p has)
def goL (p : Po) (has : Int) : List Ln := (allL p has).filter fun x => !isNo x
theorem allL_len (p : Po) (has : Int) : (allL p has).length = p.tos.length + 1 := by simp [allL]
theorem range_snoc {α : Type} (f : Nat → α) (k : Nat) : (List.range (k + 1)).map f = (List.range k).map f ++ [f k] := by
  rw [List.range_succ, List.map_append]; rfl

theorem given1_tells : LTells 31 isNo := by
  refine ⟨fun args W => enters Tryz.func31 (by kernel_rfl) ⟨_, rfl⟩ args W, fun x W => ?_⟩
  obtain ⟨x0, x1, x2⟩ := x
  have b0 : Below W.heap.size W (W.alloc (.cells #[.string x0, .string x1, .int .i64 x2] 42)) := (Below.refl _ W).alloc (Nat.le_refl _) _
  simp only [Ln.cells]
  by_cases h : x2 = 0
  · have e1 : isNo ⟨x0, x1, x2⟩ = true := by simp [isNo, h]
    rw [e1]
    subst h
    go_enter Tryz.func31, Tryz.ntmps31
    go_wp2
    go_ret
    exact ⟨rfl, b0⟩
  · have e1 : isNo ⟨x0, x1, x2⟩ = false := by simp [isNo, h]
    have h' : (x2 == 0) = false := by rw [beq_eq_false_iff_ne]; exact h
    rw [e1]
    go_enter Tryz.func31, Tryz.ntmps31
    go_wp2
    go_ret
    exact ⟨rfl, b0⟩

theorem given_bad (p : Po) (has : Int) (w : World) (h : ¬ (-1000000000000000 ≤ has ∧ has ≤ 1000000000000000)) :
    Calls Tryz.prog 15 #[.agg p.cells, .int .i64 has] w fun e w' => e = .returned (.tuple #[.slice none 0 0, chE 1]) ∧ Below w.heap.size w w' := by
  have b0 : Below w.heap.size w (w.alloc (.cells p.cells 29)) := (Below.refl _ w).alloc (Nat.le_refl _) _
  have HI : Hid (∀ W, Calls Tryz.prog 28 #[.int .i64 has] W fun e w' => e = .returned (.bool false) ∧ w' = W) := fun W => by
    have := alWithin_any has W
    rw [decide_eq_false h] at this
    exact this
  rw [chE_ne (by decide)]
  obtain ⟨acc, cur, tA, tC, tos, wA, wC, ws⟩ := p
  simp only [Po.cells] at b0 ⊢
  clear h
  go_enter Tryz.func15, Tryz.ntmps15
  go_wp2_with (go_at_call 28; refine (HI.out _).mono ?_; rintro e w' ⟨rfl, rfl⟩)
  go_ret2
  exact ⟨rfl, b0⟩

theorem lnRow_new (w : World) (n0 : Nat) (x : Ln) (hn : n0 ≤ w.heap.size) : LnRow (w.alloc (.cells x.cells 42)) n0 (.slice (some ⟨w.heap.size, 0, none⟩) 1 1) [x] := by
  refine ⟨rfl, .inr ⟨w.heap.size, 1, x.cells, rfl, hn, by unfold World.alloc; simp only [Array.getElem?_push_size], Nat.le_refl _, by unfold maxLen; omega, rfl, ?_⟩⟩
  simp [lnRow, Ln.cells]

set_option maxHeartbeats 8000000 in
theorem given_ok (p : Po) (has : Int) (w : World) (hp : PoOk w p) (he : p.ws.length = p.tos.length) (h19 : p.tos.length ≤ 19) (hs : shBad p.ws = 0) (h : -1000000000000000 ≤ has ∧ has ≤ 1000000000000000) :
    Calls Tryz.prog 15 #[.agg p.cells, .int .i64 has] w fun e w' => ∃ v, e = .returned (.tuple #[v, .nilIface]) ∧ LnRow w' w.heap.size v (goL p has) ∧ Below w.heap.size w w' := by
  obtain ⟨B, hB⟩ : ∃ B, w.heap.size = B := ⟨_, rfl⟩
  obtain ⟨w0, hw0⟩ : ∃ w0, w.alloc (.cells p.cells 29) = w0 := ⟨_, rfl⟩
  have B0 : Below w.heap.size w w0 := by rw [← hw0]; exact (Below.refl _ w).alloc (Nat.le_refl _) _
  have hs0 : B < w0.heap.size := by rw [← hw0, ← hB]; simp
  have HA : Hid (∀ W, Below w0.heap.size w0 W → PoAt W B 0 p ∧ PoOk W p ∧ Below w.heap.size w W) := fun W hW => by
    exact ⟨(by rw [← hw0, ← hB]; exact PoAt.new w p _ : PoAt w0 B 0 p).below hW hs0, (hp.below B0).below hW, B0.trans (hW.mono (by omega))⟩
  have HI : Hid (∀ W, Calls Tryz.prog 28 #[.int .i64 has] W fun e w' => e = .returned (.bool true) ∧ w' = W) := fun W => by
    have := alWithin_any has W
    rw [decide_eq_true h] at this
    exact this
  have HS : Hid (Calls Tryz.prog 29 #[.int .i64 has, .slice p.wA p.ws.length p.wC] w0 fun e w' => ∃ g, e = .returned (.tuple #[.slice (some ⟨g, 0, none⟩) p.tos.length p.tos.length, .nilIface]) ∧ NRow w' g ((List.range p.tos.length).map (shareI has p.ws)) ∧ Below w0.heap.size w0 w') := by
    refine (shares_any has p.wA p.ws p.wC w0 (hp.below B0).iw hp.lw (by unfold Math.I64; omega)).mono ?_
    rintro e w' ⟨hb, _, h2⟩
    obtain ⟨g, hg, rfl, hr⟩ := h2 hs
    rw [he] at hr ⊢
    exact ⟨g, rfl, hr, hb⟩
  have HD : Hid (∀ n1 v W, n1 ≤ W.heap.size → LnRow W n1 v (allL p has) → Calls Tryz.prog 30 #[v, .func (.func 31) #[] #[]] W fun e w' => ∃ v', e = .returned v' ∧ LnRow w' n1 v' (goL p has) ∧ Below n1 W w') := fun n1 v W hW hr =>
    delete_own 31 isNo n1 v (allL p has) W given1_tells (by rw [allL_len]; omega) hW hr
  have HEnd : Hid (∀ w1 v W, LnRow W w1.heap.size v (goL p has) → Below w0.heap.size w0 w1 → Below w1.heap.size w1 W → LnRow W w.heap.size v (goL p has) ∧ Below w.heap.size w W) := fun w1 v W h1 h2 h3 => by
    have := h2.size
    exact ⟨h1.mono (by omega), (B0.trans (h2.mono (by omega))).trans (h3.mono (by omega))⟩
  have iw : IntKind.i64.wrap (-has) = -has := by
    simp only [IntKind.wrap, IntKind.bits, IntKind.signed]
    simp
    omega
  have HW0 : Hid (w.alloc (.cells p.cells 29) = w0) := hw0
  have hcap : p.tos.length ≤ p.tC := hp.tx.cap
  have HSt : Hid (∀ k, (⟨p.acc, p.cur, -has⟩ : Ln) :: (List.range (k + 1)).map (toLn p has) = ((⟨p.acc, p.cur, -has⟩ : Ln) :: (List.range k).map (toLn p has)) ++ [⟨p.tos.getD k ByteArray.empty, p.cur, shareI has p.ws k⟩]) := fun k => by
    rw [range_snoc]; rfl
  have HAll : Hid (allL p has = (⟨p.acc, p.cur, -has⟩ : Ln) :: (List.range p.tos.length).map (toLn p has)) := rfl
  obtain ⟨all, hall⟩ : ∃ all, allL p has = all := ⟨_, rfl⟩
  obtain ⟨out, hout⟩ : ∃ out, goL p has = out := ⟨_, rfl⟩
  obtain ⟨tl, htl⟩ : ∃ tl, toLn p has = tl := ⟨_, rfl⟩
  rw [hall] at HAll
  rw [hall, hout] at HD
  rw [hout] at HEnd ⊢
  rw [htl] at HAll HSt
  clear hw0 hp hs B0 hall hout htl
  obtain ⟨i0, hi, hz0, hz1, hz2⟩ := info_parts ln_info
  obtain ⟨acc, cur, tA, tC, tos, wA, wC, ws⟩ := p
  simp only [Po.cells] at HW0 HA HS HD HEnd hcap HSt HAll h19 he ⊢
  obtain ⟨n, hn⟩ : ∃ n, tos.length = n := ⟨_, rfl⟩
  have Hn : Hid (tos.length = n) := hn
  rw [he] at HS HW0 ⊢
  have Hwn : Hid (ws.length = n) := he.trans hn
  rw [hn] at HS HW0 HAll h19 hcap ⊢
  clear he hn
  obtain ⟨⟨d0, d1, d2, d3⟩, _, _⟩ := HA.out w0 (Below.refl _ _)
  simp only [Nat.zero_add] at d0 d1 d2 d3
  rw [Hn.out] at d2
  rw [Hwn.out] at d3
  go_enter Tryz.func15, Tryz.ntmps15
  go_upto_region 1 with fail
  rw [HW0.out]
  clear HW0
  go_wp2_with fail
  refine (HI.out _).mono ?_
  rintro e w' ⟨rfl, hw⟩
  rw [hw]; clear hw w' HI
  go_wp2_with fail
  refine HS.out.mono ?_
  rintro e w1 ⟨g, rfl, hr, hb1⟩
  have HR : Hid (NRow w1 g ((List.range n).map (shareI has ws))) := hr
  have HB1 : Hid (Below w0.heap.size w0 w1) := hb1
  have hgl : g < w1.heap.size := by
    unfold NRow at hr
    exact (Array.getElem?_eq_some_iff.1 hr).1
  clear HS hr hb1 d0 d1 d2 d3
  obtain ⟨⟨d0, d1, d2, d3⟩, _, _⟩ := HA.out w1 HB1.out
  simp only [Nat.zero_add] at d0 d1 d2 d3
  rw [Hn.out] at d2
  rw [Hwn.out] at d3
  have HN0 : Hid (LnRow (w1.alloc (.cells #[.string acc, .string cur, .int .i64 (-has)] 42)) w1.heap.size (.slice (some ⟨w1.heap.size, 0, none⟩) 1 1) [⟨acc, cur, -has⟩]) := lnRow_new w1 w1.heap.size ⟨acc, cur, -has⟩ (Nat.le_refl _)
  obtain ⟨w2, hw2⟩ : ∃ w2, w1.alloc (.cells #[.string acc, .string cur, .int .i64 (-has)] 42) = w2 := ⟨_, rfl⟩
  rw [hw2] at HN0
  have HW2 : Hid (w1.alloc (.cells #[.string acc, .string cur, .int .i64 (-has)] 42) = w2) := hw2
  have HB2 : Hid (Below w1.heap.size w1 w2) := by rw [← hw2]; exact (Below.refl _ w1).alloc (Nat.le_refl _) _
  clear hw2
  go_upto_region 7 with fail
  rw [HW2.out]
  clear HW2
  obtain ⟨n1, hn1⟩ : ∃ n1, w1.heap.size = n1 := ⟨_, rfl⟩
  have Hn1 : Hid (w1.heap.size = n1) := hn1
  rw [hn1] at HN0 HB2 hgl ⊢
  clear hn1
  have HX : Hid (∀ W, Below n1 w1 W → PoAt W B 0 ⟨acc, cur, tA, tC, tos, wA, wC, ws⟩ ∧ PoOk W ⟨acc, cur, tA, tC, tos, wA, wC, ws⟩ ∧ ∀ k, k < n → W.cell? ⟨g, k, none⟩ = some (.int .i64 (shareI has ws k))) := fun W hW => by
    have h1 := HB1.out.trans (hW.mono (by have := HB1.out.size; have := Hn1.out; omega))
    obtain ⟨e1, e2, _⟩ := HA.out W h1
    refine ⟨e1, e2, fun k hk => ?_⟩
    rw [hW.cell (p := ⟨g, k, none⟩) hgl]
    have := HR.out.cell (i := k) (by simp; exact hk)
    rw [this]
    simp [List.getD_eq_getElem?_getD, hk]
  clear d0 d1 d2 d3
  obtain ⟨⟨d0, d1, d2, d3⟩, _, _⟩ := HX.out w2 HB2.out
  simp only [Nat.zero_add] at d0 d1 d2 d3
  rw [Hn.out] at d2
  rw [Hwn.out] at d3
  have i5 : (n : Int) ≤ 19 := by omega
  have hnw : n1 ≤ w2.heap.size := by have := HB2.out.size; have := Hn1.out; omega
  go_wp2
  go_loopw [8, 36] (fun s8 i wr => ∃ k : Nat, k ≤ n ∧ i = .int .i64 k ∧ Hid (LnRow wr n1 s8 ((⟨acc, cur, -has⟩ : Ln) :: (List.range k).map tl)) ∧ Hid (Below n1 w1 wr)) (fun _ i _ => n - (RowKit.intOf i).toNat)
  case atStart => exact ⟨0, Nat.zero_le _, rfl, HN0, HB2⟩
  case round =>
    obtain ⟨k, hk, rfl, R, HB⟩ := hrel
    clear d0 d1 d2 d3
    obtain ⟨⟨d0, d1, d2, d3⟩, hok, hsh⟩ := HX.out wr HB.out
    simp only [Nat.zero_add] at d0 d1 d2 d3
    rw [Hn.out] at d2
    rw [Hwn.out] at d3
    have hwr : n1 ≤ wr.heap.size := by have := HB.out.size; have := Hn1.out; omega
    by_cases hkn : k < n
    · obtain ⟨b, off, e, hbl, hc⟩ := hok.tx.at (k := k) (by show k < tos.length; rw [Hn.out]; exact hkn)
      simp only at e hc
      subst e
      have cs := hsh k hkn
      have hst := HSt.out k
      have hfl : ((⟨acc, cur, -has⟩ : Ln) :: (List.range k).map tl).length = k + 1 := by simp
      clear hok hsh
      generalize (⟨acc, cur, -has⟩ : Ln) :: (List.range k).map tl = fs at *
      generalize tos.getD k ByteArray.empty = x0 at *
      generalize shareI has ws k = x2 at *
      obtain ⟨a, cq, rfl, _⟩ := R.out.isLn
      have Hfl : Hid (fs.length = k + 1) := hfl
      rw [hfl] at R ⊢
      clear hfl
      have j0 : (0 : Int) ≤ k := by omega
      have j1 : (k : Int) < n := by omega
      have Hst : Hid (_ = _) := hst
      have hro : World.ownsRow (wr.alloc (.cells #[.string x0, .string cur, .int .i64 x2] 42)).drew n1 42 3 (.slice a (k + 1) cq) (k + 1) (lnRow fs) := by
        have := World.ownsRow.drew (World.ownsRow.alloc R.out (.cells #[.string x0, .string cur, .int .i64 x2] 42))
        unfold LnRow at this
        rw [Hfl.out] at this
        exact this
      have HRO : Hid (World.ownsRow _ _ _ _ _ _ _) := hro
      have k1 : ∀ j u, ([.string x0, .string cur, .int .i64 x2] : List Value)[j]? = some u → (wr.alloc (.cells #[.string x0, .string cur, .int .i64 x2] 42)).drew.cell? ((⟨wr.heap.size, 0, none⟩ : Addr).add j) = some u := fun j u h => cells_three wr x0 cur x2 wr.heap.size 42 rfl j u h
      have K1 : Hid (∀ j u, ([.string x0, .string cur, .int .i64 x2] : List Value)[j]? = some u → (wr.alloc (.cells #[.string x0, .string cur, .int .i64 x2] 42)).drew.cell? ((⟨wr.heap.size, 0, none⟩ : Addr).add j) = some u) := k1
      have s1 : ∀ u ∈ ([.string x0, .string cur, .int .i64 x2] : List Value), u.oneCell' = true := by intro u hu; simp at hu; rcases hu with rfl | rfl | rfl <;> rfl
      have s2 : Hid (k + 1 + 1 ≤ maxLen) := by unfold Hid maxLen; omega
      have s3 : Hid ((k + 1 + 1) * 40 ≤ 140737488355328) := by unfold Hid; omega
      have s4 : Hid (n1 ≤ (wr.alloc (.cells #[.string x0, .string cur, .int .i64 x2] 42)).drew.heap.size) := by unfold Hid; simp; omega
      have s5 : Hid ((wr.alloc (.cells #[.string x0, .string cur, .int .i64 x2] 42)).drew.heap.size = wr.heap.size + 1) := by unfold Hid; simp
      have B2 := (HB.out.alloc hwr (.cells #[.string x0, .string cur, .int .i64 x2] 42)).drew
      have hoj : ∀ j, (Value.slice a (k + 1) cq).ownBlock = some j → n1 ≤ j := fun j e => (World.ownsRow.lt hro j e).1
      have HB2' : Hid (Below n1 w1 _) := B2
      have HOJ : Hid (∀ j, (Value.slice a (k + 1) cq).ownBlock = some j → n1 ≤ j) := hoj
      have HWR : Hid (n1 ≤ wr.heap.size) := hwr
      clear k1 hst hro R HB B2 hoj HX HSt HD HAll HEnd HA HN0 HR
      go_wp2_with fail
      go_region_law (refine step_append_lies _ rfl (.tmp 41) (.tmp 50) 38 rfl n1 42 i0 (.agg #[.string ByteArray.empty, .string ByteArray.empty, .int .i64 0]) 3 40 Tryz.underlying38 hi hz0 hz1 hz2 rfl (Nat.zero_lt_succ _) (.slice a (k + 1) cq) (k + 1) (lnRow fs) rfl HRO.out ⟨wr.heap.size, 0, none⟩ 1 1 [.string x0, .string cur, .int .i64 x2] rfl rfl K1.out s1 (Nat.zero_lt_one) s2.out s3.out s4.out (wr.heap.size + 1) s5.out ?_; intro g' cap' w3 hown' hgrow hat hlt2)
      all_goals
        have B3 := HB2'.out.grown hgrow (by have := HWR.out; simp; omega) (fun j e => by have := HOJ.out j e; omega)
        have HR3 : Hid (LnRow w3 n1 (.slice (some ⟨g', 0, none⟩) (k + 1 + 1) cap') ((⟨acc, cur, -has⟩ : Ln) :: (List.range (k + 1)).map tl)) := by
          unfold Hid
          rw [Hst.out]
          unfold LnRow
          rw [lnRow_append, lnRow_one, List.length_append, Hfl.out]
          exact hown'
        clear hown' hgrow hat
        go_wp2
        go_roundw
        case rel => exact ⟨k + 1, by omega, by go_num, HR3.out, B3⟩
        case measure => simp [RowKit.intOf]; omega
    · have ek : k = n := by omega
      subst ek
      have j1 : ¬ (k : Int) < k := by omega
      obtain ⟨a, cq, e, _⟩ := R.out.isLn
      rw [show ((⟨acc, cur, -has⟩ : Ln) :: (List.range k).map tl).length = k + 1 by simp] at e
      subst e
      have R2 := R.out
      rw [← HAll.out] at R2
      have hDl : Hid (Calls Tryz.prog 30 #[.slice a (k + 1) cq, .func (.func 31) #[] #[]] wr fun e w' => ∃ v', e = .returned v' ∧ LnRow w' n1 v' out ∧ Below n1 wr w') := HD.out n1 _ wr hwr R2
      have HEn : Hid (∀ v W, LnRow W n1 v out → Below n1 wr W → LnRow W w.heap.size v out ∧ Below w.heap.size w W) := fun v W h1 h2 => HEnd.out w1 v W (by rw [Hn1.out]; exact h1) HB1.out (by rw [Hn1.out]; exact HB.out.trans h2)
      clear HD hok hsh R R2 HX HSt HA HN0 HR HEnd HAll HB HB2 hi hz0 hz1 hz2 hgl hnw hwr
      go_wp2_with fail
      refine hDl.out.mono ?_
      rintro e w3 ⟨v3, rfl, hr3, hb3⟩
      have HF : Hid (LnRow w3 w.heap.size v3 out ∧ Below w.heap.size w w3) := HEn.out v3 w3 hr3 hb3
      clear hDl hr3 hb3 HEn
      go_wp2
      go_ret2
      exact ⟨v3, rfl, HF.out⟩
end Go.Proofs.YtpkopanigeinpaaGreatDoor

namespace Go.Proofs.YtpkopanigeinpaaGreatDoor
set_option linter.unusedVariables false
set_option linter.unusedSimpArgs false
set_option maxRecDepth 100000
open Go.RowKit Go.Lib
/-- A small number's digits. -/
def digS (i : Nat) : ByteArray := if i < 10 then ⟨#[UInt8.ofNat (48 + i)]⟩ else ⟨#[UInt8.ofNat (48 + i / 10), UInt8.ofNat (48 + i % 10)]⟩
theorem lt20 {p : Nat → Prop} (h0 : p 0) (h1 : p 1) (h2 : p 2) (h3 : p 3) (h4 : p 4) (h5 : p 5) (h6 : p 6) (h7 : p 7) (h8 : p 8) (h9 : p 9) (h10 : p 10) (h11 : p 11) (h12 : p 12) (h13 : p 13) (h14 : p 14) (h15 : p 15) (h16 : p 16) (h17 : p 17) (h18 : p 18) (h19 : p 19) : ∀ i, i < 20 → p i := by
  intro i hi
  rcases (by omega : i = 0 ∨ i = 1 ∨ i = 2 ∨ i = 3 ∨ i = 4 ∨ i = 5 ∨ i = 6 ∨ i = 7 ∨ i = 8 ∨ i = 9 ∨ i = 10 ∨ i = 11 ∨ i = 12 ∨ i = 13 ∨ i = 14 ∨ i = 15 ∨ i = 16 ∨ i = 17 ∨ i = 18 ∨ i = 19) with rfl | rfl | rfl | rfl | rfl | rfl | rfl | rfl | rfl | rfl | rfl | rfl | rfl | rfl | rfl | rfl | rfl | rfl | rfl | rfl <;> assumption
set_option maxHeartbeats 4000000 in
theorem itoSmall_any : ∀ i, i < 20 → ∀ w, Calls Tryz.prog 74 #[.int .i64 ((i : Nat) : Int)] w fun e w' => e = .returned (.string (digS i)) ∧ w' = w := by
  apply lt20
  all_goals
    intro w
    go_enter Tryz.func74, Tryz.ntmps74
    go_wp2
    go_ret
    exact ⟨by first | rfl | kernel_rfl, rfl⟩
theorem itoa_any (i : Nat) (hi : i < 20) (w : World) : Calls Tryz.prog 16 #[.int .i64 ((i : Nat) : Int)] w fun e w' => e = .returned (.string (digS i)) ∧ w' = w := by
  have HS : Hid (∀ W, Calls Tryz.prog 74 #[.int .i64 ((i : Nat) : Int)] W fun e w' => e = .returned (.string (digS i)) ∧ w' = W) := itoSmall_any i hi
  have h1 : (i : Int) < 100 := by omega
  have h0 : (0 : Int) ≤ i := by omega
  have HF : Hid (∀ W, Calls Tryz.prog 54 #[.int .i64 ((i : Nat) : Int), .int .i64 10] W fun e w' => e = .returned (.string (digS i)) ∧ w' = W) := fun W => by
    go_enter Tryz.func54, Tryz.ntmps54
    go_wp2_with (go_at_call 74; refine (HS.out _).mono ?_; rintro e w' ⟨rfl, rfl⟩)
    go_ret
    exact ⟨rfl, rfl⟩
  have HI : Hid (∀ W, Calls Tryz.prog 32 #[.int .i64 ((i : Nat) : Int)] W fun e w' => e = .returned (.string (digS i)) ∧ w' = W) := fun W => by
    go_enter Tryz.func32, Tryz.ntmps32
    go_wp2_with (go_at_call 54; refine (HF.out _).mono ?_; rintro e w' ⟨rfl, rfl⟩)
    go_ret
    exact ⟨rfl, rfl⟩
  go_enter Tryz.func16, Tryz.ntmps16
  go_wp2_with (go_at_call 32; refine (HI.out _).mono ?_; rintro e w' ⟨rfl, rfl⟩)
  go_ret
  exact ⟨rfl, rfl⟩
end Go.Proofs.YtpkopanigeinpaaGreatDoor

namespace Go.Proofs.YtpkopanigeinpaaGreatDoor
set_option linter.unusedVariables false
set_option linter.unusedSimpArgs false
set_option maxRecDepth 100000
open Go.RowKit Go.Lib

/-- An entry, wherever it lies. -/
structure Ep where
  ref : ByteArray
  ent : Int
  per : Int
  lns : List Ln
def Je.ep (x : Je) : Ep := ⟨x.ref, x.ent, x.per, x.lns⟩
/-- Entries that a call has made, with their lines. -/
structure Made (W : World) (n0 : Nat) (v : Value) (L : List Je) : Prop where
  row : JeRow W n0 v L
  lns : ∀ x ∈ L, LnRow W n0 (.slice x.adr x.lns.length x.cap) x.lns
theorem Made.nil (W : World) (n0 : Nat) : Made W n0 (.slice none 0 0) [] := ⟨JeRow.nil W n0, by simp⟩
theorem Made.below {W W' : World} {n0 : Nat} {v : Value} {L : List Je} (h : Made W n0 v L) (hb : Below W.heap.size W W') : Made W' n0 v L := ⟨h.row.below hb, fun x hx => (h.lns x hx).below hb⟩
theorem Made.isJs {W : World} {n0 : Nat} {v : Value} {L : List Je} (h : Made W n0 v L) : ∃ a cap, v = .slice a L.length cap ∧ IsJs W a L cap := by
  obtain ⟨a, cap, e, h1, h2⟩ := h.row.lies
  refine ⟨a, cap, e, h1, h2, fun x hx => ?_⟩
  obtain ⟨a', c', e', h'⟩ := (h.lns x hx).isLn
  cases e'
  exact h'
theorem made_typ {w : World} {n : Nat} {v : Value} {xs : List Je} (h : JeRow w n v xs) : ∀ j, v.ownBlock = some j → ∃ cs, w.heap[j]? = some (.cells cs 40 (0, 0)) := fun j ej => by
  rcases h.2 with ⟨rfl, _⟩ | ⟨g, cp, cur, rfl, hg, hh, _⟩
  · cases ej
  · cases ej; exact ⟨cur, hh⟩
theorem Made.add {W W1 : World} {n0 : Nat} {v v' : Value} {L : List Je} {x : Je} (h : Made W n0 v L) (hx : LnRow W n0 (.slice x.adr x.lns.length x.cap) x.lns) (ho : W1.ownsRow n0 40 4 v' (L.length + 1) (jeRow L ++ x.cells.toList)) (hg : W.grownBy W1 v.ownBlock) : Made W1 n0 v' (L ++ [x]) := by
  have keep : ∀ y : Je, LnRow W n0 (.slice y.adr y.lns.length y.cap) y.lns → LnRow W1 n0 (.slice y.adr y.lns.length y.cap) y.lns := fun y hy => by
    rcases hy.2 with ⟨hv, hn⟩ | ⟨g1, c1, cur, hv, hb1, hh, r⟩
    · exact ⟨hy.1, .inl ⟨hv, hn⟩⟩
    · refine ⟨hy.1, .inr ⟨g1, c1, cur, hv, hb1, (hg.block g1 (Array.getElem?_eq_some_iff.1 hh).1 fun e => ?_).trans hh, r⟩⟩
      obtain ⟨cs, h2⟩ := made_typ h.row g1 e.symm
      rw [hh] at h2
      cases h2
  refine ⟨?_, fun y hy => ?_⟩
  · unfold JeRow
    rw [jeRow_append, jeRow_one, List.length_append]
    exact ho
  · rcases List.mem_append.1 hy with hy | hy
    · exact keep y (h.lns y hy)
    · rw [List.mem_singleton] at hy
      subst hy
      exact keep _ hx

end Go.Proofs.YtpkopanigeinpaaGreatDoor

namespace Go.Proofs.YtpkopanigeinpaaGreatDoor
set_option linter.unusedVariables false
set_option linter.unusedSimpArgs false
set_option maxRecDepth 100000
open Go.RowKit Go.Lib

theorem digS_size (i : Nat) : (digS i).size ≤ 2 := by
  unfold digS
  split
  · exact Nat.le_succ 1
  · exact Nat.le_refl 2
/-- The ref of a pool's entry. -/
def refA (i : Nat) : ByteArray := (⟨#[97, 108, 108, 111, 116, 45]⟩ : ByteArray) ++ digS i
/-- The entry of a pool, if there is one. -/
def poE (en pe : Int) (b : List Bl) (i : Nat) (p : Po) : List Ep := if getB b en p.acc p.cur = 0 then [] else [⟨refA i, en, pe, goL p (getB b en p.acc p.cur)⟩]
/-- The entries of the first pools. -/
def alTo (en pe : Int) (b : List Bl) (l : List Po) (k : Nat) : List Ep := (List.range k).flatMap fun i => poE en pe b i (l.getD i po0)
theorem alTo_next (en pe : Int) (b : List Bl) (l : List Po) (k : Nat) : alTo en pe b l (k + 1) = alTo en pe b l k ++ poE en pe b k (l.getD k po0) := by
  unfold alTo; rw [List.range_succ, List.flatMap_append]; simp
def isAmt (n : Int) : Prop := -1000000000000000 ≤ n ∧ n ≤ 1000000000000000
abbrev decAmt (n : Int) : Decidable (isAmt n) := inferInstanceAs (Decidable (_ ∧ _))
/-- What is wrong with what a pool has. -/
def hasBad (b : List Bl) (en : Int) (p : Po) : Int := @ite _ (isAmt (getB b en p.acc p.cur)) (decAmt _) 0 1
/-- What is wrong with all that is handed in. -/
def alBad (c : List Ac) (l : List Po) (b : List Bl) (en pe : Int) : Int :=
  if psBad c l ≠ 0 then psBad c l else if chk b ≠ 0 then chk b else if (upTo en 12 && upTo pe 120) = false then 1 else firstTo (fun k => hasBad b en (l.getD k po0)) l.length
/-- What Entries leaves. -/
def AlEnd (c : List Ac) (l : List Po) (b : List Bl) (en pe : Int) (w : World) (e : Ending) (w' : World) : Prop :=
  Below w.heap.size w w' ∧ (alBad c l b en pe ≠ 0 → e = .returned (.tuple #[.slice none 0 0, chE (alBad c l b en pe)])) ∧
    (alBad c l b en pe = 0 → ∃ v L, e = .returned (.tuple #[v, .nilIface]) ∧ Made w' w.heap.size v L ∧ L.map Je.ep = alTo en pe b l l.length)
theorem poBad_ok {c : List Ac} {p : Po} (h : poBad c p = 0) : p.ws.length = p.tos.length ∧ 0 < p.tos.length ∧ p.tos.length ≤ 19 ∧ shBad p.ws = 0 ∧ (∀ k, k < p.tos.length → toBad c p.acc p.tos k = 0) ∧ leafBad c p.acc = 0 ∧ isCur p.cur = true := by
  unfold poBad at h
  split at h
  · contradiction
  · rename_i h1
    split at h
    · omega
    · rename_i h2
      split at h
      · omega
      · rename_i h3
        split at h
        · omega
        · rename_i h4
          split at h
          · contradiction
          · rename_i h5
            refine ⟨by omega, by omega, by omega, h, firstTo_zero (Decidable.of_not_not h5), Decidable.of_not_not h1, by simpa using h2⟩
theorem psBad_ok {c : List Ac} {l : List Po} (h : psBad c l = 0) : chBad c = 0 ∧ l.length ≤ 20 ∧ ∀ k, k < l.length → poBad c (l.getD k po0) = 0 := by
  unfold psBad at h
  split at h
  · contradiction
  · rename_i h1
    split at h
    · omega
    · exact ⟨Decidable.of_not_not h1, by omega, firstTo_zero h⟩

set_option maxHeartbeats 8000000 in
theorem alEntries_any (a a2 a3 : Option Addr) (cap cap2 cap3 : Nat) (c : List Ac) (l : List Po) (b : List Bl) (en pe : Int) (w : World) (h : IsSl w a c cap) (hl : IsPs w a2 l cap2) (hll : l.length ≤ 9223372036854775807) (hb : IsBl w a3 b cap3) (hbl : b.length ≤ 9223372036854775807) :
    Calls Tryz.prog 4 #[.slice a c.length cap, .slice a2 l.length cap2, .slice a3 b.length cap3, .int .i64 en, .int .i64 pe] w (AlEnd c l b en pe w) := by
  have HErr : Hid (∀ z W, z ≠ 0 → alBad c l b en pe = z → Below w.heap.size w W → AlEnd c l b en pe w (.returned (.tuple #[.slice none 0 0, .iface 53 (.int .i64 z)])) W) := fun z W h0 h1 h2 => by
    refine ⟨h2, fun _ => by rw [h1, chE_ne h0], fun e => absurd (h1.symm.trans e) h0⟩
  have HOk : Hid (∀ v L W, alBad c l b en pe = 0 → Below w.heap.size w W → Made W w.heap.size v L → L.map Je.ep = alTo en pe b l l.length → AlEnd c l b en pe w (.returned (.tuple #[v, .nilIface])) W) := fun v L W h1 h2 h3 h4 =>
    ⟨h2, fun h0 => absurd h1 h0, fun _ => ⟨v, L, rfl, h3, h4⟩⟩
  have HC : Hid (Calls _ _ _ _ _) := alCheck_any a a2 cap cap2 c l w h hl hll
  by_cases c1 : psBad c l ≠ 0
  · have e1 : alBad c l b en pe = psBad c l := by unfold alBad; rw [if_pos c1]
    have HE : Hid (∀ W, Below w.heap.size w W → AlEnd c l b en pe w (.returned (.tuple #[.slice none 0 0, .iface 53 (.int .i64 (psBad c l))])) W) := fun W hW => HErr.out _ W c1 e1 hW
    rw [chE_ne c1] at HC
    clear h hl hb c1 e1 HErr HOk
    generalize psBad c l = z at *
    go_enter Tryz.func4, Tryz.ntmps4
    go_wp2_with (go_at_call 10; refine HC.out.mono ?_; rintro e w1 ⟨rfl, hb1⟩)
    go_ret2
    exact HE.out _ hb1
  have c1' := Decidable.of_not_not c1
  rw [c1', chE_zero] at HC
  have HCb : Hid (∀ W, Below w.heap.size w W → Calls Tryz.prog 11 #[.slice a3 b.length cap3] W fun e w' => e = .returned (chE (chk b)) ∧ Below w.heap.size w w') := fun W hW => by
    refine (ldCheck_any a3 cap3 b W hbl (hb.below hW)).mono ?_
    rintro e w' ⟨rfl, h2⟩
    exact ⟨rfl, hW.trans (h2.mono hW.size)⟩
  by_cases c2 : chk b ≠ 0
  · have e1 : alBad c l b en pe = chk b := by unfold alBad; rw [if_neg c1, if_pos c2]
    have HE : Hid (∀ W, Below w.heap.size w W → AlEnd c l b en pe w (.returned (.tuple #[.slice none 0 0, .iface 53 (.int .i64 (chk b))])) W) := fun W hW => HErr.out _ W c2 e1 hW
    rw [chE_ne c2] at HCb
    clear h hl hb c1 c1' c2 e1 HErr HOk
    generalize chk b = z at *
    go_enter Tryz.func4, Tryz.ntmps4
    go_wp2_with (first | (go_at_call 10; refine HC.out.mono ?_; rintro e w1 ⟨rfl, hb1⟩) | (go_at_call 11; refine (HCb.out _ hb1).mono ?_; rintro e w2 ⟨rfl, hb2⟩))
    go_ret2
    exact HE.out _ hb2
  have c2' := Decidable.of_not_not c2
  rw [c2', chE_zero] at HCb
  have HU1 : Hid (∀ W, Calls Tryz.prog 12 #[.int .i64 en] W fun e w' => e = .returned (.bool (upTo en 12)) ∧ w' = W) := fun W => isEntity_any en W
  have HU2 : Hid (∀ W, Calls Tryz.prog 13 #[.int .i64 pe] W fun e w' => e = .returned (.bool (upTo pe 120)) ∧ w' = W) := fun W => isPeriod_any pe W
  by_cases c3 : (upTo en 12 && upTo pe 120) = false
  · have e1 : alBad c l b en pe = 1 := by unfold alBad; rw [if_neg c1, if_neg c2, if_pos c3]
    have HE : Hid (∀ W, Below w.heap.size w W → AlEnd c l b en pe w (.returned (.tuple #[.slice none 0 0, .iface 53 (.int .i64 1)])) W) := fun W hW => HErr.out _ W (by decide) e1 hW
    clear h hl hb c1 c1' c2 c2' e1 HErr HOk
    cases u1 : upTo en 12
    · rw [u1] at HU1
      clear c3 u1
      go_enter Tryz.func4, Tryz.ntmps4
      go_wp2_with (first | (go_at_call 10; refine HC.out.mono ?_; rintro e w1 ⟨rfl, hb1⟩) | (go_at_call 11; refine (HCb.out _ hb1).mono ?_; rintro e w2 ⟨rfl, hb2⟩) | (go_at_call 12; refine (HU1.out _).mono ?_; rintro e w' ⟨rfl, rfl⟩))
      go_ret2
      exact HE.out _ hb2
    · have u2 : upTo pe 120 = false := by rw [u1] at c3; simpa using c3
      rw [u1] at HU1
      rw [u2] at HU2
      clear c3 u1 u2
      go_enter Tryz.func4, Tryz.ntmps4
      go_wp2_with fail
      refine HC.out.mono ?_
      rintro e w1 ⟨rfl, hb1⟩
      go_wp2_with fail
      refine (HCb.out _ hb1).mono ?_
      rintro e w2 ⟨rfl, hb2⟩
      go_wp2_with fail
      refine (HU1.out _).mono ?_
      rintro e w' ⟨rfl, hw⟩
      rw [hw]; clear hw w'
      go_wp2_with fail
      refine (HU2.out _).mono ?_
      rintro e w' ⟨rfl, hw⟩
      rw [hw]; clear hw w'
      go_wp2
      go_ret2
      exact HE.out _ hb2
  have c3' : upTo en 12 = true ∧ upTo pe 120 = true := by simpa using c3
  have HB0 : Hid (alBad c l b en pe = firstTo (fun k => hasBad b en (l.getD k po0)) l.length) := by unfold alBad Hid; rw [if_neg c1, if_neg c2, if_neg c3]
  rw [c3'.1] at HU1
  rw [c3'.2] at HU2
  obtain ⟨p1, p2, p3⟩ := psBad_ok c1'
  have HPo : Hid (∀ k, k < l.length → poBad c (l.getD k po0) = 0) := p3
  have HPs : Hid (IsPs w a2 l cap2) := hl
  have HBl : Hid (IsBl w a3 b cap3 ∧ (b.length : Int) ≤ 9223372036854775807) := ⟨hb, by omega⟩
  have i2 : (l.length : Int) ≤ 20 := by omega
  clear h hl hb c1 c1' c2 c2' c3 c3' p1 p3
  obtain ⟨i0, hi, hz0, hz1, hz2⟩ := info_parts je_info
  go_enter Tryz.func4, Tryz.ntmps4
  go_wp2_with fail
  refine HC.out.mono ?_
  rintro e w1 ⟨rfl, hb1⟩
  go_wp2_with fail
  refine (HCb.out _ hb1).mono ?_
  rintro e w2 ⟨rfl, hb2⟩
  clear HC HCb hb1
  go_wp2_with fail
  refine (HU1.out _).mono ?_
  rintro e w' ⟨rfl, hw⟩
  rw [hw]; clear hw w' HU1
  go_wp2_with fail
  refine (HU2.out _).mono ?_
  rintro e w' ⟨rfl, hw⟩
  rw [hw]; clear hw w' HU2
  have HB2 : Hid (Below w.heap.size w w2) := hb2
  clear hb2
  go_wp2
  go_loopw [14, 42] (fun v i wr => ∃ (k : Nat) (L : List Je), k ≤ l.length ∧ i = .int .i64 k ∧ Hid (Made wr w.heap.size v L ∧ L.map Je.ep = alTo en pe b l k ∧ L.length ≤ k) ∧ Hid (firstTo (fun k => hasBad b en (l.getD k po0)) k = 0) ∧ Hid (Below w.heap.size w wr)) (fun _ i _ => l.length - (RowKit.intOf i).toNat)
  case atStart => exact ⟨0, [], Nat.zero_le _, rfl, ⟨Made.nil _ _, rfl, Nat.le_refl _⟩, rfl, HB2⟩
  case round =>
    obtain ⟨k, L, hk, rfl, HM, H0, HB⟩ := hrel
    obtain ⟨av, cv, ev, _⟩ := HM.out.1.isJs
    subst ev
    by_cases hkn : k < l.length
    · obtain ⟨bb, off, e, hblt, hc, hok⟩ := ((HPs.out).below HB.out).at hkn
      subst e
      have hpo := HPo.out k hkn
      obtain ⟨q1, q2, q3, q4, _⟩ := poBad_ok hpo
      have B1 := HB.out.alloc HB.out.size (.cells (l.getD k po0).cells 29)
      have b11 : Below wr.heap.size wr (wr.alloc (.cells (l.getD k po0).cells 29)) := (Below.refl _ wr).alloc (Nat.le_refl _) _
      have hx := PoAt.new wr (l.getD k po0) 29
      have HIn : Hid (Calls Tryz.prog 14 #[.slice a3 b.length cap3, .int .i64 en, .string (l.getD k po0).acc, .string (l.getD k po0).cur] (wr.alloc (.cells (l.getD k po0).cells 29)) fun e w' => e = .returned (.int .i64 (getB b en (l.getD k po0).acc (l.getD k po0).cur)) ∧ Below (wr.alloc (.cells (l.getD k po0).cells 29)).heap.size (wr.alloc (.cells (l.getD k po0).cells 29)) w') := ldHas_any a3 cap3 b en (l.getD k po0).acc (l.getD k po0).cur _ HBl.out.2 (HBl.out.1.below B1)
      have HKeep : Hid (∀ W, Below (wr.alloc (.cells (l.getD k po0).cells 29)).heap.size (wr.alloc (.cells (l.getD k po0).cells 29)) W → Below w.heap.size w W ∧ Below wr.heap.size wr W ∧ PoAt W wr.heap.size 0 (l.getD k po0) ∧ PoOk W (l.getD k po0)) := fun W hW => by
        have hs : wr.heap.size < (wr.alloc (.cells (l.getD k po0).cells 29)).heap.size := by simp
        exact ⟨B1.trans (hW.mono B1.size), b11.trans (hW.mono b11.size), hx.below hW hs, (hok.below b11).below hW⟩
      have HNx : Hid (alTo en pe b l (k + 1) = alTo en pe b l k ++ poE en pe b k (l.getD k po0)) := alTo_next en pe b l k
      have HBd : Hid (hasBad b en (l.getD k po0) = 0 → firstTo (fun k => hasBad b en (l.getD k po0)) (k + 1) = 0) := fun h => by rw [firstTo_next H0.out, h]
      have HBr : Hid (hasBad b en (l.getD k po0) = 1 → alBad c l b en pe = 1) := fun h => by
        rw [HB0.out, firstTo_first H0.out (by rw [h]; decide) hkn, h]
      have HGo : Hid (∀ W has, PoOk W (l.getD k po0) → (¬ isAmt has → Calls Tryz.prog 15 #[.agg (l.getD k po0).cells, .int .i64 has] W fun e w' => e = .returned (.tuple #[.slice none 0 0, chE 1]) ∧ Below W.heap.size W w') ∧ (isAmt has → Calls Tryz.prog 15 #[.agg (l.getD k po0).cells, .int .i64 has] W fun e w' => ∃ v, e = .returned (.tuple #[v, .nilIface]) ∧ LnRow w' W.heap.size v (goL (l.getD k po0) has) ∧ Below W.heap.size W w')) := fun W has hW => ⟨fun h => given_bad _ has W h, fun h => given_ok _ has W hW q1 q3 q4 h⟩
      have HGB : Hid (hasBad b en (l.getD k po0) = @ite _ (isAmt (getB b en (l.getD k po0).acc (l.getD k po0).cur)) (decAmt _) 0 1) := rfl
      have HPE : Hid (poE en pe b k (l.getD k po0) = if getB b en (l.getD k po0).acc (l.getD k po0).cur = 0 then [] else [⟨refA k, en, pe, goL (l.getD k po0) (getB b en (l.getD k po0).acc (l.getD k po0).cur)⟩]) := rfl
      have f0 := hx.c0
      have f1 := hx.c1
      have f2 := hx.c2
      have f3 := hx.c3
      clear hok hx B1 b11 q1 q2 q3 q4 hpo
      generalize getB b en (l.getD k po0).acc (l.getD k po0).cur = has at *
      generalize hasBad b en (l.getD k po0) = hbd at *
      generalize goL (l.getD k po0) = gl at *
      generalize poE en pe b k (l.getD k po0) = pE at *
      generalize l.getD k po0 = p at *
      obtain ⟨acc, cur, tA, tC, tos, wA, wC, ws⟩ := p
      obtain ⟨d0, d1, d2, d3⟩ := hc
      simp only [Po.cells, Nat.zero_add] at d0 d1 d2 d3 f0 f1 f2 f3 HIn HKeep HGo
      have j0 : (0 : Int) ≤ k := by omega
      have j1 : (k : Int) < l.length := by omega
      by_cases g0 : has = 0
      · subst g0
        have HM2 : Hid (∀ W, Below wr.heap.size wr W → Made W w.heap.size (.slice av L.length cv) L ∧ L.map Je.ep = alTo en pe b l (k + 1) ∧ L.length ≤ k + 1) := fun W hW => by
          obtain ⟨m1, m2, m3⟩ := HM.out
          refine ⟨m1.below hW, ?_, by omega⟩
          rw [HNx.out, HPE.out, if_pos rfl, List.append_nil, m2]
        have HN : Hid (firstTo (fun k => hasBad b en (l.getD k po0)) (k + 1) = 0) := HBd.out (by rw [HGB.out, if_pos (by unfold isAmt; omega)])
        clear HBd HBr HGo HGB HPE HNx HM HOk HErr
        go_wp2_with fail
        refine HIn.out.mono ?_
        rintro e w3 ⟨rfl, hb3⟩
        obtain ⟨k1, k2, _⟩ := HKeep.out w3 hb3
        have HF : Hid _ := HM2.out w3 k2
        have HB3 : Hid (Below w.heap.size w w3) := k1
        clear HIn HKeep HM2 hb3 k1 k2
        go_wp2
        go_roundw
        case rel => exact ⟨k + 1, L, by omega, by go_num, HF, HN, HB3⟩
        case measure => simp [RowKit.intOf]; omega
      have g0' : (has == 0) = false := by rw [beq_eq_false_iff_ne]; exact g0
      go_wp2_with fail
      refine HIn.out.mono ?_
      rintro e w3 ⟨rfl, hb3⟩
      obtain ⟨k1, k2, k3, k4⟩ := HKeep.out w3 hb3
      obtain ⟨f0, f1, f2, f3⟩ := k3
      simp only [Nat.zero_add] at f0 f1 f2 f3
      have HK1 : Hid (Below w.heap.size w w3) := k1
      have HK2 : Hid (Below wr.heap.size wr w3) := k2
      obtain ⟨gB, gG⟩ := HGo.out w3 has k4
      clear HIn HKeep hb3 d0 d1 d2 d3 k1 k2 k4 HGo
      by_cases c4 : isAmt has
      · have HG : Hid (Calls _ _ _ _ _) := gG c4
        have HN : Hid (firstTo (fun k => hasBad b en (l.getD k po0)) (k + 1) = 0) := HBd.out (by rw [HGB.out, if_pos c4])
        have HP2 : Hid (alTo en pe b l (k + 1) = alTo en pe b l k ++ [⟨refA k, en, pe, gl has⟩]) := by
          rw [HNx.out, HPE.out, if_neg g0]; exact rfl
        clear gB gG HBd HBr HGB HPE HNx HOk HErr
        go_wp2_with fail
        refine HG.out.mono ?_
        rintro e w4 ⟨v4, rfl, hr4, hb4⟩
        obtain ⟨a4, c4', e4, _⟩ := hr4.isLn
        subst e4
        have HR4 : Hid (LnRow w4 w3.heap.size (.slice a4 (gl has).length c4') (gl has)) := hr4
        have HB4 : Hid (Below w3.heap.size w3 w4) := hb4
        have HIt : Hid (∀ W, Calls Tryz.prog 16 #[.int .i64 ((k : Nat) : Int)] W fun e w' => e = .returned (.string (digS k)) ∧ w' = W) := fun W => itoa_any k (by omega) W
        have HAdd : Hid (∀ v' w6, World.ownsRow w6 w.heap.size 40 4 v' (L.length + 1) (jeRow L ++ (Je.mk (refA k) en pe a4 c4' (gl has)).cells.toList) → (w4.alloc (.cells #[.string (refA k), .int .i64 en, .int .i64 pe, .slice a4 (gl has).length c4'] 40)).grownBy w6 (Value.slice av L.length cv).ownBlock → (Made w6 w.heap.size v' (L ++ [Je.mk (refA k) en pe a4 c4' (gl has)]) ∧ (L ++ [Je.mk (refA k) en pe a4 c4' (gl has)]).map Je.ep = alTo en pe b l (k + 1) ∧ (L ++ [Je.mk (refA k) en pe a4 c4' (gl has)]).length ≤ k + 1) ∧ Below w.heap.size w w6) := fun v' w6 h1 h2 => by
          obtain ⟨m1, m2, m3⟩ := HM.out
          have z1 := HK1.out.trans (HB4.out.mono HK1.out.size)
          have z2 := z1.alloc z1.size (.cells #[.string (refA k), .int .i64 en, .int .i64 pe, .slice a4 (gl has).length c4'] 40)
          have z3 : Below w4.heap.size w4 (w4.alloc (.cells #[.string (refA k), .int .i64 en, .int .i64 pe, .slice a4 (gl has).length c4'] 40)) := (Below.refl _ w4).alloc (Nat.le_refl _) _
          have m4 := ((m1.below HK2.out).below HB4.out).below z3
          refine ⟨⟨m4.add (x := Je.mk (refA k) en pe a4 c4' (gl has)) ((HR4.out.below z3).mono HK1.out.size) h1 h2, ?_, ?_⟩, z2.grown h2 z2.size fun j e => m1.row.own j e⟩
          · rw [List.map_append, m2, HP2.out]; rfl
          · rw [List.length_append]; simp; exact m3
        have HRow : Hid (World.ownsRow (w4.alloc (.cells #[.string (refA k), .int .i64 en, .int .i64 pe, .slice a4 (gl has).length c4'] 40)) w.heap.size 40 4 (.slice av L.length cv) L.length (jeRow L)) := by
          have m4 := (HM.out.1.below HK2.out).below HB4.out
          exact World.ownsRow.alloc m4.row _
        have s2 : Hid (L.length + 1 ≤ maxLen ∧ (L.length + 1) * 56 ≤ 140737488355328) := by
          have := HM.out.2.2
          unfold Hid maxLen; omega
        have s4 : Hid (w.heap.size ≤ (w4.alloc (.cells #[.string (refA k), .int .i64 en, .int .i64 pe, .slice a4 (gl has).length c4'] 40)).heap.size) := by
          have z1 := HK1.out.size
          have z2 := HB4.out.size
          unfold Hid; simp; omega
        have hds : ¬ 9223372036854775807 < 6 + (digS k).size := by have := digS_size k; omega
        clear HG hr4 hb4 HM f0 f1 f2 f3
        go_wp2_with fail
        refine (HIt.out _).mono ?_
        rintro e w' ⟨rfl, hw⟩
        rw [hw]; clear hw w' HIt
        go_wp2_with (at_builtin; refine wpList_append_own _ rfl _ _ 30 rfl w.heap.size 40 i0 (.agg #[.string ByteArray.empty, .int .i64 0, .int .i64 0, .slice none 0 0]) 4 56 Tryz.underlying30 hi hz0 hz1 hz2 rfl (by decide) _ _ _ rfl HRow.out ⟨w4.heap.size, 0, none⟩ 1 1 (Je.mk (refA k) en pe a4 c4' (gl has)).cells.toList rfl rfl (World.news_of_block (World.alloc_heap_new w4 _)) (je_one _) s2.out.1 s2.out.2 s4.out ?_)
        intro v' w6 hown' hgrow _
        obtain ⟨hm6, hb6⟩ := HAdd.out v' w6 hown' hgrow
        have HM6 : Hid _ := hm6
        have HB6 : Hid (Below w.heap.size w w6) := hb6
        clear hown' hgrow hm6 hb6 HAdd HRow
        go_wp2
        go_roundw
        case rel => exact ⟨k + 1, _, by omega, by go_num, HM6, HN, HB6⟩
        case measure => simp [RowKit.intOf]; omega
      · have HG : Hid (Calls _ _ _ _ _) := gB c4
        have HE : Hid (∀ W, Below w.heap.size w W → AlEnd c l b en pe w (.returned (.tuple #[.slice none 0 0, .iface 53 (.int .i64 1)])) W) := fun W hW => HErr.out _ W (by decide) (HBr.out (by rw [HGB.out, if_neg c4])) hW
        rw [chE_ne (by decide)] at HG
        clear gB gG HBd HBr HGB HPE HNx HOk HErr
        go_wp2_with fail
        refine HG.out.mono ?_
        rintro e w4 ⟨rfl, hb4⟩
        have HB4 : Hid (Below w.heap.size w w4) := HK1.out.trans (hb4.mono HK1.out.size)
        clear hb4 HG
        go_wp2
        go_ret2
        exact HE.out _ HB4.out
    · have ek : k = l.length := by omega
      subst ek
      obtain ⟨m1, m2, m3⟩ := HM.out
      have HE : Hid (AlEnd c l b en pe w (.returned (.tuple #[.slice av L.length cv, .nilIface])) wr) := HOk.out _ L wr (by rw [HB0.out, H0.out]) HB.out m1 m2
      clear m1 m2 m3 HM HErr HOk HPo HPs HBl
      go_wp2
      go_ret2
      exact HE.out
end Go.Proofs.YtpkopanigeinpaaGreatDoor

namespace Go.Proofs.YtpkopanigeinpaaGreatDoor
set_option linter.unusedVariables false
set_option linter.unusedSimpArgs false

/-- All sizes together. -/
def absS (l : List Int) : Int := (l.map sizeI).sum
/-- What comes to those behind. -/
def cameL (t : Int) (beh : List Int) : List Int := (List.range beh.length).map (shareI t beh)
def posB (x : Int) : Bool := decide (0 < x)
/-- One gives out what it has to those behind it. -/
def downL (has : List Int) (i : Nat) (beh : List Int) : List Int :=
  if beh.any posB = true then has.take i ++ 0 :: List.zipWith (· + ·) (has.drop (i + 1)) (cameL (has.getD i 0) beh) else has
/-- What each has behind the first steps. -/
def stepL (rows : Nat → List Int) (am : List Int) : Nat → List Int
  | 0 => am
  | k + 1 => downL (stepL rows am k) k ((rows k).drop (k + 1))

theorem has_parts (has : List Int) (i : Nat) (h : i < has.length) : has = has.take i ++ has.getD i 0 :: has.drop (i + 1) := by
  have h1 : has.drop i = has.getD i 0 :: has.drop (i + 1) := by
    rw [List.drop_eq_getElem_cons h, List.getD_eq_getElem?_getD, List.getElem?_eq_getElem h]; rfl
  rw [← h1, List.take_append_drop]
theorem came_len (t : Int) (beh : List Int) : (cameL t beh).length = beh.length := by simp [cameL]
theorem down_len {has : List Int} {i : Nat} {beh : List Int} (hi : i < has.length) (hb : beh.length = has.length - (i + 1)) : (downL has i beh).length = has.length := by
  unfold downL
  split
  · simp [came_len]; omega
  · rfl
theorem zip_sum : ∀ (a b : List Int), a.length = b.length → (List.zipWith (· + ·) a b).sum = a.sum + b.sum
  | [], [], _ => by simp
  | x :: a, y :: b, h => by
    have := zip_sum a b (by simpa using h)
    simp only [List.zipWith_cons_cons, List.sum_cons, this]
    omega
theorem size_add (x y : Int) : sizeI (x + y) ≤ sizeI x + sizeI y := by unfold sizeI; split <;> split <;> split <;> omega
theorem zip_abs : ∀ (a b : List Int), a.length = b.length → absS (List.zipWith (· + ·) a b) ≤ absS a + absS b
  | [], [], _ => by simp [absS]
  | x :: a, y :: b, h => by
    have h1 := zip_abs a b (by simpa using h)
    have h2 := size_add x y
    simp only [absS, List.zipWith_cons_cons, List.map_cons, List.sum_cons] at h1 ⊢
    omega
theorem absS_append (a b : List Int) : absS (a ++ b) = absS a + absS b := by simp [absS]
theorem absS_cons (x : Int) (a : List Int) : absS (x :: a) = sizeI x + absS a := by simp [absS]
theorem absS_nonneg : ∀ a : List Int, 0 ≤ absS a
  | [] => by simp [absS]
  | x :: a => by rw [absS_cons]; have := absS_nonneg a; have := sizeI_nonneg x; omega
theorem size_le_abs {a : List Int} {x : Int} (h : x ∈ a) : sizeI x ≤ absS a := by
  induction a with
  | nil => cases h
  | cons y a ih =>
    rw [absS_cons]
    have h1 := absS_nonneg a
    have h2 := sizeI_nonneg y
    rcases List.mem_cons.1 h with rfl | h
    · omega
    · have := ih h; omega
theorem absS_pos : ∀ {l : List Int}, (∀ x ∈ l, 0 ≤ x) → absS l = l.sum
  | [], _ => by simp [absS]
  | x :: l, h => by
    have h1 := absS_pos (l := l) fun y hy => h y (List.mem_cons_of_mem _ hy)
    have h2 := h x (List.mem_cons_self ..)
    rw [absS_cons, h1, List.sum_cons]
    unfold sizeI; rw [if_neg (by omega)]
theorem absS_neg : ∀ {l : List Int}, (∀ x ∈ l, x ≤ 0) → absS l = -l.sum
  | [], _ => by simp [absS]
  | x :: l, h => by
    have h1 := absS_neg (l := l) fun y hy => h y (List.mem_cons_of_mem _ hy)
    have h2 := h x (List.mem_cons_self ..)
    rw [absS_cons, h1, List.sum_cons]
    unfold sizeI; split <;> omega
theorem came_sum {t : Int} {beh : List Int} (h : GoodW beh) : (cameL t beh).sum = t := share_sum h
theorem came_mem {t : Int} {beh : List Int} {x : Int} (hx : x ∈ cameL t beh) : ∃ i, i < beh.length ∧ x = shareI t beh i := by
  obtain ⟨i, h1, h2⟩ := List.mem_map.1 hx
  exact ⟨i, List.mem_range.1 h1, h2.symm⟩
theorem came_abs {t : Int} {beh : List Int} (h : GoodW beh) : absS (cameL t beh) = sizeI t := by
  by_cases ht : 0 ≤ t
  · rw [absS_pos fun x hx => by obtain ⟨i, h1, rfl⟩ := came_mem hx; exact ((share_bd h h1).1 ht).1, came_sum h]
    unfold sizeI; rw [if_neg (by omega)]
  · rw [absS_neg fun x hx => by obtain ⟨i, h1, rfl⟩ := came_mem hx; exact ((share_bd h h1).2 (by omega)).2, came_sum h]
    unfold sizeI; rw [if_pos (by omega)]
theorem good_beh {beh : List Int} (hl : beh.length ≤ 40) (hw : ∀ x ∈ beh, 0 ≤ x ∧ x ≤ 1000000000) (hp : beh.any posB = true) : GoodW beh := by
  refine ⟨hl, hw, ?_⟩
  obtain ⟨x, hx, h1⟩ := List.any_eq_true.1 hp
  have h2 : 0 < x := of_decide_eq_true h1
  have h3 := mem_le_sum (fun y hy => (hw y hy).1) hx
  omega
/-- Nothing is lost, and nothing grows. -/
theorem down_keeps {has : List Int} {i : Nat} {beh : List Int} (hi : i < has.length) (hb : beh.length = has.length - (i + 1)) (hl : beh.length ≤ 40) (hw : ∀ x ∈ beh, 0 ≤ x ∧ x ≤ 1000000000) : (downL has i beh).sum = has.sum ∧ absS (downL has i beh) ≤ absS has := by
  unfold downL
  split
  · rename_i hp
    have hG := good_beh hl hw hp
    have e := has_parts has i hi
    have hz : (has.drop (i + 1)).length = (cameL (has.getD i 0) beh).length := by rw [came_len, List.length_drop, hb]
    have s1 := zip_sum _ _ hz
    have s2 := zip_abs _ _ hz
    rw [came_sum hG] at s1
    rw [came_abs hG] at s2
    have t1 : has.sum = (has.take i).sum + (has.getD i 0 + (has.drop (i + 1)).sum) := by
      rw [← List.sum_cons, ← List.sum_append, ← e]
    have t2 : absS has = absS (has.take i) + (sizeI (has.getD i 0) + absS (has.drop (i + 1))) := by
      rw [← absS_cons, ← absS_append, ← e]
    refine ⟨?_, ?_⟩
    · rw [List.sum_append, List.sum_cons, s1]; omega
    · rw [absS_append, absS_cons]
      have : sizeI 0 = 0 := rfl
      omega
  · exact ⟨rfl, Int.le_refl _⟩
/-- What is asked of the weights. -/
def GoodR (rows : Nat → List Int) (n : Nat) : Prop := n ≤ 20 ∧ ∀ k, k < n → (rows k).length = n ∧ ∀ x ∈ rows k, 0 ≤ x ∧ x ≤ 1000000000
theorem step_keeps {rows : Nat → List Int} {am : List Int} (hr : GoodR rows am.length) : ∀ k, k ≤ am.length → (stepL rows am k).length = am.length ∧ (stepL rows am k).sum = am.sum ∧ absS (stepL rows am k) ≤ absS am
  | 0, _ => ⟨rfl, rfl, Int.le_refl _⟩
  | k + 1, hk => by
    obtain ⟨h1, h2, h3⟩ := step_keeps hr k (by omega)
    obtain ⟨g1, g2⟩ := hr.2 k (by omega)
    have hb : ((rows k).drop (k + 1)).length = (stepL rows am k).length - (k + 1) := by rw [List.length_drop, g1, h1]
    have hn := hr.1
    obtain ⟨d1, d2⟩ := down_keeps (has := stepL rows am k) (i := k) (by omega) hb (by rw [List.length_drop, g1]; omega) (fun x hx => g2 x (List.mem_of_mem_drop hx))
    refine ⟨?_, ?_, ?_⟩
    · show (downL _ _ _).length = _
      rw [down_len (by omega) hb, h1]
    · show (downL _ _ _).sum = _
      rw [d1, h2]
    · show absS (downL _ _ _) ≤ _
      omega
theorem abs_le : ∀ {l : List Int} {M : Int}, (∀ x ∈ l, sizeI x ≤ M) → absS l ≤ M * l.length
  | [], M, _ => by simp [absS]
  | x :: l, M, h => by
    have h1 := abs_le (l := l) (M := M) fun y hy => h y (List.mem_cons_of_mem _ hy)
    have h2 := h x (List.mem_cons_self ..)
    rw [absS_cons, List.length_cons, Int.natCast_add, Int.mul_add]
    omega
/-- Between the rounds of a step. -/
def midL (has : List Int) (i : Nat) (beh : List Int) (k : Nat) : List Int := has.take i ++ 0 :: ((List.zipWith (· + ·) (has.drop (i + 1)) (cameL (has.getD i 0) beh)).take k ++ (has.drop (i + 1)).drop k)
theorem mid_zero (has : List Int) (i : Nat) (beh : List Int) (hi : i < has.length) : midL has i beh 0 = has.set i 0 := by
  unfold midL
  rw [List.take_zero, List.nil_append, List.drop_zero]
  conv => rhs; rw [has_parts has i hi]
  rw [List.set_append_right _ _ (by rw [List.length_take]; omega), List.length_take, Nat.min_eq_left (by omega), Nat.sub_self]
  rfl
theorem mid_len (has : List Int) (i : Nat) (beh : List Int) (k : Nat) (hi : i < has.length) (hb : beh.length = has.length - (i + 1)) (hk : k ≤ beh.length) : (midL has i beh k).length = has.length := by
  unfold midL
  simp [came_len]
  omega
theorem mid_at (has : List Int) (i : Nat) (beh : List Int) (k : Nat) (hi : i < has.length) (hb : beh.length = has.length - (i + 1)) (hk : k < beh.length) : (midL has i beh k).getD (i + 1 + k) 0 = (has.drop (i + 1)).getD k 0 := by
  unfold midL
  have hz : (List.zipWith (· + ·) (has.drop (i + 1)) (cameL (has.getD i 0) beh)).length = beh.length := by simp [came_len]; omega
  rw [List.getD_eq_getElem?_getD, List.getElem?_append_right (by rw [List.length_take]; omega), List.length_take, Nat.min_eq_left (by omega), show i + 1 + k - i = k + 1 by omega, List.getElem?_cons_succ, List.getElem?_append_right (by rw [List.length_take, hz]; omega), List.length_take, hz, Nat.min_eq_left (by omega), Nat.sub_self, List.getElem?_drop, ← List.getD_eq_getElem?_getD]
  rfl
theorem mid_next (has : List Int) (i : Nat) (beh : List Int) (k : Nat) (hi : i < has.length) (hb : beh.length = has.length - (i + 1)) (hk : k < beh.length) : (midL has i beh k).set (i + 1 + k) ((has.drop (i + 1)).getD k 0 + shareI (has.getD i 0) beh k) = midL has i beh (k + 1) := by
  have hz : (List.zipWith (· + ·) (has.drop (i + 1)) (cameL (has.getD i 0) beh)).length = beh.length := by simp [came_len]; omega
  have hd : (has.drop (i + 1)).length = beh.length := by rw [List.length_drop, hb]
  have e1 : (List.zipWith (· + ·) (has.drop (i + 1)) (cameL (has.getD i 0) beh)).take (k + 1) = (List.zipWith (· + ·) (has.drop (i + 1)) (cameL (has.getD i 0) beh)).take k ++ [(has.drop (i + 1)).getD k 0 + shareI (has.getD i 0) beh k] := by
    rw [List.take_succ_eq_append_getElem (by rw [hz]; exact hk)]
    congr 2
    have q : (has.drop (i + 1)).getD k 0 = (has.drop (i + 1))[k]'(by rw [hd]; exact hk) := by
      rw [List.getD_eq_getElem?_getD, List.getElem?_eq_getElem (by rw [hd]; exact hk)]; rfl
    rw [q, List.getElem_zipWith]
    simp [cameL]
  have e2 : (has.drop (i + 1)).drop k = (has.drop (i + 1)).getD k 0 :: (has.drop (i + 1)).drop (k + 1) := by
    rw [List.drop_eq_getElem_cons (by rw [hd]; exact hk), List.getD_eq_getElem?_getD, List.getElem?_eq_getElem (by rw [hd]; exact hk)]
    rfl
  unfold midL
  rw [e1, e2, List.set_append_right _ _ (by rw [List.length_take]; omega), List.length_take, Nat.min_eq_left (by omega), show i + 1 + k - i = k + 1 by omega, List.set_cons_succ, List.set_append_right _ _ (by rw [List.length_take, hz]; omega), List.length_take, hz, Nat.min_eq_left (by omega), Nat.sub_self, List.set_cons_zero, List.append_assoc]
  rfl
theorem mid_all (has : List Int) (i : Nat) (beh : List Int) (hb : beh.length = has.length - (i + 1)) (hp : beh.any posB = true) : midL has i beh beh.length = downL has i beh := by
  have hz : (List.zipWith (· + ·) (has.drop (i + 1)) (cameL (has.getD i 0) beh)).length = beh.length := by simp [came_len]; omega
  have h1 : (List.zipWith (· + ·) (has.drop (i + 1)) (cameL (has.getD i 0) beh)).take beh.length = List.zipWith (· + ·) (has.drop (i + 1)) (cameL (has.getD i 0) beh) := List.take_of_length_le (by omega)
  have h2 : (has.drop (i + 1)).drop beh.length = [] := List.drop_eq_nil_of_le (by rw [List.length_drop]; omega)
  unfold midL downL
  rw [if_pos hp, h1, h2, List.append_nil]
end Go.Proofs.YtpkopanigeinpaaGreatDoor
