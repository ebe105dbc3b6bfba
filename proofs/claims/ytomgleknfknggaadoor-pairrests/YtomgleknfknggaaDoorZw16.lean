/-
  Whatever accounts, pairs, balances and currency, and the three tables that the rows list as the program lays them: daylaw3.PairRests returns true, and the arguments read behind the call as before.
-/
import Derived.Test.YtomgleknfknggaaDoorZw13
import Derived.Test.YtomgleknfknggaaDoorZw14
import Derived.Test.YtomgleknfknggaaDoorZw15
import Derived.Deep.QuietTactic
import Derived.BigQuiet
import Derived.Test.YtomgleknfknggaaDoorZw0
import Derived.Deep.Slices
import Derived.OpenShut
import Derived.Test.YtomgleknfknggaaDoorRows
import Derived.Test.YtomgleknfknggaaDoorCards
import Derived.Test.YtomgleknfknggaaDoorTie
import Derived.ChangeSame
import Derived.ChangeVars
import Derived.JoinedOf
import Derived.RowKit
import Derived.RowKitTokens
import Derived.LaidLaws
import Derived.LaidHandle
import Derived.Stop.Joined
import Derived.SevenTiedAt
import Derived.ProofKit
import Derived.Below
import Derived.ShutString
import Derived.ChangeOld
import Derived.SizedLaws
import Derived.Lib.LaidTab
import Derived.Stop.LaidErr
namespace Go.Proofs.YtomgleknfknggaaDoor
set_option linter.unusedVariables false
set_option linter.unusedSimpArgs false
set_option maxRecDepth 100000
open Go.RowKit Go.Lib Go.Maps Math

/-- The law's own pair, and its balances. -/
def pqP : Pr := ⟨1, 2, ⟨#[49, 48]⟩, ⟨#[50, 48]⟩, ⟨#[52, 48]⟩⟩
def pqB : Bl := ⟨1, ⟨#[49, 48]⟩, ⟨#[69, 85, 82]⟩, 8⟩
def pqC : Bl := ⟨2, ⟨#[50, 48]⟩, ⟨#[69, 85, 82]⟩, -5⟩
theorem pq_ok : lfE [pqP] [pqB, pqC] ⟨#[69, 85, 82]⟩ = 0 := by kernel_rfl
theorem pq_three : [pqP].map (lfV [pqB, pqC] ⟨#[69, 85, 82]⟩) = [3] := by kernel_rfl
theorem isBl_two {W : World} {b : Nat} {x y : Bl} (h : W.heap[b]? = some (.cells (x.cells ++ y.cells) 33 (0, 0))) : IsBl W (some ⟨b, 0, none⟩) [x, y] 2 := by
  refine ⟨Nat.le_refl _, .inr ⟨b, 0, rfl, (Array.getElem?_eq_some_iff.1 h).1, fun k hk => ?_⟩⟩
  rcases (by simp at hk; omega : k = 0 ∨ k = 1) with rfl | rfl
  · exact ⟨by simp [World.cell?, h, Bl.cells], by simp [World.cell?, h, Bl.cells], by simp [World.cell?, h, Bl.cells], by simp [World.cell?, h, Bl.cells]⟩
  · exact ⟨by simp [World.cell?, h, Bl.cells], by simp [World.cell?, h, Bl.cells], by simp [World.cell?, h, Bl.cells], by simp [World.cell?, h, Bl.cells]⟩
theorem pq_build_bl (x0 : Int) (x1 x2 : ByteArray) (x3 : Int) (w : World) : (Instr.build 33 #[(0, .int .i64 x0), (1, .string x1), (2, .string x2), (3, .int .i64 x3)]).run Tryd.prog w = .ok (.agg #[.int .i64 x0, .string x1, .string x2, .int .i64 x3]) w := by
  go_simp
theorem pq_more (en : Int) (ahd : List Bl) (l : List Ln) (j : Nat) (h : j < l.length) : putL [] (ahd ++ lnsBs en (l.take (j + 1))) = putB (putL [] (ahd ++ lnsBs en (l.take j))) (lnB en (l.getD j ln0)) := by
  rw [lns_take l j h]
  unfold lnsBs
  rw [List.map_append, ← List.append_assoc]
  unfold putL
  rw [List.foldl_append]
  rfl
/-- Is a pair ahead one whose Diff is one of both? -/
def dfTo (l : List Pr) (x y : ByteArray) : Nat → Bool
  | 0 => false
  | k + 1 => dfTo l x y k || decide ((l.getD k pr0).dif = x) || decide ((l.getD k pr0).dif = y)
theorem dfTo_none {l : List Pr} {x y : ByteArray} : ∀ {n : Nat}, dfTo l x y n = false → ∀ k, k < n → (l.getD k pr0).dif ≠ x ∧ (l.getD k pr0).dif ≠ y
  | 0, _, k, hk => by omega
  | n + 1, h, k, hk => by
    unfold dfTo at h
    simp only [Bool.or_eq_false_iff, decide_eq_false_iff_not] at h
    by_cases e : k = n
    · subst e; exact ⟨h.1.2, h.2⟩
    · exact dfTo_none h.1.1 k (by omega)

set_option maxHeartbeats 16000000 in
theorem prests_walk (a a1 a2 : Option Addr) (cap cap1 cap2 : Nat) (c : List Ac) (l : List Pr) (b : List Bl) (cur : ByteArray) (w : World) (h : IsSl w a c cap) (hl : IsPr w a1 l cap1) (hll : l.length ≤ 9223372036854775807) (hlo : ∀ x ∈ l, PrOk x) (hb : IsBl w a2 b cap2) (hbl : b.length ≤ 9223372036854775807) (hbo : ∀ x ∈ b, BlOk x) :
    Calls Tryd.prog 3 #[.slice a c.length cap, .slice a1 l.length cap1, .slice a2 b.length cap2, .string cur] w fun e w' => e = .returned (.bool true) ∧ Below w.heap.size w w' := by
  have HPr : Hid (IsPr w a1 l cap1) := hl
  have HB : Hid (IsBl w a2 b cap2) := hb
  have HBo : Hid (∀ x ∈ b, BlOk x) := hbo
  have HLo : Hid (∀ x ∈ l, PrOk x) := hlo
  have HEn : Hid (∀ W, Below w.heap.size w W → Calls Tryd.prog 5 #[.slice a c.length cap, .slice a1 l.length cap1, .slice a2 b.length cap2, .string cur, .int .i64 3] W (PeEnd c l b cur 3 W)) := fun W hW => peEntries_any a a1 a2 cap cap1 cap2 c l b cur 3 W (h.below hW) (hl.below hW) hll (hb.below hW) hbl
  have HLf : Hid (∀ W a' c' (R : List Bl), Below w.heap.size w W → IsBl W a' R c' → R.length ≤ 9223372036854775807 → Calls Tryd.prog 4 #[.slice a1 l.length cap1, .slice a' R.length c', .string cur] W (LeftEnd l R cur W)) := fun W a' c' R hW hR hRl => left_any a1 a' cap1 c' l R cur W (hl.below hW) hll hR hRl
  obtain ⟨w0, hw0⟩ : ∃ w0, (w.alloc (.cells #[.int .i64 1, .int .i64 2, .string ⟨#[49, 48]⟩, .string ⟨#[50, 48]⟩, .string ⟨#[52, 48]⟩] 26)).alloc (.cells #[.int .i64 1, .string ⟨#[49, 48]⟩, .string ⟨#[69, 85, 82]⟩, .int .i64 8, .int .i64 2, .string ⟨#[50, 48]⟩, .string ⟨#[69, 85, 82]⟩, .int .i64 (-5)] 33) = w0 := ⟨_, rfl⟩
  have b1 : Below w.heap.size w (w.alloc (.cells #[.int .i64 1, .int .i64 2, .string ⟨#[49, 48]⟩, .string ⟨#[50, 48]⟩, .string ⟨#[52, 48]⟩] 26)) := (Below.refl _ w).alloc (Nat.le_refl _) _
  have b2 : Below w.heap.size w w0 := by rw [← hw0]; exact b1.alloc b1.size _
  have hs0 : w0.heap.size = w.heap.size + 2 := by rw [← hw0]; simp
  have hp1 : IsPr w0 (some ⟨w.heap.size, 0, none⟩) [pqP] 1 := by
    refine isPr_one ?_ (by omega)
    rw [← hw0]
    exact (PrAt.new w pqP 26).below ((Below.refl _ _).alloc (Nat.le_refl _) _) (by simp)
  have hq1 : IsBl w0 (some ⟨w.heap.size + 1, 0, none⟩) [pqB, pqC] 2 := by
    refine isBl_two ?_
    have e : (w.alloc (.cells #[.int .i64 1, .int .i64 2, .string ⟨#[49, 48]⟩, .string ⟨#[50, 48]⟩, .string ⟨#[52, 48]⟩] 26)).heap.size = w.heap.size + 1 := by simp
    rw [← hw0, ← e]
    exact World.alloc_heap_new _ _
  have HF : Hid (Calls Tryd.prog 4 #[.slice (some ⟨w.heap.size, 0, none⟩) 1 1, .slice (some ⟨w.heap.size + 1, 0, none⟩) 2 2, .string ⟨#[69, 85, 82]⟩] w0 fun e w' => ∃ g, e = .returned (.tuple #[.slice (some ⟨g, 0, none⟩) 1 1, .nilIface]) ∧ w'.cell? ⟨g, 0, none⟩ = some (.int .i64 3) ∧ Below w.heap.size w w') := by
    refine (left_any _ _ 1 2 [pqP] [pqB, pqC] ⟨#[69, 85, 82]⟩ w0 hp1 (by simp) hq1 (by simp)).mono ?_
    rintro e w' ⟨z1, _, z3⟩
    obtain ⟨g, rfl, _, hr⟩ := z3 pq_ok
    rw [pq_three] at hr
    exact ⟨g, rfl, hr.cell (i := 0) (by simp), b2.trans (z1.mono b2.size)⟩
  have HW0 : Hid (_ = w0) := hw0
  clear hw0 b1 b2 hs0 hp1 hq1 h hl hb hbo hlo
  go_enter Tryd.func3, Tryd.ntmps3
  go_upto_region 2 with fail
  go_wp2_with fail
  rw [HW0.out]
  refine HF.out.mono ?_
  rintro e w3 ⟨g, rfl, hc8, hb3⟩
  have HB3 : Hid (Below w.heap.size w w3) := hb3
  clear HF hb3 HW0
  have HE0 : Hid (Calls _ _ _ _ _) := HEn.out w3 HB3.out
  clear HEn
  by_cases c1 : peBad c l b cur 3 ≠ 0
  · have HE : Hid (Calls Tryd.prog 5 #[.slice a c.length cap, .slice a1 l.length cap1, .slice a2 b.length cap2, .string cur, .int .i64 3] w3 fun e w' => e = .returned (.tuple #[.slice none 0 0, .iface 49 (.int .i64 (peBad c l b cur 3))]) ∧ Below w.heap.size w w') := by
      refine HE0.out.mono ?_
      rintro e w' ⟨z1, z2, _⟩
      exact ⟨by rw [z2 c1, chE_ne c1], HB3.out.trans (z1.mono HB3.out.size)⟩
    generalize peBad c l b cur 3 = z at HE
    clear c1 HE0
    go_wp2_with fail
    refine HE.out.mono ?_
    rintro e w4 ⟨rfl, hb4⟩
    have HB4 : Hid (Below w.heap.size w w4) := hb4
    clear HE hb4
    go_wp2
    go_ret
    exact ⟨rfl, HB4.out⟩
  have c1' := Decidable.of_not_not c1
  have HOne : Hid (peBad c l b cur 3 = 0) := c1'
  have HE : Hid (Calls Tryd.prog 5 #[.slice a c.length cap, .slice a1 l.length cap1, .slice a2 b.length cap2, .string cur, .int .i64 3] w3 fun e w' => ∃ va vc L, e = .returned (.tuple #[.slice va L.length vc, .nilIface]) ∧ IsJs w' va L vc ∧ L.map Je.ep = peTo b cur 3 l (l.length * 2) ∧ L.length ≤ 40 ∧ Below w.heap.size w w') := by
    refine HE0.out.mono ?_
    rintro e w' ⟨z1, _, z3⟩
    obtain ⟨v, L, rfl, hm, hL, hl⟩ := z3 c1'
    obtain ⟨va, vc, rfl, hjs⟩ := hm.isJs
    exact ⟨va, vc, L, rfl, hjs, hL, hl, HB3.out.trans (z1.mono HB3.out.size)⟩
  have l20 : l.length ≤ 20 := (prsBad_ok (peBad_ok c1').1).2.1
  have l20i : (l.length : Int) ≤ 20 := by omega
  clear c1 c1' HE0
  go_wp2_with fail
  refine HE.out.mono ?_
  rintro e w4 ⟨va, vc, L, rfl, hjs, hL, hL40, hb4⟩
  have HM : Hid (L.flatMap jeB = pmTo b cur l (l.length * 2)) := pe_lines hL
  have HPk : Hid (PutOk (L.flatMap jeB)) := by rw [HM.out]; exact pmTo_ok HOne.out HLo.out
  have v2 := pe_even HOne.out hL
  have HJ : Hid (IsJs w4 va L vc) := hjs
  have HB4 : Hid (Below w.heap.size w w4) := hb4
  have HZr : Hid (Calls Tryd.prog 6 #[.slice va L.length vc] w4 fun e w' => e = .returned (.bool true) ∧ Below w4.heap.size w4 w') := zero_any va vc L w4 (by omega) hjs v2
  obtain ⟨ln, hln⟩ : ∃ ln, L.length = ln := ⟨_, rfl⟩
  have Hln : Hid (L.length = ln) := hln
  rw [hln] at hL40 HZr ⊢
  have i3 : (ln : Int) ≤ 40 := by omega
  clear HE hjs hL hb4 hln HB3 v2 hc8 HLo
  go_wp2_with fail
  refine HZr.out.mono ?_
  rintro e w5 ⟨rfl, hb5⟩
  have HB5 : Hid (Below w.heap.size w w5) := HB4.out.trans (hb5.mono HB4.out.size)
  have HJ5 : Hid (IsJs w5 va L vc) := HJ.out.below hb5
  clear HZr hb5 HB4 HJ
  go_wp2
  go_loopw [15, 16] (fun v i wr => ∃ (k : Nat) (sa : Option Addr) (sn sc : Nat), k ≤ ln ∧ i = .int .i64 k ∧ v = .slice sa sn sc ∧ Hid (BlRow wr w5.heap.size (.slice sa sn sc) (putL [] ((L.take k).flatMap jeB)) ∧ Below w5.heap.size w5 wr)) (fun _ i _ => ln - (RowKit.intOf i).toNat)
  case atStart => exact ⟨0, none, 0, 0, Nat.zero_le _, rfl, rfl, BlRow.nil _ _, Below.refl _ _⟩
  case round =>
    obtain ⟨k, sa, sn, sc, hk, rfl, rfl, HR⟩ := hrel
    by_cases hkl : k < ln
    · have hjk : k < L.length := by rw [Hln.out]; exact hkl
      rcases HJ5.out.lies with h0 | ⟨jb, jo, hva, hjb, hat⟩
      · rw [h0] at hjk; simp at hjk
      subst hva
      have HA : Hid (∀ W, Below w5.heap.size w5 W → W.cell? ⟨jb, jo + k * 4 + 1, none⟩ = some (.int .i64 (L.getD k je0).ent) ∧ W.cell? ⟨jb, jo + k * 4 + 3, none⟩ = some (.slice (L.getD k je0).adr (L.getD k je0).lns.length (L.getD k je0).cap) ∧ IsLn W (L.getD k je0).adr (L.getD k je0).lns (L.getD k je0).cap) := fun W hW => by
        have h1 := (hat k hjk).below hW hjb
        have h2 := h1.c1
        exact ⟨h2, h1.c3, (HJ5.out.lns _ (jes_mem L k hjk)).below hW⟩
      have HTk : Hid ((L.take (k + 1)).flatMap jeB = (L.take k).flatMap jeB ++ lnsBs (L.getD k je0).ent (L.getD k je0).lns) := by
        rw [jes_take L k hjk]; unfold Hid; rw [List.flatMap_append]; simp [jeB]
      have HSub : Hid (PutOk ((L.take k).flatMap jeB ++ lnsBs (L.getD k je0).ent (L.getD k je0).lns)) := by
        rw [← HTk.out]
        have e : L.flatMap jeB = (L.take (k + 1)).flatMap jeB ++ (L.drop (k + 1)).flatMap jeB := by
          rw [← List.flatMap_append, List.take_append_drop]
        have q := HPk.out
        rw [e] at q
        exact ⟨by have := q.len; rw [List.length_append] at this; omega, fun x hx => q.amt x (List.mem_append_left _ hx), fun x hx => q.key x (List.mem_append_left _ hx)⟩
      have j0 : (0 : Int) ≤ k := by omega
      have j1 : (k : Int) < ln := by omega
      clear hat
      generalize L.getD k je0 = je at *
      generalize (L.take k).flatMap jeB = ahd at *
      have HSt : Hid (∀ j, j < je.lns.length → putL [] (ahd ++ lnsBs je.ent (je.lns.take (j + 1))) = putB (putL [] (ahd ++ lnsBs je.ent (je.lns.take j))) (lnB je.ent (je.lns.getD j ln0)) ∧ (putL [] (ahd ++ lnsBs je.ent (je.lns.take j))).length ≤ 400 ∧ (∀ y ∈ putL [] (ahd ++ lnsBs je.ent (je.lns.take j)), y.key = (lnB je.ent (je.lns.getD j ln0)).key → -9223372036854775808 ≤ y.amt + (lnB je.ent (je.lns.getD j ln0)).amt ∧ y.amt + (lnB je.ent (je.lns.getD j ln0)).amt ≤ 9223372036854775807)) := fun j hj => by
        have hsub : PutOk (ahd ++ lnsBs je.ent (je.lns.take j)) := by
          have := HSub.out.take (ahd.length + j)
          rw [List.take_append, List.take_of_length_le (by omega), show ahd.length + j - ahd.length = j by omega] at this
          unfold lnsBs at this ⊢
          rw [← List.map_take] at this
          exact this
        refine ⟨pq_more je.ent ahd je.lns j hj, ?_, put_next hsub ?_⟩
        · have := putL_length (ahd ++ lnsBs je.ent (je.lns.take j)) []
          have h2 := hsub.len
          simp only [List.length_nil] at this
          omega
        · exact HSub.out.amt (lnB je.ent (je.lns.getD j ln0)) (List.mem_append_right _ (List.mem_map.2 ⟨_, lns_mem je.lns j hj, rfl⟩))
      obtain ⟨wo, hwo⟩ : ∃ wo, wo = wr := ⟨_, rfl⟩
      subst hwo
      have HFirst : Hid (BlRow wo w5.heap.size (.slice sa sn sc) (putL [] (ahd ++ lnsBs je.ent (je.lns.take 0))) ∧ Below w5.heap.size w5 wo) := by
        have := HR.out
        rw [List.take_zero]
        unfold lnsBs
        rw [List.map_nil, List.append_nil]
        exact this
      obtain ⟨jr, jen, jpe, lad, lcp, lns⟩ := je
      simp only at HA HSt HFirst HTk HSub
      obtain ⟨_, f3, _⟩ := HA.out wo HR.out.2
      have l20 : lns.length ≤ 150 := by
        have := HSub.out.len
        unfold lnsBs at this
        rw [List.length_append, List.length_map] at this
        omega
      have i6 : (lns.length : Int) ≤ 150 := by omega
      clear HR
      go_wp2
      go_loopw [15, 17] (fun v i wr => ∃ (j : Nat) (sa : Option Addr) (sn sc : Nat), j ≤ lns.length ∧ i = .int .i64 j ∧ v = .slice sa sn sc ∧ Hid (BlRow wr w5.heap.size (.slice sa sn sc) (putL [] (ahd ++ lnsBs jen (lns.take j))) ∧ Below w5.heap.size w5 wr)) (fun _ i _ => lns.length - (RowKit.intOf i).toNat)
      case atStart => exact ⟨0, sa, sn, sc, Nat.zero_le _, rfl, rfl, HFirst⟩
      case round =>
        obtain ⟨j, sa, sn, sc, hj, rfl, rfl, HR⟩ := hrel
        clear f3
        obtain ⟨f1, f3, hli⟩ := HA.out wr HR.out.2
        by_cases hjl : j < lns.length
        · rcases hli.lies with h0 | ⟨lb, lo, hla, hlb, hlat⟩
          · rw [h0] at hjl; simp at hjl
          subst hla
          have hy := hlat j hjl
          obtain ⟨st1, st2, st3⟩ := HSt.out j hjl
          obtain ⟨r1, r2⟩ := HR.out
          obtain ⟨hsn, hib⟩ := BlRow.isBl' r1
          obtain ⟨Z, hZ⟩ : ∃ Z, wr.alloc (.cells (lns.getD j ln0).cells 42) = Z := ⟨_, rfl⟩
          have x0 : Below wr.heap.size wr Z := by rw [← hZ]; exact (Below.refl _ wr).alloc (Nat.le_refl _) _
          have x0d : Below wr.heap.size wr Z.drew := x0.drew
          have x1 : Below w5.heap.size w5 Z.drew := r2.trans (x0d.mono r2.size)
          have hsz : wr.heap.size < Z.heap.size := by rw [← hZ]; simp
          have hnw : LnAt Z wr.heap.size 0 (lns.getD j ln0) := by rw [← hZ]; exact LnAt.new wr (lns.getD j ln0) 42
          have hZd : Below Z.heap.size Z Z.drew := (Below.refl _ Z).drew
          have HCell : Hid (∀ u, Below Z.drew.heap.size Z.drew u → u.cell? ⟨jb, jo + k * 4 + 1, none⟩ = some (.int .i64 jen) ∧ LnAt u wr.heap.size 0 (lns.getD j ln0)) := fun u hu => ⟨(HA.out u (x1.trans (hu.mono x1.size))).1, (hnw.below hZd hsz).below hu hsz⟩
          have HPu : Hid (Calls Tryd.prog 7 #[.slice sa sn sc, .agg (lnB jen (lns.getD j ln0)).cells] Z.drew fun e w' => ∃ ta tn tc, e = .returned (.slice ta tn tc) ∧ BlRow w' w5.heap.size (.slice ta tn tc) (putL [] (ahd ++ lnsBs jen (lns.take (j + 1)))) ∧ Below w5.heap.size w5 w') := by
            have := lmPut_any sa sc (putL [] (ahd ++ lnsBs jen (lns.take j))) (lnB jen (lns.getD j ln0)) Z.drew st2 (hib.below x0d) st3
            rw [← hsn] at this
            refine this.mono ?_
            rintro e w' ⟨v, rfl, hh⟩
            obtain ⟨z1, z2⟩ := hh.out
            obtain ⟨ta, tc, ev, _⟩ := z1.isBl
            subst ev
            refine ⟨ta, _, tc, rfl, ?_, x1.trans (z2.mono x1.size)⟩
            rw [st1]
            exact z1.mono x1.size
          have HZ : Hid (wr.alloc (.cells (lns.getD j ln0).cells 42) = Z) := hZ
          clear st1 st2 st3 r1 r2 hsn hib x0 x0d x1 HR hli hlat hZ hsz hZd hnw f1
          generalize lns.getD j ln0 = y at *
          obtain ⟨y0, y1, y2⟩ := y
          obtain ⟨g0, g1, g2⟩ := hy
          simp only [Ln.cells, Bl.cells, lnB, Nat.zero_add] at g0 g1 g2 HPu HZ HCell
          have m0 : (0 : Int) ≤ j := by omega
          have m1 : (j : Int) < lns.length := by omega
          clear HSt HTk HSub HFirst HA
          go_upto_region 17 with fail
          rw [HZ.out]
          clear HZ g0 g1 g2 f3
          refine wp_region_drawn (by kernel_rfl) ?_
          generalize Z.drew = U at *
          refine wpAny_take (i := 0) (v := .slice sa sn sc) rfl (by kernel_rfl) (by kernel_rfl) (by kernel_rfl) (fun _ _ _ h => h) (Or.inl ⟨by rfl, fun w => by go_simp⟩) ?_
          simp only [Act.put, List.getElem_toArray, List.getElem_cons_succ, List.getElem_cons_zero, List.setIfInBounds_toArray, List.set_cons_zero, List.set_cons_succ]
          refine wpAny_take (i := 1) (v := .slice (some ⟨jb, jo, none⟩) ln vc) rfl (by kernel_rfl) (by kernel_rfl) (by kernel_rfl) (fun _ _ _ h => h) (Or.inl ⟨by rfl, fun w => by go_simp⟩) ?_
          simp only [Act.put, List.getElem_toArray, List.getElem_cons_succ, List.getElem_cons_zero, List.setIfInBounds_toArray, List.set_cons_zero, List.set_cons_succ]
          refine wpAny_take (i := 2) (v := .int .i64 k) rfl (by kernel_rfl) (by kernel_rfl) (by kernel_rfl) (fun _ _ _ h => h) (Or.inl ⟨by rfl, fun w => by go_simp⟩) ?_
          simp only [Act.put, List.getElem_toArray, List.getElem_cons_succ, List.getElem_cons_zero, List.setIfInBounds_toArray, List.set_cons_zero, List.set_cons_succ]
          refine wpAny_take (i := 3) (v := .pointer (some ⟨jb, jo + k * 4, none⟩)) rfl (by kernel_rfl) (by kernel_rfl) (by kernel_rfl) (fun _ _ _ h => h) (Or.inl ⟨by rfl, fun w => by go_simp⟩) ?_
          simp only [Act.put, List.getElem_toArray, List.getElem_cons_succ, List.getElem_cons_zero, List.setIfInBounds_toArray, List.set_cons_zero, List.set_cons_succ]
          refine wpAny_take (i := 4) (v := .pointer (some ⟨jb, jo + k * 4 + 1, none⟩)) rfl (by kernel_rfl) (by kernel_rfl) (by kernel_rfl) (fun _ _ _ h => h) (Or.inl ⟨by rfl, fun w => by go_simp⟩) ?_
          simp only [Act.put, List.getElem_toArray, List.getElem_cons_succ, List.getElem_cons_zero, List.setIfInBounds_toArray, List.set_cons_zero, List.set_cons_succ]
          refine wpAny_take (i := 6) (v := .pointer (some ⟨wr.heap.size, 0, none⟩)) rfl (by kernel_rfl) (by kernel_rfl) (by kernel_rfl) (fun _ _ _ h => h) (Or.inl ⟨by rfl, fun w => by go_simp⟩) ?_
          simp only [Act.put, List.getElem_toArray, List.getElem_cons_succ, List.getElem_cons_zero, List.setIfInBounds_toArray, List.set_cons_zero, List.set_cons_succ]
          refine wpAny_take (i := 8) (v := .pointer (some ⟨wr.heap.size, 1, none⟩)) rfl (by kernel_rfl) (by kernel_rfl) (by kernel_rfl) (fun _ _ _ h => h) (Or.inl ⟨by rfl, fun w => by go_simp⟩) ?_
          simp only [Act.put, List.getElem_toArray, List.getElem_cons_succ, List.getElem_cons_zero, List.setIfInBounds_toArray, List.set_cons_zero, List.set_cons_succ]
          refine wpAny_take (i := 10) (v := .pointer (some ⟨wr.heap.size, 2, none⟩)) rfl (by kernel_rfl) (by kernel_rfl) (by kernel_rfl) (fun _ _ _ h => h) (Or.inl ⟨by rfl, fun w => by go_simp⟩) ?_
          simp only [Act.put, List.getElem_toArray, List.getElem_cons_succ, List.getElem_cons_zero, List.setIfInBounds_toArray, List.set_cons_zero, List.set_cons_succ]
          refine any_of_L (g := 13) (T := fun u => Below U.heap.size U u) _ _ _ _ ?_
          refine L_takeC [13, 12] (i := 5) (v := .int .i64 jen) rfl (by kernel_rfl) (by kernel_rfl) (by decide) (by kernel_rfl) (by kernel_rfl) (by kernel_rfl) (by kernel_rfl) (fun _ _ _ h => h) (Or.inl ⟨by rfl, fun w' hw' => by have c0 := (HCell.out w' hw').1; clear hw'; go_simp⟩) (Below.refl _ _) ?_
          simp only [Act.put, List.getElem_toArray, List.getElem_cons_succ, List.getElem_cons_zero, List.setIfInBounds_toArray, List.set_cons_zero, List.set_cons_succ]
          refine L_takeC [13, 12] (i := 7) (v := .string y0) rfl (by kernel_rfl) (by kernel_rfl) (by decide) (by kernel_rfl) (by kernel_rfl) (by kernel_rfl) (by kernel_rfl) (fun _ _ _ h => h) (Or.inl ⟨by rfl, fun w' hw' => by have c0 := (HCell.out w' hw').2.c0; clear hw'; simp only [Nat.zero_add] at c0; go_simp⟩) (Below.refl _ _) ?_
          simp only [Act.put, List.getElem_toArray, List.getElem_cons_succ, List.getElem_cons_zero, List.setIfInBounds_toArray, List.set_cons_zero, List.set_cons_succ]
          refine L_takeC [13, 12] (i := 9) (v := .string y1) rfl (by kernel_rfl) (by kernel_rfl) (by decide) (by kernel_rfl) (by kernel_rfl) (by kernel_rfl) (by kernel_rfl) (fun _ _ _ h => h) (Or.inl ⟨by rfl, fun w' hw' => by have c0 := (HCell.out w' hw').2.c1; clear hw'; simp only [Nat.zero_add] at c0; go_simp⟩) (Below.refl _ _) ?_
          simp only [Act.put, List.getElem_toArray, List.getElem_cons_succ, List.getElem_cons_zero, List.setIfInBounds_toArray, List.set_cons_zero, List.set_cons_succ]
          refine L_takeC [13, 12] (i := 11) (v := .int .i64 y2) rfl (by kernel_rfl) (by kernel_rfl) (by decide) (by kernel_rfl) (by kernel_rfl) (by kernel_rfl) (by kernel_rfl) (fun _ _ _ h => h) (Or.inl ⟨by rfl, fun w' hw' => by have c0 := (HCell.out w' hw').2.c2; clear hw'; simp only [Nat.zero_add] at c0; go_simp⟩) (Below.refl _ _) ?_
          simp only [Act.put, List.getElem_toArray, List.getElem_cons_succ, List.getElem_cons_zero, List.setIfInBounds_toArray, List.set_cons_zero, List.set_cons_succ]
          refine L_takeC [13] (i := 12) (v := .agg #[.int .i64 jen, .string y0, .string y1, .int .i64 y2]) rfl (by kernel_rfl) (by kernel_rfl) (by decide) (by kernel_rfl) (by kernel_rfl) (by kernel_rfl) (by kernel_rfl) (fun _ _ _ h => h) ?_ (Below.refl _ _) ?_
          · exact yields_build_run (by rfl) 33 _ (by rfl) #[(0, .int .i64 jen), (1, .string y0), (2, .string y1), (3, .int .i64 y2)] (by simp [Act.eval]) (fun w' _ => pq_build_bl _ _ _ _ w')
          simp only [Act.put, List.getElem_toArray, List.getElem_cons_succ, List.getElem_cons_zero, List.setIfInBounds_toArray, List.set_cons_zero, List.set_cons_succ]
          clear HCell
          refine L_go (by kernel_rfl) (by kernel_rfl) ?_
          refine wpOp_step rfl ?_
          intro K hK
          rw [if_pos (by rfl)]
          have hK' : Shut (∀ a w, _ → K a w) := hK
          clear hK
          go_wp2_with fail
          refine HPu.out.mono ?_
          rintro e w6 ⟨ta, tn, tc, rfl, z1, z2⟩
          have HR6 : Hid (BlRow w6 w5.heap.size (.slice ta tn tc) (putL [] (ahd ++ lnsBs jen (lns.take (j + 1)))) ∧ Below w5.heap.size w5 w6) := ⟨z1, z2⟩
          clear HPu z1 z2
          refine hK'.out _ _ ?_
          clear hK' K
          try simp only [Act.put, List.getElem_toArray, List.getElem_cons_succ, List.getElem_cons_zero, List.setIfInBounds_toArray, List.set_cons_zero, List.set_cons_succ]
          refine wpAny_take (i := 14) (v := .slice ta tn tc) rfl (by kernel_rfl) (by kernel_rfl) (by kernel_rfl) (fun _ _ _ h => h) (Or.inl ⟨by rfl, fun w => by go_simp⟩) ?_
          simp only [Act.put, List.getElem_toArray, List.getElem_cons_succ, List.getElem_cons_zero, List.setIfInBounds_toArray, List.set_cons_zero, List.set_cons_succ]
          refine wpAny_done (by kernel_rfl) ?_ _
          go_wp2
          go_roundw
          case rel => exact ⟨j + 1, ta, tn, tc, by omega, by go_num, rfl, HR6⟩
          case measure => simp [RowKit.intOf]; omega
        · have ej : j = lns.length := by omega
          subst ej
          have HR6 : Hid (BlRow wr w5.heap.size (.slice sa sn sc) (putL [] ((L.take (k + 1)).flatMap jeB)) ∧ Below w5.heap.size w5 wr) := by
            have := HR.out
            rw [List.take_length] at this
            rw [HTk.out]
            exact this
          have m1 : ¬ (lns.length : Int) < lns.length := by omega
          clear HR HSt HTk HSub HFirst HA hli f1
          go_wp2
          go_roundw
          case rel => exact ⟨k + 1, sa, sn, sc, by omega, by go_num, rfl, HR6⟩
          case measure => simp [RowKit.intOf]; omega
    · have ek : k = ln := by omega
      subst ek
      obtain ⟨r1, r2⟩ := HR.out
      have hLn := Hln.out
      rw [List.take_of_length_le (by omega)] at r1
      obtain ⟨hsn, hib⟩ := BlRow.isBl' r1
      rw [HM.out] at r1 hsn hib HPk
      obtain ⟨M, hM⟩ : ∃ M, pmTo b cur l (l.length * 2) = M := ⟨_, rfl⟩
      have HGo : Hid (∀ R, mgE b (full (putL [] M)) = 0 → MgR b (full (putL [] M)) R → (lfE l R cur = 0 ∧ ∀ i, i < l.length → (∀ k, k < l.length → (l.getD k pr0).dif ≠ (l.getD i pr0).one ∧ (l.getD k pr0).dif ≠ (l.getD i pr0).oth) → getB R (l.getD i pr0).ea (l.getD i pr0).one cur = 0 ∧ getB R (l.getD i pr0).eb (l.getD i pr0).oth cur = 0) ∧ R.length ≤ 9223372036854775807) := fun R h1 h2 => by
        rw [← hM] at h1 h2
        exact ⟨pq_rests HOne.out h1 h2, by have := h2.len; omega⟩
      rw [hM] at r1 hsn hib HPk
      have hbw : Below w.heap.size w wr := HB5.out.trans (r2.mono HB5.out.size)
      have hlen4 : (putL [] M).length ≤ 400 := by
        have := putL_length M []
        have h2 := HPk.out.len
        simp only [List.length_nil] at this
        omega
      have HFu : Hid (Calls Tryd.prog 9 #[.slice sa sn sc] wr fun e w' => ∃ ta tc, e = .returned (.slice ta (full (putL [] M)).length tc) ∧ IsBl w' ta (full (putL [] M)) tc ∧ Below w.heap.size w w') := by
        have := lmFull_any sa sc (putL [] M) wr hlen4 hib
        rw [← hsn] at this
        refine this.mono ?_
        rintro e w' ⟨v, rfl, hh⟩
        obtain ⟨z1, z2⟩ := hh.out
        obtain ⟨ta, tc, ev, hi⟩ := z1.isBl
        subst ev
        exact ⟨ta, tc, rfl, hi, hbw.trans (z2.mono hbw.size)⟩
      have hfl : (full (putL [] M)).length ≤ 9223372036854775807 := by
        have := List.length_filter_le (fun x : Bl => x.amt != 0) (putL [] M)
        have e : (full (putL [] M)).length ≤ (putL [] M).length := this
        omega
      have HMo : Hid (∀ x ∈ full (putL [] M), BlOk x) := put_ok HPk.out
      have j1 : ¬ (k : Int) < k := by omega
      clear r1 r2 hsn hib HR hM HM HPk hLn hlen4 HJ5 HB5
      go_wp2_with fail
      refine HFu.out.mono ?_
      rintro e w6 ⟨ta, tc, rfl, hif, hb6⟩
      have HIF : Hid (IsBl w6 ta (full (putL [] M)) tc) := hif
      have HB6 : Hid (Below w.heap.size w w6) := hb6
      clear HFu hif hb6 hbw
      generalize full (putL [] M) = F at *
      by_cases c2 : mgE b F ≠ 0
      · have HMg : Hid (Calls _ _ _ _ _) := merge_bad a2 ta cap2 tc b F w6 (HB.out.below HB6.out) HIF.out hbl hfl HBo.out HMo.out c2
        generalize mgE b F = z at HMg
        clear HGo c2 HMo HBo
        go_wp2_with fail
        refine HMg.out.mono ?_
        rintro e w7 ⟨rfl, hb7⟩
        have HB7 : Hid (Below w.heap.size w w7) := HB6.out.trans (hb7.mono HB6.out.size)
        clear HMg hb7
        go_wp2
        go_ret
        exact ⟨rfl, HB7.out⟩
      have c2' := Decidable.of_not_not c2
      have HMg : Hid (Calls _ _ _ _ _) := merge_ok a2 ta cap2 tc b F w6 (HB.out.below HB6.out) HIF.out HBo.out HMo.out c2'
      go_wp2_with fail
      refine HMg.out.mono ?_
      rintro e w7 ⟨ra, rc, R, rfl, hh⟩
      obtain ⟨hb7, hir, hmr⟩ := hh.out
      obtain ⟨⟨t1, t2⟩, t3⟩ := HGo.out R c2' hmr
      have hbw7 := HB6.out.trans (hb7.mono HB6.out.size)
      have HE2 : Hid (Calls Tryd.prog 4 #[.slice a1 l.length cap1, .slice ra R.length rc, .string cur] w7 fun e w' => ∃ g, e = .returned (.tuple #[.slice (some ⟨g, 0, none⟩) l.length l.length, .nilIface]) ∧ Hid (NRow w' g (l.map (lfV R cur)) ∧ IsBl w' ra R rc ∧ Below w.heap.size w w')) := by
        refine (HLf.out w7 ra rc R hbw7 hir t3).mono ?_
        rintro e w' ⟨z1, _, z3⟩
        obtain ⟨g, rfl, _, hr⟩ := z3 t1
        exact ⟨g, rfl, hr, hir.below z1, hbw7.trans (z1.mono hbw7.size)⟩
      have HT : Hid (∀ i, i < l.length → dfTo l (l.getD i pr0).one (l.getD i pr0).oth l.length = false → (l.map (lfV R cur)).getD i 0 = 0 ∧ getB R (l.getD i pr0).ea (l.getD i pr0).one cur = 0 ∧ getB R (l.getD i pr0).eb (l.getD i pr0).oth cur = 0) := fun i hi hd => by
        obtain ⟨y1, y2⟩ := t2 i hi (fun k hk => dfTo_none hd k hk)
        refine ⟨?_, y1, y2⟩
        have e : (l.map (lfV R cur)).getD i 0 = lfV R cur (l.getD i pr0) := by simp [List.getD_eq_getElem?_getD, List.getElem?_eq_getElem hi]
        rw [e]
        unfold lfV
        rw [y1, y2]
        rfl
      have HLn : Hid ((l.map (lfV R cur)).length = l.length) := List.length_map _
      have HRl : Hid ((R.length : Int) ≤ 9223372036854775807) := by unfold Hid; omega
      clear HMg hh hb7 hir hmr t1 t2 t3 hbw7 HGo HLf c2 c2' HMo HBo HIF HB HOne
      generalize l.map (lfV R cur) = LV at *
      go_wp2_with fail
      refine HE2.out.mono ?_
      rintro e w8 ⟨g8, rfl, H8⟩
      clear HE2
      obtain ⟨wo, hwo⟩ : ∃ wo, wo = wr := ⟨_, rfl⟩
      subst hwo
      go_wp2
      go_loopw [22] (fun i wr => ∃ n : Nat, n ≤ l.length ∧ i = .int .i64 n ∧ Hid (Below w8.heap.size w8 wr)) (fun i _ => l.length - (RowKit.intOf i).toNat)
      case atStart => exact ⟨0, Nat.zero_le _, rfl, Below.refl _ _⟩
      case round =>
        obtain ⟨n, hn, rfl, HN⟩ := hrel
        by_cases hnl : n < l.length
        · have hnl0 : (n : Int) < l.length := by omega
          have n0 : (0 : Int) ≤ n := by omega
          obtain ⟨pb, po, rfl, hpb, hpp⟩ := HPr.out.some hnl
          have HCk : Hid (∀ W q, Below w8.heap.size w8 W → q < l.length → PrAt W pb (po + q * 5) (l.getD q pr0)) := fun W q hW hq => by
            have h := H8.out.2.2.trans (hW.mono H8.out.2.2.size)
            exact (hpp q hq).below h hpb
          have HTn := HT.out n hnl
          have HTn' : Hid (dfTo l (l.getD n pr0).one (l.getD n pr0).oth l.length = false → LV.getD n 0 = 0 ∧ getB R (l.getD n pr0).ea (l.getD n pr0).one cur = 0 ∧ getB R (l.getD n pr0).eb (l.getD n pr0).oth cur = 0) := HTn
          have HPn : Hid (∀ W, Below w8.heap.size w8 W → PrAt W pb (po + n * 5) (l.getD n pr0)) := fun W hW => HCk.out W n hW hnl
          clear hpp HTn
          generalize l.getD n pr0 = x at *
          obtain ⟨x0, x1, x2, x3, x4⟩ := x
          obtain ⟨wq, hwq⟩ : ∃ wq, wq = wr := ⟨_, rfl⟩
          subst hwq
          go_wp2
          go_loopw [23, 24] (fun d i wr => ∃ q : Nat, q ≤ l.length ∧ i = .int .i64 q ∧ d = .bool (dfTo l x2 x3 q) ∧ Hid (Below w8.heap.size w8 wr)) (fun _ i _ => l.length - (RowKit.intOf i).toNat)
          case atStart => exact ⟨0, Nat.zero_le _, rfl, rfl, HN⟩
          case round =>
            obtain ⟨q, hq, rfl, rfl, HQ⟩ := hrel
            by_cases hql : q < l.length
            · have hq0 : (0 : Int) ≤ q := by omega
              have hq1 : (q : Int) < l.length := by omega
              have hy := HCk.out wr q HQ.out hql
              have hz := HPn.out wr HQ.out
              have HDf : Hid (dfTo l x2 x3 (q + 1) = (dfTo l x2 x3 q || decide ((l.getD q pr0).dif = x2) || decide ((l.getD q pr0).dif = x3))) := rfl
              have HQ2 : Hid (∀ m, Below w8.heap.size w8 (wr.drewN m)) := fun m => ch_drewN HQ.out m
              generalize l.getD q pr0 = y at *
              obtain ⟨y0, y1, y2, y3, y4⟩ := y
              obtain ⟨d0, d1, d2, d3, d4⟩ := hy
              obtain ⟨e0, e1, e2, e3, e4⟩ := hz
              simp only at d0 d1 d2 d3 d4 e0 e1 e2 e3 e4 HDf
              generalize dfTo l x2 x3 q = df at *
              cases df
              · by_cases g1 : y4 = x2
                · subst g1
                  have HD2 : Hid (dfTo l y4 x3 (q + 1) = true) := by rw [HDf.out]; simp; exact trivial
                  clear HDf HT
                  go_wp2_with fail
                  go_quiet (fail)
                  rename Nat => nq
                  have HQ3 : Hid _ := HQ2.out nq
                  clear HQ2 d0 d1 d2 d3 d4 e0 e1 e2 e3 e4
                  go_wp2
                  go_roundw
                  case rel => exact ⟨q + 1, by omega, by go_num, by rw [HD2.out], HQ3⟩
                  case measure => simp [RowKit.intOf]; omega
                have g1' := ch_ne g1
                by_cases g2 : y4 = x3
                · subst g2
                  have HD2 : Hid (dfTo l x2 y4 (q + 1) = true) := by rw [HDf.out]; simp; exact trivial
                  clear HDf HT
                  go_wp2_with fail
                  go_quiet (fail)
                  rename Nat => nq
                  have HQ3 : Hid _ := HQ2.out nq
                  clear HQ2 d0 d1 d2 d3 d4 e0 e1 e2 e3 e4
                  go_wp2
                  go_roundw
                  case rel => exact ⟨q + 1, by omega, by go_num, by rw [HD2.out], HQ3⟩
                  case measure => simp [RowKit.intOf]; omega
                have g2' := ch_ne g2
                have HD2 : Hid (dfTo l x2 x3 (q + 1) = false) := by rw [HDf.out, decide_eq_false g1, decide_eq_false g2]; exact rfl
                clear HDf HT
                go_wp2_with fail
                go_quiet (fail)
                rename Nat => nq
                have HQ3 : Hid _ := HQ2.out nq
                clear HQ2 d0 d1 d2 d3 d4 e0 e1 e2 e3 e4
                go_wp2
                go_roundw
                case rel => exact ⟨q + 1, by omega, by go_num, by rw [HD2.out], HQ3⟩
                case measure => simp [RowKit.intOf]; omega
              · have HD2 : Hid (dfTo l x2 x3 (q + 1) = true) := by rw [HDf.out]; simp; exact trivial
                clear HDf HT
                go_wp2_with fail
                go_quiet (fail)
                rename Nat => nq
                have HQ3 : Hid _ := HQ2.out nq
                clear HQ2 d0 d1 d2 d3 d4 e0 e1 e2 e3 e4
                go_wp2
                go_roundw
                case rel => exact ⟨q + 1, by omega, by go_num, by rw [HD2.out], HQ3⟩
                case measure => simp [RowKit.intOf]; omega
            · have eq : q = l.length := by omega
              subst eq
              have hq1 : ¬ (l.length : Int) < l.length := by omega
              cases hdf : dfTo l x2 x3 l.length
              · obtain ⟨y1, y2, y3⟩ := HTn'.out hdf
                have hz := HPn.out wr HQ.out
                have hcv : wr.cell? ⟨g8, n, none⟩ = some (.int .i64 (LV.getD n 0)) := (H8.out.1.belowS HQ.out H8.out.1.ltS).cell (by rw [HLn.out]; exact hnl)
                rw [y1] at hcv
                obtain ⟨gf, hgf⟩ : ∃ gf : Int → ByteArray → Int, gf = fun en acc => getB R en acc cur := ⟨_, rfl⟩
                have z2 : gf x0 x2 = 0 := by rw [hgf]; exact y2
                have z3 : gf x1 x3 = 0 := by rw [hgf]; exact y3
                have HG1 : Hid (∀ W en acc, (∃ m, W = wr.drewN m) → Calls Tryd.prog 10 #[.slice ra R.length rc, .int .i64 en, .string acc, .string cur] W fun e w' => e = .returned (.int .i64 (gf en acc)) ∧ w' = W) := fun W en acc hW => by
                  obtain ⟨m, rfl⟩ := hW
                  have := refGet_any ra rc R en acc cur (wr.drewN m) HRl.out (H8.out.2.1.below (ch_drewN HQ.out m))
                  rw [hgf]
                  exact this
                have HQ2 : Hid (∀ m, Below w8.heap.size w8 (wr.drewN m)) := fun m => ch_drewN HQ.out m
                obtain ⟨e0, e1, e2, e3, e4⟩ := hz
                simp only at e0 e1 e2 e3 e4
                clear y1 y2 y3 hdf HTn' HT HCk HPn HQ hgf
                go_wp2_with fail
                go_quiet ((go_at_call 10; exact Calls.quiet_of_same (HG1.out _ _ _ ⟨_, rfl⟩)))
                rename Nat => nq
                have HQ3 : Hid _ := HQ2.out nq
                clear HQ2 e0 e1 e2 e3 e4 hcv HG1 z2 z3
                go_wp2
                go_roundw
                case rel => exact ⟨n + 1, by omega, by go_num, HQ3⟩
                case measure => simp [RowKit.intOf]; omega
              · clear hdf HTn' HT HCk HPn
                go_wp2
                go_roundw
                case rel => exact ⟨n + 1, by omega, by go_num, HQ⟩
                case measure => simp [RowKit.intOf]; omega
        · have en : n = l.length := by omega
          subst en
          have m1 : ¬ (l.length : Int) < l.length := by omega
          have HB9 : Hid (Below w.heap.size w wr) := H8.out.2.2.trans (HN.out.mono H8.out.2.2.size)
          clear HT H8 HN
          go_wp2
          go_ret
          exact ⟨rfl, HB9.out⟩
end Go.Proofs.YtomgleknfknggaaDoor

namespace Go.Proofs.YtomgleknfknggaaDoor
set_option linter.unusedVariables false
set_option linter.unusedSimpArgs false
set_option maxRecDepth 100000
open Go.RowKit Go.Lib Go.Deep

section
variable {H : Type} {enc : TypeId × Value → H} {w : World} {base : Nat} {spare : Nat → Bool} {held : Bool}

theorem ch_string {m : Nat} {c : Value} {y : DataW H × List MemPlace} (h : DataW.trod enc Tryd.prog w base spare held m 9 [c] = some y) : ∃ s, c = .string s ∧ s.size ≤ maxLen := by
  cases m with
  | zero => simp [DataW.trod] at h
  | succ m =>
    rw [DataW.trod_step] at h
    unfold DataW.trodStep at h
    rw [Tryd.underlying9] at h
    cases c <;> simp at h
    exact ⟨_, rfl, h.1⟩

theorem ch_int {m : Nat} {c : Value} {y : DataW H × List MemPlace} (h : DataW.trod enc Tryd.prog w base spare held m 3 [c] = some y) : ∃ n, c = .int .i64 n ∧ (Lit.int .i64 n).wf = true := by
  cases m with
  | zero => simp [DataW.trod] at h
  | succ m =>
    rw [DataW.trod_step] at h
    unfold DataW.trodStep at h
    rw [Tryd.underlying3] at h
    cases c <;> simp at h
    rename_i k n
    obtain ⟨⟨rfl, h2⟩, _⟩ := h
    exact ⟨n, rfl, h2⟩

theorem ch_bool {m : Nat} {c : Value} {y : DataW H × List MemPlace} (h : DataW.trod enc Tryd.prog w base spare held m 4 [c] = some y) : ∃ n, c = .bool n := by
  cases m with
  | zero => simp [DataW.trod] at h
  | succ m =>
    rw [DataW.trod_step] at h
    unfold DataW.trodStep at h
    rw [Tryd.underlying4] at h
    cases c <;> simp at h
    exact ⟨_, rfl⟩

/-- What is asked of an account that came in. -/
def AcOk (a : Ac) : Prop := a.code.size ≤ maxLen ∧ a.name.size ≤ maxLen ∧ (Lit.int .i64 a.kind).wf = true ∧ a.par.size ≤ maxLen

theorem acct_cells : Tryd.prog.cellsOf 101 = 5 := by kernel_rfl
theorem acct_str : Tryd.prog.cellsOf 9 = 1 := by kernel_rfl
theorem acct_int : Tryd.prog.cellsOf 3 = 1 := by kernel_rfl
theorem acct_bool : Tryd.prog.cellsOf 4 = 1 := by kernel_rfl

theorem open_acct {m : Nat} {cs : List Value} {x : DataW H × List MemPlace} (h : DataW.trod enc Tryd.prog w base spare held m 101 cs = some x) : ∃ a : Ac, cs = a.cells.toList ∧ AcOk a := by
  cases m with
  | zero => simp [DataW.trod] at h
  | succ m =>
    rw [DataW.trod_step] at h
    unfold DataW.trodStep at h
    rw [Tryd.underlying101] at h
    simp only [acct_cells] at h
    split at h
    · rename_i hl
      match cs, hl with
      | [c0, c1, c2, c3, c4], _ =>
        simp [acct_str, acct_int, acct_bool] at h
        cases h0 : DataW.trod enc Tryd.prog w base spare held m 9 [c0]
        · simp [h0] at h
        cases h1 : DataW.trod enc Tryd.prog w base spare held m 9 [c1]
        · simp [h0, h1] at h
        cases h2 : DataW.trod enc Tryd.prog w base spare held m 3 [c2]
        · simp [h0, h1, h2] at h
        cases h3 : DataW.trod enc Tryd.prog w base spare held m 9 [c3]
        · simp [h0, h1, h2, h3] at h
        cases h4 : DataW.trod enc Tryd.prog w base spare held m 4 [c4]
        · simp [h0, h1, h2, h3, h4] at h
        obtain ⟨f, rfl, hf⟩ := ch_string h0
        obtain ⟨t, rfl, ht⟩ := ch_string h1
        obtain ⟨p, rfl, hp⟩ := ch_int h2
        obtain ⟨n, rfl, hn⟩ := ch_string h3
        obtain ⟨d, rfl⟩ := ch_bool h4
        exact ⟨⟨f, t, p, n, d⟩, rfl, hf, ht, hp, hn⟩
    · cases h

theorem ac_cells (w : World) (b off : Nat) (a : Ac) (h : ∀ i, i < 5 → w.cell? ⟨b, off + i, none⟩ = a.cells.toList[i]?) : AcAt w b off a :=
  ⟨h 0 (by omega), h 1 (by omega), h 2 (by omega), h 3 (by omega), h 4 (by omega)⟩

theorem ch_add (b off n : Nat) : (⟨b, off, none⟩ : Addr).add n = ⟨b, off + n, none⟩ := by
  unfold Addr.add
  split
  · rename_i h; subst h; rfl
  · rfl

/-- A chart that came in. -/
theorem acs_of_trod {W : World} {a : Option Addr} {len cap fuel : Nat} {x : DataW H × List MemPlace} (h : DataW.trod enc Tryd.prog W 0 (fun _ => true) true fuel 22 [.slice a len cap] = some x) :
    ∃ l : List Ac, l.length = len ∧ (∀ k, k < l.length → AcOk (l.getD k ac0)) ∧ IsSl W a l cap := by
  rcases open_slice Tryd.underlying22 h with ⟨hcs, _⟩ | ⟨x, l, c, m, n, D, Pl, hcs, _, hl, hm, hmm, _, hx⟩
  · simp at hcs
    obtain ⟨rfl, rfl, rfl⟩ := hcs
    exact ⟨[], rfl, by simp, ⟨by simp, .inl rfl⟩⟩
  · simp at hcs
    obtain ⟨rfl, rfl, rfl⟩ := hcs
    have hmm2 : m = cap := hmm
    rw [acct_cells] at hx
    have hr : ∀ i, i < len → ∃ r : Ac, (∀ j, j < 5 → W.cell? ((x.add (i * 5)).add j) = r.cells.toList[j]?) ∧ AcOk r := fun i hi => by
      obtain ⟨cs', h1, h2⟩ := hx i (by omega)
      obtain ⟨r, rfl, ok⟩ := open_acct h2
      exact ⟨r, (World.cells?_some h1).2.2, ok⟩
    obtain ⟨f, hf⟩ := @choose_lt Ac ⟨ac0⟩ _ _ hr
    have hget : ∀ k, k < len → ((List.range len).map f).getD k ac0 = f k := fun k hk => by simp [List.getD, hk]
    have hlen : ((List.range len).map f).length = len := by simp
    refine ⟨(List.range len).map f, hlen, fun k hk => ?_, ⟨by rw [hlen]; exact hl, ?_⟩⟩
    · rw [hlen] at hk
      rw [hget k hk]
      exact (hf k hk).2
    · by_cases h0 : len = 0
      · subst h0
        exact .inl rfl
      · right
        obtain ⟨b, off, spot⟩ := x
        have hc : W.cell? ⟨b, off, spot⟩ = some (.string (f 0).code) := (hf 0 (by omega)).1 0 (by omega)
        have hspot : spot = none := World.cell?_spot hc
        subst hspot
        have hlt : b < W.heap.size := World.block_lt_of_cell? _ _ hc
        refine ⟨b, off, rfl, hlt, fun k hk => ?_⟩
        rw [hlen] at hk
        rw [hget k hk]
        refine ac_cells W b (off + k * 5) (f k) (fun i hi => ?_)
        have := (hf k hk).1 i hi
        rw [ch_add, ch_add] at this
        exact this
end
end Go.Proofs.YtomgleknfknggaaDoor

namespace Go.Proofs.YtomgleknfknggaaDoor
open Go.ChangeShapes Go.WideShapes Go.RowKit Go.ChangeAt Go.Deep
open Go.ChangeMaps (open_string shut_string)
set_option linter.unusedVariables false
set_option linter.unusedSimpArgs false

theorem pqs_own : ownKnob Tryd.prog.godebug = none := by kernel_rfl
theorem pqs_laidOut : laidOutB Tryd.prog = true := by kernel_rfl
/-- A table's cells. -/
def pqs_cells (d : DataW Unit) : Array Value :=
  match d with
  | .agg l => (l.map fun x => match x with
    | .lit (.int k z) => Value.int k z
    | _ => .bool false).toArray
  | _ => #[]
def pqs_put (cs : Array Value) (o : Obj) : Obj :=
  match o with
  | .cells _ t frozen => .cells cs t frozen
  | o => o
/-- A world that meets the condition. -/
theorem pqs_met (os : Os) (args : Array Value) : laidMetH Tryd.prog Rows.pairRestsRow.laid ((({ World.holding Tryd.prog os ⟨#[], #[], []⟩ with heap := (((World.holding Tryd.prog os ⟨#[], #[], []⟩).heap.modify 1 (pqs_put (pqs_cells Rows.laid_math_bits_deBruijn32tab))).modify 2 (pqs_put (pqs_cells Rows.laid_math_bits_deBruijn64tab))).modify 0 (pqs_put (pqs_cells Rows.laid_internal_strconv_uint64pow10)) } : World).forCall (fun _ _ => 0) ⟨#[], args, []⟩).memory) :=
  (show laidMet Tryd.prog Rows.pairRestsRow.laid _ from laidMet_of_run' 8 (by kernel_rfl) (by kernel_rfl))

set_option maxRecDepth 100000 in
theorem pqs_lifted (os : Os) (started : os.Started) (H : Type) (enc : TypeId × Value → H) :
    ReturnsInHanded {} Tryd.checked os 3 .any (fun w args => (Rows.pairRestsSpec.pre enc Tryd.prog Tryd.f3 [] false w args ∧ laidMetH Tryd.prog Rows.pairRestsRow.laid w) ∧ sizedMet enc Tryd.prog Tryd.f3 (OpenSpec.ofChange Rows.pairRestsSpec) false w args)
      (Rows.pairRestsSpec.post enc Tryd.prog Tryd.f3 false true false false) := by
  refine returnsInHanded_of_change_and (C := Tryd.checked) (X := fun w _ => laidMetH Tryd.prog Rows.pairRestsRow.laid w) (fun _ _ _ hh h => h.of_heap hh) pqs_own started (by kernel_rfl) Tryd.func3
    (ChangeSpec.witness_at (enc := enc) (C := Tryd.checked) (os := os) (X := fun w _ => laidMetH Tryd.prog Rows.pairRestsRow.laid w) false ({ World.holding Tryd.prog os ⟨#[], #[], []⟩ with heap := (((World.holding Tryd.prog os ⟨#[], #[], []⟩).heap.modify 1 (pqs_put (pqs_cells Rows.laid_math_bits_deBruijn32tab))).modify 2 (pqs_put (pqs_cells Rows.laid_math_bits_deBruijn64tab))).modify 0 (pqs_put (pqs_cells Rows.laid_internal_strconv_uint64pow10)) } : World) #[.slice none 0 0, .slice none 0 0, .slice none 0 0, .string ByteArray.empty] 8 rfl (by kernel_rfl) (by kernel_rfl) (by kernel_rfl) (by kernel_rfl) (by kernel_rfl) (pqs_met os _)) ?_
  intro W base args ds gs before hval0 hW hcnd hsz0 hL _
  clear hsz0
  have hval : ∀ (j : Nat) t v, Tryd.f3.params[j]? = some t → args[j]? = some v → Value.okWide Tryd.prog W .any base t v := hval0
  have hW' := hW
  obtain ⟨p, q, hA0, hV, rfl, hfz, hnd⟩ := hW
  have hA : DataW.TrodAll enc Tryd.prog W 0 (fun _ => true) true Tryd.f3.params.toList args.toList ds p := hA0
  rw [Tryd.params3] at hA hval
  obtain ⟨v0, vs0, d0, ds0, p0, q0, hargs, rfl, rfl, h0, r0⟩ := trodAll_cons hA
  obtain ⟨v1, vs1, d1, ds1, p1, q1, rfl, rfl, rfl, h1, r1⟩ := trodAll_cons r0
  obtain ⟨v2, vs2, d2, ds2, p2, q2, rfl, rfl, rfl, h2, r2⟩ := trodAll_cons r1
  obtain ⟨v3, vs3, d3, ds3, p3, q3, rfl, rfl, rfl, h3, r3⟩ := trodAll_cons r2
  obtain ⟨rfl, rfl, rfl⟩ := trodAll_nil r3
  obtain rfl : args = #[v0, v1, v2, v3] := by cases args; simp_all
  obtain ⟨rfl, rfl⟩ := trodVars_none hV
  obtain ⟨a0, len0, cap0, rfl⟩ := okWide_slice Tryd.underlying22 (hval 0 22 v0 rfl rfl)
  have k0 := h0
  have lt0 : ∀ x ∈ p0, x.block < W.heap.size := by obtain ⟨m, hm⟩ := k0; exact DataW.trod_lt m _ _ _ hm
  obtain ⟨l0, hl0, ho0, hi0⟩ : ∃ l : List Ac, l.length = len0 ∧ (∀ k, k < l.length → AcOk (l.getD k ac0)) ∧ IsSl W a0 l cap0 := by
    obtain ⟨fuel, hf⟩ := h0
    exact acs_of_trod hf
  subst hl0
  obtain ⟨a1, len1, cap1, rfl⟩ := okWide_slice Tryd.underlying23 (hval 1 23 v1 rfl rfl)
  have k1 := h1
  have lt1 : ∀ x ∈ p1, x.block < W.heap.size := by obtain ⟨m, hm⟩ := k1; exact DataW.trod_lt m _ _ _ hm
  obtain ⟨l1, hl1, hi1, ho1, hm1⟩ : ∃ l : List Pr, l.length = len1 ∧ IsPr W a1 l cap1 ∧ (∀ x ∈ l, PrOk x) ∧ len1 ≤ maxLen := by
    obtain ⟨fuel, hf⟩ := h1
    exact prs_of_trod hf
  subst hl1
  have hb1 : l1.length ≤ 9223372036854775807 := by unfold maxLen at hm1; exact hm1
  obtain ⟨a2, len2, cap2, rfl⟩ := okWide_slice Tryd.underlying24 (hval 2 24 v2 rfl rfl)
  have k2 := h2
  have lt2 : ∀ x ∈ p2, x.block < W.heap.size := by obtain ⟨m, hm⟩ := k2; exact DataW.trod_lt m _ _ _ hm
  obtain ⟨l2, hl2, hi2, ho2, hm2⟩ : ∃ l : List Bl, l.length = len2 ∧ IsBl W a2 l cap2 ∧ (∀ x ∈ l, BlOk x) ∧ len2 ≤ maxLen := by
    obtain ⟨fuel, hf⟩ := h2
    exact ld_bls_of_trod hf
  subst hl2
  have hb2 : l2.length ≤ 9223372036854775807 := by unfold maxLen at hm2; exact hm2
  obtain ⟨x3, rfl, rfl, rfl, w3⟩ := open_string Tryd.underlying9 (hval 3 9 v3 rfl rfl) h3
  clear hA0 hval0
  refine (prests_walk a0 a1 a2 cap0 cap1 cap2 l0 l1 l2 x3 W hi0 hi1 hb1 ho1 hi2 hb2 ho2).mono fun e W' ⟨he, bel⟩ => ?_
  subst he
  exact ⟨_, rfl, _, _, _, [], _, [], hW', trodAll_mk1 (shut_bool Tryd.underlying4 _), (trodAll_cons_mk (Below.trod pqs_laidOut (by kernel_rfl) (of_decide_eq_true (by kernel_rfl)) k0 bel lt0) (trodAll_cons_mk (Below.trod pqs_laidOut (by kernel_rfl) (of_decide_eq_true (by kernel_rfl)) k1 bel lt1) (trodAll_cons_mk (Below.trod pqs_laidOut (by kernel_rfl) (of_decide_eq_true (by kernel_rfl)) k2 bel lt2) (trodAll_cons_mk (shut_string Tryd.underlying9 w3) trodAll_mk0)))), rfl, bel.frame _, fun h => by cases h⟩

theorem pqs_over : Rows.PairRestsSaid :=
  OpenClaim.holds_of_wide 3 Tryd.f3 rfl rfl rfl rfl rfl rfl rfl ⟨rfl, rfl, rfl, rfl, rfl⟩ rfl rfl rfl rfl rfl (by kernel_rfl) Tryd.func3 (by kernel_rfl)
    (of_decide_eq_true (by kernel_rfl)) (by unfold Func.isWrapper; first | (rw [if_pos (by decide +kernel)]; kernel_rfl) | (rw [if_neg (by decide +kernel)]; exact ⟨rfl, rfl⟩))
    (fun os started H enc _ => pqs_lifted os started H enc)

/-- The statement. -/
theorem pairRests_holds : Rows.PairRestsCardSaid :=
  Claim7.holds_tied_plain_at .later [] [.data, .data, .data] true _ false
    pqs_over (fun _ h => by cases h) (by kernel_rfl) (fun _ h => by cases h) pairRests_row_tie rfl ⟨rfl, rfl⟩ (by kernel_rfl) rfl
    (fun f fn hf hfn => by
      obtain rfl : f = 3 := Option.some.inj ((show Tryd.prog.funcNamed "quarterday/daylaw3.PairRests" = some 3 by kernel_rfl).symm.trans hf) |>.symm
      obtain rfl : fn = Tryd.f3 := (Option.some.inj (Tryd.func3.symm.trans hfn)).symm
      exact ⟨by kernel_rfl, fun j t ht => by
        rw [Tryd.params3] at ht
        have h3 : t = 22 ∨ t = 23 ∨ t = 24 ∨ t = 9 := by
          rcases j with _ | _ | _ | _ | j
          · exact (.inl (by simpa using ht.symm))
          · exact (.inr (.inl (by simpa using ht.symm)))
          · exact (.inr (.inr (.inl (by simpa using ht.symm))))
          · exact (.inr (.inr (.inr (by simpa using ht.symm))))
          · simp at ht
        rcases h3 with rfl | rfl | rfl | rfl
        · exact (show Tryd.prog.wantsStandIn 22 = false by kernel_rfl)
        · exact (show Tryd.prog.wantsStandIn 23 = false by kernel_rfl)
        · exact (show Tryd.prog.wantsStandIn 24 = false by kernel_rfl)
        · exact (show Tryd.prog.wantsStandIn 9 = false by kernel_rfl)⟩)
    (by kernel_rfl)
#print axioms pairRests_holds
end Go.Proofs.YtomgleknfknggaaDoor
