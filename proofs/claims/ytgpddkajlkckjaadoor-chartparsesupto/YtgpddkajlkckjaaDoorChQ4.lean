/-
  The contract of dayref1.Parse.
-/
import Derived.Test.YtgpddkajlkckjaaDoorChQ3
import Derived.Test.YtgpddkajlkckjaaDoorRf1
import Derived.Deep.RegionHeld3
import Derived.BigRegion
namespace Go.Proofs.YtgpddkajlkckjaaDoor
set_option linter.unusedVariables false
set_option linter.unusedSimpArgs false
set_option maxRecDepth 100000
open Go.RowKit

theorem cutL_le (c : UInt8) : ∀ (s p : List UInt8), p ∈ cutL c s → p.length ≤ s.length
  | [], p, h => by
    simp [cutL] at h
    subst h
    simp
  | b :: r, p, h => by
    have ih := cutL_le c r
    rw [cutL] at h
    split at h
    · rcases List.mem_cons.1 h with rfl | h
      · simp
      · have := ih p h
        simp; omega
    · cases hc : cutL c r with
      | nil => exact absurd hc (cutL_ne c r)
      | cons q t =>
        rw [hc] at h ih
        simp only at h
        rcases List.mem_cons.1 h with rfl | h
        · have := ih q (by simp)
          simp; omega
        · have := ih p (by simp [h])
          simp; omega
/-- An account in a box. -/
def ABox (W : World) (b : Nat) (x : Ac) : Prop := W.heap[b]? = some (.cells x.cells 33 (0, 0))
theorem ABox.c0 {W : World} {b : Nat} {x : Ac} (h : ABox W b x) : W.cell? ⟨b, 0, none⟩ = some (.string x.code) := by unfold ABox at h; simp [World.cell?, h, Ac.cells]
theorem ABox.c1 {W : World} {b : Nat} {x : Ac} (h : ABox W b x) : W.cell? ⟨b, 1, none⟩ = some (.string x.name) := by unfold ABox at h; simp [World.cell?, h, Ac.cells]
theorem ABox.c2 {W : World} {b : Nat} {x : Ac} (h : ABox W b x) : W.cell? ⟨b, 2, none⟩ = some (.int .i64 x.kind) := by unfold ABox at h; simp [World.cell?, h, Ac.cells]
theorem ABox.c3 {W : World} {b : Nat} {x : Ac} (h : ABox W b x) : W.cell? ⟨b, 3, none⟩ = some (.string x.par) := by unfold ABox at h; simp [World.cell?, h, Ac.cells]
theorem ABox.c4 {W : World} {b : Nat} {x : Ac} (h : ABox W b x) : W.cell? ⟨b, 4, none⟩ = some (.bool x.mon) := by unfold ABox at h; simp [World.cell?, h, Ac.cells]
theorem ABox.fz {W : World} {b : Nat} {x : Ac} (h : ABox W b x) (o : Nat) : W.frozen? ⟨b, o, none⟩ = false := by unfold ABox at h; simp [World.frozen?, h]
theorem ABox.lt {W : World} {b : Nat} {x : Ac} (h : ABox W b x) : b < W.heap.size := (Array.getElem?_eq_some_iff.1 h).1
theorem ABox.kind {W : World} {b : Nat} {x : Ac} (h : ABox W b x) (n : Int) : ABox (W.setCell ⟨b, 2, none⟩ (.int .i64 n)) b { x with kind := n } := by
  unfold ABox at *
  rw [setCell_eq_setRow W b 2 _ 33 (0, 0) _ h, setRow_heap W b _ _ 33 (0, 0) h]
  rfl
theorem ABox.par {W : World} {b : Nat} {x : Ac} (h : ABox W b x) (n : ByteArray) : ABox (W.setCell ⟨b, 3, none⟩ (.string n)) b { x with par := n } := by
  unfold ABox at *
  rw [setCell_eq_setRow W b 3 _ 33 (0, 0) _ h, setRow_heap W b _ _ 33 (0, 0) h]
  rfl
theorem ABox.below {W W' : World} {b n : Nat} {x : Ac} (h : ABox W b x) (hb : Below n W W') (hn : b < n) : ABox W' b x := (hb.block b hn).trans h

theorem kind_at {c : ByteArray} {j : Int} (h1 : 1 ≤ j) (h2 : j ≤ 5) : c = kindB j ↔ kindOf c = j := by
  constructor
  · intro e
    rw [e]
    exact kindOf_B h1 h2
  · intro e
    have := kindB_of (c := c) (by omega)
    rw [e] at this
    exact this.symm
theorem kindOf_range (c : ByteArray) : 0 ≤ kindOf c ∧ kindOf c ≤ 5 := by
  unfold kindOf
  split
  · omega
  split
  · omega
  split
  · omega
  split
  · omega
  split <;> omega
theorem lit_eq (x : ByteArray) (l : List UInt8) : (x.toList == l) = decide (x = txt l) := by
  rw [Lib.toList_data]
  by_cases h : x = txt l
  · rw [h]
    simp [txt]
  · rw [decide_eq_false h, beq_eq_false_iff_ne]
    intro e
    apply h
    rw [txt_of x, e]
theorem nextBad_ge (pre : List Ac) (x : Ac) : 0 ≤ nextBad pre x := by
  unfold nextBad parBad
  split
  · omega
  split
  · omega
  split
  · omega
  split
  · omega
  split
  · omega
  split <;> omega
theorem qa_info : (Tryd.prog.info? 33).map (fun i => (i.zero, i.size, i.bytes)) = some (some (.agg #[.string ByteArray.empty, .string ByteArray.empty, .int .i64 0, .string ByteArray.empty, .bool false]), 5, 64) := by kernel_rfl
theorem qa_cells (w : World) (x0 x1 : ByteArray) (x2 : Int) (x3 : ByteArray) (x4 : Bool) : ∀ j u, ([.string x0, .string x1, .int .i64 x2, .string x3, .bool x4] : List Value)[j]? = some u → (w.alloc (.cells #[.string x0, .string x1, .int .i64 x2, .string x3, .bool x4] 33)).cell? ((⟨w.heap.size, 0, none⟩ : Addr).add j) = some u := by
  intro j u hj
  have e : (⟨w.heap.size, 0, none⟩ : Addr).add j = ⟨w.heap.size, j, none⟩ := by
    unfold Addr.add
    split
    · rename_i h; subst h; rfl
    · simp
  rw [e]
  rcases j with _ | _ | _ | _ | _ | j
  · simpa using hj
  · simpa using hj
  · simpa using hj
  · simpa using hj
  · simpa using hj
  · simp at hj
theorem qa_one (x0 x1 : ByteArray) (x2 : Int) (x3 : ByteArray) (x4 : Bool) : ∀ u ∈ ([.string x0, .string x1, .int .i64 x2, .string x3, .bool x4] : List Value), u.oneCell' = true := by
  intro u hu; simp at hu; rcases hu with rfl | rfl | rfl | rfl | rfl <;> rfl
/-- Accounts in a row of the call's own. -/
def AcRow (w : World) (n : Nat) (v : Value) (l : List Ac) : Prop := w.ownsRow n 33 5 v l.length (rowOf l)
theorem AcRow.own {w : World} {n : Nat} {v : Value} {xs : List Ac} (h : AcRow w n v xs) : ∀ j, v.ownBlock = some j → n ≤ j := fun j ej => by
  rcases h.2 with ⟨rfl, _⟩ | ⟨g1, c1, cur, rfl, hg1, _⟩
  · cases ej
  · cases ej; exact hg1
theorem AcRow.mono {w : World} {n m : Nat} {v : Value} {l : List Ac} (h : AcRow w n v l) (hm : m ≤ n) : AcRow w m v l := by
  rcases h.2 with ⟨hv, hn⟩ | ⟨g1, c1, cur, hv, hb1, r⟩
  · exact ⟨h.1, .inl ⟨hv, hn⟩⟩
  · exact ⟨h.1, .inr ⟨g1, c1, cur, hv, by omega, r⟩⟩
theorem AcRow.below {w w' : World} {n : Nat} {v : Value} {l : List Ac} (h : AcRow w n v l) (hb : Below w.heap.size w w') : AcRow w' n v l := by
  rcases h.2 with ⟨hv, hn⟩ | ⟨g1, c1, cur, hv, hb1, hh, r⟩
  · exact ⟨h.1, .inl ⟨hv, hn⟩⟩
  · exact ⟨h.1, .inr ⟨g1, c1, cur, hv, hb1, (hb.block g1 (Array.getElem?_eq_some_iff.1 hh).1).trans hh, r⟩⟩

set_option maxHeartbeats 8000000 in
theorem refParse_any (t : ByteArray) (w : World) (ht : t.size ≤ 1048576) :
    Calls Tryd.prog 5 #[.string t] w fun e w' => ∃ v, e = .returned (.tuple #[v, .int .i64 (parseS t).2.1, .int .i64 (parseS t).2.2]) ∧ AcRow w' w.heap.size v (parseS t).1 ∧ Below w.heap.size w w' := by
  rw [← parts_parse t]
  obtain ⟨ps, hps⟩ : ∃ ps, cutL 10 t.data.toList = ps := ⟨_, rfl⟩
  have hsz : ∀ p ∈ ps, p.length ≤ 1048576 := fun p hp => by
    rw [← hps] at hp
    have := cutL_le 10 _ p hp
    have e : t.data.toList.length = t.size := by simp
    omega
  have hne : ps ≠ [] := by rw [← hps]; exact cutL_ne _ _
  have hcb : cutB 10 t = ps.map txt := by unfold cutB; rw [hps]
  have hlen : ps.length ≤ 1048577 := by
    have := cutB_len 10 t
    rw [hcb, List.length_map] at this
    omega
  rw [hps]
  have H1 := refCut_any t 10 w ht
  rw [hcb] at H1
  have HC : Hid (Calls _ _ _ _ _) := H1
  obtain ⟨res, hres⟩ : ∃ res, partsGo [] 0 ps = res := ⟨_, rfl⟩
  have Hres : Hid (partsGo [] 0 (ps.drop 0) = res) := hres
  rw [hres]
  have Hsz : Hid (∀ p ∈ ps, p.length ≤ 1048576) := hsz
  obtain ⟨q0, hq, hq0, hq1, hq2⟩ := info_parts qa_info
  clear hres H1 hcb hps hsz
  go_enter Tryd.func5, Tryd.ntmps5
  go_wp2_with fail
  refine HC.out.mono ?_
  rintro e w1 ⟨v1, rfl, r1, b1⟩
  rcases r1.form with ⟨_, h0⟩ | ⟨g, gcap, rfl, hg, hgl, hgc, hcell⟩
  · rw [List.map_eq_nil_iff] at h0
    exact absurd h0 hne
  have hml : (ps.map txt).length = ps.length := List.length_map ..
  rw [hml] at hcell hgc
  have Hcell : Hid (∀ W, Below w1.heap.size w1 W → ∀ k, k < ps.length → W.cell? ⟨g, k, none⟩ = some (.string (txt (ps.getD k [])))) := fun W hW k hk => by
    rw [hW.cell (p := ⟨g, k, none⟩) hgl, hcell k hk]
    simp [List.getD, hk]
  have HB1 : Hid (Below w.heap.size w w1) := b1
  have hb1 := b1.size
  clear HC r1 hcell b1
  rw [hml]
  clear hml
  obtain ⟨N, hN⟩ : ∃ N, ps.length = N := ⟨_, rfl⟩
  have HN0 : Hid (ps.length = N) := hN
  rw [hN] at hlen hgc Hcell ⊢
  clear hN
  go_wp2
  go_loopw [5, 7, 8, 9, 10, 11, 12, 13] (fun v i _ _ _ _ _ _ wr => ∃ k : Nat, ∃ acc : List Ac, k ≤ N ∧ i = .int .i64 k ∧ acc.length ≤ 60 ∧ (k < N → acc.length = k) ∧ Hid (partsGo acc k (ps.drop k) = res) ∧ Hid (AcRow wr w1.heap.size v acc) ∧ Below w1.heap.size w1 wr) (fun _ i _ _ _ _ _ _ _ => N - (intOf i).toNat)
  case atStart => exact ⟨0, [], Nat.zero_le _, rfl, by simp, fun _ => rfl, Hres, World.ownsRow_nil _ _ _ _, Below.refl _ _⟩
  case round =>
    obtain ⟨k, acc, hk, rfl, hacc, hak, G, R, BW⟩ := hrel
    by_cases hlt : k < N
    · have hacck := hak hlt
      have hw1 := BW.size
      have hltp : k < ps.length := by rw [HN0.out]; exact hlt
      have hd : ps.drop k = ps.getD k [] :: ps.drop (k + 1) := by
        rw [List.drop_eq_getElem_cons hltp, List.getD_eq_getElem?_getD, List.getElem?_eq_getElem hltp]
        rfl
      have hmem : ps.getD k [] ∈ ps := by
        rw [List.getD_eq_getElem?_getD, List.getElem?_eq_getElem hltp]
        exact List.getElem_mem hltp
      have hpl := Hsz.out _ hmem
      have ck := Hcell.out wr BW k hlt
      have Hdr : Hid (N = k + 1 → ps.drop (k + 1) = []) := fun e => List.drop_eq_nil_of_le (by rw [HN0.out]; omega)
      have Hdr2 : Hid (k + 1 < N → ∃ q r, ps.drop (k + 1) = q :: r) := fun e => ⟨_, _, List.drop_eq_getElem_cons (by rw [HN0.out]; exact e)⟩
      have G' := G.out
      rw [hd] at G'
      have HG : Hid (partsGo acc k (ps.getD k [] :: ps.drop (k + 1)) = res) := G'
      generalize ps.getD k [] = p at *
      clear G G' hd hmem hltp
      have i0 : (0 : Int) ≤ k := by omega
      have i1 : (k : Int) < N := by omega
      have i2 : (N : Int) ≤ 1048577 := by omega
      have HCut : Hid (Calls _ _ _ _ _) := refCut_any (txt p) 32 wr (by rw [txt_size]; exact hpl)
      have hcw : cutB 32 (txt p) = (cutL 32 p).map txt := by unfold cutB; rw [txt_list]
      rw [hcw] at HCut
      clear hcw
      by_cases hlast : N = k + 1
      · have hl1 : ((k : Int) == (N : Int) - 1) = true := by simp; omega
        have Hlast : Hid (N = k + 1) := hlast
        rw [Hdr.out hlast] at HG
        clear hlast
        by_cases hp : p = []
        · subst hp
          have hx : txt ([] : List UInt8) = ⟨#[]⟩ := rfl
          rw [hx] at ck
          have HN : Hid (partsGo acc (k + 1) (ps.drop (k + 1)) = res) := by
            unfold Hid
            rw [← HG.out, Hdr.out Hlast.out]
            simp [partsGo]
          clear HCut HG Hdr Hdr2 hx
          go_wp2
          go_roundw
          case rel => exact ⟨k + 1, acc, by omega, by go_num, hacc, fun h => absurd h (by have := Hlast.out; omega), HN, R, BW⟩
          case measure => simp [intOf]; omega
        · have er : res = ([], k, 2) := by
            rw [← HG.out]
            simp [partsGo, hp]
          subst er
          have hx0 : (txt p).size ≠ 0 := by rw [txt_size]; exact fun e => hp (List.eq_nil_of_length_eq_zero e)
          have e0 := ch_some hx0
          have e0' : (txt p).toList.isEmpty = false := by simpa using e0
          generalize txt p = x at *
          clear Hdr Hdr2 HG hx0 hp
          go_wp2_with fail
          refine HCut.out.mono ?_
          rintro e w2 ⟨v2, rfl, r2, b2⟩
          have HB2 : Hid (Below w.heap.size w w2) := HB1.out.trans ((BW.trans (b2.mono hw1)).mono hb1)
          clear HCut r2 b2
          go_wp2
          go_ret3
          exact ⟨_, rfl, World.ownsRow_nil _ _ _ _, HB2.out⟩
      · have hl1 : ((k : Int) == (N : Int) - 1) = false := by simp; omega
        obtain ⟨q, r, hqr⟩ := Hdr2.out (by omega)
        have Hqr : Hid (ps.drop (k + 1) = q :: r) := hqr
        rw [hqr] at HG
        clear hqr Hdr Hdr2
        have HG1 : Hid (partBad acc p ≠ 0 → res = ([], k, partBad acc p)) := fun h => by
          rw [← HG.out]
          simp only [partsGo]
          rw [if_neg h]
        have HG2 : Hid (partBad acc p = 0 → partsGo (acc ++ [(partAc p).getD ac0]) (k + 1) (ps.drop (k + 1)) = res) := fun h => by
          rw [← HG.out, Hqr.out]
          simp only [partsGo]
          rw [if_pos h]
        have Hk1 : Hid (k + 1 < N) := by unfold Hid; omega
        clear hlast HG Hqr
        go_wp2_with fail
        refine HCut.out.mono ?_
        rintro e w2 ⟨v2, rfl, r2, b2⟩
        have HB2 : Hid (Below w1.heap.size w1 w2) := BW.trans (b2.mono hw1)
        have HR2 : Hid (AcRow w2 w1.heap.size _ acc) := R.out.below b2
        have hb2 := b2.size
        by_cases h5 : (cutL 32 p).length = 5
        · obtain ⟨xa, xb, xc, xd, xe, hfive⟩ : ∃ a b c d e, (cutL 32 p).map txt = [a, b, c, d, e] := by
            have hl5 : ((cutL 32 p).map txt).length = 5 := by rw [List.length_map]; exact h5
            match (cutL 32 p).map txt, hl5 with
            | [a, b, c, d, e], _ => exact ⟨a, b, c, d, e, rfl⟩
          have hpa : partAc p = ofWords xa xb xc xd xe := by unfold partAc; rw [hfive]
          have hwsz : ∀ y ∈ (cutL 32 p).map txt, y.size ≤ 1048576 := fun y hy => by
            obtain ⟨z, hz, rfl⟩ := List.mem_map.1 hy
            rw [txt_size]
            have := cutL_le 32 p z hz
            omega
          rw [hfive] at hwsz r2
          have za := hwsz xa (by simp)
          have zb := hwsz xb (by simp)
          have ze := hwsz xe (by simp)
          rcases r2.form with ⟨_, h0⟩ | ⟨g2, c2, ev, hg2, hg2l, hc2, hz⟩
          · cases h0
          subst ev
          have y0 := hz 0 (by simp)
          have y1 := hz 1 (by simp)
          have y2 := hz 2 (by simp)
          have y3 := hz 3 (by simp)
          have y4 := hz 4 (by simp)
          simp only [List.getD_cons_zero, List.getD_cons_succ] at y0 y1 y2 y3 y4
          simp only [List.length_cons, List.length_nil, Nat.zero_add, Nat.reduceAdd] at hc2 ⊢
          have Hpa : Hid (partAc p = ofWords xa xb xc xd xe) := hpa
          have Hy : Hid (∀ W, Below w2.heap.size w2 W → W.cell? ⟨g2, 2, none⟩ = some (.string xc) ∧ W.cell? ⟨g2, 3, none⟩ = some (.string xd) ∧ W.cell? ⟨g2, 4, none⟩ = some (.string xe)) := fun W hW => ⟨(hW.cell (p := ⟨g2, 2, none⟩) hg2l).trans y2, (hW.cell (p := ⟨g2, 3, none⟩) hg2l).trans y3, (hW.cell (p := ⟨g2, 4, none⟩) hg2l).trans y4⟩
          clear HCut r2 b2 hz hpa hfive hwsz h5
          obtain ⟨mon, hmon⟩ : ∃ mon, (xd.toList == [109]) = mon := ⟨_, rfl⟩
          have Hmon : Hid (mon = decide (xd = ⟨#[109]⟩)) := by
            unfold Hid
            rw [← hmon, lit_eq]
            rfl
          go_wp2_with fail
          go_region_held3 (fun u => u.cell? ⟨g2, 0, none⟩ = some (.string xa) ∧ u.cell? ⟨g2, 1, none⟩ = some (.string xb) ∧ u.cell? ⟨g2, 3, none⟩ = some (.string xd)) (go_keep) (fail)
          obtain ⟨V, hV⟩ : ∃ V, (w2.alloc (.cells #[.string xa, .string xb, .int .i64 0, .string ⟨#[]⟩, .bool mon] 33)).drew = V := ⟨_, rfl⟩
          have hVA : ABox V w2.heap.size ⟨xa, xb, 0, ⟨#[]⟩, mon⟩ := by
            rw [← hV]
            have : ABox (w2.alloc (.cells (⟨xa, xb, 0, ⟨#[]⟩, mon⟩ : Ac).cells 33)) w2.heap.size ⟨xa, xb, 0, ⟨#[]⟩, mon⟩ := by
              unfold ABox World.alloc
              simp only [Array.getElem?_push_size]
            exact this
          have hVB : Below w2.heap.size w2 V := by rw [← hV]; exact ((Below.refl _ _).alloc (Nat.le_refl _) _).drew
          rw [hV]
          have HVA : Hid (ABox V w2.heap.size ⟨xa, xb, 0, ⟨#[]⟩, mon⟩) := hVA
          have HVB : Hid (Below w2.heap.size w2 V) := hVB
          obtain ⟨ab, hab⟩ : ∃ ab, w2.heap.size = ab := ⟨_, rfl⟩
          rw [hab] at HVA
          obtain ⟨kd, hkd⟩ : ∃ kd, kindOf xc = kd := ⟨_, rfl⟩
          have Hkd : Hid (kindOf xc = kd) := hkd
          have hkr := kindOf_range xc
          rw [hkd] at hkr
          obtain ⟨hk0, hk5⟩ := hkr
          clear hV hVA hVB hkd y0 y1 y2 y3 y4
          rw [hab] at hb2 hg2l Hy HVB
          obtain ⟨wE, hwE⟩ : ∃ wE, wE = wr := ⟨_, rfl⟩
          subst hwE
          go_wp2
          go_loopw [11] (fun kv wq => ∃ j : Nat, 1 ≤ j ∧ j ≤ 6 ∧ kv = .int .i64 j ∧ Hid (ABox wq ab ⟨xa, xb, if kd < (j : Int) then kd else 0, ⟨#[]⟩, mon⟩) ∧ Hid (Below ab w2 wq)) (fun kv _ => 6 - (intOf kv).toNat)
          case atStart =>
            refine ⟨1, Nat.le_refl _, by decide, rfl, ?_, HVB⟩
            unfold Hid
            have : (if kd < ((1 : Nat) : Int) then kd else 0) = 0 := by split <;> omega
            rw [this]
            exact HVA.out
          case round =>
            obtain ⟨j, hj1, hj6, rfl, A, BQ⟩ := hrel
            obtain ⟨yc, yd, ye⟩ := Hy.out wr BQ.out
            by_cases hj5 : j ≤ 5
            · have n0 : (0 : Int) ≤ j := by omega
              have n1 : (j : Int) < 6 := by omega
              have n2 : (1 : Int) ≤ j := by omega
              have n3 : (j : Int) ≤ 5 := by omega
              have hL := fun W => run_letter2 (j : Int) n2 n3 W
              have hka := @kind_at xc (j : Int) n2 n3
              rw [Hkd.out] at hka
              generalize kindB (j : Int) = kb at *
              by_cases hce : xc = kb
              · have hkj : kd = (j : Int) := hka.1 hce
                subst hce
                have hq : (xc.toList == xc.toList) = true := by simp
                clear hka
                go_wp2_with fail
                go_quiet (fail)
                rename Nat => nq
                have XA : ABox (wr.drewN nq) ab _ := A.out
                have KA := ch_drewN BQ.out nq
                clear A BQ yc yd ye
                generalize wr.drewN nq = wa at *
                have c2 := XA.c2
                have f2 := XA.fz 2
                have HX : Hid (ABox _ _ _) := XA.kind (j : Int)
                have HK : Hid (Below ab w2 _) := KA.setCell (p := ⟨ab, 2, none⟩) (Nat.le_refl _) (.int .i64 (j : Int))
                clear XA KA hq
                go_wp2
                go_roundw
                case rel =>
                  refine ⟨j + 1, by omega, by omega, by go_num, ?_, HK⟩
                  unfold Hid
                  have : (if kd < ((j + 1 : Nat) : Int) then kd else 0) = (j : Int) := by rw [if_pos (by omega), hkj]
                  rw [this]
                  exact HX.out
                case measure => simp [intOf]; omega
              · have hkj : kd ≠ (j : Int) := fun e => hce (hka.2 e)
                have hq := ch_ne hce
                clear hka hce
                go_wp2_with fail
                go_quiet (fail)
                rename Nat => nq
                have HX : Hid (ABox (wr.drewN nq) ab _) := A.out
                have HK : Hid (Below ab w2 (wr.drewN nq)) := ch_drewN BQ.out nq
                clear A BQ yc yd ye
                go_wp2
                go_roundw
                case rel =>
                  refine ⟨j + 1, by omega, by omega, by go_num, ?_, HK⟩
                  unfold Hid
                  have : (if kd < ((j + 1 : Nat) : Int) then kd else 0) = (if kd < (j : Int) then kd else 0) := by
                    by_cases h : kd < (j : Int)
                    · rw [if_pos h, if_pos (by omega)]
                    · rw [if_neg h, if_neg (by omega)]
                  rw [this]
                  exact HX.out
                case measure => simp [intOf]; omega
            · have hj6' : j = 6 := by omega
              subst hj6'
              have A6 : ABox wr ab ⟨xa, xb, kd, ⟨#[]⟩, mon⟩ := by
                have := A.out
                rw [if_pos (by omega)] at this
                exact this
              have HA : Hid (ABox wr ab ⟨xa, xb, kd, ⟨#[]⟩, mon⟩) := A6
              have HQ : Hid (Below ab w2 wr) := BQ.out
              clear A A6 BQ HVA HVB
              by_cases he : xe = ⟨#[45]⟩
              · have he1 : (xe.toList == [45]) = true := by rw [lit_eq]; exact decide_eq_true he
                have c2 := HA.out.c2
                have yd' := (Hy.out wr HQ.out).2.1
                have HBz : Hid (Below w.heap.size w wr) := HB1.out.trans ((HB2.out.trans ((show Below w2.heap.size w2 wr by rw [hab]; exact HQ.out).mono HB2.out.size)).mono hb1)
                by_cases hkd0 : kd = 0
                · have hn : partAc p = none := by
                    rw [Hpa.out]
                    unfold ofWords
                    rw [if_neg (by rintro ⟨h1, _⟩; exact h1 (by rw [Hkd.out]; exact hkd0))]
                  have er : res = ([], k, 2) := by
                    have hb : partBad acc p = 2 := by unfold partBad; rw [hn]
                    have := HG1.out (by rw [hb]; decide)
                    rw [hb] at this
                    exact this
                  subst er
                  have hkq : (kd == 0) = true := by simp [hkd0]
                  clear HG1 HG2 HR2 HA HQ Hy hn
                  go_wp2
                  go_ret3
                  exact ⟨_, rfl, World.ownsRow_nil _ _ _ _, HBz.out⟩
                · have hkq : (kd == 0) = false := by simp [hkd0]
                  by_cases hdm : xd = ⟨#[109]⟩
                  · have hm : mon = true := by rw [Hmon.out]; simp [hdm]
                    subst hm
                    have hsome : partAc p = some ⟨xa, xb, kd, ⟨#[]⟩, true⟩ := by
                      rw [Hpa.out]
                      unfold ofWords
                      rw [if_pos ⟨by rw [Hkd.out]; exact hkd0, .inl hdm, by simp [he]⟩, Hkd.out, ← Hmon.out]
                      rw [if_pos he]
                    have hpb : partBad acc p = if 60 ≤ acc.length then 4 else nextBad acc ⟨xa, xb, kd, ⟨#[]⟩, true⟩ := by unfold partBad; rw [hsome]
                    by_cases h60 : k = 60
                    · have er : res = ([], k, 4) := by
                        rw [if_pos (by omega)] at hpb
                        have := HG1.out (by rw [hpb]; decide)
                        rw [hpb] at this
                        exact this
                      subst er
                      have hk60 : ((k : Int) == 60) = true := by simp; omega
                      clear hpb hsome h60 HG1 HG2 HR2 HA HQ Hy
                      go_wp2
                      go_ret3
                      exact ⟨_, rfl, World.ownsRow_nil _ _ _ _, HBz.out⟩
                    · have hk60 : ((k : Int) == 60) = false := by simp; omega
                      rw [if_neg (by omega)] at hpb
                      have Hpb : Hid (partBad acc p = _) := hpb
                      have Hsome : Hid (partAc p = _) := hsome
                      have HQ' : Below w2.heap.size w2 wr := by rw [hab]; exact HQ.out
                      have R5 := HR2.out.below HQ'
                      have hoj := R5.own
                      have BB : Below w1.heap.size w1 wr := HB2.out.trans (HQ'.mono HB2.out.size)
                      have hsz5 := BB.size
                      have m0 := HA.out.c0
                      have m1 := HA.out.c1
                      have m2 := HA.out.c2
                      have m3 := HA.out.c3
                      have m4 := HA.out.c4
                      have hown5 := World.ownsRow.alloc R5 (.cells #[.string xa, .string xb, .int .i64 kd, .string ⟨#[]⟩, .bool true] 33)
                      rw [hacck] at hown5
                      have Hown5 : Hid (World.ownsRow _ _ _ _ _ _ _) := hown5
                      have s2 : Hid (k + 1 ≤ maxLen) := by unfold Hid maxLen; omega
                      have s3 : Hid ((k + 1) * 64 ≤ 140737488355328) := by unfold Hid; omega
                      have Hacck : Hid (acc.length = k) := hacck
                      have Hacc : Hid (acc.length ≤ 60) := hacc
                      have hk60n : k ≤ 59 := by omega
                      clear hpb hsome hown5 R5 HR2 HQ' HA HQ Hy hacck hacc hak
                      go_wp2_with (at_builtin; refine wpList_append_own _ rfl _ _ 22 rfl w1.heap.size 33 q0 (.agg #[.string ByteArray.empty, .string ByteArray.empty, .int .i64 0, .string ByteArray.empty, .bool false]) 5 64 Tryd.underlying22 hq hq0 hq1 hq2 rfl (by decide) _ _ _ rfl Hown5.out ⟨wr.heap.size, 0, none⟩ 1 1 [.string xa, .string xb, .int .i64 kd, .string ⟨#[]⟩, .bool true] rfl rfl (qa_cells _ _ _ _ _ _) (qa_one _ _ _ _ _) s2.out s3.out (by simp; omega) ?_)
                      intro v' u7 hown hgrow _
                      have B7 : Below w1.heap.size w1 u7 := (BB.alloc hsz5 (.cells #[.string xa, .string xb, .int .i64 kd, .string ⟨#[]⟩, .bool true] 33)).grown hgrow (by simp; omega) (fun j e => hoj j e)
                      have R7 : AcRow u7 w1.heap.size v' (acc ++ [⟨xa, xb, kd, ⟨#[]⟩, true⟩]) := by
                        unfold AcRow
                        rw [rowOf_snoc, List.length_append, Hacck.out]
                        exact hown
                      obtain ⟨a7, c7, ev7, is7⟩ := row_isSl R7
                      have hl7 : (acc ++ [(⟨xa, xb, kd, ⟨#[]⟩, true⟩ : Ac)]).length = k + 1 := by rw [List.length_append, Hacck.out]; rfl
                      rw [hl7] at ev7
                      subst ev7
                      have is7c := is7.cap
                      rcases is7.lies with h0 | ⟨b7, o7, rfl, hb7, hc7⟩
                      · simp at h0
                      have hgk : (acc ++ [(⟨xa, xb, kd, ⟨#[]⟩, true⟩ : Ac)]).getD k ac0 = ⟨xa, xb, kd, ⟨#[]⟩, true⟩ := by
                        rw [← Hacck.out]
                        simp [List.getD]
                      have htk : (acc ++ [(⟨xa, xb, kd, ⟨#[]⟩, true⟩ : Ac)]).take k = acc := by
                        rw [← Hacck.out]
                        exact List.take_left
                      have hAcc := refAccount_any b7 o7 c7 k (acc ++ [⟨xa, xb, kd, ⟨#[]⟩, true⟩]) u7 (by rw [hl7]; omega) (by rw [hl7]; omega) is7c hb7 hc7 (by rw [hgk]; unfold maxLen; exact ⟨by show xa.size ≤ _; omega, by show xb.size ≤ _; omega⟩)
                      rw [hl7, hgk, htk] at hAcc
                      have HAcc : Hid (Calls _ _ _ _ _) := hAcc
                      have HR7 : Hid (AcRow u7 w1.heap.size (.slice (some ⟨b7, o7, none⟩) (k + 1) c7) _) := R7
                      have HB7 : Hid (Below w1.heap.size w1 u7) := B7
                      clear hown hgrow Hown5 BB R7 B7 is7 is7c hc7 hgk htk hAcc hoj m0 m1 m2 m3 m4 s2 s3
                      obtain ⟨nb, hnb⟩ : ∃ nb, nextBad acc ⟨xa, xb, kd, ⟨#[]⟩, true⟩ = nb := ⟨_, rfl⟩
                      rw [hnb] at HAcc Hpb
                      clear hnb
                      go_wp2_with fail
                      refine HAcc.out.mono ?_
                      rintro e u8 ⟨rfl, b8⟩
                      have HB8 : Hid (Below w1.heap.size w1 u8) := HB7.out.trans (b8.mono HB7.out.size)
                      have HR8 : Hid (AcRow u8 w1.heap.size _ _) := HR7.out.below b8
                      clear HAcc HB7 HR7 b8
                      by_cases hnz : nb = 0
                      · have HN : Hid (partsGo (acc ++ [⟨xa, xb, kd, ⟨#[]⟩, true⟩]) (k + 1) (ps.drop (k + 1)) = res) := by
                          unfold Hid
                          have := HG2.out (by rw [Hpb.out]; exact hnz)
                          rw [Hsome.out] at this
                          exact this
                        subst hnz
                        clear HG1 HG2 Hpb Hsome
                        go_wp2
                        go_roundw
                        case rel => exact ⟨k + 1, _, by omega, by go_num, by rw [hl7]; omega, fun _ => hl7, HN, HR8, HB8.out⟩
                        case measure => simp [intOf]; omega
                      · have er : res = ([], k, nb) := by
                          have := HG1.out (by rw [Hpb.out]; exact hnz)
                          rw [Hpb.out] at this
                          exact this
                        subst er
                        have HBz : Hid (Below w.heap.size w u8) := HB1.out.trans (HB8.out.mono hb1)
                        have hnq : (nb != 0) = true := by simp [hnz]
                        clear HG1 HG2 Hpb Hsome HR8 hl7
                        go_wp2
                        go_ret3
                        exact ⟨_, rfl, World.ownsRow_nil _ _ _ _, HBz.out⟩
                  · have hm : mon = false := by rw [Hmon.out]; simp [hdm]
                    subst hm
                    by_cases hdd : xd = ⟨#[45]⟩
                    · have hd2 : (xd.toList == [45]) = true := by rw [lit_eq]; exact decide_eq_true hdd
                      have hsome : partAc p = some ⟨xa, xb, kd, ⟨#[]⟩, false⟩ := by
                        rw [Hpa.out]
                        unfold ofWords
                        rw [if_pos ⟨by rw [Hkd.out]; exact hkd0, .inr hdd, by simp [he]⟩, Hkd.out, ← Hmon.out]
                        rw [if_pos he]
                      have hpb : partBad acc p = if 60 ≤ acc.length then 4 else nextBad acc ⟨xa, xb, kd, ⟨#[]⟩, false⟩ := by unfold partBad; rw [hsome]
                      by_cases h60 : k = 60
                      · have er : res = ([], k, 4) := by
                          rw [if_pos (by omega)] at hpb
                          have := HG1.out (by rw [hpb]; decide)
                          rw [hpb] at this
                          exact this
                        subst er
                        have hk60 : ((k : Int) == 60) = true := by simp; omega
                        clear hpb hsome h60 HG1 HG2 HR2 HA HQ Hy
                        go_wp2
                        go_ret3
                        exact ⟨_, rfl, World.ownsRow_nil _ _ _ _, HBz.out⟩
                      · have hk60 : ((k : Int) == 60) = false := by simp; omega
                        rw [if_neg (by omega)] at hpb
                        have Hpb : Hid (partBad acc p = _) := hpb
                        have Hsome : Hid (partAc p = _) := hsome
                        have HQ' : Below w2.heap.size w2 wr := by rw [hab]; exact HQ.out
                        have R5 := HR2.out.below HQ'
                        have hoj := R5.own
                        have BB : Below w1.heap.size w1 wr := HB2.out.trans (HQ'.mono HB2.out.size)
                        have hsz5 := BB.size
                        have m0 := HA.out.c0
                        have m1 := HA.out.c1
                        have m2 := HA.out.c2
                        have m3 := HA.out.c3
                        have m4 := HA.out.c4
                        have hown5 := World.ownsRow.alloc R5 (.cells #[.string xa, .string xb, .int .i64 kd, .string ⟨#[]⟩, .bool false] 33)
                        rw [hacck] at hown5
                        have Hown5 : Hid (World.ownsRow _ _ _ _ _ _ _) := hown5
                        have s2 : Hid (k + 1 ≤ maxLen) := by unfold Hid maxLen; omega
                        have s3 : Hid ((k + 1) * 64 ≤ 140737488355328) := by unfold Hid; omega
                        have Hacck : Hid (acc.length = k) := hacck
                        have Hacc : Hid (acc.length ≤ 60) := hacc
                        have hk60n : k ≤ 59 := by omega
                        clear hpb hsome hown5 R5 HR2 HQ' HA HQ Hy hacck hacc hak
                        go_wp2_with (at_builtin; refine wpList_append_own _ rfl _ _ 22 rfl w1.heap.size 33 q0 (.agg #[.string ByteArray.empty, .string ByteArray.empty, .int .i64 0, .string ByteArray.empty, .bool false]) 5 64 Tryd.underlying22 hq hq0 hq1 hq2 rfl (by decide) _ _ _ rfl Hown5.out ⟨wr.heap.size, 0, none⟩ 1 1 [.string xa, .string xb, .int .i64 kd, .string ⟨#[]⟩, .bool false] rfl rfl (qa_cells _ _ _ _ _ _) (qa_one _ _ _ _ _) s2.out s3.out (by simp; omega) ?_)
                        intro v' u7 hown hgrow _
                        have B7 : Below w1.heap.size w1 u7 := (BB.alloc hsz5 (.cells #[.string xa, .string xb, .int .i64 kd, .string ⟨#[]⟩, .bool false] 33)).grown hgrow (by simp; omega) (fun j e => hoj j e)
                        have R7 : AcRow u7 w1.heap.size v' (acc ++ [⟨xa, xb, kd, ⟨#[]⟩, false⟩]) := by
                          unfold AcRow
                          rw [rowOf_snoc, List.length_append, Hacck.out]
                          exact hown
                        obtain ⟨a7, c7, ev7, is7⟩ := row_isSl R7
                        have hl7 : (acc ++ [(⟨xa, xb, kd, ⟨#[]⟩, false⟩ : Ac)]).length = k + 1 := by rw [List.length_append, Hacck.out]; rfl
                        rw [hl7] at ev7
                        subst ev7
                        have is7c := is7.cap
                        rcases is7.lies with h0 | ⟨b7, o7, rfl, hb7, hc7⟩
                        · simp at h0
                        have hgk : (acc ++ [(⟨xa, xb, kd, ⟨#[]⟩, false⟩ : Ac)]).getD k ac0 = ⟨xa, xb, kd, ⟨#[]⟩, false⟩ := by
                          rw [← Hacck.out]
                          simp [List.getD]
                        have htk : (acc ++ [(⟨xa, xb, kd, ⟨#[]⟩, false⟩ : Ac)]).take k = acc := by
                          rw [← Hacck.out]
                          exact List.take_left
                        have hAcc := refAccount_any b7 o7 c7 k (acc ++ [⟨xa, xb, kd, ⟨#[]⟩, false⟩]) u7 (by rw [hl7]; omega) (by rw [hl7]; omega) is7c hb7 hc7 (by rw [hgk]; unfold maxLen; exact ⟨by show xa.size ≤ _; omega, by show xb.size ≤ _; omega⟩)
                        rw [hl7, hgk, htk] at hAcc
                        have HAcc : Hid (Calls _ _ _ _ _) := hAcc
                        have HR7 : Hid (AcRow u7 w1.heap.size (.slice (some ⟨b7, o7, none⟩) (k + 1) c7) _) := R7
                        have HB7 : Hid (Below w1.heap.size w1 u7) := B7
                        clear hown hgrow Hown5 BB R7 B7 is7 is7c hc7 hgk htk hAcc hoj m0 m1 m2 m3 m4 s2 s3
                        obtain ⟨nb, hnb⟩ : ∃ nb, nextBad acc ⟨xa, xb, kd, ⟨#[]⟩, false⟩ = nb := ⟨_, rfl⟩
                        rw [hnb] at HAcc Hpb
                        clear hnb
                        go_wp2_with fail
                        refine HAcc.out.mono ?_
                        rintro e u8 ⟨rfl, b8⟩
                        have HB8 : Hid (Below w1.heap.size w1 u8) := HB7.out.trans (b8.mono HB7.out.size)
                        have HR8 : Hid (AcRow u8 w1.heap.size _ _) := HR7.out.below b8
                        clear HAcc HB7 HR7 b8
                        by_cases hnz : nb = 0
                        · have HN : Hid (partsGo (acc ++ [⟨xa, xb, kd, ⟨#[]⟩, false⟩]) (k + 1) (ps.drop (k + 1)) = res) := by
                            unfold Hid
                            have := HG2.out (by rw [Hpb.out]; exact hnz)
                            rw [Hsome.out] at this
                            exact this
                          subst hnz
                          clear HG1 HG2 Hpb Hsome
                          go_wp2
                          go_roundw
                          case rel => exact ⟨k + 1, _, by omega, by go_num, by rw [hl7]; omega, fun _ => hl7, HN, HR8, HB8.out⟩
                          case measure => simp [intOf]; omega
                        · have er : res = ([], k, nb) := by
                            have := HG1.out (by rw [Hpb.out]; exact hnz)
                            rw [Hpb.out] at this
                            exact this
                          subst er
                          have HBz : Hid (Below w.heap.size w u8) := HB1.out.trans (HB8.out.mono hb1)
                          have hnq : (nb != 0) = true := by simp [hnz]
                          clear HG1 HG2 Hpb Hsome HR8 hl7
                          go_wp2
                          go_ret3
                          exact ⟨_, rfl, World.ownsRow_nil _ _ _ _, HBz.out⟩
                    · have hd2 : (xd.toList == [45]) = false := by rw [lit_eq]; exact decide_eq_false hdd
                      have hn : partAc p = none := by
                        rw [Hpa.out]
                        unfold ofWords
                        rw [if_neg (by rintro ⟨_, h1 | h1, _⟩; exact hdm h1; exact hdd h1)]
                      have er : res = ([], k, 2) := by
                        have hb : partBad acc p = 2 := by unfold partBad; rw [hn]
                        have := HG1.out (by rw [hb]; decide)
                        rw [hb] at this
                        exact this
                      subst er
                      clear HG1 HG2 HR2 HA HQ Hy hn
                      go_wp2
                      go_ret3
                      exact ⟨_, rfl, World.ownsRow_nil _ _ _ _, HBz.out⟩
              · have he1 : (xe.toList == [45]) = false := by rw [lit_eq]; exact decide_eq_false he
                have c3 := HA.out.c3
                have f3 := HA.out.fz 3
                have x4 := HA.out.par xe
                have c34 := x4.c3
                have HA4 : Hid (ABox (wr.setCell ⟨ab, 3, none⟩ (.string xe)) ab ⟨xa, xb, kd, xe, mon⟩) := x4
                have HQ4 : Hid (Below ab w2 (wr.setCell ⟨ab, 3, none⟩ (.string xe))) := HQ.out.setCell (p := ⟨ab, 3, none⟩) (Nat.le_refl _) (.string xe)
                have hDi := refDigits_any xe 6 (wr.setCell ⟨ab, 3, none⟩ (.string xe)) (by unfold maxLen; omega)
                obtain ⟨di, hdi⟩ : ∃ di, madeOf digR 6 xe = di := ⟨_, rfl⟩
                rw [hdi] at hDi
                have HDi : Hid (Calls _ _ _ _ _) := hDi
                have Hdi : Hid (isCodeB xe = di) := hdi
                clear hDi hdi x4 HA HQ
                go_wp2_with fail
                refine HDi.out.mono ?_
                rintro e wz ⟨rfl, hwz⟩
                rw [← hwz] at HA4 HQ4
                clear HDi hwz c3 f3 c34 yc yd ye
                have HA : Hid (ABox wz ab _) := HA4
                have HQ : Hid (Below ab w2 wz) := HQ4
                clear HA4 HQ4
                cases di
                · have HBz : Hid (Below w.heap.size w wz) := HB1.out.trans ((HB2.out.trans ((show Below w2.heap.size w2 wz by rw [hab]; exact HQ.out).mono HB2.out.size)).mono hb1)
                  have hn : partAc p = none := by
                    rw [Hpa.out]
                    unfold ofWords
                    rw [if_neg (by rintro ⟨_, _, h1⟩; rw [Hdi.out] at h1; simp [he] at h1)]
                  have er : res = ([], k, 2) := by
                    have hb : partBad acc p = 2 := by unfold partBad; rw [hn]
                    have := HG1.out (by rw [hb]; decide)
                    rw [hb] at this
                    exact this
                  subst er
                  clear HG1 HG2 HR2 HA HQ Hy hn
                  go_wp2
                  go_ret3
                  exact ⟨_, rfl, World.ownsRow_nil _ _ _ _, HBz.out⟩
                · have c2 := HA.out.c2
                  have yd' := (Hy.out wz HQ.out).2.1
                  have HBz : Hid (Below w.heap.size w wz) := HB1.out.trans ((HB2.out.trans ((show Below w2.heap.size w2 wz by rw [hab]; exact HQ.out).mono HB2.out.size)).mono hb1)
                  by_cases hkd0 : kd = 0
                  · have hn : partAc p = none := by
                      rw [Hpa.out]
                      unfold ofWords
                      rw [if_neg (by rintro ⟨h1, _⟩; exact h1 (by rw [Hkd.out]; exact hkd0))]
                    have er : res = ([], k, 2) := by
                      have hb : partBad acc p = 2 := by unfold partBad; rw [hn]
                      have := HG1.out (by rw [hb]; decide)
                      rw [hb] at this
                      exact this
                    subst er
                    have hkq : (kd == 0) = true := by simp [hkd0]
                    clear HG1 HG2 HR2 HA HQ Hy hn
                    go_wp2
                    go_ret3
                    exact ⟨_, rfl, World.ownsRow_nil _ _ _ _, HBz.out⟩
                  · have hkq : (kd == 0) = false := by simp [hkd0]
                    by_cases hdm : xd = ⟨#[109]⟩
                    · have hm : mon = true := by rw [Hmon.out]; simp [hdm]
                      subst hm
                      have hsome : partAc p = some ⟨xa, xb, kd, xe, true⟩ := by
                        rw [Hpa.out]
                        unfold ofWords
                        rw [if_pos ⟨by rw [Hkd.out]; exact hkd0, .inl hdm, by rw [Hdi.out]; simp⟩, Hkd.out, ← Hmon.out]
                        rw [if_neg he]
                      have hpb : partBad acc p = if 60 ≤ acc.length then 4 else nextBad acc ⟨xa, xb, kd, xe, true⟩ := by unfold partBad; rw [hsome]
                      by_cases h60 : k = 60
                      · have er : res = ([], k, 4) := by
                          rw [if_pos (by omega)] at hpb
                          have := HG1.out (by rw [hpb]; decide)
                          rw [hpb] at this
                          exact this
                        subst er
                        have hk60 : ((k : Int) == 60) = true := by simp; omega
                        clear hpb hsome h60 HG1 HG2 HR2 HA HQ Hy
                        go_wp2
                        go_ret3
                        exact ⟨_, rfl, World.ownsRow_nil _ _ _ _, HBz.out⟩
                      · have hk60 : ((k : Int) == 60) = false := by simp; omega
                        rw [if_neg (by omega)] at hpb
                        have Hpb : Hid (partBad acc p = _) := hpb
                        have Hsome : Hid (partAc p = _) := hsome
                        have HQ' : Below w2.heap.size w2 wz := by rw [hab]; exact HQ.out
                        have R5 := HR2.out.below HQ'
                        have hoj := R5.own
                        have BB : Below w1.heap.size w1 wz := HB2.out.trans (HQ'.mono HB2.out.size)
                        have hsz5 := BB.size
                        have m0 := HA.out.c0
                        have m1 := HA.out.c1
                        have m2 := HA.out.c2
                        have m3 := HA.out.c3
                        have m4 := HA.out.c4
                        have hown5 := World.ownsRow.alloc R5 (.cells #[.string xa, .string xb, .int .i64 kd, .string xe, .bool true] 33)
                        rw [hacck] at hown5
                        have Hown5 : Hid (World.ownsRow _ _ _ _ _ _ _) := hown5
                        have s2 : Hid (k + 1 ≤ maxLen) := by unfold Hid maxLen; omega
                        have s3 : Hid ((k + 1) * 64 ≤ 140737488355328) := by unfold Hid; omega
                        have Hacck : Hid (acc.length = k) := hacck
                        have Hacc : Hid (acc.length ≤ 60) := hacc
                        have hk60n : k ≤ 59 := by omega
                        clear hpb hsome hown5 R5 HR2 HQ' HA HQ Hy hacck hacc hak
                        go_wp2_with (at_builtin; refine wpList_append_own _ rfl _ _ 22 rfl w1.heap.size 33 q0 (.agg #[.string ByteArray.empty, .string ByteArray.empty, .int .i64 0, .string ByteArray.empty, .bool false]) 5 64 Tryd.underlying22 hq hq0 hq1 hq2 rfl (by decide) _ _ _ rfl Hown5.out ⟨wz.heap.size, 0, none⟩ 1 1 [.string xa, .string xb, .int .i64 kd, .string xe, .bool true] rfl rfl (qa_cells _ _ _ _ _ _) (qa_one _ _ _ _ _) s2.out s3.out (by simp; omega) ?_)
                        intro v' u7 hown hgrow _
                        have B7 : Below w1.heap.size w1 u7 := (BB.alloc hsz5 (.cells #[.string xa, .string xb, .int .i64 kd, .string xe, .bool true] 33)).grown hgrow (by simp; omega) (fun j e => hoj j e)
                        have R7 : AcRow u7 w1.heap.size v' (acc ++ [⟨xa, xb, kd, xe, true⟩]) := by
                          unfold AcRow
                          rw [rowOf_snoc, List.length_append, Hacck.out]
                          exact hown
                        obtain ⟨a7, c7, ev7, is7⟩ := row_isSl R7
                        have hl7 : (acc ++ [(⟨xa, xb, kd, xe, true⟩ : Ac)]).length = k + 1 := by rw [List.length_append, Hacck.out]; rfl
                        rw [hl7] at ev7
                        subst ev7
                        have is7c := is7.cap
                        rcases is7.lies with h0 | ⟨b7, o7, rfl, hb7, hc7⟩
                        · simp at h0
                        have hgk : (acc ++ [(⟨xa, xb, kd, xe, true⟩ : Ac)]).getD k ac0 = ⟨xa, xb, kd, xe, true⟩ := by
                          rw [← Hacck.out]
                          simp [List.getD]
                        have htk : (acc ++ [(⟨xa, xb, kd, xe, true⟩ : Ac)]).take k = acc := by
                          rw [← Hacck.out]
                          exact List.take_left
                        have hAcc := refAccount_any b7 o7 c7 k (acc ++ [⟨xa, xb, kd, xe, true⟩]) u7 (by rw [hl7]; omega) (by rw [hl7]; omega) is7c hb7 hc7 (by rw [hgk]; unfold maxLen; exact ⟨by show xa.size ≤ _; omega, by show xb.size ≤ _; omega⟩)
                        rw [hl7, hgk, htk] at hAcc
                        have HAcc : Hid (Calls _ _ _ _ _) := hAcc
                        have HR7 : Hid (AcRow u7 w1.heap.size (.slice (some ⟨b7, o7, none⟩) (k + 1) c7) _) := R7
                        have HB7 : Hid (Below w1.heap.size w1 u7) := B7
                        clear hown hgrow Hown5 BB R7 B7 is7 is7c hc7 hgk htk hAcc hoj m0 m1 m2 m3 m4 s2 s3
                        obtain ⟨nb, hnb⟩ : ∃ nb, nextBad acc ⟨xa, xb, kd, xe, true⟩ = nb := ⟨_, rfl⟩
                        rw [hnb] at HAcc Hpb
                        clear hnb
                        go_wp2_with fail
                        refine HAcc.out.mono ?_
                        rintro e u8 ⟨rfl, b8⟩
                        have HB8 : Hid (Below w1.heap.size w1 u8) := HB7.out.trans (b8.mono HB7.out.size)
                        have HR8 : Hid (AcRow u8 w1.heap.size _ _) := HR7.out.below b8
                        clear HAcc HB7 HR7 b8
                        by_cases hnz : nb = 0
                        · have HN : Hid (partsGo (acc ++ [⟨xa, xb, kd, xe, true⟩]) (k + 1) (ps.drop (k + 1)) = res) := by
                            unfold Hid
                            have := HG2.out (by rw [Hpb.out]; exact hnz)
                            rw [Hsome.out] at this
                            exact this
                          subst hnz
                          clear HG1 HG2 Hpb Hsome
                          go_wp2
                          go_roundw
                          case rel => exact ⟨k + 1, _, by omega, by go_num, by rw [hl7]; omega, fun _ => hl7, HN, HR8, HB8.out⟩
                          case measure => simp [intOf]; omega
                        · have er : res = ([], k, nb) := by
                            have := HG1.out (by rw [Hpb.out]; exact hnz)
                            rw [Hpb.out] at this
                            exact this
                          subst er
                          have HBz : Hid (Below w.heap.size w u8) := HB1.out.trans (HB8.out.mono hb1)
                          have hnq : (nb != 0) = true := by simp [hnz]
                          clear HG1 HG2 Hpb Hsome HR8 hl7
                          go_wp2
                          go_ret3
                          exact ⟨_, rfl, World.ownsRow_nil _ _ _ _, HBz.out⟩
                    · have hm : mon = false := by rw [Hmon.out]; simp [hdm]
                      subst hm
                      by_cases hdd : xd = ⟨#[45]⟩
                      · have hd2 : (xd.toList == [45]) = true := by rw [lit_eq]; exact decide_eq_true hdd
                        have hsome : partAc p = some ⟨xa, xb, kd, xe, false⟩ := by
                          rw [Hpa.out]
                          unfold ofWords
                          rw [if_pos ⟨by rw [Hkd.out]; exact hkd0, .inr hdd, by rw [Hdi.out]; simp⟩, Hkd.out, ← Hmon.out]
                          rw [if_neg he]
                        have hpb : partBad acc p = if 60 ≤ acc.length then 4 else nextBad acc ⟨xa, xb, kd, xe, false⟩ := by unfold partBad; rw [hsome]
                        by_cases h60 : k = 60
                        · have er : res = ([], k, 4) := by
                            rw [if_pos (by omega)] at hpb
                            have := HG1.out (by rw [hpb]; decide)
                            rw [hpb] at this
                            exact this
                          subst er
                          have hk60 : ((k : Int) == 60) = true := by simp; omega
                          clear hpb hsome h60 HG1 HG2 HR2 HA HQ Hy
                          go_wp2
                          go_ret3
                          exact ⟨_, rfl, World.ownsRow_nil _ _ _ _, HBz.out⟩
                        · have hk60 : ((k : Int) == 60) = false := by simp; omega
                          rw [if_neg (by omega)] at hpb
                          have Hpb : Hid (partBad acc p = _) := hpb
                          have Hsome : Hid (partAc p = _) := hsome
                          have HQ' : Below w2.heap.size w2 wz := by rw [hab]; exact HQ.out
                          have R5 := HR2.out.below HQ'
                          have hoj := R5.own
                          have BB : Below w1.heap.size w1 wz := HB2.out.trans (HQ'.mono HB2.out.size)
                          have hsz5 := BB.size
                          have m0 := HA.out.c0
                          have m1 := HA.out.c1
                          have m2 := HA.out.c2
                          have m3 := HA.out.c3
                          have m4 := HA.out.c4
                          have hown5 := World.ownsRow.alloc R5 (.cells #[.string xa, .string xb, .int .i64 kd, .string xe, .bool false] 33)
                          rw [hacck] at hown5
                          have Hown5 : Hid (World.ownsRow _ _ _ _ _ _ _) := hown5
                          have s2 : Hid (k + 1 ≤ maxLen) := by unfold Hid maxLen; omega
                          have s3 : Hid ((k + 1) * 64 ≤ 140737488355328) := by unfold Hid; omega
                          have Hacck : Hid (acc.length = k) := hacck
                          have Hacc : Hid (acc.length ≤ 60) := hacc
                          have hk60n : k ≤ 59 := by omega
                          clear hpb hsome hown5 R5 HR2 HQ' HA HQ Hy hacck hacc hak
                          go_wp2_with (at_builtin; refine wpList_append_own _ rfl _ _ 22 rfl w1.heap.size 33 q0 (.agg #[.string ByteArray.empty, .string ByteArray.empty, .int .i64 0, .string ByteArray.empty, .bool false]) 5 64 Tryd.underlying22 hq hq0 hq1 hq2 rfl (by decide) _ _ _ rfl Hown5.out ⟨wz.heap.size, 0, none⟩ 1 1 [.string xa, .string xb, .int .i64 kd, .string xe, .bool false] rfl rfl (qa_cells _ _ _ _ _ _) (qa_one _ _ _ _ _) s2.out s3.out (by simp; omega) ?_)
                          intro v' u7 hown hgrow _
                          have B7 : Below w1.heap.size w1 u7 := (BB.alloc hsz5 (.cells #[.string xa, .string xb, .int .i64 kd, .string xe, .bool false] 33)).grown hgrow (by simp; omega) (fun j e => hoj j e)
                          have R7 : AcRow u7 w1.heap.size v' (acc ++ [⟨xa, xb, kd, xe, false⟩]) := by
                            unfold AcRow
                            rw [rowOf_snoc, List.length_append, Hacck.out]
                            exact hown
                          obtain ⟨a7, c7, ev7, is7⟩ := row_isSl R7
                          have hl7 : (acc ++ [(⟨xa, xb, kd, xe, false⟩ : Ac)]).length = k + 1 := by rw [List.length_append, Hacck.out]; rfl
                          rw [hl7] at ev7
                          subst ev7
                          have is7c := is7.cap
                          rcases is7.lies with h0 | ⟨b7, o7, rfl, hb7, hc7⟩
                          · simp at h0
                          have hgk : (acc ++ [(⟨xa, xb, kd, xe, false⟩ : Ac)]).getD k ac0 = ⟨xa, xb, kd, xe, false⟩ := by
                            rw [← Hacck.out]
                            simp [List.getD]
                          have htk : (acc ++ [(⟨xa, xb, kd, xe, false⟩ : Ac)]).take k = acc := by
                            rw [← Hacck.out]
                            exact List.take_left
                          have hAcc := refAccount_any b7 o7 c7 k (acc ++ [⟨xa, xb, kd, xe, false⟩]) u7 (by rw [hl7]; omega) (by rw [hl7]; omega) is7c hb7 hc7 (by rw [hgk]; unfold maxLen; exact ⟨by show xa.size ≤ _; omega, by show xb.size ≤ _; omega⟩)
                          rw [hl7, hgk, htk] at hAcc
                          have HAcc : Hid (Calls _ _ _ _ _) := hAcc
                          have HR7 : Hid (AcRow u7 w1.heap.size (.slice (some ⟨b7, o7, none⟩) (k + 1) c7) _) := R7
                          have HB7 : Hid (Below w1.heap.size w1 u7) := B7
                          clear hown hgrow Hown5 BB R7 B7 is7 is7c hc7 hgk htk hAcc hoj m0 m1 m2 m3 m4 s2 s3
                          obtain ⟨nb, hnb⟩ : ∃ nb, nextBad acc ⟨xa, xb, kd, xe, false⟩ = nb := ⟨_, rfl⟩
                          rw [hnb] at HAcc Hpb
                          clear hnb
                          go_wp2_with fail
                          refine HAcc.out.mono ?_
                          rintro e u8 ⟨rfl, b8⟩
                          have HB8 : Hid (Below w1.heap.size w1 u8) := HB7.out.trans (b8.mono HB7.out.size)
                          have HR8 : Hid (AcRow u8 w1.heap.size _ _) := HR7.out.below b8
                          clear HAcc HB7 HR7 b8
                          by_cases hnz : nb = 0
                          · have HN : Hid (partsGo (acc ++ [⟨xa, xb, kd, xe, false⟩]) (k + 1) (ps.drop (k + 1)) = res) := by
                              unfold Hid
                              have := HG2.out (by rw [Hpb.out]; exact hnz)
                              rw [Hsome.out] at this
                              exact this
                            subst hnz
                            clear HG1 HG2 Hpb Hsome
                            go_wp2
                            go_roundw
                            case rel => exact ⟨k + 1, _, by omega, by go_num, by rw [hl7]; omega, fun _ => hl7, HN, HR8, HB8.out⟩
                            case measure => simp [intOf]; omega
                          · have er : res = ([], k, nb) := by
                              have := HG1.out (by rw [Hpb.out]; exact hnz)
                              rw [Hpb.out] at this
                              exact this
                            subst er
                            have HBz : Hid (Below w.heap.size w u8) := HB1.out.trans (HB8.out.mono hb1)
                            have hnq : (nb != 0) = true := by simp [hnz]
                            clear HG1 HG2 Hpb Hsome HR8 hl7
                            go_wp2
                            go_ret3
                            exact ⟨_, rfl, World.ownsRow_nil _ _ _ _, HBz.out⟩
                      · have hd2 : (xd.toList == [45]) = false := by rw [lit_eq]; exact decide_eq_false hdd
                        have hn : partAc p = none := by
                          rw [Hpa.out]
                          unfold ofWords
                          rw [if_neg (by rintro ⟨_, h1 | h1, _⟩; exact hdm h1; exact hdd h1)]
                        have er : res = ([], k, 2) := by
                          have hb : partBad acc p = 2 := by unfold partBad; rw [hn]
                          have := HG1.out (by rw [hb]; decide)
                          rw [hb] at this
                          exact this
                        subst er
                        clear HG1 HG2 HR2 HA HQ Hy hn
                        go_wp2
                        go_ret3
                        exact ⟨_, rfl, World.ownsRow_nil _ _ _ _, HBz.out⟩
        · have hn : partAc p = none := by
            unfold partAc
            split
            · rename_i e
              have := congrArg List.length e
              rw [List.length_map] at this
              exact absurd this h5
            · rfl
          have er : res = ([], k, 2) := by
            have hb : partBad acc p = 2 := by unfold partBad; rw [hn]
            have := HG1.out (by rw [hb]; decide)
            rw [hb] at this
            exact this
          subst er
          obtain ⟨av, cv, ev⟩ : ∃ av cv, v2 = .slice av (cutL 32 p).length cv := by
            rcases r2.form with ⟨_, h0⟩ | ⟨g2, c2, e, _⟩
            · exact absurd (List.map_eq_nil_iff.1 h0) (cutL_ne 32 p)
            · rw [List.length_map] at e
              exact ⟨_, _, e⟩
          subst ev
          have HBz : Hid (Below w.heap.size w w2) := HB1.out.trans (HB2.out.mono hb1)
          have h5' : (((cutL 32 p).length : Int) != 5) = true := by simp; omega
          have h5b : (cutL 32 p).length ≤ 1048577 := by
            rw [cutL_length]
            have : p.count 32 ≤ p.length := List.count_le_length
            omega
          generalize (cutL 32 p).length = n5 at *
          clear HCut r2 b2 HG1 HG2 HB2 HR2 R hn
          go_wp2
          go_ret3
          exact ⟨_, rfl, World.ownsRow_nil _ _ _ _, HBz.out⟩
    · have hkN : k = N := by omega
      have er : res = (acc, 0, 0) := by
        rw [← G.out, List.drop_eq_nil_of_le (by rw [HN0.out]; omega)]
        rfl
      subst er
      have HBz : Hid (Below w.heap.size w wr) := HB1.out.trans (BW.mono hb1)
      have HRz := R.out.mono hb1
      have HRz : Hid (AcRow wr w.heap.size _ acc) := HRz
      have i1 : ¬ (k : Int) < N := by omega
      clear G hak hkN R
      go_wp2
      go_ret3
      exact ⟨_, rfl, HRz.out, HBz.out⟩
end Go.Proofs.YtgpddkajlkckjaaDoor
