/-
  What a log's calls keep; the contract of its place.
-/
import Derived.Test.YteledlbcbcnidaaDoorZy8
import Derived.Test.YteledlbcbcnidaaDoorZy0
namespace Go.Proofs.YteledlbcbcnidaaDoor
set_option linter.unusedVariables false
set_option linter.unusedSimpArgs false
set_option maxRecDepth 100000
open Go.RowKit Go.Lib
theorem PmRow.cap {W : World} {base : Nat} {v : Value} {xs : List Pm} (h : PmRow W base v xs) : ∀ a k c, v = .slice a k c → k ≤ c := fun a k c e => by
  rcases h.row.2 with ⟨h1, _⟩ | ⟨g1, c1, cur, h1, _, _, hc, _⟩
  · rw [h1] at e; cases e; exact Nat.le_refl _
  · rw [h1] at e; cases e; exact hc
theorem build_log (p fr mn : Nat) (w : World) : (Instr.build 59 #[(0, .agg #[.pointer (some ⟨p, 0, none⟩), .int .i64 (fr : Int), .int .i64 (mn : Int)]), (3, .int .i64 1), (7, .int .i64 0)]).run Tryd.prog w = .ok (.agg (lgC p fr mn (.slice none 0 0) (.slice none 0 0) ⟨0, 1, 0, 0, 0, false, false, false⟩).toArray) w := by
  refine run_build w 59 _ _ ?_
  kernel_rfl
theorem chain_lenle (b : Nat → Option (Nat × Pc)) : ∀ (f n : Nat), (chainF b f n).length ≤ f
  | 0, _ => Nat.le_refl _
  | f + 1, n => by
    rw [chainF_succ]
    cases b n with
    | none => simp
    | some p =>
      simp only [Option.elim_some, List.length_cons]
      split
      · simp
      · have := chain_lenle b f (n + 1)
        omega
theorem But.toBelow {lb N : Nat} {V W : World} (h : But lb V W) (h1 : N ≤ lb) (h2 : N ≤ V.heap.size) : Below N V W := ⟨h.os, h.tape, h.output, h.size, fun b hb => h.oth b (by omega) (by omega)⟩
theorem PmRow.but {lb : Nat} {V W : World} {base : Nat} {v : Value} {xs : List Pm} (h : PmRow V base v xs) (hb : But lb V W) {cs : Array Value} (hl : V.heap[lb]? = some (.cells cs 59 (0, 0))) : PmRow W base v xs := by
  refine ⟨ownsRow_keep h.row (fun b cs' e _ => hb.oth b (Array.getElem?_eq_some_iff.1 e).1 (fun e2 => ?_)), fun x hx => ⟨ownBy_keep (h.ok x hx).1 (fun b cs' e => (hb.oth b (Array.getElem?_eq_some_iff.1 e).1 (fun e2 => ?_)).trans e), (h.ok x hx).2⟩⟩
  · rw [e2, hl] at e; cases e
  · rw [e2, hl] at e; cases e
/-- What a log is when it is opened. -/
structure Opened (w W w' : World) (p nb sb : Nat) (cv : Value) (n : Nat) (D : Dk) (lb fr mn since : Nat) (tv wv : Value) (rs : List (List UInt8)) : Prop where
  tn : Tn w w' p nb sb cv n D
  rc : rs = recs (catF mn since (imgF fr mn D))
  box : LgBox w' lb p fr mn tv wv ⟨rs.length, newestF since (allF mn (imgF fr mn D)) + 1, (enc rs).length / 60, pcs (enc rs).length, 0, true, false, false⟩
  tx : ByRow w' W.heap.size tv (enc rs)
  wh : NaRow w' W.heap.size wv (whF mn since (imgF fr mn D))
  bel : Below W.heap.size W w'
  llb : W.heap.size ≤ lb
theorem img_okP {fr mn n : Nat} {D : Dk} (ho : D.ok n) (a : Nat) (q : Pc) (h : imgF fr mn D a = some q) : okP mn q := by
  unfold imgF at h
  split at h
  · exact (pcOf_ok h (getD_ok ho.nowO (fr + a))).1
  · cases h
theorem byRow_low {W : World} {base base' : Nat} {v : Value} {l : List UInt8} (h : ByRow W base v l) (hb : base' ≤ base) : ByRow W base' v l := by
  rcases h.2 with ⟨h1, h2⟩ | ⟨g, c, cur, h1, hg, r⟩
  · exact ⟨h.1, .inl ⟨h1, h2⟩⟩
  · exact ⟨h.1, .inr ⟨g, c, cur, h1, by omega, r⟩⟩
theorem naRow_low {W : World} {base base' : Nat} {v : Value} {l : List Nat} (h : NaRow W base v l) (hb : base' ≤ base) : NaRow W base' v l := by
  rcases h.2 with ⟨h1, h2⟩ | ⟨g, c, cur, h1, hg, r⟩
  · exact ⟨h.1, .inl ⟨h1, h2⟩⟩
  · exact ⟨h.1, .inr ⟨g, c, cur, h1, by omega, r⟩⟩
section
variable {w W : World} {p nb sb : Nat} {cv : Value} {n : Nat} {D : Dk}
set_option maxHeartbeats 4000000 in
theorem openL_ok (a : Tn w W p nb sb cv n D) (fr mn since : Nat) (hm1 : 1 ≤ mn) (hi : fr + mn ≤ n) (hn : n ≤ 200) (hh : D.now.getD fr bk0 = ⟨padB (lhB mn since), false⟩) (h1 : 1 ≤ since) (h2 : since < 65536) :
    Calls Tryd.prog 7 #[.pointer (some ⟨p, 0, none⟩), .int .i64 (fr : Int), .int .i64 (mn : Int)] W fun e w' => ∃ lb, e = .returned (.tuple #[.pointer (some ⟨lb, 0, none⟩), .nilIface]) ∧ ∃ tv wv rs, Hid (Opened w W w' p nb sb cv n D lb fr mn since tv wv rs) := by
  have hP : ∀ aa q, imgF fr mn D aa = some q → okP mn q := fun aa q hq => img_okP a.1.ok aa q hq
  have HPx : Hid (∀ xs : List Pm, xs.map Pm.pair = allF mn (imgF fr mn D) → xs.length ≤ 200 ∧ ∀ x ∈ xs, x.q.sit < 65536 ∧ x.q.num < 200 ∧ x.q.byt.length ≤ 60) := fun xs hxs => by
    have hlen : xs.length ≤ 200 := by
      have : xs.length = (allF mn (imgF fr mn D)).length := by rw [← hxs, List.length_map]
      rw [this]
      unfold allF
      have := List.length_filterMap_le (fun a => (imgF fr mn D a).map fun q => (a, q)) (List.range' 1 (mn - 1))
      rw [List.length_range'] at this
      omega
    refine ⟨hlen, fun x hx => ?_⟩
    have hm : x.pair ∈ allF mn (imgF fr mn D) := by rw [← hxs]; exact List.mem_map.2 ⟨x, hx, rfl⟩
    have hq := hP x.at_ x.q ((mem_allF (img_dom fr mn D) x.at_ x.q).1 hm)
    exact ⟨hq.sit, by have := hq.num; omega, hq.l2⟩
  have HShort : Hid (pcs (enc (recs (catF mn since (imgF fr mn D)))).length ≤ (chF mn since (imgF fr mn D)).length ∧ (chF mn since (imgF fr mn D)).length ≤ 200) := by
    have hS := RI.shortB (since := since) (img_dom fr mn D) (fun aa q hq => (hP aa q hq).l2)
    have hz := chain_size hS 200 0
    have hl := (enc_recs (catF mn since (imgF fr mn D))).length_le
    refine ⟨?_, chain_lenle _ 200 0⟩
    unfold catF chF at hl
    unfold catF chF pcs
    omega
  obtain ⟨W1, hW1⟩ : ∃ W1, W.alloc (.cells #[.pointer (some ⟨p, 0, none⟩), .int .i64 (fr : Int), .int .i64 (mn : Int)] 50) = W1 := ⟨_, rfl⟩
  have hB : Below W.heap.size W W1 := by rw [← hW1]; exact (Below.refl _ W).alloc (Nat.le_refl _) _
  have hr := new_heap W (.cells #[.pointer (some ⟨p, 0, none⟩), .int .i64 (fr : Int), .int .i64 (mn : Int)] 50)
  rw [hW1] at hr
  have HF : Hid (∀ U : World, Below W1.heap.size W1 U → (U.cell? ⟨W.heap.size, 0, none⟩ = some (.pointer (some ⟨p, 0, none⟩)) ∧ U.cell? ⟨W.heap.size, 1, none⟩ = some (.int .i64 (fr : Int)) ∧ U.cell? ⟨W.heap.size, 2, none⟩ = some (.int .i64 (mn : Int))) ∧ Tn w U p nb sb cv n D ∧ Below W.heap.size W U) := fun U hU => by
    have h := (hU.block _ (Array.getElem?_eq_some_iff.1 hr).1).trans hr
    have hU2 : Below W.heap.size W U := hB.trans (hU.mono hB.size)
    exact ⟨⟨by simp [World.cell?, h], by simp [World.cell?, h], by simp [World.cell?, h]⟩, a.below hU2, hU2⟩
  obtain ⟨⟨c0, c1, c2⟩, _, _⟩ := HF.out W1 (Below.refl _ _)
  have HV : Hid (Calls _ _ _ W1 _) := valid_any (a.below hB) (fr : Int) (mn : Int) hn (by omega)
  rw [show decide (1 ≤ (mn : Int) ∧ 0 ≤ (fr : Int) ∧ (fr : Int) ≤ (n : Int) - (mn : Int)) = true by rw [decide_eq_true_eq]; omega] at HV
  have HRd : Hid (∀ U, Tn w U p nb sb cv n D → Calls Tryd.prog 15 #[.agg #[.pointer (some ⟨p, 0, none⟩), .int .i64 (fr : Int), .int .i64 (mn : Int)]] U fun e w' => e = .returned (.tuple #[.int .i64 (since : Int), .bool true]) ∧ Hid (Below U.heap.size U w')) := fun U hU => readLHead_some hU fr mn since (by omega) hn (by omega) h2 hh
  have HPc : Hid (∀ U, Tn w U p nb sb cv n D → Calls Tryd.prog 19 #[.agg #[.pointer (some ⟨p, 0, none⟩), .int .i64 (fr : Int), .int .i64 (mn : Int)]] U fun e w' => ∃ v, e = .returned v ∧ ∃ xs : List Pm, xs.map Pm.pair = allF mn (imgF fr mn D) ∧ Hid (PmRow w' U.heap.size v xs) ∧ Hid (Below U.heap.size U w')) := fun U hU => piecesA_any hU fr mn hi hn
  have HChS : Hid (∀ q ∈ chF mn since (imgF fr mn D), q.2.byt.length ≤ 60) := fun q hq => by
    obtain ⟨i, hi', rfl⟩ := List.getElem_of_mem hq
    have hS := RI.shortB (since := since) (img_dom fr mn D) (fun aa q hq => (hP aa q hq).l2)
    exact hS _ _ (chain_len 200 0 i hi')
  have HS1 : Hid (W.heap.size < W1.heap.size) := (Array.getElem?_eq_some_iff.1 hr).1
  have hbl := build_log p fr mn
  obtain ⟨Z, hZ⟩ : ∃ Z, (lgC p fr mn (.slice none 0 0) (.slice none 0 0) ⟨0, 1, 0, 0, 0, false, false, false⟩).toArray = Z := ⟨_, rfl⟩
  have HZ : Hid ((lgC p fr mn (.slice none 0 0) (.slice none 0 0) ⟨0, 1, 0, 0, 0, false, false, false⟩).toArray = Z) := hZ
  rw [hZ] at hbl
  clear a hB hr hh hP hZ
  go_enter Tryd.func7, Tryd.ntmps7
  go_wp2_with fail
  refine HV.out.mono ?_
  rintro e w2 ⟨rfl, hb2⟩
  obtain ⟨⟨d0, d1, d2⟩, ht2, _⟩ := HF.out w2 hb2
  obtain ⟨w3, hw3⟩ : ∃ w3, w2.alloc (.cells Z 59) = w3 := ⟨_, rfl⟩
  obtain ⟨lb, hlb⟩ : ∃ lb, w2.heap.size = lb := ⟨_, rfl⟩
  have hb3 : Below w2.heap.size w2 w3 := by rw [← hw3]; exact (Below.refl _ w2).alloc (Nat.le_refl _) _
  have hb13 : Below W1.heap.size W1 w3 := hb2.trans (hb3.mono hb2.size)
  have hbx3 : LgBox w3 lb p fr mn (.slice none 0 0) (.slice none 0 0) ⟨0, 1, 0, 0, 0, false, false, false⟩ := by
    unfold LgBox
    rw [HZ.out, ← hw3, ← hlb]
    exact new_heap w2 _
  obtain ⟨⟨e0, e1, e2⟩, ht3, _⟩ := HF.out w3 hb13
  have HR3 : Hid (Calls _ _ _ w3 _) := HRd.out w3 ht3
  have H3 : Hid (LgBox w3 lb p fr mn (.slice none 0 0) (.slice none 0 0) ⟨0, 1, 0, 0, 0, false, false, false⟩ ∧ Below W1.heap.size W1 w3 ∧ W1.heap.size ≤ lb) := ⟨hbx3, hb13, by
    have h1 := hb2.size
    omega⟩
  clear HV ht2 hb2 hb3 hb13 hbx3 ht3 c0 c1 c2 HRd
  go_wp2_with (first | (refine wpList_build_run rfl 59 #[(0, .tmp 21), (3, .const (.int .i64 1)), (7, .const (.int .i64 0))] rfl #[(0, .agg #[.pointer (some ⟨p, 0, none⟩), .int .i64 (fr : Int), .int .i64 (mn : Int)]), (3, .int .i64 1), (7, .int .i64 0)] (by first | rfl | simp [Act.eval, Act.put]) (hbl _) ?_))
  refine HR3.out.mono ?_
  rintro e w4 ⟨rfl, hb4⟩
  have hb14 : Below W1.heap.size W1 w4 := H3.out.2.1.trans (hb4.out.mono H3.out.2.1.size)
  have hbx4 : LgBox w4 lb p fr mn (.slice none 0 0) (.slice none 0 0) ⟨0, 1, 0, 0, 0, false, false, false⟩ := (hb4.out.block _ H3.out.1.lt).trans H3.out.1
  obtain ⟨⟨g0, g1, g2⟩, ht4, _⟩ := HF.out w4 hb14
  have HP4 : Hid (Calls _ _ _ w4 _) := HPc.out w4 ht4
  have H4 : Hid (LgBox w4 lb p fr mn (.slice none 0 0) (.slice none 0 0) ⟨0, 1, 0, 0, 0, false, false, false⟩ ∧ Below W1.heap.size W1 w4) := ⟨hbx4, hb14⟩
  clear HR3 hb4 hb14 hbx4 ht4 HPc d0 d1 d2 e0 e1 e2
  go_wp2_with fail
  refine HP4.out.mono ?_
  rintro e w5 ⟨v, rfl, xs, hxs, hrow5, hb5⟩
  obtain ⟨hxl, hxo⟩ := HPx.out xs hxs
  have hb15 : Below W1.heap.size W1 w5 := H4.out.2.trans (hb5.out.mono H4.out.2.size)
  have hbx5 : LgBox w5 lb p fr mn (.slice none 0 0) (.slice none 0 0) ⟨0, 1, 0, 0, 0, false, false, false⟩ := (hb5.out.block _ H4.out.1.lt).trans H4.out.1
  have HN5 : Hid (Calls _ _ _ w5 _) := newest_any v xs since w5 hrow5.out.isPm (by omega) h1 (by omega) (fun x hx => by have := (hxo x hx).1; omega)
  obtain ⟨N, hN⟩ : ∃ N, newestF since (xs.map Pm.pair) = N := ⟨_, rfl⟩
  have hN6 : N ≤ 65536 := by rw [← hN]; exact newestF_le since 65536 _ (by omega) (fun q hq => by
    obtain ⟨x, hx, rfl⟩ := List.mem_map.1 hq
    have := (hxo x hx).1
    show x.q.sit ≤ 65536
    omega)
  rw [hN] at HN5
  have H5 : Hid (PmRow w5 w4.heap.size v xs ∧ LgBox w5 lb p fr mn (.slice none 0 0) (.slice none 0 0) ⟨0, 1, 0, 0, 0, false, false, false⟩ ∧ Below W1.heap.size W1 w5 ∧ newestF since (allF mn (imgF fr mn D)) = N ∧ xs.map Pm.pair = allF mn (imgF fr mn D)) := ⟨hrow5.out, hbx5, hb15, by rw [← hxs]; exact hN, hxs⟩
  have HXo : Hid (∀ x ∈ xs, x.q.sit ≤ 100000 ∧ x.q.num < 200 ∧ x.q.byt.length ≤ 60) := fun x hx => ⟨by have := (hxo x hx).1; omega, (hxo x hx).2.1, (hxo x hx).2.2⟩
  have HVc := hrow5.out.shape
  obtain ⟨va, vc, rfl⟩ := HVc
  clear HP4 hrow5 hb5 hb15 hbx5 hN H4 hxo g0 g1 g2
  go_upto_region 8 with fail
  have n0 : (0 : Int) ≤ N := by omega
  have n1 : (N : Int) ≤ 65536 := by omega
  go_wp2_with fail
  refine HN5.out.mono ?_
  rintro e w6 ⟨rfl, hb6⟩
  have hbx6 : LgBox w6 lb p fr mn (.slice none 0 0) (.slice none 0 0) ⟨0, 1, 0, 0, 0, false, false, false⟩ := (hb6.block _ H5.out.2.1.lt).trans H5.out.2.1
  have k10 : w6.cell? ⟨lb, 10, none⟩ = some (.bool false) := by rw [hbx6.at]; rfl
  have f10 := hbx6.fz 10
  have hbx6b : LgBox (w6.setCell ⟨lb, 10, none⟩ (.bool true)) lb p fr mn (.slice none 0 0) (.slice none 0 0) ⟨0, 1, 0, 0, 0, true, false, false⟩ := hbx6.set 10 _ rfl
  have k5 : (w6.setCell ⟨lb, 10, none⟩ (.bool true)).cell? ⟨lb, 5, none⟩ = some (.int .i64 1) := by rw [hbx6b.at]; rfl
  have f5 := hbx6b.fz 5
  obtain ⟨w7, hw7⟩ : ∃ w7, (w6.setCell ⟨lb, 10, none⟩ (.bool true)).setCell ⟨lb, 5, none⟩ (.int .i64 ((N : Int) + 1)) = w7 := ⟨_, rfl⟩
  have hbx7 : LgBox w7 lb p fr mn (.slice none 0 0) (.slice none 0 0) ⟨0, N + 1, 0, 0, 0, true, false, false⟩ := by
    rw [← hw7]
    refine hbx6b.set 5 _ ?_
    rw [show (N : Int) + 1 = ((N + 1 : Nat) : Int) by omega]
    rfl
  have hbu7 : But lb w5 w7 := (But.of_below hb6).trans (by rw [← hw7]; exact (But.setCell _ _ _ _).trans (But.setCell _ _ _ _))
  have hpm7 : PmRow w7 w4.heap.size (.slice va xs.length vc) xs := H5.out.1.but hbu7 H5.out.2.1
  have hW57 : Below W1.heap.size W1 w7 := H5.out.2.2.1.trans (hbu7.toBelow H3.out.2.2 H5.out.2.2.1.size)
  have HC7 : Hid (Calls _ _ _ w7 _) := chain_any (.slice va xs.length vc) xs since w7 hpm7.isPm (by omega) h1 (by omega) HXo.out
  have H7 : Hid (LgBox w7 lb p fr mn (.slice none 0 0) (.slice none 0 0) ⟨0, N + 1, 0, 0, 0, true, false, false⟩ ∧ Below W1.heap.size W1 w7) := ⟨hbx7, hW57⟩
  clear HN5 hb6 hbx6 hbx6b hbx7 hbu7 hpm7 hW57 HXo
  go_wp2_with fail
  try rw [hw7]
  refine HC7.out.mono ?_
  rintro e w8 ⟨v8, rfl, zs, hzs, hrow8, hb8⟩
  have hzs2 : zs.map Pm.pair = chF mn since (imgF fr mn D) := by
    rw [hzs, H5.out.2.2.2.2]
    rfl
  have hbx8 : LgBox w8 lb p fr mn (.slice none 0 0) (.slice none 0 0) ⟨0, N + 1, 0, 0, 0, true, false, false⟩ := (hb8.out.block _ H7.out.1.lt).trans H7.out.1
  have hzl : zs.length = (chF mn since (imgF fr mn D)).length := by rw [← hzs2, List.length_map]
  have HT8 : Hid (Calls _ _ _ w8 _) := take_any v8 zs w8 lb p fr mn ⟨0, N + 1, 0, 0, 0, true, false, false⟩ hbx8 rfl hrow8.out.isPm (by rw [hzl]; exact HShort.out.2) (fun x hx => by
    have hm : x.pair ∈ chF mn since (imgF fr mn D) := by rw [← hzs2]; exact List.mem_map.2 ⟨x, hx, rfl⟩
    exact HChS.out x.pair hm) (by rw [hzs2, hzl]; exact HShort.out.1) hrow8.out.cap
  have H8 : Hid (Below W1.heap.size W1 w8 ∧ zs.map Pm.pair = chF mn since (imgF fr mn D) ∧ W1.heap.size ≤ w8.heap.size) := by
    have hb := H7.out.2.trans (hb8.out.mono H7.out.2.size)
    exact ⟨hb, hzs2, hb.size⟩
  clear HC7 hrow8 hb8 hbx8 hzl hzs hzs2 hw7
  go_wp2_with fail
  refine HT8.out.mono ?_
  rintro e w9 ⟨rfl, tv, wv, rs, htk⟩
  have HE : Hid (Opened w W w9 p nb sb cv n D lb fr mn since tv wv rs) := by
    have tk := htk.out
    have hz := H8.out.2.1
    have hb9 : Below W1.heap.size W1 w9 := H8.out.1.trans (tk.but.toBelow H3.out.2.2 H8.out.2.2)
    obtain ⟨_, ht9, hbW⟩ := HF.out w9 hb9
    have hWW : W.heap.size ≤ w8.heap.size := by have := HS1.out; have := H8.out.2.2; omega
    have hrc : rs = recs (catF mn since (imgF fr mn D)) := by rw [tk.rc, hz]; rfl
    refine ⟨ht9, hrc, ?_, ?_, ?_, hbW, by have := HS1.out; have := H3.out.2.2; omega⟩
    · have := tk.box
      rw [H5.out.2.2.2.1]
      exact this
    · exact byRow_low tk.tx hWW
    · have hwh : (zs.take (pcs (enc rs).length)).map (·.at_) = whF mn since (imgF fr mn D) := by
        unfold whF
        rw [← hrc, ← hz, ← List.map_take, List.map_map]
        rfl
      rw [← hwh]
      exact naRow_low tk.wh hWW
  clear HT8 htk
  go_wp2
  go_ret2
  exact ⟨lb, rfl, tv, wv, rs, HE⟩
end
end Go.Proofs.YteledlbcbcnidaaDoor

namespace Go.Proofs.YteledlbcbcnidaaDoor
set_option linter.unusedVariables false
set_option linter.unusedSimpArgs false
set_option maxRecDepth 100000
open Go.RowKit Go.Lib
structure LgAt (w W : World) (p nb sb : Nat) (cv : Value) (n : Nat) (D : Dk) (lb fr mn : Nat) (tv wv : Value) (s : Ls) (tx : List UInt8) (wh : List Nat) : Prop where
  tn : Tn w W p nb sb cv n D
  box : LgBox W lb p fr mn tv wv s
  tx : ByRow W w.heap.size tv tx
  wh : NaRow W w.heap.size wv wh
  llb : w.heap.size ≤ lb
section
variable {w W U : World} {p nb sb : Nat} {cv : Value} {n : Nat} {D : Dk} {lb fr mn : Nat} {tv wv : Value} {s : Ls} {tx : List UInt8} {wh : List Nat}
theorem LgAt.below (a : LgAt w W p nb sb cv n D lb fr mn tv wv s tx wh) (hb : Below W.heap.size W U) : LgAt w U p nb sb cv n D lb fr mn tv wv s tx wh :=
  ⟨a.tn.below hb, (hb.block _ a.box.lt).trans a.box, a.tx.below hb, ownsRow_keep a.wh (fun b cs e _ => hb.block b (Array.getElem?_eq_some_iff.1 e).1), a.llb⟩
theorem LgAt.still (a : LgAt w W p nb sb cv n D lb fr mn tv wv s tx wh) (hs : Still W U) : LgAt w U p nb sb cv n D lb fr mn tv wv s tx wh := a.below (hs.below _)
/-- A disk's call. -/
theorem LgAt.disk (a : LgAt w W p nb sb cv n D lb fr mn tv wv s tx wh) {cv' : Value} {D' : Dk} (ht : Tn w U p nb sb cv' n D') (hk : Keeps w.heap.size dkT W U) : LgAt w U p nb sb cv' n D' lb fr mn tv wv s tx wh :=
  ⟨ht, hk.row a.box (by decide), a.tx.keeps hk, ownsRow_keep a.wh (fun b cs e _ => (hk.row e (by decide)).trans e.symm), a.llb⟩
/-- A number of its own is set. -/
theorem LgAt.set (a : LgAt w W p nb sb cv n D lb fr mn tv wv s tx wh) (i : Nat) (v : Value) {s' : Ls} (e : ((lgC p fr mn tv wv s).set i v) = lgC p fr mn tv wv s') : LgAt w (W.setCell ⟨lb, i, none⟩ v) p nb sb cv n D lb fr mn tv wv s' tx wh := by
  have hbx : W.heap[lb]? = _ := a.box
  have d := a.tn.1
  have ne : ∀ (j : Nat) (cs' : Array Value) (t' : TypeId), W.heap[j]? = some (.cells cs' t' (0, 0)) → t' ≠ 59 → (W.setCell ⟨lb, i, none⟩ v).heap[j]? = W.heap[j]? := fun j cs' t' e' ht => Below.heap_setCell _ _ _ _ (fun e2 => by
    simp only at e2
    rw [e2, hbx] at e'
    cases e'
    exact ht rfl)
  have hbl : Below w.heap.size W (W.setCell ⟨lb, i, none⟩ v) := (Below.refl _ W).setCell (p := ⟨lb, i, none⟩) a.llb v
  refine ⟨⟨⟨(ne _ _ _ d.box (by decide)).trans d.box, (ne _ _ _ d.now (by decide)).trans d.now, (ne _ _ _ d.safe (by decide)).trans d.safe, d.ne, d.lp, d.ln, d.ls, ownsRow_keep d.chg (fun b' cs' e' _ => ne b' _ _ e' (by decide)), d.ok⟩, a.tn.2.trans hbl⟩, a.box.set i v e, ownsRow_keep a.tx (fun b' cs' e' _ => ne b' _ _ e' (by decide)), ownsRow_keep a.wh (fun b' cs' e' _ => ne b' _ _ e' (by decide)), a.llb⟩
theorem lenL_any (a : LgAt w W p nb sb cv n D lb fr mn tv wv s tx wh) : Calls Tryd.prog 11 #[.pointer (some ⟨lb, 0, none⟩)] W fun e w' => e = .returned (.int .i64 (s.cnt : Int)) ∧ Still W w' := by
  have c : W.cell? ⟨lb, 4, none⟩ = some (.int .i64 (s.cnt : Int)) := by rw [a.box.at]; rfl
  clear a
  go_enter Tryd.func11, Tryd.ntmps11
  go_wp2
  go_ret
  exact ⟨rfl, Still.refl _⟩
end
/-- Where a number stands in a list. -/
def idxN (l : List Nat) (x : Nat) : Int := match l.findIdx? (· == x) with | some k => (k : Int) | none => -1
theorem contains_any (base : Nat) (v : Value) (l : List Nat) (x : Nat) (W : World) (h : NaRow W base v l) (hl : l.length ≤ 100000) :
    Calls Tryd.prog 51 #[v, .int .i64 (x : Int)] W fun e w' => e = .returned (.bool (decide (x ∈ l))) ∧ Still W w' := by
  have HI : Hid (Calls Tryd.prog 52 #[v, .int .i64 (x : Int)] W fun e w' => (∃ k : Int, e = .returned (.int .i64 k) ∧ (0 ≤ k ↔ x ∈ l) ∧ -1 ≤ k ∧ k ≤ 100000) ∧ Still W w') := by
    obtain ⟨av, cap, rfl⟩ := h.shape
    have HN : Hid (NaRow W base (.slice av l.length cap) l) := h
    have l0 : (l.length : Int) ≤ 100000 := by omega
    have x0 : (0 : Int) ≤ x := by omega
    clear h
    go_enter Tryd.func52, Tryd.ntmps52
    go_wp2_with fail
    go_loopw [8] (fun t wr => ∃ k : Nat, k ≤ l.length ∧ t = .int .i64 k ∧ (∀ i, i < k → l.getD i 0 ≠ x) ∧ Hid (Still W wr)) (fun t _ => l.length - (RowKit.intOf t).toNat)
    case atStart => exact ⟨0, Nat.zero_le _, rfl, fun i hi => absurd hi (by omega), Still.refl _⟩
    case round =>
      obtain ⟨k, hk, rfl, hn, HS⟩ := hrel
      have k0 : (0 : Int) ≤ k := by omega
      by_cases hlt : k < l.length
      · have k1 : (k : Int) < l.length := by omega
        obtain ⟨g, cap', e, _, hc, _⟩ := HN.out.cell k hlt
        cases e
        have hc' : wr.cell? ⟨g, k, none⟩ = some (.int .i64 ((l.getD k 0 : Nat) : Int)) := by
          unfold World.cell? at hc ⊢
          rw [HS.out.heap]
          exact hc
        have HNn : Hid (∀ i, i < k → l.getD i 0 ≠ x) := hn
        clear hc hn
        by_cases hx : l.getD k 0 = x
        · rw [hx] at hc'
          have hmem : x ∈ l := by
            rw [← hx, List.getD_eq_getElem?_getD, List.getElem?_eq_getElem hlt]
            exact List.getElem_mem hlt
          go_wp2
          go_ret
          exact ⟨⟨(k : Int), rfl, ⟨fun _ => hmem, fun _ => by omega⟩, by omega, by omega⟩, HS.out⟩
        · obtain ⟨z, hz⟩ : ∃ z, l.getD k 0 = z := ⟨_, rfl⟩
          rw [hz] at hc' hx
          have hne : ((x : Int) == (z : Int)) = false := by rw [beq_eq_false_iff_ne]; omega
          have HN2 : Hid (∀ i, i < k + 1 → l.getD i 0 ≠ x) := fun i hi => by
            by_cases e : i = k
            · rw [e, hz]; exact hx
            · exact HNn.out i (by omega)
          clear HNn hz
          go_wp2_with fail
          go_roundw
          case rel => exact ⟨k + 1, by omega, by go_num, HN2.out, HS⟩
          case measure => simp [RowKit.intOf]; omega
      · have k1 : ¬ (k : Int) < l.length := by omega
        have hnm : ¬ x ∈ l := fun hm => by
          obtain ⟨i, hi, rfl⟩ := List.getElem_of_mem hm
          have := hn i (by omega)
          rw [List.getD_eq_getElem?_getD, List.getElem?_eq_getElem hi] at this
          exact this rfl
        clear hn
        go_wp2
        go_ret
        exact ⟨⟨-1, rfl, by omega, by omega, by omega⟩, HS.out⟩
  obtain ⟨av, cap, rfl⟩ := h.shape
  clear h
  go_enter Tryd.func51, Tryd.ntmps51
  go_wp2_with fail
  refine HI.out.mono ?_
  rintro e w' ⟨⟨k, rfl, hk, hk1, hk2⟩, hs⟩
  have HE : Hid (decide (x ∈ l) = decide (0 ≤ k)) := by
    unfold Hid
    rw [decide_eq_decide]
    exact hk.symm
  clear HI hk
  go_wp2
  go_ret
  exact ⟨by rw [HE.out]; rfl, hs⟩
theorem all_in : ∀ (k : Nat) (L : List Nat), (∀ i, 1 ≤ i → i ≤ k → i ∈ L) → k ≤ L.length
  | 0, _, _ => Nat.zero_le _
  | k + 1, L, h => by
    have hm := h (k + 1) (by omega) (Nat.le_refl _)
    have := all_in k (L.erase (k + 1)) (fun i h1 h2 => (List.mem_erase_of_ne (by omega)).2 (h i h1 (by omega)))
    rw [List.length_erase_of_mem hm] at this
    have := List.length_pos_of_mem hm
    omega
/-- A block that is free. -/
structure IsFree (old : Nat) (wh : List Nat) (f : Nat) : Prop where
  pos : 1 ≤ f
  no : f ≠ old
  out : f ∉ wh
  all : ∀ i, 1 ≤ i → i < f → i = old ∨ i ∈ wh
theorem IsFree.le {old : Nat} {wh : List Nat} {f : Nat} (h : IsFree old wh f) : f ≤ wh.length + 2 ∧ (old = 0 → f ≤ wh.length + 1) := by
  have hp := h.pos
  constructor
  · have := all_in (f - 1) (old :: wh) (fun i h1 h2 => by
      rcases h.all i h1 (by omega) with e | e
      · rw [e]; simp
      · simp [e])
    simp at this
    omega
  · intro ho
    have := all_in (f - 1) wh (fun i h1 h2 => by
      rcases h.all i h1 (by omega) with e | e
      · omega
      · exact e)
    omega
section
variable {w W U : World} {p nb sb : Nat} {cv : Value} {n : Nat} {D : Dk} {lb fr mn : Nat} {tv wv : Value} {s : Ls} {tx : List UInt8} {wh : List Nat}
theorem free_any (a : LgAt w W p nb sb cv n D lb fr mn tv wv s tx wh) (hl : wh.length ≤ 1000) : Calls Tryd.prog 46 #[.pointer (some ⟨lb, 0, none⟩)] W fun e w' => ∃ f, e = .returned (.int .i64 (f : Nat)) ∧ IsFree s.old wh f ∧ Still W w' := by
  have HA : Hid (LgAt w W p nb sb cv n D lb fr mn tv wv s tx wh) := a
  obtain ⟨wa, wc, hwv⟩ := a.wh.shape
  have HCn : Hid (∀ (U : World) (x : Nat), Still W U → Calls Tryd.prog 51 #[wv, .int .i64 (x : Int)] U fun e w' => e = .returned (.bool (decide (x ∈ wh))) ∧ Still U w') := fun U x hs => contains_any w.heap.size wv wh x U ((a.still hs).wh) (by omega)
  have HC : Hid (∀ U, Still W U → U.cell? ⟨lb, 9, none⟩ = some (.int .i64 (s.old : Int)) ∧ U.cell? ⟨lb, 7, none⟩ = some wv) := fun U hs => by
    have := (a.still hs).box
    exact ⟨by rw [this.at]; rfl, by rw [this.at]; rfl⟩
  rw [hwv] at HCn HC
  clear a hwv
  go_enter Tryd.func46, Tryd.ntmps46
  go_wp2_with fail
  go_loopw [3] (fun t wr => ∃ k : Nat, 1 ≤ k ∧ t = .int .i64 k ∧ Hid ((∀ i, 1 ≤ i → i < k → i = s.old ∨ i ∈ wh) ∧ Still W wr)) (fun t _ => 2000 - (RowKit.intOf t).toNat)
  case atStart => exact ⟨1, Nat.le_refl _, rfl, fun i h1 h2 => absurd h2 (by omega), Still.refl _⟩
  case round =>
    obtain ⟨k, hk, rfl, H⟩ := hrel
    obtain ⟨hall, hst⟩ := H.out
    obtain ⟨c9, c7⟩ := HC.out wr hst
    have hkl : k ≤ wh.length + 2 := by
      have := all_in (k - 1) (s.old :: wh) (fun i h1 h2 => by
        rcases hall i h1 (by omega) with e | e
        · rw [e]; simp
        · simp [e])
      simp at this
      omega
    have k0 : (1 : Int) ≤ k := by omega
    have k1 : (k : Int) ≤ 1002 := by omega
    have HCk : Hid (Calls _ _ _ wr _) := HCn.out wr k hst
    have HAll : Hid ((∀ i, 1 ≤ i → i < k → i = s.old ∨ i ∈ wh) ∧ Still W wr) := ⟨hall, hst⟩
    clear H hall hst
    by_cases ho : k = s.old
    · have HN : Hid ((∀ i, 1 ≤ i → i < k + 1 → i = s.old ∨ i ∈ wh) ∧ Still W wr) := ⟨fun i h1 h2 => by
        by_cases e : i = k
        · left; omega
        · exact HAll.out.1 i h1 (by omega), HAll.out.2⟩
      rw [← ho] at c9
      clear HAll
      go_wp2_with fail
      go_roundw
      case rel => exact ⟨k + 1, by omega, by go_num, HN⟩
      case measure => simp [RowKit.intOf]; omega
    · have ho' : ((k : Int) == (s.old : Int)) = false := by rw [beq_eq_false_iff_ne]; omega
      have ho'' : ¬ (k : Int) = (s.old : Int) := by omega
      by_cases hm : k ∈ wh
      · have HN : Hid (∀ w2, Still wr w2 → (∀ i, 1 ≤ i → i < k + 1 → i = s.old ∨ i ∈ wh) ∧ Still W w2) := fun w2 hs2 => ⟨fun i h1 h2 => by
          by_cases e : i = k
          · right; rw [e]; exact hm
          · exact HAll.out.1 i h1 (by omega), HAll.out.2.trans hs2⟩
        rw [decide_eq_true hm] at HCk
        clear HAll hm
        go_wp2_with fail
        refine HCk.out.mono ?_
        rintro e w2 ⟨rfl, hs2⟩
        have HN2 : Hid ((∀ i, 1 ≤ i → i < k + 1 → i = s.old ∨ i ∈ wh) ∧ Still W w2) := HN.out w2 hs2
        clear HCk HN hs2
        go_wp2_with fail
        go_roundw
        case rel => exact ⟨k + 1, by omega, by go_num, HN2⟩
        case measure => simp [RowKit.intOf]; omega
      · have HN : Hid (IsFree s.old wh k) := ⟨hk, ho, hm, HAll.out.1⟩
        rw [decide_eq_false hm] at HCk
        clear hm
        go_wp2_with fail
        refine HCk.out.mono ?_
        rintro e w2 ⟨rfl, hs2⟩
        have HS2 : Hid (Still W w2) := HAll.out.2.trans hs2
        clear HCk hs2 HAll
        go_wp2_with fail
        go_ret
        exact ⟨k, rfl, HN.out, HS2.out⟩
end
end Go.Proofs.YteledlbcbcnidaaDoor

namespace Go.Proofs.YteledlbcbcnidaaDoor
open Go
set_option linter.unusedVariables false

section
variable {P : Program} {ops : Array Oper} {Q : Exit → Act → World → Prop} {md : Region.Mode} {T : World → Prop} {g : Nat}

theorem L_firstC {i : Nat} {oi : Oper} {v : Value} {C : List Nat} (hi : ops[i]? = some oi) (hC : ∀ k ∈ C, ∃ ok, ops[k]? = some ok ∧ ∃ e ∈ ok.after, Region.binds md e = true ∧ (e.on = i ∨ e.on ∈ C)) (hgC : g ∈ C) (hgi : g ≠ i)
    (hsel : ∀ (j : Nat) (o : Oper) cs b, ops[j]? = some o → o.op ≠ .select cs b) (hQ : ∀ c a w, Q (.panic c) (a.put oi.dst v) w → Q (.panic c) a w) :
    ∀ (fuel : Nat) (listed : Array Bool) (a : Act) (w : World),
      (∀ j oj, ops[j]? = some oj → j ≠ i → listed.getD j true = false → (∀ e ∈ oj.after, Region.binds md e = true → e.on ≠ i) → oi.apart ops oj = true) →
      i ∈ Region.ready md ops listed → (∀ k ∈ C, listed.getD k true = false) → YieldsIf P ops T oi v a → T w →
      wpAnyL P md ops Q g T fuel (listed.setIfInBounds i true) (a.put oi.dst v) w → wpAnyL P md ops Q g T (fuel + 1) listed a w := by
  intro fuel
  induction fuel with
  | zero =>
    intro listed a w _ hr _ hy hT H
    refine ⟨fun h => (by rw [h] at hr; cases hr), fun j hj => ?_⟩
    by_cases hji : j = i
    · subst hji; exact hy.wpOp hi hT ⟨fun _ => hT, H⟩
    · have := ready_mono hj hji
      rw [H.1] at this
      cases this
  | succ fuel ih =>
    intro listed a w hfree hr hlC hy hT H
    refine ⟨fun h => (by rw [h] at hr; cases hr), fun j hj => ?_⟩
    by_cases hji : j = i
    · subst hji; exact hy.wpOp hi hT ⟨fun _ => hT, H⟩
    · have h1 := H.2 j (ready_mono hj hji)
      obtain ⟨hjun, oj, hoj, hall⟩ := mem_ready.1 hj
      have hnot : ∀ e ∈ oj.after, Region.binds md e = true → e.on ≠ i := fun e he hb heq => by
        have h1 := hall e he hb
        have h0 := (mem_ready.1 hr).1
        rw [heq] at h1
        rcases Nat.lt_or_ge i listed.size with h' | h'
        · simp [h'] at h0 h1; rw [h0] at h1; cases h1
        · simp [Array.getElem?_eq_none h'] at h1
      have hjC : ∀ k ∈ C, j ≠ k := fun k hk hjk => by
        obtain ⟨ok, hok, e, he, hb, ho⟩ := hC k hk
        rw [← hjk, hoj] at hok
        cases hok
        rcases ho with ho | ho
        · exact hnot e he hb ho
        · have h1 := hall e he hb
          have hl := hlC _ ho
          rcases Nat.lt_or_ge e.on listed.size with h' | h'
          · simp [h'] at hl h1; rw [hl] at h1; cases h1
          · simp [Array.getElem?_eq_none h'] at h1
      have h2 := wpOp_putIf hoj (hfree j oj hoj hji hjun hnot) (fun cs b => hsel i oi cs b hi) (fun cs b => hsel j oj cs b hoj) hQ hy h1
      have hfree' : ∀ k ok, ops[k]? = some ok → k ≠ i → (listed.setIfInBounds j true).getD k true = false →
          (∀ e ∈ ok.after, Region.binds md e = true → e.on ≠ i) → oi.apart ops ok = true := fun k ok hk hki hun hno => by
        refine hfree k ok hk hki ?_ hno
        by_cases hjk : j = k
        · subst hjk; exact hjun
        · rw [getD_set_ne true hjk] at hun; exact hun
      have hlC' : ∀ k ∈ C, (listed.setIfInBounds j true).getD k true = false := fun k hk => by rw [getD_set_ne true (hjC k hk)]; exact hlC k hk
      refine wpOp_mono (fun a' w' h3 => ?_) h2
      have hT' : T w' := h3.2.1 (by rw [getD_set_ne true (hjC g hgC), getD_set_ne true (Ne.symm hgi)]; exact hlC g hgC)
      refine ⟨fun _ => hT', ih (listed.setIfInBounds j true) a' w' hfree' (ready_mono hr (Ne.symm hji)) hlC' h3.1 hT' ?_⟩
      rw [Array.setIfInBounds_comm _ _ hji]
      exact h3.2.2

/-- One of a chain waits for the operation, or for another of the chain. -/
def waits (md : Region.Mode) (ops : Array Oper) (i : Nat) (C : List Nat) (k : Nat) : Bool := match ops[k]? with
  | some ok => ok.after.any fun e => Region.binds md e && (e.on == i || C.contains e.on)
  | none => false
/-- The move of a walk. -/
theorem L_takeC (C : List Nat) {i : Nat} {oi : Oper} {v : Value} {fuel : Nat} {listed : Array Bool} {a : Act} {w : World} (hi : ops[i]? = some oi)
    (hC : C.all (waits md ops i C) = true) (hgC : C.contains g = true) (hgi : g ≠ i)
    (hs : Region.noSelect ops = true) (hf : Region.free md ops listed i = true) (hr : (Region.ready md ops listed).contains i = true) (hl : C.all (fun k => !(listed.getD k true)) = true)
    (hQ : ∀ c a w, Q (.panic c) (a.put oi.dst v) w → Q (.panic c) a w) (hy : YieldsIf P ops T oi v a) (hT : T w)
    (h : wpAnyL P md ops Q g T fuel (listed.setIfInBounds i true) (a.put oi.dst v) w) : wpAnyL P md ops Q g T (fuel + 1) listed a w := by
  refine L_firstC hi (fun k hk => ?_) (by simpa using hgC) hgi (Region.noSelect_spec hs) hQ fuel listed a w (Region.free_spec hi hf) (by simpa using hr) (fun k hk => ?_) hy hT h
  · have := List.all_eq_true.1 hC k hk
    unfold waits at this
    split at this
    · rename_i ok hok
      rw [Array.any_eq_true] at this
      obtain ⟨q, hq, he⟩ := this
      simp only [Bool.and_eq_true, Bool.or_eq_true, beq_iff_eq, List.contains_iff_mem] at he
      exact ⟨ok, hok, ok.after[q], Array.getElem_mem hq, he.1, he.2⟩
    · cases this
  · have := List.all_eq_true.1 hl k hk
    simpa using this
end
end Go.Proofs.YteledlbcbcnidaaDoor

namespace Go.Proofs.YteledlbcbcnidaaDoor
set_option linter.unusedVariables false
set_option linter.unusedSimpArgs false
set_option maxRecDepth 100000
set_option maxHeartbeats 400000
open Go.RowKit Go.Lib
/-- A piece of a text. -/
def pcAt (s : Ls) (tt : List UInt8) (k : Nat) : Pc := ⟨k, s.sit, decide (k = s.st), (tt.drop (k * 60)).take (min tt.length (k * 60 + 60) - k * 60)⟩
theorem pcAt_len (s : Ls) (tt : List UInt8) (k : Nat) : (pcAt s tt k).byt.length = min tt.length (k * 60 + 60) - k * 60 := by
  simp only [pcAt, List.length_take, List.length_drop]
  omega
theorem load_area {u : World} {lb p fr mn : Nat} {tv wv : Value} {s : Ls} (h : LgBox u lb p fr mn tv wv s) : (Instr.loadAt 50 (.pointer (some ⟨lb, 0, none⟩))).run Tryd.prog u = .ok (.agg #[.pointer (some ⟨p, 0, none⟩), .int .i64 (fr : Int), .int .i64 (mn : Int)]) u := by
  have c0 : u.cell? ⟨lb, 0, none⟩ = some (.pointer (some ⟨p, 0, none⟩)) := by rw [h.at]; rfl
  have c1 : u.cell? ⟨lb, 1, none⟩ = some (.int .i64 (fr : Int)) := by rw [h.at]; rfl
  have c2 : u.cell? ⟨lb, 2, none⟩ = some (.int .i64 (mn : Int)) := by rw [h.at]; rfl
  clear h
  go_simp
section
variable {w W U : World} {p nb sb : Nat} {cv : Value} {n : Nat} {D : Dk} {lb fr mn : Nat} {tv wv : Value} {s : Ls} {tx : List UInt8} {wh : List Nat}
theorem writePieceL (a : LgAt w W p nb sb cv n D lb fr mn tv wv s tx wh) (ta : Option Addr) (tt : List UInt8) (tcap : Nat) (ht : IsBy W ta tt tcap) (hta : tcap = 0 ∨ ta ≠ none) (k : Nat) (hk : k < wh.length) (hk6 : k * 60 ≤ tt.length) (hk256 : k < 256) (hl : tt.length ≤ 100000) (hi : fr + wh.getD k 0 < n) (hn : n ≤ 200) (hsit : s.sit < 65536) (hst : s.st ≤ 100000) (hs : D.lim 1000000) :
    Calls Tryd.prog 39 #[.pointer (some ⟨lb, 0, none⟩), .slice ta tt.length tcap, .int .i64 (k : Int)] W fun e w' => e = .returned (enE (wrR D (fr + wh.getD k 0) (pcB (pcAt s tt k))).1) ∧ ∃ cv', Hid (LgAt w w' p nb sb cv' n (wrR D (fr + wh.getD k 0) (pcB (pcAt s tt k))).2 lb fr mn tv wv s tx wh) ∧ Hid (Keeps w.heap.size dkT W w') := by
  obtain ⟨m, hm⟩ : ∃ m : Nat, min tt.length (k * 60 + 60) = m := ⟨_, rfl⟩
  have hmi : (if ((k : Int) + 1) * 60 < (tt.length : Int) then ((k : Int) + 1) * 60 else (tt.length : Int)) = (m : Int) := by split <;> omega
  have hcap : tt.length ≤ tcap := ht.cap
  have hbyt : (pcAt s tt k).byt = (tt.drop (k * 60)).take (m - k * 60) := by simp only [pcAt, hm]
  have hlen : ((tt.drop (k * 60)).take (m - k * 60)).length = m - k * 60 := by simp only [List.length_take, List.length_drop]; omega
  have hmid := isBy_mid ht (k * 60) m (by omega) (by omega)
  obtain ⟨fb, hfb⟩ : ∃ fb : Bool, decide (k = s.st) = fb := ⟨_, rfl⟩
  have hW : Calls Tryd.prog 47 #[.agg #[.pointer (some ⟨p, 0, none⟩), .int .i64 (fr : Int), .int .i64 (mn : Int)], .agg #[.int .i64 ((wh.getD k 0 : Nat) : Int), .int .i64 (k : Int), .int .i64 (s.sit : Int), .bool fb, .slice (slA ta tcap (k * 60)) (m - k * 60) (tcap - k * 60)]] W.drew fun e w' => e = .returned (enE (wrR D (fr + wh.getD k 0) (pcB (pcAt s tt k))).1) ∧ ∃ cv', Hid (LgAt w w' p nb sb cv' n (wrR D (fr + wh.getD k 0) (pcB (pcAt s tt k))).2 lb fr mn tv wv s tx wh) ∧ Hid (Keeps w.heap.size dkT W w') := by
    have hbd : Below W.heap.size W W.drew := ⟨rfl, rfl, rfl, Nat.le_refl _, fun _ _ => rfl⟩
    have hkd : Keeps w.heap.size dkT W W.drew := ⟨rfl, rfl, rfl, Nat.le_refl _, fun _ _ _ => rfl⟩
    have a := a.below hbd
    have := writePieceA a.tn fr mn ⟨wh.getD k 0, pcAt s tt k, slA ta tcap (k * 60), tcap - k * 60⟩ (by rw [hbyt]; exact hmid.below hbd) (by
      rcases hta with h | h
      · left; simp only; omega
      · right; exact slA_ne h _ _) hi hn (by rw [pcAt_len]; omega) hk256 hsit hs
    simp only [Pm.cells, hbyt, hlen] at this
    rw [show (pcAt s tt k).fst = fb from hfb, show (pcAt s tt k).num = k from rfl, show (pcAt s tt k).sit = s.sit from rfl] at this
    refine this.mono ?_
    rintro e w' ⟨rfl, cv', h1, h2⟩
    exact ⟨rfl, cv', a.disk h1.out h2.out, hkd.trans h2.out⟩
  obtain ⟨g, wc, hwv, _, hcl, _⟩ := a.wh.cell k hk
  have HW : Hid (Calls _ _ _ W.drew _) := hW
  have HD : Hid (LgBox W.drew lb p fr mn tv wv s ∧ W.drew.cell? ⟨g, k, none⟩ = some (.int .i64 ((wh.getD k 0 : Nat) : Int))) := ⟨a.box, hcl⟩
  subst hwv
  have hfb2 : ((k : Int) == (s.st : Int)) = fb := by
    rw [← hfb, Bool.eq_iff_iff, beq_iff_eq, decide_eq_true_eq]
    omega
  clear hfb
  have k1 : (k : Int) < 256 := by omega
  have kw : (k : Int) < wh.length := by omega
  have m1 : k * 60 ≤ m := by omega
  have m2 : m ≤ tcap := by omega
  have m3 : m ≤ 100000 := by omega
  clear a ht hta hm hbyt hlen hmid hW hcl hi hn hsit hs hst hk6
  generalize wh.getD k 0 = wk at *
  generalize wrR D (fr + wk) (pcB (pcAt s tt k)) = R at *
  go_enter Tryd.func39, Tryd.ntmps39
  go_upto_region 2 with fail
  refine wp_region_drawn (by kernel_rfl) ?_
  generalize hV : W.drew = V at *
  have HT : Hid (V = V) := rfl
  refine wpAny_take (i := 0) (v := .pointer (some ⟨lb, 0, none⟩)) rfl (by kernel_rfl) (by kernel_rfl) (by kernel_rfl) (fun _ _ _ h => h) (Or.inl ⟨by rfl, fun w => by go_simp⟩) ?_
  simp only [Act.put, List.getElem_toArray, List.getElem_cons_succ, List.getElem_cons_zero, List.setIfInBounds_toArray, List.set_cons_zero, List.set_cons_succ]
  refine wpAny_take (i := 1) (v := .pointer (some ⟨lb, 0, none⟩)) rfl (by kernel_rfl) (by kernel_rfl) (by kernel_rfl) (fun _ _ _ h => h) (Or.inl ⟨by rfl, fun w => by go_simp⟩) ?_
  simp only [Act.put, List.getElem_toArray, List.getElem_cons_succ, List.getElem_cons_zero, List.setIfInBounds_toArray, List.set_cons_zero, List.set_cons_succ]
  refine wpAny_take (i := 2) (v := .pointer (some ⟨lb, 0, none⟩)) rfl (by kernel_rfl) (by kernel_rfl) (by kernel_rfl) (fun _ _ _ h => h) (Or.inl ⟨by rfl, fun w => by go_simp⟩) ?_
  simp only [Act.put, List.getElem_toArray, List.getElem_cons_succ, List.getElem_cons_zero, List.setIfInBounds_toArray, List.set_cons_zero, List.set_cons_succ]
  refine wpAny_take (i := 4) (v := .pointer (some ⟨lb, 0, none⟩)) rfl (by kernel_rfl) (by kernel_rfl) (by kernel_rfl) (fun _ _ _ h => h) (Or.inl ⟨by rfl, fun w => by go_simp⟩) ?_
  simp only [Act.put, List.getElem_toArray, List.getElem_cons_succ, List.getElem_cons_zero, List.setIfInBounds_toArray, List.set_cons_zero, List.set_cons_succ]
  refine wpAny_take (i := 5) (v := .pointer (some ⟨lb, 0, none⟩)) rfl (by kernel_rfl) (by kernel_rfl) (by kernel_rfl) (fun _ _ _ h => h) (Or.inl ⟨by rfl, fun w => by go_simp⟩) ?_
  simp only [Act.put, List.getElem_toArray, List.getElem_cons_succ, List.getElem_cons_zero, List.setIfInBounds_toArray, List.set_cons_zero, List.set_cons_succ]
  refine wpAny_take (i := 6) (v := .pointer (some ⟨lb, 7, none⟩)) rfl (by kernel_rfl) (by kernel_rfl) (by kernel_rfl) (fun _ _ _ h => h) (Or.inl ⟨by rfl, fun w => by go_simp⟩) ?_
  simp only [Act.put, List.getElem_toArray, List.getElem_cons_succ, List.getElem_cons_zero, List.setIfInBounds_toArray, List.set_cons_zero, List.set_cons_succ]
  refine wpAny_take (i := 8) (v := .int .i64 (k : Int)) rfl (by kernel_rfl) (by kernel_rfl) (by kernel_rfl) (fun _ _ _ h => h) (Or.inl ⟨by rfl, fun w => by go_simp⟩) ?_
  simp only [Act.put, List.getElem_toArray, List.getElem_cons_succ, List.getElem_cons_zero, List.setIfInBounds_toArray, List.set_cons_zero, List.set_cons_succ]
  refine wpAny_take (i := 11) (v := .int .i64 (k : Int)) rfl (by kernel_rfl) (by kernel_rfl) (by kernel_rfl) (fun _ _ _ h => h) (Or.inl ⟨by rfl, fun w => by go_simp⟩) ?_
  simp only [Act.put, List.getElem_toArray, List.getElem_cons_succ, List.getElem_cons_zero, List.setIfInBounds_toArray, List.set_cons_zero, List.set_cons_succ]
  refine wpAny_take (i := 12) (v := .pointer (some ⟨lb, 0, none⟩)) rfl (by kernel_rfl) (by kernel_rfl) (by kernel_rfl) (fun _ _ _ h => h) (Or.inl ⟨by rfl, fun w => by go_simp⟩) ?_
  simp only [Act.put, List.getElem_toArray, List.getElem_cons_succ, List.getElem_cons_zero, List.setIfInBounds_toArray, List.set_cons_zero, List.set_cons_succ]
  refine wpAny_take (i := 13) (v := .pointer (some ⟨lb, 0, none⟩)) rfl (by kernel_rfl) (by kernel_rfl) (by kernel_rfl) (fun _ _ _ h => h) (Or.inl ⟨by rfl, fun w => by go_simp⟩) ?_
  simp only [Act.put, List.getElem_toArray, List.getElem_cons_succ, List.getElem_cons_zero, List.setIfInBounds_toArray, List.set_cons_zero, List.set_cons_succ]
  refine wpAny_take (i := 14) (v := .pointer (some ⟨lb, 5, none⟩)) rfl (by kernel_rfl) (by kernel_rfl) (by kernel_rfl) (fun _ _ _ h => h) (Or.inl ⟨by rfl, fun w => by go_simp⟩) ?_
  simp only [Act.put, List.getElem_toArray, List.getElem_cons_succ, List.getElem_cons_zero, List.setIfInBounds_toArray, List.set_cons_zero, List.set_cons_succ]
  refine wpAny_take (i := 16) (v := .int .i64 (k : Int)) rfl (by kernel_rfl) (by kernel_rfl) (by kernel_rfl) (fun _ _ _ h => h) (Or.inl ⟨by rfl, fun w => by go_simp⟩) ?_
  simp only [Act.put, List.getElem_toArray, List.getElem_cons_succ, List.getElem_cons_zero, List.setIfInBounds_toArray, List.set_cons_zero, List.set_cons_succ]
  refine wpAny_take (i := 17) (v := .pointer (some ⟨lb, 0, none⟩)) rfl (by kernel_rfl) (by kernel_rfl) (by kernel_rfl) (fun _ _ _ h => h) (Or.inl ⟨by rfl, fun w => by go_simp⟩) ?_
  simp only [Act.put, List.getElem_toArray, List.getElem_cons_succ, List.getElem_cons_zero, List.setIfInBounds_toArray, List.set_cons_zero, List.set_cons_succ]
  refine wpAny_take (i := 18) (v := .pointer (some ⟨lb, 0, none⟩)) rfl (by kernel_rfl) (by kernel_rfl) (by kernel_rfl) (fun _ _ _ h => h) (Or.inl ⟨by rfl, fun w => by go_simp⟩) ?_
  simp only [Act.put, List.getElem_toArray, List.getElem_cons_succ, List.getElem_cons_zero, List.setIfInBounds_toArray, List.set_cons_zero, List.set_cons_succ]
  refine wpAny_take (i := 19) (v := .pointer (some ⟨lb, 6, none⟩)) rfl (by kernel_rfl) (by kernel_rfl) (by kernel_rfl) (fun _ _ _ h => h) (Or.inl ⟨by rfl, fun w => by go_simp⟩) ?_
  simp only [Act.put, List.getElem_toArray, List.getElem_cons_succ, List.getElem_cons_zero, List.setIfInBounds_toArray, List.set_cons_zero, List.set_cons_succ]
  refine wpAny_take (i := 22) (v := .slice ta tt.length tcap) rfl (by kernel_rfl) (by kernel_rfl) (by kernel_rfl) (fun _ _ _ h => h) (Or.inl ⟨by rfl, fun w => by go_simp⟩) ?_
  simp only [Act.put, List.getElem_toArray, List.getElem_cons_succ, List.getElem_cons_zero, List.setIfInBounds_toArray, List.set_cons_zero, List.set_cons_succ]
  refine wpAny_take (i := 23) (v := .int .i64 ((k : Int) * 60)) rfl (by kernel_rfl) (by kernel_rfl) (by kernel_rfl) (fun _ _ _ h => h) (Or.inl ⟨by rfl, fun w => by go_simp⟩) ?_
  simp only [Act.put, List.getElem_toArray, List.getElem_cons_succ, List.getElem_cons_zero, List.setIfInBounds_toArray, List.set_cons_zero, List.set_cons_succ]
  refine wpAny_take (i := 24) (v := .int .i64 (m : Int)) rfl (by kernel_rfl) (by kernel_rfl) (by kernel_rfl) (fun _ _ _ h => h) (Or.inl ⟨by rfl, fun w => by go_simp⟩) ?_
  simp only [Act.put, List.getElem_toArray, List.getElem_cons_succ, List.getElem_cons_zero, List.setIfInBounds_toArray, List.set_cons_zero, List.set_cons_succ]
  have hsl : ∀ w' : World, (Instr.slice 36 (.slice ta tt.length tcap) (some (.int .i64 ((k : Int) * 60))) (some (.int .i64 (m : Int))) none).run Tryd.prog w' = .ok (.slice (slA ta tcap (k * 60)) (m - k * 60) (tcap - k * 60)) w' := fun w' => by
    have h0 := run_byLH ta tt.length tcap (k * 60) m m1 m2 w'
    rw [show ((k * 60 : Nat) : Int) = (k : Int) * 60 from by omega] at h0
    exact h0
  refine wpAny_take (i := 25) (v := .slice (slA ta tcap (k * 60)) (m - k * 60) (tcap - k * 60)) rfl (by kernel_rfl) (by kernel_rfl) (by kernel_rfl) (fun _ _ _ h => h) (Or.inl ⟨by rfl, fun w => by go_simp⟩) ?_
  simp only [Act.put, List.getElem_toArray, List.getElem_cons_succ, List.getElem_cons_zero, List.setIfInBounds_toArray, List.set_cons_zero, List.set_cons_succ]
  clear hsl
  generalize slA ta tcap (k * 60) = sa at *
  generalize m - k * 60 = sl at *
  generalize tcap - k * 60 = sc at *
  refine any_of_L (g := 27) (T := fun u => u = V) _ _ _ _ ?_
  refine L_takeC [27] (i := 3) (v := .agg #[.pointer (some ⟨p, 0, none⟩), .int .i64 (fr : Int), .int .i64 (mn : Int)]) rfl (by kernel_rfl) (by kernel_rfl) (by decide) (by kernel_rfl) (by kernel_rfl) (by kernel_rfl) (by kernel_rfl) (fun _ _ _ h => h) ?_ rfl ?_
  · refine yields_load_run (by rfl) 50 (.tmp 19) (by rfl) (.pointer (some ⟨lb, 0, none⟩)) (by rfl) ?_
    exact fun w' hw' => by rw [hw']; exact load_area HD.out.1
  simp only [Act.put, List.getElem_toArray, List.getElem_cons_succ, List.getElem_cons_zero, List.setIfInBounds_toArray, List.set_cons_zero, List.set_cons_succ]
  refine L_takeC [27, 26, 10, 9] (i := 7) (v := .slice (some ⟨g, 0, none⟩) wh.length wc) rfl (by kernel_rfl) (by kernel_rfl) (by decide) (by kernel_rfl) (by kernel_rfl) (by kernel_rfl) (by kernel_rfl) (fun _ _ _ h => h) (Or.inl ⟨by rfl, fun w' hw' => by have c0 : w'.cell? ⟨lb, 7, none⟩ = some (.slice (some ⟨g, 0, none⟩) wh.length wc) := (by rw [hw', HD.out.1.at]; rfl); clear hw'; go_simp⟩) rfl ?_
  simp only [Act.put, List.getElem_toArray, List.getElem_cons_succ, List.getElem_cons_zero, List.setIfInBounds_toArray, List.set_cons_zero, List.set_cons_succ]
  refine L_takeC [27, 26] (i := 15) (v := .int .i64 (s.sit : Int)) rfl (by kernel_rfl) (by kernel_rfl) (by decide) (by kernel_rfl) (by kernel_rfl) (by kernel_rfl) (by kernel_rfl) (fun _ _ _ h => h) (Or.inl ⟨by rfl, fun w' hw' => by have c0 : w'.cell? ⟨lb, 5, none⟩ = some (.int .i64 (s.sit : Int)) := (by rw [hw', HD.out.1.at]; rfl); clear hw'; go_simp⟩) rfl ?_
  simp only [Act.put, List.getElem_toArray, List.getElem_cons_succ, List.getElem_cons_zero, List.setIfInBounds_toArray, List.set_cons_zero, List.set_cons_succ]
  refine L_takeC [27, 26, 21] (i := 20) (v := .int .i64 (s.st : Int)) rfl (by kernel_rfl) (by kernel_rfl) (by decide) (by kernel_rfl) (by kernel_rfl) (by kernel_rfl) (by kernel_rfl) (fun _ _ _ h => h) (Or.inl ⟨by rfl, fun w' hw' => by have c0 : w'.cell? ⟨lb, 6, none⟩ = some (.int .i64 (s.st : Int)) := (by rw [hw', HD.out.1.at]; rfl); clear hw'; go_simp⟩) rfl ?_
  simp only [Act.put, List.getElem_toArray, List.getElem_cons_succ, List.getElem_cons_zero, List.setIfInBounds_toArray, List.set_cons_zero, List.set_cons_succ]
  refine L_takeC [27, 26, 10] (i := 9) (v := .pointer (some ⟨g, k, none⟩)) rfl (by kernel_rfl) (by kernel_rfl) (by decide) (by kernel_rfl) (by kernel_rfl) (by kernel_rfl) (by kernel_rfl) (fun _ _ _ h => h) (Or.inl ⟨by rfl, fun w' hw' => by clear hw'; go_simp⟩) rfl ?_
  simp only [Act.put, List.getElem_toArray, List.getElem_cons_succ, List.getElem_cons_zero, List.setIfInBounds_toArray, List.set_cons_zero, List.set_cons_succ]
  refine L_takeC [27, 26] (i := 10) (v := .int .i64 ((wk : Nat) : Int)) rfl (by kernel_rfl) (by kernel_rfl) (by decide) (by kernel_rfl) (by kernel_rfl) (by kernel_rfl) (by kernel_rfl) (fun _ _ _ h => h) (Or.inl ⟨by rfl, fun w' hw' => by have c0 : w'.cell? ⟨g, k, none⟩ = some (.int .i64 ((wk : Nat) : Int)) := (by rw [hw']; exact HD.out.2); clear hw'; go_simp⟩) rfl ?_
  simp only [Act.put, List.getElem_toArray, List.getElem_cons_succ, List.getElem_cons_zero, List.setIfInBounds_toArray, List.set_cons_zero, List.set_cons_succ]
  refine L_takeC [27, 26] (i := 21) (v := .bool fb) rfl (by kernel_rfl) (by kernel_rfl) (by decide) (by kernel_rfl) (by kernel_rfl) (by kernel_rfl) (by kernel_rfl) (fun _ _ _ h => h) (Or.inl ⟨by rfl, fun w' hw' => by clear hw'; go_simp⟩) rfl ?_
  simp only [Act.put, List.getElem_toArray, List.getElem_cons_succ, List.getElem_cons_zero, List.setIfInBounds_toArray, List.set_cons_zero, List.set_cons_succ]
  refine L_takeC [27] (i := 26) (v := .agg #[.int .i64 ((wk : Nat) : Int), .int .i64 (k : Int), .int .i64 (s.sit : Int), .bool fb, .slice sa sl sc]) rfl (by kernel_rfl) (by kernel_rfl) (by decide) (by kernel_rfl) (by kernel_rfl) (by kernel_rfl) (by kernel_rfl) (fun _ _ _ h => h) ?_ rfl ?_
  · refine yields_build_run (by rfl) 73 _ (by rfl) #[(0, .int .i64 ((wk : Nat) : Int)), (1, .int .i64 (k : Int)), (2, .int .i64 (s.sit : Int)), (3, .bool fb), (4, .slice sa sl sc)] (by simp [Act.eval]) ?_
    intro w' _
    exact build_pc5 _ _ _ _ _ _ _ w'
  simp only [Act.put, List.getElem_toArray, List.getElem_cons_succ, List.getElem_cons_zero, List.setIfInBounds_toArray, List.set_cons_zero, List.set_cons_succ]
  refine L_go (by kernel_rfl) (by kernel_rfl) ?_
  refine wpOp_step rfl ?_
  intro K hK
  rw [if_pos (by rfl)]
  have hK' : Shut (∀ a w, _ → K a w) := hK
  clear hK
  go_wp2_with fail
  refine HW.out.mono ?_
  rintro e w7 ⟨rfl, cv7, h7, k7⟩
  refine hK'.out _ _ ?_
  clear hK' K
  try simp only [Act.put, List.getElem_toArray, List.getElem_cons_succ, List.getElem_cons_zero, List.setIfInBounds_toArray, List.set_cons_zero, List.set_cons_succ]
  refine any_one (i := 28) (by kernel_rfl) ?_
  refine wpOp_step rfl ?_
  intro K hK
  rw [if_pos (by rfl)]
  have hK' : Shut (∀ a w, _ → K a w) := hK
  clear hK
  go_wp2_with fail
  refine hK'.out _ _ ?_
  clear hK' K
  refine wpAny_done (by kernel_rfl) ?_ _
  go_wp2
  go_ret
  exact ⟨rfl, cv7, h7, k7⟩
end
end Go.Proofs.YteledlbcbcnidaaDoor

namespace Go.Proofs.YteledlbcbcnidaaDoor
set_option linter.unusedVariables false
set_option linter.unusedSimpArgs false
set_option maxRecDepth 100000
set_option maxHeartbeats 2000000
open Go.RowKit Go.Lib
section
variable {w W U : World} {p nb sb : Nat} {cv : Value} {n : Nat} {D : Dk} {lb fr mn : Nat} {tv wv : Value} {s : Ls} {tx : List UInt8} {wh : List Nat}
/-- What is begun is begun. -/
theorem begin_begun (a : LgAt w W p nb sb cv n D lb fr mn tv wv s tx wh) (hb : s.bg = true) :
    Calls Tryd.prog 37 #[.pointer (some ⟨lb, 0, none⟩)] W fun e w' => e = .returned .nilIface ∧ Hid (LgAt w w' p nb sb cv n D lb fr mn tv wv s tx wh) ∧ Hid (∀ b, b ≠ lb → w'.heap[b]? = W.heap[b]?) := by
  have c11 : W.cell? ⟨lb, 11, none⟩ = some (.bool true) := by rw [a.box.at]; simp [lgC, hb]
  have hset := a.set 11 (.bool true) (s' := s) (by simp [lgC, hb])
  have HA : Hid (LgAt w (W.setCell ⟨lb, 11, none⟩ (.bool true)) p nb sb cv n D lb fr mn tv wv s tx wh) := hset
  have hf : W.frozen? ⟨lb, 11, none⟩ = false := a.box.fz 11
  clear a hset hb
  go_enter Tryd.func37, Tryd.ntmps37
  go_wp2
  go_ret
  exact ⟨rfl, HA, fun b hb => Below.heap_setCell _ _ _ _ hb⟩
/-- What Open found is made safe. -/
theorem begin_first (a : LgAt w W p nb sb cv n D lb fr mn tv wv s tx wh) (hb : s.bg = false) (hl : s.ld = true) (hs : D.lim 1000000) :
    Calls Tryd.prog 37 #[.pointer (some ⟨lb, 0, none⟩)] W fun e w' => e = .returned (enE (flR D).1) ∧ ∃ cv', Hid (LgAt w w' p nb sb cv' n (flR D).2 lb fr mn tv wv { s with bg := decide ((flR D).1 = 0) } tx wh) ∧ Hid (Keeps w.heap.size (59 :: dkT) W w') := by
  have c11 : W.cell? ⟨lb, 11, none⟩ = some (.bool false) := by rw [a.box.at]; simp [lgC, hb]
  have c10 : W.cell? ⟨lb, 10, none⟩ = some (.bool true) := by rw [a.box.at]; simp [lgC, hl]
  have c0 : W.cell? ⟨lb, 0, none⟩ = some (.pointer (some ⟨p, 0, none⟩)) := by rw [a.box.at]; rfl
  have HF : Hid (Calls _ _ _ W _) := tn_fl a.tn hs
  have HN : Hid (∀ (U : World) (cv' : Value), Tn w U p nb sb cv' n (flR D).2 → Keeps w.heap.size dkT W U → LgAt w (U.setCell ⟨lb, 11, none⟩ (.bool (decide ((flR D).1 = 0)))) p nb sb cv' n (flR D).2 lb fr mn tv wv { s with bg := decide ((flR D).1 = 0) } tx wh ∧ U.cell? ⟨lb, 11, none⟩ = some (.bool false) ∧ U.frozen? ⟨lb, 11, none⟩ = false ∧ Keeps w.heap.size (59 :: dkT) W (U.setCell ⟨lb, 11, none⟩ (.bool (decide ((flR D).1 = 0))))) := fun U cv' ht hk => by
    have a' := a.disk ht hk
    refine ⟨a'.set 11 _ rfl, by rw [a'.box.at]; simp [lgC, hb], a'.box.fz 11, ?_⟩
    exact (hk.mono (fun t ht => List.mem_cons_of_mem _ ht)).setCell a'.box (List.mem_cons_self ..) a'.llb _
  have hfl : (flR D).1 = 0 ∨ (flR D).1 = 7 := by unfold flR; split <;> simp
  clear a hb hl
  generalize flR D = R at *
  rcases hfl with h0 | h0
  · rw [h0] at HF HN ⊢
    rw [enE_zero] at HF ⊢
    rw [show decide ((0 : Int) = 0) = true from rfl] at HN ⊢
    go_enter Tryd.func37, Tryd.ntmps37
    go_wp2_with fail
    refine HF.out.mono ?_
    rintro e w7 ⟨rfl, cv7, h7, k7⟩
    obtain ⟨h1, c11', f11, hk⟩ := HN.out w7 cv7 h7.out k7.out
    have H1 : Hid (LgAt _ _ _ _ _ _ _ _ _ _ _ _ _ _ _ _) := h1
    have HK : Hid (Keeps _ _ _ _) := hk
    clear HF HN h7 k7 h1 hk
    go_wp2
    go_ret
    exact ⟨rfl, cv7, H1, HK⟩
  · rw [h0] at HF HN ⊢
    rw [enE_ne (show (7 : Int) ≠ 0 by decide)] at HF ⊢
    rw [show decide ((7 : Int) = 0) = false from rfl] at HN ⊢
    go_enter Tryd.func37, Tryd.ntmps37
    go_wp2_with fail
    refine HF.out.mono ?_
    rintro e w7 ⟨rfl, cv7, h7, k7⟩
    obtain ⟨h1, c11', f11, hk⟩ := HN.out w7 cv7 h7.out k7.out
    have H1 : Hid (LgAt _ _ _ _ _ _ _ _ _ _ _ _ _ _ _ _) := h1
    have HK : Hid (Keeps _ _ _ _) := hk
    clear HF HN h7 k7 h1 hk
    go_wp2
    go_ret
    exact ⟨rfl, cv7, H1, HK⟩
end
end Go.Proofs.YteledlbcbcnidaaDoor

namespace Go.Proofs.YteledlbcbcnidaaDoor
set_option linter.unusedVariables false
set_option linter.unusedSimpArgs false
set_option maxRecDepth 100000
set_option maxHeartbeats 2000000
open Go.RowKit Go.Lib
/-- A row is the old one, or a new one. -/
def OldNew (W : World) (v v' : Value) : Prop := v'.ownBlock = v.ownBlock ∨ ∃ b, v'.ownBlock = some b ∧ W.heap.size ≤ b
/-- What a log's calls keep. -/
structure LKeep (base lb : Nat) (tv wv tv' wv' : Value) (W U : World) : Prop where
  os : U.os = W.os
  tape : U.tape = W.tape
  output : U.output = W.output
  size : W.heap.size ≤ U.heap.size
  block : ∀ b, b < W.heap.size → (b < base ∨ (b ≠ lb ∧ tv.ownBlock ≠ some b ∧ wv.ownBlock ≠ some b ∧ ∀ cs t fr, W.heap[b]? = some (.cells cs t fr) → t ∉ dkT)) → U.heap[b]? = W.heap[b]?
  tx : OldNew W tv tv'
  wh : OldNew W wv wv'
section
variable {base lb : Nat} {tv wv tv' wv' tv2 wv2 : Value} {W U V : World}
theorem OldNew.refl (W : World) (v : Value) : OldNew W v v := .inl rfl
theorem OldNew.trans {v v' v2 : Value} (h : OldNew W v v') (h2 : OldNew U v' v2) (hs : W.heap.size ≤ U.heap.size) : OldNew W v v2 := by
  rcases h2 with e | ⟨b, e, hb⟩
  · rcases h with e1 | ⟨b, e1, hb⟩
    · exact .inl (e.trans e1)
    · exact .inr ⟨b, e.trans e1, hb⟩
  · exact .inr ⟨b, e, Nat.le_trans hs hb⟩
theorem OldNew.ne {v v' : Value} (h : OldNew W v v') {b : Nat} (hb : b < W.heap.size) (hn : v.ownBlock ≠ some b) : v'.ownBlock ≠ some b := by
  rcases h with e | ⟨c, e, hc⟩
  · rw [e]; exact hn
  · rw [e]
    intro e2
    cases e2
    omega
theorem LKeep.refl (base lb : Nat) (tv wv : Value) (W : World) : LKeep base lb tv wv tv wv W W := ⟨rfl, rfl, rfl, Nat.le_refl _, fun _ _ _ => rfl, .refl _ _, .refl _ _⟩
theorem LKeep.trans (h : LKeep base lb tv wv tv' wv' W U) (k : LKeep base lb tv' wv' tv2 wv2 U V) : LKeep base lb tv wv tv2 wv2 W V :=
  ⟨k.os.trans h.os, k.tape.trans h.tape, k.output.trans h.output, Nat.le_trans h.size k.size, fun b hb hc => by
    have e := h.block b hb hc
    refine (k.block b (Nat.lt_of_lt_of_le hb h.size) ?_).trans e
    rcases hc with hc | ⟨h1, h2, h3, h4⟩
    · exact .inl hc
    · exact .inr ⟨h1, h.tx.ne hb h2, h.wh.ne hb h3, fun cs t fr e' => h4 cs t fr (by rw [← e]; exact e')⟩, h.tx.trans k.tx h.size, h.wh.trans k.wh h.size⟩
theorem LKeep.of_keeps (h : Keeps base dkT W U) : LKeep base lb tv wv tv wv W U :=
  ⟨h.os, h.tape, h.output, h.size, fun b hb hc => h.block b hb (by
    rcases hc with hc | hc
    · exact .inl hc
    · exact .inr hc.2.2.2), .refl _ _, .refl _ _⟩
theorem LKeep.of_below (h : Below W.heap.size W U) : LKeep base lb tv wv tv wv W U := ⟨h.os, h.tape, h.output, h.size, fun b hb _ => h.block b hb, .refl _ _, .refl _ _⟩
theorem LKeep.widen (h : LKeep base lb .nilIface wv .nilIface wv' W U) (tv : Value) : LKeep base lb tv wv tv wv' W U :=
  ⟨h.os, h.tape, h.output, h.size, fun b hb hc => h.block b hb (by
    rcases hc with hc | hc
    · exact .inl hc
    · exact .inr ⟨hc.1, (fun e => by cases e), hc.2.2⟩), .refl _ _, h.wh⟩
/-- The log's own box is set. -/
theorem LKeep.setBox (h : LKeep base lb tv wv tv' wv' W U) (hl : base ≤ lb) (i : Nat) (v : Value) (hlt : U.heap.size ≤ (U.setCell ⟨lb, i, none⟩ v).heap.size) (ho : (U.setCell ⟨lb, i, none⟩ v).os = U.os) (ht : (U.setCell ⟨lb, i, none⟩ v).tape = U.tape) (hp : (U.setCell ⟨lb, i, none⟩ v).output = U.output) : LKeep base lb tv wv tv' wv' W (U.setCell ⟨lb, i, none⟩ v) :=
  ⟨ho.trans h.os, ht.trans h.tape, hp.trans h.output, Nat.le_trans h.size hlt, fun b hb hc => by
    refine (Below.heap_setCell _ _ _ _ (fun e => ?_)).trans (h.block b hb hc)
    simp only at e
    rcases hc with hc | hc
    · omega
    · exact hc.1 e, h.tx, h.wh⟩
end
section
variable {w W U : World} {p nb sb : Nat} {cv : Value} {n : Nat} {D : Dk} {lb fr mn : Nat} {tv wv : Value} {s : Ls} {tx : List UInt8} {wh : List Nat}
/-- The log's box and its places turn. -/
theorem LgAt.turn (a : LgAt w W p nb sb cv n D lb fr mn tv wv s tx wh) {wv' : Value} {s' : Ls} {wh' : List Nat} (ne : ∀ (j : Nat) (cs' : Array Value) (t' : TypeId), W.heap[j]? = some (.cells cs' t' (0, 0)) → t' ≠ 59 → t' ≠ 3 → U.heap[j]? = W.heap[j]?) (hbx : LgBox U lb p fr mn tv wv' s') (hwh : NaRow U w.heap.size wv' wh') (hbl : Below w.heap.size W U) : LgAt w U p nb sb cv n D lb fr mn tv wv' s' tx wh' := by
  have d := a.tn.1
  exact ⟨⟨⟨(ne _ _ _ d.box (by decide) (by decide)).trans d.box, (ne _ _ _ d.now (by decide) (by decide)).trans d.now, (ne _ _ _ d.safe (by decide) (by decide)).trans d.safe, d.ne, d.lp, d.ln, d.ls, ownsRow_keep d.chg (fun b' cs' e' _ => ne b' _ _ e' (by decide) (by decide)), d.ok⟩, a.tn.2.trans hbl⟩, hbx, ownsRow_keep a.tx (fun b' cs' e' _ => ne b' _ _ e' (by decide) (by decide)), hwh, a.llb⟩
/-- A piece has its place. -/
theorem place_none (a : LgAt w W p nb sb cv n D lb fr mn tv wv s tx wh) (k : Nat) (hk : k < wh.length) (hsf : s.sf ≤ k) (hl : wh.length ≤ 1000) :
    Calls Tryd.prog 38 #[.pointer (some ⟨lb, 0, none⟩), .int .i64 (k : Int)] W fun e w' => e = .returned (.tuple #[]) ∧ Still W w' := by
  obtain ⟨wa, wc, hwv⟩ := a.wh.shape
  have c7 : W.cell? ⟨lb, 7, none⟩ = some (.slice wa wh.length wc) := by rw [a.box.at, ← hwv]; rfl
  have c8 : W.cell? ⟨lb, 8, none⟩ = some (.int .i64 (s.sf : Int)) := by rw [a.box.at]; rfl
  have k1 : ¬ (k : Int) = (wh.length : Int) := by omega
  have k2 : ((k : Int) == (wh.length : Int)) = false := by rw [beq_eq_false_iff_ne]; exact k1
  have k3 : ¬ (k : Int) < (s.sf : Int) := by omega
  clear a hwv
  go_enter Tryd.func38, Tryd.ntmps38
  go_wp2
  go_end0
  exact ⟨rfl, Still.refl _⟩
/-- A new piece gets a place. -/
theorem place_new (a : LgAt w W p nb sb cv n D lb fr mn tv wv s tx wh) (hl : wh.length ≤ 1000) :
    Calls Tryd.prog 38 #[.pointer (some ⟨lb, 0, none⟩), .int .i64 (wh.length : Int)] W fun e w' => e = .returned (.tuple #[]) ∧ ∃ f wv', IsFree s.old wh f ∧ Hid (LgAt w w' p nb sb cv n D lb fr mn tv wv' s tx (wh ++ [f])) ∧ Hid (LKeep w.heap.size lb .nilIface wv .nilIface wv' W w') := by
  obtain ⟨wa, wc, hwv⟩ := a.wh.shape
  have c7 : W.cell? ⟨lb, 7, none⟩ = some (.slice wa wh.length wc) := by rw [a.box.at, ← hwv]; rfl
  have HAt : Hid (∀ U, Below W.heap.size W U → LgAt w U p nb sb cv n D lb fr mn tv (.slice wa wh.length wc) s tx wh) := fun U hU => by rw [← hwv]; exact a.below hU
  have HDr : Hid (Below W.heap.size W W.drew) := ⟨rfl, rfl, rfl, Nat.le_refl _, fun _ _ => rfl⟩
  rw [hwv]
  clear a hwv
  go_enter Tryd.func38, Tryd.ntmps38
  go_upto_region 1 with fail
  refine wp_region_drawn (by kernel_rfl) ?_
  generalize W.drew = v2 at *
  clear c7
  refine wpAny_take (i := 0) (v := .pointer (some ⟨lb, 0, none⟩)) rfl (by kernel_rfl) (by kernel_rfl) (by kernel_rfl) (fun _ _ _ h => h) (Or.inl ⟨by rfl, fun w => by go_simp⟩) ?_
  simp only [Act.put, List.getElem_toArray, List.getElem_cons_succ, List.getElem_cons_zero, List.setIfInBounds_toArray, List.set_cons_zero, List.set_cons_succ]
  refine wpAny_take (i := 1) (v := .pointer (some ⟨lb, 0, none⟩)) rfl (by kernel_rfl) (by kernel_rfl) (by kernel_rfl) (fun _ _ _ h => h) (Or.inl ⟨by rfl, fun w => by go_simp⟩) ?_
  simp only [Act.put, List.getElem_toArray, List.getElem_cons_succ, List.getElem_cons_zero, List.setIfInBounds_toArray, List.set_cons_zero, List.set_cons_succ]
  refine wpAny_take (i := 2) (v := .pointer (some ⟨lb, 0, none⟩)) rfl (by kernel_rfl) (by kernel_rfl) (by kernel_rfl) (fun _ _ _ h => h) (Or.inl ⟨by rfl, fun w => by go_simp⟩) ?_
  simp only [Act.put, List.getElem_toArray, List.getElem_cons_succ, List.getElem_cons_zero, List.setIfInBounds_toArray, List.set_cons_zero, List.set_cons_succ]
  refine wpAny_take (i := 3) (v := .pointer (some ⟨lb, 7, none⟩)) rfl (by kernel_rfl) (by kernel_rfl) (by kernel_rfl) (fun _ _ _ h => h) (Or.inl ⟨by rfl, fun w => by go_simp⟩) ?_
  simp only [Act.put, List.getElem_toArray, List.getElem_cons_succ, List.getElem_cons_zero, List.setIfInBounds_toArray, List.set_cons_zero, List.set_cons_succ]
  refine wpAny_take (i := 5) (v := .pointer (some ⟨lb, 0, none⟩)) rfl (by kernel_rfl) (by kernel_rfl) (by kernel_rfl) (fun _ _ _ h => h) (Or.inl ⟨by rfl, fun w => by go_simp⟩) ?_
  simp only [Act.put, List.getElem_toArray, List.getElem_cons_succ, List.getElem_cons_zero, List.setIfInBounds_toArray, List.set_cons_zero, List.set_cons_succ]
  refine any_of_L (g := 8) (T := fun u => Below W.heap.size W u) _ _ _ _ ?_
  refine L_take (i := 4) (v := .slice wa wh.length wc) rfl rfl (by kernel_rfl) (by decide) (by kernel_rfl) (by kernel_rfl) (by kernel_rfl) (by kernel_rfl) (fun _ _ _ h => h) (Or.inl ⟨by rfl, fun w' hw' => by have c0 : w'.cell? ⟨lb, 7, none⟩ = some (.slice wa wh.length wc) := (by rw [(HAt.out w' hw').box.at]; rfl); clear hw'; go_simp⟩) HDr.out ?_
  simp only [Act.put, List.getElem_toArray, List.getElem_cons_succ, List.getElem_cons_zero, List.setIfInBounds_toArray, List.set_cons_zero, List.set_cons_succ]
  have HFr : Hid (Calls _ _ _ v2 _) := free_any (HAt.out v2 HDr.out) hl
  refine L_one (i := 6) (by kernel_rfl) ?_
  refine wpOp_step rfl ?_
  intro K hK
  rw [if_pos (by rfl)]
  have hK' : Shut (∀ a w, _ → K a w) := hK
  clear hK
  go_wp2_with fail
  refine HFr.out.mono ?_
  rintro e v5 ⟨f, rfl, hf, hs5⟩
  have H5 : Hid (Below W.heap.size W v5) := HDr.out.trans ((hs5.below _).mono HDr.out.size)
  have HIf : Hid (IsFree s.old wh f) := hf
  refine hK'.out _ _ ⟨H5.out, ?_⟩
  clear hK' K hs5 hf HFr HDr
  try simp only [Act.put, List.getElem_toArray, List.getElem_cons_succ, List.getElem_cons_zero, List.setIfInBounds_toArray, List.set_cons_zero, List.set_cons_succ]
  refine L_one (i := 7) (by kernel_rfl) ?_
  refine wpOp_step rfl ?_
  intro K hK
  rw [if_pos (by rfl)]
  have hK' : Shut (∀ a w, _ → K a w) := hK
  clear hK
  go_wp2_with fail
  obtain ⟨v3, hv3⟩ : ∃ v3, v5.alloc (.cells #[.int .i64 (f : Int)] 3) = v3 := ⟨_, rfl⟩
  have hb23 : Below v5.heap.size v5 v3 := by rw [← hv3]; exact (Below.refl _ v5).alloc (Nat.le_refl _) _
  have H3 : Hid (Below W.heap.size W v3) := H5.out.trans (hb23.mono H5.out.size)
  have hr3 : v3.heap[v5.heap.size]? = some (.cells #[.int .i64 (f : Int)] 3 (0, 0)) := by rw [← hv3]; exact new_heap v5 _
  have a3 := HAt.out v3 H3.out
  rw [hv3]
  refine hK'.out _ _ ⟨H3.out, ?_⟩
  clear hK' K hv3 hb23 HAt
  try simp only [Act.put, List.getElem_toArray, List.getElem_cons_succ, List.getElem_cons_zero, List.setIfInBounds_toArray, List.set_cons_zero, List.set_cons_succ]
  refine L_go (by kernel_rfl) (by kernel_rfl) ?_
  obtain ⟨v8, w8, h1, h2, h3, h4, h5⟩ := run_appN v3 35 w.heap.size (.slice wa wh.length wc) wh f v5.heap.size a3.wh hr3 (a3.tn.2.size) (by omega)
  obtain ⟨a8, c8, hv8⟩ := h2.shape
  obtain ⟨l8, hl8⟩ : ∃ l8, (wh ++ [f]).length = l8 := ⟨_, rfl⟩
  rw [hl8] at hv8
  subst hv8
  clear hl8
  have hbx8 : LgBox w8 lb p fr mn tv (.slice wa wh.length wc) s := (h4 lb a3.box.lt (a3.wh.own_ne a3.box (by decide))).trans a3.box
  have e7 : w8.cell? ⟨lb, 7, none⟩ = some (.slice wa wh.length wc) := by rw [hbx8.at]; rfl
  have f7 := hbx8.fz 7
  have hbs : Below w.heap.size w8 (w8.setCell ⟨lb, 7, none⟩ (.slice a8 l8 c8)) := (Below.refl _ w8).setCell (p := ⟨lb, 7, none⟩) a3.llb _
  have HN : Hid (LgAt w (w8.setCell ⟨lb, 7, none⟩ (.slice a8 l8 c8)) p nb sb cv n D lb fr mn tv (.slice a8 l8 c8) s tx (wh ++ [f])) := by
    refine a3.turn (fun j cs' t' e' h1' h2' => ?_) (hbx8.set 7 _ rfl) ?_ (h3.trans hbs)
    · refine (Below.heap_setCell _ _ _ _ (fun e2 => ?_)).trans (h4 j (Array.getElem?_eq_some_iff.1 e').1 (a3.wh.own_ne e' h2'))
      simp only at e2
      have hh := a3.box
      unfold LgBox at hh
      rw [← e2, e'] at hh
      cases hh
      exact h1' rfl
    · refine ownsRow_keep h2 (fun b cs e _ => Below.heap_setCell _ _ _ _ (fun e2 => ?_))
      simp only at e2
      have hh := hbx8
      unfold LgBox at hh
      rw [← e2, e] at hh
      cases hh
  have HKp : Hid (LKeep w.heap.size lb .nilIface (.slice wa wh.length wc) .nilIface (.slice a8 l8 c8) W (w8.setCell ⟨lb, 7, none⟩ (.slice a8 l8 c8))) := by
    have k1 : LKeep w.heap.size lb .nilIface (.slice wa wh.length wc) .nilIface (.slice wa wh.length wc) W v3 := .of_below H3.out
    have k2 : LKeep w.heap.size lb .nilIface (.slice wa wh.length wc) .nilIface (.slice a8 l8 c8) v3 w8 := ⟨h3.os, h3.tape, h3.output, h3.size, fun b hb hc => by
      rcases hc with hc | hc
      · exact h3.block b hc
      · exact h4 b hb hc.2.2.1, .refl _ _, by
      rcases h5 with h5 | h5
      · exact .inl h5
      · exact .inr ⟨_, h5, Nat.le_refl _⟩⟩
    exact (k1.trans k2).setBox a3.llb 7 _ hbs.size hbs.os hbs.tape hbs.output
  clear a3 hbx8 h2 h3 h4 h5 hbs H3 H5 hr3
  refine wpOp_step rfl ?_
  intro K hK
  rw [if_pos (by rfl)]
  have hK' : Shut (∀ a w, _ → K a w) := hK
  clear hK
  refine wp_append_run (.tmp 16) (.tmp 19) 35 35 (by rfl) (.slice wa wh.length wc) (.slice (some ⟨v5.heap.size, 0, none⟩) 1 1) (by rfl) (by rfl) h1 ?_
  refine hK'.out _ _ ?_
  clear hK' K
  clear h1
  try simp only [Act.put, List.getElem_toArray, List.getElem_cons_succ, List.getElem_cons_zero, List.setIfInBounds_toArray, List.set_cons_zero, List.set_cons_succ]
  refine wpAny_take (i := 9) (v := .pointer (some ⟨lb, 0, none⟩)) rfl (by kernel_rfl) (by kernel_rfl) (by kernel_rfl) (fun _ _ _ h => h) (Or.inl ⟨by rfl, fun w => by go_simp⟩) ?_
  simp only [Act.put, List.getElem_toArray, List.getElem_cons_succ, List.getElem_cons_zero, List.setIfInBounds_toArray, List.set_cons_zero, List.set_cons_succ]
  refine wpAny_take (i := 10) (v := .pointer (some ⟨lb, 7, none⟩)) rfl (by kernel_rfl) (by kernel_rfl) (by kernel_rfl) (fun _ _ _ h => h) (Or.inl ⟨by rfl, fun w => by go_simp⟩) ?_
  simp only [Act.put, List.getElem_toArray, List.getElem_cons_succ, List.getElem_cons_zero, List.setIfInBounds_toArray, List.set_cons_zero, List.set_cons_succ]
  refine any_one (i := 11) (by kernel_rfl) ?_
  refine wpOp_step rfl ?_
  intro K hK
  rw [if_pos (by rfl)]
  have hK' : Shut (∀ a w, _ → K a w) := hK
  clear hK
  go_wp2_with fail
  refine hK'.out _ _ ?_
  clear hK' K
  refine wpAny_done (by kernel_rfl) ?_ _
  go_wp2
  go_end0
  exact ⟨rfl, f, _, HIf.out, HN, HKp⟩
end
end Go.Proofs.YteledlbcbcnidaaDoor
