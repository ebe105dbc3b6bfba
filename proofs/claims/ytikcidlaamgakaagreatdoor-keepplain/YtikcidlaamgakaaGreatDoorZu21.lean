/-
  The walk of daylaw2.KeepPlain.
-/
import Derived.Test.YtikcidlaamgakaaGreatDoorZu20
import Derived.Deep.CutRange
import Derived.Deep.CutBlock
namespace Go.Proofs.YtikcidlaamgakaaGreatDoor
set_option linter.unusedVariables false
set_option linter.unusedSimpArgs false
set_option maxRecDepth 100000
set_option maxHeartbeats 8000000
open Go.RowKit Go.Lib
/-- What is written of entries, bad ones too. -/
def szE (E : List En) : Nat := (E.map fun e => (entL e).length + 2).sum
theorem szE_snoc (A : List En) (e : En) : szE (A ++ [e]) = szE A + ((entL e).length + 2) := by simp [szE]
theorem szE_app (A B : List En) : szE (A ++ B) = szE A + szE B := by simp [szE]
theorem szE_two : ∀ A : List En, 2 * A.length ≤ szE A
  | [] => Nat.le_refl _
  | e :: es => by
    have h1 := szE_two es
    unfold szE at *
    simp only [List.map_cons, List.sum_cons, List.length_cons]
    omega
theorem szE_cost : ∀ A : List En, adL [] A = 0 → szE A = costL A
  | [], _ => rfl
  | e :: es, h => by
    have hf := (adL_nil_zero h e (by simp)).1
    have hb := frBad_zero.2 hf
    have h2 : ¬ 200 < (entB e).length := by have := (adL_nil_zero h e (by simp)).2; omega
    rw [adL_c0 hb h2] at h
    have ih := szE_cost es h
    unfold szE costL at *
    simp only [List.map_cons, List.sum_cons]
    rw [ih]
    unfold entL
    rw [if_pos hb]
theorem entL_le (e : En) : (entL e).length ≤ 1634 := by
  unfold entL
  split
  · rename_i h; exact frBad_big h
  · exact Nat.zero_le _
theorem szE_most : ∀ A : List En, szE A ≤ 1636 * A.length
  | [] => Nat.le_refl _
  | e :: es => by
    have h1 := szE_most es
    have h2 := entL_le e
    unfold szE at *
    simp only [List.map_cons, List.sum_cons, List.length_cons]
    omega
theorem kbuild_je0 (w : World) : (Instr.build 34 #[]).run Tryz.prog w = .ok (.agg je0C) w := by
  refine run_build w 34 _ _ ?_
  kernel_rfl
/-- The error and the size, one entry later. -/
theorem ePl_next {L : List Je} {x : Je} {k : Nat} (hk : k < L.length) (hx : L.getD k je0 = x) : adL [] ((L.take (k + 1)).map Je.en) = if adL [] ((L.take k).map Je.en) ≠ 0 then adL [] ((L.take k).map Je.en) else if frBad x.en ≠ 0 then frBad x.en else if 200 < (entB x.en).length then 4 else 0 := by
  rw [jes_take L k hk, hx, List.map_append, List.map_cons, List.map_nil, adL_snoc]
theorem jes_app_get {L M : List Je} {k : Nat} : (L ++ M).getD k je0 = if k < L.length then L.getD k je0 else M.getD (k - L.length) je0 := by
  simp only [List.getD_eq_getElem?_getD]
  split
  · rename_i h; rw [List.getElem?_append_left h]
  · rename_i h; rw [List.getElem?_append_right (by omega)]
theorem sPl_next {L M : List Je} {x : Je} {k : Nat} (hk : k < (L ++ M).length) (hx : (L ++ M).getD k je0 = x) : szE (((L ++ M).take (k + 1)).map Je.en) = szE (((L ++ M).take k).map Je.en) + ((entL x.en).length + 2) := by
  rw [jes_take _ k hk, hx, List.map_append, List.map_cons, List.map_nil, szE_snoc]
theorem IsJs.take {W : World} {a : Option Addr} {L : List Je} {c : Nat} (h : IsJs W a L c) (m : Nat) (hm : m ≤ L.length) : IsJs W a (L.take m) c := by
  have hc := h.cap
  refine ⟨by rw [List.length_take]; omega, ?_, fun x hx => h.lns x (List.mem_of_mem_take hx)⟩
  rcases h.lies with e | ⟨b, off, e, hlt, hc⟩
  · exact .inl (by rw [e]; simp)
  · refine .inr ⟨b, off, e, hlt, fun k hk => ?_⟩
    rw [List.length_take] at hk
    have := hc k (by omega)
    simp only [List.getD_eq_getElem?_getD, List.getElem?_take, if_pos (show k < m by omega)] at this ⊢
    exact this
/-- What the first loop has. -/
structure PlA (U0 wr : World) (L M : List Je) (ec : Int) (sz k : Nat) : Prop where
  bel : Below U0.heap.size U0 wr
  er : ec = adL [] ((L.take k).map Je.en)
  sz : sz = szE (((L ++ M).take k).map Je.en)
def J64 (L : List Je) : Prop := ∀ x ∈ L, I64 x.ent ∧ I64 x.per ∧ ∀ y ∈ x.lns, I64 y.amt
theorem adE_ok {room : Nat} {old : List (List UInt8)} {E : List En} (h : old.length ≤ E.length) (h0 : adL old E = 0) (hc : costL (E.drop old.length) ≤ room) : adE room old E = 0 := by
  unfold adE
  rw [if_neg (by omega), if_neg (by rw [h0]; decide), if_neg (by omega)]
theorem PkS.mono {w W : World} {p nb sb n L S L' S' : Nat} {E : List En} (h : PkS w W p nb sb n E L S) (h1 : L ≤ L') (h2 : S ≤ S') : PkS w W p nb sb n E L' S' := by
  obtain ⟨cv, D, a, b, c⟩ := h
  exact ⟨cv, D, a, b.mono h1 h2, c⟩
theorem js_under : Tryz.prog.underlying 22 = some (.slice (Tryz.prog.elem 22)) := by kernel_rfl
theorem js_size : (sizeOf (Tryz.prog.elem 22)).run Tryz.prog = fun W => .ok 4 W := by kernel_rfl
theorem run_jsH (a : Option Addr) (L cap m : Nat) (hm : m ≤ cap) (W : World) : (Instr.slice 22 (.slice a L cap) none (some (.int .i64 (m : Int))) none).run Tryz.prog W = .ok (.slice a m cap) W := by
  rw [run_slice_h W 22 a L cap js_under .i64 m (by omega) (by omega), js_size]
  cases a <;> simp [Result.andThen, sliced, Addr.add]
/-- What was kept is what it was. -/
theorem same_kept {W : World} {n0 : Nat} {a9 a1 : Option Addr} {c9 c1 : Nat} {L9 L : List Je} (hm : Made W n0 (.slice a9 L9.length c9) L9) (he : L9.map Je.en = L.map Je.en) (hz : adL [] (L.map Je.en) = 0) (hl : L.length ≤ 1000) (h1 : IsJs W a1 L c1) :
    Calls Tryz.prog 10 #[.slice a9 L9.length c9, .slice a1 L.length c1] W fun e w' => e = .returned (.bool true) ∧ Below W.heap.size W w' := by
  have hlen : L9.length = L.length := by have := congrArg List.length he; simpa using this
  obtain ⟨a, c, e, h9⟩ := hm.isJs
  cases e
  refine sameEntries_any a9 a1 c9 c1 L9 L W (by omega) (ep_of_en he) (fun x hx => ?_) h9 h1
  have hx2 : x.en ∈ L.map Je.en := by rw [← he]; exact List.mem_map.2 ⟨x, hx, rfl⟩
  have := (adL_nil_zero hz _ hx2).1.2.2.2.1
  have e2 : x.en.lns.length = x.lns.length := rfl
  omega
theorem kplain_walk (n : Int) (a1 : Option Addr) (c1 : Nat) (L : List Je) (a2 : Option Addr) (c2 : Nat) (M : List Je) (w : World) (hg : ErrT w) (hn : I64 n) (h1 : IsJs w a1 L c1) (h2 : IsJs w a2 M c2) (hl1 : L.length ≤ 35184372088832) (hl2 : M.length ≤ 35184372088832) (hj1 : J64 L) (hj2 : J64 M) :
    Calls Tryz.prog 3 #[.int .i64 n, .slice a1 L.length c1, .slice a2 M.length c2] w fun e w' => e = .returned (.bool true) ∧ Below w.heap.size w w' := by
  by_cases hr : 1 ≤ n ∧ n ≤ 200
  · obtain ⟨b, rfl⟩ : ∃ b : Nat, n = (b : Int) := ⟨n.toNat, by omega⟩
    have HNew : Hid (Calls _ _ _ w _) := tn_new b w (by omega) (by omega)
    have HErr : Hid (∀ (U : World) (E : Value) (c : Int), Below w.heap.size w U → ErrIs E c → Calls Tryz.prog 6 #[E, .int .i64 c] U fun e w' => e = .returned (.bool true) ∧ Below U.heap.size U w') := fun U E c hU hE => err_true hE U (hg.below hU (Nat.le_refl _))
    have bn1 : (1 : Int) ≤ b := hr.1
    have bn2 : (b : Int) ≤ 200 := hr.2
    clear hr hn
    by_cases h150 : b < 150
    · have h150' : (b : Int) < 150 := by omega
      clear h1 h2 hg hj1 hj2
      go_enter Tryz.func3, Tryz.ntmps3
      go_wp2_with fail
      refine HNew.out.mono ?_
      rintro e u1 ⟨p, nb, sb, rfl, ht⟩
      have HLd : Hid (Calls _ _ _ u1 _) := kload_no ht.out (by omega) (by omega) fmB_new
      have HT1 : Hid (Tn w u1 p nb sb (.slice none 0 0) b (dk0 b)) := ht
      clear HNew ht
      go_wp2_with fail
      refine HLd.out.mono ?_
      rintro e u2 ⟨rfl, b2⟩
      have HT2 : Hid (Tn w u2 p nb sb (.slice none 0 0) b (dk0 b)) := HT1.out.below b2.out
      have HE2 : Hid (Calls _ _ _ u2 _) := HErr.out u2 (.iface 41 (.int .i64 9)) 9 HT2.out.2 (.inr ⟨rfl, by decide, by decide⟩)
      clear HLd b2 HT1
      go_wp2_with fail
      refine HE2.out.mono ?_
      rintro e u3 ⟨rfl, b3⟩
      have HT3 : Hid (Tn w u3 p nb sb (.slice none 0 0) b (dk0 b)) := HT2.out.below b3
      have HF3 : Hid (Calls _ _ _ u3 _) := kformat_small HT3.out h150
      clear HE2 b3 HT2
      go_wp2_with fail
      refine HF3.out.mono ?_
      rintro e u4 ⟨rfl, b4⟩
      have HT4 : Hid (Tn w u4 p nb sb (.slice none 0 0) b (dk0 b)) := HT3.out.below b4.out
      have HE4 : Hid (Calls _ _ _ u4 _) := HErr.out u4 (.iface 41 (.int .i64 4)) 4 HT4.out.2 (.inr ⟨rfl, by decide, by decide⟩)
      clear HF3 b4 HT3 HErr
      go_wp2_with fail
      refine HE4.out.mono ?_
      rintro e u5 ⟨rfl, b5⟩
      have HE : Hid (Below w.heap.size w u5) := HT4.out.2.trans (b5.mono HT4.out.2.size)
      clear HE4 b5 HT4
      go_wp2
      go_ret
      exact ⟨rfl, HE.out⟩
    · have h150' : ¬ (b : Int) < 150 := by omega
      have HA : Hid (∀ U, Below w.heap.size w U → IsJs U a1 L c1 ∧ IsJs U a2 M c2) := fun U hU => ⟨h1.below hU, h2.below hU⟩
      have HJ : Hid (J64 L ∧ J64 M) := ⟨hj1, hj2⟩
      have HB : Hid (150 ≤ b ∧ b ≤ 200 ∧ L.length ≤ c1) := ⟨by omega, by omega, h1.cap⟩
      have l1 : (L.length : Int) ≤ 35184372088832 := by omega
      have l2 : (M.length : Int) ≤ 35184372088832 := by omega
      have l10 : (0 : Int) ≤ L.length := by omega
      have l20 : (0 : Int) ≤ M.length := by omega
      clear h1 h2 hg hj1 hj2 h150
      go_enter Tryz.func3, Tryz.ntmps3
      go_wp2_with fail
      refine HNew.out.mono ?_
      rintro e u1 ⟨p, nb, sb, rfl, ht⟩
      have HLd : Hid (Calls _ _ _ u1 _) := kload_no ht.out (by omega) (by omega) fmB_new
      have HT1 : Hid (Tn w u1 p nb sb (.slice none 0 0) b (dk0 b)) := ht
      clear HNew ht
      go_wp2_with fail
      refine HLd.out.mono ?_
      rintro e u2 ⟨rfl, b2⟩
      have HT2 : Hid (Tn w u2 p nb sb (.slice none 0 0) b (dk0 b)) := HT1.out.below b2.out
      have HE2 : Hid (Calls _ _ _ u2 _) := HErr.out u2 (.iface 41 (.int .i64 9)) 9 HT2.out.2 (.inr ⟨rfl, by decide, by decide⟩)
      clear HLd b2 HT1
      go_wp2_with fail
      refine HE2.out.mono ?_
      rintro e u3 ⟨rfl, b3⟩
      have HF3 : Hid (Calls _ _ _ u3 _) := pkS_format (HT2.out.below b3) HB.out.1 HB.out.2.1
      clear HE2 b3 HT2
      go_wp2_with fail
      refine HF3.out.mono ?_
      rintro e u4 ⟨rfl, hs4⟩
      have HS4 : Hid (PkS w u4 p nb sb b [] 10 0) := hs4.out.1
      have HE4 : Hid (Calls _ _ _ u4 _) := HErr.out u4 .nilIface 0 HS4.out.bel (.inl ⟨rfl, rfl⟩)
      clear HF3 hs4
      go_wp2_with fail
      refine HE4.out.mono ?_
      rintro e u5 ⟨rfl, b5⟩
      have HS5 : Hid (PkS w u5 p nb sb b [] 10 0) := HS4.out.below b5
      have HA5 : Hid (IsJs u5 a1 L c1 ∧ IsJs u5 a2 M c2) := HA.out u5 HS5.out.bel
      clear HE4 b5 HS4
      go_wp2_with fail
      have hbd := kbuild_je0
      have hal := kalloc_je
      go_loopw [12, 14, 15] (fun ev sv iv wr => ∃ (k sz : Nat) (ec : Int), k ≤ L.length + M.length ∧ iv = .int .i64 (k : Int) ∧ sv = .int .i64 (sz : Int) ∧ ev = .int .i64 ec ∧ Hid (PlA u5 wr L M ec sz k)) (fun _ _ iv _ => L.length + M.length - (RowKit.intOf iv).toNat)
      case atStart => exact ⟨0, 0, 0, Nat.zero_le _, rfl, rfl, rfl, Below.refl _ _, by simp [adL], by simp [szE]⟩
      case round =>
        obtain ⟨k, sz, ec, hk, rfl, rfl, rfl, H⟩ := hrel
        have k0 : (0 : Int) ≤ k := by omega
        have hsz : (sz : Int) ≤ 1636 * (k : Int) := by
          have e1 := H.out.sz
          have e2 := szE_most (((L ++ M).take k).map Je.en)
          rw [List.length_map, List.length_take, List.length_append] at e2
          have : min k (L.length + M.length) = k := by omega
          rw [this] at e2
          omega
        have sz0 : (0 : Int) ≤ sz := by omega
        by_cases hkl : k < L.length + M.length
        · have klt : (k : Int) < (L.length : Int) + (M.length : Int) := by omega
          have hka : k < (L ++ M).length := by rw [List.length_append]; exact hkl
          obtain ⟨x, hx⟩ : ∃ x, (L ++ M).getD k je0 = x := ⟨_, rfl⟩
          have hsn := sPl_next hka hx
          have hxm : x ∈ L ++ M := by rw [← hx]; exact jes_mem _ k hka
          have hx64 : I64 x.ent ∧ I64 x.per ∧ ∀ y ∈ x.lns, I64 y.amt := by
            rcases List.mem_append.1 hxm with h | h
            · exact HJ.out.1 x h
            · exact HJ.out.2 x h
          have hln : IsLn wr x.adr x.lns x.cap := by
            rcases List.mem_append.1 hxm with h | h
            · exact (HA5.out.1.lns x h).below H.out.bel
            · exact (HA5.out.2.lns x h).below H.out.bel
          have hle := entL_le x.en
          have HRf : Hid (∀ V, Below wr.heap.size wr V → Calls Tryz.prog 8 #[.agg #[.string x.ref, .int .i64 x.ent, .int .i64 x.per, .slice x.adr x.lns.length x.cap]] V fun e w' => ∃ a' c', e = .returned (.tuple #[.slice a' (entL x.en).length c', .int .i64 (frBad x.en)]) ∧ Below V.heap.size V w') := fun V hV => by
            refine (refEntry_u x.ref x.ent x.per x.adr x.cap x.lns V hx64.1 hx64.2.1 (hln.below hV)).mono ?_
            rintro e w' ⟨a', c', rfl, _, hb⟩
            exact ⟨a', c', rfl, hb⟩
          have HSz : Hid (∀ V, Below wr.heap.size wr V → Below u5.heap.size u5 V ∧ sz + ((entL x.en).length + 2) = szE (((L ++ M).take (k + 1)).map Je.en)) := fun V hV => ⟨H.out.bel.trans (hV.mono H.out.bel.size), by rw [hsn, ← H.out.sz]⟩
          have hlz : frBad x.en ≠ 0 → (entL x.en).length = 0 := fun h => by unfold entL; rw [if_neg h]; rfl
          have hle2 : frBad x.en = 0 → entL x.en = entB x.en := fun h => by unfold entL; rw [if_pos h]
          -- the box of the entry
          obtain ⟨V1, hV1⟩ : ∃ V1, (wr.alloc (.cells je0C 34)).setRow wr.heap.size je0C = V1 := ⟨_, rfl⟩
          have hst1 := kstore_je (cs := je0C.toList) (cs' := je0C.toList) rfl rfl (by decide) (new_heap wr (.cells je0C 34))
          have hst1' : (Instr.storeAt 34 (.pointer (some ⟨wr.heap.size, 0, none⟩)) (.agg je0C)).run Tryz.prog (wr.alloc (.cells je0C 34)) = .ok () V1 := by rw [← hV1]; exact hst1
          have hr1 : V1.heap[wr.heap.size]? = some (.cells je0C 34 (0, 0)) := by rw [← hV1]; exact setRow_heap _ _ _ _ _ _ (new_heap wr (.cells je0C 34))
          have hb1 : Below wr.heap.size wr V1 := by rw [← hV1]; exact setRow_below ((Below.refl _ wr).alloc (Nat.le_refl _) _) (Nat.le_refl _)
          obtain ⟨V2, hV2⟩ : ∃ V2, V1.setRow wr.heap.size [.string x.ref, .int .i64 x.ent, .int .i64 x.per, .slice x.adr x.lns.length x.cap].toArray = V2 := ⟨_, rfl⟩
          have hst2 := kstore_je (cs := [.string x.ref, .int .i64 x.ent, .int .i64 x.per, .slice x.adr x.lns.length x.cap]) (cs' := je0C.toList) rfl rfl (by intro u hu; simp at hu; rcases hu with rfl | rfl | rfl | rfl <;> rfl) hr1
          rw [hV2] at hst2
          have hr2 : V2.heap[wr.heap.size]? = some (.cells [.string x.ref, .int .i64 x.ent, .int .i64 x.per, .slice x.adr x.lns.length x.cap].toArray 34 (0, 0)) := by rw [← hV2]; exact setRow_heap _ _ _ _ _ _ hr1
          have hb2 : Below wr.heap.size wr V2 := by rw [← hV2]; exact setRow_below hb1 (Nat.le_refl _)
          have g0 : V2.cell? ⟨wr.heap.size, 0, none⟩ = some (.string x.ref) := by simp [World.cell?, hr2]
          have g1 : V2.cell? ⟨wr.heap.size, 1, none⟩ = some (.int .i64 x.ent) := by simp [World.cell?, hr2]
          have g2 : V2.cell? ⟨wr.heap.size, 2, none⟩ = some (.int .i64 x.per) := by simp [World.cell?, hr2]
          have g3 : V2.cell? ⟨wr.heap.size, 3, none⟩ = some (.slice x.adr x.lns.length x.cap) := by simp [World.cell?, hr2]
          have HR2 : Hid (Calls _ _ _ V2 _) := HRf.out V2 hb2
          have HB2 : Hid (Below wr.heap.size wr V2) := hb2
          have hw2 : IntKind.i64.wrap ((sz : Int) + ((entL x.en).length : Int)) = (sz : Int) + ((entL x.en).length : Int) := by rw [IntKind.wrap_i64]; omega
          have hw3 : IntKind.i64.wrap ((sz : Int) + ((entL x.en).length : Int) + 2) = (sz : Int) + ((entL x.en).length : Int) + 2 := by rw [IntKind.wrap_i64]; omega
          have hec := H.out.er
          -- what the error becomes
          obtain ⟨ec', hec'⟩ : ∃ ec', (if k < L.length then (if ec ≠ 0 then ec else if frBad x.en ≠ 0 then frBad x.en else if 200 < (entL x.en).length then 4 else 0) else ec) = ec' := ⟨_, rfl⟩
          have HEc : Hid (ec' = adL [] ((L.take (k + 1)).map Je.en)) := by
            unfold Hid
            rw [← hec']
            by_cases hkL : k < L.length
            · rw [if_pos hkL]
              have hxL : L.getD k je0 = x := by rw [← hx, jes_app_get, if_pos hkL]
              rw [ePl_next hkL hxL, ← hec]
              by_cases e0 : ec ≠ 0
              · rw [if_pos e0, if_pos e0]
              · rw [if_neg e0, if_neg e0]
                by_cases f0 : frBad x.en ≠ 0
                · rw [if_pos f0, if_pos f0]
                · rw [if_neg f0, if_neg f0, hle2 (by omega)]
            · rw [if_neg hkL, hec, List.take_of_length_le (by omega), List.take_of_length_le (by omega)]
          by_cases hkL : k < L.length
          · rw [if_pos hkL] at hec'
            have kL : (k : Int) < (L.length : Int) := by omega
            have hxL : L.getD k je0 = x := by rw [← hx, jes_app_get, if_pos hkL]
            rcases HA5.out.1.lies with e | ⟨b1, off1, rfl, hb, hc⟩
            · rw [e] at hkL; simp at hkL
            have hy := ((hc k hkL).below H.out.bel hb).below hb1 (by have := H.out.bel.size; omega)
            rw [hxL] at hy
            obtain ⟨d0, d1, d2, d3⟩ := hy
            have hbl : b1 < V1.heap.size := by have := H.out.bel.size; have := hb1.size; omega
            clear hc hxL hb hec hx hsn hxm hx64 hln hle H hst1 hr1 hr2 hb1 hb2 hV1 hV2 HRf hka
            generalize entL x.en = el at *
            generalize frBad x.en = fb at *
            by_cases f0 : fb = 0
            · subst f0
              by_cases e0 : ec = 0
              · subst e0
                by_cases g200 : 200 < el.length
                · have g200' : (200 : Int) < (el.length : Int) := by omega
                  rw [if_neg (by simp), if_neg (by simp), if_pos g200] at hec'
                  subst hec'
                  clear g200 hlz hle2
                  go_wp2_with (first | (refine wpList_build_run rfl 34 #[] rfl #[] (by simp) (hbd _) ?_) | (refine wpList_alloc_run rfl 34 rfl (hal _) ?_) | (refine wpList_store_run rfl 34 _ _ rfl _ _ (by rfl) (by rfl) hst1' ?_) | (refine wpList_store_run rfl 34 _ _ rfl _ _ (by rfl) (by rfl) hst2 ?_))
                  refine HR2.out.mono ?_
                  rintro e w3 ⟨a3, c3, rfl, hb3⟩
                  have HF5 : Hid (PlA u5 w3 L M _ (sz + (el.length + 2)) (k + 1)) := ⟨(HSz.out w3 (HB2.out.trans (hb3.mono HB2.out.size))).1, HEc.out, (HSz.out w3 (HB2.out.trans (hb3.mono HB2.out.size))).2⟩
                  clear HR2 HB2 HSz HEc hb3 g0 g1 g2 g3 d0 d1 d2 d3 hst1' hst2
                  go_wp2_with fail
                  go_roundw
                  case rel => exact ⟨k + 1, sz + (el.length + 2), _, by omega, by go_num, by go_num, rfl, HF5⟩
                  case measure => simp [RowKit.intOf]; omega
                · have g200' : ¬ (200 : Int) < (el.length : Int) := by omega
                  rw [if_neg (by simp), if_neg (by simp), if_neg g200] at hec'
                  subst hec'
                  clear g200 hlz hle2
                  go_wp2_with (first | (refine wpList_build_run rfl 34 #[] rfl #[] (by simp) (hbd _) ?_) | (refine wpList_alloc_run rfl 34 rfl (hal _) ?_) | (refine wpList_store_run rfl 34 _ _ rfl _ _ (by rfl) (by rfl) hst1' ?_) | (refine wpList_store_run rfl 34 _ _ rfl _ _ (by rfl) (by rfl) hst2 ?_))
                  refine HR2.out.mono ?_
                  rintro e w3 ⟨a3, c3, rfl, hb3⟩
                  have HF5 : Hid (PlA u5 w3 L M _ (sz + (el.length + 2)) (k + 1)) := ⟨(HSz.out w3 (HB2.out.trans (hb3.mono HB2.out.size))).1, HEc.out, (HSz.out w3 (HB2.out.trans (hb3.mono HB2.out.size))).2⟩
                  clear HR2 HB2 HSz HEc hb3 g0 g1 g2 g3 d0 d1 d2 d3 hst1' hst2
                  go_wp2_with fail
                  go_roundw
                  case rel => exact ⟨k + 1, sz + (el.length + 2), _, by omega, by go_num, by go_num, rfl, HF5⟩
                  case measure => simp [RowKit.intOf]; omega
              · rw [if_pos e0] at hec'
                subst hec'
                by_cases g200 : 200 < el.length
                · have g200' : (200 : Int) < (el.length : Int) := by omega
                  clear g200 hlz hle2
                  go_wp2_with (first | (refine wpList_build_run rfl 34 #[] rfl #[] (by simp) (hbd _) ?_) | (refine wpList_alloc_run rfl 34 rfl (hal _) ?_) | (refine wpList_store_run rfl 34 _ _ rfl _ _ (by rfl) (by rfl) hst1' ?_) | (refine wpList_store_run rfl 34 _ _ rfl _ _ (by rfl) (by rfl) hst2 ?_))
                  refine HR2.out.mono ?_
                  rintro e w3 ⟨a3, c3, rfl, hb3⟩
                  have HF5 : Hid (PlA u5 w3 L M _ (sz + (el.length + 2)) (k + 1)) := ⟨(HSz.out w3 (HB2.out.trans (hb3.mono HB2.out.size))).1, HEc.out, (HSz.out w3 (HB2.out.trans (hb3.mono HB2.out.size))).2⟩
                  clear HR2 HB2 HSz HEc hb3 g0 g1 g2 g3 d0 d1 d2 d3 hst1' hst2
                  go_wp2_with fail
                  go_roundw
                  case rel => exact ⟨k + 1, sz + (el.length + 2), _, by omega, by go_num, by go_num, rfl, HF5⟩
                  case measure => simp [RowKit.intOf]; omega
                · have g200' : ¬ (200 : Int) < (el.length : Int) := by omega
                  clear g200 hlz hle2
                  go_wp2_with (first | (refine wpList_build_run rfl 34 #[] rfl #[] (by simp) (hbd _) ?_) | (refine wpList_alloc_run rfl 34 rfl (hal _) ?_) | (refine wpList_store_run rfl 34 _ _ rfl _ _ (by rfl) (by rfl) hst1' ?_) | (refine wpList_store_run rfl 34 _ _ rfl _ _ (by rfl) (by rfl) hst2 ?_))
                  refine HR2.out.mono ?_
                  rintro e w3 ⟨a3, c3, rfl, hb3⟩
                  have HF5 : Hid (PlA u5 w3 L M _ (sz + (el.length + 2)) (k + 1)) := ⟨(HSz.out w3 (HB2.out.trans (hb3.mono HB2.out.size))).1, HEc.out, (HSz.out w3 (HB2.out.trans (hb3.mono HB2.out.size))).2⟩
                  clear HR2 HB2 HSz HEc hb3 g0 g1 g2 g3 d0 d1 d2 d3 hst1' hst2
                  go_wp2_with fail
                  go_roundw
                  case rel => exact ⟨k + 1, sz + (el.length + 2), _, by omega, by go_num, by go_num, rfl, HF5⟩
                  case measure => simp [RowKit.intOf]; omega
            · have hl0 := hlz f0
              have g200' : ¬ (200 : Int) < (el.length : Int) := by omega
              by_cases e0 : ec = 0
              · subst e0
                rw [if_neg (by simp), if_pos f0] at hec'
                subst hec'
                clear hlz hle2 hl0
                go_wp2_with (first | (refine wpList_build_run rfl 34 #[] rfl #[] (by simp) (hbd _) ?_) | (refine wpList_alloc_run rfl 34 rfl (hal _) ?_) | (refine wpList_store_run rfl 34 _ _ rfl _ _ (by rfl) (by rfl) hst1' ?_) | (refine wpList_store_run rfl 34 _ _ rfl _ _ (by rfl) (by rfl) hst2 ?_))
                refine HR2.out.mono ?_
                rintro e w3 ⟨a3, c3, rfl, hb3⟩
                have HF5 : Hid (PlA u5 w3 L M _ (sz + (el.length + 2)) (k + 1)) := ⟨(HSz.out w3 (HB2.out.trans (hb3.mono HB2.out.size))).1, HEc.out, (HSz.out w3 (HB2.out.trans (hb3.mono HB2.out.size))).2⟩
                clear HR2 HB2 HSz HEc hb3 g0 g1 g2 g3 d0 d1 d2 d3 hst1' hst2
                go_wp2_with fail
                go_roundw
                case rel => exact ⟨k + 1, sz + (el.length + 2), _, by omega, by go_num, by go_num, rfl, HF5⟩
                case measure => simp [RowKit.intOf]; omega
              · rw [if_pos e0] at hec'
                subst hec'
                clear hlz hle2 hl0
                go_wp2_with (first | (refine wpList_build_run rfl 34 #[] rfl #[] (by simp) (hbd _) ?_) | (refine wpList_alloc_run rfl 34 rfl (hal _) ?_) | (refine wpList_store_run rfl 34 _ _ rfl _ _ (by rfl) (by rfl) hst1' ?_) | (refine wpList_store_run rfl 34 _ _ rfl _ _ (by rfl) (by rfl) hst2 ?_))
                refine HR2.out.mono ?_
                rintro e w3 ⟨a3, c3, rfl, hb3⟩
                have HF5 : Hid (PlA u5 w3 L M _ (sz + (el.length + 2)) (k + 1)) := ⟨(HSz.out w3 (HB2.out.trans (hb3.mono HB2.out.size))).1, HEc.out, (HSz.out w3 (HB2.out.trans (hb3.mono HB2.out.size))).2⟩
                clear HR2 HB2 HSz HEc hb3 g0 g1 g2 g3 d0 d1 d2 d3 hst1' hst2
                go_wp2_with fail
                go_roundw
                case rel => exact ⟨k + 1, sz + (el.length + 2), _, by omega, by go_num, by go_num, rfl, HF5⟩
                case measure => simp [RowKit.intOf]; omega
          · rw [if_neg hkL] at hec'
            subst hec'
            have kL : ¬ (k : Int) < (L.length : Int) := by omega
            have hxM : M.getD (k - L.length) je0 = x := by rw [← hx, jes_app_get, if_neg hkL]
            obtain ⟨j, hjk⟩ : ∃ j, k - L.length = j := ⟨_, rfl⟩
            rw [hjk] at hxM
            have hjM : j < M.length := by omega
            have hjI : (k : Int) - (L.length : Int) = (j : Int) := by omega
            have hjw : IntKind.i64.wrap ((k : Int) - (L.length : Int)) = (j : Int) := by rw [IntKind.wrap_i64]; omega
            have j0 : (0 : Int) ≤ j := by omega
            have jl : (j : Int) < (M.length : Int) := by omega
            rcases HA5.out.2.lies with e | ⟨b1, off1, rfl, hb, hc⟩
            · rw [e] at hjM; simp at hjM
            have hy := ((hc j hjM).below H.out.bel hb).below hb1 (by have := H.out.bel.size; omega)
            rw [hxM] at hy
            obtain ⟨d0, d1, d2, d3⟩ := hy
            have hbl : b1 < V1.heap.size := by have := H.out.bel.size; have := hb1.size; omega
            clear hc hxM hb hec hx hsn hxm hx64 hln hle H hst1 hr1 hr2 hb1 hb2 hV1 hV2 HRf hka hjk hjM
            generalize entL x.en = el at *
            generalize frBad x.en = fb at *
            by_cases f0 : fb = 0
            · subst f0
              by_cases g200 : 200 < el.length
              · have g200' : (200 : Int) < (el.length : Int) := by omega
                clear g200 hlz hle2
                by_cases e0 : ec = 0
                · subst e0
                  go_wp2_with (first | (refine wpList_build_run rfl 34 #[] rfl #[] (by simp) (hbd _) ?_) | (refine wpList_alloc_run rfl 34 rfl (hal _) ?_) | (refine wpList_store_run rfl 34 _ _ rfl _ _ (by rfl) (by rfl) hst1' ?_) | (refine wpList_store_run rfl 34 _ _ rfl _ _ (by rfl) (by rfl) hst2 ?_))
                  refine HR2.out.mono ?_
                  rintro e w3 ⟨a3, c3, rfl, hb3⟩
                  have HF5 : Hid (PlA u5 w3 L M _ (sz + (el.length + 2)) (k + 1)) := ⟨(HSz.out w3 (HB2.out.trans (hb3.mono HB2.out.size))).1, HEc.out, (HSz.out w3 (HB2.out.trans (hb3.mono HB2.out.size))).2⟩
                  clear HR2 HB2 HSz HEc hb3 g0 g1 g2 g3 d0 d1 d2 d3 hst1' hst2
                  go_wp2_with fail
                  go_roundw
                  case rel => exact ⟨k + 1, sz + (el.length + 2), _, by omega, by go_num, by go_num, rfl, HF5⟩
                  case measure => simp [RowKit.intOf]; omega
                · go_wp2_with (first | (refine wpList_build_run rfl 34 #[] rfl #[] (by simp) (hbd _) ?_) | (refine wpList_alloc_run rfl 34 rfl (hal _) ?_) | (refine wpList_store_run rfl 34 _ _ rfl _ _ (by rfl) (by rfl) hst1' ?_) | (refine wpList_store_run rfl 34 _ _ rfl _ _ (by rfl) (by rfl) hst2 ?_))
                  refine HR2.out.mono ?_
                  rintro e w3 ⟨a3, c3, rfl, hb3⟩
                  have HF5 : Hid (PlA u5 w3 L M _ (sz + (el.length + 2)) (k + 1)) := ⟨(HSz.out w3 (HB2.out.trans (hb3.mono HB2.out.size))).1, HEc.out, (HSz.out w3 (HB2.out.trans (hb3.mono HB2.out.size))).2⟩
                  clear HR2 HB2 HSz HEc hb3 g0 g1 g2 g3 d0 d1 d2 d3 hst1' hst2
                  go_wp2_with fail
                  go_roundw
                  case rel => exact ⟨k + 1, sz + (el.length + 2), _, by omega, by go_num, by go_num, rfl, HF5⟩
                  case measure => simp [RowKit.intOf]; omega
              · have g200' : ¬ (200 : Int) < (el.length : Int) := by omega
                clear g200 hlz hle2
                by_cases e0 : ec = 0
                · subst e0
                  go_wp2_with (first | (refine wpList_build_run rfl 34 #[] rfl #[] (by simp) (hbd _) ?_) | (refine wpList_alloc_run rfl 34 rfl (hal _) ?_) | (refine wpList_store_run rfl 34 _ _ rfl _ _ (by rfl) (by rfl) hst1' ?_) | (refine wpList_store_run rfl 34 _ _ rfl _ _ (by rfl) (by rfl) hst2 ?_))
                  refine HR2.out.mono ?_
                  rintro e w3 ⟨a3, c3, rfl, hb3⟩
                  have HF5 : Hid (PlA u5 w3 L M _ (sz + (el.length + 2)) (k + 1)) := ⟨(HSz.out w3 (HB2.out.trans (hb3.mono HB2.out.size))).1, HEc.out, (HSz.out w3 (HB2.out.trans (hb3.mono HB2.out.size))).2⟩
                  clear HR2 HB2 HSz HEc hb3 g0 g1 g2 g3 d0 d1 d2 d3 hst1' hst2
                  go_wp2_with fail
                  go_roundw
                  case rel => exact ⟨k + 1, sz + (el.length + 2), _, by omega, by go_num, by go_num, rfl, HF5⟩
                  case measure => simp [RowKit.intOf]; omega
                · go_wp2_with (first | (refine wpList_build_run rfl 34 #[] rfl #[] (by simp) (hbd _) ?_) | (refine wpList_alloc_run rfl 34 rfl (hal _) ?_) | (refine wpList_store_run rfl 34 _ _ rfl _ _ (by rfl) (by rfl) hst1' ?_) | (refine wpList_store_run rfl 34 _ _ rfl _ _ (by rfl) (by rfl) hst2 ?_))
                  refine HR2.out.mono ?_
                  rintro e w3 ⟨a3, c3, rfl, hb3⟩
                  have HF5 : Hid (PlA u5 w3 L M _ (sz + (el.length + 2)) (k + 1)) := ⟨(HSz.out w3 (HB2.out.trans (hb3.mono HB2.out.size))).1, HEc.out, (HSz.out w3 (HB2.out.trans (hb3.mono HB2.out.size))).2⟩
                  clear HR2 HB2 HSz HEc hb3 g0 g1 g2 g3 d0 d1 d2 d3 hst1' hst2
                  go_wp2_with fail
                  go_roundw
                  case rel => exact ⟨k + 1, sz + (el.length + 2), _, by omega, by go_num, by go_num, rfl, HF5⟩
                  case measure => simp [RowKit.intOf]; omega
            · have hl0 := hlz f0
              have g200' : ¬ (200 : Int) < (el.length : Int) := by omega
              clear hlz hle2 hl0
              by_cases e0 : ec = 0
              · subst e0
                go_wp2_with (first | (refine wpList_build_run rfl 34 #[] rfl #[] (by simp) (hbd _) ?_) | (refine wpList_alloc_run rfl 34 rfl (hal _) ?_) | (refine wpList_store_run rfl 34 _ _ rfl _ _ (by rfl) (by rfl) hst1' ?_) | (refine wpList_store_run rfl 34 _ _ rfl _ _ (by rfl) (by rfl) hst2 ?_))
                refine HR2.out.mono ?_
                rintro e w3 ⟨a3, c3, rfl, hb3⟩
                have HF5 : Hid (PlA u5 w3 L M _ (sz + (el.length + 2)) (k + 1)) := ⟨(HSz.out w3 (HB2.out.trans (hb3.mono HB2.out.size))).1, HEc.out, (HSz.out w3 (HB2.out.trans (hb3.mono HB2.out.size))).2⟩
                clear HR2 HB2 HSz HEc hb3 g0 g1 g2 g3 d0 d1 d2 d3 hst1' hst2
                go_wp2_with fail
                go_roundw
                case rel => exact ⟨k + 1, sz + (el.length + 2), _, by omega, by go_num, by go_num, rfl, HF5⟩
                case measure => simp [RowKit.intOf]; omega
              · go_wp2_with (first | (refine wpList_build_run rfl 34 #[] rfl #[] (by simp) (hbd _) ?_) | (refine wpList_alloc_run rfl 34 rfl (hal _) ?_) | (refine wpList_store_run rfl 34 _ _ rfl _ _ (by rfl) (by rfl) hst1' ?_) | (refine wpList_store_run rfl 34 _ _ rfl _ _ (by rfl) (by rfl) hst2 ?_))
                refine HR2.out.mono ?_
                rintro e w3 ⟨a3, c3, rfl, hb3⟩
                have HF5 : Hid (PlA u5 w3 L M _ (sz + (el.length + 2)) (k + 1)) := ⟨(HSz.out w3 (HB2.out.trans (hb3.mono HB2.out.size))).1, HEc.out, (HSz.out w3 (HB2.out.trans (hb3.mono HB2.out.size))).2⟩
                clear HR2 HB2 HSz HEc hb3 g0 g1 g2 g3 d0 d1 d2 d3 hst1' hst2
                go_wp2_with fail
                go_roundw
                case rel => exact ⟨k + 1, sz + (el.length + 2), _, by omega, by go_num, by go_num, rfl, HF5⟩
                case measure => simp [RowKit.intOf]; omega
        · have klt : ¬ (k : Int) < (L.length : Int) + (M.length : Int) := by omega
          have hke : k = L.length + M.length := by omega
          have hec := H.out.er
          have hsz2 := H.out.sz
          rw [List.take_of_length_le (by omega)] at hec
          rw [List.take_of_length_le (by rw [List.length_append]; omega), List.map_append, szE_app] at hsz2
          have HS6 : Hid (PkS w wr p nb sb b [] 10 0) := HS5.out.below H.out.bel
          have HA6 : Hid (IsJs wr a1 L c1 ∧ IsJs wr a2 M c2) := ⟨HA5.out.1.below H.out.bel, HA5.out.2.below H.out.bel⟩
          have HQ : Hid (ec = adL [] (L.map Je.en) ∧ sz = szE (L.map Je.en) + szE (M.map Je.en)) := ⟨hec, hsz2⟩
          clear H HS5 HA5 hec hsz2 hke hbd hal
          by_cases hbig : 6000 < sz
          · have hbig' : (6000 : Int) < (sz : Int) := by omega
            clear hbig
            go_wp2
            go_ret
            exact ⟨rfl, HS6.out.bel⟩
          · have hbig' : ¬ (6000 : Int) < (sz : Int) := by omega
            have HSm : Hid (szE (L.map Je.en) + szE (M.map Je.en) ≤ 6000) := by have := HQ.out.2; unfold Hid; omega
            clear hbig
            have l1000 : adL [] (L.map Je.en) = 0 → L.length ≤ 1000 := fun h => by
              have h1 := szE_cost _ h
              have h2 := costL_six (L.map Je.en)
              rw [List.length_map] at h2
              have := HSm.out
              omega
            have HL3 : Hid (L.length ≤ 3000 ∧ M.length ≤ 3000) := by
              have h1 := szE_two (L.map Je.en)
              have h2 := szE_two (M.map Je.en)
              rw [List.length_map] at h1 h2
              have := HSm.out
              unfold Hid
              omega
            by_cases hc : ec = 0
            · subst hc
              have HZ : Hid (adL [] (L.map Je.en) = 0 ∧ L.length ≤ 1000) := ⟨HQ.out.1.symm, l1000 HQ.out.1.symm⟩
              have hcost : costL (L.map Je.en) ≤ 6000 := by have := szE_cost _ HZ.out.1; have := HSm.out; omega
              have hok : adE (roomE b []) (([] : List En).map entB) (L.map Je.en) = 0 := adE_ok (Nat.zero_le _) HZ.out.1 (by
                show costL ((L.map Je.en).drop 0) ≤ roomE b []
                rw [List.drop_zero]
                unfold roomE
                have h1 := HB.out.1
                have h0 : costL [] = 0 := rfl
                rw [h0]
                omega)
              have HSv : Hid (Calls _ _ _ wr _) := HS6.out.save_ok (by omega) a1 c1 L HA6.out.1 HJ.out.1 (by omega) (by have := HZ.out.2; omega) hok
              clear hok HS6 HA6 l1000 HQ
              go_wp2_with fail
              refine HSv.out.mono ?_
              rintro e u7 ⟨rfl, h7⟩
              have HS7 : Hid (PkS w u7 p nb sb b (L.map Je.en) 300000 1) := h7.out.1.mono (by have := HZ.out.2; omega) (Nat.le_refl _)
              have HE7 : Hid (Calls _ _ _ u7 _) := HErr.out u7 .nilIface 0 HS7.out.bel (.inl ⟨rfl, rfl⟩)
              clear HSv h7
              go_wp2_with fail
              refine HE7.out.mono ?_
              rintro e u8 ⟨rfl, b8⟩
              have HLd : Hid (Calls _ _ _ u8 _) := (HS7.out.below b8).load (by omega)
              clear HE7 b8 HS7
              go_wp2_with fail
              refine HLd.out.mono ?_
              rintro e u9 ⟨a9, c9, L9, rfl, h9⟩
              have HS9 : Hid (PkS w u9 p nb sb b (L.map Je.en) 300000 1) := h9.out.2.2.2
              have HSm9 : Hid (Calls _ _ _ u9 _) := same_kept h9.out.1 h9.out.2.1 HZ.out.1 HZ.out.2 (HA.out u9 HS9.out.bel).1
              clear HLd h9
              go_wp2_with fail
              refine HSm9.out.mono ?_
              rintro e u10 ⟨rfl, b10⟩
              have HS10 : Hid (PkS w u10 p nb sb b (L.map Je.en) 300000 1) := HS9.out.below b10
              have HA10 : Hid (IsJs u10 a1 L c1) := (HA.out u10 HS10.out.bel).1
              clear HSm9 b10 HS9
              obtain ⟨h, hh⟩ : ∃ h, L.length / 2 = h := ⟨_, rfl⟩
              have hhI : (L.length : Int) / 2 = (h : Int) := by omega
              have hhl : h ≤ L.length := by omega
              have hcap := HB.out.2.2
              have HCut : Hid (∀ W : World, (Instr.slice 22 (.slice a1 L.length c1) none (some (.int .i64 (h : Int))) none).run Tryz.prog W = .ok (.slice a1 h c1) W) := fun W => run_jsH a1 L.length c1 h (by omega) W
              have hcut1 := fun W => HCut.out W
              go_upto_region 36 with fail
              go_cut [23] from 153 to 159 (fun sv wx => Hid (PkS w wx p nb sb b (L.map Je.en) 301000 2) ∧ (2 ≤ L.length → sv = .iface 41 (.int .i64 5)))
              case first =>
                by_cases hL0 : L.length = 0
                · have eL : L = [] := List.eq_nil_of_length_eq_zero hL0
                  have hT : L.take h = L := by rw [eL]; simp
                  have hSv := HS10.out.save_ok (by omega) a1 c1 (L.take h) (HA10.out.take h hhl) (fun x hx => HJ.out.1 x (List.mem_of_mem_take hx)) (by rw [List.length_take]; omega) (by rw [List.length_take]; have := HZ.out.2; omega) (by rw [hT, eL]; exact adE_ok (Nat.zero_le _) rfl (by simp [costL]))
                  rw [List.length_take, Nat.min_eq_left hhl, hT] at hSv
                  have HSv : Hid (Calls _ _ _ u10 _) := hSv
                  have HL0 : Hid (L.length = 0 ∧ h ≤ L.length) := ⟨hL0, hhl⟩
                  clear HS10 HErr HA HJ hSv hL0 eL hT
                  go_wp2_with fail
                  refine HSv.out.mono ?_
                  rintro e u11 ⟨rfl, h11⟩
                  have HX : Hid (PkS w u11 p nb sb b (L.map Je.en) 301000 2) := h11.out.1.mono (by have := HL0.out; omega) (Nat.le_refl _)
                  clear HSv h11
                  go_wp2
                  go_meet
                  case rel => exact ⟨HX, fun h2 => absurd h2 (by have := HL0.out; omega)⟩
                · have hbad : adE (roomE b (L.map Je.en)) ((L.map Je.en).map entB) ((L.take h).map Je.en) = 5 := by
                    unfold adE
                    rw [if_pos (by rw [List.length_map, List.length_map, List.length_map, List.length_take]; omega)]
                  have hj := HA10.out.take h hhl
                  have hSv := HS10.out.save_no (by omega) a1 c1 (L.take h) hj (fun x hx => HJ.out.1 x (List.mem_of_mem_take hx)) (by rw [List.length_take]; omega) (by rw [hbad]; decide)
                  rw [hbad, enE_ne (by decide), List.length_take, Nat.min_eq_left hhl] at hSv
                  have HSv : Hid (Calls _ _ _ u10 _) := hSv
                  clear HS10 HErr HA HJ hbad hj hSv hL0
                  go_wp2_with fail
                  refine HSv.out.mono ?_
                  rintro e u11 ⟨rfl, h11⟩
                  have HX : Hid (PkS w u11 p nb sb b (L.map Je.en) 301000 2) := h11.out.1.mono (by omega) (by omega)
                  clear HSv h11
                  go_wp2
                  go_meet
                  case rel => exact ⟨HX, fun _ => rfl⟩
              case rest =>
                rename World => wx
                obtain ⟨HS11, hsv⟩ := hcut
                clear HS10 HCut hcut1 HA10
                go_upto_region 37 with fail
                go_cut [24] from 160 to 166 (fun tv wy => tv = .bool true ∧ Hid (PkS w wy p nb sb b (L.map Je.en) 301000 2))
                case first =>
                  by_cases hL2 : L.length < 2
                  · have hL2' : (L.length : Int) < 2 := by omega
                    clear hsv
                    go_wp2
                    go_meet
                    case rel => exact ⟨rfl, HS11⟩
                  · have hL2' : ¬ (L.length : Int) < 2 := by omega
                    have es := hsv (by omega)
                    subst es
                    have HE11 : Hid (Calls _ _ _ wx _) := HErr.out wx (.iface 41 (.int .i64 5)) 5 HS11.out.bel (.inr ⟨rfl, by decide, by decide⟩)
                    clear hsv HErr HA hL2
                    go_wp2_with fail
                    refine HE11.out.mono ?_
                    rintro e u12 ⟨rfl, b12⟩
                    have HX : Hid (PkS w u12 p nb sb b (L.map Je.en) 301000 2) := HS11.out.below b12
                    clear HE11 b12
                    go_wp2
                    go_meet
                    case rel => exact ⟨rfl, HX⟩
                case rest =>
                  clear hsv HS11
                  rename World => wy
                  obtain ⟨rfl, HS12⟩ := hcut
                  have HA12 : Hid (IsJs wy a1 L c1 ∧ IsJs wy a2 M c2) := HA.out wy HS12.out.bel
                  have hl3 := HL3.out
                  go_upto_region 40 with (at_builtin; refine wpList_appJe rfl (.tmp 167) (.tmp 168) rfl wy.heap.size (.slice none 0 0) [] rfl (JeRow.nil _ _) a1 L.length c1 L rfl rfl HA12.out.1 (by simp; omega) (Nat.le_refl _) ?_; intro v1 w1 hr1 hg1)
                  rw [List.nil_append] at hr1
                  have B1 : Below wy.heap.size wy w1 := (Below.refl _ _).grown hg1 (Nat.le_refl _) (fun j e => by cases e)
                  have HR1 : Hid (JeRow w1 wy.heap.size v1 L ∧ Below wy.heap.size wy w1 ∧ IsJs w1 a2 M c2) := ⟨hr1, B1, HA12.out.2.below B1⟩
                  clear hr1 hg1 B1
                  go_upto_region 41 with (at_builtin; refine wpList_appJe rfl (.tmp 170) (.tmp 171) rfl wy.heap.size v1 L rfl HR1.out.1 a2 M.length c2 M rfl rfl HR1.out.2.2 (by omega) HR1.out.2.1.size ?_; intro v2 w2 hr2 hg2)
                  have B2 : Below wy.heap.size wy w2 := HR1.out.2.1.grown hg2 HR1.out.2.1.size (fun j e => HR1.out.1.own j e)
                  have HS13 : Hid (PkS w w2 p nb sb b (L.map Je.en) 301000 2) := HS12.out.below B2
                  obtain ⟨am, cm, hv2, _⟩ := hr2.lies
                  obtain ⟨lm, hlm0⟩ : ∃ lm, (L ++ M).length = lm := ⟨_, rfl⟩
                  have HLm : Hid ((L ++ M).length = lm) := hlm0
                  rw [hlm0] at hv2
                  subst hv2
                  have HR2 : Hid (JeRow w2 wy.heap.size (.slice am lm cm) (L ++ M)) := hr2
                  clear hlm0
                  have HA13 : Hid (IsJs w2 a2 M c2) := (HA.out w2 HS13.out.bel).2
                  clear hr2 hg2 B2 HR1 HA12 HS12 hl3
                  go_upto_block 2 with fail
                  go_cut [12, 26, 27, 28] from 173 to 198 (fun ev _ _ _ wx => ∃ ec : Int, ev = .int .i64 ec ∧ Hid (Below w2.heap.size w2 wx ∧ ec = adL [] (M.map Je.en)))
                  case first =>
                    clear HR2 HS13 HA HErr HSm HB HZ
                    go_wp2_with fail
                    go_loopw [12, 26] (fun ev iv wr => ∃ (k : Nat) (ec : Int), k ≤ M.length ∧ iv = .int .i64 (k : Int) ∧ ev = .int .i64 ec ∧ Hid (Below w2.heap.size w2 wr ∧ ec = adL [] ((M.take k).map Je.en))) (fun _ iv _ => M.length - (RowKit.intOf iv).toNat)
                    case atStart => exact ⟨0, 0, Nat.zero_le _, rfl, rfl, Below.refl _ _, by simp [adL]⟩
                    case round =>
                      obtain ⟨k, ec, hk, rfl, rfl, H⟩ := hrel
                      have k0 : (0 : Int) ≤ k := by omega
                      by_cases hkl : k < M.length
                      · have klt : (k : Int) < (M.length : Int) := by omega
                        by_cases e0 : ec = 0
                        · subst e0
                          rcases HA13.out.lies with e | ⟨b1, off1, rfl, hb, hc⟩
                          · rw [e] at hkl; simp at hkl
                          have hy := (hc k hkl).below H.out.1 hb
                          obtain ⟨x, hx⟩ : ∃ x, M.getD k je0 = x := ⟨_, rfl⟩
                          rw [hx] at hy
                          obtain ⟨d0, d1, d2, d3⟩ := hy
                          have hxm : x ∈ M := by rw [← hx]; exact jes_mem _ k hkl
                          have hx64 := HJ.out.2 x hxm
                          have hln := (HA13.out.lns x hxm).below H.out.1
                          have hbl : b1 < wr.heap.size := by have := H.out.1.size; omega
                          have hnx := ePl_next hkl hx
                          rw [← H.out.2, if_neg (by simp)] at hnx
                          have hle := entL_le x.en
                          have hlz : frBad x.en ≠ 0 → (entL x.en).length = 0 := fun h => by unfold entL; rw [if_neg h]; rfl
                          have hle2 : frBad x.en = 0 → entL x.en = entB x.en := fun h => by unfold entL; rw [if_pos h]
                          have HRf : Hid (Calls Tryz.prog 8 #[.agg #[.string x.ref, .int .i64 x.ent, .int .i64 x.per, .slice x.adr x.lns.length x.cap]] wr fun e w' => ∃ a' c', e = .returned (.tuple #[.slice a' (entL x.en).length c', .int .i64 (frBad x.en)]) ∧ Below wr.heap.size wr w') := by
                            refine (refEntry_u x.ref x.ent x.per x.adr x.cap x.lns wr hx64.1 hx64.2.1 hln).mono ?_
                            rintro e w' ⟨a', c', rfl, _, hb⟩
                            exact ⟨a', c', rfl, hb⟩
                          have HBw : Hid (Below w2.heap.size w2 wr) := H.out.1
                          clear hc hb hx hxm hx64 hln H hle
                          generalize frBad x.en = fb at *
                          by_cases f0 : fb = 0
                          · subst f0
                            rw [if_neg (by simp), ← hle2 rfl] at hnx
                            generalize entL x.en = el at *
                            by_cases g200 : 200 < el.length
                            · have g200' : (200 : Int) < (el.length : Int) := by omega
                              rw [if_pos g200] at hnx
                              have HNx : Hid (adL [] ((M.take (k + 1)).map Je.en) = 4) := hnx
                              clear hnx hlz hle2 g200
                              go_wp2_with fail
                              refine HRf.out.mono ?_
                              rintro e w3 ⟨a3, c3, rfl, hb3⟩
                              have HF5 : Hid (Below w2.heap.size w2 w3) := HBw.out.trans (hb3.mono HBw.out.size)
                              clear HRf HBw hb3 d0 d1 d2 d3
                              go_wp2_with fail
                              go_roundw
                              case rel => exact ⟨k + 1, _, by omega, by go_num, rfl, HF5.out, HNx.out.symm⟩
                              case measure => simp [RowKit.intOf]; omega
                            · have g200' : ¬ (200 : Int) < (el.length : Int) := by omega
                              rw [if_neg g200] at hnx
                              have HNx : Hid (adL [] ((M.take (k + 1)).map Je.en) = 0) := hnx
                              clear hnx hlz hle2 g200
                              go_wp2_with fail
                              refine HRf.out.mono ?_
                              rintro e w3 ⟨a3, c3, rfl, hb3⟩
                              have HF5 : Hid (Below w2.heap.size w2 w3) := HBw.out.trans (hb3.mono HBw.out.size)
                              clear HRf HBw hb3 d0 d1 d2 d3
                              go_wp2_with fail
                              go_roundw
                              case rel => exact ⟨k + 1, _, by omega, by go_num, rfl, HF5.out, HNx.out.symm⟩
                              case measure => simp [RowKit.intOf]; omega
                          · have hl0 := hlz f0
                            rw [if_pos f0] at hnx
                            have HNx : Hid (adL [] ((M.take (k + 1)).map Je.en) = fb) := hnx
                            generalize entL x.en = el at *
                            clear hnx hlz hle2
                            go_wp2_with fail
                            refine HRf.out.mono ?_
                            rintro e w3 ⟨a3, c3, rfl, hb3⟩
                            have HF5 : Hid (Below w2.heap.size w2 w3) := HBw.out.trans (hb3.mono HBw.out.size)
                            clear HRf HBw hb3 d0 d1 d2 d3
                            go_wp2_with fail
                            go_roundw
                            case rel => exact ⟨k + 1, _, by omega, by go_num, rfl, HF5.out, HNx.out.symm⟩
                            case measure => simp [RowKit.intOf]; omega
                        · have HX : Hid (Below w2.heap.size w2 wr ∧ ec = adL [] (M.map Je.en)) := by
                            refine ⟨H.out.1, ?_⟩
                            have h1 := H.out.2
                            have h2 := adL_pre ((M.take k).map Je.en) ((M.drop k).map Je.en) (by rw [← h1]; exact e0)
                            rw [← List.map_append, List.take_append_drop] at h2
                            rw [h1, h2]
                          clear H
                          go_wp2
                          go_meet
                          case rel => exact ⟨ec, rfl, HX⟩
                      · have klt : ¬ (k : Int) < (M.length : Int) := by omega
                        have HX : Hid (Below w2.heap.size w2 wr ∧ ec = adL [] (M.map Je.en)) := by
                          refine ⟨H.out.1, ?_⟩
                          have h1 := H.out.2
                          rwa [List.take_of_length_le (by omega)] at h1
                        clear H
                        go_wp2
                        go_meet
                        case rel => exact ⟨ec, rfl, HX⟩
                  case rest =>
                    rename World => wz
                    obtain ⟨ec, rfl, HC⟩ := hcut
                    have HS14 : Hid (PkS w wz p nb sb b (L.map Je.en) 301000 2) := HS13.out.below HC.out.1
                    have HR14 : Hid (JeRow wz wy.heap.size (.slice am lm cm) (L ++ M)) := HR2.out.below HC.out.1
                    have HM14 : Hid (∀ U, Below w.heap.size w U → JeRow U wy.heap.size (.slice am lm cm) (L ++ M) → IsJs U am (L ++ M) cm) := fun U hU hR => by
                      obtain ⟨a', c', e', g1, g2⟩ := hR.lies
                      cases e'
                      exact ⟨g1, g2, fun x hx => by
                        rcases List.mem_append.1 hx with h | h
                        · exact (HA.out U hU).1.lns x h
                        · exact (HA.out U hU).2.lns x h⟩
                    have HJ2 : Hid (J64 (L ++ M)) := fun x hx => by
                      rcases List.mem_append.1 hx with h | h
                      · exact HJ.out.1 x h
                      · exact HJ.out.2 x h
                    have HEc : Hid (ec = adL [] (M.map Je.en)) := HC.out.2
                    have hold : adL ((L.map Je.en).map entB) ((L ++ M).map Je.en) = ec := by rw [List.map_append, adL_old _ _ HZ.out.1]; exact HEc.out.symm
                    have hlm : (L ++ M).length ≤ 6000 := by rw [List.length_append]; have := HL3.out; omega
                    have hle : ((L.map Je.en).map entB).length ≤ ((L ++ M).map Je.en).length := by rw [List.length_map, List.length_map, List.length_map, List.length_append]; omega
                    clear HC HS13 HR2 HA13
                    by_cases hc : ec = 0
                    · subst hc
                      have hzz : adL [] ((L ++ M).map Je.en) = 0 := by rw [List.map_append, adL_zapp _ _ HZ.out.1]; exact HEc.out.symm
                      have hsz := HSm.out
                      have hs1 := szE_cost _ HZ.out.1
                      have hs2 := szE_cost _ HEc.out.symm
                      have hc1 := costL_six ((L ++ M).map Je.en)
                      rw [List.map_append, costL_app, List.length_append, List.length_map, List.length_map] at hc1
                      have h1000 : (L ++ M).length ≤ 1000 := by rw [List.length_append]; omega
                      have hok : adE (roomE b (L.map Je.en)) ((L.map Je.en).map entB) ((L ++ M).map Je.en) = 0 := adE_ok hle hold (by
                        rw [List.map_append, List.length_map, List.drop_left]
                        unfold roomE
                        have := HB.out.1
                        omega)
                      have hSv := HS14.out.save_ok (by omega) am cm (L ++ M) (HM14.out wz HS14.out.bel HR14.out) HJ2.out (by omega) (by omega) hok
                      rw [HLm.out] at hSv
                      have HSv : Hid (Calls _ _ _ wz _) := hSv
                      clear hSv
                      have HZ2 : Hid (adL [] ((L ++ M).map Je.en) = 0 ∧ (L ++ M).length ≤ 1000) := ⟨hzz, h1000⟩
                      clear hzz hsz hs1 hs2 hc1 h1000 hok HS14 hold hlm hle HSm HL3 HJ HEc
                      generalize hLM : L ++ M = LM at *
                      go_wp2_with fail
                      refine HSv.out.mono ?_
                      rintro e u13 ⟨rfl, h13⟩
                      obtain ⟨q1, q2⟩ := h13.out
                      have HS15 : Hid (PkS w u13 p nb sb b (LM.map Je.en) 900000 3) := q1.mono (by have := HZ2.out.2; have := HLm.out; omega) (Nat.le_refl _)
                      have HR15 : Hid (JeRow u13 wy.heap.size (.slice am lm cm) LM) := HR14.out.keeps q2
                      have HE13 : Hid (Calls _ _ _ u13 _) := HErr.out u13 .nilIface 0 HS15.out.bel (.inl ⟨rfl, rfl⟩)
                      clear HSv h13 q1 q2 HR14
                      go_wp2_with fail
                      refine HE13.out.mono ?_
                      rintro e u14 ⟨rfl, b14⟩
                      have HLd : Hid (Calls _ _ _ u14 _) := (HS15.out.below b14).load (by omega)
                      have HR16 : Hid (JeRow u14 wy.heap.size (.slice am lm cm) LM) := HR15.out.below b14
                      clear HE13 b14 HS15 HR15
                      go_wp2_with fail
                      refine HLd.out.mono ?_
                      rintro e u15 ⟨a9, c9, L9, rfl, h9⟩
                      have HS17 : Hid (PkS w u15 p nb sb b (LM.map Je.en) 900000 3) := h9.out.2.2.2
                      have hSm9 := same_kept h9.out.1 h9.out.2.1 HZ2.out.1 HZ2.out.2 (HM14.out u15 HS17.out.bel (HR16.out.below h9.out.2.2.1))
                      rw [HLm.out] at hSm9
                      have HSm9 : Hid (Calls _ _ _ u15 _) := hSm9
                      clear hSm9
                      clear HLd h9 HR16
                      go_wp2_with fail
                      refine HSm9.out.mono ?_
                      rintro e u16 ⟨rfl, b16⟩
                      have HE : Hid (Below w.heap.size w u16) := HS17.out.bel.trans (b16.mono HS17.out.bel.size)
                      clear HSm9 b16 HS17
                      go_wp2
                      go_ret
                      exact ⟨rfl, HE.out⟩
                    · have HCc : Hid (ec ≠ 0 ∧ Sm ec) := ⟨hc, by rw [HEc.out]; exact sm_adL _ _⟩
                      have hbad : adE (roomE b (L.map Je.en)) ((L.map Je.en).map entB) ((L ++ M).map Je.en) = ec := adE_bad hle hold hc
                      have hSv := HS14.out.save_no (by omega) am cm (L ++ M) (HM14.out wz HS14.out.bel HR14.out) HJ2.out (by omega) (by rw [hbad]; exact hc)
                      rw [hbad, HLm.out] at hSv
                      have HSv : Hid (Calls _ _ _ wz _) := hSv
                      clear hSv hbad HS14 hold hlm hle HSm HL3 HJ HEc HR14 HM14
                      clear HJ2 HLm
                      go_wp2_with fail
                      refine HSv.out.mono ?_
                      rintro e u13 ⟨rfl, h13⟩
                      have HS15 : Hid (PkS w u13 p nb sb b (L.map Je.en) 301000 2) := h13.out.1
                      have HE13 : Hid (Calls _ _ _ u13 _) := HErr.out u13 (enE ec) ec HS15.out.bel (sm_errIs HCc.out.2)
                      clear HSv h13
                      go_wp2_with fail
                      refine HE13.out.mono ?_
                      rintro e u14 ⟨rfl, b14⟩
                      have HLd : Hid (Calls _ _ _ u14 _) := (HS15.out.below b14).load (by omega)
                      clear HE13 b14 HS15
                      go_wp2_with fail
                      refine HLd.out.mono ?_
                      rintro e u15 ⟨a9, c9, L9, rfl, h9⟩
                      have HS17 : Hid (PkS w u15 p nb sb b (L.map Je.en) 301000 2) := h9.out.2.2.2
                      have HSm9 : Hid (Calls _ _ _ u15 _) := same_kept h9.out.1 h9.out.2.1 HZ.out.1 HZ.out.2 (HA.out u15 HS17.out.bel).1
                      clear HLd h9
                      go_wp2_with fail
                      refine HSm9.out.mono ?_
                      rintro e u16 ⟨rfl, b16⟩
                      have HE : Hid (Below w.heap.size w u16) := HS17.out.bel.trans (b16.mono HS17.out.bel.size)
                      clear HSm9 b16 HS17
                      go_wp2
                      go_ret
                      exact ⟨rfl, HE.out⟩
            · have HC : Hid (ec ≠ 0 ∧ Sm ec) := ⟨hc, by rw [HQ.out.1]; exact sm_adL _ _⟩
              have hbad : adE (roomE b []) (([] : List En).map entB) (L.map Je.en) = ec := adE_bad (Nat.zero_le _) HQ.out.1.symm hc
              have hSv := HS6.out.save_no (by omega) a1 c1 L HA6.out.1 HJ.out.1 (by omega) (by rw [hbad]; exact hc)
              rw [hbad] at hSv
              have HSv : Hid (Calls _ _ _ wr _) := hSv
              clear hSv hbad HS6 HA6 HQ HA HJ l1000
              go_wp2_with fail
              refine HSv.out.mono ?_
              rintro e u7 ⟨rfl, h7⟩
              have HS7 : Hid (PkS w u7 p nb sb b [] 10 0) := h7.out.1
              have HE7 : Hid (Calls _ _ _ u7 _) := HErr.out u7 (enE ec) ec HS7.out.bel (sm_errIs HC.out.2)
              clear HSv h7 HErr
              go_wp2_with fail
              refine HE7.out.mono ?_
              rintro e u8 ⟨rfl, b8⟩
              have HLd : Hid (Calls _ _ _ u8 _) := (HS7.out.below b8).load (by omega)
              clear HE7 b8 HS7
              go_wp2_with fail
              refine HLd.out.mono ?_
              rintro e u9 ⟨a9, c9, L9, rfl, h9⟩
              have e9 : L9 = [] := by have := h9.out.2.1; simpa using this
              subst e9
              have HE : Hid (Below w.heap.size w u9) := h9.out.2.2.2.bel
              clear HLd h9
              simp only [List.length_nil]
              go_wp2
              go_ret
              exact ⟨rfl, HE.out⟩
  · have HNew : Hid (Calls _ _ _ w _) := new_bad n w hr
    rw [enE_ne (by decide)] at HNew
    clear h1 h2 hg hj1 hj2 hr
    go_enter Tryz.func3, Tryz.ntmps3
    go_wp2_with fail
    refine HNew.out.mono ?_
    rintro e u1 ⟨rfl, rfl⟩
    go_wp2
    go_ret
    exact ⟨rfl, Below.refl _ _⟩
end Go.Proofs.YtikcidlaamgakaaGreatDoor
