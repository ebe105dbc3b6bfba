/-
  The contracts of the reader's within, small, amount, count, take, text.
-/
import Derived.Test.YtijjegkkeigeoaaZb16
import Derived.Test.YtijjegkkeigeoaaZb15
import Derived.Laws.Bits64b
namespace Go.Proofs.Ytijjegkkeigeoaa
set_option linter.unusedVariables false
set_option linter.unusedSimpArgs false
set_option maxRecDepth 100000
set_option maxHeartbeats 4000000
open Go.RowKit Go.Lib
theorem adL_zero : ∀ (old : List (List UInt8)) (E : List En), old.length ≤ E.length → adL old E = 0 → (∀ e ∈ E, EnFit e ∧ (entB e).length ≤ 200) ∧ E.map entB = old ++ (E.drop old.length).map entB
  | old, [], h, _ => by
    have : old = [] := List.eq_nil_of_length_eq_zero (by simpa using h)
    subst this
    exact ⟨fun e he => by simp at he, rfl⟩
  | old, e :: es, h, h0 => by
    unfold adL at h0
    by_cases h1 : frBad e = 0
    · rw [if_neg (by omega)] at h0
      by_cases h2 : 200 < (entB e).length
      · rw [if_pos h2] at h0; exact absurd h0 (by decide)
      · rw [if_neg h2] at h0
        cases old with
        | nil =>
          obtain ⟨a, b⟩ := adL_zero [] es (Nat.zero_le _) h0
          refine ⟨fun x hx => ?_, by simp⟩
          rcases List.mem_cons.1 hx with rfl | hx
          · exact ⟨frBad_zero.1 h1, by omega⟩
          · exact a x hx
        | cons o os =>
          simp only at h0
          by_cases h3 : entB e = o
          · rw [if_pos h3] at h0
            obtain ⟨a, b⟩ := adL_zero os es (by simpa using h) h0
            refine ⟨fun x hx => ?_, ?_⟩
            · rcases List.mem_cons.1 hx with rfl | hx
              · exact ⟨frBad_zero.1 h1, by omega⟩
              · exact a x hx
            · simp only [List.map_cons, List.length_cons, List.drop_succ_cons, List.cons_append]
              rw [b, h3]
          · rw [if_neg h3] at h0; exact absurd h0 (by decide)
    · rw [if_pos h1] at h0; exact absurd h0 h1
theorem adE_zero {room : Nat} {old : List (List UInt8)} {E : List En} (h : adE room old E = 0) : old.length ≤ E.length ∧ (∀ e ∈ E, EnFit e ∧ (entB e).length ≤ 200) ∧ E.map entB = old ++ (E.drop old.length).map entB ∧ costL (E.drop old.length) ≤ room := by
  unfold adE at h
  split at h
  · exact absurd h (by decide)
  · rename_i h1
    split at h
    · rename_i h2; exact absurd h h2
    · rename_i h2
      split at h
      · exact absurd h (by decide)
      · rename_i h3
        have h2' : adL old E = 0 := by omega
        obtain ⟨a, b⟩ := adL_zero old E (by omega) h2'
        exact ⟨by omega, a, b, by omega⟩
theorem encs_map : ∀ es : List En, (enc (es.map entB)).length = costL es
  | [] => rfl
  | e :: es => by
    have ih := encs_map es
    rw [List.map_cons, enc_cons, List.length_append, enc1_length, ih]
    simp [costL]
theorem encs_cost (rs : List (List UInt8)) (es : List En) : (enc (rs ++ es.map entB)).length = (enc rs).length + costL es := by
  rw [enc_append, List.length_append, encs_map]
section
variable {w W U : World} {p nb sb : Nat} {cv : Value} {n : Nat} {D : Dk} {lb : Nat} {tv wv av : Value} {s : Ls} {wh : List Nat} {rs rsm : List (List UInt8)} {L S m : Nat}
/-- Records that were made behind a log's Open. -/
theorem RsRow.rcs (h : RsRow W m av rs) (ht : ∀ g, tv.ownBlock = some g → g < m) {n' : Nat} (hn : n' ≤ m) : Rcs W n' tv av rs := by
  obtain ⟨vs, h1, h2, h3⟩ := h.low hn
  obtain ⟨vs', k1, k2, k3⟩ := h
  refine ⟨vs', k1, ?_, fun k hk => byRow_low (k3 k hk) hn, fun k g hk e e2 => ?_⟩
  · rcases k2.2 with ⟨e1, e2⟩ | ⟨g, c, cur, e1, hg, r⟩
    · exact ⟨k2.1, .inl ⟨e1, e2⟩⟩
    · exact ⟨k2.1, .inr ⟨g, c, cur, e1, by omega, r⟩⟩
  · have g1 := (ownsRow_in (k3 k hk) e).1
    have g2 := ht g e2
    omega
/-- One of them, apart from the log's text. -/
theorem Rcs.cell (h : Rcs W m tv av rs) (k : Nat) (hk : k < rs.length) : ∃ g cap xa xc, av = .slice (some ⟨g, 0, none⟩) rs.length cap ∧ W.cell? ⟨g, k, none⟩ = some (.slice xa (rs.getD k []).length xc) ∧ (xc = 0 ∨ xa ≠ none) ∧ ∀ U : World, (∀ b, b < W.heap.size → tv.ownBlock ≠ some b → U.heap[b]? = W.heap[b]?) → W.heap.size ≤ U.heap.size → IsBy U xa (rs.getD k []) xc := by
  obtain ⟨vs, h1, h2, h3, h4⟩ := h
  obtain ⟨xa, xc, ex, hx⟩ := (h3 k hk).isBy
  have hby := h3 k hk
  have hap := h4 k
  rw [ex] at hby hap
  rcases h2.2 with ⟨hv, h0⟩ | ⟨g, cap, cur, rfl, hb, hg, hc, hm, hs, ht⟩
  · omega
  · refine ⟨g, cap, xa, xc, rfl, ?_, hby.some, fun U hU _ => ?_⟩
    · rw [cell_of_row W g k _ _ (0, 0) hg, ← ex]
      have e : vs[k]? = cur[k]? := by
        rw [← ht, List.getElem?_take, if_pos (by omega)]
        simp
      rw [← e, List.getD_eq_getElem?_getD, List.getElem?_eq_getElem (by omega)]
      rfl
    · have : ByRow U m (.slice xa (rs.getD k []).length xc) (rs.getD k []) := ownsRow_keep1 hby (fun b cs e e2 => hU b (Array.getElem?_eq_some_iff.1 e2).1 (hap b hk e))
      exact this.isBy'
theorem ksave_any (hT : Tn w W p nb sb cv n D) (hk : KpD n D rs L S) (hS : S < 64000) (a : Option Addr) (c : Nat) (Js : List Je) (hJ : IsJs W a Js c) (h64 : ∀ x ∈ Js, I64 x.ent ∧ I64 x.per ∧ ∀ y ∈ x.lns, I64 y.amt) (hlen : Js.length ≤ 35184372088832) (hL : L + 299 * Js.length ≤ 700000 ∨ adE ((n - 1 - 2) * 60 - (enc rs).length) rs (Js.map Je.en) ≠ 0) :
    Calls Try.prog 6 #[.pointer (some ⟨p, 0, none⟩), .slice a Js.length c] W fun e w' =>
      (adE ((n - 1 - 2) * 60 - (enc rs).length) rs (Js.map Je.en) ≠ 0 ∧ e = .returned (enE (adE ((n - 1 - 2) * 60 - (enc rs).length) rs (Js.map Je.en))) ∧ Hid (Below W.heap.size W w')) ∨
      (adE ((n - 1 - 2) * 60 - (enc rs).length) rs (Js.map Je.en) = 0 ∧ Hid (Keeps w.heap.size dkT W w') ∧
        ((e = .returned .nilIface ∧ Hid (∃ cv' D', Tn w w' p nb sb cv' n D' ∧ KpD n D' ((Js.map Je.en).map entB) (L + 299 * (Js.length - rs.length) + 299) (S + 1) ∧ D'.fail = D.fail)) ∨
         (e = .returned (.iface 44 (.int .i64 7)) ∧ D.fail ≥ 0 ∧ Hid (∃ cv' D', Tn w w' p nb sb cv' n D' ∧ KpX n D' ((Js.map Je.en).map entB) rs.length (L + 299 * (Js.length - rs.length) + 299) (S + 1))))) := by
  obtain ⟨E, hE⟩ : ∃ E, Js.map Je.en = E := ⟨_, rfl⟩
  have hEl : E.length = Js.length := by rw [← hE, List.length_map]
  obtain ⟨room, hroom⟩ : ∃ room, (n - 1 - 2) * 60 - (enc rs).length = room := ⟨_, rfl⟩
  obtain ⟨code, hcode⟩ : ∃ code, adE room rs E = code := ⟨_, rfl⟩
  have HO : Hid (Calls _ _ _ W _) := kopen_ok hT hk (by omega)
  have HAd : Hid (∀ (V : World) (lb : Nat) (tv wv : Value) (s : Ls) (wh : List Nat), KpW w V p nb sb cv n D lb tv wv s wh rs rs L (S + 1) → Below W.heap.size W V → Calls Try.prog 19 #[.pointer (some ⟨lb, 0, none⟩), .slice a Js.length c] V fun e w' => ((code ≠ 0 ∧ e = .returned (.tuple #[.slice none 0 0, enE code])) ∨ (code = 0 ∧ ∃ a' m c', e = .returned (.tuple #[.slice a' m c', .nilIface]) ∧ Hid (RsRow w' V.heap.size (.slice a' m c') ((E.drop rs.length).map entB)))) ∧ Hid (Below V.heap.size V w')) := fun V lb tv wv s wh h1 h2 => by
    have := kadd_any h1 a c Js (hJ.below h2) h64 hlen
    rw [hE, hroom, hcode] at this
    exact this
  rw [hE, hroom, hcode] at hL ⊢
  by_cases hc : code = 0
  · subst hc
    have hL' : L + 299 * Js.length ≤ 700000 := hL.resolve_right (by simp)
    obtain ⟨z1, z2, z3, z4⟩ := adE_zero hcode
    obtain ⟨nw, hnw⟩ : ∃ nw, (E.drop rs.length).map entB = nw := ⟨_, rfl⟩
    have hnl : nw.length = Js.length - rs.length := by rw [← hnw, List.length_map, List.length_drop, hEl]
    have HOk : Hid (∀ k, k < nw.length → okR (nw.getD k []) ∧ (nw.getD k []).length + 2 ≤ (n - 1 - 2) * 60 - (enc (rs ++ nw.take k)).length) := fun k hkl => by
      have hkl2 : k < (E.drop rs.length).length := by rw [← hnw, List.length_map] at hkl; exact hkl
      have e1 : nw.getD k [] = entB ((E.drop rs.length)[k]'hkl2) := by
        rw [← hnw, List.getD_eq_getElem?_getD, List.getElem?_map, List.getElem?_eq_getElem hkl2]
        rfl
      have hm := z2 _ (List.mem_of_mem_drop (List.getElem_mem hkl2))
      have hp := entB_pos ((E.drop rs.length)[k]'hkl2)
      refine ⟨⟨by rw [e1]; exact hp, by rw [e1]; exact hm.2⟩, ?_⟩
      have h2 := encs_cost rs ((E.drop rs.length).take k)
      rw [List.map_take, hnw] at h2
      have h3 := costL_snoc ((E.drop rs.length).take k) ((E.drop rs.length)[k]'hkl2)
      rw [List.take_append_getElem hkl2] at h3
      have h4 : costL ((E.drop rs.length).take (k + 1)) ≤ costL (E.drop rs.length) := by
        conv => rhs; rw [← List.take_append_drop (k + 1) (E.drop rs.length)]
        unfold costL
        rw [List.map_append, List.sum_append]
        exact Nat.le_add_right _ _
      rw [h2, e1]
      have h5 := hk.room
      omega
    have hEn : E.map entB = rs ++ nw := by rw [z3, hnw]
    rw [hEn]
    rw [hnw] at HAd
    have HLm : Hid (L + 299 * nw.length + 299 ≤ 700299) := by unfold Hid; omega
    have HNl : Hid (nw.length = Js.length - rs.length) := hnl
    have hnl2 : (nw.length : Int) ≤ 10000 := by omega
    have hwb := hT.2.size
    have HWb : Hid (w.heap.size ≤ W.heap.size) := hwb
    rw [← hnl]
    clear hT hk hJ h64 hlen hL hL' z1 z2 z3 z4 hnw hnl hEn hE hEl hroom hcode hwb
    go_enter Try.func6, Try.ntmps6
    go_wp2_with fail
    refine HO.out.mono ?_
    rintro e w1 ⟨lb, rfl, hh⟩
    obtain ⟨tv, wv, s, wh, k1, hb1, hlb, htv, hwv⟩ := hh.out
    have HA1 : Hid (Calls _ _ _ w1 _) := HAd.out w1 lb tv wv s wh k1 hb1
    have HK1 : Hid (KpW w w1 p nb sb cv n D lb tv wv s wh rs rs L (S + 1) ∧ Below W.heap.size W w1 ∧ W.heap.size ≤ lb ∧ (∀ g, tv.ownBlock = some g → W.heap.size ≤ g) ∧ ∀ g, wv.ownBlock = some g → W.heap.size ≤ g) := ⟨k1, hb1, hlb, htv, hwv⟩
    clear HO HAd hh k1 hb1 hlb htv hwv
    go_wp2_with fail
    refine HA1.out.mono ?_
    rintro e w2 ⟨⟨hc, _⟩ | ⟨_, a', m, c', rfl, hr2⟩, hb2⟩
    · exact absurd rfl hc
    obtain ⟨a'', c'', hsh⟩ := hr2.out.shape
    cases hsh
    have HK2 : Hid (KpW w w2 p nb sb cv n D lb tv wv s wh rs rs L (S + 1)) := HK1.out.1.below hb2.out
    have HR2 : Hid (Rcs w2 w.heap.size tv (.slice a' nw.length c') nw) := hr2.out.rcs (fun g hg => (ownsRow_in HK1.out.1.A.tx hg).2.1) (Nat.le_trans HWb.out HK1.out.2.1.size)
    have HB2 : Hid (Below W.heap.size W w2) := HK1.out.2.1.trans (hb2.out.mono HK1.out.2.1.size)
    have HKp : Hid (∀ (U : World) (tv' wv' : Value), LKeep w.heap.size lb tv wv tv' wv' w2 U → Keeps w.heap.size dkT W U) := fun U tv' wv' k => LKeep.keeps HB2.out HK1.out.2.2.1 HK1.out.2.2.2.1 HK1.out.2.2.2.2 k
    clear HA1 hr2 hb2 HK1
    go_wp2_with fail
    go_loopw [31] (fun i wr => ∃ (k : Nat) (cv1 : Value) (D1 : Dk) (tv1 wv1 : Value) (s1 : Ls) (wh1 : List Nat), k ≤ nw.length ∧ i = .int .i64 (k : Int) ∧ Hid (KpW w wr p nb sb cv1 n D1 lb tv1 wv1 s1 wh1 (rs ++ nw.take k) rs (L + 299 * k) (S + 1) ∧ Rcs wr w.heap.size tv1 (.slice a' nw.length c') nw ∧ D1.fail = D.fail ∧ LKeep w.heap.size lb tv wv tv1 wv1 w2 wr)) (fun i _ => nw.length - (RowKit.intOf i).toNat)
    case atStart => exact ⟨0, cv, D, tv, wv, s, wh, Nat.zero_le _, rfl, by rw [List.take_zero, List.append_nil]; exact HK2.out, HR2.out, rfl, LKeep.refl _ _ _ _ _⟩
    case round =>
      obtain ⟨k, cv1, D1, tv1, wv1, s1, wh1, hk, rfl, H⟩ := hrel
      have k0 : (0 : Int) ≤ k := by omega
      by_cases hkl : k < nw.length
      · have klt : (k : Int) < (nw.length : Int) := by omega
        obtain ⟨ho1, ho2⟩ := HOk.out k hkl
        obtain ⟨g, cap, xa, xc, hv, hcell, hne, hby⟩ := H.out.2.1.cell k hkl
        simp only [Value.slice.injEq] at hv
        obtain ⟨rfl, _, rfl⟩ := hv
        have hnx : nw.take (k + 1) = nw.take k ++ [nw.getD k []] := by
          rw [List.take_add_one, List.getElem?_eq_getElem hkl, List.getD_eq_getElem?_getD, List.getElem?_eq_getElem hkl]
          rfl
        have hpre : rs ++ nw.take k ++ [nw.getD k []] <+: rs ++ nw := by
          rw [List.append_assoc, ← hnx]
          exact (List.prefix_append_right_inj rs).2 (List.take_prefix _ _)
        have HAp : Hid (Calls _ _ _ wr _) := H.out.1.append (sf := rs.length) (by have := HLm.out; omega) xa (nw.getD k []) xc ho1 ho2 hby hne (Nat.le_refl _)
        have HN : Hid (∀ (U : World) (cv' : Value) (D' : Dk) (tv' wv' : Value) (s' : Ls) (wh' : List Nat), KpW w U p nb sb cv' n D' lb tv' wv' s' wh' (rs ++ nw.take k ++ [nw.getD k []]) rs (L + 299 * k + 299) (S + 1) → D'.fail = D1.fail → LKeep w.heap.size lb tv1 wv1 tv' wv' wr U → KpW w U p nb sb cv' n D' lb tv' wv' s' wh' (rs ++ nw.take (k + 1)) rs (L + 299 * (k + 1)) (S + 1) ∧ Rcs U w.heap.size tv' (.slice (some ⟨g, 0, none⟩) nw.length c') nw ∧ D'.fail = D.fail ∧ LKeep w.heap.size lb tv wv tv' wv' w2 U) := fun U cv' D' tv' wv' s' wh' h1 h2 h3 => by
          refine ⟨?_, H.out.2.1.keep H.out.1.A h3, h2.trans H.out.2.2.1, H.out.2.2.2.trans h3⟩
          rw [hnx, ← List.append_assoc, show L + 299 * (k + 1) = L + 299 * k + 299 by omega]
          exact h1
        have HX : Hid (∀ (U : World) (cv' : Value) (D' : Dk) (tv' wv' : Value), D1.fail ≥ 0 → Tn w U p nb sb cv' n D' → KpX n D' (rs ++ nw.take k ++ [nw.getD k []]) rs.length (L + 299 * k + 299) (S + 1) → LKeep w.heap.size lb tv1 wv1 tv' wv' wr U → D.fail ≥ 0 ∧ Keeps w.heap.size dkT W U ∧ KpX n D' (rs ++ nw) rs.length (L + 299 * nw.length + 299) (S + 1)) := fun U cv' D' tv' wv' h0 h1 h2 h3 => ⟨by rw [← H.out.2.2.1]; exact h0, HKp.out U tv' wv' (H.out.2.2.2.trans h3), h2.mono (by omega) hpre⟩
        have hg1 : g < wr.heap.size := World.block_lt_of_cell? _ _ hcell
        clear H hby ho1 ho2 hnx hpre HOk HKp
        generalize hr : nw.getD k [] = rk at *
        generalize rs ++ nw.take k = rk0 at *
        go_wp2_with fail
        refine HAp.out.mono ?_
        rintro e w3 (⟨rfl, hh⟩ | ⟨rfl, hf, hh⟩)
        · obtain ⟨cv', D', tv', wv', s', wh', h1, h2, h3⟩ := hh.out
          have HF5 : Hid _ := HN.out w3 cv' D' tv' wv' s' wh' h1 h2 h3
          clear HN HX HAp hh h1 h2 h3 hcell
          go_wp2_with fail
          go_roundw
          case rel => exact ⟨k + 1, cv', D', tv', wv', s', wh', by omega, by go_num, HF5⟩
          case measure => simp [RowKit.intOf]; omega
        · obtain ⟨cv', D', tv', wv', h1, h2, h3⟩ := hh.out
          obtain ⟨q1, q2, q3⟩ := HX.out w3 cv' D' tv' wv' hf h1 h2 h3
          have HE : Hid (∃ cv' D', Tn w w3 p nb sb cv' n D' ∧ KpX n D' (rs ++ nw) rs.length (L + 299 * nw.length + 299) (S + 1)) := ⟨cv', D', h1, q3⟩
          have HQ : Hid (Keeps w.heap.size dkT W w3) := q2
          rw [enE_ne (by decide)]
          clear HN HX HAp hh h1 h2 h3 hcell q2 q3
          go_wp2
          go_ret
          exact .inr ⟨trivial, HQ, .inr ⟨rfl, q1, HE⟩⟩
      · have klt : ¬ (k : Int) < (nw.length : Int) := by omega
        have hke : k = nw.length := by omega
        subst hke
        obtain ⟨h1, _, h2, h3⟩ := H.out
        rw [List.take_length] at h1
        have HSy : Hid (Calls _ _ _ wr _) := h1.sync (sf := rs.length) (by have := HLm.out; omega) (Nat.le_refl _)
        have HX : Hid (∀ (U : World) (tv' wv' : Value), LKeep w.heap.size lb tv1 wv1 tv' wv' wr U → Keeps w.heap.size dkT W U) := fun U tv' wv' k => HKp.out U tv' wv' (h3.trans k)
        clear H h1 h3 HOk HKp
        go_wp2_with fail
        refine HSy.out.mono ?_
        rintro e w3 (⟨rfl, hh⟩ | ⟨rfl, hf, hh⟩)
        · obtain ⟨cv', D', q1, q2, q3, q4⟩ := hh.out
          have HQ : Hid (Keeps w.heap.size dkT W w3) := HX.out w3 _ _ q4
          have HE : Hid (∃ cv' D', Tn w w3 p nb sb cv' n D' ∧ KpD n D' (rs ++ nw) (L + 299 * nw.length + 299) (S + 1) ∧ D'.fail = D.fail) := ⟨cv', D', q1, q2, q3.trans h2⟩
          clear hh q1 q2 q3 q4 HSy HX
          go_wp2
          go_ret
          exact .inr ⟨trivial, HQ, .inl ⟨rfl, HE⟩⟩
        · obtain ⟨cv', D', q1, q2, q4⟩ := hh.out
          have HQ : Hid (Keeps w.heap.size dkT W w3) := HX.out w3 _ _ q4
          have HE : Hid (∃ cv' D', Tn w w3 p nb sb cv' n D' ∧ KpX n D' (rs ++ nw) rs.length (L + 299 * nw.length + 299) (S + 1)) := ⟨cv', D', q1, q2⟩
          rw [enE_ne (by decide)]
          rw [h2] at hf
          clear hh q1 q2 q4 HSy HX
          go_wp2
          go_ret
          exact .inr ⟨trivial, HQ, .inr ⟨rfl, hf, HE⟩⟩
  · have HC : Hid (code ≠ 0) := hc
    clear hT hk hJ h64 hlen hL hE hEl hroom hcode hc
    go_enter Try.func6, Try.ntmps6
    go_wp2_with fail
    refine HO.out.mono ?_
    rintro e w1 ⟨lb, rfl, hh⟩
    obtain ⟨tv, wv, s, wh, k1, hb1, _⟩ := hh.out
    have HA1 : Hid (Calls _ _ _ w1 _) := HAd.out w1 lb tv wv s wh k1 hb1
    have HB1 : Hid (Below W.heap.size W w1) := hb1
    clear HO HAd hh k1 hb1
    go_wp2_with fail
    refine HA1.out.mono ?_
    rintro e w2 ⟨⟨_, rfl⟩ | ⟨hc, _⟩, hb2⟩
    · have HE : Hid (Below W.heap.size W w2) := HB1.out.trans (hb2.out.mono HB1.out.size)
      rw [enE_ne HC.out]
      clear HA1 hb2
      go_wp2
      go_ret
      exact .inl ⟨HC.out, by rw [enE_ne HC.out]; rfl, HE⟩
    · exact absurd hc HC.out
end
end Go.Proofs.Ytijjegkkeigeoaa

namespace Go.Proofs.Ytijjegkkeigeoaa
set_option linter.unusedVariables false
set_option linter.unusedSimpArgs false
set_option maxRecDepth 100000
open Go.RowKit Go.Lib

theorem KeepBut.trans {tb : Nat} {V W X : World} (h : KeepBut tb V W) (k : KeepBut tb W X) : KeepBut tb V X :=
  ⟨k.os.trans h.os, k.tape.trans h.tape, k.output.trans h.output, Nat.le_trans h.size k.size, fun b hb hn => (k.block b (Nat.lt_of_lt_of_le hb h.size) hn).trans (h.block b hb hn)⟩
theorem KeepBut.cell {tb : Nat} {V W : World} (h : KeepBut tb V W) {p : Addr} (hb : p.block < V.heap.size) (hn : p.block ≠ tb) : W.cell? p = V.cell? p := by
  unfold World.cell?
  rw [h.block p.block hb hn]
theorem KeepBut.drewN {tb : Nat} {V W : World} (h : KeepBut tb V W) (n : Nat) : KeepBut tb V (W.drewN n) := ⟨h.os, h.tape, h.output, h.size, h.block⟩
theorem KeepBut.drew {tb : Nat} {V W : World} (h : KeepBut tb V W) : KeepBut tb V W.drew := ⟨h.os, h.tape, h.output, h.size, h.block⟩
theorem KeepBut.toBelow {tb n : Nat} {V W : World} (h : KeepBut tb V W) (hn : n ≤ tb) (hs : n ≤ V.heap.size) : Below n V W :=
  ⟨h.os, h.tape, h.output, h.size, fun b hb => h.block b (by omega) (by omega)⟩

/-- A slice of bytes that lies below a block. -/
structure IsBN (w : World) (n : Nat) (a : Option Addr) (l : List UInt8) (cap : Nat) : Prop where
  cap : l.length ≤ cap
  lies : l = [] ∨ ∃ b off, a = some ⟨b, off, none⟩ ∧ b < n ∧ ∀ k (h : k < l.length), w.cell? ⟨b, off + k, none⟩ = some (.int .u8 (l[k]'h).toNat)
theorem IsBN.keep {w w' : World} {n : Nat} {a : Option Addr} {l : List UInt8} {cap : Nat} (h : IsBN w n a l cap) (hk : KeepBut n w w') (hn : n ≤ w.heap.size) : IsBN w' n a l cap := by
  refine ⟨h.cap, ?_⟩
  rcases h.lies with h | ⟨b, off, e, hlt, hc⟩
  · exact .inl h
  · exact .inr ⟨b, off, e, hlt, fun k hk' => (hk.cell (p := ⟨b, off + k, none⟩) (by show b < _; omega) (by show b ≠ n; omega)).trans (hc k hk')⟩
theorem IsBN.isBy {w : World} {n : Nat} {a : Option Addr} {l : List UInt8} {cap : Nat} (h : IsBN w n a l cap) (hn : n ≤ w.heap.size) : IsBy w a l cap := by
  refine ⟨h.cap, ?_⟩
  rcases h.lies with h | ⟨b, off, e, hlt, hc⟩
  · exact .inl h
  · exact .inr ⟨b, off, e, by omega, hc⟩
theorem IsBy.isBN {w : World} {a : Option Addr} {l : List UInt8} {cap : Nat} (h : IsBy w a l cap) : IsBN w w.heap.size a l cap := ⟨h.cap, h.lies⟩
theorem IsBN.of {w w' : World} {n : Nat} {a : Option Addr} {l : List UInt8} {cap : Nat} (h : IsBN w n a l cap) (hb : Below n w w') : IsBN w' n a l cap := by
  refine ⟨h.cap, ?_⟩
  rcases h.lies with h | ⟨b, off, e, hlt, hc⟩
  · exact .inl h
  · exact .inr ⟨b, off, e, hlt, fun k hk' => (hb.cell (p := ⟨b, off + k, none⟩) hlt).trans (hc k hk')⟩

theorem frBy_size : (sizeOf (Try.prog.elem 52)).run Try.prog = fun W => .ok 1 W := by
  funext W
  kernel_rfl
theorem frBy_under : Try.prog.underlying 52 = some (.slice (Try.prog.elem 52)) := by kernel_rfl

theorem by_add (b off n : Nat) : (⟨b, off, none⟩ : Addr).add n = ⟨b, off + n, none⟩ := by
  unfold Addr.add
  split
  · rename_i h; subst h; rfl
  · rfl

/-- 'b[k:]'. -/
theorem run_byDrop {w : World} {n : Nat} {a : Option Addr} {l : List UInt8} {cap : Nat} (h : IsBN w n a l cap) (k : Nat) (hk : k ≤ l.length) :
    ∃ a' c', (∀ W, (Instr.slice 52 (.slice a l.length cap) (some (.int .i64 (k : Int))) none none).run Try.prog W = .ok (.slice a' (l.length - k) c') W) ∧ IsBN w n a' (l.drop k) c' := by
  have hc := h.cap
  refine ⟨if cap = k then a else a.map (·.add (k * 1)), cap - k, fun W => ?_, ?_, ?_⟩
  · rw [run_slice_l W 52 a l.length cap frBy_under .i64 k (by omega) (by omega), frBy_size]
    simp [Result.andThen, sliced]
  · rw [List.length_drop]; omega
  · by_cases h0 : l.drop k = []
    · exact .inl h0
    · right
      have hl : 0 < (l.drop k).length := List.length_pos_iff.2 h0
      rw [List.length_drop] at hl
      rcases h.lies with rfl | ⟨b, off, rfl, hlt, hcs⟩
      · simp at hl
      · refine ⟨b, off + k, ?_, hlt, fun j hj => ?_⟩
        · rw [if_neg (by omega)]
          simp [by_add]
        · rw [List.length_drop] at hj
          rw [List.getElem_drop, Nat.add_assoc]
          exact hcs (k + j) (by omega)
/-- 'b[:k]'. -/
theorem run_byTake {w : World} {n : Nat} {a : Option Addr} {l : List UInt8} {cap : Nat} (h : IsBN w n a l cap) (k : Nat) (hk : k ≤ l.length) :
    ∃ a' c', (∀ W, (Instr.slice 52 (.slice a l.length cap) none (some (.int .i64 (k : Int))) none).run Try.prog W = .ok (.slice a' k c') W) ∧ IsBN w n a' (l.take k) c' := by
  have hc := h.cap
  refine ⟨if cap = 0 then a else a.map (·.add (0 * 1)), cap, fun W => ?_, ?_, ?_⟩
  · rw [run_slice_h W 52 a l.length cap frBy_under .i64 k (by omega) (by omega), frBy_size]
    simp [Result.andThen, sliced]
  · rw [List.length_take]; omega
  · by_cases h0 : l.take k = []
    · exact .inl h0
    · right
      have hl : 0 < (l.take k).length := List.length_pos_iff.2 h0
      rw [List.length_take] at hl
      rcases h.lies with rfl | ⟨b, off, rfl, hlt, hcs⟩
      · simp at hl
      · refine ⟨b, off, ?_, hlt, fun j hj => ?_⟩
        · rw [if_neg (by omega)]
          simp [by_add]
        · rw [List.length_take] at hj
          rw [List.getElem_take]
          exact hcs j (by omega)

/-- A box of two cells: what is left, and whether it is bad. -/
def RBox (W : World) (b : Nat) (v e : Value) : Prop := W.heap[b]? = some (.cells #[v, e] 102 (0, 0))
theorem RBox.c0 {W : World} {b : Nat} {v e : Value} (h : RBox W b v e) : W.cell? ⟨b, 0, none⟩ = some v := by unfold RBox at h; simp [World.cell?, h]
theorem RBox.c1 {W : World} {b : Nat} {v e : Value} (h : RBox W b v e) : W.cell? ⟨b, 1, none⟩ = some e := by unfold RBox at h; simp [World.cell?, h]
theorem RBox.fz {W : World} {b : Nat} {v e : Value} (h : RBox W b v e) (o : Nat) : W.frozen? ⟨b, o, none⟩ = false := by unfold RBox at h; simp [World.frozen?, h]
theorem RBox.lt {W : World} {b : Nat} {v e : Value} (h : RBox W b v e) : b < W.heap.size := (Array.getElem?_eq_some_iff.1 h).1
theorem RBox.new (W : World) (v e : Value) : RBox (W.alloc (.cells #[v, e] 102)) W.heap.size v e := new_heap W _
theorem RBox.alloc {W : World} {b : Nat} {v e : Value} (h : RBox W b v e) (o : Obj) : RBox (W.alloc o) b v e := ((World.grownBy_alloc W o none).block b h.lt (by simp)).trans h
theorem RBox.grow {W W' : World} {b : Nat} {row : Option Nat} {v e : Value} (h : RBox W b v e) (hg : W.grownBy W' row) (hr : ∀ j, row = some j → b < j) : RBox W' b v e :=
  (hg.block b h.lt (fun e => by have := hr b e.symm; omega)).trans h
theorem RBox.other {W : World} {b b' o : Nat} {v e u : Value} (h : RBox W b v e) (hne : b ≠ b') : RBox (W.setCell ⟨b', o, none⟩ u) b v e :=
  (Below.heap_setCell _ _ _ b (fun e => hne e)).trans h
theorem RBox.set0 {W : World} {b : Nat} {v e : Value} (h : RBox W b v e) (v' : Value) : RBox (W.setCell ⟨b, 0, none⟩ v') b v' e := by
  unfold RBox at *
  rw [setCell_eq_setRow W b 0 _ 102 (0, 0) _ h, setRow_heap W b _ _ 102 (0, 0) h]
  rfl
theorem RBox.set1 {W : World} {b : Nat} {v e : Value} (h : RBox W b v e) (e' : Value) : RBox (W.setCell ⟨b, 1, none⟩ e') b v e' := by
  unfold RBox at *
  rw [setCell_eq_setRow W b 1 _ 102 (0, 0) _ h, setRow_heap W b _ _ 102 (0, 0) h]
  rfl

/-- A reader. -/
def RdAt (W : World) (b : Nat) : Option (List UInt8) → Prop
  | none => RBox W b (.slice none 0 0) (.bool true)
  | some l => ∃ a cap, RBox W b (.slice a l.length cap) (.bool false) ∧ IsBN W b a l cap
theorem RdAt.lt {W : World} {b : Nat} {st : Option (List UInt8)} (h : RdAt W b st) : b < W.heap.size := by
  cases st with
  | none => exact RBox.lt h
  | some l => obtain ⟨_, _, x, _⟩ := h; exact x.lt

theorem rfail_any (b : Nat) (v e0 : Value) (w : World) (h : RBox w b v e0) :
    Calls Try.prog 80 #[.pointer (some ⟨b, 0, none⟩)] w fun e w' => e = .returned (.tuple #[]) ∧ RdAt w' b none ∧ KeepBut b w w' := by
  have f1 := h.fz 1
  have c1 := h.c1
  have x1 := h.set1 (.bool true)
  have f0 := x1.fz 0
  have c0 := x1.c0
  have x2 := x1.set0 (.slice none 0 0)
  have B := ((KeepBut.refl b w).set 1 (.bool true)).set 0 (.slice none 0 0)
  have HX : Hid (RdAt _ b none) := x2
  clear h x1 x2
  go_enter Try.func80, Try.ntmps80
  go_wp2
  go_end0
  exact ⟨rfl, HX.out, B⟩

/-- A number, read by a reader. -/
def numS : Option (List UInt8) → Int × Option (List UInt8)
  | none => (0, none)
  | some l => match rdF 9 true l with
    | none => (0, none)
    | some (u, r) => (zag u, some r)

theorem numS_none {l : List UInt8} (h : rdF 9 true l = none) : numS (some l) = (0, none) := by simp [numS, h]
theorem numS_some {l r : List UInt8} {u : Nat} (h : rdF 9 true l = some (u, r)) : numS (some l) = (zag u, some r) := by simp [numS, h]

theorem rnumber_none (b : Nat) (w : World) (h : RdAt w b none) :
    Calls Try.prog 81 #[.pointer (some ⟨b, 0, none⟩)] w fun e w' => e = .returned (.int .i64 0) ∧ RdAt w' b none ∧ KeepBut b w w' := by
  have HF : Hid (Calls _ _ _ _ _) := rfail_any b _ _ w h
  have c0 := RBox.c0 h
  clear h
  go_enter Try.func81, Try.ntmps81
  go_wp2
  refine wp_loop_rounds 1 ?_
  rw [rounds_succ]
  go_wp2_with fail
  refine HF.out.mono ?_
  rintro e w1 ⟨rfl, q1, q2⟩
  have HQ : Hid (RdAt w1 b none) := q1
  clear q1 HF c0
  go_wp2
  go_ret
  exact ⟨rfl, HQ.out, q2⟩

/-- Where the reading of a number stands. -/
def RdI (l : List UInt8) (i u : Nat) : Prop := i ≤ 9 ∧ i ≤ l.length ∧ u < 128 ^ i ∧ rdF 9 true l = (rdF (9 - i) (decide (i = 0)) (l.drop i)).map (fun x => (u + 128 ^ i * x.1, x.2))
theorem rdI_start (l : List UInt8) : RdI l 0 0 := by
  refine ⟨by omega, by omega, by omega, ?_⟩
  simp
theorem rdI_more {l : List UInt8} {i u : Nat} (h : RdI l i u) (hi : i < 9) (hl : i < l.length) (hb : 128 ≤ (l[i]'hl).toNat) : RdI l (i + 1) (u + 128 ^ i * ((l[i]'hl).toNat % 128)) := by
  obtain ⟨h1, h2, h3, h4⟩ := h
  have hp : 0 < 128 ^ i := Nat.pow_pos (by omega)
  refine ⟨by omega, by omega, ?_, ?_⟩
  · rw [Nat.pow_succ]
    have : 128 ^ i * ((l[i]'hl).toNat % 128) ≤ 128 ^ i * 127 := Nat.mul_le_mul_left _ (by omega)
    omega
  · rw [h4, List.drop_eq_getElem_cons hl, show 9 - i = (9 - (i + 1)) + 1 by omega, rdF, if_pos hb]
    simp only [Option.map_map, Nat.succ_ne_zero, decide_false]
    congr 1
    funext x
    simp only [Function.comp]
    congr 1
    rw [Nat.mul_add, ← Nat.mul_assoc, Nat.pow_succ, Nat.add_assoc]
theorem rdI_zero {l : List UInt8} {i u : Nat} (h : RdI l i u) (hi : i < 9) (hl : i < l.length) (hb : (l[i]'hl).toNat = 0) (h0 : 0 < i) : rdF 9 true l = none := by
  obtain ⟨h1, h2, h3, h4⟩ := h
  rw [h4, List.drop_eq_getElem_cons hl, show 9 - i = (9 - (i + 1)) + 1 by omega, rdF, if_neg (by omega), if_pos ⟨hb, by simp; omega⟩]
  rfl
theorem rdI_done {l : List UInt8} {i u : Nat} (h : RdI l i u) (hi : i < 9) (hl : i < l.length) (hb : (l[i]'hl).toNat < 128) (h0 : ¬ ((l[i]'hl).toNat = 0 ∧ 0 < i)) : rdF 9 true l = some (u + 128 ^ i * (l[i]'hl).toNat, l.drop (i + 1)) := by
  obtain ⟨h1, h2, h3, h4⟩ := h
  rw [h4, List.drop_eq_getElem_cons hl, show 9 - i = (9 - (i + 1)) + 1 by omega, rdF, if_neg (by omega), if_neg (fun hh => h0 ⟨hh.1, by have := hh.2; simp at this; omega⟩)]
  rfl
theorem rdI_end {l : List UInt8} {i u : Nat} (h : RdI l i u) (hi : ¬ (i < 9 ∧ i < l.length)) : rdF 9 true l = none := by
  obtain ⟨h1, h2, h3, h4⟩ := h
  rw [h4]
  by_cases h9 : i = 9
  · subst h9; simp [rdF]
  · have : l.drop i = [] := List.drop_eq_nil_of_le (by omega)
    rw [this, show 9 - i = (9 - (i + 1)) + 1 by omega, rdF]
    rfl
theorem pow7 (k : Nat) : 2 ^ (7 * k) = 128 ^ k := by rw [Nat.pow_mul]
theorem pow7_le {k : Nat} (h : k < 9) : 128 ^ k ≤ 72057594037927936 := by
  have := Nat.pow_le_pow_right (n := 128) (by omega) (show k ≤ 8 by omega)
  omega
theorem or_seven (u c k : Nat) (hk : k < 9) (hu : u < 128 ^ k) : bits .or .u64 (u : Int) (IntKind.u64.wrap ((c : Int) % 128 * 2 ^ (7 * k))) = ((u + 128 ^ k * (c % 128) : Nat) : Int) := by
  have h1 := pow7_le hk
  have h2 : c % 128 * 2 ^ (7 * k) ≤ 127 * 72057594037927936 := by
    rw [pow7]
    exact Nat.mul_le_mul (by omega) h1
  have e1 : (c : Int) % 128 * 2 ^ (7 * k) = ((c % 128 * 2 ^ (7 * k) : Nat) : Int) := by push_cast; rfl
  have e2 : IntKind.u64.wrap ((c % 128 * 2 ^ (7 * k) : Nat) : Int) = ((c % 128 * 2 ^ (7 * k) : Nat) : Int) := by
    generalize c % 128 * 2 ^ (7 * k) = m at *
    simp only [IntKind.wrap, IntKind.bits, IntKind.signed]
    simp
    omega
  rw [e1, e2, bits_or_u64_nat _ _ (by omega) (by omega)]
  have := Nat.two_pow_add_eq_or_of_lt (i := 7 * k) (b := u) (by rw [pow7]; exact hu) (c % 128)
  rw [Nat.or_comm, Nat.mul_comm (c % 128), ← this, pow7, Nat.add_comm]
theorem u_bound {u k c : Nat} (hk : k < 9) (hu : u < 128 ^ k) : u + 128 ^ k * (c % 128) < 9223372036854775808 := by
  have h1 := pow7_le hk
  have : 128 ^ k * (c % 128) ≤ 128 ^ k * 127 := Nat.mul_le_mul_left _ (by omega)
  omega

set_option maxHeartbeats 4000000 in
theorem rnumber_some (b : Nat) (l : List UInt8) (w : World) (h : RdAt w b (some l)) (hl : l.length ≤ 9223372036854775807) :
    Calls Try.prog 81 #[.pointer (some ⟨b, 0, none⟩)] w fun e w' => e = .returned (.int .i64 (numS (some l)).1) ∧ RdAt w' b (numS (some l)).2 ∧ KeepBut b w w' := by
  obtain ⟨a, cap, x, hby⟩ := h
  have Hby : Hid (IsBN w b a l cap) := hby
  have HF : Hid (Calls _ _ _ _ _) := rfail_any b _ _ w x
  have c0 := x.c0
  have Hx : Hid (RBox w b _ _) := x
  have hl' : (l.length : Int) ≤ 9223372036854775807 := by omega
  clear hby x
  obtain ⟨res, hres⟩ : ∃ res, numS (some l) = res := ⟨_, rfl⟩
  have Hres : Hid (numS (some l) = res) := hres
  rw [hres]
  clear hres
  by_cases hm : (9 : Int) < l.length
  · go_enter Try.func81, Try.ntmps81
    go_wp2
    go_loopw [3, 4, 5, 12] (fun uu _ _ ii wr => wr = w ∧ ∃ k u : Nat, k ≤ 9 ∧ ii = .int .i64 k ∧ uu = .int .u64 u ∧ Hid (RdI l k u)) (fun _ _ _ i _ => 9 - (RowKit.intOf i).toNat)
    case atStart => exact ⟨rfl, 0, 0, Nat.zero_le _, rfl, rfl, rdI_start l⟩
    case round =>
      obtain ⟨rfl, k, u, hk, rfl, rfl, R⟩ := hrel
      by_cases hlt : k < 9
      · have hkl : k < l.length := by omega
        have hk9 : k < 9 := by omega
        rcases Hby.out.lies with h0 | ⟨gb, go, rfl, hgb, hgc⟩
        · rw [h0] at hkl; simp at hkl
        have ck := hgc k hkl
        obtain ⟨c, hc⟩ : ∃ c, (l[k]'hkl).toNat = c := ⟨_, rfl⟩
        have hc256 : c < 256 := by rw [← hc]; exact (l[k]'hkl).toNat_lt
        rw [hc] at ck
        have j0 : (0 : Int) ≤ k := by omega
        have j1 : (k : Int) < l.length := by omega
        have j2 : (k : Int) < 9 := by omega
        have hor := or_seven u c k hk9 R.out.2.2.1
        have hub := @u_bound u k c hk9 R.out.2.2.1
        by_cases h128 : 128 ≤ c
        · have h128' : (128 : Int) ≤ c := by omega
          have HN := rdI_more R.out hk9 hkl (by rw [hc]; exact h128)
          rw [hc] at HN
          have HN : Hid (RdI l (k + 1) _) := HN
          generalize u + 128 ^ k * (c % 128) = uu at *
          clear hgc Hby HF hc R
          go_wp2
          go_roundw
          case rel => exact ⟨trivial, k + 1, uu, by omega, by go_num, rfl, HN⟩
          case measure => simp [RowKit.intOf]; omega
        · have h128' : ¬ (128 : Int) ≤ c := by omega
          by_cases h0 : c = 0 ∧ 0 < k
          · have er : res = (0, none) := by
              rw [← Hres.out]
              exact numS_none (rdI_zero R.out hk9 hkl (by rw [hc]; exact h0.1) h0.2)
            subst er
            obtain ⟨rfl, h0k⟩ := h0
            have h0k' : (0 : Int) < k := by omega
            generalize u + 128 ^ k * (0 % 128) = uu at *
            clear hgc Hby hc R
            go_wp2_with fail
            refine HF.out.mono ?_
            rintro e w1 ⟨rfl, q1, q2⟩
            have HQ : Hid (RdAt w1 b none) := q1
            clear q1 HF
            go_wp2
            go_ret
            exact ⟨rfl, HQ.out, q2⟩
          · obtain ⟨a', c', hD2⟩ := run_byDrop Hby.out (k + 1) (by omega)
            have er : res = (zag (u + 128 ^ k * (c % 128)), some (l.drop (k + 1))) := by
              rw [← Hres.out]
              have := numS_some (rdI_done R.out hk9 hkl (by omega) (by rw [hc]; exact h0))
              rw [hc] at this
              rw [this, Nat.mod_eq_of_lt (show c < 128 by omega)]
            have h0' : ¬ ((c : Int) = 0 ∧ (0 : Int) < k) := by omega
            by_cases hcz : c = 0
            · have hkz : ¬ (0 : Int) < k := by omega
              have hcq : ((c : Int) == 0) = true := by simp; omega
              have HD : Hid (_ ∧ _) := hD2
              obtain ⟨hD0, hB⟩ := hD2
              have hD : ∀ W, (Instr.slice 52 (.slice (some ⟨gb, go, none⟩) l.length cap) (some (.int .i64 ((k : Int) + 1))) none none).run Try.prog W = .ok (.slice a' (l.length - (k + 1)) c') W := hD0
              clear hD0
              have f0 := Hx.out.fz 0
              have x4 := Hx.out.set0 (.slice a' (l.length - (k + 1)) c')
              have K4 := (KeepBut.refl b wr).set 0 (.slice a' (l.length - (k + 1)) c')
              have RA : Hid (RdAt (wr.setCell ⟨b, 0, none⟩ (.slice a' (l.length - (k + 1)) c')) b (some (l.drop (k + 1)))) := by
                refine ⟨a', c', ?_, hB.keep K4 (by have := Hx.out.lt; omega)⟩
                rw [List.length_drop]
                exact x4
              clear HD hB x4 hgc Hby HF hc R hcz h0 h0'
              by_cases hodd : (u + 128 ^ k * (c % 128)) % 2 = 1
              · have ez : zag (u + 128 ^ k * (c % 128)) = -(((u + 128 ^ k * (c % 128)) / 2 : Nat) : Int) - 1 := if_pos hodd
                rw [ez] at er
                clear ez
                generalize u + 128 ^ k * (c % 128) = uu at *
                have hodd' : (uu : Int) % 2 = 1 := by omega
                subst er
                clear hodd
                go_wp2
                go_ret
                refine ⟨?_, RA.out, K4⟩
                simp
              · have ez : zag (u + 128 ^ k * (c % 128)) = (((u + 128 ^ k * (c % 128)) / 2 : Nat) : Int) := if_neg hodd
                rw [ez] at er
                clear ez
                generalize u + 128 ^ k * (c % 128) = uu at *
                have hodd' : (uu : Int) % 2 = 0 := by omega
                subst er
                clear hodd
                go_wp2
                go_ret
                refine ⟨?_, RA.out, K4⟩
                simp
            · have hcq : ((c : Int) == 0) = false := by simp; omega
              have HD : Hid (_ ∧ _) := hD2
              obtain ⟨hD0, hB⟩ := hD2
              have hD : ∀ W, (Instr.slice 52 (.slice (some ⟨gb, go, none⟩) l.length cap) (some (.int .i64 ((k : Int) + 1))) none none).run Try.prog W = .ok (.slice a' (l.length - (k + 1)) c') W := hD0
              clear hD0
              have f0 := Hx.out.fz 0
              have x4 := Hx.out.set0 (.slice a' (l.length - (k + 1)) c')
              have K4 := (KeepBut.refl b wr).set 0 (.slice a' (l.length - (k + 1)) c')
              have RA : Hid (RdAt (wr.setCell ⟨b, 0, none⟩ (.slice a' (l.length - (k + 1)) c')) b (some (l.drop (k + 1)))) := by
                refine ⟨a', c', ?_, hB.keep K4 (by have := Hx.out.lt; omega)⟩
                rw [List.length_drop]
                exact x4
              clear HD hB x4 hgc Hby HF hc R hcz h0 h0'
              by_cases hodd : (u + 128 ^ k * (c % 128)) % 2 = 1
              · have ez : zag (u + 128 ^ k * (c % 128)) = -(((u + 128 ^ k * (c % 128)) / 2 : Nat) : Int) - 1 := if_pos hodd
                rw [ez] at er
                clear ez
                generalize u + 128 ^ k * (c % 128) = uu at *
                have hodd' : (uu : Int) % 2 = 1 := by omega
                subst er
                clear hodd
                go_wp2
                go_ret
                refine ⟨?_, RA.out, K4⟩
                simp
              · have ez : zag (u + 128 ^ k * (c % 128)) = (((u + 128 ^ k * (c % 128)) / 2 : Nat) : Int) := if_neg hodd
                rw [ez] at er
                clear ez
                generalize u + 128 ^ k * (c % 128) = uu at *
                have hodd' : (uu : Int) % 2 = 0 := by omega
                subst er
                clear hodd
                go_wp2
                go_ret
                refine ⟨?_, RA.out, K4⟩
                simp
      · have er : res = (0, none) := by
          rw [← Hres.out]
          exact numS_none (rdI_end R.out (by omega))
        subst er
        clear Hby R
        go_wp2_with fail
        refine HF.out.mono ?_
        rintro e w1 ⟨rfl, q1, q2⟩
        have HQ : Hid (RdAt w1 b none) := q1
        clear q1 HF
        go_wp2
        go_ret
        exact ⟨rfl, HQ.out, q2⟩
  · go_enter Try.func81, Try.ntmps81
    go_wp2
    go_loopw [3, 4, 5, 12] (fun uu _ _ ii wr => wr = w ∧ ∃ k u : Nat, k ≤ l.length ∧ ii = .int .i64 k ∧ uu = .int .u64 u ∧ Hid (RdI l k u)) (fun _ _ _ i _ => l.length - (RowKit.intOf i).toNat)
    case atStart => exact ⟨rfl, 0, 0, Nat.zero_le _, rfl, rfl, rdI_start l⟩
    case round =>
      obtain ⟨rfl, k, u, hk, rfl, rfl, R⟩ := hrel
      by_cases hlt : k < l.length
      · have hkl : k < l.length := by omega
        have hk9 : k < 9 := by omega
        rcases Hby.out.lies with h0 | ⟨gb, go, rfl, hgb, hgc⟩
        · rw [h0] at hkl; simp at hkl
        have ck := hgc k hkl
        obtain ⟨c, hc⟩ : ∃ c, (l[k]'hkl).toNat = c := ⟨_, rfl⟩
        have hc256 : c < 256 := by rw [← hc]; exact (l[k]'hkl).toNat_lt
        rw [hc] at ck
        have j0 : (0 : Int) ≤ k := by omega
        have j1 : (k : Int) < l.length := by omega
        have j2 : (k : Int) < 9 := by omega
        have hor := or_seven u c k hk9 R.out.2.2.1
        have hub := @u_bound u k c hk9 R.out.2.2.1
        by_cases h128 : 128 ≤ c
        · have h128' : (128 : Int) ≤ c := by omega
          have HN := rdI_more R.out hk9 hkl (by rw [hc]; exact h128)
          rw [hc] at HN
          have HN : Hid (RdI l (k + 1) _) := HN
          generalize u + 128 ^ k * (c % 128) = uu at *
          clear hgc Hby HF hc R
          go_wp2
          go_roundw
          case rel => exact ⟨trivial, k + 1, uu, by omega, by go_num, rfl, HN⟩
          case measure => simp [RowKit.intOf]; omega
        · have h128' : ¬ (128 : Int) ≤ c := by omega
          by_cases h0 : c = 0 ∧ 0 < k
          · have er : res = (0, none) := by
              rw [← Hres.out]
              exact numS_none (rdI_zero R.out hk9 hkl (by rw [hc]; exact h0.1) h0.2)
            subst er
            obtain ⟨rfl, h0k⟩ := h0
            have h0k' : (0 : Int) < k := by omega
            generalize u + 128 ^ k * (0 % 128) = uu at *
            clear hgc Hby hc R
            go_wp2_with fail
            refine HF.out.mono ?_
            rintro e w1 ⟨rfl, q1, q2⟩
            have HQ : Hid (RdAt w1 b none) := q1
            clear q1 HF
            go_wp2
            go_ret
            exact ⟨rfl, HQ.out, q2⟩
          · obtain ⟨a', c', hD2⟩ := run_byDrop Hby.out (k + 1) (by omega)
            have er : res = (zag (u + 128 ^ k * (c % 128)), some (l.drop (k + 1))) := by
              rw [← Hres.out]
              have := numS_some (rdI_done R.out hk9 hkl (by omega) (by rw [hc]; exact h0))
              rw [hc] at this
              rw [this, Nat.mod_eq_of_lt (show c < 128 by omega)]
            have h0' : ¬ ((c : Int) = 0 ∧ (0 : Int) < k) := by omega
            by_cases hcz : c = 0
            · have hkz : ¬ (0 : Int) < k := by omega
              have hcq : ((c : Int) == 0) = true := by simp; omega
              have HD : Hid (_ ∧ _) := hD2
              obtain ⟨hD0, hB⟩ := hD2
              have hD : ∀ W, (Instr.slice 52 (.slice (some ⟨gb, go, none⟩) l.length cap) (some (.int .i64 ((k : Int) + 1))) none none).run Try.prog W = .ok (.slice a' (l.length - (k + 1)) c') W := hD0
              clear hD0
              have f0 := Hx.out.fz 0
              have x4 := Hx.out.set0 (.slice a' (l.length - (k + 1)) c')
              have K4 := (KeepBut.refl b wr).set 0 (.slice a' (l.length - (k + 1)) c')
              have RA : Hid (RdAt (wr.setCell ⟨b, 0, none⟩ (.slice a' (l.length - (k + 1)) c')) b (some (l.drop (k + 1)))) := by
                refine ⟨a', c', ?_, hB.keep K4 (by have := Hx.out.lt; omega)⟩
                rw [List.length_drop]
                exact x4
              clear HD hB x4 hgc Hby HF hc R hcz h0 h0'
              by_cases hodd : (u + 128 ^ k * (c % 128)) % 2 = 1
              · have ez : zag (u + 128 ^ k * (c % 128)) = -(((u + 128 ^ k * (c % 128)) / 2 : Nat) : Int) - 1 := if_pos hodd
                rw [ez] at er
                clear ez
                generalize u + 128 ^ k * (c % 128) = uu at *
                have hodd' : (uu : Int) % 2 = 1 := by omega
                subst er
                clear hodd
                go_wp2
                go_ret
                refine ⟨?_, RA.out, K4⟩
                simp
              · have ez : zag (u + 128 ^ k * (c % 128)) = (((u + 128 ^ k * (c % 128)) / 2 : Nat) : Int) := if_neg hodd
                rw [ez] at er
                clear ez
                generalize u + 128 ^ k * (c % 128) = uu at *
                have hodd' : (uu : Int) % 2 = 0 := by omega
                subst er
                clear hodd
                go_wp2
                go_ret
                refine ⟨?_, RA.out, K4⟩
                simp
            · have hcq : ((c : Int) == 0) = false := by simp; omega
              have HD : Hid (_ ∧ _) := hD2
              obtain ⟨hD0, hB⟩ := hD2
              have hD : ∀ W, (Instr.slice 52 (.slice (some ⟨gb, go, none⟩) l.length cap) (some (.int .i64 ((k : Int) + 1))) none none).run Try.prog W = .ok (.slice a' (l.length - (k + 1)) c') W := hD0
              clear hD0
              have f0 := Hx.out.fz 0
              have x4 := Hx.out.set0 (.slice a' (l.length - (k + 1)) c')
              have K4 := (KeepBut.refl b wr).set 0 (.slice a' (l.length - (k + 1)) c')
              have RA : Hid (RdAt (wr.setCell ⟨b, 0, none⟩ (.slice a' (l.length - (k + 1)) c')) b (some (l.drop (k + 1)))) := by
                refine ⟨a', c', ?_, hB.keep K4 (by have := Hx.out.lt; omega)⟩
                rw [List.length_drop]
                exact x4
              clear HD hB x4 hgc Hby HF hc R hcz h0 h0'
              by_cases hodd : (u + 128 ^ k * (c % 128)) % 2 = 1
              · have ez : zag (u + 128 ^ k * (c % 128)) = -(((u + 128 ^ k * (c % 128)) / 2 : Nat) : Int) - 1 := if_pos hodd
                rw [ez] at er
                clear ez
                generalize u + 128 ^ k * (c % 128) = uu at *
                have hodd' : (uu : Int) % 2 = 1 := by omega
                subst er
                clear hodd
                go_wp2
                go_ret
                refine ⟨?_, RA.out, K4⟩
                simp
              · have ez : zag (u + 128 ^ k * (c % 128)) = (((u + 128 ^ k * (c % 128)) / 2 : Nat) : Int) := if_neg hodd
                rw [ez] at er
                clear ez
                generalize u + 128 ^ k * (c % 128) = uu at *
                have hodd' : (uu : Int) % 2 = 0 := by omega
                subst er
                clear hodd
                go_wp2
                go_ret
                refine ⟨?_, RA.out, K4⟩
                simp
      · have er : res = (0, none) := by
          rw [← Hres.out]
          exact numS_none (rdI_end R.out (by omega))
        subst er
        clear Hby R
        go_wp2_with fail
        refine HF.out.mono ?_
        rintro e w1 ⟨rfl, q1, q2⟩
        have HQ : Hid (RdAt w1 b none) := q1
        clear q1 HF
        go_wp2
        go_ret
        exact ⟨rfl, HQ.out, q2⟩
end Go.Proofs.Ytijjegkkeigeoaa

namespace Go.Proofs.Ytijjegkkeigeoaa
set_option linter.unusedVariables false
set_option linter.unusedSimpArgs false
set_option maxRecDepth 100000
open Go.RowKit Go.Lib

/-- What is left is not too long. -/
def StLen (st : Option (List UInt8)) : Prop := ∀ l, st = some l → l.length ≤ 9223372036854775807

theorem rnumber_any (b : Nat) (st : Option (List UInt8)) (w : World) (h : RdAt w b st) (hl : StLen st) :
    Calls Try.prog 81 #[.pointer (some ⟨b, 0, none⟩)] w fun e w' => e = .returned (.int .i64 (numS st).1) ∧ RdAt w' b (numS st).2 ∧ KeepBut b w w' := by
  cases st with
  | none => exact rnumber_none b w h
  | some l => exact rnumber_some b l w h (hl l rfl)

/-- A number that has bounds, read by a reader. -/
def rdNS (lo hi : Int) : Option (List UInt8) → Int × Option (List UInt8)
  | none => (0, none)
  | some l => match rdN lo hi l with
    | none => (0, none)
    | some (n, r) => (n, some r)
theorem rdNS_in {lo hi : Int} {st : Option (List UInt8)} (h0 : lo ≤ 0) (h1 : 0 ≤ hi) (h : lo ≤ (numS st).1 ∧ (numS st).1 ≤ hi) : rdNS lo hi st = numS st := by
  cases st with
  | none => rfl
  | some l =>
    cases hr : rdF 9 true l with
    | none => simp [rdNS, rdN, numS, hr]
    | some x =>
      obtain ⟨u, r⟩ := x
      rw [numS_some hr] at h ⊢
      simp only at h
      simp [rdNS, rdN, hr, h]
theorem rdNS_out {lo hi : Int} {st : Option (List UInt8)} (h0 : lo ≤ 0) (h1 : 0 ≤ hi) (h : ¬ (lo ≤ (numS st).1 ∧ (numS st).1 ≤ hi)) : rdNS lo hi st = (0, none) := by
  cases st with
  | none => rfl
  | some l =>
    cases hr : rdF 9 true l with
    | none => simp [rdNS, rdN, hr]
    | some x =>
      obtain ⟨u, r⟩ := x
      rw [numS_some hr] at h
      simp only at h
      simp [rdNS, rdN, hr, h]

theorem rwithin_any (b : Nat) (st : Option (List UInt8)) (lo hi : Int) (w : World) (h : RdAt w b st) (hl : StLen st) (h0 : lo ≤ 0) (h1 : 0 ≤ hi) :
    Calls Try.prog 71 #[.pointer (some ⟨b, 0, none⟩), .int .i64 lo, .int .i64 hi] w fun e w' => e = .returned (.int .i64 (rdNS lo hi st).1) ∧ RdAt w' b (rdNS lo hi st).2 ∧ KeepBut b w w' := by
  have HN : Hid (Calls _ _ _ _ _) := rnumber_any b st w h hl
  have hI := @rdNS_in lo hi st h0 h1
  have hO := @rdNS_out lo hi st h0 h1
  generalize numS st = x at *
  obtain ⟨n, s1⟩ := x
  simp only at HN hI hO
  by_cases ho : lo ≤ n ∧ n ≤ hi
  · have er := hI ho
    rw [er]
    obtain ⟨o1, o2⟩ := ho
    have o1' : ¬ n < lo := by omega
    have o2' : ¬ hi < n := by omega
    clear er hI hO h
    go_enter Try.func71, Try.ntmps71
    go_wp2_with fail
    refine HN.out.mono ?_
    rintro e w1 ⟨rfl, q1, q2⟩
    have HQ : Hid (RdAt w1 b _) := q1
    clear q1 HN
    go_wp2
    go_ret
    exact ⟨rfl, HQ.out, q2⟩
  · have er := hO ho
    rw [er]
    have ho' : n < lo ∨ (¬ n < lo ∧ hi < n) := by omega
    have HF : Hid (∀ W, KeepBut b w W → RdAt W b s1 → Calls Try.prog 80 #[.pointer (some ⟨b, 0, none⟩)] W fun e w' => e = .returned (.tuple #[]) ∧ RdAt w' b none ∧ KeepBut b w w') := fun W hK hR => by
      have : ∃ v e0, RBox W b v e0 := by
        cases s1 with
        | none => exact ⟨_, _, hR⟩
        | some l => obtain ⟨_, _, x, _⟩ := hR; exact ⟨_, _, x⟩
      obtain ⟨v, e0, x⟩ := this
      refine (rfail_any b v e0 W x).mono ?_
      rintro e w' ⟨rfl, q1, q2⟩
      exact ⟨rfl, q1, hK.trans q2⟩
    clear er hI hO h ho
    rcases ho' with o1 | ⟨o1, o2⟩
    · go_enter Try.func71, Try.ntmps71
      go_wp2_with fail
      refine HN.out.mono ?_
      rintro e w1 ⟨rfl, q1, q2⟩
      have HF1 : Hid (Calls _ _ _ _ _) := HF.out w1 q2 q1
      clear q1 HN HF
      go_wp2_with fail
      refine HF1.out.mono ?_
      rintro e w2 ⟨rfl, p1, p2⟩
      have HQ : Hid (RdAt w2 b _) := p1
      clear HF1 p1
      go_wp2
      go_ret
      exact ⟨rfl, HQ.out, p2⟩
    · go_enter Try.func71, Try.ntmps71
      go_wp2_with fail
      refine HN.out.mono ?_
      rintro e w1 ⟨rfl, q1, q2⟩
      have HF1 : Hid (Calls _ _ _ _ _) := HF.out w1 q2 q1
      clear q1 HN HF
      go_wp2_with fail
      refine HF1.out.mono ?_
      rintro e w2 ⟨rfl, p1, p2⟩
      have HQ : Hid (RdAt w2 b _) := p1
      clear HF1 p1
      go_wp2
      go_ret
      exact ⟨rfl, HQ.out, p2⟩

theorem rsmall_any (b : Nat) (st : Option (List UInt8)) (w : World) (h : RdAt w b st) (hl : StLen st) :
    Calls Try.prog 49 #[.pointer (some ⟨b, 0, none⟩)] w fun e w' => e = .returned (.int .i64 (rdNS 0 200 st).1) ∧ RdAt w' b (rdNS 0 200 st).2 ∧ KeepBut b w w' := by
  have HN : Hid (Calls _ _ _ _ _) := rwithin_any b st 0 200 w h hl (by omega) (by omega)
  generalize rdNS 0 200 st = x at *
  clear h
  go_enter Try.func49, Try.ntmps49
  go_wp2_with fail
  refine HN.out.mono ?_
  rintro e w1 ⟨rfl, q1, q2⟩
  have HQ : Hid (RdAt w1 b _) := q1
  clear q1 HN
  go_wp2
  go_ret
  exact ⟨rfl, HQ.out, q2⟩
theorem ramount_any (b : Nat) (st : Option (List UInt8)) (w : World) (h : RdAt w b st) (hl : StLen st) :
    Calls Try.prog 51 #[.pointer (some ⟨b, 0, none⟩)] w fun e w' => e = .returned (.int .i64 (rdNS (-mostA) mostA st).1) ∧ RdAt w' b (rdNS (-mostA) mostA st).2 ∧ KeepBut b w w' := by
  have HN0 := rwithin_any b st (-mostA) mostA w h hl (by unfold mostA; omega) (by unfold mostA; omega)
  generalize rdNS (-mostA) mostA st = x at *
  unfold mostA at HN0
  have HN : Hid (Calls _ _ _ _ _) := HN0
  clear h HN0
  go_enter Try.func51, Try.ntmps51
  go_wp2_with fail
  refine HN.out.mono ?_
  rintro e w1 ⟨rfl, q1, q2⟩
  have HQ : Hid (RdAt w1 b _) := q1
  clear q1 HN
  go_wp2
  go_ret
  exact ⟨rfl, HQ.out, q2⟩
theorem rcount_any (b : Nat) (st : Option (List UInt8)) (hi : Int) (w : World) (h : RdAt w b st) (hl : StLen st) (h1 : 0 ≤ hi) :
    Calls Try.prog 50 #[.pointer (some ⟨b, 0, none⟩), .int .i64 hi] w fun e w' => e = .returned (.int .i64 (rdNS 0 hi st).1) ∧ RdAt w' b (rdNS 0 hi st).2 ∧ KeepBut b w w' := by
  have HN : Hid (Calls _ _ _ _ _) := rwithin_any b st 0 hi w h hl (by omega) h1
  generalize rdNS 0 hi st = x at *
  clear h
  go_enter Try.func50, Try.ntmps50
  go_wp2_with fail
  refine HN.out.mono ?_
  rintro e w1 ⟨rfl, q1, q2⟩
  have HQ : Hid (RdAt w1 b _) := q1
  clear q1 HN
  go_wp2
  go_ret
  exact ⟨rfl, HQ.out, q2⟩

/-- Bytes, taken by a reader. -/
def takeS (k : Nat) : Option (List UInt8) → List UInt8 × Option (List UInt8)
  | none => ([], none)
  | some l => if k ≤ l.length then (l.take k, some (l.drop k)) else ([], none)

theorem rtake_none (b : Nat) (w : World) (h : RdAt w b none) :
    Calls Try.prog 70 #[.pointer (some ⟨b, 0, none⟩), .int .i64 0] w fun e w' => e = .returned (.slice none 0 0) ∧ RdAt w' b none ∧ KeepBut b w w' := by
  have x : RBox w b (.slice none 0 0) (.bool true) := h
  have c0 := x.c0
  have f0 := x.fz 0
  have HX : Hid (RdAt (w.setCell ⟨b, 0, none⟩ (.slice none 0 0)) b none) := x.set0 (.slice none 0 0)
  have K := (KeepBut.refl b w).set 0 (.slice none 0 0)
  clear h x
  go_enter Try.func70, Try.ntmps70
  go_wp2
  go_ret
  exact ⟨rfl, HX.out, K⟩

theorem rtake_some (b : Nat) (l : List UInt8) (k : Nat) (w : World) (h : RdAt w b (some l)) (hl : l.length ≤ 9223372036854775807) :
    Calls Try.prog 70 #[.pointer (some ⟨b, 0, none⟩), .int .i64 k] w fun e w' => ∃ a c, e = .returned (.slice a (takeS k (some l)).1.length c) ∧ IsBN w' b a (takeS k (some l)).1 c ∧ RdAt w' b (takeS k (some l)).2 ∧ KeepBut b w w' := by
  obtain ⟨a, cap, x, hby⟩ := h
  have c0 := x.c0
  have f0 := x.fz 0
  have hlt := x.lt
  by_cases hk : k ≤ l.length
  · have et : takeS k (some l) = (l.take k, some (l.drop k)) := by simp [takeS, hk]
    have hkl : (l.take k).length = k := by rw [List.length_take]; omega
    rw [et]
    simp only [hkl]
    obtain ⟨a1, c1, hT, hB1⟩ := run_byTake hby k hk
    obtain ⟨a2, c2, hD, hB2⟩ := run_byDrop hby k hk
    have K := (KeepBut.refl b w).set 0 (.slice a2 (l.length - k) c2)
    have HB1 : Hid (IsBN _ b a1 (l.take k) c1) := hB1.keep K (by omega)
    have HR : Hid (RdAt (w.setCell ⟨b, 0, none⟩ (.slice a2 (l.length - k) c2)) b (some (l.drop k))) := by
      refine ⟨a2, c2, ?_, hB2.keep K (by omega)⟩
      rw [List.length_drop]
      exact x.set0 _
    have hk' : ¬ ((l.length : Int) < k) := by omega
    clear hB1 hB2 hby x et
    go_enter Try.func70, Try.ntmps70
    go_wp2
    go_ret
    exact ⟨_, _, rfl, HB1.out, HR.out, K⟩
  · have et : takeS k (some l) = ([], none) := by simp [takeS, hk]
    rw [et]
    have hk' : ((l.length : Int) < k) := by omega
    have HF : Hid (Calls _ _ _ _ _) := rfail_any b _ _ w x
    clear x hby et
    go_enter Try.func70, Try.ntmps70
    go_wp2_with fail
    refine HF.out.mono ?_
    rintro e w1 ⟨rfl, q1, q2⟩
    have HQ : Hid (RdAt w1 b none) := q1
    clear q1 HF
    go_wp2
    go_ret
    exact ⟨_, _, rfl, ⟨Nat.le_refl _, .inl rfl⟩, HQ.out, q2⟩

/-- A text, read by a reader. -/
def rdTS : Option (List UInt8) → ByteArray × Option (List UInt8)
  | none => (ByteArray.empty, none)
  | some l => match rdT l with
    | none => (ByteArray.empty, none)
    | some (s, r) => (s, some r)
theorem rdTS_eq (st : Option (List UInt8)) : rdTS st = (txt (takeS (rdNS 0 24 st).1.toNat (rdNS 0 24 st).2).1, (takeS (rdNS 0 24 st).1.toNat (rdNS 0 24 st).2).2) := by
  cases st with
  | none => rfl
  | some l =>
    cases hr : rdN 0 24 l with
    | none => simp only [rdTS, rdT, rdNS, hr, takeS]; rfl
    | some x =>
      obtain ⟨n, r⟩ := x
      simp only [rdTS, rdT, rdNS, hr, takeS]
      by_cases hk : n.toNat ≤ r.length
      · simp [hk]
      · simp only [if_neg hk]; rfl
theorem rdNS_range {hi : Int} {st : Option (List UInt8)} (h1 : 0 ≤ hi) : 0 ≤ (rdNS 0 hi st).1 ∧ (rdNS 0 hi st).1 ≤ hi := by
  cases st with
  | none => exact ⟨Int.le_refl _, h1⟩
  | some l =>
    cases hr : rdN 0 hi l with
    | none => simp [rdNS, hr, h1]
    | some x =>
      obtain ⟨n, r⟩ := x
      obtain ⟨_, q1, q2⟩ := rdN_back hr
      simp [rdNS, hr, q1, q2]
theorem rdNS_len {lo hi : Int} {st : Option (List UInt8)} (h : StLen st) : StLen (rdNS lo hi st).2 := by
  cases st with
  | none => intro l hl; cases hl
  | some l =>
    cases hr : rdN lo hi l with
    | none => intro l hl; simp [rdNS, hr] at hl
    | some x =>
      obtain ⟨n, r⟩ := x
      obtain ⟨e, q1, q2⟩ := rdN_back hr
      intro l' hl'
      simp [rdNS, hr] at hl'
      have := h l rfl
      rw [e, List.length_append] at this
      rw [← hl']; omega
theorem rdTS_len {st : Option (List UInt8)} (h : StLen st) : StLen (rdTS st).2 := by
  cases st with
  | none => intro l hl; cases hl
  | some l =>
    cases hr : rdT l with
    | none => intro l hl; simp [rdTS, hr] at hl
    | some x =>
      obtain ⟨n, r⟩ := x
      obtain ⟨e, q1⟩ := rdT_back hr
      intro l' hl'
      simp [rdTS, hr] at hl'
      have := h l rfl
      rw [e, List.length_append] at this
      rw [← hl']; omega

theorem rtext_any (b : Nat) (st : Option (List UInt8)) (w : World) (h : RdAt w b st) (hl : StLen st) :
    Calls Try.prog 48 #[.pointer (some ⟨b, 0, none⟩)] w fun e w' => e = .returned (.string (rdTS st).1) ∧ RdAt w' b (rdTS st).2 ∧ KeepBut b w w' := by
  have hlt := h.lt
  have HC : Hid (Calls _ _ _ _ _) := rcount_any b st 24 w h hl (by omega)
  have hrg := @rdNS_range 24 st (by omega)
  have hln := @rdNS_len 0 24 st hl
  rw [rdTS_eq]
  have hz : (rdNS 0 24 st).2 = none → (rdNS 0 24 st).1 = 0 := by
    intro hh
    cases st with
    | none => rfl
    | some l =>
      cases hr : rdN 0 24 l with
      | none => simp [rdNS, hr]
      | some x => obtain ⟨n, r⟩ := x; simp [rdNS, hr] at hh
  generalize rdNS 0 24 st = x at *
  obtain ⟨n, s1⟩ := x
  simp only at HC hrg hln hz ⊢
  obtain ⟨k, hk⟩ : ∃ k : Nat, n = k := ⟨n.toNat, by omega⟩
  subst hk
  simp only [Int.toNat_natCast]
  have HT : Hid (∀ W, KeepBut b w W → RdAt W b s1 → Calls Try.prog 70 #[.pointer (some ⟨b, 0, none⟩), .int .i64 k] W fun e w' => ∃ a c, e = .returned (.slice a (takeS k s1).1.length c) ∧ IsBN w' b a (takeS k s1).1 c ∧ RdAt w' b (takeS k s1).2 ∧ KeepBut b w w') := fun W hK hR => by
    cases s1 with
    | none =>
      have hk0 : k = 0 := by have := hz rfl; omega
      subst hk0
      refine (rtake_none b W hR).mono ?_
      rintro e w' ⟨rfl, q1, q2⟩
      exact ⟨none, 0, rfl, ⟨Nat.le_refl _, .inl rfl⟩, q1, hK.trans q2⟩
    | some l =>
      refine (rtake_some b l k W hR (hln l rfl)).mono ?_
      rintro e w' ⟨a, c, rfl, q0, q1, q2⟩
      exact ⟨a, c, rfl, q0, q1, hK.trans q2⟩
  clear h hz hln
  generalize takeS k s1 = y at *
  obtain ⟨bl, s2⟩ := y
  simp only at HT ⊢
  go_enter Try.func48, Try.ntmps48
  go_wp2_with fail
  refine HC.out.mono ?_
  rintro e w1 ⟨rfl, q1, q2⟩
  have HT1 : Hid (Calls _ _ _ _ _) := HT.out w1 q2 q1
  clear q1 HC HT
  go_wp2_with fail
  refine HT1.out.mono ?_
  rintro e w2 ⟨a, c, rfl, p0, p1, p2⟩
  have hS := run_str w2 a bl c (p0.isBy (by have := p2.size; omega))
  have HQ : Hid (RdAt w2 b _) := p1
  clear HT1 p1 p0
  generalize bl.length = m at *
  go_wp2
  go_ret
  exact ⟨rfl, HQ.out, p2⟩
end Go.Proofs.Ytijjegkkeigeoaa
