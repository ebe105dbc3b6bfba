/-
  A log on a disk that may fail, and behind a Crash: numbers alone.
-/
import Derived.Test.YtijjegkkeigeoaaZb11
namespace Go.Proofs.Ytijjegkkeigeoaa
set_option linter.unusedVariables false
set_option linter.unusedSimpArgs false

theorem pcAt_ok {mn : Nat} {s : Ls} {tt : List UInt8} {k : Nat} (hk : k < pcs tt.length) (hr : tt.length ≤ (mn - 2) * 60) (hs : s.sit < 65536) : okP mn (pcAt s tt k) := by
  have hl := pcAt_len s tt k
  unfold pcs at hk
  refine ⟨?_, hs, by omega, by omega⟩
  show k < mn - 2
  omega
theorem pcAt_new {s : Ls} {tt : List UInt8} {k : Nat} {rs0 : List (List UInt8)} (hst : s.st = (enc rs0).length / 60) (hk : (enc rs0).length / 60 ≤ k) (ht : enc rs0 <+: tt) : NewP s.sit ((enc rs0).length / 60) (enc rs0).length tt (pcAt s tt k) := by
  have hl := pcAt_len s tt k
  have hle := ht.length_le
  refine ⟨rfl, hk, ?_, ?_, by omega, fun e => ?_⟩
  · show decide (k = s.st) = true ↔ k = _
    rw [decide_eq_true_eq, hst]
  · show (tt.drop (k * 60)).take _ <+: tt.drop (60 * k)
    rw [Nat.mul_comm k 60]
    exact List.take_prefix _ _
  · have e' : k = (enc rs0).length / 60 := e
    omega
section
variable {fr mn since : Nat} {P0 : Nat → Option Pc} {rs0 : List (List UInt8)} {Wh0 : List Nat} {T : List UInt8} {rsm : List (List UInt8)} {D : Dk} {tx tt : List UInt8} {k : Nat} {s : Ls} {wh : List Nat}
theorem LK.next (h : LK fr mn rs0 Wh0 tx tt k s wh D) (hk : k < pcs tt.length) (hr : tt.length ≤ (mn - 2) * 60) : LK fr mn rs0 Wh0 tx tt (k + 1) (plc s wh k).1 (plc s wh k).2 D := by
  obtain ⟨g1, g2, g3, g4, g5, g6, g7, g8, g9, g10, g11, g12, g13⟩ := h.place hk hr
  refine ⟨g2, by have := h.kl; omega, by omega, g3, g4, g5, .inl g6, h.stk, g13, fun n hn => ?_, fun n hn => ?_⟩
  · obtain ⟨e1, e2⟩ := h.whn n hn
    exact ⟨e1, (g12 n (by have := h.kl; omega)).trans e2⟩
  obtain ⟨e1, e2⟩ := g7 n hn
  rw [e1, g10]
  exact h.saf n e2
theorem LK.disk (h : LK fr mn rs0 Wh0 tx tt k s wh D) {D' : Dk} (hd : D'.safe = D.safe) : LK fr mn rs0 Wh0 tx tt k s wh D' :=
  ⟨h.wl, h.kl, h.ku, h.nd, h.rng, h.old0, h.sfk, h.stk, h.stf, h.whn, fun n hn => by
    obtain ⟨q, e, r⟩ := h.saf n hn
    exact ⟨q, by unfold sfP at *; rw [hd]; exact e, r⟩⟩
theorem LK.ok (hr : tt.length ≤ (mn - 2) * 60) (hm : mn ≤ 200) {n : Nat} (hn : fr + mn ≤ n) : ∀ (m k : Nat) (s : Ls) (wh : List Nat), k + m = pcs tt.length → LK fr mn rs0 Wh0 tx tt k s wh D → s.sit < 65536 → s.st ≤ 100000 → tx.length ≤ tt.length → wrOk n fr m k s wh
  | 0, _, _, _, _, _, _, _, _ => True.intro
  | m + 1, k, s, wh, hkm, h, hs, hst, htl => by
    have hk : k < pcs tt.length := by omega
    obtain ⟨g1, g2, g3, g4, g5, g6, g7, g8, g9, g10, g11, g12, g13⟩ := h.place hk hr
    have hp1 : pcs tx.length ≤ pcs tt.length := by unfold pcs; omega
    have hpt : pcs tt.length ≤ mn - 2 := by unfold pcs; omega
    have hwl := h.wl
    have hm' := g4 _ (lgD_mem g1)
    unfold wrOk
    refine ⟨⟨by omega, by omega, hs, hst, by omega⟩, LK.ok hr hm hn m (k + 1) _ _ (by omega) (h.next hk hr) (by rw [g10]; exact hs) (by rw [g11]; exact hst) htl⟩
/-- What holds of the disk itself. -/
structure DOk (D : Dk) (n : Nat) : Prop where
  len : D.now.length = n
  dn : DN D
  ct : ChT D
theorem DOk.write {D : Dk} {n : Nat} (h : DOk D n) {i : Nat} (hi : i < n) (l : List UInt8) : DOk (D.write i l) n :=
  ⟨by unfold Dk.write; simp [h.len], h.dn.write i l (by rw [h.len]; exact hi), h.ct.write i l⟩
theorem DOk.flush {D : Dk} {n : Nat} (h : DOk D n) : DOk D.flush n := ⟨h.len, DN.flush D, ChT.flush D⟩
/-- Behind write's loop. -/
theorem wrL_inv (hr : tt.length ≤ (mn - 2) * 60) (hm : mn ≤ 200) {n : Nat} (hn : fr + mn ≤ n) (ht : enc rs0 <+: tx) (htt : tx <+: tt) : ∀ (m k : Nat) (s : Ls) (wh : List Nat) (D : Dk), k + m = pcs tt.length → LK fr mn rs0 Wh0 tx tt k s wh D → LImg fr mn since P0 rs0 Wh0 s.sit tt rsm (PrS s wh) D → DOk D n → s.sit < 65536 → s.st = (enc rs0).length / 60 →
    LImg fr mn since P0 rs0 Wh0 s.sit tt rsm (PrS (wrL fr tt m k s wh D).2.1 (wrL fr tt m k s wh D).2.2.1) (wrL fr tt m k s wh D).2.2.2 ∧ DOk (wrL fr tt m k s wh D).2.2.2 n ∧ (wrL fr tt m k s wh D).2.1.sit = s.sit ∧ (wrL fr tt m k s wh D).2.1.st = s.st ∧ ((wrL fr tt m k s wh D).1 = 0 → LK fr mn rs0 Wh0 tx tt (pcs tt.length) (wrL fr tt m k s wh D).2.1 (wrL fr tt m k s wh D).2.2.1 (wrL fr tt m k s wh D).2.2.2)
  | 0, k, s, wh, D, hkm, h, hI, hD, hs, hst => by
    have e : k = pcs tt.length := by omega
    unfold wrL
    exact ⟨hI, hD, rfl, rfl, fun _ => by rw [← e]; exact h⟩
  | m + 1, k, s, wh, D, hkm, h, hI, hD, hs, hst => by
    have hk : k < pcs tt.length := by omega
    obtain ⟨g1, g2, g3, g4, g5, g6, g7, g8, g9, g10, g11, g12, g13⟩ := h.place hk hr
    have hnx := h.next hk hr
    have hm' := g4 _ (lgD_mem g1)
    have hle := ht.length_le
    have hI' : LImg fr mn since P0 rs0 Wh0 s.sit tt rsm (PrS (plc s wh k).1 (plc s wh k).2) D := hI.toPr (fun a ha => (g8 a).2 ha) (fun a ha => hI.pf a ((g8 a).1 ha)) (fun a ha => hI.pr a ((g8 a).1 ha))
    have hg9 : ¬ PrS (plc s wh k).1 (plc s wh k).2 ((plc s wh k).2.getD k 0) := fun hp => g9 ((g8 _).1 hp)
    unfold wrL
    by_cases hf : D.failing = true
    · have e : wrR D (fr + (plc s wh k).2.getD k 0) (pcB (pcAt (plc s wh k).1 tt k)) = (7, D) := by unfold wrR; rw [if_pos hf]
      rw [e, if_neg (by simp)]
      exact ⟨hI', hD, g10, g11, fun h0 => absurd h0 (by simp)⟩
    · have e : wrR D (fr + (plc s wh k).2.getD k 0) (pcB (pcAt (plc s wh k).1 tt k)) = (0, D.write (fr + (plc s wh k).2.getD k 0) (pcB (pcAt (plc s wh k).1 tt k))) := by unfold wrR; rw [if_neg hf]
      rw [e, if_pos rfl]
      have hok := pcAt_ok (mn := mn) (s := (plc s wh k).1) hk hr (by rw [g10]; exact hs)
      have hnew := pcAt_new (s := (plc s wh k).1) (tt := tt) (k := k) (rs0 := rs0) (by rw [g11]; exact hst) (by have := h.kl; omega) (ht.trans htt)
      rw [g10] at hnew
      have hI2 := hI'.write hg9 hok hm hnew
      have hD2 := hD.write (i := fr + (plc s wh k).2.getD k 0) (by omega) (pcB (pcAt (plc s wh k).1 tt k))
      have hR := wrL_inv hr hm hn ht htt m (k + 1) (plc s wh k).1 (plc s wh k).2 (D.write (fr + (plc s wh k).2.getD k 0) (pcB (pcAt (plc s wh k).1 tt k))) (by omega) (hnx.disk rfl) (by rw [g10]; exact hI2) hD2 (by rw [g10]; exact hs) (by rw [g11]; exact hst)
      rw [g10, g11] at hR
      exact hR
/-- Where a log stands between its calls. -/
structure LOps (fr mn : Nat) (rs0 : List (List UInt8)) (Wh0 : List Nat) (tx : List UInt8) (s : Ls) (wh : List Nat) (D : Dk) : Prop where
  len : wh.length = pcs tx.length
  nd : wh.Nodup
  rng : ∀ a ∈ wh, 1 ≤ a ∧ a < mn
  old0 : s.old ≠ 0 → s.old < mn ∧ s.old ∉ wh ∧ s.sf ≤ tx.length / 60 ∧ (enc rs0).length < tx.length
  sf : s.sf ≤ wh.length
  stk : (enc rs0).length / 60 ≤ tx.length / 60
  stf : (enc rs0).length / 60 ≤ s.sf
  whn : ∀ n, n < (enc rs0).length / 60 → n < tx.length / 60 ∧ wh.getD n 0 = Wh0.getD n 0
  saf : ∀ n, n < s.sf → ∃ q, sfP fr mn D (wh.getD n 0) = some q ∧ q.num = n ∧ (tx.length ≤ 60 * n + q.byt.length ∨ q.byt.length = 60) ∧ (q.sit = s.sit ∨ n < (enc rs0).length / 60 ∨ tx.length = (enc rs0).length)
theorem LOps.lk (h : LOps fr mn rs0 Wh0 tx s wh D) (htt : tx <+: tt) : LK fr mn rs0 Wh0 tx tt (tx.length / 60) s wh D := by
  have hl := htt.length_le
  refine ⟨by have := h.len; unfold pcs at *; omega, Nat.le_refl _, by unfold pcs; omega, h.nd, h.rng, fun ho => ⟨(h.old0 ho).1, (h.old0 ho).2.1, (h.old0 ho).2.2.1⟩, .inr ⟨rfl, h.sf⟩, h.stk, h.stf, h.whn, h.saf⟩
theorem LK.ops (h : LK fr mn rs0 Wh0 tx tt (pcs tt.length) s wh D) (ht : enc rs0 <+: tx) (htt : tx <+: tt) (hlt : tx.length < tt.length) (hp : ∀ n, n < s.sf → ∀ q, sfP fr mn D (wh.getD n 0) = some q → q.byt.length ≤ 60) : LOps fr mn rs0 Wh0 tt s wh D := by
  have hle := ht.length_le
  have hsf : s.sf ≤ tx.length / 60 := by
    rcases h.sfk with e | ⟨e1, e⟩
    · exact e
    · unfold pcs at e1; omega
  have hwl := h.wl
  refine ⟨by unfold pcs at *; omega, h.nd, h.rng, fun ho => ?_, by unfold pcs at *; omega, by have := h.stk; omega, h.stf, fun n hn => ⟨by have := (h.whn n hn).1; omega, (h.whn n hn).2⟩, fun n hn => ?_⟩
  · obtain ⟨o1, o2, o3⟩ := h.old0 ho
    exact ⟨o1, o2, by omega, by omega⟩
  · obtain ⟨q, e1, e2, e3, e4⟩ := h.saf n hn
    have := hp n hn q e1
    refine ⟨q, e1, e2, .inr ?_, ?_⟩
    · rcases e3 with e3 | e3
      · omega
      · exact e3
    · rcases e4 with e4 | e4 | e4
      · exact .inl e4
      · exact .inr (.inl e4)
      · exact .inr (.inl (by omega))
theorem LOps.flush (h : LOps fr mn rs0 Wh0 tx s wh D) (hn : DN D) (hf : ∀ n, n < s.sf → Fm D (fr + wh.getD n 0)) : LOps fr mn rs0 Wh0 tx s wh D.flush :=
  ⟨h.len, h.nd, h.rng, h.old0, h.sf, h.stk, h.stf, h.whn, fun n hl => by
    obtain ⟨q, e, r⟩ := h.saf n hl
    exact ⟨q, (sfP_flush hn (hf n hl)).trans e, r⟩⟩
/-- The writes of a Sync. -/
theorem flW_inv {n : Nat} (hr : tx.length ≤ (mn - 2) * 60) (hm : mn ≤ 200) (hn : fr + mn ≤ n) (ht : enc rs0 <+: tx) (hs : s.sit < 65536) (hst : s.st = (enc rs0).length / 60) (hl : wh.length = pcs tx.length) (hnd : wh.Nodup) (hrg : ∀ a ∈ wh, 1 ≤ a ∧ a < mn) (ho : s.old ≠ 0 → s.old ∉ wh) (hsf : (enc rs0).length / 60 ≤ s.sf) :
    ∀ (m k : Nat) (D : Dk), k + m = wh.length → s.sf ≤ k → LImg fr mn since P0 rs0 Wh0 s.sit tx rsm (PrS s wh) D → DOk D n → (∀ j, s.sf ≤ j → j < k → hasP D (fr + wh.getD j 0) (pcB (pcAt s tx j)) = true) →
    ((flW fr s tx wh m k D).1 ≠ 0 → LImg fr mn since P0 rs0 Wh0 s.sit tx rsm (PrS s wh) (flW fr s tx wh m k D).2 ∧ DOk (flW fr s tx wh m k D).2 n) ∧
    ((flW fr s tx wh m k D).1 = 0 → ∃ D1 : Dk, (flW fr s tx wh m k D).2 = D1.flush ∧ LImg fr mn since P0 rs0 Wh0 s.sit tx rsm (PrS s wh) D1 ∧ DOk D1 n ∧ D1.safe = D.safe ∧ ∀ j, s.sf ≤ j → j < wh.length → hasP D1 (fr + wh.getD j 0) (pcB (pcAt s tx j)) = true)
  | 0, k, D, hkm, hk, hI, hD, hw => by
    have e : k = wh.length := by omega
    unfold flW flR
    by_cases hf : D.failing = true
    · rw [if_pos hf]
      exact ⟨fun _ => ⟨hI, hD⟩, fun h => absurd h (by simp)⟩
    · rw [if_neg hf]
      exact ⟨fun h => absurd rfl h, fun _ => ⟨D, rfl, hI, hD, rfl, fun j h1 h2 => hw j h1 (by omega)⟩⟩
  | m + 1, k, D, hkm, hk, hI, hD, hw => by
    have hkl : k < wh.length := by omega
    have hkp : k < pcs tx.length := by omega
    have hrk := hrg _ (lgD_mem hkl)
    have hnp : ¬ PrS s wh (wh.getD k 0) := by
      rintro (⟨j, g1, g2, g3⟩ | ⟨g1, g2⟩)
      · have := nodup_getD hnd g2 hkl g3; omega
      · exact ho g1 (by rw [← g2]; exact lgD_mem hkl)
    unfold flW
    by_cases hhp : hasP D (fr + wh.getD k 0) (pcB (pcAt s tx k)) = true
    · rw [if_pos hhp]
      exact flW_inv hr hm hn ht hs hst hl hnd hrg ho hsf m (k + 1) D (by omega) (by omega) hI hD (fun j h1 h2 => by
        by_cases e2 : j = k
        · rw [e2]; exact hhp
        · exact hw j h1 (by omega))
    rw [if_neg hhp]
    by_cases hf : D.failing = true
    · have e : wrR D (fr + wh.getD k 0) (pcB (pcAt s tx k)) = (7, D) := by unfold wrR; rw [if_pos hf]
      rw [e, if_neg (by simp)]
      exact ⟨fun _ => ⟨hI, hD⟩, fun h => absurd h (by simp)⟩
    · have e : wrR D (fr + wh.getD k 0) (pcB (pcAt s tx k)) = (0, D.write (fr + wh.getD k 0) (pcB (pcAt s tx k))) := by unfold wrR; rw [if_neg hf]
      rw [e, if_pos rfl]
      have hI2 := hI.write hnp (pcAt_ok hkp hr hs) hm (pcAt_new (s := s) (tt := tx) (k := k) hst (by omega) ht)
      have hD2 := hD.write (i := fr + wh.getD k 0) (by omega) (pcB (pcAt s tx k))
      have hR := flW_inv hr hm hn ht hs hst hl hnd hrg ho hsf m (k + 1) (D.write (fr + wh.getD k 0) (pcB (pcAt s tx k))) (by omega) (by omega) hI2 hD2 (fun j h1 h2 => by
        have hgd : (D.write (fr + wh.getD k 0) (pcB (pcAt s tx k))).now.getD (fr + wh.getD j 0) bk0 = if fr + wh.getD k 0 = fr + wh.getD j 0 ∧ fr + wh.getD k 0 < D.now.length then ⟨padB (pcB (pcAt s tx k)), false⟩ else D.now.getD (fr + wh.getD j 0) bk0 := getD_set_bk _ _ _ _
        unfold hasP
        rw [hgd]
        by_cases e2 : j = k
        · subst e2
          rw [if_pos ⟨rfl, by rw [hD.len]; omega⟩]
          simp only [Bool.not_false, Bool.true_and]
          exact begB_iff.2 (by unfold padB; exact List.prefix_append _ _)
        · have hne : wh.getD k 0 ≠ wh.getD j 0 := fun e3 => e2 (nodup_getD hnd hkl (by omega) e3).symm
          rw [if_neg (by omega)]
          exact hw j h1 (by omega))
      exact hR
/-- Behind a Sync without an error. -/
theorem sync_done {rs : List (List UInt8)} {D1 : Dk} (hr : (enc rs).length ≤ (mn - 2) * 60) (hm : mn ≤ 200) (ht : rs0 <+: rsm) (hms : rsm <+: rs) (hs : s.sit < 65536) (hI : LImg fr mn since P0 rs0 Wh0 s.sit (enc rs) rsm (PrS s wh) D1) (hO : LOps fr mn rs0 Wh0 (enc rs) s wh D1) (hd : DN D1)
    (hw : ∀ j, s.sf ≤ j → j < wh.length → hasP D1 (fr + wh.getD j 0) (pcB (pcAt s (enc rs) j)) = true) :
    LImg fr mn since P0 rs0 Wh0 s.sit (enc rs) rs (PrS { s with sf := wh.length, old := 0 } wh) D1.flush ∧ LOps fr mn rs0 Wh0 (enc rs) { s with sf := wh.length, old := 0 } wh D1.flush := by
  have hF := hI.flush hd
  have hpw : ∀ j, j < wh.length → PrS { s with sf := wh.length, old := 0 } wh (wh.getD j 0) := fun j hj => .inl ⟨j, hj, hj, rfl⟩
  have hlw : wh.length = pcs (enc rs).length := hO.len
  have hnew : ∀ j, s.sf ≤ j → j < wh.length → sfP fr mn D1.flush (wh.getD j 0) = some (pcAt s (enc rs) j) := fun j h1 h2 => by
    show pcOf mn (D1.now.getD (fr + wh.getD j 0) bk0) = _
    have hh := hw j h1 h2
    unfold hasP at hh
    rw [Bool.and_eq_true, Bool.not_eq_true'] at hh
    exact pcOf_pre (pcAt_ok (by omega) hr hs) hm hh.1 (begB_iff.1 hh.2)
  have hold : ∀ j, j < s.sf → ∃ q, sfP fr mn D1.flush (wh.getD j 0) = some q ∧ q.num = j ∧ ((enc rs).length ≤ 60 * j + q.byt.length ∨ q.byt.length = 60) ∧ (q.sit = s.sit ∨ j < (enc rs0).length / 60 ∨ (enc rs).length = (enc rs0).length) := fun j h1 => by
    obtain ⟨q, e, r⟩ := hO.saf j h1
    exact ⟨q, (sfP_flush hd (hI.pf _ (.inl ⟨j, h1, by have := hO.sf; omega, rfl⟩))).trans e, r⟩
  have hl0 := (enc_prefix (ht.trans hms)).length_le
  refine ⟨⟨hF.R, hF.old, hF.h1, hF.h2, hF.t0, hF.tm, hF.each, fun a _ => fm_flush D1 _, ?_, fun n hn => ?_, fun hl n h3 h4 => ?_, fun hl a ha => ?_⟩, ⟨hO.len, hO.nd, hO.rng, fun h => absurd rfl h, Nat.le_refl _, hO.stk, by show _ ≤ wh.length; have := hO.stf; have := hO.sf; omega, hO.whn, fun n hn => ?_⟩⟩
  · rintro a (⟨j, g1, g2, g3⟩ | ⟨g1, _⟩)
    · rw [← g3]; exact hO.rng _ (lgD_mem g2)
    · exact absurd rfl g1
  · obtain ⟨e1, e2⟩ := hO.whn n hn
    refine ⟨?_, (hF.keep n hn).2⟩
    rw [← e2]
    exact hpw n (by unfold pcs at hlw; omega)
  · have hnl : n < wh.length := by unfold pcs at hlw; omega
    by_cases hj : n < s.sf
    · obtain ⟨q, e1, e2, e3, e4⟩ := hold n hj
      refine ⟨_, q, hpw n hnl, e1, ?_, e2, e3⟩
      rcases e4 with e4 | e4 | e4
      · exact e4
      · omega
      · omega
    · have hlen := pcAt_len s (enc rs) n
      exact ⟨_, _, hpw n hnl, hnew n (by omega) hnl, rfl, rfl, by omega⟩
  · have hmm : rsm = rs0 ∧ True := ⟨(enc_short ht (by have := (enc_prefix hms).length_le; omega)).symm, trivial⟩
    have hmo := hF.opn (by rw [hmm.1]) a ha
    have ho : s.old = 0 := Classical.byContradiction fun hn => by have := (hO.old0 hn).2.2.2; omega
    refine ⟨?_, hmo.2⟩
    rcases hmo.1 with ⟨j, g1, g2, g3⟩ | ⟨g1, _⟩
    · exact .inl ⟨j, g2, g2, g3⟩
    · exact absurd ho g1
  · by_cases hj : n < s.sf
    · exact hold n hj
    · have hlen := pcAt_len s (enc rs) n
      have hn' : n < wh.length := hn
      refine ⟨_, hnew n (by omega) hn', rfl, by omega, .inl rfl⟩
end
end Go.Proofs.Ytijjegkkeigeoaa

namespace Go.Proofs.Ytijjegkkeigeoaa
set_option linter.unusedVariables false
set_option linter.unusedSimpArgs false

theorem apT_enc (rs : List (List UInt8)) (bl : List UInt8) : apT (enc rs) bl = enc (rs ++ [bl]) := by
  rw [enc_append, enc_one]
  unfold apT enc1 w2B
  simp
/-- A log: what was there when it was opened, what is in it, what may be on the disk, what is safe. -/
structure LgI (fr mn since n : Nat) (P0 : Nat → Option Pc) (rs0 : List (List UInt8)) (Wh0 : List Nat) (rs rsA rsm : List (List UInt8)) (s : Ls) (wh : List Nat) (D : Dk) : Prop where
  img : LImg fr mn since P0 rs0 Wh0 s.sit (enc rsA) rsm (PrS s wh) D
  d : DOk D n
  ok : okL rsA
  pm : rsm <+: rs
  p0 : rs0 <+: rsm
  pa : rs <+: rsA
  room : (enc rsA).length ≤ (mn - 2) * 60
  sit : s.sit < 65536
  st : s.st = (enc rs0).length / 60
  hn : fr + mn ≤ n
  hm : mn ≤ 200
  cnt : s.cnt = rs.length
  ops : s.lo = false → rsA = rs ∧ LOps fr mn rs0 Wh0 (enc rs) s wh D
  bg : s.bg = true ∨ s.ld = true
theorem plc_same4 (s : Ls) (wh : List Nat) (k : Nat) : (plc s wh k).1.cnt = s.cnt ∧ (plc s wh k).1.lo = s.lo ∧ (plc s wh k).1.bg = s.bg ∧ (plc s wh k).1.ld = s.ld := by
  unfold plc
  split
  · exact ⟨rfl, rfl, rfl, rfl⟩
  · split <;> exact ⟨rfl, rfl, rfl, rfl⟩
theorem wrL_same (fr : Nat) (tt : List UInt8) : ∀ (m k : Nat) (s : Ls) (wh : List Nat) (D : Dk), (wrL fr tt m k s wh D).2.1.cnt = s.cnt ∧ (wrL fr tt m k s wh D).2.1.lo = s.lo ∧ (wrL fr tt m k s wh D).2.1.bg = s.bg ∧ (wrL fr tt m k s wh D).2.1.ld = s.ld
  | 0, k, s, wh, D => ⟨rfl, rfl, rfl, rfl⟩
  | m + 1, k, s, wh, D => by
    obtain ⟨a, b, c, d⟩ := plc_same4 s wh k
    unfold wrL
    split
    · obtain ⟨a', b', c', d'⟩ := wrL_same fr tt m (k + 1) (plc s wh k).1 (plc s wh k).2 (wrR D (fr + (plc s wh k).2.getD k 0) (pcB (pcAt (plc s wh k).1 tt k))).2
      exact ⟨a'.trans a, b'.trans b, c'.trans c, d'.trans d⟩
    · exact ⟨a, b, c, d⟩
section
variable {fr mn since n : Nat} {P0 : Nat → Option Pc} {rs0 : List (List UInt8)} {Wh0 : List Nat} {rs rsA rsm : List (List UInt8)} {s : Ls} {wh : List Nat} {D : Dk}
/-- As it is opened. -/
theorem LgI.start (hR : RI mn since (imgF fr mn D) rs0 (whF mn since (imgF fr mn D))) (hf : ∀ a, 1 ≤ a → a < mn → Fm D (fr + a)) (hd : DOk D n) (h1 : 1 ≤ since) (hk : okL rs0) (hr : (enc rs0).length ≤ (mn - 2) * 60) (hn : fr + mn ≤ n) (hm : mn ≤ 200) {sit : Nat} (h2 : since ≤ sit) (hsit : ∀ a q, imgF fr mn D a = some q → q.sit < sit) (hs : sit < 65536) :
    LgI fr mn since n (imgF fr mn D) rs0 (whF mn since (imgF fr mn D)) rs0 rs0 rs0 ⟨rs0.length, sit, (enc rs0).length / 60, pcs (enc rs0).length, 0, true, false, false⟩ (whF mn since (imgF fr mn D)) D := by
  have g := hR.good
  obtain ⟨hwl, hp⟩ := g.piece hR.dom hR.short
  have himg : ∀ a, 1 ≤ a → a < mn → sfP fr mn D a = imgF fr mn D a := fun a g1 g2 => by
    unfold sfP imgF
    rw [if_pos ⟨g1, g2⟩, hd.dn.fm (hf a g1 g2)]
  have hrng : ∀ a ∈ whF mn since (imgF fr mn D), 1 ≤ a ∧ a < mn := fun a ha => by
    obtain ⟨i, hi, rfl⟩ := lgMem_getD ha
    obtain ⟨q, _, e2, _⟩ := hp i (by omega)
    exact hR.dom _ _ e2
  have hpr : ∀ a, PrS ⟨rs0.length, sit, (enc rs0).length / 60, pcs (enc rs0).length, 0, true, false, false⟩ (whF mn since (imgF fr mn D)) a → 1 ≤ a ∧ a < mn := by
    rintro a (⟨j, g1, g2, g3⟩ | ⟨g1, _⟩)
    · rw [← g3]; exact hrng _ (lgD_mem g2)
    · exact absurd rfl g1
  have hpw : ∀ j, j < pcs (enc rs0).length → PrS ⟨rs0.length, sit, (enc rs0).length / 60, pcs (enc rs0).length, 0, true, false, false⟩ (whF mn since (imgF fr mn D)) ((whF mn since (imgF fr mn D)).getD j 0) := fun j hj => .inl ⟨j, hj, by omega, rfl⟩
  have hnum : ∀ j, j < pcs (enc rs0).length → ∃ q, imgF fr mn D ((whF mn since (imgF fr mn D)).getD j 0) = some q ∧ q.num = j ∧ ((enc rs0).drop (60 * j)).take 60 <+: q.byt := fun j hj => by
    obtain ⟨q, e1, e2, e3⟩ := hp j hj
    exact ⟨q, e2, (best_some hR.dom e1).2.1, e3⟩
  have h12 : (enc rs0).length ≤ 12000 := by
    have : (mn - 2) * 60 ≤ 11880 := by omega
    omega
  refine ⟨⟨hR, hsit, h1, h2, List.prefix_refl _, h12, fun a q g1 g2 g3 => .inl ?_, fun a ha => hf a (hpr a ha).1 (hpr a ha).2, hpr, fun j hj => ?_, fun hl => by omega, fun _ a ha => ?_⟩, hd, hk, List.prefix_refl _, List.prefix_refl _, List.prefix_refl _, hr, hs, rfl, hn, hm, rfl, fun _ => ⟨rfl, ?_⟩, .inr rfl⟩
  · rcases g3 with g3 | ⟨c, hc, e1, _⟩
    · rw [← himg a g1 g2]; exact g3
    · exact absurd e1 (hf a g1 g2 c hc)
  · have hj' : j < pcs (enc rs0).length := by unfold pcs; omega
    have := hpr _ (hpw j hj')
    exact ⟨hpw j hj', himg _ this.1 this.2⟩
  · obtain ⟨i, hi, rfl⟩ := lgMem_getD ha
    have := hpr _ (hpw i (by omega))
    exact ⟨hpw i (by omega), himg _ this.1 this.2⟩
  · refine ⟨hwl, nodup_of (fun i j hij hj e => ?_), hrng, fun h => absurd rfl h, by show pcs _ ≤ _; omega, Nat.le_refl _, by show _ ≤ pcs _; unfold pcs; omega, fun j hj => ⟨hj, rfl⟩, fun j hj => ?_⟩
    · obtain ⟨q1, a1, b1, _⟩ := hnum i (by omega)
      obtain ⟨q2, a2, b2, _⟩ := hnum j (by omega)
      rw [e, a2] at a1
      cases a1
      omega
    · have hj' : j < pcs (enc rs0).length := hj
      obtain ⟨q, e1, e2, e3⟩ := hnum j hj'
      have := hpr _ (hpw j hj')
      have hl := e3.length_le
      rw [List.length_take, List.length_drop] at hl
      have hq := hR.short _ _ e1
      exact ⟨q, (himg _ this.1 this.2).trans e1, e2, by omega, .inr (.inr rfl)⟩
/-- A block of another area is written. -/
theorem LgI.out (h : LgI fr mn since n P0 rs0 Wh0 rs rsA rsm s wh D) {i : Nat} (hi : i < fr + 1 ∨ fr + mn ≤ i) (hin : i < n) (l : List UInt8) : LgI fr mn since n P0 rs0 Wh0 rs rsA rsm s wh (D.write i l) :=
  ⟨h.img.out hi l, h.d.write hin l, h.ok, h.pm, h.p0, h.pa, h.room, h.sit, h.st, h.hn, h.hm, h.cnt, fun hl => ⟨(h.ops hl).1, by
    have o := (h.ops hl).2
    exact ⟨o.len, o.nd, o.rng, o.old0, o.sf, o.stk, o.stf, o.whn, o.saf⟩⟩, h.bg⟩
/-- All is made safe by another one. -/
theorem LgI.flushed (h : LgI fr mn since n P0 rs0 Wh0 rs rsA rsm s wh D) : LgI fr mn since n P0 rs0 Wh0 rs rsA rsm s wh D.flush :=
  ⟨h.img.flush h.d.dn, h.d.flush, h.ok, h.pm, h.p0, h.pa, h.room, h.sit, h.st, h.hn, h.hm, h.cnt, fun hl => ⟨(h.ops hl).1, (h.ops hl).2.flush h.d.dn (fun j hj => h.img.pf _ (.inl ⟨j, hj, by have := (h.ops hl).2.sf; omega, rfl⟩))⟩, h.bg⟩
/-- The disk is set to fail, or has counted. -/
theorem LgI.set (h : LgI fr mn since n P0 rs0 Wh0 rs rsA rsm s wh D) {D' : Dk} (h1 : D'.now = D.now) (h2 : D'.safe = D.safe) (h3 : D'.chg = D.chg) : LgI fr mn since n P0 rs0 Wh0 rs rsA rsm s wh D' := by
  obtain ⟨a, b, c, d, e⟩ := D
  obtain ⟨a', b', c', d', e'⟩ := D'
  simp only at h1 h2 h3
  subst h1 h2 h3
  exact ⟨⟨h.img.R, h.img.old, h.img.h1, h.img.h2, h.img.t0, h.img.tm, h.img.each, h.img.pf, h.img.pr, h.img.keep, h.img.firm, h.img.opn⟩, ⟨h.d.len, h.d.dn, h.d.ct⟩, h.ok, h.pm, h.p0, h.pa, h.room, h.sit, h.st, h.hn, h.hm, h.cnt, fun hl => ⟨(h.ops hl).1, by
    have o := (h.ops hl).2
    exact ⟨o.len, o.nd, o.rng, o.old0, o.sf, o.stk, o.stf, o.whn, o.saf⟩⟩, h.bg⟩
/-- What an Append leaves: where it has no error, and where the disk has one. -/
theorem LgI.append (h : LgI fr mn since n P0 rs0 Wh0 rs rsA rsm s wh D) (hl : s.lo = false) {bl : List UInt8} (hb : okR bl) (hf : bl.length + 2 ≤ (mn - 2) * 60 - (enc rs).length) (hst : s.st ≤ 100000) :
    wrOk n fr (pcs (apT (enc rs) bl).length - (enc rs).length / 60) ((enc rs).length / 60) (bgn s D).2.1 wh ∧
    ∀ R, R = wrT fr (apT (enc rs) bl) (enc rs) s wh D → (R.1 = 0 → LgI fr mn since n P0 rs0 Wh0 (rs ++ [bl]) (rs ++ [bl]) rsm { R.2.1 with cnt := s.cnt + 1 } R.2.2.1 R.2.2.2) ∧
    (R.1 ≠ 0 → LgI fr mn since n P0 rs0 Wh0 rs (rs ++ [bl]) rsm { R.2.1 with lo := true } R.2.2.1 R.2.2.2) := by
  obtain ⟨hA0, hO⟩ := h.ops hl
  have hA : rs = rsA := hA0.symm
  clear hA0
  subst hA
  rw [apT_enc]
  have hsn : rs <+: rs ++ [bl] := List.prefix_append _ _
  have hoA : okL (rs ++ [bl]) := okL_append h.ok (fun r hr => by rw [List.mem_singleton.1 hr]; exact hb)
  have hlen : (enc (rs ++ [bl])).length = (enc rs).length + (bl.length + 2) := by rw [enc_append, enc_one, List.length_append, enc1_length]
  have hroom : (enc (rs ++ [bl])).length ≤ (mn - 2) * 60 := by omega
  have h12 : (enc (rs ++ [bl])).length ≤ 12000 := by
    have := h.hm
    have : (mn - 2) * 60 ≤ 11880 := by omega
    omega
  have ht : enc rs0 <+: enc rs := enc_prefix (h.p0.trans h.pm)
  have htt : enc rs <+: enc (rs ++ [bl]) := enc_prefix hsn
  have key : ∀ (s' : Ls) (D' : Dk), s'.sit = s.sit → s'.st = s.st → s'.sf = s.sf → s'.old = s.old → LImg fr mn since P0 rs0 Wh0 s.sit (enc rs) rsm (PrS s wh) D' → DOk D' n → LOps fr mn rs0 Wh0 (enc rs) s wh D' →
      wrOk n fr (pcs (enc (rs ++ [bl])).length - (enc rs).length / 60) ((enc rs).length / 60) s' wh ∧
      ∀ R, R = wrL fr (enc (rs ++ [bl])) (pcs (enc (rs ++ [bl])).length - (enc rs).length / 60) ((enc rs).length / 60) s' wh D' → LImg fr mn since P0 rs0 Wh0 s.sit (enc (rs ++ [bl])) rsm (PrS R.2.1 R.2.2.1) R.2.2.2 ∧ DOk R.2.2.2 n ∧ R.2.1.sit = s.sit ∧ R.2.1.st = s.st ∧ (R.1 = 0 → LOps fr mn rs0 Wh0 (enc (rs ++ [bl])) R.2.1 R.2.2.1 R.2.2.2) := by
    intro s' D' e1 e2 e3 e4 hI hD hO'
    have hO2 : LOps fr mn rs0 Wh0 (enc rs) s' wh D' := ⟨hO'.len, hO'.nd, hO'.rng, by rw [e4, e3]; exact hO'.old0, by rw [e3]; exact hO'.sf, hO'.stk, by rw [e3]; exact hO'.stf, hO'.whn, by rw [e3, e1]; exact hO'.saf⟩
    have hPr : PrS s' wh = PrS s wh := by
      funext a
      unfold PrS
      rw [e3, e4]
    have hK := hO2.lk htt
    have hkm : (enc rs).length / 60 + (pcs (enc (rs ++ [bl])).length - (enc rs).length / 60) = pcs (enc (rs ++ [bl])).length := by unfold pcs; omega
    refine ⟨LK.ok hroom h.hm h.hn _ _ s' wh hkm hK (by rw [e1]; exact h.sit) (by rw [e2]; exact hst) htt.length_le, fun R hR => ?_⟩
    have hI2 : LImg fr mn since P0 rs0 Wh0 s'.sit (enc (rs ++ [bl])) rsm (PrS s' wh) D' := by
      rw [hPr, e1]
      exact hI.more htt h12
    obtain ⟨r1, r2, r3, r4, r5⟩ := wrL_inv hroom h.hm h.hn ht htt _ _ s' wh D' hkm hK hI2 hD (by rw [e1]; exact h.sit) (by rw [e2]; exact h.st)
    rw [← hR] at r1 r2 r3 r4 r5
    rw [e1] at r1 r3
    rw [e2] at r4
    refine ⟨r1, r2, r3, r4, fun h0 => (r5 h0).ops ht htt (by omega) (fun j hj q hq => ?_)⟩
    have hk5 := r5 h0
    have hjl : j < R.2.2.1.length := by
      have := hk5.wl
      rcases hk5.sfk with e | ⟨_, e⟩
      · unfold pcs at *; omega
      · omega
    have hp : PrS R.2.1 R.2.2.1 (R.2.2.1.getD j 0) := .inl ⟨j, hj, hjl, rfl⟩
    obtain ⟨g1, g2⟩ := r1.pr _ hp
    rcases r1.each _ q g1 g2 (.inl hq) with e | e
    · exact h.img.R.short _ _ e
    · exact e.l2
  have hst0 := h.st
  have fin : ∀ (s' : Ls) (D' : Dk), s'.sit = s.sit → s'.st = s.st → s'.sf = s.sf → s'.old = s.old → s'.cnt = s.cnt → s'.lo = s.lo → (s'.bg = true ∨ s'.ld = true) → LImg fr mn since P0 rs0 Wh0 s.sit (enc rs) rsm (PrS s wh) D' → DOk D' n → LOps fr mn rs0 Wh0 (enc rs) s wh D' →
      ∀ R, R = wrL fr (enc (rs ++ [bl])) (pcs (enc (rs ++ [bl])).length - (enc rs).length / 60) ((enc rs).length / 60) s' wh D' → (R.1 = 0 → LgI fr mn since n P0 rs0 Wh0 (rs ++ [bl]) (rs ++ [bl]) rsm { R.2.1 with cnt := s.cnt + 1 } R.2.2.1 R.2.2.2) ∧ (R.1 ≠ 0 → LgI fr mn since n P0 rs0 Wh0 rs (rs ++ [bl]) rsm { R.2.1 with lo := true } R.2.2.1 R.2.2.2) := by
    intro s' D' e1 e2 e3 e4 e5 e6 e7 hI hD hO' R hR
    obtain ⟨_, k2⟩ := key s' D' e1 e2 e3 e4 hI hD hO'
    obtain ⟨r1, r2, r3, r4, r5⟩ := k2 R hR
    obtain ⟨w1, w2, w3, w4⟩ := wrL_same fr (enc (rs ++ [bl])) (pcs (enc (rs ++ [bl])).length - (enc rs).length / 60) ((enc rs).length / 60) s' wh D'
    rw [← hR] at w1 w2 w3 w4
    have hb7 : R.2.1.bg = true ∨ R.2.1.ld = true := by rw [w3, w4]; exact e7
    constructor
    · intro h0
      refine ⟨by show LImg fr mn since P0 rs0 Wh0 R.2.1.sit _ _ _ _; rw [r3]; exact r1, r2, hoA, h.pm.trans hsn, h.p0, List.prefix_refl _, hroom, by show R.2.1.sit < _; rw [r3]; exact h.sit, r4.trans h.st, h.hn, h.hm, by show s.cnt + 1 = _; rw [h.cnt]; simp, fun _ => ⟨rfl, ?_⟩, hb7⟩
      have o := r5 h0
      exact ⟨o.len, o.nd, o.rng, o.old0, o.sf, o.stk, o.stf, o.whn, o.saf⟩
    · intro h0
      exact ⟨by show LImg fr mn since P0 rs0 Wh0 R.2.1.sit _ _ _ _; rw [r3]; exact r1, r2, hoA, h.pm, h.p0, hsn, hroom, by show R.2.1.sit < _; rw [r3]; exact h.sit, r4.trans h.st, h.hn, h.hm, by show R.2.1.cnt = _; rw [w1, e5]; exact h.cnt, fun hx => absurd hx (by simp), hb7⟩
  by_cases hbg : s.bg = true
  · have eb : bgn s D = (0, s, D) := by unfold bgn; rw [if_pos hbg]
    refine ⟨by rw [eb]; exact (key s D rfl rfl rfl rfl h.img h.d hO).1, fun R hR => ?_⟩
    refine fin s D rfl rfl rfl rfl rfl rfl h.bg h.img h.d hO R ?_
    rw [hR]
    unfold wrT
    rw [eb, if_pos rfl]
  · by_cases hz : D.steps = 0
    · have eb : bgn s D = (0, { s with bg := true }, D) := by unfold bgn; rw [if_neg hbg, if_pos hz]
      refine ⟨by rw [eb]; exact (key { s with bg := true } D rfl rfl rfl rfl h.img h.d hO).1, fun R hR => ?_⟩
      refine fin { s with bg := true } D rfl rfl rfl rfl rfl rfl (.inl rfl) h.img h.d hO R ?_
      rw [hR]
      unfold wrT
      rw [eb, if_pos rfl]
    by_cases hfl : D.failing = true
    · have eb : bgn s D = (7, { s with bg := false }, D) := by
        unfold bgn flR
        rw [if_neg hbg, if_neg hz, if_pos hfl]
        rfl
      have hld : s.ld = true := by rcases h.bg with e | e; exact absurd e hbg; exact e
      refine ⟨by rw [eb]; exact (key { s with bg := false } D rfl rfl rfl rfl h.img h.d hO).1, fun R hR => ?_⟩
      have hRe : R = (7, { s with bg := false }, wh, D) := by
        rw [hR]
        unfold wrT
        rw [eb, if_neg (by simp)]
      subst hRe
      refine ⟨fun h0 => absurd h0 (by simp), fun _ => ?_⟩
      exact ⟨h.img.more htt h12, h.d, hoA, h.pm, h.p0, hsn, hroom, h.sit, h.st, h.hn, h.hm, h.cnt, fun hx => absurd hx (by simp), .inr hld⟩
    · have eb : bgn s D = (0, { s with bg := true }, D.flush) := by
        unfold bgn flR
        rw [if_neg hbg, if_neg hz, if_neg hfl]
        rfl
      have hI := h.img.flush h.d.dn
      have hO2 := hO.flush h.d.dn (fun j hj => h.img.pf _ (.inl ⟨j, hj, by have := hO.sf; omega, rfl⟩))
      refine ⟨by rw [eb]; exact (key { s with bg := true } D.flush rfl rfl rfl rfl hI h.d.flush hO2).1, fun R hR => ?_⟩
      refine fin { s with bg := true } D.flush rfl rfl rfl rfl rfl rfl (.inl rfl) hI h.d.flush hO2 R ?_
      rw [hR]
      unfold wrT
      rw [eb, if_pos rfl]
/-- What a Sync leaves. -/
theorem LgI.sync (h : LgI fr mn since n P0 rs0 Wh0 rs rsA rsm s wh D) (hl : s.lo = false) :
    ∀ R, R = snc fr s (enc rs) wh D → (R.1 = 0 → LgI fr mn since n P0 rs0 Wh0 rs rs rs R.2.1 wh R.2.2 ∧ R.2.1.lo = false ∧ R.2.2.chg = []) ∧ (R.1 ≠ 0 → LgI fr mn since n P0 rs0 Wh0 rs rsA rsm R.2.1 wh R.2.2 ∧ R.2.1.lo = true) := by
  intro R hR
  obtain ⟨hA0, hO⟩ := h.ops hl
  have hA : rs = rsA := hA0.symm
  clear hA0
  subst hA
  have ht : enc rs0 <+: enc rs := enc_prefix (h.p0.trans h.pm)
  have hW := flW_inv (rsm := rsm) (since := since) (P0 := P0) (Wh0 := Wh0) h.room h.hm h.hn ht h.sit h.st hO.len hO.nd hO.rng (fun ho => (hO.old0 ho).2.1) hO.stf (wh.length - s.sf) s.sf D (by have := hO.sf; omega) (Nat.le_refl _) h.img h.d (fun j h1 h2 => absurd h1 (by omega))
  unfold snc at hR
  rw [if_neg (by simp [hl])] at hR
  by_cases hz : (flW fr s (enc rs) wh (wh.length - s.sf) s.sf D).1 = 0
  · rw [if_pos hz] at hR
    subst hR
    refine ⟨fun _ => ?_, fun h0 => absurd rfl h0⟩
    obtain ⟨D1, e, hI1, hD1, hs1, hw1⟩ := hW.2 hz
    have hO1 : LOps fr mn rs0 Wh0 (enc rs) s wh D1 := ⟨hO.len, hO.nd, hO.rng, hO.old0, hO.sf, hO.stk, hO.stf, hO.whn, fun j hj => by
      obtain ⟨q, e1, r⟩ := hO.saf j hj
      exact ⟨q, by unfold sfP at *; rw [hs1]; exact e1, r⟩⟩
    obtain ⟨g1, g2⟩ := sync_done h.room h.hm h.p0 h.pm h.sit hI1 hO1 hD1.dn hw1
    show (LgI fr mn since n P0 rs0 Wh0 rs rs rs { s with sf := wh.length, old := 0 } wh (flW fr s (enc rs) wh (wh.length - s.sf) s.sf D).2) ∧ s.lo = false ∧ (flW fr s (enc rs) wh (wh.length - s.sf) s.sf D).2.chg = []
    rw [e]
    exact ⟨⟨g1, hD1.flush, h.ok, List.prefix_refl _, h.p0.trans h.pm, List.prefix_refl _, h.room, h.sit, h.st, h.hn, h.hm, h.cnt, fun _ => ⟨rfl, g2⟩, h.bg⟩, hl, rfl⟩
  · rw [if_neg hz] at hR
    subst hR
    refine ⟨fun h0 => absurd h0 (by simp), fun _ => ?_⟩
    obtain ⟨g1, g2⟩ := hW.1 hz
    exact ⟨⟨g1, g2, h.ok, h.pm, h.p0, h.pa, h.room, h.sit, h.st, h.hn, h.hm, h.cnt, fun hx => absurd hx (by simp), h.bg⟩, rfl⟩
/-- What is found when it is opened again, without a Crash, or behind one. -/
theorem LgI.again (h : LgI fr mn since n P0 rs0 Wh0 rs rsA rsm s wh D) : ∃ rs', rsm <+: rs' ∧ rs' <+: rsA ∧ RI mn since (imgF fr mn D) rs' (whF mn since (imgF fr mn D)) ∧ ∀ a q, imgF fr mn D a = some q → q.sit ≤ s.sit :=
  h.img.now h.d.dn h.ok (h.pm.trans h.pa) h.p0
theorem LgI.crash (h : LgI fr mn since n P0 rs0 Wh0 rs rsA rsm s wh D) {D' : Dk} {mk : List Bool} {torn : Int} (hd : D'.now = crashS mk torn 0 D.chg D.safe) : ∃ rs', rsm <+: rs' ∧ rs' <+: rsA ∧ RI mn since (imgF fr mn D') rs' (whF mn since (imgF fr mn D')) ∧ ∀ a q, imgF fr mn D' a = some q → q.sit ≤ s.sit :=
  h.img.crash h.d.ct h.ok (h.pm.trans h.pa) h.p0 hd
end
end Go.Proofs.Ytijjegkkeigeoaa

namespace Go.Proofs.Ytijjegkkeigeoaa
set_option linter.unusedVariables false
set_option linter.unusedSimpArgs false

/-- What a log's calls do to a disk: so many writes into its own area, and Flushes. -/
def Rch (fr mn : Nat) (D : Dk) : Nat → Dk → Prop
  | 0, D' => D' = D
  | k + 1, D' => ∃ D1, Rch fr mn D k D1 ∧ (D' = D1.flush ∨ ∃ i l, fr + 1 ≤ i ∧ i < fr + mn ∧ D' = D1.write i l)
section
variable {fr mn fr2 mn2 since n j k : Nat} {P0 : Nat → Option Pc} {rs0 : List (List UInt8)} {Wh0 : List Nat} {rs rsA rsm : List (List UInt8)} {s : Ls} {wh : List Nat} {D D1 D2 D' : Dk} {tx tt bl : List UInt8}
theorem Rch.refl : Rch fr mn D 0 D := rfl
theorem Rch.write (h : Rch fr mn D k D') (i : Nat) (h1 : fr + 1 ≤ i) (h2 : i < fr + mn) (l : List UInt8) : Rch fr mn D (k + 1) (D'.write i l) := ⟨D', h, .inr ⟨i, l, h1, h2, rfl⟩⟩
theorem Rch.flush (h : Rch fr mn D k D') : Rch fr mn D (k + 1) D'.flush := ⟨D', h, .inl rfl⟩
theorem Rch.go {motive : Nat → Dk → Prop} (h0 : motive 0 D) (hw : ∀ k D', motive k D' → ∀ i, fr + 1 ≤ i → i < fr + mn → ∀ l, motive (k + 1) (D'.write i l)) (hf : ∀ k D', motive k D' → motive (k + 1) D'.flush) : ∀ (k : Nat) (D' : Dk), Rch fr mn D k D' → motive k D'
  | 0, D', h => by
    have e : D' = D := h
    rw [e]
    exact h0
  | k + 1, D', h => by
    obtain ⟨D1, h1, h2⟩ := h
    have ih := Rch.go h0 hw hf k D1 h1
    rcases h2 with rfl | ⟨i, l, g1, g2, rfl⟩
    · exact hf k D1 ih
    · exact hw k D1 ih i g1 g2 l
theorem Rch.trans (h : Rch fr mn D j D1) (g : Rch fr mn D1 k D2) : Rch fr mn D (j + k) D2 :=
  Rch.go (motive := fun k D2 => Rch fr mn D (j + k) D2) h (fun k D' ih i h1 h2 l => ih.write i h1 h2 l) (fun k D' ih => ih.flush) k D2 g
theorem Rch.fail (h : Rch fr mn D k D') : D'.fail = D.fail :=
  Rch.go (motive := fun _ D' => D'.fail = D.fail) rfl (fun k D' ih i h1 h2 l => ih) (fun k D' ih => ih) k D' h
theorem Rch.lim (h : Rch fr mn D k D') (hl : D.lim j) : D'.lim (j + k) := by
  refine Rch.go (motive := fun k D' => D'.lim (j + k)) hl (fun k D' ih i h1 h2 l => ?_) (fun k D' ih => ?_) k D' h
  · refine ⟨?_, ?_⟩
    · have := ih.s
      show D'.steps + 1 ≤ _
      omega
    · have := ih.c
      show (D'.chg ++ [_]).length ≤ _
      rw [List.length_append, List.length_singleton]
      omega
  · refine ⟨?_, Nat.zero_le _⟩
    have := ih.s
    show D'.steps + 1 ≤ _
    omega
theorem Rch.now (h : Rch fr mn D k D') {i : Nat} (hi : i < fr + 1 ∨ fr + mn ≤ i) : D'.now.getD i bk0 = D.now.getD i bk0 := by
  refine Rch.go (motive := fun _ D' => D'.now.getD i bk0 = D.now.getD i bk0) rfl (fun k D' ih i' h1 h2 l => ?_) (fun k D' ih => ih) k D' h
  rw [← ih]
  show (D'.now.set i' _).getD i bk0 = _
  rw [getD_set_bk, if_neg (by omega)]
/-- The other log is as it was. -/
theorem Rch.other (h : Rch fr mn D k D') (ho : fr + mn ≤ fr2 ∨ fr2 + mn2 ≤ fr) (hn : fr + mn ≤ n) (hI : LgI fr2 mn2 since n P0 rs0 Wh0 rs rsA rsm s wh D) : LgI fr2 mn2 since n P0 rs0 Wh0 rs rsA rsm s wh D' :=
  Rch.go (motive := fun _ D' => LgI fr2 mn2 since n P0 rs0 Wh0 rs rsA rsm s wh D') hI (fun k D' ih i h1 h2 l => ih.out (by omega) (by omega) l) (fun k D' ih => ih.flushed) k D' h
theorem not_failing (h : D.fail < 0) : ¬ D.failing = true := by
  unfold Dk.failing
  rw [decide_eq_true_eq]
  omega
theorem wrL_rch (hr : tt.length ≤ (mn - 2) * 60) : ∀ (m k : Nat) (s : Ls) (wh : List Nat) (D : Dk), D.fail < 0 → k + m = pcs tt.length → LK fr mn rs0 Wh0 tx tt k s wh D → (wrL fr tt m k s wh D).1 = 0 ∧ Rch fr mn D m (wrL fr tt m k s wh D).2.2.2
  | 0, k, s, wh, D, _, _, _ => ⟨rfl, Rch.refl⟩
  | m + 1, k, s, wh, D, hf, hkm, h => by
    have hk : k < pcs tt.length := by omega
    obtain ⟨g1, g2, g3, g4, _⟩ := h.place hk hr
    have hm' := g4 _ (lgD_mem g1)
    have e : wrR D (fr + (plc s wh k).2.getD k 0) (pcB (pcAt (plc s wh k).1 tt k)) = (0, D.write (fr + (plc s wh k).2.getD k 0) (pcB (pcAt (plc s wh k).1 tt k))) := by unfold wrR; rw [if_neg (not_failing hf)]
    unfold wrL
    rw [e, if_pos rfl]
    obtain ⟨r1, r2⟩ := wrL_rch hr m (k + 1) (plc s wh k).1 (plc s wh k).2 (D.write (fr + (plc s wh k).2.getD k 0) (pcB (pcAt (plc s wh k).1 tt k))) hf (by omega) ((h.next hk hr).disk rfl)
    refine ⟨r1, ?_⟩
    have := ((Rch.refl (fr := fr) (mn := mn) (D := D)).write (fr + (plc s wh k).2.getD k 0) (by omega) (by omega) (pcB (pcAt (plc s wh k).1 tt k))).trans r2
    rw [show 0 + 1 + m = m + 1 from by omega] at this
    exact this
theorem flW_rch (hrg : ∀ a ∈ wh, 1 ≤ a ∧ a < mn) : ∀ (m k : Nat) (D : Dk), D.fail < 0 → k + m = wh.length → (flW fr s tx wh m k D).1 = 0 ∧ ∃ j, j ≤ m + 1 ∧ Rch fr mn D j (flW fr s tx wh m k D).2
  | 0, k, D, hf, _ => by
    unfold flW flR
    rw [if_neg (not_failing hf)]
    exact ⟨rfl, 1, by omega, (Rch.refl (D := D)).flush⟩
  | m + 1, k, D, hf, hkm => by
    have hm' := hrg _ (lgD_mem (l := wh) (i := k) (by omega))
    have e : wrR D (fr + wh.getD k 0) (pcB (pcAt s tx k)) = (0, D.write (fr + wh.getD k 0) (pcB (pcAt s tx k))) := by unfold wrR; rw [if_neg (not_failing hf)]
    unfold flW
    by_cases hp : hasP D (fr + wh.getD k 0) (pcB (pcAt s tx k)) = true
    · rw [if_pos hp]
      obtain ⟨r1, j, hj, r2⟩ := flW_rch hrg m (k + 1) D hf (by omega)
      exact ⟨r1, j, by omega, r2⟩
    · rw [if_neg hp, e, if_pos rfl]
      obtain ⟨r1, j, hj, r2⟩ := flW_rch hrg m (k + 1) (D.write (fr + wh.getD k 0) (pcB (pcAt s tx k))) hf (by omega)
      exact ⟨r1, 0 + 1 + j, by omega, ((Rch.refl (fr := fr) (mn := mn) (D := D)).write (fr + wh.getD k 0) (by omega) (by omega) (pcB (pcAt s tx k))).trans r2⟩
theorem LgI.len (h : LgI fr mn since n P0 rs0 Wh0 rs rsA rsm s wh D) : (enc rs).length ≤ (mn - 2) * 60 ∧ s.st ≤ 100000 ∧ (enc rs).length ≤ 11880 := by
  have h1 := (enc_prefix h.pa).length_le
  have h2 := (enc_prefix (h.p0.trans (h.pm.trans h.pa))).length_le
  have h3 := h.room
  have h4 := h.hm
  have h5 := h.st
  have : (mn - 2) * 60 ≤ 11880 := by omega
  omega
/-- An Append where the disk does not fail. -/
theorem LgI.grow (h : LgI fr mn since n P0 rs0 Wh0 rs rsA rsm s wh D) (hl : s.lo = false) (hf : D.fail < 0) (hb : okR bl) (hr : bl.length + 2 ≤ (mn - 2) * 60 - (enc rs).length) :
    wrOk n fr (pcs (apT (enc rs) bl).length - (enc rs).length / 60) ((enc rs).length / 60) (bgn s D).2.1 wh ∧ (wrT fr (apT (enc rs) bl) (enc rs) s wh D).1 = 0 ∧ (∃ k, k ≤ 299 ∧ Rch fr mn D k (wrT fr (apT (enc rs) bl) (enc rs) s wh D).2.2.2) ∧ (wrT fr (apT (enc rs) bl) (enc rs) s wh D).2.1.lo = false ∧
    LgI fr mn since n P0 rs0 Wh0 (rs ++ [bl]) (rs ++ [bl]) rsm { (wrT fr (apT (enc rs) bl) (enc rs) s wh D).2.1 with cnt := s.cnt + 1 } (wrT fr (apT (enc rs) bl) (enc rs) s wh D).2.2.1 (wrT fr (apT (enc rs) bl) (enc rs) s wh D).2.2.2 := by
  obtain ⟨l1, l2, l3⟩ := h.len
  obtain ⟨a1, a2⟩ := h.append hl hb hr l2
  obtain ⟨a3, _⟩ := a2 _ rfl
  have hO := (h.ops hl).2
  have hm := h.hm
  have htl : (apT (enc rs) bl).length = (enc rs).length + (bl.length + 2) := by rw [apT_enc, enc_append, enc_one, List.length_append, enc1_length]
  have htt : enc rs <+: apT (enc rs) bl := by rw [apT_enc]; exact enc_prefix (List.prefix_append _ _)
  have hb2 : bl.length ≤ 200 := hb.2
  have hkm : (enc rs).length / 60 + (pcs (apT (enc rs) bl).length - (enc rs).length / 60) = pcs (apT (enc rs) bl).length := by unfold pcs; omega
  have hp : pcs (apT (enc rs) bl).length - (enc rs).length / 60 ≤ 298 := by unfold pcs; omega
  have key : (wrT fr (apT (enc rs) bl) (enc rs) s wh D).1 = 0 ∧ (∃ k, k ≤ 299 ∧ Rch fr mn D k (wrT fr (apT (enc rs) bl) (enc rs) s wh D).2.2.2) ∧ (wrT fr (apT (enc rs) bl) (enc rs) s wh D).2.1.lo = false := by
    by_cases hbg : s.bg = true
    · have eb : bgn s D = (0, s, D) := by unfold bgn; rw [if_pos hbg]
      have ew : wrT fr (apT (enc rs) bl) (enc rs) s wh D = wrL fr (apT (enc rs) bl) (pcs (apT (enc rs) bl).length - (enc rs).length / 60) ((enc rs).length / 60) s wh D := by unfold wrT; rw [eb, if_pos rfl]
      obtain ⟨r1, r2⟩ := wrL_rch (fr := fr) (rs0 := rs0) (Wh0 := Wh0) (tx := enc rs) (tt := apT (enc rs) bl) (mn := mn) (by omega) _ _ s wh D hf hkm (hO.lk htt)
      rw [ew]
      exact ⟨r1, ⟨_, by omega, r2⟩, (wrL_same _ _ _ _ _ _ _).2.1.trans hl⟩
    · by_cases hz : D.steps = 0
      · have eb : bgn s D = (0, { s with bg := true }, D) := by unfold bgn; rw [if_neg hbg, if_pos hz]
        have ew : wrT fr (apT (enc rs) bl) (enc rs) s wh D = wrL fr (apT (enc rs) bl) (pcs (apT (enc rs) bl).length - (enc rs).length / 60) ((enc rs).length / 60) { s with bg := true } wh D := by unfold wrT; rw [eb, if_pos rfl]
        have hO3 : LOps fr mn rs0 Wh0 (enc rs) { s with bg := true } wh D := ⟨hO.len, hO.nd, hO.rng, hO.old0, hO.sf, hO.stk, hO.stf, hO.whn, hO.saf⟩
        obtain ⟨r1, r2⟩ := wrL_rch (fr := fr) (rs0 := rs0) (Wh0 := Wh0) (tx := enc rs) (tt := apT (enc rs) bl) (mn := mn) (by omega) _ _ { s with bg := true } wh D hf hkm (hO3.lk htt)
        rw [ew]
        exact ⟨r1, ⟨_, by omega, r2⟩, (wrL_same _ _ _ _ _ _ _).2.1.trans hl⟩
      have eb : bgn s D = (0, { s with bg := true }, D.flush) := by
        unfold bgn flR
        rw [if_neg hbg, if_neg hz, if_neg (not_failing hf)]
        rfl
      have ew : wrT fr (apT (enc rs) bl) (enc rs) s wh D = wrL fr (apT (enc rs) bl) (pcs (apT (enc rs) bl).length - (enc rs).length / 60) ((enc rs).length / 60) { s with bg := true } wh D.flush := by unfold wrT; rw [eb, if_pos rfl]
      have hO2 := hO.flush h.d.dn (fun j hj => h.img.pf _ (.inl ⟨j, hj, by have := hO.sf; omega, rfl⟩))
      have hO3 : LOps fr mn rs0 Wh0 (enc rs) { s with bg := true } wh D.flush := ⟨hO2.len, hO2.nd, hO2.rng, hO2.old0, hO2.sf, hO2.stk, hO2.stf, hO2.whn, hO2.saf⟩
      obtain ⟨r1, r2⟩ := wrL_rch (fr := fr) (rs0 := rs0) (Wh0 := Wh0) (tx := enc rs) (tt := apT (enc rs) bl) (mn := mn) (by omega) _ _ { s with bg := true } wh D.flush hf hkm (hO3.lk htt)
      rw [ew]
      exact ⟨r1, ⟨_, by omega, (Rch.refl (D := D)).flush.trans r2⟩, (wrL_same _ _ _ _ _ _ _).2.1.trans hl⟩
  exact ⟨a1, key.1, key.2.1, key.2.2, a3 key.1⟩
/-- A Sync where the disk does not fail. -/
theorem LgI.firm (h : LgI fr mn since n P0 rs0 Wh0 rs rsA rsm s wh D) (hl : s.lo = false) (hf : D.fail < 0) :
    (snc fr s (enc rs) wh D).1 = 0 ∧ (∃ k, k ≤ 299 ∧ Rch fr mn D k (snc fr s (enc rs) wh D).2.2) ∧ (snc fr s (enc rs) wh D).2.1.lo = false ∧ LgI fr mn since n P0 rs0 Wh0 rs rs rs (snc fr s (enc rs) wh D).2.1 wh (snc fr s (enc rs) wh D).2.2 := by
  obtain ⟨a1, _⟩ := h.sync hl _ rfl
  obtain ⟨l1, l2, l3⟩ := h.len
  have hO := (h.ops hl).2
  have hsf := hO.sf
  have hln := hO.len
  obtain ⟨r1, j, hj, r2⟩ := flW_rch (fr := fr) (s := s) (tx := enc rs) (wh := wh) (mn := mn) hO.rng (wh.length - s.sf) s.sf D hf (by omega)
  have e : snc fr s (enc rs) wh D = (0, { s with sf := wh.length, old := 0 }, (flW fr s (enc rs) wh (wh.length - s.sf) s.sf D).2) := by
    unfold snc
    rw [if_neg (by simp [hl]), if_pos r1]
  have e1 : (snc fr s (enc rs) wh D).1 = 0 := by rw [e]
  refine ⟨e1, ?_, (a1 e1).2.1, (a1 e1).1⟩
  rw [e]
  exact ⟨j, by unfold pcs at hln; omega, r2⟩
theorem LgI.bounds (h : LgI fr mn since n P0 rs0 Wh0 rs rsA rsm s wh D) (hl : s.lo = false) (hn : n ≤ 200) : LgB n fr s (enc rs) wh := by
  obtain ⟨l1, l2, l3⟩ := h.len
  have hO := (h.ops hl).2
  have hln := hO.len
  have hnn := h.hn
  unfold pcs at hln
  exact ⟨hn, by omega, by omega, fun k hk => by have := hO.rng _ (lgD_mem hk); omega, by omega, h.sit, l2, hO.sf⟩
/-- Nothing is found where there is nothing. -/
theorem ri_none (m since : Nat) (P : Nat → Option Pc) (hP : ∀ a, P a = none) : RI m since P [] (whF m since P) ∧ catF m since P = [] ∧ allF m P = [] := by
  have e : P = fun _ => none := funext hP
  subst e
  have ha : allF m (fun _ => none) = [] := by
    unfold allF
    rw [List.filterMap_eq_nil_iff]
    intro a _
    rfl
  have hc : chF m since (fun _ => none) = [] := by
    unfold chF bsF
    rw [ha]
    rfl
  have hcat : catF m since (fun _ => none) = [] := by
    unfold catF
    rw [hc]
    rfl
  refine ⟨⟨(fun a q h => nomatch h), (fun a q h => nomatch h), fun P' hs _ => ?_⟩, hcat, ha⟩
  have e' : P' = fun _ => none := funext fun a => by
    cases hq : P' a with
    | none => rfl
    | some q => have := hs a q hq; cases this
  subst e'
  refine ⟨by rw [hcat]; rfl, rfl, (fun a q h => nomatch h), ?_⟩
  unfold vkF
  rw [ha]
  exact Nat.le_refl 0
end
end Go.Proofs.Ytijjegkkeigeoaa

namespace Go.Proofs.Ytijjegkkeigeoaa
set_option linter.unusedVariables false
set_option linter.unusedSimpArgs false

section
variable {fr mn since n j k : Nat} {P0 : Nat → Option Pc} {rs0 : List (List UInt8)} {Wh0 : List Nat} {rs rsA rsm : List (List UInt8)} {s : Ls} {wh : List Nat} {D D1 D2 D' : Dk} {tx tt bl : List UInt8}
theorem wrL_some (hr : tt.length ≤ (mn - 2) * 60) : ∀ (m k : Nat) (s : Ls) (wh : List Nat) (D : Dk), k + m = pcs tt.length → LK fr mn rs0 Wh0 tx tt k s wh D → ∃ j, j ≤ m ∧ Rch fr mn D j (wrL fr tt m k s wh D).2.2.2
  | 0, k, s, wh, D, _, _ => ⟨0, Nat.le_refl _, Rch.refl⟩
  | m + 1, k, s, wh, D, hkm, h => by
    have hk : k < pcs tt.length := by omega
    obtain ⟨g1, g2, g3, g4, _⟩ := h.place hk hr
    have hm' := g4 _ (lgD_mem g1)
    unfold wrL
    by_cases hf : D.failing = true
    · have e : wrR D (fr + (plc s wh k).2.getD k 0) (pcB (pcAt (plc s wh k).1 tt k)) = (7, D) := by unfold wrR; rw [if_pos hf]
      rw [e, if_neg (by simp)]
      exact ⟨0, Nat.zero_le _, Rch.refl⟩
    · have e : wrR D (fr + (plc s wh k).2.getD k 0) (pcB (pcAt (plc s wh k).1 tt k)) = (0, D.write (fr + (plc s wh k).2.getD k 0) (pcB (pcAt (plc s wh k).1 tt k))) := by unfold wrR; rw [if_neg hf]
      rw [e, if_pos rfl]
      obtain ⟨j, h1, h2⟩ := wrL_some hr m (k + 1) (plc s wh k).1 (plc s wh k).2 (D.write (fr + (plc s wh k).2.getD k 0) (pcB (pcAt (plc s wh k).1 tt k))) (by omega) ((h.next hk hr).disk rfl)
      exact ⟨0 + 1 + j, by omega, ((Rch.refl (fr := fr) (mn := mn) (D := D)).write (fr + (plc s wh k).2.getD k 0) (by omega) (by omega) (pcB (pcAt (plc s wh k).1 tt k))).trans h2⟩
theorem flW_some (hrg : ∀ a ∈ wh, 1 ≤ a ∧ a < mn) : ∀ (m k : Nat) (D : Dk), k + m = wh.length → ∃ j, j ≤ m + 1 ∧ Rch fr mn D j (flW fr s tx wh m k D).2
  | 0, k, D, _ => by
    unfold flW flR
    by_cases hf : D.failing = true
    · rw [if_pos hf]
      exact ⟨0, by omega, Rch.refl⟩
    · rw [if_neg hf]
      exact ⟨1, by omega, (Rch.refl (D := D)).flush⟩
  | m + 1, k, D, hkm => by
    have hm' := hrg _ (lgD_mem (l := wh) (i := k) (by omega))
    unfold flW
    by_cases hp : hasP D (fr + wh.getD k 0) (pcB (pcAt s tx k)) = true
    · rw [if_pos hp]
      obtain ⟨j, h1, h2⟩ := flW_some hrg m (k + 1) D (by omega)
      exact ⟨j, by omega, h2⟩
    rw [if_neg hp]
    by_cases hf : D.failing = true
    · have e : wrR D (fr + wh.getD k 0) (pcB (pcAt s tx k)) = (7, D) := by unfold wrR; rw [if_pos hf]
      rw [e, if_neg (by simp)]
      exact ⟨0, by omega, Rch.refl⟩
    · have e : wrR D (fr + wh.getD k 0) (pcB (pcAt s tx k)) = (0, D.write (fr + wh.getD k 0) (pcB (pcAt s tx k))) := by unfold wrR; rw [if_neg hf]
      rw [e, if_pos rfl]
      obtain ⟨j, h1, h2⟩ := flW_some hrg m (k + 1) (D.write (fr + wh.getD k 0) (pcB (pcAt s tx k))) (by omega)
      exact ⟨0 + 1 + j, by omega, ((Rch.refl (fr := fr) (mn := mn) (D := D)).write (fr + wh.getD k 0) (by omega) (by omega) (pcB (pcAt s tx k))).trans h2⟩
theorem wrL_sit (fr : Nat) (tt : List UInt8) : ∀ (m k : Nat) (s : Ls) (wh : List Nat) (D : Dk), (wrL fr tt m k s wh D).2.1.sit = s.sit
  | 0, k, s, wh, D => rfl
  | m + 1, k, s, wh, D => by
    have e := (plc_same s wh k).1
    unfold wrL
    split
    · exact (wrL_sit fr tt m (k + 1) _ _ _).trans e
    · exact e
/-- An Append, whatever the disk does. -/
theorem LgI.grows (h : LgI fr mn since n P0 rs0 Wh0 rs rsA rsm s wh D) (hl : s.lo = false) (hb : okR bl) (hr : bl.length + 2 ≤ (mn - 2) * 60 - (enc rs).length) :
    wrOk n fr (pcs (apT (enc rs) bl).length - (enc rs).length / 60) ((enc rs).length / 60) (bgn s D).2.1 wh ∧ (∃ k, k ≤ 299 ∧ Rch fr mn D k (wrT fr (apT (enc rs) bl) (enc rs) s wh D).2.2.2) ∧ (wrT fr (apT (enc rs) bl) (enc rs) s wh D).2.1.lo = false ∧ (wrT fr (apT (enc rs) bl) (enc rs) s wh D).2.1.sit = s.sit ∧
    (((wrT fr (apT (enc rs) bl) (enc rs) s wh D).1 = 0 ∧ LgI fr mn since n P0 rs0 Wh0 (rs ++ [bl]) (rs ++ [bl]) rsm { (wrT fr (apT (enc rs) bl) (enc rs) s wh D).2.1 with cnt := s.cnt + 1 } (wrT fr (apT (enc rs) bl) (enc rs) s wh D).2.2.1 (wrT fr (apT (enc rs) bl) (enc rs) s wh D).2.2.2) ∨
     ((wrT fr (apT (enc rs) bl) (enc rs) s wh D).1 = 7 ∧ LgI fr mn since n P0 rs0 Wh0 rs (rs ++ [bl]) rsm { (wrT fr (apT (enc rs) bl) (enc rs) s wh D).2.1 with lo := true } (wrT fr (apT (enc rs) bl) (enc rs) s wh D).2.2.1 (wrT fr (apT (enc rs) bl) (enc rs) s wh D).2.2.2)) := by
  obtain ⟨l1, l2, l3⟩ := h.len
  obtain ⟨a1, a2⟩ := h.append hl hb hr l2
  obtain ⟨a3, a4⟩ := a2 _ rfl
  have hO := (h.ops hl).2
  have htl : (apT (enc rs) bl).length = (enc rs).length + (bl.length + 2) := by rw [apT_enc, enc_append, enc_one, List.length_append, enc1_length]
  have htt : enc rs <+: apT (enc rs) bl := by rw [apT_enc]; exact enc_prefix (List.prefix_append _ _)
  have hb2 : bl.length ≤ 200 := hb.2
  have hkm : (enc rs).length / 60 + (pcs (apT (enc rs) bl).length - (enc rs).length / 60) = pcs (apT (enc rs) bl).length := by unfold pcs; omega
  have hp : pcs (apT (enc rs) bl).length - (enc rs).length / 60 ≤ 298 := by unfold pcs; omega
  have key : (∃ k, k ≤ 299 ∧ Rch fr mn D k (wrT fr (apT (enc rs) bl) (enc rs) s wh D).2.2.2) ∧ (wrT fr (apT (enc rs) bl) (enc rs) s wh D).2.1.lo = false ∧ (wrT fr (apT (enc rs) bl) (enc rs) s wh D).2.1.sit = s.sit := by
    by_cases hbg : s.bg = true
    · have eb : bgn s D = (0, s, D) := by unfold bgn; rw [if_pos hbg]
      have ew : wrT fr (apT (enc rs) bl) (enc rs) s wh D = wrL fr (apT (enc rs) bl) (pcs (apT (enc rs) bl).length - (enc rs).length / 60) ((enc rs).length / 60) s wh D := by unfold wrT; rw [eb, if_pos rfl]
      obtain ⟨j, r1, r2⟩ := wrL_some (fr := fr) (rs0 := rs0) (Wh0 := Wh0) (tx := enc rs) (tt := apT (enc rs) bl) (mn := mn) (by omega) _ _ s wh D hkm (hO.lk htt)
      rw [ew]
      exact ⟨⟨j, by omega, r2⟩, (wrL_same _ _ _ _ _ _ _).2.1.trans hl, wrL_sit _ _ _ _ _ _ _⟩
    · by_cases hz : D.steps = 0
      · have eb : bgn s D = (0, { s with bg := true }, D) := by unfold bgn; rw [if_neg hbg, if_pos hz]
        have ew : wrT fr (apT (enc rs) bl) (enc rs) s wh D = wrL fr (apT (enc rs) bl) (pcs (apT (enc rs) bl).length - (enc rs).length / 60) ((enc rs).length / 60) { s with bg := true } wh D := by unfold wrT; rw [eb, if_pos rfl]
        have hO3 : LOps fr mn rs0 Wh0 (enc rs) { s with bg := true } wh D := ⟨hO.len, hO.nd, hO.rng, hO.old0, hO.sf, hO.stk, hO.stf, hO.whn, hO.saf⟩
        obtain ⟨j, r1, r2⟩ := wrL_some (fr := fr) (rs0 := rs0) (Wh0 := Wh0) (tx := enc rs) (tt := apT (enc rs) bl) (mn := mn) (by omega) _ _ { s with bg := true } wh D hkm (hO3.lk htt)
        rw [ew]
        exact ⟨⟨_, by omega, r2⟩, (wrL_same _ _ _ _ _ _ _).2.1.trans hl, wrL_sit _ _ _ _ _ _ _⟩
      by_cases hf : D.failing = true
      · have eb : bgn s D = (7, { s with bg := false }, D) := by
          unfold bgn flR
          rw [if_neg hbg, if_neg hz, if_pos hf]
          rfl
        have ew : wrT fr (apT (enc rs) bl) (enc rs) s wh D = (7, { s with bg := false }, wh, D) := by unfold wrT; rw [eb, if_neg (by simp)]
        rw [ew]
        exact ⟨⟨0, by omega, Rch.refl⟩, hl, rfl⟩
      · have eb : bgn s D = (0, { s with bg := true }, D.flush) := by
          unfold bgn flR
          rw [if_neg hbg, if_neg hz, if_neg hf]
          rfl
        have ew : wrT fr (apT (enc rs) bl) (enc rs) s wh D = wrL fr (apT (enc rs) bl) (pcs (apT (enc rs) bl).length - (enc rs).length / 60) ((enc rs).length / 60) { s with bg := true } wh D.flush := by unfold wrT; rw [eb, if_pos rfl]
        have hO2 := hO.flush h.d.dn (fun j hj => h.img.pf _ (.inl ⟨j, hj, by have := hO.sf; omega, rfl⟩))
        have hO3 : LOps fr mn rs0 Wh0 (enc rs) { s with bg := true } wh D.flush := ⟨hO2.len, hO2.nd, hO2.rng, hO2.old0, hO2.sf, hO2.stk, hO2.stf, hO2.whn, hO2.saf⟩
        obtain ⟨j, r1, r2⟩ := wrL_some (fr := fr) (rs0 := rs0) (Wh0 := Wh0) (tx := enc rs) (tt := apT (enc rs) bl) (mn := mn) (by omega) _ _ { s with bg := true } wh D.flush hkm (hO3.lk htt)
        rw [ew]
        exact ⟨⟨_, by omega, (Rch.refl (D := D)).flush.trans r2⟩, (wrL_same _ _ _ _ _ _ _).2.1.trans hl, wrL_sit _ _ _ _ _ _ _⟩
  refine ⟨a1, key.1, key.2.1, key.2.2, ?_⟩
  rcases wrT_two fr (apT (enc rs) bl) (enc rs) s wh D with e | e
  · exact .inl ⟨e, a3 e⟩
  · exact .inr ⟨e, a4 (by rw [e]; decide)⟩
/-- A Sync, whatever the disk does. -/
theorem LgI.firms (h : LgI fr mn since n P0 rs0 Wh0 rs rsA rsm s wh D) (hl : s.lo = false) :
    (∃ k, k ≤ 299 ∧ Rch fr mn D k (snc fr s (enc rs) wh D).2.2) ∧ (snc fr s (enc rs) wh D).2.1.sit = s.sit ∧
    (((snc fr s (enc rs) wh D).1 = 0 ∧ (snc fr s (enc rs) wh D).2.1.lo = false ∧ LgI fr mn since n P0 rs0 Wh0 rs rs rs (snc fr s (enc rs) wh D).2.1 wh (snc fr s (enc rs) wh D).2.2) ∨
     ((snc fr s (enc rs) wh D).1 = 7 ∧ LgI fr mn since n P0 rs0 Wh0 rs rsA rsm (snc fr s (enc rs) wh D).2.1 wh (snc fr s (enc rs) wh D).2.2)) := by
  obtain ⟨a1, a2⟩ := h.sync hl _ rfl
  obtain ⟨l1, l2, l3⟩ := h.len
  have hO := (h.ops hl).2
  have hsf := hO.sf
  have hln := hO.len
  obtain ⟨j, r1, r2⟩ := flW_some (fr := fr) (s := s) (tx := enc rs) (wh := wh) (mn := mn) hO.rng (wh.length - s.sf) s.sf D (by omega)
  by_cases hz : (flW fr s (enc rs) wh (wh.length - s.sf) s.sf D).1 = 0
  · have e : snc fr s (enc rs) wh D = (0, { s with sf := wh.length, old := 0 }, (flW fr s (enc rs) wh (wh.length - s.sf) s.sf D).2) := by
      unfold snc
      rw [if_neg (by simp [hl]), if_pos hz]
    have e1 : (snc fr s (enc rs) wh D).1 = 0 := by rw [e]
    refine ⟨?_, by rw [e], .inl ⟨e1, (a1 e1).2.1, (a1 e1).1⟩⟩
    rw [e]
    exact ⟨j, by unfold pcs at hln; omega, r2⟩
  · have e : snc fr s (enc rs) wh D = (7, { s with lo := true }, (flW fr s (enc rs) wh (wh.length - s.sf) s.sf D).2) := by
      unfold snc
      rw [if_neg (by simp [hl]), if_neg hz]
    have e1 : (snc fr s (enc rs) wh D).1 = 7 := by rw [e]
    refine ⟨?_, by rw [e], .inr ⟨e1, (a2 (by rw [e1]; decide)).1⟩⟩
    rw [e]
    exact ⟨j, by unfold pcs at hln; omega, r2⟩
theorem newestF_most (since : Nat) (m : Nat) (l : List (Nat × Pc)) (h0 : since - 1 ≤ m) (h : ∀ p ∈ l, p.2.sit ≤ m) : newestF since l ≤ m := by
  unfold newestF
  generalize since - 1 = b at *
  induction l generalizing b with
  | nil => exact h0
  | cons p l ih =>
    rw [List.foldl_cons]
    exact ih (fun q hq => h q (by simp [hq])) (max b p.2.sit) (by have := h p (by simp); omega)
theorem imgF_dom (fr mn : Nat) (D : Dk) : Dom mn (imgF fr mn D) := fun a q e => by
  unfold imgF at e
  split at e
  · assumption
  · cases e
/-- Behind a Crash it is opened again. -/
theorem LgI.reopen (h : LgI fr mn 1 n P0 rs0 Wh0 rs rsA rsm s wh D) (hs : s.sit < 65000) {mk : List Bool} {torn : Int} (hnow : D'.now = crashS mk torn 0 D.chg D.safe) (hsafe : D'.safe = D'.now) (hchg : D'.chg = []) (hlen : D'.now.length = n) :
    ∃ rs', rsm <+: rs' ∧ rs' <+: rsA ∧ recs (catF mn 1 (imgF fr mn D')) = rs' ∧ newestF 1 (allF mn (imgF fr mn D')) ≤ s.sit ∧
      LgI fr mn 1 n (imgF fr mn D') rs' (whF mn 1 (imgF fr mn D')) rs' rs' rs' ⟨rs'.length, newestF 1 (allF mn (imgF fr mn D')) + 1, (enc rs').length / 60, pcs (enc rs').length, 0, true, false, false⟩ (whF mn 1 (imgF fr mn D')) D' := by
  obtain ⟨rs', h1, h2, h3, h4⟩ := h.crash hnow
  have hd : DOk D' n := ⟨hlen, fun i => .inl (by rw [hsafe]), fun c hc => by rw [hchg] at hc; simp at hc⟩
  have hnl : newestF 1 (allF mn (imgF fr mn D')) ≤ s.sit := newestF_most 1 s.sit _ (by omega) (fun p hp => h4 p.1 p.2 ((mem_allF (imgF_dom fr mn D') p.1 p.2).1 hp))
  have hle := (enc_prefix h2).length_le
  refine ⟨rs', h1, h2, h3.good.rc, hnl, ?_⟩
  refine LgI.start h3 (fun a _ _ c hc => by rw [hchg] at hc; simp at hc) hd (by omega) (fun r hr => h.ok r (h2.subset hr)) (by have := h.room; omega) h.hn h.hm (by omega) (fun a q e => ?_) (by omega)
  have := (newestF_ge 1 (allF mn (imgF fr mn D'))).2 (a, q) ((mem_allF (imgF_dom fr mn D') a q).2 e)
  simp only at this
  omega
/-- The head of an area is there, whatever is lost. -/
def Hd0 (fr : Nat) (b : Bk) (D : Dk) : Prop := D.now.getD fr bk0 = b ∧ D.safe.getD fr bk0 = b ∧ Fm D fr
theorem Rch.head (h : Rch fr mn D k D') {b : Bk} (h0 : Hd0 fr b D) : Hd0 fr b D' := by
  refine Rch.go (motive := fun _ D' => Hd0 fr b D') h0 (fun k D' ih i h1 h2 l => ?_) (fun k D' ih => ?_) k D' h
  · refine ⟨?_, ih.2.1, fm_write ih.2.2 (by omega)⟩
    show (D'.now.set i _).getD fr bk0 = _
    rw [getD_set_bk, if_neg (by omega)]
    exact ih.1
  · exact ⟨ih.1, ih.1, fm_flush _ _⟩
theorem Hd0.crash {b : Bk} (h0 : Hd0 fr b D) {mk : List Bool} {torn : Int} (hnow : D'.now = crashS mk torn 0 D.chg D.safe) (hsafe : D'.safe = D'.now) (hchg : D'.chg = []) : Hd0 fr b D' := by
  have e : D'.now.getD fr bk0 = b := by rw [hnow, crashS_fm mk torn fr D.chg 0 D.safe h0.2.2]; exact h0.2.1
  exact ⟨e, by rw [hsafe]; exact e, fun c hc => by rw [hchg] at hc; simp at hc⟩
end
end Go.Proofs.Ytijjegkkeigeoaa
