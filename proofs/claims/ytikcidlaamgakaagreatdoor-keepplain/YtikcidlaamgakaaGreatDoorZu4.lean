/-
  A piece in memory; the contract of readPiece.
-/
import Derived.Test.YtikcidlaamgakaaGreatDoorZu3
import Derived.Laws.ResultCell
import Derived.Deep.RegionHeld3
import Derived.Deep.WholeRow
namespace Go.Proofs.YtikcidlaamgakaaGreatDoor
set_option linter.unusedVariables false
set_option linter.unusedSimpArgs false

/-- A sitting, and what may be there of it. -/
structure Sit (m since : Nat) (P0 : Nat → Option Pc) (rs0 : List (List UInt8)) (Wh0 : List Nat) (s : Nat) (T : List UInt8) (P : Nat → Option Pc) : Prop where
  R : RI m since P0 rs0 Wh0
  old : ∀ a q, P0 a = some q → q.sit < s
  h1 : 1 ≤ since
  h2 : since ≤ s
  t0 : enc rs0 <+: T
  tm : T.length ≤ 12000
  D : Drawn m P0 s ((enc rs0).length / 60) (enc rs0).length T P
  keep : ∀ n, n < (enc rs0).length / 60 → P (Wh0.getD n 0) = P0 (Wh0.getD n 0)
section
variable {m since : Nat} {P0 : Nat → Option Pc} {rs0 : List (List UInt8)} {Wh0 : List Nat} {s : Nat} {T : List UInt8} {P : Nat → Option Pc}
theorem Sit.short (h : Sit m since P0 rs0 Wh0 s T P) : ∀ a q, P a = some q → q.byt.length ≤ 60 := h.D.short h.R.short
theorem Sit.vk (h : Sit m since P0 rs0 Wh0 s T P) (hf : ∃ a q, P a = some q ∧ q.sit = s ∧ q.fst = true) : vkF m since P = (s, (enc rs0).length / 60) := by
  obtain ⟨a, q, ha, hq, hqf⟩ := hf
  have h1 := h.h1
  have h2 := h.h2
  obtain ⟨g1, g2, g3⟩ := vk_spec (since := since) h.D.dom
  have g4 := g2 a q ha hqf
  rcases g3 with e | ⟨b, p, hb, hpf, e1, e2, e3⟩
  · rw [e] at g4
    simp only at g4
    omega
  · rcases h.D.each b p hb with k | k
    · have := h.old b p k
      omega
    · have k1 := k.sit
      have k2 := k.fst.1 hpf
      rw [← k1, ← k2]
      exact Prod.ext e1.symm e2.symm
/-- The pieces ahead of it are as they were. -/
theorem Sit.ahead (h : Sit m since P0 rs0 Wh0 s T P) (hv : vkF m since P = (s, (enc rs0).length / 60)) (n : Nat) (hn : n < (enc rs0).length / 60) : ∃ q, bsF m since P n = some (Wh0.getD n 0, q) ∧ P0 (Wh0.getD n 0) = some q ∧ q.byt = ((enc rs0).drop (60 * n)).take 60 ∧ q.byt.length = 60 := by
  have g := h.R.good
  obtain ⟨_, hp⟩ := g.piece h.R.dom h.R.short
  obtain ⟨q, e1, e2, e3⟩ := hp n (by unfold pcs; omega)
  have hl := h.R.short _ _ e2
  have he : ((enc rs0).drop (60 * n)).take 60 = q.byt := e3.eq_of_length (by
    have := e3.length_le
    rw [List.length_take, List.length_drop] at this ⊢
    omega)
  have h60 : q.byt.length = 60 := by
    rw [← he, List.length_take, List.length_drop]
    omega
  refine ⟨q, ?_, e2, he.symm, h60⟩
  obtain ⟨b1, b2, b3, b4⟩ := best_some h.R.dom e1
  refine best_of h.D.dom ⟨(h.keep n hn).trans e2, b2, ?_, fun b p hb f1 f2 => ?_⟩
  · rw [hv]
    unfold cntF at b3 ⊢
    simp only [Bool.and_eq_true, decide_eq_true_eq] at b3
    rw [decide_eq_true (show q.num < (s, (enc rs0).length / 60).2 by simp only; omega), decide_eq_true b3.2]
    rfl
  · have hold : P0 b = some p := by
      rcases h.D.each b p hb with k | k
      · exact k
      · have := k.num; omega
    by_cases hc : cntF since (vkF m since P0) p = true
    · exact b4 b p hold f1 hc
    · have hgb := g.gb b p hold
      unfold cntF at b3 hc f2
      simp only [Bool.and_eq_true, Bool.or_eq_true, decide_eq_true_eq] at b3 hc f2
      have hlt : p.sit < q.sit := by
        have hq : ¬ q.num < (vkF m since P0).2 := fun e => hc ⟨.inl (by omega), f2.2⟩
        have hq2 : q.sit = (vkF m since P0).1 := b3.1.resolve_left hq
        have hp1 : ¬ p.sit = (vkF m since P0).1 := fun e => hc ⟨.inr e, f2.2⟩
        have hp2 : ¬ (vkF m since P0).1 < p.sit := fun e => by have := hgb e; omega
        omega
      exact ⟨over_false.2 (by omega), fun _ => over_true.2 (.inl hlt)⟩
/-- Those behind are its own. -/
theorem Sit.behind (h : Sit m since P0 rs0 Wh0 s T P) (hv : vkF m since P = (s, (enc rs0).length / 60)) {n : Nat} (hn : (enc rs0).length / 60 ≤ n) {q : Pc} {a : Nat} (e : P a = some q) (hq : q.num = n) (hc : cntF since (vkF m since P) q = true) : NewP s ((enc rs0).length / 60) (enc rs0).length T q := by
  rw [hv] at hc
  unfold cntF at hc
  simp only [Bool.and_eq_true, Bool.or_eq_true, decide_eq_true_eq] at hc
  have hs : q.sit = s := hc.1.resolve_left (by omega)
  rcases h.D.each a q e with k | k
  · have := h.old a q k; omega
  · exact k
theorem Sit.counts (h : Sit m since P0 rs0 Wh0 s T P) (hv : vkF m since P = (s, (enc rs0).length / 60)) {q : Pc} (hs : q.sit = s) : cntF since (vkF m since P) q = true := by
  have := h.h2
  rw [hv]
  unfold cntF
  simp only [Bool.and_eq_true, Bool.or_eq_true, decide_eq_true_eq]
  exact ⟨.inr hs, by omega⟩
theorem Sit.upper (h : Sit m since P0 rs0 Wh0 s T P) (hv : vkF m since P = (s, (enc rs0).length / 60)) : catF m since P <+: T := by
  have hT := h.t0
  have := chain_text (b := bsF m since P) (T := T) 200 0 (fun i p _ hp => by
    obtain ⟨a, q⟩ := p
    have hb := best_some h.D.dom hp
    by_cases hi : i < (enc rs0).length / 60
    · obtain ⟨q', e1, e2, e3, e4⟩ := h.ahead hv i hi
      rw [hp] at e1
      cases e1
      refine ⟨?_, by show q.byt.length ≤ 60; omega⟩
      show q.byt <+: _
      rw [e3]
      obtain ⟨z, rfl⟩ := hT
      rw [List.drop_append_of_le_length (by omega)]
      exact (List.take_prefix _ _).trans (List.prefix_append _ _)
    · have k := h.behind hv (n := i) (by omega) hb.1 hb.2.1 hb.2.2.1
      have := k.byt
      rw [hb.2.1] at this
      exact ⟨this, k.l2⟩)
  rwa [Nat.mul_zero, List.drop_zero] at this
/-- A text of which each piece is there. -/
theorem Sit.lower (h : Sit m since P0 rs0 Wh0 s T P) (hv : vkF m since P = (s, (enc rs0).length / 60)) {S : List UInt8} (hS : S <+: T) (h0 : enc rs0 <+: S) (hl : ∀ n, (enc rs0).length / 60 ≤ n → 60 * n < S.length → ∃ a q, P a = some q ∧ q.sit = s ∧ q.num = n ∧ (S.length ≤ 60 * n + q.byt.length ∨ q.byt.length = 60)) : S <+: catF m since P := by
  have hT := h.t0
  have htm := h.tm
  have hsl := hS.length_le
  have := chain_ge (b := bsF m since P) (S := S) (RI.shortB h.D.dom h.short) 200 0 (fun i _ hi => by
    by_cases hi2 : i < (enc rs0).length / 60
    · obtain ⟨q, e1, e2, e3, e4⟩ := h.ahead hv i hi2
      refine ⟨_, e1, ?_⟩
      show _ <+: q.byt
      rw [e3]
      obtain ⟨z, rfl⟩ := h0
      rw [List.drop_append_of_le_length (by omega), List.take_append_of_le_length (by rw [List.length_drop]; omega)]
      exact List.prefix_refl _
    · obtain ⟨a, q, e1, e2, e3, e4⟩ := hl i (by omega) hi
      have hc := h.counts hv e2
      cases e : bsF m since P i with
      | none => have := best_none h.D.dom e a q e1 e3; rw [hc] at this; cases this
      | some x =>
        obtain ⟨b, p⟩ := x
        obtain ⟨b1, b2, b3, b4⟩ := best_some h.D.dom e
        have ho := over_false.1 (b4 a q e1 e3 hc).1
        have k := h.behind hv (n := i) (by omega) b1 b2 b3
        have kb := k.byt
        have ks := k.sit
        rw [b2] at kb
        refine ⟨_, rfl, ?_⟩
        show _ <+: p.byt
        obtain ⟨z, rfl⟩ := hS
        rw [List.drop_append_of_le_length (by omega)] at kb
        refine List.prefix_of_prefix_length_le ((List.take_prefix _ _).trans (List.prefix_append _ _)) kb ?_
        rw [List.length_take, List.length_drop]
        have := h.short a q e1
        omega) (by omega)
  rwa [Nat.mul_zero, List.drop_zero] at this
theorem Sit.sub (h : Sit m since P0 rs0 Wh0 s T P) {P' : Nat → Option Pc} (hs : SubI P' P) (hk : ∀ n, n < (enc rs0).length / 60 → P' (Wh0.getD n 0) = P (Wh0.getD n 0)) : Sit m since P0 rs0 Wh0 s T P' :=
  ⟨h.R, h.old, h.h1, h.h2, h.t0, h.tm, h.D.sub hs, fun n hn => (hk n hn).trans (h.keep n hn)⟩
end
theorem enc_short {rs ss : List (List UInt8)} (h : rs <+: ss) (hl : (enc ss).length ≤ (enc rs).length) : rs = ss := by
  obtain ⟨t, rfl⟩ := h
  rw [enc_append, List.length_append] at hl
  cases t with
  | nil => simp
  | cons r t =>
    rw [enc_cons, List.length_append, enc1_length] at hl
    omega
theorem lgD_mem {l : List Nat} {i : Nat} (h : i < l.length) : l.getD i 0 ∈ l := by
  rw [List.getD_eq_getElem?_getD, List.getElem?_eq_getElem h]
  exact List.getElem_mem h
/-- What is found behind a sitting, whatever was lost. -/
theorem Sit.main {m since : Nat} {P0 : Nat → Option Pc} {rs0 : List (List UInt8)} {Wh0 : List Nat} {s : Nat} {rs rsm : List (List UInt8)} {P : Nat → Option Pc} (h : Sit m since P0 rs0 Wh0 s (enc rs) P) (hk : okL rs) (hm : rsm <+: rs) (h0 : rs0 <+: rsm)
    (hfirm : (enc rs0).length < (enc rsm).length → ∀ n, (enc rs0).length / 60 ≤ n → 60 * n < (enc rsm).length → ∃ a q, P a = some q ∧ q.sit = s ∧ q.num = n ∧ ((enc rsm).length ≤ 60 * n + q.byt.length ∨ q.byt.length = 60))
    (hopen : (enc rsm).length = (enc rs0).length → ∀ a ∈ Wh0, P a = P0 a) : ∃ rs', rsm <+: rs' ∧ rs' <+: rs ∧ RI m since P rs' (whF m since P) ∧ ∀ a q, P a = some q → q.sit ≤ s := by
  have hsit : ∀ a q, P a = some q → q.sit ≤ s := fun a q e => by
    rcases h.D.each a q e with k | k
    · have := h.old a q k; omega
    · have := k.sit; omega
  have h0l := (enc_prefix h0).length_le
  by_cases hf : ∃ a q, P a = some q ∧ q.sit = s ∧ q.fst = true
  · have hv := h.vk hf
    have hup := h.upper hv
    have hlow : enc rsm <+: catF m since P := h.lower hv (enc_prefix hm) (enc_prefix h0) (fun n hn hl => by
      by_cases hfm : (enc rs0).length < (enc rsm).length
      · exact hfirm hfm n hn hl
      · obtain ⟨a, q, ha, hq, hqf⟩ := hf
        have k : NewP s ((enc rs0).length / 60) (enc rs0).length (enc rs) q := by
          rcases h.D.each a q ha with k | k
          · have := h.old a q k; omega
          · exact k
        have k1 := k.fst.1 hqf
        exact ⟨a, q, ha, hq, by omega, .inl (by have := k.l0 k1; omega)⟩)
    obtain ⟨hb1, hb2⟩ := recs_between hk (okL_prefix hm hk) hlow hup
    obtain ⟨rs', hrs'⟩ : ∃ rs', recs (catF m since P) = rs' := ⟨_, rfl⟩
    rw [hrs'] at hb1 hb2
    have hrc : enc rs' <+: catF m since P := by rw [← hrs']; exact enc_recs _
    have h0' : rs0 <+: rs' := h0.trans hb1
    have h0l' := (enc_prefix h0').length_le
    have hg : GoodI m since P rs' (whF m since P) := ⟨hrs', rfl, fun a q e hx => by
      have := hsit a q e
      rw [hv] at hx
      simp only at hx
      omega, by rw [hv]; simp only; omega⟩
    obtain ⟨hwl, hpc⟩ := hg.piece h.D.dom h.short
    have hWh : ∀ n, n < (enc rs0).length / 60 → (whF m since P).getD n 0 = Wh0.getD n 0 ∧ n < (whF m since P).length := fun n hn => by
      have hn2 : n < pcs (enc rs').length := by unfold pcs; omega
      obtain ⟨q, e1, _⟩ := hpc n hn2
      obtain ⟨q', e2, _⟩ := h.ahead hv n hn
      have e3 := Option.some.inj (e1.symm.trans e2)
      exact ⟨congrArg Prod.fst e3, by rw [hwl]; exact hn2⟩
    refine ⟨rs', hb1, hb2, ⟨h.D.dom, h.short, fun P'' hsub hkeep => ?_⟩, hsit⟩
    have hS'' := h.sub hsub (fun n hn => by
      obtain ⟨e, hlt⟩ := hWh n hn
      rw [← e]
      exact hkeep _ (lgD_mem hlt))
    by_cases hf'' : ∃ a q, P'' a = some q ∧ q.sit = s ∧ q.fst = true
    · have hv'' := hS''.vk hf''
      have hlow'' : enc rs' <+: catF m since P'' := hS''.lower hv'' (enc_prefix hb2) (enc_prefix h0') (fun n hn hl => by
        have hn2 : n < pcs (enc rs').length := by unfold pcs; omega
        obtain ⟨q, e1, e2, e3⟩ := hpc n hn2
        obtain ⟨b1, b2, b3, b4⟩ := best_some h.D.dom e1
        have k := h.behind hv (n := n) hn b1 b2 b3
        refine ⟨_, q, (hkeep _ (lgD_mem (by rw [hwl]; exact hn2))).trans e2, k.sit, b2, ?_⟩
        have := e3.length_le
        rw [List.length_take, List.length_drop] at this
        have := k.l2
        omega)
      have hle : catF m since P'' <+: catF m since P := chain_le (RI.shortB h.D.dom h.short) 200 0 (fun i p'' _ hp'' => by
        obtain ⟨a'', q''⟩ := p''
        obtain ⟨c1, c2, c3, c4⟩ := best_some hS''.D.dom hp''
        by_cases hi : i < (enc rs0).length / 60
        · obtain ⟨q, e1, e2, e3, e4⟩ := h.ahead hv i hi
          obtain ⟨q2, f1, f2, f3, f4⟩ := hS''.ahead hv'' i hi
          rw [hp''] at f1
          cases f1
          refine ⟨_, e1, ?_⟩
          show q''.byt <+: q.byt
          rw [f3, e3]
          exact List.prefix_refl _
        · have k'' := hS''.behind hv'' (n := i) (by omega) c1 c2 c3
          have hcP := h.counts hv k''.sit
          cases e : bsF m since P i with
          | none => have := best_none h.D.dom e a'' q'' (hsub _ _ c1) c2; rw [hcP] at this; cases this
          | some x =>
            obtain ⟨b, p⟩ := x
            obtain ⟨b1, b2, b3, b4⟩ := best_some h.D.dom e
            have ho := over_false.1 (b4 a'' q'' (hsub _ _ c1) c2 hcP).1
            have k := h.behind hv (n := i) (by omega) b1 b2 b3
            have kb := k.byt
            have kb'' := k''.byt
            have ks := k.sit
            have ks'' := k''.sit
            rw [b2] at kb
            rw [c2] at kb''
            refine ⟨_, rfl, ?_⟩
            exact List.prefix_of_prefix_length_le kb'' kb (by show q''.byt.length ≤ p.byt.length; omega))
      have hrc'' : recs (catF m since P'') = rs' := by
        have := recs_less hle (by rw [hrs']; exact hlow'')
        rw [this, hrs']
      refine ⟨hrc'', ?_, fun a q e hx => ?_, by rw [hv'']; simp only; omega⟩
      · unfold whF
        rw [hrc'', hrs']
        congr 1
        refine chainF_take 200 0 _ (fun i _ hi => ?_)
        have hi2 : i < pcs (enc rs').length := by omega
        obtain ⟨q, e1, e2, e3⟩ := hpc i hi2
        obtain ⟨b1, b2, b3, b4⟩ := best_some h.D.dom e1
        rw [e1]
        refine best_of hS''.D.dom ⟨(hkeep _ (lgD_mem (by rw [hwl]; exact hi2))).trans e2, b2, by rw [hv'', ← hv]; exact b3, fun b p hb f1 f2 => b4 b p (hsub b p hb) f1 (by rw [hv, ← hv'']; exact f2)⟩
      · have := hsit a q (hsub a q e)
        rw [hv''] at hx
        simp only at hx
        omega
    · have hno : ∀ a q, P'' a = some q → q.sit = s → q.fst = false := fun a q e hq => by
        cases hh : q.fst with
        | false => rfl
        | true => exact absurd ⟨a, q, e, hq, hh⟩ hf''
      have hst : ¬ (enc rs0).length / 60 < pcs (enc rs').length := fun hlt => by
        obtain ⟨q, e1, e2, e3⟩ := hpc _ hlt
        obtain ⟨b1, b2, b3, b4⟩ := best_some h.D.dom e1
        have k := h.behind hv (Nat.le_refl _) b1 b2 b3
        have e'' := (hkeep _ (lgD_mem (by rw [hwl]; exact hlt))).trans e2
        have := hno _ _ e'' k.sit
        rw [k.fst.2 b2] at this
        cases this
      have hlen : (enc rs').length = (enc rs0).length ∧ (enc rs0).length = 60 * ((enc rs0).length / 60) := by unfold pcs at hst; omega
      have hrr : rs0 = rs' := enc_short h0' (by omega)
      have g0 := h.R.good
      obtain ⟨hw0, _⟩ := g0.piece h.R.dom h.R.short
      have hp0 : pcs (enc rs0).length = (enc rs0).length / 60 := by unfold pcs; omega
      have hkeep0 : ∀ a ∈ Wh0, P'' a = P0 a := fun a ha => by
        obtain ⟨i, hi, rfl⟩ := List.getElem_of_mem ha
        have hi2 : i < (enc rs0).length / 60 := by omega
        have := hS''.keep i hi2
        rw [List.getD_eq_getElem?_getD, List.getElem?_eq_getElem hi] at this
        exact this
      have hgood := ext_good h.R h.old h.h1 h.h2 hS''.D hno hkeep0
      have hWW : Wh0 = whF m since P := by
        refine List.ext_getElem? (fun i => ?_)
        by_cases hi : i < (enc rs0).length / 60
        · obtain ⟨e, hlt⟩ := hWh i hi
          have hi0 : i < Wh0.length := by omega
          rw [List.getElem?_eq_getElem hi0, List.getElem?_eq_getElem hlt]
          rw [List.getD_eq_getElem?_getD, List.getD_eq_getElem?_getD, List.getElem?_eq_getElem hi0, List.getElem?_eq_getElem hlt] at e
          exact congrArg some e.symm
        · rw [List.getElem?_eq_none (by omega), List.getElem?_eq_none (by rw [hwl]; unfold pcs; omega)]
      rw [← hrr, ← hWW]
      exact hgood
  · have hno : ∀ a q, P a = some q → q.sit = s → q.fst = false := fun a q e hq => by
      cases hh : q.fst with
      | false => rfl
      | true => exact absurd ⟨a, q, e, hq, hh⟩ hf
    have hnf : ¬ (enc rs0).length < (enc rsm).length := fun hfm => by
      obtain ⟨a, q, e1, e2, e3, _⟩ := hfirm hfm ((enc rs0).length / 60) (Nat.le_refl _) (by omega)
      have k : NewP s ((enc rs0).length / 60) (enc rs0).length (enc rs) q := by
        rcases h.D.each a q e1 with k | k
        · have := h.old a q k; omega
        · exact k
      have := hno a q e1 e2
      rw [k.fst.2 e3] at this
      cases this
    have hrr : rs0 = rsm := enc_short h0 (by omega)
    have hkeep := hopen (by omega)
    have hgood := ext_good h.R h.old h.h1 h.h2 h.D hno hkeep
    refine ⟨rs0, by rw [hrr]; exact List.prefix_refl _, h0.trans hm, ⟨h.D.dom, h.short, fun P'' hsub hk'' => ?_⟩, hsit⟩
    rw [hgood.wh] at hk'' ⊢
    exact ext_good h.R h.old h.h1 h.h2 (h.D.sub hsub) (fun a q e => hno a q (hsub a q e)) (fun a ha => (hk'' a ha).trans (hkeep a ha))
end Go.Proofs.YtikcidlaamgakaaGreatDoor

namespace Go.Proofs.YtikcidlaamgakaaGreatDoor
set_option linter.unusedVariables false
set_option linter.unusedSimpArgs false
set_option maxRecDepth 100000
open Go.RowKit Go.Lib

theorem word_any (a : Option Addr) (l : List UInt8) (cap : Nat) (w : World) (h : IsBy w a l cap) (hl : 2 ≤ l.length) (hm : l.length ≤ 1000000) :
    Calls Tryz.prog 54 #[.slice a l.length cap] w fun e w' => e = .returned (.int .i64 (wordN l : Nat)) ∧ Still w w' := by
  rcases h.lies with e | ⟨b, off, rfl, hlt, hc⟩
  · subst e; simp at hl
  have c0 := hc 0 (by omega)
  have c1 := hc 1 (by omega)
  rw [Nat.add_zero] at c0
  have l0 : (0 : Int) < l.length := by omega
  have l1 : (1 : Int) < l.length := by omega
  have l2 : (l.length : Int) ≤ 1000000 := by omega
  have ew : wordN l = (l[0]'(by omega)).toNat * 256 + (l[1]'(by omega)).toNat := by
    unfold wordN
    rw [List.getD_eq_getElem?_getD, List.getD_eq_getElem?_getD, List.getElem?_eq_getElem (by omega), List.getElem?_eq_getElem (by omega)]
    rfl
  have hx := (l[0]'(by omega)).toNat_lt
  have hy := (l[1]'(by omega)).toNat_lt
  generalize (l[0]'(by omega)).toNat = x at *
  generalize (l[1]'(by omega)).toNat = y at *
  have ho := or_byte x y (by omega) (by omega)
  rw [ew]
  obtain ⟨z, hz⟩ : ∃ z, x * 256 + y = z := ⟨_, rfl⟩
  rw [hz] at ho ⊢
  have x0 : (0 : Int) ≤ x := by omega
  have x1 : (x : Int) < 256 := by omega
  have y0 : (0 : Int) ≤ y := by omega
  have y1 : (y : Int) < 256 := by omega
  clear h hc ew hz hl hm hx hy
  generalize l.length = L at *
  go_enter Tryz.func54, Tryz.ntmps54
  go_wp2_with fail
  go_quiet (fail)
  rename Nat => nq
  go_wp2
  go_ret
  exact ⟨rfl, Still.drewN _ _⟩
theorem u8_hi (n : Nat) (h : n < 65536) : IntKind.u8.wrap ((n : Int) / 256) = ((UInt8.ofNat (n / 256)).toNat : Int) := by
  rw [UInt8.toNat_ofNat', IntKind.wrap_u8]; omega
theorem u8_lo (n : Nat) : IntKind.u8.wrap (n : Int) = ((UInt8.ofNat n).toNat : Int) := by
  rw [UInt8.toNat_ofNat', IntKind.wrap_u8]; omega
/-- A number of two bytes. -/
def w2B (n : Nat) : List UInt8 := [UInt8.ofNat (n / 256), UInt8.ofNat n]
theorem addWord_any (base : Nat) (v : Value) (l : List UInt8) (n : Nat) (w : World) (h : ByRow w base v l) (hb : base ≤ w.heap.size) (hl : l.length ≤ 100000) (hn : n < 65536) :
    Calls Tryz.prog 48 #[v, .int .i64 (n : Int)] w fun e w' => ∃ v', e = .returned v' ∧ Hid (ByRow w' base v' (l ++ w2B n)) ∧ Hid (Below base w w') ∧ Hid (∀ b, b < w.heap.size → v.ownBlock ≠ some b → w'.heap[b]? = w.heap[b]?) ∧ Hid (∀ j, v'.ownBlock = some j → v.ownBlock = some j ∨ w.heap.size ≤ j) := by
  have HR : Hid (ByRow w base v l) := h
  obtain ⟨av, cv, rfl, _⟩ := h.isBy
  have hi := u8_hi n hn
  have hlo := u8_lo n
  have n0 : (0 : Int) ≤ n := by omega
  have n1 : (n : Int) < 65536 := by omega
  obtain ⟨x1, hx1⟩ : ∃ x1 : Int, ((UInt8.ofNat (n / 256)).toNat : Int) = x1 := ⟨_, rfl⟩
  obtain ⟨x2, hx2⟩ : ∃ x2 : Int, ((UInt8.ofNat n).toNat : Int) = x2 := ⟨_, rfl⟩
  rw [hx1] at hi
  rw [hx2] at hlo
  have HX : Hid ((byC (w2B n)).toArray = #[.int .u8 x1, .int .u8 x2]) := by
    rw [← hx1, ← hx2]; rfl
  clear hx1 hx2
  have hb1 : Below w.heap.size w (w.alloc (.cells #[.int .u8 x1, .int .u8 x2] 5)) := (Below.refl _ w).alloc (Nat.le_refl _) _
  have HB1 : Hid (Below w.heap.size w (w.alloc (.cells #[.int .u8 x1, .int .u8 x2] 5))) := hb1
  have HR1 : Hid (ByRow (w.alloc (.cells #[.int .u8 x1, .int .u8 x2] 5)) base (.slice av l.length cv) l) := HR.out.below hb1
  have HN1 : Hid (IsBy (w.alloc (.cells #[.int .u8 x1, .int .u8 x2] 5)) (some ⟨w.heap.size, 0, none⟩) (w2B n) 2) := by
    have := isBy_new w (w2B n)
    rw [HX.out] at this
    exact this
  have hsz : (w.alloc (.cells #[.int .u8 x1, .int .u8 x2] 5)).heap.size = w.heap.size + 1 := by simp
  have HSZ : Hid ((w.alloc (.cells #[.int .u8 x1, .int .u8 x2] 5)).heap.size = w.heap.size + 1) := hsz
  clear h hb1 hsz
  go_enter Tryz.func48, Tryz.ntmps48
  go_wp2_with (at_builtin; refine wpList_appB rfl (.tmp 5) (.tmp 11) rfl base (.slice av l.length cv) l (some ⟨w.heap.size, 0, none⟩) (w2B n) 2 2 (by rfl) (by rfl) rfl HR1.out HN1.out (.inr (by simp)) (by rw [HSZ.out]; omega) (by simp [w2B]; omega) ?_; intro v' w2 hr2 hb2 ho2 hl2)
  have HE : Hid (ByRow w2 base v' (l ++ w2B n) ∧ Below base w w2 ∧ (∀ b, b < w.heap.size → (Value.slice av l.length cv).ownBlock ≠ some b → w2.heap[b]? = w.heap[b]?) ∧ (∀ j, v'.ownBlock = some j → (Value.slice av l.length cv).ownBlock = some j ∨ w.heap.size ≤ j)) := by
    refine ⟨hr2, (HB1.out.mono hb).trans hb2, fun b hbl hne => (ho2 b (by rw [HSZ.out]; omega) hne).trans (HB1.out.block b hbl), fun j hj => ?_⟩
    rcases hl2 with e | e
    · exact .inl (e ▸ hj)
    · rw [e, HSZ.out] at hj
      cases hj
      exact .inr (by omega)
  clear hr2 hb2 ho2 hl2
  go_wp2
  go_ret
  exact ⟨_, rfl, HE.out.1, HE.out.2.1, HE.out.2.2.1, HE.out.2.2.2⟩
section
variable {w W : World} {p nb sb : Nat} {cv : Value} {n : Nat} {D : Dk}
theorem lblocks_any (a : Tn w W p nb sb cv n D) : Calls Tryz.prog 15 #[.pointer (some ⟨p, 0, none⟩)] W fun e w' => e = .returned (.int .i64 (n : Int)) ∧ w' = W := by
  have c := a.1.p0
  clear a
  go_enter Tryz.func15, Tryz.ntmps15
  go_wp2
  go_ret
  exact ⟨rfl, rfl⟩
theorem valid_any (a : Tn w W p nb sb cv n D) (fr mn : Int) (hn : n ≤ 200) (hw : mn ≤ 9223372036854775807) :
    Calls Tryz.prog 35 #[.agg #[.pointer (some ⟨p, 0, none⟩), .int .i64 fr, .int .i64 mn]] W fun e w' => e = .returned (.bool (decide (1 ≤ mn ∧ 0 ≤ fr ∧ fr ≤ (n : Int) - mn))) ∧ Below W.heap.size W w' := by
  obtain ⟨W1, hW1⟩ : ∃ W1, W.alloc (.cells #[.pointer (some ⟨p, 0, none⟩), .int .i64 fr, .int .i64 mn] 71) = W1 := ⟨_, rfl⟩
  have hB : Below W.heap.size W W1 := by rw [← hW1]; exact (Below.refl _ W).alloc (Nat.le_refl _) _
  have HB : Hid (Below W.heap.size W W1) := hB
  have hbl : ∀ k, Calls Tryz.prog 15 #[.pointer (some ⟨p, 0, none⟩)] (W1.drewN k) fun e w' => e = .returned (.int .i64 (n : Int)) ∧ w' = W1.drewN k := fun k => lblocks_any ((a.below hB).below ((Still.drewN _ k).below _))
  have hr := new_heap W (.cells #[.pointer (some ⟨p, 0, none⟩), .int .i64 fr, .int .i64 mn] 71)
  rw [hW1] at hr
  have c0 : W1.cell? ⟨W.heap.size, 0, none⟩ = some (.pointer (some ⟨p, 0, none⟩)) := by simp [World.cell?, hr]
  have c1 : W1.cell? ⟨W.heap.size, 1, none⟩ = some (.int .i64 fr) := by simp [World.cell?, hr]
  have c2 : W1.cell? ⟨W.heap.size, 2, none⟩ = some (.int .i64 mn) := by simp [World.cell?, hr]
  have n0 : (0 : Int) ≤ n := by omega
  have n1 : (n : Int) ≤ 200 := by omega
  clear a hB hr
  by_cases h1 : 1 ≤ mn
  · by_cases h2 : 0 ≤ fr
    · rw [show (decide (1 ≤ mn ∧ 0 ≤ fr ∧ fr ≤ (n : Int) - mn)) = decide (fr ≤ (n : Int) - mn) by simp [h1, h2]]
      go_enter Tryz.func35, Tryz.ntmps35
      go_wp2_with fail
      go_quiet ((go_at_call 15; exact Calls.quiet_of_same (hbl _)))
      rename Nat => nq
      go_wp2
      go_ret
      exact ⟨rfl, HB.out.trans ((Still.drewN _ nq).below _)⟩
    · rw [show (decide (1 ≤ mn ∧ 0 ≤ fr ∧ fr ≤ (n : Int) - mn)) = false by rw [decide_eq_false]; omega]
      have hd : decide (0 ≤ fr) = false := decide_eq_false h2
      clear h2
      go_enter Tryz.func35, Tryz.ntmps35
      go_wp2_with fail
      go_quiet ((go_at_call 15; exact Calls.quiet_of_same (hbl _)))
      rename Nat => nq
      go_wp2
      go_ret
      exact ⟨rfl, HB.out.trans ((Still.drewN _ nq).below _)⟩
  · rw [show (decide (1 ≤ mn ∧ 0 ≤ fr ∧ fr ≤ (n : Int) - mn)) = false by rw [decide_eq_false]; omega]
    have hd : decide (1 ≤ mn) = false := decide_eq_false h1
    clear h1
    go_enter Tryz.func35, Tryz.ntmps35
    go_wp2_with fail
    go_quiet ((go_at_call 15; exact Calls.quiet_of_same (hbl _)))
    rename Nat => nq
    go_wp2
    go_ret
    exact ⟨rfl, HB.out.trans ((Still.drewN _ nq).below _)⟩
end
theorem size_any (p : Nat) (fr mn : Nat) (W : World) (hm : mn ≤ 200) :
    Calls Tryz.prog 62 #[.agg #[.pointer (some ⟨p, 0, none⟩), .int .i64 (fr : Int), .int .i64 (mn : Int)]] W fun e w' => e = .returned (.int .i64 (((mn - 2) * 60 : Nat) : Int)) ∧ Below W.heap.size W w' := by
  have m0 : (0 : Int) ≤ mn := by omega
  have m1 : (mn : Int) ≤ 200 := by omega
  by_cases h : 2 < mn
  · obtain ⟨k, rfl⟩ : ∃ k, mn = k + 2 := ⟨mn - 2, by omega⟩
    have h1 : 0 < k := by omega
    have h2 : (0 : Int) < (k : Int) := by omega
    rw [show (k + 2 - 2) * 60 = k * 60 by omega]
    go_enter Tryz.func62, Tryz.ntmps62
    go_wp2
    go_ret
    exact ⟨by go_num, (Below.refl _ W).alloc (Nat.le_refl _) _⟩
  · rw [show (mn - 2) * 60 = 0 by omega]
    rcases (show mn = 0 ∨ mn = 1 ∨ mn = 2 by omega) with rfl | rfl | rfl <;> (
      go_enter Tryz.func62, Tryz.ntmps62
      go_wp2
      go_ret
      exact ⟨rfl, (Below.refl _ W).alloc (Nat.le_refl _) _⟩)
theorem pieces_any (a : Option Addr) (k cap : Nat) (W : World) (hk : k ≤ 1000000) :
    Calls Tryz.prog 69 #[.slice a k cap] W fun e w' => e = .returned (.int .i64 (pcs k : Nat)) ∧ w' = W := by
  have k0 : (0 : Int) ≤ k := by omega
  have k1 : (k : Int) ≤ 1000000 := by omega
  unfold pcs
  go_enter Tryz.func69, Tryz.ntmps69
  go_wp2
  go_ret
  exact ⟨by go_num, rfl⟩
end Go.Proofs.YtikcidlaamgakaaGreatDoor

namespace Go.Proofs.YtikcidlaamgakaaGreatDoor
set_option linter.unusedVariables false
set_option linter.unusedSimpArgs false
set_option maxRecDepth 100000
open Go.RowKit Go.Lib

theorem word_at (a : Option Addr) (l : List UInt8) (cap : Nat) (w : World) (h : IsBy w a l cap) (hl : 2 ≤ l.length) (hm : l.length ≤ 1000000) :
    Calls Tryz.prog 54 #[.slice a l.length cap] w fun e w' => e = .returned (.int .i64 (wordN l : Nat)) ∧ ∃ k, w' = w.drewN k := by
  rcases h.lies with e | ⟨b, off, rfl, hlt, hc⟩
  · subst e; simp at hl
  have c0 := hc 0 (by omega)
  have c1 := hc 1 (by omega)
  rw [Nat.add_zero] at c0
  have l0 : (0 : Int) < l.length := by omega
  have l1 : (1 : Int) < l.length := by omega
  have l2 : (l.length : Int) ≤ 1000000 := by omega
  have ew : wordN l = (l[0]'(by omega)).toNat * 256 + (l[1]'(by omega)).toNat := by
    unfold wordN
    rw [List.getD_eq_getElem?_getD, List.getD_eq_getElem?_getD, List.getElem?_eq_getElem (by omega), List.getElem?_eq_getElem (by omega)]
    rfl
  have hx := (l[0]'(by omega)).toNat_lt
  have hy := (l[1]'(by omega)).toNat_lt
  generalize (l[0]'(by omega)).toNat = x at *
  generalize (l[1]'(by omega)).toNat = y at *
  have ho := or_byte x y (by omega) (by omega)
  rw [ew]
  obtain ⟨z, hz⟩ : ∃ z, x * 256 + y = z := ⟨_, rfl⟩
  rw [hz] at ho ⊢
  have x0 : (0 : Int) ≤ x := by omega
  have x1 : (x : Int) < 256 := by omega
  have y0 : (0 : Int) ≤ y := by omega
  have y1 : (y : Int) < 256 := by omega
  clear h hc ew hz hl hm hx hy
  generalize l.length = L at *
  go_enter Tryz.func54, Tryz.ntmps54
  go_wp2_with fail
  go_quiet (fail)
  rename Nat => nq
  go_wp2
  go_ret
  exact ⟨rfl, nq, rfl⟩
/-- A piece, as a block has it. -/
def pcB (q : Pc) : List UInt8 := (([UInt8.ofNat q.num] ++ w2B q.sit) ++ [UInt8.ofNat (q.byt.length + if q.fst = true then 128 else 0)]) ++ q.byt
structure okP (mn : Nat) (q : Pc) : Prop where
  num : q.num < mn - 2
  sit : q.sit < 65536
  l1 : 1 ≤ q.byt.length
  l2 : q.byt.length ≤ 60
theorem pcB_length (q : Pc) : (pcB q).length = q.byt.length + 4 := by simp [pcB, w2B]
/-- The piece that stands in a block, if there is one. -/
def pcOf (mn : Nat) (b : Bk) : Option Pc :=
  if b.torn = true then none
  else if (mn - 2) * 60 ≤ (b.byt.getD 0 0).toNat * 60 ∨ (b.byt.getD 3 0).toNat % 128 < 1 ∨ 60 < (b.byt.getD 3 0).toNat % 128 then none
  else some ⟨(b.byt.getD 0 0).toNat, wordN (b.byt.drop 1), decide (128 ≤ (b.byt.getD 3 0).toNat), (b.byt.drop 4).take ((b.byt.getD 3 0).toNat % 128)⟩
/-- A piece that stands in a block, whatever is behind it. -/
theorem pcOf_pre {mn : Nat} {q : Pc} (h : okP mn q) (hm : mn ≤ 200) {b : Bk} (ht : b.torn = false) (hp : pcB q <+: b.byt) : pcOf mn b = some q := by
  obtain ⟨num, sit, fst, byt⟩ := q
  obtain ⟨h1, h2, h3, h4⟩ := h
  simp only at h1 h2 h3 h4
  obtain ⟨r, hr⟩ := hp
  have e : b.byt = UInt8.ofNat num :: UInt8.ofNat (sit / 256) :: UInt8.ofNat sit :: UInt8.ofNat (byt.length + if fst = true then 128 else 0) :: (byt ++ r) := by
    rw [← hr]
    simp [pcB, w2B]
  unfold pcOf
  simp only [ht, e, List.getD_cons_zero, List.getD_cons_succ, List.drop_succ_cons, List.drop_zero, UInt8.toNat_ofNat']
  have e3 : (byt.length + if fst = true then 128 else 0) % 2 ^ 8 % 128 = byt.length := by split <;> omega
  have e0 : num % 2 ^ 8 = num := by omega
  rw [e3, e0, if_neg (by decide), if_neg (by omega)]
  congr 1
  have ew : wordN (UInt8.ofNat (sit / 256) :: UInt8.ofNat sit :: UInt8.ofNat (byt.length + if fst = true then 128 else 0) :: (byt ++ r)) = sit := by
    unfold wordN
    simp only [List.getD_cons_zero, List.getD_cons_succ, UInt8.toNat_ofNat']
    omega
  rw [ew, List.take_left]
  congr 1
  cases fst
  · simp; omega
  · simp; omega
theorem pcOf_pcB {mn : Nat} {q : Pc} (h : okP mn q) (hm : mn ≤ 200) : pcOf mn ⟨padB (pcB q), false⟩ = some q :=
  pcOf_pre h hm rfl (by unfold padB; exact List.prefix_append _ _)
theorem pcOf_ok {mn : Nat} {b : Bk} {q : Pc} (h : pcOf mn b = some q) (hb : b.ok) : okP mn q ∧ b.torn = false := by
  unfold Bk.ok at hb
  unfold pcOf at h
  split at h
  · cases h
  · rename_i h0
    split at h
    · cases h
    · rename_i h1
      cases h
      have hw : wordN (b.byt.drop 1) < 65536 := by
        unfold wordN
        have h1 := ((b.byt.drop 1).getD 0 0).toNat_lt
        have h2 := ((b.byt.drop 1).getD 1 0).toNat_lt
        omega
      refine ⟨⟨by simp only; omega, hw, ?_, ?_⟩, by simpa using h0⟩
      · simp only [List.length_take, List.length_drop]; omega
      · simp only [List.length_take, List.length_drop]; omega
theorem pcOf_zero (mn : Nat) : pcOf mn bk0 = none := by
  unfold pcOf
  rw [if_neg (by decide), if_pos (by right; left; decide)]
/-- A piece's cells. -/
def pcC (at_ num sit : Nat) (fst : Bool) (v : Value) : Array Value := #[.int .i64 (at_ : Int), .int .i64 (num : Int), .int .i64 (sit : Int), .bool fst, v]
def pc0C : Array Value := #[.int .i64 0, .int .i64 0, .int .i64 0, .bool false, .slice none 0 0]
theorem and_mark (x : Nat) (h : x < 256) : bits .and .u8 (x : Int) 128 = if 128 ≤ x then 128 else 0 := by
  have : ∀ x : Nat, x < 256 → bits .and .u8 (x : Int) 128 = if 128 ≤ x then 128 else 0 := by decide +kernel
  exact this x h
theorem andNot_mark (x : Nat) (h : x < 256) : bits .andNot .u8 (x : Int) 128 = ((x % 128 : Nat) : Int) := by
  have : ∀ x : Nat, x < 256 → bits .andNot .u8 (x : Int) 128 = ((x % 128 : Nat) : Int) := by decide +kernel
  exact this x h
theorem or_mark (x : Nat) (h : x < 128) : bits .or .u8 (x : Int) 128 = ((x + 128 : Nat) : Int) := by
  have : ∀ x : Nat, x < 128 → bits .or .u8 (x : Int) 128 = ((x + 128 : Nat) : Int) := by decide +kernel
  exact this x h
end Go.Proofs.YtikcidlaamgakaaGreatDoor

namespace Go.Proofs.YtikcidlaamgakaaGreatDoor
set_option linter.unusedVariables false
set_option linter.unusedSimpArgs false
set_option maxRecDepth 100000
open Go.RowKit Go.Lib

theorem pc_size : (Tryz.prog.info? 122).map (·.size) = some 5 := by kernel_rfl
theorem pc_zero : (Tryz.prog.info? 122).map (·.zero) = some (some (.agg pc0C)) := by kernel_rfl
theorem alloc_pc (w : World) : (Instr.alloc 122 true (.tuple #[])).run Tryz.prog w = .ok (.pointer (some ⟨w.heap.size, 0, none⟩)) (w.alloc (.cells pc0C 122)) := by
  cases hq : Tryz.prog.info? 122 with
  | none => have := pc_zero; simp [hq] at this
  | some q =>
    have hz : q.zero = some (.agg pc0C) := by have := pc_zero; simpa [hq] using this
    simp [Instr.alloc, zeroValue, typeInfo, hq, hz, newVar, newRow, Value.cells]
theorem build_pc0 (w : World) : (Instr.build 122 #[]).run Tryz.prog w = .ok (.agg pc0C) w := by
  refine run_build w 122 _ _ ?_
  kernel_rfl
theorem build_pc4 (x0 x1 x2 : Int) (x3 : Bool) (w : World) : (Instr.build 122 #[(0, .int .i64 x0), (1, .int .i64 x1), (2, .int .i64 x2), (3, .bool x3)]).run Tryz.prog w = .ok (.agg #[.int .i64 x0, .int .i64 x1, .int .i64 x2, .bool x3, .slice none 0 0]) w := by
  refine run_build w 122 _ _ ?_
  kernel_rfl
theorem build_pc5 (x0 x1 x2 : Int) (x3 : Bool) (a : Option Addr) (n c : Nat) (w : World) : (Instr.build 122 #[(0, .int .i64 x0), (1, .int .i64 x1), (2, .int .i64 x2), (3, .bool x3), (4, .slice a n c)]).run Tryz.prog w = .ok (.agg #[.int .i64 x0, .int .i64 x1, .int .i64 x2, .bool x3, .slice a n c]) w := by
  refine run_build w 122 _ _ ?_
  kernel_rfl
theorem build_pc1 (x2 : Int) (w : World) : (Instr.build 122 #[(2, .int .i64 x2)]).run Tryz.prog w = .ok (.agg #[.int .i64 0, .int .i64 0, .int .i64 x2, .bool false, .slice none 0 0]) w := by
  refine run_build w 122 _ _ ?_
  kernel_rfl
/-- A piece in memory: its block, itself, and where its bytes lie. -/
structure Pm where
  at_ : Nat
  q : Pc
  a : Option Addr
  cap : Nat
def Pm.cells (x : Pm) : List Value := [.int .i64 (x.at_ : Int), .int .i64 (x.q.num : Int), .int .i64 (x.q.sit : Int), .bool x.q.fst, .slice x.a x.q.byt.length x.cap]
theorem Pm.cells_length (x : Pm) : x.cells.length = 5 := rfl
theorem Pm.cells_one (x : Pm) : ∀ u ∈ x.cells, u.oneCell' = true := by
  intro u hu
  simp only [Pm.cells, List.mem_cons, List.not_mem_nil, or_false] at hu
  rcases hu with rfl | rfl | rfl | rfl | rfl <;> rfl
/-- Its bytes are there. -/
def Pm.ok (W : World) (x : Pm) : Prop := OwnBy W (.slice x.a x.q.byt.length x.cap) x.q.byt ∧ x.a ≠ none
theorem load_pm {u : World} {B o : Nat} (x : Pm) (hr : u.rangeAt B o x.cells) : (Instr.loadAt 122 (.pointer (some ⟨B, o, none⟩))).run Tryz.prog u = .ok (.agg x.cells.toArray) u :=
  run_loadAt_mid u B o 122 _ _ hr Tryz.underlying122 rfl pc_size
theorem range0 {u : World} {B : Nat} {l : List Value} {t : TypeId} (h : u.heap[B]? = some (.cells l.toArray t (0, 0))) : u.rangeAt B 0 l := by
  intro j v hv
  rw [cell_of_row u B _ _ t (0, 0) h]
  simpa using hv
theorem store_pcs {u : World} {B : Nat} {cs cs' : List Value} {t : TypeId} (hl : cs.length = 5) (hl' : cs'.length = 5) (h1 : ∀ v ∈ cs, v.oneCell' = true) (hb : u.heap[B]? = some (.cells cs'.toArray t (0, 0))) :
    (Instr.storeAt 122 (.pointer (some ⟨B, 0, none⟩)) (.agg cs.toArray)).run Tryz.prog u = .ok () (u.setRow B cs.toArray) := by
  have := run_storeCells_at Tryz.prog B 0 t cs 0 cs'.toArray u hb (by rw [hl, List.size_toArray, hl']; omega) h1
  rw [Nat.add_zero, hl, List.take_zero, List.nil_append, List.drop_eq_nil_of_le (by simp [hl']), List.append_nil] at this
  cases hq : Tryz.prog.info? 122 with
  | none => have := pc_size; simp [hq] at this
  | some q =>
    have hs : q.size = 5 := by have := pc_size; simpa [hq] using this
    simp [Instr.storeAt, Instr.sureAddr, storeVar, sizeOf, typeInfo, hq, Value.cells, hs, hl, this]
theorem var_pcs {u : World} {B : Nat} {cs : List Value} (hl : cs.length = 5) (hr : u.heap[B]? = some (.cells cs.toArray 122 (0, 0))) : (loadVar 122 ⟨B, 0, none⟩).run Tryz.prog u = .ok (.agg cs.toArray) u := by
  have := run_loadAt_mid (P := Tryz.prog) u B 0 122 cs _ (range0 hr) Tryz.underlying122 rfl (by rw [hl]; exact pc_size)
  simpa [Instr.loadAt, Instr.sureAddr] using this
theorem pc_results {fn : Func} {p u : Tmp} (hf : fn.results = #[.cell p 122, .tmp u]) (tmps : Array Value) {w : World} {B : Nat} {cs : List Value} (hl : cs.length = 5) (hp : tmps.getD p undef = .pointer (some ⟨B, 0, none⟩)) (hr : w.heap[B]? = some (.cells cs.toArray 122 (0, 0))) :
    (results fn tmps).run Tryz.prog w = .ok (.tuple #[.agg cs.toArray, tmps.getD u undef]) w := by
  rw [results_cell_tmp hf, hp]
  simp [asAddr, var_pcs hl hr, Result.andThen]
theorem setRow_below {u w : World} {B : Nat} {cs : Array Value} (hb : Below w.heap.size w u) (hB : w.heap.size ≤ B) : Below w.heap.size w (u.setRow B cs) := hb.trans ⟨rfl, rfl, rfl, by simp, fun k hk => setRow_other _ _ _ _ (by omega)⟩
theorem two_new (W : World) (X Y : Obj) : ((W.alloc X).alloc Y).heap[W.heap.size]? = some X ∧ ((W.alloc X).alloc Y).heap[W.heap.size + 1]? = some Y ∧ Below W.heap.size W ((W.alloc X).alloc Y) := by
  have s1 : (W.alloc X).heap.size = W.heap.size + 1 := by simp
  refine ⟨(Below.heap_alloc _ _ _ (by omega)).trans (new_heap W X), ?_, ((Below.refl _ W).alloc (Nat.le_refl _) X).alloc (by omega) Y⟩
  have := new_heap (W.alloc X) Y
  rwa [s1] at this
section
variable {w W : World} {p nb sb : Nat} {cv : Value} {n : Nat} {D : Dk}
theorem readPiece_torn (a : Tn w W p nb sb cv n D) (fr mn i : Nat) (hi : fr + i < n) (hn : n ≤ 200) (ht : (D.now.getD (fr + i) bk0).torn = true) :
    Calls Tryz.prog 61 #[.agg #[.pointer (some ⟨p, 0, none⟩), .int .i64 (fr : Int), .int .i64 (mn : Int)], .int .i64 (i : Int)] W fun e w' => e = .returned (.tuple #[.agg pc0C, .bool false]) ∧ Hid (Below W.heap.size W w') := by
  have hal := alloc_pc
  obtain ⟨W0, hW0⟩ : ∃ W0, (W.alloc (.cells #[.pointer (some ⟨p, 0, none⟩), .int .i64 (fr : Int), .int .i64 (mn : Int)] 71)).alloc (.cells pc0C 122) = W0 := ⟨_, rfl⟩
  obtain ⟨ha0, hr0, hb0⟩ := two_new W (.cells #[.pointer (some ⟨p, 0, none⟩), .int .i64 (fr : Int), .int .i64 (mn : Int)] 71) (.cells pc0C 122)
  rw [hW0] at ha0 hr0 hb0
  have c0 : W0.cell? ⟨W.heap.size, 0, none⟩ = some (.pointer (some ⟨p, 0, none⟩)) := by simp [World.cell?, ha0]
  have c1 : W0.cell? ⟨W.heap.size, 1, none⟩ = some (.int .i64 (fr : Int)) := by simp [World.cell?, ha0]
  have HR : Hid (Calls _ _ _ W0 _) := tn_readTorn (a.below hb0) (fr + i) hi ht
  rw [enE_ne (by decide), show ((fr + i : Nat) : Int) = (fr : Int) + (i : Int) by omega] at HR
  have hbd := build_pc0
  have HB : Hid (Below W.heap.size W W0) := hb0
  have Hr0 : Hid (W0.heap[W.heap.size + 1]? = some (.cells pc0C 122 (0, 0))) := hr0
  have f0 : (0 : Int) ≤ fr := by omega
  have i0 : (0 : Int) ≤ i := by omega
  have fi : (fr : Int) + i < 200 := by omega
  clear a ht hb0 hr0 ha0
  go_enter Tryz.func61, Tryz.ntmps61
  go_wp2_with (refine wpList_alloc_run rfl 122 rfl (hal _) ?_)
  refine HR.out.mono ?_
  rintro e w1 ⟨rfl, _, hs⟩
  have hr1 : w1.heap[W.heap.size + 1]? = some (.cells pc0C 122 (0, 0)) := by rw [hs.out.heap]; exact Hr0.out
  have hst := store_pcs (cs := pc0C.toList) (cs' := pc0C.toList) rfl rfl (by decide) hr1
  have HE : Hid ((w1.setRow (W.heap.size + 1) pc0C).heap[W.heap.size + 1]? = some (.cells pc0C 122 (0, 0)) ∧ Below W.heap.size W (w1.setRow (W.heap.size + 1) pc0C)) := ⟨setRow_heap w1 _ _ _ _ _ hr1, setRow_below (HB.out.trans (hs.out.below _)) (by omega)⟩
  clear HR hr1
  go_wp2_with (first | (refine wpList_build_run rfl 122 #[] rfl #[] (by simp) (hbd _) ?_) | (refine wpList_store_run rfl 122 _ _ rfl _ _ (by rfl) (by rfl) hst ?_))
  refine bodyPost_ret (pc_results (cs := pc0C.toList) rfl _ rfl (by rfl) HE.out.1) rfl ?_
  exact ⟨rfl, HE.out.2⟩
end
end Go.Proofs.YtikcidlaamgakaaGreatDoor
