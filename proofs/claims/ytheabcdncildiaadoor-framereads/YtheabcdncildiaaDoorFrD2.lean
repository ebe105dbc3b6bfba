/-
  The contracts of dayref2's reader: Text.
-/
import Derived.Test.YtheabcdncildiaaDoorFrD1
namespace Go.Proofs.YtheabcdncildiaaDoor
set_option linter.unusedVariables false
set_option linter.unusedSimpArgs false
set_option maxRecDepth 100000
open Go.RowKit Go.Lib

theorem rdTS_bad {st : St} (h : (rdNS 0 24 st).2 = none) : rdTS st = (ByteArray.empty, none) := by
  rw [rdTS_eq, h]; rfl
theorem rdTS_over {st : St} {n : Int} {r : List UInt8} (h : rdNS 0 24 st = (n, some r)) (hn : r.length < n.toNat) : rdTS st = (ByteArray.empty, none) := by
  rw [rdTS_eq, h]
  simp only [takeS]
  rw [if_neg (by omega)]
  rfl
theorem rdTS_fits {st : St} {n : Int} {r : List UInt8} (h : rdNS 0 24 st = (n, some r)) (hn : n.toNat ≤ r.length) : rdTS st = (txt (r.take n.toNat), some (r.drop n.toNat)) := by
  rw [rdTS_eq, h]
  simp only [takeS]
  rw [if_pos hn]
/-- 'b[j:k]'. -/
theorem run_byMid {w : World} {n : Nat} {a : Option Addr} {l : List UInt8} {cap : Nat} (h : IsBN w n a l cap) (j k : Nat) (hj : j ≤ k) (hk : k ≤ l.length) :
    ∃ a' c', (∀ W, (Instr.slice 22 (.slice a l.length cap) (some (.int .i64 (j : Int))) (some (.int .i64 (k : Int))) none).run Tryd.prog W = .ok (.slice a' (k - j) c') W) ∧ IsBN w n a' ((l.drop j).take (k - j)) c' := by
  have hc := h.cap
  refine ⟨if cap = j then a else a.map (·.add (j * 1)), cap - j, fun W => ?_, ?_, ?_⟩
  · rw [run_slice_lh W 22 a l.length cap by_under .i64 .i64 j k (by omega) (by omega) (by omega), by_size]
    simp [Result.andThen, sliced]
  · rw [List.length_take, List.length_drop]; omega
  · by_cases h0 : (l.drop j).take (k - j) = []
    · exact .inl h0
    · right
      have hl : 0 < ((l.drop j).take (k - j)).length := List.length_pos_iff.2 h0
      rw [List.length_take, List.length_drop] at hl
      rcases h.lies with rfl | ⟨b, off, rfl, hlt, hcs⟩
      · simp at hl
      · refine ⟨b, off + j, ?_, hlt, fun i hi => ?_⟩
        · rw [if_neg (by omega)]
          simp [by_add]
        · rw [List.length_take, List.length_drop] at hi
          rw [List.getElem_take, List.getElem_drop, Nat.add_assoc]
          exact hcs (j + i) (by omega)

set_option maxHeartbeats 1000000 in
theorem dtext_any (b : Nat) (a : Option Addr) (cap : Nat) (l : List UInt8) (st : St) (w : World) (hl : l.length ≤ 9223372036854775806) (h : DRd w b a cap l st) :
    Calls Tryd.prog 11 #[.pointer (some ⟨b, 0, none⟩)] w fun e w' =>
      e = .returned (.string (rdTS st).1) ∧ DRd w' b a cap l (rdTS st).2 ∧ KeepBut b w w' := by
  have hlt := h.lt
  have HN : Hid (Calls _ _ _ _ _) := dnum_any b a cap l st 0 24 w hl (by omega) (by omega) (by omega) (by omega) h
  have hrg := @rdNS_range 24 st (by omega)
  have Hby : Hid (IsBN w b a l cap) := h.bytes
  clear h
  cases hr : rdNS 0 24 st with
  | mk n s1 =>
    cases s1 with
    | none =>
      have et := rdTS_bad (st := st) (by rw [hr])
      rw [et]
      rw [hr] at HN
      clear et hr hrg
      go_enter Tryd.func11, Tryd.ntmps11
      go_wp2_with fail
      refine HN.out.mono ?_
      rintro e w1 ⟨x, rfl, ⟨by1, p, hp, X⟩, _, K1⟩
      have c2 := X.c2
      clear HN by1
      go_wp2_with fail
      go_quiet (fail)
      rename Nat => nq
      have XA : DBox (w1.drewN nq) b _ p true := X
      have KA := K1.drewN nq
      clear c2 X K1
      generalize w1.drewN nq = wa at *
      have c2 := XA.c2
      have f2 := XA.fz 2
      have HX : Hid (DBox _ _ _ _ _) := XA.set2 true
      have HK : Hid (KeepBut b w _) := KA.set 2 (.bool true)
      clear XA KA
      go_wp2
      go_ret
      exact ⟨rfl, ⟨Hby.out.keep HK.out (Nat.le_of_lt hlt), p, hp, HX.out⟩, HK.out⟩
    | some r =>
      rw [hr] at HN hrg
      simp only at hrg
      obtain ⟨k, rfl⟩ : ∃ k : Nat, n = k := ⟨n.toNat, by omega⟩
      have hk24 : (k : Int) ≤ 24 := by omega
      have hl' : (l.length : Int) ≤ 9223372036854775806 := by omega
      obtain ⟨ts, hts⟩ : ∃ ts, rdTS st = ts := ⟨_, rfl⟩
      have Hts : Hid (rdTS st = ts) := hts
      rw [hts]
      clear hts hrg
      go_enter Tryd.func11, Tryd.ntmps11
      go_wp2_with fail
      refine HN.out.mono ?_
      rintro e w1 ⟨x, rfl, ⟨by1, p, hp, hrp, X⟩, hx, K1⟩
      have hx' : x = (k : Int) := hx (by simp)
      subst hx'
      have hdl : (l.drop p).length = l.length - p := List.length_drop ..
      have c0 := X.c0
      have c1 := X.c1
      have c2 := X.c2
      have X1 : Hid (DBox _ _ _ _ _) := X
      have HK1 : Hid (KeepBut b w _) := K1
      have hp' : (p : Int) ≤ l.length := by omega
      clear HN hx X K1 by1
      by_cases hfit : k ≤ l.length - p
      · have et := rdTS_fits hr (by rw [hrp, hdl]; simpa using hfit)
        have edd : r.drop (k : Int).toNat = l.drop (p + k) := by rw [hrp, Int.toNat_natCast, List.drop_drop]
        have ett : r.take (k : Int).toNat = (l.drop p).take k := by rw [hrp, Int.toNat_natCast]
        obtain ⟨tx, htx⟩ : ∃ tx, txt ((l.drop p).take k) = tx := ⟨_, rfl⟩
        rw [Hts.out, edd, ett, htx] at et
        subst et
        clear edd ett
        have hlt2 : ¬ (l.length : Int) - p < k := by omega
        go_wp2_with fail
        go_quiet (fail)
        rename Nat => nq
        have XA : DBox (w1.drewN nq) b _ p false := X1.out
        have KA := HK1.out.drewN nq
        clear c0 c1 c2 X1 HK1
        generalize w1.drewN nq = wa at *
        have c1 := XA.c1
        have f1 := XA.fz 1
        have xb := XA.set1 ((p : Int) + k)
        have kb := KA.set 1 (.int .i64 ((p : Int) + k))
        have XB : Hid (DBox _ _ _ _ _) := xb
        have KB : Hid (KeepBut b w _) := kb
        have d0 := xb.c0
        have d1 := xb.c1
        have hpk : (p : Int) + k ≤ 9223372036854775807 := by omega
        have hby := Hby.out.keep kb (Nat.le_of_lt hlt)
        have hltb := XB.out.lt
        obtain ⟨a', c', hD0, hB⟩ := run_byMid hby p (p + k) (by omega) (by omega)
        have hkk : p + k - p = k := by omega
        rw [hkk] at hD0 hB
        have hD : ∀ W, (Instr.slice 22 (.slice a l.length cap) (some (.int .i64 (p : Int))) (some (.int .i64 ((p : Int) + k))) none).run Tryd.prog W = .ok (.slice a' k c') W := hD0
        have hlen : ((l.drop p).take k).length = k := by rw [List.length_take, hdl]; omega
        have hS : ∀ n, (convert 22 9 (.slice a' k c')).run Tryd.prog ((wa.setCell ⟨b, 1, none⟩ (.int .i64 ((p : Int) + k))).drewN n) = .ok (.string (txt ((l.drop p).take k))) ((wa.setCell ⟨b, 1, none⟩ (.int .i64 ((p : Int) + k))).drewN n) := fun n => by
          have := run_str ((wa.setCell ⟨b, 1, none⟩ (.int .i64 ((p : Int) + k))).drewN n) a' ((l.drop p).take k) c' ((hB.isBy (Nat.le_of_lt hltb)).below (en_drewN (Below.refl _ _) n))
          rw [hlen] at this
          exact this
        have Hby2 : Hid (IsBN _ b a l cap) := hby
        rw [htx] at hS
        have h3 : (p : Int) + k - k = p := by omega
        clear XA KA xb kb hB hD0 hby hlen hrp htx
        go_wp2_with fail
        go_quiet (fail)
        rename Nat => nq2
        go_wp2
        go_ret
        exact ⟨rfl, ⟨Hby2.out.below' (en_drewN (Below.refl _ _) _) (Nat.le_refl _), p + k, by omega, rfl, XB.out⟩, KB.out.drewN _⟩
      · have et := rdTS_over hr (by rw [hrp, hdl]; simpa using hfit)
        rw [Hts.out] at et
        subst et
        have hlt2 : (l.length : Int) - p < k := by omega
        go_wp2_with fail
        go_quiet (fail)
        rename Nat => nq
        have XA : DBox (w1.drewN nq) b _ p false := X1.out
        have KA := HK1.out.drewN nq
        clear c0 c1 c2 X1 HK1
        generalize w1.drewN nq = wa at *
        have c2 := XA.c2
        have f2 := XA.fz 2
        have HX : Hid (DBox _ _ _ _ _) := XA.set2 true
        have HK : Hid (KeepBut b w _) := KA.set 2 (.bool true)
        clear XA KA
        go_wp2
        go_ret
        exact ⟨rfl, ⟨Hby.out.keep HK.out (Nat.le_of_lt hlt), p, hp, HX.out⟩, HK.out⟩
end Go.Proofs.YtheabcdncildiaaDoor
