/-
  The contracts of quarterdaybig's twin, and of div where the divisor is of one word.
-/
import Derived.Test.YtphlcjghcffnbaaDoorBig5
import Derived.Laws.AppendOwn
import Derived.OwnWalk
import Derived.Deep.RegionWith
namespace Go.Proofs.YtphlcjghcffnbaaDoor
set_option linter.unusedVariables false
set_option linter.unusedSimpArgs false
open Go.RowKit Big

theorem own_wd {w : World} {base n : Nat} {v : Value} {l : List Nat} (ho : Ok l) (hn : l.length = n) (hl : n ≤ 140737488355328) (h : w.ownsRow base 61 1 v n (l.map (fun x : Nat => Value.int .u32 (x : Int)))) : Wd w v l := by
  obtain ⟨hlen, ⟨rfl, h0⟩ | ⟨g, cap, cur, rfl, hg, hb, hc, hm, hs, ht⟩⟩ := h
  · have : l = [] := by subst h0; exact List.eq_nil_of_length_eq_zero hn
    subst this
    exact wd_nil _ _ _
  · rcases Nat.eq_zero_or_pos n with h0 | h0
    · have : l = [] := by subst h0; exact List.eq_nil_of_length_eq_zero hn
      subst this
      subst h0
      exact wd_nil _ _ _
    · refine ⟨ho, by omega, .inr ⟨by omega, g, 0, cap, by rw [hn], blk_lt hb, by omega, fun i hi => ?_⟩⟩
      have e : cur[i]? = some (.int .u32 (l.getD i 0 : Nat)) := by
        have h1 : (cur.toList.take (n * 1))[i]? = some (.int .u32 (l.getD i 0 : Nat)) := by rw [ht]; simp [hi]
        rw [List.getElem?_take] at h1
        rw [if_pos (by omega)] at h1
        simpa using h1
      rw [Nat.zero_add]
      simp [World.cell?, hb, e]

theorem twin_any (v : Value) (l : List Nat) (w : World) (h : Wd w v l) (hl : l.length < 35184372088832) :
    Calls Tryd.prog 44 #[v] w fun e w' => ∃ v', e = .returned v' ∧ Hid (Wd w' v' l ∧ w.grownBy w' none) := by
  obtain ⟨i0, hi, hz0, hz1, hz2⟩ := info_parts Tryd.infoW
  have some' : ∀ b off cap, (∀ i, i < l.length → w.cell? ⟨b, off + i, none⟩ = some (.int .u32 (l.getD i 0 : Nat))) → Calls Tryd.prog 44 #[.slice (some ⟨b, off, none⟩) l.length cap] w fun e w' => ∃ v', e = .returned v' ∧ Hid (Wd w' v' l ∧ w.grownBy w' none) := fun b off cap hc => by
    have Hc : Hid (∀ i, i < l.length → w.cell? ⟨b, off + i, none⟩ = some (.int .u32 (l.getD i 0 : Nat))) := hc
    have Ho : Hid (Ok l) := h.ok
    clear hc
    go_enter Tryd.func44, Tryd.ntmps44
    go_wp2_with (at_builtin; refine wpList_append_own _ rfl _ _ 38 rfl w.heap.size 61 i0 (.int .u32 0) 1 4 Tryd.underlying38 hi hz0 hz1 hz2 rfl (by decide) _ 0 [] rfl (World.ownsRow_nil _ _ _ _) ⟨b, off, none⟩ l.length cap (l.map (fun x : Nat => Value.int .u32 (x : Int))) rfl (by simp) ?c1 ?c2 ?c3 ?c4 ?c5 ?_)
    case c1 =>
      intro j u hj
      have hj2 : j < l.length := by
        have := (List.getElem?_eq_some_iff.1 hj).1
        simpa using this
      have : u = .int .u32 (l.getD j 0 : Nat) := by simp [hj2] at hj; rw [← hj]; simp [hj2]
      subst this
      have e := Hc.out j hj2
      rcases Nat.eq_zero_or_pos j with rfl | hp
      · simpa [Addr.add] using e
      · simpa [Addr.add, Nat.ne_of_gt hp] using e
    case c2 => intro u hu; simp at hu; obtain ⟨x, _, rfl⟩ := hu; rfl
    case c3 => unfold maxLen; omega
    case c4 => omega
    case c5 => exact Nat.le_refl _
    · intro v' w1 hown' hgrow _
      have R : Hid (Wd w1 v' l ∧ w.grownBy w1 none) := by
        exact ⟨own_wd Ho.out rfl (by omega) hown', hgrow⟩
      clear hown' hgrow
      go_wp2
      go_ret
      exact ⟨_, rfl, R⟩
  rcases h.at_ with ⟨h0, a, cap, hv⟩ | ⟨h0, b, off, cap, hv, hb, hcap, hc⟩
  · subst hv
    subst h0
    cases a with
    | none =>
      clear some'
      have R : Hid (Wd w (.slice none 0 0) [] ∧ w.grownBy w none) := ⟨wd_nil _ _ _, grefl _ _⟩
      go_enter Tryd.func44, Tryd.ntmps44
      go_wp2
      go_ret
      exact ⟨_, rfl, R⟩
    | some x =>
      clear some'
      have R : Hid (Wd w (.slice none 0 0) [] ∧ w.grownBy w none) := ⟨wd_nil _ _ _, grefl _ _⟩
      go_enter Tryd.func44, Tryd.ntmps44
      go_wp2
      go_ret
      exact ⟨_, rfl, R⟩
  · subst hv
    exact some' b off cap hc

end Go.Proofs.YtphlcjghcffnbaaDoor
