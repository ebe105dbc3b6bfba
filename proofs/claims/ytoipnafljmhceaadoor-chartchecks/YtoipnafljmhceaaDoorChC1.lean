/-
  The contracts of dayref1.Leaf and daysame.Texts; accounts held against each other.
-/
import Derived.Test.YtoipnafljmhceaaDoorRf2
import Derived.Laws.StructEq
namespace Go.Proofs.YtoipnafljmhceaaDoor
set_option linter.unusedVariables false
set_option linter.unusedSimpArgs false
set_option maxRecDepth 100000
open Go.RowKit

theorem acct_struct : Tryd.prog.underlying 30 = some (.struct (Tryd.prog.fieldsOf 30)) := by kernel_rfl
theorem acct_stood : Tryd.prog.stoodInHeld 30 = false := by kernel_rfl
theorem acct_guard : Tryd.prog.eqGuardType Tryd.prog.depth 30 = false := by kernel_rfl

theorem acct_same (x0 x1 : ByteArray) (x2 : Int) (x3 : ByteArray) (x4 : Bool) (W : World) : (binOp .eql 30 (.agg #[.string x0, .string x1, .int .i64 x2, .string x3, .bool x4]) (.agg #[.string x0, .string x1, .int .i64 x2, .string x3, .bool x4])).run Tryd.prog W = .ok (.bool true) W := by
  rw [run_eql_struct, show (10000 : Nat) = 9998 + 1 + 1 from rfl, run_equalIn_agg W (9998 + 1) 30 _ _ acct_struct acct_stood]
  unfold Program.fieldsOf
  rw [Tryd.underlying30]
  simp [Op.eqFields, part, go_sem, run_equalIn_string W 9998 9 _ _ Tryd.underlying9, run_equalIn_int W 9998 3 .i64 .i64 _ _ Tryd.underlying3, run_equalIn_bool' W 9998 4 _ _ Tryd.underlying4, Tryd.isAgg9, Tryd.isAgg3, Tryd.isAgg4]

set_option maxHeartbeats 1000000 in
theorem refLeaf_any (a : Option Addr) (cap : Nat) (l : List Ac) (i : Nat) (w : World) (h : IsSl w a l cap) (h0 : chBad l = 0) (hi : i < l.length) :
    Calls Tryd.prog 9 #[.slice a l.length cap, .string (l.getD i ac0).code] w fun e w' => e = .returned (.int .i64 (if leafB l (l.getD i ac0) = true then 0 else 12)) ∧ w' = w := by
  have hlen := chBad_len h0
  have Hlen : (l.length : Int) ≤ 60 := by omega
  have HA := refAt_any a cap l (l.getD i ac0).code w (by omega) h
  rw [idx_code h0 hi] at HA
  rcases h.lies with h1 | ⟨b, off, rfl, hlt, hc⟩
  · rw [h1] at hi; simp at hi
  have Hc : Hid (AcsAt w b off l) := hc
  have hlf : leafB l (l.getD i ac0) = decide (idxP (hasPar (l.getD i ac0).code) l < 0) := rfl
  rw [hlf]
  clear h hc h0 hlf
  generalize (l.getD i ac0).code = c at *
  obtain ⟨res, hres⟩ : ∃ res, (if decide (idxP (hasPar c) l < 0) = true then (0 : Int) else 12) = res := ⟨_, rfl⟩
  have Hres : Hid ((if decide (idxFrom (hasPar c) 0 (l.drop 0) < 0) = true then (0 : Int) else 12) = res) := hres
  rw [hres]
  clear hres
  have i0 : (0 : Int) ≤ i := by omega
  have HHA : Hid (Calls _ _ _ _ _) := HA
  clear HA
  go_enter Tryd.func9, Tryd.ntmps9
  go_wp2_with (go_at_call 8; refine HHA.out.mono ?_; rintro e w' ⟨rfl, rfl⟩)
  go_loop [6] (fun s6 => ∃ k : Nat, k ≤ l.length ∧ s6 = .int .i64 k ∧ Hid ((if decide (idxFrom (hasPar c) k (l.drop k) < 0) = true then (0 : Int) else 12) = res)) (fun s6 => l.length - (intOf s6).toNat)
  case atStart => exact ⟨0, Nat.zero_le _, rfl, Hres⟩
  case round =>
    obtain ⟨k, hk, rfl, H⟩ := hrel
    by_cases hlt2 : k < l.length
    · have hn := Hc.out k hlt2
      have E := H.out
      rw [acs_drop l k hlt2, idxFrom] at E
      clear H
      generalize l.getD k ac0 = x at *
      obtain ⟨x0, x1, x2, x3, x4⟩ := x
      obtain ⟨c0, c1, c2, c3, c4⟩ := hn
      simp only at c0 c1 c2 c3 c4
      have k0 : (0 : Int) ≤ k := by omega
      have k1 : (k : Int) < l.length := by omega
      by_cases hx : x3 = c
      · rw [if_pos (by simp [hasPar, hx] : hasPar c ⟨x0, x1, x2, x3, x4⟩ = true)] at E
        have er : res = 12 := by
          rw [← E, if_neg]
          simp
        subst er
        subst hx
        clear E
        go_wp2
        go_ret
        exact ⟨rfl, rfl⟩
      · have hx' := ch_ne hx
        rw [if_neg (by simp [hasPar, hx] : ¬ hasPar c ⟨x0, x1, x2, x3, x4⟩ = true)] at E
        have HN : Hid (_ = res) := E
        clear E
        go_wp2
        go_round
        case rel => exact ⟨k + 1, by omega, by go_num, HN⟩
        case measure => simp [intOf]; omega
    · have hk2 : k = l.length := by omega
      subst hk2
      have er : res = 0 := by
        rw [← H.out, List.drop_length, if_pos]
        simp [idxFrom]
      subst er
      go_wp2
      go_ret
      exact ⟨rfl, rfl⟩

set_option maxHeartbeats 1000000 in
theorem sameTexts_any (n1 n2 : Nat) (v1 v2 : Value) (xs : List ByteArray) (w : World) (hlen : xs.length ≤ 1000) (h1 : TxtRow w n1 v1 xs) (h2 : TxtRow w n2 v2 xs) :
    Calls Tryd.prog 15 #[v1, v2] w fun e w' => e = .returned (.bool true) ∧ Below w.heap.size w w' := by
  have F : ∀ n v, TxtRow w n v xs → ∃ a c, v = .slice a xs.length c ∧ (xs = [] ∨ ∃ g, a = some ⟨g, 0, none⟩ ∧ ∀ k, k < xs.length → w.cell? ⟨g, k, none⟩ = some (.string (xs.getD k ByteArray.empty))) := fun n v h => by
    rcases h.form with ⟨rfl, rfl⟩ | ⟨g, cp, rfl, _, _, _, hc⟩
    · exact ⟨none, 0, rfl, .inl rfl⟩
    · exact ⟨_, cp, rfl, .inr ⟨g, rfl, hc⟩⟩
  obtain ⟨a1, c1, rfl, q1⟩ := F n1 v1 h1
  obtain ⟨a2, c2, rfl, q2⟩ := F n2 v2 h2
  have Hlen : (xs.length : Int) ≤ 1000 := by omega
  have H1 : Hid (xs = [] ∨ _) := q1
  have H2 : Hid (xs = [] ∨ _) := q2
  clear q1 q2 F h1 h2
  go_enter Tryd.func15, Tryd.ntmps15
  go_wp2
  go_loopw [5] (fun i wr => ∃ k : Nat, k ≤ xs.length ∧ i = .int .i64 k ∧ ∃ n, wr = w.drewN n) (fun i _ => xs.length - (intOf i).toNat)
  case atStart => exact ⟨0, Nat.zero_le _, rfl, 0, rfl⟩
  case round =>
    obtain ⟨k, hk, rfl, nd, rfl⟩ := hrel
    by_cases hlt : k < xs.length
    · rcases H1.out with h | ⟨g1, rfl, q1⟩
      · rw [h] at hlt; simp at hlt
      rcases H2.out with h | ⟨g2, rfl, q2⟩
      · rw [h] at hlt; simp at hlt
      have d1 := q1 k hlt
      have d2 := q2 k hlt
      clear q1 q2 H1 H2
      generalize xs.getD k ByteArray.empty = x at *
      have i0 : (0 : Int) ≤ k := by omega
      have i1 : (k : Int) < xs.length := by omega
      go_wp2_with fail
      go_quiet (fail)
      go_wp2
      go_roundw
      case rel => exact ⟨k + 1, by omega, by go_num, _, rfl⟩
      case measure => simp [intOf]; omega
    · have hk2 : k = xs.length := by omega
      subst hk2
      go_wp2
      go_ret
      exact ⟨rfl, ch_drewN (Below.refl _ _) _⟩

theorem idxFrom_ge (p : Ac → Bool) : ∀ (l : List Ac) (k : Nat), -1 ≤ idxFrom p k l
  | [], k => by simp [idxFrom]
  | a :: l, k => by
    rw [idxFrom]
    split
    · omega
    · exact idxFrom_ge p l (k + 1)
theorem idx_neg {p : Ac → Bool} {l : List Ac} (h : idxP p l < 0) : idxP p l = -1 := by
  have := idxFrom_ge p l 0
  unfold idxP at *
  omega

/-- Two rows of texts, apart. -/
structure Two (n : Nat) (W : World) (v8 v9 : Value) (L U : List ByteArray) : Prop where
  r8 : TxtRow W n v8 L
  r9 : TxtRow W n v9 U
  ap : ∀ b, v8.ownBlock = some b → v9.ownBlock ≠ some b

theorem Two.swap {n : Nat} {W : World} {v8 v9 : Value} {L U : List ByteArray} (h : Two n W v8 v9 L U) : Two n W v9 v8 U L := ⟨h.r9, h.r8, fun b h1 h2 => h.ap b h2 h1⟩
theorem Two.alloc {n : Nat} {W : World} {v8 v9 : Value} {L U : List ByteArray} (h : Two n W v8 v9 L U) (o : Obj) : Two n (W.alloc o) v8 v9 L U := ⟨World.ownsRow.alloc h.r8 o, World.ownsRow.alloc h.r9 o, h.ap⟩
theorem Two.app {n : Nat} {W w1 : World} {v8 v9 : Value} {L L' U : List ByteArray} {g' c' : Nat} (h : Two n W v8 v9 L U) (hown : TxtRow w1 n (.slice (some ⟨g', 0, none⟩) L'.length c') L') (hg : W.grownBy w1 v8.ownBlock) (hat : v8.ownBlock = some g' ∨ g' = W.heap.size) : Two n w1 (.slice (some ⟨g', 0, none⟩) L'.length c') v9 L' U := by
  refine ⟨hown, World.ownsRow.kept h.r9 hg ?_, ?_⟩
  · cases hv : v9.ownBlock with
    | none => exact .inl rfl
    | some x => exact .inr (fun e => h.ap x e.symm hv)
  · intro b hb
    cases hb
    rcases hat with e | e
    · exact h.ap g' e
    · intro h2
      rcases h.r9.form with ⟨hv, _⟩ | ⟨g1, c1, hv, _, hlt, _⟩
      · rw [hv] at h2; cases h2
      · rw [hv] at h2; cases h2; omega
theorem TxtRow.own {w : World} {n : Nat} {v : Value} {xs : List ByteArray} (h : TxtRow w n v xs) : ∀ j, v.ownBlock = some j → n ≤ j := fun j ej => by
  rcases h.2 with ⟨rfl, _⟩ | ⟨g1, c1, cur, rfl, hg1, _⟩
  · cases ej
  · cases ej; exact hg1
end Go.Proofs.YtoipnafljmhceaaDoor
