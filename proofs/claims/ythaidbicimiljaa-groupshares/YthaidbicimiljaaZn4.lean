/-
  What each account has of an entity and a currency: the contract of dayref2.Amounts.
-/
import Derived.Test.YthaidbicimiljaaRows
import Derived.Test.YthaidbicimiljaaZn3
import Derived.WalkKit
import Derived.WalkSpells
import Derived.Laws.Externs
import Derived.Below
import Derived.Test.YthaidbicimiljaaZn2
import Derived.Deep.OwnRows
import Derived.Test.YthaidbicimiljaaZn1
namespace Go.Proofs.Ythaidbicimiljaa
set_option linter.unusedVariables false
open Go.RowKit Math

theorem add64_any (x y : Int) (hx : 0 ≤ x) (hy : 0 ≤ y) (hx2 : x < 18446744073709551616) (hy2 : y < 18446744073709551616) (w : World) :
    (callFunc 62 #[.int .u64 x, .int .u64 y, .int .u64 0]).run Try.prog w =
      .ok (.value (.tuple #[.int .u64 ((x + y) % 18446744073709551616), .int .u64 ((x + y) / 18446744073709551616)])) w := by
  obtain ⟨x, rfl⟩ := Int.eq_ofNat_of_zero_le hx
  obtain ⟨y, rfl⟩ := Int.eq_ofNat_of_zero_le hy
  rw [run_callFunc_extern Try.func62 (by kernel_rfl) (by kernel_rfl) (by kernel_rfl) (e := add64Entry) (by kernel_rfl)]
  have h := run_add64 (P := Try.prog) x y 0 (by omega) (by omega) (by omega) (by omega) w
  rw [h]
  simp only [Result.andThen, Int.add_zero]

theorem add64_w (s x : Int) (w : World) : (callFunc 62 #[.int .u64 (loW s), .int .u64 (IntKind.u64.wrap x), .int .u64 0]).run Try.prog w =
      .ok (.value (.tuple #[.int .u64 (loW (s + x)), .int .u64 (cW s x)])) w := by
  have b1 := loW_bd s
  have b2 := loW_bd x
  have e : IntKind.u64.wrap x = loW x := IntKind.wrap_u64 x
  rw [e, add64_any _ _ b1.1 b2.1 b1.2 b2.2, loW_add]
  rfl

theorem take_sum (l : List Int) (k : Nat) (h : k < l.length) : (l.take (k + 1)).sum = (l.take k).sum + l.getD k 0 := by
  rw [List.take_succ_eq_append_getElem h, List.sum_append]
  simp [h]

/-- What is handed back beside a sum. -/
def sumV (s : Int) : Int := if -9223372036854775808 ≤ s ∧ s ≤ 9223372036854775807 then s else 0
def sumE (s : Int) : Value := if -9223372036854775808 ≤ s ∧ s ≤ 9223372036854775807 then .nilIface else .iface 41 (.int .i64 10)

theorem sum_bound (l : List Int) (k : Nat) (h : k ≤ l.length) (hI : ∀ i, i < l.length → I64 (l.getD i 0)) :
    -((k : Int) * 9223372036854775808) ≤ (l.take k).sum ∧ (l.take k).sum ≤ (k : Int) * 9223372036854775808 := by
  induction k with
  | zero => simp
  | succ k ih =>
    have := ih (by omega)
    have h2 := hI k (by omega)
    unfold I64 at h2
    rw [take_sum l k (by omega)]
    omega

theorem wrap64_lo (s : Int) : wrap64 (loW s) = if loW s < 9223372036854775808 then loW s else loW s - 18446744073709551616 := by
  have := loW_bd s
  unfold wrap64; split <;> omega
theorem sum_yes (s : Int) (h : -170141183460469231731687303715884105728 ≤ s ∧ s < 170141183460469231731687303715884105728) (hs : -9223372036854775808 ≤ s ∧ s ≤ 9223372036854775807) :
    (hiW s != IntKind.u64.wrap (wrap64 (loW s) / 9223372036854775808)) = false ∧ wrap64 (loW s) = s := by
  have hf := sum_fits s h _ rfl
  rw [← wrap64_lo] at hf
  rw [IntKind.wrap_u64]
  exact ⟨by rw [bne_eq_false_iff_eq]; exact hf.1.2 hs, hf.2 hs⟩
theorem sum_no (s : Int) (h : -170141183460469231731687303715884105728 ≤ s ∧ s < 170141183460469231731687303715884105728) (hs : ¬ (-9223372036854775808 ≤ s ∧ s ≤ 9223372036854775807)) :
    (hiW s != IntKind.u64.wrap (wrap64 (loW s) / 9223372036854775808)) = true := by
  have hf := sum_fits s h _ rfl
  rw [← wrap64_lo] at hf
  rw [IntKind.wrap_u64, bne_iff_ne]
  exact fun e => hs (hf.1.1 e)

theorem sum_run (b off cap n : Nat) (l : List Int) (w : World) (hn : l.length = n) (hlen : l.length ≤ 140737488355328) (hI : Hid (∀ i, i < l.length → I64 (l.getD i 0)))
    (hc : Hid (∀ i, i < l.length → w.cell? ⟨b, off + i, none⟩ = some (.int .i64 (l.getD i 0)))) :
    Calls Try.prog 36 #[.slice (some ⟨b, off, none⟩) n cap] w fun e w' => e = .returned (.tuple #[.int .i64 (sumV l.sum), sumE l.sum]) ∧ w' = w := by
  subst hn
  go_enter Try.func36, Try.ntmps36
  go_wp2
  go_loop [4, 5, 12] (fun hi lo i => ∃ k : Nat, k ≤ l.length ∧ i = .int .i64 k ∧ hi = .int .u64 (hiW (l.take k).sum) ∧ lo = .int .u64 (loW (l.take k).sum)) (fun _ _ i => l.length - (RowKit.intOf i).toNat)
  case atStart => exact ⟨0, Nat.zero_le _, rfl, rfl, rfl⟩
  case round =>
    obtain ⟨k, hk, rfl, rfl, rfl⟩ := hrel
    by_cases hlt : k < l.length
    · have hck := hc.out k hlt
      have hik := hI.out k hlt
      have hts := take_sum l k hlt
      generalize l.getD k 0 = x at *
      generalize (l.take k).sum = s at *
      have Hts : Hid ((l.take (k + 1)).sum = s + x) := hts
      have Hik : Hid (I64 x) := hik
      clear hts hik
      go_wp2_with (simp only [add64_w])
      go_round
      case rel =>
        refine ⟨k + 1, by omega, by go_num, ?_, ?_⟩
        · rw [Hts.out, IntKind.wrap_u64, IntKind.wrap_u64, IntKind.wrap_u64, ← hiW_step s x Hik.out]
        · rw [Hts.out]
      case measure => simp [RowKit.intOf]; omega
    · have hk2 : k = l.length := by omega
      subst hk2
      have hb := sum_bound l l.length (Nat.le_refl _) hI.out
      rw [List.take_length] at hb ⊢
      by_cases hs : -9223372036854775808 ≤ l.sum ∧ l.sum ≤ 9223372036854775807
      · obtain ⟨t1, t2⟩ := sum_yes l.sum (by omega) hs
        have T2 : Hid (wrap64 (loW l.sum) = l.sum) := t2
        have Hs : Hid (-9223372036854775808 ≤ l.sum ∧ l.sum ≤ 9223372036854775807) := hs
        clear t2 hb hI hc hs
        go_wp2
        go_ret2
        refine ⟨?_, rfl⟩
        unfold sumV sumE; rw [if_pos Hs.out, if_pos Hs.out]
        show Ending.returned (.tuple #[.int .i64 (wrap64 (loW l.sum)), .nilIface]) = _
        rw [T2.out]
      · have t1 := sum_no l.sum (by omega) hs
        have Hs : Hid (¬ (-9223372036854775808 ≤ l.sum ∧ l.sum ≤ 9223372036854775807)) := hs
        clear hb hI hc hs
        go_wp2
        go_ret2
        refine ⟨?_, rfl⟩
        unfold sumV sumE; rw [if_neg Hs.out, if_neg Hs.out]; rfl

theorem sum_nil (w : World) :
    Calls Try.prog 36 #[.slice none 0 0] w fun e w' => e = .returned (.tuple #[.int .i64 0, .nilIface]) ∧ w' = w := by
  go_enter Try.func36, Try.ntmps36
  go_wp2
  refine wp_loop_rounds 1 ?_
  rw [rounds_succ]
  go_wp2
  go_ret2
  exact ⟨rfl, rfl⟩

theorem sum_zero (a : Option Addr) (cap : Nat) (w : World) :
    Calls Try.prog 36 #[.slice a 0 cap] w fun e w' => e = .returned (.tuple #[.int .i64 0, .nilIface]) ∧ w' = w := by
  go_enter Try.func36, Try.ntmps36
  go_wp2
  refine wp_loop_rounds 1 ?_
  rw [rounds_succ]
  go_wp2
  go_ret2
  exact ⟨rfl, rfl⟩

/-- Of a list in the call's own memory. -/
theorem sum_own (base n : Nat) (e : TypeId) (v : Value) (l : List Int) (w : World) (hlen : n ≤ 140737488355328) (hI : Hid (∀ i, i < l.length → I64 (l.getD i 0)))
    (hown : Hid (w.ownsRow base e 1 v n (l.map (Value.int .i64)))) :
    Calls Try.prog 36 #[v] w fun e w' => e = .returned (.tuple #[.int .i64 (sumV l.sum), sumE l.sum]) ∧ w' = w := by
  obtain ⟨hl, ⟨rfl, hn⟩ | ⟨g, cap, cur, rfl, hg⟩⟩ := hown.out
  · have : l = [] := by
      subst hn; simpa using hl
    subst this
    exact sum_nil w
  · have hn : l.length = n := by simpa using hl
    refine sum_run g 0 cap n l w hn (by omega) hI ?_
    intro i hi
    have := hown.out.cells (g := g) rfl i (.int .i64 (l.getD i 0)) (by simp [hi])
    rcases Nat.eq_zero_or_pos i with rfl | hp
    · simpa [Addr.add] using this
    · simpa [Addr.add, Nat.ne_of_gt hp] using this

theorem sum_fit (s : Int) (h : -9223372036854775808 ≤ s ∧ s ≤ 9223372036854775807) : sumV s = s ∧ sumE s = .nilIface := by
  unfold sumV sumE; rw [if_pos h, if_pos h]; exact ⟨rfl, rfl⟩
theorem sum_nofit (s : Int) (h : ¬ (-9223372036854775808 ≤ s ∧ s ≤ 9223372036854775807)) : sumV s = 0 ∧ sumE s = .iface 41 (.int .i64 10) := by
  unfold sumV sumE; rw [if_neg h, if_neg h]; exact ⟨rfl, rfl⟩

theorem moneyAdd_any (x y : Int) (w : World) (hx : I64 x) (hy : I64 y) :
    Calls Try.prog 26 #[.int .i64 x, .int .i64 y] w fun e w' => e = .returned (.tuple #[.int .i64 (sumV (x + y)), sumE (x + y)]) ∧ ∃ c, w' = w.alloc c := by
  have hI : Hid (∀ i, i < [x, y].length → I64 ([x, y].getD i 0)) := by
    intro i hi
    match i, hi with
    | 0, _ => exact hx
    | 1, _ => exact hy
  have hs : [x, y].sum = x + y := by simp
  have Hs : Hid ([x, y].sum = x + y) := hs
  clear hs
  go_enter Try.func26, Try.ntmps26
  go_wp2_with fail
  refine (sum_run w.heap.size 0 2 2 [x, y] _ rfl (by simp) hI ?_).mono ?_
  · intro i hi
    match i, hi with
    | 0, _ => simp
    | 1, _ => simp
  · rintro e w' ⟨rfl, hw⟩
    rw [hw, Hs.out]; clear hw w'
    go_wp2
    go_ret2
    exact ⟨rfl, _, rfl⟩
end Go.Proofs.Ythaidbicimiljaa

namespace Go.Proofs.Ythaidbicimiljaa
set_option linter.unusedVariables false
set_option linter.unusedSimpArgs false
set_option maxRecDepth 100000
open Go.RowKit Go.Lib Math

/-- A slice of numbers. -/
structure IsInts (w : World) (a : Option Addr) (am : List Int) (cap : Nat) : Prop where
  cap : am.length ≤ cap
  fits : ∀ k, k < am.length → I64 (am.getD k 0)
  lies : am = [] ∨ ∃ b off, a = some ⟨b, off, none⟩ ∧ b < w.heap.size ∧ ∀ k, k < am.length → w.cell? ⟨b, off + k, none⟩ = some (.int .i64 (am.getD k 0))

theorem IsInts.below {w w' : World} {a : Option Addr} {am : List Int} {cap : Nat} (h : IsInts w a am cap) (hb : Below w.heap.size w w') : IsInts w' a am cap := by
  refine ⟨h.cap, h.fits, ?_⟩
  rcases h.lies with h | ⟨b, off, e, hlt, hc⟩
  · exact .inl h
  · exact .inr ⟨b, off, e, by have := hb.size; omega, fun k hk => (hb.cell (p := ⟨b, off + k, none⟩) hlt).trans (hc k hk)⟩

/-- Numbers in a row of the call's own. -/
def IntRow (w : World) (n : Nat) (v : Value) (xs : List Int) : Prop := w.ownsRow n 3 1 v xs.length (xs.map (Value.int .i64))

theorem int_info : (Try.prog.info? 3).map (fun i => (i.zero, i.size, i.bytes)) = some (some (.int .i64 0), 1, 8) := by kernel_rfl

/-- What chart.Roll's function has done. -/
def RJ (u : World) (n0 B1 : Nat) (am : List Int) (gc : Option Nat) (pre : List Nat) (W : World) : Prop :=
  ∃ v, Boxed W B1 25 v ∧ IntRow W n0 v (pre.map fun i => am.getD i 0) ∧ v.ownBlock = gc ∧ Below u.heap.size u W

set_option maxHeartbeats 4000000 in
theorem roll1_call (u : World) (n0 B1 B2 : Nat) (a2 : Option Addr) (l : List Ac) (am : List Int) (cap2 : Nat) (hlen : l.length ≤ 60) (hal : am.length = l.length) (hin : IsInts u a2 am cap2) (h1 : u.heap.size ≤ B1) (h2 : u.cell? ⟨B2, 0, none⟩ = some (.slice a2 am.length cap2)) (hn1 : B1 < n0)
    (gc : Option Nat) (pre : List Nat) (i : Nat) (W : World) (hJ : RJ u n0 B1 am gc pre W) (hi : i < l.length) (hp : pre.length ≤ i) (hn : n0 ≤ W.heap.size) :
    Calls Try.prog 35 #[.int .i64 (i : Nat), .pointer (some ⟨B1, 0, none⟩), .pointer (some ⟨B2, 0, none⟩)] W fun e w' => e = .returned (.tuple #[]) ∧ ∃ gc', RJ u n0 B1 am gc' (pre ++ [i]) w' ∧ (gc' = gc ∨ ∃ h, gc' = some h ∧ W.heap.size ≤ h) ∧ W.heap.size ≤ w'.heap.size ∧ ∀ b, b < W.heap.size → n0 ≤ b → some b ≠ gc → w'.heap[b]? = W.heap[b]? := by
  obtain ⟨v, bx, row, rfl, bel⟩ := hJ
  obtain ⟨i0, hi0, hz0, hz1, hz2⟩ := info_parts int_info
  have hB2 : B2 < u.heap.size := World.block_lt_of_cell? _ _ h2
  have cB2 : W.cell? ⟨B2, 0, none⟩ = some (.slice a2 am.length cap2) := (bel.cell (p := ⟨B2, 0, none⟩) hB2).trans h2
  rcases (hin.below bel).lies with h | ⟨b, off, rfl, hlt, hc⟩
  · rw [h] at hal; simp at hal; omega
  have hval := hc i (by omega)
  clear hc hlt
  generalize hcd : am.getD i 0 = c at hval
  have cB1 := bx.cell
  have fB1 := bx.frozen
  have j0 : (0 : Int) ≤ i := by omega
  have j1 : (i : Int) < am.length := by omega
  have hown : ∀ x, v.ownBlock = some x → n0 ≤ x := fun x hx => by
    rcases row.2 with ⟨rfl, _⟩ | ⟨g, cp, cur, rfl, hg, _⟩
    · cases hx
    · cases hx; exact hg
  have Hrow1 : Hid (W.ownsRow n0 3 1 v pre.length ((pre.map fun i => am.getD i 0).map (Value.int .i64))) := by
    have := row
    unfold IntRow at this
    rw [List.length_map] at this
    exact this
  have Hrow2 : Hid ((W.alloc (.cells #[.int .i64 c] 3)).drew.ownsRow n0 3 1 v pre.length ((pre.map fun i => am.getD i 0).map (Value.int .i64))) := World.ownsRow.drew (World.ownsRow.alloc Hrow1.out _)
  have Hpre : pre.length ≤ 60 := by omega
  have cB1' : (W.alloc (.cells #[.int .i64 c] 3)).cell? ⟨B1, 0, none⟩ = some v := (bx.alloc _).cell
  have Hbx2 : Hid (Boxed (W.alloc (.cells #[.int .i64 c] 3)).drew B1 25 v) := bx.alloc _
  have Hcd : Hid (_ = c) := hcd
  clear hcd
  have K1 : Hid (∀ j u, [Value.int .i64 c][j]? = some u → (W.alloc (.cells #[.int .i64 c] 3)).drew.cell? ((⟨W.heap.size, 0, none⟩ : Addr).add j) = some u) := fun j u h => cell_one_new W (.int .i64 c) 3 j u h
  have s1 : ∀ u ∈ [Value.int .i64 c], u.oneCell' = true := by intro u hu; simp at hu; subst hu; rfl
  have s2 : Hid (pre.length + 1 ≤ maxLen) := by unfold Hid maxLen; omega
  have s3 : Hid ((pre.length + 1) * 8 ≤ 140737488355328) := by unfold Hid; omega
  have s4 : Hid (n0 ≤ (W.alloc (.cells #[.int .i64 c] 3)).drew.heap.size) := by unfold Hid; simp; omega
  have s5 : Hid ((W.alloc (.cells #[.int .i64 c] 3)).drew.heap.size = W.heap.size + 1) := by unfold Hid; simp
  have s6 : Hid (some B1 ≠ v.ownBlock) := Hbx2.out.not_row (by decide) Hrow2.out
  go_enter Try.func35, Try.ntmps35
  go_wp2_with fail
  go_region_law (refine step_append_lies _ rfl (.tmp 4) (.tmp 9) 25 rfl n0 3 i0 (.int .i64 0) 1 8 Try.underlying25 hi0 hz0 hz1 hz2 rfl (Nat.zero_lt_one) v pre.length _ rfl Hrow2.out ⟨W.heap.size, 0, none⟩ 1 1 [.int .i64 c] rfl rfl K1.out s1 (Nat.zero_lt_one) s2.out s3.out s4.out (W.heap.size + 1) s5.out ?_; intro g' cap' w1 hown' hgrow hat hlt2; have bx3 := Hbx2.out.kept hgrow s6.out; have cx := bx3.cell; have fx := bx3.frozen)
  all_goals
    have fin := box_end (T := 25) (e := 3) (by decide) bx hn1 hn Hrow1.out hown' hgrow hat
    go_wp2
    go_end0
    obtain ⟨f1, f2, f3, f4, f5, f6⟩ := fin
    refine ⟨rfl, some g', ⟨_, f1, ?_, rfl, f6 _ _ h1 bel⟩, f3, f4, ?_⟩
    · unfold IntRow
      have e1 : (pre ++ [i]).map (fun i => am.getD i 0) = (pre.map fun i => am.getD i 0) ++ [c] := by rw [List.map_append, ← Hcd.out]; rfl
      rw [e1, List.map_append, List.length_append, List.length_map]
      exact f2
    · intro x hx hx2 hx3
      exact f5 x hx (by omega) hx3

theorem roll1_does (u : World) (n0 B1 B2 : Nat) (a : Option Addr) (cap : Nat) (a2 : Option Addr) (l : List Ac) (am : List Int) (cap2 : Nat) (hlen : l.length ≤ 60) (hal : am.length = l.length) (hsl : IsSl u a l cap) (hin : IsInts u a2 am cap2) (h1 : u.heap.size ≤ B1) (h2 : u.cell? ⟨B2, 0, none⟩ = some (.slice a2 am.length cap2)) (hn1 : B1 < n0) :
    Does 35 (.pointer (some ⟨B1, 0, none⟩), .pointer (some ⟨B2, 0, none⟩)) n0 a l cap (RJ u n0 B1 am) := by
  refine ⟨fun args W => enters Try.func35 (by kernel_rfl) ⟨_, rfl⟩ args W, fun gc pre i W hJ hi hp hn => roll1_call u n0 B1 B2 a2 l am cap2 hlen hal hin h1 h2 hn1 gc pre i W hJ hi hp hn, ?_, ?_, ?_⟩
  · rintro gc pre W W' row ⟨v, bx, hr, rfl, bel⟩ hg hn hrow
    refine ⟨v, bx.kept hg (fun e => by have := (hrow B1 e.symm).1; omega), World.ownsRow.kept hr hg ?_, rfl, bel.grown hg bel.size (fun j e => by have := (hrow j e).1; omega)⟩
    cases hv : v.ownBlock with
    | none => exact .inl rfl
    | some x => exact .inr (fun e => (hrow x e.symm).2 hv)
  · rintro gc pre W ⟨v, bx, hr, rfl, bel⟩
    exact hsl.below bel
  · rintro gc pre W ⟨v, bx, hr, rfl, bel⟩ b hb
    rcases hr.2 with ⟨rfl, _⟩ | ⟨g, cp, cur, rfl, _, hh, _⟩
    · cases hb
    · cases hb; exact (Array.getElem?_eq_some_iff.1 hh).1
end Go.Proofs.Ythaidbicimiljaa

namespace Go.Proofs.Ythaidbicimiljaa
set_option linter.unusedVariables false
set_option linter.unusedSimpArgs false
set_option maxRecDepth 100000
open Go.RowKit Go.Lib Math

/-- What is under an account, added up. -/
def rollI (l : List Ac) (am : List Int) (i : Nat) : Int := ((und l (l.getD i ac0).code).map fun j => am.getD j 0).sum
def fitB (s : Int) : Bool := decide (-9223372036854775808 ≤ s ∧ s ≤ 9223372036854775807)
def rollOk (l : List Ac) (am : List Int) (k : Nat) : Bool := (List.range k).all fun i => fitB (rollI l am i)
def rollBad (l : List Ac) (am : List Int) : Int := if chBad l ≠ 0 then chBad l else if am.length ≠ l.length then 3 else if rollOk l am l.length = true then 0 else 10

/-- Numbers in a block. -/
def IRow (w : World) (g : Nat) (r : List Int) : Prop := w.heap[g]? = some (.cells (r.map (Value.int .i64)).toArray 3 (0, 0))

theorem irow_cell {w : World} {g : Nat} {r : List Int} (h : IRow w g r) {i : Nat} (hi : i < r.length) : w.cell? ⟨g, i, none⟩ = some (.int .i64 (r.getD i 0)) := by
  unfold IRow at h
  simp [World.cell?, h, hi]
theorem irow_frozen {w : World} {g : Nat} {r : List Int} (h : IRow w g r) (i : Nat) : w.frozen? ⟨g, i, none⟩ = false := by
  unfold IRow at h
  simp [World.frozen?, h]
theorem irow_lt {w : World} {g : Nat} {r : List Int} (h : IRow w g r) : g < w.heap.size := (Array.getElem?_eq_some_iff.1 h).1
theorem irow_below {w w' : World} {n g : Nat} {r : List Int} (h : IRow w g r) (hb : Below n w w') (hg : g < n) : IRow w' g r := (hb.block g hg).trans h
theorem irow_set {w : World} {g : Nat} {r : List Int} (h : IRow w g r) (i : Nat) (x : Int) : IRow (w.setCell ⟨g, i, none⟩ (.int .i64 x)) g (r.set i x) := by
  unfold IRow at *
  obtain ⟨hlt, hk⟩ := Array.getElem?_eq_some_iff.1 h
  show (w.heap.modify g _)[g]? = _
  rw [Array.getElem?_eq_getElem (by rw [Array.size_modify]; exact hlt), Array.getElem_modify_self, hk]
  simp [List.map_set]
theorem irow_made (w : World) (n : Nat) : IRow (w.alloc (.cells (madeCells #[.int .i64 0] n) 3)) w.heap.size (List.replicate n 0) := by
  unfold IRow
  rw [World.alloc_heap_new]
  congr 2
  apply Array.ext
  · simp [madeCells]
  · intro i h1 h2
    simp [madeCells, Nat.mod_one]

theorem row_step (f : Nat → Int) (n k : Nat) (h : k < n) : ((List.range k).map f ++ List.replicate (n - k) 0).set k (f k) = (List.range (k + 1)).map f ++ List.replicate (n - (k + 1)) 0 := by
  rw [List.set_append_right _ _ (by simp)]
  simp only [List.length_map, List.length_range, Nat.sub_self]
  obtain ⟨m, hm⟩ : ∃ m, n - k = m + 1 := ⟨n - k - 1, by omega⟩
  rw [hm, List.replicate_succ, List.set_cons_zero, List.range_succ, List.map_append, List.append_assoc, show n - (k + 1) = m by omega]
  rfl

theorem rollOk_succ (l : List Ac) (am : List Int) (k : Nat) : rollOk l am (k + 1) = (rollOk l am k && fitB (rollI l am k)) := by
  unfold rollOk
  rw [List.range_succ, List.all_append]
  simp

theorem rollOk_false {l : List Ac} {am : List Int} {k n : Nat} (hk : k < n) (h : fitB (rollI l am k) = false) : rollOk l am n = false := by
  unfold rollOk
  rw [List.all_eq_false]
  exact ⟨k, List.mem_range.2 hk, by simp [h]⟩

/-- What a call of chart.Roll hands back. -/
def RollEnd (l : List Ac) (am : List Int) (w : World) (e : Ending) (w' : World) : Prop :=
  Below w.heap.size w w' ∧ (rollBad l am ≠ 0 → e = .returned (.tuple #[.slice none 0 0, chE (rollBad l am)])) ∧
  (rollBad l am = 0 → ∃ g, e = .returned (.tuple #[.slice (some ⟨g, 0, none⟩) l.length l.length, .nilIface]) ∧ w.heap.size ≤ g ∧ IRow w' g ((List.range l.length).map (rollI l am)))

set_option maxHeartbeats 1000000 in
theorem roll_bad (a : Option Addr) (cap : Nat) (l : List Ac) (a2 : Option Addr) (n2 cap2 : Nat) (w : World) (h : IsSl w a l cap) (h0 : chBad l ≠ 0) :
    Calls Try.prog 19 #[.slice a l.length cap, .slice a2 n2 cap2] w fun e w' => e = .returned (.tuple #[.slice none 0 0, chE (chBad l)]) ∧ Below w.heap.size w w' := by
  have b0 : Below w.heap.size w (w.alloc (.cells #[.slice a2 n2 cap2] 25)) := (Below.refl _ w).alloc (Nat.le_refl _) _
  have HC := chCheck_any a cap l (w.alloc (.cells #[.slice a2 n2 cap2] 25)) (h.below b0)
  rw [chE_ne h0] at HC ⊢
  clear h h0
  generalize chBad l = bad at *
  go_enter Try.func19, Try.ntmps19
  go_wp2_with fail
  refine HC.mono ?_
  rintro e w1 ⟨rfl, hb1⟩
  go_wp2
  go_ret2
  exact ⟨rfl, b0.trans (hb1.mono (by simp))⟩

set_option maxHeartbeats 1000000 in
theorem roll_shape (a : Option Addr) (cap : Nat) (l : List Ac) (a2 : Option Addr) (n2 cap2 : Nat) (w : World) (h : IsSl w a l cap) (h0 : chBad l = 0) (hne : n2 ≠ l.length) :
    Calls Try.prog 19 #[.slice a l.length cap, .slice a2 n2 cap2] w fun e w' => e = .returned (.tuple #[.slice none 0 0, chE 3]) ∧ Below w.heap.size w w' := by
  have b0 : Below w.heap.size w (w.alloc (.cells #[.slice a2 n2 cap2] 25)) := (Below.refl _ w).alloc (Nat.le_refl _) _
  have HC := chCheck_any a cap l (w.alloc (.cells #[.slice a2 n2 cap2] 25)) (h.below b0)
  rw [h0, chE_zero] at HC
  have hne' : ((n2 : Int) != l.length) = true := by simp; omega
  clear h h0
  go_enter Try.func19, Try.ntmps19
  go_wp2_with fail
  refine HC.mono ?_
  rintro e w1 ⟨rfl, hb1⟩
  have cb : w1.cell? ⟨w.heap.size, 0, none⟩ = some (.slice a2 n2 cap2) := by
    rw [hb1.cell (p := ⟨w.heap.size, 0, none⟩) (by simp)]
    simp
  go_wp2
  go_ret2
  exact ⟨rfl, b0.trans (hb1.mono (by simp))⟩

theorem am_fits {w : World} {a : Option Addr} {am : List Int} {cap : Nat} (h : IsInts w a am cap) (j : Nat) : I64 (am.getD j 0) := by
  by_cases hj : j < am.length
  · exact h.fits j hj
  · have : am.getD j 0 = 0 := by simp [List.getD, List.getElem?_eq_none (Nat.le_of_not_lt hj)]
    rw [this]
    unfold I64
    omega

/-- One round's call: those under an account, and their amounts. -/
theorem roll_round (a : Option Addr) (cap : Nat) (l : List Ac) (a2 : Option Addr) (am : List Int) (cap2 : Nat) (u : World) (B2 k : Nat) (hk : k < l.length) (h0 : chBad l = 0) (hal : am.length = l.length) (hsl : IsSl u a l cap) (hin : IsInts u a2 am cap2) (h2 : u.cell? ⟨B2, 0, none⟩ = some (.slice a2 am.length cap2)) :
    Calls Try.prog 34 #[.slice a l.length cap, .string (l.getD k ac0).code, .func (.func 35) #[] #[.pointer (some ⟨u.heap.size, 0, none⟩), .pointer (some ⟨B2, 0, none⟩)]] (u.alloc (.cells #[.slice none 0 0] 25)) fun e w' => e = .returned (.tuple #[]) ∧ Below u.heap.size u w' ∧ ∃ v, w'.cell? ⟨u.heap.size, 0, none⟩ = some v ∧ Calls Try.prog 36 #[v] w' fun e w'' => e = .returned (.tuple #[.int .i64 (sumV (rollI l am k)), sumE (rollI l am k)]) ∧ w'' = w' := by
  have hlen := chBad_len h0
  have hs : (u.alloc (.cells #[.slice none 0 0] 25)).heap.size = u.heap.size + 1 := by simp
  have D := roll1_does u (u.alloc (.cells #[.slice none 0 0] 25)).heap.size u.heap.size B2 a cap a2 l am cap2 hlen hal hsl hin (Nat.le_refl _) h2 (by omega)
  refine (eachUnder_any _ _ a cap l _ _ _ hlen D ⟨_, Boxed.new u _ _, World.ownsRow_nil _ _ _ _, rfl, (Below.refl _ _).alloc (Nat.le_refl _) _⟩).mono ?_
  rintro e w' ⟨rfl, gc, ⟨v, bx, row, _, bel⟩, _⟩
  refine ⟨rfl, bel, v, bx.cell, ?_⟩
  have hI : Hid (∀ i, i < ((und l (l.getD k ac0).code).map fun j => am.getD j 0).length → I64 (((und l (l.getD k ac0).code).map fun j => am.getD j 0).getD i 0)) := fun i hi => by
    have hi' : i < (und l (l.getD k ac0).code).length := by simpa using hi
    have : ((und l (l.getD k ac0).code).map fun j => am.getD j 0).getD i 0 = am.getD ((und l (l.getD k ac0).code)[i]'hi') 0 := by
      rw [List.getD_eq_getElem?_getD, List.getElem?_map, List.getElem?_eq_getElem hi']; rfl
    rw [this]
    exact am_fits hin _
  refine sum_own _ _ 3 v ((und l (l.getD k ac0).code).map fun j => am.getD j 0) w' ?_ hI row
  rw [List.length_map, und_eq h0 hk]
  have := List.length_filter_le (isU l k) (List.range l.length)
  simp only [List.length_range] at this
  unfold undL
  omega

set_option maxHeartbeats 4000000 in
theorem roll_some (b off cap : Nat) (l : List Ac) (a2 : Option Addr) (am : List Int) (cap2 : Nat) (w : World) (hb : b < w.heap.size) (hcap : l.length ≤ cap) (hc : AcsAt w b off l) (h0 : chBad l = 0) (hal : am.length = l.length) (hin : IsInts w a2 am cap2) :
    Calls Try.prog 19 #[.slice (some ⟨b, off, none⟩) l.length cap, .slice a2 l.length cap2] w (RollEnd l am w) := by
  have hlen := chBad_len h0
  have Hlen : (l.length : Int) ≤ 60 := by omega
  have hsl : IsSl w (some ⟨b, off, none⟩) l cap := ⟨hcap, .inr ⟨b, off, rfl, hb, hc⟩⟩
  have b0 : Below w.heap.size w (w.alloc (.cells #[.slice a2 l.length cap2] 25)) := (Below.refl _ w).alloc (Nat.le_refl _) _
  have HC := chCheck_any (some ⟨b, off, none⟩) cap l (w.alloc (.cells #[.slice a2 l.length cap2] 25)) (hsl.below b0)
  rw [h0, chE_zero] at HC
  have hmk := fun w => run_make_row' (P := Try.prog) 25 3 (.int .i64 0) 8 Try.underlying25 int_info rfl .i64 .i64 l.length (by omega) (by omega) w
  obtain ⟨wA, hwA⟩ : ∃ wA, w.alloc (.cells #[.slice a2 l.length cap2] 25) = wA := ⟨_, rfl⟩
  have hA1 : wA.heap.size = w.heap.size + 1 := by rw [← hwA]; simp
  have hA2 : wA.cell? ⟨w.heap.size, 0, none⟩ = some (.slice a2 l.length cap2) := by rw [← hwA]; simp
  have bA : Below w.heap.size w wA := by rw [← hwA]; exact b0
  have HR : Hid (∀ W, Below wA.heap.size wA W → ∀ k, k < l.length → Calls Try.prog 34 #[.slice (some ⟨b, off, none⟩) l.length cap, .string (l.getD k ac0).code, .func (.func 35) #[] #[.pointer (some ⟨W.heap.size, 0, none⟩), .pointer (some ⟨w.heap.size, 0, none⟩)]] (W.alloc (.cells #[.slice none 0 0] 25)) fun e w' => e = .returned (.tuple #[]) ∧ Below W.heap.size W w' ∧ ∃ v, w'.cell? ⟨W.heap.size, 0, none⟩ = some v ∧ Calls Try.prog 36 #[v] w' fun e w'' => e = .returned (.tuple #[.int .i64 (sumV (rollI l am k)), sumE (rollI l am k)]) ∧ w'' = w') := fun W hW k hk => by
    have B := bA.trans (hW.mono (by omega))
    exact roll_round _ cap l a2 am cap2 W w.heap.size k hk h0 hal (hsl.below B) (hin.below B) (by rw [hal]; exact (hW.cell (p := ⟨w.heap.size, 0, none⟩) (by rw [hA1]; exact Nat.lt_succ_self _)).trans hA2)
  have Hc : Hid (∀ W, Below wA.heap.size wA W → ∀ k, k < l.length → AcAt W b (off + k * 5) (l.getD k ac0)) := fun W hW k hk => (hc k hk).below (bA.trans (hW.mono (by omega))) hb
  have Hbad : Hid (rollBad l am = if rollOk l am l.length = true then 0 else 10) := by unfold Hid rollBad; rw [if_neg (by omega), if_neg (by omega)]
  rw [hwA] at HC
  clear hc hsl b0 h0 hin hal
  go_enter Try.func19, Try.ntmps19
  go_wp2_with fail
  refine HC.mono ?_
  rintro e w1 ⟨rfl, hb1⟩
  have cb : w1.cell? ⟨w.heap.size, 0, none⟩ = some (.slice a2 l.length cap2) := (hb1.cell (p := ⟨w.heap.size, 0, none⟩) (by rw [hA1]; exact Nat.lt_succ_self _)).trans hA2
  have hs1 := hb1.size
  have hrow := irow_made w1 l.length
  have B2 := hb1.alloc hs1 (.cells (madeCells #[.int .i64 0] l.length) 3)
  clear hwA hA2 HC hb1
  go_wp2
  clear hmk cb
  go_loopw [29] (fun i wr => ∃ k : Nat, k ≤ l.length ∧ i = .int .i64 k ∧ Hid (IRow wr w1.heap.size ((List.range k).map (rollI l am) ++ List.replicate (l.length - k) 0) ∧ Below wA.heap.size wA wr ∧ rollOk l am k = true)) (fun i _ => l.length - (RowKit.intOf i).toNat)
  case atStart => exact ⟨0, Nat.zero_le _, rfl, by simpa using hrow, B2, rfl⟩
  case round =>
    obtain ⟨k, hk, rfl, H⟩ := hrel
    obtain ⟨R, BW, hok⟩ := H.out
    clear H
    by_cases hlt : k < l.length
    · have hn := Hc.out wr BW k hlt
      have BU := BW.alloc BW.size (.cells (l.getD k ac0).cells 53)
      have hx := AcAt.new wr (l.getD k ac0) 53
      have hcall := HR.out (wr.alloc (.cells (l.getD k ac0).cells 53)) BU k hlt
      have hok2 := rollOk_succ l am k
      rw [hok, Bool.true_and] at hok2
      have hbd := @rollOk_false l am k l.length hlt
      have hst := row_step (rollI l am) l.length k hlt
      have hrl : ((List.range k).map (rollI l am) ++ List.replicate (l.length - k) 0).length = l.length := by simp; omega
      have hG := irow_lt R
      generalize rollI l am k = s at *
      generalize l.getD k ac0 = x at *
      have hsz : (wr.alloc (.cells x.cells 53)).heap.size = wr.heap.size + 1 := by simp
      rw [hsz] at hcall
      obtain ⟨x0, x1, x2, x3, x4⟩ := x
      obtain ⟨c0, c1, c2, c3, c4⟩ := hn
      simp only [Ac.cells] at c0 c1 c2 c3 c4 hx BU hcall hsz
      have RU : Hid (IRow _ w1.heap.size _) := irow_below R (((Below.refl wr.heap.size wr).alloc (Nat.le_refl _) (.cells #[.string x0, .string x1, .int .i64 x2, .string x3, .bool x4] 53))) hG
      have HBU : Hid (Below _ _ _) := BU
      have Hcall : Hid (Calls _ _ _ _ _) := hcall
      have Hst : Hid (_ = _) := hst
      have Hok : Hid (rollOk l am (k + 1) = fitB s) := hok2
      have Hbd : Hid (fitB s = false → rollOk l am l.length = false) := hbd
      clear R BW hok hok2 hbd hst hcall BU
      have j0 : (0 : Int) ≤ k := by omega
      have j1 : (k : Int) < l.length := by omega
      go_wp2_with fail
      refine Hcall.out.mono ?_
      rintro e w2 ⟨rfl, hb2, v, cv, hsum⟩
      have B3 := HBU.out.trans (hb2.mono (by have := HBU.out.size; omega))
      have R3 := irow_below RU.out hb2 (by omega)
      clear Hcall RU HBU hx c0 c1 c2 c3 c4 hb2
      have HR3 : Hid (IRow _ _ _) := R3
      have HB3 : Hid (Below _ _ _) := B3
      have HS : Hid (Calls _ _ _ _ _) := hsum
      clear hsum
      by_cases hf : -9223372036854775808 ≤ s ∧ s ≤ 9223372036854775807
      · obtain ⟨e1, e2⟩ := sum_fit s hf
        rw [e1, e2] at HS
        have hfb : fitB s = true := by simp [fitB, hf]
        have rc := irow_cell R3 (i := k) (by rw [hrl]; exact hlt)
        have rf := irow_frozen R3 k
        have hset := irow_set R3 k s
        rw [Hst.out] at hset
        have Hset : Hid (IRow _ _ _) := hset
        have hB4 : Hid (Below wA.heap.size wA (w2.setCell ⟨w1.heap.size, k, none⟩ (.int .i64 s))) := B3.setCell (p := ⟨w1.heap.size, k, none⟩) hs1 _
        clear R3 B3 HR3 HB3 hset hf e1 e2
        generalize ((List.range k).map (rollI l am) ++ List.replicate (l.length - k) 0).getD k 0 = z at rc
        go_wp2_with fail
        refine HS.out.mono ?_
        rintro e w3 ⟨rfl, hw⟩
        rw [hw]; clear hw w3
        go_wp2
        go_roundw
        case rel => exact ⟨k + 1, by omega, by go_num, Hset.out, hB4.out, by rw [Hok.out]; exact hfb⟩
        case measure => simp [RowKit.intOf]; omega
      · obtain ⟨e1, e2⟩ := sum_nofit s hf
        rw [e1, e2] at HS
        have hfb : fitB s = false := by simp [fitB]; omega
        have er : rollBad l am = 10 := by rw [Hbad.out, Hbd.out hfb]; rfl
        have ER : Hid (rollBad l am = 10) := er
        clear R3 B3 HR3 hf e1 e2 er
        go_wp2_with fail
        refine HS.out.mono ?_
        rintro e w3 ⟨rfl, hw⟩
        rw [hw]; clear hw w3
        go_wp2
        go_ret2
        refine ⟨bA.trans (HB3.out.mono (by omega)), fun _ => ?_, fun h => ?_⟩
        · rw [ER.out]; rfl
        · rw [ER.out] at h; cases h
    · have hk2 : k = l.length := by omega
      subst hk2
      have er : rollBad l am = 0 := by rw [Hbad.out, hok]; rfl
      have ER : Hid (rollBad l am = 0) := er
      have HRr : Hid (IRow _ _ _) := R
      clear er R hok Hbad
      go_wp2
      go_ret2
      refine ⟨bA.trans (BW.mono (by omega)), fun h => absurd ER.out h, fun _ => ⟨w1.heap.size, rfl, by omega, ?_⟩⟩
      have := HRr.out
      simpa using this

theorem roll_none (a : Option Addr) (cap : Nat) (a2 : Option Addr) (cap2 : Nat) (w : World) :
    Calls Try.prog 19 #[.slice a 0 cap, .slice a2 0 cap2] w fun e w' => Below w.heap.size w w' ∧ ∃ g, e = .returned (.tuple #[.slice (some ⟨g, 0, none⟩) 0 0, .nilIface]) ∧ w.heap.size ≤ g ∧ IRow w' g [] := by
  have b0 : Below w.heap.size w (w.alloc (.cells #[.slice a2 0 cap2] 25)) := (Below.refl _ w).alloc (Nat.le_refl _) _
  have HC := chCheck_none a cap (w.alloc (.cells #[.slice a2 0 cap2] 25))
  rw [chE_zero] at HC
  have hmk : ∀ w, (Instr.makeSlice 25 (.int .i64 0) (.int .i64 0)).run Try.prog w = .ok (.slice (some ⟨w.heap.size, 0, none⟩) 0 0) (w.alloc (.cells (madeCells #[.int .i64 0] 0) 3)) := fun w => run_make_row' (P := Try.prog) 25 3 (.int .i64 0) 8 Try.underlying25 int_info rfl .i64 .i64 0 (by omega) (by omega) w
  go_enter Try.func19, Try.ntmps19
  go_wp2_with fail
  refine HC.mono ?_
  rintro e w1 ⟨rfl, hb1⟩
  have cb : w1.cell? ⟨w.heap.size, 0, none⟩ = some (.slice a2 0 cap2) := by
    rw [hb1.cell (p := ⟨w.heap.size, 0, none⟩) (by simp)]
    simp
  have hs1 : w.heap.size + 1 ≤ w1.heap.size := by have := hb1.size; simpa using this
  have B2 := (b0.trans (hb1.mono (by simp))).alloc (by omega) (.cells (madeCells #[.int .i64 0] 0) 3)
  have hrow := irow_made w1 0
  go_wp2
  refine wp_loop_rounds 1 ?_
  rw [rounds_succ]
  go_wp2
  go_ret2
  exact ⟨B2, _, rfl, by omega, hrow⟩

theorem roll_any (a : Option Addr) (cap : Nat) (l : List Ac) (a2 : Option Addr) (am : List Int) (cap2 : Nat) (w : World) (h : IsSl w a l cap) (hin : IsInts w a2 am cap2) :
    Calls Try.prog 19 #[.slice a l.length cap, .slice a2 am.length cap2] w (RollEnd l am w) := by
  by_cases h0 : chBad l = 0
  · by_cases hal : am.length = l.length
    · rcases h.lies with rfl | ⟨b, off, rfl, hlt, hc⟩
      · have : am = [] := List.eq_nil_of_length_eq_zero hal
        subst this
        refine (roll_none a cap a2 cap2 w).mono ?_
        rintro e w' ⟨B, g, rfl, hg, hr⟩
        exact ⟨B, fun h => absurd rfl h, fun _ => ⟨g, rfl, hg, hr⟩⟩
      · rw [hal]
        exact roll_some b off cap l a2 am cap2 w hlt h.cap hc h0 hal hin
    · have er : rollBad l am = 3 := by unfold rollBad; rw [if_neg (by omega), if_pos hal]
      refine (roll_shape a cap l a2 am.length cap2 w h h0 hal).mono ?_
      rintro e w' ⟨rfl, B⟩
      exact ⟨B, fun _ => by rw [er], fun h => by rw [er] at h; cases h⟩
  · have er : rollBad l am = chBad l := by unfold rollBad; rw [if_pos h0]
    refine (roll_bad a cap l a2 am.length cap2 w h h0).mono ?_
    rintro e w' ⟨rfl, B⟩
    exact ⟨B, fun _ => by rw [er], fun h => by rw [er] at h; exact absurd h h0⟩
end Go.Proofs.Ythaidbicimiljaa

namespace Go.Proofs.Ythaidbicimiljaa
set_option linter.unusedVariables false
set_option linter.unusedSimpArgs false
set_option maxRecDepth 100000
open Go.RowKit Go.Lib Math

/-- Of which account. -/
def amIx (c : List Ac) (x : Bl) : Int := idxP (hasCode x.acc) c
def isOf (ent : Int) (cur : ByteArray) (x : Bl) : Bool := decide (x.ent = ent ∧ x.cur = cur)
def amAt (c : List Ac) (ent : Int) (cur : ByteArray) (r : List Int) (x : Bl) : List Int := if isOf ent cur x = true then r.set (amIx c x).toNat x.amt else r
def amTo (c : List Ac) (ent : Int) (cur : ByteArray) (l : List Bl) : List Int := l.foldl (amAt c ent cur) (List.replicate c.length 0)
def amNo (c : List Ac) (ent : Int) (cur : ByteArray) (x : Bl) : Bool := isOf ent cur x && decide (amIx c x < 0)
theorem amTo_snoc (c : List Ac) (ent : Int) (cur : ByteArray) (l : List Bl) (k : Nat) (h : k < l.length) : amTo c ent cur (l.take (k + 1)) = amAt c ent cur (amTo c ent cur (l.take k)) (l.getD k bl0) := by
  rw [bls_take l k h, amTo, List.foldl_append]; rfl
theorem amAt_length (c : List Ac) (ent : Int) (cur : ByteArray) (r : List Int) (x : Bl) : (amAt c ent cur r x).length = r.length := by
  unfold amAt; split <;> simp
theorem amTo_length (c : List Ac) (ent : Int) (cur : ByteArray) (l : List Bl) : (amTo c ent cur l).length = c.length := by
  have key : ∀ (l : List Bl) (r : List Int), (l.foldl (amAt c ent cur) r).length = r.length := by
    intro l
    induction l with
    | nil => intro r; rfl
    | cons x l ih => intro r; rw [List.foldl_cons, ih, amAt_length]
  rw [amTo, key]; simp
theorem amAny_snoc (p : Bl → Bool) (l : List Bl) (k : Nat) (h : k < l.length) : (l.take (k + 1)).any p = ((l.take k).any p || p (l.getD k bl0)) := by
  rw [bls_take l k h, List.any_append]; simp
theorem any_of_at {p : Bl → Bool} {l : List Bl} {k : Nat} (h : k < l.length) (hp : p (l.getD k bl0) = true) : l.any p = true := List.any_eq_true.2 ⟨_, bls_mem l k h, hp⟩
/-- Amounts of 64 bits. -/
theorem amTo_fits (c : List Ac) (ent : Int) (cur : ByteArray) (l : List Bl) (h : ∀ x ∈ l, I64 x.amt) : ∀ k, k < (amTo c ent cur l).length → I64 ((amTo c ent cur l).getD k 0) := by
  have key : ∀ (l : List Bl) (r : List Int), (∀ x ∈ l, I64 x.amt) → (∀ k, k < r.length → I64 (r.getD k 0)) → ∀ k, k < (l.foldl (amAt c ent cur) r).length → I64 ((l.foldl (amAt c ent cur) r).getD k 0) := by
    intro l
    induction l with
    | nil => intro r _ h; exact h
    | cons x l ih =>
      intro r hl hr
      rw [List.foldl_cons]
      refine ih _ (fun y hy => hl y (List.mem_cons_of_mem _ hy)) (fun k hk => ?_)
      have hx := hl x (List.mem_cons_self ..)
      rw [amAt_length] at hk
      unfold amAt
      split
      · rw [List.getD_eq_getElem?_getD, List.getElem?_set]
        split
        · split
          · exact hx
          · simp only [Option.getD_none]; exact ⟨by omega, by omega⟩
        · rw [← List.getD_eq_getElem?_getD]; exact hr k hk
      · exact hr k hk
  refine key l _ h (fun k hk => ?_)
  rw [List.length_replicate] at hk
  rw [List.getD_eq_getElem?_getD, List.getElem?_replicate, if_pos hk]
  exact ⟨by simp, by simp⟩

end Go.Proofs.Ythaidbicimiljaa
