/-
  The contracts of math/bits.Add64, money.Sum and money.Add: a sum, or none where it is not of 64 bits.
-/
import Derived.Test.YtffekgndlhleiaaDoorRows
import Derived.Test.YtffekgndlhleiaaDoorMath
import Derived.WalkKit
import Derived.WalkSpells
import Derived.Laws.Externs
import Derived.Below
namespace Go.Proofs.YtffekgndlhleiaaDoor
set_option linter.unusedVariables false
open Go.RowKit Math

theorem add64_any (x y : Int) (hx : 0 ≤ x) (hy : 0 ≤ y) (hx2 : x < 18446744073709551616) (hy2 : y < 18446744073709551616) (w : World) :
    (callFunc 17 #[.int .u64 x, .int .u64 y, .int .u64 0]).run Tryd.prog w =
      .ok (.value (.tuple #[.int .u64 ((x + y) % 18446744073709551616), .int .u64 ((x + y) / 18446744073709551616)])) w := by
  obtain ⟨x, rfl⟩ := Int.eq_ofNat_of_zero_le hx
  obtain ⟨y, rfl⟩ := Int.eq_ofNat_of_zero_le hy
  rw [run_callFunc_extern Tryd.func17 (by kernel_rfl) (by kernel_rfl) (by kernel_rfl) (e := add64Entry) (by kernel_rfl)]
  have h := run_add64 (P := Tryd.prog) x y 0 (by omega) (by omega) (by omega) (by omega) w
  rw [h]
  simp only [Result.andThen, Int.add_zero]

theorem add64_w (s x : Int) (w : World) : (callFunc 17 #[.int .u64 (loW s), .int .u64 (IntKind.u64.wrap x), .int .u64 0]).run Tryd.prog w =
      .ok (.value (.tuple #[.int .u64 (loW (s + x)), .int .u64 (cW s x)])) w := by
  have b1 := loW_bd s
  have b2 := loW_bd x
  have e : IntKind.u64.wrap x = loW x := IntKind.wrap_u64 x
  rw [e, add64_any _ _ b1.1 b2.1 b1.2 b2.2, loW_add]
  rfl

theorem take_sum (l : List Int) (k : Nat) (h : k < l.length) : (l.take (k + 1)).sum = (l.take k).sum + l.getD k 0 := by
  rw [List.take_succ_eq_append_getElem h, List.sum_append]
  simp [h]

/-- What is handed back beside a sum. -/
def sumV (s : Int) : Int := if -9223372036854775808 ≤ s ∧ s ≤ 9223372036854775807 then s else 0
def sumE (s : Int) : Value := if -9223372036854775808 ≤ s ∧ s ≤ 9223372036854775807 then .nilIface else .iface 51 (.int .i64 10)

theorem sum_bound (l : List Int) (k : Nat) (h : k ≤ l.length) (hI : ∀ i, i < l.length → I64 (l.getD i 0)) :
    -((k : Int) * 9223372036854775808) ≤ (l.take k).sum ∧ (l.take k).sum ≤ (k : Int) * 9223372036854775808 := by
  induction k with
  | zero => simp
  | succ k ih =>
    have := ih (by omega)
    have h2 := hI k (by omega)
    unfold I64 at h2
    rw [take_sum l k (by omega)]
    omega

theorem wrap64_lo (s : Int) : wrap64 (loW s) = if loW s < 9223372036854775808 then loW s else loW s - 18446744073709551616 := by
  have := loW_bd s
  unfold wrap64; split <;> omega
theorem sum_yes (s : Int) (h : -170141183460469231731687303715884105728 ≤ s ∧ s < 170141183460469231731687303715884105728) (hs : -9223372036854775808 ≤ s ∧ s ≤ 9223372036854775807) :
    (hiW s != IntKind.u64.wrap (wrap64 (loW s) / 9223372036854775808)) = false ∧ wrap64 (loW s) = s := by
  have hf := sum_fits s h _ rfl
  rw [← wrap64_lo] at hf
  rw [IntKind.wrap_u64]
  exact ⟨by rw [bne_eq_false_iff_eq]; exact hf.1.2 hs, hf.2 hs⟩
theorem sum_no (s : Int) (h : -170141183460469231731687303715884105728 ≤ s ∧ s < 170141183460469231731687303715884105728) (hs : ¬ (-9223372036854775808 ≤ s ∧ s ≤ 9223372036854775807)) :
    (hiW s != IntKind.u64.wrap (wrap64 (loW s) / 9223372036854775808)) = true := by
  have hf := sum_fits s h _ rfl
  rw [← wrap64_lo] at hf
  rw [IntKind.wrap_u64, bne_iff_ne]
  exact fun e => hs (hf.1.1 e)

theorem sum_run (b off cap n : Nat) (l : List Int) (w : World) (hn : l.length = n) (hlen : l.length ≤ 140737488355328) (hI : Hid (∀ i, i < l.length → I64 (l.getD i 0)))
    (hc : Hid (∀ i, i < l.length → w.cell? ⟨b, off + i, none⟩ = some (.int .i64 (l.getD i 0)))) :
    Calls Tryd.prog 9 #[.slice (some ⟨b, off, none⟩) n cap] w fun e w' => e = .returned (.tuple #[.int .i64 (sumV l.sum), sumE l.sum]) ∧ w' = w := by
  subst hn
  go_enter Tryd.func9, Tryd.ntmps9
  go_wp2
  go_loop [4, 5, 12] (fun hi lo i => ∃ k : Nat, k ≤ l.length ∧ i = .int .i64 k ∧ hi = .int .u64 (hiW (l.take k).sum) ∧ lo = .int .u64 (loW (l.take k).sum)) (fun _ _ i => l.length - (intOf i).toNat)
  case atStart => exact ⟨0, Nat.zero_le _, rfl, rfl, rfl⟩
  case round =>
    obtain ⟨k, hk, rfl, rfl, rfl⟩ := hrel
    by_cases hlt : k < l.length
    · have hck := hc.out k hlt
      have hik := hI.out k hlt
      have hts := take_sum l k hlt
      generalize l.getD k 0 = x at *
      generalize (l.take k).sum = s at *
      have Hts : Hid ((l.take (k + 1)).sum = s + x) := hts
      have Hik : Hid (I64 x) := hik
      clear hts hik
      go_wp2_with (simp only [add64_w])
      go_round
      case rel =>
        refine ⟨k + 1, by omega, by go_num, ?_, ?_⟩
        · rw [Hts.out, IntKind.wrap_u64, IntKind.wrap_u64, IntKind.wrap_u64, ← hiW_step s x Hik.out]
        · rw [Hts.out]
      case measure => simp [intOf]; omega
    · have hk2 : k = l.length := by omega
      subst hk2
      have hb := sum_bound l l.length (Nat.le_refl _) hI.out
      rw [List.take_length] at hb ⊢
      by_cases hs : -9223372036854775808 ≤ l.sum ∧ l.sum ≤ 9223372036854775807
      · obtain ⟨t1, t2⟩ := sum_yes l.sum (by omega) hs
        have T2 : Hid (wrap64 (loW l.sum) = l.sum) := t2
        have Hs : Hid (-9223372036854775808 ≤ l.sum ∧ l.sum ≤ 9223372036854775807) := hs
        clear t2 hb hI hc hs
        go_wp2
        go_ret2
        refine ⟨?_, rfl⟩
        unfold sumV sumE; rw [if_pos Hs.out, if_pos Hs.out]
        show Ending.returned (.tuple #[.int .i64 (wrap64 (loW l.sum)), .nilIface]) = _
        rw [T2.out]
      · have t1 := sum_no l.sum (by omega) hs
        have Hs : Hid (¬ (-9223372036854775808 ≤ l.sum ∧ l.sum ≤ 9223372036854775807)) := hs
        clear hb hI hc hs
        go_wp2
        go_ret2
        refine ⟨?_, rfl⟩
        unfold sumV sumE; rw [if_neg Hs.out, if_neg Hs.out]; rfl

theorem sum_nil (w : World) :
    Calls Tryd.prog 9 #[.slice none 0 0] w fun e w' => e = .returned (.tuple #[.int .i64 0, .nilIface]) ∧ w' = w := by
  go_enter Tryd.func9, Tryd.ntmps9
  go_wp2
  refine wp_loop_rounds 1 ?_
  rw [rounds_succ]
  go_wp2
  go_ret2
  exact ⟨rfl, rfl⟩

theorem sum_zero (a : Option Addr) (cap : Nat) (w : World) :
    Calls Tryd.prog 9 #[.slice a 0 cap] w fun e w' => e = .returned (.tuple #[.int .i64 0, .nilIface]) ∧ w' = w := by
  go_enter Tryd.func9, Tryd.ntmps9
  go_wp2
  refine wp_loop_rounds 1 ?_
  rw [rounds_succ]
  go_wp2
  go_ret2
  exact ⟨rfl, rfl⟩

/-- Of a list in the call's own memory. -/
theorem sum_own (base n : Nat) (e : TypeId) (v : Value) (l : List Int) (w : World) (hlen : n ≤ 140737488355328) (hI : Hid (∀ i, i < l.length → I64 (l.getD i 0)))
    (hown : Hid (w.ownsRow base e 1 v n (l.map (Value.int .i64)))) :
    Calls Tryd.prog 9 #[v] w fun e w' => e = .returned (.tuple #[.int .i64 (sumV l.sum), sumE l.sum]) ∧ w' = w := by
  obtain ⟨hl, ⟨rfl, hn⟩ | ⟨g, cap, cur, rfl, hg⟩⟩ := hown.out
  · have : l = [] := by
      subst hn; simpa using hl
    subst this
    exact sum_nil w
  · have hn : l.length = n := by simpa using hl
    refine sum_run g 0 cap n l w hn (by omega) hI ?_
    intro i hi
    have := hown.out.cells (g := g) rfl i (.int .i64 (l.getD i 0)) (by simp [hi])
    rcases Nat.eq_zero_or_pos i with rfl | hp
    · simpa [Addr.add] using this
    · simpa [Addr.add, Nat.ne_of_gt hp] using this

theorem sum_fit (s : Int) (h : -9223372036854775808 ≤ s ∧ s ≤ 9223372036854775807) : sumV s = s ∧ sumE s = .nilIface := by
  unfold sumV sumE; rw [if_pos h, if_pos h]; exact ⟨rfl, rfl⟩
theorem sum_nofit (s : Int) (h : ¬ (-9223372036854775808 ≤ s ∧ s ≤ 9223372036854775807)) : sumV s = 0 ∧ sumE s = .iface 51 (.int .i64 10) := by
  unfold sumV sumE; rw [if_neg h, if_neg h]; exact ⟨rfl, rfl⟩

end Go.Proofs.YtffekgndlhleiaaDoor
