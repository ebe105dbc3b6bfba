/-
  The contract of quarterdaybig's sum: two numbers with their signs, added up.
-/
import Derived.Test.YtiolkeipgpkbmaaGreatDoorZg5
import Derived.Laws.Bits64b
import Derived.WalkKit
import Derived.Laws.AppendOwn
import Derived.OwnWalk
import Derived.Deep.RegionWith
import Derived.Deep.QuietTactic
import Derived.BigQuiet
namespace Go.Proofs.YtiolkeipgpkbmaaGreatDoor
set_option linter.unusedVariables false
set_option linter.unusedSimpArgs false
set_option maxRecDepth 100000
open Go.RowKit Big

theorem bits_or_u32_nat (a b : Nat) (ha : a < 4294967296) (hb : b < 4294967296) : bits .or .u32 (a : Int) (b : Int) = ((a ||| b : Nat) : Int) := by
  have hx : a ||| b < 2 ^ 32 := Nat.or_lt_two_pow (by omega) (by omega)
  have h1 : (BitVec.ofInt 32 (a : Int)).toNat = a := by
    rw [BitVec.ofInt_natCast, BitVec.toNat_ofNat]; exact Nat.mod_eq_of_lt (by omega)
  have h2 : (BitVec.ofInt 32 (b : Int)).toNat = b := by
    rw [BitVec.ofInt_natCast, BitVec.toNat_ofNat]; exact Nat.mod_eq_of_lt (by omega)
  show IntKind.u32.wrap ((BitVec.ofInt 32 (a : Int) ||| BitVec.ofInt 32 (b : Int)).toNat : Int) = _
  rw [BitVec.toNat_or, h1, h2]
  generalize a ||| b = c at *
  simp only [IntKind.wrap, IntKind.bits, IntKind.signed]
  simp
  omega
theorem set_next (A : List Nat) (i z : Nat) : (A.set i z).getD (i + 1) 0 = A.getD (i + 1) 0 := by
  rw [List.getD_eq_getElem?_getD, List.getElem?_set_ne (by omega), ← List.getD_eq_getElem?_getD]
theorem or_carry {s c x : Nat} (hs : s < 32) (hc : c < 2 ^ s) : bits .or .u32 (c : Int) ((x * 2 ^ s % 4294967296 : Nat) : Int) = ((c + x * 2 ^ s % 4294967296 : Nat) : Int) := by
  have h1 := pow_le_32 hs
  have h2 := mod_mult (x := x) hs
  rw [bits_or_u32_nat _ _ (by omega) (by omega)]
  have h3 : x * 2 ^ s % 4294967296 = 2 ^ s * (x % 2 ^ (32 - s)) := by
    rw [← pow_split32 hs, Nat.mul_comm (2 ^ s) (2 ^ (32 - s)), Nat.mul_mod_mul_right, Nat.mul_comm]
  rw [h3]
  have h4 := Nat.two_pow_add_eq_or_of_lt hc (x % 2 ^ (32 - s))
  rw [Nat.or_comm, ← h4, Nat.add_comm]

set_option maxHeartbeats 4000000 in
theorem left_any (v : Value) (l : List Nat) (s : Nat) (w : World) (h : Wd w v l) (h0 : 0 < l.length) (hs : s < 32) (hl : l.length ≤ 1000) :
    Calls Tryz.prog 112 #[v, .int .u64 ((s : Nat) : Int)] w fun e w' => ∃ v' l', e = .returned v' ∧ Hid (Wd w' v' l' ∧ Nrm l' ∧ val l' = val l * 2 ^ s ∧ w.grownBy w' none) := by
  obtain ⟨aa, ca, rfl, la, Oa, Fa⟩ := h.form
  obtain ⟨b, off, rfl, hb, hc⟩ := Fa.out h0
  have hmk := fun w => run_make_row' (P := Tryz.prog) 81 166 (.int .u32 0) 4 Tryz.underlying81 Tryz.infoW rfl .i64 .i64 (l.length + 1) (by omega) (by omega) w
  rw [show ((l.length + 1 : Nat) : Int) = (l.length : Int) + 1 by omega] at hmk
  have n0 : ((l.length : Int) == 0) = false := by rw [beq_eq_false_iff_ne]; omega
  have s1 : (s : Int).tdiv 32 = 0 := by rw [Int.tdiv_eq_ediv_of_nonneg (by omega)]; omega
  have s2 : (s : Int).tmod 32 = s := by rw [Int.tmod_eq_emod_of_nonneg (by omega)]; omega
  have s3 : (s : Int) / 32 = 0 := by omega
  have s4 : (s : Int) % 32 = s := by omega
  have i1 : (l.length : Int) ≤ 1000 := by omega
  have Hc : Hid (∀ wr, w.grownBy wr none → ∀ i, i < l.length → wr.cell? ⟨b, off + i, none⟩ = some (.int .u32 (l.getD i 0 : Nat))) := fun wr hg i hi => hg.cell (hc i hi) (by simp)
  have H0 : Hid (RowAt (w.alloc (.cells (madeCells #[.int .u32 0] (l.length + 1)) 166)) w.heap.size (shlSt s l 0) ∧ w.grownBy (w.alloc (.cells (madeCells #[.int .u32 0] (l.length + 1)) 166)) none) := by
    refine ⟨?_, World.grownBy_alloc _ _ _⟩
    unfold RowAt
    rw [shlSt_zero, ← made_row]
    exact alloc_blk _ _
  have HNx : Hid (∀ i, i < l.length → ∃ cy, cy < 2 ^ s ∧ (shlSt s l i).getD i 0 = cy ∧ (shlSt s l i).getD (i + 1) 0 = 0 ∧ ((shlSt s l i).set i (cy + l.getD i 0 * 2 ^ s % 4294967296)).set (i + 1) (l.getD i 0 * 2 ^ s / 4294967296) = shlSt s l (i + 1)) := fun i hi => shlSt_next hs l Oa.out i hi
  have HLen : Hid (∀ i, i ≤ l.length → (shlSt s l i).length = l.length + 1) := fun i hi => shlSt_len s l i hi
  have HEnd : Hid (∀ wr, RowAt wr w.heap.size (shlSt s l l.length) → Wd wr (.slice (some ⟨w.heap.size, 0, none⟩) (l.length + 1) (l.length + 1)) (shlL s 0 l)) := fun wr hr => by
    rw [shlSt_all] at hr
    have := row_wd hr (shlL_ok hs 0 l (Nat.pow_pos (by omega)) Oa.out) (by rw [shlL_len]; omega) (l.length + 1) (by rw [shlL_len]; omega)
    rw [shlL_len] at this
    exact this
  have HVal : Hid (val (shlL s 0 l) = val l * 2 ^ s) := by rw [shlL_val, Nat.zero_add]; exact rfl
  have HOk : Hid (Ok l) := Oa
  obtain ⟨w0, hw0⟩ : ∃ w0, w.alloc (.cells (madeCells #[.int .u32 0] (l.length + 1)) 166) = w0 := ⟨_, rfl⟩
  rw [hw0] at H0
  have HW0 : Hid (w.alloc (.cells (madeCells #[.int .u32 0] (l.length + 1)) 166) = w0) := hw0
  obtain ⟨g, hg⟩ : ∃ g, w.heap.size = g := ⟨_, rfl⟩
  have Hg : Hid (w.heap.size = g) := hg
  rw [hg] at H0 HEnd
  clear h Fa hc hw0 Oa hg
  go_enter Tryz.func112, Tryz.ntmps112
  go_wp2
  rw [HW0.out, Hg.out]
  clear HW0 hmk
  go_loopw [8] (fun ix wr => ∃ i : Nat, i ≤ l.length ∧ ix = .int .i64 i ∧ Hid (RowAt wr g (shlSt s l i) ∧ w.grownBy wr none)) (fun ix _ => l.length - (RowKit.intOf ix).toNat)
  case atStart => exact ⟨0, Nat.zero_le _, rfl, H0⟩
  case round =>
    obtain ⟨i, hi, rfl, HR⟩ := hrel
    by_cases hil : i < l.length
    · obtain ⟨r1, r2⟩ := HR.out
      have cx := Hc.out wr r2 i hil
      obtain ⟨cy, k1, k2, k3, k4⟩ := HNx.out i hil
      have hx := HOk.out i hil
      have len := HLen.out i hi
      generalize l.getD i 0 = x at *
      have c1 := row_cell r1 (i := i) (by rw [len]; omega)
      rw [k2] at c1
      have f1 := row_frozen r1 i
      have R1 := row_set r1 i (cy + x * 2 ^ s % 4294967296)
      have c2 := row_cell R1 (i := i + 1) (by rw [List.length_set, len]; omega)
      rw [set_next, k3] at c2
      have f2 := row_frozen R1 (i + 1)
      have R2 := row_set R1 (i + 1) (x * 2 ^ s / 4294967296)
      rw [k4] at R2
      have hgw : w.heap.size ≤ g := by rw [Hg.out]; exact Nat.le_refl _
      have HN : Hid (RowAt ((wr.setCell ⟨g, i, none⟩ (.int .u32 ((cy + x * 2 ^ s % 4294967296 : Nat) : Int))).setCell ⟨g, i + 1, none⟩ (.int .u32 ((x * 2 ^ s / 4294967296 : Nat) : Int))) g (shlSt s l (i + 1)) ∧ w.grownBy ((wr.setCell ⟨g, i, none⟩ (.int .u32 ((cy + x * 2 ^ s % 4294967296 : Nat) : Int))).setCell ⟨g, i + 1, none⟩ (.int .u32 ((x * 2 ^ s / 4294967296 : Nat) : Int))) none) := ⟨R2, gset (gset r2 (p := ⟨g, i, none⟩) hgw _) (p := ⟨g, i + 1, none⟩) hgw _⟩
      have ro := or_carry (x := x) hs k1
      have hcl := carry_lt (x := x) hs hx
      have hpl := pow_le_32 hs
      have hmm := mod_mult (x := x) hs
      have hY : x * 2 ^ s < 18446744073709551616 := by
        have h1 : x * 2 ^ s ≤ 4294967295 * 4294967296 := Nat.mul_le_mul (by omega) hpl
        omega
      have hHi : x * 2 ^ s / 4294967296 < 4294967296 := by omega
      have hLo : x * 2 ^ s % 4294967296 < 4294967296 := by omega
      have hSu : cy + x * 2 ^ s % 4294967296 < 4294967296 := by omega
      have ro2 : bits .or .u32 0 ((x * 2 ^ s / 4294967296 : Nat) : Int) = ((x * 2 ^ s / 4294967296 : Nat) : Int) := by
        have := bits_or_u32_nat 0 (x * 2 ^ s / 4294967296) (by omega) hHi
        rw [Nat.zero_or] at this
        exact this
      have rY : IntKind.u64.wrap ((x : Int) * 2 ^ s) = ((x * 2 ^ s : Nat) : Int) := by
        rw [show ((x : Int) * 2 ^ s) = ((x * 2 ^ s : Nat) : Int) by simp, IntKind.wrap_u64]
        omega
      clear HR r1 r2 k1 k2 k3 k4 R1 R2 hpl hmm len hcl
      generalize x * 2 ^ s = Y at *
      have rL : IntKind.u32.wrap (Y : Int) = ((Y % 4294967296 : Nat) : Int) := by
        simp only [IntKind.wrap, IntKind.bits, IntKind.signed]
        simp
      have rH : (Y : Int) / 4294967296 = ((Y / 4294967296 : Nat) : Int) := by omega
      generalize Y % 4294967296 = Lo at *
      generalize Y / 4294967296 = Hi at *
      generalize cy + Lo = Su at *
      have j0 : (0 : Int) ≤ i := by omega
      have j1 : (i : Int) < l.length := by omega
      have j2 : (i : Int) < (l.length : Int) + 1 := by omega
      have j3 : (i : Int) + 1 < (l.length : Int) + 1 := by omega
      have j4 : (0 : Int) ≤ (i : Int) + 1 := by omega
      have j5 : ((i : Int) + 1).toNat = i + 1 := by omega
      have hI : (Hi : Int) < 4294967296 := by omega
      go_wp2
      go_roundw
      case rel => exact ⟨i + 1, by omega, by go_num, HN⟩
      case measure => simp [RowKit.intOf]; omega
    · have ei : i = l.length := by omega
      subst ei
      obtain ⟨r1, r2⟩ := HR.out
      have HT : Hid (Calls _ _ _ _ _) := trim_any _ (shlL s 0 l) wr (HEnd.out wr r1)
      have Hr2 : Hid (w.grownBy wr none) := r2
      have HNr : Hid (Nrm ((shlL s 0 l).take (tl (shlL s 0 l) (shlL s 0 l).length)) ∧ val ((shlL s 0 l).take (tl (shlL s 0 l) (shlL s 0 l).length)) = val l * 2 ^ s) := by
        refine ⟨nrm_tl _ _ (Nat.le_refl _), ?_⟩
        rw [val_tl _ _ (Nat.le_refl _), List.take_length]; exact HVal.out
      generalize (shlL s 0 l).take (tl (shlL s 0 l) (shlL s 0 l).length) = L' at *
      have j1 : ¬ (l.length : Int) < l.length := by omega
      clear HR r1 r2 HEnd HVal HNx HLen Hc H0
      go_wp2_with fail
      refine HT.out.mono ?_
      rintro e w' ⟨⟨v', rfl, hv⟩, hw⟩
      rw [hw]; clear hw w' HT
      have HF : Hid (Wd wr v' L' ∧ Nrm L' ∧ val L' = val l * 2 ^ s ∧ w.grownBy wr none) := ⟨hv, HNr.out.1, HNr.out.2, Hr2.out⟩
      clear hv HNr Hr2
      go_wp2
      go_ret
      exact ⟨_, _, rfl, HF⟩

theorem or_high (x y : Nat) (hx : x < 4294967296) (hy : y < 4294967296) : bits .or .u64 (x : Int) ((y : Int) * 4294967296) = ((x + 4294967296 * y : Nat) : Int) := by
  rw [show (y : Int) * 4294967296 = ((y * 4294967296 : Nat) : Int) by omega, bits_or_u64_nat _ _ (by omega) (by omega)]
  have := Nat.two_pow_add_eq_or_of_lt (i := 32) (b := x) (by omega) y
  rw [Nat.or_comm, Nat.mul_comm y 4294967296, Nat.add_comm]
  exact congrArg _ this.symm

set_option maxHeartbeats 4000000 in
theorem right_any (v : Value) (l : List Nat) (s : Nat) (w : World) (h : Wd w v l) (hs : s < 32) (hl : l.length ≤ 1000) :
    Calls Tryz.prog 113 #[v, .int .u64 ((s : Nat) : Int)] w fun e w' => ∃ v' l', e = .returned v' ∧ Hid (Wd w' v' l' ∧ Nrm l' ∧ val l' = val l / 2 ^ s ∧ w.grownBy w' none) := by
  have s1 : (s : Int).tdiv 32 = 0 := by rw [Int.tdiv_eq_ediv_of_nonneg (by omega)]; omega
  have s2 : (s : Int).tmod 32 = s := by rw [Int.tmod_eq_emod_of_nonneg (by omega)]; omega
  have s3 : (s : Int) / 32 = 0 := by omega
  have s4 : (s : Int) % 32 = s := by omega
  obtain ⟨aa, ca, rfl, la, Oa, Fa⟩ := h.form
  rcases Nat.eq_zero_or_pos l.length with h0 | h0
  · have e0 : l = [] := List.eq_nil_of_length_eq_zero h0
    subst e0
    clear h Fa Oa h0 la
    go_enter Tryz.func113, Tryz.ntmps113
    go_wp2
    go_ret
    exact ⟨_, [], rfl, wd_nil _ _ _, .inl rfl, by simp [val], grefl _ _⟩
  obtain ⟨b, off, rfl, hb, hc⟩ := Fa.out h0
  have hmk := fun w => run_make_row' (P := Tryz.prog) 81 166 (.int .u32 0) 4 Tryz.underlying81 Tryz.infoW rfl .i64 .i64 l.length (by omega) (by omega) w
  have i1 : (l.length : Int) ≤ 1000 := by omega
  have i2 : ¬ (l.length : Int) ≤ 0 := by omega
  have i3 : ¬ l = [] := fun e => by rw [e] at h0; simp at h0
  have Hc : Hid (∀ wr, w.grownBy wr none → ∀ i, i < l.length → wr.cell? ⟨b, off + i, none⟩ = some (.int .u32 (l.getD i 0 : Nat))) := fun wr hg i hi => hg.cell (hc i hi) (by simp)
  have H0 : Hid (RowAt (w.alloc (.cells (madeCells #[.int .u32 0] l.length) 166)) w.heap.size (shrSt s l 0) ∧ w.grownBy (w.alloc (.cells (madeCells #[.int .u32 0] l.length) 166)) none) := by
    refine ⟨?_, World.grownBy_alloc _ _ _⟩
    unfold RowAt
    rw [shrSt_zero, ← made_row]
    exact alloc_blk _ _
  have HEnd : Hid (∀ wr, RowAt wr w.heap.size (shrSt s l l.length) → Wd wr (.slice (some ⟨w.heap.size, 0, none⟩) l.length l.length) (shrL s l)) := fun wr hr => by
    rw [shrSt_all] at hr
    have := row_wd hr (shrL_ok hs l Oa.out) (by rw [shrL_len]; omega) l.length (by rw [shrL_len]; exact Nat.le_refl _)
    rw [shrL_len] at this
    exact this
  have HVal : Hid (val (shrL s l) = val l / 2 ^ s) := shrL_val hs l Oa.out
  have HNx : Hid (∀ i, i < l.length → (shrSt s l i).set i ((shrL s l).getD i 0) = shrSt s l (i + 1)) := fun i hi => shrSt_next s l i hi
  have HLen : Hid (∀ i, i ≤ l.length → (shrSt s l i).length = l.length) := fun i hi => shrSt_len s l i hi
  have HAt : Hid (∀ i, i < l.length → (shrL s l).getD i 0 = if i + 1 < l.length then (l.getD i 0 + 4294967296 * l.getD (i + 1) 0) / 2 ^ s % 4294967296 else l.getD i 0 / 2 ^ s) := fun i hi => shrL_at s l i hi
  have HOk : Hid (Ok l) := Oa
  obtain ⟨w0, hw0⟩ : ∃ w0, w.alloc (.cells (madeCells #[.int .u32 0] l.length) 166) = w0 := ⟨_, rfl⟩
  rw [hw0] at H0
  have HW0 : Hid (w.alloc (.cells (madeCells #[.int .u32 0] l.length) 166) = w0) := hw0
  obtain ⟨g, hg⟩ : ∃ g, w.heap.size = g := ⟨_, rfl⟩
  have Hg : Hid (w.heap.size = g) := hg
  rw [hg] at H0 HEnd
  clear h Fa hc hw0 Oa hg
  go_enter Tryz.func113, Tryz.ntmps113
  go_wp2
  rw [HW0.out, Hg.out]
  clear HW0 hmk
  go_loopw [8] (fun ix wr => ∃ i : Nat, i ≤ l.length ∧ ix = .int .i64 i ∧ Hid (RowAt wr g (shrSt s l i) ∧ w.grownBy wr none)) (fun ix _ => l.length - (RowKit.intOf ix).toNat)
  case atStart => exact ⟨0, Nat.zero_le _, rfl, H0⟩
  case round =>
    obtain ⟨i, hi, rfl, HR⟩ := hrel
    by_cases hil : i < l.length
    · obtain ⟨r1, r2⟩ := HR.out
      have cx := Hc.out wr r2 i hil
      have hx := HOk.out i hil
      have len := HLen.out i hi
      have hnx := HNx.out i hil
      have hat := HAt.out i hil
      have c1 := row_cell r1 (i := i) (by rw [len]; exact hil)
      have f1 := row_frozen r1 i
      have hgw : w.heap.size ≤ g := by rw [Hg.out]; exact Nat.le_refl _
      have HN : Hid (∀ z, (shrL s l).getD i 0 = z → RowAt (wr.setCell ⟨g, i, none⟩ (.int .u32 (z : Int))) g (shrSt s l (i + 1)) ∧ w.grownBy (wr.setCell ⟨g, i, none⟩ (.int .u32 (z : Int))) none) := fun z hz => by
        have R1 := row_set r1 i z
        rw [← hz, hnx] at R1
        rw [← hz]
        exact ⟨R1, gset r2 (p := ⟨g, i, none⟩) hgw _⟩
      generalize (shrSt s l i).getD i 0 = old at c1
      have hp : 0 < 2 ^ s := Nat.pow_pos (by omega)
      have j0 : (0 : Int) ≤ i := by omega
      have j1 : (i : Int) < l.length := by omega
      by_cases hl2 : i + 1 < l.length
      · have cy := Hc.out wr r2 (i + 1) hl2
        have hy := HOk.out (i + 1) hl2
        rw [if_pos hl2] at hat
        rw [hat] at HN
        generalize l.getD i 0 = x at *
        generalize l.getD (i + 1) 0 = y at *
        have ro := or_high x y hx hy
        have rs : IntKind.u64.wrap ((y : Int) * 4294967296) = ((y * 4294967296 : Nat) : Int) := by
          rw [IntKind.wrap_u64]; omega
        have hZb : x + 4294967296 * y < 18446744073709551616 := by omega
        generalize x + 4294967296 * y = Z at *
        have rd : (Z : Int) / 2 ^ s = ((Z / 2 ^ s : Nat) : Int) := by simp
        have hq : Z / 2 ^ s ≤ Z := Nat.div_le_self _ _
        generalize hQ : Z / 2 ^ s = Q at *
        have rL : IntKind.u32.wrap (Q : Int) = ((Q % 4294967296 : Nat) : Int) := by
          simp only [IntKind.wrap, IntKind.bits, IntKind.signed]
          simp
        have HN2 := HN.out _ rfl
        have HN3 : Hid (RowAt (wr.setCell ⟨g, i, none⟩ (.int .u32 ((Q % 4294967296 : Nat) : Int))) g (shrSt s l (i + 1)) ∧ w.grownBy (wr.setCell ⟨g, i, none⟩ (.int .u32 ((Q % 4294967296 : Nat) : Int))) none) := HN2
        clear HN HN2 hnx hat hQ
        generalize Q % 4294967296 = Lo at *
        have j2 : (i : Int) + 1 < l.length := by omega
        have j3 : (0 : Int) ≤ (i : Int) + 1 := by omega
        have j5 : ((i : Int) + 1).toNat = i + 1 := by omega
        clear HR r1 r2 len
        go_wp2
        go_roundw
        case rel => exact ⟨i + 1, by omega, by go_num, HN3⟩
        case measure => simp [RowKit.intOf]; omega
      · rw [if_neg hl2] at hat
        rw [hat] at HN
        generalize l.getD i 0 = x at *
        have rd : (x : Int) / 2 ^ s = ((x / 2 ^ s : Nat) : Int) := by simp
        have hq : x / 2 ^ s ≤ x := Nat.div_le_self _ _
        have HN3 : Hid (RowAt (wr.setCell ⟨g, i, none⟩ (.int .u32 ((x / 2 ^ s : Nat) : Int))) g (shrSt s l (i + 1)) ∧ w.grownBy (wr.setCell ⟨g, i, none⟩ (.int .u32 ((x / 2 ^ s : Nat) : Int))) none) := HN.out _ rfl
        clear HN hnx hat
        generalize x / 2 ^ s = Q at *
        have rL : IntKind.u32.wrap (Q : Int) = (Q : Int) := by
          simp only [IntKind.wrap, IntKind.bits, IntKind.signed]
          simp
          omega
        have j2 : ¬ (i : Int) + 1 < l.length := by omega
        clear HR r1 r2 len
        go_wp2
        go_roundw
        case rel => exact ⟨i + 1, by omega, by go_num, HN3⟩
        case measure => simp [RowKit.intOf]; omega
    · have ei : i = l.length := by omega
      subst ei
      obtain ⟨r1, r2⟩ := HR.out
      have HT : Hid (Calls _ _ _ _ _) := trim_any _ (shrL s l) wr (HEnd.out wr r1)
      have Hr2 : Hid (w.grownBy wr none) := r2
      have HNr : Hid (Nrm ((shrL s l).take (tl (shrL s l) (shrL s l).length)) ∧ val ((shrL s l).take (tl (shrL s l) (shrL s l).length)) = val l / 2 ^ s) := by
        refine ⟨nrm_tl _ _ (Nat.le_refl _), ?_⟩
        rw [val_tl _ _ (Nat.le_refl _), List.take_length]; exact HVal.out
      generalize (shrL s l).take (tl (shrL s l) (shrL s l).length) = L' at *
      have j1 : ¬ (l.length : Int) < l.length := by omega
      clear HR r1 r2 HEnd HVal HNx HLen Hc H0
      go_wp2_with fail
      refine HT.out.mono ?_
      rintro e w' ⟨⟨v', rfl, hv⟩, hw⟩
      rw [hw]; clear hw w' HT
      have HF : Hid (Wd wr v' L' ∧ Nrm L' ∧ val L' = val l / 2 ^ s ∧ w.grownBy wr none) := ⟨hv, HNr.out.1, HNr.out.2, Hr2.out⟩
      clear hv HNr Hr2
      go_wp2
      go_ret
      exact ⟨_, _, rfl, HF⟩
end Go.Proofs.YtiolkeipgpkbmaaGreatDoor

namespace Go.Proofs.YtiolkeipgpkbmaaGreatDoor
set_option linter.unusedVariables false
set_option linter.unusedSimpArgs false
open Big

/-- A word less another one, and less what is borrowed. -/
theorem sub_word (u lo d : Nat) (hu : u < 4294967296) (hlo : lo < 4294967296) (hd : d ≤ 1) : ∃ T x e : Nat, IntKind.u64.wrap (IntKind.u64.wrap ((u : Int) - (lo : Int)) - (d : Int)) = (T : Int) ∧ IntKind.u32.wrap (T : Int) = (x : Int) ∧ (T : Int) / 9223372036854775808 = (e : Int) ∧ x < 4294967296 ∧ e ≤ 1 ∧ T < 18446744073709551616 ∧ (u : Int) - lo - d = (x : Int) - 4294967296 * e := by
  by_cases h : lo + d ≤ u
  · refine ⟨u - lo - d, u - lo - d, 0, ?_, ?_, ?_, by omega, by omega, by omega, by omega⟩
    · rw [IntKind.wrap_u64, IntKind.wrap_u64]; omega
    · simp only [IntKind.wrap, IntKind.bits, IntKind.signed]
      simp
      omega
    · omega
  · refine ⟨18446744073709551616 + u - lo - d, 4294967296 + u - lo - d, 1, ?_, ?_, ?_, by omega, by omega, by omega, by omega⟩
    · rw [IntKind.wrap_u64, IntKind.wrap_u64]; omega
    · simp only [IntKind.wrap, IntKind.bits, IntKind.signed]
      simp
      omega
    · omega
/-- The guess times the divisor is taken away: nothing is left above two words. -/
theorem mul_sub {B : Int} {U V g u0 u1 u2 v0 v1 r0 c1 r1 c2 x0 x1 d0 d1 : Int} (hB : 0 < B) (hU : U = u0 + B * u1 + B * B * u2) (hV : V = v0 + B * v1) (e0 : g * v0 = r0 + B * c1) (e1 : c1 + g * v1 = r1 + B * c2) (s0 : u0 - r0 - 0 = x0 - B * d0) (s1 : u1 - r1 - d0 = x1 - B * d1) (h0 : 0 ≤ x0 ∧ x0 < B) (h1 : 0 ≤ x1 ∧ x1 < B) (hg : 0 ≤ U - g * V) (hl : U - g * V < B * B) : u2 - c2 - d1 = 0 ∧ x0 + B * x1 = U - g * V := by
  have key : U - g * V = x0 + B * x1 + B * B * (u2 - c2 - d1) := by
    have a1 : g * V = r0 + B * r1 + B * B * c2 := by
      rw [hV, Int.mul_add, e0, ← Int.mul_assoc, Int.mul_comm g B, Int.mul_assoc]
      have : B * c1 + B * (g * v1) = B * r1 + B * (B * c2) := by rw [← Int.mul_add, e1, Int.mul_add]
      rw [Int.mul_assoc B B c2]
      omega
    have b0 : r0 = u0 - x0 + B * d0 := by omega
    have b1 : r1 = u1 - d0 - x1 + B * d1 := by omega
    rw [a1, hU, b0, b1]
    rw [Int.mul_add B (u1 - d0 - x1), Int.mul_sub B (u1 - d0), Int.mul_sub B u1, Int.mul_sub (B * B) (u2 - c2), Int.mul_sub (B * B) u2, ← Int.mul_assoc B B d1]
    omega
  have hx : 0 ≤ x0 + B * x1 ∧ x0 + B * x1 < B * B := by
    have k1 : B * x1 ≤ B * (B - 1) := Int.mul_le_mul_of_nonneg_left (by omega) (by omega)
    have k2 : 0 ≤ B * x1 := Int.mul_nonneg (by omega) h1.1
    rw [Int.mul_sub, Int.mul_one] at k1
    omega
  have hBB : 0 < B * B := Int.mul_pos hB hB
  generalize u2 - c2 - d1 = z at *
  generalize x0 + B * x1 = y at *
  generalize B * B = C at *
  have hz : z = 0 := by
    rcases Int.lt_trichotomy z 0 with h | h | h
    · have : C * z ≤ C * (-1) := Int.mul_le_mul_of_nonneg_left (by omega) (by omega)
      omega
    · exact h
    · have : C * 1 ≤ C * z := Int.mul_le_mul_of_nonneg_left (by omega) (by omega)
      omega
  subst hz
  exact ⟨rfl, by omega⟩
theorem val_dropF (l : List Nat) (j : Nat) (h : j < l.length) : val (l.drop j) = l.getD j 0 + 4294967296 * val (l.drop (j + 1)) := by
  rw [List.drop_eq_getElem_cons h, val, List.getD_eq_getElem?_getD, List.getElem?_eq_getElem h]
  rfl
theorem val_parts (l : List Nat) (j : Nat) (h : j ≤ l.length) : val l = val (l.take j) + 4294967296 ^ j * val (l.drop j) := by
  have := val_append (l.take j) (l.drop j)
  rw [List.take_append_drop, List.length_take, Nat.min_eq_left h] at this
  exact this
/-- The next round. -/
theorem long_next {A V : Nat} {u q u' : List Nat} {j g : Nat} (h : Long A V u q (j + 1)) (hj : j < 3) (hg : g < 4294967296) (hu : u'.length = 5) (ho : Ok u') (ht : u'.take j = u.take j) (hr : val (u'.drop j) + g * V = val (u.drop j)) (hl : val (u'.drop j) < V) : Long A V u' (q.set j g) j := by
  have hlu := h.lu
  have hlq := h.lq
  refine ⟨hu, by rw [List.length_set]; exact hlq, ho, fun i hi => ?_, ?_, hl⟩
  · rw [List.length_set] at hi
    by_cases e : i = j
    · subst e
      rw [List.getD_eq_getElem?_getD, List.getElem?_set_self hi]
      exact hg
    · rw [List.getD_eq_getElem?_getD, List.getElem?_set_ne (fun x => e x.symm), ← List.getD_eq_getElem?_getD]
      exact h.oq i hi
  · have e1 := h.eq
    rw [val_parts u j (by omega)] at e1
    rw [val_parts u' j (by omega), ht]
    have e2 : val ((q.set j g).drop j) = g + 4294967296 * val (q.drop (j + 1)) := by
      rw [val_dropF _ j (by rw [List.length_set]; omega), List.getD_eq_getElem?_getD, List.getElem?_set_self (by omega), List.drop_set_of_lt (by omega)]
      rfl
    rw [e2, ← e1, ← hr]
    generalize val (q.drop (j + 1)) = Z at *
    generalize val (u'.drop j) = X at *
    generalize val (u.take j) = Y at *
    rw [Nat.pow_succ]
    generalize 4294967296 ^ j = P at *
    rw [Nat.mul_add P X, Nat.mul_add P g, Nat.mul_add V, Nat.mul_assoc P 4294967296 Z]
    have : P * (g * V) = V * (P * g) := by rw [Nat.mul_comm g V, ← Nat.mul_assoc, Nat.mul_comm P V, Nat.mul_assoc]
    omega
end Go.Proofs.YtiolkeipgpkbmaaGreatDoor

namespace Go.Proofs.YtiolkeipgpkbmaaGreatDoor
set_option linter.unusedVariables false
open Go.RowKit Big

/-- How long a number is, in bits. -/
def Bits (n L : Nat) : Prop := (n = 0 ∧ L = 0) ∨ (1 ≤ L ∧ 2 ^ (L - 1) ≤ n ∧ n < 2 ^ L)

theorem pow32 (k : Nat) : 4294967296 ^ k = 2 ^ (32 * k) := by
  rw [Nat.pow_mul]

theorem bits_words {l : List Nat} (ho : Ok l) (h0 : 0 < l.length) (k : Nat) (hk : 1 ≤ k) (h1 : 2 ^ (k - 1) ≤ l.getD (l.length - 1) 0) (h2 : l.getD (l.length - 1) 0 < 2 ^ k) : Bits (val l) ((l.length - 1) * 32 + k) := by
  have e := val_take_succ l (l.length - 1) (by omega)
  rw [Nat.sub_add_cancel h0, List.take_length] at e
  have hlt := val_lt (ok_take ho (l.length - 1))
  rw [List.length_take, Nat.min_eq_left (by omega)] at hlt
  right
  refine ⟨by omega, ?_, ?_⟩
  · rw [show (l.length - 1) * 32 + k - 1 = 32 * (l.length - 1) + (k - 1) by omega, Nat.pow_add, ← pow32, e]
    have := Nat.mul_le_mul_left (4294967296 ^ (l.length - 1)) h1
    omega
  · rw [show (l.length - 1) * 32 + k = 32 * (l.length - 1) + k by omega, Nat.pow_add, ← pow32, e]
    have := Nat.mul_le_mul_left (4294967296 ^ (l.length - 1)) (Nat.succ_le_of_lt h2)
    rw [Nat.succ_eq_add_one, Nat.mul_add, Nat.mul_one] at this
    omega

theorem half_step (x k t : Nat) (h : t = x / 2 ^ k) : t / 2 = x / 2 ^ (k + 1) := by rw [h, Nat.div_div_eq_div_mul, Nat.pow_succ]

set_option maxHeartbeats 1000000 in
theorem length_any (v : Value) (l : List Nat) (w : World) (h : Wd w v l) (hn : Nrm l) (hl : l.length < 35184372088832) :
    Calls Tryz.prog 111 #[v] w fun e w' => (∃ L : Nat, e = .returned (.int .i64 L) ∧ Bits (val l) L) ∧ w' = w := by
  have ho := h.ok
  rcases h.at_ with ⟨h0, a, cap, hv⟩ | ⟨h0, b, off, cap, hv, hb, hcap, hc⟩
  · subst h0; subst hv
    go_enter Tryz.func111, Tryz.ntmps111
    go_wp2
    go_ret
    exact ⟨⟨0, rfl, .inl ⟨rfl, rfl⟩⟩, rfl⟩
  · subst hv
    obtain ⟨j, hj⟩ : ∃ j, l.length = j + 1 := ⟨l.length - 1, by omega⟩
    have hcj := hc j (by omega)
    have hx0 : l.getD j 0 ≠ 0 := by
      rcases hn with hn | hn
      · omega
      · rw [hj] at hn; exact hn
    have hx1 := ho j (by omega)
    have W := fun k hk h1 h2 => bits_words ho h0 k hk h1 h2
    rw [hj, Nat.add_sub_cancel] at W
    rw [hj]
    generalize l.getD j 0 = x at *
    have HW : Hid (∀ k, 1 ≤ k → 2 ^ (k - 1) ≤ x → x < 2 ^ k → Bits (val l) (j * 32 + k)) := W
    have hne : ((j : Int) + 1 == 0) = false := by simp; omega
    have hj2 : (j : Int) < 35184372088832 := by omega
    have Hj : Hid (l.length = j + 1) := hj
    clear hc hn W h ho hj hcap
    go_enter Tryz.func111, Tryz.ntmps111
    go_wp2
    go_loop [3, 4] (fun tn tt => ∃ k t : Nat, k ≤ 32 ∧ (t : Int) < 4294967296 ∧ tn = .int .i64 k ∧ tt = .int .u32 t ∧ Hid (t = x / 2 ^ k ∧ (1 ≤ k → 2 ^ (k - 1) ≤ x))) (fun _ tt => (RowKit.intOf tt).toNat)
    case atStart => exact ⟨0, x, by omega, by omega, rfl, rfl, by simp, fun h => by omega⟩
    case round =>
      obtain ⟨k, t, hk, ht, rfl, rfl, Hk⟩ := hrel
      by_cases hz : t = 0
      · subst hz
        have R : Hid (Bits (val l) (j * 32 + k)) := by
          have h1 := Hk.out.1.symm
          have h2 : x < 2 ^ k := by
            rcases Nat.div_eq_zero_iff.1 h1 with h | h
            · have := Nat.two_pow_pos k; omega
            · exact h
          have hk1 : 1 ≤ k := by
            rcases Nat.eq_zero_or_pos k with rfl | h
            · simp at h2; omega
            · exact h
          exact HW.out k hk1 (Hk.out.2 hk1) h2
        clear Hk HW
        go_wp2
        go_ret
        exact ⟨⟨j * 32 + k, by go_num, R.out⟩, rfl⟩
      · have t1 : ((t : Int) != 0) = true := by simp; omega
        have hk32 : k < 32 := by
          apply Classical.byContradiction
          intro hn
          have h1 := Hk.out.1
          have hk' : k = 32 := by omega
          subst hk'
          rw [Nat.div_eq_of_lt (by omega)] at h1
          exact hz h1
        have R : Hid (t / 2 = x / 2 ^ (k + 1) ∧ (1 ≤ k + 1 → 2 ^ (k + 1 - 1) ≤ x)) := by
          refine ⟨half_step x k t Hk.out.1, fun _ => ?_⟩
          rw [Nat.add_sub_cancel]
          apply Classical.byContradiction
          intro hn
          exact hz (by rw [Hk.out.1]; exact Nat.div_eq_of_lt (by omega))
        have e2 : (t : Int) / 2 = ((t / 2 : Nat) : Int) := by omega
        have h5 : t / 2 < t := by omega
        have h6 : (t / 2 : Nat) < 4294967296 := by omega
        generalize hq : t / 2 = q at *
        clear Hk HW hq
        go_wp2
        go_round
        case rel => exact ⟨k + 1, q, by omega, by omega, by go_num, rfl, R⟩
        case measure => simp [RowKit.intOf]; omega
end Go.Proofs.YtiolkeipgpkbmaaGreatDoor

namespace Go.Proofs.YtiolkeipgpkbmaaGreatDoor
set_option linter.unusedVariables false
open Go.RowKit Big

set_option maxHeartbeats 2000000 in
theorem add_lt (va vb : Value) (a b : List Nat) (w : World) (ha : Wd w va a) (hb : Wd w vb b) (hge : b.length < a.length) (hlen : a.length < 35184372088832) :
    Calls Tryz.prog 114 #[vb, va] w fun e w' => ∃ v l, e = .returned v ∧ Wd w' v l ∧ Nrm l ∧ val l = val a + val b ∧ w.grownBy w' none := by
  obtain ⟨aa, ca, rfl, la, Oa, Fa⟩ := ha.form
  obtain ⟨ab, cb, rfl, lb, Ob, Fb⟩ := hb.form
  clear ha hb la lb
  have hmk := fun w => run_make_row' (P := Tryz.prog) 81 166 (.int .u32 0) 4 Tryz.underlying81 Tryz.infoW rfl .i64 .i64 (a.length + 1) (by omega) (by omega) w
  rw [show ((a.length + 1 : Nat) : Int) = (a.length : Int) + 1 by omega] at hmk
  have hnl : (b.length : Int) < a.length := by omega
  go_enter Tryz.func114, Tryz.ntmps114
  go_wp2
  clear hmk
  go_loopw [6, 7] (fun tc ti wr => ∃ k c : Nat, ∃ r : List Nat, k ≤ a.length ∧ (c : Int) < 4294967296 ∧ tc = .int .u64 c ∧ ti = .int .i64 k ∧ r.length = a.length + 1 ∧ Hid (RowAt wr w.heap.size r) ∧ Hid (Ok r) ∧ Hid (w.grownBy wr none) ∧ Hid (val (r.take k) + 4294967296 ^ k * c = val (a.take k) + val (b.take k))) (fun _ ti _ => a.length - (RowKit.intOf ti).toNat)
  case atStart =>
    refine ⟨0, 0, List.replicate (a.length + 1) 0, by omega, by omega, rfl, rfl, by simp, ?_, ok_replicate _, World.grownBy_alloc _ _ _, ?_⟩
    · show (w.alloc _).heap[w.heap.size]? = _
      rw [alloc_blk, made_row]
    · simp [Hid, val]
  case round =>
    obtain ⟨k, c, r, hk, hc, rfl, rfl, hr, Hrow, Hok, Hg, Hv⟩ := hrel
    by_cases hlt : k < a.length
    · obtain ⟨ba, oa, rfl, hba, hca⟩ := Fa.out (by omega)
      have hxa := (Hg.out.cell (hca k hlt) (by simp))
      have hxb := Oa.out k hlt
      have S := add_step a b r k c (by omega) Hv.out
      have rc := row_cell Hrow.out (i := k) (by omega)
      have rf := row_frozen Hrow.out k
      by_cases hlb : k < b.length
      · obtain ⟨bb, ob, rfl, hbb, hcb⟩ := Fb.out (by omega)
        have hya := (Hg.out.cell (hcb k hlb) (by simp))
        have hyb := Ob.out k hlb
        generalize a.getD k 0 = x at *
        generalize b.getD k 0 = y at *
        generalize r.getD k 0 = z at *
        have e1 : IntKind.u32.wrap ((c : Int) + x + y) = ((c + x + y) % 4294967296 : Nat) := by rw [IntKind.wrap_u32]; omega
        have e2 : ((c : Int) + x + y) / 4294967296 = ((c + x + y) / 4294967296 : Nat) := by omega
        have b3 : (c + x + y) / 4294967296 < 4294967296 := by omega
        have b4 : (c + x + y) % 4294967296 < 4294967296 := Nat.mod_lt _ (by omega)
        generalize (c + x + y) % 4294967296 = d at *
        generalize (c + x + y) / 4294967296 = q at *
        have HS : Hid (val ((r.set k d).take (k + 1)) + 4294967296 ^ (k + 1) * q = val (a.take (k + 1)) + val (b.take (k + 1))) := S
        have b1 : (x : Int) < 4294967296 := by omega
        have b2 : (y : Int) < 4294967296 := by omega
        clear S hca hcb Hv hxb hyb
        go_wp2
        go_roundw
        case rel => exact ⟨k + 1, q, r.set k d, by omega, by omega, rfl, by go_num, by simpa using hr, row_set Hrow.out k d, ok_set Hok.out k d b4, gset Hg.out (Nat.le_refl _) _, HS⟩
        case measure => simp [RowKit.intOf]; omega
      · have hy0 : b.getD k 0 = 0 := by simp [List.getD, List.getElem?_eq_none (Nat.le_of_not_lt hlb)]
        rw [hy0, Nat.add_zero] at S
        generalize a.getD k 0 = x at *
        generalize r.getD k 0 = z at *
        have e1 : IntKind.u32.wrap ((c : Int) + x) = ((c + x) % 4294967296 : Nat) := by rw [IntKind.wrap_u32]; omega
        have e2 : ((c : Int) + x) / 4294967296 = ((c + x) / 4294967296 : Nat) := by omega
        have b3 : (c + x) / 4294967296 < 4294967296 := by omega
        have b4 : (c + x) % 4294967296 < 4294967296 := Nat.mod_lt _ (by omega)
        generalize (c + x) % 4294967296 = d at *
        generalize (c + x) / 4294967296 = q at *
        have HS : Hid (val ((r.set k d).take (k + 1)) + 4294967296 ^ (k + 1) * q = val (a.take (k + 1)) + val (b.take (k + 1))) := S
        have b1 : (x : Int) < 4294967296 := by omega
        clear S hca Hv hxb hy0
        go_wp2
        go_roundw
        case rel => exact ⟨k + 1, q, r.set k d, by omega, by omega, rfl, by go_num, by simpa using hr, row_set Hrow.out k d, ok_set Hok.out k d b4, gset Hg.out (Nat.le_refl _) _, HS⟩
        case measure => simp [RowKit.intOf]; omega
    · have hka : k = a.length := by omega
      subst hka
      have rc := row_cell Hrow.out (i := a.length) (by omega)
      have rf := row_frozen Hrow.out a.length
      generalize r.getD a.length 0 = z at *
      have Hnew : Hid (∀ wx, wx = wr.setCell ⟨w.heap.size, a.length, none⟩ (.int .u32 (c : Int)) → Wd wx (.slice (some ⟨w.heap.size, 0, none⟩) (a.length + 1) (a.length + 1)) (r.set a.length c)) := by
        rintro wx rfl
        have := row_wd (row_set Hrow.out a.length c) (ok_set Hok.out _ _ (by omega)) (by simp [hr]; omega) (a.length + 1) (by simp [hr])
        rw [List.length_set, hr] at this
        exact this
      have Hval : Hid (val (r.set a.length c) = val a + val b) := by
        have h1 := val_set r a.length c (by omega)
        have h2 := Hv.out
        rw [List.take_of_length_le (by simp; omega)] at h1
        rw [List.take_length, List.take_of_length_le (l := b) (by omega)] at h2
        exact h1.trans h2
      have Hg2 : Hid (w.grownBy (wr.setCell ⟨w.heap.size, a.length, none⟩ (.int .u32 (c : Int))) none) := gset Hg.out (Nat.le_refl _) _
      clear Hv Hrow Hok Hg
      go_wp2_with fail
      refine (trim_any _ (r.set a.length c) _ (Hnew.out _ rfl)).mono ?_
      rintro e w' ⟨⟨v', rfl, hv⟩, hw⟩
      rw [hw]; clear hw w' Hnew
      have R : Hid (Wd (wr.setCell ⟨w.heap.size, a.length, none⟩ (.int .u32 (c : Int))) v' ((r.set a.length c).take (tl (r.set a.length c) (r.set a.length c).length)) ∧ Nrm ((r.set a.length c).take (tl (r.set a.length c) (r.set a.length c).length)) ∧ val ((r.set a.length c).take (tl (r.set a.length c) (r.set a.length c).length)) = val a + val b) := by
        refine ⟨hv, nrm_tl _ _ (Nat.le_refl _), ?_⟩
        rw [val_tl _ _ (Nat.le_refl _), List.take_length]
        exact Hval.out
      clear hv
      go_wp2
      go_ret
      exact ⟨_, _, rfl, R.out.1, R.out.2.1, R.out.2.2, Hg2.out⟩

theorem add_any (va vb : Value) (a b : List Nat) (w : World) (ha : Wd w va a) (hb : Wd w vb b) (h1 : a.length < 35184372088832) (h2 : b.length < 35184372088832) :
    Calls Tryz.prog 114 #[va, vb] w fun e w' => ∃ v l, e = .returned v ∧ Wd w' v l ∧ Nrm l ∧ val l = val a + val b ∧ w.grownBy w' none := by
  rcases Nat.lt_or_ge a.length b.length with h | h
  · refine (add_lt vb va b a w hb ha h h2).mono ?_
    rintro e w' ⟨v, l, he, hw, hn, hv, hg⟩
    exact ⟨v, l, he, hw, hn, by rw [hv, Nat.add_comm], hg⟩
  · exact add_ge va vb a b w ha hb h h1

set_option maxHeartbeats 2000000 in
theorem sub_any (va vb : Value) (a b : List Nat) (w : World) (ha : Wd w va a) (hb : Wd w vb b) (hle : val b ≤ val a) (hge : b.length ≤ a.length) (hlen : a.length < 35184372088832) :
    Calls Tryz.prog 115 #[va, vb] w fun e w' => ∃ v l, e = .returned v ∧ Wd w' v l ∧ Nrm l ∧ val l = val a - val b ∧ w.grownBy w' none := by
  obtain ⟨aa, ca, rfl, la, Oa, Fa⟩ := ha.form
  obtain ⟨ab, cb, rfl, lb, Ob, Fb⟩ := hb.form
  clear ha hb la lb
  have hmk := fun w => run_make_row' (P := Tryz.prog) 81 166 (.int .u32 0) 4 Tryz.underlying81 Tryz.infoW rfl .i64 .i64 a.length (by omega) (by omega) w
  go_enter Tryz.func115, Tryz.ntmps115
  go_wp2
  clear hmk
  go_loopw [6, 7] (fun tc ti wr => ∃ k c : Nat, ∃ r : List Nat, k ≤ a.length ∧ (c : Int) ≤ 1 ∧ tc = .int .u64 c ∧ ti = .int .i64 k ∧ r.length = a.length ∧ Hid (RowAt wr w.heap.size r) ∧ Hid (Ok r) ∧ Hid (w.grownBy wr none) ∧ Hid (val (r.take k) + val (b.take k) = val (a.take k) + 4294967296 ^ k * c)) (fun _ ti _ => a.length - (RowKit.intOf ti).toNat)
  case atStart =>
    refine ⟨0, 0, List.replicate a.length 0, by omega, by omega, rfl, rfl, by simp, ?_, ok_replicate _, World.grownBy_alloc _ _ _, ?_⟩
    · show (w.alloc _).heap[w.heap.size]? = _
      rw [alloc_blk, made_row]
    · simp [Hid, val]
  case round =>
    obtain ⟨k, c, r, hk, hc, rfl, rfl, hr, Hrow, Hok, Hg, Hv⟩ := hrel
    by_cases hlt : k < a.length
    · obtain ⟨ba, oa, rfl, hba, hca⟩ := Fa.out (by omega)
      have hxa := (Hg.out.cell (hca k hlt) (by simp))
      have hxb := Oa.out k hlt
      have rc := row_cell Hrow.out (i := k) (by omega)
      have rf := row_frozen Hrow.out k
      by_cases hlb : k < b.length
      · obtain ⟨bb, ob, rfl, hbb, hcb⟩ := Fb.out (by omega)
        have hya := (Hg.out.cell (hcb k hlb) (by simp))
        have hyb := Ob.out k hlb
        have S := fun t c' => sub_step a b r k c t c' (by omega) Hv.out
        generalize a.getD k 0 = x at *
        generalize b.getD k 0 = y at *
        generalize r.getD k 0 = z at *
        obtain ⟨t, c', h1, h2, h3, h4, h5⟩ : ∃ t c' : Nat, c' * 4294967296 + x = t + c + y ∧ t < 4294967296 ∧ c' ≤ 1 ∧ IntKind.u32.wrap (IntKind.u64.wrap (IntKind.u64.wrap ((x : Int) - c) - y)) = t ∧ IntKind.u64.wrap (IntKind.u64.wrap ((x : Int) - c) - y) / 9223372036854775808 = c' := by
          by_cases hc' : x < c + y
          · exact ⟨x + 4294967296 - c - y, 1, by omega, by omega, by omega, by rw [IntKind.wrap_u32, IntKind.wrap_u64, IntKind.wrap_u64]; omega, by rw [IntKind.wrap_u64, IntKind.wrap_u64]; omega⟩
          · exact ⟨x - c - y, 0, by omega, by omega, by omega, by rw [IntKind.wrap_u32, IntKind.wrap_u64, IntKind.wrap_u64]; omega, by rw [IntKind.wrap_u64, IntKind.wrap_u64]; omega⟩
        have HS : Hid (val ((r.set k t).take (k + 1)) + val (b.take (k + 1)) = val (a.take (k + 1)) + 4294967296 ^ (k + 1) * c') := S t c' h1
        have H2 : Hid (t < 4294967296) := h2
        have b1 : (x : Int) < 4294967296 := by omega
        have b2 : (y : Int) < 4294967296 := by omega
        clear S hca hcb Hv hxb hyb h1 h2
        go_wp2
        go_roundw
        case rel => exact ⟨k + 1, c', r.set k t, by omega, by omega, rfl, by go_num, by simpa using hr, row_set Hrow.out k t, ok_set Hok.out k t H2.out, gset Hg.out (Nat.le_refl _) _, HS⟩
        case measure => simp [RowKit.intOf]; omega
      · have hy0 : b.getD k 0 = 0 := by simp [List.getD, List.getElem?_eq_none (Nat.le_of_not_lt hlb)]
        have S := fun t c' => sub_step a b r k c t c' (by omega) Hv.out
        rw [hy0] at S
        generalize a.getD k 0 = x at *
        generalize r.getD k 0 = z at *
        obtain ⟨t, c', h1, h2, h3, h4, h5⟩ : ∃ t c' : Nat, c' * 4294967296 + x = t + c + 0 ∧ t < 4294967296 ∧ c' ≤ 1 ∧ IntKind.u32.wrap (IntKind.u64.wrap ((x : Int) - c)) = t ∧ IntKind.u64.wrap ((x : Int) - c) / 9223372036854775808 = c' := by
          by_cases hc' : x < c
          · exact ⟨x + 4294967296 - c, 1, by omega, by omega, by omega, by rw [IntKind.wrap_u32, IntKind.wrap_u64]; omega, by rw [IntKind.wrap_u64]; omega⟩
          · exact ⟨x - c, 0, by omega, by omega, by omega, by rw [IntKind.wrap_u32, IntKind.wrap_u64]; omega, by rw [IntKind.wrap_u64]; omega⟩
        have HS : Hid (val ((r.set k t).take (k + 1)) + val (b.take (k + 1)) = val (a.take (k + 1)) + 4294967296 ^ (k + 1) * c') := S t c' h1
        have H2 : Hid (t < 4294967296) := h2
        have b1 : (x : Int) < 4294967296 := by omega
        clear S hca Hv hxb hy0 h1 h2
        go_wp2
        go_roundw
        case rel => exact ⟨k + 1, c', r.set k t, by omega, by omega, rfl, by go_num, by simpa using hr, row_set Hrow.out k t, ok_set Hok.out k t H2.out, gset Hg.out (Nat.le_refl _) _, HS⟩
        case measure => simp [RowKit.intOf]; omega
    · have hka : k = a.length := by omega
      subst hka
      have Hnew : Hid (Wd wr (.slice (some ⟨w.heap.size, 0, none⟩) a.length a.length) r) := by
        have := row_wd Hrow.out Hok.out (by omega) a.length (by omega)
        rw [hr] at this
        exact this
      have Hval : Hid (val r = val a - val b) := by
        have h2 := Hv.out
        rw [List.take_length, List.take_of_length_le (l := b) (by omega), List.take_of_length_le (l := r) (by omega)] at h2
        have h3 := val_lt Hok.out
        rw [hr] at h3
        have hc0 : c = 0 ∨ c = 1 := by omega
        rcases hc0 with rfl | rfl
        · show _ = _; omega
        · show _ = _; omega
      clear Hv Hrow Hok
      go_wp2_with fail
      refine (trim_any _ r _ Hnew.out).mono ?_
      rintro e w' ⟨⟨v', rfl, hv⟩, hw⟩
      rw [hw]; clear hw w' Hnew
      have R : Hid (Wd wr v' (r.take (tl r r.length)) ∧ Nrm (r.take (tl r r.length)) ∧ val (r.take (tl r r.length)) = val a - val b) := by
        refine ⟨hv, nrm_tl _ _ (Nat.le_refl _), ?_⟩
        rw [val_tl _ _ (Nat.le_refl _), List.take_length]
        exact Hval.out
      clear hv
      go_wp2
      go_ret
      exact ⟨_, _, rfl, R.out.1, R.out.2.1, R.out.2.2, Hg.out⟩
end Go.Proofs.YtiolkeipgpkbmaaGreatDoor

namespace Go.Proofs.YtiolkeipgpkbmaaGreatDoor
set_option linter.unusedVariables false
set_option linter.unusedSimpArgs false
open Go.RowKit Big

theorem own_wd {w : World} {base n : Nat} {v : Value} {l : List Nat} (ho : Ok l) (hn : l.length = n) (hl : n ≤ 140737488355328) (h : w.ownsRow base 166 1 v n (l.map (fun x : Nat => Value.int .u32 (x : Int)))) : Wd w v l := by
  obtain ⟨hlen, ⟨rfl, h0⟩ | ⟨g, cap, cur, rfl, hg, hb, hc, hm, hs, ht⟩⟩ := h
  · have : l = [] := by subst h0; exact List.eq_nil_of_length_eq_zero hn
    subst this
    exact wd_nil _ _ _
  · rcases Nat.eq_zero_or_pos n with h0 | h0
    · have : l = [] := by subst h0; exact List.eq_nil_of_length_eq_zero hn
      subst this
      subst h0
      exact wd_nil _ _ _
    · refine ⟨ho, by omega, .inr ⟨by omega, g, 0, cap, by rw [hn], blk_lt hb, by omega, fun i hi => ?_⟩⟩
      have e : cur[i]? = some (.int .u32 (l.getD i 0 : Nat)) := by
        have h1 : (cur.toList.take (n * 1))[i]? = some (.int .u32 (l.getD i 0 : Nat)) := by rw [ht]; simp [hi]
        rw [List.getElem?_take] at h1
        rw [if_pos (by omega)] at h1
        simpa using h1
      rw [Nat.zero_add]
      simp [World.cell?, hb, e]

theorem twin_any (v : Value) (l : List Nat) (w : World) (h : Wd w v l) (hl : l.length < 35184372088832) :
    Calls Tryz.prog 82 #[v] w fun e w' => ∃ v', e = .returned v' ∧ Hid (Wd w' v' l ∧ w.grownBy w' none) := by
  obtain ⟨i0, hi, hz0, hz1, hz2⟩ := info_parts Tryz.infoW
  have some' : ∀ b off cap, (∀ i, i < l.length → w.cell? ⟨b, off + i, none⟩ = some (.int .u32 (l.getD i 0 : Nat))) → Calls Tryz.prog 82 #[.slice (some ⟨b, off, none⟩) l.length cap] w fun e w' => ∃ v', e = .returned v' ∧ Hid (Wd w' v' l ∧ w.grownBy w' none) := fun b off cap hc => by
    have Hc : Hid (∀ i, i < l.length → w.cell? ⟨b, off + i, none⟩ = some (.int .u32 (l.getD i 0 : Nat))) := hc
    have Ho : Hid (Ok l) := h.ok
    clear hc
    go_enter Tryz.func82, Tryz.ntmps82
    go_wp2_with (at_builtin; refine wpList_append_own _ rfl _ _ 81 rfl w.heap.size 166 i0 (.int .u32 0) 1 4 Tryz.underlying81 hi hz0 hz1 hz2 rfl (by decide) _ 0 [] rfl (World.ownsRow_nil _ _ _ _) ⟨b, off, none⟩ l.length cap (l.map (fun x : Nat => Value.int .u32 (x : Int))) rfl (by simp) ?c1 ?c2 ?c3 ?c4 ?c5 ?_)
    case c1 =>
      intro j u hj
      have hj2 : j < l.length := by
        have := (List.getElem?_eq_some_iff.1 hj).1
        simpa using this
      have : u = .int .u32 (l.getD j 0 : Nat) := by simp [hj2] at hj; rw [← hj]; simp [hj2]
      subst this
      have e := Hc.out j hj2
      rcases Nat.eq_zero_or_pos j with rfl | hp
      · simpa [Addr.add] using e
      · simpa [Addr.add, Nat.ne_of_gt hp] using e
    case c2 => intro u hu; simp at hu; obtain ⟨x, _, rfl⟩ := hu; rfl
    case c3 => unfold maxLen; omega
    case c4 => omega
    case c5 => exact Nat.le_refl _
    · intro v' w1 hown' hgrow _
      have R : Hid (Wd w1 v' l ∧ w.grownBy w1 none) := by
        exact ⟨own_wd Ho.out rfl (by omega) hown', hgrow⟩
      clear hown' hgrow
      go_wp2
      go_ret
      exact ⟨_, rfl, R⟩
  rcases h.at_ with ⟨h0, a, cap, hv⟩ | ⟨h0, b, off, cap, hv, hb, hcap, hc⟩
  · subst hv
    subst h0
    cases a with
    | none =>
      clear some'
      have R : Hid (Wd w (.slice none 0 0) [] ∧ w.grownBy w none) := ⟨wd_nil _ _ _, grefl _ _⟩
      go_enter Tryz.func82, Tryz.ntmps82
      go_wp2
      go_ret
      exact ⟨_, rfl, R⟩
    | some x =>
      clear some'
      have R : Hid (Wd w (.slice none 0 0) [] ∧ w.grownBy w none) := ⟨wd_nil _ _ _, grefl _ _⟩
      go_enter Tryz.func82, Tryz.ntmps82
      go_wp2
      go_ret
      exact ⟨_, rfl, R⟩
  · subst hv
    exact some' b off cap hc

end Go.Proofs.YtiolkeipgpkbmaaGreatDoor

namespace Go.Proofs.YtiolkeipgpkbmaaGreatDoor
set_option linter.unusedVariables false
open Go.RowKit Big

theorem drew2 (w : World) (a b : Nat) : (w.drewN a).drewN b = w.drewN (a + b) := by simp [World.drewN, Nat.add_assoc]

/-- -1, 0 or 1. -/
def cmpV (a b : Nat) : Int := if a < b then -1 else if b < a then 1 else 0
theorem cmpV_lt {a b : Nat} (h : a < b) : cmpV a b = -1 := by unfold cmpV; rw [if_pos h]
theorem cmpV_gt {a b : Nat} (h : b < a) : cmpV a b = 1 := by unfold cmpV; rw [if_neg (by omega), if_pos h]
theorem cmpV_eq {a b : Nat} (h : a = b) : cmpV a b = 0 := by unfold cmpV; rw [if_neg (by omega), if_neg (by omega)]

set_option maxHeartbeats 2000000 in
theorem cmp_any (va vb : Value) (a b : List Nat) (w : World) (ha : Wd w va a) (hb : Wd w vb b) (na : Nrm a) (nb : Nrm b) :
    Calls Tryz.prog 86 #[va, vb] w fun e w' => e = .returned (.int .i64 (cmpV (val a) (val b))) ∧ ∃ n, w' = w.drewN n := by
  obtain ⟨aa, ca, rfl, la, Oa, Fa⟩ := ha.form
  obtain ⟨ab, cb, rfl, lb, Ob, Fb⟩ := hb.form
  clear ha hb
  by_cases hlt : a.length < b.length
  · have R : Hid (cmpV (val a) (val b) = -1) := cmpV_lt (len_lt Oa.out nb hlt)
    have hne : ((a.length : Int) != b.length) = true := by simp; omega
    have hlt' : (a.length : Int) < b.length := by omega
    clear na nb
    go_enter Tryz.func86, Tryz.ntmps86
    go_wp2
    go_ret
    exact ⟨by rw [R.out]; rfl, 0, rfl⟩
  by_cases hgt : b.length < a.length
  · have R : Hid (cmpV (val a) (val b) = 1) := cmpV_gt (len_lt Ob.out na hgt)
    have hne : ((a.length : Int) != b.length) = true := by simp; omega
    have hlt' : ¬ ((a.length : Int) < b.length) := by omega
    clear na nb
    go_enter Tryz.func86, Tryz.ntmps86
    go_wp2
    go_ret
    exact ⟨by rw [R.out]; rfl, 0, rfl⟩
  have hlen : a.length = b.length := by omega
  have hne : ((a.length : Int) != b.length) = false := by simp; omega
  have Hlen : Hid (a.length = b.length) := hlen
  clear na nb hlt hgt hlen
  go_enter Tryz.func86, Tryz.ntmps86
  go_wp2
  go_loopw [5] (fun ti wr => ∃ m n : Nat, m ≤ a.length ∧ ti = .int .i64 ((m : Int) - 1) ∧ wr = w.drewN n ∧ Hid (a.drop m = b.drop m)) (fun ti _ => (RowKit.intOf ti + 1).toNat)
  case atStart => exact ⟨a.length, 0, Nat.le_refl _, rfl, rfl, by rw [Hid, List.drop_length, Hlen.out, List.drop_length]⟩
  case round =>
    obtain ⟨m, n, hm, rfl, rfl, Hd⟩ := hrel
    cases m with
    | zero =>
      have R : Hid (cmpV (val a) (val b) = 0) := by
        have := Hd.out
        simp at this
        exact cmpV_eq (by rw [this])
      go_wp2
      go_ret
      exact ⟨by rw [R.out]; rfl, _, rfl⟩
    | succ j =>
      rw [show ((j + 1 : Nat) : Int) - 1 = (j : Int) by omega]
      have hja : j < a.length := by omega
      have hjb : j < b.length := by have := Hlen.out; omega
      obtain ⟨ba, oa, rfl, hba, hca⟩ := Fa.out (by omega)
      obtain ⟨bb, ob, rfl, hbb, hcb⟩ := Fb.out (by omega)
      have hx := hca j hja
      have hy := hcb j hjb
      have i1 : (j : Int) < a.length := by omega
      have i2 : (j : Int) < b.length := by omega
      have T1 := fun h => top_lt Oa.out j hja hjb Hlen.out Hd.out h
      have T2 := fun h => top_lt Ob.out j hjb hja Hlen.out.symm Hd.out.symm h
      have E := fun h : a.getD j 0 = b.getD j 0 => (show a.drop j = b.drop j by
        have e1 : a.drop j = a.getD j 0 :: a.drop (j + 1) := by rw [List.drop_eq_getElem_cons hja]; simp [hja]
        have e2 : b.drop j = b.getD j 0 :: b.drop (j + 1) := by rw [List.drop_eq_getElem_cons hjb]; simp [hjb]
        rw [e1, e2, h, Hd.out])
      generalize a.getD j 0 = x at *
      generalize b.getD j 0 = y at *
      clear hca hcb Hd
      rcases Nat.lt_trichotomy x y with hxy | hxy | hxy
      · have R : Hid (cmpV (val a) (val b) = -1) := cmpV_lt (T1 hxy)
        have t1 : ((x : Int) != y) = true := by simp; omega
        have t2 : (x : Int) < y := by omega
        clear T1 T2 E
        go_wp2
        go_quiet (fail)
        go_wp2
        go_quiet (fail)
        go_wp2
        go_ret
        exact ⟨by rw [R.out]; rfl, _, by rw [drew2, drew2]⟩
      · have R : Hid (a.drop j = b.drop j) := E hxy
        have t1 : ((x : Int) != y) = false := by simp; omega
        clear T1 T2 E
        go_wp2
        go_quiet (fail)
        go_wp2
        go_roundw
        case rel => exact ⟨j, _, by omega, by go_num, rfl, R⟩
        case measure => simp [RowKit.intOf]
      · have R : Hid (cmpV (val a) (val b) = 1) := cmpV_gt (T2 hxy)
        have t1 : ((x : Int) != y) = true := by simp; omega
        have t2 : ¬ ((x : Int) < y) := by omega
        clear T1 T2 E
        go_wp2
        go_quiet (fail)
        go_wp2
        go_quiet (fail)
        go_wp2
        go_ret
        exact ⟨by rw [R.out]; rfl, _, by rw [drew2, drew2]⟩
end Go.Proofs.YtiolkeipgpkbmaaGreatDoor

namespace Go.Proofs.YtiolkeipgpkbmaaGreatDoor
set_option linter.unusedVariables false
open Go.RowKit Big

theorem sg_cut (neg : Bool) (l : List Nat) (n : Nat) (h : l.length = 0 → n = 0) : sg (neg && decide (0 < l.length)) n = sg neg n := by
  rcases Nat.eq_zero_or_pos l.length with h0 | h0
  · rw [h h0]; simp [sg]
  · simp [h0]

set_option maxHeartbeats 1000000 in
theorem sum_bigs (xn yn : Bool) (va vb : Value) (a b : List Nat) (w : World) (ha : Wd w va a) (hb : Wd w vb b) (na : Nrm a) (nb : Nrm b) (h1 : a.length < 35184372088832) (h2 : b.length < 35184372088832) :
    Calls Tryz.prog 83 #[.bool xn, va, .bool yn, vb] w fun e w' => ∃ neg v l, e = .returned (.tuple #[.bool neg, v]) ∧ Wd w' v l ∧ Nrm l ∧ sg neg (val l) = sg xn (val a) + sg yn (val b) ∧ w.grownBy w' none := by
  have Ha : Hid (Wd w va a) := ha
  have Hb : Hid (Wd w vb b) := hb
  have Na : Hid (Nrm a) := na
  have Nb : Hid (Nrm b) := nb
  clear ha hb na nb
  by_cases hs : xn = yn
  · subst hs
    go_enter Tryz.func83, Tryz.ntmps83
    go_wp2_with fail
    refine (add_any va vb a b w Ha.out Hb.out h1 h2).mono ?_
    rintro e w1 ⟨v, l, rfl, hv, hn, hval, hg⟩
    have R : Hid (Wd w1 v l ∧ Nrm l ∧ sg xn (val l) = sg xn (val a) + sg xn (val b) ∧ w.grownBy w1 none) := ⟨hv, hn, by rw [hval]; unfold sg; cases xn <;> simp <;> omega, hg⟩
    clear hv hn hval hg
    go_wp2
    go_ret2
    exact ⟨xn, v, l, rfl, R.out.1, R.out.2.1, R.out.2.2.1, R.out.2.2.2⟩
  · have hs' : (xn == yn) = false := by simpa using hs
    by_cases hge : val b ≤ val a
    · have hc : Hid (0 ≤ cmpV (val a) (val b)) := by
        unfold Hid cmpV; rw [if_neg (by omega)]; split <;> omega
      have hll := len_le Ha.out.ok Nb.out hge
      go_enter Tryz.func83, Tryz.ntmps83
      go_wp2_with fail
      refine (cmp_any va vb a b w Ha.out Hb.out Na.out Nb.out).mono ?_
      rintro e w1 ⟨rfl, n, hw⟩
      rw [hw]; clear hw w1
      have hc' := hc.out
      generalize cmpV (val a) (val b) = q at *
      clear hc
      go_wp2_with fail
      refine (sub_any va vb a b _ (Ha.out.grow (gdrewN (grefl w _) n)) (Hb.out.grow (gdrewN (grefl w _) n)) hge hll h1).mono ?_
      rintro e w1 ⟨v, l, rfl, hv, hn, hval, hg⟩
      have R : Hid (Wd w1 v l ∧ Nrm l ∧ sg xn (val l) = sg xn (val a) + sg yn (val b) ∧ w.grownBy w1 none) := ⟨hv, hn, by rw [hval]; unfold sg; cases xn <;> cases yn <;> simp at hs ⊢ <;> omega, gtrans (gdrewN (grefl w _) n) hg⟩
      clear hv hn hval hg
      go_wp2
      go_ret2
      exact ⟨xn, v, l, rfl, R.out.1, R.out.2.1, R.out.2.2.1, R.out.2.2.2⟩
    · have hc : Hid (cmpV (val a) (val b) < 0) := by
        unfold Hid; rw [cmpV_lt (by omega)]; omega
      have hll := len_le Hb.out.ok Na.out (by omega)
      go_enter Tryz.func83, Tryz.ntmps83
      go_wp2_with fail
      refine (cmp_any va vb a b w Ha.out Hb.out Na.out Nb.out).mono ?_
      rintro e w1 ⟨rfl, n, hw⟩
      rw [hw]; clear hw w1
      have hc' := hc.out
      generalize cmpV (val a) (val b) = q at *
      clear hc
      go_wp2_with fail
      refine (sub_any vb va b a _ (Hb.out.grow (gdrewN (grefl w _) n)) (Ha.out.grow (gdrewN (grefl w _) n)) (by omega) hll h2).mono ?_
      rintro e w1 ⟨v, l, rfl, hv, hn, hval, hg⟩
      have R : Hid (Wd w1 v l ∧ Nrm l ∧ sg yn (val l) = sg xn (val a) + sg yn (val b) ∧ w.grownBy w1 none) := ⟨hv, hn, by rw [hval]; unfold sg; cases xn <;> cases yn <;> simp at hs ⊢ <;> omega, gtrans (gdrewN (grefl w _) n) hg⟩
      clear hv hn hval hg
      go_wp2
      go_ret2
      exact ⟨yn, v, l, rfl, R.out.1, R.out.2.1, R.out.2.2.1, R.out.2.2.2⟩
end Go.Proofs.YtiolkeipgpkbmaaGreatDoor
