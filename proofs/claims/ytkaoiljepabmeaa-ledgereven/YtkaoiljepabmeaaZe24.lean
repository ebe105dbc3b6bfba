/-
  Balances are even, outright: for every chart, all entries, every entity, period and currency the call of daylaw3.LedgerEven returns true, and its arguments read as they did. No condition.
-/
import Derived.Test.YtkaoiljepabmeaaZe23
import Derived.Test.YtkaoiljepabmeaaZe16
import Derived.Test.YtkaoiljepabmeaaRows
import Derived.Test.YtkaoiljepabmeaaZe6
import Derived.Deep.Slices
import Derived.OpenShut
import Derived.WalkKit
import Derived.SizedLaws
import Derived.ProofKit
import Derived.ShutString
import Derived.ChangeOld
import Derived.Below
namespace Go.Proofs.Ytkaoiljepabmeaa
set_option linter.unusedVariables false
set_option linter.unusedSimpArgs false
set_option maxRecDepth 100000
open Go.RowKit Go.Lib
section
variable {H : Type} {enc : TypeId × Value → H}
theorem ld_bulk_pos (d : DataW H) : 1 ≤ Rows.uptoBulk d := by
  cases d with
  | lit l => cases l <;> simp [Rows.uptoBulk]
  | _ => simp [Rows.uptoBulk]
theorem ld_bulk_len : ∀ l : List (DataW H), l.length ≤ Rows.uptoBulkAll l
  | [] => Nat.zero_le _
  | x :: l => by
    have h1 := ld_bulk_pos x
    have h2 := ld_bulk_len l
    simp only [Rows.uptoBulkAll, List.length_cons]
    omega
theorem ld_bulk_part {d : DataW H} {l : List (DataW H)} (h : d ∈ l) : Rows.uptoBulk d ≤ Rows.uptoBulkAll l := by
  induction l with
  | nil => cases h
  | cons x r ih =>
    simp only [Rows.uptoBulkAll]
    cases List.mem_cons.1 h with
    | inl e => subst e; omega
    | inr e => have := ih e; omega
theorem ld_line_cells : Try.prog.cellsOf 43 = 3 := by kernel_rfl
theorem ld_open_line {w : World} {base : Nat} {spare : Nat → Bool} {held : Bool} {m : Nat} {cs : List Value} {x : DataW H × List MemPlace} (h : DataW.trod enc Try.prog w base spare held m 43 cs = some x) : ∃ a : Ln, cs = a.cells.toList ∧ a.acc.size ≤ maxLen ∧ a.cur.size ≤ maxLen := by
  cases m with
  | zero => simp [DataW.trod] at h
  | succ m =>
    rw [DataW.trod_step] at h
    unfold DataW.trodStep at h
    rw [Try.underlying43] at h
    simp only [ld_line_cells] at h
    split at h
    · rename_i hl
      match cs, hl with
      | [c0, c1, c2], _ =>
        simp [ldP_str, ldP_int] at h
        cases h0 : DataW.trod enc Try.prog w base spare held m 9 [c0]
        · simp [h0] at h
        cases h1 : DataW.trod enc Try.prog w base spare held m 9 [c1]
        · simp [h0, h1] at h
        cases h2 : DataW.trod enc Try.prog w base spare held m 3 [c2]
        · simp [h0, h1, h2] at h
        obtain ⟨s, rfl, hs⟩ := ld_cell_string h0
        obtain ⟨t, rfl, ht⟩ := ld_cell_string h1
        obtain ⟨p, rfl, hp⟩ := ld_cell_int h2
        exact ⟨⟨s, t, p⟩, rfl, hs, ht⟩
    · cases h
/-- Lines that came in. -/
theorem ld_lns_of_trod {W : World} {a : Option Addr} {len cap fuel : Nat} {x : DataW H × List MemPlace} (h : DataW.trod enc Try.prog W 0 (fun _ => true) true fuel 29 [.slice a len cap] = some x) :
    ∃ l : List Ln, l.length = len ∧ IsLn W a l cap ∧ (∀ n ∈ l, n.acc.size ≤ maxLen ∧ n.cur.size ≤ maxLen) ∧ len ≤ Rows.uptoBulk x.1 := by
  rcases Go.Deep.open_slice Try.underlying29 h with ⟨hcs, _⟩ | ⟨x, l, c, m, n, D, Pl, hcs, _, hl, hm, hmm, hxx, hx⟩
  · simp at hcs
    obtain ⟨rfl, rfl, rfl⟩ := hcs
    exact ⟨[], rfl, ⟨by simp, .inl rfl⟩, by simp, by omega⟩
  · simp at hcs
    obtain ⟨rfl, rfl, rfl⟩ := hcs
    have hmm2 : m = cap := hmm
    rw [ld_line_cells] at hx
    have hr : ∀ i, i < len → ∃ r : Ln, (∀ j, j < 3 → W.cell? ((x.add (i * 3)).add j) = r.cells.toList[j]?) ∧ r.acc.size ≤ maxLen ∧ r.cur.size ≤ maxLen := fun i hi => by
      obtain ⟨cs', h1, h2⟩ := hx i (by omega)
      obtain ⟨r, rfl, hw⟩ := ld_open_line h2
      exact ⟨r, (World.cells?_some h1).2.2, hw⟩
    obtain ⟨f, hf⟩ := @Go.Deep.choose_lt Ln ⟨ln0⟩ _ _ hr
    have hget : ∀ k, k < len → ((List.range len).map f).getD k ln0 = f k := fun k hk => by simp [List.getD, hk]
    have hlen : ((List.range len).map f).length = len := by simp
    refine ⟨(List.range len).map f, hlen, ⟨by rw [hlen]; exact hl, ?_⟩, ?_, ?_⟩
    · by_cases h0 : len = 0
      · subst h0
        exact .inl rfl
      · right
        obtain ⟨b, off, spot⟩ := x
        have hc : W.cell? ⟨b, off, spot⟩ = some (.string (f 0).acc) := (hf 0 (by omega)).1 0 (by omega)
        have hspot : spot = none := World.cell?_spot hc
        subst hspot
        refine ⟨b, off, rfl, World.block_lt_of_cell? _ _ hc, fun k hk => ?_⟩
        rw [hlen] at hk
        rw [hget k hk]
        have C : ∀ i, i < 3 → W.cell? ⟨b, off + k * 3 + i, none⟩ = (f k).cells.toList[i]? := fun i hi => by
          have := (hf k hk).1 i hi
          rw [ld_add, ld_add] at this
          exact this
        exact ⟨C 0 (by omega), C 1 (by omega), C 2 (by omega)⟩
    · intro y hy
      obtain ⟨k, hk, rfl⟩ := List.mem_map.1 hy
      exact (hf k (List.mem_range.1 hk)).2
    · rw [hxx]
      have h1 := ld_bulk_len ((List.range len).map D)
      simp only [List.length_map, List.length_range] at h1
      simp only [Rows.uptoBulk]
      omega
theorem ld_entry_cells : Try.prog.cellsOf 31 = 4 := by kernel_rfl
theorem ld_lns_cells : Try.prog.cellsOf 29 = 1 := by kernel_rfl
theorem ld_cell_slice {w : World} {base : Nat} {spare : Nat → Bool} {held : Bool} {m : Nat} {c : Value} {y : DataW H × List MemPlace} (h : DataW.trod enc Try.prog w base spare held m 29 [c] = some y) : ∃ a len cap, c = .slice a len cap := by
  rcases Go.Deep.open_slice Try.underlying29 h with ⟨hcs, _⟩ | ⟨x, l, c', m, n, D, Pl, hcs, _⟩
  · simp at hcs; exact ⟨_, _, _, hcs⟩
  · simp at hcs; exact ⟨_, _, _, hcs⟩
theorem ld_open_entry {w : World} {m : Nat} {cs : List Value} {x : DataW H × List MemPlace} (h : DataW.trod enc Try.prog w 0 (fun _ => true) true m 31 cs = some x) :
    ∃ a : Je, cs = a.cells.toList ∧ (-9223372036854775808 ≤ a.ent ∧ a.ent ≤ 9223372036854775807) ∧ (-9223372036854775808 ≤ a.per ∧ a.per ≤ 9223372036854775807) ∧ IsLn w a.adr a.lns a.cap ∧ (∀ n ∈ a.lns, n.acc.size ≤ maxLen ∧ n.cur.size ≤ maxLen) ∧ a.lns.length ≤ Rows.uptoBulk x.1 := by
  cases m with
  | zero => simp [DataW.trod] at h
  | succ m =>
    rw [DataW.trod_step] at h
    unfold DataW.trodStep at h
    rw [Try.underlying31] at h
    simp only [ld_entry_cells] at h
    split at h
    · rename_i hl
      match cs, hl with
      | [c0, c1, c2, c3], _ =>
        simp [ldP_str, ldP_int, ld_lns_cells] at h
        cases h0 : DataW.trod enc Try.prog w 0 (fun _ => true) true m 9 [c0]
        · simp [h0] at h
        cases h1 : DataW.trod enc Try.prog w 0 (fun _ => true) true m 3 [c1]
        · simp [h0, h1] at h
        cases h2 : DataW.trod enc Try.prog w 0 (fun _ => true) true m 3 [c2]
        · simp [h0, h1, h2] at h
        cases h3 : DataW.trod enc Try.prog w 0 (fun _ => true) true m 29 [c3]
        · simp [h0, h1, h2, h3] at h
        rename_i y3
        obtain ⟨s, rfl, hs⟩ := ld_cell_string h0
        obtain ⟨f, rfl, hf⟩ := ld_cell_int h1
        obtain ⟨p, rfl, hp⟩ := ld_cell_int h2
        obtain ⟨a, len, cap, rfl⟩ := ld_cell_slice h3
        obtain ⟨l, rfl, g1, g2, g3⟩ := ld_lns_of_trod h3
        refine ⟨⟨s, f, p, a, cap, l⟩, rfl, ld_wf hf, ld_wf hp, g1, g2, ?_⟩
        simp [h0, h1, h2, h3] at h
        rw [← h]
        simp only [Rows.uptoBulk, Rows.uptoBulkAll]
        show l.length ≤ _
        omega
    · cases h
/-- Entries that came in. -/
theorem ld_jes_of_trod {W : World} {a : Option Addr} {len cap fuel : Nat} {x : DataW H × List MemPlace} (h : DataW.trod enc Try.prog W 0 (fun _ => true) true fuel 23 [.slice a len cap] = some x) :
    ∃ L : List Je, L.length = len ∧ IsJs W a L cap ∧ len ≤ maxLen ∧ (∀ x ∈ L, (-9223372036854775808 ≤ x.ent ∧ x.ent ≤ 9223372036854775807) ∧ (-9223372036854775808 ≤ x.per ∧ x.per ≤ 9223372036854775807) ∧ ∀ n ∈ x.lns, n.acc.size ≤ maxLen ∧ n.cur.size ≤ maxLen) ∧ (L.flatMap lnsB).length ≤ Rows.uptoBulk x.1 := by
  rcases Go.Deep.open_slice Try.underlying23 h with ⟨hcs, _⟩ | ⟨x, l, c, m, n, D, Pl, hcs, _, hl, hm, hmm, hxx, hx⟩
  · simp at hcs
    obtain ⟨rfl, rfl, rfl⟩ := hcs
    exact ⟨[], rfl, ⟨by simp, .inl rfl, by simp⟩, by unfold maxLen; omega, by simp, by simp⟩
  · simp at hcs
    obtain ⟨rfl, rfl, rfl⟩ := hcs
    have hmm2 : m = cap := hmm
    rw [ld_entry_cells] at hx
    have hr : ∀ i, i < len → ∃ r : Je, (∀ j, j < 4 → W.cell? ((x.add (i * 4)).add j) = r.cells.toList[j]?) ∧ (-9223372036854775808 ≤ r.ent ∧ r.ent ≤ 9223372036854775807) ∧ (-9223372036854775808 ≤ r.per ∧ r.per ≤ 9223372036854775807) ∧ IsLn W r.adr r.lns r.cap ∧ (∀ n ∈ r.lns, n.acc.size ≤ maxLen ∧ n.cur.size ≤ maxLen) ∧ r.lns.length ≤ Rows.uptoBulk (D i) := fun i hi => by
      obtain ⟨cs', h1, h2⟩ := hx i (by omega)
      obtain ⟨r, rfl, hw⟩ := ld_open_entry h2
      exact ⟨r, (World.cells?_some h1).2.2, hw⟩
    obtain ⟨f, hf⟩ := @Go.Deep.choose_lt Je ⟨je0⟩ _ _ hr
    have hget : ∀ k, k < len → ((List.range len).map f).getD k je0 = f k := fun k hk => by simp [List.getD, hk]
    have hlen : ((List.range len).map f).length = len := by simp
    refine ⟨(List.range len).map f, hlen, ⟨by rw [hlen]; exact hl, ?_, ?_⟩, Nat.le_trans hl hm, ?_, ?_⟩
    · by_cases h0 : len = 0
      · subst h0
        exact .inl rfl
      · right
        obtain ⟨b, off, spot⟩ := x
        have hc : W.cell? ⟨b, off, spot⟩ = some (.string (f 0).ref) := (hf 0 (by omega)).1 0 (by omega)
        have hspot : spot = none := World.cell?_spot hc
        subst hspot
        refine ⟨b, off, rfl, World.block_lt_of_cell? _ _ hc, fun k hk => ?_⟩
        rw [hlen] at hk
        rw [hget k hk]
        have C : ∀ i, i < 4 → W.cell? ⟨b, off + k * 4 + i, none⟩ = (f k).cells.toList[i]? := fun i hi => by
          have := (hf k hk).1 i hi
          rw [ld_add, ld_add] at this
          exact this
        exact ⟨C 0 (by omega), C 1 (by omega), C 2 (by omega), C 3 (by omega)⟩
    · intro y hy
      obtain ⟨k, hk, rfl⟩ := List.mem_map.1 hy
      exact (hf k (List.mem_range.1 hk)).2.2.2.1
    · intro y hy
      obtain ⟨k, hk, rfl⟩ := List.mem_map.1 hy
      have := hf k (List.mem_range.1 hk)
      exact ⟨this.2.1, this.2.2.1, this.2.2.2.2.1⟩
    · rw [hxx]
      have key : ∀ l : List Nat, (∀ k ∈ l, k < len) → ((l.map f).flatMap lnsB).length ≤ Rows.uptoBulkAll (l.map D) := by
        intro l
        induction l with
        | nil => intro _; simp
        | cons k l ih =>
          intro hk
          have h1 := ih (fun q hq => hk q (List.mem_cons_of_mem _ hq))
          have h2 := (hf k (hk k (List.mem_cons_self ..))).2.2.2.2.2
          simp only [List.map_cons, List.flatMap_cons, List.length_append, lnsB_length, Rows.uptoBulkAll]
          omega
      have h1 := key (List.range len) (fun k hk => List.mem_range.1 hk)
      simp only [Rows.uptoBulk]
      omega
end
end Go.Proofs.Ytkaoiljepabmeaa

namespace Go.Proofs.Ytkaoiljepabmeaa
set_option linter.unusedVariables false
set_option linter.unusedSimpArgs false
set_option maxRecDepth 100000
open Go.RowKit Go.Lib Go.Deep

section
variable {H : Type} {enc : TypeId × Value → H} {w : World} {base : Nat} {spare : Nat → Bool} {held : Bool}

theorem ch_string {m : Nat} {c : Value} {y : DataW H × List MemPlace} (h : DataW.trod enc Try.prog w base spare held m 9 [c] = some y) : ∃ s, c = .string s ∧ s.size ≤ maxLen := by
  cases m with
  | zero => simp [DataW.trod] at h
  | succ m =>
    rw [DataW.trod_step] at h
    unfold DataW.trodStep at h
    rw [Try.underlying9] at h
    cases c <;> simp at h
    exact ⟨_, rfl, h.1⟩

theorem ch_int {m : Nat} {c : Value} {y : DataW H × List MemPlace} (h : DataW.trod enc Try.prog w base spare held m 3 [c] = some y) : ∃ n, c = .int .i64 n ∧ (Lit.int .i64 n).wf = true := by
  cases m with
  | zero => simp [DataW.trod] at h
  | succ m =>
    rw [DataW.trod_step] at h
    unfold DataW.trodStep at h
    rw [Try.underlying3] at h
    cases c <;> simp at h
    rename_i k n
    obtain ⟨⟨rfl, h2⟩, _⟩ := h
    exact ⟨n, rfl, h2⟩

theorem ch_bool {m : Nat} {c : Value} {y : DataW H × List MemPlace} (h : DataW.trod enc Try.prog w base spare held m 4 [c] = some y) : ∃ n, c = .bool n := by
  cases m with
  | zero => simp [DataW.trod] at h
  | succ m =>
    rw [DataW.trod_step] at h
    unfold DataW.trodStep at h
    rw [Try.underlying4] at h
    cases c <;> simp at h
    exact ⟨_, rfl⟩

/-- What is asked of an account that came in. -/
def AcOk (a : Ac) : Prop := a.code.size ≤ maxLen ∧ a.name.size ≤ maxLen ∧ (Lit.int .i64 a.kind).wf = true ∧ a.par.size ≤ maxLen

theorem acct_cells : Try.prog.cellsOf 62 = 5 := by kernel_rfl
theorem acct_str : Try.prog.cellsOf 9 = 1 := by kernel_rfl
theorem acct_int : Try.prog.cellsOf 3 = 1 := by kernel_rfl
theorem acct_bool : Try.prog.cellsOf 4 = 1 := by kernel_rfl

theorem open_acct {m : Nat} {cs : List Value} {x : DataW H × List MemPlace} (h : DataW.trod enc Try.prog w base spare held m 62 cs = some x) : ∃ a : Ac, cs = a.cells.toList ∧ AcOk a := by
  cases m with
  | zero => simp [DataW.trod] at h
  | succ m =>
    rw [DataW.trod_step] at h
    unfold DataW.trodStep at h
    rw [Try.underlying62] at h
    simp only [acct_cells] at h
    split at h
    · rename_i hl
      match cs, hl with
      | [c0, c1, c2, c3, c4], _ =>
        simp [acct_str, acct_int, acct_bool] at h
        cases h0 : DataW.trod enc Try.prog w base spare held m 9 [c0]
        · simp [h0] at h
        cases h1 : DataW.trod enc Try.prog w base spare held m 9 [c1]
        · simp [h0, h1] at h
        cases h2 : DataW.trod enc Try.prog w base spare held m 3 [c2]
        · simp [h0, h1, h2] at h
        cases h3 : DataW.trod enc Try.prog w base spare held m 9 [c3]
        · simp [h0, h1, h2, h3] at h
        cases h4 : DataW.trod enc Try.prog w base spare held m 4 [c4]
        · simp [h0, h1, h2, h3, h4] at h
        obtain ⟨f, rfl, hf⟩ := ch_string h0
        obtain ⟨t, rfl, ht⟩ := ch_string h1
        obtain ⟨p, rfl, hp⟩ := ch_int h2
        obtain ⟨n, rfl, hn⟩ := ch_string h3
        obtain ⟨d, rfl⟩ := ch_bool h4
        exact ⟨⟨f, t, p, n, d⟩, rfl, hf, ht, hp, hn⟩
    · cases h

theorem ac_cells (w : World) (b off : Nat) (a : Ac) (h : ∀ i, i < 5 → w.cell? ⟨b, off + i, none⟩ = a.cells.toList[i]?) : AcAt w b off a :=
  ⟨h 0 (by omega), h 1 (by omega), h 2 (by omega), h 3 (by omega), h 4 (by omega)⟩

theorem ch_add (b off n : Nat) : (⟨b, off, none⟩ : Addr).add n = ⟨b, off + n, none⟩ := by
  unfold Addr.add
  split
  · rename_i h; subst h; rfl
  · rfl

/-- A chart that came in. -/
theorem acs_of_trod {W : World} {a : Option Addr} {len cap fuel : Nat} {x : DataW H × List MemPlace} (h : DataW.trod enc Try.prog W 0 (fun _ => true) true fuel 22 [.slice a len cap] = some x) :
    ∃ l : List Ac, l.length = len ∧ (∀ k, k < l.length → AcOk (l.getD k ac0)) ∧ IsSl W a l cap := by
  rcases open_slice Try.underlying22 h with ⟨hcs, _⟩ | ⟨x, l, c, m, n, D, Pl, hcs, _, hl, hm, hmm, _, hx⟩
  · simp at hcs
    obtain ⟨rfl, rfl, rfl⟩ := hcs
    exact ⟨[], rfl, by simp, ⟨by simp, .inl rfl⟩⟩
  · simp at hcs
    obtain ⟨rfl, rfl, rfl⟩ := hcs
    have hmm2 : m = cap := hmm
    rw [acct_cells] at hx
    have hr : ∀ i, i < len → ∃ r : Ac, (∀ j, j < 5 → W.cell? ((x.add (i * 5)).add j) = r.cells.toList[j]?) ∧ AcOk r := fun i hi => by
      obtain ⟨cs', h1, h2⟩ := hx i (by omega)
      obtain ⟨r, rfl, ok⟩ := open_acct h2
      exact ⟨r, (World.cells?_some h1).2.2, ok⟩
    obtain ⟨f, hf⟩ := @choose_lt Ac ⟨ac0⟩ _ _ hr
    have hget : ∀ k, k < len → ((List.range len).map f).getD k ac0 = f k := fun k hk => by simp [List.getD, hk]
    have hlen : ((List.range len).map f).length = len := by simp
    refine ⟨(List.range len).map f, hlen, fun k hk => ?_, ⟨by rw [hlen]; exact hl, ?_⟩⟩
    · rw [hlen] at hk
      rw [hget k hk]
      exact (hf k hk).2
    · by_cases h0 : len = 0
      · subst h0
        exact .inl rfl
      · right
        obtain ⟨b, off, spot⟩ := x
        have hc : W.cell? ⟨b, off, spot⟩ = some (.string (f 0).code) := (hf 0 (by omega)).1 0 (by omega)
        have hspot : spot = none := World.cell?_spot hc
        subst hspot
        have hlt : b < W.heap.size := World.block_lt_of_cell? _ _ hc
        refine ⟨b, off, rfl, hlt, fun k hk => ?_⟩
        rw [hlen] at hk
        rw [hget k hk]
        refine ac_cells W b (off + k * 5) (f k) (fun i hi => ?_)
        have := (hf k hk).1 i hi
        rw [ch_add, ch_add] at this
        exact this
end
end Go.Proofs.Ytkaoiljepabmeaa

namespace Go.Proofs.Ytkaoiljepabmeaa
open Go.ChangeShapes Go.WideShapes Go.ChangeAt Go.RowKit
open Go.ChangeMaps (open_string shut_string)
set_option linter.unusedVariables false
set_option linter.unusedSimpArgs false

theorem lev_own : ownKnob Try.prog.godebug = none := by kernel_rfl
theorem lev_laidOut : laidOutB Try.prog = true := by kernel_rfl

set_option maxRecDepth 100000 in
theorem lev_lifted (os : Os) (started : os.Started) (H : Type) (enc : TypeId × Value → H) :
    ReturnsInHanded {} Try.checked os 3 .any (Rows.ledgerEvenSpec.pre6 enc Try.prog Try.f3 Rows.ledgerEvenRow.domain false) (Rows.ledgerEvenSpec.post enc Try.prog Try.f3 false true false false) := by
  refine returnsInHanded_of_change_sized (C := Try.checked) lev_own started (by kernel_rfl) Try.func3
    (ChangeSpec.witness6 (enc := enc) (C := Try.checked) false ⟨#[], #[.slice none 0 0, .slice none 0 0, .int .i64 0, .int .i64 0, .string ByteArray.empty], []⟩ 8 (by kernel_rfl) (by kernel_rfl) (by kernel_rfl) (by kernel_rfl)) ?_
  intro W base args ds gs before hval0 hW hcnd hsz0 _
  have hsz : (DataW.weightsEach Try.prog (Try.f3.params.toList ++ Rows.ledgerEvenSpec.plain.varTypes Try.prog) (ds ++ gs)).all (· ≤ reachBytes) = true := hsz0
  clear hsz0
  have hval : ∀ (j : Nat) t v, Try.f3.params[j]? = some t → args[j]? = some v → Value.okWide Try.prog W .any base t v := hval0
  have hW' := hW
  obtain ⟨p, q, hA0, hV, rfl, hfz, hnd⟩ := hW
  have hA : DataW.TrodAll enc Try.prog W 0 (fun _ => true) true Try.f3.params.toList args.toList ds p := hA0
  rw [Try.params3] at hA hval hsz
  obtain ⟨v0, vs0, d0, ds0, p0, q0, hargs, rfl, rfl, h0, r0⟩ := trodAll_cons hA
  obtain ⟨v1, vs1, d1, ds1, p1, q1, rfl, rfl, rfl, h1, r1⟩ := trodAll_cons r0
  obtain ⟨v2, vs2, d2, ds2, p2, q2, rfl, rfl, rfl, h2, r2⟩ := trodAll_cons r1
  obtain ⟨v3, vs3, d3, ds3, p3, q3, rfl, rfl, rfl, h3, r3⟩ := trodAll_cons r2
  obtain ⟨v4, vs4, d4, ds4, p4, q4, rfl, rfl, rfl, h4, r4⟩ := trodAll_cons r3
  obtain ⟨rfl, rfl, rfl⟩ := trodAll_nil r4
  obtain rfl : args = #[v0, v1, v2, v3, v4] := by cases args; simp_all
  obtain ⟨rfl, rfl⟩ := trodVars_none hV
  obtain ⟨a0, len0, cap0, rfl⟩ := okWide_slice Try.underlying22 (hval 0 22 v0 rfl rfl)
  obtain ⟨a1, len1, cap1, rfl⟩ := okWide_slice Try.underlying23 (hval 1 23 v1 rfl rfl)
  obtain ⟨en, rfl, rfl, rfl, w2⟩ := open_int Try.underlying3 (hval 2 3 v2 rfl rfl) h2
  obtain ⟨pe, rfl, rfl, rfl, w3⟩ := open_int Try.underlying3 (hval 3 3 v3 rfl rfl) h3
  obtain ⟨cur, rfl, rfl, rfl, w4⟩ := open_string Try.underlying9 (hval 4 9 v4 rfl rfl) h4
  have k0 := h0
  have lt0 : ∀ x ∈ p0, x.block < W.heap.size := by obtain ⟨m, hm⟩ := k0; exact DataW.trod_lt m _ _ _ hm
  have k1 := h1
  have lt1 : ∀ x ∈ p1, x.block < W.heap.size := by obtain ⟨m, hm⟩ := k1; exact DataW.trod_lt m _ _ _ hm
  obtain ⟨c, hl, hac, hsl⟩ : ∃ l : List Ac, l.length = len0 ∧ (∀ k, k < l.length → AcOk (l.getD k ac0)) ∧ IsSl W a0 l cap0 := by
    obtain ⟨fuel, hf⟩ := h0
    exact acs_of_trod hf
  obtain ⟨L, hL, hJ, hm, hx, _⟩ : ∃ L : List Je, L.length = len1 ∧ IsJs W a1 L cap1 ∧ len1 ≤ maxLen ∧ (∀ x ∈ L, (-9223372036854775808 ≤ x.ent ∧ x.ent ≤ 9223372036854775807) ∧ (-9223372036854775808 ≤ x.per ∧ x.per ≤ 9223372036854775807) ∧ ∀ n ∈ x.lns, n.acc.size ≤ maxLen ∧ n.cur.size ≤ maxLen) ∧ (L.flatMap lnsB).length ≤ Rows.uptoBulk d1 := by
    obtain ⟨fuel, hf⟩ := h1
    exact ld_jes_of_trod hf
  subst hl hL
  clear hA0 hval0
  refine (leven_walk a0 cap0 c a1 cap1 L en pe cur W hm hsl (fun k hk => ⟨(hac k hk).1, (hac k hk).2.1⟩) hJ (fun x h => (hx x h).2.2)).mono fun e W' ⟨he, bel⟩ => ?_
  subst he
  exact ⟨_, rfl, _, _, _, [], _, [], hW', trodAll_mk1 (shut_bool Try.underlying4 _), (trodAll_cons_mk (Below.trod lev_laidOut (by kernel_rfl) (of_decide_eq_true (by kernel_rfl)) k0 bel lt0) (trodAll_cons_mk (Below.trod lev_laidOut (by kernel_rfl) (of_decide_eq_true (by kernel_rfl)) k1 bel lt1) (trodAll_cons_mk (shut_int Try.underlying3 w2) (trodAll_cons_mk (shut_int Try.underlying3 w3) (trodAll_cons_mk (shut_string Try.underlying9 w4) trodAll_mk0))))), rfl, bel.frame _, fun h => by cases h⟩

theorem lev_over : Rows.ledgerEvenRow.holds Try.pinned (OpenSpec.ofChange Rows.ledgerEvenSpec) :=
  OpenClaim.holds_of_wide 3 Try.f3 rfl rfl rfl rfl rfl rfl rfl ⟨rfl, rfl, rfl, rfl, rfl⟩ rfl rfl rfl rfl rfl (by kernel_rfl) Try.func3 (by kernel_rfl)
    (of_decide_eq_true (by kernel_rfl)) (by unfold Func.isWrapper; first | (rw [if_pos (by decide +kernel)]; kernel_rfl) | (rw [if_neg (by decide +kernel)]; exact ⟨rfl, rfl⟩))
    (fun os started H enc _ => lev_lifted os started H enc)

/-- The statement. -/
theorem ledgerEven_holds : Rows.LedgerEvenSaid := lev_over
#print axioms ledgerEven_holds
end Go.Proofs.Ytkaoiljepabmeaa
