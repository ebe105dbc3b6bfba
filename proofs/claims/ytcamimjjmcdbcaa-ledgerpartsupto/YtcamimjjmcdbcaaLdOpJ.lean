/-
  Entries that came in, as they lie in memory, and how many lines they have.
-/
import Derived.Test.YtcamimjjmcdbcaaLdOp
import Derived.Test.YtcamimjjmcdbcaaLd11
import Derived.Test.YtcamimjjmcdbcaaRows
namespace Go.Proofs.Ytcamimjjmcdbcaa
set_option linter.unusedVariables false
set_option linter.unusedSimpArgs false
set_option maxRecDepth 100000
open Go.RowKit Go.Lib
section
variable {H : Type} {enc : TypeId × Value → H}
theorem ld_bulk_pos (d : DataW H) : 1 ≤ Rows.uptoBulk d := by
  cases d with
  | lit l => cases l <;> simp [Rows.uptoBulk]
  | _ => simp [Rows.uptoBulk]
theorem ld_bulk_len : ∀ l : List (DataW H), l.length ≤ Rows.uptoBulkAll l
  | [] => Nat.zero_le _
  | x :: l => by
    have h1 := ld_bulk_pos x
    have h2 := ld_bulk_len l
    simp only [Rows.uptoBulkAll, List.length_cons]
    omega
theorem ld_bulk_part {d : DataW H} {l : List (DataW H)} (h : d ∈ l) : Rows.uptoBulk d ≤ Rows.uptoBulkAll l := by
  induction l with
  | nil => cases h
  | cons x r ih =>
    simp only [Rows.uptoBulkAll]
    cases List.mem_cons.1 h with
    | inl e => subst e; omega
    | inr e => have := ih e; omega
theorem ld_line_cells : Try.prog.cellsOf 52 = 3 := by kernel_rfl
theorem ld_open_line {w : World} {base : Nat} {spare : Nat → Bool} {held : Bool} {m : Nat} {cs : List Value} {x : DataW H × List MemPlace} (h : DataW.trod enc Try.prog w base spare held m 52 cs = some x) : ∃ a : Ln, cs = a.cells.toList ∧ a.acc.size ≤ maxLen ∧ a.cur.size ≤ maxLen := by
  cases m with
  | zero => simp [DataW.trod] at h
  | succ m =>
    rw [DataW.trod_step] at h
    unfold DataW.trodStep at h
    rw [Try.underlying52] at h
    simp only [ld_line_cells] at h
    split at h
    · rename_i hl
      match cs, hl with
      | [c0, c1, c2], _ =>
        simp [pl_str, pl_int] at h
        cases h0 : DataW.trod enc Try.prog w base spare held m 9 [c0]
        · simp [h0] at h
        cases h1 : DataW.trod enc Try.prog w base spare held m 9 [c1]
        · simp [h0, h1] at h
        cases h2 : DataW.trod enc Try.prog w base spare held m 3 [c2]
        · simp [h0, h1, h2] at h
        obtain ⟨s, rfl, hs⟩ := ld_cell_string h0
        obtain ⟨t, rfl, ht⟩ := ld_cell_string h1
        obtain ⟨p, rfl, hp⟩ := ld_cell_int h2
        exact ⟨⟨s, t, p⟩, rfl, hs, ht⟩
    · cases h
/-- Lines that came in. -/
theorem ld_lns_of_trod {W : World} {a : Option Addr} {len cap fuel : Nat} {x : DataW H × List MemPlace} (h : DataW.trod enc Try.prog W 0 (fun _ => true) true fuel 33 [.slice a len cap] = some x) :
    ∃ l : List Ln, l.length = len ∧ IsLn W a l cap ∧ (∀ n ∈ l, n.acc.size ≤ maxLen ∧ n.cur.size ≤ maxLen) ∧ len ≤ Rows.uptoBulk x.1 := by
  rcases Go.Deep.open_slice Try.underlying33 h with ⟨hcs, _⟩ | ⟨x, l, c, m, n, D, Pl, hcs, _, hl, hm, hmm, hxx, hx⟩
  · simp at hcs
    obtain ⟨rfl, rfl, rfl⟩ := hcs
    exact ⟨[], rfl, ⟨by simp, .inl rfl⟩, by simp, by omega⟩
  · simp at hcs
    obtain ⟨rfl, rfl, rfl⟩ := hcs
    have hmm2 : m = cap := hmm
    rw [ld_line_cells] at hx
    have hr : ∀ i, i < len → ∃ r : Ln, (∀ j, j < 3 → W.cell? ((x.add (i * 3)).add j) = r.cells.toList[j]?) ∧ r.acc.size ≤ maxLen ∧ r.cur.size ≤ maxLen := fun i hi => by
      obtain ⟨cs', h1, h2⟩ := hx i (by omega)
      obtain ⟨r, rfl, hw⟩ := ld_open_line h2
      exact ⟨r, (World.cells?_some h1).2.2, hw⟩
    obtain ⟨f, hf⟩ := @Go.Deep.choose_lt Ln ⟨ln0⟩ _ _ hr
    have hget : ∀ k, k < len → ((List.range len).map f).getD k ln0 = f k := fun k hk => by simp [List.getD, hk]
    have hlen : ((List.range len).map f).length = len := by simp
    refine ⟨(List.range len).map f, hlen, ⟨by rw [hlen]; exact hl, ?_⟩, ?_, ?_⟩
    · by_cases h0 : len = 0
      · subst h0
        exact .inl rfl
      · right
        obtain ⟨b, off, spot⟩ := x
        have hc : W.cell? ⟨b, off, spot⟩ = some (.string (f 0).acc) := (hf 0 (by omega)).1 0 (by omega)
        have hspot : spot = none := World.cell?_spot hc
        subst hspot
        refine ⟨b, off, rfl, World.block_lt_of_cell? _ _ hc, fun k hk => ?_⟩
        rw [hlen] at hk
        rw [hget k hk]
        have C : ∀ i, i < 3 → W.cell? ⟨b, off + k * 3 + i, none⟩ = (f k).cells.toList[i]? := fun i hi => by
          have := (hf k hk).1 i hi
          rw [ld_add, ld_add] at this
          exact this
        exact ⟨C 0 (by omega), C 1 (by omega), C 2 (by omega)⟩
    · intro y hy
      obtain ⟨k, hk, rfl⟩ := List.mem_map.1 hy
      exact (hf k (List.mem_range.1 hk)).2
    · rw [hxx]
      have h1 := ld_bulk_len ((List.range len).map D)
      simp only [List.length_map, List.length_range] at h1
      simp only [Rows.uptoBulk]
      omega
theorem ld_entry_cells : Try.prog.cellsOf 35 = 4 := by kernel_rfl
theorem ld_lns_cells : Try.prog.cellsOf 33 = 1 := by kernel_rfl
theorem ld_cell_slice {w : World} {base : Nat} {spare : Nat → Bool} {held : Bool} {m : Nat} {c : Value} {y : DataW H × List MemPlace} (h : DataW.trod enc Try.prog w base spare held m 33 [c] = some y) : ∃ a len cap, c = .slice a len cap := by
  rcases Go.Deep.open_slice Try.underlying33 h with ⟨hcs, _⟩ | ⟨x, l, c', m, n, D, Pl, hcs, _⟩
  · simp at hcs; exact ⟨_, _, _, hcs⟩
  · simp at hcs; exact ⟨_, _, _, hcs⟩
theorem ld_open_entry {w : World} {m : Nat} {cs : List Value} {x : DataW H × List MemPlace} (h : DataW.trod enc Try.prog w 0 (fun _ => true) true m 35 cs = some x) :
    ∃ a : Je, cs = a.cells.toList ∧ (-9223372036854775808 ≤ a.ent ∧ a.ent ≤ 9223372036854775807) ∧ (-9223372036854775808 ≤ a.per ∧ a.per ≤ 9223372036854775807) ∧ IsLn w a.adr a.lns a.cap ∧ (∀ n ∈ a.lns, n.acc.size ≤ maxLen ∧ n.cur.size ≤ maxLen) ∧ a.lns.length ≤ Rows.uptoBulk x.1 := by
  cases m with
  | zero => simp [DataW.trod] at h
  | succ m =>
    rw [DataW.trod_step] at h
    unfold DataW.trodStep at h
    rw [Try.underlying35] at h
    simp only [ld_entry_cells] at h
    split at h
    · rename_i hl
      match cs, hl with
      | [c0, c1, c2, c3], _ =>
        simp [pl_str, pl_int, ld_lns_cells] at h
        cases h0 : DataW.trod enc Try.prog w 0 (fun _ => true) true m 9 [c0]
        · simp [h0] at h
        cases h1 : DataW.trod enc Try.prog w 0 (fun _ => true) true m 3 [c1]
        · simp [h0, h1] at h
        cases h2 : DataW.trod enc Try.prog w 0 (fun _ => true) true m 3 [c2]
        · simp [h0, h1, h2] at h
        cases h3 : DataW.trod enc Try.prog w 0 (fun _ => true) true m 33 [c3]
        · simp [h0, h1, h2, h3] at h
        rename_i y3
        obtain ⟨s, rfl, hs⟩ := ld_cell_string h0
        obtain ⟨f, rfl, hf⟩ := ld_cell_int h1
        obtain ⟨p, rfl, hp⟩ := ld_cell_int h2
        obtain ⟨a, len, cap, rfl⟩ := ld_cell_slice h3
        obtain ⟨l, rfl, g1, g2, g3⟩ := ld_lns_of_trod h3
        refine ⟨⟨s, f, p, a, cap, l⟩, rfl, ld_wf hf, ld_wf hp, g1, g2, ?_⟩
        simp [h0, h1, h2, h3] at h
        rw [← h]
        simp only [Rows.uptoBulk, Rows.uptoBulkAll]
        show l.length ≤ _
        omega
    · cases h
/-- Entries that came in. -/
theorem ld_jes_of_trod {W : World} {a : Option Addr} {len cap fuel : Nat} {x : DataW H × List MemPlace} (h : DataW.trod enc Try.prog W 0 (fun _ => true) true fuel 31 [.slice a len cap] = some x) :
    ∃ L : List Je, L.length = len ∧ IsJs W a L cap ∧ len ≤ maxLen ∧ (∀ x ∈ L, (-9223372036854775808 ≤ x.ent ∧ x.ent ≤ 9223372036854775807) ∧ (-9223372036854775808 ≤ x.per ∧ x.per ≤ 9223372036854775807) ∧ ∀ n ∈ x.lns, n.acc.size ≤ maxLen ∧ n.cur.size ≤ maxLen) ∧ (L.flatMap lnsB).length ≤ Rows.uptoBulk x.1 := by
  rcases Go.Deep.open_slice Try.underlying31 h with ⟨hcs, _⟩ | ⟨x, l, c, m, n, D, Pl, hcs, _, hl, hm, hmm, hxx, hx⟩
  · simp at hcs
    obtain ⟨rfl, rfl, rfl⟩ := hcs
    exact ⟨[], rfl, ⟨by simp, .inl rfl, by simp⟩, by unfold maxLen; omega, by simp, by simp⟩
  · simp at hcs
    obtain ⟨rfl, rfl, rfl⟩ := hcs
    have hmm2 : m = cap := hmm
    rw [ld_entry_cells] at hx
    have hr : ∀ i, i < len → ∃ r : Je, (∀ j, j < 4 → W.cell? ((x.add (i * 4)).add j) = r.cells.toList[j]?) ∧ (-9223372036854775808 ≤ r.ent ∧ r.ent ≤ 9223372036854775807) ∧ (-9223372036854775808 ≤ r.per ∧ r.per ≤ 9223372036854775807) ∧ IsLn W r.adr r.lns r.cap ∧ (∀ n ∈ r.lns, n.acc.size ≤ maxLen ∧ n.cur.size ≤ maxLen) ∧ r.lns.length ≤ Rows.uptoBulk (D i) := fun i hi => by
      obtain ⟨cs', h1, h2⟩ := hx i (by omega)
      obtain ⟨r, rfl, hw⟩ := ld_open_entry h2
      exact ⟨r, (World.cells?_some h1).2.2, hw⟩
    obtain ⟨f, hf⟩ := @Go.Deep.choose_lt Je ⟨je0⟩ _ _ hr
    have hget : ∀ k, k < len → ((List.range len).map f).getD k je0 = f k := fun k hk => by simp [List.getD, hk]
    have hlen : ((List.range len).map f).length = len := by simp
    refine ⟨(List.range len).map f, hlen, ⟨by rw [hlen]; exact hl, ?_, ?_⟩, Nat.le_trans hl hm, ?_, ?_⟩
    · by_cases h0 : len = 0
      · subst h0
        exact .inl rfl
      · right
        obtain ⟨b, off, spot⟩ := x
        have hc : W.cell? ⟨b, off, spot⟩ = some (.string (f 0).ref) := (hf 0 (by omega)).1 0 (by omega)
        have hspot : spot = none := World.cell?_spot hc
        subst hspot
        refine ⟨b, off, rfl, World.block_lt_of_cell? _ _ hc, fun k hk => ?_⟩
        rw [hlen] at hk
        rw [hget k hk]
        have C : ∀ i, i < 4 → W.cell? ⟨b, off + k * 4 + i, none⟩ = (f k).cells.toList[i]? := fun i hi => by
          have := (hf k hk).1 i hi
          rw [ld_add, ld_add] at this
          exact this
        exact ⟨C 0 (by omega), C 1 (by omega), C 2 (by omega), C 3 (by omega)⟩
    · intro y hy
      obtain ⟨k, hk, rfl⟩ := List.mem_map.1 hy
      exact (hf k (List.mem_range.1 hk)).2.2.2.1
    · intro y hy
      obtain ⟨k, hk, rfl⟩ := List.mem_map.1 hy
      have := hf k (List.mem_range.1 hk)
      exact ⟨this.2.1, this.2.2.1, this.2.2.2.2.1⟩
    · rw [hxx]
      have key : ∀ l : List Nat, (∀ k ∈ l, k < len) → ((l.map f).flatMap lnsB).length ≤ Rows.uptoBulkAll (l.map D) := by
        intro l
        induction l with
        | nil => intro _; simp
        | cons k l ih =>
          intro hk
          have h1 := ih (fun q hq => hk q (List.mem_cons_of_mem _ hq))
          have h2 := (hf k (hk k (List.mem_cons_self ..))).2.2.2.2.2
          simp only [List.map_cons, List.flatMap_cons, List.length_append, lnsB_length, Rows.uptoBulkAll]
          omega
      have h1 := key (List.range len) (fun k hk => List.mem_range.1 hk)
      simp only [Rows.uptoBulk]
      omega
end
end Go.Proofs.Ytcamimjjmcdbcaa
