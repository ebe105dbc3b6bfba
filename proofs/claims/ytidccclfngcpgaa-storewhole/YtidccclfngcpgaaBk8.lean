/-
  Bytes as a text; what a crash leaves; a disk that a call has made.
-/
import Derived.Test.YtidccclfngcpgaaBk7
import Derived.Lib.AppendStr
import Derived.Laws.BytesArg
namespace Go.Proofs.Ytidccclfngcpgaa
set_option linter.unusedVariables false
set_option linter.unusedSimpArgs false
set_option maxRecDepth 100000
open Go.RowKit Go.Lib

def txt (l : List UInt8) : ByteArray := ⟨l.toArray⟩
theorem strNums (l : List UInt8) : strOfNums (l.map fun b => (b.toNat : Int)) = txt l := by
  unfold strOfNums txt
  congr 1
  congr 1
  rw [List.map_map]
  conv => rhs; rw [← List.map_id l]
  apply List.map_congr_left
  intro b _
  simp
/-- 'string(b)'. -/
theorem run_str (W : World) (a : Option Addr) (l : List UInt8) (cap : Nat) (h : IsBy W a l cap) : (convert 33 9 (.slice a l.length cap)).run Try.prog W = .ok (.string (txt l)) W := by
  rcases h.lies with rfl | ⟨b, off, rfl, hlt, hc⟩
  · cases a with
    | none => exact run_convert_bytes_nil W 33 5 Try.underlying33 Try.underlying5 0 cap 9 Try.underlying9
    | some ad =>
      rw [run_convert_bytes_string W 33 9 5 _ _ _ Try.underlying33 Try.underlying5 Try.underlying9]
      have := run_bytesToString (P := Try.prog) W ad 0 cap [] (by
        have := run_loadCells_list (P := Try.prog) W ad [] (fun j v hj => by simp at hj)
        simpa using this)
      exact this
  · rw [run_convert_bytes_arg W 33 5 Try.underlying33 Try.underlying5 b off l.length cap (l.map fun b => (b.toNat : Int)) (by simp) (fun i hi => by
      rw [hc i hi]
      simp [List.getD, hi]) 9 Try.underlying9, strNums]
/-- A beginning of what was read. -/
theorem isBy_row {W : World} {g : Nat} {l : List UInt8} {t : TypeId} (h : W.heap[g]? = some (.cells (byC l).toArray t (0, 0))) (m : Nat) (hm : m ≤ l.length) (cap : Nat) (hc : m ≤ cap) : IsBy W (some ⟨g, 0, none⟩) (l.take m) cap := by
  refine ⟨by rw [List.length_take]; omega, .inr ⟨g, 0, rfl, (Array.getElem?_eq_some_iff.1 h).1, fun k hk => ?_⟩⟩
  rw [List.length_take] at hk
  rw [cell_of_row W g _ _ t (0, 0) h]
  have : k < l.length := by omega
  simp [byC, this]
theorem padB_take (l : List UInt8) : (padB l).take l.length = l := by simp [padB]

/-- A disk that a call has made. -/
def Tn (w W : World) (p nb sb : Nat) (cv : Value) (n : Nat) (D : Dk) : Prop := DkAt W w.heap.size p nb sb cv n D ∧ Below w.heap.size w W
theorem Tn.still {w W U : World} {p nb sb : Nat} {cv : Value} {n : Nat} {D : Dk} (h : Tn w W p nb sb cv n D) (hs : Still W U) : Tn w U p nb sb cv n D := ⟨h.1.still hs, h.2.trans (hs.below _)⟩
theorem Tn.below {w W U : World} {p nb sb : Nat} {cv : Value} {n : Nat} {D : Dk} (h : Tn w W p nb sb cv n D) (hs : Below W.heap.size W U) : Tn w U p nb sb cv n D := ⟨h.1.below hs, h.2.trans (hs.mono h.2.size)⟩
theorem Tn.keeps {w W U : World} {p nb sb : Nat} {cv cv' : Value} {n : Nat} {D D' : Dk} (h : Tn w W p nb sb cv n D) (hd : DkAt U w.heap.size p nb sb cv' n D') (hk : Keeps w.heap.size dkT W U) : Tn w U p nb sb cv' n D' := ⟨hd, h.2.trans (hk.below h.2.size)⟩

section
variable {w W : World} {p nb sb : Nat} {cv : Value} {n : Nat} {D : Dk}
theorem tn_write (h : Tn w W p nb sb cv n D) (i : Nat) (a : Option Addr) (l : List UInt8) (cap : Nat) (hf : D.failing = false) (hi : i < n) (hl : l.length ≤ 64) (hn : n ≤ 200) (hs0 : D.steps ≤ 1000000) (hc0 : D.chg.length ≤ 1000000) (hB : IsBy W a l cap) :
    Calls Try.prog 25 #[.pointer (some ⟨p, 0, none⟩), .int .i64 (i : Int), .slice a l.length cap] W fun e w' => e = .returned .nilIface ∧ ∃ cv', Hid (Tn w w' p nb sb cv' n (D.write i l)) ∧ Hid (Keeps w.heap.size dkT W w') := by
  refine (write_ok w.heap.size p nb sb cv n D i a l cap W h.1 h.2.size hf hi hl hn hs0 hc0 hB).mono ?_
  rintro e w' ⟨rfl, cv', hd, hk⟩
  exact ⟨rfl, cv', h.keeps hd hk, hk⟩
theorem tn_writeBad (h : Tn w W p nb sb cv n D) (i : Int) (a : Option Addr) (l : List UInt8) (cap : Nat) (h0 : wrBad D n i l ≠ 0) :
    Calls Try.prog 25 #[.pointer (some ⟨p, 0, none⟩), .int .i64 i, .slice a l.length cap] W fun e w' => e = .returned (enE (wrBad D n i l)) ∧ Hid (Tn w w' p nb sb cv n D) ∧ Hid (Still W w') := by
  refine (write_bad w.heap.size p nb sb cv n D i a l cap W h.1 h0).mono ?_
  rintro e w' ⟨rfl, hs⟩
  exact ⟨rfl, h.still hs, hs⟩
theorem tn_readTorn (h : Tn w W p nb sb cv n D) (i : Nat) (hi : i < n) (ht : (D.now.getD i bk0).torn = true) :
    Calls Try.prog 27 #[.pointer (some ⟨p, 0, none⟩), .int .i64 (i : Int)] W fun e w' => e = .returned (.tuple #[.slice none 0 0, enE 9]) ∧ Hid (Tn w w' p nb sb cv n D) ∧ Hid (Still W w') := by
  refine (read_torn w.heap.size p nb sb cv n D i W h.1 hi ht).mono ?_
  rintro e w' ⟨rfl, hs⟩
  exact ⟨rfl, h.still hs, hs⟩
theorem tn_read (h : Tn w W p nb sb cv n D) (i : Nat) (hi : i < n) (ht : (D.now.getD i bk0).torn = false) :
    Calls Try.prog 27 #[.pointer (some ⟨p, 0, none⟩), .int .i64 (i : Int)] W fun e w' => e = .returned (.tuple #[.slice (some ⟨W.heap.size, 0, none⟩) 64 64, .nilIface]) ∧ Hid (Tn w w' p nb sb cv n D) ∧ Hid (w'.heap[W.heap.size]? = some (.cells (byC (D.now.getD i bk0).byt).toArray 5 (0, 0))) ∧ Hid (Below W.heap.size W w') := by
  refine (read_ok w.heap.size p nb sb cv n D i W h.1 hi ht).mono ?_
  rintro e w' ⟨rfl, h1, h2⟩
  exact ⟨rfl, h.below h2, h1, h2⟩
theorem tn_crash (h : Tn w W p nb sb cv n D) (a : Option Addr) (keep : List Int) (cap : Nat) (torn : Int) (hc0 : D.chg.length ≤ 1000000) (hkl : keep.length ≤ 9223372036854775807) (hin : IsIn W a keep cap) :
    Calls Try.prog 13 #[.pointer (some ⟨p, 0, none⟩), .slice a keep.length cap, .int .i64 torn] W fun e w' => e = .returned (.tuple #[]) ∧ Hid (Tn w w' p nb sb (.slice none 0 0) n (D.crash keep torn)) ∧ Hid (Keeps w.heap.size dkT W w') := by
  refine (crash_any w.heap.size p nb sb cv n D a keep cap torn W h.1 h.2.size hc0 hkl hin).mono ?_
  rintro e w' ⟨rfl, hh⟩
  exact ⟨rfl, h.keeps hh.out.1 hh.out.2, hh.out.2⟩
end
theorem tn_new (n : Nat) (w : World) (h1 : 1 ≤ n) (h2 : n ≤ 200) :
    Calls Try.prog 4 #[.int .i64 (n : Int)] w fun e w' => ∃ p nb sb, e = .returned (.tuple #[.pointer (some ⟨p, 0, none⟩), .nilIface]) ∧ Hid (Tn w w' p nb sb (.slice none 0 0) n (dk0 n)) := by
  refine (new_ok n w h1 h2).mono ?_
  rintro e w' ⟨p, nb, sb, rfl, hd, hb⟩
  exact ⟨p, nb, sb, rfl, hd, hb⟩
theorem IsBy.belowN {w w' : World} {n : Nat} {a : Option Addr} {l : List UInt8} {cap : Nat} (h : IsBy w a l cap) (hb : Below n w w') (hn : w.heap.size ≤ n) : IsBy w' a l cap := h.below (hb.mono hn)
theorem isIn_new (W : World) (l : List Int) (t : TypeId) : IsIn (W.alloc (.cells (l.map (Value.int .i64)).toArray t)) (some ⟨W.heap.size, 0, none⟩) l l.length := by
  refine ⟨Nat.le_refl _, .inr ⟨W.heap.size, 0, rfl, by simp, fun k hk => ?_⟩⟩
  rw [cell_of_row _ _ _ _ _ (0, 0) (new_heap W _)]
  simp [hk]
end Go.Proofs.Ytidccclfngcpgaa
