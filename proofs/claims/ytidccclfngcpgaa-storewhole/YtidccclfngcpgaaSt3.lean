/-
  A page written and read.
-/
import Derived.Test.YtidccclfngcpgaaSt2b
namespace Go.Proofs.Ytidccclfngcpgaa
set_option linter.unusedVariables false
set_option linter.unusedSimpArgs false
set_option maxRecDepth 100000
open Go.RowKit Go.Lib

/-- A page, as a block has it. -/
def pgB (l : List UInt8) : List UInt8 := [UInt8.ofNat l.length] ++ l
theorem pgB_length (l : List UInt8) : (pgB l).length = l.length + 1 := by simp [pgB]
section
variable {w W : World} {p nb sb : Nat} {cv : Value} {n : Nat} {D : Dk}
set_option maxHeartbeats 2000000 in
theorem writePage_any (a : Tn w W p nb sb cv n D) (i : Nat) (ad : Option Addr) (l : List UInt8) (cap : Nat) (hB : IsBy W ad l cap) (hc : cap = 0 ∨ ad ≠ none) (hl : l.length ≤ 60) (hf : D.failing = false) (hi : i < n) (hn : n ≤ 200) (hs0 : D.steps ≤ 1000000) (hc0 : D.chg.length ≤ 1000000) :
    Calls Try.prog 29 #[.pointer (some ⟨p, 0, none⟩), .int .i64 (i : Int), .slice ad l.length cap] W fun e w' => e = .returned .nilIface ∧ ∃ cv', Hid (Tn w w' p nb sb cv' n (D.write i (pgB l))) ∧ Hid (Keeps w.heap.size dkT W w') := by
  have HB : Hid (IsBy W ad l cap) := hB
  have hl0 : (0 : Int) ≤ l.length := by omega
  have hl1 : (l.length : Int) ≤ 60 := by omega
  have HW : Hid (∀ U a' c', Below W.heap.size W U → IsBy U a' (pgB l) c' → Calls Try.prog 25 #[.pointer (some ⟨p, 0, none⟩), .int .i64 (i : Int), .slice a' (pgB l).length c'] U fun e w' => e = .returned .nilIface ∧ ∃ cv', Hid (Tn w w' p nb sb cv' n (D.write i (pgB l))) ∧ Hid (Keeps w.heap.size dkT W w')) := fun U a' c' hU hb => by
    refine (tn_write (a.below hU) i a' (pgB l) c' hf hi (by rw [pgB_length]; omega) hn hs0 hc0 hb).mono ?_
    rintro e w' ⟨rfl, cv', h1, h2⟩
    exact ⟨rfl, cv', h1, (Keeps.of_below hU).trans h2.out⟩
  have hby : ((UInt8.ofNat l.length).toNat : Int) = (l.length : Int) := by
    rw [UInt8.toNat_ofNat']
    omega
  have Hby : Hid (((UInt8.ofNat l.length).toNat : Int) = (l.length : Int)) := hby
  have hwr : IntKind.u8.wrap (l.length : Int) = (l.length : Int) := by rw [IntKind.wrap_u8]; omega
  clear hB a hby
  go_enter Try.func29, Try.ntmps29
  go_wp2_with (at_builtin; refine wpList_appB rfl (.tmp 12) (.tmp 13) rfl W.heap.size (.slice (some ⟨W.heap.size, 0, none⟩) 1 1) [UInt8.ofNat l.length] ad l l.length cap (by rfl) (by rfl) rfl ?c1 (HB.out.below ((Below.refl _ W).alloc (Nat.le_refl _) _)) hc ?c2 ?c3 ?_)
  case c1 =>
    have := byRow_new W [UInt8.ofNat l.length] W.heap.size (Nat.le_refl _) (by simp)
    rw [show (byC [UInt8.ofNat l.length]).toArray = #[.int .u8 (l.length : Int)] by rw [← Hby.out]; rfl] at this
    exact this
  case c2 => simp
  case c3 => simp; omega
  intro v2 w2 hr2 hb2 _
  obtain ⟨a', c', rfl, hby⟩ := hr2.isBy
  have hbb : Below W.heap.size W w2 := ((Below.refl _ W).alloc (Nat.le_refl _) _).trans hb2
  have HC : Hid (Calls _ _ _ w2 _) := HW.out w2 a' c' hbb hby
  clear hr2 hb2 hby hbb HW HB
  rw [show (UInt8.ofNat l.length :: l).length = (pgB l).length from rfl]
  go_wp2_with fail
  refine HC.out.mono ?_
  rintro e w' ⟨rfl, cv', h1, h2⟩
  go_wp2
  go_ret
  exact ⟨rfl, cv', h1, h2⟩
theorem writePage_bad (a : Tn w W p nb sb cv n D) (i : Nat) (ad : Option Addr) (l : List UInt8) (cap : Nat) (hB : IsBy W ad l cap) (hc : cap = 0 ∨ ad ≠ none) (hl : l.length ≤ 60) (hf : D.failing = true) :
    Calls Try.prog 29 #[.pointer (some ⟨p, 0, none⟩), .int .i64 (i : Int), .slice ad l.length cap] W fun e w' => e = .returned (enE 7) ∧ Hid (Tn w w' p nb sb cv n D) ∧ Hid (Below W.heap.size W w') := by
  have HB : Hid (IsBy W ad l cap) := hB
  have hl0 : (0 : Int) ≤ l.length := by omega
  have hl1 : (l.length : Int) ≤ 60 := by omega
  have hwb : ∀ (j : Int) (m : List UInt8), wrBad D n j m = 7 := fun j m => by unfold wrBad; rw [if_pos hf]
  have HW : Hid (∀ U a' c', Below W.heap.size W U → IsBy U a' (pgB l) c' → Calls Try.prog 25 #[.pointer (some ⟨p, 0, none⟩), .int .i64 (i : Int), .slice a' (pgB l).length c'] U fun e w' => e = .returned (enE 7) ∧ Hid (Tn w w' p nb sb cv n D) ∧ Hid (Below W.heap.size W w')) := fun U a' c' hU hb => by
    refine (tn_writeBad (a.below hU) i a' (pgB l) c' (by rw [hwb]; decide)).mono ?_
    rintro e w' ⟨rfl, h1, h2⟩
    exact ⟨by rw [hwb], h1, hU.trans (h2.out.below _)⟩
  have hby : ((UInt8.ofNat l.length).toNat : Int) = (l.length : Int) := by
    rw [UInt8.toNat_ofNat']
    omega
  have Hby : Hid (((UInt8.ofNat l.length).toNat : Int) = (l.length : Int)) := hby
  have hwr : IntKind.u8.wrap (l.length : Int) = (l.length : Int) := by rw [IntKind.wrap_u8]; omega
  clear hB a hby hwb
  rw [enE_ne (by decide)]
  rw [enE_ne (by decide)] at HW
  go_enter Try.func29, Try.ntmps29
  go_wp2_with (at_builtin; refine wpList_appB rfl (.tmp 12) (.tmp 13) rfl W.heap.size (.slice (some ⟨W.heap.size, 0, none⟩) 1 1) [UInt8.ofNat l.length] ad l l.length cap (by rfl) (by rfl) rfl ?c1 (HB.out.below ((Below.refl _ W).alloc (Nat.le_refl _) _)) hc ?c2 ?c3 ?_)
  case c1 =>
    have := byRow_new W [UInt8.ofNat l.length] W.heap.size (Nat.le_refl _) (by simp)
    rw [show (byC [UInt8.ofNat l.length]).toArray = #[.int .u8 (l.length : Int)] by rw [← Hby.out]; rfl] at this
    exact this
  case c2 => simp
  case c3 => simp; omega
  intro v2 w2 hr2 hb2 _
  obtain ⟨a', c', rfl, hby⟩ := hr2.isBy
  have hbb : Below W.heap.size W w2 := ((Below.refl _ W).alloc (Nat.le_refl _) _).trans hb2
  have HC : Hid (Calls _ _ _ w2 _) := HW.out w2 a' c' hbb hby
  clear hr2 hb2 hby hbb HW HB
  rw [show (UInt8.ofNat l.length :: l).length = (pgB l).length from rfl]
  go_wp2_with fail
  refine HC.out.mono ?_
  rintro e w' ⟨rfl, h1, h2⟩
  go_wp2
  go_ret
  exact ⟨rfl, h1, h2⟩
/-- A block has a page. -/
def pgAt (D : Dk) (i : Nat) (l : List UInt8) : Prop := D.now.getD i bk0 = ⟨padB (pgB l), false⟩
theorem readPage_any (a : Tn w W p nb sb cv n D) (i : Nat) (hi : i < n) (l : List UInt8) (hl : l.length ≤ 60) (hp : pgAt D i l) :
    Calls Try.prog 20 #[.pointer (some ⟨p, 0, none⟩), .int .i64 (i : Int)] W fun e w' => ∃ ad cap, e = .returned (.tuple #[.slice ad l.length cap, .nilIface]) ∧ Hid (IsBy w' ad l cap) ∧ Hid (Below W.heap.size W w') ∧ ad ≠ none := by
  have HR : Hid (Calls _ _ _ _ _) := tn_read a i hi (by rw [hp])
  rw [show (D.now.getD i bk0).byt = padB (pgB l) by rw [hp]] at HR
  clear a hp
  have hl0 : (0 : Int) ≤ l.length := by omega
  have hl1 : (l.length : Int) ≤ 60 := by omega
  have hby : ((UInt8.ofNat l.length).toNat : Int) = (l.length : Int) := by
    rw [UInt8.toNat_ofNat']
    omega
  go_enter Try.func20, Try.ntmps20
  go_wp2_with fail
  refine HR.out.mono ?_
  rintro e w1 ⟨rfl, _, hrow, hb⟩
  have c0 : w1.cell? ⟨W.heap.size, 0, none⟩ = some (.int .u8 (l.length : Int)) := by
    rw [cell_of_row _ _ _ _ _ (0, 0) hrow.out, ← hby]
    rfl
  have HE : Hid (IsBy w1 (some ⟨W.heap.size, 1, none⟩) l 63) := by
    refine ⟨by omega, .inr ⟨W.heap.size, 1, rfl, (Array.getElem?_eq_some_iff.1 hrow.out).1, fun k hk => ?_⟩⟩
    rw [cell_of_row _ _ _ _ _ (0, 0) hrow.out, List.getElem?_toArray, Nat.add_comm 1 k]
    have hk1 : k + 1 < (padB (pgB l)).length := by rw [padB_length _ (by rw [pgB_length]; omega)]; omega
    rw [byC_get _ _ hk1]
    congr 3
    have hk2 : k < (l ++ List.replicate (64 - (pgB l).length) 0).length := by simp; omega
    have : (padB (pgB l))[k + 1] = (l ++ List.replicate (64 - (pgB l).length) 0)[k] := by
      simp [padB, pgB]
    rw [this, List.getElem_append_left hk]
  clear HR hby hrow
  go_wp2
  rw [show 1 + l.length - 1 = l.length by omega]
  go_ret2
  exact ⟨_, _, rfl, HE, hb, by simp⟩
end
end Go.Proofs.Ytidccclfngcpgaa
