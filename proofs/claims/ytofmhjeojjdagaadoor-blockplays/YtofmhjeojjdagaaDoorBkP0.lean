/-
  What a walk of daylaw2.BlockPlays keeps.
-/
import Derived.Test.YtofmhjeojjdagaaDoorRfK5
namespace Go.Proofs.YtofmhjeojjdagaaDoor
set_option linter.unusedVariables false
set_option linter.unusedSimpArgs false
set_option maxRecDepth 100000
open Go.RowKit Go.Lib

/-- Lists of numbers that came in. -/
structure Rw where
  ad : Option Addr
  l : List Int
  cap : Nat
def rw0 : Rw := ⟨none, [], 0⟩
structure IsRs (W : World) (a : Option Addr) (rs : List Rw) (cap : Nat) : Prop where
  cap : rs.length ≤ cap
  lies : rs = [] ∨ ∃ b off, a = some ⟨b, off, none⟩ ∧ b < W.heap.size ∧ ∀ k, k < rs.length → W.cell? ⟨b, off + k, none⟩ = some (.slice (rs.getD k rw0).ad (rs.getD k rw0).l.length (rs.getD k rw0).cap)
  rows : ∀ r ∈ rs, IsIn W r.ad r.l r.cap ∧ r.l.length ≤ 9223372036854775807
theorem IsRs.below {w w' : World} {a : Option Addr} {rs : List Rw} {cap : Nat} (h : IsRs w a rs cap) (hb : Below w.heap.size w w') : IsRs w' a rs cap := by
  refine ⟨h.cap, ?_, fun r hr => ⟨(h.rows r hr).1.below hb, (h.rows r hr).2⟩⟩
  rcases h.lies with h | ⟨b, off, e, hlt, hc⟩
  · exact .inl h
  · exact .inr ⟨b, off, e, by have := hb.size; omega, fun k hk => (hb.cell (p := ⟨b, off + k, none⟩) hlt).trans (hc k hk)⟩

theorem own_low {W : World} {lo lo' : Nat} {e : TypeId} {z : Nat} {v : Value} {m : Nat} {xs : List Value} (h : W.ownsRow lo e z v m xs) (hl : lo' ≤ lo) : W.ownsRow lo' e z v m xs := by
  rcases h.2 with ⟨hv, hn⟩ | ⟨g1, c1, cur, hv, hb1, r⟩
  · exact ⟨h.1, .inl ⟨hv, hn⟩⟩
  · exact ⟨h.1, .inr ⟨g1, c1, cur, hv, by omega, r⟩⟩
/-- Both disks. -/
structure PS (w W : World) (p nb sb kp : Nat) (cv : Value) (n : Nat) (D : Dk) (i : Nat) : Prop where
  tn : Tn w W p nb sb cv n D
  k : IsK W w.heap.size kp D
  few : D.few i
  to : ∀ c ∈ D.chg, c.to.torn = false
def PSx (w W : World) (p nb sb kp n i : Nat) : Prop := ∃ cv D, PS w W p nb sb kp cv n D i
section
variable {w W U : World} {p nb sb kp n i : Nat} {cv : Value} {D : Dk}
theorem IsK.below {lo : Nat} (h : IsK W lo kp D) (hb : Below W.heap.size W U) : IsK U lo kp D := by
  obtain ⟨vn, vs, vw, ns, ss, ws, h⟩ := h
  exact ⟨vn, vs, vw, ns, ss, ws, h.below hb⟩
theorem IsK.keepsD {lo lo' : Nat} (h : IsK W lo kp D) (hb : Keeps lo' dkT W U) : IsK U lo kp D := by
  obtain ⟨vn, vs, vw, ns, ss, ws, h⟩ := h
  exact ⟨vn, vs, vw, ns, ss, ws, h.keeps hb (by decide) (by decide)⟩
theorem PS.below (h : PS w W p nb sb kp cv n D i) (hb : Below W.heap.size W U) : PS w U p nb sb kp cv n D i := ⟨h.tn.below hb, h.k.below hb, h.few, h.to⟩
theorem PS.more (h : PS w W p nb sb kp cv n D i) : PS w W p nb sb kp cv n D (i + 1) := ⟨h.tn, h.k, ⟨by have := h.few.steps; omega, by have := h.few.chg; omega⟩, h.to⟩
theorem Tn.keepsK {lo : Nat} (h : Tn w W p nb sb cv n D) (hk : Keeps w.heap.size kT W U) : Tn w U p nb sb cv n D := ⟨h.1.keeps hk (by decide), h.2.trans (hk.below h.2.size)⟩
end
theorem nowL {w W : World} {p nb sb n : Nat} {cv : Value} {D : Dk} (h : Tn w W p nb sb cv n D) : D.now.length = n := h.1.ok.nowL
theorem IsK.steps {W : World} {lo kp : Nat} {D : Dk} (h : IsK W lo kp D) : W.cell? ⟨kp, 3, none⟩ = some (.int .i64 (D.steps : Int)) := by
  obtain ⟨vn, vs, vw, ns, ss, ws, h⟩ := h
  exact h.c3
/-- A block, as dayref2's disk has it. -/
theorem IsK.now {W : World} {lo kp : Nat} {D : Dk} (h : IsK W lo kp D) (j : Nat) (hj : j < D.now.length) :
    ∃ g cap v, W.cell? ⟨kp, 0, none⟩ = some (.slice (some ⟨g, 0, none⟩) D.now.length cap) ∧ W.cell? ⟨g, j, none⟩ = some v ∧ Hb W v (D.now.getD j bk0) := by
  obtain ⟨vn, vs, vw, ns, ss, ws, h⟩ := h
  have hl := h.hn.1
  obtain ⟨g, cap, rfl, hc, _⟩ := own_get h.now j (by omega)
  exact ⟨g, cap, _, by rw [← hl]; exact h.c0, hc, h.hn.2 j hj⟩

/-- Write on dayref2's disk, with an error or without. -/
theorem kwr {w W : World} {p nb sb kp n i : Nat} {cv : Value} {D0 D : Dk} (hk : IsK W w.heap.size kp D) (hlo : w.heap.size ≤ W.heap.size) (hn : D.now.length = n) (x : Int) (a : Option Addr) (l : List UInt8) (cap : Nat) (hs0 : D.steps ≤ 1000000) (hc0 : D.chg.length ≤ 1000000) (hB : IsBy W a l cap) :
    Calls Tryd.prog 9 #[.pointer (some ⟨kp, 0, none⟩), .int .i64 x, .slice a l.length cap] W fun e w' => e = .returned (.int .i64 (wrBad D n x l)) ∧ Hid (IsK w' w.heap.size kp (D.wr n x l)) ∧ Hid (Keeps w.heap.size kT W w') := by
  by_cases h0 : wrBad D n x l = 0
  · obtain ⟨h1, h2, h3⟩ := wrBad_zero h0
    have h2' : 0 ≤ x ∧ x < n := by simpa [hasB] using h2
    have e : D.wr n x l = D.write x.toNat l := if_pos h0
    rw [e, h0]
    have := kwrite_ok w.heap.size kp n D x.toNat a l cap W hk hn hlo h1 (by omega) h3 hs0 hc0 hB
    rw [Int.toNat_of_nonneg h2'.1] at this
    refine this.mono ?_
    rintro e w' ⟨rfl, h⟩
    exact ⟨rfl, h.out.1, h.out.2⟩
  · have e : D.wr n x l = D := if_neg h0
    rw [e]
    refine (kwrite_bad w.heap.size kp n D x a l cap W hk hn h0).mono ?_
    rintro e w' ⟨rfl, h⟩
    exact ⟨rfl, hk.below (h.below _), h.keeps _ _⟩
theorem wrBad_range (D : Dk) (n : Nat) (x : Int) (l : List UInt8) : wrBad D n x l = 0 ∨ wrBad D n x l = 7 ∨ wrBad D n x l = 1 ∨ wrBad D n x l = 4 := by
  unfold wrBad
  split
  · simp
  · split
    · simp
    · split <;> simp
theorem errIs_bad (D : Dk) (n : Nat) (x : Int) (l : List UInt8) : ErrIs (enE (wrBad D n x l)) (wrBad D n x l) := by
  rcases wrBad_range D n x l with h | h | h | h <;> rw [h]
  · exact .inl ⟨rfl, rfl⟩
  · exact .inr ⟨rfl, by omega, by omega⟩
  · exact .inr ⟨rfl, by omega, by omega⟩
  · exact .inr ⟨rfl, by omega, by omega⟩
theorem wr_to {D : Dk} (h : ∀ c ∈ D.chg, c.to.torn = false) (n : Nat) (x : Int) (l : List UInt8) : ∀ c ∈ (D.wr n x l).chg, c.to.torn = false := by
  unfold Dk.wr
  split
  · intro c hc
    simp only [Dk.write] at hc
    rcases List.mem_append.1 hc with hc | hc
    · exact h c hc
    · rw [List.mem_singleton.1 hc]
  · exact h

/-- Behind a Flush, with an error or without. -/
def Dk.fl (D : Dk) : Dk := if D.failing = true then D else D.flush
def flBad (D : Dk) : Int := if D.failing = true then 7 else 0
theorem tn_fl {w W : World} {p nb sb : Nat} {cv : Value} {n : Nat} {D : Dk} (h : Tn w W p nb sb cv n D) (hs0 : D.steps ≤ 1000000) :
    Calls Tryd.prog 10 #[.pointer (some ⟨p, 0, none⟩)] W fun e w' => e = .returned (enE (flBad D)) ∧ ∃ cv', Hid (Tn w w' p nb sb cv' n D.fl) ∧ Hid (Keeps w.heap.size dkT W w') := by
  unfold flBad Dk.fl
  by_cases hf : D.failing = true
  · rw [if_pos hf, if_pos hf]
    refine (flush_bad w.heap.size p nb sb cv n D W h.1 hf).mono ?_
    rintro e w' ⟨rfl, hs⟩
    exact ⟨rfl, cv, h.still hs, hs.keeps _ _⟩
  · rw [if_neg hf, if_neg hf]
    refine (tn_flush h (by simpa using hf) hs0).mono ?_
    rintro e w' ⟨rfl, h1, h2⟩
    exact ⟨rfl, _, h1, h2⟩
theorem kfl {w W : World} {kp : Nat} {D : Dk} (hk : IsK W w.heap.size kp D) (hlo : w.heap.size ≤ W.heap.size) (hnn : D.now.length ≤ 1000000) (hs0 : D.steps ≤ 1000000) :
    Calls Tryd.prog 11 #[.pointer (some ⟨kp, 0, none⟩)] W fun e w' => e = .returned (.int .i64 (flBad D)) ∧ Hid (IsK w' w.heap.size kp D.fl) ∧ Hid (Keeps w.heap.size kT W w') := by
  unfold flBad Dk.fl
  by_cases hf : D.failing = true
  · rw [if_pos hf, if_pos hf]
    refine (kflush_bad w.heap.size kp D W hk hf).mono ?_
    rintro e w' ⟨rfl, hs⟩
    exact ⟨rfl, hk.below (hs.below _), hs.keeps _ _⟩
  · rw [if_neg hf, if_neg hf]
    refine (kflush_ok w.heap.size kp D W hk hlo (by simpa using hf) hs0 hnn).mono ?_
    rintro e w' ⟨rfl, h⟩
    exact ⟨rfl, h.out.1, h.out.2⟩
theorem errIs_fl (D : Dk) : ErrIs (enE (flBad D)) (flBad D) := by
  unfold flBad
  split
  · exact .inr ⟨rfl, by omega, by omega⟩
  · exact .inl ⟨rfl, rfl⟩
theorem fl_few {D : Dk} {i : Nat} (h : D.few i) : D.fl.few (i + 1) := by
  unfold Dk.fl
  split
  · exact ⟨by have := h.steps; omega, by have := h.chg; omega⟩
  · exact ⟨by have := h.steps; simp only [Dk.flush]; omega, by simp [Dk.flush]⟩
theorem fl_to {D : Dk} (h : ∀ c ∈ D.chg, c.to.torn = false) : ∀ c ∈ D.fl.chg, c.to.torn = false := by
  unfold Dk.fl
  split
  · exact h
  · intro c hc; simp [Dk.flush] at hc

theorem tn_fail {w W : World} {p nb sb : Nat} {cv : Value} {n : Nat} {D : Dk} (h : Tn w W p nb sb cv n D) (f : Int) :
    Calls Tryd.prog 14 #[.pointer (some ⟨p, 0, none⟩), .int .i64 f] W fun e w' => e = .returned (.tuple #[]) ∧ Hid (Tn w w' p nb sb cv n { D with fail := f }) ∧ Hid (Keeps w.heap.size dkT W w') := by
  have c4 := h.1.p4
  have f4 := h.1.fz 4
  have hd := h.1.setFail f
  have hk := (Keeps.refl w.heap.size dkT W).setCell (o := 4) h.1.box (by simp [dkT]) h.1.lp (.int .i64 f)
  have HT : Hid (Tn w (W.setCell ⟨p, 4, none⟩ (.int .i64 f)) p nb sb cv n { D with fail := f }) := h.keeps hd hk
  have HK : Hid (Keeps _ _ _ _) := hk
  clear h hd hk
  go_enter Tryd.func14, Tryd.ntmps14
  go_wp2
  go_end0
  exact ⟨rfl, HT, HK⟩
theorem blocks_any (lo p nb sb : Nat) (cv : Value) (n : Nat) (D : Dk) (w : World) (h : DkAt w lo p nb sb cv n D) :
    Calls Tryd.prog 16 #[.pointer (some ⟨p, 0, none⟩)] w fun e w' => e = .returned (.int .i64 (n : Int)) ∧ w' = w := by
  have c0 := h.p0
  clear h
  go_enter Tryd.func16, Tryd.ntmps16
  go_wp2
  go_ret
  exact ⟨rfl, rfl⟩
end Go.Proofs.YtofmhjeojjdagaaDoor
