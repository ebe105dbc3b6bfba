/-
  What a walk of daylaw2.StoreWhole keeps.
-/
import Derived.Test.YtidccclfngcpgaaSw3
import Derived.Below
namespace Go.Proofs.Ytidccclfngcpgaa
set_option linter.unusedVariables false
set_option linter.unusedSimpArgs false
set_option maxRecDepth 100000
open Go.RowKit Go.Lib

/-- Lists of numbers that came in. -/
structure Rw where
  ad : Option Addr
  l : List Int
  cap : Nat
def rw0 : Rw := ⟨none, [], 0⟩
structure IsRs (W : World) (a : Option Addr) (rs : List Rw) (cap : Nat) : Prop where
  cap : rs.length ≤ cap
  lies : rs = [] ∨ ∃ b off, a = some ⟨b, off, none⟩ ∧ b < W.heap.size ∧ ∀ k, k < rs.length → W.cell? ⟨b, off + k, none⟩ = some (.slice (rs.getD k rw0).ad (rs.getD k rw0).l.length (rs.getD k rw0).cap)
  rows : ∀ r ∈ rs, IsIn W r.ad r.l r.cap ∧ r.l.length ≤ 9223372036854775807
theorem IsRs.below {w w' : World} {a : Option Addr} {rs : List Rw} {cap : Nat} (h : IsRs w a rs cap) (hb : Below w.heap.size w w') : IsRs w' a rs cap := by
  refine ⟨h.cap, ?_, fun r hr => ⟨(h.rows r hr).1.below hb, (h.rows r hr).2⟩⟩
  rcases h.lies with h | ⟨b, off, e, hlt, hc⟩
  · exact .inl h
  · exact .inr ⟨b, off, e, by have := hb.size; omega, fun k hk => (hb.cell (p := ⟨b, off + k, none⟩) hlt).trans (hc k hk)⟩

theorem tn_fail {w W : World} {p nb sb : Nat} {cv : Value} {n : Nat} {D : Dk} (h : Tn w W p nb sb cv n D) (f : Int) :
    Calls Try.prog 10 #[.pointer (some ⟨p, 0, none⟩), .int .i64 f] W fun e w' => e = .returned (.tuple #[]) ∧ Hid (Tn w w' p nb sb cv n { D with fail := f }) ∧ Hid (Keeps w.heap.size dkT W w') := by
  have c4 := h.1.p4
  have f4 := h.1.fz 4
  have hd := h.1.setFail f
  have hk := (Keeps.refl w.heap.size dkT W).setCell (o := 4) h.1.box (by simp [dkT]) h.1.lp (.int .i64 f)
  have HT : Hid (Tn w (W.setCell ⟨p, 4, none⟩ (.int .i64 f)) p nb sb cv n { D with fail := f }) := h.keeps hd hk
  have HK : Hid (Keeps _ _ _ _) := hk
  clear h hd hk
  go_enter Try.func10, Try.ntmps10
  go_wp2
  go_end0
  exact ⟨rfl, HT, HK⟩

/-- The first three numbers of a list, and 0. -/
def va (l : List Int) : Array Value := #[.int .i64 (l.getD 0 0), .int .i64 (l.getD 1 0), .int .i64 (l.getD 2 0)]
theorem va_set (l : List Int) (j : Nat) (hj : j < l.length) (h4 : j < 3) : (va (l.take j)).setIfInBounds j (.int .i64 (l.getD j 0)) = va (l.take (j + 1)) := by
  have e : ∀ i, i < j → (l.take j).getD i 0 = (l.take (j + 1)).getD i 0 := fun i hi => by
    simp only [List.getD_eq_getElem?_getD, List.getElem?_take]
    rw [if_pos hi, if_pos (by omega)]
  have e2 : (l.take (j + 1)).getD j 0 = l.getD j 0 := by
    simp only [List.getD_eq_getElem?_getD, List.getElem?_take]
    rw [if_pos (by omega)]
  have e3 : ∀ i, j < i → (l.take j).getD i 0 = (l.take (j + 1)).getD i 0 := fun i hi => by
    simp only [List.getD_eq_getElem?_getD, List.getElem?_take]
    rw [if_neg (by omega), if_neg (by omega)]
  match j, h4 with
  | 0, _ => simp only [va]; rw [← e2, e3 1 (by omega), e3 2 (by omega)]; rfl
  | 1, _ => simp only [va]; rw [← e2, e 0 (by omega), e3 2 (by omega)]; rfl
  | 2, _ => simp only [va]; rw [← e2, e 0 (by omega), e 1 (by omega)]; rfl
theorem va_get (l : List Int) (j : Nat) (h4 : j < 3) : (va l)[j]? = some (.int .i64 (l.getD j 0)) := by
  match j, h4 with
  | 0, _ => rfl
  | 1, _ => rfl
  | 2, _ => rfl
theorem va_take (l : List Int) (j : Nat) (h : j = 3 ∨ l.length ≤ j) : va (l.take j) = va l := by
  rcases h with rfl | h
  · have e : ∀ i, i < 3 → (l.take 3).getD i 0 = l.getD i 0 := fun i hi => by
      simp only [List.getD_eq_getElem?_getD, List.getElem?_take]
      rw [if_pos hi]
    simp only [va]
    rw [e 0 (by omega), e 1 (by omega), e 2 (by omega)]
  · rw [List.take_of_length_le h]
theorem alloc_v (w : World) : (Instr.alloc 38 true (.tuple #[])).run Try.prog w = .ok (.pointer (some ⟨w.heap.size, 0, none⟩)) (w.alloc (.cells (va []) 38)) := by
  have hz0 : (Try.prog.info? 38).map (·.zero) = some (some (.agg (va []))) := by kernel_rfl
  cases hq : Try.prog.info? 38 with
  | none => simp [hq] at hz0
  | some q =>
    have hz : q.zero = some (.agg (va [])) := by simpa [hq] using hz0
    simp [Instr.alloc, zeroValue, typeInfo, hq, hz, newVar, newRow, Value.cells]

/-- Pages 20 and 39 have the number of one commit. -/
def pgN (f : Nat → List UInt8) (x : Nat) : Prop := f 20 = (if x = 0 then [] else [UInt8.ofNat x, 2]) ∧ f 39 = (if x = 0 then [] else [UInt8.ofNat x, 3])
/-- What a round's Puts leave. -/
def putP (k m : Nat) : List (Nat × List UInt8) := upd (upd (upd [] k [UInt8.ofNat (m + 1), 1]) 20 [UInt8.ofNat (m + 1), 2]) 39 [UInt8.ofNat (m + 1), 3]
theorem putP_short (k m : Nat) : ∀ j l, look (putP k m) j = some l → l.length ≤ 60 := by
  intro j l e
  unfold putP at e
  rw [look_upd] at e
  split at e
  · cases e; simp
  · rw [look_upd] at e
    split at e
    · cases e; simp
    · rw [look_upd] at e
      split at e
      · cases e; simp
      · cases e
theorem putP_pages (k m : Nat) (f : Nat → List UInt8) : pgN (fun j => (look (putP k m) j).getD (f j)) (m + 1) := by
  have e1 : look (putP k m) 20 = some [UInt8.ofNat (m + 1), 2] := by
    unfold putP
    rw [look_upd, if_neg (by omega), look_upd, if_pos rfl]
  have e2 : look (putP k m) 39 = some [UInt8.ofNat (m + 1), 3] := by
    unfold putP
    rw [look_upd, if_pos rfl]
  refine ⟨?_, ?_⟩
  · rw [if_neg (Nat.succ_ne_zero m)]
    show (look (putP k m) 20).getD (f 20) = _
    rw [e1]; rfl
  · rw [if_neg (Nat.succ_ne_zero m)]
    show (look (putP k m) 39).getD (f 39) = _
    rw [e2]; rfl
/-- A store, and what it has been told. -/
structure Sw (w W : World) (p nb sb : Nat) (cv : Value) (s mb : Nat) (D : Dk) (h : Hd) (f : Nat → List UInt8) (m sf : Nat) : Prop where
  st : StAt w W p nb sb cv 90 D s mb h [] false
  gd : Good D h f
  lm : D.lim (3 + 50 * m)
  vr : h.ver ≤ m
  pg : pgN f sf
  le : sf ≤ m
def Swx (w W : World) (p nb sb s m sf : Nat) : Prop := ∃ cv mb D h f, Sw w W p nb sb cv s mb D h f m sf
theorem fmt_good : Good (fmtD 90) (fmtH none) (fun _ => []) := by
  obtain ⟨ef, en, ff, fl⟩ := fmtD_eq 90
  obtain ⟨h0, h1⟩ := fmtD_heads 90 (by omega)
  have e : fmtD 90 = ((dk0 90).flush.write (fmtH none).blk (hdB (fmtH none))).flush := by
    unfold fmtD
    rw [neg_hwR (by show (-1 : Int) < 0; decide)]
  refine ⟨by rw [e]; rfl, by rw [e]; rfl, by rw [ff]; decide, by rw [en, List.length_set, List.length_replicate], h1, ⟨none, h0, fun _ => rfl, fun _ => rfl⟩, fmtD_pages 90⟩
theorem nx_good {D : Dk} {h : Hd} {f : Nat → List UInt8} (g : Good D h f) (P : List (Nat × List UInt8)) (hP : ∀ k l, look P k = some l → l.length ≤ 60) (hv : h.ver + 1 ≤ 1000000) : Good (nxD D h P) (nxH h P) (fun j => (look P j).getD (f j)) := by
  have e : nxD D h P = ((wpD h P D.flush 40).flush.write (nxH h P).blk (hdB (nxH h P))).flush := by
    unfold nxD
    rw [neg_hwR (by rw [wpD_fail]; exact g.fl)]
  refine g.new P hP hv (by rw [e]; rfl) (by rw [e]; rfl) (nxD_fail D h P g.fl) (nxD_now D h P g.fl)
theorem cm_chg {D : Dk} {h : Hd} {P : List (Nat × List UInt8)} {k : Nat} (hl : D.lim k) : (cmR D h P).2.chg.length ≤ k + 100 := by
  have e : ∀ j, j ≤ 40 → (wpD h P D.flush j).chg.length ≤ k + 100 := fun j hj => by
    have := (wpD_lim (h := h) (P := P) (D := D.flush) (j := k + 1) ⟨by have := hl.s; simp only [Dk.flush]; omega, by simp [Dk.flush]⟩ j).c
    omega
  rcases cmR_ends D h P with ⟨_, e1, _⟩ | ⟨_, e1 | ⟨j, hj, e1⟩ | e1 | e1⟩
  · rw [e1]; simp [Dk.flush]
  · rw [e1]; have := hl.c; omega
  · rw [e1]; exact e j hj
  · rw [e1]; simp [Dk.flush]
  · rw [e1]; simp [Dk.flush, Dk.write]
/-- A Put of two bytes that are made there. -/
theorem put_two {w W : World} {p nb sb : Nat} {cv : Value} {D : Dk} {s mb : Nat} {h : Hd} {P : List (Nat × List UInt8)} (a : StAt w W p nb sb cv 90 D s mb h P false) (k : Nat) (hk : k < 40) (m : Nat) (hm : m < 30) (c : UInt8) (ci : Int) (hc : (c.toNat : Int) = ci) :
    Calls Try.prog 7 #[.pointer (some ⟨s, 0, none⟩), .int .i64 (k : Int), .slice (some ⟨W.heap.size, 0, none⟩) 2 2] (W.alloc (.cells #[.int .u8 ((m : Int) + 1), .int .u8 ci] 5)) fun e w' => e = .returned .nilIface ∧ Hid (StAt w w' p nb sb cv 90 D s mb h (upd P k [UInt8.ofNat (m + 1), c]) false) ∧ Hid (KeepC w.heap.size stT W w') := by
  have e : (byC [UInt8.ofNat (m + 1), c]).toArray = #[.int .u8 ((m : Int) + 1), .int .u8 ci] := by
    have : ((UInt8.ofNat (m + 1)).toNat : Int) = (m : Int) + 1 := by rw [UInt8.toNat_ofNat']; omega
    rw [← this, ← hc]; rfl
  have hb := (Below.refl _ W).alloc (Nat.le_refl _) (.cells (byC [UInt8.ofNat (m + 1), c]).toArray 5)
  have := put_ok (a.below hb) k hk (some ⟨W.heap.size, 0, none⟩) [UInt8.ofNat (m + 1), c] 2 (isBy_new W _) (.inr (by simp)) (by simp)
  rw [e] at this hb
  refine this.mono ?_
  rintro e w' ⟨rfl, h1, h2⟩
  exact ⟨rfl, h1, (KeepC.of_below hb).trans h2.out⟩
/-- Without a crash. -/
theorem Sw.stay {w W U : World} {p nb sb : Nat} {cv cv' : Value} {s mb : Nat} {D : Dk} {h : Hd} {f : Nat → List UInt8} {m sf : Nat} (a : Sw w W p nb sb cv s mb D h f m sf) (hm : m < 30) (k : Nat) (hs : StAt w U p nb sb cv' 90 (nxD D h (putP k m)) s mb (nxH h (putP k m)) [] false) : Swx w U p nb sb s (m + 1) (m + 1) :=
  ⟨cv', mb, _, _, _, hs, nx_good a.gd _ (putP_short k m) (by have := a.vr; omega), (nxD_lim a.gd.fl a.lm).mono (by omega), by have := a.vr; show h.ver + 1 ≤ m + 1; omega, putP_pages k m f, Nat.le_refl _⟩
/-- Behind a crash. -/
theorem Good.after {D : Dk} {h : Hd} {f : Nat → List UInt8} {m sf : Nat} (g : Good { D with fail := -1 } h f) (k : Nat) (hv : h.ver ≤ m) (hm : m < 30) (hp : pgN f sf) (hle : sf ≤ m) (keep : List Int) (torn : Int) :
    ∃ h' f' x, Good ((cmR D h (putP k m)).2.crash keep torn) h' f' ∧ h'.ver ≤ m + 1 ∧ pgN f' x ∧ (((cmR D h (putP k m)).1 ≠ 0 ∧ x = sf) ∨ x = m + 1) := by
  rcases g.crash (fun _ => trivial) (putP k m) (putP_short k m) (by omega) keep torn with ⟨h1, h2⟩ | h2
  · exact ⟨h, f, sf, h2, by omega, hp, .inl ⟨h1, rfl⟩⟩
  · exact ⟨nxH h (putP k m), _, m + 1, h2, by show h.ver + 1 ≤ m + 1; omega, putP_pages k m f, .inr rfl⟩
end Go.Proofs.Ytidccclfngcpgaa
