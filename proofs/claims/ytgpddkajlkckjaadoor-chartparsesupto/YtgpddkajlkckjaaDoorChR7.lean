/-
  chart.Parse.
-/
import Derived.Test.YtgpddkajlkckjaaDoorChR6
namespace Go.Proofs.YtgpddkajlkckjaaDoor
set_option linter.unusedVariables false
set_option linter.unusedSimpArgs false
set_option maxRecDepth 100000
open Go.RowKit Go.Shelf
attribute [local go_sem] Oper.semAt_some

theorem ac_info : (Tryd.prog.info? 33).map (fun i => (i.zero, i.size, i.bytes)) = some (some (.agg #[.string ByteArray.empty, .string ByteArray.empty, .int .i64 0, .string ByteArray.empty, .bool false]), 5, 64) := by kernel_rfl

def accOf {t : ByteArray} (pre : List (LineOf t)) : List Ac := pre.foldl (fun l x => l ++ [lineAc l x.1.2]) []
theorem accOf_snoc {t : ByteArray} (pre : List (LineOf t)) (x : LineOf t) : accOf (pre ++ [x]) = accOf pre ++ [lineAc (accOf pre) x.1.2] := by simp [accOf]
def goodS {t : ByteArray} (pre : List (LineOf t)) : Prop := ∀ rest, parseGo [] (pre.map (·.1) ++ rest) = parseGo (accOf pre) rest
def wrongS {t : ByteArray} (pre : List (LineOf t)) (k : Nat) (er : Int) : Prop := ∀ rest, parseGo [] (pre.map (·.1) ++ rest) = ([], k, er)

theorem cells_five (W : World) (y0 y1 : ByteArray) (y2 : Int) (y3 : ByteArray) (y4 : Bool) (b : Nat) (hb : b = W.heap.size) : ∀ j u, ([.string y0, .string y1, .int .i64 y2, .string y3, .bool y4] : List Value)[j]? = some u → (W.alloc (.cells #[.string y0, .string y1, .int .i64 y2, .string y3, .bool y4] 33)).cell? ((⟨b, 0, none⟩ : Addr).add j) = some u := by
  subst hb
  intro j u hj
  have h := World.alloc_heap_new W (.cells #[.string y0, .string y1, .int .i64 y2, .string y3, .bool y4] 33)
  generalize W.alloc (.cells #[.string y0, .string y1, .int .i64 y2, .string y3, .bool y4] 33) = V at *
  generalize W.heap.size = b at *
  by_cases h0 : j = 0
  · subst h0
    simp [World.cell?, Addr.add, h] at hj ⊢
    exact hj
  · simp [World.cell?, Addr.add, h, h0]
    exact hj
theorem ownsRow_below {W w1 : World} {n0 : Nat} {e : TypeId} {v : Value} {k : Nat} {xs : List Value} (h : W.ownsRow n0 e 5 v k xs) (hb : Below W.heap.size W w1) : w1.ownsRow n0 e 5 v k xs := by
  obtain ⟨hl, hh | ⟨g, cap, cur, h1, h2, h3, h4⟩⟩ := h
  · exact ⟨hl, .inl hh⟩
  · exact ⟨hl, .inr ⟨g, cap, cur, h1, h2, (hb.block g (Array.getElem?_eq_some_iff.1 h3).1).trans h3, h4⟩⟩
theorem lineBad_lt {pre : List Ac} {s : ByteArray} (h : lineBad pre s = 0) : pre.length < 60 := by
  unfold lineBad at h
  split at h
  · simp at h
  · split at h
    · simp at h
    · omega

set_option maxHeartbeats 8000000 in
theorem parse_any (t : ByteArray) (ht : t.size < 4294967281) (w : World) (hg : MaxL w) :
    Calls Tryd.prog 6 #[.string t] w fun e w' => (∃ v, e = .returned (.tuple #[v, .int .i64 (parseS t).2.1, chE (parseS t).2.2]) ∧ w'.ownsRow w.heap.size 33 5 v (parseS t).1.length (rowOf (parseS t).1) ∧ (v = .slice none 0 0 ↔ (parseS t).1 = [])) ∧ Below w.heap.size w w' := by
  obtain ⟨i0, hi, hz0, hz1, hz2⟩ := info_parts ac_info
  refine (callsIn_wide (n := 9)).1 ?_
  refine callsIn_of_wp_marks Tryd.func6 rfl trivial ?_ rfl
  simp only [Tryd.ntmps6, List.size_toArray, List.length_cons, List.length_nil, Nat.reduceAdd, Nat.reduceSub, Array.replicate_succ, Array.replicate_zero, List.push_toArray, List.append_toArray, List.nil_append, List.cons_append]
  gi_wp2_with (refine ⟨trivial, ?_⟩; gi_at_call 13; refine (callsIn_wide.2 (lines_any t _)).mono ?_; rintro e w' ⟨rfl, rfl⟩)
  have q0 := Boxed.new w 22 (.slice none 0 0)
  have q1 := Boxed.new (w.alloc (.cells #[.slice none 0 0] 22)) 3 (.int .i64 0)
  have q2 := Boxed.new ((w.alloc (.cells #[.slice none 0 0] 22)).alloc (.cells #[.int .i64 0] 3)) 26 .nilIface
  have q3 := Boxed.new (((w.alloc (.cells #[.slice none 0 0] 22)).alloc (.cells #[.int .i64 0] 3)).alloc (.cells #[.nilIface] 26)) 22 (.slice none 0 0)
  have q4 := Boxed.new ((((w.alloc (.cells #[.slice none 0 0] 22)).alloc (.cells #[.int .i64 0] 3)).alloc (.cells #[.nilIface] 26)).alloc (.cells #[.slice none 0 0] 22)) 9 (.string t)
  simp only [World.size_alloc] at q1 q2 q3 q4
  have hB0 : Below w.heap.size w (((((w.alloc (.cells #[.slice none 0 0] 22)).alloc (.cells #[.int .i64 0] 3)).alloc (.cells #[.nilIface] 26)).alloc (.cells #[.slice none 0 0] 22)).alloc (.cells #[.string t] 9)) := (((((Below.refl _ w).alloc (Nat.le_refl _) _).alloc (by simp) _).alloc (by simp; omega) _).alloc (by simp; omega) _).alloc (by simp; omega) _
  have q0 := (((q0.alloc (.cells #[.int .i64 0] 3)).alloc (.cells #[.nilIface] 26)).alloc (.cells #[.slice none 0 0] 22)).alloc (.cells #[.string t] 9)
  have q1 := ((q1.alloc (.cells #[.nilIface] 26)).alloc (.cells #[.slice none 0 0] 22)).alloc (.cells #[.string t] 9)
  have q2 := (q2.alloc (.cells #[.slice none 0 0] 22)).alloc (.cells #[.string t] 9)
  have q3 := q3.alloc (.cells #[.string t] 9)
  have hsz : (((((w.alloc (.cells #[.slice none 0 0] 22)).alloc (.cells #[.int .i64 0] 3)).alloc (.cells #[.nilIface] 26)).alloc (.cells #[.slice none 0 0] 22)).alloc (.cells #[.string t] 9)).heap.size = w.heap.size + 5 := by simp
  generalize (((((w.alloc (.cells #[.slice none 0 0] 22)).alloc (.cells #[.int .i64 0] 3)).alloc (.cells #[.nilIface] 26)).alloc (.cells #[.slice none 0 0] 22)).alloc (.cells #[.string t] 9)) = W0 at *
  refine wpIn_rangeFunc_ownF (α := LineOf t) rfl (by omega) (gf := 21) (lb := #[.pointer (some ⟨w.heap.size + 1 + 1 + 1 + 1, 0, none⟩)]) rfl trivial (enters_of Tryd.func21 (by kernel_rfl) rfl)
    (lines_stops 8 (by omega) (w.heap.size + 1 + 1 + 1 + 1) w.heap.size t ht W0 (by omega) q4.cell) belowK_t (belowK_b (by omega)) (Below.refl _ _) (fun _ => rfl)
    (fun pre W => ((∃ v, Boxed W (w.heap.size + 1 + 1 + 1) 22 v ∧ W.ownsRow w.heap.size 33 5 v (accOf pre).length (rowOf (accOf pre)) ∧ (v = .slice none 0 0 ↔ accOf pre = [])) ∧ (goodS pre ∧ (accOf pre).length ≤ 60) ∧ Boxed W w.heap.size 22 (.slice none 0 0) ∧ Boxed W (w.heap.size + 1) 3 (.int .i64 0) ∧ Boxed W (w.heap.size + 1 + 1) 26 .nilIface) ∧ Below w.heap.size w W)
    (fun c pre W => (c = .ret ∧ ∃ k er, wrongS pre k er ∧ W.cell? ⟨w.heap.size, 0, none⟩ = some (.slice none 0 0) ∧ W.cell? ⟨w.heap.size + 1, 0, none⟩ = some (.int .i64 k) ∧ W.cell? ⟨w.heap.size + 1 + 1, 0, none⟩ = some (chE er)) ∧ Below w.heap.size w W)
    (OwnFrom.and (OwnFrom.and (Own.from (holdsRow_own w.heap.size (w.heap.size + 1 + 1 + 1) 22 33 5 (fun pre => (accOf pre).length) (fun pre => rowOf (accOf pre)) (fun pre v => v = .slice none 0 0 ↔ accOf pre = [])) _) (OwnFrom.and (ownFrom_pure _ (fun pre => goodS pre ∧ (accOf pre).length ≤ 60)) (OwnFrom.and (Own.from (boxed_own _ _ (fun _ => .slice none 0 0)) _) (OwnFrom.and (Own.from (boxed_own _ _ (fun _ => .int .i64 0)) _) (Own.from (boxed_own _ _ (fun _ => .nilIface)) _))))) (ownFrom_below (Nat.le_refl _) (by omega)))
    (fun c => OwnFrom.and (Own.from (fun s A B row hs hg hr => by obtain ⟨hc, k, er, hp, c0, c1, c2⟩ := hs; exact ⟨hc, k, er, hp, cell_kept c0 hg hr, cell_kept c1 hg hr, cell_kept c2 hg hr⟩) _) (ownFrom_below (Nat.le_refl _) (by omega)))
    ⟨⟨⟨_, q3, World.ownsRow_nil _ _ _ _, by simp [accOf]⟩, ⟨fun rest => rfl, by simp [accOf]⟩, q0, q1, q2⟩, hB0⟩
    (fun x => { tmps := #[.string t, undef, .pointer (some ⟨w.heap.size, 0, none⟩), .pointer (some ⟨w.heap.size + 1, 0, none⟩), .pointer (some ⟨w.heap.size + 1 + 1, 0, none⟩), .pointer (some ⟨w.heap.size + 1 + 1 + 1, 0, none⟩), .int .i64 x.1.1, .string x.1.2, undef, undef, .string t, .func (.func 21) #[] #[.pointer (some ⟨w.heap.size + 1 + 1 + 1 + 1, 0, none⟩)], .int .i64 x.1.1, .string x.1.2, undef, undef, undef, undef, undef, undef, undef, undef, undef, undef, undef, undef, undef, undef, undef], defers := [] }) ?assign ?body ?done ?stop
  case assign =>
    intro l x W K hK
    simp only [lineV]
    gi_wp2
    exact hK
  case body =>
    rintro l pre x W ⟨⟨⟨v, hv, hrow, hnil⟩, ⟨hgood, h60⟩, r0, r1, r2⟩, hB⟩ hlt
    obtain ⟨a, cap, rfl, hsl⟩ := row_isSl hrow
    have HR := readNext_any a cap (accOf pre) x.1.2 W (by have := x.2; omega) (hg.below hB (Nat.le_refl _)) h60 hsl
    have hc := hv.cell
    have hW := hB.size
    obtain ⟨bad, hbad⟩ : ∃ bad, lineBad (accOf pre) x.1.2 = bad := ⟨_, rfl⟩
    obtain ⟨y, hy⟩ : ∃ y, lineAc (accOf pre) x.1.2 = y := ⟨_, rfl⟩
    rw [hbad, hy] at HR
    have Hb : Hid (lineBad (accOf pre) x.1.2 = bad) := hbad
    have Hy : Hid (lineAc (accOf pre) x.1.2 = y) := hy
    have HHR : Hid (Calls _ _ _ _ _) := HR
    clear HR hbad hy hsl
    by_cases hb0 : bad = 0
    · subst hb0
      have h59 := lineBad_lt Hb.out
      rw [chE_zero] at HHR
      obtain ⟨y0, y1, y2, y3, y4⟩ := y
      simp only [Ac.cells] at HHR
      gi_wp2_with fail
      refine ⟨trivial, ?_⟩
      refine (CallsIn.inRound l (callsIn_wide.2 HHR.out)).mono ?_
      rintro e w1 ⟨rfl, hb1⟩
      have s0 : Boxed w1 w.heap.size _ _ := (hb1.block _ r0.lt).trans r0
      have s1 : Boxed w1 (w.heap.size + 1) _ _ := (hb1.block _ r1.lt).trans r1
      have s2 : Boxed w1 (w.heap.size + 1 + 1) _ _ := (hb1.block _ r2.lt).trans r2
      have s3 : Boxed w1 (w.heap.size + 1 + 1 + 1) _ _ := (hb1.block _ hv.lt).trans hv
      have hs1 := hb1.size
      have B1 := hB.trans (hb1.mono hW)
      have KO : KeepsOthers W w1 := ⟨hs1, fun j o h _ => (hb1.block j (Array.getElem?_eq_some_iff.1 h).1).trans h⟩
      have row1 := (ownsRow_below hrow hb1).alloc (.cells #[.string y0, .string y1, .int .i64 y2, .string y3, .bool y4] 33)
      have s0 := s0.alloc (.cells #[.string y0, .string y1, .int .i64 y2, .string y3, .bool y4] 33)
      have s1 := s1.alloc (.cells #[.string y0, .string y1, .int .i64 y2, .string y3, .bool y4] 33)
      have s2 := s2.alloc (.cells #[.string y0, .string y1, .int .i64 y2, .string y3, .bool y4] 33)
      have s3 := s3.alloc (.cells #[.string y0, .string y1, .int .i64 y2, .string y3, .bool y4] 33)
      have c3 := s3.cell
      have KO2 := KO.trans (KeepsOthers.alloc w1 (.cells #[.string y0, .string y1, .int .i64 y2, .string y3, .bool y4] 33))
      have B2 := B1.alloc B1.size (.cells #[.string y0, .string y1, .int .i64 y2, .string y3, .bool y4] 33)
      have BW := ((Below.refl w.heap.size W).trans (hb1.mono hW)).alloc B1.size (.cells #[.string y0, .string y1, .int .i64 y2, .string y3, .bool y4] 33)
      have hszA : (w1.alloc (.cells #[.string y0, .string y1, .int .i64 y2, .string y3, .bool y4] 33)).heap.size = w1.heap.size + 1 := by simp
      have hgd : goodS (pre ++ [x]) := fun rest => by
        have h1 := hgood (x.1 :: rest)
        rw [List.map_append, List.append_assoc, accOf_snoc]
        refine h1.trans ?_
        rw [parseGo, if_pos Hb.out]
      have hac : accOf (pre ++ [x]) = accOf pre ++ [⟨y0, y1, y2, y3, y4⟩] := by rw [accOf_snoc, Hy.out]
      have hl1 : (accOf (pre ++ [x])).length = (accOf pre).length + 1 := by rw [hac]; simp
      have hml : (accOf pre).length + 1 ≤ maxLen := by unfold maxLen; omega
      have hb64 : ((accOf pre).length + 1) * 64 ≤ 140737488355328 := by omega
      have hsn : w.heap.size ≤ ((w1.alloc (.cells #[.string y0, .string y1, .int .i64 y2, .string y3, .bool y4] 33)).alloc (.cells #[.string y0, .string y1, .int .i64 y2, .string y3, .bool y4] 33)).heap.size := by simp; have := B1.size; omega
      have c5 := cells_five (w1.alloc (.cells #[.string y0, .string y1, .int .i64 y2, .string y3, .bool y4] 33)) y0 y1 y2 y3 y4 (w1.heap.size + 1) hszA.symm
      clear HHR hc
      gi_wp2_with (gi_at_builtin; refine wpListIn_append_own _ rfl _ _ 22 rfl w.heap.size 33 i0 (.agg #[.string ByteArray.empty, .string ByteArray.empty, .int .i64 0, .string ByteArray.empty, .bool false]) 5 64 Tryd.underlying22 hi hz0 hz1 hz2 rfl (by decide) _ _ _ rfl (row1.alloc _) ⟨w1.heap.size + 1, 0, none⟩ 1 1 [.string y0, .string y1, .int .i64 y2, .string y3, .bool y4] rfl rfl c5 (by simp [Value.oneCell']) hml hb64 hsn ?_; intro v' w2 hown' hgrow _; obtain ⟨g', cap', rfl⟩ := ownsRow_succ hown'; obtain ⟨hv1, hv2, hr2, hk2, hb2⟩ := s3.appended (by decide) row1 B2.size (by omega) hown' hgrow; have hc1 := hv1.cell; have hf1 := hv1.frozen)
      have t0 := ((s0.alloc (.cells #[.string y0, .string y1, .int .i64 y2, .string y3, .bool y4] 33)).kept hgrow ((s0.alloc (.cells #[.string y0, .string y1, .int .i64 y2, .string y3, .bool y4] 33)).not_row (by decide) (row1.alloc _))).other (B' := w.heap.size + 1 + 1 + 1) (by omega) (.slice (some ⟨g', 0, none⟩) ((accOf pre).length + 1) cap')
      have t1 := ((s1.alloc (.cells #[.string y0, .string y1, .int .i64 y2, .string y3, .bool y4] 33)).kept hgrow ((s1.alloc (.cells #[.string y0, .string y1, .int .i64 y2, .string y3, .bool y4] 33)).not_row (by decide) (row1.alloc _))).other (B' := w.heap.size + 1 + 1 + 1) (by omega) (.slice (some ⟨g', 0, none⟩) ((accOf pre).length + 1) cap')
      have t2 := ((s2.alloc (.cells #[.string y0, .string y1, .int .i64 y2, .string y3, .bool y4] 33)).kept hgrow ((s2.alloc (.cells #[.string y0, .string y1, .int .i64 y2, .string y3, .bool y4] 33)).not_row (by decide) (row1.alloc _))).other (B' := w.heap.size + 1 + 1 + 1) (by omega) (.slice (some ⟨g', 0, none⟩) ((accOf pre).length + 1) cap')
      exact ⟨KO2.trans hk2, BW.trans hb2, ⟨⟨_, hv2, by rw [hl1, hac, rowOf_snoc]; exact hr2, by rw [hac]; simp⟩, ⟨hgd, by omega⟩, t0, t1, t2⟩, B2.trans hb2⟩
    · rw [chE_ne hb0] at HHR
      obtain ⟨y0, y1, y2, y3, y4⟩ := y
      simp only [Ac.cells] at HHR
      gi_wp2_with fail
      refine ⟨trivial, ?_⟩
      refine (CallsIn.inRound l (callsIn_wide.2 HHR.out)).mono ?_
      rintro e w1 ⟨rfl, hb1⟩
      have s0 : Boxed w1 w.heap.size _ _ := (hb1.block _ r0.lt).trans r0
      have s1 : Boxed w1 (w.heap.size + 1) _ _ := (hb1.block _ r1.lt).trans r1
      have s2 : Boxed w1 (w.heap.size + 1 + 1) _ _ := (hb1.block _ r2.lt).trans r2
      have hs1 := hb1.size
      have B1 := hB.trans (hb1.mono hW)
      have KO : KeepsOthers W w1 := ⟨hs1, fun j o h _ => (hb1.block j (Array.getElem?_eq_some_iff.1 h).1).trans h⟩
      have s0 := s0.alloc (.cells #[.string y0, .string y1, .int .i64 y2, .string y3, .bool y4] 33)
      have s1 := s1.alloc (.cells #[.string y0, .string y1, .int .i64 y2, .string y3, .bool y4] 33)
      have s2 := s2.alloc (.cells #[.string y0, .string y1, .int .i64 y2, .string y3, .bool y4] 33)
      have d0 := s0.cell
      have d1 := s1.cell
      have d2 := s2.cell
      have f0 := s0.frozen
      have f1 := s1.frozen
      have f2 := s2.frozen
      clear HHR hc
      have u0 := ((s0.set (.slice none 0 0)).other (B' := w.heap.size + 1) (by omega) (.int .i64 x.1.1)).other (B' := w.heap.size + 1 + 1) (by omega) (.iface 46 (.int .i64 bad))
      have u1 := ((s1.other (B' := w.heap.size) (by omega) (.slice none 0 0)).set (.int .i64 x.1.1)).other (B' := w.heap.size + 1 + 1) (by omega) (.iface 46 (.int .i64 bad))
      have u2 := ((s2.other (B' := w.heap.size) (by omega) (.slice none 0 0)).other (B' := w.heap.size + 1) (by omega) (.int .i64 x.1.1)).set (.iface 46 (.int .i64 bad))
      have KO2 := (((KO.trans (KeepsOthers.alloc w1 (.cells #[.string y0, .string y1, .int .i64 y2, .string y3, .bool y4] 33))).trans (KeepsOthers.setCell _ ⟨w.heap.size, 0, none⟩ (.slice none 0 0))).trans (KeepsOthers.setCell _ ⟨w.heap.size + 1, 0, none⟩ (.int .i64 x.1.1))).trans (KeepsOthers.setCell _ ⟨w.heap.size + 1 + 1, 0, none⟩ (.iface 46 (.int .i64 bad)))
      have B2 := (((B1.alloc B1.size (.cells #[.string y0, .string y1, .int .i64 y2, .string y3, .bool y4] 33)).setCell (p := ⟨w.heap.size, 0, none⟩) (Nat.le_refl _) (.slice none 0 0)).setCell (p := ⟨w.heap.size + 1, 0, none⟩) (Nat.le_succ _) (.int .i64 x.1.1)).setCell (p := ⟨w.heap.size + 1 + 1, 0, none⟩) (by simp only; omega) (.iface 46 (.int .i64 bad))
      have hwr : wrongS (pre ++ [x]) x.1.1 bad := fun rest => by
        have h1 := hgood (x.1 :: rest)
        rw [List.map_append, List.append_assoc]
        refine h1.trans ?_
        rw [parseGo, if_neg (by rw [Hb.out]; exact hb0), Hb.out]
      gi_wp2
      all_goals first
        | exact ⟨KO2, ⟨rfl, x.1.1, bad, hwr, u0.cell, u1.cell, by rw [chE_ne hb0]; exact u2.cell⟩, B2⟩
        | exact ⟨KO2.trans (KeepsOthers.drew _), ⟨rfl, x.1.1, bad, hwr, u0.cell, u1.cell, by rw [chE_ne hb0]; exact u2.cell⟩, B2.drew⟩
  case done =>
    rintro D ys W hD hS ⟨⟨⟨v, hv, hrow, hnil⟩, ⟨hgood, h60⟩, r0, r1, r2⟩, hB⟩ hK
    obtain ⟨a, cap, rfl, hsl⟩ := row_isSl hrow
    have hc := hv.cell
    have hc0 := r0.cell
    have hf0 := r0.frozen
    have hc1 := r1.cell
    have hf1 := r1.frozen
    have hc2 := r2.cell
    have hf2 := r2.frozen
    have hps : parseS t = (accOf ys, 0, 0) := by
      unfold parseS
      rw [← hS]
      have h1 := hgood []
      rw [List.append_nil] at h1
      exact h1
    have u0 := ((r0.set (.slice a (accOf ys).length cap)).other (B' := w.heap.size + 1) (by omega) (.int .i64 0)).other (B' := w.heap.size + 1 + 1) (by omega) .nilIface
    have u1 := ((r1.other (B' := w.heap.size) (by omega) (.slice a (accOf ys).length cap)).set (.int .i64 0)).other (B' := w.heap.size + 1 + 1) (by omega) .nilIface
    have u2 := ((r2.other (B' := w.heap.size) (by omega) (.slice a (accOf ys).length cap)).other (B' := w.heap.size + 1) (by omega) (.int .i64 0)).set .nilIface
    have w1 := hrow.kept (grownBy_setCell' W w.heap.size (.slice a (accOf ys).length cap)) (.inr (r0.not_row (by decide) hrow).symm)
    have r1' := r1.other (B' := w.heap.size) (by omega) (.slice a (accOf ys).length cap)
    have w2 := w1.kept (grownBy_setCell' _ (w.heap.size + 1) (.int .i64 0)) (.inr (r1'.not_row (by decide) w1).symm)
    have r2' := (r2.other (B' := w.heap.size) (by omega) (.slice a (accOf ys).length cap)).other (B' := w.heap.size + 1) (by omega) (.int .i64 0)
    have w3 := w2.kept (grownBy_setCell' _ (w.heap.size + 1 + 1) .nilIface) (.inr (r2'.not_row (by decide) w2).symm)
    have K3 := (((KeepsOthers.setCell W ⟨w.heap.size, 0, none⟩ (.slice a (accOf ys).length cap)).trans (KeepsOthers.setCell _ ⟨w.heap.size + 1, 0, none⟩ (.int .i64 0))).trans (KeepsOthers.setCell _ ⟨w.heap.size + 1 + 1, 0, none⟩ .nilIface)).same D _ hK rfl
    have B3 := ((hB.setCell (p := ⟨w.heap.size, 0, none⟩) (Nat.le_refl _) (.slice a (accOf ys).length cap)).setCell (p := ⟨w.heap.size + 1, 0, none⟩) (Nat.le_succ _) (.int .i64 0)).setCell (p := ⟨w.heap.size + 1 + 1, 0, none⟩) (by simp only; omega) .nilIface
    gi_wp2
    refine ⟨by simp, .inl ⟨_, _, rfl, run_takeDeferred K3, ?_⟩⟩
    have e0 := cell_kept u0.cell (grownBy_putObj' _ D (.deferred none)) (fun r e => by cases e; exact ⟨_, K3, rfl⟩)
    have e1 := cell_kept u1.cell (grownBy_putObj' _ D (.deferred none)) (fun r e => by cases e; exact ⟨_, K3, rfl⟩)
    have e2 := cell_kept u2.cell (grownBy_putObj' _ D (.deferred none)) (fun r e => by cases e; exact ⟨_, K3, rfl⟩)
    refine ⟨.tuple #[.slice a (accOf ys).length cap, .int .i64 0, .nilIface], ?_, ⟨.slice a (accOf ys).length cap, by rw [hps]; rfl, by rw [hps]; exact ownsRow_putObj w3 _ K3 rfl, by rw [hps]; exact hnil⟩, B3.trans (belowK_b (w := w) (Nat.le_refl _) _ D _ _ (by omega) K3 rfl rfl)⟩
    simp [results, Tryd.results6, go_sem, e0, e1, e2]
  case stop =>
    rintro D c pre W hD hpre ⟨⟨rfl, k, er, hp, c0, c1, c2⟩, hB⟩ hK
    gi_wp2
    refine ⟨by simp, .inl ⟨_, _, rfl, run_takeDeferred hK, ?_⟩⟩
    have e0 := cell_kept c0 (grownBy_putObj' _ D (.deferred none)) (fun r e => by cases e; exact ⟨_, hK, rfl⟩)
    have e1 := cell_kept c1 (grownBy_putObj' _ D (.deferred none)) (fun r e => by cases e; exact ⟨_, hK, rfl⟩)
    have e2 := cell_kept c2 (grownBy_putObj' _ D (.deferred none)) (fun r e => by cases e; exact ⟨_, hK, rfl⟩)
    obtain ⟨rest, hrest⟩ := hpre
    have hps : parseS t = ([], k, er) := by unfold parseS; rw [← hrest]; exact hp rest
    refine ⟨.tuple #[.slice none 0 0, .int .i64 k, chE er], ?_, ⟨.slice none 0 0, by rw [hps], by rw [hps]; exact World.ownsRow_nil _ _ _ _, by rw [hps]; simp⟩, hB.trans (belowK_b (w := w) (Nat.le_refl _) W D _ _ (by omega) hK rfl rfl)⟩
    simp [results, Tryd.results6, go_sem, e0, e1, e2]
end Go.Proofs.YtgpddkajlkckjaaDoor
