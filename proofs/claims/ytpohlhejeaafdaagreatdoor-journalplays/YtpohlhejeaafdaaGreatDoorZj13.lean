/-
  The contracts of errors.As at a target of type *api.Errno, of plain.Told and of daysame.Error: what is told of nil, and of an api.Errno.
-/
import Derived.Test.YtpohlhejeaafdaaGreatDoorZj12
import Derived.Test.YtpohlhejeaafdaaGreatDoorProg
import Derived.WalkKit
import Derived.WalkSpells
import Derived.LaidEql
import Derived.Stop.Asserts
import Derived.RowKitTokens
import Derived.Below
namespace Go.Proofs.YtpohlhejeaafdaaGreatDoor
set_option linter.unusedVariables false
set_option linter.unusedSimpArgs false
set_option maxRecDepth 100000
open Go.RowKit Go.Lib

/-- Numbers in a row of one's own. -/
def IsIR (W : World) (n : Nat) (v : Value) (l : List Int) : Prop := W.ownsRow n 3 1 v l.length (l.map (Value.int .i64))
theorem IsIR.nil (w : World) (n : Nat) : IsIR w n (.slice none 0 0) [] := World.ownsRow_nil _ _ _ _
theorem IsIR.lt {w : World} {n : Nat} {v : Value} {xs : List Int} (h : IsIR w n v xs) : ∀ j, v.ownBlock = some j → n ≤ j ∧ j < w.heap.size := fun j ej => by
  rcases h.2 with ⟨rfl, _⟩ | ⟨g, cp, cur, rfl, hg, hh, _⟩
  · cases ej
  · cases ej; exact ⟨hg, (Array.getElem?_eq_some_iff.1 hh).1⟩
theorem IsIR.of {w w' : World} {n : Nat} {v : Value} {l : List Int} (h : IsIR w n v l) (hb : ∀ j, v.ownBlock = some j → w'.heap[j]? = w.heap[j]?) : IsIR w' n v l := by
  rcases h.2 with ⟨hv, hn⟩ | ⟨g1, c1, cur, hv, hb1, hh, r⟩
  · exact ⟨h.1, .inl ⟨hv, hn⟩⟩
  · exact ⟨h.1, .inr ⟨g1, c1, cur, hv, hb1, (hb g1 (by rw [hv]; rfl)).trans hh, r⟩⟩
theorem IsIR.below {w w' : World} {n : Nat} {v : Value} {l : List Int} (h : IsIR w n v l) (hb : Below w.heap.size w w') : IsIR w' n v l := h.of fun j e => hb.block j (h.lt j e).2
theorem IsIR.shape {w : World} {n : Nat} {v : Value} {l : List Int} (h : IsIR w n v l) : ∃ a cap, v = .slice a l.length cap := by
  rcases h.2 with ⟨hv, hn⟩ | ⟨g1, c1, cur, hv, _⟩
  · rw [hn]; exact ⟨_, _, hv⟩
  · exact ⟨_, _, hv⟩
/-- Two rows that are apart. -/
structure TwoR (W : World) (n : Nat) (d : Value) (ds : List Int) (c : Value) (cs : List Int) : Prop where
  rd : IsIR W n d ds
  rc : IsIR W n c cs
  ne : ∀ j, d.ownBlock = some j → c.ownBlock ≠ some j
theorem TwoR.nil (w : World) (n : Nat) : TwoR w n (.slice none 0 0) [] (.slice none 0 0) [] := ⟨.nil _ _, .nil _ _, fun j e => by cases e⟩
theorem TwoR.swap {W : World} {n : Nat} {d c : Value} {ds cs : List Int} (h : TwoR W n d ds c cs) : TwoR W n c cs d ds := ⟨h.rc, h.rd, fun j e1 e2 => h.ne j e2 e1⟩
theorem TwoR.below {w w' : World} {n : Nat} {d c : Value} {ds cs : List Int} (h : TwoR w n d ds c cs) (hb : Below w.heap.size w w') : TwoR w' n d ds c cs := ⟨h.rd.below hb, h.rc.below hb, h.ne⟩
theorem TwoR.left {W W' : World} {n : Nat} {d c : Value} {ds cs : List Int} {x : Int} {g cap m : Nat} (h : TwoR W n d ds c cs) (hm : ds.length + 1 = m) (hown : W'.ownsRow n 3 1 (.slice (some ⟨g, 0, none⟩) m cap) m (ds.map (Value.int .i64) ++ [.int .i64 x])) (hg : W.grownBy W' d.ownBlock) (hat : d.ownBlock = some g ∨ g = W.heap.size) :
    TwoR W' n (.slice (some ⟨g, 0, none⟩) m cap) (ds ++ [x]) c cs := by
  refine ⟨?_, h.rc.of (fun j e => hg.block j (h.rc.lt j e).2 (fun e2 => h.ne j e2.symm e)), fun j e1 e2 => ?_⟩
  · unfold IsIR
    rw [List.length_append, List.map_append, List.length_singleton, hm]
    exact hown
  · have : g = j := by simpa [Value.ownBlock] using e1
    subst this
    rcases hat with hat | hat
    · exact h.ne g hat e2
    · have := (h.rc.lt g e2).2; omega

/-- Is a line of an account and a currency? -/
def mB (acc cur : ByteArray) (x : Ln) : Bool := (x.acc.toList == acc.toList) && (x.cur.toList == cur.toList)
/-- The debits, and the credits, of an account and a currency. -/
def dOf (acc cur : ByteArray) (l : List Ln) : List Int := (l.filter fun x => mB acc cur x && decide (0 < x.amt)).map (·.amt)
def cOf (acc cur : ByteArray) (l : List Ln) : List Int := (l.filter fun x => mB acc cur x && !decide (0 < x.amt)).map (·.amt)
theorem dOf_yes {acc cur : ByteArray} {x : Ln} (h1 : mB acc cur x = true) (h2 : 0 < x.amt) (l : List Ln) : dOf acc cur (l ++ [x]) = dOf acc cur l ++ [x.amt] := by
  unfold dOf
  rw [List.filter_append, List.map_append]
  simp [h1, h2]
theorem dOf_no {acc cur : ByteArray} {x : Ln} (h : mB acc cur x = false ∨ ¬ 0 < x.amt) (l : List Ln) : dOf acc cur (l ++ [x]) = dOf acc cur l := by
  unfold dOf
  rw [List.filter_append, List.map_append]
  rcases h with h | h <;> simp [h]
theorem cOf_yes {acc cur : ByteArray} {x : Ln} (h1 : mB acc cur x = true) (h2 : ¬ 0 < x.amt) (l : List Ln) : cOf acc cur (l ++ [x]) = cOf acc cur l ++ [x.amt] := by
  unfold cOf
  rw [List.filter_append, List.map_append]
  simp [h1, h2]
theorem cOf_no {acc cur : ByteArray} {x : Ln} (h : mB acc cur x = false ∨ 0 < x.amt) (l : List Ln) : cOf acc cur (l ++ [x]) = cOf acc cur l := by
  unfold cOf
  rw [List.filter_append, List.map_append]
  rcases h with h | h <;> simp [h]
theorem dOf_len (acc cur : ByteArray) (l : List Ln) : (dOf acc cur l).length ≤ l.length := by
  unfold dOf
  rw [List.length_map]
  exact List.length_filter_le _ _
theorem cOf_len (acc cur : ByteArray) (l : List Ln) : (cOf acc cur l).length ≤ l.length := by
  unfold cOf
  rw [List.length_map]
  exact List.length_filter_le _ _
/-- All lines. -/
def allL (es : List Je) : List Ln := es.flatMap (·.lns)
theorem allL_snoc (es : List Je) (k : Nat) (h : k < es.length) : allL (es.take (k + 1)) = allL (es.take k) ++ (es.getD k je0).lns := by
  rw [jes_take es k h]
  simp [allL]
theorem allL_len {es : List Je} (h : ∀ x ∈ es, x.lns.length ≤ 20) : (allL es).length ≤ es.length * 20 := by
  induction es with
  | nil => simp [allL]
  | cons x es ih =>
    have h1 := h x (by simp)
    have h2 := ih (fun y hy => h y (by simp [hy]))
    simp only [allL, List.flatMap_cons, List.length_append, List.length_cons] at *
    omega
theorem allL_take_len {es : List Je} (h : ∀ x ∈ es, x.lns.length ≤ 20) (k : Nat) : (allL (es.take k)).length ≤ k * 20 := by
  have h1 := allL_len (es := es.take k) (fun x hx => h x (List.mem_of_mem_take hx))
  have h2 : (es.take k).length ≤ k := by simp; omega
  have h3 : (es.take k).length * 20 ≤ k * 20 := Nat.mul_le_mul_right _ h2
  omega
section
variable {W : World} {n0 bj bm : Nat} {v : Value} {es : List Je}
set_option maxHeartbeats 8000000 in
theorem sides_any (h : JAt W n0 bj bm v es) (hlen : es.length ≤ 200) (h20 : ∀ x ∈ es, x.lns.length ≤ 20) (acc cur : ByteArray) :
    Calls Tryz.prog 35 #[.pointer (some ⟨bj, 0, none⟩), .string acc, .string cur] W fun e w' => ∃ d c, e = .returned (.tuple #[d, c]) ∧ TwoR w' W.heap.size d (dOf acc cur (allL es)) c (cOf acc cur (allL es)) ∧ Below W.heap.size W w' := by
  have c0 := h.c0
  have Hln : Hid (∀ x ∈ es, LnRow W n0 (.slice x.adr x.lns.length x.cap) x.lns) := h.lns
  obtain ⟨va, vc, rfl, hcap, hlie⟩ := h.row.lies
  have q4 : (es.length : Int) ≤ 200 := by omega
  obtain ⟨i0, hi, hz0, hz1, hz2⟩ := info_parts nint_info
  have Hlie : Hid (es = [] ∨ ∃ b off, va = some ⟨b, off, none⟩ ∧ b < W.heap.size ∧ ∀ k, k < es.length → JeAt W b (off + k * 4) (es.getD k je0)) := hlie
  have H20 : Hid (∀ x ∈ es, x.lns.length ≤ 20) := h20
  clear h hlie hcap h20
  go_enter Tryz.func35, Tryz.ntmps35
  go_wp2
  go_loopw [6, 7, 17] (fun d c i wr => ∃ k : Nat, k ≤ es.length ∧ i = .int .i64 k ∧ Hid (TwoR wr W.heap.size d (dOf acc cur (allL (es.take k))) c (cOf acc cur (allL (es.take k)))) ∧ Below W.heap.size W wr) (fun _ _ i _ => es.length - (RowKit.intOf i).toNat)
  case atStart => exact ⟨0, Nat.zero_le _, rfl, TwoR.nil _ _, Below.refl _ _⟩
  case round =>
    obtain ⟨k, hk, rfl, R, BW⟩ := hrel
    by_cases hlt : k < es.length
    · rcases Hlie.out with hh | ⟨b, off, rfl, hb, hcl⟩
      · rw [hh] at hlt; simp at hlt
      obtain ⟨d0, d1, d2, d3⟩ := (hcl k hlt).below BW hb
      have hl1 := H20.out _ (jes_mem es k hlt)
      have hl2 := Hln.out _ (jes_mem es k hlt)
      have hnx := allL_snoc es k hlt
      have hal := allL_take_len H20.out k
      have HNx : Hid (allL (es.take (k + 1)) = allL (es.take k) ++ (es.getD k je0).lns) := hnx
      generalize allL (es.take k) = pre at *
      clear hcl hnx
      generalize es.getD k je0 = x at *
      obtain ⟨r, xe, xp, a, cap, l⟩ := x
      simp only at d0 d1 d2 d3 hl1 hl2 HNx
      obtain ⟨a', cap', e', hil⟩ := hl2.isLn
      cases e'
      obtain ⟨W1, hW1⟩ : ∃ W1, wr.alloc (.cells #[.string r, .int .i64 xe, .int .i64 xp, .slice a l.length cap] 29) = W1 := ⟨_, rfl⟩
      have bx : Box4 W1 wr.heap.size r xe xp (.slice a l.length cap) := by rw [← hW1]; exact Box4.new _ _ _ _ _
      have b1 : Below wr.heap.size wr W1 := by rw [← hW1]; exact (Below.refl _ _).alloc (Nat.le_refl _) _
      have B1 := BW.trans (b1.mono BW.size)
      have R1 : Hid (TwoR W1 W.heap.size _ (dOf acc cur pre) _ (cOf acc cur pre)) := R.out.below b1
      have Hil : Hid (IsLn W a l cap) := hil
      have e3 := bx.c3
      have q0 : (0 : Int) ≤ k := by omega
      have q1 : (k : Int) < es.length := by omega
      have q5 : (l.length : Int) ≤ 20 := by omega
      have hW1' : wr.alloc (.cells #[.string r, .int .i64 xe, .int .i64 xp, .slice a l.length cap] 29) = W1 := hW1
      clear hW1 bx hl2 hil R
      go_wp2
      clear hW1' d0 d1 d2 d3 e3
      go_loopw [6, 7, 24] (fun d c i wx => ∃ j : Nat, j ≤ l.length ∧ i = .int .i64 j ∧ Hid (TwoR wx W.heap.size d (dOf acc cur (pre ++ l.take j)) c (cOf acc cur (pre ++ l.take j))) ∧ Below W.heap.size W wx) (fun _ _ i _ => l.length - (RowKit.intOf i).toNat)
      case atStart => exact ⟨0, Nat.zero_le _, rfl, by unfold Hid; simpa using R1.out, B1⟩
      case round =>
        obtain ⟨j, hj, rfl, R2, B2⟩ := hrel
        by_cases hlj : j < l.length
        · rcases (Hil.out.below B2).lies with hh | ⟨g, o, rfl, hg, hgc⟩
          · rw [hh] at hlj; simp at hlj
          obtain ⟨d0, d1, d2⟩ := hgc j hlj
          have hsn : pre ++ l.take (j + 1) = (pre ++ l.take j) ++ [l.getD j ln0] := by rw [lns_take l j hlj, List.append_assoc]
          have hdl := dOf_len acc cur (pre ++ l.take j)
          have hcl := cOf_len acc cur (pre ++ l.take j)
          have hpl : (pre ++ l.take j).length ≤ 5000 := by rw [List.length_append, List.length_take]; omega
          have hdy := fun h1 h2 => dOf_yes (acc := acc) (cur := cur) (x := l.getD j ln0) h1 h2 (pre ++ l.take j)
          have hdn := fun h => dOf_no (acc := acc) (cur := cur) (x := l.getD j ln0) h (pre ++ l.take j)
          have hcy := fun h1 h2 => cOf_yes (acc := acc) (cur := cur) (x := l.getD j ln0) h1 h2 (pre ++ l.take j)
          have hcn := fun h => cOf_no (acc := acc) (cur := cur) (x := l.getD j ln0) h (pre ++ l.take j)
          rw [← hsn] at hdy hdn hcy hcn
          have Hdy : Hid (_ → _ → _) := hdy
          have Hdn : Hid (_ → _) := hdn
          have Hcy : Hid (_ → _ → _) := hcy
          have Hcn : Hid (_ → _) := hcn
          have Hdl : Hid ((dOf acc cur (pre ++ l.take j)).length ≤ 5000) := by unfold Hid; omega
          have Hcl : Hid ((cOf acc cur (pre ++ l.take j)).length ≤ 5000) := by unfold Hid; omega
          clear hdy hdn hcy hcn hsn hgc hdl hcl hpl
          generalize l.getD j ln0 = y at *
          obtain ⟨ya, yc, ym⟩ := y
          simp only [mB] at d0 d1 d2 Hdy Hdn Hcy Hcn
          generalize dOf acc cur (pre ++ l.take j) = ds at *
          generalize cOf acc cur (pre ++ l.take j) = cs at *
          obtain ⟨W2, hW2⟩ : ∃ W2, wr.alloc (.cells #[.string ya, .string yc, .int .i64 ym] 44) = W2 := ⟨_, rfl⟩
          have bx := LnAt.new wr ⟨ya, yc, ym⟩ 44
          have b2 : Below wr.heap.size wr W2 := by rw [← hW2]; exact (Below.refl _ _).alloc (Nat.le_refl _) _
          have R3 : Hid (TwoR W2 W.heap.size _ ds _ cs) := R2.out.below b2
          have B3 := B2.trans (b2.mono B2.size)
          simp only [Ln.cells] at bx
          rw [hW2] at bx
          obtain ⟨e0, e1, e2⟩ := bx
          simp only at e0 e1 e2
          rw [Nat.zero_add] at e1 e2
          have r1 : (0 : Int) ≤ j := by omega
          have r2 : (j : Int) < l.length := by omega
          clear R2 b2 R1 Hil
          have Hend : Hid (∀ (d c : Value) (w' : World), TwoR w' W.heap.size d (dOf acc cur (pre ++ l.take (j + 1))) c (cOf acc cur (pre ++ l.take (j + 1))) → Below W.heap.size W w' → ∃ j' : Nat, j' ≤ l.length ∧ Value.int .i64 ((j : Int) + 1) = .int .i64 j' ∧ Hid (TwoR w' W.heap.size d (dOf acc cur (pre ++ l.take j')) c (cOf acc cur (pre ++ l.take j'))) ∧ Below W.heap.size W w') := fun d c w' hr hb => ⟨j + 1, by omega, by simp, hr, hb⟩
          by_cases hm : ((ya.toList == acc.toList) && (yc.toList == cur.toList)) = true
          · have hm' := hm
            rw [Bool.and_eq_true] at hm'
            obtain ⟨hm1, hm2⟩ := hm'
            obtain ⟨da, dc, hd⟩ := R3.out.rd.shape
            cases hd
            obtain ⟨ca, cc, hc⟩ := R3.out.rc.shape
            cases hc
            obtain ⟨W4, hW4⟩ : ∃ W4, W2.alloc (.cells #[.int .i64 ym] 3) = W4 := ⟨_, rfl⟩
            have b4 : Below W2.heap.size W2 W4 := by rw [← hW4]; exact (Below.refl _ _).alloc (Nat.le_refl _) _
            have R4 : Hid (TwoR W4 W.heap.size _ ds _ cs) := R3.out.below b4
            have B4 := B3.trans (b4.mono B3.size)
            have hr4 : W4.heap[W2.heap.size]? = some (.cells #[.int .i64 ym] 3 (0, 0)) := by rw [← hW4]; exact World.alloc_heap_new W2 _
            have Hsrc : Hid (∀ j u, [Value.int .i64 ym][j]? = some u → W4.cell? ((⟨W2.heap.size, 0, none⟩ : Addr).add j) = some u) := World.news_of_block hr4
            have Hs1 : Hid (∀ u ∈ [Value.int .i64 ym], u.oneCell' = true) := by intro u hu; simp at hu; subst hu; rfl
            have HW4 : Hid (_ = W4) := hW4
            have HB4 : Hid (Below W.heap.size W W4) := B4
            have HSz : Hid (W.heap.size ≤ W4.heap.size) := B4.size
            clear hr4 b4 B4 hW4 R3
            by_cases hp : 0 < ym
            · have hD := Hdy.out hm hp
              have hC := Hcn.out (.inr hp)
              have HDC : Hid (dOf acc cur (pre ++ l.take (j + 1)) = ds ++ [ym] ∧ cOf acc cur (pre ++ l.take (j + 1)) = cs) := ⟨hD, hC⟩
              have Hm1 : Hid (ds.length + 1 ≤ maxLen) := by unfold Hid maxLen; have := Hdl.out; omega
              have Hm2 : Hid ((ds.length + 1) * 8 ≤ 140737488355328) := by unfold Hid; have := Hdl.out; omega
              clear hD hC Hdy Hdn Hcy Hcn hm
              go_wp2_with (at_builtin; rw [HW4.out]; refine wpList_append_lies _ rfl _ _ 37 rfl W.heap.size 3 i0 (.int .i64 0) 1 8 Tryz.underlying37 hi hz0 hz1 hz2 rfl (by decide) _ _ _ rfl R4.out.rd ⟨W2.heap.size, 0, none⟩ 1 1 [.int .i64 ym] rfl rfl Hsrc.out Hs1.out (by decide) Hm1.out Hm2.out HSz.out W4.heap.size rfl ?_)
              intro g5 c5 w5 hown hgrow hat _
              have HN5 : Hid (TwoR w5 W.heap.size (.slice (some ⟨g5, 0, none⟩) (ds.length + 1) c5) (dOf acc cur (pre ++ l.take (j + 1))) (.slice ca cs.length cc) (cOf acc cur (pre ++ l.take (j + 1)))) := by
                unfold Hid
                rw [HDC.out.1, HDC.out.2]
                exact R4.out.left rfl hown hgrow hat
              have HB5 : Hid (Below W.heap.size W w5) := HB4.out.grown hgrow HSz.out (fun j e => (R4.out.rd.lt j e).1)
              clear hown hgrow hat R4
              go_wp2
              go_roundw
              case rel => exact Hend.out _ _ _ HN5.out HB5.out
              case measure => simp [RowKit.intOf]; omega
            · have hD := Hdn.out (.inr hp)
              have hC := Hcy.out hm hp
              have HDC : Hid (dOf acc cur (pre ++ l.take (j + 1)) = ds ∧ cOf acc cur (pre ++ l.take (j + 1)) = cs ++ [ym]) := ⟨hD, hC⟩
              have Hm1 : Hid (cs.length + 1 ≤ maxLen) := by unfold Hid maxLen; have := Hcl.out; omega
              have Hm2 : Hid ((cs.length + 1) * 8 ≤ 140737488355328) := by unfold Hid; have := Hcl.out; omega
              clear hD hC Hdy Hdn Hcy Hcn hm
              go_wp2_with (at_builtin; rw [HW4.out]; refine wpList_append_lies _ rfl _ _ 37 rfl W.heap.size 3 i0 (.int .i64 0) 1 8 Tryz.underlying37 hi hz0 hz1 hz2 rfl (by decide) _ _ _ rfl R4.out.rc ⟨W2.heap.size, 0, none⟩ 1 1 [.int .i64 ym] rfl rfl Hsrc.out Hs1.out (by decide) Hm1.out Hm2.out HSz.out W4.heap.size rfl ?_)
              intro g5 c5 w5 hown hgrow hat _
              have HN5 : Hid (TwoR w5 W.heap.size (.slice da ds.length dc) (dOf acc cur (pre ++ l.take (j + 1))) (.slice (some ⟨g5, 0, none⟩) (cs.length + 1) c5) (cOf acc cur (pre ++ l.take (j + 1)))) := by
                unfold Hid
                rw [HDC.out.1, HDC.out.2]
                exact (R4.out.swap.left rfl hown hgrow hat).swap
              have HB5 : Hid (Below W.heap.size W w5) := HB4.out.grown hgrow HSz.out (fun j e => (R4.out.rc.lt j e).1)
              clear hown hgrow hat R4
              go_wp2
              go_roundw
              case rel => exact Hend.out _ _ _ HN5.out HB5.out
              case measure => simp [RowKit.intOf]; omega
          · have hD := Hdn.out (.inl (by simpa using hm))
            have hC := Hcn.out (.inl (by simpa using hm))
            have HR := R3
            rw [← hD, ← hC] at HR
            clear hD hC Hdy Hdn Hcy Hcn R3
            by_cases hm1 : (ya.toList == acc.toList) = true
            · have hm2 : (yc.toList == cur.toList) = false := by simpa [hm1] using hm
              clear hm
              go_wp2
              go_roundw
              case rel => exact Hend.out _ _ _ HR.out B3
              case measure => simp [RowKit.intOf]; omega
            · have hm1' : (ya.toList == acc.toList) = false := by simpa using hm1
              clear hm hm1
              go_wp2
              go_roundw
              case rel => exact Hend.out _ _ _ HR.out B3
              case measure => simp [RowKit.intOf]; omega
        · have hje : j = l.length := by omega
          subst hje
          rw [List.take_length, ← HNx.out] at R2
          go_wp2
          go_roundw
          case rel => exact ⟨k + 1, by omega, by go_num, R2, B2⟩
          case measure => simp [RowKit.intOf]; omega
    · have hke : k = es.length := by omega
      subst hke
      rw [List.take_length] at R
      go_wp2
      go_ret2
      exact ⟨_, _, rfl, R.out, BW⟩
end
end Go.Proofs.YtpohlhejeaafdaaGreatDoor

namespace Go.Proofs.YtpohlhejeaafdaaGreatDoor
set_option linter.unusedVariables false
set_option linter.unusedSimpArgs false
set_option maxRecDepth 100000
open Go.RowKit Go.Lib Math

theorem sum_abs {M : Int} (hM : 0 ≤ M) : ∀ {l : List Int}, (∀ x ∈ l, -M ≤ x ∧ x ≤ M) → -(M * l.length) ≤ l.sum ∧ l.sum ≤ M * l.length
  | [], _ => by simp
  | x :: l, h => by
    have h1 := h x (by simp)
    have h2 := sum_abs hM (l := l) (fun y hy => h y (by simp [hy]))
    simp only [List.sum_cons, List.length_cons]
    have e : M * ((l.length + 1 : Nat) : Int) = M * (l.length : Int) + M := by rw [Int.natCast_add, Int.mul_add]; simp
    rw [e]
    omega
theorem dOf_mem {acc cur : ByteArray} {l : List Ln} {z : Int} (h : z ∈ dOf acc cur l) : ∃ x ∈ l, x.amt = z ∧ 0 < z := by
  unfold dOf at h
  obtain ⟨x, hx, rfl⟩ := List.mem_map.1 h
  obtain ⟨h1, h2⟩ := List.mem_filter.1 hx
  rw [Bool.and_eq_true] at h2
  exact ⟨x, h1, rfl, by simpa using h2.2⟩
theorem cOf_mem {acc cur : ByteArray} {l : List Ln} {z : Int} (h : z ∈ cOf acc cur l) : ∃ x ∈ l, x.amt = z ∧ z ≤ 0 := by
  unfold cOf at h
  obtain ⟨x, hx, rfl⟩ := List.mem_map.1 h
  obtain ⟨h1, h2⟩ := List.mem_filter.1 hx
  rw [Bool.and_eq_true] at h2
  exact ⟨x, h1, rfl, by simpa using h2.2⟩
theorem allL_mem {es : List Je} {y : Ln} (h : y ∈ allL es) : ∃ x ∈ es, y ∈ x.lns := by
  unfold allL at h
  exact List.mem_flatMap.1 h
/-- The sums of debits, and of credits. -/
def dSum (acc cur : ByteArray) (l : List Ln) : Int := (dOf acc cur l).sum
def cSum (acc cur : ByteArray) (l : List Ln) : Int := (cOf acc cur l).sum
theorem nonneg_sum {l : List Int} (h : ∀ x ∈ l, 0 ≤ x) : 0 ≤ l.sum := by
  induction l with
  | nil => simp
  | cons x l ih =>
    have := h x (by simp)
    have := ih (fun y hy => h y (by simp [hy]))
    simp only [List.sum_cons]
    omega
theorem nonpos_sum {l : List Int} (h : ∀ x ∈ l, x ≤ 0) : l.sum ≤ 0 := by
  induction l with
  | nil => simp
  | cons x l ih =>
    have := h x (by simp)
    have := ih (fun y hy => h y (by simp [hy]))
    simp only [List.sum_cons]
    omega
theorem amt_i64 {l : List Int} (h : ∀ x ∈ l, -mostA ≤ x ∧ x ≤ mostA) : ∀ i, i < l.length → I64 (l.getD i 0) := fun i hi => by
  have : l.getD i 0 ∈ l := by
    rw [List.getD_eq_getElem?_getD, List.getElem?_eq_getElem hi]
    exact List.getElem_mem hi
  have := h _ this
  unfold mostA at this
  unfold I64
  omega
theorem dSum_bd {acc cur : ByteArray} {l : List Ln} (hA : ∀ y ∈ l, -mostA ≤ y.amt ∧ y.amt ≤ mostA) (hl : l.length ≤ 4000) : 0 ≤ dSum acc cur l ∧ dSum acc cur l ≤ 4000000000000000000 := by
  have h1 : ∀ x ∈ dOf acc cur l, -mostA ≤ x ∧ x ≤ mostA := fun x hx => by
    obtain ⟨y, hy, rfl, _⟩ := dOf_mem hx
    exact hA y hy
  have h2 := sum_abs (M := mostA) (by unfold mostA; omega) h1
  have h3 := dOf_len acc cur l
  refine ⟨nonneg_sum (fun x hx => by obtain ⟨_, _, _, h⟩ := dOf_mem hx; omega), ?_⟩
  unfold dSum
  unfold mostA at h2
  omega
theorem cSum_bd {acc cur : ByteArray} {l : List Ln} (hA : ∀ y ∈ l, -mostA ≤ y.amt ∧ y.amt ≤ mostA) (hl : l.length ≤ 4000) : -4000000000000000000 ≤ cSum acc cur l ∧ cSum acc cur l ≤ 0 := by
  have h1 : ∀ x ∈ cOf acc cur l, -mostA ≤ x ∧ x ≤ mostA := fun x hx => by
    obtain ⟨y, hy, rfl, _⟩ := cOf_mem hx
    exact hA y hy
  have h2 := sum_abs (M := mostA) (by unfold mostA; omega) h1
  have h3 := cOf_len acc cur l
  refine ⟨?_, nonpos_sum (fun x hx => by obtain ⟨_, _, _, h⟩ := cOf_mem hx; omega)⟩
  unfold cSum
  unfold mostA at h2
  omega

section
variable {W : World} {n0 bj bm : Nat} {v : Value} {es : List Je}
set_option maxHeartbeats 2000000 in
theorem turns_any (h : JAt W n0 bj bm v es) (hlen : es.length ≤ 200) (h20 : ∀ x ∈ es, x.lns.length ≤ 20) (hA : ∀ y ∈ allL es, -mostA ≤ y.amt ∧ y.amt ≤ mostA) (acc cur : ByteArray) :
    Calls Tryz.prog 17 #[.pointer (some ⟨bj, 0, none⟩), .string acc, .string cur] W fun e w' => e = .returned (.tuple #[.int .i64 (dSum acc cur (allL es)), .int .i64 (-cSum acc cur (allL es)), .nilIface]) ∧ Below W.heap.size W w' := by
  have hl := allL_len h20
  have hl4 : (allL es).length ≤ 4000 := by omega
  obtain ⟨d1, d2⟩ := dSum_bd (acc := acc) (cur := cur) hA hl4
  obtain ⟨c1, c2⟩ := cSum_bd (acc := acc) (cur := cur) hA hl4
  have HS : Hid (Calls _ _ _ W _) := sides_any h hlen h20 acc cur
  have HD : Hid (∀ (d c : Value) (w' : World), TwoR w' W.heap.size d (dOf acc cur (allL es)) c (cOf acc cur (allL es)) → Calls Tryz.prog 36 #[d] w' fun e w'' => e = .returned (.tuple #[.int .i64 (dSum acc cur (allL es)), .nilIface]) ∧ w'' = w') := fun d c w' hr => by
    have hq := sum_own W.heap.size (dOf acc cur (allL es)).length 3 d (dOf acc cur (allL es)) w' (by have := dOf_len acc cur (allL es); omega) (amt_i64 (fun x hx => by
      obtain ⟨y, hy, rfl, _⟩ := dOf_mem hx
      exact hA y hy)) hr.rd
    have hf := sum_fit (dSum acc cur (allL es)) ⟨by omega, by omega⟩
    unfold dSum at hf
    rw [hf.1, hf.2] at hq
    exact hq
  have HC : Hid (∀ (d c : Value) (w' : World), TwoR w' W.heap.size d (dOf acc cur (allL es)) c (cOf acc cur (allL es)) → Calls Tryz.prog 36 #[c] w' fun e w'' => e = .returned (.tuple #[.int .i64 (cSum acc cur (allL es)), .nilIface]) ∧ w'' = w') := fun d c w' hr => by
    have hq := sum_own W.heap.size (cOf acc cur (allL es)).length 3 c (cOf acc cur (allL es)) w' (by have := cOf_len acc cur (allL es); omega) (amt_i64 (fun x hx => by
      obtain ⟨y, hy, rfl, _⟩ := cOf_mem hx
      exact hA y hy)) hr.rc
    have hf := sum_fit (cSum acc cur (allL es)) ⟨by omega, by omega⟩
    unfold cSum at hf
    rw [hf.1, hf.2] at hq
    exact hq
  generalize dSum acc cur (allL es) = ds at *
  generalize cSum acc cur (allL es) = cs at *
  have c3 : ¬ cs = -9223372036854775808 := by omega
  clear h hA hl hl4 h20
  go_enter Tryz.func17, Tryz.ntmps17
  go_wp2_with fail
  refine HS.out.mono ?_
  rintro e w1 ⟨d, c, rfl, r1, b1⟩
  have H1 : Hid (Calls _ _ _ w1 _) := HD.out d c w1 r1
  have H2 : Hid (Calls _ _ _ w1 _) := HC.out d c w1 r1
  obtain ⟨da, dc, rfl⟩ := r1.rd.shape
  obtain ⟨ca, cc, rfl⟩ := r1.rc.shape
  clear r1 HS HD HC
  go_wp2_with fail
  refine H1.out.mono ?_
  rintro e w2 ⟨rfl, hw⟩
  rw [hw]; clear hw w2 H1
  go_wp2_with fail
  refine H2.out.mono ?_
  rintro e w2 ⟨rfl, hw⟩
  rw [hw]; clear hw w2 H2
  go_wp2
  exact bodyPost_ret (v := .tuple #[.int .i64 ds, .int .i64 (-cs), .nilIface]) (by simp [results, Tryz.results17, go_sem]) rfl ⟨rfl, b1⟩
end
end Go.Proofs.YtpohlhejeaafdaaGreatDoor

namespace Go.Proofs.YtpohlhejeaafdaaGreatDoor
set_option linter.unusedVariables false
open Go.RowKit Go.Extern.Stop Go.Stop Go.Extern

theorem valueOfP (t : Addr) (w : World) : (ReflectliteValue.unpack (.iface 90 (.pointer (some t)))).run Tryz.prog w
    = .ok (.agg #[.pointer (some ⟨1, 90, none⟩), .pointer (some ⟨w.heap.size, 0, none⟩), .int .u64 150]) (w.alloc (.cells #[.pointer (some t)] 90)) := by kernel_rfl
theorem typeP (a : Addr) (w : World) : (ReflectliteValue.methodAny (ReflectliteValue.valueError "reflectlite.Value.Type" 0) (fun t _ _ _ => ReflectliteType.toType t) #[.agg #[.pointer (some ⟨1, 90, none⟩), .pointer (some a), .int .u64 150]]).run Tryz.prog w
    = .ok (.iface 133 (.agg #[.pointer (some ⟨1, 90, none⟩)])) w := by kernel_rfl
theorem methodKind (h : Value) (w : World) : (Go.method 282 133 (.agg #[h]) "Kind").run Tryz.prog w = .ok (120, h) w := by kernel_rfl
theorem kindP (w : World) : ((ReflectliteType.abiMethod fun t => Functor.map (fun a : Nat => Value.int IntKind.u8 (a : Int)) (Rtype.kind t)) #[.pointer (some ⟨1, 90, none⟩)]).run Tryz.prog w = .ok (.int .u8 22) w := by kernel_rfl
theorem kindE (w : World) : ((ReflectliteType.abiMethod fun t => Functor.map (fun a : Nat => Value.int IntKind.u8 (a : Int)) (Rtype.kind t)) #[.pointer (some ⟨1, 60, none⟩)]).run Tryz.prog w = .ok (.int .u8 2) w := by kernel_rfl
theorem rlm (z : Sem Value) (f : TypeId → Addr → Nat → Nat → Sem Value) (v : Value) :
    ReflectliteValue.method z f #[v] = (do match ← ReflectliteValue.parts v with | none => z | some (t, a, fl) => f t a fl (fl % 32)) := rfl
theorem partsP (a : Addr) (w : World) : (ReflectliteValue.parts (.agg #[.pointer (some ⟨1, 90, none⟩), .pointer (some a), .int .u64 150])).run Tryz.prog w = .ok (some (90, a, 150)) w := by kernel_rfl
theorem isNilP (a p : Addr) (W : World) (ha : W.cell? a = some (.pointer (some p))) :
    (ReflectliteValue.method (ReflectliteValue.valueError "reflectlite.Value.IsNil" 0) ReflectliteValue.isNil #[.agg #[.pointer (some ⟨1, 90, none⟩), .pointer (some a), .int .u64 150]]).run Tryz.prog W = .ok (.bool false) W := by
  rw [rlm]
  simp only [Sem.run_bind, partsP, Result.andThen]
  simp [ReflectliteValue.isNil, loadVar, isAgg, underlying, Tryz.underlying90, ha, Result.andThen]
theorem methodElem (h : Value) (w : World) : (Go.method 282 133 (.agg #[h]) "Elem").run Tryz.prog w = .ok (132, .agg #[h]) w := by kernel_rfl
theorem methodImplements (h : Value) (w : World) : (Go.method 282 133 (.agg #[h]) "Implements").run Tryz.prog w = .ok (133, .agg #[h]) w := by kernel_rfl
theorem methodAssignableTo (h : Value) (w : World) : (Go.method 282 133 (.agg #[h]) "AssignableTo").run Tryz.prog w = .ok (130, .agg #[h]) w := by kernel_rfl
theorem elemP (w : World) : (ReflectliteType.method ReflectliteType.elem #[.agg #[.pointer (some ⟨1, 90, none⟩)]]).run Tryz.prog w = .ok (.iface 133 (.agg #[.pointer (some ⟨1, 60, none⟩)])) w := by kernel_rfl
theorem implementsE (w : World) : (ReflectliteType.relation "Implements" ReflectliteType.implements_ #[.agg #[.pointer (some ⟨1, 60, none⟩)], .iface 133 (.agg #[.pointer (some ⟨1, 31, none⟩)])]).run Tryz.prog w = .ok (.bool true) w := by kernel_rfl
theorem typeOfE (v : Value) (w : World) : (ReflectliteType.typeOf #[.iface 60 v]).run Tryz.prog w = .ok (.iface 133 (.agg #[.pointer (some ⟨1, 60, none⟩)])) w := by kernel_rfl
theorem assignableE (w : World) : (ReflectliteType.relation "AssignableTo" ReflectliteType.assignableTo #[.agg #[.pointer (some ⟨1, 60, none⟩)], .iface 133 (.agg #[.pointer (some ⟨1, 60, none⟩)])]).run Tryz.prog w = .ok (.bool true) w := by kernel_rfl
theorem valueOfE (n : Int) (w : World) : (ReflectliteValue.unpack (.iface 60 (.int .i64 n))).run Tryz.prog w
    = .ok (.agg #[.pointer (some ⟨1, 60, none⟩), .pointer (some ⟨w.heap.size, 0, none⟩), .int .u64 130]) (w.alloc (.cells #[.int .i64 n] 60)) := by kernel_rfl
theorem elemOfP (w : World) : (Rtype.elem? 90).run Tryz.prog w = .ok (some 60) w := by kernel_rfl
theorem mkE (p : Addr) (w : World) : (ReflectliteValue.mk 60 p ReflectliteValue.flagAddr).run Tryz.prog w = .ok (.agg #[.pointer (some ⟨1, 60, none⟩), .pointer (some p), .int .u64 386]) w := by kernel_rfl
theorem elemVP (a p : Addr) (W : World) (ha : W.cell? a = some (.pointer (some p))) :
    (ReflectliteValue.method (ReflectliteValue.valueError "reflectlite.Value.Elem" 0) ReflectliteValue.elem #[.agg #[.pointer (some ⟨1, 90, none⟩), .pointer (some a), .int .u64 150]]).run Tryz.prog W
      = .ok (.agg #[.pointer (some ⟨1, 60, none⟩), .pointer (some p), .int .u64 386]) W := by
  rw [rlm]
  simp only [Sem.run_bind, partsP, Result.andThen]
  simp [ReflectliteValue.elem, loadVar, isAgg, underlying, Tryz.underlying90, ha, Result.andThen, elemOfP, mkE]
theorem rls (v x : Value) : ∃ s1 s2 s3 s4 s5 : String, ReflectliteValue.set #[v, x] = (do
    let (some (dst, a, fl), some (src, b, _)) := (← ReflectliteValue.parts v, ← ReflectliteValue.parts x)
      | unsupported (.noEntry s1)
    if fl / ReflectliteValue.flagAddr % 2 == 0 then unsupported (.noEntry s2)
    let val ← loadVar src b
    if ← Rtype.directlyAssignable dst src then storeVar dst a val
    else if ← Rtype.implements dst src then
      if (← Rtype.kind src) == 20 then
        match val with
        | .nilIface => unsupported (.noEntry s3)
        | _ => storeVar dst a val
      else storeVar dst a (.iface src val)
    else panicString (s4 ++ (← Rtype.spelt src) ++ s5 ++ (← Rtype.spelt dst))
    pure (.tuple #[])) := ⟨_, _, _, _, _, rfl⟩
theorem partsEa (a : Addr) (w : World) : (ReflectliteValue.parts (.agg #[.pointer (some ⟨1, 60, none⟩), .pointer (some a), .int .u64 386])).run Tryz.prog w = .ok (some (60, a, 386)) w := by kernel_rfl
theorem partsE (a : Addr) (w : World) : (ReflectliteValue.parts (.agg #[.pointer (some ⟨1, 60, none⟩), .pointer (some a), .int .u64 130])).run Tryz.prog w = .ok (some (60, a, 130)) w := by kernel_rfl
theorem directE (w : World) : (Rtype.directlyAssignable 60 60).run Tryz.prog w = .ok true w := by kernel_rfl
theorem setE (ta b : Addr) (n : Int) (old : Value) (W : World) (hb : W.cell? b = some (.int .i64 n)) (ht : W.cell? ta = some old) (hf : W.frozen? ta = false) :
    (ReflectliteValue.set #[.agg #[.pointer (some ⟨1, 60, none⟩), .pointer (some ta), .int .u64 386], .agg #[.pointer (some ⟨1, 60, none⟩), .pointer (some b), .int .u64 130]]).run Tryz.prog W
      = .ok (.tuple #[]) (W.setCell ta (.int .i64 n)) := by
  obtain ⟨s1, s2, s3, s4, s5, h⟩ := rls (.agg #[.pointer (some ⟨1, 60, none⟩), .pointer (some ta), .int .u64 386]) (.agg #[.pointer (some ⟨1, 60, none⟩), .pointer (some b), .int .u64 130])
  rw [h]
  simp only [Sem.run_bind, partsEa, partsE, Result.andThen]
  simp [ReflectliteValue.flagAddr, loadVar, isAgg, underlying, Tryz.underlying60, hb, Result.andThen, directE, storeVar, Value.cells, storeCells, Addr.add]
  rw [run_store Tryz.prog W ta _ _ (by rfl)]
  simp [ht, hf]
end Go.Proofs.YtpohlhejeaafdaaGreatDoor
