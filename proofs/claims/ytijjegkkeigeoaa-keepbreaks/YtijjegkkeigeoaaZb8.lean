/-
  The contract of Open where there is a head.
-/
import Derived.Test.YtijjegkkeigeoaaZb7
namespace Go.Proofs.Ytijjegkkeigeoaa
set_option linter.unusedVariables false
set_option linter.unusedSimpArgs false
set_option maxRecDepth 100000
open Go.RowKit Go.Lib
/-- What a log knows beside its text and where its pieces are. -/
structure Ls where
  cnt : Nat
  sit : Nat
  st : Nat
  sf : Nat
  old : Nat
  ld : Bool
  bg : Bool
  lo : Bool
def lgC (p fr mn : Nat) (tv wv : Value) (s : Ls) : List Value := [.pointer (some ⟨p, 0, none⟩), .int .i64 (fr : Int), .int .i64 (mn : Int), tv, .int .i64 (s.cnt : Int), .int .i64 (s.sit : Int), .int .i64 (s.st : Int), wv, .int .i64 (s.sf : Int), .int .i64 (s.old : Int), .bool s.ld, .bool s.bg, .bool s.lo]
def LgBox (W : World) (lb p fr mn : Nat) (tv wv : Value) (s : Ls) : Prop := W.heap[lb]? = some (.cells (lgC p fr mn tv wv s).toArray 92 (0, 0))
section
variable {W : World} {lb p fr mn : Nat} {tv wv : Value} {s : Ls}
theorem LgBox.at (h : LgBox W lb p fr mn tv wv s) (i : Nat) : W.cell? ⟨lb, i, none⟩ = (lgC p fr mn tv wv s)[i]? := by
  rw [cell_of_row W lb i _ _ (0, 0) h]
  simp
theorem LgBox.fz (h : LgBox W lb p fr mn tv wv s) (i : Nat) : W.frozen? ⟨lb, i, none⟩ = false := by
  unfold LgBox at h
  simp [World.frozen?, h]
theorem LgBox.set (h : LgBox W lb p fr mn tv wv s) (i : Nat) (v : Value) {tv' wv' : Value} {s' : Ls} (e : ((lgC p fr mn tv wv s).set i v) = lgC p fr mn tv' wv' s') : LgBox (W.setCell ⟨lb, i, none⟩ v) lb p fr mn tv' wv' s' := by
  unfold LgBox at *
  rw [setCell_eq_setRow W lb i _ _ (0, 0) _ h, setRow_heap W lb _ _ _ (0, 0) h]
  simp [e]
theorem LgBox.lt (h : LgBox W lb p fr mn tv wv s) : lb < W.heap.size := (Array.getElem?_eq_some_iff.1 h).1
theorem LgBox.area (h : LgBox W lb p fr mn tv wv s) : W.rangeAt lb 0 [.pointer (some ⟨p, 0, none⟩), .int .i64 (fr : Int), .int .i64 (mn : Int)] := by
  intro j v hj
  rw [Nat.zero_add, h.at]
  match j with
  | 0 => exact hj
  | 1 => exact hj
  | 2 => exact hj
  | j + 3 => simp at hj
end
/-- Numbers in a row of one's own. -/
def naC (l : List Nat) : List Value := l.map fun (k : Nat) => Value.int .i64 (k : Int)
def NaRow (W : World) (base : Nat) (v : Value) (l : List Nat) : Prop := W.ownsRow base 3 1 v l.length (naC l)
theorem naC_append (l m : List Nat) : naC (l ++ m) = naC l ++ naC m := by simp [naC]
theorem naC_one (l : List Nat) : ∀ u ∈ naC l, u.oneCell' = true := by
  intro u hu
  obtain ⟨k, _, rfl⟩ := List.mem_map.1 hu
  rfl
theorem NaRow.nil (W : World) (base : Nat) : NaRow W base (.slice none 0 0) [] := World.ownsRow_nil _ _ _ _
theorem NaRow.shape {W : World} {base : Nat} {v : Value} {l : List Nat} (h : NaRow W base v l) : ∃ a cap, v = .slice a l.length cap := by
  rcases h.2 with ⟨rfl, h0⟩ | ⟨g, cap, cur, rfl, _⟩
  · exact ⟨none, 0, by rw [h0]⟩
  · exact ⟨_, _, rfl⟩
theorem NaRow.keep {W U : World} {base : Nat} {v : Value} {l : List Nat} (h : NaRow W base v l) (hk : ∀ (b : Nat) (cs : Array Value), W.heap[b]? = some (.cells cs 3 (0, 0)) → base ≤ b → v.ownBlock = some b → U.heap[b]? = W.heap[b]?) : NaRow U base v l := by
  rcases h.2 with ⟨hv, hn⟩ | ⟨g1, c1, cur, hv, hb1, hh, r⟩
  · exact ⟨h.1, .inl ⟨hv, hn⟩⟩
  · exact ⟨h.1, .inr ⟨g1, c1, cur, hv, hb1, (hk g1 cur hh hb1 (by rw [hv]; rfl)).trans hh, r⟩⟩
theorem int_info : (Try.prog.info? 3).map (fun i => (i.zero, i.size, i.bytes)) = some (some (.int .i64 0), 1, 8) := by kernel_rfl
theorem int_tinfo : ∃ q, Try.prog.info? 3 = some q ∧ q.zero = some (.int .i64 0) ∧ q.size = 1 ∧ q.bytes = 8 := by
  obtain ⟨q, hq, hz⟩ := Option.map_eq_some_iff.1 int_info
  simp only [Prod.mk.injEq] at hz
  exact ⟨q, hq, hz.1, hz.2.1, hz.2.2⟩
/-- One more number behind a row. -/
theorem run_appN (w : World) (ty : TypeId) (base : Nat) (v : Value) (l : List Nat) (k b : Nat) (hr : NaRow w base v l) (hb : w.heap[b]? = some (.cells #[.int .i64 (k : Int)] 3 (0, 0))) (hbs : base ≤ w.heap.size) (hlen : l.length ≤ 100000) :
    ∃ v' w', (Builtin.append_ #[37, 37] ty #[v, .slice (some ⟨b, 0, none⟩) 1 1]).run Try.prog w = .ok v' w' ∧ NaRow w' base v' (l ++ [k]) ∧ Below base w w' ∧ (∀ b, b < w.heap.size → v.ownBlock ≠ some b → w'.heap[b]? = w.heap[b]?) ∧ (v'.ownBlock = v.ownBlock ∨ v'.ownBlock = some w.heap.size) := by
  obtain ⟨qi, hqi, hqz⟩ := int_tinfo
  obtain ⟨v', w', h1, h2, h3, _, h5⟩ := run_append_own_at (P := Try.prog) w base 37 ty 3 qi (.int .i64 0) 1 8 Try.underlying37 hqi hqz.1 hqz.2.1 hqz.2.2 rfl (by omega) v l.length (naC l) hr ⟨b, 0, none⟩ 1 1 [.int .i64 (k : Int)] rfl (fun j u hj => by
    rw [Addr.add_mid, Nat.zero_add, cell_of_row w b _ _ _ (0, 0) hb]
    simpa using hj) (by simp [Value.oneCell']) (by unfold maxLen; omega) (by omega) hbs
  have hown : ∀ j, v.ownBlock = some j → base ≤ j := fun j hj => by
    rcases hr.2 with ⟨h1, _⟩ | ⟨g1, c1, cur, h1, hg1, _⟩
    · rw [h1] at hj; cases hj
    · rw [h1] at hj; cases hj; exact hg1
  refine ⟨v', w', h1, ?_, grown_below h3 hbs hown, fun b hlt hne => h3.block b hlt (fun e => hne e.symm), h5⟩
  unfold NaRow
  rw [List.length_append, naC_append]
  exact h2
/-- A number of a row is read. -/
theorem NaRow.cell {W : World} {base : Nat} {v : Value} {l : List Nat} (h : NaRow W base v l) (k : Nat) (hk : k < l.length) : ∃ g cap, v = .slice (some ⟨g, 0, none⟩) l.length cap ∧ base ≤ g ∧ W.cell? ⟨g, k, none⟩ = some (.int .i64 ((l.getD k 0 : Nat) : Int)) ∧ W.frozen? ⟨g, k, none⟩ = false := by
  rcases h.2 with ⟨hv, hn⟩ | ⟨g, cap, cur, hv, hb, hg, _, _, _, ht⟩
  · omega
  · refine ⟨g, cap, hv, hb, ?_, by simp [World.frozen?, hg]⟩
    rw [cell_of_row W g k _ _ (0, 0) hg]
    have e1 : (naC l)[k]? = cur[k]? := by
      rw [← ht, List.getElem?_take, if_pos (by omega)]
      simp
    rw [← e1, List.getD_eq_getElem?_getD, List.getElem?_eq_getElem hk]
    simp [naC, hk]
/-- A text's beginning, in its row. -/
theorem ByRow.take {W : World} {base : Nat} {a : Option Addr} {k cap : Nat} {l : List UInt8} (h : ByRow W base (.slice a k cap) l) (m : Nat) (hm : m ≤ l.length) : ByRow W base (.slice a m cap) (l.take m) := by
  have hl : (l.take m).length = m := by rw [List.length_take]; omega
  rcases h.2 with ⟨hv, hn⟩ | ⟨g, c, cur, hv, hb, hg, hc, hmx, hs, ht⟩
  · cases hv
    have : l = [] := List.eq_nil_of_length_eq_zero (by omega)
    subst this
    have hm0 : m = 0 := by simpa using hm
    subst hm0
    exact World.ownsRow_nil _ _ _ _
  · cases hv
    refine ⟨by rw [byC_length, hl]; omega, .inr ⟨g, cap, cur, by rw [hl], hb, hg, by omega, hmx, hs, ?_⟩⟩
    rw [hl, Nat.mul_one]
    have e : byC (l.take m) = (byC l).take m := by simp [byC]
    rw [e, ← ht, List.take_take, Nat.min_eq_left (by omega)]
end Go.Proofs.Ytijjegkkeigeoaa

namespace Go.Proofs.Ytijjegkkeigeoaa
set_option linter.unusedVariables false
set_option linter.unusedSimpArgs false
set_option maxRecDepth 100000
open Go.RowKit Go.Lib
/-- One block alone may have turned. -/
structure But (lb : Nat) (V W : World) : Prop where
  os : W.os = V.os
  tape : W.tape = V.tape
  output : W.output = V.output
  size : V.heap.size ≤ W.heap.size
  oth : ∀ b, b < V.heap.size → b ≠ lb → W.heap[b]? = V.heap[b]?
section
variable {lb : Nat} {U V W : World}
theorem But.refl (lb : Nat) (V : World) : But lb V V := ⟨rfl, rfl, rfl, Nat.le_refl _, fun _ _ _ => rfl⟩
theorem But.trans (h : But lb U V) (k : But lb V W) : But lb U W := ⟨k.os.trans h.os, k.tape.trans h.tape, k.output.trans h.output, Nat.le_trans h.size k.size, fun b hb hn => (k.oth b (Nat.lt_of_lt_of_le hb h.size) hn).trans (h.oth b hb hn)⟩
theorem But.of_below (h : Below V.heap.size V W) : But lb V W := ⟨h.os, h.tape, h.output, h.size, fun b hb _ => h.block b hb⟩
theorem But.of_still (h : Still V W) : But lb V W := .of_below (h.below _)
theorem But.setCell (W : World) (lb o : Nat) (v : Value) : But lb W (W.setCell ⟨lb, o, none⟩ v) := by
  have hb := (Below.refl 0 W).setCell (p := ⟨lb, o, none⟩) (Nat.zero_le lb) v
  exact ⟨hb.os, hb.tape, hb.output, by simp, fun j _ hj => Below.heap_setCell _ _ _ _ hj⟩
theorem But.grown (h : Below U.heap.size U V) (N : Nat) (hN : U.heap.size ≤ N) (k : Below N V W) : But lb U W := .of_below (h.trans (k.mono hN))
theorem But.then (h : But lb U V) (k : Below U.heap.size V W) : But lb U W := ⟨k.os.trans h.os, k.tape.trans h.tape, k.output.trans h.output, Nat.le_trans h.size k.size, fun b hb hn => (k.block b hb).trans (h.oth b hb hn)⟩
theorem NaRow.own_ne {base : Nat} {v : Value} {l : List Nat} (h : NaRow V base v l) {b : Nat} {cs : Array Value} {t : TypeId} (hb : V.heap[b]? = some (.cells cs t (0, 0))) (ht : t ≠ 3) : v.ownBlock ≠ some b := fun e => by
  rcases h.2 with ⟨h1, _⟩ | ⟨g1, c1, cur, h1, hg1, hh, _⟩
  · rw [h1] at e; cases e
  · rw [h1] at e
    cases e
    rw [hb] at hh
    cases hh
    exact ht rfl
theorem But.isBy (h : But lb V W) {a : Option Addr} {l : List UInt8} {cap : Nat} (hb : IsBy V a l cap) {cs : Array Value} (hlb : V.heap[lb]? = some (.cells cs 92 (0, 0))) (ho : ∀ x : Addr, a = some x → x.block ≠ lb) : IsBy W a l cap := by
  refine ⟨hb.cap, ?_⟩
  rcases hb.lies with e | ⟨b, off, e, hlt, hc⟩
  · exact .inl e
  · refine .inr ⟨b, off, e, by have := h.size; omega, fun k hk => ?_⟩
    have := hc k hk
    unfold World.cell? at this ⊢
    simp only at this ⊢
    rw [h.oth b hlt (ho _ e)]
    exact this
end
theorem byts_take (l : List (Nat × Pc)) (k : Nat) (h : k < l.length) : byts (l.take (k + 1)) = byts (l.take k) ++ l[k].2.byt := by
  unfold byts
  rw [List.take_add_one, List.getElem?_eq_getElem h, List.flatMap_append]
  congr 1
  simp
theorem byts_le (l : List (Nat × Pc)) (h : ∀ p ∈ l, p.2.byt.length ≤ 60) : (byts l).length ≤ 60 * l.length := by
  induction l with
  | nil => simp [byts]
  | cons x l ih =>
    rw [byts_cons, List.length_append, List.length_cons]
    have h1 := h x (by simp)
    have h2 := ih (fun p hp => h p (by simp [hp]))
    omega
def slN : Value → Nat
  | .slice _ n _ => n
  | _ => 0
theorem add_block (x : Addr) (k : Nat) : (x.add k).block = x.block := by
  unfold Addr.add
  split <;> rfl
theorem slA_block {a : Option Addr} {cap k lb : Nat} (h : ∀ x, a = some x → x.block ≠ lb) {x : Addr} (e : slA a cap k = some x) : x.block ≠ lb := by
  unfold slA at e
  split at e
  · exact h x e
  · cases a with
    | none => cases e
    | some y =>
      simp only [Option.map_some, Option.some.injEq] at e
      rw [← e, add_block]
      exact h y rfl
theorem enc_len_ge (rs : List (List UInt8)) : rs.length ≤ (enc rs).length := by
  induction rs with
  | nil => simp
  | cons r rs ih =>
    rw [enc_cons, List.length_append, enc1_length, List.length_cons]
    omega
/-- While take counts. -/
def Tk (lb p fr mn : Nat) (s0 : Ls) (V W : World) (T : List UInt8) (rv : Value) : Prop := ∃ (rs1 : List (List UInt8)) (r : List UInt8) (a : Option Addr) (c : Nat), T = enc rs1 ++ r ∧ okL rs1 ∧ rv = .slice a r.length c ∧ IsBy W a r c ∧ (∀ x : Addr, a = some x → x.block ≠ lb) ∧ LgBox W lb p fr mn (.slice none 0 0) (.slice none 0 0) { s0 with cnt := rs1.length } ∧ But lb V W
/-- While take notes where pieces are. -/
def Tk3 (lb p fr mn : Nat) (V W : World) (tv : Value) (s : Ls) (tx : List UInt8) (zs : List Pm) (j : Nat) : Prop := ∃ wv, LgBox W lb p fr mn tv wv s ∧ NaRow W V.heap.size wv ((zs.take j).map (·.at_)) ∧ ByRow W V.heap.size tv tx ∧ But lb V W ∧ V.heap.size ≤ W.heap.size
theorem pm_under : Try.prog.underlying 83 = some (.slice (Try.prog.elem 83)) := by kernel_rfl
theorem pm_size : (sizeOf (Try.prog.elem 83)).run Try.prog = fun W => .ok 5 W := by kernel_rfl
/-- What a log is behind take. -/
structure Took (W w' : World) (lb p fr mn : Nat) (s0 : Ls) (zs : List Pm) (tv wv : Value) (rs : List (List UInt8)) : Prop where
  rc : rs = recs (byts (zs.map Pm.pair))
  box : LgBox w' lb p fr mn tv wv { s0 with cnt := rs.length, st := (enc rs).length / 60, sf := pcs (enc rs).length }
  tx : ByRow w' W.heap.size tv (enc rs)
  wh : NaRow w' W.heap.size wv ((zs.take (pcs (enc rs).length)).map (·.at_))
  but : But lb W w'
set_option maxHeartbeats 8000000 in
theorem take_any (v : Value) (zs : List Pm) (W : World) (lb p fr mn : Nat) (s0 : Ls) (hbx : LgBox W lb p fr mn (.slice none 0 0) (.slice none 0 0) s0) (hc0 : s0.cnt = 0) (h : IsPm W v zs) (hl : zs.length ≤ 200) (hs : ∀ x ∈ zs, x.q.byt.length ≤ 60) (hpc : pcs (enc (recs (byts (zs.map Pm.pair)))).length ≤ zs.length) (hcp : ∀ a k c, v = .slice a k c → k ≤ c) :
    Calls Try.prog 54 #[.pointer (some ⟨lb, 0, none⟩), v] W fun e w' => e = .returned (.tuple #[]) ∧ ∃ tv wv rs, Hid (Took W w' lb p fr mn s0 zs tv wv rs) := by
  have hal := alloc_pc
  have HI : Hid (IsPm W v zs) := h
  obtain ⟨av, capv, rfl, _⟩ := h.shape
  have HB : Hid (LgBox W lb p fr mn (.slice none 0 0) (.slice none 0 0) s0) := hbx
  have HCap : Hid (zs.length ≤ capv) := hcp _ _ _ rfl
  have Hs : Hid (∀ x ∈ zs, x.q.byt.length ≤ 60) := hs
  have hl' : (zs.length : Int) ≤ 200 := by omega
  have HPc : Hid (pcs (enc (recs (byts (zs.map Pm.pair)))).length ≤ zs.length) := hpc
  have HT : Hid ((byts (zs.map Pm.pair)).length ≤ 12000) := by
    have := byts_le (zs.map Pm.pair) (fun q hq => by
      obtain ⟨x, hx, rfl⟩ := List.mem_map.1 hq
      exact hs x hx)
    rw [List.length_map] at this
    unfold Hid
    omega
  clear h hbx hs hpc hcp
  go_enter Try.func54, Try.ntmps54
  go_wp2_with fail
  go_loopw [4, 15] (fun tv i wr => ∃ k : Nat, k ≤ zs.length ∧ i = .int .i64 k ∧ Hid (ByRow wr W.heap.size tv (byts ((zs.map Pm.pair).take k)) ∧ Below W.heap.size W wr)) (fun _ i _ => zs.length - (RowKit.intOf i).toNat)
  case atStart => exact ⟨0, Nat.zero_le _, rfl, ByRow.nil _ _, Below.refl _ _⟩
  case round =>
    obtain ⟨k, hk, rfl, H⟩ := hrel
    have k0 : (0 : Int) ≤ k := by omega
    obtain ⟨hrow, hbw⟩ := H.out
    by_cases hlt : k < zs.length
    · --@L1
      have k1 : (k : Int) < zs.length := by omega
      obtain ⟨a', cap', e, hh⟩ := (HI.out.below hbw).shape
      cases e
      rcases hh with hh | ⟨g, rfl, hg, hr⟩
      · subst hh; simp at hlt
      have hld := load_pm (zs[k]'hlt) (hr k hlt)
      have hst := storeP (zs[k]'hlt)
      have hx6 := Hs.out _ (List.getElem_mem hlt)
      have hok := (HI.out.below hbw).ok _ (List.getElem_mem hlt)
      have HBt : Hid (byts ((zs.map Pm.pair).take (k + 1)) = byts ((zs.map Pm.pair).take k) ++ (zs[k]'hlt).q.byt) := by
        unfold Hid
        rw [byts_take _ _ (by simpa using hlt)]
        simp [Pm.pair]
      have hlen : (byts ((zs.map Pm.pair).take k)).length ≤ 12000 := by
        have := byts_le ((zs.map Pm.pair).take k) (fun q hq => by
          obtain ⟨x, hx, rfl⟩ := List.mem_map.1 (List.mem_of_mem_take hq)
          exact Hs.out x hx)
        rw [List.length_take, List.length_map] at this
        omega
      generalize zs[k]'hlt = x at *
      generalize byts ((zs.map Pm.pair).take k) = tx at *
      obtain ⟨w2, hw2⟩ : ∃ w2, wr.alloc (.cells x.cells.toArray 106) = w2 := ⟨_, rfl⟩
      have hn2 : w2.heap[wr.heap.size]? = some (.cells x.cells.toArray 106 (0, 0)) := by rw [← hw2]; exact new_heap wr _
      have hb2 : Below wr.heap.size wr w2 := by rw [← hw2]; exact (Below.refl _ wr).alloc (Nat.le_refl _) _
      have c4 : w2.cell? ⟨wr.heap.size, 4, none⟩ = some (.slice x.a x.q.byt.length x.cap) := by rw [cell_of_row _ _ _ _ _ (0, 0) hn2]; rfl
      have hok2 := Pm.ok_below hok hb2
      obtain ⟨xa, xc, exx, hxc, hxb⟩ := hok2.1.isBy
      cases exx
      have hbW2 : Below W.heap.size W w2 := hbw.trans (hb2.mono hbw.size)
      have HA : Hid (ByRow w2 W.heap.size u4 tx ∧ IsBy w2 x.a x.q.byt x.cap ∧ (x.cap = 0 ∨ x.a ≠ none) ∧ W.heap.size ≤ w2.heap.size ∧ tx.length + x.q.byt.length ≤ 1000000) := ⟨hrow.below hb2, hxb, hxc, hbW2.size, by omega⟩
      have HB2 : Hid (Below W.heap.size W w2) := hbW2
      clear H hrow hbw hr hok hok2 hxb hxc hb2 hbW2 hn2
      go_upto_region 5 with (first | (refine wpList_load_run rfl 106 _ rfl _ (by rfl) hld ?_) | (refine wpList_alloc_run rfl 106 rfl (hal _) ?_) | (refine wpList_store_run rfl 106 _ _ rfl _ _ (by rfl) (by rfl) (hst _) ?_) | (at_builtin; (try rw [hw2]); go_loud (refine wpList_appB rfl (.tmp 19) (.tmp 21) rfl W.heap.size u4 tx x.a x.q.byt x.q.byt.length x.cap (by rfl) (by rfl) rfl HA.out.1 HA.out.2.1 HA.out.2.2.1 HA.out.2.2.2.1 HA.out.2.2.2.2 ?_); intro v5 w5 hr5 hb5 _ _))
      have HN : Hid (ByRow w5 W.heap.size v5 (byts ((zs.map Pm.pair).take (k + 1))) ∧ Below W.heap.size W w5) := by
        rw [HBt.out]
        exact ⟨hr5, HB2.out.trans hb5⟩
      clear hr5 hb5 HA HB2 HBt hw2
      go_wp2_with fail
      go_roundw
      case rel => exact ⟨k + 1, by omega, by go_num, HN⟩
      case measure => simp [RowKit.intOf]; omega
      --@END
    · --@L2
      have ek : k = zs.length := by omega
      have k1 : ¬ (k : Int) < zs.length := by omega
      rw [List.take_of_length_le (by simp; omega)] at hrow
      obtain ⟨ta, tc, rfl, htb⟩ := hrow.isBy
      obtain ⟨T, hT⟩ : ∃ T, byts (zs.map Pm.pair) = T := ⟨_, rfl⟩
      have HT2 : Hid (byts (zs.map Pm.pair) = T) := hT
      rw [hT] at hrow htb HT HPc
      simp only [hT]
      have hlbs : lb < W.heap.size := HB.out.lt
      have hbx1 : LgBox wr lb p fr mn (.slice none 0 0) (.slice none 0 0) { s0 with cnt := 0 } := by
        unfold LgBox
        rw [hbw.block lb hlbs, show ({ s0 with cnt := 0 } : Ls) = s0 by rw [← hc0]]
        exact HB.out
      have hta : ta = none ∨ ∃ g, ta = some ⟨g, 0, none⟩ ∧ g ≠ lb := by
        rcases hrow.2 with ⟨hv, _⟩ | ⟨g, c, cur, hv, hgb, hg, _⟩
        · simp only [Value.slice.injEq] at hv
          exact .inl hv.1
        · simp only [Value.slice.injEq] at hv
          exact .inr ⟨g, hv.1, by omega⟩
      have HRow : Hid (ByRow wr W.heap.size (.slice ta T.length tc) T) := hrow
      have HTa : Hid ((ta = none ∨ ∃ g, ta = some ⟨g, 0, none⟩ ∧ g ≠ lb) ∧ lb < W.heap.size ∧ Below W.heap.size W wr) := ⟨hta, hlbs, hbw⟩
      have H0 : Hid (Tk lb p fr mn s0 wr wr T (.slice ta T.length tc)) := ⟨[], T, ta, tc, rfl, okL_nil, rfl, htb, (fun x e => by
        rcases hta with h | ⟨g, h, hg⟩
        · rw [h] at e; cases e
        · rw [h] at e; cases e; exact hg), hbx1, But.refl _ _⟩
      have htl : (T.length : Int) ≤ 12000 := by have := HT.out; omega
      clear H hrow hbw htb hbx1 hta hT
      go_wp2_with fail
      go_loopw [7] (fun rv wq => Hid (Tk lb p fr mn s0 wr wq T rv)) (fun rv _ => slN rv)
      case atStart => exact H0
      case round =>
        rename World => wq
        clear H0
        rename Hid (Tk lb p fr mn s0 wr wq T u7) => HQ
        obtain ⟨rs1, r, a, c, eT, hok1, rfl, hrb, hne, hbq, hbut⟩ := HQ.out
        have hTl : T.length = (enc rs1).length + r.length := by rw [eT, List.length_append]
        have hrl : r.length ≤ 12000 := by have := HT.out; omega
        cases hcut : cutL r with
        | some ry =>
          obtain ⟨r1, y⟩ := ry
          obtain ⟨hr1, er⟩ := cutL_some hcut
          have HC : Hid (Calls _ _ _ wq _) := cut_some a r r1 y c wq hrb (by omega) hcut
          have hcell : wq.cell? ⟨lb, 4, none⟩ = some (.int .i64 (rs1.length : Int)) := by rw [hbq.at]; rfl
          have hcnt : rs1.length ≤ 12000 := by
            have := enc_len_ge rs1
            have := HT.out
            omega
          have hry : r.length = r1.length + 2 + y.length := by rw [er, List.length_append, enc1_length]
          have HN : Hid (∀ w2, Still wq w2 → w2.cell? ⟨lb, 4, none⟩ = some (.int .i64 (rs1.length : Int)) ∧ w2.frozen? ⟨lb, 4, none⟩ = false ∧ Tk lb p fr mn s0 wr (w2.setCell ⟨lb, 4, none⟩ (.int .i64 ((rs1.length : Int) + 1))) T (.slice (slA a c (2 + r1.length)) y.length (c - (2 + r1.length)))) := fun w2 hs2 => by
            have hb2 := hs2.below wq.heap.size
            have hbx2 : LgBox w2 lb p fr mn (.slice none 0 0) (.slice none 0 0) { s0 with cnt := rs1.length } := by
              unfold LgBox; rw [hs2.heap]; exact hbq
            refine ⟨by rw [hbx2.at]; rfl, hbx2.fz 4, rs1 ++ [r1], y, _, _, ?_, okL_append hok1 (fun z hz => by rw [List.mem_singleton.1 hz]; exact hr1), rfl, ?_, ?_, ?_, ?_⟩
            · rw [eT, er, enc_append, enc_one, List.append_assoc]
            · have hd := isBy_drop hrb (2 + r1.length) (by omega)
              rw [show r.drop (2 + r1.length) = y by
                rw [er, show 2 + r1.length = (enc1 r1).length by rw [enc1_length]; omega, List.drop_left]] at hd
              have hbu : But lb wq (w2.setCell ⟨lb, 4, none⟩ (.int .i64 ((rs1.length : Int) + 1))) := (But.of_still hs2).trans (But.setCell _ _ _ _)
              exact hbu.isBy hd hbq (fun x e => slA_block hne e)
            · exact fun x e => slA_block hne e
            · refine hbx2.set 4 _ ?_
              simp [lgC]
            · exact hbut.trans ((But.of_still hs2).trans (But.setCell _ _ _ _))
          have c0 : (0 : Int) ≤ rs1.length := by omega
          have c1 : (rs1.length : Int) ≤ 12000 := by omega
          have HM : Hid (y.length < r.length) := by unfold Hid; omega
          clear HQ hrb hne hbq hbut hcut er eT hTl hcell hok1 hry hcnt hrl hr1
          go_wp2_with fail
          refine HC.out.mono ?_
          rintro e w2 ⟨rfl, hs2⟩
          obtain ⟨d4, f4, htk⟩ := HN.out w2 hs2
          have HTk : Hid (Tk lb p fr mn s0 wr (w2.setCell ⟨lb, 4, none⟩ (.int .i64 ((rs1.length : Int) + 1))) T (.slice (slA a c (2 + r1.length)) y.length (c - (2 + r1.length)))) := htk
          clear HC HN hs2 htk
          go_wp2_with fail
          go_roundw
          case rel => exact HTk
          case measure => simp [slN]; exact HM.out
        | none =>
          have HC : Hid (Calls _ _ _ wq _) := cut_none a r c wq hrb (by omega) hcut
          have hrs : recs T = rs1 := by
            rw [eT, recs_enc _ _ hok1, recs_none hcut, List.append_nil]
          have htk : T.take (enc rs1).length = enc rs1 := by rw [eT, List.take_left]
          obtain ⟨m, hm⟩ : ∃ m, (enc rs1).length = m := ⟨_, rfl⟩
          have HSl : Hid (∀ U, (Instr.slice 52 (.slice ta T.length tc) none (some (.int .i64 ((T.length : Int) - (r.length : Int)))) none).run Try.prog U = .ok (.slice ta m tc) U) := fun U => by
            have hcap := (HRow.out.isBy').cap
            have := run_byH ta T.length tc m (by omega) U
            rw [show ((m : Nat) : Int) = (T.length : Int) - (r.length : Int) by omega] at this
            rcases HTa.out.1 with h | ⟨g, h, _⟩
            · rw [h] at this ⊢; rw [slA_none] at this; exact this
            · rw [h] at this ⊢; rw [slA_zero] at this; exact this
          have hbyq : ByRow wq W.heap.size (.slice ta m tc) (enc rs1) := by
            have h1 : ByRow wq W.heap.size (.slice ta T.length tc) T := ownsRow_keep HRow.out (fun b cs e _ => hbut.oth b (Array.getElem?_eq_some_iff.1 e).1 (fun e2 => by
              have hh := HB.out
              unfold LgBox at hh
              rw [← HTa.out.2.2.block lb HTa.out.2.1, ← e2, e] at hh
              cases hh))
            have h2 := h1.take m (by omega)
            rw [← hm, htk] at h2
            rw [← hm]
            exact h2
          have hm12 : m ≤ 12000 := by have := HT.out; omega
          have HK : Hid (recs T = rs1 ∧ pcs m ≤ zs.length ∧ ByRow wq W.heap.size (.slice ta m tc) (enc rs1) ∧ LgBox wq lb p fr mn (.slice none 0 0) (.slice none 0 0) { s0 with cnt := rs1.length } ∧ But lb wr wq ∧ (enc rs1).length = m) := ⟨hrs, by have := HPc.out; rw [hrs, hm] at this; exact this, hbyq, hbq, hbut, hm⟩
          have hrT : (r.length : Int) ≤ T.length := by omega
          have HF : Hid (∀ w2, Still wq w2 → LgBox w2 lb p fr mn (.slice none 0 0) (.slice none 0 0) { s0 with cnt := rs1.length }) := fun w2 hs2 => by
            unfold LgBox; rw [hs2.heap]; exact hbq
          clear HQ hrb hne hbq hbut hcut eT hTl hrs htk hm hbyq hok1
          go_wp2_with fail
          refine HC.out.mono ?_
          rintro e w2 ⟨rfl, hs2⟩
          have hbx2 := HF.out w2 hs2
          have d3 : w2.cell? ⟨lb, 3, none⟩ = some (.slice none 0 0) := by rw [hbx2.at]; rfl
          have f3 := hbx2.fz 3
          have hsl := HSl.out
          have hbx3 : LgBox (w2.setCell ⟨lb, 3, none⟩ (.slice ta m tc)) lb p fr mn (.slice ta m tc) (.slice none 0 0) { s0 with cnt := rs1.length } := hbx2.set 3 _ rfl
          obtain ⟨w3, hw3⟩ : ∃ w3, w2.setCell ⟨lb, 3, none⟩ (.slice ta m tc) = w3 := ⟨_, rfl⟩
          rw [hw3] at hbx3
          have e3 : w3.cell? ⟨lb, 3, none⟩ = some (.slice ta m tc) := by rw [hbx3.at]; rfl
          have e6 : w3.cell? ⟨lb, 6, none⟩ = some (.int .i64 (s0.st : Int)) := by rw [hbx3.at]; rfl
          have f6 := hbx3.fz 6
          have m0 : (0 : Int) ≤ m := by omega
          have m1 : (m : Int) ≤ 12000 := by omega
          have HB3 : Hid (LgBox w3 lb p fr mn (.slice ta m tc) (.slice none 0 0) { s0 with cnt := rs1.length } ∧ But lb wq w3) := ⟨hbx3, by rw [← hw3]; exact (But.of_still hs2).trans (But.setCell _ _ _ _)⟩
          clear HC HF HSl hbx2 hbx3 hs2
          go_upto_region 13 with fail
          obtain ⟨w4, hw4⟩ : ∃ w4, w3.setCell ⟨lb, 6, none⟩ (.int .i64 ((m : Int) / 60)) = w4 := ⟨_, rfl⟩
          have hbx4 : LgBox w4 lb p fr mn (.slice ta m tc) (.slice none 0 0) { s0 with cnt := rs1.length, st := m / 60 } := by
            rw [← hw4]
            refine HB3.out.1.set 6 _ ?_
            rw [show (m : Int) / 60 = ((m / 60 : Nat) : Int) by omega]
            rfl
          have hbu4 : But lb wr w4 := HK.out.2.2.2.2.1.trans (HB3.out.2.trans (by rw [← hw4]; exact But.setCell _ _ _ _))
          rw [hw4]
          have g3 : w4.cell? ⟨lb, 3, none⟩ = some (.slice ta m tc) := by rw [hbx4.at]; rfl
          have HPs : Hid (Calls _ _ _ w4 _) := pieces_any ta m tc w4 (by omega)
          obtain ⟨K, hK⟩ : ∃ K, pcs m = K := ⟨_, rfl⟩
          rw [hK] at HPs
          have hKz : K ≤ zs.length := by rw [← hK]; exact HK.out.2.1
          obtain ⟨av2, hav2⟩ : ∃ av2, (if capv = 0 then av else av.map (·.add (0 * 5))) = av2 := ⟨_, rfl⟩
          have hcapv : zs.length ≤ capv := HCap.out
          have hps : ∀ U, (Instr.slice 83 (.slice av zs.length capv) none (some (.int .i64 (K : Int))) none).run Try.prog U = .ok (.slice av2 K capv) U := fun U => by
            rw [run_slice_h U 83 av zs.length capv pm_under .i64 K (by omega) (by omega), pm_size]
            simp [Result.andThen, sliced, ← hav2]
          have HAv : Hid (∀ g, av = some ⟨g, 0, none⟩ → av2 = some ⟨g, 0, none⟩) := fun g e => by
            rw [← hav2, e]
            split
            · rfl
            · simp [Addr.add_mid]
          have hbyw4 : ByRow w4 W.heap.size (.slice ta m tc) (enc rs1) := ownsRow_keep HK.out.2.2.1 (fun b cs e _ => by
            have hb1 : But lb wq w4 := HB3.out.2.trans (by rw [← hw4]; exact But.setCell _ _ _ _)
            refine hb1.oth b (Array.getElem?_eq_some_iff.1 e).1 (fun e2 => ?_)
            have hh := HK.out.2.2.2.1
            unfold LgBox at hh
            rw [← e2, e] at hh
            cases hh)
          have hbW4 : But lb W w4 := (But.of_below HTa.out.2.2).trans hbu4
          have H4 : Hid (Tk3 lb p fr mn W w4 (.slice ta m tc) { s0 with cnt := rs1.length, st := m / 60 } (enc rs1) zs 0) := ⟨_, hbx4, NaRow.nil _ _, hbyw4, hbW4, by have := hbW4.size; omega⟩
          have HKm : Hid (K = pcs m ∧ (enc rs1).length = m ∧ recs T = rs1) := ⟨hK.symm, HK.out.2.2.2.2.2, HK.out.1⟩
          have K0 : (0 : Int) ≤ K := by omega
          have K1 : (K : Int) ≤ 200 := by omega
          clear hw3 hw4 hbx4 hbu4 hav2 hK hbyw4 hbW4 HB3 HK d3 f3 hsl e3 e6 f6
          go_wp2_with fail
          refine HPs.out.mono ?_
          rintro e w5 ⟨rfl, hw5⟩
          subst hw5
          clear HPs g3
          go_wp2_with fail
          go_loopw [68] (fun t wp => ∃ j : Nat, j ≤ K ∧ t = .int .i64 j ∧ Hid (Tk3 lb p fr mn W wp (.slice ta m tc) { s0 with cnt := rs1.length, st := m / 60 } (enc rs1) zs j)) (fun t _ => K - (RowKit.intOf t).toNat)
          case atStart => exact ⟨0, Nat.zero_le _, rfl, H4⟩
          case round =>
            rename World => wp
            clear H4
            obtain ⟨j, hj, rfl, HP⟩ := hrel
            have j0 : (0 : Int) ≤ j := by omega
            obtain ⟨wv, hbp, hnr, hby, hbt, hsz⟩ := HP.out
            by_cases hjK : j < K
            · have j1 : (j : Int) < K := by omega
              have hjz : j < zs.length := by omega
              obtain ⟨g, eg, hgl, hrg⟩ : ∃ g, av = some ⟨g, 0, none⟩ ∧ g < W.heap.size ∧ W.rangeAt g (j * 5) (zs[j]'hjz).cells := by
                obtain ⟨a', cap', e, hh⟩ := HI.out.shape
                cases e
                rcases hh with hh | ⟨g, e1, hg, hr⟩
                · subst hh; simp at hjz
                · exact ⟨g, e1, hg, hr j hjz⟩
              have hgne : g ≠ lb := fun e => by
                obtain ⟨a', cap', e', hh⟩ := HI.out.shape
                cases e'
                rcases hh with hh | ⟨g', e1, hg, hr⟩
                · subst hh; simp at hjz
                · rw [eg] at e1
                  cases e1
                  have h0 := hr 0 (by omega) 0 (.int .i64 ((zs[0]'(by omega)).at_ : Int)) rfl
                  rw [e] at h0
                  have h1 := HB.out.at 0
                  rw [Nat.zero_mul, Nat.zero_add] at h0
                  rw [h0] at h1
                  cases h1
              have hrp : wp.rangeAt g (j * 5) (zs[j]'hjz).cells := fun i u hu => by
                have := hrg i u hu
                unfold World.cell? at this ⊢
                simp only at this ⊢
                rw [hbt.oth g hgl hgne]
                exact this
              have eav := HAv.out g eg
              subst eg
              subst eav
              have hld := load_pm (zs[j]'hjz) hrp
              have hst := storeP (zs[j]'hjz)
              have HAt : Hid ((zs.take (j + 1)).map (·.at_) = (zs.take j).map (·.at_) ++ [(zs[j]'hjz).at_]) := by
                unfold Hid
                rw [List.take_add_one, List.getElem?_eq_getElem hjz, List.map_append]
                rfl
              generalize zs[j]'hjz = x at *
              obtain ⟨w6, hw6⟩ : ∃ w6, wp.alloc (.cells x.cells.toArray 106) = w6 := ⟨_, rfl⟩
              obtain ⟨PB, hPB⟩ : ∃ PB, wp.heap.size = PB := ⟨_, rfl⟩
              have hn6 : w6.heap[PB]? = some (.cells x.cells.toArray 106 (0, 0)) := by rw [← hw6, ← hPB]; exact new_heap wp _
              have hb6 : Below wp.heap.size wp w6 := by rw [← hw6]; exact (Below.refl _ wp).alloc (Nat.le_refl _) _
              have hlb : lb < wp.heap.size := hbp.lt
              have HR6 : Hid (∀ U, Below w6.heap.size w6 U → LgBox U lb p fr mn (.slice ta m tc) wv { s0 with cnt := rs1.length, st := m / 60 } ∧ NaRow U W.heap.size wv ((zs.take j).map (·.at_)) ∧ ByRow U W.heap.size (.slice ta m tc) (enc rs1) ∧ But lb W U ∧ U.cell? ⟨PB, 0, none⟩ = some (.int .i64 (x.at_ : Int)) ∧ W.heap.size ≤ U.heap.size) := fun U hU => by
                have hpU : Below wp.heap.size wp U := hb6.trans (hU.mono hb6.size)
                have hnU := (hU.block _ (Array.getElem?_eq_some_iff.1 hn6).1).trans hn6
                refine ⟨(hpU.block lb hlb).trans hbp, ownsRow_keep hnr (fun b cs e _ => hpU.block b (Array.getElem?_eq_some_iff.1 e).1), hby.below hpU, hbt.trans (But.of_below hpU), ?_, by have := hpU.size; omega⟩
                rw [cell_of_row _ _ _ _ _ (0, 0) hnU]; rfl
              have hwl : ((zs.take j).map (·.at_)).length ≤ 200 := by rw [List.length_map, List.length_take]; omega
              obtain ⟨wa, wc7, hwv⟩ := hnr.shape
              obtain ⟨wl, hwl2⟩ : ∃ wl, ((zs.take j).map (·.at_)).length = wl := ⟨_, rfl⟩
              rw [hwl2] at hwv
              subst hwv
              clear HP hbp hnr hby hbt hrg hrp hn6 hb6 hwl2
              go_upto_region 16 with (first | (refine wpList_load_run rfl 106 _ rfl _ (by rfl) hld ?_) | (refine wpList_alloc_run rfl 106 rfl (hal _) ?_) | (refine wpList_store_run rfl 106 _ _ rfl _ _ (by rfl) (by rfl) (hst _) ?_))
              try simp only [Act.put, List.getElem_toArray, List.getElem_cons_succ, List.getElem_cons_zero, List.setIfInBounds_toArray, List.set_cons_zero, List.set_cons_succ]
              try rw [hPB]
              try rw [hw6]
              clear hPB hw6 hld hst
              refine wp_region_drawn (by kernel_rfl) ?_
              have HT0 : Hid (Below w6.heap.size w6 w6.drew) := ⟨rfl, rfl, rfl, Nat.le_refl _, fun _ _ => rfl⟩
              generalize w6.drew = v2 at *
              refine wpAny_take (i := 0) (v := .pointer (some ⟨lb, 0, none⟩)) rfl (by kernel_rfl) (by kernel_rfl) (by kernel_rfl) (fun _ _ _ h => h) (Or.inl ⟨by rfl, fun w => by go_simp⟩) ?_
              simp only [Act.put, List.getElem_toArray, List.getElem_cons_succ, List.getElem_cons_zero, List.setIfInBounds_toArray, List.set_cons_zero, List.set_cons_succ]
              refine wpAny_take (i := 1) (v := .pointer (some ⟨lb, 0, none⟩)) rfl (by kernel_rfl) (by kernel_rfl) (by kernel_rfl) (fun _ _ _ h => h) (Or.inl ⟨by rfl, fun w => by go_simp⟩) ?_
              simp only [Act.put, List.getElem_toArray, List.getElem_cons_succ, List.getElem_cons_zero, List.setIfInBounds_toArray, List.set_cons_zero, List.set_cons_succ]
              refine wpAny_take (i := 2) (v := .pointer (some ⟨lb, 0, none⟩)) rfl (by kernel_rfl) (by kernel_rfl) (by kernel_rfl) (fun _ _ _ h => h) (Or.inl ⟨by rfl, fun w => by go_simp⟩) ?_
              simp only [Act.put, List.getElem_toArray, List.getElem_cons_succ, List.getElem_cons_zero, List.setIfInBounds_toArray, List.set_cons_zero, List.set_cons_succ]
              refine wpAny_take (i := 3) (v := .pointer (some ⟨lb, 7, none⟩)) rfl (by kernel_rfl) (by kernel_rfl) (by kernel_rfl) (fun _ _ _ h => h) (Or.inl ⟨by rfl, fun w => by go_simp⟩) ?_
              simp only [Act.put, List.getElem_toArray, List.getElem_cons_succ, List.getElem_cons_zero, List.setIfInBounds_toArray, List.set_cons_zero, List.set_cons_succ]
              refine wpAny_take (i := 5) (v := .pointer (some ⟨PB, 0, none⟩)) rfl (by kernel_rfl) (by kernel_rfl) (by kernel_rfl) (fun _ _ _ h => h) (Or.inl ⟨by rfl, fun w => by go_simp⟩) ?_
              simp only [Act.put, List.getElem_toArray, List.getElem_cons_succ, List.getElem_cons_zero, List.setIfInBounds_toArray, List.set_cons_zero, List.set_cons_succ]
              refine any_of_L (g := 8) (T := fun u => Below w6.heap.size w6 u) _ _ _ _ ?_
              refine L_take (i := 4) (v := .slice wa wl wc7) rfl rfl (by kernel_rfl) (by decide) (by kernel_rfl) (by kernel_rfl) (by kernel_rfl) (by kernel_rfl) (fun _ _ _ h => h) (Or.inl ⟨by rfl, fun w' hw' => by have c0 : w'.cell? ⟨lb, 7, none⟩ = some (.slice wa wl wc7) := (by rw [(HR6.out w' hw').1.at]; rfl); clear hw'; go_simp⟩) HT0.out ?_
              simp only [Act.put, List.getElem_toArray, List.getElem_cons_succ, List.getElem_cons_zero, List.setIfInBounds_toArray, List.set_cons_zero, List.set_cons_succ]
              refine L_take2 (i := 6) (m := 7) (v := .int .i64 (x.at_ : Int)) rfl rfl rfl (by kernel_rfl) (by kernel_rfl) (by decide) (by kernel_rfl) (by kernel_rfl) (by kernel_rfl) (by kernel_rfl) (by kernel_rfl) (fun _ _ _ h => h) (Or.inl ⟨by rfl, fun w' hw' => by have c0 := (HR6.out w' hw').2.2.2.2.1; clear hw'; go_simp⟩) HT0.out ?_
              simp only [Act.put, List.getElem_toArray, List.getElem_cons_succ, List.getElem_cons_zero, List.setIfInBounds_toArray, List.set_cons_zero, List.set_cons_succ]
              refine L_one (i := 7) (by kernel_rfl) ?_
              refine wpOp_step rfl ?_
              intro K hK
              rw [if_pos (by rfl)]
              have hK' : Shut (∀ a w, _ → K a w) := hK
              clear hK
              go_wp2_with fail
              obtain ⟨v3, hv3⟩ : ∃ v3, v2.alloc (.cells #[.int .i64 (x.at_ : Int)] 3) = v3 := ⟨_, rfl⟩
              have hb23 : Below v2.heap.size v2 v3 := by rw [← hv3]; exact (Below.refl _ v2).alloc (Nat.le_refl _) _
              have H3 : Hid (Below w6.heap.size w6 v3) := HT0.out.trans (hb23.mono HT0.out.size)
              have hr3 : v3.heap[v2.heap.size]? = some (.cells #[.int .i64 (x.at_ : Int)] 3 (0, 0)) := by rw [← hv3]; exact new_heap v2 _
              obtain ⟨hbx3, hnr3, hby3, hbt3, _, hsz3⟩ := HR6.out v3 H3.out
              rw [hv3]
              refine hK'.out _ _ ⟨H3.out, ?_⟩
              clear hK' K hv3 hb23 HR6
              rename_i K
              try simp only [Act.put, List.getElem_toArray, List.getElem_cons_succ, List.getElem_cons_zero, List.setIfInBounds_toArray, List.set_cons_zero, List.set_cons_succ]
              refine L_go (by kernel_rfl) (by kernel_rfl) ?_
              obtain ⟨v8, w8, h1, h2, h3, h4, _⟩ := run_appN v3 37 W.heap.size (.slice wa wl wc7) ((zs.take j).map (·.at_)) x.at_ v2.heap.size hnr3 hr3 hsz3 (by omega)
              obtain ⟨a8, c8, hv8⟩ := h2.shape
              obtain ⟨l8, hl8⟩ : ∃ l8, ((zs.take j).map (·.at_) ++ [x.at_]).length = l8 := ⟨_, rfl⟩
              rw [hl8] at hv8
              subst hv8
              clear hl8
              have hbx8 : LgBox w8 lb p fr mn (.slice ta m tc) (.slice wa wl wc7) { s0 with cnt := rs1.length, st := m / 60 } := (h4 lb hbx3.lt (hnr3.own_ne hbx3 (by decide))).trans hbx3
              have hby8 : ByRow w8 W.heap.size (.slice ta m tc) (enc rs1) := ownsRow_keep hby3 (fun b cs e _ => h4 b (Array.getElem?_eq_some_iff.1 e).1 (hnr3.own_ne e (by decide)))
              have hbt8 : But lb W w8 := hbt3.then h3
              have e7 : w8.cell? ⟨lb, 7, none⟩ = some (.slice wa wl wc7) := by rw [hbx8.at]; rfl
              have f7 := hbx8.fz 7
              have HN : Hid (Tk3 lb p fr mn W (w8.setCell ⟨lb, 7, none⟩ (.slice a8 l8 c8)) (.slice ta m tc) { s0 with cnt := rs1.length, st := m / 60 } (enc rs1) zs (j + 1)) := by
                refine ⟨.slice a8 l8 c8, hbx8.set 7 _ rfl, ?_, ?_, hbt8.trans (But.setCell _ _ _ _), ?_⟩
                · rw [HAt.out]
                  refine ownsRow_keep h2 (fun b cs e _ => Below.heap_setCell _ _ _ _ (fun e2 => ?_))
                  simp only at e2
                  have hh := hbx8
                  unfold LgBox at hh
                  rw [← e2, e] at hh
                  cases hh
                · refine ownsRow_keep hby8 (fun b cs e _ => Below.heap_setCell _ _ _ _ (fun e2 => ?_))
                  simp only at e2
                  have hh := hbx8
                  unfold LgBox at hh
                  rw [← e2, e] at hh
                  cases hh
                · have := hbt8.size
                  simp
                  omega
              clear hbx3 hnr3 hby3 hbt3 hbx8 hby8 hbt8 h2 h3 h4 HT0 H3 hr3 HAt hsz3
              refine wpOp_step rfl ?_
              intro K hK
              rw [if_pos (by rfl)]
              have hK' : Shut (∀ a w, _ → K a w) := hK
              clear hK
              refine wp_append_run (.tmp 76) (.tmp 79) 37 37 (by rfl) (.slice wa wl wc7) (.slice (some ⟨v2.heap.size, 0, none⟩) 1 1) (by rfl) (by rfl) h1 ?_
              refine hK'.out _ _ ?_
              clear hK' K
              clear h1
              try simp only [Act.put, List.getElem_toArray, List.getElem_cons_succ, List.getElem_cons_zero, List.setIfInBounds_toArray, List.set_cons_zero, List.set_cons_succ]
              refine wpAny_take (i := 9) (v := .pointer (some ⟨lb, 0, none⟩)) rfl (by kernel_rfl) (by kernel_rfl) (by kernel_rfl) (fun _ _ _ h => h) (Or.inl ⟨by rfl, fun w => by go_simp⟩) ?_
              simp only [Act.put, List.getElem_toArray, List.getElem_cons_succ, List.getElem_cons_zero, List.setIfInBounds_toArray, List.set_cons_zero, List.set_cons_succ]
              refine wpAny_take (i := 10) (v := .pointer (some ⟨lb, 7, none⟩)) rfl (by kernel_rfl) (by kernel_rfl) (by kernel_rfl) (fun _ _ _ h => h) (Or.inl ⟨by rfl, fun w => by go_simp⟩) ?_
              simp only [Act.put, List.getElem_toArray, List.getElem_cons_succ, List.getElem_cons_zero, List.setIfInBounds_toArray, List.set_cons_zero, List.set_cons_succ]
              refine any_one (i := 11) (by kernel_rfl) ?_
              refine wpOp_step rfl ?_
              intro K hK
              rw [if_pos (by rfl)]
              have hK' : Shut (∀ a w, _ → K a w) := hK
              clear hK
              go_wp2_with fail
              refine hK'.out _ _ ?_
              clear hK' K
              refine wpAny_done (by kernel_rfl) ?_ _
              go_wp2_with fail
              go_roundw
              case rel => exact ⟨j + 1, by omega, by go_num, HN⟩
              case measure => simp [RowKit.intOf]; omega
            · have ejK : j = K := by omega
              have j1 : ¬ (j : Int) < K := by omega
              have e7 : wp.cell? ⟨lb, 7, none⟩ = some wv := by rw [hbp.at]; rfl
              have e8 : wp.cell? ⟨lb, 8, none⟩ = some (.int .i64 (s0.sf : Int)) := by rw [hbp.at]; rfl
              have f8 := hbp.fz 8
              obtain ⟨wa, wc7, hwv⟩ := hnr.shape
              have hwl : ((zs.take j).map (·.at_)).length = K := by rw [List.length_map, List.length_take]; omega
              rw [hwl] at hwv
              have HE : Hid (Took W (wp.setCell ⟨lb, 8, none⟩ (.int .i64 (K : Int))) lb p fr mn s0 zs (.slice ta m tc) wv rs1) := by
                obtain ⟨k1', k2', k3'⟩ := HKm.out
                refine ⟨by rw [HT2.out, k3'], ?_, ?_, ?_, hbt.trans (But.setCell _ _ _ _)⟩
                · refine hbp.set 8 _ ?_
                  rw [k2', k1']
                  rfl
                · refine ownsRow_keep hby (fun b cs e _ => Below.heap_setCell _ _ _ _ (fun e2 => ?_))
                  simp only at e2
                  have hh := hbp
                  unfold LgBox at hh
                  rw [← e2, e] at hh
                  cases hh
                · rw [k2', ← k1', ← ejK]
                  refine ownsRow_keep hnr (fun b cs e _ => Below.heap_setCell _ _ _ _ (fun e2 => ?_))
                  simp only at e2
                  have hh := hbp
                  unfold LgBox at hh
                  rw [← e2, e] at hh
                  cases hh
              rw [hwv] at e7
              clear HP hbp hnr hby hbt hwl
              go_wp2
              go_end0
              exact ⟨rfl, _, wv, rs1, HE⟩
      --@END
end Go.Proofs.Ytijjegkkeigeoaa

namespace Go.Proofs.Ytijjegkkeigeoaa
set_option linter.unusedVariables false
set_option linter.unusedSimpArgs false
set_option maxRecDepth 100000
open Go.RowKit Go.Lib
theorem PmRow.cap {W : World} {base : Nat} {v : Value} {xs : List Pm} (h : PmRow W base v xs) : ∀ a k c, v = .slice a k c → k ≤ c := fun a k c e => by
  rcases h.row.2 with ⟨h1, _⟩ | ⟨g1, c1, cur, h1, _, _, hc, _⟩
  · rw [h1] at e; cases e; exact Nat.le_refl _
  · rw [h1] at e; cases e; exact hc
theorem build_log (p fr mn : Nat) (w : World) : (Instr.build 92 #[(0, .agg #[.pointer (some ⟨p, 0, none⟩), .int .i64 (fr : Int), .int .i64 (mn : Int)]), (3, .int .i64 1), (7, .int .i64 0)]).run Try.prog w = .ok (.agg (lgC p fr mn (.slice none 0 0) (.slice none 0 0) ⟨0, 1, 0, 0, 0, false, false, false⟩).toArray) w := by
  refine run_build w 92 _ _ ?_
  kernel_rfl
theorem chain_lenle (b : Nat → Option (Nat × Pc)) : ∀ (f n : Nat), (chainF b f n).length ≤ f
  | 0, _ => Nat.le_refl _
  | f + 1, n => by
    rw [chainF_succ]
    cases b n with
    | none => simp
    | some p =>
      simp only [Option.elim_some, List.length_cons]
      split
      · simp
      · have := chain_lenle b f (n + 1)
        omega
theorem But.toBelow {lb N : Nat} {V W : World} (h : But lb V W) (h1 : N ≤ lb) (h2 : N ≤ V.heap.size) : Below N V W := ⟨h.os, h.tape, h.output, h.size, fun b hb => h.oth b (by omega) (by omega)⟩
theorem PmRow.but {lb : Nat} {V W : World} {base : Nat} {v : Value} {xs : List Pm} (h : PmRow V base v xs) (hb : But lb V W) {cs : Array Value} (hl : V.heap[lb]? = some (.cells cs 92 (0, 0))) : PmRow W base v xs := by
  refine ⟨ownsRow_keep h.row (fun b cs' e _ => hb.oth b (Array.getElem?_eq_some_iff.1 e).1 (fun e2 => ?_)), fun x hx => ⟨ownBy_keep (h.ok x hx).1 (fun b cs' e => (hb.oth b (Array.getElem?_eq_some_iff.1 e).1 (fun e2 => ?_)).trans e), (h.ok x hx).2⟩⟩
  · rw [e2, hl] at e; cases e
  · rw [e2, hl] at e; cases e
/-- What a log is when it is opened. -/
structure Opened (w W w' : World) (p nb sb : Nat) (cv : Value) (n : Nat) (D : Dk) (lb fr mn since : Nat) (tv wv : Value) (rs : List (List UInt8)) : Prop where
  tn : Tn w w' p nb sb cv n D
  rc : rs = recs (catF mn since (imgF fr mn D))
  box : LgBox w' lb p fr mn tv wv ⟨rs.length, newestF since (allF mn (imgF fr mn D)) + 1, (enc rs).length / 60, pcs (enc rs).length, 0, true, false, false⟩
  tx : ByRow w' W.heap.size tv (enc rs)
  wh : NaRow w' W.heap.size wv (whF mn since (imgF fr mn D))
  bel : Below W.heap.size W w'
  llb : W.heap.size ≤ lb
theorem img_okP {fr mn n : Nat} {D : Dk} (ho : D.ok n) (a : Nat) (q : Pc) (h : imgF fr mn D a = some q) : okP mn q := by
  unfold imgF at h
  split at h
  · exact (pcOf_ok h (getD_ok ho.nowO (fr + a))).1
  · cases h
theorem byRow_low {W : World} {base base' : Nat} {v : Value} {l : List UInt8} (h : ByRow W base v l) (hb : base' ≤ base) : ByRow W base' v l := by
  rcases h.2 with ⟨h1, h2⟩ | ⟨g, c, cur, h1, hg, r⟩
  · exact ⟨h.1, .inl ⟨h1, h2⟩⟩
  · exact ⟨h.1, .inr ⟨g, c, cur, h1, by omega, r⟩⟩
theorem naRow_low {W : World} {base base' : Nat} {v : Value} {l : List Nat} (h : NaRow W base v l) (hb : base' ≤ base) : NaRow W base' v l := by
  rcases h.2 with ⟨h1, h2⟩ | ⟨g, c, cur, h1, hg, r⟩
  · exact ⟨h.1, .inl ⟨h1, h2⟩⟩
  · exact ⟨h.1, .inr ⟨g, c, cur, h1, by omega, r⟩⟩
section
variable {w W : World} {p nb sb : Nat} {cv : Value} {n : Nat} {D : Dk}
set_option maxHeartbeats 4000000 in
theorem openL_ok (a : Tn w W p nb sb cv n D) (fr mn since : Nat) (hm1 : 1 ≤ mn) (hi : fr + mn ≤ n) (hn : n ≤ 200) (hh : D.now.getD fr bk0 = ⟨padB (lhB mn since), false⟩) (h1 : 1 ≤ since) (h2 : since < 65536) :
    Calls Try.prog 37 #[.pointer (some ⟨p, 0, none⟩), .int .i64 (fr : Int), .int .i64 (mn : Int)] W fun e w' => ∃ lb, e = .returned (.tuple #[.pointer (some ⟨lb, 0, none⟩), .nilIface]) ∧ ∃ tv wv rs, Hid (Opened w W w' p nb sb cv n D lb fr mn since tv wv rs) := by
  have hP : ∀ aa q, imgF fr mn D aa = some q → okP mn q := fun aa q hq => img_okP a.1.ok aa q hq
  have HPx : Hid (∀ xs : List Pm, xs.map Pm.pair = allF mn (imgF fr mn D) → xs.length ≤ 200 ∧ ∀ x ∈ xs, x.q.sit < 65536 ∧ x.q.num < 200 ∧ x.q.byt.length ≤ 60) := fun xs hxs => by
    have hlen : xs.length ≤ 200 := by
      have : xs.length = (allF mn (imgF fr mn D)).length := by rw [← hxs, List.length_map]
      rw [this]
      unfold allF
      have := List.length_filterMap_le (fun a => (imgF fr mn D a).map fun q => (a, q)) (List.range' 1 (mn - 1))
      rw [List.length_range'] at this
      omega
    refine ⟨hlen, fun x hx => ?_⟩
    have hm : x.pair ∈ allF mn (imgF fr mn D) := by rw [← hxs]; exact List.mem_map.2 ⟨x, hx, rfl⟩
    have hq := hP x.at_ x.q ((mem_allF (img_dom fr mn D) x.at_ x.q).1 hm)
    exact ⟨hq.sit, by have := hq.num; omega, hq.l2⟩
  have HShort : Hid (pcs (enc (recs (catF mn since (imgF fr mn D)))).length ≤ (chF mn since (imgF fr mn D)).length ∧ (chF mn since (imgF fr mn D)).length ≤ 200) := by
    have hS := RI.shortB (since := since) (img_dom fr mn D) (fun aa q hq => (hP aa q hq).l2)
    have hz := chain_size hS 200 0
    have hl := (enc_recs (catF mn since (imgF fr mn D))).length_le
    refine ⟨?_, chain_lenle _ 200 0⟩
    unfold catF chF at hl
    unfold catF chF pcs
    omega
  obtain ⟨W1, hW1⟩ : ∃ W1, W.alloc (.cells #[.pointer (some ⟨p, 0, none⟩), .int .i64 (fr : Int), .int .i64 (mn : Int)] 77) = W1 := ⟨_, rfl⟩
  have hB : Below W.heap.size W W1 := by rw [← hW1]; exact (Below.refl _ W).alloc (Nat.le_refl _) _
  have hr := new_heap W (.cells #[.pointer (some ⟨p, 0, none⟩), .int .i64 (fr : Int), .int .i64 (mn : Int)] 77)
  rw [hW1] at hr
  have HF : Hid (∀ U : World, Below W1.heap.size W1 U → (U.cell? ⟨W.heap.size, 0, none⟩ = some (.pointer (some ⟨p, 0, none⟩)) ∧ U.cell? ⟨W.heap.size, 1, none⟩ = some (.int .i64 (fr : Int)) ∧ U.cell? ⟨W.heap.size, 2, none⟩ = some (.int .i64 (mn : Int))) ∧ Tn w U p nb sb cv n D ∧ Below W.heap.size W U) := fun U hU => by
    have h := (hU.block _ (Array.getElem?_eq_some_iff.1 hr).1).trans hr
    have hU2 : Below W.heap.size W U := hB.trans (hU.mono hB.size)
    exact ⟨⟨by simp [World.cell?, h], by simp [World.cell?, h], by simp [World.cell?, h]⟩, a.below hU2, hU2⟩
  obtain ⟨⟨c0, c1, c2⟩, _, _⟩ := HF.out W1 (Below.refl _ _)
  have HV : Hid (Calls _ _ _ W1 _) := valid_any (a.below hB) (fr : Int) (mn : Int) hn (by omega)
  rw [show decide (1 ≤ (mn : Int) ∧ 0 ≤ (fr : Int) ∧ (fr : Int) ≤ (n : Int) - (mn : Int)) = true by rw [decide_eq_true_eq]; omega] at HV
  have HRd : Hid (∀ U, Tn w U p nb sb cv n D → Calls Try.prog 28 #[.agg #[.pointer (some ⟨p, 0, none⟩), .int .i64 (fr : Int), .int .i64 (mn : Int)]] U fun e w' => e = .returned (.tuple #[.int .i64 (since : Int), .bool true]) ∧ Hid (Below U.heap.size U w')) := fun U hU => readLHead_some hU fr mn since (by omega) hn (by omega) h2 hh
  have HPc : Hid (∀ U, Tn w U p nb sb cv n D → Calls Try.prog 32 #[.agg #[.pointer (some ⟨p, 0, none⟩), .int .i64 (fr : Int), .int .i64 (mn : Int)]] U fun e w' => ∃ v, e = .returned v ∧ ∃ xs : List Pm, xs.map Pm.pair = allF mn (imgF fr mn D) ∧ Hid (PmRow w' U.heap.size v xs) ∧ Hid (Below U.heap.size U w')) := fun U hU => piecesA_any hU fr mn hi hn
  have HChS : Hid (∀ q ∈ chF mn since (imgF fr mn D), q.2.byt.length ≤ 60) := fun q hq => by
    obtain ⟨i, hi', rfl⟩ := List.getElem_of_mem hq
    have hS := RI.shortB (since := since) (img_dom fr mn D) (fun aa q hq => (hP aa q hq).l2)
    exact hS _ _ (chain_len 200 0 i hi')
  have HS1 : Hid (W.heap.size < W1.heap.size) := (Array.getElem?_eq_some_iff.1 hr).1
  have hbl := build_log p fr mn
  obtain ⟨Z, hZ⟩ : ∃ Z, (lgC p fr mn (.slice none 0 0) (.slice none 0 0) ⟨0, 1, 0, 0, 0, false, false, false⟩).toArray = Z := ⟨_, rfl⟩
  have HZ : Hid ((lgC p fr mn (.slice none 0 0) (.slice none 0 0) ⟨0, 1, 0, 0, 0, false, false, false⟩).toArray = Z) := hZ
  rw [hZ] at hbl
  clear a hB hr hh hP hZ
  go_enter Try.func37, Try.ntmps37
  go_wp2_with fail
  refine HV.out.mono ?_
  rintro e w2 ⟨rfl, hb2⟩
  obtain ⟨⟨d0, d1, d2⟩, ht2, _⟩ := HF.out w2 hb2
  obtain ⟨w3, hw3⟩ : ∃ w3, w2.alloc (.cells Z 92) = w3 := ⟨_, rfl⟩
  obtain ⟨lb, hlb⟩ : ∃ lb, w2.heap.size = lb := ⟨_, rfl⟩
  have hb3 : Below w2.heap.size w2 w3 := by rw [← hw3]; exact (Below.refl _ w2).alloc (Nat.le_refl _) _
  have hb13 : Below W1.heap.size W1 w3 := hb2.trans (hb3.mono hb2.size)
  have hbx3 : LgBox w3 lb p fr mn (.slice none 0 0) (.slice none 0 0) ⟨0, 1, 0, 0, 0, false, false, false⟩ := by
    unfold LgBox
    rw [HZ.out, ← hw3, ← hlb]
    exact new_heap w2 _
  obtain ⟨⟨e0, e1, e2⟩, ht3, _⟩ := HF.out w3 hb13
  have HR3 : Hid (Calls _ _ _ w3 _) := HRd.out w3 ht3
  have H3 : Hid (LgBox w3 lb p fr mn (.slice none 0 0) (.slice none 0 0) ⟨0, 1, 0, 0, 0, false, false, false⟩ ∧ Below W1.heap.size W1 w3 ∧ W1.heap.size ≤ lb) := ⟨hbx3, hb13, by
    have h1 := hb2.size
    omega⟩
  clear HV ht2 hb2 hb3 hb13 hbx3 ht3 c0 c1 c2 HRd
  go_wp2_with (first | (refine wpList_build_run rfl 92 #[(0, .tmp 21), (3, .const (.int .i64 1)), (7, .const (.int .i64 0))] rfl #[(0, .agg #[.pointer (some ⟨p, 0, none⟩), .int .i64 (fr : Int), .int .i64 (mn : Int)]), (3, .int .i64 1), (7, .int .i64 0)] (by first | rfl | simp [Act.eval, Act.put]) (hbl _) ?_))
  refine HR3.out.mono ?_
  rintro e w4 ⟨rfl, hb4⟩
  have hb14 : Below W1.heap.size W1 w4 := H3.out.2.1.trans (hb4.out.mono H3.out.2.1.size)
  have hbx4 : LgBox w4 lb p fr mn (.slice none 0 0) (.slice none 0 0) ⟨0, 1, 0, 0, 0, false, false, false⟩ := (hb4.out.block _ H3.out.1.lt).trans H3.out.1
  obtain ⟨⟨g0, g1, g2⟩, ht4, _⟩ := HF.out w4 hb14
  have HP4 : Hid (Calls _ _ _ w4 _) := HPc.out w4 ht4
  have H4 : Hid (LgBox w4 lb p fr mn (.slice none 0 0) (.slice none 0 0) ⟨0, 1, 0, 0, 0, false, false, false⟩ ∧ Below W1.heap.size W1 w4) := ⟨hbx4, hb14⟩
  clear HR3 hb4 hb14 hbx4 ht4 HPc d0 d1 d2 e0 e1 e2
  go_wp2_with fail
  refine HP4.out.mono ?_
  rintro e w5 ⟨v, rfl, xs, hxs, hrow5, hb5⟩
  obtain ⟨hxl, hxo⟩ := HPx.out xs hxs
  have hb15 : Below W1.heap.size W1 w5 := H4.out.2.trans (hb5.out.mono H4.out.2.size)
  have hbx5 : LgBox w5 lb p fr mn (.slice none 0 0) (.slice none 0 0) ⟨0, 1, 0, 0, 0, false, false, false⟩ := (hb5.out.block _ H4.out.1.lt).trans H4.out.1
  have HN5 : Hid (Calls _ _ _ w5 _) := newest_any v xs since w5 hrow5.out.isPm (by omega) h1 (by omega) (fun x hx => by have := (hxo x hx).1; omega)
  obtain ⟨N, hN⟩ : ∃ N, newestF since (xs.map Pm.pair) = N := ⟨_, rfl⟩
  have hN6 : N ≤ 65536 := by rw [← hN]; exact newestF_le since 65536 _ (by omega) (fun q hq => by
    obtain ⟨x, hx, rfl⟩ := List.mem_map.1 hq
    have := (hxo x hx).1
    show x.q.sit ≤ 65536
    omega)
  rw [hN] at HN5
  have H5 : Hid (PmRow w5 w4.heap.size v xs ∧ LgBox w5 lb p fr mn (.slice none 0 0) (.slice none 0 0) ⟨0, 1, 0, 0, 0, false, false, false⟩ ∧ Below W1.heap.size W1 w5 ∧ newestF since (allF mn (imgF fr mn D)) = N ∧ xs.map Pm.pair = allF mn (imgF fr mn D)) := ⟨hrow5.out, hbx5, hb15, by rw [← hxs]; exact hN, hxs⟩
  have HXo : Hid (∀ x ∈ xs, x.q.sit ≤ 100000 ∧ x.q.num < 200 ∧ x.q.byt.length ≤ 60) := fun x hx => ⟨by have := (hxo x hx).1; omega, (hxo x hx).2.1, (hxo x hx).2.2⟩
  have HVc := hrow5.out.shape
  obtain ⟨va, vc, rfl⟩ := HVc
  clear HP4 hrow5 hb5 hb15 hbx5 hN H4 hxo g0 g1 g2
  go_upto_region 8 with fail
  have n0 : (0 : Int) ≤ N := by omega
  have n1 : (N : Int) ≤ 65536 := by omega
  go_wp2_with fail
  refine HN5.out.mono ?_
  rintro e w6 ⟨rfl, hb6⟩
  have hbx6 : LgBox w6 lb p fr mn (.slice none 0 0) (.slice none 0 0) ⟨0, 1, 0, 0, 0, false, false, false⟩ := (hb6.block _ H5.out.2.1.lt).trans H5.out.2.1
  have k10 : w6.cell? ⟨lb, 10, none⟩ = some (.bool false) := by rw [hbx6.at]; rfl
  have f10 := hbx6.fz 10
  have hbx6b : LgBox (w6.setCell ⟨lb, 10, none⟩ (.bool true)) lb p fr mn (.slice none 0 0) (.slice none 0 0) ⟨0, 1, 0, 0, 0, true, false, false⟩ := hbx6.set 10 _ rfl
  have k5 : (w6.setCell ⟨lb, 10, none⟩ (.bool true)).cell? ⟨lb, 5, none⟩ = some (.int .i64 1) := by rw [hbx6b.at]; rfl
  have f5 := hbx6b.fz 5
  obtain ⟨w7, hw7⟩ : ∃ w7, (w6.setCell ⟨lb, 10, none⟩ (.bool true)).setCell ⟨lb, 5, none⟩ (.int .i64 ((N : Int) + 1)) = w7 := ⟨_, rfl⟩
  have hbx7 : LgBox w7 lb p fr mn (.slice none 0 0) (.slice none 0 0) ⟨0, N + 1, 0, 0, 0, true, false, false⟩ := by
    rw [← hw7]
    refine hbx6b.set 5 _ ?_
    rw [show (N : Int) + 1 = ((N + 1 : Nat) : Int) by omega]
    rfl
  have hbu7 : But lb w5 w7 := (But.of_below hb6).trans (by rw [← hw7]; exact (But.setCell _ _ _ _).trans (But.setCell _ _ _ _))
  have hpm7 : PmRow w7 w4.heap.size (.slice va xs.length vc) xs := H5.out.1.but hbu7 H5.out.2.1
  have hW57 : Below W1.heap.size W1 w7 := H5.out.2.2.1.trans (hbu7.toBelow H3.out.2.2 H5.out.2.2.1.size)
  have HC7 : Hid (Calls _ _ _ w7 _) := chain_any (.slice va xs.length vc) xs since w7 hpm7.isPm (by omega) h1 (by omega) HXo.out
  have H7 : Hid (LgBox w7 lb p fr mn (.slice none 0 0) (.slice none 0 0) ⟨0, N + 1, 0, 0, 0, true, false, false⟩ ∧ Below W1.heap.size W1 w7) := ⟨hbx7, hW57⟩
  clear HN5 hb6 hbx6 hbx6b hbx7 hbu7 hpm7 hW57 HXo
  go_wp2_with fail
  try rw [hw7]
  refine HC7.out.mono ?_
  rintro e w8 ⟨v8, rfl, zs, hzs, hrow8, hb8⟩
  have hzs2 : zs.map Pm.pair = chF mn since (imgF fr mn D) := by
    rw [hzs, H5.out.2.2.2.2]
    rfl
  have hbx8 : LgBox w8 lb p fr mn (.slice none 0 0) (.slice none 0 0) ⟨0, N + 1, 0, 0, 0, true, false, false⟩ := (hb8.out.block _ H7.out.1.lt).trans H7.out.1
  have hzl : zs.length = (chF mn since (imgF fr mn D)).length := by rw [← hzs2, List.length_map]
  have HT8 : Hid (Calls _ _ _ w8 _) := take_any v8 zs w8 lb p fr mn ⟨0, N + 1, 0, 0, 0, true, false, false⟩ hbx8 rfl hrow8.out.isPm (by rw [hzl]; exact HShort.out.2) (fun x hx => by
    have hm : x.pair ∈ chF mn since (imgF fr mn D) := by rw [← hzs2]; exact List.mem_map.2 ⟨x, hx, rfl⟩
    exact HChS.out x.pair hm) (by rw [hzs2, hzl]; exact HShort.out.1) hrow8.out.cap
  have H8 : Hid (Below W1.heap.size W1 w8 ∧ zs.map Pm.pair = chF mn since (imgF fr mn D) ∧ W1.heap.size ≤ w8.heap.size) := by
    have hb := H7.out.2.trans (hb8.out.mono H7.out.2.size)
    exact ⟨hb, hzs2, hb.size⟩
  clear HC7 hrow8 hb8 hbx8 hzl hzs hzs2 hw7
  go_wp2_with fail
  refine HT8.out.mono ?_
  rintro e w9 ⟨rfl, tv, wv, rs, htk⟩
  have HE : Hid (Opened w W w9 p nb sb cv n D lb fr mn since tv wv rs) := by
    have tk := htk.out
    have hz := H8.out.2.1
    have hb9 : Below W1.heap.size W1 w9 := H8.out.1.trans (tk.but.toBelow H3.out.2.2 H8.out.2.2)
    obtain ⟨_, ht9, hbW⟩ := HF.out w9 hb9
    have hWW : W.heap.size ≤ w8.heap.size := by have := HS1.out; have := H8.out.2.2; omega
    have hrc : rs = recs (catF mn since (imgF fr mn D)) := by rw [tk.rc, hz]; rfl
    refine ⟨ht9, hrc, ?_, ?_, ?_, hbW, by have := HS1.out; have := H3.out.2.2; omega⟩
    · have := tk.box
      rw [H5.out.2.2.2.1]
      exact this
    · exact byRow_low tk.tx hWW
    · have hwh : (zs.take (pcs (enc rs).length)).map (·.at_) = whF mn since (imgF fr mn D) := by
        unfold whF
        rw [← hrc, ← hz, ← List.map_take, List.map_map]
        rfl
      rw [← hwh]
      exact naRow_low tk.wh hWW
  clear HT8 htk
  go_wp2
  go_ret2
  exact ⟨lb, rfl, tv, wv, rs, HE⟩
end
end Go.Proofs.Ytijjegkkeigeoaa
