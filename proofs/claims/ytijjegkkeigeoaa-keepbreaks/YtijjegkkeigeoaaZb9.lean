/-
  A piece that is safe gets another place.
-/
import Derived.Test.YtijjegkkeigeoaaZb8
import Derived.Test.YtijjegkkeigeoaaZb5
namespace Go.Proofs.Ytijjegkkeigeoaa
set_option linter.unusedVariables false
set_option linter.unusedSimpArgs false
set_option maxRecDepth 100000
open Go.RowKit Go.Lib
structure LgAt (w W : World) (p nb sb : Nat) (cv : Value) (n : Nat) (D : Dk) (lb fr mn : Nat) (tv wv : Value) (s : Ls) (tx : List UInt8) (wh : List Nat) : Prop where
  tn : Tn w W p nb sb cv n D
  box : LgBox W lb p fr mn tv wv s
  tx : ByRow W w.heap.size tv tx
  wh : NaRow W w.heap.size wv wh
  llb : w.heap.size ≤ lb
section
variable {w W U : World} {p nb sb : Nat} {cv : Value} {n : Nat} {D : Dk} {lb fr mn : Nat} {tv wv : Value} {s : Ls} {tx : List UInt8} {wh : List Nat}
theorem LgAt.below (a : LgAt w W p nb sb cv n D lb fr mn tv wv s tx wh) (hb : Below W.heap.size W U) : LgAt w U p nb sb cv n D lb fr mn tv wv s tx wh :=
  ⟨a.tn.below hb, (hb.block _ a.box.lt).trans a.box, a.tx.below hb, ownsRow_keep a.wh (fun b cs e _ => hb.block b (Array.getElem?_eq_some_iff.1 e).1), a.llb⟩
theorem LgAt.still (a : LgAt w W p nb sb cv n D lb fr mn tv wv s tx wh) (hs : Still W U) : LgAt w U p nb sb cv n D lb fr mn tv wv s tx wh := a.below (hs.below _)
/-- A disk's call. -/
theorem LgAt.disk (a : LgAt w W p nb sb cv n D lb fr mn tv wv s tx wh) {cv' : Value} {D' : Dk} (ht : Tn w U p nb sb cv' n D') (hk : Keeps w.heap.size dkT W U) : LgAt w U p nb sb cv' n D' lb fr mn tv wv s tx wh :=
  ⟨ht, hk.row a.box (by decide), a.tx.keeps hk, ownsRow_keep a.wh (fun b cs e _ => (hk.row e (by decide)).trans e.symm), a.llb⟩
/-- A number of its own is set. -/
theorem LgAt.set (a : LgAt w W p nb sb cv n D lb fr mn tv wv s tx wh) (i : Nat) (v : Value) {s' : Ls} (e : ((lgC p fr mn tv wv s).set i v) = lgC p fr mn tv wv s') : LgAt w (W.setCell ⟨lb, i, none⟩ v) p nb sb cv n D lb fr mn tv wv s' tx wh := by
  have hbx : W.heap[lb]? = _ := a.box
  have d := a.tn.1
  have ne : ∀ (j : Nat) (cs' : Array Value) (t' : TypeId), W.heap[j]? = some (.cells cs' t' (0, 0)) → t' ≠ 92 → (W.setCell ⟨lb, i, none⟩ v).heap[j]? = W.heap[j]? := fun j cs' t' e' ht => Below.heap_setCell _ _ _ _ (fun e2 => by
    simp only at e2
    rw [e2, hbx] at e'
    cases e'
    exact ht rfl)
  have hbl : Below w.heap.size W (W.setCell ⟨lb, i, none⟩ v) := (Below.refl _ W).setCell (p := ⟨lb, i, none⟩) a.llb v
  refine ⟨⟨⟨(ne _ _ _ d.box (by decide)).trans d.box, (ne _ _ _ d.now (by decide)).trans d.now, (ne _ _ _ d.safe (by decide)).trans d.safe, d.ne, d.lp, d.ln, d.ls, ownsRow_keep d.chg (fun b' cs' e' _ => ne b' _ _ e' (by decide)), d.ok⟩, a.tn.2.trans hbl⟩, a.box.set i v e, ownsRow_keep a.tx (fun b' cs' e' _ => ne b' _ _ e' (by decide)), ownsRow_keep a.wh (fun b' cs' e' _ => ne b' _ _ e' (by decide)), a.llb⟩
end
/-- Where a number stands in a list. -/
def idxN (l : List Nat) (x : Nat) : Int := match l.findIdx? (· == x) with | some k => (k : Int) | none => -1
theorem contains_any (base : Nat) (v : Value) (l : List Nat) (x : Nat) (W : World) (h : NaRow W base v l) (hl : l.length ≤ 100000) :
    Calls Try.prog 82 #[v, .int .i64 (x : Int)] W fun e w' => e = .returned (.bool (decide (x ∈ l))) ∧ Still W w' := by
  have HI : Hid (Calls Try.prog 86 #[v, .int .i64 (x : Int)] W fun e w' => (∃ k : Int, e = .returned (.int .i64 k) ∧ (0 ≤ k ↔ x ∈ l) ∧ -1 ≤ k ∧ k ≤ 100000) ∧ Still W w') := by
    obtain ⟨av, cap, rfl⟩ := h.shape
    have HN : Hid (NaRow W base (.slice av l.length cap) l) := h
    have l0 : (l.length : Int) ≤ 100000 := by omega
    have x0 : (0 : Int) ≤ x := by omega
    clear h
    go_enter Try.func86, Try.ntmps86
    go_wp2_with fail
    go_loopw [8] (fun t wr => ∃ k : Nat, k ≤ l.length ∧ t = .int .i64 k ∧ (∀ i, i < k → l.getD i 0 ≠ x) ∧ Hid (Still W wr)) (fun t _ => l.length - (RowKit.intOf t).toNat)
    case atStart => exact ⟨0, Nat.zero_le _, rfl, fun i hi => absurd hi (by omega), Still.refl _⟩
    case round =>
      obtain ⟨k, hk, rfl, hn, HS⟩ := hrel
      have k0 : (0 : Int) ≤ k := by omega
      by_cases hlt : k < l.length
      · have k1 : (k : Int) < l.length := by omega
        obtain ⟨g, cap', e, _, hc, _⟩ := HN.out.cell k hlt
        cases e
        have hc' : wr.cell? ⟨g, k, none⟩ = some (.int .i64 ((l.getD k 0 : Nat) : Int)) := by
          unfold World.cell? at hc ⊢
          rw [HS.out.heap]
          exact hc
        have HNn : Hid (∀ i, i < k → l.getD i 0 ≠ x) := hn
        clear hc hn
        by_cases hx : l.getD k 0 = x
        · rw [hx] at hc'
          have hmem : x ∈ l := by
            rw [← hx, List.getD_eq_getElem?_getD, List.getElem?_eq_getElem hlt]
            exact List.getElem_mem hlt
          go_wp2
          go_ret
          exact ⟨⟨(k : Int), rfl, ⟨fun _ => hmem, fun _ => by omega⟩, by omega, by omega⟩, HS.out⟩
        · obtain ⟨z, hz⟩ : ∃ z, l.getD k 0 = z := ⟨_, rfl⟩
          rw [hz] at hc' hx
          have hne : ((x : Int) == (z : Int)) = false := by rw [beq_eq_false_iff_ne]; omega
          have HN2 : Hid (∀ i, i < k + 1 → l.getD i 0 ≠ x) := fun i hi => by
            by_cases e : i = k
            · rw [e, hz]; exact hx
            · exact HNn.out i (by omega)
          clear HNn hz
          go_wp2_with fail
          go_roundw
          case rel => exact ⟨k + 1, by omega, by go_num, HN2.out, HS⟩
          case measure => simp [RowKit.intOf]; omega
      · have k1 : ¬ (k : Int) < l.length := by omega
        have hnm : ¬ x ∈ l := fun hm => by
          obtain ⟨i, hi, rfl⟩ := List.getElem_of_mem hm
          have := hn i (by omega)
          rw [List.getD_eq_getElem?_getD, List.getElem?_eq_getElem hi] at this
          exact this rfl
        clear hn
        go_wp2
        go_ret
        exact ⟨⟨-1, rfl, by omega, by omega, by omega⟩, HS.out⟩
  obtain ⟨av, cap, rfl⟩ := h.shape
  clear h
  go_enter Try.func82, Try.ntmps82
  go_wp2_with fail
  refine HI.out.mono ?_
  rintro e w' ⟨⟨k, rfl, hk, hk1, hk2⟩, hs⟩
  have HE : Hid (decide (x ∈ l) = decide (0 ≤ k)) := by
    unfold Hid
    rw [decide_eq_decide]
    exact hk.symm
  clear HI hk
  go_wp2
  go_ret
  exact ⟨by rw [HE.out]; rfl, hs⟩
theorem all_in : ∀ (k : Nat) (L : List Nat), (∀ i, 1 ≤ i → i ≤ k → i ∈ L) → k ≤ L.length
  | 0, _, _ => Nat.zero_le _
  | k + 1, L, h => by
    have hm := h (k + 1) (by omega) (Nat.le_refl _)
    have := all_in k (L.erase (k + 1)) (fun i h1 h2 => (List.mem_erase_of_ne (by omega)).2 (h i h1 (by omega)))
    rw [List.length_erase_of_mem hm] at this
    have := List.length_pos_of_mem hm
    omega
/-- A block that is free. -/
structure IsFree (old : Nat) (wh : List Nat) (f : Nat) : Prop where
  pos : 1 ≤ f
  no : f ≠ old
  out : f ∉ wh
  all : ∀ i, 1 ≤ i → i < f → i = old ∨ i ∈ wh
theorem IsFree.le {old : Nat} {wh : List Nat} {f : Nat} (h : IsFree old wh f) : f ≤ wh.length + 2 ∧ (old = 0 → f ≤ wh.length + 1) := by
  have hp := h.pos
  constructor
  · have := all_in (f - 1) (old :: wh) (fun i h1 h2 => by
      rcases h.all i h1 (by omega) with e | e
      · rw [e]; simp
      · simp [e])
    simp at this
    omega
  · intro ho
    have := all_in (f - 1) wh (fun i h1 h2 => by
      rcases h.all i h1 (by omega) with e | e
      · omega
      · exact e)
    omega
section
variable {w W U : World} {p nb sb : Nat} {cv : Value} {n : Nat} {D : Dk} {lb fr mn : Nat} {tv wv : Value} {s : Ls} {tx : List UInt8} {wh : List Nat}
theorem free_any (a : LgAt w W p nb sb cv n D lb fr mn tv wv s tx wh) (hl : wh.length ≤ 1000) : Calls Try.prog 75 #[.pointer (some ⟨lb, 0, none⟩)] W fun e w' => ∃ f, e = .returned (.int .i64 (f : Nat)) ∧ IsFree s.old wh f ∧ Still W w' := by
  have HA : Hid (LgAt w W p nb sb cv n D lb fr mn tv wv s tx wh) := a
  obtain ⟨wa, wc, hwv⟩ := a.wh.shape
  have HCn : Hid (∀ (U : World) (x : Nat), Still W U → Calls Try.prog 82 #[wv, .int .i64 (x : Int)] U fun e w' => e = .returned (.bool (decide (x ∈ wh))) ∧ Still U w') := fun U x hs => contains_any w.heap.size wv wh x U ((a.still hs).wh) (by omega)
  have HC : Hid (∀ U, Still W U → U.cell? ⟨lb, 9, none⟩ = some (.int .i64 (s.old : Int)) ∧ U.cell? ⟨lb, 7, none⟩ = some wv) := fun U hs => by
    have := (a.still hs).box
    exact ⟨by rw [this.at]; rfl, by rw [this.at]; rfl⟩
  rw [hwv] at HCn HC
  clear a hwv
  go_enter Try.func75, Try.ntmps75
  go_wp2_with fail
  go_loopw [3] (fun t wr => ∃ k : Nat, 1 ≤ k ∧ t = .int .i64 k ∧ Hid ((∀ i, 1 ≤ i → i < k → i = s.old ∨ i ∈ wh) ∧ Still W wr)) (fun t _ => 2000 - (RowKit.intOf t).toNat)
  case atStart => exact ⟨1, Nat.le_refl _, rfl, fun i h1 h2 => absurd h2 (by omega), Still.refl _⟩
  case round =>
    obtain ⟨k, hk, rfl, H⟩ := hrel
    obtain ⟨hall, hst⟩ := H.out
    obtain ⟨c9, c7⟩ := HC.out wr hst
    have hkl : k ≤ wh.length + 2 := by
      have := all_in (k - 1) (s.old :: wh) (fun i h1 h2 => by
        rcases hall i h1 (by omega) with e | e
        · rw [e]; simp
        · simp [e])
      simp at this
      omega
    have k0 : (1 : Int) ≤ k := by omega
    have k1 : (k : Int) ≤ 1002 := by omega
    have HCk : Hid (Calls _ _ _ wr _) := HCn.out wr k hst
    have HAll : Hid ((∀ i, 1 ≤ i → i < k → i = s.old ∨ i ∈ wh) ∧ Still W wr) := ⟨hall, hst⟩
    clear H hall hst
    by_cases ho : k = s.old
    · have HN : Hid ((∀ i, 1 ≤ i → i < k + 1 → i = s.old ∨ i ∈ wh) ∧ Still W wr) := ⟨fun i h1 h2 => by
        by_cases e : i = k
        · left; omega
        · exact HAll.out.1 i h1 (by omega), HAll.out.2⟩
      rw [← ho] at c9
      clear HAll
      go_wp2_with fail
      go_roundw
      case rel => exact ⟨k + 1, by omega, by go_num, HN⟩
      case measure => simp [RowKit.intOf]; omega
    · have ho' : ((k : Int) == (s.old : Int)) = false := by rw [beq_eq_false_iff_ne]; omega
      have ho'' : ¬ (k : Int) = (s.old : Int) := by omega
      by_cases hm : k ∈ wh
      · have HN : Hid (∀ w2, Still wr w2 → (∀ i, 1 ≤ i → i < k + 1 → i = s.old ∨ i ∈ wh) ∧ Still W w2) := fun w2 hs2 => ⟨fun i h1 h2 => by
          by_cases e : i = k
          · right; rw [e]; exact hm
          · exact HAll.out.1 i h1 (by omega), HAll.out.2.trans hs2⟩
        rw [decide_eq_true hm] at HCk
        clear HAll hm
        go_wp2_with fail
        refine HCk.out.mono ?_
        rintro e w2 ⟨rfl, hs2⟩
        have HN2 : Hid ((∀ i, 1 ≤ i → i < k + 1 → i = s.old ∨ i ∈ wh) ∧ Still W w2) := HN.out w2 hs2
        clear HCk HN hs2
        go_wp2_with fail
        go_roundw
        case rel => exact ⟨k + 1, by omega, by go_num, HN2⟩
        case measure => simp [RowKit.intOf]; omega
      · have HN : Hid (IsFree s.old wh k) := ⟨hk, ho, hm, HAll.out.1⟩
        rw [decide_eq_false hm] at HCk
        clear hm
        go_wp2_with fail
        refine HCk.out.mono ?_
        rintro e w2 ⟨rfl, hs2⟩
        have HS2 : Hid (Still W w2) := HAll.out.2.trans hs2
        clear HCk hs2 HAll
        go_wp2_with fail
        go_ret
        exact ⟨k, rfl, HN.out, HS2.out⟩
end
end Go.Proofs.Ytijjegkkeigeoaa

namespace Go.Proofs.Ytijjegkkeigeoaa
set_option linter.unusedVariables false
set_option linter.unusedSimpArgs false
set_option maxRecDepth 100000
set_option maxHeartbeats 400000
open Go.RowKit Go.Lib
/-- A piece of a text. -/
def pcAt (s : Ls) (tt : List UInt8) (k : Nat) : Pc := ⟨k, s.sit, decide (k = s.st), (tt.drop (k * 60)).take (min tt.length (k * 60 + 60) - k * 60)⟩
theorem pcAt_len (s : Ls) (tt : List UInt8) (k : Nat) : (pcAt s tt k).byt.length = min tt.length (k * 60 + 60) - k * 60 := by
  simp only [pcAt, List.length_take, List.length_drop]
  omega
theorem load_area {u : World} {lb p fr mn : Nat} {tv wv : Value} {s : Ls} (h : LgBox u lb p fr mn tv wv s) : (Instr.loadAt 77 (.pointer (some ⟨lb, 0, none⟩))).run Try.prog u = .ok (.agg #[.pointer (some ⟨p, 0, none⟩), .int .i64 (fr : Int), .int .i64 (mn : Int)]) u := by
  have c0 : u.cell? ⟨lb, 0, none⟩ = some (.pointer (some ⟨p, 0, none⟩)) := by rw [h.at]; rfl
  have c1 : u.cell? ⟨lb, 1, none⟩ = some (.int .i64 (fr : Int)) := by rw [h.at]; rfl
  have c2 : u.cell? ⟨lb, 2, none⟩ = some (.int .i64 (mn : Int)) := by rw [h.at]; rfl
  clear h
  go_simp
section
variable {w W U : World} {p nb sb : Nat} {cv : Value} {n : Nat} {D : Dk} {lb fr mn : Nat} {tv wv : Value} {s : Ls} {tx : List UInt8} {wh : List Nat}
/-- A log's piece of a text. -/
theorem pieceL_any (a : LgAt w W p nb sb cv n D lb fr mn tv wv s tx wh) (ta : Option Addr) (tt : List UInt8) (tcap : Nat) (ht : IsBy W ta tt tcap) (k : Nat) (hk : k < wh.length) (hk6 : k * 60 ≤ tt.length) (hk256 : k < 256) (hl : tt.length ≤ 100000) :
    Calls Try.prog 66 #[.pointer (some ⟨lb, 0, none⟩), .slice ta tt.length tcap, .int .i64 (k : Int)] W fun e w' => e = .returned (.agg (Pm.mk (wh.getD k 0) (pcAt s tt k) (slA ta tcap (k * 60)) (tcap - k * 60)).cells.toArray) ∧ Hid (Below W.heap.size W w') := by
  obtain ⟨m, hm⟩ : ∃ m : Nat, min tt.length (k * 60 + 60) = m := ⟨_, rfl⟩
  have hmi : (if ((k : Int) + 1) * 60 < (tt.length : Int) then ((k : Int) + 1) * 60 else (tt.length : Int)) = (m : Int) := by split <;> omega
  have hcap : tt.length ≤ tcap := ht.cap
  have hbyt : (pcAt s tt k).byt.length = m - k * 60 := by rw [pcAt_len, hm]
  obtain ⟨fb, hfb⟩ : ∃ fb : Bool, decide (k = s.st) = fb := ⟨_, rfl⟩
  have hal := alloc_pc
  obtain ⟨W0, hW0⟩ : ∃ W0, W.alloc (.cells pc0C 106) = W0 := ⟨_, rfl⟩
  have hr0 := new_heap W (.cells pc0C 106)
  have hb0 : Below W.heap.size W (W.alloc (.cells pc0C 106)) := (Below.refl _ W).alloc (Nat.le_refl _) _
  rw [hW0] at hr0 hb0
  have a0 := a.below hb0
  obtain ⟨g, wc, hwv, _, hcl, _⟩ := a0.wh.cell k hk
  have HD : Hid (LgBox W0.drew lb p fr mn tv wv s ∧ W0.drew.cell? ⟨g, k, none⟩ = some (.int .i64 ((wh.getD k 0 : Nat) : Int))) := ⟨a0.box, hcl⟩
  have HR0 : Hid (W0.drew.heap[W.heap.size]? = some (.cells pc0C 106 (0, 0)) ∧ Below W.heap.size W W0.drew) := ⟨hr0, hb0.trans ⟨rfl, rfl, rfl, Nat.le_refl _, fun _ _ => rfl⟩⟩
  subst hwv
  have hfb2 : ((k : Int) == (s.st : Int)) = fb := by
    rw [← hfb, Bool.eq_iff_iff, beq_iff_eq, decide_eq_true_eq]
    omega
  have hce : (Pm.mk (wh.getD k 0) (pcAt s tt k) (slA ta tcap (k * 60)) (tcap - k * 60)).cells = [.int .i64 ((wh.getD k 0 : Nat) : Int), .int .i64 (k : Int), .int .i64 (s.sit : Int), .bool fb, .slice (slA ta tcap (k * 60)) (m - k * 60) (tcap - k * 60)] := by
    unfold Pm.cells
    simp only [hbyt]
    rw [show (pcAt s tt k).fst = fb from hfb, show (pcAt s tt k).num = k from rfl, show (pcAt s tt k).sit = s.sit from rfl]
  rw [hce]
  clear hfb hce
  have k1 : (k : Int) < 256 := by omega
  have kw : (k : Int) < wh.length := by omega
  have m1 : k * 60 ≤ m := by omega
  have m2 : m ≤ tcap := by omega
  have m3 : m ≤ 100000 := by omega
  clear a a0 ht hm hbyt hcl hk6 hr0 hb0
  generalize wh.getD k 0 = wk at *
  obtain ⟨sa, hsa⟩ : ∃ sa, slA ta tcap (k * 60) = sa := ⟨_, rfl⟩
  obtain ⟨sl, hsl0⟩ : ∃ sl, m - k * 60 = sl := ⟨_, rfl⟩
  obtain ⟨sc, hsc⟩ : ∃ sc, tcap - k * 60 = sc := ⟨_, rfl⟩
  rw [hsa, hsl0, hsc]
  have HSA : Hid (slA ta tcap (k * 60) = sa ∧ m - k * 60 = sl ∧ tcap - k * 60 = sc) := ⟨hsa, hsl0, hsc⟩
  clear hsa hsl0 hsc
  go_enter Try.func66, Try.ntmps66
  go_upto_region 2 with (refine wpList_alloc_run rfl 106 rfl (hal _) ?_)
  refine wp_region_drawn (by kernel_rfl) ?_
  generalize hV : W0.drew = V at *
  have HT : Hid (V = V) := rfl
  refine wpAny_take (i := 0) (v := .pointer (some ⟨lb, 0, none⟩)) rfl (by kernel_rfl) (by kernel_rfl) (by kernel_rfl) (fun _ _ _ h => h) (Or.inl ⟨by rfl, fun w => by go_simp⟩) ?_
  simp only [Act.put, List.getElem_toArray, List.getElem_cons_succ, List.getElem_cons_zero, List.setIfInBounds_toArray, List.set_cons_zero, List.set_cons_succ]
  refine wpAny_take (i := 1) (v := .pointer (some ⟨lb, 0, none⟩)) rfl (by kernel_rfl) (by kernel_rfl) (by kernel_rfl) (fun _ _ _ h => h) (Or.inl ⟨by rfl, fun w => by go_simp⟩) ?_
  simp only [Act.put, List.getElem_toArray, List.getElem_cons_succ, List.getElem_cons_zero, List.setIfInBounds_toArray, List.set_cons_zero, List.set_cons_succ]
  refine wpAny_take (i := 2) (v := .pointer (some ⟨lb, 7, none⟩)) rfl (by kernel_rfl) (by kernel_rfl) (by kernel_rfl) (fun _ _ _ h => h) (Or.inl ⟨by rfl, fun w => by go_simp⟩) ?_
  simp only [Act.put, List.getElem_toArray, List.getElem_cons_succ, List.getElem_cons_zero, List.setIfInBounds_toArray, List.set_cons_zero, List.set_cons_succ]
  refine wpAny_take (i := 4) (v := .int .i64 (k : Int)) rfl (by kernel_rfl) (by kernel_rfl) (by kernel_rfl) (fun _ _ _ h => h) (Or.inl ⟨by rfl, fun w => by go_simp⟩) ?_
  simp only [Act.put, List.getElem_toArray, List.getElem_cons_succ, List.getElem_cons_zero, List.setIfInBounds_toArray, List.set_cons_zero, List.set_cons_succ]
  refine wpAny_take (i := 7) (v := .int .i64 (k : Int)) rfl (by kernel_rfl) (by kernel_rfl) (by kernel_rfl) (fun _ _ _ h => h) (Or.inl ⟨by rfl, fun w => by go_simp⟩) ?_
  simp only [Act.put, List.getElem_toArray, List.getElem_cons_succ, List.getElem_cons_zero, List.setIfInBounds_toArray, List.set_cons_zero, List.set_cons_succ]
  refine wpAny_take (i := 8) (v := .pointer (some ⟨lb, 0, none⟩)) rfl (by kernel_rfl) (by kernel_rfl) (by kernel_rfl) (fun _ _ _ h => h) (Or.inl ⟨by rfl, fun w => by go_simp⟩) ?_
  simp only [Act.put, List.getElem_toArray, List.getElem_cons_succ, List.getElem_cons_zero, List.setIfInBounds_toArray, List.set_cons_zero, List.set_cons_succ]
  refine wpAny_take (i := 9) (v := .pointer (some ⟨lb, 0, none⟩)) rfl (by kernel_rfl) (by kernel_rfl) (by kernel_rfl) (fun _ _ _ h => h) (Or.inl ⟨by rfl, fun w => by go_simp⟩) ?_
  simp only [Act.put, List.getElem_toArray, List.getElem_cons_succ, List.getElem_cons_zero, List.setIfInBounds_toArray, List.set_cons_zero, List.set_cons_succ]
  refine wpAny_take (i := 10) (v := .pointer (some ⟨lb, 5, none⟩)) rfl (by kernel_rfl) (by kernel_rfl) (by kernel_rfl) (fun _ _ _ h => h) (Or.inl ⟨by rfl, fun w => by go_simp⟩) ?_
  simp only [Act.put, List.getElem_toArray, List.getElem_cons_succ, List.getElem_cons_zero, List.setIfInBounds_toArray, List.set_cons_zero, List.set_cons_succ]
  refine wpAny_take (i := 12) (v := .int .i64 (k : Int)) rfl (by kernel_rfl) (by kernel_rfl) (by kernel_rfl) (fun _ _ _ h => h) (Or.inl ⟨by rfl, fun w => by go_simp⟩) ?_
  simp only [Act.put, List.getElem_toArray, List.getElem_cons_succ, List.getElem_cons_zero, List.setIfInBounds_toArray, List.set_cons_zero, List.set_cons_succ]
  refine wpAny_take (i := 13) (v := .pointer (some ⟨lb, 0, none⟩)) rfl (by kernel_rfl) (by kernel_rfl) (by kernel_rfl) (fun _ _ _ h => h) (Or.inl ⟨by rfl, fun w => by go_simp⟩) ?_
  simp only [Act.put, List.getElem_toArray, List.getElem_cons_succ, List.getElem_cons_zero, List.setIfInBounds_toArray, List.set_cons_zero, List.set_cons_succ]
  refine wpAny_take (i := 14) (v := .pointer (some ⟨lb, 0, none⟩)) rfl (by kernel_rfl) (by kernel_rfl) (by kernel_rfl) (fun _ _ _ h => h) (Or.inl ⟨by rfl, fun w => by go_simp⟩) ?_
  simp only [Act.put, List.getElem_toArray, List.getElem_cons_succ, List.getElem_cons_zero, List.setIfInBounds_toArray, List.set_cons_zero, List.set_cons_succ]
  refine wpAny_take (i := 15) (v := .pointer (some ⟨lb, 6, none⟩)) rfl (by kernel_rfl) (by kernel_rfl) (by kernel_rfl) (fun _ _ _ h => h) (Or.inl ⟨by rfl, fun w => by go_simp⟩) ?_
  simp only [Act.put, List.getElem_toArray, List.getElem_cons_succ, List.getElem_cons_zero, List.setIfInBounds_toArray, List.set_cons_zero, List.set_cons_succ]
  refine wpAny_take (i := 18) (v := .slice ta tt.length tcap) rfl (by kernel_rfl) (by kernel_rfl) (by kernel_rfl) (fun _ _ _ h => h) (Or.inl ⟨by rfl, fun w => by go_simp⟩) ?_
  simp only [Act.put, List.getElem_toArray, List.getElem_cons_succ, List.getElem_cons_zero, List.setIfInBounds_toArray, List.set_cons_zero, List.set_cons_succ]
  refine wpAny_take (i := 19) (v := .int .i64 ((k : Int) * 60)) rfl (by kernel_rfl) (by kernel_rfl) (by kernel_rfl) (fun _ _ _ h => h) (Or.inl ⟨by rfl, fun w => by go_simp⟩) ?_
  simp only [Act.put, List.getElem_toArray, List.getElem_cons_succ, List.getElem_cons_zero, List.setIfInBounds_toArray, List.set_cons_zero, List.set_cons_succ]
  refine wpAny_take (i := 20) (v := .int .i64 (m : Int)) rfl (by kernel_rfl) (by kernel_rfl) (by kernel_rfl) (fun _ _ _ h => h) (Or.inl ⟨by rfl, fun w => by go_simp⟩) ?_
  simp only [Act.put, List.getElem_toArray, List.getElem_cons_succ, List.getElem_cons_zero, List.setIfInBounds_toArray, List.set_cons_zero, List.set_cons_succ]
  have hsl : ∀ w' : World, (Instr.slice 52 (.slice ta tt.length tcap) (some (.int .i64 ((k : Int) * 60))) (some (.int .i64 (m : Int))) none).run Try.prog w' = .ok (.slice sa sl sc) w' := fun w' => by
    have h0 := run_byLH ta tt.length tcap (k * 60) m m1 m2 w'
    rw [show ((k * 60 : Nat) : Int) = (k : Int) * 60 from by omega, HSA.out.1, HSA.out.2.1, HSA.out.2.2] at h0
    exact h0
  refine wpAny_take (i := 21) (v := .slice sa sl sc) rfl (by kernel_rfl) (by kernel_rfl) (by kernel_rfl) (fun _ _ _ h => h) (Or.inl ⟨by rfl, fun w => by go_simp⟩) ?_
  simp only [Act.put, List.getElem_toArray, List.getElem_cons_succ, List.getElem_cons_zero, List.setIfInBounds_toArray, List.set_cons_zero, List.set_cons_succ]
  clear hsl
  refine any_of_L (g := 23) (T := fun u => u = V) _ _ _ _ ?_
  refine L_takeC [23, 22, 6, 5] (i := 3) (v := .slice (some ⟨g, 0, none⟩) wh.length wc) rfl (by kernel_rfl) (by kernel_rfl) (by decide) (by kernel_rfl) (by kernel_rfl) (by kernel_rfl) (by kernel_rfl) (fun _ _ _ h => h) (Or.inl ⟨by rfl, fun w' hw' => by have c0 : w'.cell? ⟨lb, 7, none⟩ = some (.slice (some ⟨g, 0, none⟩) wh.length wc) := (by rw [hw', HD.out.1.at]; rfl); clear hw'; go_simp⟩) rfl ?_
  simp only [Act.put, List.getElem_toArray, List.getElem_cons_succ, List.getElem_cons_zero, List.setIfInBounds_toArray, List.set_cons_zero, List.set_cons_succ]
  refine L_takeC [23, 22] (i := 11) (v := .int .i64 (s.sit : Int)) rfl (by kernel_rfl) (by kernel_rfl) (by decide) (by kernel_rfl) (by kernel_rfl) (by kernel_rfl) (by kernel_rfl) (fun _ _ _ h => h) (Or.inl ⟨by rfl, fun w' hw' => by have c0 : w'.cell? ⟨lb, 5, none⟩ = some (.int .i64 (s.sit : Int)) := (by rw [hw', HD.out.1.at]; rfl); clear hw'; go_simp⟩) rfl ?_
  simp only [Act.put, List.getElem_toArray, List.getElem_cons_succ, List.getElem_cons_zero, List.setIfInBounds_toArray, List.set_cons_zero, List.set_cons_succ]
  refine L_takeC [23, 22, 17] (i := 16) (v := .int .i64 (s.st : Int)) rfl (by kernel_rfl) (by kernel_rfl) (by decide) (by kernel_rfl) (by kernel_rfl) (by kernel_rfl) (by kernel_rfl) (fun _ _ _ h => h) (Or.inl ⟨by rfl, fun w' hw' => by have c0 : w'.cell? ⟨lb, 6, none⟩ = some (.int .i64 (s.st : Int)) := (by rw [hw', HD.out.1.at]; rfl); clear hw'; go_simp⟩) rfl ?_
  simp only [Act.put, List.getElem_toArray, List.getElem_cons_succ, List.getElem_cons_zero, List.setIfInBounds_toArray, List.set_cons_zero, List.set_cons_succ]
  refine L_takeC [23, 22, 6] (i := 5) (v := .pointer (some ⟨g, k, none⟩)) rfl (by kernel_rfl) (by kernel_rfl) (by decide) (by kernel_rfl) (by kernel_rfl) (by kernel_rfl) (by kernel_rfl) (fun _ _ _ h => h) (Or.inl ⟨by rfl, fun w' hw' => by clear hw'; go_simp⟩) rfl ?_
  simp only [Act.put, List.getElem_toArray, List.getElem_cons_succ, List.getElem_cons_zero, List.setIfInBounds_toArray, List.set_cons_zero, List.set_cons_succ]
  refine L_takeC [23, 22] (i := 6) (v := .int .i64 ((wk : Nat) : Int)) rfl (by kernel_rfl) (by kernel_rfl) (by decide) (by kernel_rfl) (by kernel_rfl) (by kernel_rfl) (by kernel_rfl) (fun _ _ _ h => h) (Or.inl ⟨by rfl, fun w' hw' => by have c0 : w'.cell? ⟨g, k, none⟩ = some (.int .i64 ((wk : Nat) : Int)) := (by rw [hw']; exact HD.out.2); clear hw'; go_simp⟩) rfl ?_
  simp only [Act.put, List.getElem_toArray, List.getElem_cons_succ, List.getElem_cons_zero, List.setIfInBounds_toArray, List.set_cons_zero, List.set_cons_succ]
  refine L_takeC [23, 22] (i := 17) (v := .bool fb) rfl (by kernel_rfl) (by kernel_rfl) (by decide) (by kernel_rfl) (by kernel_rfl) (by kernel_rfl) (by kernel_rfl) (fun _ _ _ h => h) (Or.inl ⟨by rfl, fun w' hw' => by clear hw'; go_simp⟩) rfl ?_
  simp only [Act.put, List.getElem_toArray, List.getElem_cons_succ, List.getElem_cons_zero, List.setIfInBounds_toArray, List.set_cons_zero, List.set_cons_succ]
  refine L_takeC [23] (i := 22) (v := .agg #[.int .i64 ((wk : Nat) : Int), .int .i64 (k : Int), .int .i64 (s.sit : Int), .bool fb, .slice sa sl sc]) rfl (by kernel_rfl) (by kernel_rfl) (by decide) (by kernel_rfl) (by kernel_rfl) (by kernel_rfl) (by kernel_rfl) (fun _ _ _ h => h) ?_ rfl ?_
  · refine yields_build_run (by rfl) 106 _ (by rfl) #[(0, .int .i64 ((wk : Nat) : Int)), (1, .int .i64 (k : Int)), (2, .int .i64 (s.sit : Int)), (3, .bool fb), (4, .slice sa sl sc)] (by simp [Act.eval]) ?_
    intro w' _
    exact build_pc5 _ _ _ _ _ _ _ w'
  simp only [Act.put, List.getElem_toArray, List.getElem_cons_succ, List.getElem_cons_zero, List.setIfInBounds_toArray, List.set_cons_zero, List.set_cons_succ]
  have hst := store_pcs (cs := [.int .i64 ((wk : Nat) : Int), .int .i64 (k : Int), .int .i64 (s.sit : Int), .bool fb, .slice sa sl sc]) (cs' := pc0C.toList) rfl rfl (by simp [Value.oneCell']) HR0.out.1
  have HE : Hid ((V.setRow W.heap.size [.int .i64 ((wk : Nat) : Int), .int .i64 (k : Int), .int .i64 (s.sit : Int), .bool fb, .slice sa sl sc].toArray).heap[W.heap.size]? = some (.cells [.int .i64 ((wk : Nat) : Int), .int .i64 (k : Int), .int .i64 (s.sit : Int), .bool fb, .slice sa sl sc].toArray 106 (0, 0)) ∧ Below W.heap.size W (V.setRow W.heap.size [.int .i64 ((wk : Nat) : Int), .int .i64 (k : Int), .int .i64 (s.sit : Int), .bool fb, .slice sa sl sc].toArray)) := ⟨setRow_heap V _ _ _ _ _ HR0.out.1, setRow_below HR0.out.2 (Nat.le_refl _)⟩
  refine L_go (by kernel_rfl) (by kernel_rfl) ?_
  refine wpOp_step rfl ?_
  intro K hK
  rw [if_pos (by rfl)]
  have hK' : Shut (∀ a w, _ → K a w) := hK
  clear hK
  refine wp_store_run 106 _ _ rfl _ _ (by rfl) (by rfl) hst ?_
  refine hK'.out _ _ ?_
  clear hK' K
  refine wpAny_done (by kernel_rfl) ?_ _
  go_wp2
  refine bodyPost_ret (results_cell_row rfl _ _ W.heap.size 106 _ (0, 0) _ (by rfl) HE.out.1 Try.underlying106 rfl pc_size) rfl ?_
  exact ⟨rfl, HE.out.2⟩
/-- All that is done with a piece. -/
theorem pcw_any (a : LgAt w W p nb sb cv n D lb fr mn tv wv s tx wh) (ta : Option Addr) (tt : List UInt8) (tcap : Nat) (ht : IsBy W ta tt tcap) (hta : tcap = 0 ∨ ta ≠ none) (k : Nat) (hk : k < wh.length) (hk6 : k * 60 ≤ tt.length) (hk256 : k < 256) (hl : tt.length ≤ 100000) (hi : fr + wh.getD k 0 < n) (hn : n ≤ 200) (hsit : s.sit < 65536) (hs : D.lim 1000000) :
    ∃ x : Pm, ∀ u, Below W.heap.size W u → (Instr.loadAt 77 (.pointer (some ⟨lb, 0, none⟩))).run Try.prog u = .ok (.agg #[.pointer (some ⟨p, 0, none⟩), .int .i64 (fr : Int), .int .i64 (mn : Int)]) u ∧
      Hid (Calls Try.prog 66 #[.pointer (some ⟨lb, 0, none⟩), .slice ta tt.length tcap, .int .i64 (k : Int)] u fun e w' => e = .returned (.agg x.cells.toArray) ∧ Hid (Below u.heap.size u w')) ∧
      Hid (Calls Try.prog 67 #[.agg #[.pointer (some ⟨p, 0, none⟩), .int .i64 (fr : Int), .int .i64 (mn : Int)], .agg x.cells.toArray] u fun e w' => e = .returned (.bool (hasP D (fr + wh.getD k 0) (pcB (pcAt s tt k)))) ∧ Hid (Below u.heap.size u w')) ∧
      Hid (Calls Try.prog 65 #[.agg #[.pointer (some ⟨p, 0, none⟩), .int .i64 (fr : Int), .int .i64 (mn : Int)], .agg x.cells.toArray] u fun e w' => e = .returned (enE (wrR D (fr + wh.getD k 0) (pcB (pcAt s tt k))).1) ∧ ∃ cv', Hid (LgAt w w' p nb sb cv' n (wrR D (fr + wh.getD k 0) (pcB (pcAt s tt k))).2 lb fr mn tv wv s tx wh) ∧ Hid (Keeps w.heap.size dkT W w')) := by
  have hlen := pcAt_len s tt k
  refine ⟨⟨wh.getD k 0, pcAt s tt k, slA ta tcap (k * 60), tcap - k * 60⟩, fun u hu => ?_⟩
  have a' := a.below hu
  have ht' := ht.below hu
  have hcap : tt.length ≤ tcap := ht.cap
  have hby : IsBy u (slA ta tcap (k * 60)) (pcAt s tt k).byt (tcap - k * 60) := by
    have := isBy_mid ht' (k * 60) (min tt.length (k * 60 + 60)) (by omega) (by omega)
    exact this
  have hne : tcap - k * 60 = 0 ∨ slA ta tcap (k * 60) ≠ none := by
    rcases hta with h | h
    · left; omega
    · right; exact slA_ne h _ _
  refine ⟨load_area a'.box, pieceL_any a' ta tt tcap ht' k hk hk6 hk256 hl, ?_⟩
  refine ⟨hasPiece_any a'.tn fr mn ⟨wh.getD k 0, pcAt s tt k, slA ta tcap (k * 60), tcap - k * 60⟩ hby hne hi hn (by simp only; omega) hk256 hsit, ?_⟩
  refine (writePieceA a'.tn fr mn ⟨wh.getD k 0, pcAt s tt k, slA ta tcap (k * 60), tcap - k * 60⟩ hby hne hi hn (by simp only; omega) hk256 hsit hs).mono ?_
  rintro e w' ⟨rfl, cv', h1, h2⟩
  exact ⟨rfl, cv', a'.disk h1.out h2.out, (Keeps.of_below hu).trans h2.out⟩
end
end Go.Proofs.Ytijjegkkeigeoaa

namespace Go.Proofs.Ytijjegkkeigeoaa
set_option linter.unusedVariables false
set_option linter.unusedSimpArgs false
set_option maxRecDepth 100000
set_option maxHeartbeats 2000000
open Go.RowKit Go.Lib
/-- A row is the old one, or a new one. -/
def OldNew (W : World) (v v' : Value) : Prop := v'.ownBlock = v.ownBlock ∨ ∃ b, v'.ownBlock = some b ∧ W.heap.size ≤ b
/-- What a log's calls keep. -/
structure LKeep (base lb : Nat) (tv wv tv' wv' : Value) (W U : World) : Prop where
  os : U.os = W.os
  tape : U.tape = W.tape
  output : U.output = W.output
  size : W.heap.size ≤ U.heap.size
  block : ∀ b, b < W.heap.size → (b < base ∨ (b ≠ lb ∧ tv.ownBlock ≠ some b ∧ wv.ownBlock ≠ some b ∧ ∀ cs t fr, W.heap[b]? = some (.cells cs t fr) → t ∉ dkT)) → U.heap[b]? = W.heap[b]?
  tx : OldNew W tv tv'
  wh : OldNew W wv wv'
section
variable {base lb : Nat} {tv wv tv' wv' tv2 wv2 : Value} {W U V : World}
theorem OldNew.refl (W : World) (v : Value) : OldNew W v v := .inl rfl
theorem OldNew.trans {v v' v2 : Value} (h : OldNew W v v') (h2 : OldNew U v' v2) (hs : W.heap.size ≤ U.heap.size) : OldNew W v v2 := by
  rcases h2 with e | ⟨b, e, hb⟩
  · rcases h with e1 | ⟨b, e1, hb⟩
    · exact .inl (e.trans e1)
    · exact .inr ⟨b, e.trans e1, hb⟩
  · exact .inr ⟨b, e, Nat.le_trans hs hb⟩
theorem OldNew.ne {v v' : Value} (h : OldNew W v v') {b : Nat} (hb : b < W.heap.size) (hn : v.ownBlock ≠ some b) : v'.ownBlock ≠ some b := by
  rcases h with e | ⟨c, e, hc⟩
  · rw [e]; exact hn
  · rw [e]
    intro e2
    cases e2
    omega
theorem LKeep.refl (base lb : Nat) (tv wv : Value) (W : World) : LKeep base lb tv wv tv wv W W := ⟨rfl, rfl, rfl, Nat.le_refl _, fun _ _ _ => rfl, .refl _ _, .refl _ _⟩
theorem LKeep.trans (h : LKeep base lb tv wv tv' wv' W U) (k : LKeep base lb tv' wv' tv2 wv2 U V) : LKeep base lb tv wv tv2 wv2 W V :=
  ⟨k.os.trans h.os, k.tape.trans h.tape, k.output.trans h.output, Nat.le_trans h.size k.size, fun b hb hc => by
    have e := h.block b hb hc
    refine (k.block b (Nat.lt_of_lt_of_le hb h.size) ?_).trans e
    rcases hc with hc | ⟨h1, h2, h3, h4⟩
    · exact .inl hc
    · exact .inr ⟨h1, h.tx.ne hb h2, h.wh.ne hb h3, fun cs t fr e' => h4 cs t fr (by rw [← e]; exact e')⟩, h.tx.trans k.tx h.size, h.wh.trans k.wh h.size⟩
theorem LKeep.of_keeps (h : Keeps base dkT W U) : LKeep base lb tv wv tv wv W U :=
  ⟨h.os, h.tape, h.output, h.size, fun b hb hc => h.block b hb (by
    rcases hc with hc | hc
    · exact .inl hc
    · exact .inr hc.2.2.2), .refl _ _, .refl _ _⟩
theorem LKeep.of_below (h : Below W.heap.size W U) : LKeep base lb tv wv tv wv W U := ⟨h.os, h.tape, h.output, h.size, fun b hb _ => h.block b hb, .refl _ _, .refl _ _⟩
theorem LKeep.widen (h : LKeep base lb .nilIface wv .nilIface wv' W U) (tv : Value) : LKeep base lb tv wv tv wv' W U :=
  ⟨h.os, h.tape, h.output, h.size, fun b hb hc => h.block b hb (by
    rcases hc with hc | hc
    · exact .inl hc
    · exact .inr ⟨hc.1, (fun e => by cases e), hc.2.2⟩), .refl _ _, h.wh⟩
/-- The log's own box is set. -/
theorem LKeep.setBox (h : LKeep base lb tv wv tv' wv' W U) (hl : base ≤ lb) (i : Nat) (v : Value) (hlt : U.heap.size ≤ (U.setCell ⟨lb, i, none⟩ v).heap.size) (ho : (U.setCell ⟨lb, i, none⟩ v).os = U.os) (ht : (U.setCell ⟨lb, i, none⟩ v).tape = U.tape) (hp : (U.setCell ⟨lb, i, none⟩ v).output = U.output) : LKeep base lb tv wv tv' wv' W (U.setCell ⟨lb, i, none⟩ v) :=
  ⟨ho.trans h.os, ht.trans h.tape, hp.trans h.output, Nat.le_trans h.size hlt, fun b hb hc => by
    refine (Below.heap_setCell _ _ _ _ (fun e => ?_)).trans (h.block b hb hc)
    simp only at e
    rcases hc with hc | hc
    · omega
    · exact hc.1 e, h.tx, h.wh⟩
end
section
variable {w W U : World} {p nb sb : Nat} {cv : Value} {n : Nat} {D : Dk} {lb fr mn : Nat} {tv wv : Value} {s : Ls} {tx : List UInt8} {wh : List Nat}
/-- The log's box and its places turn. -/
theorem LgAt.turn (a : LgAt w W p nb sb cv n D lb fr mn tv wv s tx wh) {wv' : Value} {s' : Ls} {wh' : List Nat} (ne : ∀ (j : Nat) (cs' : Array Value) (t' : TypeId), W.heap[j]? = some (.cells cs' t' (0, 0)) → t' ≠ 92 → t' ≠ 3 → U.heap[j]? = W.heap[j]?) (hbx : LgBox U lb p fr mn tv wv' s') (hwh : NaRow U w.heap.size wv' wh') (hbl : Below w.heap.size W U) : LgAt w U p nb sb cv n D lb fr mn tv wv' s' tx wh' := by
  have d := a.tn.1
  exact ⟨⟨⟨(ne _ _ _ d.box (by decide) (by decide)).trans d.box, (ne _ _ _ d.now (by decide) (by decide)).trans d.now, (ne _ _ _ d.safe (by decide) (by decide)).trans d.safe, d.ne, d.lp, d.ln, d.ls, ownsRow_keep d.chg (fun b' cs' e' _ => ne b' _ _ e' (by decide) (by decide)), d.ok⟩, a.tn.2.trans hbl⟩, hbx, ownsRow_keep a.tx (fun b' cs' e' _ => ne b' _ _ e' (by decide) (by decide)), hwh, a.llb⟩
/-- A piece has its place. -/
theorem place_none (a : LgAt w W p nb sb cv n D lb fr mn tv wv s tx wh) (k : Nat) (hk : k < wh.length) (hsf : s.sf ≤ k) (hl : wh.length ≤ 1000) :
    Calls Try.prog 64 #[.pointer (some ⟨lb, 0, none⟩), .int .i64 (k : Int)] W fun e w' => e = .returned (.tuple #[]) ∧ Still W w' := by
  obtain ⟨wa, wc, hwv⟩ := a.wh.shape
  have c7 : W.cell? ⟨lb, 7, none⟩ = some (.slice wa wh.length wc) := by rw [a.box.at, ← hwv]; rfl
  have c8 : W.cell? ⟨lb, 8, none⟩ = some (.int .i64 (s.sf : Int)) := by rw [a.box.at]; rfl
  have k1 : ¬ (k : Int) = (wh.length : Int) := by omega
  have k2 : ((k : Int) == (wh.length : Int)) = false := by rw [beq_eq_false_iff_ne]; exact k1
  have k3 : ¬ (k : Int) < (s.sf : Int) := by omega
  clear a hwv
  go_enter Try.func64, Try.ntmps64
  go_wp2
  go_end0
  exact ⟨rfl, Still.refl _⟩
/-- A new piece gets a place. -/
theorem place_new (a : LgAt w W p nb sb cv n D lb fr mn tv wv s tx wh) (hl : wh.length ≤ 1000) :
    Calls Try.prog 64 #[.pointer (some ⟨lb, 0, none⟩), .int .i64 (wh.length : Int)] W fun e w' => e = .returned (.tuple #[]) ∧ ∃ f wv', IsFree s.old wh f ∧ Hid (LgAt w w' p nb sb cv n D lb fr mn tv wv' s tx (wh ++ [f])) ∧ Hid (LKeep w.heap.size lb .nilIface wv .nilIface wv' W w') := by
  obtain ⟨wa, wc, hwv⟩ := a.wh.shape
  have c7 : W.cell? ⟨lb, 7, none⟩ = some (.slice wa wh.length wc) := by rw [a.box.at, ← hwv]; rfl
  have HAt : Hid (∀ U, Below W.heap.size W U → LgAt w U p nb sb cv n D lb fr mn tv (.slice wa wh.length wc) s tx wh) := fun U hU => by rw [← hwv]; exact a.below hU
  have HDr : Hid (Below W.heap.size W W.drew) := ⟨rfl, rfl, rfl, Nat.le_refl _, fun _ _ => rfl⟩
  rw [hwv]
  clear a hwv
  go_enter Try.func64, Try.ntmps64
  go_upto_region 1 with fail
  refine wp_region_drawn (by kernel_rfl) ?_
  generalize W.drew = v2 at *
  clear c7
  refine wpAny_take (i := 0) (v := .pointer (some ⟨lb, 0, none⟩)) rfl (by kernel_rfl) (by kernel_rfl) (by kernel_rfl) (fun _ _ _ h => h) (Or.inl ⟨by rfl, fun w => by go_simp⟩) ?_
  simp only [Act.put, List.getElem_toArray, List.getElem_cons_succ, List.getElem_cons_zero, List.setIfInBounds_toArray, List.set_cons_zero, List.set_cons_succ]
  refine wpAny_take (i := 1) (v := .pointer (some ⟨lb, 0, none⟩)) rfl (by kernel_rfl) (by kernel_rfl) (by kernel_rfl) (fun _ _ _ h => h) (Or.inl ⟨by rfl, fun w => by go_simp⟩) ?_
  simp only [Act.put, List.getElem_toArray, List.getElem_cons_succ, List.getElem_cons_zero, List.setIfInBounds_toArray, List.set_cons_zero, List.set_cons_succ]
  refine wpAny_take (i := 2) (v := .pointer (some ⟨lb, 0, none⟩)) rfl (by kernel_rfl) (by kernel_rfl) (by kernel_rfl) (fun _ _ _ h => h) (Or.inl ⟨by rfl, fun w => by go_simp⟩) ?_
  simp only [Act.put, List.getElem_toArray, List.getElem_cons_succ, List.getElem_cons_zero, List.setIfInBounds_toArray, List.set_cons_zero, List.set_cons_succ]
  refine wpAny_take (i := 3) (v := .pointer (some ⟨lb, 7, none⟩)) rfl (by kernel_rfl) (by kernel_rfl) (by kernel_rfl) (fun _ _ _ h => h) (Or.inl ⟨by rfl, fun w => by go_simp⟩) ?_
  simp only [Act.put, List.getElem_toArray, List.getElem_cons_succ, List.getElem_cons_zero, List.setIfInBounds_toArray, List.set_cons_zero, List.set_cons_succ]
  refine wpAny_take (i := 5) (v := .pointer (some ⟨lb, 0, none⟩)) rfl (by kernel_rfl) (by kernel_rfl) (by kernel_rfl) (fun _ _ _ h => h) (Or.inl ⟨by rfl, fun w => by go_simp⟩) ?_
  simp only [Act.put, List.getElem_toArray, List.getElem_cons_succ, List.getElem_cons_zero, List.setIfInBounds_toArray, List.set_cons_zero, List.set_cons_succ]
  refine any_of_L (g := 8) (T := fun u => Below W.heap.size W u) _ _ _ _ ?_
  refine L_take (i := 4) (v := .slice wa wh.length wc) rfl rfl (by kernel_rfl) (by decide) (by kernel_rfl) (by kernel_rfl) (by kernel_rfl) (by kernel_rfl) (fun _ _ _ h => h) (Or.inl ⟨by rfl, fun w' hw' => by have c0 : w'.cell? ⟨lb, 7, none⟩ = some (.slice wa wh.length wc) := (by rw [(HAt.out w' hw').box.at]; rfl); clear hw'; go_simp⟩) HDr.out ?_
  simp only [Act.put, List.getElem_toArray, List.getElem_cons_succ, List.getElem_cons_zero, List.setIfInBounds_toArray, List.set_cons_zero, List.set_cons_succ]
  have HFr : Hid (Calls _ _ _ v2 _) := free_any (HAt.out v2 HDr.out) hl
  refine L_one (i := 6) (by kernel_rfl) ?_
  refine wpOp_step rfl ?_
  intro K hK
  rw [if_pos (by rfl)]
  have hK' : Shut (∀ a w, _ → K a w) := hK
  clear hK
  go_wp2_with fail
  refine HFr.out.mono ?_
  rintro e v5 ⟨f, rfl, hf, hs5⟩
  have H5 : Hid (Below W.heap.size W v5) := HDr.out.trans ((hs5.below _).mono HDr.out.size)
  have HIf : Hid (IsFree s.old wh f) := hf
  refine hK'.out _ _ ⟨H5.out, ?_⟩
  clear hK' K hs5 hf HFr HDr
  try simp only [Act.put, List.getElem_toArray, List.getElem_cons_succ, List.getElem_cons_zero, List.setIfInBounds_toArray, List.set_cons_zero, List.set_cons_succ]
  refine L_one (i := 7) (by kernel_rfl) ?_
  refine wpOp_step rfl ?_
  intro K hK
  rw [if_pos (by rfl)]
  have hK' : Shut (∀ a w, _ → K a w) := hK
  clear hK
  go_wp2_with fail
  obtain ⟨v3, hv3⟩ : ∃ v3, v5.alloc (.cells #[.int .i64 (f : Int)] 3) = v3 := ⟨_, rfl⟩
  have hb23 : Below v5.heap.size v5 v3 := by rw [← hv3]; exact (Below.refl _ v5).alloc (Nat.le_refl _) _
  have H3 : Hid (Below W.heap.size W v3) := H5.out.trans (hb23.mono H5.out.size)
  have hr3 : v3.heap[v5.heap.size]? = some (.cells #[.int .i64 (f : Int)] 3 (0, 0)) := by rw [← hv3]; exact new_heap v5 _
  have a3 := HAt.out v3 H3.out
  rw [hv3]
  refine hK'.out _ _ ⟨H3.out, ?_⟩
  clear hK' K hv3 hb23 HAt
  try simp only [Act.put, List.getElem_toArray, List.getElem_cons_succ, List.getElem_cons_zero, List.setIfInBounds_toArray, List.set_cons_zero, List.set_cons_succ]
  refine L_go (by kernel_rfl) (by kernel_rfl) ?_
  obtain ⟨v8, w8, h1, h2, h3, h4, h5⟩ := run_appN v3 37 w.heap.size (.slice wa wh.length wc) wh f v5.heap.size a3.wh hr3 (a3.tn.2.size) (by omega)
  obtain ⟨a8, c8, hv8⟩ := h2.shape
  obtain ⟨l8, hl8⟩ : ∃ l8, (wh ++ [f]).length = l8 := ⟨_, rfl⟩
  rw [hl8] at hv8
  subst hv8
  clear hl8
  have hbx8 : LgBox w8 lb p fr mn tv (.slice wa wh.length wc) s := (h4 lb a3.box.lt (a3.wh.own_ne a3.box (by decide))).trans a3.box
  have e7 : w8.cell? ⟨lb, 7, none⟩ = some (.slice wa wh.length wc) := by rw [hbx8.at]; rfl
  have f7 := hbx8.fz 7
  have hbs : Below w.heap.size w8 (w8.setCell ⟨lb, 7, none⟩ (.slice a8 l8 c8)) := (Below.refl _ w8).setCell (p := ⟨lb, 7, none⟩) a3.llb _
  have HN : Hid (LgAt w (w8.setCell ⟨lb, 7, none⟩ (.slice a8 l8 c8)) p nb sb cv n D lb fr mn tv (.slice a8 l8 c8) s tx (wh ++ [f])) := by
    refine a3.turn (fun j cs' t' e' h1' h2' => ?_) (hbx8.set 7 _ rfl) ?_ (h3.trans hbs)
    · refine (Below.heap_setCell _ _ _ _ (fun e2 => ?_)).trans (h4 j (Array.getElem?_eq_some_iff.1 e').1 (a3.wh.own_ne e' h2'))
      simp only at e2
      have hh := a3.box
      unfold LgBox at hh
      rw [← e2, e'] at hh
      cases hh
      exact h1' rfl
    · refine ownsRow_keep h2 (fun b cs e _ => Below.heap_setCell _ _ _ _ (fun e2 => ?_))
      simp only at e2
      have hh := hbx8
      unfold LgBox at hh
      rw [← e2, e] at hh
      cases hh
  have HKp : Hid (LKeep w.heap.size lb .nilIface (.slice wa wh.length wc) .nilIface (.slice a8 l8 c8) W (w8.setCell ⟨lb, 7, none⟩ (.slice a8 l8 c8))) := by
    have k1 : LKeep w.heap.size lb .nilIface (.slice wa wh.length wc) .nilIface (.slice wa wh.length wc) W v3 := .of_below H3.out
    have k2 : LKeep w.heap.size lb .nilIface (.slice wa wh.length wc) .nilIface (.slice a8 l8 c8) v3 w8 := ⟨h3.os, h3.tape, h3.output, h3.size, fun b hb hc => by
      rcases hc with hc | hc
      · exact h3.block b hc
      · exact h4 b hb hc.2.2.1, .refl _ _, by
      rcases h5 with h5 | h5
      · exact .inl h5
      · exact .inr ⟨_, h5, Nat.le_refl _⟩⟩
    exact (k1.trans k2).setBox a3.llb 7 _ hbs.size hbs.os hbs.tape hbs.output
  clear a3 hbx8 h2 h3 h4 h5 hbs H3 H5 hr3
  refine wpOp_step rfl ?_
  intro K hK
  rw [if_pos (by rfl)]
  have hK' : Shut (∀ a w, _ → K a w) := hK
  clear hK
  refine wp_append_run (.tmp 16) (.tmp 19) 37 37 (by rfl) (.slice wa wh.length wc) (.slice (some ⟨v5.heap.size, 0, none⟩) 1 1) (by rfl) (by rfl) h1 ?_
  refine hK'.out _ _ ?_
  clear hK' K
  clear h1
  try simp only [Act.put, List.getElem_toArray, List.getElem_cons_succ, List.getElem_cons_zero, List.setIfInBounds_toArray, List.set_cons_zero, List.set_cons_succ]
  refine wpAny_take (i := 9) (v := .pointer (some ⟨lb, 0, none⟩)) rfl (by kernel_rfl) (by kernel_rfl) (by kernel_rfl) (fun _ _ _ h => h) (Or.inl ⟨by rfl, fun w => by go_simp⟩) ?_
  simp only [Act.put, List.getElem_toArray, List.getElem_cons_succ, List.getElem_cons_zero, List.setIfInBounds_toArray, List.set_cons_zero, List.set_cons_succ]
  refine wpAny_take (i := 10) (v := .pointer (some ⟨lb, 7, none⟩)) rfl (by kernel_rfl) (by kernel_rfl) (by kernel_rfl) (fun _ _ _ h => h) (Or.inl ⟨by rfl, fun w => by go_simp⟩) ?_
  simp only [Act.put, List.getElem_toArray, List.getElem_cons_succ, List.getElem_cons_zero, List.setIfInBounds_toArray, List.set_cons_zero, List.set_cons_succ]
  refine any_one (i := 11) (by kernel_rfl) ?_
  refine wpOp_step rfl ?_
  intro K hK
  rw [if_pos (by rfl)]
  have hK' : Shut (∀ a w, _ → K a w) := hK
  clear hK
  go_wp2_with fail
  refine hK'.out _ _ ?_
  clear hK' K
  refine wpAny_done (by kernel_rfl) ?_ _
  go_wp2
  go_end0
  exact ⟨rfl, f, _, HIf.out, HN, HKp⟩
end
end Go.Proofs.Ytijjegkkeigeoaa

namespace Go.Proofs.Ytijjegkkeigeoaa
open Go
set_option linter.unusedVariables false

section
variable {P : Program} {ops : Array Oper} {Q : Exit → Act → World → Prop} {md : Region.Mode} {T : World → Prop} {g : Nat}

theorem L_firstP {i : Nat} {oi : Oper} {v : Value} (hi : ops[i]? = some oi) (hgi : g ≠ i)
    (hsel : ∀ (j : Nat) (o : Oper) cs b, ops[j]? = some o → o.op ≠ .select cs b) (hQ : ∀ c a w, Q (.panic c) (a.put oi.dst v) w → Q (.panic c) a w) :
    ∀ (fuel : Nat) (listed : Array Bool) (a : Act) (w : World),
      (∀ j oj, ops[j]? = some oj → j ≠ i → listed.getD j true = false → (∀ e ∈ oj.after, Region.binds md e = true → e.on ≠ i) → oi.apart ops oj = true) →
      i ∈ Region.ready md ops listed → YieldsIf P ops (fun _ => True) oi v a → (listed.getD g true = false → T w) →
      wpAnyL P md ops Q g T fuel (listed.setIfInBounds i true) (a.put oi.dst v) w → wpAnyL P md ops Q g T (fuel + 1) listed a w := by
  have hset : ∀ listed : Array Bool, (listed.setIfInBounds i true).getD g true = listed.getD g true := fun listed => getD_set_ne true (Ne.symm hgi)
  intro fuel
  induction fuel with
  | zero =>
    intro listed a w _ hr hy hT H
    refine ⟨fun h => (by rw [h] at hr; cases hr), fun j hj => ?_⟩
    by_cases hji : j = i
    · subst hji; exact hy.wpOp hi trivial ⟨fun h => hT (by rw [← hset]; exact h), H⟩
    · have := ready_mono hj hji
      rw [H.1] at this
      cases this
  | succ fuel ih =>
    intro listed a w hfree hr hy hT H
    refine ⟨fun h => (by rw [h] at hr; cases hr), fun j hj => ?_⟩
    by_cases hji : j = i
    · subst hji; exact hy.wpOp hi trivial ⟨fun h => hT (by rw [← hset]; exact h), H⟩
    · have h1 := H.2 j (ready_mono hj hji)
      obtain ⟨hjun, oj, hoj, hall⟩ := mem_ready.1 hj
      have hnot : ∀ e ∈ oj.after, Region.binds md e = true → e.on ≠ i := fun e he hb heq => by
        have h1 := hall e he hb
        have h0 := (mem_ready.1 hr).1
        rw [heq] at h1
        rcases Nat.lt_or_ge i listed.size with h' | h'
        · simp [h'] at h0 h1; rw [h0] at h1; cases h1
        · simp [Array.getElem?_eq_none h'] at h1
      have h2 := wpOp_putIf hoj (hfree j oj hoj hji hjun hnot) (fun cs b => hsel i oi cs b hi) (fun cs b => hsel j oj cs b hoj) hQ hy h1
      have hfree' : ∀ k ok, ops[k]? = some ok → k ≠ i → (listed.setIfInBounds j true).getD k true = false →
          (∀ e ∈ ok.after, Region.binds md e = true → e.on ≠ i) → oi.apart ops ok = true := fun k ok hk hki hun hno => by
        refine hfree k ok hk hki ?_ hno
        by_cases hjk : j = k
        · subst hjk; exact hjun
        · rw [getD_set_ne true hjk] at hun; exact hun
      refine wpOp_mono (fun a' w' h3 => ?_) h2
      have hT' : (listed.setIfInBounds j true).getD g true = false → T w' := fun hg => h3.2.1 (by
        rw [Array.setIfInBounds_comm _ _ (Ne.symm hji), hset]
        exact hg)
      refine ⟨hT', ih (listed.setIfInBounds j true) a' w' hfree' (ready_mono hr (Ne.symm hji)) h3.1 hT' ?_⟩
      rw [Array.setIfInBounds_comm _ _ hji]
      exact h3.2.2

/-- The move of a walk. -/
theorem L_takeP {i : Nat} {oi : Oper} {v : Value} {fuel : Nat} {listed : Array Bool} {a : Act} {w : World} (hi : ops[i]? = some oi) (hgi : g ≠ i)
    (hs : Region.noSelect ops = true) (hf : Region.free md ops listed i = true) (hr : (Region.ready md ops listed).contains i = true)
    (hQ : ∀ c a w, Q (.panic c) (a.put oi.dst v) w → Q (.panic c) a w) (hy : YieldsIf P ops (fun _ => True) oi v a) (hT : T w)
    (h : wpAnyL P md ops Q g T fuel (listed.setIfInBounds i true) (a.put oi.dst v) w) : wpAnyL P md ops Q g T (fuel + 1) listed a w :=
  L_firstP hi hgi (Region.noSelect_spec hs) hQ fuel listed a w (Region.free_spec hi hf) (by simpa using hr) hy (fun _ => hT) h
end
end Go.Proofs.Ytijjegkkeigeoaa

namespace Go.Proofs.Ytijjegkkeigeoaa
set_option linter.unusedVariables false
set_option linter.unusedSimpArgs false
set_option maxRecDepth 100000
set_option maxHeartbeats 2000000
open Go.RowKit Go.Lib
theorem NaRow.set {W : World} {base g cap : Nat} {l : List Nat} (h : NaRow W base (.slice (some ⟨g, 0, none⟩) l.length cap) l) (k : Nat) (hk : k < l.length) (x : Nat) : NaRow (W.setCell ⟨g, k, none⟩ (.int .i64 (x : Int))) base (.slice (some ⟨g, 0, none⟩) l.length cap) (l.set k x) := by
  rcases h.2 with ⟨hv, hn⟩ | ⟨g1, c1, cur, hv, hb, hg, h1, h2, h3, ht⟩
  · cases hv
  · cases hv
    refine ⟨by simp [naC], .inr ⟨g, cap, cur.setIfInBounds k (.int .i64 (x : Int)), by rw [List.length_set], hb, ?_, by rw [List.length_set]; exact h1, h2, by simpa using h3, ?_⟩⟩
    · rw [setCell_eq_setRow W g k _ _ (0, 0) _ hg, setRow_heap W g _ _ _ (0, 0) hg]
    · rw [List.length_set, Array.toList_setIfInBounds, List.take_set, ht]
      simp [naC, List.map_set]
section
variable {w W U : World} {p nb sb : Nat} {cv : Value} {n : Nat} {D : Dk} {lb fr mn : Nat} {tv wv : Value} {s : Ls} {tx : List UInt8} {wh : List Nat}
theorem place_move (a : LgAt w W p nb sb cv n D lb fr mn tv wv s tx wh) (k : Nat) (hk : k < wh.length) (hsf : k < s.sf) (hl : wh.length ≤ 1000) :
    Calls Try.prog 64 #[.pointer (some ⟨lb, 0, none⟩), .int .i64 (k : Int)] W fun e w' => e = .returned (.tuple #[]) ∧ ∃ f, IsFree s.old wh f ∧ Hid (LgAt w w' p nb sb cv n D lb fr mn tv wv { s with old := wh.getD k 0, sf := k } tx (wh.set k f)) ∧ Hid (LKeep w.heap.size lb .nilIface wv .nilIface wv W w') := by
  obtain ⟨g, wc, hwv, hgb, hcl, _⟩ := a.wh.cell k hk
  obtain ⟨wk, hwk⟩ : ∃ wk, wh.getD k 0 = wk := ⟨_, rfl⟩
  have HWk : Hid (wh.getD k 0 = wk) := hwk
  rw [hwk]
  clear hwk
  have c7 : W.cell? ⟨lb, 7, none⟩ = some (.slice (some ⟨g, 0, none⟩) wh.length wc) := by rw [a.box.at, ← hwv]; rfl
  have c8 : W.cell? ⟨lb, 8, none⟩ = some (.int .i64 (s.sf : Int)) := by rw [a.box.at]; rfl
  have k1 : ¬ (k : Int) = (wh.length : Int) := by omega
  have k2 : ((k : Int) == (wh.length : Int)) = false := by rw [beq_eq_false_iff_ne]; exact k1
  have k3 : (k : Int) < (s.sf : Int) := by omega
  have k4 : (k : Int) < (wh.length : Int) := by omega
  subst hwv
  have HAt : Hid (∀ U, Below W.heap.size W U → LgAt w U p nb sb cv n D lb fr mn tv (.slice (some ⟨g, 0, none⟩) wh.length wc) s tx wh ∧ U.cell? ⟨g, k, none⟩ = some (.int .i64 ((wk : Nat) : Int)) ∧ U.frozen? ⟨g, k, none⟩ = false) := fun U hU => by
    have a' := a.below hU
    obtain ⟨g', wc', e', _, h1, h2⟩ := a'.wh.cell k hk
    cases e'
    rw [HWk.out] at h1
    exact ⟨a', h1, h2⟩
  have HDr : Hid (Below W.heap.size W W.drew) := ⟨rfl, rfl, rfl, Nat.le_refl _, fun _ _ => rfl⟩
  have HG : Hid (w.heap.size ≤ g) := hgb
  clear a hcl
  go_enter Try.func64, Try.ntmps64
  go_upto_region 3 with fail
  refine wp_region_drawn (by kernel_rfl) ?_
  generalize W.drew = v2 at *
  clear c7 c8
  refine wpAny_take (i := 0) (v := .pointer (some ⟨lb, 0, none⟩)) rfl (by kernel_rfl) (by kernel_rfl) (by kernel_rfl) (fun _ _ _ h => h) (Or.inl ⟨by rfl, fun w => by go_simp⟩) ?_
  simp only [Act.put, List.getElem_toArray, List.getElem_cons_succ, List.getElem_cons_zero, List.setIfInBounds_toArray, List.set_cons_zero, List.set_cons_succ]
  refine wpAny_take (i := 1) (v := .pointer (some ⟨lb, 0, none⟩)) rfl (by kernel_rfl) (by kernel_rfl) (by kernel_rfl) (fun _ _ _ h => h) (Or.inl ⟨by rfl, fun w => by go_simp⟩) ?_
  simp only [Act.put, List.getElem_toArray, List.getElem_cons_succ, List.getElem_cons_zero, List.setIfInBounds_toArray, List.set_cons_zero, List.set_cons_succ]
  refine wpAny_take (i := 2) (v := .pointer (some ⟨lb, 0, none⟩)) rfl (by kernel_rfl) (by kernel_rfl) (by kernel_rfl) (fun _ _ _ h => h) (Or.inl ⟨by rfl, fun w => by go_simp⟩) ?_
  simp only [Act.put, List.getElem_toArray, List.getElem_cons_succ, List.getElem_cons_zero, List.setIfInBounds_toArray, List.set_cons_zero, List.set_cons_succ]
  refine wpAny_take (i := 3) (v := .pointer (some ⟨lb, 7, none⟩)) rfl (by kernel_rfl) (by kernel_rfl) (by kernel_rfl) (fun _ _ _ h => h) (Or.inl ⟨by rfl, fun w => by go_simp⟩) ?_
  simp only [Act.put, List.getElem_toArray, List.getElem_cons_succ, List.getElem_cons_zero, List.setIfInBounds_toArray, List.set_cons_zero, List.set_cons_succ]
  refine wpAny_take (i := 5) (v := .int .i64 (k : Int)) rfl (by kernel_rfl) (by kernel_rfl) (by kernel_rfl) (fun _ _ _ h => h) (Or.inl ⟨by rfl, fun w => by go_simp⟩) ?_
  simp only [Act.put, List.getElem_toArray, List.getElem_cons_succ, List.getElem_cons_zero, List.setIfInBounds_toArray, List.set_cons_zero, List.set_cons_succ]
  refine wpAny_take (i := 6) (v := .pointer (some ⟨lb, 0, none⟩)) rfl (by kernel_rfl) (by kernel_rfl) (by kernel_rfl) (fun _ _ _ h => h) (Or.inl ⟨by rfl, fun w => by go_simp⟩) ?_
  simp only [Act.put, List.getElem_toArray, List.getElem_cons_succ, List.getElem_cons_zero, List.setIfInBounds_toArray, List.set_cons_zero, List.set_cons_succ]
  refine wpAny_take (i := 7) (v := .pointer (some ⟨lb, 0, none⟩)) rfl (by kernel_rfl) (by kernel_rfl) (by kernel_rfl) (fun _ _ _ h => h) (Or.inl ⟨by rfl, fun w => by go_simp⟩) ?_
  simp only [Act.put, List.getElem_toArray, List.getElem_cons_succ, List.getElem_cons_zero, List.setIfInBounds_toArray, List.set_cons_zero, List.set_cons_succ]
  refine wpAny_take (i := 8) (v := .pointer (some ⟨lb, 7, none⟩)) rfl (by kernel_rfl) (by kernel_rfl) (by kernel_rfl) (fun _ _ _ h => h) (Or.inl ⟨by rfl, fun w => by go_simp⟩) ?_
  simp only [Act.put, List.getElem_toArray, List.getElem_cons_succ, List.getElem_cons_zero, List.setIfInBounds_toArray, List.set_cons_zero, List.set_cons_succ]
  refine wpAny_take (i := 10) (v := .int .i64 (k : Int)) rfl (by kernel_rfl) (by kernel_rfl) (by kernel_rfl) (fun _ _ _ h => h) (Or.inl ⟨by rfl, fun w => by go_simp⟩) ?_
  simp only [Act.put, List.getElem_toArray, List.getElem_cons_succ, List.getElem_cons_zero, List.setIfInBounds_toArray, List.set_cons_zero, List.set_cons_succ]
  refine wpAny_take (i := 13) (v := .pointer (some ⟨lb, 0, none⟩)) rfl (by kernel_rfl) (by kernel_rfl) (by kernel_rfl) (fun _ _ _ h => h) (Or.inl ⟨by rfl, fun w => by go_simp⟩) ?_
  simp only [Act.put, List.getElem_toArray, List.getElem_cons_succ, List.getElem_cons_zero, List.setIfInBounds_toArray, List.set_cons_zero, List.set_cons_succ]
  refine any_of_L (g := 17) (T := fun u => Below W.heap.size W u) _ _ _ _ ?_
  refine L_take (i := 4) (v := .slice (some ⟨g, 0, none⟩) wh.length wc) rfl rfl (by kernel_rfl) (by decide) (by kernel_rfl) (by kernel_rfl) (by kernel_rfl) (by kernel_rfl) (fun _ _ _ h => h) (Or.inl ⟨by rfl, fun w' hw' => by have c0 : w'.cell? ⟨lb, 7, none⟩ = some (.slice (some ⟨g, 0, none⟩) wh.length wc) := (by rw [(HAt.out w' hw').1.box.at]; rfl); clear hw'; go_simp⟩) HDr.out ?_
  simp only [Act.put, List.getElem_toArray, List.getElem_cons_succ, List.getElem_cons_zero, List.setIfInBounds_toArray, List.set_cons_zero, List.set_cons_succ]
  refine L_take (i := 9) (v := .slice (some ⟨g, 0, none⟩) wh.length wc) rfl rfl (by kernel_rfl) (by decide) (by kernel_rfl) (by kernel_rfl) (by kernel_rfl) (by kernel_rfl) (fun _ _ _ h => h) (Or.inl ⟨by rfl, fun w' hw' => by have c0 : w'.cell? ⟨lb, 7, none⟩ = some (.slice (some ⟨g, 0, none⟩) wh.length wc) := (by rw [(HAt.out w' hw').1.box.at]; rfl); clear hw'; go_simp⟩) HDr.out ?_
  simp only [Act.put, List.getElem_toArray, List.getElem_cons_succ, List.getElem_cons_zero, List.setIfInBounds_toArray, List.set_cons_zero, List.set_cons_succ]
  refine L_take (i := 11) (v := .pointer (some ⟨g, k, none⟩)) rfl rfl (by kernel_rfl) (by decide) (by kernel_rfl) (by kernel_rfl) (by kernel_rfl) (by kernel_rfl) (fun _ _ _ h => h) (Or.inl ⟨by rfl, fun w' hw' => by clear hw'; go_simp⟩) HDr.out ?_
  simp only [Act.put, List.getElem_toArray, List.getElem_cons_succ, List.getElem_cons_zero, List.setIfInBounds_toArray, List.set_cons_zero, List.set_cons_succ]
  refine L_take (i := 12) (v := .int .i64 ((wk : Nat) : Int)) rfl rfl (by kernel_rfl) (by decide) (by kernel_rfl) (by kernel_rfl) (by kernel_rfl) (by kernel_rfl) (fun _ _ _ h => h) (Or.inl ⟨by rfl, fun w' hw' => by have c0 := (HAt.out w' hw').2.1; clear hw'; go_simp⟩) HDr.out ?_
  simp only [Act.put, List.getElem_toArray, List.getElem_cons_succ, List.getElem_cons_zero, List.setIfInBounds_toArray, List.set_cons_zero, List.set_cons_succ]
  have HFr : Hid (Calls _ _ _ v2 _) := free_any (HAt.out v2 HDr.out).1 hl
  refine L_one (i := 14) (by kernel_rfl) ?_
  refine wpOp_step rfl ?_
  intro K hK
  rw [if_pos (by rfl)]
  have hK' : Shut (∀ a w, _ → K a w) := hK
  clear hK
  go_wp2_with fail
  refine HFr.out.mono ?_
  rintro e v5 ⟨f, rfl, hf, hs5⟩
  have H5 : Hid (Below W.heap.size W v5) := HDr.out.trans ((hs5.below _).mono HDr.out.size)
  have HIf : Hid (IsFree s.old wh f) := hf
  refine hK'.out _ _ ⟨H5.out, ?_⟩
  clear hK' K hs5 hf HFr HDr
  try simp only [Act.put, List.getElem_toArray, List.getElem_cons_succ, List.getElem_cons_zero, List.setIfInBounds_toArray, List.set_cons_zero, List.set_cons_succ]
  refine L_takeP (i := 15) (v := .pointer (some ⟨lb, 0, none⟩)) rfl (by decide) (by kernel_rfl) (by kernel_rfl) (by kernel_rfl) (fun _ _ _ h => h) (Or.inl ⟨by rfl, fun w' _ => by go_simp⟩) H5.out ?_
  simp only [Act.put, List.getElem_toArray, List.getElem_cons_succ, List.getElem_cons_zero, List.setIfInBounds_toArray, List.set_cons_zero, List.set_cons_succ]
  refine L_takeP (i := 16) (v := .pointer (some ⟨lb, 9, none⟩)) rfl (by decide) (by kernel_rfl) (by kernel_rfl) (by kernel_rfl) (fun _ _ _ h => h) (Or.inl ⟨by rfl, fun w' _ => by go_simp⟩) H5.out ?_
  simp only [Act.put, List.getElem_toArray, List.getElem_cons_succ, List.getElem_cons_zero, List.setIfInBounds_toArray, List.set_cons_zero, List.set_cons_succ]
  obtain ⟨a5, c5, f5⟩ := HAt.out v5 H5.out
  have a6 := a5.set 9 (.int .i64 ((wk : Nat) : Int)) (s' := { s with old := wk }) rfl
  have hlg : lb ≠ g := fun e => by
    have hh := a5.box
    unfold LgBox at hh
    rcases a5.wh.2 with ⟨hv, _⟩ | ⟨g1, c1, cur, hv, _, hg, _⟩
    · cases hv
    · cases hv
      rw [← e, hh] at hg
      cases hg
  have e9 : v5.cell? ⟨lb, 9, none⟩ = some (.int .i64 (s.old : Int)) := by rw [a5.box.at]; rfl
  have f9 := a5.box.fz 9
  obtain ⟨w6, hw6⟩ : ∃ w6, v5.setCell ⟨lb, 9, none⟩ (.int .i64 ((wk : Nat) : Int)) = w6 := ⟨_, rfl⟩
  have K6 : Hid (LKeep w.heap.size lb .nilIface (.slice (some ⟨g, 0, none⟩) wh.length wc) .nilIface (.slice (some ⟨g, 0, none⟩) wh.length wc) W w6) := by
    have k1 : LKeep w.heap.size lb .nilIface (.slice (some ⟨g, 0, none⟩) wh.length wc) .nilIface (.slice (some ⟨g, 0, none⟩) wh.length wc) W v5 := .of_below H5.out
    have hbs : Below w.heap.size v5 (v5.setCell ⟨lb, 9, none⟩ (.int .i64 ((wk : Nat) : Int))) := (Below.refl _ v5).setCell (p := ⟨lb, 9, none⟩) a5.llb _
    rw [← hw6]
    exact k1.setBox a5.llb 9 _ hbs.size hbs.os hbs.tape hbs.output
  rw [hw6] at a6
  have hc6 : w6.cell? ⟨g, k, none⟩ = some (.int .i64 ((wk : Nat) : Int)) ∧ w6.frozen? ⟨g, k, none⟩ = false := by
    obtain ⟨g', wc', e', _, h1, h2⟩ := a6.wh.cell k hk
    cases e'
    rw [HWk.out] at h1
    exact ⟨h1, h2⟩
  obtain ⟨w7, hw7⟩ : ∃ w7, w6.setCell ⟨g, k, none⟩ (.int .i64 (f : Int)) = w7 := ⟨_, rfl⟩
  have hb7 : Below w.heap.size w6 w7 := by rw [← hw7]; exact (Below.refl _ w6).setCell (p := ⟨g, k, none⟩) HG.out _
  have hne7 : ∀ b, b ≠ g → w7.heap[b]? = w6.heap[b]? := fun b hb => by rw [← hw7]; exact Below.heap_setCell _ _ _ _ hb
  have a7 : LgAt w w7 p nb sb cv n D lb fr mn tv (.slice (some ⟨g, 0, none⟩) wh.length wc) { s with old := wk } tx (wh.set k f) := by
    have hrow := a6.wh.set k hk f
    rw [hw7] at hrow
    refine a6.turn (fun j cs' t' e' h1' h2' => hne7 j (fun e2 => ?_)) ((hne7 lb hlg).trans a6.box) (by unfold NaRow at hrow ⊢; exact hrow) hb7
    rcases a6.wh.2 with ⟨hv, _⟩ | ⟨g1, c1, cur, hv, _, hg, _⟩
    · cases hv
    · cases hv
      rw [← e2, e'] at hg
      cases hg
      exact h2' rfl
  have e8 : w7.cell? ⟨lb, 8, none⟩ = some (.int .i64 (s.sf : Int)) := by rw [a7.box.at]; rfl
  have f8 := a7.box.fz 8
  have a8 : Hid (LgAt w (w7.setCell ⟨lb, 8, none⟩ (.int .i64 (k : Int))) p nb sb cv n D lb fr mn tv (.slice (some ⟨g, 0, none⟩) wh.length wc) { s with old := wk, sf := k } tx (wh.set k f)) := a7.set 8 (.int .i64 (k : Int)) rfl
  have K8 : Hid (LKeep w.heap.size lb .nilIface (.slice (some ⟨g, 0, none⟩) wh.length wc) .nilIface (.slice (some ⟨g, 0, none⟩) wh.length wc) W (w7.setCell ⟨lb, 8, none⟩ (.int .i64 (k : Int)))) := by
    have k2 : LKeep w.heap.size lb .nilIface (.slice (some ⟨g, 0, none⟩) wh.length wc) .nilIface (.slice (some ⟨g, 0, none⟩) wh.length wc) w6 w7 := ⟨hb7.os, hb7.tape, hb7.output, hb7.size, fun b hb hc => by
      rcases hc with hc | hc
      · exact hb7.block b hc
      · exact hne7 b (fun e => hc.2.2.1 (by rw [e]; rfl)), .refl _ _, .refl _ _⟩
    have hbs : Below w.heap.size w7 (w7.setCell ⟨lb, 8, none⟩ (.int .i64 (k : Int))) := (Below.refl _ w7).setCell (p := ⟨lb, 8, none⟩) a7.llb _
    exact (K6.out.trans k2).setBox a7.llb 8 _ hbs.size hbs.os hbs.tape hbs.output
  obtain ⟨c6, f6⟩ := hc6
  clear a5 a6 a7 hb7 hne7 K6 H5 HAt HG hlg hgb c5 f5
  refine L_go (by kernel_rfl) (by kernel_rfl) ?_
  refine wpOp_step rfl ?_
  intro K hK
  rw [if_pos (by rfl)]
  have hK' : Shut (∀ a w, _ → K a w) := hK
  clear hK
  go_wp2_with fail
  try rw [hw6]
  clear hw6 e9 f9
  refine hK'.out _ _ ?_
  clear hK' K
  try simp only [Act.put, List.getElem_toArray, List.getElem_cons_succ, List.getElem_cons_zero, List.setIfInBounds_toArray, List.set_cons_zero, List.set_cons_succ]
  refine wpAny_take (i := 18) (v := .pointer (some ⟨g, k, none⟩)) rfl (by kernel_rfl) (by kernel_rfl) (by kernel_rfl) (fun _ _ _ h => h) (Or.inl ⟨by rfl, fun w => by go_simp⟩) ?_
  simp only [Act.put, List.getElem_toArray, List.getElem_cons_succ, List.getElem_cons_zero, List.setIfInBounds_toArray, List.set_cons_zero, List.set_cons_succ]
  refine any_one (i := 19) (by kernel_rfl) ?_
  refine wpOp_step rfl ?_
  intro K hK
  rw [if_pos (by rfl)]
  have hK' : Shut (∀ a w, _ → K a w) := hK
  clear hK
  go_wp2_with fail
  try rw [hw7]
  clear hw7 c6 f6
  refine hK'.out _ _ ?_
  clear hK' K
  refine wpAny_done (by kernel_rfl) ?_ _
  go_wp2
  go_end0
  exact ⟨rfl, f, HIf.out, a8, K8⟩
end
end Go.Proofs.Ytijjegkkeigeoaa
