/-
  A log and its disk, numbers alone: what an Append writes.
-/
import Derived.Test.YtijjegkkeigeoaaZb10
import Derived.Test.YtijjegkkeigeoaaZb3
namespace Go.Proofs.Ytijjegkkeigeoaa
set_option linter.unusedVariables false
set_option linter.unusedSimpArgs false
set_option maxRecDepth 100000
open Go.RowKit Go.Lib
theorem app_old (w : World) (ty : TypeId) (base : Nat) (v : Value) (l : List UInt8) (a : Option Addr) (m : List UInt8) (cap : Nat) (hr : ByRow w base v l) (hm : IsBy w a m cap) (hc : cap = 0 ∨ a ≠ none) (hb : base ≤ w.heap.size) (hlen : l.length + m.length ≤ 1000000)
    (v' : Value) (w' : World) (hrun : (Builtin.append_ #[52, 52] ty #[v, .slice a m.length cap]).run Try.prog w = .ok v' w') : ByRow w' base v l := by
  obtain ⟨qi, hqi, hqz⟩ := u8_tinfo
  cases a with
  | none =>
    have hm0 : m = [] := by
      rcases hm.lies with h | ⟨b, off, e, _⟩
      · exact h
      · cases e
    subst hm0
    have hc0 : cap = 0 := by rcases hc with h | h; exact h; exact absurd rfl h
    subst hc0
    have h0 := run_append_owned_none (P := Try.prog) (w := w) base 52 ty 5 qi 1 Try.underlying52 hqi v _ _ hr
    rw [show (([] : List UInt8).length) = 0 from rfl, h0] at hrun
    cases hrun
    exact hr
  | some ad =>
    have hnews : ∀ j u, (byC m)[j]? = some u → w.cell? (ad.add j) = some u := fun j u hj => by
      have hjl : j < m.length := by
        have := (List.getElem?_eq_some_iff.1 hj).1
        rwa [byC_length] at this
      rcases hm.lies with h | ⟨b, off, e, hlt, hk⟩
      · subst h; simp at hjl
      · cases e
        rw [Addr.add_mid, hk j hjl]
        rw [byC_get m j hjl] at hj
        exact hj
    have hl : (byC m).length = m.length * qi.size := by rw [byC_length, hqz.2.1]; omega
    rcases hr.2 with ⟨hv, h0⟩ | ⟨g, cap0, cur, hv, hbg, hg, hnc, hcm, hcs, htake⟩
    · exact ⟨hr.1, .inl ⟨hv, h0⟩⟩
    · subst hv
      have hxl : (byC l).length = l.length * qi.size := by rw [byC_length, hqz.2.1]; omega
      by_cases hroom : l.length + m.length ≤ cap0
      · have hfit : l.length * qi.size + (byC m).length ≤ cur.size := by rw [hqz.2.1, byC_length, hcs]; omega
        have h2 := run_append_room (P := Try.prog) w 52 ty 5 qi Try.underlying52 hqi g l.length cap0 cur hg ad m.length cap (byC m) hl hnews (byC_one m) hroom hfit
        rw [h2] at hrun
        cases hrun
        refine ⟨hr.1, .inr ⟨g, cap0, _, rfl, hbg, setRow_heap w g cur _ 5 _ hg, hnc, hcm, ?_, ?_⟩⟩
        · have := byC_length m
          simp only [List.size_toArray, List.length_append, List.length_take, List.length_drop, Array.length_toList, hqz.2.1]
          omega
        · have ht' : cur.toList.take (l.length * qi.size) = byC l := by rw [hqz.2.1]; exact htake
          simp only [ht', List.append_assoc]
          rw [List.take_append_of_le_length (by rw [byC_length]; omega), List.take_of_length_le (by rw [byC_length]; omega)]
      · have hown : w.ownsRow base 5 1 (.slice (some ⟨g, 0, none⟩) l.length cap0) l.length (byC l) := hr
        have holds : ∀ j u, (byC l)[j]? = some u → w.cell? ((⟨g, 0, none⟩ : Addr).add j) = some u := hown.cells (g := g) rfl
        have h2 := run_append_grow (P := Try.prog) w 52 ty 5 qi (.int .u8 0) Try.underlying52 hqi hqz.1 ⟨g, 0, none⟩ l.length cap0 (byC l) hxl holds ad m.length cap (byC m) hl hnews (by omega) (by omega) (growslice_fits (by omega) (by rw [hqz.2.2]; omega))
        rw [h2] at hrun
        cases hrun
        exact ⟨hr.1, .inr ⟨g, cap0, cur, rfl, hbg, (heap_alloc_old w.drew _ (show g < w.drew.heap.size from (Array.getElem?_eq_some_iff.1 hg).1)).trans hg, hnc, hcm, hcs, htake⟩⟩
end Go.Proofs.Ytijjegkkeigeoaa

namespace Go.Proofs.Ytijjegkkeigeoaa
set_option linter.unusedVariables false
set_option linter.unusedSimpArgs false
set_option maxRecDepth 100000
open Go.RowKit Go.Lib
theorem wpList_appO {w : World} {ops : Array Oper} {rest : List Oper} {o : Oper} {a : Act} {Q : Exit → Act → World → Prop} (hgd : o.guard = none) (d s : Operand) (ho : o.op = .call { callee := .builtin .append, args := #[d, s], argTypes := #[52, 52] })
    (base : Nat) (v : Value) (l : List UInt8) (ad : Option Addr) (m : List UInt8) (k cap : Nat) (hd : a.eval d = v) (hs : a.eval s = .slice ad k cap) (hk : m.length = k) (hr : ByRow w base v l) (hm : IsBy w ad m cap) (hc : cap = 0 ∨ ad ≠ none) (hb : base ≤ w.heap.size) (hlen : l.length + m.length ≤ 1000000)
    (h : ∀ v' w', ByRow w' base v' (l ++ m) → Below base w w' → (∀ b, b < w.heap.size → v.ownBlock ≠ some b → w'.heap[b]? = w.heap[b]?) → (v'.ownBlock = v.ownBlock ∨ v'.ownBlock = some w.heap.size) → ByRow w' base v l → wpList Try.prog ops Q rest (a.put o.dst v') w') : wpList Try.prog ops Q (o :: rest) a w := by
  subst hk
  obtain ⟨v', w', h1, h2, h3, h4, h5⟩ := run_appB w o.type base v l ad m cap hr hm hc hb hlen
  exact wpList_append_run hgd d s 52 52 ho v _ hd hs h1 (h v' w' h2 h3 h4 h5 (app_old w o.type base v l ad m cap hr hm hc hb hlen v' w' h1))
/-- A row that shares its block with a longer one, behind an append to the longer one. -/
theorem byRow_through {w1 w2 : World} {base : Nat} {v1 tv : Value} {l1 l : List UInt8} (h1 : ByRow w1 base v1 l1) (ht : ByRow w1 base tv l) (hp : l1.take l.length = l) (hle : l.length ≤ l1.length) (h2 : ByRow w2 base v1 l1) (hk : ∀ b, b < w1.heap.size → v1.ownBlock ≠ some b → w2.heap[b]? = w1.heap[b]?) : ByRow w2 base tv l := by
  rcases ht.2 with ⟨hv, h0⟩ | ⟨g, cap, cur, hv, hb, hg, hnc, hcm, hcs, htk⟩
  · exact ⟨ht.1, .inl ⟨hv, h0⟩⟩
  · by_cases ho : v1.ownBlock = some g
    · rcases h1.2 with ⟨hv1, _⟩ | ⟨g1, c1, cur1, hv1, _, hg1, _, _, hcs1, _⟩
      · rw [hv1] at ho; cases ho
      · rw [hv1] at ho
        cases ho
        rw [hg] at hg1
        cases hg1
        have hcc : c1 = cap := by omega
        subst hcc
        rw [hv1] at h2
        have := h2.take l.length hle
        rw [hp] at this
        rw [hv]
        exact this
    · exact ⟨ht.1, .inr ⟨g, cap, cur, hv, hb, (hk g (Array.getElem?_eq_some_iff.1 hg).1 ho).trans hg, hnc, hcm, hcs, htk⟩⟩
theorem addWord_old (base : Nat) (v : Value) (l : List UInt8) (n : Nat) (w : World) (h : ByRow w base v l) (hb : base ≤ w.heap.size) (hl : l.length ≤ 100000) (hn : n < 65536) :
    Calls Try.prog 41 #[v, .int .i64 (n : Int)] w fun e w' => ∃ v', e = .returned v' ∧ Hid (ByRow w' base v' (l ++ w2B n)) ∧ Hid (Below base w w') ∧ Hid (∀ b, b < w.heap.size → v.ownBlock ≠ some b → w'.heap[b]? = w.heap[b]?) ∧ Hid (∀ j, v'.ownBlock = some j → v.ownBlock = some j ∨ w.heap.size ≤ j) ∧ Hid (ByRow w' base v l) := by
  have HR : Hid (ByRow w base v l) := h
  obtain ⟨av, cv, rfl, _⟩ := h.isBy
  have hi := u8_hi n hn
  have hlo := u8_lo n
  have n0 : (0 : Int) ≤ n := by omega
  have n1 : (n : Int) < 65536 := by omega
  obtain ⟨x1, hx1⟩ : ∃ x1 : Int, ((UInt8.ofNat (n / 256)).toNat : Int) = x1 := ⟨_, rfl⟩
  obtain ⟨x2, hx2⟩ : ∃ x2 : Int, ((UInt8.ofNat n).toNat : Int) = x2 := ⟨_, rfl⟩
  rw [hx1] at hi
  rw [hx2] at hlo
  have HX : Hid ((byC (w2B n)).toArray = #[.int .u8 x1, .int .u8 x2]) := by
    rw [← hx1, ← hx2]; rfl
  clear hx1 hx2
  have hb1 : Below w.heap.size w (w.alloc (.cells #[.int .u8 x1, .int .u8 x2] 5)) := (Below.refl _ w).alloc (Nat.le_refl _) _
  have HB1 : Hid (Below w.heap.size w (w.alloc (.cells #[.int .u8 x1, .int .u8 x2] 5))) := hb1
  have HR1 : Hid (ByRow (w.alloc (.cells #[.int .u8 x1, .int .u8 x2] 5)) base (.slice av l.length cv) l) := HR.out.below hb1
  have HN1 : Hid (IsBy (w.alloc (.cells #[.int .u8 x1, .int .u8 x2] 5)) (some ⟨w.heap.size, 0, none⟩) (w2B n) 2) := by
    have := isBy_new w (w2B n)
    rw [HX.out] at this
    exact this
  have hsz : (w.alloc (.cells #[.int .u8 x1, .int .u8 x2] 5)).heap.size = w.heap.size + 1 := by simp
  have HSZ : Hid ((w.alloc (.cells #[.int .u8 x1, .int .u8 x2] 5)).heap.size = w.heap.size + 1) := hsz
  clear h hb1 hsz
  go_enter Try.func41, Try.ntmps41
  go_wp2_with (at_builtin; refine wpList_appO rfl (.tmp 5) (.tmp 11) rfl base (.slice av l.length cv) l (some ⟨w.heap.size, 0, none⟩) (w2B n) 2 2 (by rfl) (by rfl) rfl HR1.out HN1.out (.inr (by simp)) (by rw [HSZ.out]; omega) (by simp [w2B]; omega) ?_; intro v' w2 hr2 hb2 ho2 hl2 hold2)
  have HE : Hid (ByRow w2 base v' (l ++ w2B n) ∧ Below base w w2 ∧ (∀ b, b < w.heap.size → (Value.slice av l.length cv).ownBlock ≠ some b → w2.heap[b]? = w.heap[b]?) ∧ (∀ j, v'.ownBlock = some j → (Value.slice av l.length cv).ownBlock = some j ∨ w.heap.size ≤ j) ∧ ByRow w2 base (.slice av l.length cv) l) := by
    refine ⟨hr2, (HB1.out.mono hb).trans hb2, fun b hbl hne => (ho2 b (by rw [HSZ.out]; omega) hne).trans (HB1.out.block b hbl), fun j hj => ?_, hold2⟩
    rcases hl2 with e | e
    · exact .inl (e ▸ hj)
    · rw [e, HSZ.out] at hj
      cases hj
      exact .inr (by omega)
  clear hr2 hb2 ho2 hl2 hold2
  go_wp2
  go_ret
  exact ⟨_, rfl, HE.out.1, HE.out.2.1, HE.out.2.2.1, HE.out.2.2.2.1, HE.out.2.2.2.2⟩
end Go.Proofs.Ytijjegkkeigeoaa

namespace Go.Proofs.Ytijjegkkeigeoaa
set_option linter.unusedVariables false
set_option linter.unusedSimpArgs false
set_option maxRecDepth 100000
set_option maxHeartbeats 1000000
open Go.RowKit Go.Lib
/-- An error of Append's own. -/
def apBad (mn : Nat) (s : Ls) (tx : List UInt8) (k : Nat) : Int := if s.lo = true then 7 else if k = 0 then 3 else if 200 < k ∨ (mn - 2) * 60 - tx.length < k + 2 then 4 else 0
section
variable {w W U : World} {p nb sb : Nat} {cv : Value} {n : Nat} {D : Dk} {lb fr mn : Nat} {tv wv wv' : Value} {s : Ls} {tx : List UInt8} {wh : List Nat}
theorem append_bad (a : LgAt w W p nb sb cv n D lb fr mn tv wv s tx wh) (hm : mn ≤ 200) (hx : tx.length ≤ (mn - 2) * 60) (ba : Option Addr) (k bc : Nat) (hk : k ≤ 1000000) (hb : apBad mn s tx k ≠ 0) :
    Calls Try.prog 20 #[.pointer (some ⟨lb, 0, none⟩), .slice ba k bc] W fun e w' => e = .returned (.tuple #[.int .i64 0, enE (apBad mn s tx k)]) ∧ Below W.heap.size W w' := by
  have c12 : W.cell? ⟨lb, 12, none⟩ = some (.bool s.lo) := by rw [a.box.at]; rfl
  have hR := room_any a hm hx
  obtain ⟨z, hz⟩ : ∃ z, (mn - 2) * 60 - tx.length = z := ⟨_, rfl⟩
  have z1 : (z : Int) ≤ 12000 := by omega
  have k0 : (0 : Int) ≤ k := by omega
  have k9 : (k : Int) ≤ 1000000 := by omega
  rw [hz] at hR
  rw [enE_ne hb]
  unfold apBad at hb ⊢
  rw [hz] at hb ⊢
  have HR : Hid (Calls _ _ _ W _) := hR
  clear a hR hm hx hz
  by_cases h1 : s.lo = true
  · rw [if_pos h1]
    rw [h1] at c12
    clear hb h1
    go_enter Try.func20, Try.ntmps20
    go_wp2
    go_ret2
    exact ⟨rfl, Below.refl _ _⟩
  · have h1' : s.lo = false := by simpa using h1
    rw [if_neg h1] at hb ⊢
    rw [h1'] at c12
    by_cases h2 : k = 0
    · rw [if_pos h2]
      subst h2
      clear hb h1 h1'
      go_enter Try.func20, Try.ntmps20
      go_wp2
      go_ret2
      exact ⟨rfl, Below.refl _ _⟩
    · rw [if_neg h2] at hb ⊢
      have k1 : ¬ (k : Int) = 0 := by omega
      have k2 : ((k : Int) == 0) = false := by rw [beq_eq_false_iff_ne]; exact k1
      by_cases h3 : 200 < k
      · rw [if_pos (.inl h3)]
        have k3 : (200 : Int) < k := by omega
        clear hb h1 h1' h2
        go_enter Try.func20, Try.ntmps20
        go_wp2
        go_ret2
        exact ⟨rfl, Below.refl _ _⟩
      · have h4 : z < k + 2 := by
          by_cases h5 : 200 < k ∨ z < k + 2
          · rcases h5 with h5 | h5
            · exact absurd h5 h3
            · exact h5
          · rw [if_neg h5] at hb
            exact absurd rfl hb
        rw [if_pos (.inr h4)]
        have k3 : ¬ (200 : Int) < k := by omega
        have k4 : (z : Int) < (k : Int) + 2 := by omega
        clear hb h1 h1' h2 h3
        go_enter Try.func20, Try.ntmps20
        go_wp2_with fail
        refine HR.out.mono ?_
        rintro e w7 ⟨rfl, hb7⟩
        have HB : Hid (Below W.heap.size W w7) := hb7
        clear HR hb7 c12
        go_wp2
        go_ret2
        exact ⟨rfl, HB.out⟩
end
end Go.Proofs.Ytijjegkkeigeoaa

namespace Go.Proofs.Ytijjegkkeigeoaa
set_option linter.unusedVariables false
set_option linter.unusedSimpArgs false
set_option maxRecDepth 100000
set_option maxHeartbeats 1000000
open Go.RowKit Go.Lib
theorem byRow_ne {W : World} {base : Nat} {v : Value} {l : List UInt8} (h : ByRow W base v l) {b : Nat} {cs : Array Value} {t : TypeId} (hb : W.heap[b]? = some (.cells cs t (0, 0))) (ht : t ≠ 5) : v.ownBlock ≠ some b := fun e => by
  rcases h.2 with ⟨hv, _⟩ | ⟨g, cap, cur, hv, _, hg, _⟩
  · rw [hv] at e; cases e
  · rw [hv] at e
    cases e
    rw [hb] at hg
    cases hg
    exact ht rfl
theorem plc_cnt (s : Ls) (wh : List Nat) (k : Nat) : (plc s wh k).1.cnt = s.cnt ∧ (plc s wh k).1.lo = s.lo := by
  unfold plc
  split
  · exact ⟨rfl, rfl⟩
  · split <;> exact ⟨rfl, rfl⟩
theorem wrL_cnt (fr : Nat) (tt : List UInt8) : ∀ (m k : Nat) (s : Ls) (wh : List Nat) (D : Dk), (wrL fr tt m k s wh D).2.1.cnt = s.cnt ∧ (wrL fr tt m k s wh D).2.1.lo = s.lo
  | 0, _, _, _, _ => ⟨rfl, rfl⟩
  | m + 1, k, s, wh, D => by
    unfold wrL
    split
    · obtain ⟨h1, h2⟩ := wrL_cnt fr tt m (k + 1) (plc s wh k).1 (plc s wh k).2 (wrR D (fr + (plc s wh k).2.getD k 0) (pcB (pcAt (plc s wh k).1 tt k))).2
      exact ⟨h1.trans (plc_cnt s wh k).1, h2.trans (plc_cnt s wh k).2⟩
    · exact plc_cnt s wh k
theorem wrL_two (fr : Nat) (tt : List UInt8) : ∀ (m k : Nat) (s : Ls) (wh : List Nat) (D : Dk), (wrL fr tt m k s wh D).1 = 0 ∨ (wrL fr tt m k s wh D).1 = 7
  | 0, _, _, _, _ => .inl rfl
  | m + 1, k, s, wh, D => by
    unfold wrL
    split
    · exact wrL_two fr tt m (k + 1) _ _ _
    · exact wrR_two _ _ _
theorem wrT_cnt (fr : Nat) (tt tx : List UInt8) (s : Ls) (wh : List Nat) (D : Dk) : (wrT fr tt tx s wh D).2.1.cnt = s.cnt ∧ (wrT fr tt tx s wh D).2.1.lo = s.lo := by
  have hb : (bgn s D).2.1.cnt = s.cnt ∧ (bgn s D).2.1.lo = s.lo := by
    unfold bgn
    split
    · exact ⟨rfl, rfl⟩
    · split <;> exact ⟨rfl, rfl⟩
  unfold wrT
  split
  · have := wrL_cnt fr tt (pcs tt.length - tx.length / 60) (tx.length / 60) (bgn s D).2.1 wh (bgn s D).2.2
    exact ⟨this.1.trans hb.1, this.2.trans hb.2⟩
  · exact hb
theorem wrT_two (fr : Nat) (tt tx : List UInt8) (s : Ls) (wh : List Nat) (D : Dk) : (wrT fr tt tx s wh D).1 = 0 ∨ (wrT fr tt tx s wh D).1 = 7 := by
  unfold wrT
  split
  · exact wrL_two _ _ _ _ _ _ _
  · exact bgn_two s D
section
variable {w W U : World} {p nb sb : Nat} {cv : Value} {n : Nat} {D : Dk} {lb fr mn : Nat} {tv wv wv' : Value} {s : Ls} {tx : List UInt8} {wh : List Nat}
/-- The row of its text turns. -/
theorem LgAt.text (a : LgAt w W p nb sb cv n D lb fr mn tv wv s tx wh) (hk : ∀ b, b < W.heap.size → tv.ownBlock ≠ some b → U.heap[b]? = W.heap[b]?) (hb : Below w.heap.size W U) (ht : ByRow U w.heap.size tv tx) : LgAt w U p nb sb cv n D lb fr mn tv wv s tx wh := by
  have d := a.tn.1
  have ne : ∀ (j : Nat) (cs' : Array Value) (t' : TypeId), W.heap[j]? = some (.cells cs' t' (0, 0)) → t' ≠ 5 → U.heap[j]? = W.heap[j]? := fun j cs' t' e' h1 => hk j (Array.getElem?_eq_some_iff.1 e').1 (byRow_ne a.tx e' h1)
  exact ⟨⟨⟨(ne _ _ _ d.box (by decide)).trans d.box, (ne _ _ _ d.now (by decide)).trans d.now, (ne _ _ _ d.safe (by decide)).trans d.safe, d.ne, d.lp, d.ln, d.ls, ownsRow_keep d.chg (fun b' cs' e' _ => ne b' _ _ e' (by decide)), d.ok⟩, a.tn.2.trans hb⟩, (ne _ _ _ a.box (by decide)).trans a.box, ht, ownsRow_keep a.wh (fun b' cs' e' _ => ne b' _ _ e' (by decide)), a.llb⟩
/-- It has another text. -/
theorem LgAt.setTx (a : LgAt w W p nb sb cv n D lb fr mn tv wv s tx wh) (v : Value) (tt : List UInt8) (h : ByRow W w.heap.size v tt) : LgAt w (W.setCell ⟨lb, 3, none⟩ v) p nb sb cv n D lb fr mn v wv s tt wh := by
  have hbx : W.heap[lb]? = _ := a.box
  have d := a.tn.1
  have ne : ∀ (j : Nat) (cs' : Array Value) (t' : TypeId), W.heap[j]? = some (.cells cs' t' (0, 0)) → t' ≠ 92 → (W.setCell ⟨lb, 3, none⟩ v).heap[j]? = W.heap[j]? := fun j cs' t' e' ht => Below.heap_setCell _ _ _ _ (fun e2 => by
    simp only at e2
    rw [e2, hbx] at e'
    cases e'
    exact ht rfl)
  have hbl : Below w.heap.size W (W.setCell ⟨lb, 3, none⟩ v) := (Below.refl _ W).setCell (p := ⟨lb, 3, none⟩) a.llb v
  exact ⟨⟨⟨(ne _ _ _ d.box (by decide)).trans d.box, (ne _ _ _ d.now (by decide)).trans d.now, (ne _ _ _ d.safe (by decide)).trans d.safe, d.ne, d.lp, d.ln, d.ls, ownsRow_keep d.chg (fun b' cs' e' _ => ne b' _ _ e' (by decide)), d.ok⟩, a.tn.2.trans hbl⟩, a.box.set 3 v rfl, ownsRow_keep h (fun b' cs' e' _ => ne b' _ _ e' (by decide)), ownsRow_keep a.wh (fun b' cs' e' _ => ne b' _ _ e' (by decide)), a.llb⟩
end
end Go.Proofs.Ytijjegkkeigeoaa

namespace Go.Proofs.Ytijjegkkeigeoaa
set_option linter.unusedVariables false
set_option linter.unusedSimpArgs false
set_option maxRecDepth 100000
set_option maxHeartbeats 1000000
open Go.RowKit Go.Lib
theorem apBad_zero {mn : Nat} {s : Ls} {tx : List UInt8} {k : Nat} (h : apBad mn s tx k = 0) : s.lo = false ∧ k ≠ 0 ∧ k ≤ 200 ∧ k + 2 ≤ (mn - 2) * 60 - tx.length := by
  unfold apBad at h
  by_cases h1 : s.lo = true
  · rw [if_pos h1] at h; exact absurd h (by decide)
  · rw [if_neg h1] at h
    by_cases h2 : k = 0
    · rw [if_pos h2] at h; exact absurd h (by decide)
    · rw [if_neg h2] at h
      by_cases h3 : 200 < k ∨ (mn - 2) * 60 - tx.length < k + 2
      · rw [if_pos h3] at h; exact absurd h (by decide)
      · exact ⟨by simpa using h1, h2, by omega, by omega⟩
/-- The text behind an Append. -/
def apT (tx bl : List UInt8) : List UInt8 := (tx ++ w2B bl.length) ++ bl
section
variable {w W U : World} {p nb sb : Nat} {cv : Value} {n : Nat} {D : Dk} {lb fr mn : Nat} {tv wv wv' : Value} {s : Ls} {tx : List UInt8} {wh : List Nat}
/-- All that stands ahead of write: the log is as it was, and the new text lies beside. -/
theorem append_good (a : LgAt w W p nb sb cv n D lb fr mn tv wv s tx wh) (hm : mn ≤ 200) (hx : tx.length ≤ (mn - 2) * 60) (ba : Option Addr) (bl : List UInt8) (bc : Nat) (hbk : ∀ U : World, (∀ b, b < W.heap.size → tv.ownBlock ≠ some b → U.heap[b]? = W.heap[b]?) → W.heap.size ≤ U.heap.size → IsBy U ba bl bc) (hbc : bc = 0 ∨ ba ≠ none) (hg : apBad mn s tx bl.length = 0) (hl : s.bg = true ∨ s.ld = true) (hs : D.lim 900000) (hn : n ≤ 200) (hcn : s.cnt ≤ 1000000)
    (hok : wrOk n fr (pcs (apT tx bl).length - tx.length / 60) (tx.length / 60) (bgn s D).2.1 wh) :
    Calls Try.prog 20 #[.pointer (some ⟨lb, 0, none⟩), .slice ba bl.length bc] W fun e w' => ((wrT fr (apT tx bl) tx s wh D).1 = 0 → e = .returned (.tuple #[.int .i64 (s.cnt : Int), .nilIface]) ∧ ∃ cv' tv' wv', Hid (LgAt w w' p nb sb cv' n (wrT fr (apT tx bl) tx s wh D).2.2.2 lb fr mn tv' wv' { (wrT fr (apT tx bl) tx s wh D).2.1 with cnt := s.cnt + 1 } (apT tx bl) (wrT fr (apT tx bl) tx s wh D).2.2.1) ∧ Hid (LKeep w.heap.size lb tv wv tv' wv' W w')) ∧
      ((wrT fr (apT tx bl) tx s wh D).1 = 7 → e = .returned (.tuple #[.int .i64 0, enE 7]) ∧ ∃ cv' wv', Hid (LgAt w w' p nb sb cv' n (wrT fr (apT tx bl) tx s wh D).2.2.2 lb fr mn tv wv' { (wrT fr (apT tx bl) tx s wh D).2.1 with lo := true } tx (wrT fr (apT tx bl) tx s wh D).2.2.1) ∧ Hid (LKeep w.heap.size lb tv wv tv wv' W w')) := by
  obtain ⟨g1, g2, g3, g4⟩ := apBad_zero hg
  have hcnt := wrT_cnt fr (apT tx bl) tx s wh D
  have htwo := wrT_two fr (apT tx bl) tx s wh D
  obtain ⟨R, hRR⟩ : ∃ R, wrT fr (apT tx bl) tx s wh D = R := ⟨_, rfl⟩
  have HRR : Hid (wrT fr (apT tx bl) tx s wh D = R) := hRR
  rw [hRR] at hcnt htwo ⊢
  clear hRR
  obtain ⟨rc, rs, rw_, rd⟩ := R
  simp only at hcnt htwo ⊢
  rw [enE_ne (show (7 : Int) ≠ 0 by decide)]
  have HTw : Hid (rc = 0 ∨ rc = 7) := htwo
  have HCn : Hid (rs.cnt = s.cnt) := hcnt.1
  clear hcnt htwo
  have c12 : W.cell? ⟨lb, 12, none⟩ = some (.bool false) := by rw [a.box.at, ← g1]; rfl
  have hR := room_any a hm hx
  obtain ⟨z, hz⟩ : ∃ z, (mn - 2) * 60 - tx.length = z := ⟨_, rfl⟩
  rw [hz] at hR g4
  obtain ⟨xa, xc, hxv, _⟩ := a.tx.isBy
  subst hxv
  have HA : Hid (LgAt w W p nb sb cv n D lb fr mn (.slice xa tx.length xc) wv s tx wh) := a
  have HBk : Hid (∀ U : World, (∀ b, b < W.heap.size → (Value.slice xa tx.length xc).ownBlock ≠ some b → U.heap[b]? = W.heap[b]?) → W.heap.size ≤ U.heap.size → IsBy U ba bl bc) := hbk
  have HAll : Hid ((s.bg = true ∨ s.ld = true) ∧ D.lim 900000 ∧ n ≤ 200 ∧ wrOk n fr (pcs (apT tx bl).length - tx.length / 60) (tx.length / 60) (bgn s D).2.1 wh ∧ tx.length ≤ 11880 ∧ bl.length ≤ 200) := ⟨hl, hs, hn, hok, by omega, g3⟩
  have HBc : Hid (bc = 0 ∨ ba ≠ none) := hbc
  have HR : Hid (Calls _ _ _ W _) := hR
  have k1 : ¬ (bl.length : Int) = 0 := by omega
  have k2 : ((bl.length : Int) == 0) = false := by rw [beq_eq_false_iff_ne]; exact k1
  have k3 : ¬ (200 : Int) < bl.length := by omega
  have k4 : ¬ (z : Int) < (bl.length : Int) + 2 := by omega
  have k5 : (z : Int) ≤ 12000 := by omega
  have k6 : (bl.length : Int) ≤ 200 := by omega
  have k7 : (s.cnt : Int) ≤ 1000000 := by omega
  clear a hR hm hx hz g1 g2 g3 g4 hg hbk hbc hl hs hn hok
  go_enter Try.func20, Try.ntmps20
  go_wp2_with fail
  refine HR.out.mono ?_
  rintro e w1 ⟨rfl, hb1⟩
  have a1 := HA.out.below hb1
  have c3 : w1.cell? ⟨lb, 3, none⟩ = some (.slice xa tx.length xc) := by rw [a1.box.at]; rfl
  have HB1 : Hid (Below W.heap.size W w1) := hb1
  have H1 : Hid (LgAt w w1 p nb sb cv n D lb fr mn (.slice xa tx.length xc) wv s tx wh) := a1
  have HAw : Hid (Calls _ _ _ w1 _) := addWord_old w.heap.size (.slice xa tx.length xc) tx bl.length w1 a1.tx a1.tn.2.size (by have := HAll.out.2.2.2.2.1; omega) (by omega)
  clear HR hb1 a1 c12
  go_wp2_with fail
  refine HAw.out.mono ?_
  rintro e w2 ⟨v1, rfl, h1, h2, h3, h4, h5⟩
  obtain ⟨va, vc, hv1, _⟩ := h1.out.isBy
  obtain ⟨l1, hl1⟩ : ∃ l1, (tx ++ w2B bl.length).length = l1 := ⟨_, rfl⟩
  rw [hl1] at hv1
  subst hv1
  have HY : Hid (IsBy w2 ba bl bc) := HBk.out w2 (fun b hb hne => (h3.out b (Nat.lt_of_lt_of_le hb HB1.out.size) hne).trans (HB1.out.block b hb)) (Nat.le_trans HB1.out.size h2.out.size)
  have HSz : Hid (w.heap.size ≤ w2.heap.size) := Nat.le_trans H1.out.tn.2.size h2.out.size
  have HL : Hid ((tx ++ w2B bl.length).length + bl.length ≤ 1000000) := by
    have e1 := HAll.out.2.2.2.2.1
    have e2 := HAll.out.2.2.2.2.2
    unfold Hid
    simp [w2B]
    omega
  clear HAw hl1 c3
  go_wp2_with (at_builtin; refine wpList_appO rfl (.tmp 35) (.tmp 36) rfl w.heap.size (.slice va l1 vc) (tx ++ w2B bl.length) ba bl bl.length bc (by rfl) (by rfl) rfl h1.out HY.out HBc.out HSz.out HL.out ?_; intro v2 w3 r3 b3 o3 l3 old3)
  have hT : (tx ++ w2B bl.length) ++ bl = apT tx bl := rfl
  have hTl : (apT tx bl).length = tx.length + 2 + bl.length := by simp [apT, w2B]; omega
  rw [hT] at r3
  have hW1 : W.heap.size ≤ w1.heap.size := HB1.out.size
  have hv1 : ∀ b, b < w1.heap.size → (Value.slice xa tx.length xc).ownBlock ≠ Option.some b → (Value.slice va l1 vc).ownBlock ≠ Option.some b := fun b hb hne e => by
    rcases h4.out b e with h | h
    · exact hne h
    · omega
  have hk3 : ∀ b, b < w1.heap.size → (Value.slice xa tx.length xc).ownBlock ≠ Option.some b → w3.heap[b]? = w1.heap[b]? := fun b hb hne => (o3 b (Nat.lt_of_lt_of_le hb h2.out.size) (hv1 b hb hne)).trans (h3.out b hb hne)
  have a3 : LgAt w w3 p nb sb cv n D lb fr mn (.slice xa tx.length xc) wv s tx wh := H1.out.text hk3 (h2.out.trans b3) (byRow_through h1.out h5.out (by simp) (by simp) old3 o3)
  have hon : OldNew W (.slice xa tx.length xc) v2 := by
    rcases l3 with e | e
    · rcases r3.2 with ⟨hv, h0⟩ | ⟨g, cap, cur, hv, _⟩
      · rw [hTl] at h0; omega
      · have e2 : v2.ownBlock = Option.some g := by rw [hv]; rfl
        rw [e2] at e
        rcases h4.out g e.symm with h | h
        · exact .inl (e2.trans h.symm)
        · exact .inr ⟨g, e2, by omega⟩
    · exact .inr ⟨_, e, by have := h2.out.size; omega⟩
  have hkp : LKeep w.heap.size lb (.slice xa tx.length xc) wv v2 wv W w3 := by
    have hbw : Below w.heap.size w1 w3 := h2.out.trans b3
    refine ⟨hbw.os.trans HB1.out.os, hbw.tape.trans HB1.out.tape, hbw.output.trans HB1.out.output, Nat.le_trans hW1 hbw.size, fun b hb hc => ?_, hon, .refl _ _⟩
    rcases hc with hc | hc
    · exact (hbw.block b hc).trans (HB1.out.block b hb)
    · exact (hk3 b (by omega) hc.2.1).trans (HB1.out.block b hb)
  have hkp2 : LKeep w.heap.size lb (.slice xa tx.length xc) wv (.slice xa tx.length xc) wv W w3 := ⟨hkp.os, hkp.tape, hkp.output, hkp.size, hkp.block, .refl _ _, .refl _ _⟩
  have hWr := write_any a3 v2 (apT tx bl) r3 HAll.out.1 HAll.out.2.1 HAll.out.2.2.1 (by rw [hTl]; have := HAll.out.2.2.2.2; omega) (by rw [hTl]; omega) HAll.out.2.2.2.1
  rw [HRR.out] at hWr
  simp only at hWr
  obtain ⟨va2, vc2, hv2, _⟩ := r3.isBy
  obtain ⟨l2, hl2⟩ : ∃ l2, (apT tx bl).length = l2 := ⟨_, rfl⟩
  rw [hl2] at hv2
  subst hv2
  have HC3 : Hid (LgAt w w3 p nb sb cv n D lb fr mn (.slice xa tx.length xc) wv s tx wh ∧ ByRow w3 w.heap.size (.slice va2 l2 vc2) (apT tx bl)) := ⟨a3, r3⟩
  have HK3 : Hid (LKeep w.heap.size lb (.slice xa tx.length xc) wv (.slice va2 l2 vc2) wv W w3 ∧ LKeep w.heap.size lb (.slice xa tx.length xc) wv (.slice xa tx.length xc) wv W w3) := ⟨hkp, hkp2⟩
  clear hT hTl hv1 hk3 a3 hon hkp hkp2 r3 b3 o3 l3 old3 h1 h2 h3 h4 h5 HY HSz HL HAll HBk HB1 H1 HA HBc hl2 hW1 HRR
  rcases HTw.out with h0 | h0
  · rw [h0, enE_zero] at hWr
    have H0 : Hid (rc = 0) := h0
    clear h0 HTw
    have HWr : Hid (Calls _ _ _ w3 _) := hWr
    clear hWr
    go_wp2_with fail
    refine HWr.out.mono ?_
    rintro e w7 ⟨rfl, cv7, wv7, h7, k7'⟩
    have d3 : w7.cell? ⟨lb, 3, none⟩ = Option.some (.slice xa tx.length xc) := by rw [h7.out.box.at]; rfl
    have f3 := h7.out.box.fz 3
    have a8 := h7.out.setTx (.slice va2 l2 vc2) (apT tx bl) (HC3.out.1.bytes HC3.out.2 k7'.out)
    obtain ⟨w8, hw8⟩ : ∃ w8, w7.setCell ⟨lb, 3, none⟩ (.slice va2 l2 vc2) = w8 := ⟨_, rfl⟩
    have hb8 : Below w.heap.size w7 w8 := by rw [← hw8]; exact (Below.refl _ w7).setCell (p := ⟨lb, 3, none⟩) h7.out.llb _
    have kk8 : LKeep w.heap.size lb (.slice xa tx.length xc) wv (.slice va2 l2 vc2) wv7 W w8 := by
      rw [← hw8] at hb8 ⊢
      exact (HK3.out.1.trans (k7'.out.widen _)).setBox h7.out.llb 3 _ hb8.size hb8.os hb8.tape hb8.output
    rw [hw8] at a8
    have d4 : w8.cell? ⟨lb, 4, none⟩ = Option.some (.int .i64 (s.cnt : Int)) := by rw [a8.box.at, ← HCn.out]; rfl
    have f4 := a8.box.fz 4
    have a9 := a8.set 4 (.int .i64 ((s.cnt : Int) + 1)) (s' := { rs with cnt := s.cnt + 1 }) rfl
    obtain ⟨w9, hw9⟩ : ∃ w9, w8.setCell ⟨lb, 4, none⟩ (.int .i64 ((s.cnt : Int) + 1)) = w9 := ⟨_, rfl⟩
    have hb9 : Below w.heap.size w8 w9 := by rw [← hw9]; exact (Below.refl _ w8).setCell (p := ⟨lb, 4, none⟩) h7.out.llb _
    have kk9 : LKeep w.heap.size lb (.slice xa tx.length xc) wv (.slice va2 l2 vc2) wv7 W w9 := by
      rw [← hw9] at hb9 ⊢
      exact kk8.setBox h7.out.llb 4 _ hb9.size hb9.os hb9.tape hb9.output
    rw [hw9] at a9
    have d5 : w9.cell? ⟨lb, 4, none⟩ = Option.some (.int .i64 ((s.cnt : Int) + 1)) := by rw [a9.box.at]; rfl
    have H9 : Hid (LgAt w w9 p nb sb cv7 n rd lb fr mn (.slice va2 l2 vc2) wv7 { rs with cnt := s.cnt + 1 } (apT tx bl) rw_ ∧ LKeep w.heap.size lb (.slice xa tx.length xc) wv (.slice va2 l2 vc2) wv7 W w9) := ⟨a9, kk9⟩
    clear HWr h7 k7' a8 a9 kk8 kk9 hb8 hb9 HC3 HK3 HCn
    go_wp2
    go_ret2
    refine ⟨fun _ => ⟨?_, cv7, _, wv7, H9.out.1, H9.out.2⟩, fun h => absurd (H0.out.symm.trans h) (by decide)⟩
    first | rfl | go_num
  · rw [h0, enE_ne (show (7 : Int) ≠ 0 by decide)] at hWr
    have H0 : Hid (rc = 7) := h0
    clear h0 HTw
    have HWr : Hid (Calls _ _ _ w3 _) := hWr
    clear hWr
    go_wp2_with fail
    refine HWr.out.mono ?_
    rintro e w7 ⟨rfl, cv7, wv7, h7, k7'⟩
    have d12 : w7.cell? ⟨lb, 12, none⟩ = Option.some (.bool rs.lo) := by rw [h7.out.box.at]; rfl
    have f12 := h7.out.box.fz 12
    have a8 := h7.out.set 12 (.bool true) (s' := { rs with lo := true }) rfl
    have hb8 : Below w.heap.size w7 (w7.setCell ⟨lb, 12, none⟩ (.bool true)) := (Below.refl _ w7).setCell (p := ⟨lb, 12, none⟩) h7.out.llb _
    have H8 : Hid (LgAt w (w7.setCell ⟨lb, 12, none⟩ (.bool true)) p nb sb cv7 n rd lb fr mn (.slice xa tx.length xc) wv7 { rs with lo := true } tx rw_ ∧ LKeep w.heap.size lb (.slice xa tx.length xc) wv (.slice xa tx.length xc) wv7 W (w7.setCell ⟨lb, 12, none⟩ (.bool true))) := ⟨a8, (HK3.out.2.trans (k7'.out.widen _)).setBox h7.out.llb 12 _ hb8.size hb8.os hb8.tape hb8.output⟩
    clear HWr h7 k7' a8 hb8 HC3 HK3 HCn
    go_wp2
    go_ret2
    exact ⟨fun h => absurd (H0.out.symm.trans h) (by decide), fun _ => ⟨rfl, cv7, wv7, H8.out.1, H8.out.2⟩⟩
end
end Go.Proofs.Ytijjegkkeigeoaa

namespace Go.Proofs.Ytijjegkkeigeoaa
set_option linter.unusedVariables false
set_option linter.unusedSimpArgs false

/-- The piece that stands safe in an area's block. -/
def sfP (fr mn : Nat) (D : Dk) (a : Nat) : Option Pc := pcOf mn (D.safe.getD (fr + a) bk0)
/-- Nothing is pending there. -/
def Fm (D : Dk) (i : Nat) : Prop := ∀ c ∈ D.chg, c.at_ ≠ i
/-- What may stand in an area's block. -/
def Can (fr mn : Nat) (D : Dk) (a : Nat) (q : Pc) : Prop := sfP fr mn D a = some q ∨ ∃ c ∈ D.chg, c.at_ = fr + a ∧ pcOf mn c.tgt = some q
/-- What a disk has now is what is safe, or what was written. -/
def DN (D : Dk) : Prop := ∀ i, D.now.getD i bk0 = D.safe.getD i bk0 ∨ ∃ c ∈ D.chg, c.at_ = i ∧ D.now.getD i bk0 = c.tgt
theorem DN.fm {D : Dk} (h : DN D) {i : Nat} (hf : Fm D i) : D.now.getD i bk0 = D.safe.getD i bk0 := by
  rcases h i with h | ⟨c, hc, e, _⟩
  · exact h
  · exact absurd e (hf c hc)
theorem getD_set_bk (l : List Bk) (i j : Nat) (b : Bk) : (l.set i b).getD j bk0 = if i = j ∧ i < l.length then b else l.getD j bk0 := by
  simp only [List.getD_eq_getElem?_getD, List.getElem?_set]
  by_cases h : i = j
  · subst h
    by_cases h2 : i < l.length
    · simp [h2]
    · simp [h2]
  · simp [h]
theorem DN.write {D : Dk} (h : DN D) (i : Nat) (l : List UInt8) (hi : i < D.now.length) : DN (D.write i l) := by
  intro j
  unfold Dk.write
  simp only [getD_set_bk]
  by_cases e : i = j
  · subst e
    rw [if_pos ⟨rfl, hi⟩]
    exact .inr ⟨⟨i, ⟨padB l, false⟩⟩, by simp, rfl, rfl⟩
  · rw [if_neg (fun h => e h.1)]
    rcases h j with h | ⟨c, hc, e1, e2⟩
    · exact .inl h
    · exact .inr ⟨c, by simp [hc], e1, e2⟩
theorem DN.flush (D : Dk) : DN D.flush := fun i => .inl rfl
theorem fm_write {D : Dk} {i j : Nat} {l : List UInt8} (h : Fm D j) (hne : i ≠ j) : Fm (D.write i l) j := by
  intro c hc
  unfold Dk.write at hc
  simp only [List.mem_append, List.mem_singleton] at hc
  rcases hc with hc | rfl
  · exact h c hc
  · exact hne
theorem fm_flush (D : Dk) (i : Nat) : Fm D.flush i := fun c hc => by
  unfold Dk.flush at hc
  simp at hc

/-- What holds of a disk, whatever it loses: of an area, from the image that a sitting began with, up to a text. -/
structure LImg (fr mn since : Nat) (P0 : Nat → Option Pc) (rs0 : List (List UInt8)) (Wh0 : List Nat) (s : Nat) (T : List UInt8) (rsm : List (List UInt8)) (Pr : Nat → Prop) (D : Dk) : Prop where
  R : RI mn since P0 rs0 Wh0
  old : ∀ a q, P0 a = some q → q.sit < s
  h1 : 1 ≤ since
  h2 : since ≤ s
  t0 : enc rs0 <+: T
  tm : T.length ≤ 12000
  each : ∀ a q, 1 ≤ a → a < mn → Can fr mn D a q → P0 a = some q ∨ NewP s ((enc rs0).length / 60) (enc rs0).length T q
  pf : ∀ a, Pr a → Fm D (fr + a)
  pr : ∀ a, Pr a → 1 ≤ a ∧ a < mn
  keep : ∀ n, n < (enc rs0).length / 60 → Pr (Wh0.getD n 0) ∧ sfP fr mn D (Wh0.getD n 0) = P0 (Wh0.getD n 0)
  firm : (enc rs0).length < (enc rsm).length → ∀ n, (enc rs0).length / 60 ≤ n → 60 * n < (enc rsm).length → ∃ a q, Pr a ∧ sfP fr mn D a = some q ∧ q.sit = s ∧ q.num = n ∧ ((enc rsm).length ≤ 60 * n + q.byt.length ∨ q.byt.length = 60)
  opn : (enc rsm).length = (enc rs0).length → ∀ a ∈ Wh0, Pr a ∧ sfP fr mn D a = P0 a
section
variable {fr mn since : Nat} {P0 : Nat → Option Pc} {rs0 : List (List UInt8)} {Wh0 : List Nat} {s : Nat} {T : List UInt8} {rsm : List (List UInt8)} {Pr : Nat → Prop} {D : Dk}
/-- Whatever image there is: what is found in it lies between what was made safe and all. -/
theorem LImg.image {rsA : List (List UInt8)} (h : LImg fr mn since P0 rs0 Wh0 s (enc rsA) rsm Pr D) (hk : okL rsA) (hm : rsm <+: rsA) (h0 : rs0 <+: rsm) {P : Nat → Option Pc} (hd : Dom mn P) (hc : ∀ a q, P a = some q → Can fr mn D a q) (hf : ∀ a, 1 ≤ a → a < mn → Fm D (fr + a) → P a = sfP fr mn D a) :
    ∃ rs', rsm <+: rs' ∧ rs' <+: rsA ∧ RI mn since P rs' (whF mn since P) ∧ ∀ a q, P a = some q → q.sit ≤ s := by
  refine Sit.main (P0 := P0) (Wh0 := Wh0) ⟨h.R, h.old, h.h1, h.h2, h.t0, h.tm, ⟨hd, fun a q e => ?_⟩, fun n hn => ?_⟩ hk hm h0 (fun hl n h3 h4 => ?_) (fun hl a ha => ?_)
  · obtain ⟨g1, g2⟩ := hd a q e
    exact h.each a q g1 g2 (hc a q e)
  · obtain ⟨g1, g2⟩ := h.keep n hn
    obtain ⟨g3, g4⟩ := h.pr _ g1
    rw [hf _ g3 g4 (h.pf _ g1), g2]
  · obtain ⟨a, q, g1, g2, g5⟩ := h.firm hl n h3 h4
    obtain ⟨g3, g4⟩ := h.pr _ g1
    exact ⟨a, q, (hf _ g3 g4 (h.pf _ g1)).trans g2, g5⟩
  · obtain ⟨g1, g2⟩ := h.opn hl a ha
    obtain ⟨g3, g4⟩ := h.pr _ g1
    rw [hf _ g3 g4 (h.pf _ g1), g2]
theorem NewP.more {s st t0 : Nat} {T T' : List UInt8} {q : Pc} (h : NewP s st t0 T q) (hT : T <+: T') : NewP s st t0 T' q := by
  refine ⟨h.sit, h.num, h.fst, ?_, h.l2, h.l0⟩
  obtain ⟨r, rfl⟩ := hT
  refine h.byt.trans ?_
  by_cases hl : 60 * q.num ≤ T.length
  · rw [List.drop_append_of_le_length hl]
    exact List.prefix_append _ _
  · rw [List.drop_eq_nil_of_le (by omega : T.length ≤ 60 * q.num)]
    exact List.nil_prefix
theorem LImg.more (h : LImg fr mn since P0 rs0 Wh0 s T rsm Pr D) {T' : List UInt8} (hT : T <+: T') (hl : T'.length ≤ 12000) : LImg fr mn since P0 rs0 Wh0 s T' rsm Pr D :=
  ⟨h.R, h.old, h.h1, h.h2, h.t0.trans hT, hl, fun a q g1 g2 g3 => (h.each a q g1 g2 g3).imp id (fun k => k.more hT), h.pf, h.pr, h.keep, h.firm, h.opn⟩
/-- Other blocks are protected, of which the same holds. -/
theorem LImg.toPr (h : LImg fr mn since P0 rs0 Wh0 s T rsm Pr D) {Pr' : Nat → Prop} (hp : ∀ a, Pr a → Pr' a) (hf : ∀ a, Pr' a → Fm D (fr + a)) (hr : ∀ a, Pr' a → 1 ≤ a ∧ a < mn) : LImg fr mn since P0 rs0 Wh0 s T rsm Pr' D :=
  ⟨h.R, h.old, h.h1, h.h2, h.t0, h.tm, h.each, hf, hr, fun n hn => ⟨hp _ (h.keep n hn).1, (h.keep n hn).2⟩, fun hl n h3 h4 => by
    obtain ⟨a, q, g1, g2⟩ := h.firm hl n h3 h4
    exact ⟨a, q, hp _ g1, g2⟩, fun hl a ha => ⟨hp _ (h.opn hl a ha).1, (h.opn hl a ha).2⟩⟩
theorem sfP_write (fr mn : Nat) (D : Dk) (i : Nat) (l : List UInt8) (a : Nat) : sfP fr mn (D.write i l) a = sfP fr mn D a := rfl
/-- A piece is written into a block that is not protected. -/
theorem LImg.write (h : LImg fr mn since P0 rs0 Wh0 s T rsm Pr D) {a0 : Nat} {q : Pc} (hn : ¬ Pr a0) (ho : okP mn q) (hm : mn ≤ 200) (hq : NewP s ((enc rs0).length / 60) (enc rs0).length T q) : LImg fr mn since P0 rs0 Wh0 s T rsm Pr (D.write (fr + a0) (pcB q)) := by
  refine ⟨h.R, h.old, h.h1, h.h2, h.t0, h.tm, fun a q' g1 g2 g3 => ?_, fun a ha => fm_write (h.pf a ha) (fun e => hn ?_), h.pr, h.keep, h.firm, h.opn⟩
  · rcases g3 with g3 | ⟨c, hc, e1, e2⟩
    · exact h.each a q' g1 g2 (.inl g3)
    · unfold Dk.write at hc
      simp only [List.mem_append, List.mem_singleton] at hc
      rcases hc with hc | rfl
      · exact h.each a q' g1 g2 (.inr ⟨c, hc, e1, e2⟩)
      · simp only at e1 e2
        rw [pcOf_pcB ho hm] at e2
        cases e2
        exact .inr hq
  · have : a = a0 := by omega
    rw [this] at ha
    exact ha
/-- A block that is not of the area is written. -/
theorem LImg.out (h : LImg fr mn since P0 rs0 Wh0 s T rsm Pr D) {i : Nat} (hi : i < fr + 1 ∨ fr + mn ≤ i) (l : List UInt8) : LImg fr mn since P0 rs0 Wh0 s T rsm Pr (D.write i l) := by
  refine ⟨h.R, h.old, h.h1, h.h2, h.t0, h.tm, fun a q' g1 g2 g3 => ?_, fun a ha => fm_write (h.pf a ha) (fun e => by have := h.pr a ha; omega), h.pr, h.keep, h.firm, h.opn⟩
  rcases g3 with g3 | ⟨c, hc, e1, e2⟩
  · exact h.each a q' g1 g2 (.inl g3)
  · unfold Dk.write at hc
    simp only [List.mem_append, List.mem_singleton] at hc
    rcases hc with hc | rfl
    · exact h.each a q' g1 g2 (.inr ⟨c, hc, e1, e2⟩)
    · simp only at e1
      omega
theorem can_now {fr mn : Nat} {D : Dk} (hn : DN D) {a : Nat} {q : Pc} (h : pcOf mn (D.now.getD (fr + a) bk0) = some q) : Can fr mn D a q := by
  rcases hn (fr + a) with e | ⟨c, hc, e1, e2⟩
  · left; unfold sfP; rw [← e]; exact h
  · right; exact ⟨c, hc, e1, by rw [← e2]; exact h⟩
theorem sfP_flush {fr mn : Nat} {D : Dk} (hn : DN D) {a : Nat} (hf : Fm D (fr + a)) : sfP fr mn D.flush a = sfP fr mn D a := by
  unfold sfP
  show pcOf mn (D.now.getD (fr + a) bk0) = _
  rw [hn.fm hf]
/-- All that is pending is made safe. -/
theorem LImg.flush (h : LImg fr mn since P0 rs0 Wh0 s T rsm Pr D) (hn : DN D) : LImg fr mn since P0 rs0 Wh0 s T rsm Pr D.flush := by
  refine ⟨h.R, h.old, h.h1, h.h2, h.t0, h.tm, fun a q' g1 g2 g3 => ?_, fun a _ => fm_flush D _, h.pr, fun n hl => ?_, fun hl n h3 h4 => ?_, fun hl a ha => ?_⟩
  · rcases g3 with g3 | ⟨c, hc, _⟩
    · exact h.each a q' g1 g2 (can_now hn g3)
    · unfold Dk.flush at hc; simp at hc
  · obtain ⟨g1, g2⟩ := h.keep n hl
    exact ⟨g1, (sfP_flush hn (h.pf _ g1)).trans g2⟩
  · obtain ⟨a, q, g1, g2, g3⟩ := h.firm hl n h3 h4
    exact ⟨a, q, g1, (sfP_flush hn (h.pf _ g1)).trans g2, g3⟩
  · obtain ⟨g1, g2⟩ := h.opn hl a ha
    exact ⟨g1, (sfP_flush hn (h.pf _ g1)).trans g2⟩
/-- The image that a disk has now. -/
theorem LImg.now {rsA : List (List UInt8)} (h : LImg fr mn since P0 rs0 Wh0 s (enc rsA) rsm Pr D) (hn : DN D) (hk : okL rsA) (hm : rsm <+: rsA) (h0 : rs0 <+: rsm) :
    ∃ rs', rsm <+: rs' ∧ rs' <+: rsA ∧ RI mn since (imgF fr mn D) rs' (whF mn since (imgF fr mn D)) ∧ ∀ a q, imgF fr mn D a = some q → q.sit ≤ s := by
  refine h.image hk hm h0 (fun a q e => ?_) (fun a q e => ?_) (fun a g1 g2 hf => ?_)
  · unfold imgF at e
    split at e
    · assumption
    · cases e
  · unfold imgF at e
    split at e
    · exact can_now hn e
    · cases e
  · unfold imgF sfP
    rw [if_pos ⟨g1, g2⟩, hn.fm hf]
theorem crashS_at (mk : List Bool) (torn : Int) (i : Nat) : ∀ (cs : List Cg) (k : Nat) (l : List Bk), (crashS mk torn k cs l).getD i bk0 = l.getD i bk0 ∨ ∃ c ∈ cs, c.at_ = i ∧ ((crashS mk torn k cs l).getD i bk0).byt = c.tgt.byt
  | [], _, l => .inl rfl
  | c :: cs, k, l => by
    unfold crashS
    rcases crashS_at mk torn i cs (k + 1) (if mk.getD k false = true then l.set c.at_ ⟨c.tgt.byt, decide ((k : Int) = torn)⟩ else l) with h | ⟨x, hx, e1, e2⟩
    · rw [h]
      split
      · rw [getD_set_bk]
        split
        · rename_i h2
          exact .inr ⟨c, by simp, h2.1, rfl⟩
        · exact .inl rfl
      · exact .inl rfl
    · exact .inr ⟨x, by simp [hx], e1, e2⟩
theorem crashS_fm (mk : List Bool) (torn : Int) (i : Nat) (cs : List Cg) (k : Nat) (l : List Bk) (h : ∀ c ∈ cs, c.at_ ≠ i) : (crashS mk torn k cs l).getD i bk0 = l.getD i bk0 := by
  rcases crashS_at mk torn i cs k l with h1 | ⟨c, hc, e, _⟩
  · exact h1
  · exact absurd e (h c hc)
/-- What is written is not torn. -/
def ChT (D : Dk) : Prop := ∀ c ∈ D.chg, c.tgt.torn = false
theorem ChT.write {D : Dk} (h : ChT D) (i : Nat) (l : List UInt8) : ChT (D.write i l) := by
  intro c hc
  unfold Dk.write at hc
  simp only [List.mem_append, List.mem_singleton] at hc
  rcases hc with hc | rfl
  · exact h c hc
  · rfl
theorem ChT.flush (D : Dk) : ChT D.flush := fun c hc => by
  unfold Dk.flush at hc
  simp at hc
/-- The image that a Crash leaves. -/
theorem LImg.crash {rsA : List (List UInt8)} (h : LImg fr mn since P0 rs0 Wh0 s (enc rsA) rsm Pr D) (ht : ChT D) (hk : okL rsA) (hm : rsm <+: rsA) (h0 : rs0 <+: rsm) {D' : Dk} {mk : List Bool} {torn : Int} (hd : D'.now = crashS mk torn 0 D.chg D.safe) :
    ∃ rs', rsm <+: rs' ∧ rs' <+: rsA ∧ RI mn since (imgF fr mn D') rs' (whF mn since (imgF fr mn D')) ∧ ∀ a q, imgF fr mn D' a = some q → q.sit ≤ s := by
  refine h.image hk hm h0 (fun a q e => ?_) (fun a q e => ?_) (fun a g1 g2 hf => ?_)
  · unfold imgF at e
    split at e
    · assumption
    · cases e
  · unfold imgF at e
    split at e
    · rw [hd] at e
      rcases crashS_at mk torn (fr + a) D.chg 0 D.safe with g | ⟨c, hc, e1, e2⟩
      · left; unfold sfP; rw [← g]; exact e
      · right
        refine ⟨c, hc, e1, ?_⟩
        obtain ⟨b, hb⟩ : ∃ b, (crashS mk torn 0 D.chg D.safe).getD (fr + a) bk0 = b := ⟨_, rfl⟩
        rw [hb] at e e2
        have hbt : b.torn = false := by
          cases hh : b.torn with
          | false => rfl
          | true => unfold pcOf at e; rw [if_pos hh] at e; cases e
        have : b = c.tgt := by
          cases b with
          | mk bb bt => 
            cases hct : c.tgt with
            | mk cb ct => 
              have h1 := ht c hc
              rw [hct] at h1 e2
              simp only at h1 e2 hbt
              rw [h1, e2, hbt]
        rw [← this]
        exact e
    · cases e
  · unfold imgF sfP
    rw [if_pos ⟨g1, g2⟩, hd, crashS_fm mk torn (fr + a) D.chg 0 D.safe hf]
end
end Go.Proofs.Ytijjegkkeigeoaa

namespace Go.Proofs.Ytijjegkkeigeoaa
set_option linter.unusedVariables false
set_option linter.unusedSimpArgs false

/-- Blocks that are not to be written over. -/
def PrS (s : Ls) (wh : List Nat) (a : Nat) : Prop := (∃ n, n < s.sf ∧ n < wh.length ∧ wh.getD n 0 = a) ∨ (s.old ≠ 0 ∧ a = s.old)
theorem free_ex (old : Nat) (wh : List Nat) : ∃ f, IsFree old wh f := by
  have hex : ∃ f, 1 ≤ f ∧ f ≠ old ∧ f ∉ wh := Classical.byContradiction fun hn => by
    have h := all_in (wh.length + 2) (old :: wh) (fun i h1 h2 => Classical.byContradiction fun hc => hn ⟨i, h1, fun e => hc (by simp [e]), fun e => hc (by simp [e])⟩)
    simp at h
  have key : ∀ k, (∃ f, f ≤ k ∧ IsFree old wh f) ∨ ∀ f, f ≤ k → ¬ (1 ≤ f ∧ f ≠ old ∧ f ∉ wh) := by
    intro k
    induction k with
    | zero => exact .inr (fun f hf h => by omega)
    | succ k ih =>
      rcases ih with ⟨f, h1, h2⟩ | ih
      · exact .inl ⟨f, by omega, h2⟩
      · by_cases hk : 1 ≤ k + 1 ∧ k + 1 ≠ old ∧ k + 1 ∉ wh
        · refine .inl ⟨k + 1, Nat.le_refl _, hk.1, hk.2.1, hk.2.2, fun i h1 h2 => ?_⟩
          have := ih i (by omega)
          by_cases e : i = old
          · exact .inl e
          · exact .inr (Classical.byContradiction fun hc => this ⟨h1, e, hc⟩)
        · refine .inr (fun f hf h => ?_)
          by_cases e : f = k + 1
          · subst e; exact hk h
          · exact ih f (by omega) h
  obtain ⟨f, hf⟩ := hex
  rcases key f with ⟨g, _, hg⟩ | h
  · exact ⟨g, hg⟩
  · exact absurd hf (h f (Nat.le_refl _))
theorem freeN_free (old : Nat) (wh : List Nat) : IsFree old wh (freeN old wh) := by
  obtain ⟨f, hf⟩ := free_ex old wh
  rw [freeN_eq hf]
  exact hf
theorem nodup_ne {l : List Nat} (h : l.Nodup) {i j : Nat} (hij : i < j) (hj : j < l.length) : l.getD i 0 ≠ l.getD j 0 := by
  rw [List.getD_eq_getElem?_getD, List.getD_eq_getElem?_getD, List.getElem?_eq_getElem (by omega), List.getElem?_eq_getElem hj]
  exact List.pairwise_iff_getElem.1 h i j (by omega) hj hij
theorem nodup_getD {l : List Nat} (h : l.Nodup) {i j : Nat} (hi : i < l.length) (hj : j < l.length) (e : l.getD i 0 = l.getD j 0) : i = j := by
  rcases Nat.lt_trichotomy i j with g | g | g
  · exact absurd e (nodup_ne h g hj)
  · exact g
  · exact absurd e.symm (nodup_ne h g hi)
theorem nodup_of {l : List Nat} (h : ∀ i j, i < j → j < l.length → l.getD i 0 ≠ l.getD j 0) : l.Nodup := by
  refine List.pairwise_iff_getElem.2 (fun i j hi hj hij => ?_)
  have := h i j hij hj
  rw [List.getD_eq_getElem?_getD, List.getD_eq_getElem?_getD, List.getElem?_eq_getElem hi, List.getElem?_eq_getElem hj] at this
  exact this
theorem getD_app (l : List Nat) (x i : Nat) (h : i < l.length) : (l ++ [x]).getD i 0 = l.getD i 0 := by
  simp only [List.getD_eq_getElem?_getD]
  rw [List.getElem?_append_left h]
theorem getD_appE (l : List Nat) (x : Nat) : (l ++ [x]).getD l.length 0 = x := by
  simp [List.getD_eq_getElem?_getD]
theorem getD_setN (l : List Nat) (k x i : Nat) : (l.set k x).getD i 0 = if k = i ∧ k < l.length then x else l.getD i 0 := by
  simp only [List.getD_eq_getElem?_getD, List.getElem?_set]
  by_cases h : k = i
  · subst h
    by_cases h2 : k < l.length
    · simp [h2]
    · simp [h2]
  · simp [h]
theorem lgMem_getD {l : List Nat} {a : Nat} (h : a ∈ l) : ∃ i, i < l.length ∧ l.getD i 0 = a := by
  obtain ⟨i, hi, rfl⟩ := List.getElem_of_mem h
  exact ⟨i, hi, by rw [List.getD_eq_getElem?_getD, List.getElem?_eq_getElem hi]; rfl⟩
/-- Where write's loop stands: k pieces of the text that is to be written are there. -/
structure LK (fr mn : Nat) (rs0 : List (List UInt8)) (Wh0 : List Nat) (tx tt : List UInt8) (k : Nat) (s : Ls) (wh : List Nat) (D : Dk) : Prop where
  wl : wh.length = max (pcs tx.length) k
  kl : tx.length / 60 ≤ k
  ku : k ≤ pcs tt.length
  nd : wh.Nodup
  rng : ∀ a ∈ wh, 1 ≤ a ∧ a < mn
  old0 : s.old ≠ 0 → s.old < mn ∧ s.old ∉ wh ∧ s.sf ≤ tx.length / 60
  sfk : s.sf ≤ tx.length / 60 ∨ (k = tx.length / 60 ∧ s.sf ≤ wh.length)
  stk : (enc rs0).length / 60 ≤ tx.length / 60
  stf : (enc rs0).length / 60 ≤ s.sf
  whn : ∀ n, n < (enc rs0).length / 60 → n < tx.length / 60 ∧ wh.getD n 0 = Wh0.getD n 0
  saf : ∀ n, n < s.sf → ∃ q, sfP fr mn D (wh.getD n 0) = some q ∧ q.num = n ∧ (tx.length ≤ 60 * n + q.byt.length ∨ q.byt.length = 60) ∧ (q.sit = s.sit ∨ n < (enc rs0).length / 60 ∨ tx.length = (enc rs0).length)
section
variable {fr mn since : Nat} {P0 : Nat → Option Pc} {rs0 : List (List UInt8)} {Wh0 : List Nat} {T : List UInt8} {rsm : List (List UInt8)} {D : Dk} {tx tt : List UInt8} {k : Nat} {s : Ls} {wh : List Nat}
/-- A piece gets its block. -/
theorem LK.place (h : LK fr mn rs0 Wh0 tx tt k s wh D) (hk : k < pcs tt.length) (hr : tt.length ≤ (mn - 2) * 60) :
    k < (plc s wh k).2.length ∧ (plc s wh k).2.length = max (pcs tx.length) (k + 1) ∧ (plc s wh k).2.Nodup ∧ (∀ a ∈ (plc s wh k).2, 1 ≤ a ∧ a < mn) ∧
    ((plc s wh k).1.old ≠ 0 → (plc s wh k).1.old < mn ∧ (plc s wh k).1.old ∉ (plc s wh k).2 ∧ (plc s wh k).1.sf ≤ tx.length / 60) ∧ (plc s wh k).1.sf ≤ tx.length / 60 ∧
    (∀ n, n < (plc s wh k).1.sf → (plc s wh k).2.getD n 0 = wh.getD n 0 ∧ n < s.sf) ∧ (∀ a, PrS (plc s wh k).1 (plc s wh k).2 a ↔ PrS s wh a) ∧ ¬ PrS s wh ((plc s wh k).2.getD k 0) ∧
    (plc s wh k).1.sit = s.sit ∧ (plc s wh k).1.st = s.st ∧ (∀ n, n < k → (plc s wh k).2.getD n 0 = wh.getD n 0) ∧ (enc rs0).length / 60 ≤ (plc s wh k).1.sf := by
  have hp1 : pcs tx.length ≤ tx.length / 60 + 1 := by unfold pcs; omega
  have hp2 : tx.length / 60 ≤ pcs tx.length := by unfold pcs; omega
  have hpt : pcs tt.length ≤ mn - 2 := by unfold pcs; omega
  have hwl := h.wl
  have hkl := h.kl
  have hF := freeN_free s.old wh
  obtain ⟨f, hf⟩ : ∃ f, freeN s.old wh = f := ⟨_, rfl⟩
  rw [hf] at hF
  have hle := hF.le
  unfold plc
  rw [hf]
  by_cases h1 : k = wh.length
  · rw [if_pos h1]
    dsimp only
    have hsf : s.sf ≤ wh.length := by rcases h.sfk with e | ⟨_, e⟩ <;> omega
    have hsf2 : s.sf ≤ tx.length / 60 := by
      rcases h.sfk with e | ⟨e1, e⟩
      · exact e
      · omega
    refine ⟨by simp; omega, by simp; omega, ?_, fun a ha => ?_, fun ho => ?_, hsf2, fun n hn => ⟨getD_app wh f n (by omega), hn⟩, fun a => ?_, ?_, rfl, rfl, fun n hn => getD_app wh f n (by omega), h.stf⟩
    · rw [List.nodup_append]
      exact ⟨h.nd, by simp, fun a ha b hb e => hF.out (by simp at hb; rw [← hb, ← e]; exact ha)⟩
    · rcases List.mem_append.1 ha with ha | ha
      · exact h.rng a ha
      · rw [List.mem_singleton.1 ha]
        exact ⟨hF.pos, by omega⟩
    · obtain ⟨o1, o2, o3⟩ := h.old0 ho
      refine ⟨o1, fun hm => ?_, o3⟩
      rcases List.mem_append.1 hm with hm | hm
      · exact o2 hm
      · exact hF.no (List.mem_singleton.1 hm).symm
    · unfold PrS
      constructor
      · rintro (⟨n, g1, g2, g3⟩ | g)
        · exact .inl ⟨n, g1, by omega, by rw [← g3, getD_app wh f n (by omega)]⟩
        · exact .inr g
      · rintro (⟨n, g1, g2, g3⟩ | g)
        · exact .inl ⟨n, g1, by simp; omega, by rw [← g3, getD_app wh f n (by omega)]⟩
        · exact .inr g
    · rw [h1, getD_appE]
      rintro (⟨n, g1, g2, g3⟩ | ⟨g1, g2⟩)
      · exact hF.out (by rw [← g3]; exact lgD_mem g2)
      · exact hF.no g2
  · rw [if_neg h1]
    have hkw : k < wh.length := by omega
    by_cases h2 : k < s.sf
    · rw [if_pos h2]
      dsimp only
      have hk0 : k = tx.length / 60 ∧ s.sf ≤ wh.length := by
        rcases h.sfk with e | e
        · omega
        · exact e
      have hold : s.old = 0 := Classical.byContradiction fun hn => by have := (h.old0 hn).2.2; omega
      have hsf : s.sf = k + 1 := by omega
      have hwk := lgD_mem hkw
      have hrk := h.rng _ hwk
      have hfk : f ≠ wh.getD k 0 := fun e => hF.out (by rw [e]; exact hwk)
      have hl0 := hle.2 hold
      refine ⟨by simp; exact hkw, by simp; omega, ?_, fun a ha => ?_, fun _ => ⟨hrk.2, fun hm => ?_, by omega⟩, by omega, fun n hn => ⟨by rw [getD_setN, if_neg (by omega)], by omega⟩, fun a => ?_, ?_, rfl, rfl, fun n hn => by rw [getD_setN, if_neg (by omega)], by have := h.stk; omega⟩
      · refine nodup_of (fun i j hij hj => ?_)
        simp only [List.length_set] at hj
        rw [getD_setN, getD_setN]
        by_cases e1 : k = i
        · rw [if_pos ⟨e1, hkw⟩, if_neg (by omega)]
          exact fun e => hF.out (by rw [e]; exact lgD_mem hj)
        · by_cases e2 : k = j
          · rw [if_neg (fun x => e1 x.1), if_pos ⟨e2, hkw⟩]
            exact fun e => hF.out (by rw [← e]; exact lgD_mem (by omega))
          · rw [if_neg (fun x => e1 x.1), if_neg (fun x => e2 x.1)]
            exact nodup_ne h.nd hij hj
      · obtain ⟨i, hi, rfl⟩ := lgMem_getD ha
        rw [getD_setN]
        split
        · exact ⟨hF.pos, by omega⟩
        · exact h.rng _ (lgD_mem (by simpa using hi))
      · obtain ⟨i, hi, e⟩ := lgMem_getD hm
        rw [getD_setN] at e
        split at e
        · exact hfk e
        · rename_i hne
          have hi' : i < wh.length := by simpa using hi
          have := nodup_getD h.nd hi' hkw e
          exact hne ⟨this.symm, hkw⟩
      · unfold PrS
        simp only
        constructor
        · rintro (⟨n, g1, g2, g3⟩ | ⟨g1, g2⟩)
          · rw [getD_setN, if_neg (by omega)] at g3
            exact .inl ⟨n, by omega, by simpa using g2, g3⟩
          · exact .inl ⟨k, h2, hkw, g2.symm⟩
        · rintro (⟨n, g1, g2, g3⟩ | ⟨g1, g2⟩)
          · by_cases e : n = k
            · subst e
              exact .inr ⟨by omega, g3.symm⟩
            · exact .inl ⟨n, by omega, by simpa using g2, by rw [getD_setN, if_neg (by omega)]; exact g3⟩
          · exact absurd hold g1
      · rw [getD_setN, if_pos ⟨rfl, hkw⟩]
        rintro (⟨n, g1, g2, g3⟩ | ⟨g1, g2⟩)
        · exact hF.out (by rw [← g3]; exact lgD_mem g2)
        · exact g1 hold
    · rw [if_neg h2]
      dsimp only
      have hsf2 : s.sf ≤ tx.length / 60 := by
        rcases h.sfk with e | ⟨e1, e⟩
        · exact e
        · omega
      refine ⟨hkw, by omega, h.nd, h.rng, h.old0, hsf2, fun n hn => ⟨rfl, hn⟩, fun a => Iff.rfl, ?_, rfl, rfl, fun n hn => rfl, h.stf⟩
      rintro (⟨n, g1, g2, g3⟩ | ⟨g1, g2⟩)
      · have := nodup_getD h.nd g2 hkw g3
        omega
      · exact (h.old0 g1).2.1 (by rw [← g2]; exact lgD_mem hkw)
end
end Go.Proofs.Ytijjegkkeigeoaa
