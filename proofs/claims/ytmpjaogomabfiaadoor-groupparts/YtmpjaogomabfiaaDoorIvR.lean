/-
  Numbers in a row of one's own, any of 64 bits; one more behind them.
-/
import Derived.Test.YtmpjaogomabfiaaDoorNRow
import Derived.OwnWalk
import Derived.Maps.AppendAt
import Derived.Laws.NewBlocks
import Derived.RangeFuncRecord
import Derived.Deep.MidRow
namespace Go.Proofs.YtmpjaogomabfiaaDoor
set_option linter.unusedVariables false
set_option linter.unusedSimpArgs false
set_option maxRecDepth 100000
open Go.RowKit Go.Lib

def IvRow (W : World) (n : Nat) (v : Value) (l : List Int) : Prop := W.ownsRow n 3 1 v l.length (l.map (Value.int .i64))
theorem IvRow.nil (w : World) (n : Nat) : IvRow w n (.slice none 0 0) [] := World.ownsRow_nil _ _ _ _
theorem IvRow.own {w : World} {n : Nat} {v : Value} {xs : List Int} (h : IvRow w n v xs) : ∀ j, v.ownBlock = some j → n ≤ j := fun j ej => by
  rcases h.2 with ⟨rfl, _⟩ | ⟨g, cp, cur, rfl, hg, _⟩
  · cases ej
  · cases ej; exact hg
theorem IvRow.below {w w' : World} {n : Nat} {v : Value} {l : List Int} (h : IvRow w n v l) (hb : Below w.heap.size w w') : IvRow w' n v l := by
  rcases h.2 with ⟨hv, hn⟩ | ⟨g1, c1, cur, hv, hb1, hh, r⟩
  · exact ⟨h.1, .inl ⟨hv, hn⟩⟩
  · exact ⟨h.1, .inr ⟨g1, c1, cur, hv, hb1, (hb.block g1 (Array.getElem?_eq_some_iff.1 hh).1).trans hh, r⟩⟩
theorem IvRow.shape {w : World} {n : Nat} {v : Value} {l : List Int} (h : IvRow w n v l) : ∃ a cap, v = .slice a l.length cap := by
  rcases h.2 with ⟨hv, hn⟩ | ⟨g1, c1, cur, hv, _⟩
  · rw [hn]; exact ⟨_, _, hv⟩
  · exact ⟨_, _, hv⟩
theorem IvRow.cells {W : World} {base : Nat} {v : Value} {l : List Int} (h : IvRow W base v l) (h0 : 0 < l.length) : ∃ g cap, v = .slice (some ⟨g, 0, none⟩) l.length cap ∧ base ≤ g ∧ g < W.heap.size ∧ l.length ≤ cap ∧ ∀ k, k < l.length → W.cell? ⟨g, k, none⟩ = some (.int .i64 (l.getD k 0)) := by
  rcases h.2 with ⟨hv, hn⟩ | ⟨g, cap, cur, hv, hb, hg, hc, _, _, ht⟩
  · omega
  · refine ⟨g, cap, hv, hb, (Array.getElem?_eq_some_iff.1 hg).1, hc, fun k hk => ?_⟩
    have e1 : (l.map (Value.int .i64))[k]? = cur[k]? := by
      rw [← ht, List.getElem?_take, if_pos (by omega)]
      simp
    have e2 : W.cell? ⟨g, k, none⟩ = cur[k]? := by simp [World.cell?, hg]
    rw [e2, ← e1, List.getD_eq_getElem?_getD, List.getElem?_eq_getElem hk]
    simp [hk]
theorem iv_one {w W : World} {z : Int} (h : w.alloc (.cells #[.int .i64 z] 3) = W) {n : Nat} (hn : n ≤ w.heap.size) : IvRow W n (.slice (some ⟨w.heap.size, 0, none⟩) 1 1) [z] := by
  subst h
  exact ⟨rfl, .inr ⟨w.heap.size, 1, #[.int .i64 z], rfl, hn, World.alloc_heap_new w _, Nat.le_refl _, by decide, rfl, rfl⟩⟩
theorem iv_info : (Tryd.prog.info? 3).map (fun i => (i.zero, i.size, i.bytes)) = some (some (.int .i64 0), 1, 8) := by kernel_rfl
theorem run_appI (w : World) (ty : TypeId) (base : Nat) (v : Value) (l : List Int) (z : Int) (b : Nat) (hr : IvRow w base v l) (hb : w.heap[b]? = some (.cells #[.int .i64 z] 3 (0, 0))) (hbs : base ≤ w.heap.size) (hlen : l.length ≤ 100000) :
    ∃ v' w', (Builtin.append_ #[28, 28] ty #[v, .slice (some ⟨b, 0, none⟩) 1 1]).run Tryd.prog w = .ok v' w' ∧ IvRow w' base v' (l ++ [z]) ∧ Below base w w' := by
  obtain ⟨qi, hqi, hq0, hq1, hq2⟩ := info_parts iv_info
  obtain ⟨v', w', h1, h2, h3, _, h5⟩ := run_append_own_at (P := Tryd.prog) w base 28 ty 3 qi (.int .i64 0) 1 8 Tryd.underlying28 hqi hq0 hq1 hq2 rfl (by omega) v l.length (l.map (Value.int .i64)) hr ⟨b, 0, none⟩ 1 1 [.int .i64 z] rfl (fun j u hj => by
    rw [Addr.add_mid, Nat.zero_add]
    simp [World.cell?, hb]
    simpa using hj) (by simp [Value.oneCell']) (by unfold maxLen; omega) (by omega) hbs
  refine ⟨v', w', h1, ?_, (Below.refl base w).grown h3 hbs hr.own⟩
  unfold IvRow
  rw [List.length_append, List.map_append]
  exact h2
theorem wpList_appI {w : World} {ops : Array Oper} {rest : List Oper} {o : Oper} {a : Act} {Q : Exit → Act → World → Prop} (hgd : o.guard = none) (s x : Operand)
    (ho : o.op = .call { callee := .builtin .append, args := #[s, x], argTypes := #[28, 28] })
    (base : Nat) (v : Value) (l : List Int) (hs : a.eval s = v) (hown : IvRow w base v l) (b : Nat) (z : Int) (hx : a.eval x = .slice (some ⟨b, 0, none⟩) 1 1) (hb : w.heap[b]? = some (.cells #[.int .i64 z] 3 (0, 0))) (hbase : base ≤ w.heap.size) (hlen : l.length ≤ 100000)
    (hh : ∀ v' w', IvRow w' base v' (l ++ [z]) → Below base w w' → wpList Tryd.prog ops Q rest (a.put o.dst v') w') : wpList Tryd.prog ops Q (o :: rest) a w := by
  refine wpList_plain hgd fun K hK => ?_
  obtain ⟨v', w', hr, h2, h3⟩ := run_appI w o.type base v l z b hown hb hbase hlen
  unfold Oper.wp execOp
  simp only [ho, resolve, invoke, builtin, Sem.run_bind, Sem.run_pure, Result.andThen_ok, List.map_toArray, List.map_cons, List.map_nil, hs, hx, hr]
  exact hK _ _ (hh v' w' h2 h3)
end Go.Proofs.YtmpjaogomabfiaaDoor
