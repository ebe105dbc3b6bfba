/-
  Whole numbers of any size in memory, and the contracts of quarterdaybig's words, give, SetInt64 and NewInt, and of dayref1's Big.
-/
import Derived.Test.YtphlcjghcffnbaaDoorBig1
import Derived.Laws.Rows
namespace Go.Proofs.YtphlcjghcffnbaaDoor
set_option linter.unusedVariables false
open Go.RowKit Big

/-- A number with its sign. -/
def sg (neg : Bool) (n : Nat) : Int := if neg then -(n : Int) else n

/-- A whole number of any size stands in block p. -/
structure IsBig (w : World) (p : Nat) (neg : Bool) (v : Value) (l : List Nat) : Prop where
  blk : w.heap[p]? = some (.cells #[.bool neg, v] 40 (0, 0))
  wd : Wd w v l
  nrm : Nrm l
  sgn : neg = true → 0 < l.length

theorem blk_lt {w : World} {p : Nat} {o : Obj} (h : w.heap[p]? = some o) : p < w.heap.size := by
  rcases Nat.lt_or_ge p w.heap.size with h1 | h1
  · exact h1
  · rw [Array.getElem?_eq_none h1] at h; cases h
theorem blk_cell0 {w : World} {p : Nat} {c0 c1 : Value} {t : TypeId} (h : w.heap[p]? = some (.cells #[c0, c1] t (0, 0))) : w.cell? ⟨p, 0, none⟩ = some c0 := by simp [World.cell?, h]
theorem blk_cell1 {w : World} {p : Nat} {c0 c1 : Value} {t : TypeId} (h : w.heap[p]? = some (.cells #[c0, c1] t (0, 0))) : w.cell? ⟨p, 1, none⟩ = some c1 := by simp [World.cell?, h]
theorem blk_frozen {w : World} {p i : Nat} {c : Array Value} {t : TypeId} (h : w.heap[p]? = some (.cells c t (0, 0))) : w.frozen? ⟨p, i, none⟩ = false := by simp [World.frozen?, h]

/-- The words of a list stand in no block of another kind. -/
theorem Wd.apart {w : World} {v : Value} {l : List Nat} (h : Wd w v l) {p : Nat} {neg : Bool} {u : Value} {t : TypeId} (hp : w.heap[p]? = some (.cells #[.bool neg, u] t (0, 0))) (hu : ∀ k n, u ≠ .int k n) :
    ∀ b off n cap, v = .slice (some ⟨b, off, none⟩) n cap → 0 < l.length → b ≠ p := by
  rintro b off n cap rfl h0 rfl
  rcases h.at_ with ⟨h1, _⟩ | ⟨h1, b', off', cap', hv, hb, hcap, hc⟩
  · subst h1; simp at h0
  · cases hv
    have h2 := hc 0 h1
    simp only [World.cell?, hp] at h2
    match off, h2 with
    | 0, h2 => simp at h2
    | 1, h2 => simp at h2; exact hu _ _ h2
    | n + 2, h2 => simp at h2

theorem Wd.keepP {w w' : World} {v : Value} {l : List Nat} (h : Wd w v l) {p : Nat} {neg : Bool} {u : Value} {t : TypeId} (hp : w.heap[p]? = some (.cells #[.bool neg, u] t (0, 0))) (hu : ∀ k n, u ≠ .int k n) (hg : w.grownBy w' (some p)) : Wd w' v l := by
  rcases Nat.eq_zero_or_pos l.length with h0 | h0
  · refine ⟨h.ok, h.len, ?_⟩
    rcases h.at_ with ⟨h1, a, cap, hv⟩ | ⟨h1, _⟩
    · exact .inl ⟨h1, a, cap, hv⟩
    · omega
  · exact h.keep hg (fun b off n cap hv => by have := h.apart hp hu b off n cap hv h0; simpa using this)

theorem Wd.noInt {w : World} {v : Value} {l : List Nat} (h : Wd w v l) : ∀ k n, v ≠ .int k n := by
  rintro k n rfl
  rcases h.at_ with ⟨_, _, _, hv⟩ | ⟨_, _, _, _, hv, _⟩ <;> cases hv

theorem Wd.slice {w : World} {v : Value} {l : List Nat} (h : Wd w v l) : ∃ a cap, v = .slice a l.length cap := by
  rcases h.at_ with ⟨h0, a, cap, hv⟩ | ⟨h0, b, off, cap, hv, _⟩
  · subst h0; exact ⟨a, cap, hv⟩
  · exact ⟨_, cap, hv⟩

theorem give_any (p : Nat) (neg n0 : Bool) (u v : Value) (l : List Nat) (w : World) (hp : w.heap[p]? = some (.cells #[.bool n0, u] 40 (0, 0))) (hu : ∀ k n, u ≠ .int k n) (hv : Wd w v l) (hn : Nrm l) :
    Calls Tryd.prog 24 #[.pointer (some ⟨p, 0, none⟩), .bool neg, v] w fun e w' => e = .returned (.pointer (some ⟨p, 0, none⟩)) ∧ IsBig w' p (neg && decide (0 < l.length)) v l ∧ w.grownBy w' (some p) := by
  obtain ⟨a, cap, rfl⟩ := hv.slice
  have c0 := blk_cell0 hp
  have c1 := blk_cell1 hp
  have f0 := blk_frozen (i := 0) hp
  have f1 := blk_frozen (i := 1) hp
  have hlt := blk_lt hp
  have key : ∀ b : Bool, ((w.setCell ⟨p, 1, none⟩ (.slice a l.length cap)).setCell ⟨p, 0, none⟩ (.bool b)).heap[p]? = some (.cells #[.bool b, .slice a l.length cap] 40 (0, 0)) := by
    intro b
    rw [heap_setCell_same _ p 0 #[.bool n0, .slice a l.length cap] 40 _ (by rw [heap_setCell_same _ p 1 _ _ _ hp]; rfl)]; rfl
  have grown : ∀ b : Bool, w.grownBy ((w.setCell ⟨p, 1, none⟩ (.slice a l.length cap)).setCell ⟨p, 0, none⟩ (.bool b)) (some p) := fun b =>
    ⟨rfl, rfl, rfl, by simp, fun k hk hne => by
      have hne : k ≠ p := fun e => hne (by rw [e])
      rw [heap_setCell_other _ _ _ _ hne, heap_setCell_other _ _ _ _ hne]⟩
  have fin : ∀ b : Bool, b = (neg && decide (0 < l.length)) → IsBig ((w.setCell ⟨p, 1, none⟩ (.slice a l.length cap)).setCell ⟨p, 0, none⟩ (.bool b)) p (neg && decide (0 < l.length)) (.slice a l.length cap) l := by
    rintro b rfl
    exact ⟨key _, hv.keepP hp hu (grown _), hn, by simp⟩
  have Fin : Hid (∀ b : Bool, b = (neg && decide (0 < l.length)) → IsBig ((w.setCell ⟨p, 1, none⟩ (.slice a l.length cap)).setCell ⟨p, 0, none⟩ (.bool b)) p (neg && decide (0 < l.length)) (.slice a l.length cap) l) := fin
  have Grown : Hid (∀ b : Bool, w.grownBy ((w.setCell ⟨p, 1, none⟩ (.slice a l.length cap)).setCell ⟨p, 0, none⟩ (.bool b)) (some p)) := grown
  clear key grown fin hp hu hv hn
  cases neg
  · go_enter Tryd.func24, Tryd.ntmps24
    go_wp2
    go_ret
    exact ⟨rfl, Fin.out _ rfl, Grown.out _⟩
  · go_enter Tryd.func24, Tryd.ntmps24
    go_wp2
    go_ret
    exact ⟨rfl, Fin.out _ (by simp), Grown.out _⟩
end Go.Proofs.YtphlcjghcffnbaaDoor
