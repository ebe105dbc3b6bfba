/-
  What is true of a chart with which nothing is wrong: codes are apart, parents stand ahead, who is under whom. It names no call.
-/
import Derived.Test.YtbbegoklikaphaaZs2
import Derived.Test.YtbbegoklikaphaaZs10
import Derived.Test.YtbbegoklikaphaaZs8
import Derived.Laws.NewBlocks
import Derived.Test.YtbbegoklikaphaaZs7
import Derived.Test.YtbbegoklikaphaaRows
import Derived.Test.YtbbegoklikaphaaZs1
import Derived.WalkKit
import Derived.WalkSpells
import Derived.Laws.Externs
import Derived.Below
import Derived.Test.YtbbegoklikaphaaZs3
namespace Go.Proofs.Ytbbegoklikaphaa
set_option linter.unusedVariables false
set_option linter.unusedSimpArgs false
set_option maxRecDepth 100000
open Go.RowKit Go.Lib

/-- Is a balance of an entity, an account and a currency? -/
def hasB (en : Int) (acc cur : ByteArray) (x : Bl) : Bool := decide (x.ent = en) && (decide (x.acc = acc) && decide (x.cur = cur))
/-- What is there of an entity, an account and a currency. -/
def getB (b : List Bl) (en : Int) (acc cur : ByteArray) : Int := (b.find? (hasB en acc cur)).elim 0 Bl.amt
/-- The place of the first balance for which something holds. -/
def fidx (p : Bl → Bool) : Nat → List Bl → Int
  | _, [] => -1
  | k, a :: l => if p a = true then (k : Int) else fidx p (k + 1) l
theorem fidx_spec (p : Bl → Bool) : ∀ (l : List Bl) (k : Nat), (fidx p k l = -1 ∧ l.find? p = none) ∨ ∃ j, j < l.length ∧ fidx p k l = ((k + j : Nat) : Int) ∧ l.find? p = some (l.getD j bl0)
  | [], k => .inl ⟨rfl, rfl⟩
  | x :: l, k => by
    cases h : p x
    · rcases fidx_spec p l (k + 1) with ⟨e, ha⟩ | ⟨j, hj, e, ha⟩
      · exact .inl ⟨by rw [fidx, if_neg (by simp [h]), e], by rw [List.find?_cons_of_neg (by simp [h]), ha]⟩
      · exact .inr ⟨j + 1, by simpa using hj, by rw [fidx, if_neg (by simp [h]), e]; congr 1; omega, by rw [List.find?_cons_of_neg (by simp [h]), ha]; rfl⟩
    · exact .inr ⟨0, by simp, by rw [fidx, if_pos h]; simp, by rw [List.find?_cons_of_pos h]; rfl⟩

/-- What is asked of a function that is told a balance, and has two values of its own. -/
structure BTells2 (g : Nat) (u v : Value) (p : Bl → Bool) (w : World) : Prop where
  eg : ∀ args W, (callFunc g args).run Try.prog W = .ok (.enter g args) W
  call : ∀ (x : Bl) W, Below w.heap.size w W → Calls Try.prog g #[.agg x.cells, u, v] W fun e w' => e = .returned (.bool (p x)) ∧ Below W.heap.size W w'
set_option maxHeartbeats 1000000 in
theorem fidx_some (g : Nat) (u v : Value) (p : Bl → Bool) (b off cap : Nat) (l : List Bl) (w : World) (hp : BTells2 g u v p w) (hb : b < w.heap.size) (hlen : (l.length : Int) ≤ 9223372036854775807) (hc : BlsAt w b off l) :
    Calls Try.prog 34 #[.slice (some ⟨b, off, none⟩) l.length cap, .func (.func g) #[] #[u, v]] w fun e w' => e = .returned (.int .i64 (fidx p 0 l)) ∧ Below w.heap.size w w' := by
  have eg := hp.eg
  have Hp : Hid (BTells2 g u v p w) := hp
  have Hc : Hid (BlsAt w b off l) := hc
  clear hp hc
  obtain ⟨res, hres⟩ : ∃ res, fidx p 0 l = res := ⟨_, rfl⟩
  have Hres : Hid (fidx p 0 l = res) := hres
  rw [hres]
  clear hres
  go_enter Try.func34, Try.ntmps34
  go_wp2
  go_loopw [8] (fun i wr => ∃ k : Nat, k ≤ l.length ∧ i = .int .i64 k ∧ Hid (fidx p k (l.drop k) = res) ∧ Below w.heap.size w wr) (fun i _ => l.length - (RowKit.intOf i).toNat)
  case atStart => exact ⟨0, Nat.zero_le _, rfl, Hres.out, Below.refl _ _⟩
  case round =>
    obtain ⟨k, hk, rfl, H, BW⟩ := hrel
    by_cases hlt : k < l.length
    · have hn := (Hc.out k hlt).below BW hb
      have hcall := Hp.out.call (l.getD k bl0) wr BW
      have E : Hid ((if p (l.getD k bl0) = true then (k : Int) else fidx p (k + 1) (l.drop (k + 1))) = res) := by
        have := H.out
        rw [bls_drop l k hlt] at this
        exact this
      clear H
      generalize l.getD k bl0 = a at *
      obtain ⟨a0, a1, a2, a3⟩ := a
      obtain ⟨c0, c1, c2, c3⟩ := hn
      simp only [Bl.cells] at c0 c1 c2 c3 hcall
      have i0 : (0 : Int) ≤ k := by omega
      have i1 : (k : Int) < l.length := by omega
      cases hq : p ⟨a0, a1, a2, a3⟩
      · rw [hq] at hcall
        have HN : Hid (fidx p (k + 1) (l.drop (k + 1)) = res) := by
          have := E.out; rw [if_neg (by rw [hq]; simp)] at this; exact this
        go_wp2_with (go_at_fn g; refine hcall.mono ?_; rintro e w' ⟨rfl, hb'⟩)
        go_roundw
        case rel => exact ⟨k + 1, by omega, by go_num, HN, BW.trans (hb'.mono BW.size)⟩
        case measure => simp [RowKit.intOf]; omega
      · rw [hq] at hcall
        have er : res = k := by rw [← E.out, if_pos hq]
        subst er
        go_wp2_with (go_at_fn g; refine hcall.mono ?_; rintro e w' ⟨rfl, hb'⟩)
        go_ret
        exact ⟨rfl, BW.trans (hb'.mono BW.size)⟩
    · have hk2 : k = l.length := by omega
      subst hk2
      have er : res = -1 := by rw [← H.out, List.drop_length]; rfl
      subst er
      go_wp2
      go_ret
      exact ⟨rfl, BW⟩
theorem fidx_nil (a : Option Addr) (cap : Nat) (f : Value) (w : World) :
    Calls Try.prog 34 #[.slice a 0 cap, f] w fun e w' => e = .returned (.int .i64 (-1)) ∧ Below w.heap.size w w' := by
  go_enter Try.func34, Try.ntmps34
  go_wp2
  refine wp_loop_rounds 1 ?_
  rw [rounds_succ]
  go_wp2
  go_ret
  exact ⟨rfl, Below.refl _ _⟩
theorem fidx_any (g : Nat) (u v : Value) (p : Bl → Bool) (a : Option Addr) (cap : Nat) (l : List Bl) (w : World) (hp : BTells2 g u v p w) (hlen : (l.length : Int) ≤ 9223372036854775807) (h : IsBl w a l cap) :
    Calls Try.prog 34 #[.slice a l.length cap, .func (.func g) #[] #[u, v]] w fun e w' => e = .returned (.int .i64 (fidx p 0 l)) ∧ Below w.heap.size w w' := by
  rcases h.lies with rfl | ⟨b, off, rfl, hlt, hc⟩
  · exact fidx_nil a cap _ w
  · exact fidx_some g u v p b off cap l w hp hlt hlen hc
theorem fidx_has (p : Bl → Bool) : ∀ (l : List Bl) (k : Nat), decide (0 ≤ fidx p k l) = l.any p
  | [], k => by simp [fidx]
  | x :: l, k => by
    rw [fidx]
    cases h : p x
    · rw [if_neg (by simp), fidx_has p l (k + 1)]; simp [h]
    · rw [if_pos rfl]; simp [h]
theorem fContains_any (g : Nat) (u v : Value) (p : Bl → Bool) (a : Option Addr) (cap : Nat) (l : List Bl) (w : World) (hp : BTells2 g u v p w) (hlen : (l.length : Int) ≤ 9223372036854775807) (h : IsBl w a l cap) :
    Calls Try.prog 13 #[.slice a l.length cap, .func (.func g) #[] #[u, v]] w fun e w' => e = .returned (.bool (l.any p)) ∧ Below w.heap.size w w' := by
  rw [← fidx_has p l 0]
  have hI := fidx_any g u v p a cap l w hp hlen h
  clear h hp
  go_enter Try.func13, Try.ntmps13
  go_wp2_with fail
  refine hI.mono ?_
  rintro e w' ⟨rfl, hb⟩
  go_wp2
  go_ret
  exact ⟨rfl, hb⟩
end Go.Proofs.Ytbbegoklikaphaa

namespace Go.Proofs.Ytbbegoklikaphaa
set_option linter.unusedVariables false
set_option linter.unusedSimpArgs false
set_option maxRecDepth 100000
open Go.RowKit Go.Lib

/-- An entry, wherever it lies. -/
structure Ep where
  ref : ByteArray
  ent : Int
  per : Int
  lns : List Ln
def Je.ep (x : Je) : Ep := ⟨x.ref, x.ent, x.per, x.lns⟩
/-- Entries that a call has made, with their lines. -/
structure Made (W : World) (n0 : Nat) (v : Value) (L : List Je) : Prop where
  row : JeRow W n0 v L
  lns : ∀ x ∈ L, LnRow W n0 (.slice x.adr x.lns.length x.cap) x.lns
theorem Made.nil (W : World) (n0 : Nat) : Made W n0 (.slice none 0 0) [] := ⟨JeRow.nil W n0, by simp⟩
theorem Made.below {W W' : World} {n0 : Nat} {v : Value} {L : List Je} (h : Made W n0 v L) (hb : Below W.heap.size W W') : Made W' n0 v L := ⟨h.row.below hb, fun x hx => (h.lns x hx).below hb⟩
theorem Made.isJs {W : World} {n0 : Nat} {v : Value} {L : List Je} (h : Made W n0 v L) : ∃ a cap, v = .slice a L.length cap ∧ IsJs W a L cap := by
  obtain ⟨a, cap, e, h1, h2⟩ := h.row.lies
  refine ⟨a, cap, e, h1, h2, fun x hx => ?_⟩
  obtain ⟨a', c', e', h'⟩ := (h.lns x hx).isLn
  cases e'
  exact h'
theorem made_typ {w : World} {n : Nat} {v : Value} {xs : List Je} (h : JeRow w n v xs) : ∀ j, v.ownBlock = some j → ∃ cs, w.heap[j]? = some (.cells cs 39 (0, 0)) := fun j ej => by
  rcases h.2 with ⟨rfl, _⟩ | ⟨g, cp, cur, rfl, hg, hh, _⟩
  · cases ej
  · cases ej; exact ⟨cur, hh⟩
theorem Made.add {W W1 : World} {n0 : Nat} {v v' : Value} {L : List Je} {x : Je} (h : Made W n0 v L) (hx : LnRow W n0 (.slice x.adr x.lns.length x.cap) x.lns) (ho : W1.ownsRow n0 39 4 v' (L.length + 1) (jeRow L ++ x.cells.toList)) (hg : W.grownBy W1 v.ownBlock) : Made W1 n0 v' (L ++ [x]) := by
  have keep : ∀ y : Je, LnRow W n0 (.slice y.adr y.lns.length y.cap) y.lns → LnRow W1 n0 (.slice y.adr y.lns.length y.cap) y.lns := fun y hy => by
    rcases hy.2 with ⟨hv, hn⟩ | ⟨g1, c1, cur, hv, hb1, hh, r⟩
    · exact ⟨hy.1, .inl ⟨hv, hn⟩⟩
    · refine ⟨hy.1, .inr ⟨g1, c1, cur, hv, hb1, (hg.block g1 (Array.getElem?_eq_some_iff.1 hh).1 fun e => ?_).trans hh, r⟩⟩
      obtain ⟨cs, h2⟩ := made_typ h.row g1 e.symm
      rw [hh] at h2
      cases h2
  refine ⟨?_, fun y hy => ?_⟩
  · unfold JeRow
    rw [jeRow_append, jeRow_one, List.length_append]
    exact ho
  · rcases List.mem_append.1 hy with hy | hy
    · exact keep y (h.lns y hy)
    · rw [List.mem_singleton] at hy
      subst hy
      exact keep _ hx

end Go.Proofs.Ytbbegoklikaphaa

namespace Go.Proofs.Ytbbegoklikaphaa
set_option linter.unusedVariables false
set_option linter.unusedSimpArgs false
set_option maxRecDepth 100000
open Go.RowKit Go.Lib Math

/-- Has a chart an account with a code? -/
def isAcc (c : List Ac) (code : ByteArray) : Bool := decide (0 ≤ idxP (hasCode code) c)
theorem rvAcc1_any (x : Ac) (c : ByteArray) (B : Nat) (w : World) (hB : w.cell? ⟨B, 0, none⟩ = some (.string c)) (hlt : B < w.heap.size) :
    Calls Try.prog 36 #[.agg x.cells, .pointer (some ⟨B, 0, none⟩)] w fun e w' => e = .returned (.bool (hasCode c x)) ∧ Below w.heap.size w w' := by
  obtain ⟨a0, a1, a2, a3, a4⟩ := x
  have b0 : Below w.heap.size w (w.alloc (.cells #[.string a0, .string a1, .int .i64 a2, .string a3, .bool a4] 42)) := (Below.refl _ w).alloc (Nat.le_refl _) _
  have hB2 : (w.alloc (.cells #[.string a0, .string a1, .int .i64 a2, .string a3, .bool a4] 42)).cell? ⟨B, 0, none⟩ = some (.string c) := (b0.cell (p := ⟨B, 0, none⟩) hlt).trans hB
  simp only [Ac.cells]
  by_cases h : a0 = c
  · subst h
    have e1 : hasCode a0 ⟨a0, a1, a2, a3, a4⟩ = true := by simp [hasCode]
    rw [e1]
    go_enter Try.func36, Try.ntmps36
    go_wp2
    go_ret
    exact ⟨rfl, b0⟩
  · have e1 : hasCode c ⟨a0, a1, a2, a3, a4⟩ = false := by simp [hasCode, h]
    have h' := ch_ne h
    rw [e1]
    go_enter Try.func36, Try.ntmps36
    go_wp2
    go_ret
    exact ⟨by rw [← h']; rfl, b0⟩
theorem rvAcc1_tells (c : ByteArray) (B : Nat) (w : World) (hB : w.cell? ⟨B, 0, none⟩ = some (.string c)) (hlt : B < w.heap.size) : Tells 36 B (hasCode c) w :=
  ⟨fun args W => enters Try.func36 (by kernel_rfl) ⟨_, rfl⟩ args W, fun x W hW => rvAcc1_any x c B W ((hW.cell (p := ⟨B, 0, none⟩) hlt).trans hB) (by have := hW.size; omega)⟩
theorem rvAcc_any (a : Option Addr) (cap : Nat) (c : List Ac) (code : ByteArray) (w : World) (hlen : c.length ≤ 1000) (h : IsSl w a c cap) :
    Calls Try.prog 15 #[.slice a c.length cap, .string code] w fun e w' => e = .returned (.bool (isAcc c code)) ∧ Below w.heap.size w w' := by
  have b1 : Below w.heap.size w (w.alloc (.cells #[.string code] 9)) := (Below.refl _ w).alloc (Nat.le_refl _) _
  have HI : Hid (Calls Try.prog 35 #[.slice a c.length cap, .func (.func 36) #[] #[.pointer (some ⟨w.heap.size, 0, none⟩)]] (w.alloc (.cells #[.string code] 9)) fun e w' => e = .returned (.bool (isAcc c code)) ∧ Below w.heap.size w w') := by
    refine (chContF_any _ w.heap.size (hasCode code) a cap c _ (rvAcc1_tells code w.heap.size _ (by simp) (by simp)) hlen (h.below b1)).mono ?_
    rintro e w' ⟨rfl, hb⟩
    exact ⟨rfl, b1.trans (hb.mono b1.size)⟩
  clear h b1
  generalize isAcc c code = r at *
  go_enter Try.func15, Try.ntmps15
  go_wp2_with fail
  refine HI.out.mono ?_
  rintro e w' ⟨rfl, hb⟩
  have HB : Hid (Below w.heap.size w w') := hb
  clear hb
  go_wp2
  go_ret
  exact ⟨rfl, HB.out⟩
/-- A balance of an entity without an account. -/
def noAcc (c : List Ac) (en : Int) (x : Bl) : Bool := decide (x.ent = en) && !isAcc c x.acc
set_option maxHeartbeats 2000000 in
theorem rvEnt1_any (x : Bl) (c : List Ac) (a : Option Addr) (cap : Nat) (en : Int) (B1 B2 : Nat) (w : World) (h1 : B1 < w.heap.size) (h2 : B2 < w.heap.size) (hB1 : w.cell? ⟨B1, 0, none⟩ = some (.int .i64 en)) (hB2 : w.cell? ⟨B2, 0, none⟩ = some (.slice a c.length cap)) (hlen : c.length ≤ 1000) (h : IsSl w a c cap) :
    Calls Try.prog 14 #[.agg x.cells, .pointer (some ⟨B1, 0, none⟩), .pointer (some ⟨B2, 0, none⟩)] w fun e w' => e = .returned (.bool (noAcc c en x)) ∧ Below w.heap.size w w' := by
  obtain ⟨x0, x1, x2, x3⟩ := x
  have b0 : Below w.heap.size w (w.alloc (.cells #[.int .i64 x0, .string x1, .string x2, .int .i64 x3] 34)) := (Below.refl _ w).alloc (Nat.le_refl _) _
  have k1 : (w.alloc (.cells #[.int .i64 x0, .string x1, .string x2, .int .i64 x3] 34)).cell? ⟨B1, 0, none⟩ = some (.int .i64 en) := (b0.cell (p := ⟨B1, 0, none⟩) h1).trans hB1
  have k2 : (w.alloc (.cells #[.int .i64 x0, .string x1, .string x2, .int .i64 x3] 34)).cell? ⟨B2, 0, none⟩ = some (.slice a c.length cap) := (b0.cell (p := ⟨B2, 0, none⟩) h2).trans hB2
  have HI : Hid (Calls Try.prog 15 #[.slice a c.length cap, .string x1] (w.alloc (.cells #[.int .i64 x0, .string x1, .string x2, .int .i64 x3] 34)) fun e w' => e = .returned (.bool (isAcc c x1)) ∧ Below w.heap.size w w') := by
    refine (rvAcc_any a cap c x1 _ hlen (h.below b0)).mono ?_
    rintro e w' ⟨rfl, hb⟩
    exact ⟨rfl, b0.trans (hb.mono b0.size)⟩
  simp only [Bl.cells, noAcc]
  clear hB1 hB2 h
  generalize isAcc c x1 = r at *
  by_cases c1 : x0 = en
  · have c1' : (x0 == en) = true := by simp [c1]
    have e1 : (decide (x0 = en) && !r) = !r := by simp [c1]
    rw [e1]
    subst c1
    clear e1 b0
    go_enter Try.func14, Try.ntmps14
    go_wp2_with fail
    refine HI.out.mono ?_
    rintro e w' ⟨rfl, hb⟩
    have HB : Hid (Below w.heap.size w w') := hb
    clear hb HI
    go_wp2
    go_ret
    exact ⟨rfl, HB.out⟩
  · have e1 : (decide (x0 = en) && !r) = false := by simp [c1]
    have c1' : (x0 == en) = false := by rw [beq_eq_false_iff_ne]; exact c1
    rw [e1]
    clear e1 HI
    go_enter Try.func14, Try.ntmps14
    go_wp2
    go_ret
    exact ⟨rfl, b0⟩
/-- What is wrong with an amount that is brought to an account. -/
def brBad (n : Int) (code gain : ByteArray) : Int := if isAmtB n = false then 1 else if n ≠ 0 ∧ code = gain then 8 else 0
set_option maxHeartbeats 2000000 in
theorem brBad_any (n : Int) (code gain : ByteArray) (w : World) :
    Calls Try.prog 17 #[.int .i64 n, .string code, .string gain] w fun e w' => e = .returned (errV (brBad n code gain)) ∧ w' = w := by
  have H1 := isAmount_any n w
  unfold brBad
  cases c1 : isAmtB n
  · rw [c1] at H1
    rw [if_pos rfl, errV_ne (by decide)]
    clear c1
    go_enter Try.func17, Try.ntmps17
    go_wp2_with (go_at_call 39; refine H1.mono ?_; rintro e w' ⟨rfl, rfl⟩)
    go_ret
    exact ⟨rfl, rfl⟩
  rw [c1] at H1
  rw [if_neg (by decide)]
  clear c1
  by_cases c2 : n = 0
  · subst c2
    rw [if_neg (by simp), errV_zero]
    go_enter Try.func17, Try.ntmps17
    go_wp2_with (go_at_call 39; refine H1.mono ?_; rintro e w' ⟨rfl, rfl⟩)
    go_ret
    exact ⟨rfl, rfl⟩
  have c2' : (n != 0) = true := by simpa using c2
  by_cases c3 : code = gain
  · rw [if_pos ⟨c2, c3⟩, errV_ne (by decide)]
    subst c3
    clear c2
    go_enter Try.func17, Try.ntmps17
    go_wp2_with (go_at_call 39; refine H1.mono ?_; rintro e w' ⟨rfl, rfl⟩)
    go_ret
    exact ⟨rfl, rfl⟩
  · rw [if_neg (fun h => c3 h.2), errV_zero]
    have c3' := ch_ne c3
    clear c2
    go_enter Try.func17, Try.ntmps17
    go_wp2_with (go_at_call 39; refine H1.mono ?_; rintro e w' ⟨rfl, rfl⟩)
    go_ret
    exact ⟨rfl, rfl⟩
/-- The lines of what is brought. -/
def brL (n : Int) (base code gain : ByteArray) : List Ln := [⟨code, base, n⟩, ⟨gain, base, -n⟩]
theorem rvRow_two (w : World) (n0 : Nat) (x y : Ln) (hn : n0 ≤ w.heap.size) : LnRow (w.alloc (.cells (x.cells ++ y.cells) 36)) n0 (.slice (some ⟨w.heap.size, 0, none⟩) 2 2) [x, y] := by
  refine ⟨rfl, .inr ⟨w.heap.size, 2, x.cells ++ y.cells, rfl, hn, by unfold World.alloc; simp only [Array.getElem?_push_size], Nat.le_refl _, by unfold maxLen; omega, rfl, ?_⟩⟩
  simp [lnRow, Ln.cells]
theorem brought_any (n : Int) (base code gain : ByteArray) (w : World) (h1 : -9223372036854775807 ≤ n) (h2 : n ≤ 9223372036854775807) :
    Calls Try.prog 18 #[.int .i64 n, .string base, .string code, .string gain] w fun e w' => ∃ adr cap, e = .returned (.slice adr 2 cap) ∧ LnRow w' w.heap.size (.slice adr 2 cap) (brL n base code gain) ∧ Below w.heap.size w w' := by
  have wn : IntKind.i64.wrap (-n) = -n := by
    simp only [IntKind.wrap, IntKind.bits, IntKind.signed]
    simp
    omega
  have HE : Hid (LnRow (w.alloc (.cells #[.string code, .string base, .int .i64 n, .string gain, .string base, .int .i64 (-n)] 36)) w.heap.size (.slice (some ⟨w.heap.size, 0, none⟩) 2 2) (brL n base code gain) ∧ Below w.heap.size w (w.alloc (.cells #[.string code, .string base, .int .i64 n, .string gain, .string base, .int .i64 (-n)] 36))) :=
    ⟨rvRow_two w w.heap.size ⟨code, base, n⟩ ⟨gain, base, -n⟩ (Nat.le_refl _), (Below.refl _ w).alloc (Nat.le_refl _) _⟩
  clear h1 h2
  go_enter Try.func18, Try.ntmps18
  go_wp2
  go_ret
  exact ⟨_, _, rfl, HE.out.1, HE.out.2⟩
end Go.Proofs.Ytbbegoklikaphaa

namespace Go.Proofs.Ytbbegoklikaphaa
set_option linter.unusedVariables false
open Go.RowKit Math

theorem add64_any (x y : Int) (hx : 0 ≤ x) (hy : 0 ≤ y) (hx2 : x < 18446744073709551616) (hy2 : y < 18446744073709551616) (w : World) :
    (callFunc 53 #[.int .u64 x, .int .u64 y, .int .u64 0]).run Try.prog w =
      .ok (.value (.tuple #[.int .u64 ((x + y) % 18446744073709551616), .int .u64 ((x + y) / 18446744073709551616)])) w := by
  obtain ⟨x, rfl⟩ := Int.eq_ofNat_of_zero_le hx
  obtain ⟨y, rfl⟩ := Int.eq_ofNat_of_zero_le hy
  rw [run_callFunc_extern Try.func53 (by kernel_rfl) (by kernel_rfl) (by kernel_rfl) (e := add64Entry) (by kernel_rfl)]
  have h := run_add64 (P := Try.prog) x y 0 (by omega) (by omega) (by omega) (by omega) w
  rw [h]
  simp only [Result.andThen, Int.add_zero]

theorem add64_w (s x : Int) (w : World) : (callFunc 53 #[.int .u64 (loW s), .int .u64 (IntKind.u64.wrap x), .int .u64 0]).run Try.prog w =
      .ok (.value (.tuple #[.int .u64 (loW (s + x)), .int .u64 (cW s x)])) w := by
  have b1 := loW_bd s
  have b2 := loW_bd x
  have e : IntKind.u64.wrap x = loW x := IntKind.wrap_u64 x
  rw [e, add64_any _ _ b1.1 b2.1 b1.2 b2.2, loW_add]
  rfl

theorem take_sum (l : List Int) (k : Nat) (h : k < l.length) : (l.take (k + 1)).sum = (l.take k).sum + l.getD k 0 := by
  rw [List.take_succ_eq_append_getElem h, List.sum_append]
  simp [h]

/-- What is handed back beside a sum. -/
def sumV (s : Int) : Int := if -9223372036854775808 ≤ s ∧ s ≤ 9223372036854775807 then s else 0
def sumE (s : Int) : Value := if -9223372036854775808 ≤ s ∧ s ≤ 9223372036854775807 then .nilIface else .iface 58 (.int .i64 10)

theorem sum_bound (l : List Int) (k : Nat) (h : k ≤ l.length) (hI : ∀ i, i < l.length → I64 (l.getD i 0)) :
    -((k : Int) * 9223372036854775808) ≤ (l.take k).sum ∧ (l.take k).sum ≤ (k : Int) * 9223372036854775808 := by
  induction k with
  | zero => simp
  | succ k ih =>
    have := ih (by omega)
    have h2 := hI k (by omega)
    unfold I64 at h2
    rw [take_sum l k (by omega)]
    omega

theorem wrap64_lo (s : Int) : wrap64 (loW s) = if loW s < 9223372036854775808 then loW s else loW s - 18446744073709551616 := by
  have := loW_bd s
  unfold wrap64; split <;> omega
theorem sum_yes (s : Int) (h : -170141183460469231731687303715884105728 ≤ s ∧ s < 170141183460469231731687303715884105728) (hs : -9223372036854775808 ≤ s ∧ s ≤ 9223372036854775807) :
    (hiW s != IntKind.u64.wrap (wrap64 (loW s) / 9223372036854775808)) = false ∧ wrap64 (loW s) = s := by
  have hf := sum_fits s h _ rfl
  rw [← wrap64_lo] at hf
  rw [IntKind.wrap_u64]
  exact ⟨by rw [bne_eq_false_iff_eq]; exact hf.1.2 hs, hf.2 hs⟩
theorem sum_no (s : Int) (h : -170141183460469231731687303715884105728 ≤ s ∧ s < 170141183460469231731687303715884105728) (hs : ¬ (-9223372036854775808 ≤ s ∧ s ≤ 9223372036854775807)) :
    (hiW s != IntKind.u64.wrap (wrap64 (loW s) / 9223372036854775808)) = true := by
  have hf := sum_fits s h _ rfl
  rw [← wrap64_lo] at hf
  rw [IntKind.wrap_u64, bne_iff_ne]
  exact fun e => hs (hf.1.1 e)

theorem sum_run (b off cap n : Nat) (l : List Int) (w : World) (hn : l.length = n) (hlen : l.length ≤ 140737488355328) (hI : Hid (∀ i, i < l.length → I64 (l.getD i 0)))
    (hc : Hid (∀ i, i < l.length → w.cell? ⟨b, off + i, none⟩ = some (.int .i64 (l.getD i 0)))) :
    Calls Try.prog 37 #[.slice (some ⟨b, off, none⟩) n cap] w fun e w' => e = .returned (.tuple #[.int .i64 (sumV l.sum), sumE l.sum]) ∧ w' = w := by
  subst hn
  go_enter Try.func37, Try.ntmps37
  go_wp2
  go_loop [4, 5, 12] (fun hi lo i => ∃ k : Nat, k ≤ l.length ∧ i = .int .i64 k ∧ hi = .int .u64 (hiW (l.take k).sum) ∧ lo = .int .u64 (loW (l.take k).sum)) (fun _ _ i => l.length - (RowKit.intOf i).toNat)
  case atStart => exact ⟨0, Nat.zero_le _, rfl, rfl, rfl⟩
  case round =>
    obtain ⟨k, hk, rfl, rfl, rfl⟩ := hrel
    by_cases hlt : k < l.length
    · have hck := hc.out k hlt
      have hik := hI.out k hlt
      have hts := take_sum l k hlt
      generalize l.getD k 0 = x at *
      generalize (l.take k).sum = s at *
      have Hts : Hid ((l.take (k + 1)).sum = s + x) := hts
      have Hik : Hid (I64 x) := hik
      clear hts hik
      go_wp2_with (simp only [add64_w])
      go_round
      case rel =>
        refine ⟨k + 1, by omega, by go_num, ?_, ?_⟩
        · rw [Hts.out, IntKind.wrap_u64, IntKind.wrap_u64, IntKind.wrap_u64, ← hiW_step s x Hik.out]
        · rw [Hts.out]
      case measure => simp [RowKit.intOf]; omega
    · have hk2 : k = l.length := by omega
      subst hk2
      have hb := sum_bound l l.length (Nat.le_refl _) hI.out
      rw [List.take_length] at hb ⊢
      by_cases hs : -9223372036854775808 ≤ l.sum ∧ l.sum ≤ 9223372036854775807
      · obtain ⟨t1, t2⟩ := sum_yes l.sum (by omega) hs
        have T2 : Hid (wrap64 (loW l.sum) = l.sum) := t2
        have Hs : Hid (-9223372036854775808 ≤ l.sum ∧ l.sum ≤ 9223372036854775807) := hs
        clear t2 hb hI hc hs
        go_wp2
        go_ret2
        refine ⟨?_, rfl⟩
        unfold sumV sumE; rw [if_pos Hs.out, if_pos Hs.out]
        show Ending.returned (.tuple #[.int .i64 (wrap64 (loW l.sum)), .nilIface]) = _
        rw [T2.out]
      · have t1 := sum_no l.sum (by omega) hs
        have Hs : Hid (¬ (-9223372036854775808 ≤ l.sum ∧ l.sum ≤ 9223372036854775807)) := hs
        clear hb hI hc hs
        go_wp2
        go_ret2
        refine ⟨?_, rfl⟩
        unfold sumV sumE; rw [if_neg Hs.out, if_neg Hs.out]; rfl

theorem sum_nil (w : World) :
    Calls Try.prog 37 #[.slice none 0 0] w fun e w' => e = .returned (.tuple #[.int .i64 0, .nilIface]) ∧ w' = w := by
  go_enter Try.func37, Try.ntmps37
  go_wp2
  refine wp_loop_rounds 1 ?_
  rw [rounds_succ]
  go_wp2
  go_ret2
  exact ⟨rfl, rfl⟩

theorem sum_zero (a : Option Addr) (cap : Nat) (w : World) :
    Calls Try.prog 37 #[.slice a 0 cap] w fun e w' => e = .returned (.tuple #[.int .i64 0, .nilIface]) ∧ w' = w := by
  go_enter Try.func37, Try.ntmps37
  go_wp2
  refine wp_loop_rounds 1 ?_
  rw [rounds_succ]
  go_wp2
  go_ret2
  exact ⟨rfl, rfl⟩

/-- Of a list in the call's own memory. -/
theorem sum_own (base n : Nat) (e : TypeId) (v : Value) (l : List Int) (w : World) (hlen : n ≤ 140737488355328) (hI : Hid (∀ i, i < l.length → I64 (l.getD i 0)))
    (hown : Hid (w.ownsRow base e 1 v n (l.map (Value.int .i64)))) :
    Calls Try.prog 37 #[v] w fun e w' => e = .returned (.tuple #[.int .i64 (sumV l.sum), sumE l.sum]) ∧ w' = w := by
  obtain ⟨hl, ⟨rfl, hn⟩ | ⟨g, cap, cur, rfl, hg⟩⟩ := hown.out
  · have : l = [] := by
      subst hn; simpa using hl
    subst this
    exact sum_nil w
  · have hn : l.length = n := by simpa using hl
    refine sum_run g 0 cap n l w hn (by omega) hI ?_
    intro i hi
    have := hown.out.cells (g := g) rfl i (.int .i64 (l.getD i 0)) (by simp [hi])
    rcases Nat.eq_zero_or_pos i with rfl | hp
    · simpa [Addr.add] using this
    · simpa [Addr.add, Nat.ne_of_gt hp] using this

theorem sum_fit (s : Int) (h : -9223372036854775808 ≤ s ∧ s ≤ 9223372036854775807) : sumV s = s ∧ sumE s = .nilIface := by
  unfold sumV sumE; rw [if_pos h, if_pos h]; exact ⟨rfl, rfl⟩
theorem sum_nofit (s : Int) (h : ¬ (-9223372036854775808 ≤ s ∧ s ≤ 9223372036854775807)) : sumV s = 0 ∧ sumE s = .iface 58 (.int .i64 10) := by
  unfold sumV sumE; rw [if_neg h, if_neg h]; exact ⟨rfl, rfl⟩

theorem moneyAdd_any (x y : Int) (w : World) (hx : I64 x) (hy : I64 y) :
    Calls Try.prog 38 #[.int .i64 x, .int .i64 y] w fun e w' => e = .returned (.tuple #[.int .i64 (sumV (x + y)), sumE (x + y)]) ∧ ∃ c, w' = w.alloc c := by
  have hI : Hid (∀ i, i < [x, y].length → I64 ([x, y].getD i 0)) := by
    intro i hi
    match i, hi with
    | 0, _ => exact hx
    | 1, _ => exact hy
  have hs : [x, y].sum = x + y := by simp
  have Hs : Hid ([x, y].sum = x + y) := hs
  clear hs
  go_enter Try.func38, Try.ntmps38
  go_wp2_with fail
  refine (sum_run w.heap.size 0 2 2 [x, y] _ rfl (by simp) hI ?_).mono ?_
  · intro i hi
    match i, hi with
    | 0, _ => simp
    | 1, _ => simp
  · rintro e w' ⟨rfl, hw⟩
    rw [hw, Hs.out]; clear hw w'
    go_wp2
    go_ret2
    exact ⟨rfl, _, rfl⟩
end Go.Proofs.Ytbbegoklikaphaa

namespace Go.Proofs.Ytbbegoklikaphaa
set_option linter.unusedVariables false
set_option linter.unusedSimpArgs false
set_option maxRecDepth 100000
open Go.RowKit Go.Lib Math

/-- Is a balance of an entity and an account in another currency? -/
def isOth (en : Int) (code base : ByteArray) (x : Bl) : Bool := decide (x.ent = en) && (decide (x.acc = code) && !decide (x.cur = base))
/-- What the others are worth. -/
def othL (f : Bl → Int) (en : Int) (code base : ByteArray) (b : List Bl) : List Int := (b.filter (isOth en code base)).map f
/-- Is a number of 64 bits? -/
abbrev fit64 (s : Int) : Prop := -9223372036854775808 ≤ s ∧ s ≤ 9223372036854775807
theorem othL_next (f : Bl → Int) (en : Int) (code base : ByteArray) (b : List Bl) (k : Nat) (h : k < b.length) : othL f en code base (b.take (k + 1)) = othL f en code base (b.take k) ++ (if isOth en code base (b.getD k bl0) = true then [f (b.getD k bl0)] else []) := by
  unfold othL
  rw [bls_take b k h, List.filter_append, List.map_append]
  congr 1
  cases hh : isOth en code base (b.getD k bl0)
  · rw [List.filter_cons_of_neg (by rw [hh]; simp), if_neg (by simp)]; rfl
  · rw [List.filter_cons_of_pos hh, if_pos rfl]; rfl
theorem othL_len (f : Bl → Int) (en : Int) (code base : ByteArray) (b : List Bl) : (othL f en code base b).length ≤ b.length := by
  unfold othL; rw [List.length_map]; exact List.length_filter_le _ _
theorem othL_get {f : Bl → Int} (hf : ∀ x, fit64 (f x)) (en : Int) (code base : ByteArray) (b : List Bl) : ∀ i, i < (othL f en code base b).length → fit64 ((othL f en code base b).getD i 0) := fun i hi => by
  rw [List.getD_eq_getElem?_getD, List.getElem?_eq_getElem hi]
  have : (othL f en code base b)[i] ∈ othL f en code base b := List.getElem_mem hi
  obtain ⟨x, _, e⟩ := List.mem_map.1 this
  show fit64 (othL f en code base b)[i]
  rw [← e]
  exact hf x
/-- What is in base, of the first balances. -/
theorem ltot_hit {b : List Bl} (hr : Rises b) {k : Nat} (h : k < b.length) : ltot (b.getD k bl0).key (b.take (k + 1)) = (b.getD k bl0).amt := by
  have h2 : Rises (b.take (k + 1)) := hr.sublist (List.take_sublist _ _)
  refine ltot_mem h2 _ ?_
  rw [bls_take b k h]
  exact List.mem_append_right _ (List.mem_singleton.2 rfl)
theorem ltot_miss {b : List Bl} {q : Pk} {k : Nat} (h : k < b.length) (hk : (b.getD k bl0).key ≠ q) : ltot q (b.take (k + 1)) = ltot q (b.take k) := by
  rw [bls_take b k h, ltot_append, ltot, if_neg hk, ltot]; omega
/-- What is lacking, and what is wrong with it. -/
def lkE (o : List Int) (h : Int) : Int := if o.length = 0 then 0 else if ¬ fit64 o.sum then 10 else if ¬ fit64 (o.sum - h) then 10 else 0
def lkV (o : List Int) (h : Int) : Int := if o.length = 0 then 0 else if ¬ fit64 o.sum then 0 else if ¬ fit64 (o.sum - h) then 0 else o.sum - h
theorem lk_fit {o : List Int} {h : Int} (c0 : ¬ o.length = 0) (c1 : fit64 o.sum) : lkV o h = sumV (o.sum + -h) ∧ errV (lkE o h) = sumE (o.sum + -h) := by
  have e : o.sum - h = o.sum + -h := by omega
  have n1 : ¬ ¬ fit64 o.sum := fun hh => hh c1
  unfold lkV lkE
  rw [e]
  simp only [if_neg c0, if_neg n1]
  generalize o.sum + -h = s at *
  by_cases c2 : fit64 s
  · obtain ⟨g1, g2⟩ := sum_fit s c2
    have n2 : ¬ ¬ fit64 s := fun hh => hh c2
    simp only [if_neg n2, g1, g2]
    exact ⟨trivial, rfl⟩
  · obtain ⟨g1, g2⟩ := sum_nofit s c2
    simp only [if_pos c2, g1, g2]
    exact ⟨trivial, rfl⟩
set_option maxHeartbeats 4000000 in
theorem lacking_any (a2 : Option Addr) (cap2 g capw : Nat) (f : Bl → Int) (base code : ByteArray) (b : List Bl) (en : Int) (w : World) (hb : IsBl w a2 b cap2) (hfi : Fine b) (hf : ∀ x, fit64 (f x)) (hw : NRow w g (b.map f)) :
    Calls Try.prog 16 #[.slice a2 b.length cap2, .slice (some ⟨g, 0, none⟩) b.length capw, .string base, .int .i64 en, .string code] w fun e w' => e = .returned (.tuple #[.int .i64 (lkV (othL f en code base b) (ltot (en, code, base) b)), errV (lkE (othL f en code base b) (ltot (en, code, base) b))]) ∧ Below w.heap.size w w' := by
  have l200 := hfi.len
  have HBl : Hid (IsBl w a2 b cap2) := hb
  have HW : Hid (NRow w g (b.map f)) := hw
  have HFi : Hid (Fine b) := hfi
  have HF : Hid (∀ x, fit64 (f x)) := hf
  obtain ⟨rv, hrv⟩ : ∃ rv, lkV (othL f en code base b) (ltot (en, code, base) b) = rv := ⟨_, rfl⟩
  obtain ⟨re, hre⟩ : ∃ re, errV (lkE (othL f en code base b) (ltot (en, code, base) b)) = re := ⟨_, rfl⟩
  have HRv : Hid (lkV (othL f en code base b) (ltot (en, code, base) b) = rv) := hrv
  have HRe : Hid (errV (lkE (othL f en code base b) (ltot (en, code, base) b)) = re) := hre
  rw [hrv, hre]
  obtain ⟨N0, hN0⟩ : ∃ N0, w.heap.size = N0 := ⟨_, rfl⟩
  have HN0 : Hid (w.heap.size = N0) := hN0
  clear hb hfi hw hrv hre hf hN0
  obtain ⟨ii, hi0, hz0, hz1, hz2⟩ := info_parts rv_int
  go_enter Try.func16, Try.ntmps16
  go_wp2
  go_loopw [12, 13, 20] (fun v h i wr => ∃ (k : Nat) (sa : Option Addr) (sn sc : Nat) (hh : Int), k ≤ b.length ∧ i = .int .i64 k ∧ v = .slice sa sn sc ∧ h = .int .i64 hh ∧ Hid (sn = (othL f en code base (b.take k)).length ∧ hh = ltot (en, code, base) (b.take k) ∧ wr.ownsRow N0 3 1 (.slice sa sn sc) (othL f en code base (b.take k)).length ((othL f en code base (b.take k)).map (Value.int .i64)) ∧ Below N0 w wr)) (fun _ _ i _ => b.length - (RowKit.intOf i).toNat)
  case atStart => exact ⟨0, none, 0, 0, 0, Nat.zero_le _, rfl, rfl, rfl, by simp [othL], by simp [ltot], World.ownsRow_nil _ _ _ _, Below.refl _ _⟩
  case round =>
    obtain ⟨k, sa, sn, sc, hh, hk, rfl, rfl, rfl, HR⟩ := hrel
    by_cases hlt : k < b.length
    · obtain ⟨bb, off, rfl, hbb, hcc⟩ := HBl.out.some hlt
      have hbw : Below w.heap.size w wr := by rw [HN0.out]; exact HR.out.2.2.2
      have hx := (hcc k hlt).below hbw hbb
      have i0 : (0 : Int) ≤ k := by omega
      have i3 : (k : Int) < b.length := by omega
      have hwc : wr.cell? ⟨g, k, none⟩ = some (.int .i64 (f (b.getD k bl0))) := by
        have h1 := (HW.out.belowS hbw HW.out.ltS).cell (i := k) (by simpa using hlt)
        rw [h1]
        simp [List.getD_eq_getElem?_getD, List.getElem?_eq_getElem hlt]
      have hnx := othL_next f en code base b k hlt
      have hhit := ltot_hit HFi.out.rises hlt
      have hmis := ltot_miss (q := (en, code, base)) hlt
      have hfx := HF.out (b.getD k bl0)
      obtain ⟨x, hxx⟩ : ∃ x, b.getD k bl0 = x := ⟨_, rfl⟩
      rw [hxx] at hx hwc hnx hhit hmis hfx
      have HNx : Hid (othL f en code base (b.take (k + 1)) = othL f en code base (b.take k) ++ (if isOth en code base x = true then [f x] else [])) := hnx
      have HHit : Hid (ltot x.key (b.take (k + 1)) = x.amt) := hhit
      have HMis : Hid (x.key ≠ (en, code, base) → ltot (en, code, base) (b.take (k + 1)) = ltot (en, code, base) (b.take k)) := hmis
      clear hxx hcc hnx hhit hmis
      obtain ⟨Z, hZ⟩ : ∃ Z, wr.alloc (.cells x.cells 34) = Z := ⟨_, rfl⟩
      have hbZ : Below wr.heap.size wr Z := by rw [← hZ]; exact (Below.refl _ _).alloc (Nat.le_refl _) _
      have hbt : BlAt Z wr.heap.size 0 x := by rw [← hZ]; exact BlAt.new wr x 34
      have hwZ : Z.cell? ⟨g, k, none⟩ = some (.int .i64 (f x)) := (hbZ.cell (p := ⟨g, k, none⟩) (World.block_lt_of_cell? _ _ hwc)).trans hwc
      have hn0 : N0 ≤ wr.heap.size := by have := hbw.size; rw [HN0.out] at this; exact this
      have HRZ : Hid (Z.ownsRow N0 3 1 (.slice sa sn sc) (othL f en code base (b.take k)).length ((othL f en code base (b.take k)).map (Value.int .i64)) ∧ Below N0 w Z) := by
        rw [← hZ]; exact ⟨World.ownsRow.alloc HR.out.2.2.1 _, HR.out.2.2.2.alloc hn0 _⟩
      have HZ : Hid (wr.alloc (.cells x.cells 34) = Z) := hZ
      have HNZ : Hid (N0 ≤ Z.heap.size) := by have := hbZ.size; unfold Hid; omega
      have HSn : Hid (sn = (othL f en code base (b.take k)).length ∧ hh = ltot (en, code, base) (b.take k)) := ⟨HR.out.1, HR.out.2.1⟩
      clear hZ hbZ hwc hbw HR
      by_cases c1 : x.ent = en
      · by_cases c2 : x.acc = code
        · by_cases c3 : x.cur = base
          · have HN : Hid (sn = (othL f en code base (b.take (k + 1))).length ∧ x.amt = ltot (en, code, base) (b.take (k + 1)) ∧ Z.ownsRow N0 3 1 (.slice sa sn sc) (othL f en code base (b.take (k + 1))).length ((othL f en code base (b.take (k + 1))).map (Value.int .i64)) ∧ Below N0 w Z) := by
              have e : othL f en code base (b.take (k + 1)) = othL f en code base (b.take k) := by rw [HNx.out, if_neg (by simp [isOth, c3]), List.append_nil]
              have e2 : x.key = (en, code, base) := by simp [Bl.key, c1, c2, c3]
              rw [e]
              refine ⟨HSn.out.1, ?_, HRZ.out⟩
              rw [← HHit.out, e2]
            obtain ⟨x0, x1, x2, x3⟩ := x
            obtain ⟨d0, d1, d2, d3⟩ := hx
            obtain ⟨f0, f1, f2, f3⟩ := hbt
            simp only [Bl.cells, Nat.zero_add] at d0 d1 d2 d3 f0 f1 f2 f3 c1 c2 c3 HZ HN
            subst c1
            subst c2
            subst c3
            have hq : (x0 != x0) = false := by simp
            clear HNx HHit HMis HRZ HSn hfx
            go_upto_region 7 with fail
            rw [HZ.out]
            clear HZ d0 d1 d2 d3
            go_wp2
            go_roundw
            case rel => exact ⟨k + 1, sa, sn, sc, x3, by omega, by go_num, rfl, rfl, HN⟩
            case measure => simp [RowKit.intOf]; omega
          · have e1 : othL f en code base (b.take (k + 1)) = othL f en code base (b.take k) ++ [f x] := by rw [HNx.out, if_pos (by simp [isOth, c1, c2, c3])]
            have e2 : x.key ≠ (en, code, base) := fun e => c3 (by simpa [Bl.key, c1, c2] using e)
            have hol := othL_len f en code base (b.take k)
            have hol2 : (othL f en code base (b.take k)).length ≤ 200 := by simp at hol; omega
            have HAdd : Hid (∀ v' w6, World.ownsRow w6 N0 3 1 v' ((othL f en code base (b.take k)).length + 1) ((othL f en code base (b.take k)).map (Value.int .i64) ++ [.int .i64 (f x)]) → (Z.alloc (.cells #[.int .i64 (f x)] 3)).grownBy w6 (Value.slice sa sn sc).ownBlock → ∃ ta tn tc, v' = .slice ta tn tc ∧ tn = (othL f en code base (b.take (k + 1))).length ∧ hh = ltot (en, code, base) (b.take (k + 1)) ∧ w6.ownsRow N0 3 1 (.slice ta tn tc) (othL f en code base (b.take (k + 1))).length ((othL f en code base (b.take (k + 1))).map (Value.int .i64)) ∧ Below N0 w w6) := fun v' w6 h1 h2 => by
              rw [e1, List.length_append, List.map_append]
              have hz := HRZ.out.2.alloc HNZ.out (.cells #[.int .i64 (f x)] 3)
              have hbd := hz.grown h2 (by have := HNZ.out; simp; omega) (fun j e => by
                rcases HRZ.out.1.2 with ⟨h, _⟩ | ⟨g', cp, cur, h, hg, _⟩
                · cases h; cases e
                · cases h; cases e; exact hg)
              have hv : ∃ ta tn tc, v' = .slice ta tn tc ∧ tn = (othL f en code base (b.take k)).length + 1 := by
                rcases h1.2 with ⟨rfl, h0⟩ | ⟨g', cp, cur, rfl, _⟩
                · omega
                · exact ⟨_, _, _, rfl, rfl⟩
              obtain ⟨ta, tn, tc, rfl, htn⟩ := hv
              refine ⟨ta, tn, tc, rfl, htn, by rw [HMis.out e2]; exact HSn.out.2, ?_, hbd⟩
              exact h1
            have HRow : Hid (World.ownsRow (Z.alloc (.cells #[.int .i64 (f x)] 3)) N0 3 1 (.slice sa sn sc) (othL f en code base (b.take k)).length ((othL f en code base (b.take k)).map (Value.int .i64))) := World.ownsRow.alloc HRZ.out.1 _
            have s2 : Hid ((othL f en code base (b.take k)).length + 1 ≤ maxLen ∧ ((othL f en code base (b.take k)).length + 1) * 8 ≤ 140737488355328) := by unfold Hid maxLen; omega
            have s4 : Hid (N0 ≤ (Z.alloc (.cells #[.int .i64 (f x)] 3)).heap.size) := by have := HNZ.out; unfold Hid; simp; omega
            have s5 : Hid (∀ u ∈ ([.int .i64 (f x)] : List Value), u.oneCell' = true) := by intro u hu; rw [List.mem_singleton] at hu; subst hu; rfl
            generalize f x = fx at *
            obtain ⟨x0, x1, x2, x3⟩ := x
            obtain ⟨d0, d1, d2, d3⟩ := hx
            obtain ⟨f0, f1, f2, f3⟩ := hbt
            simp only [Bl.cells, Nat.zero_add] at d0 d1 d2 d3 f0 f1 f2 f3 c1 c2 c3 HZ
            subst c1
            subst c2
            have c3' := ch_ne c3
            have hq : (x0 != x0) = false := by simp
            clear HNx HHit HMis HRZ HSn hfx e1 e2 hol hol2 c3
            generalize (othL f x0 x1 base (b.take k)).map (Value.int .i64) = OL at HAdd HRow
            generalize (othL f x0 x1 base (b.take k)).length = ON at HAdd HRow s2
            go_upto_region 7 with fail
            rw [HZ.out]
            clear HZ d0 d1 d2 d3
            go_wp2_with (at_builtin; refine wpList_append_own _ rfl _ _ 52 rfl N0 3 ii (.int .i64 0) 1 8 Try.underlying52 hi0 hz0 hz1 hz2 rfl (by decide) _ _ _ rfl HRow.out ⟨Z.heap.size, 0, none⟩ 1 1 [.int .i64 fx] rfl rfl (World.news_of_block (World.alloc_heap_new Z _)) s5.out s2.out.1 s2.out.2 s4.out ?_)
            intro v' w6 hown' hgrow _
            obtain ⟨ta, tn, tc, rfl, hn1, hn2, hn3, hn4⟩ := HAdd.out v' w6 hown' hgrow
            have HN : Hid _ := And.intro hn1 (And.intro hn2 (And.intro hn3 hn4))
            clear HAdd HRow hown' hgrow hn1 hn2 hn3 hn4 f0 f1 f2 f3 hwZ
            go_wp2
            go_roundw
            case rel => exact ⟨k + 1, ta, tn, tc, hh, by omega, by go_num, rfl, rfl, HN⟩
            case measure => simp [RowKit.intOf]; omega
        · have HN : Hid (sn = (othL f en code base (b.take (k + 1))).length ∧ hh = ltot (en, code, base) (b.take (k + 1)) ∧ Z.ownsRow N0 3 1 (.slice sa sn sc) (othL f en code base (b.take (k + 1))).length ((othL f en code base (b.take (k + 1))).map (Value.int .i64)) ∧ Below N0 w Z) := by
            have e : othL f en code base (b.take (k + 1)) = othL f en code base (b.take k) := by rw [HNx.out, if_neg (by simp [isOth, c2]), List.append_nil]
            rw [e, HMis.out (fun e => c2 (by simp only [Bl.key, Prod.mk.injEq] at e; exact e.2.1))]
            exact ⟨HSn.out.1, HSn.out.2, HRZ.out⟩
          obtain ⟨x0, x1, x2, x3⟩ := x
          obtain ⟨d0, d1, d2, d3⟩ := hx
          obtain ⟨f0, f1, f2, f3⟩ := hbt
          simp only [Bl.cells, Nat.zero_add] at d0 d1 d2 d3 f0 f1 f2 f3 c1 c2 HZ
          subst c1
          have c2' := ch_ne c2
          have hq : (x0 != x0) = false := by simp
          clear HNx HHit HMis HRZ HSn hfx c2
          go_upto_region 7 with fail
          rw [HZ.out]
          clear HZ d0 d1 d2 d3
          go_wp2
          go_roundw
          case rel => exact ⟨k + 1, sa, sn, sc, hh, by omega, by go_num, rfl, rfl, HN⟩
          case measure => simp [RowKit.intOf]; omega
      · have HN : Hid (sn = (othL f en code base (b.take (k + 1))).length ∧ hh = ltot (en, code, base) (b.take (k + 1)) ∧ Z.ownsRow N0 3 1 (.slice sa sn sc) (othL f en code base (b.take (k + 1))).length ((othL f en code base (b.take (k + 1))).map (Value.int .i64)) ∧ Below N0 w Z) := by
          have e : othL f en code base (b.take (k + 1)) = othL f en code base (b.take k) := by rw [HNx.out, if_neg (by simp [isOth, c1]), List.append_nil]
          rw [e, HMis.out (fun e => c1 (by simp only [Bl.key, Prod.mk.injEq] at e; exact e.1))]
          exact ⟨HSn.out.1, HSn.out.2, HRZ.out⟩
        obtain ⟨x0, x1, x2, x3⟩ := x
        obtain ⟨d0, d1, d2, d3⟩ := hx
        obtain ⟨f0, f1, f2, f3⟩ := hbt
        simp only [Bl.cells, Nat.zero_add] at d0 d1 d2 d3 f0 f1 f2 f3 c1 HZ
        have hq : (x0 != en) = true := by simp [c1]
        clear HNx HHit HMis HRZ HSn hfx c1
        go_upto_region 7 with fail
        rw [HZ.out]
        clear HZ d0 d1 d2 d3
        go_wp2
        go_roundw
        case rel => exact ⟨k + 1, sa, sn, sc, hh, by omega, by go_num, rfl, rfl, HN⟩
        case measure => simp [RowKit.intOf]; omega
    · obtain rfl : k = b.length := by omega
      obtain ⟨r1, r2, r3, r4⟩ := HR.out
      rw [List.take_length] at r1 r2 r3
      have i3 : ¬ (b.length : Int) < b.length := by omega
      have hft := othL_get HF.out en code base b
      have hol := othL_len f en code base b
      have hhb : -1000000000000000000 ≤ hh ∧ hh ≤ 1000000000000000000 := by
        rw [r2]
        by_cases e : ltot (en, code, base) b = 0
        · omega
        · obtain ⟨x, hx, hk⟩ := ltot_ex e
          rw [← hk, ltot_mem HFi.out.rises x hx]
          exact HFi.out.amt x hx
      have HB : Hid (Below w.heap.size w wr) := by rw [HN0.out]; exact r4
      rw [← r2] at HRv HRe
      generalize othL f en code base b = o at *
      have HRow : Hid (wr.ownsRow N0 3 1 (.slice sa sn sc) o.length (o.map (Value.int .i64))) := r3
      have HFt : Hid (∀ i, i < o.length → I64 (o.getD i 0)) := hft
      have HSum : Hid (Calls Try.prog 37 #[.slice sa sn sc] wr fun e w' => e = .returned (.tuple #[.int .i64 (sumV o.sum), sumE o.sum]) ∧ w' = wr) := sum_own N0 o.length 3 _ o wr (by omega) HFt HRow
      clear r2 r3 r4 hft HR
      by_cases c0 : o.length = 0
      · have e1 : rv = 0 := by rw [← HRv.out]; exact if_pos c0
        have e2 : re = .nilIface := by rw [← HRe.out]; unfold lkE; rw [if_pos c0]; rfl
        subst e1
        subst e2
        rw [c0] at r1
        subst r1
        clear HRv HRe HSum HRow HFt c0 hol
        go_wp2
        go_ret2
        exact ⟨rfl, HB.out⟩
      have n0 : ((sn : Int) == 0) = false := by rw [beq_eq_false_iff_ne]; omega
      by_cases c1 : fit64 o.sum
      · obtain ⟨g1, g2⟩ := sum_fit o.sum c1
        rw [g1, g2] at HSum
        have wn : IntKind.i64.wrap (-hh) = -hh := by
          simp only [IntKind.wrap, IntKind.bits, IntKind.signed]
          simp
          omega
        have HAd : Hid (∀ W, Calls Try.prog 38 #[.int .i64 o.sum, .int .i64 (-hh)] W fun e w' => e = .returned (.tuple #[.int .i64 (sumV (o.sum + -hh)), sumE (o.sum + -hh)]) ∧ ∃ c, w' = W.alloc c) := fun W => moneyAdd_any o.sum (-hh) W c1 ⟨by omega, by omega⟩
        have e1 : rv = sumV (o.sum + -hh) ∧ re = sumE (o.sum + -hh) := by
          rw [← HRv.out, ← HRe.out]
          exact lk_fit c0 c1
        rw [← e1.1, ← e1.2] at HAd
        clear HRv HRe HRow HFt c0 hol c1 g1 g2 r1 hhb e1
        generalize o.sum = os at *
        go_wp2_with fail
        refine HSum.out.mono ?_
        rintro e w' ⟨rfl, hw⟩
        rw [hw]; clear hw w' HSum
        go_wp2_with fail
        refine (HAd.out _).mono ?_
        rintro e w' ⟨rfl, ob, hw⟩
        have HB2 : Hid (Below w.heap.size w w') := by rw [hw]; exact HB.out.alloc HB.out.size _
        clear hw HAd
        go_wp2
        go_ret2
        exact ⟨rfl, HB2.out⟩
      · obtain ⟨g1, g2⟩ := sum_nofit o.sum c1
        rw [g1, g2] at HSum
        have e1 : rv = 0 := by rw [← HRv.out]; unfold lkV; rw [if_neg c0, if_pos c1]
        have e2 : re = .iface 58 (.int .i64 10) := by rw [← HRe.out]; unfold lkE; rw [if_neg c0, if_pos c1]; rfl
        subst e1
        subst e2
        clear HRv HRe HRow HFt c0 hol c1 g1 g2 r1 hhb
        go_wp2_with fail
        refine HSum.out.mono ?_
        rintro e w' ⟨rfl, hw⟩
        rw [hw]; clear hw w' HSum
        go_wp2
        go_ret2
        exact ⟨rfl, HB.out⟩
end Go.Proofs.Ytbbegoklikaphaa

namespace Go.Proofs.Ytbbegoklikaphaa
set_option linter.unusedVariables false
set_option linter.unusedSimpArgs false
open Go.RowKit Go.Lib

theorem less_self : ∀ a : List UInt8, Op.bytesLess a a = false
  | [] => rfl
  | x :: a => by
    have := less_self a
    simp [Op.bytesLess, this]

theorem less_total : ∀ a b : List UInt8, Op.bytesLess a b = false → a ≠ b → Op.bytesLess b a = true
  | [], [], _, h => absurd rfl h
  | [], _ :: _, h, _ => by simp [Op.bytesLess] at h
  | _ :: _, [], _, _ => by simp [Op.bytesLess]
  | x :: a, y :: b, h, hne => by
    simp only [Op.bytesLess, Bool.or_eq_false_iff, decide_eq_false_iff_not, Bool.and_eq_false_iff, beq_eq_false_iff_ne] at h
    obtain ⟨h1, h2⟩ := h
    by_cases e : x = y
    · subst e
      have := less_total a b (by simpa using h2) (fun e => hne (by rw [e]))
      simp [Op.bytesLess, this]
    · have : y < x := by
        rw [UInt8.lt_iff_toNat_lt] at h1 ⊢
        have : x.toNat ≠ y.toNat := fun h => e (UInt8.toNat_inj.1 h)
        omega
      simp [Op.bytesLess, this]

theorem less_trans : ∀ a b c : List UInt8, Op.bytesLess a b = true → Op.bytesLess b c = true → Op.bytesLess a c = true
  | _, [], _, h, _ => by cases ‹List UInt8› <;> simp [Op.bytesLess] at h
  | _, _ :: _, [], _, h => by simp [Op.bytesLess] at h
  | [], _ :: _, _ :: _, _, _ => by simp [Op.bytesLess]
  | x :: a, y :: b, z :: c, h1, h2 => by
    simp only [Op.bytesLess, Bool.or_eq_true, decide_eq_true_eq, Bool.and_eq_true, beq_iff_eq] at h1 h2 ⊢
    simp only [UInt8.lt_iff_toNat_lt] at h1 h2 ⊢
    rcases h1 with h1 | ⟨rfl, h1⟩
    · rcases h2 with h2 | ⟨rfl, h2⟩
      · exact .inl (by omega)
      · exact .inl h1
    · rcases h2 with h2 | ⟨rfl, h2⟩
      · exact .inl h2
      · exact .inr ⟨rfl, less_trans a b c h1 h2⟩

theorem nextBad_zero {pre : List Ac} {x : Ac} (h : nextBad pre x = 0) : isCodeB x.code = true ∧ isNameB x.name = true ∧ 1 ≤ x.kind ∧ x.kind ≤ 5 ∧ (pre.length ≠ 0 → leB x.code (pre.getD (pre.length - 1) ac0).code = false) ∧ parBad pre x = 0 := by
  unfold nextBad at h
  split at h
  · omega
  · rename_i h1
    simp only [not_or, Bool.not_eq_false] at h1
    split at h
    · omega
    · rename_i h2
      split at h
      · omega
      · rename_i h3
        refine ⟨h1.1, h1.2, by omega, by omega, fun h0 => ?_, h⟩
        cases hl : leB x.code (pre.getD (pre.length - 1) ac0).code
        · rfl
        · exact absurd ⟨h0, hl⟩ h3

theorem chGo_zero : ∀ (r pre : List Ac), chGo pre r = 0 → ∀ k, k < r.length → nextBad (pre ++ r.take k) (r.getD k ac0) = 0
  | [], _, _, k, hk => by simp at hk
  | x :: r, pre, h, k, hk => by
    rw [chGo] at h
    split at h
    · rename_i hb; exact absurd h hb
    · rename_i hb
      cases k with
      | zero => simpa using hb
      | succ k =>
        have := chGo_zero r (pre ++ [x]) h k (by simpa using hk)
        simpa using this

theorem chBad_next {l : List Ac} (h : chBad l = 0) (k : Nat) (hk : k < l.length) : nextBad (l.take k) (l.getD k ac0) = 0 := by
  have hl := chBad_len h
  unfold chBad at h
  rw [if_neg (by omega)] at h
  have := chGo_zero l [] h k hk
  simpa using this

theorem take_getD (l : List Ac) (k j : Nat) (h : j < k) : (l.take k).getD j ac0 = l.getD j ac0 := by
  rw [List.getD_eq_getElem?_getD, List.getD_eq_getElem?_getD, List.getElem?_take, if_pos h]

theorem code_step {l : List Ac} (h : chBad l = 0) (k : Nat) (hk : k + 1 < l.length) : Op.bytesLess (l.getD k ac0).code.toList (l.getD (k + 1) ac0).code.toList = true := by
  obtain ⟨_, _, _, _, h5, _⟩ := nextBad_zero (chBad_next h (k + 1) hk)
  have hl : (l.take (k + 1)).length = k + 1 := by simp; omega
  have := h5 (by omega)
  rw [hl, show k + 1 - 1 = k by omega, take_getD l (k + 1) k (by omega)] at this
  simp only [leB, Bool.or_eq_false_iff, beq_eq_false_iff_ne] at this
  exact less_total _ _ this.1 this.2

theorem code_less {l : List Ac} (h : chBad l = 0) (i : Nat) : ∀ j, i < j → j < l.length → Op.bytesLess (l.getD i ac0).code.toList (l.getD j ac0).code.toList = true
  | 0, hi, _ => absurd hi (Nat.not_lt_zero _)
  | j + 1, hi, hj => by
    have hs := code_step h j hj
    by_cases e : i = j
    · subst e; exact hs
    · exact less_trans _ _ _ (code_less h i j (by omega) (by omega)) hs

theorem code_inj {l : List Ac} (h : chBad l = 0) {i j : Nat} (hi : i < l.length) (hj : j < l.length) (e : (l.getD i ac0).code = (l.getD j ac0).code) : i = j := by
  rcases Nat.lt_trichotomy i j with hlt | he | hlt
  · have := code_less h i j hlt hj
    rw [e, less_self] at this
    cases this
  · exact he
  · have := code_less h j i hlt hi
    rw [e, less_self] at this
    cases this

theorem code_size {l : List Ac} (h : chBad l = 0) {i : Nat} (hi : i < l.length) : (l.getD i ac0).code.size ≠ 0 := by
  obtain ⟨h1, _⟩ := nextBad_zero (chBad_next h i hi)
  exact ((madeOf_iff (fun r => digR_low)).1 h1).1

theorem idx_code {l : List Ac} (h : chBad l = 0) {i : Nat} (hi : i < l.length) : idxP (hasCode (l.getD i ac0).code) l = (i : Int) := by
  by_cases hn : idxP (hasCode (l.getD i ac0).code) l < 0
  · have := idxP_none hn i hi
    simp [hasCode] at this
  · obtain ⟨j, hj, e, hp, _⟩ := idxP_some (p := hasCode (l.getD i ac0).code) (l := l) (by omega)
    have : (l.getD j ac0).code = (l.getD i ac0).code := by simpa only [hasCode, decide_eq_true_eq] using hp
    rw [e, code_inj h hj hi this]

theorem place_code {l : List Ac} (h : chBad l = 0) {i : Nat} (hi : i < l.length) : placeBad l (l.getD i ac0).code = 0 := by
  have := idx_code h hi
  unfold placeBad
  rw [if_neg (by omega), if_neg (by omega)]

/-- The place of an account's parent. -/
def parOf (l : List Ac) (k : Nat) : Option Nat := if (l.getD k ac0).par.size = 0 then none else some (idxP (hasCode (l.getD k ac0).par) l).toNat

theorem parOf_none {l : List Ac} {k : Nat} : parOf l k = none ↔ (l.getD k ac0).par.size = 0 := by
  unfold parOf
  split <;> simp_all

theorem parOf_some {l : List Ac} (h : chBad l = 0) {k j : Nat} (hk : k < l.length) (e : parOf l k = some j) : j < k ∧ (l.getD j ac0).code = (l.getD k ac0).par ∧ (l.getD j ac0).kind = (l.getD k ac0).kind := by
  unfold parOf at e
  split at e
  · cases e
  rename_i h0
  obtain ⟨_, _, _, _, _, hp⟩ := nextBad_zero (chBad_next h k hk)
  unfold parBad at hp
  rw [if_neg h0] at hp
  split at hp
  · omega
  rename_i h1
  obtain ⟨m, hm, em, hc, _⟩ := idxP_some (p := hasCode (l.getD k ac0).par) (l := l.take k) (by omega)
  have hmk : m < k := by simp only [List.length_take] at hm; omega
  rw [em] at hp
  simp only [Int.toNat_natCast] at hp
  have hp' : ((l.take k).getD m ac0).kind = (l.getD k ac0).kind := by
    split at hp
    · omega
    · rename_i h2
      exact Decidable.not_not.1 h2
  rw [take_getD l k m hmk] at hp' hc
  have hcode : (l.getD m ac0).code = (l.getD k ac0).par := by simpa only [hasCode, decide_eq_true_eq] using hc
  have hi := idx_code h (show m < l.length by omega)
  rw [hcode] at hi
  rw [hi] at e
  simp only [Int.toNat_natCast, Option.some.injEq] at e
  subst e
  exact ⟨hmk, hcode, hp'⟩

/-- Is a place under another one? By so many steps at most. -/
def inU (P : Nat → Option Nat) : Nat → Nat → Nat → Bool
  | 0, _, _ => false
  | f + 1, i, k => k == i || (match P k with | none => false | some j => inU P f i j)

theorem inU_fuel {P : Nat → Option Nat} {n : Nat} (hP : ∀ k j, k < n → P k = some j → j < k) : ∀ (f g k i : Nat), k < n → k < f → k < g → inU P f i k = inU P g i k
  | 0, _, k, i, _, h, _ => absurd h (Nat.not_lt_zero _)
  | _ + 1, 0, k, i, _, _, h => absurd h (Nat.not_lt_zero _)
  | f + 1, g + 1, k, i, hn, h1, h2 => by
    simp only [inU]
    cases hk : P k with
    | none => rfl
    | some j =>
      have := hP k j hn hk
      simp only
      rw [inU_fuel hP f g j i (by omega) (by omega) (by omega)]

end Go.Proofs.Ytbbegoklikaphaa
