/-
  The contract of entry.each, for any function that makes a line of a line.
-/
import Derived.Test.YtffekgndlhleiaaDoorEn2
import Derived.Deep.AppendLies
import Derived.Deep.RegionHeldLaw
import Derived.RangeFuncBox
namespace Go.Proofs.YtffekgndlhleiaaDoor
set_option linter.unusedVariables false
set_option linter.unusedSimpArgs false
set_option maxRecDepth 100000
open Go.RowKit Go.Lib

/-- What is asked of a function that makes a line of a line. -/
structure LMakes (g : Nat) (f : Ln → Ln) (ok : Ln → Prop) : Prop where
  eg : ∀ args W, (callFunc g args).run Tryd.prog W = .ok (.enter g args) W
  call : ∀ (x : Ln) W, ok x → Calls Tryd.prog g #[.agg x.cells] W fun e w' => e = .returned (.agg (f x).cells) ∧ Below W.heap.size W w'

theorem ln_info : (Tryd.prog.info? 55).map (fun i => (i.zero, i.size, i.bytes)) = some (some (.agg #[.string ByteArray.empty, .string ByteArray.empty, .int .i64 0]), 3, 40) := by kernel_rfl

theorem cells_three (W : World) (y0 y1 : ByteArray) (y2 : Int) (b : Nat) (t : TypeId) (hb : b = W.heap.size) : ∀ j u, ([.string y0, .string y1, .int .i64 y2] : List Value)[j]? = some u → (W.alloc (.cells #[.string y0, .string y1, .int .i64 y2] t)).cell? ((⟨b, 0, none⟩ : Addr).add j) = some u := by
  subst hb
  intro j u hj
  have h := World.alloc_heap_new W (.cells #[.string y0, .string y1, .int .i64 y2] t)
  generalize W.alloc (.cells #[.string y0, .string y1, .int .i64 y2] t) = V at *
  generalize W.heap.size = b at *
  by_cases h0 : j = 0
  · subst h0
    simp [World.cell?, Addr.add, h] at hj ⊢
    exact hj
  · simp [World.cell?, Addr.add, h, h0]
    exact hj

set_option maxHeartbeats 2000000 in
theorem each_some (g : Nat) (f : Ln → Ln) (ok : Ln → Prop) (b off cap : Nat) (l : List Ln) (w : World) (hp : LMakes g f ok) (hok : ∀ x ∈ l, ok x) (hb : b < w.heap.size) (hlen : l.length ≤ 1000) (hc : LnsAt w b off l) :
    Calls Tryd.prog 39 #[.slice (some ⟨b, off, none⟩) l.length cap, .func (.func g) #[] #[]] w fun e w' => ∃ v, e = .returned v ∧ LnRow w' w.heap.size v (l.map f) ∧ Below w.heap.size w w' := by
  have eg := hp.eg
  have Hp : Hid (LMakes g f ok) := hp
  have Hok : Hid (∀ x ∈ l, ok x) := hok
  clear hok
  have Hc : Hid (LnsAt w b off l) := hc
  clear hp hc
  have Hlen : (l.length : Int) ≤ 1000 := by omega
  obtain ⟨i0, hi, hz0, hz1, hz2⟩ := info_parts ln_info
  go_enter Tryd.func39, Tryd.ntmps39
  go_wp2
  go_loopw [5, 10] (fun s i wr => ∃ k : Nat, k ≤ l.length ∧ i = .int .i64 k ∧ Hid (LnRow wr w.heap.size s ((l.take k).map f)) ∧ Below w.heap.size w wr) (fun _ i _ => l.length - (intOf i).toNat)
  case atStart => exact ⟨0, Nat.zero_le _, rfl, LnRow.nil _ _, Below.refl _ _⟩
  case round =>
    obtain ⟨k, hk, rfl, R, BW⟩ := hrel
    by_cases hlt : k < l.length
    · have hn := (Hc.out k hlt).below BW hb
      have hst : (l.take (k + 1)).map f = (l.take k).map f ++ [f (l.getD k ln0)] := by rw [lns_take l k hlt, List.map_append]; rfl
      have B2 := BW.alloc BW.size (.cells (l.getD k ln0).cells 55)
      have hcall := Hp.out.call (l.getD k ln0) (wr.alloc (.cells (l.getD k ln0).cells 55)) (Hok.out _ (lns_mem l k hlt))
      have R1 : LnRow (wr.alloc (.cells (l.getD k ln0).cells 55)) w.heap.size _ ((l.take k).map f) := World.ownsRow.alloc R.out (.cells (l.getD k ln0).cells 55)
      have hfl : ((l.take k).map f).length ≤ 1000 := by
        rw [List.length_map, List.length_take]
        omega
      generalize l.getD k ln0 = x at *
      generalize f x = y at *
      generalize (l.take k).map f = fs at *
      have Hst : Hid ((l.take (k + 1)).map f = fs ++ [y]) := hst
      have Hcall : Hid (Calls _ _ _ _ _) := hcall
      have HR1 : Hid (LnRow _ _ _ _) := R1
      clear hst hcall R1
      obtain ⟨x0, x1, x2⟩ := x
      obtain ⟨y0, y1, y2⟩ := y
      obtain ⟨c0, c1, c2⟩ := hn
      simp only [Ln.cells] at c0 c1 c2 Hcall HR1 B2
      have j0 : (0 : Int) ≤ k := by omega
      have j1 : (k : Int) < l.length := by omega
      go_wp2_with fail
      refine Hcall.out.mono ?_
      rintro e w2 ⟨rfl, hb2⟩
      have HR2 : Hid (LnRow w2 w.heap.size _ fs) := LnRow.below HR1.out hb2
      have B3 := B2.trans (hb2.mono B2.size)
      have hs3 := B3.size
      clear hb2 Hcall HR1 B2 c0 c1 c2
      go_wp2_with (at_builtin; refine wpList_append_own _ rfl _ _ 31 rfl w.heap.size 55 i0 (.agg #[.string ByteArray.empty, .string ByteArray.empty, .int .i64 0]) 3 40 Tryd.underlying31 hi hz0 hz1 hz2 rfl (by decide) _ _ _ rfl (World.ownsRow.alloc HR2.out _) ⟨w2.heap.size, 0, none⟩ 1 1 [.string y0, .string y1, .int .i64 y2] rfl rfl (cells_three _ _ _ _ _ _ rfl) ?c2 ?c3 ?c4 ?c5 ?_)
      case c2 => intro u hu; simp at hu; rcases hu with rfl | rfl | rfl <;> rfl
      case c3 => unfold maxLen; omega
      case c4 => omega
      case c5 => simp; omega
      intro v' w3 hown' hgrow _
      have B4 : Below w.heap.size w w3 := (B3.alloc hs3 (.cells #[.string y0, .string y1, .int .i64 y2] 55)).grown hgrow (by simp; omega) (HR2.out.own)
      have R3 : LnRow w3 w.heap.size v' ((l.take (k + 1)).map f) := by
        rw [Hst.out]
        unfold LnRow
        rw [lnRow_append, lnRow_one, List.length_append]
        exact hown'
      have HR3 : Hid (LnRow _ _ _ _) := R3
      clear hown' hgrow R3 HR2
      go_wp2
      go_roundw
      case rel => exact ⟨k + 1, by omega, by go_num, HR3.out, B4⟩
      case measure => simp [intOf]; omega
    · have hk2 : k = l.length := by omega
      subst hk2
      go_wp2
      go_ret
      refine ⟨_, rfl, ?_, BW⟩
      have := R.out
      rw [List.take_length] at this
      exact this
theorem each_none (a : Option Addr) (cap : Nat) (f : Value) (w : World) :
    Calls Tryd.prog 39 #[.slice a 0 cap, f] w fun e w' => e = .returned (.slice none 0 0) ∧ Below w.heap.size w w' := by
  go_enter Tryd.func39, Tryd.ntmps39
  go_wp2
  refine wp_loop_rounds 1 ?_
  rw [rounds_succ]
  go_wp2
  go_ret
  exact ⟨rfl, Below.refl _ _⟩

theorem each_any (g : Nat) (f : Ln → Ln) (ok : Ln → Prop) (a : Option Addr) (cap : Nat) (l : List Ln) (w : World) (hp : LMakes g f ok) (hok : ∀ x ∈ l, ok x) (hlen : l.length ≤ 1000) (h : IsLn w a l cap) :
    Calls Tryd.prog 39 #[.slice a l.length cap, .func (.func g) #[] #[]] w fun e w' => ∃ v, e = .returned v ∧ LnRow w' w.heap.size v (l.map f) ∧ Below w.heap.size w w' := by
  rcases h.lies with rfl | ⟨b, off, rfl, hlt, hc⟩
  · refine (each_none a cap _ w).mono ?_
    rintro e w' ⟨rfl, hb⟩
    exact ⟨_, rfl, LnRow.nil _ _, hb⟩
  · exact each_some g f ok b off cap l w hp hok hlt hlen hc

/-- A line without its account. -/
def bareL (x : Ln) : Ln := ⟨ByteArray.empty, x.cur, x.amt⟩
/-- A line turned round. -/
def turnL (x : Ln) : Ln := ⟨x.acc, x.cur, -x.amt⟩

theorem ofCurrencies1_any (x : Ln) (w : World) :
    Calls Tryd.prog 40 #[.agg x.cells] w fun e w' => e = .returned (.agg (bareL x).cells) ∧ Below w.heap.size w w' := by
  obtain ⟨a0, a1, a2⟩ := x
  simp only [Ln.cells, bareL]
  go_enter Tryd.func40, Tryd.ntmps40
  go_wp2
  exact bodyPost_ret (v := .agg #[.string ByteArray.empty, .string a1, .int .i64 a2]) (by simp [results, Tryd.results40, go_sem]; rfl) rfl ⟨rfl, ((Below.refl _ w).alloc (Nat.le_refl _) _).alloc (by simp) _⟩
theorem ofCurrencies1_makes : LMakes 40 bareL (fun _ => True) :=
  ⟨fun args W => en_enters Tryd.func40 (by kernel_rfl) ⟨_, rfl⟩ args W, fun x W _ => ofCurrencies1_any x W⟩

end Go.Proofs.YtffekgndlhleiaaDoor
