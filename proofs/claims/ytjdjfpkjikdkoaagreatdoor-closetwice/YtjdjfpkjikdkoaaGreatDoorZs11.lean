/-
  Part of a proof (see the last text).
-/
import Derived.Test.YtjdjfpkjikdkoaaGreatDoorZs10
import Derived.Shelf.Abstract
import Derived.Deep.OwnRows
import Derived.Below
import Derived.Test.YtjdjfpkjikdkoaaGreatDoorRows
import Derived.WalkKit
import Derived.WalkSpells
import Derived.Laws.Bits64b
import Derived.Lib.Strings
import Derived.Lib.Slices
import Derived.Lib.Small
import Derived.Lib.Walk
import Derived.Lib.BitFns
import Derived.Lib.Tables
import Derived.Lib.ItoaNum
import Derived.Deep.QuietTactic
import Derived.BigQuiet
set_option linter.unusedVariables false
set_option linter.unusedSimpArgs false
set_option maxRecDepth 100000
namespace Go.Proofs.YtjdjfpkjikdkoaaGreatDoor
open Go.RowKit Go.Lib
def Sorted (cut:List Int) (w w':World) (g:Nat) (s:List Nat):Prop:=∃ s':List Nat,s'.Perm s∧s'.Pairwise (LT cut)∧NRow w' g (toI s')∧But g w w'
def Half1 (cut:List Int) (w w':World) (g k:Nat) (s:List Nat):Prop:=∃ P:List Nat,P.Perm (s.take k)∧P.Pairwise (LT cut)∧NRow w' g (toI (P++s.drop k))∧But g w w'
def Half2 (cut:List Int) (w w':World) (g k:Nat) (s:List Nat):Prop:=∃ P Q:List Nat,P.Perm (s.take k)∧P.Pairwise (LT cut)∧Q.Perm (s.drop k)∧Q.Pairwise (LT cut)∧NRow w' g (toI (P++Q))∧But g w w'
theorem half1_call (g cap cb gc ccap k:Nat) (cut:List Int) (s:List Nat) (w:World) (h:NRow w g (toI s)) (hl:s.length≤1000000) (hc:CutAt w cb gc cut ccap) (h1:cb≠g) (h2:gc≠g) (hb:∀ z∈s,z<cut.length) (hs:s.Pairwise (·<·)) (hk0:0<k) (hk:k≤s.length) :
  Calls Tryz.prog 219 #[.slice (some ⟨g,0,none⟩) s.length cap,.int .i64 0,.int .i64 (k:Int),byF cb] w fun e w'=>e=.returned (.tuple #[])∧Hid (Half1 cut w w' g k s):=by
 have e0:[]++(s.take k++s.drop k)=s:=by rw [List.nil_append,List.take_append_drop]
 have hl1:(s.take k).length=k:=by rw [List.length_take];omega
 have c:=insSort_any g cap cb gc ccap cut [] (s.take k) (s.drop k) w (by rw [e0];exact h) (by rw [e0];exact hl) hc h1 h2 (fun z hz=>hb z (List.mem_of_mem_take hz)) (hs.sublist (List.take_sublist _ _)) (by omega)
 rw [e0,hl1] at c
 simp only [List.length_nil,Nat.zero_add] at c
 refine c.mono ?_
 rintro e w' ⟨rfl,hh⟩
 obtain ⟨s',p1,p2,p3,p4⟩:=hh.out
 exact ⟨rfl,s',p1,p2,p3,p4⟩
theorem half2_call (g cap cb gc ccap k:Nat) (cut:List Int) (s:List Nat) (w W:World) (h:Half1 cut w W g k s) (hl:s.length≤1000000) (hc:CutAt w cb gc cut ccap) (h1:cb≠g) (h2:gc≠g) (hb:∀ z∈s,z<cut.length) (hs:s.Pairwise (·<·)) (hk:k<s.length) :
  Calls Tryz.prog 219 #[.slice (some ⟨g,0,none⟩) s.length cap,.int .i64 (k:Int),.int .i64 (s.length:Int),byF cb] W fun e w'=>e=.returned (.tuple #[])∧Hid (Half2 cut w w' g k s):=by
 obtain ⟨P,p1,p2,p3,p4⟩:=h
 have hP:P.length=k:=by rw [p1.length_eq,List.length_take];omega
 have hQ:(s.drop k).length=s.length - k:=by rw [List.length_drop]
 have hl2:(P++(s.drop k++[])).length=s.length:=by rw [List.append_nil,List.length_append,hP,hQ];omega
 have c:=insSort_any g cap cb gc ccap cut P (s.drop k) [] W (by rw [List.append_nil];exact p3) (by rw [hl2];exact hl) (hc.but p4 h1 h2) h1 h2 (fun z hz=>hb z (List.mem_of_mem_drop hz)) (hs.sublist (List.drop_sublist _ _)) (by omega)
 rw [hl2,hP,hQ,show k+(s.length - k)=s.length by omega] at c
 refine c.mono ?_
 rintro e w' ⟨rfl,hh⟩
 obtain ⟨Q,q1,q2,q3,q4⟩:=hh.out
 exact ⟨rfl,P,Q,p1,p2,q1,q2,by rw [List.append_nil] at q3;exact q3,p4.trans q4⟩
theorem whole_call (g cap cb gc ccap k:Nat) (cut:List Int) (s:List Nat) (w W:World) (h:Half2 cut w W g k s) (hl:s.length≤1000000) (hc:CutAt w cb gc cut ccap) (h1:cb≠g) (h2:gc≠g) (hb:∀ z∈s,z<cut.length) (hs:s.Pairwise (·<·)) (hk0:0<k) (hk:k<s.length) :
  Calls Tryz.prog 220 #[.slice (some ⟨g,0,none⟩) s.length cap,.int .i64 0,.int .i64 (k:Int),.int .i64 (s.length:Int),byF cb] W fun e w'=>e=.returned (.tuple #[])∧Hid (Sorted cut w w' g s):=by
 obtain ⟨P,Q,p1,p2,q1,q2,p3,p4⟩:=h
 have hP:P.length=k:=by rw [p1.length_eq,List.length_take];omega
 have hQ:Q.length=s.length - k:=by rw [q1.length_eq,List.length_drop]
 have hl2:([]++(P++(Q++[]))).length=s.length:=by rw [List.nil_append,List.append_nil,List.length_append,hP,hQ];omega
 have hM:MG cut P Q:=by
  refine ⟨p2,q2,fun x hx y hy=>?_,fun z hz=>hb z (List.mem_of_mem_take (p1.mem_iff.1 hz)),fun z hz=>hb z (List.mem_of_mem_drop (q1.mem_iff.1 hz))⟩
  have hp:=hs
  rw [← List.take_append_drop k s] at hp
  exact (List.pairwise_append.1 hp).2.2 x (p1.mem_iff.1 hx) y (q1.mem_iff.1 hy)
 have c:=sym_any g cap cb gc ccap cut h1 h2 (P.length+Q.length) [] P Q [] W rfl (by omega) (by omega) (by rw [List.append_nil];exact p3) (by rw [hl2];exact hl) (hc.but p4 h1 h2) hM
 rw [hl2,hP,hQ] at c
 simp only [List.length_nil,Nat.zero_add] at c
 rw [show k+(s.length - k)=s.length by omega] at c
 refine c.mono ?_
 rintro e w' ⟨rfl,hh⟩
 obtain ⟨s',r1,r2,r3,r4⟩:=hh.out
 refine ⟨rfl,s',r1.trans ((p1.append q1).trans (by rw [List.take_append_drop])),r2,by rw [List.append_nil] at r3;exact r3,p4.trans r4⟩
theorem Half1.all {cut:List Int} {w w':World} {g:Nat} {s:List Nat} (h:Half1 cut w w' g s.length s):Sorted cut w w' g s:=by
 obtain ⟨P,p1,p2,p3,p4⟩:=h
 rw [List.take_length] at p1
 rw [List.drop_length,List.append_nil] at p3
 exact ⟨P,p1,p2,p3,p4⟩
set_option maxHeartbeats 2000000 in
theorem stable_any (g cap cb gc ccap:Nat) (cut:List Int) (s:List Nat) (w:World) (h:NRow w g (toI s)) (hn0:0<s.length) (hn:s.length≤40) (hc:CutAt w cb gc cut ccap) (h1:cb≠g) (h2:gc≠g) (hb:∀ z∈s,z<cut.length) (hs:s.Pairwise (·<·)) :
  Calls Tryz.prog 201 #[.slice (some ⟨g,0,none⟩) s.length cap,.int .i64 (s.length:Int),byF cb] w fun e w'=>e=.returned (.tuple #[])∧Hid (Sorted cut w w' g s):=by
 have hl:s.length≤1000000:=by omega
 have HC1:Hid (∀ k,0<k→k≤s.length→Calls Tryz.prog 219 #[.slice (some ⟨g,0,none⟩) s.length cap,.int .i64 0,.int .i64 (k:Int),byF cb] w fun e w'=>e=.returned (.tuple #[])∧Hid (Half1 cut w w' g k s)):=fun k k0 k1=>half1_call g cap cb gc ccap k cut s w h hl hc h1 h2 hb hs k0 k1
 have HC2:Hid (∀ k W,Half1 cut w W g k s→k<s.length→Calls Tryz.prog 219 #[.slice (some ⟨g,0,none⟩) s.length cap,.int .i64 (k:Int),.int .i64 (s.length:Int),byF cb] W fun e w'=>e=.returned (.tuple #[])∧Hid (Half2 cut w w' g k s)):=fun k W hW k1=>half2_call g cap cb gc ccap k cut s w W hW hl hc h1 h2 hb hs k1
 have HC3:Hid (∀ k W,Half2 cut w W g k s→0<k→k<s.length→Calls Tryz.prog 220 #[.slice (some ⟨g,0,none⟩) s.length cap,.int .i64 0,.int .i64 (k:Int),.int .i64 (s.length:Int),byF cb] W fun e w'=>e=.returned (.tuple #[])∧Hid (Sorted cut w w' g s)):=fun k W hW k0 k1=>whole_call g cap cb gc ccap k cut s w W hW hl hc h1 h2 hb hs k0 k1
 have HC4:Hid (∀ (a:Nat) (W:World),a≤1000000→Calls Tryz.prog 219 #[.slice (some ⟨g,0,none⟩) s.length cap,.int .i64 (a:Int),.int .i64 (a:Int),byF cb] W fun e w'=>e=.returned (.tuple #[])∧w'=W):=fun a W ha=>insSort_none g cap s.length a (byF cb) W ha
 have HSo:Hid (∀ W,Half1 cut w W g s.length s→Sorted cut w W g s):=fun W hW=>hW.all
 generalize s.length=n at *
 clear h hc h1 h2 hb hs
 by_cases c1:n<20
 ·have i1:¬ (20:Int)≤n:=by omega
  have i2:¬ (20:Int)<n:=by omega
  have HCC:Hid (Calls _ _ _ _ _):=HC1.out n hn0 (Nat.le_refl _)
  go_enter Tryz.func201,Tryz.ntmps201
  go_wp2
  refine wp_loop_rounds 1 ?_
  rw [rounds_succ]
  go_wp2_with fail
  refine HCC.out.mono ?_
  rintro e w1 ⟨rfl,hh⟩
  go_wp2_with fail
  refine wp_loop_rounds 1 ?_
  rw [rounds_succ]
  go_wp2
  go_end0
  exact ⟨rfl,HSo.out w1 hh.out⟩
 ·have i1:(20:Int)≤n:=by omega
  have HCC:Hid (Calls _ _ _ _ _):=HC1.out 20 (by omega) (by omega)
  by_cases c2:n=20
  ·subst c2
   go_enter Tryz.func201,Tryz.ntmps201
   go_wp2
   refine wp_loop_rounds 2 ?_
   rw [rounds_succ]
   go_wp2_with fail
   refine HCC.out.mono ?_
   rintro e w1 ⟨rfl,hh⟩
   have HCD:Hid (Calls _ _ _ _ _):=HC4.out 20 w1 (by omega)
   go_wp2_with fail
   rw [rounds_succ]
   go_wp2_with fail
   refine HCD.out.mono ?_
   rintro e w2 ⟨rfl,hw⟩
   rw [hw];clear hw w2
   go_wp2_with fail
   refine wp_loop_rounds 1 ?_
   rw [rounds_succ]
   go_wp2
   go_end0
   exact ⟨rfl,HSo.out w1 hh.out⟩
  ·by_cases c3:n<40
   ·have i2:¬ (40:Int)≤n:=by omega
    have i3:(20:Int)<n:=by omega
    have i4:¬ (40:Int)<n:=by omega
    go_enter Tryz.func201,Tryz.ntmps201
    go_wp2
    refine wp_loop_rounds 2 ?_
    rw [rounds_succ]
    go_wp2_with fail
    refine HCC.out.mono ?_
    rintro e w1 ⟨rfl,hh⟩
    have HCD:Hid (Calls _ _ _ _ _):=HC2.out 20 w1 hh.out (by omega)
    go_wp2_with fail
    rw [rounds_succ]
    go_wp2_with fail
    refine HCD.out.mono ?_
    rintro e w2 ⟨rfl,hh2⟩
    have HCE:Hid (Calls _ _ _ _ _):=HC3.out 20 w2 hh2.out (by omega) (by omega)
    go_wp2_with fail
    refine wp_loop_rounds 2 ?_
    rw [rounds_succ]
    go_wp2_with fail
    refine wp_loop_rounds 1 ?_
    rw [rounds_succ]
    go_wp2_with fail
    refine HCE.out.mono ?_
    rintro e w3 ⟨rfl,hh3⟩
    go_wp2_with fail
    rw [rounds_succ]
    go_wp2
    go_end0
    exact ⟨rfl,hh3⟩
   ·have e4:n=40:=by omega
    subst e4
    go_enter Tryz.func201,Tryz.ntmps201
    go_wp2
    refine wp_loop_rounds 3 ?_
    rw [rounds_succ]
    go_wp2_with fail
    refine HCC.out.mono ?_
    rintro e w1 ⟨rfl,hh⟩
    have HCD:Hid (Calls _ _ _ _ _):=HC2.out 20 w1 hh.out (by omega)
    go_wp2_with fail
    rw [rounds_succ]
    go_wp2_with fail
    refine HCD.out.mono ?_
    rintro e w2 ⟨rfl,hh2⟩
    have HCE:Hid (Calls _ _ _ _ _):=HC3.out 20 w2 hh2.out (by omega) (by omega)
    have HCF:Hid (Calls _ _ _ _ _):=HC4.out 40 w2 (by omega)
    go_wp2_with fail
    rw [rounds_succ]
    go_wp2_with fail
    refine HCF.out.mono ?_
    rintro e w5 ⟨rfl,hw⟩
    rw [hw];clear hw w5
    go_wp2_with fail
    refine wp_loop_rounds 2 ?_
    rw [rounds_succ]
    go_wp2_with fail
    refine wp_loop_rounds 2 ?_
    rw [rounds_succ]
    go_wp2_with fail
    refine HCE.out.mono ?_
    rintro e w3 ⟨rfl,hh3⟩
    go_wp2_with fail
    rw [rounds_succ]
    go_wp2_with fail
    rw [rounds_succ]
    go_wp2
    go_end0
    exact ⟨rfl,hh3⟩
theorem sortStable_any (g cap cb gc ccap:Nat) (cut:List Int) (s:List Nat) (w:World) (h:NRow w g (toI s)) (hn0:0<s.length) (hn:s.length≤40) (hc:CutAt w cb gc cut ccap) (h1:cb≠g) (h2:gc≠g) (hb:∀ z∈s,z<cut.length) (hs:s.Pairwise (·<·)) :
  Calls Tryz.prog 176 #[.slice (some ⟨g,0,none⟩) s.length cap,byF cb] w fun e w'=>e=.returned (.tuple #[])∧Hid (Sorted cut w w' g s):=by
 have HC:Hid (Calls _ _ _ _ _):=stable_any g cap cb gc ccap cut s w h hn0 hn hc h1 h2 hb hs
 clear h hc h1 h2 hb hs
 generalize s.length=n at *
 go_enter Tryz.func176,Tryz.ntmps176
 go_wp2_with fail
 refine HC.out.mono ?_
 rintro e w1 ⟨rfl,hh⟩
 go_wp2
 go_end0
 exact ⟨rfl,hh⟩
end Go.Proofs.YtjdjfpkjikdkoaaGreatDoor
namespace Go.Proofs.YtjdjfpkjikdkoaaGreatDoor
open Go.RowKit Go.Lib
theorem srt_int:(Tryz.prog.info? 3).map (fun i=>(i.zero,i.size,i.bytes))=some (some (.int .i64 0),1,8):=by kernel_rfl
theorem srt_u64:(Tryz.prog.info? 205).map (fun i=>(i.zero,i.size,i.bytes))=some (some (.int .u64 0),1,8):=by kernel_rfl
theorem srow_step (f:Nat→Int) (n k:Nat) (h:k<n):((List.range k).map f++List.replicate (n - k) 0).set k (f k)=(List.range (k+1)).map f++List.replicate (n - (k+1)) 0:=by
 rw [List.set_append_right _ _ (by simp)]
 simp only [List.length_map,List.length_range,Nat.sub_self]
 obtain ⟨m,hm⟩:∃ m,n - k=m+1:=⟨n - k - 1,by omega⟩
 rw [hm,List.replicate_succ,List.set_cons_zero,List.range_succ,List.map_append,List.append_assoc,show n - (k+1)=m by omega]
 rfl
theorem But.below {g n:Nat} {A B:World} (h:But g A B) (hn:n≤g):Below n A B:=⟨h.os,h.tape,h.output,Nat.le_of_eq h.size,fun b hb=>h.block b (by omega)⟩
set_option maxHeartbeats 4000000 in
theorem byCut_any (gc ccap:Nat) (cut:List Int) (w:World) (hg:gc<w.heap.size) (hc:∀ i,i<cut.length→w.cell? ⟨gc,i,none⟩=some (.int .u64 (cut.getD i 0))) (hn0:0<cut.length) (hn:cut.length≤40) :
  Calls Tryz.prog 146 #[.slice (some ⟨gc,0,none⟩) cut.length ccap] w fun e w'=>e=.returned (.slice (some ⟨w.heap.size+1,0,none⟩) cut.length cut.length)∧Hid (Below w.heap.size w w'∧∃ s:List Nat,s.Perm (List.range cut.length)∧s.Pairwise (LT cut)∧NRow w' (w.heap.size+1) (toI s)):=by
 have hmk:=fun w=>run_make_row' (P:=Tryz.prog) 27 3 (.int .i64 0) 8 Tryz.underlying27 srt_int rfl .i64 .i64 cut.length (by omega) (by omega) w
 obtain ⟨wA,hwA⟩:∃ wA,w.alloc (.cells #[.slice (some ⟨gc,0,none⟩) cut.length ccap] 214)=wA:=⟨_,rfl⟩
 have hA1:wA.heap.size=w.heap.size+1:=by rw [← hwA];simp
 have hA2:wA.cell? ⟨w.heap.size,0,none⟩=some (.slice (some ⟨gc,0,none⟩) cut.length ccap):=by rw [← hwA];simp
 have bA:Below w.heap.size w wA:=by rw [← hwA];exact (Below.refl _ w).alloc (Nat.le_refl _) _
 have hrow:=nrow_made wA cut.length
 have bB:Below wA.heap.size wA (wA.alloc (.cells (madeCells #[.int .i64 0] cut.length) 3)):=(Below.refl _ wA).alloc (Nat.le_refl _) _
 have hsB:(wA.alloc (.cells (madeCells #[.int .i64 0] cut.length) 3)).heap.size=w.heap.size+2:=by simp [hA1]
 have HS:Hid (∀ W,But (w.heap.size+1) (wA.alloc (.cells (madeCells #[.int .i64 0] cut.length) 3)) W→NRow W (w.heap.size+1) (toI (List.range cut.length))→Calls Tryz.prog 176 #[.slice (some ⟨w.heap.size+1,0,none⟩) cut.length cut.length,byF w.heap.size] W fun e w'=>e=.returned (.tuple #[])∧Hid (Below w.heap.size w w'∧∃ s:List Nat,s.Perm (List.range cut.length)∧s.Pairwise (LT cut)∧NRow w' (w.heap.size+1) (toI s))):=fun W hW hR=>by
  have hb:Below (w.heap.size+1) wA W:=by
   have:=bB.trans (hW.below (n:=wA.heap.size) (by omega))
   rw [hA1] at this;exact this
  have hca:CutAt W w.heap.size gc cut ccap:=⟨(hb.cell (p:=⟨w.heap.size,0,none⟩) (Nat.lt_succ_self _)).trans hA2,fun i hi=>((bA.trans (hb.mono (Nat.le_succ _))).cell (p:=⟨gc,i,none⟩) hg).trans (hc i hi)⟩
  have c:=sortStable_any (w.heap.size+1) cut.length w.heap.size gc ccap cut (List.range cut.length) W hR (by simpa using hn0) (by simpa using hn) hca (by omega) (by omega) (fun z hz=>List.mem_range.1 hz) List.pairwise_lt_range
  rw [List.length_range] at c
  refine c.mono ?_
  rintro e w' ⟨rfl,hh⟩
  obtain ⟨s,p1,p2,p3,p4⟩:=hh.out
  refine ⟨rfl,(bA.trans (hb.mono (Nat.le_succ _))).trans (p4.below (by omega)),s,p1,p2,p3⟩
 have HB0:Hid (NRow (wA.alloc (.cells (madeCells #[.int .i64 0] cut.length) 3)) wA.heap.size (List.replicate cut.length 0)):=hrow
 unfold byF at HS
 rw [hA1] at HB0
 generalize cut.length=n at *
 have n0:(0:Int)≤n:=by omega
 have n1:(n:Int)≤40:=by omega
 clear hc hrow bB bA
 go_enter Tryz.func146,Tryz.ntmps146
 go_wp2
 clear hmk
 obtain ⟨wB,hwB⟩:∃ wB,wA.alloc (.cells (madeCells #[.int .i64 0] n) 3)=wB:=⟨_,rfl⟩
 rw [hwB] at HS HB0 ⊢
 obtain ⟨g,hgg⟩:∃ g,w.heap.size+1=g:=⟨_,rfl⟩
 rw [hgg] at HS HB0 ⊢
 clear hwB hwA hA2
 go_loopw [10] (fun t wr=>∃ k:Nat,k≤n∧t=.int .i64 k∧Hid (NRow wr g ((List.range k).map (fun i:Nat=>(i:Int))++List.replicate (n - k) 0)∧But g wB wr)) (fun t _=>n - (RowKit.intOf t).toNat)
 case atStart=>exact ⟨0,Nat.zero_le _,rfl,by simpa using HB0.out,But.refl _ _⟩
 case round=>
  obtain ⟨k,hk,rfl,H⟩:=hrel
  obtain ⟨R,B⟩:=H.out
  by_cases hlt:k<n
  ·have hrl:((List.range k).map (fun i:Nat=>(i:Int))++List.replicate (n - k) 0).length=n:=by simp;omega
   have ck:=R.cell (i:=k) (by rw [hrl];exact hlt)
   have fk:=R.frozen k
   have R2:=R.set k (k:Int)
   rw [srow_step (fun i:Nat=>(i:Int)) n k hlt] at R2
   have HR2:Hid (NRow (wr.setCell ⟨g,k,none⟩ (.int .i64 (k:Int))) g ((List.range (k+1)).map (fun i:Nat=>(i:Int))++List.replicate (n - (k+1)) 0)∧But g wB (wr.setCell ⟨g,k,none⟩ (.int .i64 (k:Int)))):=⟨R2,B.set k _⟩
   have k0:(0:Int)≤k:=by omega
   have k1:(k:Int)<n:=by omega
   generalize ((List.range k).map (fun i:Nat=>(i:Int))++List.replicate (n - k) 0).getD k 0=z at ck
   clear R B R2 H hrl
   go_wp2
   go_roundw
   case rel=>exact ⟨k+1,by omega,by go_num,HR2⟩
   case measure=>simp [RowKit.intOf];omega
  ·have ek:k=n:=by omega
   subst ek
   have k1:¬ (k:Int)<k:=by omega
   have HC:Hid (Calls _ _ _ _ _):=HS.out wr B (by have R':=R;rw [Nat.sub_self,List.replicate_zero,List.append_nil] at R';exact R')
   clear R B H
   go_wp2_with fail
   refine HC.out.mono ?_
   rintro e w1 ⟨rfl,hh⟩
   go_wp2
   go_ret
   rw [← hgg] at hh
   refine ⟨?_,hh⟩
   rw [hgg];rfl
end Go.Proofs.YtjdjfpkjikdkoaaGreatDoor
namespace Go.Proofs.YtjdjfpkjikdkoaaGreatDoor
open Go.RowKit Go.Lib
abbrev decLT (cut:List Int) (i j:Nat):Decidable (LT cut i j):=by unfold LT;exact inferInstance
def rank (cut:List Int) (i:Nat):Nat:=(List.range cut.length).countP fun j=>@decide (LT cut j i) (decLT cut j i)
theorem LT.asymm {cut:List Int} {i j:Nat} (h:LT cut i j):¬ LT cut j i:=by unfold LT at *;omega
theorem LT.irrefl (cut:List Int) (i:Nat):¬ LT cut i i:=by unfold LT;omega
theorem rank_pos {cut:List Int} {l:List Nat} (hl:l.Pairwise (LT cut)) {p:Nat} (hp:p<l.length):(l.countP fun j=>@decide (LT cut j l[p]) (decLT cut j l[p]))=p:=by
 have e:l=l.take p++(l[p] :: l.drop (p+1)):=by rw [← List.drop_eq_getElem_cons hp,List.take_append_drop]
 have hs:=hl
 rw [e] at hs
 obtain ⟨s1,s2,s3⟩:=List.pairwise_append.1 hs
 have s4:=(List.pairwise_cons.1 s2).1
 generalize hx:l[p]=x at *
 rw [e,List.countP_append,List.countP_cons]
 have c1:(l.take p).countP (fun j=>@decide (LT cut j x) (decLT cut j x))=p:=by
  rw [List.countP_eq_length.2 (fun a ha=>by simpa using s3 a ha x (by simp)),List.length_take]
  omega
 have c2:(l.drop (p+1)).countP (fun j=>@decide (LT cut j x) (decLT cut j x))=0:=by
  rw [List.countP_eq_zero]
  intro a ha
  simpa using (s4 a ha).asymm
 rw [c1,c2]
 simp [LT.irrefl]
theorem take_rank {cut:List Int} {l:List Nat} (h1:l.Perm (List.range cut.length)) (h2:l.Pairwise (LT cut)) {i:Nat} (hi:i<cut.length) (k:Nat):i∈l.take k↔rank cut i<k:=by
 have hr:∀ p (hp:p<l.length),rank cut l[p]=p:=fun p hp=>by
  unfold rank
  rw [← h1.countP_eq]
  exact rank_pos h2 hp
 constructor
 ·intro h
  obtain ⟨q,hq,e⟩:=List.getElem_of_mem h
  rw [List.length_take] at hq
  rw [List.getElem_take] at e
  rw [← e,hr q (by omega)]
  omega
 ·intro h
  have hm:i∈l:=h1.mem_iff.2 (List.mem_range.2 hi)
  obtain ⟨p,hp,e⟩:=List.getElem_of_mem hm
  have hpk:p<k:=by rw [← hr p hp,e];exact h
  have hq:p<(l.take k).length:=by rw [List.length_take];omega
  have:=List.getElem_mem hq
  rwa [List.getElem_take,e] at this
theorem order_ex (cut:List Int):∃ l:List Nat,l.Perm (List.range cut.length)∧l.Pairwise (LT cut):=by
 let le:Nat→Nat→Bool:=fun i j=>@decide (¬ LT cut j i) (@instDecidableNot _ (decLT cut j i))
 refine ⟨(List.range cut.length).mergeSort le,List.mergeSort_perm _ _,?_⟩
 have h1:=List.pairwise_mergeSort (le:=le) (fun a b c=>by
  simp only [le,decide_eq_true_eq]
  unfold LT
  omega) (fun a b=>by
  simp only [le,Bool.or_eq_true,decide_eq_true_eq]
  unfold LT
  omega) (List.range cut.length)
 have h2:((List.range cut.length).mergeSort le).Pairwise (·≠·):=(List.mergeSort_perm (List.range cut.length) le).symm.nodup List.nodup_range
 refine (h1.and h2).imp ?_
 rintro a b ⟨p1,p2⟩
 simp only [le,decide_eq_true_eq] at p1
 unfold LT at *
 omega
def partL (T:Int) (ws:List Int):List Int:=ws.map fun x=>T*x / ws.sum
def cutL (T:Int) (ws:List Int):List Int:=ws.map fun x=>T*x % ws.sum
def leftI (T:Int) (ws:List Int):Int:=T - (partL T ws).sum
def moreI (T:Int) (ws:List Int) (i:Nat):Int:=if (rank (cutL T ws) i:Int)<leftI T ws then 1 else 0
def sizeI (t:Int):Int:=if t<0 then -t else t
def shareI (t:Int) (ws:List Int) (i:Nat):Int:=if t<0 then -((partL (sizeI t) ws).getD i 0+moreI (sizeI t) ws i) else (partL (sizeI t) ws).getD i 0+moreI (sizeI t) ws i
def shBad (ws:List Int):Int:=if 40<ws.length then 4 else if ws.any (fun x=>decide (x<0∨1000000000<x))=true then 1 else if ws.sum=0 then 6 else 0
theorem partL_len (T:Int) (ws:List Int):(partL T ws).length=ws.length:=by simp [partL]
theorem cutL_len (T:Int) (ws:List Int):(cutL T ws).length=ws.length:=by simp [cutL]
theorem partL_at (T:Int) (ws:List Int) {i:Nat} (h:i<ws.length):(partL T ws).getD i 0=T*ws.getD i 0 / ws.sum:=by
 simp [partL,List.getD_eq_getElem?_getD,List.getElem?_eq_getElem h]
theorem cutL_at (T:Int) (ws:List Int) {i:Nat} (h:i<ws.length):(cutL T ws).getD i 0=T*ws.getD i 0 % ws.sum:=by
 simp [cutL,List.getD_eq_getElem?_getD,List.getElem?_eq_getElem h]
def GoodW (ws:List Int):Prop:=ws.length≤40∧(∀ x∈ws,0≤x∧x≤1000000000)∧0<ws.sum
theorem sum_nonneg {l:List Int} (h:∀ x∈l,0≤x):0≤l.sum:=by
 induction l with
 | nil=>simp
 | cons y ys ih=>
  rw [List.sum_cons]
  have h1:=h y (by simp)
  have h2:=ih (fun x hx=>h x (by simp [hx]))
  omega
theorem sum_le {l:List Int} {M:Int} (h:∀ x∈l,x≤M):l.sum≤M*l.length:=by
 induction l with
 | nil=>simp
 | cons y ys ih=>
  rw [List.sum_cons,List.length_cons]
  have h1:=h y (by simp)
  have h2:=ih (fun x hx=>h x (by simp [hx]))
  have h3:M*((ys.length+1:Nat):Int)=M*ys.length+M:=by rw [Int.natCast_add,Int.mul_add];simp
  omega
theorem mem_le_sum {l:List Int} (h:∀ x∈l,0≤x) {x:Int} (hx:x∈l):x≤l.sum:=by
 induction l with
 | nil=>simp at hx
 | cons y ys ih=>
  rw [List.sum_cons]
  have h1:=h y (by simp)
  have h2:=sum_nonneg (fun x hx=>h x (List.mem_cons_of_mem y hx))
  rcases List.mem_cons.1 hx with rfl | hx
  ·omega
  ·have:=ih (fun x hx=>h x (List.mem_cons_of_mem y hx)) hx
   omega
theorem shBad_zero {ws:List Int} (h:shBad ws=0):GoodW ws:=by
 unfold shBad at h
 by_cases h1:40<ws.length
 ·rw [if_pos h1] at h;exact absurd h (by decide)
 ·rw [if_neg h1] at h
  by_cases h2:ws.any (fun x=>decide (x<0∨1000000000<x))=true
  ·rw [if_pos h2] at h;exact absurd h (by decide)
  ·rw [if_neg h2] at h
   by_cases h3:ws.sum=0
   ·rw [if_pos h3] at h;exact absurd h (by decide)
   ·have h4:∀ x∈ws,0≤x∧x≤1000000000:=fun x hx=>by
     have:¬ (x<0∨1000000000<x):=fun e=>h2 (List.any_eq_true.2 ⟨x,hx,decide_eq_true e⟩)
     omega
    have h5:=sum_nonneg (fun x hx=>(h4 x hx).1)
    exact ⟨by omega,h4,by omega⟩
theorem cut_sum (T S:Int) (ws:List Int) (hS:0<S):(ws.map fun x=>T*x % S).sum=T*ws.sum - S*(ws.map fun x=>T*x / S).sum:=by
 induction ws with
 | nil=>simp
 | cons y ys ih=>
  simp only [List.map_cons,List.sum_cons]
  rw [ih,Int.emod_def,Int.mul_add,Int.mul_add]
  omega
theorem left_cut {T:Int} {ws:List Int} (h:GoodW ws):(cutL T ws).sum=ws.sum*leftI T ws:=by
 unfold cutL leftI partL
 rw [cut_sum T ws.sum ws h.2.2,Int.mul_sub,Int.mul_comm T]
theorem cut_bounds {T:Int} {ws:List Int} (h:GoodW ws):∀ x∈cutL T ws,0≤x∧x≤ws.sum - 1:=by
 intro x hx
 unfold cutL at hx
 obtain ⟨y,hy,rfl⟩:=List.mem_map.1 hx
 have:=Int.emod_nonneg (T*y) (show ws.sum≠0 by have:=h.2.2;omega)
 have:=Int.emod_lt_of_pos (T*y) h.2.2
 omega
theorem left_nonneg {T:Int} {ws:List Int} (h:GoodW ws):0≤leftI T ws:=by
 have h1:=sum_nonneg (fun x hx=>(cut_bounds (T:=T) h x hx).1)
 rw [left_cut h] at h1
 have h3:=h.2.2
 rcases Int.lt_or_le (leftI T ws) 0 with h2 | h2
 ·have:=Int.mul_neg_of_pos_of_neg h3 h2
  omega
 ·exact h2
def someCut (cut:List Int):Nat:=cut.countP fun x=>decide (0<x)
theorem sum_cut_le (l:List Int) (M:Int) (hM:0≤M) (h:∀ x∈l,0≤x∧x≤M):l.sum≤M*(someCut l):=by
 induction l with
 | nil=>simp [someCut]
 | cons y ys ih=>
  have h1:=h y (by simp)
  have h2:=ih (fun x hx=>h x (by simp [hx]))
  unfold someCut at *
  rw [List.sum_cons,List.countP_cons]
  by_cases h3:0<y
  ·simp only [h3,decide_true,if_true]
   rw [Int.natCast_add,Int.mul_add]
   simp
   omega
  ·simp only [h3,decide_false,Bool.false_eq_true,if_false,Nat.add_zero]
   omega
theorem left_le_cut {T:Int} {ws:List Int} (h:GoodW ws):leftI T ws≤someCut (cutL T ws):=by
 have h1:=sum_cut_le (cutL T ws) (ws.sum - 1) (by have:=h.2.2;omega) (cut_bounds h)
 rw [left_cut h] at h1
 have h3:=h.2.2
 have h4:=left_nonneg (T:=T) h
 rcases Int.lt_or_le (someCut (cutL T ws):Int) (leftI T ws) with h2 | h2
 ·exfalso
  have h5:ws.sum*leftI T ws ≥ ws.sum*((someCut (cutL T ws):Int)+1):=Int.mul_le_mul_of_nonneg_left (by omega) (by omega)
  rw [Int.mul_add] at h5
  rw [Int.sub_mul] at h1
  omega
 ·exact h2
theorem left_le {T:Int} {ws:List Int} (h:GoodW ws):leftI T ws≤ws.length:=by
 have h1:=left_le_cut (T:=T) h
 have h2:someCut (cutL T ws)≤(cutL T ws).length:=List.countP_le_length
 rw [cutL_len] at h2
 omega
end Go.Proofs.YtjdjfpkjikdkoaaGreatDoor
namespace Go.Proofs.YtjdjfpkjikdkoaaGreatDoor
open Go.RowKit Go.Lib
theorem rank_count (cut:List Int) (k:Nat) (hk:k≤cut.length):((List.range cut.length).countP fun i=>decide (rank cut i<k))=k:=by
 obtain ⟨l,h1,h2⟩:=order_ex cut
 have hl:l.length=cut.length:=by rw [h1.length_eq,List.length_range]
 rw [← h1.countP_eq]
 have hr:∀ p (hp:p<l.length),rank cut l[p]=p:=fun p hp=>by
  unfold rank
  rw [← h1.countP_eq]
  exact rank_pos h2 hp
 rw [← List.take_append_drop k l,List.countP_append]
 have c1:(l.take k).countP (fun i=>decide (rank cut i<k))=k:=by
  rw [List.countP_eq_length.2,List.length_take]
  ·omega
  ·intro a ha
   obtain ⟨q,hq,e⟩:=List.getElem_of_mem ha
   rw [List.length_take] at hq
   rw [List.getElem_take] at e
   have:=hr q (by omega)
   rw [e] at this
   simp only [decide_eq_true_eq]
   omega
 have c2:(l.drop k).countP (fun i=>decide (rank cut i<k))=0:=by
  rw [List.countP_eq_zero]
  intro a ha
  obtain ⟨q,hq,e⟩:=List.getElem_of_mem ha
  rw [List.length_drop] at hq
  rw [List.getElem_drop] at e
  have:=hr (k+q) (by omega)
  rw [e] at this
  simp only [decide_eq_true_eq]
  omega
 rw [c1,c2,Nat.add_zero]
theorem sum_ones (p:Nat→Bool) (l:List Nat):(l.map fun i=>if p i=true then (1:Int) else 0).sum=(l.countP p:Nat):=by
 induction l with
 | nil=>simp
 | cons y ys ih=>
  rw [List.map_cons,List.sum_cons,ih,List.countP_cons]
  by_cases h:p y=true
  ·simp only [h,if_true];omega
  ·simp only [h,Bool.false_eq_true,if_false];omega
theorem sum_map_add (f g:Nat→Int) (l:List Nat):(l.map fun i=>f i+g i).sum=(l.map f).sum+(l.map g).sum:=by
 induction l with
 | nil=>simp
 | cons y ys ih=>simp only [List.map_cons,List.sum_cons,ih];omega
theorem sum_map_neg (f:Nat→Int) (l:List Nat):(l.map fun i=>-(f i)).sum = -(l.map f).sum:=by
 induction l with
 | nil=>simp
 | cons y ys ih=>simp only [List.map_cons,List.sum_cons,ih];omega
theorem range_getD (l:List Int):(List.range l.length).map (fun i=>l.getD i 0)=l:=by
 apply List.ext_getElem
 ·simp
 ·intro i h1 h2
  simp [List.getD_eq_getElem?_getD,List.getElem?_eq_getElem h2]
def grossI (T:Int) (ws:List Int) (i:Nat):Int:=(partL T ws).getD i 0+moreI T ws i
theorem share_gross (t:Int) (ws:List Int) (i:Nat):shareI t ws i=if t<0 then -grossI (sizeI t) ws i else grossI (sizeI t) ws i:=rfl
theorem gross_sum {T:Int} {ws:List Int} (h:GoodW ws):((List.range ws.length).map (grossI T ws)).sum=T:=by
 have e:(List.range ws.length).map (grossI T ws)=(List.range ws.length).map (fun i=>(partL T ws).getD i 0+moreI T ws i):=rfl
 rw [e,sum_map_add]
 have e1:=range_getD (partL T ws)
 rw [partL_len] at e1
 rw [e1]
 have h0:=left_nonneg (T:=T) h
 have h1:=left_le (T:=T) h
 have e2:(List.range ws.length).map (moreI T ws)=(List.range ws.length).map (fun i=>if decide (rank (cutL T ws) i<(leftI T ws).toNat)=true then (1:Int) else 0):=by
  apply List.map_congr_left
  intro i hi
  unfold moreI
  by_cases hc:(rank (cutL T ws) i:Int)<leftI T ws
  ·rw [if_pos hc,if_pos (by simp only [decide_eq_true_eq];omega)]
  ·rw [if_neg hc,if_neg (by simp only [decide_eq_true_eq];omega)]
 rw [e2,sum_ones]
 have e3:=rank_count (cutL T ws) (leftI T ws).toNat (by rw [cutL_len];omega)
 rw [cutL_len] at e3
 rw [e3]
 unfold leftI at *
 omega
theorem more_bd (T:Int) (ws:List Int) (i:Nat):0≤moreI T ws i∧moreI T ws i≤1:=by unfold moreI;split <;> omega
theorem part_nonneg' {T:Int} {ws:List Int} (hT:0≤T) (h:GoodW ws) {i:Nat} (hi:i<ws.length):0≤(partL T ws).getD i 0:=by
 rw [partL_at T ws hi]
 have hm:ws.getD i 0∈ws:=by rw [List.getD_eq_getElem?_getD,List.getElem?_eq_getElem hi];exact List.getElem_mem hi
 exact Int.ediv_nonneg (Int.mul_nonneg hT (h.2.1 _ hm).1) (by have:=h.2.2;omega)
theorem gross_nonneg {T:Int} {ws:List Int} (hT:0≤T) (h:GoodW ws) {i:Nat} (hi:i<ws.length):0≤grossI T ws i:=by
 have:=part_nonneg' hT h hi
 have:=more_bd T ws i
 unfold grossI
 omega
theorem gross_le {T:Int} {ws:List Int} (hT:0≤T) (h:GoodW ws) {i:Nat} (hi:i<ws.length):grossI T ws i≤T:=by
 have h1:=mem_le_sum (l:=(List.range ws.length).map (grossI T ws)) (fun x hx=>by
  obtain ⟨j,hj,rfl⟩:=List.mem_map.1 hx
  exact gross_nonneg hT h (List.mem_range.1 hj)) (List.mem_map.2 ⟨i,List.mem_range.2 hi,rfl⟩)
 rw [gross_sum h] at h1
 exact h1
theorem sizeI_nonneg (t:Int):0≤sizeI t:=by unfold sizeI;split <;> omega
theorem share_sum {t:Int} {ws:List Int} (h:GoodW ws):((List.range ws.length).map (shareI t ws)).sum=t:=by
 by_cases ht:t<0
 ·have e:(List.range ws.length).map (shareI t ws)=(List.range ws.length).map (fun i=>-(grossI (sizeI t) ws i)):=by
   apply List.map_congr_left
   intro i hi
   rw [share_gross,if_pos ht]
  rw [e,sum_map_neg,show (List.range ws.length).map (fun i=>grossI (sizeI t) ws i)=(List.range ws.length).map (grossI (sizeI t) ws) from rfl,gross_sum h]
  unfold sizeI;rw [if_pos ht];omega
 ·have e:(List.range ws.length).map (shareI t ws)=(List.range ws.length).map (grossI (sizeI t) ws):=by
   apply List.map_congr_left
   intro i hi
   rw [share_gross,if_neg ht]
  rw [e,gross_sum h]
  unfold sizeI;rw [if_neg ht]
theorem share_bd {t:Int} {ws:List Int} (h:GoodW ws) {i:Nat} (hi:i<ws.length):(0≤t→0≤shareI t ws i∧shareI t ws i≤t)∧(t≤0→t≤shareI t ws i∧shareI t ws i≤0):=by
 have h1:=gross_nonneg (sizeI_nonneg t) h hi
 have h2:=gross_le (sizeI_nonneg t) h hi
 rw [share_gross]
 unfold sizeI at *
 by_cases ht:t<0
 ·rw [if_pos ht] at *
  rw [if_pos ht]
  constructor <;> intro <;> omega
 ·rw [if_neg ht] at *
  rw [if_neg ht]
  constructor <;> intro <;> omega
end Go.Proofs.YtjdjfpkjikdkoaaGreatDoor
namespace Go.Proofs.YtjdjfpkjikdkoaaGreatDoor.Math
structure DivSt (u u1 y1 y0 q r:Nat):Prop where
 eq:u=q*y1+r
 ge:(u*4294967296+u1) / (y1*4294967296+y0)≤q
theorem div_start (u u1 y1 y0:Nat) (h1:0<y1) (hu1:u1<4294967296):DivSt u u1 y1 y0 (u / y1) (u % y1):=by
 refine ⟨?_,?_⟩
 ·have:=Nat.div_add_mod u y1
  rw [Nat.mul_comm] at this;omega
 ·have hy:0<y1*4294967296+y0:=by omega
  rw [Nat.div_le_iff_le_mul_add_pred hy]
  have e:=Nat.div_add_mod u y1
  have l:=Nat.mod_lt u h1
  generalize u / y1=q at *
  generalize u % y1=r at *
  have e2:(y1*4294967296+y0)*q=y1*q*4294967296+y0*q:=by
   rw [Nat.add_mul,Nat.mul_right_comm]
  rw [e2]
  generalize y1*q=t at *
  generalize y0*q=t0 at *
  omega
theorem quo_lt (u u1 y:Nat) (hu:u<y) (hu1:u1<4294967296):(u*4294967296+u1) / y<4294967296:=by
 rw [Nat.div_lt_iff_lt_mul (by omega)]
 omega
theorem div_round (u u1 y1 y0 q r:Nat) (h:DivSt u u1 y1 y0 q r) (hu:u<y1*4294967296+y0) (hu1:u1<4294967296)
  (hc:4294967296≤q∨r*4294967296+u1<q*y0):1≤q∧DivSt u u1 y1 y0 (q - 1) (r+y1):=by
 have hq:(u*4294967296+u1) / (y1*4294967296+y0)<q:=by
  rcases hc with hc | hc
  ·exact Nat.lt_of_lt_of_le (quo_lt u u1 _ hu hu1) hc
  ·rw [Nat.div_lt_iff_lt_mul (by omega)]
   have e:=h.eq
   have e2:q*(y1*4294967296+y0)=q*y1*4294967296+q*y0:=by
    rw [Nat.mul_add,Nat.mul_assoc]
   rw [e2,e,Nat.add_mul,Nat.add_assoc]
   exact Nat.add_lt_add_left hc _
 have h1:1≤q:=Nat.lt_of_le_of_lt (Nat.zero_le _) hq
 refine ⟨h1,?_,Nat.le_sub_one_of_lt hq⟩
 have e:=h.eq
 obtain ⟨p,rfl⟩:∃ p,q=p+1:=⟨q - 1,by omega⟩
 simp only [Nat.add_sub_cancel]
 rw [Nat.add_mul] at e
 omega
theorem div_stop (u u1 y1 y0 q r:Nat) (h:DivSt u u1 y1 y0 q r) (hu:u<y1*4294967296+y0)
  (hc:q*y0≤r*4294967296+u1):q=(u*4294967296+u1) / (y1*4294967296+y0):=by
 refine Nat.le_antisymm ?_ h.ge
 rw [Nat.le_div_iff_mul_le (by omega)]
 have e:=h.eq
 have e2:q*(y1*4294967296+y0)=q*y1*4294967296+q*y0:=by
  rw [Nat.mul_add,Nat.mul_assoc]
 rw [e2]
 generalize q*y1=t at *
 generalize q*y0=t0 at *
 omega
theorem div_break (u u1 y1 y0 q r:Nat) (h:DivSt u u1 y1 y0 q r) (hu:u<y1*4294967296+y0) (h0:y0<4294967296)
  (hr:4294967296≤r):q=(u*4294967296+u1) / (y1*4294967296+y0):=by
 have hq:q<4294967296:=by
  apply Classical.byContradiction
  intro hn
  have hn:4294967296≤q:=by omega
  have e:=h.eq
  have:=Nat.mul_le_mul_right y1 hn
  generalize q*y1=t at *
  omega
 refine div_stop u u1 y1 y0 q r h hu ?_
 have:=Nat.mul_le_mul (Nat.le_of_lt hq) (Nat.le_of_lt h0)
 omega
theorem shift_split (lo P Q:Nat) (hPQ:P*Q=18446744073709551616):lo / Q*18446744073709551616+lo*P % 18446744073709551616=lo*P:=by
 have hP:0<P:=by
  rcases Nat.eq_zero_or_pos P with h | h
  ·rw [h,Nat.zero_mul] at hPQ;omega
  ·exact h
 have e:lo*P / 18446744073709551616=lo / Q:=by
  rw [← hPQ,Nat.mul_comm P Q,Nat.mul_div_mul_right _ _ hP]
 have:=Nat.div_add_mod (lo*P) 18446744073709551616
 rw [e] at this
 omega
theorem two_steps (U32 un1 un0 Y:Nat) (hY:0<Y) :
  (U32*18446744073709551616+(un1*4294967296+un0)) / Y=(U32*4294967296+un1) / Y*4294967296+((U32*4294967296+un1) % Y*4294967296+un0) / Y ∧
  (U32*18446744073709551616+(un1*4294967296+un0)) % Y=((U32*4294967296+un1) % Y*4294967296+un0) % Y:=by
 have e:U32*18446744073709551616+(un1*4294967296+un0)=((U32*4294967296+un1) % Y*4294967296+un0)+Y*((U32*4294967296+un1) / Y*4294967296):=by
  have h:=Nat.div_add_mod (U32*4294967296+un1) Y
  rw [← Nat.mul_assoc]
  generalize Y*((U32*4294967296+un1) / Y)=t at *
  generalize (U32*4294967296+un1) % Y=r at *
  omega
 rw [e,Nat.add_mul_div_left _ _ hY,Nat.add_mul_mod_self_left]
 exact ⟨Nat.add_comm _ _,rfl⟩
theorem div64_math (hi lo y P Q:Nat) (hPQ:P*Q=18446744073709551616) (hy:0<y) :
  let U:=hi*P+lo / Q
  let V:=lo*P % 18446744073709551616
  let Y:=y*P
  (U*4294967296+V / 4294967296) / Y*4294967296+((U*4294967296+V / 4294967296) % Y*4294967296+V % 4294967296) / Y=(hi*18446744073709551616+lo) / y ∧
  ((U*4294967296+V / 4294967296) % Y*4294967296+V % 4294967296) % Y / P=(hi*18446744073709551616+lo) % y:=by
 intro U V Y
 have hP:0<P:=by
  rcases Nat.eq_zero_or_pos P with h | h
  ·rw [h,Nat.zero_mul] at hPQ;omega
  ·exact h
 have hY:0<Y:=Nat.mul_pos hy hP
 have h2:=two_steps U (V / 4294967296) (V % 4294967296) Y hY
 have e:U*18446744073709551616+(V / 4294967296*4294967296+V % 4294967296)=(hi*18446744073709551616+lo)*P:=by
  have h1:=shift_split lo P Q hPQ
  have h3:V / 4294967296*4294967296+V % 4294967296=V:=Nat.div_add_mod' _ _
  rw [h3]
  show (hi*P+lo / Q)*18446744073709551616+lo*P % 18446744073709551616=_
  rw [Nat.add_mul,Nat.add_mul,Nat.add_assoc,h1,Nat.mul_right_comm]
 rw [e] at h2
 rw [← h2.1,← h2.2]
 refine ⟨Nat.mul_div_mul_right _ _ hP,?_⟩
 rw [Nat.mul_mod_mul_right,Nat.mul_div_cancel _ hP]
def I64 (x:Int):Prop:=-9223372036854775808≤x∧x≤9223372036854775807
def loW (s:Int):Int:=s % 18446744073709551616
def hiW (s:Int):Int:=s / 18446744073709551616 % 18446744073709551616
theorem loW_bd (s:Int):0≤loW s∧loW s<18446744073709551616:=by unfold loW;omega
theorem loW_add (s a:Int):(loW s+loW a) % 18446744073709551616=loW (s+a):=by unfold loW;omega
theorem hiW_add (s a:Int) (h:I64 a):(hiW s+(loW (a / 9223372036854775808)+(loW s+loW a) / 18446744073709551616)) % 18446744073709551616=hiW (s+a):=by
 unfold hiW loW;unfold I64 at h
 have key:(s+a) / 18446744073709551616=s / 18446744073709551616+a / 9223372036854775808+(s % 18446744073709551616+a % 18446744073709551616) / 18446744073709551616:=by
  by_cases h0:a<0
  ·have e1:a / 9223372036854775808 = -1:=by omega
   have e2:a % 18446744073709551616=a+18446744073709551616:=by omega
   rw [e1,e2];omega
  ·have e1:a / 9223372036854775808=0:=by omega
   have e2:a % 18446744073709551616=a:=by omega
   rw [e1,e2];omega
 rw [key]
 generalize (s % 18446744073709551616+a % 18446744073709551616) / 18446744073709551616=c
 generalize s / 18446744073709551616=p
 generalize a / 9223372036854775808=q
 omega
def cW (s a:Int):Int:=(loW s+loW a) / 18446744073709551616
theorem hiW_step (s a:Int) (h:I64 a):(hiW s+(a / 9223372036854775808 % 18446744073709551616+cW s a) % 18446744073709551616) % 18446744073709551616=hiW (s+a):=by
 rw [← hiW_add s a h]
 unfold cW
 generalize (loW s+loW a) / 18446744073709551616=c
 unfold loW
 generalize a / 9223372036854775808=q
 generalize hiW s=p
 omega
theorem sum_fits (s:Int) (h:-170141183460469231731687303715884105728≤s∧s<170141183460469231731687303715884105728) (x:Int)
  (hx:x=if loW s<9223372036854775808 then loW s else loW s - 18446744073709551616) :
  (hiW s=loW (x / 9223372036854775808)↔I64 s)∧(I64 s→x=s):=by
 unfold hiW loW at *;unfold I64
 split at hx <;> omega
def upOf (w r d:Int):Int:=if 2*r > d∨(2*r=d∧w % 2=1) then 1 else 0
def partOf (m n d:Int):Int:=m*n / d+upOf (m*n / d) (m*n % d) d
def absI (a:Int):Int:=if a<0 then -a else a
def ratioV (a n d:Int):Int:=if a<0 then -(partOf (absI a) n d) else partOf (absI a) n d
theorem absI_nonneg (a:Int):0≤absI a:=by unfold absI;split <;> omega
theorem upOf_bd (w r d:Int):0≤upOf w r d∧upOf w r d≤1:=by unfold upOf;split <;> omega
theorem part_nonneg (m n d:Int) (h0:0≤m) (h2:0≤n) (hd:1≤d):0≤partOf m n d:=by
 have a:=Int.mul_nonneg h0 h2
 have c:=Int.ediv_nonneg a (by omega:(0:Int)≤d)
 have u:=upOf_bd (m*n / d) (m*n % d) d
 unfold partOf
 omega
end Go.Proofs.YtjdjfpkjikdkoaaGreatDoor.Math
namespace Go.Proofs.YtjdjfpkjikdkoaaGreatDoor
open Go.RowKit Go.Lib Math
theorem tab_size:Lib.len8tab.size=256:=by kernel_rfl
theorem len_tab (t:Nat) (h:t<Lib.len8tab.size):((Lib.len8tab[t]'h).toNat:Int)=Lib.bitLen t:=by
 have h2:t<256:=by rw [tab_size] at h;exact h
 have e:=Lib.len8_of (t:Int) (by omega) (by omega)
 unfold Lib.len8 at e
 rw [Int.toNat_natCast,getElem?_pos Lib.len8tab t h] at e
 exact e
theorem len_way (x y:Int) (k K:Nat) (hK:K=2 ^ k) (hy:y=x / (K:Int)) (h1:(K:Int)≤x) (h2:x<K*256) (h3:x<18446744073709551616) (h:y.toNat<Lib.len8tab.size) (hk:k≤56) :
  wrap64 (k+wrap64 ((Lib.len8tab[y.toNat]'h).toNat:Int))=(Lib.bitLen x.toNat:Int):=by
 rw [len_tab]
 have h':y.toNat<256:=by rw [tab_size] at h;exact h
 clear h
 have hKp:0<K:=by rw [hK];exact Nat.two_pow_pos k
 obtain ⟨x,rfl⟩:=Int.eq_ofNat_of_zero_le (by omega:0≤x)
 have e:y=((x / K:Nat):Int):=by rw [hy,Int.natCast_ediv]
 have hl:=Lib.bitLen_le8' (y.toNat:Int) (by omega) (by omega)
 rw [Int.toNat_natCast] at hl
 have e3:y.toNat=x / K:=by rw [e,Int.toNat_natCast]
 rw [e3] at hl ⊢
 have h3':x<18446744073709551616:=by omega
 have h1':K≤x:=by omega
 have:=Lib.bitLen_shift k x (by rw [← hK];exact h1') h3'
 rw [← hK] at this
 rw [Int.toNat_natCast,this]
 generalize Lib.bitLen (x / K)=b at *
 clear this e3 e hy h1 h2 h3 h1' h3' hK hKp
 unfold wrap64
 omega
set_option maxHeartbeats 2000000 in
set_option maxRecDepth 100000 in
theorem len64_any (x:Int) (w:World) (h0:1≤x) (h1:x<18446744073709551616) :
  Calls Tryz.prog 167 #[.int .u64 x] w fun e w'=>e=.returned (.int .i64 (Lib.bitLen x.toNat))∧w'=w:=by
 have hs:=tab_size
 go_enter Tryz.func167,Tryz.ntmps167
 go_wp2
 all_goals (go_ret;refine ⟨congrArg Ending.returned (congrArg (Value.int IntKind.i64) ?_),rfl⟩)
 ·exact len_way x _ 56 72057594037927936 (by decide) (by omega) (by omega) (by omega) h1 _ (by omega)
 ·exact len_way x _ 48 281474976710656 (by decide) (by omega) (by omega) (by omega) h1 _ (by omega)
 ·exact len_way x _ 40 1099511627776 (by decide) (by omega) (by omega) (by omega) h1 _ (by omega)
 ·exact len_way x _ 32 4294967296 (by decide) (by omega) (by omega) (by omega) h1 _ (by omega)
 ·exact len_way x _ 24 16777216 (by decide) (by omega) (by omega) (by omega) h1 _ (by omega)
 ·exact len_way x _ 16 65536 (by decide) (by omega) (by omega) (by omega) h1 _ (by omega)
 ·exact len_way x _ 8 256 (by decide) (by omega) (by omega) (by omega) h1 _ (by omega)
 ·have:=len_way x x 0 1 (by decide) (by omega) (by omega) (by omega) h1 (by rw [hs];omega) (by omega)
  simpa using this
theorem lead_any (x:Int) (w:World) (h0:1≤x) (h1:x<18446744073709551616) :
  Calls Tryz.prog 200 #[.int .u64 x] w fun e w'=>e=.returned (.int .i64 (64 - Lib.bitLen x.toNat))∧w'=w:=by
 have hl:=Lib.bitLen_le x.toNat 64 (by omega) (by omega)
 generalize hb:Lib.bitLen x.toNat=b at *
 have Hb:Hid (Lib.bitLen x.toNat=b):=hb
 clear hb
 go_enter Tryz.func200,Tryz.ntmps200
 go_wp2_with fail
 refine (len64_any _ _ h0 h1).mono ?_
 rintro e w' ⟨rfl,hw⟩
 rw [hw,Hb.out];clear hw w'
 go_wp2
 go_ret
 exact ⟨rfl,rfl⟩
end Go.Proofs.YtjdjfpkjikdkoaaGreatDoor
