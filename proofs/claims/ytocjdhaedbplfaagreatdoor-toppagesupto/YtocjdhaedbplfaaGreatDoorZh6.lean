/-
  Part of a proof (see the last text).
-/
import Derived.Test.YtocjdhaedbplfaaGreatDoorZh5
import Derived.MapKept
import Derived.Maps.RangeRun
import Derived.Laws.IdiomRangeMap
import Derived.Laws.NewBlocks
import Derived.Test.YtocjdhaedbplfaaGreatDoorZh0
import Derived.Deep.QuietTactic
import Derived.BigQuiet
import Derived.Test.YtocjdhaedbplfaaGreatDoorZh4
import Derived.Deep.CutBlock
set_option linter.unusedVariables false
set_option linter.unusedSimpArgs false
set_option maxRecDepth 100000
namespace Go.Proofs.YtocjdhaedbplfaaGreatDoor
open Go.RowKit Go.Lib
theorem jln_src {W:World} {b off:Nat} {l:List Ln} (h:LnsAt W b off l):∀ j u,(lnRow l)[j]? = some u→W.cell? ((⟨b,off,none⟩:Addr).add j)=some u:=by
 intro j u hj
 rw [Addr.add_lit]
 obtain ⟨q,r,hr,rfl⟩:∃ q r,r<3∧j=q*3+r:=⟨j / 3,j % 3,Nat.mod_lt _ (by omega),by omega⟩
 have hlt:=(List.getElem?_eq_some_iff.1 hj).1
 rw [lnRow_length] at hlt
 have hq:q<l.length:=by omega
 rw [lnRow_get l q r hq hr] at hj
 have:=h q hq
 rcases (by omega:r=0∨r=1∨r=2) with rfl | rfl | rfl
 ·rw [← hj,Nat.add_zero,this.c0];rfl
 ·rw [← hj,← Nat.add_assoc,this.c1];rfl
 ·rw [← hj,← Nat.add_assoc,this.c2];rfl
end Go.Proofs.YtocjdhaedbplfaaGreatDoor
namespace Go.Proofs.YtocjdhaedbplfaaGreatDoor
open Go.RowKit Go.Lib
def ient:List (Int×Int)→Nat→List MapEntry
 | [],_=>[]
 | x :: S,i=>⟨.int .i64 x.1,.int .i64 x.2,i⟩ :: ient S (i+1)
def sgOf:List (Int×Int)→Int→Int
 | [],_=>0
 | x :: S,p=>if p=x.1 then x.2 else sgOf S p
def sgHas:List (Int×Int)→Int→Bool
 | [],_=>false
 | x :: S,p=>if p=x.1 then true else sgHas S p
def sgPut:List (Int×Int)→Int→Int→List (Int×Int)
 | [],p,v=>[(p,v)]
 | x :: S,p,v=>if p=x.1 then (p,v) :: S else x :: sgPut S p v
theorem sgOf_put:∀ (S:List (Int×Int)) (p v q:Int),sgOf (sgPut S p v) q=if q=p then v else sgOf S q
 | [],p,v,q=>by simp [sgPut,sgOf]
 | x :: S,p,v,q=>by
  unfold sgPut
  by_cases h:p=x.1
  ·rw [if_pos h]
   by_cases h2:q=p
   ·rw [if_pos h2];simp [sgOf,h2]
   ·rw [if_neg h2]
    have h3:¬ q=x.1:=fun e=>h2 (e.trans h.symm)
    simp [sgOf,h2,h3]
  ·rw [if_neg h]
   have ih:=sgOf_put S p v q
   unfold sgOf
   by_cases h2:q=x.1
   ·have h3:¬ q=p:=fun e=>h (e.symm.trans h2)
    rw [if_pos h2,if_neg h3,if_pos h2]
   ·rw [if_neg h2,ih,if_neg h2]
theorem ient_len:∀ (S:List (Int×Int)) (i:Nat),(ient S i).length=S.length
 | [],_=>rfl
 | x :: S,i=>by simp [ient,ient_len S (i+1)]
theorem ient_snoc:∀ (S:List (Int×Int)) (x:Int×Int) (i:Nat),ient (S++[x]) i=ient S i++[⟨.int .i64 x.1,.int .i64 x.2,i+S.length⟩]
 | [],x,i=>rfl
 | y :: S,x,i=>by
  have:=ient_snoc S x (i+1)
  simp only [List.cons_append,ient,this,List.length_cons]
  rw [show i+1+S.length=i+(S.length+1) by omega]
theorem sgPut_new:∀ (S:List (Int×Int)) (p v:Int),sgHas S p=false→sgPut S p v=S++[(p,v)]
 | [],_,_,_=>rfl
 | x :: S,p,v,h=>by
  unfold sgHas at h
  split at h
  ·cases h
  ·rename_i h1
   rw [sgPut,if_neg h1,sgPut_new S p v h];rfl
theorem ient_none:∀ (S:List (Int×Int)) (p:Int) (i j:Nat),sgHas S p=false→Instr.findNow (.int .i64) (.int .i64 p) (ient S i) j=some none
 | [],_,_,_,_=>rfl
 | x :: S,p,i,j,h=>by
  unfold sgHas at h
  split at h
  ·cases h
  ·rename_i h1
   have hne:(p == x.1)=false:=by rw [beq_eq_false_iff_ne];exact h1
   simp only [ient]
   unfold Instr.findNow
   simp only [Instr.sameNow,hne]
   exact ient_none S p (i+1) (j+1) h
theorem ient_some:∀ (S:List (Int×Int)) (p:Int) (i j:Nat),sgHas S p=true→∃ k,k<S.length∧Instr.findNow (.int .i64) (.int .i64 p) (ient S i) j=some (some (j+k,.int .i64 (sgOf S p)))∧(ient S i)[k]? = some ⟨.int .i64 p,.int .i64 (sgOf S p),i+k⟩∧∀ v,ient (sgPut S p v) i=(ient S i).set k ⟨.int .i64 p,.int .i64 v,i+k⟩
 | [],_,_,_,h=>by cases h
 | x :: S,p,i,j,h=>by
  unfold sgHas at h
  by_cases h1:p=x.1
  ·refine ⟨0,by simp,?_,?_,fun v=>?_⟩
   ·simp only [ient]
    unfold Instr.findNow
    simp [Instr.sameNow,h1,sgOf]
   ·simp [ient,sgOf,h1]
   ·simp [sgPut,h1,ient]
  ·rw [if_neg h1] at h
   obtain ⟨k,k1,k2,k3,k4⟩:=ient_some S p (i+1) (j+1) h
   have hne:(p == x.1)=false:=by rw [beq_eq_false_iff_ne];exact h1
   refine ⟨k+1,by simp;exact k1,?_,?_,fun v=>?_⟩
   ·simp only [ient]
    unfold Instr.findNow
    simp only [Instr.sameNow,hne]
    rw [k2,sgOf,if_neg h1,show j+1+k=j+(k+1) by omega]
    simp
   ·simp only [ient,List.getElem?_cons_succ,k3,sgOf,if_neg h1]
    rw [show i+1+k=i+(k+1) by omega]
   ·simp only [sgPut,if_neg h1,ient,List.set_cons_succ,k4 v]
    rw [show i+1+k=i+(k+1) by omega]
theorem ient_get:∀ (S:List (Int×Int)) (i k:Nat),k<S.length→(ient S i)[k]? = some ⟨.int .i64 (S.getD k (0,0)).1,.int .i64 (S.getD k (0,0)).2,i+k⟩
 | [],_,_,h=>by simp at h
 | x :: S,i,0,_=>by simp [ient]
 | x :: S,i,k+1,h=>by
  have:=ient_get S (i+1) k (by simpa using h)
  simp only [ient,List.getElem?_cons_succ,this,List.getD_cons_succ]
  rw [show i+1+k=i+(k+1) by omega]
theorem ient_mem {S:List (Int×Int)} {e:MapEntry} (h:e∈ient S 0):∃ k,k<S.length∧e=⟨.int .i64 (S.getD k (0,0)).1,.int .i64 (S.getD k (0,0)).2,k⟩:=by
 obtain ⟨k,hk,e1⟩:=List.getElem_of_mem h
 rw [ient_len] at hk
 have h2:=ient_get S 0 k hk
 rw [List.getElem?_eq_getElem (by rw [ient_len];exact hk),e1] at h2
 exact ⟨k,hk,by simpa using h2⟩
theorem ient_born:∀ (S:List (Int×Int)) (i:Nat),(ient S i).map (·.born)=List.range' i S.length
 | [],_=>rfl
 | x :: S,i=>by simp [ient,ient_born S (i+1),List.range'_succ]
def IMap (W:World) (mb:Nat) (S:List (Int×Int)):Prop:=W.heap[mb]? = some (.map (ient S 0).toArray S.length)
theorem imap_zero (w:World):(zeroValue 3).run Tryz.prog w=.ok (.int .i64 0) w:=by kernel_rfl
theorem ikey_ok (w:World) (x:Int) (b:Bool):(Instr.checkKey b 10000 3 (.int .i64 x)).run Tryz.prog w=.ok () w:=
 MapKept.run_checkKey (k:=.int .i64 x) Tryz.underlying3 (by simp [MapKept.IsKey]) b 9999
theorem sgHas_of:∀ (S:List (Int×Int)) (p:Int),sgHas S p=false→sgOf S p=0
 | [],_,_=>rfl
 | x :: S,p,h=>by
  unfold sgHas at h
  split at h
  ·cases h
  ·rename_i h1
   rw [sgOf,if_neg h1];exact sgHas_of S p h
theorem run_ilook {W:World} {mb:Nat} {S:List (Int×Int)} (h:IMap W mb S) (p:Int):(Instr.lookup 118 (.map (some mb)) (.int .i64 p) false).run Tryz.prog W=.ok (.int .i64 (sgOf S p)) W:=by
 cases hq:sgHas S p with
 | false=>
  have f:=ient_none S p 0 0 hq
  rw [sgHas_of S p hq]
  simp [Instr.lookup,run_underlying Tryz.underlying118,MapKept.run_getObj_map h,ikey_ok,MapKept.run_findKey Tryz.underlying3 f,imap_zero,Result.andThen]
 | true=>
  obtain ⟨k,k1,k2,k3,k4⟩:=ient_some S p 0 0 hq
  simp [Instr.lookup,run_underlying Tryz.underlying118,MapKept.run_getObj_map h,ikey_ok,MapKept.run_findKey Tryz.underlying3 k2,Result.andThen]
theorem run_iset {W:World} {mb:Nat} {es:Array MapEntry} {c:Nat} (h:W.heap[mb]? = some (.map es c)) {k b:Nat} {p v:Int} {x y:Value} (f:Instr.findNow (.int .i64) (.int .i64 p) es.toList 0=some (some (k,x))) (he:es[k]? = some ⟨.int .i64 p,y,b⟩) :
  (Instr.mapUpdate 118 (.map (some mb)) (.int .i64 p) (.int .i64 v)).run Tryz.prog W=.ok () { W with heap:=W.heap.setIfInBounds mb (.map (es.modify k fun e=>{ e with key:=.int .i64 p,val:=.int .i64 v }) c) }:=by
 simp [Instr.mapUpdate,run_underlying Tryz.underlying118,MapKept.run_getObj_map h,ikey_ok,MapKept.run_findKey Tryz.underlying3 f,MapKept.run_setObj_map _ h,Result.andThen,Instr.keyThatStays,he,Instr.sameBits]
theorem run_iput {W:World} {mb:Nat} {S:List (Int×Int)} (h:IMap W mb S) (p v:Int) :
  ∃ W',(Instr.mapUpdate 118 (.map (some mb)) (.int .i64 p) (.int .i64 v)).run Tryz.prog W=.ok () W'∧IMap W' mb (sgPut S p v)∧W'.os=W.os∧W'.tape=W.tape∧W'.output=W.output∧W'.heap.size=W.heap.size∧∀ b,b≠mb→W'.heap[b]? = W.heap[b]?:=by
 have hlt:mb<W.heap.size:=(Array.getElem?_eq_some_iff.1 h).1
 cases hq:sgHas S p with
 | false=>
  have f:=ient_none S p 0 0 hq
  refine ⟨{ W with heap:=W.heap.setIfInBounds mb (.map ((ient S 0).toArray.push ⟨.int .i64 p,.int .i64 v,S.length⟩) (S.length+1)) },?_,?_,rfl,rfl,rfl,by simp,fun b hb=>Array.getElem?_setIfInBounds_ne (fun e=>hb e.symm)⟩
  ·simp [Instr.mapUpdate,run_underlying Tryz.underlying118,MapKept.run_getObj_map h,ikey_ok,MapKept.run_findKey Tryz.underlying3 f,MapKept.run_setObj_map _ h,Result.andThen]
  ·unfold IMap
   rw [sgPut_new S p v hq,ient_snoc]
   simp [hlt]
 | true=>
  obtain ⟨k,k1,k2,k3,k4⟩:=ient_some S p 0 0 hq
  have hj:k<(ient S 0).toArray.size:=by simp [ient_len];exact k1
  have he:(ient S 0).toArray[k]? = some ⟨.int .i64 p,.int .i64 (sgOf S p),k⟩:=by simpa using k3
  have hmod:((ient S 0).toArray.modify k fun e=>{ e with key:=.int .i64 p,val:=.int .i64 v })=(ient (sgPut S p v) 0).toArray:=by
   apply Array.ext'
   rw [k4 v]
   apply List.ext_getElem?
   intro i
   rw [Array.getElem?_toList,Array.getElem?_modify,List.getElem?_set]
   by_cases hi:k=i
   ·subst hi
    have e':(ient S 0).toArray[k]=⟨.int .i64 p,.int .i64 (sgOf S p),k⟩:=(Array.getElem?_eq_some_iff.1 he).2
    have e2:(ient S 0)[k]'(by simpa using hj)=⟨.int .i64 p,.int .i64 (sgOf S p),k⟩:=by simpa using e'
    simp [k3,e2,ient_len,k1]
   ·simp [hi]
  have hl:(sgPut S p v).length=S.length:=by
   have:=congrArg List.length (k4 v)
   rw [List.length_set,ient_len,ient_len] at this
   exact this
  refine ⟨{ W with heap:=W.heap.setIfInBounds mb (.map ((ient S 0).toArray.modify k fun e=>{ e with key:=.int .i64 p,val:=.int .i64 v }) S.length) },?_,?_,rfl,rfl,rfl,by simp,fun b hb=>Array.getElem?_setIfInBounds_ne (fun e=>hb e.symm)⟩
  ·have k2':Instr.findNow (.int .i64) (.int .i64 p) (ient S 0) 0=some (some (k,.int .i64 (sgOf S p))):=by rw [k2,Nat.zero_add]
   exact run_iset h (by simpa using k2') he
  ·unfold IMap
   rw [hmod,hl]
   simp [hlt]
end Go.Proofs.YtocjdhaedbplfaaGreatDoor
namespace Go.Proofs.YtocjdhaedbplfaaGreatDoor
open Go.RowKit Go.Lib
structure Ep where
 ref:ByteArray
 ent:Int
 per:Int
 lns:List Ln
def Je.ep (x:Je):Ep:=⟨x.ref,x.ent,x.per,x.lns⟩
structure Made (W:World) (n0:Nat) (v:Value) (L:List Je):Prop where
 row:JeRow W n0 v L
 lns:∀ x∈L,LnRow W n0 (.slice x.adr x.lns.length x.cap) x.lns
theorem Made.nil (W:World) (n0:Nat):Made W n0 (.slice none 0 0) []:=⟨JeRow.nil W n0,by simp⟩
theorem Made.below {W W':World} {n0:Nat} {v:Value} {L:List Je} (h:Made W n0 v L) (hb:Below W.heap.size W W'):Made W' n0 v L:=⟨h.row.below hb,fun x hx=>(h.lns x hx).below hb⟩
theorem Made.isJs {W:World} {n0:Nat} {v:Value} {L:List Je} (h:Made W n0 v L):∃ a cap,v=.slice a L.length cap∧IsJs W a L cap:=by
 obtain ⟨a,cap,e,h1,h2⟩:=h.row.lies
 refine ⟨a,cap,e,h1,h2,fun x hx=>?_⟩
 obtain ⟨a',c',e',h'⟩:=(h.lns x hx).isLn
 cases e'
 exact h'
theorem made_typ {w:World} {n:Nat} {v:Value} {xs:List Je} (h:JeRow w n v xs):∀ j,v.ownBlock=some j→∃ cs,w.heap[j]? = some (.cells cs 59 (0,0)):=fun j ej=>by
 rcases h.2 with ⟨rfl,_⟩ | ⟨g,cp,cur,rfl,hg,hh,_⟩
 ·cases ej
 ·cases ej;exact ⟨cur,hh⟩
theorem Made.add {W W1:World} {n0:Nat} {v v':Value} {L:List Je} {x:Je} (h:Made W n0 v L) (hx:LnRow W n0 (.slice x.adr x.lns.length x.cap) x.lns) (ho:W1.ownsRow n0 59 4 v' (L.length+1) (jeRow L++x.cells.toList)) (hg:W.grownBy W1 v.ownBlock):Made W1 n0 v' (L++[x]):=by
 have keep:∀ y:Je,LnRow W n0 (.slice y.adr y.lns.length y.cap) y.lns→LnRow W1 n0 (.slice y.adr y.lns.length y.cap) y.lns:=fun y hy=>by
  rcases hy.2 with ⟨hv,hn⟩ | ⟨g1,c1,cur,hv,hb1,hh,r⟩
  ·exact ⟨hy.1,.inl ⟨hv,hn⟩⟩
  ·refine ⟨hy.1,.inr ⟨g1,c1,cur,hv,hb1,(hg.block g1 (Array.getElem?_eq_some_iff.1 hh).1 fun e=>?_).trans hh,r⟩⟩
   obtain ⟨cs,h2⟩:=made_typ h.row g1 e.symm
   rw [hh] at h2
   cases h2
 refine ⟨?_,fun y hy=>?_⟩
 ·unfold JeRow
  rw [jeRow_append,jeRow_one,List.length_append]
  exact ho
 ·rcases List.mem_append.1 hy with hy | hy
  ·exact keep y (h.lns y hy)
  ·rw [List.mem_singleton] at hy
   subst hy
   exact keep _ hx
end Go.Proofs.YtocjdhaedbplfaaGreatDoor
namespace Go.Proofs.YtocjdhaedbplfaaGreatDoor
open Go.RowKit Go.Lib
structure Pn where
 ref:ByteArray
 ent:Int
 src:ByteArray
 dst:ByteArray
 cur:ByteArray
 amt:Int
 fst:Int
 per:Int
def pn0:Pn:=⟨ByteArray.empty,0,ByteArray.empty,ByteArray.empty,ByteArray.empty,0,0,0⟩
structure PnAt (w:World) (b off:Nat) (p:Pn):Prop where
 c0:w.cell? ⟨b,off,none⟩=some (.string p.ref)
 c1:w.cell? ⟨b,off+1,none⟩=some (.int .i64 p.ent)
 c2:w.cell? ⟨b,off+2,none⟩=some (.string p.src)
 c3:w.cell? ⟨b,off+3,none⟩=some (.string p.dst)
 c4:w.cell? ⟨b,off+4,none⟩=some (.string p.cur)
 c5:w.cell? ⟨b,off+5,none⟩=some (.int .i64 p.amt)
 c6:w.cell? ⟨b,off+6,none⟩=some (.int .i64 p.fst)
 c7:w.cell? ⟨b,off+7,none⟩=some (.int .i64 p.per)
structure IsPn (w:World) (a:Option Addr) (l:List Pn) (cap:Nat):Prop where
 cap:l.length≤cap
 lies:l=[]∨∃ b off,a=some ⟨b,off,none⟩∧b<w.heap.size∧∀ k,k<l.length→PnAt w b (off+k*8) (l.getD k pn0)
def spreadB (am fs pr:Int):Bool:=decide (am≠0) && (isAmtB am && (upTo pr 120 && upTo fs 120))
theorem spreadB_iff {am fs pr:Int}:spreadB am fs pr=true↔am≠0∧(-mostA≤am∧am≤mostA)∧(1≤pr∧pr≤120)∧(1≤fs∧fs≤120):=by
 simp only [spreadB,Bool.and_eq_true,decide_eq_true_eq,isAmtB_iff,upTo_iff]
def partN (am fs pr pe:Int):Int:=if pe - fs<0∨pr≤pe - fs then 0 else (am*(pe - fs+1)).tdiv pr - (am*(pe - fs)).tdiv pr
end Go.Proofs.YtocjdhaedbplfaaGreatDoor
namespace Go.Proofs.YtocjdhaedbplfaaGreatDoor
open Go.RowKit Go.Lib
def badP (r:Nat):Bool:=(decide (r<97) || decide (122<r)) && (decide (r<48) || decide (57<r))
def isPRef (s:ByteArray):Bool:=decide (s.size≠0) && (decide (s.size≤8) && decide (signFrom badP s s.size 0<0))
def hasPR (r:ByteArray) (p:Pn):Bool:=decide (p.ref=r)
def refBad (ah:List Pn) (r:ByteArray):Int:=if isPRef r=false then 2 else if ah.any (hasPR r)=true then 8 else 0
end Go.Proofs.YtocjdhaedbplfaaGreatDoor
