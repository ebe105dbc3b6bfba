/-
  Part of a proof (see the last text).
-/
import Derived.Test.YtjifbbdkpanagaaGreatDoorZd5
import Derived.Deep.CutBlock
set_option linter.unusedVariables false
set_option linter.unusedSimpArgs false
set_option maxRecDepth 100000
namespace Go.Proofs.YtjifbbdkpanagaaGreatDoor
section
open Go.RowKit Go.Lib Go.Proofs.Tryz
theorem jln_src {W:World} {b off:Nat} {l:List Ln} (h:Qgv W b off l):∀ j u,(Qas l)[j]? = some u→W.cell? ((⟨b,off,none⟩:Addr).add j)=some u:=by
 intro j u hj;rw [Addr.add_lit];obtain ⟨q,r,hr,rfl⟩:∃ q r,r<3∧j=q*3+r:=⟨j / 3,j % 3,Nat.mod_lt _ (by omega),by omega⟩
 have hlt:=(List.getElem?_eq_some_iff.1 hj).1;rw [Qak] at hlt;have hq:q<l.length:=by omega
 rw [QcX l q r hq hr] at hj
 have:=h q hq
 rcases (by omega:r=0∨r=1∨r=2) with rfl | rfl | rfl
 ·rw [← hj,Nat.add_zero,this.c0];rfl
 ·rw [← hj,← Nat.add_assoc,this.c1];rfl
 ·rw [← hj,← Nat.add_assoc,this.c2];rfl
end
section
open Go.RowKit Go.Lib Go.Proofs.Tryz
def Qc6:List (Int×Int)→Nat→List MapEntry
 | [],_=>[]
 | x :: S,i=>⟨.int .i64 x.1,.int .i64 x.2,i⟩ :: Qc6 S (i+1)
def Qa2:List (Int×Int)→Int→Int
 | [],_=>0
 | x :: S,p=>if p=x.1 then x.2 else Qa2 S p
def Qhe:List (Int×Int)→Int→Bool
 | [],_=>false
 | x :: S,p=>if p=x.1 then true else Qhe S p
def Qcz:List (Int×Int)→Int→Int→List (Int×Int)
 | [],p,v=>[(p,v)]
 | x :: S,p,v=>if p=x.1 then (p,v) :: S else x :: Qcz S p v
theorem QgP:∀ (S:List (Int×Int)) (p v q:Int),Qa2 (Qcz S p v) q=if q=p then v else Qa2 S q
 | [],p,v,q=>by simp [Qcz,Qa2]
 | x :: S,p,v,q=>by
  unfold Qcz;by_cases h:p=x.1
  ·rw [if_pos h];by_cases h2:q=p
   ·rw [if_pos h2];simp [Qa2,h2]
   ·rw [if_neg h2];have h3:¬ q=x.1:=fun e=>h2 (e.trans h.symm)
    simp [Qa2,h2,h3]
  ·rw [if_neg h];have ih:=QgP S p v q;unfold Qa2;by_cases h2:q=x.1
   ·have h3:¬ q=p:=fun e=>h (e.symm.trans h2)
    rw [if_pos h2,if_neg h3,if_pos h2]
   ·rw [if_neg h2,ih,if_neg h2]
theorem Qdi:∀ (S:List (Int×Int)) (i:Nat),(Qc6 S i).length=S.length
 | [],_=>rfl
 | x :: S,i=>by simp [Qc6,Qdi S (i+1)]
theorem ient_snoc:∀ (S:List (Int×Int)) (x:Int×Int) (i:Nat),Qc6 (S++[x]) i=Qc6 S i++[⟨.int .i64 x.1,.int .i64 x.2,i+S.length⟩]
 | [],x,i=>rfl
 | y :: S,x,i=>by
  have:=ient_snoc S x (i+1)
  simp only [List.cons_append,Qc6,this,List.length_cons];rw [show i+1+S.length=i+(S.length+1) by omega]
theorem sgPut_new:∀ (S:List (Int×Int)) (p v:Int),Qhe S p=false→Qcz S p v=S++[(p,v)]
 | [],_,_,_=>rfl
 | x :: S,p,v,h=>by
  unfold Qhe at h;split at h
  ·cases h
  ·rename_i h1;rw [Qcz,if_neg h1,sgPut_new S p v h];rfl
theorem QhZ:∀ (S:List (Int×Int)) (p:Int) (i j:Nat),Qhe S p=false→Instr.findNow (.int .i64) (.int .i64 p) (Qc6 S i) j=some none
 | [],_,_,_,_=>rfl
 | x :: S,p,i,j,h=>by
  unfold Qhe at h;split at h
  ·cases h
  ·rename_i h1;have hne:(p == x.1)=false:=by rw [beq_eq_false_iff_ne];exact h1
   simp only [Qc6];unfold Instr.findNow;simp only [Instr.sameNow,hne];exact QhZ S p (i+1) (j+1) h
theorem Qhq:∀ (S:List (Int×Int)) (p:Int) (i j:Nat),Qhe S p=true→∃ k,k<S.length∧Instr.findNow (.int .i64) (.int .i64 p) (Qc6 S i) j=some (some (j+k,.int .i64 (Qa2 S p)))∧(Qc6 S i)[k]? = some ⟨.int .i64 p,.int .i64 (Qa2 S p),i+k⟩∧∀ v,Qc6 (Qcz S p v) i=(Qc6 S i).set k ⟨.int .i64 p,.int .i64 v,i+k⟩
 | [],_,_,_,h=>by cases h
 | x :: S,p,i,j,h=>by
  unfold Qhe at h;by_cases h1:p=x.1
  ·refine ⟨0,by simp,?_,?_,fun v=>?_⟩
   ·simp only [Qc6];unfold Instr.findNow;simp [Instr.sameNow,h1,Qa2]
   ·simp [Qc6,Qa2,h1]
   ·simp [Qcz,h1,Qc6]
  ·rw [if_neg h1] at h;obtain ⟨k,k1,k2,k3,k4⟩:=Qhq S p (i+1) (j+1) h;have hne:(p == x.1)=false:=by rw [beq_eq_false_iff_ne];exact h1
   refine ⟨k+1,by simp;exact k1,?_,?_,fun v=>?_⟩
   ·simp only [Qc6];unfold Instr.findNow;simp only [Instr.sameNow,hne];rw [k2,Qa2,if_neg h1,show j+1+k=j+(k+1) by omega]
    simp
   ·simp only [Qc6,List.getElem?_cons_succ,k3,Qa2,if_neg h1];rw [show i+1+k=i+(k+1) by omega]
   ·simp only [Qcz,if_neg h1,Qc6,List.set_cons_succ,k4 v];rw [show i+1+k=i+(k+1) by omega]
theorem ient_get:∀ (S:List (Int×Int)) (i k:Nat),k<S.length→(Qc6 S i)[k]? = some ⟨.int .i64 (S.getD k (0,0)).1,.int .i64 (S.getD k (0,0)).2,i+k⟩
 | [],_,_,h=>by simp at h
 | x :: S,i,0,_=>by simp [Qc6]
 | x :: S,i,k+1,h=>by
  have:=ient_get S (i+1) k (by simpa using h)
  simp only [Qc6,List.getElem?_cons_succ,this,List.getD_cons_succ];rw [show i+1+k=i+(k+1) by omega]
theorem ient_mem {S:List (Int×Int)} {e:MapEntry} (h:e∈Qc6 S 0):∃ k,k<S.length∧e=⟨.int .i64 (S.getD k (0,0)).1,.int .i64 (S.getD k (0,0)).2,k⟩:=by
 obtain ⟨k,hk,e1⟩:=List.getElem_of_mem h;rw [Qdi] at hk;have h2:=ient_get S 0 k hk;rw [List.getElem?_eq_getElem (by rw [Qdi];exact hk),e1] at h2
 exact ⟨k,hk,by simpa using h2⟩
theorem ient_born:∀ (S:List (Int×Int)) (i:Nat),(Qc6 S i).map (·.born)=List.range' i S.length
 | [],_=>rfl
 | x :: S,i=>by simp [Qc6,ient_born S (i+1),List.range'_succ]
def IMap (W:World) (mb:Nat) (S:List (Int×Int)):Prop:=W.heap[mb]? = some (.map (Qc6 S 0).toArray S.length)
theorem imap_zero (w:World):(zeroValue 3).run prog w=.ok (.int .i64 0) w:=by kernel_rfl
theorem ikey_ok (w:World) (x:Int) (b:Bool):(Instr.checkKey b 10000 3 (.int .i64 x)).run prog w=.ok () w:=
 MapKept.run_checkKey (k:=.int .i64 x) underlying3 (by simp [MapKept.IsKey]) b 9999
theorem sgHas_of:∀ (S:List (Int×Int)) (p:Int),Qhe S p=false→Qa2 S p=0
 | [],_,_=>rfl
 | x :: S,p,h=>by
  unfold Qhe at h;split at h
  ·cases h
  ·rename_i h1;rw [Qa2,if_neg h1];exact sgHas_of S p h
theorem run_ilook {W:World} {mb:Nat} {S:List (Int×Int)} (h:IMap W mb S) (p:Int):(Instr.lookup 118 (.map (some mb)) (.int .i64 p) false).run prog W=.ok (.int .i64 (Qa2 S p)) W:=by
 cases hq:Qhe S p with
 | false=>
  have f:=QhZ S p 0 0 hq;rw [sgHas_of S p hq];simp [Instr.lookup,run_underlying underlying118,MapKept.run_getObj_map h,ikey_ok,MapKept.run_findKey underlying3 f,imap_zero,Result.andThen]
 | true=>
  obtain ⟨k,k1,k2,k3,k4⟩:=Qhq S p 0 0 hq;simp [Instr.lookup,run_underlying underlying118,MapKept.run_getObj_map h,ikey_ok,MapKept.run_findKey underlying3 k2,Result.andThen]
theorem run_iset {W:World} {mb:Nat} {es:Array MapEntry} {c:Nat} (h:W.heap[mb]? = some (.map es c)) {k b:Nat} {p v:Int} {x y:Value} (f:Instr.findNow (.int .i64) (.int .i64 p) es.toList 0=some (some (k,x))) (he:es[k]? = some ⟨.int .i64 p,y,b⟩) :
  (Instr.mapUpdate 118 (.map (some mb)) (.int .i64 p) (.int .i64 v)).run prog W=.ok () { W with heap:=W.heap.setIfInBounds mb (.map (es.modify k fun e=>{ e with key:=.int .i64 p,val:=.int .i64 v }) c) }:=by
 simp [Instr.mapUpdate,run_underlying underlying118,MapKept.run_getObj_map h,ikey_ok,MapKept.run_findKey underlying3 f,MapKept.run_setObj_map _ h,Result.andThen,Instr.keyThatStays,he,Instr.sameBits]
theorem run_iput {W:World} {mb:Nat} {S:List (Int×Int)} (h:IMap W mb S) (p v:Int) :
  ∃ W',(Instr.mapUpdate 118 (.map (some mb)) (.int .i64 p) (.int .i64 v)).run prog W=.ok () W'∧IMap W' mb (Qcz S p v)∧W'.os=W.os∧W'.tape=W.tape∧W'.output=W.output∧W'.heap.size=W.heap.size∧∀ b,b≠mb→W'.heap[b]? = W.heap[b]?:=by
 have hlt:mb<W.heap.size:=(Array.getElem?_eq_some_iff.1 h).1
 cases hq:Qhe S p with
 | false=>
  have f:=QhZ S p 0 0 hq;refine ⟨{ W with heap:=W.heap.setIfInBounds mb (.map ((Qc6 S 0).toArray.push ⟨.int .i64 p,.int .i64 v,S.length⟩) (S.length+1)) },?_,?_,rfl,rfl,rfl,by simp,fun b hb=>Array.getElem?_setIfInBounds_ne (fun e=>hb e.symm)⟩
  ·simp [Instr.mapUpdate,run_underlying underlying118,MapKept.run_getObj_map h,ikey_ok,MapKept.run_findKey underlying3 f,MapKept.run_setObj_map _ h,Result.andThen]
  ·unfold IMap;rw [sgPut_new S p v hq,ient_snoc];simp [hlt]
 | true=>
  obtain ⟨k,k1,k2,k3,k4⟩:=Qhq S p 0 0 hq;have hj:k<(Qc6 S 0).toArray.size:=by simp [Qdi];exact k1
  have he:(Qc6 S 0).toArray[k]? = some ⟨.int .i64 p,.int .i64 (Qa2 S p),k⟩:=by simpa using k3
  have hmod:((Qc6 S 0).toArray.modify k fun e=>{ e with key:=.int .i64 p,val:=.int .i64 v })=(Qc6 (Qcz S p v) 0).toArray:=by
   apply Array.ext';rw [k4 v];apply List.ext_getElem?;intro i;rw [Array.getElem?_toList,Array.getElem?_modify,List.getElem?_set];by_cases hi:k=i
   ·subst hi;have e':(Qc6 S 0).toArray[k]=⟨.int .i64 p,.int .i64 (Qa2 S p),k⟩:=(Array.getElem?_eq_some_iff.1 he).2;have e2:(Qc6 S 0)[k]'(by simpa using hj)=⟨.int .i64 p,.int .i64 (Qa2 S p),k⟩:=by simpa using e'
    simp [k3,e2,Qdi,k1]
   ·simp [hi]
  have hl:(Qcz S p v).length=S.length:=by
   have:=congrArg List.length (k4 v)
   rw [List.length_set,Qdi,Qdi] at this;exact this
  refine ⟨{ W with heap:=W.heap.setIfInBounds mb (.map ((Qc6 S 0).toArray.modify k fun e=>{ e with key:=.int .i64 p,val:=.int .i64 v }) S.length) },?_,?_,rfl,rfl,rfl,by simp,fun b hb=>Array.getElem?_setIfInBounds_ne (fun e=>hb e.symm)⟩
  ·have k2':Instr.findNow (.int .i64) (.int .i64 p) (Qc6 S 0) 0=some (some (k,.int .i64 (Qa2 S p))):=by rw [k2,Nat.zero_add]
   exact run_iset h (by simpa using k2') he
  ·unfold IMap;rw [hmod,hl];simp [hlt]
end
section
open Go.RowKit Go.Lib Go.Proofs.Tryz
structure Ep where
 ref:ByteArray
 ent:Int
 per:Int
 lns:List Ln
def Je.ep (x:Je):Ep:=⟨x.ref,x.ent,x.per,x.lns⟩
structure Qb3 (W:World) (n0:Nat) (v:Value) (L:List Je):Prop where
 row:QbG W n0 v L
 lns:∀ x∈L,Qag W n0 (.slice x.adr x.lns.length x.cap) x.lns
theorem Qb3.nil (W:World) (n0:Nat):Qb3 W n0 (.slice none 0 0) []:=⟨QbG.nil W n0,by simp⟩
theorem Qb3.below {W W':World} {n0:Nat} {v:Value} {L:List Je} (h:Qb3 W n0 v L) (hb:Below W.heap.size W W'):Qb3 W' n0 v L:=⟨h.row.below hb,fun x hx=>(h.lns x hx).below hb⟩
theorem Qb3.isJs {W:World} {n0:Nat} {v:Value} {L:List Je} (h:Qb3 W n0 v L):∃ a cap,v=.slice a L.length cap∧Qha W a L cap:=by
 obtain ⟨a,cap,e,h1,h2⟩:=h.row.lies;refine ⟨a,cap,e,h1,h2,fun x hx=>?_⟩
 obtain ⟨a',c',e',h'⟩:=(h.lns x hx).isLn;cases e';exact h'
theorem made_typ {w:World} {n:Nat} {v:Value} {xs:List Je} (h:QbG w n v xs):∀ j,v.ownBlock=some j→∃ cs,w.heap[j]? = some (.cells cs 59 (0,0)):=fun j ej=>by
 rcases h.2 with ⟨rfl,_⟩ | ⟨g,cp,cur,rfl,hg,hh,_⟩
 ·cases ej
 ·cases ej;exact ⟨cur,hh⟩
theorem Qb3.add {W W1:World} {n0:Nat} {v v':Value} {L:List Je} {x:Je} (h:Qb3 W n0 v L) (hx:Qag W n0 (.slice x.adr x.lns.length x.cap) x.lns) (ho:W1.ownsRow n0 59 4 v' (L.length+1) (Qby L++x.cells.toList)) (hg:W.grownBy W1 v.ownBlock):Qb3 W1 n0 v' (L++[x]):=by
 have keep:∀ y:Je,Qag W n0 (.slice y.adr y.lns.length y.cap) y.lns→Qag W1 n0 (.slice y.adr y.lns.length y.cap) y.lns:=fun y hy=>by
  rcases hy.2 with ⟨hv,hn⟩ | ⟨g1,c1,cur,hv,hb1,hh,r⟩
  ·exact ⟨hy.1,.inl ⟨hv,hn⟩⟩
  ·refine ⟨hy.1,.inr ⟨g1,c1,cur,hv,hb1,(hg.block g1 (Array.getElem?_eq_some_iff.1 hh).1 fun e=>?_).trans hh,r⟩⟩
   obtain ⟨cs,h2⟩:=made_typ h.row g1 e.symm;rw [hh] at h2;cases h2
 refine ⟨?_,fun y hy=>?_⟩
 ·unfold QbG;rw [QdF,jeRow_one,List.length_append];exact ho
 ·rcases List.mem_append.1 hy with hy | hy
  ·exact keep y (h.lns y hy)
  ·rw [List.mem_singleton] at hy;subst hy;exact keep _ hx
end
section
open Go.RowKit Go.Lib Go.Proofs.Tryz
structure Pn where
 ref:ByteArray
 ent:Int
 src:ByteArray
 dst:ByteArray
 cur:ByteArray
 amt:Int
 fst:Int
 per:Int
def pn0:Pn:=⟨ByteArray.empty,0,ByteArray.empty,ByteArray.empty,ByteArray.empty,0,0,0⟩
structure PnAt (w:World) (b off:Nat) (p:Pn):Prop where
 c0:w.cell? ⟨b,off,none⟩=some (.string p.ref)
 c1:w.cell? ⟨b,off+1,none⟩=some (.int .i64 p.ent)
 c2:w.cell? ⟨b,off+2,none⟩=some (.string p.src)
 c3:w.cell? ⟨b,off+3,none⟩=some (.string p.dst)
 c4:w.cell? ⟨b,off+4,none⟩=some (.string p.cur)
 c5:w.cell? ⟨b,off+5,none⟩=some (.int .i64 p.amt)
 c6:w.cell? ⟨b,off+6,none⟩=some (.int .i64 p.fst)
 c7:w.cell? ⟨b,off+7,none⟩=some (.int .i64 p.per)
structure IsPn (w:World) (a:Option Addr) (l:List Pn) (cap:Nat):Prop where
 cap:l.length≤cap
 lies:l=[]∨∃ b off,a=some ⟨b,off,none⟩∧b<w.heap.size∧∀ k,k<l.length→PnAt w b (off+k*8) (l.getD k pn0)
def QfG (am fs pr:Int):Bool:=decide (am≠0) && (QaJ am && (Qav pr 120 && Qav fs 120))
theorem spreadB_iff {am fs pr:Int}:QfG am fs pr=true↔am≠0∧(-Qah≤am∧am≤Qah)∧(1≤pr∧pr≤120)∧(1≤fs∧fs≤120):=by
 simp only [QfG,Bool.and_eq_true,decide_eq_true_eq,Qbl,QgA]
def partN (am fs pr pe:Int):Int:=if pe - fs<0∨pr≤pe - fs then 0 else (am*(pe - fs+1)).tdiv pr - (am*(pe - fs)).tdiv pr
end
section
open Go.RowKit Go.Lib Go.Proofs.Tryz
def badP (r:Nat):Bool:=(decide (r<97) || decide (122<r)) && (decide (r<48) || decide (57<r))
def isPRef (s:ByteArray):Bool:=decide (s.size≠0) && (decide (s.size≤8) && decide (Qbf badP s s.size 0<0))
def hasPR (r:ByteArray) (p:Pn):Bool:=decide (p.ref=r)
def refBad (ah:List Pn) (r:ByteArray):Int:=if isPRef r=false then 2 else if ah.any (hasPR r)=true then 8 else 0
end
end Go.Proofs.YtjifbbdkpanagaaGreatDoor
