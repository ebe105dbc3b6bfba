/-
  Part of a proof (see the last text).
-/
import Derived.Test.YtibhgngboljhfaaGreatDoorZp5
import Derived.Deep.CutBlock
set_option linter.unusedVariables false
set_option linter.unusedSimpArgs false
set_option maxRecDepth 100000
namespace Go.Proofs.YtibhgngboljhfaaGreatDoor
section
open Go.RowKit Go.Lib Go.Proofs.Tryz
theorem jln_src {W:World} {b off:Nat} {l:List Ln} (h:Qbz W b off l):∀ j u,(Qah l)[j]? = some u→W.cell? ((⟨b,off,none⟩:Addr).add j)=some u:=by
 intro j u hj;rw [Addr.add_lit];obtain ⟨q,r,hr,rfl⟩:∃ q r,r<3∧j=q*3+r:=⟨j / 3,j % 3,Nat.mod_lt _ (by omega),by omega⟩
 have hlt:=(List.getElem?_eq_some_iff.1 hj).1;rw [Qaf] at hlt;have hq:q<l.length:=by omega
 rw [Qb7 l q r hq hr] at hj
 have:=h q hq
 rcases (by omega:r=0∨r=1∨r=2) with rfl | rfl | rfl
 ·rw [← hj,Nat.add_zero,this.c0];rfl
 ·rw [← hj,← Nat.add_assoc,this.c1];rfl
 ·rw [← hj,← Nat.add_assoc,this.c2];rfl
end
section
open Go.RowKit Go.Lib Go.Proofs.Tryz
def Qdm:List (Int×Int)→Nat→List MapEntry
 | [],_=>[]
 | x :: S,i=>⟨.int .i64 x.1,.int .i64 x.2,i⟩ :: Qdm S (i+1)
def QaV:List (Int×Int)→Int→Int
 | [],_=>0
 | x :: S,p=>if p=x.1 then x.2 else QaV S p
def Qia:List (Int×Int)→Int→Bool
 | [],_=>false
 | x :: S,p=>if p=x.1 then true else Qia S p
def Qcw:List (Int×Int)→Int→Int→List (Int×Int)
 | [],p,v=>[(p,v)]
 | x :: S,p,v=>if p=x.1 then (p,v) :: S else x :: Qcw S p v
theorem Qei:∀ (S:List (Int×Int)) (p v q:Int),QaV (Qcw S p v) q=if q=p then v else QaV S q
 | [],p,v,q=>by simp [Qcw,QaV]
 | x :: S,p,v,q=>by
  unfold Qcw;by_cases h:p=x.1
  ·rw [if_pos h];by_cases h2:q=p
   ·rw [if_pos h2];simp [QaV,h2]
   ·rw [if_neg h2];have h3:¬ q=x.1:=fun e=>h2 (e.trans h.symm)
    simp [QaV,h2,h3]
  ·rw [if_neg h];have ih:=Qei S p v q;unfold QaV;by_cases h2:q=x.1
   ·have h3:¬ q=p:=fun e=>h (e.symm.trans h2)
    rw [if_pos h2,if_neg h3,if_pos h2]
   ·rw [if_neg h2,ih,if_neg h2]
theorem Qdu:∀ (S:List (Int×Int)) (i:Nat),(Qdm S i).length=S.length
 | [],_=>rfl
 | x :: S,i=>by simp [Qdm,Qdu S (i+1)]
theorem ient_snoc:∀ (S:List (Int×Int)) (x:Int×Int) (i:Nat),Qdm (S++[x]) i=Qdm S i++[⟨.int .i64 x.1,.int .i64 x.2,i+S.length⟩]
 | [],x,i=>rfl
 | y :: S,x,i=>by
  have:=ient_snoc S x (i+1)
  simp only [List.cons_append,Qdm,this,List.length_cons];rw [show i+1+S.length=i+(S.length+1) by omega]
theorem sgPut_new:∀ (S:List (Int×Int)) (p v:Int),Qia S p=false→Qcw S p v=S++[(p,v)]
 | [],_,_,_=>rfl
 | x :: S,p,v,h=>by
  unfold Qia at h;split at h
  ·cases h
  ·rename_i h1;rw [Qcw,if_neg h1,sgPut_new S p v h];rfl
theorem Qhp:∀ (S:List (Int×Int)) (p:Int) (i j:Nat),Qia S p=false→Instr.findNow (.int .i64) (.int .i64 p) (Qdm S i) j=some none
 | [],_,_,_,_=>rfl
 | x :: S,p,i,j,h=>by
  unfold Qia at h;split at h
  ·cases h
  ·rename_i h1;have hne:(p == x.1)=false:=by rw [beq_eq_false_iff_ne];exact h1
   simp only [Qdm];unfold Instr.findNow;simp only [Instr.sameNow,hne];exact Qhp S p (i+1) (j+1) h
theorem Qg5:∀ (S:List (Int×Int)) (p:Int) (i j:Nat),Qia S p=true→∃ k,k<S.length∧Instr.findNow (.int .i64) (.int .i64 p) (Qdm S i) j=some (some (j+k,.int .i64 (QaV S p)))∧(Qdm S i)[k]? = some ⟨.int .i64 p,.int .i64 (QaV S p),i+k⟩∧∀ v,Qdm (Qcw S p v) i=(Qdm S i).set k ⟨.int .i64 p,.int .i64 v,i+k⟩
 | [],_,_,_,h=>by cases h
 | x :: S,p,i,j,h=>by
  unfold Qia at h;by_cases h1:p=x.1
  ·refine ⟨0,by simp,?_,?_,fun v=>?_⟩
   ·simp only [Qdm];unfold Instr.findNow;simp [Instr.sameNow,h1,QaV]
   ·simp [Qdm,QaV,h1]
   ·simp [Qcw,h1,Qdm]
  ·rw [if_neg h1] at h;obtain ⟨k,k1,k2,k3,k4⟩:=Qg5 S p (i+1) (j+1) h;have hne:(p == x.1)=false:=by rw [beq_eq_false_iff_ne];exact h1
   refine ⟨k+1,by simp;exact k1,?_,?_,fun v=>?_⟩
   ·simp only [Qdm];unfold Instr.findNow;simp only [Instr.sameNow,hne];rw [k2,QaV,if_neg h1,show j+1+k=j+(k+1) by omega]
    simp
   ·simp only [Qdm,List.getElem?_cons_succ,k3,QaV,if_neg h1];rw [show i+1+k=i+(k+1) by omega]
   ·simp only [Qcw,if_neg h1,Qdm,List.set_cons_succ,k4 v];rw [show i+1+k=i+(k+1) by omega]
theorem ient_get:∀ (S:List (Int×Int)) (i k:Nat),k<S.length→(Qdm S i)[k]? = some ⟨.int .i64 (S.getD k (0,0)).1,.int .i64 (S.getD k (0,0)).2,i+k⟩
 | [],_,_,h=>by simp at h
 | x :: S,i,0,_=>by simp [Qdm]
 | x :: S,i,k+1,h=>by
  have:=ient_get S (i+1) k (by simpa using h)
  simp only [Qdm,List.getElem?_cons_succ,this,List.getD_cons_succ];rw [show i+1+k=i+(k+1) by omega]
theorem ient_mem {S:List (Int×Int)} {e:MapEntry} (h:e∈Qdm S 0):∃ k,k<S.length∧e=⟨.int .i64 (S.getD k (0,0)).1,.int .i64 (S.getD k (0,0)).2,k⟩:=by
 obtain ⟨k,hk,e1⟩:=List.getElem_of_mem h;rw [Qdu] at hk;have h2:=ient_get S 0 k hk;rw [List.getElem?_eq_getElem (by rw [Qdu];exact hk),e1] at h2
 exact ⟨k,hk,by simpa using h2⟩
theorem ient_born:∀ (S:List (Int×Int)) (i:Nat),(Qdm S i).map (·.born)=List.range' i S.length
 | [],_=>rfl
 | x :: S,i=>by simp [Qdm,ient_born S (i+1),List.range'_succ]
def IMap (W:World) (mb:Nat) (S:List (Int×Int)):Prop:=W.heap[mb]? = some (.map (Qdm S 0).toArray S.length)
theorem imap_zero (w:World):(zeroValue 3).run prog w=.ok (.int .i64 0) w:=by kernel_rfl
theorem ikey_ok (w:World) (x:Int) (b:Bool):(Instr.checkKey b 10000 3 (.int .i64 x)).run prog w=.ok () w:=
 MapKept.run_checkKey (k:=.int .i64 x) underlying3 (by simp [MapKept.IsKey]) b 9999
theorem sgHas_of:∀ (S:List (Int×Int)) (p:Int),Qia S p=false→QaV S p=0
 | [],_,_=>rfl
 | x :: S,p,h=>by
  unfold Qia at h;split at h
  ·cases h
  ·rename_i h1;rw [QaV,if_neg h1];exact sgHas_of S p h
theorem run_ilook {W:World} {mb:Nat} {S:List (Int×Int)} (h:IMap W mb S) (p:Int):(Instr.lookup 77 (.map (some mb)) (.int .i64 p) false).run prog W=.ok (.int .i64 (QaV S p)) W:=by
 cases hq:Qia S p with
 | false=>
  have f:=Qhp S p 0 0 hq;rw [sgHas_of S p hq];simp [Instr.lookup,run_underlying underlying77,MapKept.run_getObj_map h,ikey_ok,MapKept.run_findKey underlying3 f,imap_zero,Result.andThen]
 | true=>
  obtain ⟨k,k1,k2,k3,k4⟩:=Qg5 S p 0 0 hq;simp [Instr.lookup,run_underlying underlying77,MapKept.run_getObj_map h,ikey_ok,MapKept.run_findKey underlying3 k2,Result.andThen]
theorem run_iset {W:World} {mb:Nat} {es:Array MapEntry} {c:Nat} (h:W.heap[mb]? = some (.map es c)) {k b:Nat} {p v:Int} {x y:Value} (f:Instr.findNow (.int .i64) (.int .i64 p) es.toList 0=some (some (k,x))) (he:es[k]? = some ⟨.int .i64 p,y,b⟩) :
  (Instr.mapUpdate 77 (.map (some mb)) (.int .i64 p) (.int .i64 v)).run prog W=.ok () { W with heap:=W.heap.setIfInBounds mb (.map (es.modify k fun e=>{ e with key:=.int .i64 p,val:=.int .i64 v }) c) }:=by
 simp [Instr.mapUpdate,run_underlying underlying77,MapKept.run_getObj_map h,ikey_ok,MapKept.run_findKey underlying3 f,MapKept.run_setObj_map _ h,Result.andThen,Instr.keyThatStays,he,Instr.sameBits]
theorem run_iput {W:World} {mb:Nat} {S:List (Int×Int)} (h:IMap W mb S) (p v:Int) :
  ∃ W',(Instr.mapUpdate 77 (.map (some mb)) (.int .i64 p) (.int .i64 v)).run prog W=.ok () W'∧IMap W' mb (Qcw S p v)∧W'.os=W.os∧W'.tape=W.tape∧W'.output=W.output∧W'.heap.size=W.heap.size∧∀ b,b≠mb→W'.heap[b]? = W.heap[b]?:=by
 have hlt:mb<W.heap.size:=(Array.getElem?_eq_some_iff.1 h).1
 cases hq:Qia S p with
 | false=>
  have f:=Qhp S p 0 0 hq;refine ⟨{ W with heap:=W.heap.setIfInBounds mb (.map ((Qdm S 0).toArray.push ⟨.int .i64 p,.int .i64 v,S.length⟩) (S.length+1)) },?_,?_,rfl,rfl,rfl,by simp,fun b hb=>Array.getElem?_setIfInBounds_ne (fun e=>hb e.symm)⟩
  ·simp [Instr.mapUpdate,run_underlying underlying77,MapKept.run_getObj_map h,ikey_ok,MapKept.run_findKey underlying3 f,MapKept.run_setObj_map _ h,Result.andThen]
  ·unfold IMap;rw [sgPut_new S p v hq,ient_snoc];simp [hlt]
 | true=>
  obtain ⟨k,k1,k2,k3,k4⟩:=Qg5 S p 0 0 hq;have hj:k<(Qdm S 0).toArray.size:=by simp [Qdu];exact k1
  have he:(Qdm S 0).toArray[k]? = some ⟨.int .i64 p,.int .i64 (QaV S p),k⟩:=by simpa using k3
  have hmod:((Qdm S 0).toArray.modify k fun e=>{ e with key:=.int .i64 p,val:=.int .i64 v })=(Qdm (Qcw S p v) 0).toArray:=by
   apply Array.ext';rw [k4 v];apply List.ext_getElem?;intro i;rw [Array.getElem?_toList,Array.getElem?_modify,List.getElem?_set];by_cases hi:k=i
   ·subst hi;have e':(Qdm S 0).toArray[k]=⟨.int .i64 p,.int .i64 (QaV S p),k⟩:=(Array.getElem?_eq_some_iff.1 he).2;have e2:(Qdm S 0)[k]'(by simpa using hj)=⟨.int .i64 p,.int .i64 (QaV S p),k⟩:=by simpa using e'
    simp [k3,e2,Qdu,k1]
   ·simp [hi]
  have hl:(Qcw S p v).length=S.length:=by
   have:=congrArg List.length (k4 v)
   rw [List.length_set,Qdu,Qdu] at this;exact this
  refine ⟨{ W with heap:=W.heap.setIfInBounds mb (.map ((Qdm S 0).toArray.modify k fun e=>{ e with key:=.int .i64 p,val:=.int .i64 v }) S.length) },?_,?_,rfl,rfl,rfl,by simp,fun b hb=>Array.getElem?_setIfInBounds_ne (fun e=>hb e.symm)⟩
  ·have k2':Instr.findNow (.int .i64) (.int .i64 p) (Qdm S 0) 0=some (some (k,.int .i64 (QaV S p))):=by rw [k2,Nat.zero_add]
   exact run_iset h (by simpa using k2') he
  ·unfold IMap;rw [hmod,hl];simp [hlt]
end
section
open Go.RowKit Go.Lib Go.Proofs.Tryz
structure Ep where
 ref:ByteArray
 ent:Int
 per:Int
 lns:List Ln
def Je.ep (x:Je):Ep:=⟨x.ref,x.ent,x.per,x.lns⟩
structure Qbp (W:World) (n0:Nat) (v:Value) (L:List Je):Prop where
 row:Qbf W n0 v L
 lns:∀ x∈L,Qab W n0 (.slice x.adr x.lns.length x.cap) x.lns
theorem Qbp.nil (W:World) (n0:Nat):Qbp W n0 (.slice none 0 0) []:=⟨Qbf.nil W n0,by simp⟩
theorem Qbp.below {W W':World} {n0:Nat} {v:Value} {L:List Je} (h:Qbp W n0 v L) (hb:Below W.heap.size W W'):Qbp W' n0 v L:=⟨h.row.below hb,fun x hx=>(h.lns x hx).below hb⟩
theorem Qbp.isJs {W:World} {n0:Nat} {v:Value} {L:List Je} (h:Qbp W n0 v L):∃ a cap,v=.slice a L.length cap∧QdF W a L cap:=by
 obtain ⟨a,cap,e,h1,h2⟩:=h.row.lies;refine ⟨a,cap,e,h1,h2,fun x hx=>?_⟩
 obtain ⟨a',c',e',h'⟩:=(h.lns x hx).isLn;cases e';exact h'
theorem QgP {w:World} {n:Nat} {v:Value} {xs:List Je} (h:Qbf w n v xs):∀ j,v.ownBlock=some j→∃ cs,w.heap[j]? = some (.cells cs 38 (0,0)):=fun j ej=>by
 rcases h.2 with ⟨rfl,_⟩ | ⟨g,cp,cur,rfl,hg,hh,_⟩
 ·cases ej
 ·cases ej;exact ⟨cur,hh⟩
theorem Qbp.add {W W1:World} {n0:Nat} {v v':Value} {L:List Je} {x:Je} (h:Qbp W n0 v L) (hx:Qab W n0 (.slice x.adr x.lns.length x.cap) x.lns) (ho:W1.ownsRow n0 38 4 v' (L.length+1) (QaR L++x.cells.toList)) (hg:W.grownBy W1 v.ownBlock):Qbp W1 n0 v' (L++[x]):=by
 have keep:∀ y:Je,Qab W n0 (.slice y.adr y.lns.length y.cap) y.lns→Qab W1 n0 (.slice y.adr y.lns.length y.cap) y.lns:=fun y hy=>by
  rcases hy.2 with ⟨hv,hn⟩ | ⟨g1,c1,cur,hv,hb1,hh,r⟩
  ·exact ⟨hy.1,.inl ⟨hv,hn⟩⟩
  ·refine ⟨hy.1,.inr ⟨g1,c1,cur,hv,hb1,(hg.block g1 (Array.getElem?_eq_some_iff.1 hh).1 fun e=>?_).trans hh,r⟩⟩
   obtain ⟨cs,h2⟩:=QgP h.row g1 e.symm;rw [hh] at h2;cases h2
 refine ⟨?_,fun y hy=>?_⟩
 ·unfold Qbf;rw [QdY,jeRow_one,List.length_append];exact ho
 ·rcases List.mem_append.1 hy with hy | hy
  ·exact keep y (h.lns y hy)
  ·rw [List.mem_singleton] at hy;subst hy;exact keep _ hx
end
section
open Go.RowKit Go.Lib Go.Proofs.Tryz
structure Pn where
 ref:ByteArray
 ent:Int
 src:ByteArray
 dst:ByteArray
 cur:ByteArray
 amt:Int
 fst:Int
 per:Int
def pn0:Pn:=⟨ByteArray.empty,0,ByteArray.empty,ByteArray.empty,ByteArray.empty,0,0,0⟩
def Pn.cells (p:Pn):Array Value:=#[.string p.ref,.int .i64 p.ent,.string p.src,.string p.dst,.string p.cur,.int .i64 p.amt,.int .i64 p.fst,.int .i64 p.per]
structure Qio (w:World) (b off:Nat) (p:Pn):Prop where
 c0:w.cell? ⟨b,off,none⟩=some (.string p.ref)
 c1:w.cell? ⟨b,off+1,none⟩=some (.int .i64 p.ent)
 c2:w.cell? ⟨b,off+2,none⟩=some (.string p.src)
 c3:w.cell? ⟨b,off+3,none⟩=some (.string p.dst)
 c4:w.cell? ⟨b,off+4,none⟩=some (.string p.cur)
 c5:w.cell? ⟨b,off+5,none⟩=some (.int .i64 p.amt)
 c6:w.cell? ⟨b,off+6,none⟩=some (.int .i64 p.fst)
 c7:w.cell? ⟨b,off+7,none⟩=some (.int .i64 p.per)
theorem Qio.below {w w':World} {b off n:Nat} {p:Pn} (h:Qio w b off p) (hb:Below n w w') (hn:b<n):Qio w' b off p:=
 ⟨(hb.cell (p:=⟨b,off,none⟩) hn).trans h.c0,(hb.cell (p:=⟨b,off+1,none⟩) hn).trans h.c1,(hb.cell (p:=⟨b,off+2,none⟩) hn).trans h.c2,(hb.cell (p:=⟨b,off+3,none⟩) hn).trans h.c3,(hb.cell (p:=⟨b,off+4,none⟩) hn).trans h.c4,(hb.cell (p:=⟨b,off+5,none⟩) hn).trans h.c5,(hb.cell (p:=⟨b,off+6,none⟩) hn).trans h.c6,(hb.cell (p:=⟨b,off+7,none⟩) hn).trans h.c7⟩
theorem Qio.new (w:World) (p:Pn) (t:TypeId):Qio (w.alloc (.cells p.cells t)) w.heap.size 0 p:=
 ⟨by simp [Pn.cells],by simp [Pn.cells],by simp [Pn.cells],by simp [Pn.cells],by simp [Pn.cells],by simp [Pn.cells],by simp [Pn.cells],by simp [Pn.cells]⟩
structure Qe6 (w:World) (a:Option Addr) (l:List Pn) (cap:Nat):Prop where
 cap:l.length≤cap
 lies:l=[]∨∃ b off,a=some ⟨b,off,none⟩∧b<w.heap.size∧∀ k,k<l.length→Qio w b (off+k*8) (l.getD k pn0)
theorem Qe6.below {w w':World} {a:Option Addr} {l:List Pn} {cap:Nat} (h:Qe6 w a l cap) (hb:Below w.heap.size w w'):Qe6 w' a l cap:=by
 refine ⟨h.cap,?_⟩;rcases h.lies with h | ⟨b,off,e,hlt,hc⟩
 ·exact .inl h
 ·exact .inr ⟨b,off,e,by have:=hb.size;omega,fun k hk=>(hc k hk).below hb hlt⟩
theorem Qe6.at {w:World} {a:Option Addr} {l:List Pn} {cap:Nat} (h:Qe6 w a l cap) {k:Nat} (hk:k<l.length):∃ b off,a=some ⟨b,off,none⟩∧b<w.heap.size∧Qio w b (off+k*8) (l.getD k pn0):=by
 rcases h.lies with rfl | ⟨b,off,e,hlt,hc⟩
 ·simp at hk
 ·exact ⟨b,off,e,hlt,hc k hk⟩
theorem Qe6.take {w:World} {a:Option Addr} {l:List Pn} {cap:Nat} (h:Qe6 w a l cap) (k:Nat):Qe6 w a (l.take k) cap:=by
 refine ⟨by have:=h.cap;simp;omega,?_⟩
 rcases h.lies with h | ⟨b,off,e,hlt,hc⟩
 ·exact .inl (by rw [h];simp)
 ·refine .inr ⟨b,off,e,hlt,fun j hj=>?_⟩
  simp only [List.length_take] at hj
  have:(l.take k).getD j pn0=l.getD j pn0:=by
   rw [List.getD_eq_getElem?_getD,List.getD_eq_getElem?_getD,List.getElem?_take,if_pos (by omega)]
  rw [this];exact hc j (by omega)
def QbG (am fs pr:Int):Bool:=decide (am≠0) && (Qas am && (Qak pr 120 && Qak fs 120))
theorem Qe1 {am fs pr:Int}:QbG am fs pr=true↔am≠0∧(-Qaq≤am∧am≤Qaq)∧(1≤pr∧pr≤120)∧(1≤fs∧fs≤120):=by
 simp only [QbG,Bool.and_eq_true,decide_eq_true_eq,Qa8,QcW]
def Qcz (am fs pr pe:Int):Int:=if pe - fs<0∨pr≤pe - fs then 0 else (am*(pe - fs+1)).tdiv pr - (am*(pe - fs)).tdiv pr
theorem QdS {x:Int} (h1:-9223372036854775808≤x) (h2:x≤9223372036854775807):IntKind.i64.wrap x=x:=by
 simp only [IntKind.wrap,IntKind.bits,IntKind.signed];simp;omega
theorem pn_mul {am k:Int} (h:-Qaq≤am∧am≤Qaq) (h0:0≤k) (h1:k≤120):-120000000000000000≤am*k∧am*k≤120000000000000000:=by
 unfold Qaq at h;have a1:am*k≤1000000000000000*k:=Int.mul_le_mul_of_nonneg_right h.2 h0;have a2:-1000000000000000*k≤am*k:=Int.mul_le_mul_of_nonneg_right h.1 h0;omega
theorem pn_tdiv {x p b:Int} (hb:-b≤x∧x≤b) (hp:1≤p):-b≤x.tdiv p∧x.tdiv p≤b:=by
 have key:∀ a:Int,0≤a→0≤a.tdiv p∧a.tdiv p≤a:=fun a ha=>by
  rw [Int.tdiv_eq_ediv_of_nonneg ha];exact ⟨Int.ediv_nonneg ha (by omega),Int.ediv_le_self _ ha⟩
 by_cases h:0≤x
 ·have:=key x h;omega
 ·have:=key (-x) (by omega)
  rw [Int.neg_tdiv] at this;omega
theorem isSpread_any (p:Pn) (w:World) :
  Calls prog 85 #[.agg p.cells] w fun e w'=>e=.returned (.bool (QbG p.amt p.fst p.per))∧Below w.heap.size w w':=by
 have b0:Below w.heap.size w (w.alloc (.cells p.cells 93)):=(Below.refl _ w).alloc (Nat.le_refl _) _;have H1:Hid (∀ W,Calls prog 108 #[.int .i64 p.amt] W fun e w'=>e=.returned (.bool (Qas p.amt))∧w'=W):=fun W=>Qbl _ W
 have H2:Hid (∀ W,Calls prog 31 #[.int .i64 p.per] W fun e w'=>e=.returned (.bool (Qak p.per 120))∧w'=W):=fun W=>QaM _ W
 have H3:Hid (∀ W,Calls prog 31 #[.int .i64 p.fst] W fun e w'=>e=.returned (.bool (Qak p.fst 120))∧w'=W):=fun W=>QaM _ W
 obtain ⟨ref,en,fr,tw,cu,am,fs,pr⟩:=p;obtain ⟨d0,d1,d2,d3,d4,d5,d6,d7⟩:=Qio.new w ⟨ref,en,fr,tw,cu,am,fs,pr⟩ 93;simp only [Pn.cells,Nat.zero_add] at b0 d0 d1 d2 d3 d4 d5 d6 d7 H1 H2 H3 ⊢;obtain ⟨res,hres⟩:∃ res,QbG am fs pr=res:=⟨_,rfl⟩;have Hres:Hid (QbG am fs pr=res):=hres;rw [hres];clear hres;by_cases h0:am=0
 ·have er:res=false:=by rw [← Hres.out];simp [QbG,h0]
  subst er;subst h0;clear Hres;go_enter func85,ntmps85
  go_wp2;go_ret;exact ⟨rfl,b0⟩
 have h0':(am != 0)=true:=by simpa using h0
 have h0'':(am == 0)=false:=by simpa using h0
 have HR1:Hid ((Qas am && (Qak pr 120 && Qak fs 120))=res):=by
  rw [← Hres.out];unfold QbG Hid;rw [decide_eq_true h0,Bool.true_and]
 clear Hres;cases h1:Qas am
 ·have er:res=false:=by rw [← HR1.out,h1];rfl
  subst er;rw [h1] at H1;clear HR1;go_enter func85,ntmps85
  go_wp2_with (go_at_call 108;refine (H1.out _).mono ?_;rintro e w' ⟨rfl,rfl⟩);go_ret;exact ⟨rfl,b0⟩
 rw [h1] at H1;cases h2:Qak pr 120
 ·have er:res=false:=by rw [← HR1.out,h1,h2];rfl
  subst er;rw [h2] at H2;clear HR1;go_enter func85,ntmps85
  go_wp2_with (first | (go_at_call 108;refine (H1.out _).mono ?_;rintro e w' ⟨rfl,rfl⟩) | (go_at_call 31;refine (H2.out _).mono ?_;rintro e w' ⟨rfl,rfl⟩));go_ret;exact ⟨rfl,b0⟩
 rw [h2] at H2;have er:res=Qak fs 120:=by rw [← HR1.out,h1,h2];rfl
 subst er;clear HR1;go_enter func85,ntmps85
 go_wp2_with (go_at_call 108;refine (H1.out _).mono ?_;rintro e w' ⟨rfl,rfl⟩);refine (H2.out _).mono ?_;rintro e w' ⟨rfl,hw⟩;rw [hw];clear hw w' H2;go_wp2_with fail;refine (H3.out _).mono ?_;rintro e w' ⟨rfl,hw⟩;rw [hw];clear hw w' H3;go_wp2;go_ret;exact ⟨rfl,b0⟩
set_option maxHeartbeats 2000000 in
theorem plPart_any (p:Pn) (pe:Int) (w:World) (h:QbG p.amt p.fst p.per=true) (hp:Qak pe 120=true) :
  Calls prog 114 #[.agg p.cells,.int .i64 pe] w fun e w'=>e=.returned (.int .i64 (Qcz p.amt p.fst p.per pe))∧Below w.heap.size w w':=by
 have b0:Below w.heap.size w (w.alloc (.cells p.cells 93)):=(Below.refl _ w).alloc (Nat.le_refl _) _;obtain ⟨ref,en,fr,tw,cu,am,fs,pr⟩:=p;obtain ⟨d0,d1,d2,d3,d4,d5,d6,d7⟩:=Qio.new w ⟨ref,en,fr,tw,cu,am,fs,pr⟩ 93;simp only [Pn.cells,Nat.zero_add] at b0 d0 d1 d2 d3 d4 d5 d6 d7 h ⊢;obtain ⟨_,ha,hq,hf⟩:=Qe1.1 h;have hp':=QcW.1 hp;have HB:Hid (∀ n,Below w.heap.size w ((w.alloc (.cells #[.string ref,.int .i64 en,.string fr,.string tw,.string cu,.int .i64 am,.int .i64 fs,.int .i64 pr] 93)).drewN n)):=fun n=>b0.trans ⟨rfl,rfl,rfl,Nat.le_refl _,fun _ _=>rfl⟩
 have e0:IntKind.i64.wrap (pe - fs)=pe - fs:=QdS (by omega) (by omega)
 by_cases c1:pe - fs<0
 ·have er:Qcz am fs pr pe=0:=by unfold Qcz;rw [if_pos (.inl c1)]
  rw [er];clear h hp er HB;go_enter func114,ntmps114
  go_wp2;go_ret;exact ⟨rfl,b0⟩
 by_cases c2:pr≤pe - fs
 ·have er:Qcz am fs pr pe=0:=by unfold Qcz;rw [if_pos (.inr c2)]
  rw [er];clear h hp er HB;go_enter func114,ntmps114
  go_wp2;go_ret;exact ⟨rfl,b0⟩
 have er:Qcz am fs pr pe=(am*(pe - fs+1)).tdiv pr - (am*(pe - fs)).tdiv pr:=by unfold Qcz;rw [if_neg (by omega)]
 rw [er];obtain ⟨k,hk⟩:∃ k,pe - fs=k:=⟨_,rfl⟩;have f0:IntKind.i64.wrap (pe - fs)=k:=e0.trans hk;rw [hk] at c1 c2 ⊢;have k1:k≤119:=by omega
 have m1:=pn_mul ha (k:=k+1) (by omega) (by omega)
 have m0:=pn_mul ha (k:=k) (by omega) (by omega)
 have q1:=pn_tdiv m1 hq.1;have q0:=pn_tdiv m0 hq.1;have e1:IntKind.i64.wrap (k+1)=k+1:=QdS (by omega) (by omega)
 have e2:IntKind.i64.wrap (am*(k+1))=am*(k+1):=QdS (by omega) (by omega)
 have e3:IntKind.i64.wrap (am*k)=am*k:=QdS (by omega) (by omega)
 have e4:IntKind.i64.wrap ((am*(k+1)).tdiv pr)=(am*(k+1)).tdiv pr:=QdS (by omega) (by omega)
 have e5:IntKind.i64.wrap ((am*k).tdiv pr)=(am*k).tdiv pr:=QdS (by omega) (by omega)
 have e6:IntKind.i64.wrap ((am*(k+1)).tdiv pr - (am*k).tdiv pr)=(am*(k+1)).tdiv pr - (am*k).tdiv pr:=QdS (by omega) (by omega)
 have n0:(pr == 0)=false:=by rw [beq_eq_false_iff_ne];omega
 have n1:(pr == -1)=false:=by rw [beq_eq_false_iff_ne];omega
 clear h hp er m1 m0 q1 q0 ha hf hp' k1 hk e0;go_enter func114,ntmps114
 go_wp2_with fail;go_quiet (fail)
 go_wp2;go_ret;exact ⟨rfl,HB.out _⟩
end
section
open Go.RowKit Go.Lib Go.Proofs.Tryz
def QfQ (r:Nat):Bool:=(decide (r<97) || decide (122<r)) && (decide (r<48) || decide (57<r))
theorem badP_low {r:Nat} (h:QfQ r=false):r<128:=by
 simp [QfQ] at h;omega
def Qc7 (s:ByteArray):Bool:=decide (s.size≠0) && (decide (s.size≤8) && decide (Qav QfQ s s.size 0<0))
theorem isPRef_iff {s:ByteArray}:Qc7 s=true↔s.size≠0∧s.size≤8∧∀ i,i<s.size→QfQ (s.get! i).toNat=false:=by
 unfold Qc7;simp only [Bool.and_eq_true,decide_eq_true_eq];rw [Qhu QfQ (fun r h=>badP_low h) s s.size 0 (by omega)]
 exact ⟨fun ⟨a,b,d⟩=>⟨a,b,fun i hi=>d i (Nat.zero_le _) hi⟩,fun ⟨a,b,d⟩=>⟨a,b,fun i _ hi=>d i hi⟩⟩
theorem Qi8 (r:Nat) (w:World) :
  Calls prog 175 #[.int .i32 r] w fun e w'=>e=.returned (.bool (QfQ r))∧w'=w:=by
 have h1:(r:Int)<48∨(48:Int)≤r∧(r:Int)≤57∨(57:Int)<r∧(r:Int)<97∨(97:Int)≤r∧(r:Int)≤122∨(122:Int)<r:=by omega
 rcases h1 with a | ⟨a,b⟩ | ⟨a,b⟩ | ⟨a,b⟩ | a
 ·have:QfQ r=true:=by simp [QfQ];omega
  rw [this];have n97:(r:Int)<97:=by omega
  go_enter func175,ntmps175
  go_wp2;go_ret;exact ⟨rfl,rfl⟩
 ·have:QfQ r=false:=by simp [QfQ];omega
  rw [this];have n97:(r:Int)<97:=by omega
  have n57:¬ (57:Int)<r:=by omega
  go_enter func175,ntmps175
  go_wp2;go_ret;refine ⟨?_,rfl⟩
  first | rfl | (simp <;> omega)
 ·have:QfQ r=true:=by simp [QfQ];omega
  rw [this];have n48:¬ (r:Int)<48:=by omega
  go_enter func175,ntmps175
  go_wp2;go_ret;refine ⟨?_,rfl⟩
  first | rfl | (simp <;> omega)
 ·have:QfQ r=false:=by simp [QfQ];omega
  rw [this];have n97:¬ (r:Int)<97:=by omega
  have n122:¬ (122:Int)<r:=by omega
  go_enter func175,ntmps175
  go_wp2;go_ret;exact ⟨rfl,rfl⟩
 ·have:QfQ r=true:=by simp [QfQ];omega
  rw [this];have n97:¬ (r:Int)<97:=by omega
  have n48:¬ (r:Int)<48:=by omega
  have n57:(57:Int)<r:=by omega
  go_enter func175,ntmps175
  go_wp2;go_ret;refine ⟨?_,rfl⟩
  first | rfl | (simp <;> omega)
set_option maxHeartbeats 1000000 in
theorem QhI (s:ByteArray) (w:World) :
  Calls prog 152 #[.string s,.func (.func 175) #[] #[],.bool true] w fun e w'=>e=.returned (.int .i64 (Qav QfQ s s.size 0))∧Below w.heap.size w w':=by
 go_enter func152,ntmps152
 go_wp2;go_loopg [] s.size (fun gf wx=>∃ pos:Nat,wx.heap[w.heap.size]? = some (.stringIter s pos)∧Below w.heap.size w wx∧Qav QfQ s gf pos=Qav QfQ s s.size 0∧s.size≤pos+gf)
 case atStart=>exact ⟨0,World.iter_heap w s 0,(Below.refl _ w).alloc (Nat.le_refl _) _,rfl,by omega⟩
 case round=>
  obtain ⟨pos,hit,hbw,hleft,hfu⟩:=hrel;by_cases hps:pos<s.size
  ·obtain ⟨g',rfl⟩:∃ g',gk=g'+1:=⟨gk - 1,by omega⟩
   have hnx:∀ ty,(Instr.next (.pointer (some ⟨w.heap.size,0,none⟩)) true ty).run prog wr=_:=fun ty=>Lib.run_next_any_at wr w.heap.size s pos ty hit hps
   have hwd:=Lib.width_pos s pos;obtain ⟨R,hR⟩:∃ R,(Utf8.decode s pos).1=R:=⟨_,rfl⟩;obtain ⟨K,hK⟩:∃ K,(Utf8.decode s pos).2=K:=⟨_,rfl⟩;simp only [Qav,hps,if_true,hR,hK] at hleft;rw [hR,hK] at hnx;rw [hK] at hwd;have hit2:=Lib.iterAt_heap wr w.heap.size s pos (pos+K) hit;have hbw2:=Lib.below_iterAt hbw (k:=w.heap.size) (Nat.le_refl _) s (pos+K);obtain ⟨W,hWd⟩:∃ W,wr.iterAt w.heap.size s (pos+K)=W:=⟨_,rfl⟩
   rw [hWd] at hnx hit2 hbw2;cases hsp:QfQ R <;> simp only [hsp,if_true,Bool.false_eq_true,if_false] at hleft
   ·go_wp2_with (go_at_call 175;refine (Qi8 R _).mono ?_;rintro e W' ⟨rfl,rfl⟩;rw [hsp]);go_roundg g'
    case measure=>omega
    case rel=>exact ⟨pos+K,hit2,hbw2,hleft,by omega⟩
   ·go_wp2_with (go_at_call 175;refine (Qi8 R _).mono ?_;rintro e W' ⟨rfl,rfl⟩;rw [hsp]);go_ret;exact ⟨by rw [← hleft];rfl,hbw2⟩
  ·have hnx:∀ ty,(Instr.next (.pointer (some ⟨w.heap.size,0,none⟩)) true ty).run prog wr=_:=fun ty=>Lib.run_next_end_at wr w.heap.size s pos ty hit hps
   rw [QdI QfQ s gk pos hps] at hleft;go_wp2;go_ret;exact ⟨by rw [← hleft];rfl,hbw⟩
theorem QfN (s:ByteArray) (w:World) :
  Calls prog 63 #[.string s,.func (.func 175) #[] #[]] w fun e w'=>e=.returned (.bool (decide (0≤Qav QfQ s s.size 0)))∧Below w.heap.size w w':=by
 have hI:Calls prog 106 #[.string s,.func (.func 175) #[] #[]] w fun e w'=>e=.returned (.int .i64 (Qav QfQ s s.size 0))∧Below w.heap.size w w':=by
  go_enter func106,ntmps106
  go_wp2_with fail;refine (QhI s _).mono ?_;rintro e w' ⟨rfl,hb⟩;go_wp2;go_ret;exact ⟨rfl,hb⟩
 go_enter func63,ntmps63
 go_wp2_with fail;refine hI.mono ?_;rintro e w' ⟨rfl,hb⟩;go_wp2;go_ret;exact ⟨rfl,hb⟩
theorem plIsRef_any (s:ByteArray) (w:World) :
  Calls prog 135 #[.string s] w fun e w'=>e=.returned (.bool (Qc7 s))∧Below w.heap.size w w':=by
 by_cases h0:s.size=0
 ·have e0:=en_empty h0;have er:Qc7 s=false:=by simp [Qc7,h0]
  rw [er];go_enter func135,ntmps135
  go_wp2;go_ret;exact ⟨rfl,Below.refl _ _⟩
 have e0:=en_some h0;have e0':s.toList.isEmpty=false:=by simpa using e0
 by_cases h1:s.size≤8
 ·have h1':decide ((s.size:Int)≤8)=true:=by simp;omega
  have er:Qc7 s=!decide (0≤Qav QfQ s s.size 0):=by
   have d1:decide (s.size≠0)=true:=by simp [h0]
   have d2:decide (s.size≤8)=true:=by simp [h1]
   have d3:decide (Qav QfQ s s.size 0<0)=!decide (0≤Qav QfQ s s.size 0):=by
    by_cases hh:0≤Qav QfQ s s.size 0
    ·rw [decide_eq_true hh,decide_eq_false (by omega)];rfl
    ·rw [decide_eq_false hh,decide_eq_true (by omega)];rfl
   unfold Qc7;rw [d1,d2,d3];rfl
  rw [er];clear er;go_enter func135,ntmps135
  go_wp2_with fail;refine (QfN s _).mono ?_;rintro e w' ⟨rfl,hb⟩;go_wp2;go_ret;exact ⟨rfl,hb⟩
 ·have h1':decide ((s.size:Int)≤8)=false:=by simp;omega
  have er:Qc7 s=false:=by simp [Qc7,h1]
  rw [er];go_enter func135,ntmps135
  go_wp2;go_ret;exact ⟨rfl,Below.refl _ _⟩
def Qeu (r:ByteArray) (p:Pn):Bool:=decide (p.ref=r)
def pidx (r:ByteArray):Nat→List Pn→Int
 | _,[]=>-1
 | k,a :: l=>if Qeu r a=true then (k:Int) else pidx r (k+1) l
theorem pidx_any (r:ByteArray):∀ (l:List Pn) (k:Nat),decide (0≤pidx r k l)=l.any (Qeu r)
 | [],k=>by simp [pidx]
 | a :: l,k=>by
  rw [pidx,List.any_cons];cases h:Qeu r a
  ·rw [if_neg (by simp),pidx_any r l (k+1)];rfl
  ·rw [if_pos rfl];simp
theorem pns_drop (l:List Pn) (k:Nat) (h:k<l.length):l.drop k=l.getD k pn0 :: l.drop (k+1):=by
 rw [List.getD_eq_getElem?_getD,List.getElem?_eq_getElem h];exact List.drop_eq_getElem_cons h
def QcU (ah:List Pn) (r:ByteArray):Int:=if Qc7 r=false then 2 else if ah.any (Qeu r)=true then 8 else 0
set_option maxHeartbeats 1000000 in
theorem plRefIs_any (p:Pn) (r:ByteArray) (B:Nat) (w:World) (hB:w.cell? ⟨B,0,none⟩=some (.string r)) (hlt:B<w.heap.size) :
  Calls prog 137 #[.agg p.cells,.pointer (some ⟨B,0,none⟩)] w fun e w'=>e=.returned (.bool (Qeu r p))∧Below w.heap.size w w':=by
 have b0:Below w.heap.size w (w.alloc (.cells p.cells 93)):=(Below.refl _ w).alloc (Nat.le_refl _) _;have hB2:(w.alloc (.cells p.cells 93)).cell? ⟨B,0,none⟩=some (.string r):=(b0.cell (p:=⟨B,0,none⟩) hlt).trans hB;obtain ⟨a0,a1,a2,a3,a4,a5,a6,a7⟩:=p;simp only [Pn.cells] at b0 hB2 ⊢;by_cases h:a0=r
 ·subst h;have e1:Qeu a0 ⟨a0,a1,a2,a3,a4,a5,a6,a7⟩=true:=by simp [Qeu]
  rw [e1];go_enter func137,ntmps137
  go_wp2;go_ret;exact ⟨rfl,b0⟩
 ·have e1:Qeu r ⟨a0,a1,a2,a3,a4,a5,a6,a7⟩=false:=by simp [Qeu,h]
  have h':=QeB h;rw [e1];go_enter func137,ntmps137
  go_wp2;go_ret;exact ⟨by rw [← h'];rfl,b0⟩
set_option maxHeartbeats 1000000 in
theorem plIdx_any (a:Option Addr) (cap:Nat) (l:List Pn) (r:ByteArray) (B:Nat) (w:World) (hlen:l.length≤1000) (h:Qe6 w a l cap) (hB:w.cell? ⟨B,0,none⟩=some (.string r)) (hlt:B<w.heap.size) :
  Calls prog 176 #[.slice a l.length cap,.func (.func 137) #[] #[.pointer (some ⟨B,0,none⟩)]] w fun e w'=>e=.returned (.int .i64 (pidx r 0 l))∧Below w.heap.size w w':=by
 have eg:∀ args W,(callFunc 137 args).run prog W=.ok (.enter 137 args) W:=fun args W=>QaL func137 (by kernel_rfl) ⟨_,rfl⟩ args W
 have Hp:Hid (∀ x W,Below w.heap.size w W→Calls prog 137 #[.agg x.cells,.pointer (some ⟨B,0,none⟩)] W fun e w'=>e=.returned (.bool (Qeu r x))∧Below W.heap.size W w'):=fun x W hW=>plRefIs_any x r B W ((hW.cell (p:=⟨B,0,none⟩) hlt).trans hB) (by have:=hW.size;omega)
 have Hc:Hid (Qe6 w a l cap):=h;have hl1:(l.length:Int)≤1000:=by omega
 clear h hB;obtain ⟨res,hres⟩:∃ res,pidx r 0 l=res:=⟨_,rfl⟩;have Hres:Hid (pidx r 0 l=res):=hres;rw [hres];clear hres;go_enter func176,ntmps176
 go_wp2;go_loopw [8] (fun i wr=>∃ k:Nat,k≤l.length∧i=.int .i64 k∧Hid (pidx r k (l.drop k)=res)∧Below w.heap.size w wr) (fun i _=>l.length - (RowKit.intOf i).toNat)
 case atStart=>exact ⟨0,Nat.zero_le _,rfl,Hres.out,Below.refl _ _⟩
 case round=>
  obtain ⟨k,hk,rfl,H,BW⟩:=hrel;by_cases hkl:k<l.length
  ·obtain ⟨b,off,e,hb,hn⟩:=(Hc.out.below BW).at hkl;subst e;have hcall:=Hp.out (l.getD k pn0) wr BW;have E:Hid ((if Qeu r (l.getD k pn0)=true then (k:Int) else pidx r (k+1) (l.drop (k+1)))=res):=by
    have:=H.out
    rw [pns_drop l k hkl] at this;exact this
   clear H;generalize l.getD k pn0=x at *
   obtain ⟨a0,a1,a2,a3,a4,a5,a6,a7⟩:=x;obtain ⟨c0,c1,c2,c3,c4,c5,c6,c7⟩:=hn;simp only [Pn.cells] at c0 c1 c2 c3 c4 c5 c6 c7 hcall;have i0:(0:Int)≤k:=by omega
   have i1:(k:Int)<l.length:=by omega
   cases hq:Qeu r ⟨a0,a1,a2,a3,a4,a5,a6,a7⟩
   ·rw [hq] at hcall;have HN:Hid (pidx r (k+1) (l.drop (k+1))=res):=by
     have:=E.out;rw [if_neg (by rw [hq];simp)] at this;exact this
    go_wp2_with (go_at_fn 137;refine hcall.mono ?_;rintro e w' ⟨rfl,hb'⟩);go_roundw
    case rel=>exact ⟨k+1,by omega,by go_num,HN,BW.trans (hb'.mono BW.size)⟩
    case measure=>simp [RowKit.intOf];omega
   ·rw [hq] at hcall;have er:res=k:=by rw [← E.out,if_pos hq]
    subst er;go_wp2_with (go_at_fn 137;refine hcall.mono ?_;rintro e w' ⟨rfl,hb'⟩);go_ret;exact ⟨rfl,BW.trans (hb'.mono BW.size)⟩
  ·have hk2:k=l.length:=by omega
   subst hk2;have er:res = -1:=by rw [← H.out,List.drop_length];rfl
   subst er;go_wp2;go_ret;exact ⟨rfl,BW⟩
theorem plHas_any (a:Option Addr) (cap:Nat) (l:List Pn) (r:ByteArray) (B:Nat) (w:World) (hlen:l.length≤1000) (h:Qe6 w a l cap) (hB:w.cell? ⟨B,0,none⟩=some (.string r)) (hlt:B<w.heap.size) :
  Calls prog 136 #[.slice a l.length cap,.func (.func 137) #[] #[.pointer (some ⟨B,0,none⟩)]] w fun e w'=>e=.returned (.bool (l.any (Qeu r)))∧Below w.heap.size w w':=by
 rw [← pidx_any r l 0];have hI:=plIdx_any a cap l r B w hlen h hB hlt;clear h;go_enter func136,ntmps136
 go_wp2_with fail;refine hI.mono ?_;rintro e w' ⟨rfl,hb⟩;go_wp2;go_ret;exact ⟨rfl,hb⟩
set_option maxHeartbeats 1000000 in
theorem checkRef_any (a:Option Addr) (cap:Nat) (l:List Pn) (r:ByteArray) (w:World) (hlen:l.length≤1000) (h:Qe6 w a l cap) :
  Calls prog 83 #[.slice a l.length cap,.string r] w fun e w'=>e=.returned (chE (QcU l r))∧Below w.heap.size w w':=by
 obtain ⟨w0,hw0⟩:∃ w0,w.alloc (.cells #[.string r] 9)=w0:=⟨_,rfl⟩;have b0:Below w.heap.size w w0:=by rw [← hw0];exact (Below.refl _ w).alloc (Nat.le_refl _) _
 have k0:w0.cell? ⟨w.heap.size,0,none⟩=some (.string r):=by rw [← hw0];simp
 have hs:w.heap.size<w0.heap.size:=by rw [← hw0];simp
 have HI:Hid (Calls _ _ _ _ _):=plIsRef_any r w0;have HK:Hid (∀ W,Below w0.heap.size w0 W→W.cell? ⟨w.heap.size,0,none⟩=some (.string r)∧Below w.heap.size w W∧Calls prog 136 #[.slice a l.length cap,.func (.func 137) #[] #[.pointer (some ⟨w.heap.size,0,none⟩)]] W fun e w'=>e=.returned (.bool (l.any (Qeu r)))∧Below W.heap.size W w'):=fun W hW=>by
  have k1:=(hW.cell (p:=⟨w.heap.size,0,none⟩) hs).trans k0;exact ⟨k1,b0.trans (hW.mono (by omega)),plHas_any a cap l r w.heap.size W hlen ((h.below b0).below hW) k1 (by have:=hW.size;omega)⟩
 obtain ⟨res,hres⟩:∃ res,QcU l r=res:=⟨_,rfl⟩;have Hres:Hid (QcU l r=res):=hres;rw [hres];have HW0:Hid (_=w0):=hw0;clear hres h hw0 b0 hs;cases hr:Qc7 r
 ·rw [hr] at HI;have er:res=2:=by rw [← Hres.out];unfold QcU;rw [if_pos hr]
  subst er;rw [Qae (by decide)]
  clear Hres;go_enter func83,ntmps83
  go_upto_region 1 with fail
  rw [HW0.out];clear HW0;go_wp2_with fail;refine HI.out.mono ?_;rintro e w1 ⟨rfl,hb1⟩;have B1:=(HK.out w1 hb1).2.1;clear HI HK hb1 k0;go_wp2;go_ret;exact ⟨rfl,B1⟩
 rw [hr] at HI;have HR1:Hid ((if l.any (Qeu r)=true then (8:Int) else 0)=res):=by
  have:=Hres.out
  unfold QcU at this;rw [if_neg (by rw [hr];simp:¬ Qc7 r=false)] at this
  exact this
 clear Hres hr;cases ha:l.any (Qeu r)
 ·rw [ha] at HK HR1;have er:res=0:=by rw [← HR1.out];rfl
  subst er;rw [Qaj];clear HR1 ha;go_enter func83,ntmps83
  go_upto_region 1 with fail
  rw [HW0.out];clear HW0;go_wp2_with fail;refine HI.out.mono ?_;rintro e w1 ⟨rfl,hb1⟩;obtain ⟨k1,B1,hC⟩:=HK.out w1 hb1;have HC:Hid (Calls _ _ _ _ _):=hC;clear HI HK hb1 k0 hC;go_wp2_with fail;refine HC.out.mono ?_;rintro e w2 ⟨rfl,hb2⟩;have B2:=B1.trans (hb2.mono B1.size);clear HC hb2;go_wp2;go_ret;exact ⟨rfl,B2⟩
 ·rw [ha] at HK HR1;have er:res=8:=by rw [← HR1.out];rfl
  subst er;rw [Qae (by decide)]
  clear HR1 ha;go_enter func83,ntmps83
  go_upto_region 1 with fail
  rw [HW0.out];clear HW0;go_wp2_with fail;refine HI.out.mono ?_;rintro e w1 ⟨rfl,hb1⟩;obtain ⟨k1,B1,hC⟩:=HK.out w1 hb1;have HC:Hid (Calls _ _ _ _ _):=hC;clear HI HK hb1 k0 hC;go_wp2_with fail;refine HC.out.mono ?_;rintro e w2 ⟨rfl,hb2⟩;have B2:=B1.trans (hb2.mono B1.size);clear HC hb2;go_wp2;go_ret;exact ⟨rfl,B2⟩
end
end Go.Proofs.YtibhgngboljhfaaGreatDoor
