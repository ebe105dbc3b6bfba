/-
  Part of a proof (see the last text).
-/
import Derived.Test.YtjifbbdkpanagaaGreatDoorZd19
set_option linter.unusedVariables false
set_option linter.unusedSimpArgs false
set_option maxRecDepth 100000
namespace Go.Proofs.YtjifbbdkpanagaaGreatDoor
section
open Go.RowKit Go.Lib Math Go.Proofs.Tryz
end
section
open Go.RowKit Go.Lib Go.Proofs.Tryz
structure Qa9 (X:Nat→Prop) (W U:World):Prop where
 os:U.os=W.os
 tape:U.tape=W.tape
 output:U.output=W.output
 size:W.heap.size≤U.heap.size
 block:∀ b,b<W.heap.size→¬ X b→U.heap[b]? = W.heap[b]?
theorem Qa9.refl (X:Nat→Prop) (W:World):Qa9 X W W:=⟨rfl,rfl,rfl,Nat.le_refl _,fun _ _ _=>rfl⟩
theorem Qa9.trans {X:Nat→Prop} {W V U:World} (h:Qa9 X W V) (k:Qa9 X V U):Qa9 X W U:=
 ⟨k.os.trans h.os,k.tape.trans h.tape,k.output.trans h.output,Nat.le_trans h.size k.size,fun b hb hx=>(k.block b (Nat.lt_of_lt_of_le hb h.size) hx).trans (h.block b hb hx)⟩
theorem Qa9.of_below {X:Nat→Prop} {W U:World} (h:Below W.heap.size W U):Qa9 X W U:=⟨h.os,h.tape,h.output,h.size,fun b hb _=>h.block b hb⟩
theorem Qa9.mono {X Y:Nat→Prop} {W U:World} (h:Qa9 X W U) (hy:∀ b,X b→Y b):Qa9 Y W U:=⟨h.os,h.tape,h.output,h.size,fun b hb hn=>h.block b hb fun hx=>hn (hy b hx)⟩
theorem Qa9.below {X:Nat→Prop} {W U:World} {n:Nat} (h:Qa9 X W U) (hn:n≤W.heap.size) (hx:∀ b,X b→n≤b):Below n W U:=
 ⟨h.os,h.tape,h.output,h.size,fun b hb=>h.block b (Nat.lt_of_lt_of_le hb hn) fun hh=>by have:=hx b hh;omega⟩
def RMap (W:World) (bm:Nat) (L:List ByteArray):Prop:=∃ rs,SMap W bm rs∧∀ s,s∈rs↔s∈L
theorem RMap.of {W W':World} {bm:Nat} {L:List ByteArray} (h:RMap W bm L) (hb:W'.heap[bm]? = W.heap[bm]?):RMap W' bm L:=by
 obtain ⟨rs,h1,h2⟩:=h;exact ⟨rs,h1.of hb,h2⟩
theorem RMap.lt {W:World} {bm:Nat} {L:List ByteArray} (h:RMap W bm L):bm<W.heap.size:=by
 obtain ⟨rs,⟨es,c,h1,_⟩,_⟩:=h;exact (Array.getElem?_eq_some_iff.1 h1).1
theorem RMap.isMap {W:World} {bm:Nat} {L:List ByteArray} (h:RMap W bm L):∃ es c,W.heap[bm]? = some (.map es c):=by
 obtain ⟨rs,⟨es,c,h1,_⟩,_⟩:=h;exact ⟨es,c,h1⟩
theorem run_rlook {W:World} {bm:Nat} {L:List ByteArray} (h:RMap W bm L) (s:ByteArray):(Instr.lookup 117 (.map (some bm)) (.string s) true).run prog W=.ok (.tuple #[.agg #[],.bool (QeF L s)]) W:=by
 obtain ⟨rs,h1,h2⟩:=h;have e:QeF rs s=QeF L s:=by
  cases hq:QeF L s with
  | true=>exact QeX.2 ((h2 s).2 (QeX.1 hq))
  | false=>exact Qh5.2 fun hh=>Qh5.1 hq ((h2 s).1 hh)
 rw [← e];exact run_slook h1 s
theorem sfind_old:∀ (es:List MapEntry) (rs:List ByteArray) (s:ByteArray) (i:Nat),es.map (·.key)=rs.map Value.string→(∀ e∈es,e.val=.agg #[])→s∈rs→∃ j e,Instr.findNow .string (.string s) es i=some (some (i+j,.agg #[]))∧es[j]? = some e∧e.key=.string s
 | [],rs,s,_,h,_,hs=>by
  have:rs=[]:=by simpa using h.symm
  rw [this] at hs;simp at hs
 | e :: es,[],_,_,h,_,_=>by simp at h
 | e :: es,r :: rs,s,i,h,hv,hs=>by
  simp only [List.map_cons,List.cons.injEq] at h;by_cases hq:s=r
  ·subst hq;refine ⟨0,e,?_,rfl,h.1⟩;unfold Instr.findNow;simp only [h.1,Instr.sameNow,(MapKept.bytes_beq s s).2 rfl];rw [hv e (by simp)]
   rfl
  ·have hne:(s == r)=false:=by cases hq':(s == r) with | false=>rfl | true=>exact absurd ((MapKept.bytes_beq s r).1 hq') hq
   obtain ⟨j,e',h1,h2,h3⟩:=sfind_old es rs s (i+1) h.2 (fun x hx=>hv x (by simp [hx])) (by rcases List.mem_cons.1 hs with e | e;exact absurd e hq;exact e)
   refine ⟨j+1,e',?_,by simpa using h2,h3⟩
   unfold Instr.findNow;simp only [h.1,Instr.sameNow,hne];rw [h1,show i+1+j=i+(j+1) by omega]
theorem run_sset {W:World} {mb:Nat} {es:Array MapEntry} {c:Nat} (h:W.heap[mb]? = some (.map es c)) {k:Nat} {s:ByteArray} {x:Value} {e:MapEntry} (f:Instr.findNow .string (.string s) es.toList 0=some (some (k,x))) (he:es[k]? = some e) (hk:e.key=.string s) :
  (Instr.mapUpdate 117 (.map (some mb)) (.string s) (.agg #[])).run prog W=.ok () { W with heap:=W.heap.setIfInBounds mb (.map (es.modify k fun e=>{ e with key:=.string s,val:=.agg #[] }) c) }:=by
 have hss:(s == s)=true:=(MapKept.bytes_beq s s).2 rfl;simp [Instr.mapUpdate,run_underlying underlying117,MapKept.run_getObj_map h,QeA,MapKept.run_findKey underlying9 f,MapKept.run_setObj_map _ h,Result.andThen,Instr.keyThatStays,he,hk,Instr.sameBits,hss]
theorem run_rput {W:World} {bm:Nat} {L:List ByteArray} (h:RMap W bm L) (s:ByteArray) :
  ∃ W',(Instr.mapUpdate 117 (.map (some bm)) (.string s) (.agg #[])).run prog W=.ok () W'∧RMap W' bm (L++[s])∧W'.os=W.os∧W'.tape=W.tape∧W'.output=W.output∧W'.heap.size=W.heap.size∧∀ b,b≠bm→W'.heap[b]? = W.heap[b]?:=by
 obtain ⟨rs,h1,h2⟩:=h;by_cases hs:s∈rs
 ·obtain ⟨es,c,g1,g2,g3⟩:=h1;have hlt:bm<W.heap.size:=(Array.getElem?_eq_some_iff.1 g1).1;obtain ⟨j,e,f1,f2,f3⟩:=sfind_old es.toList rs s 0 g2 g3 hs;rw [Nat.zero_add] at f1;have he:es[j]? = some e:=by simpa using f2
  refine ⟨_,run_sset g1 f1 he f3,⟨rs,⟨es.modify j fun e=>{ e with key:=.string s,val:=.agg #[] },c,by simp [hlt],?_,?_⟩,fun x=>?_⟩,rfl,rfl,rfl,by simp,fun b hb=>Array.getElem?_setIfInBounds_ne (fun e=>hb e.symm)⟩
  ·rw [← g2];apply List.ext_getElem?;intro i;rw [List.getElem?_map,List.getElem?_map,Array.getElem?_toList,Array.getElem?_toList,Array.getElem?_modify];by_cases hi:j=i
   ·subst hi;rw [if_pos rfl,he];simp [f3]
   ·rw [if_neg hi]
  ·intro x hx;obtain ⟨i,hi,rfl⟩:=List.getElem_of_mem hx;have hi2:i<es.size:=by simpa using hi
   by_cases hj:j=i
   ·subst hj;simp
   ·have e1:(es.modify j fun e=>{ e with key:=.string s,val:=.agg #[] })[i]? = es[i]?:=by rw [Array.getElem?_modify,if_neg hj]
    have e2:=g3 es[i] (by simp)
    have hi3:i<(es.modify j fun e=>{ e with key:=.string s,val:=.agg #[] }).size:=by simpa using hi2
    rw [Array.getElem?_eq_getElem hi3,Array.getElem?_eq_getElem hi2] at e1;have e3:(es.modify j fun e=>{ e with key:=.string s,val:=.agg #[] })[i]=es[i]:=by simpa using e1
    rw [Array.getElem_toList,e3];exact e2
  ·rw [h2 x,List.mem_append,List.mem_singleton];constructor
   ·exact .inl
   ·rintro (hh | rfl)
    ·exact hh
    ·exact (h2 _).1 hs
 ·obtain ⟨W',k1,k2,k3⟩:=run_sput h1 s hs;exact ⟨W',k1,⟨rs++[s],k2,fun x=>by rw [List.mem_append,List.mem_append,h2 x]⟩,k3⟩
structure Cs where
 c:List Ac
 T:Int×DataW Unit
 base:ByteArray
 gain:ByteArray
 kept:ByteArray
 pn:List Pn
 po:List Po
 pr:List Pr
 es:List Je
 st:List (Int×Int)
structure Cp where
 ca:Option Addr
 cc:Nat
 ra:Option Addr
 rl:Nat
 rc:Nat
 pna:Option Addr
 pnc:Nat
 poa:Option Addr
 poc:Nat
 pra:Option Addr
 prc:Nat
 ea:Option Addr
 ec:Nat
 bm:Nat
 bs:Nat
def Qbq (P:Cp) (S:Cs):Array Value:=#[.slice P.ca S.c.length P.cc,.slice P.ra P.rl P.rc,.string S.base,.string S.gain,.string S.kept,.slice P.pna S.pn.length P.pnc,.slice P.poa S.po.length P.poc,.slice P.pra S.pr.length P.prc,.slice P.ea S.es.length P.ec,.map (some P.bm),.map (some P.bs)]
structure Dat (U:World) (P:Cp) (S:Cs):Prop where
 ch:Qcm U P.ca S.c P.cc
 rt:∀ V,Below U.heap.size U V→Calls prog 76 #[.slice P.ra P.rl P.rc] V (Qc0 V S.T)
 pn:IsPn U P.pna S.pn P.pnc
 po:IsPs U P.poa S.po P.poc
 pr:IsPr U P.pra S.pr P.prc
def clX (B:Nat) (P:Cp) (m0 b:Nat):Prop:=b=B∨b=P.bm∨b=P.bs∨m0≤b
structure ClOk (S:Cs):Prop where
 c:QaC S.c=0
 T:S.T.1=0
 g:QbU S.T.2
 b:Qat S.base=true
 ga:Qaa S.c S.gain=0
 ke:Qaa S.c S.kept=0
 pn:Qcx S.c S.pn=0
 po:Qea S.c S.po=0
 pr:Qcw S.c S.pr=0
 len:S.es.length≤200
 lns:∀ x∈S.es,x.lns.length≤20∧∀ y∈x.lns,(-1000000000000000≤y.amt∧y.amt≤1000000000000000)∧Qaa S.c y.acc=0∧Qat y.cur=true
 per:∀ x∈S.es,Qav x.per 120=true∧Qav x.ent 12=true
 sg:∀ p,0≤Qa2 S.st p∧Qa2 S.st p≤6
 st:∀ x∈S.st,Qav x.1 120=true
structure Qcf (W:World) (n0 m0 B:Nat) (P:Cp) (S:Cs):Prop where
 box:W.heap[B]? = some (.cells (Qbq P S) 123 (0,0))
 refs:RMap W P.bm (S.es.map (·.ref))
 stg:IMap W P.bs S.st
 row:QbG W m0 (.slice P.ea S.es.length P.ec) S.es
 lns:∀ x∈S.es,Qag W m0 (.slice x.adr x.lns.length x.cap) x.lns
 data:∀ U,Qa9 (clX B P m0) W U→Dat U P S
 hB:n0≤B∧B<m0
 hm:n0≤P.bm∧P.bm<m0
 hs:n0≤P.bs∧P.bs<m0
 m0:m0≤W.heap.size
 ne:P.bm≠P.bs
section
variable {W:World} {n0 m0 B:Nat} {P:Cp} {S:Cs}
theorem Qcf.cell (h:Qcf W n0 m0 B P S) (i:Nat):W.cell? ⟨B,i,none⟩=(Qbq P S)[i]?:=by simp [World.cell?,h.box]
theorem Qcf.lt (h:Qcf W n0 m0 B P S):B<W.heap.size:=(Array.getElem?_eq_some_iff.1 h.box).1
theorem Qcf.dat (h:Qcf W n0 m0 B P S):Dat W P S:=h.data W (Qa9.refl _ _)
theorem IMap.lt {mb:Nat} {T:List (Int×Int)} (h:IMap W mb T):mb<W.heap.size:=(Array.getElem?_eq_some_iff.1 h).1
theorem Qcf.below {W':World} (h:Qcf W n0 m0 B P S) (hb:Below W.heap.size W W'):Qcf W' n0 m0 B P S:=
 ⟨(hb.block B h.lt).trans h.box,h.refs.of (hb.block _ h.refs.lt),(hb.block _ h.stg.lt).trans h.stg,h.row.below hb,fun x hx=>(h.lns x hx).below hb,fun U hU=>h.data U ((Qa9.of_below hb).trans hU),h.hB,h.hm,h.hs,Nat.le_trans h.m0 hb.size,h.ne⟩
theorem Qcf.isJs (h:Qcf W n0 m0 B P S):Qha W P.ea S.es P.ec:=by
 obtain ⟨a,c,e,h1,h2⟩:=h.row.lies;cases e;refine ⟨h1,h2,fun x hx=>?_⟩
 obtain ⟨a',c',e',h'⟩:=(h.lns x hx).isLn;cases e';exact h'
theorem Qhs (h:Qcf W n0 m0 B P S) (p:Int) :
  Calls prog 50 #[.pointer (some ⟨B,0,none⟩),.int .i64 p] W fun e w'=>e=.returned (.int .i64 (Qa2 S.st p))∧w'=W:=by
 have c10:W.cell? ⟨B,10,none⟩=some (.map (some P.bs)):=h.cell 10;have hr:=run_ilook h.stg p;generalize Qa2 S.st p=z at *
 clear h;go_enter func50,ntmps50
 go_wp2;go_ret;exact ⟨rfl,rfl⟩
end
end
end Go.Proofs.YtjifbbdkpanagaaGreatDoor
