/-
  Part of a proof (see the last text).
-/
import Derived.Test.YtijjhfkhkhigjaaGreatDoorZx5
import Derived.MapKept
import Derived.Maps.RangeRun
import Derived.Laws.IdiomRangeMap
import Derived.Laws.NewBlocks
import Derived.Test.YtijjhfkhkhigjaaGreatDoorZx0
import Derived.Deep.QuietTactic
import Derived.BigQuiet
import Derived.Test.YtijjhfkhkhigjaaGreatDoorZx4
import Derived.Deep.CutBlock
set_option linter.unusedVariables false
set_option linter.unusedSimpArgs false
set_option maxRecDepth 100000
namespace Go.Proofs.YtijjhfkhkhigjaaGreatDoor
open Go.RowKit Go.Lib
theorem jln_src {W:World} {b off:Nat} {l:List Ln} (h:LnsAt W b off l):∀ j u,(lnRow l)[j]? = some u→W.cell? ((⟨b,off,none⟩:Addr).add j)=some u:=by
 intro j u hj
 rw [Addr.add_lit]
 obtain ⟨q,r,hr,rfl⟩:∃ q r,r<3∧j=q*3+r:=⟨j / 3,j % 3,Nat.mod_lt _ (by omega),by omega⟩
 have hlt:=(List.getElem?_eq_some_iff.1 hj).1
 rw [lnRow_length] at hlt
 have hq:q<l.length:=by omega
 rw [lnRow_get l q r hq hr] at hj
 have:=h q hq
 rcases (by omega:r=0∨r=1∨r=2) with rfl | rfl | rfl
 ·rw [← hj,Nat.add_zero,this.c0];rfl
 ·rw [← hj,← Nat.add_assoc,this.c1];rfl
 ·rw [← hj,← Nat.add_assoc,this.c2];rfl
end Go.Proofs.YtijjhfkhkhigjaaGreatDoor
namespace Go.Proofs.YtijjhfkhkhigjaaGreatDoor
open Go.RowKit Go.Lib
def ient:List (Int×Int)→Nat→List MapEntry
 | [],_=>[]
 | x :: S,i=>⟨.int .i64 x.1,.int .i64 x.2,i⟩ :: ient S (i+1)
def sgOf:List (Int×Int)→Int→Int
 | [],_=>0
 | x :: S,p=>if p=x.1 then x.2 else sgOf S p
def sgHas:List (Int×Int)→Int→Bool
 | [],_=>false
 | x :: S,p=>if p=x.1 then true else sgHas S p
def sgPut:List (Int×Int)→Int→Int→List (Int×Int)
 | [],p,v=>[(p,v)]
 | x :: S,p,v=>if p=x.1 then (p,v) :: S else x :: sgPut S p v
theorem sgOf_put:∀ (S:List (Int×Int)) (p v q:Int),sgOf (sgPut S p v) q=if q=p then v else sgOf S q
 | [],p,v,q=>by simp [sgPut,sgOf]
 | x :: S,p,v,q=>by
  unfold sgPut
  by_cases h:p=x.1
  ·rw [if_pos h]
   by_cases h2:q=p
   ·rw [if_pos h2];simp [sgOf,h2]
   ·rw [if_neg h2]
    have h3:¬ q=x.1:=fun e=>h2 (e.trans h.symm)
    simp [sgOf,h2,h3]
  ·rw [if_neg h]
   have ih:=sgOf_put S p v q
   unfold sgOf
   by_cases h2:q=x.1
   ·have h3:¬ q=p:=fun e=>h (e.symm.trans h2)
    rw [if_pos h2,if_neg h3,if_pos h2]
   ·rw [if_neg h2,ih,if_neg h2]
theorem ient_len:∀ (S:List (Int×Int)) (i:Nat),(ient S i).length=S.length
 | [],_=>rfl
 | x :: S,i=>by simp [ient,ient_len S (i+1)]
theorem ient_snoc:∀ (S:List (Int×Int)) (x:Int×Int) (i:Nat),ient (S++[x]) i=ient S i++[⟨.int .i64 x.1,.int .i64 x.2,i+S.length⟩]
 | [],x,i=>rfl
 | y :: S,x,i=>by
  have:=ient_snoc S x (i+1)
  simp only [List.cons_append,ient,this,List.length_cons]
  rw [show i+1+S.length=i+(S.length+1) by omega]
theorem sgPut_new:∀ (S:List (Int×Int)) (p v:Int),sgHas S p=false→sgPut S p v=S++[(p,v)]
 | [],_,_,_=>rfl
 | x :: S,p,v,h=>by
  unfold sgHas at h
  split at h
  ·cases h
  ·rename_i h1
   rw [sgPut,if_neg h1,sgPut_new S p v h];rfl
theorem ient_none:∀ (S:List (Int×Int)) (p:Int) (i j:Nat),sgHas S p=false→Instr.findNow (.int .i64) (.int .i64 p) (ient S i) j=some none
 | [],_,_,_,_=>rfl
 | x :: S,p,i,j,h=>by
  unfold sgHas at h
  split at h
  ·cases h
  ·rename_i h1
   have hne:(p == x.1)=false:=by rw [beq_eq_false_iff_ne];exact h1
   simp only [ient]
   unfold Instr.findNow
   simp only [Instr.sameNow,hne]
   exact ient_none S p (i+1) (j+1) h
theorem ient_some:∀ (S:List (Int×Int)) (p:Int) (i j:Nat),sgHas S p=true→∃ k,k<S.length∧Instr.findNow (.int .i64) (.int .i64 p) (ient S i) j=some (some (j+k,.int .i64 (sgOf S p)))∧(ient S i)[k]? = some ⟨.int .i64 p,.int .i64 (sgOf S p),i+k⟩∧∀ v,ient (sgPut S p v) i=(ient S i).set k ⟨.int .i64 p,.int .i64 v,i+k⟩
 | [],_,_,_,h=>by cases h
 | x :: S,p,i,j,h=>by
  unfold sgHas at h
  by_cases h1:p=x.1
  ·refine ⟨0,by simp,?_,?_,fun v=>?_⟩
   ·simp only [ient]
    unfold Instr.findNow
    simp [Instr.sameNow,h1,sgOf]
   ·simp [ient,sgOf,h1]
   ·simp [sgPut,h1,ient]
  ·rw [if_neg h1] at h
   obtain ⟨k,k1,k2,k3,k4⟩:=ient_some S p (i+1) (j+1) h
   have hne:(p == x.1)=false:=by rw [beq_eq_false_iff_ne];exact h1
   refine ⟨k+1,by simp;exact k1,?_,?_,fun v=>?_⟩
   ·simp only [ient]
    unfold Instr.findNow
    simp only [Instr.sameNow,hne]
    rw [k2,sgOf,if_neg h1,show j+1+k=j+(k+1) by omega]
    simp
   ·simp only [ient,List.getElem?_cons_succ,k3,sgOf,if_neg h1]
    rw [show i+1+k=i+(k+1) by omega]
   ·simp only [sgPut,if_neg h1,ient,List.set_cons_succ,k4 v]
    rw [show i+1+k=i+(k+1) by omega]
theorem ient_get:∀ (S:List (Int×Int)) (i k:Nat),k<S.length→(ient S i)[k]? = some ⟨.int .i64 (S.getD k (0,0)).1,.int .i64 (S.getD k (0,0)).2,i+k⟩
 | [],_,_,h=>by simp at h
 | x :: S,i,0,_=>by simp [ient]
 | x :: S,i,k+1,h=>by
  have:=ient_get S (i+1) k (by simpa using h)
  simp only [ient,List.getElem?_cons_succ,this,List.getD_cons_succ]
  rw [show i+1+k=i+(k+1) by omega]
theorem ient_mem {S:List (Int×Int)} {e:MapEntry} (h:e∈ient S 0):∃ k,k<S.length∧e=⟨.int .i64 (S.getD k (0,0)).1,.int .i64 (S.getD k (0,0)).2,k⟩:=by
 obtain ⟨k,hk,e1⟩:=List.getElem_of_mem h
 rw [ient_len] at hk
 have h2:=ient_get S 0 k hk
 rw [List.getElem?_eq_getElem (by rw [ient_len];exact hk),e1] at h2
 exact ⟨k,hk,by simpa using h2⟩
theorem ient_born:∀ (S:List (Int×Int)) (i:Nat),(ient S i).map (·.born)=List.range' i S.length
 | [],_=>rfl
 | x :: S,i=>by simp [ient,ient_born S (i+1),List.range'_succ]
def IMap (W:World) (mb:Nat) (S:List (Int×Int)):Prop:=W.heap[mb]? = some (.map (ient S 0).toArray S.length)
theorem imap_zero (w:World):(zeroValue 3).run Tryz.prog w=.ok (.int .i64 0) w:=by kernel_rfl
theorem ikey_ok (w:World) (x:Int) (b:Bool):(Instr.checkKey b 10000 3 (.int .i64 x)).run Tryz.prog w=.ok () w:=
 MapKept.run_checkKey (k:=.int .i64 x) Tryz.underlying3 (by simp [MapKept.IsKey]) b 9999
theorem sgHas_of:∀ (S:List (Int×Int)) (p:Int),sgHas S p=false→sgOf S p=0
 | [],_,_=>rfl
 | x :: S,p,h=>by
  unfold sgHas at h
  split at h
  ·cases h
  ·rename_i h1
   rw [sgOf,if_neg h1];exact sgHas_of S p h
theorem run_ilook {W:World} {mb:Nat} {S:List (Int×Int)} (h:IMap W mb S) (p:Int):(Instr.lookup 62 (.map (some mb)) (.int .i64 p) false).run Tryz.prog W=.ok (.int .i64 (sgOf S p)) W:=by
 cases hq:sgHas S p with
 | false=>
  have f:=ient_none S p 0 0 hq
  rw [sgHas_of S p hq]
  simp [Instr.lookup,run_underlying Tryz.underlying62,MapKept.run_getObj_map h,ikey_ok,MapKept.run_findKey Tryz.underlying3 f,imap_zero,Result.andThen]
 | true=>
  obtain ⟨k,k1,k2,k3,k4⟩:=ient_some S p 0 0 hq
  simp [Instr.lookup,run_underlying Tryz.underlying62,MapKept.run_getObj_map h,ikey_ok,MapKept.run_findKey Tryz.underlying3 k2,Result.andThen]
theorem run_iset {W:World} {mb:Nat} {es:Array MapEntry} {c:Nat} (h:W.heap[mb]? = some (.map es c)) {k b:Nat} {p v:Int} {x y:Value} (f:Instr.findNow (.int .i64) (.int .i64 p) es.toList 0=some (some (k,x))) (he:es[k]? = some ⟨.int .i64 p,y,b⟩) :
  (Instr.mapUpdate 62 (.map (some mb)) (.int .i64 p) (.int .i64 v)).run Tryz.prog W=.ok () { W with heap:=W.heap.setIfInBounds mb (.map (es.modify k fun e=>{ e with key:=.int .i64 p,val:=.int .i64 v }) c) }:=by
 simp [Instr.mapUpdate,run_underlying Tryz.underlying62,MapKept.run_getObj_map h,ikey_ok,MapKept.run_findKey Tryz.underlying3 f,MapKept.run_setObj_map _ h,Result.andThen,Instr.keyThatStays,he,Instr.sameBits]
theorem run_iput {W:World} {mb:Nat} {S:List (Int×Int)} (h:IMap W mb S) (p v:Int) :
  ∃ W',(Instr.mapUpdate 62 (.map (some mb)) (.int .i64 p) (.int .i64 v)).run Tryz.prog W=.ok () W'∧IMap W' mb (sgPut S p v)∧W'.os=W.os∧W'.tape=W.tape∧W'.output=W.output∧W'.heap.size=W.heap.size∧∀ b,b≠mb→W'.heap[b]? = W.heap[b]?:=by
 have hlt:mb<W.heap.size:=(Array.getElem?_eq_some_iff.1 h).1
 cases hq:sgHas S p with
 | false=>
  have f:=ient_none S p 0 0 hq
  refine ⟨{ W with heap:=W.heap.setIfInBounds mb (.map ((ient S 0).toArray.push ⟨.int .i64 p,.int .i64 v,S.length⟩) (S.length+1)) },?_,?_,rfl,rfl,rfl,by simp,fun b hb=>Array.getElem?_setIfInBounds_ne (fun e=>hb e.symm)⟩
  ·simp [Instr.mapUpdate,run_underlying Tryz.underlying62,MapKept.run_getObj_map h,ikey_ok,MapKept.run_findKey Tryz.underlying3 f,MapKept.run_setObj_map _ h,Result.andThen]
  ·unfold IMap
   rw [sgPut_new S p v hq,ient_snoc]
   simp [hlt]
 | true=>
  obtain ⟨k,k1,k2,k3,k4⟩:=ient_some S p 0 0 hq
  have hj:k<(ient S 0).toArray.size:=by simp [ient_len];exact k1
  have he:(ient S 0).toArray[k]? = some ⟨.int .i64 p,.int .i64 (sgOf S p),k⟩:=by simpa using k3
  have hmod:((ient S 0).toArray.modify k fun e=>{ e with key:=.int .i64 p,val:=.int .i64 v })=(ient (sgPut S p v) 0).toArray:=by
   apply Array.ext'
   rw [k4 v]
   apply List.ext_getElem?
   intro i
   rw [Array.getElem?_toList,Array.getElem?_modify,List.getElem?_set]
   by_cases hi:k=i
   ·subst hi
    have e':(ient S 0).toArray[k]=⟨.int .i64 p,.int .i64 (sgOf S p),k⟩:=(Array.getElem?_eq_some_iff.1 he).2
    have e2:(ient S 0)[k]'(by simpa using hj)=⟨.int .i64 p,.int .i64 (sgOf S p),k⟩:=by simpa using e'
    simp [k3,e2,ient_len,k1]
   ·simp [hi]
  have hl:(sgPut S p v).length=S.length:=by
   have:=congrArg List.length (k4 v)
   rw [List.length_set,ient_len,ient_len] at this
   exact this
  refine ⟨{ W with heap:=W.heap.setIfInBounds mb (.map ((ient S 0).toArray.modify k fun e=>{ e with key:=.int .i64 p,val:=.int .i64 v }) S.length) },?_,?_,rfl,rfl,rfl,by simp,fun b hb=>Array.getElem?_setIfInBounds_ne (fun e=>hb e.symm)⟩
  ·have k2':Instr.findNow (.int .i64) (.int .i64 p) (ient S 0) 0=some (some (k,.int .i64 (sgOf S p))):=by rw [k2,Nat.zero_add]
   exact run_iset h (by simpa using k2') he
  ·unfold IMap
   rw [hmod,hl]
   simp [hlt]
end Go.Proofs.YtijjhfkhkhigjaaGreatDoor
namespace Go.Proofs.YtijjhfkhkhigjaaGreatDoor
open Go.RowKit Go.Lib
structure Ep where
 ref:ByteArray
 ent:Int
 per:Int
 lns:List Ln
def Je.ep (x:Je):Ep:=⟨x.ref,x.ent,x.per,x.lns⟩
structure Made (W:World) (n0:Nat) (v:Value) (L:List Je):Prop where
 row:JeRow W n0 v L
 lns:∀ x∈L,LnRow W n0 (.slice x.adr x.lns.length x.cap) x.lns
theorem Made.nil (W:World) (n0:Nat):Made W n0 (.slice none 0 0) []:=⟨JeRow.nil W n0,by simp⟩
theorem Made.below {W W':World} {n0:Nat} {v:Value} {L:List Je} (h:Made W n0 v L) (hb:Below W.heap.size W W'):Made W' n0 v L:=⟨h.row.below hb,fun x hx=>(h.lns x hx).below hb⟩
theorem Made.isJs {W:World} {n0:Nat} {v:Value} {L:List Je} (h:Made W n0 v L):∃ a cap,v=.slice a L.length cap∧IsJs W a L cap:=by
 obtain ⟨a,cap,e,h1,h2⟩:=h.row.lies
 refine ⟨a,cap,e,h1,h2,fun x hx=>?_⟩
 obtain ⟨a',c',e',h'⟩:=(h.lns x hx).isLn
 cases e'
 exact h'
theorem made_typ {w:World} {n:Nat} {v:Value} {xs:List Je} (h:JeRow w n v xs):∀ j,v.ownBlock=some j→∃ cs,w.heap[j]? = some (.cells cs 42 (0,0)):=fun j ej=>by
 rcases h.2 with ⟨rfl,_⟩ | ⟨g,cp,cur,rfl,hg,hh,_⟩
 ·cases ej
 ·cases ej;exact ⟨cur,hh⟩
theorem Made.add {W W1:World} {n0:Nat} {v v':Value} {L:List Je} {x:Je} (h:Made W n0 v L) (hx:LnRow W n0 (.slice x.adr x.lns.length x.cap) x.lns) (ho:W1.ownsRow n0 42 4 v' (L.length+1) (jeRow L++x.cells.toList)) (hg:W.grownBy W1 v.ownBlock):Made W1 n0 v' (L++[x]):=by
 have keep:∀ y:Je,LnRow W n0 (.slice y.adr y.lns.length y.cap) y.lns→LnRow W1 n0 (.slice y.adr y.lns.length y.cap) y.lns:=fun y hy=>by
  rcases hy.2 with ⟨hv,hn⟩ | ⟨g1,c1,cur,hv,hb1,hh,r⟩
  ·exact ⟨hy.1,.inl ⟨hv,hn⟩⟩
  ·refine ⟨hy.1,.inr ⟨g1,c1,cur,hv,hb1,(hg.block g1 (Array.getElem?_eq_some_iff.1 hh).1 fun e=>?_).trans hh,r⟩⟩
   obtain ⟨cs,h2⟩:=made_typ h.row g1 e.symm
   rw [hh] at h2
   cases h2
 refine ⟨?_,fun y hy=>?_⟩
 ·unfold JeRow
  rw [jeRow_append,jeRow_one,List.length_append]
  exact ho
 ·rcases List.mem_append.1 hy with hy | hy
  ·exact keep y (h.lns y hy)
  ·rw [List.mem_singleton] at hy
   subst hy
   exact keep _ hx
end Go.Proofs.YtijjhfkhkhigjaaGreatDoor
namespace Go.Proofs.YtijjhfkhkhigjaaGreatDoor
open Go.RowKit Go.Lib
structure Pn where
 ref:ByteArray
 ent:Int
 src:ByteArray
 dst:ByteArray
 cur:ByteArray
 amt:Int
 fst:Int
 per:Int
def pn0:Pn:=⟨ByteArray.empty,0,ByteArray.empty,ByteArray.empty,ByteArray.empty,0,0,0⟩
def Pn.cells (p:Pn):Array Value:=#[.string p.ref,.int .i64 p.ent,.string p.src,.string p.dst,.string p.cur,.int .i64 p.amt,.int .i64 p.fst,.int .i64 p.per]
structure PnAt (w:World) (b off:Nat) (p:Pn):Prop where
 c0:w.cell? ⟨b,off,none⟩=some (.string p.ref)
 c1:w.cell? ⟨b,off+1,none⟩=some (.int .i64 p.ent)
 c2:w.cell? ⟨b,off+2,none⟩=some (.string p.src)
 c3:w.cell? ⟨b,off+3,none⟩=some (.string p.dst)
 c4:w.cell? ⟨b,off+4,none⟩=some (.string p.cur)
 c5:w.cell? ⟨b,off+5,none⟩=some (.int .i64 p.amt)
 c6:w.cell? ⟨b,off+6,none⟩=some (.int .i64 p.fst)
 c7:w.cell? ⟨b,off+7,none⟩=some (.int .i64 p.per)
theorem PnAt.below {w w':World} {b off n:Nat} {p:Pn} (h:PnAt w b off p) (hb:Below n w w') (hn:b<n):PnAt w' b off p:=
 ⟨(hb.cell (p:=⟨b,off,none⟩) hn).trans h.c0,(hb.cell (p:=⟨b,off+1,none⟩) hn).trans h.c1,(hb.cell (p:=⟨b,off+2,none⟩) hn).trans h.c2,(hb.cell (p:=⟨b,off+3,none⟩) hn).trans h.c3,(hb.cell (p:=⟨b,off+4,none⟩) hn).trans h.c4,(hb.cell (p:=⟨b,off+5,none⟩) hn).trans h.c5,(hb.cell (p:=⟨b,off+6,none⟩) hn).trans h.c6,(hb.cell (p:=⟨b,off+7,none⟩) hn).trans h.c7⟩
theorem PnAt.new (w:World) (p:Pn) (t:TypeId):PnAt (w.alloc (.cells p.cells t)) w.heap.size 0 p:=
 ⟨by simp [Pn.cells],by simp [Pn.cells],by simp [Pn.cells],by simp [Pn.cells],by simp [Pn.cells],by simp [Pn.cells],by simp [Pn.cells],by simp [Pn.cells]⟩
structure IsPn (w:World) (a:Option Addr) (l:List Pn) (cap:Nat):Prop where
 cap:l.length≤cap
 lies:l=[]∨∃ b off,a=some ⟨b,off,none⟩∧b<w.heap.size∧∀ k,k<l.length→PnAt w b (off+k*8) (l.getD k pn0)
theorem IsPn.below {w w':World} {a:Option Addr} {l:List Pn} {cap:Nat} (h:IsPn w a l cap) (hb:Below w.heap.size w w'):IsPn w' a l cap:=by
 refine ⟨h.cap,?_⟩
 rcases h.lies with h | ⟨b,off,e,hlt,hc⟩
 ·exact .inl h
 ·exact .inr ⟨b,off,e,by have:=hb.size;omega,fun k hk=>(hc k hk).below hb hlt⟩
theorem IsPn.at {w:World} {a:Option Addr} {l:List Pn} {cap:Nat} (h:IsPn w a l cap) {k:Nat} (hk:k<l.length):∃ b off,a=some ⟨b,off,none⟩∧b<w.heap.size∧PnAt w b (off+k*8) (l.getD k pn0):=by
 rcases h.lies with rfl | ⟨b,off,e,hlt,hc⟩
 ·simp at hk
 ·exact ⟨b,off,e,hlt,hc k hk⟩
theorem IsPn.take {w:World} {a:Option Addr} {l:List Pn} {cap:Nat} (h:IsPn w a l cap) (k:Nat):IsPn w a (l.take k) cap:=by
 refine ⟨by have:=h.cap;simp;omega,?_⟩
 rcases h.lies with h | ⟨b,off,e,hlt,hc⟩
 ·exact .inl (by rw [h];simp)
 ·refine .inr ⟨b,off,e,hlt,fun j hj=>?_⟩
  simp only [List.length_take] at hj
  have:(l.take k).getD j pn0=l.getD j pn0:=by
   rw [List.getD_eq_getElem?_getD,List.getD_eq_getElem?_getD,List.getElem?_take,if_pos (by omega)]
  rw [this]
  exact hc j (by omega)
def spreadB (am fs pr:Int):Bool:=decide (am≠0) && (isAmtB am && (upTo pr 120 && upTo fs 120))
theorem spreadB_iff {am fs pr:Int}:spreadB am fs pr=true↔am≠0∧(-mostA≤am∧am≤mostA)∧(1≤pr∧pr≤120)∧(1≤fs∧fs≤120):=by
 simp only [spreadB,Bool.and_eq_true,decide_eq_true_eq,isAmtB_iff,upTo_iff]
def partN (am fs pr pe:Int):Int:=if pe - fs<0∨pr≤pe - fs then 0 else (am*(pe - fs+1)).tdiv pr - (am*(pe - fs)).tdiv pr
theorem pn_wrap {x:Int} (h1:-9223372036854775808≤x) (h2:x≤9223372036854775807):IntKind.i64.wrap x=x:=by
 simp only [IntKind.wrap,IntKind.bits,IntKind.signed]
 simp
 omega
theorem pn_mul {am k:Int} (h:-mostA≤am∧am≤mostA) (h0:0≤k) (h1:k≤120):-120000000000000000≤am*k∧am*k≤120000000000000000:=by
 unfold mostA at h
 have a1:am*k≤1000000000000000*k:=Int.mul_le_mul_of_nonneg_right h.2 h0
 have a2:-1000000000000000*k≤am*k:=Int.mul_le_mul_of_nonneg_right h.1 h0
 omega
theorem pn_tdiv {x p b:Int} (hb:-b≤x∧x≤b) (hp:1≤p):-b≤x.tdiv p∧x.tdiv p≤b:=by
 have key:∀ a:Int,0≤a→0≤a.tdiv p∧a.tdiv p≤a:=fun a ha=>by
  rw [Int.tdiv_eq_ediv_of_nonneg ha]
  exact ⟨Int.ediv_nonneg ha (by omega),Int.ediv_le_self _ ha⟩
 by_cases h:0≤x
 ·have:=key x h;omega
 ·have:=key (-x) (by omega)
  rw [Int.neg_tdiv] at this
  omega
theorem isSpread_any (p:Pn) (w:World) :
  Calls Tryz.prog 58 #[.agg p.cells] w fun e w'=>e=.returned (.bool (spreadB p.amt p.fst p.per))∧Below w.heap.size w w':=by
 have b0:Below w.heap.size w (w.alloc (.cells p.cells 77)):=(Below.refl _ w).alloc (Nat.le_refl _) _
 have H1:Hid (∀ W,Calls Tryz.prog 95 #[.int .i64 p.amt] W fun e w'=>e=.returned (.bool (isAmtB p.amt))∧w'=W):=fun W=>isAmount_any _ W
 have H2:Hid (∀ W,Calls Tryz.prog 19 #[.int .i64 p.per] W fun e w'=>e=.returned (.bool (upTo p.per 120))∧w'=W):=fun W=>isPeriod_any _ W
 have H3:Hid (∀ W,Calls Tryz.prog 19 #[.int .i64 p.fst] W fun e w'=>e=.returned (.bool (upTo p.fst 120))∧w'=W):=fun W=>isPeriod_any _ W
 obtain ⟨ref,en,fr,tw,cu,am,fs,pr⟩:=p
 obtain ⟨d0,d1,d2,d3,d4,d5,d6,d7⟩:=PnAt.new w ⟨ref,en,fr,tw,cu,am,fs,pr⟩ 77
 simp only [Pn.cells,Nat.zero_add] at b0 d0 d1 d2 d3 d4 d5 d6 d7 H1 H2 H3 ⊢
 obtain ⟨res,hres⟩:∃ res,spreadB am fs pr=res:=⟨_,rfl⟩
 have Hres:Hid (spreadB am fs pr=res):=hres
 rw [hres]
 clear hres
 by_cases h0:am=0
 ·have er:res=false:=by rw [← Hres.out];simp [spreadB,h0]
  subst er
  subst h0
  clear Hres
  go_enter Tryz.func58,Tryz.ntmps58
  go_wp2
  go_ret
  exact ⟨rfl,b0⟩
 have h0':(am != 0)=true:=by simpa using h0
 have h0'':(am == 0)=false:=by simpa using h0
 have HR1:Hid ((isAmtB am && (upTo pr 120 && upTo fs 120))=res):=by
  rw [← Hres.out];unfold spreadB Hid;rw [decide_eq_true h0,Bool.true_and]
 clear Hres
 cases h1:isAmtB am
 ·have er:res=false:=by rw [← HR1.out,h1];rfl
  subst er
  rw [h1] at H1
  clear HR1
  go_enter Tryz.func58,Tryz.ntmps58
  go_wp2_with (go_at_call 95;refine (H1.out _).mono ?_;rintro e w' ⟨rfl,rfl⟩)
  go_ret
  exact ⟨rfl,b0⟩
 rw [h1] at H1
 cases h2:upTo pr 120
 ·have er:res=false:=by rw [← HR1.out,h1,h2];rfl
  subst er
  rw [h2] at H2
  clear HR1
  go_enter Tryz.func58,Tryz.ntmps58
  go_wp2_with (first | (go_at_call 95;refine (H1.out _).mono ?_;rintro e w' ⟨rfl,rfl⟩) | (go_at_call 19;refine (H2.out _).mono ?_;rintro e w' ⟨rfl,rfl⟩))
  go_ret
  exact ⟨rfl,b0⟩
 rw [h2] at H2
 have er:res=upTo fs 120:=by rw [← HR1.out,h1,h2];rfl
 subst er
 clear HR1
 go_enter Tryz.func58,Tryz.ntmps58
 go_wp2_with (go_at_call 95;refine (H1.out _).mono ?_;rintro e w' ⟨rfl,rfl⟩)
 refine (H2.out _).mono ?_
 rintro e w' ⟨rfl,hw⟩
 rw [hw];clear hw w' H2
 go_wp2_with fail
 refine (H3.out _).mono ?_
 rintro e w' ⟨rfl,hw⟩
 rw [hw];clear hw w' H3
 go_wp2
 go_ret
 exact ⟨rfl,b0⟩
set_option maxHeartbeats 2000000 in
theorem plPart_any (p:Pn) (pe:Int) (w:World) (h:spreadB p.amt p.fst p.per=true) (hp:upTo pe 120=true) :
  Calls Tryz.prog 79 #[.agg p.cells,.int .i64 pe] w fun e w'=>e=.returned (.int .i64 (partN p.amt p.fst p.per pe))∧Below w.heap.size w w':=by
 have b0:Below w.heap.size w (w.alloc (.cells p.cells 77)):=(Below.refl _ w).alloc (Nat.le_refl _) _
 obtain ⟨ref,en,fr,tw,cu,am,fs,pr⟩:=p
 obtain ⟨d0,d1,d2,d3,d4,d5,d6,d7⟩:=PnAt.new w ⟨ref,en,fr,tw,cu,am,fs,pr⟩ 77
 simp only [Pn.cells,Nat.zero_add] at b0 d0 d1 d2 d3 d4 d5 d6 d7 h ⊢
 obtain ⟨_,ha,hq,hf⟩:=spreadB_iff.1 h
 have hp':=upTo_iff.1 hp
 have HB:Hid (∀ n,Below w.heap.size w ((w.alloc (.cells #[.string ref,.int .i64 en,.string fr,.string tw,.string cu,.int .i64 am,.int .i64 fs,.int .i64 pr] 77)).drewN n)):=fun n=>b0.trans ⟨rfl,rfl,rfl,Nat.le_refl _,fun _ _=>rfl⟩
 have e0:IntKind.i64.wrap (pe - fs)=pe - fs:=pn_wrap (by omega) (by omega)
 by_cases c1:pe - fs<0
 ·have er:partN am fs pr pe=0:=by unfold partN;rw [if_pos (.inl c1)]
  rw [er]
  clear h hp er HB
  go_enter Tryz.func79,Tryz.ntmps79
  go_wp2
  go_ret
  exact ⟨rfl,b0⟩
 by_cases c2:pr≤pe - fs
 ·have er:partN am fs pr pe=0:=by unfold partN;rw [if_pos (.inr c2)]
  rw [er]
  clear h hp er HB
  go_enter Tryz.func79,Tryz.ntmps79
  go_wp2
  go_ret
  exact ⟨rfl,b0⟩
 have er:partN am fs pr pe=(am*(pe - fs+1)).tdiv pr - (am*(pe - fs)).tdiv pr:=by unfold partN;rw [if_neg (by omega)]
 rw [er]
 obtain ⟨k,hk⟩:∃ k,pe - fs=k:=⟨_,rfl⟩
 have f0:IntKind.i64.wrap (pe - fs)=k:=e0.trans hk
 rw [hk] at c1 c2 ⊢
 have k1:k≤119:=by omega
 have m1:=pn_mul ha (k:=k+1) (by omega) (by omega)
 have m0:=pn_mul ha (k:=k) (by omega) (by omega)
 have q1:=pn_tdiv m1 hq.1
 have q0:=pn_tdiv m0 hq.1
 have e1:IntKind.i64.wrap (k+1)=k+1:=pn_wrap (by omega) (by omega)
 have e2:IntKind.i64.wrap (am*(k+1))=am*(k+1):=pn_wrap (by omega) (by omega)
 have e3:IntKind.i64.wrap (am*k)=am*k:=pn_wrap (by omega) (by omega)
 have e4:IntKind.i64.wrap ((am*(k+1)).tdiv pr)=(am*(k+1)).tdiv pr:=pn_wrap (by omega) (by omega)
 have e5:IntKind.i64.wrap ((am*k).tdiv pr)=(am*k).tdiv pr:=pn_wrap (by omega) (by omega)
 have e6:IntKind.i64.wrap ((am*(k+1)).tdiv pr - (am*k).tdiv pr)=(am*(k+1)).tdiv pr - (am*k).tdiv pr:=pn_wrap (by omega) (by omega)
 have n0:(pr == 0)=false:=by rw [beq_eq_false_iff_ne];omega
 have n1:(pr == -1)=false:=by rw [beq_eq_false_iff_ne];omega
 clear h hp er m1 m0 q1 q0 ha hf hp' k1 hk e0
 go_enter Tryz.func79,Tryz.ntmps79
 go_wp2_with fail
 go_quiet (fail)
 go_wp2
 go_ret
 exact ⟨rfl,HB.out _⟩
end Go.Proofs.YtijjhfkhkhigjaaGreatDoor
namespace Go.Proofs.YtijjhfkhkhigjaaGreatDoor
open Go.RowKit Go.Lib
def badP (r:Nat):Bool:=(decide (r<97) || decide (122<r)) && (decide (r<48) || decide (57<r))
theorem badP_low {r:Nat} (h:badP r=false):r<128:=by
 simp [badP] at h
 omega
def isPRef (s:ByteArray):Bool:=decide (s.size≠0) && (decide (s.size≤8) && decide (signFrom badP s s.size 0<0))
theorem isPRef_iff {s:ByteArray}:isPRef s=true↔s.size≠0∧s.size≤8∧∀ i,i<s.size→badP (s.get! i).toNat=false:=by
 unfold isPRef
 simp only [Bool.and_eq_true,decide_eq_true_eq]
 rw [sign_none badP (fun r h=>badP_low h) s s.size 0 (by omega)]
 exact ⟨fun ⟨a,b,d⟩=>⟨a,b,fun i hi=>d i (Nat.zero_le _) hi⟩,fun ⟨a,b,d⟩=>⟨a,b,fun i _ hi=>d i hi⟩⟩
theorem plRef1_any (r:Nat) (w:World) :
  Calls Tryz.prog 141 #[.int .i32 r] w fun e w'=>e=.returned (.bool (badP r))∧w'=w:=by
 have h1:(r:Int)<48∨(48:Int)≤r∧(r:Int)≤57∨(57:Int)<r∧(r:Int)<97∨(97:Int)≤r∧(r:Int)≤122∨(122:Int)<r:=by omega
 rcases h1 with a | ⟨a,b⟩ | ⟨a,b⟩ | ⟨a,b⟩ | a
 ·have:badP r=true:=by simp [badP];omega
  rw [this]
  have n97:(r:Int)<97:=by omega
  go_enter Tryz.func141,Tryz.ntmps141
  go_wp2
  go_ret
  exact ⟨rfl,rfl⟩
 ·have:badP r=false:=by simp [badP];omega
  rw [this]
  have n97:(r:Int)<97:=by omega
  have n57:¬ (57:Int)<r:=by omega
  go_enter Tryz.func141,Tryz.ntmps141
  go_wp2
  go_ret
  refine ⟨?_,rfl⟩
  first | rfl | (simp <;> omega)
 ·have:badP r=true:=by simp [badP];omega
  rw [this]
  have n48:¬ (r:Int)<48:=by omega
  go_enter Tryz.func141,Tryz.ntmps141
  go_wp2
  go_ret
  refine ⟨?_,rfl⟩
  first | rfl | (simp <;> omega)
 ·have:badP r=false:=by simp [badP];omega
  rw [this]
  have n97:¬ (r:Int)<97:=by omega
  have n122:¬ (122:Int)<r:=by omega
  go_enter Tryz.func141,Tryz.ntmps141
  go_wp2
  go_ret
  exact ⟨rfl,rfl⟩
 ·have:badP r=true:=by simp [badP];omega
  rw [this]
  have n97:¬ (r:Int)<97:=by omega
  have n48:¬ (r:Int)<48:=by omega
  have n57:(57:Int)<r:=by omega
  go_enter Tryz.func141,Tryz.ntmps141
  go_wp2
  go_ret
  refine ⟨?_,rfl⟩
  first | rfl | (simp <;> omega)
set_option maxHeartbeats 1000000 in
theorem plIndexFunc_any (s:ByteArray) (w:World) :
  Calls Tryz.prog 114 #[.string s,.func (.func 141) #[] #[],.bool true] w fun e w'=>e=.returned (.int .i64 (signFrom badP s s.size 0))∧Below w.heap.size w w':=by
 go_enter Tryz.func114,Tryz.ntmps114
 go_wp2
 go_loopg [] s.size (fun gf wx=>∃ pos:Nat,wx.heap[w.heap.size]? = some (.stringIter s pos)∧Below w.heap.size w wx∧signFrom badP s gf pos=signFrom badP s s.size 0∧s.size≤pos+gf)
 case atStart=>exact ⟨0,World.iter_heap w s 0,(Below.refl _ w).alloc (Nat.le_refl _) _,rfl,by omega⟩
 case round=>
  obtain ⟨pos,hit,hbw,hleft,hfu⟩:=hrel
  by_cases hps:pos<s.size
  ·obtain ⟨g',rfl⟩:∃ g',gk=g'+1:=⟨gk - 1,by omega⟩
   have hnx:∀ ty,(Instr.next (.pointer (some ⟨w.heap.size,0,none⟩)) true ty).run Tryz.prog wr=_:=fun ty=>Lib.run_next_any_at wr w.heap.size s pos ty hit hps
   have hwd:=Lib.width_pos s pos
   obtain ⟨R,hR⟩:∃ R,(Utf8.decode s pos).1=R:=⟨_,rfl⟩
   obtain ⟨K,hK⟩:∃ K,(Utf8.decode s pos).2=K:=⟨_,rfl⟩
   simp only [signFrom,hps,if_true,hR,hK] at hleft
   rw [hR,hK] at hnx
   rw [hK] at hwd
   have hit2:=Lib.iterAt_heap wr w.heap.size s pos (pos+K) hit
   have hbw2:=Lib.below_iterAt hbw (k:=w.heap.size) (Nat.le_refl _) s (pos+K)
   obtain ⟨W,hWd⟩:∃ W,wr.iterAt w.heap.size s (pos+K)=W:=⟨_,rfl⟩
   rw [hWd] at hnx hit2 hbw2
   cases hsp:badP R <;> simp only [hsp,if_true,Bool.false_eq_true,if_false] at hleft
   ·go_wp2_with (go_at_call 141;refine (plRef1_any R _).mono ?_;rintro e W' ⟨rfl,rfl⟩;rw [hsp])
    go_roundg g'
    case measure=>omega
    case rel=>exact ⟨pos+K,hit2,hbw2,hleft,by omega⟩
   ·go_wp2_with (go_at_call 141;refine (plRef1_any R _).mono ?_;rintro e W' ⟨rfl,rfl⟩;rw [hsp])
    go_ret
    exact ⟨by rw [← hleft];rfl,hbw2⟩
  ·have hnx:∀ ty,(Instr.next (.pointer (some ⟨w.heap.size,0,none⟩)) true ty).run Tryz.prog wr=_:=fun ty=>Lib.run_next_end_at wr w.heap.size s pos ty hit hps
   rw [signFrom_end badP s gk pos hps] at hleft
   go_wp2
   go_ret
   exact ⟨by rw [← hleft];rfl,hbw⟩
theorem plContainsFunc_any (s:ByteArray) (w:World) :
  Calls Tryz.prog 41 #[.string s,.func (.func 141) #[] #[]] w fun e w'=>e=.returned (.bool (decide (0≤signFrom badP s s.size 0)))∧Below w.heap.size w w':=by
 have hI:Calls Tryz.prog 75 #[.string s,.func (.func 141) #[] #[]] w fun e w'=>e=.returned (.int .i64 (signFrom badP s s.size 0))∧Below w.heap.size w w':=by
  go_enter Tryz.func75,Tryz.ntmps75
  go_wp2_with fail
  refine (plIndexFunc_any s _).mono ?_
  rintro e w' ⟨rfl,hb⟩
  go_wp2
  go_ret
  exact ⟨rfl,hb⟩
 go_enter Tryz.func41,Tryz.ntmps41
 go_wp2_with fail
 refine hI.mono ?_
 rintro e w' ⟨rfl,hb⟩
 go_wp2
 go_ret
 exact ⟨rfl,hb⟩
theorem plIsRef_any (s:ByteArray) (w:World) :
  Calls Tryz.prog 103 #[.string s] w fun e w'=>e=.returned (.bool (isPRef s))∧Below w.heap.size w w':=by
 by_cases h0:s.size=0
 ·have e0:=en_empty h0
  have er:isPRef s=false:=by simp [isPRef,h0]
  rw [er]
  go_enter Tryz.func103,Tryz.ntmps103
  go_wp2
  go_ret
  exact ⟨rfl,Below.refl _ _⟩
 have e0:=en_some h0
 have e0':s.toList.isEmpty=false:=by simpa using e0
 by_cases h1:s.size≤8
 ·have h1':decide ((s.size:Int)≤8)=true:=by simp;omega
  have er:isPRef s=!decide (0≤signFrom badP s s.size 0):=by
   have d1:decide (s.size≠0)=true:=by simp [h0]
   have d2:decide (s.size≤8)=true:=by simp [h1]
   have d3:decide (signFrom badP s s.size 0<0)=!decide (0≤signFrom badP s s.size 0):=by
    by_cases hh:0≤signFrom badP s s.size 0
    ·rw [decide_eq_true hh,decide_eq_false (by omega)];rfl
    ·rw [decide_eq_false hh,decide_eq_true (by omega)];rfl
   unfold isPRef;rw [d1,d2,d3];rfl
  rw [er]
  clear er
  go_enter Tryz.func103,Tryz.ntmps103
  go_wp2_with fail
  refine (plContainsFunc_any s _).mono ?_
  rintro e w' ⟨rfl,hb⟩
  go_wp2
  go_ret
  exact ⟨rfl,hb⟩
 ·have h1':decide ((s.size:Int)≤8)=false:=by simp;omega
  have er:isPRef s=false:=by simp [isPRef,h1]
  rw [er]
  go_enter Tryz.func103,Tryz.ntmps103
  go_wp2
  go_ret
  exact ⟨rfl,Below.refl _ _⟩
def hasPR (r:ByteArray) (p:Pn):Bool:=decide (p.ref=r)
def pidx (r:ByteArray):Nat→List Pn→Int
 | _,[]=>-1
 | k,a :: l=>if hasPR r a=true then (k:Int) else pidx r (k+1) l
theorem pidx_any (r:ByteArray):∀ (l:List Pn) (k:Nat),decide (0≤pidx r k l)=l.any (hasPR r)
 | [],k=>by simp [pidx]
 | a :: l,k=>by
  rw [pidx,List.any_cons]
  cases h:hasPR r a
  ·rw [if_neg (by simp),pidx_any r l (k+1)];rfl
  ·rw [if_pos rfl];simp
theorem pns_drop (l:List Pn) (k:Nat) (h:k<l.length):l.drop k=l.getD k pn0 :: l.drop (k+1):=by
 rw [List.getD_eq_getElem?_getD,List.getElem?_eq_getElem h]
 exact List.drop_eq_getElem_cons h
def refBad (ah:List Pn) (r:ByteArray):Int:=if isPRef r=false then 2 else if ah.any (hasPR r)=true then 8 else 0
set_option maxHeartbeats 1000000 in
theorem plRefIs_any (p:Pn) (r:ByteArray) (B:Nat) (w:World) (hB:w.cell? ⟨B,0,none⟩=some (.string r)) (hlt:B<w.heap.size) :
  Calls Tryz.prog 105 #[.agg p.cells,.pointer (some ⟨B,0,none⟩)] w fun e w'=>e=.returned (.bool (hasPR r p))∧Below w.heap.size w w':=by
 have b0:Below w.heap.size w (w.alloc (.cells p.cells 77)):=(Below.refl _ w).alloc (Nat.le_refl _) _
 have hB2:(w.alloc (.cells p.cells 77)).cell? ⟨B,0,none⟩=some (.string r):=(b0.cell (p:=⟨B,0,none⟩) hlt).trans hB
 obtain ⟨a0,a1,a2,a3,a4,a5,a6,a7⟩:=p
 simp only [Pn.cells] at b0 hB2 ⊢
 by_cases h:a0=r
 ·subst h
  have e1:hasPR a0 ⟨a0,a1,a2,a3,a4,a5,a6,a7⟩=true:=by simp [hasPR]
  rw [e1]
  go_enter Tryz.func105,Tryz.ntmps105
  go_wp2
  go_ret
  exact ⟨rfl,b0⟩
 ·have e1:hasPR r ⟨a0,a1,a2,a3,a4,a5,a6,a7⟩=false:=by simp [hasPR,h]
  have h':=ch_ne h
  rw [e1]
  go_enter Tryz.func105,Tryz.ntmps105
  go_wp2
  go_ret
  exact ⟨by rw [← h'];rfl,b0⟩
set_option maxHeartbeats 1000000 in
theorem plIdx_any (a:Option Addr) (cap:Nat) (l:List Pn) (r:ByteArray) (B:Nat) (w:World) (hlen:l.length≤1000) (h:IsPn w a l cap) (hB:w.cell? ⟨B,0,none⟩=some (.string r)) (hlt:B<w.heap.size) :
  Calls Tryz.prog 142 #[.slice a l.length cap,.func (.func 105) #[] #[.pointer (some ⟨B,0,none⟩)]] w fun e w'=>e=.returned (.int .i64 (pidx r 0 l))∧Below w.heap.size w w':=by
 have eg:∀ args W,(callFunc 105 args).run Tryz.prog W=.ok (.enter 105 args) W:=fun args W=>en_enters Tryz.func105 (by kernel_rfl) ⟨_,rfl⟩ args W
 have Hp:Hid (∀ x W,Below w.heap.size w W→Calls Tryz.prog 105 #[.agg x.cells,.pointer (some ⟨B,0,none⟩)] W fun e w'=>e=.returned (.bool (hasPR r x))∧Below W.heap.size W w'):=fun x W hW=>plRefIs_any x r B W ((hW.cell (p:=⟨B,0,none⟩) hlt).trans hB) (by have:=hW.size;omega)
 have Hc:Hid (IsPn w a l cap):=h
 have hl1:(l.length:Int)≤1000:=by omega
 clear h hB
 obtain ⟨res,hres⟩:∃ res,pidx r 0 l=res:=⟨_,rfl⟩
 have Hres:Hid (pidx r 0 l=res):=hres
 rw [hres]
 clear hres
 go_enter Tryz.func142,Tryz.ntmps142
 go_wp2
 go_loopw [8] (fun i wr=>∃ k:Nat,k≤l.length∧i=.int .i64 k∧Hid (pidx r k (l.drop k)=res)∧Below w.heap.size w wr) (fun i _=>l.length - (RowKit.intOf i).toNat)
 case atStart=>exact ⟨0,Nat.zero_le _,rfl,Hres.out,Below.refl _ _⟩
 case round=>
  obtain ⟨k,hk,rfl,H,BW⟩:=hrel
  by_cases hkl:k<l.length
  ·obtain ⟨b,off,e,hb,hn⟩:=(Hc.out.below BW).at hkl
   subst e
   have hcall:=Hp.out (l.getD k pn0) wr BW
   have E:Hid ((if hasPR r (l.getD k pn0)=true then (k:Int) else pidx r (k+1) (l.drop (k+1)))=res):=by
    have:=H.out
    rw [pns_drop l k hkl] at this
    exact this
   clear H
   generalize l.getD k pn0=x at *
   obtain ⟨a0,a1,a2,a3,a4,a5,a6,a7⟩:=x
   obtain ⟨c0,c1,c2,c3,c4,c5,c6,c7⟩:=hn
   simp only [Pn.cells] at c0 c1 c2 c3 c4 c5 c6 c7 hcall
   have i0:(0:Int)≤k:=by omega
   have i1:(k:Int)<l.length:=by omega
   cases hq:hasPR r ⟨a0,a1,a2,a3,a4,a5,a6,a7⟩
   ·rw [hq] at hcall
    have HN:Hid (pidx r (k+1) (l.drop (k+1))=res):=by
     have:=E.out;rw [if_neg (by rw [hq];simp)] at this;exact this
    go_wp2_with (go_at_fn 105;refine hcall.mono ?_;rintro e w' ⟨rfl,hb'⟩)
    go_roundw
    case rel=>exact ⟨k+1,by omega,by go_num,HN,BW.trans (hb'.mono BW.size)⟩
    case measure=>simp [RowKit.intOf];omega
   ·rw [hq] at hcall
    have er:res=k:=by rw [← E.out,if_pos hq]
    subst er
    go_wp2_with (go_at_fn 105;refine hcall.mono ?_;rintro e w' ⟨rfl,hb'⟩)
    go_ret
    exact ⟨rfl,BW.trans (hb'.mono BW.size)⟩
  ·have hk2:k=l.length:=by omega
   subst hk2
   have er:res = -1:=by rw [← H.out,List.drop_length];rfl
   subst er
   go_wp2
   go_ret
   exact ⟨rfl,BW⟩
theorem plHas_any (a:Option Addr) (cap:Nat) (l:List Pn) (r:ByteArray) (B:Nat) (w:World) (hlen:l.length≤1000) (h:IsPn w a l cap) (hB:w.cell? ⟨B,0,none⟩=some (.string r)) (hlt:B<w.heap.size) :
  Calls Tryz.prog 104 #[.slice a l.length cap,.func (.func 105) #[] #[.pointer (some ⟨B,0,none⟩)]] w fun e w'=>e=.returned (.bool (l.any (hasPR r)))∧Below w.heap.size w w':=by
 rw [← pidx_any r l 0]
 have hI:=plIdx_any a cap l r B w hlen h hB hlt
 clear h
 go_enter Tryz.func104,Tryz.ntmps104
 go_wp2_with fail
 refine hI.mono ?_
 rintro e w' ⟨rfl,hb⟩
 go_wp2
 go_ret
 exact ⟨rfl,hb⟩
set_option maxHeartbeats 1000000 in
theorem checkRef_any (a:Option Addr) (cap:Nat) (l:List Pn) (r:ByteArray) (w:World) (hlen:l.length≤1000) (h:IsPn w a l cap) :
  Calls Tryz.prog 56 #[.slice a l.length cap,.string r] w fun e w'=>e=.returned (chE (refBad l r))∧Below w.heap.size w w':=by
 obtain ⟨w0,hw0⟩:∃ w0,w.alloc (.cells #[.string r] 9)=w0:=⟨_,rfl⟩
 have b0:Below w.heap.size w w0:=by rw [← hw0];exact (Below.refl _ w).alloc (Nat.le_refl _) _
 have k0:w0.cell? ⟨w.heap.size,0,none⟩=some (.string r):=by rw [← hw0];simp
 have hs:w.heap.size<w0.heap.size:=by rw [← hw0];simp
 have HI:Hid (Calls _ _ _ _ _):=plIsRef_any r w0
 have HK:Hid (∀ W,Below w0.heap.size w0 W→W.cell? ⟨w.heap.size,0,none⟩=some (.string r)∧Below w.heap.size w W∧Calls Tryz.prog 104 #[.slice a l.length cap,.func (.func 105) #[] #[.pointer (some ⟨w.heap.size,0,none⟩)]] W fun e w'=>e=.returned (.bool (l.any (hasPR r)))∧Below W.heap.size W w'):=fun W hW=>by
  have k1:=(hW.cell (p:=⟨w.heap.size,0,none⟩) hs).trans k0
  exact ⟨k1,b0.trans (hW.mono (by omega)),plHas_any a cap l r w.heap.size W hlen ((h.below b0).below hW) k1 (by have:=hW.size;omega)⟩
 obtain ⟨res,hres⟩:∃ res,refBad l r=res:=⟨_,rfl⟩
 have Hres:Hid (refBad l r=res):=hres
 rw [hres]
 have HW0:Hid (_=w0):=hw0
 clear hres h hw0 b0 hs
 cases hr:isPRef r
 ·rw [hr] at HI
  have er:res=2:=by rw [← Hres.out];unfold refBad;rw [if_pos hr]
  subst er
  rw [chE_ne (by decide)]
  clear Hres
  go_enter Tryz.func56,Tryz.ntmps56
  go_upto_region 1 with fail
  rw [HW0.out]
  clear HW0
  go_wp2_with fail
  refine HI.out.mono ?_
  rintro e w1 ⟨rfl,hb1⟩
  have B1:=(HK.out w1 hb1).2.1
  clear HI HK hb1 k0
  go_wp2
  go_ret
  exact ⟨rfl,B1⟩
 rw [hr] at HI
 have HR1:Hid ((if l.any (hasPR r)=true then (8:Int) else 0)=res):=by
  have:=Hres.out
  unfold refBad at this
  rw [if_neg (by rw [hr];simp:¬ isPRef r=false)] at this
  exact this
 clear Hres hr
 cases ha:l.any (hasPR r)
 ·rw [ha] at HK HR1
  have er:res=0:=by rw [← HR1.out];rfl
  subst er
  rw [chE_zero]
  clear HR1 ha
  go_enter Tryz.func56,Tryz.ntmps56
  go_upto_region 1 with fail
  rw [HW0.out]
  clear HW0
  go_wp2_with fail
  refine HI.out.mono ?_
  rintro e w1 ⟨rfl,hb1⟩
  obtain ⟨k1,B1,hC⟩:=HK.out w1 hb1
  have HC:Hid (Calls _ _ _ _ _):=hC
  clear HI HK hb1 k0 hC
  go_wp2_with fail
  refine HC.out.mono ?_
  rintro e w2 ⟨rfl,hb2⟩
  have B2:=B1.trans (hb2.mono B1.size)
  clear HC hb2
  go_wp2
  go_ret
  exact ⟨rfl,B2⟩
 ·rw [ha] at HK HR1
  have er:res=8:=by rw [← HR1.out];rfl
  subst er
  rw [chE_ne (by decide)]
  clear HR1 ha
  go_enter Tryz.func56,Tryz.ntmps56
  go_upto_region 1 with fail
  rw [HW0.out]
  clear HW0
  go_wp2_with fail
  refine HI.out.mono ?_
  rintro e w1 ⟨rfl,hb1⟩
  obtain ⟨k1,B1,hC⟩:=HK.out w1 hb1
  have HC:Hid (Calls _ _ _ _ _):=hC
  clear HI HK hb1 k0 hC
  go_wp2_with fail
  refine HC.out.mono ?_
  rintro e w2 ⟨rfl,hb2⟩
  have B2:=B1.trans (hb2.mono B1.size)
  clear HC hb2
  go_wp2
  go_ret
  exact ⟨rfl,B2⟩
end Go.Proofs.YtijjhfkhkhigjaaGreatDoor
