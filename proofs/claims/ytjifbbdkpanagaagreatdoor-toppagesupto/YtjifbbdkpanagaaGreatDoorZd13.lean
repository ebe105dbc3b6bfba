/-
  Part of a proof (see the last text).
-/
import Derived.Test.YtjifbbdkpanagaaGreatDoorZd5
set_option linter.unusedVariables false
set_option linter.unusedSimpArgs false
set_option maxRecDepth 100000
namespace Go.Proofs.YtjifbbdkpanagaaGreatDoor
section
open Go.RowKit Go.Lib Go.Proofs.Tryz
structure Bl where
 ent:Int
 acc:ByteArray
 cur:ByteArray
 amt:Int
def Bl.cells (x:Bl):Array Value:=#[.int .i64 x.ent,.string x.acc,.string x.cur,.int .i64 x.amt]
def bl0:Bl:=⟨0,ByteArray.empty,ByteArray.empty,0⟩
def QcO (a b:Int):Int:=if a<b then -1 else if b<a then 1 else 0
def Qc7 (a b:Bl):Int:=if QcO a.ent b.ent≠0 then QcO a.ent b.ent else if Qa3 a.acc b.acc≠0 then Qa3 a.acc b.acc else Qa3 a.cur b.cur
structure BlAt (w:World) (b off:Nat) (x:Bl):Prop where
 c0:w.cell? ⟨b,off,none⟩=some (.int .i64 x.ent)
 c1:w.cell? ⟨b,off+1,none⟩=some (.string x.acc)
 c2:w.cell? ⟨b,off+2,none⟩=some (.string x.cur)
 c3:w.cell? ⟨b,off+3,none⟩=some (.int .i64 x.amt)
theorem BlAt.below {w w':World} {b off n:Nat} {a:Bl} (h:BlAt w b off a) (hb:Below n w w') (hn:b<n):BlAt w' b off a:=
 ⟨(hb.cell (p:=⟨b,off,none⟩) hn).trans h.c0,(hb.cell (p:=⟨b,off+1,none⟩) hn).trans h.c1,(hb.cell (p:=⟨b,off+2,none⟩) hn).trans h.c2,(hb.cell (p:=⟨b,off+3,none⟩) hn).trans h.c3⟩
theorem BlAt.new (w:World) (a:Bl) (t:TypeId):BlAt (w.alloc (.cells a.cells t)) w.heap.size 0 a:=
 ⟨by simp [Bl.cells],by simp [Bl.cells],by simp [Bl.cells],by simp [Bl.cells]⟩
def BlsAt (w:World) (b off:Nat) (l:List Bl):Prop:=∀ k,k<l.length→BlAt w b (off+k*4) (l.getD k bl0)
structure Qcn (w:World) (a:Option Addr) (l:List Bl) (cap:Nat):Prop where
 cap:l.length≤cap
 lies:l=[]∨∃ b off,a=some ⟨b,off,none⟩∧b<w.heap.size∧BlsAt w b off l
theorem Qcn.below {w w':World} {a:Option Addr} {l:List Bl} {cap:Nat} (h:Qcn w a l cap) (hb:Below w.heap.size w w'):Qcn w' a l cap:=by
 refine ⟨h.cap,?_⟩;rcases h.lies with h | ⟨b,off,e,hlt,hc⟩
 ·exact .inl h
 ·exact .inr ⟨b,off,e,by have:=hb.size;omega,fun k hk=>(hc k hk).below hb hlt⟩
theorem bls_drop (l:List Bl) (k:Nat) (h:k<l.length):l.drop k=l.getD k bl0 :: l.drop (k+1):=by
 rw [List.drop_eq_getElem_cons h,List.getD_eq_getElem?_getD,List.getElem?_eq_getElem h];rfl
theorem Qfd (l:List Bl) (k:Nat) (h:k<l.length):l.take (k+1)=l.take k++[l.getD k bl0]:=by
 rw [List.take_add_one,List.getElem?_eq_getElem h,List.getD_eq_getElem?_getD,List.getElem?_eq_getElem h];rfl
theorem bls_mem (l:List Bl) (k:Nat) (h:k<l.length):l.getD k bl0∈l:=by
 rw [List.getD_eq_getElem?_getD,List.getElem?_eq_getElem h];exact List.getElem_mem h
def Qb2 (l:List Bl):List Value:=l.flatMap fun x=>x.cells.toList
theorem Bl.cells_length (x:Bl):x.cells.toList.length=4:=rfl
theorem QdL:∀ l:List Bl,(Qb2 l).length=l.length*4
 | []=>rfl
 | x :: l=>by
  have:=QdL l
  unfold Qb2 at *
  simp only [List.flatMap_cons,List.length_append,Bl.cells_length,this,List.length_cons];omega
theorem Qgb (l m:List Bl):Qb2 (l++m)=Qb2 l++Qb2 m:=by simp [Qb2]
theorem blRow_one (x:Bl):Qb2 [x]=x.cells.toList:=by simp [Qb2]
theorem Qfe:∀ (l:List Bl) (k j:Nat),k<l.length→j<4→(Qb2 l)[k*4+j]? = (l.getD k bl0).cells.toList[j]?
 | [],_,_,h,_=>absurd h (by simp)
 | x :: l,0,j,_,hj=>by
  simp only [Qb2,List.flatMap_cons,Nat.zero_mul,Nat.zero_add,List.getD_cons_zero];rw [List.getElem?_append_left (by rw [Bl.cells_length];exact hj)]
 | x :: l,k+1,j,h,hj=>by
  have ih:=Qfe l k j (by simpa using h) hj
  simp only [Qb2,List.flatMap_cons,List.getD_cons_succ] at ih ⊢;rw [List.getElem?_append_right (by rw [Bl.cells_length];omega),Bl.cells_length,← ih]
  congr 1;omega
def Qba (w:World) (n:Nat) (v:Value) (l:List Bl):Prop:=w.ownsRow n 63 4 v l.length (Qb2 l)
theorem Qba.nil (w:World) (n:Nat):Qba w n (.slice none 0 0) []:=World.ownsRow_nil _ _ _ _
theorem Qba.isBl {W:World} {n0:Nat} {v:Value} {l:List Bl} (h:Qba W n0 v l) :
  ∃ a cap,v=.slice a l.length cap∧Qcn W a l cap:=by
 obtain ⟨hlen,⟨rfl,h0⟩ | ⟨g,cap,cur,rfl,hb,hg,hc,hm,hs,ht⟩⟩:=h
 ·have:l=[]:=List.eq_nil_of_length_eq_zero h0
  subst this;exact ⟨none,0,rfl,Nat.le_refl _,.inl rfl⟩
 ·refine ⟨_,cap,rfl,hc,.inr ⟨g,0,rfl,(Array.getElem?_eq_some_iff.1 hg).1,?_⟩⟩;intro k hk;have C:∀ j,j<4→W.cell? ⟨g,0+k*4+j,none⟩=(l.getD k bl0).cells.toList[j]?:=fun j hj=>by
   have e1:(Qb2 l)[k*4+j]? = cur[k*4+j]?:=by
    rw [← ht,List.getElem?_take,if_pos (by omega)]
    simp
   rw [← Qfe l k j hk hj,e1];simp [World.cell?,hg]
  exact ⟨C 0 (by omega),C 1 (by omega),C 2 (by omega),C 3 (by omega)⟩
theorem Qba.below {w w':World} {n:Nat} {v:Value} {l:List Bl} (h:Qba w n v l) (hb:Below w.heap.size w w'):Qba w' n v l:=by
 rcases h.2 with ⟨hv,hn⟩ | ⟨g1,c1,cur,hv,hb1,hh,r⟩
 ·exact ⟨h.1,.inl ⟨hv,hn⟩⟩
 ·exact ⟨h.1,.inr ⟨g1,c1,cur,hv,hb1,(hb.block g1 (Array.getElem?_eq_some_iff.1 hh).1).trans hh,r⟩⟩
theorem Qba.mono {w:World} {n m:Nat} {v:Value} {l:List Bl} (h:Qba w n v l) (hm:m≤n):Qba w m v l:=by
 rcases h.2 with ⟨hv,hn⟩ | ⟨g1,c1,cur,hv,hb1,r⟩
 ·exact ⟨h.1,.inl ⟨hv,hn⟩⟩
 ·exact ⟨h.1,.inr ⟨g1,c1,cur,hv,by omega,r⟩⟩
theorem Qba.own {w:World} {n:Nat} {v:Value} {xs:List Bl} (h:Qba w n v xs):∀ j,v.ownBlock=some j→n≤j:=fun j ej=>by
 rcases h.2 with ⟨rfl,_⟩ | ⟨g1,c1,cur,rfl,hg1,_⟩
 ·cases ej
 ·cases ej;exact hg1
theorem bl_info:(prog.info? 63).map (fun i=>(i.zero,i.size,i.bytes))=some (some (.agg #[.int .i64 0,.string ByteArray.empty,.string ByteArray.empty,.int .i64 0]),4,48):=by kernel_rfl
def I64B (x:Bl):Prop:=(-9223372036854775808≤x.ent∧x.ent≤9223372036854775807)∧(-9223372036854775808≤x.amt∧x.amt≤9223372036854775807)
end
section
open Go.RowKit Go.Proofs.Tryz
abbrev Pk:Type:=Int×ByteArray×ByteArray
def Bl.key (x:Bl):Pk:=(x.ent,x.acc,x.cur)
structure Pt where
 key:Pk
 zs:List Int
def Qeo:List Pt→Bl→List Pt
 | [],x=>[⟨x.key,[x.amt]⟩]
 | p :: ps,x=>if p.key=x.key then ⟨p.key,p.zs++[x.amt]⟩ :: ps else p :: Qeo ps x
def parts (l:List Bl):List Pt:=l.foldl Qeo []
theorem parts_snoc (l:List Bl) (x:Bl):parts (l++[x])=Qeo (parts l) x:=by simp [parts]
def ltot (k:Pk):List Bl→Int
 | []=>0
 | x :: l=>(if x.key=k then x.amt else 0)+ltot k l
def totP (k:Pk):List Pt→Int
 | []=>0
 | p :: l=>(if p.key=k then p.zs.sum else 0)+totP k l
theorem Qg2 (k:Pk):∀ l m:List Bl,ltot k (l++m)=ltot k l+ltot k m
 | [],m=>by simp [ltot]
 | x :: l,m=>by rw [List.cons_append,ltot,ltot,Qg2 k l m];omega
theorem ltot_perm (k:Pk) {l m:List Bl} (h:l.Perm m):ltot k l=ltot k m:=by
 induction h with
 | nil=>rfl
 | cons x _ ih=>rw [ltot,ltot,ih]
 | swap x y l=>simp only [ltot];omega
 | trans _ _ h1 h2=>rw [h1,h2]
theorem addP_keys (k:Pk) (x:Bl):∀ ps:List Pt,k∈(Qeo ps x).map Pt.key↔k∈ps.map Pt.key∨k=x.key
 | []=>by simp [Qeo]
 | p :: ps=>by
  unfold Qeo
  split
  ·rename_i h;simp only [List.map_cons,List.mem_cons];constructor
   ·intro h1;exact .inl h1
   ·rintro (h1 | h1)
    ·exact h1
    ·exact .inl (h1.trans h.symm)
  ·simp only [List.map_cons,List.mem_cons,addP_keys k x ps,or_assoc]
theorem addP_tot (k:Pk) (x:Bl):∀ ps:List Pt,totP k (Qeo ps x)=totP k ps+if x.key=k then x.amt else 0
 | []=>by simp [Qeo,totP]
 | p :: ps=>by
  unfold Qeo
  split
  ·rename_i h;simp only [totP,List.sum_append,List.sum_cons,List.sum_nil,h]
   split <;> omega
  ·simp only [totP,addP_tot k x ps];omega
theorem QiR (k:Pk):∀ (l:List Bl) (ps:List Pt),k∈(l.foldl Qeo ps).map Pt.key↔k∈ps.map Pt.key∨∃ x∈l,x.key=k
 | [],ps=>by simp
 | x :: l,ps=>by
  rw [List.foldl_cons,QiR k l,addP_keys];constructor
  ·rintro ((h | h) | ⟨y,hy,e⟩)
   ·exact .inl h
   ·exact .inr ⟨x,List.mem_cons_self ..,h.symm⟩
   ·exact .inr ⟨y,List.mem_cons_of_mem _ hy,e⟩
  ·rintro (h | ⟨y,hy,e⟩)
   ·exact .inl (.inl h)
   ·rcases List.mem_cons.1 hy with rfl | hy
    ·exact .inl (.inr e.symm)
    ·exact .inr ⟨y,hy,e⟩
theorem foldl_tot (k:Pk):∀ (l:List Bl) (ps:List Pt),totP k (l.foldl Qeo ps)=totP k ps+ltot k l
 | [],ps=>by simp [ltot]
 | x :: l,ps=>by rw [List.foldl_cons,foldl_tot k l,addP_tot,ltot];omega
theorem parts_keys (k:Pk) (l:List Bl):k∈(parts l).map Pt.key↔∃ x∈l,x.key=k:=by
 rw [parts,QiR];simp
theorem parts_tot (k:Pk) (l:List Bl):totP k (parts l)=ltot k l:=by rw [parts,foldl_tot];simp [totP]
theorem Qh7 (x:Bl):∀ ps:List Pt,(Qeo ps x).length≤ps.length+1
 | []=>by simp [Qeo]
 | p :: ps=>by
  unfold Qeo
  split
  ·simp
  ·have:=Qh7 x ps;simp;exact this
theorem parts_length (l:List Bl):(parts l).length≤l.length:=by
 have key:∀ (l:List Bl) (ps:List Pt),(l.foldl Qeo ps).length≤ps.length+l.length:=by
  intro l
  induction l with
  | nil=>intro ps;simp
  | cons x l ih=>intro ps;have h1:=ih (Qeo ps x);have h2:=Qh7 x ps;simp only [List.foldl_cons,List.length_cons];omega
 have:=key l []
 simpa [parts] using this
def Pt.bal (p:Pt):Bl:=⟨p.key.1,p.key.2.1,p.key.2.2,p.zs.sum⟩
theorem bal_key (p:Pt):p.bal.key=p.key:=rfl
theorem ltot_bal (k:Pk):∀ ps:List Pt,ltot k (ps.map Pt.bal)=totP k ps
 | []=>rfl
 | p :: ps=>by rw [List.map_cons,ltot,totP,ltot_bal k ps];rfl
def QeV (l:List Bl):List Bl:=l.filter fun x=>x.amt != 0
theorem ltot_full (k:Pk):∀ l:List Bl,ltot k (QeV l)=ltot k l
 | []=>rfl
 | x :: l=>by
  have ih:=ltot_full k l;unfold QeV at ih ⊢;rw [List.filter_cons];by_cases h:x.amt=0
  ·rw [if_neg (by simp [h]),ih,ltot,h];simp
  ·rw [if_pos (by simp [h]),ltot,ltot,ih]
theorem full_ne (l:List Bl):∀ x∈QeV l,x.amt≠0:=fun x hx=>by
 have:=(List.mem_filter.1 hx).2
 simpa using this
def Qdx (l:List Bl):Prop:=l.Pairwise fun x y=>Qc7 x y<0
theorem QhB (a b:ByteArray):Qa3 a b<0↔0<Qa3 b a:=by
 unfold Qa3;by_cases h:Op.bytesLess a.toList b.toList=true
 ·have h2:¬ Op.bytesLess b.toList a.toList=true:=fun h2=>by
   have:=Qe6 _ _ _ h h2
   rw [QfP] at this;cases this
  have h3:¬ (b.toList == a.toList)=true:=fun h3=>by
   rw [beq_iff_eq] at h3;rw [h3,QfP] at h;cases h
  rw [if_pos h,if_neg h2,if_neg h3];omega
 ·rw [if_neg h];by_cases h3:(a.toList == b.toList)=true
  ·rw [if_pos h3];have h4:=beq_iff_eq.1 h3;rw [h4,QfP];simp
  ·rw [if_neg h3];have h5:=Qgx _ _ (by simpa using h) (by simpa using h3)
   rw [if_pos h5];omega
theorem QbQ {a b:ByteArray}:Qa3 a b=0↔a=b:=by
 rw [Qc2,beq_iff_eq];exact ⟨fun h=>Qc1 h,fun h=>by rw [h]⟩
theorem QfF {a b c:ByteArray} (h1:Qa3 a b<0) (h2:Qa3 b c<0):Qa3 a c<0:=by
 rw [QgH] at *
 exact Qe6 _ _ _ h1 h2
theorem cmpI_neg {a b:Int}:QcO a b<0↔a<b:=by unfold QcO;split <;> (try split) <;> omega
theorem QcY {a b:Int}:QcO a b=0↔a=b:=by unfold QcO;split <;> (try split) <;> omega
theorem cmpB_lt {x y:Bl}:Qc7 x y<0↔x.ent<y.ent∨(x.ent=y.ent∧(Qa3 x.acc y.acc<0∨(x.acc=y.acc∧Qa3 x.cur y.cur<0))):=by
 unfold Qc7;by_cases h1:QcO x.ent y.ent=0
 ·have e1:=QcY.1 h1;rw [if_neg (by simp [h1])]
  by_cases h2:Qa3 x.acc y.acc=0
  ·have e2:=QbQ.1 h2;rw [if_neg (by simp [h2])]
   constructor
   ·intro h;exact .inr ⟨e1,.inr ⟨e2,h⟩⟩
   ·rintro (h | ⟨_,h | ⟨_,h⟩⟩)
    ·omega
    ·omega
    ·exact h
  ·rw [if_pos h2];constructor
   ·intro h;exact .inr ⟨e1,.inl h⟩
   ·rintro (h | ⟨_,h | ⟨h,_⟩⟩)
    ·omega
    ·exact h
    ·exact absurd (QbQ.2 h) h2
 ·have e1:x.ent≠y.ent:=fun h=>h1 (QcY.2 h)
  rw [if_pos h1,cmpI_neg];constructor
  ·intro h;exact .inl h
  ·rintro (h | ⟨h,_⟩)
   ·exact h
   ·exact absurd h e1
theorem cmpB_zero {x y:Bl}:Qc7 x y=0↔x.key=y.key:=by
 unfold Qc7 Bl.key;rw [Prod.mk.injEq,Prod.mk.injEq];by_cases h1:QcO x.ent y.ent=0
 ·rw [if_neg (by simp [h1])]
  by_cases h2:Qa3 x.acc y.acc=0
  ·rw [if_neg (by simp [h2]),QbQ]
   exact ⟨fun h=>⟨QcY.1 h1,QbQ.1 h2,h⟩,fun h=>h.2.2⟩
  ·rw [if_pos h2];exact ⟨fun h=>absurd h h2,fun h=>absurd (QbQ.2 h.2.1) h2⟩
 ·rw [if_pos h1];exact ⟨fun h=>absurd h h1,fun h=>absurd (QcY.2 h.1) h1⟩
theorem QcV {x y z:Bl} (h1:Qc7 x y<0) (h2:Qc7 y z<0):Qc7 x z<0:=by
 rw [cmpB_lt] at *
 rcases h1 with h1 | ⟨e1,h1⟩
 ·rcases h2 with h2 | ⟨e2,h2⟩
  ·exact .inl (by omega)
  ·exact .inl (by omega)
 ·rcases h2 with h2 | ⟨e2,h2⟩
  ·exact .inl (by omega)
  ·refine .inr ⟨by omega,?_⟩
   rcases h1 with h1 | ⟨f1,h1⟩
   ·rcases h2 with h2 | ⟨f2,h2⟩
    ·exact .inl (QfF h1 h2)
    ·exact .inl (f2▸h1)
   ·rcases h2 with h2 | ⟨f2,h2⟩
    ·exact .inl (f1▸h2)
    ·exact .inr ⟨f1.trans f2,QfF h1 h2⟩
theorem Qe7 (x:Bl):¬ Qc7 x x<0:=by
 have:Qc7 x x=0:=cmpB_zero.2 rfl
 omega
theorem QfH {x y:Bl} (h:¬ Qc7 x y<0) (hne:x.key≠y.key):Qc7 y x<0:=by
 rw [cmpB_lt] at *
 have h1:¬ x.ent<y.ent:=fun e=>h (.inl e)
 by_cases e1:x.ent=y.ent
 ·refine .inr ⟨e1.symm,?_⟩;have h2:¬ Qa3 x.acc y.acc<0:=fun e=>h (.inr ⟨e1,.inl e⟩)
  by_cases e2:x.acc=y.acc
  ·refine .inr ⟨e2.symm,?_⟩;have h3:¬ Qa3 x.cur y.cur<0:=fun e=>h (.inr ⟨e1,.inr ⟨e2,e⟩⟩)
   have h4:Qa3 x.cur y.cur≠0:=fun e=>hne (by unfold Bl.key;rw [e1,e2,QbQ.1 e])
   have:=QhB y.cur x.cur
   omega
  ·refine .inl ?_;have h4:Qa3 x.acc y.acc≠0:=fun e=>e2 (QbQ.1 e)
   have:=QhB y.acc x.acc
   omega
 ·exact .inl (by omega)
theorem QhH (k:Pk):∀ l:List Bl,(∀ x∈l,x.key≠k)→ltot k l=0
 | [],_=>rfl
 | x :: l,h=>by
  rw [ltot,if_neg (h x (List.mem_cons_self ..)),QhH k l (fun y hy=>h y (List.mem_cons_of_mem _ hy))]
  rfl
theorem Qdx.key_ne {x:Bl} {l:List Bl} (h:Qdx (x :: l)):∀ y∈l,y.key≠x.key:=fun y hy e=>by
 have h1:=(List.pairwise_cons.1 h).1 y hy
 have:=cmpB_zero.2 e.symm
 omega
theorem QcD:∀ {l:List Bl},Qdx l→∀ x∈l,ltot x.key l=x.amt
 | y :: l,h,x,hx=>by
  have hne:=h.key_ne;rcases List.mem_cons.1 hx with rfl | hx
  ·rw [ltot,if_pos rfl,QhH _ _ hne];omega
  ·rw [ltot,if_neg (fun e=>hne x hx e.symm),QcD (List.pairwise_cons.1 h).2 x hx];omega
theorem ltot_ex {k:Pk} {l:List Bl} (h:ltot k l≠0):∃ x∈l,x.key=k:=by
 false_or_by_contra
 rename_i hn;exact h (QhH k l (fun x hx e=>hn ⟨x,hx,e⟩))
theorem bl_ext {x y:Bl} (h:x.key=y.key) (ha:x.amt=y.amt):x=y:=by
 obtain ⟨x0,x1,x2,x3⟩:=x;obtain ⟨y0,y1,y2,y3⟩:=y;unfold Bl.key at h;rw [Prod.mk.injEq,Prod.mk.injEq] at h;obtain ⟨h1,h2,h3⟩:=h;simp only at h1 h2 h3 ha;rw [h1,h2,h3,ha]
theorem rises_ext:∀ {l m:List Bl},Qdx l→Qdx m→(∀ x,x∈l↔x∈m)→l=m
 | [],[],_,_,_=>rfl
 | [],y :: m,_,_,h=>absurd ((h y).2 (List.mem_cons_self ..)) (by simp)
 | x :: l,[],_,_,h=>absurd ((h x).1 (List.mem_cons_self ..)) (by simp)
 | x :: l,y :: m,hl,hm,h=>by
  obtain ⟨l1,l2⟩:=List.pairwise_cons.1 hl;obtain ⟨m1,m2⟩:=List.pairwise_cons.1 hm;have e:x=y:=by
   rcases List.mem_cons.1 ((h x).1 (List.mem_cons_self ..)) with e | e
   ·exact e
   ·rcases List.mem_cons.1 ((h y).2 (List.mem_cons_self ..)) with e2 | e2
    ·exact e2.symm
    ·exact absurd (QcV (m1 x e) (l1 y e2)) (Qe7 y)
  subst e;rw [rises_ext l2 m2 (fun z=>?_)]
  constructor
  ·intro hz;rcases List.mem_cons.1 ((h z).1 (List.mem_cons_of_mem _ hz)) with e | e
   ·exact absurd (e▸l1 z hz) (Qe7 x)
   ·exact e
  ·intro hz;rcases List.mem_cons.1 ((h z).2 (List.mem_cons_of_mem _ hz)) with e | e
   ·exact absurd (e▸m1 z hz) (Qe7 x)
   ·exact e
theorem rises_tot {l m:List Bl} (hl:Qdx l) (hm:Qdx m) (zl:∀ x∈l,x.amt≠0) (zm:∀ x∈m,x.amt≠0) (h:∀ k,ltot k l=ltot k m):l=m:=by
 refine rises_ext hl hm (fun x=>⟨fun hx=>?_,fun hx=>?_⟩)
 ·have h1:=QcD hl x hx;have h2:ltot x.key m≠0:=by rw [← h,h1];exact zl x hx
  obtain ⟨y,hy,e⟩:=ltot_ex h2;have h3:=QcD hm y hy;rw [bl_ext e.symm (by rw [← h1,h,← e,h3])]
  exact hy
 ·have h1:=QcD hm x hx;have h2:ltot x.key l≠0:=by rw [h,h1];exact zm x hx
  obtain ⟨y,hy,e⟩:=ltot_ex h2;have h3:=QcD hl y hy;rw [bl_ext e.symm (by rw [← h1,← h,← e,h3])]
  exact hy
def chkAt (l:List Bl) (k:Nat):Int:=if 0<k∧¬ Qc7 (l.getD (k - 1) bl0) (l.getD k bl0)<0 then 5 else if ¬ (-1000000000000000000≤(l.getD k bl0).amt∧(l.getD k bl0).amt≤1000000000000000000) then 1 else if (l.getD k bl0).amt=0 then 3 else 0
def Qev (l:List Bl):Nat→Int
 | 0=>0
 | k+1=>if Qev l k≠0 then Qev l k else chkAt l k
def chk (l:List Bl):Int:=if 200<l.length then 4 else Qev l l.length
theorem QfU (l:List Bl):∀ n,Qev l n=0↔∀ k,k<n→chkAt l k=0
 | 0=>by simp [Qev]
 | n+1=>by
  unfold Qev
  split
  ·rename_i h;constructor
   ·intro h1;exact absurd h1 h
   ·intro h1;exact absurd ((QfU l n).2 (fun k hk=>h1 k (by omega))) h
  ·rename_i h;have h0:Qev l n=0:=by simpa using h
   have h1:=(QfU l n).1 h0;constructor
   ·intro h2 k hk;rcases (by omega:k<n∨k=n) with h3 | rfl
    ·exact h1 k h3
    ·exact h2
   ·intro h2;exact h2 n (by omega)
theorem chkTo_first {l:List Bl} {k n:Nat} (h0:Qev l k=0) (h1:chkAt l k≠0) (hn:k<n):Qev l n=chkAt l k:=by
 induction n with
 | zero=>omega
 | succ n ih=>
  unfold Qev;rcases (by omega:k<n∨k=n) with h | h
  ·rw [if_pos (by rw [ih h];exact h1),ih h]
  ·rw [← h,if_neg (by simp [h0])]
theorem QdY {l:List Bl} {k:Nat}:chkAt l k=0↔(0<k→Qc7 (l.getD (k - 1) bl0) (l.getD k bl0)<0)∧(-1000000000000000000≤(l.getD k bl0).amt∧(l.getD k bl0).amt≤1000000000000000000)∧(l.getD k bl0).amt≠0:=by
 unfold chkAt
 split
 ·rename_i h;constructor
  ·intro h1;omega
  ·intro h1;exact absurd (h1.1 h.1) h.2
 ·rename_i h
  split
  ·rename_i h2;constructor
   ·intro h1;omega
   ·intro h1;exact absurd h1.2.1 h2
  ·rename_i h2
   split
   ·rename_i h3;constructor
    ·intro h1;omega
    ·intro h1;exact absurd h3 h1.2.2
   ·rename_i h3;refine ⟨fun _=>⟨fun h4=>?_,by omega,h3⟩,fun _=>rfl⟩
    false_or_by_contra
    rename_i h5;exact h ⟨h4,h5⟩
theorem Qe9:∀ l:List Bl,(∀ k,k+1<l.length→Qc7 (l.getD k bl0) (l.getD (k+1) bl0)<0)→Qdx l
 | [],_=>.nil
 | [x],_=>List.pairwise_singleton _ _
 | x :: y :: l,h=>by
  have h0:Qc7 x y<0:=by have:=h 0 (by simp);simpa using this
  have h1:Qdx (y :: l):=Qe9 (y :: l) (fun k hk=>by have:=h (k+1) (by simp at hk ⊢;omega);simpa using this)
  refine List.pairwise_cons.2 ⟨fun z hz=>?_,h1⟩
  rcases List.mem_cons.1 hz with rfl | hz
  ·exact h0
  ·exact QcV h0 ((List.pairwise_cons.1 h1).1 z hz)
theorem QgC (l:List Bl) (k:Nat) (h:k<l.length):l.getD k bl0∈l:=by
 rw [List.getD_eq_getElem?_getD,List.getElem?_eq_getElem h];exact List.getElem_mem h
theorem mem_getD {l:List Bl} {x:Bl} (h:x∈l):∃ k,k<l.length∧l.getD k bl0=x:=by
 obtain ⟨k,hk,e⟩:=List.getElem_of_mem h;exact ⟨k,hk,by rw [List.getD_eq_getElem?_getD,List.getElem?_eq_getElem hk,e];rfl⟩
theorem Qdx.next {l:List Bl} (h:Qdx l) (k:Nat) (hk:k+1<l.length):Qc7 (l.getD k bl0) (l.getD (k+1) bl0)<0:=by
 have:=(List.pairwise_iff_getElem.1 h) k (k+1) (by omega) hk (by omega)
 rw [List.getD_eq_getElem?_getD,List.getElem?_eq_getElem (by omega),List.getD_eq_getElem?_getD,List.getElem?_eq_getElem hk]
 exact this
structure Fine (l:List Bl):Prop where
 len:l.length≤200
 rises:Qdx l
 amt:∀ x∈l,-1000000000000000000≤x.amt∧x.amt≤1000000000000000000
 ne:∀ x∈l,x.amt≠0
theorem Qd7 {l:List Bl}:chk l=0↔Fine l:=by
 unfold chk
 split
 ·rename_i h;exact ⟨fun h1=>by omega,fun h1=>by have:=h1.len;omega⟩
 ·rename_i h;rw [QfU];constructor
  ·intro h1;refine ⟨by omega,Qe9 l (fun k hk=>?_),fun x hx=>?_,fun x hx=>?_⟩
   ·have:=(QdY.1 (h1 (k+1) hk)).1 (by omega)
    simpa using this
   ·obtain ⟨k,hk,rfl⟩:=mem_getD hx;exact (QdY.1 (h1 k hk)).2.1
   ·obtain ⟨k,hk,rfl⟩:=mem_getD hx;exact (QdY.1 (h1 k hk)).2.2
  ·intro h1 k hk;refine QdY.2 ⟨fun h0=>?_,h1.amt _ (QgC l k hk),h1.ne _ (QgC l k hk)⟩
   have:=h1.rises.next (k - 1) (by omega)
   rw [show k - 1+1=k by omega] at this
   exact this
structure Sums (l R:List Bl):Prop where
 rises:Qdx R
 ne:∀ x∈R,x.amt≠0
 ltot:∀ k,ltot k R=ltot k l
theorem Sums.uniq {l m R S:List Bl} (h:Sums l R) (k:Sums m S) (e:∀ k,Go.Proofs.YtjifbbdkpanagaaGreatDoor.ltot k l=Go.Proofs.YtjifbbdkpanagaaGreatDoor.ltot k m):R=S:=
 rises_tot h.rises k.rises h.ne k.ne (fun q=>by rw [h.ltot,k.ltot,e])
theorem Fine.sums {l:List Bl} (h:Fine l):Sums l l:=⟨h.rises,h.ne,fun _=>rfl⟩
end
end Go.Proofs.YtjifbbdkpanagaaGreatDoor
