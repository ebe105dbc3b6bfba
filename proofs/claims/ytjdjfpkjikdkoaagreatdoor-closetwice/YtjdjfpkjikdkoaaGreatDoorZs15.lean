/-
  Part of a proof (see the last text).
-/
import Derived.Test.YtjdjfpkjikdkoaaGreatDoorZs14
import Derived.Sort.Grow
import Derived.Deep.CutRange
import Derived.Deep.CutBlock
import Derived.WalkLawsBesides
import Derived.Test.YtjdjfpkjikdkoaaGreatDoorZs3
set_option linter.unusedVariables false
set_option linter.unusedSimpArgs false
set_option maxRecDepth 100000
namespace Go.Proofs.YtjdjfpkjikdkoaaGreatDoor
open Go.RowKit
abbrev Pk:Type:=Int×ByteArray×ByteArray
def Bl.key (x:Bl):Pk:=(x.ent,x.acc,x.cur)
structure Pt where
 key:Pk
 zs:List Int
def addP:List Pt→Bl→List Pt
 | [],x=>[⟨x.key,[x.amt]⟩]
 | p :: ps,x=>if p.key=x.key then ⟨p.key,p.zs++[x.amt]⟩ :: ps else p :: addP ps x
def parts (l:List Bl):List Pt:=l.foldl addP []
theorem parts_snoc (l:List Bl) (x:Bl):parts (l++[x])=addP (parts l) x:=by simp [parts]
def ltot (k:Pk):List Bl→Int
 | []=>0
 | x :: l=>(if x.key=k then x.amt else 0)+ltot k l
def totP (k:Pk):List Pt→Int
 | []=>0
 | p :: l=>(if p.key=k then p.zs.sum else 0)+totP k l
theorem ltot_append (k:Pk):∀ l m:List Bl,ltot k (l++m)=ltot k l+ltot k m
 | [],m=>by simp [ltot]
 | x :: l,m=>by rw [List.cons_append,ltot,ltot,ltot_append k l m];omega
theorem ltot_perm (k:Pk) {l m:List Bl} (h:l.Perm m):ltot k l=ltot k m:=by
 induction h with
 | nil=>rfl
 | cons x _ ih=>rw [ltot,ltot,ih]
 | swap x y l=>simp only [ltot];omega
 | trans _ _ h1 h2=>rw [h1,h2]
theorem addP_keys (k:Pk) (x:Bl):∀ ps:List Pt,k∈(addP ps x).map Pt.key↔k∈ps.map Pt.key∨k=x.key
 | []=>by simp [addP]
 | p :: ps=>by
  unfold addP
  split
  ·rename_i h
   simp only [List.map_cons,List.mem_cons]
   constructor
   ·intro h1;exact .inl h1
   ·rintro (h1 | h1)
    ·exact h1
    ·exact .inl (h1.trans h.symm)
  ·simp only [List.map_cons,List.mem_cons,addP_keys k x ps,or_assoc]
theorem addP_tot (k:Pk) (x:Bl):∀ ps:List Pt,totP k (addP ps x)=totP k ps+if x.key=k then x.amt else 0
 | []=>by simp [addP,totP]
 | p :: ps=>by
  unfold addP
  split
  ·rename_i h
   simp only [totP,List.sum_append,List.sum_cons,List.sum_nil,h]
   split <;> omega
  ·simp only [totP,addP_tot k x ps]
   omega
theorem foldl_keys (k:Pk):∀ (l:List Bl) (ps:List Pt),k∈(l.foldl addP ps).map Pt.key↔k∈ps.map Pt.key∨∃ x∈l,x.key=k
 | [],ps=>by simp
 | x :: l,ps=>by
  rw [List.foldl_cons,foldl_keys k l,addP_keys]
  constructor
  ·rintro ((h | h) | ⟨y,hy,e⟩)
   ·exact .inl h
   ·exact .inr ⟨x,List.mem_cons_self ..,h.symm⟩
   ·exact .inr ⟨y,List.mem_cons_of_mem _ hy,e⟩
  ·rintro (h | ⟨y,hy,e⟩)
   ·exact .inl (.inl h)
   ·rcases List.mem_cons.1 hy with rfl | hy
    ·exact .inl (.inr e.symm)
    ·exact .inr ⟨y,hy,e⟩
theorem foldl_tot (k:Pk):∀ (l:List Bl) (ps:List Pt),totP k (l.foldl addP ps)=totP k ps+ltot k l
 | [],ps=>by simp [ltot]
 | x :: l,ps=>by rw [List.foldl_cons,foldl_tot k l,addP_tot,ltot];omega
theorem parts_keys (k:Pk) (l:List Bl):k∈(parts l).map Pt.key↔∃ x∈l,x.key=k:=by
 rw [parts,foldl_keys];simp
theorem parts_tot (k:Pk) (l:List Bl):totP k (parts l)=ltot k l:=by rw [parts,foldl_tot];simp [totP]
theorem addP_length (x:Bl):∀ ps:List Pt,(addP ps x).length≤ps.length+1
 | []=>by simp [addP]
 | p :: ps=>by
  unfold addP
  split
  ·simp
  ·have:=addP_length x ps;simp;exact this
theorem parts_length (l:List Bl):(parts l).length≤l.length:=by
 have key:∀ (l:List Bl) (ps:List Pt),(l.foldl addP ps).length≤ps.length+l.length:=by
  intro l
  induction l with
  | nil=>intro ps;simp
  | cons x l ih=>intro ps;have h1:=ih (addP ps x);have h2:=addP_length x ps;simp only [List.foldl_cons,List.length_cons];omega
 have:=key l []
 simpa [parts] using this
def Pt.bal (p:Pt):Bl:=⟨p.key.1,p.key.2.1,p.key.2.2,p.zs.sum⟩
theorem bal_key (p:Pt):p.bal.key=p.key:=rfl
theorem ltot_bal (k:Pk):∀ ps:List Pt,ltot k (ps.map Pt.bal)=totP k ps
 | []=>rfl
 | p :: ps=>by rw [List.map_cons,ltot,totP,ltot_bal k ps];rfl
def full (l:List Bl):List Bl:=l.filter fun x=>x.amt != 0
theorem ltot_full (k:Pk):∀ l:List Bl,ltot k (full l)=ltot k l
 | []=>rfl
 | x :: l=>by
  have ih:=ltot_full k l
  unfold full at ih ⊢
  rw [List.filter_cons]
  by_cases h:x.amt=0
  ·rw [if_neg (by simp [h]),ih,ltot,h];simp
  ·rw [if_pos (by simp [h]),ltot,ltot,ih]
theorem full_ne (l:List Bl):∀ x∈full l,x.amt≠0:=fun x hx=>by
 have:=(List.mem_filter.1 hx).2
 simpa using this
def Rises (l:List Bl):Prop:=l.Pairwise fun x y=>cmpB x y<0
theorem cmpS_flip (a b:ByteArray):cmpS a b<0↔0<cmpS b a:=by
 unfold cmpS
 by_cases h:Op.bytesLess a.toList b.toList=true
 ·have h2:¬ Op.bytesLess b.toList a.toList=true:=fun h2=>by
   have:=bl_trans _ _ _ h h2
   rw [bl_self] at this
   cases this
  have h3:¬ (b.toList == a.toList)=true:=fun h3=>by
   rw [beq_iff_eq] at h3
   rw [h3,bl_self] at h
   cases h
  rw [if_pos h,if_neg h2,if_neg h3]
  omega
 ·rw [if_neg h]
  by_cases h3:(a.toList == b.toList)=true
  ·rw [if_pos h3]
   have h4:=beq_iff_eq.1 h3
   rw [h4,bl_self]
   simp
  ·rw [if_neg h3]
   have h5:=bl_total _ _ (by simpa using h) (by simpa using h3)
   rw [if_pos h5]
   omega
theorem ldCmpS_eq {a b:ByteArray}:cmpS a b=0↔a=b:=by
 rw [cmpS_zero,beq_iff_eq]
 exact ⟨fun h=>toList_inj h,fun h=>by rw [h]⟩
theorem cmpS_trans {a b c:ByteArray} (h1:cmpS a b<0) (h2:cmpS b c<0):cmpS a c<0:=by
 rw [cmpS_neg] at *
 exact bl_trans _ _ _ h1 h2
theorem cmpI_neg {a b:Int}:cmpI a b<0↔a<b:=by unfold cmpI;split <;> (try split) <;> omega
theorem cmpI_zero {a b:Int}:cmpI a b=0↔a=b:=by unfold cmpI;split <;> (try split) <;> omega
theorem cmpB_lt {x y:Bl}:cmpB x y<0↔x.ent<y.ent∨(x.ent=y.ent∧(cmpS x.acc y.acc<0∨(x.acc=y.acc∧cmpS x.cur y.cur<0))):=by
 unfold cmpB
 by_cases h1:cmpI x.ent y.ent=0
 ·have e1:=cmpI_zero.1 h1
  rw [if_neg (by simp [h1])]
  by_cases h2:cmpS x.acc y.acc=0
  ·have e2:=ldCmpS_eq.1 h2
   rw [if_neg (by simp [h2])]
   constructor
   ·intro h;exact .inr ⟨e1,.inr ⟨e2,h⟩⟩
   ·rintro (h | ⟨_,h | ⟨_,h⟩⟩)
    ·omega
    ·omega
    ·exact h
  ·rw [if_pos h2]
   constructor
   ·intro h;exact .inr ⟨e1,.inl h⟩
   ·rintro (h | ⟨_,h | ⟨h,_⟩⟩)
    ·omega
    ·exact h
    ·exact absurd (ldCmpS_eq.2 h) h2
 ·have e1:x.ent≠y.ent:=fun h=>h1 (cmpI_zero.2 h)
  rw [if_pos h1,cmpI_neg]
  constructor
  ·intro h;exact .inl h
  ·rintro (h | ⟨h,_⟩)
   ·exact h
   ·exact absurd h e1
theorem cmpB_zero {x y:Bl}:cmpB x y=0↔x.key=y.key:=by
 unfold cmpB Bl.key
 rw [Prod.mk.injEq,Prod.mk.injEq]
 by_cases h1:cmpI x.ent y.ent=0
 ·rw [if_neg (by simp [h1])]
  by_cases h2:cmpS x.acc y.acc=0
  ·rw [if_neg (by simp [h2]),ldCmpS_eq]
   exact ⟨fun h=>⟨cmpI_zero.1 h1,ldCmpS_eq.1 h2,h⟩,fun h=>h.2.2⟩
  ·rw [if_pos h2]
   exact ⟨fun h=>absurd h h2,fun h=>absurd (ldCmpS_eq.2 h.2.1) h2⟩
 ·rw [if_pos h1]
  exact ⟨fun h=>absurd h h1,fun h=>absurd (cmpI_zero.2 h.1) h1⟩
theorem cmpB_trans {x y z:Bl} (h1:cmpB x y<0) (h2:cmpB y z<0):cmpB x z<0:=by
 rw [cmpB_lt] at *
 rcases h1 with h1 | ⟨e1,h1⟩
 ·rcases h2 with h2 | ⟨e2,h2⟩
  ·exact .inl (by omega)
  ·exact .inl (by omega)
 ·rcases h2 with h2 | ⟨e2,h2⟩
  ·exact .inl (by omega)
  ·refine .inr ⟨by omega,?_⟩
   rcases h1 with h1 | ⟨f1,h1⟩
   ·rcases h2 with h2 | ⟨f2,h2⟩
    ·exact .inl (cmpS_trans h1 h2)
    ·exact .inl (f2▸h1)
   ·rcases h2 with h2 | ⟨f2,h2⟩
    ·exact .inl (f1▸h2)
    ·exact .inr ⟨f1.trans f2,cmpS_trans h1 h2⟩
theorem cmpB_irr (x:Bl):¬ cmpB x x<0:=by
 have:cmpB x x=0:=cmpB_zero.2 rfl
 omega
theorem cmpB_total {x y:Bl} (h:¬ cmpB x y<0) (hne:x.key≠y.key):cmpB y x<0:=by
 rw [cmpB_lt] at *
 have h1:¬ x.ent<y.ent:=fun e=>h (.inl e)
 by_cases e1:x.ent=y.ent
 ·refine .inr ⟨e1.symm,?_⟩
  have h2:¬ cmpS x.acc y.acc<0:=fun e=>h (.inr ⟨e1,.inl e⟩)
  by_cases e2:x.acc=y.acc
  ·refine .inr ⟨e2.symm,?_⟩
   have h3:¬ cmpS x.cur y.cur<0:=fun e=>h (.inr ⟨e1,.inr ⟨e2,e⟩⟩)
   have h4:cmpS x.cur y.cur≠0:=fun e=>hne (by unfold Bl.key;rw [e1,e2,ldCmpS_eq.1 e])
   have:=cmpS_flip y.cur x.cur
   omega
  ·refine .inl ?_
   have h4:cmpS x.acc y.acc≠0:=fun e=>e2 (ldCmpS_eq.1 e)
   have:=cmpS_flip y.acc x.acc
   omega
 ·exact .inl (by omega)
theorem ltot_none (k:Pk):∀ l:List Bl,(∀ x∈l,x.key≠k)→ltot k l=0
 | [],_=>rfl
 | x :: l,h=>by
  rw [ltot,if_neg (h x (List.mem_cons_self ..)),ltot_none k l (fun y hy=>h y (List.mem_cons_of_mem _ hy))]
  rfl
theorem Rises.key_ne {x:Bl} {l:List Bl} (h:Rises (x :: l)):∀ y∈l,y.key≠x.key:=fun y hy e=>by
 have h1:=(List.pairwise_cons.1 h).1 y hy
 have:=cmpB_zero.2 e.symm
 omega
theorem ltot_mem:∀ {l:List Bl},Rises l→∀ x∈l,ltot x.key l=x.amt
 | y :: l,h,x,hx=>by
  have hne:=h.key_ne
  rcases List.mem_cons.1 hx with rfl | hx
  ·rw [ltot,if_pos rfl,ltot_none _ _ hne];omega
  ·rw [ltot,if_neg (fun e=>hne x hx e.symm),ltot_mem (List.pairwise_cons.1 h).2 x hx];omega
theorem ltot_ex {k:Pk} {l:List Bl} (h:ltot k l≠0):∃ x∈l,x.key=k:=by
 false_or_by_contra
 rename_i hn
 exact h (ltot_none k l (fun x hx e=>hn ⟨x,hx,e⟩))
theorem bl_ext {x y:Bl} (h:x.key=y.key) (ha:x.amt=y.amt):x=y:=by
 obtain ⟨x0,x1,x2,x3⟩:=x
 obtain ⟨y0,y1,y2,y3⟩:=y
 unfold Bl.key at h
 rw [Prod.mk.injEq,Prod.mk.injEq] at h
 obtain ⟨h1,h2,h3⟩:=h
 simp only at h1 h2 h3 ha
 rw [h1,h2,h3,ha]
theorem rises_ext:∀ {l m:List Bl},Rises l→Rises m→(∀ x,x∈l↔x∈m)→l=m
 | [],[],_,_,_=>rfl
 | [],y :: m,_,_,h=>absurd ((h y).2 (List.mem_cons_self ..)) (by simp)
 | x :: l,[],_,_,h=>absurd ((h x).1 (List.mem_cons_self ..)) (by simp)
 | x :: l,y :: m,hl,hm,h=>by
  obtain ⟨l1,l2⟩:=List.pairwise_cons.1 hl
  obtain ⟨m1,m2⟩:=List.pairwise_cons.1 hm
  have e:x=y:=by
   rcases List.mem_cons.1 ((h x).1 (List.mem_cons_self ..)) with e | e
   ·exact e
   ·rcases List.mem_cons.1 ((h y).2 (List.mem_cons_self ..)) with e2 | e2
    ·exact e2.symm
    ·exact absurd (cmpB_trans (m1 x e) (l1 y e2)) (cmpB_irr y)
  subst e
  rw [rises_ext l2 m2 (fun z=>?_)]
  constructor
  ·intro hz
   rcases List.mem_cons.1 ((h z).1 (List.mem_cons_of_mem _ hz)) with e | e
   ·exact absurd (e▸l1 z hz) (cmpB_irr x)
   ·exact e
  ·intro hz
   rcases List.mem_cons.1 ((h z).2 (List.mem_cons_of_mem _ hz)) with e | e
   ·exact absurd (e▸m1 z hz) (cmpB_irr x)
   ·exact e
theorem rises_tot {l m:List Bl} (hl:Rises l) (hm:Rises m) (zl:∀ x∈l,x.amt≠0) (zm:∀ x∈m,x.amt≠0) (h:∀ k,ltot k l=ltot k m):l=m:=by
 refine rises_ext hl hm (fun x=>⟨fun hx=>?_,fun hx=>?_⟩)
 ·have h1:=ltot_mem hl x hx
  have h2:ltot x.key m≠0:=by rw [← h,h1];exact zl x hx
  obtain ⟨y,hy,e⟩:=ltot_ex h2
  have h3:=ltot_mem hm y hy
  rw [bl_ext e.symm (by rw [← h1,h,← e,h3])]
  exact hy
 ·have h1:=ltot_mem hm x hx
  have h2:ltot x.key l≠0:=by rw [h,h1];exact zm x hx
  obtain ⟨y,hy,e⟩:=ltot_ex h2
  have h3:=ltot_mem hl y hy
  rw [bl_ext e.symm (by rw [← h1,← h,← e,h3])]
  exact hy
def chkAt (l:List Bl) (k:Nat):Int:=if 0<k∧¬ cmpB (l.getD (k - 1) bl0) (l.getD k bl0)<0 then 5 else if ¬ (-1000000000000000000≤(l.getD k bl0).amt∧(l.getD k bl0).amt≤1000000000000000000) then 1 else if (l.getD k bl0).amt=0 then 3 else 0
def chkTo (l:List Bl):Nat→Int
 | 0=>0
 | k+1=>if chkTo l k≠0 then chkTo l k else chkAt l k
def chk (l:List Bl):Int:=if 200<l.length then 4 else chkTo l l.length
theorem chkTo_zero (l:List Bl):∀ n,chkTo l n=0↔∀ k,k<n→chkAt l k=0
 | 0=>by simp [chkTo]
 | n+1=>by
  unfold chkTo
  split
  ·rename_i h
   constructor
   ·intro h1;exact absurd h1 h
   ·intro h1;exact absurd ((chkTo_zero l n).2 (fun k hk=>h1 k (by omega))) h
  ·rename_i h
   have h0:chkTo l n=0:=by simpa using h
   have h1:=(chkTo_zero l n).1 h0
   constructor
   ·intro h2 k hk
    rcases (by omega:k<n∨k=n) with h3 | rfl
    ·exact h1 k h3
    ·exact h2
   ·intro h2;exact h2 n (by omega)
theorem chkTo_first {l:List Bl} {k n:Nat} (h0:chkTo l k=0) (h1:chkAt l k≠0) (hn:k<n):chkTo l n=chkAt l k:=by
 induction n with
 | zero=>omega
 | succ n ih=>
  unfold chkTo
  rcases (by omega:k<n∨k=n) with h | h
  ·rw [if_pos (by rw [ih h];exact h1),ih h]
  ·rw [← h,if_neg (by simp [h0])]
theorem chkAt_zero {l:List Bl} {k:Nat}:chkAt l k=0↔(0<k→cmpB (l.getD (k - 1) bl0) (l.getD k bl0)<0)∧(-1000000000000000000≤(l.getD k bl0).amt∧(l.getD k bl0).amt≤1000000000000000000)∧(l.getD k bl0).amt≠0:=by
 unfold chkAt
 split
 ·rename_i h
  constructor
  ·intro h1;omega
  ·intro h1;exact absurd (h1.1 h.1) h.2
 ·rename_i h
  split
  ·rename_i h2
   constructor
   ·intro h1;omega
   ·intro h1;exact absurd h1.2.1 h2
  ·rename_i h2
   split
   ·rename_i h3
    constructor
    ·intro h1;omega
    ·intro h1;exact absurd h3 h1.2.2
   ·rename_i h3
    refine ⟨fun _=>⟨fun h4=>?_,by omega,h3⟩,fun _=>rfl⟩
    false_or_by_contra
    rename_i h5
    exact h ⟨h4,h5⟩
theorem rises_of_next:∀ l:List Bl,(∀ k,k+1<l.length→cmpB (l.getD k bl0) (l.getD (k+1) bl0)<0)→Rises l
 | [],_=>.nil
 | [x],_=>List.pairwise_singleton _ _
 | x :: y :: l,h=>by
  have h0:cmpB x y<0:=by have:=h 0 (by simp);simpa using this
  have h1:Rises (y :: l):=rises_of_next (y :: l) (fun k hk=>by have:=h (k+1) (by simp at hk ⊢;omega);simpa using this)
  refine List.pairwise_cons.2 ⟨fun z hz=>?_,h1⟩
  rcases List.mem_cons.1 hz with rfl | hz
  ·exact h0
  ·exact cmpB_trans h0 ((List.pairwise_cons.1 h1).1 z hz)
theorem getD_mem (l:List Bl) (k:Nat) (h:k<l.length):l.getD k bl0∈l:=by
 rw [List.getD_eq_getElem?_getD,List.getElem?_eq_getElem h]
 exact List.getElem_mem h
theorem mem_getD {l:List Bl} {x:Bl} (h:x∈l):∃ k,k<l.length∧l.getD k bl0=x:=by
 obtain ⟨k,hk,e⟩:=List.getElem_of_mem h
 exact ⟨k,hk,by rw [List.getD_eq_getElem?_getD,List.getElem?_eq_getElem hk,e];rfl⟩
theorem Rises.next {l:List Bl} (h:Rises l) (k:Nat) (hk:k+1<l.length):cmpB (l.getD k bl0) (l.getD (k+1) bl0)<0:=by
 have:=(List.pairwise_iff_getElem.1 h) k (k+1) (by omega) hk (by omega)
 rw [List.getD_eq_getElem?_getD,List.getElem?_eq_getElem (by omega),List.getD_eq_getElem?_getD,List.getElem?_eq_getElem hk]
 exact this
structure Fine (l:List Bl):Prop where
 len:l.length≤200
 rises:Rises l
 amt:∀ x∈l,-1000000000000000000≤x.amt∧x.amt≤1000000000000000000
 ne:∀ x∈l,x.amt≠0
theorem chk_zero {l:List Bl}:chk l=0↔Fine l:=by
 unfold chk
 split
 ·rename_i h
  exact ⟨fun h1=>by omega,fun h1=>by have:=h1.len;omega⟩
 ·rename_i h
  rw [chkTo_zero]
  constructor
  ·intro h1
   refine ⟨by omega,rises_of_next l (fun k hk=>?_),fun x hx=>?_,fun x hx=>?_⟩
   ·have:=(chkAt_zero.1 (h1 (k+1) hk)).1 (by omega)
    simpa using this
   ·obtain ⟨k,hk,rfl⟩:=mem_getD hx
    exact (chkAt_zero.1 (h1 k hk)).2.1
   ·obtain ⟨k,hk,rfl⟩:=mem_getD hx
    exact (chkAt_zero.1 (h1 k hk)).2.2
  ·intro h1 k hk
   refine chkAt_zero.2 ⟨fun h0=>?_,h1.amt _ (getD_mem l k hk),h1.ne _ (getD_mem l k hk)⟩
   have:=h1.rises.next (k - 1) (by omega)
   rw [show k - 1+1=k by omega] at this
   exact this
structure Sums (l R:List Bl):Prop where
 rises:Rises R
 ne:∀ x∈R,x.amt≠0
 ltot:∀ k,ltot k R=ltot k l
theorem Sums.uniq {l m R S:List Bl} (h:Sums l R) (k:Sums m S) (e:∀ k,Go.Proofs.YtjdjfpkjikdkoaaGreatDoor.ltot k l=Go.Proofs.YtjdjfpkjikdkoaaGreatDoor.ltot k m):R=S:=
 rises_tot h.rises k.rises h.ne k.ne (fun q=>by rw [h.ltot,k.ltot,e])
end Go.Proofs.YtjdjfpkjikdkoaaGreatDoor
namespace Go.Proofs.YtjdjfpkjikdkoaaGreatDoor
open Go.RowKit Go.Lib
theorem ldNaN_any (s:ByteArray) (w:World) :
  Calls Tryz.prog 165 #[.string s] w fun e w'=>e=.returned (.bool false)∧w'=w:=by
 go_enter Tryz.func165,Tryz.ntmps165
 go_wp2
 go_ret
 exact ⟨rfl,rfl⟩
theorem ldCompare_any (a b:ByteArray) (w:World) :
  Calls Tryz.prog 136 #[.string a,.string b] w fun e w'=>e=.returned (.int .i64 (cmpS a b))∧w'=w:=by
 cases h1:Op.bytesLess a.toList b.toList
 ·cases h2:(a.toList == b.toList)
  ·have er:cmpS a b=1:=by simp only [cmpS];rw [h1,h2];rfl
   rw [er]
   have h2':¬ a.toList=b.toList:=by simpa using h2
   clear er
   go_enter Tryz.func136,Tryz.ntmps136
   go_wp2_with (go_at_call 165;refine (ldNaN_any _ _).mono ?_;rintro e w' ⟨rfl,rfl⟩)
   go_ret
   exact ⟨rfl,rfl⟩
  ·have er:cmpS a b=0:=by simp only [cmpS];rw [h1,h2];rfl
   rw [er]
   have h2':a=b:=toList_inj (by simpa using h2)
   subst h2'
   clear er h2
   go_enter Tryz.func136,Tryz.ntmps136
   go_wp2_with (go_at_call 165;refine (ldNaN_any _ _).mono ?_;rintro e w' ⟨rfl,rfl⟩)
   go_ret
   exact ⟨rfl,rfl⟩
 ·have er:cmpS a b = -1:=by simp only [cmpS];rw [h1];rfl
  rw [er]
  clear er
  go_enter Tryz.func136,Tryz.ntmps136
  go_wp2_with (go_at_call 165;refine (ldNaN_any _ _).mono ?_;rintro e w' ⟨rfl,rfl⟩)
  go_ret
  exact ⟨rfl,rfl⟩
theorem ldNaNI_any (n:Int) (w:World) :
  Calls Tryz.prog 164 #[.int .i64 n] w fun e w'=>e=.returned (.bool false)∧w'=w:=by
 go_enter Tryz.func164,Tryz.ntmps164
 go_wp2
 go_ret
 exact ⟨rfl,rfl⟩
theorem ldCompareI_any (a b:Int) (w:World) :
  Calls Tryz.prog 135 #[.int .i64 a,.int .i64 b] w fun e w'=>e=.returned (.int .i64 (cmpI a b))∧w'=w:=by
 by_cases h1:a<b
 ·have er:cmpI a b = -1:=if_pos h1
  rw [er]
  go_enter Tryz.func135,Tryz.ntmps135
  go_wp2_with (go_at_call 164;refine (ldNaNI_any _ _).mono ?_;rintro e w' ⟨rfl,rfl⟩)
  go_ret
  exact ⟨rfl,rfl⟩
 ·by_cases h2:b<a
  ·have er:cmpI a b=1:=by unfold cmpI;rw [if_neg h1,if_pos h2]
   rw [er]
   go_enter Tryz.func135,Tryz.ntmps135
   go_wp2_with (go_at_call 164;refine (ldNaNI_any _ _).mono ?_;rintro e w' ⟨rfl,rfl⟩)
   go_ret
   exact ⟨rfl,rfl⟩
  ·have er:cmpI a b=0:=by unfold cmpI;rw [if_neg h1,if_neg h2]
   rw [er]
   go_enter Tryz.func135,Tryz.ntmps135
   go_wp2_with (go_at_call 164;refine (ldNaNI_any _ _).mono ?_;rintro e w' ⟨rfl,rfl⟩)
   go_ret
   exact ⟨rfl,rfl⟩
theorem ldOr3_any (b:Nat) (x y z:Int) (w:World) (h0:w.cell? ⟨b,0,none⟩=some (.int .i64 x)) (h1:w.cell? ⟨b,1,none⟩=some (.int .i64 y)) (h2:w.cell? ⟨b,2,none⟩=some (.int .i64 z)) :
  Calls Tryz.prog 134 #[.slice (some ⟨b,0,none⟩) 3 3] w fun e w'=>e=.returned (.int .i64 (if x≠0 then x else if y≠0 then y else z))∧w'=w:=by
 by_cases hx:x=0
 ·subst hx
  rw [if_neg (by simp)]
  by_cases hy:y=0
  ·subst hy
   rw [if_neg (by simp)]
   by_cases hz:z=0
   ·subst hz
    go_enter Tryz.func134,Tryz.ntmps134
    go_wp2
    refine wp_loop_rounds 4 ?_
    rw [rounds_succ]
    go_wp2
    rw [rounds_succ]
    go_wp2
    rw [rounds_succ]
    go_wp2
    rw [rounds_succ]
    go_wp2
    go_ret
    exact ⟨rfl,rfl⟩
   ·have hz':(z != 0)=true:=by simp [hz]
    go_enter Tryz.func134,Tryz.ntmps134
    go_wp2
    refine wp_loop_rounds 4 ?_
    rw [rounds_succ]
    go_wp2
    rw [rounds_succ]
    go_wp2
    rw [rounds_succ]
    go_wp2
    go_ret
    exact ⟨rfl,rfl⟩
  ·rw [if_pos hy]
   have hy':(y != 0)=true:=by simp [hy]
   go_enter Tryz.func134,Tryz.ntmps134
   go_wp2
   refine wp_loop_rounds 4 ?_
   rw [rounds_succ]
   go_wp2
   rw [rounds_succ]
   go_wp2
   go_ret
   exact ⟨rfl,rfl⟩
 ·rw [if_pos hx]
  have hx':(x != 0)=true:=by simp [hx]
  go_enter Tryz.func134,Tryz.ntmps134
  go_wp2
  refine wp_loop_rounds 4 ?_
  rw [rounds_succ]
  go_wp2
  go_ret
  exact ⟨rfl,rfl⟩
theorem ld_cell_new (W:World) (ROW:Array Value) (t:TypeId) (b j:Nat) (v:Value) (hb:b=W.heap.size) (hv:ROW[j]? = some v):((W.alloc (.cells ROW t)).drew).cell? ⟨b,j,none⟩=some v:=
 (World.cell?_alloc_at (w:=W) ROW t b j hb).trans hv
set_option maxHeartbeats 4000000 in
theorem ldCompareB_at (x y:Bl) (w:World) :
  Calls Tryz.prog 118 #[.agg x.cells,.agg y.cells] w fun e w'=>e=.returned (.int .i64 (cmpB x y))∧∃ q os,w'=Sort.grow (w.drewN q) os:=by
 obtain ⟨x0,x1,x2,x3⟩:=x
 obtain ⟨y0,y1,y2,y3⟩:=y
 simp only [Bl.cells,cmpB]
 obtain ⟨V,hV⟩:∃ V,(w.alloc (.cells #[.int .i64 x0,.string x1,.string x2,.int .i64 x3] 146)).alloc (.cells #[.int .i64 y0,.string y1,.string y2,.int .i64 y3] 146)=V:=⟨_,rfl⟩
 have c0:((V.alloc (.cells #[.int .i64 (cmpI x0 y0),.int .i64 (cmpS x1 y1),.int .i64 (cmpS x2 y2)] 3)).drew).cell? ⟨w.heap.size+1+1,0,none⟩=some (.int .i64 (cmpI x0 y0)):=ld_cell_new _ _ _ _ _ _ (by rw [← hV];simp) rfl
 have c1:((V.alloc (.cells #[.int .i64 (cmpI x0 y0),.int .i64 (cmpS x1 y1),.int .i64 (cmpS x2 y2)] 3)).drew).cell? ⟨w.heap.size+1+1,1,none⟩=some (.int .i64 (cmpS x1 y1)):=ld_cell_new _ _ _ _ _ _ (by rw [← hV];simp) rfl
 have c2:((V.alloc (.cells #[.int .i64 (cmpI x0 y0),.int .i64 (cmpS x1 y1),.int .i64 (cmpS x2 y2)] 3)).drew).cell? ⟨w.heap.size+1+1,2,none⟩=some (.int .i64 (cmpS x2 y2)):=ld_cell_new _ _ _ _ _ _ (by rw [← hV];simp) rfl
 have hO:=ldOr3_any _ _ _ _ _ c0 c1 c2
 have bl:∃ q os,((V.alloc (.cells #[.int .i64 (cmpI x0 y0),.int .i64 (cmpS x1 y1),.int .i64 (cmpS x2 y2)] 3)).drew)=Sort.grow (w.drewN q) os:=by
  rw [← hV]
  exact ⟨1,_,by rw [Sort.alloc_eq_grow,Sort.alloc_eq_grow,Sort.alloc_eq_grow,Sort.grow_grow,Sort.grow_grow,Sort.drew_grow];rfl⟩
 subst hV
 clear c0 c1 c2
 obtain ⟨r,hr⟩:∃ r,(if cmpI x0 y0≠0 then cmpI x0 y0 else if cmpS x1 y1≠0 then cmpS x1 y1 else cmpS x2 y2)=r:=⟨_,rfl⟩
 rw [hr] at hO ⊢
 clear hr
 go_enter Tryz.func118,Tryz.ntmps118
 go_wp2
 go_region_held3 (fun u=>(u.cell? ⟨w.heap.size,0,none⟩=some (.int .i64 x0)∧u.cell? ⟨w.heap.size,1,none⟩=some (.string x1)∧u.cell? ⟨w.heap.size,2,none⟩=some (.string x2))∧u.cell? ⟨w.heap.size+1,0,none⟩=some (.int .i64 y0)∧u.cell? ⟨w.heap.size+1,1,none⟩=some (.string y1)∧u.cell? ⟨w.heap.size+1,2,none⟩=some (.string y2)) (go_keep) (first | (go_at_call 135;refine (ldCompareI_any _ _ _).mono ?_;rintro e w' ⟨rfl,rfl⟩) | (go_at_call 136;refine (ldCompare_any _ _ _).mono ?_;rintro e w' ⟨rfl,rfl⟩) | (go_at_call 134;refine hO.mono ?_;rintro e w' ⟨rfl,rfl⟩))
 all_goals
  go_wp2
  go_ret
  exact ⟨rfl,bl⟩
theorem grow_below (w:World) (q:Nat) (os:Array Obj):Below w.heap.size w (Sort.grow (w.drewN q) os):=
 ⟨rfl,rfl,rfl,by rw [Sort.size_grow];exact Nat.le_add_right _ _,fun b hb=>Sort.heap_grow_old (w.drewN q) os hb⟩
theorem ldCompareB_any (x y:Bl) (w:World) :
  Calls Tryz.prog 118 #[.agg x.cells,.agg y.cells] w fun e w'=>e=.returned (.int .i64 (cmpB x y))∧Below w.heap.size w w':=
 (ldCompareB_at x y w).mono fun e w' ⟨h,q,os,hw⟩=>⟨h,by rw [hw];exact grow_below w q os⟩
theorem isWithin_any (n m:Int) (hm:-9223372036854775808≤-m∧-m≤9223372036854775807) (w:World) :
  Calls Tryz.prog 119 #[.int .i64 n,.int .i64 m] w fun e w'=>e=.returned (.bool (decide (-m≤n∧n≤m)))∧w'=w:=by
 have hw:IntKind.i64.wrap (-m) = -m:=by
  simp only [IntKind.wrap,IntKind.bits,IntKind.signed]
  simp
  omega
 by_cases h1:-m≤n
 ·by_cases h2:n≤m
  ·rw [decide_eq_true ⟨h1,h2⟩]
   go_enter Tryz.func119,Tryz.ntmps119
   go_wp2
   go_ret
   exact ⟨rfl,rfl⟩
  ·rw [decide_eq_false (fun h=>h2 h.2)]
   go_enter Tryz.func119,Tryz.ntmps119
   go_wp2
   go_ret
   exact ⟨rfl,rfl⟩
 ·rw [decide_eq_false (fun h=>h1 h.1)]
  go_enter Tryz.func119,Tryz.ntmps119
  go_wp2
  go_ret
  exact ⟨rfl,rfl⟩
end Go.Proofs.YtjdjfpkjikdkoaaGreatDoor
namespace Go.Proofs.YtjdjfpkjikdkoaaGreatDoor
open Go.RowKit Go.Lib
theorem IsBl.some {w:World} {a:Option Addr} {l:List Bl} {cap k:Nat} (h:IsBl w a l cap) (hk:k<l.length):∃ b off,a=some ⟨b,off,none⟩∧b<w.heap.size∧BlsAt w b off l:=by
 rcases h.lies with h | h
 ·rw [h] at hk;simp at hk
 ·exact h
set_option maxHeartbeats 4000000 in
theorem ldCheck_any (a:Option Addr) (cap:Nat) (l:List Bl) (w:World) (hlen:l.length≤9223372036854775807) (h:IsBl w a l cap) :
  Calls Tryz.prog 81 #[.slice a l.length cap] w fun e w'=>e=.returned (enE (chk l))∧Below w.heap.size w w':=by
 by_cases h2:200<l.length
 ·have e4:chk l=4:=if_pos h2
  rw [e4,enE_ne (by decide)]
  have i1:(200:Int)<l.length:=by omega
  clear h e4
  go_enter Tryz.func81,Tryz.ntmps81
  go_wp2
  go_ret
  exact ⟨rfl,Below.refl _ _⟩
 have i1:¬ (200:Int)<l.length:=by omega
 have i2:(l.length:Int)≤200:=by omega
 obtain ⟨res,hres⟩:∃ res,enE (chk l)=res:=⟨_,rfl⟩
 have Hres:Hid (enE (chkTo l l.length)=res):=by
  rw [← hres];unfold chk;rw [if_neg h2];exact rfl
 rw [hres]
 clear hres
 have HL:Hid (IsBl w a l cap):=h
 clear h
 go_enter Tryz.func81,Tryz.ntmps81
 go_wp2
 go_loopw [11] (fun i wr=>∃ k:Nat,k≤l.length∧i=.int .i64 k∧Hid (chkTo l k=0)∧Hid (Below w.heap.size w wr)) (fun i _=>l.length - (RowKit.intOf i).toNat)
 case atStart=>exact ⟨0,Nat.zero_le _,rfl,rfl,Below.refl _ _⟩
 case round=>
  obtain ⟨k,hk,rfl,H0,HB⟩:=hrel
  by_cases hlt:k<l.length
  ·obtain ⟨b,off,rfl,hb,hc⟩:=HL.out.some hlt
   have hy:=(hc k hlt).below HB.out hb
   have i0:(0:Int)≤k:=by omega
   have i3:(k:Int)<l.length:=by omega
   have HC:Hid (BlsAt w b off l):=hc
   have HY:Hid (l.getD k bl0=l.getD k bl0):=rfl
   obtain ⟨y,hyy⟩:∃ y,l.getD k bl0=y:=⟨_,rfl⟩
   have HYY:Hid (l.getD k bl0=y):=hyy
   rw [hyy] at hy
   clear hyy hc HY
   obtain ⟨y0,y1,y2,y3⟩:=y
   obtain ⟨d0,d1,d2,d3⟩:=hy
   simp only at d0 d1 d2 d3
   obtain ⟨W1,hW1⟩:∃ W1,wr.alloc (.cells #[.int .i64 y0,.string y1,.string y2,.int .i64 y3] 146)=W1:=⟨_,rfl⟩
   have hbx:W1.heap[wr.heap.size]? = some (.cells #[.int .i64 y0,.string y1,.string y2,.int .i64 y3] 146 (0,0)):=by rw [← hW1];unfold World.alloc;simp only [Array.getElem?_push_size]
   have HB1:Hid (Below w.heap.size w W1):=by rw [← hW1];exact HB.out.alloc HB.out.size _
   have HX:Hid (∀ U,Below W1.heap.size W1 U→U.cell? ⟨wr.heap.size,0,none⟩=some (.int .i64 y0)∧U.cell? ⟨wr.heap.size,1,none⟩=some (.string y1)∧U.cell? ⟨wr.heap.size,2,none⟩=some (.string y2)∧U.cell? ⟨wr.heap.size,3,none⟩=some (.int .i64 y3)):=fun U hU=>by
    have hlt':wr.heap.size<W1.heap.size:=(Array.getElem?_eq_some_iff.1 hbx).1
    have e:=(hU.block _ hlt').trans hbx
    simp [World.cell?,e]
   have HW1:Hid (wr.alloc (.cells #[.int .i64 y0,.string y1,.string y2,.int .i64 y3] 146)=W1):=hW1
   have HSz:Hid (wr.heap.size<W1.heap.size):=(Array.getElem?_eq_some_iff.1 hbx).1
   clear hW1 hbx
   go_upto_region 6 with fail
   rw [HW1.out]
   clear HW1 d0 d1 d2 d3
   obtain ⟨B,hB⟩:∃ B,wr.heap.size=B:=⟨_,rfl⟩
   rw [hB] at HX HSz ⊢
   clear hB HB
   go_cut [16] from 17 to 28 (fun t wx=>t=.bool (decide (0<k∧¬ cmpB (l.getD (k - 1) bl0) ⟨y0,y1,y2,y3⟩<0))∧Hid (Below W1.heap.size W1 wx))
   case first=>
    rcases k with _ | m
    ·obtain ⟨f0,f1,f2,f3⟩:=HX.out W1 (Below.refl _ _)
     go_wp2_with fail
     go_quiet (fail)
     rename Nat=>nk
     have HZ:Hid (Below W1.heap.size W1 (W1.drewN nk)):=en_drewN (Below.refl _ _) nk
     go_wp2
     go_meet
     case rel=>exact ⟨by simp,HZ⟩
    ·have hx:=(HC.out m (by omega)).below HB1.out hb
     have er:(0<m+1∧¬ cmpB (l.getD (m+1 - 1) bl0) ⟨y0,y1,y2,y3⟩<0)↔¬ cmpB (l.getD m bl0) ⟨y0,y1,y2,y3⟩<0:=by
      rw [Nat.add_sub_cancel]
      exact ⟨fun h=>h.2,fun h=>⟨by omega,h⟩⟩
     have HER:Hid (decide (0<m+1∧¬ cmpB (l.getD (m+1 - 1) bl0) ⟨y0,y1,y2,y3⟩<0)=decide (0≤cmpB (l.getD m bl0) ⟨y0,y1,y2,y3⟩)):=by
      unfold Hid
      rw [decide_eq_decide,er]
      omega
     clear er
     have HCm:Hid (∀ W,Calls Tryz.prog 118 #[.agg (l.getD m bl0).cells,.agg (Bl.mk y0 y1 y2 y3).cells] W fun e w'=>e=.returned (.int .i64 (cmpB (l.getD m bl0) ⟨y0,y1,y2,y3⟩))∧Below W.heap.size W w'):=fun W=>ldCompareB_any _ _ W
     generalize l.getD m bl0=x at hx HER HCm
     generalize cmpB x ⟨y0,y1,y2,y3⟩=c at *
     obtain ⟨x0,x1,x2,x3⟩:=x
     obtain ⟨d0,d1,d2,d3⟩:=hx
     obtain ⟨f0,f1,f2,f3⟩:=HX.out W1 (Below.refl _ _)
     simp only [Bl.cells] at d0 d1 d2 d3 f0 f1 f2 f3 HCm
     have hbW:b<W1.heap.size:=Nat.lt_of_lt_of_le hb HB1.out.size
     have hBW:=HSz.out
     have HK:Hid (∀ W V,Below W.heap.size W V→b<W.heap.size→B<W.heap.size→(W.cell? ⟨b,off+m*4,none⟩=some (.int .i64 x0)∧W.cell? ⟨b,off+m*4+1,none⟩=some (.string x1)∧W.cell? ⟨b,off+m*4+2,none⟩=some (.string x2)∧W.cell? ⟨b,off+m*4+3,none⟩=some (.int .i64 x3))∧W.cell? ⟨B,0,none⟩=some (.int .i64 y0)∧W.cell? ⟨B,1,none⟩=some (.string y1)∧W.cell? ⟨B,2,none⟩=some (.string y2)∧W.cell? ⟨B,3,none⟩=some (.int .i64 y3)→(V.cell? ⟨b,off+m*4,none⟩=some (.int .i64 x0)∧V.cell? ⟨b,off+m*4+1,none⟩=some (.string x1)∧V.cell? ⟨b,off+m*4+2,none⟩=some (.string x2)∧V.cell? ⟨b,off+m*4+3,none⟩=some (.int .i64 x3))∧V.cell? ⟨B,0,none⟩=some (.int .i64 y0)∧V.cell? ⟨B,1,none⟩=some (.string y1)∧V.cell? ⟨B,2,none⟩=some (.string y2)∧V.cell? ⟨B,3,none⟩=some (.int .i64 y3)):=fun W V hB hlt hlt2 hh=>by
      have C:∀ o,V.cell? ⟨b,o,none⟩=W.cell? ⟨b,o,none⟩:=fun o=>hB.cell (p:=⟨b,o,none⟩) hlt
      have C2:∀ o,V.cell? ⟨B,o,none⟩=W.cell? ⟨B,o,none⟩:=fun o=>hB.cell (p:=⟨B,o,none⟩) hlt2
      simp only [C,C2]
      exact hh
     have j0:(0:Int)≤m:=by omega
     have j1:(m:Int)+1<l.length:=by omega
     have j2:(m:Int)<l.length:=by omega
     have i6:(m:Int)+1 - 1=m:=by omega
     have i7:((m:Int)+1).toNat=m+1:=by omega
     have i8:(0:Int)≤(m:Int)+1:=by omega
     have i9:(0:Int)<(m:Int)+1:=by omega
     have iw1:IntKind.i64.wrap (m:Int)=m:=by
      simp only [IntKind.wrap,IntKind.bits,IntKind.signed]
      simp
      omega
     have iw2:IntKind.i64.wrap ((m:Int)+1 - 1)=m:=by rw [i6,iw1]
     clear HX HC HYY HB1 HL HSz H0 Hres i0 i3
     go_wp2_with fail
     go_region_held3 (fun u=>(u.cell? ⟨b,off+m*4,none⟩=some (.int .i64 x0)∧u.cell? ⟨b,off+m*4+1,none⟩=some (.string x1)∧u.cell? ⟨b,off+m*4+2,none⟩=some (.string x2)∧u.cell? ⟨b,off+m*4+3,none⟩=some (.int .i64 x3))∧u.cell? ⟨B,0,none⟩=some (.int .i64 y0)∧u.cell? ⟨B,1,none⟩=some (.string y1)∧u.cell? ⟨B,2,none⟩=some (.string y2)∧u.cell? ⟨B,3,none⟩=some (.int .i64 y3)) (go_keep) (first | (go_at_call 118;refine (HCm.out _).mono ?_;rintro e w' ⟨rfl,hb'⟩;obtain ⟨⟨p0,p1,p2,p3⟩,p4,p5,p6,p7⟩:=HK.out _ _ hb' (by simpa using hbW) (by simpa using hBW) (by simpa using ⟨⟨d0,d1,d2,d3⟩,f0,f1,f2,f3⟩)))
     all_goals
      go_wp2
      go_meet
      case rel=>exact ⟨by rw [HER.out],(Below.refl _ _).drew.trans hb'⟩
   case rest=>
    obtain ⟨rfl,HBc⟩:=hcut
    obtain ⟨f0,f1,f2,f3⟩:=HX.out wc HBc.out
    have HBw:Hid (Below w.heap.size w wc):=HB1.out.trans (HBc.out.mono HB1.out.size)
    have HIs:Hid (Calls Tryz.prog 119 #[.int .i64 y3,.int .i64 1000000000000000000] wc fun e w'=>e=.returned (.bool (decide (-1000000000000000000≤y3∧y3≤1000000000000000000)))∧w'=wc):=isWithin_any y3 1000000000000000000 (by decide) wc
    have HA:Hid (chkAt l k=if 0<k∧¬ cmpB (l.getD (k - 1) bl0) ⟨y0,y1,y2,y3⟩<0 then 5 else if ¬ (-1000000000000000000≤y3∧y3≤1000000000000000000) then 1 else if y3=0 then 3 else 0):=by
     unfold chkAt
     rw [HYY.out]
     exact rfl
    have HRet:Hid (∀ c,c≠0→chkAt l k=c→res=enE c):=fun c h0 h1=>by
     rw [← Hres.out,chkTo_first H0.out (by rw [h1];exact h0) hlt,h1]
    clear HX HBc HB1 HC HYY HL
    by_cases c1:0<k∧¬ cmpB (l.getD (k - 1) bl0) ⟨y0,y1,y2,y3⟩<0
    ·have e5:res=enE 5:=HRet.out 5 (by decide) (by rw [HA.out,if_pos c1])
     rw [decide_eq_true c1]
     rw [enE_ne (by decide)] at e5
     subst e5
     clear HA HRet c1 Hres
     go_wp2
     go_ret
     exact ⟨rfl,HBw.out⟩
    ·rw [decide_eq_false c1]
     by_cases c2:-1000000000000000000≤y3∧y3≤1000000000000000000
     ·rw [decide_eq_true c2] at HIs
      by_cases c3:y3=0
      ·have e5:res=enE 3:=HRet.out 3 (by decide) (by rw [HA.out,if_neg c1,if_neg (by simpa using c2),if_pos c3])
       rw [enE_ne (by decide)] at e5
       subst e5
       subst c3
       clear HA HRet c1 Hres c2
       go_wp2_with (go_at_call 119;refine HIs.out.mono ?_;rintro e w' ⟨rfl,rfl⟩)
       go_ret
       exact ⟨rfl,HBw.out⟩
      ·have e0:chkTo l (k+1)=0:=by
        unfold chkTo
        rw [if_neg (by simp [H0.out]),HA.out,if_neg c1,if_neg (by simpa using c2),if_neg c3]
       have HE:Hid (chkTo l (k+1)=0):=e0
       have c3':(y3 == 0)=false:=by rw [beq_eq_false_iff_ne];exact c3
       clear HA HRet c1 e0 c2
       go_wp2_with (go_at_call 119;refine HIs.out.mono ?_;rintro e w' ⟨rfl,rfl⟩)
       go_roundw
       case rel=>exact ⟨k+1,by omega,by go_num,HE,HBw⟩
       case measure=>simp [RowKit.intOf];omega
     ·rw [decide_eq_false c2] at HIs
      have e5:res=enE 1:=HRet.out 1 (by decide) (by rw [HA.out,if_neg c1,if_pos c2])
      rw [enE_ne (by decide)] at e5
      subst e5
      clear HA HRet c1 Hres
      go_wp2_with (go_at_call 119;refine HIs.out.mono ?_;rintro e w' ⟨rfl,rfl⟩)
      go_ret
      exact ⟨rfl,HBw.out⟩
  ·have hk2:k=l.length:=by omega
   subst hk2
   have e5:res=enE 0:=by rw [← Hres.out,H0.out]
   rw [enE_zero] at e5
   subst e5
   clear Hres
   go_wp2
   go_ret
   exact ⟨rfl,HB.out⟩
end Go.Proofs.YtjdjfpkjikdkoaaGreatDoor
namespace Go.Proofs.YtjdjfpkjikdkoaaGreatDoor
open Go.RowKit Go.Lib
def hasB (en:Int) (acc cur:ByteArray) (x:Bl):Bool:=decide (x.ent=en) && (decide (x.acc=acc) && decide (x.cur=cur))
def getB (b:List Bl) (en:Int) (acc cur:ByteArray):Int:=(b.find? (hasB en acc cur)).elim 0 Bl.amt
def fidx (p:Bl→Bool):Nat→List Bl→Int
 | _,[]=>-1
 | k,a :: l=>if p a=true then (k:Int) else fidx p (k+1) l
theorem fidx_spec (p:Bl→Bool):∀ (l:List Bl) (k:Nat),(fidx p k l = -1∧l.find? p=none)∨∃ j,j<l.length∧fidx p k l=((k+j:Nat):Int)∧l.find? p=some (l.getD j bl0)
 | [],k=>.inl ⟨rfl,rfl⟩
 | x :: l,k=>by
  cases h:p x
  ·rcases fidx_spec p l (k+1) with ⟨e,ha⟩ | ⟨j,hj,e,ha⟩
   ·exact .inl ⟨by rw [fidx,if_neg (by simp [h]),e],by rw [List.find?_cons_of_neg (by simp [h]),ha]⟩
   ·exact .inr ⟨j+1,by simpa using hj,by rw [fidx,if_neg (by simp [h]),e];congr 1;omega,by rw [List.find?_cons_of_neg (by simp [h]),ha];rfl⟩
  ·exact .inr ⟨0,by simp,by rw [fidx,if_pos h];simp,by rw [List.find?_cons_of_pos h];rfl⟩
structure BTells2 (g:Nat) (u v:Value) (p:Bl→Bool) (w:World):Prop where
 eg:∀ args W,(callFunc g args).run Tryz.prog W=.ok (.enter g args) W
 call:∀ (x:Bl) W,Below w.heap.size w W→Calls Tryz.prog g #[.agg x.cells,u,v] W fun e w'=>e=.returned (.bool (p x))∧Below W.heap.size W w'
set_option maxHeartbeats 1000000 in
theorem fidx_some (g:Nat) (u v:Value) (p:Bl→Bool) (b off cap:Nat) (l:List Bl) (w:World) (hp:BTells2 g u v p w) (hb:b<w.heap.size) (hlen:(l.length:Int)≤9223372036854775807) (hc:BlsAt w b off l) :
  Calls Tryz.prog 120 #[.slice (some ⟨b,off,none⟩) l.length cap,.func (.func g) #[] #[u,v]] w fun e w'=>e=.returned (.int .i64 (fidx p 0 l))∧Below w.heap.size w w':=by
 have eg:=hp.eg
 have Hp:Hid (BTells2 g u v p w):=hp
 have Hc:Hid (BlsAt w b off l):=hc
 clear hp hc
 obtain ⟨res,hres⟩:∃ res,fidx p 0 l=res:=⟨_,rfl⟩
 have Hres:Hid (fidx p 0 l=res):=hres
 rw [hres]
 clear hres
 go_enter Tryz.func120,Tryz.ntmps120
 go_wp2
 go_loopw [8] (fun i wr=>∃ k:Nat,k≤l.length∧i=.int .i64 k∧Hid (fidx p k (l.drop k)=res)∧Below w.heap.size w wr) (fun i _=>l.length - (RowKit.intOf i).toNat)
 case atStart=>exact ⟨0,Nat.zero_le _,rfl,Hres.out,Below.refl _ _⟩
 case round=>
  obtain ⟨k,hk,rfl,H,BW⟩:=hrel
  by_cases hlt:k<l.length
  ·have hn:=(Hc.out k hlt).below BW hb
   have hcall:=Hp.out.call (l.getD k bl0) wr BW
   have E:Hid ((if p (l.getD k bl0)=true then (k:Int) else fidx p (k+1) (l.drop (k+1)))=res):=by
    have:=H.out
    rw [bls_drop l k hlt] at this
    exact this
   clear H
   generalize l.getD k bl0=a at *
   obtain ⟨a0,a1,a2,a3⟩:=a
   obtain ⟨c0,c1,c2,c3⟩:=hn
   simp only [Bl.cells] at c0 c1 c2 c3 hcall
   have i0:(0:Int)≤k:=by omega
   have i1:(k:Int)<l.length:=by omega
   cases hq:p ⟨a0,a1,a2,a3⟩
   ·rw [hq] at hcall
    have HN:Hid (fidx p (k+1) (l.drop (k+1))=res):=by
     have:=E.out;rw [if_neg (by rw [hq];simp)] at this;exact this
    go_wp2_with (go_at_fn g;refine hcall.mono ?_;rintro e w' ⟨rfl,hb'⟩)
    go_roundw
    case rel=>exact ⟨k+1,by omega,by go_num,HN,BW.trans (hb'.mono BW.size)⟩
    case measure=>simp [RowKit.intOf];omega
   ·rw [hq] at hcall
    have er:res=k:=by rw [← E.out,if_pos hq]
    subst er
    go_wp2_with (go_at_fn g;refine hcall.mono ?_;rintro e w' ⟨rfl,hb'⟩)
    go_ret
    exact ⟨rfl,BW.trans (hb'.mono BW.size)⟩
  ·have hk2:k=l.length:=by omega
   subst hk2
   have er:res = -1:=by rw [← H.out,List.drop_length];rfl
   subst er
   go_wp2
   go_ret
   exact ⟨rfl,BW⟩
theorem fidx_nil (a:Option Addr) (cap:Nat) (f:Value) (w:World) :
  Calls Tryz.prog 120 #[.slice a 0 cap,f] w fun e w'=>e=.returned (.int .i64 (-1))∧Below w.heap.size w w':=by
 go_enter Tryz.func120,Tryz.ntmps120
 go_wp2
 refine wp_loop_rounds 1 ?_
 rw [rounds_succ]
 go_wp2
 go_ret
 exact ⟨rfl,Below.refl _ _⟩
theorem fidx_any (g:Nat) (u v:Value) (p:Bl→Bool) (a:Option Addr) (cap:Nat) (l:List Bl) (w:World) (hp:BTells2 g u v p w) (hlen:(l.length:Int)≤9223372036854775807) (h:IsBl w a l cap) :
  Calls Tryz.prog 120 #[.slice a l.length cap,.func (.func g) #[] #[u,v]] w fun e w'=>e=.returned (.int .i64 (fidx p 0 l))∧Below w.heap.size w w':=by
 rcases h.lies with rfl | ⟨b,off,rfl,hlt,hc⟩
 ·exact fidx_nil a cap _ w
 ·exact fidx_some g u v p b off cap l w hp hlt hlen hc
theorem fidx_has (p:Bl→Bool):∀ (l:List Bl) (k:Nat),decide (0≤fidx p k l)=l.any p
 | [],k=>by simp [fidx]
 | x :: l,k=>by
  rw [fidx]
  cases h:p x
  ·rw [if_neg (by simp),fidx_has p l (k+1)];simp [h]
  ·rw [if_pos rfl];simp [h]
theorem fContains_any (g:Nat) (u v:Value) (p:Bl→Bool) (a:Option Addr) (cap:Nat) (l:List Bl) (w:World) (hp:BTells2 g u v p w) (hlen:(l.length:Int)≤9223372036854775807) (h:IsBl w a l cap) :
  Calls Tryz.prog 85 #[.slice a l.length cap,.func (.func g) #[] #[u,v]] w fun e w'=>e=.returned (.bool (l.any p))∧Below w.heap.size w w':=by
 rw [← fidx_has p l 0]
 have hI:=fidx_any g u v p a cap l w hp hlen h
 clear h hp
 go_enter Tryz.func85,Tryz.ntmps85
 go_wp2_with fail
 refine hI.mono ?_
 rintro e w' ⟨rfl,hb⟩
 go_wp2
 go_ret
 exact ⟨rfl,hb⟩
end Go.Proofs.YtjdjfpkjikdkoaaGreatDoor
