/-
  Part of a proof (see the last text).
-/
import Derived.Test.YtjifbbdkpanagaaGreatDoorZd31
import Derived.Deep.Slices
import Derived.OpenShut
set_option linter.unusedVariables false
set_option linter.unusedSimpArgs false
set_option maxRecDepth 100000
namespace Go.Proofs.YtjifbbdkpanagaaGreatDoor
section
open Go.RowKit Go.Lib Go.Maps Math Go.Proofs.Tryz
theorem rvBad_ok {S:Int×DataW Unit} {c:List Ac} {base gain:ByteArray} {b:List Bl} {en pe:Int}:Qch S c base gain b en pe=0↔QaC c=0∧(Fine b∧S.1=0∧Qat base=true∧Qav en 12=true∧Qav pe 120=true)∧(∀ x∈b,wE S base en pe x=0)∧Qaa c gain=0∧(∀ x∈b,x.ent=en→isAcc c x.acc=true)∧∀ i,i<c.length→QdJ (wV S base en pe) base gain b en (c.getD i ac0)=0:=by
 have hw:Qbs S base b en pe=0↔(Fine b∧S.1=0∧Qat base=true∧Qav en 12=true∧Qav pe 120=true)∧∀ x∈b,wE S base en pe x=0:=by
  unfold Qbs;constructor
  ·intro h;split at h
   ·contradiction
   ·rename_i h1;refine ⟨QeY.1 (Decidable.of_not_not h1),fun x hx=>?_⟩
    obtain ⟨k,hk,rfl⟩:=mem_getD hx;exact QaH h k hk
  ·rintro ⟨h1,h2⟩;rw [if_neg (by simp [QeY.2 h1])]
   exact QfV fun k hk=>h2 _ (QgC b k hk)
 have hn:b.any (Qgq c en)=true↔¬ ∀ x∈b,x.ent=en→isAcc c x.acc=true:=by
  rw [List.any_eq_true];constructor
  ·rintro ⟨x,hx,h⟩ hh;unfold Qgq at h;simp only [Bool.and_eq_true,decide_eq_true_eq,Bool.not_eq_true'] at h;rw [hh x hx h.1] at h;exact absurd h.2 (by simp)
  ·intro h;refine Classical.byContradiction fun h2=>h fun x hx he=>?_
   cases hh:isAcc c x.acc
   ·exact absurd ⟨x,hx,by unfold Qgq;simp [he,hh]⟩ h2
   ·rfl
 unfold Qch;constructor
 ·intro h;split at h
  ·contradiction
  ·rename_i h1;split at h
   ·contradiction
   ·rename_i h2;split at h
    ·contradiction
    ·rename_i h3;split at h
     ·omega
     ·rename_i h4;obtain ⟨w1,w2⟩:=hw.1 (Decidable.of_not_not h2);exact ⟨Decidable.of_not_not h1,w1,w2,Decidable.of_not_not h3,Classical.byContradiction fun hh=>h4 (hn.2 hh),fun i hi=>QaH h i hi⟩
 ·rintro ⟨h1,h2,h3,h4,h5,h6⟩;rw [if_neg (by simp [h1]),if_neg (by simp [hw.2 ⟨h2,h3⟩]),if_neg (by simp [h4]),if_neg (fun hh=>(hn.1 hh) h5)]
  exact QfV h6
theorem amt_of_ok {f:Bl→Int} {base gain:ByteArray} {b:List Bl} {en:Int} {x:Ac} (h:QdJ f base gain b en x=0) (hm:x.mon=true):(-1000000000000000≤Qe8 f base b en x∧Qe8 f base b en x≤1000000000000000)∧acErr f base b en x=0:=by
 unfold QdJ at h;rw [if_neg (by simp [hm])] at h
 split at h
 ·contradiction
 ·rename_i h1;unfold brBad at h;split at h
  ·omega
  ·rename_i h2;have h3:QaJ (Qe8 f base b en x)=true:=by simpa using h2
   have:=Qbl.1 h3
   unfold Qah at this;exact ⟨this,Decidable.of_not_not h1⟩
theorem br_zero (n:Int) (base code gain:ByteArray) (h:-Qah≤n∧n≤Qah):0<(brL n base code gain).length∧(brL n base code gain).length≤20∧Qa7 Qah (brL n base code gain)∧∀ y∈QaN (brL n base code gain),y.amt=0:=by
 refine ⟨by simp [brL],by simp [brL],?_,?_⟩
 ·intro x hx;simp only [brL,List.mem_cons,List.not_mem_nil,or_false] at hx;rcases hx with rfl | rfl
  ·exact h
  ·show -Qah≤-n∧-n≤Qah;omega
 ·have key:∀ p':Ln→Bool,KeyP p'→tot p' ((brL n base code gain).map Qb7)=0:=fun p' hp=>by
   have e:(brL n base code gain).map Qb7=[Qb7 ⟨code,base,n⟩]++[Qb7 ⟨code,base,n⟩].map turnL:=rfl;rw [e,Qd3,QgG hp];omega
  exact QgB.2 key
theorem rvTo_mem {f:Bl→Int} {base gain:ByteArray} {b:List Bl} {en pe:Int} {c:List Ac} {n:Nat} {x:Ep} (h:x∈QhL f base gain b en pe c n):∃ k,k<n∧(c.getD k ac0).mon=true∧x.ent=en∧x.lns=brL (Qe8 f base b en (c.getD k ac0)) base (c.getD k ac0).code gain:=by
 obtain ⟨k,hk,hx⟩:=List.mem_flatMap.1 h;refine ⟨k,List.mem_range.1 hk,?_⟩;unfold acE at hx;split at hx
 ·rename_i hh;rw [List.mem_singleton] at hx;subst hx;exact ⟨hh.1,rfl,rfl⟩
 ·cases hx
theorem rv_even {S:Int×DataW Unit} {c:List Ac} {base gain:ByteArray} {b:List Bl} {en pe:Int} (h:Qch S c base gain b en pe=0) {L:List Je} (hL:L.map Je.ep=QhL (wV S base en pe) base gain b en pe c c.length):(∀ x∈L,x.ent=en)∧∀ x∈L,0<x.lns.length∧x.lns.length≤20∧Qa7 Qah x.lns∧∀ y∈QaN x.lns,y.amt=0:=by
 have key:∀ x∈L,∃ k,k<c.length∧(c.getD k ac0).mon=true∧x.ent=en∧x.lns=brL (Qe8 (wV S base en pe) base b en (c.getD k ac0)) base (c.getD k ac0).code gain:=fun x hx=>by
  have hm:x.ep∈QhL (wV S base en pe) base gain b en pe c c.length:=by rw [← hL];exact List.mem_map_of_mem hx
  exact rvTo_mem hm
 obtain ⟨_,_,_,_,_,h6⟩:=rvBad_ok.1 h;refine ⟨fun x hx=>(key x hx).choose_spec.2.2.1,fun x hx=>?_⟩
 obtain ⟨k,hk,hm,_,e⟩:=key x hx;rw [e];obtain ⟨q,_⟩:=amt_of_ok (h6 k hk) hm;exact br_zero _ _ _ _ (by unfold Qah;exact q)
end
section
open Go.RowKit Go.Lib Go.Proofs.Tryz
theorem ld_add (b off i:Nat):(⟨b,off,none⟩:Addr).add i=⟨b,off+i,none⟩:=by
 rcases Nat.eq_zero_or_pos i with h | h
 ·subst h;simp [Addr.add]
 ·simp [Addr.add];omega
theorem ld_wf {n:Int} (h:(Lit.int .i64 n).wf=true):-9223372036854775808≤n∧n≤9223372036854775807:=by
 simp [Lit.wf,IntKind.min,IntKind.max,IntKind.bits,IntKind.signed] at h;omega
section
variable {H:Type} {enc:TypeId×Value→H}
theorem QcS {w:World} {base:Nat} {spare:Nat→Bool} {held:Bool} {m:Nat} {c:Value} {y:DataW H×List MemPlace} (h:DataW.trod enc prog w base spare held m 9 [c]=some y):∃ s,c=.string s∧s.size≤maxLen:=by
 cases m with
 | zero=>simp [DataW.trod] at h
 | succ m=>
  rw [DataW.trod_step] at h;unfold DataW.trodStep at h;rw [underlying9] at h;cases c <;> simp at h
  exact ⟨_,rfl,h.1⟩
theorem QeE {w:World} {base:Nat} {spare:Nat→Bool} {held:Bool} {m:Nat} {c:Value} {y:DataW H×List MemPlace} (h:DataW.trod enc prog w base spare held m 3 [c]=some y):∃ n,c=.int .i64 n∧(Lit.int .i64 n).wf=true:=by
 cases m with
 | zero=>simp [DataW.trod] at h
 | succ m=>
  rw [DataW.trod_step] at h;unfold DataW.trodStep at h;rw [underlying3] at h;cases c <;> simp at h
  rename_i k n;obtain ⟨⟨rfl,h2⟩,_⟩:=h;exact ⟨n,rfl,h2⟩
end
end
section
open Go.RowKit Go.Lib Go.Proofs.Tryz
section
variable {H:Type} {enc:TypeId×Value→H}
end
end
section
open Go.RowKit Go.Lib Math Go.Proofs.Tryz
theorem peBad_ok {c:List Ac} {l:List Pr} {b:List Bl} {cur:ByteArray} {pe:Int} (h:Qd8 c l b cur pe=0):Qcw c l=0∧lfE l b cur=0∧∀ m,m<l.length*2→QaJ (phas b cur l m)=true:=by
 unfold Qd8 at h;split at h
 ·rename_i h1;exact absurd h h1
 rename_i h1;split at h
 ·rename_i h2;exact absurd h h2
 rename_i h2;split at h
 ·cases h
 refine ⟨Decidable.of_not_not h1,Decidable.of_not_not h2,fun m hm=>?_⟩
 have:=QaH h m hm
 unfold peAt at this;split at this
 ·rename_i h3;exact h3
 ·cases this
theorem prAt_ok {c:List Ac} {l:List Pr} {k:Nat} (h:Qfw c l k=0):prBad c (l.getD k pr0)=0∧∀ s∈sidesL (l.take k),sdB ⟨(l.getD k pr0).ea,(l.getD k pr0).one⟩ s=false∧sdB ⟨(l.getD k pr0).eb,(l.getD k pr0).oth⟩ s=false:=by
 unfold Qfw at h;split at h
 ·rename_i h1;exact absurd h h1
 rename_i h1;split at h
 ·cases h
 rename_i h2;refine ⟨Decidable.of_not_not h1,fun s hs=>?_⟩
 have h3:((sidesL (l.take k)).any (sdB ⟨(l.getD k pr0).ea,(l.getD k pr0).one⟩) || (sidesL (l.take k)).any (sdB ⟨(l.getD k pr0).eb,(l.getD k pr0).oth⟩))=false:=by simpa using h2
 rw [Bool.or_eq_false_iff] at h3;constructor
 ·cases hh:sdB ⟨(l.getD k pr0).ea,(l.getD k pr0).one⟩ s
  ·rfl
  ·rw [List.any_eq_true.2 ⟨s,hs,hh⟩] at h3;cases h3.1
 ·cases hh:sdB ⟨(l.getD k pr0).eb,(l.getD k pr0).oth⟩ s
  ·rfl
  ·rw [List.any_eq_true.2 ⟨s,hs,hh⟩] at h3;cases h3.2
theorem mv_zero (n:Int) (cur code dif:ByteArray) (h:-Qah≤n∧n≤Qah):0<(mvL n cur code dif).length∧(mvL n cur code dif).length≤20∧Qa7 Qah (mvL n cur code dif)∧∀ y∈QaN (mvL n cur code dif),y.amt=0:=by
 refine ⟨by simp [mvL],by simp [mvL],?_,?_⟩
 ·intro x hx;simp only [mvL,List.mem_cons,List.not_mem_nil,or_false] at hx;rcases hx with rfl | rfl
  ·show -Qah≤-n∧-n≤Qah;omega
  ·exact h
 ·have key:∀ p':Ln→Bool,KeyP p'→tot p' ((mvL n cur code dif).map Qb7)=0:=fun p' hp=>by
   have e:(mvL n cur code dif).map Qb7=[Qb7 ⟨dif,cur,n⟩].map turnL++[Qb7 ⟨dif,cur,n⟩]:=rfl;rw [e,Qd3,QgG hp];omega
  exact QgB.2 key
theorem pe_even {c:List Ac} {l:List Pr} {b:List Bl} {cur:ByteArray} {pe:Int} (h:Qd8 c l b cur pe=0) {L:List Je} (hL:L.map Je.ep=peTo b cur pe l (l.length*2)):∀ x∈L,0<x.lns.length∧x.lns.length≤20∧Qa7 Qah x.lns∧∀ y∈QaN x.lns,y.amt=0:=fun x hx=>by
 have hm:x.ep∈peTo b cur pe l (l.length*2):=by rw [← hL];exact List.mem_map_of_mem hx
 obtain ⟨m,hm1,hx2⟩:=List.mem_flatMap.1 hm;obtain ⟨_,_,h3⟩:=peBad_ok h;unfold peE at hx2;split at hx2
 ·cases hx2
 rw [List.mem_singleton] at hx2;have e:x.lns=mvL (phas b cur l m) cur (psd l m).acc (pdA l m).dif:=congrArg Ep.lns hx2;rw [e];exact mv_zero _ _ _ _ (Qbl.1 (h3 m (List.mem_range.1 hm1)))
end
section
open Go.RowKit Go.Lib Go.Proofs.Tryz
structure EpOk (c:List Ac) (pe:Int) (x:Ep):Prop where
 len:0<x.lns.length∧x.lns.length≤20
 wi:Qa7 Qah x.lns
 ev:∀ y∈QaN x.lns,y.amt=0
 ln:∀ y∈x.lns,Qaa c y.acc=0∧Qat y.cur=true
 per:x.per=pe
 ent:Qav x.ent 12=true
def jeOf (x:Ep):Je:=⟨x.ref,x.ent,x.per,none,0,x.lns⟩
theorem QgO (L:List Ep):(L.map jeOf).map Je.ep=L:=by
 rw [List.map_map]
 have:Je.ep ∘ jeOf=id:=rfl
 rw [this,List.map_id]
theorem each_in {bad:Int→Int} {ents:Int→List Ep} (h:Qbb bad 12=0) {x:Ep} (hx:x∈QbA ents 12):∃ en,Qav en 12=true∧bad en=0∧x∈ents en:=by
 obtain ⟨i,hi,hx⟩:=List.mem_flatMap.1 hx;have hi':=List.mem_range.1 hi;exact ⟨(i:Int)+1,QgA.2 (by omega),QaH (f:=fun (i:Nat)=>bad ((i:Int)+1)) h i hi',hx⟩
theorem acc_ok {c:List Ac} {p:Pn} (h:accBad c p=0):Qaa c p.src=0∧Qaa c p.dst=0:=by
 unfold accBad at h;split at h
 ·contradiction
 ·rename_i h1;split at h
  ·contradiction
  ·rename_i h2;exact ⟨Decidable.of_not_not h1,Decidable.of_not_not h2⟩
theorem pl_good {c:List Ac} {l:List Pn} {en pe:Int} (h:Qci c l en pe=0) {x:Ep} (hx:x∈plTo en pe l l.length):EpOk c pe x:=by
 obtain ⟨e1,e2,e3,e4⟩:=pl_even h (QgO _) (jeOf x) (List.mem_map_of_mem hx);obtain ⟨k,hk,hx⟩:=List.mem_flatMap.1 hx;have hk:=List.mem_range.1 hk;unfold Qci at h;split at h
 ·contradiction
 rename_i h1;split at h
 ·omega
 rename_i h2;have h2':Qav en 12=true∧Qav pe 120=true:=by simpa using h2
 obtain ⟨_,_,p3⟩:=Qg7 (Decidable.of_not_not h1);obtain ⟨_,_,_,q4,q5⟩:=pnBad_ok (p3 k hk);obtain ⟨a1,a2⟩:=acc_ok q4;unfold plE at hx;split at hx
 ·rename_i hh;rw [List.mem_singleton] at hx;subst hx;refine ⟨⟨e1,e2⟩,e3,e4,fun y hy=>?_,rfl,by show Qav (l.getD k pn0).ent 12=true;rw [hh.1];exact h2'.1⟩
  simp only [Qe1,List.mem_cons,List.not_mem_nil,or_false] at hy;rcases hy with rfl | rfl
  ·exact ⟨a1,q5⟩
  ·exact ⟨a2,q5⟩
 ·cases hx
theorem to_leaf {c:List Ac} {p:Po} (h:QhO c p=0) {k:Nat} (hk:k<p.tos.length):Qaa c (p.tos.getD k ByteArray.empty)=0:=by
 have:=(Qd4 h).2.2.2.2.1 k hk
 unfold toBad at this;split at this
 ·contradiction
 ·rename_i hh;exact Decidable.of_not_not hh
theorem al_good {c:List Ac} {l:List Po} {b:List Bl} {en pe:Int} (h:QbZ c l b en pe=0) {x:Ep} (hx:x∈alTo en pe b l l.length):EpOk c pe x:=by
 obtain ⟨e1,e2,e3,e4⟩:=all_even h (QgO _) (jeOf x) (List.mem_map_of_mem hx);obtain ⟨k,hk,hx⟩:=List.mem_flatMap.1 hx;have hk:=List.mem_range.1 hk;unfold QbZ at h;split at h
 ·contradiction
 rename_i h1;split at h
 ·contradiction
 split at h
 ·omega
 rename_i h3;have h3':Qav en 12=true∧Qav pe 120=true:=by simpa using h3
 have hps:=(Qe4 (Decidable.of_not_not h1)).2.2 k hk;obtain ⟨_,_,_,_,_,q6,q7⟩:=Qd4 hps;unfold poE at hx;split at hx
 ·cases hx
 ·rw [List.mem_singleton] at hx;subst hx;refine ⟨⟨e1,e2⟩,e3,e4,fun y hy=>?_,rfl,h3'.1⟩
  have hc:=goL_cur y hy;have hy:=(List.mem_filter.1 hy).1;rcases List.mem_cons.1 hy with rfl | hy
  ·exact ⟨q6,q7⟩
  ·obtain ⟨j,hj,rfl⟩:=List.mem_map.1 hy;exact ⟨to_leaf hps (List.mem_range.1 hj),q7⟩
theorem oeR_mem {p:Je→Bool} {L:List Je} {R:List Bl} (h:OeR p L R) {y:Bl} (hy:y∈R):∃ x∈L,p x=true∧∃ n∈x.lns,y.ent=x.ent∧y.acc=n.acc∧y.cur=n.cur:=by
 have h1:=QcD h.sums.rises y hy;have h2:ltot y.key (QaR p L)≠0:=by rw [← h.sums.ltot,h1];exact h.sums.ne y hy
 obtain ⟨z,hz,e⟩:=ltot_ex h2;obtain ⟨x,hx,hp,n,hn,rfl⟩:=flatB_mem hz;unfold Bl.key at e;rw [Prod.mk.injEq,Prod.mk.injEq] at e;exact ⟨x,hx,hp,n,hn,e.1.symm,e.2.1.symm,e.2.2.symm⟩
theorem oeR_leaf {S:Cs} (ok:ClOk S) {p:Je→Bool} {R:List Bl} (h:OeR p S.es R) {y:Bl} (hy:y∈R):Qaa S.c y.acc=0∧Qat y.cur=true∧Qav y.ent 12=true:=by
 obtain ⟨x,hx,_,n,hn,e1,e2,e3⟩:=oeR_mem h hy;obtain ⟨_,q⟩:=ok.lns x hx;obtain ⟨_,q2,q3⟩:=q n hn;rw [e1,e2,e3];exact ⟨q2,q3,(ok.per x hx).2⟩
theorem rv_good {S:Cs} (ok:ClOk S) {p:Je→Bool} {R:List Bl} (hR:OeR p S.es R) {en pe:Int} (h:Qch S.T S.c S.base S.gain R en pe=0) {x:Ep} (hx:x∈QhL (wV S.T S.base en pe) S.base S.gain R en pe S.c S.c.length):EpOk S.c pe x:=by
 obtain ⟨_,ev⟩:=rv_even h (QgO _);obtain ⟨e1,e2,e3,e4⟩:=ev (jeOf x) (List.mem_map_of_mem hx);obtain ⟨_,⟨_,_,hb,he,_⟩,_⟩:=rvBad_ok.1 h;obtain ⟨k,hk,hx⟩:=List.mem_flatMap.1 hx;unfold acE at hx;split at hx
 ·rename_i hh;rw [List.mem_singleton] at hx;subst hx;refine ⟨⟨e1,e2⟩,e3,e4,fun y hy=>?_,rfl,he⟩
  have hne:(QbN (wV S.T S.base en pe) en (S.c.getD k ac0).code S.base R).length≠0:=fun h0=>by
   refine hh.2 ?_;unfold Qe8 lkV;rw [if_pos h0]
  obtain ⟨z,hz⟩:∃ z,z∈R.filter (Qhg en (S.c.getD k ac0).code S.base):=by
   unfold QbN at hne;rw [List.length_map] at hne;rcases hf:R.filter (Qhg en (S.c.getD k ac0).code S.base) with _ | ⟨z,t⟩
   ·rw [hf] at hne;exact absurd rfl hne
   ·exact ⟨z,by simp⟩
  obtain ⟨hz1,hz2⟩:=List.mem_filter.1 hz;have ha:z.acc=(S.c.getD k ac0).code:=by
   unfold Qhg at hz2;simp only [Bool.and_eq_true,decide_eq_true_eq] at hz2;exact hz2.2.1
  simp only [brL,List.mem_cons,List.not_mem_nil,or_false] at hy;rcases hy with rfl | rfl
  ·exact ⟨by rw [← ha];exact (oeR_leaf ok hR hz1).1,hb⟩
  ·exact ⟨ok.ga,hb⟩
 ·cases hx
theorem pr_leaf {c:List Ac} {p:Pr} (h:prBad c p=0):Qaa c p.one=0∧Qaa c p.oth=0∧Qaa c p.dif=0:=by
 unfold prBad at h;split at h
 ·omega
 split at h
 ·omega
 split at h
 ·contradiction
 rename_i h1;split at h
 ·contradiction
 rename_i h2;split at h
 ·contradiction
 rename_i h3;exact ⟨Decidable.of_not_not h1,Decidable.of_not_not h2,Decidable.of_not_not h3⟩
theorem pe_good {c:List Ac} {l:List Pr} {b:List Bl} {cur:ByteArray} {pe:Int} (h:Qd8 c l b cur pe=0) {x:Ep} (hx:x∈peTo b cur pe l (l.length*2)):EpOk c pe x:=by
 obtain ⟨e1,e2,e3,e4⟩:=pe_even h (QgO _) (jeOf x) (List.mem_map_of_mem hx);obtain ⟨m,hm,hx⟩:=List.mem_flatMap.1 hx;have hm:=List.mem_range.1 hm;obtain ⟨h1,h2,_⟩:=peBad_ok h;obtain ⟨_,_,g3⟩:=lfE_ok.1 h2;obtain ⟨_,_,k3⟩:=prsBad_ok h1;have hq:m / 2<l.length:=by omega
 obtain ⟨p1,_⟩:=prAt_ok (k3 _ hq);obtain ⟨l1,l2,l3⟩:=pr_leaf p1;obtain ⟨u1,u2,_⟩:=prBad_ok p1;unfold peE at hx;split at hx
 ·cases hx
 ·rw [List.mem_singleton] at hx;subst hx;have hs:Qaa c (psd l m).acc=0∧Qav (psd l m).ent 12=true:=by
   unfold psd pdA
   split
   ·exact ⟨l1,u1⟩
   ·exact ⟨l2,u2⟩
  refine ⟨⟨e1,e2⟩,e3,e4,fun y hy=>?_,rfl,hs.2⟩
  simp only [mvL,List.mem_cons,List.not_mem_nil,or_false] at hy;rcases hy with rfl | rfl
  ·exact ⟨hs.1,g3⟩
  ·exact ⟨l3,g3⟩
theorem cg_sum (kept:ByteArray) (l:List Bl):((cgL kept l).map Ln.amt).sum=0:=by
 have h1:∀ l:List Bl,((ngL l).map Ln.amt).sum = -Qer l:=by
  intro l
  induction l with
  | nil=>rfl
  | cons x l ih=>
   have e1:((ngL (x :: l)).map Ln.amt).sum = -x.amt+((ngL l).map Ln.amt).sum:=by simp [ngL]
   have e2:Qer (x :: l)=x.amt+Qer l:=by simp [Qer]
   rw [e1,e2,ih];omega
 unfold cgL;rw [List.map_append,List.sum_append,h1]
 split
 ·rename_i h;rw [h];rfl
 ·simp;omega
theorem cl_good {S:Cs} (ok:ClOk S) {p:Je→Bool} {R:List Bl} (hR:OeR p S.es R) {pe:Int} (h:QcQ S.c R=0) {x:Ep} (hx:x∈Qgi S.c S.kept pe R) (hne:∀ k∈QcA (Qa6 S.c R),Qcg S.c R k≠[]):EpOk S.c pe x:=by
 obtain ⟨k,hk,rfl⟩:=List.mem_map.1 hx;unfold QcQ at h;split at h
 ·contradiction
 rename_i h0;have h0':=Decidable.of_not_not h0;obtain ⟨i,hi,e⟩:=List.getElem_of_mem hk;have hz:=QaH h i hi;have e2:(QcA (Qa6 S.c R)).getD i pu0=k:=by rw [List.getD_eq_getElem?_getD,List.getElem?_eq_getElem hi,e];rfl
 rw [e2] at hz;have hnk:=hne k hk;have hin:∀ y∈Qcg S.c R k,(Qaa S.c y.acc=0∧Qat y.cur=true∧Qav y.ent 12=true)∧(-Qah≤y.amt∧y.amt≤Qah)∧y.pur=k:=fun y hy=>by
  obtain ⟨m1,m2,m3⟩:=bsOf_mem hy;exact ⟨oeR_leaf ok hR m1,Qbl.1 (erE_ok h0' m1 m2),m3⟩
 obtain ⟨y0,hy0⟩:∃ y,y∈Qcg S.c R k:=List.exists_mem_of_ne_nil _ hnk;obtain ⟨⟨_,c2,c3⟩,_,c5⟩:=hin y0 hy0;have ek1:k.1=y0.ent:=by rw [← c5];rfl
 have ek2:k.2=y0.cur:=by rw [← c5];rfl
 have hcur:∀ y∈Qcg S.c R k,y.cur=k.2:=fun y hy=>by rw [← (hin y hy).2.2];rfl
 unfold cgE at hz;split at hz
 ·omega
 rename_i h19;split at hz
 ·rename_i hA;have hg0:(Qcg S.c R k).getD 0 bl0∈Qcg S.c R k:=by
   rcases hb:Qcg S.c R k with _ | ⟨z,t⟩
   ·exact absurd hb hnk
   ·simp
  have hcc:∀ y∈cgL S.kept (Qcg S.c R k),y.cur=k.2:=fun y hy=>by
   unfold cgL at hy;rcases List.mem_append.1 hy with hy | hy
   ·obtain ⟨z,hz,rfl⟩:=List.mem_map.1 hy;exact hcur z hz
   ·split at hy
    ·cases hy
    ·rw [List.mem_singleton] at hy;subst hy;exact hcur _ hg0
  refine ⟨⟨?_,?_⟩,fun y hy=>?_,?_,fun y hy=>?_,rfl,by show Qav k.1 12=true;rw [ek1];exact c3⟩
  ·show 0<(cgL S.kept (Qcg S.c R k)).length;unfold cgL;rw [List.length_append,QfL]
   have:=List.length_pos_iff.2 hnk
   omega
  ·show (cgL S.kept (Qcg S.c R k)).length≤20;unfold cgL;rw [List.length_append,QfL]
   split <;> simp <;> omega
  ·have hy:y∈cgL S.kept (Qcg S.c R k):=hy;unfold cgL at hy;rcases List.mem_append.1 hy with hy | hy
   ·obtain ⟨z,hz,rfl⟩:=List.mem_map.1 hy
    have:=(hin z hz).2.1
    show -Qah≤-z.amt∧-z.amt≤Qah;omega
   ·split at hy
    ·cases hy
    ·rw [List.mem_singleton] at hy;subst hy;exact Qbl.1 hA
  ·intro y hy;have hev:evenL (cgL S.kept (Qcg S.c R k)):=fun q hq=>by
    rw [tot_one k.2 hq _ hcc,cg_sum]
    split <;> rfl
   have:=QgE.2 hev
   rw [List.any_eq_false] at this
   have:=this y hy
   simpa [nullL] using this
  ·have hy:y∈cgL S.kept (Qcg S.c R k):=hy;refine ⟨?_,by rw [hcc y hy,ek2];exact c2⟩
   unfold cgL at hy;rcases List.mem_append.1 hy with hy | hy
   ·obtain ⟨z,hz,rfl⟩:=List.mem_map.1 hy;exact (hin z hz).1.1
   ·split at hy
    ·cases hy
    ·rw [List.mem_singleton] at hy;subst hy;exact ok.ke
 ·omega
theorem pus_ne {c:List Ac} {R:List Bl} {k:PuK} (hk:k∈Qa6 c R):Qcg c R k≠[]:=by
 obtain ⟨p,hp,rfl⟩:=List.mem_map.1 hk;have g:=erU_grp c R;have e:p.bs=Qcg c R p.key:=g.bs p hp;rw [← e];exact g.ne p hp
theorem srt_mem {L:List PuK} {k:PuK} (h:k∈QcA L):k∈L:=(Qfb L).mem_iff.1 h
theorem bg_good {S:Cs} (ok:ClOk S) {p:Je→Bool} {R:List Bl} (hR:OeR p S.es R) {pe sg:Int} (h:QdB S R pe sg (QcQ S.c R)=0) {x:Ep} (hx:x∈Qen S R pe sg (Qgi S.c S.kept pe R)):EpOk S.c pe x:=by
 unfold QdB at h;unfold Qen at hx;split at h
 ·rename_i h1;rw [if_pos h1] at hx;obtain ⟨en,_,hb,hx⟩:=each_in h hx;exact pl_good hb hx
 rename_i h1;rw [if_neg h1] at hx;split at h
 ·rename_i h2;rw [if_pos h2] at hx;obtain ⟨en,_,hb,hx⟩:=each_in h hx;exact al_good hb hx
 rename_i h2;rw [if_neg h2] at hx;split at h
 ·rename_i h3;rw [if_pos h3] at hx;obtain ⟨en,_,hb,hx⟩:=each_in h hx;exact rv_good ok hR hb hx
 rename_i h3;rw [if_neg h3] at hx;split at h
 ·rename_i h4;rw [if_pos h4] at hx;exact pe_good h hx
 rename_i h4;rw [if_neg h4] at hx;split at h
 ·rename_i h5;rw [if_pos h5] at hx;exact cl_good ok hR h hx fun k hk=>pus_ne (srt_mem hk)
 ·rename_i h5;rw [if_neg h5] at hx;cases hx
end
end Go.Proofs.YtjifbbdkpanagaaGreatDoor
