/-
  Part of a proof (see the last text).
-/
import Derived.Test.YtibhgngboljhfaaGreatDoorZp33
set_option linter.unusedVariables false
set_option linter.unusedSimpArgs false
set_option maxRecDepth 100000
namespace Go.Proofs.YtibhgngboljhfaaGreatDoor
section
open Go.RowKit Go.Lib Go.Proofs.Tryz
structure ClS (W:World) (n0 m0 B:Nat) (P:Cp) (S:Cs):Prop where
 at_:Qby W n0 m0 B P S
 ev:ClEv S
 tab:∀ U,Below n0 W U→Qgj U
def zbF (c:List Ac) (R:List Bl):Int:=Qc1 c R
def zeF (c:List Ac) (kept:ByteArray) (pe:Int) (R:List Bl):List Ep:=if R.length≤200 then QeM c kept pe R else []
theorem zeF_of {c:List Ac} {kept:ByteArray} {pe:Int} {R:List Bl} (h:R.length≤200):zeF c kept pe R=QeM c kept pe R:=if_pos h
theorem zeF_lns (c:List Ac) (kept:ByteArray) (pe:Int) (R:List Bl):∀ x∈zeF c kept pe R,x.lns.length≤1000:=fun x hx=>by
 unfold zeF at hx;split at hx
 ·rename_i hR;obtain ⟨k,_,rfl⟩:=List.mem_map.1 hx;show (cgL kept (QbX c R k)).length≤1000;have q1:=List.length_filter_le (fun x=>decide (x.pur=k)) (R.filter (Qbc c))
  have q2:=List.length_filter_le (Qbc c) R;unfold cgL;rw [List.length_append,QfW];unfold QbX
  split <;> simp only [List.length_cons,List.length_nil] <;> omega
 ·cases hx
section
variable {W:World} {n0 m0 B:Nat} {P:Cp} {S:Cs}
theorem ClS.below {W':World} (h:ClS W n0 m0 B P S) (hb:Below W.heap.size W W'):ClS W' n0 m0 B P S:=by
 refine ⟨h.at_.below hb,h.ev,fun U hU=>h.tab U ?_⟩
 have h1:=h.at_.hB;have h2:=h.at_.m0;exact (hb.mono (by omega)).trans hU
theorem clT_ge (h:Qby W n0 m0 B P S):∀ b,clT B P S.es.length b→n0≤b:=fun b hb=>by
 rcases hb with hb | hb | hb | hb
 ·rw [hb];exact h.hB.1
 ·rw [hb];exact h.hm.1
 ·rw [hb];exact h.hs.1
 ·have:=h.row.own b hb.symm;have:=h.hB;omega
theorem Qby.low {U:World} (h:Qby W n0 m0 B P S) (hk:QaF (clT B P S.es.length) W U):Below n0 W U:=hk.below (by have:=h.hB;have:=h.m0;omega) (clT_ge h)
theorem ClS.keep {U:World} {P':Cp} {S':Cs} {m1:Nat} (h:ClS W n0 m0 B P S) (hb:Below n0 W U) (h1:Qby U n0 m1 B P' S') (h2:ClEv S'):ClS U n0 m1 B P' S':=⟨h1,h2,fun V hV=>h.tab V (hb.trans hV)⟩
def AdEnd (W:World) (n0 m0 B:Nat) (P:Cp) (S:Cs) (pe:Int) (e:Ending) (w':World):Prop:=
 (∃ z,z≠0∧e=.returned (.tuple #[.int .i64 0,.iface 68 (.int .i64 z)])∧(Qc3 S pe=z∨(Qc3 S pe=0∧∃ R,OeR (Qau pe) S.es R∧Qea S pe R (Qc1 S.c R) (QeM S.c S.kept pe R)=z))∧Hid (ClS w' n0 m0 B P S∧Below W.heap.size W w')) ∨
 (∃ (n:Nat) (es:List Je) (ea:Option Addr) (ec:Nat) (R:List Bl),e=.returned (.tuple #[.int .i64 (n:Int),.nilIface])∧Hid (ClS w' n0 m0 B { P with ea:=ea,ec:=ec } { S with es:=es,st:=Qcw S.st pe (QaV S.st pe+1) }∧(Below n0 W w'∧QaF (clT B P S.es.length) W w') ∧
  Qc3 S pe=0∧OeR (Qau pe) S.es R∧Qea S pe R (Qc1 S.c R) (QeM S.c S.kept pe R)=0∧es.length=S.es.length+n∧(∀ k,S.es.length≤k→k<es.length→(es.getD k je0).per=pe∧(es.getD k je0).ref=Qf4 k) ∧
  es.map Je.ep=S.es.map Je.ep++rnE S.es.length (Qes S R pe (QaV S.st pe+1) (QeM S.c S.kept pe R)) (Qes S R pe (QaV S.st pe+1) (QeM S.c S.kept pe R)).length))
theorem clAdv_of (hk:EntK S) (h:ClS W n0 m0 B P S) (pe:Int) :
  Calls prog 8 #[.pointer (some ⟨B,0,none⟩),.int .i64 pe] W (AdEnd W n0 m0 B P S pe):=by
 refine (advance_any h.at_ h.ev.ok hk h.tab pe (zbF S.c) (zeF S.c S.kept pe) (zeF_lns S.c S.kept pe) (fun ab R cab U hU hR hO=>?_)).mono ?_
 ·rw [zeF_of hO.len];exact clCleared_any (h.at_.below hU) h.ev.ok ab R cab pe hR hO.len hO.ok
 ·rintro e w' (⟨h1,rfl,hb⟩ | ⟨h0,R,hR,h2⟩)
  ·refine .inl ⟨Qc3 S pe,h1,by rw [Qae h1],.inl rfl,h.below hb,hb⟩
  ·rw [zeF_of hR.len] at h2;rcases h2 with ⟨h1,rfl,hb⟩ | ⟨h1,rfl,es,ea,ec,j,hes,hk,_⟩
   ·exact .inl ⟨_,h1,by rw [Qae h1],.inr ⟨h0,R,hR,rfl⟩,h.below hb,hb⟩
   ·obtain ⟨g1,g2,g3⟩:=h.ev.adv h0 hR h1 hes;have hlow:=h.at_.low hk;exact .inr ⟨_,es,ea,ec,R,rfl,h.keep hlow j g1,⟨hlow,hk⟩,h0,hR,h1,g2,g3,hes⟩
theorem Qhy (h:ClS W n0 m0 B P S) (pe:Int) :
  Calls prog 8 #[.pointer (some ⟨B,0,none⟩),.int .i64 pe] W (AdEnd W n0 m0 B P S pe):=clAdv_of (EntK.all h.ev.ok) h pe
def PoEnd (W:World) (n0 m0 B:Nat) (P:Cp) (S:Cs) (r:ByteArray) (en pe:Int) (l:List Ln) (e:Ending) (w':World):Prop:=
 (psB S r en pe l≠0∧e=.returned (.tuple #[.int .i64 0,.iface 68 (.int .i64 (psB S r en pe l))])∧Hid (ClS w' n0 m0 B P S∧Below W.heap.size W w')) ∨
 (psB S r en pe l=0∧e=.returned (.tuple #[.int .i64 (S.es.length:Int),.nilIface])∧∃ ea ec a' c',Hid (ClS w' n0 m0 B { P with ea:=ea,ec:=ec } (S.add ⟨r,en,pe,a',c',l⟩)∧Below n0 W w'))
theorem Qhe (h:ClS W n0 m0 B P S) (r:ByteArray) (en pe:Int) (a:Option Addr) (cap:Nat) (l:List Ln) (hl:Qc5 W a l cap) :
  Calls prog 6 #[.pointer (some ⟨B,0,none⟩),.agg #[.string r,.int .i64 en,.int .i64 pe,.slice a l.length cap]] W (PoEnd W n0 m0 B P S r en pe l):=by
 refine (clPost_any h.at_ (by have:=h.ev.ok.len;omega) r en pe a cap l hl).mono ?_
 rintro e w' (⟨h1,rfl,hb⟩ | ⟨h1,rfl,g,cp,a',c',j,hk,_⟩)
 ·exact .inl ⟨h1,rfl,h.below hb,hb⟩
 ·have hlow:=h.at_.low hk;exact .inr ⟨h1,rfl,some ⟨g,0,none⟩,cp,a',c',h.keep hlow j (h.ev.post h1 a' c'),hlow⟩
theorem QdX (h:ClS W n0 m0 B P S) :
  Calls prog 9 #[.pointer (some ⟨B,0,none⟩)] W fun e w'=>∃ a c L,e=.returned (.slice a L.length c)∧Hid (Qbp w' W.heap.size (.slice a L.length c) L∧L.map Je.ep=S.es.map Je.ep∧Below W.heap.size W w'∧ClS w' n0 m0 B P S):=by
 refine (clEntries_any h.at_ (by have:=h.ev.ok.len;omega) (fun x hx=>by have:=(h.ev.ok.lns x hx).1;omega)).mono ?_
 rintro e w' ⟨a,c,L,rfl,hh⟩;exact ⟨a,c,L,rfl,hh.out.1,hh.out.2.1,hh.out.2.2,h.below hh.out.2.2⟩
theorem ClEv.plans {S:Cs} {l:List Pn} (h:ClEv S) (h0:QaW S.c l=0):ClEv { S with pn:=l }:=by
 have o:=h.ok;exact ⟨⟨o.c,o.T,o.g,o.b,o.ga,o.ke,h0,o.po,o.pr,o.len,o.lns,o.per,o.sg,o.st⟩,h.ev⟩
theorem ClEv.pools {S:Cs} {l:List Po} (h:ClEv S) (h0:QbC S.c l=0):ClEv { S with po:=l }:=by
 have o:=h.ok;exact ⟨⟨o.c,o.T,o.g,o.b,o.ga,o.ke,o.pn,h0,o.pr,o.len,o.lns,o.per,o.sg,o.st⟩,h.ev⟩
theorem ClEv.pairs {S:Cs} {l:List Pr} (h:ClEv S) (h0:QaX S.c l=0):ClEv { S with pr:=l }:=by
 have o:=h.ok;exact ⟨⟨o.c,o.T,o.g,o.b,o.ga,o.ke,o.pn,o.po,h0,o.len,o.lns,o.per,o.sg,o.st⟩,h.ev⟩
def StEnd3 (W:World) (n0 B:Nat) (S:Cs) (e:Ending) (w':World):Prop:=
 ∃ E,e=.returned E∧E.oneCell'=true∧∃ m1 P' S',Hid (ClS w' n0 m1 B P' S'∧Below n0 W w'∧QcM P' S'∧S'.c=S.c∧S'.T=S.T∧S'.base=S.base∧S'.gain=S.gain∧S'.kept=S.kept∧S'.st=S.st)
theorem clPlans_ev (h:ClS W n0 m0 B P S) (hf:QcM P S) (al:Option Addr) (l:List Pn) (cl:Nat) (hl:Qe6 W al l cl) (hll:l.length≤9223372036854775807) :
  Calls prog 11 #[.pointer (some ⟨B,0,none⟩),.slice al l.length cl] W (StEnd3 W n0 B S):=by
 have hn:n0≤W.heap.size:=by have:=h.at_.hB;have:=h.at_.m0;omega
 refine (clPlans_any h.at_ hf al l cl hl hll).mono ?_;rintro e w' (⟨h0,rfl,hb⟩ | ⟨h0,rfl,m1,pa,pc,hh⟩)
 ·exact ⟨_,rfl,by rw [Qae h0];rfl,m0,P,S,h.below hb,hb.mono hn,hf,rfl,rfl,rfl,rfl,rfl,rfl⟩
 ·have hlow:Below n0 W w':=hh.out.2.1.below hn fun b hb=>by rw [hb];exact h.at_.hB.1
  exact ⟨_,rfl,rfl,m1,_,_,h.keep hlow hh.out.1 (h.ev.plans h0),hlow,hh.out.2.2,rfl,rfl,rfl,rfl,rfl,rfl⟩
theorem clPairs_ev (h:ClS W n0 m0 B P S) (hf:QcM P S) (al:Option Addr) (l:List Pr) (cl:Nat) (hl:QfP W al l cl) (hll:l.length≤9223372036854775807) :
  Calls prog 13 #[.pointer (some ⟨B,0,none⟩),.slice al l.length cl] W (StEnd3 W n0 B S):=by
 have hn:n0≤W.heap.size:=by have:=h.at_.hB;have:=h.at_.m0;omega
 refine (clPairs_any h.at_ hf al l cl hl hll).mono ?_;rintro e w' (⟨h0,rfl,hb⟩ | ⟨h0,rfl,m1,pa,pc,hh⟩)
 ·exact ⟨_,rfl,by rw [Qae h0];rfl,m0,P,S,h.below hb,hb.mono hn,hf,rfl,rfl,rfl,rfl,rfl,rfl⟩
 ·have hlow:Below n0 W w':=hh.out.2.1.below hn fun b hb=>by rw [hb];exact h.at_.hB.1
  exact ⟨_,rfl,rfl,m1,_,_,h.keep hlow hh.out.1 (h.ev.pairs h0),hlow,hh.out.2.2,rfl,rfl,rfl,rfl,rfl,rfl⟩
theorem clPools_ev (h:ClS W n0 m0 B P S) (hf:QcM P S) (al:Option Addr) (l:List Po) (cl:Nat) (hl:∀ U,Below n0 W U→QgV U al l cl) (hll:l.length≤9223372036854775807) :
  Calls prog 12 #[.pointer (some ⟨B,0,none⟩),.slice al l.length cl] W (StEnd3 W n0 B S):=by
 have hn:n0≤W.heap.size:=by have:=h.at_.hB;have:=h.at_.m0;omega
 have hx:∀ b,b=B→n0≤b:=fun b hb=>by rw [hb];exact h.at_.hB.1
 refine (clPools_any h.at_ hf al l cl (fun U hU=>hl U (hU.below hn hx)) hll).mono ?_
 rintro e w' (⟨h0,rfl,hb⟩ | ⟨h0,rfl,m1,pa,pc,Q,hQ,hh⟩)
 ·exact ⟨_,rfl,by rw [Qae h0];rfl,m0,P,S,h.below hb,hb.mono hn,hf,rfl,rfl,rfl,rfl,rfl,rfl⟩
 ·have hlow:Below n0 W w':=hh.out.2.1.below hn hx;exact ⟨_,rfl,rfl,m1,_,_,h.keep hlow hh.out.1 (h.ev.pools (by rw [psBad_same hQ];exact h0)),hlow,hh.out.2.2,rfl,rfl,rfl,rfl,rfl,rfl⟩
end
end
section
open Go.RowKit Go.Lib Go.Proofs.Tryz
theorem insU:∀ (R:List PuK) (x:PuK),QeG R→x ∉ R→∃ Q,Q.Perm (x :: R)∧QeG Q
 | [],x,_,_=>⟨[x],.refl _,List.pairwise_singleton _ _⟩
 | y :: R,x,h,hx=>by
  obtain ⟨h1,h2⟩:=List.pairwise_cons.1 h;have hxy:x≠y:=fun e=>hx (by rw [e];exact List.mem_cons_self ..)
  by_cases hlt:cmpU x y<0
  ·refine ⟨x :: y :: R,.refl _,List.pairwise_cons.2 ⟨fun z hz=>?_,h⟩⟩
   rcases List.mem_cons.1 hz with rfl | hz
   ·exact hlt
   ·exact QcA hlt (h1 z hz)
  ·have hgt:=Qdh hlt hxy;obtain ⟨Q,q1,q2⟩:=insU R x h2 (fun hm=>hx (List.mem_cons_of_mem _ hm))
   refine ⟨y :: Q,(q1.cons y).trans (.swap ..),List.pairwise_cons.2 ⟨fun z hz=>?_,q2⟩⟩
   rcases List.mem_cons.1 (q1.mem_iff.1 hz) with rfl | hz
   ·exact hgt
   ·exact h1 z hz
theorem srt_ex:∀ L:List PuK,L.Nodup→∃ R,R.Perm L∧QeG R
 | [],_=>⟨[],.refl _,.nil⟩
 | x :: L,h=>by
  obtain ⟨h1,h2⟩:=List.nodup_cons.1 h;obtain ⟨R,r1,r2⟩:=srt_ex L h2;obtain ⟨Q,q1,q2⟩:=insU R x r2 (fun hm=>h1 (r1.mem_iff.1 hm))
  exact ⟨Q,q1.trans (r1.cons x),q2⟩
theorem pus_nodup (c:List Ac) (R:List Bl):(Qa6 c R).Nodup:=(Qie c R).nodup
theorem srt_perm (c:List Ac) (R:List Bl):(QcH (Qa6 c R)).Perm (Qa6 c R):=by
 obtain ⟨Q,q1,q2⟩:=srt_ex _ (pus_nodup c R);rw [srtU_of q1 q2];exact q1
def epBl (x:Ep):List Bl:=x.lns.map fun n=>⟨x.ent,n.acc,n.cur,n.amt⟩
def Qf1 (pe:Int) (M:List Ep):List Bl:=(M.filter fun x=>decide (x.per≤pe)).flatMap epBl
theorem Qf5 (pe:Int):∀ L:List Je,QaT (Qau pe) L=Qf1 pe (L.map Je.ep)
 | []=>rfl
 | x :: L=>by
  have ih:=Qf5 pe L;unfold QaT at ih;unfold Qf1 at ih;unfold QaT Qf1;rw [List.map_cons,List.filter_cons,List.filter_cons]
  cases hp:Qau pe x with
  | true=>
   have hp2:decide (x.ep.per≤pe)=true:=hp;rw [if_pos rfl,if_pos hp2,List.flatMap_cons,List.flatMap_cons,ih];rfl
  | false=>
   have hp2:¬ decide (x.ep.per≤pe)=true:=by
    show ¬ Qau pe x=true;rw [hp];decide
   rw [if_neg (by decide),if_neg hp2]
   exact ih
theorem QdT (pe:Int) (M N:List Ep):Qf1 pe (M++N)=Qf1 pe M++Qf1 pe N:=by
 unfold Qf1;rw [List.filter_append,List.flatMap_append]
theorem flatE_rn (pe:Int) (n:Nat) (M:List Ep):∀ k,k≤M.length→Qf1 pe (rnE n M k)=Qf1 pe (M.take k)
 | 0,_=>by simp [rnE]
 | k+1,hk=>by
  have e:M.take (k+1)=M.take k++[M.getD k ep0]:=by
   rw [List.take_add_one,List.getElem?_eq_getElem (by omega),List.getD_eq_getElem?_getD,List.getElem?_eq_getElem (by omega)]
   rfl
  rw [rnE,e,QdT,QdT,flatE_rn pe n M k (by omega)]
  congr 1;unfold Qf1;rw [List.filter_cons,List.filter_cons]
  split <;> rfl
theorem flat_adv {pe:Int} {S:List Je} {es:List Je} {M:List Ep} (h:es.map Je.ep=S.map Je.ep++rnE S.length M M.length):QaT (Qau pe) es=QaT (Qau pe) S++Qf1 pe M:=by
 rw [Qf5,h,QdT,← Qf5,flatE_rn _ _ _ _ (Nat.le_refl _),List.take_length]
theorem ltot_ng (q:Pk) (k:PuK):∀ l:List Bl,(∀ y∈l,y.ent=k.1)→ltot q ((ngL l).map fun n=>⟨k.1,n.acc,n.cur,n.amt⟩) = -ltot q l
 | [],_=>rfl
 | x :: l,h=>by
  have ih:=ltot_ng q k l (fun y hy=>h y (by simp [hy]))
  have hx:=h x (by simp)
  have e:ngL (x :: l)=⟨x.acc,x.cur,-x.amt⟩ :: ngL l:=rfl;rw [e,List.map_cons,ltot,ltot,ih];have e2:Bl.key ⟨k.1,x.acc,x.cur,-x.amt⟩=x.key:=by unfold Bl.key;rw [hx]
  rw [e2]
  split
  ·show -x.amt+_=_;omega
  ·omega
theorem ltot_cl {c:List Ac} {kept:ByteArray} {pe:Int} {R:List Bl} {q:Pk} (hq:q.2.1≠kept) (k:PuK):ltot q (epBl (clE c kept pe R k)) = -ltot q (QbX c R k):=by
 have h1:∀ y∈QbX c R k,y.ent=k.1:=fun y hy=>by
  obtain ⟨_,_,e⟩:=bsOf_mem hy;rw [← e];rfl
 show ltot q ((cgL kept (QbX c R k)).map fun n=>⟨k.1,n.acc,n.cur,n.amt⟩)=_
 unfold cgL;rw [List.map_append,QcI,ltot_ng q k _ h1];have h2:ltot q ((if Qej (QbX c R k)=0 then ([]:List Ln) else [⟨kept,((QbX c R k).getD 0 bl0).cur,Qej (QbX c R k)⟩]).map fun n=>(⟨k.1,n.acc,n.cur,n.amt⟩:Bl))=0:=by
  split
  ·rfl
  ·refine Qc8 q _ fun x hx e=>?_
   rw [List.map_singleton,List.mem_singleton] at hx;subst hx;exact hq (by rw [← e];rfl)
 omega
theorem Qhk (q:Pk) (f:Bl→Bool):∀ l:List Bl,(∀ y∈l,y.key=q→f y=true)→ltot q (l.filter f)=ltot q l
 | [],_=>rfl
 | x :: l,h=>by
  have ih:=Qhk q f l (fun y hy=>h y (by simp [hy]))
  rw [List.filter_cons]
  split
  ·rw [ltot,ltot,ih]
  ·rename_i hf;rw [ltot,ih,if_neg (fun e=>hf (h x (by simp) e))]
   omega
theorem ltot_out (q:Pk) (l:List Bl) (f:Bl→Bool) (h:∀ y∈l,y.key=q→f y=false):ltot q (l.filter f)=0:=Qc8 q _ fun x hx e=>by
 obtain ⟨h1,h2⟩:=List.mem_filter.1 hx;rw [h x h1 e] at h2;cases h2
open Classical in
theorem ltot_pus {c:List Ac} {kept:ByteArray} {pe:Int} {R:List Bl} {q:Pk} (hk:q.2.1≠kept) (he:(kOf c q.2.1 == 4 || kOf c q.2.1 == 5)=true) :
  ∀ Ks:List PuK,Ks.Nodup→ltot q ((Ks.map (clE c kept pe R)).flatMap epBl)=if (q.1,q.2.2)∈Ks then -ltot q R else 0
 | [],_=>by rw [if_neg (by simp)];rfl
 | k :: Ks,h=>by
  obtain ⟨n1,n2⟩:=List.nodup_cons.1 h;have ih:=ltot_pus (kept:=kept) (pe:=pe) (R:=R) hk he Ks n2;have hin:∀ y∈R,y.key=q→Qbc c y=true∧y.pur=(q.1,q.2.2):=fun y _ e=>by
   rw [← e];refine ⟨?_,rfl⟩;rw [← e] at he;exact he
  rw [List.map_cons,List.flatMap_cons,QcI,ih,ltot_cl hk];have hb:ltot q (QbX c R k)=if k=(q.1,q.2.2) then ltot q R else 0:=by
   unfold QbX
   split
   ·rename_i e;rw [Qhk q _ _ (fun y hy ey=>by
     rw [List.mem_filter] at hy;rw [(hin y hy.1 ey).2,e];simp)]
    exact Qhk q _ _ fun y hy ey=>(hin y hy ey).1
   ·rename_i e;refine ltot_out q _ _ fun y hy ey=>?_
    rw [List.mem_filter] at hy;rw [(hin y hy.1 ey).2];exact decide_eq_false (fun e2=>e e2.symm)
  rw [hb];by_cases e:k=(q.1,q.2.2)
  ·have m1:(q.1,q.2.2)∈k :: Ks:=by rw [e];exact List.mem_cons_self ..
   have m2:¬ (q.1,q.2.2)∈Ks:=by rw [← e];exact n1
   rw [if_pos e,if_pos m1,if_neg m2];omega
  ·rw [if_neg e];by_cases e2:(q.1,q.2.2)∈Ks
   ·rw [if_pos e2,if_pos (List.mem_cons_of_mem _ e2)];omega
   ·have m1:¬ (q.1,q.2.2)∈k :: Ks:=fun hm=>by
     rcases List.mem_cons.1 hm with hm | hm
     ·exact e hm.symm
     ·exact e2 hm
    rw [if_neg e2,if_neg m1];omega
theorem cl_empty {c:List Ac} {kept:ByteArray} {pe:Int} {S es:List Je} {R Q:List Bl} (hkept:kOf c kept=3) (hR:OeR (Qau pe) S R) (hes:es.map Je.ep=S.map Je.ep++rnE S.length (QeM c kept pe R) (QeM c kept pe R).length) (hQ:OeR (Qau pe) es Q) :
  ∀ y∈Q,Qbc c y=false:=fun y hy=>by
 cases he:Qbc c y with
 | false=>rfl
 | true=>
  exfalso;have he2:(kOf c y.key.2.1 == 4 || kOf c y.key.2.1 == 5)=true:=he;have hk:y.key.2.1≠kept:=fun e=>by
   rw [e,hkept] at he2;exact absurd he2 (by decide)
  have h1:=Qcy hQ.sums.rises y hy;have h2:=hQ.sums.ne y hy;rw [← h1,hQ.sums.ltot,flat_adv hes,QcI,← hR.sums.ltot] at h2;have h3:Qf1 pe (QeM c kept pe R)=((QcH (Qa6 c R)).map (clE c kept pe R)).flatMap epBl:=by
   unfold Qf1 QeM;rw [List.filter_eq_self.2];intro x hx;obtain ⟨k,_,rfl⟩:=List.mem_map.1 hx;exact decide_eq_true (Int.le_refl _)
  rw [h3,ltot_pus hk he2 _ ((srt_perm c R).nodup_iff.2 (pus_nodup c R))] at h2;split at h2
  ·omega
  ·rename_i hn
   have:ltot y.key R=0:=Qc8 _ _ fun x hx e=>hn ((srt_perm c R).mem_iff.2 (by
    have hp:x.pur=(y.key.1,y.key.2.2):=by rw [← e];rfl
    rw [← hp];refine (Qie c R).all x (List.mem_filter.2 ⟨hx,?_⟩);rw [← e] at he2;exact he2))
   omega
theorem kOf_idx:∀ (c:List Ac) (s:ByteArray) (k:Nat),k<c.length→(∀ j,j<k→(c.getD j ac0).code≠s)→(c.getD k ac0).code=s→kOf c s=(c.getD k ac0).kind
 | [],_,_,h,_,_=>by simp at h
 | x :: c,s,0,_,_,e=>by
  unfold kOf;rw [if_pos (by simpa using e.symm)]
  simp
 | x :: c,s,k+1,h,h0,e=>by
  unfold kOf;rw [if_neg (fun e2=>h0 0 (by omega) (by simpa using e2.symm))]
  have:=kOf_idx c s k (by simpa using h) (fun j hj=>by have:=h0 (j+1) (by omega);simpa using this) (by simpa using e)
  simpa using this
end
section
open Go.RowKit Go.Lib Go.Proofs.Tryz
set_option maxHeartbeats 4000000 in
theorem plCheck_nil (a a2:Option Addr) (cap cap2:Nat) (c:List Ac) (l:List Pn) (w:World) (h:QbJ w a c cap) (hl:Qe6 w a2 l cap2) (hn:Hid (l=[])) (hll:l.length≤9223372036854775807) :
  Calls prog 37 #[.slice a c.length cap,.slice a2 l.length cap2] w fun e w'=>e=.returned (chE (QaW c l))∧Below w.heap.size w w':=by
 by_cases c0:Qat c≠0
 ·have HC:Hid (Calls _ _ _ _ _):=QaS a cap c w h c0;have e0:QaW c l=Qat c:=by unfold QaW;rw [if_pos c0]
  rw [e0];rw [Qae c0] at HC ⊢;clear h hl e0 c0;generalize Qat c=z at *
  go_enter func37,ntmps37
  go_wp2_with (go_at_call 22;refine HC.out.mono ?_;rintro e w1 ⟨rfl,hb1⟩);go_ret;exact ⟨rfl,hb1⟩
 have HC:Hid (Calls _ _ _ _ _):=Qbe a cap c w h (Decidable.of_not_not c0);obtain ⟨res,hres⟩:∃ res,chE (QaW c l)=res:=⟨_,rfl⟩;have HR1:Hid (chE (if 20<l.length then 4 else Qac (Qdr c l) l.length)=res):=by
  rw [← hres];unfold QaW;rw [if_neg c0];exact rfl
 rw [hres];have HL:Hid (Qe6 w a2 l cap2):=hl;have hcap:=hl.cap;clear hres h hl c0;go_enter func37,ntmps37
 go_wp2_with fail;refine HC.out.mono ?_;rintro e w1 ⟨B1,B2,rfl,hlf,hb1⟩;have HLf:Hid (Lfs w1 B1 B2 c):=hlf;have HB1:Hid (Below w.heap.size w w1):=hb1;clear hlf hb1 HC;by_cases c1:20<l.length
 ·have er:res=chE 4:=by rw [← HR1.out,if_pos c1]
  rw [Qae (by decide)] at er
  subst er;have i1:(20:Int)<l.length:=by omega
  clear HR1;go_wp2;go_ret;exact ⟨rfl,HB1.out⟩
 have HR2:Hid (chE (Qac (Qdr c l) l.length)=res):=by
  have:=HR1.out;rw [if_neg c1] at this;exact this
 have i1:¬ (20:Int)<l.length:=by omega
 have i2:(l.length:Int)≤20:=by omega
 have i3:l.length≤20:=by omega
 clear HR1 c1 hll;have er:res=.nilIface:=by rw [← HR2.out,hn.out];rfl
 have i9:¬ (0:Int)<l.length:=by rw [hn.out];decide
 subst er;clear HR2 HL HLf hn;go_wp2;refine wp_loop_rounds 1 ?_;rw [rounds_succ];go_wp2;go_ret;exact ⟨rfl,HB1.out⟩
set_option maxHeartbeats 4000000 in
theorem plEntries_nil (a a2:Option Addr) (cap cap2:Nat) (c:List Ac) (l:List Pn) (en pe:Int) (w:World) (h:QbJ w a c cap) (hl:Qe6 w a2 l cap2) (hn:Hid (l=[])) (hll:l.length≤9223372036854775807) (ht:Qgj w) :
  Calls prog 74 #[.slice a c.length cap,.slice a2 l.length cap2,.int .i64 en,.int .i64 pe] w (QgH c l en pe w):=by
 have HErr:Hid (∀ z W,z≠0→QbM c l en pe=z→Below w.heap.size w W→QgH c l en pe w (.returned (.tuple #[.slice none 0 0,.iface 68 (.int .i64 z)])) W):=fun z W h0 h1 h2=>by
  refine ⟨h2,fun _=>by rw [h1,Qae h0],fun e=>absurd (h1.symm.trans e) h0⟩
 have HOk:Hid (∀ v L W,QbM c l en pe=0→Below w.heap.size w W→Qbp W w.heap.size v L→L.map Je.ep=Qig en pe l l.length→L.length≤20→QgH c l en pe w (.returned (.tuple #[v,.nilIface])) W):=fun v L W h1 h2 h3 h4 h5=>
  ⟨h2,fun h0=>absurd h1 h0,fun _=>⟨v,L,rfl,h3,h4,h5⟩⟩
 have HC:Hid (Calls _ _ _ _ _):=plCheck_nil a a2 cap cap2 c l w h hl hn hll;by_cases c1:QaW c l≠0
 ·have e1:QbM c l en pe=QaW c l:=by unfold QbM;rw [if_pos c1]
  have HE:Hid (∀ W,Below w.heap.size w W→QgH c l en pe w (.returned (.tuple #[.slice none 0 0,.iface 68 (.int .i64 (QaW c l))])) W):=fun W hW=>HErr.out _ W c1 e1 hW
  rw [Qae c1] at HC;clear h hl c1 e1 HErr HOk;generalize QaW c l=z at *
  go_enter func74,ntmps74
  go_wp2_with (go_at_call 37;refine HC.out.mono ?_;rintro e w1 ⟨rfl,hb1⟩);go_ret2;exact HE.out _ hb1
 have c1':=Decidable.of_not_not c1;rw [c1',Qaj] at HC;have HU1:Hid (∀ W,Calls prog 84 #[.int .i64 en] W fun e w'=>e=.returned (.bool (Qak en 12))∧w'=W):=fun W=>Qbm en W
 have HU2:Hid (∀ W,Calls prog 31 #[.int .i64 pe] W fun e w'=>e=.returned (.bool (Qak pe 120))∧w'=W):=fun W=>QaM pe W
 by_cases c3:(Qak en 12 && Qak pe 120)=false
 ·have e1:QbM c l en pe=1:=by unfold QbM;rw [if_neg c1,if_pos c3]
  have HE:Hid (∀ W,Below w.heap.size w W→QgH c l en pe w (.returned (.tuple #[.slice none 0 0,.iface 68 (.int .i64 1)])) W):=fun W hW=>HErr.out _ W (by decide) e1 hW
  clear h hl c1 c1' e1 HErr HOk;cases u1:Qak en 12
  ·rw [u1] at HU1;clear c3 u1;go_enter func74,ntmps74
   go_wp2_with (first | (go_at_call 37;refine HC.out.mono ?_;rintro e w1 ⟨rfl,hb1⟩) | (go_at_call 84;refine (HU1.out _).mono ?_;rintro e w' ⟨rfl,rfl⟩));go_ret2;exact HE.out _ hb1
  ·have u2:Qak pe 120=false:=by rw [u1] at c3;simpa using c3
   rw [u1] at HU1;rw [u2] at HU2;clear c3 u1 u2;go_enter func74,ntmps74
   go_wp2_with fail;refine HC.out.mono ?_;rintro e w1 ⟨rfl,hb1⟩;go_wp2_with fail;refine (HU1.out _).mono ?_;rintro e w' ⟨rfl,hw⟩;rw [hw];clear hw w';go_wp2_with fail;refine (HU2.out _).mono ?_;rintro e w' ⟨rfl,hw⟩;rw [hw];clear hw w';go_wp2;go_ret2;exact HE.out _ hb1
 have c3':Qak en 12=true∧Qak pe 120=true:=by simpa using c3
 have HB0:Hid (QbM c l en pe=0):=by unfold QbM Hid;rw [if_neg c1,if_neg c3]
 rw [c3'.1] at HU1;rw [c3'.2] at HU2;obtain ⟨p1,p2,p3⟩:=Qdb c1';have HPo:Hid (∀ k,k<l.length→Qdr c l k=0):=p3;have HPs:Hid (Qe6 w a2 l cap2):=hl;have HTb:Hid (Qgj w):=ht;have HPe:Hid (Qak pe 120=true∧1≤pe∧pe≤120):=⟨c3'.2,(QcW.1 c3'.2).1,(QcW.1 c3'.2).2⟩;have i2:(l.length:Int)≤20:=by omega
 clear h hl ht c1 c1' c3 c3' p1 p3;obtain ⟨i0,hi,hz0,hz1,hz2⟩:=info_parts Qc0;go_enter func74,ntmps74
 go_wp2_with fail;refine HC.out.mono ?_;rintro e w2 ⟨rfl,hb2⟩;clear HC;go_wp2_with fail;refine (HU1.out _).mono ?_;rintro e w' ⟨rfl,hw⟩;rw [hw];clear hw w' HU1;go_wp2_with fail;refine (HU2.out _).mono ?_;rintro e w' ⟨rfl,hw⟩;rw [hw];clear hw w' HU2;have HB2:Hid (Below w.heap.size w w2):=hb2;clear hb2;have i9:¬ (0:Int)<l.length:=by rw [hn.out];decide
 have HEn:Hid _:=HOk.out (.slice none 0 0) [] w2 HB0.out HB2.out (Qbp.nil _ _) (by rw [hn.out];rfl) (by simp)
 clear hn HOk HErr HPo HPs HTb HPe HB0 HB2;go_wp2;refine wp_loop_rounds 1 ?_;rw [rounds_succ];go_wp2;go_ret2;exact HEn.out
set_option maxHeartbeats 4000000 in
theorem alCheck_nil (a a2:Option Addr) (cap cap2:Nat) (c:List Ac) (l:List Po) (w:World) (h:QbJ w a c cap) (hl:QgV w a2 l cap2) (hn:Hid (l=[])) (hll:l.length≤9223372036854775807) :
  Calls prog 39 #[.slice a c.length cap,.slice a2 l.length cap2] w fun e w'=>e=.returned (chE (QbC c l))∧Below w.heap.size w w':=by
 by_cases c0:Qat c≠0
 ·have HC:Hid (Calls _ _ _ _ _):=QaS a cap c w h c0;have e0:QbC c l=Qat c:=by unfold QbC;rw [if_pos c0]
  rw [e0];rw [Qae c0] at HC ⊢;clear h hl e0 c0;go_enter func39,ntmps39
  go_wp2_with (go_at_call 22;refine HC.out.mono ?_;rintro e w1 ⟨rfl,hb1⟩);go_ret;exact ⟨rfl,hb1⟩
 have HC:Hid (Calls _ _ _ _ _):=Qbe a cap c w h (Decidable.of_not_not c0);obtain ⟨res,hres⟩:∃ res,chE (QbC c l)=res:=⟨_,rfl⟩;have HR1:Hid (chE (if 20<l.length then 4 else Qac (fun k=>Qcd c (l.getD k po0)) l.length)=res):=by
  rw [← hres];unfold QbC;rw [if_neg c0];exact rfl
 rw [hres];have HL:Hid (QgV w a2 l cap2):=hl;clear hres h hl c0;go_enter func39,ntmps39
 go_wp2_with fail;refine HC.out.mono ?_;rintro e w1 ⟨B1,B2,rfl,hlf,hb1⟩;have HLf:Hid (Lfs w1 B1 B2 c):=hlf;have HB1:Hid (Below w.heap.size w w1):=hb1;clear hlf hb1 HC;by_cases c1:20<l.length
 ·have er:res=chE 4:=by rw [← HR1.out,if_pos c1]
  rw [Qae (by decide)] at er
  subst er;have i1:(20:Int)<l.length:=by omega
  clear HR1;go_wp2;go_ret;exact ⟨rfl,HB1.out⟩
 have HR2:Hid (chE (Qac (fun k=>Qcd c (l.getD k po0)) l.length)=res):=by
  have:=HR1.out;rw [if_neg c1] at this;exact this
 have i1:¬ (20:Int)<l.length:=by omega
 have i2:(l.length:Int)≤20:=by omega
 clear HR1;have er:res=.nilIface:=by rw [← HR2.out,hn.out];rfl
 have i9:¬ (0:Int)<l.length:=by rw [hn.out];decide
 subst er;clear HR2 HL HLf hn;go_wp2;refine wp_loop_rounds 1 ?_;rw [rounds_succ];go_wp2;go_ret;exact ⟨rfl,HB1.out⟩
set_option maxHeartbeats 4000000 in
theorem alEntries_nil (a a2 a3:Option Addr) (cap cap2 cap3:Nat) (c:List Ac) (l:List Po) (b:List Bl) (en pe:Int) (w:World) (h:QbJ w a c cap) (hl:QgV w a2 l cap2) (hn:Hid (l=[])) (hll:l.length≤9223372036854775807) (hb:Qcp w a3 b cap3) (hbl:b.length≤9223372036854775807) :
  Calls prog 76 #[.slice a c.length cap,.slice a2 l.length cap2,.slice a3 b.length cap3,.int .i64 en,.int .i64 pe] w (QeZ c l b en pe w):=by
 have HErr:Hid (∀ z W,z≠0→Qbs c l b en pe=z→Below w.heap.size w W→QeZ c l b en pe w (.returned (.tuple #[.slice none 0 0,.iface 68 (.int .i64 z)])) W):=fun z W h0 h1 h2=>by
  refine ⟨h2,fun _=>by rw [h1,Qae h0],fun e=>absurd (h1.symm.trans e) h0⟩
 have HOk:Hid (∀ v L W,Qbs c l b en pe=0→Below w.heap.size w W→Qbp W w.heap.size v L→L.map Je.ep=QgA en pe b l l.length→QeZ c l b en pe w (.returned (.tuple #[v,.nilIface])) W):=fun v L W h1 h2 h3 h4=>
  ⟨h2,fun h0=>absurd h1 h0,fun _=>⟨v,L,rfl,h3,h4⟩⟩
 have HC:Hid (Calls _ _ _ _ _):=alCheck_nil a a2 cap cap2 c l w h hl hn hll;by_cases c1:QbC c l≠0
 ·have e1:Qbs c l b en pe=QbC c l:=by unfold Qbs;rw [if_pos c1]
  have HE:Hid (∀ W,Below w.heap.size w W→QeZ c l b en pe w (.returned (.tuple #[.slice none 0 0,.iface 68 (.int .i64 (QbC c l))])) W):=fun W hW=>HErr.out _ W c1 e1 hW
  rw [Qae c1] at HC;clear h hl hb c1 e1 HErr HOk;generalize QbC c l=z at *
  go_enter func76,ntmps76
  go_wp2_with (go_at_call 39;refine HC.out.mono ?_;rintro e w1 ⟨rfl,hb1⟩);go_ret2;exact HE.out _ hb1
 have c1':=Decidable.of_not_not c1;rw [c1',Qaj] at HC;have HCb:Hid (∀ W,Below w.heap.size w W→Calls prog 116 #[.slice a3 b.length cap3] W fun e w'=>e=.returned (chE (chk b))∧Below w.heap.size w w'):=fun W hW=>by
  refine (QcE a3 cap3 b W hbl (hb.below hW)).mono ?_;rintro e w' ⟨rfl,h2⟩;exact ⟨rfl,hW.trans (h2.mono hW.size)⟩
 by_cases c2:chk b≠0
 ·have e1:Qbs c l b en pe=chk b:=by unfold Qbs;rw [if_neg c1,if_pos c2]
  have HE:Hid (∀ W,Below w.heap.size w W→QeZ c l b en pe w (.returned (.tuple #[.slice none 0 0,.iface 68 (.int .i64 (chk b))])) W):=fun W hW=>HErr.out _ W c2 e1 hW
  rw [Qae c2] at HCb;clear h hl hb c1 c1' c2 e1 HErr HOk;generalize chk b=z at *
  go_enter func76,ntmps76
  go_wp2_with (first | (go_at_call 39;refine HC.out.mono ?_;rintro e w1 ⟨rfl,hb1⟩) | (go_at_call 116;refine (HCb.out _ hb1).mono ?_;rintro e w2 ⟨rfl,hb2⟩));go_ret2;exact HE.out _ hb2
 have c2':=Decidable.of_not_not c2;rw [c2',Qaj] at HCb;have HU1:Hid (∀ W,Calls prog 84 #[.int .i64 en] W fun e w'=>e=.returned (.bool (Qak en 12))∧w'=W):=fun W=>Qbm en W
 have HU2:Hid (∀ W,Calls prog 31 #[.int .i64 pe] W fun e w'=>e=.returned (.bool (Qak pe 120))∧w'=W):=fun W=>QaM pe W
 by_cases c3:(Qak en 12 && Qak pe 120)=false
 ·have e1:Qbs c l b en pe=1:=by unfold Qbs;rw [if_neg c1,if_neg c2,if_pos c3]
  have HE:Hid (∀ W,Below w.heap.size w W→QeZ c l b en pe w (.returned (.tuple #[.slice none 0 0,.iface 68 (.int .i64 1)])) W):=fun W hW=>HErr.out _ W (by decide) e1 hW
  clear h hl hb c1 c1' c2 c2' e1 HErr HOk;cases u1:Qak en 12
  ·rw [u1] at HU1;clear c3 u1;go_enter func76,ntmps76
   go_wp2_with (first | (go_at_call 39;refine HC.out.mono ?_;rintro e w1 ⟨rfl,hb1⟩) | (go_at_call 116;refine (HCb.out _ hb1).mono ?_;rintro e w2 ⟨rfl,hb2⟩) | (go_at_call 84;refine (HU1.out _).mono ?_;rintro e w' ⟨rfl,rfl⟩));go_ret2;exact HE.out _ hb2
  ·have u2:Qak pe 120=false:=by rw [u1] at c3;simpa using c3
   rw [u1] at HU1;rw [u2] at HU2;clear c3 u1 u2;go_enter func76,ntmps76
   go_wp2_with fail;refine HC.out.mono ?_;rintro e w1 ⟨rfl,hb1⟩;go_wp2_with fail;refine (HCb.out _ hb1).mono ?_;rintro e w2 ⟨rfl,hb2⟩;go_wp2_with fail;refine (HU1.out _).mono ?_;rintro e w' ⟨rfl,hw⟩;rw [hw];clear hw w';go_wp2_with fail;refine (HU2.out _).mono ?_;rintro e w' ⟨rfl,hw⟩;rw [hw];clear hw w';go_wp2;go_ret2;exact HE.out _ hb2
 have c3':Qak en 12=true∧Qak pe 120=true:=by simpa using c3
 have HB0:Hid (Qbs c l b en pe=Qac (fun k=>QdA b en (l.getD k po0)) l.length):=by unfold Qbs Hid;rw [if_neg c1,if_neg c2,if_neg c3]
 rw [c3'.1] at HU1;rw [c3'.2] at HU2;obtain ⟨p1,p2,p3⟩:=QcZ c1';have HPo:Hid (∀ k,k<l.length→Qcd c (l.getD k po0)=0):=p3;have HPs:Hid (QgV w a2 l cap2):=hl;have HBl:Hid (Qcp w a3 b cap3∧(b.length:Int)≤9223372036854775807):=⟨hb,by omega⟩
 have i2:(l.length:Int)≤20:=by omega
 clear h hl hb c1 c1' c2 c2' c3 c3' p1 p3;obtain ⟨i0,hi,hz0,hz1,hz2⟩:=info_parts Qc0;go_enter func76,ntmps76
 go_wp2_with fail;refine HC.out.mono ?_;rintro e w1 ⟨rfl,hb1⟩;go_wp2_with fail;refine (HCb.out _ hb1).mono ?_;rintro e w2 ⟨rfl,hb2⟩;clear HC HCb hb1;go_wp2_with fail;refine (HU1.out _).mono ?_;rintro e w' ⟨rfl,hw⟩;rw [hw];clear hw w' HU1;go_wp2_with fail;refine (HU2.out _).mono ?_;rintro e w' ⟨rfl,hw⟩;rw [hw];clear hw w' HU2;have HB2:Hid (Below w.heap.size w w2):=hb2;clear hb2;have i9:¬ (0:Int)<l.length:=by rw [hn.out];decide
 have HEn:Hid _:=HOk.out (.slice none 0 0) [] w2 (HB0.out.trans (by rw [hn.out];rfl)) HB2.out (Qbp.nil _ _) (by rw [hn.out];rfl)
 clear hn HOk HErr HPo HPs HBl HB0 HB2;go_wp2;refine wp_loop_rounds 1 ?_;rw [rounds_succ];go_wp2;go_ret2;exact HEn.out
set_option maxHeartbeats 4000000 in
theorem prCheck_nil (a a2:Option Addr) (cap cap2:Nat) (c:List Ac) (l:List Pr) (w:World) (h:QbJ w a c cap) (hl:QfP w a2 l cap2) (hn:Hid (l=[])) (hll:l.length≤9223372036854775807) :
  Calls prog 43 #[.slice a c.length cap,.slice a2 l.length cap2] w fun e w'=>e=.returned (chE (QaX c l))∧Below w.heap.size w w':=by
 by_cases c0:Qat c≠0
 ·have HC:Hid (Calls _ _ _ _ _):=QaS a cap c w h c0;have e0:QaX c l=Qat c:=by unfold QaX;rw [if_pos c0]
  rw [e0];rw [Qae c0] at HC ⊢;clear h hl e0 c0;go_enter func43,ntmps43
  go_wp2_with (go_at_call 22;refine HC.out.mono ?_;rintro e w1 ⟨rfl,hb1⟩);go_ret;exact ⟨rfl,hb1⟩
 have HC:Hid (Calls _ _ _ _ _):=Qbe a cap c w h (Decidable.of_not_not c0);obtain ⟨res,hres⟩:∃ res,chE (QaX c l)=res:=⟨_,rfl⟩;have HR1:Hid (chE (if 20<l.length then 4 else Qac (QbT c l) l.length)=res):=by
  rw [← hres];unfold QaX;rw [if_neg c0];exact rfl
 rw [hres];have HL:Hid (QfP w a2 l cap2):=hl;clear hres h hl c0;go_enter func43,ntmps43
 go_wp2_with fail;refine HC.out.mono ?_;rintro e w1 ⟨B1,B2,rfl,hlf,hb1⟩;have HLf:Hid (Lfs w1 B1 B2 c):=hlf;have HB1:Hid (Below w.heap.size w w1):=hb1;clear hlf hb1 HC;by_cases c1:20<l.length
 ·have er:res=chE 4:=by rw [← HR1.out,if_pos c1]
  rw [Qae (by decide)] at er
  subst er;have i1:(20:Int)<l.length:=by omega
  clear HR1;go_wp2;go_ret;exact ⟨rfl,HB1.out⟩
 have HR2:Hid (chE (Qac (QbT c l) l.length)=res):=by
  have:=HR1.out;rw [if_neg c1] at this;exact this
 have i1:¬ (20:Int)<l.length:=by omega
 have i2:(l.length:Int)≤20:=by omega
 have i3:l.length≤20:=by omega
 clear HR1 c1 hll;have er:res=.nilIface:=by rw [← HR2.out,hn.out];rfl
 have i9:¬ (0:Int)<l.length:=by rw [hn.out];decide
 subst er;clear HR2 HL HLf hn;go_wp2;refine wp_loop_rounds 1 ?_;rw [rounds_succ];go_wp2;go_ret;exact ⟨rfl,HB1.out⟩
set_option maxHeartbeats 4000000 in
theorem left_nil (a a2:Option Addr) (cap cap2:Nat) (l:List Pr) (b:List Bl) (cur:ByteArray) (w:World) (hl:QfP w a l cap) (hn:Hid (l=[])) (hlen:l.length≤9223372036854775807) (hb:Qcp w a2 b cap2) (hbl:b.length≤9223372036854775807) :
  Calls prog 126 #[.slice a l.length cap,.slice a2 b.length cap2,.string cur] w (Qcc l b cur w):=by
 by_cases c1:20<l.length
 ·have e1:lfE l b cur=4:=if_pos c1;unfold Qcc;rw [e1,Qbb (by decide)]
  have i1:(20:Int)<l.length:=by omega
  clear e1 hl hb;go_enter func126,ntmps126
  go_wp2;go_ret2;exact ⟨Below.refl _ _,fun _=>rfl,fun h=>absurd h (by decide)⟩
 have i1:¬ (20:Int)<l.length:=by omega
 have HC:Hid (Calls prog 116 #[.slice a2 b.length cap2] w fun e w'=>e=.returned (enE (chk b))∧Below w.heap.size w w'):=QcE a2 cap2 b w hbl hb
 by_cases c2:chk b≠0
 ·have e1:lfE l b cur=chk b:=by unfold lfE;rw [if_neg c1,if_pos c2]
  unfold Qcc;rw [e1,Qbb c2];rw [Qbb c2] at HC;clear e1 hl hb;generalize chk b=z at *
  go_enter func126,ntmps126
  go_wp2_with fail;refine HC.out.mono ?_;rintro e w1 ⟨rfl,hb1⟩;have HB1:Hid (Below w.heap.size w w1):=hb1;clear hb1;go_wp2;go_ret2;exact ⟨HB1.out,fun _=>rfl,fun h=>absurd h c2⟩
 have c2':=Decidable.of_not_not c2;rw [c2',QcR] at HC;have HU:Hid (∀ W,Calls prog 24 #[.string cur] W fun e w'=>e=.returned (.bool (Qam cur))∧Below W.heap.size W w'):=fun W=>Qcu cur W
 by_cases c3:Qam cur=true
 rotate_left
 ·have c3':Qam cur=false:=by simpa using c3
  have e1:lfE l b cur=2:=by unfold lfE;rw [if_neg c1,if_neg c2,if_neg c3]
  unfold Qcc;rw [e1,Qbb (by decide)]
  rw [c3'] at HU;clear e1 hl hb c3 c3' c2 c2';go_enter func126,ntmps126
  go_wp2_with fail;refine HC.out.mono ?_;rintro e w1 ⟨rfl,hb1⟩;go_wp2_with fail;refine (HU.out w1).mono ?_;rintro e w2 ⟨rfl,hb2⟩;have HB2:Hid (Below w.heap.size w w2):=hb1.trans (hb2.mono hb1.size);clear hb1 hb2 HC HU;go_wp2;go_ret2;exact ⟨HB2.out,fun _=>rfl,fun h=>absurd h (by decide)⟩
 rw [c3] at HU;have fn:=Qeh.1 c2';have e1:lfE l b cur=0:=lfE_ok.2 ⟨by omega,fn,c3⟩
 have HEnd:Hid (∀ g w',w.heap.size≤g→Below w.heap.size w w'→Qbj w' g (l.map (lfV b cur))→Qcc l b cur w (.returned (.tuple #[.slice (some ⟨g,0,none⟩) l.length l.length,.nilIface])) w'):=fun g w' h1 h2 h3=>⟨h2,fun h=>absurd e1 h,fun _=>⟨g,rfl,h1,h3⟩⟩
 have HBd:Hid (∀ en acc,-1000000000000000000≤Qca b en acc cur∧Qca b en acc cur≤1000000000000000000):=fun en acc=>getB_bd fn en acc cur
 have HHad:Hid (∀ (p:Pr) W,Below w.heap.size w W→Calls prog 127 #[.agg p.cells,.slice a2 b.length cap2,.string cur] W fun e w'=>e=.returned (.agg #[.int .i64 (Qca b p.ea p.one cur),.int .i64 (Qca b p.eb p.oth cur)])∧Below W.heap.size W w'):=fun p W hW=>had_any a2 cap2 p b cur W (by omega) (hb.below hW)
 have HPr:Hid (QfP w a l cap):=hl;have l20:l.length≤20:=by omega
 clear c1 c2 c2' c3 fn e1 hl hb;have hmk:=fun w=>run_make_row' (P:=prog) 97 3 (.int .i64 0) 8 underlying97 pr_int rfl .i64 .i64 l.length (by omega) (by omega) w
 go_enter func126,ntmps126
 go_wp2_with fail;refine HC.out.mono ?_;rintro e w1 ⟨rfl,hb1⟩;go_wp2_with fail;refine (HU.out w1).mono ?_;rintro e w2 ⟨rfl,hb2⟩;have HB2:Hid (Below w.heap.size w w2):=hb1.trans (hb2.mono hb1.size);clear hb1 hb2 HC HU;have HB0:Hid (Below w.heap.size w (w2.alloc (.cells (madeCells #[.int .i64 0] l.length) 3))):=HB2.out.alloc HB2.out.size _;have HR0:Hid (Qbj (w2.alloc (.cells (madeCells #[.int .i64 0] l.length) 3)) w2.heap.size ((l.take 0).map (lfV b cur)++List.replicate (l.length - 0) 0)):=by
  have hrow:=Qd1 w2 l.length;unfold Hid;rw [List.take_zero];exact hrow
 have HGw:Hid (w.heap.size≤w2.heap.size):=HB2.out.size;clear HB2;go_wp2_with fail;clear hmk;generalize w2.heap.size=G at *
 obtain ⟨fw,hfw⟩:∃ fw,lfV b cur=fw:=⟨_,rfl⟩;have HFw:Hid (∀ p:Pr,fw p=Qca b p.ea p.one cur+Qca b p.eb p.oth cur):=fun p=>by rw [← hfw];rfl
 rw [hfw] at HEnd HR0;clear hfw;have i9:¬ (0:Int)<l.length:=by rw [hn.out];decide
 have HEn:Hid _:=HEnd.out G _ (by assumption) HB0.out (by rw [hn.out] at HR0 ⊢;exact HR0.out)
 clear hn;refine wp_loop_rounds 1 ?_;rw [rounds_succ];go_wp2;go_ret2;exact HEn.out
set_option maxHeartbeats 4000000 in
theorem peEntries_nil (a a2 a3:Option Addr) (cap cap2 cap3:Nat) (c:List Ac) (l:List Pr) (b:List Bl) (cur:ByteArray) (pe:Int) (w:World) (h:QbJ w a c cap) (hl:QfP w a2 l cap2) (hn:Hid (l=[])) (hll:l.length≤9223372036854775807) (hb:Qcp w a3 b cap3) (hbl:b.length≤9223372036854775807) :
  Calls prog 79 #[.slice a c.length cap,.slice a2 l.length cap2,.slice a3 b.length cap3,.string cur,.int .i64 pe] w (Qew c l b cur pe w):=by
 have HErr:Hid (∀ z W,z≠0→Qcq c l b cur pe=z→Below w.heap.size w W→Qew c l b cur pe w (.returned (.tuple #[.slice none 0 0,.iface 68 (.int .i64 z)])) W):=fun z W h0 h1 h2=>by
  refine ⟨h2,fun _=>by rw [h1,Qae h0],fun e=>absurd (h1.symm.trans e) h0⟩
 have HOk:Hid (∀ v L W,Qcq c l b cur pe=0→Below w.heap.size w W→Qbp W w.heap.size v L→L.map Je.ep=QfO b cur pe l (l.length*2)→L.length≤40→Qew c l b cur pe w (.returned (.tuple #[v,.nilIface])) W):=fun v L W h1 h2 h3 h4 h5=>
  ⟨h2,fun h0=>absurd h1 h0,fun _=>⟨v,L,rfl,h3,h4,h5⟩⟩
 have HC:Hid (Calls _ _ _ _ _):=prCheck_nil a a2 cap cap2 c l w h hl hn hll;by_cases c1:QaX c l≠0
 ·have HE:Hid (∀ W,Below w.heap.size w W→Qew c l b cur pe w (.returned (.tuple #[.slice none 0 0,.iface 68 (.int .i64 (QaX c l))])) W):=fun W hW=>HErr.out _ W c1 (by unfold Qcq;rw [if_pos c1]) hW
  rw [Qae c1] at HC;clear h hl hb HErr HOk;generalize QaX c l=z at *
  go_enter func79,ntmps79
  go_wp2_with fail;refine HC.out.mono ?_;rintro e w1 ⟨rfl,hb1⟩;have HB1:Hid (Below w.heap.size w w1):=hb1;clear hb1;go_wp2;go_ret2;exact HE.out _ HB1.out
 have c1':=Decidable.of_not_not c1;rw [c1',Qaj] at HC;have l20:=(QdQ c1').2.1;have HLe:Hid (∀ W,Below w.heap.size w W→Calls prog 126 #[.slice a2 l.length cap2,.slice a3 b.length cap3,.string cur] W (Qcc l b cur W)):=fun W hW=>left_nil a2 a3 cap2 cap3 l b cur W (hl.below hW) hn hll (hb.below hW) hbl
 by_cases c2:lfE l b cur≠0
 ·have HE:Hid (∀ W,Below w.heap.size w W→Qew c l b cur pe w (.returned (.tuple #[.slice none 0 0,.iface 68 (.int .i64 (lfE l b cur))])) W):=fun W hW=>HErr.out _ W c2 (by unfold Qcq;rw [if_neg c1,if_pos c2]) hW
  have HLf:Hid (∀ W,Below w.heap.size w W→Calls prog 126 #[.slice a2 l.length cap2,.slice a3 b.length cap3,.string cur] W fun e w'=>e=.returned (.tuple #[.slice none 0 0,.iface 68 (.int .i64 (lfE l b cur))])∧Below w.heap.size w w'):=fun W hW=>by
   refine (HLe.out W hW).mono ?_;rintro e w' ⟨y1,y2,_⟩
   have:=y2 c2
   rw [Qbb c2] at this;exact ⟨this,hW.trans (y1.mono hW.size)⟩
  clear h hl hb HErr HOk HLe;generalize lfE l b cur=z at *
  go_enter func79,ntmps79
  go_wp2_with fail;refine HC.out.mono ?_;rintro e w1 ⟨rfl,hb1⟩;go_wp2_with fail;refine (HLf.out w1 hb1).mono ?_;rintro e w2 ⟨rfl,hb2⟩;have HB1:Hid (Below w.heap.size w w2):=hb2;clear hb1 hb2 HLf HC;go_wp2;go_ret2;exact HE.out _ HB1.out
 have c2':=Decidable.of_not_not c2;have HLf:Hid (∀ W,Below w.heap.size w W→Calls prog 126 #[.slice a2 l.length cap2,.slice a3 b.length cap3,.string cur] W fun e w'=>∃ g,e=.returned (.tuple #[.slice (some ⟨g,0,none⟩) l.length l.length,.nilIface])∧Below w.heap.size w w'):=fun W hW=>by
  refine (HLe.out W hW).mono ?_;rintro e w' ⟨y1,_,y3⟩;obtain ⟨g,rfl,_,_⟩:=y3 c2';exact ⟨g,rfl,hW.trans (y1.mono hW.size)⟩
 have HPe:Hid (∀ W,Calls prog 31 #[.int .i64 pe] W fun e w'=>e=.returned (.bool (Qak pe 120))∧w'=W):=fun W=>QaM pe W
 cases c3:Qak pe 120
 ·have HE:Hid (∀ W,Below w.heap.size w W→Qew c l b cur pe w (.returned (.tuple #[.slice none 0 0,.iface 68 (.int .i64 1)])) W):=fun W hW=>HErr.out _ W (by decide) (by unfold Qcq;rw [if_neg c1,if_neg c2,if_pos c3]) hW
  rw [c3] at HPe;clear h hl hb HErr HOk HLe;go_enter func79,ntmps79
  go_wp2_with fail;refine HC.out.mono ?_;rintro e w1 ⟨rfl,hb1⟩;go_wp2_with fail;refine (HLf.out w1 hb1).mono ?_;rintro e w2 ⟨g,rfl,hb2⟩;go_wp2_with fail;refine (HPe.out _).mono ?_;rintro e w' ⟨rfl,hw⟩;rw [hw];clear hw w' HPe;have HB1:Hid (Below w.heap.size w w2):=hb2;clear hb1 hb2 HLf HC;go_wp2;go_ret2;exact HE.out _ HB1.out
 rw [c3] at HPe;have HB0:Hid (Qcq c l b cur pe=Qac (Qiw b cur l) (l.length*2)):=by unfold Qcq;rw [if_neg c1,if_neg c2,c3,if_neg (by simp)];exact rfl
 have HPr:Hid (QfP w a2 l cap2):=hl;have HHad:Hid (∀ (p:Pr) W,Below w.heap.size w W→Calls prog 127 #[.agg p.cells,.slice a3 b.length cap3,.string cur] W fun e w'=>e=.returned (.agg #[.int .i64 (Qca b p.ea p.one cur),.int .i64 (Qca b p.eb p.oth cur)])∧Below W.heap.size W w'):=fun p W hW=>had_any a3 cap3 p b cur W (by omega) (hb.below hW)
 obtain ⟨i0,hi,hz0,hz1,hz2⟩:=info_parts Qc0;have l20i:(l.length:Int)≤20:=by omega
 clear h hl hb hll c1 c1' c2 c2' c3 HLe;go_enter func79,ntmps79
 go_wp2_with fail;refine HC.out.mono ?_;rintro e w1 ⟨rfl,hb1⟩;go_wp2_with fail;refine (HLf.out w1 hb1).mono ?_;rintro e w2 ⟨gl0,rfl,hb2⟩;go_wp2_with fail;refine (HPe.out _).mono ?_;rintro e w' ⟨rfl,hw⟩;rw [hw];clear hw w' HPe;have HB2:Hid (Below w.heap.size w w2):=hb2;clear hb1 hb2 HLf HC;have i9:¬ (0:Int)<l.length:=by rw [hn.out];decide
 have HEn:Hid _:=HOk.out (.slice none 0 0) [] w2 (HB0.out.trans (by rw [hn.out];rfl)) HB2.out (Qbp.nil _ _) (by rw [hn.out];rfl) (by simp)
 clear hn HOk HErr HPr HHad HB0 HB2;go_wp2;refine wp_loop_rounds 1 ?_;rw [rounds_succ];go_wp2;go_ret2;exact HEn.out
theorem EntK.nil {S:Cs} (h1:S.pn=[]) (h2:S.po=[]) (h3:S.pr=[]):EntK S:=
 ⟨fun a a2 cap cap2 en pe w h hl ht=>plEntries_nil a a2 cap cap2 S.c S.pn en pe w h hl h1 (by rw [h1];simp) ht,
  fun a a2 a3 cap cap2 cap3 b en pe w h hl hb hbl=>alEntries_nil a a2 a3 cap cap2 cap3 S.c S.po b en pe w h hl h2 (by rw [h2];simp) hb hbl,
  fun a a2 a3 cap cap2 cap3 b cur pe w h hl hb hbl=>peEntries_nil a a2 a3 cap cap2 cap3 S.c S.pr b cur pe w h hl h3 (by rw [h3];simp) hb hbl⟩
end
end Go.Proofs.YtibhgngboljhfaaGreatDoor
