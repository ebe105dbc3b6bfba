/-
  Part of a proof (see the last text).
-/
import Derived.Test.YtbeanioeeaikkaaGreatDoorZm33
set_option linter.unusedVariables false
set_option linter.unusedSimpArgs false
set_option maxRecDepth 100000
namespace Go.Proofs.YtbeanioeeaikkaaGreatDoor
section
open Go.RowKit Go.Lib Go.Proofs.Tryz
structure ClS (W:World) (n0 m0 B:Nat) (P:Cp) (S:Cs):Prop where
 at_:Qbq W n0 m0 B P S
 ev:ClEv S
 tab:∀ U,Below n0 W U→Qir U
def zbF (c:List Ac) (R:List Bl):Int:=QcY c R
def zeF (c:List Ac) (kept:ByteArray) (pe:Int) (R:List Bl):List Ep:=if R.length≤200 then QeU c kept pe R else []
theorem zeF_of {c:List Ac} {kept:ByteArray} {pe:Int} {R:List Bl} (h:R.length≤200):zeF c kept pe R=QeU c kept pe R:=if_pos h
theorem zeF_lns (c:List Ac) (kept:ByteArray) (pe:Int) (R:List Bl):∀ x∈zeF c kept pe R,x.lns.length≤1000:=fun x hx=>by
 unfold zeF at hx;split at hx
 ·rename_i hR;obtain ⟨k,_,rfl⟩:=List.mem_map.1 hx;show (cgL kept (QbT c R k)).length≤1000;have q1:=List.length_filter_le (fun x=>decide (x.pur=k)) (R.filter (Qa6 c))
  have q2:=List.length_filter_le (Qa6 c) R;unfold cgL;rw [List.length_append,Qgj];unfold QbT
  split <;> simp only [List.length_cons,List.length_nil] <;> omega
 ·cases hx
section
variable {W:World} {n0 m0 B:Nat} {P:Cp} {S:Cs}
theorem ClS.below {W':World} (h:ClS W n0 m0 B P S) (hb:Below W.heap.size W W'):ClS W' n0 m0 B P S:=by
 refine ⟨h.at_.below hb,h.ev,fun U hU=>h.tab U ?_⟩
 have h1:=h.at_.hB;have h2:=h.at_.m0;exact (hb.mono (by omega)).trans hU
theorem clT_ge (h:Qbq W n0 m0 B P S):∀ b,clT B P S.es.length b→n0≤b:=fun b hb=>by
 rcases hb with hb | hb | hb | hb
 ·rw [hb];exact h.hB.1
 ·rw [hb];exact h.hm.1
 ·rw [hb];exact h.hs.1
 ·have:=h.row.own b hb.symm;have:=h.hB;omega
theorem Qbq.low {U:World} (h:Qbq W n0 m0 B P S) (hk:QaG (clT B P S.es.length) W U):Below n0 W U:=hk.below (by have:=h.hB;have:=h.m0;omega) (clT_ge h)
theorem ClS.keep {U:World} {P':Cp} {S':Cs} {m1:Nat} (h:ClS W n0 m0 B P S) (hb:Below n0 W U) (h1:Qbq U n0 m1 B P' S') (h2:ClEv S'):ClS U n0 m1 B P' S':=⟨h1,h2,fun V hV=>h.tab V (hb.trans hV)⟩
def AdEnd (W:World) (n0 m0 B:Nat) (P:Cp) (S:Cs) (pe:Int) (e:Ending) (w':World):Prop:=
 (∃ z,z≠0∧e=.returned (.tuple #[.int .i64 0,.iface 68 (.int .i64 z)])∧(QcV S pe=z∨(QcV S pe=0∧∃ R,OeR (Qat pe) S.es R∧Qd2 S pe R (QcY S.c R) (QeU S.c S.kept pe R)=z))∧Hid (ClS w' n0 m0 B P S∧Below W.heap.size W w')) ∨
 (∃ (n:Nat) (es:List Je) (ea:Option Addr) (ec:Nat) (R:List Bl),e=.returned (.tuple #[.int .i64 (n:Int),.nilIface])∧Hid (ClS w' n0 m0 B { P with ea:=ea,ec:=ec } { S with es:=es,st:=Qcw S.st pe (QaU S.st pe+1) }∧(Below n0 W w'∧QaG (clT B P S.es.length) W w') ∧
  QcV S pe=0∧OeR (Qat pe) S.es R∧Qd2 S pe R (QcY S.c R) (QeU S.c S.kept pe R)=0∧es.length=S.es.length+n∧(∀ k,S.es.length≤k→k<es.length→(es.getD k je0).per=pe∧(es.getD k je0).ref=QfY k) ∧
  es.map Je.ep=S.es.map Je.ep++rnE S.es.length (QeB S R pe (QaU S.st pe+1) (QeU S.c S.kept pe R)) (QeB S R pe (QaU S.st pe+1) (QeU S.c S.kept pe R)).length))
theorem Qd3 (h:ClS W n0 m0 B P S) (pe:Int) :
  Calls prog 8 #[.pointer (some ⟨B,0,none⟩),.int .i64 pe] W (AdEnd W n0 m0 B P S pe):=by
 refine (advance_any h.at_ h.ev.ok h.tab pe (zbF S.c) (zeF S.c S.kept pe) (zeF_lns S.c S.kept pe) (fun ab R cab U hU hR hO=>?_)).mono ?_
 ·rw [zeF_of hO.len];exact clCleared_any (h.at_.below hU) h.ev.ok ab R cab pe hR hO.len hO.ok
 ·rintro e w' (⟨h1,rfl,hb⟩ | ⟨h0,R,hR,h2⟩)
  ·refine .inl ⟨QcV S pe,h1,by rw [Qaf h1],.inl rfl,h.below hb,hb⟩
  ·rw [zeF_of hR.len] at h2;rcases h2 with ⟨h1,rfl,hb⟩ | ⟨h1,rfl,es,ea,ec,j,hes,hk,_⟩
   ·exact .inl ⟨_,h1,by rw [Qaf h1],.inr ⟨h0,R,hR,rfl⟩,h.below hb,hb⟩
   ·obtain ⟨g1,g2,g3⟩:=h.ev.adv h0 hR h1 hes;have hlow:=h.at_.low hk;exact .inr ⟨_,es,ea,ec,R,rfl,h.keep hlow j g1,⟨hlow,hk⟩,h0,hR,h1,g2,g3,hes⟩
def PoEnd (W:World) (n0 m0 B:Nat) (P:Cp) (S:Cs) (r:ByteArray) (en pe:Int) (l:List Ln) (e:Ending) (w':World):Prop:=
 (psB S r en pe l≠0∧e=.returned (.tuple #[.int .i64 0,.iface 68 (.int .i64 (psB S r en pe l))])∧Hid (ClS w' n0 m0 B P S∧Below W.heap.size W w')) ∨
 (psB S r en pe l=0∧e=.returned (.tuple #[.int .i64 (S.es.length:Int),.nilIface])∧∃ ea ec a' c',Hid (ClS w' n0 m0 B { P with ea:=ea,ec:=ec } (S.add ⟨r,en,pe,a',c',l⟩)∧Below n0 W w'))
theorem QhN (h:ClS W n0 m0 B P S) (r:ByteArray) (en pe:Int) (a:Option Addr) (cap:Nat) (l:List Ln) (hl:Qc0 W a l cap) :
  Calls prog 6 #[.pointer (some ⟨B,0,none⟩),.agg #[.string r,.int .i64 en,.int .i64 pe,.slice a l.length cap]] W (PoEnd W n0 m0 B P S r en pe l):=by
 refine (clPost_any h.at_ (by have:=h.ev.ok.len;omega) r en pe a cap l hl).mono ?_
 rintro e w' (⟨h1,rfl,hb⟩ | ⟨h1,rfl,g,cp,a',c',j,hk,_⟩)
 ·exact .inl ⟨h1,rfl,h.below hb,hb⟩
 ·have hlow:=h.at_.low hk;exact .inr ⟨h1,rfl,some ⟨g,0,none⟩,cp,a',c',h.keep hlow j (h.ev.post h1 a' c'),hlow⟩
theorem QdN (h:ClS W n0 m0 B P S) :
  Calls prog 9 #[.pointer (some ⟨B,0,none⟩)] W fun e w'=>∃ a c L,e=.returned (.slice a L.length c)∧Hid (Qbv w' W.heap.size (.slice a L.length c) L∧L.map Je.ep=S.es.map Je.ep∧Below W.heap.size W w'∧ClS w' n0 m0 B P S):=by
 refine (clEntries_any h.at_ (by have:=h.ev.ok.len;omega) (fun x hx=>by have:=(h.ev.ok.lns x hx).1;omega)).mono ?_
 rintro e w' ⟨a,c,L,rfl,hh⟩;exact ⟨a,c,L,rfl,hh.out.1,hh.out.2.1,hh.out.2.2,h.below hh.out.2.2⟩
theorem ClEv.plans {S:Cs} {l:List Pn} (h:ClEv S) (h0:QbB S.c l=0):ClEv { S with pn:=l }:=by
 have o:=h.ok;exact ⟨⟨o.c,o.T,o.g,o.b,o.ga,o.ke,h0,o.po,o.pr,o.len,o.lns,o.per,o.sg,o.st⟩,h.ev⟩
theorem ClEv.pools {S:Cs} {l:List Po} (h:ClEv S) (h0:Qcb S.c l=0):ClEv { S with po:=l }:=by
 have o:=h.ok;exact ⟨⟨o.c,o.T,o.g,o.b,o.ga,o.ke,o.pn,h0,o.pr,o.len,o.lns,o.per,o.sg,o.st⟩,h.ev⟩
theorem ClEv.pairs {S:Cs} {l:List Pr} (h:ClEv S) (h0:Qbw S.c l=0):ClEv { S with pr:=l }:=by
 have o:=h.ok;exact ⟨⟨o.c,o.T,o.g,o.b,o.ga,o.ke,o.pn,o.po,h0,o.len,o.lns,o.per,o.sg,o.st⟩,h.ev⟩
def StEnd3 (W:World) (n0 B:Nat) (S:Cs) (e:Ending) (w':World):Prop:=
 ∃ E,e=.returned E∧E.oneCell'=true∧∃ m1 P' S',Hid (ClS w' n0 m1 B P' S'∧Below n0 W w'∧QcL P' S'∧S'.c=S.c∧S'.T=S.T∧S'.base=S.base∧S'.gain=S.gain∧S'.kept=S.kept∧S'.st=S.st)
theorem clPlans_ev (h:ClS W n0 m0 B P S) (hf:QcL P S) (al:Option Addr) (l:List Pn) (cl:Nat) (hl:QgB W al l cl) (hll:l.length≤9223372036854775807) :
  Calls prog 11 #[.pointer (some ⟨B,0,none⟩),.slice al l.length cl] W (StEnd3 W n0 B S):=by
 have hn:n0≤W.heap.size:=by have:=h.at_.hB;have:=h.at_.m0;omega
 refine (clPlans_any h.at_ hf al l cl hl hll).mono ?_;rintro e w' (⟨h0,rfl,hb⟩ | ⟨h0,rfl,m1,pa,pc,hh⟩)
 ·exact ⟨_,rfl,by rw [Qaf h0];rfl,m0,P,S,h.below hb,hb.mono hn,hf,rfl,rfl,rfl,rfl,rfl,rfl⟩
 ·have hlow:Below n0 W w':=hh.out.2.1.below hn fun b hb=>by rw [hb];exact h.at_.hB.1
  exact ⟨_,rfl,rfl,m1,_,_,h.keep hlow hh.out.1 (h.ev.plans h0),hlow,hh.out.2.2,rfl,rfl,rfl,rfl,rfl,rfl⟩
theorem clPairs_ev (h:ClS W n0 m0 B P S) (hf:QcL P S) (al:Option Addr) (l:List Pr) (cl:Nat) (hl:QiQ W al l cl) (hll:l.length≤9223372036854775807) :
  Calls prog 13 #[.pointer (some ⟨B,0,none⟩),.slice al l.length cl] W (StEnd3 W n0 B S):=by
 have hn:n0≤W.heap.size:=by have:=h.at_.hB;have:=h.at_.m0;omega
 refine (clPairs_any h.at_ hf al l cl hl hll).mono ?_;rintro e w' (⟨h0,rfl,hb⟩ | ⟨h0,rfl,m1,pa,pc,hh⟩)
 ·exact ⟨_,rfl,by rw [Qaf h0];rfl,m0,P,S,h.below hb,hb.mono hn,hf,rfl,rfl,rfl,rfl,rfl,rfl⟩
 ·have hlow:Below n0 W w':=hh.out.2.1.below hn fun b hb=>by rw [hb];exact h.at_.hB.1
  exact ⟨_,rfl,rfl,m1,_,_,h.keep hlow hh.out.1 (h.ev.pairs h0),hlow,hh.out.2.2,rfl,rfl,rfl,rfl,rfl,rfl⟩
theorem clPools_ev (h:ClS W n0 m0 B P S) (hf:QcL P S) (al:Option Addr) (l:List Po) (cl:Nat) (hl:∀ U,Below n0 W U→Qiu U al l cl) (hll:l.length≤9223372036854775807) :
  Calls prog 12 #[.pointer (some ⟨B,0,none⟩),.slice al l.length cl] W (StEnd3 W n0 B S):=by
 have hn:n0≤W.heap.size:=by have:=h.at_.hB;have:=h.at_.m0;omega
 have hx:∀ b,b=B→n0≤b:=fun b hb=>by rw [hb];exact h.at_.hB.1
 refine (clPools_any h.at_ hf al l cl (fun U hU=>hl U (hU.below hn hx)) hll).mono ?_
 rintro e w' (⟨h0,rfl,hb⟩ | ⟨h0,rfl,m1,pa,pc,Q,hQ,hh⟩)
 ·exact ⟨_,rfl,by rw [Qaf h0];rfl,m0,P,S,h.below hb,hb.mono hn,hf,rfl,rfl,rfl,rfl,rfl,rfl⟩
 ·have hlow:Below n0 W w':=hh.out.2.1.below hn hx;exact ⟨_,rfl,rfl,m1,_,_,h.keep hlow hh.out.1 (h.ev.pools (by rw [psBad_same hQ];exact h0)),hlow,hh.out.2.2,rfl,rfl,rfl,rfl,rfl,rfl⟩
end
end
section
open Go.RowKit Go.Lib Go.Proofs.Tryz
theorem insU:∀ (R:List PuK) (x:PuK),Qfn R→x ∉ R→∃ Q,Q.Perm (x :: R)∧Qfn Q
 | [],x,_,_=>⟨[x],.refl _,List.pairwise_singleton _ _⟩
 | y :: R,x,h,hx=>by
  obtain ⟨h1,h2⟩:=List.pairwise_cons.1 h;have hxy:x≠y:=fun e=>hx (by rw [e];exact List.mem_cons_self ..)
  by_cases hlt:cmpU x y<0
  ·refine ⟨x :: y :: R,.refl _,List.pairwise_cons.2 ⟨fun z hz=>?_,h⟩⟩
   rcases List.mem_cons.1 hz with rfl | hz
   ·exact hlt
   ·exact Qc2 hlt (h1 z hz)
  ·have hgt:=Qeq hlt hxy;obtain ⟨Q,q1,q2⟩:=insU R x h2 (fun hm=>hx (List.mem_cons_of_mem _ hm))
   refine ⟨y :: Q,(q1.cons y).trans (.swap ..),List.pairwise_cons.2 ⟨fun z hz=>?_,q2⟩⟩
   rcases List.mem_cons.1 (q1.mem_iff.1 hz) with rfl | hz
   ·exact hgt
   ·exact h1 z hz
theorem srt_ex:∀ L:List PuK,L.Nodup→∃ R,R.Perm L∧Qfn R
 | [],_=>⟨[],.refl _,.nil⟩
 | x :: L,h=>by
  obtain ⟨h1,h2⟩:=List.nodup_cons.1 h;obtain ⟨R,r1,r2⟩:=srt_ex L h2;obtain ⟨Q,q1,q2⟩:=insU R x r2 (fun hm=>h1 (r1.mem_iff.1 hm))
  exact ⟨Q,q1.trans (r1.cons x),q2⟩
theorem pus_nodup (c:List Ac) (R:List Bl):(Qa1 c R).Nodup:=(Qh9 c R).nodup
theorem srt_perm (c:List Ac) (R:List Bl):(QcD (Qa1 c R)).Perm (Qa1 c R):=by
 obtain ⟨Q,q1,q2⟩:=srt_ex _ (pus_nodup c R);rw [srtU_of q1 q2];exact q1
def epBl (x:Ep):List Bl:=x.lns.map fun n=>⟨x.ent,n.acc,n.cur,n.amt⟩
def Qgf (pe:Int) (M:List Ep):List Bl:=(M.filter fun x=>decide (x.per≤pe)).flatMap epBl
theorem Qgi (pe:Int):∀ L:List Je,QaS (Qat pe) L=Qgf pe (L.map Je.ep)
 | []=>rfl
 | x :: L=>by
  have ih:=Qgi pe L;unfold QaS at ih;unfold Qgf at ih;unfold QaS Qgf;rw [List.map_cons,List.filter_cons,List.filter_cons]
  cases hp:Qat pe x with
  | true=>
   have hp2:decide (x.ep.per≤pe)=true:=hp;rw [if_pos rfl,if_pos hp2,List.flatMap_cons,List.flatMap_cons,ih];rfl
  | false=>
   have hp2:¬ decide (x.ep.per≤pe)=true:=by
    show ¬ Qat pe x=true;rw [hp];decide
   rw [if_neg (by decide),if_neg hp2]
   exact ih
theorem QdV (pe:Int) (M N:List Ep):Qgf pe (M++N)=Qgf pe M++Qgf pe N:=by
 unfold Qgf;rw [List.filter_append,List.flatMap_append]
theorem flatE_rn (pe:Int) (n:Nat) (M:List Ep):∀ k,k≤M.length→Qgf pe (rnE n M k)=Qgf pe (M.take k)
 | 0,_=>by simp [rnE]
 | k+1,hk=>by
  have e:M.take (k+1)=M.take k++[M.getD k ep0]:=by
   rw [List.take_add_one,List.getElem?_eq_getElem (by omega),List.getD_eq_getElem?_getD,List.getElem?_eq_getElem (by omega)]
   rfl
  rw [rnE,e,QdV,QdV,flatE_rn pe n M k (by omega)]
  congr 1;unfold Qgf;rw [List.filter_cons,List.filter_cons]
  split <;> rfl
theorem flat_adv {pe:Int} {S:List Je} {es:List Je} {M:List Ep} (h:es.map Je.ep=S.map Je.ep++rnE S.length M M.length):QaS (Qat pe) es=QaS (Qat pe) S++Qgf pe M:=by
 rw [Qgi,h,QdV,← Qgi,flatE_rn _ _ _ _ (Nat.le_refl _),List.take_length]
theorem ltot_ng (q:Pk) (k:PuK):∀ l:List Bl,(∀ y∈l,y.ent=k.1)→ltot q ((ngL l).map fun n=>⟨k.1,n.acc,n.cur,n.amt⟩) = -ltot q l
 | [],_=>rfl
 | x :: l,h=>by
  have ih:=ltot_ng q k l (fun y hy=>h y (by simp [hy]))
  have hx:=h x (by simp)
  have e:ngL (x :: l)=⟨x.acc,x.cur,-x.amt⟩ :: ngL l:=rfl;rw [e,List.map_cons,ltot,ltot,ih];have e2:Bl.key ⟨k.1,x.acc,x.cur,-x.amt⟩=x.key:=by unfold Bl.key;rw [hx]
  rw [e2]
  split
  ·show -x.amt+_=_;omega
  ·omega
theorem ltot_cl {c:List Ac} {kept:ByteArray} {pe:Int} {R:List Bl} {q:Pk} (hq:q.2.1≠kept) (k:PuK):ltot q (epBl (clE c kept pe R k)) = -ltot q (QbT c R k):=by
 have h1:∀ y∈QbT c R k,y.ent=k.1:=fun y hy=>by
  obtain ⟨_,_,e⟩:=bsOf_mem hy;rw [← e];rfl
 show ltot q ((cgL kept (QbT c R k)).map fun n=>⟨k.1,n.acc,n.cur,n.amt⟩)=_
 unfold cgL;rw [List.map_append,QcG,ltot_ng q k _ h1];have h2:ltot q ((if Qeh (QbT c R k)=0 then ([]:List Ln) else [⟨kept,((QbT c R k).getD 0 bl0).cur,Qeh (QbT c R k)⟩]).map fun n=>(⟨k.1,n.acc,n.cur,n.amt⟩:Bl))=0:=by
  split
  ·rfl
  ·refine Qdf q _ fun x hx e=>?_
   rw [List.map_singleton,List.mem_singleton] at hx;subst hx;exact hq (by rw [← e];rfl)
 omega
theorem Qie (q:Pk) (f:Bl→Bool):∀ l:List Bl,(∀ y∈l,y.key=q→f y=true)→ltot q (l.filter f)=ltot q l
 | [],_=>rfl
 | x :: l,h=>by
  have ih:=Qie q f l (fun y hy=>h y (by simp [hy]))
  rw [List.filter_cons]
  split
  ·rw [ltot,ltot,ih]
  ·rename_i hf;rw [ltot,ih,if_neg (fun e=>hf (h x (by simp) e))]
   omega
theorem ltot_out (q:Pk) (l:List Bl) (f:Bl→Bool) (h:∀ y∈l,y.key=q→f y=false):ltot q (l.filter f)=0:=Qdf q _ fun x hx e=>by
 obtain ⟨h1,h2⟩:=List.mem_filter.1 hx;rw [h x h1 e] at h2;cases h2
open Classical in
theorem ltot_pus {c:List Ac} {kept:ByteArray} {pe:Int} {R:List Bl} {q:Pk} (hk:q.2.1≠kept) (he:(kOf c q.2.1 == 4 || kOf c q.2.1 == 5)=true) :
  ∀ Ks:List PuK,Ks.Nodup→ltot q ((Ks.map (clE c kept pe R)).flatMap epBl)=if (q.1,q.2.2)∈Ks then -ltot q R else 0
 | [],_=>by rw [if_neg (by simp)];rfl
 | k :: Ks,h=>by
  obtain ⟨n1,n2⟩:=List.nodup_cons.1 h;have ih:=ltot_pus (kept:=kept) (pe:=pe) (R:=R) hk he Ks n2;have hin:∀ y∈R,y.key=q→Qa6 c y=true∧y.pur=(q.1,q.2.2):=fun y _ e=>by
   rw [← e];refine ⟨?_,rfl⟩;rw [← e] at he;exact he
  rw [List.map_cons,List.flatMap_cons,QcG,ih,ltot_cl hk];have hb:ltot q (QbT c R k)=if k=(q.1,q.2.2) then ltot q R else 0:=by
   unfold QbT
   split
   ·rename_i e;rw [Qie q _ _ (fun y hy ey=>by
     rw [List.mem_filter] at hy;rw [(hin y hy.1 ey).2,e];simp)]
    exact Qie q _ _ fun y hy ey=>(hin y hy ey).1
   ·rename_i e;refine ltot_out q _ _ fun y hy ey=>?_
    rw [List.mem_filter] at hy;rw [(hin y hy.1 ey).2];exact decide_eq_false (fun e2=>e e2.symm)
  rw [hb];by_cases e:k=(q.1,q.2.2)
  ·have m1:(q.1,q.2.2)∈k :: Ks:=by rw [e];exact List.mem_cons_self ..
   have m2:¬ (q.1,q.2.2)∈Ks:=by rw [← e];exact n1
   rw [if_pos e,if_pos m1,if_neg m2];omega
  ·rw [if_neg e];by_cases e2:(q.1,q.2.2)∈Ks
   ·rw [if_pos e2,if_pos (List.mem_cons_of_mem _ e2)];omega
   ·have m1:¬ (q.1,q.2.2)∈k :: Ks:=fun hm=>by
     rcases List.mem_cons.1 hm with hm | hm
     ·exact e hm.symm
     ·exact e2 hm
    rw [if_neg e2,if_neg m1];omega
theorem cl_empty {c:List Ac} {kept:ByteArray} {pe:Int} {S es:List Je} {R Q:List Bl} (hkept:kOf c kept=3) (hR:OeR (Qat pe) S R) (hes:es.map Je.ep=S.map Je.ep++rnE S.length (QeU c kept pe R) (QeU c kept pe R).length) (hQ:OeR (Qat pe) es Q) :
  ∀ y∈Q,Qa6 c y=false:=fun y hy=>by
 cases he:Qa6 c y with
 | false=>rfl
 | true=>
  exfalso;have he2:(kOf c y.key.2.1 == 4 || kOf c y.key.2.1 == 5)=true:=he;have hk:y.key.2.1≠kept:=fun e=>by
   rw [e,hkept] at he2;exact absurd he2 (by decide)
  have h1:=Qcg hQ.sums.rises y hy;have h2:=hQ.sums.ne y hy;rw [← h1,hQ.sums.ltot,flat_adv hes,QcG,← hR.sums.ltot] at h2;have h3:Qgf pe (QeU c kept pe R)=((QcD (Qa1 c R)).map (clE c kept pe R)).flatMap epBl:=by
   unfold Qgf QeU;rw [List.filter_eq_self.2];intro x hx;obtain ⟨k,_,rfl⟩:=List.mem_map.1 hx;exact decide_eq_true (Int.le_refl _)
  rw [h3,ltot_pus hk he2 _ ((srt_perm c R).nodup_iff.2 (pus_nodup c R))] at h2;split at h2
  ·omega
  ·rename_i hn
   have:ltot y.key R=0:=Qdf _ _ fun x hx e=>hn ((srt_perm c R).mem_iff.2 (by
    have hp:x.pur=(y.key.1,y.key.2.2):=by rw [← e];rfl
    rw [← hp];refine (Qh9 c R).all x (List.mem_filter.2 ⟨hx,?_⟩);rw [← e] at he2;exact he2))
   omega
theorem kOf_idx:∀ (c:List Ac) (s:ByteArray) (k:Nat),k<c.length→(∀ j,j<k→(c.getD j ac0).code≠s)→(c.getD k ac0).code=s→kOf c s=(c.getD k ac0).kind
 | [],_,_,h,_,_=>by simp at h
 | x :: c,s,0,_,_,e=>by
  unfold kOf;rw [if_pos (by simpa using e.symm)]
  simp
 | x :: c,s,k+1,h,h0,e=>by
  unfold kOf;rw [if_neg (fun e2=>h0 0 (by omega) (by simpa using e2.symm))]
  have:=kOf_idx c s k (by simpa using h) (fun j hj=>by have:=h0 (j+1) (by omega);simpa using this) (by simpa using e)
  simpa using this
end
section
open Go.RowKit Go.Lib Go.Proofs.Tryz
def sEUR:ByteArray:=⟨#[69,85,82]⟩
def s10:ByteArray:=⟨#[49,48]⟩
def s40:ByteArray:=⟨#[52,48]⟩
def fLn:List Ln:=[⟨⟨#[49,48]⟩,⟨#[69,85,82]⟩,5⟩,⟨⟨#[52,48]⟩,⟨#[69,85,82]⟩,-5⟩]
def fE:Ep:=⟨⟨#[97]⟩,1,1,fLn⟩
def fR:List Bl:=[⟨1,s10,sEUR,5⟩,⟨1,s40,sEUR,-5⟩]
def fLn2:List Ln:=[⟨⟨#[52,48]⟩,⟨#[69,85,82]⟩,5⟩,⟨⟨#[51,48]⟩,⟨#[69,85,82]⟩,-5⟩]
def fE2:Ep:=⟨QfY 1,1,1,fLn2⟩
def FS (c:List Ac) (es:List Je) (st:List (Int×Int)):Cs:=⟨c,Qfk [],⟨#[69,85,82]⟩,⟨#[52,48]⟩,⟨#[51,48]⟩,[],[],[],es,st⟩
structure FactC (c:List Ac):Prop where
 nw:nwBad c [] ⟨#[69,85,82]⟩ ⟨#[52,48]⟩ ⟨#[51,48]⟩=0
 ent:QaL c ⟨#[97]⟩ 1 1 fLn=0
 b1:Qd7 (FS c [] []) fR 1 1 0=0
 b2:Qd7 (FS c [] []) fR 1 2 0=0
 b3:Qd7 (FS c [] []) fR 1 3 0=0
 b4:Qd7 (FS c [] []) fR 1 4 0=0
 t1:QeB (FS c [] []) fR 1 1 []=[]
 t2:QeB (FS c [] []) fR 1 2 []=[]
 t3:QeB (FS c [] []) fR 1 3 []=[]
 t4:QeB (FS c [] []) fR 1 4 []=[]
 er:erE c fR=0
 pus:Qa1 c fR=[(1,sEUR)]
 bs:QbT c fR (1,sEUR)=[⟨1,s40,sEUR,-5⟩]
theorem fR_fine:Fine fR:=QfC.1 (by kernel_rfl)
theorem oeE_ep (pe:Int) {L M:List Je} (h:L.map Je.ep=M.map Je.ep):oeE (Qat pe) L=oeE (Qat pe) M:=by
 have h1:QaS (Qat pe) L=QaS (Qat pe) M:=by rw [Qgi,Qgi,h]
 have h2:ceE L=ceE M:=by
  have hl:L.length=M.length:=by simpa using congrArg List.length h
  have ha:∀ N:List Je,N.any (fun x=>x.lns.any QbW)=(N.map Je.ep).any (fun x=>x.lns.any QbW):=fun N=>by rw [List.any_map];rfl
  unfold ceE;rw [hl,ha L,ha M,h]
 unfold oeE;rw [h1,h2]
def fJ:Je:=⟨⟨#[97]⟩,1,1,none,0,fLn⟩
theorem fact_oe {es:List Je} (h:es.map Je.ep=[fE]):oeE (Qat 1) es=0:=by
 rw [oeE_ep 1 (M:=[fJ]) (by rw [h];rfl)]
 kernel_rfl
theorem fact_flat {es:List Je} (h:es.map Je.ep=[fE]):QaS (Qat 1) es=fR:=by
 rw [Qgi,h]
 kernel_rfl
theorem fact_R {es:List Je} (h:es.map Je.ep=[fE]) {R:List Bl} (hR:OeR (Qat 1) es R):R=fR:=
 hR.sums.uniq fR_fine.sums fun k=>by rw [fact_flat h]
section
variable {c:List Ac}
theorem fact_srt (hF:FactC c):QcD (Qa1 c fR)=[(1,sEUR)]:=by
 rw [hF.pus];exact srtU_of (.refl _) (List.pairwise_singleton _ _)
theorem fact_clBad (hF:FactC c):QcY c fR=0:=by
 unfold QcY;rw [hF.er,fact_srt hF];show Qac (fun i=>cgE (QbT c fR ([(1,sEUR)].getD i pu0))) 1=0
 have h0:cgE (QbT c fR (1,sEUR))=0:=by rw [hF.bs];rfl
 unfold Qac;simp only [Qac,List.getD_cons_zero,h0];rfl
theorem fact_clTo (hF:FactC c):QeU c ⟨#[51,48]⟩ 1 fR=[⟨ByteArray.empty,1,1,fLn2⟩]:=by
 unfold QeU;rw [fact_srt hF,List.map_singleton];unfold clE;rw [hF.bs];rfl
theorem fact_bg (hF:FactC c) (es:List Je) (st:List (Int×Int)) (z:Int) (ze:List Ep) {i:Int} (h0:0≤i) (h5:i<5):Qd7 (FS c es st) fR 1 (i+1) z=0∧QeB (FS c es st) fR 1 (i+1) ze=[]:=by
 rcases (by omega:i=0∨i=1∨i=2∨i=3∨i=4) with rfl | rfl | rfl | rfl | rfl
 ·exact ⟨hF.b1,hF.t1⟩
 ·exact ⟨hF.b2,hF.t2⟩
 ·exact ⟨hF.b3,hF.t3⟩
 ·exact ⟨hF.b4,hF.t4⟩
 ·exact ⟨rfl,rfl⟩
theorem fact_pre {es:List Je} {st:List (Int×Int)} {i:Int} (he:es.map Je.ep=[fE]) (hi:QaU st 1=i) (h5:i<6):QcV (FS c es st) 1=0:=by
 unfold QcV;rw [if_neg (by decide),if_neg (by show ¬ QaU st 1=6;omega),if_neg (by show ¬ true=false;decide)]
 exact fact_oe he
variable {W:World} {n0 m0 B:Nat} {P:Cp}
theorem fact_adv (hF:FactC c) {es:List Je} {st:List (Int×Int)} {i:Int} (he:es.map Je.ep=[fE]) (h:ClS W n0 m0 B P (FS c es st)) (hi:QaU st 1=i) (h5:i<5) :
  Calls prog 8 #[.pointer (some ⟨B,0,none⟩),.int .i64 1] W fun e w'=>e=.returned (.tuple #[.int .i64 0,.nilIface])∧∃ m P' es' st',Hid (ClS w' n0 m B P' (FS c es' st')∧es'.map Je.ep=[fE]∧QaU st' 1=i+1∧Below n0 W w'):=by
 have h0:0≤i:=by have:=(h.ev.ok.sg 1).1;rw [← hi];exact this
 have hi':QaU (FS c es st).st 1=i:=hi;have hlen:(FS c es st).es.length=1:=by have:=congrArg List.length he;rw [List.length_map] at this;exact this
 refine (Qd3 h 1).mono ?_;rintro e w' (⟨z,hz,rfl,hh,_⟩ | ⟨n,es',ea,ec,R,rfl,hh⟩)
 ·exfalso;rcases hh with hh | ⟨_,R,hR,hh⟩
  ·rw [fact_pre he hi (by omega)] at hh
   exact hz hh.symm
  ·have eR:=fact_R he hR;subst eR;unfold Qd2 at hh;rw [hi'] at hh;obtain ⟨q1,q2⟩:=fact_bg hF es st (QcY (FS c es st).c fR) (QeU (FS c es st).c (FS c es st).kept 1 fR) h0 h5;rw [q1,q2,if_neg (by simp),hlen,if_neg (by simp)] at hh
   exact hz hh.symm
 ·obtain ⟨g1,⟨g2,_⟩,_,gR,_,gn,_,ge⟩:=hh.out;have eR:=fact_R he gR;subst eR;obtain ⟨q1,q2⟩:=fact_bg hF es st (QcY (FS c es st).c fR) (QeU (FS c es st).c (FS c es st).kept 1 fR) h0 h5;rw [hi',q2] at ge;have ge2:es'.map Je.ep=[fE]:=by rw [ge];show es.map Je.ep++[]=_;rw [List.append_nil];exact he
  have hn:n=0:=by
   have:=congrArg List.length ge2
   rw [List.length_map] at this;have e2:[fE].length=1:=rfl;omega
  subst hn;refine ⟨rfl,m0,{ P with ea:=ea,ec:=ec },es',Qcw st 1 (i+1),?_,ge2,?_,g2⟩
  ·have e3:(QaU (FS c es st).st 1+1)=i+1:=by rw [hi']
   rw [e3] at g1;exact g1
  ·rw [Qes,if_pos rfl]
theorem fact_last (hF:FactC c) {es:List Je} {st:List (Int×Int)} (he:es.map Je.ep=[fE]) (h:ClS W n0 m0 B P (FS c es st)) (hi:QaU st 1=5) :
  Calls prog 8 #[.pointer (some ⟨B,0,none⟩),.int .i64 1] W fun e w'=>e=.returned (.tuple #[.int .i64 1,.nilIface])∧∃ m P' es' st',Hid (ClS w' n0 m B P' (FS c es' st')∧es'.map Je.ep=[fE,fE2]∧QaU st' 1=6∧Below n0 W w'):=by
 have hi':QaU (FS c es st).st 1=5:=hi;have hlen:(FS c es st).es.length=1:=by have:=congrArg List.length he;rw [List.length_map] at this;exact this
 have q1:∀ z,Qd7 (FS c es st) fR 1 (5+1) z=z:=fun z=>rfl
 have q2:∀ z,QeB (FS c es st) fR 1 (5+1) z=z:=fun z=>rfl
 have q3:QcY (FS c es st).c fR=0:=fact_clBad hF;have q4:QeU (FS c es st).c (FS c es st).kept 1 fR=[⟨ByteArray.empty,1,1,fLn2⟩]:=fact_clTo hF;refine (Qd3 h 1).mono ?_;rintro e w' (⟨z,hz,rfl,hh,_⟩ | ⟨n,es',ea,ec,R,rfl,hh⟩)
 ·exfalso;rcases hh with hh | ⟨_,R,hR,hh⟩
  ·rw [fact_pre he hi (by omega)] at hh
   exact hz hh.symm
  ·have eR:=fact_R he hR;subst eR;unfold Qd2 at hh;rw [hi',q1,q2,q3,q4,if_neg (by simp),hlen,if_neg (by simp)] at hh
   exact hz hh.symm
 ·obtain ⟨g1,⟨g2,_⟩,_,gR,_,gn,_,ge⟩:=hh.out;have eR:=fact_R he gR;subst eR;rw [hi',q2,q4,hlen] at ge;have ge2:es'.map Je.ep=[fE,fE2]:=by
   rw [ge];show es.map Je.ep++rnE 1 [⟨ByteArray.empty,1,1,fLn2⟩] 1=_;rw [he];rfl
  have hn:n=1:=by
   have:=congrArg List.length ge2
   rw [List.length_map] at this;have e2:[fE,fE2].length=2:=rfl;omega
  subst hn;refine ⟨rfl,m0,{ P with ea:=ea,ec:=ec },es',Qcw st 1 6,?_,ge2,?_,g2⟩
  ·have e3:(QaU (FS c es st).st 1+1)=6:=by rw [hi'];rfl
   rw [e3] at g1;exact g1
  ·rw [Qes,if_pos rfl]
theorem fact_post (hF:FactC c) (h:ClS W n0 m0 B P (FS c [] [])) (a:Option Addr) (cap:Nat) (hl:Qc0 W a fLn cap) :
  Calls prog 6 #[.pointer (some ⟨B,0,none⟩),.agg #[.string ⟨#[97]⟩,.int .i64 1,.int .i64 1,.slice a 2 cap]] W fun e w'=>e=.returned (.tuple #[.int .i64 0,.nilIface])∧∃ m P' es' st',Hid (ClS w' n0 m B P' (FS c es' st')∧es'.map Je.ep=[fE]∧QaU st' 1=0∧Below n0 W w'):=by
 have h0:psB (FS c [] []) ⟨#[97]⟩ 1 1 fLn=0:=by
  unfold psB;have e:QaL (FS c [] []).c ⟨#[97]⟩ 1 1 fLn=0:=hF.ent;rw [e];rfl
 refine (QhN h ⟨#[97]⟩ 1 1 a cap fLn hl).mono ?_;rintro e w' (⟨hn,_⟩ | ⟨_,rfl,ea,ec,a',c',hh⟩)
 ·exact absurd h0 hn
 ·exact ⟨rfl,m0,{ P with ea:=ea,ec:=ec },[⟨⟨#[97]⟩,1,1,a',c',fLn⟩],[],hh.out.1,rfl,rfl,hh.out.2⟩
end
end
section
open Go.RowKit Go.Lib Go.Proofs.Tryz
theorem QdW {p:Je→Bool} {q:Ep→Bool} (hp:∀ x,p x=q x.ep):∀ L:List Je,QaS p L=((L.map Je.ep).filter q).flatMap epBl
 | []=>rfl
 | x :: L=>by
  have ih:=QdW hp L;unfold QaS at ih;unfold QaS;rw [List.map_cons,List.filter_cons,List.filter_cons,hp]
  cases hq:q x.ep with
  | true=>
   rw [if_pos rfl,if_pos rfl,List.flatMap_cons,List.flatMap_cons,ih];rfl
  | false=>
   rw [if_neg (by decide),if_neg (by decide)]
   exact ih
theorem oeE_eps {p:Je→Bool} {q:Ep→Bool} (hp:∀ x,p x=q x.ep) {L M:List Je} (h:L.map Je.ep=M.map Je.ep):oeE p L=oeE p M:=by
 have h1:QaS p L=QaS p M:=by rw [QdW hp,QdW hp,h]
 have h2:ceE L=ceE M:=by
  have hl:L.length=M.length:=by simpa using congrArg List.length h
  have ha:∀ N:List Je,N.any (fun x=>x.lns.any QbW)=(N.map Je.ep).any (fun x=>x.lns.any QbW):=fun N=>by rw [List.any_map];rfl
  unfold ceE;rw [hl,ha L,ha M,h]
 unfold oeE;rw [h1,h2]
theorem oeR_eps {p:Je→Bool} {q:Ep→Bool} (hp:∀ x,p x=q x.ep) {L M:List Je} (h:L.map Je.ep=M.map Je.ep) {R Q:List Bl} (h1:OeR p L R) (h2:OeR p M Q):R=Q:=
 h1.sums.uniq h2.sums fun k=>by rw [QdW hp,QdW hp,h]
def qBoth (en pe:Int) (x:Ep):Bool:=decide (x.ent=en∧x.per=pe)
theorem ep_in {L M:List Je} (h:L.map Je.ep=M.map Je.ep) {x:Je} (hx:x∈L):∃ y∈M,y.ent=x.ent∧y.per=x.per∧y.lns=x.lns:=by
 have hx2:x.ep∈M.map Je.ep:=by rw [← h];exact List.mem_map_of_mem hx
 obtain ⟨y,hy,e⟩:=List.mem_map.1 hx2;unfold Je.ep at e;rw [Ep.mk.injEq] at e;exact ⟨y,hy,e.2.1,e.2.2.1,e.2.2.2⟩
theorem ClEv.even_of {S:Cs} (h:ClEv S) {L:List Je} (e:L.map Je.ep=S.es.map Je.ep):∀ x∈L,0<x.lns.length∧x.lns.length≤20∧QaA Qao x.lns∧∀ y∈Qai x.lns,y.amt=0:=fun x hx=>by
 obtain ⟨y,hy,_,_,e3⟩:=ep_in e hx;rw [← e3];exact h.ev y hy
theorem flat_eps:∀ {L M:List Je},L.map Je.ep=M.map Je.ep→(L.flatMap QiR).length=(M.flatMap QiR).length:=fun {L M} h=>by
 have key:∀ N:List Je,(N.flatMap QiR).length=((N.map Je.ep).flatMap epBl).length:=by
  intro N
  induction N with
  | nil=>rfl
  | cons x N ih=>
   rw [List.flatMap_cons,List.map_cons,List.flatMap_cons,List.length_append,List.length_append,ih];rfl
 rw [key,key,h]
theorem Qjj.js_of {S:Cs} (h:Qjj S) {L:List Je} (e:L.map Je.ep=S.es.map Je.ep):JsOk L:=by
 have j:=h.js;refine ⟨fun x hx=>?_,fun x hx=>?_,fun x hx=>?_,by rw [flat_eps e];exact j.all⟩
 ·obtain ⟨y,hy,e1,_,_⟩:=ep_in e hx;rw [← e1];exact j.ent y hy
 ·obtain ⟨y,hy,_,e2,_⟩:=ep_in e hx;rw [← e2];exact j.per y hy
 ·obtain ⟨y,hy,_,_,e3⟩:=ep_in e hx;rw [← e3];exact j.lns y hy
theorem eps_len {L M:List Je} (h:L.map Je.ep=M.map Je.ep):L.length=M.length:=by simpa using congrArg List.length h
theorem bal_kind {c:List Ac} (hc:Qaw c=0) {s:ByteArray} (hl:Qaa c s=0) (he:(kOf c s == 4 || kOf c s == 5)=false):∃ j,j<c.length∧QcO (Qah s) c=(j:Int)∧(c.getD j ac0).kind≤3:=by
 have h0:0≤QcO (Qah s) c:=by
  unfold Qaa at hl;split at hl
  ·omega
  ·omega
 obtain ⟨j,hj,e,h1,h2⟩:=QdH h0;refine ⟨j,hj,e,?_⟩;have hk:=kOf_idx c s j hj (fun i hi e2=>by
  have:=h2 i hi
  unfold Qah at this;rw [e2] at this;simp at this) (of_decide_eq_true h1)
 obtain ⟨_,_,_,k5,_⟩:=QcQ (Qer hc j hj);rw [hk] at he;rw [Bool.or_eq_false_iff] at he;have a4:=he.1;have a5:=he.2;rw [beq_eq_false_iff_ne] at a4 a5;omega
theorem chart_sizes {c:List Ac} (hc:Qaw c=0):∀ k,k<c.length→(c.getD k ac0).code.size≤maxLen∧(c.getD k ac0).name.size≤maxLen:=fun k hk=>by
 obtain ⟨h1,h2,_⟩:=QcQ (Qer hc k hk);have h3:=code_six hc hk;refine ⟨by unfold maxLen;omega,?_⟩
 unfold Qdj Qbu at h2;simp only [Bool.and_eq_true,decide_eq_true_eq] at h2;unfold maxLen;omega
section
variable {w W:World} {n0 B:Nat} {c:List Ac} {pe i:Int}
def Gs (w:World) (n0 B:Nat) (c:List Ac) (pe i:Int) (W:World):Prop:=∃ m P S,ClS W n0 m B P S∧Below w.heap.size w W∧S.c=c∧S.kept=⟨#[51,48]⟩∧QaU S.st pe=i
def GsE (w:World) (n0 B:Nat) (c:List Ac) (pe:Int) (W:World):Prop:=∃ m P S,ClS W n0 m B P S∧Below w.heap.size w W∧S.c=c∧QaU S.st pe=6∧∀ Q,OeR (Qat pe) S.es Q→∀ y∈Q,Qa6 c y=false
theorem Gs.below {U:World} (h:Gs w n0 B c pe i W) (hb:Below W.heap.size W U):Gs w n0 B c pe i U:=by
 obtain ⟨m,P,S,h1,h2,h3⟩:=h;exact ⟨m,P,S,h1.below hb,h2.trans (hb.mono h2.size),h3⟩
theorem GsE.below {U:World} (h:GsE w n0 B c pe W) (hb:Below W.heap.size W U):GsE w n0 B c pe U:=by
 obtain ⟨m,P,S,h1,h2,h3⟩:=h;exact ⟨m,P,S,h1.below hb,h2.trans (hb.mono h2.size),h3⟩
theorem Gs.lo (h:Gs w n0 B c pe i W):Below w.heap.size w W:=by obtain ⟨_,_,_,_,h,_⟩:=h;exact h
theorem GsE.lo (h:GsE w n0 B c pe W):Below w.heap.size w W:=by obtain ⟨_,_,_,_,h,_⟩:=h;exact h
theorem Gs.stage (h:Gs w n0 B c pe i W):Calls prog 10 #[.pointer (some ⟨B,0,none⟩),.int .i64 pe] W fun e w'=>e=.returned (.int .i64 i)∧w'=W:=by
 obtain ⟨m,P,S,h1,_,_,_,h3⟩:=h
 have:=Qd6 h1.at_ pe
 rw [h3] at this;exact this
theorem Gs.range (h:Gs w n0 B c pe i W):0≤i∧i≤6:=by
 obtain ⟨m,P,S,h1,_,_,_,h3⟩:=h
 have:=h1.ev.ok.sg pe
 rw [h3] at this;exact this
theorem Gs.post (hn:w.heap.size≤n0) (h:Gs w n0 B c pe i W) (r:ByteArray) (en p:Int) (a:Option Addr) (cap:Nat) (l:List Ln) (hl:Qc0 W a l cap) :
  Calls prog 6 #[.pointer (some ⟨B,0,none⟩),.agg #[.string r,.int .i64 en,.int .i64 p,.slice a l.length cap]] W fun e w'=>∃ n v,e=.returned (.tuple #[.int .i64 n,v])∧Hid (Gs w n0 B c pe i w'):=by
 obtain ⟨m,P,S,h1,h2,h3,h4,h5⟩:=h;refine (QhN h1 r en p a cap l hl).mono ?_;rintro e w' (⟨_,rfl,hh⟩ | ⟨_,rfl,ea,ec,a',c',hh⟩)
 ·exact ⟨_,_,rfl,m,P,S,hh.out.1,h2.trans (hh.out.2.mono h2.size),h3,h4,h5⟩
 ·exact ⟨_,_,rfl,m,{ P with ea:=ea,ec:=ec },_,hh.out.1,h2.trans (hh.out.2.mono hn),h3,h4,h5⟩
theorem Gs.late (h:Gs w n0 B c pe 5 W) (r:ByteArray) (en:Int) (a:Option Addr) (cap:Nat) (l:List Ln) (hl:Qc0 W a l cap) :
  Calls prog 6 #[.pointer (some ⟨B,0,none⟩),.agg #[.string r,.int .i64 en,.int .i64 pe,.slice a l.length cap]] W fun e w'=>∃ n,n≠0∧(QaL c r en pe l=0→n=7)∧(n=7∨n=QaL c r en pe l)∧e=.returned (.tuple #[.int .i64 0,.iface 68 (.int .i64 n)])∧Below W.heap.size W w':=by
 obtain ⟨m,P,S,h1,h2,h3,h4,h5⟩:=h;have hb:psB S r en pe l=if QaL c r en pe l≠0 then QaL c r en pe l else 7:=by
  unfold psB;rw [h3,h5];rfl
 refine (QhN h1 r en pe a cap l hl).mono ?_;rintro e w' (⟨h0,rfl,hh⟩ | ⟨h0,_⟩)
 ·rw [hb] at h0;refine ⟨psB S r en pe l,by rw [hb];exact h0,fun e0=>by rw [hb,if_neg (by rw [e0];decide)],?_,rfl,hh.out.2⟩
  rw [hb]
  split
  ·exact .inr rfl
  ·exact .inl rfl
 ·exfalso;rw [hb] at h0;split at h0
  ·contradiction
  ·omega
theorem Gs.adv (hn:w.heap.size≤n0) (h:Gs w n0 B c pe i W) :
  Calls prog 8 #[.pointer (some ⟨B,0,none⟩),.int .i64 pe] W fun e w'=>
   (∃ z,e=.returned (.tuple #[.int .i64 0,.iface 68 (.int .i64 z)])∧Hid (Gs w n0 B c pe i w')) ∨
   (∃ n:Nat,e=.returned (.tuple #[.int .i64 (n:Int),.nilIface])∧Hid (Gs w n0 B c pe (i+1) w')):=by
 obtain ⟨m,P,S,h1,h2,h3,h4,h5⟩:=h;refine (Qd3 h1 pe).mono ?_;rintro e w' (⟨z,_,rfl,_,hh⟩ | ⟨n,es,ea,ec,R,rfl,hh⟩)
 ·exact .inl ⟨z,rfl,m,P,S,hh.out.1,h2.trans (hh.out.2.mono h2.size),h3,h4,h5⟩
 ·refine .inr ⟨n,rfl,m,_,_,hh.out.1,h2.trans (hh.out.2.1.1.mono hn),h3,h4,?_⟩;show QaU (Qcw S.st pe (QaU S.st pe+1)) pe=i+1;rw [Qes,if_pos rfl,h5]
theorem Gs.adv6 (hn:w.heap.size≤n0) (hk:kOf c ⟨#[51,48]⟩=3) (h:Gs w n0 B c pe 5 W) :
  Calls prog 8 #[.pointer (some ⟨B,0,none⟩),.int .i64 pe] W fun e w'=>
   (∃ z,e=.returned (.tuple #[.int .i64 0,.iface 68 (.int .i64 z)])∧Hid (Gs w n0 B c pe 5 w')) ∨
   (∃ n:Nat,e=.returned (.tuple #[.int .i64 (n:Int),.nilIface])∧Hid (GsE w n0 B c pe w')):=by
 obtain ⟨m,P,S,h1,h2,h3,h4,h5⟩:=h;refine (Qd3 h1 pe).mono ?_;rintro e w' (⟨z,_,rfl,_,hh⟩ | ⟨n,es,ea,ec,R,rfl,hh⟩)
 ·exact .inl ⟨z,rfl,m,P,S,hh.out.1,h2.trans (hh.out.2.mono h2.size),h3,h4,h5⟩
 ·obtain ⟨g1,g2,_,gR,_,_,_,ge⟩:=hh.out;refine .inr ⟨n,rfl,m,_,_,g1,h2.trans (g2.1.mono hn),h3,?_,?_⟩
  ·show QaU (Qcw S.st pe (QaU S.st pe+1)) pe=6;rw [Qes,if_pos rfl,h5];rfl
  ·intro Q hQ;have e6:QeB S R pe (QaU S.st pe+1) (QeU S.c S.kept pe R)=QeU S.c S.kept pe R:=by
    rw [h5];rfl
   rw [e6] at ge;rw [← h3];exact cl_empty (kept:=S.kept) (by rw [h3,h4];exact hk) gR ge hQ
theorem GsE.adv (hp:Qar pe 120=true) (h:GsE w n0 B c pe W) :
  Calls prog 8 #[.pointer (some ⟨B,0,none⟩),.int .i64 pe] W fun e w'=>e=.returned (.tuple #[.int .i64 0,.iface 68 (.int .i64 7)])∧Below W.heap.size W w':=by
 obtain ⟨m,P,S,h1,h2,h3,h4,h5⟩:=h;have h7:QcV S pe=7:=by
  unfold QcV;rw [if_neg (by rw [hp];decide),if_pos h4]
 refine (Qd3 h1 pe).mono ?_;rintro e w' (⟨z,_,rfl,hz,hh⟩ | ⟨n,es,ea,ec,R,rfl,hh⟩)
 ·rcases hz with hz | ⟨hz,_⟩
  ·rw [h7] at hz;subst hz;exact ⟨rfl,hh.out.2⟩
  ·omega
 ·have:=hh.out.2.2.1
  omega
theorem Gs.ents (h:Gs w n0 B c pe i W):∃ M:List Je,∀ U,Below W.heap.size W U →
  Calls prog 9 #[.pointer (some ⟨B,0,none⟩)] U fun e w'=>∃ a q L,e=.returned (.slice a L.length q)∧Hid (QdF w' a L q∧L.map Je.ep=M.map Je.ep∧L.length≤200∧JsOk L∧(∀ x∈L,0<x.lns.length∧x.lns.length≤20∧QaA Qao x.lns∧∀ y∈Qai x.lns,y.amt=0)∧Below U.heap.size U w'):=by
 obtain ⟨m,P,S,h1,h2,h3,h4,h5⟩:=h;refine ⟨S.es,fun U hU=>(QdN (h1.below hU)).mono ?_⟩
 rintro e w' ⟨a,q,L,rfl,hh⟩;obtain ⟨av,cv,ev,js⟩:=hh.out.1.isJs;cases ev;have he:=hh.out.2.1;exact ⟨a,q,L,rfl,js,he,by rw [eps_len he];exact h1.ev.ok.len,h1.ev.ok.js_of he,h1.ev.even_of he,hh.out.2.2.1⟩
theorem GsE.ents (h:GsE w n0 B c pe W):∃ M:List Je,∀ U,Below W.heap.size W U →
  Calls prog 9 #[.pointer (some ⟨B,0,none⟩)] U fun e w'=>∃ a q L,e=.returned (.slice a L.length q)∧Hid (QdF w' a L q∧L.map Je.ep=M.map Je.ep∧L.length≤200∧(∀ x∈L,0<x.lns.length∧x.lns.length≤20∧QaA Qao x.lns∧∀ y∈Qai x.lns,y.amt=0)∧Below U.heap.size U w'):=by
 obtain ⟨m,P,S,h1,h2,h3,h4,h5⟩:=h;refine ⟨S.es,fun U hU=>(QdN (h1.below hU)).mono ?_⟩
 rintro e w' ⟨a,q,L,rfl,hh⟩;obtain ⟨av,cv,ev,js⟩:=hh.out.1.isJs;cases ev;have he:=hh.out.2.1;exact ⟨a,q,L,rfl,js,he,by rw [eps_len he];exact h1.ev.ok.len,h1.ev.even_of he,hh.out.2.2.1⟩
theorem GsE.bals (h:GsE w n0 B c pe W) :
  Calls prog 19 #[.pointer (some ⟨B,0,none⟩),.int .i64 pe] W fun e w'=>
   (∃ v z,e=.returned (.tuple #[v,.iface 68 (.int .i64 z)])∧v=.slice none 0 0∧Hid (Below W.heap.size W w')) ∨
   (∃ a q R,e=.returned (.tuple #[.slice a R.length q,.nilIface])∧Hid (Qcy w' a R q∧R.length≤200∧(∀ y∈R,∃ j,j<c.length∧QcO (Qah y.acc) c=(j:Int)∧(c.getD j ac0).kind≤3)∧Below W.heap.size W w')):=by
 obtain ⟨m,P,S,h1,h2,h3,h4,h5⟩:=h;refine (clBal_any h1.at_ h1.ev.ok pe).mono ?_;rintro e w' (⟨h0,rfl,hb⟩ | ⟨h0,a,q,R,rfl,hR⟩)
 ·exact .inl ⟨_,_,rfl,rfl,hb⟩
 ·refine .inr ⟨a,q,R,rfl,hR.out.2.1,hR.out.2.2.len,fun y hy=>?_,hR.out.1⟩
  have hl:=(oeR_leaf h1.ev.ok hR.out.2.2 hy).1;rw [h3] at hl;exact bal_kind (by rw [← h3];exact h1.ev.ok.c) hl (h5 R hR.out.2.2 y hy)
end
end
section
open Go.RowKit Go.Proofs.Tryz
theorem line_struct:prog.underlying 44=some (.struct (prog.fieldsOf 44)):=by kernel_rfl
theorem line_stood:prog.stoodInHeld 44=false:=by kernel_rfl
theorem line_same (x0 x1:ByteArray) (x2:Int) (W:World):(binOp .neq 44 (.agg #[.string x0,.string x1,.int .i64 x2]) (.agg #[.string x0,.string x1,.int .i64 x2])).run prog W=.ok (.bool false) W:=by
 rw [run_neq_struct,show (10000:Nat)=9998+1+1 from rfl,run_equalIn_agg W (9998+1) 44 _ _ line_struct line_stood]
 unfold Program.fieldsOf;rw [underlying44];simp [Op.eqFields,part,go_sem,run_equalIn_string W 9998 9 _ _ underlying9,run_equalIn_int W 9998 3 .i64 .i64 _ _ underlying3,Tryz.isAgg9,Tryz.isAgg3]
set_option maxHeartbeats 1000000 in
theorem sameLines_any (a1 a2:Option Addr) (c1 c2:Nat) (l:List Ln) (w:World) (hlen:l.length≤1000) (h1:Qc0 w a1 l c1) (h2:Qc0 w a2 l c2) :
  Calls prog 98 #[.slice a1 l.length c1,.slice a2 l.length c2] w fun e w'=>e=.returned (.bool true)∧Below w.heap.size w w':=by
 have Hlen:(l.length:Int)≤1000:=by omega
 have H1:Hid (l=[]∨_):=h1.lies;have H2:Hid (l=[]∨_):=h2.lies;clear h1 h2;have hS:=line_same;go_enter func98,ntmps98
 go_wp2;go_loopw [5] (fun i wr=>∃ k:Nat,k≤l.length∧i=.int .i64 k∧∃ n,wr=w.drewN n) (fun i _=>l.length - (RowKit.intOf i).toNat)
 case atStart=>exact ⟨0,Nat.zero_le _,rfl,0,rfl⟩
 case round=>
  obtain ⟨k,hk,rfl,nd,rfl⟩:=hrel;by_cases hlt:k<l.length
  ·rcases H1.out with h | ⟨g1,o1,rfl,_,q1⟩
   ·rw [h] at hlt;simp at hlt
   rcases H2.out with h | ⟨g2,o2,rfl,_,q2⟩
   ·rw [h] at hlt;simp at hlt
   have d1:=q1 k hlt;have d2:=q2 k hlt;clear q1 q2 H1 H2;generalize l.getD k ln0=x at *
   obtain ⟨x0,x1,x2⟩:=x;obtain ⟨e0,e1,e2⟩:=d1;obtain ⟨f0,f1,f2⟩:=d2;simp only at e0 e1 e2 f0 f1 f2;have i0:(0:Int)≤k:=by omega
   have i1:(k:Int)<l.length:=by omega
   go_wp2_with fail;go_quiet (fail)
   go_wp2;go_roundw
   case rel=>exact ⟨k+1,by omega,by go_num,_,rfl⟩
   case measure=>simp [RowKit.intOf];omega
  ·have hk2:k=l.length:=by omega
   subst hk2;go_wp2;go_ret;exact ⟨rfl,QaF (Below.refl _ _) _⟩
set_option maxHeartbeats 1000000 in
theorem sameEntry_any (r:ByteArray) (en pe:Int) (a1 a2:Option Addr) (c1 c2:Nat) (l:List Ln) (w:World) (hlen:l.length≤1000) (h1:Qc0 w a1 l c1) (h2:Qc0 w a2 l c2) :
  Calls prog 57 #[.agg #[.string r,.int .i64 en,.int .i64 pe,.slice a1 l.length c1],.agg #[.string r,.int .i64 en,.int .i64 pe,.slice a2 l.length c2]] w fun e w'=>e=.returned (.bool true)∧Below w.heap.size w w':=by
 have b0:Below w.heap.size w ((w.alloc (.cells #[.string r,.int .i64 en,.int .i64 pe,.slice a1 l.length c1] 38)).alloc (.cells #[.string r,.int .i64 en,.int .i64 pe,.slice a2 l.length c2] 38)):=((Below.refl _ w).alloc (Nat.le_refl _) _).alloc (by simp) _
 have x1:=(Qcf.new w r en pe (.slice a1 l.length c1)).alloc (.cells #[.string r,.int .i64 en,.int .i64 pe,.slice a2 l.length c2] 38);have x2:=Qcf.new (w.alloc (.cells #[.string r,.int .i64 en,.int .i64 pe,.slice a1 l.length c1] 38)) r en pe (.slice a2 l.length c2);rw [World.size_alloc] at x2;have hs0:((w.alloc (.cells #[.string r,.int .i64 en,.int .i64 pe,.slice a1 l.length c1] 38)).alloc (.cells #[.string r,.int .i64 en,.int .i64 pe,.slice a2 l.length c2] 38)).heap.size=w.heap.size+2:=by simp
 have hL:=sameLines_any a1 a2 c1 c2 l _ hlen (h1.below b0) (h2.below b0);have HL:Hid (Calls _ _ _ _ _):=hL;clear hL h1 h2;go_enter func57,ntmps57
 go_wp2_with fail;refine HL.out.mono ?_;rintro e w1 ⟨rfl,hb1⟩;rw [hs0] at hb1;have B1:=b0.trans (hb1.mono (by omega))
 have y1:=x1.below hb1 (by omega)
 have y2:=x2.below hb1 (by omega)
 have d0:=y1.c0;have d1:=y1.c1;have d2:=y1.c2;have e0:=y2.c0;have e1:=y2.c1;have e2:=y2.c2;clear HL hb1 x1 x2 y1 y2 b0 hs0;go_wp2;go_ret;exact ⟨rfl,B1⟩
end
section
open Go.RowKit Go.Lib Go.Proofs.Tryz
theorem ep_at {L1 L2:List Je} (h:L1.map Je.ep=L2.map Je.ep) {k:Nat} (hk:k<L1.length):(L1.getD k je0).ep=(L2.getD k je0).ep:=by
 have hl:L1.length=L2.length:=by have:=congrArg List.length h;simpa using this
 have:=congrArg (fun l=>l[k]?) h
 simp only [List.getElem?_map,List.getElem?_eq_getElem hk,List.getElem?_eq_getElem (by omega:k<L2.length),Option.map_some,Option.some.injEq] at this
 rw [List.getD_eq_getElem?_getD,List.getD_eq_getElem?_getD,List.getElem?_eq_getElem hk,List.getElem?_eq_getElem (by omega:k<L2.length)]
 exact this
set_option maxHeartbeats 4000000 in
theorem QhA (a1 a2:Option Addr) (c1 c2:Nat) (L1 L2:List Je) (w:World) (hlen:L1.length≤1000) (he:L1.map Je.ep=L2.map Je.ep) (hln:∀ x∈L1,x.lns.length≤1000) (h1:QdF w a1 L1 c1) (h2:QdF w a2 L2 c2) :
  Calls prog 21 #[.slice a1 L1.length c1,.slice a2 L2.length c2] w fun e w'=>e=.returned (.bool true)∧Below w.heap.size w w':=by
 have hl:L2.length=L1.length:=by have:=congrArg List.length he;simpa using this.symm
 rw [hl];have H1:Hid (QdF w a1 L1 c1):=h1;have H2:Hid (QdF w a2 L2 c2):=h2;have HE:Hid (∀ k,k<L1.length→(L1.getD k je0).ep=(L2.getD k je0).ep∧(L1.getD k je0).lns.length≤1000):=fun k hk=>⟨ep_at he hk,hln _ (Qb4 L1 k hk)⟩
 have HL:Hid (L2.length=L1.length):=hl;have hl1:(L1.length:Int)≤1000:=by omega
 clear h1 h2 he hl hln;go_enter func21,ntmps21
 go_wp2;go_loopw [5] (fun i wr=>∃ k:Nat,k≤L1.length∧i=.int .i64 k∧Hid (Below w.heap.size w wr)) (fun i _=>L1.length - (RowKit.intOf i).toNat)
 case atStart=>exact ⟨0,Nat.zero_le _,rfl,Below.refl _ _⟩
 case round=>
  obtain ⟨k,hk,rfl,HB⟩:=hrel;by_cases hlt:k<L1.length
  ·have j1:=H1.out.below HB.out;have j2:=H2.out.below HB.out;rcases j1.lies with h0 | ⟨b1,o1,e1,hb1,hat1⟩
   ·rw [h0] at hlt;simp at hlt
   rcases j2.lies with h0 | ⟨b2,o2,e2,hb2,hat2⟩
   ·rw [← HL.out,h0] at hlt;simp at hlt
   subst e1;subst e2;have y1:=hat1 k hlt;have y2:=hat2 k (by rw [HL.out];exact hlt)
   have l1:=j1.lns _ (Qb4 L1 k hlt);have l2:=j2.lns _ (Qb4 L2 k (by rw [HL.out];exact hlt))
   obtain ⟨hee,hll⟩:=HE.out k hlt;clear hat1 hat2 j1 j2;generalize L1.getD k je0=x at *
   generalize L2.getD k je0=y at *
   obtain ⟨x0,x1,x2,x3,x4,x5⟩:=x;obtain ⟨y0,y1',y2',y3,y4,y5⟩:=y;simp only [Je.ep,Ep.mk.injEq] at hee;obtain ⟨rfl,rfl,rfl,rfl⟩:=hee;obtain ⟨d0,d1,d2,d3⟩:=y1;obtain ⟨f0,f1,f2,f3⟩:=y2;simp only at d0 d1 d2 d3 f0 f1 f2 f3 l1 l2 hll;have HS:Hid (∀ W,Below wr.heap.size wr W→Calls prog 57 #[.agg #[.string x0,.int .i64 x1,.int .i64 x2,.slice x3 x5.length x4],.agg #[.string x0,.int .i64 x1,.int .i64 x2,.slice y3 x5.length y4]] W fun e w'=>e=.returned (.bool true)∧Below w.heap.size w w'):=fun W hW=>by
    refine (sameEntry_any x0 x1 x2 x3 y3 x4 y4 x5 W hll (l1.below hW) (l2.below hW)).mono ?_;rintro e w' ⟨rfl,hb⟩;have z:=HB.out.trans (hW.mono HB.out.size);exact ⟨rfl,z.trans (hb.mono z.size)⟩
   have i0:(0:Int)≤k:=by omega
   have i1:(k:Int)<L1.length:=by omega
   clear l1 l2;go_wp2_with fail;go_region_with (go_at_call 57;refine (HS.out _ (by first | exact Below.refl _ _ | exact (Below.refl _ _).drew | exact QaF (Below.refl _ _) _)).mono ?_;rintro e w2 ⟨rfl,hb2⟩)
   all_goals
    have HB2:Hid (Below w.heap.size w w2):=hb2;clear hb2 HS d0 d1 d2 d3 f0 f1 f2 f3;go_wp2;go_roundw
    case rel=>exact ⟨k+1,by omega,by go_num,HB2⟩
    case measure=>simp [RowKit.intOf];omega
  ·have ek:k=L1.length:=by omega
   subst ek;have i1:¬ (L1.length:Int)<L1.length:=by omega
   go_wp2;go_ret;exact ⟨rfl,HB.out⟩
end
end Go.Proofs.YtbeanioeeaikkaaGreatDoor
