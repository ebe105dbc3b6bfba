/-
  Part of a proof (see the last text).
-/
import Derived.Test.YtibhgngboljhfaaGreatDoorZp34
set_option linter.unusedVariables false
set_option linter.unusedSimpArgs false
set_option maxRecDepth 100000
namespace Go.Proofs.YtibhgngboljhfaaGreatDoor
section
open Go.RowKit Go.Lib Go.Proofs.Tryz
def sEUR:ByteArray:=⟨#[69,85,82]⟩
def s10:ByteArray:=⟨#[49,48]⟩
def s40:ByteArray:=⟨#[52,48]⟩
def fLn:List Ln:=[⟨⟨#[49,48]⟩,⟨#[69,85,82]⟩,5⟩,⟨⟨#[52,48]⟩,⟨#[69,85,82]⟩,-5⟩]
def fE:Ep:=⟨⟨#[97]⟩,1,1,fLn⟩
def fR:List Bl:=[⟨1,s10,sEUR,5⟩,⟨1,s40,sEUR,-5⟩]
def fLn2:List Ln:=[⟨⟨#[52,48]⟩,⟨#[69,85,82]⟩,5⟩,⟨⟨#[51,48]⟩,⟨#[69,85,82]⟩,-5⟩]
def fE2:Ep:=⟨Qf4 1,1,1,fLn2⟩
def FS (c:List Ac) (es:List Je) (st:List (Int×Int)):Cs:=⟨c,Qfe [],⟨#[69,85,82]⟩,⟨#[52,48]⟩,⟨#[51,48]⟩,[],[],[],es,st⟩
structure FactC (c:List Ac):Prop where
 nw:nwBad c [] ⟨#[69,85,82]⟩ ⟨#[52,48]⟩ ⟨#[51,48]⟩=0
 ent:QaZ c ⟨#[97]⟩ 1 1 fLn=0
 b1:Qee (FS c [] []) fR 1 1 0=0
 b2:Qee (FS c [] []) fR 1 2 0=0
 b3:Qee (FS c [] []) fR 1 3 0=0
 b4:Qee (FS c [] []) fR 1 4 0=0
 t1:Qes (FS c [] []) fR 1 1 []=[]
 t2:Qes (FS c [] []) fR 1 2 []=[]
 t3:Qes (FS c [] []) fR 1 3 []=[]
 t4:Qes (FS c [] []) fR 1 4 []=[]
 er:erE c fR=0
 pus:Qa6 c fR=[(1,sEUR)]
 bs:QbX c fR (1,sEUR)=[⟨1,s40,sEUR,-5⟩]
theorem fR_fine:Fine fR:=Qeh.1 (by kernel_rfl)
theorem oeE_ep (pe:Int) {L M:List Je} (h:L.map Je.ep=M.map Je.ep):oeE (Qau pe) L=oeE (Qau pe) M:=by
 have h1:QaT (Qau pe) L=QaT (Qau pe) M:=by rw [Qf5,Qf5,h]
 have h2:ceE L=ceE M:=by
  have hl:L.length=M.length:=by simpa using congrArg List.length h
  have ha:∀ N:List Je,N.any (fun x=>x.lns.any Qb4)=(N.map Je.ep).any (fun x=>x.lns.any Qb4):=fun N=>by rw [List.any_map];rfl
  unfold ceE;rw [hl,ha L,ha M,h]
 unfold oeE;rw [h1,h2]
def fJ:Je:=⟨⟨#[97]⟩,1,1,none,0,fLn⟩
theorem fact_oe {es:List Je} (h:es.map Je.ep=[fE]):oeE (Qau 1) es=0:=by
 rw [oeE_ep 1 (M:=[fJ]) (by rw [h];rfl)]
 kernel_rfl
theorem fact_flat {es:List Je} (h:es.map Je.ep=[fE]):QaT (Qau 1) es=fR:=by
 rw [Qf5,h]
 kernel_rfl
theorem fact_R {es:List Je} (h:es.map Je.ep=[fE]) {R:List Bl} (hR:OeR (Qau 1) es R):R=fR:=
 hR.sums.uniq fR_fine.sums fun k=>by rw [fact_flat h]
section
variable {c:List Ac}
theorem fact_srt (hF:FactC c):QcH (Qa6 c fR)=[(1,sEUR)]:=by
 rw [hF.pus];exact srtU_of (.refl _) (List.pairwise_singleton _ _)
theorem fact_clBad (hF:FactC c):Qc1 c fR=0:=by
 unfold Qc1;rw [hF.er,fact_srt hF];show Qac (fun i=>cgE (QbX c fR ([(1,sEUR)].getD i pu0))) 1=0
 have h0:cgE (QbX c fR (1,sEUR))=0:=by rw [hF.bs];rfl
 unfold Qac;simp only [Qac,List.getD_cons_zero,h0];rfl
theorem fact_clTo (hF:FactC c):QeM c ⟨#[51,48]⟩ 1 fR=[⟨ByteArray.empty,1,1,fLn2⟩]:=by
 unfold QeM;rw [fact_srt hF,List.map_singleton];unfold clE;rw [hF.bs];rfl
theorem fact_bg (hF:FactC c) (es:List Je) (st:List (Int×Int)) (z:Int) (ze:List Ep) {i:Int} (h0:0≤i) (h5:i<5):Qee (FS c es st) fR 1 (i+1) z=0∧Qes (FS c es st) fR 1 (i+1) ze=[]:=by
 rcases (by omega:i=0∨i=1∨i=2∨i=3∨i=4) with rfl | rfl | rfl | rfl | rfl
 ·exact ⟨hF.b1,hF.t1⟩
 ·exact ⟨hF.b2,hF.t2⟩
 ·exact ⟨hF.b3,hF.t3⟩
 ·exact ⟨hF.b4,hF.t4⟩
 ·exact ⟨rfl,rfl⟩
theorem fact_pre {es:List Je} {st:List (Int×Int)} {i:Int} (he:es.map Je.ep=[fE]) (hi:QaV st 1=i) (h5:i<6):Qc3 (FS c es st) 1=0:=by
 unfold Qc3;rw [if_neg (by decide),if_neg (by show ¬ QaV st 1=6;omega),if_neg (by show ¬ true=false;decide)]
 exact fact_oe he
variable {W:World} {n0 m0 B:Nat} {P:Cp}
theorem fact_adv (hF:FactC c) {es:List Je} {st:List (Int×Int)} {i:Int} (he:es.map Je.ep=[fE]) (h:ClS W n0 m0 B P (FS c es st)) (hi:QaV st 1=i) (h5:i<5) :
  Calls prog 8 #[.pointer (some ⟨B,0,none⟩),.int .i64 1] W fun e w'=>e=.returned (.tuple #[.int .i64 0,.nilIface])∧∃ m P' es' st',Hid (ClS w' n0 m B P' (FS c es' st')∧es'.map Je.ep=[fE]∧QaV st' 1=i+1∧Below n0 W w'):=by
 have h0:0≤i:=by have:=(h.ev.ok.sg 1).1;rw [← hi];exact this
 have hi':QaV (FS c es st).st 1=i:=hi;have hlen:(FS c es st).es.length=1:=by have:=congrArg List.length he;rw [List.length_map] at this;exact this
 refine (clAdv_of (EntK.nil rfl rfl rfl) h 1).mono ?_;rintro e w' (⟨z,hz,rfl,hh,_⟩ | ⟨n,es',ea,ec,R,rfl,hh⟩)
 ·exfalso;rcases hh with hh | ⟨_,R,hR,hh⟩
  ·rw [fact_pre he hi (by omega)] at hh
   exact hz hh.symm
  ·have eR:=fact_R he hR;subst eR;unfold Qea at hh;rw [hi'] at hh;obtain ⟨q1,q2⟩:=fact_bg hF es st (Qc1 (FS c es st).c fR) (QeM (FS c es st).c (FS c es st).kept 1 fR) h0 h5;rw [q1,q2,if_neg (by simp),hlen,if_neg (by simp)] at hh
   exact hz hh.symm
 ·obtain ⟨g1,⟨g2,_⟩,_,gR,_,gn,_,ge⟩:=hh.out;have eR:=fact_R he gR;subst eR;obtain ⟨q1,q2⟩:=fact_bg hF es st (Qc1 (FS c es st).c fR) (QeM (FS c es st).c (FS c es st).kept 1 fR) h0 h5;rw [hi',q2] at ge;have ge2:es'.map Je.ep=[fE]:=by rw [ge];show es.map Je.ep++[]=_;rw [List.append_nil];exact he
  have hn:n=0:=by
   have:=congrArg List.length ge2
   rw [List.length_map] at this;have e2:[fE].length=1:=rfl;omega
  subst hn;refine ⟨rfl,m0,{ P with ea:=ea,ec:=ec },es',Qcw st 1 (i+1),?_,ge2,?_,g2⟩
  ·have e3:(QaV (FS c es st).st 1+1)=i+1:=by rw [hi']
   rw [e3] at g1;exact g1
  ·rw [Qei,if_pos rfl]
theorem fact_last (hF:FactC c) {es:List Je} {st:List (Int×Int)} (he:es.map Je.ep=[fE]) (h:ClS W n0 m0 B P (FS c es st)) (hi:QaV st 1=5) :
  Calls prog 8 #[.pointer (some ⟨B,0,none⟩),.int .i64 1] W fun e w'=>e=.returned (.tuple #[.int .i64 1,.nilIface])∧∃ m P' es' st',Hid (ClS w' n0 m B P' (FS c es' st')∧es'.map Je.ep=[fE,fE2]∧QaV st' 1=6∧Below n0 W w'):=by
 have hi':QaV (FS c es st).st 1=5:=hi;have hlen:(FS c es st).es.length=1:=by have:=congrArg List.length he;rw [List.length_map] at this;exact this
 have q1:∀ z,Qee (FS c es st) fR 1 (5+1) z=z:=fun z=>rfl
 have q2:∀ z,Qes (FS c es st) fR 1 (5+1) z=z:=fun z=>rfl
 have q3:Qc1 (FS c es st).c fR=0:=fact_clBad hF;have q4:QeM (FS c es st).c (FS c es st).kept 1 fR=[⟨ByteArray.empty,1,1,fLn2⟩]:=fact_clTo hF;refine (clAdv_of (EntK.nil rfl rfl rfl) h 1).mono ?_;rintro e w' (⟨z,hz,rfl,hh,_⟩ | ⟨n,es',ea,ec,R,rfl,hh⟩)
 ·exfalso;rcases hh with hh | ⟨_,R,hR,hh⟩
  ·rw [fact_pre he hi (by omega)] at hh
   exact hz hh.symm
  ·have eR:=fact_R he hR;subst eR;unfold Qea at hh;rw [hi',q1,q2,q3,q4,if_neg (by simp),hlen,if_neg (by simp)] at hh
   exact hz hh.symm
 ·obtain ⟨g1,⟨g2,_⟩,_,gR,_,gn,_,ge⟩:=hh.out;have eR:=fact_R he gR;subst eR;rw [hi',q2,q4,hlen] at ge;have ge2:es'.map Je.ep=[fE,fE2]:=by
   rw [ge];show es.map Je.ep++rnE 1 [⟨ByteArray.empty,1,1,fLn2⟩] 1=_;rw [he];rfl
  have hn:n=1:=by
   have:=congrArg List.length ge2
   rw [List.length_map] at this;have e2:[fE,fE2].length=2:=rfl;omega
  subst hn;refine ⟨rfl,m0,{ P with ea:=ea,ec:=ec },es',Qcw st 1 6,?_,ge2,?_,g2⟩
  ·have e3:(QaV (FS c es st).st 1+1)=6:=by rw [hi'];rfl
   rw [e3] at g1;exact g1
  ·rw [Qei,if_pos rfl]
theorem fact_post (hF:FactC c) (h:ClS W n0 m0 B P (FS c [] [])) (a:Option Addr) (cap:Nat) (hl:Qc5 W a fLn cap) :
  Calls prog 6 #[.pointer (some ⟨B,0,none⟩),.agg #[.string ⟨#[97]⟩,.int .i64 1,.int .i64 1,.slice a 2 cap]] W fun e w'=>e=.returned (.tuple #[.int .i64 0,.nilIface])∧∃ m P' es' st',Hid (ClS w' n0 m B P' (FS c es' st')∧es'.map Je.ep=[fE]∧QaV st' 1=0∧Below n0 W w'):=by
 have h0:psB (FS c [] []) ⟨#[97]⟩ 1 1 fLn=0:=by
  unfold psB;have e:QaZ (FS c [] []).c ⟨#[97]⟩ 1 1 fLn=0:=hF.ent;rw [e];rfl
 refine (Qhe h ⟨#[97]⟩ 1 1 a cap fLn hl).mono ?_;rintro e w' (⟨hn,_⟩ | ⟨_,rfl,ea,ec,a',c',hh⟩)
 ·exact absurd h0 hn
 ·exact ⟨rfl,m0,{ P with ea:=ea,ec:=ec },[⟨⟨#[97]⟩,1,1,a',c',fLn⟩],[],hh.out.1,rfl,rfl,hh.out.2⟩
end
end
section
open Go.RowKit Go.Lib Go.Proofs.Tryz
theorem Qd4 {p:Je→Bool} {q:Ep→Bool} (hp:∀ x,p x=q x.ep):∀ L:List Je,QaT p L=((L.map Je.ep).filter q).flatMap epBl
 | []=>rfl
 | x :: L=>by
  have ih:=Qd4 hp L;unfold QaT at ih;unfold QaT;rw [List.map_cons,List.filter_cons,List.filter_cons,hp]
  cases hq:q x.ep with
  | true=>
   rw [if_pos rfl,if_pos rfl,List.flatMap_cons,List.flatMap_cons,ih];rfl
  | false=>
   rw [if_neg (by decide),if_neg (by decide)]
   exact ih
theorem oeE_eps {p:Je→Bool} {q:Ep→Bool} (hp:∀ x,p x=q x.ep) {L M:List Je} (h:L.map Je.ep=M.map Je.ep):oeE p L=oeE p M:=by
 have h1:QaT p L=QaT p M:=by rw [Qd4 hp,Qd4 hp,h]
 have h2:ceE L=ceE M:=by
  have hl:L.length=M.length:=by simpa using congrArg List.length h
  have ha:∀ N:List Je,N.any (fun x=>x.lns.any Qb4)=(N.map Je.ep).any (fun x=>x.lns.any Qb4):=fun N=>by rw [List.any_map];rfl
  unfold ceE;rw [hl,ha L,ha M,h]
 unfold oeE;rw [h1,h2]
theorem oeR_eps {p:Je→Bool} {q:Ep→Bool} (hp:∀ x,p x=q x.ep) {L M:List Je} (h:L.map Je.ep=M.map Je.ep) {R Q:List Bl} (h1:OeR p L R) (h2:OeR p M Q):R=Q:=
 h1.sums.uniq h2.sums fun k=>by rw [Qd4 hp,Qd4 hp,h]
def qBoth (en pe:Int) (x:Ep):Bool:=decide (x.ent=en∧x.per=pe)
theorem ep_in {L M:List Je} (h:L.map Je.ep=M.map Je.ep) {x:Je} (hx:x∈L):∃ y∈M,y.ent=x.ent∧y.per=x.per∧y.lns=x.lns:=by
 have hx2:x.ep∈M.map Je.ep:=by rw [← h];exact List.mem_map_of_mem hx
 obtain ⟨y,hy,e⟩:=List.mem_map.1 hx2;unfold Je.ep at e;rw [Ep.mk.injEq] at e;exact ⟨y,hy,e.2.1,e.2.2.1,e.2.2.2⟩
theorem ClEv.even_of {S:Cs} (h:ClEv S) {L:List Je} (e:L.map Je.ep=S.es.map Je.ep):∀ x∈L,0<x.lns.length∧x.lns.length≤20∧QaA Qaq x.lns∧∀ y∈Qai x.lns,y.amt=0:=fun x hx=>by
 obtain ⟨y,hy,_,_,e3⟩:=ep_in e hx;rw [← e3];exact h.ev y hy
theorem flat_eps:∀ {L M:List Je},L.map Je.ep=M.map Je.ep→(L.flatMap Qi4).length=(M.flatMap Qi4).length:=fun {L M} h=>by
 have key:∀ N:List Je,(N.flatMap Qi4).length=((N.map Je.ep).flatMap epBl).length:=by
  intro N
  induction N with
  | nil=>rfl
  | cons x N ih=>
   rw [List.flatMap_cons,List.map_cons,List.flatMap_cons,List.length_append,List.length_append,ih];rfl
 rw [key,key,h]
theorem Qiz.js_of {S:Cs} (h:Qiz S) {L:List Je} (e:L.map Je.ep=S.es.map Je.ep):JsOk L:=by
 have j:=h.js;refine ⟨fun x hx=>?_,fun x hx=>?_,fun x hx=>?_,by rw [flat_eps e];exact j.all⟩
 ·obtain ⟨y,hy,e1,_,_⟩:=ep_in e hx;rw [← e1];exact j.ent y hy
 ·obtain ⟨y,hy,_,e2,_⟩:=ep_in e hx;rw [← e2];exact j.per y hy
 ·obtain ⟨y,hy,_,_,e3⟩:=ep_in e hx;rw [← e3];exact j.lns y hy
theorem eps_len {L M:List Je} (h:L.map Je.ep=M.map Je.ep):L.length=M.length:=by simpa using congrArg List.length h
theorem bal_kind {c:List Ac} (hc:Qat c=0) {s:ByteArray} (hl:Qaa c s=0) (he:(kOf c s == 4 || kOf c s == 5)=false):∃ j,j<c.length∧QcX (Qag s) c=(j:Int)∧(c.getD j ac0).kind≤3:=by
 have h0:0≤QcX (Qag s) c:=by
  unfold Qaa at hl;split at hl
  ·omega
  ·omega
 obtain ⟨j,hj,e,h1,h2⟩:=QdV h0;refine ⟨j,hj,e,?_⟩;have hk:=kOf_idx c s j hj (fun i hi e2=>by
  have:=h2 i hi
  unfold Qag at this;rw [e2] at this;simp at this) (of_decide_eq_true h1)
 obtain ⟨_,_,_,k5,_⟩:=QcT (Qep hc j hj);rw [hk] at he;rw [Bool.or_eq_false_iff] at he;have a4:=he.1;have a5:=he.2;rw [beq_eq_false_iff_ne] at a4 a5;omega
theorem chart_sizes {c:List Ac} (hc:Qat c=0):∀ k,k<c.length→(c.getD k ac0).code.size≤maxLen∧(c.getD k ac0).name.size≤maxLen:=fun k hk=>by
 obtain ⟨h1,h2,_⟩:=QcT (Qep hc k hk);have h3:=code_six hc hk;refine ⟨by unfold maxLen;omega,?_⟩
 unfold Qdq QbA at h2;simp only [Bool.and_eq_true,decide_eq_true_eq] at h2;unfold maxLen;omega
section
variable {w W:World} {n0 B:Nat} {c:List Ac} {pe i:Int}
def Gs (w:World) (n0 B:Nat) (c:List Ac) (pe i:Int) (W:World):Prop:=∃ m P S,ClS W n0 m B P S∧Below w.heap.size w W∧S.c=c∧S.kept=⟨#[51,48]⟩∧QaV S.st pe=i
def GsE (w:World) (n0 B:Nat) (c:List Ac) (pe:Int) (W:World):Prop:=∃ m P S,ClS W n0 m B P S∧Below w.heap.size w W∧S.c=c∧QaV S.st pe=6∧∀ Q,OeR (Qau pe) S.es Q→∀ y∈Q,Qbc c y=false
theorem Gs.below {U:World} (h:Gs w n0 B c pe i W) (hb:Below W.heap.size W U):Gs w n0 B c pe i U:=by
 obtain ⟨m,P,S,h1,h2,h3⟩:=h;exact ⟨m,P,S,h1.below hb,h2.trans (hb.mono h2.size),h3⟩
theorem GsE.below {U:World} (h:GsE w n0 B c pe W) (hb:Below W.heap.size W U):GsE w n0 B c pe U:=by
 obtain ⟨m,P,S,h1,h2,h3⟩:=h;exact ⟨m,P,S,h1.below hb,h2.trans (hb.mono h2.size),h3⟩
theorem Gs.lo (h:Gs w n0 B c pe i W):Below w.heap.size w W:=by obtain ⟨_,_,_,_,h,_⟩:=h;exact h
theorem GsE.lo (h:GsE w n0 B c pe W):Below w.heap.size w W:=by obtain ⟨_,_,_,_,h,_⟩:=h;exact h
theorem Gs.stage (h:Gs w n0 B c pe i W):Calls prog 10 #[.pointer (some ⟨B,0,none⟩),.int .i64 pe] W fun e w'=>e=.returned (.int .i64 i)∧w'=W:=by
 obtain ⟨m,P,S,h1,_,_,_,h3⟩:=h
 have:=Qec h1.at_ pe
 rw [h3] at this;exact this
theorem Gs.post (hn:w.heap.size≤n0) (h:Gs w n0 B c pe i W) (r:ByteArray) (en p:Int) (a:Option Addr) (cap:Nat) (l:List Ln) (hl:Qc5 W a l cap) :
  Calls prog 6 #[.pointer (some ⟨B,0,none⟩),.agg #[.string r,.int .i64 en,.int .i64 p,.slice a l.length cap]] W fun e w'=>∃ n v,e=.returned (.tuple #[.int .i64 n,v])∧Hid (Gs w n0 B c pe i w'):=by
 obtain ⟨m,P,S,h1,h2,h3,h4,h5⟩:=h;refine (Qhe h1 r en p a cap l hl).mono ?_;rintro e w' (⟨_,rfl,hh⟩ | ⟨_,rfl,ea,ec,a',c',hh⟩)
 ·exact ⟨_,_,rfl,m,P,S,hh.out.1,h2.trans (hh.out.2.mono h2.size),h3,h4,h5⟩
 ·exact ⟨_,_,rfl,m,{ P with ea:=ea,ec:=ec },_,hh.out.1,h2.trans (hh.out.2.mono hn),h3,h4,h5⟩
theorem Gs.late (h:Gs w n0 B c pe 5 W) (r:ByteArray) (en:Int) (a:Option Addr) (cap:Nat) (l:List Ln) (hl:Qc5 W a l cap) :
  Calls prog 6 #[.pointer (some ⟨B,0,none⟩),.agg #[.string r,.int .i64 en,.int .i64 pe,.slice a l.length cap]] W fun e w'=>∃ n,n≠0∧(QaZ c r en pe l=0→n=7)∧(n=7∨n=QaZ c r en pe l)∧e=.returned (.tuple #[.int .i64 0,.iface 68 (.int .i64 n)])∧Below W.heap.size W w':=by
 obtain ⟨m,P,S,h1,h2,h3,h4,h5⟩:=h;have hb:psB S r en pe l=if QaZ c r en pe l≠0 then QaZ c r en pe l else 7:=by
  unfold psB;rw [h3,h5];rfl
 refine (Qhe h1 r en pe a cap l hl).mono ?_;rintro e w' (⟨h0,rfl,hh⟩ | ⟨h0,_⟩)
 ·rw [hb] at h0;refine ⟨psB S r en pe l,by rw [hb];exact h0,fun e0=>by rw [hb,if_neg (by rw [e0];decide)],?_,rfl,hh.out.2⟩
  rw [hb]
  split
  ·exact .inr rfl
  ·exact .inl rfl
 ·exfalso;rw [hb] at h0;split at h0
  ·contradiction
  ·omega
theorem Gs.adv (hn:w.heap.size≤n0) (h:Gs w n0 B c pe i W) :
  Calls prog 8 #[.pointer (some ⟨B,0,none⟩),.int .i64 pe] W fun e w'=>
   (∃ z,e=.returned (.tuple #[.int .i64 0,.iface 68 (.int .i64 z)])∧Hid (Gs w n0 B c pe i w')) ∨
   (∃ n:Nat,e=.returned (.tuple #[.int .i64 (n:Int),.nilIface])∧Hid (Gs w n0 B c pe (i+1) w')):=by
 obtain ⟨m,P,S,h1,h2,h3,h4,h5⟩:=h;refine (Qhy h1 pe).mono ?_;rintro e w' (⟨z,_,rfl,_,hh⟩ | ⟨n,es,ea,ec,R,rfl,hh⟩)
 ·exact .inl ⟨z,rfl,m,P,S,hh.out.1,h2.trans (hh.out.2.mono h2.size),h3,h4,h5⟩
 ·refine .inr ⟨n,rfl,m,_,_,hh.out.1,h2.trans (hh.out.2.1.1.mono hn),h3,h4,?_⟩;show QaV (Qcw S.st pe (QaV S.st pe+1)) pe=i+1;rw [Qei,if_pos rfl,h5]
theorem Gs.adv6 (hn:w.heap.size≤n0) (hk:kOf c ⟨#[51,48]⟩=3) (h:Gs w n0 B c pe 5 W) :
  Calls prog 8 #[.pointer (some ⟨B,0,none⟩),.int .i64 pe] W fun e w'=>
   (∃ z,e=.returned (.tuple #[.int .i64 0,.iface 68 (.int .i64 z)])∧Hid (Gs w n0 B c pe 5 w')) ∨
   (∃ n:Nat,e=.returned (.tuple #[.int .i64 (n:Int),.nilIface])∧Hid (GsE w n0 B c pe w')):=by
 obtain ⟨m,P,S,h1,h2,h3,h4,h5⟩:=h;refine (Qhy h1 pe).mono ?_;rintro e w' (⟨z,_,rfl,_,hh⟩ | ⟨n,es,ea,ec,R,rfl,hh⟩)
 ·exact .inl ⟨z,rfl,m,P,S,hh.out.1,h2.trans (hh.out.2.mono h2.size),h3,h4,h5⟩
 ·obtain ⟨g1,g2,_,gR,_,_,_,ge⟩:=hh.out;refine .inr ⟨n,rfl,m,_,_,g1,h2.trans (g2.1.mono hn),h3,?_,?_⟩
  ·show QaV (Qcw S.st pe (QaV S.st pe+1)) pe=6;rw [Qei,if_pos rfl,h5];rfl
  ·intro Q hQ;have e6:Qes S R pe (QaV S.st pe+1) (QeM S.c S.kept pe R)=QeM S.c S.kept pe R:=by
    rw [h5];rfl
   rw [e6] at ge;rw [← h3];exact cl_empty (kept:=S.kept) (by rw [h3,h4];exact hk) gR ge hQ
theorem GsE.adv (hp:Qak pe 120=true) (h:GsE w n0 B c pe W) :
  Calls prog 8 #[.pointer (some ⟨B,0,none⟩),.int .i64 pe] W fun e w'=>e=.returned (.tuple #[.int .i64 0,.iface 68 (.int .i64 7)])∧Below W.heap.size W w':=by
 obtain ⟨m,P,S,h1,h2,h3,h4,h5⟩:=h;have h7:Qc3 S pe=7:=by
  unfold Qc3;rw [if_neg (by rw [hp];decide),if_pos h4]
 refine (Qhy h1 pe).mono ?_;rintro e w' (⟨z,_,rfl,hz,hh⟩ | ⟨n,es,ea,ec,R,rfl,hh⟩)
 ·rcases hz with hz | ⟨hz,_⟩
  ·rw [h7] at hz;subst hz;exact ⟨rfl,hh.out.2⟩
  ·omega
 ·have:=hh.out.2.2.1
  omega
theorem Gs.ents (h:Gs w n0 B c pe i W):∃ M:List Je,∀ U,Below W.heap.size W U →
  Calls prog 9 #[.pointer (some ⟨B,0,none⟩)] U fun e w'=>∃ a q L,e=.returned (.slice a L.length q)∧Hid (QdF w' a L q∧L.map Je.ep=M.map Je.ep∧L.length≤200∧JsOk L∧(∀ x∈L,0<x.lns.length∧x.lns.length≤20∧QaA Qaq x.lns∧∀ y∈Qai x.lns,y.amt=0)∧Below U.heap.size U w'):=by
 obtain ⟨m,P,S,h1,h2,h3,h4,h5⟩:=h;refine ⟨S.es,fun U hU=>(QdX (h1.below hU)).mono ?_⟩
 rintro e w' ⟨a,q,L,rfl,hh⟩;obtain ⟨av,cv,ev,js⟩:=hh.out.1.isJs;cases ev;have he:=hh.out.2.1;exact ⟨a,q,L,rfl,js,he,by rw [eps_len he];exact h1.ev.ok.len,h1.ev.ok.js_of he,h1.ev.even_of he,hh.out.2.2.1⟩
theorem GsE.ents (h:GsE w n0 B c pe W):∃ M:List Je,∀ U,Below W.heap.size W U →
  Calls prog 9 #[.pointer (some ⟨B,0,none⟩)] U fun e w'=>∃ a q L,e=.returned (.slice a L.length q)∧Hid (QdF w' a L q∧L.map Je.ep=M.map Je.ep∧L.length≤200∧(∀ x∈L,0<x.lns.length∧x.lns.length≤20∧QaA Qaq x.lns∧∀ y∈Qai x.lns,y.amt=0)∧Below U.heap.size U w'):=by
 obtain ⟨m,P,S,h1,h2,h3,h4,h5⟩:=h;refine ⟨S.es,fun U hU=>(QdX (h1.below hU)).mono ?_⟩
 rintro e w' ⟨a,q,L,rfl,hh⟩;obtain ⟨av,cv,ev,js⟩:=hh.out.1.isJs;cases ev;have he:=hh.out.2.1;exact ⟨a,q,L,rfl,js,he,by rw [eps_len he];exact h1.ev.ok.len,h1.ev.even_of he,hh.out.2.2.1⟩
theorem GsE.bals (h:GsE w n0 B c pe W) :
  Calls prog 19 #[.pointer (some ⟨B,0,none⟩),.int .i64 pe] W fun e w'=>
   (∃ v z,e=.returned (.tuple #[v,.iface 68 (.int .i64 z)])∧v=.slice none 0 0∧Hid (Below W.heap.size W w')) ∨
   (∃ a q R,e=.returned (.tuple #[.slice a R.length q,.nilIface])∧Hid (Qcp w' a R q∧R.length≤200∧(∀ y∈R,∃ j,j<c.length∧QcX (Qag y.acc) c=(j:Int)∧(c.getD j ac0).kind≤3)∧Below W.heap.size W w')):=by
 obtain ⟨m,P,S,h1,h2,h3,h4,h5⟩:=h;refine (clBal_any h1.at_ h1.ev.ok pe).mono ?_;rintro e w' (⟨h0,rfl,hb⟩ | ⟨h0,a,q,R,rfl,hR⟩)
 ·exact .inl ⟨_,_,rfl,rfl,hb⟩
 ·refine .inr ⟨a,q,R,rfl,hR.out.2.1,hR.out.2.2.len,fun y hy=>?_,hR.out.1⟩
  have hl:=(oeR_leaf h1.ev.ok hR.out.2.2 hy).1;rw [h3] at hl;exact bal_kind (by rw [← h3];exact h1.ev.ok.c) hl (h5 R hR.out.2.2 y hy)
end
end
section
open Go.RowKit Go.Proofs.Tryz
theorem line_struct:prog.underlying 44=some (.struct (prog.fieldsOf 44)):=by kernel_rfl
theorem line_stood:prog.stoodInHeld 44=false:=by kernel_rfl
theorem line_same (x0 x1:ByteArray) (x2:Int) (W:World):(binOp .neq 44 (.agg #[.string x0,.string x1,.int .i64 x2]) (.agg #[.string x0,.string x1,.int .i64 x2])).run prog W=.ok (.bool false) W:=by
 rw [run_neq_struct,show (10000:Nat)=9998+1+1 from rfl,run_equalIn_agg W (9998+1) 44 _ _ line_struct line_stood]
 unfold Program.fieldsOf;rw [underlying44];simp [Op.eqFields,part,go_sem,run_equalIn_string W 9998 9 _ _ underlying9,run_equalIn_int W 9998 3 .i64 .i64 _ _ underlying3,Tryz.isAgg9,Tryz.isAgg3]
set_option maxHeartbeats 1000000 in
theorem sameLines_any (a1 a2:Option Addr) (c1 c2:Nat) (l:List Ln) (w:World) (hlen:l.length≤1000) (h1:Qc5 w a1 l c1) (h2:Qc5 w a2 l c2) :
  Calls prog 98 #[.slice a1 l.length c1,.slice a2 l.length c2] w fun e w'=>e=.returned (.bool true)∧Below w.heap.size w w':=by
 have Hlen:(l.length:Int)≤1000:=by omega
 have H1:Hid (l=[]∨_):=h1.lies;have H2:Hid (l=[]∨_):=h2.lies;clear h1 h2;have hS:=line_same;go_enter func98,ntmps98
 go_wp2;go_loopw [5] (fun i wr=>∃ k:Nat,k≤l.length∧i=.int .i64 k∧∃ n,wr=w.drewN n) (fun i _=>l.length - (RowKit.intOf i).toNat)
 case atStart=>exact ⟨0,Nat.zero_le _,rfl,0,rfl⟩
 case round=>
  obtain ⟨k,hk,rfl,nd,rfl⟩:=hrel;by_cases hlt:k<l.length
  ·rcases H1.out with h | ⟨g1,o1,rfl,_,q1⟩
   ·rw [h] at hlt;simp at hlt
   rcases H2.out with h | ⟨g2,o2,rfl,_,q2⟩
   ·rw [h] at hlt;simp at hlt
   have d1:=q1 k hlt;have d2:=q2 k hlt;clear q1 q2 H1 H2;generalize l.getD k ln0=x at *
   obtain ⟨x0,x1,x2⟩:=x;obtain ⟨e0,e1,e2⟩:=d1;obtain ⟨f0,f1,f2⟩:=d2;simp only at e0 e1 e2 f0 f1 f2;have i0:(0:Int)≤k:=by omega
   have i1:(k:Int)<l.length:=by omega
   go_wp2_with fail;go_quiet (fail)
   go_wp2;go_roundw
   case rel=>exact ⟨k+1,by omega,by go_num,_,rfl⟩
   case measure=>simp [RowKit.intOf];omega
  ·have hk2:k=l.length:=by omega
   subst hk2;go_wp2;go_ret;exact ⟨rfl,QaE (Below.refl _ _) _⟩
set_option maxHeartbeats 1000000 in
theorem sameEntry_any (r:ByteArray) (en pe:Int) (a1 a2:Option Addr) (c1 c2:Nat) (l:List Ln) (w:World) (hlen:l.length≤1000) (h1:Qc5 w a1 l c1) (h2:Qc5 w a2 l c2) :
  Calls prog 57 #[.agg #[.string r,.int .i64 en,.int .i64 pe,.slice a1 l.length c1],.agg #[.string r,.int .i64 en,.int .i64 pe,.slice a2 l.length c2]] w fun e w'=>e=.returned (.bool true)∧Below w.heap.size w w':=by
 have b0:Below w.heap.size w ((w.alloc (.cells #[.string r,.int .i64 en,.int .i64 pe,.slice a1 l.length c1] 38)).alloc (.cells #[.string r,.int .i64 en,.int .i64 pe,.slice a2 l.length c2] 38)):=((Below.refl _ w).alloc (Nat.le_refl _) _).alloc (by simp) _
 have x1:=(Qcv.new w r en pe (.slice a1 l.length c1)).alloc (.cells #[.string r,.int .i64 en,.int .i64 pe,.slice a2 l.length c2] 38);have x2:=Qcv.new (w.alloc (.cells #[.string r,.int .i64 en,.int .i64 pe,.slice a1 l.length c1] 38)) r en pe (.slice a2 l.length c2);rw [World.size_alloc] at x2;have hs0:((w.alloc (.cells #[.string r,.int .i64 en,.int .i64 pe,.slice a1 l.length c1] 38)).alloc (.cells #[.string r,.int .i64 en,.int .i64 pe,.slice a2 l.length c2] 38)).heap.size=w.heap.size+2:=by simp
 have hL:=sameLines_any a1 a2 c1 c2 l _ hlen (h1.below b0) (h2.below b0);have HL:Hid (Calls _ _ _ _ _):=hL;clear hL h1 h2;go_enter func57,ntmps57
 go_wp2_with fail;refine HL.out.mono ?_;rintro e w1 ⟨rfl,hb1⟩;rw [hs0] at hb1;have B1:=b0.trans (hb1.mono (by omega))
 have y1:=x1.below hb1 (by omega)
 have y2:=x2.below hb1 (by omega)
 have d0:=y1.c0;have d1:=y1.c1;have d2:=y1.c2;have e0:=y2.c0;have e1:=y2.c1;have e2:=y2.c2;clear HL hb1 x1 x2 y1 y2 b0 hs0;go_wp2;go_ret;exact ⟨rfl,B1⟩
end
section
open Go.RowKit Go.Lib Go.Proofs.Tryz
theorem ep_at {L1 L2:List Je} (h:L1.map Je.ep=L2.map Je.ep) {k:Nat} (hk:k<L1.length):(L1.getD k je0).ep=(L2.getD k je0).ep:=by
 have hl:L1.length=L2.length:=by have:=congrArg List.length h;simpa using this
 have:=congrArg (fun l=>l[k]?) h
 simp only [List.getElem?_map,List.getElem?_eq_getElem hk,List.getElem?_eq_getElem (by omega:k<L2.length),Option.map_some,Option.some.injEq] at this
 rw [List.getD_eq_getElem?_getD,List.getD_eq_getElem?_getD,List.getElem?_eq_getElem hk,List.getElem?_eq_getElem (by omega:k<L2.length)]
 exact this
set_option maxHeartbeats 4000000 in
theorem QhT (a1 a2:Option Addr) (c1 c2:Nat) (L1 L2:List Je) (w:World) (hlen:L1.length≤1000) (he:L1.map Je.ep=L2.map Je.ep) (hln:∀ x∈L1,x.lns.length≤1000) (h1:QdF w a1 L1 c1) (h2:QdF w a2 L2 c2) :
  Calls prog 21 #[.slice a1 L1.length c1,.slice a2 L2.length c2] w fun e w'=>e=.returned (.bool true)∧Below w.heap.size w w':=by
 have hl:L2.length=L1.length:=by have:=congrArg List.length he;simpa using this.symm
 rw [hl];have H1:Hid (QdF w a1 L1 c1):=h1;have H2:Hid (QdF w a2 L2 c2):=h2;have HE:Hid (∀ k,k<L1.length→(L1.getD k je0).ep=(L2.getD k je0).ep∧(L1.getD k je0).lns.length≤1000):=fun k hk=>⟨ep_at he hk,hln _ (Qb0 L1 k hk)⟩
 have HL:Hid (L2.length=L1.length):=hl;have hl1:(L1.length:Int)≤1000:=by omega
 clear h1 h2 he hl hln;go_enter func21,ntmps21
 go_wp2;go_loopw [5] (fun i wr=>∃ k:Nat,k≤L1.length∧i=.int .i64 k∧Hid (Below w.heap.size w wr)) (fun i _=>L1.length - (RowKit.intOf i).toNat)
 case atStart=>exact ⟨0,Nat.zero_le _,rfl,Below.refl _ _⟩
 case round=>
  obtain ⟨k,hk,rfl,HB⟩:=hrel;by_cases hlt:k<L1.length
  ·have j1:=H1.out.below HB.out;have j2:=H2.out.below HB.out;rcases j1.lies with h0 | ⟨b1,o1,e1,hb1,hat1⟩
   ·rw [h0] at hlt;simp at hlt
   rcases j2.lies with h0 | ⟨b2,o2,e2,hb2,hat2⟩
   ·rw [← HL.out,h0] at hlt;simp at hlt
   subst e1;subst e2;have y1:=hat1 k hlt;have y2:=hat2 k (by rw [HL.out];exact hlt)
   have l1:=j1.lns _ (Qb0 L1 k hlt);have l2:=j2.lns _ (Qb0 L2 k (by rw [HL.out];exact hlt))
   obtain ⟨hee,hll⟩:=HE.out k hlt;clear hat1 hat2 j1 j2;generalize L1.getD k je0=x at *
   generalize L2.getD k je0=y at *
   obtain ⟨x0,x1,x2,x3,x4,x5⟩:=x;obtain ⟨y0,y1',y2',y3,y4,y5⟩:=y;simp only [Je.ep,Ep.mk.injEq] at hee;obtain ⟨rfl,rfl,rfl,rfl⟩:=hee;obtain ⟨d0,d1,d2,d3⟩:=y1;obtain ⟨f0,f1,f2,f3⟩:=y2;simp only at d0 d1 d2 d3 f0 f1 f2 f3 l1 l2 hll;have HS:Hid (∀ W,Below wr.heap.size wr W→Calls prog 57 #[.agg #[.string x0,.int .i64 x1,.int .i64 x2,.slice x3 x5.length x4],.agg #[.string x0,.int .i64 x1,.int .i64 x2,.slice y3 x5.length y4]] W fun e w'=>e=.returned (.bool true)∧Below w.heap.size w w'):=fun W hW=>by
    refine (sameEntry_any x0 x1 x2 x3 y3 x4 y4 x5 W hll (l1.below hW) (l2.below hW)).mono ?_;rintro e w' ⟨rfl,hb⟩;have z:=HB.out.trans (hW.mono HB.out.size);exact ⟨rfl,z.trans (hb.mono z.size)⟩
   have i0:(0:Int)≤k:=by omega
   have i1:(k:Int)<L1.length:=by omega
   clear l1 l2;go_wp2_with fail;go_region_with (go_at_call 57;refine (HS.out _ (by first | exact Below.refl _ _ | exact (Below.refl _ _).drew | exact QaE (Below.refl _ _) _)).mono ?_;rintro e w2 ⟨rfl,hb2⟩)
   all_goals
    have HB2:Hid (Below w.heap.size w w2):=hb2;clear hb2 HS d0 d1 d2 d3 f0 f1 f2 f3;go_wp2;go_roundw
    case rel=>exact ⟨k+1,by omega,by go_num,HB2⟩
    case measure=>simp [RowKit.intOf];omega
  ·have ek:k=L1.length:=by omega
   subst ek;have i1:¬ (L1.length:Int)<L1.length:=by omega
   go_wp2;go_ret;exact ⟨rfl,HB.out⟩
end
section
open Go.RowKit Go.Lib Go.Proofs.Tryz
section
variable {W:World} {n0 bj bm:Nat} {v:Value} {es:List Je}
end
end
section
open Go.RowKit Go.Lib Go.Proofs.Tryz
theorem jpair_new (W:World) (x0 x1:ByteArray) (x2:Int) (y0 y1:ByteArray) (y2:Int) (b:Nat) (hb:b=W.heap.size) :
  Qc5 (W.alloc (.cells #[.string x0,.string x1,.int .i64 x2,.string y0,.string y1,.int .i64 y2] 44)) (some ⟨b,0,none⟩) [⟨x0,x1,x2⟩,⟨y0,y1,y2⟩] 2:=by
 subst hb;have h:=World.alloc_heap_new W (.cells #[.string x0,.string x1,.int .i64 x2,.string y0,.string y1,.int .i64 y2] 44);generalize W.alloc (.cells #[.string x0,.string x1,.int .i64 x2,.string y0,.string y1,.int .i64 y2] 44)=V at *
 generalize W.heap.size=b at *
 refine ⟨Nat.le_refl _,.inr ⟨b,0,rfl,(Array.getElem?_eq_some_iff.1 h).1,fun k hk=>?_⟩⟩
 rcases (by simp at hk;omega:k=0∨k=1) with rfl | rfl
 ·exact ⟨by simp [World.cell?,h],by simp [World.cell?,h],by simp [World.cell?,h]⟩
 ·exact ⟨by simp [World.cell?,h],by simp [World.cell?,h],by simp [World.cell?,h]⟩
theorem Qjh (ref:ByteArray) (en pe:Int) (tf fr cur:ByteArray) (n:Int) (w:World) (hn:IntKind.i64.wrap (-n) = -n) :
  Calls prog 7 #[.string ref,.int .i64 en,.int .i64 pe,.string tf,.string fr,.string cur,.int .i64 n] w fun e w'=>∃ a cap,e=.returned (.agg #[.string ref,.int .i64 en,.int .i64 pe,.slice a 2 cap])∧Qc5 w' a [⟨tf,cur,n⟩,⟨fr,cur,-n⟩] cap∧Below w.heap.size w w':=by
 go_enter func7,ntmps7
 go_wp2;have d0:((w.alloc (.cells #[.string ref,.int .i64 en,.int .i64 pe,.slice (some ⟨w.heap.size+1,0,none⟩) 2 2] 38)).alloc (.cells #[.string tf,.string cur,.int .i64 n,.string fr,.string cur,.int .i64 (-n)] 44)).heap[w.heap.size]? = some (.cells #[.string ref,.int .i64 en,.int .i64 pe,.slice (some ⟨w.heap.size+1,0,none⟩) 2 2] 38 (0,0)):=((World.grownBy_alloc _ _ none).block w.heap.size (by simp) (by simp)).trans (World.alloc_heap_new w _)
 have b4:Qcv _ _ _ _ _ _:=d0;have q0:=b4.c0;have q1:=b4.c1;have q2:=b4.c2;have q3:=b4.c3;exact bodyPost_ret (v:=.agg #[.string ref,.int .i64 en,.int .i64 pe,.slice (some ⟨w.heap.size+1,0,none⟩) 2 2]) (by simp [results,Tryz.results7,go_sem,q0,q1,q2,q3]) rfl ⟨_,_,rfl,jpair_new _ _ _ _ _ _ _ _ (by simp),((Below.refl _ w).alloc (Nat.le_refl _) _).alloc (by simp) _⟩
end
end Go.Proofs.YtibhgngboljhfaaGreatDoor
