/-
  Part of a proof (see the last text).
-/
import Derived.Test.YtjifbbdkpanagaaGreatDoorZd32
set_option linter.unusedVariables false
set_option linter.unusedSimpArgs false
set_option maxRecDepth 100000
namespace Go.Proofs.YtjifbbdkpanagaaGreatDoor
section
open Go.RowKit Go.Lib Go.Proofs.Tryz
structure ClEv (S:Cs):Prop where
 ok:ClOk S
 ev:∀ x∈S.es,0<x.lns.length∧x.lns.length≤20∧Qa7 Qah x.lns∧∀ y∈QaN x.lns,y.amt=0
def psB (S:Cs) (r:ByteArray) (en pe:Int) (l:List Ln):Int:=
 if QbY S.c r en pe l≠0 then QbY S.c r en pe l else if 5≤Qa2 S.st pe then 7 else if Qei S pe=true then 7 else if QeF (S.es.map (·.ref)) r=true then 8 else if 200≤S.es.length then 4 else 0
theorem psB_ok {S:Cs} {r:ByteArray} {en pe:Int} {l:List Ln} (h:psB S r en pe l=0):QbY S.c r en pe l=0∧Qa2 S.st pe<5∧Qei S pe=false∧QeF (S.es.map (·.ref)) r=false∧S.es.length<200:=by
 unfold psB at h;split at h
 ·contradiction
 rename_i h1;split at h
 ·omega
 rename_i h2;split at h
 ·omega
 rename_i h3;split at h
 ·omega
 rename_i h4;split at h
 ·omega
 rename_i h5;exact ⟨Decidable.of_not_not h1,by omega,by simpa using h3,by simpa using h4,by omega⟩
theorem lnBad_ok {c:List Ac} {x:Ln} (h:QdC c x=0):Qaa c x.acc=0∧Qat x.cur=true∧QaJ x.amt=true:=by
 rw [QiY] at h;split at h
 ·contradiction
 rename_i h1;split at h
 ·omega
 rename_i h2;split at h
 ·omega
 rename_i h3;simp only [not_or] at h3;exact ⟨Decidable.of_not_not h1,by simpa using h2,by simpa using h3.2⟩
theorem head_en {r:ByteArray} {en pe:Int} {n:Nat} (h:Qbc r en pe n=0):Qav en 12=true∧Qav pe 120=true:=by
 unfold Qbc at h;split at h
 ·omega
 ·split at h
  ·omega
  ·rename_i h2;simp only [not_or] at h2;exact ⟨by simpa using h2.1,by simpa using h2.2⟩
theorem ev_zero {l:List Ln} (h:evenL l):∀ y∈QaN l,y.amt=0:=fun y hy=>by
 have:=QgE.2 h
 rw [List.any_eq_false] at this
 have:=this y hy
 simpa [nullL] using this
theorem ClEv.post {S:Cs} (h:ClEv S) {r:ByteArray} {en pe:Int} {l:List Ln} (h0:psB S r en pe l=0) (a:Option Addr) (cap:Nat):ClEv (S.add ⟨r,en,pe,a,cap,l⟩):=by
 obtain ⟨k1,_,_,_,k5⟩:=psB_ok h0;obtain ⟨_,e2,e3,e4⟩:=Qhn.1 k1;have hl:=QeB e2;obtain ⟨u1,u2⟩:=head_en e2;have hln:∀ y∈l,Qaa S.c y.acc=0∧Qat y.cur=true∧QaJ y.amt=true:=fun y hy=>lnBad_ok (Qfr e3 y hy)
 have o:=h.ok;have hmem:∀ x∈(S.add ⟨r,en,pe,a,cap,l⟩).es,x∈S.es∨x=⟨r,en,pe,a,cap,l⟩:=fun x hx=>by
  rcases List.mem_append.1 hx with hx | hx
  ·exact .inl hx
  ·exact .inr (List.mem_singleton.1 hx)
 refine ⟨⟨o.c,o.T,o.g,o.b,o.ga,o.ke,o.pn,o.po,o.pr,?_,fun x hx=>?_,fun x hx=>?_,o.sg,o.st⟩,fun x hx=>?_⟩
 ·show (S.es++[_]).length≤200;rw [List.length_append,List.length_singleton];omega
 ·rcases hmem x hx with hx | rfl
  ·exact o.lns x hx
  ·refine ⟨hl.2,fun y hy=>?_⟩
   obtain ⟨q1,q2,q3⟩:=hln y hy;have q4:=Qbl.1 q3;unfold Qah at q4;exact ⟨q4,q1,q2⟩
 ·rcases hmem x hx with hx | rfl
  ·exact o.per x hx
  ·exact ⟨u2,u1⟩
 ·rcases hmem x hx with hx | rfl
  ·exact h.ev x hx
  ·exact ⟨by show 0<l.length;omega,hl.2,fun y hy=>Qbl.1 (hln y hy).2.2,ev_zero e4⟩
theorem rnE_mem (n:Nat) (M:List Ep):∀ k,k≤M.length→∀ x∈rnE n M k,∃ j,j<k∧x={ M.getD j ep0 with ref:=Qfu (n+j) }
 | 0,_,x,hx=>by cases hx
 | k+1,hk,x,hx=>by
  rw [rnE] at hx;rcases List.mem_append.1 hx with hx | hx
  ·obtain ⟨j,hj,e⟩:=rnE_mem n M k (by omega) x hx
   exact ⟨j,by omega,e⟩
  ·exact ⟨k,by omega,List.mem_singleton.1 hx⟩
theorem Qiz:∀ (T:List (Int×Int)) (p v:Int),∀ x∈Qcz T p v,x.1=p∨∃ y∈T,y.1=x.1
 | [],p,v,x,hx=>by
  simp only [Qcz,List.mem_singleton] at hx;subst hx;exact .inl rfl
 | y :: T,p,v,x,hx=>by
  unfold Qcz at hx;split at hx
  ·rcases List.mem_cons.1 hx with rfl | hx
   ·exact .inl rfl
   ·exact .inr ⟨x,by simp [hx],rfl⟩
  ·rcases List.mem_cons.1 hx with rfl | hx
   ·exact .inr ⟨x,by simp,rfl⟩
   ·rcases Qiz T p v x hx with e | ⟨z,hz,e⟩
    ·exact .inl e
    ·exact .inr ⟨z,by simp [hz],e⟩
theorem avPre_ok {S:Cs} {pe:Int} (h:Qdd S pe=0):Qav pe 120=true∧Qa2 S.st pe≠6∧Qb8 S (pe.toNat - 1)=true∧oeE (Qap pe) S.es=0:=by
 unfold Qdd at h;split at h
 ·omega
 rename_i h1;split at h
 ·omega
 rename_i h2;split at h
 ·omega
 rename_i h3;exact ⟨by simpa using h1,h2,by simpa using h3,h⟩
theorem avErr_ok {S:Cs} {pe:Int} {R:List Bl} {zb:Int} {ze:List Ep} (h:QdE S pe R zb ze=0):QdB S R pe (Qa2 S.st pe+1) zb=0∧S.es.length+(Qen S R pe (Qa2 S.st pe+1) ze).length≤200:=by
 unfold QdE at h;split at h
 ·contradiction
 rename_i h1;split at h
 ·omega
 rename_i h2;exact ⟨Decidable.of_not_not h1,by omega⟩
theorem ClEv.adv {S:Cs} (h:ClEv S) {pe:Int} {R:List Bl} (hp:Qdd S pe=0) (hR:OeR (Qap pe) S.es R) (he:QdE S pe R (QcQ S.c R) (Qgi S.c S.kept pe R)=0) {es:List Je}
  (hes:es.map Je.ep=S.es.map Je.ep++rnE S.es.length (Qen S R pe (Qa2 S.st pe+1) (Qgi S.c S.kept pe R)) (Qen S R pe (Qa2 S.st pe+1) (Qgi S.c S.kept pe R)).length) :
  ClEv { S with es:=es,st:=Qcz S.st pe (Qa2 S.st pe+1) }∧es.length=S.es.length+(Qen S R pe (Qa2 S.st pe+1) (Qgi S.c S.kept pe R)).length ∧
   ∀ k,S.es.length≤k→k<es.length→(es.getD k je0).per=pe∧(es.getD k je0).ref=Qfu k:=by
 obtain ⟨p1,p2,_,_⟩:=avPre_ok hp;obtain ⟨q1,q2⟩:=avErr_ok he;have hgood:∀ x∈Qen S R pe (Qa2 S.st pe+1) (Qgi S.c S.kept pe R),EpOk S.c pe x:=fun x hx=>bg_good h.ok hR q1 hx
 generalize Qen S R pe (Qa2 S.st pe+1) (Qgi S.c S.kept pe R)=M at *
 have o:=h.ok;have hlen:es.length=S.es.length+M.length:=by
  have:=congrArg List.length hes
  rw [List.length_append,QgQ,List.length_map,List.length_map] at this;exact this
 have hmem:∀ x∈es,(∃ y∈S.es,y.ep=x.ep)∨∃ z∈M,x.lns=z.lns∧x.per=z.per∧x.ent=z.ent:=fun x hx=>by
  have hx2:x.ep∈es.map Je.ep:=List.mem_map_of_mem hx;rw [hes] at hx2;rcases List.mem_append.1 hx2 with hx2 | hx2
  ·obtain ⟨y,hy,e⟩:=List.mem_map.1 hx2;exact .inl ⟨y,hy,e⟩
  ·obtain ⟨j,hj,e⟩:=rnE_mem _ _ _ (Nat.le_refl _) _ hx2;refine .inr ⟨M.getD j ep0,?_,?_⟩
   ·rw [List.getD_eq_getElem?_getD,List.getElem?_eq_getElem hj];exact List.getElem_mem hj
   ·unfold Je.ep at e;rw [Ep.mk.injEq] at e;exact ⟨e.2.2.2,e.2.2.1,e.2.1⟩
 have hsame:∀ {x y:Je},y.ep=x.ep→y.lns=x.lns∧y.per=x.per∧y.ent=x.ent:=fun {x y} e=>by
  unfold Je.ep at e;rw [Ep.mk.injEq] at e;exact ⟨e.2.2.2,e.2.2.1,e.2.1⟩
 refine ⟨⟨⟨o.c,o.T,o.g,o.b,o.ga,o.ke,o.pn,o.po,o.pr,?_,fun x hx=>?_,fun x hx=>?_,fun q=>?_,fun x hx=>?_⟩,fun x hx=>?_⟩,hlen,fun k hk1 hk2=>?_⟩
 ·show es.length≤200;omega
 ·rcases hmem x hx with ⟨y,hy,e⟩ | ⟨z,hz,e1,e2,e3⟩
  ·rw [← (hsame e).1];exact o.lns y hy
  ·rw [e1];have g:=hgood z hz;refine ⟨g.len.2,fun y hy=>⟨?_,(g.ln y hy).1,(g.ln y hy).2⟩⟩
   have:=g.wi y hy
   unfold Qah at this;exact this
 ·rcases hmem x hx with ⟨y,hy,e⟩ | ⟨z,hz,e1,e2,e3⟩
  ·rw [← (hsame e).2.1,← (hsame e).2.2];exact o.per y hy
  ·have g:=hgood z hz;rw [e2,e3,g.per];exact ⟨p1,g.ent⟩
 ·show 0≤Qa2 (Qcz _ _ _) q∧Qa2 (Qcz _ _ _) q≤6;rw [QgP];have h1:=o.sg pe;have h2:=o.sg q
  split
  ·omega
  ·exact h2
 ·rcases Qiz _ _ _ x hx with e | ⟨y,hy,e⟩
  ·rw [e];exact p1
  ·rw [← e];exact o.st y hy
 ·rcases hmem x hx with ⟨y,hy,e⟩ | ⟨z,hz,e1,e2,e3⟩
  ·rw [← (hsame e).1];exact h.ev y hy
  ·rw [e1];have g:=hgood z hz;exact ⟨g.len.1,g.len.2,g.wi,g.ev⟩
 ·have hg:(es.map Je.ep)[k]? = some (es.getD k je0).ep:=by
   rw [List.getElem?_map,List.getElem?_eq_getElem hk2,List.getD_eq_getElem?_getD,List.getElem?_eq_getElem hk2];rfl
  rw [hes,List.getElem?_append_right (by rw [List.length_map];exact hk1),List.length_map] at hg
  have key:∀ m i,i<m→m≤M.length→(rnE S.es.length M m)[i]? = some { M.getD i ep0 with ref:=Qfu (S.es.length+i) }:=by
   intro m
   induction m with
   | zero=>intro i hi;omega
   | succ m ih=>
    intro i hi hm;rw [rnE];by_cases e:i=m
    ·subst e;rw [List.getElem?_append_right (by rw [QgQ];exact Nat.le_refl _),QgQ,Nat.sub_self]
     rfl
    ·rw [List.getElem?_append_left (by rw [QgQ];omega)]
     exact ih i (by omega) (by omega)
  rw [key _ _ (by omega) (Nat.le_refl _)] at hg
  have e:=Option.some.inj hg;unfold Je.ep at e;rw [Ep.mk.injEq] at e;have hz:M.getD (k - S.es.length) ep0∈M:=by
   rw [List.getD_eq_getElem?_getD,List.getElem?_eq_getElem (by omega)];exact List.getElem_mem (by omega)
  refine ⟨by rw [← e.2.2.1];exact (hgood _ hz).per,?_⟩
  rw [← e.1];congr 1;omega
end
section
open Go.RowKit Go.Lib Go.Proofs.Tryz
def PsEnd (W:World) (n0 m0 B:Nat) (P:Cp) (S:Cs) (r:ByteArray) (en pe:Int) (l:List Ln) (z:Int) (e:Ending) (w':World):Prop:=
 (z≠0∧e=.returned (.tuple #[.int .i64 0,.iface 66 (.int .i64 z)])∧Below W.heap.size W w') ∨
 (z=0∧e=.returned (.tuple #[.int .i64 (S.es.length:Int),.nilIface])∧∃ g cp a' cap',Qcf w' n0 m0 B { P with ea:=some ⟨g,0,none⟩,ec:=cp } (S.add ⟨r,en,pe,a',cap',l⟩)∧Qa9 (clT B P S.es.length) W w'∧((Value.slice P.ea S.es.length P.ec).ownBlock=some g∨W.heap.size≤g))
section
variable {W:World} {n0 m0 B:Nat} {P:Cp} {S:Cs}
set_option maxHeartbeats 8000000 in
theorem clPost_any (h:Qcf W n0 m0 B P S) (hlen:S.es.length≤1000) (r:ByteArray) (en pe:Int) (a:Option Addr) (cap:Nat) (l:List Ln) (hl:Qfs W a l cap) :
  Calls prog 17 #[.pointer (some ⟨B,0,none⟩),.agg #[.string r,.int .i64 en,.int .i64 pe,.slice a l.length cap]] W (PsEnd W n0 m0 B P S r en pe l (psB S r en pe l)):=by
 obtain ⟨w2,hw2⟩:∃ w2,W.alloc (.cells #[.string r,.int .i64 en,.int .i64 pe,.slice a l.length cap] 59)=w2:=⟨_,rfl⟩;have B2:Below W.heap.size W w2:=by rw [← hw2];exact (Below.refl _ W).alloc (Nat.le_refl _) _
 have x2:QcU w2 W.heap.size r en pe (.slice a l.length cap):=by rw [← hw2];exact QcU.new W r en pe (.slice a l.length cap)
 have hs2e:W.heap.size<w2.heap.size:=by rw [← hw2];simp
 have HW2:Hid (W.alloc (.cells #[.string r,.int .i64 en,.int .i64 pe,.slice a l.length cap] 59)=w2):=hw2;have HBU:Hid (Below w2.heap.size w2 w2.drew):=(Below.refl _ w2).drew;have HC:Hid (∀ U,Below w2.heap.size w2 U→Calls prog 49 #[.slice P.ca S.c.length P.cc,.agg #[.string r,.int .i64 en,.int .i64 pe,.slice a l.length cap]] U fun e w'=>e=.returned (enE (QbY S.c r en pe l))∧Below w2.heap.size w2 w'):=fun U hU=>by
  have bU:=B2.trans (hU.mono B2.size);refine (check_any P.ca P.cc S.c r en pe a cap l U (h.below bU).dat.ch (hl.below bU)).mono ?_;rintro e w' ⟨rfl,hb⟩;exact ⟨rfl,hU.trans (hb.mono hU.size)⟩
 have HJ:Hid (∀ U,Below w2.heap.size w2 U→Qcf U n0 m0 B P S∧QcU U W.heap.size r en pe (.slice a l.length cap)∧Below W.heap.size W U∧Qfs U a l cap):=fun U hU=>by
  have bU:=B2.trans (hU.mono B2.size);exact ⟨h.below bU,x2.below hU hs2e,bU,hl.below bU⟩
 have k0:w2.drew.cell? ⟨B,0,none⟩=some (.slice P.ca S.c.length P.cc):=(HJ.out _ HBU.out).1.cell 0;obtain ⟨d0,d1,d2,d3⟩:w2.drew.cell? ⟨W.heap.size,0,none⟩=some (.string r)∧w2.drew.cell? ⟨W.heap.size,1,none⟩=some (.int .i64 en)∧w2.drew.cell? ⟨W.heap.size,2,none⟩=some (.int .i64 pe)∧w2.drew.cell? ⟨W.heap.size,3,none⟩=some (.slice a l.length cap):=⟨(HJ.out _ HBU.out).2.1.c0,(HJ.out _ HBU.out).2.1.c1,(HJ.out _ HBU.out).2.1.c2,(HJ.out _ HBU.out).2.1.c3⟩
 have HPs:Hid (psB S r en pe l=if QbY S.c r en pe l≠0 then QbY S.c r en pe l else if 5≤Qa2 S.st pe then 7 else if Qei S pe=true then 7 else if QeF (S.es.map (·.ref)) r=true then 8 else if 200≤S.es.length then 4 else 0):=rfl
 have HBad:Hid (∀ z U,z≠0→psB S r en pe l=z→Below w2.heap.size w2 U→PsEnd W n0 m0 B P S r en pe l (psB S r en pe l) (.returned (.tuple #[.int .i64 0,.iface 66 (.int .i64 z)])) U):=fun z U h0 h1 hU=>.inl ⟨by rw [h1];exact h0,by rw [h1],(HJ.out U hU).2.2.1⟩
 have HBg:Hid (∀ U,Below w2.heap.size w2 U→Calls prog 51 #[.pointer (some ⟨B,0,none⟩),.int .i64 pe] U fun e w'=>e=.returned (.bool (Qei S pe))∧Below w2.heap.size w2 w'):=fun U hU=>by
  refine (Qht (HJ.out U hU).1 pe).mono ?_;rintro e w' ⟨rfl,hb⟩;exact ⟨rfl,hU.trans (hb.mono hU.size)⟩
 have HSt:Hid (∀ U,Below w2.heap.size w2 U→Calls prog 50 #[.pointer (some ⟨B,0,none⟩),.int .i64 pe] U fun e w'=>e=.returned (.int .i64 (Qa2 S.st pe))∧w'=U):=fun U hU=>Qhs (HJ.out U hU).1 pe
 have Hll:Hid (QbY S.c r en pe l=0→l.length≤1000):=fun h0=>by
  have:=QeB (Qhn.1 h0).2.1
  omega
 have hle:(S.es.length:Int)≤1000:=by omega
 have hlt2:W.heap.size≤w2.heap.size:=by omega
 clear h hl hw2 B2 x2;obtain ⟨eb,heb⟩:∃ eb,QbY S.c r en pe l=eb:=⟨_,rfl⟩;rw [heb] at HC HPs Hll;clear heb;go_enter func17,ntmps17
 go_upto_region 1 with fail
 rw [HW2.out];clear HW2;refine Qab (by kernel_rfl) ?_
 generalize w2.drew=U at *
 refine wpAny_take (i:=0) (v:=.pointer (some ⟨B,0,none⟩)) rfl (by kernel_rfl) (by kernel_rfl) (by kernel_rfl) (fun _ _ _ h=>h) (Or.inl ⟨by rfl,fun w=>by go_simp⟩) ?_
 simp only [Act.put,zq0,zq1,zq2,zq3,zq4,zq5];refine wpAny_take (i:=1) (v:=.pointer (some ⟨B,0,none⟩)) rfl (by kernel_rfl) (by kernel_rfl) (by kernel_rfl) (fun _ _ _ h=>h) (Or.inl ⟨by rfl,fun w=>by go_simp⟩) ?_
 simp only [Act.put,zq0,zq1,zq2,zq3,zq4,zq5];refine wpAny_take (i:=2) (v:=.pointer (some ⟨B,0,none⟩)) rfl (by kernel_rfl) (by kernel_rfl) (by kernel_rfl) (fun _ _ _ h=>h) (Or.inl ⟨by rfl,fun w=>by go_simp⟩) ?_
 simp only [Act.put,zq0,zq1,zq2,zq3,zq4,zq5];refine QaD (g:=5) (T:=fun u=>u=U) _ _ _ _ ?_
 refine Qaz (i:=3) (v:=.slice P.ca S.c.length P.cc) rfl rfl (by kernel_rfl) (by decide) (by kernel_rfl) (by kernel_rfl) (by kernel_rfl) (by kernel_rfl) (fun _ _ _ h=>h) (Or.inl ⟨by rfl,fun w' hw'=>by rw [hw'];clear hw';go_simp⟩) rfl ?_
 simp only [Act.put,zq0,zq1,zq2,zq3,zq4,zq5];refine Qaz (i:=4) (v:=.agg #[.string r,.int .i64 en,.int .i64 pe,.slice a l.length cap]) rfl rfl (by kernel_rfl) (by decide) (by kernel_rfl) (by kernel_rfl) (by kernel_rfl) (by kernel_rfl) (fun _ _ _ h=>h) (Or.inl ⟨by rfl,fun w' hw'=>by rw [hw'];clear hw';go_simp⟩) rfl ?_
 simp only [Act.put,zq0,zq1,zq2,zq3,zq4,zq5];refine Qhw (by kernel_rfl) (by kernel_rfl) ?_
 refine wpOp_step rfl ?_;intro K hK;rw [if_pos (by rfl)]
 have hK':Shut (∀ a w,_→K a w):=hK;clear hK;go_wp2_with fail;refine (HC.out U HBU.out).mono ?_;rintro e w3 ⟨rfl,hb3⟩;have HB3:Hid (Below w2.heap.size w2 w3):=hb3;refine hK'.out _ _ ?_;clear hK' K;clear HC HBU hb3 k0 d0 d1 d2 d3
 try simp only [Act.put,zq0,zq1,zq2,zq3,zq4,zq5]
 refine wpAny_take (i:=6) (v:=enE eb) rfl (by kernel_rfl) (by kernel_rfl) (by kernel_rfl) (fun _ _ _ h=>h) (Or.inl ⟨by rfl,fun w=>by go_simp⟩) ?_
 simp only [Act.put,zq0,zq1,zq2,zq3,zq4,zq5];refine wpAny_done (by kernel_rfl) ?_ _
 by_cases c1:eb≠0
 ·have HE:Hid _:=HBad.out eb w3 c1 (by rw [HPs.out,if_pos c1]) HB3.out
  rw [QaF c1];clear HJ HPs HSt HBg HBad Hll HB3;go_wp2;go_ret2;exact HE.out
 have c1':=Decidable.of_not_not c1;have hll:=Hll.out c1';rw [c1',QbE];have y2:=(HJ.out w3 HB3.out).2.1.c2;have HSt3:Hid (Calls _ _ _ _ _):=HSt.out w3 HB3.out;have HBg3:Hid (Calls _ _ _ _ _):=HBg.out w3 HB3.out;have HPs2:Hid (psB S r en pe l=if 5≤Qa2 S.st pe then 7 else if Qei S pe=true then 7 else if QeF (S.es.map (·.ref)) r=true then 8 else if 200≤S.es.length then 4 else 0):=by unfold Hid;rw [HPs.out,if_neg c1]
 generalize Qa2 S.st pe=sg at *
 clear HPs Hll c1 c1' HSt HBg;by_cases c2:5≤sg
 ·have HE:Hid _:=HBad.out 7 w3 (by decide) (by rw [HPs2.out,if_pos c2]) HB3.out
  clear HJ HPs2 HBg3 HBad HB3;go_wp2_with fail;refine HSt3.out.mono ?_;rintro e w' ⟨rfl,hw⟩;rw [hw];clear hw w' HSt3;go_wp2;go_ret2;exact HE.out
 have HPs3:Hid (psB S r en pe l=if Qei S pe=true then 7 else if QeF (S.es.map (·.ref)) r=true then 8 else if 200≤S.es.length then 4 else 0):=by unfold Hid;rw [HPs2.out,if_neg c2]
 have i2:sg<5:=by omega
 generalize Qei S pe=bg at *
 clear HPs2;cases bg
 case true=>
  have HE:Hid (∀ U,Below w2.heap.size w2 U→_):=fun U hU=>HBad.out 7 U (by decide) (by rw [HPs3.out];rfl) hU
  clear HJ HPs3 HBad HB3;go_wp2_with fail;refine HSt3.out.mono ?_;rintro e w' ⟨rfl,hw⟩;rw [hw];clear hw w' HSt3;go_wp2_with fail;refine HBg3.out.mono ?_;rintro e w4 ⟨rfl,hb4⟩;have HE4:Hid _:=HE.out w4 hb4;clear HE hb4 HBg3 y2;go_wp2;go_ret2;exact HE4.out
 have HPs4:Hid (psB S r en pe l=if QeF (S.es.map (·.ref)) r=true then 8 else if 200≤S.es.length then 4 else 0):=HPs3.out
 clear HPs3;go_wp2_with fail;refine HSt3.out.mono ?_;rintro e w' ⟨rfl,hw⟩;rw [hw];clear hw w' HSt3;go_wp2_with fail;refine HBg3.out.mono ?_;rintro e w4 ⟨rfl,hb4⟩;have HB4:Hid (Below w2.heap.size w2 w4):=hb4;clear hb4 HBg3 y2 HB3;go_upto_region 6 with fail
 refine Qab (by kernel_rfl) ?_
 have HD4:Hid (Below w2.heap.size w2 w4.drew):=HB4.out.drew;generalize w4.drew=v4 at *
 clear HB4;obtain ⟨ir,hir⟩:∃ ir,QeF (S.es.map (·.ref)) r=ir:=⟨_,rfl⟩;have HLk:Hid (∀ u,Below w2.heap.size w2 u→(Instr.lookup 117 (.map (some P.bm)) (.string r) true).run prog u=.ok (.tuple #[.agg #[],.bool ir]) u):=fun u hu=>by rw [← hir];exact run_rlook (HJ.out u hu).1.refs r
 rw [hir] at HPs4;refine wpAny_take (i:=0) (v:=.pointer (some ⟨B,0,none⟩)) rfl (by kernel_rfl) (by kernel_rfl) (by kernel_rfl) (fun _ _ _ h=>h) (Or.inl ⟨by rfl,fun w=>by go_simp⟩) ?_
 simp only [Act.put,zq0,zq1,zq2,zq3,zq4,zq5];refine wpAny_take (i:=1) (v:=.pointer (some ⟨B,0,none⟩)) rfl (by kernel_rfl) (by kernel_rfl) (by kernel_rfl) (fun _ _ _ h=>h) (Or.inl ⟨by rfl,fun w=>by go_simp⟩) ?_
 simp only [Act.put,zq0,zq1,zq2,zq3,zq4,zq5];refine wpAny_take (i:=2) (v:=.pointer (some ⟨B,9,none⟩)) rfl (by kernel_rfl) (by kernel_rfl) (by kernel_rfl) (fun _ _ _ h=>h) (Or.inl ⟨by rfl,fun w=>by go_simp⟩) ?_
 simp only [Act.put,zq0,zq1,zq2,zq3,zq4,zq5];refine wpAny_take (i:=4) (v:=.pointer (some ⟨W.heap.size,0,none⟩)) rfl (by kernel_rfl) (by kernel_rfl) (by kernel_rfl) (fun _ _ _ h=>h) (Or.inl ⟨by rfl,fun w=>by go_simp⟩) ?_
 simp only [Act.put,zq0,zq1,zq2,zq3,zq4,zq5];refine QaD (g:=11) (T:=fun u=>Below w2.heap.size w2 u) _ _ _ _ ?_
 refine Qam [6,7,8,11] (i:=3) (v:=.map (some P.bm)) rfl (by kernel_rfl) (by kernel_rfl) (by decide) (by kernel_rfl) (by kernel_rfl) (by kernel_rfl) (by kernel_rfl) (fun _ _ _ h=>h) (Or.inl ⟨by rfl,fun w' hw'=>by have c0:=(HJ.out w' hw').1.cell 9;simp only [Qbq,List.getElem?_toArray,List.getElem?_cons_succ,List.getElem?_cons_zero] at c0;clear hw';go_simp⟩) HD4.out ?_
 simp only [Act.put,zq0,zq1,zq2,zq3,zq4,zq5];refine Qam [6,7,8,11] (i:=5) (v:=.string r) rfl (by kernel_rfl) (by kernel_rfl) (by decide) (by kernel_rfl) (by kernel_rfl) (by kernel_rfl) (by kernel_rfl) (fun _ _ _ h=>h) (Or.inl ⟨by rfl,fun w' hw'=>by have c0:=(HJ.out w' hw').2.1.c0;clear hw';go_simp⟩) HD4.out ?_
 simp only [Act.put,zq0,zq1,zq2,zq3,zq4,zq5];refine Qam [7,8,11] (i:=6) (v:=.tuple #[.agg #[],.bool ir]) rfl (by kernel_rfl) (by kernel_rfl) (by decide) (by kernel_rfl) (by kernel_rfl) (by kernel_rfl) (by kernel_rfl) (fun _ _ _ h=>h) (Or.inl ⟨by rfl,fun w' hw'=>by have c0:=HLk.out w' hw';clear hw';go_simp⟩) HD4.out ?_
 simp only [Act.put,zq0,zq1,zq2,zq3,zq4,zq5];refine Qam [8,11] (i:=7) (v:=.tuple #[.agg #[],.bool ir]) rfl (by kernel_rfl) (by kernel_rfl) (by decide) (by kernel_rfl) (by kernel_rfl) (by kernel_rfl) (by kernel_rfl) (fun _ _ _ h=>h) (Or.inl ⟨by rfl,fun w' hw'=>by clear hw';go_simp⟩) HD4.out ?_
 simp only [Act.put,zq0,zq1,zq2,zq3,zq4,zq5];refine Qam [11] (i:=8) (v:=.agg #[]) rfl (by kernel_rfl) (by kernel_rfl) (by decide) (by kernel_rfl) (by kernel_rfl) (by kernel_rfl) (by kernel_rfl) (fun _ _ _ h=>h) (Or.inl ⟨by rfl,fun w' hw'=>by clear hw';go_simp⟩) HD4.out ?_
 simp only [Act.put,zq0,zq1,zq2,zq3,zq4,zq5];refine QaP (i:=9) (v:=.bool ir) rfl (by decide) (by kernel_rfl) (by kernel_rfl) (by kernel_rfl) (fun _ _ _ h=>h) (Or.inl ⟨by rfl,fun w' _=>by go_simp⟩) HD4.out ?_
 simp only [Act.put,zq0,zq1,zq2,zq3,zq4,zq5];refine L_oneJ (i:=10) (by kernel_rfl) ?_
 refine wpOp_step rfl ?_;intro K hK;rw [if_pos (by rfl)]
 have hK':Shut (∀ a w,_→K a w):=hK;clear hK;go_wp2_with fail;obtain ⟨v5,hv5⟩:∃ v5,v4.alloc (.cells #[] 125)=v5:=⟨_,rfl⟩;have H5:Hid (Below w2.heap.size w2 v5):=by
  unfold Hid;rw [← hv5];exact HD4.out.alloc HD4.out.size _
 have hn5:v5.heap[v4.heap.size]? = some (.cells #[] 125 (0,0)):=by rw [← hv5];exact World.alloc_heap_new v4 _
 rw [hv5];refine hK'.out _ _ ⟨H5.out,?_⟩;clear hK' K hv5 HD4 HLk
 try simp only [Act.put,zq0,zq1,zq2,zq3,zq4,zq5]
 refine Qhw (by kernel_rfl) (by kernel_rfl) ?_
 refine wpOp_step rfl ?_;intro K hK;rw [if_pos (by rfl)]
 have hK':Shut (∀ a w,_→K a w):=hK;clear hK;go_wp2_with fail;refine hK'.out _ _ ?_;clear hK' K;clear hn5
 try simp only [Act.put,zq0,zq1,zq2,zq3,zq4,zq5]
 refine wpAny_take (i:=12) (v:=.bool ir) rfl (by kernel_rfl) (by kernel_rfl) (by kernel_rfl) (fun _ _ _ h=>h) (Or.inl ⟨by rfl,fun w=>by go_simp⟩) ?_
 simp only [Act.put,zq0,zq1,zq2,zq3,zq4,zq5];refine wpAny_done (by kernel_rfl) ?_ _
 cases ir
 case true=>
  have HE:Hid _:=HBad.out 8 v5 (by decide) (by rw [HPs4.out];rfl) H5.out
  clear HJ HPs4 HBad H5;go_wp2;go_ret2;exact HE.out
 have HPs5:Hid (psB S r en pe l=if 200≤S.es.length then 4 else 0):=HPs4.out
 have j5:=HJ.out v5 H5.out;have k8:v5.cell? ⟨B,8,none⟩=some (.slice P.ea S.es.length P.ec):=j5.1.cell 8;clear HPs4;by_cases c5:200≤S.es.length
 ·have HE:Hid _:=HBad.out 4 v5 (by decide) (by rw [HPs5.out,if_pos c5]) H5.out
  have c5':(200:Int)≤S.es.length:=by omega
  clear HJ HPs5 HBad H5 j5;go_wp2;go_ret2;exact HE.out
 have c5':(S.es.length:Int)<200:=by omega
 have hps:psB S r en pe l=0:=by rw [HPs5.out,if_neg c5]
 have d0:=j5.2.1.c0;have d1:=j5.2.1.c1;have d2:=j5.2.1.c2;have d3:=j5.2.1.c3;have HTk:Hid (Calls _ _ _ _ _):=take_any j5.1 (by omega) r en pe a cap l j5.2.2.2 hll
 have HB5:Hid (Below W.heap.size W v5):=j5.2.2.1;have HPz:Hid (psB S r en pe l=0):=hps;clear HJ HPs5 HBad H5 j5 hps;go_wp2_with fail;refine HTk.out.mono ?_;rintro e w6 ⟨rfl,g,cp,a',cap',h6⟩;have k86:w6.cell? ⟨B,8,none⟩=some (.slice (some ⟨g,0,none⟩) (S.es.length+1) cp):=by
  have:=h6.out.1.cell 8
  simp only [Qbq,Cs.add,List.length_append,List.length_cons,List.length_nil,Nat.zero_add] at this;exact this
 have HF:Hid (PsEnd W n0 m0 B P S r en pe l (psB S r en pe l) (.returned (.tuple #[.int .i64 (S.es.length:Int),.nilIface])) w6):=by
  refine .inr ⟨HPz.out,rfl,g,cp,a',cap',h6.out.1,(Qa9.of_below HB5.out).trans h6.out.2.1,?_⟩;rcases h6.out.2.2 with q | q
  ·exact .inl q
  ·exact .inr (Nat.le_trans HB5.out.size q)
 have wl:IntKind.i64.wrap ((S.es.length:Int)+1 - 1)=(S.es.length:Int):=by
  have e:(S.es.length:Int)+1 - 1=S.es.length:=by omega
  rw [e];simp only [IntKind.wrap,IntKind.bits,IntKind.signed];simp;omega
 clear HTk h6 d0 d1 d2 d3 k8 HB5 HPz;go_wp2;go_ret2;exact HF.out
end
end
section
open Go.RowKit Go.Lib Go.Proofs.Tryz
section
variable {W:World} {n0 m0 B:Nat} {P:Cp} {S:Cs}
end
end
section
open Go.RowKit Go.Lib Go.Proofs.Tryz
section
variable {W:World} {n0 m0 B:Nat} {P:Cp} {S:Cs}
end
end
end Go.Proofs.YtjifbbdkpanagaaGreatDoor
