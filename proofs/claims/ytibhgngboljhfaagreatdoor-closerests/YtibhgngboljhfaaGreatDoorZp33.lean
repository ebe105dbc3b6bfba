/-
  Part of a proof (see the last text).
-/
import Derived.Test.YtibhgngboljhfaaGreatDoorZp32
set_option linter.unusedVariables false
set_option linter.unusedSimpArgs false
set_option maxRecDepth 100000
namespace Go.Proofs.YtibhgngboljhfaaGreatDoor
section
open Go.RowKit Go.Lib Go.Proofs.Tryz
structure ClEv (S:Cs):Prop where
 ok:Qiz S
 ev:∀ x∈S.es,0<x.lns.length∧x.lns.length≤20∧QaA Qaq x.lns∧∀ y∈Qai x.lns,y.amt=0
def psB (S:Cs) (r:ByteArray) (en pe:Int) (l:List Ln):Int:=
 if QaZ S.c r en pe l≠0 then QaZ S.c r en pe l else if 5≤QaV S.st pe then 7 else if QeF S pe=true then 7 else if QeV (S.es.map (·.ref)) r=true then 8 else if 200≤S.es.length then 4 else 0
theorem psB_ok {S:Cs} {r:ByteArray} {en pe:Int} {l:List Ln} (h:psB S r en pe l=0):QaZ S.c r en pe l=0∧QaV S.st pe<5∧QeF S pe=false∧QeV (S.es.map (·.ref)) r=false∧S.es.length<200:=by
 unfold psB at h;split at h
 ·contradiction
 rename_i h1;split at h
 ·omega
 rename_i h2;split at h
 ·omega
 rename_i h3;split at h
 ·omega
 rename_i h4;split at h
 ·omega
 rename_i h5;exact ⟨Decidable.of_not_not h1,by omega,by simpa using h3,by simpa using h4,by omega⟩
theorem lnBad_ok {c:List Ac} {x:Ln} (h:Qct c x=0):Qaa c x.acc=0∧Qam x.cur=true∧Qas x.amt=true:=by
 rw [Qf0] at h;split at h
 ·contradiction
 rename_i h1;split at h
 ·omega
 rename_i h2;split at h
 ·omega
 rename_i h3;simp only [not_or] at h3;exact ⟨Decidable.of_not_not h1,by simpa using h2,by simpa using h3.2⟩
theorem head_en {r:ByteArray} {en pe:Int} {n:Nat} (h:QaH r en pe n=0):Qak en 12=true∧Qak pe 120=true:=by
 unfold QaH at h;split at h
 ·omega
 ·split at h
  ·omega
  ·rename_i h2;simp only [not_or] at h2;exact ⟨by simpa using h2.1,by simpa using h2.2⟩
theorem ev_zero {l:List Ln} (h:evenL l):∀ y∈Qai l,y.amt=0:=fun y hy=>by
 have:=QgJ.2 h
 rw [List.any_eq_false] at this
 have:=this y hy
 simpa [nullL] using this
theorem ClEv.post {S:Cs} (h:ClEv S) {r:ByteArray} {en pe:Int} {l:List Ln} (h0:psB S r en pe l=0) (a:Option Addr) (cap:Nat):ClEv (S.add ⟨r,en,pe,a,cap,l⟩):=by
 obtain ⟨k1,_,_,_,k5⟩:=psB_ok h0;obtain ⟨_,e2,e3,e4⟩:=Qiu.1 k1;have hl:=Qe4 e2;obtain ⟨u1,u2⟩:=head_en e2;have hln:∀ y∈l,Qaa S.c y.acc=0∧Qam y.cur=true∧Qas y.amt=true:=fun y hy=>lnBad_ok (QfL e3 y hy)
 have o:=h.ok;have hmem:∀ x∈(S.add ⟨r,en,pe,a,cap,l⟩).es,x∈S.es∨x=⟨r,en,pe,a,cap,l⟩:=fun x hx=>by
  rcases List.mem_append.1 hx with hx | hx
  ·exact .inl hx
  ·exact .inr (List.mem_singleton.1 hx)
 refine ⟨⟨o.c,o.T,o.g,o.b,o.ga,o.ke,o.pn,o.po,o.pr,?_,fun x hx=>?_,fun x hx=>?_,o.sg,o.st⟩,fun x hx=>?_⟩
 ·show (S.es++[_]).length≤200;rw [List.length_append,List.length_singleton];omega
 ·rcases hmem x hx with hx | rfl
  ·exact o.lns x hx
  ·refine ⟨hl.2,fun y hy=>?_⟩
   obtain ⟨q1,q2,q3⟩:=hln y hy;have q4:=Qa8.1 q3;unfold Qaq at q4;exact ⟨q4,q1,q2⟩
 ·rcases hmem x hx with hx | rfl
  ·exact o.per x hx
  ·exact ⟨u2,u1⟩
 ·rcases hmem x hx with hx | rfl
  ·exact h.ev x hx
  ·exact ⟨by show 0<l.length;omega,hl.2,fun y hy=>Qa8.1 (hln y hy).2.2,ev_zero e4⟩
theorem rnE_mem (n:Nat) (M:List Ep):∀ k,k≤M.length→∀ x∈rnE n M k,∃ j,j<k∧x={ M.getD j ep0 with ref:=Qf4 (n+j) }
 | 0,_,x,hx=>by cases hx
 | k+1,hk,x,hx=>by
  rw [rnE] at hx;rcases List.mem_append.1 hx with hx | hx
  ·obtain ⟨j,hj,e⟩:=rnE_mem n M k (by omega) x hx
   exact ⟨j,by omega,e⟩
  ·exact ⟨k,by omega,List.mem_singleton.1 hx⟩
theorem Qjg:∀ (T:List (Int×Int)) (p v:Int),∀ x∈Qcw T p v,x.1=p∨∃ y∈T,y.1=x.1
 | [],p,v,x,hx=>by
  simp only [Qcw,List.mem_singleton] at hx;subst hx;exact .inl rfl
 | y :: T,p,v,x,hx=>by
  unfold Qcw at hx;split at hx
  ·rcases List.mem_cons.1 hx with rfl | hx
   ·exact .inl rfl
   ·exact .inr ⟨x,by simp [hx],rfl⟩
  ·rcases List.mem_cons.1 hx with rfl | hx
   ·exact .inr ⟨x,by simp,rfl⟩
   ·rcases Qjg T p v x hx with e | ⟨z,hz,e⟩
    ·exact .inl e
    ·exact .inr ⟨z,by simp [hz],e⟩
theorem avPre_ok {S:Cs} {pe:Int} (h:Qc3 S pe=0):Qak pe 120=true∧QaV S.st pe≠6∧Qck S (pe.toNat - 1)=true∧oeE (Qau pe) S.es=0:=by
 unfold Qc3 at h;split at h
 ·omega
 rename_i h1;split at h
 ·omega
 rename_i h2;split at h
 ·omega
 rename_i h3;exact ⟨by simpa using h1,h2,by simpa using h3,h⟩
theorem avErr_ok {S:Cs} {pe:Int} {R:List Bl} {zb:Int} {ze:List Ep} (h:Qea S pe R zb ze=0):Qee S R pe (QaV S.st pe+1) zb=0∧S.es.length+(Qes S R pe (QaV S.st pe+1) ze).length≤200:=by
 unfold Qea at h;split at h
 ·contradiction
 rename_i h1;split at h
 ·omega
 rename_i h2;exact ⟨Decidable.of_not_not h1,by omega⟩
theorem ClEv.adv {S:Cs} (h:ClEv S) {pe:Int} {R:List Bl} (hp:Qc3 S pe=0) (hR:OeR (Qau pe) S.es R) (he:Qea S pe R (Qc1 S.c R) (QeM S.c S.kept pe R)=0) {es:List Je}
  (hes:es.map Je.ep=S.es.map Je.ep++rnE S.es.length (Qes S R pe (QaV S.st pe+1) (QeM S.c S.kept pe R)) (Qes S R pe (QaV S.st pe+1) (QeM S.c S.kept pe R)).length) :
  ClEv { S with es:=es,st:=Qcw S.st pe (QaV S.st pe+1) }∧es.length=S.es.length+(Qes S R pe (QaV S.st pe+1) (QeM S.c S.kept pe R)).length ∧
   ∀ k,S.es.length≤k→k<es.length→(es.getD k je0).per=pe∧(es.getD k je0).ref=Qf4 k:=by
 obtain ⟨p1,p2,_,_⟩:=avPre_ok hp;obtain ⟨q1,q2⟩:=avErr_ok he;have hgood:∀ x∈Qes S R pe (QaV S.st pe+1) (QeM S.c S.kept pe R),EpOk S.c pe x:=fun x hx=>bg_good h.ok hR q1 hx
 generalize Qes S R pe (QaV S.st pe+1) (QeM S.c S.kept pe R)=M at *
 have o:=h.ok;have hlen:es.length=S.es.length+M.length:=by
  have:=congrArg List.length hes
  rw [List.length_append,QhV,List.length_map,List.length_map] at this;exact this
 have hmem:∀ x∈es,(∃ y∈S.es,y.ep=x.ep)∨∃ z∈M,x.lns=z.lns∧x.per=z.per∧x.ent=z.ent:=fun x hx=>by
  have hx2:x.ep∈es.map Je.ep:=List.mem_map_of_mem hx;rw [hes] at hx2;rcases List.mem_append.1 hx2 with hx2 | hx2
  ·obtain ⟨y,hy,e⟩:=List.mem_map.1 hx2;exact .inl ⟨y,hy,e⟩
  ·obtain ⟨j,hj,e⟩:=rnE_mem _ _ _ (Nat.le_refl _) _ hx2;refine .inr ⟨M.getD j ep0,?_,?_⟩
   ·rw [List.getD_eq_getElem?_getD,List.getElem?_eq_getElem hj];exact List.getElem_mem hj
   ·unfold Je.ep at e;rw [Ep.mk.injEq] at e;exact ⟨e.2.2.2,e.2.2.1,e.2.1⟩
 have hsame:∀ {x y:Je},y.ep=x.ep→y.lns=x.lns∧y.per=x.per∧y.ent=x.ent:=fun {x y} e=>by
  unfold Je.ep at e;rw [Ep.mk.injEq] at e;exact ⟨e.2.2.2,e.2.2.1,e.2.1⟩
 refine ⟨⟨⟨o.c,o.T,o.g,o.b,o.ga,o.ke,o.pn,o.po,o.pr,?_,fun x hx=>?_,fun x hx=>?_,fun q=>?_,fun x hx=>?_⟩,fun x hx=>?_⟩,hlen,fun k hk1 hk2=>?_⟩
 ·show es.length≤200;omega
 ·rcases hmem x hx with ⟨y,hy,e⟩ | ⟨z,hz,e1,e2,e3⟩
  ·rw [← (hsame e).1];exact o.lns y hy
  ·rw [e1];have g:=hgood z hz;refine ⟨g.len.2,fun y hy=>⟨?_,(g.ln y hy).1,(g.ln y hy).2⟩⟩
   have:=g.wi y hy
   unfold Qaq at this;exact this
 ·rcases hmem x hx with ⟨y,hy,e⟩ | ⟨z,hz,e1,e2,e3⟩
  ·rw [← (hsame e).2.1,← (hsame e).2.2];exact o.per y hy
  ·have g:=hgood z hz;rw [e2,e3,g.per];exact ⟨p1,g.ent⟩
 ·show 0≤QaV (Qcw _ _ _) q∧QaV (Qcw _ _ _) q≤6;rw [Qei];have h1:=o.sg pe;have h2:=o.sg q
  split
  ·omega
  ·exact h2
 ·rcases Qjg _ _ _ x hx with e | ⟨y,hy,e⟩
  ·rw [e];exact p1
  ·rw [← e];exact o.st y hy
 ·rcases hmem x hx with ⟨y,hy,e⟩ | ⟨z,hz,e1,e2,e3⟩
  ·rw [← (hsame e).1];exact h.ev y hy
  ·rw [e1];have g:=hgood z hz;exact ⟨g.len.1,g.len.2,g.wi,g.ev⟩
 ·have hg:(es.map Je.ep)[k]? = some (es.getD k je0).ep:=by
   rw [List.getElem?_map,List.getElem?_eq_getElem hk2,List.getD_eq_getElem?_getD,List.getElem?_eq_getElem hk2];rfl
  rw [hes,List.getElem?_append_right (by rw [List.length_map];exact hk1),List.length_map] at hg
  have key:∀ m i,i<m→m≤M.length→(rnE S.es.length M m)[i]? = some { M.getD i ep0 with ref:=Qf4 (S.es.length+i) }:=by
   intro m
   induction m with
   | zero=>intro i hi;omega
   | succ m ih=>
    intro i hi hm;rw [rnE];by_cases e:i=m
    ·subst e;rw [List.getElem?_append_right (by rw [QhV];exact Nat.le_refl _),QhV,Nat.sub_self]
     rfl
    ·rw [List.getElem?_append_left (by rw [QhV];omega)]
     exact ih i (by omega) (by omega)
  rw [key _ _ (by omega) (Nat.le_refl _)] at hg
  have e:=Option.some.inj hg;unfold Je.ep at e;rw [Ep.mk.injEq] at e;have hz:M.getD (k - S.es.length) ep0∈M:=by
   rw [List.getD_eq_getElem?_getD,List.getElem?_eq_getElem (by omega)];exact List.getElem_mem (by omega)
  refine ⟨by rw [← e.2.2.1];exact (hgood _ hz).per,?_⟩
  rw [← e.1];congr 1;omega
end
section
open Go.RowKit Go.Lib Go.Proofs.Tryz
def PsEnd (W:World) (n0 m0 B:Nat) (P:Cp) (S:Cs) (r:ByteArray) (en pe:Int) (l:List Ln) (z:Int) (e:Ending) (w':World):Prop:=
 (z≠0∧e=.returned (.tuple #[.int .i64 0,.iface 68 (.int .i64 z)])∧Below W.heap.size W w') ∨
 (z=0∧e=.returned (.tuple #[.int .i64 (S.es.length:Int),.nilIface])∧∃ g cp a' cap',Qby w' n0 m0 B { P with ea:=some ⟨g,0,none⟩,ec:=cp } (S.add ⟨r,en,pe,a',cap',l⟩)∧QaF (clT B P S.es.length) W w'∧((Value.slice P.ea S.es.length P.ec).ownBlock=some g∨W.heap.size≤g))
section
variable {W:World} {n0 m0 B:Nat} {P:Cp} {S:Cs}
set_option maxHeartbeats 8000000 in
theorem clPost_any (h:Qby W n0 m0 B P S) (hlen:S.es.length≤1000) (r:ByteArray) (en pe:Int) (a:Option Addr) (cap:Nat) (l:List Ln) (hl:Qc5 W a l cap) :
  Calls prog 6 #[.pointer (some ⟨B,0,none⟩),.agg #[.string r,.int .i64 en,.int .i64 pe,.slice a l.length cap]] W (PsEnd W n0 m0 B P S r en pe l (psB S r en pe l)):=by
 obtain ⟨w2,hw2⟩:∃ w2,W.alloc (.cells #[.string r,.int .i64 en,.int .i64 pe,.slice a l.length cap] 38)=w2:=⟨_,rfl⟩;have B2:Below W.heap.size W w2:=by rw [← hw2];exact (Below.refl _ W).alloc (Nat.le_refl _) _
 have x2:Qcv w2 W.heap.size r en pe (.slice a l.length cap):=by rw [← hw2];exact Qcv.new W r en pe (.slice a l.length cap)
 have hs2e:W.heap.size<w2.heap.size:=by rw [← hw2];simp
 have HW2:Hid (W.alloc (.cells #[.string r,.int .i64 en,.int .i64 pe,.slice a l.length cap] 38)=w2):=hw2;have HBU:Hid (Below w2.heap.size w2 w2.drew):=(Below.refl _ w2).drew;have HC:Hid (∀ U,Below w2.heap.size w2 U→Calls prog 28 #[.slice P.ca S.c.length P.cc,.agg #[.string r,.int .i64 en,.int .i64 pe,.slice a l.length cap]] U fun e w'=>e=.returned (enE (QaZ S.c r en pe l))∧Below w2.heap.size w2 w'):=fun U hU=>by
  have bU:=B2.trans (hU.mono B2.size);refine (check_any P.ca P.cc S.c r en pe a cap l U (h.below bU).dat.ch (hl.below bU)).mono ?_;rintro e w' ⟨rfl,hb⟩;exact ⟨rfl,hU.trans (hb.mono hU.size)⟩
 have HJ:Hid (∀ U,Below w2.heap.size w2 U→Qby U n0 m0 B P S∧Qcv U W.heap.size r en pe (.slice a l.length cap)∧Below W.heap.size W U∧Qc5 U a l cap):=fun U hU=>by
  have bU:=B2.trans (hU.mono B2.size);exact ⟨h.below bU,x2.below hU hs2e,bU,hl.below bU⟩
 have k0:w2.drew.cell? ⟨B,0,none⟩=some (.slice P.ca S.c.length P.cc):=(HJ.out _ HBU.out).1.cell 0;obtain ⟨d0,d1,d2,d3⟩:w2.drew.cell? ⟨W.heap.size,0,none⟩=some (.string r)∧w2.drew.cell? ⟨W.heap.size,1,none⟩=some (.int .i64 en)∧w2.drew.cell? ⟨W.heap.size,2,none⟩=some (.int .i64 pe)∧w2.drew.cell? ⟨W.heap.size,3,none⟩=some (.slice a l.length cap):=⟨(HJ.out _ HBU.out).2.1.c0,(HJ.out _ HBU.out).2.1.c1,(HJ.out _ HBU.out).2.1.c2,(HJ.out _ HBU.out).2.1.c3⟩
 have HPs:Hid (psB S r en pe l=if QaZ S.c r en pe l≠0 then QaZ S.c r en pe l else if 5≤QaV S.st pe then 7 else if QeF S pe=true then 7 else if QeV (S.es.map (·.ref)) r=true then 8 else if 200≤S.es.length then 4 else 0):=rfl
 have HBad:Hid (∀ z U,z≠0→psB S r en pe l=z→Below w2.heap.size w2 U→PsEnd W n0 m0 B P S r en pe l (psB S r en pe l) (.returned (.tuple #[.int .i64 0,.iface 68 (.int .i64 z)])) U):=fun z U h0 h1 hU=>.inl ⟨by rw [h1];exact h0,by rw [h1],(HJ.out U hU).2.2.1⟩
 have HBg:Hid (∀ U,Below w2.heap.size w2 U→Calls prog 29 #[.pointer (some ⟨B,0,none⟩),.int .i64 pe] U fun e w'=>e=.returned (.bool (QeF S pe))∧Below w2.heap.size w2 w'):=fun U hU=>by
  refine (Qhc (HJ.out U hU).1 pe).mono ?_;rintro e w' ⟨rfl,hb⟩;exact ⟨rfl,hU.trans (hb.mono hU.size)⟩
 have HSt:Hid (∀ U,Below w2.heap.size w2 U→Calls prog 10 #[.pointer (some ⟨B,0,none⟩),.int .i64 pe] U fun e w'=>e=.returned (.int .i64 (QaV S.st pe))∧w'=U):=fun U hU=>Qec (HJ.out U hU).1 pe
 have Hll:Hid (QaZ S.c r en pe l=0→l.length≤1000):=fun h0=>by
  have:=Qe4 (Qiu.1 h0).2.1
  omega
 have hle:(S.es.length:Int)≤1000:=by omega
 have hlt2:W.heap.size≤w2.heap.size:=by omega
 clear h hl hw2 B2 x2;obtain ⟨eb,heb⟩:∃ eb,QaZ S.c r en pe l=eb:=⟨_,rfl⟩;rw [heb] at HC HPs Hll;clear heb;go_enter func6,ntmps6
 go_upto_region 1 with fail
 rw [HW2.out];clear HW2;refine Qal (by kernel_rfl) ?_
 generalize w2.drew=U at *
 refine wpAny_take (i:=0) (v:=.pointer (some ⟨B,0,none⟩)) rfl (by kernel_rfl) (by kernel_rfl) (by kernel_rfl) (fun _ _ _ h=>h) (Or.inl ⟨by rfl,fun w=>by go_simp⟩) ?_
 simp only [Act.put,zq0,zq1,zq2,zq3,zq4,zq5];refine wpAny_take (i:=1) (v:=.pointer (some ⟨B,0,none⟩)) rfl (by kernel_rfl) (by kernel_rfl) (by kernel_rfl) (fun _ _ _ h=>h) (Or.inl ⟨by rfl,fun w=>by go_simp⟩) ?_
 simp only [Act.put,zq0,zq1,zq2,zq3,zq4,zq5];refine wpAny_take (i:=2) (v:=.pointer (some ⟨B,0,none⟩)) rfl (by kernel_rfl) (by kernel_rfl) (by kernel_rfl) (fun _ _ _ h=>h) (Or.inl ⟨by rfl,fun w=>by go_simp⟩) ?_
 simp only [Act.put,zq0,zq1,zq2,zq3,zq4,zq5];refine Qbq (g:=5) (T:=fun u=>u=U) _ _ _ _ ?_
 refine Qfg (i:=3) (v:=.slice P.ca S.c.length P.cc) rfl rfl (by kernel_rfl) (by decide) (by kernel_rfl) (by kernel_rfl) (by kernel_rfl) (by kernel_rfl) (fun _ _ _ h=>h) (Or.inl ⟨by rfl,fun w' hw'=>by rw [hw'];clear hw';go_simp⟩) rfl ?_
 simp only [Act.put,zq0,zq1,zq2,zq3,zq4,zq5];refine Qfg (i:=4) (v:=.agg #[.string r,.int .i64 en,.int .i64 pe,.slice a l.length cap]) rfl rfl (by kernel_rfl) (by decide) (by kernel_rfl) (by kernel_rfl) (by kernel_rfl) (by kernel_rfl) (fun _ _ _ h=>h) (Or.inl ⟨by rfl,fun w' hw'=>by rw [hw'];clear hw';go_simp⟩) rfl ?_
 simp only [Act.put,zq0,zq1,zq2,zq3,zq4,zq5];refine L_go (by kernel_rfl) (by kernel_rfl) ?_
 refine wpOp_step rfl ?_;intro K hK;rw [if_pos (by rfl)]
 have hK':Shut (∀ a w,_→K a w):=hK;clear hK;go_wp2_with fail;refine (HC.out U HBU.out).mono ?_;rintro e w3 ⟨rfl,hb3⟩;have HB3:Hid (Below w2.heap.size w2 w3):=hb3;refine hK'.out _ _ ?_;clear hK' K;clear HC HBU hb3 k0 d0 d1 d2 d3
 try simp only [Act.put,zq0,zq1,zq2,zq3,zq4,zq5]
 refine wpAny_take (i:=6) (v:=enE eb) rfl (by kernel_rfl) (by kernel_rfl) (by kernel_rfl) (fun _ _ _ h=>h) (Or.inl ⟨by rfl,fun w=>by go_simp⟩) ?_
 simp only [Act.put,zq0,zq1,zq2,zq3,zq4,zq5];refine wpAny_done (by kernel_rfl) ?_ _
 by_cases c1:eb≠0
 ·have HE:Hid _:=HBad.out eb w3 c1 (by rw [HPs.out,if_pos c1]) HB3.out
  rw [Qbb c1];clear HJ HPs HSt HBg HBad Hll HB3;go_wp2;go_ret2;exact HE.out
 have c1':=Decidable.of_not_not c1;have hll:=Hll.out c1';rw [c1',QcR];have y2:=(HJ.out w3 HB3.out).2.1.c2;have HSt3:Hid (Calls _ _ _ _ _):=HSt.out w3 HB3.out;have HBg3:Hid (Calls _ _ _ _ _):=HBg.out w3 HB3.out;have HPs2:Hid (psB S r en pe l=if 5≤QaV S.st pe then 7 else if QeF S pe=true then 7 else if QeV (S.es.map (·.ref)) r=true then 8 else if 200≤S.es.length then 4 else 0):=by unfold Hid;rw [HPs.out,if_neg c1]
 generalize QaV S.st pe=sg at *
 clear HPs Hll c1 c1' HSt HBg;by_cases c2:5≤sg
 ·have HE:Hid _:=HBad.out 7 w3 (by decide) (by rw [HPs2.out,if_pos c2]) HB3.out
  clear HJ HPs2 HBg3 HBad HB3;go_wp2_with fail;refine HSt3.out.mono ?_;rintro e w' ⟨rfl,hw⟩;rw [hw];clear hw w' HSt3;go_wp2;go_ret2;exact HE.out
 have HPs3:Hid (psB S r en pe l=if QeF S pe=true then 7 else if QeV (S.es.map (·.ref)) r=true then 8 else if 200≤S.es.length then 4 else 0):=by unfold Hid;rw [HPs2.out,if_neg c2]
 have i2:sg<5:=by omega
 generalize QeF S pe=bg at *
 clear HPs2;cases bg
 case true=>
  have HE:Hid (∀ U,Below w2.heap.size w2 U→_):=fun U hU=>HBad.out 7 U (by decide) (by rw [HPs3.out];rfl) hU
  clear HJ HPs3 HBad HB3;go_wp2_with fail;refine HSt3.out.mono ?_;rintro e w' ⟨rfl,hw⟩;rw [hw];clear hw w' HSt3;go_wp2_with fail;refine HBg3.out.mono ?_;rintro e w4 ⟨rfl,hb4⟩;have HE4:Hid _:=HE.out w4 hb4;clear HE hb4 HBg3 y2;go_wp2;go_ret2;exact HE4.out
 have HPs4:Hid (psB S r en pe l=if QeV (S.es.map (·.ref)) r=true then 8 else if 200≤S.es.length then 4 else 0):=HPs3.out
 clear HPs3;go_wp2_with fail;refine HSt3.out.mono ?_;rintro e w' ⟨rfl,hw⟩;rw [hw];clear hw w' HSt3;go_wp2_with fail;refine HBg3.out.mono ?_;rintro e w4 ⟨rfl,hb4⟩;have HB4:Hid (Below w2.heap.size w2 w4):=hb4;clear hb4 HBg3 y2 HB3;go_upto_region 6 with fail
 refine Qal (by kernel_rfl) ?_
 have HD4:Hid (Below w2.heap.size w2 w4.drew):=HB4.out.drew;generalize w4.drew=v4 at *
 clear HB4;obtain ⟨ir,hir⟩:∃ ir,QeV (S.es.map (·.ref)) r=ir:=⟨_,rfl⟩;have HLk:Hid (∀ u,Below w2.heap.size w2 u→(Instr.lookup 76 (.map (some P.bm)) (.string r) true).run prog u=.ok (.tuple #[.agg #[],.bool ir]) u):=fun u hu=>by rw [← hir];exact run_rlook (HJ.out u hu).1.refs r
 rw [hir] at HPs4;refine wpAny_take (i:=0) (v:=.pointer (some ⟨B,0,none⟩)) rfl (by kernel_rfl) (by kernel_rfl) (by kernel_rfl) (fun _ _ _ h=>h) (Or.inl ⟨by rfl,fun w=>by go_simp⟩) ?_
 simp only [Act.put,zq0,zq1,zq2,zq3,zq4,zq5];refine wpAny_take (i:=1) (v:=.pointer (some ⟨B,0,none⟩)) rfl (by kernel_rfl) (by kernel_rfl) (by kernel_rfl) (fun _ _ _ h=>h) (Or.inl ⟨by rfl,fun w=>by go_simp⟩) ?_
 simp only [Act.put,zq0,zq1,zq2,zq3,zq4,zq5];refine wpAny_take (i:=2) (v:=.pointer (some ⟨B,9,none⟩)) rfl (by kernel_rfl) (by kernel_rfl) (by kernel_rfl) (fun _ _ _ h=>h) (Or.inl ⟨by rfl,fun w=>by go_simp⟩) ?_
 simp only [Act.put,zq0,zq1,zq2,zq3,zq4,zq5];refine wpAny_take (i:=4) (v:=.pointer (some ⟨W.heap.size,0,none⟩)) rfl (by kernel_rfl) (by kernel_rfl) (by kernel_rfl) (fun _ _ _ h=>h) (Or.inl ⟨by rfl,fun w=>by go_simp⟩) ?_
 simp only [Act.put,zq0,zq1,zq2,zq3,zq4,zq5];refine Qbq (g:=11) (T:=fun u=>Below w2.heap.size w2 u) _ _ _ _ ?_
 refine Qad [6,7,8,11] (i:=3) (v:=.map (some P.bm)) rfl (by kernel_rfl) (by kernel_rfl) (by decide) (by kernel_rfl) (by kernel_rfl) (by kernel_rfl) (by kernel_rfl) (fun _ _ _ h=>h) (Or.inl ⟨by rfl,fun w' hw'=>by have c0:=(HJ.out w' hw').1.cell 9;simp only [QaG,List.getElem?_toArray,List.getElem?_cons_succ,List.getElem?_cons_zero] at c0;clear hw';go_simp⟩) HD4.out ?_
 simp only [Act.put,zq0,zq1,zq2,zq3,zq4,zq5];refine Qad [6,7,8,11] (i:=5) (v:=.string r) rfl (by kernel_rfl) (by kernel_rfl) (by decide) (by kernel_rfl) (by kernel_rfl) (by kernel_rfl) (by kernel_rfl) (fun _ _ _ h=>h) (Or.inl ⟨by rfl,fun w' hw'=>by have c0:=(HJ.out w' hw').2.1.c0;clear hw';go_simp⟩) HD4.out ?_
 simp only [Act.put,zq0,zq1,zq2,zq3,zq4,zq5];refine Qad [7,8,11] (i:=6) (v:=.tuple #[.agg #[],.bool ir]) rfl (by kernel_rfl) (by kernel_rfl) (by decide) (by kernel_rfl) (by kernel_rfl) (by kernel_rfl) (by kernel_rfl) (fun _ _ _ h=>h) (Or.inl ⟨by rfl,fun w' hw'=>by have c0:=HLk.out w' hw';clear hw';go_simp⟩) HD4.out ?_
 simp only [Act.put,zq0,zq1,zq2,zq3,zq4,zq5];refine Qad [8,11] (i:=7) (v:=.tuple #[.agg #[],.bool ir]) rfl (by kernel_rfl) (by kernel_rfl) (by decide) (by kernel_rfl) (by kernel_rfl) (by kernel_rfl) (by kernel_rfl) (fun _ _ _ h=>h) (Or.inl ⟨by rfl,fun w' hw'=>by clear hw';go_simp⟩) HD4.out ?_
 simp only [Act.put,zq0,zq1,zq2,zq3,zq4,zq5];refine Qad [11] (i:=8) (v:=.agg #[]) rfl (by kernel_rfl) (by kernel_rfl) (by decide) (by kernel_rfl) (by kernel_rfl) (by kernel_rfl) (by kernel_rfl) (fun _ _ _ h=>h) (Or.inl ⟨by rfl,fun w' hw'=>by clear hw';go_simp⟩) HD4.out ?_
 simp only [Act.put,zq0,zq1,zq2,zq3,zq4,zq5];refine QaY (i:=9) (v:=.bool ir) rfl (by decide) (by kernel_rfl) (by kernel_rfl) (by kernel_rfl) (fun _ _ _ h=>h) (Or.inl ⟨by rfl,fun w' _=>by go_simp⟩) HD4.out ?_
 simp only [Act.put,zq0,zq1,zq2,zq3,zq4,zq5];refine Qjn (i:=10) (by kernel_rfl) ?_
 refine wpOp_step rfl ?_;intro K hK;rw [if_pos (by rfl)]
 have hK':Shut (∀ a w,_→K a w):=hK;clear hK;go_wp2_with fail;obtain ⟨v5,hv5⟩:∃ v5,v4.alloc (.cells #[] 82)=v5:=⟨_,rfl⟩;have H5:Hid (Below w2.heap.size w2 v5):=by
  unfold Hid;rw [← hv5];exact HD4.out.alloc HD4.out.size _
 have hn5:v5.heap[v4.heap.size]? = some (.cells #[] 82 (0,0)):=by rw [← hv5];exact World.alloc_heap_new v4 _
 rw [hv5];refine hK'.out _ _ ⟨H5.out,?_⟩;clear hK' K hv5 HD4 HLk
 try simp only [Act.put,zq0,zq1,zq2,zq3,zq4,zq5]
 refine L_go (by kernel_rfl) (by kernel_rfl) ?_
 refine wpOp_step rfl ?_;intro K hK;rw [if_pos (by rfl)]
 have hK':Shut (∀ a w,_→K a w):=hK;clear hK;go_wp2_with fail;refine hK'.out _ _ ?_;clear hK' K;clear hn5
 try simp only [Act.put,zq0,zq1,zq2,zq3,zq4,zq5]
 refine wpAny_take (i:=12) (v:=.bool ir) rfl (by kernel_rfl) (by kernel_rfl) (by kernel_rfl) (fun _ _ _ h=>h) (Or.inl ⟨by rfl,fun w=>by go_simp⟩) ?_
 simp only [Act.put,zq0,zq1,zq2,zq3,zq4,zq5];refine wpAny_done (by kernel_rfl) ?_ _
 cases ir
 case true=>
  have HE:Hid _:=HBad.out 8 v5 (by decide) (by rw [HPs4.out];rfl) H5.out
  clear HJ HPs4 HBad H5;go_wp2;go_ret2;exact HE.out
 have HPs5:Hid (psB S r en pe l=if 200≤S.es.length then 4 else 0):=HPs4.out
 have j5:=HJ.out v5 H5.out;have k8:v5.cell? ⟨B,8,none⟩=some (.slice P.ea S.es.length P.ec):=j5.1.cell 8;clear HPs4;by_cases c5:200≤S.es.length
 ·have HE:Hid _:=HBad.out 4 v5 (by decide) (by rw [HPs5.out,if_pos c5]) H5.out
  have c5':(200:Int)≤S.es.length:=by omega
  clear HJ HPs5 HBad H5 j5;go_wp2;go_ret2;exact HE.out
 have c5':(S.es.length:Int)<200:=by omega
 have hps:psB S r en pe l=0:=by rw [HPs5.out,if_neg c5]
 have d0:=j5.2.1.c0;have d1:=j5.2.1.c1;have d2:=j5.2.1.c2;have d3:=j5.2.1.c3;have HTk:Hid (Calls _ _ _ _ _):=take_any j5.1 (by omega) r en pe a cap l j5.2.2.2 hll
 have HB5:Hid (Below W.heap.size W v5):=j5.2.2.1;have HPz:Hid (psB S r en pe l=0):=hps;clear HJ HPs5 HBad H5 j5 hps;go_wp2_with fail;refine HTk.out.mono ?_;rintro e w6 ⟨rfl,g,cp,a',cap',h6⟩;have k86:w6.cell? ⟨B,8,none⟩=some (.slice (some ⟨g,0,none⟩) (S.es.length+1) cp):=by
  have:=h6.out.1.cell 8
  simp only [QaG,Cs.add,List.length_append,List.length_cons,List.length_nil,Nat.zero_add] at this;exact this
 have HF:Hid (PsEnd W n0 m0 B P S r en pe l (psB S r en pe l) (.returned (.tuple #[.int .i64 (S.es.length:Int),.nilIface])) w6):=by
  refine .inr ⟨HPz.out,rfl,g,cp,a',cap',h6.out.1,(QaF.of_below HB5.out).trans h6.out.2.1,?_⟩;rcases h6.out.2.2 with q | q
  ·exact .inl q
  ·exact .inr (Nat.le_trans HB5.out.size q)
 have wl:IntKind.i64.wrap ((S.es.length:Int)+1 - 1)=(S.es.length:Int):=by
  have e:(S.es.length:Int)+1 - 1=S.es.length:=by omega
  rw [e];simp only [IntKind.wrap,IntKind.bits,IntKind.signed];simp;omega
 clear HTk h6 d0 d1 d2 d3 k8 HB5 HPz;go_wp2;go_ret2;exact HF.out
end
end
section
open Go.RowKit Go.Lib Go.Proofs.Tryz
structure PoC where
 acc:ByteArray
 cur:ByteArray
 tos:List ByteArray
 ws:List Int
def Po.cnt (p:Po):PoC:=⟨p.acc,p.cur,p.tos,p.ws⟩
theorem poBad_same {c:List Ac} {p q:Po} (h:p.cnt=q.cnt):Qcd c p=Qcd c q:=by
 unfold Po.cnt at h;rw [PoC.mk.injEq] at h;obtain ⟨h1,h2,h3,h4⟩:=h;unfold Qcd;rw [h1,h2,h3,h4]
theorem cnt_at {Q l:List Po} (h:Q.map Po.cnt=l.map Po.cnt) (k:Nat):(Q.getD k po0).cnt=(l.getD k po0).cnt:=by
 have hl:Q.length=l.length:=by have:=congrArg List.length h;simpa using this
 by_cases hk:k<Q.length
 ·have:=congrArg (fun l=>l[k]?) h
  simp only [List.getElem?_map,List.getElem?_eq_getElem hk,List.getElem?_eq_getElem (by omega:k<l.length),Option.map_some,Option.some.injEq] at this
  rw [List.getD_eq_getElem?_getD,List.getD_eq_getElem?_getD,List.getElem?_eq_getElem hk,List.getElem?_eq_getElem (by omega:k<l.length)]
  exact this
 ·rw [List.getD_eq_getElem?_getD,List.getD_eq_getElem?_getD,List.getElem?_eq_none (by omega),List.getElem?_eq_none (by omega)]
theorem Qff {f g:Nat→Int} (h:∀ k,f k=g k):∀ n,Qac f n=Qac g n
 | 0=>rfl
 | n+1=>by unfold Qac;rw [Qff h n,h n]
theorem psBad_same {c:List Ac} {Q l:List Po} (h:Q.map Po.cnt=l.map Po.cnt):QbC c Q=QbC c l:=by
 have hl:Q.length=l.length:=by have:=congrArg List.length h;simpa using this
 unfold QbC;rw [hl,Qff (fun k=>poBad_same (cnt_at h k))]
def Qgx (l:List ByteArray):List Value:=l.map Value.string
def Qg6 (l:List Int):List Value:=l.map (Value.int .i64)
theorem isTx_own {W U:World} {n:Nat} {a:Option Addr} {l:List ByteArray} {c:Nat} (h:W.ownsRow n 9 1 (.slice a l.length c) l.length (Qgx l)) (hb:∀ x:Addr,a=some x→n≤x.block→x.block<W.heap.size→U.heap[x.block]? = W.heap[x.block]?):IsTx U a l c:=by
 rcases Qb8 h with ⟨e,h0⟩ | ⟨g,c1,e,hc,hn,hlt,hcs,hcell⟩
 ·injection e with e1 e2 e3
  exact ⟨by omega,.inl (List.eq_nil_of_length_eq_zero e2)⟩
 ·injection e with e2 e3 e4
  subst e2;subst e4;have e1:=hb _ rfl hn hlt;refine ⟨hc,.inr ⟨g,0,rfl,?_,fun k hk=>?_⟩⟩
  ·obtain ⟨cs,hcs⟩:=hcs;rw [hcs] at e1;exact (Array.getElem?_eq_some_iff.1 e1).1
  ·rw [Nat.zero_add];refine hcell U e1 k _ ?_;unfold Qgx;rw [List.getElem?_map,List.getElem?_eq_getElem hk,List.getD_eq_getElem?_getD,List.getElem?_eq_getElem hk];rfl
theorem isW_own {W U:World} {n:Nat} {a:Option Addr} {l:List Int} {c:Nat} (h:W.ownsRow n 3 1 (.slice a l.length c) l.length (Qg6 l)) (hb:∀ x:Addr,a=some x→n≤x.block→x.block<W.heap.size→U.heap[x.block]? = W.heap[x.block]?):IsW U a l c:=by
 rcases Qb8 h with ⟨e,h0⟩ | ⟨g,c1,e,hc,hn,hlt,hcs,hcell⟩
 ·injection e with e1 e2 e3
  exact ⟨by omega,.inl (List.eq_nil_of_length_eq_zero e2)⟩
 ·injection e with e2 e3 e4
  subst e2;subst e4;have e1:=hb _ rfl hn hlt;refine ⟨hc,.inr ⟨g,0,rfl,?_,fun k hk=>?_⟩⟩
  ·obtain ⟨cs,hcs⟩:=hcs;rw [hcs] at e1;exact (Array.getElem?_eq_some_iff.1 e1).1
  ·rw [Nat.zero_add];refine hcell U e1 k _ ?_;unfold Qg6;rw [List.getElem?_map,List.getElem?_eq_getElem hk,List.getD_eq_getElem?_getD,List.getElem?_eq_getElem hk];rfl
theorem poRow_set (L:List Po) (k:Nat) (hk:k<L.length) (x:Po) (ha:(L.getD k po0).acc=x.acc) (hc:(L.getD k po0).cur=x.cur):QcD (L.set k x)=((QcD L).set (k*4+2) (.slice x.tA x.tos.length x.tC)).set (k*4+3) (.slice x.wA x.ws.length x.wC):=by
 apply List.ext_getElem?;intro j;obtain ⟨q,r,hr,rfl⟩:∃ q r,r<4∧j=q*4+r:=⟨j / 4,j % 4,Nat.mod_lt _ (by omega),by omega⟩
 by_cases hq:q<L.length
 ·rw [Qb3 _ q r (by simpa using hq) hr]
  have hlen:(QcD L).length=L.length*4:=Qbk L;simp only [List.getElem?_set,List.length_set,hlen];by_cases hqk:q=k
  ·subst hqk;rw [List.getD_eq_getElem?_getD,List.getElem?_set_self hq,Option.getD_some];rcases (by omega:r=0∨r=1∨r=2∨r=3) with rfl | rfl | rfl | rfl
   ·rw [if_neg (by omega),if_neg (by omega),Qb3 L q 0 hq (by omega)]
    show some (Value.string x.acc)=some (Value.string (L.getD q po0).acc);rw [ha]
   ·rw [if_neg (by omega),if_neg (by omega),Qb3 L q 1 hq (by omega)]
    show some (Value.string x.cur)=some (Value.string (L.getD q po0).cur);rw [hc]
   ·rw [if_neg (by omega),if_pos (by omega),if_pos (by omega)];rfl
   ·rw [if_pos (by omega),if_pos (by omega)];rfl
  ·rw [if_neg (by omega),if_neg (by omega),Qb3 L q r hq hr,List.getD_eq_getElem?_getD,List.getElem?_set_ne (fun e=>hqk e.symm),← List.getD_eq_getElem?_getD]
 ·rw [List.getElem?_eq_none (by rw [Qbk,List.length_set];omega),List.getElem?_eq_none (by simp only [List.length_set,Qbk];omega)]
structure PoIn (n:Nat) (w3:World) (v:Value) (l:List Po) (k:Nat) (Q:List Po) (wr:World):Prop where
 cnt:Q.map Po.cnt=l.map Po.cnt
 row:wr.ownsRow n 99 4 v l.length (QcD Q)
 tx:∀ i,i<k→wr.ownsRow n 9 1 (.slice (Q.getD i po0).tA (Q.getD i po0).tos.length (Q.getD i po0).tC) (Q.getD i po0).tos.length (Qgx (Q.getD i po0).tos)
 iw:∀ i,i<k→wr.ownsRow n 3 1 (.slice (Q.getD i po0).wA (Q.getD i po0).ws.length (Q.getD i po0).wC) (Q.getD i po0).ws.length (Qg6 (Q.getD i po0).ws)
 old:∀ i,k≤i→Q.getD i po0=l.getD i po0
 bel:Below n w3 wr
theorem PoIn.len {n:Nat} {w3:World} {v:Value} {l:List Po} {k:Nat} {Q:List Po} {wr:World} (h:PoIn n w3 v l k Q wr):Q.length=l.length:=by have:=congrArg List.length h.cnt;simpa using this
def putPo (W:World) (g k:Nat) (x:Po):World:=(W.setCell ⟨g,k*4+2,none⟩ (.slice x.tA x.tos.length x.tC)).setCell ⟨g,k*4+3,none⟩ (.slice x.wA x.ws.length x.wC)
theorem putPo_block {W:World} {g k:Nat} {x:Po} (b:Nat) (hb:b≠g):(putPo W g k x).heap[b]? = W.heap[b]?:=by
 unfold putPo;rw [Below.heap_setCell _ _ _ _ hb,Below.heap_setCell _ _ _ _ hb]
theorem QgM {W:World} {n m:Nat} {ty:TypeId} {size:Nat} {v:Value} {k:Nat} {row:List Value} (h:W.ownsRow n ty size v k row) (hm:m≤n):W.ownsRow m ty size v k row:=by
 rcases h.2 with ⟨hv,hn⟩ | ⟨g1,c1,cur,hv,hb1,r⟩
 ·exact ⟨h.1,.inl ⟨hv,hn⟩⟩
 ·exact ⟨h.1,.inr ⟨g1,c1,cur,hv,by omega,r⟩⟩
theorem PoIn.step {n:Nat} {w3 wr U:World} {g c:Nat} {l:List Po} {k:Nat} {Q:List Po} (h:PoIn n w3 (.slice (some ⟨g,0,none⟩) l.length c) l k Q wr) (hk:k<l.length) {p:Po} (hp:l.getD k po0=p) (hn:n≤w3.heap.size) (hU:Below wr.heap.size wr U) {ta wa:Option Addr} {tc wc:Nat}
  (ht:U.ownsRow n 9 1 (.slice ta p.tos.length tc) p.tos.length (Qgx p.tos)) (hw:U.ownsRow n 3 1 (.slice wa p.ws.length wc) p.ws.length (Qg6 p.ws)) :
  PoIn n w3 (.slice (some ⟨g,0,none⟩) l.length c) l (k+1) (Q.set k ⟨p.acc,p.cur,ta,tc,p.tos,wa,wc,p.ws⟩) (putPo U g k ⟨p.acc,p.cur,ta,tc,p.tos,wa,wc,p.ws⟩):=by
 have hkQ:k<Q.length:=by rw [h.len];exact hk
 have hQk:Q.getD k po0=p:=(h.old k (Nat.le_refl _)).trans hp;have hz:=h.bel.size;have rU:U.ownsRow n 99 4 (.slice (some ⟨g,0,none⟩) l.length c) l.length (QcD Q):=QbI h.row fun j ej=>hU.block j (Qap h.row ej).2.1
 obtain ⟨hgn,hgl,cs,hcs⟩:=Qap rU (g:=g) rfl;have hkeep:∀ {ty:TypeId} {size:Nat} {v:Value} {m:Nat} {row:List Value},ty≠99→U.ownsRow n ty size v m row→(putPo U g k ⟨p.acc,p.cur,ta,tc,p.tos,wa,wc,p.ws⟩).ownsRow n ty size v m row:=fun {ty size v m row} hty hh=>by
  refine QbI hh fun j ej=>putPo_block j fun e=>?_
  obtain ⟨_,_,cs2,h3⟩:=Qap hh ej;rw [e,hcs] at h3;have h4:=Obj.cells.inj (Option.some.inj h3);exact hty h4.2.1.symm
 refine ⟨?_,?_,fun i hi=>?_,fun i hi=>?_,fun i hi=>?_,?_⟩
 ·rw [List.map_set,← h.cnt];have e1:(Po.mk p.acc p.cur ta tc p.tos wa wc p.ws).cnt=(Q.map Po.cnt)[k]'(by simpa using hkQ):=by
   rw [List.getD_eq_getElem?_getD,List.getElem?_eq_getElem hkQ] at hQk;simp only [Option.getD_some] at hQk;rw [List.getElem_map,hQk];rfl
  rw [e1,List.set_getElem_self]
 ·rw [poRow_set Q k hkQ _ (by rw [hQk]) (by rw [hQk])]
  have hlen:(QcD Q).length=Q.length*4:=Qbk Q;exact QbU (QbU rU _ (by omega) _) _ (by simp;omega) _
 ·by_cases e:i=k
  ·subst e;rw [List.getD_eq_getElem?_getD,List.getElem?_set_self hkQ,Option.getD_some];exact hkeep (by decide) ht
  ·rw [List.getD_eq_getElem?_getD,List.getElem?_set_ne (fun e2=>e e2.symm),← List.getD_eq_getElem?_getD]
   exact hkeep (by decide) (QbI (h.tx i (by omega)) fun j ej=>hU.block j (Qap (h.tx i (by omega)) ej).2.1)
 ·by_cases e:i=k
  ·subst e;rw [List.getD_eq_getElem?_getD,List.getElem?_set_self hkQ,Option.getD_some];exact hkeep (by decide) hw
  ·rw [List.getD_eq_getElem?_getD,List.getElem?_set_ne (fun e2=>e e2.symm),← List.getD_eq_getElem?_getD]
   exact hkeep (by decide) (QbI (h.iw i (by omega)) fun j ej=>hU.block j (Qap (h.iw i (by omega)) ej).2.1)
 ·rw [List.getD_eq_getElem?_getD,List.getElem?_set_ne (by omega),← List.getD_eq_getElem?_getD]
  exact h.old i (by omega)
 ·have b:=h.bel.trans (hU.mono (by omega))
  exact (b.setCell (p:=⟨g,k*4+2,none⟩) hgn _).setCell (p:=⟨g,k*4+3,none⟩) hgn _
theorem PoIn.isPs {n:Nat} {w3 wr U:World} {a:Option Addr} {c:Nat} {l:List Po} {Q:List Po} (h:PoIn n w3 (.slice a l.length c) l l.length Q wr) (hl:∀ p∈l,p.tos.length≤1000∧p.ws.length≤1000) (hb:∀ b,n≤b→b<wr.heap.size→U.heap[b]? = wr.heap[b]?):QgV U a Q c:=by
 have hlen:=h.len;refine ⟨?_,?_,fun p hp=>?_⟩
 ·rcases Qb8 h.row with ⟨e,h0⟩ | ⟨g,c1,e,hc,_⟩
  ·omega
  ·injection e with e1 e2 e3
   omega
 ·rcases Qb8 h.row with ⟨e,h0⟩ | ⟨g,c1,e,hc,hn,hlt,⟨cs,hcs⟩,hcell⟩
  ·exact .inl (List.eq_nil_of_length_eq_zero (by omega))
  ·injection e with e1 e2 e3
   have e4:=hb g hn hlt;refine .inr ⟨g,0,e1,?_,po_at (hcell U e4)⟩;rw [hcs] at e4;exact (Array.getElem?_eq_some_iff.1 e4).1
 ·obtain ⟨i,hi,rfl⟩:=List.getElem_of_mem hp;have hil:i<l.length:=by omega
  have e1:Q.getD i po0=Q[i]:=by rw [List.getD_eq_getElem?_getD,List.getElem?_eq_getElem hi];rfl
  have ht:=h.tx i hil;have hw:=h.iw i hil;have hc:=cnt_at h.cnt i;rw [e1] at ht hw hc;have hli:=hl (l.getD i po0) (by rw [List.getD_eq_getElem?_getD,List.getElem?_eq_getElem hil];exact List.getElem_mem hil)
  unfold Po.cnt at hc;rw [PoC.mk.injEq] at hc;refine ⟨isTx_own ht fun x _ h1 h2=>hb _ h1 h2,isW_own hw fun x _ h1 h2=>hb _ h1 h2,?_,?_⟩
  ·rw [hc.2.2.1];omega
  ·rw [hc.2.2.2];omega
section
variable {W:World} {n0 m0 B:Nat} {P:Cp} {S:Cs}
theorem Qby.fresh2 {W3:World} {P':Cp} {S':Cs} (h:Qby W n0 m0 B P S) (hf:QcM P S) (hbx:W3.heap[B]? = some (.cells (QaG P' S') 79 (0,0))) (hk:QaF (fun b=>b=B) W W3)
  (hP:P'.ea=P.ea∧P'.ec=P.ec∧P'.bm=P.bm∧P'.bs=P.bs) (hS:S'.es=S.es∧S'.st=S.st)
  (hd:∀ U,Dat U P S→(∀ b,W.heap.size≤b→b<W3.heap.size→U.heap[b]? = W3.heap[b]?)→Dat U P' S') :
  Qby W3 n0 W3.heap.size B P' S'∧QcM P' S':=by
 obtain ⟨p1,p2,p3,p4⟩:=hP;obtain ⟨s1,s2⟩:=hS;obtain ⟨f1,f2,f3⟩:=hf;obtain ⟨nb1,nb2⟩:=h.ne_bs;have hlt:=h.lt;have hsz:=hk.size;have hm0:=h.m0;have l2:=h.refs.lt;have l3:=h.stg.lt;refine ⟨⟨hbx,?_,?_,?_,?_,fun U hU=>?_,⟨h.hB.1,by omega⟩,⟨by rw [p3];exact h.hm.1,by rw [p3];have:=h.hm.2;omega⟩,⟨by rw [p4];exact h.hs.1,by rw [p4];have:=h.hs.2;omega⟩,Nat.le_refl _,by rw [p3,p4];exact h.ne⟩,⟨by rw [s1];exact f1,by rw [p1];exact f2,by rw [p2];exact f3⟩⟩
 ·rw [s1,p3];exact h.refs.of (hk.block _ l2 fun e=>nb1 e.symm)
 ·rw [s2,p4];exact (hk.block _ l3 fun e=>nb2 e.symm).trans h.stg
 ·rw [s1,p1,p2,f1,f2,f3];exact Qbf.nil _ _
 ·rw [s1,f1];intro x hx;cases hx
 ·have hne:∀ b,b<W3.heap.size→b≠B→b≠P.bm→b≠P.bs→¬ clX B P' W3.heap.size b:=fun b hb h1 h2 h3 hx=>by
   rcases hx with hx | hx | hx | hx
   ·exact h1 hx
   ·exact h2 (by rw [← p3];exact hx)
   ·exact h3 (by rw [← p4];exact hx)
   ·omega
  refine hd U (h.data U ⟨hU.os.trans hk.os,hU.tape.trans hk.tape,hU.output.trans hk.output,Nat.le_trans hk.size hU.size,fun b hlt2 hx=>?_⟩) (fun b hb1 hb2=>?_)
  ·exact (hU.block b (by omega) (hne b (by omega) (fun e=>hx (.inl e)) (fun e=>hx (.inr (.inl e))) (fun e=>hx (.inr (.inr (.inl e)))))).trans (hk.block b hlt2 fun e=>hx (.inl e))
  ·exact hU.block b hb2 (hne b hb2 (by omega) (by omega) (by omega))
end
end
section
open Go.RowKit Go.Lib Go.Proofs.Tryz
theorem tx_src {W:World} {a:Option Addr} {l:List ByteArray} {cap:Nat} (h:IsTx W a l cap) (h0:l.length≠0):∃ x:Addr,a=some x∧x.block<W.heap.size∧∀ j u,(Qgx l)[j]? = some u→W.cell? (x.add j)=some u:=by
 rcases h.lies with e | ⟨b,off,e,hlt,hc⟩
 ·rw [e] at h0;exact absurd rfl h0
 ·refine ⟨_,e,hlt,fun j u hj=>?_⟩
  have hjl:=(List.getElem?_eq_some_iff.1 hj).1;unfold Qgx at hj hjl;rw [List.length_map] at hjl;rw [List.getElem?_map,List.getElem?_eq_getElem hjl] at hj;rw [Addr.add_lit,hc j hjl,List.getD_eq_getElem?_getD,List.getElem?_eq_getElem hjl];exact hj
theorem it_src {W:World} {a:Option Addr} {l:List Int} {cap:Nat} (h:IsW W a l cap) (h0:l.length≠0):∃ x:Addr,a=some x∧x.block<W.heap.size∧∀ j u,(Qg6 l)[j]? = some u→W.cell? (x.add j)=some u:=by
 rcases h.lies with e | ⟨b,off,e,hlt,hc⟩
 ·rw [e] at h0;exact absurd rfl h0
 ·refine ⟨_,e,hlt,fun j u hj=>?_⟩
  have hjl:=(List.getElem?_eq_some_iff.1 hj).1;unfold Qg6 at hj hjl;rw [List.length_map] at hjl;rw [List.getElem?_map,List.getElem?_eq_getElem hjl] at hj;rw [Addr.add_lit,hc j hjl,List.getD_eq_getElem?_getD,List.getElem?_eq_getElem hjl];exact hj
theorem txClone (a:Option Addr) (l:List ByteArray) (cap:Nat) (w:World) (h:IsTx w a l cap) (hl:l.length≤1000) :
  Calls prog 41 #[.slice a l.length cap] w fun e w'=>∃ a' c',e=.returned (.slice a' l.length c')∧w'.ownsRow w.heap.size 9 1 (.slice a' l.length c') l.length (Qgx l)∧Below w.heap.size w w':=
 clone_Tx a l.length cap (Qgx l) w (by simp [Qgx]) (by intro u hu;obtain ⟨x,_,rfl⟩:=List.mem_map.1 hu;rfl) (tx_src h) hl
theorem itClone (a:Option Addr) (l:List Int) (cap:Nat) (w:World) (h:IsW w a l cap) (hl:l.length≤1000) :
  Calls prog 42 #[.slice a l.length cap] w fun e w'=>∃ a' c',e=.returned (.slice a' l.length c')∧w'.ownsRow w.heap.size 3 1 (.slice a' l.length c') l.length (Qg6 l)∧Below w.heap.size w w':=
 clone_Nb a l.length cap (Qg6 l) w (by simp [Qg6]) (by intro u hu;obtain ⟨x,_,rfl⟩:=List.mem_map.1 hu;rfl) (it_src h) hl
section
variable {W:World} {n0 m0 B:Nat} {P:Cp} {S:Cs}
set_option maxHeartbeats 8000000 in
theorem clPools_any (h:Qby W n0 m0 B P S) (hf:QcM P S) (al:Option Addr) (l:List Po) (cl:Nat) (hl:∀ U,QaF (fun b=>b=B) W U→QgV U al l cl) (hll:l.length≤9223372036854775807) :
  Calls prog 12 #[.pointer (some ⟨B,0,none⟩),.slice al l.length cl] W fun e w'=>
   (QbC S.c l≠0∧e=.returned (chE (QbC S.c l))∧Below W.heap.size W w') ∨
   (QbC S.c l=0∧e=.returned .nilIface∧∃ m1 pa pc Q,Q.map Po.cnt=l.map Po.cnt∧Hid (Qby w' n0 m1 B { P with poa:=pa,poc:=pc } { S with po:=Q }∧QaF (fun b=>b=B) W w'∧QcM { P with poa:=pa,poc:=pc } { S with po:=Q })):=by
 have k0:W.cell? ⟨B,0,none⟩=some (.slice P.ca S.c.length P.cc):=h.cell 0;have HC:Hid (Calls _ _ _ _ _):=QhC P.ca al P.cc cl S.c l W h.dat.ch (hl W (QaF.refl _ _)) hll;by_cases c0:QbC S.c l≠0
 ·rw [Qae c0] at HC;have Hc0:Hid (QbC S.c l≠0):=c0;clear h hf hl;generalize QbC S.c l=z at *
  go_enter func12,ntmps12
  go_wp2_with fail;refine HC.out.mono ?_;rintro e w1 ⟨rfl,hb1⟩;have HB:Hid (Below W.heap.size W w1):=hb1;clear HC hb1 k0;go_wp2;go_ret;exact .inl ⟨Hc0.out,(Qae Hc0.out).symm▸rfl,HB.out⟩
 have c0':=Decidable.of_not_not c0;rw [c0',Qaj] at HC;obtain ⟨_,hl20,hpo⟩:=QcZ c0';have HJ:Hid (Qby W n0 m0 B P S∧QcM P S):=⟨h,hf⟩;have HPL:Hid (∀ p∈l,p.tos.length≤1000∧p.ws.length≤1000):=fun p hp=>by
  obtain ⟨i,hi,rfl⟩:=List.getElem_of_mem hp
  have:=hpo i hi
  rw [List.getD_eq_getElem?_getD,List.getElem?_eq_getElem hi] at this;simp only [Option.getD_some] at this;obtain ⟨q1,_,q3,_⟩:=QcY this;omega
 have HCl:Hid (∀ U,Below W.heap.size W U→Calls prog 40 #[.slice al l.length cl] U fun e w'=>∃ a' c',e=.returned (.slice a' l.length c')∧w'.ownsRow U.heap.size 99 4 (.slice a' l.length c') l.length (QcD l)∧Below U.heap.size U w'):=fun U hU=>by
  refine clone_Po al l.length cl (QcD l) U (Qbk l) (QiH l) (fun h0=>?_) (by omega)
  rcases (hl U (QaF.of_below hU)).lies with hh | ⟨b,off,rfl,hlt,hc⟩
  ·rw [hh] at h0;exact absurd rfl h0
  ·exact ⟨_,rfl,hlt,po_src hc⟩
 have Hc0:Hid (QbC S.c l=0):=c0';have HL:Hid (∀ U,QaF (fun b=>b=B) W U→QgV U al l cl):=hl
 have hli:(l.length:Int)≤20:=by omega
 clear h hf hl c0 c0' hpo;go_enter func12,ntmps12
 go_wp2_with fail;refine HC.out.mono ?_;rintro e w1 ⟨rfl,hb1⟩;have HC1:Hid (Calls _ _ _ _ _):=HCl.out w1 hb1;have HB1:Hid (Below W.heap.size W w1):=hb1;clear HC hb1 k0 HCl;go_wp2_with fail;refine HC1.out.mono ?_;rintro e w2 ⟨a',c',rfl,hown,hb2⟩;have hW2:Below W.heap.size W w2:=HB1.out.trans (hb2.mono HB1.out.size);have j2:=HJ.out.1.below hW2;have c6:w2.cell? ⟨B,6,none⟩=some (.slice P.poa S.po.length P.poc):=j2.cell 6
 have f6:w2.frozen? ⟨B,6,none⟩=false:=j2.fz 6;obtain ⟨w3,hw3⟩:∃ w3,w2.setCell ⟨B,6,none⟩ (.slice a' l.length c')=w3:=⟨_,rfl⟩;have hbx3:w3.heap[B]? = some (.cells (QaG { P with poa:=a',poc:=c' } { S with po:=l }) 79 (0,0)):=by
  rw [← hw3,setCell_eq_setRow w2 B 6 _ 79 (0,0) _ j2.box,setRow_heap w2 B _ _ 79 (0,0) j2.box];congr 2
 have hoth3:∀ b,b≠B→w3.heap[b]? = w2.heap[b]?:=fun b hne=>by rw [← hw3];exact Below.heap_setCell _ _ _ _ hne
 have hsz3:w3.heap.size=w2.heap.size:=by rw [← hw3];simp [World.setCell]
 have hK3:QaF (fun b=>b=B) W w3:=⟨by rw [← hw3];exact hW2.os,by rw [← hw3];exact hW2.tape,by rw [← hw3];exact hW2.output,by rw [hsz3];exact hW2.size,fun b hlt2 hx=>(hoth3 b hx).trans (hW2.block b hlt2)⟩
 have hBlt:=HJ.out.1.lt;have HI0:Hid (PoIn w1.heap.size w3 (.slice a' l.length c') l 0 l w3):=by
  refine ⟨rfl,QbI hown fun j ej=>hoth3 j fun e=>?_,fun i hi=>by omega,fun i hi=>by omega,fun _ _=>rfl,Below.refl _ _⟩
  have:=(Qap hown ej).1
  have:=HB1.out.size
  omega
 have H3:Hid (QaF (fun b=>b=B) W w3∧w3.heap[B]? = some (.cells (QaG { P with poa:=a',poc:=c' } { S with po:=l }) 79 (0,0))∧B<w1.heap.size∧W.heap.size≤w1.heap.size∧w1.heap.size≤w3.heap.size):=⟨hK3,hbx3,Nat.lt_of_lt_of_le hBlt HB1.out.size,HB1.out.size,by rw [hsz3];exact hb2.size⟩
 have HW3:Hid (w2.setCell ⟨B,6,none⟩ (.slice a' l.length c')=w3):=hw3;clear hown hb2 hW2 j2 HC1 HB1 hw3 hbx3 hoth3 hsz3 hK3 hBlt;go_upto_region 5 with fail
 rw [HW3.out];clear HW3 c6 f6;go_wp2;go_loopw [24] (fun i wr=>∃ (k:Nat) (Q:List Po),k≤l.length∧i=.int .i64 k∧Hid (PoIn w1.heap.size w3 (.slice a' l.length c') l k Q wr)) (fun i _=>l.length - (RowKit.intOf i).toNat)
 case atStart=>exact ⟨0,l,Nat.zero_le _,rfl,HI0⟩
 case round=>
  obtain ⟨k,Q,hk,rfl,HI⟩:=hrel;clear HI0;have HKr:Hid (QaF (fun b=>b=B) W wr):=by
   obtain ⟨q1,q2,q3,q4,q5⟩:=H3.out;have hb:=HI.out.bel;exact ⟨hb.os.trans q1.os,hb.tape.trans q1.tape,hb.output.trans q1.output,Nat.le_trans q1.size hb.size,fun b hlt2 hx=>(hb.block b (by omega)).trans (q1.block b hlt2 hx)⟩
  by_cases hlt:k<l.length
  ·have hps:=HL.out wr HKr.out;obtain ⟨b,off,e1,hbl,hx,hxo⟩:=hps.at hlt;rcases Qb8 HI.out.row with ⟨_,h0⟩ | ⟨g,c1,e2,hc1,hg1,hg2,_,_⟩
   ·omega
   injection e2 with e2 e3 e4
   subst e1;subst e2;subst e4;clear e3;have hbx:wr.cell? ⟨B,6,none⟩=some (.slice (some ⟨g,0,none⟩) l.length c'):=by
    obtain ⟨q1,q2,q3,q4,q5⟩:=H3.out
    have:=(HI.out.bel.block B q3).trans q2
    simp [World.cell?,this,QaG]
   obtain ⟨p,hp⟩:∃ p,l.getD k po0=p:=⟨_,rfl⟩;rw [hp] at hx hxo;have hpl:=HPL.out p (by rw [← hp,List.getD_eq_getElem?_getD,List.getElem?_eq_getElem hlt];exact List.getElem_mem hlt)
   obtain ⟨q,hq⟩:∃ q,wr.heap.size=q:=⟨_,rfl⟩;obtain ⟨V,hV⟩:∃ V,wr.alloc (.cells p.cells 99)=V:=⟨_,rfl⟩;have bV:Below wr.heap.size wr V:=by rw [← hV];exact (Below.refl _ wr).alloc (Nat.le_refl _) _
   have hVp:Qix V q 0 p:=by rw [← hV,← hq];exact Qix.new wr p _
   have hqV:q<V.heap.size:=by rw [← hV,← hq];simp
   have HV:Hid (wr.alloc (.cells p.cells 99)=V):=hV;have HT:Hid (∀ U,Below V.heap.size V U→U.cell? ⟨B,6,none⟩=some (.slice (some ⟨g,0,none⟩) l.length c')∧Qix U q 0 p∧PoOk U p∧Below wr.heap.size wr U):=fun U hU=>by
    have b2:=bV.trans (hU.mono bV.size);refine ⟨(b2.cell (p:=⟨B,6,none⟩) ?_).trans hbx,hVp.below hU hqV,hxo.below b2,b2⟩;obtain ⟨q1,q2,q3,q4,q5⟩:=H3.out
    have:=HI.out.bel.size
    show B<wr.heap.size;omega
   have HStep:Hid (∀ U ta tc wa wc,Below V.heap.size V U→U.ownsRow V.heap.size 9 1 (.slice ta p.tos.length tc) p.tos.length (Qgx p.tos)→U.ownsRow V.heap.size 3 1 (.slice wa p.ws.length wc) p.ws.length (Qg6 p.ws)→PoIn w1.heap.size w3 (.slice (some ⟨g,0,none⟩) l.length c') l (k+1) (Q.set k ⟨p.acc,p.cur,ta,tc,p.tos,wa,wc,p.ws⟩) (putPo U g k ⟨p.acc,p.cur,ta,tc,p.tos,wa,wc,p.ws⟩)):=fun U ta tc wa wc hU h1 h2=>by
    obtain ⟨q1,q2,q3,q4,q5⟩:=H3.out;have z1:=HI.out.bel.size;have z2:=bV.size;exact HI.out.step hlt hp q5 (bV.trans (hU.mono bV.size)) (QgM h1 (by omega)) (QgM h2 (by omega))
   have HRw:Hid (∀ U,Below V.heap.size V U→U.ownsRow w1.heap.size 99 4 (.slice (some ⟨g,0,none⟩) l.length c') l.length (QcD Q)):=fun U hU=>by
    have b2:=bV.trans (hU.mono bV.size);exact QbI HI.out.row fun j ej=>b2.block j (Qap HI.out.row ej).2.1
   have hQl:=HI.out.len;have hQk:Q.getD k po0=p:=(HI.out.old k (Nat.le_refl _)).trans hp;have hrw2:(QcD Q)[k*4+2]? = some (.slice p.tA p.tos.length p.tC):=by rw [Qb3 Q k 2 (by omega) (by decide),hQk];rfl
   have hrw3:(QcD Q)[k*4+3]? = some (.slice p.wA p.ws.length p.wC):=by rw [Qb3 Q k 3 (by omega) (by decide),hQk];rfl
   have HR23:Hid ((QcD Q)[k*4+2]? = some (.slice p.tA p.tos.length p.tC)∧(QcD Q)[k*4+3]? = some (.slice p.wA p.ws.length p.wC)):=⟨hrw2,hrw3⟩;have HTx:Hid (∀ U,Below V.heap.size V U→Calls prog 41 #[.slice p.tA p.tos.length p.tC] U fun e w'=>∃ a' c',e=.returned (.slice a' p.tos.length c')∧Hid (w'.ownsRow V.heap.size 9 1 (.slice a' p.tos.length c') p.tos.length (Qgx p.tos)∧Below V.heap.size V w')):=fun U hU=>by
    refine (txClone p.tA p.tos p.tC U (HT.out U hU).2.2.1.tx hpl.1).mono ?_;rintro e w' ⟨a1,c1,rfl,h1,h2⟩;exact ⟨a1,c1,rfl,QgM h1 hU.size,hU.trans (h2.mono hU.size)⟩
   have HIt:Hid (∀ U,Below V.heap.size V U→Calls prog 42 #[.slice p.wA p.ws.length p.wC] U fun e w'=>∃ a' c',e=.returned (.slice a' p.ws.length c')∧Hid (w'.ownsRow V.heap.size 3 1 (.slice a' p.ws.length c') p.ws.length (Qg6 p.ws)∧Below V.heap.size V w'∧Below U.heap.size U w')):=fun U hU=>by
    refine (itClone p.wA p.ws p.wC U (HT.out U hU).2.2.1.iw hpl.2).mono ?_;rintro e w' ⟨a1,c1,rfl,h1,h2⟩;exact ⟨a1,c1,rfl,QgM h1 hU.size,hU.trans (h2.mono hU.size),h2⟩
   have hne:q≠g∧B≠g:=by
    obtain ⟨q1,q2,q3,q4,q5⟩:=H3.out;exact ⟨by omega,by omega⟩
   have i0:(0:Int)≤k:=by omega
   have i1:(k:Int)<l.length:=by omega
   clear hV bV hVp hxo hps HI hbl HKr hrw2 hrw3 hQk;obtain ⟨x0,x1,x2,x3,x4,x5,x6,x7⟩:=p;obtain ⟨d0,d1,d2,d3⟩:=hx;simp only [Po.cells] at d0 d1 d2 d3 HV HT HStep hpl HTx HIt HR23;rw [hq] at HT;have Hq:Hid (wr.heap.size=q):=hq;clear hq;go_upto_region 8 with fail
   rw [HV.out]
   try rw [Hq.out]
   clear HV d0 d1 d2 d3;refine Qal (by kernel_rfl) ?_
   have HD:Hid (Below V.heap.size V V.drew):=(Below.refl _ V).drew;generalize V.drew=v2 at *
   refine wpAny_take (i:=0) (v:=.pointer (some ⟨B,0,none⟩)) rfl (by kernel_rfl) (by kernel_rfl) (by kernel_rfl) (fun _ _ _ h=>h) (Or.inl ⟨by rfl,fun w=>by go_simp⟩) ?_
   simp only [Act.put,zq0,zq1,zq2,zq3,zq4,zq5];refine wpAny_take (i:=1) (v:=.pointer (some ⟨B,0,none⟩)) rfl (by kernel_rfl) (by kernel_rfl) (by kernel_rfl) (fun _ _ _ h=>h) (Or.inl ⟨by rfl,fun w=>by go_simp⟩) ?_
   simp only [Act.put,zq0,zq1,zq2,zq3,zq4,zq5];refine wpAny_take (i:=2) (v:=.pointer (some ⟨B,6,none⟩)) rfl (by kernel_rfl) (by kernel_rfl) (by kernel_rfl) (fun _ _ _ h=>h) (Or.inl ⟨by rfl,fun w=>by go_simp⟩) ?_
   simp only [Act.put,zq0,zq1,zq2,zq3,zq4,zq5];refine wpAny_take (i:=4) (v:=.int .i64 (k:Int)) rfl (by kernel_rfl) (by kernel_rfl) (by kernel_rfl) (fun _ _ _ h=>h) (Or.inl ⟨by rfl,fun w=>by go_simp⟩) ?_
   simp only [Act.put,zq0,zq1,zq2,zq3,zq4,zq5];refine wpAny_take (i:=5) (v:=.pointer (some ⟨B,0,none⟩)) rfl (by kernel_rfl) (by kernel_rfl) (by kernel_rfl) (fun _ _ _ h=>h) (Or.inl ⟨by rfl,fun w=>by go_simp⟩) ?_
   simp only [Act.put,zq0,zq1,zq2,zq3,zq4,zq5];refine wpAny_take (i:=6) (v:=.pointer (some ⟨B,0,none⟩)) rfl (by kernel_rfl) (by kernel_rfl) (by kernel_rfl) (fun _ _ _ h=>h) (Or.inl ⟨by rfl,fun w=>by go_simp⟩) ?_
   simp only [Act.put,zq0,zq1,zq2,zq3,zq4,zq5];refine wpAny_take (i:=7) (v:=.pointer (some ⟨B,6,none⟩)) rfl (by kernel_rfl) (by kernel_rfl) (by kernel_rfl) (fun _ _ _ h=>h) (Or.inl ⟨by rfl,fun w=>by go_simp⟩) ?_
   simp only [Act.put,zq0,zq1,zq2,zq3,zq4,zq5];refine wpAny_take (i:=9) (v:=.int .i64 (k:Int)) rfl (by kernel_rfl) (by kernel_rfl) (by kernel_rfl) (fun _ _ _ h=>h) (Or.inl ⟨by rfl,fun w=>by go_simp⟩) ?_
   simp only [Act.put,zq0,zq1,zq2,zq3,zq4,zq5];refine wpAny_take (i:=10) (v:=.pointer (some ⟨q,2,none⟩)) rfl (by kernel_rfl) (by kernel_rfl) (by kernel_rfl) (fun _ _ _ h=>h) (Or.inl ⟨by rfl,fun w=>by go_simp⟩) ?_
   simp only [Act.put,zq0,zq1,zq2,zq3,zq4,zq5];refine wpAny_take (i:=13) (v:=.pointer (some ⟨q,3,none⟩)) rfl (by kernel_rfl) (by kernel_rfl) (by kernel_rfl) (fun _ _ _ h=>h) (Or.inl ⟨by rfl,fun w=>by go_simp⟩) ?_
   simp only [Act.put,zq0,zq1,zq2,zq3,zq4,zq5];refine Qbq (g:=21) (T:=fun u=>(u.cell? ⟨B,6,none⟩=some (.slice (some ⟨g,0,none⟩) l.length c'))∧(u.cell? ⟨q,2,none⟩=some (.slice x2 x4.length x3))∧(u.cell? ⟨q,3,none⟩=some (.slice x5 x7.length x6))) _ _ _ _ ?_
   have HTt:Hid (∀ U,Below V.heap.size V U→(U.cell? ⟨B,6,none⟩=some (.slice (some ⟨g,0,none⟩) l.length c'))∧(U.cell? ⟨q,2,none⟩=some (.slice x2 x4.length x3))∧(U.cell? ⟨q,3,none⟩=some (.slice x5 x7.length x6))):=fun U hU=>⟨(HT.out U hU).1,(HT.out U hU).2.1.c2,(HT.out U hU).2.1.c3⟩
   refine Qad [16,17,18,21] (i:=3) (v:=.slice (some ⟨g,0,none⟩) l.length c') rfl (by kernel_rfl) (by kernel_rfl) (by decide) (by kernel_rfl) (by kernel_rfl) (by kernel_rfl) (by kernel_rfl) (fun _ _ _ h=>h) (Or.inl ⟨by rfl,fun w' hw'=>by obtain ⟨t1,t2,t3⟩:=hw';go_simp⟩) (HTt.out _ HD.out) ?_
   simp only [Act.put,zq0,zq1,zq2,zq3,zq4,zq5];refine Qad [19,20,21] (i:=8) (v:=.slice (some ⟨g,0,none⟩) l.length c') rfl (by kernel_rfl) (by kernel_rfl) (by decide) (by kernel_rfl) (by kernel_rfl) (by kernel_rfl) (by kernel_rfl) (fun _ _ _ h=>h) (Or.inl ⟨by rfl,fun w' hw'=>by obtain ⟨t1,t2,t3⟩:=hw';go_simp⟩) (HTt.out _ HD.out) ?_
   simp only [Act.put,zq0,zq1,zq2,zq3,zq4,zq5];refine Qad [12,15,21] (i:=11) (v:=.slice x2 x4.length x3) rfl (by kernel_rfl) (by kernel_rfl) (by decide) (by kernel_rfl) (by kernel_rfl) (by kernel_rfl) (by kernel_rfl) (fun _ _ _ h=>h) (Or.inl ⟨by rfl,fun w' hw'=>by obtain ⟨t1,t2,t3⟩:=hw';go_simp⟩) (HTt.out _ HD.out) ?_
   simp only [Act.put,zq0,zq1,zq2,zq3,zq4,zq5];refine Qad [15,21] (i:=14) (v:=.slice x5 x7.length x6) rfl (by kernel_rfl) (by kernel_rfl) (by decide) (by kernel_rfl) (by kernel_rfl) (by kernel_rfl) (by kernel_rfl) (fun _ _ _ h=>h) (Or.inl ⟨by rfl,fun w' hw'=>by obtain ⟨t1,t2,t3⟩:=hw';go_simp⟩) (HTt.out _ HD.out) ?_
   simp only [Act.put,zq0,zq1,zq2,zq3,zq4,zq5];refine Qjn (i:=12) (by kernel_rfl) ?_
   refine wpOp_step rfl ?_;intro K hK;rw [if_pos (by rfl)]
   have hK':Shut (∀ a w,_→K a w):=hK;clear hK;go_wp2_with fail;refine (HTx.out v2 HD.out).mono ?_;rintro e u5 ⟨ta,tc,rfl,h5⟩;refine hK'.out _ _ ⟨HTt.out _ h5.out.2,?_⟩;clear hK' K HTx
   try simp only [Act.put,zq0,zq1,zq2,zq3,zq4,zq5]
   refine Qjn (i:=15) (by kernel_rfl) ?_
   refine wpOp_step rfl ?_;intro K hK;rw [if_pos (by rfl)]
   have hK':Shut (∀ a w,_→K a w):=hK;clear hK;go_wp2_with fail;refine (HIt.out u5 h5.out.2).mono ?_;rintro e u6 ⟨wa,wc,rfl,h6⟩;refine hK'.out _ _ ⟨HTt.out _ h6.out.2.1,?_⟩;clear hK' K HIt
   try simp only [Act.put,zq0,zq1,zq2,zq3,zq4,zq5]
   refine Qad [17,18,21] (i:=16) (v:=.pointer (some ⟨g,k*4,none⟩)) rfl (by kernel_rfl) (by kernel_rfl) (by decide) (by kernel_rfl) (by kernel_rfl) (by kernel_rfl) (by kernel_rfl) (fun _ _ _ h=>h) (Or.inl ⟨by rfl,fun w' hw'=>by clear hw';go_simp⟩) (HTt.out _ h6.out.2.1) ?_
   simp only [Act.put,zq0,zq1,zq2,zq3,zq4,zq5];refine Qad [18,21] (i:=17) (v:=.pointer (some ⟨g,k*4+2,none⟩)) rfl (by kernel_rfl) (by kernel_rfl) (by decide) (by kernel_rfl) (by kernel_rfl) (by kernel_rfl) (by kernel_rfl) (fun _ _ _ h=>h) (Or.inl ⟨by rfl,fun w' hw'=>by clear hw';go_simp⟩) (HTt.out _ h6.out.2.1) ?_
   simp only [Act.put,zq0,zq1,zq2,zq3,zq4,zq5];have r6:=HRw.out u6 h6.out.2.1;have t5:u6.ownsRow V.heap.size 9 1 (.slice ta x4.length tc) x4.length (Qgx x4):=QbI h5.out.1 fun j ej=>h6.out.2.2.block j (Qap h5.out.1 ej).2.1
   have HN:Hid (PoIn w1.heap.size w3 (.slice (some ⟨g,0,none⟩) l.length c') l (k+1) (Q.set k ⟨x0,x1,ta,tc,x4,wa,wc,x7⟩) (putPo u6 g k ⟨x0,x1,ta,tc,x4,wa,wc,x7⟩)):=HStep.out u6 ta tc wa wc h6.out.2.1 t5 h6.out.1;have hlr:(QcD Q).length=Q.length*4:=Qbk Q;have z2:u6.cell? ⟨g,k*4+2,none⟩=some (.slice x2 x4.length x3):=Qgp r6 HR23.out.1;have y2:u6.frozen? ⟨g,k*4+2,none⟩=false:=Qbw r6 _
   obtain ⟨u7,hu7⟩:∃ u7,u6.setCell ⟨g,k*4+2,none⟩ (.slice ta x4.length tc)=u7:=⟨_,rfl⟩;have r7:u7.ownsRow w1.heap.size 99 4 (.slice (some ⟨g,0,none⟩) l.length c') l.length ((QcD Q).set (k*4+2) (.slice ta x4.length tc)):=by rw [← hu7];exact QbU r6 _ (by omega) _
   have z3:u7.cell? ⟨g,k*4+3,none⟩=some (.slice x5 x7.length x6):=Qgp r7 (by rw [List.getElem?_set_ne (by omega)];exact HR23.out.2)
   have y3:u7.frozen? ⟨g,k*4+3,none⟩=false:=Qbw r7 _;have HT7:Hid ((u7.cell? ⟨B,6,none⟩=some (.slice (some ⟨g,0,none⟩) l.length c'))∧(u7.cell? ⟨q,2,none⟩=some (.slice x2 x4.length x3))∧(u7.cell? ⟨q,3,none⟩=some (.slice x5 x7.length x6))):=by
    obtain ⟨e1,e2,e3⟩:=HTt.out _ h6.out.2.1;have hb:∀ b,b≠g→u7.heap[b]? = u6.heap[b]?:=fun b hne=>by rw [← hu7];exact Below.heap_setCell _ _ _ _ hne
    exact ⟨(Qds (hb _ hne.2) 6).trans e1,(Qds (hb _ hne.1) 2).trans e2,(Qds (hb _ hne.1) 3).trans e3⟩
   have HU7:Hid (u6.setCell ⟨g,k*4+2,none⟩ (.slice ta x4.length tc)=u7):=hu7;unfold putPo at HN;simp only at HN;rw [hu7] at HN;clear hu7 r6 r7 t5 h5 h6 HTt HT HStep HRw HR23 HD hlr;refine Qjn (i:=18) (by kernel_rfl) ?_
   refine wpOp_step rfl ?_;intro K hK;rw [if_pos (by rfl)]
   have hK':Shut (∀ a w,_→K a w):=hK;clear hK;go_wp2_with fail;rw [HU7.out];refine hK'.out _ _ ⟨HT7.out,?_⟩;clear hK' K HU7 z2 y2
   try simp only [Act.put,zq0,zq1,zq2,zq3,zq4,zq5]
   refine Qad [20,21] (i:=19) (v:=.pointer (some ⟨g,k*4,none⟩)) rfl (by kernel_rfl) (by kernel_rfl) (by decide) (by kernel_rfl) (by kernel_rfl) (by kernel_rfl) (by kernel_rfl) (fun _ _ _ h=>h) (Or.inl ⟨by rfl,fun w' hw'=>by clear hw';go_simp⟩) HT7.out ?_
   simp only [Act.put,zq0,zq1,zq2,zq3,zq4,zq5];refine Qad [21] (i:=20) (v:=.pointer (some ⟨g,k*4+3,none⟩)) rfl (by kernel_rfl) (by kernel_rfl) (by decide) (by kernel_rfl) (by kernel_rfl) (by kernel_rfl) (by kernel_rfl) (fun _ _ _ h=>h) (Or.inl ⟨by rfl,fun w' hw'=>by clear hw';go_simp⟩) HT7.out ?_
   simp only [Act.put,zq0,zq1,zq2,zq3,zq4,zq5];refine L_go (by kernel_rfl) (by kernel_rfl) ?_
   refine wpOp_step rfl ?_;intro K hK;rw [if_pos (by rfl)]
   have hK':Shut (∀ a w,_→K a w):=hK;clear hK;go_wp2_with fail;obtain ⟨u8,hu8⟩:∃ u8,u7.setCell ⟨g,k*4+3,none⟩ (.slice wa x7.length wc)=u8:=⟨_,rfl⟩;rw [hu8] at HN ⊢;refine hK'.out _ _ ?_;clear hK' K;clear hu8 z3 y3 HT7
   try simp only [Act.put,zq0,zq1,zq2,zq3,zq4,zq5]
   refine wpAny_done (by kernel_rfl) ?_ _
   go_wp2;go_roundw
   case rel=>exact ⟨k+1,_,by omega,by go_num,HN⟩
   case measure=>simp [RowKit.intOf];omega
  ·have ek:k=l.length:=by omega
   subst ek;have i1:¬ (l.length:Int)<l.length:=by omega
   have HF:Hid (∃ m1 pa pc Q,Q.map Po.cnt=l.map Po.cnt∧Hid (Qby wr n0 m1 B { P with poa:=pa,poc:=pc } { S with po:=Q }∧QaF (fun b=>b=B) W wr∧QcM { P with poa:=pa,poc:=pc } { S with po:=Q })):=by
    obtain ⟨q1,q2,q3,q4,q5⟩:=H3.out;have hI:=HI.out;have hQl:=hI.len;have hbx:wr.heap[B]? = some (.cells (QaG { P with poa:=a',poc:=c' } { S with po:=Q }) 79 (0,0)):=by
     have:=(hI.bel.block B q3).trans q2
     rw [this];unfold QaG;simp only;rw [hQl]
    have f2:=HJ.out.1.fresh2 (W3:=wr) (P':={ P with poa:=a',poc:=c' }) (S':={ S with po:=Q }) HJ.out.2 hbx HKr.out ⟨rfl,rfl,rfl,rfl⟩ ⟨rfl,rfl⟩ (fun U hD hN=>⟨hD.ch,hD.rt,hD.pn,hI.isPs HPL.out (fun b h1 h2=>hN b (by omega) h2),hD.pr⟩)
    exact ⟨_,a',c',Q,hI.cnt,f2.1,HKr.out,f2.2⟩
   clear HI HKr H3 HJ HPL HL;go_wp2;go_ret;exact .inr ⟨Hc0.out,rfl,HF.out⟩
end
end
end Go.Proofs.YtibhgngboljhfaaGreatDoor
