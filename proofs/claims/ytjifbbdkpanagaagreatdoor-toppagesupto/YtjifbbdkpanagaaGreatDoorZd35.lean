/-
  Part of a proof (see the last text).
-/
import Derived.Test.YtjifbbdkpanagaaGreatDoorZd34
set_option linter.unusedVariables false
set_option linter.unusedSimpArgs false
set_option maxRecDepth 100000
namespace Go.Proofs.YtjifbbdkpanagaaGreatDoor
section
open Go.RowKit Go.Lib Go.Proofs.Tryz
def sEUR:ByteArray:=⟨#[69,85,82]⟩
def s10:ByteArray:=⟨#[49,48]⟩
def s30:ByteArray:=⟨#[51,48]⟩
def s40:ByteArray:=⟨#[52,48]⟩
def fLn:List Ln:=[⟨⟨#[49,48]⟩,⟨#[69,85,82]⟩,5⟩,⟨⟨#[52,48]⟩,⟨#[69,85,82]⟩,-5⟩]
def fE:Ep:=⟨⟨#[97]⟩,1,1,fLn⟩
def fR:List Bl:=[⟨1,s10,sEUR,5⟩,⟨1,s40,sEUR,-5⟩]
def fLn2:List Ln:=[⟨⟨#[52,48]⟩,⟨#[69,85,82]⟩,5⟩,⟨⟨#[51,48]⟩,⟨#[69,85,82]⟩,-5⟩]
def fE2:Ep:=⟨Qfu 1,1,1,fLn2⟩
def fR2:List Bl:=[⟨1,s10,sEUR,5⟩,⟨1,s30,sEUR,-5⟩]
def FS (c:List Ac) (es:List Je) (st:List (Int×Int)):Cs:=⟨c,QeW [],⟨#[69,85,82]⟩,⟨#[52,48]⟩,⟨#[51,48]⟩,[],[],[],es,st⟩
structure FactC (c:List Ac):Prop where
 nw:nwBad c [] ⟨#[69,85,82]⟩ ⟨#[52,48]⟩ ⟨#[51,48]⟩=0
 ent:QbY c ⟨#[97]⟩ 1 1 fLn=0
 b1:QdB (FS c [] []) fR 1 1 0=0
 b2:QdB (FS c [] []) fR 1 2 0=0
 b3:QdB (FS c [] []) fR 1 3 0=0
 b4:QdB (FS c [] []) fR 1 4 0=0
 t1:Qen (FS c [] []) fR 1 1 []=[]
 t2:Qen (FS c [] []) fR 1 2 []=[]
 t3:Qen (FS c [] []) fR 1 3 []=[]
 t4:Qen (FS c [] []) fR 1 4 []=[]
 er:erE c fR=0
 pus:Qa6 c fR=[(1,sEUR)]
 bs:Qcg c fR (1,sEUR)=[⟨1,s40,sEUR,-5⟩]
theorem fR_fine:Fine fR:=Qd7.1 (by kernel_rfl)
theorem fR2_fine:Fine fR2:=Qd7.1 (by kernel_rfl)
theorem oeE_ep (pe:Int) {L M:List Je} (h:L.map Je.ep=M.map Je.ep):oeE (Qap pe) L=oeE (Qap pe) M:=by
 have h1:QaR (Qap pe) L=QaR (Qap pe) M:=by rw [Qhb,Qhb,h]
 have h2:ceE L=ceE M:=by
  have hl:L.length=M.length:=by simpa using congrArg List.length h
  have ha:∀ N:List Je,N.any (fun x=>x.lns.any QbI)=(N.map Je.ep).any (fun x=>x.lns.any QbI):=fun N=>by rw [List.any_map];rfl
  unfold ceE;rw [hl,ha L,ha M,h]
 unfold oeE;rw [h1,h2]
def fJ:Je:=⟨⟨#[97]⟩,1,1,none,0,fLn⟩
def fJ2:Je:=⟨⟨#[98]⟩,1,1,none,0,fLn2⟩
theorem fact_oe {es:List Je} (h:es.map Je.ep=[fE]):oeE (Qap 1) es=0:=by
 rw [oeE_ep 1 (M:=[fJ]) (by rw [h];rfl)]
 kernel_rfl
theorem fact_flat {es:List Je} (h:es.map Je.ep=[fE]):QaR (Qap 1) es=fR:=by
 rw [Qhb,h]
 kernel_rfl
theorem fact_R {es:List Je} (h:es.map Je.ep=[fE]) {R:List Bl} (hR:OeR (Qap 1) es R):R=fR:=
 hR.sums.uniq fR_fine.sums fun k=>by rw [fact_flat h]
theorem Qi1 {es:List Je} (h:es.map Je.ep=[fE,fE2]):QaR (Qap 1) es=fR++[⟨1,s40,sEUR,5⟩,⟨1,s30,sEUR,-5⟩]:=by
 rw [Qhb,h];rfl
theorem fact_R2 {es:List Je} (h:es.map Je.ep=[fE,fE2]) {R:List Bl} (hR:OeR (Qap 1) es R):R=fR2:=
 hR.sums.uniq fR2_fine.sums fun k=>by
  rw [Qi1 h];simp only [fR,fR2,List.cons_append,List.nil_append,ltot];have e:Bl.key ⟨1,s40,sEUR,-5⟩=Bl.key ⟨1,s40,sEUR,5⟩:=rfl;rw [e];generalize Bl.key ⟨1,s40,sEUR,5⟩=k4
  split <;> split <;> split <;> omega
theorem fact_oe2 {es:List Je} (h:es.map Je.ep=[fE,fE2]):oeE (Qap 1) es=0:=by
 have h1:QaR (Qap 1) es=QaR (Qap 1) [fJ,fJ2]:=by rw [Qi1 h];rfl
 have h2:ceE es=0:=by
  have hl:es.length=2:=by have:=congrArg List.length h;rw [List.length_map] at this;exact this
  have ha:∀ N:List Je,N.any (fun x=>x.lns.any QbI)=(N.map Je.ep).any (fun x=>x.lns.any QbI):=fun N=>by rw [List.any_map];rfl
  unfold ceE;rw [hl,ha es,h,if_neg (by omega),if_neg (by
   have:[fE,fE2].any (fun x=>x.lns.any QbI)=false:=by rfl
   rw [this];decide)]
 have h3:tgE (parts (QaR (Qap 1) [fJ,fJ2]))=0:=by kernel_rfl
 unfold oeE;rw [h1,h2,h3];rfl
section
variable {c:List Ac}
theorem fact_srt (hF:FactC c):QcA (Qa6 c fR)=[(1,sEUR)]:=by
 rw [hF.pus];exact srtU_of (.refl _) (List.pairwise_singleton _ _)
theorem fact_clBad (hF:FactC c):QcQ c fR=0:=by
 unfold QcQ;rw [hF.er,fact_srt hF];show Qad (fun i=>cgE (Qcg c fR ([(1,sEUR)].getD i pu0))) 1=0
 have h0:cgE (Qcg c fR (1,sEUR))=0:=by rw [hF.bs];rfl
 unfold Qad;simp only [Qad,List.getD_cons_zero,h0];rfl
theorem fact_clTo (hF:FactC c):Qgi c ⟨#[51,48]⟩ 1 fR=[⟨ByteArray.empty,1,1,fLn2⟩]:=by
 unfold Qgi;rw [fact_srt hF,List.map_singleton];unfold clE;rw [hF.bs];rfl
theorem fact_bg (hF:FactC c) (es:List Je) (st:List (Int×Int)) (z:Int) (ze:List Ep) {i:Int} (h0:0≤i) (h5:i<5):QdB (FS c es st) fR 1 (i+1) z=0∧Qen (FS c es st) fR 1 (i+1) ze=[]:=by
 rcases (by omega:i=0∨i=1∨i=2∨i=3∨i=4) with rfl | rfl | rfl | rfl | rfl
 ·exact ⟨hF.b1,hF.t1⟩
 ·exact ⟨hF.b2,hF.t2⟩
 ·exact ⟨hF.b3,hF.t3⟩
 ·exact ⟨hF.b4,hF.t4⟩
 ·exact ⟨rfl,rfl⟩
theorem fact_pre {es:List Je} {st:List (Int×Int)} {i:Int} (he:es.map Je.ep=[fE]) (hi:Qa2 st 1=i) (h5:i<6):Qdd (FS c es st) 1=0:=by
 unfold Qdd;rw [if_neg (by decide),if_neg (by show ¬ Qa2 st 1=6;omega),if_neg (by show ¬ true=false;decide)]
 exact fact_oe he
variable {W:World} {n0 m0 B:Nat} {P:Cp}
theorem fact_adv (hF:FactC c) {es:List Je} {st:List (Int×Int)} {i:Int} (he:es.map Je.ep=[fE]) (h:ClS W n0 m0 B P (FS c es st)) (hi:Qa2 st 1=i) (h5:i<5) :
  Calls prog 18 #[.pointer (some ⟨B,0,none⟩),.int .i64 1] W fun e w'=>e=.returned (.tuple #[.int .i64 0,.nilIface])∧∃ m P' es' st',Hid (ClS w' n0 m B P' (FS c es' st')∧es'.map Je.ep=[fE]∧Qa2 st' 1=i+1∧Below n0 W w'):=by
 have h0:0≤i:=by have:=(h.ev.ok.sg 1).1;rw [← hi];exact this
 have hi':Qa2 (FS c es st).st 1=i:=hi;have hlen:(FS c es st).es.length=1:=by have:=congrArg List.length he;rw [List.length_map] at this;exact this
 refine (clAdv_of (EntK.nil rfl rfl rfl) h 1).mono ?_;rintro e w' (⟨z,hz,rfl,hh,_⟩ | ⟨n,es',ea,ec,R,rfl,hh⟩)
 ·exfalso;rcases hh with hh | ⟨_,R,hR,hh⟩
  ·rw [fact_pre he hi (by omega)] at hh
   exact hz hh.symm
  ·have eR:=fact_R he hR;subst eR;unfold QdE at hh;rw [hi'] at hh;obtain ⟨q1,q2⟩:=fact_bg hF es st (QcQ (FS c es st).c fR) (Qgi (FS c es st).c (FS c es st).kept 1 fR) h0 h5;rw [q1,q2,if_neg (by simp),hlen,if_neg (by simp)] at hh
   exact hz hh.symm
 ·obtain ⟨g1,⟨g2,_⟩,_,gR,_,gn,_,ge⟩:=hh.out;have eR:=fact_R he gR;subst eR;obtain ⟨q1,q2⟩:=fact_bg hF es st (QcQ (FS c es st).c fR) (Qgi (FS c es st).c (FS c es st).kept 1 fR) h0 h5;rw [hi',q2] at ge;have ge2:es'.map Je.ep=[fE]:=by rw [ge];show es.map Je.ep++[]=_;rw [List.append_nil];exact he
  have hn:n=0:=by
   have:=congrArg List.length ge2
   rw [List.length_map] at this;have e2:[fE].length=1:=rfl;omega
  subst hn;refine ⟨rfl,m0,{ P with ea:=ea,ec:=ec },es',Qcz st 1 (i+1),?_,ge2,?_,g2⟩
  ·have e3:(Qa2 (FS c es st).st 1+1)=i+1:=by rw [hi']
   rw [e3] at g1;exact g1
  ·rw [QgP,if_pos rfl]
theorem fact_last (hF:FactC c) {es:List Je} {st:List (Int×Int)} (he:es.map Je.ep=[fE]) (h:ClS W n0 m0 B P (FS c es st)) (hi:Qa2 st 1=5) :
  Calls prog 18 #[.pointer (some ⟨B,0,none⟩),.int .i64 1] W fun e w'=>e=.returned (.tuple #[.int .i64 1,.nilIface])∧∃ m P' es' st',Hid (ClS w' n0 m B P' (FS c es' st')∧es'.map Je.ep=[fE,fE2]∧Qa2 st' 1=6∧Below n0 W w'):=by
 have hi':Qa2 (FS c es st).st 1=5:=hi;have hlen:(FS c es st).es.length=1:=by have:=congrArg List.length he;rw [List.length_map] at this;exact this
 have q1:∀ z,QdB (FS c es st) fR 1 (5+1) z=z:=fun z=>rfl
 have q2:∀ z,Qen (FS c es st) fR 1 (5+1) z=z:=fun z=>rfl
 have q3:QcQ (FS c es st).c fR=0:=fact_clBad hF;have q4:Qgi (FS c es st).c (FS c es st).kept 1 fR=[⟨ByteArray.empty,1,1,fLn2⟩]:=fact_clTo hF;refine (clAdv_of (EntK.nil rfl rfl rfl) h 1).mono ?_;rintro e w' (⟨z,hz,rfl,hh,_⟩ | ⟨n,es',ea,ec,R,rfl,hh⟩)
 ·exfalso;rcases hh with hh | ⟨_,R,hR,hh⟩
  ·rw [fact_pre he hi (by omega)] at hh
   exact hz hh.symm
  ·have eR:=fact_R he hR;subst eR;unfold QdE at hh;rw [hi',q1,q2,q3,q4,if_neg (by simp),hlen,if_neg (by simp)] at hh
   exact hz hh.symm
 ·obtain ⟨g1,⟨g2,_⟩,_,gR,_,gn,_,ge⟩:=hh.out;have eR:=fact_R he gR;subst eR;rw [hi',q2,q4,hlen] at ge;have ge2:es'.map Je.ep=[fE,fE2]:=by
   rw [ge];show es.map Je.ep++rnE 1 [⟨ByteArray.empty,1,1,fLn2⟩] 1=_;rw [he];rfl
  have hn:n=1:=by
   have:=congrArg List.length ge2
   rw [List.length_map] at this;have e2:[fE,fE2].length=2:=rfl;omega
  subst hn;refine ⟨rfl,m0,{ P with ea:=ea,ec:=ec },es',Qcz st 1 6,?_,ge2,?_,g2⟩
  ·have e3:(Qa2 (FS c es st).st 1+1)=6:=by rw [hi'];rfl
   rw [e3] at g1;exact g1
  ·rw [QgP,if_pos rfl]
theorem fact_post (hF:FactC c) (h:ClS W n0 m0 B P (FS c [] [])) (a:Option Addr) (cap:Nat) (hl:Qfs W a fLn cap) :
  Calls prog 17 #[.pointer (some ⟨B,0,none⟩),.agg #[.string ⟨#[97]⟩,.int .i64 1,.int .i64 1,.slice a 2 cap]] W fun e w'=>e=.returned (.tuple #[.int .i64 0,.nilIface])∧∃ m P' es' st',Hid (ClS w' n0 m B P' (FS c es' st')∧es'.map Je.ep=[fE]∧Qa2 st' 1=0∧Below n0 W w'):=by
 have h0:psB (FS c [] []) ⟨#[97]⟩ 1 1 fLn=0:=by
  unfold psB;have e:QbY (FS c [] []).c ⟨#[97]⟩ 1 1 fLn=0:=hF.ent;rw [e];rfl
 refine (clPost_ev h ⟨#[97]⟩ 1 1 a cap fLn hl).mono ?_;rintro e w' (⟨hn,_⟩ | ⟨_,rfl,ea,ec,a',c',hh⟩)
 ·exact absurd h0 hn
 ·exact ⟨rfl,m0,{ P with ea:=ea,ec:=ec },[⟨⟨#[97]⟩,1,1,a',c',fLn⟩],[],hh.out.1,rfl,rfl,hh.out.2⟩
end
end
section
open Go.RowKit Go.Lib Go.Proofs.Tryz
def oC:List Ac:=[⟨⟨#[49,48]⟩,⟨#[99,97,115,104]⟩,1,⟨#[]⟩,false⟩,⟨⟨#[51,48]⟩,⟨#[107,101,112,116]⟩,3,⟨#[]⟩,false⟩,⟨⟨#[52,48]⟩,⟨#[115,97,108,101,115]⟩,4,⟨#[]⟩,false⟩]
def Qf0:Array Value:=#[.string ⟨#[49,48]⟩,.string ⟨#[99,97,115,104]⟩,.int .i64 1,.string ⟨#[]⟩,.bool false,.string ⟨#[51,48]⟩,.string ⟨#[107,101,112,116]⟩,.int .i64 3,.string ⟨#[]⟩,.bool false,.string ⟨#[52,48]⟩,.string ⟨#[115,97,108,101,115]⟩,.int .i64 4,.string ⟨#[]⟩,.bool false]
theorem oC_at (W:World):Qcm (W.alloc (.cells Qf0 48)) (some ⟨W.heap.size,0,none⟩) oC 3:=by
 have h:=World.alloc_heap_new W (.cells Qf0 48);generalize W.alloc (.cells Qf0 48)=V at *
 generalize W.heap.size=b at *
 refine ⟨Nat.le_refl _,.inr ⟨b,0,rfl,(Array.getElem?_eq_some_iff.1 h).1,fun k hk=>?_⟩⟩
 rcases (by simp [oC] at hk;omega:k=0∨k=1∨k=2) with rfl | rfl | rfl <;>
 exact ⟨by simp [World.cell?,h,Qf0,oC],by simp [World.cell?,h,Qf0,oC],by simp [World.cell?,h,Qf0,oC],by simp [World.cell?,h,Qf0,oC],by simp [World.cell?,h,Qf0,oC]⟩
def QiG:Array Value:=#[.string ⟨#[49,48]⟩,.string ⟨#[69,85,82]⟩,.int .i64 5,.string ⟨#[52,48]⟩,.string ⟨#[69,85,82]⟩,.int .i64 (-5)]
theorem oL_at (W:World):Qfs (W.alloc (.cells QiG 56)) (some ⟨W.heap.size,0,none⟩) fLn 2:=by
 have h:=World.alloc_heap_new W (.cells QiG 56);generalize W.alloc (.cells QiG 56)=V at *
 generalize W.heap.size=b at *
 refine ⟨Nat.le_refl _,.inr ⟨b,0,rfl,(Array.getElem?_eq_some_iff.1 h).1,fun k hk=>?_⟩⟩
 rcases (by simp [fLn] at hk;omega:k=0∨k=1) with rfl | rfl <;>
 exact ⟨by simp [World.cell?,h,QiG,fLn],by simp [World.cell?,h,QiG,fLn],by simp [World.cell?,h,QiG,fLn]⟩
theorem Qfj:FactC oC:=⟨by kernel_rfl,by kernel_rfl,by kernel_rfl,by kernel_rfl,by kernel_rfl,by kernel_rfl,by kernel_rfl,by kernel_rfl,by kernel_rfl,by kernel_rfl,by kernel_rfl,by kernel_rfl,by kernel_rfl⟩
def FdAt (w:World) (n0 B k:Nat) (wr:World):Prop:=∃ m P es st,ClS wr n0 m B P (FS oC es st)∧Below w.heap.size w wr∧Qa2 st 1=(k:Int)∧es.map Je.ep=if k<6 then [fE] else [fE,fE2]
section
variable {w W:World} {n0 B k:Nat}
theorem FdAt.adv (hn:w.heap.size≤n0) (h:FdAt w n0 B k W) (hk:k<6) :
  Calls prog 18 #[.pointer (some ⟨B,0,none⟩),.int .i64 1] W fun e w'=>∃ n:Int,e=.returned (.tuple #[.int .i64 n,.nilIface])∧Hid (FdAt w n0 B (k+1) w'):=by
 obtain ⟨m,P,es,st,h1,h2,h3,h4⟩:=h;rw [if_pos hk] at h4;by_cases h5:k<5
 ·refine (fact_adv Qfj h4 h1 h3 (by omega)).mono ?_
  rintro e w' ⟨rfl,m',P',es',st',hh⟩;obtain ⟨g1,g2,g3,g4⟩:=hh.out;exact ⟨0,rfl,m',P',es',st',g1,h2.trans (g4.mono hn),by rw [g3];omega,by rw [if_pos (by omega)];exact g2⟩
 ·obtain rfl:k=5:=by omega
  refine (fact_last Qfj h4 h1 h3).mono ?_;rintro e w' ⟨rfl,m',P',es',st',hh⟩;obtain ⟨g1,g2,g3,g4⟩:=hh.out;exact ⟨1,rfl,m',P',es',st',g1,h2.trans (g4.mono hn),by rw [g3];rfl,g2⟩
theorem FdAt.bals (h:FdAt w n0 B 6 W) :
  Calls prog 19 #[.pointer (some ⟨B,0,none⟩),.int .i64 1] W fun e w'=>∃ bb bo c,e=.returned (.tuple #[.slice (some ⟨bb,bo,none⟩) 2 c,.nilIface])∧Hid (w'.cell? ⟨bb,bo+1*4+1,none⟩=some (.string ⟨#[51,48]⟩)∧w'.cell? ⟨bb,bo+1*4+3,none⟩=some (.int .i64 (-5))∧2≤c∧Below w.heap.size w w'):=by
 obtain ⟨m,P,es,st,h1,h2,h3,h4⟩:=h;refine (clBal_any h1.at_ h1.ev.ok 1).mono ?_;have he:es.map Je.ep=[fE,fE2]:=h4;rintro e w' (⟨h0,_,_⟩ | ⟨h0,a,q,R,rfl,hR⟩)
 ·exact absurd (fact_oe2 he) h0
 ·obtain ⟨b1,b2,b3⟩:=hR.out;have e3:=fact_R2 he b3;subst e3;rcases b2.lies with h0 | ⟨bb,bo,rfl,_,hat⟩
  ·cases h0
  have c1:=hat 1 (by simp [fR2])
  exact ⟨bb,bo,q,rfl,c1.c1,c1.c3,b2.cap,h2.trans (b1.mono h2.size)⟩
end
theorem new_fact1 (w U:World) (a1:Option Addr) (c1:Nat) (hU:Below w.heap.size w U) (ht:Qh9 w) (hs:Qcm U a1 oC c1) :
  Calls prog 16 #[.slice a1 3 c1,.slice none 0 0,.string ⟨#[69,85,82]⟩,.string ⟨#[52,48]⟩,.string ⟨#[51,48]⟩] U fun e w'=>∃ B P,e=.returned (.tuple #[.pointer (some ⟨B,0,none⟩),.nilIface])∧Hid (ClS w' U.heap.size w'.heap.size B P (FS oC [] [])∧Below w.heap.size w w'):=by
 refine (new_any a1 none c1 0 oC [] _ _ _ U hs ⟨Nat.le_refl _,.inl rfl⟩ (fun k hk=>absurd hk (by simp))).mono ?_
 rintro e w' ⟨_,h2⟩;obtain ⟨B,P,rfl,hh⟩:=h2 Qfj.nw;have hb:=hU.trans (hh.out.2.1.mono hU.size);exact ⟨B,P,rfl,⟨hh.out.1,⟨(nwBad_ok Qfj.nw).1,fun x hx=>by cases hx⟩,fun V hV=>ht.below (hb.trans (hV.mono hU.size))⟩,hb⟩
set_option maxHeartbeats 4000000 in
theorem one_any (w:World) (ht:Qh9 w):Calls prog 4 #[] w fun e w'=>e=.returned (.bool true)∧Below w.heap.size w w':=by
 obtain ⟨w1,hw1⟩:∃ w1,w.alloc (.cells #[.string ⟨#[49,48]⟩,.string ⟨#[99,97,115,104]⟩,.int .i64 1,.string ⟨#[]⟩,.bool false,.string ⟨#[51,48]⟩,.string ⟨#[107,101,112,116]⟩,.int .i64 3,.string ⟨#[]⟩,.bool false,.string ⟨#[52,48]⟩,.string ⟨#[115,97,108,101,115]⟩,.int .i64 4,.string ⟨#[]⟩,.bool false] 48)=w1:=⟨_,rfl⟩;have hs1:Qcm w1 (some ⟨w.heap.size,0,none⟩) oC 3:=by rw [← hw1];exact oC_at w
 have hb1:Below w.heap.size w w1:=by rw [← hw1];exact (Below.refl _ w).alloc (Nat.le_refl _) _
 have HN:Hid (Calls _ _ _ _ _):=new_fact1 w w1 _ 3 hb1 ht hs1;have HZ1:Hid (w.heap.size≤w1.heap.size):=hb1.size;have HW1:Hid (w.alloc _=w1):=hw1;clear hs1 hb1 ht hw1;go_enter func4,ntmps4
 go_upto_region 2 with fail
 rw [HW1.out];clear HW1;go_wp2_with fail;refine HN.out.mono ?_;rintro e w2 ⟨B,P,rfl,h2⟩;obtain ⟨w3,hw3⟩:∃ w3,w2.alloc (.cells #[.string ⟨#[49,48]⟩,.string ⟨#[69,85,82]⟩,.int .i64 5,.string ⟨#[52,48]⟩,.string ⟨#[69,85,82]⟩,.int .i64 (-5)] 56)=w3:=⟨_,rfl⟩;have hs3:Qfs w3 (some ⟨w2.heap.size,0,none⟩) fLn 2:=by rw [← hw3];exact oL_at w2
 have hb3:Below w2.heap.size w2 w3:=by rw [← hw3];exact (Below.refl _ w2).alloc (Nat.le_refl _) _
 have HP:Hid (Calls _ _ _ _ _):=fact_post Qfj (h2.out.1.below hb3) (some ⟨w2.heap.size,0,none⟩) 2 hs3;have HB3:Hid (Below w.heap.size w w3):=h2.out.2.trans (hb3.mono h2.out.2.size);have HW3:Hid (w2.alloc (.cells #[.string ⟨#[49,48]⟩,.string ⟨#[69,85,82]⟩,.int .i64 5,.string ⟨#[52,48]⟩,.string ⟨#[69,85,82]⟩,.int .i64 (-5)] 56)=w3):=hw3;clear hw3 hs3 hb3 h2 HN;go_wp2_with fail
 try rw [HW3.out]
 clear HW3;refine HP.out.mono ?_;rintro e w4 ⟨rfl,m4,P4,es4,st4,h4⟩;have HF0:Hid (FdAt w w1.heap.size B 0 w4):=⟨m4,P4,es4,st4,h4.out.1,HB3.out.trans (h4.out.2.2.2.mono HZ1.out),h4.out.2.2.1,h4.out.2.1⟩;clear HP h4 HB3;obtain ⟨n1,hn1⟩:∃ n1,w1.heap.size=n1:=⟨_,rfl⟩;rw [hn1] at HF0 HZ1;clear hn1;go_wp2_with fail;go_loopw [4] (fun i wr=>∃ k:Nat,k≤6∧i=.int .i64 k∧Hid (FdAt w n1 B k wr)) (fun i _=>6 - (RowKit.intOf i).toNat)
 case atStart=>exact ⟨0,Nat.zero_le _,rfl,HF0⟩
 case round=>
  obtain ⟨k,hk,rfl,HF⟩:=hrel;clear HF0;by_cases h6:k<6
  ·have HAd:Hid (Calls _ _ _ _ _):=HF.out.adv HZ1.out h6;have q0:(k:Int)<6:=by omega
   clear HF;go_wp2_with fail;refine HAd.out.mono ?_;rintro e w5 ⟨n5,rfl,HF5⟩;clear HAd;go_wp2;go_roundw
   case rel=>exact ⟨k+1,by omega,by go_num,HF5⟩
   case measure=>simp [RowKit.intOf];omega
  ·obtain rfl:k=6:=by omega
   have HBa:Hid (Calls _ _ _ _ _):=HF.out.bals;clear HF HZ1 h6 hk;go_wp2_with fail;refine HBa.out.mono ?_;rintro e w5 ⟨bb,bo,bc,rfl,h5⟩;obtain ⟨f1,f3,j1,hb5⟩:=h5.out;have HB5:Hid (Below w.heap.size w w5):=hb5;clear HBa h5 hb5;go_wp2;go_ret;exact ⟨rfl,HB5.out⟩
end
section
open Go.RowKit Go.Lib Go.Proofs.Tryz
theorem Qai (W:World) (o:Obj):(W.alloc o).heap[W.heap.size]? = some o:=by unfold World.alloc;simp only [Array.getElem?_push_size]
def byC (l:List UInt8):List Value:=l.map fun b=>Value.int .u8 b.toNat
theorem Qaf (l:List UInt8):(byC l).length=l.length:=by simp [byC]
theorem QbJ (l m:List UInt8):byC (l++m)=byC l++byC m:=by simp [byC]
theorem QfI (l:List UInt8):∀ u∈byC l,u.oneCell'=true:=by
 intro u hu;simp only [byC,List.mem_map] at hu;obtain ⟨b,_,rfl⟩:=hu;rfl
theorem Qb0 (l:List UInt8) (k:Nat) (h:k<l.length):(byC l)[k]? = some (.int .u8 (l[k]'h).toNat):=by simp [byC,h]
structure Bk where
 byt:List UInt8
 torn:Bool
def bk0:Bk:=⟨List.replicate 64 0,false⟩
def Bk.cells (b:Bk):List Value:=byC b.byt++[.bool b.torn]
def Bk.ok (b:Bk):Prop:=b.byt.length=64
theorem Bk.cells_length {b:Bk} (h:b.ok):b.cells.length=65:=by
 unfold Bk.ok at h;simp [Bk.cells,Qaf,h]
theorem Bk.cells_one (b:Bk):∀ u∈b.cells,u.oneCell'=true:=by
 intro u hu;simp only [Bk.cells,List.mem_append,List.mem_singleton] at hu;rcases hu with hu | rfl
 ·exact QfI _ u hu
 ·rfl
theorem Qej:bk0.ok:=by simp [bk0,Bk.ok]
structure Cg where
 at_:Nat
 tgt:Bk
def cg0:Cg:=⟨0,bk0⟩
def Cg.cells (c:Cg):List Value:=.int .i64 (c.at_:Int) :: c.tgt.cells
theorem Cg.cells_length {c:Cg} (h:c.tgt.ok):c.cells.length=66:=by simp [Cg.cells,Bk.cells_length h]
theorem Cg.cells_one (c:Cg):∀ u∈c.cells,u.oneCell'=true:=by
 intro u hu;simp only [Cg.cells,List.mem_cons] at hu;rcases hu with rfl | hu
 ·rfl
 ·exact c.tgt.cells_one u hu
def Qau {α:Type} (f:α→List Value) (l:List α):List Value:=l.flatMap f
theorem Qbu {α:Type} (f:α→List Value) (z:Nat):∀ l:List α,(∀ x∈l,(f x).length=z)→(Qau f l).length=l.length*z
 | [],_=>by simp [Qau]
 | x :: l,h=>by
  have:=Qbu f z l (fun y hy=>h y (by simp [hy]))
  unfold Qau at *
  simp only [List.flatMap_cons,List.length_append,h x (by simp),this,List.length_cons,Nat.add_mul]
  omega
theorem Qcb {α:Type} (f:α→List Value) (l m:List α):Qau f (l++m)=Qau f l++Qau f m:=by simp [Qau]
theorem rowOf_one {α:Type} (f:α→List Value) (x:α):Qau f [x]=f x:=by simp [Qau]
theorem Qfa {α:Type} (f:α→List Value) (z:Nat):∀ (l:List α) (k j:Nat) (hk:k<l.length),(∀ x∈l,(f x).length=z)→j<z→(Qau f l)[k*z+j]? = (f l[k])[j]?
 | [],_,_,h,_,_=>absurd h (by simp)
 | x :: l,0,j,_,hz,hj=>by
  simp only [Qau,List.flatMap_cons,Nat.zero_mul,Nat.zero_add];rw [List.getElem?_append_left (by rw [hz x (by simp)];exact hj)]
  rfl
 | x :: l,k+1,j,h,hz,hj=>by
  have ih:=Qfa f z l k j (by simpa using h) (fun y hy=>hz y (by simp [hy])) hj
  have hx:=hz x (by simp)
  simp only [Qau,List.flatMap_cons] at ih ⊢;rw [List.getElem?_append_right (by rw [hx,Nat.add_mul];omega),hx]
  rw [show (k+1)*z+j - z=k*z+j by rw [Nat.add_mul];omega,ih]
  rfl
theorem rowOf_take {α:Type} (f:α→List Value) (z:Nat) (l:List α) (k:Nat) (hz:∀ x∈l,(f x).length=z) (hk:k≤l.length):(Qau f l).take (k*z)=Qau f (l.take k):=by
 have h:=Qcb f (l.take k) (l.drop k);rw [List.take_append_drop] at h;have hl:(Qau f (l.take k)).length=k*z:=by rw [Qbu f z _ (fun x hx=>hz x (List.mem_of_mem_take hx)),List.length_take,Nat.min_eq_left hk]
 rw [h,← hl,List.take_left]
theorem rowOf_drop {α:Type} (f:α→List Value) (z:Nat) (l:List α) (k:Nat) (hz:∀ x∈l,(f x).length=z) (hk:k≤l.length):(Qau f l).drop (k*z)=Qau f (l.drop k):=by
 have h:=Qcb f (l.take k) (l.drop k);rw [List.take_append_drop] at h;have hl:(Qau f (l.take k)).length=k*z:=by rw [Qbu f z _ (fun x hx=>hz x (List.mem_of_mem_take hx)),List.length_take,Nat.min_eq_left hk]
 rw [h,← hl,List.drop_left]
theorem rowOf_set {α:Type} (f:α→List Value) (z:Nat) (l:List α) (k:Nat) (x:α) (hz:∀ y∈l,(f y).length=z) (hk:k<l.length) :
  (Qau f l).take (k*z)++f x++(Qau f l).drop (k*z+z)=Qau f (l.set k x):=by
 rw [rowOf_take f z l k hz (by omega),show k*z+z=(k+1)*z by rw [Nat.add_mul];omega,rowOf_drop f z l (k+1) hz (by omega),List.set_eq_take_append_cons_drop,if_pos hk]
 rw [Qcb,show x :: l.drop (k+1)=[x]++l.drop (k+1) from rfl,Qcb,rowOf_one]
 simp
theorem rowOf_oneC {α:Type} (f:α→List Value) (l:List α) (h:∀ x∈l,∀ u∈f x,u.oneCell'=true):∀ u∈Qau f l,u.oneCell'=true:=by
 intro u hu;simp only [Qau,List.mem_flatMap] at hu;obtain ⟨x,hx,hu⟩:=hu;exact h x hx u hu
structure Dk where
 now:List Bk
 safe:List Bk
 chg:List Cg
 steps:Nat
 fail:Int
structure Dk.ok (D:Dk) (n:Nat):Prop where
 nowL:D.now.length=n
 safeL:D.safe.length=n
 nowO:∀ x∈D.now,x.ok
 safeO:∀ x∈D.safe,x.ok
 chgO:∀ c∈D.chg,c.tgt.ok∧c.at_<n
structure QaT (w:World) (lo p nb sb:Nat) (cv:Value) (n:Nat) (D:Dk):Prop where
 box:w.heap[p]? = some (.cells #[.slice (some ⟨nb,0,none⟩) n n,.slice (some ⟨sb,0,none⟩) n n,cv,.int .i64 (D.steps:Int),.int .i64 D.fail] 76 (0,0))
 now:w.heap[nb]? = some (.cells (Qau Bk.cells D.now).toArray 95 (0,0))
 safe:w.heap[sb]? = some (.cells (Qau Bk.cells D.safe).toArray 95 (0,0))
 ne:nb≠sb
 lp:lo≤p
 ln:lo≤nb
 ls:lo≤sb
 chg:w.ownsRow lo 97 66 cv D.chg.length (Qau Cg.cells D.chg)
 ok:D.ok n
structure Qan (lo:Nat) (T:List TypeId) (V W:World):Prop where
 os:W.os=V.os
 tape:W.tape=V.tape
 output:W.output=V.output
 size:V.heap.size≤W.heap.size
 block:∀ b,b<V.heap.size→(b<lo∨∀ cs t fr,V.heap[b]? = some (.cells cs t fr)→t ∉ T)→W.heap[b]? = V.heap[b]?
section
variable {lo:Nat} {T:List TypeId} {V W U:World}
theorem Qan.trans (h:Qan lo T V W) (k:Qan lo T W U):Qan lo T V U:=
 ⟨k.os.trans h.os,k.tape.trans h.tape,k.output.trans h.output,Nat.le_trans h.size k.size,fun b hb ht=>by
  have e:=h.block b hb ht;rw [← e];exact k.block b (by have:=h.size;omega) (ht.imp id (fun h' cs t fr hh=>h' cs t fr (e▸hh)))⟩
theorem Qan.alloc (h:Qan lo T V W) (o:Obj):Qan lo T V (W.alloc o):=
 h.trans ⟨rfl,rfl,rfl,by simp,fun b hb _=>Below.heap_alloc _ _ _ hb⟩
theorem Qan.drew (h:Qan lo T V W):Qan lo T V W.drew:=h.trans ⟨rfl,rfl,rfl,Nat.le_refl _,fun _ _ _=>rfl⟩
theorem Qan.below (h:Qan lo T V W) (hl:lo≤V.heap.size):Below lo V W:=⟨h.os,h.tape,h.output,h.size,fun k hk=>h.block k (by omega) (.inl hk)⟩
theorem Qan.of_below (h:Below V.heap.size V W):Qan lo T V W:=⟨h.os,h.tape,h.output,h.size,fun b hb _=>h.block b hb⟩
theorem Qan.row {b:Nat} {cs:Array Value} {t:TypeId} {fr:Nat×Nat} (h:Qan lo T V W) (hb:V.heap[b]? = some (.cells cs t fr)) (ht:t ∉ T):W.heap[b]? = some (.cells cs t fr):=
 (h.block b (Array.getElem?_eq_some_iff.1 hb).1 (.inr (fun cs' t' fr' e=>by rw [hb] at e;cases e;exact ht))).trans hb
theorem Qan.setRow {b:Nat} {cs:Array Value} {t:TypeId} {fr:Nat×Nat} (h:Qan lo T V W) (hb:W.heap[b]? = some (.cells cs t fr)) (ht:t∈T) (hl:lo≤b) (cs':Array Value):Qan lo T V (W.setRow b cs'):=
 h.trans ⟨rfl,rfl,rfl,by simp,fun k hk hh=>by
  by_cases e:k=b
  ·subst e;rcases hh with hh | hh
   ·omega
   ·exact absurd ht (hh _ _ _ hb)
  ·exact setRow_other W b k cs' e⟩
theorem Qan.grown {row:Option Nat} (h:Qan lo T V W) (hg:W.grownBy U row) (hr:∀ j,row=some j→lo≤j∧∃ cs t fr,W.heap[j]? = some (.cells cs t fr)∧t∈T):Qan lo T V U:=
 h.trans ⟨hg.os,hg.tape,hg.output,hg.size,fun k hk hh=>hg.block k hk (fun e=>by
  obtain ⟨h1,cs,t,fr,h2,h3⟩:=hr k e.symm;rcases hh with hh | hh
  ·omega
  ·exact hh _ _ _ h2 h3)⟩
end
theorem QaT.p0 {w:World} {lo p nb sb:Nat} {cv:Value} {n:Nat} {D:Dk} (h:QaT w lo p nb sb cv n D):w.cell? ⟨p,0,none⟩=some (.slice (some ⟨nb,0,none⟩) n n):=by have:=h.box;simp [World.cell?,this]
theorem QaT.p1 {w:World} {lo p nb sb:Nat} {cv:Value} {n:Nat} {D:Dk} (h:QaT w lo p nb sb cv n D):w.cell? ⟨p,1,none⟩=some (.slice (some ⟨sb,0,none⟩) n n):=by have:=h.box;simp [World.cell?,this]
theorem QaT.p2 {w:World} {lo p nb sb:Nat} {cv:Value} {n:Nat} {D:Dk} (h:QaT w lo p nb sb cv n D):w.cell? ⟨p,2,none⟩=some cv:=by have:=h.box;simp [World.cell?,this]
theorem QaT.p3 {w:World} {lo p nb sb:Nat} {cv:Value} {n:Nat} {D:Dk} (h:QaT w lo p nb sb cv n D):w.cell? ⟨p,3,none⟩=some (.int .i64 (D.steps:Int)):=by have:=h.box;simp [World.cell?,this]
theorem QaT.p4 {w:World} {lo p nb sb:Nat} {cv:Value} {n:Nat} {D:Dk} (h:QaT w lo p nb sb cv n D):w.cell? ⟨p,4,none⟩=some (.int .i64 D.fail):=by have:=h.box;simp [World.cell?,this]
theorem QaT.fz {w:World} {lo p nb sb:Nat} {cv:Value} {n:Nat} {D:Dk} (h:QaT w lo p nb sb cv n D) (o:Nat):w.frozen? ⟨p,o,none⟩=false:=by have:=h.box;simp [World.frozen?,this]
theorem QaT.lt {w:World} {lo p nb sb:Nat} {cv:Value} {n:Nat} {D:Dk} (h:QaT w lo p nb sb cv n D):p<w.heap.size:=(Array.getElem?_eq_some_iff.1 h.box).1
def dkT:List TypeId:=[76,95,97]
theorem Qa0 {w W:World} {lo:Nat} {e:TypeId} {z:Nat} {v:Value} {m:Nat} {xs:List Value} (h:w.ownsRow lo e z v m xs) (hk:∀ (b:Nat) (cs:Array Value),w.heap[b]? = some (.cells cs e (0,0))→lo≤b→W.heap[b]? = w.heap[b]?):W.ownsRow lo e z v m xs:=by
 rcases h.2 with ⟨hv,hn⟩ | ⟨g1,c1,cur,hv,hb1,hh,r⟩
 ·exact ⟨h.1,.inl ⟨hv,hn⟩⟩
 ·exact ⟨h.1,.inr ⟨g1,c1,cur,hv,hb1,(hk g1 cur hh hb1).trans hh,r⟩⟩
theorem QaT.keep {w W:World} {lo p nb sb:Nat} {cv:Value} {n:Nat} {D:Dk} (h:QaT w lo p nb sb cv n D) (hk:∀ (b:Nat) (cs:Array Value) (t:TypeId),w.heap[b]? = some (.cells cs t (0,0))→t∈dkT→W.heap[b]? = w.heap[b]?):QaT W lo p nb sb cv n D:=
 ⟨(hk _ _ _ h.box (by simp [dkT])).trans h.box,(hk _ _ _ h.now (by simp [dkT])).trans h.now,(hk _ _ _ h.safe (by simp [dkT])).trans h.safe,h.ne,h.lp,h.ln,h.ls,Qa0 h.chg (fun b cs e _=>hk b cs _ e (by simp [dkT])),h.ok⟩
theorem QaT.below {w W:World} {lo p nb sb:Nat} {cv:Value} {n:Nat} {D:Dk} (h:QaT w lo p nb sb cv n D) (hb:Below w.heap.size w W):QaT W lo p nb sb cv n D:=
 h.keep (fun b cs t e _=>hb.block b (Array.getElem?_eq_some_iff.1 e).1)
end
section
open Go.RowKit Go.Lib Go.Proofs.Tryz
structure Qbh (w W:World):Prop where
 os:W.os=w.os
 tape:W.tape=w.tape
 output:W.output=w.output
 heap:W.heap=w.heap
theorem Qbh.refl (w:World):Qbh w w:=⟨rfl,rfl,rfl,rfl⟩
theorem Qbh.drew (w:World):Qbh w w.drew:=⟨rfl,rfl,rfl,rfl⟩
theorem Qbh.drewN (w:World) (k:Nat):Qbh w (w.drewN k):=⟨rfl,rfl,rfl,rfl⟩
theorem Qbh.keeps {w W:World} (h:Qbh w W) (lo:Nat) (T:List TypeId):Qan lo T w W:=⟨h.os,h.tape,h.output,by rw [h.heap];exact Nat.le_refl _,fun _ _ _=>by rw [h.heap]⟩
theorem Qbh.below {w W:World} (h:Qbh w W) (n:Nat):Below n w W:=⟨h.os,h.tape,h.output,by rw [h.heap];exact Nat.le_refl _,fun _ _=>by rw [h.heap]⟩
theorem QaT.still {w W:World} {lo p nb sb:Nat} {cv:Value} {n:Nat} {D:Dk} (h:QaT w lo p nb sb cv n D) (hs:Qbh w W):QaT W lo p nb sb cv n D:=h.below (hs.below _)
def hasK (n:Nat) (i:Int):Bool:=decide (0≤i∧i<n)
theorem has_any (lo p nb sb:Nat) (cv:Value) (n:Nat) (D:Dk) (i:Int) (w:World) (h:QaT w lo p nb sb cv n D) :
  Calls prog 106 #[.pointer (some ⟨p,0,none⟩),.int .i64 i] w fun e w'=>e=.returned (.bool (hasK n i))∧Qbh w w':=by
 have c0:=h.p0;clear h;unfold hasK;by_cases h0:0≤i
 ·by_cases h1:i<n
  ·rw [decide_eq_true ⟨h0,h1⟩];go_enter func106,ntmps106
   go_wp2;go_ret;exact ⟨rfl,Qbh.refl _⟩
  ·rw [decide_eq_false (by omega)]
   go_enter func106,ntmps106
   go_wp2;go_ret;exact ⟨rfl,Qbh.refl _⟩
 ·rw [decide_eq_false (by omega)]
  go_enter func106,ntmps106
  go_wp2;go_ret;exact ⟨rfl,Qbh.refl _⟩
def Dk.failing (D:Dk):Bool:=decide (0≤D.fail∧D.fail≤(D.steps:Int))
theorem Qc8 (lo p nb sb:Nat) (cv:Value) (n:Nat) (D:Dk) (w:World) (h:QaT w lo p nb sb cv n D) :
  Calls prog 105 #[.pointer (some ⟨p,0,none⟩)] w fun e w'=>e=.returned (.bool D.failing)∧Qbh w w':=by
 have c3:=h.p3;have c4:=h.p4;clear h;unfold Dk.failing;generalize D.fail=f at *
 generalize (D.steps:Int)=s at *
 by_cases h0:0≤f
 ·by_cases h1:f≤s
  ·rw [decide_eq_true ⟨h0,h1⟩];go_enter func105,ntmps105
   go_wp2;go_region_held3 (fun u=>u.cell? ⟨p,3,none⟩=some (.int .i64 s)∧u.cell? ⟨p,4,none⟩=some (.int .i64 f)) (go_keep) (fail)
   go_wp2;go_ret;exact ⟨rfl,Qbh.drew _⟩
  ·rw [decide_eq_false (by omega)]
   have hd1:decide (f≤s)=false:=decide_eq_false h1;go_enter func105,ntmps105
   go_wp2;go_region_held3 (fun u=>u.cell? ⟨p,3,none⟩=some (.int .i64 s)∧u.cell? ⟨p,4,none⟩=some (.int .i64 f)) (go_keep) (fail)
   go_wp2;go_ret;exact ⟨rfl,Qbh.drew _⟩
 ·rw [decide_eq_false (by omega)]
  have hd0:decide (0≤f)=false:=decide_eq_false h0;go_enter func105,ntmps105
  go_wp2;go_quiet (fail)
  go_wp2;go_ret;exact ⟨rfl,Qbh.drewN _ _⟩
end
section
open Go.RowKit Go.Lib Go.Proofs.Tryz
def dk0 (n:Nat):Dk:=⟨List.replicate n bk0,List.replicate n bk0,[],0,-1⟩
theorem dk0_ok (n:Nat):(dk0 n).ok n:=
 ⟨by simp [dk0],by simp [dk0],by simp [dk0,Qej],by simp [dk0,Qej],by simp [dk0]⟩
theorem content_info:(prog.info? 95).map (fun i=>(i.zero,i.size,i.bytes))=some (some (.agg bk0.cells.toArray),65,65):=by kernel_rfl
theorem rep_row {α:Type} (f:α→List Value) (z:Nat) (x:α) (hz:(f x).length=z) (hp:0<z) (n:Nat):madeCells (f x).toArray (n*z)=(Qau f (List.replicate n x)).toArray:=by
 apply Array.ext
 ·rw [size_madeCells,List.size_toArray,Qbu f z _ (by intro y hy;rw [List.eq_of_mem_replicate hy];exact hz),List.length_replicate]
 ·intro k h1 h2;rw [size_madeCells] at h1;have hq:k / z<n:=Nat.div_lt_of_lt_mul (by rw [Nat.mul_comm];exact h1)
  have hr:k % z<z:=Nat.mod_lt _ hp;have e:k / z*z+k % z=k:=by rw [Nat.mul_comm];exact Nat.div_add_mod k z
  have g:=Qfa f z (List.replicate n x) (k / z) (k % z) (by simpa using hq) (by intro y hy;rw [List.eq_of_mem_replicate hy];exact hz) hr
  rw [e] at g;simp only [List.getElem_replicate] at g;simp only [madeCells,Array.getElem_map,Array.getElem_range,List.size_toArray,hz,List.getElem_toArray];have h3:k % z<(f x).toArray.size:=by simpa [hz] using hr
  rw [getElem!_pos (f x).toArray (k % z) h3];rw [List.getElem?_eq_getElem (by simpa using h2),List.getElem?_eq_getElem (by simpa [hz] using hr)] at g
  simpa using (Option.some.inj g).symm
theorem make_blocks (n:Nat) (hn:n≤200) (w:World):(Instr.makeSlice 73 (.int .i64 (n:Int)) (.int .i64 (n:Int))).run prog w=.ok (.slice (some ⟨w.heap.size,0,none⟩) n n) (w.alloc (.cells (Qau Bk.cells (List.replicate n bk0)).toArray 95)):=by
 obtain ⟨i,hi,hzz⟩:=Option.map_eq_some_iff.1 content_info;simp only [Prod.mk.injEq] at hzz;obtain ⟨hz,hs,hb⟩:=hzz;have h:=run_make (P:=prog) w 73 95 i (.agg bk0.cells.toArray) underlying73 hi hz .i64 .i64 n n (by omega) (by omega) (by rw [hb];omega) (by omega)
 rw [hs] at h;simp only [Int.toNat_natCast,Value.cells] at h;rw [rep_row Bk.cells 65 bk0 (Bk.cells_length Qej) (by omega)] at h
 exact h
theorem three_new (w:World) (o1 o2 o3:Obj):(((w.alloc o1).alloc o2).alloc o3).heap[w.heap.size]? = some o1∧(((w.alloc o1).alloc o2).alloc o3).heap[w.heap.size+1]? = some o2∧(((w.alloc o1).alloc o2).alloc o3).heap[w.heap.size+2]? = some o3:=by
 refine ⟨?_,?_,?_⟩
 ·rw [Below.heap_alloc _ _ _ (by simp;omega),Below.heap_alloc _ _ _ (by simp),Qai]
 ·rw [Below.heap_alloc _ _ _ (by simp)]
  have:=Qai (w.alloc o1) o2
  rwa [World.size_alloc] at this
 ·have:=Qai ((w.alloc o1).alloc o2) o3
  rwa [World.size_alloc,World.size_alloc] at this
set_option maxHeartbeats 4000000 in
theorem new_ok (n:Nat) (w:World) (h1:1≤n) (h2:n≤200) :
  Calls prog 7 #[.int .i64 (n:Int)] w fun e w'=>∃ p nb sb,e=.returned (.tuple #[.pointer (some ⟨p,0,none⟩),.nilIface])∧QaT w' w.heap.size p nb sb (.slice none 0 0) n (dk0 n)∧Below w.heap.size w w':=by
 have hmk:=make_blocks n h2;have Hend:Hid (∀ R,R=Qau Bk.cells (List.replicate n bk0)→∀ a b,((a=w.heap.size∧b=w.heap.size+1)∨(a=w.heap.size+1∧b=w.heap.size)) →
   QaT (((w.drew.alloc (.cells R.toArray 95)).alloc (.cells R.toArray 95)).alloc (.cells #[.slice (some ⟨a,0,none⟩) n n,.slice (some ⟨b,0,none⟩) n n,.slice none 0 0,.int .i64 0,.int .i64 (-1)] 76)) w.heap.size (w.heap.size+2) a b (.slice none 0 0) n (dk0 n)):=by
  intro R hR a b hab;obtain ⟨e1,e2,e3⟩:=three_new w.drew (.cells R.toArray 95) (.cells R.toArray 95) (.cells #[.slice (some ⟨a,0,none⟩) n n,.slice (some ⟨b,0,none⟩) n n,.slice none 0 0,.int .i64 0,.int .i64 (-1)] 76);have ew:w.drew.heap.size=w.heap.size:=rfl;rw [ew] at e1 e2 e3;subst hR;rcases hab with ⟨rfl,rfl⟩ | ⟨rfl,rfl⟩
  ·exact ⟨e3,e1,e2,by omega,by omega,by omega,by omega,World.ownsRow_nil _ _ _ _,dk0_ok n⟩
  ·exact ⟨e3,e2,e1,by omega,by omega,by omega,by omega,World.ownsRow_nil _ _ _ _,dk0_ok n⟩
 have n1:(1:Int)≤n:=by omega
 have n2:(n:Int)≤200:=by omega
 have HR:Hid (_=_):=(rfl:Qau Bk.cells (List.replicate n bk0)=Qau Bk.cells (List.replicate n bk0));generalize hRR:Qau Bk.cells (List.replicate n bk0)=R at hmk HR;have HRR:Hid (R=Qau Bk.cells (List.replicate n bk0)):=hRR.symm;clear hRR HR;go_enter func7,ntmps7
 go_wp2;refine wp_region_any (by kernel_rfl) ?_
 refine wpAny_take (i:=0) (v:=.int .i64 n) rfl (by kernel_rfl) (by kernel_rfl) (by kernel_rfl) (fun _ _ _ h=>h) (Or.inl ⟨by rfl,fun w=>by go_simp⟩) ?_
 simp only [Act.put,zq0,zq1,zq2,zq3,zq4,zq5];refine wpAny_take (i:=2) (v:=.int .i64 n) rfl (by kernel_rfl) (by kernel_rfl) (by kernel_rfl) (fun _ _ _ h=>h) (Or.inl ⟨by rfl,fun w=>by go_simp⟩) ?_
 simp only [Act.put,zq0,zq1,zq2,zq3,zq4,zq5];refine wpAny_ready (rs:=[1,3]) (by kernel_rfl) (by simp) (AllReady.cons rfl (fun K hK=>?_) (AllReady.cons rfl (fun K hK=>?_) AllReady.nil))
 ·rw [if_pos (by rfl)]
  have hK':Shut (∀ a w,_→K a w):=hK;clear hK;go_wp2;refine hK'.out _ _ ?_;clear hK' K;refine Qbr (i:=3) (by kernel_rfl) ?_
  refine wpOp_step rfl ?_;intro K hK;rw [if_pos (by rfl)]
  have hK':Shut (∀ a w,_→K a w):=hK;clear hK;go_wp2;refine hK'.out _ _ ?_;clear hK' K;refine Qbr (i:=4) (by kernel_rfl) ?_
  refine wpOp_step rfl ?_;intro K hK;rw [if_pos (by rfl)]
  have hK':Shut (∀ a w,_→K a w):=hK;clear hK;go_wp2;refine hK'.out _ _ ?_;clear hK' K;refine Qbr (i:=5) (by kernel_rfl) ?_
  refine wpOp_step rfl ?_;intro K hK;rw [if_pos (by rfl)]
  have hK':Shut (∀ a w,_→K a w):=hK;clear hK;go_wp2;refine hK'.out _ _ ?_;clear hK' K;refine Qbr (i:=6) (by kernel_rfl) ?_
  refine wpOp_step rfl ?_;intro K hK;rw [if_pos (by rfl)]
  have hK':Shut (∀ a w,_→K a w):=hK;clear hK;go_wp2;refine hK'.out _ _ ?_;clear hK' K;refine Qbr (i:=7) (by kernel_rfl) ?_
  refine wpOp_step rfl ?_;intro K hK;rw [if_pos (by rfl)]
  have hK':Shut (∀ a w,_→K a w):=hK;clear hK;go_wp2;refine hK'.out _ _ ?_;clear hK' K;refine wpAny_done (by kernel_rfl) ?_ _
  go_wp2;go_ret2;exact ⟨_,_,_,rfl,Hend.out R HRR.out _ _ (.inl ⟨rfl,rfl⟩),(((Below.refl _ w).drew.alloc (Nat.le_refl _) _).alloc (by simp) _).alloc (by simp;omega) _⟩
 ·rw [if_pos (by rfl)]
  have hK':Shut (∀ a w,_→K a w):=hK;clear hK;go_wp2;refine hK'.out _ _ ?_;clear hK' K;refine Qbr (i:=1) (by kernel_rfl) ?_
  refine wpOp_step rfl ?_;intro K hK;rw [if_pos (by rfl)]
  have hK':Shut (∀ a w,_→K a w):=hK;clear hK;go_wp2;refine hK'.out _ _ ?_;clear hK' K;refine Qbr (i:=4) (by kernel_rfl) ?_
  refine wpOp_step rfl ?_;intro K hK;rw [if_pos (by rfl)]
  have hK':Shut (∀ a w,_→K a w):=hK;clear hK;go_wp2;refine hK'.out _ _ ?_;clear hK' K;refine Qbr (i:=5) (by kernel_rfl) ?_
  refine wpOp_step rfl ?_;intro K hK;rw [if_pos (by rfl)]
  have hK':Shut (∀ a w,_→K a w):=hK;clear hK;go_wp2;refine hK'.out _ _ ?_;clear hK' K;refine Qbr (i:=6) (by kernel_rfl) ?_
  refine wpOp_step rfl ?_;intro K hK;rw [if_pos (by rfl)]
  have hK':Shut (∀ a w,_→K a w):=hK;clear hK;go_wp2;refine hK'.out _ _ ?_;clear hK' K;refine Qbr (i:=7) (by kernel_rfl) ?_
  refine wpOp_step rfl ?_;intro K hK;rw [if_pos (by rfl)]
  have hK':Shut (∀ a w,_→K a w):=hK;clear hK;go_wp2;refine hK'.out _ _ ?_;clear hK' K;refine wpAny_done (by kernel_rfl) ?_ _
  go_wp2;go_ret2;exact ⟨_,_,_,rfl,Hend.out R HRR.out _ _ (.inr ⟨rfl,rfl⟩),(((Below.refl _ w).drew.alloc (Nat.le_refl _) _).alloc (by simp) _).alloc (by simp;omega) _⟩
end
section
open Go.RowKit Go.Lib Go.Proofs.Tryz
structure IsIn (w:World) (a:Option Addr) (l:List Int) (cap:Nat):Prop where
 cap:l.length≤cap
 lies:l=[]∨∃ b off,a=some ⟨b,off,none⟩∧b<w.heap.size∧∀ k,k<l.length→w.cell? ⟨b,off+k,none⟩=some (.int .i64 (l.getD k 0))
def Qco (l:List Int) (n:Nat):List Bool:=(List.range n).map fun (i:Nat)=>decide ((i:Int)∈l)
theorem Qf3 (l:List Int) (n:Nat):(Qco l n).length=n:=by simp [Qco]
theorem markL_in (l:List Int) (n:Nat) (x:Int) (h0:0≤x) (h1:x<n):(Qco l n).set x.toNat true=Qco (l++[x]) n:=by
 apply List.ext_getElem
 ·simp [Qco]
 ·intro i h2 h3;simp only [Qco,List.getElem_set,List.getElem_map,List.getElem_range,List.mem_append,List.mem_singleton];by_cases e:x.toNat=i
  ·rw [if_pos e]
   have:(i:Int)=x:=by omega
   simp [this]
  ·rw [if_neg e]
   have:¬ (i:Int)=x:=by omega
   simp [this]
theorem markL_out (l:List Int) (n:Nat) (x:Int) (h:¬ (0≤x∧x<n)):Qco (l++[x]) n=Qco l n:=by
 apply List.ext_getElem
 ·simp [Qco]
 ·intro i h2 h3;have hi:i<n:=by simpa [Qco] using h3
  simp only [Qco,List.getElem_map,List.getElem_range,List.mem_append,List.mem_singleton]
  have:¬ (i:Int)=x:=by omega
  simp [this]
def QbX (w:World) (g:Nat) (bs:List Bool):Prop:=w.heap[g]? = some (.cells (bs.map Value.bool).toArray 4 (0,0))
theorem QbX.cell {w:World} {g:Nat} {r:List Bool} (h:QbX w g r) {i:Nat} (hi:i<r.length):w.cell? ⟨g,i,none⟩=some (.bool (r.getD i false)):=by
 unfold QbX at h;simp [World.cell?,h,hi]
theorem QbX.frozen {w:World} {g:Nat} {r:List Bool} (h:QbX w g r) (i:Nat):w.frozen? ⟨g,i,none⟩=false:=by
 unfold QbX at h;simp [World.frozen?,h]
theorem QbX.set {w:World} {g:Nat} {r:List Bool} (h:QbX w g r) (i:Nat) (x:Bool):QbX (w.setCell ⟨g,i,none⟩ (.bool x)) g (r.set i x):=by
 unfold QbX at *
 rw [setCell_eq_setRow w g i _ 4 (0,0) _ h,setRow_heap w g _ _ 4 (0,0) h];simp [List.map_set]
theorem QbX.lt {w:World} {g:Nat} {r:List Bool} (h:QbX w g r):g<w.heap.size:=(Array.getElem?_eq_some_iff.1 h).1
theorem bool_info:(prog.info? 4).map (fun i=>(i.zero,i.size,i.bytes))=some (some (.bool false),1,1):=by kernel_rfl
theorem QbX.made (w:World) (n:Nat):QbX (w.alloc (.cells (madeCells #[.bool false] n) 4)) w.heap.size (Qco [] n):=by
 unfold QbX;rw [Qai];congr 2;apply Array.ext
 ·simp [madeCells,Qco]
 ·intro i h1 h2;simp [madeCells,Nat.mod_one,Qco]
theorem ints_take (l:List Int) (k:Nat) (h:k<l.length):l.take (k+1)=l.take k++[l.getD k 0]:=by
 rw [List.take_add_one,List.getElem?_eq_getElem h,List.getD_eq_getElem?_getD,List.getElem?_eq_getElem h];rfl
set_option maxHeartbeats 2000000 in
theorem marked_any (a:Option Addr) (l:List Int) (cap n:Nat) (w:World) (h:IsIn w a l cap) (hn:n≤1000000) (hl:l.length≤9223372036854775807) :
  Calls prog 36 #[.slice a l.length cap,.int .i64 (n:Int)] w fun e w'=>e=.returned (.slice (some ⟨w.heap.size,0,none⟩) n n)∧QbX w' w.heap.size (Qco l n)∧Below w.heap.size w w':=by
 have hmk:=fun w=>run_make_row' (P:=prog) 91 4 (.bool false) 1 underlying91 bool_info rfl .i64 .i64 n (by omega) (by omega) w
 have Hl:Hid (∀ W,Below w.heap.size w W→∀ k,k<l.length→∃ b off,a=some ⟨b,off,none⟩∧W.cell? ⟨b,off+k,none⟩=some (.int .i64 (l.getD k 0))):=by
  intro W hW k hk;rcases h.lies with h | ⟨b,off,e,hlt,hc⟩
  ·subst h;simp at hk
  ·exact ⟨b,off,e,(hW.cell (p:=⟨b,off+k,none⟩) hlt).trans (hc k hk)⟩
 have hr0:=QbX.made w n;have hb0:=(Below.refl w.heap.size w).alloc (Nat.le_refl _) (.cells (madeCells #[.bool false] n) 4);have n0:(0:Int)≤n:=by omega
 have hl':(l.length:Int)≤9223372036854775807:=by omega
 clear h;go_enter func36,ntmps36
 go_wp2;clear hmk;go_loopw [12] (fun i wr=>∃ k:Nat,k≤l.length∧i=.int .i64 k∧Hid (QbX wr w.heap.size (Qco (l.take k) n)∧Below w.heap.size w wr)) (fun i _=>l.length - (RowKit.intOf i).toNat)
 case atStart=>exact ⟨0,Nat.zero_le _,rfl,hr0,hb0⟩
 case round=>
  obtain ⟨k,hk,rfl,H⟩:=hrel;obtain ⟨R,B⟩:=H.out;clear H;by_cases hlt:k<l.length
  ·obtain ⟨b,off,rfl,hc⟩:=Hl.out wr B k hlt;have et:=ints_take l k hlt;generalize l.getD k 0=x at *
   have j0:(0:Int)≤k:=by omega
   have j1:(k:Int)<l.length:=by omega
   by_cases hx0:0≤x
   ·by_cases hx1:x<n
    ·have em:=markL_in (l.take k) n x hx0 hx1;rw [← et] at em;have rc:=R.cell (i:=x.toNat) (by rw [Qf3];omega)
     have rf:=R.frozen x.toNat;have hset:=R.set x.toNat true;rw [em] at hset;have HS:Hid (QbX _ _ _):=hset;have HB:Hid (Below w.heap.size w (wr.setCell ⟨w.heap.size,x.toNat,none⟩ (.bool true))):=B.setCell (p:=⟨w.heap.size,x.toNat,none⟩) (Nat.le_refl _) _;generalize (Qco (l.take k) n).getD x.toNat false=z at rc;clear R B em et hset;go_wp2;go_roundw
     case rel=>exact ⟨k+1,by omega,by go_num,HS.out,HB.out⟩
     case measure=>simp [RowKit.intOf];omega
    ·have em:=markL_out (l.take k) n x (by omega)
     rw [← et] at em;have HR:Hid (QbX wr w.heap.size (Qco (l.take (k+1)) n)∧Below w.heap.size w wr):=by rw [em];exact ⟨R,B⟩
     clear R B em et;go_wp2;go_roundw
     case rel=>exact ⟨k+1,by omega,by go_num,HR⟩
     case measure=>simp [RowKit.intOf];omega
   ·have em:=markL_out (l.take k) n x (by omega)
    rw [← et] at em;have HR:Hid (QbX wr w.heap.size (Qco (l.take (k+1)) n)∧Below w.heap.size w wr):=by rw [em];exact ⟨R,B⟩
    clear R B em et;go_wp2;go_roundw
    case rel=>exact ⟨k+1,by omega,by go_num,HR⟩
    case measure=>simp [RowKit.intOf];omega
  ·have ek:k=l.length:=by omega
   subst ek;have j1:¬ (l.length:Int)<l.length:=by omega
   rw [List.take_length] at R;have HR:Hid (QbX wr w.heap.size (Qco l n)∧Below w.heap.size w wr):=⟨R,B⟩;clear R B;go_wp2;go_ret;exact ⟨rfl,HR.out.1,HR.out.2⟩
end
end Go.Proofs.YtjifbbdkpanagaaGreatDoor
