/-
  Part of a proof (see the last text).
-/
import Derived.Test.YtibhgngboljhfaaGreatDoorZp8
import Derived.Deep.OwnRows
set_option linter.unusedVariables false
set_option linter.unusedSimpArgs false
set_option maxRecDepth 100000
namespace Go.Proofs.YtibhgngboljhfaaGreatDoor
section
open Go.RowKit Go.Lib Go.Proofs.Tryz
end
section
open Go.RowKit Go.Lib Go.Proofs.Tryz
def LT (cut:List Int) (i j:Nat):Prop:=cut.getD j 0<cut.getD i 0∨(cut.getD i 0=cut.getD j 0∧i<j)
theorem LT.trans {cut:List Int} {i j k:Nat} (h:LT cut i j) (h':LT cut j k):LT cut i k:=by unfold LT at *;omega
theorem cutC_neg (cut:List Int) (x y:Nat):cutC cut x y<0↔cut.getD y 0<cut.getD x 0:=by
 unfold cutC cmpN;constructor
 ·intro h;split at h
  ·assumption
  ·split at h <;> omega
 ·intro h;rw [if_pos h];omega
def toI (l:List Nat):List Int:=l.map fun (i:Nat)=>(i:Int)
theorem QhG (l:List Nat):(toI l).length=l.length:=by simp [toI]
theorem toI_app (a b:List Nat):toI (a++b)=toI a++toI b:=by simp [toI]
theorem toI_at (B:List Nat) (y:Nat) (R:List Nat):(toI (B++(y :: R))).getD B.length 0=(y:Int):=by
 simp [toI,List.getD_eq_getElem?_getD]
theorem adj_swap (B:List Nat) (x y:Nat) (R:List Nat):((toI (B++(x :: y :: R))).set (B.length+1) (x:Int)).set B.length (y:Int)=toI (B++(y :: x :: R)):=by
 rw [toI_app,toI_app,List.set_append_right _ _ (by rw [QhG];omega),List.set_append_right _ _ (by rw [QhG];omega),QhG,show B.length+1 - B.length=1 by omega,Nat.sub_self]
 rfl
theorem put_sorted {cut:List Int} {P Q:List Nat} {x:Nat} (h:(P++Q).Pairwise (LT cut)) (hQ:∀ z∈Q,LT cut x z) (hP:∀ z∈P,LT cut z x):(P++(x :: Q)).Pairwise (LT cut):=by
 obtain ⟨h1,h2,h3⟩:=List.pairwise_append.1 h;rw [List.pairwise_append];refine ⟨h1,List.pairwise_cons.2 ⟨hQ,h2⟩,?_⟩;intro a ha b hb;rcases List.mem_cons.1 hb with rfl | hb
 ·exact hP a ha
 ·exact h3 a ha b hb
theorem all_ahead {cut:List Int} {P:List Nat} {x y:Nat} (h:(P++[y]).Pairwise (LT cut)) (hy:LT cut y x):∀ z∈P++[y],LT cut z x:=by
 intro z hz;rcases List.mem_append.1 hz with hz | hz
 ·exact ((List.pairwise_append.1 h).2.2 z hz y (by simp)).trans hy
 ·rw [List.mem_singleton.1 hz];exact hy
end
section
open Go.RowKit Go.Lib Go.Proofs.Tryz
def byF (cb:Nat):Value:=.func (.func 210) #[] #[.pointer (some ⟨cb,0,none⟩)]
def InsSt (wq w:World) (g:Nat) (cut:List Int) (A T R:List Nat) (x q:Nat):Prop:=∃ P Q:List Nat,P.length=q∧P++Q=T∧(∀ z∈Q,LT cut x z)∧Qbj wq g (toI (A++(P++(x :: (Q++R)))))∧But g w wq
theorem ins_done {cut:List Int} {s T P Q:List Nat} {x k:Nat} (hT1:T.Perm (s.take k)) (hT2:T.Pairwise (LT cut)) (hPQ:P++Q=T) (htk:s.take (k+1)=s.take k++[x]) (hQx:∀ z∈Q,LT cut x z) (hPx:∀ z∈P,LT cut z x) :
  (P++(x :: Q)).Perm (s.take (k+1))∧(P++(x :: Q)).Pairwise (LT cut):=by
 subst hPQ;refine ⟨?_,put_sorted hT2 hQx hPx⟩;rw [htk];refine List.perm_middle.trans ?_;refine (List.Perm.cons x hT1).trans ?_;exact (List.perm_append_singleton x _).symm
theorem But.drewN {g:Nat} {A B:World} (h:But g A B) (n:Nat):But g A (B.drewN n):=h.trans ⟨rfl,rfl,rfl,rfl,fun _ _=>rfl⟩
set_option maxHeartbeats 8000000 in
theorem insSort_any (g cap cb gc ccap:Nat) (cut:List Int) (A s Z:List Nat) (w:World) (h:Qbj w g (toI (A++(s++Z)))) (hl:(A++(s++Z)).length≤1000000) (hc:QiL w cb gc cut ccap) (h1:cb≠g) (h2:gc≠g) (hb:∀ z∈s,z<cut.length) (hs:s.Pairwise (·<·)) (hne:0<s.length) :
  Calls prog 253 #[.slice (some ⟨g,0,none⟩) (A++(s++Z)).length cap,.int .i64 (A.length:Int),.int .i64 ((A.length+s.length:Nat):Int),byF cb] w fun e w'=>e=.returned (.tuple #[])∧Hid (∃ s':List Nat,s'.Perm s∧s'.Pairwise (LT cut)∧Qbj w' g (toI (A++(s'++Z)))∧But g w w'):=by
 have H0:Hid (∃ T:List Nat,T.Perm (s.take 1)∧T.Pairwise (LT cut)∧Qbj w g (toI (A++(T++(s.drop 1++Z))))∧But g w w):=by
  refine ⟨s.take 1,List.Perm.refl _,?_,?_,But.refl _ _⟩
  ·rcases s with _ | ⟨y,ys⟩
   ·simp
   ·simp
  ·rw [← List.append_assoc (s.take 1),List.take_append_drop];exact h
 have HCu:Hid (∀ W,But g w W→∀ x y,x<cut.length→y<cut.length→Calls prog 210 #[.int .i64 (x:Int),.int .i64 (y:Int),.pointer (some ⟨cb,0,none⟩)] W fun e w'=>e=.returned (.int .i64 (cutC cut x y))∧∃ k,w'=W.drewN k):=fun W hW x y hx hy=>byCut1_any x y cb gc cut ccap W (hc.but hW h1 h2) hx hy
 have HB:Hid (∀ z∈s,z<cut.length):=hb;have HS:Hid (s.Pairwise (·<·)):=hs;obtain ⟨L,hL⟩:∃ L,(A++(s++Z)).length=L:=⟨_,rfl⟩;rw [hL] at hl ⊢;have hLs:A.length+s.length≤L:=by rw [← hL];simp only [List.length_append];omega
 rw [show ((A.length+s.length:Nat):Int)=(A.length:Int)+s.length by omega]
 obtain ⟨a,ha⟩:∃ a,A.length=a:=⟨_,rfl⟩;rw [ha] at hLs ⊢;have a0:(0:Int)≤a:=by omega
 have aL:(a:Int)+s.length≤L:=by omega
 have lL:(L:Int)≤1000000:=by omega
 have Hlen:Hid (∀ X:List Nat,X.length=s.length→(A++(X++Z)).length=L):=fun X hX=>by rw [← hL];simp only [List.length_append];omega
 have s0:(0:Int)≤s.length:=by omega
 have HA:Hid (A.length=a):=ha;clear h hc hb hs hL ha;unfold byF;go_enter func253,ntmps253
 go_wp2;go_loopw [8] (fun t wr=>∃ k:Nat,1≤k∧k≤s.length∧t=.int .i64 ((a:Int)+k)∧Hid (∃ T:List Nat,T.Perm (s.take k)∧T.Pairwise (LT cut)∧Qbj wr g (toI (A++(T++(s.drop k++Z))))∧But g w wr)) (fun t _=>a+s.length - (RowKit.intOf t).toNat)
 case atStart=>exact ⟨1,by omega,by omega,by first | rfl | simp,H0⟩
 case round=>
  obtain ⟨k,hk1,hk,rfl,H⟩:=hrel;obtain ⟨T,hT1,hT2,hR,hBt⟩:=H.out;by_cases hlt:k<s.length
  ·have k1:(k:Int)<s.length:=by omega
   have k2:(a:Int)+k<(a:Int)+s.length:=by omega
   have k3:(0:Int)≤k:=by omega
   have hTl:T.length=k:=by rw [hT1.length_eq,List.length_take];omega
   obtain ⟨x,hx⟩:∃ x,s[k]=x:=⟨_,rfl⟩;have hxs:x∈s:=by rw [← hx];exact List.getElem_mem hlt
   have hdr:s.drop k=x :: s.drop (k+1):=by rw [List.drop_eq_getElem_cons hlt,hx]
   rw [hdr] at hR;have hTm:∀ z∈T,z<x∧z<cut.length:=fun z hz=>by
    have hz':z∈s.take k:=hT1.mem_iff.1 hz;refine ⟨?_,HB.out z (List.mem_of_mem_take hz')⟩;have hp:=HS.out;rw [← List.take_append_drop k s,hdr] at hp;exact (List.pairwise_append.1 hp).2.2 z hz' x (by simp)
   have hxc:x<cut.length:=HB.out x hxs;have HI:Hid (InsSt wr w g cut A T (s.drop (k+1)++Z) x k):=⟨T,[],hTl,by simp,by simp,hR,hBt⟩
   have HT1:Hid (T.Perm (s.take k)):=hT1;have HT2:Hid (T.Pairwise (LT cut)):=hT2;have HTm:Hid (∀ z∈T,z<x∧z<cut.length):=hTm;have Htk:Hid (s.take (k+1)=s.take k++[x]):=by
    unfold Hid;rw [List.take_add_one,List.getElem?_eq_getElem hlt,hx];rfl
   have HLL:Hid (∀ P Q:List Nat,P++Q=T→(A++(P++(x :: (Q++(s.drop (k+1)++Z))))).length=L):=fun P Q hPQ=>by
    have:=Hlen.out (P++(x :: (Q++s.drop (k+1)))) (by
     have h3:=congrArg List.length hPQ;simp only [List.length_append,List.length_cons,List.length_drop] at h3 ⊢;omega)
    rw [← this];simp only [List.length_append,List.length_cons];omega
   clear hT1 hT2 hR hBt H hTm hdr hxs hTl;go_wp2;go_loopw [9] (fun t wq=>∃ q:Nat,q≤k∧t=.int .i64 ((a:Int)+q)∧Hid (InsSt wq w g cut A T (s.drop (k+1)++Z) x q)) (fun t _=>(RowKit.intOf t).toNat)
   case atStart=>exact ⟨k,Nat.le_refl _,rfl,HI⟩
   case round=>
    rename World=>wq
    obtain ⟨q,hq,rfl,HQ⟩:=hrel;obtain ⟨P,Q,hPl,hPQ,hQx,hRow,hBq⟩:=HQ.out;have q0:(0:Int)≤q:=by omega
    have q1:(q:Int)≤k:=by omega
    rcases List.eq_nil_or_concat P with hP | ⟨P',y,hP⟩
    ·subst hP;have eq0:q=0:=by rw [← hPl];rfl
     subst eq0;obtain ⟨d1,d2⟩:=ins_done HT1.out HT2.out hPQ Htk.out hQx (by simp)
     have hd0:decide ((a:Int)<(a:Int)+(0:Nat))=false:=decide_eq_false (by omega)
     have HE:Hid (∃ T:List Nat,T.Perm (s.take (k+1))∧T.Pairwise (LT cut)∧Qbj wq g (toI (A++(T++(s.drop (k+1)++Z))))∧But g w wq):=⟨_,d1,d2,by simpa using hRow,hBq⟩
     clear d1 d2 hRow hBq hQx HQ;go_wp2;go_quiet (fail)
     rename Nat=>nk
     have HE2:Hid (∃ T:List Nat,T.Perm (s.take (k+1))∧T.Pairwise (LT cut)∧Qbj (wq.drewN nk) g (toI (A++(T++(s.drop (k+1)++Z))))∧But g w (wq.drewN nk)):=by
      obtain ⟨T',e1,e2,e3,e4⟩:=HE.out;exact ⟨T',e1,e2,e3,e4.drewN nk⟩
     clear HE;go_wp2;refine ⟨⟨k+1,by omega,by omega,by first | (congr 1;omega) | (congr 1),HE2⟩,?_⟩
     simp [RowKit.intOf];omega
    ·rw [List.concat_eq_append] at hP;subst hP;obtain ⟨p,hp⟩:∃ p,P'.length=p:=⟨_,rfl⟩;have hqp:q=p+1:=by rw [← hPl,List.length_append,hp];rfl
     subst hqp;have hyT:y∈T:=by rw [← hPQ];simp
     obtain ⟨hyx,hyc⟩:=HTm.out y hyT;have hLL:=HLL.out _ _ hPQ;have hsh:A++((P'++[y])++(x :: (Q++(s.drop (k+1)++Z))))=(A++P')++(y :: x :: (Q++(s.drop (k+1)++Z))):=by simp
     rw [hsh] at hRow hLL;have hAP:(A++P').length=a+p:=by rw [List.length_append,HA.out,hp]
     have hlen2:(toI ((A++P')++(y :: x :: (Q++(s.drop (k+1)++Z))))).length=L:=by rw [QhG];exact hLL
     have hapL:a+p+2≤L:=by rw [← hLL];simp only [List.length_append,List.length_cons] at hAP ⊢;omega
     have cy:wq.cell? ⟨g,a+p,none⟩=some (.int .i64 (y:Int)):=by
      have:=hRow.cell (i:=a+p) (by omega)
      rw [← hAP,toI_at] at this;rw [← hAP];exact this
     have cx:wq.cell? ⟨g,a+p+1,none⟩=some (.int .i64 (x:Int)):=by
      have:=hRow.cell (i:=a+p+1) (by omega)
      rw [show (A++P')++(y :: x :: (Q++(s.drop (k+1)++Z)))=((A++P')++[y])++(x :: (Q++(s.drop (k+1)++Z))) by simp] at this
      have e2:a+p+1=((A++P')++[y]).length:=by rw [List.length_append,hAP];rfl
      rw [e2,toI_at] at this;rw [e2];exact this
     have hdec:decide ((a:Int)<(a:Int)+((p+1:Nat):Int))=true:=decide_eq_true (by omega)
     have HCc:Hid (Calls _ _ _ _ _):=HCu.out wq.drew hBq.drew x y hxc hyc;have i1:(0:Int)≤(a:Int)+((p+1:Nat):Int):=by omega
     have i2:(a:Int)+((p+1:Nat):Int)<L:=by omega
     have i3:(0:Int)≤(a:Int)+((p+1:Nat):Int) - 1:=by omega
     have i4:(a:Int)+((p+1:Nat):Int) - 1<L:=by omega
     have t1:((a:Int)+((p+1:Nat):Int)).toNat=a+p+1:=by omega
     have t2:((a:Int)+((p+1:Nat):Int) - 1).toNat=a+p:=by omega
     have wr1:IntKind.i64.wrap ((a:Int)+((p+1:Nat):Int) - 1)=(a:Int)+((p+1:Nat):Int) - 1:=by rw [IntKind.wrap_i64];omega
     obtain ⟨J,hJ⟩:∃ J:Int,(a:Int)+((p+1:Nat):Int)=J:=⟨_,rfl⟩;rw [hJ] at hdec i1 i2 i3 i4 t1 t2 wr1 ⊢;have HJ:Hid ((a:Int)+((p+1:Nat):Int)=J):=hJ;obtain ⟨M,hM⟩:∃ M:Int,J - 1=M:=⟨_,rfl⟩;have wr1':IntKind.i64.wrap (J - 1)=M:=wr1.trans hM;rw [hM] at i3 i4 t2;clear wr1;have HM:Hid (J - 1=M):=hM;clear hM;have cxd:wq.drew.cell? ⟨g,a+p+1,none⟩=some (.int .i64 (x:Int)):=cx;have cyd:wq.drew.cell? ⟨g,a+p,none⟩=some (.int .i64 (y:Int)):=cy
     clear hJ hsh;have HCx:Hid (∀ n,(wq.drewN n).cell? ⟨g,a+p+1,none⟩=some (.int .i64 (x:Int))∧(wq.drewN n).cell? ⟨g,a+p,none⟩=some (.int .i64 (y:Int))):=fun n=>⟨cx,cy⟩
     have HRow:Hid (Qbj wq g _):=hRow;have HBq:Hid (But g w wq):=hBq;have HAP:Hid ((A++P').length=a+p):=hAP;by_cases hless:cutC cut x y<0
     ·have hd1:decide (cutC cut x y<0)=true:=decide_eq_true hless;have hxy:LT cut x y:=Or.inl ((cutC_neg cut x y).1 hless);have HE:Hid (∀ W:World,W.heap=wq.heap→But g w W→Qbj W g (toI ((A++P')++(y :: x :: (Q++(s.drop (k+1)++Z)))))):=fun W hW _=>by
       unfold Qbj;rw [hW];exact HRow.out
      have HF:Hid (∀ W:World,Qbj W g (((toI ((A++P')++(y :: x :: (Q++(s.drop (k+1)++Z))))).set (a+p+1) (y:Int)).set (a+p) (x:Int))→But g w W→InsSt W w g cut A T (s.drop (k+1)++Z) x p):=fun W hW hB=>by
       rw [← HAP.out,adj_swap] at hW;refine ⟨P',y :: Q,hp,by rw [← hPQ];simp,?_,by simpa using hW,hB⟩
       intro z hz;rcases List.mem_cons.1 hz with rfl | hz
       ·exact hxy
       ·exact hQx z hz
      generalize cutC cut x y=r at *
      clear hRow hBq hAP hQx HQ hxy hless cx cy;go_wp2;go_region_held3 (fun u=>u.cell? ⟨g,a+p+1,none⟩=some (.int .i64 (x:Int))∧u.cell? ⟨g,a+p,none⟩=some (.int .i64 (y:Int))) ((first | exact HCx.out _ | exact ⟨cxd,cyd⟩ | go_keep)) ((go_at_call 210;refine HCc.out.mono ?_;rintro e w' ⟨rfl,kk,rfl⟩))
      rename Nat=>nk
      obtain ⟨W2,hW2⟩:∃ W2,wq.drewN (1+nk)=W2:=⟨_,rfl⟩;have hB2:But g w W2:=by rw [← hW2];exact HBq.out.drewN _
      have hR2:=HE.out W2 (by rw [← hW2];rfl) hB2
      rw [hW2];clear hW2 HE;have e1:(toI ((A++P')++(y :: x :: (Q++(s.drop (k+1)++Z))))).getD (a+p+1) 0=x:=by
       rw [show (A++P')++(y :: x :: (Q++(s.drop (k+1)++Z)))=((A++P')++[y])++(x :: (Q++(s.drop (k+1)++Z))) by simp,show a+p+1=((A++P')++[y]).length by rw [List.length_append,HAP.out];rfl,toI_at]
      have e2:(toI ((A++P')++(y :: x :: (Q++(s.drop (k+1)++Z))))).getD (a+p) 0=y:=by rw [← HAP.out,toI_at]
      have ca:W2.drew.cell? ⟨g,a+p+1,none⟩=some (.int .i64 (x:Int)):=by rw [← e1];exact hR2.cell (by omega)
      have cb2:W2.drew.cell? ⟨g,a+p,none⟩=some (.int .i64 (y:Int)):=by rw [← e2];exact hR2.cell (by omega)
      have fa:W2.drew.frozen? ⟨g,a+p+1,none⟩=false:=hR2.frozen _;have R1:Qbj (W2.drew.setCell ⟨g,a+p+1,none⟩ (.int .i64 (y:Int))) g _:=(show Qbj W2.drew g _ from hR2).set (a+p+1) _
      have cb1:=R1.cell (i:=a+p) (by rw [List.length_set];omega)
      have fb1:=R1.frozen (a+p);have R2:=R1.set (a+p) (x:Int);have HR2:Hid (InsSt ((W2.drew.setCell ⟨g,a+p+1,none⟩ (.int .i64 (y:Int))).setCell ⟨g,a+p,none⟩ (.int .i64 (x:Int))) w g cut A T (s.drop (k+1)++Z) x p):=HF.out _ R2 ((hB2.drew.set (a+p+1) _).set (a+p) _);generalize (((toI ((A++P')++(y :: x :: (Q++(s.drop (k+1)++Z))))).set (a+p+1) (y:Int)).getD (a+p) 0)=z0 at *
      clear R1 R2 hR2 hB2 e1 e2 HF HCx HRow HBq HAP;go_wp2;refine Qal (by kernel_rfl) ?_
      refine wpAny_take (i:=0) (v:=.slice (some ⟨g,0,none⟩) L cap) rfl (by kernel_rfl) (by kernel_rfl) (by kernel_rfl) (fun _ _ _ h=>h) (Or.inl ⟨by rfl,fun w=>by go_simp⟩) ?_
      simp only [Act.put,zq0,zq1,zq2,zq3,zq4,zq5];refine wpAny_take (i:=1) (v:=.int .i64 J) rfl (by kernel_rfl) (by kernel_rfl) (by kernel_rfl) (fun _ _ _ h=>h) (Or.inl ⟨by rfl,fun w=>by go_simp⟩) ?_
      simp only [Act.put,zq0,zq1,zq2,zq3,zq4,zq5];refine wpAny_take (i:=2) (v:=.slice (some ⟨g,0,none⟩) L cap) rfl (by kernel_rfl) (by kernel_rfl) (by kernel_rfl) (fun _ _ _ h=>h) (Or.inl ⟨by rfl,fun w=>by go_simp⟩) ?_
      simp only [Act.put,zq0,zq1,zq2,zq3,zq4,zq5];refine wpAny_take (i:=3) (v:=.int .i64 J) rfl (by kernel_rfl) (by kernel_rfl) (by kernel_rfl) (fun _ _ _ h=>h) (Or.inl ⟨by rfl,fun w=>by go_simp⟩) ?_
      simp only [Act.put,zq0,zq1,zq2,zq3,zq4,zq5];refine wpAny_take (i:=4) (v:=.int .i64 M) rfl (by kernel_rfl) (by kernel_rfl) (by kernel_rfl) (fun _ _ _ h=>h) (Or.inl ⟨by rfl,fun w=>by go_simp⟩) ?_
      simp only [Act.put,zq0,zq1,zq2,zq3,zq4,zq5];refine wpAny_take (i:=5) (v:=.slice (some ⟨g,0,none⟩) L cap) rfl (by kernel_rfl) (by kernel_rfl) (by kernel_rfl) (fun _ _ _ h=>h) (Or.inl ⟨by rfl,fun w=>by go_simp⟩) ?_
      simp only [Act.put,zq0,zq1,zq2,zq3,zq4,zq5];refine wpAny_take (i:=6) (v:=.int .i64 J) rfl (by kernel_rfl) (by kernel_rfl) (by kernel_rfl) (fun _ _ _ h=>h) (Or.inl ⟨by rfl,fun w=>by go_simp⟩) ?_
      simp only [Act.put,zq0,zq1,zq2,zq3,zq4,zq5];refine wpAny_take (i:=7) (v:=.int .i64 M) rfl (by kernel_rfl) (by kernel_rfl) (by kernel_rfl) (fun _ _ _ h=>h) (Or.inl ⟨by rfl,fun w=>by go_simp⟩) ?_
      simp only [Act.put,zq0,zq1,zq2,zq3,zq4,zq5];refine wpAny_take (i:=8) (v:=.pointer (some ⟨g,a+p,none⟩)) rfl (by kernel_rfl) (by kernel_rfl) (by kernel_rfl) (fun _ _ _ h=>h) (Or.inl ⟨by rfl,fun w=>by go_simp⟩) ?_
      simp only [Act.put,zq0,zq1,zq2,zq3,zq4,zq5];refine wpAny_take (i:=10) (v:=.slice (some ⟨g,0,none⟩) L cap) rfl (by kernel_rfl) (by kernel_rfl) (by kernel_rfl) (fun _ _ _ h=>h) (Or.inl ⟨by rfl,fun w=>by go_simp⟩) ?_
      simp only [Act.put,zq0,zq1,zq2,zq3,zq4,zq5];refine wpAny_take (i:=11) (v:=.int .i64 J) rfl (by kernel_rfl) (by kernel_rfl) (by kernel_rfl) (fun _ _ _ h=>h) (Or.inl ⟨by rfl,fun w=>by go_simp⟩) ?_
      simp only [Act.put,zq0,zq1,zq2,zq3,zq4,zq5];refine wpAny_take (i:=12) (v:=.pointer (some ⟨g,a+p+1,none⟩)) rfl (by kernel_rfl) (by kernel_rfl) (by kernel_rfl) (fun _ _ _ h=>h) (Or.inl ⟨by rfl,fun w=>by go_simp⟩) ?_
      simp only [Act.put,zq0,zq1,zq2,zq3,zq4,zq5];refine Qbq (g:=15) (T:=fun u=>u=W2.drew) _ _ _ _ ?_
      refine Qfg (i:=9) (v:=.int .i64 y) rfl rfl (by kernel_rfl) (by decide) (by kernel_rfl) (by kernel_rfl) (by kernel_rfl) (by kernel_rfl) (fun _ _ _ h=>h) (Or.inl ⟨by rfl,fun w' hw'=>by subst hw';go_simp⟩) rfl ?_
      simp only [Act.put,zq0,zq1,zq2,zq3,zq4,zq5];refine Qfg (i:=13) (v:=.int .i64 x) rfl rfl (by kernel_rfl) (by decide) (by kernel_rfl) (by kernel_rfl) (by kernel_rfl) (by kernel_rfl) (fun _ _ _ h=>h) (Or.inl ⟨by rfl,fun w' hw'=>by subst hw';go_simp⟩) rfl ?_
      simp only [Act.put,zq0,zq1,zq2,zq3,zq4,zq5];refine Qfg (i:=14) (v:=.pointer (some ⟨g,a+p+1,none⟩)) rfl rfl (by kernel_rfl) (by decide) (by kernel_rfl) (by kernel_rfl) (by kernel_rfl) (by kernel_rfl) (fun _ _ _ h=>h) (Or.inl ⟨by rfl,fun w' hw'=>by subst hw';go_simp⟩) rfl ?_
      simp only [Act.put,zq0,zq1,zq2,zq3,zq4,zq5];refine L_go (by kernel_rfl) (by kernel_rfl) ?_
      refine wpOp_step rfl ?_;intro K hK;rw [if_pos (by rfl)]
      have hK':Shut (∀ a w,_→K a w):=hK;clear hK;go_wp2;refine hK'.out _ _ ?_;clear hK' K;have eW:W2.drew.setCell ⟨g,a+p+1,none⟩ (.int .i64 (y:Int))=(W2.setCell ⟨g,a+p+1,none⟩ (.int .i64 (y:Int))).drew:=rfl;rw [eW] at cb1 fb1 HR2;clear eW ca cb2 fa;generalize (W2.setCell ⟨g,a+p+1,none⟩ (.int .i64 (y:Int))).drew=W1 at *
      refine any_one (i:=16) (by kernel_rfl) ?_
      refine wpOp_step rfl ?_;intro K hK;rw [if_pos (by rfl)]
      have hK':Shut (∀ a w,_→K a w):=hK;clear hK;go_wp2;refine hK'.out _ _ ?_;clear hK' K;refine any_one (i:=17) (by kernel_rfl) ?_
      refine wpOp_step rfl ?_;intro K hK;rw [if_pos (by rfl)]
      have hK':Shut (∀ a w,_→K a w):=hK;clear hK;go_wp2;refine hK'.out _ _ ?_;clear hK' K;refine wpAny_done (by kernel_rfl) ?_ _
      go_wp2;go_roundw
      case rel=>exact ⟨p,by omega,by have:=HJ.out;have:=HM.out;first | (congr 1;omega) | go_num,HR2⟩
      case measure=>have:=HJ.out;have:=HM.out;simp [RowKit.intOf];omega
     ·have hd1:decide (cutC cut x y<0)=false:=decide_eq_false hless;have hle:¬ cut.getD y 0<cut.getD x 0:=fun e=>hless ((cutC_neg cut x y).2 e)
      have hyx2:LT cut y x:=by unfold LT;omega
      have hpp:∀ z∈P'++[y],LT cut z x:=all_ahead (by have:=HT2.out;rw [← hPQ] at this;exact (List.pairwise_append.1 this).1) hyx2
      obtain ⟨d1,d2⟩:=ins_done HT1.out HT2.out hPQ Htk.out hQx hpp;have HE:Hid (∀ W:World,W.heap=wq.heap→But g w W→∃ T:List Nat,T.Perm (s.take (k+1))∧T.Pairwise (LT cut)∧Qbj W g (toI (A++(T++(s.drop (k+1)++Z))))∧But g w W):=fun W hW hB=>⟨_,d1,d2,by
       unfold Qbj;rw [hW]
       have:=HRow.out
       unfold Qbj at this;simpa using this,hB⟩
      generalize cutC cut x y=r at *
      clear hRow hBq hAP hQx HQ d1 d2 hpp hyx2 hle hless cx cy;go_wp2;go_region_held3 (fun u=>u.cell? ⟨g,a+p+1,none⟩=some (.int .i64 (x:Int))∧u.cell? ⟨g,a+p,none⟩=some (.int .i64 (y:Int))) ((first | exact HCx.out _ | exact ⟨cxd,cyd⟩ | go_keep)) ((go_at_call 210;refine HCc.out.mono ?_;rintro e w' ⟨rfl,kk,rfl⟩))
      rename Nat=>nk
      have HE2:Hid _:=HE.out (wq.drewN (1+nk)) rfl (HBq.out.drewN _);clear HE;go_wp2;go_roundw
      case rel=>exact ⟨k+1,by omega,by omega,by first | (congr 1;omega) | (congr 1) | go_num,HE2⟩
      case measure=>simp [RowKit.intOf];omega
  ·have ek:k=s.length:=by omega
   subst ek;have k2:¬ (a:Int)+s.length<(a:Int)+s.length:=by omega
   have HE:Hid (∃ s':List Nat,s'.Perm s∧s'.Pairwise (LT cut)∧Qbj wr g (toI (A++(s'++Z)))∧But g w wr):=by
    rw [List.take_length] at hT1;rw [List.drop_length] at hR;exact ⟨T,hT1,hT2,by simpa using hR,hBt⟩
   clear hT1 hT2 hR hBt H;go_wp2;go_end0
   exact ⟨rfl,HE⟩
theorem getD_get0 {l:List Nat} {i:Nat} (h:i<l.length):l.getD i 0=l[i]:=by
 rw [List.getD_eq_getElem?_getD,List.getElem?_eq_getElem h];rfl
theorem take_one {l:List Nat} {i:Nat} (h:i<l.length):l.take (i+1)=l.take i++[l.getD i 0]:=by
 rw [getD_get0 h,List.take_add_one,List.getElem?_eq_getElem h];rfl
theorem drop_one {l:List Nat} {i:Nat} (h:i<l.length):l.drop i=l.getD i 0 :: l.drop (i+1):=by
 rw [getD_get0 h,List.drop_eq_getElem_cons h]
theorem getD_mem0 {l:List Nat} {i:Nat} (h:i<l.length):l.getD i 0∈l:=by
 rw [List.getD_eq_getElem?_getD,List.getElem?_eq_getElem h];exact List.getElem_mem h
end
section
open Go.RowKit Go.Lib Go.Proofs.Tryz
def Sorted (cut:List Int) (w w':World) (g:Nat) (s:List Nat):Prop:=∃ s':List Nat,s'.Perm s∧s'.Pairwise (LT cut)∧Qbj w' g (toI s')∧But g w w'
def Half1 (cut:List Int) (w w':World) (g k:Nat) (s:List Nat):Prop:=∃ P:List Nat,P.Perm (s.take k)∧P.Pairwise (LT cut)∧Qbj w' g (toI (P++s.drop k))∧But g w w'
theorem half1_call (g cap cb gc ccap k:Nat) (cut:List Int) (s:List Nat) (w:World) (h:Qbj w g (toI s)) (hl:s.length≤1000000) (hc:QiL w cb gc cut ccap) (h1:cb≠g) (h2:gc≠g) (hb:∀ z∈s,z<cut.length) (hs:s.Pairwise (·<·)) (hk0:0<k) (hk:k≤s.length) :
  Calls prog 253 #[.slice (some ⟨g,0,none⟩) s.length cap,.int .i64 0,.int .i64 (k:Int),byF cb] w fun e w'=>e=.returned (.tuple #[])∧Hid (Half1 cut w w' g k s):=by
 have e0:[]++(s.take k++s.drop k)=s:=by rw [List.nil_append,List.take_append_drop]
 have hl1:(s.take k).length=k:=by rw [List.length_take];omega
 have c:=insSort_any g cap cb gc ccap cut [] (s.take k) (s.drop k) w (by rw [e0];exact h) (by rw [e0];exact hl) hc h1 h2 (fun z hz=>hb z (List.mem_of_mem_take hz)) (hs.sublist (List.take_sublist _ _)) (by omega)
 rw [e0,hl1] at c;simp only [List.length_nil,Nat.zero_add] at c;refine c.mono ?_;rintro e w' ⟨rfl,hh⟩;obtain ⟨s',p1,p2,p3,p4⟩:=hh.out;exact ⟨rfl,s',p1,p2,p3,p4⟩
theorem Half1.all {cut:List Int} {w w':World} {g:Nat} {s:List Nat} (h:Half1 cut w w' g s.length s):Sorted cut w w' g s:=by
 obtain ⟨P,p1,p2,p3,p4⟩:=h;rw [List.take_length] at p1;rw [List.drop_length,List.append_nil] at p3;exact ⟨P,p1,p2,p3,p4⟩
set_option maxHeartbeats 2000000 in
theorem stable_few (g cap cb gc ccap:Nat) (cut:List Int) (s:List Nat) (w:World) (h:Qbj w g (toI s)) (hn0:0<s.length) (hn:s.length<20) (hc:QiL w cb gc cut ccap) (h1:cb≠g) (h2:gc≠g) (hb:∀ z∈s,z<cut.length) (hs:s.Pairwise (·<·)) :
  Calls prog 240 #[.slice (some ⟨g,0,none⟩) s.length cap,.int .i64 (s.length:Int),byF cb] w fun e w'=>e=.returned (.tuple #[])∧Hid (Sorted cut w w' g s):=by
 have HCC:Hid (Calls _ _ _ _ _):=half1_call g cap cb gc ccap s.length cut s w h (by omega) hc h1 h2 hb hs hn0 (Nat.le_refl _)
 have HSo:Hid (∀ W,Half1 cut w W g s.length s→Sorted cut w W g s):=fun W hW=>hW.all
 generalize s.length=n at *
 clear h hc h1 h2 hb hs;have i1:¬ (20:Int)≤n:=by omega
 have i2:¬ (20:Int)<n:=by omega
 go_enter func240,ntmps240
 go_wp2;refine wp_loop_rounds 1 ?_;rw [rounds_succ];go_wp2_with fail;refine HCC.out.mono ?_;rintro e w1 ⟨rfl,hh⟩;go_wp2_with fail;refine wp_loop_rounds 1 ?_;rw [rounds_succ];go_wp2;go_end0
 exact ⟨rfl,HSo.out w1 hh.out⟩
theorem QiF (g cap cb gc ccap:Nat) (cut:List Int) (s:List Nat) (w:World) (h:Qbj w g (toI s)) (hn0:0<s.length) (hn:s.length<20) (hc:QiL w cb gc cut ccap) (h1:cb≠g) (h2:gc≠g) (hb:∀ z∈s,z<cut.length) (hs:s.Pairwise (·<·)) :
  Calls prog 209 #[.slice (some ⟨g,0,none⟩) s.length cap,byF cb] w fun e w'=>e=.returned (.tuple #[])∧Hid (Sorted cut w w' g s):=by
 have HC:Hid (Calls _ _ _ _ _):=stable_few g cap cb gc ccap cut s w h hn0 hn hc h1 h2 hb hs;clear h hc h1 h2 hb hs;generalize s.length=n at *
 go_enter func209,ntmps209
 go_wp2_with fail;refine HC.out.mono ?_;rintro e w1 ⟨rfl,hh⟩;go_wp2;go_end0
 exact ⟨rfl,hh⟩
end
section
open Go.RowKit Go.Lib Go.Proofs.Tryz
theorem srt_int:(prog.info? 3).map (fun i=>(i.zero,i.size,i.bytes))=some (some (.int .i64 0),1,8):=by kernel_rfl
theorem srt_u64:(prog.info? 242).map (fun i=>(i.zero,i.size,i.bytes))=some (some (.int .u64 0),1,8):=by kernel_rfl
theorem QfC (f:Nat→Int) (n k:Nat) (h:k<n):((List.range k).map f++List.replicate (n - k) 0).set k (f k)=(List.range (k+1)).map f++List.replicate (n - (k+1)) 0:=by
 rw [List.set_append_right _ _ (by simp)]
 simp only [List.length_map,List.length_range,Nat.sub_self];obtain ⟨m,hm⟩:∃ m,n - k=m+1:=⟨n - k - 1,by omega⟩
 rw [hm,List.replicate_succ,List.set_cons_zero,List.range_succ,List.map_append,List.append_assoc,show n - (k+1)=m by omega]
 rfl
theorem But.below {g n:Nat} {A B:World} (h:But g A B) (hn:n≤g):Below n A B:=⟨h.os,h.tape,h.output,Nat.le_of_eq h.size,fun b hb=>h.block b (by omega)⟩
set_option maxHeartbeats 4000000 in
theorem byCut_of (gc ccap:Nat) (cut:List Int) (w:World) (HSS:∀ (g cap cb:Nat) (s:List Nat) (W:World),Qbj W g (toI s)→0<s.length→s.length=cut.length→QiL W cb gc cut ccap→cb≠g→gc≠g→(∀ z∈s,z<cut.length)→s.Pairwise (·<·)→Calls prog 209 #[.slice (some ⟨g,0,none⟩) s.length cap,byF cb] W fun e w'=>e=.returned (.tuple #[])∧Hid (Sorted cut W w' g s)) (hg:gc<w.heap.size) (hc:∀ i,i<cut.length→w.cell? ⟨gc,i,none⟩=some (.int .u64 (cut.getD i 0))) (hn0:0<cut.length) (hn:cut.length≤40) :
  Calls prog 180 #[.slice (some ⟨gc,0,none⟩) cut.length ccap] w fun e w'=>e=.returned (.slice (some ⟨w.heap.size+1,0,none⟩) cut.length cut.length)∧Hid (Below w.heap.size w w'∧∃ s:List Nat,s.Perm (List.range cut.length)∧s.Pairwise (LT cut)∧Qbj w' (w.heap.size+1) (toI s)):=by
 have hmk:=fun w=>run_make_row' (P:=prog) 97 3 (.int .i64 0) 8 underlying97 srt_int rfl .i64 .i64 cut.length (by omega) (by omega) w
 obtain ⟨wA,hwA⟩:∃ wA,w.alloc (.cells #[.slice (some ⟨gc,0,none⟩) cut.length ccap] 251)=wA:=⟨_,rfl⟩;have hA1:wA.heap.size=w.heap.size+1:=by rw [← hwA];simp
 have hA2:wA.cell? ⟨w.heap.size,0,none⟩=some (.slice (some ⟨gc,0,none⟩) cut.length ccap):=by rw [← hwA];simp
 have bA:Below w.heap.size w wA:=by rw [← hwA];exact (Below.refl _ w).alloc (Nat.le_refl _) _
 have hrow:=Qd1 wA cut.length;have bB:Below wA.heap.size wA (wA.alloc (.cells (madeCells #[.int .i64 0] cut.length) 3)):=(Below.refl _ wA).alloc (Nat.le_refl _) _;have hsB:(wA.alloc (.cells (madeCells #[.int .i64 0] cut.length) 3)).heap.size=w.heap.size+2:=by simp [hA1]
 have HS:Hid (∀ W,But (w.heap.size+1) (wA.alloc (.cells (madeCells #[.int .i64 0] cut.length) 3)) W→Qbj W (w.heap.size+1) (toI (List.range cut.length))→Calls prog 209 #[.slice (some ⟨w.heap.size+1,0,none⟩) cut.length cut.length,byF w.heap.size] W fun e w'=>e=.returned (.tuple #[])∧Hid (Below w.heap.size w w'∧∃ s:List Nat,s.Perm (List.range cut.length)∧s.Pairwise (LT cut)∧Qbj w' (w.heap.size+1) (toI s))):=fun W hW hR=>by
  have hb:Below (w.heap.size+1) wA W:=by
   have:=bB.trans (hW.below (n:=wA.heap.size) (by omega))
   rw [hA1] at this;exact this
  have hca:QiL W w.heap.size gc cut ccap:=⟨(hb.cell (p:=⟨w.heap.size,0,none⟩) (Nat.lt_succ_self _)).trans hA2,fun i hi=>((bA.trans (hb.mono (Nat.le_succ _))).cell (p:=⟨gc,i,none⟩) hg).trans (hc i hi)⟩
  have c:=HSS (w.heap.size+1) cut.length w.heap.size (List.range cut.length) W hR (by simpa using hn0) (by simp) hca (by omega) (by omega) (fun z hz=>List.mem_range.1 hz) List.pairwise_lt_range
  rw [List.length_range] at c;refine c.mono ?_;rintro e w' ⟨rfl,hh⟩;obtain ⟨s,p1,p2,p3,p4⟩:=hh.out;refine ⟨rfl,(bA.trans (hb.mono (Nat.le_succ _))).trans (p4.below (by omega)),s,p1,p2,p3⟩
 have HB0:Hid (Qbj (wA.alloc (.cells (madeCells #[.int .i64 0] cut.length) 3)) wA.heap.size (List.replicate cut.length 0)):=hrow;unfold byF at HS;rw [hA1] at HB0;generalize cut.length=n at *
 have n0:(0:Int)≤n:=by omega
 have n1:(n:Int)≤40:=by omega
 clear hc hrow bB bA HSS;go_enter func180,ntmps180
 go_wp2;clear hmk;obtain ⟨wB,hwB⟩:∃ wB,wA.alloc (.cells (madeCells #[.int .i64 0] n) 3)=wB:=⟨_,rfl⟩;rw [hwB] at HS HB0 ⊢;obtain ⟨g,hgg⟩:∃ g,w.heap.size+1=g:=⟨_,rfl⟩;rw [hgg] at HS HB0 ⊢;clear hwB hwA hA2;go_loopw [10] (fun t wr=>∃ k:Nat,k≤n∧t=.int .i64 k∧Hid (Qbj wr g ((List.range k).map (fun i:Nat=>(i:Int))++List.replicate (n - k) 0)∧But g wB wr)) (fun t _=>n - (RowKit.intOf t).toNat)
 case atStart=>exact ⟨0,Nat.zero_le _,rfl,by simpa using HB0.out,But.refl _ _⟩
 case round=>
  obtain ⟨k,hk,rfl,H⟩:=hrel;obtain ⟨R,B⟩:=H.out;by_cases hlt:k<n
  ·have hrl:((List.range k).map (fun i:Nat=>(i:Int))++List.replicate (n - k) 0).length=n:=by simp;omega
   have ck:=R.cell (i:=k) (by rw [hrl];exact hlt)
   have fk:=R.frozen k;have R2:=R.set k (k:Int);rw [QfC (fun i:Nat=>(i:Int)) n k hlt] at R2
   have HR2:Hid (Qbj (wr.setCell ⟨g,k,none⟩ (.int .i64 (k:Int))) g ((List.range (k+1)).map (fun i:Nat=>(i:Int))++List.replicate (n - (k+1)) 0)∧But g wB (wr.setCell ⟨g,k,none⟩ (.int .i64 (k:Int)))):=⟨R2,B.set k _⟩
   have k0:(0:Int)≤k:=by omega
   have k1:(k:Int)<n:=by omega
   generalize ((List.range k).map (fun i:Nat=>(i:Int))++List.replicate (n - k) 0).getD k 0=z at ck
   clear R B R2 H hrl;go_wp2;go_roundw
   case rel=>exact ⟨k+1,by omega,by go_num,HR2⟩
   case measure=>simp [RowKit.intOf];omega
  ·have ek:k=n:=by omega
   subst ek;have k1:¬ (k:Int)<k:=by omega
   have HC:Hid (Calls _ _ _ _ _):=HS.out wr B (by have R':=R;rw [Nat.sub_self,List.replicate_zero,List.append_nil] at R';exact R')
   clear R B H;go_wp2_with fail;refine HC.out.mono ?_;rintro e w1 ⟨rfl,hh⟩;go_wp2;go_ret;rw [← hgg] at hh;refine ⟨?_,hh⟩;rw [hgg];rfl
end
section
open Go.RowKit Go.Lib Go.Proofs.Tryz
abbrev decLT (cut:List Int) (i j:Nat):Decidable (LT cut i j):=by unfold LT;exact inferInstance
def rank (cut:List Int) (i:Nat):Nat:=(List.range cut.length).countP fun j=>@decide (LT cut j i) (decLT cut j i)
theorem LT.asymm {cut:List Int} {i j:Nat} (h:LT cut i j):¬ LT cut j i:=by unfold LT at *;omega
theorem LT.irrefl (cut:List Int) (i:Nat):¬ LT cut i i:=by unfold LT;omega
theorem rank_pos {cut:List Int} {l:List Nat} (hl:l.Pairwise (LT cut)) {p:Nat} (hp:p<l.length):(l.countP fun j=>@decide (LT cut j l[p]) (decLT cut j l[p]))=p:=by
 have e:l=l.take p++(l[p] :: l.drop (p+1)):=by rw [← List.drop_eq_getElem_cons hp,List.take_append_drop]
 have hs:=hl;rw [e] at hs;obtain ⟨s1,s2,s3⟩:=List.pairwise_append.1 hs;have s4:=(List.pairwise_cons.1 s2).1;generalize hx:l[p]=x at *
 rw [e,List.countP_append,List.countP_cons];have c1:(l.take p).countP (fun j=>@decide (LT cut j x) (decLT cut j x))=p:=by
  rw [List.countP_eq_length.2 (fun a ha=>by simpa using s3 a ha x (by simp)),List.length_take]
  omega
 have c2:(l.drop (p+1)).countP (fun j=>@decide (LT cut j x) (decLT cut j x))=0:=by
  rw [List.countP_eq_zero];intro a ha;simpa using (s4 a ha).asymm
 rw [c1,c2];simp [LT.irrefl]
theorem take_rank {cut:List Int} {l:List Nat} (h1:l.Perm (List.range cut.length)) (h2:l.Pairwise (LT cut)) {i:Nat} (hi:i<cut.length) (k:Nat):i∈l.take k↔rank cut i<k:=by
 have hr:∀ p (hp:p<l.length),rank cut l[p]=p:=fun p hp=>by
  unfold rank;rw [← h1.countP_eq];exact rank_pos h2 hp
 constructor
 ·intro h;obtain ⟨q,hq,e⟩:=List.getElem_of_mem h;rw [List.length_take] at hq;rw [List.getElem_take] at e;rw [← e,hr q (by omega)]
  omega
 ·intro h;have hm:i∈l:=h1.mem_iff.2 (List.mem_range.2 hi);obtain ⟨p,hp,e⟩:=List.getElem_of_mem hm;have hpk:p<k:=by rw [← hr p hp,e];exact h
  have hq:p<(l.take k).length:=by rw [List.length_take];omega
  have:=List.getElem_mem hq
  rwa [List.getElem_take,e] at this
theorem order_ex (cut:List Int):∃ l:List Nat,l.Perm (List.range cut.length)∧l.Pairwise (LT cut):=by
 let le:Nat→Nat→Bool:=fun i j=>@decide (¬ LT cut j i) (@instDecidableNot _ (decLT cut j i))
 refine ⟨(List.range cut.length).mergeSort le,List.mergeSort_perm _ _,?_⟩;have h1:=List.pairwise_mergeSort (le:=le) (fun a b c=>by
  simp only [le,decide_eq_true_eq];unfold LT;omega) (fun a b=>by
  simp only [le,Bool.or_eq_true,decide_eq_true_eq];unfold LT;omega) (List.range cut.length)
 have h2:((List.range cut.length).mergeSort le).Pairwise (·≠·):=(List.mergeSort_perm (List.range cut.length) le).symm.nodup List.nodup_range;refine (h1.and h2).imp ?_;rintro a b ⟨p1,p2⟩;simp only [le,decide_eq_true_eq] at p1;unfold LT at *
 omega
def Qa2 (T:Int) (ws:List Int):List Int:=ws.map fun x=>T*x / ws.sum
def QdE (T:Int) (ws:List Int):List Int:=ws.map fun x=>T*x % ws.sum
def QcK (T:Int) (ws:List Int):Int:=T - (Qa2 T ws).sum
def QiE (T:Int) (ws:List Int) (i:Nat):Int:=if (rank (QdE T ws) i:Int)<QcK T ws then 1 else 0
def Qc4 (t:Int):Int:=if t<0 then -t else t
def Qa4 (t:Int) (ws:List Int) (i:Nat):Int:=if t<0 then -((Qa2 (Qc4 t) ws).getD i 0+QiE (Qc4 t) ws i) else (Qa2 (Qc4 t) ws).getD i 0+QiE (Qc4 t) ws i
def QbO (ws:List Int):Int:=if 40<ws.length then 4 else if ws.any (fun x=>decide (x<0∨1000000000<x))=true then 1 else if ws.sum=0 then 6 else 0
theorem Qd6 (T:Int) (ws:List Int):(Qa2 T ws).length=ws.length:=by simp [Qa2]
theorem Qdo (T:Int) (ws:List Int):(QdE T ws).length=ws.length:=by simp [QdE]
theorem partL_at (T:Int) (ws:List Int) {i:Nat} (h:i<ws.length):(Qa2 T ws).getD i 0=T*ws.getD i 0 / ws.sum:=by
 simp [Qa2,List.getD_eq_getElem?_getD,List.getElem?_eq_getElem h]
theorem cutL_at (T:Int) (ws:List Int) {i:Nat} (h:i<ws.length):(QdE T ws).getD i 0=T*ws.getD i 0 % ws.sum:=by
 simp [QdE,List.getD_eq_getElem?_getD,List.getElem?_eq_getElem h]
def Qet (ws:List Int):Prop:=ws.length≤40∧(∀ x∈ws,0≤x∧x≤1000000000)∧0<ws.sum
theorem QcC {l:List Int} (h:∀ x∈l,0≤x):0≤l.sum:=by
 induction l with
 | nil=>simp
 | cons y ys ih=>
  rw [List.sum_cons];have h1:=h y (by simp)
  have h2:=ih (fun x hx=>h x (by simp [hx]))
  omega
theorem sum_le {l:List Int} {M:Int} (h:∀ x∈l,x≤M):l.sum≤M*l.length:=by
 induction l with
 | nil=>simp
 | cons y ys ih=>
  rw [List.sum_cons,List.length_cons];have h1:=h y (by simp)
  have h2:=ih (fun x hx=>h x (by simp [hx]))
  have h3:M*((ys.length+1:Nat):Int)=M*ys.length+M:=by rw [Int.natCast_add,Int.mul_add];simp
  omega
theorem Qjd {l:List Int} (h:∀ x∈l,0≤x) {x:Int} (hx:x∈l):x≤l.sum:=by
 induction l with
 | nil=>simp at hx
 | cons y ys ih=>
  rw [List.sum_cons];have h1:=h y (by simp)
  have h2:=QcC (fun x hx=>h x (List.mem_cons_of_mem y hx))
  rcases List.mem_cons.1 hx with rfl | hx
  ·omega
  ·have:=ih (fun x hx=>h x (List.mem_cons_of_mem y hx)) hx
   omega
theorem QfZ {ws:List Int} (h:QbO ws=0):Qet ws:=by
 unfold QbO at h;by_cases h1:40<ws.length
 ·rw [if_pos h1] at h;exact absurd h (by decide)
 ·rw [if_neg h1] at h;by_cases h2:ws.any (fun x=>decide (x<0∨1000000000<x))=true
  ·rw [if_pos h2] at h;exact absurd h (by decide)
  ·rw [if_neg h2] at h;by_cases h3:ws.sum=0
   ·rw [if_pos h3] at h;exact absurd h (by decide)
   ·have h4:∀ x∈ws,0≤x∧x≤1000000000:=fun x hx=>by
     have:¬ (x<0∨1000000000<x):=fun e=>h2 (List.any_eq_true.2 ⟨x,hx,decide_eq_true e⟩)
     omega
    have h5:=QcC (fun x hx=>(h4 x hx).1)
    exact ⟨by omega,h4,by omega⟩
theorem cut_sum (T S:Int) (ws:List Int) (hS:0<S):(ws.map fun x=>T*x % S).sum=T*ws.sum - S*(ws.map fun x=>T*x / S).sum:=by
 induction ws with
 | nil=>simp
 | cons y ys ih=>
  simp only [List.map_cons,List.sum_cons];rw [ih,Int.emod_def,Int.mul_add,Int.mul_add];omega
theorem left_cut {T:Int} {ws:List Int} (h:Qet ws):(QdE T ws).sum=ws.sum*QcK T ws:=by
 unfold QdE QcK Qa2;rw [cut_sum T ws.sum ws h.2.2,Int.mul_sub,Int.mul_comm T]
theorem Qjc {T:Int} {ws:List Int} (h:Qet ws):∀ x∈QdE T ws,0≤x∧x≤ws.sum - 1:=by
 intro x hx;unfold QdE at hx;obtain ⟨y,hy,rfl⟩:=List.mem_map.1 hx
 have:=Int.emod_nonneg (T*y) (show ws.sum≠0 by have:=h.2.2;omega)
 have:=Int.emod_lt_of_pos (T*y) h.2.2
 omega
theorem QcL {T:Int} {ws:List Int} (h:Qet ws):0≤QcK T ws:=by
 have h1:=QcC (fun x hx=>(Qjc (T:=T) h x hx).1)
 rw [left_cut h] at h1;have h3:=h.2.2;rcases Int.lt_or_le (QcK T ws) 0 with h2 | h2
 ·have:=Int.mul_neg_of_pos_of_neg h3 h2
  omega
 ·exact h2
def QeW (cut:List Int):Nat:=cut.countP fun x=>decide (0<x)
theorem sum_cut_le (l:List Int) (M:Int) (hM:0≤M) (h:∀ x∈l,0≤x∧x≤M):l.sum≤M*(QeW l):=by
 induction l with
 | nil=>simp [QeW]
 | cons y ys ih=>
  have h1:=h y (by simp)
  have h2:=ih (fun x hx=>h x (by simp [hx]))
  unfold QeW at *
  rw [List.sum_cons,List.countP_cons];by_cases h3:0<y
  ·simp only [h3,decide_true,if_true];rw [Int.natCast_add,Int.mul_add];simp;omega
  ·simp only [h3,decide_false,Bool.false_eq_true,if_false,Nat.add_zero];omega
theorem left_le_cut {T:Int} {ws:List Int} (h:Qet ws):QcK T ws≤QeW (QdE T ws):=by
 have h1:=sum_cut_le (QdE T ws) (ws.sum - 1) (by have:=h.2.2;omega) (Qjc h)
 rw [left_cut h] at h1;have h3:=h.2.2;have h4:=QcL (T:=T) h;rcases Int.lt_or_le (QeW (QdE T ws):Int) (QcK T ws) with h2 | h2
 ·exfalso;have h5:ws.sum*QcK T ws ≥ ws.sum*((QeW (QdE T ws):Int)+1):=Int.mul_le_mul_of_nonneg_left (by omega) (by omega)
  rw [Int.mul_add] at h5;rw [Int.sub_mul] at h1;omega
 ·exact h2
theorem left_le {T:Int} {ws:List Int} (h:Qet ws):QcK T ws≤ws.length:=by
 have h1:=left_le_cut (T:=T) h;have h2:QeW (QdE T ws)≤(QdE T ws).length:=List.countP_le_length;rw [Qdo] at h2;omega
end
end Go.Proofs.YtibhgngboljhfaaGreatDoor
