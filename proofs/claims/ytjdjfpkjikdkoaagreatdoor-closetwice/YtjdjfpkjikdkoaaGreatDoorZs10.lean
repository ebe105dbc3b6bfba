/-
  Part of a proof (see the last text).
-/
import Derived.Test.YtjdjfpkjikdkoaaGreatDoorZs9
import Derived.Shelf.Abstract
import Derived.Deep.Cut
set_option linter.unusedVariables false
set_option linter.unusedSimpArgs false
set_option maxRecDepth 100000
namespace Go.Proofs.YtjdjfpkjikdkoaaGreatDoor
open Go.RowKit Go.Lib
set_option maxHeartbeats 8000000 in
theorem sym_right (g cap cb gc ccap:Nat) (cut:List Int) (A u Z:List Nat) (y:Nat) (w:World) (h:NRow w g (toI (A++(u++([y]++Z))))) (hl:(A++(u++([y]++Z))).length≤1000000) (hc:CutAt w cb gc cut ccap) (h1:cb≠g) (h2:gc≠g) (hM:MG cut u [y]) (hu2:u.length≠1) :
  Calls Tryz.prog 220 #[.slice (some ⟨g,0,none⟩) (A++(u++([y]++Z))).length cap,.int .i64 (A.length:Int),.int .i64 ((A.length+u.length:Nat):Int),.int .i64 ((A.length+u.length+1:Nat):Int),byF cb] w fun e w'=>e=.returned (.tuple #[])∧Hid (MOut cut w w' g A u [y] Z):=by
 have HR:Hid (NRow w g (toI (A++(u++([y]++Z))))):=h
 have HCu:Hid (∀ W,But g w W→∀ x y,x<cut.length→y<cut.length→Calls Tryz.prog 177 #[.int .i64 (x:Int),.int .i64 (y:Int),.pointer (some ⟨cb,0,none⟩)] W fun e w'=>e=.returned (.int .i64 (cutC cut x y))∧∃ k,w'=W.drewN k):=fun W hW x y hx hy=>byCut1_any x y cb gc cut ccap W (hc.but hW h1 h2) hx hy
 have HM:Hid (MG cut u [y]):=hM
 have HL:Hid ((A++(u++([y]++Z))).length=A.length+u.length+1+Z.length):=by unfold Hid;simp only [List.length_append,List.length_cons,List.length_nil];omega
 obtain ⟨L,hL⟩:∃ L,(A++(u++([y]++Z))).length=L:=⟨_,rfl⟩
 rw [hL] at hl HL ⊢
 have HLr:Hid ((toI (A++(u++([y]++Z)))).length=L):=by unfold Hid;rw [toI_len];exact hL
 obtain ⟨a,ha⟩:∃ a,A.length=a:=⟨_,rfl⟩
 obtain ⟨n,hn⟩:∃ n,u.length=n:=⟨_,rfl⟩
 obtain ⟨m,hm⟩:∃ m,a+n=m:=⟨_,rfl⟩
 obtain ⟨b,hb⟩:∃ b,m+1=b:=⟨_,rfl⟩
 rw [ha,hn,hm,hb] at HL ⊢
 rw [hn] at hu2
 have HA:Hid (A.length=a∧u.length=n):=⟨ha,hn⟩
 have hbL:b≤L:=by have:=HL.out;omega
 have cx0:w.cell? ⟨g,m,none⟩=some (.int .i64 (y:Int)):=by
  have:=h.cell (i:=m) (by rw [toI_len,hL];omega)
  rw [show A++(u++([y]++Z))=(A++u)++(y :: Z) by simp] at this
  have e:m=(A++u).length:=by rw [List.length_append,ha,hn];exact hm.symm
  rw [e,toI_at] at this
  rw [e];exact this
 have ma:((m:Int) - a == 1)=false:=by rw [beq_eq_false_iff_ne];omega
 have ma2:¬ (m:Int) - a=1:=by omega
 have bm:(b:Int) - m=1:=by omega
 have a0:(0:Int)≤a:=by omega
 have bL:(b:Int)≤L:=by omega
 have lL:(L:Int)≤1000000:=by omega
 have m0:(0:Int)≤m:=by omega
 have am:(a:Int)≤m:=by omega
 have mb:(m:Int)<b:=by omega
 have mL:(m:Int)<L:=by omega
 have HCx:Hid (∀ k,(w.drewN k).cell? ⟨g,m,none⟩=some (.int .i64 (y:Int))):=fun k=>cx0
 clear h hc hM hL ha hn h1 h2 cx0
 unfold byF
 go_enter Tryz.func220,Tryz.ntmps220
 go_wp2
 go_loopw [14,15] (fun ti tj wr=>∃ I J:Nat,a≤I∧I≤J∧J≤m∧ti=.int .i64 I∧tj=.int .i64 J∧Hid ((∀ z∈u.take (I - a),LT cut z y)∧(∀ z∈u.drop (J - a),LT cut y z))∧Hid (∃ k,wr=w.drewN k)) (fun ti tj _=>(RowKit.intOf tj).toNat - (RowKit.intOf ti).toNat)
 case atStart=>
  refine ⟨a,m,Nat.le_refl _,by omega,Nat.le_refl _,rfl,rfl,⟨by simp,?_⟩,⟨0,rfl⟩⟩
  rw [List.drop_eq_nil_of_le (by rw [HA.out.2];omega)];simp
 case round=>
  obtain ⟨I,J,hI,hIJ,hJ,rfl,rfl,HLo,HW⟩:=hrel
  obtain ⟨k,hk⟩:=HW.out
  have HkB:Hid (But g w wr):=by unfold Hid;rw [hk];exact (But.refl g w).drewN k
  have HkN:Hid (∀ n,∃ q,wr.drewN n=w.drewN q):=fun n=>⟨k+n,by rw [hk];exact World.drewN_drewN _ _ _⟩
  by_cases hlt:I<J
  ·obtain ⟨h,hh⟩:∃ h,(I+J) / 2=h:=⟨_,rfl⟩
   have rm:((I:Int)+(J:Int)) / 2=(h:Int):=by omega
   have h0:(0:Int)≤h:=by omega
   have hL2:(h:Int)<L:=by omega
   have i1:(I:Int)<J:=by omega
   have i2:(0:Int)≤I:=by omega
   have i3:(J:Int)≤1000000:=by omega
   have hv:h - a<u.length:=by rw [HA.out.2];omega
   have hym:u.getD (h - a) 0∈u:=getD_mem0 hv
   have cy:wr.cell? ⟨g,h,none⟩=some (.int .i64 ((u.getD (h - a) 0:Nat):Int)):=by
    have:=HR.out.cell (i:=h) (by rw [HLr.out];omega)
    have e:h=A.length+(h - a):=by rw [HA.out.1];omega
    rw [e,row_at A u ([y]++Z) hv] at this
    rw [← e] at this
    rw [hk]
    exact this
   have cx:wr.cell? ⟨g,m,none⟩=some (.int .i64 (y:Int)):=by rw [hk];exact HCx.out k
   have HCc:Hid (∀ n,Calls Tryz.prog 177 #[.int .i64 (y:Int),.int .i64 ((u.getD (h - a) 0:Nat):Int),.pointer (some ⟨cb,0,none⟩)] (wr.drewN n) fun e w'=>e=.returned (.int .i64 (cutC cut y (u.getD (h - a) 0)))∧∃ q,w'=(wr.drewN n).drewN q):=fun n=>HCu.out _ (HkB.out.drewN n) _ _ (HM.out.bv y (by simp)) (HM.out.bu _ hym)
   by_cases hless:cutC cut y (u.getD (h - a) 0)<0
   ·have hhi:∀ z∈u.drop (h - a),LT cut y z:=drop_hi HM.out.su hv (HM.out.less hym (by simp) hless)
    have HN:Hid ((∀ z∈u.take (I - a),LT cut z y)∧(∀ z∈u.drop (h - a),LT cut y z)):=⟨HLo.out.1,hhi⟩
    have hd:decide (cutC cut y (u.getD (h - a) 0)<0)=true:=decide_eq_true hless
    generalize cutC cut y (u.getD (h - a) 0)=r at *
    generalize u.getD (h - a) 0=x at *
    clear hhi hym HLo HW hless hk
    go_wp2
    go_quiet ((go_at_call 177;exact Calls.quiet_of (HCc.out _)))
    go_wp2
    go_roundw
    case rel=>exact ⟨I,h,hI,by omega,by omega,rfl,by go_num,HN,HkN.out _⟩
    case measure=>simp [RowKit.intOf];omega
   ·have hlo:∀ z∈u.take (h - a+1),LT cut z y:=take_lo HM.out.su hv (HM.out.more hym (by simp) hless)
    have HN:Hid ((∀ z∈u.take (h+1 - a),LT cut z y)∧(∀ z∈u.drop (J - a),LT cut y z)):=⟨by rw [show h+1 - a=h - a+1 by omega];exact hlo,HLo.out.2⟩
    have hd:decide (cutC cut y (u.getD (h - a) 0)<0)=false:=decide_eq_false hless
    generalize cutC cut y (u.getD (h - a) 0)=r at *
    generalize u.getD (h - a) 0=x at *
    clear hlo hym HLo HW hless hk
    go_wp2
    go_quiet ((go_at_call 177;exact Calls.quiet_of (HCc.out _)))
    go_wp2
    go_roundw
    case rel=>exact ⟨h+1,J,by omega,by omega,hJ,by go_num,rfl,HN,HkN.out _⟩
    case measure=>simp [RowKit.intOf];omega
  ·have eJ:J=I:=by omega
   subst eJ
   have i1:¬ (J:Int)<J:=by omega
   obtain ⟨i,hi⟩:∃ i,J - a=i:=⟨_,rfl⟩
   rw [hi] at HLo
   have HS:Hid ((u.take i++([y]++u.drop i)).Perm (u++[y])∧(u.take i++([y]++u.drop i)).Pairwise (LT cut)):=by
    refine ⟨?_,?_⟩
    ·have:=List.perm_middle (a:=y) (l₁:=u.take i) (l₂:=u.drop i)
     rw [List.take_append_drop] at this
     exact this.trans (List.perm_append_singleton y u).symm
    ·exact put_sorted (P:=u.take i) (Q:=u.drop i) (by rw [List.take_append_drop];exact HM.out.su) HLo.out.2 HLo.out.1
   have in':i≤n:=by omega
   have ia:(J:Int)=(a:Int)+i:=by omega
   have iL:(a:Int)+i<L:=by omega
   have mn:(m:Int)=(a:Int)+n:=by omega
   have HR2:Hid (NRow wr g (toI (A++(u.take n++(y :: (u.drop n++Z)))))∧But g w wr):=by
    refine ⟨?_,HkB.out⟩
    rw [hk,← HA.out.2,List.take_length,List.drop_length]
    exact HR.out
   have J0:(0:Int)≤J:=by omega
   have J1:(J:Int)≤1000000:=by omega
   clear HLo HW HR hi hk HkN HkB
   go_wp2
   go_loopw [17] (fun t wr=>∃ q:Nat,i≤q∧q≤n∧t=.int .i64 ((a:Int)+q)∧Hid (NRow wr g (toI (A++(u.take q++(y :: (u.drop q++Z)))))∧But g w wr)) (fun t _=>(RowKit.intOf t).toNat)
   case atStart=>exact ⟨n,in',Nat.le_refl _,by first | rfl | (congr 1),HR2⟩
   case round=>
    rename World=>wr
    obtain ⟨q,hq,hqn,rfl,HQ⟩:=hrel
    by_cases hqi:i<q
    ·obtain ⟨p,rfl⟩:∃ p,q=p+1:=⟨q - 1,by omega⟩
     have k1:(J:Int)<(a:Int)+((p+1:Nat):Int):=by omega
     have hqv:p<u.length:=by rw [HA.out.2];omega
     obtain ⟨x,hx⟩:∃ x,u.getD p 0=x:=⟨_,rfl⟩
     obtain ⟨R,B⟩:=HQ.out
     have hAq:(A++u.take p).length=a+p:=by rw [List.length_append,HA.out.1,List.length_take];omega
     rw [take_one hqv,hx] at R
     rw [show A++((u.take p++[x])++(y :: (u.drop (p+1)++Z)))=(A++u.take p)++(x :: y :: (u.drop (p+1)++Z)) by simp] at R
     have hlen:(toI ((A++u.take p)++(x :: y :: (u.drop (p+1)++Z)))).length=L:=by
      rw [toI_len,HL.out]
      simp only [List.length_append,List.length_cons,List.length_take,List.length_drop]
      have:=HA.out
      omega
     have hR2:NRow wr g (toI ((A++u.take p)++(x :: y :: (u.drop (p+1)++Z)))):=R
     have e1:(toI ((A++u.take p)++(x :: y :: (u.drop (p+1)++Z)))).getD (a+p) 0=x:=by rw [← hAq,toI_at]
     have e2:(toI ((A++u.take p)++(x :: y :: (u.drop (p+1)++Z)))).getD (a+p+1) 0=y:=by
      rw [show (A++u.take p)++(x :: y :: (u.drop (p+1)++Z))=((A++u.take p)++[x])++(y :: (u.drop (p+1)++Z)) by simp,show a+p+1=((A++u.take p)++[x]).length by rw [List.length_append,hAq];rfl,toI_at]
     have hapL:a+p+1<L:=by omega
     have ca:wr.drew.cell? ⟨g,a+p+1,none⟩=some (.int .i64 (y:Int)):=by rw [← e2];exact hR2.cell (by omega)
     have cb2:wr.drew.cell? ⟨g,a+p,none⟩=some (.int .i64 (x:Int)):=by rw [← e1];exact hR2.cell (by omega)
     have fa:wr.drew.frozen? ⟨g,a+p+1,none⟩=false:=hR2.frozen _
     have R1:NRow (wr.drew.setCell ⟨g,a+p+1,none⟩ (.int .i64 (x:Int))) g _:=(show NRow wr.drew g _ from hR2).set (a+p+1) _
     have cb1:=R1.cell (i:=a+p) (by rw [List.length_set];omega)
     have fb1:=R1.frozen (a+p)
     have R2:=R1.set (a+p) (y:Int)
     have HR3:Hid (NRow ((wr.drew.setCell ⟨g,a+p+1,none⟩ (.int .i64 (x:Int))).setCell ⟨g,a+p,none⟩ (.int .i64 (y:Int))) g (toI (A++(u.take p++(y :: (u.drop p++Z)))))∧But g w ((wr.drew.setCell ⟨g,a+p+1,none⟩ (.int .i64 (x:Int))).setCell ⟨g,a+p,none⟩ (.int .i64 (y:Int)))):=by
      refine ⟨?_,(B.drew.set (a+p+1) _).set (a+p) _⟩
      rw [drop_one hqv,hx]
      have e3:=adj_swap (A++u.take p) x y (u.drop (p+1)++Z)
      rw [hAq] at e3
      rw [e3] at R2
      rw [show A++(u.take p++(y :: ((x :: u.drop (p+1))++Z)))=(A++u.take p)++(y :: x :: (u.drop (p+1)++Z)) by simp]
      exact R2
     generalize (((toI ((A++u.take p)++(x :: y :: (u.drop (p+1)++Z)))).set (a+p+1) (x:Int)).getD (a+p) 0)=z0 at *
     clear R1 R2 hR2 R B e1 e2 HQ hlen hAq HR2
     obtain ⟨K,hK⟩:∃ K:Int,(a:Int)+((p+1:Nat):Int)=K:=⟨_,rfl⟩
     obtain ⟨M,hM⟩:∃ M:Int,K - 1=M:=⟨_,rfl⟩
     have n1:(0:Int)≤K:=by omega
     have n2:K<L:=by omega
     have n3:(0:Int)≤M:=by omega
     have n4:M<L:=by omega
     have t1:K.toNat=a+p+1:=by omega
     have t2:M.toNat=a+p:=by omega
     have wr1:IntKind.i64.wrap (K - 1)=M:=by rw [IntKind.wrap_i64];omega
     rw [hK] at k1 ⊢
     have HK:Hid ((a:Int)+((p+1:Nat):Int)=K∧K - 1=M):=⟨hK,hM⟩
     clear hK hM ia mn
     go_wp2
     refine wp_region_drawn (by kernel_rfl) ?_
     refine wpAny_take (i:=0) (v:=.slice (some ⟨g,0,none⟩) L cap) rfl (by kernel_rfl) (by kernel_rfl) (by kernel_rfl) (fun _ _ _ h=>h) (Or.inl ⟨by rfl,fun w=>by go_simp⟩) ?_
     simp only [Act.put,zq0,zq1,zq2,zq3,zq4,zq5]
     refine wpAny_take (i:=1) (v:=.int .i64 K) rfl (by kernel_rfl) (by kernel_rfl) (by kernel_rfl) (fun _ _ _ h=>h) (Or.inl ⟨by rfl,fun w=>by go_simp⟩) ?_
     simp only [Act.put,zq0,zq1,zq2,zq3,zq4,zq5]
     refine wpAny_take (i:=2) (v:=.slice (some ⟨g,0,none⟩) L cap) rfl (by kernel_rfl) (by kernel_rfl) (by kernel_rfl) (fun _ _ _ h=>h) (Or.inl ⟨by rfl,fun w=>by go_simp⟩) ?_
     simp only [Act.put,zq0,zq1,zq2,zq3,zq4,zq5]
     refine wpAny_take (i:=3) (v:=.int .i64 K) rfl (by kernel_rfl) (by kernel_rfl) (by kernel_rfl) (fun _ _ _ h=>h) (Or.inl ⟨by rfl,fun w=>by go_simp⟩) ?_
     simp only [Act.put,zq0,zq1,zq2,zq3,zq4,zq5]
     refine wpAny_take (i:=4) (v:=.int .i64 M) rfl (by kernel_rfl) (by kernel_rfl) (by kernel_rfl) (fun _ _ _ h=>h) (Or.inl ⟨by rfl,fun w=>by go_simp⟩) ?_
     simp only [Act.put,zq0,zq1,zq2,zq3,zq4,zq5]
     refine wpAny_take (i:=5) (v:=.slice (some ⟨g,0,none⟩) L cap) rfl (by kernel_rfl) (by kernel_rfl) (by kernel_rfl) (fun _ _ _ h=>h) (Or.inl ⟨by rfl,fun w=>by go_simp⟩) ?_
     simp only [Act.put,zq0,zq1,zq2,zq3,zq4,zq5]
     refine wpAny_take (i:=6) (v:=.int .i64 K) rfl (by kernel_rfl) (by kernel_rfl) (by kernel_rfl) (fun _ _ _ h=>h) (Or.inl ⟨by rfl,fun w=>by go_simp⟩) ?_
     simp only [Act.put,zq0,zq1,zq2,zq3,zq4,zq5]
     refine wpAny_take (i:=7) (v:=.int .i64 M) rfl (by kernel_rfl) (by kernel_rfl) (by kernel_rfl) (fun _ _ _ h=>h) (Or.inl ⟨by rfl,fun w=>by go_simp⟩) ?_
     simp only [Act.put,zq0,zq1,zq2,zq3,zq4,zq5]
     refine wpAny_take (i:=8) (v:=.pointer (some ⟨g,a+p,none⟩)) rfl (by kernel_rfl) (by kernel_rfl) (by kernel_rfl) (fun _ _ _ h=>h) (Or.inl ⟨by rfl,fun w=>by go_simp⟩) ?_
     simp only [Act.put,zq0,zq1,zq2,zq3,zq4,zq5]
     refine wpAny_take (i:=10) (v:=.slice (some ⟨g,0,none⟩) L cap) rfl (by kernel_rfl) (by kernel_rfl) (by kernel_rfl) (fun _ _ _ h=>h) (Or.inl ⟨by rfl,fun w=>by go_simp⟩) ?_
     simp only [Act.put,zq0,zq1,zq2,zq3,zq4,zq5]
     refine wpAny_take (i:=11) (v:=.int .i64 K) rfl (by kernel_rfl) (by kernel_rfl) (by kernel_rfl) (fun _ _ _ h=>h) (Or.inl ⟨by rfl,fun w=>by go_simp⟩) ?_
     simp only [Act.put,zq0,zq1,zq2,zq3,zq4,zq5]
     refine wpAny_take (i:=12) (v:=.pointer (some ⟨g,a+p+1,none⟩)) rfl (by kernel_rfl) (by kernel_rfl) (by kernel_rfl) (fun _ _ _ h=>h) (Or.inl ⟨by rfl,fun w=>by go_simp⟩) ?_
     simp only [Act.put,zq0,zq1,zq2,zq3,zq4,zq5]
     refine any_of_L (g:=15) (T:=fun u=>u=wr.drew) _ _ _ _ ?_
     refine L_take (i:=9) (v:=.int .i64 x) rfl rfl (by kernel_rfl) (by decide) (by kernel_rfl) (by kernel_rfl) (by kernel_rfl) (by kernel_rfl) (fun _ _ _ h=>h) (Or.inl ⟨by rfl,fun w' hw'=>by subst hw';go_simp⟩) rfl ?_
     simp only [Act.put,zq0,zq1,zq2,zq3,zq4,zq5]
     refine L_take (i:=13) (v:=.int .i64 y) rfl rfl (by kernel_rfl) (by decide) (by kernel_rfl) (by kernel_rfl) (by kernel_rfl) (by kernel_rfl) (fun _ _ _ h=>h) (Or.inl ⟨by rfl,fun w' hw'=>by subst hw';go_simp⟩) rfl ?_
     simp only [Act.put,zq0,zq1,zq2,zq3,zq4,zq5]
     refine L_take (i:=14) (v:=.pointer (some ⟨g,a+p+1,none⟩)) rfl rfl (by kernel_rfl) (by decide) (by kernel_rfl) (by kernel_rfl) (by kernel_rfl) (by kernel_rfl) (fun _ _ _ h=>h) (Or.inl ⟨by rfl,fun w' hw'=>by subst hw';go_simp⟩) rfl ?_
     simp only [Act.put,zq0,zq1,zq2,zq3,zq4,zq5]
     refine L_go (by kernel_rfl) (by kernel_rfl) ?_
     refine wpOp_step rfl ?_
     intro K hK
     rw [if_pos (by rfl)]
     have hK':Shut (∀ a w,_→K a w):=hK
     clear hK
     go_wp2
     refine hK'.out _ _ ?_
     clear hK' K
     have eW:wr.drew.setCell ⟨g,a+p+1,none⟩ (.int .i64 (x:Int))=(wr.setCell ⟨g,a+p+1,none⟩ (.int .i64 (x:Int))).drew:=rfl
     rw [eW] at cb1 fb1 HR3
     clear eW ca cb2 fa
     generalize (wr.setCell ⟨g,a+p+1,none⟩ (.int .i64 (x:Int))).drew=W1 at *
     refine any_one (i:=16) (by kernel_rfl) ?_
     refine wpOp_step rfl ?_
     intro K hK
     rw [if_pos (by rfl)]
     have hK':Shut (∀ a w,_→K a w):=hK
     clear hK
     go_wp2
     refine hK'.out _ _ ?_
     clear hK' K
     refine any_one (i:=17) (by kernel_rfl) ?_
     refine wpOp_step rfl ?_
     intro K hK
     rw [if_pos (by rfl)]
     have hK':Shut (∀ a w,_→K a w):=hK
     clear hK
     go_wp2
     refine hK'.out _ _ ?_
     clear hK' K
     refine wpAny_done (by kernel_rfl) ?_ _
     go_wp2
     go_roundw
     case rel=>exact ⟨p,by omega,by omega,by have:=HK.out;first | (congr 1;omega) | go_num,HR3⟩
     case measure=>have:=HK.out;simp [RowKit.intOf];omega
    ·have eq:q=i:=by omega
     subst eq
     have k1:¬ (J:Int)<(a:Int)+q:=by omega
     have HE:Hid (MOut cut w wr g A u [y] Z):=⟨u.take q++([y]++u.drop q),HS.out.1,HS.out.2,by
      have:=HQ.out.1
      rw [show A++(u.take q++(y :: (u.drop q++Z)))=A++((u.take q++([y]++u.drop q))++Z) by simp] at this
      exact this,HQ.out.2⟩
     clear HQ HS HR2 ia
     go_wp2
     first | go_end0 | ((try simp only [Exit.inBlock,Exit.then]);refine bodyPost_ret (results_none rfl _ _ _) rfl ?_)
     exact ⟨rfl,HE⟩
end Go.Proofs.YtjdjfpkjikdkoaaGreatDoor
namespace Go.Proofs.YtjdjfpkjikdkoaaGreatDoor
open Go.RowKit Go.Lib
def SymOk (g cap cb gc ccap:Nat) (cut:List Int) (n:Nat):Prop:=∀ (A u v Z:List Nat) (w:World),u.length+v.length=n→0<u.length→0<v.length→NRow w g (toI (A++(u++(v++Z))))→(A++(u++(v++Z))).length≤1000000→CutAt w cb gc cut ccap→MG cut u v →
  Calls Tryz.prog 220 #[.slice (some ⟨g,0,none⟩) (A++(u++(v++Z))).length cap,.int .i64 (A.length:Int),.int .i64 ((A.length+u.length:Nat):Int),.int .i64 ((A.length+u.length+v.length:Nat):Int),byF cb] w fun e w'=>e=.returned (.tuple #[])∧Hid (MOut cut w w' g A u v Z)
structure Ctx (cut:List Int) (A u v Z:List Nat) (a m b S mid E L:Nat):Prop where
 ha:A.length=a
 hm:a+u.length=m
 hb:m+v.length=b
 hmid:mid=(a+b) / 2
 hS:a≤S∧S≤m∧S≤mid∧mid - S≤v.length
 hE:E=mid+m - S
 hL:(A++(u++(v++Z))).length=L
 hl:L≤1000000
 hu2:2≤u.length
 hv2:2≤v.length
 hM:MG cut u v
 hx:∀ x∈u.take (S - a),∀ y∈v.drop (mid - S),LT cut x y
 hy:∀ x∈v.take (mid - S),∀ y∈u.drop (S - a),LT cut x y
def St1 (A u v Z:List Nat) (i j:Nat) (g:Nat) (w W:World):Prop:=NRow W g (toI (A++(u.take i++(v.take j++(u.drop i++(v.drop j++Z))))))∧But g w W
def St2 (cut:List Int) (A u v Z:List Nat) (i j:Nat) (g:Nat) (w W:World):Prop:=∃ s1:List Nat,s1.Perm (u.take i++v.take j)∧s1.Pairwise (LT cut)∧NRow W g (toI (A++(s1++(u.drop i++(v.drop j++Z)))))∧But g w W
theorem parts_eq (u v Z:List Nat) (i j:Nat):u++(v++Z)=u.take i++(u.drop i++(v.take j++(v.drop j++Z))):=by
 rw [← List.append_assoc (v.take j),List.take_append_drop,← List.append_assoc (u.take i),List.take_append_drop]
theorem st1_no {A u v Z:List Nat} {i j g:Nat} {w W:World} (h:NRow W g (toI (A++(u++(v++Z))))) (hB:But g w W) (hn:u.length≤i∨j=0):St1 A u v Z i j g w W:=by
 refine ⟨?_,hB⟩
 rcases hn with hn | rfl
 ·rw [List.take_of_length_le hn,List.drop_eq_nil_of_le hn,List.nil_append,← List.append_assoc (v.take j),List.take_append_drop];exact h
 ·rw [List.take_zero,List.nil_append,List.drop_zero,← List.append_assoc (u.take i),List.take_append_drop];exact h
theorem st1_rot {cut:List Int} {A u v Z:List Nat} {a m b S mid E L:Nat} (c:Ctx cut A u v Z a m b S mid E L) (g cap:Nat) (w W:World) (f:Value) (h:NRow W g (toI (A++(u++(v++Z))))) (hB:But g w W) (h1:S<m) (h2:S<mid) :
  Calls Tryz.prog 226 #[.slice (some ⟨g,0,none⟩) L cap,.int .i64 (S:Int),.int .i64 (m:Int),.int .i64 (E:Int),f] W fun e w'=>e=.returned (.tuple #[])∧Hid (St1 A u v Z (S - a) (mid - S) g w w'):=by
 have e0:toI (A++(u++(v++Z)))=toI (A++u.take (S - a))++(toI (u.drop (S - a))++(toI (v.take (mid - S))++toI (v.drop (mid - S)++Z))):=by
  rw [← toI_app,← toI_app,← toI_app,List.append_assoc,← parts_eq]
 have hL:=c.hL
 rw [← toI_len,e0] at hL
 rw [e0] at h
 have l1:(toI (A++u.take (S - a))).length=S:=by rw [toI_len,List.length_append,List.length_take];have:=c.ha;have:=c.hm;have:=c.hS;omega
 have l2:S+(toI (u.drop (S - a))).length=m:=by rw [toI_len,List.length_drop];have:=c.ha;have:=c.hm;have:=c.hS;omega
 have l3:m+(toI (v.take (mid - S))).length=E:=by rw [toI_len,List.length_take];have:=c.hE;have:=c.hS;omega
 have hc:=rotate_any g cap (toI (A++u.take (S - a))) (toI (u.drop (S - a))) (toI (v.take (mid - S))) (toI (v.drop (mid - S)++Z)) f W h (by rw [hL];exact c.hl) (by omega) (by have:=c.hE;omega)
 rw [hL,l1,l2,l3] at hc
 refine hc.mono ?_
 rintro e w' ⟨rfl,hh⟩
 obtain ⟨h3,h4⟩:=hh.out
 refine ⟨rfl,?_,hB.trans h4⟩
 rw [← toI_app,← toI_app,← toI_app,List.append_assoc] at h3
 exact h3
theorem st2_no {cut:List Int} {A u v Z:List Nat} {a m b S mid E L:Nat} (c:Ctx cut A u v Z a m b S mid E L) {g:Nat} {w W:World} (h:St1 A u v Z (S - a) (mid - S) g w W) (hn:S=a∨S=mid):St2 cut A u v Z (S - a) (mid - S) g w W:=by
 refine ⟨u.take (S - a)++v.take (mid - S),List.Perm.refl _,?_,by rw [List.append_assoc];exact h.1,h.2⟩
 rcases hn with rfl | rfl
 ·rw [Nat.sub_self,List.take_zero,List.nil_append];exact c.hM.sv.sublist (List.take_sublist _ _)
 ·rw [Nat.sub_self,List.take_zero,List.append_nil];exact c.hM.su.sublist (List.take_sublist _ _)
theorem st2_call {cut:List Int} {A u v Z:List Nat} {a m b S mid E L:Nat} (c:Ctx cut A u v Z a m b S mid E L) {g cap cb gc ccap:Nat} (IH:∀ k,k<u.length+v.length→SymOk g cap cb gc ccap cut k) {w W:World} (hc:CutAt w cb gc cut ccap) (n1:cb≠g) (n2:gc≠g) (h:St1 A u v Z (S - a) (mid - S) g w W) (h1:a<S) (h2:S<mid) :
  Calls Tryz.prog 220 #[.slice (some ⟨g,0,none⟩) L cap,.int .i64 (a:Int),.int .i64 (S:Int),.int .i64 (mid:Int),byF cb] W fun e w'=>e=.returned (.tuple #[])∧Hid (St2 cut A u v Z (S - a) (mid - S) g w w'):=by
 have hS:=c.hS
 have hm:=c.hm
 have hb:=c.hb
 have hmid:=c.hmid
 have hu2:=c.hu2
 have hv2:=c.hv2
 have l1:(u.take (S - a)).length=S - a:=by rw [List.length_take];omega
 have l2:(v.take (mid - S)).length=mid - S:=by rw [List.length_take];omega
 have hL:(A++(u.take (S - a)++(v.take (mid - S)++(u.drop (S - a)++(v.drop (mid - S)++Z))))).length=L:=by
  rw [← c.hL]
  simp only [List.length_append,List.length_take,List.length_drop]
  omega
 have k:=IH ((u.take (S - a)).length+(v.take (mid - S)).length) (by rw [l1,l2];omega) A (u.take (S - a)) (v.take (mid - S)) (u.drop (S - a)++(v.drop (mid - S)++Z)) W rfl (by omega) (by omega) h.1 (by rw [hL];exact c.hl) (hc.but h.2 n1 n2) (c.hM.parts (List.take_sublist _ _) (List.take_sublist _ _))
 rw [hL,l1,l2,c.ha,show a+(S - a)=S by omega,show S+(mid - S)=mid by omega] at k
 refine k.mono ?_
 rintro e w' ⟨rfl,hh⟩
 obtain ⟨s1,p1,p2,p3,p4⟩:=hh.out
 exact ⟨rfl,s1,p1,p2,p3,h.2.trans p4⟩
theorem st3_no {cut:List Int} {A u v Z:List Nat} {a m b S mid E L:Nat} (c:Ctx cut A u v Z a m b S mid E L) {g:Nat} {w W:World} (h:St2 cut A u v Z (S - a) (mid - S) g w W) (hn:S=m∨E=b):MOut cut w W g A u v Z:=by
 obtain ⟨s1,p1,p2,p3,p4⟩:=h
 have hm:=c.hm
 have hb:=c.hb
 have hE:=c.hE
 have hS:=c.hS
 have p5:(u.drop (S - a)++v.drop (mid - S)).Pairwise (LT cut):=by
  rcases hn with hn | hn
  ·rw [List.drop_eq_nil_of_le (by omega),List.nil_append];exact c.hM.sv.sublist (List.drop_sublist _ _)
  ·rw [show v.drop (mid - S)=[] from List.drop_eq_nil_of_le (by omega),List.append_nil];exact c.hM.su.sublist (List.drop_sublist _ _)
 obtain ⟨q1,q2⟩:=halves c.hM.su c.hM.sv p1 (List.Perm.refl _) p2 p5 c.hx c.hy
 refine ⟨_,q1,q2,?_,p4⟩
 rw [List.append_assoc,List.append_assoc];exact p3
theorem st3_call {cut:List Int} {A u v Z:List Nat} {a m b S mid E L:Nat} (c:Ctx cut A u v Z a m b S mid E L) {g cap cb gc ccap:Nat} (IH:∀ k,k<u.length+v.length→SymOk g cap cb gc ccap cut k) {w W:World} (hc:CutAt w cb gc cut ccap) (n1:cb≠g) (n2:gc≠g) (h:St2 cut A u v Z (S - a) (mid - S) g w W) (h1:S<m) (h2:E<b) :
  Calls Tryz.prog 220 #[.slice (some ⟨g,0,none⟩) L cap,.int .i64 (mid:Int),.int .i64 (E:Int),.int .i64 (b:Int),byF cb] W fun e w'=>e=.returned (.tuple #[])∧Hid (MOut cut w w' g A u v Z):=by
 obtain ⟨s1,p1,p2,p3,p4⟩:=h
 have ha:=c.ha
 have hm:=c.hm
 have hb:=c.hb
 have hE:=c.hE
 have hS:=c.hS
 have hmid:=c.hmid
 have hu2:=c.hu2
 have hv2:=c.hv2
 have l0:(A++s1).length=mid:=by rw [List.length_append,p1.length_eq,List.length_append,List.length_take,List.length_take,ha];omega
 have l1:(u.drop (S - a)).length=m - S:=by rw [List.length_drop];omega
 have l2:(v.drop (mid - S)).length=b - E:=by rw [List.length_drop];omega
 have e0:A++(s1++(u.drop (S - a)++(v.drop (mid - S)++Z)))=(A++s1)++(u.drop (S - a)++(v.drop (mid - S)++Z)):=by rw [List.append_assoc]
 rw [e0] at p3
 have hL:((A++s1)++(u.drop (S - a)++(v.drop (mid - S)++Z))).length=L:=by
  have hLL:=c.hL
  rw [← hLL,List.length_append,l0]
  simp only [List.length_append,l1,l2]
  omega
 have k:=IH ((u.drop (S - a)).length+(v.drop (mid - S)).length) (by rw [l1,l2];omega) (A++s1) (u.drop (S - a)) (v.drop (mid - S)) Z W rfl (by omega) (by omega) p3 (by rw [hL];exact c.hl) (hc.but p4 n1 n2) (c.hM.parts (List.drop_sublist _ _) (List.drop_sublist _ _))
 rw [hL,l0,l1,l2,show mid+(m - S)=E by omega,show E+(b - E)=b by omega] at k
 refine k.mono ?_
 rintro e w' ⟨rfl,hh⟩
 obtain ⟨s2,r1,r2,r3,r4⟩:=hh.out
 obtain ⟨q1,q2⟩:=halves c.hM.su c.hM.sv p1 r1 p2 r2 c.hx c.hy
 refine ⟨rfl,_,q1,q2,?_,p4.trans r4⟩
 rw [List.append_assoc] at r3 ⊢
 exact r3
end Go.Proofs.YtjdjfpkjikdkoaaGreatDoor
namespace Go.Proofs.YtjdjfpkjikdkoaaGreatDoor
open Go.RowKit Go.Lib
set_option maxHeartbeats 16000000 in
theorem sym_step (g cap cb gc ccap:Nat) (cut:List Int) (A u v Z:List Nat) (w:World) (IH:∀ k,k<u.length+v.length→SymOk g cap cb gc ccap cut k) (hu2:2≤u.length) (hv2:2≤v.length) (h:NRow w g (toI (A++(u++(v++Z))))) (hl:(A++(u++(v++Z))).length≤1000000) (hc:CutAt w cb gc cut ccap) (h1:cb≠g) (h2:gc≠g) (hM:MG cut u v) :
  Calls Tryz.prog 220 #[.slice (some ⟨g,0,none⟩) (A++(u++(v++Z))).length cap,.int .i64 (A.length:Int),.int .i64 ((A.length+u.length:Nat):Int),.int .i64 ((A.length+u.length+v.length:Nat):Int),byF cb] w fun e w'=>e=.returned (.tuple #[])∧Hid (MOut cut w w' g A u v Z):=by
 have HR:Hid (NRow w g (toI (A++(u++(v++Z))))):=h
 have HCu:Hid (∀ W,But g w W→∀ x y,x<cut.length→y<cut.length→Calls Tryz.prog 177 #[.int .i64 (x:Int),.int .i64 (y:Int),.pointer (some ⟨cb,0,none⟩)] W fun e w'=>e=.returned (.int .i64 (cutC cut x y))∧∃ k,w'=W.drewN k):=fun W hW x y hx hy=>byCut1_any x y cb gc cut ccap W (hc.but hW h1 h2) hx hy
 have HM:Hid (MG cut u v):=hM
 have HLs:Hid ((A++(u++(v++Z))).length=A.length+u.length+v.length+Z.length):=by unfold Hid;simp only [List.length_append];omega
 obtain ⟨L,hL⟩:∃ L,(A++(u++(v++Z))).length=L:=⟨_,rfl⟩
 rw [hL] at hl HLs ⊢
 have HLr:Hid ((toI (A++(u++(v++Z)))).length=L):=by unfold Hid;rw [toI_len];exact hL
 obtain ⟨a,ha⟩:∃ a,A.length=a:=⟨_,rfl⟩
 obtain ⟨m,hm⟩:∃ m,a+u.length=m:=⟨_,rfl⟩
 obtain ⟨b,hb⟩:∃ b,m+v.length=b:=⟨_,rfl⟩
 obtain ⟨mid,hmid⟩:∃ mid,(a+b) / 2=mid:=⟨_,rfl⟩
 obtain ⟨N,hN⟩:∃ N,mid+m=N:=⟨_,rfl⟩
 obtain ⟨p,hp⟩:∃ p,N - 1=p:=⟨_,rfl⟩
 rw [ha,hm,hb] at HLs ⊢
 have hbL:b≤L:=by have:=HLs.out;omega
 have HCtx:Hid (∀ S E,a≤S→S≤m→S≤mid→mid - S≤v.length→E=mid+m - S→(∀ x∈u.take (S - a),∀ y∈v.drop (mid - S),LT cut x y)→(∀ x∈v.take (mid - S),∀ y∈u.drop (S - a),LT cut x y)→Ctx cut A u v Z a m b S mid E L):=fun S E s1 s2 s3 s4 e hx hy=>⟨ha,hm,hb,hmid.symm,⟨s1,s2,s3,s4⟩,e,hL,hl,hu2,hv2,hM,hx,hy⟩
 have HC1:Hid (∀ S E W,Ctx cut A u v Z a m b S mid E L→St1 A u v Z (S - a) (mid - S) g w W→a<S→S<mid→Calls Tryz.prog 220 #[.slice (some ⟨g,0,none⟩) L cap,.int .i64 (a:Int),.int .i64 (S:Int),.int .i64 (mid:Int),byF cb] W fun e w'=>e=.returned (.tuple #[])∧Hid (St2 cut A u v Z (S - a) (mid - S) g w w')):=fun S E W c hs q1 q2=>st2_call c IH hc h1 h2 hs q1 q2
 have HC2:Hid (∀ S E W,Ctx cut A u v Z a m b S mid E L→St2 cut A u v Z (S - a) (mid - S) g w W→S<m→E<b→Calls Tryz.prog 220 #[.slice (some ⟨g,0,none⟩) L cap,.int .i64 (mid:Int),.int .i64 (E:Int),.int .i64 (b:Int),byF cb] W fun e w'=>e=.returned (.tuple #[])∧Hid (MOut cut w w' g A u v Z)):=fun S E W c hs q1 q2=>st3_call c IH hc h1 h2 hs q1 q2
 have HC0:Hid (∀ S E W,Ctx cut A u v Z a m b S mid E L→NRow W g (toI (A++(u++(v++Z))))→But g w W→S<m→S<mid→Calls Tryz.prog 226 #[.slice (some ⟨g,0,none⟩) L cap,.int .i64 (S:Int),.int .i64 (m:Int),.int .i64 (E:Int),byF cb] W fun e w'=>e=.returned (.tuple #[])∧Hid (St1 A u v Z (S - a) (mid - S) g w w')):=fun S E W c hr hB q1 q2=>st1_rot c g cap w W (byF cb) hr hB q1 q2
 have HA:Hid (A.length=a):=ha
 have ma:((m:Int) - a == 1)=false:=by rw [beq_eq_false_iff_ne];omega
 have ma2:¬ (m:Int) - a=1:=by omega
 have bm:((b:Int) - m == 1)=false:=by rw [beq_eq_false_iff_ne];omega
 have bm2:¬ (b:Int) - m=1:=by omega
 have rm0:((a:Int)+(b:Int)) / 2=(mid:Int):=by omega
 have rN:(mid:Int)+(m:Int)=(N:Int):=by omega
 have rp:(N:Int) - 1=(p:Int):=by omega
 have a0:(0:Int)≤a:=by omega
 have bL:(b:Int)≤L:=by omega
 have lL:(L:Int)≤1000000:=by omega
 have m0:(0:Int)≤m:=by omega
 have am:(a:Int)≤m:=by omega
 have mb:(m:Int)<b:=by omega
 have mL:(m:Int)<L:=by omega
 have mi0:(0:Int)≤mid:=by omega
 have miL:(mid:Int)<L:=by omega
 have N0:(0:Int)≤N:=by omega
 have NL:(N:Int)≤2000000:=by omega
 have p0:(0:Int)≤p:=by omega
 have pL:(p:Int)≤2000000:=by omega
 clear h hc hM hL ha h1 h2 IH hl
 unfold byF at *
 go_enter Tryz.func220,Tryz.ntmps220
 go_upto_if 140 with fail
 go_cut [20,21] from 129 (fun s r wx=>w=wx∧∃ lo hi:Nat,s=.int .i64 lo∧r=.int .i64 hi∧Hid ((lo=N - b∧hi=mid∧mid<m)∨(lo=a∧hi=m∧m≤mid)))
 case first=>
  by_cases hmm:mid<m
  ·have q1:(mid:Int)<m:=by omega
   have q2:(N:Int) - b=((N - b:Nat):Int):=by omega
   go_wp2
   go_meet
   case rel=>exact ⟨rfl,N - b,mid,by first | rfl | (rw [q2]),rfl,Or.inl ⟨rfl,rfl,hmm⟩⟩
  ·have q1:¬ (mid:Int)<m:=by omega
   go_wp2
   go_meet
   case rel=>exact ⟨rfl,a,m,rfl,rfl,Or.inr ⟨rfl,rfl,by omega⟩⟩
 case rest=>
  obtain ⟨rfl,lo,hi,rfl,rfl,HB⟩:=hcut
  have hB:a≤lo∧lo≤hi∧hi≤mid∧hi≤m∧(∀ c,lo≤c→c<hi→m≤p - c∧p - c<b∧c<m):=by
   rcases HB.out with ⟨e1,e2,e3⟩ | ⟨e1,e2,e3⟩
   ·refine ⟨by omega,by omega,by omega,by omega,fun c c1 c2=>?_⟩
    omega
   ·refine ⟨by omega,by omega,by omega,by omega,fun c c1 c2=>?_⟩
    omega
  obtain ⟨b1,b2,b3,b4,b5⟩:=hB
  have Hb5:Hid (∀ c,lo≤c→c<hi→m≤p - c∧p - c<b∧c<m):=b5
  clear b5
  go_wp2
  go_loopw [20,21] (fun ts tr wr=>∃ S R:Nat,lo≤S∧S≤R∧R≤hi∧ts=.int .i64 S∧tr=.int .i64 R∧Hid ((S=lo∨LT cut (u.getD (S - 1 - a) 0) (v.getD (p - (S - 1) - m) 0))∧(R=hi∨LT cut (v.getD (p - R - m) 0) (u.getD (R - a) 0)))∧Hid (∃ k,wr=w.drewN k)) (fun ts tr _=>(RowKit.intOf tr).toNat - (RowKit.intOf ts).toNat)
  case atStart=>exact ⟨lo,hi,Nat.le_refl _,b2,Nat.le_refl _,rfl,rfl,⟨Or.inl rfl,Or.inl rfl⟩,⟨0,rfl⟩⟩
  case round=>
   obtain ⟨S,R,hS,hSR,hR,rfl,rfl,HLo,HW⟩:=hrel
   obtain ⟨k,hk⟩:=HW.out
   have HkB:Hid (But g w wr):=by unfold Hid;rw [hk];exact (But.refl g w).drewN k
   have HkN:Hid (∀ n,∃ q,wr.drewN n=w.drewN q):=fun n=>⟨k+n,by rw [hk];exact World.drewN_drewN _ _ _⟩
   by_cases hlt:S<R
   ·obtain ⟨c,hcc⟩:∃ c,(S+R) / 2=c:=⟨_,rfl⟩
    obtain ⟨e1,e2,e3⟩:=Hb5.out c (by omega) (by omega)
    obtain ⟨d,hd⟩:∃ d,p - c=d:=⟨_,rfl⟩
    rw [hd] at e1 e2
    have rm:((S:Int)+(R:Int)) / 2=(c:Int):=by omega
    have pc:(p:Int) - (c:Int)=(d:Int):=by omega
    have d0:(0:Int)≤d:=by omega
    have dL:(d:Int)<L:=by omega
    have c0:(0:Int)≤c:=by omega
    have cL:(c:Int)<L:=by omega
    have i1:(S:Int)<R:=by omega
    have i2:(0:Int)≤S:=by omega
    have i3:(R:Int)≤1000000:=by omega
    have hcu:c - a<u.length:=by omega
    have hdv:d - m<v.length:=by omega
    have hxm:u.getD (c - a) 0∈u:=getD_mem0 hcu
    have hym:v.getD (d - m) 0∈v:=getD_mem0 hdv
    have cx:wr.cell? ⟨g,c,none⟩=some (.int .i64 ((u.getD (c - a) 0:Nat):Int)):=by
     have:=HR.out.cell (i:=c) (by rw [HLr.out];omega)
     have e:c=A.length+(c - a):=by rw [HA.out];omega
     rw [e,row_at A u (v++Z) hcu] at this
     rw [← e] at this
     rw [hk]
     exact this
    have cy:wr.cell? ⟨g,d,none⟩=some (.int .i64 ((v.getD (d - m) 0:Nat):Int)):=by
     have:=HR.out.cell (i:=d) (by rw [HLr.out];omega)
     rw [show A++(u++(v++Z))=(A++u)++(v++Z) by simp] at this
     have e:d=(A++u).length+(d - m):=by rw [List.length_append,HA.out];omega
     rw [e,row_at (A++u) v Z hdv] at this
     rw [← e] at this
     rw [hk]
     exact this
    have HCc:Hid (∀ n,Calls Tryz.prog 177 #[.int .i64 ((v.getD (d - m) 0:Nat):Int),.int .i64 ((u.getD (c - a) 0:Nat):Int),.pointer (some ⟨cb,0,none⟩)] (wr.drewN n) fun e w'=>e=.returned (.int .i64 (cutC cut (v.getD (d - m) 0) (u.getD (c - a) 0)))∧∃ q,w'=(wr.drewN n).drewN q):=fun n=>HCu.out _ (HkB.out.drewN n) _ _ (HM.out.bv _ hym) (HM.out.bu _ hxm)
    by_cases hless:cutC cut (v.getD (d - m) 0) (u.getD (c - a) 0)<0
    ·have hhi:=HM.out.less hxm hym hless
     have HN:Hid ((S=lo∨LT cut (u.getD (S - 1 - a) 0) (v.getD (p - (S - 1) - m) 0))∧(c=hi∨LT cut (v.getD (p - c - m) 0) (u.getD (c - a) 0))):=⟨HLo.out.1,Or.inr (by rw [hd];exact hhi)⟩
     have hd1:decide (cutC cut (v.getD (d - m) 0) (u.getD (c - a) 0)<0)=true:=decide_eq_true hless
     clear hhi hxm hym HLo HW hless hk
     generalize cutC cut (v.getD (d - m) 0) (u.getD (c - a) 0)=r at HCc hd1
     generalize v.getD (d - m) 0=y at HCc cy
     generalize u.getD (c - a) 0=x at HCc cx
     go_wp2
     go_quiet ((go_at_call 177;exact Calls.quiet_of (HCc.out _)))
     go_wp2
     go_roundw
     case rel=>exact ⟨S,c,hS,by omega,by omega,rfl,by go_num,HN,HkN.out _⟩
     case measure=>simp [RowKit.intOf];omega
    ·have hlo:=HM.out.more hxm hym hless
     have HN:Hid ((c+1=lo∨LT cut (u.getD (c+1 - 1 - a) 0) (v.getD (p - (c+1 - 1) - m) 0))∧(R=hi∨LT cut (v.getD (p - R - m) 0) (u.getD (R - a) 0))):=⟨Or.inr (by rw [show c+1 - 1=c by omega,hd];exact hlo),HLo.out.2⟩
     have hd1:decide (cutC cut (v.getD (d - m) 0) (u.getD (c - a) 0)<0)=false:=decide_eq_false hless
     clear hlo hxm hym HLo HW hless hk
     generalize cutC cut (v.getD (d - m) 0) (u.getD (c - a) 0)=r at HCc hd1
     generalize v.getD (d - m) 0=y at HCc cy
     generalize u.getD (c - a) 0=x at HCc cx
     go_wp2
     go_quiet ((go_at_call 177;exact Calls.quiet_of (HCc.out _)))
     go_wp2
     go_roundw
     case rel=>exact ⟨c+1,R,by omega,by omega,hR,by go_num,rfl,HN,HkN.out _⟩
     case measure=>simp [RowKit.intOf];omega
   ·have eR:R=S:=by omega
    subst eR
    have i1:¬ (R:Int)<R:=by omega
    obtain ⟨E,hE⟩:∃ E,N - R=E:=⟨_,rfl⟩
    have rE:(N:Int) - (R:Int)=(E:Int):=by omega
    have HX:Hid (Ctx cut A u v Z a m b R mid E L):=by
     have hbb:=HB.out
     refine HCtx.out R E (by omega) (by omega) (by omega) (by omega) (by omega) ?_ ?_
     ·refine cross HM.out.su HM.out.sv (by omega) (fun q1 q2=>?_)
      rcases HLo.out.1 with e | e
      ·exfalso;omega
      ·rw [show R - a - 1=R - 1 - a by omega,show mid - R=p - (R - 1) - m by omega];exact e
     ·refine cross HM.out.sv HM.out.su (by omega) (fun q1 q2=>?_)
      rcases HLo.out.2 with e | e
      ·exfalso;omega
      ·rw [show mid - R - 1=p - R - m by omega];exact e
    have HRw:Hid (NRow wr g (toI (A++(u++(v++Z))))∧But g w wr):=⟨by rw [hk];exact HR.out,HkB.out⟩
    have R0:(0:Int)≤R:=by omega
    have E0:(0:Int)≤E:=by omega
    have Eb:E≤b:=by have hbb:=HB.out;omega
    have EL:(E:Int)≤1000000:=by omega
    clear HLo HW hk HkN HkB HR HCu HCtx HM HLr HLs HB Hb5
    by_cases s1:R<m
    ·by_cases s2:R<mid
     ·have HCC1:Hid (Calls _ _ _ _ _):=HC0.out R E wr HX.out HRw.out.1 HRw.out.2 s1 s2
      by_cases s3:a<R
      ·by_cases s4:E<b
       ·clear HRw
        have f1:decide ((R:Int)<m)=true:=decide_eq_true (by omega)
        have f1p:(R:Int)<m:=by omega
        have f2:decide ((m:Int)<E)=true:=decide_eq_true (by omega)
        have f2p:(m:Int)<E:=by omega
        have f3:decide ((a:Int)<R)=true:=decide_eq_true (by omega)
        have f3p:(a:Int)<R:=by omega
        have f4:decide ((R:Int)<mid)=true:=decide_eq_true (by omega)
        have f4p:(R:Int)<mid:=by omega
        have f5:decide ((mid:Int)<E)=true:=decide_eq_true (by omega)
        have f5p:(mid:Int)<E:=by omega
        have f6:decide ((E:Int)<b)=true:=decide_eq_true (by omega)
        have f6p:(E:Int)<b:=by omega
        go_wp2_with fail
        refine HCC1.out.mono ?_
        rintro e w1 ⟨rfl,hh1⟩
        have HCC2:Hid (Calls _ _ _ _ _):=HC1.out R E w1 HX.out hh1.out (by omega) (by omega)
        go_wp2_with fail
        refine HCC2.out.mono ?_
        rintro e w2 ⟨rfl,hh2⟩
        have HCC3:Hid (Calls _ _ _ _ _):=HC2.out R E w2 HX.out hh2.out (by omega) (by omega)
        go_wp2_with fail
        refine HCC3.out.mono ?_
        rintro e w3 ⟨rfl,hh3⟩
        go_wp2_with fail
        first | go_end0 | ((try simp only [Exit.inBlock,Exit.then]);refine bodyPost_ret (results_none rfl _ _ _) rfl ?_)
        exact ⟨rfl,hh3⟩
       ·clear HRw
        have f1:decide ((R:Int)<m)=true:=decide_eq_true (by omega)
        have f1p:(R:Int)<m:=by omega
        have f2:decide ((m:Int)<E)=true:=decide_eq_true (by omega)
        have f2p:(m:Int)<E:=by omega
        have f3:decide ((a:Int)<R)=true:=decide_eq_true (by omega)
        have f3p:(a:Int)<R:=by omega
        have f4:decide ((R:Int)<mid)=true:=decide_eq_true (by omega)
        have f4p:(R:Int)<mid:=by omega
        have f5:decide ((mid:Int)<E)=true:=decide_eq_true (by omega)
        have f5p:(mid:Int)<E:=by omega
        have f6:decide ((E:Int)<b)=false:=decide_eq_false (by omega)
        have f6p:¬ (E:Int)<b:=by omega
        go_wp2_with fail
        refine HCC1.out.mono ?_
        rintro e w1 ⟨rfl,hh1⟩
        have HCC2:Hid (Calls _ _ _ _ _):=HC1.out R E w1 HX.out hh1.out (by omega) (by omega)
        go_wp2_with fail
        refine HCC2.out.mono ?_
        rintro e w2 ⟨rfl,hh2⟩
        have HE:Hid (MOut cut w w2 g A u v Z):=st3_no HX.out hh2.out (by omega)
        clear HX
        go_wp2_with fail
        first | go_end0 | ((try simp only [Exit.inBlock,Exit.then]);refine bodyPost_ret (results_none rfl _ _ _) rfl ?_)
        exact ⟨rfl,HE⟩
      ·by_cases s4:E<b
       ·clear HRw
        have f1:decide ((R:Int)<m)=true:=decide_eq_true (by omega)
        have f1p:(R:Int)<m:=by omega
        have f2:decide ((m:Int)<E)=true:=decide_eq_true (by omega)
        have f2p:(m:Int)<E:=by omega
        have f3:decide ((a:Int)<R)=false:=decide_eq_false (by omega)
        have f3p:¬ (a:Int)<R:=by omega
        have f4:decide ((R:Int)<mid)=true:=decide_eq_true (by omega)
        have f4p:(R:Int)<mid:=by omega
        have f5:decide ((mid:Int)<E)=true:=decide_eq_true (by omega)
        have f5p:(mid:Int)<E:=by omega
        have f6:decide ((E:Int)<b)=true:=decide_eq_true (by omega)
        have f6p:(E:Int)<b:=by omega
        go_wp2_with fail
        refine HCC1.out.mono ?_
        rintro e w1 ⟨rfl,hh1⟩
        have hh2:Hid (St2 cut A u v Z (R - a) (mid - R) g w w1):=st2_no HX.out hh1.out (by omega)
        have HCC3:Hid (Calls _ _ _ _ _):=HC2.out R E w1 HX.out hh2.out (by omega) (by omega)
        go_wp2_with fail
        refine HCC3.out.mono ?_
        rintro e w3 ⟨rfl,hh3⟩
        go_wp2_with fail
        first | go_end0 | ((try simp only [Exit.inBlock,Exit.then]);refine bodyPost_ret (results_none rfl _ _ _) rfl ?_)
        exact ⟨rfl,hh3⟩
       ·clear HRw
        have f1:decide ((R:Int)<m)=true:=decide_eq_true (by omega)
        have f1p:(R:Int)<m:=by omega
        have f2:decide ((m:Int)<E)=true:=decide_eq_true (by omega)
        have f2p:(m:Int)<E:=by omega
        have f3:decide ((a:Int)<R)=false:=decide_eq_false (by omega)
        have f3p:¬ (a:Int)<R:=by omega
        have f4:decide ((R:Int)<mid)=true:=decide_eq_true (by omega)
        have f4p:(R:Int)<mid:=by omega
        have f5:decide ((mid:Int)<E)=true:=decide_eq_true (by omega)
        have f5p:(mid:Int)<E:=by omega
        have f6:decide ((E:Int)<b)=false:=decide_eq_false (by omega)
        have f6p:¬ (E:Int)<b:=by omega
        go_wp2_with fail
        refine HCC1.out.mono ?_
        rintro e w1 ⟨rfl,hh1⟩
        have hh2:Hid (St2 cut A u v Z (R - a) (mid - R) g w w1):=st2_no HX.out hh1.out (by omega)
        have HE:Hid (MOut cut w w1 g A u v Z):=st3_no HX.out hh2.out (by omega)
        clear HX
        go_wp2_with fail
        first | go_end0 | ((try simp only [Exit.inBlock,Exit.then]);refine bodyPost_ret (results_none rfl _ _ _) rfl ?_)
        exact ⟨rfl,HE⟩
     ·have hh1:Hid (St1 A u v Z (R - a) (mid - R) g w wr):=st1_no HRw.out.1 HRw.out.2 (by omega)
      clear HRw
      by_cases s3:a<R
      ·skip
       have f1:decide ((R:Int)<m)=true:=decide_eq_true (by omega)
       have f1p:(R:Int)<m:=by omega
       have f2:decide ((m:Int)<E)=false:=decide_eq_false (by omega)
       have f2p:¬ (m:Int)<E:=by omega
       have f3:decide ((a:Int)<R)=true:=decide_eq_true (by omega)
       have f3p:(a:Int)<R:=by omega
       have f4:decide ((R:Int)<mid)=false:=decide_eq_false (by omega)
       have f4p:¬ (R:Int)<mid:=by omega
       have f5:decide ((mid:Int)<E)=true:=decide_eq_true (by omega)
       have f5p:(mid:Int)<E:=by omega
       have f6:decide ((E:Int)<b)=true:=decide_eq_true (by omega)
       have f6p:(E:Int)<b:=by omega
       have hh2:Hid (St2 cut A u v Z (R - a) (mid - R) g w wr):=st2_no HX.out hh1.out (by omega)
       have HCC3:Hid (Calls _ _ _ _ _):=HC2.out R E wr HX.out hh2.out (by omega) (by omega)
       go_wp2_with fail
       refine HCC3.out.mono ?_
       rintro e w3 ⟨rfl,hh3⟩
       go_wp2_with fail
       first | go_end0 | ((try simp only [Exit.inBlock,Exit.then]);refine bodyPost_ret (results_none rfl _ _ _) rfl ?_)
       exact ⟨rfl,hh3⟩
      ·skip
       have f1:decide ((R:Int)<m)=true:=decide_eq_true (by omega)
       have f1p:(R:Int)<m:=by omega
       have f2:decide ((m:Int)<E)=false:=decide_eq_false (by omega)
       have f2p:¬ (m:Int)<E:=by omega
       have f3:decide ((a:Int)<R)=false:=decide_eq_false (by omega)
       have f3p:¬ (a:Int)<R:=by omega
       have f4:decide ((R:Int)<mid)=false:=decide_eq_false (by omega)
       have f4p:¬ (R:Int)<mid:=by omega
       have f5:decide ((mid:Int)<E)=true:=decide_eq_true (by omega)
       have f5p:(mid:Int)<E:=by omega
       have f6:decide ((E:Int)<b)=true:=decide_eq_true (by omega)
       have f6p:(E:Int)<b:=by omega
       have hh2:Hid (St2 cut A u v Z (R - a) (mid - R) g w wr):=st2_no HX.out hh1.out (by omega)
       have HCC3:Hid (Calls _ _ _ _ _):=HC2.out R E wr HX.out hh2.out (by omega) (by omega)
       go_wp2_with fail
       refine HCC3.out.mono ?_
       rintro e w3 ⟨rfl,hh3⟩
       go_wp2_with fail
       first | go_end0 | ((try simp only [Exit.inBlock,Exit.then]);refine bodyPost_ret (results_none rfl _ _ _) rfl ?_)
       exact ⟨rfl,hh3⟩
    ·have hh1:Hid (St1 A u v Z (R - a) (mid - R) g w wr):=st1_no HRw.out.1 HRw.out.2 (by omega)
     clear HRw
     by_cases s2:R<mid
     ·skip
      have f1:decide ((R:Int)<m)=false:=decide_eq_false (by omega)
      have f1p:¬ (R:Int)<m:=by omega
      have f2:decide ((m:Int)<E)=true:=decide_eq_true (by omega)
      have f2p:(m:Int)<E:=by omega
      have f3:decide ((a:Int)<R)=true:=decide_eq_true (by omega)
      have f3p:(a:Int)<R:=by omega
      have f4:decide ((R:Int)<mid)=true:=decide_eq_true (by omega)
      have f4p:(R:Int)<mid:=by omega
      have f5:decide ((mid:Int)<E)=false:=decide_eq_false (by omega)
      have f5p:¬ (mid:Int)<E:=by omega
      have HCC2:Hid (Calls _ _ _ _ _):=HC1.out R E wr HX.out hh1.out (by omega) (by omega)
      go_wp2_with fail
      refine HCC2.out.mono ?_
      rintro e w2 ⟨rfl,hh2⟩
      have HE:Hid (MOut cut w w2 g A u v Z):=st3_no HX.out hh2.out (by omega)
      clear HX
      go_wp2_with fail
      first | go_end0 | ((try simp only [Exit.inBlock,Exit.then]);refine bodyPost_ret (results_none rfl _ _ _) rfl ?_)
      exact ⟨rfl,HE⟩
     ·skip
      have f1:decide ((R:Int)<m)=false:=decide_eq_false (by omega)
      have f1p:¬ (R:Int)<m:=by omega
      have f2:decide ((m:Int)<E)=false:=decide_eq_false (by omega)
      have f2p:¬ (m:Int)<E:=by omega
      have f3:decide ((a:Int)<R)=true:=decide_eq_true (by omega)
      have f3p:(a:Int)<R:=by omega
      have f4:decide ((R:Int)<mid)=false:=decide_eq_false (by omega)
      have f4p:¬ (R:Int)<mid:=by omega
      have f5:decide ((mid:Int)<E)=false:=decide_eq_false (by omega)
      have f5p:¬ (mid:Int)<E:=by omega
      have hh2:Hid (St2 cut A u v Z (R - a) (mid - R) g w wr):=st2_no HX.out hh1.out (by omega)
      have HE:Hid (MOut cut w wr g A u v Z):=st3_no HX.out hh2.out (by omega)
      clear HX
      go_wp2_with fail
      first | go_end0 | ((try simp only [Exit.inBlock,Exit.then]);refine bodyPost_ret (results_none rfl _ _ _) rfl ?_)
      exact ⟨rfl,HE⟩
theorem sym_any (g cap cb gc ccap:Nat) (cut:List Int) (h1:cb≠g) (h2:gc≠g):∀ n,SymOk g cap cb gc ccap cut n:=by
 intro n
 induction n using Nat.strongRecOn with
 | _ n ih=>
  intro A u v Z w hn hu hv h hl hc hM
  by_cases u1:u.length=1
  ·obtain ⟨x,rfl⟩:∃ x,u=[x]:=List.length_eq_one_iff.1 u1
   exact sym_left g cap cb gc ccap cut A v Z x w h hl hc h1 h2 hM
  ·by_cases v1:v.length=1
   ·obtain ⟨y,rfl⟩:∃ y,v=[y]:=List.length_eq_one_iff.1 v1
    exact sym_right g cap cb gc ccap cut A u Z y w h hl hc h1 h2 hM u1
   ·exact sym_step g cap cb gc ccap cut A u v Z w (by rw [hn];exact ih) (by omega) (by omega) h hl hc h1 h2 hM
end Go.Proofs.YtjdjfpkjikdkoaaGreatDoor
