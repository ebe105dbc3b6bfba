/-
  Part of a proof (see the last text).
-/
import Derived.Test.YtibhgngboljhfaaGreatDoorZp18
import Derived.Test.YtibhgngboljhfaaGreatDoorZp36
set_option linter.unusedVariables false
set_option linter.unusedSimpArgs false
set_option maxRecDepth 100000
namespace Go.Proofs.YtibhgngboljhfaaGreatDoor
section
open Go.RowKit Go.Lib Go.Proofs.Tryz
theorem refAt_none (a:Option Addr) (cap:Nat) (c:ByteArray) (w:World) :
  Calls prog 20 #[.slice a 0 cap,.string c] w fun e w'=>e=.returned (.int .i64 (-1))∧w'=w:=by
 go_enter func20,ntmps20
 go_wp2;refine wp_loop_rounds 1 ?_;rw [rounds_succ];go_wp2;go_ret;exact ⟨rfl,rfl⟩
set_option maxHeartbeats 1000000 in
theorem refAt_some (b off cap:Nat) (l:List Ac) (c:ByteArray) (w:World) (hlen:l.length≤1000) (hc:Qfl w b off l) :
  Calls prog 20 #[.slice (some ⟨b,off,none⟩) l.length cap,.string c] w fun e w'=>e=.returned (.int .i64 (QcX (Qag c) l))∧w'=w:=by
 have Hc:Hid (Qfl w b off l):=hc;have Hlen:(l.length:Int)≤1000:=by omega
 clear hc;obtain ⟨res,hres⟩:∃ res,QcX (Qag c) l=res:=⟨_,rfl⟩;have Hres:Hid (QcX (Qag c) l=res):=hres;rw [hres];clear hres;go_enter func20,ntmps20
 go_wp2;go_loop [5] (fun i=>∃ k:Nat,k≤l.length∧i=.int .i64 k∧Hid (QbE (Qag c) k (l.drop k)=res)) (fun i=>l.length - (RowKit.intOf i).toNat)
 case atStart=>exact ⟨0,Nat.zero_le _,rfl,Hres.out⟩
 case round=>
  obtain ⟨k,hk,rfl,H⟩:=hrel;by_cases hlt:k<l.length
  ·have hn:=Hc.out k hlt;have E:Hid ((if Qag c (l.getD k ac0)=true then (k:Int) else QbE (Qag c) (k+1) (l.drop (k+1)))=res):=by
    have:=H.out
    rw [Qfq l k hlt] at this;exact this
   clear H;generalize l.getD k ac0=x at *
   obtain ⟨x0,x1,x2,x3,x4⟩:=x;obtain ⟨c0,c1,c2,c3,c4⟩:=hn;simp only at c0 c1 c2 c3 c4;have i0:(0:Int)≤k:=by omega
   have i1:(k:Int)<l.length:=by omega
   by_cases hx:x0=c
   ·have er:res=k:=by rw [← E.out,if_pos (by simp [Qag,hx])]
    subst er;subst hx;go_wp2;go_ret;exact ⟨rfl,rfl⟩
   ·have hx':=QeB hx;have HN:Hid (QbE (Qag c) (k+1) (l.drop (k+1))=res):=by
     have:=E.out;rw [if_neg (by simp [Qag,hx])] at this;exact this
    go_wp2;go_round
    case rel=>exact ⟨k+1,by omega,by go_num,HN⟩
    case measure=>simp [RowKit.intOf];omega
  ·have hk2:k=l.length:=by omega
   subst hk2;have er:res = -1:=by rw [← H.out,List.drop_length];rfl
   subst er;go_wp2;go_ret;exact ⟨rfl,rfl⟩
theorem Qhg (a:Option Addr) (cap:Nat) (l:List Ac) (c:ByteArray) (w:World) (hlen:l.length≤1000) (h:QbJ w a l cap) :
  Calls prog 20 #[.slice a l.length cap,.string c] w fun e w'=>e=.returned (.int .i64 (QcX (Qag c) l))∧w'=w:=by
 rcases h.lies with rfl | ⟨b,off,rfl,hlt,hc⟩
 ·exact refAt_none a cap c w
 ·exact refAt_some b off cap l c w hlen hc
end
section
open Go.RowKit Go.Lib Go.Proofs.Tryz
theorem get_at (s:ByteArray) (k:Nat) (h:k<s.size):s.get! k=s[k]'h:=by
 show s.data[k]! = s.data[k]'h;exact getElem!_pos s.data k h
theorem refDigits_any (s:ByteArray) (most:Nat) (w:World) (hs:s.size≤maxLen) :
  Calls prog 149 #[.string s,.int .i64 most] w fun e w'=>e=.returned (.bool (QbA Qdi most s))∧w'=w:=by
 unfold maxLen at hs;by_cases h0:s.size=0
 ·have e0:=Qfb h0;have e1:QbA Qdi most s=false:=by simp [QbA,h0]
  rw [e1];go_enter func149,ntmps149
  go_wp2;go_ret;exact ⟨rfl,rfl⟩
 have e0:=Qgc h0;have e0':s.toList.isEmpty=false:=by simpa using e0
 by_cases h1:s.size≤most
 ·have h1':decide ((most:Int)<s.size)=false:=by simp;omega
  have h1'':¬ ((most:Int)<s.size):=by omega
  obtain ⟨res,hres⟩:∃ res,QbA Qdi most s=res:=⟨_,rfl⟩;have Hres:Hid (QbA Qdi most s=res):=hres;rw [hres];clear hres;go_enter func149,ntmps149
  go_wp2;go_loop [5] (fun i=>∃ k:Nat,k≤s.size∧i=.int .i64 k∧Hid (∀ j,j<k→Qdi (s.get! j).toNat=true)) (fun i=>s.size - (RowKit.intOf i).toNat)
  case atStart=>exact ⟨0,Nat.zero_le _,rfl,fun j hj=>absurd hj (Nat.not_lt_zero _)⟩
  case round=>
   obtain ⟨k,hk,rfl,Hk⟩:=hrel;by_cases hlt:k<s.size
   ·have i0:(0:Int)≤k:=by omega
    have i1:(k:Int)<s.size:=by omega
    obtain ⟨c,hc⟩:∃ c,(s[k]'hlt).toNat=c:=⟨_,rfl⟩;have Hg:Hid (Qdi (s.get! k).toNat=Qdi c):=by unfold Hid;rw [get_at s k hlt,hc]
    have bad:Qdi c=false→res=false:=fun hb=>by
     rw [← Hres.out];cases hm:QbA Qdi most s
     ·rfl
     ·have:=((Qem (fun r=>digR_low)).1 hm).2.2 k hlt
      rw [Hg.out,hb] at this;cases this
    by_cases h48:(c:Int)<48
    ·have e1:=bad (by simp [Qdi];omega)
     subst e1;clear bad;go_wp2;go_ret;exact ⟨rfl,rfl⟩
    by_cases h57:57<(c:Int)
    ·have e1:=bad (by simp [Qdi];omega)
     subst e1;clear bad;go_wp2;go_ret;exact ⟨rfl,rfl⟩
    have HN:Hid (∀ j,j<k+1→Qdi (s.get! j).toNat=true):=fun j hj=>by
     rcases (by omega:j<k∨j=k) with h' | rfl
     ·exact Hk.out j h'
     ·rw [Hg.out];simp [Qdi];omega
    clear bad;go_wp2;go_round
    case rel=>exact ⟨k+1,by omega,by go_num,HN⟩
    case measure=>simp [RowKit.intOf];omega
   ·have hk2:k=s.size:=by omega
    have er:res=true:=by
     rw [← Hres.out];exact (Qem (fun r=>digR_low)).2 ⟨h0,h1,fun i hi=>Hk.out i (by omega)⟩
    subst er;go_wp2;go_ret;exact ⟨rfl,rfl⟩
 ·have h1':decide ((most:Int)<s.size)=true:=by simp;omega
  have h1'':(most:Int)<s.size:=by omega
  have e1:QbA Qdi most s=false:=by simp [QbA,h1]
  rw [e1];go_enter func149,ntmps149
  go_wp2;go_ret;exact ⟨rfl,rfl⟩
theorem leB_ge {a b:ByteArray} (h:leB a b=true):Op.bytesLess b.toList a.toList=false:=by
 cases hb:Op.bytesLess b.toList a.toList
 ·rfl
 ·unfold leB at h;rw [Bool.or_eq_true,beq_iff_eq] at h;rcases h with h | h
  ·have:=QfR _ _ _ h hb
   rw [QdN] at this;cases this
  ·rw [h,QdN] at hb;cases hb
theorem leB_lt {a b:ByteArray} (h:¬ leB a b=true):Op.bytesLess b.toList a.toList=true:=by
 unfold leB at h;rw [Bool.or_eq_true,beq_iff_eq,not_or] at h;exact Qge _ _ (by simpa using h.1) h.2
set_option maxHeartbeats 4000000 in
theorem Qiy (b off cap i:Nat) (l:List Ac) (w:World) (hi:i<l.length) (hlen:l.length≤1000) (hcap:l.length≤cap) (hb:b<w.heap.size) (hc:Qfl w b off l) (hsz:(l.getD i ac0).code.size≤maxLen∧(l.getD i ac0).name.size≤maxLen) :
  Calls prog 96 #[.slice (some ⟨b,off,none⟩) l.length cap,.int .i64 (i:Nat)] w fun e w'=>e=.returned (.int .i64 (Qax (l.take i) (l.getD i ac0)))∧Below w.heap.size w w':=by
 have hx:=hc i hi;have hn:=AcAt.new w (l.getD i ac0) 60;have b0:Below w.heap.size w (w.alloc (.cells (l.getD i ac0).cells 60)):=(Below.refl _ w).alloc (Nat.le_refl _) _;have HA:Hid (∀ W,Below w.heap.size w W→Calls prog 20 #[.slice (some ⟨b,off,none⟩) i cap,.string (l.getD i ac0).par] W fun e w'=>e=.returned (.int .i64 (QcX (Qag (l.getD i ac0).par) (l.take i)))∧w'=W):=fun W hW=>by
  have h2:QbJ W (some ⟨b,off,none⟩) (l.take i) cap:=(QbJ.below ⟨hcap,.inr ⟨b,off,rfl,hb,hc⟩⟩ hW).take i
  have:=Qhg (some ⟨b,off,none⟩) cap (l.take i) (l.getD i ac0).par W (by simp;omega) h2
  rw [show (l.take i).length=i by simp;omega] at this
  exact this
 have Hc:Hid (∀ W,Below w.heap.size w W→∀ k,k<l.length→AcAt W b (off+k*5) (l.getD k ac0)):=fun W hW k hk=>(hc k hk).below hW hb
 have Htk:Hid (∀ k,k<i→(l.take i).getD k ac0=l.getD k ac0):=fun k hk=>take_getD l i k hk
 have hli:(l.take i).length=i:=by simp;omega
 obtain ⟨res,hres⟩:∃ res,Qax (l.take i) (l.getD i ac0)=res:=⟨_,rfl⟩;have Hres:Hid (Qax (l.take i) (l.getD i ac0)=res):=hres;rw [hres];clear hres hc;have Hlen:(l.length:Int)≤1000:=by omega
 have j0:(0:Int)≤i:=by omega
 have j1:(i:Int)<l.length:=by omega
 have j2:(i:Int)≤cap:=by omega
 generalize l.getD i ac0=x at *
 obtain ⟨x0,x1,x2,x3,x4⟩:=x;obtain ⟨s1,s2⟩:=hsz;simp only [Ac.cells] at hn b0 HA s1 s2;obtain ⟨c0,c1,c2,c3,c4⟩:=hx;obtain ⟨d0,d1,d2,d3,d4⟩:=hn;simp only [Nat.zero_add] at c0 c1 c2 c3 c4 d0 d1 d2 d3 d4;have S1:Hid (x0.size≤maxLen):=s1;clear s1 s2;go_enter func96,ntmps96
 go_wp2_with fail;refine (refDigits_any x0 6 _ S1.out).mono ?_;rintro e w' ⟨rfl,hw⟩;rw [hw];clear hw w' c0 c1 c2 c3 c4;cases h1:QbA Qdi 6 x0
 ·have er:res=2:=by rw [← Hres.out];simp [Qax,QeR,h1]
  subst er;go_wp2;go_ret;exact ⟨rfl,b0⟩
 by_cases hn0:x1.size=0
 ·have e0:=Qfb hn0;have e0':x1.toList.isEmpty=true:=by rw [e0];rfl
  have er:res=2:=by rw [← Hres.out];simp [Qax,Qdq,QbA,hn0]
  subst er;go_wp2;go_ret;exact ⟨rfl,b0⟩
 have e0:=Qgc hn0;have e0':x1.toList.isEmpty=false:=by simpa using e0
 by_cases h24:24<(x1.size:Int)
 ·have er:res=2:=by rw [← Hres.out];unfold Qax;rw [if_pos];right;simp [Qdq,QbA];omega
  subst er;go_wp2;go_ret;exact ⟨rfl,b0⟩
 go_wp2;go_loop [7] (fun i=>∃ k:Nat,k≤x1.size∧i=.int .i64 k∧Hid (∀ j,j<k→Qez (x1.get! j).toNat=true)) (fun i=>x1.size - (RowKit.intOf i).toNat)
 case atStart=>exact ⟨0,Nat.zero_le _,rfl,fun j hj=>absurd hj (Nat.not_lt_zero _)⟩
 case round=>
  obtain ⟨k,hk,rfl,Hk⟩:=hrel;by_cases hlt:k<x1.size
  ·have i0:(0:Int)≤k:=by omega
   have i1:(k:Int)<x1.size:=by omega
   obtain ⟨c,hc⟩:∃ c,(x1[k]'hlt).toNat=c:=⟨_,rfl⟩;have Hg:Hid (Qez (x1.get! k).toNat=Qez c):=by unfold Hid;rw [get_at x1 k hlt,hc]
   have bad:Qez c=false→res=2:=fun hb=>by
    rw [← Hres.out];unfold Qax;rw [if_pos]
    right
    cases hm:Qdq x1
    ·rfl
    ·have:=((Qem (fun r=>namR_low)).1 hm).2.2 k hlt
     rw [Hg.out,hb] at this;cases this
   have QgR:Qez c=true→Hid (∀ j,j<k+1→Qez (x1.get! j).toNat=true):=fun hb j hj=>by
    rcases (by omega:j<k∨j=k) with h' | rfl
    ·exact Hk.out j h'
    ·rw [Hg.out];exact hb
   rcases (by omega:c≤44∨c=45∨46≤c∧c≤47∨48≤c∧c≤57∨58≤c∧c≤64∨65≤c∧c≤90∨91≤c∧c≤96∨97≤c∧c≤122∨123≤c) with hcl | hcl | hcl | hcl | hcl | hcl | hcl | hcl | hcl
   ·have er:=bad (by simp [Qez,Qdi];omega)
    subst er;have t0:((c:Int) != 45)=true:=by simp;omega
    have t1:decide ((c:Int)<48)=true:=by simp;omega
    have t2:decide (57<(c:Int))=false:=by simp;omega
    have t3:decide ((c:Int)<65)=true:=by simp;omega
    have t4:decide (90<(c:Int))=false:=by simp;omega
    have t5:decide ((c:Int)<97)=true:=by simp;omega
    have t6:decide (122<(c:Int))=false:=by simp;omega
    clear bad QgR hcl;go_wp2;go_ret;exact ⟨rfl,b0⟩
   ·have HN:=QgR (by simp [Qez,Qdi];omega)
    have t0:((c:Int) != 45)=false:=by simp;omega
    have t1:decide ((c:Int)<48)=true:=by simp;omega
    have t2:decide (57<(c:Int))=false:=by simp;omega
    have t3:decide ((c:Int)<65)=true:=by simp;omega
    have t4:decide (90<(c:Int))=false:=by simp;omega
    have t5:decide ((c:Int)<97)=true:=by simp;omega
    have t6:decide (122<(c:Int))=false:=by simp;omega
    clear bad QgR hcl;go_wp2;go_round
    case rel=>exact ⟨k+1,by omega,by go_num,HN⟩
    case measure=>simp [RowKit.intOf];omega
   ·have er:=bad (by simp [Qez,Qdi];omega)
    subst er;have t0:((c:Int) != 45)=true:=by simp;omega
    have t1:decide ((c:Int)<48)=true:=by simp;omega
    have t2:decide (57<(c:Int))=false:=by simp;omega
    have t3:decide ((c:Int)<65)=true:=by simp;omega
    have t4:decide (90<(c:Int))=false:=by simp;omega
    have t5:decide ((c:Int)<97)=true:=by simp;omega
    have t6:decide (122<(c:Int))=false:=by simp;omega
    clear bad QgR hcl;go_wp2;go_ret;exact ⟨rfl,b0⟩
   ·have HN:=QgR (by simp [Qez,Qdi];omega)
    have t0:((c:Int) != 45)=true:=by simp;omega
    have t1:decide ((c:Int)<48)=false:=by simp;omega
    have t2:decide (57<(c:Int))=false:=by simp;omega
    have t3:decide ((c:Int)<65)=true:=by simp;omega
    have t4:decide (90<(c:Int))=false:=by simp;omega
    have t5:decide ((c:Int)<97)=true:=by simp;omega
    have t6:decide (122<(c:Int))=false:=by simp;omega
    clear bad QgR hcl;go_wp2;go_round
    case rel=>exact ⟨k+1,by omega,by go_num,HN⟩
    case measure=>simp [RowKit.intOf];omega
   ·have er:=bad (by simp [Qez,Qdi];omega)
    subst er;have t0:((c:Int) != 45)=true:=by simp;omega
    have t1:decide ((c:Int)<48)=false:=by simp;omega
    have t2:decide (57<(c:Int))=true:=by simp;omega
    have t3:decide ((c:Int)<65)=true:=by simp;omega
    have t4:decide (90<(c:Int))=false:=by simp;omega
    have t5:decide ((c:Int)<97)=true:=by simp;omega
    have t6:decide (122<(c:Int))=false:=by simp;omega
    clear bad QgR hcl;go_wp2;go_ret;exact ⟨rfl,b0⟩
   ·have HN:=QgR (by simp [Qez,Qdi];omega)
    have t0:((c:Int) != 45)=true:=by simp;omega
    have t1:decide ((c:Int)<48)=false:=by simp;omega
    have t2:decide (57<(c:Int))=true:=by simp;omega
    have t3:decide ((c:Int)<65)=false:=by simp;omega
    have t4:decide (90<(c:Int))=false:=by simp;omega
    have t5:decide ((c:Int)<97)=true:=by simp;omega
    have t6:decide (122<(c:Int))=false:=by simp;omega
    clear bad QgR hcl;go_wp2;go_round
    case rel=>exact ⟨k+1,by omega,by go_num,HN⟩
    case measure=>simp [RowKit.intOf];omega
   ·have er:=bad (by simp [Qez,Qdi];omega)
    subst er;have t0:((c:Int) != 45)=true:=by simp;omega
    have t1:decide ((c:Int)<48)=false:=by simp;omega
    have t2:decide (57<(c:Int))=true:=by simp;omega
    have t3:decide ((c:Int)<65)=false:=by simp;omega
    have t4:decide (90<(c:Int))=true:=by simp;omega
    have t5:decide ((c:Int)<97)=true:=by simp;omega
    have t6:decide (122<(c:Int))=false:=by simp;omega
    clear bad QgR hcl;go_wp2;go_ret;exact ⟨rfl,b0⟩
   ·have HN:=QgR (by simp [Qez,Qdi];omega)
    have t0:((c:Int) != 45)=true:=by simp;omega
    have t1:decide ((c:Int)<48)=false:=by simp;omega
    have t2:decide (57<(c:Int))=true:=by simp;omega
    have t3:decide ((c:Int)<65)=false:=by simp;omega
    have t4:decide (90<(c:Int))=true:=by simp;omega
    have t5:decide ((c:Int)<97)=false:=by simp;omega
    have t6:decide (122<(c:Int))=false:=by simp;omega
    clear bad QgR hcl;go_wp2;go_round
    case rel=>exact ⟨k+1,by omega,by go_num,HN⟩
    case measure=>simp [RowKit.intOf];omega
   ·have er:=bad (by simp [Qez,Qdi];omega)
    subst er;have t0:((c:Int) != 45)=true:=by simp;omega
    have t1:decide ((c:Int)<48)=false:=by simp;omega
    have t2:decide (57<(c:Int))=true:=by simp;omega
    have t3:decide ((c:Int)<65)=false:=by simp;omega
    have t4:decide (90<(c:Int))=true:=by simp;omega
    have t5:decide ((c:Int)<97)=false:=by simp;omega
    have t6:decide (122<(c:Int))=true:=by simp;omega
    clear bad QgR hcl;go_wp2;go_ret;exact ⟨rfl,b0⟩
  ·have hk2:k=x1.size:=by omega
   have hnm:Qdq x1=true:=(Qem (fun r=>namR_low)).2 ⟨hn0,by omega,fun i hi=>Hk.out i (by omega)⟩
   have hcd:QeR x0=true:=h1;clear hk2 Hk;by_cases h3:x2<1
   ·have er:res=1:=by rw [← Hres.out];simp [Qax,hcd,hnm,h3]
    subst er;go_wp2;go_ret;exact ⟨rfl,b0⟩
   by_cases h4:5<x2
   ·have er:res=1:=by rw [← Hres.out];simp [Qax,hcd,hnm,h4]
    subst er;go_wp2;go_ret;exact ⟨rfl,b0⟩
   have er:res=if (l.take i).length≠0∧leB x0 ((l.take i).getD ((l.take i).length - 1) ac0).code=true then 5 else QbV (l.take i) ⟨x0,x1,x2,x3,x4⟩:=by
    rw [← Hres.out];unfold Qax;rw [if_neg (by simp [hcd,hnm]),if_neg (by simp;omega)]
   rw [hli] at er;have ER:Hid (res=if i≠0∧leB x0 ((l.take i).getD (i - 1) ac0).code=true then 5 else QbV (l.take i) ⟨x0,x1,x2,x3,x4⟩):=er
   clear er Hres hcd hnm hli h24 hn0 e0 e0' h1;have par:res=QbV (l.take i) ⟨x0,x1,x2,x3,x4⟩→∃ kk,res=kk∧((x3.size=0∧kk=0)∨(x3.size≠0∧QcX (Qag x3) (l.take i)<0∧kk=6)∨∃ m:Nat,x3.size≠0∧QcX (Qag x3) (l.take i)=(m:Int)∧m<i∧((kk=12∧(l.getD m ac0).kind≠x2)∨(kk=0∧(l.getD m ac0).kind=x2))):=fun e=>by
    refine ⟨_,rfl,?_⟩;rw [e];unfold QbV;by_cases p0:x3.size=0
    ·exact .inl ⟨p0,if_pos p0⟩
    ·rw [if_neg p0];by_cases p1:QcX (Qag x3) (l.take i)<0
     ·exact .inr (.inl ⟨p0,p1,if_pos p1⟩)
     ·rw [if_neg p1];obtain ⟨m,hm,em,_,_⟩:=QdV (p:=Qag x3) (l:=l.take i) (by omega)
      have hmi:m<i:=by simp only [List.length_take] at hm;omega
      refine .inr (.inr ⟨m,p0,em,hmi,?_⟩);rw [em,Int.toNat_natCast,Htk.out m hmi];by_cases p2:(l.getD m ac0).kind=x2
      ·exact .inr ⟨by simp only;rw [if_neg (fun h=>h p2)],p2⟩
      ·exact .inl ⟨by simp only;rw [if_pos p2],p2⟩
   have Hpar:Hid (res=QbV (l.take i) ⟨x0,x1,x2,x3,x4⟩→_):=par;clear par;by_cases hi0:i=0
   ·subst hi0;obtain ⟨kk,rfl,hkk⟩:=Hpar.out (by rw [ER.out,if_neg (fun h=>h.1 rfl)])
    clear Hpar ER;rcases hkk with ⟨p0,e⟩ | ⟨p0,p1,e⟩ | ⟨m,p0,em,hm,_⟩
    ·have p0':=Qfb p0;subst e;go_wp2_with fail;go_quiet (fail)
     go_wp2;go_ret;exact ⟨rfl,Qao b0 _⟩
    ·have p0':=Qgc p0;have p0'':x3.toList.isEmpty=false:=by simpa using p0'
     subst e;go_wp2_with fail;go_quiet (fail)
     go_wp2_with fail;go_region_with (go_at_call 20;refine (HA.out _ (Qao b0 _).drew).mono ?_;rintro e w' ⟨rfl,rfl⟩)
     all_goals
      go_wp2;go_ret
      first | exact ⟨rfl,(Qao b0 _).drew⟩ | exact ⟨rfl,Qao b0 _⟩ | exact ⟨rfl,Qao (Qao b0 _).drew _⟩
    ·omega
   ·obtain ⟨q,hq⟩:∃ q,i=q+1:=⟨i - 1,by omega⟩
    have hp:=(Hc.out _ b0 q (by omega)).c0
    have hcq:(l.take i).getD (i - 1) ac0=l.getD q ac0:=by rw [show i - 1=q by omega];exact Htk.out q (by omega)
    rw [hcq] at ER;have HcL:Hid (∀ m,m<i→(w.alloc (.cells #[.string x0,.string x1,.int .i64 x2,.string x3,.bool x4] 60)).cell? ⟨b,off+m*5+2,none⟩=some (.int .i64 (l.getD m ac0).kind)):=fun m hm=>(Hc.out _ b0 m (by omega)).c2
    clear hcq;subst hq;generalize (l.getD q ac0).code=y0 at *
    have hq0:(0:Int)≤q:=by omega
    have hqw:IntKind.i64.wrap (q:Int)=q:=by rw [IntKind.wrap_i64];omega
    have hq1:(q:Int)<l.length:=by omega
    by_cases hle:leB x0 y0=true
    ·have er:res=5:=by rw [ER.out,if_pos ⟨by omega,hle⟩]
     subst er;have hge:Op.bytesLess y0.toList x0.toList=false:=leB_ge hle;clear Hpar ER;go_wp2_with fail;go_quiet (fail)
     go_wp2;go_ret;exact ⟨rfl,Qao b0 _⟩
    ·have hge:Op.bytesLess y0.toList x0.toList=true:=leB_lt hle;obtain ⟨kk,rfl,hkk⟩:=Hpar.out (by rw [ER.out,if_neg (fun h=>hle h.2)])
     clear Hpar ER;rcases hkk with ⟨p0,e⟩ | ⟨p0,p1,e⟩ | ⟨m,p0,em,hm,he⟩
     ·have p0':=Qfb p0;subst e;go_wp2_with fail;go_quiet (fail)
      go_wp2;go_ret;exact ⟨rfl,Qao b0 _⟩
     ·have p0':=Qgc p0;have p0'':x3.toList.isEmpty=false:=by simpa using p0'
      subst e;go_wp2_with fail;go_quiet (fail)
      go_wp2_with fail;go_region_with (go_at_call 20;refine (HA.out _ (Qao b0 _).drew).mono ?_;rintro e w' ⟨rfl,rfl⟩)
      all_goals
       go_wp2;go_ret
       first | exact ⟨rfl,(Qao b0 _).drew⟩ | exact ⟨rfl,Qao b0 _⟩ | exact ⟨rfl,Qao (Qao b0 _).drew _⟩
     ·have p0':=Qgc p0;have p0'':x3.toList.isEmpty=false:=by simpa using p0'
      have hk2:=HcL.out m hm;have hA:=fun W hW=>HA.out W hW
      rw [em] at hA;have HHA:Hid (∀ W,_):=hA;clear hA HA em HcL;generalize (l.getD m ac0).kind=y2 at *
      have m0:(0:Int)≤m:=by omega
      have m1:(m:Int)<l.length:=by omega
      rcases he with ⟨e,hne⟩ | ⟨e,heq⟩
      ·subst e;have hne':(y2 != x2)=true:=by simp [hne]
       go_wp2_with fail;go_quiet (fail)
       go_wp2_with fail;go_region_with (go_at_call 20;refine (HHA.out _ (Qao b0 _).drew).mono ?_;rintro e w' ⟨rfl,rfl⟩)
       all_goals
        go_wp2_with fail;go_quiet (fail)
        go_wp2;go_ret
        first | exact ⟨rfl,(Qao b0 _).drew⟩ | exact ⟨rfl,Qao b0 _⟩ | exact ⟨rfl,Qao (Qao b0 _).drew _⟩
      ·subst e;subst heq;go_wp2_with fail;go_quiet (fail)
       go_wp2_with fail;go_region_with (go_at_call 20;refine (HHA.out _ (Qao b0 _).drew).mono ?_;rintro e w' ⟨rfl,rfl⟩)
       all_goals
        go_wp2_with fail;go_quiet (fail)
        go_wp2;go_ret
        first | exact ⟨rfl,(Qao b0 _).drew⟩ | exact ⟨rfl,Qao b0 _⟩ | exact ⟨rfl,Qao (Qao b0 _).drew _⟩
end
section
open Go.RowKit Go.Lib Go.Proofs.Tryz
end
section
open Go.RowKit Go.Lib Go.Proofs.Tryz
theorem refChart_full (a:Option Addr) (len cap:Nat) (w:World) (h:60<len) :
  Calls prog 49 #[.slice a len cap] w fun e w'=>e=.returned (.int .i64 4)∧Below w.heap.size w w':=by
 have h':(60:Int)<len:=by omega
 go_enter func49,ntmps49
 go_wp2;go_ret;exact ⟨rfl,Below.refl _ _⟩
theorem refChart_none (a:Option Addr) (cap:Nat) (w:World) :
  Calls prog 49 #[.slice a 0 cap] w fun e w'=>e=.returned (.int .i64 0)∧Below w.heap.size w w':=by
 go_enter func49,ntmps49
 go_wp2;refine wp_loop_rounds 1 ?_;rw [rounds_succ];go_wp2;go_ret;exact ⟨rfl,Below.refl _ _⟩
set_option maxHeartbeats 2000000 in
theorem refChart_some (b off cap:Nat) (l:List Ac) (w:World) (hb:b<w.heap.size) (hlen:l.length≤60) (hcap:l.length≤cap) (hc:Qfl w b off l) (hok:∀ k,k<l.length→(l.getD k ac0).code.size≤maxLen∧(l.getD k ac0).name.size≤maxLen) :
  Calls prog 49 #[.slice (some ⟨b,off,none⟩) l.length cap] w fun e w'=>e=.returned (.int .i64 (Qi9 [] l))∧Below w.heap.size w w':=by
 have Hlen:(l.length:Int)≤60:=by omega
 have HA:Hid (∀ W,Below w.heap.size w W→∀ i,i<l.length→Calls prog 96 #[.slice (some ⟨b,off,none⟩) l.length cap,.int .i64 (i:Nat)] W fun e w'=>e=.returned (.int .i64 (Qax (l.take i) (l.getD i ac0)))∧Below w.heap.size w w'):=fun W hW i hi=>by
  refine (Qiy b off cap i l W hi (by omega) hcap (by have:=hW.size;omega) (fun k hk=>(hc k hk).below hW hb) (hok i hi)).mono ?_
  rintro e w' ⟨rfl,hb'⟩;exact ⟨rfl,hW.trans (hb'.mono hW.size)⟩
 obtain ⟨res,hres⟩:∃ res,Qi9 [] l=res:=⟨_,rfl⟩;have Hres:Hid (Qi9 [] l=res):=hres;rw [hres];clear hres hc hok;go_enter func49,ntmps49
 go_wp2;go_loopw [3] (fun i wr=>∃ k:Nat,k≤l.length∧i=.int .i64 k∧Hid (Qi9 (l.take k) (l.drop k)=res)∧Below w.heap.size w wr) (fun i _=>l.length - (RowKit.intOf i).toNat)
 case atStart=>exact ⟨0,Nat.zero_le _,rfl,by unfold Hid;simpa using Hres.out,Below.refl _ _⟩
 case round=>
  obtain ⟨k,hk,rfl,H,BW⟩:=hrel;by_cases hlt:k<l.length
  ·have E:Hid ((if Qax (l.take k) (l.getD k ac0)≠0 then Qax (l.take k) (l.getD k ac0) else Qi9 (l.take (k+1)) (l.drop (k+1)))=res):=by
    have:=H.out
    rw [Qfq l k hlt] at this;have e2:l.take k++[l.getD k ac0]=l.take (k+1):=by
     rw [List.take_succ_eq_append_getElem hlt,List.getD_eq_getElem?_getD,List.getElem?_eq_getElem hlt];rfl
    unfold Hid;rw [← e2];exact this
   have hcall:=HA.out wr BW k hlt;generalize Qax (l.take k) (l.getD k ac0)=bad at *
   have Hcall:Hid (Calls _ _ _ _ _):=hcall;clear hcall H;by_cases hb0:bad=0
   ·subst hb0;have HN:Hid (Qi9 (l.take (k+1)) (l.drop (k+1))=res):=by
     have:=E.out;rw [if_neg (by simp)] at this;exact this
    go_wp2_with fail;refine Hcall.out.mono ?_;rintro e w' ⟨rfl,hb'⟩;go_wp2;go_roundw
    case rel=>exact ⟨k+1,by omega,by go_num,HN,hb'⟩
    case measure=>simp [RowKit.intOf];omega
   ·have er:res=bad:=by rw [← E.out,if_pos hb0]
    subst er;have hb0':(res != 0)=true:=by simp [hb0]
    go_wp2_with fail;refine Hcall.out.mono ?_;rintro e w' ⟨rfl,hb'⟩;go_wp2;go_ret;exact ⟨rfl,hb'⟩
  ·have hk2:k=l.length:=by omega
   subst hk2;have er:res=0:=by rw [← H.out,List.drop_length];rfl
   subst er;go_wp2;go_ret;exact ⟨rfl,BW⟩
theorem refChart_any (a:Option Addr) (cap:Nat) (l:List Ac) (w:World) (h:QbJ w a l cap) (hok:∀ k,k<l.length→(l.getD k ac0).code.size≤maxLen∧(l.getD k ac0).name.size≤maxLen) :
  Calls prog 49 #[.slice a l.length cap] w fun e w'=>e=.returned (.int .i64 (Qat l))∧Below w.heap.size w w':=by
 unfold Qat;by_cases h60:60<l.length
 ·rw [if_pos h60];exact refChart_full a l.length cap w h60
 ·rw [if_neg h60];rcases h.lies with rfl | ⟨b,off,rfl,hlt,hc⟩
  ·exact refChart_none a cap w
  ·exact refChart_some b off cap l w hlt (by omega) h.cap hc hok
end
section
open Go.RowKit Go.Lib Go.Proofs.Tryz
def QfM (s:ByteArray):Bool:=s.size == 3 && ((65≤(s.get! 0).toNat && (s.get! 0).toNat≤90) && ((65≤(s.get! 1).toNat && (s.get! 1).toNat≤90) && (65≤(s.get! 2).toNat && (s.get! 2).toNat≤90)))
theorem other_at (s:ByteArray) (pos f:Nat) (h:pos<s.size):QaB s (f+1) pos=if 65≤(s.get! pos).toNat∧(s.get! pos).toNat≤90 then QaB s f (pos+1) else (pos:Int):=by
 have hg:s.get! pos=s[pos]'h:=by
  show s.data[pos]! = s.data[pos]'h;exact getElem!_pos s.data pos h
 rw [hg,QaB,if_pos h];by_cases ha:(s[pos]'h).toNat<128
 ·rw [decode_ascii s pos h ha];by_cases hc:65≤(s[pos]'h).toNat∧(s[pos]'h).toNat≤90
  ·rw [if_pos hc,if_neg (by simp [other];omega)]
  ·rw [if_neg hc,if_pos (by simp [other];omega)]
 ·have hd:=(decode_high s pos h (by omega)).1
  rw [if_pos (by simp [other];omega),if_neg (by omega)]
theorem Qhb (s:ByteArray) (h:s.size=3):QaB s 3 0<0↔(65≤(s.get! 0).toNat∧(s.get! 0).toNat≤90)∧(65≤(s.get! 1).toNat∧(s.get! 1).toNat≤90)∧65≤(s.get! 2).toNat∧(s.get! 2).toNat≤90:=by
 rw [other_at s 0 2 (by omega)]
 by_cases h0:65≤(s.get! 0).toNat∧(s.get! 0).toNat≤90
 ·rw [if_pos h0,other_at s 1 1 (by omega)]
  by_cases h1:65≤(s.get! 1).toNat∧(s.get! 1).toNat≤90
  ·rw [if_pos h1,other_at s 2 0 (by omega)]
   by_cases h2:65≤(s.get! 2).toNat∧(s.get! 2).toNat≤90
   ·rw [if_pos h2];exact ⟨fun _=>⟨h0,h1,h2⟩,fun _=>by simp [QaB]⟩
   ·rw [if_neg h2];exact ⟨fun h=>by omega,fun h=>absurd h.2.2 h2⟩
  ·rw [if_neg h1];exact ⟨fun h=>by omega,fun h=>absurd h.2.1 h1⟩
 ·rw [if_neg h0];exact ⟨fun h=>by omega,fun h=>absurd h.1 h0⟩
theorem isCur_eq (s:ByteArray):Qam s=QfM s:=by
 rw [Bool.eq_iff_iff];unfold Qam QfM;simp only [Bool.and_eq_true,beq_iff_eq,decide_eq_true_eq];constructor
 ·rintro ⟨h,h'⟩;rw [h] at h';exact ⟨h,(Qhb s h).1 h'⟩
 ·rintro ⟨h,h'⟩;refine ⟨h,?_⟩;rw [h];exact (Qhb s h).2 h'
def QgR (s:ByteArray) (k:Nat):Prop:=65≤(s.get! k).toNat∧(s.get! k).toNat≤90
theorem Qgb (s:ByteArray):QfM s=true↔s.size=3∧QgR s 0∧QgR s 1∧QgR s 2:=by
 unfold QfM QgR;simp only [Bool.and_eq_true,beq_iff_eq,decide_eq_true_eq]
theorem refCur_any (s:ByteArray) (w:World) :
  Calls prog 54 #[.string s] w fun e w'=>e=.returned (.bool (Qam s))∧w'=w:=by
 rw [isCur_eq];by_cases h:s.size=3
 ·have h':((s.size:Int) != 3)=false:=by simp;omega
  obtain ⟨res,hres⟩:∃ res,QfM s=res:=⟨_,rfl⟩;have Hres:Hid (QfM s=res):=hres;rw [hres];clear hres;go_enter func54,ntmps54
  go_wp2;go_loop [3] (fun i=>∃ k:Nat,k≤3∧i=.int .i64 k∧Hid (∀ j,j<k→QgR s j)) (fun i=>3 - (RowKit.intOf i).toNat)
  case atStart=>exact ⟨0,by omega,rfl,fun j hj=>absurd hj (Nat.not_lt_zero _)⟩
  case round=>
   obtain ⟨k,hk,rfl,Hk⟩:=hrel;by_cases hlt:k<3
   ·have i0:(0:Int)≤k:=by omega
    have i1:(k:Int)<3:=by omega
    have i2:(k:Int)<s.size:=by omega
    have hks:k<s.size:=by omega
    obtain ⟨c,hc⟩:∃ c,(s[k]'hks).toNat=c:=⟨_,rfl⟩;have hgood:QgR s k↔65≤c∧c≤90:=by
     unfold QgR
     have:s.get! k=s[k]'hks:=by
      show s.data[k]! = s.data[k]'hks;exact getElem!_pos s.data k hks
     rw [this,hc]
    have Hg:Hid (QgR s k↔65≤c∧c≤90):=hgood;clear hgood;have bad:¬ (65≤c∧c≤90)→res=false:=fun hn=>by
     rw [← Hres.out];cases hcb:QfM s
     ·rfl
     ·obtain ⟨_,q0,q1,q2⟩:=(Qgb s).1 hcb
      have:QgR s k:=by
       rcases (by omega:k=0∨k=1∨k=2) with rfl | rfl | rfl
       ·exact q0
       ·exact q1
       ·exact q2
      exact absurd (Hg.out.1 this) hn
    by_cases h65:(c:Int)<65
    ·have e1:=bad (by omega)
     subst e1;clear bad;go_wp2;go_ret;exact ⟨rfl,rfl⟩
    by_cases h90:90<(c:Int)
    ·have e1:=bad (by omega)
     subst e1;clear bad;go_wp2;go_ret;exact ⟨rfl,rfl⟩
    clear bad;have HN:Hid (∀ j,j<k+1→QgR s j):=fun j hj=>by
     rcases (by omega:j<k∨j=k) with h' | rfl
     ·exact Hk.out j h'
     ·exact Hg.out.2 (by omega)
    go_wp2;go_round
    case rel=>exact ⟨k+1,by omega,by go_num,HN⟩
    case measure=>simp [RowKit.intOf];omega
   ·have:k=3:=by omega
    subst this;have e1:res=true:=by rw [← Hres.out,Qgb];exact ⟨h,Hk.out 0 (by omega),Hk.out 1 (by omega),Hk.out 2 (by omega)⟩
    subst e1;go_wp2;go_ret;exact ⟨rfl,rfl⟩
 ·have h':((s.size:Int) != 3)=true:=by simp;omega
  have e1:QfM s=false:=by
   cases hc:QfM s
   ·rfl
   ·exact absurd ((Qgb s).1 hc).1 h
  rw [e1];go_enter func54,ntmps54
  go_wp2;go_ret;exact ⟨rfl,rfl⟩
theorem period_any (n:Int) (w:World) :
  Calls prog 52 #[.int .i64 n] w fun e w'=>e=.returned (.bool (Qak n 120))∧w'=w:=by
 by_cases h:1≤n
 ·have e1:Qak n 120=decide (n≤120):=by simp [Qak,h]
  rw [e1];go_enter func52,ntmps52
  go_wp2;go_ret;exact ⟨rfl,rfl⟩
 ·have e1:Qak n 120=false:=by simp [Qak,h]
  rw [e1];go_enter func52,ntmps52
  go_wp2;go_ret;exact ⟨rfl,rfl⟩
theorem entity_any (n:Int) (w:World) :
  Calls prog 51 #[.int .i64 n] w fun e w'=>e=.returned (.bool (Qak n 12))∧w'=w:=by
 by_cases h:1≤n
 ·have e1:Qak n 12=decide (n≤12):=by simp [Qak,h]
  rw [e1];go_enter func51,ntmps51
  go_wp2;go_ret;exact ⟨rfl,rfl⟩
 ·have e1:Qak n 12=false:=by simp [Qak,h]
  rw [e1];go_enter func51,ntmps51
  go_wp2;go_ret;exact ⟨rfl,rfl⟩
end
section
open Go.RowKit Go.Lib Go.Proofs.Tryz
theorem memE_iff {code:ByteArray} {l:List ByteArray}:Qhr code l=true↔code∈l:=by
 unfold Qhr;rw [List.any_eq_true];constructor
 ·rintro ⟨x,hx,e⟩
  have:=of_decide_eq_true e
  rw [← this];exact hx
 ·intro h;exact ⟨code,h,by simp⟩
theorem leaf_mem {c:List Ac} {code:ByteArray} (h:¬ QcX (Qag code) c<0):Qhr code (lvs c)=decide (QcX (QbL code) c<0):=by
 rw [Bool.eq_iff_iff,memE_iff,decide_eq_true_eq];unfold lvs;rw [List.mem_map];constructor
 ·rintro ⟨a,ha,rfl⟩
  have:=(List.mem_filter.1 ha).2
  unfold QeP at this;exact of_decide_eq_true this
 ·intro hp;obtain ⟨j,hj,_,hj2,_⟩:=QdV (p:=Qag code) (l:=c) (by omega)
  have hc:(c.getD j ac0).code=code:=of_decide_eq_true hj2;refine ⟨c.getD j ac0,List.mem_filter.2 ⟨?_,?_⟩,hc⟩
  ·rw [List.getD_eq_getElem?_getD,List.getElem?_eq_getElem hj];exact List.getElem_mem hj
  ·unfold QeP;rw [hc];exact decide_eq_true hp
theorem Qh3 (c:List Ac) (code:ByteArray):Qaa c code=if QcX (Qag code) c<0 then 6 else if QcX (QbL code) c<0 then 0 else 12:=by
 unfold Qaa;by_cases h1:QcX (Qag code) c<0
 ·rw [if_pos h1,if_pos h1]
 ·rw [if_neg h1,if_neg h1,leaf_mem h1];by_cases h2:QcX (QbL code) c<0
  ·rw [decide_eq_true h2];simp [h2]
  ·rw [decide_eq_false h2];simp [h2]
set_option maxHeartbeats 1000000 in
theorem refLeafE_any (a:Option Addr) (cap:Nat) (l:List Ac) (c:ByteArray) (w:World) (h:QbJ w a l cap) (hlen:l.length≤60) :
  Calls prog 53 #[.slice a l.length cap,.string c] w fun e w'=>e=.returned (.int .i64 (Qaa l c))∧w'=w:=by
 have Hlen:(l.length:Int)≤60:=by omega
 have HA:=Qhg a cap l c w (by omega) h
 by_cases h1:QcX (Qag c) l<0
 ·have er:Qaa l c=6:=by rw [Qh3,if_pos h1]
  rw [er];generalize QcX (Qag c) l=r at *
  have HHA:Hid (Calls _ _ _ _ _):=HA;clear HA h er;go_enter func53,ntmps53
  go_wp2_with (go_at_call 20;refine HHA.out.mono ?_;rintro e w' ⟨rfl,rfl⟩);go_ret;exact ⟨rfl,rfl⟩
 obtain ⟨j,hj,ej,_,_⟩:=QdV (p:=Qag c) (l:=l) (by omega)
 rw [ej] at HA;rcases h.lies with h1' | ⟨b,off,rfl,hlt,hc⟩
 ·rw [h1'] at hj;simp at hj
 have Hc:Hid (Qfl w b off l):=hc;obtain ⟨res,hres⟩:∃ res,Qaa l c=res:=⟨_,rfl⟩;have Hres:Hid ((if decide (QbE (QbL c) 0 (l.drop 0)<0)=true then (0:Int) else 12)=res):=by
  unfold Hid;rw [← hres,Qh3,if_neg h1];by_cases h2:QcX (QbL c) l<0
  ·rw [if_pos h2];exact if_pos (decide_eq_true h2)
  ·rw [if_neg h2];exact if_neg (by rw [decide_eq_true_eq];exact h2)
 rw [hres];clear hres h hc h1 ej;have i0:(0:Int)≤j:=by omega
 have HHA:Hid (Calls _ _ _ _ _):=HA;clear HA;go_enter func53,ntmps53
 go_wp2_with (go_at_call 20;refine HHA.out.mono ?_;rintro e w' ⟨rfl,rfl⟩);go_loop [6] (fun s6=>∃ k:Nat,k≤l.length∧s6=.int .i64 k∧Hid ((if decide (QbE (QbL c) k (l.drop k)<0)=true then (0:Int) else 12)=res)) (fun s6=>l.length - (RowKit.intOf s6).toNat)
 case atStart=>exact ⟨0,Nat.zero_le _,rfl,Hres⟩
 case round=>
  obtain ⟨k,hk,rfl,H⟩:=hrel;by_cases hlt2:k<l.length
  ·have hn:=Hc.out k hlt2;have E:=H.out;rw [Qfq l k hlt2,QbE] at E;clear H;generalize l.getD k ac0=x at *
   obtain ⟨x0,x1,x2,x3,x4⟩:=x;obtain ⟨c0,c1,c2,c3,c4⟩:=hn;simp only at c0 c1 c2 c3 c4;have k0:(0:Int)≤k:=by omega
   have k1:(k:Int)<l.length:=by omega
   by_cases hx:x3=c
   ·rw [if_pos (by simp [QbL,hx]:QbL c ⟨x0,x1,x2,x3,x4⟩=true)] at E
    have er:res=12:=by
     rw [← E,if_neg];simp
    subst er;subst hx;clear E;go_wp2;go_ret;exact ⟨rfl,rfl⟩
   ·have hx':=QeB hx;rw [if_neg (by simp [QbL,hx]:¬ QbL c ⟨x0,x1,x2,x3,x4⟩=true)] at E
    have HN:Hid (_=res):=E;clear E;go_wp2;go_round
    case rel=>exact ⟨k+1,by omega,by go_num,HN⟩
    case measure=>simp [RowKit.intOf];omega
  ·have hk2:k=l.length:=by omega
   subst hk2;have er:res=0:=by
    rw [← H.out,List.drop_length,if_pos];simp [QbE]
   subst er;go_wp2;go_ret;exact ⟨rfl,rfl⟩
end
end Go.Proofs.YtibhgngboljhfaaGreatDoor
