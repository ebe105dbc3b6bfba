/-
  Part of a proof (see the last text).
-/
import Derived.Test.YtbeanioeeaikkaaGreatDoorZm36
set_option linter.unusedVariables false
set_option linter.unusedSimpArgs false
set_option maxRecDepth 100000
namespace Go.Proofs.YtbeanioeeaikkaaGreatDoor
section
open Go.RowKit Go.Lib Go.Proofs.Tryz
theorem get_at (s:ByteArray) (k:Nat) (h:k<s.size):s.get! k=s[k]'h:=by
 show s.data[k]! = s.data[k]'h;exact getElem!_pos s.data k h
theorem refDigits_any (s:ByteArray) (most:Nat) (w:World) (hs:s.size≤maxLen) :
  Calls prog 149 #[.string s,.int .i64 most] w fun e w'=>e=.returned (.bool (Qbu Qda most s))∧w'=w:=by
 unfold maxLen at hs;by_cases h0:s.size=0
 ·have e0:=QfF h0;have e1:Qbu Qda most s=false:=by simp [Qbu,h0]
  rw [e1];go_enter func149,ntmps149
  go_wp2;go_ret;exact ⟨rfl,rfl⟩
 have e0:=Qf9 h0;have e0':s.toList.isEmpty=false:=by simpa using e0
 by_cases h1:s.size≤most
 ·have h1':decide ((most:Int)<s.size)=false:=by simp;omega
  have h1'':¬ ((most:Int)<s.size):=by omega
  obtain ⟨res,hres⟩:∃ res,Qbu Qda most s=res:=⟨_,rfl⟩;have Hres:Hid (Qbu Qda most s=res):=hres;rw [hres];clear hres;go_enter func149,ntmps149
  go_wp2;go_loop [5] (fun i=>∃ k:Nat,k≤s.size∧i=.int .i64 k∧Hid (∀ j,j<k→Qda (s.get! j).toNat=true)) (fun i=>s.size - (RowKit.intOf i).toNat)
  case atStart=>exact ⟨0,Nat.zero_le _,rfl,fun j hj=>absurd hj (Nat.not_lt_zero _)⟩
  case round=>
   obtain ⟨k,hk,rfl,Hk⟩:=hrel;by_cases hlt:k<s.size
   ·have i0:(0:Int)≤k:=by omega
    have i1:(k:Int)<s.size:=by omega
    obtain ⟨c,hc⟩:∃ c,(s[k]'hlt).toNat=c:=⟨_,rfl⟩;have Hg:Hid (Qda (s.get! k).toNat=Qda c):=by unfold Hid;rw [get_at s k hlt,hc]
    have bad:Qda c=false→res=false:=fun hb=>by
     rw [← Hres.out];cases hm:Qbu Qda most s
     ·rfl
     ·have:=((Qei (fun r=>digR_low)).1 hm).2.2 k hlt
      rw [Hg.out,hb] at this;cases this
    by_cases h48:(c:Int)<48
    ·have e1:=bad (by simp [Qda];omega)
     subst e1;clear bad;go_wp2;go_ret;exact ⟨rfl,rfl⟩
    by_cases h57:57<(c:Int)
    ·have e1:=bad (by simp [Qda];omega)
     subst e1;clear bad;go_wp2;go_ret;exact ⟨rfl,rfl⟩
    have HN:Hid (∀ j,j<k+1→Qda (s.get! j).toNat=true):=fun j hj=>by
     rcases (by omega:j<k∨j=k) with h' | rfl
     ·exact Hk.out j h'
     ·rw [Hg.out];simp [Qda];omega
    clear bad;go_wp2;go_round
    case rel=>exact ⟨k+1,by omega,by go_num,HN⟩
    case measure=>simp [RowKit.intOf];omega
   ·have hk2:k=s.size:=by omega
    have er:res=true:=by
     rw [← Hres.out];exact (Qei (fun r=>digR_low)).2 ⟨h0,h1,fun i hi=>Hk.out i (by omega)⟩
    subst er;go_wp2;go_ret;exact ⟨rfl,rfl⟩
 ·have h1':decide ((most:Int)<s.size)=true:=by simp;omega
  have h1'':(most:Int)<s.size:=by omega
  have e1:Qbu Qda most s=false:=by simp [Qbu,h1]
  rw [e1];go_enter func149,ntmps149
  go_wp2;go_ret;exact ⟨rfl,rfl⟩
theorem leB_ge {a b:ByteArray} (h:leB a b=true):Op.bytesLess b.toList a.toList=false:=by
 cases hb:Op.bytesLess b.toList a.toList
 ·rfl
 ·unfold leB at h;rw [Bool.or_eq_true,beq_iff_eq] at h;rcases h with h | h
  ·have:=Qgh _ _ _ h hb
   rw [Qeb] at this;cases this
  ·rw [h,Qeb] at hb;cases hb
theorem leB_lt {a b:ByteArray} (h:¬ leB a b=true):Op.bytesLess b.toList a.toList=true:=by
 unfold leB at h;rw [Bool.or_eq_true,beq_iff_eq,not_or] at h;exact Qgl _ _ (by simpa using h.1) h.2
set_option maxHeartbeats 4000000 in
theorem QiA (b off cap i:Nat) (l:List Ac) (w:World) (hi:i<l.length) (hlen:l.length≤1000) (hcap:l.length≤cap) (hb:b<w.heap.size) (hc:Qfg w b off l) (hsz:(l.getD i ac0).code.size≤maxLen∧(l.getD i ac0).name.size≤maxLen) :
  Calls prog 96 #[.slice (some ⟨b,off,none⟩) l.length cap,.int .i64 (i:Nat)] w fun e w'=>e=.returned (.int .i64 (Qax (l.take i) (l.getD i ac0)))∧Below w.heap.size w w':=by
 have hx:=hc i hi;have hn:=AcAt.new w (l.getD i ac0) 60;have b0:Below w.heap.size w (w.alloc (.cells (l.getD i ac0).cells 60)):=(Below.refl _ w).alloc (Nat.le_refl _) _;have HA:Hid (∀ W,Below w.heap.size w W→Calls prog 20 #[.slice (some ⟨b,off,none⟩) i cap,.string (l.getD i ac0).par] W fun e w'=>e=.returned (.int .i64 (QcO (Qah (l.getD i ac0).par) (l.take i)))∧w'=W):=fun W hW=>by
  have h2:QbS W (some ⟨b,off,none⟩) (l.take i) cap:=(QbS.below ⟨hcap,.inr ⟨b,off,rfl,hb,hc⟩⟩ hW).take i
  have:=Qhz (some ⟨b,off,none⟩) cap (l.take i) (l.getD i ac0).par W (by simp;omega) h2
  rw [show (l.take i).length=i by simp;omega] at this
  exact this
 have Hc:Hid (∀ W,Below w.heap.size w W→∀ k,k<l.length→AcAt W b (off+k*5) (l.getD k ac0)):=fun W hW k hk=>(hc k hk).below hW hb
 have Htk:Hid (∀ k,k<i→(l.take i).getD k ac0=l.getD k ac0):=fun k hk=>take_getD l i k hk
 have hli:(l.take i).length=i:=by simp;omega
 obtain ⟨res,hres⟩:∃ res,Qax (l.take i) (l.getD i ac0)=res:=⟨_,rfl⟩;have Hres:Hid (Qax (l.take i) (l.getD i ac0)=res):=hres;rw [hres];clear hres hc;have Hlen:(l.length:Int)≤1000:=by omega
 have j0:(0:Int)≤i:=by omega
 have j1:(i:Int)<l.length:=by omega
 have j2:(i:Int)≤cap:=by omega
 generalize l.getD i ac0=x at *
 obtain ⟨x0,x1,x2,x3,x4⟩:=x;obtain ⟨s1,s2⟩:=hsz;simp only [Ac.cells] at hn b0 HA s1 s2;obtain ⟨c0,c1,c2,c3,c4⟩:=hx;obtain ⟨d0,d1,d2,d3,d4⟩:=hn;simp only [Nat.zero_add] at c0 c1 c2 c3 c4 d0 d1 d2 d3 d4;have S1:Hid (x0.size≤maxLen):=s1;clear s1 s2;go_enter func96,ntmps96
 go_wp2_with fail;refine (refDigits_any x0 6 _ S1.out).mono ?_;rintro e w' ⟨rfl,hw⟩;rw [hw];clear hw w' c0 c1 c2 c3 c4;cases h1:Qbu Qda 6 x0
 ·have er:res=2:=by rw [← Hres.out];simp [Qax,Qe0,h1]
  subst er;go_wp2;go_ret;exact ⟨rfl,b0⟩
 by_cases hn0:x1.size=0
 ·have e0:=QfF hn0;have e0':x1.toList.isEmpty=true:=by rw [e0];rfl
  have er:res=2:=by rw [← Hres.out];simp [Qax,Qdj,Qbu,hn0]
  subst er;go_wp2;go_ret;exact ⟨rfl,b0⟩
 have e0:=Qf9 hn0;have e0':x1.toList.isEmpty=false:=by simpa using e0
 by_cases h24:24<(x1.size:Int)
 ·have er:res=2:=by rw [← Hres.out];unfold Qax;rw [if_pos];right;simp [Qdj,Qbu];omega
  subst er;go_wp2;go_ret;exact ⟨rfl,b0⟩
 go_wp2;go_loop [7] (fun i=>∃ k:Nat,k≤x1.size∧i=.int .i64 k∧Hid (∀ j,j<k→Qey (x1.get! j).toNat=true)) (fun i=>x1.size - (RowKit.intOf i).toNat)
 case atStart=>exact ⟨0,Nat.zero_le _,rfl,fun j hj=>absurd hj (Nat.not_lt_zero _)⟩
 case round=>
  obtain ⟨k,hk,rfl,Hk⟩:=hrel;by_cases hlt:k<x1.size
  ·have i0:(0:Int)≤k:=by omega
   have i1:(k:Int)<x1.size:=by omega
   obtain ⟨c,hc⟩:∃ c,(x1[k]'hlt).toNat=c:=⟨_,rfl⟩;have Hg:Hid (Qey (x1.get! k).toNat=Qey c):=by unfold Hid;rw [get_at x1 k hlt,hc]
   have bad:Qey c=false→res=2:=fun hb=>by
    rw [← Hres.out];unfold Qax;rw [if_pos]
    right
    cases hm:Qdj x1
    ·rfl
    ·have:=((Qei (fun r=>namR_low)).1 hm).2.2 k hlt
     rw [Hg.out,hb] at this;cases this
   have QgU:Qey c=true→Hid (∀ j,j<k+1→Qey (x1.get! j).toNat=true):=fun hb j hj=>by
    rcases (by omega:j<k∨j=k) with h' | rfl
    ·exact Hk.out j h'
    ·rw [Hg.out];exact hb
   rcases (by omega:c≤44∨c=45∨46≤c∧c≤47∨48≤c∧c≤57∨58≤c∧c≤64∨65≤c∧c≤90∨91≤c∧c≤96∨97≤c∧c≤122∨123≤c) with hcl | hcl | hcl | hcl | hcl | hcl | hcl | hcl | hcl
   ·have er:=bad (by simp [Qey,Qda];omega)
    subst er;have t0:((c:Int) != 45)=true:=by simp;omega
    have t1:decide ((c:Int)<48)=true:=by simp;omega
    have t2:decide (57<(c:Int))=false:=by simp;omega
    have t3:decide ((c:Int)<65)=true:=by simp;omega
    have t4:decide (90<(c:Int))=false:=by simp;omega
    have t5:decide ((c:Int)<97)=true:=by simp;omega
    have t6:decide (122<(c:Int))=false:=by simp;omega
    clear bad QgU hcl;go_wp2;go_ret;exact ⟨rfl,b0⟩
   ·have HN:=QgU (by simp [Qey,Qda];omega)
    have t0:((c:Int) != 45)=false:=by simp;omega
    have t1:decide ((c:Int)<48)=true:=by simp;omega
    have t2:decide (57<(c:Int))=false:=by simp;omega
    have t3:decide ((c:Int)<65)=true:=by simp;omega
    have t4:decide (90<(c:Int))=false:=by simp;omega
    have t5:decide ((c:Int)<97)=true:=by simp;omega
    have t6:decide (122<(c:Int))=false:=by simp;omega
    clear bad QgU hcl;go_wp2;go_round
    case rel=>exact ⟨k+1,by omega,by go_num,HN⟩
    case measure=>simp [RowKit.intOf];omega
   ·have er:=bad (by simp [Qey,Qda];omega)
    subst er;have t0:((c:Int) != 45)=true:=by simp;omega
    have t1:decide ((c:Int)<48)=true:=by simp;omega
    have t2:decide (57<(c:Int))=false:=by simp;omega
    have t3:decide ((c:Int)<65)=true:=by simp;omega
    have t4:decide (90<(c:Int))=false:=by simp;omega
    have t5:decide ((c:Int)<97)=true:=by simp;omega
    have t6:decide (122<(c:Int))=false:=by simp;omega
    clear bad QgU hcl;go_wp2;go_ret;exact ⟨rfl,b0⟩
   ·have HN:=QgU (by simp [Qey,Qda];omega)
    have t0:((c:Int) != 45)=true:=by simp;omega
    have t1:decide ((c:Int)<48)=false:=by simp;omega
    have t2:decide (57<(c:Int))=false:=by simp;omega
    have t3:decide ((c:Int)<65)=true:=by simp;omega
    have t4:decide (90<(c:Int))=false:=by simp;omega
    have t5:decide ((c:Int)<97)=true:=by simp;omega
    have t6:decide (122<(c:Int))=false:=by simp;omega
    clear bad QgU hcl;go_wp2;go_round
    case rel=>exact ⟨k+1,by omega,by go_num,HN⟩
    case measure=>simp [RowKit.intOf];omega
   ·have er:=bad (by simp [Qey,Qda];omega)
    subst er;have t0:((c:Int) != 45)=true:=by simp;omega
    have t1:decide ((c:Int)<48)=false:=by simp;omega
    have t2:decide (57<(c:Int))=true:=by simp;omega
    have t3:decide ((c:Int)<65)=true:=by simp;omega
    have t4:decide (90<(c:Int))=false:=by simp;omega
    have t5:decide ((c:Int)<97)=true:=by simp;omega
    have t6:decide (122<(c:Int))=false:=by simp;omega
    clear bad QgU hcl;go_wp2;go_ret;exact ⟨rfl,b0⟩
   ·have HN:=QgU (by simp [Qey,Qda];omega)
    have t0:((c:Int) != 45)=true:=by simp;omega
    have t1:decide ((c:Int)<48)=false:=by simp;omega
    have t2:decide (57<(c:Int))=true:=by simp;omega
    have t3:decide ((c:Int)<65)=false:=by simp;omega
    have t4:decide (90<(c:Int))=false:=by simp;omega
    have t5:decide ((c:Int)<97)=true:=by simp;omega
    have t6:decide (122<(c:Int))=false:=by simp;omega
    clear bad QgU hcl;go_wp2;go_round
    case rel=>exact ⟨k+1,by omega,by go_num,HN⟩
    case measure=>simp [RowKit.intOf];omega
   ·have er:=bad (by simp [Qey,Qda];omega)
    subst er;have t0:((c:Int) != 45)=true:=by simp;omega
    have t1:decide ((c:Int)<48)=false:=by simp;omega
    have t2:decide (57<(c:Int))=true:=by simp;omega
    have t3:decide ((c:Int)<65)=false:=by simp;omega
    have t4:decide (90<(c:Int))=true:=by simp;omega
    have t5:decide ((c:Int)<97)=true:=by simp;omega
    have t6:decide (122<(c:Int))=false:=by simp;omega
    clear bad QgU hcl;go_wp2;go_ret;exact ⟨rfl,b0⟩
   ·have HN:=QgU (by simp [Qey,Qda];omega)
    have t0:((c:Int) != 45)=true:=by simp;omega
    have t1:decide ((c:Int)<48)=false:=by simp;omega
    have t2:decide (57<(c:Int))=true:=by simp;omega
    have t3:decide ((c:Int)<65)=false:=by simp;omega
    have t4:decide (90<(c:Int))=true:=by simp;omega
    have t5:decide ((c:Int)<97)=false:=by simp;omega
    have t6:decide (122<(c:Int))=false:=by simp;omega
    clear bad QgU hcl;go_wp2;go_round
    case rel=>exact ⟨k+1,by omega,by go_num,HN⟩
    case measure=>simp [RowKit.intOf];omega
   ·have er:=bad (by simp [Qey,Qda];omega)
    subst er;have t0:((c:Int) != 45)=true:=by simp;omega
    have t1:decide ((c:Int)<48)=false:=by simp;omega
    have t2:decide (57<(c:Int))=true:=by simp;omega
    have t3:decide ((c:Int)<65)=false:=by simp;omega
    have t4:decide (90<(c:Int))=true:=by simp;omega
    have t5:decide ((c:Int)<97)=false:=by simp;omega
    have t6:decide (122<(c:Int))=true:=by simp;omega
    clear bad QgU hcl;go_wp2;go_ret;exact ⟨rfl,b0⟩
  ·have hk2:k=x1.size:=by omega
   have hnm:Qdj x1=true:=(Qei (fun r=>namR_low)).2 ⟨hn0,by omega,fun i hi=>Hk.out i (by omega)⟩
   have hcd:Qe0 x0=true:=h1;clear hk2 Hk;by_cases h3:x2<1
   ·have er:res=1:=by rw [← Hres.out];simp [Qax,hcd,hnm,h3]
    subst er;go_wp2;go_ret;exact ⟨rfl,b0⟩
   by_cases h4:5<x2
   ·have er:res=1:=by rw [← Hres.out];simp [Qax,hcd,hnm,h4]
    subst er;go_wp2;go_ret;exact ⟨rfl,b0⟩
   have er:res=if (l.take i).length≠0∧leB x0 ((l.take i).getD ((l.take i).length - 1) ac0).code=true then 5 else QbR (l.take i) ⟨x0,x1,x2,x3,x4⟩:=by
    rw [← Hres.out];unfold Qax;rw [if_neg (by simp [hcd,hnm]),if_neg (by simp;omega)]
   rw [hli] at er;have ER:Hid (res=if i≠0∧leB x0 ((l.take i).getD (i - 1) ac0).code=true then 5 else QbR (l.take i) ⟨x0,x1,x2,x3,x4⟩):=er
   clear er Hres hcd hnm hli h24 hn0 e0 e0' h1;have par:res=QbR (l.take i) ⟨x0,x1,x2,x3,x4⟩→∃ kk,res=kk∧((x3.size=0∧kk=0)∨(x3.size≠0∧QcO (Qah x3) (l.take i)<0∧kk=6)∨∃ m:Nat,x3.size≠0∧QcO (Qah x3) (l.take i)=(m:Int)∧m<i∧((kk=12∧(l.getD m ac0).kind≠x2)∨(kk=0∧(l.getD m ac0).kind=x2))):=fun e=>by
    refine ⟨_,rfl,?_⟩;rw [e];unfold QbR;by_cases p0:x3.size=0
    ·exact .inl ⟨p0,if_pos p0⟩
    ·rw [if_neg p0];by_cases p1:QcO (Qah x3) (l.take i)<0
     ·exact .inr (.inl ⟨p0,p1,if_pos p1⟩)
     ·rw [if_neg p1];obtain ⟨m,hm,em,_,_⟩:=QdH (p:=Qah x3) (l:=l.take i) (by omega)
      have hmi:m<i:=by simp only [List.length_take] at hm;omega
      refine .inr (.inr ⟨m,p0,em,hmi,?_⟩);rw [em,Int.toNat_natCast,Htk.out m hmi];by_cases p2:(l.getD m ac0).kind=x2
      ·exact .inr ⟨by simp only;rw [if_neg (fun h=>h p2)],p2⟩
      ·exact .inl ⟨by simp only;rw [if_pos p2],p2⟩
   have Hpar:Hid (res=QbR (l.take i) ⟨x0,x1,x2,x3,x4⟩→_):=par;clear par;by_cases hi0:i=0
   ·subst hi0;obtain ⟨kk,rfl,hkk⟩:=Hpar.out (by rw [ER.out,if_neg (fun h=>h.1 rfl)])
    clear Hpar ER;rcases hkk with ⟨p0,e⟩ | ⟨p0,p1,e⟩ | ⟨m,p0,em,hm,_⟩
    ·have p0':=QfF p0;subst e;go_wp2_with fail;go_quiet (fail)
     go_wp2;go_ret;exact ⟨rfl,Qam b0 _⟩
    ·have p0':=Qf9 p0;have p0'':x3.toList.isEmpty=false:=by simpa using p0'
     subst e;go_wp2_with fail;go_quiet (fail)
     go_wp2_with fail;go_region_with (go_at_call 20;refine (HA.out _ (Qam b0 _).drew).mono ?_;rintro e w' ⟨rfl,rfl⟩)
     all_goals
      go_wp2;go_ret
      first | exact ⟨rfl,(Qam b0 _).drew⟩ | exact ⟨rfl,Qam b0 _⟩ | exact ⟨rfl,Qam (Qam b0 _).drew _⟩
    ·omega
   ·obtain ⟨q,hq⟩:∃ q,i=q+1:=⟨i - 1,by omega⟩
    have hp:=(Hc.out _ b0 q (by omega)).c0
    have hcq:(l.take i).getD (i - 1) ac0=l.getD q ac0:=by rw [show i - 1=q by omega];exact Htk.out q (by omega)
    rw [hcq] at ER;have HcL:Hid (∀ m,m<i→(w.alloc (.cells #[.string x0,.string x1,.int .i64 x2,.string x3,.bool x4] 60)).cell? ⟨b,off+m*5+2,none⟩=some (.int .i64 (l.getD m ac0).kind)):=fun m hm=>(Hc.out _ b0 m (by omega)).c2
    clear hcq;subst hq;generalize (l.getD q ac0).code=y0 at *
    have hq0:(0:Int)≤q:=by omega
    have hqw:IntKind.i64.wrap (q:Int)=q:=by rw [IntKind.wrap_i64];omega
    have hq1:(q:Int)<l.length:=by omega
    by_cases hle:leB x0 y0=true
    ·have er:res=5:=by rw [ER.out,if_pos ⟨by omega,hle⟩]
     subst er;have hge:Op.bytesLess y0.toList x0.toList=false:=leB_ge hle;clear Hpar ER;go_wp2_with fail;go_quiet (fail)
     go_wp2;go_ret;exact ⟨rfl,Qam b0 _⟩
    ·have hge:Op.bytesLess y0.toList x0.toList=true:=leB_lt hle;obtain ⟨kk,rfl,hkk⟩:=Hpar.out (by rw [ER.out,if_neg (fun h=>hle h.2)])
     clear Hpar ER;rcases hkk with ⟨p0,e⟩ | ⟨p0,p1,e⟩ | ⟨m,p0,em,hm,he⟩
     ·have p0':=QfF p0;subst e;go_wp2_with fail;go_quiet (fail)
      go_wp2;go_ret;exact ⟨rfl,Qam b0 _⟩
     ·have p0':=Qf9 p0;have p0'':x3.toList.isEmpty=false:=by simpa using p0'
      subst e;go_wp2_with fail;go_quiet (fail)
      go_wp2_with fail;go_region_with (go_at_call 20;refine (HA.out _ (Qam b0 _).drew).mono ?_;rintro e w' ⟨rfl,rfl⟩)
      all_goals
       go_wp2;go_ret
       first | exact ⟨rfl,(Qam b0 _).drew⟩ | exact ⟨rfl,Qam b0 _⟩ | exact ⟨rfl,Qam (Qam b0 _).drew _⟩
     ·have p0':=Qf9 p0;have p0'':x3.toList.isEmpty=false:=by simpa using p0'
      have hk2:=HcL.out m hm;have hA:=fun W hW=>HA.out W hW
      rw [em] at hA;have HHA:Hid (∀ W,_):=hA;clear hA HA em HcL;generalize (l.getD m ac0).kind=y2 at *
      have m0:(0:Int)≤m:=by omega
      have m1:(m:Int)<l.length:=by omega
      rcases he with ⟨e,hne⟩ | ⟨e,heq⟩
      ·subst e;have hne':(y2 != x2)=true:=by simp [hne]
       go_wp2_with fail;go_quiet (fail)
       go_wp2_with fail;go_region_with (go_at_call 20;refine (HHA.out _ (Qam b0 _).drew).mono ?_;rintro e w' ⟨rfl,rfl⟩)
       all_goals
        go_wp2_with fail;go_quiet (fail)
        go_wp2;go_ret
        first | exact ⟨rfl,(Qam b0 _).drew⟩ | exact ⟨rfl,Qam b0 _⟩ | exact ⟨rfl,Qam (Qam b0 _).drew _⟩
      ·subst e;subst heq;go_wp2_with fail;go_quiet (fail)
       go_wp2_with fail;go_region_with (go_at_call 20;refine (HHA.out _ (Qam b0 _).drew).mono ?_;rintro e w' ⟨rfl,rfl⟩)
       all_goals
        go_wp2_with fail;go_quiet (fail)
        go_wp2;go_ret
        first | exact ⟨rfl,(Qam b0 _).drew⟩ | exact ⟨rfl,Qam b0 _⟩ | exact ⟨rfl,Qam (Qam b0 _).drew _⟩
end
section
open Go.RowKit Go.Lib Go.Proofs.Tryz
end
section
open Go.RowKit Go.Lib Go.Proofs.Tryz
theorem refChart_full (a:Option Addr) (len cap:Nat) (w:World) (h:60<len) :
  Calls prog 49 #[.slice a len cap] w fun e w'=>e=.returned (.int .i64 4)∧Below w.heap.size w w':=by
 have h':(60:Int)<len:=by omega
 go_enter func49,ntmps49
 go_wp2;go_ret;exact ⟨rfl,Below.refl _ _⟩
theorem refChart_none (a:Option Addr) (cap:Nat) (w:World) :
  Calls prog 49 #[.slice a 0 cap] w fun e w'=>e=.returned (.int .i64 0)∧Below w.heap.size w w':=by
 go_enter func49,ntmps49
 go_wp2;refine wp_loop_rounds 1 ?_;rw [rounds_succ];go_wp2;go_ret;exact ⟨rfl,Below.refl _ _⟩
set_option maxHeartbeats 2000000 in
theorem refChart_some (b off cap:Nat) (l:List Ac) (w:World) (hb:b<w.heap.size) (hlen:l.length≤60) (hcap:l.length≤cap) (hc:Qfg w b off l) (hok:∀ k,k<l.length→(l.getD k ac0).code.size≤maxLen∧(l.getD k ac0).name.size≤maxLen) :
  Calls prog 49 #[.slice (some ⟨b,off,none⟩) l.length cap] w fun e w'=>e=.returned (.int .i64 (Qjf [] l))∧Below w.heap.size w w':=by
 have Hlen:(l.length:Int)≤60:=by omega
 have HA:Hid (∀ W,Below w.heap.size w W→∀ i,i<l.length→Calls prog 96 #[.slice (some ⟨b,off,none⟩) l.length cap,.int .i64 (i:Nat)] W fun e w'=>e=.returned (.int .i64 (Qax (l.take i) (l.getD i ac0)))∧Below w.heap.size w w'):=fun W hW i hi=>by
  refine (QiA b off cap i l W hi (by omega) hcap (by have:=hW.size;omega) (fun k hk=>(hc k hk).below hW hb) (hok i hi)).mono ?_
  rintro e w' ⟨rfl,hb'⟩;exact ⟨rfl,hW.trans (hb'.mono hW.size)⟩
 obtain ⟨res,hres⟩:∃ res,Qjf [] l=res:=⟨_,rfl⟩;have Hres:Hid (Qjf [] l=res):=hres;rw [hres];clear hres hc hok;go_enter func49,ntmps49
 go_wp2;go_loopw [3] (fun i wr=>∃ k:Nat,k≤l.length∧i=.int .i64 k∧Hid (Qjf (l.take k) (l.drop k)=res)∧Below w.heap.size w wr) (fun i _=>l.length - (RowKit.intOf i).toNat)
 case atStart=>exact ⟨0,Nat.zero_le _,rfl,by unfold Hid;simpa using Hres.out,Below.refl _ _⟩
 case round=>
  obtain ⟨k,hk,rfl,H,BW⟩:=hrel;by_cases hlt:k<l.length
  ·have E:Hid ((if Qax (l.take k) (l.getD k ac0)≠0 then Qax (l.take k) (l.getD k ac0) else Qjf (l.take (k+1)) (l.drop (k+1)))=res):=by
    have:=H.out
    rw [Qfl l k hlt] at this;have e2:l.take k++[l.getD k ac0]=l.take (k+1):=by
     rw [List.take_succ_eq_append_getElem hlt,List.getD_eq_getElem?_getD,List.getElem?_eq_getElem hlt];rfl
    unfold Hid;rw [← e2];exact this
   have hcall:=HA.out wr BW k hlt;generalize Qax (l.take k) (l.getD k ac0)=bad at *
   have Hcall:Hid (Calls _ _ _ _ _):=hcall;clear hcall H;by_cases hb0:bad=0
   ·subst hb0;have HN:Hid (Qjf (l.take (k+1)) (l.drop (k+1))=res):=by
     have:=E.out;rw [if_neg (by simp)] at this;exact this
    go_wp2_with fail;refine Hcall.out.mono ?_;rintro e w' ⟨rfl,hb'⟩;go_wp2;go_roundw
    case rel=>exact ⟨k+1,by omega,by go_num,HN,hb'⟩
    case measure=>simp [RowKit.intOf];omega
   ·have er:res=bad:=by rw [← E.out,if_pos hb0]
    subst er;have hb0':(res != 0)=true:=by simp [hb0]
    go_wp2_with fail;refine Hcall.out.mono ?_;rintro e w' ⟨rfl,hb'⟩;go_wp2;go_ret;exact ⟨rfl,hb'⟩
  ·have hk2:k=l.length:=by omega
   subst hk2;have er:res=0:=by rw [← H.out,List.drop_length];rfl
   subst er;go_wp2;go_ret;exact ⟨rfl,BW⟩
theorem refChart_any (a:Option Addr) (cap:Nat) (l:List Ac) (w:World) (h:QbS w a l cap) (hok:∀ k,k<l.length→(l.getD k ac0).code.size≤maxLen∧(l.getD k ac0).name.size≤maxLen) :
  Calls prog 49 #[.slice a l.length cap] w fun e w'=>e=.returned (.int .i64 (Qaw l))∧Below w.heap.size w w':=by
 unfold Qaw;by_cases h60:60<l.length
 ·rw [if_pos h60];exact refChart_full a l.length cap w h60
 ·rw [if_neg h60];rcases h.lies with rfl | ⟨b,off,rfl,hlt,hc⟩
  ·exact refChart_none a cap w
  ·exact refChart_some b off cap l w hlt (by omega) h.cap hc hok
end
section
open Go.RowKit Go.Lib Go.Proofs.Tryz
def QfM (s:ByteArray):Bool:=s.size == 3 && ((65≤(s.get! 0).toNat && (s.get! 0).toNat≤90) && ((65≤(s.get! 1).toNat && (s.get! 1).toNat≤90) && (65≤(s.get! 2).toNat && (s.get! 2).toNat≤90)))
theorem other_at (s:ByteArray) (pos f:Nat) (h:pos<s.size):QaD s (f+1) pos=if 65≤(s.get! pos).toNat∧(s.get! pos).toNat≤90 then QaD s f (pos+1) else (pos:Int):=by
 have hg:s.get! pos=s[pos]'h:=by
  show s.data[pos]! = s.data[pos]'h;exact getElem!_pos s.data pos h
 rw [hg,QaD,if_pos h];by_cases ha:(s[pos]'h).toNat<128
 ·rw [decode_ascii s pos h ha];by_cases hc:65≤(s[pos]'h).toNat∧(s[pos]'h).toNat≤90
  ·rw [if_pos hc,if_neg (by simp [other];omega)]
  ·rw [if_neg hc,if_pos (by simp [other];omega)]
 ·have hd:=(decode_high s pos h (by omega)).1
  rw [if_pos (by simp [other];omega),if_neg (by omega)]
theorem Qhn (s:ByteArray) (h:s.size=3):QaD s 3 0<0↔(65≤(s.get! 0).toNat∧(s.get! 0).toNat≤90)∧(65≤(s.get! 1).toNat∧(s.get! 1).toNat≤90)∧65≤(s.get! 2).toNat∧(s.get! 2).toNat≤90:=by
 rw [other_at s 0 2 (by omega)]
 by_cases h0:65≤(s.get! 0).toNat∧(s.get! 0).toNat≤90
 ·rw [if_pos h0,other_at s 1 1 (by omega)]
  by_cases h1:65≤(s.get! 1).toNat∧(s.get! 1).toNat≤90
  ·rw [if_pos h1,other_at s 2 0 (by omega)]
   by_cases h2:65≤(s.get! 2).toNat∧(s.get! 2).toNat≤90
   ·rw [if_pos h2];exact ⟨fun _=>⟨h0,h1,h2⟩,fun _=>by simp [QaD]⟩
   ·rw [if_neg h2];exact ⟨fun h=>by omega,fun h=>absurd h.2.2 h2⟩
  ·rw [if_neg h1];exact ⟨fun h=>by omega,fun h=>absurd h.2.1 h1⟩
 ·rw [if_neg h0];exact ⟨fun h=>by omega,fun h=>absurd h.1 h0⟩
theorem isCur_eq (s:ByteArray):Qaq s=QfM s:=by
 rw [Bool.eq_iff_iff];unfold Qaq QfM;simp only [Bool.and_eq_true,beq_iff_eq,decide_eq_true_eq];constructor
 ·rintro ⟨h,h'⟩;rw [h] at h';exact ⟨h,(Qhn s h).1 h'⟩
 ·rintro ⟨h,h'⟩;refine ⟨h,?_⟩;rw [h];exact (Qhn s h).2 h'
def QgU (s:ByteArray) (k:Nat):Prop:=65≤(s.get! k).toNat∧(s.get! k).toNat≤90
theorem Qf8 (s:ByteArray):QfM s=true↔s.size=3∧QgU s 0∧QgU s 1∧QgU s 2:=by
 unfold QfM QgU;simp only [Bool.and_eq_true,beq_iff_eq,decide_eq_true_eq]
theorem refCur_any (s:ByteArray) (w:World) :
  Calls prog 54 #[.string s] w fun e w'=>e=.returned (.bool (Qaq s))∧w'=w:=by
 rw [isCur_eq];by_cases h:s.size=3
 ·have h':((s.size:Int) != 3)=false:=by simp;omega
  obtain ⟨res,hres⟩:∃ res,QfM s=res:=⟨_,rfl⟩;have Hres:Hid (QfM s=res):=hres;rw [hres];clear hres;go_enter func54,ntmps54
  go_wp2;go_loop [3] (fun i=>∃ k:Nat,k≤3∧i=.int .i64 k∧Hid (∀ j,j<k→QgU s j)) (fun i=>3 - (RowKit.intOf i).toNat)
  case atStart=>exact ⟨0,by omega,rfl,fun j hj=>absurd hj (Nat.not_lt_zero _)⟩
  case round=>
   obtain ⟨k,hk,rfl,Hk⟩:=hrel;by_cases hlt:k<3
   ·have i0:(0:Int)≤k:=by omega
    have i1:(k:Int)<3:=by omega
    have i2:(k:Int)<s.size:=by omega
    have hks:k<s.size:=by omega
    obtain ⟨c,hc⟩:∃ c,(s[k]'hks).toNat=c:=⟨_,rfl⟩;have hgood:QgU s k↔65≤c∧c≤90:=by
     unfold QgU
     have:s.get! k=s[k]'hks:=by
      show s.data[k]! = s.data[k]'hks;exact getElem!_pos s.data k hks
     rw [this,hc]
    have Hg:Hid (QgU s k↔65≤c∧c≤90):=hgood;clear hgood;have bad:¬ (65≤c∧c≤90)→res=false:=fun hn=>by
     rw [← Hres.out];cases hcb:QfM s
     ·rfl
     ·obtain ⟨_,q0,q1,q2⟩:=(Qf8 s).1 hcb
      have:QgU s k:=by
       rcases (by omega:k=0∨k=1∨k=2) with rfl | rfl | rfl
       ·exact q0
       ·exact q1
       ·exact q2
      exact absurd (Hg.out.1 this) hn
    by_cases h65:(c:Int)<65
    ·have e1:=bad (by omega)
     subst e1;clear bad;go_wp2;go_ret;exact ⟨rfl,rfl⟩
    by_cases h90:90<(c:Int)
    ·have e1:=bad (by omega)
     subst e1;clear bad;go_wp2;go_ret;exact ⟨rfl,rfl⟩
    clear bad;have HN:Hid (∀ j,j<k+1→QgU s j):=fun j hj=>by
     rcases (by omega:j<k∨j=k) with h' | rfl
     ·exact Hk.out j h'
     ·exact Hg.out.2 (by omega)
    go_wp2;go_round
    case rel=>exact ⟨k+1,by omega,by go_num,HN⟩
    case measure=>simp [RowKit.intOf];omega
   ·have:k=3:=by omega
    subst this;have e1:res=true:=by rw [← Hres.out,Qf8];exact ⟨h,Hk.out 0 (by omega),Hk.out 1 (by omega),Hk.out 2 (by omega)⟩
    subst e1;go_wp2;go_ret;exact ⟨rfl,rfl⟩
 ·have h':((s.size:Int) != 3)=true:=by simp;omega
  have e1:QfM s=false:=by
   cases hc:QfM s
   ·rfl
   ·exact absurd ((Qf8 s).1 hc).1 h
  rw [e1];go_enter func54,ntmps54
  go_wp2;go_ret;exact ⟨rfl,rfl⟩
theorem period_any (n:Int) (w:World) :
  Calls prog 52 #[.int .i64 n] w fun e w'=>e=.returned (.bool (Qar n 120))∧w'=w:=by
 by_cases h:1≤n
 ·have e1:Qar n 120=decide (n≤120):=by simp [Qar,h]
  rw [e1];go_enter func52,ntmps52
  go_wp2;go_ret;exact ⟨rfl,rfl⟩
 ·have e1:Qar n 120=false:=by simp [Qar,h]
  rw [e1];go_enter func52,ntmps52
  go_wp2;go_ret;exact ⟨rfl,rfl⟩
theorem entity_any (n:Int) (w:World) :
  Calls prog 51 #[.int .i64 n] w fun e w'=>e=.returned (.bool (Qar n 12))∧w'=w:=by
 by_cases h:1≤n
 ·have e1:Qar n 12=decide (n≤12):=by simp [Qar,h]
  rw [e1];go_enter func51,ntmps51
  go_wp2;go_ret;exact ⟨rfl,rfl⟩
 ·have e1:Qar n 12=false:=by simp [Qar,h]
  rw [e1];go_enter func51,ntmps51
  go_wp2;go_ret;exact ⟨rfl,rfl⟩
end
section
open Go.RowKit Go.Lib Go.Proofs.Tryz
theorem memE_iff {code:ByteArray} {l:List ByteArray}:Qig code l=true↔code∈l:=by
 unfold Qig;rw [List.any_eq_true];constructor
 ·rintro ⟨x,hx,e⟩
  have:=of_decide_eq_true e
  rw [← this];exact hx
 ·intro h;exact ⟨code,h,by simp⟩
theorem leaf_mem {c:List Ac} {code:ByteArray} (h:¬ QcO (Qah code) c<0):Qig code (lvs c)=decide (QcO (QbG code) c<0):=by
 rw [Bool.eq_iff_iff,memE_iff,decide_eq_true_eq];unfold lvs;rw [List.mem_map];constructor
 ·rintro ⟨a,ha,rfl⟩
  have:=(List.mem_filter.1 ha).2
  unfold QeN at this;exact of_decide_eq_true this
 ·intro hp;obtain ⟨j,hj,_,hj2,_⟩:=QdH (p:=Qah code) (l:=c) (by omega)
  have hc:(c.getD j ac0).code=code:=of_decide_eq_true hj2;refine ⟨c.getD j ac0,List.mem_filter.2 ⟨?_,?_⟩,hc⟩
  ·rw [List.getD_eq_getElem?_getD,List.getElem?_eq_getElem hj];exact List.getElem_mem hj
  ·unfold QeN;rw [hc];exact decide_eq_true hp
theorem QhT (c:List Ac) (code:ByteArray):Qaa c code=if QcO (Qah code) c<0 then 6 else if QcO (QbG code) c<0 then 0 else 12:=by
 unfold Qaa;by_cases h1:QcO (Qah code) c<0
 ·rw [if_pos h1,if_pos h1]
 ·rw [if_neg h1,if_neg h1,leaf_mem h1];by_cases h2:QcO (QbG code) c<0
  ·rw [decide_eq_true h2];simp [h2]
  ·rw [decide_eq_false h2];simp [h2]
set_option maxHeartbeats 1000000 in
theorem refLeafE_any (a:Option Addr) (cap:Nat) (l:List Ac) (c:ByteArray) (w:World) (h:QbS w a l cap) (hlen:l.length≤60) :
  Calls prog 53 #[.slice a l.length cap,.string c] w fun e w'=>e=.returned (.int .i64 (Qaa l c))∧w'=w:=by
 have Hlen:(l.length:Int)≤60:=by omega
 have HA:=Qhz a cap l c w (by omega) h
 by_cases h1:QcO (Qah c) l<0
 ·have er:Qaa l c=6:=by rw [QhT,if_pos h1]
  rw [er];generalize QcO (Qah c) l=r at *
  have HHA:Hid (Calls _ _ _ _ _):=HA;clear HA h er;go_enter func53,ntmps53
  go_wp2_with (go_at_call 20;refine HHA.out.mono ?_;rintro e w' ⟨rfl,rfl⟩);go_ret;exact ⟨rfl,rfl⟩
 obtain ⟨j,hj,ej,_,_⟩:=QdH (p:=Qah c) (l:=l) (by omega)
 rw [ej] at HA;rcases h.lies with h1' | ⟨b,off,rfl,hlt,hc⟩
 ·rw [h1'] at hj;simp at hj
 have Hc:Hid (Qfg w b off l):=hc;obtain ⟨res,hres⟩:∃ res,Qaa l c=res:=⟨_,rfl⟩;have Hres:Hid ((if decide (QbA (QbG c) 0 (l.drop 0)<0)=true then (0:Int) else 12)=res):=by
  unfold Hid;rw [← hres,QhT,if_neg h1];by_cases h2:QcO (QbG c) l<0
  ·rw [if_pos h2];exact if_pos (decide_eq_true h2)
  ·rw [if_neg h2];exact if_neg (by rw [decide_eq_true_eq];exact h2)
 rw [hres];clear hres h hc h1 ej;have i0:(0:Int)≤j:=by omega
 have HHA:Hid (Calls _ _ _ _ _):=HA;clear HA;go_enter func53,ntmps53
 go_wp2_with (go_at_call 20;refine HHA.out.mono ?_;rintro e w' ⟨rfl,rfl⟩);go_loop [6] (fun s6=>∃ k:Nat,k≤l.length∧s6=.int .i64 k∧Hid ((if decide (QbA (QbG c) k (l.drop k)<0)=true then (0:Int) else 12)=res)) (fun s6=>l.length - (RowKit.intOf s6).toNat)
 case atStart=>exact ⟨0,Nat.zero_le _,rfl,Hres⟩
 case round=>
  obtain ⟨k,hk,rfl,H⟩:=hrel;by_cases hlt2:k<l.length
  ·have hn:=Hc.out k hlt2;have E:=H.out;rw [Qfl l k hlt2,QbA] at E;clear H;generalize l.getD k ac0=x at *
   obtain ⟨x0,x1,x2,x3,x4⟩:=x;obtain ⟨c0,c1,c2,c3,c4⟩:=hn;simp only at c0 c1 c2 c3 c4;have k0:(0:Int)≤k:=by omega
   have k1:(k:Int)<l.length:=by omega
   by_cases hx:x3=c
   ·rw [if_pos (by simp [QbG,hx]:QbG c ⟨x0,x1,x2,x3,x4⟩=true)] at E
    have er:res=12:=by
     rw [← E,if_neg];simp
    subst er;subst hx;clear E;go_wp2;go_ret;exact ⟨rfl,rfl⟩
   ·have hx':=Qev hx;rw [if_neg (by simp [QbG,hx]:¬ QbG c ⟨x0,x1,x2,x3,x4⟩=true)] at E
    have HN:Hid (_=res):=E;clear E;go_wp2;go_round
    case rel=>exact ⟨k+1,by omega,by go_num,HN⟩
    case measure=>simp [RowKit.intOf];omega
  ·have hk2:k=l.length:=by omega
   subst hk2;have er:res=0:=by
    rw [← H.out,List.drop_length,if_pos];simp [QbA]
   subst er;go_wp2;go_ret;exact ⟨rfl,rfl⟩
end
section
open Go.RowKit Go.Lib Go.Proofs.Tryz
set_option maxHeartbeats 4000000 in
theorem refEntry_any (ca:Option Addr) (cc:Nat) (c:List Ac) (r:ByteArray) (en pe:Int) (a:Option Addr) (cap:Nat) (l:List Ln) (w:World) (hc:QbS w ca c cc) (hok:∀ k,k<c.length→(c.getD k ac0).code.size≤maxLen∧(c.getD k ac0).name.size≤maxLen) (h:Qc0 w a l cap) :
  Calls prog 17 #[.slice ca c.length cc,.agg #[.string r,.int .i64 en,.int .i64 pe,.slice a l.length cap]] w fun e w'=>e=.returned (.int .i64 (QaL c r en pe l))∧Below w.heap.size w w':=by
 have b0:Below w.heap.size w (w.alloc (.cells #[.string r,.int .i64 en,.int .i64 pe,.slice a l.length cap] 38)):=(Below.refl _ w).alloc (Nat.le_refl _) _;have x0:=Qcf.new w r en pe (.slice a l.length cap);have hs0:(w.alloc (.cells #[.string r,.int .i64 en,.int .i64 pe,.slice a l.length cap] 38)).heap.size=w.heap.size+1:=by simp
 obtain ⟨res,hres⟩:∃ res,QaL c r en pe l=res:=⟨_,rfl⟩;rw [hres];have Hres:Hid (QaL c r en pe l=res):=hres;clear hres;have hC:=refChart_any ca cc c _ (hc.below b0) hok;have HC:Hid (Calls _ _ _ _ _):=hC;clear hC;by_cases h1:Qaw c=0
 ·rw [h1] at HC;have hlen:=Qb3 h1;have ER1:Hid (res=if QaB r en pe l.length≠0 then QaB r en pe l.length else if Qaz c l≠0 then Qaz c l else if (Qai l).any QcU=true then 11 else 0):=by
   unfold Hid;rw [← Hres.out];unfold QaL;rw [if_neg (by simp [h1])]
  go_enter func17,ntmps17
  go_wp2_with fail;refine HC.out.mono ?_;rintro e w1 ⟨rfl,hb1⟩;rw [hs0] at hb1;have B1:=b0.trans (hb1.mono (by omega))
  have hs1:=hb1.size;rw [hs0] at hs1;have y1:=x0.below hb1 (by omega)
  have c0:=y1.c0;have c1:=y1.c1;have c2:=y1.c2;have c3:=y1.c3;have HR:=refRef_any r w1;have HE:=entity_any en w1;have HP:=period_any pe w1;clear HC hb1 b0 x0 hs0;cases hr:Qbl r
  ·have er:res=2:=by rw [ER1.out];simp [QaB,hr]
   subst er;rw [hr] at HR;go_wp2_with (go_at_call 50;refine HR.mono ?_;rintro e w' ⟨rfl,rfl⟩);go_ret;exact ⟨rfl,B1⟩
  rw [hr] at HR;go_wp2_with fail;refine HR.mono ?_;rintro e w' ⟨rfl,rfl⟩;go_wp2_with fail;refine HE.mono ?_;rintro e w' ⟨rfl,rfl⟩;go_wp2_with fail;refine HP.mono ?_;rintro e w2 ⟨rfl,rfl⟩;clear HR HE HP;cases h3:Qar en 12
  ·have er:res=1:=by rw [ER1.out];simp [QaB,hr,h3]
   subst er;go_wp2;go_ret;exact ⟨rfl,B1⟩
  cases h4:Qar pe 120
  ·have er:res=1:=by rw [ER1.out];simp [QaB,hr,h4]
   subst er;go_wp2;go_ret;exact ⟨rfl,B1⟩
  by_cases h5:l.length<2
  ·have er:res=3:=by rw [ER1.out];simp [QaB,hr,h3,h4,h5]
   have h5':(l.length:Int)<2:=by omega
   subst er;go_wp2;go_ret;exact ⟨rfl,B1⟩
  have h5':¬ (l.length:Int)<2:=by omega
  by_cases h6:20<l.length
  ·have er:res=4:=by rw [ER1.out];simp [QaB,hr,h3,h4,h5,h6]
   have h6':(20:Int)<l.length:=by omega
   subst er;go_wp2;go_ret;exact ⟨rfl,B1⟩
  have h6':¬ (20:Int)<l.length:=by omega
  have ER:Hid (res=if Qaz c l≠0 then Qaz c l else if (Qai l).any QcU=true then 11 else 0):=by
   unfold Hid;rw [ER1.out];rw [if_neg (by simp [QaB,hr,h3,h4,h5,h6])]
  rcases h.lies with h0 | ⟨b,off,rfl,hbl,hcl⟩
  ·rw [h0] at h5;simp at h5
  have Hc:Hid (Qbr w b off l):=hcl;have Hsl:Hid (Qc0 w (some ⟨b,off,none⟩) l cap):=h;have HL:Hid (∀ code W,Below w.heap.size w W→Calls prog 53 #[.slice ca c.length cc,.string code] W fun e w'=>e=.returned (.int .i64 (Qaa c code))∧w'=W):=fun code W hW=>refLeafE_any ca cc c code W (hc.below hW) hlen
  clear Hres ER1 hcl h hc h1 hok;clear c0 c1 c2;go_wp2;go_loopw [9] (fun i wr=>∃ k:Nat,k≤l.length∧i=.int .i64 k∧Hid (res=if Qaz c (l.drop k)≠0 then Qaz c (l.drop k) else if (Qai l).any QcU=true then 11 else 0)∧Hid (∀ x∈l.take k,Qcr c x=0)∧Below w2.heap.size w2 wr) (fun i _=>l.length - (RowKit.intOf i).toNat)
  case atStart=>exact ⟨0,Nat.zero_le _,rfl,ER,(fun x hx=>by simp at hx),Below.refl _ _⟩
  case round=>
   obtain ⟨k,hk,rfl,H,HA,BW⟩:=hrel;have hws:=BW.size;have B3:=B1.trans (BW.mono (by omega))
   have y3:=y1.below BW (by omega)
   have e3:=y3.c3;by_cases hlt:k<l.length
   ·have hn:=(Hc.out k hlt).below B3 hbl;have E:=H.out;rw [Qek l k hlt,Qaz] at E;have B4:=B3.alloc B3.size (.cells (l.getD k ln0).cells 44);have BW4:=BW.alloc hws (.cells (l.getD k ln0).cells 44);have hcall:=HL.out (l.getD k ln0).acc _ B4;have hx:=QeA.new wr (l.getD k ln0) 44;have HA2:Hid (Qcr c (l.getD k ln0)=0→∀ x∈l.take (k+1),Qcr c x=0):=fun h0 x hx=>by
     rw [Qce l k hlt] at hx;rcases List.mem_append.1 hx with hx | hx
     ·exact HA.out x hx
     ·rw [List.mem_singleton.1 hx];exact h0
    have HLL:Hid (Qcr c (l.getD k ln0)=_):=Qf1 c (l.getD k ln0);generalize l.getD k ln0=x at *
    have Hcall:Hid (Calls _ _ _ _ _):=hcall;have HE:Hid (res=_):=E;clear hcall E H HA;obtain ⟨x0,x1,x2⟩:=x;obtain ⟨c0,c1,c2⟩:=hn;obtain ⟨d0,d1,d2⟩:=hx;simp only [Ln.cells,Nat.zero_add] at c0 c1 c2 B4 BW4 Hcall d0 d1 d2;simp only at HE HLL;have HCu:=refCur_any x1;have HAm:=refAmount_any x2;obtain ⟨lb,hlb⟩:∃ lb,Qaa c x0=lb:=⟨_,rfl⟩;rw [hlb] at Hcall HLL;clear hlb;have j0:(0:Int)≤k:=by omega
    have j1:(k:Int)<l.length:=by omega
    have HV:Hid (∀ v,Qcr c ⟨x0,x1,x2⟩=v→v≠0→res=v):=fun v hv h0=>by
     have:=HE.out
     rw [hv,if_pos h0,if_pos h0] at this;exact this
    have HW:Hid (Qcr c ⟨x0,x1,x2⟩=0→res=if Qaz c (l.drop (k+1))≠0 then Qaz c (l.drop (k+1)) else if (Qai l).any QcU=true then 11 else 0):=fun hv=>by
     have:=HE.out
     rw [hv,if_neg (show ¬ ((0:Int)≠0) by simp)] at this
     exact this
    clear HE;by_cases g1:lb=0
    ·subst g1;cases g2:Qaq x1
     ·have er:=HV.out 2 (by rw [HLL.out,if_neg (by simp),if_pos g2]) (by decide)
      subst er;have HC1:=HCu (wr.alloc (.cells #[.string x0,.string x1,.int .i64 x2] 44));rw [g2] at HC1;clear HV HW HA2 HLL HAm HCu;go_wp2_with fail;refine Hcall.out.mono ?_;rintro e w' ⟨rfl,rfl⟩;go_wp2_with fail;refine HC1.mono ?_;rintro e w' ⟨rfl,rfl⟩;go_wp2;go_ret;exact ⟨rfl,B4⟩
     have HC1:=HCu (wr.alloc (.cells #[.string x0,.string x1,.int .i64 x2] 44));have HA1:=HAm (wr.alloc (.cells #[.string x0,.string x1,.int .i64 x2] 44));rw [g2] at HC1;cases g3:Qas x2
     ·have er:=HV.out 1 (by rw [HLL.out,if_neg (by simp),if_neg (by rw [g2];simp),if_pos (.inr g3)]) (by decide)
      subst er;rw [g3] at HA1;clear HV HW HA2 HLL HAm HCu;go_wp2_with fail;refine Hcall.out.mono ?_;rintro e w' ⟨rfl,rfl⟩;go_wp2_with fail;refine HC1.mono ?_;rintro e w' ⟨rfl,rfl⟩;go_wp2_with fail;refine HA1.mono ?_;rintro e w' ⟨rfl,rfl⟩;go_wp2;go_ret;exact ⟨rfl,B4⟩
     rw [g3] at HA1;by_cases g4:x2=0
     ·have er:=HV.out 1 (by rw [HLL.out,if_neg (by simp),if_neg (by rw [g2];simp),if_pos (.inl g4)]) (by decide)
      subst er;subst g4;clear HV HW HA2 HLL HAm HCu;go_wp2_with fail;refine Hcall.out.mono ?_;rintro e w' ⟨rfl,rfl⟩;go_wp2_with fail;refine HC1.mono ?_;rintro e w' ⟨rfl,rfl⟩;go_wp2_with fail;refine HA1.mono ?_;rintro e w' ⟨rfl,rfl⟩;go_wp2;go_ret;exact ⟨rfl,B4⟩
     ·have hz:Qcr c ⟨x0,x1,x2⟩=0:=by rw [HLL.out,if_neg (by simp),if_neg (by rw [g2];simp),if_neg (by simp [g4,g3])]
      have HE2:Hid _:=HW.out hz;have HA3:Hid _:=HA2.out hz;have g4':(x2 == 0)=false:=by simpa using g4
      clear HV HW HA2 HLL HAm HCu hz;go_wp2_with fail;refine Hcall.out.mono ?_;rintro e w' ⟨rfl,rfl⟩;go_wp2_with fail;refine HC1.mono ?_;rintro e w' ⟨rfl,rfl⟩;go_wp2_with fail;refine HA1.mono ?_;rintro e w' ⟨rfl,rfl⟩;go_wp2;go_roundw
      case rel=>exact ⟨k+1,by omega,by go_num,HE2,HA3,BW4⟩
      case measure=>simp [RowKit.intOf];omega
    ·have er:=HV.out lb (by rw [HLL.out,if_pos g1]) g1
     subst er;have g1':(res != 0)=true:=by simpa using g1
     clear HV HW HA2 HLL HAm HCu;go_wp2_with fail;refine Hcall.out.mono ?_;rintro e w' ⟨rfl,rfl⟩;go_wp2;go_ret;exact ⟨rfl,B4⟩
   ·have hk2:k=l.length:=by omega
    subst hk2;have E:=H.out;rw [List.drop_length] at E;have HE:Hid ((if ((Qai l).drop 0).any QcU=true then (11:Int) else 0)=res):=E.symm
    have hw:QaA Qao l:=fun x hx=>lnBad_amt (HA.out x (by rw [List.take_length];exact hx))
    have hS:=Qii r en pe (some ⟨b,off,none⟩) cap l wr (by omega) (by omega) hw (Hsl.out.below B3)
    have HS:Hid (Calls _ _ _ _ _):=hS;have hgl:(Qai l).length≤20:=by have:=Qdd (l.map Qbk);rw [List.length_map] at this;unfold Qai;omega
    have e0:=y3.c0;have e1:=y3.c1;have e2:=y3.c2;clear hS hw E H HA HL ER Hc Hsl;go_wp2_with fail;refine HS.out.mono ?_;rintro e w3 ⟨v3,rfl,r3,b3⟩;obtain ⟨a3,k3,rfl,hsl3⟩:=r3.isLn;have B5:=B3.trans (b3.mono (by omega))
    have HS3:Hid (Qc0 w3 a3 (Qai l) k3):=hsl3;generalize Qai l=sm at *
    have hgl':(sm.length:Int)≤20:=by omega
    clear HS r3 b3 hsl3 e0 e1 e2 e3;go_wp2;go_loopw [12] (fun i wz=>∃ m:Nat,m≤sm.length∧i=.int .i64 m∧Hid ((if (sm.drop m).any QcU=true then (11:Int) else 0)=res)∧wz=w3) (fun i _=>sm.length - (RowKit.intOf i).toNat)
    case atStart=>exact ⟨0,Nat.zero_le _,rfl,HE,rfl⟩
    case round=>
     obtain ⟨m,hm,rfl,HM,rfl⟩:=hrel;by_cases hlt2:m<sm.length
     ·rcases HS3.out.lies with h0 | ⟨b3,o3,rfl,_,q3⟩
      ·rw [h0] at hlt2;simp at hlt2
      have hn:=q3 m hlt2;have E:=HM.out;rw [Qek sm m hlt2,List.any_cons] at E;have HE3:Hid (_=res):=E;clear E HM q3 HS3;generalize sm.getD m ln0=x at *
      obtain ⟨x0,x1,x2⟩:=x;obtain ⟨c0,c1,c2⟩:=hn;simp only at c0 c1 c2;have j0:(0:Int)≤m:=by omega
      have j1:(m:Int)<sm.length:=by omega
      by_cases g:x2=0
      ·have HN:Hid ((if (sm.drop (m+1)).any QcU=true then (11:Int) else 0)=res):=by
        unfold Hid;rw [← HE3.out];simp [QcU,nullL,g]
       subst g;clear HE3;go_wp2;go_roundw
       case rel=>exact ⟨m+1,by omega,by go_num,HN,by first | rfl | trivial⟩
       case measure=>simp [RowKit.intOf];omega
      ·have er:res=11:=by rw [← HE3.out];simp [QcU,nullL,g]
       subst er;have g':(x2 != 0)=true:=by simpa using g
       clear HE3;go_wp2;go_ret;exact ⟨rfl,B5⟩
     ·have hm2:m=sm.length:=by omega
      subst hm2;have er:res=0:=by rw [← HM.out,List.drop_length];rfl
      subst er;go_wp2;go_ret;exact ⟨rfl,B5⟩
 ·rw [show Qaw c=res by rw [← Hres.out];unfold QaL;rw [if_pos h1]] at HC h1
  clear Hres hc h;have h1':(res != 0)=true:=by simpa using h1
  go_enter func17,ntmps17
  go_wp2_with fail;refine HC.out.mono ?_;rintro e w1 ⟨rfl,hb1⟩;have B1:=b0.trans (hb1.mono (by simp))
  clear HC hb1 b0 x0;go_wp2;go_ret;exact ⟨rfl,B1⟩
end
end Go.Proofs.YtbeanioeeaikkaaGreatDoor
