/-
  Part of a proof (see the last text).
-/
import Derived.Test.YtibhgngboljhfaaGreatDoorZp2
set_option linter.unusedVariables false
set_option linter.unusedSimpArgs false
set_option maxRecDepth 100000
namespace Go.Proofs.YtibhgngboljhfaaGreatDoor
section
open Go.RowKit Go.Lib Go.Proofs.Tryz
theorem en_get (s:ByteArray) (k:Nat) (h:k<s.size):s.get! k=s[k]'h:=by
 show s.data[k]! = s.data[k]'h;exact getElem!_pos s.data k h
theorem refAmount_any (n:Int) (w:World) :
  Calls prog 55 #[.int .i64 n] w fun e w'=>e=.returned (.bool (Qas n))∧w'=w:=by
 by_cases h:-1000000000000000≤n
 ·have:Qas n=decide (n≤1000000000000000):=by simp [Qas,h]
  rw [this];go_enter func55,ntmps55
  go_wp2;go_ret;exact ⟨rfl,rfl⟩
 ·have:Qas n=false:=by simp [Qas,h]
  rw [this];go_enter func55,ntmps55
  go_wp2;go_ret;exact ⟨rfl,rfl⟩
theorem refRef_any (s:ByteArray) (w:World) :
  Calls prog 50 #[.string s] w fun e w'=>e=.returned (.bool (Qbr s))∧w'=w:=by
 by_cases h0:s.size=0
 ·have e0:=en_empty h0;have e1:Qbr s=false:=by simp [Qbr,h0]
  rw [e1];go_enter func50,ntmps50
  go_wp2;go_ret;exact ⟨rfl,rfl⟩
 have e0:=en_some h0;have e0':s.toList.isEmpty=false:=by simpa using e0
 by_cases h1:s.size≤12
 ·have h1'':¬ ((12:Int)<s.size):=by omega
  have h2':(0:Int)<s.size:=by omega
  have hp:0<s.size:=by omega
  have hg:s.get! 0=s[0]'hp:=getElem!_pos s.data 0 hp;by_cases h2:(s.get! 0).toNat=45
  ·have er:Qbr s=false:=by simp [Qbr,h2]
   have h3:((s[0]'hp).toNat:Int)=45:=by rw [← hg,h2];rfl
   rw [er];clear h2 hg;go_enter func50,ntmps50
   go_wp2;go_ret;exact ⟨rfl,rfl⟩
  have h3:¬ ((s[0]'hp).toNat:Int)=45:=by rw [← hg];omega
  have h3b:(((s[0]'hp).toNat:Int) == 45)=false:=by simpa using h3
  have H2:Hid ((s.get! 0).toNat≠45):=h2;clear h2 hg;obtain ⟨res,hres⟩:∃ res,Qbr s=res:=⟨_,rfl⟩;have Hres:Hid (Qbr s=res):=hres;rw [hres];clear hres;go_enter func50,ntmps50
  go_wp2;go_loop [3] (fun i=>∃ k:Nat,k≤s.size∧i=.int .i64 k∧Hid (∀ j,j<k→Qdv (s.get! j).toNat=false)) (fun i=>s.size - (RowKit.intOf i).toNat)
  case atStart=>exact ⟨0,Nat.zero_le _,rfl,fun j hj=>absurd hj (Nat.not_lt_zero _)⟩
  case round=>
   obtain ⟨k,hk,rfl,Hk⟩:=hrel;by_cases hlt:k<s.size
   ·have i0:(0:Int)≤k:=by omega
    have i1:(k:Int)<s.size:=by omega
    obtain ⟨c,hc⟩:∃ c,(s[k]'hlt).toNat=c:=⟨_,rfl⟩;have Hg:Hid (Qdv (s.get! k).toNat=Qdv c):=by unfold Hid;rw [en_get s k hlt,hc]
    have bad:Qdv c=true→res=false:=fun hb=>by
     rw [← Hres.out];cases hm:Qbr s
     ·rfl
     ·have:=(QiT.1 hm).2.2.2 k hlt
      rw [Hg.out,hb] at this;cases this
    have HN:Hid (Qdv c=false→∀ j,j<k+1→Qdv (s.get! j).toNat=false):=fun hb j hj=>by
     rcases (by omega:j<k∨j=k) with h' | rfl
     ·exact Hk.out j h'
     ·rw [Hg.out];exact hb
    have hcs:(c:Int)=45∨((c:Int)≠45∧(c:Int)<48)∨((48:Int)≤c∧(c:Int)≤57)∨((57:Int)<c∧(c:Int)<97)∨((97:Int)≤c∧(c:Int)≤122)∨(122:Int)<c:=by omega
    rcases hcs with a | ⟨a,b⟩ | ⟨a,b⟩ | ⟨a,b⟩ | ⟨a,b⟩ | a
    ·have HM:Hid _:=HN.out (by simp [Qdv];omega)
     clear bad HN;have q:((c:Int) != 45)=false:=by simp;omega
     go_wp2;go_round
     case rel=>exact ⟨k+1,by omega,by go_num,HM⟩
     case measure=>simp [RowKit.intOf];omega
    ·have e1:=bad (by simp [Qdv];omega)
     subst e1;clear bad HN;have q:((c:Int) != 45)=true:=by simp;omega
     have q2:(c:Int)<97:=by omega
     go_wp2;go_ret;exact ⟨rfl,rfl⟩
    ·have HM:Hid _:=HN.out (by simp [Qdv];omega)
     clear bad HN;have q:((c:Int) != 45)=true:=by simp;omega
     have q2:¬ (c:Int)<48:=by omega
     have q3:¬ (57:Int)<c:=by omega
     go_wp2;go_round
     case rel=>exact ⟨k+1,by omega,by go_num,HM⟩
     case measure=>simp [RowKit.intOf];omega
    ·have e1:=bad (by simp [Qdv];omega)
     subst e1;clear bad HN;have q:((c:Int) != 45)=true:=by simp;omega
     have q2:¬ (c:Int)<48:=by omega
     go_wp2;go_ret;exact ⟨rfl,rfl⟩
    ·have HM:Hid _:=HN.out (by simp [Qdv];omega)
     clear bad HN;have q:((c:Int) != 45)=true:=by simp;omega
     have q2:¬ (c:Int)<48:=by omega
     have q3:(57:Int)<c:=by omega
     have q4:¬ (c:Int)<97:=by omega
     have q5:¬ (122:Int)<c:=by omega
     go_wp2;go_round
     case rel=>exact ⟨k+1,by omega,by go_num,HM⟩
     case measure=>simp [RowKit.intOf];omega
    ·have e1:=bad (by simp [Qdv];omega)
     subst e1;clear bad HN;have q:((c:Int) != 45)=true:=by simp;omega
     have q2:¬ (c:Int)<48:=by omega
     have q3:(57:Int)<c:=by omega
     have q4:¬ (c:Int)<97:=by omega
     go_wp2;go_ret;exact ⟨rfl,rfl⟩
   ·have hk2:k=s.size:=by omega
    have er:res=true:=by
     rw [← Hres.out];exact QiT.2 ⟨h0,h1,H2.out,fun i hi=>Hk.out i (by omega)⟩
    subst er;go_wp2;go_ret;exact ⟨rfl,rfl⟩
 ·have h1'':(12:Int)<s.size:=by omega
  have e1:Qbr s=false:=by simp [Qbr,h1]
  rw [e1];go_enter func50,ntmps50
  go_wp2;go_ret;exact ⟨rfl,rfl⟩
end
section
open Go.RowKit Go.Lib Go.Proofs.Tryz
theorem QbR {P:Program} (w:World) (t ty e:TypeId) (size:Nat) (ht:P.underlying t=some (.slice e)) (hz:(Go.sizeOf e).run P w=.ok size w) (base a:Option Addr) (sLen sCap c:Nat) (hle:sLen≤sCap) :
  (Builtin.append_ #[t,t] ty #[.slice base sLen sCap,.slice a 0 c]).run P w=.ok (.slice base sLen sCap) w:=by
 cases a <;> cases base <;> simp [Builtin.append_,run_underlying ht,hz,Builtin.lenOf,Builtin.firstCells,loadCells,loadCellsFrom,storeCells,hle]
theorem insL_ne (x:Ln):∀ l:List Ln,Qc6 x l≠[]
 | []=>by simp [Qc6]
 | y :: l=>by
  rw [Qc6]
  split
  ·simp
  ·split <;> simp
theorem Qbz.take {W:World} {b off:Nat} {l:List Ln} (h:Qbz W b off l) (p:Nat):Qbz W b off (l.take p):=fun k hk=>by
 rw [List.length_take] at hk
 have:(l.take p).getD k ln0=l.getD k ln0:=by
  rw [List.getD_eq_getElem?_getD,List.getD_eq_getElem?_getD,List.getElem?_take,if_pos (by omega)]
 rw [this];exact h k (by omega)
theorem Qbz.drop {W:World} {b off:Nat} {l:List Ln} (h:Qbz W b off l) (p:Nat):Qbz W b (off+p*3) (l.drop p):=fun k hk=>by
 rw [List.length_drop] at hk
 have:(l.drop p).getD k ln0=l.getD (p+k) ln0:=by
  rw [List.getD_eq_getElem?_getD,List.getD_eq_getElem?_getD,List.getElem?_drop]
 rw [this,show off+p*3+k*3=off+(p+k)*3 by omega]
 exact h (p+k) (by omega)
theorem QdK {W:World} {b off:Nat} {l:List Ln} (h:Qbz W b off l):∀ j u,(Qah l)[j]? = some u→W.cell? ((⟨b,off,none⟩:Addr).add j)=some u:=by
 intro j u hj;rw [Addr.add_lit];obtain ⟨q,r,hr,rfl⟩:∃ q r,r<3∧j=q*3+r:=⟨j / 3,j % 3,Nat.mod_lt _ (by omega),by omega⟩
 have hlt:=(List.getElem?_eq_some_iff.1 hj).1;rw [Qaf] at hlt;have hq:q<l.length:=by omega
 rw [Qb7 l q r hq hr] at hj
 have:=h q hq
 rcases (by omega:r=0∨r=1∨r=2) with rfl | rfl | rfl
 ·rw [← hj,Nat.add_zero,this.c0];rfl
 ·rw [← hj,← Nat.add_assoc,this.c1];rfl
 ·rw [← hj,← Nat.add_assoc,this.c2];rfl
theorem Qev.grown {W W':World} {b off:Nat} {row:Option Nat} {x:Ln} (h:Qev W b off x) (hg:W.grownBy W' row) (hr:row≠some b):Qev W' b off x:=by
 have hlt:b<W.heap.size:=World.block_lt_of_cell? _ _ h.c0;have hb:W'.heap[b]? = W.heap[b]?:=hg.block b hlt (fun e=>hr e.symm)
 exact ⟨(World.cell?_of_block (a:=⟨b,off,none⟩) hb).trans h.c0,(World.cell?_of_block (a:=⟨b,off+1,none⟩) hb).trans h.c1,(World.cell?_of_block (a:=⟨b,off+2,none⟩) hb).trans h.c2⟩
theorem Qbz.grown {W W':World} {b off:Nat} {row:Option Nat} {l:List Ln} (h:Qbz W b off l) (hg:W.grownBy W' row) (hr:row≠some b):Qbz W' b off l:=fun k hk=>(h k hk).grown hg hr
theorem Qab.at {W:World} {n0 g cap:Nat} {l:List Ln} (h:Qab W n0 (.slice (some ⟨g,0,none⟩) l.length cap) l):Qbz W g 0 l∧l.length≤cap:=by
 obtain ⟨a',cq',hv,hsl'⟩:=h.isLn;cases hv;refine ⟨?_,hsl'.cap⟩;rcases hsl'.lies with h0 | ⟨b',off',e,_,hc'⟩
 ·rw [h0];exact fun k hk=>absurd hk (by simp)
 ·cases e;exact hc'
set_option maxHeartbeats 8000000 in
theorem QhM (b off cap:Nat) (l:List Ln) (w:World) (hb:b<w.heap.size) (hlen:l.length≤20) (hwi:QaA Qaq l) (hc:Qbz w b off l) :
  Calls prog 91 #[.slice (some ⟨b,off,none⟩) l.length cap] w fun e w'=>∃ v,e=.returned v∧Qab w' w.heap.size v (grp l)∧Below w.heap.size w w':=by
 have Hc:Hid (Qbz w b off l):=hc;have Hwi:Hid (QaA Qaq l):=hwi;clear hc hwi;have Hlen:(l.length:Int)≤20:=by omega
 obtain ⟨i0,hi,hz0,hz1,hz2⟩:=info_parts QcF;go_enter func91,ntmps91
 go_wp2;go_loopw [3,4] (fun s i wr=>∃ k:Nat,k≤l.length∧i=.int .i64 k∧Hid (Qab wr w.heap.size s (grp (l.take k)))∧Hid (grp (l.take k)=[]→s=.slice none 0 0)∧Below w.heap.size w wr) (fun _ i _=>l.length - (RowKit.intOf i).toNat)
 case atStart=>exact ⟨0,Nat.zero_le _,rfl,Qab.nil _ _,fun _=>rfl,Below.refl _ _⟩
 case round=>
  obtain ⟨k,hk,rfl,R,HZ,BW⟩:=hrel;by_cases hlt:k<l.length
  ·have hn:=(Hc.out k hlt).below BW hb;have hst:grp (l.take (k+1))=Qc6 (l.getD k ln0) (grp (l.take k)):=by rw [Qcg l k hlt,grp_snoc]
   have hxw:=Hwi.out _ (QeY l k hlt);have hgl:(grp (l.take k)).length≤20:=by
    have:=Qdc (l.take k)
    rw [List.length_take] at this;omega
   have hgw:QaA (20*Qaq) (grp (l.take k)):=by
    have h1:=Qi6 (m:=Qaq) (by simp [Qaq]) (l:=l.take k) (fun z hz=>Hwi.out z (List.mem_of_mem_take hz))
    intro z hz;have h2:=h1 z hz;have h3:((l.take k).length:Int)≤20:=by rw [List.length_take];omega
    simp only [Qaq] at h2 ⊢;omega
   have B1:=BW.alloc BW.size (.cells (l.getD k ln0).cells 44);have R1:Qab (wr.alloc (.cells (l.getD k ln0).cells 44)) w.heap.size _ (grp (l.take k)):=World.ownsRow.alloc R.out (.cells (l.getD k ln0).cells 44);have hx:=Qev.new wr (l.getD k ln0) 44;have hsz:(wr.alloc (.cells (l.getD k ln0).cells 44)).heap.size=wr.heap.size+1:=by simp
   have hne:Qc6 (l.getD k ln0) (grp (l.take k))≠[]:=insL_ne _ _;generalize l.getD k ln0=x at *
   generalize grp (l.take k)=q at *
   obtain ⟨a,cq,rfl,hsl⟩:=R1.isLn;have Hst:Hid (grp (l.take (k+1))=Qc6 x q):=hst;have Hne:Hid (Qc6 x q≠[]):=hne;have Hgw:Hid (QaA (20*Qaq) q):=hgw;have Hxw:Hid (-Qaq≤x.amt∧x.amt≤Qaq):=hxw;have hpl:=posL_le x q;have HP1:Hid (∀ h,h<Qcl x q→QdG (q.getD h ln0) x=true):=posL_lt x q;have HP2:Hid (Qcl x q<q.length→QdG (q.getD (Qcl x q) ln0) x=false):=posL_at x q;have HF:Hid (Qcl x q<q.length→Qef (q.getD (Qcl x q) ln0) x=true→Qc6 x q=q.set (Qcl x q) ⟨(q.getD (Qcl x q) ln0).acc,(q.getD (Qcl x q) ln0).cur,(q.getD (Qcl x q) ln0).amt+x.amt⟩):=Qgf x q
   have HN:Hid ((Qcl x q<q.length→Qef (q.getD (Qcl x q) ln0) x=false)→Qc6 x q=q.take (Qcl x q)++x :: q.drop (Qcl x q)):=insL_new x q;obtain ⟨p,hp⟩:∃ p,Qcl x q=p:=⟨_,rfl⟩;rw [hp] at HP1 HP2 HF HN hpl;have HR1:Hid (Qab _ _ _ _):=R1;have Hx:Hid (Qev _ _ _ _):=hx;have HLL:Hid (q≠[]→∃ g,a=some ⟨g,0,none⟩):=fun h0=>by
    rcases HR1.out.2 with ⟨_,h1⟩ | ⟨g,c1,cur,hv,_⟩
    ·exact absurd (List.eq_nil_of_length_eq_zero h1) h0
    ·cases hv;exact ⟨g,rfl⟩
   clear hst hne hgw hxw hp R R1 hx hsl;obtain ⟨c0,c1,c2⟩:=hn;obtain ⟨x0,x1,x2⟩:=x;simp only [Ln.cells] at c0 c1 c2 B1 hsz HR1 Hx;have j0:(0:Int)≤k:=by omega
   have j1:(k:Int)<l.length:=by omega
   have hws:=BW.size;have hql:(q.length:Int)≤20:=by omega
   obtain ⟨W1,hW1⟩:∃ W1,wr.alloc (.cells #[.string x0,.string x1,.int .i64 x2] 44)=W1:=⟨_,rfl⟩;have HW1:Hid (wr.alloc (.cells #[.string x0,.string x1,.int .i64 x2] 44)=W1):=hW1;clear hW1;go_wp2;rw [HW1.out] at B1 hsz HR1 Hx
   first | rw [HW1.out] | skip
   clear c0 c1 c2;obtain ⟨bx,hbx⟩:∃ bx,wr.heap.size=bx:=⟨_,rfl⟩;rw [hbx] at Hx hsz hws ⊢;obtain ⟨d0,d1,d2⟩:=Hx.out;simp only [Nat.zero_add] at d0 d1 d2;go_loopw [6] (fun s6 wz=>∃ m n:Nat,m≤p∧s6=.int .i64 m∧wz=W1.drewN n) (fun s6 _=>q.length - (RowKit.intOf s6).toNat)
   case atStart=>exact ⟨0,0,Nat.zero_le _,rfl,rfl⟩
   case round=>
    obtain ⟨m,nd,hmp,rfl,rfl⟩:=hrel;by_cases hmq:m<q.length
    ·obtain ⟨g,rfl⟩:=HLL.out (fun e=>by rw [e] at hmq;simp at hmq)
     obtain ⟨hqa,hqc⟩:=HR1.out.at
     obtain ⟨cy0,cy1,cy2⟩:=hqa m hmq;have m0:(0:Int)≤m:=by omega
     have m1:(m:Int)<q.length:=by omega
     have m2:decide ((m:Int)<q.length)=true:=by simp;omega
     obtain ⟨y0,hy0⟩:∃ y0,(q.getD m ln0).acc=y0:=⟨_,rfl⟩;obtain ⟨y1,hy1⟩:∃ y1,(q.getD m ln0).cur=y1:=⟨_,rfl⟩;obtain ⟨y2,hy2⟩:∃ y2,(q.getD m ln0).amt=y2:=⟨_,rfl⟩;have Hlt:Hid (QdG (q.getD m ln0) ⟨x0,x1,x2⟩=(Op.bytesLess y0.toList x0.toList || (y0.toList == x0.toList && Op.bytesLess y1.toList x1.toList))):=by
      unfold Hid QdG;rw [hy0,hy1]
     have Heq:Hid (Qef (q.getD m ln0) ⟨x0,x1,x2⟩=(y0.toList == x0.toList && y1.toList == x1.toList)):=by
      unfold Hid Qef;rw [hy0,hy1]
     rw [hy0] at cy0;rw [hy1] at cy1;rw [hy2] at cy2;simp only [Nat.zero_add] at cy0 cy1 cy2;have Hy:Hid ((q.getD m ln0).acc=y0∧(q.getD m ln0).cur=y1∧(q.getD m ln0).amt=y2):=⟨hy0,hy1,hy2⟩;clear hy0 hy1 hy2;have HON:Hid (QdG (q.getD m ln0) ⟨x0,x1,x2⟩=true→m<p):=fun h=>by
      rcases (by omega:m<p∨m=p) with h' | rfl
      ·exact h'
      ·have:=HP2.out hmq;rw [h] at this;cases this
     have HOFF:Hid (QdG (q.getD m ln0) ⟨x0,x1,x2⟩=false→m=p):=fun h=>by
      rcases (by omega:m<p∨m=p) with h' | h'
      ·have:=HP1.out m h';rw [h] at this;cases this
      ·exact h'
     cases t1:Op.bytesLess y0.toList x0.toList
     ·cases t2:(y0.toList == x0.toList)
      ·-- another account: it comes here
       have hmp2:=HOFF.out (by rw [Hlt.out,t1,t2];rfl)
       subst hmp2;have hnE:Qef (q.getD m ln0) ⟨x0,x1,x2⟩=false:=by rw [Heq.out,t2];rfl
       have t2':¬ y0.toList=x0.toList:=by simpa using t2
       go_wp2;go_quiet (fail)
       rename Nat=>nq1
       go_wp2;go_quiet (fail)
       rename Nat=>nq2
       have HI:Hid (grp (l.take (k+1))=q.take m++⟨x0,x1,x2⟩ :: q.drop m):=by unfold Hid;rw [Hst.out];exact HN.out (fun _=>hnE)
       have R2:Qab (((W1.drewN nd).drewN nq1).drewN nq2) w.heap.size (.slice (some ⟨g,0,none⟩) q.length cq) q:=HR1.out;have X2:Qev (((W1.drewN nd).drewN nq1).drewN nq2) bx 0 ⟨x0,x1,x2⟩:=⟨Hx.out.c0,Hx.out.c1,Hx.out.c2⟩;have B2:Below w.heap.size w (((W1.drewN nd).drewN nq1).drewN nq2):=QaE (QaE (QaE B1 _) _) _;have hs2:(((W1.drewN nd).drewN nq1).drewN nq2).heap.size=bx+1:=hsz;clear d0 d1 d2 cy0 cy1 cy2 Hlt Heq Hy HON HOFF HP1 HP2 HF HN hqa
       have hqc2:=(Qab.at R2).2;have hqci2:(q.length:Int)≤cq:=by omega
       have hgw2:=(World.ownsRow.lt R2 g rfl).2;have hqm:(q.take m).length=m:=by rw [List.length_take];omega
       have Hhl:Hid ((Qah (q.take m)).length=m*3):=by unfold Hid;rw [Qaf,hqm]
       have HS2:Hid _:=QdK ((Qab.at R2).1.take m);have Hm1:Hid (0+m≤maxLen):=by unfold Hid maxLen;omega
       have Hm2:Hid ((0+m)*40≤140737488355328):=by unfold Hid;omega
       have HR2:Hid (Qab _ _ _ _):=R2;have HX2:Hid (Qev _ _ _ _):=X2;generalize ((W1.drewN nd).drewN nq1).drewN nq2=W2 at *
       have Hm3:Hid (bx+1≤W2.heap.size):=by unfold Hid;omega
       clear R2 X2;go_wp2_with (at_builtin;refine wpList_append_own _ rfl _ _ 36 rfl (bx+1) 44 i0 (.agg #[.string ByteArray.empty,.string ByteArray.empty,.int .i64 0]) 3 40 underlying36 hi hz0 hz1 hz2 rfl (by decide) _ _ _ rfl (World.ownsRow_nil _ _ _ _) ⟨g,0,none⟩ m cq (Qah (q.take m)) rfl Hhl.out HS2.out (QaU _) Hm1.out Hm2.out Hm3.out ?_)
       intro v3 w3 hown hgrow _;have HO3:Hid (w3.ownsRow (bx+1) 44 3 v3 m (Qah (q.take m))):=by
        unfold Hid
        first | exact hown | (rw [List.take_length];exact hown)
       have r3:Qab w3 (bx+1) v3 (q.take m):=by unfold Qab;rw [hqm];exact HO3.out
       obtain ⟨a3,k3,e3,_⟩:=r3.isLn;rw [hqm] at e3;subst e3;have Hg3:Hid (W2.grownBy w3 none):=hgrow;have hs3:=Hg3.out.size;have X3:=HX2.out.grown Hg3.out (by simp)
       have B3:=B2.grown Hg3.out B2.size (fun j e=>by cases e)
       have HQ3:Hid (Qbz w3 g 0 q):=(Qab.at HR2.out).1.grown Hg3.out (by simp)
       obtain ⟨f0,f1,f2⟩:=X3;simp only [Nat.zero_add] at f0 f1 f2;have Hn1:Hid (m+1≤maxLen):=by unfold Hid maxLen;omega
       have Hn2:Hid ((m+1)*40≤140737488355328):=by unfold Hid;omega
       have Hn3:Hid (bx+1≤(w3.alloc (.cells #[.string x0,.string x1,.int .i64 x2] 44)).heap.size):=by unfold Hid;simp;omega
       have B4:=B3.alloc B3.size (.cells #[.string x0,.string x1,.int .i64 x2] 44);have hone:∀ u∈([.string x0,.string x1,.int .i64 x2]:List Value),u.oneCell'=true:=by intro u hu;simp at hu;rcases hu with rfl | rfl | rfl <;> rfl
       clear hgrow hown;go_wp2_with (at_builtin;refine wpList_append_own _ rfl _ _ 36 rfl (bx+1) 44 i0 (.agg #[.string ByteArray.empty,.string ByteArray.empty,.int .i64 0]) 3 40 underlying36 hi hz0 hz1 hz2 rfl (by decide) _ _ _ rfl (World.ownsRow.alloc HO3.out _) ⟨w3.heap.size,0,none⟩ 1 1 [.string x0,.string x1,.int .i64 x2] rfl rfl (QbD _ _ _ _ _ _ rfl) hone Hn1.out Hn2.out Hn3.out ?_)
       intro v5 w5 hown hgrow _;have HO5:Hid (w5.ownsRow (bx+1) 44 3 v5 (m+1) (Qah (q.take m++[⟨x0,x1,x2⟩]))):=by
        unfold Hid;rw [Qan,Qbh]
        first | exact hown | (rw [List.take_length];exact hown)
       have r5:Qab w5 (bx+1) v5 (q.take m++[⟨x0,x1,x2⟩]):=by unfold Qab;rw [List.length_append,hqm];exact HO5.out
       obtain ⟨a5,k5,e5,hsl5⟩:=r5.isLn;have hqm5:(q.take m++[(⟨x0,x1,x2⟩:Ln)]).length=m+1:=by rw [List.length_append,hqm];rfl
       rw [hqm5] at e5;subst e5;have hoj:∀ j,(Value.slice a3 m k3).ownBlock=some j→bx+1≤j:=r3.own;have Hg5:Hid (World.grownBy _ w5 (Value.slice a3 m k3).ownBlock):=hgrow;have hs5:=Hg5.out.size;have B5:=B4.grown Hg5.out B4.size (fun j e=>by have:=hoj j e;omega)
       have hs5b:bx+1≤w5.heap.size:=by
        have:(w3.alloc (.cells #[.string x0,.string x1,.int .i64 x2] 44)).heap.size=w3.heap.size+1:=by simp
        omega
       have HQ5:Hid _:=QdK (Qbz.drop (Qbz.grown (Qbz.grown HQ3.out (World.grownBy_alloc w3 (.cells #[.string x0,.string x1,.int .i64 x2] 44) none) (by simp)) Hg5.out (fun e=>by have:=hoj g e;omega)) m)
       simp only [Nat.zero_add] at HQ5;have Hd:Hid ((Qah (q.drop m)).length=(q.length - m)*3):=by unfold Hid;rw [Qaf,List.length_drop]
       have Hk1:Hid (m+1+(q.length - m)≤maxLen):=by unfold Hid maxLen;omega
       have Hk2:Hid ((m+1+(q.length - m))*40≤140737488355328):=by unfold Hid;omega
       have hcm:¬ cq=m:=by have:=(Qab.at HR2.out).2;omega
       clear hgrow hown;go_wp2_with (at_builtin;refine wpList_append_own _ rfl _ _ 36 rfl (bx+1) 44 i0 (.agg #[.string ByteArray.empty,.string ByteArray.empty,.int .i64 0]) 3 40 underlying36 hi hz0 hz1 hz2 rfl (by decide) _ _ _ rfl HO5.out ⟨g,m*3,none⟩ (q.length - m) (cq - m) (Qah (q.drop m)) rfl Hd.out HQ5.out (QaU _) Hk1.out Hk2.out hs5b ?_)
       intro v7 w7 hown hgrow _;have r7:Qab w7 (bx+1) v7 (grp (l.take (k+1))):=by
        rw [HI.out];unfold Qab;have e1:(q.take m++(⟨x0,x1,x2⟩:Ln) :: q.drop m).length=m+1+(q.length - m):=by
         rw [List.length_append,List.length_cons,hqm,List.length_drop];omega
        have e2:Qah (q.take m++⟨x0,x1,x2⟩ :: q.drop m)=Qah (q.take m++[⟨x0,x1,x2⟩])++Qah (q.drop m):=by
         rw [← Qan,List.append_assoc];rfl
        rw [e1,e2];exact hown
       have hoj5:∀ j,(Value.slice a5 (m+1) k5).ownBlock=some j→bx+1≤j:=r5.own;have B7:=B5.grown hgrow B5.size (fun j e=>by have:=hoj5 j e;omega)
       have HR7:Hid (Qab _ _ _ _):=r7.mono (m:=w.heap.size) (by omega)
       clear r7 r5 r3 hown hgrow hsl5 HO5 HO3 HQ3 HQ5 HS2 HR2;go_wp2;go_roundw
       case rel=>exact ⟨k+1,by omega,by go_num,HR7.out,fun e=>absurd (Hst.out.symm.trans e) Hne.out,B7⟩
       case measure=>simp [RowKit.intOf];omega
      ·have t2':x0=y0:=(QbW (by simpa using t2)).symm
       cases t3:Op.bytesLess y1.toList x1.toList
       ·have hmp2:=HOFF.out (by rw [Hlt.out,t1,t2,t3];rfl)
        subst hmp2;cases t4:(y1.toList == x1.toList)
        ·have hnE:Qef (q.getD m ln0) ⟨x0,x1,x2⟩=false:=by rw [Heq.out,t2,t4];rfl
         have t4':¬ y1.toList=x1.toList:=by simpa using t4
         subst t2';go_wp2;go_quiet (fail)
         rename Nat=>nq1
         go_wp2;go_quiet (fail)
         rename Nat=>nq2
         have HI:Hid (grp (l.take (k+1))=q.take m++⟨x0,x1,x2⟩ :: q.drop m):=by unfold Hid;rw [Hst.out];exact HN.out (fun _=>hnE)
         have R2:Qab (((W1.drewN nd).drewN nq1).drewN nq2) w.heap.size (.slice (some ⟨g,0,none⟩) q.length cq) q:=HR1.out;have X2:Qev (((W1.drewN nd).drewN nq1).drewN nq2) bx 0 ⟨x0,x1,x2⟩:=⟨Hx.out.c0,Hx.out.c1,Hx.out.c2⟩;have B2:Below w.heap.size w (((W1.drewN nd).drewN nq1).drewN nq2):=QaE (QaE (QaE B1 _) _) _;have hs2:(((W1.drewN nd).drewN nq1).drewN nq2).heap.size=bx+1:=hsz;clear d0 d1 d2 cy0 cy1 cy2 Hlt Heq Hy HON HOFF HP1 HP2 HF HN hqa
         have hqc2:=(Qab.at R2).2;have hqci2:(q.length:Int)≤cq:=by omega
         have hgw2:=(World.ownsRow.lt R2 g rfl).2;have hqm:(q.take m).length=m:=by rw [List.length_take];omega
         have Hhl:Hid ((Qah (q.take m)).length=m*3):=by unfold Hid;rw [Qaf,hqm]
         have HS2:Hid _:=QdK ((Qab.at R2).1.take m);have Hm1:Hid (0+m≤maxLen):=by unfold Hid maxLen;omega
         have Hm2:Hid ((0+m)*40≤140737488355328):=by unfold Hid;omega
         have HR2:Hid (Qab _ _ _ _):=R2;have HX2:Hid (Qev _ _ _ _):=X2;generalize ((W1.drewN nd).drewN nq1).drewN nq2=W2 at *
         have Hm3:Hid (bx+1≤W2.heap.size):=by unfold Hid;omega
         clear R2 X2;go_wp2_with (at_builtin;refine wpList_append_own _ rfl _ _ 36 rfl (bx+1) 44 i0 (.agg #[.string ByteArray.empty,.string ByteArray.empty,.int .i64 0]) 3 40 underlying36 hi hz0 hz1 hz2 rfl (by decide) _ _ _ rfl (World.ownsRow_nil _ _ _ _) ⟨g,0,none⟩ m cq (Qah (q.take m)) rfl Hhl.out HS2.out (QaU _) Hm1.out Hm2.out Hm3.out ?_)
         intro v3 w3 hown hgrow _;have HO3:Hid (w3.ownsRow (bx+1) 44 3 v3 m (Qah (q.take m))):=by
          unfold Hid
          first | exact hown | (rw [List.take_length];exact hown)
         have r3:Qab w3 (bx+1) v3 (q.take m):=by unfold Qab;rw [hqm];exact HO3.out
         obtain ⟨a3,k3,e3,_⟩:=r3.isLn;rw [hqm] at e3;subst e3;have Hg3:Hid (W2.grownBy w3 none):=hgrow;have hs3:=Hg3.out.size;have X3:=HX2.out.grown Hg3.out (by simp)
         have B3:=B2.grown Hg3.out B2.size (fun j e=>by cases e)
         have HQ3:Hid (Qbz w3 g 0 q):=(Qab.at HR2.out).1.grown Hg3.out (by simp)
         obtain ⟨f0,f1,f2⟩:=X3;simp only [Nat.zero_add] at f0 f1 f2;have Hn1:Hid (m+1≤maxLen):=by unfold Hid maxLen;omega
         have Hn2:Hid ((m+1)*40≤140737488355328):=by unfold Hid;omega
         have Hn3:Hid (bx+1≤(w3.alloc (.cells #[.string x0,.string x1,.int .i64 x2] 44)).heap.size):=by unfold Hid;simp;omega
         have B4:=B3.alloc B3.size (.cells #[.string x0,.string x1,.int .i64 x2] 44);have hone:∀ u∈([.string x0,.string x1,.int .i64 x2]:List Value),u.oneCell'=true:=by intro u hu;simp at hu;rcases hu with rfl | rfl | rfl <;> rfl
         clear hgrow hown;go_wp2_with (at_builtin;refine wpList_append_own _ rfl _ _ 36 rfl (bx+1) 44 i0 (.agg #[.string ByteArray.empty,.string ByteArray.empty,.int .i64 0]) 3 40 underlying36 hi hz0 hz1 hz2 rfl (by decide) _ _ _ rfl (World.ownsRow.alloc HO3.out _) ⟨w3.heap.size,0,none⟩ 1 1 [.string x0,.string x1,.int .i64 x2] rfl rfl (QbD _ _ _ _ _ _ rfl) hone Hn1.out Hn2.out Hn3.out ?_)
         intro v5 w5 hown hgrow _;have HO5:Hid (w5.ownsRow (bx+1) 44 3 v5 (m+1) (Qah (q.take m++[⟨x0,x1,x2⟩]))):=by
          unfold Hid;rw [Qan,Qbh]
          first | exact hown | (rw [List.take_length];exact hown)
         have r5:Qab w5 (bx+1) v5 (q.take m++[⟨x0,x1,x2⟩]):=by unfold Qab;rw [List.length_append,hqm];exact HO5.out
         obtain ⟨a5,k5,e5,hsl5⟩:=r5.isLn;have hqm5:(q.take m++[(⟨x0,x1,x2⟩:Ln)]).length=m+1:=by rw [List.length_append,hqm];rfl
         rw [hqm5] at e5;subst e5;have hoj:∀ j,(Value.slice a3 m k3).ownBlock=some j→bx+1≤j:=r3.own;have Hg5:Hid (World.grownBy _ w5 (Value.slice a3 m k3).ownBlock):=hgrow;have hs5:=Hg5.out.size;have B5:=B4.grown Hg5.out B4.size (fun j e=>by have:=hoj j e;omega)
         have hs5b:bx+1≤w5.heap.size:=by
          have:(w3.alloc (.cells #[.string x0,.string x1,.int .i64 x2] 44)).heap.size=w3.heap.size+1:=by simp
          omega
         have HQ5:Hid _:=QdK (Qbz.drop (Qbz.grown (Qbz.grown HQ3.out (World.grownBy_alloc w3 (.cells #[.string x0,.string x1,.int .i64 x2] 44) none) (by simp)) Hg5.out (fun e=>by have:=hoj g e;omega)) m)
         simp only [Nat.zero_add] at HQ5;have Hd:Hid ((Qah (q.drop m)).length=(q.length - m)*3):=by unfold Hid;rw [Qaf,List.length_drop]
         have Hk1:Hid (m+1+(q.length - m)≤maxLen):=by unfold Hid maxLen;omega
         have Hk2:Hid ((m+1+(q.length - m))*40≤140737488355328):=by unfold Hid;omega
         have hcm:¬ cq=m:=by have:=(Qab.at HR2.out).2;omega
         clear hgrow hown;go_wp2_with (at_builtin;refine wpList_append_own _ rfl _ _ 36 rfl (bx+1) 44 i0 (.agg #[.string ByteArray.empty,.string ByteArray.empty,.int .i64 0]) 3 40 underlying36 hi hz0 hz1 hz2 rfl (by decide) _ _ _ rfl HO5.out ⟨g,m*3,none⟩ (q.length - m) (cq - m) (Qah (q.drop m)) rfl Hd.out HQ5.out (QaU _) Hk1.out Hk2.out hs5b ?_)
         intro v7 w7 hown hgrow _;have r7:Qab w7 (bx+1) v7 (grp (l.take (k+1))):=by
          rw [HI.out];unfold Qab;have e1:(q.take m++(⟨x0,x1,x2⟩:Ln) :: q.drop m).length=m+1+(q.length - m):=by
           rw [List.length_append,List.length_cons,hqm,List.length_drop];omega
          have e2:Qah (q.take m++⟨x0,x1,x2⟩ :: q.drop m)=Qah (q.take m++[⟨x0,x1,x2⟩])++Qah (q.drop m):=by
           rw [← Qan,List.append_assoc];rfl
          rw [e1,e2];exact hown
         have hoj5:∀ j,(Value.slice a5 (m+1) k5).ownBlock=some j→bx+1≤j:=r5.own;have B7:=B5.grown hgrow B5.size (fun j e=>by have:=hoj5 j e;omega)
         have HR7:Hid (Qab _ _ _ _):=r7.mono (m:=w.heap.size) (by omega)
         clear r7 r5 r3 hown hgrow hsl5 HO5 HO3 HQ3 HQ5 HS2 HR2;go_wp2;go_roundw
         case rel=>exact ⟨k+1,by omega,by go_num,HR7.out,fun e=>absurd (Hst.out.symm.trans e) Hne.out,B7⟩
         case measure=>simp [RowKit.intOf];omega
        ·have hE:Qef (q.getD m ln0) ⟨x0,x1,x2⟩=true:=by rw [Heq.out,t2,t4];rfl
         have t4':x1=y1:=(QbW (by simpa using t4)).symm
         subst t2';subst t4';go_wp2;go_quiet (fail)
         rename Nat=>nq1
         go_wp2;go_quiet (fail)
         rename Nat=>nq2
         have R2:Qab (((W1.drewN nd).drewN nq1).drewN nq2) w.heap.size (.slice (some ⟨g,0,none⟩) q.length cq) q:=HR1.out;have X2:Qev (((W1.drewN nd).drewN nq1).drewN nq2) bx 0 ⟨x0,x1,x2⟩:=⟨Hx.out.c0,Hx.out.c1,Hx.out.c2⟩;have B2:Below w.heap.size w (((W1.drewN nd).drewN nq1).drewN nq2):=QaE (QaE (QaE B1 _) _) _;have hs2:(((W1.drewN nd).drewN nq1).drewN nq2).heap.size=bx+1:=hsz;have hgb:=(Qab.own R2) g rfl
         obtain ⟨R3,hfz⟩:=Qab.setAmt R2 m hmq (y2+x2);have HR3:Hid (Qab ((((W1.drewN nd).drewN nq1).drewN nq2).setCell ⟨g,m*3+2,none⟩ (.int .i64 (y2+x2))).drew w.heap.size (.slice (some ⟨g,0,none⟩) q.length cq) (grp (l.take (k+1)))):=by
          unfold Hid;rw [Hst.out,HF.out hmq hE,Hy.out.2.2];exact R3
         have hyw:=Hgw.out _ (QeY q m hmq);rw [Hy.out.2.2] at hyw;have hwrap:IntKind.i64.wrap (y2+x2)=y2+x2:=by
          have:=Hxw.out
          simp only [Qaq] at this hyw;rw [IntKind.wrap_i64];omega
         obtain ⟨f0,f1,f2⟩:=X2;simp only [Nat.zero_add] at f0 f1 f2;have cz2:(((W1.drewN nd).drewN nq1).drewN nq2).cell? ⟨g,m*3+2,none⟩=some (.int .i64 y2):=cy2;generalize ((W1.drewN nd).drewN nq1).drewN nq2=W2 at *
         have B4:Below w.heap.size w (W2.setCell ⟨g,m*3+2,none⟩ (.int .i64 (y2+x2))).drew:=(B2.setCell (p:=⟨g,m*3+2,none⟩) hgb _).drew;clear R3 R2 d0 d1 d2 cy0 cy1 cy2 Hlt Heq Hy HON HOFF HP1 HP2 HF HN hqa hyw;go_wp2;go_region
         all_goals
          go_wp2;go_roundw
          case rel=>exact ⟨k+1,by omega,by go_num,HR3.out,fun e=>absurd (Hst.out.symm.trans e) Hne.out,B4⟩
          case measure=>simp [RowKit.intOf];omega
       ·have hmp2:=HON.out (by rw [Hlt.out,t1,t2,t3];rfl)
        subst t2';go_wp2;go_quiet (fail)
        go_wp2;go_roundw
        case rel=>exact ⟨m+1,_,by omega,by go_num,rfl⟩
        case measure=>simp [RowKit.intOf];omega
     ·have hmp2:=HON.out (by rw [Hlt.out,t1];rfl)
      go_wp2;go_quiet (fail)
      go_wp2;go_roundw
      case rel=>exact ⟨m+1,_,by omega,by go_num,rfl⟩
      case measure=>simp [RowKit.intOf];omega
    ·have hmp2:m=p:=by omega
     subst hmp2;have hmq2:m=q.length:=by omega
     subst hmq2;have m2:decide ((q.length:Int)<q.length)=false:=by simp
     go_wp2;go_quiet (fail)
     rename Nat=>nq1
     go_wp2;go_quiet (fail)
     rename Nat=>nq2
     have HI:Hid (grp (l.take (k+1))=q.take q.length++⟨x0,x1,x2⟩ :: q.drop q.length):=by unfold Hid;rw [Hst.out];exact HN.out (fun h=>absurd h (Nat.lt_irrefl _))
     by_cases hq0:q=[]
     ·have hz:=HZ.out hq0;subst hq0;cases hz;have X2:Qev (((W1.drewN nd).drewN nq1).drewN nq2) bx 0 ⟨x0,x1,x2⟩:=⟨Hx.out.c0,Hx.out.c1,Hx.out.c2⟩;have B2:Below w.heap.size w (((W1.drewN nd).drewN nq1).drewN nq2):=QaE (QaE (QaE B1 _) _) _;have hs2:(((W1.drewN nd).drewN nq1).drewN nq2).heap.size=bx+1:=hsz;have HX2:Hid (Qev _ _ _ _):=X2;generalize ((W1.drewN nd).drewN nq1).drewN nq2=W2 at *
      clear d0 d1 d2 HP1 HP2 HF HN;obtain ⟨f0,f1,f2⟩:=X2;simp only [Nat.zero_add] at f0 f1 f2;have Hn1:Hid (0+1≤maxLen):=by unfold Hid maxLen;omega
      have Hn2:Hid ((0+1)*40≤140737488355328):=by unfold Hid;omega
      have Hn3:Hid (bx+1≤(W2.alloc (.cells #[.string x0,.string x1,.int .i64 x2] 44)).heap.size):=by unfold Hid;simp;omega
      have B4:=B2.alloc B2.size (.cells #[.string x0,.string x1,.int .i64 x2] 44);have hone:∀ u∈([.string x0,.string x1,.int .i64 x2]:List Value),u.oneCell'=true:=by intro u hu;simp at hu;rcases hu with rfl | rfl | rfl <;> rfl
      go_wp2_with (first | (at_builtin;refine Lib.wpList_append_run _ rfl _ _ _ _ rfl (.slice none 0 0) (.slice none 0 0) rfl rfl _ _ (QbR _ 36 _ 44 3 underlying36 (QdW _) none none 0 0 0 (Nat.le_refl _)) ?_) | (at_builtin;refine wpList_append_own _ rfl _ _ 36 rfl (bx+1) 44 i0 (.agg #[.string ByteArray.empty,.string ByteArray.empty,.int .i64 0]) 3 40 underlying36 hi hz0 hz1 hz2 rfl (by decide) _ _ _ rfl (World.ownsRow_nil _ _ _ _) ⟨bx+1,0,none⟩ 1 1 [.string x0,.string x1,.int .i64 x2] rfl rfl (QbD _ _ _ _ _ _ hs2.symm) hone Hn1.out Hn2.out Hn3.out ?_))
      intro v5 w5 hown hgrow _;have r5:Qab w5 (bx+1) v5 [⟨x0,x1,x2⟩]:=by unfold Qab;rw [Qbh];exact hown
      obtain ⟨a5,k5,rfl,hsl5⟩:=r5.isLn;have hk5:1≤k5:=hsl5.cap;have B5:=B4.grown hgrow B4.size (fun j e=>by cases e)
      have HR7:Hid (Qab w5 w.heap.size (.slice a5 1 k5) (grp (l.take (k+1)))):=by unfold Hid;rw [HI.out];exact r5.mono (by omega)
      clear r5 hown hgrow hsl5;simp only [List.length_cons,List.length_nil,Nat.zero_add];go_wp2_with (at_builtin;refine Lib.wpList_append_run _ rfl _ _ _ _ rfl (.slice a5 1 k5) (.slice none 0 0) rfl rfl _ _ (QbR _ 36 _ 44 3 underlying36 (QdW _) a5 none 1 k5 0 hk5) ?_);go_roundw
      case rel=>exact ⟨k+1,by omega,by go_num,HR7.out,fun e=>absurd (Hst.out.symm.trans e) Hne.out,B5⟩
      case measure=>simp [RowKit.intOf];omega
     ·obtain ⟨g,rfl⟩:=HLL.out hq0;have R2:Qab (((W1.drewN nd).drewN nq1).drewN nq2) w.heap.size (.slice (some ⟨g,0,none⟩) q.length cq) q:=HR1.out;have X2:Qev (((W1.drewN nd).drewN nq1).drewN nq2) bx 0 ⟨x0,x1,x2⟩:=⟨Hx.out.c0,Hx.out.c1,Hx.out.c2⟩;have B2:Below w.heap.size w (((W1.drewN nd).drewN nq1).drewN nq2):=QaE (QaE (QaE B1 _) _) _;have hs2:(((W1.drewN nd).drewN nq1).drewN nq2).heap.size=bx+1:=hsz
      clear d0 d1 d2 HP1 HP2 HF HN;have hqc2:=(Qab.at R2).2;have hqci2:(q.length:Int)≤cq:=by omega
      have hgw2:=(World.ownsRow.lt R2 g rfl).2;have hqm:(q.take q.length).length=q.length:=by rw [List.length_take];omega
      have Hhl:Hid ((Qah (q.take q.length)).length=q.length*3):=by unfold Hid;rw [Qaf,hqm]
      have HS2:Hid _:=QdK ((Qab.at R2).1.take q.length);have Hm1:Hid (0+q.length≤maxLen):=by unfold Hid maxLen;omega
      have Hm2:Hid ((0+q.length)*40≤140737488355328):=by unfold Hid;omega
      have HR2:Hid (Qab _ _ _ _):=R2;have HX2:Hid (Qev _ _ _ _):=X2;generalize ((W1.drewN nd).drewN nq1).drewN nq2=W2 at *
      have Hm3:Hid (bx+1≤W2.heap.size):=by unfold Hid;omega
      clear R2 X2;go_wp2_with (at_builtin;refine wpList_append_own _ rfl _ _ 36 rfl (bx+1) 44 i0 (.agg #[.string ByteArray.empty,.string ByteArray.empty,.int .i64 0]) 3 40 underlying36 hi hz0 hz1 hz2 rfl (by decide) _ _ _ rfl (World.ownsRow_nil _ _ _ _) ⟨g,0,none⟩ q.length cq (Qah (q.take q.length)) rfl Hhl.out HS2.out (QaU _) Hm1.out Hm2.out Hm3.out ?_)
      intro v3 w3 hown hgrow _;have HO3:Hid (w3.ownsRow (bx+1) 44 3 v3 q.length (Qah (q.take q.length))):=by
       unfold Hid
       first | exact hown | (rw [List.take_length];exact hown)
      have r3:Qab w3 (bx+1) v3 (q.take q.length):=by unfold Qab;rw [hqm];exact HO3.out
      obtain ⟨a3,k3,e3,_⟩:=r3.isLn;rw [hqm] at e3;subst e3;have Hg3:Hid (W2.grownBy w3 none):=hgrow;have hs3:=Hg3.out.size;have X3:=HX2.out.grown Hg3.out (by simp)
      have B3:=B2.grown Hg3.out B2.size (fun j e=>by cases e)
      have HQ3:Hid (Qbz w3 g 0 q):=(Qab.at HR2.out).1.grown Hg3.out (by simp)
      obtain ⟨f0,f1,f2⟩:=X3;simp only [Nat.zero_add] at f0 f1 f2;have Hn1:Hid (q.length+1≤maxLen):=by unfold Hid maxLen;omega
      have Hn2:Hid ((q.length+1)*40≤140737488355328):=by unfold Hid;omega
      have Hn3:Hid (bx+1≤(w3.alloc (.cells #[.string x0,.string x1,.int .i64 x2] 44)).heap.size):=by unfold Hid;simp;omega
      have B4:=B3.alloc B3.size (.cells #[.string x0,.string x1,.int .i64 x2] 44);have hone:∀ u∈([.string x0,.string x1,.int .i64 x2]:List Value),u.oneCell'=true:=by intro u hu;simp at hu;rcases hu with rfl | rfl | rfl <;> rfl
      clear hgrow hown;go_wp2_with (at_builtin;refine wpList_append_own _ rfl _ _ 36 rfl (bx+1) 44 i0 (.agg #[.string ByteArray.empty,.string ByteArray.empty,.int .i64 0]) 3 40 underlying36 hi hz0 hz1 hz2 rfl (by decide) _ _ _ rfl (World.ownsRow.alloc HO3.out _) ⟨w3.heap.size,0,none⟩ 1 1 [.string x0,.string x1,.int .i64 x2] rfl rfl (QbD _ _ _ _ _ _ rfl) hone Hn1.out Hn2.out Hn3.out ?_)
      intro v5 w5 hown hgrow _;have HO5:Hid (w5.ownsRow (bx+1) 44 3 v5 (q.length+1) (Qah (q.take q.length++[⟨x0,x1,x2⟩]))):=by
       unfold Hid;rw [Qan,Qbh]
       first | exact hown | (rw [List.take_length];exact hown)
      have r5:Qab w5 (bx+1) v5 (q.take q.length++[⟨x0,x1,x2⟩]):=by unfold Qab;rw [List.length_append,hqm];exact HO5.out
      obtain ⟨a5,k5,e5,hsl5⟩:=r5.isLn;have hqm5:(q.take q.length++[(⟨x0,x1,x2⟩:Ln)]).length=q.length+1:=by rw [List.length_append,hqm];rfl
      rw [hqm5] at e5;subst e5;have hoj:∀ j,(Value.slice a3 q.length k3).ownBlock=some j→bx+1≤j:=r3.own;have Hg5:Hid (World.grownBy _ w5 (Value.slice a3 q.length k3).ownBlock):=hgrow;have hs5:=Hg5.out.size;have B5:=B4.grown Hg5.out B4.size (fun j e=>by have:=hoj j e;omega)
      have hs5b:bx+1≤w5.heap.size:=by
       have:(w3.alloc (.cells #[.string x0,.string x1,.int .i64 x2] 44)).heap.size=w3.heap.size+1:=by simp
       omega
      have hk5:q.length+1≤k5:=by have:=hsl5.cap;rw [hqm5] at this;exact this
      have HR7:Hid (Qab w5 w.heap.size (.slice a5 (q.length+1) k5) (grp (l.take (k+1)))):=by
       unfold Hid;rw [HI.out,List.drop_length];exact r5.mono (by omega)
      clear r5 r3 hown hgrow hsl5 HO5 HO3 HQ3 HS2 HR2;by_cases hcm:cq=q.length
      ·subst hcm;go_wp2_with (at_builtin;refine Lib.wpList_append_run _ rfl _ _ _ _ rfl (.slice a5 (q.length+1) k5) (.slice (some ⟨g,0,none⟩) 0 0) rfl rfl _ _ (QbR _ 36 _ 44 3 underlying36 (QdW _) a5 (some ⟨g,0,none⟩) (q.length+1) k5 0 hk5) ?_);go_roundw
       case rel=>exact ⟨k+1,by omega,by go_num,HR7.out,fun e=>absurd (Hst.out.symm.trans e) Hne.out,B5⟩
       case measure=>simp [RowKit.intOf];omega
      ·go_wp2_with (at_builtin;refine Lib.wpList_append_run _ rfl _ _ _ _ rfl (.slice a5 (q.length+1) k5) (.slice (some ⟨g,q.length*3,none⟩) 0 (cq - q.length)) rfl rfl _ _ (QbR _ 36 _ 44 3 underlying36 (QdW _) a5 (some ⟨g,q.length*3,none⟩) (q.length+1) k5 (cq - q.length) hk5) ?_);go_roundw
       case rel=>exact ⟨k+1,by omega,by go_num,HR7.out,fun e=>absurd (Hst.out.symm.trans e) Hne.out,B5⟩
       case measure=>simp [RowKit.intOf];omega
  ·have hk2:k=l.length:=by omega
   subst hk2;go_wp2;go_ret;refine ⟨_,rfl,?_,BW⟩
   have:=R.out
   rw [List.take_length] at this;exact this
end
section
open Go.RowKit Go.Lib Go.Proofs.Tryz
theorem Qg8 (a:Option Addr) (cap:Nat) (w:World) :
  Calls prog 91 #[.slice a 0 cap] w fun e w'=>e=.returned (.slice none 0 0)∧Below w.heap.size w w':=by
 go_enter func91,ntmps91
 go_wp2;refine wp_loop_rounds 1 ?_;rw [rounds_succ];go_wp2;go_ret;exact ⟨rfl,Below.refl _ _⟩
theorem QiI (a:Option Addr) (cap:Nat) (l:List Ln) (w:World) (hlen:l.length≤20) (hwi:QaA Qaq l) (h:Qc5 w a l cap) :
  Calls prog 91 #[.slice a l.length cap] w fun e w'=>∃ v,e=.returned v∧Qab w' w.heap.size v (grp l)∧Below w.heap.size w w':=by
 rcases h.lies with rfl | ⟨b,off,rfl,hlt,hc⟩
 ·refine (Qg8 a cap w).mono ?_;rintro e w' ⟨rfl,hb⟩;exact ⟨_,rfl,Qab.nil _ _,hb⟩
 ·exact QhM b off cap l w hlt hlen hwi hc
set_option maxHeartbeats 4000000 in
theorem refSums_some (r:ByteArray) (en pe:Int) (b off cap:Nat) (l:List Ln) (w:World) (hb:b<w.heap.size) (hlen:l.length≤20) (hwi:QaA Qaq l) (hc:Qbz w b off l) :
  Calls prog 45 #[.agg #[.string r,.int .i64 en,.int .i64 pe,.slice (some ⟨b,off,none⟩) l.length cap]] w fun e w'=>∃ v,e=.returned v∧Qab w' w.heap.size v (Qai l)∧Below w.heap.size w w':=by
 have Hc:Hid (Qbz w b off l):=hc;have b0:Below w.heap.size w (w.alloc (.cells #[.string r,.int .i64 en,.int .i64 pe,.slice (some ⟨b,off,none⟩) l.length cap] 38)):=(Below.refl _ w).alloc (Nat.le_refl _) _;have x0:=Qcv.new w r en pe (.slice (some ⟨b,off,none⟩) l.length cap);have hs0:(w.alloc (.cells #[.string r,.int .i64 en,.int .i64 pe,.slice (some ⟨b,off,none⟩) l.length cap] 38)).heap.size=w.heap.size+1:=by simp
 have HG:Hid (∀ v W,Qab W (w.heap.size+1) v (l.map Qbt)→Below w.heap.size w W→Calls prog 91 #[v] W fun e w'=>∃ v,e=.returned v∧Qab w' w.heap.size v (Qai l)∧Below w.heap.size w w'):=fun v W hr hW=>by
  obtain ⟨a',c',rfl,hsl⟩:=hr.isLn;refine (QiI a' c' (l.map Qbt) W (by simpa using hlen) (QhN hwi) hsl).mono ?_
  rintro e w' ⟨v,rfl,hr',hb'⟩;exact ⟨v,rfl,hr'.mono hW.size,hW.trans (hb'.mono hW.size)⟩
 clear hc hwi;have Hlen:(l.length:Int)≤20:=by omega
 obtain ⟨i0,hi,hz0,hz1,hz2⟩:=info_parts QcF;obtain ⟨W0,hW0⟩:∃ W0,w.alloc (.cells #[.string r,.int .i64 en,.int .i64 pe,.slice (some ⟨b,off,none⟩) l.length cap] 38)=W0:=⟨_,rfl⟩;go_enter func45,ntmps45
 go_wp2;rw [hW0] at b0 x0 hs0;have Hb0:Hid (Below w.heap.size w W0):=b0;have Hx0:Hid (Qcv W0 _ _ _ _ _):=x0;have Hs0:Hid (W0.heap.size=w.heap.size+1):=hs0;clear hW0 b0 x0 hs0;go_loopw [3,4] (fun s i wr=>∃ k:Nat,k≤l.length∧i=.int .i64 k∧Hid (Qab wr (w.heap.size+1) s ((l.take k).map Qbt))∧Below (w.heap.size+1) W0 wr) (fun _ i _=>l.length - (RowKit.intOf i).toNat)
 case atStart=>exact ⟨0,Nat.zero_le _,rfl,Qab.nil _ _,Below.refl _ _⟩
 case round=>
  obtain ⟨k,hk,rfl,R,BW⟩:=hrel;have hws:=BW.size;rw [Hs0.out] at hws;have B1:=Hb0.out.trans (BW.mono (Nat.le_succ _));have y1:=Hx0.out.below BW (Nat.lt_succ_self _);have dl:=y1.c3;by_cases hlt:k<l.length
  ·have hn:=(Hc.out k hlt).below B1 hb;have hst:(l.take (k+1)).map Qbt=(l.take k).map Qbt++[Qbt (l.getD k ln0)]:=by rw [Qcg l k hlt,List.map_append];rfl
   have hfl:((l.take k).map Qbt).length=k:=by rw [List.length_map,List.length_take];omega
   generalize l.getD k ln0=x at *
   generalize (l.take k).map Qbt=fs at *
   obtain ⟨x0,x1,x2⟩:=x;obtain ⟨c0,c1,c2⟩:=hn;simp only [Qbt] at c0 c1 c2 hst;obtain ⟨a,cq,rfl,_⟩:=R.out.isLn;have Hfl:Hid (fs.length=k):=hfl;rw [hfl] at R ⊢;clear hfl;have j0:(0:Int)≤k:=by omega
   have j1:(k:Int)<l.length:=by omega
   have Hst:Hid (_=_):=hst;have hro:World.ownsRow (wr.alloc (.cells #[.string ByteArray.empty,.string x1,.int .i64 x2] 44)).drew (w.heap.size+1) 44 3 (.slice a k cq) k (Qah fs):=by
    have:=World.ownsRow.drew (World.ownsRow.alloc R.out (.cells #[.string ByteArray.empty,.string x1,.int .i64 x2] 44))
    unfold Qab at this;rw [Hfl.out] at this;exact this
   have HRO:Hid (World.ownsRow _ _ _ _ _ _ _):=hro;have k1:∀ j u,([.string ByteArray.empty,.string x1,.int .i64 x2]:List Value)[j]? = some u→(wr.alloc (.cells #[.string ByteArray.empty,.string x1,.int .i64 x2] 44)).drew.cell? ((⟨wr.heap.size,0,none⟩:Addr).add j)=some u:=fun j u h=>QbD wr ByteArray.empty x1 x2 wr.heap.size 44 rfl j u h
   have K1:Hid (∀ j u,([.string ByteArray.empty,.string x1,.int .i64 x2]:List Value)[j]? = some u→(wr.alloc (.cells #[.string ByteArray.empty,.string x1,.int .i64 x2] 44)).drew.cell? ((⟨wr.heap.size,0,none⟩:Addr).add j)=some u):=k1;have s1:∀ u∈([.string ByteArray.empty,.string x1,.int .i64 x2]:List Value),u.oneCell'=true:=by intro u hu;simp at hu;rcases hu with rfl | rfl | rfl <;> rfl
   have s2:Hid (k+1≤maxLen):=by unfold Hid maxLen;omega
   have s3:Hid ((k+1)*40≤140737488355328):=by unfold Hid;omega
   have s4:Hid (w.heap.size+1≤(wr.alloc (.cells #[.string ByteArray.empty,.string x1,.int .i64 x2] 44)).drew.heap.size):=by unfold Hid;simp;omega
   have s5:Hid ((wr.alloc (.cells #[.string ByteArray.empty,.string x1,.int .i64 x2] 44)).drew.heap.size=wr.heap.size+1):=by unfold Hid;simp
   have B2:=(BW.alloc (by omega) (.cells #[.string ByteArray.empty,.string x1,.int .i64 x2] 44)).drew
   have hoj:∀ j,(Value.slice a k cq).ownBlock=some j→w.heap.size+1≤j:=fun j e=>(World.ownsRow.lt hro j e).1
   clear k1 hst hro R;go_wp2_with fail;go_region_law (refine step_append_lies _ rfl (.tmp 12) (.tmp 26) 36 rfl (w.heap.size+1) 44 i0 (.agg #[.string ByteArray.empty,.string ByteArray.empty,.int .i64 0]) 3 40 underlying36 hi hz0 hz1 hz2 rfl (Nat.zero_lt_succ _) (.slice a k cq) k (Qah fs) rfl HRO.out ⟨wr.heap.size,0,none⟩ 1 1 [.string ByteArray.empty,.string x1,.int .i64 x2] rfl rfl K1.out s1 (Nat.zero_lt_one) s2.out s3.out s4.out (wr.heap.size+1) s5.out ?_;intro g' cap' w1 hown' hgrow hat hlt2)
   all_goals
    have B3:=B2.grown hgrow (by simp;omega) (fun j e=>by have:=hoj j e;omega)
    have HR3:Hid (Qab w1 (w.heap.size+1) (.slice (some ⟨g',0,none⟩) (k+1) cap') ((l.take (k+1)).map Qbt)):=by
     unfold Hid;rw [Hst.out];unfold Qab;rw [Qan,Qbh,List.length_append,Hfl.out];exact hown'
    clear hown' hgrow hat;go_wp2;go_roundw
    case rel=>exact ⟨k+1,by omega,by go_num,HR3.out,B3⟩
    case measure=>simp [RowKit.intOf];omega
  ·have hk2:k=l.length:=by omega
   subst hk2;have R2:=R.out;rw [List.take_length] at R2;have hG:=HG.out _ wr R2 B1;have HGG:Hid (Calls _ _ _ _ _):=hG;clear R2 hG HG R;go_wp2_with fail;refine HGG.out.mono ?_;rintro e w2 ⟨v2,rfl,r2,b2⟩;have HR:Hid (Qab _ _ _ _):=r2;clear r2 HGG;go_wp2;go_ret;exact ⟨v2,rfl,HR.out,b2⟩
theorem Qil (r:ByteArray) (en pe:Int) (a:Option Addr) (cap:Nat) (l:List Ln) (w:World) (hlen:l.length≤20) (hl:0<l.length) (hwi:QaA Qaq l) (h:Qc5 w a l cap) :
  Calls prog 45 #[.agg #[.string r,.int .i64 en,.int .i64 pe,.slice a l.length cap]] w fun e w'=>∃ v,e=.returned v∧Qab w' w.heap.size v (Qai l)∧Below w.heap.size w w':=by
 rcases h.lies with h0 | ⟨b,off,rfl,hlt,hc⟩
 ·rw [h0] at hl;simp at hl
 ·exact refSums_some r en pe b off cap l w hlt hlen hwi hc
end
end Go.Proofs.YtibhgngboljhfaaGreatDoor
