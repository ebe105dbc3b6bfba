/-
  Part of a proof (see the last text).
-/
import Derived.Test.YtjifbbdkpanagaaGreatDoorZd15
set_option linter.unusedVariables false
namespace Go.Proofs.YtjifbbdkpanagaaGreatDoor
section
open Go.RowKit Go.Lib Go.Maps Go.Proofs.Tryz
def rt0:Rt:=⟨ByteArray.empty,ByteArray.empty,0,0,0⟩
theorem make_tab (n:Int) (w:World):(Instr.makeMap 153 (some (.int .i64 n))).run prog w=.ok (.map (some w.heap.size)) (w.alloc (.map #[] 0)):=by
 simp [Instr.makeMap,run_underlying underlying153,asInt,asIntOf,Result.andThen]
def Qc0 (w:World) (S:Int×DataW Unit) (e:Ending) (w':World):Prop:=
 Below w.heap.size w w'∧(S.1≠0→e=.returned (.tuple #[.map none,Qec S.1]))∧(S.1=0→∃ b,e=.returned (.tuple #[.map (some b),.nilIface])∧w.heap.size≤b∧Qew w' b 200 S.2)
theorem table_full (a:Option Addr) (len cap:Nat) (rs:List Rt) (w:World) (hl:rs.length=len) (h:100<len) :
  Calls prog 76 #[.slice a len cap] w (Qc0 w (QeW rs)):=by
 have h':(100:Int)<len:=by omega
 rw [tabS_full (by omega)]
 go_enter func76,ntmps76
 go_wp2;go_ret2;exact ⟨Below.refl _ _,fun _=>rfl,fun h=>by cases h⟩
theorem table_none (a:Option Addr) (cap:Nat) (w:World) :
  Calls prog 76 #[.slice a 0 cap] w (Qc0 w (QeW [])):=by
 have hmm:=make_tab;go_enter func76,ntmps76
 go_wp2;refine wp_loop_rounds 1 ?_;rw [rounds_succ];go_wp2;go_ret2;exact ⟨(Below.refl _ _).alloc (Nat.le_refl _) _,fun h=>absurd rfl h,fun _=>⟨_,rfl,Nat.le_refl _,(World.ownsMap_made _ _ _ _).mono (by omega)⟩⟩
structure QdW (w:World) (b:Nat) (f t:ByteArray) (p:Int):Prop where
 c0:w.cell? ⟨b,0,none⟩=some (.string f)
 c1:w.cell? ⟨b,1,none⟩=some (.string t)
 c2:w.cell? ⟨b,2,none⟩=some (.int .i64 p)
theorem QdW.new (w:World) (f t:ByteArray) (p:Int) (T:TypeId):QdW (w.alloc (.cells #[.string f,.string t,.int .i64 p] T)) w.heap.size f t p:=⟨by simp,by simp,by simp⟩
theorem QdW.below {w w':World} {b n:Nat} {f t:ByteArray} {p:Int} (h:QdW w b f t p) (hb:Below n w w') (hn:b<n):QdW w' b f t p:=
 ⟨(hb.cell (p:=⟨b,0,none⟩) hn).trans h.c0,(hb.cell (p:=⟨b,1,none⟩) hn).trans h.c1,(hb.cell (p:=⟨b,2,none⟩) hn).trans h.c2⟩
structure Keys2 (w W:World) (N c B8 B9 n:Nat) (D:DataW Unit) (r:Rt):Prop where
 at8:QdW W B8 r.frm r.dst r.per
 at9:QdW W B9 r.dst r.frm r.per
 rt:RtAt W c 0 r
 tab:Qew W N n D
 bel:Below N w W
 l8:B8<W.heap.size
 l9:B9<W.heap.size
 lc:c<W.heap.size
 n8:N<B8
 n9:N<B9
 nc:N<c
theorem keys2_of {w wr w1:World} {n:Nat} {D:DataW Unit} {r:Rt} {T:TypeId} (hb:Below (wr.heap.size+1) (wr.alloc (.cells r.cells T)) w1) (ht:Qew wr w.heap.size n D) (hw:Below w.heap.size w wr) (T2:TypeId) :
  Keys2 w ((w1.alloc (.cells #[.string r.frm,.string r.dst,.int .i64 r.per] T2)).alloc (.cells #[.string r.dst,.string r.frm,.int .i64 r.per] T2)).drew w.heap.size wr.heap.size w1.heap.size (w1.heap.size+1) n D r ∧
  Keys2 w ((w1.alloc (.cells #[.string r.dst,.string r.frm,.int .i64 r.per] T2)).alloc (.cells #[.string r.frm,.string r.dst,.int .i64 r.per] T2)).drew w.heap.size wr.heap.size (w1.heap.size+1) w1.heap.size n D r:=by
 have hlt:=ht.lt;have h1:wr.heap.size+1≤w1.heap.size:=by have:=hb.size;simpa using this
 have t0:Qew (wr.alloc (.cells r.cells T)) w.heap.size n D:=ht.alloc _;have t1:Qew w1 w.heap.size n D:=by
  obtain ⟨es,clock,q1,q2⟩:=t0;exact ⟨es,clock,(hb.block _ (by omega)).trans q1,q2⟩
 have r1:RtAt w1 wr.heap.size 0 r:=(RtAt.new wr r T).below hb (by omega)
 have B1:Below w.heap.size w w1:=(hw.alloc (by omega) _).trans (hb.mono (by omega))
 have gen:∀ (o1 o2:Obj),Qew ((w1.alloc o1).alloc o2).drew w.heap.size n D∧RtAt ((w1.alloc o1).alloc o2).drew wr.heap.size 0 r∧Below w.heap.size w ((w1.alloc o1).alloc o2).drew∧((w1.alloc o1).alloc o2).drew.heap.size=w1.heap.size+2:=fun o1 o2=>by
  have B2:Below w1.heap.size w1 ((w1.alloc o1).alloc o2).drew:=(((Below.refl _ _).alloc (Nat.le_refl _) o1).alloc (by simp) o2).drew
  exact ⟨((t1.alloc o1).alloc o2).drew,r1.below B2 (by omega),B1.trans (B2.mono (by omega)),by simp⟩
 have two:∀ (f t f' t':ByteArray) (p p':Int),QdW ((w1.alloc (.cells #[.string f,.string t,.int .i64 p] T2)).alloc (.cells #[.string f',.string t',.int .i64 p'] T2)).drew w1.heap.size f t p ∧
   QdW ((w1.alloc (.cells #[.string f,.string t,.int .i64 p] T2)).alloc (.cells #[.string f',.string t',.int .i64 p'] T2)).drew (w1.heap.size+1) f' t' p':=fun f t f' t' p p'=>by
  constructor
  ·exact (QdW.new w1 f t p T2).below ((Below.refl _ _).alloc (Nat.le_refl _) _).drew (by simp)
  ·have:=QdW.new (w1.alloc (.cells #[.string f,.string t,.int .i64 p] T2)) f' t' p' T2
   rw [show (w1.alloc (.cells #[.string f,.string t,.int .i64 p] T2)).heap.size=w1.heap.size+1 by simp] at this
   exact ⟨this.c0,this.c1,this.c2⟩
 constructor
 ·obtain ⟨g1,g2,g3,g4⟩:=gen (.cells #[.string r.frm,.string r.dst,.int .i64 r.per] T2) (.cells #[.string r.dst,.string r.frm,.int .i64 r.per] T2);obtain ⟨p1,p2⟩:=two r.frm r.dst r.dst r.frm r.per r.per;exact ⟨p1,p2,g2,g1,g3,by omega,by omega,by omega,by omega,by omega,by omega⟩
 ·obtain ⟨g1,g2,g3,g4⟩:=gen (.cells #[.string r.dst,.string r.frm,.int .i64 r.per] T2) (.cells #[.string r.frm,.string r.dst,.int .i64 r.per] T2);obtain ⟨p1,p2⟩:=two r.dst r.frm r.frm r.dst r.per r.per;exact ⟨p2,p1,g2,g1,g3,by omega,by omega,by omega,by omega,by omega,by omega⟩
def QhV (B8 B9 c:Nat) (f t:ByteArray) (p n d:Int) (x:World):Prop:=
 (x.cell? ⟨B8,0,none⟩=some (.string f)∧x.cell? ⟨B8,1,none⟩=some (.string t)∧x.cell? ⟨B8,2,none⟩=some (.int .i64 p)) ∧
 (x.cell? ⟨B9,0,none⟩=some (.string t)∧x.cell? ⟨B9,1,none⟩=some (.string f)∧x.cell? ⟨B9,2,none⟩=some (.int .i64 p)) ∧
 x.cell? ⟨c,3,none⟩=some (.int .i64 n)∧x.cell? ⟨c,4,none⟩=some (.int .i64 d)
theorem reads2_of {w W:World} {N c B8 B9 k:Nat} {D:DataW Unit} {r:Rt} (h:Keys2 w W N c B8 B9 k D r):QhV B8 B9 c r.frm r.dst r.per r.num r.den W:=by
 obtain ⟨a0,a1,a2⟩:=h.at8;obtain ⟨b0,b1,b2⟩:=h.at9;obtain ⟨c0,c1,c2,c3,c4⟩:=h.rt;simp only [Nat.zero_add] at c3 c4;exact ⟨⟨a0,a1,a2⟩,⟨b0,b1,b2⟩,c3,c4⟩
theorem Qgf {x y:World} {N c B8 B9:Nat} {f t:ByteArray} {p n d:Int} (h:QhV B8 B9 c f t p n d x) (hg:x.grownBy y (some N)) (h8:B8<x.heap.size∧N<B8) (h9:B9<x.heap.size∧N<B9) (hc:c<x.heap.size∧N<c):QhV B8 B9 c f t p n d y:=by
 have g:∀ b o,b<x.heap.size∧N<b→y.cell? ⟨b,o,none⟩=x.cell? ⟨b,o,none⟩:=fun b o hb=>
  World.cell?_of_block (w:=x) (a:=⟨b,o,none⟩) (hg.block b hb.1 (fun e=>by cases e;omega))
 unfold QhV;rw [g B8 0 h8,g B8 1 h8,g B8 2 h8,g B9 0 h9,g B9 1 h9,g B9 2 h9,g c 3 hc,g c 4 hc];exact h
theorem Qhl {w W:World} {N c B8 B9 k:Nat} {D:DataW Unit} {r:Rt} (h:Keys2 w W N c B8 B9 k D r) (o:Obj):Keys2 w (W.alloc o).drew N c B8 B9 k D r:=by
 have B:Below W.heap.size W (W.alloc o).drew:=((Below.refl _ _).alloc (Nat.le_refl _) _).drew;have sz:(W.alloc o).drew.heap.size=W.heap.size+1:=by simp
 exact ⟨h.at8.below B h.l8,h.at9.below B h.l9,h.rt.below B h.lc,(h.tab.alloc o).drew,h.bel.trans (B.mono (by have:=h.tab.lt;omega)),by have:=h.l8;omega,by have:=h.l9;omega,by have:=h.lc;omega,h.n8,h.n9,h.nc⟩
theorem put2 {w W:World} {N c B8 B9 k:Nat} {D:DataW Unit} {f t:ByteArray} {p n d:Int} (h:Keys2 w W N c B8 B9 k D ⟨f,t,p,n,d⟩) (hk:k+1<maxLen)
  (h1:keyOf prog 188 (Qgk f t p)=some (QaV f t p)) (h2:keyOf prog 188 (Qgk t f p)=some (QaV t f p)) :
  ∃ w3 w4,(Instr.mapUpdate 153 (.map (some N)) (.agg #[.string f,.string t,.int .i64 p]) (.agg #[.int .i64 n,.int .i64 d])).run prog W=.ok () w3 ∧
   (Instr.mapUpdate 153 (.map (some N)) (.agg #[.string t,.string f,.int .i64 p]) (.agg #[.int .i64 d,.int .i64 n])).run prog w3=.ok () w4 ∧
   QhV B8 B9 c f t p n d W∧QhV B8 B9 c f t p n d w3∧QhV B8 B9 c f t p n d w4∧Qew w4 N (k+1+1) (QcE D ⟨f,t,p,n,d⟩)∧Below N w w4:=by
 have hlt:=h.tab.lt;obtain ⟨w3,q1,t3,g3⟩:=h.tab.update Qgy underlying153 (by omega) h1 (QhJ n d)
 obtain ⟨w4,q2,t4,g4⟩:=t3.update Qgy underlying153 hk h2 (QhJ d n);have R0:=reads2_of h;have s3:=g3.size;have l8:=h.l8;have l9:=h.l9;have lc:=h.lc;have R3:=Qgf R0 g3 ⟨l8,h.n8⟩ ⟨l9,h.n9⟩ ⟨lc,h.nc⟩;have R4:=Qgf R3 g4 ⟨by omega,h.n8⟩ ⟨by omega,h.n9⟩ ⟨by omega,h.nc⟩
 have B3:=h.bel.grown g3 (by omega) (fun k e=>by cases e;exact Nat.le_refl _)
 have B4:=B3.grown g4 (by omega) (fun k e=>by cases e;exact Nat.le_refl _)
 exact ⟨w3,w4,q1,q2,R0,R3,R4,t4,B4⟩
theorem Qfp (l:List Rt) (k:Nat) (h:k<l.length):l.drop k=l.getD k rt0 :: l.drop (k+1):=by
 rw [List.drop_eq_getElem_cons h,List.getD_eq_getElem?_getD,List.getElem?_eq_getElem h];rfl
set_option maxRecDepth 100000 in
set_option maxHeartbeats 2000000 in
theorem table_some (b off cap:Nat) (rs:List Rt) (w:World) (hb:b<w.heap.size) (hlen:rs.length≤100) (hcap:rs.length≤cap)
  (hc:∀ k,k<rs.length→RtAt w b (off+k*5) (rs.getD k rt0)) (hsz:∀ k,k<rs.length→(rs.getD k rt0).frm.size≤maxLen∧(rs.getD k rt0).dst.size≤maxLen) (hp:∀ k,k<rs.length→(Lit.int .i64 (rs.getD k rt0).per).wf=true) :
  Calls prog 76 #[.slice (some ⟨b,off,none⟩) rs.length cap] w (Qc0 w (QeW rs)):=by
 have hmm:=make_tab;have Hlen:(rs.length:Int)≤100:=by omega
 have Hc:Hid (∀ k,k<rs.length→RtAt w b (off+k*5) (rs.getD k rt0)):=hc;have Hs:Hid (∀ k,k<rs.length→(rs.getD k rt0).frm.size≤maxLen∧(rs.getD k rt0).dst.size≤maxLen):=hsz;have Hp:Hid (∀ k,k<rs.length→(Lit.int .i64 (rs.getD k rt0).per).wf=true):=hp;clear hc hsz hp;go_enter func76,ntmps76
 go_wp2;go_loopw [22] (fun i wr=>∃ (k:Nat) (D:DataW Unit),k≤rs.length∧i=.int .i64 k∧Hid (Qew wr w.heap.size (2*k) D∧Below w.heap.size w wr∧QeR D (rs.drop k)=QeW rs)) (fun i _=>rs.length - (RowKit.intOf i).toNat)
 case atStart=>exact ⟨0,.map [],Nat.zero_le _,rfl,World.ownsMap_made _ _ _ _,(Below.refl _ _).alloc (Nat.le_refl _) _,by rw [tabS_go (by omega)];rfl⟩
 case round=>
  obtain ⟨k,D,hk,rfl,H⟩:=hrel;by_cases hlt:k<rs.length
  ·have hn:=(Hc.out k hlt).below H.out.2.1 hb;obtain ⟨r,hr⟩:∃ r,rs.getD k rt0=r:=⟨_,rfl⟩;rw [hr] at hn;obtain ⟨f,t,p,n,d⟩:=r;obtain ⟨c0,c1,c2,c3,c4⟩:=hn;simp only at c0 c1 c2 c3 c4;have i0:(0:Int)≤k:=by omega
   have i1:(k:Int)<rs.length:=by omega
   go_wp2_with fail;refine (rtCheck_any ⟨f,t,p,n,d⟩ _).mono ?_;rintro e w1 ⟨rfl,hb1⟩;have hw1:wr.heap.size+1≤w1.heap.size:=by have:=hb1.size;simpa using this
   have hn1:=(RtAt.new wr ⟨f,t,p,n,d⟩ 116).below hb1 (by simp)
   have hb1':Below (wr.heap.size+1) (wr.alloc (.cells (Rt.cells ⟨f,t,p,n,d⟩) 116)) w1:=hb1.mono (by simp)
   have K2:Hid (_∧_):=keys2_of hb1' H.out.1 H.out.2.1 188;have B1:=(H.out.2.1.alloc (by have:=H.out.1.lt;omega) (.cells (Rt.cells ⟨f,t,p,n,d⟩) 116)).trans (hb1'.mono (by have:=H.out.1.lt;omega))
   have HB1:Hid (Below w.heap.size w w1):=B1;clear hb1 hb1' B1 c0 c1 c2 c3 c4;obtain ⟨c0,c1,c2,c3,c4⟩:=hn1;simp only [Nat.zero_add] at c0 c1 c2 c3 c4;have Hr:Hid (rs.getD k rt0=⟨f,t,p,n,d⟩):=hr;clear hr;by_cases hbad:QaO ⟨f,t,p,n,d⟩=0
   ·rw [hbad,Qbk];go_wp2_with fail;go_region_held3 (fun w'=>w'.cell? ⟨wr.heap.size,0,none⟩=some (.string f)∧w'.cell? ⟨wr.heap.size,1,none⟩=some (.string t)∧w'.cell? ⟨wr.heap.size,2,none⟩=some (.int .i64 p)) (go_keep) (fail)
    ·have K:=K2.out.1;clear K2 HB1 hw1
     try dsimp only at K
     generalize ((w1.alloc (.cells #[.string f,.string t,.int .i64 p] 188)).alloc (.cells #[.string t,.string f,.int .i64 p] 188)).drew=W2 at K ⊢;generalize w1.heap.size+1=B9 at K ⊢;generalize w1.heap.size=B8 at K ⊢;generalize wr.heap.size=c at K ⊢;have HK:Hid (Keys2 w W2 w.heap.size c B8 B9 (2*k) D ⟨f,t,p,n,d⟩):=K;clear c0 c1 c2 c3 c4;obtain ⟨⟨a0,a1,a2⟩,⟨b0,b1,b2⟩,⟨c0,c1,c2,c3,c4⟩,K4,K5,l8,l9,lc,n8,n9,nc⟩:=K
     simp only [Nat.zero_add] at a0 a1 a2 b0 b1 b2 c0 c1 c2 c3 c4;clear K4 K5;have hkey:=Qbv (f:=f) (t:=t) (p:=p) (by have:=(Hs.out k hlt).1;rw [Hr.out] at this;exact this) (by have:=(Hs.out k hlt).2;rw [Hr.out] at this;exact this) (by have:=Hp.out k hlt;rw [Hr.out] at this;exact this)
     have hkey2:=Qbv (f:=t) (t:=f) (p:=p) (by have:=(Hs.out k hlt).2;rw [Hr.out] at this;exact this) (by have:=(Hs.out k hlt).1;rw [Hr.out] at this;exact this) (by have:=Hp.out k hlt;rw [Hr.out] at this;exact this)
     have Hkey:Hid (keyOf prog 188 (Qgk f t p)=some (QaV f t p)):=hkey;have Hkey2:Hid (keyOf prog 188 (Qgk t f p)=some (QaV t f p)):=hkey2;clear hkey hkey2;cases hh:has D (QaV f t p)
     ·go_wp2_with (first | (at_lookup;refine QaK _ rfl rfl _ _ rfl w.heap.size (2*k) D rfl HK.out.tab _ _ rfl Hkey.out ?_;intro pp qq hpq) | go_in);clear hpq;obtain ⟨w3,w4,q1,q2,R2,R3,R4,T4,B4⟩:=put2 (Qhl HK.out (.cells #[.int .i64 pp,.int .i64 qq] 190)) (by unfold maxLen;omega) Hkey.out Hkey2.out
      have HT:Hid (Qew w4 w.heap.size (2*k+1+1) (QcE D ⟨f,t,p,n,d⟩)∧Below w.heap.size w w4):=⟨T4,B4⟩;clear T4 B4;go_region_held3 (fun x=>(x.cell? ⟨B8,0,none⟩=some (.string f)∧x.cell? ⟨B8,1,none⟩=some (.string t)∧x.cell? ⟨B8,2,none⟩=some (.int .i64 p))∧(x.cell? ⟨B9,0,none⟩=some (.string t)∧x.cell? ⟨B9,1,none⟩=some (.string f)∧x.cell? ⟨B9,2,none⟩=some (.int .i64 p))∧x.cell? ⟨c,3,none⟩=some (.int .i64 n)∧x.cell? ⟨c,4,none⟩=some (.int .i64 d)) (first | exact R2 | exact R3 | exact R4) (fail)
      go_wp2;go_roundw
      case rel=>
       refine ⟨k+1,QcE D ⟨f,t,p,n,d⟩,by omega,by go_num,HT.out.1,HT.out.2,?_⟩
       rw [← H.out.2.2,Qfp rs k hlt,Hr.out];exact (QfO hbad hh).symm
      case measure=>simp [RowKit.intOf];omega
     ·go_wp2_with (first | (at_lookup;refine QaK _ rfl rfl _ _ rfl w.heap.size (2*k) D rfl HK.out.tab _ _ rfl Hkey.out ?_;intro pp qq hpq) | go_in);go_ret2;have E:QeW rs=(8,D):=by
       rw [← H.out.2.2,Qfp rs k hlt,Hr.out];exact Qet hbad hh
      rw [E];exact ⟨HK.out.bel.alloc (by have:=HK.out.tab.lt;omega) _,fun _=>rfl,fun h=>by cases h⟩
    ·have K:=K2.out.2;clear K2 HB1 hw1
     try dsimp only at K
     generalize ((w1.alloc (.cells #[.string t,.string f,.int .i64 p] 188)).alloc (.cells #[.string f,.string t,.int .i64 p] 188)).drew=W2 at K ⊢;generalize w1.heap.size+1=B8 at K ⊢;generalize w1.heap.size=B9 at K ⊢;generalize wr.heap.size=c at K ⊢;have HK:Hid (Keys2 w W2 w.heap.size c B8 B9 (2*k) D ⟨f,t,p,n,d⟩):=K;clear c0 c1 c2 c3 c4;obtain ⟨⟨a0,a1,a2⟩,⟨b0,b1,b2⟩,⟨c0,c1,c2,c3,c4⟩,K4,K5,l8,l9,lc,n8,n9,nc⟩:=K
     simp only [Nat.zero_add] at a0 a1 a2 b0 b1 b2 c0 c1 c2 c3 c4;clear K4 K5;have hkey:=Qbv (f:=f) (t:=t) (p:=p) (by have:=(Hs.out k hlt).1;rw [Hr.out] at this;exact this) (by have:=(Hs.out k hlt).2;rw [Hr.out] at this;exact this) (by have:=Hp.out k hlt;rw [Hr.out] at this;exact this)
     have hkey2:=Qbv (f:=t) (t:=f) (p:=p) (by have:=(Hs.out k hlt).2;rw [Hr.out] at this;exact this) (by have:=(Hs.out k hlt).1;rw [Hr.out] at this;exact this) (by have:=Hp.out k hlt;rw [Hr.out] at this;exact this)
     have Hkey:Hid (keyOf prog 188 (Qgk f t p)=some (QaV f t p)):=hkey;have Hkey2:Hid (keyOf prog 188 (Qgk t f p)=some (QaV t f p)):=hkey2;clear hkey hkey2;cases hh:has D (QaV f t p)
     ·go_wp2_with (first | (at_lookup;refine QaK _ rfl rfl _ _ rfl w.heap.size (2*k) D rfl HK.out.tab _ _ rfl Hkey.out ?_;intro pp qq hpq) | go_in);clear hpq;obtain ⟨w3,w4,q1,q2,R2,R3,R4,T4,B4⟩:=put2 (Qhl HK.out (.cells #[.int .i64 pp,.int .i64 qq] 190)) (by unfold maxLen;omega) Hkey.out Hkey2.out
      have HT:Hid (Qew w4 w.heap.size (2*k+1+1) (QcE D ⟨f,t,p,n,d⟩)∧Below w.heap.size w w4):=⟨T4,B4⟩;clear T4 B4;go_region_held3 (fun x=>(x.cell? ⟨B8,0,none⟩=some (.string f)∧x.cell? ⟨B8,1,none⟩=some (.string t)∧x.cell? ⟨B8,2,none⟩=some (.int .i64 p))∧(x.cell? ⟨B9,0,none⟩=some (.string t)∧x.cell? ⟨B9,1,none⟩=some (.string f)∧x.cell? ⟨B9,2,none⟩=some (.int .i64 p))∧x.cell? ⟨c,3,none⟩=some (.int .i64 n)∧x.cell? ⟨c,4,none⟩=some (.int .i64 d)) (first | exact R2 | exact R3 | exact R4) (fail)
      go_wp2;go_roundw
      case rel=>
       refine ⟨k+1,QcE D ⟨f,t,p,n,d⟩,by omega,by go_num,HT.out.1,HT.out.2,?_⟩
       rw [← H.out.2.2,Qfp rs k hlt,Hr.out];exact (QfO hbad hh).symm
      case measure=>simp [RowKit.intOf];omega
     ·go_wp2_with (first | (at_lookup;refine QaK _ rfl rfl _ _ rfl w.heap.size (2*k) D rfl HK.out.tab _ _ rfl Hkey.out ?_;intro pp qq hpq) | go_in);go_ret2;have E:QeW rs=(8,D):=by
       rw [← H.out.2.2,Qfp rs k hlt,Hr.out];exact Qet hbad hh
      rw [E];exact ⟨HK.out.bel.alloc (by have:=HK.out.tab.lt;omega) _,fun _=>rfl,fun h=>by cases h⟩
   ·rw [show Qec (QaO ⟨f,t,p,n,d⟩)=.iface 66 (.int .i64 (QaO ⟨f,t,p,n,d⟩)) from if_neg hbad]
    have E:Hid (QeW rs=(QaO ⟨f,t,p,n,d⟩,D)):=by
     rw [Hid,← H.out.2.2,Qfp rs k hlt,Hr.out];exact tabGo_bad hbad
    go_wp2;go_ret2;rw [E.out];exact ⟨HB1.out,fun _=>by rw [show Qec (QaO ⟨f,t,p,n,d⟩)=.iface 66 (.int .i64 (QaO ⟨f,t,p,n,d⟩)) from if_neg hbad];rfl,fun h=>absurd h hbad⟩
  ·have hk2:k=rs.length:=by omega
   subst hk2;go_wp2;go_ret2;have E:QeW rs=(0,D):=by rw [← H.out.2.2,List.drop_length,tabGo_nil]
   rw [E];exact ⟨H.out.2.1,fun h=>absurd rfl h,fun _=>⟨_,rfl,Nat.le_refl _,H.out.1.mono (by omega)⟩⟩
end
section
open Go.RowKit Go.Lib Go.Proofs.Tryz
theorem divisor_any (a b:Nat) (w:World) (ha:a<9223372036854775808) (hb:b<9223372036854775808) :
  Calls prog 257 #[.int .i64 a,.int .i64 b] w fun e w'=>e=.returned (.int .i64 (Nat.gcd a b))∧Below w.heap.size w w':=by
 have Hab:Hid (a<9223372036854775808∧b<9223372036854775808):=⟨ha,hb⟩;clear ha hb;go_enter func257,ntmps257
 go_wp2;go_loopw [0,1] (fun x y wr=>∃ u v:Nat,x=.int .i64 u∧y=.int .i64 v∧Hid (u<9223372036854775808∧v<9223372036854775808∧Nat.gcd u v=Nat.gcd a b)∧Below w.heap.size w wr) (fun _ y _=>(RowKit.intOf y).toNat)
 case atStart=>exact ⟨a,b,rfl,rfl,⟨Hab.out.1,Hab.out.2,rfl⟩,Below.refl _ _⟩
 case round=>
  obtain ⟨u,v,rfl,rfl,H,hB⟩:=hrel;by_cases h0:v=0
  ·subst h0;go_wp2;go_ret;refine ⟨?_,hB⟩;rw [← H.out.2.2,Nat.gcd_zero_right];rfl
  ·have v1:1≤(v:Int):=by omega
   have v0:((v:Int) == 0)=false:=by simp;omega
   have v2:¬ (v:Int)=0:=by omega
   have e1:(u:Int).tmod (v:Int)=((u % v:Nat):Int):=by rw [Int.tmod_eq_emod_of_nonneg (by omega)];rfl
   have e2:u % v<v:=Nat.mod_lt _ (by omega)
   have u1:=H.out.1;have v3:=H.out.2.1;go_wp2;go_region
   go_wp2;go_roundw
   case rel=>
    refine ⟨v,u % v,rfl,rfl,⟨v3,by omega,?_⟩,hB.drew⟩
    rw [← H.out.2.2,Nat.gcd_comm,← Nat.gcd_rec,Nat.gcd_comm]
   case measure=>simp [RowKit.intOf];omega
def Qel (a b:Nat):Nat:=a / Nat.gcd a b
def Qb9 (n1 d1 n2 d2:Nat):Int×Int×Int:=
 if 1000000000<Qel (n1*n2) (d1*d2)∨1000000000<Qel (d1*d2) (n1*n2) then (0,0,10) else (Qel (n1*n2) (d1*d2),Qel (d1*d2) (n1*n2),0)
set_option maxHeartbeats 1000000 in
theorem chain_any (n1 d1 n2 d2:Nat) (w:World) (h1:1≤n1∧n1≤1000000000) (h2:1≤d1∧d1≤1000000000) (h3:1≤n2∧n2≤1000000000) (h4:1≤d2∧d2≤1000000000) :
  Calls prog 237 #[.agg #[.int .i64 n1,.int .i64 d1],.agg #[.int .i64 n2,.int .i64 d2]] w fun e w'=>e=.returned (.tuple #[.int .i64 (Qb9 n1 d1 n2 d2).1,.int .i64 (Qb9 n1 d1 n2 d2).2.1,Qec (Qb9 n1 d1 n2 d2).2.2])∧Below w.heap.size w w':=by
 obtain ⟨N,hN⟩:∃ N,n1*n2=N:=⟨_,rfl⟩;obtain ⟨M,hM⟩:∃ M,d1*d2=M:=⟨_,rfl⟩;have N1:1≤N∧N≤1000000000000000000:=by
  rw [← hN];exact ⟨Nat.mul_pos h1.1 h3.1,Nat.le_trans (Nat.mul_le_mul h1.2 h3.2) (by omega)⟩
 have M1:1≤M∧M≤1000000000000000000:=by
  rw [← hM];exact ⟨Nat.mul_pos h2.1 h4.1,Nat.le_trans (Nat.mul_le_mul h2.2 h4.2) (by omega)⟩
 have eN:(n1:Int)*n2=N:=by rw [← hN];simp
 have eM:(d1:Int)*d2=M:=by rw [← hM];simp
 obtain ⟨g,hg⟩:∃ g,Nat.gcd N M=g:=⟨_,rfl⟩;have g1:1≤g:=by rw [← hg];exact Nat.gcd_pos_of_pos_left _ (by omega)
 have dv:=divisor_any N M;rw [hg] at dv;have C1:Qel N M=N / g:=by unfold Qel;rw [hg]
 have C2:Qel M N=M / g:=by unfold Qel;rw [Nat.gcd_comm,hg]
 have RS:Hid (Qb9 n1 d1 n2 d2=if 1000000000<N / g∨1000000000<M / g then (0,0,10) else (((N / g:Nat):Int),((M / g:Nat):Int),0)):=by
  unfold Hid Qb9;rw [hN,hM,C1,C2]
 obtain ⟨x,hx⟩:∃ x,N / g=x:=⟨_,rfl⟩;obtain ⟨y,hy⟩:∃ y,M / g=y:=⟨_,rfl⟩;have ex:(N:Int) / (g:Int)=x:=by rw [← hx];rfl
 have ey:(M:Int) / (g:Int)=y:=by rw [← hy];rfl
 have lx:x≤N:=by rw [← hx];exact Nat.div_le_self _ _
 have ly:y≤M:=by rw [← hy];exact Nat.div_le_self _ _
 rw [hx,hy] at RS;have tx:(N:Int).tdiv (g:Int)=x:=by rw [Int.tdiv_eq_ediv_of_nonneg (by omega)];exact ex
 have ty:(M:Int).tdiv (g:Int)=y:=by rw [Int.tdiv_eq_ediv_of_nonneg (by omega)];exact ey
 clear hx hy C1 C2 hg hN hM;have g0:((g:Int) == 0)=false:=by simp;omega
 have g2:¬ (g:Int)=0:=by omega
 have Hdv:Hid (∀ W,Calls prog 257 #[.int .i64 N,.int .i64 M] W fun e w'=>e=.returned (.int .i64 g)∧Below W.heap.size W w'):=fun W=>dv W (by omega) (by omega)
 clear dv;have a1:(N:Int)≤1000000000000000000:=by omega
 have a2:(M:Int)≤1000000000000000000:=by omega
 have a3:(0:Int)≤N:=by omega
 have a4:(0:Int)≤M:=by omega
 go_enter func237,ntmps237
 go_wp2;go_region
 go_wp2_with fail;refine (Hdv.out _).mono ?_;rintro e w1 ⟨rfl,hb⟩;have B1:Below w.heap.size w w1:=((((Below.refl _ w).alloc (Nat.le_refl _) _).alloc (by simp) _).drew).trans (hb.mono (by simp;omega))
 clear hb;go_wp2;go_region
 by_cases k1:1000000000<(x:Int)
 ·go_wp2;go_ret3;refine ⟨?_,B1.drew⟩;rw [RS.out,if_pos (by omega)]
  rfl
 by_cases k2:1000000000<(y:Int)
 ·go_wp2;go_ret3;refine ⟨?_,B1.drew⟩;rw [RS.out,if_pos (by omega)]
  rfl
 go_wp2;go_ret3;refine ⟨?_,B1.drew⟩;rw [RS.out,if_neg (by omega)]
 rfl
end
section
open Go.RowKit Go.Lib Go.Maps Go.Proofs.Tryz
theorem QbP {s:ByteArray} (h:Qat s=true):s.size≤maxLen:=by
 have:s.size=3:=by
  unfold Qat at h;simp only [Bool.and_eq_true,beq_iff_eq] at h;exact h.1
 rw [this];unfold maxLen;omega
theorem upTo_bd {n m:Int} (h:Qav n m=true):1≤n∧n≤m:=by simpa [Qav] using h
theorem QhY {p:Int} (h:Qav p 120=true):(Lit.int .i64 p).wf=true:=by
 have:=upTo_bd h
 exact WalkArith.wf_i64 (by omega)
theorem rateBad_zero {r:Rt} (h:QaO r=0):Qat r.frm=true∧Qat r.dst=true∧r.frm≠r.dst∧Qav r.per 120=true∧Qav r.num 1000000000=true∧Qav r.den 1000000000=true:=by
 unfold QaO at h;split at h
 ·cases h
 ·rename_i a;split at h
  ·cases h
  ·rename_i b;split at h
   ·cases h
   ·rename_i c;simp only [not_or,Bool.not_eq_false] at a c;exact ⟨a.1,a.2,b,c.1,c.2.1,c.2.2⟩
def num2:DataW Unit→Int×Int
 | .agg [.lit (.int .i64 n),.lit (.int .i64 d)]=>(n,d)
 | _=>(0,0)
def Qal (D:DataW Unit) (kl:Lit):Int×Int:=num2 (D.atKey kl (wD 0 0))
def QbU (D:DataW Unit):Prop:=∀ kl,has D kl=true→(1≤(Qal D kl).1∧(Qal D kl).1≤1000000000)∧1≤(Qal D kl).2∧(Qal D kl).2≤1000000000
def QiI (D:DataW Unit):Prop:=∀ f t p,Qat f=true→Qat t=true→Qav p 120=true→has D (QaV f t p)=has D (QaV t f p)∧(Qal D (QaV f t p)).1=(Qal D (QaV t f p)).2
def Qd6 (D:DataW Unit):Prop:=∀ f p,Qat f=true→Qav p 120=true→has D (QaV f f p)=false
theorem Qiu {f t f' t':ByteArray} {p p':Int} (hf:Qat f=true) (ht:Qat t=true) (hp:Qav p 120=true) (hf':Qat f'=true) (ht':Qat t'=true) (hp':Qav p' 120=true):QaV f t p=QaV f' t' p'↔f=f'∧t=t'∧p=p':=
 ⟨fun h=>keyL_inj (QbP hf) (QbP ht) (QhY hp) (QbP hf') (QbP ht') (QhY hp') h,fun ⟨h1,h2,h3⟩=>by rw [h1,h2,h3]⟩
open Classical in
theorem QgD {D:DataW Unit} (hD:IsMap D) (k1 k2 kl:Lit) (h1:WideAt.IsKeyLit k1) (h2:WideAt.IsKeyLit k2) (a b:DataW Unit):has ((D.put k1 a).put k2 b) kl=(decide (kl=k2) || (decide (kl=k1) || has D kl)):=by
 by_cases e2:kl=k2
 ·subst e2;rw [has_put_same (hD.put _ _) h2];simp
 ·rw [has_put_other e2];by_cases e1:kl=k1
  ·subst e1;rw [has_put_same hD h1];simp
  ·rw [has_put_other e1];simp [e1,e2]
open Classical in
theorem num_put2 {D:DataW Unit} (hD:IsMap D) (k1 k2 kl:Lit) (h1:WideAt.IsKeyLit k1) (h2:WideAt.IsKeyLit k2) (a b c d:Int):Qal ((D.put k1 (wD a b)).put k2 (wD c d)) kl=if kl=k2 then (c,d) else if kl=k1 then (a,b) else Qal D kl:=by
 unfold Qal;by_cases e2:kl=k2
 ·subst e2;rw [atKey_put_same (hD.put _ _) h2,if_pos rfl];rfl
 ·rw [atKey_put_other e2,if_neg e2];by_cases e1:kl=k1
  ·subst e1;rw [atKey_put_same hD h1,if_pos rfl];rfl
  ·rw [atKey_put_other e1,if_neg e1]
theorem tab_step {D:DataW Unit} {r:Rt} (hb:QaO r=0) (hD:IsMap D) (hg:QbU D) (hs:QiI D) (ha:Qd6 D):IsMap (QcE D r)∧QbU (QcE D r)∧QiI (QcE D r)∧Qd6 (QcE D r):=by
 obtain ⟨b1,b2,b3,b4,b5,b6⟩:=rateBad_zero hb;have n5:=upTo_bd b5;have n6:=upTo_bd b6;refine ⟨(hD.put _ _).put _ _,?_,?_,?_⟩
 ·intro kl h;unfold QcE at h ⊢;rw [num_put2 hD _ _ _ (QaL _ _ _) (QaL _ _ _)];rw [QgD hD _ _ _ (QaL _ _ _) (QaL _ _ _)] at h;by_cases e2:kl=QaV r.dst r.frm r.per
  ·rw [if_pos e2];exact ⟨n6,n5⟩
  ·rw [if_neg e2];by_cases e1:kl=QaV r.frm r.dst r.per
   ·rw [if_pos e1];exact ⟨n5,n6⟩
   ·rw [if_neg e1];simp [e1,e2] at h;exact hg kl h
 ·intro f t p hf ht hp;unfold QcE;rw [QgD hD _ _ _ (QaL _ _ _) (QaL _ _ _),QgD hD _ _ _ (QaL _ _ _) (QaL _ _ _),num_put2 hD _ _ _ (QaL _ _ _) (QaL _ _ _),num_put2 hD _ _ _ (QaL _ _ _) (QaL _ _ _)];have q1:=Qiu hf ht hp b2 b1 b4;have q2:=Qiu hf ht hp b1 b2 b4;have q3:=Qiu ht hf hp b2 b1 b4;have q4:=Qiu ht hf hp b1 b2 b4
  obtain ⟨s1,s2⟩:=hs f t p hf ht hp;by_cases e1:f=r.dst∧t=r.frm∧p=r.per
  ·have z1:=q1.2 e1;have z4:=q4.2 ⟨e1.2.1,e1.1,e1.2.2⟩;have z3:¬ QaV t f p=QaV r.dst r.frm r.per:=fun h=>b3 (by have:=q3.1 h;rw [← this.2.1,e1.1])
   rw [if_pos z1,if_neg z3,if_pos z4];simp [z1,z4]
  ·by_cases e2:f=r.frm∧t=r.dst∧p=r.per
   ·have z2:=q2.2 e2;have z1:¬ QaV f t p=QaV r.dst r.frm r.per:=fun h=>e1 (q1.1 h)
    have z3:=q3.2 ⟨e2.2.1,e2.1,e2.2.2⟩;rw [if_neg z1,if_pos z2,if_pos z3];simp [z2,z3]
   ·have z1:¬ QaV f t p=QaV r.dst r.frm r.per:=fun h=>e1 (q1.1 h)
    have z2:¬ QaV f t p=QaV r.frm r.dst r.per:=fun h=>e2 (q2.1 h)
    have z3:¬ QaV t f p=QaV r.dst r.frm r.per:=fun h=>e2 (by have:=q3.1 h;exact ⟨this.2.1,this.1,this.2.2⟩)
    have z4:¬ QaV t f p=QaV r.frm r.dst r.per:=fun h=>e1 (by have:=q4.1 h;exact ⟨this.2.1,this.1,this.2.2⟩)
    rw [if_neg z1,if_neg z2,if_neg z3,if_neg z4];simp only [z1,z2,z3,z4,decide_false,Bool.false_or];exact ⟨s1,s2⟩
 ·intro f p hf hp;unfold QcE;rw [QgD hD _ _ _ (QaL _ _ _) (QaL _ _ _)];have z1:¬ QaV f f p=QaV r.dst r.frm r.per:=fun h=>b3 (by have:=(Qiu hf hf hp b2 b1 b4).1 h;rw [← this.1,← this.2.1])
  have z2:¬ QaV f f p=QaV r.frm r.dst r.per:=fun h=>b3 (by have:=(Qiu hf hf hp b1 b2 b4).1 h;rw [← this.1,← this.2.1])
  simp only [z1,z2,decide_false,Bool.false_or];exact ha f p hf hp
theorem QiM:∀ (rs:List Rt) (D:DataW Unit),IsMap D→QbU D→QiI D→Qd6 D→QbU (QeR D rs).2∧QiI (QeR D rs).2∧Qd6 (QeR D rs).2
 | [],D,_,h1,h2,h3=>⟨h1,h2,h3⟩
 | r :: rs,D,h0,h1,h2,h3=>by
  by_cases hb:QaO r=0
  ·cases hh:has D (QaV r.frm r.dst r.per)
   ·rw [QfO hb hh];obtain ⟨g0,g1,g2,g3⟩:=tab_step hb h0 h1 h2 h3;exact QiM rs _ g0 g1 g2 g3
   ·rw [Qet hb hh];exact ⟨h1,h2,h3⟩
  ·rw [tabGo_bad hb];exact ⟨h1,h2,h3⟩
theorem empty_good:QbU (.map [])∧QiI (.map [])∧Qd6 (.map []):=
 ⟨fun kl h=>by simp [has] at h,fun f t p _ _ _=>⟨rfl,rfl⟩,fun f p _ _=>rfl⟩
theorem tabS_good (rs:List Rt):QbU (QeW rs).2∧QiI (QeW rs).2∧Qd6 (QeW rs).2:=by
 obtain ⟨e1,e2,e3⟩:=empty_good;unfold QeW
 split
 ·exact ⟨e1,e2,e3⟩
 ·exact QiM rs _ isMap_empty e1 e2 e3
def Qdz (S:Int×DataW Unit) (base f t:ByteArray) (p:Int):Int×Int×Int:=
 if S.1≠0 then (0,0,S.1)
 else if Qat base=false∨Qat f=false∨Qat t=false then (0,0,2)
 else if Qav p 120=false then (0,0,1)
 else if f=t then (1,1,0)
 else if has S.2 (QaV f t p)=true then ((Qal S.2 (QaV f t p)).1,(Qal S.2 (QaV f t p)).2,0)
 else if has S.2 (QaV f base p)=false∨has S.2 (QaV base t p)=false then (0,0,6)
 else Qb9 (Qal S.2 (QaV f base p)).1.toNat (Qal S.2 (QaV f base p)).2.toNat (Qal S.2 (QaV base t p)).1.toNat (Qal S.2 (QaV base t p)).2.toNat
end
section
open Go.RowKit Go.Lib Go.Maps Go.Proofs.Tryz
theorem QaU {n:Int} (h:n≠0):Qec n=.iface 66 (.int .i64 n):=if_neg h
theorem chain_of {D:DataW Unit} {k1 k2:Lit} {p1 q1 p2 q2:Int} {R:Int×Int×Int} (H1:Qal D k1=(p1,q1)) (H2:Qal D k2=(p2,q2))
  (g1:(1≤(Qal D k1).1∧(Qal D k1).1≤1000000000)∧1≤(Qal D k1).2∧(Qal D k1).2≤1000000000) (g2:(1≤(Qal D k2).1∧(Qal D k2).1≤1000000000)∧1≤(Qal D k2).2∧(Qal D k2).2≤1000000000)
  (e1:R=Qb9 (Qal D k1).1.toNat (Qal D k1).2.toNat (Qal D k2).1.toNat (Qal D k2).2.toNat) (W:World) :
  Calls prog 237 #[.agg #[.int .i64 p1,.int .i64 q1],.agg #[.int .i64 p2,.int .i64 q2]] W fun e w'=>e=.returned (.tuple #[.int .i64 R.1,.int .i64 R.2.1,Qec R.2.2])∧Below W.heap.size W w':=by
 rw [H1] at g1 e1;rw [H2] at g2 e1;simp only at g1 g2 e1
 have:=chain_any p1.toNat q1.toNat p2.toNat q2.toNat W (by omega) (by omega) (by omega) (by omega)
 rw [← e1,Int.toNat_of_nonneg (by omega),Int.toNat_of_nonneg (by omega),Int.toNat_of_nonneg (by omega),Int.toNat_of_nonneg (by omega)] at this
 exact this
set_option maxHeartbeats 4000000 in
theorem find_any (a:Option Addr) (len cap:Nat) (S:Int×DataW Unit) (base f t:ByteArray) (p:Int) (w:World) (ht:Calls prog 76 #[.slice a len cap] w (Qc0 w S)) (hg:QbU S.2) :
  Calls prog 209 #[.slice a len cap,.string base,.string f,.string t,.int .i64 p] w fun e w'=>e=.returned (.tuple #[.int .i64 (Qdz S base f t p).1,.int .i64 (Qdz S base f t p).2.1,Qec (Qdz S base f t p).2.2])∧Below w.heap.size w w':=by
 obtain ⟨R,hR⟩:∃ R,Qdz S base f t p=R:=⟨_,rfl⟩;rw [hR];have HR:Hid (Qdz S base f t p=R):=hR;clear hR;have Ht:Hid (Calls prog 76 #[.slice a len cap] w (Qc0 w S)):=ht;have Hg:Hid (QbU S.2):=hg;clear ht hg;obtain ⟨E,D⟩:=S;go_enter func209,ntmps209
 go_wp2_with fail;refine Ht.out.mono ?_;rintro e w1 ⟨B1,hbad,hok⟩;simp only at hbad hok;by_cases hE:E≠0
 ·obtain rfl:=hbad hE;have eR:R=(0,0,E):=by rw [← HR.out];simp [Qdz,hE]
  rw [QaU hE];subst eR;clear hok hbad Ht;go_wp2;go_ret3;exact ⟨by rw [QaU hE];rfl,B1⟩
 have hE:E=0:=Decidable.not_not.1 hE;obtain ⟨N,rfl,hN,hT⟩:=hok hE;subst hE;clear hbad hok Ht;have HT:Hid (Qew w1 N 200 D):=hT;clear hT;have eR:Hid (R=if Qat base=false∨Qat f=false∨Qat t=false then (0,0,2) else if Qav p 120=false then (0,0,1) else if f=t then (1,1,0) else if has D (QaV f t p)=true then ((Qal D (QaV f t p)).1,(Qal D (QaV f t p)).2,0)
  else if has D (QaV f base p)=false∨has D (QaV base t p)=false then (0,0,6)
  else Qb9 (Qal D (QaV f base p)).1.toNat (Qal D (QaV f base p)).2.toNat (Qal D (QaV base t p)).1.toNat (Qal D (QaV base t p)).2.toNat):=by
  unfold Hid;rw [← HR.out];simp [Qdz]
 clear HR;go_wp2_with fail;refine (Qdg base _).mono ?_;rintro e w2 ⟨rfl,hb2⟩;have B2:=B1.trans (hb2.mono B1.size);have T2:Hid (Qew w2 N 200 D):=by
  obtain ⟨es,clock,q1,q2⟩:=HT.out;exact ⟨es,clock,(hb2.block _ HT.out.lt).trans q1,q2⟩
 clear hb2 HT B1;cases h1:Qat base
 ·have e1:R=(0,0,2):=by rw [eR.out];simp [h1]
  subst e1;go_wp2;go_ret3;exact ⟨rfl,B2⟩
 go_wp2_with fail;refine (Qdg f _).mono ?_;rintro e w3 ⟨rfl,hb3⟩;have B3:=B2.trans (hb3.mono B2.size);have T3:Hid (Qew w3 N 200 D):=by
  obtain ⟨es,clock,q1,q2⟩:=T2.out;exact ⟨es,clock,(hb3.block _ T2.out.lt).trans q1,q2⟩
 clear hb3 T2 B2;cases h2:Qat f
 ·have e1:R=(0,0,2):=by rw [eR.out];simp [h2]
  subst e1;go_wp2;go_ret3;exact ⟨rfl,B3⟩
 go_wp2_with fail;refine (Qdg t _).mono ?_;rintro e w4 ⟨rfl,hb4⟩;have B4:=B3.trans (hb4.mono B3.size);have T4:Hid (Qew w4 N 200 D):=by
  obtain ⟨es,clock,q1,q2⟩:=T3.out;exact ⟨es,clock,(hb4.block _ T3.out.lt).trans q1,q2⟩
 clear hb4 T3 B3;cases h3:Qat t
 ·have e1:R=(0,0,2):=by rw [eR.out];simp [h3]
  subst e1;go_wp2;go_ret3;exact ⟨rfl,B4⟩
 go_wp2_with fail;refine (QgJ p 120 _).mono ?_;rintro e w' ⟨rfl,hw⟩;rw [hw];clear hw w';cases h4:Qav p 120
 ·have e1:R=(0,0,1):=by rw [eR.out];simp [h1,h2,h3,h4]
  subst e1;go_wp2;go_ret3;exact ⟨rfl,B4⟩
 by_cases h5:f=t
 ·have e1:R=(1,1,0):=by rw [eR.out];simp [h1,h3,h4,h5]
  subst e1;subst h5;go_wp2;go_ret3;exact ⟨rfl,B4⟩
 have h5':=texts_ne h5;have k1:Hid (keyOf prog 188 (Qgk f t p)=some (QaV f t p)):=Qbv (QbP h2) (QbP h3) (QhY h4);have k2:Hid (keyOf prog 188 (Qgk f base p)=some (QaV f base p)):=Qbv (QbP h2) (QbP h1) (QhY h4);have k3:Hid (keyOf prog 188 (Qgk base t p)=some (QaV base t p)):=Qbv (QbP h1) (QbP h3) (QhY h4);have eR2:Hid (R=if has D (QaV f t p)=true then ((Qal D (QaV f t p)).1,(Qal D (QaV f t p)).2,0)
  else if has D (QaV f base p)=false∨has D (QaV base t p)=false then (0,0,6)
  else Qb9 (Qal D (QaV f base p)).1.toNat (Qal D (QaV f base p)).2.toNat (Qal D (QaV base t p)).1.toNat (Qal D (QaV base t p)).2.toNat):=by
  unfold Hid;rw [eR.out];simp [h1,h2,h3,h4,h5]
 clear eR h1 h2 h3 h4;have hsz:=B4.size;cases h6:has D (QaV f t p)
 ·have eR3:Hid (R=if has D (QaV f base p)=false∨has D (QaV base t p)=false then (0,0,6)
   else Qb9 (Qal D (QaV f base p)).1.toNat (Qal D (QaV f base p)).2.toNat (Qal D (QaV base t p)).1.toNat (Qal D (QaV base t p)).2.toNat):=by
   unfold Hid;rw [eR2.out,if_neg (by rw [h6];simp)]
  clear eR2;cases h7:has D (QaV f base p)
  ·have e1:R=(0,0,6):=by rw [eR3.out];simp [h7]
   subst e1;go_wp2_with (first | (at_lookup;refine QaK _ rfl rfl _ _ rfl N 200 D rfl T4.out _ _ rfl k1.out ?_;intro pp qq hpq;clear hpq) | (at_lookup;refine QaK _ rfl rfl _ _ rfl N 200 D rfl (T4.out.alloc _) _ _ rfl k2.out ?_;intro p1 q1 hpq;clear hpq) | (at_lookup;refine QaK _ rfl rfl _ _ rfl N 200 D rfl ((T4.out.alloc _).alloc _) _ _ rfl k3.out ?_;intro p2 q2 hpq;clear hpq) | go_in)
   go_ret3;exact ⟨rfl,((B4.alloc hsz _).alloc (by simp;omega) _).alloc (by simp;omega) _⟩
  cases h8:has D (QaV base t p)
  ·have e1:R=(0,0,6):=by rw [eR3.out];simp [h8]
   subst e1;go_wp2_with (first | (at_lookup;refine QaK _ rfl rfl _ _ rfl N 200 D rfl T4.out _ _ rfl k1.out ?_;intro pp qq hpq;clear hpq) | (at_lookup;refine QaK _ rfl rfl _ _ rfl N 200 D rfl (T4.out.alloc _) _ _ rfl k2.out ?_;intro p1 q1 hpq;clear hpq) | (at_lookup;refine QaK _ rfl rfl _ _ rfl N 200 D rfl ((T4.out.alloc _).alloc _) _ _ rfl k3.out ?_;intro p2 q2 hpq;clear hpq) | go_in)
   go_ret3;exact ⟨rfl,((B4.alloc hsz _).alloc (by simp;omega) _).alloc (by simp;omega) _⟩
  have e1:Hid (R=Qb9 (Qal D (QaV f base p)).1.toNat (Qal D (QaV f base p)).2.toNat (Qal D (QaV base t p)).1.toNat (Qal D (QaV base t p)).2.toNat):=by
   unfold Hid;rw [eR3.out,if_neg (by rw [h7,h8];simp)]
  have g1:Hid (_∧_):=Hg.out _ h7;have g2:Hid (_∧_):=Hg.out _ h8;clear eR3;go_wp2_with (first | (at_lookup;refine QaK _ rfl rfl _ _ rfl N 200 D rfl T4.out _ _ rfl k1.out ?_;intro pp qq hpq;clear hpq) | (at_lookup;refine QaK _ rfl rfl _ _ rfl N 200 D rfl (T4.out.alloc _) _ _ rfl k2.out ?_;intro p1 q1 hpq;have H1:Hid (Qal D (QaV f base p)=(p1,q1)):=(by unfold Hid Qal;rw [hpq];rfl);clear hpq) | (at_lookup;refine QaK _ rfl rfl _ _ rfl N 200 D rfl ((T4.out.alloc _).alloc _) _ _ rfl k3.out ?_;intro p2 q2 hpq;have H2:Hid (Qal D (QaV base t p)=(p2,q2)):=(by unfold Hid Qal;rw [hpq];rfl);clear hpq) | (go_at_call 237;refine (chain_of H1.out H2.out g1.out g2.out e1.out _).mono ?_;rintro e w9 ⟨rfl,hb9⟩) | go_in)
  go_ret3;refine ⟨rfl,Below.trans (((B4.alloc hsz _).alloc (by simp;omega) _).alloc (by simp;omega) _) (hb9.mono (by simp;omega))⟩
 ·go_wp2_with (first | (at_lookup;refine QaK _ rfl rfl _ _ rfl N 200 D rfl T4.out _ _ rfl k1.out ?_;intro pp qq hpq) | go_in);have e1:Hid (R=(pp,qq,0)):=by unfold Hid;rw [eR2.out,if_pos h6];unfold Qal;rw [hpq];rfl
  clear hpq;go_region
  go_wp2;go_ret3;refine ⟨?_,(B4.alloc hsz _).drew⟩;rw [e1.out];rfl
end
section
open Go.RowKit Go.Lib Go.Maps Go.Proofs.Tryz
theorem QiP {a b:Nat} (ha:1≤a):1≤Qel a b:=by
 unfold Qel;exact Nat.div_pos (Nat.gcd_le_left _ ha) (Nat.gcd_pos_of_pos_left _ ha)
theorem chainS_range {n1 d1 n2 d2:Nat} (h1:1≤n1) (h2:1≤d1) (h3:1≤n2) (h4:1≤d2) (h:(Qb9 n1 d1 n2 d2).2.2=0) :
  (1≤(Qb9 n1 d1 n2 d2).1∧(Qb9 n1 d1 n2 d2).1≤1000000000)∧1≤(Qb9 n1 d1 n2 d2).2.1∧(Qb9 n1 d1 n2 d2).2.1≤1000000000:=by
 unfold Qb9 at h ⊢;split at h
 ·simp at h
 ·rename_i hn;rw [if_neg hn];have p1:=QiP (b:=d1*d2) (Nat.mul_pos h1 h3);have p2:=QiP (b:=n1*n2) (Nat.mul_pos h2 h4);simp only [not_or] at hn
  dsimp only
  omega
theorem Qh6 {S:Int×DataW Unit} {base f t:ByteArray} {p:Int} (hg:QbU S.2) (h:(Qdz S base f t p).2.2=0) :
  (1≤(Qdz S base f t p).1∧(Qdz S base f t p).1≤1000000000)∧1≤(Qdz S base f t p).2.1∧(Qdz S base f t p).2.1≤1000000000:=by
 unfold Qdz at h ⊢;by_cases c1:S.1≠0
 ·rw [if_pos c1] at h;exact absurd h c1
 rw [if_neg c1] at h ⊢;by_cases c2:Qat base=false∨Qat f=false∨Qat t=false
 ·rw [if_pos c2] at h;simp at h
 rw [if_neg c2] at h ⊢;by_cases c3:Qav p 120=false
 ·rw [if_pos c3] at h;simp at h
 rw [if_neg c3] at h ⊢;by_cases c4:f=t
 ·rw [if_pos c4];simp
 rw [if_neg c4] at h ⊢;by_cases c5:has S.2 (QaV f t p)=true
 ·rw [if_pos c5];exact hg _ c5
 rw [if_neg c5] at h ⊢;by_cases c6:has S.2 (QaV f base p)=false∨has S.2 (QaV base t p)=false
 ·rw [if_pos c6] at h;simp at h
 rw [if_neg c6] at h ⊢;simp only [not_or,Bool.not_eq_false] at c6;have g1:=hg _ c6.1;have g2:=hg _ c6.2;exact chainS_range (by omega) (by omega) (by omega) (by omega) h
end
section
open Go.RowKit Go.Lib Go.Maps Math Go.Proofs.Tryz
theorem below_draws {B:Nat} {a w:World} (h:Below B a w) (n:Nat):Below B a (w.drewN n):=⟨h.os,h.tape,h.output,h.size,h.block⟩
def convV (R:Int×Int×Int) (m:Int):Int:=if R.2.2=0 then ratV m R.2.1 R.1 else 0
def convE (R:Int×Int×Int) (m:Int):Value:=if R.2.2=0 then ratE m R.2.1 R.1 else Qec R.2.2
set_option maxHeartbeats 1000000 in
theorem convert_any (a:Option Addr) (len cap:Nat) (S:Int×DataW Unit) (base f t:ByteArray) (p m:Int) (w:World) (ht:Calls prog 76 #[.slice a len cap] w (Qc0 w S)) (hg:QbU S.2) (hm:-9223372036854775808≤m) (hm2:m≤9223372036854775807) :
  Calls prog 174 #[.slice a len cap,.string base,.string f,.string t,.int .i64 p,.int .i64 m] w fun e w'=>e=.returned (.tuple #[.int .i64 (convV (Qdz S base f t p) m),convE (Qdz S base f t p) m])∧Below w.heap.size w w':=by
 have hf:=find_any a len cap S base f t p w ht hg;have hr:=Qh6 (base:=base) (f:=f) (t:=t) (p:=p) hg;generalize Qdz S base f t p=R at *
 have Hf:Hid (Calls prog 209 #[.slice a len cap,.string base,.string f,.string t,.int .i64 p] w fun e w'=>e=.returned (.tuple #[.int .i64 R.1,.int .i64 R.2.1,Qec R.2.2])∧Below w.heap.size w w'):=hf
 clear hf ht hg S;obtain ⟨n,d,e⟩:=R;by_cases he:e=0
 ·subst he;have e1:Hid (convV (n,d,0) m=ratV m d n∧convE (n,d,0) m=ratE m d n):=⟨rfl,rfl⟩;simp only [forall_const] at hr;go_enter func174,ntmps174
  go_wp2_with fail;refine Hf.out.mono ?_;rintro e w1 ⟨rfl,B1⟩;simp only [Qbk];go_wp2_with fail;refine (ratio_any m d n _ hm hm2 (by omega) (by omega) (by omega) (by omega)).mono ?_
  rintro e w2 ⟨rfl,k,hw⟩;rw [hw];clear hw w2;go_wp2;go_ret2;refine ⟨?_,below_draws B1 k⟩;rw [e1.out.1,e1.out.2];rfl
 ·have e1:Hid (convV (n,d,e) m=0∧convE (n,d,e) m=.iface 66 (.int .i64 e)):=⟨if_neg he,(if_neg he).trans (QaU he)⟩;clear hr;go_enter func174,ntmps174
  go_wp2_with fail;refine Hf.out.mono ?_;rintro e w1 ⟨rfl,B1⟩;simp only [QaU he];go_wp2;go_ret2;refine ⟨?_,B1⟩;rw [e1.out.1,e1.out.2];rfl
end
end Go.Proofs.YtjifbbdkpanagaaGreatDoor
