/-
  Part of a proof (see the last text).
-/
import Derived.Test.YtjifbbdkpanagaaGreatDoorZd1
set_option linter.unusedVariables false
set_option linter.unusedSimpArgs false
set_option maxRecDepth 100000
namespace Go.Proofs.YtjifbbdkpanagaaGreatDoor
section
open Go.RowKit Go.Lib Go.Proofs.Tryz
theorem grown_any {w w':World} (h:w.grownBy w' none) (row:Option Nat):w.grownBy w' row:=⟨h.os,h.tape,h.output,h.size,fun k hk _=>h.block k hk (by simp)⟩
theorem insert_any (n0 i vb:Nat) (v:Value) (l:List Ln) (x:Ln) (W:World) (h:Qag W n0 v l) (hn0:n0≤W.heap.size) (hi:i≤l.length) (hlen:l.length≤1000)
  (hv:W.heap[vb]? = some (.cells x.cells 56 (0,0))) (hne:v.ownBlock≠some vb) :
  Calls prog 163 #[v,.int .i64 i,.slice (some ⟨vb,0,none⟩) 1 1] W fun e w'=>
   ∃ v',e=.returned v'∧Qag w' n0 v' (l.take i++x :: l.drop i)∧W.grownBy w' v.ownBlock:=by
 by_cases he:i=l.length
 ·subst he;rw [List.take_length,List.drop_length];exact insert_end n0 v vb l x W h hn0 hlen hv
 ·have hlt:i<l.length:=by omega
  rcases h.2 with ⟨_,h0⟩ | ⟨g,cap,cur,rfl,hb,hg,hc,hm,hs,ht⟩
  ·omega
  ·by_cases hr:l.length+1≤cap
   ·refine (insert_shift g cap i vb cur l x W hg hr hm hs ht hlt hlen hv (fun e=>hne (by rw [e];rfl))).mono ?_
    rintro e w' ⟨rfl,hrow,hgr⟩;exact ⟨_,rfl,hrow.mono hb,hgr⟩
   ·refine (insert_grow g cap i vb cur l x W hg hc (by omega) hs ht hlt hlen hv).mono ?_
    rintro e w' ⟨G,rfl,hrow,hgr⟩;exact ⟨_,rfl,hrow.mono hn0,grown_any hgr _⟩
theorem Qag.setAmt {W:World} {n0 g cap:Nat} {l:List Ln} (h:Qag W n0 (.slice (some ⟨g,0,none⟩) l.length cap) l) (k:Nat) (hk:k<l.length) (a:Int) :
  Qag (W.setCell ⟨g,k*3+2,none⟩ (.int .i64 a)) n0 (.slice (some ⟨g,0,none⟩) l.length cap) (l.set k ⟨(l.getD k ln0).acc,(l.getD k ln0).cur,a⟩)∧W.frozen? ⟨g,k*3+2,none⟩=false:=by
 rcases h.2 with ⟨hv,_⟩ | ⟨g1,c1,cur,hv,hb,hg,hc,hm,hs,ht⟩
 ·cases hv
 cases hv;have e1:Qas (l.set k ⟨(l.getD k ln0).acc,(l.getD k ln0).cur,a⟩)=(Qas l).set (k*3+2) (.int .i64 a):=by
  apply List.ext_getElem?;intro j;obtain ⟨q,r,hr,rfl⟩:∃ q r,r<3∧j=q*3+r:=⟨j / 3,j % 3,Nat.mod_lt _ (by omega),by omega⟩
  by_cases hq:q<l.length
  ·rw [QcX _ q r (by simpa using hq) hr,List.getElem?_set]
   by_cases hqk:q=k
   ·subst hqk;rw [List.getD_eq_getElem?_getD,List.getElem?_set_self hq,Option.getD_some];by_cases hr2:r=2
    ·subst hr2;rw [if_pos rfl,if_pos (by rw [Qak];omega)]
     rfl
    ·rw [if_neg (by omega),QcX l q r hq hr]
     rcases (by omega:r=0∨r=1) with rfl | rfl <;> rfl
   ·rw [if_neg (by omega),QcX l q r hq hr,List.getD_eq_getElem?_getD,List.getElem?_set_ne (fun e=>hqk e.symm),← List.getD_eq_getElem?_getD]
  ·rw [List.getElem?_eq_none (by rw [Qak,List.length_set];omega),List.getElem?_eq_none (by rw [List.length_set,Qak];omega)]
 refine ⟨⟨by rw [Qak,List.length_set],.inr ⟨g,cap,cur.setIfInBounds (k*3+2) (.int .i64 a),by rw [List.length_set],hb,?_,by rw [List.length_set];exact hc,hm,by simpa using hs,?_⟩⟩,by simp [World.frozen?,hg]⟩
 ·rw [setCell_eq_setRow W g (k*3+2) cur 56 (0,0) _ hg];exact setRow_heap W g cur _ 56 (0,0) hg
 ·rw [e1,List.length_set,← ht,Array.toList_setIfInBounds,List.take_set]
set_option maxHeartbeats 4000000 in
theorem together_some (b off cap:Nat) (l:List Ln) (w:World) (hb:b<w.heap.size) (hlen:l.length≤20) (hwi:Qa7 Qah l) (hc:Qgv w b off l) :
  Calls prog 122 #[.slice (some ⟨b,off,none⟩) l.length cap] w fun e w'=>∃ v,e=.returned v∧Qag w' w.heap.size v (grp l)∧Below w.heap.size w w':=by
 have Hc:Hid (Qgv w b off l):=hc;have Hwi:Hid (Qa7 Qah l):=hwi;clear hc hwi;have Hlen:(l.length:Int)≤20:=by omega
 go_enter func122,ntmps122
 go_wp2;go_loopw [3,10] (fun s i wr=>∃ k:Nat,k≤l.length∧i=.int .i64 k∧Hid (Qag wr w.heap.size s (grp (l.take k)))∧Below w.heap.size w wr) (fun _ i _=>l.length - (RowKit.intOf i).toNat)
 case atStart=>exact ⟨0,Nat.zero_le _,rfl,Qag.nil _ _,Below.refl _ _⟩
 case round=>
  obtain ⟨k,hk,rfl,R,BW⟩:=hrel;by_cases hlt:k<l.length
  ·have hn:=(Hc.out k hlt).below BW hb;have hst:grp (l.take (k+1))=Qd9 (l.getD k ln0) (grp (l.take k)):=by rw [lns_take l k hlt,grp_snoc]
   have hxw:=Hwi.out _ (lns_mem l k hlt);have hgl:(grp (l.take k)).length≤20:=by
    have:=QiC (l.take k)
    rw [List.length_take] at this;omega
   have hgw:Qa7 (20*Qah) (grp (l.take k)):=by
    have h1:=within_grp (m:=Qah) (by simp [Qah]) (l:=l.take k) (fun z hz=>Hwi.out z (List.mem_of_mem_take hz))
    intro z hz;have h2:=h1 z hz;have h3:((l.take k).length:Int)≤20:=by rw [List.length_take];omega
    simp only [Qah] at h2 ⊢;omega
   have hsrt:=grp_sort (l.take k);have B2:=BW.alloc BW.size (.cells (l.getD k ln0).cells 56);have R1:Qag (wr.alloc (.cells (l.getD k ln0).cells 56)) w.heap.size _ (grp (l.take k)):=World.ownsRow.alloc R.out (.cells (l.getD k ln0).cells 56);have hx:=LnAt.new wr (l.getD k ln0) 56;generalize l.getD k ln0=x at *
   generalize grp (l.take k)=q at *
   obtain ⟨a,cq,rfl,hsl⟩:=R1.isLn;have hS:=search_any a cq q x _ (by omega) hsl hsrt
   have Hst:Hid (grp (l.take (k+1))=Qd9 x q):=hst;have HS:Hid (Calls _ _ _ _ _):=hS;have HR1:Hid (Qag _ _ _ _):=R1;have Hgw:Hid (Qa7 (20*Qah) q):=hgw;have Hxw:Hid (-Qah≤x.amt∧x.amt≤Qah):=hxw;have hpl:=posL_le x q;clear hst hS R1 R hgw hxw hsl hsrt;obtain ⟨c0,c1,c2⟩:=hn;have hx0:=hx;obtain ⟨d0,d1,d2⟩:=hx;have hsz:(wr.alloc (.cells x.cells 56)).heap.size=wr.heap.size+1:=by simp
   have j0:(0:Int)≤k:=by omega
   have j1:(k:Int)<l.length:=by omega
   have hws:=BW.size;cases hq:hasL x q
   ·rw [hq] at HS;have hnew:Hid (Qd9 x q=q.take (Qdk x q)++x :: q.drop (Qdk x q)):=insL_new x q (fun h=>by
     unfold hasL at hq;rw [decide_eq_true h,Bool.true_and] at hq;exact hq)
    obtain ⟨p,hp⟩:∃ p,Qdk x q=p:=⟨_,rfl⟩;rw [hp] at HS hnew hpl;clear hp hq;have Hx0:Hid (LnAt _ _ _ _):=hx0;clear hx0;obtain ⟨x0,x1,x2⟩:=x;simp only [Ln.cells,Nat.zero_add] at c0 c1 c2 d0 d1 d2 HS HR1 B2 Hx0 hsz;go_wp2_with fail;refine HS.out.mono ?_;rintro e w2 ⟨rfl,hb2⟩;have HR2:Hid (Qag w2 w.heap.size _ q):=Qag.below HR1.out hb2;have B3:=B2.trans (hb2.mono B2.size);have hs2:=hb2.size;rw [hsz] at hb2 hs2
    have hx2:=Hx0.out.below hb2 (Nat.lt_succ_self _);clear c0 c1 c2 d0 d1 d2 HR1 B2 Hx0 HS hb2;obtain ⟨d0,d1,d2⟩:=hx2;simp only [Nat.zero_add] at d0 d1 d2;have hsw2:w.heap.size≤w2.heap.size:=by omega
    have hI:=insert_any w.heap.size p w2.heap.size _ q ⟨x0,x1,x2⟩ (w2.alloc (.cells #[.string x0,.string x1,.int .i64 x2] 56)) (World.ownsRow.alloc HR2.out _) (by simp;omega) hpl (by omega) (World.alloc_heap_new w2 _) (fun e=>by have:=(World.ownsRow.lt HR2.out _ e).2;omega)
    have HI:Hid (Calls _ _ _ _ _):=hI;clear hI;go_wp2_with fail;refine HI.out.mono ?_;rintro e w3 ⟨v3,rfl,R3,hgr⟩;have B4:Below w.heap.size w w3:=(B3.alloc hsw2 (.cells #[.string x0,.string x1,.int .i64 x2] 56)).grown hgr (by simp;omega) (HR2.out.own)
    have HR3:Hid (Qag w3 w.heap.size v3 (grp (l.take (k+1)))):=by unfold Hid;rw [Hst.out,hnew.out];exact R3
    clear R3 hgr HI HR2;go_wp2;go_roundw
    case rel=>exact ⟨k+1,by omega,by go_num,HR3.out,B4⟩
    case measure=>simp [RowKit.intOf];omega
   ·rw [hq] at HS;have hqs:Qdk x q<q.length∧QfN (q.getD (Qdk x q) ln0) x=true:=by
     unfold hasL at hq;rw [Bool.and_eq_true,decide_eq_true_eq] at hq;exact hq
    have hnew:Hid (Qd9 x q=_):=QiX x q hqs.1 hqs.2;obtain ⟨p,hp⟩:∃ p,Qdk x q=p:=⟨_,rfl⟩;rw [hp] at HS hnew hpl hqs;have hpq:=hqs.1;clear hp hq hqs;have Hx0:Hid (LnAt _ _ _ _):=hx0;clear hx0;obtain ⟨x0,x1,x2⟩:=x;simp only [Ln.cells,Nat.zero_add] at c0 c1 c2 d0 d1 d2 HS HR1 B2 Hx0 hsz;obtain ⟨g,hga⟩:∃ g,a=some ⟨g,0,none⟩:=by
     rcases HR1.out.2 with ⟨_,h0⟩ | ⟨g,c1,cur,hv,_⟩
     ·omega
     ·cases hv;exact ⟨g,rfl⟩
    subst hga;go_wp2_with fail;refine HS.out.mono ?_;rintro e w2 ⟨rfl,hb2⟩;have HR2:Hid (Qag w2 w.heap.size _ q):=Qag.below HR1.out hb2;have B3:=B2.trans (hb2.mono B2.size);have hs2:=hb2.size;rw [hsz] at hb2 hs2;have hx2:=Hx0.out.below hb2 (Nat.lt_succ_self _);clear c0 c1 c2 d0 d1 d2 HR1 B2 Hx0 HS hb2;obtain ⟨d0,d1,d2⟩:=hx2;simp only [Nat.zero_add] at d0 d1 d2;have hgb:=(HR2.out.own) g rfl;have hpi:(p:Int)<q.length:=by omega
    have hp0:(0:Int)≤p:=by omega
    obtain ⟨cy0,cy1,cy2⟩:LnAt w2 g (p*3) (q.getD p ln0):=by
     obtain ⟨a',cq',hv,hsl'⟩:=HR2.out.isLn;cases hv;rcases hsl'.lies with h | ⟨b',off',e,_,hc'⟩
     ·rw [h] at hpq;simp at hpq
     ·cases e
      have:=hc' p hpq
      rwa [Nat.zero_add] at this
    have hyw:=Hgw.out _ (lns_mem q p hpq);obtain ⟨y2,hy2⟩:∃ y2,(q.getD p ln0).amt=y2:=⟨_,rfl⟩;rw [hy2] at cy2 hyw hnew;have hwrap:IntKind.i64.wrap (y2+x2)=y2+x2:=by
     have:=Hxw.out
     simp only [Qah] at this hyw;rw [IntKind.wrap_i64];omega
    obtain ⟨R3,hfz⟩:=Qag.setAmt HR2.out p hpq (y2+x2);have B4:Below w.heap.size w (w2.setCell ⟨g,p*3+2,none⟩ (.int .i64 (y2+x2))).drew:=(B3.setCell (p:=⟨g,p*3+2,none⟩) hgb _).drew;have HR3:Hid (Qag (w2.setCell ⟨g,p*3+2,none⟩ (.int .i64 (y2+x2))).drew w.heap.size (.slice (some ⟨g,0,none⟩) q.length cq) (grp (l.take (k+1)))):=by unfold Hid;rw [Hst.out,hnew.out];exact R3
    clear R3 cy0 cy1 hy2 hnew Hst hyw HR2;go_wp2;go_region
    all_goals
     go_wp2;go_roundw
     case rel=>exact ⟨k+1,by omega,by go_num,HR3.out,B4⟩
     case measure=>simp [RowKit.intOf];omega
  ·have hk2:k=l.length:=by omega
   subst hk2;go_wp2;go_ret;refine ⟨_,rfl,?_,BW⟩
   have:=R.out
   rw [List.take_length] at this;exact this
theorem together_none (a:Option Addr) (cap:Nat) (w:World) :
  Calls prog 122 #[.slice a 0 cap] w fun e w'=>e=.returned (.slice none 0 0)∧Below w.heap.size w w':=by
 go_enter func122,ntmps122
 go_wp2;refine wp_loop_rounds 1 ?_;rw [rounds_succ];go_wp2;go_ret;exact ⟨rfl,Below.refl _ _⟩
theorem together_any (a:Option Addr) (cap:Nat) (l:List Ln) (w:World) (hlen:l.length≤20) (hwi:Qa7 Qah l) (h:Qfs w a l cap) :
  Calls prog 122 #[.slice a l.length cap] w fun e w'=>∃ v,e=.returned v∧Qag w' w.heap.size v (grp l)∧Below w.heap.size w w':=by
 rcases h.lies with rfl | ⟨b,off,rfl,hlt,hc⟩
 ·refine (together_none a cap w).mono ?_;rintro e w' ⟨rfl,hb⟩;exact ⟨_,rfl,Qag.nil _ _,hb⟩
 ·exact together_some b off cap l w hlt hlen hwi hc
def QaN (l:List Ln):List Ln:=grp (l.map Qb7)
theorem within_bare {m:Int} {l:List Ln} (h:Qa7 m l):Qa7 m (l.map Qb7):=by
 intro z hz;obtain ⟨y,hy,rfl⟩:=List.mem_map.1 hz;exact h y hy
theorem Qgl (a:Option Addr) (cap:Nat) (l:List Ln) (w:World) (hlen:l.length≤20) (hwi:Qa7 Qah l) (h:Qfs w a l cap) :
  Calls prog 82 #[.slice a l.length cap] w fun e w'=>∃ v,e=.returned v∧Qag w' w.heap.size v (QaN l)∧Below w.heap.size w w':=by
 have hE:=each_any _ Qb7 _ a cap l w QeD (fun _ _=>trivial) (by omega) h
 have HT:Hid (∀ v W,Qag W w.heap.size v (l.map Qb7)→Below w.heap.size w W→Calls prog 122 #[v] W fun e w'=>∃ v,e=.returned v∧Qag w' w.heap.size v (QaN l)∧Below w.heap.size w w'):=fun v W hr hb=>by
  obtain ⟨a',c',rfl,hsl⟩:=hr.isLn;refine (together_any a' c' (l.map Qb7) W (by simpa using hlen) (within_bare hwi) hsl).mono ?_
  rintro e w' ⟨v,rfl,hr',hb'⟩;exact ⟨v,rfl,hr'.mono hb.size,hb.trans (hb'.mono hb.size)⟩
 clear h hwi;go_enter func82,ntmps82
 go_wp2_with fail;refine hE.mono ?_;rintro e w1 ⟨v1,rfl,r1,b1⟩;have hT:=HT.out v1 w1 r1 b1;clear HT r1 b1 hE;go_wp2_with fail;refine hT.mono ?_;rintro e w2 ⟨v2,rfl,r2,b2⟩;have HR:Hid (Qag _ _ _ _):=r2;clear r2 hT;go_wp2;go_ret;exact ⟨v2,rfl,HR.out,b2⟩
end
section
open Go.RowKit Go.Lib Go.Proofs.Tryz
end
section
open Go.RowKit Go.Lib Go.Proofs.Tryz
def QcU (W:World) (b:Nat) (r:ByteArray) (en pe:Int) (v:Value):Prop:=W.heap[b]? = some (.cells #[.string r,.int .i64 en,.int .i64 pe,v] 59 (0,0))
theorem QcU.c0 {W:World} {b:Nat} {r:ByteArray} {en pe:Int} {v:Value} (h:QcU W b r en pe v):W.cell? ⟨b,0,none⟩=some (.string r):=by unfold QcU at h;simp [World.cell?,h]
theorem QcU.c1 {W:World} {b:Nat} {r:ByteArray} {en pe:Int} {v:Value} (h:QcU W b r en pe v):W.cell? ⟨b,1,none⟩=some (.int .i64 en):=by unfold QcU at h;simp [World.cell?,h]
theorem QcU.c2 {W:World} {b:Nat} {r:ByteArray} {en pe:Int} {v:Value} (h:QcU W b r en pe v):W.cell? ⟨b,2,none⟩=some (.int .i64 pe):=by unfold QcU at h;simp [World.cell?,h]
theorem QcU.c3 {W:World} {b:Nat} {r:ByteArray} {en pe:Int} {v:Value} (h:QcU W b r en pe v):W.cell? ⟨b,3,none⟩=some v:=by unfold QcU at h;simp [World.cell?,h]
theorem QcU.fz {W:World} {b:Nat} {r:ByteArray} {en pe:Int} {v:Value} (h:QcU W b r en pe v) (o:Nat):W.frozen? ⟨b,o,none⟩=false:=by unfold QcU at h;simp [World.frozen?,h]
theorem QcU.below {W W':World} {b n:Nat} {r:ByteArray} {en pe:Int} {v:Value} (h:QcU W b r en pe v) (hb:Below n W W') (hn:b<n):QcU W' b r en pe v:=(hb.block b hn).trans h
theorem QcU.new (W:World) (r:ByteArray) (en pe:Int) (v:Value):QcU (W.alloc (.cells #[.string r,.int .i64 en,.int .i64 pe,v] 59)) W.heap.size r en pe v:=World.alloc_heap_new W _
theorem QcU.alloc {W:World} {b:Nat} {r:ByteArray} {en pe:Int} {v:Value} (h:QcU W b r en pe v) (o:Obj):QcU (W.alloc o) b r en pe v:=((World.grownBy_alloc W o none).block b (Array.getElem?_eq_some_iff.1 h).1 (by simp)).trans h
theorem QcU.set0 {W:World} {b:Nat} {r:ByteArray} {en pe:Int} {v:Value} (h:QcU W b r en pe v) (r':ByteArray):QcU (W.setCell ⟨b,0,none⟩ (.string r')) b r' en pe v:=by
 unfold QcU at *
 rw [setCell_eq_setRow W b 0 _ 59 (0,0) _ h,setRow_heap W b _ _ 59 (0,0) h];rfl
theorem Qag.setOther {W:World} {n b o:Nat} {v u:Value} {l:List Ln} (h:Qag W n v l) (hb:b<n):Qag (W.setCell ⟨b,o,none⟩ u) n v l:=by
 rcases h.2 with ⟨hv,hn⟩ | ⟨g1,c1,cur,hv,hb1,hh,r⟩
 ·exact ⟨h.1,.inl ⟨hv,hn⟩⟩
 ·exact ⟨h.1,.inr ⟨g1,c1,cur,hv,hb1,(Below.heap_setCell _ _ _ g1 (fun e=>by simp only at e;omega)).trans hh,r⟩⟩
def nullL (x:Ln):Bool:=decide (x.amt=0)
end
end Go.Proofs.YtjifbbdkpanagaaGreatDoor
