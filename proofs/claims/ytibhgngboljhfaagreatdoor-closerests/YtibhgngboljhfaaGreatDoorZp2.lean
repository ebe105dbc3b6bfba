/-
  Part of a proof (see the last text).
-/
import Derived.Test.YtibhgngboljhfaaGreatDoorZp1
set_option linter.unusedVariables false
set_option linter.unusedSimpArgs false
set_option maxRecDepth 100000
namespace Go.Proofs.YtibhgngboljhfaaGreatDoor
section
open Go.RowKit Go.Lib Go.Proofs.Tryz
theorem grown_any {w w':World} (h:w.grownBy w' none) (row:Option Nat):w.grownBy w' row:=⟨h.os,h.tape,h.output,h.size,fun k hk _=>h.block k hk (by simp)⟩
theorem insert_any (n0 i vb:Nat) (v:Value) (l:List Ln) (x:Ln) (W:World) (h:Qab W n0 v l) (hn0:n0≤W.heap.size) (hi:i≤l.length) (hlen:l.length≤1000)
  (hv:W.heap[vb]? = some (.cells x.cells 44 (0,0))) (hne:v.ownBlock≠some vb) :
  Calls prog 156 #[v,.int .i64 i,.slice (some ⟨vb,0,none⟩) 1 1] W fun e w'=>
   ∃ v',e=.returned v'∧Qab w' n0 v' (l.take i++x :: l.drop i)∧W.grownBy w' v.ownBlock:=by
 by_cases he:i=l.length
 ·subst he;rw [List.take_length,List.drop_length];exact insert_end n0 v vb l x W h hn0 hlen hv
 ·have hlt:i<l.length:=by omega
  rcases h.2 with ⟨_,h0⟩ | ⟨g,cap,cur,rfl,hb,hg,hc,hm,hs,ht⟩
  ·omega
  ·by_cases hr:l.length+1≤cap
   ·refine (insert_shift g cap i vb cur l x W hg hr hm hs ht hlt hlen hv (fun e=>hne (by rw [e];rfl))).mono ?_
    rintro e w' ⟨rfl,hrow,hgr⟩;exact ⟨_,rfl,hrow.mono hb,hgr⟩
   ·refine (insert_grow g cap i vb cur l x W hg hc (by omega) hs ht hlt hlen hv).mono ?_
    rintro e w' ⟨G,rfl,hrow,hgr⟩;exact ⟨_,rfl,hrow.mono hn0,grown_any hgr _⟩
theorem Qab.setAmt {W:World} {n0 g cap:Nat} {l:List Ln} (h:Qab W n0 (.slice (some ⟨g,0,none⟩) l.length cap) l) (k:Nat) (hk:k<l.length) (a:Int) :
  Qab (W.setCell ⟨g,k*3+2,none⟩ (.int .i64 a)) n0 (.slice (some ⟨g,0,none⟩) l.length cap) (l.set k ⟨(l.getD k ln0).acc,(l.getD k ln0).cur,a⟩)∧W.frozen? ⟨g,k*3+2,none⟩=false:=by
 rcases h.2 with ⟨hv,_⟩ | ⟨g1,c1,cur,hv,hb,hg,hc,hm,hs,ht⟩
 ·cases hv
 cases hv;have e1:Qah (l.set k ⟨(l.getD k ln0).acc,(l.getD k ln0).cur,a⟩)=(Qah l).set (k*3+2) (.int .i64 a):=by
  apply List.ext_getElem?;intro j;obtain ⟨q,r,hr,rfl⟩:∃ q r,r<3∧j=q*3+r:=⟨j / 3,j % 3,Nat.mod_lt _ (by omega),by omega⟩
  by_cases hq:q<l.length
  ·rw [Qb7 _ q r (by simpa using hq) hr,List.getElem?_set]
   by_cases hqk:q=k
   ·subst hqk;rw [List.getD_eq_getElem?_getD,List.getElem?_set_self hq,Option.getD_some];by_cases hr2:r=2
    ·subst hr2;rw [if_pos rfl,if_pos (by rw [Qaf];omega)]
     rfl
    ·rw [if_neg (by omega),Qb7 l q r hq hr]
     rcases (by omega:r=0∨r=1) with rfl | rfl <;> rfl
   ·rw [if_neg (by omega),Qb7 l q r hq hr,List.getD_eq_getElem?_getD,List.getElem?_set_ne (fun e=>hqk e.symm),← List.getD_eq_getElem?_getD]
  ·rw [List.getElem?_eq_none (by rw [Qaf,List.length_set];omega),List.getElem?_eq_none (by rw [List.length_set,Qaf];omega)]
 refine ⟨⟨by rw [Qaf,List.length_set],.inr ⟨g,cap,cur.setIfInBounds (k*3+2) (.int .i64 a),by rw [List.length_set],hb,?_,by rw [List.length_set];exact hc,hm,by simpa using hs,?_⟩⟩,by simp [World.frozen?,hg]⟩
 ·rw [setCell_eq_setRow W g (k*3+2) cur 44 (0,0) _ hg];exact setRow_heap W g cur _ 44 (0,0) hg
 ·rw [e1,List.length_set,← ht,Array.toList_setIfInBounds,List.take_set]
set_option maxHeartbeats 4000000 in
theorem together_some (b off cap:Nat) (l:List Ln) (w:World) (hb:b<w.heap.size) (hlen:l.length≤20) (hwi:QaA Qaq l) (hc:Qbz w b off l) :
  Calls prog 110 #[.slice (some ⟨b,off,none⟩) l.length cap] w fun e w'=>∃ v,e=.returned v∧Qab w' w.heap.size v (grp l)∧Below w.heap.size w w':=by
 have Hc:Hid (Qbz w b off l):=hc;have Hwi:Hid (QaA Qaq l):=hwi;clear hc hwi;have Hlen:(l.length:Int)≤20:=by omega
 go_enter func110,ntmps110
 go_wp2;go_loopw [3,10] (fun s i wr=>∃ k:Nat,k≤l.length∧i=.int .i64 k∧Hid (Qab wr w.heap.size s (grp (l.take k)))∧Below w.heap.size w wr) (fun _ i _=>l.length - (RowKit.intOf i).toNat)
 case atStart=>exact ⟨0,Nat.zero_le _,rfl,Qab.nil _ _,Below.refl _ _⟩
 case round=>
  obtain ⟨k,hk,rfl,R,BW⟩:=hrel;by_cases hlt:k<l.length
  ·have hn:=(Hc.out k hlt).below BW hb;have hst:grp (l.take (k+1))=Qc6 (l.getD k ln0) (grp (l.take k)):=by rw [Qcg l k hlt,grp_snoc]
   have hxw:=Hwi.out _ (QeY l k hlt);have hgl:(grp (l.take k)).length≤20:=by
    have:=Qdc (l.take k)
    rw [List.length_take] at this;omega
   have hgw:QaA (20*Qaq) (grp (l.take k)):=by
    have h1:=Qi6 (m:=Qaq) (by simp [Qaq]) (l:=l.take k) (fun z hz=>Hwi.out z (List.mem_of_mem_take hz))
    intro z hz;have h2:=h1 z hz;have h3:((l.take k).length:Int)≤20:=by rw [List.length_take];omega
    simp only [Qaq] at h2 ⊢;omega
   have hsrt:=grp_sort (l.take k);have B2:=BW.alloc BW.size (.cells (l.getD k ln0).cells 44);have R1:Qab (wr.alloc (.cells (l.getD k ln0).cells 44)) w.heap.size _ (grp (l.take k)):=World.ownsRow.alloc R.out (.cells (l.getD k ln0).cells 44);have hx:=Qev.new wr (l.getD k ln0) 44;generalize l.getD k ln0=x at *
   generalize grp (l.take k)=q at *
   obtain ⟨a,cq,rfl,hsl⟩:=R1.isLn;have hS:=search_any a cq q x _ (by omega) hsl hsrt
   have Hst:Hid (grp (l.take (k+1))=Qc6 x q):=hst;have HS:Hid (Calls _ _ _ _ _):=hS;have HR1:Hid (Qab _ _ _ _):=R1;have Hgw:Hid (QaA (20*Qaq) q):=hgw;have Hxw:Hid (-Qaq≤x.amt∧x.amt≤Qaq):=hxw;have hpl:=posL_le x q;clear hst hS R1 R hgw hxw hsl hsrt;obtain ⟨c0,c1,c2⟩:=hn;have hx0:=hx;obtain ⟨d0,d1,d2⟩:=hx;have hsz:(wr.alloc (.cells x.cells 44)).heap.size=wr.heap.size+1:=by simp
   have j0:(0:Int)≤k:=by omega
   have j1:(k:Int)<l.length:=by omega
   have hws:=BW.size;cases hq:hasL x q
   ·rw [hq] at HS;have hnew:Hid (Qc6 x q=q.take (Qcl x q)++x :: q.drop (Qcl x q)):=insL_new x q (fun h=>by
     unfold hasL at hq;rw [decide_eq_true h,Bool.true_and] at hq;exact hq)
    obtain ⟨p,hp⟩:∃ p,Qcl x q=p:=⟨_,rfl⟩;rw [hp] at HS hnew hpl;clear hp hq;have Hx0:Hid (Qev _ _ _ _):=hx0;clear hx0;obtain ⟨x0,x1,x2⟩:=x;simp only [Ln.cells,Nat.zero_add] at c0 c1 c2 d0 d1 d2 HS HR1 B2 Hx0 hsz;go_wp2_with fail;refine HS.out.mono ?_;rintro e w2 ⟨rfl,hb2⟩;have HR2:Hid (Qab w2 w.heap.size _ q):=Qab.below HR1.out hb2;have B3:=B2.trans (hb2.mono B2.size);have hs2:=hb2.size;rw [hsz] at hb2 hs2
    have hx2:=Hx0.out.below hb2 (Nat.lt_succ_self _);clear c0 c1 c2 d0 d1 d2 HR1 B2 Hx0 HS hb2;obtain ⟨d0,d1,d2⟩:=hx2;simp only [Nat.zero_add] at d0 d1 d2;have hsw2:w.heap.size≤w2.heap.size:=by omega
    have hI:=insert_any w.heap.size p w2.heap.size _ q ⟨x0,x1,x2⟩ (w2.alloc (.cells #[.string x0,.string x1,.int .i64 x2] 44)) (World.ownsRow.alloc HR2.out _) (by simp;omega) hpl (by omega) (World.alloc_heap_new w2 _) (fun e=>by have:=(World.ownsRow.lt HR2.out _ e).2;omega)
    have HI:Hid (Calls _ _ _ _ _):=hI;clear hI;go_wp2_with fail;refine HI.out.mono ?_;rintro e w3 ⟨v3,rfl,R3,hgr⟩;have B4:Below w.heap.size w w3:=(B3.alloc hsw2 (.cells #[.string x0,.string x1,.int .i64 x2] 44)).grown hgr (by simp;omega) (HR2.out.own)
    have HR3:Hid (Qab w3 w.heap.size v3 (grp (l.take (k+1)))):=by unfold Hid;rw [Hst.out,hnew.out];exact R3
    clear R3 hgr HI HR2;go_wp2;go_roundw
    case rel=>exact ⟨k+1,by omega,by go_num,HR3.out,B4⟩
    case measure=>simp [RowKit.intOf];omega
   ·rw [hq] at HS;have hqs:Qcl x q<q.length∧Qef (q.getD (Qcl x q) ln0) x=true:=by
     unfold hasL at hq;rw [Bool.and_eq_true,decide_eq_true_eq] at hq;exact hq
    have hnew:Hid (Qc6 x q=_):=Qgf x q hqs.1 hqs.2;obtain ⟨p,hp⟩:∃ p,Qcl x q=p:=⟨_,rfl⟩;rw [hp] at HS hnew hpl hqs;have hpq:=hqs.1;clear hp hq hqs;have Hx0:Hid (Qev _ _ _ _):=hx0;clear hx0;obtain ⟨x0,x1,x2⟩:=x;simp only [Ln.cells,Nat.zero_add] at c0 c1 c2 d0 d1 d2 HS HR1 B2 Hx0 hsz;obtain ⟨g,hga⟩:∃ g,a=some ⟨g,0,none⟩:=by
     rcases HR1.out.2 with ⟨_,h0⟩ | ⟨g,c1,cur,hv,_⟩
     ·omega
     ·cases hv;exact ⟨g,rfl⟩
    subst hga;go_wp2_with fail;refine HS.out.mono ?_;rintro e w2 ⟨rfl,hb2⟩;have HR2:Hid (Qab w2 w.heap.size _ q):=Qab.below HR1.out hb2;have B3:=B2.trans (hb2.mono B2.size);have hs2:=hb2.size;rw [hsz] at hb2 hs2;have hx2:=Hx0.out.below hb2 (Nat.lt_succ_self _);clear c0 c1 c2 d0 d1 d2 HR1 B2 Hx0 HS hb2;obtain ⟨d0,d1,d2⟩:=hx2;simp only [Nat.zero_add] at d0 d1 d2;have hgb:=(HR2.out.own) g rfl;have hpi:(p:Int)<q.length:=by omega
    have hp0:(0:Int)≤p:=by omega
    obtain ⟨cy0,cy1,cy2⟩:Qev w2 g (p*3) (q.getD p ln0):=by
     obtain ⟨a',cq',hv,hsl'⟩:=HR2.out.isLn;cases hv;rcases hsl'.lies with h | ⟨b',off',e,_,hc'⟩
     ·rw [h] at hpq;simp at hpq
     ·cases e
      have:=hc' p hpq
      rwa [Nat.zero_add] at this
    have hyw:=Hgw.out _ (QeY q p hpq);obtain ⟨y2,hy2⟩:∃ y2,(q.getD p ln0).amt=y2:=⟨_,rfl⟩;rw [hy2] at cy2 hyw hnew;have hwrap:IntKind.i64.wrap (y2+x2)=y2+x2:=by
     have:=Hxw.out
     simp only [Qaq] at this hyw;rw [IntKind.wrap_i64];omega
    obtain ⟨R3,hfz⟩:=Qab.setAmt HR2.out p hpq (y2+x2);have B4:Below w.heap.size w (w2.setCell ⟨g,p*3+2,none⟩ (.int .i64 (y2+x2))).drew:=(B3.setCell (p:=⟨g,p*3+2,none⟩) hgb _).drew;have HR3:Hid (Qab (w2.setCell ⟨g,p*3+2,none⟩ (.int .i64 (y2+x2))).drew w.heap.size (.slice (some ⟨g,0,none⟩) q.length cq) (grp (l.take (k+1)))):=by unfold Hid;rw [Hst.out,hnew.out];exact R3
    clear R3 cy0 cy1 hy2 hnew Hst hyw HR2;go_wp2;go_region
    all_goals
     go_wp2;go_roundw
     case rel=>exact ⟨k+1,by omega,by go_num,HR3.out,B4⟩
     case measure=>simp [RowKit.intOf];omega
  ·have hk2:k=l.length:=by omega
   subst hk2;go_wp2;go_ret;refine ⟨_,rfl,?_,BW⟩
   have:=R.out
   rw [List.take_length] at this;exact this
theorem together_none (a:Option Addr) (cap:Nat) (w:World) :
  Calls prog 110 #[.slice a 0 cap] w fun e w'=>e=.returned (.slice none 0 0)∧Below w.heap.size w w':=by
 go_enter func110,ntmps110
 go_wp2;refine wp_loop_rounds 1 ?_;rw [rounds_succ];go_wp2;go_ret;exact ⟨rfl,Below.refl _ _⟩
theorem together_any (a:Option Addr) (cap:Nat) (l:List Ln) (w:World) (hlen:l.length≤20) (hwi:QaA Qaq l) (h:Qc5 w a l cap) :
  Calls prog 110 #[.slice a l.length cap] w fun e w'=>∃ v,e=.returned v∧Qab w' w.heap.size v (grp l)∧Below w.heap.size w w':=by
 rcases h.lies with rfl | ⟨b,off,rfl,hlt,hc⟩
 ·refine (together_none a cap w).mono ?_;rintro e w' ⟨rfl,hb⟩;exact ⟨_,rfl,Qab.nil _ _,hb⟩
 ·exact together_some b off cap l w hlt hlen hwi hc
def Qai (l:List Ln):List Ln:=grp (l.map Qbt)
theorem QhN {m:Int} {l:List Ln} (h:QaA m l):QaA m (l.map Qbt):=by
 intro z hz;obtain ⟨y,hy,rfl⟩:=List.mem_map.1 hz;exact h y hy
theorem Qgw (a:Option Addr) (cap:Nat) (l:List Ln) (w:World) (hlen:l.length≤20) (hwi:QaA Qaq l) (h:Qc5 w a l cap) :
  Calls prog 68 #[.slice a l.length cap] w fun e w'=>∃ v,e=.returned v∧Qab w' w.heap.size v (Qai l)∧Below w.heap.size w w':=by
 have hE:=each_any _ Qbt _ a cap l w QeS (fun _ _=>trivial) (by omega) h
 have HT:Hid (∀ v W,Qab W w.heap.size v (l.map Qbt)→Below w.heap.size w W→Calls prog 110 #[v] W fun e w'=>∃ v,e=.returned v∧Qab w' w.heap.size v (Qai l)∧Below w.heap.size w w'):=fun v W hr hb=>by
  obtain ⟨a',c',rfl,hsl⟩:=hr.isLn;refine (together_any a' c' (l.map Qbt) W (by simpa using hlen) (QhN hwi) hsl).mono ?_
  rintro e w' ⟨v,rfl,hr',hb'⟩;exact ⟨v,rfl,hr'.mono hb.size,hb.trans (hb'.mono hb.size)⟩
 clear h hwi;go_enter func68,ntmps68
 go_wp2_with fail;refine hE.mono ?_;rintro e w1 ⟨v1,rfl,r1,b1⟩;have hT:=HT.out v1 w1 r1 b1;clear HT r1 b1 hE;go_wp2_with fail;refine hT.mono ?_;rintro e w2 ⟨v2,rfl,r2,b2⟩;have HR:Hid (Qab _ _ _ _):=r2;clear r2 hT;go_wp2;go_ret;exact ⟨v2,rfl,HR.out,b2⟩
end
section
open Go.RowKit Go.Lib Go.Proofs.Tryz
theorem ln_zero (w:World):(zeroValue 44).run prog w=.ok (.agg #[.string ByteArray.empty,.string ByteArray.empty,.int .i64 0]) w:=by
 obtain ⟨i0,hi,hz0,hz1,hz2⟩:=info_parts QcF;simp [zeroValue,typeInfo,hi,hz0]
theorem zero3_one (k:Nat):∀ u∈(Builtin.zeroCells (Value.agg #[.string ByteArray.empty,.string ByteArray.empty,.int .i64 0]).cells k).toList,u.oneCell'=true:=by
 intro u hu;simp only [Builtin.zeroCells,Value.cells,Array.toList_map,List.mem_map] at hu;obtain ⟨i,_,rfl⟩:=hu;have h3:i % 3=0∨i % 3=1∨i % 3=2:=by omega
 rcases h3 with h | h | h <;> simp [h] <;> rfl
theorem run_clear3 (w:World) (ty:TypeId) (g o n c:Nat) (cur:Array Value) (t:TypeId) (hg:w.heap[g]? = some (.cells cur t (0,0))) (hn:0<n) (hfit:o+n*3≤cur.size) :
  ∃ Z:List Value,Z.length=n*3∧(Builtin.clear_ #[36] ty #[.slice (some ⟨g,o,none⟩) n c]).run prog w=.ok (.tuple #[]) (w.setRow g (cur.toList.take o++Z++cur.toList.drop (o+Z.length)).toArray):=by
 refine ⟨(Builtin.zeroCells (Value.agg #[.string ByteArray.empty,.string ByteArray.empty,.int .i64 0]).cells n).toList,QcV n,?_⟩;have hst:=run_storeCells_at prog g o t (Builtin.zeroCells (Value.agg #[.string ByteArray.empty,.string ByteArray.empty,.int .i64 0]).cells n).toList 0 cur w hg (by rw [QcV];omega) (zero3_one n)
 obtain ⟨m,rfl⟩:∃ m,n=m+1:=⟨n - 1,by omega⟩
 simp only [Nat.add_zero] at hst;have hz:=ln_zero;generalize Value.agg #[.string ByteArray.empty,.string ByteArray.empty,.int .i64 0]=zv at hz hst ⊢;generalize hZ:(Builtin.zeroCells zv.cells (m+1)).toList=Z at hst ⊢;simp [Builtin.clear_,run_underlying underlying36,hz,hZ,hst]
theorem Qab.setLn {W:World} {n0 g cap:Nat} {l:List Ln} (h:Qab W n0 (.slice (some ⟨g,0,none⟩) l.length cap) l) (k:Nat) (hk:k<l.length) (x:Ln) :
  Qab (((W.setCell ⟨g,k*3,none⟩ (.string x.acc)).setCell ⟨g,k*3+1,none⟩ (.string x.cur)).setCell ⟨g,k*3+2,none⟩ (.int .i64 x.amt)) n0 (.slice (some ⟨g,0,none⟩) l.length cap) (l.set k x)∧∀ o,W.frozen? ⟨g,o,none⟩=false:=by
 rcases h.2 with ⟨hv,_⟩ | ⟨g1,c1,cur,hv,hb,hg,hc,hm,hs,ht⟩
 ·cases hv
 cases hv;have e1:Qah (l.set k x)=(((Qah l).set (k*3) (.string x.acc)).set (k*3+1) (.string x.cur)).set (k*3+2) (.int .i64 x.amt):=by
  apply List.ext_getElem?;intro j;obtain ⟨q,r,hr,rfl⟩:∃ q r,r<3∧j=q*3+r:=⟨j / 3,j % 3,Nat.mod_lt _ (by omega),by omega⟩
  by_cases hq:q<l.length
  ·rw [Qb7 _ q r (by simpa using hq) hr]
   have hlr:k*3+2<(Qah l).length:=by rw [Qaf];omega
   by_cases hqk:q=k
   ·subst hqk;rw [List.getD_eq_getElem?_getD,List.getElem?_set_self hq,Option.getD_some];rcases (by omega:r=0∨r=1∨r=2) with rfl | rfl | rfl
    ·rw [List.getElem?_set_ne (by omega),List.getElem?_set_ne (by omega),Nat.add_zero,List.getElem?_set_self (by omega)];rfl
    ·rw [List.getElem?_set_ne (by omega),List.getElem?_set_self (by rw [List.length_set];omega)];rfl
    ·rw [List.getElem?_set_self (by rw [List.length_set,List.length_set];omega)];rfl
   ·rw [List.getElem?_set_ne (by omega),List.getElem?_set_ne (by omega),List.getElem?_set_ne (by omega),Qb7 l q r hq hr,List.getD_eq_getElem?_getD,List.getElem?_set_ne (fun e=>hqk e.symm),← List.getD_eq_getElem?_getD]
  ·rw [List.getElem?_eq_none (by rw [Qaf,List.length_set];omega),List.getElem?_eq_none (by rw [List.length_set,List.length_set,List.length_set,Qaf];omega)]
 have g1:(W.setCell ⟨g,k*3,none⟩ (.string x.acc)).heap[g]? = some (.cells (cur.setIfInBounds (k*3) (.string x.acc)) 44 (0,0)):=by
  rw [setCell_eq_setRow W g (k*3) cur 44 (0,0) _ hg];exact setRow_heap W g cur _ 44 (0,0) hg
 have g2:((W.setCell ⟨g,k*3,none⟩ (.string x.acc)).setCell ⟨g,k*3+1,none⟩ (.string x.cur)).heap[g]? = some (.cells ((cur.setIfInBounds (k*3) (.string x.acc)).setIfInBounds (k*3+1) (.string x.cur)) 44 (0,0)):=by
  rw [setCell_eq_setRow _ g (k*3+1) _ 44 (0,0) _ g1];exact setRow_heap _ g _ _ 44 (0,0) g1
 have g3:(((W.setCell ⟨g,k*3,none⟩ (.string x.acc)).setCell ⟨g,k*3+1,none⟩ (.string x.cur)).setCell ⟨g,k*3+2,none⟩ (.int .i64 x.amt)).heap[g]? = some (.cells (((cur.setIfInBounds (k*3) (.string x.acc)).setIfInBounds (k*3+1) (.string x.cur)).setIfInBounds (k*3+2) (.int .i64 x.amt)) 44 (0,0)):=by
  rw [setCell_eq_setRow _ g (k*3+2) _ 44 (0,0) _ g2];exact setRow_heap _ g _ _ 44 (0,0) g2
 refine ⟨⟨by rw [Qaf,List.length_set],.inr ⟨g,cap,_,by rw [List.length_set],hb,g3,by rw [List.length_set];exact hc,hm,by simpa using hs,?_⟩⟩,fun o=>by simp [World.frozen?,hg]⟩
 rw [e1,List.length_set,← ht,Array.toList_setIfInBounds,Array.toList_setIfInBounds,Array.toList_setIfInBounds,List.take_set,List.take_set,List.take_set]
structure Qfk (p:Ln→Bool) (l d:List Ln) (i j:Nat):Prop where
 len:d.length=l.length
 lt:i<j
 le:j≤l.length
 pre:d.take i=(l.take j).filter fun x=>!p x
 suf:d.drop j=l.drop j
theorem Qjm {p:Ln→Bool} {x:Ln} (h:p x=true):[x].filter (fun y=>!p y)=[]:=by simp [h]
theorem filter_in {p:Ln→Bool} {x:Ln} (h:p x=false):[x].filter (fun y=>!p y)=[x]:=by simp [h]
theorem Qfk.skip {p:Ln→Bool} {l d:List Ln} {i j:Nat} (h:Qfk p l d i j) (hj:j<l.length) (hp:p (l.getD j ln0)=true):Qfk p l d i (j+1):=
 ⟨h.len,by have:=h.lt;omega,by omega,by rw [h.pre,Qcg l j hj,List.filter_append,Qjm hp,List.append_nil],by have:=congrArg (List.drop 1) h.suf;rwa [List.drop_drop,List.drop_drop] at this⟩
theorem Qfk.keep {p:Ln→Bool} {l d:List Ln} {i j:Nat} (h:Qfk p l d i j) (hj:j<l.length) (hp:p (l.getD j ln0)=false):Qfk p l (d.set i (l.getD j ln0)) (i+1) (j+1):=by
 have h1:=h.lt;have h2:=h.len;refine ⟨by rw [List.length_set,h.len],by omega,by omega,?_,?_⟩
 ·rw [Qcg l j hj,List.filter_append,← h.pre,List.take_set,Qcg d i (by omega)]
  have hl:(d.take i).length=i:=by rw [List.length_take];omega
  rw [List.set_append_right _ _ (by omega),hl,Nat.sub_self,filter_in hp]
  rfl
 ·rw [List.drop_set_of_lt (by omega)]
  have:=congrArg (List.drop 1) h.suf
  rwa [List.drop_drop,List.drop_drop] at this
theorem Qfk.at {p:Ln→Bool} {l d:List Ln} {i j:Nat} (h:Qfk p l d i j) (hj:j<l.length):d.getD j ln0=l.getD j ln0:=by
 have h1:=Qeq d j (by rw [h.len];exact hj)
 rw [h.suf,Qeq l j hj] at h1;exact (List.cons.inj h1).1.symm
set_option maxHeartbeats 4000000 in
theorem delete_own (g0:Nat) (p:Ln→Bool) (n0:Nat) (v:Value) (l:List Ln) (w:World) (hp:Qfc g0 p) (hlen:l.length≤1000) (hn0:n0≤w.heap.size) (h:Qab w n0 v l) :
  Calls prog 159 #[v,.func (.func g0) #[] #[]] w fun e w'=>∃ v',e=.returned v'∧Qab w' n0 v' (l.filter fun x=>!p x)∧Below n0 w w':=by
 obtain ⟨a,cap,rfl,hsl⟩:=h.isLn;have hI:=lnIdx_any g0 p a cap l w hp (by omega) hsl
 have Hlen:(l.length:Int)≤1000:=by omega
 have Hh:Hid (Qab _ _ _ _):=h;rcases lidx_spec p l 0 with ⟨e1,ha⟩ | ⟨k,hk,e1,hpk,ha⟩
 ·rw [e1] at hI;have ef:(l.filter fun x=>!p x)=l:=by
   rw [List.filter_eq_self];intro x hx;rw [List.any_eq_false] at ha;simpa using ha x hx
  rw [ef];clear h ef;go_enter func159,ntmps159
  go_wp2_with fail;refine hI.mono ?_;rintro e w1 ⟨rfl,hb1⟩;have HR:Hid (Qab w1 _ _ _):=Hh.out.below hb1;clear hI Hh;go_wp2;go_ret;exact ⟨_,rfl,HR.out,hb1.mono hn0⟩
 ·rw [e1] at hI;rw [Nat.zero_add] at hI;obtain ⟨g,hga⟩:∃ g,a=some ⟨g,0,none⟩:=by
   rcases Hh.out.2 with ⟨_,h0⟩ | ⟨g,c1,cur,hv,_⟩
   ·omega
   ·cases hv;exact ⟨g,rfl⟩
  subst hga;have hne1:((k:Int) == -1)=false:=beq_eq_false_iff_ne.2 (by omega)
  have HD0:Hid (Qfk p l l k (k+1)):=⟨rfl,Nat.lt_succ_self _,hk,by
   rw [Qcg l k hk,List.filter_append]
   have:(l.take k).filter (fun x=>!p x)=l.take k:=by
    rw [List.filter_eq_self];intro x hx;rw [List.any_eq_false] at ha;simpa using ha x hx
   rw [this,Qjm hpk,List.append_nil],rfl⟩
  have eg:=hp.eg;have Hp:Hid (Qfc g0 p):=hp;have hki:(k:Int)<l.length:=by omega
  clear h hsl e1 ha hpk hp;go_enter func159,ntmps159
  go_wp2_with fail;refine hI.mono ?_;rintro e w1 ⟨rfl,hb1⟩;have HR:Hid (Qab w1 _ _ _):=Hh.out.below hb1;have HB1:=hb1.mono hn0;have hs1:=hb1.size;clear hI Hh hb1;go_wp2;go_loopw [5,6] (fun s5 s6 wr=>∃ (i j:Nat) (d:List Ln),s5=.int .i64 i∧s6=.int .i64 j∧Hid (Qfk p l d i j)∧Hid (Qab wr n0 (.slice (some ⟨g,0,none⟩) l.length cap) d)∧Below n0 w wr∧j≤l.length) (fun _ s6 _=>l.length - (RowKit.intOf s6).toNat)
  case atStart=>exact ⟨k,k+1,l,rfl,by go_num,HD0,HR.out,HB1,by omega⟩
  case round=>
   obtain ⟨i,j,d,rfl,rfl,HD,R,BW,hjl⟩:=hrel;have hij:=HD.out.lt;have hdl:=HD.out.len;by_cases hlt:j<l.length
   ·have hj1:(j:Int)<l.length:=by omega
    have hi1:(i:Int)<l.length:=by omega
    have hi0:(0:Int)≤i:=by omega
    have hj0:(0:Int)≤j:=by omega
    have hat:=HD.out.at hlt;have hR2:=R.out;rw [← hdl] at hR2;have hn:Qev wr g (j*3) (d.getD j ln0):=by
     obtain ⟨a',cq',hv,hsl'⟩:=hR2.isLn;cases hv;rcases hsl'.lies with h | ⟨b',off',e,_,hc'⟩
     ·rw [h] at hdl;simp at hdl;omega
     ·cases e
      have:=hc' j (by omega)
      rwa [Nat.zero_add] at this
    rw [hat] at hn;have hws:=BW.size;have hn0w:n0≤wr.heap.size:=Nat.le_trans hn0 hws;have B2:=BW.alloc hn0w (.cells (l.getD j ln0).cells 44);have R1:Qab (wr.alloc (.cells (l.getD j ln0).cells 44)) n0 (.slice (some ⟨g,0,none⟩) l.length cap) d:=World.ownsRow.alloc R.out _;have hx:=Qev.new wr (l.getD j ln0) 44;have hcall:=Hp.out.call (l.getD j ln0) (wr.alloc (.cells (l.getD j ln0).cells 44));have HS:Hid (p (l.getD j ln0)=true→Qfk p l d i (j+1)):=HD.out.skip hlt
    have HK:Hid (p (l.getD j ln0)=false→Qfk p l (d.set i (l.getD j ln0)) (i+1) (j+1)):=HD.out.keep hlt;have hsz:(wr.alloc (.cells (l.getD j ln0).cells 44)).heap.size=wr.heap.size+1:=by simp
    have hgb:=(R.out.own) g rfl;have hgw:=(World.ownsRow.lt R.out g rfl).2;clear hR2 R hat HD;generalize l.getD j ln0=x at *
    have HR1:Hid (Qab _ _ _ _):=R1;have Hx:Hid (Qev _ _ _ _):=hx;have Hcall:Hid (Calls _ _ _ _ _):=hcall;clear R1 hx hcall;cases hq:p x
    ·have HK2:Hid (Qfk _ _ _ _ _):=HK.out hq;rw [hq] at Hcall;clear HK HS hq;obtain ⟨x0,x1,x2⟩:=x;obtain ⟨c0,c1,c2⟩:=hn;simp only [Ln.cells] at c0 c1 c2 B2 HR1 Hx Hcall hsz;go_wp2_with fail;refine Hcall.out.mono ?_;rintro e w2 ⟨rfl,hb2⟩;have R2:=Qab.below HR1.out hb2;have B3:=B2.trans (hb2.mono (by simp;omega))
     rw [hsz] at hb2;obtain ⟨d0,d1,d2⟩:=Hx.out.below hb2 (Nat.lt_succ_self _);simp only [Nat.zero_add] at d0 d1 d2;have hs2:=hb2.size;rw [hsz] at hs2;rw [← hdl] at R2;obtain ⟨R3,hfz⟩:=Qab.setLn R2 i (by omega) ⟨x0,x1,x2⟩
     rw [hdl] at R3;have c3:∀ o,o<3→∃ v,w2.cell? ⟨g,i*3+o,none⟩=some v:=fun o ho=>by
      obtain ⟨a',cq',hv,hsl'⟩:=R2.isLn;cases hv;rcases hsl'.lies with h | ⟨b',off',e,_,hc'⟩
      ·rw [h] at hdl;simp at hdl;omega
      ·cases e
       have:=hc' i (by omega)
       rw [Nat.zero_add] at this;rcases (by omega:o=0∨o=1∨o=2) with rfl | rfl | rfl
       ·exact ⟨_,this.c0⟩
       ·exact ⟨_,this.c1⟩
       ·exact ⟨_,this.c2⟩
     obtain ⟨v0,q0⟩:=c3 0 (by omega)
     obtain ⟨v1,q1⟩:=c3 1 (by omega)
     obtain ⟨v2,q2⟩:=c3 2 (by omega)
     rw [Nat.add_zero] at q0;have f0:=hfz (i*3);have f1:=hfz (i*3+1);have f2:=hfz (i*3+2);have HR3:Hid (Qab _ n0 (.slice (some ⟨g,0,none⟩) l.length cap) (d.set i ⟨x0,x1,x2⟩)):=R3;have B4:=((B3.setCell (p:=⟨g,i*3,none⟩) hgb (.string x0)).setCell (p:=⟨g,i*3+1,none⟩) hgb (.string x1)).setCell (p:=⟨g,i*3+2,none⟩) hgb (.int .i64 x2);clear R3 R2 hfz c3 HR1 B2 Hx Hcall c0 c1 c2 hb2;go_wp2;go_roundw
     case rel=>exact ⟨i+1,j+1,_,by go_num,by go_num,HK2,HR3.out,B4,by omega⟩
     case measure=>simp [RowKit.intOf];omega
    ·have HS2:Hid (Qfk _ _ _ _ _):=HS.out hq;rw [hq] at Hcall;clear HK HS hq;obtain ⟨x0,x1,x2⟩:=x;obtain ⟨c0,c1,c2⟩:=hn;simp only [Ln.cells] at c0 c1 c2 B2 HR1 Hcall;go_wp2_with fail;refine Hcall.out.mono ?_;rintro e w2 ⟨rfl,hb2⟩;have HR2:Hid (Qab w2 _ _ _):=Qab.below HR1.out hb2;have B3:=B2.trans (hb2.mono (by simp;omega))
     clear HR1 B2 Hcall hb2 c0 c1 c2;go_wp2;go_roundw
     case rel=>exact ⟨i,j+1,d,rfl,by go_num,HS2,HR2.out,B3,by omega⟩
     case measure=>simp [RowKit.intOf];omega
   ·have hj:j=l.length:=by omega
    subst hj;have hpre:=HD.out.pre;rw [List.take_length] at hpre;have hi1:(i:Int)<l.length:=by omega
    have hi0:(0:Int)≤i:=by omega
    have hgb:=(R.out.own) g rfl;have hgw:=(World.ownsRow.lt R.out g rfl).2;have hR2:=R.out;rw [← hdl] at hR2;rcases hR2.2 with ⟨hv,_⟩ | ⟨g1,c1,cur,hv,hb,hg,hc,hm,hs,ht⟩
    ·cases hv
    cases hv;obtain ⟨Z,hZl,hcl⟩:=run_clear3 wr 0 g (i*3) (l.length - i) (cap - i) cur 44 hg (by omega) (by rw [hs];omega)
    obtain ⟨A,hA⟩:∃ A:Array Value,A=(cur.toList.take (i*3)++Z++cur.toList.drop (i*3+Z.length)).toArray:=⟨_,rfl⟩;rw [← hA] at hcl;have hlc:cur.toList.length=cap*3:=by simpa using hs
    have hti:(d.take i).length=i:=by rw [List.length_take];omega
    have hAl:A.toList.length=cap*3:=by
     rw [hA,List.toList_toArray,List.length_append,List.length_append,List.length_take,List.length_drop,hlc,hZl];omega
    have e0:cur.toList.take (i*3)=Qah (d.take i):=by
     rw [Qek,← ht,List.take_take,Nat.min_eq_left (by omega)]
    have hfin:Qab (wr.setRow g A) n0 (.slice (some ⟨g,0,none⟩) i cap) (l.filter fun x=>!p x):=by
     rw [← hpre];refine ⟨by rw [Qaf],.inr ⟨g,cap,A,by rw [hti],hb,setRow_heap wr g cur A 44 (0,0) hg,by rw [hti];omega,hm,by simpa using hAl,?_⟩⟩
     rw [hA,List.toList_toArray,e0,List.append_assoc];exact List.take_left' (by rw [Qaf])
    have HF:Hid (Qab _ _ _ _):=hfin;have B4:Below n0 w (wr.setRow g A):=by
     refine BW.trans ⟨rfl,rfl,rfl,by rw [setRow_size];exact Nat.le_refl _,fun k hk=>setRow_other _ _ _ _ (by omega)⟩
    have hci:¬ cap=i:=by omega
    have hc2:(i:Int)≤cap:=by omega
    have hlc2:(l.length:Int)≤cap:=by omega
    clear hfin hA hlc hti hAl e0 hpre hR2 hg hs ht hZl;go_wp2;go_ret;exact ⟨_,rfl,HF.out,B4⟩
end
section
open Go.RowKit Go.Lib Go.Proofs.Tryz
def Qcv (W:World) (b:Nat) (r:ByteArray) (en pe:Int) (v:Value):Prop:=W.heap[b]? = some (.cells #[.string r,.int .i64 en,.int .i64 pe,v] 38 (0,0))
theorem Qcv.c0 {W:World} {b:Nat} {r:ByteArray} {en pe:Int} {v:Value} (h:Qcv W b r en pe v):W.cell? ⟨b,0,none⟩=some (.string r):=by unfold Qcv at h;simp [World.cell?,h]
theorem Qcv.c1 {W:World} {b:Nat} {r:ByteArray} {en pe:Int} {v:Value} (h:Qcv W b r en pe v):W.cell? ⟨b,1,none⟩=some (.int .i64 en):=by unfold Qcv at h;simp [World.cell?,h]
theorem Qcv.c2 {W:World} {b:Nat} {r:ByteArray} {en pe:Int} {v:Value} (h:Qcv W b r en pe v):W.cell? ⟨b,2,none⟩=some (.int .i64 pe):=by unfold Qcv at h;simp [World.cell?,h]
theorem Qcv.c3 {W:World} {b:Nat} {r:ByteArray} {en pe:Int} {v:Value} (h:Qcv W b r en pe v):W.cell? ⟨b,3,none⟩=some v:=by unfold Qcv at h;simp [World.cell?,h]
theorem Qcv.fz {W:World} {b:Nat} {r:ByteArray} {en pe:Int} {v:Value} (h:Qcv W b r en pe v) (o:Nat):W.frozen? ⟨b,o,none⟩=false:=by unfold Qcv at h;simp [World.frozen?,h]
theorem Qcv.below {W W':World} {b n:Nat} {r:ByteArray} {en pe:Int} {v:Value} (h:Qcv W b r en pe v) (hb:Below n W W') (hn:b<n):Qcv W' b r en pe v:=(hb.block b hn).trans h
theorem Qcv.new (W:World) (r:ByteArray) (en pe:Int) (v:Value):Qcv (W.alloc (.cells #[.string r,.int .i64 en,.int .i64 pe,v] 38)) W.heap.size r en pe v:=World.alloc_heap_new W _
theorem Qcv.alloc {W:World} {b:Nat} {r:ByteArray} {en pe:Int} {v:Value} (h:Qcv W b r en pe v) (o:Obj):Qcv (W.alloc o) b r en pe v:=((World.grownBy_alloc W o none).block b (Array.getElem?_eq_some_iff.1 h).1 (by simp)).trans h
theorem Qcv.set0 {W:World} {b:Nat} {r:ByteArray} {en pe:Int} {v:Value} (h:Qcv W b r en pe v) (r':ByteArray):Qcv (W.setCell ⟨b,0,none⟩ (.string r')) b r' en pe v:=by
 unfold Qcv at *
 rw [setCell_eq_setRow W b 0 _ 38 (0,0) _ h,setRow_heap W b _ _ 38 (0,0) h];rfl
theorem Qab.setOther {W:World} {n b o:Nat} {v u:Value} {l:List Ln} (h:Qab W n v l) (hb:b<n):Qab (W.setCell ⟨b,o,none⟩ u) n v l:=by
 rcases h.2 with ⟨hv,hn⟩ | ⟨g1,c1,cur,hv,hb1,hh,r⟩
 ·exact ⟨h.1,.inl ⟨hv,hn⟩⟩
 ·exact ⟨h.1,.inr ⟨g1,c1,cur,hv,hb1,(Below.heap_setCell _ _ _ g1 (fun e=>by simp only at e;omega)).trans hh,r⟩⟩
def nullL (x:Ln):Bool:=decide (x.amt=0)
end
end Go.Proofs.YtibhgngboljhfaaGreatDoor
