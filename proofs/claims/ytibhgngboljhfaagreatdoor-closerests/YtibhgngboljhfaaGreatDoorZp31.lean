/-
  Part of a proof (see the last text).
-/
import Derived.Test.YtibhgngboljhfaaGreatDoorZp30
set_option linter.unusedVariables false
set_option linter.unusedSimpArgs false
set_option maxRecDepth 100000
namespace Go.Proofs.YtibhgngboljhfaaGreatDoor
section
open Go.RowKit Go.Lib Go.Proofs.Tryz
section
variable {W:World} {n0 m0 B:Nat} {P:Cp} {S:Cs}
end
end
section
open Go.RowKit Go.Lib Go.Proofs.Tryz
theorem jeRow_set (L:List Je) (k:Nat) (hk:k<L.length) (x:Je):QaR (L.set k x)=((((QaR L).set (k*4) (.string x.ref)).set (k*4+1) (.int .i64 x.ent)).set (k*4+2) (.int .i64 x.per)).set (k*4+3) (.slice x.adr x.lns.length x.cap):=by
 apply List.ext_getElem?;intro j;obtain ⟨q,r,hr,rfl⟩:∃ q r,r<4∧j=q*4+r:=⟨j / 4,j % 4,Nat.mod_lt _ (by omega),by omega⟩
 by_cases hq:q<L.length
 ·rw [QdU _ q r (by simpa using hq) hr]
  have hlen:(QaR L).length=L.length*4:=Qbd L;simp only [List.getElem?_set,List.length_set,hlen];by_cases hqk:q=k
  ·subst hqk;rw [List.getD_eq_getElem?_getD,List.getElem?_set_self hq,Option.getD_some];rcases (by omega:r=0∨r=1∨r=2∨r=3) with rfl | rfl | rfl | rfl
   ·rw [if_neg (by omega),if_neg (by omega),if_neg (by omega),if_pos (by omega),if_pos (by omega)];rfl
   ·rw [if_neg (by omega),if_neg (by omega),if_pos (by omega),if_pos (by omega)];rfl
   ·rw [if_neg (by omega),if_pos (by omega),if_pos (by omega)];rfl
   ·rw [if_pos (by omega),if_pos (by omega)];rfl
  ·rw [if_neg (by omega),if_neg (by omega),if_neg (by omega),if_neg (by omega),QdU L q r hq hr,List.getD_eq_getElem?_getD,List.getElem?_set_ne (fun e=>hqk e.symm),← List.getD_eq_getElem?_getD]
 ·rw [List.getElem?_eq_none (by rw [Qbd,List.length_set];omega),List.getElem?_eq_none (by simp only [List.length_set,Qbd];omega)]
def put4 (W:World) (g k:Nat) (x:Je):World:=(((W.setCell ⟨g,k*4,none⟩ (.string x.ref)).setCell ⟨g,k*4+1,none⟩ (.int .i64 x.ent)).setCell ⟨g,k*4+2,none⟩ (.int .i64 x.per)).setCell ⟨g,k*4+3,none⟩ (.slice x.adr x.lns.length x.cap)
theorem Qbf.put {W:World} {n g c:Nat} {L:List Je} (h:Qbf W n (.slice (some ⟨g,0,none⟩) L.length c) L) (k:Nat) (hk:k<L.length) (x:Je):Qbf (put4 W g k x) n (.slice (some ⟨g,0,none⟩) (L.set k x).length c) (L.set k x):=by
 unfold Qbf put4;rw [jeRow_set L k hk x,List.length_set];have hlen:(QaR L).length=L.length*4:=Qbd L;exact QbU (QbU (QbU (QbU h _ (by omega) _) _ (by simp;omega) _) _ (by simp;omega) _) _ (by simp;omega) _
theorem put4_block {W:World} {g k:Nat} {x:Je} (b:Nat) (hb:b≠g):(put4 W g k x).heap[b]? = W.heap[b]?:=by
 unfold put4;rw [Below.heap_setCell _ _ _ _ hb,Below.heap_setCell _ _ _ _ hb,Below.heap_setCell _ _ _ _ hb,Below.heap_setCell _ _ _ _ hb]
theorem put4_below {W0 W:World} {n g k:Nat} {x:Je} (h:Below n W0 W) (hg:n≤g):Below n W0 (put4 W g k x):=
 (((h.setCell (p:=⟨g,k*4,none⟩) hg _).setCell (p:=⟨g,k*4+1,none⟩) hg _).setCell (p:=⟨g,k*4+2,none⟩) hg _).setCell (p:=⟨g,k*4+3,none⟩) hg _
structure EnsIn (W:World) (es:List Je) (v:Value) (k:Nat) (L:List Je) (wr:World):Prop where
 len:L.length=es.length
 ep:L.map Je.ep=es.map Je.ep
 row:Qbf wr W.heap.size v L
 lns:∀ j,j<k→Qab wr W.heap.size (.slice (L.getD j je0).adr (L.getD j je0).lns.length (L.getD j je0).cap) (L.getD j je0).lns
 old:∀ j,k≤j→L.getD j je0=es.getD j je0
 bel:Below W.heap.size W wr
section
variable {W:World} {n0 m0 B:Nat} {P:Cp} {S:Cs}
theorem EnsIn.step {es:List Je} {g c k:Nat} {L:List Je} {wr w2:World} (h:EnsIn W es (.slice (some ⟨g,0,none⟩) L.length c) k L wr) (hk:k<es.length) {x:Je} (hxe:es.getD k je0=x) (h2:Below wr.heap.size wr w2) {a':Option Addr} {c':Nat}
  (hl:Qab w2 wr.heap.size (.slice a' x.lns.length c') x.lns) :
  EnsIn W es (.slice (some ⟨g,0,none⟩) L.length c) (k+1) (L.set k ⟨x.ref,x.ent,x.per,a',c',x.lns⟩) (put4 w2 g k ⟨x.ref,x.ent,x.per,a',c',x.lns⟩):=by
 have hkL:k<L.length:=by rw [h.len];exact hk
 have hg:=h.row.own g rfl;have hglt:=h.row.lt g rfl;have hz:=h.bel.size;have hty:=h.row.typ g rfl;have B2:Below W.heap.size W w2:=h.bel.trans (h2.mono hz);have r2:=h.row.below h2;have hty2:∃ cs,w2.heap[g]? = some (.cells cs 38 (0,0)):=by
  obtain ⟨cs,hcs⟩:=hty;exact ⟨cs,(h2.block g hglt).trans hcs⟩
 have hline:∀ (n:Nat) (a:Option Addr) (m c:Nat) (l:List Ln),Qab w2 n (.slice a m c) l→Qab (put4 w2 g k ⟨x.ref,x.ent,x.per,a',c',x.lns⟩) n (.slice a m c) l:=fun n a m c l hh=>by
  refine ln_keep hh fun j cs fr hj=>put4_block j fun e=>?_
  obtain ⟨cs2,h3⟩:=hty2;rw [e,h3] at hj;cases hj
 refine ⟨by rw [List.length_set];exact h.len,?_,?_,fun j hj=>?_,fun j hj=>?_,put4_below B2 hg⟩
 ·rw [List.map_set,← h.ep];have e1:(Je.mk x.ref x.ent x.per a' c' x.lns).ep=(L.map Je.ep)[k]'(by simpa using hkL):=by
   have:(L.getD k je0).ep=x.ep:=by rw [h.old k (Nat.le_refl _),hxe]
   rw [List.getD_eq_getElem?_getD,List.getElem?_eq_getElem hkL] at this;simp only [Option.getD_some] at this;rw [List.getElem_map,this];rfl
  rw [e1,List.set_getElem_self]
 ·have:=Qbf.put r2 k hkL ⟨x.ref,x.ent,x.per,a',c',x.lns⟩
  rw [List.length_set] at this;exact this
 ·by_cases e:j=k
  ·subst e;rw [List.getD_eq_getElem?_getD,List.getElem?_set_self hkL,Option.getD_some];exact (hline _ _ _ _ _ hl).mono hz
  ·rw [List.getD_eq_getElem?_getD,List.getElem?_set_ne (fun e2=>e e2.symm),← List.getD_eq_getElem?_getD]
   exact hline _ _ _ _ _ ((h.lns j (by omega)).below h2)
 ·rw [List.getD_eq_getElem?_getD,List.getElem?_set_ne (by omega),← List.getD_eq_getElem?_getD]
  exact h.old j (by omega)
theorem EnsIn.made {es:List Je} {v:Value} {L:List Je} {wr:World} (h:EnsIn W es v es.length L wr):Qbp wr W.heap.size v L:=⟨h.row,fun x hx=>by
 obtain ⟨j,hj,rfl⟩:=List.getElem_of_mem hx
 have:=h.lns j (by rw [← h.len];exact hj)
 rw [List.getD_eq_getElem?_getD,List.getElem?_eq_getElem hj] at this;exact this⟩
set_option maxHeartbeats 4000000 in
theorem clEntries_any (h:Qby W n0 m0 B P S) (hlen:S.es.length≤1000) (hll:∀ x∈S.es,x.lns.length≤1000) :
  Calls prog 9 #[.pointer (some ⟨B,0,none⟩)] W fun e w'=>∃ a c L,e=.returned (.slice a L.length c)∧Hid (Qbp w' W.heap.size (.slice a L.length c) L∧L.map Je.ep=S.es.map Je.ep∧Below W.heap.size W w'):=by
 have k8:W.cell? ⟨B,8,none⟩=some (.slice P.ea S.es.length P.ec):=h.cell 8;have hjs:=h.isJs;have HC:Hid (Calls _ _ _ _ _):=clone_Je P.ea S.es.length P.ec (QaR S.es) W (Qbd _) (QeK _) (fun h0=>by
  rcases hjs.lies with hh | ⟨b,off,e,hlt,hc⟩
  ·rw [hh] at h0;exact absurd rfl h0
  ·exact ⟨_,e,hlt,je_src hc⟩) hlen
 have HJ:Hid (QdF W P.ea S.es P.ec):=hjs;have HLL:Hid (∀ x∈S.es,x.lns.length≤1000):=hll;have hle:(S.es.length:Int)≤1000:=by omega
 clear h hll hjs;go_enter func9,ntmps9
 go_wp2_with fail;refine HC.out.mono ?_;rintro e w1 ⟨a1,c1,rfl,hown,hb1⟩;have HI0:Hid (EnsIn W S.es (.slice a1 S.es.length c1) 0 S.es w1):=⟨rfl,rfl,hown,fun j hj=>by omega,fun _ _=>rfl,hb1⟩
 clear HC hb1 k8 hown;go_wp2;go_loopw [13] (fun i wr=>∃ (k:Nat) (L:List Je),k≤S.es.length∧i=.int .i64 k∧Hid (EnsIn W S.es (.slice a1 S.es.length c1) k L wr)) (fun i _=>S.es.length - (RowKit.intOf i).toNat)
 case atStart=>exact ⟨0,S.es,Nat.zero_le _,rfl,HI0⟩
 case round=>
  obtain ⟨k,L,hk,rfl,HI⟩:=hrel;clear HI0;by_cases hlt:k<S.es.length
  ·have hI:=HI.out;have hLn:=hI.len;rw [← hLn] at hI;have hkL:k<L.length:=by omega
   rcases hI.row.2 with ⟨hv,h0⟩ | ⟨g,cg,cur,hv,hrest⟩
   ·rw [h0] at hkL;omega
   cases hv;rcases (Qbf.lies hI.row) with ⟨a',cap',ea,_,h0 | ⟨b,off,eb,hbl,hcc⟩⟩
   ·rw [h0] at hkL;simp at hkL
   cases ea;cases eb;have hx:=hcc k hkL;rw [hI.old k (Nat.le_refl _)] at hx;have hln:=(HJ.out.lns _ (Qb0 S.es k hlt)).below hI.bel;have hll:=HLL.out _ (Qb0 S.es k hlt);have HStep:Hid (∀ w2 a' c',Below wr.heap.size wr w2→Qab w2 wr.heap.size (.slice a' (S.es.getD k je0).lns.length c') (S.es.getD k je0).lns→EnsIn W S.es (.slice (some ⟨g,0,none⟩) S.es.length c1) (k+1) (L.set k ⟨(S.es.getD k je0).ref,(S.es.getD k je0).ent,(S.es.getD k je0).per,a',c',(S.es.getD k je0).lns⟩) (put4 w2 g k ⟨(S.es.getD k je0).ref,(S.es.getD k je0).ent,(S.es.getD k je0).per,a',c',(S.es.getD k je0).lns⟩)):=fun w2 a' c' h1 h2=>by
    have:=hI.step hlt rfl h1 h2
    rw [hLn] at this;exact this
   have HRw:Hid (Qbf wr W.heap.size (.slice (some ⟨g,0,none⟩) S.es.length c1) L):=by
    have:=hI.row
    rw [hLn] at this;exact this
   generalize S.es.getD k je0=x at *
   have HAp:Hid (∀ U,Below wr.heap.size wr U→Calls prog 36 #[.agg #[.string x.ref,.int .i64 x.ent,.int .i64 x.per,.slice x.adr x.lns.length x.cap]] U fun e w'=>∃ a' cap',e=.returned (.agg #[.string x.ref,.int .i64 x.ent,.int .i64 x.per,.slice a' x.lns.length cap'])∧Qab w' wr.heap.size (.slice a' x.lns.length cap') x.lns∧Below wr.heap.size wr w'):=fun U hU=>by
    refine (QhU x.ref x.ent x.per x.adr x.lns x.cap U (hln.below hU) hll).mono ?_;rintro e w' ⟨a',cap',rfl,h1,h2⟩;exact ⟨a',cap',rfl,h1.mono hU.size,hU.trans (h2.mono hU.size)⟩
   have i0:(0:Int)≤k:=by omega
   have i1:(k:Int)<S.es.length:=by omega
   clear hln hll hcc hI HI hrest;obtain ⟨x0,x1,x2,x3,x4,x5⟩:=x;obtain ⟨d0,d1,d2,d3⟩:=hx;simp only [Nat.zero_add] at d0 d1 d2 d3 HAp HStep;go_wp2_with fail;refine (HAp.out _ ((Below.refl _ wr).alloc (Nat.le_refl _) _)).mono ?_;rintro e w2 ⟨a',cap',rfl,h1,h2⟩;have HN:Hid (EnsIn W S.es (.slice (some ⟨g,0,none⟩) S.es.length c1) (k+1) (L.set k ⟨x0,x1,x2,a',cap',x5⟩) (put4 w2 g k ⟨x0,x1,x2,a',cap',x5⟩)):=HStep.out w2 a' cap' h2 h1
   have hr2:World.ownsRow w2 W.heap.size 38 4 (.slice (some ⟨g,0,none⟩) S.es.length c1) S.es.length (QaR L):=by
    have:=HRw.out.below h2
    unfold Qbf at this;rw [hLn] at this;exact this
   have hlr:(QaR L).length=L.length*4:=Qbd L;have c0:w2.cell? ⟨g,k*4,none⟩=some (.string x0):=(h2.cell (p:=⟨g,k*4,none⟩) hbl).trans d0;have c1':w2.cell? ⟨g,k*4+1,none⟩=some (.int .i64 x1):=(h2.cell (p:=⟨g,k*4+1,none⟩) hbl).trans d1;have c2:w2.cell? ⟨g,k*4+2,none⟩=some (.int .i64 x2):=(h2.cell (p:=⟨g,k*4+2,none⟩) hbl).trans d2;have c3:w2.cell? ⟨g,k*4+3,none⟩=some (.slice x3 x5.length x4):=(h2.cell (p:=⟨g,k*4+3,none⟩) hbl).trans d3
   have f0:=Qbw hr2 (k*4);have f1:=Qbw hr2 (k*4+1);have f2:=Qbw hr2 (k*4+2);have f3:=Qbw hr2 (k*4+3);unfold put4 at HN;clear HAp HStep HRw h1 h2 hr2 d0 d1 d2 d3 HJ HLL;go_wp2;go_roundw
   case rel=>exact ⟨k+1,_,by omega,by go_num,HN⟩
   case measure=>simp [RowKit.intOf];omega
  ·have ek:k=S.es.length:=by omega
   subst ek;have i1:¬ (S.es.length:Int)<S.es.length:=by omega
   have HE:Hid (Qbp wr W.heap.size (.slice a1 L.length c1) L∧L.map Je.ep=S.es.map Je.ep∧Below W.heap.size W wr):=by
    have:=HI.out
    exact ⟨by rw [this.len];exact this.made,this.ep,this.bel⟩
   have hLn:=HI.out.len;clear HI;have HE2:Hid (∃ L',L'.length=S.es.length∧Hid (Qbp wr W.heap.size (.slice a1 L'.length c1) L'∧L'.map Je.ep=S.es.map Je.ep∧Below W.heap.size W wr)):=⟨L,hLn,HE⟩;clear hLn HE;go_wp2;go_ret;obtain ⟨L',hL',hE⟩:=HE2.out;exact ⟨a1,c1,L',by rw [hL'];rfl,hE⟩
end
end
section
open Go.RowKit Go.Lib Go.Proofs.Tryz
theorem tot_one {p:Ln→Bool} (cur:ByteArray) (hp:KeyP p):∀ l:List Ln,(∀ x∈l,x.cur=cur)→tot p (l.map Qbt)=if p ⟨ByteArray.empty,cur,0⟩=true then (l.map Ln.amt).sum else 0
 | [],_=>by simp [tot]
 | x :: l,h=>by
  have ih:=tot_one cur hp l fun y hy=>h y (List.mem_cons_of_mem _ hy)
  have hx:=h x (List.mem_cons_self ..);have e:p (Qbt x)=p ⟨ByteArray.empty,cur,0⟩:=hp _ _ (by simp [Qef,Qbt,hx])
  rw [List.map_cons,tot,ih,e,List.map_cons,List.sum_cons]
  split <;> simp [Qbt]
theorem sum_noz:∀ l:List Ln,((l.filter fun x=>!isNo x).map Ln.amt).sum=(l.map Ln.amt).sum
 | []=>rfl
 | x :: l=>by
  have ih:=sum_noz l;rw [List.filter_cons]
  split
  ·rw [List.map_cons,List.sum_cons,ih,List.map_cons,List.sum_cons]
  ·rename_i h
   have:x.amt=0:=by simpa [isNo] using h
   rw [ih,List.map_cons,List.sum_cons,this];omega
theorem goL_cur {p:Po} {has:Int}:∀ x∈goL p has,x.cur=p.cur:=fun x hx=>by
 have hx:=(List.mem_filter.1 hx).1;rcases List.mem_cons.1 hx with rfl | hx
 ·rfl
 ·obtain ⟨k,_,rfl⟩:=List.mem_map.1 hx;rfl
theorem goL_sum {c:List Ac} {p:Po} {has:Int} (h:Qcd c p=0):((goL p has).map Ln.amt).sum=0:=by
 obtain ⟨q1,q2,q3,q4,_⟩:=QcY h;unfold goL;rw [sum_noz];unfold allL;rw [List.map_cons,List.sum_cons,List.map_map];have e:(List.range p.tos.length).map (Ln.amt ∘ toLn p has)=(List.range p.ws.length).map (Qa4 has p.ws):=by rw [q1];rfl
 rw [e,share_sum (QfZ q4)];show -has+has=0;omega
theorem goL_even {c:List Ac} {p:Po} {has:Int} (h:Qcd c p=0):evenL (goL p has):=fun q hq=>by
 rw [tot_one p.cur hq _ goL_cur,goL_sum h]
 split <;> rfl
theorem ae_within {c:List Ac} {p:Po} {has:Int} (h:Qcd c p=0) (ha:isAmt has):QaA Qaq (goL p has):=fun x hx=>by
 have hx:=(List.mem_filter.1 hx).1;obtain ⟨q1,q2,q3,q4,_⟩:=QcY h;unfold isAmt at ha;unfold Qaq;rcases List.mem_cons.1 hx with rfl | hx
 ·show -1000000000000000≤-has∧-has≤1000000000000000;omega
 ·obtain ⟨k,hk,rfl⟩:=List.mem_map.1 hx
  have:=share_bd (t:=has) (QfZ q4) (i:=k) (by rw [q1];exact List.mem_range.1 hk)
  show -1000000000000000≤Qa4 has p.ws k∧Qa4 has p.ws k≤1000000000000000;by_cases h0:0≤has
  ·have:=this.1 h0;omega
  ·have:=this.2 (by omega);omega
theorem ae_len (p:Po) (has:Int):(goL p has).length≤p.tos.length+1:=by
 have:=List.length_filter_le (fun x=>!isNo x) (allL p has)
 rw [allL_len] at this;exact this
theorem goL_head (p:Po) {has:Int} (h0:has≠0):∃ t,goL p has=⟨p.acc,p.cur,-has⟩ :: t∧∀ x∈t,Qhr x.acc p.tos=true:=by
 unfold goL allL;rw [List.filter_cons,if_pos (by simp [isNo];omega)]
 refine ⟨_,rfl,fun x hx=>?_⟩
 obtain ⟨k,hk,rfl⟩:=List.mem_map.1 (List.mem_filter.1 hx).1;unfold Qhr;rw [List.any_eq_true];refine ⟨p.tos.getD k ByteArray.empty,?_,by simp [toLn]⟩
 rw [List.getD_eq_getElem?_getD,List.getElem?_eq_getElem (List.mem_range.1 hk)];exact List.getElem_mem _
theorem alTo_mem {en pe:Int} {b:List Bl} {l:List Po} {n:Nat} {x:Ep} (h:x∈QgA en pe b l n):∃ k,k<n∧Qca b en (l.getD k po0).acc (l.getD k po0).cur≠0∧x.lns=goL (l.getD k po0) (Qca b en (l.getD k po0).acc (l.getD k po0).cur):=by
 obtain ⟨k,hk,hx⟩:=List.mem_flatMap.1 h;refine ⟨k,List.mem_range.1 hk,?_⟩;unfold poE at hx;split at hx
 ·cases hx
 ·rename_i h0;rw [List.mem_singleton] at hx;subst hx;exact ⟨h0,rfl⟩
theorem all_even {c:List Ac} {l:List Po} {b:List Bl} {en pe:Int} (h:Qbs c l b en pe=0) {L:List Je} (hL:L.map Je.ep=QgA en pe b l l.length):∀ x∈L,0<x.lns.length∧x.lns.length≤20∧QaA Qaq x.lns∧∀ y∈Qai x.lns,y.amt=0:=fun x hx=>by
 have hm:x.ep∈QgA en pe b l l.length:=by rw [← hL];exact List.mem_map_of_mem hx
 obtain ⟨k,hk,h0,e⟩:=alTo_mem hm;have e':x.lns=goL (l.getD k po0) (Qca b en (l.getD k po0).acc (l.getD k po0).cur):=e;unfold Qbs at h;split at h
 ·contradiction
 ·rename_i h1;have hps:=(QcZ (Decidable.of_not_not h1)).2.2 k hk;split at h
  ·contradiction
  ·split at h
   ·omega
   ·have hz:=QaK h k hk;unfold QdA at hz;split at hz
    ·rename_i ha;rw [e'];obtain ⟨t,ht,_⟩:=goL_head (l.getD k po0) h0;refine ⟨by rw [ht];simp,?_,ae_within hps ha,fun y hy=>?_⟩
     ·have:=ae_len (l.getD k po0) (Qca b en (l.getD k po0).acc (l.getD k po0).cur)
      have:=(QcY hps).2.2.1
      omega
     ·have:=(QgJ (l:=goL (l.getD k po0) (Qca b en (l.getD k po0).acc (l.getD k po0).cur))).2 (goL_even hps)
      rw [List.any_eq_false] at this
      have:=this y hy
      simpa [nullL] using this
    ·omega
end
section
open Go.RowKit Go.Lib Go.Proofs.Tryz
theorem step_pos {a p x:Int} (ha:0≤a) (hp:1≤p) (hx:0≤x):a / p≤(x+a) / p - x / p∧(x+a) / p - x / p≤a / p+1∧(x+a) / p - x / p≤a:=by
 have e1:=Int.mul_ediv_add_emod x p;have e2:=Int.mul_ediv_add_emod a p;have e3:=Int.mul_ediv_add_emod (x+a) p;have r1:=Int.emod_nonneg x (by omega:p≠0)
 have r2:=Int.emod_nonneg a (by omega:p≠0)
 have r3:=Int.emod_nonneg (x+a) (by omega:p≠0)
 have t1:=Int.emod_lt_of_pos x (by omega:0<p)
 have t2:=Int.emod_lt_of_pos a (by omega:0<p)
 have t3:=Int.emod_lt_of_pos (x+a) (by omega:0<p)
 have q2:0≤a / p:=Int.ediv_nonneg ha (by omega)
 generalize (x+a) / p=s at *
 generalize x / p=t at *
 generalize a / p=u at *
 have k:p*(s - t - u)=x % p+a % p - (x+a) % p:=by rw [Int.mul_sub,Int.mul_sub];omega
 have k1:p*(s - t - u)<p*2:=by omega
 have k2:p*(-1)<p*(s - t - u):=by omega
 have j1:=Int.lt_of_mul_lt_mul_left k1 (by omega)
 have j2:=Int.lt_of_mul_lt_mul_left k2 (by omega)
 refine ⟨by omega,by omega,?_⟩
 by_cases hd:s - t - u=1
 ·by_cases ha0:u+1≤a
  ·omega
  ·exfalso
   -- u ≥ a: then p*u≤a gives p=1 or a=0
   have h1:p*u≤a:=by omega
   have h2:a≤u:=by omega
   rw [hd] at k;by_cases hp1:p=1
   ·subst hp1;omega
   ·have h3:2*u≤p*u:=Int.mul_le_mul_of_nonneg_right (by omega) q2
    have h4:u=0:=by omega
    subst h4;omega
 ·have hd0:s - t - u=0:=by omega
  have h5:u≤p*u:=by
   have:=Int.mul_le_mul_of_nonneg_right hp q2
   omega
  omega
def loN (am pr:Int):Int:=if 0<am then am / pr else -((-am) / pr) - 1
theorem part_is {am pr k:Int} (hp:1≤pr) (h0:0≤k):(0<am→(0≤(am*(k+1)).tdiv pr - (am*k).tdiv pr∧loN am pr≤(am*(k+1)).tdiv pr - (am*k).tdiv pr∧(am*(k+1)).tdiv pr - (am*k).tdiv pr≤loN am pr+1∧(am*(k+1)).tdiv pr - (am*k).tdiv pr≤am))∧(am<0→((am*(k+1)).tdiv pr - (am*k).tdiv pr≤0∧loN am pr≤(am*(k+1)).tdiv pr - (am*k).tdiv pr∧(am*(k+1)).tdiv pr - (am*k).tdiv pr≤loN am pr+1∧am≤(am*(k+1)).tdiv pr - (am*k).tdiv pr)):=by
 refine ⟨fun ha=>?_,fun ha=>?_⟩
 ·have m0:=Int.mul_nonneg (by omega:0≤am) h0
  have m1:am*(k+1)=am*k+am:=by rw [Int.mul_add,Int.mul_one]
  rw [m1,Int.tdiv_eq_ediv_of_nonneg (by omega),Int.tdiv_eq_ediv_of_nonneg m0]
  obtain ⟨s1,s2,s3⟩:=step_pos (by omega:0≤am) hp m0
  have q:0≤am / pr:=Int.ediv_nonneg (by omega) (by omega)
  unfold loN;rw [if_pos ha];omega
 ·have m0:=Int.mul_nonneg (by omega:0≤-am) h0
  have m1:-am*(k+1) = -am*k + -am:=by rw [Int.mul_add,Int.mul_one]
  have n1:am*(k+1) = -(-am*(k+1)):=by rw [Int.neg_mul,Int.neg_neg]
  have n0:am*k = -(-am*k):=by rw [Int.neg_mul,Int.neg_neg]
  rw [n1,n0,Int.neg_tdiv,Int.neg_tdiv,m1,Int.tdiv_eq_ediv_of_nonneg (by omega),Int.tdiv_eq_ediv_of_nonneg m0]
  obtain ⟨s1,s2,s3⟩:=step_pos (by omega:0≤-am) hp m0
  have q:0≤(-am) / pr:=Int.ediv_nonneg (by omega) (by omega)
  unfold loN;rw [if_neg (by omega)]
  omega
theorem part_most {am fs pr pe:Int} (h:QbG am fs pr=true) (hp:Qak pe 120=true):-Qaq≤Qcz am fs pr pe∧Qcz am fs pr pe≤Qaq:=by
 obtain ⟨h0,ha,hq,hf⟩:=Qe1.1 h;unfold Qcz
 split
 ·unfold Qaq;omega
 ·obtain ⟨p1,p2⟩:=part_is (am:=am) (pr:=pr) (k:=pe - fs) hq.1 (by omega)
  by_cases hs:0<am
  ·have:=p1 hs;omega
  ·have:=p2 (by omega);omega
theorem pl_zero (p:Pn) (n:Int) (h:-Qaq≤n∧n≤Qaq):0<(QcJ p n).length∧(QcJ p n).length≤20∧QaA Qaq (QcJ p n)∧∀ y∈Qai (QcJ p n),y.amt=0:=by
 refine ⟨by simp [QcJ],by simp [QcJ],?_,?_⟩
 ·intro x hx;simp only [QcJ,List.mem_cons,List.not_mem_nil,or_false] at hx;rcases hx with rfl | rfl
  ·exact h
  ·show -Qaq≤-n∧-n≤Qaq;omega
 ·have key:∀ p':Ln→Bool,KeyP p'→tot p' ((QcJ p n).map Qbt)=0:=fun p' hp=>by
   have e:(QcJ p n).map Qbt=[Qbt ⟨p.src,p.cur,n⟩]++[Qbt ⟨p.src,p.cur,n⟩].map turnL:=rfl;rw [e,Qen,QgK hp];omega
  exact Qg2.2 key
theorem plTo_mem {en pe:Int} {l:List Pn} {n:Nat} {x:Ep} (h:x∈Qig en pe l n):∃ k,k<n∧x.lns=QcJ (l.getD k pn0) (Qcz (l.getD k pn0).amt (l.getD k pn0).fst (l.getD k pn0).per pe):=by
 obtain ⟨k,hk,hx⟩:=List.mem_flatMap.1 h;refine ⟨k,List.mem_range.1 hk,?_⟩;unfold plE at hx;split at hx
 ·rw [List.mem_singleton] at hx;subst hx;rfl
 ·cases hx
theorem pl_even {c:List Ac} {l:List Pn} {en pe:Int} (h:QbM c l en pe=0) {L:List Je} (hL:L.map Je.ep=Qig en pe l l.length):∀ x∈L,0<x.lns.length∧x.lns.length≤20∧QaA Qaq x.lns∧∀ y∈Qai x.lns,y.amt=0:=fun x hx=>by
 have hm:x.ep∈Qig en pe l l.length:=by rw [← hL];exact List.mem_map_of_mem hx
 obtain ⟨k,hk,e⟩:=plTo_mem hm;have e':x.lns=_:=e;unfold QbM at h;split at h
 ·contradiction
 ·rename_i h1;split at h
  ·omega
  ·rename_i h2;have h2':Qak en 12=true∧Qak pe 120=true:=by simpa using h2
   obtain ⟨_,_,p3⟩:=Qdb (Decidable.of_not_not h1);obtain ⟨_,_,q3,_⟩:=pnBad_ok (p3 k hk);rw [e'];exact pl_zero _ _ (part_most q3 h2'.2)
end
section
open Go.RowKit Go.Lib Go.Maps Math Go.Proofs.Tryz
end
section
open Go.RowKit Go.Lib Go.Proofs.Tryz
end
end Go.Proofs.YtibhgngboljhfaaGreatDoor
