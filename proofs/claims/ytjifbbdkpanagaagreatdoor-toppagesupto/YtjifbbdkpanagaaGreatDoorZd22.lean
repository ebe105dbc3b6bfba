/-
  Part of a proof (see the last text).
-/
import Derived.Test.YtjifbbdkpanagaaGreatDoorZd20
import Derived.Test.YtjifbbdkpanagaaGreatDoorZd21
import Derived.WideKeyEntry
set_option linter.unusedVariables false
set_option linter.unusedSimpArgs false
set_option maxRecDepth 100000
namespace Go.Proofs.YtjifbbdkpanagaaGreatDoor
section
open Go.RowKit Go.Lib Go.Proofs.Tryz
theorem ln_clone (a:Option Addr) (l:List Ln) (cap:Nat) (w:World) (h:Qfs w a l cap) (hl:l.length≤1000) :
  Calls prog 125 #[.slice a l.length cap] w fun e w'=>∃ a' c',e=.returned (.slice a' l.length c')∧Qag w' w.heap.size (.slice a' l.length c') l∧Below w.heap.size w w':=by
 refine clone_Li a l.length cap (Qas l) w (Qak l) (QcN l) (fun h0=>?_) hl
 rcases h.lies with hh | ⟨b,off,rfl,hlt,hc⟩
 ·rw [hh] at h0;exact absurd rfl h0
 ·exact ⟨_,rfl,hlt,jln_src hc⟩
set_option maxHeartbeats 2000000 in
theorem clApart_any (r:ByteArray) (en pe:Int) (a:Option Addr) (l:List Ln) (cap:Nat) (w:World) (h:Qfs w a l cap) (hl:l.length≤1000) :
  Calls prog 84 #[.agg #[.string r,.int .i64 en,.int .i64 pe,.slice a l.length cap]] w fun e w'=>∃ a' cap',e=.returned (.agg #[.string r,.int .i64 en,.int .i64 pe,.slice a' l.length cap'])∧Qag w' w.heap.size (.slice a' l.length cap') l∧Below w.heap.size w w':=by
 have b0:Below w.heap.size w ((w.alloc (.cells #[.string r,.int .i64 en,.int .i64 pe,.slice a l.length cap] 59)).alloc (.cells #[.string ByteArray.empty,.int .i64 0,.int .i64 0,.slice none 0 0] 59)):=((Below.refl _ w).alloc (Nat.le_refl _) _).alloc (by simp) _
 have x1:=QcU.new (w.alloc (.cells #[.string r,.int .i64 en,.int .i64 pe,.slice a l.length cap] 59)) ByteArray.empty 0 0 (.slice none 0 0);have z1:=(QcU.new w r en pe (.slice a l.length cap)).alloc (.cells #[.string ByteArray.empty,.int .i64 0,.int .i64 0,.slice none 0 0] 59);have hs0:((w.alloc (.cells #[.string r,.int .i64 en,.int .i64 pe,.slice a l.length cap] 59)).alloc (.cells #[.string ByteArray.empty,.int .i64 0,.int .i64 0,.slice none 0 0] 59)).heap.size=w.heap.size+1+1:=by simp
 rw [World.size_alloc] at x1;have HC:Hid (Calls _ _ _ _ _):=ln_clone a l cap _ (h.below b0) hl;have c3:=z1.c3;clear h hl;go_enter func84,ntmps84
 go_wp2_with fail;refine HC.out.mono ?_;rintro e w3 ⟨a3,k3,rfl,r3,b3⟩;rw [hs0] at r3 b3;have B3:=b0.trans (b3.mono (by omega))
 have y3:=x1.below b3 (by omega)
 have t3:=z1.below b3 (by omega)
 have d0:=y3.c0;have d1:=y3.c1;have d2:=y3.c2;have d3:=y3.c3;have f0:=y3.fz 0;have f1:=y3.fz 1;have f2:=y3.fz 2;have f3:=y3.fz 3;have e0:=t3.c0;have e1:=t3.c1;have e2:=t3.c2;have e3:=t3.c3;have g3:=t3.fz 3;have HR:Hid (Qag w3 (w.heap.size+1+1) (.slice a3 l.length k3) l):=r3;have hlt1:w.heap.size<w.heap.size+1+1:=by omega
 have hlt2:w.heap.size+1<w.heap.size+1+1:=by omega
 clear r3 b3 y3 t3 b0 x1 z1 c3 HC hs0;go_wp2;exact bodyPost_ret (v:=.agg #[.string r,.int .i64 en,.int .i64 pe,.slice a3 l.length k3]) (by simp [results,Tryz.results84,go_sem,d0,d1,d2,d3]) rfl ⟨_,_,rfl,Qag.mono (Qag.setOther (b:=w.heap.size+1) (o:=3) (Qag.setOther (b:=w.heap.size+1) (o:=2) (Qag.setOther (b:=w.heap.size+1) (o:=1) (Qag.setOther (b:=w.heap.size+1) (o:=0) (Qag.setOther (b:=w.heap.size) (o:=3) HR.out hlt1) hlt2) hlt2) hlt2) hlt2) (by omega),(((((B3.setCell (p:=⟨w.heap.size,3,none⟩) (by simp) _).setCell (p:=⟨w.heap.size+1,0,none⟩) (by simp) _).setCell (p:=⟨w.heap.size+1,1,none⟩) (by simp) _).setCell (p:=⟨w.heap.size+1,2,none⟩) (by simp) _).setCell (p:=⟨w.heap.size+1,3,none⟩) (by simp) _)⟩
def clT (B:Nat) (P:Cp) (n b:Nat):Prop:=b=B∨b=P.bm∨b=P.bs∨some b=(Value.slice P.ea n P.ec).ownBlock
def Cs.add (S:Cs) (x:Je):Cs:={ S with es:=S.es++[x] }
section
variable {W:World} {n0 m0 B:Nat} {P:Cp} {S:Cs}
theorem clT_X (h:Qcf W n0 m0 B P S):∀ b,clT B P S.es.length b→clX B P m0 b:=fun b hb=>by
 rcases hb with hb | hb | hb | hb
 ·exact .inl hb
 ·exact .inr (.inl hb)
 ·exact .inr (.inr (.inl hb))
 ·exact .inr (.inr (.inr (h.row.own b hb.symm)))
theorem cl_cells8 (P:Cp) (S:Cs) (x:Je) (g cp:Nat):(Qbq P S).setIfInBounds 8 (.slice (some ⟨g,0,none⟩) (S.es.length+1) cp)=Qbq { P with ea:=some ⟨g,0,none⟩,ec:=cp } (S.add x):=by
 unfold Qbq Cs.add;simp
theorem take_end {V V1 V2 V3:World} {r:ByteArray} {en pe:Int} {a':Option Addr} {cap':Nat} {l:List Ln} {g cp:Nat}
  (j:Qcf V n0 m0 B P S) (hl:Qag V m0 (.slice a' l.length cap') l)
  (hown:V1.ownsRow m0 59 4 (.slice (some ⟨g,0,none⟩) (S.es.length+1) cp) (S.es.length+1) (Qby S.es++(Je.mk r en pe a' cap' l).cells.toList)) (hg:V.grownBy V1 (Value.slice P.ea S.es.length P.ec).ownBlock)
  (hV2:V2=V1.setCell ⟨B,8,none⟩ (.slice (some ⟨g,0,none⟩) (S.es.length+1) cp))
  (hm:RMap V3 P.bm (S.es.map (·.ref)++[r])) (hos:V3.os=V2.os) (htp:V3.tape=V2.tape) (hou:V3.output=V2.output) (hsz:V3.heap.size=V2.heap.size) (hb:∀ b,b≠P.bm→V3.heap[b]? = V2.heap[b]?) :
  Qcf V3 n0 m0 B { P with ea:=some ⟨g,0,none⟩,ec:=cp } (S.add ⟨r,en,pe,a',cap',l⟩)∧Qa9 (clT B P S.es.length) V V3:=by
 obtain ⟨me,mc,hmm⟩:=j.refs.isMap;have hbm:B≠P.bm:=fun e=>by rw [← e,j.box] at hmm;cases hmm
 have hbs:B≠P.bs:=fun e=>by have:=j.stg;unfold IMap at this;rw [← e,j.box] at this;cases this
 have hty:∀ b,some b=(Value.slice P.ea S.es.length P.ec).ownBlock→∃ cs,V.heap[b]? = some (.cells cs 59 (0,0)):=fun b e=>j.row.typ b e.symm
 have hbv:some B≠(Value.slice P.ea S.es.length P.ec).ownBlock:=fun e=>by
  obtain ⟨cs,h1⟩:=hty B e;rw [j.box] at h1;cases h1
 have hsv:some P.bs≠(Value.slice P.ea S.es.length P.ec).ownBlock:=fun e=>by
  obtain ⟨cs,h1⟩:=hty _ e
  have:=j.stg
  unfold IMap at this;rw [this] at h1;cases h1
 have hmv:some P.bm≠(Value.slice P.ea S.es.length P.ec).ownBlock:=fun e=>by
  obtain ⟨cs,h1⟩:=hty _ e;rw [hmm] at h1;cases h1
 have hbx1:V1.heap[B]? = some (.cells (Qbq P S) 123 (0,0)):=(hg.block B j.lt hbv).trans j.box;have hbx2:V2.heap[B]? = some (.cells (Qbq { P with ea:=some ⟨g,0,none⟩,ec:=cp } (S.add ⟨r,en,pe,a',cap',l⟩)) 123 (0,0)):=by
  rw [hV2,setCell_eq_setRow V1 B 8 _ 123 (0,0) _ hbx1,setRow_heap V1 B _ _ 123 (0,0) hbx1];rw [← cl_cells8]
 have hoth:∀ b,b≠B→V2.heap[b]? = V1.heap[b]?:=fun b hne=>by rw [hV2];exact Below.heap_setCell _ _ _ _ hne
 have hsz2:V2.heap.size=V1.heap.size:=by rw [hV2];simp [World.setCell]
 have hlow:∀ b,b<V.heap.size→b≠B→b≠P.bm→some b≠(Value.slice P.ea S.es.length P.ec).ownBlock→V3.heap[b]? = V.heap[b]?:=fun b hlt h1 h2 h3=>by
  rw [hb b h2,hoth b h1,hg.block b hlt h3]
 have hline:∀ (b:Nat) (cs:Array Value) (fr:Nat×Nat),V.heap[b]? = some (.cells cs 56 fr)→V3.heap[b]? = V.heap[b]?:=fun b cs fr hh=>by
  refine hlow b (Array.getElem?_eq_some_iff.1 hh).1 (fun e=>?_) (fun e=>?_) (fun e=>?_)
  ·rw [e,j.box] at hh;cases hh
  ·rw [e,hmm] at hh;cases hh
  ·obtain ⟨cs',h1⟩:=hty b e;rw [h1] at hh;cases hh
 have hkeep:Qa9 (clT B P S.es.length) V V3:=⟨by rw [hos,hV2];exact hg.os,by rw [htp,hV2];exact hg.tape,by rw [hou,hV2];exact hg.output,by rw [hsz,hsz2];exact hg.size,fun b hlt hx=>hlow b hlt (fun e=>hx (.inl e)) (fun e=>hx (.inr (.inl e))) (fun e=>hx (.inr (.inr (.inr e))))⟩
 have hsm:V3.heap[P.bs]? = V.heap[P.bs]?:=hlow _ j.stg.lt (fun e=>hbs e.symm) (fun e=>j.ne e.symm) hsv
 refine ⟨⟨(hb B hbm).trans hbx2,by simpa [Cs.add] using hm,hsm.trans j.stg,?_,fun x hx=>?_,fun U hU=>?_,j.hB,j.hm,j.hs,?_,?_⟩,hkeep⟩
 ·have e:(S.add ⟨r,en,pe,a',cap',l⟩).es=S.es++[⟨r,en,pe,a',cap',l⟩]:=rfl;rw [e];unfold QbG;rw [QdF,jeRow_one,List.length_append];rcases hown.2 with ⟨hv,_⟩ | ⟨g1,c1,cur,hv,hb1,hh,rr⟩
  ·cases hv
  ·have hgm:g1≠P.bm:=fun e=>by
    cases hv;have h2:=hg.block P.bm j.refs.lt hmv;rw [hmm,← e,hh] at h2;cases h2
   have hgj:g1≠B:=fun e=>by
    cases hv;rw [e,hbx1] at hh;cases hh
   exact ⟨hown.1,.inr ⟨g1,c1,cur,hv,hb1,((hb g1 hgm).trans (hoth g1 hgj)).trans hh,rr⟩⟩
 ·rcases List.mem_append.1 hx with hx | hx
  ·exact ln_keep (j.lns x hx) hline
  ·rw [List.mem_singleton.1 hx];exact ln_keep hl hline
 ·have:=j.data U ((hkeep.mono (clT_X j)).trans hU)
  exact ⟨this.ch,this.rt,this.pn,this.po,this.pr⟩
 ·have:=j.m0
  have:=hkeep.size
  omega
 ·exact j.ne
set_option maxHeartbeats 4000000 in
theorem take_any (h:Qcf W n0 m0 B P S) (hlen:S.es.length≤100000) (r:ByteArray) (en pe:Int) (a:Option Addr) (cap:Nat) (l:List Ln) (hl:Qfs W a l cap) (hll:l.length≤1000) :
  Calls prog 52 #[.pointer (some ⟨B,0,none⟩),.agg #[.string r,.int .i64 en,.int .i64 pe,.slice a l.length cap]] W fun e w'=>e=.returned (.tuple #[])∧∃ g cp a' cap',Hid (Qcf w' n0 m0 B { P with ea:=some ⟨g,0,none⟩,ec:=cp } (S.add ⟨r,en,pe,a',cap',l⟩)∧Qa9 (clT B P S.es.length) W w'∧((Value.slice P.ea S.es.length P.ec).ownBlock=some g∨W.heap.size≤g)):=by
 obtain ⟨w2,hw2⟩:∃ w2,W.alloc (.cells #[.string r,.int .i64 en,.int .i64 pe,.slice a l.length cap] 59)=w2:=⟨_,rfl⟩;have B2:Below W.heap.size W w2:=by rw [← hw2];exact (Below.refl _ W).alloc (Nat.le_refl _) _
 have x2:QcU w2 W.heap.size r en pe (.slice a l.length cap):=by rw [← hw2];exact QcU.new W r en pe (.slice a l.length cap)
 have hs2e:w2.heap.size=W.heap.size+1:=by rw [← hw2];simp
 have Hj:Hid (Qcf W n0 m0 B P S):=h;have Hl:Hid (Qfs W a l cap):=hl;have hn0:m0≤W.heap.size:=h.m0;have Hlt:Hid (∀ j,(Value.slice P.ea S.es.length P.ec).ownBlock=some j→j<W.heap.size):=h.row.lt;have HW2:Hid (W.alloc (.cells #[.string r,.int .i64 en,.int .i64 pe,.slice a l.length cap] 59)=w2):=hw2;clear h hl hw2;go_enter func52,ntmps52
 go_upto_region 1 with fail
 rw [HW2.out];clear HW2;refine Qab (by kernel_rfl) ?_
 have HDr:Hid (Below w2.heap.size w2 w2.drew):=⟨rfl,rfl,rfl,Nat.le_refl _,fun _ _=>rfl⟩
 generalize w2.drew=v2 at *
 have HAt:Hid (∀ u,Below w2.heap.size w2 u→Qcf u n0 m0 B P S∧QcU u W.heap.size r en pe (.slice a l.length cap)∧Qfs u a l cap):=fun u hu=>by
  have Bu:=B2.trans (hu.mono B2.size);exact ⟨Hj.out.below Bu,x2.below hu (by omega),Hl.out.below Bu⟩
 have HB2:Hid (Below W.heap.size W w2):=B2;have hs2:W.heap.size≤w2.heap.size:=by omega
 clear B2 x2 Hj Hl hs2e;refine wpAny_take (i:=0) (v:=.pointer (some ⟨B,0,none⟩)) rfl (by kernel_rfl) (by kernel_rfl) (by kernel_rfl) (fun _ _ _ h=>h) (Or.inl ⟨by rfl,fun w=>by go_simp⟩) ?_
 simp only [Act.put,zq0,zq1,zq2,zq3,zq4,zq5];refine wpAny_take (i:=1) (v:=.pointer (some ⟨B,0,none⟩)) rfl (by kernel_rfl) (by kernel_rfl) (by kernel_rfl) (fun _ _ _ h=>h) (Or.inl ⟨by rfl,fun w=>by go_simp⟩) ?_
 simp only [Act.put,zq0,zq1,zq2,zq3,zq4,zq5];refine wpAny_take (i:=2) (v:=.pointer (some ⟨B,0,none⟩)) rfl (by kernel_rfl) (by kernel_rfl) (by kernel_rfl) (fun _ _ _ h=>h) (Or.inl ⟨by rfl,fun w=>by go_simp⟩) ?_
 simp only [Act.put,zq0,zq1,zq2,zq3,zq4,zq5];refine wpAny_take (i:=3) (v:=.pointer (some ⟨B,8,none⟩)) rfl (by kernel_rfl) (by kernel_rfl) (by kernel_rfl) (fun _ _ _ h=>h) (Or.inl ⟨by rfl,fun w=>by go_simp⟩) ?_
 simp only [Act.put,zq0,zq1,zq2,zq3,zq4,zq5];refine QaD (g:=8) (T:=fun u=>Below w2.heap.size w2 u) _ _ _ _ ?_
 refine Qaz (i:=4) (v:=.slice P.ea S.es.length P.ec) rfl rfl (by kernel_rfl) (by decide) (by kernel_rfl) (by kernel_rfl) (by kernel_rfl) (by kernel_rfl) (fun _ _ _ h=>h) (Or.inl ⟨by rfl,fun w' hw'=>by have c0:=(HAt.out w' hw').1.cell 8;simp only [Qbq,List.getElem?_toArray,List.getElem?_cons_succ,List.getElem?_cons_zero] at c0;clear hw';go_simp⟩) HDr.out ?_
 simp only [Act.put,zq0,zq1,zq2,zq3,zq4,zq5];refine Qam [8,7,6] (i:=5) (v:=.agg #[.string r,.int .i64 en,.int .i64 pe,.slice a l.length cap]) rfl (by kernel_rfl) (by kernel_rfl) (by decide) (by kernel_rfl) (by kernel_rfl) (by kernel_rfl) (by kernel_rfl) (fun _ _ _ h=>h) (Or.inl ⟨by rfl,fun w' hw'=>by have c0:=(HAt.out w' hw').2.1.c0;have c1:=(HAt.out w' hw').2.1.c1;have c2:=(HAt.out w' hw').2.1.c2;have c3:=(HAt.out w' hw').2.1.c3;clear hw';go_simp⟩) HDr.out ?_
 simp only [Act.put,zq0,zq1,zq2,zq3,zq4,zq5];have HAp:Hid (Calls _ _ _ v2 _):=clApart_any r en pe a l cap v2 (HAt.out v2 HDr.out).2.2 hll;refine L_oneJ (i:=6) (by kernel_rfl) ?_
 refine wpOp_step rfl ?_;intro K hK;rw [if_pos (by rfl)]
 have hK':Shut (∀ a w,_→K a w):=hK;clear hK;go_wp2_with fail;refine HAp.out.mono ?_;rintro e v5 ⟨a5,k5,rfl,r5,b5⟩;have H5:Hid (Below w2.heap.size w2 v5):=HDr.out.trans (b5.mono HDr.out.size);have R5:Hid (Qag v5 w2.heap.size (.slice a5 l.length k5) l):=r5.mono HDr.out.size;refine hK'.out _ _ ⟨H5.out,?_⟩;clear hK' K b5 r5 HAp HDr
 try simp only [Act.put,zq0,zq1,zq2,zq3,zq4,zq5]
 refine L_oneJ (i:=7) (by kernel_rfl) ?_
 refine wpOp_step rfl ?_;intro K hK;rw [if_pos (by rfl)]
 have hK':Shut (∀ a w,_→K a w):=hK;clear hK;go_wp2_with fail;obtain ⟨v3,hv3⟩:∃ v3,v5.alloc (.cells #[.string r,.int .i64 en,.int .i64 pe,.slice a5 l.length k5] 59)=v3:=⟨_,rfl⟩;have hb23:Below v5.heap.size v5 v3:=by rw [← hv3];exact (Below.refl _ v5).alloc (Nat.le_refl _) _
 have H3:Hid (Below w2.heap.size w2 v3):=H5.out.trans (hb23.mono H5.out.size);have R3:Hid (Qag v3 w2.heap.size (.slice a5 l.length k5) l):=R5.out.below hb23;have hr3:v3.heap[v5.heap.size]? = some (.cells #[.string r,.int .i64 en,.int .i64 pe,.slice a5 l.length k5] 59 (0,0)):=by rw [← hv3];exact World.alloc_heap_new v5 _
 have j3:=(HAt.out v3 H3.out).1;have x3:=(HAt.out v3 H3.out).2.1;rw [hv3];refine hK'.out _ _ ⟨H3.out,?_⟩;clear hK' K hv3 hb23 HAt
 try simp only [Act.put,zq0,zq1,zq2,zq3,zq4,zq5]
 refine Qhw (by kernel_rfl) (by kernel_rfl) ?_
 obtain ⟨i0,hi,hz0,hz1,hz2⟩:=info_parts QeO;obtain ⟨g,cp,w8,h1,h2,h4,h5,h6⟩:=run_append_lies (P:=prog) v3 22 22 m0 59 i0 (.agg #[.string ByteArray.empty,.int .i64 0,.int .i64 0,.slice none 0 0]) 4 56 underlying22 hi hz0 hz1 hz2 rfl (by decide) (.slice P.ea S.es.length P.ec) S.es.length (Qby S.es) j3.row ⟨v5.heap.size,0,none⟩ 1 1 (Je.mk r en pe a5 k5 l).cells.toList rfl (World.news_of_block hr3) (je_one _) (by decide) (by unfold maxLen;omega) (by omega) (by have:=H3.out.size;omega) v3.heap.size rfl
 obtain ⟨w9,hw9⟩:∃ w9,w8.setCell ⟨B,8,none⟩ (.slice (some ⟨g,0,none⟩) (S.es.length+1) cp)=w9:=⟨_,rfl⟩;have hbv:some B≠(Value.slice P.ea S.es.length P.ec).ownBlock:=fun e=>by
  obtain ⟨cs,hh⟩:=j3.row.typ B e.symm;rw [j3.box] at hh;cases hh
 have hbx8:w8.heap[B]? = some (.cells (Qbq P S) 123 (0,0)):=(h4.block B j3.lt hbv).trans j3.box;have e8:w8.cell? ⟨B,8,none⟩=some (.slice P.ea S.es.length P.ec):=by simp [World.cell?,hbx8,Qbq]
 have f8:w8.frozen? ⟨B,8,none⟩=false:=by simp [World.frozen?,hbx8]
 obtain ⟨me,mc,hmm⟩:=j3.refs.isMap;have hbm:B≠P.bm:=fun e=>by rw [← e,j3.box] at hmm;cases hmm
 have hx9:QcU w9 W.heap.size r en pe (.slice a l.length cap):=by
  have hne1:W.heap.size≠B:=fun e=>by
   have hh:=x3;unfold QcU at hh;rw [e,j3.box] at hh;cases hh
  have hne2:some W.heap.size≠(Value.slice P.ea S.es.length P.ec).ownBlock:=fun e=>by
   have:=Hlt.out _ e.symm
   omega
  unfold QcU;rw [← hw9,Below.heap_setCell _ _ _ _ hne1,h4.block _ (Array.getElem?_eq_some_iff.1 x3).1 hne2];exact x3
 have hm9:RMap w9 P.bm (S.es.map (·.ref)):=by
  refine j3.refs.of ?_;rw [← hw9,Below.heap_setCell _ _ _ _ hbm.symm];refine h4.block _ j3.refs.lt (fun e=>?_)
  obtain ⟨cs,hh⟩:=j3.row.typ _ e.symm;rw [hmm] at hh;cases hh
 have hb9:w9.heap[B]? = some (.cells (Qbq { P with ea:=some ⟨g,0,none⟩,ec:=cp } (S.add ⟨r,en,pe,a5,k5,l⟩)) 123 (0,0)):=by
  rw [← hw9,setCell_eq_setRow w8 B 8 _ 123 (0,0) _ hbx8,setRow_heap w8 B _ _ 123 (0,0) hbx8,← cl_cells8]
 have hm9d:RMap w9.drew P.bm (S.es.map (·.ref)):=hm9;obtain ⟨w10,hrun,hm10,ho10,ht10,hu10,hz10,hb10⟩:=run_rput hm9d r;have hend:=take_end (V3:=w10) j3 (R3.out.mono (by omega)) h2 h4 hw9.symm hm10 ho10 ht10 hu10 hz10 hb10
 have HEnd:Hid (Qcf w10 n0 m0 B { P with ea:=some ⟨g,0,none⟩,ec:=cp } (S.add ⟨r,en,pe,a5,k5,l⟩)∧Qa9 (clT B P S.es.length) v3 w10):=hend
 have HBW:Hid (Below W.heap.size W v3):=HB2.out.trans (H3.out.mono hs2);have Hg:Hid ((Value.slice P.ea S.es.length P.ec).ownBlock=some g∨W.heap.size≤g):=by
  rcases h5 with h5 | h5
  ·exact .inl h5
  ·have:=HBW.out.size
   exact .inr (by omega)
 have dm:w9.drew.cell? ⟨B,9,none⟩=some (.map (some P.bm)):=by
  show w9.cell? ⟨B,9,none⟩=_;simp [World.cell?,hb9,Qbq]
 have dr:w9.drew.cell? ⟨W.heap.size,0,none⟩=some (.string r):=by
  show w9.cell? ⟨W.heap.size,0,none⟩=_;exact hx9.c0
 clear j3 x3 hbx8 h2 h4 h5 h6 hm9 hb9 hm9d hm10 ho10 ht10 hu10 hz10 hb10 hend H3 H5 R5 R3 hr3 hbv hbm hx9 HB2 Hlt hmm;refine wpOp_step rfl ?_;intro K hK;rw [if_pos (by rfl)]
 have hK':Shut (∀ a w,_→K a w):=hK;clear hK;refine Qdn (.tmp 8) (.tmp 11) 22 22 (by rfl) (.slice P.ea S.es.length P.ec) (.slice (some ⟨v5.heap.size,0,none⟩) 1 1) (by rfl) (by rfl) h1 ?_
 refine hK'.out _ _ ?_;clear hK' K;clear h1
 try simp only [Act.put,zq0,zq1,zq2,zq3,zq4,zq5]
 refine wpAny_take (i:=9) (v:=.pointer (some ⟨B,0,none⟩)) rfl (by kernel_rfl) (by kernel_rfl) (by kernel_rfl) (fun _ _ _ h=>h) (Or.inl ⟨by rfl,fun w=>by go_simp⟩) ?_
 simp only [Act.put,zq0,zq1,zq2,zq3,zq4,zq5];refine wpAny_take (i:=10) (v:=.pointer (some ⟨B,8,none⟩)) rfl (by kernel_rfl) (by kernel_rfl) (by kernel_rfl) (fun _ _ _ h=>h) (Or.inl ⟨by rfl,fun w=>by go_simp⟩) ?_
 simp only [Act.put,zq0,zq1,zq2,zq3,zq4,zq5];refine Qbr (i:=11) (by kernel_rfl) ?_
 refine wpOp_step rfl ?_;intro K hK;rw [if_pos (by rfl)]
 have hK':Shut (∀ a w,_→K a w):=hK;clear hK;go_wp2_with fail
 try rw [hw9]
 clear hw9 e8 f8;refine hK'.out _ _ ?_;clear hK' K;refine wpAny_done (by kernel_rfl) ?_ _
 go_upto_region 2 with fail
 refine Qab (by kernel_rfl) ?_
 generalize w9.drew=v9 at *
 refine wpAny_take (i:=0) (v:=.pointer (some ⟨B,0,none⟩)) rfl (by kernel_rfl) (by kernel_rfl) (by kernel_rfl) (fun _ _ _ h=>h) (Or.inl ⟨by rfl,fun w=>by go_simp⟩) ?_
 simp only [Act.put,zq0,zq1,zq2,zq3,zq4,zq5];refine wpAny_take (i:=1) (v:=.pointer (some ⟨B,0,none⟩)) rfl (by kernel_rfl) (by kernel_rfl) (by kernel_rfl) (fun _ _ _ h=>h) (Or.inl ⟨by rfl,fun w=>by go_simp⟩) ?_
 simp only [Act.put,zq0,zq1,zq2,zq3,zq4,zq5];refine wpAny_take (i:=2) (v:=.pointer (some ⟨B,9,none⟩)) rfl (by kernel_rfl) (by kernel_rfl) (by kernel_rfl) (fun _ _ _ h=>h) (Or.inl ⟨by rfl,fun w=>by go_simp⟩) ?_
 simp only [Act.put,zq0,zq1,zq2,zq3,zq4,zq5];refine wpAny_take (i:=4) (v:=.pointer (some ⟨W.heap.size,0,none⟩)) rfl (by kernel_rfl) (by kernel_rfl) (by kernel_rfl) (fun _ _ _ h=>h) (Or.inl ⟨by rfl,fun w=>by go_simp⟩) ?_
 simp only [Act.put,zq0,zq1,zq2,zq3,zq4,zq5];refine QaD (g:=7) (T:=fun u=>u=v9) _ _ _ _ ?_
 refine Qaz (i:=3) (v:=.map (some P.bm)) rfl rfl (by kernel_rfl) (by decide) (by kernel_rfl) (by kernel_rfl) (by kernel_rfl) (by kernel_rfl) (fun _ _ _ h=>h) (Or.inl ⟨by rfl,fun w' hw'=>by rw [hw'];clear hw';go_simp⟩) rfl ?_
 simp only [Act.put,zq0,zq1,zq2,zq3,zq4,zq5];refine Qaz (i:=5) (v:=.string r) rfl rfl (by kernel_rfl) (by decide) (by kernel_rfl) (by kernel_rfl) (by kernel_rfl) (by kernel_rfl) (fun _ _ _ h=>h) (Or.inl ⟨by rfl,fun w' hw'=>by rw [hw'];clear hw';go_simp⟩) rfl ?_
 simp only [Act.put,zq0,zq1,zq2,zq3,zq4,zq5];refine Qaz (i:=6) (v:=.agg #[]) rfl rfl (by kernel_rfl) (by decide) (by kernel_rfl) (by kernel_rfl) (by kernel_rfl) (by kernel_rfl) (fun _ _ _ h=>h) (Or.inl ⟨by rfl,fun w' hw'=>by clear hw';go_simp⟩) rfl ?_
 simp only [Act.put,zq0,zq1,zq2,zq3,zq4,zq5];refine Qhw (by kernel_rfl) (by kernel_rfl) ?_
 refine wpOp_step rfl ?_;intro K hK;rw [if_pos (by rfl)]
 have hK':Shut (∀ a w,_→K a w):=hK;clear hK;refine wp_sput_run 117 (.tmp 18) (.tmp 20) (.tmp 21) (by rfl) (.map (some P.bm)) (.string r) (.agg #[]) (by rfl) (by rfl) (by rfl) hrun ?_
 refine hK'.out _ _ ?_;clear hK' K;clear hrun dm dr;refine wpAny_done (by kernel_rfl) ?_ _
 go_wp2;go_end0
 exact ⟨rfl,g,cp,a5,k5,HEnd.out.1,(Qa9.of_below HBW.out).trans HEnd.out.2,Hg.out⟩
end
end
section
open Go.RowKit Go.Lib Go.Proofs.Tryz
theorem ldP_str:prog.cellsOf 9=1:=by kernel_rfl
theorem ldP_int:prog.cellsOf 3=1:=by kernel_rfl
structure PkOk (k:Pk):Prop where
 ent:-9223372036854775808≤k.1∧k.1≤9223372036854775807
 acc:k.2.1.size≤maxLen
 cur:k.2.2.size≤maxLen
structure BlOk (x:Bl):Prop where
 key:PkOk x.key
 amt:-9223372036854775808≤x.amt∧x.amt≤9223372036854775807
end
section
open Go.RowKit Go.Lib Go.Proofs.Tryz
theorem QiK:laidOutB prog=true:=by kernel_rfl
theorem pl_row:(174:TypeId)<prog.types.size:=of_decide_eq_true (by kernel_rfl)
theorem pl_wide:(match prog.underlying 174 with | some (.array _ _) | some (.struct _)=>true | _=>false)=true:=by kernel_rfl
theorem pl_law:WideMaps.KeyLaw prog 174:=deep_law_laid QiK (m:=3) (by omega) pl_row (by kernel_rfl) pl_wide
theorem pl_type:prog.keyType 174=true:=by kernel_rfl
theorem pl_cells:prog.cellsOf 174=3:=by kernel_rfl
theorem pl_types:prog.types.size=349:=by kernel_rfl
def plV (k:Pk):Value:=.agg #[.int .i64 k.1,.string k.2.1,.string k.2.2]
theorem keyOf_pl {k:Pk} (h:PkOk k):∃ kl,keyOf prog 174 (plV k)=some kl:=by
 obtain ⟨f,t,p⟩:=k;have hp:(Lit.int .i64 f).wf=true:=WalkArith.wf_i64 h.ent;have k1:∀ d (s:ByteArray),s.size≤maxLen→prog.keyLits (d+1) 9 [.string s]=some [.string s.data.toList]:=fun d s hs=>by
  simp [Program.keyLits,underlying9,hs]
 have k2:∀ d,prog.keyLits (d+1) 3 [.int .i64 f]=some [.int .i64 f]:=fun d=>by
  simp [Program.keyLits,underlying3,hp]
 have k3:∀ d,prog.keyLits (d+1+1) 174 [.int .i64 f,.string t,.string p]=some [.int .i64 f,.string t.data.toList,.string p.data.toList]:=fun d=>by
  unfold Program.keyLits;simp [underlying174,pl_cells,ldP_str,ldP_int,k1 d t h.acc,k1 d p h.cur,k2 d]
 have k4:prog.types.size+1=prog.types.size - 1+1+1:=by rw [pl_types]
 unfold keyOf;rw [underlying174];simp only [pl_type,Value.formed,underlying174,plV,pl_cells,Value.cells];rw [k4,k3];exact ⟨_,rfl⟩
theorem plV_inj {k q:Pk} (h:plV k=plV q):k=q:=by
 obtain ⟨a,b,c⟩:=k;obtain ⟨d,e,f⟩:=q;simpa [plV] using h
def ents (ps:List Pt) (vs:Nat→Value):List MapEntry:=(List.range ps.length).map fun i=>⟨plV ((ps.map Pt.key).getD i (0,ByteArray.empty,ByteArray.empty)),vs i,i⟩
theorem QaM (ps:List Pt) (vs:Nat→Value):(ents ps vs).length=ps.length:=by simp [ents]
theorem Qb4 (ps:List Pt) (vs:Nat→Value) (i:Nat) (h:i<ps.length):(ents ps vs)[i]? = some ⟨plV (ps[i]).key,vs i,i⟩:=by
 simp only [ents,List.getElem?_map,List.getElem?_range h,Option.map_some];rw [List.getD_eq_getElem?_getD,List.getElem?_map,List.getElem?_eq_getElem h];rfl
theorem ents_mem {ps:List Pt} {vs:Nat→Value} {e:MapEntry} (h:e∈ents ps vs):∃ i,∃ hi:i<ps.length,e=⟨plV (ps[i]).key,vs i,i⟩:=by
 obtain ⟨i,hi,e1⟩:=List.getElem_of_mem h;rw [QaM] at hi
 have:=Qb4 ps vs i hi
 rw [List.getElem?_eq_getElem (by rw [QaM];exact hi)] at this
 exact ⟨i,hi,by rw [← e1];exact Option.some.inj this⟩
theorem ents_born (ps:List Pt) (vs:Nat→Value):(ents ps vs).map (·.born)=List.range ps.length:=by
 simp [ents,Function.comp_def]
theorem ents_set (ps:List Pt) (vs:Nat→Value) (j:Nat) (hj:j<ps.length) (zs:List Int) (v:Value):(ents ps vs).modify j (fun e=>{ e with val:=v })=ents (ps.set j ⟨(ps[j]).key,zs⟩) (fun i=>if i=j then v else vs i):=by
 apply List.ext_getElem?;intro i;rw [List.getElem?_modify];by_cases hi:i<ps.length
 ·rw [Qb4 ps vs i hi,Qb4 _ _ i (by simpa using hi),List.getElem_set]
  by_cases e:j=i
  ·subst e;simp
  ·have e2:¬ i=j:=fun h=>e h.symm
   simp [e,e2]
 ·rw [List.getElem?_eq_none (by rw [QaM];omega),List.getElem?_eq_none (by rw [QaM];simp;omega)]
  rfl
theorem ents_push (ps:List Pt) (vs:Nat→Value) (p:Pt):ents ps vs++[⟨plV p.key,vs ps.length,ps.length⟩]=ents (ps++[p]) vs:=by
 apply List.ext_getElem?;intro i;by_cases hi:i<ps.length
 ·rw [List.getElem?_append_left (by rw [QaM];exact hi),Qb4 ps vs i hi,Qb4 _ _ i (by simp;omega),List.getElem_append_left hi]
 ·by_cases e:i=ps.length
  ·subst e;rw [List.getElem?_append_right (by rw [QaM];exact Nat.le_refl _),QaM,Qb4 _ _ _ (by simp),List.getElem_append_right (Nat.le_refl _)]
   simp
  ·rw [List.getElem?_eq_none (by simp [QaM];omega),List.getElem?_eq_none (by rw [QaM];simp;omega)]
structure PMp (W:World) (n mb:Nat) (ps:List Pt) (vs:Nat→Value):Prop where
 map:W.heap[mb]? = some (.map (ents ps vs).toArray ps.length)
 mbn:n≤mb
 keys:∀ p∈ps,PkOk p.key
 nodup:(ps.map Pt.key).Nodup
 rows:∀ i (hi:i<ps.length),W.ownsRow n 3 1 (vs i) (ps[i]).zs.length ((ps[i]).zs.map (Value.int .i64))
 apart:∀ i j,i<ps.length→j<ps.length→i≠j→∀ g,(vs i).ownBlock=some g→(vs j).ownBlock≠some g
 i64:∀ p∈ps,∀ z∈p.zs,-9223372036854775808≤z∧z≤9223372036854775807
theorem PMp.below {W U:World} {n mb:Nat} {ps:List Pt} {vs:Nat→Value} (h:PMp W n mb ps vs) (hb:Below W.heap.size W U):PMp U n mb ps vs:=
 ⟨(hb.block mb (Array.getElem?_eq_some_iff.1 h.map).1).trans h.map,h.mbn,h.keys,h.nodup,fun i hi=>by
  rcases (h.rows i hi).2 with ⟨hv,hn⟩ | ⟨g1,c1,cur,hv,hb1,hh,r⟩
  ·exact ⟨(h.rows i hi).1,.inl ⟨hv,hn⟩⟩
  ·exact ⟨(h.rows i hi).1,.inr ⟨g1,c1,cur,hv,hb1,(hb.block g1 (Array.getElem?_eq_some_iff.1 hh).1).trans hh,r⟩⟩,h.apart,h.i64⟩
theorem addP_none (x:Bl):∀ ps:List Pt,x.key ∉ ps.map Pt.key→Qeo ps x=ps++[⟨x.key,[x.amt]⟩]
 | [],_=>rfl
 | p :: ps,h=>by
  simp only [List.map_cons,List.mem_cons,not_or] at h;rw [Qeo,if_neg (fun e=>h.1 e.symm),addP_none x ps h.2]
  rfl
theorem addP_some (x:Bl):∀ (ps:List Pt) (j:Nat) (hj:j<ps.length),(ps.map Pt.key).Nodup→(ps[j]).key=x.key→Qeo ps x=ps.set j ⟨(ps[j]).key,(ps[j]).zs++[x.amt]⟩
 | p :: ps,0,_,_,e=>by
  rw [Qeo,if_pos (by simpa using e)]
  rfl
 | p :: ps,j+1,hj,hn,e=>by
  simp only [List.map_cons,List.nodup_cons] at hn;have hj':j<ps.length:=by simpa using hj
  have e':(ps[j]).key=x.key:=by simpa using e
  rw [Qeo,if_neg (fun h=>hn.1 (by rw [h,← e'];exact List.mem_map.2 ⟨_,List.getElem_mem hj',rfl⟩)),addP_some x ps j hj' hn.2 e']
  rfl
theorem Qgw:prog.underlying 133=some (.map 174 90):=underlying133
theorem pt_zero (w:World):(zeroValue 90).run prog w=.ok (.slice none 0 0) w:=by kernel_rfl
theorem Qfq {W:World} {b:Nat} {o:Obj} (h:W.heap[b]? = some o):ChangeMaps.setBlock W b o=W:=by
 unfold ChangeMaps.setBlock
 have:W.heap.setIfInBounds b o=W.heap:=by
  apply Array.ext_getElem?;intro i;rw [Array.getElem?_setIfInBounds];by_cases e:b=i
  ·subst e;rw [if_pos rfl,if_pos (Array.getElem?_eq_some_iff.1 h).1,h]
  ·rw [if_neg e]
 rw [this]
theorem QbH {W:World} {b:Nat} (h:b<W.heap.size) (o:Obj):(ChangeMaps.setBlock W b o).heap[b]? = some o:=by
 simp [ChangeMaps.setBlock,h]
theorem Qar {W:World} {b i:Nat} (h:b≠i) (o:Obj):(ChangeMaps.setBlock W b o).heap[i]? = W.heap[i]?:=by
 simp [ChangeMaps.setBlock,Array.getElem?_setIfInBounds_ne h]
theorem Qek {W:World} {b n:Nat} (hn:n≤b) (o:Obj):Below n W (ChangeMaps.setBlock W b o):=
 ⟨rfl,rfl,rfl,by simp [ChangeMaps.setBlock],fun i hi=>Qar (by omega) o⟩
theorem run_entry {W:World} {n mb:Nat} {ps:List Pt} {vs:Nat→Value} (h:PMp W n mb ps vs) {k:Pk} (hk:PkOk k) :
  ∃ (ps1:List Pt) (vs1:Nat→Value) (j:Nat) (hj:j<ps1.length) (W1:World),(Instr.mapEntry 133 (.map (some mb)) (plV k)).run prog W=.ok (.tuple #[vs1 j,goInt j]) W1 ∧
   PMp W1 n mb ps1 vs1∧(ps1[j]).key=k∧Below n W W1∧W1.heap.size=W.heap.size∧(∀ i,i≠mb→W1.heap[i]? = W.heap[i]?)∧ps1.length≤ps.length+1∧(∀ p∈ps1,p∈ps∨p.zs=[]) ∧
   ∀ x:Bl,x.key=k→Qeo ps x=ps1.set j ⟨(ps1[j]).key,(ps1[j]).zs++[x.amt]⟩:=by
 obtain ⟨kl,hkl⟩:=keyOf_pl hk;have hlt:mb<W.heap.size:=(Array.getElem?_eq_some_iff.1 h.map).1;have hke:∀ e∈(ents ps vs),∃ l,keyOf prog 174 e.key=some l:=fun e he=>by
  obtain ⟨i,hi,rfl⟩:=ents_mem he;exact keyOf_pl (h.keys _ (List.getElem_mem hi))
 rcases pl_law.find W hkl (ents ps vs) hke with ⟨h1,h2⟩ | ⟨j,e0,h1,h2,h3⟩
 ·have hno:k ∉ ps.map Pt.key:=fun hm=>by
   obtain ⟨p,hp,e⟩:=List.mem_map.1 hm;obtain ⟨i,hi,e2⟩:=List.getElem_of_mem hp
   have:=Qb4 ps vs i hi
   refine h2 _ (List.mem_of_getElem? this) ?_;show plV (ps[i]).key=plV k;rw [e2,e]
  have hrun:(Instr.mapEntry 133 (.map (some mb)) (plV k)).run prog W=.ok (.tuple #[.slice none 0 0,goInt ps.length]) (ChangeMaps.setBlock W mb (.map ((ents ps vs).toArray.push ⟨plV k,.slice none 0 0,ps.length⟩) (ps.length+1))):=by
   simp [Instr.mapEntry,run_underlying Qgw,MapKept.run_getObj_map h.map,pl_law.check W false hkl,h1,pt_zero,MapKept.run_setObj_map _ h.map,Result.andThen,ChangeMaps.setBlock]
  refine ⟨ps++[⟨k,[]⟩],fun i=>if i=ps.length then .slice none 0 0 else vs i,ps.length,by simp,_,by simpa using hrun,⟨?_,h.mbn,?_,?_,?_,?_,?_⟩,by simp,Qek h.mbn _,by simp [ChangeMaps.setBlock],fun i hi=>Qar (fun e=>hi e.symm) _,by simp,?_,?_⟩
  ·rw [QbH hlt];congr 2
   ·rw [← ents_push];simp only [if_true];have e:ents ps (fun i=>if i=ps.length then Value.slice none 0 0 else vs i)=ents ps vs:=by
     unfold ents;refine List.map_congr_left (fun i hi=>?_)
     have:i≠ps.length:=by have:=List.mem_range.1 hi;omega
     simp only [if_neg this]
    rw [e]
    try simp
   ·simp
  ·intro p hp;rcases List.mem_append.1 hp with hp | hp
   ·exact h.keys p hp
   ·rw [List.mem_singleton.1 hp];exact hk
  ·rw [List.map_append,List.nodup_append];refine ⟨h.nodup,by simp,fun a ha b hb e=>?_⟩
   simp only [List.map_cons,List.map_nil,List.mem_singleton] at hb;exact hno (by rw [← hb,← e];exact ha)
  ·intro i hi;by_cases e:i=ps.length
   ·subst e;simp only [if_true,List.getElem_append_right (Nat.le_refl _),Nat.sub_self,List.getElem_cons_zero,List.length_nil,List.map_nil];exact World.ownsRow_nil _ _ _ _
   ·have hi':i<ps.length:=by simp at hi;omega
    rw [if_neg e];simp only [List.getElem_append_left hi'];have hr:=h.rows i hi';rcases hr.2 with ⟨hv,hn⟩ | ⟨g1,c1,cur,hv,hb1,hh,r⟩
    ·exact ⟨hr.1,.inl ⟨hv,hn⟩⟩
    ·exact ⟨hr.1,.inr ⟨g1,c1,cur,hv,hb1,(Qar (fun e=>by rw [← e,h.map] at hh;cases hh) _).trans hh,r⟩⟩
  ·intro i j hi hj hij g hg;by_cases e:i=ps.length
   ·rw [if_pos e] at hg;cases hg
   ·rw [if_neg e] at hg;by_cases e2:j=ps.length
    ·rw [if_pos e2];exact fun h=>by cases h
    ·rw [if_neg e2];exact h.apart i j (by simp at hi;omega) (by simp at hj;omega) hij g hg
  ·intro p hp;rcases List.mem_append.1 hp with hp | hp
   ·exact h.i64 p hp
   ·rw [List.mem_singleton.1 hp];intro z hz;simp at hz
  ·intro p hp;rcases List.mem_append.1 hp with hp | hp
   ·exact .inl hp
   ·exact .inr (by rw [List.mem_singleton.1 hp])
  ·intro x hx;rw [addP_none x ps (by rw [hx];exact hno)]
   simp [hx]
 ·have hj:j<ps.length:=by have:=(List.getElem?_eq_some_iff.1 h2).1;rw [QaM] at this;exact this
  have he0:e0=⟨plV (ps[j]).key,vs j,j⟩:=by rw [Qb4 ps vs j hj] at h2;exact (Option.some.inj h2).symm
  have hkj:(ps[j]).key=k:=plV_inj (by rw [he0] at h3;exact h3)
  have hj':(ents ps vs).toArray[j]? = some e0:=by simpa using h2
  have hsame:(ents ps vs).toArray.modify j (fun e=>{ e with key:=plV k })=(ents ps vs).toArray:=by
   apply Array.ext';rw [Array.toList_modify];apply List.ext_getElem?;intro i;rw [List.getElem?_modify];by_cases e:j=i
   ·subst e;rw [h2];simp only [if_true,he0];rw [hkj];rfl
   ·simp [e]
  have hrun:(Instr.mapEntry 133 (.map (some mb)) (plV k)).run prog W=.ok (.tuple #[vs j,goInt j]) W:=by
   have h0:(Instr.mapEntry 133 (.map (some mb)) (plV k)).run prog W=.ok (.tuple #[vs j,goInt j]) (ChangeMaps.setBlock W mb (.map (ents ps vs).toArray ps.length)):=by
    have hst:=pl_law.stays W hkl;have hjl:(ents ps vs)[j]? = some e0:=h2;have hso:=MapKept.run_setObj_map (P:=prog) (.map (ents ps vs).toArray ps.length) h.map;have hsl:(ents ps vs).modify j (fun e=>{ e with key:=plV k })=ents ps vs:=by
     have:=congrArg Array.toList hsame
     rw [Array.toList_modify] at this;simpa using this
    simp [Instr.mapEntry,run_underlying Qgw,MapKept.run_getObj_map h.map,pl_law.check W false hkl,h1,hjl,h3,hst,hsl,hso,Result.andThen,ChangeMaps.setBlock];rw [he0];simp
   rw [Qfq h.map] at h0;exact h0
  exact ⟨ps,vs,j,hj,W,hrun,h,hkj,Below.refl _ _,rfl,fun _ _=>rfl,Nat.le_succ _,fun p hp=>.inl hp,fun x hx=>addP_some x ps j hj h.nodup (by rw [hkj,hx])⟩
end
section
open Go.RowKit Go.Lib Go.Proofs.Tryz
theorem pt_info:(prog.info? 3).map (fun i=>(i.zero,i.size,i.bytes))=some (some (.int .i64 0),1,8):=by kernel_rfl
theorem Qbg (W:World) (o:Obj):(W.alloc o).heap[W.heap.size]? = some o:=by unfold World.alloc;simp only [Array.getElem?_push_size]
theorem Qay {W:World} {n:Nat} {t:TypeId} {s:Nat} {v:Value} {m:Nat} {xs:List Value} (h:W.ownsRow n t s v m xs) {g:Nat} (e:v.ownBlock=some g):n≤g∧g<W.heap.size∧∃ cs,W.heap[g]? = some (.cells cs t (0,0)):=by
 rcases h.2 with ⟨rfl,_⟩ | ⟨g1,c1,cur,rfl,hb1,hh,_⟩
 ·cases e
 ·cases e;exact ⟨hb1,(Array.getElem?_eq_some_iff.1 hh).1,_,hh⟩
theorem Qd0 {W U:World} {n:Nat} {t:TypeId} {s:Nat} {v:Value} {m:Nat} {xs:List Value} (h:W.ownsRow n t s v m xs) (hk:∀ g,v.ownBlock=some g→U.heap[g]? = W.heap[g]?):U.ownsRow n t s v m xs:=by
 rcases h.2 with ⟨hv,hn⟩ | ⟨g1,c1,cur,hv,hb1,hh,r⟩
 ·exact ⟨h.1,.inl ⟨hv,hn⟩⟩
 ·exact ⟨h.1,.inr ⟨g1,c1,cur,hv,hb1,(hk g1 (by rw [hv];rfl)).trans hh,r⟩⟩
structure QbB (n mb:Nat) (V W:World):Prop where
 os:W.os=V.os
 tape:W.tape=V.tape
 output:W.output=V.output
 size:V.heap.size≤W.heap.size
 block:∀ b,b<V.heap.size→b≠mb→(b<n∨∀ cs:Array Value,V.heap[b]?≠some (Obj.cells cs 3 (0,0)))→W.heap[b]? = V.heap[b]?
theorem QbB.refl (n mb:Nat) (V:World):QbB n mb V V:=⟨rfl,rfl,rfl,Nat.le_refl _,fun _ _ _ _=>rfl⟩
theorem QbB.trans {n mb:Nat} {U V W:World} (h:QbB n mb U V) (k:QbB n mb V W):QbB n mb U W:=
 ⟨k.os.trans h.os,k.tape.trans h.tape,k.output.trans h.output,Nat.le_trans h.size k.size,fun b hb hne hc=>by
  have e:=h.block b hb hne hc;exact (k.block b (Nat.lt_of_lt_of_le hb h.size) hne (hc.imp id (fun h2 cs=>by rw [e];exact h2 cs))).trans e⟩
theorem QbB.of_below {n mb:Nat} {V W:World} (h:Below V.heap.size V W):QbB n mb V W:=⟨h.os,h.tape,h.output,h.size,fun b hb _ _=>h.block b hb⟩
theorem QbB.below {n mb:Nat} {V W:World} (h:QbB n mb V W) (hm:n≤mb) (hn:n≤V.heap.size):Below n V W:=⟨h.os,h.tape,h.output,h.size,fun b hb=>h.block b (by omega) (by omega) (.inl hb)⟩
theorem run_estore {W U:World} {n mb:Nat} {ps:List Pt} {vs:Nat→Value} (h:PMp W n mb ps vs) {j:Nat} (hj:j<ps.length) {v':Value} {z:Int} (hz:-9223372036854775808≤z∧z≤9223372036854775807)
  (ho:U.ownsRow n 3 1 v' ((ps[j]).zs.length+1) ((ps[j]).zs.map (Value.int .i64)++[.int .i64 z])) (hg:W.grownBy U (vs j).ownBlock) (hl:v'.ownBlock=(vs j).ownBlock∨v'.ownBlock=some W.heap.size) (hn:n≤W.heap.size) :
  ∃ U',(Instr.entryStore 133 (.map (some mb)) (.int .i64 (j:Int)) v').run prog U=.ok () U'∧PMp U' n mb (ps.set j ⟨(ps[j]).key,(ps[j]).zs++[z]⟩) (fun i=>if i=j then v' else vs i)∧QbB n mb W U':=by
 have hnb:(vs j).ownBlock≠some mb:=fun e=>by
  obtain ⟨_,_,cs,e2⟩:=Qay (h.rows j hj) e;rw [h.map] at e2;cases e2
 have hlt:mb<W.heap.size:=(Array.getElem?_eq_some_iff.1 h.map).1;have hm:U.heap[mb]? = some (.map (ents ps vs).toArray ps.length):=(hg.block mb hlt (fun e=>hnb e.symm)).trans h.map
 have hltU:mb<U.heap.size:=(Array.getElem?_eq_some_iff.1 hm).1;have hidx:(ents ps vs).findIdx? (fun e=>((e.born:Nat):Int) == (j:Int))=some j:=
  WideElems.findIdx_born (e0:=⟨plV (ps[j]).key,vs j,j⟩) (by rw [ents_born];exact List.nodup_range) (Qb4 ps vs j hj)
 have hset:=ents_set ps vs j hj ((ps[j]).zs++[z]) v';refine ⟨ChangeMaps.setBlock U mb (.map (ents (ps.set j ⟨(ps[j]).key,(ps[j]).zs++[z]⟩) (fun i=>if i=j then v' else vs i)).toArray ps.length),?_,⟨?_,h.mbn,?_,?_,?_,?_,?_⟩,?_⟩
 ·simp [Instr.entryStore,MapKept.run_getObj_map hm,asInt,asIntOf,hidx,MapKept.run_setObj_map _ hm,Result.andThen,ChangeMaps.setBlock,hset]
 ·rw [QbH hltU];simp
 ·intro p hp;rcases List.mem_or_eq_of_mem_set hp with hp | rfl
  ·exact h.keys p hp
  ·have:=h.keys _ (List.getElem_mem hj)
   exact this
 ·rw [List.map_set]
  have:(ps.map Pt.key).set j (ps[j]).key=ps.map Pt.key:=by
   have e:(ps[j]).key=(ps.map Pt.key)[j]'(by simpa using hj):=by simp
   rw [e,List.set_getElem_self]
  rw [this];exact h.nodup
 ·intro i hi;have hi':i<ps.length:=by simpa using hi
  by_cases e:i=j
  ·subst e;simp only [if_true,List.getElem_set_self,List.length_append,List.map_append,List.length_cons,List.length_nil,List.map_cons,List.map_nil];refine Qd0 ho (fun g eg=>Qar (fun e2=>?_) _)
   obtain ⟨_,_,cs,e3⟩:=Qay ho eg;rw [← e2,hm] at e3;cases e3
  ·have e':¬ j=i:=fun h=>e h.symm
   simp only [if_neg e,List.getElem_set_ne e'];refine Qd0 (h.rows i hi') (fun g eg=>?_)
   obtain ⟨_,g2,cs,e3⟩:=Qay (h.rows i hi') eg;rw [Qar (fun e2=>by rw [← e2,h.map] at e3;cases e3) _]
   exact hg.block g g2 (fun e4=>h.apart i j hi' hj e g eg e4.symm)
 ·intro a b ha hb hab g eg;have ha':a<ps.length:=by simpa using ha
  have hb':b<ps.length:=by simpa using hb
  by_cases e:a=j
  ·subst e;have e2:¬ b=a:=fun h=>hab h.symm
   simp only [if_true,if_neg e2] at eg ⊢;rcases hl with hl | hl
   ·rw [hl] at eg;exact h.apart a b ha' hb' hab g eg
   ·rw [hl] at eg;cases eg;intro e3
    have:=(Qay (h.rows b hb') e3).2.1
    omega
  ·simp only [if_neg e] at eg;by_cases e2:b=j
   ·subst e2;simp only [if_true];rcases hl with hl | hl
    ·rw [hl];exact h.apart a b ha' hb' hab g eg
    ·rw [hl];intro e3;cases e3
     have:=(Qay (h.rows a ha') eg).2.1
     omega
   ·simp only [if_neg e2];exact h.apart a b ha' hb' hab g eg
 ·intro p hp;rcases List.mem_or_eq_of_mem_set hp with hp | rfl
  ·exact h.i64 p hp
  ·intro y hy;rcases List.mem_append.1 hy with hy | hy
   ·exact h.i64 _ (List.getElem_mem hj) y hy
   ·rw [List.mem_singleton.1 hy];exact hz
 ·refine ⟨hg.os,hg.tape,hg.output,by simpa [ChangeMaps.setBlock] using hg.size,fun b hb hne hc=>?_⟩
  rw [Qar (fun e=>hne e.symm)]
  refine hg.block b hb (fun e=>?_)
  obtain ⟨g1,_,cs,e2⟩:=Qay (h.rows j hj) e.symm;rcases hc with hc | hc
  ·omega
  ·exact hc cs e2
set_option maxHeartbeats 4000000 in
theorem ldAdd_any (x:Bl) (W:World) (n mb:Nat) (ps:List Pt) (vs:Nat→Value) (h:PMp W n mb ps vs) (hk:PkOk x.key) (hz:-9223372036854775808≤x.amt∧x.amt≤9223372036854775807) (hl:∀ p∈ps,p.zs.length<17592186044416) :
  Calls prog 58 #[.map (some mb),.agg x.cells] W fun e w'=>e=.returned (.tuple #[])∧∃ vs',Hid (PMp w' n mb (Qeo ps x) vs'∧QbB n mb W w'):=by
 obtain ⟨x0,x1,x2,x3⟩:=x;have hn:n≤W.heap.size:=Nat.le_of_lt (Nat.lt_of_le_of_lt h.mbn (Array.getElem?_eq_some_iff.1 h.map).1);obtain ⟨V,hV⟩:∃ V,(((W.alloc (.cells #[.int .i64 x0,.string x1,.string x2,.int .i64 x3] 63)).alloc (.cells #[.int .i64 x0,.string x1,.string x2] 174)).alloc (.cells #[.int .i64 x3] 3))=V:=⟨_,rfl⟩;have hbV:Below W.heap.size W V:=by
  rw [← hV];exact (((Below.refl _ W).alloc (Nat.le_refl _) _).alloc (by simp) _).alloc (by simp;omega) _
 have hsV:V.heap.size=W.heap.size+3:=by rw [← hV];simp
 obtain ⟨ps1,vs1,j,hj,V1,hrun,hP1,hkey,hB1,hsz,hoth,-,hmem,hadd⟩:=run_entry (h.below hbV) hk;have e1:V.heap[W.heap.size+2]? = some (.cells #[.int .i64 x3] 3 (0,0)):=by
  rw [← hV]
  have:=Qbg ((W.alloc (.cells #[.int .i64 x0,.string x1,.string x2,.int .i64 x3] 63)).alloc (.cells #[.int .i64 x0,.string x1,.string x2] 174)) (.cells #[.int .i64 x3] 3)
  simpa using this
 have e2:V1.heap[W.heap.size+2]? = some (.cells #[.int .i64 x3] 3 (0,0)):=(hoth _ (fun e=>by
  have:=(Array.getElem?_eq_some_iff.1 h.map).1
  omega)).trans e1
 have hnews:∀ i u,[Value.int .i64 x3][i]? = some u→V1.cell? ((⟨W.heap.size+2,0,none⟩:Addr).add i)=some u:=by
  intro i u hi;rcases i with _ | i
  ·simp at hi;subst hi;simp [Addr.add,World.cell?,e2]
  ·simp at hi
 clear e1 e2;have hzl:(ps1[j]).zs.length<17592186044416:=by
  rcases hmem _ (List.getElem_mem hj) with hp | hp
  ·exact hl _ hp
  ·rw [hp];simp
 have hown:=hP1.rows j hj;have HE:Hid (∀ v' U,U.ownsRow n 3 1 v' ((ps1[j]).zs.length+1) ((ps1[j]).zs.map (Value.int .i64)++[.int .i64 x3])→V1.grownBy U (vs1 j).ownBlock→(v'.ownBlock=(vs1 j).ownBlock∨v'.ownBlock=some V1.heap.size) →
   ∃ U',(Instr.entryStore 133 (.map (some mb)) (.int .i64 (j:Int)) v').run prog U=.ok () U'∧∃ vs',Hid (PMp U' n mb (Qeo ps ⟨x0,x1,x2,x3⟩) vs'∧QbB n mb W U')):=fun v' U h1 h2 h3=>by
  obtain ⟨U',g1,g2,g3⟩:=run_estore hP1 hj (z:=x3) hz h1 h2 h3 (by omega)
  rw [← hadd ⟨x0,x1,x2,x3⟩ rfl] at g2;exact ⟨U',g1,_,g2,((QbB.of_below hbV).trans ⟨hB1.os,hB1.tape,hB1.output,by omega,fun b _ hne _=>hoth b hne⟩).trans g3⟩
 obtain ⟨v,hv⟩:∃ v,vs1 j=v:=⟨_,rfl⟩;obtain ⟨zs,hzs⟩:∃ zs,(ps1[j]).zs=zs:=⟨_,rfl⟩;rw [hv,hzs] at HE hown;rw [hv] at hrun;rw [hzs] at hzl;simp only [plV,Bl.key,goInt] at hrun;obtain ⟨js,hjs⟩:∃ js:Int,(j:Int)=js:=⟨_,rfl⟩;rw [hjs] at hrun HE;obtain ⟨i0,hi0,hz0,hz1,hz2⟩:=info_parts pt_info;have HO:Hid (V1.ownsRow n 3 1 v zs.length (zs.map (Value.int .i64))):=hown;have HNw:Hid (∀ i u,[Value.int .i64 x3][i]? = some u→V1.cell? ((⟨W.heap.size+2,0,none⟩:Addr).add i)=some u):=hnews
 have HS:Hid (n≤V1.heap.size):=by unfold Hid;omega
 have Hm1:Hid (zs.length+1≤maxLen):=by unfold Hid maxLen;omega
 have Hm2:Hid ((zs.length+1)*8≤140737488355328):=by unfold Hid;omega
 have Hs1:Hid (∀ u∈[Value.int .i64 x3],u.oneCell'=true):=by intro u hu;simp at hu;subst hu;rfl
 have HV:Hid (_=V):=hV;simp only [Bl.cells];clear hP1 hkey hB1 hsz hoth hmem hadd hown hnews h hl hk hz hn hbV hsV hv hzs hjs hj hzl;subst hV;go_enter func58,ntmps58
 go_wp2_with (at_builtin;refine wpList_append_own_at _ rfl _ _ 90 rfl n 3 i0 (.int .i64 0) 1 8 underlying90 hi0 hz0 hz1 hz2 rfl (by decide) _ _ _ rfl HO.out ⟨W.heap.size+2,0,none⟩ 1 1 [.int .i64 x3] rfl rfl HNw.out Hs1.out Hm1.out Hm2.out HS.out ?_)
 intro v' U h1 h2 _ h3;obtain ⟨U',g1,g2⟩:=HE.out v' U h1 h2 h3;have G2:Hid (∃ vs',Hid (PMp U' n mb (Qeo ps ⟨x0,x1,x2,x3⟩) vs'∧QbB n mb W U')):=g2;clear h1 h2 h3 g2 HE hrun;go_wp2;go_end0
 exact ⟨rfl,G2.out⟩
end
section
open Go.RowKit Go.Lib Go.Sort Go.Proofs.Tryz
def Qg3 (x:Bl):List Value:=x.cells.toList
theorem bl_swo:SWO (ltOf Qc7) where
 irrefl x:=decide_eq_false (Qe7 x)
 trans x y z h1 h2:=decide_eq_true (QcV (of_decide_eq_true h1) (of_decide_eq_true h2))
 ntrans x y z h1 h2:=by
  refine decide_eq_false (fun h=>?_)
  have h1':=of_decide_eq_false h1;have h2':=of_decide_eq_false h2;by_cases e1:x.key=y.key
  ·refine h2' ?_;rw [cmpB_lt] at h ⊢;unfold Bl.key at e1;rw [Prod.mk.injEq,Prod.mk.injEq] at e1;rw [← e1.1,← e1.2.1,← e1.2.2];exact h
  ·have h3:=QfH h1' e1;by_cases e2:y.key=z.key
   ·refine h1' ?_;rw [cmpB_lt] at h ⊢;unfold Bl.key at e2;rw [Prod.mk.injEq,Prod.mk.injEq] at e2;rw [e2.1,e2.2.1,e2.2.2];exact h
   ·have h4:=QfH h2' e2;exact Qe7 x (QcV h (QcV h4 h3))
theorem bl_holds {W:World} {n g cap:Nat} {L:List Bl} (h:Qba W n (.slice (some ⟨g,0,none⟩) L.length cap) L) (hi:Inhabited Bl):HoldsK Qg3 4 W g 0 L.toArray:=by
 rcases h.2 with ⟨e,_⟩ | ⟨g1,c1,cur,e,hb1,hh,hc,hm,hs,ht⟩
 ·cases e
 ·cases e;intro t htt;rw [size_flatK,List.size_toArray] at htt;rw [get_flatK _ _ _ t (by simpa using htt)]
  have hk:t / 4<L.length:=by omega
  have hb:=Qfe L (t / 4) (t % 4) hk (by omega)
  have e1:t / 4*4+t % 4=t:=by omega
  rw [e1] at hb;have e2:(Qb2 L)[t]? = cur[t]?:=by
   rw [← ht,List.getElem?_take,if_pos (by omega)]
   simp
  have e3:L.toArray[t / 4]! = L.getD (t / 4) bl0:=by
   rw [List.getD_eq_getElem?_getD,List.getElem?_eq_getElem hk,getElem!_pos L.toArray (t / 4) (by simpa using hk)]
   simp
  refine ⟨?_,by simp [World.frozen?,hh]⟩
  rw [e3];simp only [World.cell?,hh,Nat.zero_add];rw [← e2,hb];unfold Qg3;have hl:t % 4<(L.getD (t / 4) bl0).cells.toList.length:=by rw [Bl.cells_length];omega
  rw [List.getElem?_eq_getElem hl,getElem!_pos (L.getD (t / 4) bl0).cells.toList (t % 4) hl];rfl
theorem bl_sorted {W:World} {n g cap:Nat} {L:List Bl} (h:Qba W n (.slice (some ⟨g,0,none⟩) L.length cap) L) (hi:Inhabited Bl) (d:Array Bl) (hd:d.size=L.length) (m:Nat) (os:Array Obj) :
  Qba (sortWorldK Qg3 4 W g 0 m d os) n (.slice (some ⟨g,0,none⟩) d.toList.length cap) d.toList∧W.grownBy (sortWorldK Qg3 4 W g 0 m d os) (some g):=by
 rcases h.2 with ⟨e,_⟩ | ⟨g1,c1,cur,e,hb1,hh,hc,hm,hs,ht⟩
 ·cases e
 ·cases e;have hlt:g<W.heap.size:=(Array.getElem?_eq_some_iff.1 hh).1;have hg:(sortWorldK Qg3 4 W g 0 m d os).heap[g]? = some (.cells (putCells id 0 (flatK Qg3 4 d) cur) 63 (0,0)):=by
   unfold sortWorldK putRowK putRow mapBlock;rw [heap_grow_old _ _ (by simpa [ahead] using hlt)]
   show (W.heap.modify g _)[g]? = _;rw [Array.getElem?_modify,if_pos rfl,hh];rfl
  refine ⟨⟨QdL _,.inr ⟨g,cap,_,rfl,hb1,hg,by simp [hd,hc],hm,by simp [putCells,hs],?_⟩⟩,rfl,rfl,rfl,?_,fun b hb hne=>?_⟩
  ·apply List.ext_getElem?;intro t;rw [List.getElem?_take];by_cases htt:t<d.toList.length*4
   ·rw [if_pos htt];have hk:t / 4<d.toList.length:=by omega
    have hb:=Qfe d.toList (t / 4) (t % 4) hk (by omega)
    have e1:t / 4*4+t % 4=t:=by omega
    rw [e1] at hb;rw [hb];have hts:t<cur.size:=by rw [hs];simp [hd] at htt;omega
    have hF:t<(flatK Qg3 4 d).size:=by simpa using htt
    have e3:d[t / 4]! = d.toList.getD (t / 4) bl0:=by
     rw [List.getD_eq_getElem?_getD,List.getElem?_eq_getElem hk,getElem!_pos d (t / 4) (by simpa using hk)]
     simp
    have hl:t % 4<(d.toList.getD (t / 4) bl0).cells.toList.length:=by rw [Bl.cells_length];omega
    rw [Array.getElem?_toList];unfold putCells;rw [Array.getElem?_mapIdx,Array.getElem?_eq_getElem hts];simp only [Option.map_some,Nat.zero_le,true_and,Nat.zero_add,hF,if_true,Nat.sub_zero,id];rw [get_flatK _ _ _ t (by simpa using htt),e3,List.getElem?_eq_getElem hl]
    unfold Qg3;rw [getElem!_pos (d.toList.getD (t / 4) bl0).cells.toList (t % 4) hl]
   ·rw [if_neg htt,List.getElem?_eq_none (by rw [QdL];omega)]
  ·unfold sortWorldK putRowK putRow mapBlock;simp [ahead]
  ·unfold sortWorldK putRowK putRow mapBlock;rw [heap_grow_old _ _ (by simpa [ahead] using hb)]
   have:g≠b:=fun e=>hne (by rw [e])
   simp [ahead,Array.getElem?_modify,this]
theorem cmp_lays (hi:Inhabited Bl) (blk off size:Nat) (w:World):CmpLays prog 101 #[] Qg3 4 Qc7 blk off size w:=
 fun m os dk _ x y=>Qfn x y _
theorem sort_any (W:World) (n:Nat) (v:Value) (L:List Bl) (h:Qba W n v L) (hl:L.length≤1000000) (hnd:(L.map Bl.key).Nodup) :
  Calls prog 100 #[v,.func (.func 101) #[] #[]] W fun e w'=>e=.returned (.tuple #[])∧∃ R,R.Perm L∧Qdx R∧Qba w' n v R∧W.grownBy w' v.ownBlock:=by
 have hi:Inhabited Bl:=⟨bl0⟩;by_cases h0:L=[]
 ·subst h0;obtain ⟨a,cap,rfl,_⟩:=h.isBl;refine (AnyF.slices_SortFunc_none { sortLays with } a cap _ W).mono ?_
  rintro e w' ⟨rfl,rfl⟩;exact ⟨rfl,[],.nil,.nil,h,rfl,rfl,rfl,Nat.le_refl _,fun _ _ _=>rfl⟩
 ·obtain ⟨g,cap,rfl,hlt⟩:∃ g cap,v=.slice (some ⟨g,0,none⟩) L.length cap∧g<W.heap.size:=by
   rcases h.2 with ⟨e,hn⟩ | ⟨g1,c1,cur,e,hb1,hh,_⟩
   ·exact absurd (List.eq_nil_of_length_eq_zero hn) h0
   ·exact ⟨g1,c1,e,(Array.getElem?_eq_some_iff.1 hh).1⟩
  have eg:∀ args w,(callFunc 101 args).run prog w=.ok (.enter 101 args) w:=fun args w=>Qa8 func101 (by kernel_rfl) ⟨_,rfl⟩ args w
  have hcon:=AnyQ.slices_SortFunc sortLays 4 Tryz.isAgg63 Tryz.sizeOf63 Qg3 (fun _=>rfl) (fun x v hv=>by simp [Qg3,Bl.cells] at hv;rcases hv with rfl | rfl | rfl | rfl <;> rfl) Qc7 bl_swo 101 #[] g 0 cap L.toArray W eg (cmp_lays hi g 0 _ W) (bl_holds h hi) hlt (by simp;omega)
  refine Calls.mono hcon ?_;rintro e w' ⟨rfl,d,m,os,hp,hs,rfl⟩;obtain ⟨p1,_,p3⟩:=hp;have hsz:d.size=L.length:=by rw [p1];simp
  have hpm:d.toList.Perm L:=by
   simp only [List.size_toArray] at p3;have e1:(d.extract 0 L.length).toList=d.toList:=by
    rw [← hsz];simp
   have e2:(L.toArray.extract 0 L.length).toList=L:=by simp
   rw [e1,e2] at p3;exact p3
  obtain ⟨b1,b2⟩:=bl_sorted h hi d hsz m os;refine ⟨rfl,d.toList,hpm,?_,?_,b2⟩
  ·have hnd':(d.toList.map Bl.key).Nodup:=((hpm.map Bl.key).nodup_iff).2 hnd;refine List.pairwise_iff_getElem.2 (fun i j hi' hj' hij=>?_)
   have h1:=hs i j (Nat.zero_le _) hij (by simp at hj';simp;omega)
   have hi2:i<d.size:=by simpa using hi'
   have hj2:j<d.size:=by simpa using hj'
   rw [getElem!_pos d i hi2,getElem!_pos d j hj2] at h1;have h2:¬ Qc7 d[j] d[i]<0:=of_decide_eq_false h1;have h3:d[j].key≠d[i].key:=fun e=>by
    have:=(List.pairwise_iff_getElem.1 hnd') i j (by simpa using hi2) (by simpa using hj2) hij
    simp at this;exact this e.symm
   have:=QfH h2 h3
   simpa using this
  ·have e:d.toList.length=L.length:=by simpa using hsz
   rw [e] at b1;exact b1
theorem parts_next {W:World} {n mb r:Nat} {ps:List Pt} {vs:Nat→Value} (h:PMp W n mb ps vs) {sn:List Nat} (hr:W.heap[r]? = some (.mapIter (some mb) ps.length sn.toArray ps.length)) (ty:TypeId) :
  ((∀ i,i<ps.length→i∈sn)∧(Instr.next (.pointer (some ⟨r,0,none⟩)) false ty).run prog W=.ok (.tuple #[.bool false]) W) ∨
  ∃ i,∃ hi:i<ps.length,i ∉ sn∧∃ W',(Instr.next (.pointer (some ⟨r,0,none⟩)) false ty).run prog W=.ok (.tuple #[.bool true,plV (ps[i]).key,vs i]) W'∧W'.heap[r]? = some (.mapIter (some mb) ps.length (sn++[i]).toArray ps.length)∧W.grownBy W' (some r)∧W'.heap.size=W.heap.size ∧
   (Instr.entry (.pointer (some ⟨r,0,none⟩))).run prog W'=.ok (.tuple #[plV (ps[i]).key,vs i]) W':=by
 have hold:∀ x∈(ents ps vs).toArray.toList,x.born<ps.length:=fun x hx=>by
  obtain ⟨i,hi,rfl⟩:=ents_mem (by simpa using hx)
  exact hi
 have hne:r≠mb:=fun e=>by rw [e,h.map] at hr;cases hr
 have hlt:r<W.heap.size:=(Array.getElem?_eq_some_iff.1 hr).1;rcases run_next_at (P:=prog) W ty r mb ps.length ps.length sn.toArray (ents ps vs).toArray ps.length hr h.map hold (Nat.le_refl _) with ⟨h0,hrun⟩ | ⟨e,he,w1,hal,hrun⟩
 ·refine .inl ⟨fun i hi=>?_,hrun⟩
  have h1:=all_seen _ _ h0 ⟨plV (ps[i]).key,vs i,i⟩ (by simpa using List.mem_of_getElem? (Qb4 ps vs i hi))
  simpa using h1
 ·obtain ⟨hem,hes⟩:=mem_left he;obtain ⟨i,hi,rfl⟩:=ents_mem (by simpa using hem)
  have hns:i ∉ sn:=by simpa using hes
  have hr1:w1.heap[r]? = some (.mapIter (some mb) ps.length sn.toArray ps.length):=by rcases hal with rfl | rfl <;> exact hr
  have hb1:w1.heap[mb]? = some (.map (ents ps vs).toArray ps.length):=by rcases hal with rfl | rfl <;> exact h.map
  have hlt1:r<w1.heap.size:=(Array.getElem?_eq_some_iff.1 hr1).1;have hset:=QbH hlt1 (.mapIter (some mb) ps.length (sn.toArray.push i) ps.length);have hb':(ChangeMaps.setBlock w1 r (.mapIter (some mb) ps.length (sn.toArray.push i) ps.length)).heap[mb]? = some (.map (ents ps vs).toArray ps.length):=(Qar hne _).trans hb1;refine .inr ⟨i,hi,hns,_,hrun,by rw [hset];simp,?_,?_,run_entry_at _ r mb ps.length sn.toArray (ents ps vs).toArray ps.length ⟨plV (ps[i]).key,vs i,i⟩ hset hb' hem (by simp only [ents_born];exact List.nodup_range)⟩
  ·rcases hal with rfl | rfl <;> exact ⟨rfl,rfl,rfl,by simp [ChangeMaps.setBlock],fun b _ hb=>Qar (fun e1=>hb (by rw [e1])) _⟩
  ·rcases hal with rfl | rfl <;> simp [ChangeMaps.setBlock]
end
end Go.Proofs.YtjifbbdkpanagaaGreatDoor
