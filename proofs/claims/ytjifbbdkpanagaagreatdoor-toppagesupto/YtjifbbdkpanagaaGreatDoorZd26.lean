/-
  Part of a proof (see the last text).
-/
import Derived.Test.YtjifbbdkpanagaaGreatDoorZd25
import Derived.RangeFuncNested
import Derived.RangeFuncBound
import Derived.Shelf.RegionOpen
import Derived.OwnWalkIn
import Derived.LoopNIn
import Derived.LoopIn
set_option linter.unusedVariables false
set_option linter.unusedSimpArgs false
set_option maxRecDepth 100000
namespace Go.Proofs.YtjifbbdkpanagaaGreatDoor
section
open Go.RowKit Go.Lib Go.Proofs.Tryz
theorem QaS.up {bad:Int} {ents:List Ep} {W V w':World} {e:Ending} (hb:Below W.heap.size W V) (h:QaS bad ents V e w'):QaS bad ents W e w':=by
 obtain ⟨h1,h2,h3⟩:=h;refine ⟨hb.trans (h1.mono hb.size),h2,fun hz=>?_⟩
 obtain ⟨v,L,e1,m1,m2,m3⟩:=h3 hz;exact ⟨v,L,e1,m1.mono hb.size,m2,m3⟩
theorem QaS.shape {bad:Int} {ents:List Ep} {W w':World} {e:Ending} (h:QaS bad ents W e w'):∃ a n q E,e=.returned (.tuple #[.slice a n q,E])∧Hid (QaS bad ents W (.returned (.tuple #[.slice a n q,E])) w'):=by
 have h':=h;obtain ⟨h1,h2,h3⟩:=h;by_cases hz:bad=0
 ·obtain ⟨v,L,rfl,m1,m2,m3⟩:=h3 hz;obtain ⟨a,q,rfl,_⟩:=m1.isJs;exact ⟨a,L.length,q,_,rfl,h'⟩
 ·have:=h2 hz
  subst this;exact ⟨_,_,_,_,rfl,h'⟩
def QdB (S:Cs) (b:List Bl) (pe sg:Int) (zb:Int):Int:=
 if sg=1 then Qbb (fun en=>Qci S.c S.pn en pe) 12 else if sg=2 then Qbb (fun en=>QbZ S.c S.po b en pe) 12 else if sg=3 then Qbb (fun en=>Qch S.T S.c S.base S.gain b en pe) 12 else if sg=4 then Qd8 S.c S.pr b S.base pe else if sg=6 then zb else 0
def Qen (S:Cs) (b:List Bl) (pe sg:Int) (ze:List Ep):List Ep:=
 if sg=1 then QbA (fun en=>plTo en pe S.pn S.pn.length) 12 else if sg=2 then QbA (fun en=>alTo en pe b S.po S.po.length) 12 else if sg=3 then QbA (fun en=>QhL (wV S.T S.base en pe) S.base S.gain b en pe S.c S.c.length) 12 else if sg=4 then peTo b S.base pe S.pr (S.pr.length*2) else if sg=6 then ze else []
section
variable {W:World} {n0 m0 B:Nat} {P:Cp} {S:Cs}
set_option maxHeartbeats 4000000 in
theorem clBrought_any (h:Qcf W n0 m0 B P S) (ok:ClOk S) (hk:EntK S) (ht:Qh9 W) (sg:Int) (hsg:1≤sg∧sg≤6) (ab:Option Addr) (b:List Bl) (cab:Nat) (pe:Int) (hb:Qcn W ab b cab) (hbl:b.length≤200) (zb:Int) (ze:List Ep)
  (hcl:sg=6→∀ U,Below W.heap.size W U→Calls prog 95 #[.pointer (some ⟨B,0,none⟩),.slice ab b.length cab,.int .i64 pe] U (QaS zb ze U)) :
  Calls prog 55 #[.pointer (some ⟨B,0,none⟩),.int .i64 sg,.slice ab b.length cab,.int .i64 pe] W (QaS (QdB S b pe sg zb) (Qen S b pe sg ze) W):=by
 obtain ⟨V,hV⟩:∃ V,((W.alloc (.cells #[.pointer (some ⟨B,0,none⟩)] 50)).alloc (.cells #[.slice ab b.length cab] 24)).alloc (.cells #[.int .i64 pe] 3)=V:=⟨_,rfl⟩;have hBV:Below W.heap.size W V:=by rw [← hV];exact (((Below.refl _ W).alloc (Nat.le_refl _) _).alloc (by simp) _).alloc (by simp;omega) _
 have hsV:V.heap.size=W.heap.size+3:=by rw [← hV];simp
 have hS:StOn V W.heap.size (W.heap.size+1) (W.heap.size+2) B ab b cab pe:=by
  rw [← hV];have e1:(W.alloc (.cells #[.pointer (some ⟨B,0,none⟩)] 50)).heap.size=W.heap.size+1:=by simp
  have e2:((W.alloc (.cells #[.pointer (some ⟨B,0,none⟩)] 50)).alloc (.cells #[.slice ab b.length cab] 24)).heap.size=W.heap.size+2:=by simp
  refine ⟨?_,?_,?_⟩
  ·rw [World.cell?_alloc_lt _ _ _ (by show W.heap.size<_;rw [e2];omega),World.cell?_alloc_lt _ _ _ (by show W.heap.size<_;rw [e1];omega)]
   unfold World.cell?;rw [World.alloc_heap_new];rfl
  ·rw [World.cell?_alloc_lt _ _ _ (by show W.heap.size+1<_;rw [e2];omega)]
   have:=World.alloc_heap_new (W.alloc (.cells #[.pointer (some ⟨B,0,none⟩)] 50)) (.cells #[.slice ab b.length cab] 24)
   rw [e1] at this;unfold World.cell?;rw [this];rfl
  ·have:=World.alloc_heap_new ((W.alloc (.cells #[.pointer (some ⟨B,0,none⟩)] 50)).alloc (.cells #[.slice ab b.length cab] 24)) (.cells #[.int .i64 pe] 3)
   rw [e2] at this;unfold World.cell?;rw [this];rfl
 have hj:=h.below hBV;have htV:=ht.below hBV;have hbV:=hb.below hBV;have HBV:Hid (Below W.heap.size W V):=hBV;have HV:Hid (((W.alloc (.cells #[.pointer (some ⟨B,0,none⟩)] 50)).alloc (.cells #[.slice ab b.length cab] 24)).alloc (.cells #[.int .i64 pe] 3)=V):=hV;obtain ⟨bad,hbad⟩:∃ x,QdB S b pe sg zb=x:=⟨_,rfl⟩;obtain ⟨ents,hents⟩:∃ x,Qen S b pe sg ze=x:=⟨_,rfl⟩;rw [hbad,hents];have HEnd:Hid (∀ a n q E w',QaS bad ents W (.returned (.tuple #[.slice a n q,E])) w'→QaS bad ents W (.returned (.tuple #[.slice a n q,E])) w'):=fun _ _ _ _ _ h=>h
 rcases (by omega:sg=1∨sg=2∨sg=3∨sg=4∨sg=5∨sg=6) with rfl | rfl | rfl | rfl | rfl | rfl
 ·have e1:Qbb (fun en=>Qci S.c S.pn en pe) 12=bad:=hbad
  have e2:QbA (fun en=>plTo en pe S.pn S.pn.length) 12=ents:=hents
  have hE:Each 88 #[.pointer (some ⟨W.heap.size,0,none⟩),.pointer (some ⟨W.heap.size+2,0,none⟩)] (fun en=>Qci S.c S.pn en pe) (fun en=>plTo en pe S.pn S.pn.length) V:=
   ⟨fun args W=>Qa8 func88 (by kernel_rfl) ⟨_,rfl⟩ args W,fun en U hU=>each1_any (hj.below hU) ok hk (htV.below hU) (hS.below hU) (hbV.below hU) hbl en⟩
  have HO:Hid (Calls prog 87 #[.func (.func 88) #[] #[.pointer (some ⟨W.heap.size,0,none⟩),.pointer (some ⟨W.heap.size+2,0,none⟩)]] V fun e w'=>∃ a n q E,e=.returned (.tuple #[.slice a n q,E])∧Hid (QaS bad ents W (.returned (.tuple #[.slice a n q,E])) w')):=by
   refine (QfK _ _ _ _ V hE).mono fun e w' he=>?_
   rw [e1,e2] at he;exact (he.up HBV.out).shape
  clear hE hbad hents e1 e2 h hk ok ht hb hj htV hbV hS hBV hcl hV;go_enter func55,ntmps55
  go_upto_region 1 with fail
  rw [HV.out];clear HV;go_wp2_with fail;refine HO.out.mono ?_;rintro e w2 ⟨a2,n2,q2,E2,rfl,h2⟩;clear HO;go_wp2;go_ret2;exact h2.out
 ·have e1:Qbb (fun en=>QbZ S.c S.po b en pe) 12=bad:=hbad
  have e2:QbA (fun en=>alTo en pe b S.po S.po.length) 12=ents:=hents
  have hE:Each 90 #[.pointer (some ⟨W.heap.size,0,none⟩),.pointer (some ⟨W.heap.size+1,0,none⟩),.pointer (some ⟨W.heap.size+2,0,none⟩)] (fun en=>QbZ S.c S.po b en pe) (fun en=>alTo en pe b S.po S.po.length) V:=
   ⟨fun args W=>Qa8 func90 (by kernel_rfl) ⟨_,rfl⟩ args W,fun en U hU=>each2_any (hj.below hU) ok hk (htV.below hU) (hS.below hU) (hbV.below hU) hbl en⟩
  have HO:Hid (Calls prog 87 #[.func (.func 90) #[] #[.pointer (some ⟨W.heap.size,0,none⟩),.pointer (some ⟨W.heap.size+1,0,none⟩),.pointer (some ⟨W.heap.size+2,0,none⟩)]] V fun e w'=>∃ a n q E,e=.returned (.tuple #[.slice a n q,E])∧Hid (QaS bad ents W (.returned (.tuple #[.slice a n q,E])) w')):=by
   refine (QfK _ _ _ _ V hE).mono fun e w' he=>?_
   rw [e1,e2] at he;exact (he.up HBV.out).shape
  clear hE hbad hents e1 e2 h hk ok ht hb hj htV hbV hS hBV hcl hV;go_enter func55,ntmps55
  go_upto_region 1 with fail
  rw [HV.out];clear HV;go_wp2_with fail;refine HO.out.mono ?_;rintro e w2 ⟨a2,n2,q2,E2,rfl,h2⟩;clear HO;go_wp2;go_ret2;exact h2.out
 ·have e1:Qbb (fun en=>Qch S.T S.c S.base S.gain b en pe) 12=bad:=hbad
  have e2:QbA (fun en=>QhL (wV S.T S.base en pe) S.base S.gain b en pe S.c S.c.length) 12=ents:=hents
  have hE:Each 92 #[.pointer (some ⟨W.heap.size,0,none⟩),.pointer (some ⟨W.heap.size+1,0,none⟩),.pointer (some ⟨W.heap.size+2,0,none⟩)] (fun en=>Qch S.T S.c S.base S.gain b en pe) (fun en=>QhL (wV S.T S.base en pe) S.base S.gain b en pe S.c S.c.length) V:=
   ⟨fun args W=>Qa8 func92 (by kernel_rfl) ⟨_,rfl⟩ args W,fun en U hU=>each3_any (hj.below hU) ok (htV.below hU) (hS.below hU) (hbV.below hU) hbl en⟩
  have HO:Hid (Calls prog 87 #[.func (.func 92) #[] #[.pointer (some ⟨W.heap.size,0,none⟩),.pointer (some ⟨W.heap.size+1,0,none⟩),.pointer (some ⟨W.heap.size+2,0,none⟩)]] V fun e w'=>∃ a n q E,e=.returned (.tuple #[.slice a n q,E])∧Hid (QaS bad ents W (.returned (.tuple #[.slice a n q,E])) w')):=by
   refine (QfK _ _ _ _ V hE).mono fun e w' he=>?_
   rw [e1,e2] at he;exact (he.up HBV.out).shape
  clear hE hbad hents e1 e2 h hk ok ht hb hj htV hbV hS hBV hcl hV;go_enter func55,ntmps55
  go_upto_region 1 with fail
  rw [HV.out];clear HV;go_wp2_with fail;refine HO.out.mono ?_;rintro e w2 ⟨a2,n2,q2,E2,rfl,h2⟩;clear HO;go_wp2;go_ret2;exact h2.out
 ·have e1:Qd8 S.c S.pr b S.base pe=bad:=hbad;have e2:peTo b S.base pe S.pr (S.pr.length*2)=ents:=hents;have HC:Hid (∀ U,Below V.heap.size V U→Calls prog 94 #[.slice P.ca S.c.length P.cc,.slice P.pra S.pr.length P.prc,.slice ab b.length cab,.string S.base,.int .i64 pe] U fun e w'=>∃ a n q E,e=.returned (.tuple #[.slice a n q,E])∧Hid (QaS bad ents W (.returned (.tuple #[.slice a n q,E])) w')):=fun U hU=>by
   have hd:=(hj.below hU).dat;refine (hk.pe P.ca P.pra ab P.cc P.prc cab b S.base pe U hd.ch hd.pr (hbV.below hU) (by omega)).mono fun e w' he=>?_
   obtain ⟨q1,q2,q3⟩:=he;rw [e1] at q2 q3;have he2:QaS bad ents U e w':=⟨q1,q2,fun hz=>by obtain ⟨v,L,r1,r2,r3,r4⟩:=q3 hz;exact ⟨v,L,r1,r2,by rw [← e2];exact r3,by omega⟩⟩
   exact (he2.up (HBV.out.trans (hU.mono HBV.out.size))).shape
  have HBU:Hid (Below V.heap.size V V.drew):=(Below.refl _ V).drew;obtain ⟨c4,c6,c7⟩:=hS.below HBU.out;have hcu:=hj.below HBU.out;have k0:V.drew.cell? ⟨B,0,none⟩=some (.slice P.ca S.c.length P.cc):=hcu.cell 0;have k7:V.drew.cell? ⟨B,7,none⟩=some (.slice P.pra S.pr.length P.prc):=hcu.cell 7;have k2:V.drew.cell? ⟨B,2,none⟩=some (.string S.base):=hcu.cell 2;clear hbad hents e1 e2 h hk ok ht hb hj htV hbV hS hBV hcl hV hcu
  go_enter func55,ntmps55
  go_upto_region 1 with fail
  rw [HV.out];clear HV;go_upto_region 9 with fail
  refine Qab (by kernel_rfl) ?_
  generalize V.drew=U at *
  refine QaD (g:=14) (T:=fun u=>u=U) _ _ _ _ ?_
  refine Qam [14,3,2,1] (i:=0) (v:=.pointer (some ⟨B,0,none⟩)) rfl (by kernel_rfl) (by kernel_rfl) (by decide) (by kernel_rfl) (by kernel_rfl) (by kernel_rfl) (by kernel_rfl) (fun _ _ _ h=>h) (Or.inl ⟨by rfl,fun w' hw'=>by rw [hw'];clear hw';go_simp⟩) rfl ?_
  simp only [Act.put,zq0,zq1,zq2,zq3,zq4,zq5];refine QaP (i:=1) (v:=.pointer (some ⟨B,0,none⟩)) rfl (by decide) (by kernel_rfl) (by kernel_rfl) (by kernel_rfl) (fun _ _ _ h=>h) (Or.inl ⟨by rfl,fun w' _=>by go_simp⟩) rfl ?_
  simp only [Act.put,zq0,zq1,zq2,zq3,zq4,zq5];refine QaP (i:=2) (v:=.pointer (some ⟨B,0,none⟩)) rfl (by decide) (by kernel_rfl) (by kernel_rfl) (by kernel_rfl) (fun _ _ _ h=>h) (Or.inl ⟨by rfl,fun w' _=>by go_simp⟩) rfl ?_
  simp only [Act.put,zq0,zq1,zq2,zq3,zq4,zq5];refine Qam [14] (i:=3) (v:=.slice P.ca S.c.length P.cc) rfl (by kernel_rfl) (by kernel_rfl) (by decide) (by kernel_rfl) (by kernel_rfl) (by kernel_rfl) (by kernel_rfl) (fun _ _ _ h=>h) (Or.inl ⟨by rfl,fun w' hw'=>by rw [hw'];clear hw';go_simp⟩) rfl ?_
  simp only [Act.put,zq0,zq1,zq2,zq3,zq4,zq5];refine Qam [14,7,6,5] (i:=4) (v:=.pointer (some ⟨B,0,none⟩)) rfl (by kernel_rfl) (by kernel_rfl) (by decide) (by kernel_rfl) (by kernel_rfl) (by kernel_rfl) (by kernel_rfl) (fun _ _ _ h=>h) (Or.inl ⟨by rfl,fun w' hw'=>by rw [hw'];clear hw';go_simp⟩) rfl ?_
  simp only [Act.put,zq0,zq1,zq2,zq3,zq4,zq5];refine QaP (i:=5) (v:=.pointer (some ⟨B,0,none⟩)) rfl (by decide) (by kernel_rfl) (by kernel_rfl) (by kernel_rfl) (fun _ _ _ h=>h) (Or.inl ⟨by rfl,fun w' _=>by go_simp⟩) rfl ?_
  simp only [Act.put,zq0,zq1,zq2,zq3,zq4,zq5];refine QaP (i:=6) (v:=.pointer (some ⟨B,7,none⟩)) rfl (by decide) (by kernel_rfl) (by kernel_rfl) (by kernel_rfl) (fun _ _ _ h=>h) (Or.inl ⟨by rfl,fun w' _=>by go_simp⟩) rfl ?_
  simp only [Act.put,zq0,zq1,zq2,zq3,zq4,zq5];refine Qam [14] (i:=7) (v:=.slice P.pra S.pr.length P.prc) rfl (by kernel_rfl) (by kernel_rfl) (by decide) (by kernel_rfl) (by kernel_rfl) (by kernel_rfl) (by kernel_rfl) (fun _ _ _ h=>h) (Or.inl ⟨by rfl,fun w' hw'=>by rw [hw'];clear hw';go_simp⟩) rfl ?_
  simp only [Act.put,zq0,zq1,zq2,zq3,zq4,zq5];refine Qam [14] (i:=8) (v:=.slice ab b.length cab) rfl (by kernel_rfl) (by kernel_rfl) (by decide) (by kernel_rfl) (by kernel_rfl) (by kernel_rfl) (by kernel_rfl) (fun _ _ _ h=>h) (Or.inl ⟨by rfl,fun w' hw'=>by rw [hw'];clear hw';go_simp⟩) rfl ?_
  simp only [Act.put,zq0,zq1,zq2,zq3,zq4,zq5];refine Qam [14,12,11,10] (i:=9) (v:=.pointer (some ⟨B,0,none⟩)) rfl (by kernel_rfl) (by kernel_rfl) (by decide) (by kernel_rfl) (by kernel_rfl) (by kernel_rfl) (by kernel_rfl) (fun _ _ _ h=>h) (Or.inl ⟨by rfl,fun w' hw'=>by rw [hw'];clear hw';go_simp⟩) rfl ?_
  simp only [Act.put,zq0,zq1,zq2,zq3,zq4,zq5];refine QaP (i:=10) (v:=.pointer (some ⟨B,0,none⟩)) rfl (by decide) (by kernel_rfl) (by kernel_rfl) (by kernel_rfl) (fun _ _ _ h=>h) (Or.inl ⟨by rfl,fun w' _=>by go_simp⟩) rfl ?_
  simp only [Act.put,zq0,zq1,zq2,zq3,zq4,zq5];refine QaP (i:=11) (v:=.pointer (some ⟨B,2,none⟩)) rfl (by decide) (by kernel_rfl) (by kernel_rfl) (by kernel_rfl) (fun _ _ _ h=>h) (Or.inl ⟨by rfl,fun w' _=>by go_simp⟩) rfl ?_
  simp only [Act.put,zq0,zq1,zq2,zq3,zq4,zq5];refine Qam [14] (i:=12) (v:=.string S.base) rfl (by kernel_rfl) (by kernel_rfl) (by decide) (by kernel_rfl) (by kernel_rfl) (by kernel_rfl) (by kernel_rfl) (fun _ _ _ h=>h) (Or.inl ⟨by rfl,fun w' hw'=>by rw [hw'];clear hw';go_simp⟩) rfl ?_
  simp only [Act.put,zq0,zq1,zq2,zq3,zq4,zq5];refine Qam [14] (i:=13) (v:=.int .i64 pe) rfl (by kernel_rfl) (by kernel_rfl) (by decide) (by kernel_rfl) (by kernel_rfl) (by kernel_rfl) (by kernel_rfl) (fun _ _ _ h=>h) (Or.inl ⟨by rfl,fun w' hw'=>by rw [hw'];clear hw';go_simp⟩) rfl ?_
  simp only [Act.put,zq0,zq1,zq2,zq3,zq4,zq5];refine Qhw (by kernel_rfl) (by kernel_rfl) ?_
  refine wpOp_step rfl ?_;intro K hK;rw [if_pos (by rfl)]
  have hK':Shut (∀ a w,_→K a w):=hK;clear hK;go_wp2_with fail;refine (HC.out U HBU.out).mono ?_;rintro e w2 ⟨a2,n2,q2,E2,rfl,h2⟩;refine hK'.out _ _ ?_;clear hK' K;clear HC HBU
  try simp only [Act.put,zq0,zq1,zq2,zq3,zq4,zq5]
  refine wpAny_take (i:=15) (v:=.slice a2 n2 q2) rfl (by kernel_rfl) (by kernel_rfl) (by kernel_rfl) (fun _ _ _ h=>h) (Or.inl ⟨by rfl,fun w=>by go_simp⟩) ?_
  simp only [Act.put,zq0,zq1,zq2,zq3,zq4,zq5];refine wpAny_take (i:=16) (v:=E2) rfl (by kernel_rfl) (by kernel_rfl) (by kernel_rfl) (fun _ _ _ h=>h) (Or.inl ⟨by rfl,fun w=>by go_simp⟩) ?_
  simp only [Act.put,zq0,zq1,zq2,zq3,zq4,zq5];refine wpAny_take (i:=17) (v:=.slice a2 n2 q2) rfl (by kernel_rfl) (by kernel_rfl) (by kernel_rfl) (fun _ _ _ h=>h) (Or.inl ⟨by rfl,fun w=>by go_simp⟩) ?_
  simp only [Act.put,zq0,zq1,zq2,zq3,zq4,zq5];refine wpAny_take (i:=18) (v:=E2) rfl (by kernel_rfl) (by kernel_rfl) (by kernel_rfl) (fun _ _ _ h=>h) (Or.inl ⟨by rfl,fun w=>by go_simp⟩) ?_
  simp only [Act.put,zq0,zq1,zq2,zq3,zq4,zq5];refine wpAny_done (by kernel_rfl) ?_ _
  clear c4 c6 c7 k0 k7 k2;go_wp2;go_ret2;exact h2.out
 ·have e1:0=bad:=hbad;have e2:[]=ents:=hents;have HE:Hid (QaS bad ents W (.returned (.tuple #[.slice none 0 0,.nilIface])) V):=by
   rw [← e1,← e2];exact ⟨HBV.out,fun h=>absurd rfl h,fun _=>⟨_,[],rfl,Qb3.nil _ _,rfl,by simp⟩⟩
  clear hbad hents e1 e2 h hk ok ht hb hj htV hbV hS hBV hcl hV;go_enter func55,ntmps55
  go_upto_region 1 with fail
  rw [HV.out];clear HV;go_wp2;go_ret2;exact HE.out
 ·have e1:zb=bad:=hbad;have e2:ze=ents:=hents;have HO:Hid (Calls prog 95 #[.pointer (some ⟨B,0,none⟩),.slice ab b.length cab,.int .i64 pe] V fun e w'=>∃ a n q E,e=.returned (.tuple #[.slice a n q,E])∧Hid (QaS bad ents W (.returned (.tuple #[.slice a n q,E])) w')):=by
   refine (hcl rfl V HBV.out).mono fun e w' he=>?_
   rw [e1,e2] at he;exact (he.up HBV.out).shape
  obtain ⟨c4,c6,c7⟩:=hS;clear hbad hents e1 e2 h hk ok ht hb hj htV hbV hBV hcl hV;go_enter func55,ntmps55
  go_upto_region 1 with fail
  rw [HV.out];clear HV;go_wp2_with fail;refine HO.out.mono ?_;rintro e w2 ⟨a2,n2,q2,E2,rfl,h2⟩;clear HO c4 c6 c7;go_wp2;go_ret2;exact h2.out
end
end
section
open Go.RowKit Go.Lib Go.Proofs.Tryz
def Qfu (n:Nat):ByteArray:=(⟨#[45]⟩:ByteArray)++itS (n:Int)
def ep0:Ep:=⟨ByteArray.empty,0,0,[]⟩
def rnE (n:Nat) (M:List Ep):Nat→List Ep
 | 0=>[]
 | k+1=>rnE n M k++[{ M.getD k ep0 with ref:=Qfu (n+k) }]
theorem QgQ (n:Nat) (M:List Ep):∀ k,(rnE n M k).length=k
 | 0=>rfl
 | k+1=>by rw [rnE,List.length_append,QgQ n M k];rfl
theorem clItoa_any (n:Nat) (h:n≤1000000) (w:World) (ht:Qh9 w) :
  Calls prog 56 #[.int .i64 (n:Int)] w fun e w'=>e=.returned (.string (itS (n:Int)))∧Below w.heap.size w w':=by
 refine (shelf_strconv_Itoa (n:Int) (by omega) (by omega) w ht).mono ?_
 rintro e w' ⟨rfl,k,os,rfl⟩;exact ⟨rfl,Lib.below_grow w.heap.size w (Nat.le_refl _) k os⟩
theorem itS_size2 (n:Nat) (h:n≤1000000):(itS (n:Int)).size≤21:=Lib.itoa_length_le (n:Int) (by omega) (by omega)
theorem Qb3.keep {X:Nat→Prop} {W U:World} {n0:Nat} {v:Value} {L:List Je} (h:Qb3 W n0 v L) (k:Qa9 X W U) (hX:∀ b,X b→b<n0):Qb3 U n0 v L:=by
 have hb:∀ b,n0≤b→b<W.heap.size→U.heap[b]? = W.heap[b]?:=fun b h1 h2=>k.block b h2 fun hx=>by have:=hX b hx;omega
 refine ⟨h.row.of fun j ej=>hb j (h.row.own j ej) (h.row.lt j ej),fun x hx=>?_⟩
 have hy:=h.lns x hx;rcases hy.2 with ⟨hv,hn⟩ | ⟨g1,c1,cur,hv,hb1,hh,r⟩
 ·exact ⟨hy.1,.inl ⟨hv,hn⟩⟩
 ·exact ⟨hy.1,.inr ⟨g1,c1,cur,hv,hb1,(hb g1 hb1 (Array.getElem?_eq_some_iff.1 hh).1).trans hh,r⟩⟩
def Qdd (S:Cs) (pe:Int):Int:=
 if Qav pe 120=false then 1 else if Qa2 S.st pe=6 then 7 else if Qb8 S (pe.toNat - 1)=false then 7 else oeE (Qap pe) S.es
def QdE (S:Cs) (pe:Int) (R:List Bl) (zb:Int) (ze:List Ep):Int:=
 if QdB S R pe (Qa2 S.st pe+1) zb≠0 then QdB S R pe (Qa2 S.st pe+1) zb else if 200<S.es.length+(Qen S R pe (Qa2 S.st pe+1) ze).length then 4 else 0
theorem QfW {ents:Int→List Ep} {q:Ep→Prop} (h:∀ en,∀ x∈ents en,q x) (k:Nat):∀ x∈QbA ents k,q x:=fun x hx=>by
 obtain ⟨i,_,hi⟩:=List.mem_flatMap.1 hx;exact h _ x hi
theorem plTo_lns (en pe:Int) (l:List Pn) (k:Nat):∀ x∈plTo en pe l k,x.lns.length≤1000:=fun x hx=>by
 obtain ⟨i,_,hi⟩:=List.mem_flatMap.1 hx;unfold plE at hi;split at hi
 ·rw [List.mem_singleton] at hi;subst hi;show (Qe1 _ _).length≤1000;unfold Qe1;simp
 ·cases hi
theorem alTo_lns {c:List Ac} {l:List Po} (hp:Qea c l=0) (en pe:Int) (b:List Bl):∀ x∈alTo en pe b l l.length,x.lns.length≤1000:=fun x hx=>by
 obtain ⟨_,p2,p3⟩:=Qe4 hp;obtain ⟨i,hi,hx⟩:=List.mem_flatMap.1 hx;have hi':=List.mem_range.1 hi;unfold poE at hx;split at hx
 ·cases hx
 ·rw [List.mem_singleton] at hx;subst hx;have h1:=(Qd4 (p3 i hi')).2.2.1;have h2:=List.length_filter_le (fun x=>!isNo x) (allL (l.getD i po0) (QdS b en (l.getD i po0).acc (l.getD i po0).cur))
  rw [allL_len] at h2;show (goL _ _).length≤1000;unfold goL;omega
theorem rvTo_lns (f:Bl→Int) (base gain:ByteArray) (b:List Bl) (en pe:Int) (c:List Ac) (k:Nat):∀ x∈QhL f base gain b en pe c k,x.lns.length≤1000:=fun x hx=>by
 obtain ⟨i,_,hi⟩:=List.mem_flatMap.1 hx;unfold acE at hi;split at hi
 ·rw [List.mem_singleton] at hi;subst hi;show (brL _ _ _ _).length≤1000;unfold brL;simp
 ·cases hi
theorem peTo_lns (b:List Bl) (cur:ByteArray) (pe:Int) (l:List Pr) (m:Nat):∀ x∈peTo b cur pe l m,x.lns.length≤1000:=fun x hx=>by
 obtain ⟨i,_,hi⟩:=List.mem_flatMap.1 hx;unfold peE at hi;split at hi
 ·cases hi
 ·rw [List.mem_singleton] at hi;subst hi;show (mvL _ _ _ _).length≤1000;unfold mvL;simp
theorem bgTo_lns {S:Cs} (ok:ClOk S) (b:List Bl) (pe sg:Int) {ze:List Ep} (hz:∀ x∈ze,x.lns.length≤1000):∀ x∈Qen S b pe sg ze,x.lns.length≤1000:=by
 unfold Qen
 split
 ·exact QfW (fun en=>plTo_lns en pe _ _) 12
 ·split
  ·exact QfW (fun en=>alTo_lns ok.po en pe b) 12
  ·split
   ·exact QfW (fun en=>rvTo_lns _ _ _ b en pe _ _) 12
   ·split
    ·exact peTo_lns _ _ _ _ _
    ·split
     ·exact hz
     ·simp
section
variable {W:World} {n0 m0 B:Nat} {P:Cp} {S:Cs}
theorem Qcf.stage {W':World} (h:Qcf W n0 m0 B P S) {T:List (Int×Int)} (hm:IMap W' P.bs T) (ho:W'.os=W.os) (ht:W'.tape=W.tape) (hu:W'.output=W.output) (hz:W'.heap.size=W.heap.size) (hb:∀ b,b≠P.bs→W'.heap[b]? = W.heap[b]?):Qcf W' n0 m0 B P { S with st:=T }∧Qa9 (clT B P S.es.length) W W':=by
 obtain ⟨me,mc,hmm⟩:=h.refs.isMap;have hst:W.heap[P.bs]? = some (.map (Qc6 S.st 0).toArray S.st.length):=h.stg;have hbs:B≠P.bs:=fun e=>by rw [← e,h.box] at hst;cases hst
 have hk:Qa9 (clT B P S.es.length) W W':=⟨ho,ht,hu,by omega,fun b _ hx=>hb b fun e=>hx (.inr (.inr (.inl e)))⟩
 refine ⟨⟨(hb B hbs).trans h.box,h.refs.of (hb _ h.ne),hm,h.row.of fun j ej=>hb j fun e=>?_,fun x hx=>ln_keep (h.lns x hx) fun j cs fr hh=>hb j fun e=>?_,fun U hU=>?_,h.hB,h.hm,h.hs,by rw [hz];exact h.m0,h.ne⟩,hk⟩
 ·obtain ⟨cs,h1⟩:=h.row.typ j ej;rw [e,hst] at h1;cases h1
 ·rw [e,hst] at hh;cases hh
 ·have:=h.data U ((hk.mono (clT_X h)).trans hU)
  exact ⟨this.ch,this.rt,this.pn,this.po,this.pr⟩
def AvOk (W:World) (n0 m0 B:Nat) (P:Cp) (S:Cs) (pe:Int) (M:List Ep) (w':World):Prop:=
 ∃ es ea ec,Qcf w' n0 m0 B { P with ea:=ea,ec:=ec } { S with es:=es,st:=Qcz S.st pe (Qa2 S.st pe+1) }∧es.map Je.ep=S.es.map Je.ep++rnE S.es.length M M.length∧Qa9 (clT B P S.es.length) W w'∧∀ j,(Value.slice ea es.length ec).ownBlock=some j→(Value.slice P.ea S.es.length P.ec).ownBlock=some j∨W.heap.size≤j
def QhM (W:World) (n0 m0 B:Nat) (P:Cp) (S:Cs) (pe:Int) (zb:List Bl→Int) (ze:List Bl→List Ep) (e:Ending) (w':World):Prop:=
 (Qdd S pe≠0∧e=.returned (.tuple #[.int .i64 0,chE (Qdd S pe)])∧Below W.heap.size W w') ∨
 (Qdd S pe=0∧∃ R,OeR (Qap pe) S.es R∧((QdE S pe R (zb R) (ze R)≠0∧e=.returned (.tuple #[.int .i64 0,chE (QdE S pe R (zb R) (ze R))])∧Below W.heap.size W w') ∨
  (QdE S pe R (zb R) (ze R)=0∧e=.returned (.tuple #[.int .i64 ((Qen S R pe (Qa2 S.st pe+1) (ze R)).length:Int),.nilIface])∧AvOk W n0 m0 B P S pe (Qen S R pe (Qa2 S.st pe+1) (ze R)) w')))
def AvIn (W w3:World) (n0 m0 B:Nat) (P:Cp) (S:Cs) (L:List Je) (k:Nat) (wr:World):Prop:=
 ∃ es ea ec,Qcf wr n0 m0 B { P with ea:=ea,ec:=ec } { S with es:=es }∧es.length=S.es.length+k∧es.map Je.ep=S.es.map Je.ep++rnE S.es.length (L.map Je.ep) k∧Qa9 (clT B P S.es.length) w3 wr∧∀ j,(Value.slice ea es.length ec).ownBlock=some j→(Value.slice P.ea S.es.length P.ec).ownBlock=some j∨w3.heap.size≤j
theorem AvIn.step {w3 V w':World} {L:List Je} {k:Nat} {es:List Je} {ea:Option Addr} {ec:Nat} {x:Je} {g cp:Nat} {a':Option Addr} {cap':Nat} (hk:k<L.length)
  (hc:es.length=S.es.length+k) (he:es.map Je.ep=S.es.map Je.ep++rnE S.es.length (L.map Je.ep) k) (hkp:Qa9 (clT B P S.es.length) w3 V) (hown:∀ j,(Value.slice ea es.length ec).ownBlock=some j→(Value.slice P.ea S.es.length P.ec).ownBlock=some j∨w3.heap.size≤j)
  (hx:L.getD k je0=x)
  (hcl:Qcf w' n0 m0 B { P with ea:=some ⟨g,0,none⟩,ec:=cp } { S with es:=es++[⟨Qfu (S.es.length+k),x.ent,x.per,a',cap',x.lns⟩] }) (hk2:Qa9 (clT B { P with ea:=ea,ec:=ec } es.length) V w') (hg:(Value.slice ea es.length ec).ownBlock=some g∨V.heap.size≤g):AvIn W w3 n0 m0 B P S L (k+1) w':=by
 refine ⟨_,some ⟨g,0,none⟩,cp,hcl,by rw [List.length_append,hc];rfl,?_,?_,?_⟩
 ·rw [List.map_append,he,rnE,List.append_assoc];congr 2;have e1:(L.map Je.ep).getD k ep0=x.ep:=by
   rw [List.getD_eq_getElem?_getD,List.getElem?_map,List.getElem?_eq_getElem hk];rw [List.getD_eq_getElem?_getD,List.getElem?_eq_getElem hk] at hx;simp only [Option.getD_some] at hx;rw [hx];rfl
  rw [e1];rfl
 ·refine ⟨hk2.os.trans hkp.os,hk2.tape.trans hkp.tape,hk2.output.trans hkp.output,Nat.le_trans hkp.size hk2.size,fun b hb hx=>?_⟩
  refine (hk2.block b (Nat.lt_of_lt_of_le hb hkp.size) fun hh=>hx ?_).trans (hkp.block b hb hx)
  rcases hh with hh | hh | hh | hh
  ·exact .inl hh
  ·exact .inr (.inl hh)
  ·exact .inr (.inr (.inl hh))
  ·rcases hown b hh.symm with h9 | h9
   ·exact .inr (.inr (.inr h9.symm))
   ·omega
 ·intro j hj;have e:g=j:=by simpa [Value.ownBlock] using hj
  subst e;rcases hg with hg | hg
  ·exact hown _ hg
  ·exact .inr (Nat.le_trans hkp.size hg)
set_option maxHeartbeats 16000000 in
theorem advance_any (h:Qcf W n0 m0 B P S) (ok:ClOk S) (hk:EntK S) (hT:∀ U,Below n0 W U→Qh9 U) (pe:Int) (zb:List Bl→Int) (ze:List Bl→List Ep) (hze:∀ R,∀ x∈ze R,x.lns.length≤1000)
  (hcl:∀ (ab:Option Addr) (R:List Bl) (cab:Nat) U,Below W.heap.size W U→Qcn U ab R cab→OeR (Qap pe) S.es R→Calls prog 95 #[.pointer (some ⟨B,0,none⟩),.slice ab R.length cab,.int .i64 pe] U (QaS (zb R) (ze R) U)) :
  Calls prog 18 #[.pointer (some ⟨B,0,none⟩),.int .i64 pe] W (QhM W n0 m0 B P S pe zb ze):=by
 have hn0:n0≤W.heap.size:=by have:=h.hB;have:=h.m0;omega
 have ht:Qh9 W:=hT W (Below.refl _ _);have HHT:Hid (∀ U,Below n0 W U→Qh9 U):=hT;have HBl:Hid (∀ R,∀ x∈Qen S R pe (Qa2 S.st pe+1) (ze R),x.lns.length≤1000):=fun R=>bgTo_lns ok R pe _ (hze R)
 have HIs:Hid (∀ U,Calls prog 53 #[.int .i64 pe] U fun e w'=>e=.returned (.bool (Qav pe 120))∧w'=U):=fun U=>QbL pe U
 have HErr:Hid (∀ z U,z≠0→Qdd S pe=z→Below W.heap.size W U→QhM W n0 m0 B P S pe zb ze (.returned (.tuple #[.int .i64 0,.iface 66 (.int .i64 z)])) U):=fun z U h0 h1 h2=>
  .inl ⟨by rw [h1];exact h0,by rw [h1,QaA h0],h2⟩
 cases u1:Qav pe 120
 ·have HE:Hid _:=HErr.out 1 W (by decide) (by unfold Qdd;rw [u1,if_pos rfl]) (Below.refl _ _)
  rw [u1] at HIs;clear h hk ok ht hcl HErr;go_enter func18,ntmps18
  go_wp2_with fail;refine (HIs.out _).mono ?_;rintro e w' ⟨rfl,hw⟩;rw [hw];clear hw w' HIs;go_wp2;go_ret2;exact HE.out
 rw [u1] at HIs;obtain ⟨p,rfl⟩:∃ p:Nat,pe=(p:Int):=⟨pe.toNat,by simp [Qav] at u1;omega⟩
 have hp:1≤p∧p≤120:=by simp [Qav] at u1;omega
 have HSt:Hid (∀ U,Below W.heap.size W U→Calls prog 50 #[.pointer (some ⟨B,0,none⟩),.int .i64 (p:Int)] U fun e w'=>e=.returned (.int .i64 (Qa2 S.st p))∧w'=U):=fun U hU=>Qhs (h.below hU) p
 have hsg:=ok.sg p;by_cases g6:Qa2 S.st p=6
 ·have HE:Hid _:=HErr.out 7 W (by decide) (by unfold Qdd;rw [u1,if_neg (by decide),if_pos g6]) (Below.refl _ _)
  rw [g6] at HSt;clear h hk ok ht hcl HErr;go_enter func18,ntmps18
  go_wp2_with fail;refine (HIs.out _).mono ?_;rintro e w' ⟨rfl,hw⟩;rw [hw];clear hw w' HIs;go_wp2_with fail;refine (HSt.out _ (Below.refl _ _)).mono ?_;rintro e w' ⟨rfl,hw⟩;rw [hw];clear hw w' HSt;go_wp2;go_ret2;exact HE.out
 have g6':(Qa2 S.st p == 6)=false:=by rw [beq_eq_false_iff_ne];exact g6
 have HDo:Hid (Calls prog 54 #[.pointer (some ⟨B,0,none⟩),.int .i64 (p:Int)] W fun e w'=>e=.returned (.bool (Qb8 S (p - 1)))∧Below W.heap.size W w'):=doneAhead_any h ok p hp
 have hpn:((p:Int)).toNat=p:=by omega
 cases gd:Qb8 S (p - 1)
 ·have HE:Hid (∀ U,Below W.heap.size W U→QhM W n0 m0 B P S p zb ze (.returned (.tuple #[.int .i64 0,.iface 66 (.int .i64 7)])) U):=fun U hU=>HErr.out 7 U (by decide) (by unfold Qdd;rw [u1,if_neg (by decide),if_neg g6,hpn,gd,if_pos rfl]) hU
  rw [gd] at HDo;generalize Qa2 S.st p=sg at *
  clear h hk ok ht hcl HErr;go_enter func18,ntmps18
  go_wp2_with fail;refine (HIs.out _).mono ?_;rintro e w' ⟨rfl,hw⟩;rw [hw];clear hw w' HIs;go_wp2_with fail;refine (HSt.out _ (Below.refl _ _)).mono ?_;rintro e w' ⟨rfl,hw⟩;rw [hw];clear hw w' HSt;go_wp2_with fail;refine HDo.out.mono ?_;rintro e w2 ⟨rfl,hb2⟩;have HE2:Hid _:=HE.out w2 hb2;clear HE hb2 HDo;go_wp2;go_ret2;exact HE2.out
 rw [gd] at HDo;have HPre:Hid (Qdd S p=oeE (Qap p) S.es):=by unfold Qdd Hid;rw [u1,if_neg (by decide),if_neg g6,hpn,gd,if_neg (by decide)]
 have HBa:Hid (∀ U,Below W.heap.size W U→Calls prog 19 #[.pointer (some ⟨B,0,none⟩),.int .i64 (p:Int)] U fun e w'=>OeEnd (Qap p) S.es U e w'):=fun U hU=>clBal_any (h.below hU) ok p
 by_cases c1:oeE (Qap p) S.es≠0
 ·have HE:Hid (∀ U,Below W.heap.size W U→QhM W n0 m0 B P S p zb ze (.returned (.tuple #[.int .i64 0,.iface 66 (.int .i64 (oeE (Qap p) S.es))])) U):=fun U hU=>HErr.out _ U c1 HPre.out hU
  have HBb:Hid (∀ U,Below W.heap.size W U→Calls prog 19 #[.pointer (some ⟨B,0,none⟩),.int .i64 (p:Int)] U fun e w'=>e=.returned (.tuple #[.slice none 0 0,.iface 66 (.int .i64 (oeE (Qap p) S.es))])∧Below W.heap.size W w'):=fun U hU=>by
   refine (HBa.out U hU).mono ?_;rintro e w' (⟨_,rfl,hb⟩ | ⟨h0,_⟩)
   ·exact ⟨rfl,hU.trans (hb.out.mono hU.size)⟩
   ·exact absurd h0 c1
  clear h hk ok ht hcl HErr HBa HPre;generalize oeE (Qap p) S.es=oo at *
  generalize Qa2 S.st p=sg at *
  go_enter func18,ntmps18
  go_wp2_with fail;refine (HIs.out _).mono ?_;rintro e w' ⟨rfl,hw⟩;rw [hw];clear hw w' HIs;go_wp2_with fail;refine (HSt.out _ (Below.refl _ _)).mono ?_;rintro e w' ⟨rfl,hw⟩;rw [hw];clear hw w' HSt;go_wp2_with fail;refine HDo.out.mono ?_;rintro e w2 ⟨rfl,hb2⟩;go_wp2_with fail;refine (HBb.out w2 hb2).mono ?_;rintro e w3 ⟨rfl,hb3⟩;have HE2:Hid _:=HE.out w3 hb3;clear HE hb2 hb3 HDo HBb;go_wp2;go_ret2;exact HE2.out
 have c1':=Decidable.of_not_not c1;have HBb:Hid (∀ U,Below W.heap.size W U→Calls prog 19 #[.pointer (some ⟨B,0,none⟩),.int .i64 (p:Int)] U fun e w'=>∃ sa sc R,e=.returned (.tuple #[.slice sa R.length sc,.nilIface])∧Hid (Below W.heap.size W w'∧Qcn w' sa R sc∧OeR (Qap p) S.es R)):=fun U hU=>by
  refine (HBa.out U hU).mono ?_;rintro e w' (⟨h0,_⟩ | ⟨_,sa,sc,R,rfl,hR⟩)
  ·exact absurd c1' h0
  ·exact ⟨sa,sc,R,rfl,hU.trans (hR.out.1.mono hU.size),hR.out.2⟩
 have HP0:Hid (Qdd S p=0):=by unfold Hid;rw [HPre.out];exact c1'
 have HBr:Hid (∀ (sa:Option Addr) (R:List Bl) (sc:Nat) U,Below W.heap.size W U→Qcn U sa R sc→OeR (Qap p) S.es R→Calls prog 55 #[.pointer (some ⟨B,0,none⟩),.int .i64 (Qa2 S.st p+1),.slice sa R.length sc,.int .i64 (p:Int)] U (QaS (QdB S R p (Qa2 S.st p+1) (zb R)) (Qen S R p (Qa2 S.st p+1) (ze R)) U)):=fun sa R sc U hU hR hO=>
  clBrought_any (h.below hU) ok hk (ht.below hU) (Qa2 S.st p+1) ⟨by omega,by omega⟩ sa R sc p hR hO.len (zb R) (ze R) (fun _ V hV=>hcl sa R sc V (hU.trans (hV.mono hU.size)) (hR.below hV) hO)
 have HJ:Hid (Qcf W n0 m0 B P S):=h;have HTb:Hid (Qh9 W):=ht;have hlen:=ok.len;have HErr2:Hid (∀ R z U,OeR (Qap p) S.es R→z≠0→QdE S p R (zb R) (ze R)=z→Below W.heap.size W U→QhM W n0 m0 B P S p zb ze (.returned (.tuple #[.int .i64 0,.iface 66 (.int .i64 z)])) U):=fun R z U hR h0 h1 h2=>
  .inr ⟨HP0.out,R,hR,.inl ⟨by rw [h1];exact h0,by rw [h1,QaA h0],h2⟩⟩
 have HOk:Hid (∀ R U,OeR (Qap p) S.es R→QdE S p R (zb R) (ze R)=0→AvOk W n0 m0 B P S p (Qen S R p (Qa2 S.st p+1) (ze R)) U→QhM W n0 m0 B P S p zb ze (.returned (.tuple #[.int .i64 ((Qen S R p (Qa2 S.st p+1) (ze R)).length:Int),.nilIface])) U):=fun R U hR h1 h2=>
  .inr ⟨HP0.out,R,hR,.inr ⟨h1,rfl,h2⟩⟩
 have wsg:IntKind.i64.wrap (Qa2 S.st p+1)=Qa2 S.st p+1:=by
  simp only [IntKind.wrap,IntKind.bits,IntKind.signed];simp;omega
 clear h hk ok ht hcl HErr HBa HPre HP0 c1 c1' hpn gd u1;obtain ⟨sg,hsge⟩:∃ sg,Qa2 S.st p=sg:=⟨_,rfl⟩;have HSg:Hid (Qa2 S.st p=sg):=hsge;rw [hsge] at HSt HBr HOk g6' wsg hsg HBl;clear hsge g6;go_enter func18,ntmps18
 go_wp2_with fail;refine (HIs.out _).mono ?_;rintro e w' ⟨rfl,hw⟩;rw [hw];clear hw w' HIs;go_wp2_with fail;refine (HSt.out _ (Below.refl _ _)).mono ?_;rintro e w' ⟨rfl,hw⟩;rw [hw];clear hw w';go_wp2_with fail;refine HDo.out.mono ?_;rintro e w2 ⟨rfl,hb2⟩;go_wp2_with fail;refine (HBb.out w2 hb2).mono ?_;rintro e w3 ⟨sa,sc,R,rfl,h3⟩;have HS3:Hid (Calls _ _ _ _ _):=HSt.out w3 h3.out.1;have HB3:Hid (Calls _ _ _ _ _):=HBr.out sa R sc w3 h3.out.1 h3.out.2.1 h3.out.2.2
 have HR:Hid (OeR (Qap p) S.es R∧Below W.heap.size W w3):=⟨h3.out.2.2,h3.out.1⟩;clear hb2 HDo HBb HSt HBr h3;have HAv:Hid (QdE S p R (zb R) (ze R)=if QdB S R p (sg+1) (zb R)≠0 then QdB S R p (sg+1) (zb R) else if 200<S.es.length+(Qen S R p (sg+1) (ze R)).length then 4 else 0):=by unfold QdE Hid;rw [HSg.out]
 have HOk2:Hid (QdE S p R (zb R) (ze R)=0→∀ U,AvOk W n0 m0 B P S p (Qen S R p (sg+1) (ze R)) U→QhM W n0 m0 B P S p zb ze (.returned (.tuple #[.int .i64 ((Qen S R p (sg+1) (ze R)).length:Int),.nilIface])) U):=fun h1 U h2=>HOk.out R U HR.out.1 h1 h2
 have HEr3:Hid (∀ z U,z≠0→QdE S p R (zb R) (ze R)=z→Below W.heap.size W U→QhM W n0 m0 B P S p zb ze (.returned (.tuple #[.int .i64 0,.iface 66 (.int .i64 z)])) U):=fun z U h0 h1 h2=>HErr2.out R z U HR.out.1 h0 h1 h2
 have HBl2:Hid (∀ x∈Qen S R p (sg+1) (ze R),x.lns.length≤1000):=HBl.out R;clear HBl;generalize QdB S R p (sg+1) (zb R)=bb at *
 generalize Qen S R p (sg+1) (ze R)=M at *
 generalize QdE S p R (zb R) (ze R)=av at *
 have HBW3:Hid (Below W.heap.size W w3):=HR.out.2;clear HR HOk HErr2;go_wp2_with fail;refine HS3.out.mono ?_;rintro e w' ⟨rfl,hw⟩;rw [hw];clear hw w' HS3;by_cases cb:bb≠0
 ·have HB4:Hid (Calls prog 55 #[.pointer (some ⟨B,0,none⟩),.int .i64 (sg+1),.slice sa R.length sc,.int .i64 (p:Int)] w3 fun e w'=>e=.returned (.tuple #[.slice none 0 0,.iface 66 (.int .i64 bb)])∧Hid (QhM W n0 m0 B P S p zb ze (.returned (.tuple #[.int .i64 0,.iface 66 (.int .i64 bb)])) w')):=by
   refine HB3.out.mono ?_;rintro e w' ⟨q1,q2,_⟩
   have:=q2 cb
   rw [QaA cb] at this;exact ⟨this,HEr3.out bb w' cb (by rw [HAv.out,if_pos cb]) (HBW3.out.trans (q1.mono HBW3.out.size))⟩
  clear HB3 HAv HOk2 HEr3 cb;go_wp2_with fail;refine HB4.out.mono ?_;rintro e w4 ⟨rfl,h4⟩;clear HB4;go_wp2;go_ret2;exact h4.out
 have HB4:Hid (Calls prog 55 #[.pointer (some ⟨B,0,none⟩),.int .i64 (sg+1),.slice sa R.length sc,.int .i64 (p:Int)] w3 fun e w'=>∃ av cv L,e=.returned (.tuple #[.slice av L.length cv,.nilIface])∧Hid (Below W.heap.size W w'∧Qb3 w' W.heap.size (.slice av L.length cv) L∧L.map Je.ep=M∧L.length≤1000)):=by
  refine HB3.out.mono ?_;rintro e w' ⟨q1,_,q3⟩;obtain ⟨v,L,rfl,m1,m2,m3⟩:=q3 (Decidable.of_not_not cb);obtain ⟨av,cv,rfl,_⟩:=m1.isJs;exact ⟨av,cv,L,rfl,HBW3.out.trans (q1.mono HBW3.out.size),m1.mono HBW3.out.size,m2,m3⟩
 have HAv2:Hid (av=if 200<S.es.length+M.length then 4 else 0):=by unfold Hid;rw [HAv.out,if_neg cb]
 clear HB3 HAv cb;go_wp2_with fail;refine HB4.out.mono ?_;rintro e w4 ⟨la,lc,L,rfl,h4⟩;have hLl:L.length≤1000:=h4.out.2.2.2;have hML:M.length=L.length:=by rw [← h4.out.2.2.1,List.length_map]
 have j4:=HJ.out.below h4.out.1;have k8:w4.cell? ⟨B,8,none⟩=some (.slice P.ea S.es.length P.ec):=j4.cell 8;have wl:IntKind.i64.wrap ((S.es.length:Int)+L.length)=(S.es.length:Int)+L.length:=by
  simp only [IntKind.wrap,IntKind.bits,IntKind.signed];simp;omega
 have HBW4:Hid (Below W.heap.size W w4):=h4.out.1;clear HB4 HBW3;by_cases cf:200<S.es.length+L.length
 ·have cf':(200:Int)<(S.es.length:Int)+L.length:=by omega
  have HE:Hid _:=HEr3.out 4 w4 (by decide) (by rw [HAv2.out,hML,if_pos cf]) HBW4.out
  clear HAv2 HOk2 HEr3 h4 j4 hML;go_wp2;go_ret2;exact HE.out
 have cf':¬ (200:Int)<(S.es.length:Int)+L.length:=by omega
 have HOk3:Hid (∀ U,AvOk W n0 m0 B P S p M U→QhM W n0 m0 B P S p zb ze (.returned (.tuple #[.int .i64 (L.length:Int),.nilIface])) U):=fun U hU=>by
  have:=HOk2.out (by rw [HAv2.out,hML,if_neg cf]) U hU
  rw [hML] at this;exact this
 have HL:Hid (Qb3 w4 W.heap.size (.slice la L.length lc) L∧L.map Je.ep=M):=⟨h4.out.2.1,h4.out.2.2.1⟩;have HI0:Hid (AvIn W w4 n0 m0 B P S L 0 w4):=⟨S.es,P.ea,P.ec,j4,rfl,by rw [rnE,List.append_nil],Qa9.refl _ _,fun j hj=>.inl hj⟩
 have HX:Hid (∀ b,clT B P S.es.length b→b<W.heap.size):=fun b hb=>by
  rcases hb with hb | hb | hb | hb
  ·rw [hb];exact HJ.out.lt
  ·rw [hb];exact HJ.out.refs.lt
  ·rw [hb];exact HJ.out.stg.lt
  ·exact HJ.out.row.lt b hb.symm
 have HTU:Hid (∀ U,Qa9 (clT B P S.es.length) w4 U→Qh9 U):=fun U hU=>by
  refine HHT.out U ?_;have k1:Qa9 (clT B P S.es.length) W U:=(Qa9.of_below HBW4.out).trans hU;refine k1.below hn0 fun b hb=>?_
  rcases hb with hb | hb | hb | hb
  ·rw [hb];exact HJ.out.hB.1
  ·rw [hb];exact HJ.out.hm.1
  ·rw [hb];exact HJ.out.hs.1
  ·have:=HJ.out.row.own b hb.symm;have:=HJ.out.hB;omega
 have hLe:(L.length:Int)≤1000:=by omega
 clear HAv2 HOk2 HEr3 h4 j4 hML HHT;go_wp2;clear k8;go_loopw [61] (fun i wr=>∃ k:Nat,k≤L.length∧i=.int .i64 k∧Hid (AvIn W w4 n0 m0 B P S L k wr)) (fun i _=>L.length - (RowKit.intOf i).toNat)
 case atStart=>exact ⟨0,Nat.zero_le _,rfl,HI0⟩
 case round=>
  obtain ⟨k,hk,rfl,HI⟩:=hrel;clear HI0;obtain ⟨es,ea,ec,jc,hes,hep,hkp,hown⟩:=HI.out;have hM:=HL.out.1.keep hkp HX.out;obtain ⟨la',lc',ev,hjs⟩:=hM.isJs;cases ev;by_cases hlt:k<L.length
  ·rcases hjs.lies with h0 | ⟨bb2,off,e,hbb,hcc⟩
   ·rw [h0] at hlt;simp at hlt
   subst e;have hxk:=hcc k hlt;have hln:=hjs.lns _ (Qft L k hlt);obtain ⟨x,hx⟩:∃ x,L.getD k je0=x:=⟨_,rfl⟩;rw [hx] at hxk hln;have hll:x.lns.length≤1000:=HBl2.out x.ep (by rw [← HL.out.2,← hx];exact List.mem_map_of_mem (Qft L k hlt))
   obtain ⟨wa,hwa⟩:∃ wa,wr.alloc (.cells x.cells 59)=wa:=⟨_,rfl⟩;have b1:Below wr.heap.size wr wa:=by rw [← hwa];exact (Below.refl _ wr).alloc (Nat.le_refl _) _
   have hbx:QcU wa wr.heap.size x.ref x.ent x.per (.slice x.adr x.lns.length x.cap):=by rw [← hwa];exact World.alloc_heap_new wr _
   have ka:wa.cell? ⟨B,8,none⟩=some (.slice ea es.length ec):=(jc.below b1).cell 8;have hsa:wr.heap.size<wa.heap.size:=by rw [← hwa];simp
   have HIt:Hid (Calls prog 56 #[.int .i64 (es.length:Int)] wa fun e w'=>e=.returned (.string (itS ((S.es.length+k:Nat):Int)))∧Below wa.heap.size wa w'):=by
    rw [hes];exact clItoa_any (S.es.length+k) (by omega) wa ((HTU.out wr hkp).below b1)
   have hsz:=itS_size2 (S.es.length+k) (by omega)
   have HRf:Hid ((⟨#[45]⟩:ByteArray)++itS ((S.es.length+k:Nat):Int)=Qfu (S.es.length+k)):=rfl;have hd1:¬ 9223372036854775807<1+(itS ((S.es.length+k:Nat):Int)).size:=by omega
   have HWa:Hid (wr.alloc (.cells x.cells 59)=wa):=hwa;have HTk:Hid (∀ w5,Below wa.heap.size wa w5→Calls prog 52 #[.pointer (some ⟨B,0,none⟩),.agg #[.string (Qfu (S.es.length+k)),.int .i64 x.ent,.int .i64 x.per,.slice x.adr x.lns.length x.cap]] (w5.setCell ⟨wr.heap.size,0,none⟩ (.string (Qfu (S.es.length+k)))) fun e w'=>e=.returned (.tuple #[])∧Hid (AvIn W w4 n0 m0 B P S L (k+1) w')):=fun w5 h5=>by
    have b6:Below wr.heap.size wr (w5.setCell ⟨wr.heap.size,0,none⟩ (.string (Qfu (S.es.length+k)))):=(b1.trans (h5.mono b1.size)).setCell (p:=⟨wr.heap.size,0,none⟩) (Nat.le_refl _) _;refine (take_any (jc.below b6) (by show es.length≤100000;omega) (Qfu (S.es.length+k)) x.ent x.per x.adr x.cap x.lns (hln.below b6) hll).mono ?_
    rintro e w' ⟨rfl,g,cp,a',cap',h7⟩;exact ⟨rfl,AvIn.step hlt hes hep (hkp.trans (Qa9.of_below b6)) hown hx h7.out.1 h7.out.2.1 h7.out.2.2⟩
   have i0:(0:Int)≤k:=by omega
   have i1:(k:Int)<L.length:=by omega
   clear hx hwa hjs hcc hM jc hes hep hkp hown HI hln hsz b1;generalize Qfu (S.es.length+k)=rf at *
   generalize itS ((S.es.length+k:Nat):Int)=ds at *
   obtain ⟨x0,x1,x2,x3,x4,x5⟩:=x;obtain ⟨d0,d1,d2,d3⟩:=hxk;simp only [Je.cells] at d0 d1 d2 d3 hbx HWa HTk;obtain ⟨q,hq⟩:∃ q,wr.heap.size=q:=⟨_,rfl⟩;rw [hq] at hbx HTk hsa;have Hq:Hid (wr.heap.size=q):=hq;clear hq;go_upto_region 16 with fail
   rw [HWa.out]
   try rw [Hq.out]
   clear HWa d0 d1 d2 d3;go_wp2_with fail;refine HIt.out.mono ?_;rintro e w5 ⟨rfl,hb5⟩;have x5b:=hbx.below hb5 hsa;have y0:=x5b.c0;have z0:=x5b.fz 0;have HB6:Hid (QcU (w5.setCell ⟨q,0,none⟩ (.string rf)) q rf x1 x2 (.slice x3 x5.length x4)):=x5b.set0 rf;have HT5:Hid (Calls _ _ _ _ _):=HTk.out w5 hb5;clear HIt HTk hb5 x5b hbx ka;obtain ⟨w6,hw6⟩:∃ w6,w5.setCell ⟨q,0,none⟩ (.string rf)=w6:=⟨_,rfl⟩;rw [hw6] at HB6 HT5
   have HW6:Hid (w5.setCell ⟨q,0,none⟩ (.string rf)=w6):=hw6;clear hw6;go_upto_region 17 with fail
   rw [HRf.out,HW6.out];clear HRf HW6 y0 z0 hd1;have y0:=HB6.out.c0;have y1:=HB6.out.c1;have y2:=HB6.out.c2;have y3:=HB6.out.c3;clear HB6;go_wp2_with fail;refine HT5.out.mono ?_;rintro e w7 ⟨rfl,h7⟩;clear HT5 y0 y1 y2 y3;go_wp2;go_roundw
   case rel=>exact ⟨k+1,by omega,by go_num,h7⟩
   case measure=>simp [RowKit.intOf];omega
  ·have ek:k=L.length:=by omega
   subst ek;have kr:wr.cell? ⟨B,10,none⟩=some (.map (some P.bs)):=jc.cell 10;have hlook:=run_ilook jc.stg (p:Int);have hlook2:(Instr.lookup 118 (.map (some P.bs)) (.int .i64 (p:Int)) false).run prog wr=.ok (.int .i64 sg) wr:=by
    have:Qa2 S.st p=sg:=HSg.out
    rw [← this];exact hlook
   obtain ⟨W',hput,hm,ho,htp,hu,hz,hb⟩:=run_iput jc.stg (p:Int) (sg+1);have hput2:(Instr.mapUpdate 118 (.map (some P.bs)) (.int .i64 (p:Int)) (.int .i64 (sg+1))).run prog wr=.ok () W':=hput;have HE:Hid (QhM W n0 m0 B P S p zb ze (.returned (.tuple #[.int .i64 (L.length:Int),.nilIface])) W'):=by
    refine HOk3.out W' ⟨es,ea,ec,?_,?_,?_,?_⟩
    ·have:=(jc.stage hm ho htp hu hz hb).1
     rw [HSg.out];exact this
    ·rw [hep,HL.out.2,← HL.out.2,List.length_map]
    ·have k1:Qa9 (clT B P S.es.length) W w4:=Qa9.of_below HBW4.out;have k2:Qa9 (clT B P S.es.length) wr W':=⟨ho,htp,hu,by omega,fun b _ hx=>hb b fun e=>hx (.inr (.inr (.inl e)))⟩
     exact (k1.trans hkp).trans k2
    ·intro j hj;rcases hown j hj with h9 | h9
     ·exact .inl h9
     ·exact .inr (Nat.le_trans HBW4.out.size h9)
   have j1:¬ (L.length:Int)<L.length:=by omega
   clear hlook hput hm ho htp hu hz hb jc hes hep hkp hown HI hM hjs HOk3;go_wp2;go_ret2;exact HE.out
end
end
section
open Go.RowKit Go.Shelf Go.Proofs.Tryz
attribute [local go_sem] Oper.semAt_some
theorem Qcc:prog.underlying 227=some (.map 233 24):=underlying227
end
end Go.Proofs.YtjifbbdkpanagaaGreatDoor
