/-
  Part of a proof (see the last text).
-/
import Derived.Test.YtibhgngboljhfaaGreatDoorZp6
import Derived.Great.BuildSlice
set_option linter.unusedVariables false
set_option linter.unusedSimpArgs false
set_option maxRecDepth 100000
namespace Go.Proofs.YtibhgngboljhfaaGreatDoor
section
open Go.RowKit Go.Lib Go.Proofs.Tryz
def Qdz (c:List Ac) (p:Pn):Int:=if Qaa c p.src≠0 then Qaa c p.src else if Qaa c p.dst≠0 then Qaa c p.dst else if p.src=p.dst then 8 else 0
def Qdr (c:List Ac) (l:List Pn) (k:Nat):Int:=
 if QcU (l.take k) (l.getD k pn0).ref≠0 then QcU (l.take k) (l.getD k pn0).ref
 else if (Qak (l.getD k pn0).ent 12 && QbG (l.getD k pn0).amt (l.getD k pn0).fst (l.getD k pn0).per)=false then 1
 else if Qdz c (l.getD k pn0)≠0 then Qdz c (l.getD k pn0)
 else if Qam (l.getD k pn0).cur=false then 2 else 0
def QaW (c:List Ac) (l:List Pn):Int:=
 if Qat c≠0 then Qat c else if 20<l.length then 4 else Qac (Qdr c l) l.length
set_option maxHeartbeats 2000000 in
theorem Qga (c:List Ac) (p:Pn) (B1 B2:Nat) (w:World) (hL:Lfs w B1 B2 c) :
  Calls prog 86 #[.agg p.cells,.func (.func 59) #[] #[.pointer (some ⟨B1,0,none⟩),.pointer (some ⟨B2,0,none⟩)]] w fun e w'=>e=.returned (chE (Qdz c p))∧Below w.heap.size w w':=by
 have eg:∀ args W,(callFunc 59 args).run prog W=.ok (.enter 59 args) W:=fun args W=>QaL func59 (by kernel_rfl) ⟨_,rfl⟩ args W
 obtain ⟨w0,hw0⟩:∃ w0,w.alloc (.cells p.cells 93)=w0:=⟨_,rfl⟩;have B0:Below w.heap.size w w0:=by rw [← hw0];exact (Below.refl _ w).alloc (Nat.le_refl _) _
 have hs0:w.heap.size<w0.heap.size:=by rw [← hw0];simp
 have HA:Hid (∀ W,Below w0.heap.size w0 W→Qio W w.heap.size 0 p∧Below w.heap.size w W):=fun W hW=>
  ⟨(by rw [← hw0];exact Qio.new w p _:Qio w0 w.heap.size 0 p).below hW hs0,B0.trans (hW.mono (by omega))⟩
 have HLf:Hid (∀ code W,Below w0.heap.size w0 W→Calls prog 59 #[.string code,.pointer (some ⟨B1,0,none⟩),.pointer (some ⟨B2,0,none⟩)] W fun e w'=>e=.returned (chE (Qaa c code))∧Below w0.heap.size w0 w'):=fun code W hW=>by
  refine (Qdd c code B1 B2 W ((hL.below B0).below hW)).mono ?_;rintro e w' ⟨rfl,hb⟩;exact ⟨rfl,hW.trans (hb.mono hW.size)⟩
 obtain ⟨res,hres⟩:∃ res,chE (Qdz c p)=res:=⟨_,rfl⟩;have Hres:Hid (chE (Qdz c p)=res):=hres;rw [hres];have HW0:Hid (w.alloc (.cells p.cells 93)=w0):=hw0;clear hres hL hw0 B0;obtain ⟨ref,en,fr,tw,cu,am,fs,pr⟩:=p;obtain ⟨⟨d0,d1,d2,d3,d4,d5,d6,d7⟩,_⟩:=HA.out w0 (Below.refl _ _);simp only [Pn.cells,Nat.zero_add] at HW0 HA d0 d1 d2 d3 d4 d5 d6 d7 ⊢;have HF:Hid (Calls _ _ _ _ _):=HLf.out fr w0 (Below.refl _ _)
 have HR0:Hid (chE (if Qaa c fr≠0 then Qaa c fr else if Qaa c tw≠0 then Qaa c tw else if fr=tw then 8 else 0)=res):=Hres.out
 clear Hres;by_cases c1:Qaa c fr≠0
 ·have er:res=chE (Qaa c fr):=by rw [← HR0.out,if_pos c1]
  rw [Qae c1] at HF er;subst er;clear HR0 HLf;generalize Qaa c fr=z at *
  go_enter func86,ntmps86
  go_upto_region 1 with fail
  rw [HW0.out];clear HW0;go_wp2_with (go_at_fn 59;refine HF.out.mono ?_;rintro e w' ⟨rfl,hb'⟩);go_ret;exact ⟨rfl,(HA.out _ hb').2⟩
 have c1':=Decidable.of_not_not c1;rw [c1',Qaj] at HF;have HR1:Hid (chE (if Qaa c tw≠0 then Qaa c tw else if fr=tw then 8 else 0)=res):=by
  have:=HR0.out;rw [if_neg c1] at this;exact this
 clear HR0 c1 c1';go_enter func86,ntmps86
 go_upto_region 1 with fail
 rw [HW0.out];clear HW0;go_wp2_with fail;go_at_fn 59
 refine HF.out.mono ?_;rintro e w1 ⟨rfl,hb1⟩;clear HF d0 d1 d2 d3 d4 d5 d6 d7;obtain ⟨⟨d0,d1,d2,d3,d4,d5,d6,d7⟩,_⟩:=HA.out w1 hb1;simp only [Nat.zero_add] at d0 d1 d2 d3 d4 d5 d6 d7;have HF:Hid (Calls _ _ _ _ _):=HLf.out tw w1 hb1;clear HLf hb1;by_cases c2:Qaa c tw≠0
 ·have er:res=chE (Qaa c tw):=by rw [← HR1.out,if_pos c2]
  rw [Qae c2] at HF er;subst er;clear HR1;go_wp2_with (go_at_fn 59;refine HF.out.mono ?_;rintro e w' ⟨rfl,hb'⟩);go_ret;exact ⟨rfl,(HA.out _ hb').2⟩
 have c2':=Decidable.of_not_not c2;rw [c2',Qaj] at HF;have HR2:Hid (chE (if fr=tw then 8 else 0)=res):=by
  have:=HR1.out;rw [if_neg c2] at this;exact this
 clear HR1 c2 c2';go_wp2_with fail;go_at_fn 59
 refine HF.out.mono ?_;rintro e w2 ⟨rfl,hb2⟩;clear HF d0 d1 d2 d3 d4 d5 d6 d7;obtain ⟨⟨d0,d1,d2,d3,d4,d5,d6,d7⟩,hbw⟩:=HA.out w2 hb2;simp only [Nat.zero_add] at d0 d1 d2 d3 d4 d5 d6 d7;clear HA hb2;by_cases c3:fr=tw
 ·have er:res=chE 8:=by rw [← HR2.out,if_pos c3]
  rw [Qae (by decide)] at er
  subst er;subst c3;clear HR2;go_wp2;go_ret;exact ⟨rfl,hbw⟩
 ·have er:res=chE 0:=by rw [← HR2.out,if_neg c3]
  rw [Qaj] at er;subst er;have c3':=QeB c3;clear HR2;go_wp2;go_ret;exact ⟨rfl,hbw⟩
set_option maxHeartbeats 8000000 in
theorem Qh0 (a a2:Option Addr) (cap cap2:Nat) (c:List Ac) (l:List Pn) (w:World) (h:QbJ w a c cap) (hl:Qe6 w a2 l cap2) (hll:l.length≤9223372036854775807) :
  Calls prog 37 #[.slice a c.length cap,.slice a2 l.length cap2] w fun e w'=>e=.returned (chE (QaW c l))∧Below w.heap.size w w':=by
 by_cases c0:Qat c≠0
 ·have HC:Hid (Calls _ _ _ _ _):=QaS a cap c w h c0;have e0:QaW c l=Qat c:=by unfold QaW;rw [if_pos c0]
  rw [e0];rw [Qae c0] at HC ⊢;clear h hl e0 c0;generalize Qat c=z at *
  go_enter func37,ntmps37
  go_wp2_with (go_at_call 22;refine HC.out.mono ?_;rintro e w1 ⟨rfl,hb1⟩);go_ret;exact ⟨rfl,hb1⟩
 have HC:Hid (Calls _ _ _ _ _):=Qbe a cap c w h (Decidable.of_not_not c0);obtain ⟨res,hres⟩:∃ res,chE (QaW c l)=res:=⟨_,rfl⟩;have HR1:Hid (chE (if 20<l.length then 4 else Qac (Qdr c l) l.length)=res):=by
  rw [← hres];unfold QaW;rw [if_neg c0];exact rfl
 rw [hres];have HL:Hid (Qe6 w a2 l cap2):=hl;have hcap:=hl.cap;clear hres h hl c0;go_enter func37,ntmps37
 go_wp2_with fail;refine HC.out.mono ?_;rintro e w1 ⟨B1,B2,rfl,hlf,hb1⟩;have HLf:Hid (Lfs w1 B1 B2 c):=hlf;have HB1:Hid (Below w.heap.size w w1):=hb1;clear hlf hb1 HC;by_cases c1:20<l.length
 ·have er:res=chE 4:=by rw [← HR1.out,if_pos c1]
  rw [Qae (by decide)] at er
  subst er;have i1:(20:Int)<l.length:=by omega
  clear HR1;go_wp2;go_ret;exact ⟨rfl,HB1.out⟩
 have HR2:Hid (chE (Qac (Qdr c l) l.length)=res):=by
  have:=HR1.out;rw [if_neg c1] at this;exact this
 have i1:¬ (20:Int)<l.length:=by omega
 have i2:(l.length:Int)≤20:=by omega
 have i3:l.length≤20:=by omega
 clear HR1 c1 hll;go_wp2;go_loopw [25] (fun i wr=>∃ k:Nat,k≤l.length∧i=.int .i64 k∧Hid (Qac (Qdr c l) k=0)∧Hid (Below w1.heap.size w1 wr)) (fun i _=>l.length - (RowKit.intOf i).toNat)
 case atStart=>exact ⟨0,Nat.zero_le _,rfl,rfl,Below.refl _ _⟩
 case round=>
  obtain ⟨k,hk,rfl,H0,HB⟩:=hrel;by_cases hkn:k<l.length
  ·have hbw:Below w.heap.size w wr:=HB1.out.trans (HB.out.mono HB1.out.size);obtain ⟨b,off,e,hbl,hc⟩:=((HL.out).below hbw).at hkn;subst e;have HRet:Hid (∀ z,z≠0→Qdr c l k=z→res=chE z):=fun z h0 h1=>by
    rw [← HR2.out,QaC H0.out (by rw [h1];exact h0) hkn,h1]
   have HNx:Hid (Qdr c l k=0→Qac (Qdr c l) (k+1)=0):=fun h=>by rw [Qaz H0.out,h]
   obtain ⟨wa,hwa⟩:∃ wa,wr.alloc (.cells (l.getD k pn0).cells 93)=wa:=⟨_,rfl⟩;have b11:Below wr.heap.size wr wa:=by rw [← hwa];exact (Below.refl _ wr).alloc (Nat.le_refl _) _
   have BB2:Below w1.heap.size w1 wa:=HB.out.trans (b11.mono HB.out.size);have hsa:wr.heap.size<wa.heap.size:=by rw [← hwa];simp
   have hx:Qio wa wr.heap.size 0 (l.getD k pn0):=by rw [← hwa];exact Qio.new wr (l.getD k pn0) 93
   have HP:Hid (∀ W,Below wa.heap.size wa W→Qio W wr.heap.size 0 (l.getD k pn0)∧Below w1.heap.size w1 W∧Below w.heap.size w W):=fun W hW=>by
    have h3:=BB2.trans (hW.mono BB2.size);exact ⟨hx.below hW hsa,h3,HB1.out.trans (h3.mono HB1.out.size)⟩
   have HCr:Hid (∀ W,Below wa.heap.size wa W→Calls prog 83 #[.slice (some ⟨b,off,none⟩) k cap2,.string (l.getD k pn0).ref] W fun e w'=>e=.returned (chE (QcU (l.take k) (l.getD k pn0).ref))∧Below wa.heap.size wa w'):=fun W hd=>by
    have ht:=(((HL.out).below hbw).below b11).take k
    have:=checkRef_any (some ⟨b,off,none⟩) cap2 (l.take k) (l.getD k pn0).ref W (by rw [List.length_take];omega) (ht.below hd)
    rw [List.length_take,Nat.min_eq_left hk] at this;refine this.mono ?_;rintro e w' ⟨rfl,hb⟩;exact ⟨rfl,hd.trans (hb.mono hd.size)⟩
   have HEn:Hid (∀ W,Calls prog 84 #[.int .i64 (l.getD k pn0).ent] W fun e w'=>e=.returned (.bool (Qak (l.getD k pn0).ent 12))∧w'=W):=fun W=>Qbm _ W
   have HSp:Hid (∀ W,Below wa.heap.size wa W→Calls prog 85 #[.agg (l.getD k pn0).cells] W fun e w'=>e=.returned (.bool (QbG (l.getD k pn0).amt (l.getD k pn0).fst (l.getD k pn0).per))∧Below wa.heap.size wa w'):=fun W hW=>by
    refine (isSpread_any _ W).mono ?_;rintro e w' ⟨rfl,hb⟩;exact ⟨rfl,hW.trans (hb.mono hW.size)⟩
   have HAc:Hid (∀ W,Below wa.heap.size wa W→Calls prog 86 #[.agg (l.getD k pn0).cells,.func (.func 59) #[] #[.pointer (some ⟨B1,0,none⟩),.pointer (some ⟨B2,0,none⟩)]] W fun e w'=>e=.returned (chE (Qdz c (l.getD k pn0)))∧Below wa.heap.size wa w'):=fun W hW=>by
    refine (Qga c _ B1 B2 W ((HLf.out.below BB2).below hW)).mono ?_;rintro e w' ⟨rfl,hb⟩;exact ⟨rfl,hW.trans (hb.mono hW.size)⟩
   have HCu:Hid (∀ W,Below wa.heap.size wa W→Calls prog 24 #[.string (l.getD k pn0).cur] W fun e w'=>e=.returned (.bool (Qam (l.getD k pn0).cur))∧Below wa.heap.size wa w'):=fun W hW=>by
    refine (Qcu _ W).mono ?_;rintro e w' ⟨rfl,hb⟩;exact ⟨rfl,hW.trans (hb.mono hW.size)⟩
   have HE:Hid (Qdr c l k=if QcU (l.take k) (l.getD k pn0).ref≠0 then QcU (l.take k) (l.getD k pn0).ref else if (Qak (l.getD k pn0).ent 12 && QbG (l.getD k pn0).amt (l.getD k pn0).fst (l.getD k pn0).per)=false then 1 else if Qdz c (l.getD k pn0)≠0 then Qdz c (l.getD k pn0) else if Qam (l.getD k pn0).cur=false then 2 else 0):=rfl
   have HWa:Hid (wr.alloc (.cells (l.getD k pn0).cells 93)=wa):=hwa;have hx2:=hx;clear BB2 b11 hwa hx hsa hbw;generalize QcU (l.take k) (l.getD k pn0).ref=rb at *
   generalize Qdz c (l.getD k pn0)=ab at *
   generalize l.getD k pn0=p at *
   obtain ⟨ref,en,fr,tw,cu,am,fs,pr⟩:=p;obtain ⟨d0,d1,d2,d3,d4,d5,d6,d7⟩:=hc;obtain ⟨f0,f1,f2,f3,f4,f5,f6,f7⟩:=hx2;simp only [Pn.cells,Nat.zero_add] at d0 d1 d2 d3 d4 d5 d6 d7 f0 f1 f2 f3 f4 f5 f6 f7 HWa HP HCr HEn HSp HAc HCu HE;have j0:(0:Int)≤k:=by omega
   have j1:(k:Int)<l.length:=by omega
   have j2:(k:Int)≤cap2:=by omega
   go_upto_region 9 with fail
   rw [HWa.out];clear HWa d0 d1 d2 d3 d4 d5 d6 d7;by_cases c2:rb≠0
   ·have er:res=chE rb:=HRet.out rb c2 (by rw [HE.out,if_pos c2])
    rw [Qae c2] at er HCr;subst er;clear HE HRet HNx HEn HSp HAc HCu HR2;go_region_with (go_at_call 83;refine (HCr.out _ (by first | exact Below.refl _ _ | exact (Below.refl _ _).drew | exact QaE (Below.refl _ _) _)).mono ?_;rintro e w2 ⟨rfl,hb2⟩)
    have hbw2:=(HP.out _ hb2).2.2;clear HP HCr f0 f1 f2 f3 f4 f5 f6 f7 hb2;go_wp2;go_ret;exact ⟨rfl,hbw2⟩
   have c2':=Decidable.of_not_not c2;have HE2:Hid (Qdr c l k=if (Qak en 12 && QbG am fs pr)=false then 1 else if ab≠0 then ab else if Qam cu=false then 2 else 0):=by
    have:=HE.out;rw [if_neg c2] at this;exact this
   rw [c2',Qaj] at HCr;clear HE c2 c2';go_region_with (go_at_call 83;refine (HCr.out _ (by first | exact Below.refl _ _ | exact (Below.refl _ _).drew | exact QaE (Below.refl _ _) _)).mono ?_;rintro e w2 ⟨rfl,hb2⟩)
   have HB2:Hid (Below wa.heap.size wa w2):=hb2;clear f0 f1 f2 f3 f4 f5 f6 f7 HCr hb2;obtain ⟨⟨f0,f1,f2,f3,f4,f5,f6,f7⟩,_,hbw2⟩:=HP.out w2 HB2.out;simp only [Nat.zero_add] at f0 f1 f2 f3 f4 f5 f6 f7;cases u1:Qak en 12
   ·have er:res=chE 1:=HRet.out 1 (by decide) (by rw [HE2.out,u1,Bool.false_and,if_pos rfl])
    rw [Qae (by decide)] at er
    subst er;rw [u1] at HEn;clear HE2 HRet HNx HSp HAc HCu HR2;go_wp2_with (go_at_call 84;refine (HEn.out _).mono ?_;rintro e w' ⟨rfl,rfl⟩);go_ret;exact ⟨rfl,hbw2⟩
   rw [u1] at HEn HE2;have HSp2:Hid (Calls _ _ _ _ _):=HSp.out w2 HB2.out;clear HSp u1;cases u2:QbG am fs pr
   ·have er:res=chE 1:=HRet.out 1 (by decide) (by rw [HE2.out,u2,Bool.and_false,if_pos rfl])
    rw [Qae (by decide)] at er
    subst er;rw [u2] at HSp2;clear HE2 HRet HNx HAc HCu HR2;go_wp2_with fail;refine (HEn.out _).mono ?_;rintro e w' ⟨rfl,hw⟩;rw [hw];clear hw w' HEn;go_wp2_with fail;refine HSp2.out.mono ?_;rintro e w3 ⟨rfl,hb3⟩;have hbw3:=(HP.out _ hb3).2.2;clear HP HSp2 f0 f1 f2 f3 f4 f5 f6 f7 hb3 HB2 hbw2;go_wp2;go_ret;exact ⟨rfl,hbw3⟩
   rw [u2] at HSp2 HE2;have HE3:Hid (Qdr c l k=if ab≠0 then ab else if Qam cu=false then 2 else 0):=HE2.out
   clear HE2 u2;go_wp2_with fail;refine (HEn.out _).mono ?_;rintro e w' ⟨rfl,hw⟩;rw [hw];clear hw w' HEn;go_wp2_with fail;refine HSp2.out.mono ?_;rintro e w3 ⟨rfl,hb3⟩;have HB3:Hid (Below wa.heap.size wa w3):=hb3;clear f0 f1 f2 f3 f4 f5 f6 f7 HSp2 hb3 HB2 hbw2;obtain ⟨⟨f0,f1,f2,f3,f4,f5,f6,f7⟩,_,hbw3⟩:=HP.out w3 HB3.out;simp only [Nat.zero_add] at f0 f1 f2 f3 f4 f5 f6 f7;have HAc3:Hid (Calls _ _ _ _ _):=HAc.out w3 HB3.out
   clear HAc;by_cases c3:ab≠0
   ·have er:res=chE ab:=HRet.out ab c3 (by rw [HE3.out,if_pos c3])
    rw [Qae c3] at er HAc3;subst er;clear HE3 HRet HNx HCu HR2;go_wp2_with fail;refine HAc3.out.mono ?_;rintro e w4 ⟨rfl,hb4⟩;have hbw4:=(HP.out _ hb4).2.2;clear HP HAc3 f0 f1 f2 f3 f4 f5 f6 f7 hb4 HB3 hbw3;go_wp2;go_ret;exact ⟨rfl,hbw4⟩
   have c3':=Decidable.of_not_not c3;have HE4:Hid (Qdr c l k=if Qam cu=false then 2 else 0):=by
    have:=HE3.out;rw [if_neg c3] at this;exact this
   rw [c3',Qaj] at HAc3;clear HE3 c3 c3';go_wp2_with fail;refine HAc3.out.mono ?_;rintro e w4 ⟨rfl,hb4⟩;have HB4:Hid (Below wa.heap.size wa w4):=hb4;clear f0 f1 f2 f3 f4 f5 f6 f7 HAc3 hb4 HB3 hbw3;obtain ⟨⟨f0,f1,f2,f3,f4,f5,f6,f7⟩,_,_⟩:=HP.out w4 HB4.out;simp only [Nat.zero_add] at f0 f1 f2 f3 f4 f5 f6 f7;have HCu4:Hid (Calls _ _ _ _ _):=HCu.out w4 HB4.out;clear HCu;cases u3:Qam cu
   ·have er:res=chE 2:=HRet.out 2 (by decide) (by rw [HE4.out,if_pos u3])
    rw [Qae (by decide)] at er
    subst er;rw [u3] at HCu4;clear HE4 HRet HNx HR2;go_wp2_with fail;refine HCu4.out.mono ?_;rintro e w5 ⟨rfl,hb5⟩;have hbw5:=(HP.out _ hb5).2.2;clear HP HCu4 f0 f1 f2 f3 f4 f5 f6 f7 hb5 HB4;go_wp2;go_ret;exact ⟨rfl,hbw5⟩
   ·have HN:Hid (Qac (Qdr c l) (k+1)=0):=HNx.out (by rw [HE4.out,if_neg (by rw [u3];simp)])
    rw [u3] at HCu4;clear HE4 HRet HNx;go_wp2_with fail;refine HCu4.out.mono ?_;rintro e w5 ⟨rfl,hb5⟩;have HB5:Hid (Below w1.heap.size w1 w5):=(HP.out _ hb5).2.1;clear HP HCu4 f0 f1 f2 f3 f4 f5 f6 f7 hb5 HB4;go_wp2;go_roundw
    case rel=>exact ⟨k+1,by omega,by go_num,HN,HB5⟩
    case measure=>simp [RowKit.intOf];omega
  ·have ek:k=l.length:=by omega
   subst ek;have er:res=chE 0:=by rw [← HR2.out,H0.out]
   rw [Qaj] at er;subst er;have hbw:Below w.heap.size w wr:=HB1.out.trans (HB.out.mono HB1.out.size);clear HR2;go_wp2;go_ret;exact ⟨rfl,hbw⟩
end
section
open Go Go.Proofs.Tryz
section
variable {P:Program} {ops:Array Oper} {Q:Exit→Act→World→Prop} {md:Region.Mode} {T:World→Prop} {g:Nat}
def QbF (P:Program) (md:Region.Mode) (ops:Array Oper) (Q:Exit→Act→World→Prop) (g:Nat) (T:World→Prop):Nat→Array Bool→Act→World→Prop
 | 0,listed,a,w=>Region.ready md ops listed=[]∧Q .normal a w
 | fuel+1,listed,a,w=>
  (Region.ready md ops listed=[]→Q .normal a w) ∧
  ∀ i∈Region.ready md ops listed,wpOp P ops Q i (fun a' w'=>((listed.setIfInBounds i true).getD g true=false→T w')∧QbF P md ops Q g T fuel (listed.setIfInBounds i true) a' w') a w
theorem Qbq:∀ (fuel:Nat) (listed:Array Bool) (a:Act) (w:World),QbF P md ops Q g T fuel listed a w→wpAny P md ops Q fuel listed a w
 | 0,_,_,_,h=>h
 | fuel+1,_,_,_,h=>⟨h.1,fun i hi=>wpOp_mono (fun a' w' h'=>Qbq fuel _ a' w' h'.2) (h.2 i hi)⟩
theorem L_of_any:∀ (fuel:Nat) (listed:Array Bool) (a:Act) (w:World),listed.getD g true=true→wpAny P md ops Q fuel listed a w→QbF P md ops Q g T fuel listed a w
 | 0,_,_,_,_,h=>h
 | fuel+1,listed,_,_,hg,h=>⟨h.1,fun i hi=>wpOp_mono (fun a' w' h'=>by
   have hg':(listed.setIfInBounds i true).getD g true=true:=by
    by_cases e:i=g
    ·subst e;by_cases hs:i<listed.size
     ·simp [hs]
     ·simp [hs]
    ·rw [getD_set_ne true e];exact hg
   exact ⟨(fun h0=>by rw [hg'] at h0;cases h0),L_of_any fuel _ a' w' hg' h'⟩) (h.2 i hi)⟩
theorem L_first {i:Nat} {oi og:Oper} {v:Value} (hi:ops[i]? = some oi) (hgo:ops[g]? = some og) (hw:∃ e∈og.after,Region.binds md e=true∧e.on=i) (hgi:g≠i)
  (hsel:∀ (j:Nat) (o:Oper) cs b,ops[j]? = some o→o.op≠.select cs b) (hQ:∀ c a w,Q (.panic c) (a.put oi.dst v) w→Q (.panic c) a w) :
  ∀ (fuel:Nat) (listed:Array Bool) (a:Act) (w:World),
   (∀ j oj,ops[j]? = some oj→j≠i→listed.getD j true=false→(∀ e∈oj.after,Region.binds md e=true→e.on≠i)→oi.apart ops oj=true) →
   i∈Region.ready md ops listed→listed.getD g true=false→YieldsIf P ops T oi v a→T w →
   QbF P md ops Q g T fuel (listed.setIfInBounds i true) (a.put oi.dst v) w→QbF P md ops Q g T (fuel+1) listed a w:=by
 intro fuel
 induction fuel with
 | zero=>
  intro listed a w _ hr _ hy hT H;refine ⟨fun h=>(by rw [h] at hr;cases hr),fun j hj=>?_⟩
  by_cases hji:j=i
  ·subst hji;exact hy.wpOp hi hT ⟨fun _=>hT,H⟩
  ·have:=ready_mono hj hji
   rw [H.1] at this;cases this
 | succ fuel ih=>
  intro listed a w hfree hr hlg hy hT H;refine ⟨fun h=>(by rw [h] at hr;cases hr),fun j hj=>?_⟩
  by_cases hji:j=i
  ·subst hji;exact hy.wpOp hi hT ⟨fun _=>hT,H⟩
  ·have h1:=H.2 j (ready_mono hj hji);obtain ⟨hjun,oj,hoj,hall⟩:=mem_ready.1 hj;have hnot:∀ e∈oj.after,Region.binds md e=true→e.on≠i:=fun e he hb heq=>by
    have h1:=hall e he hb;have h0:=(mem_ready.1 hr).1;rw [heq] at h1;rcases Nat.lt_or_ge i listed.size with h' | h'
    ·simp [h'] at h0 h1;rw [h0] at h1;cases h1
    ·simp [Array.getElem?_eq_none h'] at h1
   have hjg:j≠g:=by
    rintro rfl;obtain ⟨e,he,hb,heq⟩:=hw;rw [hgo] at hoj;cases hoj;exact hnot e he hb heq
   have h2:=wpOp_putIf hoj (hfree j oj hoj hji hjun hnot) (fun cs b=>hsel i oi cs b hi) (fun cs b=>hsel j oj cs b hoj) hQ hy h1
   have hfree':∀ k ok,ops[k]? = some ok→k≠i→(listed.setIfInBounds j true).getD k true=false →
     (∀ e∈ok.after,Region.binds md e=true→e.on≠i)→oi.apart ops ok=true:=fun k ok hk hki hun hno=>by
    refine hfree k ok hk hki ?_ hno;by_cases hjk:j=k
    ·subst hjk;exact hjun
    ·rw [getD_set_ne true hjk] at hun;exact hun
   have hlg':(listed.setIfInBounds j true).getD g true=false:=by rw [getD_set_ne true hjg];exact hlg
   refine wpOp_mono (fun a' w' h3=>?_) h2
   have hT':T w':=h3.2.1 (by rw [getD_set_ne true hjg,getD_set_ne true (Ne.symm hgi)];exact hlg)
   refine ⟨fun _=>hT',ih (listed.setIfInBounds j true) a' w' hfree' (ready_mono hr (Ne.symm hji)) hlg' h3.1 hT' ?_⟩
   rw [Array.setIfInBounds_comm _ _ hji];exact h3.2.2
theorem L_go {fuel:Nat} {listed:Array Bool} {a:Act} {w:World} (hr:Region.ready md ops listed=[g]) (hgs:(listed.setIfInBounds g true).getD g true=true)
  (h:wpOp P ops Q g (wpAny P md ops Q fuel (listed.setIfInBounds g true)) a w):QbF P md ops Q g T (fuel+1) listed a w:=by
 refine ⟨(fun h0=>by rw [hr] at h0;simp at h0),fun i hi=>?_⟩
 rw [hr] at hi;obtain rfl:=List.mem_singleton.1 hi;exact wpOp_mono (fun a' w' h'=>⟨(fun h0=>by rw [hgs] at h0;cases h0),L_of_any fuel _ a' w' hgs h'⟩) h
theorem any_one {i fuel:Nat} {listed:Array Bool} {a:Act} {w:World} (hr:Region.ready md ops listed=[i])
  (h:wpOp P ops Q i (wpAny P md ops Q fuel (listed.setIfInBounds i true)) a w):wpAny P md ops Q (fuel+1) listed a w:=by
 refine ⟨(fun h0=>by rw [hr] at h0;simp at h0),fun j hj=>?_⟩
 rw [hr] at hj;obtain rfl:=List.mem_singleton.1 hj;exact h
theorem Qfg {i:Nat} {oi og:Oper} {v:Value} {fuel:Nat} {listed:Array Bool} {a:Act} {w:World} (hi:ops[i]? = some oi) (hgo:ops[g]? = some og)
  (hw:(og.after.any fun e=>Region.binds md e && e.on == i)=true) (hgi:g≠i)
  (hs:Region.noSelect ops=true) (hf:Region.free md ops listed i=true) (hr:(Region.ready md ops listed).contains i=true) (hlg:listed.getD g true=false)
  (hQ:∀ c a w,Q (.panic c) (a.put oi.dst v) w→Q (.panic c) a w) (hy:YieldsIf P ops T oi v a) (hT:T w)
  (h:QbF P md ops Q g T fuel (listed.setIfInBounds i true) (a.put oi.dst v) w):QbF P md ops Q g T (fuel+1) listed a w:=
 L_first hi hgo (by
  rw [Array.any_eq_true] at hw;obtain ⟨k,hk,he⟩:=hw;simp only [Bool.and_eq_true,beq_iff_eq] at he;exact ⟨og.after[k],Array.getElem_mem hk,he.1,he.2⟩) hgi (Region.noSelect_spec hs) hQ fuel listed a w (Region.free_spec hi hf) (by simpa using hr) hlg hy hT h
end
end
section
open Go Go.Proofs.Tryz
section
variable {P:Program} {ops:Array Oper} {Q:Exit→Act→World→Prop} {md:Region.Mode} {T:World→Prop} {g m:Nat}
theorem L_one {i fuel:Nat} {listed:Array Bool} {a:Act} {w:World} (hr:Region.ready md ops listed=[i])
  (h:wpOp P ops Q i (fun a' w'=>T w'∧QbF P md ops Q g T fuel (listed.setIfInBounds i true) a' w') a w):QbF P md ops Q g T (fuel+1) listed a w:=by
 refine ⟨(fun h0=>by rw [hr] at h0;simp at h0),fun j hj=>?_⟩
 rw [hr] at hj;obtain rfl:=List.mem_singleton.1 hj;exact wpOp_mono (fun a' w' h'=>⟨fun _=>h'.1,h'.2⟩) h
theorem L_two {i j fuel:Nat} {listed:Array Bool} {a:Act} {w:World} (hr:Region.ready md ops listed=[i,j])
  (h1:wpOp P ops Q i (fun a' w'=>T w'∧QbF P md ops Q g T fuel (listed.setIfInBounds i true) a' w') a w)
  (h2:wpOp P ops Q j (fun a' w'=>T w'∧QbF P md ops Q g T fuel (listed.setIfInBounds j true) a' w') a w):QbF P md ops Q g T (fuel+1) listed a w:=by
 refine ⟨(fun h0=>by rw [hr] at h0;simp at h0),fun k hk=>?_⟩
 rw [hr] at hk;rcases List.mem_cons.1 hk with rfl | hk
 ·exact wpOp_mono (fun a' w' h'=>⟨fun _=>h'.1,h'.2⟩) h1
 ·obtain rfl:=List.mem_singleton.1 hk;exact wpOp_mono (fun a' w' h'=>⟨fun _=>h'.1,h'.2⟩) h2
end
end
section
open Go Go.Proofs.Tryz
section
variable {P:Program} {ops:Array Oper} {Q:Exit→Act→World→Prop} {md:Region.Mode} {T:World→Prop} {g:Nat}
theorem L_firstC {i:Nat} {oi:Oper} {v:Value} {C:List Nat} (hi:ops[i]? = some oi) (hC:∀ k∈C,∃ ok,ops[k]? = some ok∧∃ e∈ok.after,Region.binds md e=true∧(e.on=i∨e.on∈C)) (hgC:g∈C) (hgi:g≠i)
  (hsel:∀ (j:Nat) (o:Oper) cs b,ops[j]? = some o→o.op≠.select cs b) (hQ:∀ c a w,Q (.panic c) (a.put oi.dst v) w→Q (.panic c) a w) :
  ∀ (fuel:Nat) (listed:Array Bool) (a:Act) (w:World),
   (∀ j oj,ops[j]? = some oj→j≠i→listed.getD j true=false→(∀ e∈oj.after,Region.binds md e=true→e.on≠i)→oi.apart ops oj=true) →
   i∈Region.ready md ops listed→(∀ k∈C,listed.getD k true=false)→YieldsIf P ops T oi v a→T w →
   QbF P md ops Q g T fuel (listed.setIfInBounds i true) (a.put oi.dst v) w→QbF P md ops Q g T (fuel+1) listed a w:=by
 intro fuel
 induction fuel with
 | zero=>
  intro listed a w _ hr _ hy hT H;refine ⟨fun h=>(by rw [h] at hr;cases hr),fun j hj=>?_⟩
  by_cases hji:j=i
  ·subst hji;exact hy.wpOp hi hT ⟨fun _=>hT,H⟩
  ·have:=ready_mono hj hji
   rw [H.1] at this;cases this
 | succ fuel ih=>
  intro listed a w hfree hr hlC hy hT H;refine ⟨fun h=>(by rw [h] at hr;cases hr),fun j hj=>?_⟩
  by_cases hji:j=i
  ·subst hji;exact hy.wpOp hi hT ⟨fun _=>hT,H⟩
  ·have h1:=H.2 j (ready_mono hj hji);obtain ⟨hjun,oj,hoj,hall⟩:=mem_ready.1 hj;have hnot:∀ e∈oj.after,Region.binds md e=true→e.on≠i:=fun e he hb heq=>by
    have h1:=hall e he hb;have h0:=(mem_ready.1 hr).1;rw [heq] at h1;rcases Nat.lt_or_ge i listed.size with h' | h'
    ·simp [h'] at h0 h1;rw [h0] at h1;cases h1
    ·simp [Array.getElem?_eq_none h'] at h1
   have hjC:∀ k∈C,j≠k:=fun k hk hjk=>by
    obtain ⟨ok,hok,e,he,hb,ho⟩:=hC k hk;rw [← hjk,hoj] at hok;cases hok;rcases ho with ho | ho
    ·exact hnot e he hb ho
    ·have h1:=hall e he hb;have hl:=hlC _ ho;rcases Nat.lt_or_ge e.on listed.size with h' | h'
     ·simp [h'] at hl h1;rw [hl] at h1;cases h1
     ·simp [Array.getElem?_eq_none h'] at h1
   have h2:=wpOp_putIf hoj (hfree j oj hoj hji hjun hnot) (fun cs b=>hsel i oi cs b hi) (fun cs b=>hsel j oj cs b hoj) hQ hy h1
   have hfree':∀ k ok,ops[k]? = some ok→k≠i→(listed.setIfInBounds j true).getD k true=false →
     (∀ e∈ok.after,Region.binds md e=true→e.on≠i)→oi.apart ops ok=true:=fun k ok hk hki hun hno=>by
    refine hfree k ok hk hki ?_ hno;by_cases hjk:j=k
    ·subst hjk;exact hjun
    ·rw [getD_set_ne true hjk] at hun;exact hun
   have hlC':∀ k∈C,(listed.setIfInBounds j true).getD k true=false:=fun k hk=>by rw [getD_set_ne true (hjC k hk)];exact hlC k hk
   refine wpOp_mono (fun a' w' h3=>?_) h2
   have hT':T w':=h3.2.1 (by rw [getD_set_ne true (hjC g hgC),getD_set_ne true (Ne.symm hgi)];exact hlC g hgC)
   refine ⟨fun _=>hT',ih (listed.setIfInBounds j true) a' w' hfree' (ready_mono hr (Ne.symm hji)) hlC' h3.1 hT' ?_⟩
   rw [Array.setIfInBounds_comm _ _ hji];exact h3.2.2
def waits (md:Region.Mode) (ops:Array Oper) (i:Nat) (C:List Nat) (k:Nat):Bool:=match ops[k]? with
 | some ok=>ok.after.any fun e=>Region.binds md e && (e.on == i || C.contains e.on)
 | none=>false
theorem Qad (C:List Nat) {i:Nat} {oi:Oper} {v:Value} {fuel:Nat} {listed:Array Bool} {a:Act} {w:World} (hi:ops[i]? = some oi)
  (hC:C.all (waits md ops i C)=true) (hgC:C.contains g=true) (hgi:g≠i)
  (hs:Region.noSelect ops=true) (hf:Region.free md ops listed i=true) (hr:(Region.ready md ops listed).contains i=true) (hl:C.all (fun k=>!(listed.getD k true))=true)
  (hQ:∀ c a w,Q (.panic c) (a.put oi.dst v) w→Q (.panic c) a w) (hy:YieldsIf P ops T oi v a) (hT:T w)
  (h:QbF P md ops Q g T fuel (listed.setIfInBounds i true) (a.put oi.dst v) w):QbF P md ops Q g T (fuel+1) listed a w:=by
 refine L_firstC hi (fun k hk=>?_) (by simpa using hgC) hgi (Region.noSelect_spec hs) hQ fuel listed a w (Region.free_spec hi hf) (by simpa using hr) (fun k hk=>?_) hy hT h
 ·have:=List.all_eq_true.1 hC k hk
  unfold waits at this;split at this
  ·rename_i ok hok;rw [Array.any_eq_true] at this;obtain ⟨q,hq,he⟩:=this;simp only [Bool.and_eq_true,Bool.or_eq_true,beq_iff_eq,List.contains_iff_mem] at he;exact ⟨ok,hok,ok.after[q],Array.getElem_mem hq,he.1,he.2⟩
  ·cases this
 ·have:=List.all_eq_true.1 hl k hk
  simpa using this
end
end
section
open Go Go.Proofs.Tryz
section
variable {P:Program} {ops:Array Oper} {Q:Exit→Act→World→Prop} {md:Region.Mode} {T:World→Prop} {g:Nat}
theorem L_firstP {i:Nat} {oi:Oper} {v:Value} (hi:ops[i]? = some oi) (hgi:g≠i)
  (hsel:∀ (j:Nat) (o:Oper) cs b,ops[j]? = some o→o.op≠.select cs b) (hQ:∀ c a w,Q (.panic c) (a.put oi.dst v) w→Q (.panic c) a w) :
  ∀ (fuel:Nat) (listed:Array Bool) (a:Act) (w:World),
   (∀ j oj,ops[j]? = some oj→j≠i→listed.getD j true=false→(∀ e∈oj.after,Region.binds md e=true→e.on≠i)→oi.apart ops oj=true) →
   i∈Region.ready md ops listed→YieldsIf P ops (fun _=>True) oi v a→(listed.getD g true=false→T w) →
   QbF P md ops Q g T fuel (listed.setIfInBounds i true) (a.put oi.dst v) w→QbF P md ops Q g T (fuel+1) listed a w:=by
 have hset:∀ listed:Array Bool,(listed.setIfInBounds i true).getD g true=listed.getD g true:=fun listed=>getD_set_ne true (Ne.symm hgi)
 intro fuel
 induction fuel with
 | zero=>
  intro listed a w _ hr hy hT H;refine ⟨fun h=>(by rw [h] at hr;cases hr),fun j hj=>?_⟩
  by_cases hji:j=i
  ·subst hji;exact hy.wpOp hi trivial ⟨fun h=>hT (by rw [← hset];exact h),H⟩
  ·have:=ready_mono hj hji
   rw [H.1] at this;cases this
 | succ fuel ih=>
  intro listed a w hfree hr hy hT H;refine ⟨fun h=>(by rw [h] at hr;cases hr),fun j hj=>?_⟩
  by_cases hji:j=i
  ·subst hji;exact hy.wpOp hi trivial ⟨fun h=>hT (by rw [← hset];exact h),H⟩
  ·have h1:=H.2 j (ready_mono hj hji);obtain ⟨hjun,oj,hoj,hall⟩:=mem_ready.1 hj;have hnot:∀ e∈oj.after,Region.binds md e=true→e.on≠i:=fun e he hb heq=>by
    have h1:=hall e he hb;have h0:=(mem_ready.1 hr).1;rw [heq] at h1;rcases Nat.lt_or_ge i listed.size with h' | h'
    ·simp [h'] at h0 h1;rw [h0] at h1;cases h1
    ·simp [Array.getElem?_eq_none h'] at h1
   have h2:=wpOp_putIf hoj (hfree j oj hoj hji hjun hnot) (fun cs b=>hsel i oi cs b hi) (fun cs b=>hsel j oj cs b hoj) hQ hy h1
   have hfree':∀ k ok,ops[k]? = some ok→k≠i→(listed.setIfInBounds j true).getD k true=false →
     (∀ e∈ok.after,Region.binds md e=true→e.on≠i)→oi.apart ops ok=true:=fun k ok hk hki hun hno=>by
    refine hfree k ok hk hki ?_ hno;by_cases hjk:j=k
    ·subst hjk;exact hjun
    ·rw [getD_set_ne true hjk] at hun;exact hun
   refine wpOp_mono (fun a' w' h3=>?_) h2
   have hT':(listed.setIfInBounds j true).getD g true=false→T w':=fun hg=>h3.2.1 (by
    rw [Array.setIfInBounds_comm _ _ (Ne.symm hji),hset];exact hg)
   refine ⟨hT',ih (listed.setIfInBounds j true) a' w' hfree' (ready_mono hr (Ne.symm hji)) h3.1 hT' ?_⟩;rw [Array.setIfInBounds_comm _ _ hji];exact h3.2.2
theorem QaY {i:Nat} {oi:Oper} {v:Value} {fuel:Nat} {listed:Array Bool} {a:Act} {w:World} (hi:ops[i]? = some oi) (hgi:g≠i)
  (hs:Region.noSelect ops=true) (hf:Region.free md ops listed i=true) (hr:(Region.ready md ops listed).contains i=true)
  (hQ:∀ c a w,Q (.panic c) (a.put oi.dst v) w→Q (.panic c) a w) (hy:YieldsIf P ops (fun _=>True) oi v a) (hT:T w)
  (h:QbF P md ops Q g T fuel (listed.setIfInBounds i true) (a.put oi.dst v) w):QbF P md ops Q g T (fuel+1) listed a w:=
 L_firstP hi hgi (Region.noSelect_spec hs) hQ fuel listed a w (Region.free_spec hi hf) (by simpa using hr) hy (fun _=>hT) h
end
end
section
open Go Go.Proofs.Tryz
section
variable {P:Program} {ops:Array Oper} {rest:List Oper} {o:Oper} {a:Act} {w w':World} {K:Act→World→Prop} {Q:Exit→Act→World→Prop} {v:Value}
theorem QfE (d s:Operand) (t t':TypeId) (ho:o.op=.call { callee:=.builtin .append,args:=#[d,s],argTypes:=#[t,t'] }) (u z:Value) (hd:a.eval d=u) (hs:a.eval s=z)
  (hr:(Builtin.append_ #[t,t'] o.type #[u,z]).run P w=.ok v w') (h:K (a.put o.dst v) w'):o.wp P a w K Q:=by
 unfold Oper.wp execOp;simp only [ho,resolve,invoke,builtin,Sem.run_bind,Sem.run_pure,Result.andThen_ok,List.map_toArray,List.map_cons,List.map_nil,hd,hs,hr];exact h
theorem wpList_append_run (hgd:o.guard=none) (d s:Operand) (t t':TypeId) (ho:o.op=.call { callee:=.builtin .append,args:=#[d,s],argTypes:=#[t,t'] }) (u z:Value) (hd:a.eval d=u) (hs:a.eval s=z)
  (hr:(Builtin.append_ #[t,t'] o.type #[u,z]).run P w=.ok v w') (h:wpList P ops Q rest (a.put o.dst v) w'):wpList P ops Q (o :: rest) a w:=
 wpList_plain hgd fun _ hK=>QfE d s t t' ho u z hd hs hr (hK _ _ h)
theorem Qal {id:Nat} (hm:P.follows .mixedOrders=true) (h:wpAny P .any ops Q ops.size (Array.replicate ops.size false) a w.drew):(Code.region id ops true).wp P Q a w:=wp_region_any hm h
theorem QaP {S:World→Prop} (hw:Region.wanted o (yielded ops a.tmps)=true) (t:TypeId) (parts:Array (Nat×Operand)) (ho:o.op=.build t parts) (ps:Array (Nat×Value)) (hp:(parts.map fun (i,x)=>(i,a.eval x))=ps) (hr:∀ w,S w→(Instr.build t ps).run P w=.ok v w):YieldsIf P ops S o v a:=
 .inl ⟨hw,fun w hS=>by
  unfold execOp;simp only [ho,Sem.run_bind,Sem.run_pure,Result.andThen_ok,hp,hr w hS]⟩
end
end
end Go.Proofs.YtibhgngboljhfaaGreatDoor
