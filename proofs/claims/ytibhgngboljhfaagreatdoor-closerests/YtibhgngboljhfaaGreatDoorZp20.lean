/-
  Part of a proof (see the last text).
-/
import Derived.Test.YtibhgngboljhfaaGreatDoorZp19
set_option linter.unusedVariables false
set_option linter.unusedSimpArgs false
set_option maxRecDepth 100000
namespace Go.Proofs.YtibhgngboljhfaaGreatDoor
section
open Go.RowKit Go.Lib Math Go.Proofs.Tryz
theorem Qib (x0:ByteArray) (x1 x2:Int) (a:Option Addr) (n c:Nat) (w:World):(Instr.build 38 #[(0,.string x0),(1,.int .i64 x1),(2,.int .i64 x2),(3,.slice a n c)]).run prog w=.ok (.agg #[.string x0,.int .i64 x1,.int .i64 x2,.slice a n c]) w:=by
 go_simp
def Kp (W:World) (G P:Nat) (h0 h1:Int) (p:Pr):Prop:=Qbi W G h0 h1∧W.heap[P]? = some (.cells p.cells 105 (0,0))
theorem Kp.below {W W':World} {G P:Nat} {h0 h1:Int} {p:Pr} (h:Kp W G P h0 h1 p) (hb:Below W.heap.size W W'):Kp W' G P h0 h1 p:=
 ⟨h.1.below hb h.1.lt,(hb.block P (Array.getElem?_eq_some_iff.1 h.2).1).trans h.2⟩
theorem Kp.c4 {W:World} {G P:Nat} {h0 h1:Int} {p:Pr} (h:Kp W G P h0 h1 p):W.cell? ⟨P,4,none⟩=some (.string p.dif):=by
 have:=h.2
 simp [World.cell?,this,Pr.cells]
theorem Kp.grown {W W1:World} {G P n0:Nat} {h0 h1:Int} {p:Pr} {v:Value} {L:List Je} (h:Kp W G P h0 h1 p) (hm:Qbf W n0 v L) (hg:W.grownBy W1 v.ownBlock):Kp W1 G P h0 h1 p:=by
 refine ⟨(hg.block G (Array.getElem?_eq_some_iff.1 h.1).1 fun e=>?_).trans h.1,(hg.block P (Array.getElem?_eq_some_iff.1 h.2).1 fun e=>?_).trans h.2⟩
 ·obtain ⟨cs,h2⟩:=QgP hm G e.symm;have h3:W.heap[G]? = some (.cells #[.int .i64 h0,.int .i64 h1] 185 (0,0)):=h.1;rw [h3] at h2;cases h2
 ·obtain ⟨cs,h2⟩:=QgP hm P e.symm;rw [h.2] at h2;cases h2
set_option maxHeartbeats 8000000 in
theorem peEntries_any (a a2 a3:Option Addr) (cap cap2 cap3:Nat) (c:List Ac) (l:List Pr) (b:List Bl) (cur:ByteArray) (pe:Int) (w:World) (h:QbJ w a c cap) (hl:QfP w a2 l cap2) (hll:l.length≤9223372036854775807) (hb:Qcp w a3 b cap3) (hbl:b.length≤9223372036854775807) :
  Calls prog 79 #[.slice a c.length cap,.slice a2 l.length cap2,.slice a3 b.length cap3,.string cur,.int .i64 pe] w (Qew c l b cur pe w):=by
 have HErr:Hid (∀ z W,z≠0→Qcq c l b cur pe=z→Below w.heap.size w W→Qew c l b cur pe w (.returned (.tuple #[.slice none 0 0,.iface 68 (.int .i64 z)])) W):=fun z W h0 h1 h2=>by
  refine ⟨h2,fun _=>by rw [h1,Qae h0],fun e=>absurd (h1.symm.trans e) h0⟩
 have HOk:Hid (∀ v L W,Qcq c l b cur pe=0→Below w.heap.size w W→Qbp W w.heap.size v L→L.map Je.ep=QfO b cur pe l (l.length*2)→L.length≤40→Qew c l b cur pe w (.returned (.tuple #[v,.nilIface])) W):=fun v L W h1 h2 h3 h4 h5=>
  ⟨h2,fun h0=>absurd h1 h0,fun _=>⟨v,L,rfl,h3,h4,h5⟩⟩
 have HC:Hid (Calls _ _ _ _ _):=Qis a a2 cap cap2 c l w h hl hll;by_cases c1:QaX c l≠0
 ·have HE:Hid (∀ W,Below w.heap.size w W→Qew c l b cur pe w (.returned (.tuple #[.slice none 0 0,.iface 68 (.int .i64 (QaX c l))])) W):=fun W hW=>HErr.out _ W c1 (by unfold Qcq;rw [if_pos c1]) hW
  rw [Qae c1] at HC;clear h hl hb HErr HOk;generalize QaX c l=z at *
  go_enter func79,ntmps79
  go_wp2_with fail;refine HC.out.mono ?_;rintro e w1 ⟨rfl,hb1⟩;have HB1:Hid (Below w.heap.size w w1):=hb1;clear hb1;go_wp2;go_ret2;exact HE.out _ HB1.out
 have c1':=Decidable.of_not_not c1;rw [c1',Qaj] at HC;have l20:=(QdQ c1').2.1;have HLe:Hid (∀ W,Below w.heap.size w W→Calls prog 126 #[.slice a2 l.length cap2,.slice a3 b.length cap3,.string cur] W (Qcc l b cur W)):=fun W hW=>left_any a2 a3 cap2 cap3 l b cur W (hl.below hW) hll (hb.below hW) hbl
 by_cases c2:lfE l b cur≠0
 ·have HE:Hid (∀ W,Below w.heap.size w W→Qew c l b cur pe w (.returned (.tuple #[.slice none 0 0,.iface 68 (.int .i64 (lfE l b cur))])) W):=fun W hW=>HErr.out _ W c2 (by unfold Qcq;rw [if_neg c1,if_pos c2]) hW
  have HLf:Hid (∀ W,Below w.heap.size w W→Calls prog 126 #[.slice a2 l.length cap2,.slice a3 b.length cap3,.string cur] W fun e w'=>e=.returned (.tuple #[.slice none 0 0,.iface 68 (.int .i64 (lfE l b cur))])∧Below w.heap.size w w'):=fun W hW=>by
   refine (HLe.out W hW).mono ?_;rintro e w' ⟨y1,y2,_⟩
   have:=y2 c2
   rw [Qbb c2] at this;exact ⟨this,hW.trans (y1.mono hW.size)⟩
  clear h hl hb HErr HOk HLe;generalize lfE l b cur=z at *
  go_enter func79,ntmps79
  go_wp2_with fail;refine HC.out.mono ?_;rintro e w1 ⟨rfl,hb1⟩;go_wp2_with fail;refine (HLf.out w1 hb1).mono ?_;rintro e w2 ⟨rfl,hb2⟩;have HB1:Hid (Below w.heap.size w w2):=hb2;clear hb1 hb2 HLf HC;go_wp2;go_ret2;exact HE.out _ HB1.out
 have c2':=Decidable.of_not_not c2;have HLf:Hid (∀ W,Below w.heap.size w W→Calls prog 126 #[.slice a2 l.length cap2,.slice a3 b.length cap3,.string cur] W fun e w'=>∃ g,e=.returned (.tuple #[.slice (some ⟨g,0,none⟩) l.length l.length,.nilIface])∧Below w.heap.size w w'):=fun W hW=>by
  refine (HLe.out W hW).mono ?_;rintro e w' ⟨y1,_,y3⟩;obtain ⟨g,rfl,_,_⟩:=y3 c2';exact ⟨g,rfl,hW.trans (y1.mono hW.size)⟩
 have HPe:Hid (∀ W,Calls prog 31 #[.int .i64 pe] W fun e w'=>e=.returned (.bool (Qak pe 120))∧w'=W):=fun W=>QaM pe W
 cases c3:Qak pe 120
 ·have HE:Hid (∀ W,Below w.heap.size w W→Qew c l b cur pe w (.returned (.tuple #[.slice none 0 0,.iface 68 (.int .i64 1)])) W):=fun W hW=>HErr.out _ W (by decide) (by unfold Qcq;rw [if_neg c1,if_neg c2,if_pos c3]) hW
  rw [c3] at HPe;clear h hl hb HErr HOk HLe;go_enter func79,ntmps79
  go_wp2_with fail;refine HC.out.mono ?_;rintro e w1 ⟨rfl,hb1⟩;go_wp2_with fail;refine (HLf.out w1 hb1).mono ?_;rintro e w2 ⟨g,rfl,hb2⟩;go_wp2_with fail;refine (HPe.out _).mono ?_;rintro e w' ⟨rfl,hw⟩;rw [hw];clear hw w' HPe;have HB1:Hid (Below w.heap.size w w2):=hb2;clear hb1 hb2 HLf HC;go_wp2;go_ret2;exact HE.out _ HB1.out
 rw [c3] at HPe;have HB0:Hid (Qcq c l b cur pe=Qac (Qiw b cur l) (l.length*2)):=by unfold Qcq;rw [if_neg c1,if_neg c2,c3,if_neg (by simp)];exact rfl
 have HPr:Hid (QfP w a2 l cap2):=hl;have HHad:Hid (∀ (p:Pr) W,Below w.heap.size w W→Calls prog 127 #[.agg p.cells,.slice a3 b.length cap3,.string cur] W fun e w'=>e=.returned (.agg #[.int .i64 (Qca b p.ea p.one cur),.int .i64 (Qca b p.eb p.oth cur)])∧Below W.heap.size W w'):=fun p W hW=>had_any a3 cap3 p b cur W (by omega) (hb.below hW)
 obtain ⟨i0,hi,hz0,hz1,hz2⟩:=info_parts Qc0;have l20i:(l.length:Int)≤20:=by omega
 clear h hl hb hll c1 c1' c2 c2' c3 HLe;go_enter func79,ntmps79
 go_wp2_with fail;refine HC.out.mono ?_;rintro e w1 ⟨rfl,hb1⟩;go_wp2_with fail;refine (HLf.out w1 hb1).mono ?_;rintro e w2 ⟨gl0,rfl,hb2⟩;go_wp2_with fail;refine (HPe.out _).mono ?_;rintro e w' ⟨rfl,hw⟩;rw [hw];clear hw w' HPe;have HB2:Hid (Below w.heap.size w w2):=hb2;clear hb1 hb2 HLf HC;go_wp2;go_loopw [15,44] (fun v i wr=>∃ (k:Nat) (L:List Je),k≤l.length∧i=.int .i64 k∧Hid (Qbp wr w.heap.size v L∧L.map Je.ep=QfO b cur pe l (k*2)∧L.length≤k*2)∧Hid (Qac (Qiw b cur l) (k*2)=0)∧Hid (Below w.heap.size w wr)) (fun _ i _=>l.length - (RowKit.intOf i).toNat)
 case atStart=>exact ⟨0,[],Nat.zero_le _,rfl,⟨Qbp.nil _ _,rfl,Nat.le_refl _⟩,rfl,HB2⟩
 case round=>
  obtain ⟨k,L,hk,rfl,HM,H0,HB⟩:=hrel;obtain ⟨av,cv,ev,_⟩:=HM.out.1.isJs;subst ev;by_cases hkn:k<l.length
  ·obtain ⟨bb,off,e,hblt,hcc⟩:=((HPr.out).below HB.out).some hkn;subst e;have hc:=hcc k hkn;obtain ⟨p,hp⟩:∃ p,l.getD k pr0=p:=⟨_,rfl⟩;rw [hp] at hc;obtain ⟨wa,hwa⟩:∃ wa,wr.alloc (.cells p.cells 105)=wa:=⟨_,rfl⟩;have b11:Below wr.heap.size wr wa:=by rw [← hwa];exact (Below.refl _ wr).alloc (Nat.le_refl _) _
   have BB2:Below w.heap.size w wa:=HB.out.trans (b11.mono HB.out.size);have hsa:wr.heap.size<wa.heap.size:=by rw [← hwa];simp
   have hx:Qhd wa wr.heap.size 0 p:=by rw [← hwa];exact Qhd.new wr p 105
   have HHa:Hid (Calls _ _ _ _ _):=HHad.out p wa BB2;have HSi:Hid (∀ W,Calls prog 89 #[.agg p.cells] W fun e w'=>e=.returned (.agg #[.int .i64 p.ea,.string p.one,.int .i64 p.eb,.string p.oth])∧Below W.heap.size W w'):=fun W=>Qin p W
   obtain ⟨h0,e0⟩:∃ x,Qca b p.ea p.one cur=x:=⟨_,rfl⟩;obtain ⟨h1,e1⟩:∃ x,Qca b p.eb p.oth cur=x:=⟨_,rfl⟩;rw [e0,e1] at HHa;have HE0:Hid (Qca b (l.getD k pr0).ea (l.getD k pr0).one cur=h0):=by rw [hp];exact e0
   have HE1:Hid (Qca b (l.getD k pr0).eb (l.getD k pr0).oth cur=h1):=by rw [hp];exact e1
   have HLk:Hid (l.getD k pr0=p):=hp;have HWa:Hid (wr.alloc (.cells p.cells 105)=wa):=hwa;have hxb:wa.heap[wr.heap.size]? = some (.cells p.cells 105 (0,0)):=by rw [← hwa];unfold World.alloc;simp only [Array.getElem?_push_size]
   have HX:Hid (∀ W,Below wa.heap.size wa W→Qhd W wr.heap.size 0 p∧Below w.heap.size w W∧Below wr.heap.size wr W∧W.heap[wr.heap.size]? = some (.cells p.cells 105 (0,0))):=fun W hW=>⟨hx.below hW hsa,BB2.trans (hW.mono BB2.size),b11.trans (hW.mono b11.size),(hW.block _ hsa).trans hxb⟩
   have hx2:=hx;clear hcc hp hwa b11 BB2 hsa hx e0 e1 hxb;obtain ⟨x0,x1,x2,x3,x4⟩:=p;obtain ⟨d0,d1,d2,d3,d4⟩:=hc;obtain ⟨f0,f1,f2,f3,f4⟩:=hx2;obtain ⟨P,hP⟩:∃ P,wr.heap.size=P:=⟨_,rfl⟩;have HPP:Hid (wr.heap.size=P):=hP;rw [hP] at f0 f1 f2 f3 f4;simp only [Pr.cells,Nat.zero_add] at d0 d1 d2 d3 d4 f0 f1 f2 f3 f4 HWa HX HHa HSi;have j0:(0:Int)≤k:=by omega
   have j1:(k:Int)<l.length:=by omega
   clear hP;go_upto_region 13 with fail
   rw [HWa.out]
   try rw [HPP.out]
   clear HWa d0 d1 d2 d3 d4;go_wp2_with fail;refine HHa.out.mono ?_;rintro e w3 ⟨rfl,hb3⟩;clear f0 f1 f2 f3 f4 HHa;obtain ⟨w4,hw4⟩:∃ w4,w3.alloc (.cells #[.int .i64 h0,.int .i64 h1] 185)=w4:=⟨_,rfl⟩;obtain ⟨G,hG⟩:∃ G,w3.heap.size=G:=⟨_,rfl⟩;have ht4:Qbi w4 G h0 h1:=by rw [← hw4,← hG];exact Qbi.new _ _ _
   have hb4:Below wa.heap.size wa w4:=by rw [← hw4];exact hb3.alloc hb3.size _
   have HW4:Hid (w3.alloc (.cells #[.int .i64 h0,.int .i64 h1] 185)=w4):=hw4;have HGG:Hid (w3.heap.size=G):=hG;have HF:Hid (∀ W,Below w4.heap.size w4 W→Kp W G P h0 h1 ⟨x0,x1,x2,x3,x4⟩∧Qhd W P 0 ⟨x0,x1,x2,x3,x4⟩∧Below w.heap.size w W∧Below wr.heap.size wr W):=fun W hW=>by
    have h:=hb4.trans (hW.mono hb4.size);obtain ⟨q1,q2,q3,q4⟩:=HX.out W h;rw [HPP.out] at q1 q4;exact ⟨⟨ht4.below hW ht4.lt,q4⟩,q1,q2,q3⟩
   clear hb3 ht4 hb4 hw4 hG HX;obtain ⟨_,⟨f0,f1,f2,f3,f4⟩,_⟩:=HF.out w4 (Below.refl _ _);simp only [Nat.zero_add] at f0 f1 f2 f3 f4;go_upto_region 14 with fail
   rw [HW4.out]
   try rw [HGG.out]
   clear HW4;go_wp2_with fail;refine (HSi.out w4).mono ?_;rintro e w5 ⟨rfl,hb5⟩;clear f0 f1 f2 f3 f4 HSi;have HM5:Hid (Qbp w5 w.heap.size (.slice av L.length cv) L∧L.map Je.ep=QfO b cur pe l (k*2+0)∧L.length≤k*2+0):=⟨HM.out.1.below (HF.out w5 hb5).2.2.2,HM.out.2⟩;have HB5:Hid (Below w.heap.size w w5):=(HF.out w5 hb5).2.2.1;have HK5:Hid (Kp w5 G P h0 h1 ⟨x0,x1,x2,x3,x4⟩):=(HF.out w5 hb5).1;have H05:Hid (Qac (Qiw b cur l) (k*2+0)=0):=H0
   clear HF hb5 HM H0 HB HHad;have ix0:∀ W,(Instr.index 142 (.agg #[.int .i64 x0,.string x2,.int .i64 x1,.string x3]) (.int .i64 0)).run prog W=.ok (.agg #[.int .i64 x0,.string x2]) W:=fun _=>by kernel_rfl
   have ix1:∀ W,(Instr.index 142 (.agg #[.int .i64 x0,.string x2,.int .i64 x1,.string x3]) (.int .i64 1)).run prog W=.ok (.agg #[.int .i64 x1,.string x3]) W:=fun _=>by kernel_rfl
   go_wp2;obtain ⟨wE,hwE⟩:∃ wE,wE=wr:=⟨_,rfl⟩;subst hwE;go_loopw [15,55] (fun v j wr=>∃ (q:Nat) (L:List Je),q≤2∧j=.int .i64 q∧Hid (Qbp wr w.heap.size v L∧L.map Je.ep=QfO b cur pe l (k*2+q)∧L.length≤k*2+q)∧Hid (Qac (Qiw b cur l) (k*2+q)=0)∧Hid (Kp wr G P h0 h1 ⟨x0,x1,x2,x3,x4⟩)∧Hid (Below w.heap.size w wr)) (fun _ j _=>2 - (RowKit.intOf j).toNat)
   case atStart=>exact ⟨0,L,by omega,rfl,HM5,H05,HK5,HB5⟩
   case round=>
   obtain ⟨q,L,hq,rfl,HM,H0,HK,HB⟩:=hrel;clear HM5 H05 HK5;rcases (by omega:q=0∨q=1∨q=2) with rfl | rfl | rfl
   ·have HI:Hid (phas b cur l (k*2+0)=h0):=by unfold phas;rw [(psd_even l k).2];exact HE0.out
    have HPd:Hid ((psd l (k*2+0))=⟨x0,x2⟩∧(pdA l (k*2+0)).dif=x4):=by rw [(psd_even l k).1,(psd_even l k).2,HLk.out];exact ⟨rfl,rfl⟩
    have HEq:Hid (peE b cur pe l (k*2+0)=if h0=0 then [] else [⟨refP k 0,x0,pe,mvL h0 cur x2 x4⟩]):=by
     unfold peE;rw [HI.out,HPd.out.1,HPd.out.2,show (k*2+0) / 2=k by omega,show (k*2+0) % 2=0 by omega]
     exact rfl
    have HAt:Hid (Qiw b cur l (k*2+0)=if Qas h0=true then 0 else 1):=by unfold Qiw;rw [HI.out];exact rfl
    have HNx:Hid (QfO b cur pe l (k*2+0+1)=QfO b cur pe l (k*2+0)++peE b cur pe l (k*2+0)):=peTo_next b cur pe l _;have HBd:Hid (Qiw b cur l (k*2+0)=0→Qac (Qiw b cur l) (k*2+0+1)=0):=fun h=>by rw [Qaz H0.out,h]
    have HBr:Hid (Qiw b cur l (k*2+0)=1→Qcq c l b cur pe=1):=fun h=>by
     rw [HB0.out,QaC H0.out (by rw [h];decide) (by omega),h]
    obtain ⟨av,cv,ev,_⟩:=HM.out.1.isJs;subst ev;obtain ⟨Z,hZ⟩:∃ Z,wr.alloc (.cells #[.int .i64 x0,.string x2] 141)=Z:=⟨_,rfl⟩;have hbZ:Below wr.heap.size wr Z:=by rw [← hZ];exact (Below.refl _ _).alloc (Nat.le_refl _) _
    have hsz:wr.heap.size<Z.heap.size:=by rw [← hZ];simp
    have hst:SdAt Z wr.heap.size 0 ⟨x0,x2⟩:=by rw [← hZ];exact SdAt.new wr ⟨x0,x2⟩ 141
    have HB6:Hid (Below w.heap.size w Z):=HB.out.trans (hbZ.mono HB.out.size);have HKZ:Hid (Kp Z G P h0 h1 ⟨x0,x1,x2,x3,x4⟩):=HK.out.below hbZ;have HCl:Hid (∀ W,Below Z.heap.size Z W→W.cell? ⟨G,0,none⟩=some (.int .i64 h0)∧W.cell? ⟨wr.heap.size,0,none⟩=some (.int .i64 x0)∧W.cell? ⟨wr.heap.size,1,none⟩=some (.string x2)∧W.cell? ⟨P,4,none⟩=some (.string x4)):=fun W hW=>by
     have t:=HKZ.out.below hW;have s:=hst.below hW hsz;exact ⟨t.1.c0,s.c0,s.c1,t.c4⟩
    have HBw:Hid (∀ W,Below Z.heap.size Z W→Kp W G P h0 h1 ⟨x0,x1,x2,x3,x4⟩∧Below w.heap.size w W∧Below wr.heap.size wr W):=fun W hW=>⟨HKZ.out.below hW,HB6.out.trans (hW.mono HB6.out.size),hbZ.trans (hW.mono hbZ.size)⟩
    have HZ:Hid (wr.alloc (.cells #[.int .i64 x0,.string x2] 141)=Z):=hZ;obtain ⟨f0,f1,f2,f3⟩:=HCl.out Z (Below.refl _ _);obtain ⟨R,hR⟩:∃ R,wr.heap.size=R:=⟨_,rfl⟩;rw [hR] at f1 f2 HCl;have HRR:Hid (wr.heap.size=R):=hR;clear hbZ hsz hst hZ HI HPd hR;go_upto_region 17 with fail
    rw [HZ.out]
    try rw [HRR.out]
    clear HZ;by_cases g0:h0=0
    ·have HM2:Hid (Qbp Z w.heap.size (.slice av L.length cv) L∧L.map Je.ep=QfO b cur pe l (k*2+0+1)∧L.length≤k*2+0+1):=by
      obtain ⟨m1,m2,m3⟩:=HM.out;refine ⟨m1.below (HBw.out Z (Below.refl _ _)).2.2,?_,by omega⟩
      rw [HNx.out,HEq.out,if_pos g0,List.append_nil,m2]
     have HN:Hid (Qac (Qiw b cur l) (k*2+0+1)=0):=HBd.out (by rw [HAt.out,g0];exact rfl)
     rw [g0] at f0;clear HBd HBr HEq HAt HNx HM HErr HCl HBw;go_wp2;go_roundw
     case rel=>exact ⟨1,L,by omega,rfl,HM2,HN,HKZ,HB6⟩
     case measure=>simp [RowKit.intOf]
    have g0':(h0 == 0)=false:=by rw [beq_eq_false_iff_ne];exact g0
    have HAm:Hid (∀ W,Calls prog 108 #[.int .i64 h0] W fun e w'=>e=.returned (.bool (Qas h0))∧w'=W):=fun W=>Qbl h0 W
    cases g1:Qas h0
    ·have HE:Hid (Qew c l b cur pe w (.returned (.tuple #[.slice none 0 0,.iface 68 (.int .i64 1)])) Z):=HErr.out 1 Z (by decide) (HBr.out (by rw [HAt.out,g1];exact rfl)) (HBw.out Z (Below.refl _ _)).2.1
     rw [g1] at HAm;clear HBd HBr HEq HAt HNx HM HErr HCl HBw;go_wp2_with fail;refine (HAm.out _).mono ?_;rintro e w' ⟨rfl,hw⟩;rw [hw];clear hw w' HAm;go_wp2;go_ret2;exact HE.out
    rw [g1] at HAm;have HN:Hid (Qac (Qiw b cur l) (k*2+0+1)=0):=HBd.out (by rw [HAt.out,g1];exact rfl)
    have HP2:Hid (QfO b cur pe l (k*2+0+1)=QfO b cur pe l (k*2+0)++[⟨refP k 0,x0,pe,mvL h0 cur x2 x4⟩]):=by
     rw [HNx.out,HEq.out,if_neg g0];exact rfl
    have hamt2:=Qa8.1 g1;unfold Qaq at hamt2;have HBg:Hid (∀ W,Calls prog 128 #[.int .i64 h0,.string cur,.string x2,.string x4] W fun e w'=>∃ adr cap,e=.returned (.slice adr 2 cap)∧Qab w' W.heap.size (.slice adr 2 cap) (mvL h0 cur x2 x4)∧Below W.heap.size W w'):=fun W=>moved_any h0 cur x2 x4 W (by omega) (by omega)
    have HIt:Hid (∀ W,Calls prog 34 #[.int .i64 ((k:Nat):Int)] W fun e w'=>e=.returned (.string (QiG k))∧w'=W):=fun W=>itoa_any k (by omega) W
    have HLen:Hid ((mvL h0 cur x2 x4).length=2):=rfl;have HRf:Hid (((⟨#[112,97,105,114,45]⟩:ByteArray)++QiG k)++⟨#[97]⟩=refP k 0):=rfl;have hab:∀ W,(Instr.slice 9 (.string ⟨#[97,98]⟩) (some (.int .i64 0)) (some (.int .i64 1)) none).run prog W=.ok (.string ⟨#[97]⟩) W:=fun _=>by kernel_rfl
    have hd1:¬ 9223372036854775807<5+(QiG k).size:=by have:=QgS k;omega
    have hd2:¬ 9223372036854775807<5+(QiG k).size+1:=by have:=QgS k;omega
    generalize mvL h0 cur x2 x4=gl at *
    clear HBd HBr HEq HAt HNx HErr g0 g1 hamt2;go_wp2_with fail;refine (HAm.out _).mono ?_;rintro e w' ⟨rfl,hw⟩;rw [hw];clear hw w' HAm;clear f0 f1 f2 f3;go_wp2_with fail;go_quiet ((go_at_call 34;exact Calls.quiet_of_same (HIt.out _)))
    rename Nat=>nq
    try rw [HRf.out]
    generalize refP k 0=RF at *
    have hdN:Below Z.heap.size Z (Z.drewN nq).drew:=(Qao (Below.refl _ Z) nq).drew;have HCell:Hid (∀ u,Below (Z.drewN nq).drew.heap.size (Z.drewN nq).drew u→u.cell? ⟨G,0,none⟩=some (.int .i64 h0)∧u.cell? ⟨R,0,none⟩=some (.int .i64 x0)∧u.cell? ⟨R,1,none⟩=some (.string x2)∧u.cell? ⟨P,4,none⟩=some (.string x4)):=fun u hu=>HCl.out u (hdN.trans hu)
    have HU1:Hid (Below w.heap.size w (Z.drewN nq).drew∧Kp (Z.drewN nq).drew G P h0 h1 ⟨x0,x1,x2,x3,x4⟩):=⟨(HBw.out _ hdN).2.1,(HBw.out _ hdN).1⟩;have HU2:Hid (Below wr.heap.size wr (Z.drewN nq).drew):=(HBw.out _ hdN).2.2;clear hdN HCl HBw HIt hab hd1 hd2;go_upto_region 21 with fail
    refine Qal (by kernel_rfl) ?_
    generalize (Z.drewN nq).drew=U at *
    refine wpAny_take (i:=0) (v:=.slice av L.length cv) rfl (by kernel_rfl) (by kernel_rfl) (by kernel_rfl) (fun _ _ _ h=>h) (Or.inl ⟨by rfl,fun w=>by go_simp⟩) ?_
    simp only [Act.put,zq0,zq1,zq2,zq3,zq4,zq5];refine wpAny_take (i:=1) (v:=.string RF) rfl (by kernel_rfl) (by kernel_rfl) (by kernel_rfl) (fun _ _ _ h=>h) (Or.inl ⟨by rfl,fun w=>by go_simp⟩) ?_
    simp only [Act.put,zq0,zq1,zq2,zq3,zq4,zq5];refine wpAny_take (i:=2) (v:=.pointer (some ⟨R,0,none⟩)) rfl (by kernel_rfl) (by kernel_rfl) (by kernel_rfl) (fun _ _ _ h=>h) (Or.inl ⟨by rfl,fun w=>by go_simp⟩) ?_
    simp only [Act.put,zq0,zq1,zq2,zq3,zq4,zq5];refine wpAny_take (i:=4) (v:=.int .i64 pe) rfl (by kernel_rfl) (by kernel_rfl) (by kernel_rfl) (fun _ _ _ h=>h) (Or.inl ⟨by rfl,fun w=>by go_simp⟩) ?_
    simp only [Act.put,zq0,zq1,zq2,zq3,zq4,zq5];refine wpAny_take (i:=5) (v:=.int .i64 0) rfl (by kernel_rfl) (by kernel_rfl) (by kernel_rfl) (fun _ _ _ h=>h) (Or.inl ⟨by rfl,fun w=>by go_simp⟩) ?_
    simp only [Act.put,zq0,zq1,zq2,zq3,zq4,zq5];refine wpAny_take (i:=6) (v:=.pointer (some ⟨G,0,none⟩)) rfl (by kernel_rfl) (by kernel_rfl) (by kernel_rfl) (fun _ _ _ h=>h) (Or.inl ⟨by rfl,fun w=>by go_simp⟩) ?_
    simp only [Act.put,zq0,zq1,zq2,zq3,zq4,zq5];refine wpAny_take (i:=8) (v:=.string cur) rfl (by kernel_rfl) (by kernel_rfl) (by kernel_rfl) (fun _ _ _ h=>h) (Or.inl ⟨by rfl,fun w=>by go_simp⟩) ?_
    simp only [Act.put,zq0,zq1,zq2,zq3,zq4,zq5];refine wpAny_take (i:=9) (v:=.pointer (some ⟨R,1,none⟩)) rfl (by kernel_rfl) (by kernel_rfl) (by kernel_rfl) (fun _ _ _ h=>h) (Or.inl ⟨by rfl,fun w=>by go_simp⟩) ?_
    simp only [Act.put,zq0,zq1,zq2,zq3,zq4,zq5];refine wpAny_take (i:=11) (v:=.pointer (some ⟨P,4,none⟩)) rfl (by kernel_rfl) (by kernel_rfl) (by kernel_rfl) (fun _ _ _ h=>h) (Or.inl ⟨by rfl,fun w=>by go_simp⟩) ?_
    simp only [Act.put,zq0,zq1,zq2,zq3,zq4,zq5];refine Qbq (g:=16) (T:=fun u=>Below U.heap.size U u) _ _ _ _ ?_
    refine Qad [16,15,14] (i:=3) (v:=.int .i64 x0) rfl (by kernel_rfl) (by kernel_rfl) (by decide) (by kernel_rfl) (by kernel_rfl) (by kernel_rfl) (by kernel_rfl) (fun _ _ _ h=>h) (Or.inl ⟨by rfl,fun w' hw'=>by have c0:=(HCell.out w' hw').2.1;clear hw';go_simp⟩) (Below.refl _ _) ?_
    simp only [Act.put,zq0,zq1,zq2,zq3,zq4,zq5];refine Qad [16,15,14,13] (i:=7) (v:=.int .i64 h0) rfl (by kernel_rfl) (by kernel_rfl) (by decide) (by kernel_rfl) (by kernel_rfl) (by kernel_rfl) (by kernel_rfl) (fun _ _ _ h=>h) (Or.inl ⟨by rfl,fun w' hw'=>by have c0:=(HCell.out w' hw').1;clear hw';go_simp⟩) (Below.refl _ _) ?_
    simp only [Act.put,zq0,zq1,zq2,zq3,zq4,zq5];refine Qad [16,15,14,13] (i:=10) (v:=.string x2) rfl (by kernel_rfl) (by kernel_rfl) (by decide) (by kernel_rfl) (by kernel_rfl) (by kernel_rfl) (by kernel_rfl) (fun _ _ _ h=>h) (Or.inl ⟨by rfl,fun w' hw'=>by have c0:=(HCell.out w' hw').2.2.1;clear hw';go_simp⟩) (Below.refl _ _) ?_
    simp only [Act.put,zq0,zq1,zq2,zq3,zq4,zq5];refine Qad [16,15,14,13] (i:=12) (v:=.string x4) rfl (by kernel_rfl) (by kernel_rfl) (by decide) (by kernel_rfl) (by kernel_rfl) (by kernel_rfl) (by kernel_rfl) (fun _ _ _ h=>h) (Or.inl ⟨by rfl,fun w' hw'=>by have c0:=(HCell.out w' hw').2.2.2;clear hw';go_simp⟩) (Below.refl _ _) ?_
    simp only [Act.put,zq0,zq1,zq2,zq3,zq4,zq5];refine L_one (i:=13) (by kernel_rfl) ?_
    refine wpOp_step rfl ?_;intro K hK;rw [if_pos (by rfl)]
    have hK':Shut (∀ a w,_→K a w):=hK;clear hK;go_wp2_with fail;refine (HBg.out U).mono ?_;rintro e W1 ⟨a4,c4,rfl,hr4,hb4⟩;refine hK'.out _ _ ?_;clear hK' K;refine ⟨hb4,?_⟩
    try simp only [Act.put,zq0,zq1,zq2,zq3,zq4,zq5]
    refine Qad [16,15] (i:=14) (v:=.agg #[.string RF,.int .i64 x0,.int .i64 pe,.slice a4 2 c4]) rfl (by kernel_rfl) (by kernel_rfl) (by decide) (by kernel_rfl) (by kernel_rfl) (by kernel_rfl) (by kernel_rfl) (fun _ _ _ h=>h) ?_ hb4 ?_
    ·exact QaP (by rfl) 38 _ (by rfl) #[(0,.string RF),(1,.int .i64 x0),(2,.int .i64 pe),(3,.slice a4 2 c4)] (by simp [Act.eval]) (fun w' _=>Qib _ _ _ _ _ _ w')
    simp only [Act.put,zq0,zq1,zq2,zq3,zq4,zq5];have HR4':Hid (Qab W1 U.heap.size (.slice a4 gl.length c4) gl):=by rw [HLen.out];exact hr4
    have HB4:Hid (Below U.heap.size U W1):=hb4;have HAdd:Hid (∀ v' w6,World.ownsRow w6 w.heap.size 38 4 v' (L.length+1) (QaR L++(Je.mk RF x0 pe a4 c4 gl).cells.toList)→(W1.alloc (.cells #[.string RF,.int .i64 x0,.int .i64 pe,.slice a4 2 c4] 38)).grownBy w6 (Value.slice av L.length cv).ownBlock→(Qbp w6 w.heap.size v' (L++[Je.mk RF x0 pe a4 c4 gl])∧(L++[Je.mk RF x0 pe a4 c4 gl]).map Je.ep=QfO b cur pe l (k*2+0+1)∧(L++[Je.mk RF x0 pe a4 c4 gl]).length≤k*2+0+1)∧Kp w6 G P h0 h1 ⟨x0,x1,x2,x3,x4⟩∧Below w.heap.size w w6):=fun v' w6 h1 h2=>by
     obtain ⟨m1,m2,m3⟩:=HM.out;have z1:=HU1.out.1.trans (HB4.out.mono HU1.out.1.size);have z2:=z1.alloc z1.size (.cells #[.string RF,.int .i64 x0,.int .i64 pe,.slice a4 2 c4] 38);have z3:Below W1.heap.size W1 (W1.alloc (.cells #[.string RF,.int .i64 x0,.int .i64 pe,.slice a4 2 c4] 38)):=(Below.refl _ W1).alloc (Nat.le_refl _) _;have m4:=((m1.below HU2.out).below HB4.out).below z3;refine ⟨⟨m4.add (x:=Je.mk RF x0 pe a4 c4 gl) ((HR4'.out.below z3).mono HU1.out.1.size) h1 h2,?_,?_⟩,((HU1.out.2.below HB4.out).below z3).grown m4.row h2,z2.grown h2 z2.size fun j e=>m1.row.own j e⟩
     ·rw [List.map_append,m2,HP2.out];rfl
     ·rw [List.length_append];simp;exact m3
    have HRow:Hid (World.ownsRow (W1.alloc (.cells #[.string RF,.int .i64 x0,.int .i64 pe,.slice a4 2 c4] 38)) w.heap.size 38 4 (.slice av L.length cv) L.length (QaR L)):=by
     have m4:=(HM.out.1.below HU2.out).below HB4.out;exact World.ownsRow.alloc m4.row _
    have s2:Hid (L.length+1≤maxLen∧(L.length+1)*56≤140737488355328):=by
     have:=HM.out.2.2
     unfold Hid maxLen;omega
    have s4:Hid (w.heap.size≤(W1.alloc (.cells #[.string RF,.int .i64 x0,.int .i64 pe,.slice a4 2 c4] 38)).heap.size):=by
     have z1:=HU1.out.1.size;have z2:=HB4.out.size;unfold Hid;simp;omega
    have HCe:Hid ((Je.mk RF x0 pe a4 c4 gl).cells.toList=[.string RF,.int .i64 x0,.int .i64 pe,.slice a4 2 c4]):=by unfold Je.cells Hid;simp only [HLen.out]
    have HOne:Hid (∀ u∈([.string RF,.int .i64 x0,.int .i64 pe,.slice a4 2 c4]:List Value),u.oneCell'=true):=by rw [← HCe.out];exact Qgi _
    rw [HCe.out] at HAdd;have hbA:Below U.heap.size U (W1.alloc (.cells #[.string RF,.int .i64 x0,.int .i64 pe,.slice a4 2 c4] 38)):=hb4.alloc hb4.size _;clear hr4 hb4 HM HCe HBg HCell HU1 HU2 HR4' HB4;refine L_one (i:=15) (by kernel_rfl) ?_
    refine wpOp_step rfl ?_;intro K hK;rw [if_pos (by rfl)]
    have hK':Shut (∀ a w,_→K a w):=hK;clear hK;go_wp2_with fail;refine hK'.out _ _ ?_;clear hK' K;refine ⟨hbA,?_⟩
    try simp only [Act.put,zq0,zq1,zq2,zq3,zq4,zq5]
    refine L_go (by kernel_rfl) (by kernel_rfl) ?_
    refine wpOp_step rfl (fun K hK=>?_)
    refine step_append_lies _ rfl (.tmp 77) (.tmp 92) 27 rfl w.heap.size 38 i0 (.agg #[.string ByteArray.empty,.int .i64 0,.int .i64 0,.slice none 0 0]) 4 56 underlying27 hi hz0 hz1 hz2 rfl (Nat.zero_lt_succ _) (.slice av L.length cv) L.length (QaR L) rfl HRow.out ⟨W1.heap.size,0,none⟩ 1 1 [.string RF,.int .i64 x0,.int .i64 pe,.slice a4 2 c4] rfl rfl (World.news_of_block (QhD W1 _ _ _ _ _)) HOne.out (Nat.zero_lt_one) s2.out.1 s2.out.2 s4.out (W1.heap.size+1) (by simp) ?_
    intro g' cap' w6 hown' hgrow hat hlt2;obtain ⟨hm6,hb6⟩:=HAdd.out _ w6 hown' hgrow;have HM6:Hid _:=hm6;have HK7:Hid (Kp w6 G P h0 h1 ⟨x0,x1,x2,x3,x4⟩):=hb6.1;have HB7:Hid (Below w.heap.size w w6):=hb6.2;refine hK _ _ ?_;clear hK K hown' hgrow hm6 hb6 HAdd HRow hat hlt2 hbA;refine wpAny_take (i:=17) (v:=.slice (some ⟨g',0,none⟩) (L.length+1) cap') rfl (by kernel_rfl) (by kernel_rfl) (by kernel_rfl) (fun _ _ _ h=>h) (Or.inl ⟨by rfl,fun w=>by go_simp⟩) ?_
    simp only [Act.put,zq0,zq1,zq2,zq3,zq4,zq5];refine wpAny_done (by kernel_rfl) ?_ _
    go_wp2;go_roundw
    case rel=>exact ⟨1,_,by omega,rfl,HM6,HN,HK7,HB7⟩
    case measure=>simp [RowKit.intOf]
   ·have HI:Hid (phas b cur l (k*2+1)=h1):=by unfold phas;rw [(psd_odd l k).2];exact HE1.out
    have HPd:Hid ((psd l (k*2+1))=⟨x1,x3⟩∧(pdA l (k*2+1)).dif=x4):=by rw [(psd_odd l k).1,(psd_odd l k).2,HLk.out];exact ⟨rfl,rfl⟩
    have HEq:Hid (peE b cur pe l (k*2+1)=if h1=0 then [] else [⟨refP k 1,x1,pe,mvL h1 cur x3 x4⟩]):=by
     unfold peE;rw [HI.out,HPd.out.1,HPd.out.2,show (k*2+1) / 2=k by omega,show (k*2+1) % 2=1 by omega]
     exact rfl
    have HAt:Hid (Qiw b cur l (k*2+1)=if Qas h1=true then 0 else 1):=by unfold Qiw;rw [HI.out];exact rfl
    have HNx:Hid (QfO b cur pe l (k*2+1+1)=QfO b cur pe l (k*2+1)++peE b cur pe l (k*2+1)):=peTo_next b cur pe l _;have HBd:Hid (Qiw b cur l (k*2+1)=0→Qac (Qiw b cur l) (k*2+1+1)=0):=fun h=>by rw [Qaz H0.out,h]
    have HBr:Hid (Qiw b cur l (k*2+1)=1→Qcq c l b cur pe=1):=fun h=>by
     rw [HB0.out,QaC H0.out (by rw [h];decide) (by omega),h]
    obtain ⟨av,cv,ev,_⟩:=HM.out.1.isJs;subst ev;obtain ⟨Z,hZ⟩:∃ Z,wr.alloc (.cells #[.int .i64 x1,.string x3] 141)=Z:=⟨_,rfl⟩;have hbZ:Below wr.heap.size wr Z:=by rw [← hZ];exact (Below.refl _ _).alloc (Nat.le_refl _) _
    have hsz:wr.heap.size<Z.heap.size:=by rw [← hZ];simp
    have hst:SdAt Z wr.heap.size 0 ⟨x1,x3⟩:=by rw [← hZ];exact SdAt.new wr ⟨x1,x3⟩ 141
    have HB6:Hid (Below w.heap.size w Z):=HB.out.trans (hbZ.mono HB.out.size);have HKZ:Hid (Kp Z G P h0 h1 ⟨x0,x1,x2,x3,x4⟩):=HK.out.below hbZ;have HCl:Hid (∀ W,Below Z.heap.size Z W→W.cell? ⟨G,1,none⟩=some (.int .i64 h1)∧W.cell? ⟨wr.heap.size,0,none⟩=some (.int .i64 x1)∧W.cell? ⟨wr.heap.size,1,none⟩=some (.string x3)∧W.cell? ⟨P,4,none⟩=some (.string x4)):=fun W hW=>by
     have t:=HKZ.out.below hW;have s:=hst.below hW hsz;exact ⟨t.1.c1,s.c0,s.c1,t.c4⟩
    have HBw:Hid (∀ W,Below Z.heap.size Z W→Kp W G P h0 h1 ⟨x0,x1,x2,x3,x4⟩∧Below w.heap.size w W∧Below wr.heap.size wr W):=fun W hW=>⟨HKZ.out.below hW,HB6.out.trans (hW.mono HB6.out.size),hbZ.trans (hW.mono hbZ.size)⟩
    have HZ:Hid (wr.alloc (.cells #[.int .i64 x1,.string x3] 141)=Z):=hZ;obtain ⟨f0,f1,f2,f3⟩:=HCl.out Z (Below.refl _ _);obtain ⟨R,hR⟩:∃ R,wr.heap.size=R:=⟨_,rfl⟩;rw [hR] at f1 f2 HCl;have HRR:Hid (wr.heap.size=R):=hR;clear hbZ hsz hst hZ HI HPd hR;go_upto_region 17 with fail
    rw [HZ.out]
    try rw [HRR.out]
    clear HZ;by_cases g0:h1=0
    ·have HM2:Hid (Qbp Z w.heap.size (.slice av L.length cv) L∧L.map Je.ep=QfO b cur pe l (k*2+1+1)∧L.length≤k*2+1+1):=by
      obtain ⟨m1,m2,m3⟩:=HM.out;refine ⟨m1.below (HBw.out Z (Below.refl _ _)).2.2,?_,by omega⟩
      rw [HNx.out,HEq.out,if_pos g0,List.append_nil,m2]
     have HN:Hid (Qac (Qiw b cur l) (k*2+1+1)=0):=HBd.out (by rw [HAt.out,g0];exact rfl)
     rw [g0] at f0;clear HBd HBr HEq HAt HNx HM HErr HCl HBw;go_wp2;go_roundw
     case rel=>exact ⟨2,L,by omega,rfl,HM2,HN,HKZ,HB6⟩
     case measure=>simp [RowKit.intOf]
    have g0':(h1 == 0)=false:=by rw [beq_eq_false_iff_ne];exact g0
    have HAm:Hid (∀ W,Calls prog 108 #[.int .i64 h1] W fun e w'=>e=.returned (.bool (Qas h1))∧w'=W):=fun W=>Qbl h1 W
    cases g1:Qas h1
    ·have HE:Hid (Qew c l b cur pe w (.returned (.tuple #[.slice none 0 0,.iface 68 (.int .i64 1)])) Z):=HErr.out 1 Z (by decide) (HBr.out (by rw [HAt.out,g1];exact rfl)) (HBw.out Z (Below.refl _ _)).2.1
     rw [g1] at HAm;clear HBd HBr HEq HAt HNx HM HErr HCl HBw;go_wp2_with fail;refine (HAm.out _).mono ?_;rintro e w' ⟨rfl,hw⟩;rw [hw];clear hw w' HAm;go_wp2;go_ret2;exact HE.out
    rw [g1] at HAm;have HN:Hid (Qac (Qiw b cur l) (k*2+1+1)=0):=HBd.out (by rw [HAt.out,g1];exact rfl)
    have HP2:Hid (QfO b cur pe l (k*2+1+1)=QfO b cur pe l (k*2+1)++[⟨refP k 1,x1,pe,mvL h1 cur x3 x4⟩]):=by
     rw [HNx.out,HEq.out,if_neg g0];exact rfl
    have hamt2:=Qa8.1 g1;unfold Qaq at hamt2;have HBg:Hid (∀ W,Calls prog 128 #[.int .i64 h1,.string cur,.string x3,.string x4] W fun e w'=>∃ adr cap,e=.returned (.slice adr 2 cap)∧Qab w' W.heap.size (.slice adr 2 cap) (mvL h1 cur x3 x4)∧Below W.heap.size W w'):=fun W=>moved_any h1 cur x3 x4 W (by omega) (by omega)
    have HIt:Hid (∀ W,Calls prog 34 #[.int .i64 ((k:Nat):Int)] W fun e w'=>e=.returned (.string (QiG k))∧w'=W):=fun W=>itoa_any k (by omega) W
    have HLen:Hid ((mvL h1 cur x3 x4).length=2):=rfl;have HRf:Hid (((⟨#[112,97,105,114,45]⟩:ByteArray)++QiG k)++⟨#[98]⟩=refP k 1):=rfl;have hab:∀ W,(Instr.slice 9 (.string ⟨#[97,98]⟩) (some (.int .i64 1)) (some (.int .i64 2)) none).run prog W=.ok (.string ⟨#[98]⟩) W:=fun _=>by kernel_rfl
    have hd1:¬ 9223372036854775807<5+(QiG k).size:=by have:=QgS k;omega
    have hd2:¬ 9223372036854775807<5+(QiG k).size+1:=by have:=QgS k;omega
    generalize mvL h1 cur x3 x4=gl at *
    clear HBd HBr HEq HAt HNx HErr g0 g1 hamt2;go_wp2_with fail;refine (HAm.out _).mono ?_;rintro e w' ⟨rfl,hw⟩;rw [hw];clear hw w' HAm;clear f0 f1 f2 f3;go_wp2_with fail;go_quiet ((go_at_call 34;exact Calls.quiet_of_same (HIt.out _)))
    rename Nat=>nq
    try rw [HRf.out]
    generalize refP k 1=RF at *
    have hdN:Below Z.heap.size Z (Z.drewN nq).drew:=(Qao (Below.refl _ Z) nq).drew;have HCell:Hid (∀ u,Below (Z.drewN nq).drew.heap.size (Z.drewN nq).drew u→u.cell? ⟨G,1,none⟩=some (.int .i64 h1)∧u.cell? ⟨R,0,none⟩=some (.int .i64 x1)∧u.cell? ⟨R,1,none⟩=some (.string x3)∧u.cell? ⟨P,4,none⟩=some (.string x4)):=fun u hu=>HCl.out u (hdN.trans hu)
    have HU1:Hid (Below w.heap.size w (Z.drewN nq).drew∧Kp (Z.drewN nq).drew G P h0 h1 ⟨x0,x1,x2,x3,x4⟩):=⟨(HBw.out _ hdN).2.1,(HBw.out _ hdN).1⟩;have HU2:Hid (Below wr.heap.size wr (Z.drewN nq).drew):=(HBw.out _ hdN).2.2;clear hdN HCl HBw HIt hab hd1 hd2;go_upto_region 21 with fail
    refine Qal (by kernel_rfl) ?_
    generalize (Z.drewN nq).drew=U at *
    refine wpAny_take (i:=0) (v:=.slice av L.length cv) rfl (by kernel_rfl) (by kernel_rfl) (by kernel_rfl) (fun _ _ _ h=>h) (Or.inl ⟨by rfl,fun w=>by go_simp⟩) ?_
    simp only [Act.put,zq0,zq1,zq2,zq3,zq4,zq5];refine wpAny_take (i:=1) (v:=.string RF) rfl (by kernel_rfl) (by kernel_rfl) (by kernel_rfl) (fun _ _ _ h=>h) (Or.inl ⟨by rfl,fun w=>by go_simp⟩) ?_
    simp only [Act.put,zq0,zq1,zq2,zq3,zq4,zq5];refine wpAny_take (i:=2) (v:=.pointer (some ⟨R,0,none⟩)) rfl (by kernel_rfl) (by kernel_rfl) (by kernel_rfl) (fun _ _ _ h=>h) (Or.inl ⟨by rfl,fun w=>by go_simp⟩) ?_
    simp only [Act.put,zq0,zq1,zq2,zq3,zq4,zq5];refine wpAny_take (i:=4) (v:=.int .i64 pe) rfl (by kernel_rfl) (by kernel_rfl) (by kernel_rfl) (fun _ _ _ h=>h) (Or.inl ⟨by rfl,fun w=>by go_simp⟩) ?_
    simp only [Act.put,zq0,zq1,zq2,zq3,zq4,zq5];refine wpAny_take (i:=5) (v:=.int .i64 1) rfl (by kernel_rfl) (by kernel_rfl) (by kernel_rfl) (fun _ _ _ h=>h) (Or.inl ⟨by rfl,fun w=>by go_simp⟩) ?_
    simp only [Act.put,zq0,zq1,zq2,zq3,zq4,zq5];refine wpAny_take (i:=6) (v:=.pointer (some ⟨G,1,none⟩)) rfl (by kernel_rfl) (by kernel_rfl) (by kernel_rfl) (fun _ _ _ h=>h) (Or.inl ⟨by rfl,fun w=>by go_simp⟩) ?_
    simp only [Act.put,zq0,zq1,zq2,zq3,zq4,zq5];refine wpAny_take (i:=8) (v:=.string cur) rfl (by kernel_rfl) (by kernel_rfl) (by kernel_rfl) (fun _ _ _ h=>h) (Or.inl ⟨by rfl,fun w=>by go_simp⟩) ?_
    simp only [Act.put,zq0,zq1,zq2,zq3,zq4,zq5];refine wpAny_take (i:=9) (v:=.pointer (some ⟨R,1,none⟩)) rfl (by kernel_rfl) (by kernel_rfl) (by kernel_rfl) (fun _ _ _ h=>h) (Or.inl ⟨by rfl,fun w=>by go_simp⟩) ?_
    simp only [Act.put,zq0,zq1,zq2,zq3,zq4,zq5];refine wpAny_take (i:=11) (v:=.pointer (some ⟨P,4,none⟩)) rfl (by kernel_rfl) (by kernel_rfl) (by kernel_rfl) (fun _ _ _ h=>h) (Or.inl ⟨by rfl,fun w=>by go_simp⟩) ?_
    simp only [Act.put,zq0,zq1,zq2,zq3,zq4,zq5];refine Qbq (g:=16) (T:=fun u=>Below U.heap.size U u) _ _ _ _ ?_
    refine Qad [16,15,14] (i:=3) (v:=.int .i64 x1) rfl (by kernel_rfl) (by kernel_rfl) (by decide) (by kernel_rfl) (by kernel_rfl) (by kernel_rfl) (by kernel_rfl) (fun _ _ _ h=>h) (Or.inl ⟨by rfl,fun w' hw'=>by have c0:=(HCell.out w' hw').2.1;clear hw';go_simp⟩) (Below.refl _ _) ?_
    simp only [Act.put,zq0,zq1,zq2,zq3,zq4,zq5];refine Qad [16,15,14,13] (i:=7) (v:=.int .i64 h1) rfl (by kernel_rfl) (by kernel_rfl) (by decide) (by kernel_rfl) (by kernel_rfl) (by kernel_rfl) (by kernel_rfl) (fun _ _ _ h=>h) (Or.inl ⟨by rfl,fun w' hw'=>by have c0:=(HCell.out w' hw').1;clear hw';go_simp⟩) (Below.refl _ _) ?_
    simp only [Act.put,zq0,zq1,zq2,zq3,zq4,zq5];refine Qad [16,15,14,13] (i:=10) (v:=.string x3) rfl (by kernel_rfl) (by kernel_rfl) (by decide) (by kernel_rfl) (by kernel_rfl) (by kernel_rfl) (by kernel_rfl) (fun _ _ _ h=>h) (Or.inl ⟨by rfl,fun w' hw'=>by have c0:=(HCell.out w' hw').2.2.1;clear hw';go_simp⟩) (Below.refl _ _) ?_
    simp only [Act.put,zq0,zq1,zq2,zq3,zq4,zq5];refine Qad [16,15,14,13] (i:=12) (v:=.string x4) rfl (by kernel_rfl) (by kernel_rfl) (by decide) (by kernel_rfl) (by kernel_rfl) (by kernel_rfl) (by kernel_rfl) (fun _ _ _ h=>h) (Or.inl ⟨by rfl,fun w' hw'=>by have c0:=(HCell.out w' hw').2.2.2;clear hw';go_simp⟩) (Below.refl _ _) ?_
    simp only [Act.put,zq0,zq1,zq2,zq3,zq4,zq5];refine L_one (i:=13) (by kernel_rfl) ?_
    refine wpOp_step rfl ?_;intro K hK;rw [if_pos (by rfl)]
    have hK':Shut (∀ a w,_→K a w):=hK;clear hK;go_wp2_with fail;refine (HBg.out U).mono ?_;rintro e W1 ⟨a4,c4,rfl,hr4,hb4⟩;refine hK'.out _ _ ?_;clear hK' K;refine ⟨hb4,?_⟩
    try simp only [Act.put,zq0,zq1,zq2,zq3,zq4,zq5]
    refine Qad [16,15] (i:=14) (v:=.agg #[.string RF,.int .i64 x1,.int .i64 pe,.slice a4 2 c4]) rfl (by kernel_rfl) (by kernel_rfl) (by decide) (by kernel_rfl) (by kernel_rfl) (by kernel_rfl) (by kernel_rfl) (fun _ _ _ h=>h) ?_ hb4 ?_
    ·exact QaP (by rfl) 38 _ (by rfl) #[(0,.string RF),(1,.int .i64 x1),(2,.int .i64 pe),(3,.slice a4 2 c4)] (by simp [Act.eval]) (fun w' _=>Qib _ _ _ _ _ _ w')
    simp only [Act.put,zq0,zq1,zq2,zq3,zq4,zq5];have HR4':Hid (Qab W1 U.heap.size (.slice a4 gl.length c4) gl):=by rw [HLen.out];exact hr4
    have HB4:Hid (Below U.heap.size U W1):=hb4;have HAdd:Hid (∀ v' w6,World.ownsRow w6 w.heap.size 38 4 v' (L.length+1) (QaR L++(Je.mk RF x1 pe a4 c4 gl).cells.toList)→(W1.alloc (.cells #[.string RF,.int .i64 x1,.int .i64 pe,.slice a4 2 c4] 38)).grownBy w6 (Value.slice av L.length cv).ownBlock→(Qbp w6 w.heap.size v' (L++[Je.mk RF x1 pe a4 c4 gl])∧(L++[Je.mk RF x1 pe a4 c4 gl]).map Je.ep=QfO b cur pe l (k*2+1+1)∧(L++[Je.mk RF x1 pe a4 c4 gl]).length≤k*2+1+1)∧Kp w6 G P h0 h1 ⟨x0,x1,x2,x3,x4⟩∧Below w.heap.size w w6):=fun v' w6 h1 h2=>by
     obtain ⟨m1,m2,m3⟩:=HM.out;have z1:=HU1.out.1.trans (HB4.out.mono HU1.out.1.size);have z2:=z1.alloc z1.size (.cells #[.string RF,.int .i64 x1,.int .i64 pe,.slice a4 2 c4] 38);have z3:Below W1.heap.size W1 (W1.alloc (.cells #[.string RF,.int .i64 x1,.int .i64 pe,.slice a4 2 c4] 38)):=(Below.refl _ W1).alloc (Nat.le_refl _) _;have m4:=((m1.below HU2.out).below HB4.out).below z3;refine ⟨⟨m4.add (x:=Je.mk RF x1 pe a4 c4 gl) ((HR4'.out.below z3).mono HU1.out.1.size) h1 h2,?_,?_⟩,((HU1.out.2.below HB4.out).below z3).grown m4.row h2,z2.grown h2 z2.size fun j e=>m1.row.own j e⟩
     ·rw [List.map_append,m2,HP2.out];rfl
     ·rw [List.length_append];simp;exact m3
    have HRow:Hid (World.ownsRow (W1.alloc (.cells #[.string RF,.int .i64 x1,.int .i64 pe,.slice a4 2 c4] 38)) w.heap.size 38 4 (.slice av L.length cv) L.length (QaR L)):=by
     have m4:=(HM.out.1.below HU2.out).below HB4.out;exact World.ownsRow.alloc m4.row _
    have s2:Hid (L.length+1≤maxLen∧(L.length+1)*56≤140737488355328):=by
     have:=HM.out.2.2
     unfold Hid maxLen;omega
    have s4:Hid (w.heap.size≤(W1.alloc (.cells #[.string RF,.int .i64 x1,.int .i64 pe,.slice a4 2 c4] 38)).heap.size):=by
     have z1:=HU1.out.1.size;have z2:=HB4.out.size;unfold Hid;simp;omega
    have HCe:Hid ((Je.mk RF x1 pe a4 c4 gl).cells.toList=[.string RF,.int .i64 x1,.int .i64 pe,.slice a4 2 c4]):=by unfold Je.cells Hid;simp only [HLen.out]
    have HOne:Hid (∀ u∈([.string RF,.int .i64 x1,.int .i64 pe,.slice a4 2 c4]:List Value),u.oneCell'=true):=by rw [← HCe.out];exact Qgi _
    rw [HCe.out] at HAdd;have hbA:Below U.heap.size U (W1.alloc (.cells #[.string RF,.int .i64 x1,.int .i64 pe,.slice a4 2 c4] 38)):=hb4.alloc hb4.size _;clear hr4 hb4 HM HCe HBg HCell HU1 HU2 HR4' HB4;refine L_one (i:=15) (by kernel_rfl) ?_
    refine wpOp_step rfl ?_;intro K hK;rw [if_pos (by rfl)]
    have hK':Shut (∀ a w,_→K a w):=hK;clear hK;go_wp2_with fail;refine hK'.out _ _ ?_;clear hK' K;refine ⟨hbA,?_⟩
    try simp only [Act.put,zq0,zq1,zq2,zq3,zq4,zq5]
    refine L_go (by kernel_rfl) (by kernel_rfl) ?_
    refine wpOp_step rfl (fun K hK=>?_)
    refine step_append_lies _ rfl (.tmp 77) (.tmp 92) 27 rfl w.heap.size 38 i0 (.agg #[.string ByteArray.empty,.int .i64 0,.int .i64 0,.slice none 0 0]) 4 56 underlying27 hi hz0 hz1 hz2 rfl (Nat.zero_lt_succ _) (.slice av L.length cv) L.length (QaR L) rfl HRow.out ⟨W1.heap.size,0,none⟩ 1 1 [.string RF,.int .i64 x1,.int .i64 pe,.slice a4 2 c4] rfl rfl (World.news_of_block (QhD W1 _ _ _ _ _)) HOne.out (Nat.zero_lt_one) s2.out.1 s2.out.2 s4.out (W1.heap.size+1) (by simp) ?_
    intro g' cap' w6 hown' hgrow hat hlt2;obtain ⟨hm6,hb6⟩:=HAdd.out _ w6 hown' hgrow;have HM6:Hid _:=hm6;have HK7:Hid (Kp w6 G P h0 h1 ⟨x0,x1,x2,x3,x4⟩):=hb6.1;have HB7:Hid (Below w.heap.size w w6):=hb6.2;refine hK _ _ ?_;clear hK K hown' hgrow hm6 hb6 HAdd HRow hat hlt2 hbA;refine wpAny_take (i:=17) (v:=.slice (some ⟨g',0,none⟩) (L.length+1) cap') rfl (by kernel_rfl) (by kernel_rfl) (by kernel_rfl) (fun _ _ _ h=>h) (Or.inl ⟨by rfl,fun w=>by go_simp⟩) ?_
    simp only [Act.put,zq0,zq1,zq2,zq3,zq4,zq5];refine wpAny_done (by kernel_rfl) ?_ _
    go_wp2;go_roundw
    case rel=>exact ⟨2,_,by omega,rfl,HM6,HN,HK7,HB7⟩
    case measure=>simp [RowKit.intOf]
   ·obtain ⟨av,cv,ev,_⟩:=HM.out.1.isJs;subst ev;have HM6:Hid (Qbp wr w.heap.size (.slice av L.length cv) L∧L.map Je.ep=QfO b cur pe l ((k+1)*2)∧L.length≤(k+1)*2):=by
     rw [show (k+1)*2=k*2+2 by omega];exact HM.out
    have HN:Hid (Qac (Qiw b cur l) ((k+1)*2)=0):=by rw [show (k+1)*2=k*2+2 by omega];exact H0.out
    have HB7:Hid (Below w.heap.size w wr):=HB;clear HM H0 HB HErr;go_wp2;go_roundw
    case rel=>exact ⟨k+1,L,by omega,by go_num,HM6,HN,HB7⟩
    case measure=>simp [RowKit.intOf];omega
  ·have ek:k=l.length:=by omega
   subst ek;obtain ⟨m1,m2,m3⟩:=HM.out;have HE:Hid (Qew c l b cur pe w (.returned (.tuple #[.slice av L.length cv,.nilIface])) wr):=HOk.out _ L wr (by rw [HB0.out,H0.out]) HB.out m1 m2 (by omega)
   have jn:¬ (l.length:Int)<l.length:=by omega
   clear m1 m2 m3 HM HErr HOk;go_wp2;go_ret2;exact HE.out
end
section
open Go.RowKit Go.Lib Go.Proofs.Tryz
structure QaF (X:Nat→Prop) (W U:World):Prop where
 os:U.os=W.os
 tape:U.tape=W.tape
 output:U.output=W.output
 size:W.heap.size≤U.heap.size
 block:∀ b,b<W.heap.size→¬ X b→U.heap[b]? = W.heap[b]?
theorem QaF.refl (X:Nat→Prop) (W:World):QaF X W W:=⟨rfl,rfl,rfl,Nat.le_refl _,fun _ _ _=>rfl⟩
theorem QaF.trans {X:Nat→Prop} {W V U:World} (h:QaF X W V) (k:QaF X V U):QaF X W U:=
 ⟨k.os.trans h.os,k.tape.trans h.tape,k.output.trans h.output,Nat.le_trans h.size k.size,fun b hb hx=>(k.block b (Nat.lt_of_lt_of_le hb h.size) hx).trans (h.block b hb hx)⟩
theorem QaF.of_below {X:Nat→Prop} {W U:World} (h:Below W.heap.size W U):QaF X W U:=⟨h.os,h.tape,h.output,h.size,fun b hb _=>h.block b hb⟩
theorem QaF.mono {X Y:Nat→Prop} {W U:World} (h:QaF X W U) (hy:∀ b,X b→Y b):QaF Y W U:=⟨h.os,h.tape,h.output,h.size,fun b hb hn=>h.block b hb fun hx=>hn (hy b hx)⟩
theorem QaF.below {X:Nat→Prop} {W U:World} {n:Nat} (h:QaF X W U) (hn:n≤W.heap.size) (hx:∀ b,X b→n≤b):Below n W U:=
 ⟨h.os,h.tape,h.output,h.size,fun b hb=>h.block b (Nat.lt_of_lt_of_le hb hn) fun hh=>by have:=hx b hh;omega⟩
def RMap (W:World) (bm:Nat) (L:List ByteArray):Prop:=∃ rs,SMap W bm rs∧∀ s,s∈rs↔s∈L
theorem RMap.of {W W':World} {bm:Nat} {L:List ByteArray} (h:RMap W bm L) (hb:W'.heap[bm]? = W.heap[bm]?):RMap W' bm L:=by
 obtain ⟨rs,h1,h2⟩:=h;exact ⟨rs,h1.of hb,h2⟩
theorem RMap.lt {W:World} {bm:Nat} {L:List ByteArray} (h:RMap W bm L):bm<W.heap.size:=by
 obtain ⟨rs,⟨es,c,h1,_⟩,_⟩:=h;exact (Array.getElem?_eq_some_iff.1 h1).1
theorem RMap.isMap {W:World} {bm:Nat} {L:List ByteArray} (h:RMap W bm L):∃ es c,W.heap[bm]? = some (.map es c):=by
 obtain ⟨rs,⟨es,c,h1,_⟩,_⟩:=h;exact ⟨es,c,h1⟩
theorem run_rlook {W:World} {bm:Nat} {L:List ByteArray} (h:RMap W bm L) (s:ByteArray):(Instr.lookup 76 (.map (some bm)) (.string s) true).run prog W=.ok (.tuple #[.agg #[],.bool (QeV L s)]) W:=by
 obtain ⟨rs,h1,h2⟩:=h;have e:QeV rs s=QeV L s:=by
  cases hq:QeV L s with
  | true=>exact Qfh.2 ((h2 s).2 (Qfh.1 hq))
  | false=>exact QhW.2 fun hh=>QhW.1 hq ((h2 s).1 hh)
 rw [← e];exact run_slook h1 s
theorem sfind_old:∀ (es:List MapEntry) (rs:List ByteArray) (s:ByteArray) (i:Nat),es.map (·.key)=rs.map Value.string→(∀ e∈es,e.val=.agg #[])→s∈rs→∃ j e,Instr.findNow .string (.string s) es i=some (some (i+j,.agg #[]))∧es[j]? = some e∧e.key=.string s
 | [],rs,s,_,h,_,hs=>by
  have:rs=[]:=by simpa using h.symm
  rw [this] at hs;simp at hs
 | e :: es,[],_,_,h,_,_=>by simp at h
 | e :: es,r :: rs,s,i,h,hv,hs=>by
  simp only [List.map_cons,List.cons.injEq] at h;by_cases hq:s=r
  ·subst hq;refine ⟨0,e,?_,rfl,h.1⟩;unfold Instr.findNow;simp only [h.1,Instr.sameNow,(MapKept.bytes_beq s s).2 rfl];rw [hv e (by simp)]
   rfl
  ·have hne:(s == r)=false:=by cases hq':(s == r) with | false=>rfl | true=>exact absurd ((MapKept.bytes_beq s r).1 hq') hq
   obtain ⟨j,e',h1,h2,h3⟩:=sfind_old es rs s (i+1) h.2 (fun x hx=>hv x (by simp [hx])) (by rcases List.mem_cons.1 hs with e | e;exact absurd e hq;exact e)
   refine ⟨j+1,e',?_,by simpa using h2,h3⟩
   unfold Instr.findNow;simp only [h.1,Instr.sameNow,hne];rw [h1,show i+1+j=i+(j+1) by omega]
theorem run_sset {W:World} {mb:Nat} {es:Array MapEntry} {c:Nat} (h:W.heap[mb]? = some (.map es c)) {k:Nat} {s:ByteArray} {x:Value} {e:MapEntry} (f:Instr.findNow .string (.string s) es.toList 0=some (some (k,x))) (he:es[k]? = some e) (hk:e.key=.string s) :
  (Instr.mapUpdate 76 (.map (some mb)) (.string s) (.agg #[])).run prog W=.ok () { W with heap:=W.heap.setIfInBounds mb (.map (es.modify k fun e=>{ e with key:=.string s,val:=.agg #[] }) c) }:=by
 have hss:(s == s)=true:=(MapKept.bytes_beq s s).2 rfl;simp [Instr.mapUpdate,run_underlying underlying76,MapKept.run_getObj_map h,QeN,MapKept.run_findKey underlying9 f,MapKept.run_setObj_map _ h,Result.andThen,Instr.keyThatStays,he,hk,Instr.sameBits,hss]
theorem run_rput {W:World} {bm:Nat} {L:List ByteArray} (h:RMap W bm L) (s:ByteArray) :
  ∃ W',(Instr.mapUpdate 76 (.map (some bm)) (.string s) (.agg #[])).run prog W=.ok () W'∧RMap W' bm (L++[s])∧W'.os=W.os∧W'.tape=W.tape∧W'.output=W.output∧W'.heap.size=W.heap.size∧∀ b,b≠bm→W'.heap[b]? = W.heap[b]?:=by
 obtain ⟨rs,h1,h2⟩:=h;by_cases hs:s∈rs
 ·obtain ⟨es,c,g1,g2,g3⟩:=h1;have hlt:bm<W.heap.size:=(Array.getElem?_eq_some_iff.1 g1).1;obtain ⟨j,e,f1,f2,f3⟩:=sfind_old es.toList rs s 0 g2 g3 hs;rw [Nat.zero_add] at f1;have he:es[j]? = some e:=by simpa using f2
  refine ⟨_,run_sset g1 f1 he f3,⟨rs,⟨es.modify j fun e=>{ e with key:=.string s,val:=.agg #[] },c,by simp [hlt],?_,?_⟩,fun x=>?_⟩,rfl,rfl,rfl,by simp,fun b hb=>Array.getElem?_setIfInBounds_ne (fun e=>hb e.symm)⟩
  ·rw [← g2];apply List.ext_getElem?;intro i;rw [List.getElem?_map,List.getElem?_map,Array.getElem?_toList,Array.getElem?_toList,Array.getElem?_modify];by_cases hi:j=i
   ·subst hi;rw [if_pos rfl,he];simp [f3]
   ·rw [if_neg hi]
  ·intro x hx;obtain ⟨i,hi,rfl⟩:=List.getElem_of_mem hx;have hi2:i<es.size:=by simpa using hi
   by_cases hj:j=i
   ·subst hj;simp
   ·have e1:(es.modify j fun e=>{ e with key:=.string s,val:=.agg #[] })[i]? = es[i]?:=by rw [Array.getElem?_modify,if_neg hj]
    have e2:=g3 es[i] (by simp)
    have hi3:i<(es.modify j fun e=>{ e with key:=.string s,val:=.agg #[] }).size:=by simpa using hi2
    rw [Array.getElem?_eq_getElem hi3,Array.getElem?_eq_getElem hi2] at e1;have e3:(es.modify j fun e=>{ e with key:=.string s,val:=.agg #[] })[i]=es[i]:=by simpa using e1
    rw [Array.getElem_toList,e3];exact e2
  ·rw [h2 x,List.mem_append,List.mem_singleton];constructor
   ·exact .inl
   ·rintro (hh | rfl)
    ·exact hh
    ·exact (h2 _).1 hs
 ·obtain ⟨W',k1,k2,k3⟩:=run_sput h1 s hs;exact ⟨W',k1,⟨rs++[s],k2,fun x=>by rw [List.mem_append,List.mem_append,h2 x]⟩,k3⟩
structure Cs where
 c:List Ac
 T:Int×DataW Unit
 base:ByteArray
 gain:ByteArray
 kept:ByteArray
 pn:List Pn
 po:List Po
 pr:List Pr
 es:List Je
 st:List (Int×Int)
structure Cp where
 ca:Option Addr
 cc:Nat
 ra:Option Addr
 rl:Nat
 rc:Nat
 pna:Option Addr
 pnc:Nat
 poa:Option Addr
 poc:Nat
 pra:Option Addr
 prc:Nat
 ea:Option Addr
 ec:Nat
 bm:Nat
 bs:Nat
def QaG (P:Cp) (S:Cs):Array Value:=#[.slice P.ca S.c.length P.cc,.slice P.ra P.rl P.rc,.string S.base,.string S.gain,.string S.kept,.slice P.pna S.pn.length P.pnc,.slice P.poa S.po.length P.poc,.slice P.pra S.pr.length P.prc,.slice P.ea S.es.length P.ec,.map (some P.bm),.map (some P.bs)]
structure Dat (U:World) (P:Cp) (S:Cs):Prop where
 ch:QbJ U P.ca S.c P.cc
 rt:∀ V,Below U.heap.size U V→Calls prog 62 #[.slice P.ra P.rl P.rc] V (Qda V S.T)
 pn:Qe6 U P.pna S.pn P.pnc
 po:QgV U P.poa S.po P.poc
 pr:QfP U P.pra S.pr P.prc
def clX (B:Nat) (P:Cp) (m0 b:Nat):Prop:=b=B∨b=P.bm∨b=P.bs∨m0≤b
structure Qiz (S:Cs):Prop where
 c:Qat S.c=0
 T:S.T.1=0
 g:Qb2 S.T.2
 b:Qam S.base=true
 ga:Qaa S.c S.gain=0
 ke:Qaa S.c S.kept=0
 pn:QaW S.c S.pn=0
 po:QbC S.c S.po=0
 pr:QaX S.c S.pr=0
 len:S.es.length≤200
 lns:∀ x∈S.es,x.lns.length≤20∧∀ y∈x.lns,(-1000000000000000≤y.amt∧y.amt≤1000000000000000)∧Qaa S.c y.acc=0∧Qam y.cur=true
 per:∀ x∈S.es,Qak x.per 120=true∧Qak x.ent 12=true
 sg:∀ p,0≤QaV S.st p∧QaV S.st p≤6
 st:∀ x∈S.st,Qak x.1 120=true
structure Qby (W:World) (n0 m0 B:Nat) (P:Cp) (S:Cs):Prop where
 box:W.heap[B]? = some (.cells (QaG P S) 79 (0,0))
 refs:RMap W P.bm (S.es.map (·.ref))
 stg:IMap W P.bs S.st
 row:Qbf W m0 (.slice P.ea S.es.length P.ec) S.es
 lns:∀ x∈S.es,Qab W m0 (.slice x.adr x.lns.length x.cap) x.lns
 data:∀ U,QaF (clX B P m0) W U→Dat U P S
 hB:n0≤B∧B<m0
 hm:n0≤P.bm∧P.bm<m0
 hs:n0≤P.bs∧P.bs<m0
 m0:m0≤W.heap.size
 ne:P.bm≠P.bs
section
variable {W:World} {n0 m0 B:Nat} {P:Cp} {S:Cs}
theorem Qby.cell (h:Qby W n0 m0 B P S) (i:Nat):W.cell? ⟨B,i,none⟩=(QaG P S)[i]?:=by simp [World.cell?,h.box]
theorem Qby.fz (h:Qby W n0 m0 B P S) (i:Nat):W.frozen? ⟨B,i,none⟩=false:=by simp [World.frozen?,h.box]
theorem Qby.lt (h:Qby W n0 m0 B P S):B<W.heap.size:=(Array.getElem?_eq_some_iff.1 h.box).1
theorem Qby.dat (h:Qby W n0 m0 B P S):Dat W P S:=h.data W (QaF.refl _ _)
theorem IMap.lt {mb:Nat} {T:List (Int×Int)} (h:IMap W mb T):mb<W.heap.size:=(Array.getElem?_eq_some_iff.1 h).1
theorem Qby.below {W':World} (h:Qby W n0 m0 B P S) (hb:Below W.heap.size W W'):Qby W' n0 m0 B P S:=
 ⟨(hb.block B h.lt).trans h.box,h.refs.of (hb.block _ h.refs.lt),(hb.block _ h.stg.lt).trans h.stg,h.row.below hb,fun x hx=>(h.lns x hx).below hb,fun U hU=>h.data U ((QaF.of_below hb).trans hU),h.hB,h.hm,h.hs,Nat.le_trans h.m0 hb.size,h.ne⟩
theorem Qby.isJs (h:Qby W n0 m0 B P S):QdF W P.ea S.es P.ec:=by
 obtain ⟨a,c,e,h1,h2⟩:=h.row.lies;cases e;refine ⟨h1,h2,fun x hx=>?_⟩
 obtain ⟨a',c',e',h'⟩:=(h.lns x hx).isLn;cases e';exact h'
theorem Qec (h:Qby W n0 m0 B P S) (p:Int) :
  Calls prog 10 #[.pointer (some ⟨B,0,none⟩),.int .i64 p] W fun e w'=>e=.returned (.int .i64 (QaV S.st p))∧w'=W:=by
 have c10:W.cell? ⟨B,10,none⟩=some (.map (some P.bs)):=h.cell 10;have hr:=run_ilook h.stg p;generalize QaV S.st p=z at *
 clear h;go_enter func10,ntmps10
 go_wp2;go_ret;exact ⟨rfl,rfl⟩
end
end
end Go.Proofs.YtibhgngboljhfaaGreatDoor
