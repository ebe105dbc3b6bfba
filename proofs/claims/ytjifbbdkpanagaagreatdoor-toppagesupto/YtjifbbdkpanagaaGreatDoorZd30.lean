/-
  Part of a proof (see the last text).
-/
import Derived.Test.YtjifbbdkpanagaaGreatDoorZd29
set_option linter.unusedVariables false
set_option linter.unusedSimpArgs false
set_option maxRecDepth 100000
namespace Go.Proofs.YtjifbbdkpanagaaGreatDoor
section
open Go.RowKit Go.Lib Go.Proofs.Tryz
def cgAt (c:List Ac) (R:List Bl) (k:Nat):Int:=cgE (Qcg c R ((QcA (Qa6 c R)).getD k pu0))
structure ClIn (w3:World) (S:Cs) (R:List Bl) (pe:Int) (v:Value) (k:Nat) (L:List Je) (wr:World):Prop where
 made:Qb3 wr w3.heap.size v L
 ep:L.map Je.ep=((QcA (Qa6 S.c R)).take k).map (clE S.c S.kept pe R)
 bel:Below w3.heap.size w3 wr
 ok:Qad (cgAt S.c R) k=0
theorem ClIn.len {w3:World} {S:Cs} {R:List Bl} {pe:Int} {v:Value} {k:Nat} {L:List Je} {wr:World} (h:ClIn w3 S R pe v k L wr) (hk:k≤(QcA (Qa6 S.c R)).length):L.length=k:=by
 have:=congrArg List.length h.ep
 rw [List.length_map,List.length_map,List.length_take] at this;omega
theorem ClIn.step {w3 wr w1 w2:World} {S:Cs} {R:List Bl} {pe:Int} {v v':Value} {k:Nat} {L:List Je} (h:ClIn w3 S R pe v k L wr) (hk:k<(QcA (Qa6 S.c R)).length) {q:PuK} (hq:(QcA (Qa6 S.c R)).getD k pu0=q) (hz:cgE (Qcg S.c R q)=0)
  (h1:Below wr.heap.size wr w1) {a:Option Addr} {c:Nat} (hl:Qag w1 w3.heap.size (.slice a (cgL S.kept (Qcg S.c R q)).length c) (cgL S.kept (Qcg S.c R q)))
  (hb1:Below w3.heap.size w3 w1) (ho:w2.ownsRow w3.heap.size 59 4 v' (L.length+1) (Qby L++(Je.mk ByteArray.empty q.1 pe a c (cgL S.kept (Qcg S.c R q))).cells.toList)) (hg:w1.grownBy w2 v.ownBlock) :
  ClIn w3 S R pe v' (k+1) (L++[⟨ByteArray.empty,q.1,pe,a,c,cgL S.kept (Qcg S.c R q)⟩]) w2:=by
 refine ⟨(h.made.below h1).add hl ho hg,?_,hb1.grown hg hb1.size fun j ej=>h.made.row.own j ej,?_⟩
 ·rw [List.map_append,h.ep,List.take_add_one,List.getElem?_eq_getElem hk,List.map_append];rw [List.getD_eq_getElem?_getD,List.getElem?_eq_getElem hk] at hq;simp only [Option.getD_some] at hq;rw [hq];rfl
 ·rw [Qbo h.ok];unfold cgAt;rw [hq];exact hz
section
variable {W:World} {n0 m0 B:Nat} {P:Cp} {S:Cs}
set_option maxHeartbeats 8000000 in
theorem clCleared_any (h:Qcf W n0 m0 B P S) (ok:ClOk S) (ab:Option Addr) (R:List Bl) (cab:Nat) (pe:Int) (hR:Qcn W ab R cab) (hlen:R.length≤200) (hok:∀ x∈R,BlOk x) :
  Calls prog 95 #[.pointer (some ⟨B,0,none⟩),.slice ab R.length cab,.int .i64 pe] W (QaS (QcQ S.c R) (Qgi S.c S.kept pe R) W):=by
 have HE:Hid (Calls _ _ _ _ _):=earned_any h ok ab R cab hR (by omega) (fun x hx=>⟨(hok x hx).key.ent,(hok x hx).key.cur⟩)
 have HErr:Hid (∀ z U,z≠0→QcQ S.c R=z→Below W.heap.size W U→QaS (QcQ S.c R) (Qgi S.c S.kept pe R) W (.returned (.tuple #[.slice none 0 0,.iface 66 (.int .i64 z)])) U):=fun z U h0 h1 h2=>
  ⟨h2,fun _=>by rw [h1,QaA h0],fun e=>absurd (h1.symm.trans e) h0⟩
 have HCl:Hid (QcQ S.c R=if erE S.c R≠0 then erE S.c R else Qad (cgAt S.c R) (QcA (Qa6 S.c R)).length):=rfl
 by_cases c0:erE S.c R≠0
 ·have ez:erE S.c R=1:=by
   unfold erE at c0 ⊢;split at c0
   ·rename_i hh;rw [if_pos hh]
   ·exact absurd rfl c0
  have HE2:Hid (Calls prog 146 #[.pointer (some ⟨B,0,none⟩),.slice ab R.length cab] W fun e w'=>e=.returned (.tuple #[.map none,.iface 66 (.int .i64 1)])∧Hid (QaS (QcQ S.c R) (Qgi S.c S.kept pe R) W (.returned (.tuple #[.slice none 0 0,.iface 66 (.int .i64 1)])) w')):=by
   refine HE.out.mono ?_;rintro e w' ⟨h1,h2,_⟩;exact ⟨h2 c0,HErr.out 1 w' (by decide) (by rw [HCl.out,if_pos c0,ez]) h1⟩
  clear h ok hR hok HE HErr HCl c0 ez;go_enter func95,ntmps95
  go_wp2_with fail;refine HE2.out.mono ?_;rintro e w1 ⟨rfl,h1⟩;clear HE2;go_wp2;go_ret2;exact h1.out
 have c0':=Decidable.of_not_not c0;have HE2:Hid (Calls prog 146 #[.pointer (some ⟨B,0,none⟩),.slice ab R.length cab] W fun e w'=>∃ bm vs,e=.returned (.tuple #[.map (some bm),.nilIface])∧Hid (Below W.heap.size W w'∧PuMp w' W.heap.size bm (erU S.c R) vs)):=by
  refine HE.out.mono ?_;rintro e w' ⟨h1,_,h3⟩;obtain ⟨bm,vs,rfl,hm⟩:=h3 c0';exact ⟨bm,vs,rfl,h1,hm⟩
 have HK:Hid (∀ bm U,Calls prog 148 #[.map (some bm)] U fun e w'=>e=.returned (.func (.func 181) #[] #[.pointer (some ⟨U.heap.size,0,none⟩)])∧w'=U.alloc (.cells #[.map (some bm)] 227)):=fun bm U=>by
  go_enter func148,ntmps148
  go_wp2;go_ret;exact ⟨rfl,rfl⟩
 have HCl2:Hid (QcQ S.c R=Qad (cgAt S.c R) (QcA (Qa6 S.c R)).length):=by unfold Hid;rw [HCl.out,if_neg c0]
 have HJ:Hid (Qcf W n0 m0 B P S):=h;have HAm:Hid (∀ q,∀ x∈Qcg S.c R q,-1000000000000000≤x.amt∧x.amt≤1000000000000000):=fun q x hx=>by
  obtain ⟨m1,m2,_⟩:=bsOf_mem hx
  have:=Qbl.1 (erE_ok c0' m1 m2)
  unfold Qah at this;exact this
 have hpl:=pusOf_len S.c R;have hnd:(Qa6 S.c R).Nodup:=(erU_grp S.c R).nodup;clear h ok hR hok HE HCl c0 c0';go_enter func95,ntmps95
 go_wp2_with fail;refine HE2.out.mono ?_;rintro e w1 ⟨bm,vs,rfl,hm⟩;clear HE2;go_wp2_with fail;refine (HK.out bm w1).mono ?_;rintro e w2 ⟨rfl,hw2⟩;have HB2:Hid (Below W.heap.size W w2∧PuMp w2 W.heap.size bm (erU S.c R) vs):=by
  unfold Hid;rw [hw2];exact ⟨hm.out.1.alloc hm.out.1.size _,hm.out.2.below ((Below.refl _ w1).alloc (Nat.le_refl _) _)⟩
 have HS:Hid (Calls prog 147 #[.func (.func 181) #[] #[.pointer (some ⟨w1.heap.size,0,none⟩)],.func (.func 149) #[] #[]] w2 fun e w'=>∃ a c,e=.returned (.slice a (QcA (Qa6 S.c R)).length c)∧Hid (Qe5 w' w2.heap.size (.slice a (QcA (Qa6 S.c R)).length c) (QcA (Qa6 S.c R))∧(QcA (Qa6 S.c R)).Perm (Qa6 S.c R)∧Below w2.heap.size w2 w')):=by
  refine sortedU w1.heap.size bm (erU S.c R) vs w2 (by rw [hw2];simp) ?_ HB2.out.2.map (by unfold Qa6 at hpl;rw [List.length_map] at hpl;omega) hnd
  rw [hw2];unfold World.cell?;rw [World.alloc_heap_new];rfl
 clear HK hw2 hm;go_wp2_with fail;refine HS.out.mono ?_;rintro e w3 ⟨sa,sc,rfl,h3⟩;have hsl:(QcA (Qa6 S.c R)).length≤200:=by have:=h3.out.2.1.length_eq;omega
 have HB3:Hid (Below W.heap.size W w3):=HB2.out.1.trans (h3.out.2.2.mono HB2.out.1.size);have HM3:Hid (PuMp w3 W.heap.size bm (erU S.c R) vs):=HB2.out.2.below h3.out.2.2;have HI0:Hid (ClIn w3 S R pe (.slice none 0 0) 0 [] w3):=⟨Qb3.nil _ _,rfl,Below.refl _ _,rfl⟩;have HR3:Hid (Qe5 w3 w2.heap.size (.slice sa (QcA (Qa6 S.c R)).length sc) (QcA (Qa6 S.c R))∧∀ q∈QcA (Qa6 S.c R),q∈Qa6 S.c R):=⟨h3.out.1,fun q hq=>h3.out.2.1.mem_iff.1 hq⟩
 have hsi:((QcA (Qa6 S.c R)).length:Int)≤200:=by omega
 clear HS HB2 h3 hnd hpl;go_wp2;go_loopw [10,28] (fun v i wr=>∃ (k:Nat) (L:List Je) (q:Value),q=v∧k≤(QcA (Qa6 S.c R)).length∧i=.int .i64 k∧Hid (ClIn w3 S R pe q k L wr)) (fun _ i _=>(QcA (Qa6 S.c R)).length - (RowKit.intOf i).toNat)
 case atStart=>exact ⟨0,[],_,rfl,Nat.zero_le _,rfl,HI0⟩
 case round=>
  obtain ⟨k,L,v,rfl,hk,rfl,HI⟩:=hrel;clear HI0;have hLk:=HI.out.len hk;obtain ⟨va,vc,ev,_⟩:=HI.out.made.isJs;subst ev;by_cases hlt:k<(QcA (Qa6 S.c R)).length
  ·obtain ⟨q,hq⟩:∃ q,(QcA (Qa6 S.c R)).getD k pu0=q:=⟨_,rfl⟩;have hqm:q∈QcA (Qa6 S.c R):=by rw [← hq,List.getD_eq_getElem?_getD,List.getElem?_eq_getElem hlt];exact List.getElem_mem hlt
   rcases own_cells HR3.out.1 with ⟨_,h0⟩ | ⟨g,c1,e1,_,_,hglt,_,hcell⟩
   ·omega
   injection e1 with e1 e2 e3
   subst e1;subst e3;clear e2;have hblk:=HI.out.bel.block g hglt;have d0:wr.cell? ⟨g,k*2,none⟩=some (.int .i64 q.1):=hcell wr hblk _ _ (by have:=QdP (QcA (Qa6 S.c R)) k 0 hlt (by decide);rw [hq] at this;exact this)
   have d1:wr.cell? ⟨g,k*2+1,none⟩=some (.string q.2):=hcell wr hblk _ _ (by have:=QdP (QcA (Qa6 S.c R)) k 1 hlt (by decide);rw [hq] at this;exact this)
   obtain ⟨p,hp,ekey⟩:=List.mem_map.1 (HR3.out.2 q hqm);obtain ⟨i,hi,rfl⟩:=List.getElem_of_mem hp;have ebs:((erU S.c R)[i]).bs=Qcg S.c R q:=by
    have:=(erU_grp S.c R).bs _ (List.getElem_mem hi)
    rw [ekey] at this;exact this
   obtain ⟨V,hV⟩:∃ V,wr.alloc (.cells #[.int .i64 q.1,.string q.2] 233)=V:=⟨_,rfl⟩;have bV:Below wr.heap.size wr V:=by rw [← hV];exact (Below.refl _ wr).alloc (Nat.le_refl _) _
   have b3V:Below w3.heap.size w3 V:=HI.out.bel.trans (bV.mono HI.out.bel.size);have hmV:=HM3.out.below b3V;have hlk:=run_ulook hmV hi;rw [ekey] at hlk;have hrow:=hmV.rows i hi;rw [ebs] at hrow;obtain ⟨ba,bc,evs,hbl⟩:=Qba.isBl (show Qba V W.heap.size (vs i) (Qcg S.c R q) from hrow)
   rw [evs] at hlk;have hbll:(Qcg S.c R q).length≤1000:=by
    unfold Qcg;have q1:=List.length_filter_le (fun x=>decide (x.pur=q)) (R.filter (Qbi S.c))
    have q2:=List.length_filter_le (Qbi S.c) R;omega
   have jV:Qcf V n0 m0 B P S:=HJ.out.below (HB3.out.trans (b3V.mono HB3.out.size));have HC:Hid (Calls prog 150 #[.pointer (some ⟨B,0,none⟩),.slice ba (Qcg S.c R q).length bc] V fun e w'=>Below V.heap.size V w'∧(cgE (Qcg S.c R q)≠0→e=.returned (.tuple #[.slice none 0 0,.iface 66 (.int .i64 (cgE (Qcg S.c R q)))]))∧(cgE (Qcg S.c R q)=0→∃ v,e=.returned (.tuple #[v,.nilIface])∧Qag w' V.heap.size v (cgL S.kept (Qcg S.c R q)))):=clearing_any jV ba (Qcg S.c R q) bc hbl hbll (HAm.out q)
   have HV:Hid (V.heap[wr.heap.size]? = some (.cells #[.int .i64 q.1,.string q.2] 233 (0,0))):=by unfold Hid;rw [← hV];exact World.alloc_heap_new wr _
   have HBV:Hid (Below w3.heap.size w3 V∧Below wr.heap.size wr V):=⟨b3V,bV⟩;have HW:Hid (wr.alloc (.cells #[.int .i64 q.1,.string q.2] 233)=V):=hV;have hAt:cgAt S.c R k=cgE (Qcg S.c R q):=by unfold cgAt;rw [hq]
   have HBad:Hid (cgE (Qcg S.c R q)≠0→∀ U,Below V.heap.size V U→QaS (QcQ S.c R) (Qgi S.c S.kept pe R) W (.returned (.tuple #[.slice none 0 0,.iface 66 (.int .i64 (cgE (Qcg S.c R q)))])) U):=fun hz U hU=>by
    refine HErr.out _ U hz ?_ (HB3.out.trans ((b3V.trans (hU.mono b3V.size)).mono HB3.out.size));rw [HCl2.out];exact (Qcp (f:=cgAt S.c R) HI.out.ok (by rw [hAt];exact hz) hlt).trans hAt
   have HStep:Hid (cgE (Qcg S.c R q)=0→∀ U U2 v' a c,Below V.heap.size V U→Qag U V.heap.size (.slice a (cgL S.kept (Qcg S.c R q)).length c) (cgL S.kept (Qcg S.c R q))→∀ o,U2.ownsRow w3.heap.size 59 4 v' (L.length+1) (Qby L++(Je.mk ByteArray.empty q.1 pe a c (cgL S.kept (Qcg S.c R q))).cells.toList)→(U.alloc o).grownBy U2 (Value.slice va L.length vc).ownBlock→ClIn w3 S R pe v' (k+1) (L++[⟨ByteArray.empty,q.1,pe,a,c,cgL S.kept (Qcg S.c R q)⟩]) U2):=fun hz U U2 v' a c hU hl o ho hg=>by
    have bU:Below wr.heap.size wr U:=bV.trans (hU.mono bV.size);have b3U:Below w3.heap.size w3 U:=b3V.trans (hU.mono b3V.size);have bo:Below U.heap.size U (U.alloc o):=(Below.refl _ U).alloc (Nat.le_refl _) _;exact HI.out.step hlt hq hz (bU.trans (bo.mono bU.size)) ((hl.mono b3V.size).below bo) (b3U.trans (bo.mono b3U.size)) ho hg
   have HMd:Hid (∀ U o,Below V.heap.size V U→World.ownsRow (U.alloc o) w3.heap.size 59 4 (.slice va L.length vc) L.length (Qby L)∧w3.heap.size≤(U.alloc o).heap.size):=fun U o hU=>by
    have bU:Below wr.heap.size wr U:=bV.trans (hU.mono bV.size);have b3U:Below w3.heap.size w3 U:=b3V.trans (hU.mono b3V.size);refine ⟨World.ownsRow.alloc (HI.out.made.below bU).row _,?_⟩
    have:=b3U.size
    simp;omega
   have i0:(0:Int)≤k:=by omega
   have i1:(k:Int)<(QcA (Qa6 S.c R)).length:=by omega
   have hL200:L.length≤200:=by omega
   have hLi:Hid (L.length=k):=hLk;clear hblk hcell hqm hp ekey ebs hV bV b3V hmV hrow evs hbl hbll jV hAt HI hq hLk hi HAm HErr HM3 HR3;generalize cgL S.kept (Qcg S.c R q)=cl at *
   generalize cgE (Qcg S.c R q)=z at *
   generalize (Qcg S.c R q).length=bn at *
   obtain ⟨q0,q1⟩:=q;simp only [puV] at d0 d1 HV HW HStep hlk;go_upto_region 8 with fail
   rw [HW.out];clear HW d0 d1;have e0:V.cell? ⟨wr.heap.size,0,none⟩=some (.int .i64 q0):=by simp [World.cell?,HV.out]
   have e1:V.cell? ⟨wr.heap.size,1,none⟩=some (.string q1):=by simp [World.cell?,HV.out]
   have hwV:wr.heap.size<V.heap.size:=(Array.getElem?_eq_some_iff.1 HV.out).1;by_cases cz:z≠0
   ·have HC2:Hid (Calls prog 150 #[.pointer (some ⟨B,0,none⟩),.slice ba bn bc] V fun e w'=>e=.returned (.tuple #[.slice none 0 0,.iface 66 (.int .i64 z)])∧Hid (QaS (QcQ S.c R) (Qgi S.c S.kept pe R) W (.returned (.tuple #[.slice none 0 0,.iface 66 (.int .i64 z)])) w')):=by
     refine HC.out.mono ?_;rintro e w' ⟨h1,h2,_⟩;exact ⟨h2 cz,HBad.out cz w' h1⟩
    clear HC HStep HMd HBad HV HBV;go_wp2_with fail;refine HC2.out.mono ?_;rintro e w5 ⟨rfl,h5⟩;clear HC2;go_wp2;go_ret2;exact h5.out
   have cz':=Decidable.of_not_not cz;subst cz';have HC2:Hid (Calls prog 150 #[.pointer (some ⟨B,0,none⟩),.slice ba bn bc] V fun e w'=>∃ a c,e=.returned (.tuple #[.slice a cl.length c,.nilIface])∧Hid (Below V.heap.size V w'∧Qag w' V.heap.size (.slice a cl.length c) cl)):=by
    refine HC.out.mono ?_;rintro e w' ⟨h1,_,h3⟩;obtain ⟨v,rfl,h4⟩:=h3 rfl;obtain ⟨a,c,rfl,_⟩:=h4.isLn;exact ⟨a,c,rfl,h1,h4⟩
   have HSt:Hid (∀ U U2 v' a c,Below V.heap.size V U→Qag U V.heap.size (.slice a cl.length c) cl→∀ o,U2.ownsRow w3.heap.size 59 4 v' (L.length+1) (Qby L++(Je.mk ByteArray.empty q0 pe a c cl).cells.toList)→(U.alloc o).grownBy U2 (Value.slice va L.length vc).ownBlock→ClIn w3 S R pe v' (k+1) (L++[⟨ByteArray.empty,q0,pe,a,c,cl⟩]) U2):=HStep.out rfl;clear HC HStep HBad;go_wp2_with fail;refine HC2.out.mono ?_
   rintro e w5 ⟨la,lc,rfl,h5⟩;have x0:w5.cell? ⟨wr.heap.size,0,none⟩=some (.int .i64 q0):=(h5.out.1.cell (p:=⟨wr.heap.size,0,none⟩) hwV).trans e0;obtain ⟨w6,hw6⟩:∃ w6,w5.alloc (.cells #[.string ByteArray.empty,.int .i64 q0,.int .i64 pe,.slice la cl.length lc] 59)=w6:=⟨_,rfl⟩;have HO:Hid (World.ownsRow w6 w3.heap.size 59 4 (.slice (some ⟨0,0,none⟩) L.length vc) L.length (Qby L)∨World.ownsRow w6 w3.heap.size 59 4 (.slice va L.length vc) L.length (Qby L)):=.inr (by rw [← hw6];exact (HMd.out w5 _ h5.out.1).1)
   have HRw:Hid (World.ownsRow w6 w3.heap.size 59 4 (.slice va L.length vc) L.length (Qby L)):=by unfold Hid;rw [← hw6];exact (HMd.out w5 _ h5.out.1).1
   have HSz:Hid (w3.heap.size≤w6.heap.size):=by unfold Hid;rw [← hw6];exact (HMd.out w5 _ h5.out.1).2
   have hn6:w6.heap[w5.heap.size]? = some (.cells #[.string ByteArray.empty,.int .i64 q0,.int .i64 pe,.slice la cl.length lc] 59 (0,0)):=by rw [← hw6];exact World.alloc_heap_new w5 _
   have HNw:Hid (∀ j u,(Je.mk ByteArray.empty q0 pe la lc cl).cells.toList[j]? = some u→w6.cell? ((⟨w5.heap.size,0,none⟩:Addr).add j)=some u):=World.news_of_block hn6;have Hone:Hid (∀ u∈(Je.mk ByteArray.empty q0 pe la lc cl).cells.toList,u.oneCell'=true):=je_one _;have HFin:Hid (∀ v' U2,U2.ownsRow w3.heap.size 59 4 v' (L.length+1) (Qby L++(Je.mk ByteArray.empty q0 pe la lc cl).cells.toList)→w6.grownBy U2 (Value.slice va L.length vc).ownBlock→Hid (ClIn w3 S R pe v' (k+1) (L++[⟨ByteArray.empty,q0,pe,la,lc,cl⟩]) U2)):=fun v' U2 h1 h2=>HSt.out w5 U2 v' la lc h5.out.1 h5.out.2 _ h1 (by rw [hw6];exact h2)
   obtain ⟨i0',hi,hz0,hz1,hz2⟩:=info_parts QeO;have Hm1:Hid (L.length+1≤maxLen):=by unfold Hid maxLen;omega
   have Hm2:Hid ((L.length+1)*56≤140737488355328):=by unfold Hid;omega
   clear HC2 h5 HSt HMd HO hn6 HV HBV e0 e1;subst hw6;go_wp2_with (at_builtin;refine wpList_append_own _ rfl _ _ 22 rfl w3.heap.size 59 i0' (.agg #[.string ByteArray.empty,.int .i64 0,.int .i64 0,.slice none 0 0]) 4 56 underlying22 hi hz0 hz1 hz2 rfl (by decide) _ _ _ rfl HRw.out ⟨w5.heap.size,0,none⟩ 1 1 (Je.mk ByteArray.empty q0 pe la lc cl).cells.toList rfl rfl HNw.out Hone.out Hm1.out Hm2.out HSz.out ?_)
   intro v' U2 h1 h2 _;have HN:=HFin.out v' U2 h1 h2;obtain ⟨g',c',rfl⟩:∃ g' c',v'=.slice (some ⟨g',0,none⟩) (L.length+1) c':=by
    rcases h1.2 with ⟨_,h0⟩ | ⟨g',c',_,e,_⟩
    ·omega
    ·exact ⟨g',c',e⟩
   clear h1 h2 HFin HRw HNw Hone x0;go_wp2;go_roundw
   case rel=>exact ⟨k+1,_,_,rfl,by omega,by go_num,HN⟩
   case measure=>simp [RowKit.intOf];omega
  ·have ek:k=(QcA (Qa6 S.c R)).length:=by omega
   subst ek;have i1:¬ ((QcA (Qa6 S.c R)).length:Int)<(QcA (Qa6 S.c R)).length:=by omega
   have HF:Hid (QaS (QcQ S.c R) (Qgi S.c S.kept pe R) W (.returned (.tuple #[.slice va L.length vc,.nilIface])) wr):=by
    have hI:=HI.out;have e1:=hI.ep;rw [List.take_length] at e1;refine ⟨HB3.out.trans (hI.bel.mono HB3.out.size),fun hz=>absurd (HCl2.out.trans hI.ok) hz,fun _=>⟨_,L,rfl,hI.made.mono HB3.out.size,e1,by omega⟩⟩
   clear HI HJ HErr HCl2 HAm HM3 HR3 hLk;go_wp2;go_ret2;exact HF.out
end
end
section
open Go.RowKit Go.Lib Go.Proofs.Tryz
def RtsAt (w:World) (b off:Nat) (l:List Rt):Prop:=∀ k,k<l.length→RtAt w b (off+k*5) (l.getD k rt0)
structure IsRt (w:World) (a:Option Addr) (l:List Rt) (cap:Nat):Prop where
 cap:l.length≤cap
 lies:l=[]∨∃ b off,a=some ⟨b,off,none⟩∧b<w.heap.size∧RtsAt w b off l
theorem IsRt.below {w w':World} {a:Option Addr} {l:List Rt} {cap:Nat} (h:IsRt w a l cap) (hb:Below w.heap.size w w'):IsRt w' a l cap:=by
 refine ⟨h.cap,?_⟩;rcases h.lies with h | ⟨b,off,e,hlt,hc⟩
 ·exact .inl h
 ·exact .inr ⟨b,off,e,by have:=hb.size;omega,fun k hk=>(hc k hk).below hb hlt⟩
def RtsOk (rs:List Rt):Prop:=∀ k,k<rs.length→((rs.getD k rt0).frm.size≤maxLen∧(rs.getD k rt0).dst.size≤maxLen)∧(Lit.int .i64 (rs.getD k rt0).per).wf=true
theorem table_any (a:Option Addr) (cap:Nat) (rs:List Rt) (w:World) (h:IsRt w a rs cap) (hok:RtsOk rs):Calls prog 76 #[.slice a rs.length cap] w (Qc0 w (QeW rs)):=by
 by_cases h1:100<rs.length
 ·exact table_full a rs.length cap rs w rfl h1
 ·rcases h.lies with rfl | ⟨b,off,rfl,hlt,hc⟩
  ·exact table_none a cap w
  ·exact table_some b off cap rs w hlt (by omega) h.cap hc (fun k hk=>(hok k hk).1) (fun k hk=>(hok k hk).2)
def Qig (l:List Rt):List Value:=l.flatMap fun x=>x.cells.toList
theorem rt_five (x:Rt):x.cells.toList.length=5:=rfl
theorem QdQ:∀ l:List Rt,(Qig l).length=l.length*5
 | []=>rfl
 | x :: l=>by
  have:=QdQ l
  unfold Qig at *
  simp only [List.flatMap_cons,List.length_append,rt_five,this,List.length_cons];omega
theorem QgS:∀ (l:List Rt) (k j:Nat),k<l.length→j<5→(Qig l)[k*5+j]? = (l.getD k rt0).cells.toList[j]?
 | [],_,_,h,_=>absurd h (by simp)
 | x :: l,0,j,_,hj=>by
  simp only [Qig,List.flatMap_cons,Nat.zero_mul,Nat.zero_add,List.getD_cons_zero];rw [List.getElem?_append_left (by rw [rt_five];exact hj)]
 | x :: l,k+1,j,h,hj=>by
  have ih:=QgS l k j (by simpa using h) hj
  simp only [Qig,List.flatMap_cons,List.getD_cons_succ] at ih ⊢;rw [List.getElem?_append_right (by rw [rt_five];omega),rt_five,← ih]
  congr 1;omega
theorem rtRow_isRt {W:World} {n0:Nat} {e:TypeId} {v:Value} {l:List Rt} (h:W.ownsRow n0 e 5 v l.length (Qig l)) :
  ∃ a cap,v=.slice a l.length cap∧IsRt W a l cap:=by
 obtain ⟨hlen,⟨rfl,h0⟩ | ⟨g,cap,cur,rfl,hb,hg,hc,hm,hs,ht⟩⟩:=h
 ·have:l=[]:=List.eq_nil_of_length_eq_zero h0
  subst this;exact ⟨none,0,rfl,Nat.le_refl _,.inl rfl⟩
 ·refine ⟨_,cap,rfl,hc,.inr ⟨g,0,rfl,(Array.getElem?_eq_some_iff.1 hg).1,?_⟩⟩;intro k hk;have C:∀ j,j<5→W.cell? ⟨g,0+k*5+j,none⟩=(l.getD k rt0).cells.toList[j]?:=fun j hj=>by
   have e1:(Qig l)[k*5+j]? = cur[k*5+j]?:=by
    rw [← ht,List.getElem?_take,if_pos (by omega)]
    simp
   rw [← QgS l k j hk hj,e1];simp [World.cell?,hg]
  exact ⟨C 0 (by omega),C 1 (by omega),C 2 (by omega),C 3 (by omega),C 4 (by omega)⟩
theorem rt_src {W:World} {b off:Nat} {l:List Rt} (h:RtsAt W b off l):∀ j u,(Qig l)[j]? = some u→W.cell? ((⟨b,off,none⟩:Addr).add j)=some u:=by
 intro j u hj;rw [Addr.add_lit];obtain ⟨q,r,hr,rfl⟩:∃ q r,r<5∧j=q*5+r:=⟨j / 5,j % 5,Nat.mod_lt _ (by omega),by omega⟩
 have hlt:=(List.getElem?_eq_some_iff.1 hj).1;rw [QdQ] at hlt;have hq:q<l.length:=by omega
 rw [QgS l q r hq hr] at hj
 have:=h q hq
 rcases (by omega:r=0∨r=1∨r=2∨r=3∨r=4) with rfl | rfl | rfl | rfl | rfl
 ·rw [← hj,Nat.add_zero,this.c0];rfl
 ·rw [← hj,← Nat.add_assoc,this.c1];rfl
 ·rw [← hj,← Nat.add_assoc,this.c2];rfl
 ·rw [← hj,← Nat.add_assoc,this.c3];rfl
 ·rw [← hj,← Nat.add_assoc,this.c4];rfl
theorem rtRow_one (l:List Rt):∀ u∈Qig l,u.oneCell'=true:=by
 intro u hu;obtain ⟨x,_,hx⟩:=List.mem_flatMap.1 hu;simp only [Rt.cells,List.mem_cons,List.not_mem_nil,or_false] at hx;rcases hx with rfl | rfl | rfl | rfl | rfl <;> rfl
theorem cloneR_any (a:Option Addr) (l:List Rt) (cap:Nat) (w:World) (h:IsRt w a l cap) (hl:l.length≤1000) :
  Calls prog 48 #[.slice a l.length cap] w fun e w'=>∃ a' cap',e=.returned (.slice a' l.length cap')∧IsRt w' a' l cap'∧Below w.heap.size w w':=by
 refine (clone_Rt a l.length cap (Qig l) w (QdQ l) (rtRow_one l) (fun h0=>?_) hl).mono ?_
 ·rcases h.lies with hh | ⟨b,off,rfl,hlt,hc⟩
  ·rw [hh] at h0;exact absurd rfl h0
  ·exact ⟨_,rfl,hlt,rt_src hc⟩
 ·rintro e w' ⟨a',c',rfl,ho,hb⟩;obtain ⟨a2,c2,e2,h2⟩:=rtRow_isRt ho;cases e2;exact ⟨a',c',rfl,h2,hb⟩
def nwBad (c:List Ac) (rs:List Rt) (base gain kept:ByteArray):Int:=
 if QaC c≠0 then QaC c else if (QeW rs).1≠0 then (QeW rs).1 else if Qat base=false then 2 else if Qaa c gain≠0 then Qaa c gain else if Qaa c kept≠0 then Qaa c kept else if kOf c kept≠3 then 12 else 0
def QdD (c:List Ac) (rs:List Rt) (base gain kept:ByteArray):Cs:=⟨c,QeW rs,base,gain,kept,[],[],[],[],[]⟩
theorem nwBad_ok {c:List Ac} {rs:List Rt} {base gain kept:ByteArray} (h:nwBad c rs base gain kept=0):ClOk (QdD c rs base gain kept)∧kOf c kept=3:=by
 unfold nwBad at h;split at h
 ·contradiction
 rename_i h1;split at h
 ·contradiction
 rename_i h2;split at h
 ·cases h
 rename_i h3;split at h
 ·contradiction
 rename_i h4;split at h
 ·contradiction
 rename_i h5;split at h
 ·cases h
 rename_i h6;have hc:=Decidable.of_not_not h1;refine ⟨⟨hc,Decidable.of_not_not h2,(tabS_good rs).1,(show Qat base=true by simpa using h3),Decidable.of_not_not h4,Decidable.of_not_not h5,?_,?_,?_,by simp [QdD],by simp [QdD],by simp [QdD],fun p=>by simp [QdD,Qa2],by simp [QdD]⟩,Decidable.of_not_not h6⟩
 ·unfold Qcx QdD;rw [if_neg h1];rfl
 ·unfold Qea QdD;rw [if_neg h1];rfl
 ·unfold Qcw QdD;rw [if_neg h1];rfl
theorem make_refs (w:World):(Instr.makeMap 117 none).run prog w=.ok (.map (some w.heap.size)) (w.alloc (.map #[] 0)):=by
 simp [Instr.makeMap,run_underlying underlying117,asInt,asIntOf,Result.andThen]
theorem make_stages (w:World):(Instr.makeMap 118 none).run prog w=.ok (.map (some w.heap.size)) (w.alloc (.map #[] 0)):=by
 simp [Instr.makeMap,run_underlying underlying118,asInt,asIntOf,Result.andThen]
def cpNew (a:Option Addr) (cap:Nat) (ra:Option Addr) (rl rc bm bs:Nat):Cp:=⟨a,cap,ra,rl,rc,none,0,none,0,none,0,none,0,bm,bs⟩
theorem new_at {w w8 w11:World} {c:List Ac} {rs:List Rt} {base gain kept:ByteArray} {a ra:Option Addr} {cap rc:Nat} (hok:RtsOk rs) (hs:Qcm w8 a c cap) (hr:IsRt w8 ra rs rc) (hb:Below w.heap.size w w8)
  (h11:w11=((w8.alloc (.map #[] 0)).alloc (.map #[] 0)).alloc (.cells (Qbq (cpNew a cap ra rs.length rc w8.heap.size (w8.heap.size+1)) (QdD c rs base gain kept)) 123)) :
  Qcf w11 w.heap.size w11.heap.size (w8.heap.size+2) (cpNew a cap ra rs.length rc w8.heap.size (w8.heap.size+1)) (QdD c rs base gain kept)∧Below w.heap.size w w11:=by
 have e1:(w8.alloc (.map #[] 0)).heap.size=w8.heap.size+1:=by simp
 have e2:((w8.alloc (.map #[] 0)).alloc (.map #[] 0)).heap.size=w8.heap.size+2:=by simp
 have e3:w11.heap.size=w8.heap.size+3:=by rw [h11];simp
 have hz:=hb.size;have b8:Below w8.heap.size w8 w11:=by rw [h11];exact (((Below.refl _ w8).alloc (Nat.le_refl _) _).alloc (by simp) _).alloc (by simp;omega) _
 have hbox:w11.heap[w8.heap.size+2]? = some (.cells (Qbq (cpNew a cap ra rs.length rc w8.heap.size (w8.heap.size+1)) (QdD c rs base gain kept)) 123 (0,0)):=by
  have:=World.alloc_heap_new ((w8.alloc (.map #[] 0)).alloc (.map #[] 0)) (.cells (Qbq (cpNew a cap ra rs.length rc w8.heap.size (w8.heap.size+1)) (QdD c rs base gain kept)) 123)
  rw [e2] at this;rw [h11];exact this
 have hm1:w11.heap[w8.heap.size]? = some (.map #[] 0):=by
  rw [h11,QaZ _ _ _ (by rw [e2];omega),QaZ _ _ _ (by rw [e1];omega)]
  exact World.alloc_heap_new w8 _
 have hm2:w11.heap[w8.heap.size+1]? = some (.map #[] 0):=by
  rw [h11,QaZ _ _ _ (by rw [e2];omega)]
  have:=World.alloc_heap_new (w8.alloc (.map #[] 0)) (.map #[] 0)
  rw [e1] at this;exact this
 refine ⟨⟨hbox,⟨[],⟨#[],0,hm1,rfl,by simp⟩,fun s=>Iff.rfl⟩,hm2,QbG.nil _ _,by simp [QdD],fun U hU=>?_,⟨by omega,by omega⟩,⟨by show w.heap.size≤w8.heap.size;omega,by show w8.heap.size<_;omega⟩,⟨by show w.heap.size≤w8.heap.size+1;omega,by show w8.heap.size+1<_;omega⟩,Nat.le_refl _,by show w8.heap.size≠w8.heap.size+1;omega⟩,hb.trans (b8.mono hz)⟩
 have bU:Below w8.heap.size w8 U:=by
  refine b8.trans ⟨hU.os,hU.tape,hU.output,hU.size,fun b hlt=>hU.block b (by omega) ?_⟩
  rintro (h | h | h | h)
  ·omega
  ·have:b=w8.heap.size:=h
   omega
  ·have:b=w8.heap.size+1:=h
   omega
  ·omega
 exact ⟨hs.below bU,fun V hV=>table_any ra rc rs V ((hr.below bU).below hV) hok,⟨Nat.le_refl _,.inl rfl⟩,⟨Nat.le_refl _,.inl rfl,by simp [QdD]⟩,isPr_nil U⟩
def NwEnd (c:List Ac) (rs:List Rt) (base gain kept:ByteArray) (nb:Int) (w:World) (e:Ending) (w':World):Prop:=
 (nb≠0→e=.returned (.tuple #[.pointer none,chE nb])∧Below w.heap.size w w') ∧
 (nb=0→∃ B P,e=.returned (.tuple #[.pointer (some ⟨B,0,none⟩),.nilIface])∧Hid (Qcf w' w.heap.size w'.heap.size B P (QdD c rs base gain kept)∧Below w.heap.size w w'∧P.ea=none∧P.ec=0))
set_option maxHeartbeats 8000000 in
theorem new_any (a ra:Option Addr) (cap rc:Nat) (c:List Ac) (rs:List Rt) (base gain kept:ByteArray) (w:World) (h:Qcm w a c cap) (hr:IsRt w ra rs rc) (hok:RtsOk rs) :
  Calls prog 16 #[.slice a c.length cap,.slice ra rs.length rc,.string base,.string gain,.string kept] w (NwEnd c rs base gain kept (nwBad c rs base gain kept) w):=by
 obtain ⟨nb,hnb⟩:∃ nb,nwBad c rs base gain kept=nb:=⟨_,rfl⟩;rw [hnb];have HNB:Hid ((if QaC c≠0 then QaC c else if (QeW rs).1≠0 then (QeW rs).1 else if Qat base=false then 2 else if Qaa c gain≠0 then Qaa c gain else if Qaa c kept≠0 then Qaa c kept else if kOf c kept≠3 then 12 else 0)=nb):=hnb
 clear hnb;by_cases c0:QaC c≠0
 ·have HC:Hid (Calls _ _ _ _ _):=Qbx a cap c w h c0;have er:nb=QaC c:=by rw [← HNB.out,if_pos c0]
  rw [← er] at HC c0;rw [QaA c0] at HC;clear h hr hok HNB er;go_enter func16,ntmps16
  go_wp2_with fail;refine HC.out.mono ?_;rintro e w1 ⟨rfl,hb1⟩;have HB:Hid (Below w.heap.size w w1):=hb1;clear hb1 HC;go_wp2;go_ret2;exact And.intro (fun _=>⟨by rw [QaA c0];rfl,HB.out⟩) (fun h=>absurd h c0)
 have c0':=Decidable.of_not_not c0;have HC:Hid (Calls _ _ _ _ _):=QbK a cap c w h c0';have HR1:Hid ((if (QeW rs).1≠0 then (QeW rs).1 else if Qat base=false then 2 else if Qaa c gain≠0 then Qaa c gain else if Qaa c kept≠0 then Qaa c kept else if kOf c kept≠3 then 12 else 0)=nb):=by
  have:=HNB.out;rw [if_neg c0] at this;exact this
 have HCk:Hid (∀ U,Below w.heap.size w U→Calls prog 44 #[.slice ra rs.length rc] U fun e w'=>e=.returned (chE (QeW rs).1)∧Below U.heap.size U w'):=fun U hU=>by
  refine (Qhh ra rs.length rc (QeW rs) U (table_any ra rc rs U (hr.below hU) hok)).mono ?_;rintro e w' ⟨rfl,hb⟩;exact ⟨rfl,hb⟩
 clear HNB;by_cases c1:(QeW rs).1≠0
 ·have er:nb=(QeW rs).1:=by rw [← HR1.out,if_pos c1]
  rw [← er] at HCk c1;rw [QaA c1] at HCk;clear h hr hok HR1 er c0 c0';go_enter func16,ntmps16
  go_wp2_with fail;refine HC.out.mono ?_;rintro e w1 ⟨B1,B2,rfl,_,hb1⟩;go_wp2_with fail;refine (HCk.out w1 hb1).mono ?_;rintro e w2 ⟨rfl,hb2⟩;have HB:Hid (Below w.heap.size w w2):=hb1.trans (hb2.mono hb1.size);clear hb1 hb2 HC HCk;go_wp2;go_ret2;exact And.intro (fun _=>⟨by rw [QaA c1];rfl,HB.out⟩) (fun h=>absurd h c1)
 have c1':=Decidable.of_not_not c1;rw [c1',QbD] at HCk;have HR2:Hid ((if Qat base=false then 2 else if Qaa c gain≠0 then Qaa c gain else if Qaa c kept≠0 then Qaa c kept else if kOf c kept≠3 then 12 else 0)=nb):=by
  have:=HR1.out;rw [if_neg c1] at this;exact this
 have HU:Hid (∀ U,Calls prog 45 #[.string base] U fun e w'=>e=.returned (.bool (Qat base))∧Below U.heap.size U w'):=fun U=>Qdg base U
 have hr100:rs.length≤100:=by
  by_cases h1:100<rs.length
  ·rw [tabS_full h1] at c1';cases c1'
  ·omega
 clear HR1 c1 c1';cases c2:Qat base
 ·have er:nb=2:=by rw [← HR2.out,c2,if_pos rfl]
  subst er;rw [c2] at HU;clear h hr hok HR2 c0 c0';go_enter func16,ntmps16
  go_wp2_with fail;refine HC.out.mono ?_;rintro e w1 ⟨B1,B2,rfl,_,hb1⟩;go_wp2_with fail;refine (HCk.out w1 hb1).mono ?_;rintro e w2 ⟨rfl,hb2⟩;go_wp2_with fail;refine (HU.out w2).mono ?_;rintro e w3 ⟨rfl,hb3⟩;have hb2':=hb1.trans (hb2.mono hb1.size);have HB:Hid (Below w.heap.size w w3):=hb2'.trans (hb3.mono hb2'.size);clear hb1 hb2 hb2' hb3 HC HCk HU;go_wp2;go_ret2;exact And.intro (fun _=>⟨by rw [QaA (by decide)];rfl,HB.out⟩) (fun h=>absurd h (by decide))
 rw [c2] at HU;have HR3:Hid ((if Qaa c gain≠0 then Qaa c gain else if Qaa c kept≠0 then Qaa c kept else if kOf c kept≠3 then 12 else 0)=nb):=by
  have:=HR2.out;rw [c2,if_neg (by decide)] at this;exact this
 have HSl:Hid (Qcm w a c cap):=h;have HRt:Hid (IsRt w ra rs rc):=hr;have HOk:Hid (RtsOk rs):=hok;have hcl:=Qcy c0';have HKi:Hid (∀ U,Below w.heap.size w U→Calls prog 46 #[.slice a c.length cap] U fun e w'=>∃ bm,e=.returned (.map (some bm))∧KMap w' bm c∧Below w.heap.size w w'):=fun U hU=>by
  refine (kinds_any a cap c U (h.below hU) c0').mono ?_;rintro e w' ⟨bm,rfl,hk,_,hb⟩;exact ⟨bm,rfl,hk,hU.trans (hb.mono hU.size)⟩
 clear h hr hok HR2 c0 c0' c2;have eg:∀ args W,(callFunc 73 args).run prog W=.ok (.enter 73 args) W:=fun args W=>Qa8 func73 (by kernel_rfl) ⟨_,rfl⟩ args W
 have i0:∀ W,(Instr.index 110 (.agg #[.string gain,.string kept]) (.int .i64 0)).run prog W=.ok (.string gain) W:=fun _=>by kernel_rfl
 have i1:∀ W,(Instr.index 110 (.agg #[.string gain,.string kept]) (.int .i64 1)).run prog W=.ok (.string kept) W:=fun _=>by kernel_rfl
 go_enter func16,ntmps16
 go_wp2_with fail;refine HC.out.mono ?_;rintro e w1 ⟨B1,B2,rfl,hlf,hb1⟩;go_wp2_with fail;refine (HCk.out w1 hb1).mono ?_;rintro e w2 ⟨rfl,hb2⟩;go_wp2_with fail;refine (HU.out w2).mono ?_;rintro e w3 ⟨rfl,hb3⟩;have hb2':=hb1.trans (hb2.mono hb1.size);have HB3:Hid (Below w.heap.size w w3):=hb2'.trans (hb3.mono hb2'.size);have hlf3:=(hlf.below hb2).below hb3;have HLf:Hid (∀ code U,Below w3.heap.size w3 U→Calls prog 73 #[.string code,.pointer (some ⟨B1,0,none⟩),.pointer (some ⟨B2,0,none⟩)] U fun e w'=>e=.returned (chE (Qaa c code))∧Below w3.heap.size w3 w'):=fun code U hU=>by
  refine (QgU c code B1 B2 U (hlf3.below hU)).mono ?_;rintro e w' ⟨rfl,hb⟩;exact ⟨rfl,hU.trans (hb.mono hU.size)⟩
 clear hb1 hb2 hb2' hb3 hlf hlf3 HC HCk HU;have HF:Hid (Calls _ _ _ _ _):=HLf.out gain w3 (Below.refl _ _);go_wp2;refine wp_loop_rounds 3 ?_;rw [rounds_succ];by_cases c2:Qaa c gain≠0
 ·have er:nb=Qaa c gain:=by rw [← HR3.out,if_pos c2]
  rw [← er] at HF c2;rw [QaA c2] at HF;have HE:Hid (∀ U,Below w3.heap.size w3 U→Below w.heap.size w U):=fun U hU=>HB3.out.trans (hU.mono HB3.out.size)
  clear HR3 HLf er;go_wp2_with fail;go_at_fn 73
  refine HF.out.mono ?_;rintro e w' ⟨rfl,hb'⟩;have HB4:Hid (Below w.heap.size w w'):=HE.out w' hb';clear hb' HE HF;go_wp2;go_ret2;exact And.intro (fun _=>⟨by rw [QaA c2];rfl,HB4.out⟩) (fun h=>absurd h c2)
 have c2':=Decidable.of_not_not c2;rw [c2',QbD] at HF;have HR4:Hid ((if Qaa c kept≠0 then Qaa c kept else if kOf c kept≠3 then 12 else 0)=nb):=by
  have:=HR3.out;rw [if_neg c2] at this;exact this
 clear HR3 c2 c2';go_wp2_with fail;go_at_fn 73
 refine HF.out.mono ?_;rintro e w4 ⟨rfl,hb4⟩;have HF:Hid (Calls _ _ _ _ _):=HLf.out kept w4 hb4;clear hb4 HLf;go_wp2;rw [rounds_succ];by_cases c3:Qaa c kept≠0
 ·have er:nb=Qaa c kept:=by rw [← HR4.out,if_pos c3]
  rw [← er] at HF c3;rw [QaA c3] at HF;have HE:Hid (∀ U,Below w3.heap.size w3 U→Below w.heap.size w U):=fun U hU=>HB3.out.trans (hU.mono HB3.out.size)
  clear HR4 er;go_wp2_with fail;go_at_fn 73
  refine HF.out.mono ?_;rintro e w' ⟨rfl,hb'⟩;have HB4:Hid (Below w.heap.size w w'):=HE.out w' hb';clear hb' HE HF;go_wp2;go_ret2;exact And.intro (fun _=>⟨by rw [QaA c3];rfl,HB4.out⟩) (fun h=>absurd h c3)
 have c3':=Decidable.of_not_not c3;rw [c3',QbD] at HF;have HR5:Hid ((if kOf c kept≠3 then 12 else 0)=nb):=by
  have:=HR4.out;rw [if_neg c3] at this;exact this
 clear HR4 c3 c3';go_wp2_with fail;go_at_fn 73
 refine HF.out.mono ?_;rintro e w5 ⟨rfl,hb5⟩;have HB5:Hid (Below w.heap.size w w5):=HB3.out.trans (hb5.mono HB3.out.size);clear hb5 HF HB3;go_wp2;rw [rounds_succ];have HK5:Hid (Calls _ _ _ _ _):=HKi.out w5 HB5.out;clear HKi;go_wp2_with fail;refine HK5.out.mono ?_;rintro e w6 ⟨km,rfl,hkm,hb6⟩;have hlook:=run_klook hkm kept;have HB6:Hid (Below w.heap.size w w6):=hb6;clear HK5 hb6 hkm HB5;by_cases c4:kOf c kept≠3
 ·have er:nb=12:=by rw [← HR5.out,if_pos c4]
  subst er;have c4':(kOf c kept == 3)=false:=by rw [beq_eq_false_iff_ne];exact c4
  clear HR5;generalize kOf c kept=kk at *
  go_wp2;go_ret2;exact And.intro (fun _=>⟨by rw [QaA (by decide)];rfl,HB6.out⟩) (fun h=>absurd h (by decide))
 have er:nb=0:=by rw [← HR5.out,if_neg c4]
 subst er;rw [Decidable.of_not_not c4] at hlook;have HA:Hid (Calls _ _ _ _ _):=Qiy a c cap w6 (HSl.out.below HB6.out) (by omega)
 have HRc:Hid (∀ U,Below w.heap.size w U→Calls prog 48 #[.slice ra rs.length rc] U fun e w'=>∃ a' cap',e=.returned (.slice a' rs.length cap')∧IsRt w' a' rs cap'∧Below U.heap.size U w'):=fun U hU=>cloneR_any ra rs rc U (HRt.out.below hU) (by omega)
 have hmr:=make_refs;have hms:=make_stages;clear HR5 c4 eg i0 i1;go_wp2_with fail;refine HA.out.mono ?_;rintro e w7 ⟨a7,c7,rfl,hs7,hb7⟩;have b7:=HB6.out.trans (hb7.mono HB6.out.size);have HR7:Hid (Calls _ _ _ _ _):=HRc.out w7 b7;clear HA HRc hb7 hlook;go_wp2_with fail;refine HR7.out.mono ?_;rintro e w8 ⟨a8,c8,rfl,hs8,hb8⟩;have HE:Hid (Qcf (((w8.alloc (.map #[] 0)).alloc (.map #[] 0)).alloc (.cells #[.slice a7 c.length c7,.slice a8 rs.length c8,.string base,.string gain,.string kept,.slice none 0 0,.slice none 0 0,.slice none 0 0,.slice none 0 0,.map (some w8.heap.size),.map (some (w8.heap.size+1))] 123)) w.heap.size (((w8.alloc (.map #[] 0)).alloc (.map #[] 0)).alloc (.cells #[.slice a7 c.length c7,.slice a8 rs.length c8,.string base,.string gain,.string kept,.slice none 0 0,.slice none 0 0,.slice none 0 0,.slice none 0 0,.map (some w8.heap.size),.map (some (w8.heap.size+1))] 123)).heap.size (w8.heap.size+2) (cpNew a7 c7 a8 rs.length c8 w8.heap.size (w8.heap.size+1)) (QdD c rs base gain kept)∧Below w.heap.size w (((w8.alloc (.map #[] 0)).alloc (.map #[] 0)).alloc (.cells #[.slice a7 c.length c7,.slice a8 rs.length c8,.string base,.string gain,.string kept,.slice none 0 0,.slice none 0 0,.slice none 0 0,.slice none 0 0,.map (some w8.heap.size),.map (some (w8.heap.size+1))] 123))):=
  new_at HOk.out (hs7.below hb8) hs8 (b7.trans (hb8.mono b7.size)) rfl
 clear HR7 hs7 hs8 hb8 b7 HSl HRt HOk HB6;go_wp2;go_ret2;exact And.intro (fun h=>absurd rfl h) (fun _=>⟨_,cpNew a7 c7 a8 rs.length c8 w8.heap.size (w8.heap.size+1),rfl,HE.out.1,HE.out.2,rfl,rfl⟩)
end
section
open Go.RowKit Go.Lib Go.Proofs.Tryz
end
section
open Go.RowKit Go.Lib Go.Proofs.Tryz
end
end Go.Proofs.YtjifbbdkpanagaaGreatDoor
