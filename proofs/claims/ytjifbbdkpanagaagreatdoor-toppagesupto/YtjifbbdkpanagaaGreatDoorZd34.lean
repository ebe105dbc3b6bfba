/-
  Part of a proof (see the last text).
-/
import Derived.Test.YtjifbbdkpanagaaGreatDoorZd33
set_option linter.unusedVariables false
set_option linter.unusedSimpArgs false
set_option maxRecDepth 100000
namespace Go.Proofs.YtjifbbdkpanagaaGreatDoor
section
open Go.RowKit Go.Lib Go.Proofs.Tryz
structure ClS (W:World) (n0 m0 B:Nat) (P:Cp) (S:Cs):Prop where
 at_:Qcf W n0 m0 B P S
 ev:ClEv S
 tab:∀ U,Below n0 W U→Qh9 U
def zbF (c:List Ac) (R:List Bl):Int:=QcQ c R
def zeF (c:List Ac) (kept:ByteArray) (pe:Int) (R:List Bl):List Ep:=if R.length≤200 then Qgi c kept pe R else []
theorem zeF_of {c:List Ac} {kept:ByteArray} {pe:Int} {R:List Bl} (h:R.length≤200):zeF c kept pe R=Qgi c kept pe R:=if_pos h
theorem zeF_lns (c:List Ac) (kept:ByteArray) (pe:Int) (R:List Bl):∀ x∈zeF c kept pe R,x.lns.length≤1000:=fun x hx=>by
 unfold zeF at hx;split at hx
 ·rename_i hR;obtain ⟨k,_,rfl⟩:=List.mem_map.1 hx;show (cgL kept (Qcg c R k)).length≤1000;have q1:=List.length_filter_le (fun x=>decide (x.pur=k)) (R.filter (Qbi c))
  have q2:=List.length_filter_le (Qbi c) R;unfold cgL;rw [List.length_append,QfL];unfold Qcg
  split <;> simp only [List.length_cons,List.length_nil] <;> omega
 ·cases hx
section
variable {W:World} {n0 m0 B:Nat} {P:Cp} {S:Cs}
theorem ClS.below {W':World} (h:ClS W n0 m0 B P S) (hb:Below W.heap.size W W'):ClS W' n0 m0 B P S:=by
 refine ⟨h.at_.below hb,h.ev,fun U hU=>h.tab U ?_⟩
 have h1:=h.at_.hB;have h2:=h.at_.m0;exact (hb.mono (by omega)).trans hU
theorem clT_ge (h:Qcf W n0 m0 B P S):∀ b,clT B P S.es.length b→n0≤b:=fun b hb=>by
 rcases hb with hb | hb | hb | hb
 ·rw [hb];exact h.hB.1
 ·rw [hb];exact h.hm.1
 ·rw [hb];exact h.hs.1
 ·have:=h.row.own b hb.symm;have:=h.hB;omega
theorem Qcf.low {U:World} (h:Qcf W n0 m0 B P S) (hk:Qa9 (clT B P S.es.length) W U):Below n0 W U:=hk.below (by have:=h.hB;have:=h.m0;omega) (clT_ge h)
theorem ClS.keep {U:World} {P':Cp} {S':Cs} {m1:Nat} (h:ClS W n0 m0 B P S) (hb:Below n0 W U) (h1:Qcf U n0 m1 B P' S') (h2:ClEv S'):ClS U n0 m1 B P' S':=⟨h1,h2,fun V hV=>h.tab V (hb.trans hV)⟩
def AdEnd (W:World) (n0 m0 B:Nat) (P:Cp) (S:Cs) (pe:Int) (e:Ending) (w':World):Prop:=
 (∃ z,z≠0∧e=.returned (.tuple #[.int .i64 0,.iface 66 (.int .i64 z)])∧(Qdd S pe=z∨(Qdd S pe=0∧∃ R,OeR (Qap pe) S.es R∧QdE S pe R (QcQ S.c R) (Qgi S.c S.kept pe R)=z))∧Hid (ClS w' n0 m0 B P S∧Below W.heap.size W w')) ∨
 (∃ (n:Nat) (es:List Je) (ea:Option Addr) (ec:Nat) (R:List Bl),e=.returned (.tuple #[.int .i64 (n:Int),.nilIface])∧Hid (ClS w' n0 m0 B { P with ea:=ea,ec:=ec } { S with es:=es,st:=Qcz S.st pe (Qa2 S.st pe+1) }∧(Below n0 W w'∧Qa9 (clT B P S.es.length) W w') ∧
  Qdd S pe=0∧OeR (Qap pe) S.es R∧QdE S pe R (QcQ S.c R) (Qgi S.c S.kept pe R)=0∧es.length=S.es.length+n∧(∀ k,S.es.length≤k→k<es.length→(es.getD k je0).per=pe∧(es.getD k je0).ref=Qfu k) ∧
  es.map Je.ep=S.es.map Je.ep++rnE S.es.length (Qen S R pe (Qa2 S.st pe+1) (Qgi S.c S.kept pe R)) (Qen S R pe (Qa2 S.st pe+1) (Qgi S.c S.kept pe R)).length))
theorem clAdv_of (hk:EntK S) (h:ClS W n0 m0 B P S) (pe:Int) :
  Calls prog 18 #[.pointer (some ⟨B,0,none⟩),.int .i64 pe] W (AdEnd W n0 m0 B P S pe):=by
 refine (advance_any h.at_ h.ev.ok hk h.tab pe (zbF S.c) (zeF S.c S.kept pe) (zeF_lns S.c S.kept pe) (fun ab R cab U hU hR hO=>?_)).mono ?_
 ·rw [zeF_of hO.len];exact clCleared_any (h.at_.below hU) h.ev.ok ab R cab pe hR hO.len hO.ok
 ·rintro e w' (⟨h1,rfl,hb⟩ | ⟨h0,R,hR,h2⟩)
  ·refine .inl ⟨Qdd S pe,h1,by rw [QaA h1],.inl rfl,h.below hb,hb⟩
  ·rw [zeF_of hR.len] at h2;rcases h2 with ⟨h1,rfl,hb⟩ | ⟨h1,rfl,es,ea,ec,j,hes,hk,_⟩
   ·exact .inl ⟨_,h1,by rw [QaA h1],.inr ⟨h0,R,hR,rfl⟩,h.below hb,hb⟩
   ·obtain ⟨g1,g2,g3⟩:=h.ev.adv h0 hR h1 hes;have hlow:=h.at_.low hk;exact .inr ⟨_,es,ea,ec,R,rfl,h.keep hlow j g1,⟨hlow,hk⟩,h0,hR,h1,g2,g3,hes⟩
def PoEnd (W:World) (n0 m0 B:Nat) (P:Cp) (S:Cs) (r:ByteArray) (en pe:Int) (l:List Ln) (e:Ending) (w':World):Prop:=
 (psB S r en pe l≠0∧e=.returned (.tuple #[.int .i64 0,.iface 66 (.int .i64 (psB S r en pe l))])∧Hid (ClS w' n0 m0 B P S∧Below W.heap.size W w')) ∨
 (psB S r en pe l=0∧e=.returned (.tuple #[.int .i64 (S.es.length:Int),.nilIface])∧∃ ea ec a' c',Hid (ClS w' n0 m0 B { P with ea:=ea,ec:=ec } (S.add ⟨r,en,pe,a',c',l⟩)∧Below n0 W w'))
theorem clPost_ev (h:ClS W n0 m0 B P S) (r:ByteArray) (en pe:Int) (a:Option Addr) (cap:Nat) (l:List Ln) (hl:Qfs W a l cap) :
  Calls prog 17 #[.pointer (some ⟨B,0,none⟩),.agg #[.string r,.int .i64 en,.int .i64 pe,.slice a l.length cap]] W (PoEnd W n0 m0 B P S r en pe l):=by
 refine (clPost_any h.at_ (by have:=h.ev.ok.len;omega) r en pe a cap l hl).mono ?_
 rintro e w' (⟨h1,rfl,hb⟩ | ⟨h1,rfl,g,cp,a',c',j,hk,_⟩)
 ·exact .inl ⟨h1,rfl,h.below hb,hb⟩
 ·have hlow:=h.at_.low hk;exact .inr ⟨h1,rfl,some ⟨g,0,none⟩,cp,a',c',h.keep hlow j (h.ev.post h1 a' c'),hlow⟩
end
end
section
open Go.RowKit Go.Lib Go.Proofs.Tryz
def epBl (x:Ep):List Bl:=x.lns.map fun n=>⟨x.ent,n.acc,n.cur,n.amt⟩
def flatE (pe:Int) (M:List Ep):List Bl:=(M.filter fun x=>decide (x.per≤pe)).flatMap epBl
theorem Qhb (pe:Int):∀ L:List Je,QaR (Qap pe) L=flatE pe (L.map Je.ep)
 | []=>rfl
 | x :: L=>by
  have ih:=Qhb pe L;unfold QaR at ih;unfold flatE at ih;unfold QaR flatE;rw [List.map_cons,List.filter_cons,List.filter_cons]
  cases hp:Qap pe x with
  | true=>
   have hp2:decide (x.ep.per≤pe)=true:=hp;rw [if_pos rfl,if_pos hp2,List.flatMap_cons,List.flatMap_cons,ih];rfl
  | false=>
   have hp2:¬ decide (x.ep.per≤pe)=true:=by
    show ¬ Qap pe x=true;rw [hp];decide
   rw [if_neg (by decide),if_neg hp2]
   exact ih
open Classical in
end
section
open Go.RowKit Go.Lib Go.Proofs.Tryz
set_option maxHeartbeats 4000000 in
theorem plCheck_nil (a a2:Option Addr) (cap cap2:Nat) (c:List Ac) (l:List Pn) (w:World) (h:Qcm w a c cap) (hl:IsPn w a2 l cap2) (hn:Hid (l=[])) (hll:l.length≤9223372036854775807) :
  Calls prog 127 #[.slice a c.length cap,.slice a2 l.length cap2] w fun e w'=>e=.returned (chE (Qcx c l))∧Below w.heap.size w w':=by
 by_cases c0:QaC c≠0
 ·have HC:Hid (Calls _ _ _ _ _):=Qbx a cap c w h c0;have e0:Qcx c l=QaC c:=by unfold Qcx;rw [if_pos c0]
  rw [e0];rw [QaA c0] at HC ⊢;clear h hl e0 c0;generalize QaC c=z at *
  go_enter func127,ntmps127
  go_wp2_with (go_at_call 43;refine HC.out.mono ?_;rintro e w1 ⟨rfl,hb1⟩);go_ret;exact ⟨rfl,hb1⟩
 have HC:Hid (Calls _ _ _ _ _):=QbK a cap c w h (Decidable.of_not_not c0);obtain ⟨res,hres⟩:∃ res,chE (Qcx c l)=res:=⟨_,rfl⟩;have HR1:Hid (chE (if 20<l.length then 4 else Qad (pnBad c l) l.length)=res):=by
  rw [← hres];unfold Qcx;rw [if_neg c0];exact rfl
 rw [hres];have HL:Hid (IsPn w a2 l cap2):=hl;have hcap:=hl.cap;clear hres h hl c0;go_enter func127,ntmps127
 go_wp2_with fail;refine HC.out.mono ?_;rintro e w1 ⟨B1,B2,rfl,hlf,hb1⟩;have HLf:Hid (Lfs w1 B1 B2 c):=hlf;have HB1:Hid (Below w.heap.size w w1):=hb1;clear hlf hb1 HC;by_cases c1:20<l.length
 ·have er:res=chE 4:=by rw [← HR1.out,if_pos c1]
  rw [QaA (by decide)] at er
  subst er;have i1:(20:Int)<l.length:=by omega
  clear HR1;go_wp2;go_ret;exact ⟨rfl,HB1.out⟩
 have HR2:Hid (chE (Qad (pnBad c l) l.length)=res):=by
  have:=HR1.out;rw [if_neg c1] at this;exact this
 have i1:¬ (20:Int)<l.length:=by omega
 have i2:(l.length:Int)≤20:=by omega
 have i3:l.length≤20:=by omega
 clear HR1 c1 hll;have er:res=.nilIface:=by rw [← HR2.out,hn.out];rfl
 have i9:¬ (0:Int)<l.length:=by rw [hn.out];decide
 subst er;clear HR2 HL HLf hn;go_wp2;refine wp_loop_rounds 1 ?_;rw [rounds_succ];go_wp2;go_ret;exact ⟨rfl,HB1.out⟩
set_option maxHeartbeats 4000000 in
theorem plEntries_nil (a a2:Option Addr) (cap cap2:Nat) (c:List Ac) (l:List Pn) (en pe:Int) (w:World) (h:Qcm w a c cap) (hl:IsPn w a2 l cap2) (hn:Hid (l=[])) (hll:l.length≤9223372036854775807) (ht:Qh9 w) :
  Calls prog 89 #[.slice a c.length cap,.slice a2 l.length cap2,.int .i64 en,.int .i64 pe] w (PlEnd c l en pe w):=by
 have HErr:Hid (∀ z W,z≠0→Qci c l en pe=z→Below w.heap.size w W→PlEnd c l en pe w (.returned (.tuple #[.slice none 0 0,.iface 66 (.int .i64 z)])) W):=fun z W h0 h1 h2=>by
  refine ⟨h2,fun _=>by rw [h1,QaA h0],fun e=>absurd (h1.symm.trans e) h0⟩
 have HOk:Hid (∀ v L W,Qci c l en pe=0→Below w.heap.size w W→Qb3 W w.heap.size v L→L.map Je.ep=plTo en pe l l.length→L.length≤20→PlEnd c l en pe w (.returned (.tuple #[v,.nilIface])) W):=fun v L W h1 h2 h3 h4 h5=>
  ⟨h2,fun h0=>absurd h1 h0,fun _=>⟨v,L,rfl,h3,h4,h5⟩⟩
 have HC:Hid (Calls _ _ _ _ _):=plCheck_nil a a2 cap cap2 c l w h hl hn hll;by_cases c1:Qcx c l≠0
 ·have e1:Qci c l en pe=Qcx c l:=by unfold Qci;rw [if_pos c1]
  have HE:Hid (∀ W,Below w.heap.size w W→PlEnd c l en pe w (.returned (.tuple #[.slice none 0 0,.iface 66 (.int .i64 (Qcx c l))])) W):=fun W hW=>HErr.out _ W c1 e1 hW
  rw [QaA c1] at HC;clear h hl c1 e1 HErr HOk;generalize Qcx c l=z at *
  go_enter func89,ntmps89
  go_wp2_with (go_at_call 127;refine HC.out.mono ?_;rintro e w1 ⟨rfl,hb1⟩);go_ret2;exact HE.out _ hb1
 have c1':=Decidable.of_not_not c1;rw [c1',QbD] at HC;have HU1:Hid (∀ W,Calls prog 119 #[.int .i64 en] W fun e w'=>e=.returned (.bool (Qav en 12))∧w'=W):=fun W=>QcG en W
 have HU2:Hid (∀ W,Calls prog 53 #[.int .i64 pe] W fun e w'=>e=.returned (.bool (Qav pe 120))∧w'=W):=fun W=>QbL pe W
 by_cases c3:(Qav en 12 && Qav pe 120)=false
 ·have e1:Qci c l en pe=1:=by unfold Qci;rw [if_neg c1,if_pos c3]
  have HE:Hid (∀ W,Below w.heap.size w W→PlEnd c l en pe w (.returned (.tuple #[.slice none 0 0,.iface 66 (.int .i64 1)])) W):=fun W hW=>HErr.out _ W (by decide) e1 hW
  clear h hl c1 c1' e1 HErr HOk;cases u1:Qav en 12
  ·rw [u1] at HU1;clear c3 u1;go_enter func89,ntmps89
   go_wp2_with (first | (go_at_call 127;refine HC.out.mono ?_;rintro e w1 ⟨rfl,hb1⟩) | (go_at_call 119;refine (HU1.out _).mono ?_;rintro e w' ⟨rfl,rfl⟩));go_ret2;exact HE.out _ hb1
  ·have u2:Qav pe 120=false:=by rw [u1] at c3;simpa using c3
   rw [u1] at HU1;rw [u2] at HU2;clear c3 u1 u2;go_enter func89,ntmps89
   go_wp2_with fail;refine HC.out.mono ?_;rintro e w1 ⟨rfl,hb1⟩;go_wp2_with fail;refine (HU1.out _).mono ?_;rintro e w' ⟨rfl,hw⟩;rw [hw];clear hw w';go_wp2_with fail;refine (HU2.out _).mono ?_;rintro e w' ⟨rfl,hw⟩;rw [hw];clear hw w';go_wp2;go_ret2;exact HE.out _ hb1
 have c3':Qav en 12=true∧Qav pe 120=true:=by simpa using c3
 have HB0:Hid (Qci c l en pe=0):=by unfold Qci Hid;rw [if_neg c1,if_neg c3]
 rw [c3'.1] at HU1;rw [c3'.2] at HU2;obtain ⟨p1,p2,p3⟩:=Qg7 c1';have HPo:Hid (∀ k,k<l.length→pnBad c l k=0):=p3;have HPs:Hid (IsPn w a2 l cap2):=hl;have HTb:Hid (Qh9 w):=ht;have HPe:Hid (Qav pe 120=true∧1≤pe∧pe≤120):=⟨c3'.2,(QgA.1 c3'.2).1,(QgA.1 c3'.2).2⟩;have i2:(l.length:Int)≤20:=by omega
 clear h hl ht c1 c1' c3 c3' p1 p3;obtain ⟨i0,hi,hz0,hz1,hz2⟩:=info_parts QeO;go_enter func89,ntmps89
 go_wp2_with fail;refine HC.out.mono ?_;rintro e w2 ⟨rfl,hb2⟩;clear HC;go_wp2_with fail;refine (HU1.out _).mono ?_;rintro e w' ⟨rfl,hw⟩;rw [hw];clear hw w' HU1;go_wp2_with fail;refine (HU2.out _).mono ?_;rintro e w' ⟨rfl,hw⟩;rw [hw];clear hw w' HU2;have HB2:Hid (Below w.heap.size w w2):=hb2;clear hb2;have i9:¬ (0:Int)<l.length:=by rw [hn.out];decide
 have HEn:Hid _:=HOk.out (.slice none 0 0) [] w2 HB0.out HB2.out (Qb3.nil _ _) (by rw [hn.out];rfl) (by simp)
 clear hn HOk HErr HPo HPs HTb HPe HB0 HB2;go_wp2;refine wp_loop_rounds 1 ?_;rw [rounds_succ];go_wp2;go_ret2;exact HEn.out
set_option maxHeartbeats 4000000 in
theorem alCheck_nil (a a2:Option Addr) (cap cap2:Nat) (c:List Ac) (l:List Po) (w:World) (h:Qcm w a c cap) (hl:IsPs w a2 l cap2) (hn:Hid (l=[])) (hll:l.length≤9223372036854775807) :
  Calls prog 130 #[.slice a c.length cap,.slice a2 l.length cap2] w fun e w'=>e=.returned (chE (Qea c l))∧Below w.heap.size w w':=by
 by_cases c0:QaC c≠0
 ·have HC:Hid (Calls _ _ _ _ _):=Qbx a cap c w h c0;have e0:Qea c l=QaC c:=by unfold Qea;rw [if_pos c0]
  rw [e0];rw [QaA c0] at HC ⊢;clear h hl e0 c0;go_enter func130,ntmps130
  go_wp2_with (go_at_call 43;refine HC.out.mono ?_;rintro e w1 ⟨rfl,hb1⟩);go_ret;exact ⟨rfl,hb1⟩
 have HC:Hid (Calls _ _ _ _ _):=QbK a cap c w h (Decidable.of_not_not c0);obtain ⟨res,hres⟩:∃ res,chE (Qea c l)=res:=⟨_,rfl⟩;have HR1:Hid (chE (if 20<l.length then 4 else Qad (fun k=>QhO c (l.getD k po0)) l.length)=res):=by
  rw [← hres];unfold Qea;rw [if_neg c0];exact rfl
 rw [hres];have HL:Hid (IsPs w a2 l cap2):=hl;clear hres h hl c0;go_enter func130,ntmps130
 go_wp2_with fail;refine HC.out.mono ?_;rintro e w1 ⟨B1,B2,rfl,hlf,hb1⟩;have HLf:Hid (Lfs w1 B1 B2 c):=hlf;have HB1:Hid (Below w.heap.size w w1):=hb1;clear hlf hb1 HC;by_cases c1:20<l.length
 ·have er:res=chE 4:=by rw [← HR1.out,if_pos c1]
  rw [QaA (by decide)] at er
  subst er;have i1:(20:Int)<l.length:=by omega
  clear HR1;go_wp2;go_ret;exact ⟨rfl,HB1.out⟩
 have HR2:Hid (chE (Qad (fun k=>QhO c (l.getD k po0)) l.length)=res):=by
  have:=HR1.out;rw [if_neg c1] at this;exact this
 have i1:¬ (20:Int)<l.length:=by omega
 have i2:(l.length:Int)≤20:=by omega
 clear HR1;have er:res=.nilIface:=by rw [← HR2.out,hn.out];rfl
 have i9:¬ (0:Int)<l.length:=by rw [hn.out];decide
 subst er;clear HR2 HL HLf hn;go_wp2;refine wp_loop_rounds 1 ?_;rw [rounds_succ];go_wp2;go_ret;exact ⟨rfl,HB1.out⟩
set_option maxHeartbeats 4000000 in
theorem alEntries_nil (a a2 a3:Option Addr) (cap cap2 cap3:Nat) (c:List Ac) (l:List Po) (b:List Bl) (en pe:Int) (w:World) (h:Qcm w a c cap) (hl:IsPs w a2 l cap2) (hn:Hid (l=[])) (hll:l.length≤9223372036854775807) (hb:Qcn w a3 b cap3) (hbl:b.length≤9223372036854775807) :
  Calls prog 91 #[.slice a c.length cap,.slice a2 l.length cap2,.slice a3 b.length cap3,.int .i64 en,.int .i64 pe] w (AlEnd c l b en pe w):=by
 have HErr:Hid (∀ z W,z≠0→QbZ c l b en pe=z→Below w.heap.size w W→AlEnd c l b en pe w (.returned (.tuple #[.slice none 0 0,.iface 66 (.int .i64 z)])) W):=fun z W h0 h1 h2=>by
  refine ⟨h2,fun _=>by rw [h1,QaA h0],fun e=>absurd (h1.symm.trans e) h0⟩
 have HOk:Hid (∀ v L W,QbZ c l b en pe=0→Below w.heap.size w W→Qb3 W w.heap.size v L→L.map Je.ep=alTo en pe b l l.length→AlEnd c l b en pe w (.returned (.tuple #[v,.nilIface])) W):=fun v L W h1 h2 h3 h4=>
  ⟨h2,fun h0=>absurd h1 h0,fun _=>⟨v,L,rfl,h3,h4⟩⟩
 have HC:Hid (Calls _ _ _ _ _):=alCheck_nil a a2 cap cap2 c l w h hl hn hll;by_cases c1:Qea c l≠0
 ·have e1:QbZ c l b en pe=Qea c l:=by unfold QbZ;rw [if_pos c1]
  have HE:Hid (∀ W,Below w.heap.size w W→AlEnd c l b en pe w (.returned (.tuple #[.slice none 0 0,.iface 66 (.int .i64 (Qea c l))])) W):=fun W hW=>HErr.out _ W c1 e1 hW
  rw [QaA c1] at HC;clear h hl hb c1 e1 HErr HOk;generalize Qea c l=z at *
  go_enter func91,ntmps91
  go_wp2_with (go_at_call 130;refine HC.out.mono ?_;rintro e w1 ⟨rfl,hb1⟩);go_ret2;exact HE.out _ hb1
 have c1':=Decidable.of_not_not c1;rw [c1',QbD] at HC;have HCb:Hid (∀ W,Below w.heap.size w W→Calls prog 131 #[.slice a3 b.length cap3] W fun e w'=>e=.returned (chE (chk b))∧Below w.heap.size w w'):=fun W hW=>by
  refine (QeM a3 cap3 b W hbl (hb.below hW)).mono ?_;rintro e w' ⟨rfl,h2⟩;exact ⟨rfl,hW.trans (h2.mono hW.size)⟩
 by_cases c2:chk b≠0
 ·have e1:QbZ c l b en pe=chk b:=by unfold QbZ;rw [if_neg c1,if_pos c2]
  have HE:Hid (∀ W,Below w.heap.size w W→AlEnd c l b en pe w (.returned (.tuple #[.slice none 0 0,.iface 66 (.int .i64 (chk b))])) W):=fun W hW=>HErr.out _ W c2 e1 hW
  rw [QaA c2] at HCb;clear h hl hb c1 c1' c2 e1 HErr HOk;generalize chk b=z at *
  go_enter func91,ntmps91
  go_wp2_with (first | (go_at_call 130;refine HC.out.mono ?_;rintro e w1 ⟨rfl,hb1⟩) | (go_at_call 131;refine (HCb.out _ hb1).mono ?_;rintro e w2 ⟨rfl,hb2⟩));go_ret2;exact HE.out _ hb2
 have c2':=Decidable.of_not_not c2;rw [c2',QbD] at HCb;have HU1:Hid (∀ W,Calls prog 119 #[.int .i64 en] W fun e w'=>e=.returned (.bool (Qav en 12))∧w'=W):=fun W=>QcG en W
 have HU2:Hid (∀ W,Calls prog 53 #[.int .i64 pe] W fun e w'=>e=.returned (.bool (Qav pe 120))∧w'=W):=fun W=>QbL pe W
 by_cases c3:(Qav en 12 && Qav pe 120)=false
 ·have e1:QbZ c l b en pe=1:=by unfold QbZ;rw [if_neg c1,if_neg c2,if_pos c3]
  have HE:Hid (∀ W,Below w.heap.size w W→AlEnd c l b en pe w (.returned (.tuple #[.slice none 0 0,.iface 66 (.int .i64 1)])) W):=fun W hW=>HErr.out _ W (by decide) e1 hW
  clear h hl hb c1 c1' c2 c2' e1 HErr HOk;cases u1:Qav en 12
  ·rw [u1] at HU1;clear c3 u1;go_enter func91,ntmps91
   go_wp2_with (first | (go_at_call 130;refine HC.out.mono ?_;rintro e w1 ⟨rfl,hb1⟩) | (go_at_call 131;refine (HCb.out _ hb1).mono ?_;rintro e w2 ⟨rfl,hb2⟩) | (go_at_call 119;refine (HU1.out _).mono ?_;rintro e w' ⟨rfl,rfl⟩));go_ret2;exact HE.out _ hb2
  ·have u2:Qav pe 120=false:=by rw [u1] at c3;simpa using c3
   rw [u1] at HU1;rw [u2] at HU2;clear c3 u1 u2;go_enter func91,ntmps91
   go_wp2_with fail;refine HC.out.mono ?_;rintro e w1 ⟨rfl,hb1⟩;go_wp2_with fail;refine (HCb.out _ hb1).mono ?_;rintro e w2 ⟨rfl,hb2⟩;go_wp2_with fail;refine (HU1.out _).mono ?_;rintro e w' ⟨rfl,hw⟩;rw [hw];clear hw w';go_wp2_with fail;refine (HU2.out _).mono ?_;rintro e w' ⟨rfl,hw⟩;rw [hw];clear hw w';go_wp2;go_ret2;exact HE.out _ hb2
 have c3':Qav en 12=true∧Qav pe 120=true:=by simpa using c3
 have HB0:Hid (QbZ c l b en pe=Qad (fun k=>hasBad b en (l.getD k po0)) l.length):=by unfold QbZ Hid;rw [if_neg c1,if_neg c2,if_neg c3]
 rw [c3'.1] at HU1;rw [c3'.2] at HU2;obtain ⟨p1,p2,p3⟩:=Qe4 c1';have HPo:Hid (∀ k,k<l.length→QhO c (l.getD k po0)=0):=p3;have HPs:Hid (IsPs w a2 l cap2):=hl;have HBl:Hid (Qcn w a3 b cap3∧(b.length:Int)≤9223372036854775807):=⟨hb,by omega⟩
 have i2:(l.length:Int)≤20:=by omega
 clear h hl hb c1 c1' c2 c2' c3 c3' p1 p3;obtain ⟨i0,hi,hz0,hz1,hz2⟩:=info_parts QeO;go_enter func91,ntmps91
 go_wp2_with fail;refine HC.out.mono ?_;rintro e w1 ⟨rfl,hb1⟩;go_wp2_with fail;refine (HCb.out _ hb1).mono ?_;rintro e w2 ⟨rfl,hb2⟩;clear HC HCb hb1;go_wp2_with fail;refine (HU1.out _).mono ?_;rintro e w' ⟨rfl,hw⟩;rw [hw];clear hw w' HU1;go_wp2_with fail;refine (HU2.out _).mono ?_;rintro e w' ⟨rfl,hw⟩;rw [hw];clear hw w' HU2;have HB2:Hid (Below w.heap.size w w2):=hb2;clear hb2;have i9:¬ (0:Int)<l.length:=by rw [hn.out];decide
 have HEn:Hid _:=HOk.out (.slice none 0 0) [] w2 (HB0.out.trans (by rw [hn.out];rfl)) HB2.out (Qb3.nil _ _) (by rw [hn.out];rfl)
 clear hn HOk HErr HPo HPs HBl HB0 HB2;go_wp2;refine wp_loop_rounds 1 ?_;rw [rounds_succ];go_wp2;go_ret2;exact HEn.out
set_option maxHeartbeats 4000000 in
theorem prCheck_nil (a a2:Option Addr) (cap cap2:Nat) (c:List Ac) (l:List Pr) (w:World) (h:Qcm w a c cap) (hl:IsPr w a2 l cap2) (hn:Hid (l=[])) (hll:l.length≤9223372036854775807) :
  Calls prog 141 #[.slice a c.length cap,.slice a2 l.length cap2] w fun e w'=>e=.returned (chE (Qcw c l))∧Below w.heap.size w w':=by
 by_cases c0:QaC c≠0
 ·have HC:Hid (Calls _ _ _ _ _):=Qbx a cap c w h c0;have e0:Qcw c l=QaC c:=by unfold Qcw;rw [if_pos c0]
  rw [e0];rw [QaA c0] at HC ⊢;clear h hl e0 c0;go_enter func141,ntmps141
  go_wp2_with (go_at_call 43;refine HC.out.mono ?_;rintro e w1 ⟨rfl,hb1⟩);go_ret;exact ⟨rfl,hb1⟩
 have HC:Hid (Calls _ _ _ _ _):=QbK a cap c w h (Decidable.of_not_not c0);obtain ⟨res,hres⟩:∃ res,chE (Qcw c l)=res:=⟨_,rfl⟩;have HR1:Hid (chE (if 20<l.length then 4 else Qad (Qfw c l) l.length)=res):=by
  rw [← hres];unfold Qcw;rw [if_neg c0];exact rfl
 rw [hres];have HL:Hid (IsPr w a2 l cap2):=hl;clear hres h hl c0;go_enter func141,ntmps141
 go_wp2_with fail;refine HC.out.mono ?_;rintro e w1 ⟨B1,B2,rfl,hlf,hb1⟩;have HLf:Hid (Lfs w1 B1 B2 c):=hlf;have HB1:Hid (Below w.heap.size w w1):=hb1;clear hlf hb1 HC;by_cases c1:20<l.length
 ·have er:res=chE 4:=by rw [← HR1.out,if_pos c1]
  rw [QaA (by decide)] at er
  subst er;have i1:(20:Int)<l.length:=by omega
  clear HR1;go_wp2;go_ret;exact ⟨rfl,HB1.out⟩
 have HR2:Hid (chE (Qad (Qfw c l) l.length)=res):=by
  have:=HR1.out;rw [if_neg c1] at this;exact this
 have i1:¬ (20:Int)<l.length:=by omega
 have i2:(l.length:Int)≤20:=by omega
 have i3:l.length≤20:=by omega
 clear HR1 c1 hll;have er:res=.nilIface:=by rw [← HR2.out,hn.out];rfl
 have i9:¬ (0:Int)<l.length:=by rw [hn.out];decide
 subst er;clear HR2 HL HLf hn;go_wp2;refine wp_loop_rounds 1 ?_;rw [rounds_succ];go_wp2;go_ret;exact ⟨rfl,HB1.out⟩
set_option maxHeartbeats 4000000 in
theorem left_nil (a a2:Option Addr) (cap cap2:Nat) (l:List Pr) (b:List Bl) (cur:ByteArray) (w:World) (hl:IsPr w a l cap) (hn:Hid (l=[])) (hlen:l.length≤9223372036854775807) (hb:Qcn w a2 b cap2) (hbl:b.length≤9223372036854775807) :
  Calls prog 142 #[.slice a l.length cap,.slice a2 b.length cap2,.string cur] w (QfM l b cur w):=by
 by_cases c1:20<l.length
 ·have e1:lfE l b cur=4:=if_pos c1;unfold QfM;rw [e1,QaF (by decide)]
  have i1:(20:Int)<l.length:=by omega
  clear e1 hl hb;go_enter func142,ntmps142
  go_wp2;go_ret2;exact ⟨Below.refl _ _,fun _=>rfl,fun h=>absurd h (by decide)⟩
 have i1:¬ (20:Int)<l.length:=by omega
 have HC:Hid (Calls prog 131 #[.slice a2 b.length cap2] w fun e w'=>e=.returned (enE (chk b))∧Below w.heap.size w w'):=QeM a2 cap2 b w hbl hb
 by_cases c2:chk b≠0
 ·have e1:lfE l b cur=chk b:=by unfold lfE;rw [if_neg c1,if_pos c2]
  unfold QfM;rw [e1,QaF c2];rw [QaF c2] at HC;clear e1 hl hb;generalize chk b=z at *
  go_enter func142,ntmps142
  go_wp2_with fail;refine HC.out.mono ?_;rintro e w1 ⟨rfl,hb1⟩;have HB1:Hid (Below w.heap.size w w1):=hb1;clear hb1;go_wp2;go_ret2;exact ⟨HB1.out,fun _=>rfl,fun h=>absurd h c2⟩
 have c2':=Decidable.of_not_not c2;rw [c2',QbE] at HC;have HU:Hid (∀ W,Calls prog 45 #[.string cur] W fun e w'=>e=.returned (.bool (Qat cur))∧Below W.heap.size W w'):=fun W=>Qdg cur W
 by_cases c3:Qat cur=true
 rotate_left
 ·have c3':Qat cur=false:=by simpa using c3
  have e1:lfE l b cur=2:=by unfold lfE;rw [if_neg c1,if_neg c2,if_neg c3]
  unfold QfM;rw [e1,QaF (by decide)]
  rw [c3'] at HU;clear e1 hl hb c3 c3' c2 c2';go_enter func142,ntmps142
  go_wp2_with fail;refine HC.out.mono ?_;rintro e w1 ⟨rfl,hb1⟩;go_wp2_with fail;refine (HU.out w1).mono ?_;rintro e w2 ⟨rfl,hb2⟩;have HB2:Hid (Below w.heap.size w w2):=hb1.trans (hb2.mono hb1.size);clear hb1 hb2 HC HU;go_wp2;go_ret2;exact ⟨HB2.out,fun _=>rfl,fun h=>absurd h (by decide)⟩
 rw [c3] at HU;have fn:=Qd7.1 c2';have e1:lfE l b cur=0:=lfE_ok.2 ⟨by omega,fn,c3⟩
 have HEnd:Hid (∀ g w',w.heap.size≤g→Below w.heap.size w w'→Qee w' g (l.map (lfV b cur))→QfM l b cur w (.returned (.tuple #[.slice (some ⟨g,0,none⟩) l.length l.length,.nilIface])) w'):=fun g w' h1 h2 h3=>⟨h2,fun h=>absurd e1 h,fun _=>⟨g,rfl,h1,h3⟩⟩
 have HBd:Hid (∀ en acc,-1000000000000000000≤QdS b en acc cur∧QdS b en acc cur≤1000000000000000000):=fun en acc=>getB_bd fn en acc cur
 have HHad:Hid (∀ (p:Pr) W,Below w.heap.size w W→Calls prog 143 #[.agg p.cells,.slice a2 b.length cap2,.string cur] W fun e w'=>e=.returned (.agg #[.int .i64 (QdS b p.ea p.one cur),.int .i64 (QdS b p.eb p.oth cur)])∧Below W.heap.size W w'):=fun p W hW=>had_any a2 cap2 p b cur W (by omega) (hb.below hW)
 have HPr:Hid (IsPr w a l cap):=hl;have l20:l.length≤20:=by omega
 clear c1 c2 c2' c3 fn e1 hl hb;have hmk:=fun w=>run_make_row' (P:=prog) 90 3 (.int .i64 0) 8 underlying90 pr_int rfl .i64 .i64 l.length (by omega) (by omega) w
 go_enter func142,ntmps142
 go_wp2_with fail;refine HC.out.mono ?_;rintro e w1 ⟨rfl,hb1⟩;go_wp2_with fail;refine (HU.out w1).mono ?_;rintro e w2 ⟨rfl,hb2⟩;have HB2:Hid (Below w.heap.size w w2):=hb1.trans (hb2.mono hb1.size);clear hb1 hb2 HC HU;have HB0:Hid (Below w.heap.size w (w2.alloc (.cells (madeCells #[.int .i64 0] l.length) 3))):=HB2.out.alloc HB2.out.size _;have HR0:Hid (Qee (w2.alloc (.cells (madeCells #[.int .i64 0] l.length) 3)) w2.heap.size ((l.take 0).map (lfV b cur)++List.replicate (l.length - 0) 0)):=by
  have hrow:=nrow_made w2 l.length;unfold Hid;rw [List.take_zero];exact hrow
 have HGw:Hid (w.heap.size≤w2.heap.size):=HB2.out.size;clear HB2;go_wp2_with fail;clear hmk;generalize w2.heap.size=G at *
 obtain ⟨fw,hfw⟩:∃ fw,lfV b cur=fw:=⟨_,rfl⟩;have HFw:Hid (∀ p:Pr,fw p=QdS b p.ea p.one cur+QdS b p.eb p.oth cur):=fun p=>by rw [← hfw];rfl
 rw [hfw] at HEnd HR0;clear hfw;have i9:¬ (0:Int)<l.length:=by rw [hn.out];decide
 have HEn:Hid _:=HEnd.out G _ (by assumption) HB0.out (by rw [hn.out] at HR0 ⊢;exact HR0.out)
 clear hn;refine wp_loop_rounds 1 ?_;rw [rounds_succ];go_wp2;go_ret2;exact HEn.out
set_option maxHeartbeats 4000000 in
theorem peEntries_nil (a a2 a3:Option Addr) (cap cap2 cap3:Nat) (c:List Ac) (l:List Pr) (b:List Bl) (cur:ByteArray) (pe:Int) (w:World) (h:Qcm w a c cap) (hl:IsPr w a2 l cap2) (hn:Hid (l=[])) (hll:l.length≤9223372036854775807) (hb:Qcn w a3 b cap3) (hbl:b.length≤9223372036854775807) :
  Calls prog 94 #[.slice a c.length cap,.slice a2 l.length cap2,.slice a3 b.length cap3,.string cur,.int .i64 pe] w (PeEnd c l b cur pe w):=by
 have HErr:Hid (∀ z W,z≠0→Qd8 c l b cur pe=z→Below w.heap.size w W→PeEnd c l b cur pe w (.returned (.tuple #[.slice none 0 0,.iface 66 (.int .i64 z)])) W):=fun z W h0 h1 h2=>by
  refine ⟨h2,fun _=>by rw [h1,QaA h0],fun e=>absurd (h1.symm.trans e) h0⟩
 have HOk:Hid (∀ v L W,Qd8 c l b cur pe=0→Below w.heap.size w W→Qb3 W w.heap.size v L→L.map Je.ep=peTo b cur pe l (l.length*2)→L.length≤40→PeEnd c l b cur pe w (.returned (.tuple #[v,.nilIface])) W):=fun v L W h1 h2 h3 h4 h5=>
  ⟨h2,fun h0=>absurd h1 h0,fun _=>⟨v,L,rfl,h3,h4,h5⟩⟩
 have HC:Hid (Calls _ _ _ _ _):=prCheck_nil a a2 cap cap2 c l w h hl hn hll;by_cases c1:Qcw c l≠0
 ·have HE:Hid (∀ W,Below w.heap.size w W→PeEnd c l b cur pe w (.returned (.tuple #[.slice none 0 0,.iface 66 (.int .i64 (Qcw c l))])) W):=fun W hW=>HErr.out _ W c1 (by unfold Qd8;rw [if_pos c1]) hW
  rw [QaA c1] at HC;clear h hl hb HErr HOk;generalize Qcw c l=z at *
  go_enter func94,ntmps94
  go_wp2_with fail;refine HC.out.mono ?_;rintro e w1 ⟨rfl,hb1⟩;have HB1:Hid (Below w.heap.size w w1):=hb1;clear hb1;go_wp2;go_ret2;exact HE.out _ HB1.out
 have c1':=Decidable.of_not_not c1;rw [c1',QbD] at HC;have l20:=(prsBad_ok c1').2.1;have HLe:Hid (∀ W,Below w.heap.size w W→Calls prog 142 #[.slice a2 l.length cap2,.slice a3 b.length cap3,.string cur] W (QfM l b cur W)):=fun W hW=>left_nil a2 a3 cap2 cap3 l b cur W (hl.below hW) hn hll (hb.below hW) hbl
 by_cases c2:lfE l b cur≠0
 ·have HE:Hid (∀ W,Below w.heap.size w W→PeEnd c l b cur pe w (.returned (.tuple #[.slice none 0 0,.iface 66 (.int .i64 (lfE l b cur))])) W):=fun W hW=>HErr.out _ W c2 (by unfold Qd8;rw [if_neg c1,if_pos c2]) hW
  have HLf:Hid (∀ W,Below w.heap.size w W→Calls prog 142 #[.slice a2 l.length cap2,.slice a3 b.length cap3,.string cur] W fun e w'=>e=.returned (.tuple #[.slice none 0 0,.iface 66 (.int .i64 (lfE l b cur))])∧Below w.heap.size w w'):=fun W hW=>by
   refine (HLe.out W hW).mono ?_;rintro e w' ⟨y1,y2,_⟩
   have:=y2 c2
   rw [QaF c2] at this;exact ⟨this,hW.trans (y1.mono hW.size)⟩
  clear h hl hb HErr HOk HLe;generalize lfE l b cur=z at *
  go_enter func94,ntmps94
  go_wp2_with fail;refine HC.out.mono ?_;rintro e w1 ⟨rfl,hb1⟩;go_wp2_with fail;refine (HLf.out w1 hb1).mono ?_;rintro e w2 ⟨rfl,hb2⟩;have HB1:Hid (Below w.heap.size w w2):=hb2;clear hb1 hb2 HLf HC;go_wp2;go_ret2;exact HE.out _ HB1.out
 have c2':=Decidable.of_not_not c2;have HLf:Hid (∀ W,Below w.heap.size w W→Calls prog 142 #[.slice a2 l.length cap2,.slice a3 b.length cap3,.string cur] W fun e w'=>∃ g,e=.returned (.tuple #[.slice (some ⟨g,0,none⟩) l.length l.length,.nilIface])∧Below w.heap.size w w'):=fun W hW=>by
  refine (HLe.out W hW).mono ?_;rintro e w' ⟨y1,_,y3⟩;obtain ⟨g,rfl,_,_⟩:=y3 c2';exact ⟨g,rfl,hW.trans (y1.mono hW.size)⟩
 have HPe:Hid (∀ W,Calls prog 53 #[.int .i64 pe] W fun e w'=>e=.returned (.bool (Qav pe 120))∧w'=W):=fun W=>QbL pe W
 cases c3:Qav pe 120
 ·have HE:Hid (∀ W,Below w.heap.size w W→PeEnd c l b cur pe w (.returned (.tuple #[.slice none 0 0,.iface 66 (.int .i64 1)])) W):=fun W hW=>HErr.out _ W (by decide) (by unfold Qd8;rw [if_neg c1,if_neg c2,if_pos c3]) hW
  rw [c3] at HPe;clear h hl hb HErr HOk HLe;go_enter func94,ntmps94
  go_wp2_with fail;refine HC.out.mono ?_;rintro e w1 ⟨rfl,hb1⟩;go_wp2_with fail;refine (HLf.out w1 hb1).mono ?_;rintro e w2 ⟨g,rfl,hb2⟩;go_wp2_with fail;refine (HPe.out _).mono ?_;rintro e w' ⟨rfl,hw⟩;rw [hw];clear hw w' HPe;have HB1:Hid (Below w.heap.size w w2):=hb2;clear hb1 hb2 HLf HC;go_wp2;go_ret2;exact HE.out _ HB1.out
 rw [c3] at HPe;have HB0:Hid (Qd8 c l b cur pe=Qad (peAt b cur l) (l.length*2)):=by unfold Qd8;rw [if_neg c1,if_neg c2,c3,if_neg (by simp)];exact rfl
 have HPr:Hid (IsPr w a2 l cap2):=hl;have HHad:Hid (∀ (p:Pr) W,Below w.heap.size w W→Calls prog 143 #[.agg p.cells,.slice a3 b.length cap3,.string cur] W fun e w'=>e=.returned (.agg #[.int .i64 (QdS b p.ea p.one cur),.int .i64 (QdS b p.eb p.oth cur)])∧Below W.heap.size W w'):=fun p W hW=>had_any a3 cap3 p b cur W (by omega) (hb.below hW)
 obtain ⟨i0,hi,hz0,hz1,hz2⟩:=info_parts QeO;have l20i:(l.length:Int)≤20:=by omega
 clear h hl hb hll c1 c1' c2 c2' c3 HLe;go_enter func94,ntmps94
 go_wp2_with fail;refine HC.out.mono ?_;rintro e w1 ⟨rfl,hb1⟩;go_wp2_with fail;refine (HLf.out w1 hb1).mono ?_;rintro e w2 ⟨gl0,rfl,hb2⟩;go_wp2_with fail;refine (HPe.out _).mono ?_;rintro e w' ⟨rfl,hw⟩;rw [hw];clear hw w' HPe;have HB2:Hid (Below w.heap.size w w2):=hb2;clear hb1 hb2 HLf HC;have i9:¬ (0:Int)<l.length:=by rw [hn.out];decide
 have HEn:Hid _:=HOk.out (.slice none 0 0) [] w2 (HB0.out.trans (by rw [hn.out];rfl)) HB2.out (Qb3.nil _ _) (by rw [hn.out];rfl) (by simp)
 clear hn HOk HErr HPr HHad HB0 HB2;go_wp2;refine wp_loop_rounds 1 ?_;rw [rounds_succ];go_wp2;go_ret2;exact HEn.out
theorem EntK.nil {S:Cs} (h1:S.pn=[]) (h2:S.po=[]) (h3:S.pr=[]):EntK S:=
 ⟨fun a a2 cap cap2 en pe w h hl ht=>plEntries_nil a a2 cap cap2 S.c S.pn en pe w h hl h1 (by rw [h1];simp) ht,
  fun a a2 a3 cap cap2 cap3 b en pe w h hl hb hbl=>alEntries_nil a a2 a3 cap cap2 cap3 S.c S.po b en pe w h hl h2 (by rw [h2];simp) hb hbl,
  fun a a2 a3 cap cap2 cap3 b cur pe w h hl hb hbl=>peEntries_nil a a2 a3 cap cap2 cap3 S.c S.pr b cur pe w h hl h3 (by rw [h3];simp) hb hbl⟩
end
end Go.Proofs.YtjifbbdkpanagaaGreatDoor
