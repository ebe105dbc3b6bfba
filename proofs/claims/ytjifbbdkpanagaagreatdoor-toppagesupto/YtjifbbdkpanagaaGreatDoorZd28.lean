/-
  Part of a proof (see the last text).
-/
import Derived.Test.YtjifbbdkpanagaaGreatDoorZd27
set_option linter.unusedVariables false
set_option linter.unusedSimpArgs false
set_option maxRecDepth 100000
namespace Go.Proofs.YtjifbbdkpanagaaGreatDoor
section
open Go.RowKit Go.Lib Go.Proofs.Tryz
def Qer (l:List Bl):Int:=(l.map Bl.amt).sum
def ngL (l:List Bl):List Ln:=l.map fun x=>⟨x.acc,x.cur,-x.amt⟩
def cgL (kept:ByteArray) (l:List Bl):List Ln:=ngL l++if Qer l=0 then [] else [⟨kept,(l.getD 0 bl0).cur,Qer l⟩]
def cgE (l:List Bl):Int:=if 19<l.length then 4 else if QaJ (Qer l)=true then 0 else 1
theorem sumB_snoc (l:List Bl) (x:Bl):Qer (l++[x])=Qer l+x.amt:=by simp [Qer]
theorem ngL_snoc (l:List Bl) (x:Bl):ngL (l++[x])=ngL l++[⟨x.acc,x.cur,-x.amt⟩]:=by simp [ngL]
theorem QfL (l:List Bl):(ngL l).length=l.length:=by simp [ngL]
theorem sumB_bd:∀ (l:List Bl),(∀ x∈l,-1000000000000000≤x.amt∧x.amt≤1000000000000000)→-(1000000000000000*(l.length:Int))≤Qer l∧Qer l≤1000000000000000*(l.length:Int)
 | [],_=>by simp [Qer]
 | x :: l,h=>by
  have h1:=sumB_bd l (fun y hy=>h y (by simp [hy]))
  have h2:=h x (by simp)
  have e:Qer (x :: l)=x.amt+Qer l:=by simp [Qer]
  rw [e,List.length_cons];omega
def CgEnd (kept:ByteArray) (l:List Bl) (W:World) (e:Ending) (w':World):Prop:=
 Below W.heap.size W w'∧(cgE l≠0→e=.returned (.tuple #[.slice none 0 0,.iface 66 (.int .i64 (cgE l))])) ∧
 (cgE l=0→∃ v,e=.returned (.tuple #[v,.nilIface])∧Qag w' W.heap.size v (cgL kept l))
theorem take_snoc {l:List Bl} {k:Nat} (hlt:k<l.length):l.take (k+1)=l.take k++[l.getD k bl0]:=by
 rw [List.take_add_one,List.getElem?_eq_getElem hlt,List.getD_eq_getElem?_getD,List.getElem?_eq_getElem hlt];rfl
section
variable {W:World} {n0 m0 B:Nat} {P:Cp} {S:Cs}
set_option maxHeartbeats 8000000 in
theorem clearing_any (h:Qcf W n0 m0 B P S) (ab:Option Addr) (l:List Bl) (cab:Nat) (hl:Qcn W ab l cab) (hlen:l.length≤1000) (hok:∀ x∈l,-1000000000000000≤x.amt∧x.amt≤1000000000000000) :
  Calls prog 150 #[.pointer (some ⟨B,0,none⟩),.slice ab l.length cab] W (CgEnd S.kept l W):=by
 have HKc:Hid (∀ U,Below W.heap.size W U→U.cell? ⟨B,4,none⟩=some (.string S.kept)):=fun U hU=>(h.below hU).cell 4
 have HL:Hid (Qcn W ab l cab):=hl;have HOk:Hid (∀ x∈l,-1000000000000000≤x.amt∧x.amt≤1000000000000000):=hok;by_cases h19:19<l.length
 ·have HE:Hid (CgEnd S.kept l W (.returned (.tuple #[.slice none 0 0,.iface 66 (.int .i64 4)])) W):=by
   have e:cgE l=4:=by unfold cgE;rw [if_pos h19]
   exact ⟨Below.refl _ _,fun _=>by rw [e],fun h=>by rw [e] at h;exact absurd h (by decide)⟩
  have i0:(l.length:Int) > 19:=by omega
  clear h hl hok HKc HL HOk;go_enter func150,ntmps150
  go_wp2;go_ret2;exact HE.out
 have hll:(l.length:Int)≤19:=by omega
 have HBd:Hid (∀ k,k≤l.length→-19000000000000000≤Qer (l.take k)∧Qer (l.take k)≤19000000000000000):=fun k hk=>by
  have:=sumB_bd (l.take k) (fun x hx=>hok x (List.mem_of_mem_take hx))
  rw [List.length_take] at this;omega
 have ng:¬ ((l.length:Int) > 19):=by omega
 clear h hl hok;go_enter func150,ntmps150
 go_wp2;go_loopw [6,7,16] (fun v s i wr=>∃ (k:Nat) (q:Value),q=v∧k≤l.length∧i=.int .i64 k∧s=.int .i64 (Qer (l.take k))∧Hid (Qag wr W.heap.size q (ngL (l.take k))∧Below W.heap.size W wr)) (fun _ _ i _=>l.length - (RowKit.intOf i).toNat)
 case atStart=>exact ⟨0,_,rfl,Nat.zero_le _,rfl,rfl,Qag.nil _ _,Below.refl _ _⟩
 case round=>
  obtain ⟨k,v,rfl,hk,rfl,rfl,HI⟩:=hrel;by_cases hlt:k<l.length
  ·rcases (HL.out.below HI.out.2).lies with h0 | ⟨b,off,e,hb,hcc⟩
   ·rw [h0] at hlt;simp at hlt
   subst e;have hx:=hcc k hlt;have hxm:l.getD k bl0∈l:=by rw [List.getD_eq_getElem?_getD,List.getElem?_eq_getElem hlt];exact List.getElem_mem hlt
   have hxb:=HOk.out _ hxm;have hs0:=HBd.out k hk;have et:=take_snoc hlt;have es:Qer (l.take k)+(l.getD k bl0).amt=Qer (l.take (k+1)):=by rw [et,sumB_snoc]
   have en:ngL (l.take (k+1))=ngL (l.take k)++[⟨(l.getD k bl0).acc,(l.getD k bl0).cur,-(l.getD k bl0).amt⟩]:=by rw [et,ngL_snoc]
   have hs1:=HBd.out (k+1) hlt;have hnl:(ngL (l.take k)).length=k:=by rw [QfL,List.length_take];omega
   have hSz:W.heap.size≤wr.heap.size:=HI.out.2.size;obtain ⟨wa,hwa⟩:∃ wa,wr.alloc (.cells (l.getD k bl0).cells 63)=wa:=⟨_,rfl⟩;have b1:Below wr.heap.size wr wa:=by rw [← hwa];exact (Below.refl _ wr).alloc (Nat.le_refl _) _
   have hwn:wa.heap[wr.heap.size]? = some (.cells (l.getD k bl0).cells 63 (0,0)):=by rw [← hwa];exact World.alloc_heap_new wr _
   have HRa:Hid (W.heap.size≤wa.heap.size∧Qag wa W.heap.size v (ngL (l.take k))∧Below W.heap.size W wa):=⟨Nat.le_trans hSz b1.size,by rw [← hwa];exact World.ownsRow.alloc HI.out.1 _,HI.out.2.trans (b1.mono hSz)⟩
   have HWa:Hid (wr.alloc (.cells (l.getD k bl0).cells 63)=wa):=hwa;have i0:(0:Int)≤k:=by omega
   have i1:(k:Int)<l.length:=by omega
   clear hcc hxm hwa b1 HI;rw [← es] at hs1;have HEs:Hid (Qer (l.take k)+(l.getD k bl0).amt=Qer (l.take (k+1))):=es;have HEn:Hid (ngL (l.take (k+1))=ngL (l.take k)++[⟨(l.getD k bl0).acc,(l.getD k bl0).cur,-(l.getD k bl0).amt⟩]):=en;clear et es en;generalize Qer (l.take k)=s at *
   generalize ngL (l.take k)=L at *
   generalize l.getD k bl0=x at *
   obtain ⟨x0,x1,x2,x3⟩:=x;obtain ⟨d0,d1,d2,d3⟩:=hx;have f1:wa.cell? ⟨wr.heap.size,1,none⟩=some (.string x1):=by simp [World.cell?,hwn,Bl.cells]
   have f2:wa.cell? ⟨wr.heap.size,2,none⟩=some (.string x2):=by simp [World.cell?,hwn,Bl.cells]
   have f3:wa.cell? ⟨wr.heap.size,3,none⟩=some (.int .i64 x3):=by simp [World.cell?,hwn,Bl.cells]
   have hwl:wr.heap.size<wa.heap.size:=(Array.getElem?_eq_some_iff.1 hwn).1;simp only [Bl.cells] at HWa d0 d1 d2 d3 hs0 hs1 hxb HEs HEn;have iw:IntKind.i64.wrap (-x3) = -x3:=by
    simp only [IntKind.wrap,IntKind.bits,IntKind.signed];simp;omega
   have Hs1:Hid (∀ u∈[Value.string x1,.string x2,.int .i64 (-x3)],u.oneCell'=true):=by intro u hu;simp at hu;rcases hu with rfl | rfl | rfl <;> rfl
   obtain ⟨V,hV⟩:∃ V,wa.alloc (.cells #[.string x1,.string x2,.int .i64 (-x3)] 56)=V:=⟨_,rfl⟩;have HV:Hid (World.ownsRow V W.heap.size 56 3 v L.length (Qas L)):=by unfold Hid;rw [← hV];exact World.ownsRow.alloc HRa.out.2.1 _
   have hvn:V.heap[wa.heap.size]? = some (.cells #[.string x1,.string x2,.int .i64 (-x3)] 56 (0,0)):=by rw [← hV];exact World.alloc_heap_new wa _
   have HNw:Hid (∀ i u,[Value.string x1,.string x2,.int .i64 (-x3)][i]? = some u→V.cell? ((⟨wa.heap.size,0,none⟩:Addr).add i)=some u):=fun i u hi=>by
    rcases i with _ | _ | _ | i
    ·simp at hi;subst hi;simp [Addr.add,World.cell?,hvn]
    ·simp at hi;subst hi;simp [Addr.add,World.cell?,hvn]
    ·simp at hi;subst hi;simp [Addr.add,World.cell?,hvn]
    ·simp at hi
   have HS:Hid (W.heap.size≤V.heap.size):=by unfold Hid;rw [← hV];have:=HRa.out.1;simp;omega
   have Hm1:Hid (L.length+1≤maxLen):=by unfold Hid maxLen;omega
   have Hm2:Hid ((L.length+1)*40≤140737488355328):=by unfold Hid;omega
   have HBV:Hid (Below W.heap.size W V):=by unfold Hid;rw [← hV];exact HRa.out.2.2.alloc HRa.out.1 _
   have HBl:Hid (∀ U,V.grownBy U v.ownBlock→U.cell? ⟨wr.heap.size,3,none⟩=some (.int .i64 x3)):=fun U hU=>by
    have hne:some wr.heap.size≠v.ownBlock:=fun e=>by
     obtain ⟨_,_,cs,e2⟩:=Qay HRa.out.2.1 e.symm;rw [hwn] at e2;cases e2
    have hv2:=(hU.block wr.heap.size (by rw [← hV];simp;omega) hne).trans ((by rw [← hV];exact QaZ _ _ _ hwl:V.heap[wr.heap.size]? = wa.heap[wr.heap.size]?).trans hwn)
    simp [World.cell?,hv2,Bl.cells]
   obtain ⟨q0,hq0,hz0,hz1,hz2⟩:=info_parts Qex;clear hwn hvn;go_upto_region 8 with fail
   rw [HWa.out];clear HWa d0 d1 d2 d3;subst hV;go_wp2_with (at_builtin;refine wpList_append_own_at _ rfl _ _ 57 rfl W.heap.size 56 q0 (.agg #[.string ByteArray.empty,.string ByteArray.empty,.int .i64 0]) 3 40 underlying57 hq0 hz0 hz1 hz2 rfl (by decide) _ _ _ rfl HV.out ⟨wa.heap.size,0,none⟩ 1 1 [.string x1,.string x2,.int .i64 (-x3)] rfl rfl HNw.out Hs1.out Hm1.out Hm2.out HS.out ?_)
   intro v' U h1 h2 _ _;have f3':=HBl.out U h2;have HN:Hid (Qag U W.heap.size v' (ngL (l.take (k+1)))∧Below W.heap.size W U):=by
    refine ⟨?_,HBV.out.grown h2 HS.out fun j e=>(Qay HRa.out.2.1 e).1⟩
    rw [HEn.out];unfold Qag;rw [QaI,Qcu,List.length_append,hnl];exact h1
   clear h1 h2 HBl f1 f2 f3 HV HNw;go_wp2;go_roundw
   case rel=>exact ⟨k+1,v',rfl,by omega,by go_num,by rw [← HEs.out],HN⟩
   case measure=>simp [RowKit.intOf];omega
  ·have ek:k=l.length:=by omega
   subst ek;have h1:=HI.out;have hs0:=HBd.out l.length hk;rw [List.take_length] at h1 hs0;rw [List.take_length];have i1:¬ (l.length:Int)<l.length:=by omega
   have HR:Hid (Qag wr W.heap.size v (ngL l)):=h1.1;have HB:Hid (Below W.heap.size W wr):=h1.2;have HAm:Hid (∀ U,Calls prog 120 #[.int .i64 (Qer l)] U fun e w'=>e=.returned (.bool (QaJ (Qer l)))∧w'=U):=QcL _
   have HBad:Hid (QaJ (Qer l)=false→CgEnd S.kept l W (.returned (.tuple #[.slice none 0 0,.iface 66 (.int .i64 1)])) wr):=fun ha=>by
    have e:cgE l=1:=by unfold cgE;rw [if_neg h19,ha];rfl
    exact ⟨h1.2,fun _=>by rw [e],fun h=>by rw [e] at h;exact absurd h (by decide)⟩
   have HEnd:Hid (∀ U v',QaJ (Qer l)=true→Below W.heap.size W U→Qag U W.heap.size v' (cgL S.kept l)→CgEnd S.kept l W (.returned (.tuple #[v',.nilIface])) U):=fun U v' ha hU hr=>by
    have e:cgE l=0:=by unfold cgE;rw [if_neg h19,ha];rfl
    exact ⟨hU,fun h=>absurd e h,fun _=>⟨v',rfl,hr⟩⟩
   have HZ:Hid (Qer l=0→cgL S.kept l=ngL l):=fun hz=>by unfold cgL;rw [if_pos hz,List.append_nil]
   have HNZ:Hid (Qer l≠0→cgL S.kept l=ngL l++[⟨S.kept,(l.getD 0 bl0).cur,Qer l⟩]∧l≠[]):=fun hz=>⟨by unfold cgL;rw [if_neg hz],fun h0=>by subst h0;exact hz rfl⟩
   clear h1 HI HBd HOk;generalize Qer l=s at *
   cases gA:QaJ s
   ·have HE:Hid (CgEnd _ _ _ _ _):=HBad.out gA;rw [gA] at HAm;clear HBad HEnd HZ HNZ;go_wp2_with fail;refine (HAm.out _).mono ?_;rintro e w' ⟨rfl,hw⟩;rw [hw];clear hw w' HAm;go_wp2;go_ret2;exact HE.out
   rw [gA] at HAm;by_cases gz:s=0
   ·have HE:Hid (CgEnd _ _ _ _ _):=HEnd.out wr v gA HB.out (by rw [HZ.out gz];exact HR.out)
    subst gz;clear HBad HEnd HZ HNZ;go_wp2_with fail;refine (HAm.out _).mono ?_;rintro e w' ⟨rfl,hw⟩;rw [hw];clear hw w' HAm;go_wp2;go_ret2;exact HE.out
   ·obtain ⟨ec,hne⟩:=HNZ.out gz;have hpos:0<l.length:=by rcases l with _ | ⟨y,l⟩;exact absurd rfl hne;simp
    rcases HR.out.2 with ⟨_,h0⟩ | ⟨g,cap,cur0,hv,_⟩
    ·rw [QfL] at h0;omega
    subst hv;rcases (HL.out.below HB.out).lies with h0 | ⟨b,off,e,hb,hcc⟩
    ·exact absurd h0 hne
    subst e;have hx:=hcc 0 hpos;rw [Nat.zero_mul,Nat.add_zero] at hx;obtain ⟨_,_,d2,_⟩:=hx;have k4:=HKc.out wr HB.out;have hsz:W.heap.size≤wr.heap.size:=HB.out.size;have Hec:Hid (cgL S.kept l=ngL l++[⟨S.kept,(l.getD 0 bl0).cur,s⟩]):=ec;have hn19:(ngL l).length≤19:=by rw [QfL];omega
    have HEnd2:Hid (∀ U v',Below W.heap.size W U→Qag U W.heap.size v' (cgL S.kept l)→CgEnd S.kept l W (.returned (.tuple #[v',.nilIface])) U):=fun U v' h1 h2=>HEnd.out U v' gA h1 h2
    clear hcc ec HZ HNZ HEnd HBad hne;generalize (l.getD 0 bl0).cur=cu at *
    generalize S.kept=kp at *
    generalize ngL l=L at *
    obtain ⟨n,hn⟩:∃ n,L.length=n:=⟨_,rfl⟩;have Hfl:Hid (L.length=n):=hn;rw [hn] at hn19 HR ⊢;clear hn;have hro:World.ownsRow (wr.alloc (.cells #[.string kp,.string cu,.int .i64 s] 56)).drew W.heap.size 56 3 (.slice (some ⟨g,0,none⟩) n cap) n (Qas L):=by
     have:=World.ownsRow.drew (World.ownsRow.alloc HR.out (.cells #[.string kp,.string cu,.int .i64 s] 56))
     rw [Hfl.out] at this;exact this
    have HRO:Hid (World.ownsRow _ _ _ _ _ _ _):=hro;have K1:Hid (∀ j u,([.string kp,.string cu,.int .i64 s]:List Value)[j]? = some u→(wr.alloc (.cells #[.string kp,.string cu,.int .i64 s] 56)).drew.cell? ((⟨wr.heap.size,0,none⟩:Addr).add j)=some u):=fun j u h=>QhW wr kp cu s wr.heap.size 56 rfl j u h
    have s1:∀ u∈([.string kp,.string cu,.int .i64 s]:List Value),u.oneCell'=true:=by intro u hu;simp at hu;rcases hu with rfl | rfl | rfl <;> rfl
    have s2:Hid (n+1≤maxLen):=by unfold Hid maxLen;omega
    have s3:Hid ((n+1)*40≤140737488355328):=by unfold Hid;omega
    have s4:Hid (W.heap.size≤(wr.alloc (.cells #[.string kp,.string cu,.int .i64 s] 56)).drew.heap.size):=by unfold Hid;simp;omega
    have s5:Hid ((wr.alloc (.cells #[.string kp,.string cu,.int .i64 s] 56)).drew.heap.size=wr.heap.size+1):=by unfold Hid;simp
    have HB2':Hid (Below W.heap.size W _):=(HB.out.alloc hsz (.cells #[.string kp,.string cu,.int .i64 s] 56)).drew;have HOJ:Hid (∀ j,(Value.slice (some ⟨g,0,none⟩) n cap).ownBlock=some j→W.heap.size≤j):=fun j e=>(World.ownsRow.lt hro j e).1
    have gz':(s == 0)=false:=by rw [beq_eq_false_iff_ne];exact gz
    have gzn:(s != 0)=true:=by simp [gz]
    obtain ⟨i0,hi,hz0,hz1,hz2⟩:=info_parts Qex;clear hro HL HKc HR HB;go_wp2_with fail;refine (HAm.out _).mono ?_;rintro e w' ⟨rfl,hw⟩;rw [hw];clear hw w' HAm;go_wp2_with fail;go_region_law (refine step_append_lies _ rfl (.tmp 42) (.tmp 53) 57 rfl W.heap.size 56 i0 (.agg #[.string ByteArray.empty,.string ByteArray.empty,.int .i64 0]) 3 40 underlying57 hi hz0 hz1 hz2 rfl (Nat.zero_lt_succ _) (.slice (some ⟨g,0,none⟩) n cap) n (Qas L) rfl HRO.out ⟨wr.heap.size,0,none⟩ 1 1 [.string kp,.string cu,.int .i64 s] rfl rfl K1.out s1 (Nat.zero_lt_one) s2.out s3.out s4.out (wr.heap.size+1) s5.out ?_;intro g' cap' w3 hown' hgrow hat hlt2)
    all_goals
     have B3:=HB2'.out.grown hgrow s4.out (fun j e=>HOJ.out j e)
     have HR3:Hid (CgEnd kp l W (.returned (.tuple #[.slice (some ⟨g',0,none⟩) (n+1) cap',.nilIface])) w3):=HEnd2.out w3 _ B3 (by
      rw [Hec.out];unfold Qag;rw [QaI,Qcu,List.length_append,Hfl.out];exact hown')
     clear hown' hgrow hat HEnd2;go_wp2;go_ret2;exact HR3.out
end
end
section
open Go.RowKit Go.Lib Go.Sort Go.Proofs.Tryz
def puC (k:PuK):Array Value:=#[.int .i64 k.1,.string k.2]
def pu0:PuK:=(0,ByteArray.empty)
def cmpU (x y:PuK):Int:=if QcO x.1 y.1≠0 then QcO x.1 y.1 else Qa3 x.2 y.2
def Qh1 (l:List PuK):Prop:=l.Pairwise fun x y=>cmpU x y<0
theorem cmpU_lt {x y:PuK}:cmpU x y<0↔x.1<y.1∨(x.1=y.1∧Qa3 x.2 y.2<0):=by
 unfold cmpU;by_cases h1:QcO x.1 y.1=0
 ·have e1:=QcY.1 h1;rw [if_neg (by simp [h1])]
  exact ⟨fun h=>.inr ⟨e1,h⟩,fun h=>by rcases h with h | ⟨_,h⟩;omega;exact h⟩
 ·have e1:x.1≠y.1:=fun h=>h1 (QcY.2 h)
  rw [if_pos h1,cmpI_neg];exact ⟨fun h=>.inl h,fun h=>by rcases h with h | ⟨h,_⟩;exact h;exact absurd h e1⟩
theorem QgK (x:PuK):¬ cmpU x x<0:=fun h=>by
 rcases cmpU_lt.1 h with h | ⟨_,h⟩
 ·omega
 ·have:=QbQ.2 (rfl:x.2=x.2)
  omega
theorem QcW {x y z:PuK} (h1:cmpU x y<0) (h2:cmpU y z<0):cmpU x z<0:=by
 rw [cmpU_lt] at *
 rcases h1 with h1 | ⟨e1,h1⟩
 ·rcases h2 with h2 | ⟨e2,h2⟩
  ·exact .inl (by omega)
  ·exact .inl (by omega)
 ·rcases h2 with h2 | ⟨e2,h2⟩
  ·exact .inl (by omega)
  ·exact .inr ⟨by omega,QfF h1 h2⟩
theorem Qd2 {x y:PuK} (h:¬ cmpU x y<0) (hne:x≠y):cmpU y x<0:=by
 rw [cmpU_lt] at *
 by_cases e1:x.1=y.1
 ·refine .inr ⟨e1.symm,?_⟩;have h3:¬ Qa3 x.2 y.2<0:=fun e=>h (.inr ⟨e1,e⟩)
  have h4:Qa3 x.2 y.2≠0:=fun e=>hne (Prod.ext e1 (QbQ.1 e))
  have:=QhB y.2 x.2
  omega
 ·have h1:¬ x.1<y.1:=fun e=>h (.inl e)
  exact .inl (by omega)
theorem pu_swo:SWO (ltOf cmpU) where
 irrefl x:=decide_eq_false (QgK x)
 trans x y z h1 h2:=decide_eq_true (QcW (of_decide_eq_true h1) (of_decide_eq_true h2))
 ntrans x y z h1 h2:=by
  refine decide_eq_false (fun h=>?_)
  have h1':=of_decide_eq_false h1;have h2':=of_decide_eq_false h2;by_cases e1:x=y
  ·subst e1;exact h2' h
  ·have h3:=Qd2 h1' e1;by_cases e2:y=z
   ·subst e2;exact h1' h
   ·have h4:=Qd2 h2' e2;exact QgK x (QcW h (QcW h4 h3))
def QhX (x:PuK):List Value:=(puC x).toList
set_option maxHeartbeats 4000000 in
theorem puCompare_at (x y:PuK) (w:World) :
  Calls prog 149 #[.agg (puC x),.agg (puC y)] w fun e w'=>e=.returned (.int .i64 (cmpU x y))∧∃ q os,w'=Sort.grow (w.drewN q) os:=by
 obtain ⟨x0,x1⟩:=x;obtain ⟨y0,y1⟩:=y;simp only [puC,cmpU];obtain ⟨V,hV⟩:∃ V,(w.alloc (.cells #[.int .i64 x0,.string x1] 233)).alloc (.cells #[.int .i64 y0,.string y1] 233)=V:=⟨_,rfl⟩;have c0:((V.alloc (.cells #[.int .i64 (QcO x0 y0),.int .i64 (Qa3 x1 y1)] 3)).drew).cell? ⟨w.heap.size+1+1,0,none⟩=some (.int .i64 (QcO x0 y0)):=Qct _ _ _ _ _ _ (by rw [← hV];simp) rfl
 have c1:((V.alloc (.cells #[.int .i64 (QcO x0 y0),.int .i64 (Qa3 x1 y1)] 3)).drew).cell? ⟨w.heap.size+1+1,1,none⟩=some (.int .i64 (Qa3 x1 y1)):=Qct _ _ _ _ _ _ (by rw [← hV];simp) rfl
 have hO:=cmpOr_any _ _ _ _ c0 c1;have bl:∃ q os,((V.alloc (.cells #[.int .i64 (QcO x0 y0),.int .i64 (Qa3 x1 y1)] 3)).drew)=Sort.grow (w.drewN q) os:=by
  rw [← hV];exact ⟨1,_,by rw [Sort.alloc_eq_grow,Sort.alloc_eq_grow,Sort.alloc_eq_grow,Sort.grow_grow,Sort.grow_grow,Sort.drew_grow];rfl⟩
 subst hV;clear c0 c1;obtain ⟨r,hr⟩:∃ r,(if QcO x0 y0≠0 then QcO x0 y0 else Qa3 x1 y1)=r:=⟨_,rfl⟩
 rw [hr] at hO ⊢;clear hr;go_enter func149,ntmps149
 go_wp2;go_region_held3 (fun u=>(u.cell? ⟨w.heap.size,0,none⟩=some (.int .i64 x0)∧u.cell? ⟨w.heap.size,1,none⟩=some (.string x1))∧u.cell? ⟨w.heap.size+1,0,none⟩=some (.int .i64 y0)∧u.cell? ⟨w.heap.size+1,1,none⟩=some (.string y1)) (go_keep) (first | (go_at_call 103;refine (Qep _ _ _).mono ?_;rintro e w' ⟨rfl,rfl⟩) | (go_at_call 104;refine (Qfg _ _ _).mono ?_;rintro e w' ⟨rfl,rfl⟩) | (go_at_call 102;refine hO.mono ?_;rintro e w' ⟨rfl,rfl⟩))
 all_goals
  go_wp2;go_ret;exact ⟨rfl,bl⟩
def Qeb (l:List PuK):List Value:=l.flatMap fun x=>(puC x).toList
theorem Qcs (x:PuK):(puC x).toList.length=2:=rfl
theorem QdI:∀ l:List PuK,(Qeb l).length=l.length*2
 | []=>rfl
 | x :: l=>by
  have:=QdI l
  unfold Qeb at *
  simp only [List.flatMap_cons,List.length_append,Qcs,this,List.length_cons];omega
theorem puRow_append (l m:List PuK):Qeb (l++m)=Qeb l++Qeb m:=by simp [Qeb]
theorem puRow_one (x:PuK):Qeb [x]=(puC x).toList:=by simp [Qeb]
theorem QdP:∀ (l:List PuK) (k j:Nat),k<l.length→j<2→(Qeb l)[k*2+j]? = (puC (l.getD k pu0)).toList[j]?
 | [],_,_,h,_=>absurd h (by simp)
 | x :: l,0,j,_,hj=>by
  simp only [Qeb,List.flatMap_cons,Nat.zero_mul,Nat.zero_add,List.getD_cons_zero];rw [List.getElem?_append_left (by rw [Qcs];exact hj)]
 | x :: l,k+1,j,h,hj=>by
  have ih:=QdP l k j (by simpa using h) hj
  simp only [Qeb,List.flatMap_cons,List.getD_cons_succ] at ih ⊢;rw [List.getElem?_append_right (by rw [Qcs];omega),Qcs,← ih]
  congr 1;omega
def Qe5 (W:World) (n:Nat) (v:Value) (l:List PuK):Prop:=W.ownsRow n 233 2 v l.length (Qeb l)
theorem pu_holds {W:World} {n g cap:Nat} {L:List PuK} (h:Qe5 W n (.slice (some ⟨g,0,none⟩) L.length cap) L) (hi:Inhabited PuK):HoldsK QhX 2 W g 0 L.toArray:=by
 rcases h.2 with ⟨e,_⟩ | ⟨g1,c1,cur,e,hb1,hh,hc,hm,hs,ht⟩
 ·cases e
 ·cases e;intro t htt;rw [size_flatK,List.size_toArray] at htt;rw [get_flatK _ _ _ t (by simpa using htt)]
  have hk:t / 2<L.length:=by omega
  have hb:=QdP L (t / 2) (t % 2) hk (by omega)
  have e1:t / 2*2+t % 2=t:=by omega
  rw [e1] at hb;have e2:(Qeb L)[t]? = cur[t]?:=by
   rw [← ht,List.getElem?_take,if_pos (by omega)]
   simp
  have e3:L.toArray[t / 2]! = L.getD (t / 2) pu0:=by
   rw [List.getD_eq_getElem?_getD,List.getElem?_eq_getElem hk,getElem!_pos L.toArray (t / 2) (by simpa using hk)]
   simp
  refine ⟨?_,by simp [World.frozen?,hh]⟩
  rw [e3];simp only [World.cell?,hh,Nat.zero_add];rw [← e2,hb];unfold QhX;have hl:t % 2<(puC (L.getD (t / 2) pu0)).toList.length:=by rw [Qcs];omega
  rw [List.getElem?_eq_getElem hl,getElem!_pos (puC (L.getD (t / 2) pu0)).toList (t % 2) hl];rfl
theorem pu_sorted {W:World} {n g cap:Nat} {L:List PuK} (h:Qe5 W n (.slice (some ⟨g,0,none⟩) L.length cap) L) (hi:Inhabited PuK) (d:Array PuK) (hd:d.size=L.length) (m:Nat) (os:Array Obj) :
  Qe5 (sortWorldK QhX 2 W g 0 m d os) n (.slice (some ⟨g,0,none⟩) d.toList.length cap) d.toList∧W.grownBy (sortWorldK QhX 2 W g 0 m d os) (some g):=by
 rcases h.2 with ⟨e,_⟩ | ⟨g1,c1,cur,e,hb1,hh,hc,hm,hs,ht⟩
 ·cases e
 ·cases e;have hlt:g<W.heap.size:=(Array.getElem?_eq_some_iff.1 hh).1;have hg:(sortWorldK QhX 2 W g 0 m d os).heap[g]? = some (.cells (putCells id 0 (flatK QhX 2 d) cur) 233 (0,0)):=by
   unfold sortWorldK putRowK putRow mapBlock;rw [heap_grow_old _ _ (by simpa [ahead] using hlt)]
   show (W.heap.modify g _)[g]? = _;rw [Array.getElem?_modify,if_pos rfl,hh];rfl
  refine ⟨⟨QdI _,.inr ⟨g,cap,_,rfl,hb1,hg,by simp [hd,hc],hm,by simp [putCells,hs],?_⟩⟩,rfl,rfl,rfl,?_,fun b hb hne=>?_⟩
  ·apply List.ext_getElem?;intro t;rw [List.getElem?_take];by_cases htt:t<d.toList.length*2
   ·rw [if_pos htt];have hk:t / 2<d.toList.length:=by omega
    have hb:=QdP d.toList (t / 2) (t % 2) hk (by omega)
    have e1:t / 2*2+t % 2=t:=by omega
    rw [e1] at hb;rw [hb];have hts:t<cur.size:=by rw [hs];simp [hd] at htt;omega
    have hF:t<(flatK QhX 2 d).size:=by simpa using htt
    have e3:d[t / 2]! = d.toList.getD (t / 2) pu0:=by
     rw [List.getD_eq_getElem?_getD,List.getElem?_eq_getElem hk,getElem!_pos d (t / 2) (by simpa using hk)]
     simp
    have hl:t % 2<(puC (d.toList.getD (t / 2) pu0)).toList.length:=by rw [Qcs];omega
    rw [Array.getElem?_toList];unfold putCells;rw [Array.getElem?_mapIdx,Array.getElem?_eq_getElem hts];simp only [Option.map_some,Nat.zero_le,true_and,Nat.zero_add,hF,if_true,Nat.sub_zero,id];rw [get_flatK _ _ _ t (by simpa using htt),e3,List.getElem?_eq_getElem hl]
    unfold QhX;rw [getElem!_pos (puC (d.toList.getD (t / 2) pu0)).toList (t % 2) hl]
   ·rw [if_neg htt,List.getElem?_eq_none (by rw [QdI];omega)]
  ·unfold sortWorldK putRowK putRow mapBlock;simp [ahead]
  ·unfold sortWorldK putRowK putRow mapBlock;rw [heap_grow_old _ _ (by simpa [ahead] using hb)]
   have:g≠b:=fun e=>hne (by rw [e])
   simp [ahead,Array.getElem?_modify,this]
theorem puCmp_lays (hi:Inhabited PuK) (blk off size:Nat) (w:World):CmpLays prog 149 #[] QhX 2 cmpU blk off size w:=
 fun m os dk _ x y=>puCompare_at x y _
theorem puSort_any (W:World) (n:Nat) (v:Value) (L:List PuK) (h:Qe5 W n v L) (hl:L.length≤1000000) (hnd:L.Nodup) :
  Calls prog 180 #[v,.func (.func 149) #[] #[]] W fun e w'=>e=.returned (.tuple #[])∧∃ R,R.Perm L∧Qh1 R∧Qe5 w' n v R∧W.grownBy w' v.ownBlock:=by
 have hi:Inhabited PuK:=⟨pu0⟩;by_cases h0:L=[]
 ·subst h0;obtain ⟨a,cap,rfl⟩:∃ a cap,v=.slice a 0 cap:=by
   rcases h.2 with ⟨e,_⟩ | ⟨g1,c1,cur,e,_⟩
   ·exact ⟨_,_,e⟩
   ·exact ⟨_,_,e⟩
  refine (AnyF.slices_SortFunc_none { purseLays with } a cap _ W).mono ?_
  rintro e w' ⟨rfl,rfl⟩;exact ⟨rfl,[],.nil,.nil,h,rfl,rfl,rfl,Nat.le_refl _,fun _ _ _=>rfl⟩
 ·obtain ⟨g,cap,rfl,hlt⟩:∃ g cap,v=.slice (some ⟨g,0,none⟩) L.length cap∧g<W.heap.size:=by
   rcases h.2 with ⟨e,hn⟩ | ⟨g1,c1,cur,e,hb1,hh,_⟩
   ·exact absurd (List.eq_nil_of_length_eq_zero hn) h0
   ·exact ⟨g1,c1,e,(Array.getElem?_eq_some_iff.1 hh).1⟩
  have eg:∀ args w,(callFunc 149 args).run prog w=.ok (.enter 149 args) w:=fun args w=>Qa8 func149 (by kernel_rfl) ⟨_,rfl⟩ args w
  have hcon:=AnyQ.slices_SortFunc purseLays 2 Tryz.isAgg233 Tryz.sizeOf233 QhX (fun _=>rfl) (fun x v hv=>by simp [QhX,puC] at hv;rcases hv with rfl | rfl <;> rfl) cmpU pu_swo 149 #[] g 0 cap L.toArray W eg (puCmp_lays hi g 0 _ W) (pu_holds h hi) hlt (by simp;omega)
  refine Calls.mono hcon ?_;rintro e w' ⟨rfl,d,m,os,hp,hs,rfl⟩;obtain ⟨p1,_,p3⟩:=hp;have hsz:d.size=L.length:=by rw [p1];simp
  have hpm:d.toList.Perm L:=by
   simp only [List.size_toArray] at p3;have e1:(d.extract 0 L.length).toList=d.toList:=by
    rw [← hsz];simp
   have e2:(L.toArray.extract 0 L.length).toList=L:=by simp
   rw [e1,e2] at p3;exact p3
  obtain ⟨b1,b2⟩:=pu_sorted h hi d hsz m os;refine ⟨rfl,d.toList,hpm,?_,?_,b2⟩
  ·have hnd':d.toList.Nodup:=(hpm.nodup_iff).2 hnd;refine List.pairwise_iff_getElem.2 (fun i j hi' hj' hij=>?_)
   have h1:=hs i j (Nat.zero_le _) hij (by simp at hj';simp;omega)
   have hi2:i<d.size:=by simpa using hi'
   have hj2:j<d.size:=by simpa using hj'
   rw [getElem!_pos d i hi2,getElem!_pos d j hj2] at h1;have h2:¬ cmpU d[j] d[i]<0:=of_decide_eq_false h1;have h3:d[j]≠d[i]:=fun e=>by
    have:=(List.pairwise_iff_getElem.1 hnd') i j (by simpa using hi2) (by simpa using hj2) hij
    simp at this;exact this e.symm
   have:=Qd2 h2 h3
   simpa using this
  ·have e:d.toList.length=L.length:=by simpa using hsz
   rw [e] at b1;exact b1
end
section
open Go.RowKit Go.Shelf Go.Proofs.Tryz
attribute [local go_sem] Oper.semAt_some
def UMap (W:World) (mb:Nat) (ps:List Pu) (vs:Nat→Value):Prop:=W.heap[mb]? = some (.map (QaE ps vs).toArray ps.length)
def UIt (W:World) (r mb:Nat) (ps:List Pu) (sn:List Nat):Prop:=W.heap[r]? = some (.mapIter (some mb) ps.length sn.toArray ps.length)
def QcB (ps:List Pu) (i:Nat):PuK:=(ps.map Pu.key).getD i pu0
theorem keyAt_get (ps:List Pu) (i:Nat) (h:i<ps.length):(ps[i]).key=QcB ps i:=by
 unfold QcB;rw [List.getD_eq_getElem?_getD,List.getElem?_map,List.getElem?_eq_getElem h];rfl
theorem u_next {W:World} {mb r:Nat} {ps:List Pu} {vs:Nat→Value} {sn:List Nat} (h:UMap W mb ps vs) (hr:UIt W r mb ps sn) (ty:TypeId) :
  ((∀ i,i<ps.length→i∈sn)∧(Instr.next (.pointer (some ⟨r,0,none⟩)) false ty).run prog W=.ok (.tuple #[.bool false]) W) ∨
  ∃ i,i<ps.length∧i ∉ sn∧∃ v W',(Instr.next (.pointer (some ⟨r,0,none⟩)) false ty).run prog W=.ok (.tuple #[.bool true,puV (QcB ps i),v]) W'∧UMap W' mb ps vs∧UIt W' r mb ps (sn++[i])∧W.grownBy W' (some r) ∧
   (Instr.entry (.pointer (some ⟨r,0,none⟩))).run prog W'=.ok (.tuple #[puV (QcB ps i),v]) W':=by
 have hold:∀ x∈(QaE ps vs).toArray.toList,x.born<ps.length:=fun x hx=>by
  obtain ⟨i,hi,rfl⟩:=Qd1 (by simpa using hx)
  exact hi
 have hne:r≠mb:=fun e=>by unfold UMap at h;unfold UIt at hr;rw [e,h] at hr;cases hr
 have hlt:r<W.heap.size:=(Array.getElem?_eq_some_iff.1 hr).1;rcases run_next_at (P:=prog) W ty r mb ps.length ps.length sn.toArray (QaE ps vs).toArray ps.length hr h hold (Nat.le_refl _) with ⟨h0,hrun⟩ | ⟨e,he,w1,hal,hrun⟩
 ·refine .inl ⟨fun i hi=>?_,hrun⟩
  have h1:=all_seen _ _ h0 ⟨puV (ps[i]).key,vs i,i⟩ (by simpa using List.mem_of_getElem? (QaW ps vs i hi))
  simpa using h1
 ·obtain ⟨hem,hes⟩:=mem_left he;obtain ⟨i,hi,rfl⟩:=Qd1 (by simpa using hem)
  have hns:i ∉ sn:=by simpa using hes
  have hr1:w1.heap[r]? = some (.mapIter (some mb) ps.length sn.toArray ps.length):=by rcases hal with rfl | rfl <;> exact hr
  have hb1:w1.heap[mb]? = some (.map (QaE ps vs).toArray ps.length):=by rcases hal with rfl | rfl <;> exact h
  have hlt1:r<w1.heap.size:=(Array.getElem?_eq_some_iff.1 hr1).1;have hset:=QbH hlt1 (.mapIter (some mb) ps.length (sn.toArray.push i) ps.length);have hb':(ChangeMaps.setBlock w1 r (.mapIter (some mb) ps.length (sn.toArray.push i) ps.length)).heap[mb]? = some (.map (QaE ps vs).toArray ps.length):=(Qar hne _).trans hb1;have hki:=keyAt_get ps i hi;refine .inr ⟨i,hi,hns,vs i,_,by rw [← hki];exact hrun,hb',by unfold UIt;rw [hset];simp,?_,by rw [← hki];exact run_entry_at _ r mb ps.length sn.toArray (QaE ps vs).toArray ps.length ⟨puV (ps[i]).key,vs i,i⟩ hset hb' hem (by simp only [QgR];exact List.nodup_range)⟩
  rcases hal with rfl | rfl <;> exact ⟨rfl,rfl,rfl,by simp [ChangeMaps.setBlock],fun b _ hb=>Qar (fun e1=>hb (by rw [e1])) _⟩
def leftU (n:Nat) (W:World) (r:Nat):Nat:=match W.heap[r]? with | some (.mapIter _ _ sn _)=>n - sn.size | _=>0
theorem leftU_of {W:World} {r mb:Nat} {ps:List Pu} {sn:List Nat} (h:UIt W r mb ps sn):leftU ps.length W r=ps.length - sn.length:=by
 unfold leftU;unfold UIt at h;rw [h];simp
def KyIn (ps:List Pu) (vs:Nat→Value) (mb r:Nat) (J:List PuK→World→Prop) (sn:List Nat) (wr:World):Prop:=
 UMap wr mb ps vs∧UIt wr r mb ps sn∧sn.Nodup∧(∀ i∈sn,i<ps.length)∧J (sn.map (QcB ps)) wr
theorem nodup_leN:∀ {l m:List Nat},l.Nodup→(∀ k∈l,k∈m)→l.length≤m.length
 | [],m,_,_=>Nat.zero_le _
 | k :: l,m,h,hs=>by
  obtain ⟨h1,h2⟩:=List.nodup_cons.1 h;obtain ⟨s,t,rfl⟩:=List.append_of_mem (hs k (List.mem_cons_self ..))
  have:=nodup_leN (m:=s++t) h2 (fun q hq=>by
   have h3:=hs q (List.mem_cons_of_mem _ hq);simp only [List.mem_append,List.mem_cons] at h3 ⊢;rcases h3 with h3 | h3 | h3
   ·exact .inl h3
   ·exact absurd (h3▸hq) h1
   ·exact .inr h3)
  simp only [List.length_append,List.length_cons] at this ⊢;omega
theorem seen_len {ps:List Pu} {sn:List Nat} (h1:sn.Nodup) (h2:∀ i∈sn,i<ps.length):sn.length≤ps.length:=by
 have:=nodup_leN h1 (m:=List.range ps.length) (fun i hi=>List.mem_range.2 (h2 i hi))
 simpa using this
theorem seenU_perm {ps:List Pu} {sn:List Nat} (h1:sn.Nodup) (h2:∀ i∈sn,i<ps.length) (h3:∀ i,i<ps.length→i∈sn):(sn.map (QcB ps)).Perm (ps.map Pu.key):=by
 have hp:sn.Perm (List.range ps.length):=(List.perm_ext_iff_of_nodup h1 List.nodup_range).2 fun i=>⟨fun hi=>List.mem_range.2 (h2 i hi),fun hi=>h3 i (List.mem_range.1 hi)⟩
 have e:(List.range ps.length).map (QcB ps)=ps.map Pu.key:=by
  apply List.ext_getElem?;intro i;rw [List.getElem?_map,List.getElem?_map];by_cases hi:i<ps.length
  ·rw [List.getElem?_range hi,List.getElem?_eq_getElem hi];simp [keyAt_get ps i hi]
  ·rw [List.getElem?_eq_none (by simpa using hi),List.getElem?_eq_none (by omega)]
   rfl
 rw [← e];exact hp.map _
set_option maxHeartbeats 4000000 in
theorem keysU_stops (n:Nat) (hn:3≤n) (Bn bm:Nat) (ps:List Pu) (vs:Nat→Value) (w:World) (hlt:Bn<w.heap.size) (hBn:w.cell? ⟨Bn,0,none⟩=some (.map (some bm))) (hm:UMap w bm ps vs) :
  SeqStopsK Fence.wide n prog 181 #[.pointer (some ⟨Bn,0,none⟩)] (fun x:PuK=>#[puV x]) KeepsWalks (fun xs=>xs.Perm (ps.map Pu.key)) (fun _=>True) ps.length w:=by
 intro l J Jx W hW hJ hJx hY h0;have c0:W.cell? ⟨Bn,0,none⟩=some (.map (some bm)):=(hW.cell (p:=⟨Bn,0,none⟩) hlt).trans hBn;have hmW:UMap W bm ps vs:=(hW.block bm (Array.getElem?_eq_some_iff.1 hm).1).trans hm;have hrg:=run_range_map W 227 233 24 bm _ _ Qcc hmW;obtain ⟨V,hV⟩:∃ V,W.alloc (.mapIter (some bm) ps.length #[] ps.length)=V:=⟨_,rfl⟩;have hI0:Hid (KyIn ps vs bm W.heap.size J [] V):=by
  rw [← hV];exact ⟨(QaZ _ _ _ (Array.getElem?_eq_some_iff.1 hmW).1).trans hmW,World.alloc_heap_new W _,List.nodup_nil,by simp,hJ [] W _ none h0 (World.grownBy_alloc W _ none) (fun r e=>by cases e)⟩
 rw [hV] at hrg;have HJ:Hid (AbidesFrom W.heap.size J):=hJ;have HY:Hid (∀ pre x W1,J pre W1→pre.length<ps.length→YieldAt Fence.wide (n - 1) prog l #[puV x] W1 fun e W'=>
   (e=.returned (.bool true)∧J (pre++[x]) W'∧KeepsWalks W1 W')∨(e=.returned (.bool false)∧Jx (pre++[x]) W')):=hY
 clear hY hJ hJx hm hmW h0 hV;refine callsIn_of_wp func181 rfl trivial ?_ rfl;simp only [ntmps181,List.size_toArray,List.length_cons,List.length_nil,Nat.reduceAdd,Nat.reduceSub,Array.replicate_succ,Array.replicate_zero,List.push_toArray,List.append_toArray,List.nil_append,List.cons_append]
 gi_wp2
 gi_loopw [3] (fun _ wr=>∃ sn:List Nat,Hid (KyIn ps vs bm W.heap.size J sn wr)) (fun _ wr=>leftU ps.length wr W.heap.size)
 case atStart=>exact ⟨[],hI0⟩
 case round=>
  obtain ⟨sn,HK⟩:=hrel;clear hI0;obtain ⟨k1,k2,k3,k4,k5⟩:=HK.out;rcases u_next k1 k2 0 with ⟨hall,hnx⟩ | ⟨i,hi,hns,v,w2,hnx,m2,r2,hg2,hen⟩
  ·have HP:Hid ((sn.map (QcB ps)).Perm (ps.map Pu.key)∧J (sn.map (QcB ps)) wr):=⟨seenU_perm k3 k4 hall,k5⟩;clear hall k1 k2 k3 k4 k5 HK
   gi_wp2
   go_end0
   exact ⟨⟨_,rfl⟩,.inl ⟨_,HP.out.1,HP.out.2⟩⟩
  ·have hJ2:J (sn.map (QcB ps)) w2:=HJ.out _ wr w2 (some W.heap.size) k5 hg2 (fun r e=>by cases e;exact ⟨Nat.le_refl _,_,k2,rfl⟩)
   have hn2:(sn++[i]).Nodup:=by
    rw [List.nodup_append];exact ⟨k3,by simp,fun a ha b hb e=>by simp at hb;rw [← hb,← e] at hns;exact hns ha⟩
   have hr2:∀ j∈sn++[i],j<ps.length:=fun j hj=>by
    rcases List.mem_append.1 hj with hj | hj
    ·exact k4 j hj
    ·rw [List.mem_singleton.1 hj];exact hi
   have hl2:=seen_len hn2 hr2;rw [List.length_append] at hl2;simp only [List.length_cons,List.length_nil] at hl2;obtain ⟨V2,hV2⟩:∃ V2,w2.alloc (.cells #[.int .i64 (QcB ps i).1,.string (QcB ps i).2] 233)=V2:=⟨_,rfl⟩;have hJV:J (sn.map (QcB ps)) V2:=HJ.out _ w2 V2 none hJ2 (by rw [← hV2];exact World.grownBy_alloc w2 _ none) (fun r e=>by cases e)
   have mV:UMap V2 bm ps vs:=by rw [← hV2];exact (QaZ _ _ _ (Array.getElem?_eq_some_iff.1 m2).1).trans m2
   have rV:UIt V2 W.heap.size bm ps (sn++[i]):=by rw [← hV2];exact (QaZ _ _ _ (Array.getElem?_eq_some_iff.1 r2).1).trans r2
   have cV0:V2.cell? ⟨w2.heap.size,0,none⟩=some (.int .i64 (QcB ps i).1):=by rw [← hV2];unfold World.cell?;rw [World.alloc_heap_new];rfl
   have cV1:V2.cell? ⟨w2.heap.size,1,none⟩=some (.string (QcB ps i).2):=by rw [← hV2];unfold World.cell?;rw [World.alloc_heap_new];rfl
   obtain ⟨fn,tmps,assign,body,hy,hR⟩:=HY.out (sn.map (QcB ps)) (QcB ps i) V2 hJV (by rw [List.length_map];omega)
   have HV2:Hid (w2.alloc (.cells #[.int .i64 (QcB ps i).1,.string (QcB ps i).2] 233)=V2):=hV2;have hm1:leftU ps.length wr W.heap.size=ps.length - sn.length:=leftU_of k2;have HN:Hid (∀ W3,J (sn.map (QcB ps)++[QcB ps i]) W3→KeepsWalks V2 W3→KyIn ps vs bm W.heap.size J (sn++[i]) W3):=fun W3 h1 h2=>
    ⟨h2.same _ _ mV rfl,h2.same _ _ rV rfl,hn2,hr2,by rw [List.map_append];exact h1⟩
   simp only [puV] at hnx hen hy;generalize QcB ps i=kv at *
   obtain ⟨q0,q1⟩:=kv;simp only at hnx hen hy cV0 cV1 HV2 hV2;clear HV2 m2 r2 mV rV hJV hg2 hJ2 hn2 hr2 k1 k2 k3 k4 k5 HK;subst hV2
   gi_wp2
   refine ⟨fun _=>by omega,hR.mono ?_⟩
   rintro e W3 (⟨rfl,hJ3,hk3⟩ | ⟨rfl,hJx3⟩)
   ·have HN3:Hid (KyIn ps vs bm W.heap.size J (sn++[i]) W3):=HN.out W3 hJ3 hk3;clear hJ3 hk3 HN
    gi_wp2
    go_roundw
    case rel=>exact ⟨sn++[i],HN3⟩
    case measure=>rw [leftU_of HN3.out.2.1,hm1,List.length_append];simp only [List.length_cons,List.length_nil];omega
   ·clear HN
    gi_wp2
    refine bodyPost_ret (results_none rfl _ _ _) rfl ?_;exact ⟨⟨_,rfl⟩,.inr ⟨_,trivial,hJx3⟩⟩
end
section
open Go.RowKit Go.Proofs.Tryz
end
section
open Go.RowKit Go.Lib Go.Proofs.Tryz
end
end Go.Proofs.YtjifbbdkpanagaaGreatDoor
