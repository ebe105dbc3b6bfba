/-
  Part of a proof (see the last text).
-/
import Derived.Test.YtjifbbdkpanagaaGreatDoorZd23
set_option linter.unusedVariables false
set_option linter.unusedSimpArgs false
set_option maxRecDepth 100000
namespace Go.Proofs.YtjifbbdkpanagaaGreatDoor
section
open Go.RowKit Go.Lib Go.Proofs.Tryz
def QbI (x:Ln):Bool:=!decide (-1000000000000000≤x.amt∧x.amt≤1000000000000000)
theorem ckE1_any (x:Ln) (w:World) :
  Calls prog 97 #[.agg x.cells] w fun e w'=>e=.returned (.bool (QbI x))∧Below w.heap.size w w':=by
 obtain ⟨a0,a1,a3⟩:=x;simp only [Ln.cells,QbI];have HI:Hid (∀ W,Calls prog 98 #[.int .i64 a3,.int .i64 1000000000000000] W fun e w'=>e=.returned (.bool (decide (-1000000000000000≤a3∧a3≤1000000000000000)))∧w'=W):=fun W=>Qgd a3 1000000000000000 (by decide) W
 generalize decide (-1000000000000000≤a3∧a3≤1000000000000000)=r at *
 go_enter func97,ntmps97
 go_wp2_with (go_at_call 98;refine (HI.out _).mono ?_;rintro e w' ⟨rfl,rfl⟩);go_ret;exact ⟨rfl,(Below.refl _ w).alloc (Nat.le_refl _) _⟩
theorem ckE1_tells:Qix 97 QbI:=
 ⟨fun args W=>Qa8 func97 (by kernel_rfl) ⟨_,rfl⟩ args W,ckE1_any⟩
def ceE (L:List Je):Int:=if 200<L.length then 4 else if L.any (fun x=>x.lns.any QbI)=true then 1 else 0
theorem Qha.some {w:World} {a:Option Addr} {L:List Je} {cap k:Nat} (h:Qha w a L cap) (hk:k<L.length):∃ b off,a=some ⟨b,off,none⟩∧b<w.heap.size∧∀ k,k<L.length→JeAt w b (off+k*4) (L.getD k je0):=by
 rcases h.lies with h | h
 ·rw [h] at hk;simp at hk
 ·exact h
def JeFit (L:List Je):Prop:=∀ x∈L,x.lns.length≤9223372036854775807
set_option maxHeartbeats 4000000 in
theorem ckEntries_any (a:Option Addr) (cap:Nat) (L:List Je) (w:World) (hlen:L.length≤9223372036854775807) (hfit:JeFit L) (h:Qha w a L cap) :
  Calls prog 57 #[.slice a L.length cap] w fun e w'=>e=.returned (enE (ceE L))∧Below w.heap.size w w':=by
 by_cases h2:200<L.length
 ·have e4:ceE L=4:=if_pos h2;rw [e4,QaF (by decide)]
  have i1:(200:Int)<L.length:=by omega
  clear h e4 hfit;go_enter func57,ntmps57
  go_wp2;go_ret;exact ⟨rfl,Below.refl _ _⟩
 have i1:¬ (200:Int)<L.length:=by omega
 have i2:(L.length:Int)≤200:=by omega
 obtain ⟨res,hres⟩:∃ res,enE (ceE L)=res:=⟨_,rfl⟩;have Hres:Hid (enE (if L.any (fun x=>x.lns.any QbI)=true then 1 else 0)=res):=by
  rw [← hres];unfold ceE;rw [if_neg h2];exact rfl
 rw [hres];clear hres;have HL:Hid (Qha w a L cap∧JeFit L):=⟨h,hfit⟩;clear h hfit;go_enter func57,ntmps57
 go_wp2;go_loopw [11] (fun i wr=>∃ k:Nat,k≤L.length∧i=.int .i64 k∧Hid ((L.take k).any (fun x=>x.lns.any QbI)=false)∧Hid (Below w.heap.size w wr)) (fun i _=>L.length - (RowKit.intOf i).toNat)
 case atStart=>exact ⟨0,Nat.zero_le _,rfl,by simp [Hid],Below.refl _ _⟩
 case round=>
  obtain ⟨k,hk,rfl,H0,HB⟩:=hrel;by_cases hlt:k<L.length
  ·obtain ⟨b,off,rfl,hb,hc⟩:=HL.out.1.some hlt;have hy:=(hc k hlt).below HB.out hb;have hln:=(HL.out.1.lns _ (Qft L k hlt)).below HB.out;have hll:=HL.out.2 _ (Qft L k hlt);have i0:(0:Int)≤k:=by omega
   have i3:(k:Int)<L.length:=by omega
   obtain ⟨y,hyy⟩:∃ y,L.getD k je0=y:=⟨_,rfl⟩;have HY:Hid (L.getD k je0=y):=hyy;rw [hyy] at hy hln hll;clear hyy hc;obtain ⟨y0,y1,y2,ya,yc,yl⟩:=y;obtain ⟨d0,d1,d2,d3⟩:=hy;simp only at d0 d1 d2 d3 hln hll;obtain ⟨V,hV⟩:∃ V,wr.alloc (.cells #[.string y0,.int .i64 y1,.int .i64 y2,.slice ya yl.length yc] 59)=V:=⟨_,rfl⟩;have hbV:Below wr.heap.size wr V:=by rw [← hV];exact (Below.refl _ _).alloc (Nat.le_refl _) _
   have HC:Hid (Calls _ _ _ V _):=Qeg 97 QbI ya yc yl V ckE1_tells (by omega) (hln.below hbV)
   have HV:Hid (wr.alloc (.cells #[.string y0,.int .i64 y1,.int .i64 y2,.slice ya yl.length yc] 59)=V):=hV;have HBV:Hid (Below w.heap.size w V):=HB.out.trans (hbV.mono HB.out.size);clear hV hbV hln;cases hq:yl.any QbI
   ·rw [hq] at HC;have HN:Hid ((L.take (k+1)).any (fun x=>x.lns.any QbI)=false):=by
     unfold Hid;rw [jes_take L k hlt,List.any_append,H0.out,HY.out];simp [hq]
    clear hq;go_wp2_with (go_at_call 81;rw [HV.out];refine HC.out.mono ?_;rintro e w' ⟨rfl,hbc⟩);have HB2:Hid (Below w.heap.size w w'):=HBV.out.trans (hbc.mono HBV.out.size);go_roundw
    case rel=>exact ⟨k+1,by omega,by go_num,HN,HB2⟩
    case measure=>simp [RowKit.intOf];omega
   ·rw [hq] at HC;have er:res=enE 1:=by
     rw [← Hres.out,if_pos];exact List.any_eq_true.2 ⟨L.getD k je0,Qft L k hlt,by rw [HY.out];exact hq⟩
    rw [QaF (by decide)] at er
    subst er;clear hq Hres;go_wp2_with (go_at_call 81;rw [HV.out];refine HC.out.mono ?_;rintro e w' ⟨rfl,hbc⟩);go_ret;exact ⟨rfl,HBV.out.trans (hbc.mono HBV.out.size)⟩
  ·have hk2:k=L.length:=by omega
   subst hk2;have er:res=enE 0:=by
    have h0:=H0.out;rw [List.take_length] at h0;rw [← Hres.out,h0];rfl
   rw [QbE] at er;subst er;clear Hres;go_wp2;go_ret;exact ⟨rfl,HB.out⟩
def Qif (x:Je):List Bl:=x.lns.map fun n=>⟨x.ent,n.acc,n.cur,n.amt⟩
def QaR (p:Je→Bool) (L:List Je):List Bl:=(L.filter p).flatMap Qif
theorem Qdb (x:Je):(Qif x).length=x.lns.length:=by simp [Qif]
theorem lnsB_get (x:Je) (k:Nat) (h:k<x.lns.length):(Qif x).getD k bl0=⟨x.ent,(x.lns.getD k ln0).acc,(x.lns.getD k ln0).cur,(x.lns.getD k ln0).amt⟩:=by
 rw [List.getD_eq_getElem?_getD,List.getD_eq_getElem?_getD,Qif,List.getElem?_map,List.getElem?_eq_getElem h];rfl
theorem flatB_snoc_no {p:Je→Bool} {L:List Je} {x:Je} (h:p x=false):QaR p (L++[x])=QaR p L:=by
 unfold QaR;rw [List.filter_append];simp [h]
theorem flatB_snoc {p:Je→Bool} {L:List Je} {x:Je} (h:p x=true):QaR p (L++[x])=QaR p L++Qif x:=by
 unfold QaR;rw [List.filter_append,List.flatMap_append];simp [h]
structure JTells (g:Nat) (cb:Array Value) (p:Je→Bool) (n:Nat) (W0:World):Prop where
 eg:∀ args W,(callFunc g args).run prog W=.ok (.enter g args) W
 call:∀ (x:Je) U,Below n W0 U→Calls prog g (#[.agg x.cells]++cb) U fun e w'=>e=.returned (.bool (p x))∧Below U.heap.size U w'
structure JsOk (L:List Je):Prop where
 ent:∀ x∈L,-9223372036854775808≤x.ent∧x.ent≤9223372036854775807
 per:∀ x∈L,-9223372036854775808≤x.per∧x.per≤9223372036854775807
 lns:∀ x∈L,∀ n∈x.lns,n.acc.size≤maxLen∧n.cur.size≤maxLen
 all:(L.flatMap Qif).length≤17592186044400
theorem JsOk.fit {L:List Je} (h:JsOk L):JeFit L:=fun x hx=>by
 have h1:=h.all;obtain ⟨s,t,rfl⟩:=List.append_of_mem hx;rw [List.flatMap_append,List.length_append,List.flatMap_cons,List.length_append,Qdb] at h1;omega
theorem QgW (p:Je→Bool):∀ L:List Je,(QaR p L).length≤(L.flatMap Qif).length
 | []=>by simp [QaR]
 | x :: L=>by
  have ih:=QgW p L;unfold QaR at ih ⊢;rw [List.filter_cons]
  split
  ·rw [List.flatMap_cons,List.flatMap_cons,List.length_append,List.length_append];omega
  ·rw [List.flatMap_cons,List.length_append];omega
theorem flatB_pre (p:Je→Bool) (L:List Je) (k:Nat) (h:k<L.length):(QaR p (L.take k)).length+(L.getD k je0).lns.length≤(L.flatMap Qif).length:=by
 have h1:=QgW p (L.take k);have e:L=L.take k++L.getD k je0 :: L.drop (k+1):=by rw [← jes_drop L k h,List.take_append_drop]
 have e2:(L.flatMap Qif).length=((L.take k).flatMap Qif).length+((L.getD k je0).lns.length+((L.drop (k+1)).flatMap Qif).length):=by
  conv=>lhs;rw [e]
  rw [List.flatMap_append,List.length_append,List.flatMap_cons,List.length_append,Qdb]
 omega
theorem ce_zero {L:List Je} (h:ceE L=0):L.length≤200∧∀ x∈L,∀ n∈x.lns,-1000000000000000≤n.amt∧n.amt≤1000000000000000:=by
 unfold ceE at h;split at h
 ·omega
 ·split at h
  ·omega
  ·rename_i h1 h2;refine ⟨by omega,fun x hx n hn=>?_⟩
   false_or_by_contra
   rename_i h3;refine h2 (List.any_eq_true.2 ⟨x,hx,List.any_eq_true.2 ⟨n,hn,?_⟩⟩);unfold QbI;rw [decide_eq_false h3];rfl
theorem flatB_mem {p:Je→Bool} {L:List Je} {y:Bl} (h:y∈QaR p L):∃ x∈L,p x=true∧∃ n∈x.lns,y=⟨x.ent,n.acc,n.cur,n.amt⟩:=by
 obtain ⟨x,hx,hy⟩:=List.mem_flatMap.1 h;obtain ⟨h1,h2⟩:=List.mem_filter.1 hx;obtain ⟨n,hn,rfl⟩:=List.mem_map.1 hy;exact ⟨x,h1,h2,n,hn,rfl⟩
theorem flatB_ok {p:Je→Bool} {L:List Je} (h:JsOk L) (hc:ceE L=0):∀ y∈QaR p L,BlOk y:=fun y hy=>by
 obtain ⟨x,hx,_,n,hn,rfl⟩:=flatB_mem hy;have h1:=(ce_zero hc).2 x hx n hn;exact ⟨⟨h.ent x hx,(h.lns x hx n hn).1,(h.lns x hx n hn).2⟩,by simp only;omega⟩
def oeE (p:Je→Bool) (L:List Je):Int:=if ceE L≠0 then ceE L else tgE (parts (QaR p L))
structure OeR (p:Je→Bool) (L:List Je) (R:List Bl):Prop where
 sums:Sums (QaR p L) R
 len:R.length≤200
 ok:∀ x∈R,BlOk x
end
section
open Go.RowKit Go.Lib Go.Proofs.Tryz
set_option maxHeartbeats 8000000 in
theorem ofEntries_any (a:Option Addr) (cap:Nat) (L:List Je) (W:World) (g:Nat) (cb:Array Value) (p:Je→Bool) (hlen:L.length≤9223372036854775807) (h:Qha W a L cap) (hok:JsOk L) (hp:JTells g cb p W.heap.size W) :
  Calls prog 20 #[.slice a L.length cap,.func (.func g) #[] cb] W fun e w'=>Below W.heap.size W w'∧(oeE p L≠0→e=.returned (.tuple #[.slice none 0 0,enE (oeE p L)]))∧(oeE p L=0→∃ v R,e=.returned (.tuple #[v,.nilIface])∧Hid (Qba w' W.heap.size v R∧OeR p L R)):=by
 have hmm:=@run_makeMap prog;have eg:=hp.eg;have HCk:Hid (Calls _ _ _ W _):=ckEntries_any a cap L W hlen hok.fit h;have HA:Hid (Qha W a L cap∧JsOk L∧JTells g cb p W.heap.size W):=⟨h,hok,hp⟩;clear h hok hp;by_cases hce:ceE L=0
 ·rw [hce,QbE] at HCk;have hl200:(L.length:Int)≤200:=by have:=(ce_zero hce).1;omega
  have HCe:Hid (ceE L=0):=hce;clear hce;go_enter func20,ntmps20
  go_wp2_with (go_at_call 57;refine HCk.out.mono ?_;rintro e W0 ⟨rfl,hb0⟩);have HB0:Hid (Below W.heap.size W W0):=hb0;obtain ⟨W1,hW1⟩:∃ W1,W0.alloc (.map #[] 0)=W1:=⟨_,rfl⟩;rw [hW1];obtain ⟨mb,hmb⟩:∃ mb,W0.heap.size=mb:=⟨_,rfl⟩;have hWm:W.heap.size≤mb:=by rw [← hmb];exact hb0.size
  have HS:Hid ((∃ vs,PMp W1 mb mb (parts (QaR p (L.take 0))) vs)∧QbB mb mb W1 W1):=by
   rw [← hW1,← hmb];exact ⟨⟨fun _=>.slice none 0 0,PMp.new W0 _ (Nat.le_refl _) _⟩,QbB.refl _ _ _⟩
  have HF:Hid (∀ U,QbB mb mb W1 U→Below W.heap.size W U):=fun U hk=>by
   have h1:Below mb W0 U:=by
    have h2:=hk.below (Nat.le_refl _) (by rw [← hW1,← hmb];simp)
    have h3:Below mb W0 W1:=by rw [← hW1,← hmb];exact (Below.refl _ _).alloc (Nat.le_refl _) _
    exact h3.trans h2
   exact hb0.trans (h1.mono hWm)
  rw [hmb];clear hb0 hW1 hmb HCk;go_loopw [20] (fun iv wr=>∃ k:Nat,k≤L.length∧iv=.int .i64 k∧Hid ((∃ vs,PMp wr mb mb (parts (QaR p (L.take k))) vs)∧QbB mb mb W1 wr)) (fun iv _=>L.length - (RowKit.intOf iv).toNat)
  case atStart=>exact ⟨0,Nat.zero_le _,rfl,HS⟩
  case round=>
   clear HS;obtain ⟨k,hk,rfl,HJ⟩:=hrel;have k0:(0:Int)≤k:=by omega
   by_cases hkl:k<L.length
   ·have k1:(k:Int)<L.length:=by omega
    obtain ⟨b0,off0,rfl,hb0,hc0⟩:=HA.out.1.some hkl;have hBq:Below W.heap.size W wr:=HF.out wr HJ.out.2;have hx:=(hc0 k hkl).below hBq hb0;have hmem:=Qft L k hkl;have hln:=HA.out.1.lns _ hmem;have hpre:=flatB_pre p L k hkl;have hall:=HA.out.2.1.all;have hent:=HA.out.2.1.ent _ hmem;have hlns:=HA.out.2.1.lns _ hmem;have hamt:=(ce_zero HCe.out).2 _ hmem;obtain ⟨x,hxx⟩:∃ x,L.getD k je0=x:=⟨_,rfl⟩;have HX:Hid (L.getD k je0=x):=hxx
    rw [hxx] at hx hln hpre hent hlns hamt;obtain ⟨V,hV⟩:∃ V,wr.alloc (.cells x.cells 59)=V:=⟨_,rfl⟩;have hbV:Below wr.heap.size wr V:=by rw [← hV];exact (Below.refl _ _).alloc (Nat.le_refl _) _
    have hVh:V.heap[wr.heap.size]? = some (.cells x.cells 59 (0,0)):=by rw [← hV];exact Qbg wr _
    have HCt:Hid (Calls _ _ _ V _):=HA.out.2.2.call x V (hBq.trans (hbV.mono hBq.size));have HV:Hid (wr.alloc (.cells x.cells 59)=V):=hV;obtain ⟨B,hB⟩:∃ B,wr.heap.size=B:=⟨_,rfl⟩;have HBx:Hid (∀ U,Below V.heap.size V U→U.heap[B]? = some (.cells x.cells 59 (0,0))):=fun U hU=>by
     rw [← hB];exact (hU.block _ (Array.getElem?_eq_some_iff.1 hVh).1).trans hVh
    have HBm:Hid (B≠mb):=fun e=>by
     obtain ⟨vs,hvs⟩:=HJ.out.1
     have:=(Array.getElem?_eq_some_iff.1 hvs.map).1
     omega
    have HJV:Hid ((∃ vs,PMp V mb mb (parts (QaR p (L.take k))) vs)∧QbB mb mb W1 V):=by
     obtain ⟨vs,hvs⟩:=HJ.out.1;exact ⟨⟨vs,hvs.below hbV⟩,HJ.out.2.trans (QbB.of_below hbV)⟩
    have HXs:Hid (Qfs W x.adr x.lns x.cap∧(QaR p (L.take k)).length+x.lns.length≤17592186044400∧(-9223372036854775808≤x.ent∧x.ent≤9223372036854775807)∧(∀ n∈x.lns,n.acc.size≤maxLen∧n.cur.size≤maxLen)∧(∀ n∈x.lns,-1000000000000000≤n.amt∧n.amt≤1000000000000000)):=⟨hln,by omega,hent,hlns,hamt⟩
    obtain ⟨c0,c1,c2,c3⟩:V.cell? ⟨B,0,none⟩=some (.string x.ref)∧V.cell? ⟨B,1,none⟩=some (.int .i64 x.ent)∧V.cell? ⟨B,2,none⟩=some (.int .i64 x.per)∧V.cell? ⟨B,3,none⟩=some (.slice x.adr x.lns.length x.cap):=by
     have e:=HBx.out V (Below.refl _ _);simp [World.cell?,e,Je.cells]
    clear hbV hV hVh hc0 hBq hln hpre hall hent hlns hamt hmem hxx;have HBe:Hid (wr.heap.size=B):=hB;clear hB;cases hpx:p x
    ·rw [hpx] at HCt;have HPx:Hid (p x=false):=hpx;clear hpx;obtain ⟨x0,x1,x2,xa,xc,xl⟩:=x;obtain ⟨d0,d1,d2,d3⟩:=hx;simp only [Je.cells] at d0 d1 d2 d3 HV HCt c0 c1 c2 c3;have HN:Hid (∀ U,Below V.heap.size V U→(∃ vs,PMp U mb mb (parts (QaR p (L.take (k+1)))) vs)∧QbB mb mb W1 U):=fun U hU=>by
      obtain ⟨vs,hvs⟩:=HJV.out.1;rw [jes_take L k hkl,HX.out,flatB_snoc_no HPx.out];exact ⟨⟨vs,hvs.below hU⟩,HJV.out.2.trans (QbB.of_below hU)⟩
     clear HJV HJ HBx HXs;go_wp2_with (go_at_fn g;rw [HV.out];refine HCt.out.mono ?_;rintro e U ⟨rfl,hU⟩);have HU:Hid ((∃ vs,PMp U mb mb (parts (QaR p (L.take (k+1)))) vs)∧QbB mb mb W1 U):=HN.out U hU;go_roundw
     case rel=>exact ⟨k+1,by omega,by go_num,HU⟩
     case measure=>simp [RowKit.intOf];omega
    ·rw [hpx] at HCt;have HPx:Hid (p x=true):=hpx;clear hpx;obtain ⟨lb',hlb'⟩:∃ lb',Qif x=lb':=⟨_,rfl⟩;have HLB:Hid (Qif x=lb'∧lb'.length=x.lns.length):=⟨hlb',by rw [← hlb',Qdb]⟩
     have HLg:Hid (∀ j,j<x.lns.length→lb'.getD j bl0=⟨x.ent,(x.lns.getD j ln0).acc,(x.lns.getD j ln0).cur,(x.lns.getD j ln0).amt⟩):=fun j hj=>by rw [← hlb'];exact lnsB_get x j hj
     clear hlb';obtain ⟨x0,x1,x2,xa,xc,xl⟩:=x;obtain ⟨d0,d1,d2,d3⟩:=hx;simp only [Je.cells] at d0 d1 d2 d3 HV HCt c0 c1 c2 c3 HBx HXs HLg HLB;have hxl:(xl.length:Int)≤17592186044400:=by have:=HXs.out.2.1;omega
     have HE3:Hid (∀ U,Below V.heap.size V U→U.cell? ⟨wr.heap.size,3,none⟩=some (.slice xa xl.length xc)):=fun U hU=>by
      have e:=HBx.out U hU;rw [HBe.out];simp [World.cell?,e]
     go_wp2_with (go_at_fn g;rw [HV.out];refine HCt.out.mono ?_;rintro e U ⟨rfl,hU⟩;have e3:=HE3.out U hU);have HUB:=HBx.out U hU;have HQ0:Hid ((∃ vs,PMp U mb mb (parts (QaR p (L.take k)++lb'.take 0)) vs)∧QbB mb mb W1 U∧U.heap[B]? = some (.cells #[.string x0,.int .i64 x1,.int .i64 x2,.slice xa xl.length xc] 59 (0,0))):=by
      obtain ⟨vs,hvs⟩:=HJV.out.1;rw [List.take_zero,List.append_nil];exact ⟨⟨vs,hvs.below hU⟩,HJV.out.2.trans (QbB.of_below hU),HUB⟩
     clear HUB hU HCt HJV HJ HBx c0 c1 c2 c3 d0 d1 d2 d3 HE3 e3;rw [HBe.out];go_loopw [31] (fun jv wq=>∃ j:Nat,j≤xl.length∧jv=.int .i64 j∧Hid ((∃ vs,PMp wq mb mb (parts (QaR p (L.take k)++lb'.take j)) vs)∧QbB mb mb W1 wq∧wq.heap[B]? = some (.cells #[.string x0,.int .i64 x1,.int .i64 x2,.slice xa xl.length xc] 59 (0,0)))) (fun jv _=>xl.length - (RowKit.intOf jv).toNat)
     case atStart=>exact ⟨0,Nat.zero_le _,rfl,HQ0⟩
     case round=>
      clear HQ0
      rename World=>wq
      obtain ⟨j,hj,rfl,HQ⟩:=hrel;have j0:(0:Int)≤j:=by omega
      by_cases hjl:j<xl.length
      ·have j1:(j:Int)<xl.length:=by omega
       obtain ⟨b1,off1,rfl,hb1,hc1⟩:∃ b off,xa=some ⟨b,off,none⟩∧b<W.heap.size∧Qgv W b off xl:=by
        rcases HXs.out.1.lies with h | h
        ·rw [h] at hjl;simp at hjl
        ·exact h
       have hBw:Below W.heap.size W wq:=HF.out wq HQ.out.2.1;have hn:=(hc1 j hjl).below hBw hb1;have hlm:=lns_mem xl j hjl;have hsz:=HXs.out.2.2.2.1 _ hlm;have ham:=HXs.out.2.2.2.2 _ hlm;have hgj:=HLg.out j hjl;obtain ⟨nn,hnn⟩:∃ nn,xl.getD j ln0=nn:=⟨_,rfl⟩;rw [hnn] at hn hsz ham hgj;obtain ⟨n0,n1,n2⟩:=nn;obtain ⟨f0,f1,f2⟩:=hn;simp only at f0 f1 f2 hsz ham hgj;obtain ⟨Z,hZ⟩:∃ Z,wq.alloc (.cells #[.string n0,.string n1,.int .i64 n2] 56)=Z:=⟨_,rfl⟩
       have hbZ:Below wq.heap.size wq Z:=by rw [← hZ];exact (Below.refl _ _).alloc (Nat.le_refl _) _
       have hZh:Z.heap[wq.heap.size]? = some (.cells #[.string n0,.string n1,.int .i64 n2] 56 (0,0)):=by rw [← hZ];exact Qbg wq _
       have hZB:Z.heap[B]? = some (.cells #[.string x0,.int .i64 x1,.int .i64 x2,.slice (some ⟨b1,off1,none⟩) xl.length xc] 59 (0,0)):=(hbZ.block _ (Array.getElem?_eq_some_iff.1 HQ.out.2.2).1).trans HQ.out.2.2;obtain ⟨vs,hvs⟩:=HQ.out.1;have HAdd:Hid (Calls _ _ _ Z _):=ldAdd_any ⟨x1,n0,n1,n2⟩ Z mb mb _ vs (hvs.below hbZ) ⟨HXs.out.2.2.1,hsz.1,hsz.2⟩ (by simp only;omega) (fun q hq=>by
        have h1:=parts_zs _ q hq;have h2:=HXs.out.2.1;have h3:=HLB.out.2;simp only [List.length_append,List.length_take] at h1;omega)
       have HNx:Hid (∀ U,(∃ vs',Hid (PMp U mb mb (Qeo (parts (QaR p (L.take k)++lb'.take j)) ⟨x1,n0,n1,n2⟩) vs'∧QbB mb mb Z U))→(∃ vs,PMp U mb mb (parts (QaR p (L.take k)++lb'.take (j+1))) vs)∧QbB mb mb W1 U∧U.heap[B]? = some (.cells #[.string x0,.int .i64 x1,.int .i64 x2,.slice (some ⟨b1,off1,none⟩) xl.length xc] 59 (0,0))):=fun U ⟨vs',h⟩=>by
        refine ⟨⟨vs',?_⟩,HQ.out.2.1.trans ((QbB.of_below hbZ).trans h.out.2),?_⟩
        ·rw [parts_take _ lb' j (by have:=HLB.out.2;omega),hgj]
         exact h.out.1
        ·exact (h.out.2.block B (Array.getElem?_eq_some_iff.1 hZB).1 HBm.out (.inr (fun cs e=>by rw [hZB] at e;simp only [Option.some.injEq,Obj.cells.injEq] at e;exact absurd e.2.1 (by decide)))).trans hZB
       have HZ:Hid (wq.alloc (.cells #[.string n0,.string n1,.int .i64 n2] 56)=Z):=hZ;have g0:Z.cell? ⟨wq.heap.size,0,none⟩=some (.string n0):=by simp [World.cell?,hZh]
       have g1:Z.cell? ⟨wq.heap.size,1,none⟩=some (.string n1):=by simp [World.cell?,hZh]
       have g2:Z.cell? ⟨wq.heap.size,2,none⟩=some (.int .i64 n2):=by simp [World.cell?,hZh]
       have gB:wq.cell? ⟨B,1,none⟩=some (.int .i64 x1):=by simp [World.cell?,HQ.out.2.2]
       have gB2:(wq.alloc (.cells #[.string n0,.string n1,.int .i64 n2] 56)).cell? ⟨B,1,none⟩=some (.int .i64 x1):=by rw [hZ];simp [World.cell?,hZB]
       simp only [Bl.cells] at HAdd;clear hvs hc1 hBw hsz ham hgj hnn hbZ hZ hZh hZB hlm HQ HLg;go_wp2_with (go_at_call 58;rw [HZ.out];refine HAdd.out.mono ?_;rintro e U9 ⟨rfl,hU9⟩);have HU9:Hid ((∃ vs,PMp U9 mb mb (parts (QaR p (L.take k)++lb'.take (j+1))) vs)∧QbB mb mb W1 U9∧U9.heap[B]? = some (.cells #[.string x0,.int .i64 x1,.int .i64 x2,.slice (some ⟨b1,off1,none⟩) xl.length xc] 59 (0,0))):=HNx.out U9 hU9
       clear hU9 HNx HAdd;go_roundw
       case rel=>exact ⟨j+1,by omega,by go_num,HU9⟩
       case measure=>simp [RowKit.intOf];omega
      ·have j1:¬ (j:Int)<xl.length:=by omega
       obtain rfl:j=xl.length:=by omega
       have HN:Hid ((∃ vs,PMp wq mb mb (parts (QaR p (L.take (k+1)))) vs)∧QbB mb mb W1 wq):=by
        obtain ⟨vs,hvs⟩:=HQ.out.1;rw [jes_take L k hkl,HX.out,flatB_snoc HPx.out,HLB.out.1];rw [← HLB.out.2,List.take_length] at hvs;exact ⟨⟨vs,hvs⟩,HQ.out.2.1⟩
       clear HQ;go_wp2_with fail;go_roundw
       case rel=>exact ⟨k+1,by omega,by go_num,HN⟩
       case measure=>simp [RowKit.intOf];omega
   ·have k1:¬ (k:Int)<L.length:=by omega
    obtain rfl:k=L.length:=by omega
    obtain ⟨vs,hvs⟩:=HJ.out.1;rw [List.take_length] at hvs;have hfl:=QgW p L;have hall:=HA.out.2.1.all;have HTg:Hid (Calls _ _ _ wr _):=Qii wr mb mb _ vs hvs (fun q hq=>by
     have:=parts_zs _ q hq
     omega) (by have:=parts_length (QaR p L);omega)
    have HB:Hid (Below W.heap.size W wr):=HF.out wr HJ.out.2;have HOe:Hid (oeE p L=tgE (parts (QaR p L))):=by
     unfold Hid oeE;rw [if_neg (by simp [HCe.out])]
    have hokf:=flatB_ok (p:=p) HA.out.2.1 HCe.out;by_cases ht:tgE (parts (QaR p L))=0
    ·have HT2:Hid (Calls prog 59 #[.map (some mb)] wr fun e w'=>∃ v R,e=.returned (.tuple #[v,.nilIface])∧Hid (Below W.heap.size W w'∧Qba w' W.heap.size v R∧OeR p L R)):=by
      refine HTg.out.mono ?_;rintro e w' ⟨h1,_,h3⟩;obtain ⟨v,R,rfl,h4⟩:=h3 ht;obtain ⟨h5,h6,h7⟩:=h4.out;have h8:Qba w' W.heap.size v R:=by
       rcases h5.2 with ⟨hv,hn⟩ | ⟨g1,c1,cur,hv,hb1,r⟩
       ·exact ⟨h5.1,.inl ⟨hv,hn⟩⟩
       ·exact ⟨h5.1,.inr ⟨g1,c1,cur,hv,Nat.le_trans HB.out.size hb1,r⟩⟩
      have h200:¬ 200<(parts (QaR p L)).length:=fun hh=>by
       unfold tgE at ht;rw [if_pos hh] at ht;omega
      have hfit:∀ q∈parts (QaR p L),-9223372036854775808≤q.zs.sum∧q.zs.sum≤9223372036854775807:=fun q hq=>by
       unfold tgE at ht;rw [if_neg h200] at ht;split at ht
       ·rename_i hh;exact of_decide_eq_true (List.all_eq_true.1 hh q hq)
       ·omega
      exact ⟨v,R,rfl,HB.out.trans (h1.mono HB.out.size),h8,⟨sums_of_perm h6 h7,Nat.le_trans (len_of_perm h7) (by omega),ok_of_perm h7 hokf hfit⟩⟩
     have HO0:Hid (oeE p L=0):=HOe.out.trans ht;clear HTg hvs hfl hall HOe HB hokf ht HJ;go_wp2_with (go_at_call 59;refine HT2.out.mono ?_;rintro e w' ⟨v,R,rfl,hR⟩);go_ret2;exact ⟨hR.out.1,fun h=>absurd HO0.out h,fun _=>⟨v,R,rfl,hR.out.2.1,hR.out.2.2⟩⟩
    ·have HT2:Hid (Calls prog 59 #[.map (some mb)] wr fun e w'=>e=.returned (.tuple #[.slice none 0 0,enE (tgE (parts (QaR p L)))])∧Hid (Below W.heap.size W w')):=by
      refine HTg.out.mono ?_;rintro e w' ⟨h1,h2,_⟩;exact ⟨h2 ht,HB.out.trans (h1.mono HB.out.size)⟩
     rw [QaF ht] at HT2;have HOt:Hid (oeE p L=tgE (parts (QaR p L))∧tgE (parts (QaR p L))≠0):=⟨HOe.out,ht⟩;clear HTg hvs hfl hall HOe HB hokf ht HJ;generalize tgE (parts (QaR p L))=tt at *
     go_wp2_with (go_at_call 59;refine HT2.out.mono ?_;rintro e w' ⟨rfl,hR⟩);go_ret2;exact ⟨hR.out,fun _=>by rw [HOt.out.1,QaF HOt.out.2];rfl,fun h=>absurd (HOt.out.1.symm.trans h) HOt.out.2⟩
 ·rw [QaF hce] at HCk;have HO:Hid (oeE p L=ceE L∧ceE L≠0):=⟨if_pos hce,hce⟩;clear hce;generalize ceE L=cc at *
  go_enter func20,ntmps20
  go_wp2_with (go_at_call 57;refine HCk.out.mono ?_;rintro e W0 ⟨rfl,hb0⟩);go_ret2;exact ⟨hb0,fun _=>by rw [HO.out.1,QaF HO.out.2];rfl,fun h=>absurd (HO.out.1.symm.trans h) HO.out.2⟩
end
section
open Go.RowKit Go.Lib Go.Proofs.Tryz
def Qap (per:Int) (x:Je):Bool:=decide (x.per≤per)
theorem balances1_any (per:Int) (pb:Nat) (x:Je) (U:World) (h:U.cell? ⟨pb,0,none⟩=some (.int .i64 per)) :
  Calls prog 21 #[.agg x.cells,.pointer (some ⟨pb,0,none⟩)] U fun e w'=>e=.returned (.bool (Qap per x))∧Below U.heap.size U w':=by
 obtain ⟨x0,x1,x2,xa,xc,xl⟩:=x;simp only [Je.cells,Qap];have hlt:pb<U.heap.size:=World.block_lt_of_cell? _ _ h;have h2:(U.alloc (.cells #[.string x0,.int .i64 x1,.int .i64 x2,.slice xa xl.length xc] 59)).cell? ⟨pb,0,none⟩=some (.int .i64 per):=(World.cell?_alloc_lt _ _ _ hlt).trans h;go_enter func21,ntmps21
 go_wp2;go_ret;exact ⟨rfl,(Below.refl _ _).alloc (Nat.le_refl _) _⟩
def OeEnd (p:Je→Bool) (L:List Je) (W:World) (e:Ending) (w':World):Prop:=(oeE p L≠0∧e=.returned (.tuple #[.slice none 0 0,.iface 66 (.int .i64 (oeE p L))])∧Hid (Below W.heap.size W w'))∨(oeE p L=0∧∃ sa sc R,e=.returned (.tuple #[.slice sa R.length sc,.nilIface])∧Hid (Below W.heap.size W w'∧Qcn w' sa R sc∧OeR p L R))
theorem QfZ (a:Option Addr) (cap:Nat) (L:List Je) (W:World) (per:Int) (hlen:L.length≤9223372036854775807) (h:Qha W a L cap) (hok:JsOk L) :
  Calls prog 5 #[.slice a L.length cap,.int .i64 per] W fun e w'=>OeEnd (Qap per) L W e w':=by
 have hb:Below W.heap.size W (W.alloc (.cells #[.int .i64 per] 3)):=(Below.refl _ _).alloc (Nat.le_refl _) _;have hc:(W.alloc (.cells #[.int .i64 per] 3)).cell? ⟨W.heap.size,0,none⟩=some (.int .i64 per):=by
  have:=Qbg W (.cells #[.int .i64 per] 3)
  unfold World.cell?;rw [this];rfl
 have hT:JTells 21 #[.pointer (some ⟨W.heap.size,0,none⟩)] (Qap per) (W.alloc (.cells #[.int .i64 per] 3)).heap.size (W.alloc (.cells #[.int .i64 per] 3)):=
  ⟨fun args W=>Qa8 func21 (by kernel_rfl) ⟨_,rfl⟩ args W,fun x U hU=>balances1_any per W.heap.size x U ((hU.cell (p:=⟨W.heap.size,0,none⟩) (by simp)).trans hc)⟩
 have HO:Hid (Calls prog 20 #[.slice a L.length cap,.func (.func 21) #[] #[.pointer (some ⟨W.heap.size,0,none⟩)]] (W.alloc (.cells #[.int .i64 per] 3)) fun e w'=>OeEnd (Qap per) L W e w'):=by
  refine (ofEntries_any a cap L _ _ _ _ hlen (h.below hb) hok hT).mono ?_;rintro e w' ⟨h1,h2,h3⟩;have hB:Below W.heap.size W w':=hb.trans (h1.mono (by simp))
  by_cases h0:oeE (Qap per) L=0
  ·obtain ⟨v,R,rfl,h4⟩:=h3 h0;obtain ⟨sa,sc,rfl,hI⟩:=h4.out.1.isBl;exact .inr ⟨h0,sa,sc,R,rfl,hB,hI,h4.out.2⟩
  ·exact .inl ⟨h0,by rw [h2 h0,QaF h0],hB⟩
 clear hb hc hT h hok;go_enter func5,ntmps5
 go_wp2_with fail;refine HO.out.mono ?_;rintro e w' hE;rcases hE with ⟨h0,rfl,hB⟩ | ⟨h0,sa,sc,R,rfl,hR⟩
 ·have HQ:Hid (OeEnd (Qap per) L W (.returned (.tuple #[.slice none 0 0,.iface 66 (.int .i64 (oeE (Qap per) L))])) w'):=.inl ⟨h0,rfl,hB⟩;clear HO h0 hB;generalize oeE (Qap per) L=oo at *
  go_wp2;go_ret2;exact HQ.out
 ·have HQ:Hid (OeEnd (Qap per) L W (.returned (.tuple #[.slice sa R.length sc,.nilIface])) w'):=.inr ⟨h0,sa,sc,R,rfl,hR⟩;clear HO h0 hR;go_wp2;go_ret2;exact HQ.out
end
end Go.Proofs.YtjifbbdkpanagaaGreatDoor
