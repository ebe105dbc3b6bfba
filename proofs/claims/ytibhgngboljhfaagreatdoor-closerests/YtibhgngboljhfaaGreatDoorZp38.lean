/-
  Part of a proof (see the last text).
-/
import Derived.Test.YtibhgngboljhfaaGreatDoorZp37
import Derived.Stop.Asserts
import Derived.Test.YtibhgngboljhfaaGreatDoorZp35
set_option linter.unusedVariables false
set_option linter.unusedSimpArgs false
set_option maxRecDepth 100000
namespace Go.Proofs.YtibhgngboljhfaaGreatDoor
section
open Go.RowKit Go.Lib Go.Proofs.Tryz
set_option maxHeartbeats 4000000 in
theorem refEntry_any (ca:Option Addr) (cc:Nat) (c:List Ac) (r:ByteArray) (en pe:Int) (a:Option Addr) (cap:Nat) (l:List Ln) (w:World) (hc:QbJ w ca c cc) (hok:∀ k,k<c.length→(c.getD k ac0).code.size≤maxLen∧(c.getD k ac0).name.size≤maxLen) (h:Qc5 w a l cap) :
  Calls prog 17 #[.slice ca c.length cc,.agg #[.string r,.int .i64 en,.int .i64 pe,.slice a l.length cap]] w fun e w'=>e=.returned (.int .i64 (QaZ c r en pe l))∧Below w.heap.size w w':=by
 have b0:Below w.heap.size w (w.alloc (.cells #[.string r,.int .i64 en,.int .i64 pe,.slice a l.length cap] 38)):=(Below.refl _ w).alloc (Nat.le_refl _) _;have x0:=Qcv.new w r en pe (.slice a l.length cap);have hs0:(w.alloc (.cells #[.string r,.int .i64 en,.int .i64 pe,.slice a l.length cap] 38)).heap.size=w.heap.size+1:=by simp
 obtain ⟨res,hres⟩:∃ res,QaZ c r en pe l=res:=⟨_,rfl⟩;rw [hres];have Hres:Hid (QaZ c r en pe l=res):=hres;clear hres;have hC:=refChart_any ca cc c _ (hc.below b0) hok;have HC:Hid (Calls _ _ _ _ _):=hC;clear hC;by_cases h1:Qat c=0
 ·rw [h1] at HC;have hlen:=Qb5 h1;have ER1:Hid (res=if QaH r en pe l.length≠0 then QaH r en pe l.length else if Qay c l≠0 then Qay c l else if (Qai l).any Qc2=true then 11 else 0):=by
   unfold Hid;rw [← Hres.out];unfold QaZ;rw [if_neg (by simp [h1])]
  go_enter func17,ntmps17
  go_wp2_with fail;refine HC.out.mono ?_;rintro e w1 ⟨rfl,hb1⟩;rw [hs0] at hb1;have B1:=b0.trans (hb1.mono (by omega))
  have hs1:=hb1.size;rw [hs0] at hs1;have y1:=x0.below hb1 (by omega)
  have c0:=y1.c0;have c1:=y1.c1;have c2:=y1.c2;have c3:=y1.c3;have HR:=refRef_any r w1;have HE:=entity_any en w1;have HP:=period_any pe w1;clear HC hb1 b0 x0 hs0;cases hr:Qbr r
  ·have er:res=2:=by rw [ER1.out];simp [QaH,hr]
   subst er;rw [hr] at HR;go_wp2_with (go_at_call 50;refine HR.mono ?_;rintro e w' ⟨rfl,rfl⟩);go_ret;exact ⟨rfl,B1⟩
  rw [hr] at HR;go_wp2_with fail;refine HR.mono ?_;rintro e w' ⟨rfl,rfl⟩;go_wp2_with fail;refine HE.mono ?_;rintro e w' ⟨rfl,rfl⟩;go_wp2_with fail;refine HP.mono ?_;rintro e w2 ⟨rfl,rfl⟩;clear HR HE HP;cases h3:Qak en 12
  ·have er:res=1:=by rw [ER1.out];simp [QaH,hr,h3]
   subst er;go_wp2;go_ret;exact ⟨rfl,B1⟩
  cases h4:Qak pe 120
  ·have er:res=1:=by rw [ER1.out];simp [QaH,hr,h4]
   subst er;go_wp2;go_ret;exact ⟨rfl,B1⟩
  by_cases h5:l.length<2
  ·have er:res=3:=by rw [ER1.out];simp [QaH,hr,h3,h4,h5]
   have h5':(l.length:Int)<2:=by omega
   subst er;go_wp2;go_ret;exact ⟨rfl,B1⟩
  have h5':¬ (l.length:Int)<2:=by omega
  by_cases h6:20<l.length
  ·have er:res=4:=by rw [ER1.out];simp [QaH,hr,h3,h4,h5,h6]
   have h6':(20:Int)<l.length:=by omega
   subst er;go_wp2;go_ret;exact ⟨rfl,B1⟩
  have h6':¬ (20:Int)<l.length:=by omega
  have ER:Hid (res=if Qay c l≠0 then Qay c l else if (Qai l).any Qc2=true then 11 else 0):=by
   unfold Hid;rw [ER1.out];rw [if_neg (by simp [QaH,hr,h3,h4,h5,h6])]
  rcases h.lies with h0 | ⟨b,off,rfl,hbl,hcl⟩
  ·rw [h0] at h5;simp at h5
  have Hc:Hid (Qbz w b off l):=hcl;have Hsl:Hid (Qc5 w (some ⟨b,off,none⟩) l cap):=h;have HL:Hid (∀ code W,Below w.heap.size w W→Calls prog 53 #[.slice ca c.length cc,.string code] W fun e w'=>e=.returned (.int .i64 (Qaa c code))∧w'=W):=fun code W hW=>refLeafE_any ca cc c code W (hc.below hW) hlen
  clear Hres ER1 hcl h hc h1 hok;clear c0 c1 c2;go_wp2;go_loopw [9] (fun i wr=>∃ k:Nat,k≤l.length∧i=.int .i64 k∧Hid (res=if Qay c (l.drop k)≠0 then Qay c (l.drop k) else if (Qai l).any Qc2=true then 11 else 0)∧Hid (∀ x∈l.take k,Qct c x=0)∧Below w2.heap.size w2 wr) (fun i _=>l.length - (RowKit.intOf i).toNat)
  case atStart=>exact ⟨0,Nat.zero_le _,rfl,ER,(fun x hx=>by simp at hx),Below.refl _ _⟩
  case round=>
   obtain ⟨k,hk,rfl,H,HA,BW⟩:=hrel;have hws:=BW.size;have B3:=B1.trans (BW.mono (by omega))
   have y3:=y1.below BW (by omega)
   have e3:=y3.c3;by_cases hlt:k<l.length
   ·have hn:=(Hc.out k hlt).below B3 hbl;have E:=H.out;rw [Qeq l k hlt,Qay] at E;have B4:=B3.alloc B3.size (.cells (l.getD k ln0).cells 44);have BW4:=BW.alloc hws (.cells (l.getD k ln0).cells 44);have hcall:=HL.out (l.getD k ln0).acc _ B4;have hx:=Qev.new wr (l.getD k ln0) 44;have HA2:Hid (Qct c (l.getD k ln0)=0→∀ x∈l.take (k+1),Qct c x=0):=fun h0 x hx=>by
     rw [Qcg l k hlt] at hx;rcases List.mem_append.1 hx with hx | hx
     ·exact HA.out x hx
     ·rw [List.mem_singleton.1 hx];exact h0
    have HLL:Hid (Qct c (l.getD k ln0)=_):=Qf0 c (l.getD k ln0);generalize l.getD k ln0=x at *
    have Hcall:Hid (Calls _ _ _ _ _):=hcall;have HE:Hid (res=_):=E;clear hcall E H HA;obtain ⟨x0,x1,x2⟩:=x;obtain ⟨c0,c1,c2⟩:=hn;obtain ⟨d0,d1,d2⟩:=hx;simp only [Ln.cells,Nat.zero_add] at c0 c1 c2 B4 BW4 Hcall d0 d1 d2;simp only at HE HLL;have HCu:=refCur_any x1;have HAm:=refAmount_any x2;obtain ⟨lb,hlb⟩:∃ lb,Qaa c x0=lb:=⟨_,rfl⟩;rw [hlb] at Hcall HLL;clear hlb;have j0:(0:Int)≤k:=by omega
    have j1:(k:Int)<l.length:=by omega
    have HV:Hid (∀ v,Qct c ⟨x0,x1,x2⟩=v→v≠0→res=v):=fun v hv h0=>by
     have:=HE.out
     rw [hv,if_pos h0,if_pos h0] at this;exact this
    have HW:Hid (Qct c ⟨x0,x1,x2⟩=0→res=if Qay c (l.drop (k+1))≠0 then Qay c (l.drop (k+1)) else if (Qai l).any Qc2=true then 11 else 0):=fun hv=>by
     have:=HE.out
     rw [hv,if_neg (show ¬ ((0:Int)≠0) by simp)] at this
     exact this
    clear HE;by_cases g1:lb=0
    ·subst g1;cases g2:Qam x1
     ·have er:=HV.out 2 (by rw [HLL.out,if_neg (by simp),if_pos g2]) (by decide)
      subst er;have HC1:=HCu (wr.alloc (.cells #[.string x0,.string x1,.int .i64 x2] 44));rw [g2] at HC1;clear HV HW HA2 HLL HAm HCu;go_wp2_with fail;refine Hcall.out.mono ?_;rintro e w' ⟨rfl,rfl⟩;go_wp2_with fail;refine HC1.mono ?_;rintro e w' ⟨rfl,rfl⟩;go_wp2;go_ret;exact ⟨rfl,B4⟩
     have HC1:=HCu (wr.alloc (.cells #[.string x0,.string x1,.int .i64 x2] 44));have HA1:=HAm (wr.alloc (.cells #[.string x0,.string x1,.int .i64 x2] 44));rw [g2] at HC1;cases g3:Qas x2
     ·have er:=HV.out 1 (by rw [HLL.out,if_neg (by simp),if_neg (by rw [g2];simp),if_pos (.inr g3)]) (by decide)
      subst er;rw [g3] at HA1;clear HV HW HA2 HLL HAm HCu;go_wp2_with fail;refine Hcall.out.mono ?_;rintro e w' ⟨rfl,rfl⟩;go_wp2_with fail;refine HC1.mono ?_;rintro e w' ⟨rfl,rfl⟩;go_wp2_with fail;refine HA1.mono ?_;rintro e w' ⟨rfl,rfl⟩;go_wp2;go_ret;exact ⟨rfl,B4⟩
     rw [g3] at HA1;by_cases g4:x2=0
     ·have er:=HV.out 1 (by rw [HLL.out,if_neg (by simp),if_neg (by rw [g2];simp),if_pos (.inl g4)]) (by decide)
      subst er;subst g4;clear HV HW HA2 HLL HAm HCu;go_wp2_with fail;refine Hcall.out.mono ?_;rintro e w' ⟨rfl,rfl⟩;go_wp2_with fail;refine HC1.mono ?_;rintro e w' ⟨rfl,rfl⟩;go_wp2_with fail;refine HA1.mono ?_;rintro e w' ⟨rfl,rfl⟩;go_wp2;go_ret;exact ⟨rfl,B4⟩
     ·have hz:Qct c ⟨x0,x1,x2⟩=0:=by rw [HLL.out,if_neg (by simp),if_neg (by rw [g2];simp),if_neg (by simp [g4,g3])]
      have HE2:Hid _:=HW.out hz;have HA3:Hid _:=HA2.out hz;have g4':(x2 == 0)=false:=by simpa using g4
      clear HV HW HA2 HLL HAm HCu hz;go_wp2_with fail;refine Hcall.out.mono ?_;rintro e w' ⟨rfl,rfl⟩;go_wp2_with fail;refine HC1.mono ?_;rintro e w' ⟨rfl,rfl⟩;go_wp2_with fail;refine HA1.mono ?_;rintro e w' ⟨rfl,rfl⟩;go_wp2;go_roundw
      case rel=>exact ⟨k+1,by omega,by go_num,HE2,HA3,BW4⟩
      case measure=>simp [RowKit.intOf];omega
    ·have er:=HV.out lb (by rw [HLL.out,if_pos g1]) g1
     subst er;have g1':(res != 0)=true:=by simpa using g1
     clear HV HW HA2 HLL HAm HCu;go_wp2_with fail;refine Hcall.out.mono ?_;rintro e w' ⟨rfl,rfl⟩;go_wp2;go_ret;exact ⟨rfl,B4⟩
   ·have hk2:k=l.length:=by omega
    subst hk2;have E:=H.out;rw [List.drop_length] at E;have HE:Hid ((if ((Qai l).drop 0).any Qc2=true then (11:Int) else 0)=res):=E.symm
    have hw:QaA Qaq l:=fun x hx=>lnBad_amt (HA.out x (by rw [List.take_length];exact hx))
    have hS:=Qil r en pe (some ⟨b,off,none⟩) cap l wr (by omega) (by omega) hw (Hsl.out.below B3)
    have HS:Hid (Calls _ _ _ _ _):=hS;have hgl:(Qai l).length≤20:=by have:=Qdc (l.map Qbt);rw [List.length_map] at this;unfold Qai;omega
    have e0:=y3.c0;have e1:=y3.c1;have e2:=y3.c2;clear hS hw E H HA HL ER Hc Hsl;go_wp2_with fail;refine HS.out.mono ?_;rintro e w3 ⟨v3,rfl,r3,b3⟩;obtain ⟨a3,k3,rfl,hsl3⟩:=r3.isLn;have B5:=B3.trans (b3.mono (by omega))
    have HS3:Hid (Qc5 w3 a3 (Qai l) k3):=hsl3;generalize Qai l=sm at *
    have hgl':(sm.length:Int)≤20:=by omega
    clear HS r3 b3 hsl3 e0 e1 e2 e3;go_wp2;go_loopw [12] (fun i wz=>∃ m:Nat,m≤sm.length∧i=.int .i64 m∧Hid ((if (sm.drop m).any Qc2=true then (11:Int) else 0)=res)∧wz=w3) (fun i _=>sm.length - (RowKit.intOf i).toNat)
    case atStart=>exact ⟨0,Nat.zero_le _,rfl,HE,rfl⟩
    case round=>
     obtain ⟨m,hm,rfl,HM,rfl⟩:=hrel;by_cases hlt2:m<sm.length
     ·rcases HS3.out.lies with h0 | ⟨b3,o3,rfl,_,q3⟩
      ·rw [h0] at hlt2;simp at hlt2
      have hn:=q3 m hlt2;have E:=HM.out;rw [Qeq sm m hlt2,List.any_cons] at E;have HE3:Hid (_=res):=E;clear E HM q3 HS3;generalize sm.getD m ln0=x at *
      obtain ⟨x0,x1,x2⟩:=x;obtain ⟨c0,c1,c2⟩:=hn;simp only at c0 c1 c2;have j0:(0:Int)≤m:=by omega
      have j1:(m:Int)<sm.length:=by omega
      by_cases g:x2=0
      ·have HN:Hid ((if (sm.drop (m+1)).any Qc2=true then (11:Int) else 0)=res):=by
        unfold Hid;rw [← HE3.out];simp [Qc2,nullL,g]
       subst g;clear HE3;go_wp2;go_roundw
       case rel=>exact ⟨m+1,by omega,by go_num,HN,by first | rfl | trivial⟩
       case measure=>simp [RowKit.intOf];omega
      ·have er:res=11:=by rw [← HE3.out];simp [Qc2,nullL,g]
       subst er;have g':(x2 != 0)=true:=by simpa using g
       clear HE3;go_wp2;go_ret;exact ⟨rfl,B5⟩
     ·have hm2:m=sm.length:=by omega
      subst hm2;have er:res=0:=by rw [← HM.out,List.drop_length];rfl
      subst er;go_wp2;go_ret;exact ⟨rfl,B5⟩
 ·rw [show Qat c=res by rw [← Hres.out];unfold QaZ;rw [if_pos h1]] at HC h1
  clear Hres hc h;have h1':(res != 0)=true:=by simpa using h1
  go_enter func17,ntmps17
  go_wp2_with fail;refine HC.out.mono ?_;rintro e w1 ⟨rfl,hb1⟩;have B1:=b0.trans (hb1.mono (by simp))
  clear HC hb1 b0 x0;go_wp2;go_ret;exact ⟨rfl,B1⟩
end
section
open Go.RowKit Go.Extern.Stop Go.Stop Go.Extern Go.Proofs.Tryz
theorem valueOfP (t:Addr) (w:World):(ReflectliteValue.unpack (.iface 151 (.pointer (some t)))).run prog w
  = .ok (.agg #[.pointer (some ⟨6,151,none⟩),.pointer (some ⟨w.heap.size,0,none⟩),.int .u64 150]) (w.alloc (.cells #[.pointer (some t)] 151)):=by kernel_rfl
theorem typeP (a : Addr) (w : World) : (ReflectliteValue.methodAny (ReflectliteValue.valueError "reflectlite.Value.Type" 0) (fun t _ _ _ => ReflectliteType.toType t) #[.agg #[.pointer (some ⟨6, 151, none⟩), .pointer (some a), .int .u64 150]]).run prog w
  = .ok (.iface 261 (.agg #[.pointer (some ⟨6,151,none⟩)])) w:=by kernel_rfl
theorem methodKind (h : Value) (w : World) : (Go.method 457 261 (.agg #[h]) "Kind").run prog w = .ok (273, h) w := by kernel_rfl
theorem kindP (w:World):((ReflectliteType.abiMethod fun t=>Functor.map (fun a:Nat=>Value.int IntKind.u8 (a:Int)) (Rtype.kind t)) #[.pointer (some ⟨6,151,none⟩)]).run prog w=.ok (.int .u8 22) w:=by kernel_rfl
theorem kindE (w:World):((ReflectliteType.abiMethod fun t=>Functor.map (fun a:Nat=>Value.int IntKind.u8 (a:Int)) (Rtype.kind t)) #[.pointer (some ⟨6,68,none⟩)]).run prog w=.ok (.int .u8 2) w:=by kernel_rfl
theorem rlm (z:Sem Value) (f:TypeId→Addr→Nat→Nat→Sem Value) (v:Value) :
  ReflectliteValue.method z f #[v]=(do match ← ReflectliteValue.parts v with | none=>z | some (t,a,fl)=>f t a fl (fl % 32)):=rfl
theorem partsP (a:Addr) (w:World):(ReflectliteValue.parts (.agg #[.pointer (some ⟨6,151,none⟩),.pointer (some a),.int .u64 150])).run prog w=.ok (some (151,a,150)) w:=by kernel_rfl
theorem isNilP (a p:Addr) (W:World) (ha:W.cell? a=some (.pointer (some p))) :
  (ReflectliteValue.method (ReflectliteValue.valueError "reflectlite.Value.IsNil" 0) ReflectliteValue.isNil #[.agg #[.pointer (some ⟨6, 151, none⟩), .pointer (some a), .int .u64 150]]).run prog W = .ok (.bool false) W := by
 rw [rlm];simp only [Sem.run_bind,partsP,Result.andThen];simp [ReflectliteValue.isNil,loadVar,isAgg,underlying,underlying151,ha,Result.andThen]
theorem methodElem (h : Value) (w : World) : (Go.method 457 261 (.agg #[h]) "Elem").run prog w = .ok (283, .agg #[h]) w := by kernel_rfl
theorem QgE (h : Value) (w : World) : (Go.method 457 261 (.agg #[h]) "Implements").run prog w = .ok (284, .agg #[h]) w := by kernel_rfl
theorem QfB (h : Value) (w : World) : (Go.method 457 261 (.agg #[h]) "AssignableTo").run prog w = .ok (281, .agg #[h]) w := by kernel_rfl
theorem elemP (w:World):(ReflectliteType.method ReflectliteType.elem #[.agg #[.pointer (some ⟨6,151,none⟩)]]).run prog w=.ok (.iface 261 (.agg #[.pointer (some ⟨6,68,none⟩)])) w:=by kernel_rfl
theorem implementsE (w : World) : (ReflectliteType.relation "Implements" ReflectliteType.implements_ #[.agg #[.pointer (some ⟨6, 68, none⟩)], .iface 261 (.agg #[.pointer (some ⟨6, 30, none⟩)])]).run prog w = .ok (.bool true) w := by kernel_rfl
theorem typeOfE (v:Value) (w:World):(ReflectliteType.typeOf #[.iface 68 v]).run prog w=.ok (.iface 261 (.agg #[.pointer (some ⟨6,68,none⟩)])) w:=by kernel_rfl
theorem assignableE (w : World) : (ReflectliteType.relation "AssignableTo" ReflectliteType.assignableTo #[.agg #[.pointer (some ⟨6, 68, none⟩)], .iface 261 (.agg #[.pointer (some ⟨6, 68, none⟩)])]).run prog w = .ok (.bool true) w := by kernel_rfl
theorem valueOfE (n:Int) (w:World):(ReflectliteValue.unpack (.iface 68 (.int .i64 n))).run prog w
  = .ok (.agg #[.pointer (some ⟨6,68,none⟩),.pointer (some ⟨w.heap.size,0,none⟩),.int .u64 130]) (w.alloc (.cells #[.int .i64 n] 68)):=by kernel_rfl
theorem elemOfP (w:World):(Rtype.elem? 151).run prog w=.ok (some 68) w:=by kernel_rfl
theorem mkE (p:Addr) (w:World):(ReflectliteValue.mk 68 p ReflectliteValue.flagAddr).run prog w=.ok (.agg #[.pointer (some ⟨6,68,none⟩),.pointer (some p),.int .u64 386]) w:=by kernel_rfl
theorem elemVP (a p:Addr) (W:World) (ha:W.cell? a=some (.pointer (some p))) :
  (ReflectliteValue.method (ReflectliteValue.valueError "reflectlite.Value.Elem" 0) ReflectliteValue.elem #[.agg #[.pointer (some ⟨6, 151, none⟩), .pointer (some a), .int .u64 150]]).run prog W
   = .ok (.agg #[.pointer (some ⟨6,68,none⟩),.pointer (some p),.int .u64 386]) W:=by
 rw [rlm];simp only [Sem.run_bind,partsP,Result.andThen];simp [ReflectliteValue.elem,loadVar,isAgg,underlying,underlying151,ha,Result.andThen,elemOfP,mkE]
theorem rls (v x:Value):∃ s1 s2 s3 s4 s5:String,ReflectliteValue.set #[v,x]=(do
  let (some (dst,a,fl),some (src,b,_)):=(← ReflectliteValue.parts v,← ReflectliteValue.parts x)
   | unsupported (.noEntry s1)
  if fl / ReflectliteValue.flagAddr % 2 == 0 then unsupported (.noEntry s2)
  let val ← loadVar src b
  if ← Rtype.directlyAssignable dst src then storeVar dst a val
  else if ← Rtype.implements dst src then
   if (← Rtype.kind src) == 20 then
    match val with
    | .nilIface=>unsupported (.noEntry s3)
    | _=>storeVar dst a val
   else storeVar dst a (.iface src val)
  else panicString (s4++(← Rtype.spelt src)++s5++(← Rtype.spelt dst))
  pure (.tuple #[])):=⟨_,_,_,_,_,rfl⟩
theorem partsEa (a:Addr) (w:World):(ReflectliteValue.parts (.agg #[.pointer (some ⟨6,68,none⟩),.pointer (some a),.int .u64 386])).run prog w=.ok (some (68,a,386)) w:=by kernel_rfl
theorem partsE (a:Addr) (w:World):(ReflectliteValue.parts (.agg #[.pointer (some ⟨6,68,none⟩),.pointer (some a),.int .u64 130])).run prog w=.ok (some (68,a,130)) w:=by kernel_rfl
theorem directE (w:World):(Rtype.directlyAssignable 68 68).run prog w=.ok true w:=by kernel_rfl
theorem setE (ta b:Addr) (n:Int) (old:Value) (W:World) (hb:W.cell? b=some (.int .i64 n)) (ht:W.cell? ta=some old) (hf:W.frozen? ta=false) :
  (ReflectliteValue.set #[.agg #[.pointer (some ⟨6,68,none⟩),.pointer (some ta),.int .u64 386],.agg #[.pointer (some ⟨6,68,none⟩),.pointer (some b),.int .u64 130]]).run prog W
   = .ok (.tuple #[]) (W.setCell ta (.int .i64 n)):=by
 obtain ⟨s1,s2,s3,s4,s5,h⟩:=rls (.agg #[.pointer (some ⟨6,68,none⟩),.pointer (some ta),.int .u64 386]) (.agg #[.pointer (some ⟨6,68,none⟩),.pointer (some b),.int .u64 130]);rw [h];simp only [Sem.run_bind,partsEa,partsE,Result.andThen];simp [ReflectliteValue.flagAddr,loadVar,isAgg,underlying,underlying68,hb,Result.andThen,directE,storeVar,Value.cells,storeCells,Addr.add];rw [run_store prog W ta _ _ (by rfl)]
 simp [ht,hf]
end
section
open Go.RowKit Go.Extern.Stop Go.Stop Go.Extern Go.Proofs.Tryz
set_option maxHeartbeats 4000000 in
theorem as_hit (n:Int) (t:Addr) (old:Value) (w:World) (hg:w.cell? ⟨0,0,none⟩=some (.iface 261 (.agg #[.pointer (some ⟨6,30,none⟩)]))) (ht0:w.cell? t=some old) (hf0:w.frozen? t=false) :
  Calls prog 95 #[.iface 68 (.int .i64 n),.iface 151 (.pointer (some t))] w fun ev w'=>ev=.returned (.bool true)∧∃ o1 o2 o3 o4,w'=((((w.alloc o1).alloc o2).alloc o3).alloc o4).setCell t (.int .i64 n):=by
 have h6:=@run_callFunc_extern prog 145 _ (fun args=>ReflectliteValue.unpack (args.getD 0 (.tuple #[]))) func145 (by kernel_rfl) (by kernel_rfl) (by kernel_rfl) (by kernel_rfl)
 have h7 := @run_callFunc_extern prog 146 _ (ReflectliteValue.methodAny (ReflectliteValue.valueError "reflectlite.Value.Type" 0) (fun t _ _ _ => ReflectliteType.toType t)) func146 (by kernel_rfl) (by kernel_rfl) (by kernel_rfl) (by kernel_rfl)
 have h8 := @run_callFunc_extern prog 147 _ (ReflectliteValue.method (ReflectliteValue.valueError "reflectlite.Value.IsNil" 0) ReflectliteValue.isNil) func147 (by kernel_rfl) (by kernel_rfl) (by kernel_rfl) (by kernel_rfl)
 have h27:=@run_callFunc_extern prog 273 _ (ReflectliteType.abiMethod fun t=>do pure (.int .u8 (← Rtype.kind t))) func273 (by kernel_rfl) (by kernel_rfl) (by kernel_rfl) (by kernel_rfl)
 have h37:=@run_callFunc_extern prog 283 _ (ReflectliteType.method ReflectliteType.elem) func283 (by kernel_rfl) (by kernel_rfl) (by kernel_rfl) (by kernel_rfl)
 have h38 := @run_callFunc_extern prog 284 _ (ReflectliteType.relation "Implements" ReflectliteType.implements_) func284 (by kernel_rfl) (by kernel_rfl) (by kernel_rfl) (by kernel_rfl)
 have h10:=@run_callFunc_extern prog 185 _ ReflectliteType.typeOf func185 (by kernel_rfl) (by kernel_rfl) (by kernel_rfl) (by kernel_rfl)
 have h35 := @run_callFunc_extern prog 281 _ (ReflectliteType.relation "AssignableTo" ReflectliteType.assignableTo) func281 (by kernel_rfl) (by kernel_rfl) (by kernel_rfl) (by kernel_rfl)
 have h11 := @run_callFunc_extern prog 186 _ (ReflectliteValue.method (ReflectliteValue.valueError "reflectlite.Value.Elem" 0) ReflectliteValue.elem) func186 (by kernel_rfl) (by kernel_rfl) (by kernel_rfl) (by kernel_rfl)
 have h12:=@run_callFunc_extern prog 187 _ ReflectliteValue.set func187 (by kernel_rfl) (by kernel_rfl) (by kernel_rfl) (by kernel_rfl)
 have tO:=typeOfE;have mA:=QfB;have aE:=assignableE;have vE:=valueOfE;have f6:=valueOfP;have f7:=typeP;have mK:=methodKind;have mE:=methodElem;have mI:=QgE;have kP:=kindP;have kE:=kindE;have eP:=elemP;have iE:=implementsE;have n8:=isNilP ⟨w.heap.size,0,none⟩ t ((w.alloc (.cells #[.pointer (some t)] 151)).alloc (.cells #[.pointer (some ⟨6,151,none⟩),.pointer (some ⟨w.heap.size,0,none⟩),.int .u64 150] 213)) (by simp)
 have hlt:0<w.heap.size:=World.block_lt_of_cell? _ _ hg;have hg2:((w.alloc (.cells #[.pointer (some t)] 151)).alloc (.cells #[.pointer (some ⟨6,151,none⟩),.pointer (some ⟨w.heap.size,0,none⟩),.int .u64 150] 213)).cell? ⟨0,0,none⟩=some (.iface 261 (.agg #[.pointer (some ⟨6,30,none⟩)])):=by
  rw [World.cell?_alloc_lt _ _ ⟨0,0,none⟩ (by simp <;> omega),World.cell?_alloc_lt _ _ ⟨0,0,none⟩ hlt];exact hg
 have htl:t.block<w.heap.size:=World.block_lt_of_cell? _ _ ht0;generalize hW3:(((w.alloc (.cells #[.pointer (some t)] 151)).alloc (.cells #[.pointer (some ⟨6,151,none⟩),.pointer (some ⟨w.heap.size,0,none⟩),.int .u64 150] 213)).alloc (.cells #[.pointer (some ⟨6,151,none⟩),.pointer (some ⟨w.heap.size,0,none⟩),.int .u64 150] 213))=W3;have k0:W3.cell? ⟨w.heap.size,0,none⟩=some (.pointer (some t)):=by
  rw [← hW3,World.cell?_alloc_lt _ _ _ (by simp <;> omega),World.cell?_alloc_lt _ _ _ (by simp)];simp
 have ksz:W3.heap.size=w.heap.size+1+1+1:=by rw [← hW3];simp
 have k1:W3.cell? t=some old:=by
  rw [← hW3,World.cell?_alloc_lt _ _ t (by simp <;> omega),World.cell?_alloc_lt _ _ t (by simp <;> omega),World.cell?_alloc_lt _ _ t htl];exact ht0
 have k2:W3.frozen? t=false:=by
  rw [← hW3,World.frozen?_alloc_old _ _ t (by simp <;> omega),World.frozen?_alloc_old _ _ t (by simp <;> omega),World.frozen?_alloc_old _ _ t (Nat.ne_of_lt htl)];exact hf0
 have el:=elemVP ⟨w.heap.size,0,none⟩ t W3 k0;have st:=setE t ⟨w.heap.size+1+1+1,0,none⟩ n old (W3.alloc (.cells #[.int .i64 n] 68)) (by rw [← ksz];simp)
  (by rw [World.cell?_alloc_lt _ _ t (by omega)];exact k1) (by rw [World.frozen?_alloc_old _ _ t (by omega)];exact k2)
 subst hW3;clear k0 k1 k2 ksz;go_enter func95,ntmps95
 go_wp2;refine wp_loop_rounds 1 ?_;rw [rounds_succ];go_wp2;go_ret;exact ⟨rfl,_,_,_,_,rfl⟩
theorem told_errno (n:Int) (w:World) (hg:w.cell? ⟨0,0,none⟩=some (.iface 261 (.agg #[.pointer (some ⟨6,30,none⟩)]))) :
  Calls prog 48 #[.iface 68 (.int .i64 n)] w fun e w'=>e=.returned (.int .i64 n)∧Below w.heap.size w w':=by
 go_enter func48,ntmps48
 go_wp2_with fail;have hlt:0<w.heap.size:=World.block_lt_of_cell? _ _ hg;refine (as_hit n ⟨w.heap.size,0,none⟩ (.int .i64 0) _ (by rw [World.cell?_alloc_lt _ _ _ hlt];exact hg) (by simp) (by simp)).mono ?_
 rintro e w' ⟨rfl,o1,o2,o3,o4,hw⟩;have hc:w'.cell? ⟨w.heap.size,0,none⟩=some (.int .i64 n):=by
  rw [hw];refine World.cell?_setCell_same _ _ _ (?_:_=some (.int .i64 0));rw [World.cell?_alloc_lt _ _ _ (by simp <;> omega),World.cell?_alloc_lt _ _ _ (by simp <;> omega),World.cell?_alloc_lt _ _ _ (by simp <;> omega),World.cell?_alloc_lt _ _ _ (by simp)]
  simp
 have hb:Below w.heap.size w w':=by
  rw [hw];refine Below.setCell (p:=⟨w.heap.size,0,none⟩) ?_ (Nat.le_refl w.heap.size) _;exact ((((((Below.refl _ _).alloc (Nat.le_refl _) _).alloc (by simp) _).alloc (by simp <;> omega) _).alloc (by simp <;> omega) _).alloc (by simp <;> omega) _)
 clear hw o1 o2 o3 o4;go_wp2;go_ret;exact ⟨rfl,hb⟩
theorem error_errno (n m:Int) (w:World) (h1:-9223372036854775808≤n) (h2:n≤9223372036854775807) (hg:w.cell? ⟨0,0,none⟩=some (.iface 261 (.agg #[.pointer (some ⟨6,30,none⟩)]))) :
  Calls prog 16 #[.iface 68 (.int .i64 n),.int .i64 m] w fun e w'=>e=.returned (.bool (n == m))∧Below w.heap.size w w':=by
 go_enter func16,ntmps16
 go_wp2_with fail;refine (told_errno n _ hg).mono ?_;rintro e w' ⟨rfl,hb⟩;go_wp2;go_ret;exact ⟨rfl,hb⟩
end
section
open Go.RowKit Go.Proofs.Tryz
def ErrT (w:World):Prop:=w.cell? ⟨0,0,none⟩=some (.iface 261 (.agg #[.pointer (some ⟨6,30,none⟩)]))
theorem ErrT.lt {w:World} (h:ErrT w):0<w.heap.size:=World.block_lt_of_cell? _ _ h
theorem ErrT.below {w w':World} {B:Nat} (h:ErrT w) (hb:Below B w w') (hB:w.heap.size≤B):ErrT w':=by
 unfold ErrT;rw [hb.cell (p:=⟨0,0,none⟩) (Nat.lt_of_lt_of_le h.lt hB)];exact h
end
section
open Go.RowKit Go.Lib Go.Proofs.Tryz
theorem ce_chGo:∀ (r pre:List Ac),-9223372036854775808≤Qi9 pre r∧Qi9 pre r≤9223372036854775807
 | [],_=>by simp [Qi9]
 | x :: r,pre=>by
  rw [Qi9]
  split
  ·unfold Qax
   split
   ·omega
   ·split
    ·omega
    ·split
     ·omega
     ·unfold QbV
      split
      ·omega
      ·split
       ·omega
       ·split <;> omega
  ·exact ce_chGo r _
theorem ce_lines (c:List Ac):∀ l:List Ln,-9223372036854775808≤Qay c l∧Qay c l≤9223372036854775807
 | []=>by simp [Qay]
 | x :: l=>by
  rw [Qay]
  split
  ·unfold Qct
   split
   ·omega
   ·split
    ·omega
    ·split
     ·omega
     ·split <;> omega
  ·exact ce_lines c l
theorem ce_entBad (c:List Ac) (r:ByteArray) (en pe:Int) (l:List Ln):-9223372036854775808≤QaZ c r en pe l∧QaZ c r en pe l≤9223372036854775807:=by
 unfold QaZ
 split
 ·unfold Qat
  split
  ·omega
  ·exact ce_chGo c []
 ·split
  ·unfold QaH
   split
   ·omega
   ·split
    ·omega
    ·split
     ·omega
     ·split <;> omega
  ·split
   ·exact ce_lines c l
   ·split <;> omega
end
section
open Go.RowKit Go.Lib Go.Proofs.Tryz
set_option maxHeartbeats 4000000 in
theorem zero_any (a:Option Addr) (cap:Nat) (L:List Je) (w:World) (hlen:L.length≤1000) (h:QdF w a L cap) (hz:∀ x∈L,0<x.lns.length∧x.lns.length≤20∧QaA Qaq x.lns∧∀ y∈Qai x.lns,y.amt=0) :
  Calls prog 14 #[.slice a L.length cap] w fun e w'=>e=.returned (.bool true)∧Below w.heap.size w w':=by
 have HH:Hid (QdF w a L cap):=h;have HZ:Hid (∀ x∈L,0<x.lns.length∧x.lns.length≤20∧QaA Qaq x.lns∧∀ y∈Qai x.lns,y.amt=0):=hz;have hl1:(L.length:Int)≤1000:=by omega
 clear h hz;go_enter func14,ntmps14
 go_wp2;go_loopw [3] (fun i wr=>∃ k:Nat,k≤L.length∧i=.int .i64 k∧Hid (Below w.heap.size w wr)) (fun i _=>L.length - (RowKit.intOf i).toNat)
 case atStart=>exact ⟨0,Nat.zero_le _,rfl,Below.refl _ _⟩
 case round=>
  obtain ⟨k,hk,rfl,HB⟩:=hrel;by_cases hlt:k<L.length
  ·have hjs:=HH.out.below HB.out;rcases hjs.lies with h0 | ⟨jb,jo,e,hjb,hat⟩
   ·rw [h0] at hlt;simp at hlt
   subst e;have hy:=hat k hlt;have hln:=hjs.lns _ (Qb0 L k hlt);obtain ⟨z1,z2,z3,z4⟩:=HZ.out _ (Qb0 L k hlt);have HS:Hid (Calls prog 45 #[.agg (L.getD k je0).cells] wr fun e w'=>∃ v,e=.returned v∧Qab w' wr.heap.size v (Qai (L.getD k je0).lns)∧Below wr.heap.size wr w'):=Qil _ _ _ _ _ _ wr z2 z1 z3 hln
   have HZ4:Hid (∀ y∈Qai (L.getD k je0).lns,y.amt=0):=z4;have hsl:(Qai (L.getD k je0).lns).length≤20:=by
    have:=Qdc ((L.getD k je0).lns.map Qbt)
    rw [List.length_map] at this;exact Nat.le_trans this z2
   clear hat hln z1 z2 z3 z4 hjs;generalize Qai (L.getD k je0).lns=S at *
   generalize L.getD k je0=x at *
   obtain ⟨x0,x1,x2,x3,x4,x5⟩:=x;obtain ⟨d0,d1,d2,d3⟩:=hy;simp only [Je.cells] at d0 d1 d2 d3 HS;have i0:(0:Int)≤k:=by omega
   have i1:(k:Int)<L.length:=by omega
   have i2:(S.length:Int)≤20:=by omega
   obtain ⟨wo,hwo⟩:∃ wo,wo=wr:=⟨_,rfl⟩;subst hwo;go_wp2_with fail;refine HS.out.mono ?_;rintro e w1 ⟨v,rfl,hr,hb1⟩;obtain ⟨sa,sc,e,hsS⟩:=hr.isLn;subst e;have HB1:Hid (Below w.heap.size w w1):=HB.out.trans (hb1.mono HB.out.size);have HSl:Hid (Qc5 w1 sa S sc):=hsS;clear HS hr hb1 hsS d0 d1 d2 d3;go_wp2;go_loop [5] (fun i=>∃ j:Nat,j≤S.length∧i=.int .i64 j) (fun i=>S.length - (RowKit.intOf i).toNat)
   case atStart=>exact ⟨0,Nat.zero_le _,rfl⟩
   case round=>
    obtain ⟨j,hj,rfl⟩:=hrel;by_cases hjl:j<S.length
    ·rcases HSl.out.lies with h0 | ⟨lb,lo,e,hlb,hat⟩
     ·rw [h0] at hjl;simp at hjl
     subst e;have c2:=(hat j hjl).c2;rw [HZ4.out _ (QeY S j hjl)] at c2;have m0:(0:Int)≤j:=by omega
     have m1:(j:Int)<S.length:=by omega
     clear hat;go_wp2;go_round
     case rel=>exact ⟨j+1,by omega,by go_num⟩
     case measure=>simp [RowKit.intOf];omega
    ·have ej:j=S.length:=by omega
     subst ej;have m1:¬ (S.length:Int)<S.length:=by omega
     go_wp2;go_roundw
     case rel=>exact ⟨k+1,by omega,by go_num,HB1⟩
     case measure=>simp [RowKit.intOf];omega
  ·have ek:k=L.length:=by omega
   subst ek;have m1:¬ (L.length:Int)<L.length:=by omega
   go_wp2;go_ret;exact ⟨rfl,HB.out⟩
end
section
open Go.RowKit Go.Lib Go.Proofs.Tryz
theorem QfJ:FactC jC:=⟨by kernel_rfl,by kernel_rfl,by kernel_rfl,by kernel_rfl,by kernel_rfl,by kernel_rfl,by kernel_rfl,by kernel_rfl,by kernel_rfl,by kernel_rfl,by kernel_rfl,by kernel_rfl,by kernel_rfl⟩
def FcAt (w:World) (n0 B k:Nat) (wr:World):Prop:=∃ m P es st,ClS wr n0 m B P (FS jC es st)∧Below w.heap.size w wr∧QaV st 1=(k:Int)∧es.map Je.ep=if k<6 then [fE] else [fE,fE2]
section
variable {w W:World} {n0 B k:Nat}
theorem FcAt.adv (hn:w.heap.size≤n0) (h:FcAt w n0 B k W) (hk:k<6) :
  Calls prog 8 #[.pointer (some ⟨B,0,none⟩),.int .i64 1] W fun e w'=>∃ n:Int,e=.returned (.tuple #[.int .i64 n,.nilIface])∧Hid (FcAt w n0 B (k+1) w'):=by
 obtain ⟨m,P,es,st,h1,h2,h3,h4⟩:=h;rw [if_pos hk] at h4;by_cases h5:k<5
 ·refine (fact_adv QfJ h4 h1 h3 (by omega)).mono ?_
  rintro e w' ⟨rfl,m',P',es',st',hh⟩;obtain ⟨g1,g2,g3,g4⟩:=hh.out;exact ⟨0,rfl,m',P',es',st',g1,h2.trans (g4.mono hn),by rw [g3];omega,by rw [if_pos (by omega)];exact g2⟩
 ·obtain rfl:k=5:=by omega
  refine (fact_last QfJ h4 h1 h3).mono ?_;rintro e w' ⟨rfl,m',P',es',st',hh⟩;obtain ⟨g1,g2,g3,g4⟩:=hh.out;exact ⟨1,rfl,m',P',es',st',g1,h2.trans (g4.mono hn),by rw [g3];rfl,g2⟩
theorem FcAt.ents (h:FcAt w n0 B 6 W) :
  Calls prog 9 #[.pointer (some ⟨B,0,none⟩)] W fun e w'=>∃ jb jo c lb lo lc,e=.returned (.slice (some ⟨jb,jo,none⟩) 2 c)∧Hid (w'.cell? ⟨jb,jo+1*4+3,none⟩=some (.slice (some ⟨lb,lo,none⟩) 2 lc)∧w'.cell? ⟨lb,lo+1*3,none⟩=some (.string ⟨#[51,48]⟩)∧w'.cell? ⟨lb,lo+1*3+2,none⟩=some (.int .i64 (-5))∧2≤c∧2≤lc∧Below w.heap.size w w'∧Calls prog 10 #[.pointer (some ⟨B,0,none⟩),.int .i64 1] w' fun e w2=>e=.returned (.int .i64 6)∧w2=w'):=by
 obtain ⟨m,P,es,st,h1,h2,h3,h4⟩:=h;refine (QdX h1).mono ?_;rintro e w' ⟨a,c,L,rfl,hh⟩;obtain ⟨av,cv,ev,js⟩:=hh.out.1.isJs;cases ev;have he:L.map Je.ep=[fE,fE2]:=hh.out.2.1.trans h4;rcases L with _ | ⟨x,_ | ⟨y,_ | ⟨z,L⟩⟩⟩
 ·cases he
 ·exact absurd (congrArg List.length he) (by simp)
 ·have hy:y.ep=fE2:=by
   simp only [List.map_cons,List.map_nil,List.cons.injEq] at he;exact he.2.1
  have hyl:y.lns=fLn2:=congrArg Ep.lns hy;rcases js.lies with h0 | ⟨jb,jo,rfl,_,hat⟩
  ·cases h0
  have a1:=(hat 1 (by simp)).c3
  have hl:=js.lns y (by simp)
  have e1:([x,y]:List Je).getD 1 je0=y:=rfl;rw [e1] at a1;rw [hyl] at a1 hl;rcases hl.lies with h0 | ⟨lb,lo,e2,_,hln⟩
  ·cases h0
  rw [e2] at a1;have b1:=hln 1 (by simp [fLn2])
  have hst:=Qec hh.out.2.2.2.at_ 1;have h3':QaV (FS jC es st).st 1=6:=h3;rw [h3'] at hst;refine ⟨jb,jo,c,lb,lo,y.cap,rfl,a1,b1.c0,b1.c2,js.cap,hl.cap,h2.trans (hh.out.2.2.1.mono h2.size),hst⟩
 ·simp at he
end
theorem new_fact (w U:World) (a1:Option Addr) (c1:Nat) (hU:Below w.heap.size w U) (ht:Qgj w) (hs:QbJ U a1 jC c1) :
  Calls prog 4 #[.slice a1 5 c1,.slice none 0 0,.string ⟨#[69,85,82]⟩,.string ⟨#[52,48]⟩,.string ⟨#[51,48]⟩] U fun e w'=>∃ B P,e=.returned (.tuple #[.pointer (some ⟨B,0,none⟩),.nilIface])∧Hid (ClS w' U.heap.size w'.heap.size B P (FS jC [] [])∧Below w.heap.size w w'):=by
 refine (new_any a1 none c1 0 jC [] _ _ _ U hs ⟨Nat.le_refl _,.inl rfl⟩ (fun k hk=>absurd hk (by simp))).mono ?_
 rintro e w' ⟨_,h2⟩;obtain ⟨B,P,rfl,hh⟩:=h2 QfJ.nw;have hb:=hU.trans (hh.out.2.1.mono hU.size);exact ⟨B,P,rfl,⟨hh.out.1,⟨(nwBad_ok QfJ.nw).1,fun x hx=>by cases hx⟩,fun V hV=>ht.below (hb.trans (hV.mono hU.size))⟩,hb⟩
def NrEnd (w:World) (c:List Ac) (pe:Int) (e:Ending) (w':World):Prop:=
 (∃ n,e=.returned (.tuple #[.pointer none,.iface 68 (.int .i64 n)])∧Hid (Below w.heap.size w w')) ∨
 (∃ B,e=.returned (.tuple #[.pointer (some ⟨B,0,none⟩),.nilIface])∧Hid (Qat c=0∧kOf c ⟨#[51,48]⟩=3∧∃ n0 m P S,w.heap.size≤n0∧ClS w' n0 m B P S∧Below w.heap.size w w'∧QcM P S∧S.c=c∧S.kept=⟨#[51,48]⟩∧QaV S.st pe=0))
theorem new_rests (w U:World) (a ra:Option Addr) (cap rc:Nat) (c:List Ac) (rs:List Rt) (pe:Int) (hU:Below w.heap.size w U) (ht:Qgj w) (h:QbJ w a c cap) (hr:IsRt w ra rs rc) (hrok:RtsOk rs) :
  Calls prog 4 #[.slice a c.length cap,.slice ra rs.length rc,.string ⟨#[69,85,82]⟩,.string ⟨#[52,48]⟩,.string ⟨#[51,48]⟩] U (NrEnd w c pe):=by
 refine (new_any a ra cap rc c rs _ _ _ U (h.below hU) (hr.below hU) hrok).mono ?_;rintro e w' ⟨k1,k2⟩;by_cases cb:nwBad c rs ⟨#[69,85,82]⟩ ⟨#[52,48]⟩ ⟨#[51,48]⟩=0
 ·obtain ⟨B,P,rfl,hh⟩:=k2 cb;have hb:=hU.trans (hh.out.2.1.mono hU.size);obtain ⟨q1,q2⟩:=nwBad_ok cb;exact .inr ⟨B,rfl,q1.c,q2,U.heap.size,_,P,Qdp c rs ⟨#[69,85,82]⟩ ⟨#[52,48]⟩ ⟨#[51,48]⟩,hU.size,⟨hh.out.1,⟨q1,by simp [Qdp]⟩,fun V hV=>ht.below (hb.trans (hV.mono hU.size))⟩,hb,⟨rfl,hh.out.2.2.1,hh.out.2.2.2⟩,rfl,rfl,rfl⟩
 ·obtain ⟨q1,q2⟩:=k1 cb;rw [Qae cb] at q1;exact .inl ⟨_,q1,hU.trans (q2.mono hU.size)⟩
def GsF (w:World) (n0 B:Nat) (c:List Ac) (pe:Int) (W:World):Prop:=∃ m P S,ClS W n0 m B P S∧Below w.heap.size w W∧QcM P S∧S.c=c∧S.kept=⟨#[51,48]⟩∧QaV S.st pe=0
section
variable {w W:World} {n0 B:Nat} {c:List Ac} {pe:Int}
theorem GsF.gs (h:GsF w n0 B c pe W):Gs w n0 B c pe 0 W:=by
 obtain ⟨m,P,S,h1,h2,_,h3⟩:=h;exact ⟨m,P,S,h1,h2,h3⟩
theorem GsF.of_end (hn:w.heap.size≤n0) {m:Nat} {P:Cp} {S:Cs} (h2:Below w.heap.size w W) (h4:S.c=c) (h5:S.kept=⟨#[51,48]⟩) (h6:QaV S.st pe=0) {e:Ending} {w':World} (h:StEnd3 W n0 B S e w'):∃ E,e=.returned E∧E.oneCell'=true∧Hid (GsF w n0 B c pe w'):=by
 obtain ⟨E,rfl,hE,m1,P1,S1,hh⟩:=h;obtain ⟨g1,g2,g3,g4,_,_,_,g5,g6⟩:=hh.out;exact ⟨E,rfl,hE,m1,P1,S1,g1,h2.trans (g2.mono hn),g3,g4.trans h4,g5.trans h5,by rw [g6];exact h6⟩
theorem GsF.plans (hn:w.heap.size≤n0) (h:GsF w n0 B c pe W) (al:Option Addr) (l:List Pn) (cl:Nat) (hl:Qe6 w al l cl) (hll:l.length≤9223372036854775807) :
  Calls prog 11 #[.pointer (some ⟨B,0,none⟩),.slice al l.length cl] W fun e w'=>∃ E,e=.returned E∧E.oneCell'=true∧Hid (GsF w n0 B c pe w'):=by
 obtain ⟨m,P,S,h1,h2,h3,h4,h5,h6⟩:=h;exact (clPlans_ev h1 h3 al l cl (hl.below h2) hll).mono fun e w' hh=>GsF.of_end (m:=m) (P:=P) hn h2 h4 h5 h6 hh
theorem GsF.pairs (hn:w.heap.size≤n0) (h:GsF w n0 B c pe W) (al:Option Addr) (l:List Pr) (cl:Nat) (hl:QfP w al l cl) (hll:l.length≤9223372036854775807) :
  Calls prog 13 #[.pointer (some ⟨B,0,none⟩),.slice al l.length cl] W fun e w'=>∃ E,e=.returned E∧E.oneCell'=true∧Hid (GsF w n0 B c pe w'):=by
 obtain ⟨m,P,S,h1,h2,h3,h4,h5,h6⟩:=h;exact (clPairs_ev h1 h3 al l cl (hl.below h2) hll).mono fun e w' hh=>GsF.of_end (m:=m) (P:=P) hn h2 h4 h5 h6 hh
theorem GsF.pools (hn:w.heap.size≤n0) (h:GsF w n0 B c pe W) (al:Option Addr) (l:List Po) (cl:Nat) (hl:QgV w al l cl) (hll:l.length≤9223372036854775807) :
  Calls prog 12 #[.pointer (some ⟨B,0,none⟩),.slice al l.length cl] W fun e w'=>∃ E,e=.returned E∧E.oneCell'=true∧Hid (GsF w n0 B c pe w'):=by
 obtain ⟨m,P,S,h1,h2,h3,h4,h5,h6⟩:=h;exact (clPools_ev h1 h3 al l cl (fun U hU=>hl.below (h2.trans (hU.mono hn))) hll).mono fun e w' hh=>GsF.of_end (m:=m) (P:=P) hn h2 h4 h5 h6 hh
def EnEnd (U:World) (M:List Je) (e:Ending) (w':World):Prop:=∃ a q L,e=.returned (.slice a L.length q)∧Hid (QdF w' a L q∧L.map Je.ep=M.map Je.ep∧L.length≤200∧JsOk L∧(∀ x∈L,0<x.lns.length∧x.lns.length≤20∧QaA Qaq x.lns∧∀ y∈Qai x.lns,y.amt=0)∧Below U.heap.size U w')
def EfEnd (U:World) (M:List Je) (e:Ending) (w':World):Prop:=∃ a q L,e=.returned (.slice a L.length q)∧Hid (QdF w' a L q∧L.map Je.ep=M.map Je.ep∧L.length≤200∧(∀ x∈L,0<x.lns.length∧x.lns.length≤20∧QaA Qaq x.lns∧∀ y∈Qai x.lns,y.amt=0)∧Below U.heap.size U w')
variable {i:Int}
theorem Gs.ents2 (h:Gs w n0 B c pe i W):∃ M:List Je,∀ U,Below W.heap.size W U→Calls prog 9 #[.pointer (some ⟨B,0,none⟩)] U (EnEnd U M):=h.ents
theorem GsE.ents2 (h:GsE w n0 B c pe W):∃ M:List Je,∀ U,Below W.heap.size W U→Calls prog 9 #[.pointer (some ⟨B,0,none⟩)] U (EfEnd U M):=h.ents
end
end
end Go.Proofs.YtibhgngboljhfaaGreatDoor
