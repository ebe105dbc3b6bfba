/-
  Part of a proof (see the last text).
-/
import Derived.Test.YtjifbbdkpanagaaGreatDoorZd0
import Derived.Laws.Cover1
import Derived.Deep.RegionHeld3
import Derived.Lib.Overlaps
import Derived.Lib.AppendZerosOnto
import Derived.Deep.RegionLaw
set_option linter.unusedVariables false
set_option linter.unusedSimpArgs false
set_option maxRecDepth 100000
namespace Go.Proofs.YtjifbbdkpanagaaGreatDoor
section
open Go.RowKit Go.Lib Go.Proofs.Tryz
def Qa3 (a b:ByteArray):Int:=if Op.bytesLess a.toList b.toList=true then -1 else if (a.toList == b.toList)=true then 0 else 1
def cmpL (a b:Ln):Int:=if Qa3 a.acc b.acc≠0 then Qa3 a.acc b.acc else Qa3 a.cur b.cur
theorem Qc2 {a b:ByteArray}:Qa3 a b=0↔(a.toList == b.toList)=true:=by
 unfold Qa3
 split
 ·rename_i h;refine ⟨fun h=>by omega,fun e=>?_⟩
  rw [beq_iff_eq] at e;rw [e,QfP] at h;cases h
 ·split
  ·simp_all
  ·simp_all
theorem QgH {a b:ByteArray}:Qa3 a b<0↔Op.bytesLess a.toList b.toList=true:=by
 unfold Qa3
 split
 ·simp_all
 ·split
  ·simp_all
  ·simp_all
theorem cmpL_neg (a b:Ln):decide (cmpL a b<0)=QeU a b:=by
 unfold cmpL QeU;by_cases h:Qa3 a.acc b.acc=0
 ·rw [if_neg (by simp [h])]
  have e:=Qc2.1 h;have h2:Op.bytesLess a.acc.toList b.acc.toList=false:=by
   cases hh:Op.bytesLess a.acc.toList b.acc.toList
   ·rfl
   ·have:=QgH.2 hh;omega
  rw [h2,e,Bool.false_or,Bool.true_and];rw [Bool.eq_iff_iff,decide_eq_true_eq,QgH]
 ·rw [if_pos h];have e:(a.acc.toList == b.acc.toList)=false:=by
   cases hh:(a.acc.toList == b.acc.toList)
   ·rfl
   ·exact absurd (Qc2.2 hh) h
  rw [e,Bool.false_and,Bool.or_false];rw [Bool.eq_iff_iff,decide_eq_true_eq,QgH]
theorem cmpL_zero (a b:Ln):decide (cmpL a b=0)=QfN a b:=by
 unfold cmpL QfN;by_cases h:Qa3 a.acc b.acc=0
 ·rw [if_neg (by simp [h]),Qc2.1 h,Bool.true_and]
  rw [Bool.eq_iff_iff,decide_eq_true_eq,Qc2]
 ·rw [if_pos h];have e:(a.acc.toList == b.acc.toList)=false:=by
   cases hh:(a.acc.toList == b.acc.toList)
   ·rfl
   ·exact absurd (Qc2.2 hh) h
  rw [e,Bool.false_and];simp [h]
theorem QfA (s:ByteArray) (w:World) :
  Calls prog 156 #[.string s] w fun e w'=>e=.returned (.bool false)∧w'=w:=by
 go_enter func156,ntmps156
 go_wp2;go_ret;exact ⟨rfl,rfl⟩
theorem Qef (a b:ByteArray) (w:World) :
  Calls prog 104 #[.string a,.string b] w fun e w'=>e=.returned (.int .i64 (Qa3 a b))∧w'=w:=by
 cases h1:Op.bytesLess a.toList b.toList
 ·cases h2:(a.toList == b.toList)
  ·have er:Qa3 a b=1:=by simp only [Qa3];rw [h1,h2];rfl
   rw [er];have h2':¬ a.toList=b.toList:=by simpa using h2
   clear er;go_enter func104,ntmps104
   go_wp2_with (go_at_call 156;refine (QfA _ _).mono ?_;rintro e w' ⟨rfl,rfl⟩);go_ret;exact ⟨rfl,rfl⟩
  ·have er:Qa3 a b=0:=by simp only [Qa3];rw [h1,h2];rfl
   rw [er];have h2':a=b:=Qc1 (by simpa using h2)
   subst h2';clear er h2;go_enter func104,ntmps104
   go_wp2_with (go_at_call 156;refine (QfA _ _).mono ?_;rintro e w' ⟨rfl,rfl⟩);go_ret;exact ⟨rfl,rfl⟩
 ·have er:Qa3 a b = -1:=by simp only [Qa3];rw [h1];rfl
  rw [er];clear er;go_enter func104,ntmps104
  go_wp2_with (go_at_call 156;refine (QfA _ _).mono ?_;rintro e w' ⟨rfl,rfl⟩);go_ret;exact ⟨rfl,rfl⟩
theorem cmpOr_any (b:Nat) (x y:Int) (w:World) (h0:w.cell? ⟨b,0,none⟩=some (.int .i64 x)) (h1:w.cell? ⟨b,1,none⟩=some (.int .i64 y)) :
  Calls prog 102 #[.slice (some ⟨b,0,none⟩) 2 2] w fun e w'=>e=.returned (.int .i64 (if x≠0 then x else y))∧w'=w:=by
 by_cases hx:x=0
 ·subst hx;rw [if_neg (by simp)]
  by_cases hy:y=0
  ·subst hy;go_enter func102,ntmps102
   go_wp2;refine wp_loop_rounds 3 ?_;rw [rounds_succ];go_wp2;rw [rounds_succ];go_wp2;rw [rounds_succ];go_wp2;go_ret;exact ⟨rfl,rfl⟩
  ·have hy':(y != 0)=true:=by simp [hy]
   go_enter func102,ntmps102
   go_wp2;refine wp_loop_rounds 3 ?_;rw [rounds_succ];go_wp2;rw [rounds_succ];go_wp2;go_ret;exact ⟨rfl,rfl⟩
 ·rw [if_pos hx];have hx':(x != 0)=true:=by simp [hx]
  go_enter func102,ntmps102
  go_wp2;refine wp_loop_rounds 3 ?_;rw [rounds_succ];go_wp2;go_ret;exact ⟨rfl,rfl⟩
theorem Qfc (W:World) (ROW:Array Value) (t:TypeId) (b j:Nat) (v:Value) (hb:b=W.heap.size) (hv:ROW[j]? = some v):((W.alloc (.cells ROW t)).drew).cell? ⟨b,j,none⟩=some v:=
 (World.cell?_alloc_at (w:=W) ROW t b j hb).trans hv
set_option maxHeartbeats 4000000 in
theorem compare_any (x y:Ln) (w:World) :
  Calls prog 162 #[.agg x.cells,.agg y.cells] w fun e w'=>e=.returned (.int .i64 (cmpL x y))∧Below w.heap.size w w':=by
 obtain ⟨x0,x1,x2⟩:=x;obtain ⟨y0,y1,y2⟩:=y;simp only [Ln.cells,cmpL];have c0:((((w.alloc (.cells #[.string x0,.string x1,.int .i64 x2] 56)).alloc (.cells #[.string y0,.string y1,.int .i64 y2] 56)).alloc (.cells #[.int .i64 (Qa3 x0 y0),.int .i64 (Qa3 x1 y1)] 3)).drew).cell? ⟨w.heap.size+1+1,0,none⟩=some (.int .i64 (Qa3 x0 y0)):=Qfc _ _ _ _ _ _ (by simp) rfl
 have c1:((((w.alloc (.cells #[.string x0,.string x1,.int .i64 x2] 56)).alloc (.cells #[.string y0,.string y1,.int .i64 y2] 56)).alloc (.cells #[.int .i64 (Qa3 x0 y0),.int .i64 (Qa3 x1 y1)] 3)).drew).cell? ⟨w.heap.size+1+1,1,none⟩=some (.int .i64 (Qa3 x1 y1)):=Qfc _ _ _ _ _ _ (by simp) rfl
 have hO:=cmpOr_any _ _ _ _ c0 c1;have bl:Below w.heap.size w ((((w.alloc (.cells #[.string x0,.string x1,.int .i64 x2] 56)).alloc (.cells #[.string y0,.string y1,.int .i64 y2] 56)).alloc (.cells #[.int .i64 (Qa3 x0 y0),.int .i64 (Qa3 x1 y1)] 3)).drew):=((((Below.refl _ w).alloc (Nat.le_refl _) _).alloc (by simp) _).alloc (by simp;omega) _).drew
 clear c0 c1;obtain ⟨r,hr⟩:∃ r,(if Qa3 x0 y0≠0 then Qa3 x0 y0 else Qa3 x1 y1)=r:=⟨_,rfl⟩
 rw [hr] at hO ⊢;clear hr;go_enter func162,ntmps162
 go_wp2;go_region_held3 (fun u=>u.cell? ⟨w.heap.size,0,none⟩=some (.string x0)∧u.cell? ⟨w.heap.size,1,none⟩=some (.string x1)∧u.cell? ⟨w.heap.size+1,0,none⟩=some (.string y0)∧u.cell? ⟨w.heap.size+1,1,none⟩=some (.string y1)) (go_keep) (first | (go_at_call 104;refine (Qef _ _ _).mono ?_;rintro e w' ⟨rfl,rfl⟩) | (go_at_call 102;refine hO.mono ?_;rintro e w' ⟨rfl,rfl⟩))
 all_goals
  go_wp2;go_ret;exact ⟨rfl,bl⟩
end
section
open Go.RowKit Go.Lib Go.Proofs.Tryz
def hasL (x:Ln) (l:List Ln):Bool:=decide (Qdk x l<l.length) && QfN (l.getD (Qdk x l) ln0) x
set_option maxHeartbeats 2000000 in
theorem search_some (b off cap:Nat) (l:List Ln) (x:Ln) (w:World) (hb:b<w.heap.size) (hlen:l.length≤1000) (hc:Qgv w b off l) (hs:Qfo l) :
  Calls prog 161 #[.slice (some ⟨b,off,none⟩) l.length cap,.agg x.cells,.func (.func 162) #[] #[]] w fun e w'=>e=.returned (.tuple #[.int .i64 (Qdk x l:Nat),.bool (hasL x l)])∧Below w.heap.size w w':=by
 have eg:∀ args W,(callFunc 162 args).run prog W=.ok (.enter 162 args) W:=fun args W=>Qa8 func162 (by kernel_rfl) ⟨_,rfl⟩ args W
 have Hc:Hid (Qgv w b off l):=hc;have Hs:Hid (Qfo l):=hs;have Hlen:(l.length:Int)≤1000:=by omega
 have hpl:=posL_le x l;have HC:Hid (∀ y W,Calls prog 162 #[.agg y.cells,.agg x.cells] W fun e w'=>e=.returned (.int .i64 (cmpL y x))∧Below W.heap.size W w'):=fun y W=>compare_any y x W
 have HP:Hid (∀ h,h<l.length→QeU (l.getD h ln0) x=decide (h<Qdk x l)):=fun h hh=>pos_iff hs x hh
 obtain ⟨p,hp⟩:∃ p,Qdk x l=p:=⟨_,rfl⟩;obtain ⟨res,hres⟩:∃ res,hasL x l=res:=⟨_,rfl⟩;have HF:Hid (res=(decide (p<l.length) && QfN (l.getD p ln0) x)):=by unfold Hid;rw [← hres];unfold hasL;rw [hp]
 rw [hres];clear hres;rw [hp] at HP hpl ⊢;clear hc hs hp;have hx0:=LnAt.new w x 56;have hsz:(w.alloc (.cells x.cells 56)).heap.size=w.heap.size+1:=by simp
 have b0:Below w.heap.size w (w.alloc (.cells x.cells 56)):=(Below.refl _ w).alloc (Nat.le_refl _) _;obtain ⟨x0,x1,x2⟩:=x;simp only [Ln.cells] at HC hx0 hsz b0 ⊢;obtain ⟨W0,hW0⟩:∃ W0,w.alloc (.cells #[.string x0,.string x1,.int .i64 x2] 56)=W0:=⟨_,rfl⟩;go_enter func161,ntmps161
 go_wp2;rw [hW0] at hx0 hsz b0;clear hW0;have Hx0:Hid (LnAt W0 w.heap.size 0 ⟨x0,x1,x2⟩):=hx0;have Hb0:Hid (Below w.heap.size w W0):=b0;have Hsz:Hid (W0.heap.size=w.heap.size+1):=hsz;clear hx0 b0 hsz;go_loopg [9,10,11] l.length (fun g s7 s8 _ wr=>∃ lo hi:Nat,s7=.int .i64 lo∧s8=.int .i64 hi∧lo≤p∧p≤hi∧hi≤l.length∧hi - lo≤g∧Below (w.heap.size+1) W0 wr)
 case atStart=>exact ⟨0,l.length,rfl,rfl,Nat.zero_le _,hpl,Nat.le_refl _,by omega,Below.refl _ _⟩
 case round=>
  obtain ⟨lo,hi,rfl,rfl,hlp,hph,hin,hg,BW⟩:=hrel;have hsw:=BW.size;rw [Hsz.out] at hsw;have B1:=Hb0.out.trans (BW.mono (Nat.le_succ _));obtain ⟨d0,d1,d2⟩:=Hx0.out.below BW (Nat.lt_succ_self _);simp only [Nat.zero_add] at d0 d1 d2;by_cases hlt:lo<hi
  ·obtain ⟨m,hm⟩:∃ m,(lo+hi) / 2=m:=⟨_,rfl⟩;have rm:((lo:Int)+(hi:Int)) / 2=(m:Int):=by omega
   have hml:m<l.length:=by omega
   have hmi:(m:Int)<l.length:=by omega
   have hm0:(0:Int)≤m:=by omega
   have hn:=(Hc.out m hml).below B1 hb;have hcall:=HC.out (l.getD m ln0);have hpos:=HP.out m hml;rw [← cmpL_neg] at hpos;generalize cmpL (l.getD m ln0) _=r at *
   generalize l.getD m ln0=y at *
   obtain ⟨y0,y1,y2⟩:=y;obtain ⟨c0,c1,c2⟩:=hn;simp only at c0 c1 c2 hcall;have Hcall:Hid _:=hcall;clear hcall;by_cases hyx:r<0
   ·have h1:m<p:=by rw [decide_eq_true hyx] at hpos;simpa using hpos.symm
    clear hpos;go_wp2;go_region_with (go_at_fn 162;refine (Hcall.out _).mono ?_;rintro e w' ⟨rfl,hb'⟩)
    all_goals
     go_wp2;go_roundg (hi - (m+1))
     case measure=>omega
     case rel=>exact ⟨m+1,hi,by go_num,rfl,by omega,by omega,by omega,by omega,BW.drew.trans (hb'.mono (by simp;omega))⟩
   ·have h1:¬ m<p:=by rw [decide_eq_false hyx] at hpos;simpa using hpos.symm
    clear hpos;go_wp2;go_region_with (go_at_fn 162;refine (Hcall.out _).mono ?_;rintro e w' ⟨rfl,hb'⟩)
    all_goals
     go_wp2;go_roundg (m - lo)
     case measure=>omega
     case rel=>exact ⟨lo,m,rfl,by go_num,by omega,by omega,by omega,by omega,BW.drew.trans (hb'.mono (by simp;omega))⟩
  ·have:hi=lo:=by omega
   subst this
   have:hi=p:=by omega
   subst this;by_cases hn:hi<l.length
   ·have hni:decide ((hi:Int)<l.length)=true:=by simp;omega
    have hn1:(hi:Int)<l.length:=by omega
    have hn0:(0:Int)≤hi:=by omega
    have hnn:=(Hc.out hi hn).below B1 hb;have hcall:=HC.out (l.getD hi ln0);have hF:=HF.out;rw [decide_eq_true hn,Bool.true_and,← cmpL_zero] at hF;clear HF HP;generalize cmpL (l.getD hi ln0) _=r at *
    generalize l.getD hi ln0=y at *
    obtain ⟨y0,y1,y2⟩:=y;obtain ⟨c0,c1,c2⟩:=hnn;simp only at c0 c1 c2 hcall;have Hcall:Hid _:=hcall;clear hcall;subst hF;have hbw:b<wr.heap.size:=by omega
    have hww:w.heap.size<wr.heap.size:=by omega
    have HK:Hid (∀ w',Below wr.drew.heap.size wr.drew w'→(w'.cell? ⟨w.heap.size,0,none⟩=some (.string x0)∧w'.cell? ⟨w.heap.size,1,none⟩=some (.string x1)∧w'.cell? ⟨w.heap.size,2,none⟩=some (.int .i64 x2))∧w'.cell? ⟨b,off+hi*3,none⟩=some (.string y0)∧w'.cell? ⟨b,off+hi*3+1,none⟩=some (.string y1)∧w'.cell? ⟨b,off+hi*3+2,none⟩=some (.int .i64 y2)):=fun w' h=>
     ⟨⟨(h.cell (p:=⟨w.heap.size,0,none⟩) hww).trans d0,(h.cell (p:=⟨w.heap.size,1,none⟩) hww).trans d1,(h.cell (p:=⟨w.heap.size,2,none⟩) hww).trans d2⟩,(h.cell (p:=⟨b,off+hi*3,none⟩) hbw).trans c0,(h.cell (p:=⟨b,off+hi*3+1,none⟩) hbw).trans c1,(h.cell (p:=⟨b,off+hi*3+2,none⟩) hbw).trans c2⟩
    go_wp2;go_region_held3 (fun u=>(u.cell? ⟨w.heap.size,0,none⟩=some (.string x0)∧u.cell? ⟨w.heap.size,1,none⟩=some (.string x1)∧u.cell? ⟨w.heap.size,2,none⟩=some (.int .i64 x2))∧u.cell? ⟨b,off+hi*3,none⟩=some (.string y0)∧u.cell? ⟨b,off+hi*3+1,none⟩=some (.string y1)∧u.cell? ⟨b,off+hi*3+2,none⟩=some (.int .i64 y2)) (go_keep) (first | (go_at_fn 162;refine (Hcall.out _).mono ?_;rintro e w' ⟨rfl,hb'⟩;obtain ⟨⟨q0,q1,q2⟩,q3,q4,q5⟩:=HK.out _ hb'))
    all_goals
     go_wp2;go_ret2;refine ⟨?_,B1.drew.trans (hb'.mono (by simp;omega))⟩
     first | rfl | (by_cases hr:r=0 <;> simp [hr];done)
   ·have hni:decide ((hi:Int)<l.length)=false:=by simp;omega
    have hF:=HF.out;rw [decide_eq_false hn,Bool.false_and] at hF;subst hF;clear HF;go_wp2;go_quiet (fail)
    go_wp2;go_ret2;exact ⟨rfl,QcF B1 _⟩
theorem search_none (a:Option Addr) (cap:Nat) (x:Ln) (w:World) :
  Calls prog 161 #[.slice a 0 cap,.agg x.cells,.func (.func 162) #[] #[]] w fun e w'=>e=.returned (.tuple #[.int .i64 0,.bool false])∧Below w.heap.size w w':=by
 have b0:Below w.heap.size w (w.alloc (.cells x.cells 56)):=(Below.refl _ w).alloc (Nat.le_refl _) _;obtain ⟨x0,x1,x2⟩:=x;simp only [Ln.cells] at b0 ⊢;go_enter func161,ntmps161
 go_wp2;refine wp_loop_rounds 1 ?_;rw [rounds_succ];go_wp2;go_quiet (fail)
 go_wp2;go_ret2;exact ⟨rfl,QcF b0 _⟩
theorem search_any (a:Option Addr) (cap:Nat) (l:List Ln) (x:Ln) (w:World) (hlen:l.length≤1000) (h:Qfs w a l cap) (hs:Qfo l) :
  Calls prog 161 #[.slice a l.length cap,.agg x.cells,.func (.func 162) #[] #[]] w fun e w'=>e=.returned (.tuple #[.int .i64 (Qdk x l:Nat),.bool (hasL x l)])∧Below w.heap.size w w':=by
 rcases h.lies with rfl | ⟨b,off,rfl,hlt,hc⟩
 ·exact search_none a cap x w
 ·exact search_some b off cap l x w hlt hlen hc hs
end
section
open Go.RowKit Go.Lib Go.Proofs.Tryz
theorem Qe2 {P:Program} (w:World) (dT sT ty elem:TypeId) (g o dLen dCap:Nat) (a:Addr) (sLen sCap:Nat) (cur:Array Value) (t:TypeId) (cs:List Value)
  (hu:P.underlying dT=some (.slice elem)) (hs:(P.info? elem).map (·.size)=some 3)
  (hg:w.heap[g]? = some (.cells cur t (0,0))) (hn:Nat.min sLen dLen*3=cs.length)
  (hsrc:∀ j v,cs[j]? = some v→w.cell? (a.add j)=some v) (hfit:o+cs.length≤cur.size) (h1:∀ v∈cs,v.oneCell'=true) :
  (Builtin.copy_ #[dT,sT] ty #[.slice (some ⟨g,o,none⟩) dLen dCap,.slice (some a) sLen sCap]).run P w =
   .ok (goInt (Nat.min sLen dLen)) (w.setRow g (cur.toList.take o++cs++cur.toList.drop (o+cs.length)).toArray):=by
 have hl:=run_loadCells_list (P:=P) w a cs hsrc;have hst:=run_storeCells_at P g o t cs 0 cur w hg (by simpa using hfit) h1
 cases hq:P.info? elem with
 | none=>simp [hq] at hs
 | some i=>
  have hi:i.size=3:=by simpa [hq] using hs
  have hm:Nat.min sLen dLen*i.size=cs.length:=by rw [hi];exact hn
  simp only [hi] at hm;simp [Builtin.copy_,run_underlying hu,Builtin.lenOf,Builtin.firstCells,sizeOf,typeInfo,hq,hi,hm,hl,hst]
theorem Qgh {P:Program} {ops:Array Oper} {o:Oper} {a:Act} {w:World} {K:Act→World→Prop} {Q:Exit→Act→World→Prop} {E:Prop}
  (hg:o.guard=none) (d x:Operand) (dT sT:TypeId) (hop:o.op=Op.call { callee:=Callee.builtin Builtin.copy,args:=#[d,x],argTypes:=#[dT,sT] })
  (v u:Value) (hd:a.eval d=v) (hx:a.eval x=u) {v':Value} {w':World} (hr:(Builtin.copy_ #[dT,sT] o.type #[v,u]).run P w=.ok v' w') (hK:K (a.put o.dst v') w') :
  if Region.wanted o (yielded ops a.tmps)=true then Oper.wp P o a w K Q else E:=by
 have hw:Region.wanted o (yielded ops a.tmps)=true:=by simp [Region.wanted,hg]
 rw [if_pos hw];unfold Oper.wp;simp [execOp,hop,resolve,invoke,builtin,hd,hx,hr,Result.andThen];exact hK
theorem QgM:(prog.info? 56).map (·.size)=some 3:=by
 obtain ⟨i0,hi,hz0,hz1,hz2⟩:=info_parts Qex;rw [hi];simp [hz1]
theorem ln_sizeOf (w:World):(Go.sizeOf 56).run prog w=.ok 3 w:=by
 obtain ⟨i0,hi,hz0,hz1,hz2⟩:=info_parts Qex;simp [Go.sizeOf,typeInfo,hi,hz1]
set_option maxHeartbeats 2000000 in
theorem insert_shift (g cap i vb:Nat) (cur:Array Value) (l:List Ln) (x:Ln) (W:World) (hg:W.heap[g]? = some (.cells cur 56 (0,0))) (hcap:l.length+1≤cap) (hm:cap≤maxLen) (hcs:cur.size=cap*3) (ht:cur.toList.take (l.length*3)=Qas l) (hi:i<l.length) (hlen:l.length≤1000)
  (hv:W.heap[vb]? = some (.cells x.cells 56 (0,0))) (hne:vb≠g) :
  Calls prog 163 #[.slice (some ⟨g,0,none⟩) l.length cap,.int .i64 i,.slice (some ⟨vb,0,none⟩) 1 1] W fun e w'=>
   e=.returned (.slice (some ⟨g,0,none⟩) (l.length+1) cap)∧Qag w' g (.slice (some ⟨g,0,none⟩) (l.length+1) cap) (l.take i++x :: l.drop i)∧W.grownBy w' (some g):=by
 obtain ⟨n,hn⟩:∃ n,l.length=n:=⟨_,rfl⟩;have hn1:(n:Int)≤1000:=by omega
 have hz2:¬ ((i:Int)=(n:Int)):=by omega
 have hlc:cur.toList.length=cap*3:=by simpa using hcs
 have hov:∀ lb cb,(callFunc 199 #[.slice (some ⟨vb,0,none⟩) 1 1,.slice (some ⟨g,(i+1)*3,none⟩) lb cb]).run prog W=.ok (.value (.bool false)) W:=fun lb cb=>by
  rw [run_callFunc_extern func199 (by kernel_rfl) (by kernel_rfl) (by kernel_rfl) (e:=Extern.SlicesOverlaps.overlaps #[57,57] #[4]) (by kernel_rfl),
   Lib.run_overlaps_apart W 57 4 56 underlying57 3 ln_sizeOf ⟨vb,0,none⟩ ⟨g,(i+1)*3,none⟩ 1 1 lb cb hne 56 56 3 (cap*3) (by simp [World.shape?,hv,Ln.cells]) (by simp [World.shape?,hg,hcs]) (by omega) (by simp [World.frozen?,hv]) (by simp [World.frozen?,hv])]
  rfl
 have hd:(Qas (l.drop i)).length=(n - i)*3:=by rw [Qak,List.length_drop,hn]
 obtain ⟨A1,hA1⟩:∃ A1:Array Value,A1=(cur.toList.take ((i+1)*3)++Qas (l.drop i)++cur.toList.drop ((i+1)*3+(Qas (l.drop i)).length)).toArray:=⟨_,rfl⟩;have hA1s:A1.size=cap*3:=by
  rw [hA1];simp only [List.size_toArray,List.length_append,List.length_take,List.length_drop,hd,hlc];omega
 have hcp1:∀ ty dc sc,(Builtin.copy_ #[57,57] ty #[.slice (some ⟨g,(i+1)*3,none⟩) (n - i) dc,.slice (some ⟨g,i*3,none⟩) (n+1 - i) sc]).run prog W.drew=.ok (goInt ((n - i:Nat):Int)) (W.drew.setRow g A1):=fun ty dc sc=>by
  have hmin:Nat.min (n+1 - i) (n - i)=n - i:=by simp only [Nat.min_def];split <;> omega
  have:=Qe2 (P:=prog) W.drew 57 57 ty 56 g ((i+1)*3) (n - i) dc ⟨g,i*3,none⟩ (n+1 - i) sc cur 56 (Qas (l.drop i)) underlying57 QgM hg (by rw [hmin,hd])
   (fun j v hj=>by
    rw [Addr.add_lit];have hjl:j<(n - i)*3:=by
     rw [← hd];exact (List.getElem?_eq_some_iff.1 hj).1
    have e1:(Qas (l.drop i))[j]? = cur[i*3+j]?:=by
     rw [QiT,List.getElem?_drop,← ht,List.getElem?_take,if_pos (by omega)]
     simp
    rw [e1] at hj;show W.cell? _=_;simp only [World.cell?,hg];exact hj) (by rw [hd];omega) (QcN _)
  rw [hmin,← hA1] at this;exact this
 obtain ⟨A2,hA2⟩:∃ A2:Array Value,A2=(A1.toList.take (i*3)++x.cells.toList++A1.toList.drop (i*3+3)).toArray:=⟨_,rfl⟩;have hcp2:∀ (W2:World),(∀ k:Nat,W2.heap[k]? = (W.drew.setRow g A1).heap[k]?)→∀ ty dc,(Builtin.copy_ #[57,57] ty #[.slice (some ⟨g,i*3,none⟩) (n+1 - i) dc,.slice (some ⟨vb,0,none⟩) 1 1]).run prog W2=.ok (goInt 1) (W2.setRow g A2):=fun W2 h2 ty dc=>by
  have hmin:Nat.min 1 (n+1 - i)=1:=by simp only [Nat.min_def];split <;> omega
  have hg2:W2.heap[g]? = some (.cells A1 56 (0,0)):=by rw [h2];exact setRow_heap W.drew g cur A1 56 (0,0) hg
  have hv2:W2.heap[vb]? = some (.cells x.cells 56 (0,0)):=by rw [h2,setRow_other _ _ _ _ hne];exact hv
  have:=Qe2 (P:=prog) W2 57 57 ty 56 g (i*3) (n+1 - i) dc ⟨vb,0,none⟩ 1 1 A1 56 x.cells.toList underlying57 QgM hg2 (by rw [hmin];rfl)
   (fun j v hj=>by
    rw [Addr.add_lit];simp [World.cell?,hv2];simpa using hj) (by rw [Ln.cells_length];omega) (by
    intro v hv;simp [Ln.cells] at hv;rcases hv with rfl | rfl | rfl <;> rfl)
  rw [hmin,Ln.cells_length,← hA2] at this;exact this
 have hb1:(0:Int)≤(i:Int)+1:=by omega
 have hin:i≤n:=by omega
 have hb2:¬ (cap=i+1):=by omega
 have hb3:(i:Int)≤(n:Int)+1:=by omega
 have hb4:¬ (cap=i):=by omega
 have hcm:(cap:Int)≤9223372036854775807:=by unfold maxLen at hm;omega
 have hfin:∀ W3:World,(∀ k:Nat,W3.heap[k]? = ((W.drew.setRow g A1).setRow g A2).heap[k]?)→W3.os=W.os→W3.tape=W.tape→W3.output=W.output→Qag W3 g (.slice (some ⟨g,0,none⟩) (n+1) cap) (l.take i++x :: l.drop i)∧W.grownBy W3 (some g):=by
  intro W3 h3 q1 q2 q3;have e0:cur.toList.take (i*3)=Qas (l.take i):=by
   rw [QfR,← ht,List.take_take,Nat.min_eq_left (by omega)]
  have e1:A1.toList.take (i*3)=Qas (l.take i):=by
   rw [hA1,List.toList_toArray,List.append_assoc,List.take_append_of_le_length (by rw [List.length_take,hlc];omega),List.take_take,Nat.min_eq_left (by omega),e0]
  have e2:A1.toList.drop (i*3+3)=Qas (l.drop i)++cur.toList.drop ((i+1)*3+(Qas (l.drop i)).length):=by
   rw [hA1,List.toList_toArray,List.append_assoc];exact List.drop_left' (by rw [List.length_take,hlc];omega)
  have hl3:(l.take i).length=i:=by rw [List.length_take];omega
  have e3:Qas (l.take i++x :: l.drop i)=Qas (l.take i)++x.cells.toList++Qas (l.drop i):=by
   rw [show x :: l.drop i=[x]++l.drop i from rfl,QaI,QaI,Qcu,List.append_assoc]
  have e4:A2.toList=Qas (l.take i++x :: l.drop i)++cur.toList.drop ((i+1)*3+(Qas (l.drop i)).length):=by
   rw [hA2,List.toList_toArray,e1,e2,e3];simp only [List.append_assoc]
  have hll:(l.take i++x :: l.drop i).length=n+1:=by
   rw [List.length_append,List.length_cons,hl3,List.length_drop];omega
  have hA2s:A2.size=cap*3:=by
   have:A2.toList.length=cap*3:=by
    rw [e4,List.length_append,Qak,hll,List.length_drop,hd,hlc];omega
   simpa using this
  have hg1:(W.drew.setRow g A1).heap[g]? = some (.cells A1 56 (0,0)):=setRow_heap W.drew g cur A1 56 (0,0) hg;refine ⟨⟨by rw [Qak],.inr ⟨g,cap,A2,by rw [hll],Nat.le_refl _,?_,by rw [hll];omega,hm,hA2s,?_⟩⟩,⟨q1,q2,q3,?_,?_⟩⟩
  ·rw [h3];exact setRow_heap _ g A1 A2 56 (0,0) hg1
  ·rw [e4];exact List.take_left' (by rw [Qak])
  ·rcases Nat.lt_or_ge W3.heap.size W.heap.size with h | h
   ·have h4:=h3 W3.heap.size;rw [Array.getElem?_eq_none (Nat.le_refl _)] at h4;have h5:=h4.symm;rw [Array.getElem?_eq_none_iff,setRow_size,setRow_size] at h5
    have:W.drew.heap.size=W.heap.size:=rfl
    omega
   ·exact h
  ·intro k hk hk2;rw [h3,setRow_other _ _ _ _ (fun e=>hk2 (by rw [e])),setRow_other _ _ _ _ (fun e=>hk2 (by rw [e]))]
   rfl
 have hw1:IntKind.i64.wrap ((i:Int)+1)=(i:Int)+1:=by rw [IntKind.wrap_i64];omega
 have htn:((i:Int)+1).toNat=i+1:=by omega
 have hle:(i:Int)+1≤(n:Int)+1:=by omega
 have hcn:¬ ((cap:Int)<(n:Int)+1):=by omega
 have hcn2:(n:Int)+1≤cap:=by omega
 have HF:Hid _:=hfin;have Hc1:Hid _:=hcp1;have Hc2:Hid _:=hcp2;rw [hn] at hcap hi hlen ⊢;clear hfin hcp1 hcp2 hA1 hA2 hd hlc hcs ht hn hg hv hm;go_enter func163,ntmps163
 go_wp2_with (simp only [hov]);go_region_law (refine Qgh rfl _ _ 57 57 rfl (.slice (some ⟨g,(i+1)*3,none⟩) (n - i) (cap - (i+1))) (.slice (some ⟨g,i*3,none⟩) (n+1 - i) (cap - i)) (by simp [Act.eval,Act.put]) (by simp [Act.eval,Act.put]) (Hc1.out 3 (cap - (i+1)) (cap - i)) ?_)
 all_goals
  have hq2:=Hc2.out (W.drew.setRow g A1) (fun _=>rfl)
  go_wp2;go_ret;exact ⟨rfl,HF.out _ (fun _=>rfl) rfl rfl rfl⟩
end
section
open Go.RowKit Go.Lib Go.Proofs.Tryz
theorem Qf1 (k:Nat):(Builtin.zeroCells (Value.agg #[.string ByteArray.empty,.string ByteArray.empty,.int .i64 0]).cells k).toList.length=k*3:=by
 simp [Builtin.zeroCells,Value.cells]
set_option maxHeartbeats 2000000 in
theorem insert_grow (g cap i vb:Nat) (cur:Array Value) (l:List Ln) (x:Ln) (W:World) (hg:W.heap[g]? = some (.cells cur 56 (0,0))) (hcap0:l.length≤cap) (hcap:cap<l.length+1) (hcs:cur.size=cap*3) (ht:cur.toList.take (l.length*3)=Qas l) (hi:i<l.length) (hlen:l.length≤1000)
  (hv:W.heap[vb]? = some (.cells x.cells 56 (0,0))) :
  Calls prog 163 #[.slice (some ⟨g,0,none⟩) l.length cap,.int .i64 i,.slice (some ⟨vb,0,none⟩) 1 1] W fun e w'=>
   ∃ G,e=.returned (.slice (some ⟨W.heap.size,0,none⟩) (l.length+1) G)∧Qag w' W.heap.size (.slice (some ⟨W.heap.size,0,none⟩) (l.length+1) G) (l.take i++x :: l.drop i)∧W.grownBy w' none:=by
 obtain ⟨n,hn⟩:∃ n,l.length=n:=⟨_,rfl⟩;obtain ⟨i0,hi0,hz0,hzs,hzb⟩:=info_parts Qex;have hgw:g<W.heap.size:=(Array.getElem?_eq_some_iff.1 hg).1;have hvw:vb<W.heap.size:=(Array.getElem?_eq_some_iff.1 hv).1;have hn1:(n:Int)≤1000:=by omega
 have hz2:¬ ((i:Int)=(n:Int)):=by omega
 have hlc:cur.toList.length=cap*3:=by simpa using hcs
 have hkk:(n:Int)+1 - (i:Int)=((n+1 - i:Nat):Int):=by omega
 have hik:i+(n+1 - i)=n+1:=by omega
 have e0:cur.toList.take (i*3)=Qas (l.take i):=by
  rw [QfR,← ht,List.take_take,Nat.min_eq_left (by omega)]
 have hl3:(l.take i).length=i:=by rw [List.length_take];omega
 have hl4:(Qas (l.take i)).length=i*3:=by rw [Qak,hl3]
 have hold:(Builtin.firstCells i0.size i (.slice (some ⟨g,0,none⟩) i cap)).run prog W.drew=.ok (Qas (l.take i)).toArray W.drew:=by
  rw [hzs];show (loadCells ⟨g,0,none⟩ (i*3)).run prog W.drew=_;rw [← hl4];refine run_loadCells_list (P:=prog) W.drew ⟨g,0,none⟩ _ (fun j v hj=>?_)
  rw [Addr.add_lit];have hjl:j<i*3:=by
   rw [← hl4];exact (List.getElem?_eq_some_iff.1 hj).1
  have e1:(Qas (l.take i))[j]? = cur[0+j]?:=by
   rw [← e0,List.getElem?_take,if_pos hjl];simp
  rw [e1] at hj;show W.cell? _=_;simp only [World.cell?,hg];exact hj
 have hrz:∀ ty,(Builtin.append_ #[57,3] ty #[.slice (some ⟨g,0,none⟩) i cap,.int .i64 ((n:Int)+1 - (i:Int))]).run prog W =
   .ok (.slice (some ⟨W.heap.size,0,none⟩) (n+1) (grownCap W (n+1) cap 56)) (W.drew.alloc (.cells ((Qas (l.take i)).toArray++Builtin.zeroCells (Value.agg #[.string ByteArray.empty,.string ByteArray.empty,.int .i64 0]).cells (n+1 - i)++Builtin.zeroCells (Value.agg #[.string ByteArray.empty,.string ByteArray.empty,.int .i64 0]).cells (grownCap W (n+1) cap 56 - (n+1))) 56)):=fun ty=>by
  have h:=Lib.run_append_grow_zeros W 57 3 ty 56 i0 _ .i64 .i64 underlying57 underlying3 hi0 hz0 (some ⟨g,0,none⟩) i cap (Qas (l.take i)) hold (n+1 - i) (by omega) (by omega) (by omega) (by omega) (by rw [hzb];omega) (by rw [hzb,hik];exact growslice_fits (by omega) (by omega))
  rw [hik] at h;rw [hkk];exact h
 obtain ⟨G,hG⟩:∃ G,G=grownCap W (n+1) cap 56:=⟨_,rfl⟩;obtain ⟨ROW,hROW⟩:∃ ROW:Array Value,ROW=(Qas (l.take i)).toArray++Builtin.zeroCells (Value.agg #[.string ByteArray.empty,.string ByteArray.empty,.int .i64 0]).cells (n+1 - i)++Builtin.zeroCells (Value.agg #[.string ByteArray.empty,.string ByteArray.empty,.int .i64 0]).cells (G - (n+1)):=⟨_,rfl⟩;rw [← hG,← hROW] at hrz;have hGn:n+1≤G:=by rw [hG];exact grownCap_ge W _ _ _
 have hGm:G≤maxLen:=by rw [hG];exact grownCap_le_maxLen W (n+1) cap 56 (by unfold maxLen;omega)
 have hR:ROW.toList=Qas (l.take i)++((Builtin.zeroCells (Value.agg #[.string ByteArray.empty,.string ByteArray.empty,.int .i64 0]).cells (n+1 - i)).toList++(Builtin.zeroCells (Value.agg #[.string ByteArray.empty,.string ByteArray.empty,.int .i64 0]).cells (G - (n+1))).toList):=by
  rw [hROW];simp
 have hRl:ROW.toList.length=G*3:=by
  rw [hR,List.length_append,List.length_append,hl4,Qf1,Qf1];omega
 have hRs:ROW.size=G*3:=by simpa using hRl
 obtain ⟨N,hN⟩:∃ N,W.heap.size=N:=⟨_,rfl⟩;have hgN:g≠N:=by omega
 have hvN:vb≠N:=by omega
 obtain ⟨W1,hW1⟩:∃ W1,W1=(W.alloc (.cells ROW 56)).drew:=⟨_,rfl⟩;have hg1:W1.heap[g]? = some (.cells cur 56 (0,0)):=by rw [hW1];exact ((World.grownBy_alloc W _ none).block g hgw (by simp)).trans hg
 have hv1:W1.heap[vb]? = some (.cells x.cells 56 (0,0)):=by rw [hW1];exact ((World.grownBy_alloc W _ none).block vb hvw (by simp)).trans hv
 have hr1:W1.heap[N]? = some (.cells ROW 56 (0,0)):=by rw [hW1,← hN];exact World.alloc_heap_new W _
 have hd:(Qas (l.drop i)).length=(n - i)*3:=by rw [Qak,List.length_drop,hn]
 obtain ⟨B1,hB1⟩:∃ B1:Array Value,B1=(ROW.toList.take (i*3)++x.cells.toList++ROW.toList.drop (i*3+3)).toArray:=⟨_,rfl⟩;have f0:ROW.toList.take (i*3)=Qas (l.take i):=by rw [hR];exact List.take_left' hl4
 have f1:B1.toList=Qas (l.take i)++x.cells.toList++ROW.toList.drop (i*3+3):=by rw [hB1,List.toList_toArray,f0]
 have f1l:B1.toList.length=G*3:=by
  rw [f1,List.length_append,List.length_append,hl4,Ln.cells_length,List.length_drop,hRl];omega
 have f1s:B1.size=G*3:=by simpa using f1l
 obtain ⟨B2,hB2⟩:∃ B2:Array Value,B2=(B1.toList.take ((i+1)*3)++Qas (l.drop i)++B1.toList.drop ((i+1)*3+(Qas (l.drop i)).length)).toArray:=⟨_,rfl⟩;have hcpA:∀ ty dc,(Builtin.copy_ #[57,57] ty #[.slice (some ⟨N,i*3,none⟩) (n+1 - i) dc,.slice (some ⟨vb,0,none⟩) 1 1]).run prog W1=.ok (goInt 1) (W1.setRow N B1):=fun ty dc=>by
  have hmin:Nat.min 1 (n+1 - i)=1:=by simp only [Nat.min_def];split <;> omega
  have:=Qe2 (P:=prog) W1 57 57 ty 56 N (i*3) (n+1 - i) dc ⟨vb,0,none⟩ 1 1 ROW 56 x.cells.toList underlying57 QgM hr1 (by rw [hmin];rfl)
   (fun j v hj=>by
    rw [Addr.add_lit];simp [World.cell?,hv1];simpa using hj) (by rw [Ln.cells_length];omega) (by
    intro v hv;simp [Ln.cells] at hv;rcases hv with rfl | rfl | rfl <;> rfl)
  rw [hmin,Ln.cells_length,← hB1] at this;exact this
 have hcpB:∀ ty dc sc,(Builtin.copy_ #[57,57] ty #[.slice (some ⟨N,(i+1)*3,none⟩) (n - i) dc,.slice (some ⟨g,i*3,none⟩) (n - i) sc]).run prog (W1.setRow N B1).drew=.ok (goInt ((n - i:Nat):Int)) ((W1.setRow N B1).drew.setRow N B2):=fun ty dc sc=>by
  have hmin:Nat.min (n - i) (n - i)=n - i:=by simp only [Nat.min_def];split <;> omega
  have hg2:(W1.setRow N B1).drew.heap[g]? = some (.cells cur 56 (0,0)):=(setRow_other _ _ _ _ hgN).trans hg1
  have:=Qe2 (P:=prog) (W1.setRow N B1).drew 57 57 ty 56 N ((i+1)*3) (n - i) dc ⟨g,i*3,none⟩ (n - i) sc B1 56 (Qas (l.drop i)) underlying57 QgM (setRow_heap W1 N ROW B1 56 (0,0) hr1) (by rw [hmin,hd])
   (fun j v hj=>by
    rw [Addr.add_lit];have hjl:j<(n - i)*3:=by
     rw [← hd];exact (List.getElem?_eq_some_iff.1 hj).1
    have e1:(Qas (l.drop i))[j]? = cur[i*3+j]?:=by
     rw [QiT,List.getElem?_drop,← ht,List.getElem?_take,if_pos (by omega)]
     simp
    rw [e1] at hj;simp only [World.cell?,hg2];exact hj) (by rw [hd];omega) (QcN _)
  rw [hmin,← hB2] at this;exact this
 have hfin:∀ W3:World,(∀ k:Nat,W3.heap[k]? = ((W1.setRow N B1).drew.setRow N B2).heap[k]?)→W3.os=W.os→W3.tape=W.tape→W3.output=W.output→Qag W3 N (.slice (some ⟨N,0,none⟩) (n+1) G) (l.take i++x :: l.drop i)∧W.grownBy W3 none:=by
  intro W3 h3 q1 q2 q3;have e2:B1.toList.take ((i+1)*3)=Qas (l.take i)++x.cells.toList:=by
   rw [f1];exact List.take_left' (by rw [List.length_append,hl4,Ln.cells_length];omega)
  have e3:Qas (l.take i++x :: l.drop i)=Qas (l.take i)++x.cells.toList++Qas (l.drop i):=by
   rw [show x :: l.drop i=[x]++l.drop i from rfl,QaI,QaI,Qcu,List.append_assoc]
  have e4:B2.toList=Qas (l.take i++x :: l.drop i)++B1.toList.drop ((i+1)*3+(Qas (l.drop i)).length):=by
   rw [hB2,List.toList_toArray,e2,e3]
  have hll:(l.take i++x :: l.drop i).length=n+1:=by
   rw [List.length_append,List.length_cons,hl3,List.length_drop];omega
  have hs2:B2.size=G*3:=by
   have:B2.toList.length=G*3:=by
    rw [e4,List.length_append,Qak,hll,List.length_drop,hd,f1l];omega
   simpa using this
  have hsz1:W1.heap.size=N+1:=by rw [hW1,← hN];show (W.alloc _).heap.size=_;simp
  refine ⟨⟨by rw [Qak],.inr ⟨N,G,B2,by rw [hll],Nat.le_refl _,?_,by rw [hll];omega,hGm,hs2,?_⟩⟩,⟨q1,q2,q3,?_,?_⟩⟩
  ·rw [h3];exact setRow_heap (W1.setRow N B1).drew N B1 B2 56 (0,0) (setRow_heap W1 N ROW B1 56 (0,0) hr1)
  ·rw [e4];exact List.take_left' (by rw [Qak])
  ·rcases Nat.lt_or_ge W3.heap.size W.heap.size with h | h
   ·have h4:=h3 W3.heap.size;rw [Array.getElem?_eq_none (Nat.le_refl _)] at h4;have h5:=h4.symm;rw [Array.getElem?_eq_none_iff,setRow_size] at h5
    have:(W1.setRow N B1).drew.heap.size=N+1:=by show (W1.setRow N B1).heap.size=_;rw [setRow_size,hsz1]
    omega
   ·exact h
  ·intro k hk hk2;rw [h3,setRow_other _ _ _ _ (by omega)]
   show (W1.setRow N B1).heap[k]? = _;rw [setRow_other _ _ _ _ (by omega),hW1]
   exact (World.grownBy_alloc W _ none).block k hk (by simp)
 subst hW1;have HF:Hid _:=hfin;have Hrz:Hid _:=hrz;have HcA:Hid _:=hcpA;have HcB:Hid _:=hcpB;have hb1:(0:Int)≤(i:Int)+1:=by omega
 have hin:i≤n:=by omega
 have hb3:(i:Int)≤(n:Int)+1:=by omega
 have hci:¬ (cap=i):=by omega
 have hGi:¬ (G=i):=by omega
 have hGim:¬ (G=i+1):=by omega
 have hG63:(G:Int)≤9223372036854775807:=by unfold maxLen at hGm;omega
 have hw1:IntKind.i64.wrap ((i:Int)+1)=(i:Int)+1:=by rw [IntKind.wrap_i64];omega
 have htn:((i:Int)+1).toNat=i+1:=by omega
 have hle:(i:Int)+1≤(n:Int)+1:=by omega
 have hle2:(i:Int)≤(n:Int):=by omega
 have hcn:(cap:Int)<(n:Int)+1:=by omega
 rw [hn] at hcap hcap0 hi hlen ⊢;rw [hN] at Hrz ⊢;clear hfin hrz hcpA hcpB hB1 hB2 f0 f1 f1l f1s hd hR hRl hRs hROW hr1 hg1 hv1 hlc hcs ht hn hg hv hold e0 hl4 hl3 hkk hik hG hGm;have hqA:=HcA.out;go_enter func163,ntmps163
 go_wp2_with (at_builtin;refine Lib.wpList_append_run _ rfl _ _ _ _ rfl _ _ rfl rfl _ _ (Hrz.out _) ?_);clear hqA;go_region_law (refine Qgh rfl _ _ 57 57 rfl (.slice (some ⟨N,(i+1)*3,none⟩) (n - i) (G - (i+1))) (.slice (some ⟨g,i*3,none⟩) (n - i) (cap - i)) (by simp [Act.eval,Act.put]) (by simp [Act.eval,Act.put]) (HcB.out 3 (G - (i+1)) (cap - i)) ?_)
 all_goals
  go_wp2;go_ret;exact ⟨G,rfl,HF.out _ (fun _=>rfl) rfl rfl rfl⟩
set_option maxHeartbeats 2000000 in
theorem insert_end (n0:Nat) (v:Value) (vb:Nat) (l:List Ln) (x:Ln) (W:World) (h:Qag W n0 v l) (hn0:n0≤W.heap.size) (hlen:l.length≤1000)
  (hv:W.heap[vb]? = some (.cells x.cells 56 (0,0))) :
  Calls prog 163 #[v,.int .i64 l.length,.slice (some ⟨vb,0,none⟩) 1 1] W fun e w'=>
   ∃ v',e=.returned v'∧Qag w' n0 v' (l++[x])∧W.grownBy w' v.ownBlock:=by
 obtain ⟨i0,hi,hz0,hz1,hz2⟩:=info_parts Qex;obtain ⟨a,cap,rfl,hsl⟩:=h.isLn;have hca:(l.length:Int)≤cap:=by have:=hsl.cap;omega
 have hn1:(l.length:Int)≤1000:=by omega
 have Hh:Hid (Qag W n0 (.slice a l.length cap) l):=h;have c3:∀ j u,([.string x.acc,.string x.cur,.int .i64 x.amt]:List Value)[j]? = some u→W.cell? ((⟨vb,0,none⟩:Addr).add j)=some u:=fun j u hj=>by
  rw [Addr.add_lit];simp only [World.cell?,hv,Ln.cells];simpa using hj
 have hcm:(l.length+1)≤maxLen:=by unfold maxLen;omega
 have hc40:(l.length+1)*40≤140737488355328:=by omega
 have ho:∀ u∈([.string x.acc,.string x.cur,.int .i64 x.amt]:List Value),u.oneCell'=true:=by intro u hu;simp at hu;rcases hu with rfl | rfl | rfl <;> rfl
 have hdisj:cap=l.length∨¬ cap=l.length:=Decidable.em _;clear h hsl hv;go_enter func163,ntmps163
 cases a with
 | none=>
  have h0:l.length=0:=by
   rcases Hh.out.2 with ⟨_,h⟩ | ⟨g1,c1,cur,hh,_⟩
   ·exact h
   ·cases hh
  go_wp2_with (at_builtin;refine wpList_append_own _ rfl _ _ 57 rfl n0 56 i0 (.agg #[.string ByteArray.empty,.string ByteArray.empty,.int .i64 0]) 3 40 underlying57 hi hz0 hz1 hz2 rfl (by decide) _ _ _ rfl Hh.out ⟨vb,0,none⟩ 1 1 [.string x.acc,.string x.cur,.int .i64 x.amt] rfl rfl c3 ho hcm hc40 hn0 ?_;intro v' w3 hown' hgrow _)
  all_goals
   go_ret;refine ⟨_,rfl,?_,hgrow⟩;unfold Qag;rw [QaI,Qcu,List.length_append];exact hown'
 | some ad=>
  obtain ⟨ab,ao,asp⟩:=ad;go_wp2_with (at_builtin;refine wpList_append_own _ rfl _ _ 57 rfl n0 56 i0 (.agg #[.string ByteArray.empty,.string ByteArray.empty,.int .i64 0]) 3 40 underlying57 hi hz0 hz1 hz2 rfl (by decide) _ _ _ rfl Hh.out ⟨vb,0,none⟩ 1 1 [.string x.acc,.string x.cur,.int .i64 x.amt] rfl rfl c3 ho hcm hc40 hn0 ?_;intro v' w3 hown' hgrow _)
  all_goals
   go_ret;refine ⟨_,rfl,?_,hgrow⟩;unfold Qag;rw [QaI,Qcu,List.length_append];exact hown'
end
end Go.Proofs.YtjifbbdkpanagaaGreatDoor
