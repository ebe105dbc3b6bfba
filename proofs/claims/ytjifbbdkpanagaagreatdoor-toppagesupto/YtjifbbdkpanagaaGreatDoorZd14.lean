/-
  Part of a proof (see the last text).
-/
import Derived.Test.YtjifbbdkpanagaaGreatDoorZd13
import Derived.WalkLawsBesides
import Derived.Test.YtjifbbdkpanagaaGreatDoorZd12
set_option linter.unusedVariables false
set_option linter.unusedSimpArgs false
set_option maxRecDepth 100000
namespace Go.Proofs.YtjifbbdkpanagaaGreatDoor
section
open Go.RowKit Go.Lib Go.Proofs.Tryz
theorem QhD (s:ByteArray) (w:World) :
  Calls prog 156 #[.string s] w fun e w'=>e=.returned (.bool false)∧w'=w:=by
 go_enter func156,ntmps156
 go_wp2;go_ret;exact ⟨rfl,rfl⟩
theorem Qfg (a b:ByteArray) (w:World) :
  Calls prog 104 #[.string a,.string b] w fun e w'=>e=.returned (.int .i64 (Qa3 a b))∧w'=w:=by
 cases h1:Op.bytesLess a.toList b.toList
 ·cases h2:(a.toList == b.toList)
  ·have er:Qa3 a b=1:=by simp only [Qa3];rw [h1,h2];rfl
   rw [er];have h2':¬ a.toList=b.toList:=by simpa using h2
   clear er;go_enter func104,ntmps104
   go_wp2_with (go_at_call 156;refine (QhD _ _).mono ?_;rintro e w' ⟨rfl,rfl⟩);go_ret;exact ⟨rfl,rfl⟩
  ·have er:Qa3 a b=0:=by simp only [Qa3];rw [h1,h2];rfl
   rw [er];have h2':a=b:=Qc1 (by simpa using h2)
   subst h2';clear er h2;go_enter func104,ntmps104
   go_wp2_with (go_at_call 156;refine (QhD _ _).mono ?_;rintro e w' ⟨rfl,rfl⟩);go_ret;exact ⟨rfl,rfl⟩
 ·have er:Qa3 a b = -1:=by simp only [Qa3];rw [h1];rfl
  rw [er];clear er;go_enter func104,ntmps104
  go_wp2_with (go_at_call 156;refine (QhD _ _).mono ?_;rintro e w' ⟨rfl,rfl⟩);go_ret;exact ⟨rfl,rfl⟩
theorem QfQ (n:Int) (w:World) :
  Calls prog 155 #[.int .i64 n] w fun e w'=>e=.returned (.bool false)∧w'=w:=by
 go_enter func155,ntmps155
 go_wp2;go_ret;exact ⟨rfl,rfl⟩
theorem Qep (a b:Int) (w:World) :
  Calls prog 103 #[.int .i64 a,.int .i64 b] w fun e w'=>e=.returned (.int .i64 (QcO a b))∧w'=w:=by
 by_cases h1:a<b
 ·have er:QcO a b = -1:=if_pos h1;rw [er];go_enter func103,ntmps103
  go_wp2_with (go_at_call 155;refine (QfQ _ _).mono ?_;rintro e w' ⟨rfl,rfl⟩);go_ret;exact ⟨rfl,rfl⟩
 ·by_cases h2:b<a
  ·have er:QcO a b=1:=by unfold QcO;rw [if_neg h1,if_pos h2]
   rw [er];go_enter func103,ntmps103
   go_wp2_with (go_at_call 155;refine (QfQ _ _).mono ?_;rintro e w' ⟨rfl,rfl⟩);go_ret;exact ⟨rfl,rfl⟩
  ·have er:QcO a b=0:=by unfold QcO;rw [if_neg h1,if_neg h2]
   rw [er];go_enter func103,ntmps103
   go_wp2_with (go_at_call 155;refine (QfQ _ _).mono ?_;rintro e w' ⟨rfl,rfl⟩);go_ret;exact ⟨rfl,rfl⟩
theorem ldOr3_any (b:Nat) (x y z:Int) (w:World) (h0:w.cell? ⟨b,0,none⟩=some (.int .i64 x)) (h1:w.cell? ⟨b,1,none⟩=some (.int .i64 y)) (h2:w.cell? ⟨b,2,none⟩=some (.int .i64 z)) :
  Calls prog 102 #[.slice (some ⟨b,0,none⟩) 3 3] w fun e w'=>e=.returned (.int .i64 (if x≠0 then x else if y≠0 then y else z))∧w'=w:=by
 by_cases hx:x=0
 ·subst hx;rw [if_neg (by simp)]
  by_cases hy:y=0
  ·subst hy;rw [if_neg (by simp)]
   by_cases hz:z=0
   ·subst hz;go_enter func102,ntmps102
    go_wp2;refine wp_loop_rounds 4 ?_;rw [rounds_succ];go_wp2;rw [rounds_succ];go_wp2;rw [rounds_succ];go_wp2;rw [rounds_succ];go_wp2;go_ret;exact ⟨rfl,rfl⟩
   ·have hz':(z != 0)=true:=by simp [hz]
    go_enter func102,ntmps102
    go_wp2;refine wp_loop_rounds 4 ?_;rw [rounds_succ];go_wp2;rw [rounds_succ];go_wp2;rw [rounds_succ];go_wp2;go_ret;exact ⟨rfl,rfl⟩
  ·rw [if_pos hy];have hy':(y != 0)=true:=by simp [hy]
   go_enter func102,ntmps102
   go_wp2;refine wp_loop_rounds 4 ?_;rw [rounds_succ];go_wp2;rw [rounds_succ];go_wp2;go_ret;exact ⟨rfl,rfl⟩
 ·rw [if_pos hx];have hx':(x != 0)=true:=by simp [hx]
  go_enter func102,ntmps102
  go_wp2;refine wp_loop_rounds 4 ?_;rw [rounds_succ];go_wp2;go_ret;exact ⟨rfl,rfl⟩
theorem Qct (W:World) (ROW:Array Value) (t:TypeId) (b j:Nat) (v:Value) (hb:b=W.heap.size) (hv:ROW[j]? = some v):((W.alloc (.cells ROW t)).drew).cell? ⟨b,j,none⟩=some v:=
 (World.cell?_alloc_at (w:=W) ROW t b j hb).trans hv
set_option maxHeartbeats 4000000 in
theorem Qfn (x y:Bl) (w:World) :
  Calls prog 101 #[.agg x.cells,.agg y.cells] w fun e w'=>e=.returned (.int .i64 (Qc7 x y))∧∃ q os,w'=Sort.grow (w.drewN q) os:=by
 obtain ⟨x0,x1,x2,x3⟩:=x;obtain ⟨y0,y1,y2,y3⟩:=y;simp only [Bl.cells,Qc7];obtain ⟨V,hV⟩:∃ V,(w.alloc (.cells #[.int .i64 x0,.string x1,.string x2,.int .i64 x3] 63)).alloc (.cells #[.int .i64 y0,.string y1,.string y2,.int .i64 y3] 63)=V:=⟨_,rfl⟩;have c0:((V.alloc (.cells #[.int .i64 (QcO x0 y0),.int .i64 (Qa3 x1 y1),.int .i64 (Qa3 x2 y2)] 3)).drew).cell? ⟨w.heap.size+1+1,0,none⟩=some (.int .i64 (QcO x0 y0)):=Qct _ _ _ _ _ _ (by rw [← hV];simp) rfl
 have c1:((V.alloc (.cells #[.int .i64 (QcO x0 y0),.int .i64 (Qa3 x1 y1),.int .i64 (Qa3 x2 y2)] 3)).drew).cell? ⟨w.heap.size+1+1,1,none⟩=some (.int .i64 (Qa3 x1 y1)):=Qct _ _ _ _ _ _ (by rw [← hV];simp) rfl
 have c2:((V.alloc (.cells #[.int .i64 (QcO x0 y0),.int .i64 (Qa3 x1 y1),.int .i64 (Qa3 x2 y2)] 3)).drew).cell? ⟨w.heap.size+1+1,2,none⟩=some (.int .i64 (Qa3 x2 y2)):=Qct _ _ _ _ _ _ (by rw [← hV];simp) rfl
 have hO:=ldOr3_any _ _ _ _ _ c0 c1 c2;have bl:∃ q os,((V.alloc (.cells #[.int .i64 (QcO x0 y0),.int .i64 (Qa3 x1 y1),.int .i64 (Qa3 x2 y2)] 3)).drew)=Sort.grow (w.drewN q) os:=by
  rw [← hV];exact ⟨1,_,by rw [Sort.alloc_eq_grow,Sort.alloc_eq_grow,Sort.alloc_eq_grow,Sort.grow_grow,Sort.grow_grow,Sort.drew_grow];rfl⟩
 subst hV;clear c0 c1 c2;obtain ⟨r,hr⟩:∃ r,(if QcO x0 y0≠0 then QcO x0 y0 else if Qa3 x1 y1≠0 then Qa3 x1 y1 else Qa3 x2 y2)=r:=⟨_,rfl⟩
 rw [hr] at hO ⊢;clear hr;go_enter func101,ntmps101
 go_wp2;go_region_held3 (fun u=>(u.cell? ⟨w.heap.size,0,none⟩=some (.int .i64 x0)∧u.cell? ⟨w.heap.size,1,none⟩=some (.string x1)∧u.cell? ⟨w.heap.size,2,none⟩=some (.string x2))∧u.cell? ⟨w.heap.size+1,0,none⟩=some (.int .i64 y0)∧u.cell? ⟨w.heap.size+1,1,none⟩=some (.string y1)∧u.cell? ⟨w.heap.size+1,2,none⟩=some (.string y2)) (go_keep) (first | (go_at_call 103;refine (Qep _ _ _).mono ?_;rintro e w' ⟨rfl,rfl⟩) | (go_at_call 104;refine (Qfg _ _ _).mono ?_;rintro e w' ⟨rfl,rfl⟩) | (go_at_call 102;refine hO.mono ?_;rintro e w' ⟨rfl,rfl⟩))
 all_goals
  go_wp2;go_ret;exact ⟨rfl,bl⟩
theorem grow_below (w:World) (q:Nat) (os:Array Obj):Below w.heap.size w (Sort.grow (w.drewN q) os):=
 ⟨rfl,rfl,rfl,by rw [Sort.size_grow];exact Nat.le_add_right _ _,fun b hb=>Sort.heap_grow_old (w.drewN q) os hb⟩
theorem Qih (x y:Bl) (w:World) :
  Calls prog 101 #[.agg x.cells,.agg y.cells] w fun e w'=>e=.returned (.int .i64 (Qc7 x y))∧Below w.heap.size w w':=
 (Qfn x y w).mono fun e w' ⟨h,q,os,hw⟩=>⟨h,by rw [hw];exact grow_below w q os⟩
theorem Qgd (n m:Int) (hm:-9223372036854775808≤-m∧-m≤9223372036854775807) (w:World) :
  Calls prog 98 #[.int .i64 n,.int .i64 m] w fun e w'=>e=.returned (.bool (decide (-m≤n∧n≤m)))∧w'=w:=by
 have hw:IntKind.i64.wrap (-m) = -m:=by
  simp only [IntKind.wrap,IntKind.bits,IntKind.signed];simp;omega
 by_cases h1:-m≤n
 ·by_cases h2:n≤m
  ·rw [decide_eq_true ⟨h1,h2⟩];go_enter func98,ntmps98
   go_wp2;go_ret;exact ⟨rfl,rfl⟩
  ·rw [decide_eq_false (fun h=>h2 h.2)]
   go_enter func98,ntmps98
   go_wp2;go_ret;exact ⟨rfl,rfl⟩
 ·rw [decide_eq_false (fun h=>h1 h.1)]
  go_enter func98,ntmps98
  go_wp2;go_ret;exact ⟨rfl,rfl⟩
theorem bal_struct:prog.underlying 63=some (.struct (prog.fieldsOf 63)):=by kernel_rfl
theorem bal_stood:prog.stoodInHeld 63=false:=by kernel_rfl
theorem bal_same (x0:Int) (x1 x2:ByteArray) (x3:Int) (W:World):(binOp .neq 63 (.agg #[.int .i64 x0,.string x1,.string x2,.int .i64 x3]) (.agg #[.int .i64 x0,.string x1,.string x2,.int .i64 x3])).run prog W=.ok (.bool false) W:=by
 rw [run_neq_struct,show (10000:Nat)=9998+1+1 from rfl,run_equalIn_agg W (9998+1) 63 _ _ bal_struct bal_stood]
 unfold Program.fieldsOf;rw [underlying63];simp [Op.eqFields,part,go_sem,run_equalIn_string W 9998 9 _ _ underlying9,run_equalIn_int W 9998 3 .i64 .i64 _ _ underlying3,Tryz.isAgg9,Tryz.isAgg3]
set_option maxHeartbeats 1000000 in
theorem sameBals_any (a1 a2:Option Addr) (c1 c2:Nat) (l:List Bl) (w:World) (hlen:l.length≤1000) (h1:Qcn w a1 l c1) (h2:Qcn w a2 l c2) :
  Calls prog 15 #[.slice a1 l.length c1,.slice a2 l.length c2] w fun e w'=>e=.returned (.bool true)∧Below w.heap.size w w':=by
 have Hlen:(l.length:Int)≤1000:=by omega
 have H1:Hid (l=[]∨_):=h1.lies;have H2:Hid (l=[]∨_):=h2.lies;clear h1 h2;have hS:=bal_same;go_enter func15,ntmps15
 go_wp2;go_loopw [5] (fun i wr=>∃ k:Nat,k≤l.length∧i=.int .i64 k∧∃ n,wr=w.drewN n) (fun i _=>l.length - (RowKit.intOf i).toNat)
 case atStart=>exact ⟨0,Nat.zero_le _,rfl,0,rfl⟩
 case round=>
  obtain ⟨k,hk,rfl,nd,rfl⟩:=hrel;by_cases hlt:k<l.length
  ·rcases H1.out with h | ⟨g1,o1,rfl,_,q1⟩
   ·rw [h] at hlt;simp at hlt
   rcases H2.out with h | ⟨g2,o2,rfl,_,q2⟩
   ·rw [h] at hlt;simp at hlt
   have d1:=q1 k hlt;have d2:=q2 k hlt;clear q1 q2 H1 H2;generalize l.getD k bl0=x at *
   obtain ⟨x0,x1,x2,x3⟩:=x;obtain ⟨e0,e1,e2,e3⟩:=d1;obtain ⟨f0,f1,f2,f3⟩:=d2;simp only at e0 e1 e2 e3 f0 f1 f2 f3;have i0:(0:Int)≤k:=by omega
   have i1:(k:Int)<l.length:=by omega
   go_wp2_with fail;go_quiet (fail)
   go_wp2;go_roundw
   case rel=>exact ⟨k+1,by omega,by go_num,_,rfl⟩
   case measure=>simp [RowKit.intOf];omega
  ·have hk2:k=l.length:=by omega
   subst hk2;go_wp2;go_ret;exact ⟨rfl,QcF (Below.refl _ _) _⟩
end
section
open Go.RowKit Go.Lib Go.Proofs.Tryz
theorem Qcn.some {w:World} {a:Option Addr} {l:List Bl} {cap k:Nat} (h:Qcn w a l cap) (hk:k<l.length):∃ b off,a=some ⟨b,off,none⟩∧b<w.heap.size∧BlsAt w b off l:=by
 rcases h.lies with h | h
 ·rw [h] at hk;simp at hk
 ·exact h
set_option maxHeartbeats 4000000 in
theorem QeM (a:Option Addr) (cap:Nat) (l:List Bl) (w:World) (hlen:l.length≤9223372036854775807) (h:Qcn w a l cap) :
  Calls prog 131 #[.slice a l.length cap] w fun e w'=>e=.returned (enE (chk l))∧Below w.heap.size w w':=by
 by_cases h2:200<l.length
 ·have e4:chk l=4:=if_pos h2;rw [e4,QaF (by decide)]
  have i1:(200:Int)<l.length:=by omega
  clear h e4;go_enter func131,ntmps131
  go_wp2;go_ret;exact ⟨rfl,Below.refl _ _⟩
 have i1:¬ (200:Int)<l.length:=by omega
 have i2:(l.length:Int)≤200:=by omega
 obtain ⟨res,hres⟩:∃ res,enE (chk l)=res:=⟨_,rfl⟩;have Hres:Hid (enE (Qev l l.length)=res):=by
  rw [← hres];unfold chk;rw [if_neg h2];exact rfl
 rw [hres];clear hres;have HL:Hid (Qcn w a l cap):=h;clear h;go_enter func131,ntmps131
 go_wp2;go_loopw [11] (fun i wr=>∃ k:Nat,k≤l.length∧i=.int .i64 k∧Hid (Qev l k=0)∧Hid (Below w.heap.size w wr)) (fun i _=>l.length - (RowKit.intOf i).toNat)
 case atStart=>exact ⟨0,Nat.zero_le _,rfl,rfl,Below.refl _ _⟩
 case round=>
  obtain ⟨k,hk,rfl,H0,HB⟩:=hrel;by_cases hlt:k<l.length
  ·obtain ⟨b,off,rfl,hb,hc⟩:=HL.out.some hlt;have hy:=(hc k hlt).below HB.out hb;have i0:(0:Int)≤k:=by omega
   have i3:(k:Int)<l.length:=by omega
   have HC:Hid (BlsAt w b off l):=hc;have HY:Hid (l.getD k bl0=l.getD k bl0):=rfl;obtain ⟨y,hyy⟩:∃ y,l.getD k bl0=y:=⟨_,rfl⟩;have HYY:Hid (l.getD k bl0=y):=hyy;rw [hyy] at hy;clear hyy hc HY;obtain ⟨y0,y1,y2,y3⟩:=y;obtain ⟨d0,d1,d2,d3⟩:=hy;simp only at d0 d1 d2 d3;obtain ⟨W1,hW1⟩:∃ W1,wr.alloc (.cells #[.int .i64 y0,.string y1,.string y2,.int .i64 y3] 63)=W1:=⟨_,rfl⟩;have hbx:W1.heap[wr.heap.size]? = some (.cells #[.int .i64 y0,.string y1,.string y2,.int .i64 y3] 63 (0,0)):=by rw [← hW1];unfold World.alloc;simp only [Array.getElem?_push_size]
   have HB1:Hid (Below w.heap.size w W1):=by rw [← hW1];exact HB.out.alloc HB.out.size _
   have HX:Hid (∀ U,Below W1.heap.size W1 U→U.cell? ⟨wr.heap.size,0,none⟩=some (.int .i64 y0)∧U.cell? ⟨wr.heap.size,1,none⟩=some (.string y1)∧U.cell? ⟨wr.heap.size,2,none⟩=some (.string y2)∧U.cell? ⟨wr.heap.size,3,none⟩=some (.int .i64 y3)):=fun U hU=>by
    have hlt':wr.heap.size<W1.heap.size:=(Array.getElem?_eq_some_iff.1 hbx).1;have e:=(hU.block _ hlt').trans hbx;simp [World.cell?,e]
   have HW1:Hid (wr.alloc (.cells #[.int .i64 y0,.string y1,.string y2,.int .i64 y3] 63)=W1):=hW1;have HSz:Hid (wr.heap.size<W1.heap.size):=(Array.getElem?_eq_some_iff.1 hbx).1;clear hW1 hbx;go_upto_region 6 with fail
   rw [HW1.out];clear HW1 d0 d1 d2 d3;obtain ⟨B,hB⟩:∃ B,wr.heap.size=B:=⟨_,rfl⟩;rw [hB] at HX HSz ⊢;clear hB HB;go_cut [16] from 17 to 28 (fun t wx=>t=.bool (decide (0<k∧¬ Qc7 (l.getD (k - 1) bl0) ⟨y0,y1,y2,y3⟩<0))∧Hid (Below W1.heap.size W1 wx))
   case first=>
    rcases k with _ | m
    ·obtain ⟨f0,f1,f2,f3⟩:=HX.out W1 (Below.refl _ _);go_wp2_with fail;go_quiet (fail)
     rename Nat=>nk
     have HZ:Hid (Below W1.heap.size W1 (W1.drewN nk)):=QcF (Below.refl _ _) nk;go_wp2;go_meet
     case rel=>exact ⟨by simp,HZ⟩
    ·have hx:=(HC.out m (by omega)).below HB1.out hb
     have er:(0<m+1∧¬ Qc7 (l.getD (m+1 - 1) bl0) ⟨y0,y1,y2,y3⟩<0)↔¬ Qc7 (l.getD m bl0) ⟨y0,y1,y2,y3⟩<0:=by
      rw [Nat.add_sub_cancel];exact ⟨fun h=>h.2,fun h=>⟨by omega,h⟩⟩
     have HER:Hid (decide (0<m+1∧¬ Qc7 (l.getD (m+1 - 1) bl0) ⟨y0,y1,y2,y3⟩<0)=decide (0≤Qc7 (l.getD m bl0) ⟨y0,y1,y2,y3⟩)):=by
      unfold Hid;rw [decide_eq_decide,er];omega
     clear er;have HCm:Hid (∀ W,Calls prog 101 #[.agg (l.getD m bl0).cells,.agg (Bl.mk y0 y1 y2 y3).cells] W fun e w'=>e=.returned (.int .i64 (Qc7 (l.getD m bl0) ⟨y0,y1,y2,y3⟩))∧Below W.heap.size W w'):=fun W=>Qih _ _ W
     generalize l.getD m bl0=x at hx HER HCm;generalize Qc7 x ⟨y0,y1,y2,y3⟩=c at *
     obtain ⟨x0,x1,x2,x3⟩:=x;obtain ⟨d0,d1,d2,d3⟩:=hx;obtain ⟨f0,f1,f2,f3⟩:=HX.out W1 (Below.refl _ _);simp only [Bl.cells] at d0 d1 d2 d3 f0 f1 f2 f3 HCm;have hbW:b<W1.heap.size:=Nat.lt_of_lt_of_le hb HB1.out.size;have hBW:=HSz.out;have HK:Hid (∀ W V,Below W.heap.size W V→b<W.heap.size→B<W.heap.size→(W.cell? ⟨b,off+m*4,none⟩=some (.int .i64 x0)∧W.cell? ⟨b,off+m*4+1,none⟩=some (.string x1)∧W.cell? ⟨b,off+m*4+2,none⟩=some (.string x2)∧W.cell? ⟨b,off+m*4+3,none⟩=some (.int .i64 x3))∧W.cell? ⟨B,0,none⟩=some (.int .i64 y0)∧W.cell? ⟨B,1,none⟩=some (.string y1)∧W.cell? ⟨B,2,none⟩=some (.string y2)∧W.cell? ⟨B,3,none⟩=some (.int .i64 y3)→(V.cell? ⟨b,off+m*4,none⟩=some (.int .i64 x0)∧V.cell? ⟨b,off+m*4+1,none⟩=some (.string x1)∧V.cell? ⟨b,off+m*4+2,none⟩=some (.string x2)∧V.cell? ⟨b,off+m*4+3,none⟩=some (.int .i64 x3))∧V.cell? ⟨B,0,none⟩=some (.int .i64 y0)∧V.cell? ⟨B,1,none⟩=some (.string y1)∧V.cell? ⟨B,2,none⟩=some (.string y2)∧V.cell? ⟨B,3,none⟩=some (.int .i64 y3)):=fun W V hB hlt hlt2 hh=>by
      have C:∀ o,V.cell? ⟨b,o,none⟩=W.cell? ⟨b,o,none⟩:=fun o=>hB.cell (p:=⟨b,o,none⟩) hlt
      have C2:∀ o,V.cell? ⟨B,o,none⟩=W.cell? ⟨B,o,none⟩:=fun o=>hB.cell (p:=⟨B,o,none⟩) hlt2
      simp only [C,C2];exact hh
     have j0:(0:Int)≤m:=by omega
     have j1:(m:Int)+1<l.length:=by omega
     have j2:(m:Int)<l.length:=by omega
     have i6:(m:Int)+1 - 1=m:=by omega
     have i7:((m:Int)+1).toNat=m+1:=by omega
     have i8:(0:Int)≤(m:Int)+1:=by omega
     have i9:(0:Int)<(m:Int)+1:=by omega
     have iw1:IntKind.i64.wrap (m:Int)=m:=by
      simp only [IntKind.wrap,IntKind.bits,IntKind.signed];simp;omega
     have iw2:IntKind.i64.wrap ((m:Int)+1 - 1)=m:=by rw [i6,iw1]
     clear HX HC HYY HB1 HL HSz H0 Hres i0 i3;go_wp2_with fail;go_region_held3 (fun u=>(u.cell? ⟨b,off+m*4,none⟩=some (.int .i64 x0)∧u.cell? ⟨b,off+m*4+1,none⟩=some (.string x1)∧u.cell? ⟨b,off+m*4+2,none⟩=some (.string x2)∧u.cell? ⟨b,off+m*4+3,none⟩=some (.int .i64 x3))∧u.cell? ⟨B,0,none⟩=some (.int .i64 y0)∧u.cell? ⟨B,1,none⟩=some (.string y1)∧u.cell? ⟨B,2,none⟩=some (.string y2)∧u.cell? ⟨B,3,none⟩=some (.int .i64 y3)) (go_keep) (first | (go_at_call 101;refine (HCm.out _).mono ?_;rintro e w' ⟨rfl,hb'⟩;obtain ⟨⟨p0,p1,p2,p3⟩,p4,p5,p6,p7⟩:=HK.out _ _ hb' (by simpa using hbW) (by simpa using hBW) (by simpa using ⟨⟨d0,d1,d2,d3⟩,f0,f1,f2,f3⟩)))
     all_goals
      go_wp2;go_meet
      case rel=>exact ⟨by rw [HER.out],(Below.refl _ _).drew.trans hb'⟩
   case rest=>
    obtain ⟨rfl,HBc⟩:=hcut;obtain ⟨f0,f1,f2,f3⟩:=HX.out wc HBc.out;have HBw:Hid (Below w.heap.size w wc):=HB1.out.trans (HBc.out.mono HB1.out.size);have HIs:Hid (Calls prog 98 #[.int .i64 y3,.int .i64 1000000000000000000] wc fun e w'=>e=.returned (.bool (decide (-1000000000000000000≤y3∧y3≤1000000000000000000)))∧w'=wc):=Qgd y3 1000000000000000000 (by decide) wc
    have HA:Hid (chkAt l k=if 0<k∧¬ Qc7 (l.getD (k - 1) bl0) ⟨y0,y1,y2,y3⟩<0 then 5 else if ¬ (-1000000000000000000≤y3∧y3≤1000000000000000000) then 1 else if y3=0 then 3 else 0):=by
     unfold chkAt;rw [HYY.out];exact rfl
    have HRet:Hid (∀ c,c≠0→chkAt l k=c→res=enE c):=fun c h0 h1=>by
     rw [← Hres.out,chkTo_first H0.out (by rw [h1];exact h0) hlt,h1]
    clear HX HBc HB1 HC HYY HL;by_cases c1:0<k∧¬ Qc7 (l.getD (k - 1) bl0) ⟨y0,y1,y2,y3⟩<0
    ·have e5:res=enE 5:=HRet.out 5 (by decide) (by rw [HA.out,if_pos c1])
     rw [decide_eq_true c1];rw [QaF (by decide)] at e5
     subst e5;clear HA HRet c1 Hres;go_wp2;go_ret;exact ⟨rfl,HBw.out⟩
    ·rw [decide_eq_false c1];by_cases c2:-1000000000000000000≤y3∧y3≤1000000000000000000
     ·rw [decide_eq_true c2] at HIs;by_cases c3:y3=0
      ·have e5:res=enE 3:=HRet.out 3 (by decide) (by rw [HA.out,if_neg c1,if_neg (by simpa using c2),if_pos c3])
       rw [QaF (by decide)] at e5
       subst e5;subst c3;clear HA HRet c1 Hres c2;go_wp2_with (go_at_call 98;refine HIs.out.mono ?_;rintro e w' ⟨rfl,rfl⟩);go_ret;exact ⟨rfl,HBw.out⟩
      ·have e0:Qev l (k+1)=0:=by
        unfold Qev;rw [if_neg (by simp [H0.out]),HA.out,if_neg c1,if_neg (by simpa using c2),if_neg c3]
       have HE:Hid (Qev l (k+1)=0):=e0;have c3':(y3 == 0)=false:=by rw [beq_eq_false_iff_ne];exact c3
       clear HA HRet c1 e0 c2;go_wp2_with (go_at_call 98;refine HIs.out.mono ?_;rintro e w' ⟨rfl,rfl⟩);go_roundw
       case rel=>exact ⟨k+1,by omega,by go_num,HE,HBw⟩
       case measure=>simp [RowKit.intOf];omega
     ·rw [decide_eq_false c2] at HIs;have e5:res=enE 1:=HRet.out 1 (by decide) (by rw [HA.out,if_neg c1,if_pos c2])
      rw [QaF (by decide)] at e5
      subst e5;clear HA HRet c1 Hres;go_wp2_with (go_at_call 98;refine HIs.out.mono ?_;rintro e w' ⟨rfl,rfl⟩);go_ret;exact ⟨rfl,HBw.out⟩
  ·have hk2:k=l.length:=by omega
   subst hk2;have e5:res=enE 0:=by rw [← Hres.out,H0.out]
   rw [QbE] at e5;subst e5;clear Hres;go_wp2;go_ret;exact ⟨rfl,HB.out⟩
end
section
open Go.RowKit Go.Lib Go.Proofs.Tryz
def hasB (en:Int) (acc cur:ByteArray) (x:Bl):Bool:=decide (x.ent=en) && (decide (x.acc=acc) && decide (x.cur=cur))
def QdS (b:List Bl) (en:Int) (acc cur:ByteArray):Int:=(b.find? (hasB en acc cur)).elim 0 Bl.amt
def Qhy (p:Bl→Bool):Nat→List Bl→Int
 | _,[]=>-1
 | k,a :: l=>if p a=true then (k:Int) else Qhy p (k+1) l
theorem fidx_spec (p:Bl→Bool):∀ (l:List Bl) (k:Nat),(Qhy p k l = -1∧l.find? p=none)∨∃ j,j<l.length∧Qhy p k l=((k+j:Nat):Int)∧l.find? p=some (l.getD j bl0)
 | [],k=>.inl ⟨rfl,rfl⟩
 | x :: l,k=>by
  cases h:p x
  ·rcases fidx_spec p l (k+1) with ⟨e,ha⟩ | ⟨j,hj,e,ha⟩
   ·exact .inl ⟨by rw [Qhy,if_neg (by simp [h]),e],by rw [List.find?_cons_of_neg (by simp [h]),ha]⟩
   ·exact .inr ⟨j+1,by simpa using hj,by rw [Qhy,if_neg (by simp [h]),e];congr 1;omega,by rw [List.find?_cons_of_neg (by simp [h]),ha];rfl⟩
  ·exact .inr ⟨0,by simp,by rw [Qhy,if_pos h];simp,by rw [List.find?_cons_of_pos h];rfl⟩
structure BTells2 (g:Nat) (u v:Value) (p:Bl→Bool) (w:World):Prop where
 eg:∀ args W,(callFunc g args).run prog W=.ok (.enter g args) W
 call:∀ (x:Bl) W,Below w.heap.size w W→Calls prog g #[.agg x.cells,u,v] W fun e w'=>e=.returned (.bool (p x))∧Below W.heap.size W w'
set_option maxHeartbeats 1000000 in
theorem fidx_some (g:Nat) (u v:Value) (p:Bl→Bool) (b off cap:Nat) (l:List Bl) (w:World) (hp:BTells2 g u v p w) (hb:b<w.heap.size) (hlen:(l.length:Int)≤9223372036854775807) (hc:BlsAt w b off l) :
  Calls prog 168 #[.slice (some ⟨b,off,none⟩) l.length cap,.func (.func g) #[] #[u,v]] w fun e w'=>e=.returned (.int .i64 (Qhy p 0 l))∧Below w.heap.size w w':=by
 have eg:=hp.eg;have Hp:Hid (BTells2 g u v p w):=hp;have Hc:Hid (BlsAt w b off l):=hc;clear hp hc;obtain ⟨res,hres⟩:∃ res,Qhy p 0 l=res:=⟨_,rfl⟩;have Hres:Hid (Qhy p 0 l=res):=hres;rw [hres];clear hres;go_enter func168,ntmps168
 go_wp2;go_loopw [8] (fun i wr=>∃ k:Nat,k≤l.length∧i=.int .i64 k∧Hid (Qhy p k (l.drop k)=res)∧Below w.heap.size w wr) (fun i _=>l.length - (RowKit.intOf i).toNat)
 case atStart=>exact ⟨0,Nat.zero_le _,rfl,Hres.out,Below.refl _ _⟩
 case round=>
  obtain ⟨k,hk,rfl,H,BW⟩:=hrel;by_cases hlt:k<l.length
  ·have hn:=(Hc.out k hlt).below BW hb;have hcall:=Hp.out.call (l.getD k bl0) wr BW;have E:Hid ((if p (l.getD k bl0)=true then (k:Int) else Qhy p (k+1) (l.drop (k+1)))=res):=by
    have:=H.out
    rw [bls_drop l k hlt] at this;exact this
   clear H;generalize l.getD k bl0=a at *
   obtain ⟨a0,a1,a2,a3⟩:=a;obtain ⟨c0,c1,c2,c3⟩:=hn;simp only [Bl.cells] at c0 c1 c2 c3 hcall;have i0:(0:Int)≤k:=by omega
   have i1:(k:Int)<l.length:=by omega
   cases hq:p ⟨a0,a1,a2,a3⟩
   ·rw [hq] at hcall;have HN:Hid (Qhy p (k+1) (l.drop (k+1))=res):=by
     have:=E.out;rw [if_neg (by rw [hq];simp)] at this;exact this
    go_wp2_with (go_at_fn g;refine hcall.mono ?_;rintro e w' ⟨rfl,hb'⟩);go_roundw
    case rel=>exact ⟨k+1,by omega,by go_num,HN,BW.trans (hb'.mono BW.size)⟩
    case measure=>simp [RowKit.intOf];omega
   ·rw [hq] at hcall;have er:res=k:=by rw [← E.out,if_pos hq]
    subst er;go_wp2_with (go_at_fn g;refine hcall.mono ?_;rintro e w' ⟨rfl,hb'⟩);go_ret;exact ⟨rfl,BW.trans (hb'.mono BW.size)⟩
  ·have hk2:k=l.length:=by omega
   subst hk2;have er:res = -1:=by rw [← H.out,List.drop_length];rfl
   subst er;go_wp2;go_ret;exact ⟨rfl,BW⟩
theorem fidx_nil (a:Option Addr) (cap:Nat) (f:Value) (w:World) :
  Calls prog 168 #[.slice a 0 cap,f] w fun e w'=>e=.returned (.int .i64 (-1))∧Below w.heap.size w w':=by
 go_enter func168,ntmps168
 go_wp2;refine wp_loop_rounds 1 ?_;rw [rounds_succ];go_wp2;go_ret;exact ⟨rfl,Below.refl _ _⟩
theorem fidx_any (g:Nat) (u v:Value) (p:Bl→Bool) (a:Option Addr) (cap:Nat) (l:List Bl) (w:World) (hp:BTells2 g u v p w) (hlen:(l.length:Int)≤9223372036854775807) (h:Qcn w a l cap) :
  Calls prog 168 #[.slice a l.length cap,.func (.func g) #[] #[u,v]] w fun e w'=>e=.returned (.int .i64 (Qhy p 0 l))∧Below w.heap.size w w':=by
 rcases h.lies with rfl | ⟨b,off,rfl,hlt,hc⟩
 ·exact fidx_nil a cap _ w
 ·exact fidx_some g u v p b off cap l w hp hlt hlen hc
theorem fidx_has (p:Bl→Bool):∀ (l:List Bl) (k:Nat),decide (0≤Qhy p k l)=l.any p
 | [],k=>by simp [Qhy]
 | x :: l,k=>by
  rw [Qhy];cases h:p x
  ·rw [if_neg (by simp),fidx_has p l (k+1)];simp [h]
  ·rw [if_pos rfl];simp [h]
theorem fContains_any (g:Nat) (u v:Value) (p:Bl→Bool) (a:Option Addr) (cap:Nat) (l:List Bl) (w:World) (hp:BTells2 g u v p w) (hlen:(l.length:Int)≤9223372036854775807) (h:Qcn w a l cap) :
  Calls prog 135 #[.slice a l.length cap,.func (.func g) #[] #[u,v]] w fun e w'=>e=.returned (.bool (l.any p))∧Below w.heap.size w w':=by
 rw [← fidx_has p l 0];have hI:=fidx_any g u v p a cap l w hp hlen h;clear h hp;go_enter func135,ntmps135
 go_wp2_with fail;refine hI.mono ?_;rintro e w' ⟨rfl,hb⟩;go_wp2;go_ret;exact ⟨rfl,hb⟩
end
section
open Go.RowKit Go.Lib Go.Proofs.Tryz
structure BTells3 (g:Nat) (u v z:Value) (p:Bl→Bool) (w:World):Prop where
 eg:∀ args W,(callFunc g args).run prog W=.ok (.enter g args) W
 call:∀ (x:Bl) W,Below w.heap.size w W→Calls prog g #[.agg x.cells,u,v,z] W fun e w'=>e=.returned (.bool (p x))∧Below W.heap.size W w'
set_option maxHeartbeats 1000000 in
theorem fidx3_some (g:Nat) (u v z:Value) (p:Bl→Bool) (b off cap:Nat) (l:List Bl) (w:World) (hp:BTells3 g u v z p w) (hb:b<w.heap.size) (hlen:(l.length:Int)≤9223372036854775807) (hc:BlsAt w b off l) :
  Calls prog 168 #[.slice (some ⟨b,off,none⟩) l.length cap,.func (.func g) #[] #[u,v,z]] w fun e w'=>e=.returned (.int .i64 (Qhy p 0 l))∧Below w.heap.size w w':=by
 have eg:=hp.eg;have Hp:Hid (BTells3 g u v z p w):=hp;have Hc:Hid (BlsAt w b off l):=hc;clear hp hc;obtain ⟨res,hres⟩:∃ res,Qhy p 0 l=res:=⟨_,rfl⟩;have Hres:Hid (Qhy p 0 l=res):=hres;rw [hres];clear hres;go_enter func168,ntmps168
 go_wp2;go_loopw [8] (fun i wr=>∃ k:Nat,k≤l.length∧i=.int .i64 k∧Hid (Qhy p k (l.drop k)=res)∧Below w.heap.size w wr) (fun i _=>l.length - (RowKit.intOf i).toNat)
 case atStart=>exact ⟨0,Nat.zero_le _,rfl,Hres.out,Below.refl _ _⟩
 case round=>
  obtain ⟨k,hk,rfl,H,BW⟩:=hrel;by_cases hlt:k<l.length
  ·have hn:=(Hc.out k hlt).below BW hb;have hcall:=Hp.out.call (l.getD k bl0) wr BW;have E:Hid ((if p (l.getD k bl0)=true then (k:Int) else Qhy p (k+1) (l.drop (k+1)))=res):=by
    have:=H.out
    rw [bls_drop l k hlt] at this;exact this
   clear H;generalize l.getD k bl0=a at *
   obtain ⟨a0,a1,a2,a3⟩:=a;obtain ⟨c0,c1,c2,c3⟩:=hn;simp only [Bl.cells] at c0 c1 c2 c3 hcall;have i0:(0:Int)≤k:=by omega
   have i1:(k:Int)<l.length:=by omega
   cases hq:p ⟨a0,a1,a2,a3⟩
   ·rw [hq] at hcall;have HN:Hid (Qhy p (k+1) (l.drop (k+1))=res):=by
     have:=E.out;rw [if_neg (by rw [hq];simp)] at this;exact this
    go_wp2_with (go_at_fn g;refine hcall.mono ?_;rintro e w' ⟨rfl,hb'⟩);go_roundw
    case rel=>exact ⟨k+1,by omega,by go_num,HN,BW.trans (hb'.mono BW.size)⟩
    case measure=>simp [RowKit.intOf];omega
   ·rw [hq] at hcall;have er:res=k:=by rw [← E.out,if_pos hq]
    subst er;go_wp2_with (go_at_fn g;refine hcall.mono ?_;rintro e w' ⟨rfl,hb'⟩);go_ret;exact ⟨rfl,BW.trans (hb'.mono BW.size)⟩
  ·have hk2:k=l.length:=by omega
   subst hk2;have er:res = -1:=by rw [← H.out,List.drop_length];rfl
   subst er;go_wp2;go_ret;exact ⟨rfl,BW⟩
theorem fidx3_nil (a:Option Addr) (cap:Nat) (f:Value) (w:World) :
  Calls prog 168 #[.slice a 0 cap,f] w fun e w'=>e=.returned (.int .i64 (-1))∧Below w.heap.size w w':=by
 go_enter func168,ntmps168
 go_wp2;refine wp_loop_rounds 1 ?_;rw [rounds_succ];go_wp2;go_ret;exact ⟨rfl,Below.refl _ _⟩
theorem fidx3_any (g:Nat) (u v z:Value) (p:Bl→Bool) (a:Option Addr) (cap:Nat) (l:List Bl) (w:World) (hp:BTells3 g u v z p w) (hlen:(l.length:Int)≤9223372036854775807) (h:Qcn w a l cap) :
  Calls prog 168 #[.slice a l.length cap,.func (.func g) #[] #[u,v,z]] w fun e w'=>e=.returned (.int .i64 (Qhy p 0 l))∧Below w.heap.size w w':=by
 rcases h.lies with rfl | ⟨b,off,rfl,hlt,hc⟩
 ·exact fidx3_nil a cap _ w
 ·exact fidx3_some g u v z p b off cap l w hp hlt hlen hc
set_option maxHeartbeats 2000000 in
theorem has1_any (x:Bl) (en:Int) (acc cur:ByteArray) (B1 B2 B3:Nat) (w:World) (h1:B1<w.heap.size) (h2:B2<w.heap.size) (h3:B3<w.heap.size) (hB1:w.cell? ⟨B1,0,none⟩=some (.int .i64 en)) (hB2:w.cell? ⟨B2,0,none⟩=some (.string acc)) (hB3:w.cell? ⟨B3,0,none⟩=some (.string cur)) :
  Calls prog 169 #[.agg x.cells,.pointer (some ⟨B1,0,none⟩),.pointer (some ⟨B2,0,none⟩),.pointer (some ⟨B3,0,none⟩)] w fun e w'=>e=.returned (.bool (hasB en acc cur x))∧Below w.heap.size w w':=by
 obtain ⟨x0,x1,x2,x3⟩:=x;have b0:Below w.heap.size w (w.alloc (.cells #[.int .i64 x0,.string x1,.string x2,.int .i64 x3] 63)):=(Below.refl _ w).alloc (Nat.le_refl _) _;have k1:(w.alloc (.cells #[.int .i64 x0,.string x1,.string x2,.int .i64 x3] 63)).cell? ⟨B1,0,none⟩=some (.int .i64 en):=(b0.cell (p:=⟨B1,0,none⟩) h1).trans hB1;have k2:(w.alloc (.cells #[.int .i64 x0,.string x1,.string x2,.int .i64 x3] 63)).cell? ⟨B2,0,none⟩=some (.string acc):=(b0.cell (p:=⟨B2,0,none⟩) h2).trans hB2
 have k3:(w.alloc (.cells #[.int .i64 x0,.string x1,.string x2,.int .i64 x3] 63)).cell? ⟨B3,0,none⟩=some (.string cur):=(b0.cell (p:=⟨B3,0,none⟩) h3).trans hB3;simp only [Bl.cells];clear hB1 hB2 hB3;by_cases c1:x0=en
 ·have c1':(x0 == en)=true:=by simp [c1]
  by_cases c2:x1=acc
  ·by_cases c3:x2=cur
   ·have e1:hasB en acc cur ⟨x0,x1,x2,x3⟩=true:=by simp [hasB,c1,c2,c3]
    rw [e1];subst c1;subst c2;subst c3;go_enter func169,ntmps169
    go_wp2;go_ret;exact ⟨rfl,b0⟩
   ·have e1:hasB en acc cur ⟨x0,x1,x2,x3⟩=false:=by simp [hasB,c3]
    have c3':=ch_ne c3;rw [e1];subst c1;subst c2;go_enter func169,ntmps169
    go_wp2;go_ret;exact ⟨by rw [← c3'];rfl,b0⟩
  ·have e1:hasB en acc cur ⟨x0,x1,x2,x3⟩=false:=by simp [hasB,c2]
   have c2':=ch_ne c2;rw [e1];subst c1;go_enter func169,ntmps169
   go_wp2;go_ret;exact ⟨rfl,b0⟩
 ·have e1:hasB en acc cur ⟨x0,x1,x2,x3⟩=false:=by simp [hasB,c1]
  have c1':(x0 == en)=false:=by rw [beq_eq_false_iff_ne];exact c1
  rw [e1];go_enter func169,ntmps169
  go_wp2;go_ret;exact ⟨rfl,b0⟩
theorem QhE (w:World) (v:Value) (t:TypeId):(w.alloc (.cells #[v] t)).cell? ⟨w.heap.size,0,none⟩=some v:=by simp
set_option maxHeartbeats 2000000 in
theorem ldHas_any (a:Option Addr) (cap:Nat) (b:List Bl) (en:Int) (acc cur:ByteArray) (w:World) (hlen:(b.length:Int)≤9223372036854775807) (h:Qcn w a b cap) :
  Calls prog 132 #[.slice a b.length cap,.int .i64 en,.string acc,.string cur] w fun e w'=>e=.returned (.int .i64 (QdS b en acc cur))∧Below w.heap.size w w':=by
 obtain ⟨w0,hw0⟩:∃ w0,((w.alloc (.cells #[.int .i64 en] 3)).alloc (.cells #[.string acc] 9)).alloc (.cells #[.string cur] 9)=w0:=⟨_,rfl⟩;have b1:Below w.heap.size w (w.alloc (.cells #[.int .i64 en] 3)):=(Below.refl _ w).alloc (Nat.le_refl _) _;have b1':Below w.heap.size w ((w.alloc (.cells #[.int .i64 en] 3)).alloc (.cells #[.string acc] 9)):=b1.alloc b1.size _;have b2:Below w.heap.size w w0:=by rw [← hw0];exact b1'.alloc b1'.size _
 have hs:w0.heap.size=w.heap.size+3:=by rw [← hw0];simp
 have q1:=QhE w (.int .i64 en) 3;have q2:=QhE (w.alloc (.cells #[.int .i64 en] 3)) (.string acc) 9;have q3:=QhE ((w.alloc (.cells #[.int .i64 en] 3)).alloc (.cells #[.string acc] 9)) (.string cur) 9;have z1:(w.alloc (.cells #[.int .i64 en] 3)).heap.size=w.heap.size+1:=by simp
 have z2:((w.alloc (.cells #[.int .i64 en] 3)).alloc (.cells #[.string acc] 9)).heap.size=w.heap.size+2:=by simp
 have k3:w0.cell? ⟨w.heap.size+2,0,none⟩=some (.string cur):=by rw [← hw0,← z2];exact q3
 have k2:w0.cell? ⟨w.heap.size+1,0,none⟩=some (.string acc):=by
  rw [← hw0,← z1];exact (((Below.refl _ _).alloc (Nat.le_refl _) _:Below _ ((w.alloc (.cells #[.int .i64 en] 3)).alloc (.cells #[.string acc] 9)) _).cell (p:=⟨_,0,none⟩) (by simp)).trans q2
 have k1:w0.cell? ⟨w.heap.size,0,none⟩=some (.int .i64 en):=by
  have d1:Below (w.heap.size+1) (w.alloc (.cells #[.int .i64 en] 3)) ((w.alloc (.cells #[.int .i64 en] 3)).alloc (.cells #[.string acc] 9)):=(Below.refl _ _).alloc (by simp) _
  have d2:=d1.alloc (by simp) (.cells #[.string cur] 9)
  rw [← hw0];exact (d2.cell (p:=⟨w.heap.size,0,none⟩) (by show w.heap.size<_;omega)).trans q1
 have T:BTells3 169 (.pointer (some ⟨w.heap.size,0,none⟩)) (.pointer (some ⟨w.heap.size+1,0,none⟩)) (.pointer (some ⟨w.heap.size+2,0,none⟩)) (hasB en acc cur) w0:=by
  refine ⟨fun args W=>Qf9 func169 (by kernel_rfl) ⟨_,rfl⟩ args W,fun x W hW=>?_⟩
  have hsz:=hW.size;exact has1_any x en acc cur w.heap.size (w.heap.size+1) (w.heap.size+2) W (by omega) (by omega) (by omega) ((hW.cell (p:=⟨w.heap.size,0,none⟩) (by show w.heap.size<_;omega)).trans k1) ((hW.cell (p:=⟨w.heap.size+1,0,none⟩) (by show w.heap.size+1<_;omega)).trans k2) ((hW.cell (p:=⟨w.heap.size+2,0,none⟩) (by show w.heap.size+2<_;omega)).trans k3)
 have HI:Hid (Calls _ _ _ _ _):=fidx3_any _ _ _ _ _ a cap b w0 T hlen (h.below b2);obtain ⟨res,hres⟩:∃ res,QdS b en acc cur=res:=⟨_,rfl⟩;have Hres:Hid (QdS b en acc cur=res):=hres;rw [hres];have HW0:Hid (_=w0):=hw0;have HB2:Hid (Below w.heap.size w w0):=b2;have HH:Hid (Qcn w a b cap):=h;clear hres T h hw0 b1 b2 b1' hs q1 q2 q3 z1 z2 k1 k2 k3;rcases fidx_spec (hasB en acc cur) b 0 with ⟨e1,e2⟩ | ⟨j,hj,e1,e2⟩
 ·have er:res=0:=by rw [← Hres.out];unfold QdS;rw [e2];rfl
  subst er;rw [e1] at HI;clear e1 e2 Hres HH;go_enter func132,ntmps132
  go_upto_region 1 with fail
  rw [HW0.out];go_wp2_with (go_at_call 168;refine HI.out.mono ?_;rintro e w1 ⟨rfl,hb1⟩);go_ret;exact ⟨rfl,HB2.out.trans (hb1.mono HB2.out.size)⟩
 ·have er:res=(b.getD j bl0).amt:=by rw [← Hres.out];unfold QdS;rw [e2];rfl
  rw [e1,Nat.zero_add] at HI;obtain ⟨bb,off,rfl,hlt,hc⟩:=HH.out.some hj;have HC:Hid (∀ W,Below w.heap.size w W→W.cell? ⟨bb,off+j*4+3,none⟩=some (.int .i64 res)):=fun W hW=>by
   rw [er];exact ((hc j hj).below hW hlt).c3
  have j0:(0:Int)≤j:=by omega
  have j1:(j:Int)<b.length:=by omega
  have j2:¬ (j:Int)<0:=by omega
  clear e1 e2 Hres HH er hc;go_enter func132,ntmps132
  go_upto_region 1 with fail
  rw [HW0.out];go_wp2_with fail;refine HI.out.mono ?_;rintro e w1 ⟨rfl,hb1⟩;have B3:=HB2.out.trans (hb1.mono HB2.out.size);have c3:=HC.out w1 B3;clear HC HI hb1 HB2 HW0;go_wp2;go_ret;exact ⟨rfl,B3⟩
end
section
open Go.RowKit Go.Lib Go.Proofs.Tryz
end
end Go.Proofs.YtjifbbdkpanagaaGreatDoor
