/-
  Part of a proof (see the last text).
-/
import Derived.Test.YtjifbbdkpanagaaGreatDoorZd2
import Derived.Test.YtjifbbdkpanagaaGreatDoorZd4
set_option linter.unusedVariables false
set_option linter.unusedSimpArgs false
set_option maxRecDepth 100000
namespace Go.Proofs.YtjifbbdkpanagaaGreatDoor
section
open Go.RowKit Go.Lib Go.Proofs.Tryz
def other (r:Nat):Bool:=decide (r<65) || decide (90<r)
def QaY (s:ByteArray):Nat→Nat→Int
 | 0,_=>-1
 | f+1,pos=>if pos<s.size then (if other (Utf8.decode s pos).1=true then (pos:Int) else QaY s f (pos+(Utf8.decode s pos).2)) else -1
theorem otherFrom_end (s:ByteArray) (f pos:Nat) (h:¬ pos<s.size):QaY s f pos = -1:=by cases f <;> simp [QaY,h]
def Qat (s:ByteArray):Bool:=s.size == 3 && decide (QaY s s.size 0<0)
theorem Qhv (r:Nat) (w:World) :
  Calls prog 78 #[.int .i32 r] w fun e w'=>e=.returned (.bool (other r))∧w'=w:=by
 by_cases h1:(r:Int)<65
 ·go_enter func78,ntmps78
  go_wp2;go_ret;refine ⟨?_,rfl⟩
  have:other r=true:=by simp [other];omega
  rw [this];rfl
 ·go_enter func78,ntmps78
  go_wp2;go_ret;refine ⟨?_,rfl⟩
  have:other r=decide ((90:Int)<r):=by
   have e1:decide (r<65)=false:=by simp;omega
   have e2:decide (90<r)=decide ((90:Int)<r):=by simp;omega
   unfold other;rw [e1,e2];rfl
  rw [this];rfl
set_option maxHeartbeats 1000000 in
theorem indexFunc_any (s:ByteArray) (w:World) :
  Calls prog 159 #[.string s,.func (.func 78) #[] #[],.bool true] w fun e w'=>e=.returned (.int .i64 (QaY s s.size 0))∧Below w.heap.size w w':=by
 go_enter func159,ntmps159
 go_wp2;go_loopg [] s.size (fun gf wx=>∃ pos:Nat,wx.heap[w.heap.size]? = some (.stringIter s pos)∧Below w.heap.size w wx∧QaY s gf pos=QaY s s.size 0∧s.size≤pos+gf)
 case atStart=>exact ⟨0,World.iter_heap w s 0,(Below.refl _ w).alloc (Nat.le_refl _) _,rfl,by omega⟩
 case round=>
  obtain ⟨pos,hit,hbw,hleft,hfu⟩:=hrel;by_cases hps:pos<s.size
  ·obtain ⟨g',rfl⟩:∃ g',gk=g'+1:=⟨gk - 1,by omega⟩
   have hnx:∀ ty,(Instr.next (.pointer (some ⟨w.heap.size,0,none⟩)) true ty).run prog wr=_:=fun ty=>Lib.run_next_any_at wr w.heap.size s pos ty hit hps
   have hwd:=Lib.width_pos s pos;obtain ⟨R,hR⟩:∃ R,(Utf8.decode s pos).1=R:=⟨_,rfl⟩;obtain ⟨K,hK⟩:∃ K,(Utf8.decode s pos).2=K:=⟨_,rfl⟩;simp only [QaY,hps,if_true,hR,hK] at hleft;rw [hR,hK] at hnx;rw [hK] at hwd;have hit2:=Lib.iterAt_heap wr w.heap.size s pos (pos+K) hit;have hbw2:=Lib.below_iterAt hbw (k:=w.heap.size) (Nat.le_refl _) s (pos+K);obtain ⟨W,hWd⟩:∃ W,wr.iterAt w.heap.size s (pos+K)=W:=⟨_,rfl⟩
   rw [hWd] at hnx hit2 hbw2;cases hsp:other R <;> simp only [hsp,if_true,Bool.false_eq_true,if_false] at hleft
   ·go_wp2_with (go_at_call 78;refine (Qhv R _).mono ?_;rintro e W' ⟨rfl,rfl⟩;rw [hsp]);go_roundg g'
    case measure=>omega
    case rel=>exact ⟨pos+K,hit2,hbw2,hleft,by omega⟩
   ·go_wp2_with (go_at_call 78;refine (Qhv R _).mono ?_;rintro e W' ⟨rfl,rfl⟩;rw [hsp]);go_ret;exact ⟨by rw [← hleft];rfl,hbw2⟩
  ·have hnx:∀ ty,(Instr.next (.pointer (some ⟨w.heap.size,0,none⟩)) true ty).run prog wr=_:=fun ty=>Lib.run_next_end_at wr w.heap.size s pos ty hit hps
   rw [otherFrom_end s gk pos hps] at hleft;go_wp2;go_ret;exact ⟨by rw [← hleft];rfl,hbw⟩
theorem Qgt (s:ByteArray) (w:World) :
  Calls prog 77 #[.string s,.func (.func 78) #[] #[]] w fun e w'=>e=.returned (.bool (decide (0≤QaY s s.size 0)))∧Below w.heap.size w w':=by
 have hI:Calls prog 117 #[.string s,.func (.func 78) #[] #[]] w fun e w'=>e=.returned (.int .i64 (QaY s s.size 0))∧Below w.heap.size w w':=by
  go_enter func117,ntmps117
  go_wp2_with fail;refine (indexFunc_any s _).mono ?_;rintro e w' ⟨rfl,hb⟩;go_wp2;go_ret;exact ⟨rfl,hb⟩
 go_enter func77,ntmps77
 go_wp2_with fail;refine hI.mono ?_;rintro e w' ⟨rfl,hb⟩;go_wp2;go_ret;exact ⟨rfl,hb⟩
theorem Qdg (s:ByteArray) (w:World) :
  Calls prog 45 #[.string s] w fun e w'=>e=.returned (.bool (Qat s))∧Below w.heap.size w w':=by
 by_cases h:s.size=3
 ·have h':((s.size:Int) == 3)=true:=by simp;omega
  go_enter func45,ntmps45
  go_wp2_with fail;refine (Qgt s _).mono ?_;rintro e w' ⟨rfl,hb⟩;have e1:Qat s=!decide (0≤QaY s s.size 0):=by
   have e2:(s.size == 3)=true:=by simp [h]
   have e3:decide (QaY s s.size 0<0)=!decide (0≤QaY s s.size 0):=by
    by_cases h0:0≤QaY s s.size 0
    ·rw [decide_eq_true h0,decide_eq_false (by omega)];rfl
    ·rw [decide_eq_false h0,decide_eq_true (by omega)];rfl
   unfold Qat;rw [e2,e3];rfl
  rw [h] at e1;go_wp2;go_ret;exact ⟨by rw [e1];rfl,hb⟩
 ·have h':((s.size:Int) == 3)=false:=by simp;omega
  have e1:Qat s=false:=by
   have e2:(s.size == 3)=false:=by simp [h]
   unfold Qat;rw [e2];rfl
  go_enter func45,ntmps45
  go_wp2;go_ret;exact ⟨by rw [e1];rfl,Below.refl _ _⟩
theorem QgJ (n m:Int) (w:World) :
  Calls prog 158 #[.int .i64 n,.int .i64 m] w fun e w'=>e=.returned (.bool (Qav n m))∧w'=w:=by
 by_cases h:1≤n
 ·have e1:Qav n m=decide (n≤m):=by simp [Qav,h]
  go_enter func158,ntmps158
  go_wp2;go_ret;exact ⟨by rw [e1];rfl,rfl⟩
 ·have e1:Qav n m=false:=by simp [Qav,h]
  go_enter func158,ntmps158
  go_wp2;go_ret;exact ⟨rfl,rfl⟩
end
section
open Go.RowKit Go.Lib Go.Proofs.Tryz
def Qbc (r:ByteArray) (en pe:Int) (n:Nat):Int:=
 if Qdt r=false then 2 else if Qav en 12=false∨Qav pe 120=false then 1 else if n<2 then 3 else if 20<n then 4 else 0
set_option maxHeartbeats 2000000 in
theorem checkHead_any (r:ByteArray) (en pe:Int) (a:Option Addr) (cap n:Nat) (w:World) :
  Calls prog 79 #[.agg #[.string r,.int .i64 en,.int .i64 pe,.slice a n cap]] w fun e w'=>e=.returned (enE (Qbc r en pe n))∧Below w.heap.size w w':=by
 have b0:Below w.heap.size w (w.alloc (.cells #[.string r,.int .i64 en,.int .i64 pe,.slice a n cap] 59)):=(Below.refl _ w).alloc (Nat.le_refl _) _;have x0:=QcU.new w r en pe (.slice a n cap);have hs0:(w.alloc (.cells #[.string r,.int .i64 en,.int .i64 pe,.slice a n cap] 59)).heap.size=w.heap.size+1:=by simp
 have HI:Hid (∀ W,Below w.heap.size w W→Calls prog 118 #[.string r] W fun e w'=>e=.returned (.bool (Qdt r))∧Below W.heap.size W w'):=fun W _=>isRef_any r W
 obtain ⟨res,hres⟩:∃ res,Qbc r en pe n=res:=⟨_,rfl⟩;rw [hres];have Hres:Hid (Qbc r en pe n=res):=hres;clear hres;cases hr:Qdt r
 ·rw [hr] at HI;have er:res=2:=by rw [← Hres.out];simp [Qbc,hr]
  subst er;go_enter func79,ntmps79
  go_wp2_with fail;refine (HI.out _ b0).mono ?_;rintro e w1 ⟨rfl,hb1⟩;have B1:=b0.trans (hb1.mono (by simp))
  clear HI hb1;go_wp2;go_ret;exact ⟨rfl,B1⟩
 rw [hr] at HI;go_enter func79,ntmps79
 go_wp2_with fail;refine (HI.out _ b0).mono ?_;rintro e w1 ⟨rfl,hb1⟩;rw [hs0] at hb1;have B1:=b0.trans (hb1.mono (by omega))
 have y1:=x0.below hb1 (by omega)
 have c1:=y1.c1;have c2:=y1.c2;have c3:=y1.c3;clear HI hb1 b0 x0 hs0 y1;have HU1:=QcG en w1;have HU2:=QbL pe w1;cases h1:Qav en 12
 ·have er:res=1:=by rw [← Hres.out];simp [Qbc,hr,h1]
  subst er;rw [h1] at HU1;go_wp2_with (go_at_call 119;refine HU1.mono ?_;rintro e w' ⟨rfl,rfl⟩);go_ret;exact ⟨rfl,B1⟩
 rw [h1] at HU1;cases h2:Qav pe 120
 ·have er:res=1:=by rw [← Hres.out];simp [Qbc,hr,h1,h2]
  subst er;rw [h2] at HU2;go_wp2_with fail;refine HU1.mono ?_;rintro e w' ⟨rfl,rfl⟩;go_wp2_with fail;refine HU2.mono ?_;rintro e w' ⟨rfl,rfl⟩;go_wp2;go_ret;exact ⟨rfl,B1⟩
 rw [h2] at HU2;by_cases h3:n<2
 ·have er:res=3:=by rw [← Hres.out];simp [Qbc,hr,h1,h2,h3]
  subst er;have h3':(n:Int)<2:=by omega
  go_wp2_with fail;refine HU1.mono ?_;rintro e w' ⟨rfl,rfl⟩;go_wp2_with fail;refine HU2.mono ?_;rintro e w' ⟨rfl,rfl⟩;go_wp2;go_ret;exact ⟨rfl,B1⟩
 have h3':¬ (n:Int)<2:=by omega
 by_cases h4:20<n
 ·have er:res=4:=by rw [← Hres.out];simp [Qbc,hr,h1,h2,h3,h4]
  subst er;have h4':(20:Int)<n:=by omega
  go_wp2_with fail;refine HU1.mono ?_;rintro e w' ⟨rfl,rfl⟩;go_wp2_with fail;refine HU2.mono ?_;rintro e w' ⟨rfl,rfl⟩;go_wp2;go_ret;exact ⟨rfl,B1⟩
 ·have er:res=0:=by rw [← Hres.out];simp [Qbc,hr,h1,h2,h3,h4]
  subst er;have h4':¬ (20:Int)<n:=by omega
  go_wp2_with fail;refine HU1.mono ?_;rintro e w' ⟨rfl,rfl⟩;go_wp2_with fail;refine HU2.mono ?_;rintro e w' ⟨rfl,rfl⟩;go_wp2;go_ret;exact ⟨rfl,B1⟩
def QdC (c:List Ac) (x:Ln):Int:=
 if QgN (QaG x.acc) c<0 then 6 else if memB x.acc (lvs c)=false then 12 else if Qat x.cur=false then 2 else if x.amt=0∨QaJ x.amt=false then 1 else 0
theorem QiY (c:List Ac) (x:Ln):QdC c x=if Qaa c x.acc≠0 then Qaa c x.acc else if Qat x.cur=false then 2 else if x.amt=0∨QaJ x.amt=false then 1 else 0:=by
 unfold QdC Qaa;by_cases h1:QgN (QaG x.acc) c<0
 ·simp only [if_pos h1];rfl
 ·simp only [if_neg h1];cases h2:memB x.acc (lvs c)
  ·rfl
  ·rfl
set_option maxHeartbeats 2000000 in
theorem checkLine_any (c:List Ac) (B1 B2:Nat) (x:Ln) (w:World) (hL:Lfs w B1 B2 c) :
  Calls prog 80 #[.agg x.cells,.func (.func 73) #[] #[.pointer (some ⟨B1,0,none⟩),.pointer (some ⟨B2,0,none⟩)]] w fun e w'=>e=.returned (enE (QdC c x))∧Below w.heap.size w w':=by
 have eg:∀ args W,(callFunc 73 args).run prog W=.ok (.enter 73 args) W:=fun args W=>Qa8 func73 (by kernel_rfl) ⟨_,rfl⟩ args W
 have b0:Below w.heap.size w (w.alloc (.cells x.cells 56)):=(Below.refl _ w).alloc (Nat.le_refl _) _;have x0:=LnAt.new w x 56;have hs0:(w.alloc (.cells x.cells 56)).heap.size=w.heap.size+1:=by simp
 have HF:Hid (Calls _ _ _ _ _):=QgU c x.acc B1 B2 _ (hL.below b0);have HU:Hid (∀ W,Calls prog 45 #[.string x.cur] W fun e w'=>e=.returned (.bool (Qat x.cur))∧Below W.heap.size W w'):=fun W=>Qdg x.cur W
 have HA:Hid (∀ W,Calls prog 120 #[.int .i64 x.amt] W fun e w'=>e=.returned (.bool (QaJ x.amt))∧w'=W):=fun W=>QcL x.amt W
 obtain ⟨res,hres⟩:∃ res,QdC c x=res:=⟨_,rfl⟩;rw [hres];have Hres:Hid ((if Qaa c x.acc≠0 then Qaa c x.acc else if Qat x.cur=false then 2 else if x.amt=0∨QaJ x.amt=false then 1 else 0)=res):=by
  rw [← QiY];exact hres
 clear hres hL;obtain ⟨x0',x1,x2⟩:=x;simp only [Ln.cells] at b0 x0 hs0 HF Hres HU HA ⊢;generalize Qaa c x0'=lb at *
 obtain ⟨c0,c1,c2⟩:=x0;simp only [Nat.zero_add] at c0 c1 c2;by_cases h1:lb=0
 ·subst h1;rw [QbD] at HF;go_enter func80,ntmps80
  go_wp2_with fail;go_at_fn 73
  refine HF.out.mono ?_;rintro e w1 ⟨rfl,hb1⟩;rw [hs0] at hb1;have B1:=b0.trans (hb1.mono (by omega))
  have hs1:=hb1.size;rw [hs0] at hs1;have y1:=(LnAt.new w ⟨x0',x1,x2⟩ 56).below hb1 (by omega)
  clear c0 c1 c2;obtain ⟨c0,c1,c2⟩:=y1;simp only [Nat.zero_add] at c0 c1 c2;clear HF hb1 b0;go_wp2_with fail;refine (HU.out w1).mono ?_;rintro e w2 ⟨rfl,hb2⟩;have B2:=B1.trans (hb2.mono (by omega))
  have y2:=(LnAt.mk (off:=0) (x:=⟨x0',x1,x2⟩) c0 c1 c2).below hb2 (by omega)
  obtain ⟨d0,d1,d2⟩:=y2;simp only [Nat.zero_add] at d0 d1 d2;have HA1:=HA.out w2;clear HU c0 c1 c2 hb2 HA;cases h3:Qat x1
  ·have er:res=2:=by rw [← Hres.out,if_neg (by simp),if_pos h3]
   subst er;go_wp2;go_ret;exact ⟨rfl,B2⟩
  by_cases h4:x2=0
  ·have er:res=1:=by rw [← Hres.out,if_neg (by simp),if_neg (by rw [h3];simp),if_pos (.inl h4)]
   subst er;subst h4;go_wp2;go_ret;exact ⟨rfl,B2⟩
  have h4':(x2 == 0)=false:=by simpa using h4
  cases h5:QaJ x2
  ·have er:res=1:=by rw [← Hres.out,if_neg (by simp),if_neg (by rw [h3];simp),if_pos (.inr h5)]
   subst er;rw [h5] at HA1;go_wp2_with (go_at_call 120;refine HA1.mono ?_;rintro e w' ⟨rfl,rfl⟩);go_ret;exact ⟨rfl,B2⟩
  ·have er:res=0:=by rw [← Hres.out,if_neg (by simp),if_neg (by rw [h3];simp),if_neg (by simp [h4,h5])]
   subst er;rw [h5] at HA1;go_wp2_with (go_at_call 120;refine HA1.mono ?_;rintro e w' ⟨rfl,rfl⟩);go_ret;exact ⟨rfl,B2⟩
 ·have er:res=lb:=by rw [← Hres.out,if_pos h1]
  subst er;rw [QaA h1] at HF;rw [QaF h1];clear HU HA Hres;go_enter func80,ntmps80
  go_wp2_with fail;go_at_fn 73
  refine HF.out.mono ?_;rintro e w1 ⟨rfl,hb1⟩;have B1:=b0.trans (hb1.mono (by simp))
  clear HF hb1 b0 c0 c1 c2;go_wp2;go_ret;exact ⟨rfl,B1⟩
end
section
open Go.RowKit Go.Lib Go.Proofs.Tryz
def Qgo (x:Ln):Bool:=!nullL x
theorem check1_any (x:Ln) (w:World) :
  Calls prog 83 #[.agg x.cells] w fun e w'=>e=.returned (.bool (Qgo x))∧Below w.heap.size w w':=by
 obtain ⟨a0,a1,a2⟩:=x;have b0:Below w.heap.size w (w.alloc (.cells #[.string a0,.string a1,.int .i64 a2] 56)):=(Below.refl _ w).alloc (Nat.le_refl _) _;simp only [Ln.cells,Qgo,nullL];by_cases h:a2=0
 ·rw [decide_eq_true h];subst h;go_enter func83,ntmps83
  go_wp2;go_ret;exact ⟨rfl,b0⟩
 ·rw [decide_eq_false h];have h':(a2 != 0)=true:=by simpa using h
  go_enter func83,ntmps83
  go_wp2;go_ret;exact ⟨rfl,b0⟩
theorem check1_tells:Qix 83 Qgo:=
 ⟨fun args W=>Qa8 func83 (by kernel_rfl) ⟨_,rfl⟩ args W,check1_any⟩
def Qbw (c:List Ac):List Ln→Int
 | []=>0
 | x :: r=>if QdC c x≠0 then QdC c x else Qbw c r
def QbY (c:List Ac) (r:ByteArray) (en pe:Int) (l:List Ln):Int:=
 if QaC c≠0 then QaC c else if Qbc r en pe l.length≠0 then Qbc r en pe l.length else if Qbw c l≠0 then Qbw c l else if (QaN l).any Qgo=true then 11 else 0
theorem Qfr {c:List Ac}:∀ {l:List Ln},Qbw c l=0→∀ x∈l,QdC c x=0
 | [],_,x,hx=>by simp at hx
 | y :: l,h,x,hx=>by
  rw [Qbw] at h;split at h
  ·rename_i hy;exact absurd h hy
  ·rename_i hy;rcases List.mem_cons.1 hx with rfl | hx
   ·exact Classical.not_not.1 hy
   ·exact Qfr h x hx
theorem lnBad_amt {c:List Ac} {x:Ln} (h:QdC c x=0):-Qah≤x.amt∧x.amt≤Qah:=by
 unfold QdC at h;split at h
 ·omega
 ·split at h
  ·omega
  ·split at h
   ·omega
   ·split at h
    ·omega
    ·rename_i hh;simp only [not_or] at hh;exact Qbl.1 (by simpa using hh.2)
theorem QeB {r:ByteArray} {en pe:Int} {n:Nat} (h:Qbc r en pe n=0):2≤n∧n≤20:=by
 unfold Qbc at h;split at h
 ·omega
 ·split at h
  ·omega
  ·split at h
   ·omega
   ·split at h
    ·omega
    ·omega
set_option maxHeartbeats 4000000 in
theorem check_any (ca:Option Addr) (cc:Nat) (c:List Ac) (r:ByteArray) (en pe:Int) (a:Option Addr) (cap:Nat) (l:List Ln) (w:World) (hc:Qcm w ca c cc) (h:Qfs w a l cap) :
  Calls prog 49 #[.slice ca c.length cc,.agg #[.string r,.int .i64 en,.int .i64 pe,.slice a l.length cap]] w fun e w'=>e=.returned (enE (QbY c r en pe l))∧Below w.heap.size w w':=by
 have b0:Below w.heap.size w (w.alloc (.cells #[.string r,.int .i64 en,.int .i64 pe,.slice a l.length cap] 59)):=(Below.refl _ w).alloc (Nat.le_refl _) _;have x0:=QcU.new w r en pe (.slice a l.length cap);have hs0:(w.alloc (.cells #[.string r,.int .i64 en,.int .i64 pe,.slice a l.length cap] 59)).heap.size=w.heap.size+1:=by simp
 obtain ⟨res,hres⟩:∃ res,QbY c r en pe l=res:=⟨_,rfl⟩;rw [hres];have Hres:Hid (QbY c r en pe l=res):=hres;clear hres;by_cases h1:QaC c=0
 ·have hL:=QbK ca cc c _ (hc.below b0) h1;have HL:Hid (Calls _ _ _ _ _):=hL;have hlen:=Qcy h1;have HH:Hid (∀ W,Calls prog 79 #[.agg #[.string r,.int .i64 en,.int .i64 pe,.slice a l.length cap]] W fun e w'=>e=.returned (enE (Qbc r en pe l.length))∧Below W.heap.size W w'):=fun W=>checkHead_any r en pe a cap l.length W
  go_enter func49,ntmps49
  go_wp2_with fail;refine HL.out.mono ?_;rintro e w1 ⟨F1,F2,rfl,tr1,hb1⟩;rw [hs0] at hb1;have B1:=b0.trans (hb1.mono (by omega))
  have hs1:=hb1.size;rw [hs0] at hs1;have y1:=x0.below hb1 (by omega)
  have c0:=y1.c0;have c1:=y1.c1;have c2:=y1.c2;have c3:=y1.c3;have HHo:=HH.out w1;have HHH:Hid (Calls _ _ _ _ _):=HHo;clear HL hL hb1 b0 x0 HHo HH;by_cases h2:Qbc r en pe l.length=0
  ·rw [h2,QbE] at HHH;go_wp2_with fail;refine HHH.out.mono ?_;rintro e w2 ⟨rfl,hb2⟩;have B2:=B1.trans (hb2.mono (by omega))
   have hs2:=hb2.size;have y2:=y1.below hb2 (by omega)
   have tr2:=tr1.below hb2;clear y1 c0 c1 c2 c3 HHH tr1;have c3:=y2.c3;have hll:=QeB h2;have Hlen:(l.length:Int)≤20:=by omega
   have ER:Hid (res=if Qbw c l≠0 then Qbw c l else if (QaN l).any Qgo=true then 11 else 0):=by
    unfold Hid;rw [← Hres.out];unfold QbY;rw [if_neg (by simp [h1]),if_neg (by simp [h2])]
   rcases h.lies with h0 | ⟨b,off,rfl,hbl,hcl⟩
   ·rw [h0] at hll;simp at hll
   have Hc:Hid (Qgv w b off l):=hcl;have Hsl:Hid (Qfs w (some ⟨b,off,none⟩) l cap):=h;have HK:Hid (∀ x W,Below w2.heap.size w2 W→Calls prog 80 #[.agg x.cells,.func (.func 73) #[] #[.pointer (some ⟨F1,0,none⟩),.pointer (some ⟨F2,0,none⟩)]] W fun e w'=>e=.returned (enE (QdC c x))∧Below W.heap.size W w'):=fun x W hW=>checkLine_any c F1 F2 x W (tr2.below hW)
   clear Hres hcl h hc h2 h1 tr2;go_wp2;go_loopw [27] (fun i wr=>∃ k:Nat,k≤l.length∧i=.int .i64 k∧Hid (res=if Qbw c (l.drop k)≠0 then Qbw c (l.drop k) else if (QaN l).any Qgo=true then 11 else 0)∧Hid (∀ x∈l.take k,QdC c x=0)∧Below w2.heap.size w2 wr) (fun i _=>l.length - (RowKit.intOf i).toNat)
   case atStart=>exact ⟨0,Nat.zero_le _,rfl,ER,(fun x hx=>by simp at hx),Below.refl _ _⟩
   case round=>
    obtain ⟨k,hk,rfl,H,HA,BW⟩:=hrel;have hws:=BW.size;have B3:=B2.trans (BW.mono (by omega))
    by_cases hlt:k<l.length
    ·have hn:=(Hc.out k hlt).below B3 hbl;have E:=H.out;rw [lns_drop l k hlt,Qbw] at E;have B4:=BW.alloc (by omega) (.cells (l.getD k ln0).cells 56)
     have hcall:=HK.out (l.getD k ln0) _ B4;have HA2:Hid (QdC c (l.getD k ln0)=0→∀ x∈l.take (k+1),QdC c x=0):=fun h0 x hx=>by
      rw [lns_take l k hlt] at hx;rcases List.mem_append.1 hx with hx | hx
      ·exact HA.out x hx
      ·rw [List.mem_singleton.1 hx];exact h0
     generalize l.getD k ln0=x at *
     have Hcall:Hid (Calls _ _ _ _ _):=hcall;have HE:Hid (res=_):=E;clear hcall E H HA;obtain ⟨x0,x1,x2⟩:=x;obtain ⟨c0,c1,c2⟩:=hn;simp only [Ln.cells] at c0 c1 c2 B4 Hcall;have j0:(0:Int)≤k:=by omega
     have j1:(k:Int)<l.length:=by omega
     by_cases hb:QdC c ⟨x0,x1,x2⟩=0
     ·have HE2:Hid (res=if Qbw c (l.drop (k+1))≠0 then Qbw c (l.drop (k+1)) else if (QaN l).any Qgo=true then 11 else 0):=by
       have:=HE.out
       rw [if_neg (by rw [hb];simp:¬ QdC c ⟨x0,x1,x2⟩≠0)] at this
       exact this
      have HA3:Hid _:=HA2.out hb;rw [hb,QbE] at Hcall;clear HE HA2 hb;go_wp2_with fail;refine Hcall.out.mono ?_;rintro e w3 ⟨rfl,hb3⟩;have B5:=B4.trans (hb3.mono (by simp;omega))
      clear Hcall hb3 B4 c0 c1 c2;go_wp2;go_roundw
      case rel=>exact ⟨k+1,by omega,by go_num,HE2,HA3,B5⟩
      case measure=>simp [RowKit.intOf];omega
     ·have er:res=QdC c ⟨x0,x1,x2⟩:=by
       have:=HE.out
       rw [if_pos hb,if_pos hb] at this;exact this
      rw [← er] at hb Hcall;rw [QaF hb] at Hcall;clear HE HA2 er;go_wp2_with fail;refine Hcall.out.mono ?_;rintro e w3 ⟨rfl,hb3⟩;have B5:=B2.trans ((B4.trans (hb3.mono (by simp;omega))).mono (by omega))
      clear Hcall hb3 B4 c0 c1 c2;go_wp2;go_ret;exact ⟨by rw [QaF hb];rfl,B5⟩
    ·have hk2:k=l.length:=by omega
     subst hk2;have E:=H.out;rw [List.drop_length] at E;have HE:Hid (res=if (QaN l).any Qgo=true then 11 else 0):=E
     have hw:Qa7 Qah l:=fun x hx=>lnBad_amt (HA.out x (by rw [List.take_length];exact hx))
     have hO:=Qgl (some ⟨b,off,none⟩) cap l wr hll.2 hw (Hsl.out.below B3);have HO:Hid (Calls _ _ _ _ _):=hO;have c3':=(y2.below BW (by omega)).c3
     have HCF:Hid (∀ v W,Qag W wr.heap.size v (QaN l)→Calls prog 81 #[v,.func (.func 83) #[] #[]] W fun e w'=>e=.returned (.bool ((QaN l).any Qgo))∧Below W.heap.size W w'):=fun v W hr=>by
      obtain ⟨a',k',rfl,hsl'⟩:=hr.isLn;exact Qeg _ Qgo a' k' (QaN l) W check1_tells (by have:=QiC (l.map Qb7);rw [List.length_map] at this;unfold QaN;omega) hsl'
     clear hO hw E H HA HK ER Hc Hsl;go_wp2_with fail;refine HO.out.mono ?_;rintro e w3 ⟨v3,rfl,r3,b3⟩;have hC:=HCF.out v3 w3 r3;have B4:=B3.trans (b3.mono (by omega))
     have hs4:=b3.size;have HC:Hid (Calls _ _ _ _ _):=hC;clear HO HCF r3 b3 hC c3';cases hq:(QaN l).any Qgo
     ·have er:res=0:=by rw [HE.out,hq];rfl
      subst er;rw [hq] at HC;clear HE hq;go_wp2_with fail;refine HC.out.mono ?_;rintro e w4 ⟨rfl,hb4⟩;have B5:=B4.trans (hb4.mono (by omega))
      clear HC hb4;go_wp2;go_ret;exact ⟨rfl,B5⟩
     ·have er:res=11:=by rw [HE.out,hq];rfl
      subst er;rw [hq] at HC;clear HE hq;go_wp2_with fail;refine HC.out.mono ?_;rintro e w4 ⟨rfl,hb4⟩;have B5:=B4.trans (hb4.mono (by omega))
      clear HC hb4;go_wp2;go_ret;exact ⟨rfl,B5⟩
  ·have er:res=Qbc r en pe l.length:=by rw [← Hres.out];unfold QbY;rw [if_neg (by simp [h1]),if_pos h2]
   rw [← er] at h2 HHH;rw [QaF h2] at HHH;clear er Hres;go_wp2_with fail;refine HHH.out.mono ?_;rintro e w2 ⟨rfl,hb2⟩;have B2:=B1.trans (hb2.mono (by omega))
   clear HHH y1 c0 c1 c2 c3;go_wp2;go_ret;exact ⟨by rw [QaF h2];rfl,B2⟩
 ·have hL:=Qbx ca cc c _ (hc.below b0) h1;have er:res=QaC c:=by rw [← Hres.out];unfold QbY;rw [if_pos h1]
  subst er;rw [QaF h1];rw [QaA h1] at hL;have HL:Hid (Calls _ _ _ _ _):=hL;clear hL Hres hc h;generalize QaC c=bad at *
  go_enter func49,ntmps49
  go_wp2_with fail;refine HL.out.mono ?_;rintro e w1 ⟨rfl,hb1⟩;have B1:=b0.trans (hb1.mono (by simp))
  clear HL hb1 b0 x0;go_wp2;go_ret;exact ⟨rfl,B1⟩
end
section
open Go.RowKit Go.Lib Go.Proofs.Tryz
def tot (p:Ln→Bool):List Ln→Int
 | []=>0
 | x :: l=>(if p x=true then x.amt else 0)+tot p l
def KeyP (p:Ln→Bool):Prop:=∀ x y,QfN x y=true→p x=p y
theorem lnEq_refl (x:Ln):QfN x x=true:=Qbd.2 ⟨rfl,rfl⟩
theorem lnEq_symm {x y:Ln} (h:QfN x y=true):QfN y x=true:=by
 obtain ⟨h1,h2⟩:=Qbd.1 h;exact Qbd.2 ⟨h1.symm,h2.symm⟩
theorem keyP_eq (x:Ln):KeyP (QfN x):=fun a b h=>by
 obtain ⟨h1,h2⟩:=Qbd.1 h;unfold QfN;rw [h1,h2]
theorem Qd3 (p:Ln→Bool):∀ l m:List Ln,tot p (l++m)=tot p l+tot p m
 | [],m=>by simp [tot]
 | x :: l,m=>by
  rw [List.cons_append,tot,tot,Qd3 p l m];omega
theorem tot_ins {p:Ln→Bool} (hp:KeyP p) (x:Ln):∀ l:List Ln,tot p (Qd9 x l)=tot p l+(if p x=true then x.amt else 0)
 | []=>by simp [Qd9,tot]
 | y :: l=>by
  rw [Qd9]
  split
  ·rw [tot,tot,tot_ins hp x l];omega
  ·split
   ·rename_i h1 h2;rw [tot,tot];have e1:p ⟨y.acc,y.cur,y.amt+x.amt⟩=p y:=hp _ _ (Qbd.2 ⟨rfl,rfl⟩);have e2:p x=p y:=(hp _ _ h2).symm;rw [e1,e2]
    split
    ·simp only;omega
    ·omega
   ·rw [tot,tot];omega
theorem Qf4 {p:Ln→Bool} (hp:KeyP p):∀ l r:List Ln,tot p (l.foldl (fun r x=>Qd9 x r) r)=tot p r+tot p l
 | [],r=>by simp [tot]
 | x :: l,r=>by
  rw [List.foldl_cons,Qf4 hp l,tot_ins hp,tot];omega
theorem tot_grp {p:Ln→Bool} (hp:KeyP p) (l:List Ln):tot p (grp l)=tot p l:=by
 have:=Qf4 hp l []
 simpa [grp,tot] using this
theorem QgG {p:Ln→Bool} (hp:KeyP p):∀ l:List Ln,tot p (l.map turnL) = -tot p l
 | []=>rfl
 | x :: l=>by
  rw [List.map_cons,tot,tot,QgG hp l];have e:p (turnL x)=p x:=hp _ _ (Qbd.2 ⟨rfl,rfl⟩);rw [e];simp only [turnL]
  split <;> omega
theorem tot_none {p:Ln→Bool}:∀ {l:List Ln},(∀ x∈l,p x=false)→tot p l=0
 | [],_=>rfl
 | x :: l,h=>by
  rw [tot,tot_none (fun y hy=>h y (by simp [hy])),h x (by simp)]
  rfl
theorem tot_null (p:Ln→Bool):∀ {l:List Ln},(∀ x∈l,x.amt=0)→tot p l=0
 | [],_=>rfl
 | x :: l,h=>by
  rw [tot,tot_null p (fun y hy=>h y (by simp [hy])),h x (by simp)]
  simp
theorem tot_sort:∀ {l:List Ln},Qfo l→∀ y∈l,tot (QfN y) l=y.amt
 | [],_,y,hy=>by simp at hy
 | z :: l,h,y,hy=>by
  have h1:∀ x∈l,QeU z x=true:=(List.pairwise_cons.1 h).1;have h2:Qfo l:=(List.pairwise_cons.1 h).2;rw [tot];rcases List.mem_cons.1 hy with rfl | hy
  ·rw [if_pos (lnEq_refl _),tot_none (fun x hx=>?_)]
   ·omega
   ·cases hh:QfN y x
    ·rfl
    ·have:=h1 x hx
     rw [lnLt_eq hh] at this;cases this
  ·have:QfN y z=false:=by
    cases hh:QfN y z
    ·rfl
    ·have:=h1 y hy
     rw [lnLt_eq (lnEq_symm hh)] at this;cases this
   rw [this,tot_sort h2 y hy];simp
theorem QgB {l:List Ln}:(∀ y∈grp l,y.amt=0)↔∀ p,KeyP p→tot p l=0:=by
 constructor
 ·intro h p hp;rw [← tot_grp hp l];exact tot_null p h
 ·intro h y hy;rw [← tot_sort (grp_sort l) y hy,tot_grp (keyP_eq y)];exact h _ (keyP_eq y)
def evenL (l:List Ln):Prop:=∀ p,KeyP p→tot p (l.map Qb7)=0
theorem QgE {l:List Ln}:((QaN l).any fun x=>!nullL x)=false↔evenL l:=by
 unfold evenL;rw [← QgB,List.any_eq_false];unfold QaN;constructor
 ·intro h y hy
  have:=h y hy
  simpa [nullL] using this
 ·intro h y hy
  have:=h y hy
  simp [nullL,this]
end
section
open Go.RowKit Go.Lib Go.Proofs.Tryz
theorem Qhn {c:List Ac} {r:ByteArray} {en pe:Int} {l:List Ln}:QbY c r en pe l=0↔QaC c=0∧Qbc r en pe l.length=0∧Qbw c l=0∧evenL l:=by
 rw [← QgE];unfold QbY;constructor
 ·intro h;split at h
  ·rename_i h1;exact absurd h h1
  ·rename_i h1;split at h
   ·rename_i h2;exact absurd h h2
   ·rename_i h2;split at h
    ·rename_i h3;exact absurd h h3
    ·rename_i h3;split at h
     ·omega
     ·rename_i h4;exact ⟨Classical.not_not.1 h1,Classical.not_not.1 h2,Classical.not_not.1 h3,by simpa [Qgo] using h4⟩
 ·rintro ⟨h1,h2,h3,h4⟩;rw [if_neg (by simp [h1]),if_neg (by simp [h2]),if_neg (by simp [h3]),if_neg]
  show ¬ ((QaN l).any fun x=>!nullL x)=true
  rw [h4];simp
end
section
open Go.RowKit Go.Lib Go.Proofs.Tryz
structure Je where
 ref:ByteArray
 ent:Int
 per:Int
 adr:Option Addr
 cap:Nat
 lns:List Ln
def je0:Je:=⟨ByteArray.empty,0,0,none,0,[]⟩
def Je.cells (x:Je):Array Value:=#[.string x.ref,.int .i64 x.ent,.int .i64 x.per,.slice x.adr x.lns.length x.cap]
theorem Je.cells_length (x:Je):x.cells.toList.length=4:=rfl
structure JeAt (W:World) (b off:Nat) (x:Je):Prop where
 c0:W.cell? ⟨b,off,none⟩=some (.string x.ref)
 c1:W.cell? ⟨b,off+1,none⟩=some (.int .i64 x.ent)
 c2:W.cell? ⟨b,off+2,none⟩=some (.int .i64 x.per)
 c3:W.cell? ⟨b,off+3,none⟩=some (.slice x.adr x.lns.length x.cap)
theorem JeAt.below {W W':World} {b off n:Nat} {x:Je} (h:JeAt W b off x) (hb:Below n W W') (hlt:b<n):JeAt W' b off x:=
 ⟨(hb.cell (p:=⟨b,off,none⟩) hlt).trans h.c0,(hb.cell (p:=⟨b,off+1,none⟩) hlt).trans h.c1,(hb.cell (p:=⟨b,off+2,none⟩) hlt).trans h.c2,(hb.cell (p:=⟨b,off+3,none⟩) hlt).trans h.c3⟩
structure Qha (W:World) (a:Option Addr) (L:List Je) (cap:Nat):Prop where
 cap:L.length≤cap
 lies:L=[]∨∃ b off,a=some ⟨b,off,none⟩∧b<W.heap.size∧∀ k,k<L.length→JeAt W b (off+k*4) (L.getD k je0)
 lns:∀ x∈L,Qfs W x.adr x.lns x.cap
theorem Qha.below {W W':World} {a:Option Addr} {L:List Je} {cap:Nat} (h:Qha W a L cap) (hb:Below W.heap.size W W'):Qha W' a L cap:=by
 refine ⟨h.cap,?_,fun x hx=>(h.lns x hx).below hb⟩
 rcases h.lies with h | ⟨b,off,e,hlt,hc⟩
 ·exact .inl h
 ·exact .inr ⟨b,off,e,by have:=hb.size;omega,fun k hk=>(hc k hk).below hb hlt⟩
theorem jes_take (l:List Je) (k:Nat) (h:k<l.length):l.take (k+1)=l.take k++[l.getD k je0]:=by
 rw [List.take_add_one,List.getElem?_eq_getElem h,List.getD_eq_getElem?_getD,List.getElem?_eq_getElem h];rfl
theorem jes_drop (l:List Je) (k:Nat) (h:k<l.length):l.drop k=l.getD k je0 :: l.drop (k+1):=by
 rw [List.drop_eq_getElem_cons h,List.getD_eq_getElem?_getD,List.getElem?_eq_getElem h];rfl
theorem Qft (l:List Je) (k:Nat) (h:k<l.length):l.getD k je0∈l:=by
 rw [List.getD_eq_getElem?_getD,List.getElem?_eq_getElem h];exact List.getElem_mem h
def Qby (l:List Je):List Value:=l.flatMap fun x=>x.cells.toList
theorem QdT:∀ l:List Je,(Qby l).length=l.length*4
 | []=>rfl
 | x :: l=>by
  have:=QdT l
  unfold Qby at *
  simp only [List.flatMap_cons,List.length_append,Je.cells_length,this,List.length_cons];omega
theorem QdF (l m:List Je):Qby (l++m)=Qby l++Qby m:=by simp [Qby]
theorem jeRow_one (x:Je):Qby [x]=x.cells.toList:=by simp [Qby]
theorem Qhk:∀ (l:List Je) (k j:Nat),k<l.length→j<4→(Qby l)[k*4+j]? = (l.getD k je0).cells.toList[j]?
 | [],_,_,h,_=>absurd h (by simp)
 | x :: l,0,j,_,hj=>by
  simp only [Qby,List.flatMap_cons,Nat.zero_mul,Nat.zero_add,List.getD_cons_zero];rw [List.getElem?_append_left (by rw [Je.cells_length];exact hj)]
 | x :: l,k+1,j,h,hj=>by
  have ih:=Qhk l k j (by simpa using h) hj
  simp only [Qby,List.flatMap_cons,List.getD_cons_succ] at ih ⊢;rw [List.getElem?_append_right (by rw [Je.cells_length];omega),Je.cells_length,← ih]
  congr 1;omega
theorem je_one (x:Je):∀ u∈x.cells.toList,u.oneCell'=true:=by
 intro u hu;simp [Je.cells] at hu;rcases hu with rfl | rfl | rfl | rfl <;> rfl
def QbG (W:World) (n:Nat) (v:Value) (l:List Je):Prop:=W.ownsRow n 59 4 v l.length (Qby l)
theorem QbG.nil (w:World) (n:Nat):QbG w n (.slice none 0 0) []:=World.ownsRow_nil _ _ _ _
theorem QbG.own {w:World} {n:Nat} {v:Value} {xs:List Je} (h:QbG w n v xs):∀ j,v.ownBlock=some j→n≤j:=fun j ej=>by
 rcases h.2 with ⟨rfl,_⟩ | ⟨g,cp,cur,rfl,hg,_⟩
 ·cases ej
 ·cases ej;exact hg
theorem QbG.lt {w:World} {n:Nat} {v:Value} {xs:List Je} (h:QbG w n v xs):∀ j,v.ownBlock=some j→j<w.heap.size:=fun j ej=>by
 rcases h.2 with ⟨rfl,_⟩ | ⟨g,cp,cur,rfl,hg,hh,_⟩
 ·cases ej
 ·cases ej;exact (Array.getElem?_eq_some_iff.1 hh).1
theorem QbG.of {w w':World} {n:Nat} {v:Value} {l:List Je} (h:QbG w n v l) (hb:∀ j,v.ownBlock=some j→w'.heap[j]? = w.heap[j]?):QbG w' n v l:=by
 rcases h.2 with ⟨hv,hn⟩ | ⟨g1,c1,cur,hv,hb1,hh,r⟩
 ·exact ⟨h.1,.inl ⟨hv,hn⟩⟩
 ·exact ⟨h.1,.inr ⟨g1,c1,cur,hv,hb1,(hb g1 (by rw [hv];rfl)).trans hh,r⟩⟩
theorem QbG.below {w w':World} {n:Nat} {v:Value} {l:List Je} (h:QbG w n v l) (hb:Below w.heap.size w w'):QbG w' n v l:=h.of fun j ej=>hb.block j (h.lt j ej)
theorem QbG.lies {W:World} {n:Nat} {v:Value} {l:List Je} (h:QbG W n v l) :
  ∃ a cap,v=.slice a l.length cap∧l.length≤cap∧(l=[]∨∃ b off,a=some ⟨b,off,none⟩∧b<W.heap.size∧∀ k,k<l.length→JeAt W b (off+k*4) (l.getD k je0)):=by
 obtain ⟨hlen,⟨rfl,h0⟩ | ⟨g,cap,cur,rfl,hb,hg,hc,hm,hs,ht⟩⟩:=h
 ·have:l=[]:=List.eq_nil_of_length_eq_zero h0
  subst this;exact ⟨none,0,rfl,Nat.le_refl _,.inl rfl⟩
 ·refine ⟨_,cap,rfl,hc,.inr ⟨g,0,rfl,(Array.getElem?_eq_some_iff.1 hg).1,?_⟩⟩;intro k hk;have C:∀ j,j<4→W.cell? ⟨g,0+k*4+j,none⟩=(l.getD k je0).cells.toList[j]?:=fun j hj=>by
   have e1:(Qby l)[k*4+j]? = cur[k*4+j]?:=by
    rw [← ht,List.getElem?_take,if_pos (by omega)]
    simp
   rw [← Qhk l k j hk hj,e1];simp [World.cell?,hg]
  exact ⟨C 0 (by omega),C 1 (by omega),C 2 (by omega),C 3 (by omega)⟩
theorem QeO:(prog.info? 59).map (fun i=>(i.zero,i.size,i.bytes))=some (some (.agg #[.string ByteArray.empty,.int .i64 0,.int .i64 0,.slice none 0 0]),4,56):=by kernel_rfl
def SMap (W:World) (bm:Nat) (rs:List ByteArray):Prop:=∃ es c,W.heap[bm]? = some (.map es c)∧es.toList.map (·.key)=rs.map Value.string∧∀ e∈es.toList,e.val=.agg #[]
theorem QeA (w:World) (x:ByteArray) (b:Bool):(Instr.checkKey b 10000 9 (.string x)).run prog w=.ok () w:=
 MapKept.run_checkKey (k:=.string x) underlying9 (by simp [MapKept.IsKey]) b 9999
theorem QfD:∀ (es:List MapEntry) (rs:List ByteArray) (s:ByteArray) (i:Nat),es.map (·.key)=rs.map Value.string→s ∉ rs→Instr.findNow .string (.string s) es i=some none
 | [],_,_,_,_,_=>rfl
 | e :: es,[],_,_,h,_=>by simp at h
 | e :: es,r :: rs,s,i,h,hs=>by
  simp only [List.map_cons,List.cons.injEq] at h;simp only [List.mem_cons,not_or] at hs;unfold Instr.findNow;have hne:(s == r)=false:=by cases hq:(s == r) with | false=>rfl | true=>exact absurd ((MapKept.bytes_beq s r).1 hq) hs.1
  simp only [h.1,Instr.sameNow,hne];exact QfD es rs s (i+1) h.2 hs.2
theorem Qiw:∀ (es:List MapEntry) (rs:List ByteArray) (s:ByteArray) (i:Nat),es.map (·.key)=rs.map Value.string→(∀ e∈es,e.val=.agg #[])→s∈rs→∃ j,Instr.findNow .string (.string s) es i=some (some (j,.agg #[]))
 | [],rs,s,_,h,_,hs=>by
  have:rs=[]:=by simpa using h.symm
  rw [this] at hs;simp at hs
 | e :: es,[],_,_,h,_,_=>by simp at h
 | e :: es,r :: rs,s,i,h,hv,hs=>by
  simp only [List.map_cons,List.cons.injEq] at h;unfold Instr.findNow;by_cases hq:s=r
  ·subst hq;simp only [h.1,Instr.sameNow,(MapKept.bytes_beq s s).2 rfl];exact ⟨i,by rw [hv e (by simp)]⟩
  ·have hne:(s == r)=false:=by cases hq':(s == r) with | false=>rfl | true=>exact absurd ((MapKept.bytes_beq s r).1 hq') hq
   simp only [h.1,Instr.sameNow,hne];exact Qiw es rs s (i+1) h.2 (fun x hx=>hv x (by simp [hx])) (by rcases List.mem_cons.1 hs with e | e;exact absurd e hq;exact e)
def QeF (rs:List ByteArray) (s:ByteArray):Bool:=rs.any fun r=>r == s
theorem QeX {rs:List ByteArray} {s:ByteArray}:QeF rs s=true↔s∈rs:=by
 unfold QeF;rw [List.any_eq_true];constructor
 ·rintro ⟨x,hx,he⟩;rw [(MapKept.bytes_beq x s).1 he] at hx;exact hx
 ·intro h;exact ⟨s,h,(MapKept.bytes_beq s s).2 rfl⟩
theorem Qh5 {rs:List ByteArray} {s:ByteArray}:QeF rs s=false↔s ∉ rs:=by
 rw [← QeX];simp
theorem unit_zero (w:World):(zeroValue 125).run prog w=.ok (.agg #[]) w:=by kernel_rfl
theorem run_slook {W:World} {bm:Nat} {rs:List ByteArray} (h:SMap W bm rs) (s:ByteArray):(Instr.lookup 117 (.map (some bm)) (.string s) true).run prog W=.ok (.tuple #[.agg #[],.bool (QeF rs s)]) W:=by
 obtain ⟨es,c,h1,h2,hv⟩:=h;by_cases hs:s∈rs
 ·have hq:=QeX.2 hs;obtain ⟨j,f⟩:=Qiw es.toList rs s 0 h2 hv hs;simp [Instr.lookup,run_underlying underlying117,MapKept.run_getObj_map h1,QeA,MapKept.run_findKey underlying9 f,Result.andThen,hq]
 ·have hq:=Qh5.2 hs;have f:=QfD es.toList rs s 0 h2 hs;simp [Instr.lookup,run_underlying underlying117,MapKept.run_getObj_map h1,QeA,MapKept.run_findKey underlying9 f,unit_zero,Result.andThen,hq]
theorem run_sput {W:World} {bm:Nat} {rs:List ByteArray} (h:SMap W bm rs) (s:ByteArray) (hs:s ∉ rs) :
  ∃ W',(Instr.mapUpdate 117 (.map (some bm)) (.string s) (.agg #[])).run prog W=.ok () W'∧SMap W' bm (rs++[s])∧W'.os=W.os∧W'.tape=W.tape∧W'.output=W.output∧W'.heap.size=W.heap.size∧∀ b,b≠bm→W'.heap[b]? = W.heap[b]?:=by
 obtain ⟨es,c,h1,h2,hv⟩:=h;have hlt:bm<W.heap.size:=(Array.getElem?_eq_some_iff.1 h1).1;have f:=QfD es.toList rs s 0 h2 hs;refine ⟨{ W with heap:=W.heap.setIfInBounds bm (.map (es.push ⟨.string s,.agg #[],c⟩) (c+1)) },?_,⟨es.push ⟨.string s,.agg #[],c⟩,c+1,by simp [hlt],?_,?_⟩,rfl,rfl,rfl,by simp,fun b hb=>Array.getElem?_setIfInBounds_ne (fun e=>hb e.symm)⟩
 ·simp [Instr.mapUpdate,run_underlying underlying117,MapKept.run_getObj_map h1,QeA,MapKept.run_findKey underlying9 f,MapKept.run_setObj_map _ h1,Result.andThen]
 ·simp [h2]
 ·intro e he;simp only [Array.toList_push,List.mem_append,List.mem_singleton] at he;rcases he with he | rfl
  ·exact hv e he
  ·rfl
theorem SMap.of {W W':World} {bm:Nat} {rs:List ByteArray} (h:SMap W bm rs) (hb:W'.heap[bm]? = W.heap[bm]?):SMap W' bm rs:=by
 obtain ⟨es,c,h1,h2⟩:=h;exact ⟨es,c,hb.trans h1,h2⟩
end
end Go.Proofs.YtjifbbdkpanagaaGreatDoor
