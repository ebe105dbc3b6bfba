/-
  Part of a proof (see the last text).
-/
import Derived.Test.YtjifbbdkpanagaaGreatDoorProg
import Derived.WalkSpells
import Derived.Lib.OthersKept
import Derived.Lib.TrimU
import Derived.Deep.LoopGhost
import Derived.Conc.MuLone
import Derived.Shelf.Abstract
import Derived.BigQuiet
import Derived.Laws.Cover1
import Derived.Deep.AppendLies
import Derived.Deep.RegionHeldLaw
import Derived.RangeFuncBox
set_option linter.unusedVariables false
set_option linter.unusedSimpArgs false
set_option maxRecDepth 100000
namespace Go.Proofs.YtjifbbdkpanagaaGreatDoor
section
open Go.RowKit Go.Lib Go.Proofs.Tryz
def digR (r:Nat):Bool:=decide (48≤r) && decide (r≤57)
def namR (r:Nat):Bool:=(decide (97≤r) && decide (r≤122)) || (decide (65≤r) && decide (r≤90)) || digR r || decide (r=45)
def QaX (p:Nat→Bool) (s:ByteArray):Nat→Nat→Int
 | 0,_=>-1
 | f+1,pos=>if pos<s.size then (if p (Utf8.decode s pos).1=true then QaX p s f (pos+(Utf8.decode s pos).2) else (pos:Int)) else -1
theorem strayFrom_end (p:Nat→Bool) (s:ByteArray) (f pos:Nat) (h:¬ pos<s.size):QaX p s f pos = -1:=by cases f <;> simp [QaX,h]
def Qem (p:Nat→Bool) (most:Nat) (s:ByteArray):Bool:=decide (s.size≠0) && (decide (s.size≤most) && decide (QaX p s s.size 0<0))
def QhT (s:ByteArray):Bool:=Qem digR 6 s
def isNameB (s:ByteArray):Bool:=Qem namR 24 s
theorem QdO (r:Nat) (w:World) :
  Calls prog 224 #[.int .i32 r] w fun e w'=>e=.returned (.bool (digR r))∧w'=w:=by
 by_cases h1:(48:Int)≤r
 ·have:digR r=decide ((r:Int)≤57):=by
   have e1:decide (48≤r)=true:=by simp;omega
   have e2:decide (r≤57)=decide ((r:Int)≤57):=by simp;omega
   unfold digR;rw [e1,e2];rfl
  rw [this];go_enter func224,ntmps224
  go_wp2;go_ret;exact ⟨rfl,rfl⟩
 ·have:digR r=false:=by simp [digR];omega
  rw [this];go_enter func224,ntmps224
  go_wp2;go_ret;exact ⟨rfl,rfl⟩
theorem nameSign_any (r:Nat) (w:World) :
  Calls prog 225 #[.int .i32 r] w fun e w'=>e=.returned (.bool (namR r))∧w'=w:=by
 have h1:(97:Int)≤r∧(r:Int)≤122∨122<(r:Int)∨(90:Int)<r∧(r:Int)<97∨(65:Int)≤r∧(r:Int)≤90∨(r:Int)<65:=by omega
 rcases h1 with ⟨a,b⟩ | a | ⟨a,b⟩ | ⟨a,b⟩ | a
 ·have:namR r=true:=by simp [namR];omega
  rw [this];go_enter func225,ntmps225
  go_wp2;go_ret;exact ⟨rfl,rfl⟩
 ·have d:digR r=false:=by simp [digR];omega
  have:namR r=false:=by simp [namR,d];omega
  rw [this];have n45:((r:Int) == 45)=false:=by simp;omega
  have n90:decide ((r:Int)≤90)=false:=by simp;omega
  have n122:decide ((r:Int)≤122)=false:=by simp;omega
  go_enter func225,ntmps225
  go_wp2_with (go_at_call 224;refine (QdO r _).mono ?_;rintro e w' ⟨rfl,rfl⟩;rw [d]);go_ret;exact ⟨rfl,rfl⟩
 ·have d:digR r=false:=by simp [digR];omega
  have:namR r=false:=by simp [namR,d];omega
  rw [this];have n45:((r:Int) == 45)=false:=by simp;omega
  have n90:decide ((r:Int)≤90)=false:=by simp;omega
  go_enter func225,ntmps225
  go_wp2_with (go_at_call 224;refine (QdO r _).mono ?_;rintro e w' ⟨rfl,rfl⟩;rw [d]);go_ret;exact ⟨rfl,rfl⟩
 ·have:namR r=true:=by simp [namR];omega
  rw [this];go_enter func225,ntmps225
  go_wp2;go_ret;exact ⟨rfl,rfl⟩
 ·cases d:digR r
  ·have:namR r=((r:Int) == 45):=by
    have e1:decide (r=45)=((r:Int) == 45):=by rw [Bool.eq_iff_iff];simp;omega
    have e2:(decide (97≤r) && decide (r≤122))=false:=by simp;omega
    have e3:(decide (65≤r) && decide (r≤90))=false:=by simp;omega
    unfold namR;rw [e1,e2,e3,d];rfl
   rw [this];go_enter func225,ntmps225
   go_wp2_with (go_at_call 224;refine (QdO r _).mono ?_;rintro e w' ⟨rfl,rfl⟩;rw [d]);go_ret;exact ⟨rfl,rfl⟩
  ·have:namR r=true:=by simp [namR,d]
   rw [this];go_enter func225,ntmps225
   go_wp2_with (go_at_call 224;refine (QdO r _).mono ?_;rintro e w' ⟨rfl,rfl⟩;rw [d]);go_ret;exact ⟨rfl,rfl⟩
structure Qhz (g:Nat) (p:Nat→Bool):Prop where
 eg:∀ args w,(callFunc g args).run prog w=.ok (.enter g args) w
 call:∀ (r:Nat) w,Calls prog g #[.int .i32 r] w fun e w'=>e=.returned (.bool (p r))∧w'=w
theorem Qf9 {f : FuncId} {fn : Func} (hf : prog.funcs[f]? = some fn) (hn : (fn.name == "runtime.NumGoroutine") = false) (hb : ∃ c, fn.body = some c) (args : Array Value) (w : World) : (callFunc f args).run prog w = .ok (.enter f args) w := by
 obtain ⟨c,hc⟩:=hb;exact MuLone.run_callFunc_enter hf hn hc args w
theorem digit_fits:Qhz 224 digR:=⟨fun args w=>Qf9 func224 (by kernel_rfl) ⟨_,rfl⟩ args w,QdO⟩
theorem name_fits:Qhz 225 namR:=⟨fun args w=>Qf9 func225 (by kernel_rfl) ⟨_,rfl⟩ args w,nameSign_any⟩
theorem madeOf1_any (g:Nat) (p:Nat→Bool) (hf:Qhz g p) (B r:Nat) (w:World) (hB:w.cell? ⟨B,0,none⟩=some (.func (.func g) #[] #[])) :
  Calls prog 251 #[.int .i32 r,.pointer (some ⟨B,0,none⟩)] w fun e w'=>e=.returned (.bool (!p r))∧w'=w:=by
 have eg:=hf.eg;have hc:=hf.call r w;clear hf;go_enter func251,ntmps251
 go_wp2_with (go_at_fn g;refine hc.mono ?_;rintro e w' ⟨rfl,rfl⟩);go_ret;exact ⟨rfl,rfl⟩
set_option maxHeartbeats 1000000 in
theorem QhN (g:Nat) (p:Nat→Bool) (hf:Qhz g p) (B:Nat) (s:ByteArray) (w:World) (hb:B<w.heap.size) (hB:w.cell? ⟨B,0,none⟩=some (.func (.func g) #[] #[])) :
  Calls prog 159 #[.string s,.func (.func 251) #[] #[.pointer (some ⟨B,0,none⟩)],.bool true] w fun e w'=>e=.returned (.int .i64 (QaX p s s.size 0))∧Below w.heap.size w w':=by
 have HB:Hid (w.cell? ⟨B,0,none⟩=some (.func (.func g) #[] #[])):=hB;have HF:Hid (Qhz g p):=hf;clear hB hf;go_enter func159,ntmps159
 go_wp2;go_loopg [] s.size (fun gf wx=>∃ pos:Nat,wx.heap[w.heap.size]? = some (.stringIter s pos)∧Below w.heap.size w wx∧QaX p s gf pos=QaX p s s.size 0∧s.size≤pos+gf)
 case atStart=>exact ⟨0,World.iter_heap w s 0,(Below.refl _ w).alloc (Nat.le_refl _) _,rfl,by omega⟩
 case round=>
  obtain ⟨pos,hit,hbw,hleft,hfu⟩:=hrel;by_cases hps:pos<s.size
  ·obtain ⟨g',rfl⟩:∃ g',gk=g'+1:=⟨gk - 1,by omega⟩
   have hnx:∀ ty,(Instr.next (.pointer (some ⟨w.heap.size,0,none⟩)) true ty).run prog wr=_:=fun ty=>Lib.run_next_any_at wr w.heap.size s pos ty hit hps
   have hwd:=Lib.width_pos s pos;obtain ⟨R,hR⟩:∃ R,(Utf8.decode s pos).1=R:=⟨_,rfl⟩;obtain ⟨K,hK⟩:∃ K,(Utf8.decode s pos).2=K:=⟨_,rfl⟩;simp only [QaX,hps,if_true,hR,hK] at hleft;rw [hR,hK] at hnx;rw [hK] at hwd;have hit2:=Lib.iterAt_heap wr w.heap.size s pos (pos+K) hit;have hbw2:=Lib.below_iterAt hbw (k:=w.heap.size) (Nat.le_refl _) s (pos+K);obtain ⟨W,hWd⟩:∃ W,wr.iterAt w.heap.size s (pos+K)=W:=⟨_,rfl⟩
   rw [hWd] at hnx hit2 hbw2;have hcall:=madeOf1_any g p HF.out B R W ((hbw2.cell (p:=⟨B,0,none⟩) hb).trans HB.out);cases hsp:p R <;> simp only [hsp,if_true,Bool.false_eq_true,if_false] at hleft
   ·rw [hsp] at hcall;go_wp2_with (go_at_call 251;refine hcall.mono ?_;rintro e W' ⟨rfl,rfl⟩);go_ret;exact ⟨by rw [← hleft];rfl,hbw2⟩
   ·rw [hsp] at hcall;go_wp2_with (go_at_call 251;refine hcall.mono ?_;rintro e W' ⟨rfl,rfl⟩);go_roundg g'
    case measure=>omega
    case rel=>exact ⟨pos+K,hit2,hbw2,hleft,by omega⟩
  ·have hnx:∀ ty,(Instr.next (.pointer (some ⟨w.heap.size,0,none⟩)) true ty).run prog wr=_:=fun ty=>Lib.run_next_end_at wr w.heap.size s pos ty hit hps
   rw [strayFrom_end p s gk pos hps] at hleft;go_wp2;go_ret;exact ⟨by rw [← hleft];rfl,hbw⟩
theorem Qe0 (g:Nat) (p:Nat→Bool) (hf:Qhz g p) (B:Nat) (s:ByteArray) (w:World) (hb:B<w.heap.size) (hB:w.cell? ⟨B,0,none⟩=some (.func (.func g) #[] #[])) :
  Calls prog 77 #[.string s,.func (.func 251) #[] #[.pointer (some ⟨B,0,none⟩)]] w fun e w'=>e=.returned (.bool (decide (0≤QaX p s s.size 0)))∧Below w.heap.size w w':=by
 have hI:Calls prog 117 #[.string s,.func (.func 251) #[] #[.pointer (some ⟨B,0,none⟩)]] w fun e w'=>e=.returned (.int .i64 (QaX p s s.size 0))∧Below w.heap.size w w':=by
  have hc:=QhN g p hf B s w hb hB;clear hf hB;go_enter func117,ntmps117
  go_wp2_with fail;refine hc.mono ?_;rintro e w' ⟨rfl,hb⟩;go_wp2;go_ret;exact ⟨rfl,hb⟩
 clear hf hB;go_enter func77,ntmps77
 go_wp2_with fail;refine hI.mono ?_;rintro e w' ⟨rfl,hb⟩;go_wp2;go_ret;exact ⟨rfl,hb⟩
theorem Qgc (g:Nat) (p:Nat→Bool) (hf:Qhz g p) (most:Nat) (s:ByteArray) (w:World) :
  Calls prog 223 #[.string s,.int .i64 most,.func (.func g) #[] #[]] w fun e w'=>e=.returned (.bool (Qem p most s))∧Below w.heap.size w w':=by
 have b0:Below w.heap.size w (w.alloc (.cells #[.func (.func g) #[] #[]] 157)):=(Below.refl _ w).alloc (Nat.le_refl _) _;have hc:=Qe0 g p hf w.heap.size s (w.alloc (.cells #[.func (.func g) #[] #[]] 157)) (by simp) (by simp)
 have Hc:Hid (Calls _ _ _ _ _):=hc;clear hf hc;by_cases h0:s.size=0
 ·have e0:s.toList=[]:=by
   rw [Lib.toList_data];exact List.eq_nil_of_length_eq_zero h0
  have e1:Qem p most s=false:=by simp [Qem,h0]
  rw [e1];go_enter func223,ntmps223
  go_wp2;go_ret;exact ⟨rfl,b0⟩
 have e0:¬ s.toList=[]:=by
  rw [Lib.toList_data];intro e;exact h0 (congrArg List.length e)
 have e0':s.toList.isEmpty=false:=by simpa using e0
 by_cases h1:s.size≤most
 ·have h1':decide ((s.size:Int)≤most)=true:=by simp;omega
  have e1:Qem p most s=!decide (0≤QaX p s s.size 0):=by
   have d1:decide (s.size≠0)=true:=by simp [h0]
   have d2:decide (s.size≤most)=true:=by simp [h1]
   have d3:decide (QaX p s s.size 0<0)=!decide (0≤QaX p s s.size 0):=by
    by_cases hh:0≤QaX p s s.size 0
    ·rw [decide_eq_true hh,decide_eq_false (by omega)];rfl
    ·rw [decide_eq_false hh,decide_eq_true (by omega)];rfl
   unfold Qem;rw [d1,d2,d3];rfl
  rw [e1];go_enter func223,ntmps223
  go_wp2_with fail;refine Hc.out.mono ?_;rintro e w' ⟨rfl,hb⟩;go_wp2;go_ret;exact ⟨rfl,b0.trans (hb.mono (by simp))⟩
 ·have h1':decide ((s.size:Int)≤most)=false:=by simp;omega
  have e1:Qem p most s=false:=by simp [Qem,h1]
  rw [e1];go_enter func223,ntmps223
  go_wp2;go_ret;exact ⟨rfl,b0⟩
theorem isCode_any (s:ByteArray) (w:World) :
  Calls prog 196 #[.string s] w fun e w'=>e=.returned (.bool (QhT s))∧Below w.heap.size w w':=by
 go_enter func196,ntmps196
 go_wp2_with fail;refine (Qgc _ digR digit_fits 6 s w).mono ?_;rintro e w' ⟨rfl,hb⟩;go_wp2;go_ret;exact ⟨rfl,hb⟩
theorem isName_any (s:ByteArray) (w:World) :
  Calls prog 197 #[.string s] w fun e w'=>e=.returned (.bool (isNameB s))∧Below w.heap.size w w':=by
 go_enter func197,ntmps197
 go_wp2_with fail;refine (Qgc _ namR name_fits 24 s w).mono ?_;rintro e w' ⟨rfl,hb⟩;go_wp2;go_ret;exact ⟨rfl,hb⟩
end
section
open Go.RowKit Go.Lib Go.Proofs.Tryz
theorem ch_ne {a b:ByteArray} (h:a≠b):(a.toList == b.toList)=false:=by
 rw [beq_eq_false_iff_ne];intro e;rw [Lib.toList_data,Lib.toList_data] at e;exact h (WideShapes.bytes_inj e)
theorem ch_empty {a:ByteArray} (h:a.size=0):a.toList=[]:=by
 rw [Lib.toList_data];exact List.eq_nil_of_length_eq_zero h
theorem ch_some {a:ByteArray} (h:a.size≠0):¬ a.toList=[]:=by
 rw [Lib.toList_data];exact fun e=>h (congrArg List.length e)
theorem QdZ {B:Nat} {a w:World} (h:Below B a w) (n:Nat):Below B a (w.drewN n):=h.trans ⟨rfl,rfl,rfl,Nat.le_refl _,fun _ _=>rfl⟩
structure Ac where
 code:ByteArray
 name:ByteArray
 kind:Int
 par:ByteArray
 mon:Bool
def Ac.cells (a:Ac):Array Value:=#[.string a.code,.string a.name,.int .i64 a.kind,.string a.par,.bool a.mon]
def ac0:Ac:=⟨ByteArray.empty,ByteArray.empty,0,ByteArray.empty,false⟩
def chE (n:Int):Value:=if n=0 then .nilIface else .iface 66 (.int .i64 n)
theorem QbD:chE 0=.nilIface:=rfl
theorem QaA {n:Int} (h:n≠0):chE n=.iface 66 (.int .i64 n):=if_neg h
structure AcAt (w:World) (b off:Nat) (a:Ac):Prop where
 c0:w.cell? ⟨b,off,none⟩=some (.string a.code)
 c1:w.cell? ⟨b,off+1,none⟩=some (.string a.name)
 c2:w.cell? ⟨b,off+2,none⟩=some (.int .i64 a.kind)
 c3:w.cell? ⟨b,off+3,none⟩=some (.string a.par)
 c4:w.cell? ⟨b,off+4,none⟩=some (.bool a.mon)
theorem AcAt.below {w w':World} {b off n:Nat} {a:Ac} (h:AcAt w b off a) (hb:Below n w w') (hn:b<n):AcAt w' b off a:=
 ⟨(hb.cell (p:=⟨b,off,none⟩) hn).trans h.c0,(hb.cell (p:=⟨b,off+1,none⟩) hn).trans h.c1,(hb.cell (p:=⟨b,off+2,none⟩) hn).trans h.c2,(hb.cell (p:=⟨b,off+3,none⟩) hn).trans h.c3,(hb.cell (p:=⟨b,off+4,none⟩) hn).trans h.c4⟩
theorem AcAt.new (w:World) (a:Ac) (t:TypeId):AcAt (w.alloc (.cells a.cells t)) w.heap.size 0 a:=
 ⟨by simp [Ac.cells],by simp [Ac.cells],by simp [Ac.cells],by simp [Ac.cells],by simp [Ac.cells]⟩
def AcsAt (w:World) (b off:Nat) (l:List Ac):Prop:=∀ k,k<l.length→AcAt w b (off+k*5) (l.getD k ac0)
structure Qcm (w:World) (a:Option Addr) (l:List Ac) (cap:Nat):Prop where
 cap:l.length≤cap
 lies:l=[]∨∃ b off,a=some ⟨b,off,none⟩∧b<w.heap.size∧AcsAt w b off l
theorem Qcm.below {w w':World} {a:Option Addr} {l:List Ac} {cap:Nat} (h:Qcm w a l cap) (hb:Below w.heap.size w w'):Qcm w' a l cap:=by
 refine ⟨h.cap,?_⟩;rcases h.lies with h | ⟨b,off,e,hlt,hc⟩
 ·exact .inl h
 ·exact .inr ⟨b,off,e,by have:=hb.size;omega,fun k hk=>(hc k hk).below hb hlt⟩
theorem Qcm.take {w:World} {a:Option Addr} {l:List Ac} {cap:Nat} (h:Qcm w a l cap) (k:Nat):Qcm w a (l.take k) cap:=by
 refine ⟨by have:=h.cap;simp;omega,?_⟩
 rcases h.lies with h | ⟨b,off,e,hlt,hc⟩
 ·exact .inl (by rw [h];simp)
 ·refine .inr ⟨b,off,e,hlt,fun j hj=>?_⟩
  simp only [List.length_take] at hj
  have:(l.take k).getD j ac0=l.getD j ac0:=by
   rw [List.getD_eq_getElem?_getD,List.getD_eq_getElem?_getD,List.getElem?_take,if_pos (by omega)]
  rw [this];exact hc j (by omega)
theorem acs_drop (l:List Ac) (k:Nat) (h:k<l.length):l.drop k=l.getD k ac0 :: l.drop (k+1):=by
 rw [List.drop_eq_getElem_cons h,List.getD_eq_getElem?_getD,List.getElem?_eq_getElem h];rfl
def QcR (p:Ac→Bool):Nat→List Ac→Int
 | _,[]=>-1
 | k,a :: l=>if p a=true then (k:Int) else QcR p (k+1) l
def QgN (p:Ac→Bool) (l:List Ac):Int:=QcR p 0 l
structure Tells (g B:Nat) (p:Ac→Bool) (w:World):Prop where
 eg:∀ args W,(callFunc g args).run prog W=.ok (.enter g args) W
 call:∀ x W,Below w.heap.size w W→Calls prog g #[.agg x.cells,.pointer (some ⟨B,0,none⟩)] W fun e w'=>e=.returned (.bool (p x))∧Below W.heap.size W w'
set_option maxHeartbeats 1000000 in
theorem chIdx_some (g B:Nat) (p:Ac→Bool) (b off cap:Nat) (l:List Ac) (w:World) (hp:Tells g B p w) (hb:b<w.heap.size) (hlen:l.length≤1000) (hc:AcsAt w b off l) :
  Calls prog 113 #[.slice (some ⟨b,off,none⟩) l.length cap,.func (.func g) #[] #[.pointer (some ⟨B,0,none⟩)]] w fun e w'=>e=.returned (.int .i64 (QgN p l))∧Below w.heap.size w w':=by
 have eg:=hp.eg;have Hp:Hid (Tells g B p w):=hp;have Hc:Hid (AcsAt w b off l):=hc;have Hlen:(l.length:Int)≤1000:=by omega
 clear hp hc;obtain ⟨res,hres⟩:∃ res,QgN p l=res:=⟨_,rfl⟩;have Hres:Hid (QgN p l=res):=hres;rw [hres];clear hres;go_enter func113,ntmps113
 go_wp2;go_loopw [8] (fun i wr=>∃ k:Nat,k≤l.length∧i=.int .i64 k∧Hid (QcR p k (l.drop k)=res)∧Below w.heap.size w wr) (fun i _=>l.length - (RowKit.intOf i).toNat)
 case atStart=>exact ⟨0,Nat.zero_le _,rfl,Hres.out,Below.refl _ _⟩
 case round=>
  obtain ⟨k,hk,rfl,H,BW⟩:=hrel;by_cases hlt:k<l.length
  ·have hn:=(Hc.out k hlt).below BW hb;have hcall:=Hp.out.call (l.getD k ac0) wr BW;have E:Hid ((if p (l.getD k ac0)=true then (k:Int) else QcR p (k+1) (l.drop (k+1)))=res):=by
    have:=H.out
    rw [acs_drop l k hlt] at this;exact this
   clear H;generalize l.getD k ac0=a at *
   obtain ⟨a0,a1,a2,a3,a4⟩:=a;obtain ⟨c0,c1,c2,c3,c4⟩:=hn;simp only [Ac.cells] at c0 c1 c2 c3 c4 hcall;have i0:(0:Int)≤k:=by omega
   have i1:(k:Int)<l.length:=by omega
   cases hq:p ⟨a0,a1,a2,a3,a4⟩
   ·rw [hq] at hcall;have HN:Hid (QcR p (k+1) (l.drop (k+1))=res):=by
     have:=E.out;rw [if_neg (by rw [hq];simp)] at this;exact this
    go_wp2_with (go_at_fn g;refine hcall.mono ?_;rintro e w' ⟨rfl,hb'⟩);go_roundw
    case rel=>exact ⟨k+1,by omega,by go_num,HN,BW.trans (hb'.mono BW.size)⟩
    case measure=>simp [RowKit.intOf];omega
   ·rw [hq] at hcall;have er:res=k:=by rw [← E.out,if_pos hq]
    subst er;go_wp2_with (go_at_fn g;refine hcall.mono ?_;rintro e w' ⟨rfl,hb'⟩);go_ret;exact ⟨rfl,BW.trans (hb'.mono BW.size)⟩
  ·have hk2:k=l.length:=by omega
   subst hk2;have er:res = -1:=by rw [← H.out,List.drop_length];rfl
   subst er;go_wp2;go_ret;exact ⟨rfl,BW⟩
theorem chIdx_none (a:Option Addr) (cap:Nat) (f:Value) (w:World) :
  Calls prog 113 #[.slice a 0 cap,f] w fun e w'=>e=.returned (.int .i64 (-1))∧Below w.heap.size w w':=by
 go_enter func113,ntmps113
 go_wp2;refine wp_loop_rounds 1 ?_;rw [rounds_succ];go_wp2;go_ret;exact ⟨rfl,Below.refl _ _⟩
theorem chIdx_any (g B:Nat) (p:Ac→Bool) (a:Option Addr) (cap:Nat) (l:List Ac) (w:World) (hp:Tells g B p w) (hlen:l.length≤1000) (h:Qcm w a l cap) :
  Calls prog 113 #[.slice a l.length cap,.func (.func g) #[] #[.pointer (some ⟨B,0,none⟩)]] w fun e w'=>e=.returned (.int .i64 (QgN p l))∧Below w.heap.size w w':=by
 rcases h.lies with rfl | ⟨b,off,rfl,hlt,hc⟩
 ·exact chIdx_none a cap _ w
 ·exact chIdx_some g B p b off cap l w hp hlt hlen hc
def QaG (c:ByteArray) (a:Ac):Bool:=decide (a.code=c)
theorem index1_any (x:Ac) (c:ByteArray) (B:Nat) (w:World) (hB:w.cell? ⟨B,0,none⟩=some (.string c)) (hlt:B<w.heap.size) :
  Calls prog 114 #[.agg x.cells,.pointer (some ⟨B,0,none⟩)] w fun e w'=>e=.returned (.bool (QaG c x))∧Below w.heap.size w w':=by
 obtain ⟨a0,a1,a2,a3,a4⟩:=x;have b0:Below w.heap.size w (w.alloc (.cells #[.string a0,.string a1,.int .i64 a2,.string a3,.bool a4] 48)):=(Below.refl _ w).alloc (Nat.le_refl _) _;have hB2:(w.alloc (.cells #[.string a0,.string a1,.int .i64 a2,.string a3,.bool a4] 48)).cell? ⟨B,0,none⟩=some (.string c):=(b0.cell (p:=⟨B,0,none⟩) hlt).trans hB;simp only [Ac.cells];by_cases h:a0=c
 ·subst h;have e1:QaG a0 ⟨a0,a1,a2,a3,a4⟩=true:=by simp [QaG]
  rw [e1];go_enter func114,ntmps114
  go_wp2;go_ret;exact ⟨rfl,b0⟩
 ·have e1:QaG c ⟨a0,a1,a2,a3,a4⟩=false:=by simp [QaG,h]
  have h':=ch_ne h;rw [e1];go_enter func114,ntmps114
  go_wp2;go_ret;exact ⟨by rw [← h'];rfl,b0⟩
theorem index1_tells (c:ByteArray) (B:Nat) (w:World) (hB:w.cell? ⟨B,0,none⟩=some (.string c)) (hlt:B<w.heap.size):Tells 114 B (QaG c) w:=
 ⟨fun args W=>Qf9 func114 (by kernel_rfl) ⟨_,rfl⟩ args W,fun x W hW=>index1_any x c B W ((hW.cell (p:=⟨B,0,none⟩) hlt).trans hB) (by have:=hW.size;omega)⟩
theorem QhI (a:Option Addr) (cap:Nat) (l:List Ac) (c:ByteArray) (w:World) (hlen:l.length≤1000) (h:Qcm w a l cap) :
  Calls prog 74 #[.slice a l.length cap,.string c] w fun e w'=>e=.returned (.int .i64 (QgN (QaG c) l))∧Below w.heap.size w w':=by
 have b0:Below w.heap.size w (w.alloc (.cells #[.string c] 9)):=(Below.refl _ w).alloc (Nat.le_refl _) _;have hc:=chIdx_any 114 w.heap.size (QaG c) a cap l (w.alloc (.cells #[.string c] 9)) (index1_tells c w.heap.size _ (by simp) (by simp)) hlen (h.below b0)
 clear h;go_enter func74,ntmps74
 go_wp2_with fail;refine hc.mono ?_;rintro e w' ⟨rfl,hb⟩;go_wp2;go_ret;exact ⟨rfl,b0.trans (hb.mono (by simp))⟩
theorem QfY (p:Ac→Bool):∀ (l:List Ac) (k:Nat),0≤QcR p k l→∃ j,j<l.length∧QcR p k l=((k+j:Nat):Int)∧p (l.getD j ac0)=true∧∀ i,i<j→p (l.getD i ac0)=false
 | [],k,h=>by simp [QcR] at h
 | a :: l,k,h=>by
  by_cases hp:p a=true
  ·refine ⟨0,by simp,?_,?_,fun i hi=>absurd hi (Nat.not_lt_zero _)⟩
   ·rw [QcR,if_pos hp];rfl
   ·simpa using hp
  ·rw [QcR,if_neg hp] at h ⊢;obtain ⟨j,h1,h2,h3,h4⟩:=QfY p l (k+1) h;refine ⟨j+1,by simpa using h1,by rw [h2];congr 1;omega,by simpa using h3,fun i hi=>?_⟩
   cases i with
   | zero=>simpa using hp
   | succ i=>simpa using h4 i (by omega)
theorem idxP_some {p:Ac→Bool} {l:List Ac} (h:0≤QgN p l):∃ j,j<l.length∧QgN p l=(j:Int)∧p (l.getD j ac0)=true∧∀ i,i<j→p (l.getD i ac0)=false:=by
 obtain ⟨j,h1,h2,h3,h4⟩:=QfY p l 0 h;exact ⟨j,h1,by rw [QgN,h2];congr 1;omega,h3,h4⟩
def QcM (pre:List Ac) (x:Ac):Int:=
 if x.par.size=0 then 0
 else if QgN (QaG x.par) pre<0 then 6
 else if (pre.getD (QgN (QaG x.par) pre).toNat ac0).kind≠x.kind then 12 else 0
set_option maxHeartbeats 1000000 in
theorem QhC (a:Option Addr) (cap:Nat) (pre:List Ac) (x:Ac) (w:World) (hlen:pre.length≤1000) (h:Qcm w a pre cap) :
  Calls prog 198 #[.slice a pre.length cap,.agg x.cells] w fun e w'=>e=.returned (chE (QcM pre x))∧Below w.heap.size w w':=by
 have hn:=AcAt.new w x 48;have b0:Below w.heap.size w (w.alloc (.cells x.cells 48)):=(Below.refl _ w).alloc (Nat.le_refl _) _;have hI:=QhI a cap pre x.par (w.alloc (.cells x.cells 48)) hlen (h.below b0);obtain ⟨res,hres⟩:∃ res,QcM pre x=res:=⟨_,rfl⟩;have Hres:Hid (QcM pre x=res):=hres;rw [hres];clear hres;obtain ⟨x0,x1,x2,x3,x4⟩:=x;simp only [Ac.cells] at hn hI b0 ⊢;have hn0:=hn;obtain ⟨c0,c1,c2,c3,c4⟩:=hn
 simp only [Nat.zero_add] at c0 c1 c2 c3 c4;by_cases h0:x3.size=0
 ·have e0:=ch_empty h0;have er:res=0:=by rw [← Hres.out];simp [QcM,h0]
  subst er;go_enter func198,ntmps198
  go_wp2;go_ret;exact ⟨rfl,b0⟩
 have e0:=ch_some h0;have e0':x3.toList.isEmpty=false:=by simpa using e0
 have HI:Hid (Calls _ _ _ _ _):=hI;clear hI;go_enter func198,ntmps198
 go_wp2_with fail;refine HI.out.mono ?_;rintro e w1 ⟨rfl,hb1⟩;have hsz:w.heap.size+1≤w1.heap.size:=by have:=hb1.size;simpa using this
 have B1:=b0.trans (hb1.mono (by simp))
 have hn1:=hn0.below hb1 (by simp)
 clear c0 c1 c2 c3 c4 hn0 HI hb1;by_cases h1:QgN (QaG x3) pre<0
 ·have er:res=6:=by rw [← Hres.out];simp [QcM,h0,h1]
  subst er;go_wp2;go_ret;exact ⟨rfl,B1⟩
 obtain ⟨j,hj,ej,hj2,hj3⟩:=idxP_some (p:=QaG x3) (l:=pre) (by omega)
 have er:res=if (pre.getD j ac0).kind≠x2 then 12 else 0:=by
  rw [← Hres.out];unfold QcM;simp only;rw [if_neg h0,if_neg h1,ej];rfl
 have ER:Hid (res=if (pre.getD j ac0).kind≠x2 then 12 else 0):=er
 rw [ej];clear h1 ej hj2 hj3 er Hres;rcases h.lies with rfl | ⟨b,off,rfl,hlt,hc⟩
 ·simp at hj
 have hp:=(hc j hj).below B1 hlt;clear hc h;generalize pre.getD j ac0=y at *
 obtain ⟨y0,y1,y2,y3,y4⟩:=y;obtain ⟨c0,c1,c2,c3,c4⟩:=hn1;obtain ⟨d0,d1,d2,d3,d4⟩:=hp;simp only [Nat.zero_add] at c0 c1 c2 c3 c4 d0 d1 d2 d3 d4;have i0:(0:Int)≤j:=by omega
 have i1:(j:Int)<pre.length:=by omega
 by_cases h2:y2=x2
 ·subst h2;have er:res=0:=by rw [ER.out];simp
  subst er;go_wp2;go_quiet (fail)
  go_wp2;go_ret;exact ⟨rfl,QdZ B1 _⟩
 ·have er:res=12:=by rw [ER.out];simp [h2]
  subst er;have h2':(y2 != x2)=true:=by simp [h2]
  go_wp2;go_quiet (fail)
  go_wp2;go_ret;exact ⟨rfl,QdZ B1 _⟩
end
section
open Go.RowKit Go.Lib Go.Proofs.Tryz
def leB (a b:ByteArray):Bool:=Op.bytesLess a.toList b.toList || a.toList == b.toList
def Qbm (pre:List Ac) (x:Ac):Int:=
 if QhT x.code=false∨isNameB x.name=false then 2
 else if x.kind<1∨5<x.kind then 1
 else if pre.length≠0∧leB x.code (pre.getD (pre.length - 1) ac0).code=true then 5
 else QcM pre x
def chGo:List Ac→List Ac→Int
 | _,[]=>0
 | pre,x :: r=>if Qbm pre x≠0 then Qbm pre x else chGo (pre++[x]) r
def QaC (l:List Ac):Int:=if 60<l.length then 4 else chGo [] l
set_option maxHeartbeats 2000000 in
theorem checkNext_any (a:Option Addr) (cap:Nat) (pre:List Ac) (x:Ac) (w:World) (hlen:pre.length≤1000) (h:Qcm w a pre cap) :
  Calls prog 157 #[.slice a pre.length cap,.agg x.cells] w fun e w'=>e=.returned (chE (Qbm pre x))∧Below w.heap.size w w':=by
 have hn:=AcAt.new w x 48;have b0:Below w.heap.size w (w.alloc (.cells x.cells 48)):=(Below.refl _ w).alloc (Nat.le_refl _) _;have hsz:(w.alloc (.cells x.cells 48)).heap.size=w.heap.size+1:=by simp
 have HP:Hid (∀ W,Below w.heap.size w W→Calls prog 198 #[.slice a pre.length cap,.agg x.cells] W fun e w'=>e=.returned (chE (QcM pre x))∧Below w.heap.size w w'):=fun W hW=>by
  refine (QhC a cap pre x W hlen (h.below hW)).mono ?_;rintro e w' ⟨rfl,hb⟩;exact ⟨rfl,hW.trans (hb.mono hW.size)⟩
 have HL:Hid (pre.length≠0→∃ b off,a=some ⟨b,off,none⟩∧b<w.heap.size∧AcsAt w b off pre):=fun h0=>by
  rcases h.lies with rfl | h
  ·exact absurd rfl h0
  ·exact h
 clear h;obtain ⟨res,hres⟩:∃ res,Qbm pre x=res:=⟨_,rfl⟩;have Hres:Hid (Qbm pre x=res):=hres;rw [hres];clear hres;obtain ⟨x0,x1,x2,x3,x4⟩:=x;simp only [Ac.cells] at hn b0 hsz HP ⊢;have hn0:=hn;obtain ⟨c0,c1,c2,c3,c4⟩:=hn;simp only [Nat.zero_add] at c0 c1 c2 c3 c4;go_enter func157,ntmps157
 go_wp2_with fail;refine (isCode_any x0 _).mono ?_;rintro e w1 ⟨rfl,hb1⟩;rw [hsz] at hb1;have hs1:=hb1.size;rw [hsz] at hs1;have B1:=b0.trans (hb1.mono (Nat.le_succ _));have hn1:=hn0.below hb1 (Nat.lt_succ_self _);clear c0 c1 c2 c3 c4 hn0 hb1 b0 hsz;cases h1:QhT x0
 ·have er:res=2:=by rw [← Hres.out];simp [Qbm,h1]
  subst er;go_wp2;go_ret;exact ⟨rfl,B1⟩
 have hn10:=hn1;obtain ⟨c0,c1,c2,c3,c4⟩:=hn1;simp only [Nat.zero_add] at c0 c1 c2 c3 c4;go_wp2_with fail;refine (isName_any x1 _).mono ?_;rintro e w2 ⟨rfl,hb2⟩;have hs2:=hb2.size;have B2:=B1.trans (hb2.mono (by omega))
 have hn2:=hn10.below hb2 (by omega)
 clear c0 c1 c2 c3 c4 hn10 hb2 B1;cases h2:isNameB x1
 ·have er:res=2:=by rw [← Hres.out];simp [Qbm,h2]
  subst er;go_wp2;go_ret;exact ⟨rfl,B2⟩
 obtain ⟨c0,c1,c2,c3,c4⟩:=hn2;simp only [Nat.zero_add] at c0 c1 c2 c3 c4;by_cases h3:x2<1
 ·have er:res=1:=by rw [← Hres.out];simp [Qbm,h1,h2,h3]
  subst er;go_wp2;go_ret;exact ⟨rfl,B2⟩
 by_cases h4:5<x2
 ·have er:res=1:=by rw [← Hres.out];simp [Qbm,h1,h2,h4]
  subst er;go_wp2;go_ret;exact ⟨rfl,B2⟩
 have er:res=if pre.length≠0∧leB x0 (pre.getD (pre.length - 1) ac0).code=true then 5 else QcM pre ⟨x0,x1,x2,x3,x4⟩:=by
  rw [← Hres.out];unfold Qbm;rw [if_neg (by simp [h1,h2]),if_neg (by simp;omega)]
 have ER:Hid (res=if pre.length≠0∧leB x0 (pre.getD (pre.length - 1) ac0).code=true then 5 else QcM pre ⟨x0,x1,x2,x3,x4⟩):=er
 clear er Hres;by_cases h5:pre.length=0
 ·have er:QcM pre ⟨x0,x1,x2,x3,x4⟩=res:=by rw [ER.out,if_neg (fun h=>h.1 h5)]
  have HP2:=HP.out;rw [er,h5] at HP2;have HP3:Hid _:=HP2;rw [h5];clear HP HP2 HL ER er;go_wp2_with fail;go_quiet (fail)
  go_wp2_with fail;refine (HP3.out _ (QdZ B2 _)).mono ?_;rintro e w3 ⟨rfl,B3⟩;go_wp2;go_ret;exact ⟨rfl,B3⟩
 ·obtain ⟨b,off,rfl,hlt,hc⟩:=HL.out h5;obtain ⟨m,hm⟩:∃ m,pre.length=m+1:=⟨pre.length - 1,by omega⟩
  have hp:=(hc m (by omega)).below B2 hlt
  have ER2:Hid (res=if leB x0 (pre.getD m ac0).code=true then 5 else QcM pre ⟨x0,x1,x2,x3,x4⟩):=by
   unfold Hid;rw [ER.out,hm,show m+1 - 1=m by omega];simp
  clear ER HL hc;generalize pre.getD m ac0=y at *
  obtain ⟨y0,y1,y2,y3,y4⟩:=y;obtain ⟨d0,d1,d2,d3,d4⟩:=hp;simp only at d0 d1 d2 d3 d4;have hle:(m:Int)+1≤1000:=by omega
  have hm0:(0:Int)≤m:=by omega
  have hm1:(m:Int)<(m:Int)+1:=by omega
  have hmw:IntKind.i64.wrap (m:Int)=m:=by rw [IntKind.wrap_i64];omega
  rw [hm] at HP ⊢;cases b1:Op.bytesLess x0.toList y0.toList
  ·cases b2:(x0.toList == y0.toList)
   ·have er:QcM pre ⟨x0,x1,x2,x3,x4⟩=res:=by rw [ER2.out,if_neg (by simp only [leB,b1,b2];simp)]
    rw [er] at HP;go_wp2_with fail;go_quiet (fail)
    go_wp2_with fail;refine (HP.out _ (QdZ B2 _)).mono ?_;rintro e w3 ⟨rfl,B3⟩;go_wp2;go_ret;exact ⟨rfl,B3⟩
   ·have er:res=5:=by rw [ER2.out,if_pos (by simp only [leB,b1,b2];simp)]
    subst er;clear HP;go_wp2_with fail;go_quiet (fail)
    go_wp2;go_ret;exact ⟨rfl,QdZ B2 _⟩
  ·have er:res=5:=by rw [ER2.out,if_pos (by simp only [leB,b1];simp)]
   subst er;clear HP;go_wp2_with fail;go_quiet (fail)
   go_wp2;go_ret;exact ⟨rfl,QdZ B2 _⟩
theorem chCheck_full (a:Option Addr) (len cap:Nat) (w:World) (h:60<len) :
  Calls prog 110 #[.slice a len cap] w fun e w'=>e=.returned (chE 4)∧Below w.heap.size w w':=by
 have h':(60:Int)<len:=by omega
 go_enter func110,ntmps110
 go_wp2;go_ret;exact ⟨rfl,Below.refl _ _⟩
theorem Qf2 (a:Option Addr) (cap:Nat) (w:World) :
  Calls prog 110 #[.slice a 0 cap] w fun e w'=>e=.returned (chE 0)∧Below w.heap.size w w':=by
 go_enter func110,ntmps110
 go_wp2;refine wp_loop_rounds 1 ?_;rw [rounds_succ];go_wp2;go_ret;exact ⟨rfl,Below.refl _ _⟩
set_option maxHeartbeats 2000000 in
theorem chCheck_some (b off cap:Nat) (l:List Ac) (w:World) (hb:b<w.heap.size) (hlen:l.length≤60) (hcap:l.length≤cap) (hc:AcsAt w b off l) :
  Calls prog 110 #[.slice (some ⟨b,off,none⟩) l.length cap] w fun e w'=>e=.returned (chE (chGo [] l))∧Below w.heap.size w w':=by
 have Hlen:(l.length:Int)≤60:=by omega
 have Hsl:Hid (∀ k W,Below w.heap.size w W→Qcm W (some ⟨b,off,none⟩) (l.take k) cap):=fun k W hW=>(Qcm.below ⟨hcap,.inr ⟨b,off,rfl,hb,hc⟩⟩ hW).take k
 have Hc:Hid (AcsAt w b off l):=hc;clear hc;obtain ⟨res,hres⟩:∃ res,chGo [] l=res:=⟨_,rfl⟩;have Hres:Hid (chGo [] l=res):=hres;rw [hres];clear hres;go_enter func110,ntmps110
 go_wp2;go_loopw [12] (fun i wr=>∃ k:Nat,k≤l.length∧i=.int .i64 k∧Hid (chGo (l.take k) (l.drop k)=res)∧Below w.heap.size w wr) (fun i _=>l.length - (RowKit.intOf i).toNat)
 case atStart=>exact ⟨0,Nat.zero_le _,rfl,by unfold Hid;simpa using Hres.out,Below.refl _ _⟩
 case round=>
  obtain ⟨k,hk,rfl,H,BW⟩:=hrel;by_cases hlt:k<l.length
  ·have hn:=(Hc.out k hlt).below BW hb;have E:Hid ((if Qbm (l.take k) (l.getD k ac0)≠0 then Qbm (l.take k) (l.getD k ac0) else chGo (l.take (k+1)) (l.drop (k+1)))=res):=by
    have:=H.out
    rw [acs_drop l k hlt] at this;have e2:l.take k++[l.getD k ac0]=l.take (k+1):=by
     rw [List.take_succ_eq_append_getElem hlt,List.getD_eq_getElem?_getD,List.getElem?_eq_getElem hlt];rfl
    unfold Hid;rw [← e2];exact this
   have hcall:∀ W,Below w.heap.size w W→Calls prog 157 #[.slice (some ⟨b,off,none⟩) k cap,.agg (l.getD k ac0).cells] W fun e w'=>e=.returned (chE (Qbm (l.take k) (l.getD k ac0)))∧Below w.heap.size w w':=fun W hW=>by
    have:=checkNext_any (some ⟨b,off,none⟩) cap (l.take k) (l.getD k ac0) W (by simp;omega) (Hsl.out k W hW)
    rw [show (l.take k).length=k by simp;omega] at this
    refine this.mono ?_;rintro e w' ⟨rfl,hb'⟩;exact ⟨rfl,hW.trans (hb'.mono hW.size)⟩
   clear H;obtain ⟨bad,hbad⟩:∃ bad,Qbm (l.take k) (l.getD k ac0)=bad:=⟨_,rfl⟩;rw [hbad] at hcall E;clear hbad;generalize l.getD k ac0=x at *
   obtain ⟨x0,x1,x2,x3,x4⟩:=x;obtain ⟨c0,c1,c2,c3,c4⟩:=hn;simp only [Ac.cells] at c0 c1 c2 c3 c4 hcall;have Hcall:Hid (∀ W,_):=hcall;clear hcall;have i0:(0:Int)≤k:=by omega
   have i1:(k:Int)<l.length:=by omega
   have i2:(k:Int)≤cap:=by omega
   have B2:=BW.alloc BW.size (.cells #[.string x0,.string x1,.int .i64 x2,.string x3,.bool x4] 48);by_cases hb0:bad=0
   ·subst hb0;have HN:Hid (chGo (l.take (k+1)) (l.drop (k+1))=res):=by
     have:=E.out;rw [if_neg (by simp)] at this;exact this
    rw [QbD] at Hcall;go_wp2_with fail;go_region_with (go_at_call 157;refine (Hcall.out _ B2.drew).mono ?_;rintro e w' ⟨rfl,hb'⟩)
    all_goals
     go_wp2;go_roundw
     case rel=>exact ⟨k+1,by omega,by go_num,HN,hb'⟩
     case measure=>simp [RowKit.intOf];omega
   ·have er:res=bad:=by rw [← E.out,if_pos hb0]
    subst er;have hE:=QaA hb0;rw [hE] at Hcall;have HE:Hid (chE res=_):=hE;clear hE;go_wp2_with fail;go_region_with (go_at_call 157;refine (Hcall.out _ B2.drew).mono ?_;rintro e w' ⟨rfl,hb'⟩)
    all_goals
     go_wp2;go_ret;exact ⟨by rw [HE.out];rfl,hb'⟩
  ·have hk2:k=l.length:=by omega
   subst hk2;have er:res=0:=by rw [← H.out,List.drop_length];rfl
   subst er;go_wp2;go_ret;exact ⟨rfl,BW⟩
theorem QhR (a:Option Addr) (cap:Nat) (l:List Ac) (w:World) (h:Qcm w a l cap) :
  Calls prog 110 #[.slice a l.length cap] w fun e w'=>e=.returned (chE (QaC l))∧Below w.heap.size w w':=by
 unfold QaC;by_cases h60:60<l.length
 ·rw [if_pos h60];exact chCheck_full a l.length cap w h60
 ·rw [if_neg h60];rcases h.lies with rfl | ⟨b,off,rfl,hlt,hc⟩
  ·exact Qf2 a cap w
  ·exact chCheck_some b off cap l w hlt (by omega) h.cap hc
theorem Qcy {l:List Ac} (h:QaC l=0):l.length≤60:=by
 unfold QaC at h;split at h
 ·omega
 ·omega
end
section
open Go.RowKit Go.Lib Go.Proofs.Tryz
def Qck (c:ByteArray):Nat→List ByteArray→Int
 | _,[]=>-1
 | k,x :: l=>if x=c then (k:Int) else Qck c (k+1) l
def memB (c:ByteArray) (l:List ByteArray):Bool:=l.any fun x=>decide (x=c)
theorem QhG (c:ByteArray):∀ (l:List ByteArray) (k:Nat),decide (0≤Qck c k l)=memB c l
 | [],k=>by simp [Qck,memB]
 | x :: l,k=>by
  have ih:=QhG c l (k+1);by_cases h:x=c
  ·rw [Qck,if_pos h];simp [memB,h]
  ·rw [Qck,if_neg h,ih];simp [memB,h]
theorem txt_drop (l:List ByteArray) (k:Nat) (h:k<l.length):l.drop k=l.getD k ByteArray.empty :: l.drop (k+1):=by
 rw [List.drop_eq_getElem_cons h,List.getD_eq_getElem?_getD,List.getElem?_eq_getElem h];rfl
def Qb6 (w:World) (n:Nat) (v:Value) (fs:List ByteArray):Prop:=w.ownsRow n 9 1 v fs.length (fs.map Value.string)
theorem Qb6.form {w:World} {n:Nat} {v:Value} {fs:List ByteArray} (h:Qb6 w n v fs):(v=.slice none 0 0∧fs=[])∨∃ g cap,v=.slice (some ⟨g,0,none⟩) fs.length cap∧n≤g∧g<w.heap.size∧fs.length≤cap∧∀ k,k<fs.length→w.cell? ⟨g,k,none⟩=some (.string (fs.getD k ByteArray.empty)):=by
 rcases h.2 with ⟨rfl,hn⟩ | ⟨g,cap,cur,rfl,hg,hh,hc,_⟩
 ·exact .inl ⟨rfl,List.eq_nil_of_length_eq_zero hn⟩
 ·refine .inr ⟨g,cap,rfl,hg,(Array.getElem?_eq_some_iff.1 hh).1,hc,fun k hk=>?_⟩
  have:=World.ownsRow.cells h (g:=g) rfl k (.string (fs.getD k ByteArray.empty)) (by simp [hk])
  rcases Nat.eq_zero_or_pos k with rfl | hp
  ·simpa [Addr.add] using this
  ·simpa [Addr.add,Nat.ne_of_gt hp] using this
structure Does (g:Nat) (lb:Value×Value) (n0:Nat) (a:Option Addr) (l:List Ac) (cap:Nat) (J:Option Nat→List Nat→World→Prop):Prop where
 eg:∀ args W,(callFunc g args).run prog W=.ok (.enter g args) W
 call:∀ gc pre i W,J gc pre W→i<l.length→pre.length≤i→n0≤W.heap.size→Calls prog g #[.int .i64 (i:Nat),lb.1,lb.2] W fun e w'=>e=.returned (.tuple #[])∧∃ gc',J gc' (pre++[i]) w'∧(gc'=gc∨∃ h,gc'=some h∧W.heap.size≤h)∧W.heap.size≤w'.heap.size∧∀ b,b<W.heap.size→n0≤b→some b≠gc→w'.heap[b]? = W.heap[b]?
 keep:∀ gc pre W W' row,J gc pre W→W.grownBy W' row→n0≤W.heap.size→(∀ b,row=some b→n0≤b∧gc≠some b)→J gc pre W'
 reads:∀ gc pre W,J gc pre W→Qcm W a l cap
 lt:∀ gc pre W,J gc pre W→∀ b,gc=some b→b<W.heap.size
theorem str_info:(prog.info? 9).map (fun i=>(i.zero,i.size,i.bytes))=some (some (.string ByteArray.empty),1,16):=by kernel_rfl
theorem QaZ (W:World) (o:Obj) (b:Nat) (h:b<W.heap.size):(W.alloc o).heap[b]? = W.heap[b]?:=(World.grownBy_alloc W o none).block b h (by simp)
end
end Go.Proofs.YtjifbbdkpanagaaGreatDoor
