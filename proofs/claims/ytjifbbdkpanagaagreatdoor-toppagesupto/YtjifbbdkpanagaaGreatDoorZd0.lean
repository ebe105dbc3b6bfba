/-
  Part of a proof (see the last text).
-/
import Derived.Test.YtjifbbdkpanagaaGreatDoorProg
import Derived.WalkSpells
import Derived.Lib.OthersKept
import Derived.Lib.TrimU
import Derived.Deep.LoopGhost
import Derived.Conc.MuLone
import Derived.Shelf.Abstract
import Derived.BigQuiet
import Derived.Deep.AppendLies
import Derived.Deep.RegionHeldLaw
import Derived.RangeFuncBox
set_option linter.unusedVariables false
set_option linter.unusedSimpArgs false
set_option maxRecDepth 100000
namespace Go.Proofs.YtjifbbdkpanagaaGreatDoor
section
theorem zq0 : type_of% @List.getElem_toArray := @List.getElem_toArray
theorem zq1 : type_of% @List.getElem_cons_succ := @List.getElem_cons_succ
theorem zq2 : type_of% @List.getElem_cons_zero := @List.getElem_cons_zero
theorem zq3 : type_of% @List.setIfInBounds_toArray := @List.setIfInBounds_toArray
theorem zq4 : type_of% @List.set_cons_zero := @List.set_cons_zero
theorem zq5 : type_of% @List.set_cons_succ := @List.set_cons_succ
open Go.RowKit Go.Proofs.Tryz
theorem QfP:∀ a:List UInt8,Op.bytesLess a a=false
 | []=>rfl
 | x :: a=>by
  have:=QfP a
  simp [Op.bytesLess,this]
theorem Qgx:∀ a b:List UInt8,Op.bytesLess a b=false→a≠b→Op.bytesLess b a=true
 | [],[],_,h=>absurd rfl h
 | [],_ :: _,h,_=>by simp [Op.bytesLess] at h
 | _ :: _,[],_,_=>by simp [Op.bytesLess]
 | x :: a,y :: b,h,hne=>by
  simp only [Op.bytesLess,Bool.or_eq_false_iff,decide_eq_false_iff_not,Bool.and_eq_false_iff,beq_eq_false_iff_ne] at h;obtain ⟨h1,h2⟩:=h;by_cases e:x=y
  ·subst e
   have:=Qgx a b (by simpa using h2) (fun e=>hne (by rw [e]))
   simp [Op.bytesLess,this]
  ·have:y<x:=by
    rw [UInt8.lt_iff_toNat_lt] at h1 ⊢
    have:x.toNat≠y.toNat:=fun h=>e (UInt8.toNat_inj.1 h)
    omega
   simp [Op.bytesLess,this]
theorem Qe6:∀ a b c:List UInt8,Op.bytesLess a b=true→Op.bytesLess b c=true→Op.bytesLess a c=true
 | _,[],_,h,_=>by cases ‹List UInt8› <;> simp [Op.bytesLess] at h
 | _,_ :: _,[],_,h=>by simp [Op.bytesLess] at h
 | [],_ :: _,_ :: _,_,_=>by simp [Op.bytesLess]
 | x :: a,y :: b,z :: c,h1,h2=>by
  simp only [Op.bytesLess,Bool.or_eq_true,decide_eq_true_eq,Bool.and_eq_true,beq_iff_eq] at h1 h2 ⊢;simp only [UInt8.lt_iff_toNat_lt] at h1 h2 ⊢;rcases h1 with h1 | ⟨rfl,h1⟩
  ·rcases h2 with h2 | ⟨rfl,h2⟩
   ·exact .inl (by omega)
   ·exact .inl h1
  ·rcases h2 with h2 | ⟨rfl,h2⟩
   ·exact .inl h2
   ·exact .inr ⟨rfl,Qe6 a b c h1 h2⟩
structure Ln where
 acc:ByteArray
 cur:ByteArray
 amt:Int
def Ln.cells (x:Ln):Array Value:=#[.string x.acc,.string x.cur,.int .i64 x.amt]
def ln0:Ln:=⟨ByteArray.empty,ByteArray.empty,0⟩
theorem Qc1 {a b:ByteArray} (h:a.toList=b.toList):a=b:=by
 rw [Lib.toList_data,Lib.toList_data] at h;exact WideShapes.bytes_inj h
def QeU (a b:Ln):Bool:=Op.bytesLess a.acc.toList b.acc.toList || (a.acc.toList == b.acc.toList && Op.bytesLess a.cur.toList b.cur.toList)
def QfN (a b:Ln):Bool:=a.acc.toList == b.acc.toList && a.cur.toList == b.cur.toList
theorem Qbd {a b:Ln}:QfN a b=true↔a.acc=b.acc∧a.cur=b.cur:=by
 unfold QfN;simp only [Bool.and_eq_true,beq_iff_eq];exact ⟨fun h=>⟨Qc1 h.1,Qc1 h.2⟩,fun h=>⟨by rw [h.1],by rw [h.2]⟩⟩
theorem lnLt_eq {a b:Ln} (h:QfN a b=true):QeU a b=false:=by
 obtain ⟨h1,h2⟩:=Qbd.1 h;simp [QeU,h1,h2,QfP]
theorem lnLt_key {a b c:Ln} (h:QfN b c=true):QeU a b=QeU a c∧QeU b a=QeU c a:=by
 obtain ⟨h1,h2⟩:=Qbd.1 h;simp [QeU,h1,h2]
theorem lnLt_total {a b:Ln} (h:QeU a b=false) (hn:QfN a b=false):QeU b a=true:=by
 unfold QeU at *
 unfold QfN at hn;simp only [Bool.or_eq_false_iff,Bool.and_eq_false_iff,beq_eq_false_iff_ne,Bool.or_eq_true,Bool.and_eq_true,beq_iff_eq] at h hn ⊢;obtain ⟨h1,h2⟩:=h;by_cases e:a.acc.toList=b.acc.toList
 ·right
  refine ⟨e.symm,Qgx _ _ ?_ ?_⟩
  ·rcases h2 with h2 | h2
   ·exact absurd e h2
   ·exact h2
  ·rcases hn with hn | hn
   ·exact absurd e hn
   ·exact hn
 ·exact .inl (Qgx _ _ h1 e)
theorem QiE {a b c:Ln} (h1:QeU a b=true) (h2:QeU b c=true):QeU a c=true:=by
 unfold QeU at *
 simp only [Bool.or_eq_true,Bool.and_eq_true,beq_iff_eq] at h1 h2 ⊢;rcases h1 with h1 | ⟨e1,h1⟩
 ·rcases h2 with h2 | ⟨e2,h2⟩
  ·exact .inl (Qe6 _ _ _ h1 h2)
  ·exact .inl (by rw [← e2];exact h1)
 ·rcases h2 with h2 | ⟨e2,h2⟩
  ·exact .inl (by rw [e1];exact h2)
  ·exact .inr ⟨e1.trans e2,Qe6 _ _ _ h1 h2⟩
def Qdk (x:Ln):List Ln→Nat
 | []=>0
 | y :: l=>if QeU y x=true then Qdk x l+1 else 0
def Qd9 (x:Ln):List Ln→List Ln
 | []=>[x]
 | y :: l=>if QeU y x=true then y :: Qd9 x l else if QfN y x=true then ⟨y.acc,y.cur,y.amt+x.amt⟩ :: l else x :: y :: l
def grp (l:List Ln):List Ln:=l.foldl (fun r x=>Qd9 x r) []
theorem grp_snoc (l:List Ln) (x:Ln):grp (l++[x])=Qd9 x (grp l):=by simp [grp]
def Qfo (l:List Ln):Prop:=l.Pairwise fun a b=>QeU a b=true
theorem posL_le (x:Ln):∀ l:List Ln,Qdk x l≤l.length
 | []=>Nat.le_refl _
 | y :: l=>by
  have:=posL_le x l
  rw [Qdk]
  split
  ·simp only [List.length_cons];omega
  ·exact Nat.zero_le _
theorem posL_lt (x:Ln):∀ (l:List Ln) (h:Nat),h<Qdk x l→QeU (l.getD h ln0) x=true
 | [],h,hh=>by simp [Qdk] at hh
 | y :: l,h,hh=>by
  rw [Qdk] at hh;split at hh
  ·rename_i hy
   cases h with
   | zero=>simpa using hy
   | succ h=>simpa using posL_lt x l h (by omega)
  ·omega
theorem posL_at (x:Ln):∀ (l:List Ln),Qdk x l<l.length→QeU (l.getD (Qdk x l) ln0) x=false
 | [],h=>by simp at h
 | y :: l,h=>by
  rw [Qdk] at h ⊢
  split
  ·rename_i hy;rw [if_pos hy] at h;simpa using posL_at x l (by simpa using h)
  ·rename_i hy;simpa using hy
theorem sort_lt {l:List Ln} (h:Qfo l) {i j:Nat} (hij:i<j) (hj:j<l.length):QeU (l.getD i ln0) (l.getD j ln0)=true:=by
 have:=List.pairwise_iff_getElem.1 h i j (by omega) hj hij
 rw [List.getD_eq_getElem?_getD,List.getD_eq_getElem?_getD,List.getElem?_eq_getElem hj,List.getElem?_eq_getElem (by omega:i<l.length)]
 exact this
theorem pos_iff {l:List Ln} (hs:Qfo l) (x:Ln) {h:Nat} (hh:h<l.length):QeU (l.getD h ln0) x=decide (h<Qdk x l):=by
 by_cases hp:h<Qdk x l
 ·rw [posL_lt x l h hp,decide_eq_true hp]
 ·rw [decide_eq_false hp];have hq:=posL_at x l (by omega)
  by_cases e:h=Qdk x l
  ·rw [e];exact hq
  ·cases h2:QeU (l.getD h ln0) x
   ·rfl
   ·have:=QiE (sort_lt hs (by omega:Qdk x l<h) hh) h2
    rw [hq] at this;cases this
theorem QiX (x:Ln):∀ (l:List Ln),Qdk x l<l.length→QfN (l.getD (Qdk x l) ln0) x=true→Qd9 x l=l.set (Qdk x l) ⟨(l.getD (Qdk x l) ln0).acc,(l.getD (Qdk x l) ln0).cur,(l.getD (Qdk x l) ln0).amt+x.amt⟩
 | [],h,_=>by simp at h
 | y :: l,h,he=>by
  by_cases hy:QeU y x=true
  ·rw [Qdk,if_pos hy] at h he ⊢;rw [Qd9,if_pos hy];simp only [List.getD_cons_succ,List.set_cons_succ] at he ⊢;rw [QiX x l (by simpa using h) he]
  ·rw [Qdk,if_neg hy] at h he ⊢;simp only [List.getD_cons_zero,List.set_cons_zero] at he ⊢;rw [Qd9,if_neg hy,if_pos he]
theorem insL_new (x:Ln):∀ (l:List Ln),(Qdk x l<l.length→QfN (l.getD (Qdk x l) ln0) x=false)→Qd9 x l=l.take (Qdk x l)++x :: l.drop (Qdk x l)
 | [],_=>rfl
 | y :: l,he=>by
  by_cases hy:QeU y x=true
  ·rw [Qdk,if_pos hy] at he ⊢;rw [Qd9,if_pos hy,insL_new x l (fun h=>by simpa using he (by simpa using h))]
   rfl
  ·rw [Qdk,if_neg hy] at he ⊢
   have:=he (by simp)
   simp only [List.getD_cons_zero] at this;rw [Qd9,if_neg hy,if_neg (by rw [this];simp)]
   rfl
theorem QhP (x:Ln):∀ l:List Ln,(Qd9 x l).length≤l.length+1
 | []=>Nat.le_refl _
 | y :: l=>by
  have:=QhP x l
  rw [Qd9]
  split
  ·simp only [List.length_cons];omega
  ·split <;> simp
theorem QdU:∀ (l r:List Ln),(l.foldl (fun r x=>Qd9 x r) r).length≤r.length+l.length
 | [],r=>by simp
 | x :: l,r=>by
  have h1:=QdU l (Qd9 x r);have h2:=QhP x r;simp only [List.foldl_cons,List.length_cons];omega
theorem QiC (l:List Ln):(grp l).length≤l.length:=by
 have:=QdU l []
 simpa [grp] using this
theorem insL_mem (x:Ln):∀ (l:List Ln) (z:Ln),z∈Qd9 x l→(∃ y∈l,QfN z y=true)∨QfN z x=true
 | [],z,h=>by
  simp only [Qd9,List.mem_singleton] at h;subst h;exact .inr (Qbd.2 ⟨rfl,rfl⟩)
 | y :: l,z,h=>by
  rw [Qd9] at h;split at h
  ·rcases List.mem_cons.1 h with rfl | h
   ·exact .inl ⟨z,by simp,Qbd.2 ⟨rfl,rfl⟩⟩
   ·rcases insL_mem x l z h with ⟨w,hw,e⟩ | e
    ·exact .inl ⟨w,by simp [hw],e⟩
    ·exact .inr e
  ·split at h
   ·rcases List.mem_cons.1 h with rfl | h
    ·exact .inl ⟨y,by simp,Qbd.2 ⟨rfl,rfl⟩⟩
    ·exact .inl ⟨z,by simp [h],Qbd.2 ⟨rfl,rfl⟩⟩
   ·rcases List.mem_cons.1 h with rfl | h
    ·exact .inr (Qbd.2 ⟨rfl,rfl⟩)
    ·exact .inl ⟨z,h,Qbd.2 ⟨rfl,rfl⟩⟩
theorem insL_sort (x:Ln):∀ (l:List Ln),Qfo l→Qfo (Qd9 x l)
 | [],_=>by simp [Qfo,Qd9]
 | y :: l,h=>by
  have h1:∀ z∈l,QeU y z=true:=(List.pairwise_cons.1 h).1;have h2:Qfo l:=(List.pairwise_cons.1 h).2;rw [Qd9]
  split
  ·rename_i hy;refine List.pairwise_cons.2 ⟨fun z hz=>?_,insL_sort x l h2⟩
   rcases insL_mem x l z hz with ⟨w,hw,e⟩ | e
   ·rw [(lnLt_key e).1];exact h1 w hw
   ·rw [(lnLt_key e).1];exact hy
  ·rename_i hy
   split
   ·exact List.pairwise_cons.2 ⟨fun z hz=>by
     have:=h1 z hz
     rw [← (lnLt_key (a:=z) (b:=⟨y.acc,y.cur,y.amt+x.amt⟩) (c:=y) (Qbd.2 ⟨rfl,rfl⟩)).2] at this;exact this,h2⟩
   ·rename_i he;have hxy:QeU x y=true:=lnLt_total (by simpa using hy) (by simpa using he)
    refine List.pairwise_cons.2 ⟨fun z hz=>?_,h⟩
    rcases List.mem_cons.1 hz with rfl | hz
    ·exact hxy
    ·exact QiE hxy (h1 z hz)
theorem Qfi:∀ (l r:List Ln),Qfo r→Qfo (l.foldl (fun r x=>Qd9 x r) r)
 | [],r,h=>h
 | x :: l,r,h=>Qfi l _ (insL_sort x r h)
theorem grp_sort (l:List Ln):Qfo (grp l):=Qfi l [] List.Pairwise.nil
def Qa7 (m:Int) (l:List Ln):Prop:=∀ x∈l,-m≤x.amt∧x.amt≤m
theorem Qit {m k:Int} (hk:0≤k) (x:Ln) (hx:-m≤x.amt∧x.amt≤m):∀ l:List Ln,Qa7 k l→Qa7 (k+m) (Qd9 x l)
 | [],_=>by
  intro z hz;simp only [Qd9,List.mem_singleton] at hz;subst hz;omega
 | y :: l,h=>by
  have h1:=h y (by simp)
  have h2:Qa7 k l:=fun z hz=>h z (by simp [hz])
  rw [Qd9]
  split
  ·intro z hz;rcases List.mem_cons.1 hz with rfl | hz
   ·omega
   ·exact Qit hk x hx l h2 z hz
  ·split
   ·intro z hz;rcases List.mem_cons.1 hz with rfl | hz
    ·simp only;omega
    ·have:=h2 z hz;omega
   ·intro z hz;rcases List.mem_cons.1 hz with rfl | hz
    ·omega
    ·have:=h z hz;omega
theorem QdX {m:Int} (hm:0≤m):∀ (l r:List Ln) (k:Int),0≤k→Qa7 m l→Qa7 k r→Qa7 (k+l.length*m) (l.foldl (fun r x=>Qd9 x r) r)
 | [],r,k,hk,_,h=>by simpa using h
 | x :: l,r,k,hk,hl,h=>by
  have:=QdX hm l (Qd9 x r) (k+m) (by omega) (fun z hz=>hl z (by simp [hz])) (Qit hk x (hl x (by simp)) r h)
  have e:k+((x :: l).length:Int)*m=k+m+(l.length:Int)*m:=by
   simp only [List.length_cons,Int.natCast_add,Int.natCast_one];rw [Int.add_mul];omega
  rw [e];exact this
theorem within_grp {m:Int} (hm:0≤m) {l:List Ln} (h:Qa7 m l):Qa7 (l.length*m) (grp l):=by
 have:=QdX hm l [] 0 (Int.le_refl _) h (fun z hz=>by simp at hz)
 simpa [grp] using this
end
section
open Go.RowKit Go.Lib Go.Proofs.Tryz
def Qav (n m:Int):Bool:=decide (1≤n) && decide (n≤m)
theorem QgA {n m:Int}:Qav n m=true↔1≤n∧n≤m:=by simp [Qav]
def Qah:Int:=1000000000000000
def QaJ (n:Int):Bool:=decide (-1000000000000000≤n) && decide (n≤1000000000000000)
theorem Qbl {n:Int}:QaJ n=true↔-Qah≤n∧n≤Qah:=by
 simp [QaJ,Qah]
theorem QcL (n:Int) (w:World) :
  Calls prog 120 #[.int .i64 n] w fun e w'=>e=.returned (.bool (QaJ n))∧w'=w:=by
 by_cases h:-1000000000000000≤n
 ·have:QaJ n=decide (n≤1000000000000000):=by simp [QaJ,h]
  rw [this];go_enter func120,ntmps120
  go_wp2;go_ret;exact ⟨rfl,rfl⟩
 ·have:QaJ n=false:=by simp [QaJ,h]
  rw [this];go_enter func120,ntmps120
  go_wp2;go_ret;exact ⟨rfl,rfl⟩
theorem QcG (n:Int) (w:World) :
  Calls prog 119 #[.int .i64 n] w fun e w'=>e=.returned (.bool (Qav n 12))∧w'=w:=by
 by_cases h:1≤n
 ·have e1:Qav n 12=decide (n≤12):=by simp [Qav,h]
  rw [e1];go_enter func119,ntmps119
  go_wp2;go_ret;exact ⟨rfl,rfl⟩
 ·have e1:Qav n 12=false:=by simp [Qav,h]
  rw [e1];go_enter func119,ntmps119
  go_wp2;go_ret;exact ⟨rfl,rfl⟩
theorem QbL (n:Int) (w:World) :
  Calls prog 53 #[.int .i64 n] w fun e w'=>e=.returned (.bool (Qav n 120))∧w'=w:=by
 by_cases h:1≤n
 ·have e1:Qav n 120=decide (n≤120):=by simp [Qav,h]
  rw [e1];go_enter func53,ntmps53
  go_wp2;go_ret;exact ⟨rfl,rfl⟩
 ·have e1:Qav n 120=false:=by simp [Qav,h]
  rw [e1];go_enter func53,ntmps53
  go_wp2;go_ret;exact ⟨rfl,rfl⟩
end
section
open Go.RowKit Go.Lib Go.Proofs.Tryz
theorem en_empty {a:ByteArray} (h:a.size=0):a.toList=[]:=by
 rw [Lib.toList_data];exact List.eq_nil_of_length_eq_zero h
theorem en_some {a:ByteArray} (h:a.size≠0):¬ a.toList=[]:=by
 rw [Lib.toList_data];exact fun e=>h (congrArg List.length e)
theorem QcF {B:Nat} {a w:World} (h:Below B a w) (n:Nat):Below B a (w.drewN n):=h.trans ⟨rfl,rfl,rfl,Nat.le_refl _,fun _ _=>rfl⟩
theorem Qa8 {f : FuncId} {fn : Func} (hf : prog.funcs[f]? = some fn) (hn : (fn.name == "runtime.NumGoroutine") = false) (hb : ∃ c, fn.body = some c) (args : Array Value) (w : World) : (callFunc f args).run prog w = .ok (.enter f args) w := by
 obtain ⟨c,hc⟩:=hb;exact MuLone.run_callFunc_enter hf hn hc args w
def enE (n:Int):Value:=if n=0 then .nilIface else .iface 66 (.int .i64 n)
theorem QbE:enE 0=.nilIface:=rfl
theorem QaF {n:Int} (h:n≠0):enE n=.iface 66 (.int .i64 n):=if_neg h
def QhF (r:Nat):Bool:=(decide (r<97) || decide (122<r)) && (decide (r<48) || decide (57<r)) && !decide (r=45)
theorem QiN (r:Nat) (w:World) :
  Calls prog 160 #[.int .i32 r] w fun e w'=>e=.returned (.bool (QhF r))∧w'=w:=by
 have h1:(r:Int)<48∨(48:Int)≤r∧(r:Int)≤57∨(57:Int)<r∧(r:Int)<97∨(97:Int)≤r∧(r:Int)≤122∨(122:Int)<r:=by omega
 have e45:((r:Int) != 45)=!decide (r=45):=by
  by_cases e:r=45
  ·subst e;rfl
  ·have:((r:Int) != 45)=true:=by simp;omega
   rw [this];simp [e]
 rcases h1 with a | ⟨a,b⟩ | ⟨a,b⟩ | ⟨a,b⟩ | a
 ·have:QhF r=!decide (r=45):=by
   have d1:decide (r<97)=true:=by simp;omega
   have d2:decide (r<48)=true:=by simp;omega
   unfold QhF;rw [d1,d2];rfl
  rw [this];have n97:(r:Int)<97:=by omega
  go_enter func160,ntmps160
  go_wp2;go_ret;exact ⟨rfl,rfl⟩
 ·have:QhF r=false:=by simp [QhF];omega
  rw [this];have n97:(r:Int)<97:=by omega
  go_enter func160,ntmps160
  go_wp2;go_ret;exact ⟨rfl,rfl⟩
 ·have:QhF r=true:=by simp [QhF];omega
  have n45:(!decide (r=45))=true:=by simp;omega
  rw [this];clear this;go_enter func160,ntmps160
  go_wp2;go_ret;exact ⟨by rw [← n45];rfl,rfl⟩
 ·have:QhF r=false:=by simp [QhF];omega
  rw [this];go_enter func160,ntmps160
  go_wp2;go_ret;exact ⟨rfl,rfl⟩
 ·have:QhF r=true:=by simp [QhF];omega
  have n45:(!decide (r=45))=true:=by simp;omega
  rw [this];clear this;have n97:¬ (r:Int)<97:=by omega
  have n48:¬ (r:Int)<48:=by omega
  have n57:(57:Int)<r:=by omega
  go_enter func160,ntmps160
  go_wp2;go_ret;exact ⟨by rw [← n45];rfl,rfl⟩
def Qbf (p:Nat→Bool) (s:ByteArray):Nat→Nat→Int
 | 0,_=>-1
 | f+1,pos=>if pos<s.size then (if p (Utf8.decode s pos).1=true then (pos:Int) else Qbf p s f (pos+(Utf8.decode s pos).2)) else -1
theorem signFrom_end (p:Nat→Bool) (s:ByteArray) (f pos:Nat) (h:¬ pos<s.size):Qbf p s f pos = -1:=by cases f <;> simp [Qbf,h]
set_option maxHeartbeats 1000000 in
theorem Qgs (s:ByteArray) (w:World) :
  Calls prog 159 #[.string s,.func (.func 160) #[] #[],.bool true] w fun e w'=>e=.returned (.int .i64 (Qbf QhF s s.size 0))∧Below w.heap.size w w':=by
 go_enter func159,ntmps159
 go_wp2;go_loopg [] s.size (fun gf wx=>∃ pos:Nat,wx.heap[w.heap.size]? = some (.stringIter s pos)∧Below w.heap.size w wx∧Qbf QhF s gf pos=Qbf QhF s s.size 0∧s.size≤pos+gf)
 case atStart=>exact ⟨0,World.iter_heap w s 0,(Below.refl _ w).alloc (Nat.le_refl _) _,rfl,by omega⟩
 case round=>
  obtain ⟨pos,hit,hbw,hleft,hfu⟩:=hrel;by_cases hps:pos<s.size
  ·obtain ⟨g',rfl⟩:∃ g',gk=g'+1:=⟨gk - 1,by omega⟩
   have hnx:∀ ty,(Instr.next (.pointer (some ⟨w.heap.size,0,none⟩)) true ty).run prog wr=_:=fun ty=>Lib.run_next_any_at wr w.heap.size s pos ty hit hps
   have hwd:=Lib.width_pos s pos;obtain ⟨R,hR⟩:∃ R,(Utf8.decode s pos).1=R:=⟨_,rfl⟩;obtain ⟨K,hK⟩:∃ K,(Utf8.decode s pos).2=K:=⟨_,rfl⟩;simp only [Qbf,hps,if_true,hR,hK] at hleft;rw [hR,hK] at hnx;rw [hK] at hwd;have hit2:=Lib.iterAt_heap wr w.heap.size s pos (pos+K) hit;have hbw2:=Lib.below_iterAt hbw (k:=w.heap.size) (Nat.le_refl _) s (pos+K);obtain ⟨W,hWd⟩:∃ W,wr.iterAt w.heap.size s (pos+K)=W:=⟨_,rfl⟩
   rw [hWd] at hnx hit2 hbw2;cases hsp:QhF R <;> simp only [hsp,if_true,Bool.false_eq_true,if_false] at hleft
   ·go_wp2_with (go_at_call 160;refine (QiN R _).mono ?_;rintro e W' ⟨rfl,rfl⟩;rw [hsp]);go_roundg g'
    case measure=>omega
    case rel=>exact ⟨pos+K,hit2,hbw2,hleft,by omega⟩
   ·go_wp2_with (go_at_call 160;refine (QiN R _).mono ?_;rintro e W' ⟨rfl,rfl⟩;rw [hsp]);go_ret;exact ⟨by rw [← hleft];rfl,hbw2⟩
  ·have hnx:∀ ty,(Instr.next (.pointer (some ⟨w.heap.size,0,none⟩)) true ty).run prog wr=_:=fun ty=>Lib.run_next_end_at wr w.heap.size s pos ty hit hps
   rw [signFrom_end QhF s gk pos hps] at hleft;go_wp2;go_ret;exact ⟨by rw [← hleft];rfl,hbw⟩
theorem QeT (s:ByteArray) (w:World) :
  Calls prog 77 #[.string s,.func (.func 160) #[] #[]] w fun e w'=>e=.returned (.bool (decide (0≤Qbf QhF s s.size 0)))∧Below w.heap.size w w':=by
 have hI:Calls prog 117 #[.string s,.func (.func 160) #[] #[]] w fun e w'=>e=.returned (.int .i64 (Qbf QhF s s.size 0))∧Below w.heap.size w w':=by
  go_enter func117,ntmps117
  go_wp2_with fail;refine (Qgs s _).mono ?_;rintro e w' ⟨rfl,hb⟩;go_wp2;go_ret;exact ⟨rfl,hb⟩
 go_enter func77,ntmps77
 go_wp2_with fail;refine hI.mono ?_;rintro e w' ⟨rfl,hb⟩;go_wp2;go_ret;exact ⟨rfl,hb⟩
def Qdt (s:ByteArray):Bool:=decide (s.size≠0) && (decide (s.size≤12) && (decide ((s.get! 0).toNat≠45) && decide (Qbf QhF s s.size 0<0)))
set_option maxHeartbeats 1000000 in
theorem isRef_any (s:ByteArray) (w:World) :
  Calls prog 118 #[.string s] w fun e w'=>e=.returned (.bool (Qdt s))∧Below w.heap.size w w':=by
 by_cases h0:s.size=0
 ·have e0:=en_empty h0;have er:Qdt s=false:=by simp [Qdt,h0]
  rw [er];go_enter func118,ntmps118
  go_wp2;go_ret;exact ⟨rfl,Below.refl _ _⟩
 have e0:=en_some h0;have e0':s.toList.isEmpty=false:=by simpa using e0
 by_cases h1:s.size≤12
 ·have h1':decide ((s.size:Int)≤12)=true:=by simp;omega
  have h2':(0:Int)<s.size:=by omega
  have hp:0<s.size:=by omega
  have hg:s.get! 0=s[0]'hp:=getElem!_pos s.data 0 hp;by_cases h2:(s.get! 0).toNat=45
  ·have er:Qdt s=false:=by simp [Qdt,h2]
   have h3:((s[0]'hp).toNat:Int)=45:=by rw [← hg,h2];rfl
   rw [er];clear h2 hg;go_enter func118,ntmps118
   go_wp2;go_ret;exact ⟨rfl,Below.refl _ _⟩
  ·have h3:¬ ((s[0]'hp).toNat:Int)=45:=by rw [← hg];omega
   have h3b:(((s[0]'hp).toNat:Int) != 45)=true:=by simpa using h3
   have er:Qdt s=!decide (0≤Qbf QhF s s.size 0):=by
    have d1:decide (s.size≠0)=true:=by simp [h0]
    have d2:decide (s.size≤12)=true:=by simp [h1]
    have d4:decide ((s.get! 0).toNat≠45)=true:=by simp [h2]
    have d3:decide (Qbf QhF s s.size 0<0)=!decide (0≤Qbf QhF s s.size 0):=by
     by_cases hh:0≤Qbf QhF s s.size 0
     ·rw [decide_eq_true hh,decide_eq_false (by omega)];rfl
     ·rw [decide_eq_false hh,decide_eq_true (by omega)];rfl
    unfold Qdt;rw [d1,d2,d3,d4];rfl
   rw [er];clear h2 hg er;go_enter func118,ntmps118
   go_wp2_with fail;refine (QeT s _).mono ?_;rintro e w' ⟨rfl,hb⟩;go_wp2;go_ret;exact ⟨rfl,hb⟩
 ·have h1':decide ((s.size:Int)≤12)=false:=by simp;omega
  have er:Qdt s=false:=by simp [Qdt,h1]
  rw [er];go_enter func118,ntmps118
  go_wp2;go_ret;exact ⟨rfl,Below.refl _ _⟩
end
section
open Go.RowKit Go.Lib Go.Proofs.Tryz
structure LnAt (w:World) (b off:Nat) (x:Ln):Prop where
 c0:w.cell? ⟨b,off,none⟩=some (.string x.acc)
 c1:w.cell? ⟨b,off+1,none⟩=some (.string x.cur)
 c2:w.cell? ⟨b,off+2,none⟩=some (.int .i64 x.amt)
theorem LnAt.below {w w':World} {b off n:Nat} {a:Ln} (h:LnAt w b off a) (hb:Below n w w') (hn:b<n):LnAt w' b off a:=
 ⟨(hb.cell (p:=⟨b,off,none⟩) hn).trans h.c0,(hb.cell (p:=⟨b,off+1,none⟩) hn).trans h.c1,(hb.cell (p:=⟨b,off+2,none⟩) hn).trans h.c2⟩
theorem LnAt.new (w:World) (a:Ln) (t:TypeId):LnAt (w.alloc (.cells a.cells t)) w.heap.size 0 a:=
 ⟨by simp [Ln.cells],by simp [Ln.cells],by simp [Ln.cells]⟩
def Qgv (w:World) (b off:Nat) (l:List Ln):Prop:=∀ k,k<l.length→LnAt w b (off+k*3) (l.getD k ln0)
structure Qfs (w:World) (a:Option Addr) (l:List Ln) (cap:Nat):Prop where
 cap:l.length≤cap
 lies:l=[]∨∃ b off,a=some ⟨b,off,none⟩∧b<w.heap.size∧Qgv w b off l
theorem Qfs.below {w w':World} {a:Option Addr} {l:List Ln} {cap:Nat} (h:Qfs w a l cap) (hb:Below w.heap.size w w'):Qfs w' a l cap:=by
 refine ⟨h.cap,?_⟩;rcases h.lies with h | ⟨b,off,e,hlt,hc⟩
 ·exact .inl h
 ·exact .inr ⟨b,off,e,by have:=hb.size;omega,fun k hk=>(hc k hk).below hb hlt⟩
theorem lns_drop (l:List Ln) (k:Nat) (h:k<l.length):l.drop k=l.getD k ln0 :: l.drop (k+1):=by
 rw [List.drop_eq_getElem_cons h,List.getD_eq_getElem?_getD,List.getElem?_eq_getElem h];rfl
theorem lns_take (l:List Ln) (k:Nat) (h:k<l.length):l.take (k+1)=l.take k++[l.getD k ln0]:=by
 rw [List.take_add_one,List.getElem?_eq_getElem h,List.getD_eq_getElem?_getD,List.getElem?_eq_getElem h];rfl
theorem lns_mem (l:List Ln) (k:Nat) (h:k<l.length):l.getD k ln0∈l:=by
 rw [List.getD_eq_getElem?_getD,List.getElem?_eq_getElem h];exact List.getElem_mem h
def Qas (l:List Ln):List Value:=l.flatMap fun x=>x.cells.toList
theorem Ln.cells_length (x:Ln):x.cells.toList.length=3:=rfl
theorem Qak:∀ l:List Ln,(Qas l).length=l.length*3
 | []=>rfl
 | x :: l=>by
  have:=Qak l
  unfold Qas at *
  simp only [List.flatMap_cons,List.length_append,Ln.cells_length,this,List.length_cons];omega
theorem QaI (l m:List Ln):Qas (l++m)=Qas l++Qas m:=by simp [Qas]
theorem Qcu (x:Ln):Qas [x]=x.cells.toList:=by simp [Qas]
theorem QcX:∀ (l:List Ln) (k j:Nat),k<l.length→j<3→(Qas l)[k*3+j]? = (l.getD k ln0).cells.toList[j]?
 | [],_,_,h,_=>absurd h (by simp)
 | x :: l,0,j,_,hj=>by
  simp only [Qas,List.flatMap_cons,Nat.zero_mul,Nat.zero_add,List.getD_cons_zero];rw [List.getElem?_append_left (by rw [Ln.cells_length];exact hj)]
 | x :: l,k+1,j,h,hj=>by
  have ih:=QcX l k j (by simpa using h) hj
  simp only [Qas,List.flatMap_cons,List.getD_cons_succ] at ih ⊢;rw [List.getElem?_append_right (by rw [Ln.cells_length];omega),Ln.cells_length,← ih]
  congr 1;omega
theorem QcN (l:List Ln):∀ u∈Qas l,u.oneCell'=true:=by
 intro u hu;simp only [Qas,List.mem_flatMap] at hu;obtain ⟨x,_,hx⟩:=hu;simp [Ln.cells] at hx;rcases hx with rfl | rfl | rfl <;> rfl
theorem QfR (l:List Ln) (k:Nat):Qas (l.take k)=(Qas l).take (k*3):=by
 have h:=QaI (l.take k) (l.drop k);rw [List.take_append_drop] at h;rw [h];by_cases hk:k≤l.length
 ·have:(Qas (l.take k)).length=k*3:=by rw [Qak,List.length_take,Nat.min_eq_left hk]
  rw [← this,List.take_left]
 ·rw [List.take_of_length_le (by omega),List.drop_eq_nil_of_le (by omega)]
  rw [List.take_of_length_le]
  ·show Qas l=Qas l++[];simp
  ·show (Qas l++[]).length≤_;rw [List.append_nil,Qak];omega
theorem QiT (l:List Ln) (k:Nat):Qas (l.drop k)=(Qas l).drop (k*3):=by
 have h:=QaI (l.take k) (l.drop k);rw [List.take_append_drop] at h;have h2:=QfR l k;have h3:Qas l=(Qas l).take (k*3)++(Qas l).drop (k*3):=(List.take_append_drop _ _).symm;rw [← h2] at h3;rw [h] at h3
 have:=List.append_cancel_left h3
 rw [this];rw [h]
def Qag (w:World) (n:Nat) (v:Value) (l:List Ln):Prop:=w.ownsRow n 56 3 v l.length (Qas l)
theorem Qag.nil (w:World) (n:Nat):Qag w n (.slice none 0 0) []:=World.ownsRow_nil _ _ _ _
theorem Qag.isLn {W:World} {n0:Nat} {v:Value} {l:List Ln} (h:Qag W n0 v l) :
  ∃ a cap,v=.slice a l.length cap∧Qfs W a l cap:=by
 obtain ⟨hlen,⟨rfl,h0⟩ | ⟨g,cap,cur,rfl,hb,hg,hc,hm,hs,ht⟩⟩:=h
 ·have:l=[]:=List.eq_nil_of_length_eq_zero h0
  subst this;exact ⟨none,0,rfl,Nat.le_refl _,.inl rfl⟩
 ·refine ⟨_,cap,rfl,hc,.inr ⟨g,0,rfl,(Array.getElem?_eq_some_iff.1 hg).1,?_⟩⟩;intro k hk;have C:∀ j,j<3→W.cell? ⟨g,0+k*3+j,none⟩=(l.getD k ln0).cells.toList[j]?:=fun j hj=>by
   have e1:(Qas l)[k*3+j]? = cur[k*3+j]?:=by
    rw [← ht,List.getElem?_take,if_pos (by omega)]
    simp
   rw [← QcX l k j hk hj,e1];simp [World.cell?,hg]
  exact ⟨C 0 (by omega),C 1 (by omega),C 2 (by omega)⟩
theorem Qag.below {w w':World} {n:Nat} {v:Value} {l:List Ln} (h:Qag w n v l) (hb:Below w.heap.size w w'):Qag w' n v l:=by
 rcases h.2 with ⟨hv,hn⟩ | ⟨g1,c1,cur,hv,hb1,hh,r⟩
 ·exact ⟨h.1,.inl ⟨hv,hn⟩⟩
 ·exact ⟨h.1,.inr ⟨g1,c1,cur,hv,hb1,(hb.block g1 (Array.getElem?_eq_some_iff.1 hh).1).trans hh,r⟩⟩
theorem Qag.mono {w:World} {n m:Nat} {v:Value} {l:List Ln} (h:Qag w n v l) (hm:m≤n):Qag w m v l:=by
 rcases h.2 with ⟨hv,hn⟩ | ⟨g1,c1,cur,hv,hb1,r⟩
 ·exact ⟨h.1,.inl ⟨hv,hn⟩⟩
 ·exact ⟨h.1,.inr ⟨g1,c1,cur,hv,by omega,r⟩⟩
theorem Qag.own {w:World} {n:Nat} {v:Value} {xs:List Ln} (h:Qag w n v xs):∀ j,v.ownBlock=some j→n≤j:=fun j ej=>by
 rcases h.2 with ⟨rfl,_⟩ | ⟨g1,c1,cur,rfl,hg1,_⟩
 ·cases ej
 ·cases ej;exact hg1
def QbW (p:Ln→Bool):Nat→List Ln→Int
 | _,[]=>-1
 | k,a :: l=>if p a=true then (k:Int) else QbW p (k+1) l
theorem lidx_any (p:Ln→Bool):∀ (l:List Ln) (k:Nat),decide (0≤QbW p k l)=l.any p
 | [],k=>by simp [QbW]
 | x :: l,k=>by
  rw [QbW];cases h:p x
  ·rw [if_neg (by simp),lidx_any p l (k+1)];simp [h]
  ·rw [if_pos rfl];simp [h]
structure Qix (g:Nat) (p:Ln→Bool):Prop where
 eg:∀ args W,(callFunc g args).run prog W=.ok (.enter g args) W
 call:∀ (x:Ln) W,Calls prog g #[.agg x.cells] W fun e w'=>e=.returned (.bool (p x))∧Below W.heap.size W w'
set_option maxHeartbeats 1000000 in
theorem lnIdx_some (g:Nat) (p:Ln→Bool) (b off cap:Nat) (l:List Ln) (w:World) (hp:Qix g p) (hb:b<w.heap.size) (hlen:(l.length:Int)≤9223372036854775807) (hc:Qgv w b off l) :
  Calls prog 121 #[.slice (some ⟨b,off,none⟩) l.length cap,.func (.func g) #[] #[]] w fun e w'=>e=.returned (.int .i64 (QbW p 0 l))∧Below w.heap.size w w':=by
 have eg:=hp.eg;have Hp:Hid (Qix g p):=hp;have Hc:Hid (Qgv w b off l):=hc;clear hp hc;obtain ⟨res,hres⟩:∃ res,QbW p 0 l=res:=⟨_,rfl⟩;have Hres:Hid (QbW p 0 l=res):=hres;rw [hres];clear hres;go_enter func121,ntmps121
 go_wp2;go_loopw [8] (fun i wr=>∃ k:Nat,k≤l.length∧i=.int .i64 k∧Hid (QbW p k (l.drop k)=res)∧Below w.heap.size w wr) (fun i _=>l.length - (RowKit.intOf i).toNat)
 case atStart=>exact ⟨0,Nat.zero_le _,rfl,Hres.out,Below.refl _ _⟩
 case round=>
  obtain ⟨k,hk,rfl,H,BW⟩:=hrel;by_cases hlt:k<l.length
  ·have hn:=(Hc.out k hlt).below BW hb;have hcall:=Hp.out.call (l.getD k ln0) wr;have E:Hid ((if p (l.getD k ln0)=true then (k:Int) else QbW p (k+1) (l.drop (k+1)))=res):=by
    have:=H.out
    rw [lns_drop l k hlt] at this;exact this
   clear H;generalize l.getD k ln0=a at *
   obtain ⟨a0,a1,a2⟩:=a;obtain ⟨c0,c1,c2⟩:=hn;simp only [Ln.cells] at c0 c1 c2 hcall;have i0:(0:Int)≤k:=by omega
   have i1:(k:Int)<l.length:=by omega
   cases hq:p ⟨a0,a1,a2⟩
   ·rw [hq] at hcall;have HN:Hid (QbW p (k+1) (l.drop (k+1))=res):=by
     have:=E.out;rw [if_neg (by rw [hq];simp)] at this;exact this
    go_wp2_with (go_at_fn g;refine hcall.mono ?_;rintro e w' ⟨rfl,hb'⟩);go_roundw
    case rel=>exact ⟨k+1,by omega,by go_num,HN,BW.trans (hb'.mono BW.size)⟩
    case measure=>simp [RowKit.intOf];omega
   ·rw [hq] at hcall;have er:res=k:=by rw [← E.out,if_pos hq]
    subst er;go_wp2_with (go_at_fn g;refine hcall.mono ?_;rintro e w' ⟨rfl,hb'⟩);go_ret;exact ⟨rfl,BW.trans (hb'.mono BW.size)⟩
  ·have hk2:k=l.length:=by omega
   subst hk2;have er:res = -1:=by rw [← H.out,List.drop_length];rfl
   subst er;go_wp2;go_ret;exact ⟨rfl,BW⟩
theorem lnIdx_none (a:Option Addr) (cap:Nat) (f:Value) (w:World) :
  Calls prog 121 #[.slice a 0 cap,f] w fun e w'=>e=.returned (.int .i64 (-1))∧Below w.heap.size w w':=by
 go_enter func121,ntmps121
 go_wp2;refine wp_loop_rounds 1 ?_;rw [rounds_succ];go_wp2;go_ret;exact ⟨rfl,Below.refl _ _⟩
theorem lnIdx_any (g:Nat) (p:Ln→Bool) (a:Option Addr) (cap:Nat) (l:List Ln) (w:World) (hp:Qix g p) (hlen:(l.length:Int)≤9223372036854775807) (h:Qfs w a l cap) :
  Calls prog 121 #[.slice a l.length cap,.func (.func g) #[] #[]] w fun e w'=>e=.returned (.int .i64 (QbW p 0 l))∧Below w.heap.size w w':=by
 rcases h.lies with rfl | ⟨b,off,rfl,hlt,hc⟩
 ·exact lnIdx_none a cap _ w
 ·exact lnIdx_some g p b off cap l w hp hlt hlen hc
theorem Qeg (g:Nat) (p:Ln→Bool) (a:Option Addr) (cap:Nat) (l:List Ln) (w:World) (hp:Qix g p) (hlen:(l.length:Int)≤9223372036854775807) (h:Qfs w a l cap) :
  Calls prog 81 #[.slice a l.length cap,.func (.func g) #[] #[]] w fun e w'=>e=.returned (.bool (l.any p))∧Below w.heap.size w w':=by
 rw [← lidx_any p l 0];have hI:=lnIdx_any g p a cap l w hp hlen h;clear h;go_enter func81,ntmps81
 go_wp2_with fail;refine hI.mono ?_;rintro e w' ⟨rfl,hb⟩;go_wp2;go_ret;exact ⟨rfl,hb⟩
end
section
open Go.RowKit Go.Lib Go.Proofs.Tryz
structure LMakes (g:Nat) (f:Ln→Ln) (ok:Ln→Prop):Prop where
 eg:∀ args W,(callFunc g args).run prog W=.ok (.enter g args) W
 call:∀ (x:Ln) W,ok x→Calls prog g #[.agg x.cells] W fun e w'=>e=.returned (.agg (f x).cells)∧Below W.heap.size W w'
theorem Qex:(prog.info? 56).map (fun i=>(i.zero,i.size,i.bytes))=some (some (.agg #[.string ByteArray.empty,.string ByteArray.empty,.int .i64 0]),3,40):=by kernel_rfl
theorem QhW (W:World) (y0 y1:ByteArray) (y2:Int) (b:Nat) (t:TypeId) (hb:b=W.heap.size):∀ j u,([.string y0,.string y1,.int .i64 y2]:List Value)[j]? = some u→(W.alloc (.cells #[.string y0,.string y1,.int .i64 y2] t)).cell? ((⟨b,0,none⟩:Addr).add j)=some u:=by
 subst hb;intro j u hj;have h:=World.alloc_heap_new W (.cells #[.string y0,.string y1,.int .i64 y2] t);generalize W.alloc (.cells #[.string y0,.string y1,.int .i64 y2] t)=V at *
 generalize W.heap.size=b at *
 by_cases h0:j=0
 ·subst h0;simp [World.cell?,Addr.add,h] at hj ⊢;exact hj
 ·simp [World.cell?,Addr.add,h,h0];exact hj
set_option maxHeartbeats 2000000 in
theorem each_some (g:Nat) (f:Ln→Ln) (ok:Ln→Prop) (b off cap:Nat) (l:List Ln) (w:World) (hp:LMakes g f ok) (hok:∀ x∈l,ok x) (hb:b<w.heap.size) (hlen:l.length≤1000) (hc:Qgv w b off l) :
  Calls prog 123 #[.slice (some ⟨b,off,none⟩) l.length cap,.func (.func g) #[] #[]] w fun e w'=>∃ v,e=.returned v∧Qag w' w.heap.size v (l.map f)∧Below w.heap.size w w':=by
 have eg:=hp.eg;have Hp:Hid (LMakes g f ok):=hp;have Hok:Hid (∀ x∈l,ok x):=hok;clear hok;have Hc:Hid (Qgv w b off l):=hc;clear hp hc;have Hlen:(l.length:Int)≤1000:=by omega
 obtain ⟨i0,hi,hz0,hz1,hz2⟩:=info_parts Qex;go_enter func123,ntmps123
 go_wp2;go_loopw [5,10] (fun s i wr=>∃ k:Nat,k≤l.length∧i=.int .i64 k∧Hid (Qag wr w.heap.size s ((l.take k).map f))∧Below w.heap.size w wr) (fun _ i _=>l.length - (RowKit.intOf i).toNat)
 case atStart=>exact ⟨0,Nat.zero_le _,rfl,Qag.nil _ _,Below.refl _ _⟩
 case round=>
  obtain ⟨k,hk,rfl,R,BW⟩:=hrel;by_cases hlt:k<l.length
  ·have hn:=(Hc.out k hlt).below BW hb;have hst:(l.take (k+1)).map f=(l.take k).map f++[f (l.getD k ln0)]:=by rw [lns_take l k hlt,List.map_append];rfl
   have B2:=BW.alloc BW.size (.cells (l.getD k ln0).cells 56);have hcall:=Hp.out.call (l.getD k ln0) (wr.alloc (.cells (l.getD k ln0).cells 56)) (Hok.out _ (lns_mem l k hlt));have R1:Qag (wr.alloc (.cells (l.getD k ln0).cells 56)) w.heap.size _ ((l.take k).map f):=World.ownsRow.alloc R.out (.cells (l.getD k ln0).cells 56);have hfl:((l.take k).map f).length≤1000:=by
    rw [List.length_map,List.length_take];omega
   generalize l.getD k ln0=x at *
   generalize f x=y at *
   generalize (l.take k).map f=fs at *
   have Hst:Hid ((l.take (k+1)).map f=fs++[y]):=hst;have Hcall:Hid (Calls _ _ _ _ _):=hcall;have HR1:Hid (Qag _ _ _ _):=R1;clear hst hcall R1;obtain ⟨x0,x1,x2⟩:=x;obtain ⟨y0,y1,y2⟩:=y;obtain ⟨c0,c1,c2⟩:=hn;simp only [Ln.cells] at c0 c1 c2 Hcall HR1 B2;have j0:(0:Int)≤k:=by omega
   have j1:(k:Int)<l.length:=by omega
   go_wp2_with fail;refine Hcall.out.mono ?_;rintro e w2 ⟨rfl,hb2⟩;have HR2:Hid (Qag w2 w.heap.size _ fs):=Qag.below HR1.out hb2;have B3:=B2.trans (hb2.mono B2.size);have hs3:=B3.size;clear hb2 Hcall HR1 B2 c0 c1 c2;go_wp2_with (at_builtin;refine wpList_append_own _ rfl _ _ 57 rfl w.heap.size 56 i0 (.agg #[.string ByteArray.empty,.string ByteArray.empty,.int .i64 0]) 3 40 underlying57 hi hz0 hz1 hz2 rfl (by decide) _ _ _ rfl (World.ownsRow.alloc HR2.out _) ⟨w2.heap.size,0,none⟩ 1 1 [.string y0,.string y1,.int .i64 y2] rfl rfl (QhW _ _ _ _ _ _ rfl) ?c2 ?c3 ?c4 ?c5 ?_)
   case c2=>intro u hu;simp at hu;rcases hu with rfl | rfl | rfl <;> rfl
   case c3=>unfold maxLen;omega
   case c4=>omega
   case c5=>simp;omega
   intro v' w3 hown' hgrow _;have B4:Below w.heap.size w w3:=(B3.alloc hs3 (.cells #[.string y0,.string y1,.int .i64 y2] 56)).grown hgrow (by simp;omega) (HR2.out.own)
   have R3:Qag w3 w.heap.size v' ((l.take (k+1)).map f):=by
    rw [Hst.out];unfold Qag;rw [QaI,Qcu,List.length_append];exact hown'
   have HR3:Hid (Qag _ _ _ _):=R3;clear hown' hgrow R3 HR2;go_wp2;go_roundw
   case rel=>exact ⟨k+1,by omega,by go_num,HR3.out,B4⟩
   case measure=>simp [RowKit.intOf];omega
  ·have hk2:k=l.length:=by omega
   subst hk2;go_wp2;go_ret;refine ⟨_,rfl,?_,BW⟩
   have:=R.out
   rw [List.take_length] at this;exact this
theorem each_none (a:Option Addr) (cap:Nat) (f:Value) (w:World) :
  Calls prog 123 #[.slice a 0 cap,f] w fun e w'=>e=.returned (.slice none 0 0)∧Below w.heap.size w w':=by
 go_enter func123,ntmps123
 go_wp2;refine wp_loop_rounds 1 ?_;rw [rounds_succ];go_wp2;go_ret;exact ⟨rfl,Below.refl _ _⟩
theorem each_any (g:Nat) (f:Ln→Ln) (ok:Ln→Prop) (a:Option Addr) (cap:Nat) (l:List Ln) (w:World) (hp:LMakes g f ok) (hok:∀ x∈l,ok x) (hlen:l.length≤1000) (h:Qfs w a l cap) :
  Calls prog 123 #[.slice a l.length cap,.func (.func g) #[] #[]] w fun e w'=>∃ v,e=.returned v∧Qag w' w.heap.size v (l.map f)∧Below w.heap.size w w':=by
 rcases h.lies with rfl | ⟨b,off,rfl,hlt,hc⟩
 ·refine (each_none a cap _ w).mono ?_;rintro e w' ⟨rfl,hb⟩;exact ⟨_,rfl,Qag.nil _ _,hb⟩
 ·exact each_some g f ok b off cap l w hp hok hlt hlen hc
def Qb7 (x:Ln):Ln:=⟨ByteArray.empty,x.cur,x.amt⟩
def turnL (x:Ln):Ln:=⟨x.acc,x.cur,-x.amt⟩
theorem Qfy (x:Ln) (w:World) :
  Calls prog 124 #[.agg x.cells] w fun e w'=>e=.returned (.agg (Qb7 x).cells)∧Below w.heap.size w w':=by
 obtain ⟨a0,a1,a2⟩:=x;simp only [Ln.cells,Qb7];go_enter func124,ntmps124
 go_wp2;exact bodyPost_ret (v:=.agg #[.string ByteArray.empty,.string a1,.int .i64 a2]) (by simp [results,Tryz.results124,go_sem];rfl) rfl ⟨rfl,((Below.refl _ w).alloc (Nat.le_refl _) _).alloc (by simp) _⟩
theorem QeD:LMakes 124 Qb7 (fun _=>True):=
 ⟨fun args W=>Qa8 func124 (by kernel_rfl) ⟨_,rfl⟩ args W,fun x W _=>Qfy x W⟩
end
end Go.Proofs.YtjifbbdkpanagaaGreatDoor
