/-
  Part of a proof (see the last text).
-/
import Derived.Test.YtibhgngboljhfaaGreatDoorProg
import Derived.WalkSpells
import Derived.Lib.OthersKept
import Derived.Lib.TrimU
import Derived.Deep.LoopGhost
import Derived.Conc.MuLone
import Derived.Shelf.Abstract
import Derived.BigQuiet
import Derived.Deep.AppendLies
import Derived.Deep.RegionHeldLaw
import Derived.RangeFuncBox
set_option linter.unusedVariables false
set_option linter.unusedSimpArgs false
set_option maxRecDepth 100000
namespace Go.Proofs.YtibhgngboljhfaaGreatDoor
section
theorem zq0 : type_of% @List.getElem_toArray := @List.getElem_toArray
theorem zq1 : type_of% @List.getElem_cons_succ := @List.getElem_cons_succ
theorem zq2 : type_of% @List.getElem_cons_zero := @List.getElem_cons_zero
theorem zq3 : type_of% @List.setIfInBounds_toArray := @List.setIfInBounds_toArray
theorem zq4 : type_of% @List.set_cons_zero := @List.set_cons_zero
theorem zq5 : type_of% @List.set_cons_succ := @List.set_cons_succ
open Go.RowKit Go.Proofs.Tryz
theorem Qf6:∀ a:List UInt8,Op.bytesLess a a=false
 | []=>rfl
 | x :: a=>by
  have:=Qf6 a
  simp [Op.bytesLess,this]
theorem Qg1:∀ a b:List UInt8,Op.bytesLess a b=false→a≠b→Op.bytesLess b a=true
 | [],[],_,h=>absurd rfl h
 | [],_ :: _,h,_=>by simp [Op.bytesLess] at h
 | _ :: _,[],_,_=>by simp [Op.bytesLess]
 | x :: a,y :: b,h,hne=>by
  simp only [Op.bytesLess,Bool.or_eq_false_iff,decide_eq_false_iff_not,Bool.and_eq_false_iff,beq_eq_false_iff_ne] at h;obtain ⟨h1,h2⟩:=h;by_cases e:x=y
  ·subst e
   have:=Qg1 a b (by simpa using h2) (fun e=>hne (by rw [e]))
   simp [Op.bytesLess,this]
  ·have:y<x:=by
    rw [UInt8.lt_iff_toNat_lt] at h1 ⊢
    have:x.toNat≠y.toNat:=fun h=>e (UInt8.toNat_inj.1 h)
    omega
   simp [Op.bytesLess,this]
theorem Qfd:∀ a b c:List UInt8,Op.bytesLess a b=true→Op.bytesLess b c=true→Op.bytesLess a c=true
 | _,[],_,h,_=>by cases ‹List UInt8› <;> simp [Op.bytesLess] at h
 | _,_ :: _,[],_,h=>by simp [Op.bytesLess] at h
 | [],_ :: _,_ :: _,_,_=>by simp [Op.bytesLess]
 | x :: a,y :: b,z :: c,h1,h2=>by
  simp only [Op.bytesLess,Bool.or_eq_true,decide_eq_true_eq,Bool.and_eq_true,beq_iff_eq] at h1 h2 ⊢;simp only [UInt8.lt_iff_toNat_lt] at h1 h2 ⊢;rcases h1 with h1 | ⟨rfl,h1⟩
  ·rcases h2 with h2 | ⟨rfl,h2⟩
   ·exact .inl (by omega)
   ·exact .inl h1
  ·rcases h2 with h2 | ⟨rfl,h2⟩
   ·exact .inl h2
   ·exact .inr ⟨rfl,Qfd a b c h1 h2⟩
structure Ln where
 acc:ByteArray
 cur:ByteArray
 amt:Int
def Ln.cells (x:Ln):Array Value:=#[.string x.acc,.string x.cur,.int .i64 x.amt]
def ln0:Ln:=⟨ByteArray.empty,ByteArray.empty,0⟩
theorem QbW {a b:ByteArray} (h:a.toList=b.toList):a=b:=by
 rw [Lib.toList_data,Lib.toList_data] at h;exact WideShapes.bytes_inj h
def QdG (a b:Ln):Bool:=Op.bytesLess a.acc.toList b.acc.toList || (a.acc.toList == b.acc.toList && Op.bytesLess a.cur.toList b.cur.toList)
def Qef (a b:Ln):Bool:=a.acc.toList == b.acc.toList && a.cur.toList == b.cur.toList
theorem Qbo {a b:Ln}:Qef a b=true↔a.acc=b.acc∧a.cur=b.cur:=by
 unfold Qef;simp only [Bool.and_eq_true,beq_iff_eq];exact ⟨fun h=>⟨QbW h.1,QbW h.2⟩,fun h=>⟨by rw [h.1],by rw [h.2]⟩⟩
theorem lnLt_eq {a b:Ln} (h:Qef a b=true):QdG a b=false:=by
 obtain ⟨h1,h2⟩:=Qbo.1 h;simp [QdG,h1,h2,Qf6]
theorem lnLt_key {a b c:Ln} (h:Qef b c=true):QdG a b=QdG a c∧QdG b a=QdG c a:=by
 obtain ⟨h1,h2⟩:=Qbo.1 h;simp [QdG,h1,h2]
theorem lnLt_total {a b:Ln} (h:QdG a b=false) (hn:Qef a b=false):QdG b a=true:=by
 unfold QdG at *
 unfold Qef at hn;simp only [Bool.or_eq_false_iff,Bool.and_eq_false_iff,beq_eq_false_iff_ne,Bool.or_eq_true,Bool.and_eq_true,beq_iff_eq] at h hn ⊢;obtain ⟨h1,h2⟩:=h;by_cases e:a.acc.toList=b.acc.toList
 ·right
  refine ⟨e.symm,Qg1 _ _ ?_ ?_⟩
  ·rcases h2 with h2 | h2
   ·exact absurd e h2
   ·exact h2
  ·rcases hn with hn | hn
   ·exact absurd e hn
   ·exact hn
 ·exact .inl (Qg1 _ _ h1 e)
theorem Qjr {a b c:Ln} (h1:QdG a b=true) (h2:QdG b c=true):QdG a c=true:=by
 unfold QdG at *
 simp only [Bool.or_eq_true,Bool.and_eq_true,beq_iff_eq] at h1 h2 ⊢;rcases h1 with h1 | ⟨e1,h1⟩
 ·rcases h2 with h2 | ⟨e2,h2⟩
  ·exact .inl (Qfd _ _ _ h1 h2)
  ·exact .inl (by rw [← e2];exact h1)
 ·rcases h2 with h2 | ⟨e2,h2⟩
  ·exact .inl (by rw [e1];exact h2)
  ·exact .inr ⟨e1.trans e2,Qfd _ _ _ h1 h2⟩
def Qcl (x:Ln):List Ln→Nat
 | []=>0
 | y :: l=>if QdG y x=true then Qcl x l+1 else 0
def Qc6 (x:Ln):List Ln→List Ln
 | []=>[x]
 | y :: l=>if QdG y x=true then y :: Qc6 x l else if Qef y x=true then ⟨y.acc,y.cur,y.amt+x.amt⟩ :: l else x :: y :: l
def grp (l:List Ln):List Ln:=l.foldl (fun r x=>Qc6 x r) []
theorem grp_snoc (l:List Ln) (x:Ln):grp (l++[x])=Qc6 x (grp l):=by simp [grp]
def Qfw (l:List Ln):Prop:=l.Pairwise fun a b=>QdG a b=true
theorem posL_le (x:Ln):∀ l:List Ln,Qcl x l≤l.length
 | []=>Nat.le_refl _
 | y :: l=>by
  have:=posL_le x l
  rw [Qcl]
  split
  ·simp only [List.length_cons];omega
  ·exact Nat.zero_le _
theorem posL_lt (x:Ln):∀ (l:List Ln) (h:Nat),h<Qcl x l→QdG (l.getD h ln0) x=true
 | [],h,hh=>by simp [Qcl] at hh
 | y :: l,h,hh=>by
  rw [Qcl] at hh;split at hh
  ·rename_i hy
   cases h with
   | zero=>simpa using hy
   | succ h=>simpa using posL_lt x l h (by omega)
  ·omega
theorem posL_at (x:Ln):∀ (l:List Ln),Qcl x l<l.length→QdG (l.getD (Qcl x l) ln0) x=false
 | [],h=>by simp at h
 | y :: l,h=>by
  rw [Qcl] at h ⊢
  split
  ·rename_i hy;rw [if_pos hy] at h;simpa using posL_at x l (by simpa using h)
  ·rename_i hy;simpa using hy
theorem sort_lt {l:List Ln} (h:Qfw l) {i j:Nat} (hij:i<j) (hj:j<l.length):QdG (l.getD i ln0) (l.getD j ln0)=true:=by
 have:=List.pairwise_iff_getElem.1 h i j (by omega) hj hij
 rw [List.getD_eq_getElem?_getD,List.getD_eq_getElem?_getD,List.getElem?_eq_getElem hj,List.getElem?_eq_getElem (by omega:i<l.length)]
 exact this
theorem pos_iff {l:List Ln} (hs:Qfw l) (x:Ln) {h:Nat} (hh:h<l.length):QdG (l.getD h ln0) x=decide (h<Qcl x l):=by
 by_cases hp:h<Qcl x l
 ·rw [posL_lt x l h hp,decide_eq_true hp]
 ·rw [decide_eq_false hp];have hq:=posL_at x l (by omega)
  by_cases e:h=Qcl x l
  ·rw [e];exact hq
  ·cases h2:QdG (l.getD h ln0) x
   ·rfl
   ·have:=Qjr (sort_lt hs (by omega:Qcl x l<h) hh) h2
    rw [hq] at this;cases this
theorem Qgf (x:Ln):∀ (l:List Ln),Qcl x l<l.length→Qef (l.getD (Qcl x l) ln0) x=true→Qc6 x l=l.set (Qcl x l) ⟨(l.getD (Qcl x l) ln0).acc,(l.getD (Qcl x l) ln0).cur,(l.getD (Qcl x l) ln0).amt+x.amt⟩
 | [],h,_=>by simp at h
 | y :: l,h,he=>by
  by_cases hy:QdG y x=true
  ·rw [Qcl,if_pos hy] at h he ⊢;rw [Qc6,if_pos hy];simp only [List.getD_cons_succ,List.set_cons_succ] at he ⊢;rw [Qgf x l (by simpa using h) he]
  ·rw [Qcl,if_neg hy] at h he ⊢;simp only [List.getD_cons_zero,List.set_cons_zero] at he ⊢;rw [Qc6,if_neg hy,if_pos he]
theorem insL_new (x:Ln):∀ (l:List Ln),(Qcl x l<l.length→Qef (l.getD (Qcl x l) ln0) x=false)→Qc6 x l=l.take (Qcl x l)++x :: l.drop (Qcl x l)
 | [],_=>rfl
 | y :: l,he=>by
  by_cases hy:QdG y x=true
  ·rw [Qcl,if_pos hy] at he ⊢;rw [Qc6,if_pos hy,insL_new x l (fun h=>by simpa using he (by simpa using h))]
   rfl
  ·rw [Qcl,if_neg hy] at he ⊢
   have:=he (by simp)
   simp only [List.getD_cons_zero] at this;rw [Qc6,if_neg hy,if_neg (by rw [this];simp)]
   rfl
theorem Qho (x:Ln):∀ l:List Ln,(Qc6 x l).length≤l.length+1
 | []=>Nat.le_refl _
 | y :: l=>by
  have:=Qho x l
  rw [Qc6]
  split
  ·simp only [List.length_cons];omega
  ·split <;> simp
theorem Qd3:∀ (l r:List Ln),(l.foldl (fun r x=>Qc6 x r) r).length≤r.length+l.length
 | [],r=>by simp
 | x :: l,r=>by
  have h1:=Qd3 l (Qc6 x r);have h2:=Qho x r;simp only [List.foldl_cons,List.length_cons];omega
theorem Qdc (l:List Ln):(grp l).length≤l.length:=by
 have:=Qd3 l []
 simpa [grp] using this
theorem insL_mem (x:Ln):∀ (l:List Ln) (z:Ln),z∈Qc6 x l→(∃ y∈l,Qef z y=true)∨Qef z x=true
 | [],z,h=>by
  simp only [Qc6,List.mem_singleton] at h;subst h;exact .inr (Qbo.2 ⟨rfl,rfl⟩)
 | y :: l,z,h=>by
  rw [Qc6] at h;split at h
  ·rcases List.mem_cons.1 h with rfl | h
   ·exact .inl ⟨z,by simp,Qbo.2 ⟨rfl,rfl⟩⟩
   ·rcases insL_mem x l z h with ⟨w,hw,e⟩ | e
    ·exact .inl ⟨w,by simp [hw],e⟩
    ·exact .inr e
  ·split at h
   ·rcases List.mem_cons.1 h with rfl | h
    ·exact .inl ⟨y,by simp,Qbo.2 ⟨rfl,rfl⟩⟩
    ·exact .inl ⟨z,by simp [h],Qbo.2 ⟨rfl,rfl⟩⟩
   ·rcases List.mem_cons.1 h with rfl | h
    ·exact .inr (Qbo.2 ⟨rfl,rfl⟩)
    ·exact .inl ⟨z,h,Qbo.2 ⟨rfl,rfl⟩⟩
theorem insL_sort (x:Ln):∀ (l:List Ln),Qfw l→Qfw (Qc6 x l)
 | [],_=>by simp [Qfw,Qc6]
 | y :: l,h=>by
  have h1:∀ z∈l,QdG y z=true:=(List.pairwise_cons.1 h).1;have h2:Qfw l:=(List.pairwise_cons.1 h).2;rw [Qc6]
  split
  ·rename_i hy;refine List.pairwise_cons.2 ⟨fun z hz=>?_,insL_sort x l h2⟩
   rcases insL_mem x l z hz with ⟨w,hw,e⟩ | e
   ·rw [(lnLt_key e).1];exact h1 w hw
   ·rw [(lnLt_key e).1];exact hy
  ·rename_i hy
   split
   ·exact List.pairwise_cons.2 ⟨fun z hz=>by
     have:=h1 z hz
     rw [← (lnLt_key (a:=z) (b:=⟨y.acc,y.cur,y.amt+x.amt⟩) (c:=y) (Qbo.2 ⟨rfl,rfl⟩)).2] at this;exact this,h2⟩
   ·rename_i he;have hxy:QdG x y=true:=lnLt_total (by simpa using hy) (by simpa using he)
    refine List.pairwise_cons.2 ⟨fun z hz=>?_,h⟩
    rcases List.mem_cons.1 hz with rfl | hz
    ·exact hxy
    ·exact Qjr hxy (h1 z hz)
theorem Qfn:∀ (l r:List Ln),Qfw r→Qfw (l.foldl (fun r x=>Qc6 x r) r)
 | [],r,h=>h
 | x :: l,r,h=>Qfn l _ (insL_sort x r h)
theorem grp_sort (l:List Ln):Qfw (grp l):=Qfn l [] List.Pairwise.nil
def QaA (m:Int) (l:List Ln):Prop:=∀ x∈l,-m≤x.amt∧x.amt≤m
theorem Qjp {m k:Int} (hk:0≤k) (x:Ln) (hx:-m≤x.amt∧x.amt≤m):∀ l:List Ln,QaA k l→QaA (k+m) (Qc6 x l)
 | [],_=>by
  intro z hz;simp only [Qc6,List.mem_singleton] at hz;subst hz;omega
 | y :: l,h=>by
  have h1:=h y (by simp)
  have h2:QaA k l:=fun z hz=>h z (by simp [hz])
  rw [Qc6]
  split
  ·intro z hz;rcases List.mem_cons.1 hz with rfl | hz
   ·omega
   ·exact Qjp hk x hx l h2 z hz
  ·split
   ·intro z hz;rcases List.mem_cons.1 hz with rfl | hz
    ·simp only;omega
    ·have:=h2 z hz;omega
   ·intro z hz;rcases List.mem_cons.1 hz with rfl | hz
    ·omega
    ·have:=h z hz;omega
theorem QdP {m:Int} (hm:0≤m):∀ (l r:List Ln) (k:Int),0≤k→QaA m l→QaA k r→QaA (k+l.length*m) (l.foldl (fun r x=>Qc6 x r) r)
 | [],r,k,hk,_,h=>by simpa using h
 | x :: l,r,k,hk,hl,h=>by
  have:=QdP hm l (Qc6 x r) (k+m) (by omega) (fun z hz=>hl z (by simp [hz])) (Qjp hk x (hl x (by simp)) r h)
  have e:k+((x :: l).length:Int)*m=k+m+(l.length:Int)*m:=by
   simp only [List.length_cons,Int.natCast_add,Int.natCast_one];rw [Int.add_mul];omega
  rw [e];exact this
theorem Qi6 {m:Int} (hm:0≤m) {l:List Ln} (h:QaA m l):QaA (l.length*m) (grp l):=by
 have:=QdP hm l [] 0 (Int.le_refl _) h (fun z hz=>by simp at hz)
 simpa [grp] using this
end
section
open Go.RowKit Go.Lib Go.Proofs.Tryz
def Qak (n m:Int):Bool:=decide (1≤n) && decide (n≤m)
theorem QcW {n m:Int}:Qak n m=true↔1≤n∧n≤m:=by simp [Qak]
def Qaq:Int:=1000000000000000
def Qas (n:Int):Bool:=decide (-1000000000000000≤n) && decide (n≤1000000000000000)
theorem Qa8 {n:Int}:Qas n=true↔-Qaq≤n∧n≤Qaq:=by
 simp [Qas,Qaq]
theorem Qbl (n:Int) (w:World) :
  Calls prog 108 #[.int .i64 n] w fun e w'=>e=.returned (.bool (Qas n))∧w'=w:=by
 by_cases h:-1000000000000000≤n
 ·have:Qas n=decide (n≤1000000000000000):=by simp [Qas,h]
  rw [this];go_enter func108,ntmps108
  go_wp2;go_ret;exact ⟨rfl,rfl⟩
 ·have:Qas n=false:=by simp [Qas,h]
  rw [this];go_enter func108,ntmps108
  go_wp2;go_ret;exact ⟨rfl,rfl⟩
theorem Qbm (n:Int) (w:World) :
  Calls prog 84 #[.int .i64 n] w fun e w'=>e=.returned (.bool (Qak n 12))∧w'=w:=by
 by_cases h:1≤n
 ·have e1:Qak n 12=decide (n≤12):=by simp [Qak,h]
  rw [e1];go_enter func84,ntmps84
  go_wp2;go_ret;exact ⟨rfl,rfl⟩
 ·have e1:Qak n 12=false:=by simp [Qak,h]
  rw [e1];go_enter func84,ntmps84
  go_wp2;go_ret;exact ⟨rfl,rfl⟩
theorem QaM (n:Int) (w:World) :
  Calls prog 31 #[.int .i64 n] w fun e w'=>e=.returned (.bool (Qak n 120))∧w'=w:=by
 by_cases h:1≤n
 ·have e1:Qak n 120=decide (n≤120):=by simp [Qak,h]
  rw [e1];go_enter func31,ntmps31
  go_wp2;go_ret;exact ⟨rfl,rfl⟩
 ·have e1:Qak n 120=false:=by simp [Qak,h]
  rw [e1];go_enter func31,ntmps31
  go_wp2;go_ret;exact ⟨rfl,rfl⟩
end
section
open Go.RowKit Go.Lib Go.Proofs.Tryz
theorem en_empty {a:ByteArray} (h:a.size=0):a.toList=[]:=by
 rw [Lib.toList_data];exact List.eq_nil_of_length_eq_zero h
theorem en_some {a:ByteArray} (h:a.size≠0):¬ a.toList=[]:=by
 rw [Lib.toList_data];exact fun e=>h (congrArg List.length e)
theorem QaE {B:Nat} {a w:World} (h:Below B a w) (n:Nat):Below B a (w.drewN n):=h.trans ⟨rfl,rfl,rfl,Nat.le_refl _,fun _ _=>rfl⟩
theorem QaL {f : FuncId} {fn : Func} (hf : prog.funcs[f]? = some fn) (hn : (fn.name == "runtime.NumGoroutine") = false) (hb : ∃ c, fn.body = some c) (args : Array Value) (w : World) : (callFunc f args).run prog w = .ok (.enter f args) w := by
 obtain ⟨c,hc⟩:=hb;exact MuLone.run_callFunc_enter hf hn hc args w
def enE (n:Int):Value:=if n=0 then .nilIface else .iface 68 (.int .i64 n)
theorem QcR:enE 0=.nilIface:=rfl
theorem Qbb {n:Int} (h:n≠0):enE n=.iface 68 (.int .i64 n):=if_neg h
def Qdv (r:Nat):Bool:=(decide (r<97) || decide (122<r)) && (decide (r<48) || decide (57<r)) && !decide (r=45)
theorem badR_low {r:Nat} (h:Qdv r=false):r<128:=by
 simp [Qdv] at h;omega
theorem Qjo (r:Nat) (w:World) :
  Calls prog 153 #[.int .i32 r] w fun e w'=>e=.returned (.bool (Qdv r))∧w'=w:=by
 have h1:(r:Int)<48∨(48:Int)≤r∧(r:Int)≤57∨(57:Int)<r∧(r:Int)<97∨(97:Int)≤r∧(r:Int)≤122∨(122:Int)<r:=by omega
 have e45:((r:Int) != 45)=!decide (r=45):=by
  by_cases e:r=45
  ·subst e;rfl
  ·have:((r:Int) != 45)=true:=by simp;omega
   rw [this];simp [e]
 rcases h1 with a | ⟨a,b⟩ | ⟨a,b⟩ | ⟨a,b⟩ | a
 ·have:Qdv r=!decide (r=45):=by
   have d1:decide (r<97)=true:=by simp;omega
   have d2:decide (r<48)=true:=by simp;omega
   unfold Qdv;rw [d1,d2];rfl
  rw [this];have n97:(r:Int)<97:=by omega
  go_enter func153,ntmps153
  go_wp2;go_ret;exact ⟨rfl,rfl⟩
 ·have:Qdv r=false:=by simp [Qdv];omega
  rw [this];have n97:(r:Int)<97:=by omega
  go_enter func153,ntmps153
  go_wp2;go_ret;exact ⟨rfl,rfl⟩
 ·have:Qdv r=true:=by simp [Qdv];omega
  have n45:(!decide (r=45))=true:=by simp;omega
  rw [this];clear this;go_enter func153,ntmps153
  go_wp2;go_ret;exact ⟨by rw [← n45];rfl,rfl⟩
 ·have:Qdv r=false:=by simp [Qdv];omega
  rw [this];go_enter func153,ntmps153
  go_wp2;go_ret;exact ⟨rfl,rfl⟩
 ·have:Qdv r=true:=by simp [Qdv];omega
  have n45:(!decide (r=45))=true:=by simp;omega
  rw [this];clear this;have n97:¬ (r:Int)<97:=by omega
  have n48:¬ (r:Int)<48:=by omega
  have n57:(57:Int)<r:=by omega
  go_enter func153,ntmps153
  go_wp2;go_ret;exact ⟨by rw [← n45];rfl,rfl⟩
def Qav (p:Nat→Bool) (s:ByteArray):Nat→Nat→Int
 | 0,_=>-1
 | f+1,pos=>if pos<s.size then (if p (Utf8.decode s pos).1=true then (pos:Int) else Qav p s f (pos+(Utf8.decode s pos).2)) else -1
theorem QdI (p:Nat→Bool) (s:ByteArray) (f pos:Nat) (h:¬ pos<s.size):Qav p s f pos = -1:=by cases f <;> simp [Qav,h]
theorem Qhu (p:Nat→Bool) (hp:∀ r,p r=false→r<128) (s:ByteArray):∀ (f pos:Nat),s.size≤pos+f→(Qav p s f pos<0↔∀ i,pos≤i→i<s.size→p (s.get! i).toNat=false)
 | 0,pos,h=>by
  simp only [Qav];exact ⟨fun _ i h1 h2=>by omega,fun _=>by omega⟩
 | f+1,pos,h=>by
  by_cases hlt:pos<s.size
  ·have hg:s.get! pos=s[pos]'hlt:=by
    show s.data[pos]! = s.data[pos]'hlt;exact getElem!_pos s.data pos hlt
   rw [Qav,if_pos hlt];by_cases ha:(s[pos]'hlt).toNat<128
   ·rw [decode_ascii s pos hlt ha];cases hc:p (s[pos]'hlt).toNat
    ·rw [if_neg (by simp [hc]),Qhu p hp s f (pos+1) (by omega)]
     constructor
     ·intro hf i h1 h2;by_cases e:i=pos
      ·subst e;rw [hg];exact hc
      ·exact hf i (by omega) h2
     ·intro hf i h1 h2;exact hf i (by omega) h2
    ·rw [if_pos (by simp [hc])]
     refine ⟨fun h=>by omega,fun hf=>?_⟩
     have:=hf pos (Nat.le_refl _) hlt
     rw [hg,hc] at this;cases this
   ·have hd:=(decode_high s pos hlt (by omega)).1
    have hq:p (Utf8.decode s pos).1=true:=by
     cases hh:p (Utf8.decode s pos).1
     ·have:=hp _ hh;omega
     ·rfl
    rw [if_pos hq];refine ⟨fun h=>by omega,fun hf=>?_⟩
    have:=hp _ (hf pos (Nat.le_refl _) hlt)
    rw [hg] at this;omega
  ·rw [QdI p s _ _ hlt];exact ⟨fun _ i h1 h2=>by omega,fun _=>by omega⟩
set_option maxHeartbeats 1000000 in
theorem Qgy (s:ByteArray) (w:World) :
  Calls prog 152 #[.string s,.func (.func 153) #[] #[],.bool true] w fun e w'=>e=.returned (.int .i64 (Qav Qdv s s.size 0))∧Below w.heap.size w w':=by
 go_enter func152,ntmps152
 go_wp2;go_loopg [] s.size (fun gf wx=>∃ pos:Nat,wx.heap[w.heap.size]? = some (.stringIter s pos)∧Below w.heap.size w wx∧Qav Qdv s gf pos=Qav Qdv s s.size 0∧s.size≤pos+gf)
 case atStart=>exact ⟨0,World.iter_heap w s 0,(Below.refl _ w).alloc (Nat.le_refl _) _,rfl,by omega⟩
 case round=>
  obtain ⟨pos,hit,hbw,hleft,hfu⟩:=hrel;by_cases hps:pos<s.size
  ·obtain ⟨g',rfl⟩:∃ g',gk=g'+1:=⟨gk - 1,by omega⟩
   have hnx:∀ ty,(Instr.next (.pointer (some ⟨w.heap.size,0,none⟩)) true ty).run prog wr=_:=fun ty=>Lib.run_next_any_at wr w.heap.size s pos ty hit hps
   have hwd:=Lib.width_pos s pos;obtain ⟨R,hR⟩:∃ R,(Utf8.decode s pos).1=R:=⟨_,rfl⟩;obtain ⟨K,hK⟩:∃ K,(Utf8.decode s pos).2=K:=⟨_,rfl⟩;simp only [Qav,hps,if_true,hR,hK] at hleft;rw [hR,hK] at hnx;rw [hK] at hwd;have hit2:=Lib.iterAt_heap wr w.heap.size s pos (pos+K) hit;have hbw2:=Lib.below_iterAt hbw (k:=w.heap.size) (Nat.le_refl _) s (pos+K);obtain ⟨W,hWd⟩:∃ W,wr.iterAt w.heap.size s (pos+K)=W:=⟨_,rfl⟩
   rw [hWd] at hnx hit2 hbw2;cases hsp:Qdv R <;> simp only [hsp,if_true,Bool.false_eq_true,if_false] at hleft
   ·go_wp2_with (go_at_call 153;refine (Qjo R _).mono ?_;rintro e W' ⟨rfl,rfl⟩;rw [hsp]);go_roundg g'
    case measure=>omega
    case rel=>exact ⟨pos+K,hit2,hbw2,hleft,by omega⟩
   ·go_wp2_with (go_at_call 153;refine (Qjo R _).mono ?_;rintro e W' ⟨rfl,rfl⟩;rw [hsp]);go_ret;exact ⟨by rw [← hleft];rfl,hbw2⟩
  ·have hnx:∀ ty,(Instr.next (.pointer (some ⟨w.heap.size,0,none⟩)) true ty).run prog wr=_:=fun ty=>Lib.run_next_end_at wr w.heap.size s pos ty hit hps
   rw [QdI Qdv s gk pos hps] at hleft;go_wp2;go_ret;exact ⟨by rw [← hleft];rfl,hbw⟩
theorem QeU (s:ByteArray) (w:World) :
  Calls prog 63 #[.string s,.func (.func 153) #[] #[]] w fun e w'=>e=.returned (.bool (decide (0≤Qav Qdv s s.size 0)))∧Below w.heap.size w w':=by
 have hI:Calls prog 106 #[.string s,.func (.func 153) #[] #[]] w fun e w'=>e=.returned (.int .i64 (Qav Qdv s s.size 0))∧Below w.heap.size w w':=by
  go_enter func106,ntmps106
  go_wp2_with fail;refine (Qgy s _).mono ?_;rintro e w' ⟨rfl,hb⟩;go_wp2;go_ret;exact ⟨rfl,hb⟩
 go_enter func63,ntmps63
 go_wp2_with fail;refine hI.mono ?_;rintro e w' ⟨rfl,hb⟩;go_wp2;go_ret;exact ⟨rfl,hb⟩
def Qbr (s:ByteArray):Bool:=decide (s.size≠0) && (decide (s.size≤12) && (decide ((s.get! 0).toNat≠45) && decide (Qav Qdv s s.size 0<0)))
theorem QiT {s:ByteArray}:Qbr s=true↔s.size≠0∧s.size≤12∧(s.get! 0).toNat≠45∧∀ i,i<s.size→Qdv (s.get! i).toNat=false:=by
 unfold Qbr;simp only [Bool.and_eq_true,decide_eq_true_eq];rw [Qhu Qdv (fun r h=>badR_low h) s s.size 0 (by omega)]
 exact ⟨fun ⟨a,b,c,d⟩=>⟨a,b,c,fun i hi=>d i (Nat.zero_le _) hi⟩,fun ⟨a,b,c,d⟩=>⟨a,b,c,fun i _ hi=>d i hi⟩⟩
set_option maxHeartbeats 1000000 in
theorem isRef_any (s:ByteArray) (w:World) :
  Calls prog 107 #[.string s] w fun e w'=>e=.returned (.bool (Qbr s))∧Below w.heap.size w w':=by
 by_cases h0:s.size=0
 ·have e0:=en_empty h0;have er:Qbr s=false:=by simp [Qbr,h0]
  rw [er];go_enter func107,ntmps107
  go_wp2;go_ret;exact ⟨rfl,Below.refl _ _⟩
 have e0:=en_some h0;have e0':s.toList.isEmpty=false:=by simpa using e0
 by_cases h1:s.size≤12
 ·have h1':decide ((s.size:Int)≤12)=true:=by simp;omega
  have h2':(0:Int)<s.size:=by omega
  have hp:0<s.size:=by omega
  have hg:s.get! 0=s[0]'hp:=getElem!_pos s.data 0 hp;by_cases h2:(s.get! 0).toNat=45
  ·have er:Qbr s=false:=by simp [Qbr,h2]
   have h3:((s[0]'hp).toNat:Int)=45:=by rw [← hg,h2];rfl
   rw [er];clear h2 hg;go_enter func107,ntmps107
   go_wp2;go_ret;exact ⟨rfl,Below.refl _ _⟩
  ·have h3:¬ ((s[0]'hp).toNat:Int)=45:=by rw [← hg];omega
   have h3b:(((s[0]'hp).toNat:Int) != 45)=true:=by simpa using h3
   have er:Qbr s=!decide (0≤Qav Qdv s s.size 0):=by
    have d1:decide (s.size≠0)=true:=by simp [h0]
    have d2:decide (s.size≤12)=true:=by simp [h1]
    have d4:decide ((s.get! 0).toNat≠45)=true:=by simp [h2]
    have d3:decide (Qav Qdv s s.size 0<0)=!decide (0≤Qav Qdv s s.size 0):=by
     by_cases hh:0≤Qav Qdv s s.size 0
     ·rw [decide_eq_true hh,decide_eq_false (by omega)];rfl
     ·rw [decide_eq_false hh,decide_eq_true (by omega)];rfl
    unfold Qbr;rw [d1,d2,d3,d4];rfl
   rw [er];clear h2 hg er;go_enter func107,ntmps107
   go_wp2_with fail;refine (QeU s _).mono ?_;rintro e w' ⟨rfl,hb⟩;go_wp2;go_ret;exact ⟨rfl,hb⟩
 ·have h1':decide ((s.size:Int)≤12)=false:=by simp;omega
  have er:Qbr s=false:=by simp [Qbr,h1]
  rw [er];go_enter func107,ntmps107
  go_wp2;go_ret;exact ⟨rfl,Below.refl _ _⟩
end
section
open Go.RowKit Go.Lib Go.Proofs.Tryz
structure Qev (w:World) (b off:Nat) (x:Ln):Prop where
 c0:w.cell? ⟨b,off,none⟩=some (.string x.acc)
 c1:w.cell? ⟨b,off+1,none⟩=some (.string x.cur)
 c2:w.cell? ⟨b,off+2,none⟩=some (.int .i64 x.amt)
theorem Qev.below {w w':World} {b off n:Nat} {a:Ln} (h:Qev w b off a) (hb:Below n w w') (hn:b<n):Qev w' b off a:=
 ⟨(hb.cell (p:=⟨b,off,none⟩) hn).trans h.c0,(hb.cell (p:=⟨b,off+1,none⟩) hn).trans h.c1,(hb.cell (p:=⟨b,off+2,none⟩) hn).trans h.c2⟩
theorem Qev.new (w:World) (a:Ln) (t:TypeId):Qev (w.alloc (.cells a.cells t)) w.heap.size 0 a:=
 ⟨by simp [Ln.cells],by simp [Ln.cells],by simp [Ln.cells]⟩
def Qbz (w:World) (b off:Nat) (l:List Ln):Prop:=∀ k,k<l.length→Qev w b (off+k*3) (l.getD k ln0)
structure Qc5 (w:World) (a:Option Addr) (l:List Ln) (cap:Nat):Prop where
 cap:l.length≤cap
 lies:l=[]∨∃ b off,a=some ⟨b,off,none⟩∧b<w.heap.size∧Qbz w b off l
theorem Qc5.below {w w':World} {a:Option Addr} {l:List Ln} {cap:Nat} (h:Qc5 w a l cap) (hb:Below w.heap.size w w'):Qc5 w' a l cap:=by
 refine ⟨h.cap,?_⟩;rcases h.lies with h | ⟨b,off,e,hlt,hc⟩
 ·exact .inl h
 ·exact .inr ⟨b,off,e,by have:=hb.size;omega,fun k hk=>(hc k hk).below hb hlt⟩
theorem Qeq (l:List Ln) (k:Nat) (h:k<l.length):l.drop k=l.getD k ln0 :: l.drop (k+1):=by
 rw [List.drop_eq_getElem_cons h,List.getD_eq_getElem?_getD,List.getElem?_eq_getElem h];rfl
theorem Qcg (l:List Ln) (k:Nat) (h:k<l.length):l.take (k+1)=l.take k++[l.getD k ln0]:=by
 rw [List.take_add_one,List.getElem?_eq_getElem h,List.getD_eq_getElem?_getD,List.getElem?_eq_getElem h];rfl
theorem QeY (l:List Ln) (k:Nat) (h:k<l.length):l.getD k ln0∈l:=by
 rw [List.getD_eq_getElem?_getD,List.getElem?_eq_getElem h];exact List.getElem_mem h
def Qah (l:List Ln):List Value:=l.flatMap fun x=>x.cells.toList
theorem Ln.cells_length (x:Ln):x.cells.toList.length=3:=rfl
theorem Qaf:∀ l:List Ln,(Qah l).length=l.length*3
 | []=>rfl
 | x :: l=>by
  have:=Qaf l
  unfold Qah at *
  simp only [List.flatMap_cons,List.length_append,Ln.cells_length,this,List.length_cons];omega
theorem Qan (l m:List Ln):Qah (l++m)=Qah l++Qah m:=by simp [Qah]
theorem Qbh (x:Ln):Qah [x]=x.cells.toList:=by simp [Qah]
theorem Qb7:∀ (l:List Ln) (k j:Nat),k<l.length→j<3→(Qah l)[k*3+j]? = (l.getD k ln0).cells.toList[j]?
 | [],_,_,h,_=>absurd h (by simp)
 | x :: l,0,j,_,hj=>by
  simp only [Qah,List.flatMap_cons,Nat.zero_mul,Nat.zero_add,List.getD_cons_zero];rw [List.getElem?_append_left (by rw [Ln.cells_length];exact hj)]
 | x :: l,k+1,j,h,hj=>by
  have ih:=Qb7 l k j (by simpa using h) hj
  simp only [Qah,List.flatMap_cons,List.getD_cons_succ] at ih ⊢;rw [List.getElem?_append_right (by rw [Ln.cells_length];omega),Ln.cells_length,← ih]
  congr 1;omega
theorem QaU (l:List Ln):∀ u∈Qah l,u.oneCell'=true:=by
 intro u hu;simp only [Qah,List.mem_flatMap] at hu;obtain ⟨x,_,hx⟩:=hu;simp [Ln.cells] at hx;rcases hx with rfl | rfl | rfl <;> rfl
theorem Qek (l:List Ln) (k:Nat):Qah (l.take k)=(Qah l).take (k*3):=by
 have h:=Qan (l.take k) (l.drop k);rw [List.take_append_drop] at h;rw [h];by_cases hk:k≤l.length
 ·have:(Qah (l.take k)).length=k*3:=by rw [Qaf,List.length_take,Nat.min_eq_left hk]
  rw [← this,List.take_left]
 ·rw [List.take_of_length_le (by omega),List.drop_eq_nil_of_le (by omega)]
  rw [List.take_of_length_le]
  ·show Qah l=Qah l++[];simp
  ·show (Qah l++[]).length≤_;rw [List.append_nil,Qaf];omega
theorem Qi0 (l:List Ln) (k:Nat):Qah (l.drop k)=(Qah l).drop (k*3):=by
 have h:=Qan (l.take k) (l.drop k);rw [List.take_append_drop] at h;have h2:=Qek l k;have h3:Qah l=(Qah l).take (k*3)++(Qah l).drop (k*3):=(List.take_append_drop _ _).symm;rw [← h2] at h3;rw [h] at h3
 have:=List.append_cancel_left h3
 rw [this];rw [h]
def Qab (w:World) (n:Nat) (v:Value) (l:List Ln):Prop:=w.ownsRow n 44 3 v l.length (Qah l)
theorem Qab.nil (w:World) (n:Nat):Qab w n (.slice none 0 0) []:=World.ownsRow_nil _ _ _ _
theorem Qab.isLn {W:World} {n0:Nat} {v:Value} {l:List Ln} (h:Qab W n0 v l) :
  ∃ a cap,v=.slice a l.length cap∧Qc5 W a l cap:=by
 obtain ⟨hlen,⟨rfl,h0⟩ | ⟨g,cap,cur,rfl,hb,hg,hc,hm,hs,ht⟩⟩:=h
 ·have:l=[]:=List.eq_nil_of_length_eq_zero h0
  subst this;exact ⟨none,0,rfl,Nat.le_refl _,.inl rfl⟩
 ·refine ⟨_,cap,rfl,hc,.inr ⟨g,0,rfl,(Array.getElem?_eq_some_iff.1 hg).1,?_⟩⟩;intro k hk;have C:∀ j,j<3→W.cell? ⟨g,0+k*3+j,none⟩=(l.getD k ln0).cells.toList[j]?:=fun j hj=>by
   have e1:(Qah l)[k*3+j]? = cur[k*3+j]?:=by
    rw [← ht,List.getElem?_take,if_pos (by omega)]
    simp
   rw [← Qb7 l k j hk hj,e1];simp [World.cell?,hg]
  exact ⟨C 0 (by omega),C 1 (by omega),C 2 (by omega)⟩
theorem Qab.below {w w':World} {n:Nat} {v:Value} {l:List Ln} (h:Qab w n v l) (hb:Below w.heap.size w w'):Qab w' n v l:=by
 rcases h.2 with ⟨hv,hn⟩ | ⟨g1,c1,cur,hv,hb1,hh,r⟩
 ·exact ⟨h.1,.inl ⟨hv,hn⟩⟩
 ·exact ⟨h.1,.inr ⟨g1,c1,cur,hv,hb1,(hb.block g1 (Array.getElem?_eq_some_iff.1 hh).1).trans hh,r⟩⟩
theorem Qab.mono {w:World} {n m:Nat} {v:Value} {l:List Ln} (h:Qab w n v l) (hm:m≤n):Qab w m v l:=by
 rcases h.2 with ⟨hv,hn⟩ | ⟨g1,c1,cur,hv,hb1,r⟩
 ·exact ⟨h.1,.inl ⟨hv,hn⟩⟩
 ·exact ⟨h.1,.inr ⟨g1,c1,cur,hv,by omega,r⟩⟩
theorem Qab.own {w:World} {n:Nat} {v:Value} {xs:List Ln} (h:Qab w n v xs):∀ j,v.ownBlock=some j→n≤j:=fun j ej=>by
 rcases h.2 with ⟨rfl,_⟩ | ⟨g1,c1,cur,rfl,hg1,_⟩
 ·cases ej
 ·cases ej;exact hg1
def Qbg (p:Ln→Bool):Nat→List Ln→Int
 | _,[]=>-1
 | k,a :: l=>if p a=true then (k:Int) else Qbg p (k+1) l
theorem lidx_any (p:Ln→Bool):∀ (l:List Ln) (k:Nat),decide (0≤Qbg p k l)=l.any p
 | [],k=>by simp [Qbg]
 | x :: l,k=>by
  rw [Qbg];cases h:p x
  ·rw [if_neg (by simp),lidx_any p l (k+1)];simp [h]
  ·rw [if_pos rfl];simp [h]
theorem lidx_spec (p:Ln→Bool):∀ (l:List Ln) (k:Nat),(Qbg p k l = -1∧l.any p=false)∨∃ j,j<l.length∧Qbg p k l=((k+j:Nat):Int)∧p (l.getD j ln0)=true∧(l.take j).any p=false
 | [],k=>.inl ⟨rfl,rfl⟩
 | x :: l,k=>by
  cases h:p x
  ·rcases lidx_spec p l (k+1) with ⟨e,ha⟩ | ⟨j,hj,e,hp,ha⟩
   ·exact .inl ⟨by rw [Qbg,if_neg (by simp [h]),e],by simp [h,ha]⟩
   ·exact .inr ⟨j+1,by simpa using hj,by rw [Qbg,if_neg (by simp [h]),e];congr 1;omega,by simpa using hp,by simp [h,ha]⟩
  ·exact .inr ⟨0,by simp,by rw [Qbg,if_pos h];simp,by simpa using h,by simp⟩
structure Qfc (g:Nat) (p:Ln→Bool):Prop where
 eg:∀ args W,(callFunc g args).run prog W=.ok (.enter g args) W
 call:∀ (x:Ln) W,Calls prog g #[.agg x.cells] W fun e w'=>e=.returned (.bool (p x))∧Below W.heap.size W w'
set_option maxHeartbeats 1000000 in
theorem lnIdx_some (g:Nat) (p:Ln→Bool) (b off cap:Nat) (l:List Ln) (w:World) (hp:Qfc g p) (hb:b<w.heap.size) (hlen:(l.length:Int)≤9223372036854775807) (hc:Qbz w b off l) :
  Calls prog 109 #[.slice (some ⟨b,off,none⟩) l.length cap,.func (.func g) #[] #[]] w fun e w'=>e=.returned (.int .i64 (Qbg p 0 l))∧Below w.heap.size w w':=by
 have eg:=hp.eg;have Hp:Hid (Qfc g p):=hp;have Hc:Hid (Qbz w b off l):=hc;clear hp hc;obtain ⟨res,hres⟩:∃ res,Qbg p 0 l=res:=⟨_,rfl⟩;have Hres:Hid (Qbg p 0 l=res):=hres;rw [hres];clear hres;go_enter func109,ntmps109
 go_wp2;go_loopw [8] (fun i wr=>∃ k:Nat,k≤l.length∧i=.int .i64 k∧Hid (Qbg p k (l.drop k)=res)∧Below w.heap.size w wr) (fun i _=>l.length - (RowKit.intOf i).toNat)
 case atStart=>exact ⟨0,Nat.zero_le _,rfl,Hres.out,Below.refl _ _⟩
 case round=>
  obtain ⟨k,hk,rfl,H,BW⟩:=hrel;by_cases hlt:k<l.length
  ·have hn:=(Hc.out k hlt).below BW hb;have hcall:=Hp.out.call (l.getD k ln0) wr;have E:Hid ((if p (l.getD k ln0)=true then (k:Int) else Qbg p (k+1) (l.drop (k+1)))=res):=by
    have:=H.out
    rw [Qeq l k hlt] at this;exact this
   clear H;generalize l.getD k ln0=a at *
   obtain ⟨a0,a1,a2⟩:=a;obtain ⟨c0,c1,c2⟩:=hn;simp only [Ln.cells] at c0 c1 c2 hcall;have i0:(0:Int)≤k:=by omega
   have i1:(k:Int)<l.length:=by omega
   cases hq:p ⟨a0,a1,a2⟩
   ·rw [hq] at hcall;have HN:Hid (Qbg p (k+1) (l.drop (k+1))=res):=by
     have:=E.out;rw [if_neg (by rw [hq];simp)] at this;exact this
    go_wp2_with (go_at_fn g;refine hcall.mono ?_;rintro e w' ⟨rfl,hb'⟩);go_roundw
    case rel=>exact ⟨k+1,by omega,by go_num,HN,BW.trans (hb'.mono BW.size)⟩
    case measure=>simp [RowKit.intOf];omega
   ·rw [hq] at hcall;have er:res=k:=by rw [← E.out,if_pos hq]
    subst er;go_wp2_with (go_at_fn g;refine hcall.mono ?_;rintro e w' ⟨rfl,hb'⟩);go_ret;exact ⟨rfl,BW.trans (hb'.mono BW.size)⟩
  ·have hk2:k=l.length:=by omega
   subst hk2;have er:res = -1:=by rw [← H.out,List.drop_length];rfl
   subst er;go_wp2;go_ret;exact ⟨rfl,BW⟩
theorem lnIdx_none (a:Option Addr) (cap:Nat) (f:Value) (w:World) :
  Calls prog 109 #[.slice a 0 cap,f] w fun e w'=>e=.returned (.int .i64 (-1))∧Below w.heap.size w w':=by
 go_enter func109,ntmps109
 go_wp2;refine wp_loop_rounds 1 ?_;rw [rounds_succ];go_wp2;go_ret;exact ⟨rfl,Below.refl _ _⟩
theorem lnIdx_any (g:Nat) (p:Ln→Bool) (a:Option Addr) (cap:Nat) (l:List Ln) (w:World) (hp:Qfc g p) (hlen:(l.length:Int)≤9223372036854775807) (h:Qc5 w a l cap) :
  Calls prog 109 #[.slice a l.length cap,.func (.func g) #[] #[]] w fun e w'=>e=.returned (.int .i64 (Qbg p 0 l))∧Below w.heap.size w w':=by
 rcases h.lies with rfl | ⟨b,off,rfl,hlt,hc⟩
 ·exact lnIdx_none a cap _ w
 ·exact lnIdx_some g p b off cap l w hp hlt hlen hc
theorem QeJ (g:Nat) (p:Ln→Bool) (a:Option Addr) (cap:Nat) (l:List Ln) (w:World) (hp:Qfc g p) (hlen:(l.length:Int)≤9223372036854775807) (h:Qc5 w a l cap) :
  Calls prog 67 #[.slice a l.length cap,.func (.func g) #[] #[]] w fun e w'=>e=.returned (.bool (l.any p))∧Below w.heap.size w w':=by
 rw [← lidx_any p l 0];have hI:=lnIdx_any g p a cap l w hp hlen h;clear h;go_enter func67,ntmps67
 go_wp2_with fail;refine hI.mono ?_;rintro e w' ⟨rfl,hb⟩;go_wp2;go_ret;exact ⟨rfl,hb⟩
end
section
open Go.RowKit Go.Lib Go.Proofs.Tryz
structure LMakes (g:Nat) (f:Ln→Ln) (ok:Ln→Prop):Prop where
 eg:∀ args W,(callFunc g args).run prog W=.ok (.enter g args) W
 call:∀ (x:Ln) W,ok x→Calls prog g #[.agg x.cells] W fun e w'=>e=.returned (.agg (f x).cells)∧Below W.heap.size W w'
theorem QcF:(prog.info? 44).map (fun i=>(i.zero,i.size,i.bytes))=some (some (.agg #[.string ByteArray.empty,.string ByteArray.empty,.int .i64 0]),3,40):=by kernel_rfl
theorem QbD (W:World) (y0 y1:ByteArray) (y2:Int) (b:Nat) (t:TypeId) (hb:b=W.heap.size):∀ j u,([.string y0,.string y1,.int .i64 y2]:List Value)[j]? = some u→(W.alloc (.cells #[.string y0,.string y1,.int .i64 y2] t)).cell? ((⟨b,0,none⟩:Addr).add j)=some u:=by
 subst hb;intro j u hj;have h:=World.alloc_heap_new W (.cells #[.string y0,.string y1,.int .i64 y2] t);generalize W.alloc (.cells #[.string y0,.string y1,.int .i64 y2] t)=V at *
 generalize W.heap.size=b at *
 by_cases h0:j=0
 ·subst h0;simp [World.cell?,Addr.add,h] at hj ⊢;exact hj
 ·simp [World.cell?,Addr.add,h,h0];exact hj
set_option maxHeartbeats 2000000 in
theorem each_some (g:Nat) (f:Ln→Ln) (ok:Ln→Prop) (b off cap:Nat) (l:List Ln) (w:World) (hp:LMakes g f ok) (hok:∀ x∈l,ok x) (hb:b<w.heap.size) (hlen:l.length≤1000) (hc:Qbz w b off l) :
  Calls prog 111 #[.slice (some ⟨b,off,none⟩) l.length cap,.func (.func g) #[] #[]] w fun e w'=>∃ v,e=.returned v∧Qab w' w.heap.size v (l.map f)∧Below w.heap.size w w':=by
 have eg:=hp.eg;have Hp:Hid (LMakes g f ok):=hp;have Hok:Hid (∀ x∈l,ok x):=hok;clear hok;have Hc:Hid (Qbz w b off l):=hc;clear hp hc;have Hlen:(l.length:Int)≤1000:=by omega
 obtain ⟨i0,hi,hz0,hz1,hz2⟩:=info_parts QcF;go_enter func111,ntmps111
 go_wp2;go_loopw [5,10] (fun s i wr=>∃ k:Nat,k≤l.length∧i=.int .i64 k∧Hid (Qab wr w.heap.size s ((l.take k).map f))∧Below w.heap.size w wr) (fun _ i _=>l.length - (RowKit.intOf i).toNat)
 case atStart=>exact ⟨0,Nat.zero_le _,rfl,Qab.nil _ _,Below.refl _ _⟩
 case round=>
  obtain ⟨k,hk,rfl,R,BW⟩:=hrel;by_cases hlt:k<l.length
  ·have hn:=(Hc.out k hlt).below BW hb;have hst:(l.take (k+1)).map f=(l.take k).map f++[f (l.getD k ln0)]:=by rw [Qcg l k hlt,List.map_append];rfl
   have B2:=BW.alloc BW.size (.cells (l.getD k ln0).cells 44);have hcall:=Hp.out.call (l.getD k ln0) (wr.alloc (.cells (l.getD k ln0).cells 44)) (Hok.out _ (QeY l k hlt));have R1:Qab (wr.alloc (.cells (l.getD k ln0).cells 44)) w.heap.size _ ((l.take k).map f):=World.ownsRow.alloc R.out (.cells (l.getD k ln0).cells 44);have hfl:((l.take k).map f).length≤1000:=by
    rw [List.length_map,List.length_take];omega
   generalize l.getD k ln0=x at *
   generalize f x=y at *
   generalize (l.take k).map f=fs at *
   have Hst:Hid ((l.take (k+1)).map f=fs++[y]):=hst;have Hcall:Hid (Calls _ _ _ _ _):=hcall;have HR1:Hid (Qab _ _ _ _):=R1;clear hst hcall R1;obtain ⟨x0,x1,x2⟩:=x;obtain ⟨y0,y1,y2⟩:=y;obtain ⟨c0,c1,c2⟩:=hn;simp only [Ln.cells] at c0 c1 c2 Hcall HR1 B2;have j0:(0:Int)≤k:=by omega
   have j1:(k:Int)<l.length:=by omega
   go_wp2_with fail;refine Hcall.out.mono ?_;rintro e w2 ⟨rfl,hb2⟩;have HR2:Hid (Qab w2 w.heap.size _ fs):=Qab.below HR1.out hb2;have B3:=B2.trans (hb2.mono B2.size);have hs3:=B3.size;clear hb2 Hcall HR1 B2 c0 c1 c2;go_wp2_with (at_builtin;refine wpList_append_own _ rfl _ _ 36 rfl w.heap.size 44 i0 (.agg #[.string ByteArray.empty,.string ByteArray.empty,.int .i64 0]) 3 40 underlying36 hi hz0 hz1 hz2 rfl (by decide) _ _ _ rfl (World.ownsRow.alloc HR2.out _) ⟨w2.heap.size,0,none⟩ 1 1 [.string y0,.string y1,.int .i64 y2] rfl rfl (QbD _ _ _ _ _ _ rfl) ?c2 ?c3 ?c4 ?c5 ?_)
   case c2=>intro u hu;simp at hu;rcases hu with rfl | rfl | rfl <;> rfl
   case c3=>unfold maxLen;omega
   case c4=>omega
   case c5=>simp;omega
   intro v' w3 hown' hgrow _;have B4:Below w.heap.size w w3:=(B3.alloc hs3 (.cells #[.string y0,.string y1,.int .i64 y2] 44)).grown hgrow (by simp;omega) (HR2.out.own)
   have R3:Qab w3 w.heap.size v' ((l.take (k+1)).map f):=by
    rw [Hst.out];unfold Qab;rw [Qan,Qbh,List.length_append];exact hown'
   have HR3:Hid (Qab _ _ _ _):=R3;clear hown' hgrow R3 HR2;go_wp2;go_roundw
   case rel=>exact ⟨k+1,by omega,by go_num,HR3.out,B4⟩
   case measure=>simp [RowKit.intOf];omega
  ·have hk2:k=l.length:=by omega
   subst hk2;go_wp2;go_ret;refine ⟨_,rfl,?_,BW⟩
   have:=R.out
   rw [List.take_length] at this;exact this
theorem each_none (a:Option Addr) (cap:Nat) (f:Value) (w:World) :
  Calls prog 111 #[.slice a 0 cap,f] w fun e w'=>e=.returned (.slice none 0 0)∧Below w.heap.size w w':=by
 go_enter func111,ntmps111
 go_wp2;refine wp_loop_rounds 1 ?_;rw [rounds_succ];go_wp2;go_ret;exact ⟨rfl,Below.refl _ _⟩
theorem each_any (g:Nat) (f:Ln→Ln) (ok:Ln→Prop) (a:Option Addr) (cap:Nat) (l:List Ln) (w:World) (hp:LMakes g f ok) (hok:∀ x∈l,ok x) (hlen:l.length≤1000) (h:Qc5 w a l cap) :
  Calls prog 111 #[.slice a l.length cap,.func (.func g) #[] #[]] w fun e w'=>∃ v,e=.returned v∧Qab w' w.heap.size v (l.map f)∧Below w.heap.size w w':=by
 rcases h.lies with rfl | ⟨b,off,rfl,hlt,hc⟩
 ·refine (each_none a cap _ w).mono ?_;rintro e w' ⟨rfl,hb⟩;exact ⟨_,rfl,Qab.nil _ _,hb⟩
 ·exact each_some g f ok b off cap l w hp hok hlt hlen hc
def Qbt (x:Ln):Ln:=⟨ByteArray.empty,x.cur,x.amt⟩
def turnL (x:Ln):Ln:=⟨x.acc,x.cur,-x.amt⟩
theorem Qf7 (x:Ln) (w:World) :
  Calls prog 112 #[.agg x.cells] w fun e w'=>e=.returned (.agg (Qbt x).cells)∧Below w.heap.size w w':=by
 obtain ⟨a0,a1,a2⟩:=x;simp only [Ln.cells,Qbt];go_enter func112,ntmps112
 go_wp2;exact bodyPost_ret (v:=.agg #[.string ByteArray.empty,.string a1,.int .i64 a2]) (by simp [results,Tryz.results112,go_sem];rfl) rfl ⟨rfl,((Below.refl _ w).alloc (Nat.le_refl _) _).alloc (by simp) _⟩
theorem QeS:LMakes 112 Qbt (fun _=>True):=
 ⟨fun args W=>QaL func112 (by kernel_rfl) ⟨_,rfl⟩ args W,fun x W _=>Qf7 x W⟩
end
end Go.Proofs.YtibhgngboljhfaaGreatDoor
