/-
  Part of a proof (see the last text).
-/
import Derived.Test.YtjifbbdkpanagaaGreatDoorZd14
import Derived.DeepKeys4
set_option linter.unusedVariables false
set_option linter.unusedSimpArgs false
set_option maxRecDepth 100000
namespace Go.Proofs.YtjifbbdkpanagaaGreatDoor
section
open Go.RowKit Go.Lib Go.Proofs.Tryz
def isNo (x:Ln):Bool:=decide (x.amt=0)
def toLn (p:Po) (has:Int) (i:Nat):Ln:=⟨p.tos.getD i ByteArray.empty,p.cur,Qds has p.ws i⟩
def allL (p:Po) (has:Int):List Ln:=(⟨p.acc,p.cur,-has⟩:Ln) :: (List.range p.tos.length).map (toLn p has)
def goL (p:Po) (has:Int):List Ln:=(allL p has).filter fun x=>!isNo x
theorem allL_len (p:Po) (has:Int):(allL p has).length=p.tos.length+1:=by simp [allL]
end
section
open Go.RowKit Go.Lib Go.Proofs.Tryz
def digS (i:Nat):ByteArray:=if i<10 then ⟨#[UInt8.ofNat (48+i)]⟩ else ⟨#[UInt8.ofNat (48+i / 10),UInt8.ofNat (48+i % 10)]⟩
end
section
open Go.RowKit Go.Lib Go.Proofs.Tryz
def refA (i:Nat):ByteArray:=(⟨#[97,108,108,111,116,45]⟩:ByteArray)++digS i
def poE (en pe:Int) (b:List Bl) (i:Nat) (p:Po):List Ep:=if QdS b en p.acc p.cur=0 then [] else [⟨refA i,en,pe,goL p (QdS b en p.acc p.cur)⟩]
def alTo (en pe:Int) (b:List Bl) (l:List Po) (k:Nat):List Ep:=(List.range k).flatMap fun i=>poE en pe b i (l.getD i po0)
theorem alTo_next (en pe:Int) (b:List Bl) (l:List Po) (k:Nat):alTo en pe b l (k+1)=alTo en pe b l k++poE en pe b k (l.getD k po0):=by
 unfold alTo;rw [List.range_succ,List.flatMap_append];simp
def isAmt (n:Int):Prop:=-1000000000000000≤n∧n≤1000000000000000
abbrev decAmt (n:Int):Decidable (isAmt n):=inferInstanceAs (Decidable (_∧_))
def hasBad (b:List Bl) (en:Int) (p:Po):Int:=@ite _ (isAmt (QdS b en p.acc p.cur)) (decAmt _) 0 1
def QbZ (c:List Ac) (l:List Po) (b:List Bl) (en pe:Int):Int:=
 if Qea c l≠0 then Qea c l else if chk b≠0 then chk b else if (Qav en 12 && Qav pe 120)=false then 1 else Qad (fun k=>hasBad b en (l.getD k po0)) l.length
def AlEnd (c:List Ac) (l:List Po) (b:List Bl) (en pe:Int) (w:World) (e:Ending) (w':World):Prop:=
 Below w.heap.size w w'∧(QbZ c l b en pe≠0→e=.returned (.tuple #[.slice none 0 0,chE (QbZ c l b en pe)])) ∧
  (QbZ c l b en pe=0→∃ v L,e=.returned (.tuple #[v,.nilIface])∧Qb3 w' w.heap.size v L∧L.map Je.ep=alTo en pe b l l.length)
theorem Qd4 {c:List Ac} {p:Po} (h:QhO c p=0):p.ws.length=p.tos.length∧0<p.tos.length∧p.tos.length≤19∧shBad p.ws=0∧(∀ k,k<p.tos.length→toBad c p.acc p.tos k=0)∧Qaa c p.acc=0∧Qat p.cur=true:=by
 unfold QhO at h;split at h
 ·contradiction
 ·rename_i h1;split at h
  ·omega
  ·rename_i h2;split at h
   ·omega
   ·rename_i h3;split at h
    ·omega
    ·rename_i h4;split at h
     ·contradiction
     ·rename_i h5;refine ⟨by omega,by omega,by omega,h,QaH (Decidable.of_not_not h5),Decidable.of_not_not h1,by simpa using h2⟩
theorem Qe4 {c:List Ac} {l:List Po} (h:Qea c l=0):QaC c=0∧l.length≤20∧∀ k,k<l.length→QhO c (l.getD k po0)=0:=by
 unfold Qea at h;split at h
 ·contradiction
 ·rename_i h1;split at h
  ·omega
  ·exact ⟨Decidable.of_not_not h1,by omega,QaH h⟩
end
section
open Go.RowKit Go.Lib Go.Proofs.Tryz
theorem texts_ne {a b:ByteArray} (h:a≠b):(a.toList == b.toList)=false:=by
 rw [beq_eq_false_iff_ne];intro e;rw [Lib.toList_data,Lib.toList_data] at e;exact h (WideShapes.bytes_inj e)
structure Rt where
 frm:ByteArray
 dst:ByteArray
 per:Int
 num:Int
 den:Int
def Rt.cells (r:Rt):Array Value:=#[.string r.frm,.string r.dst,.int .i64 r.per,.int .i64 r.num,.int .i64 r.den]
def Qec (n:Int):Value:=if n=0 then .nilIface else .iface 66 (.int .i64 n)
theorem Qbk:Qec 0=.nilIface:=rfl
def QaO (r:Rt):Int:=
 if Qat r.frm=false∨Qat r.dst=false then 2
 else if r.frm=r.dst then 3
 else if Qav r.per 120=false∨Qav r.num 1000000000=false∨Qav r.den 1000000000=false then 1 else 0
structure RtAt (w:World) (b off:Nat) (r:Rt):Prop where
 c0:w.cell? ⟨b,off,none⟩=some (.string r.frm)
 c1:w.cell? ⟨b,off+1,none⟩=some (.string r.dst)
 c2:w.cell? ⟨b,off+2,none⟩=some (.int .i64 r.per)
 c3:w.cell? ⟨b,off+3,none⟩=some (.int .i64 r.num)
 c4:w.cell? ⟨b,off+4,none⟩=some (.int .i64 r.den)
theorem RtAt.below {w w':World} {b off n:Nat} {r:Rt} (h:RtAt w b off r) (hb:Below n w w') (hn:b<n):RtAt w' b off r:=
 ⟨(hb.cell (p:=⟨b,off,none⟩) hn).trans h.c0,(hb.cell (p:=⟨b,off+1,none⟩) hn).trans h.c1,(hb.cell (p:=⟨b,off+2,none⟩) hn).trans h.c2,(hb.cell (p:=⟨b,off+3,none⟩) hn).trans h.c3,(hb.cell (p:=⟨b,off+4,none⟩) hn).trans h.c4⟩
theorem RtAt.new (w:World) (r:Rt) (t:TypeId):RtAt (w.alloc (.cells r.cells t)) w.heap.size 0 r:=
 ⟨by simp [Rt.cells],by simp [Rt.cells],by simp [Rt.cells],by simp [Rt.cells],by simp [Rt.cells]⟩
set_option maxHeartbeats 2000000 in
theorem rtCheck_any (r:Rt) (w:World) :
  Calls prog 116 #[.agg r.cells] w fun e w'=>e=.returned (Qec (QaO r))∧Below w.heap.size w w':=by
 have hn:=RtAt.new w r 116;obtain ⟨f,t,p,n,d⟩:=r;have b0:Below w.heap.size w (w.alloc (.cells #[.string f,.string t,.int .i64 p,.int .i64 n,.int .i64 d] 116)):=(Below.refl _ w).alloc (Nat.le_refl _) _;have hsz:(w.alloc (.cells #[.string f,.string t,.int .i64 p,.int .i64 n,.int .i64 d] 116)).heap.size=w.heap.size+1:=by simp
 obtain ⟨res,hres⟩:∃ res,QaO ⟨f,t,p,n,d⟩=res:=⟨_,rfl⟩;simp only [Rt.cells] at hn ⊢;rw [hres];have Hres:Hid (QaO ⟨f,t,p,n,d⟩=res):=hres;clear hres;have hn0:=hn;obtain ⟨c0,c1,c2,c3,c4⟩:=hn;simp only [Nat.zero_add] at c0 c1 c2 c3 c4;go_enter func116,ntmps116
 go_wp2_with fail;refine (Qdg f _).mono ?_;rintro e w1 ⟨rfl,hb1⟩;rw [hsz] at hb1;clear c0 c1 c2 c3 c4;have hn1:=hn0.below hb1 (Nat.lt_succ_self _);have B1:=b0.trans (hb1.mono (Nat.le_succ _));clear b0 hn0;cases h1:Qat f
 ·have e1:res=2:=by rw [← Hres.out];simp [QaO,h1]
  subst e1;go_wp2;go_ret;exact ⟨rfl,B1⟩
 obtain ⟨c0,c1,c2,c3,c4⟩:=hn1;simp only [Nat.zero_add] at c0 c1 c2 c3 c4;go_wp2_with fail;refine (Qdg t _).mono ?_;rintro e w2 ⟨rfl,hb2⟩;have hn2:=(RtAt.mk c0 c1 c2 c3 c4:RtAt w1 w.heap.size 0 ⟨f,t,p,n,d⟩).below hb2 (by have:=hb1.size;omega)
 have B2:=B1.trans (hb2.mono (by have:=hb1.size;omega))
 clear c0 c1 c2 c3 c4 hb1 B1 hb2;cases h2:Qat t
 ·have e1:res=2:=by rw [← Hres.out];simp [QaO,h1,h2]
  subst e1;go_wp2;go_ret;exact ⟨rfl,B2⟩
 obtain ⟨c0,c1,c2,c3,c4⟩:=hn2;simp only [Nat.zero_add] at c0 c1 c2 c3 c4;by_cases h3:f=t
 ·have e1:res=3:=by rw [← Hres.out];simp [QaO,h2,h3]
  subst e1;subst h3;go_wp2;go_ret;exact ⟨rfl,B2⟩
 have h3':=texts_ne h3;have eR:res=if Qav p 120=false∨Qav n 1000000000=false∨Qav d 1000000000=false then 1 else 0:=by
  rw [← Hres.out];simp [QaO,h1,h2,h3]
 have ER:Hid (res=if Qav p 120=false∨Qav n 1000000000=false∨Qav d 1000000000=false then 1 else 0):=eR
 clear eR Hres;go_wp2_with fail;refine (QgJ p 120 _).mono ?_;rintro e w' ⟨rfl,hw⟩;rw [hw];clear hw w';cases h4:Qav p 120
 ·have e1:res=1:=by rw [ER.out];simp [h4]
  subst e1;go_wp2;go_ret;exact ⟨rfl,B2⟩
 go_wp2_with fail;refine (QgJ n 1000000000 _).mono ?_;rintro e w' ⟨rfl,hw⟩;rw [hw];clear hw w';cases h5:Qav n 1000000000
 ·have e1:res=1:=by rw [ER.out];simp [h5]
  subst e1;go_wp2;go_ret;exact ⟨rfl,B2⟩
 go_wp2_with fail;refine (QgJ d 1000000000 _).mono ?_;rintro e w' ⟨rfl,hw⟩;rw [hw];clear hw w';cases h6:Qav d 1000000000
 ·have e1:res=1:=by rw [ER.out];simp [h6]
  subst e1;go_wp2;go_ret;exact ⟨rfl,B2⟩
 have e1:res=0:=by rw [ER.out];simp [h4,h5,h6]
 subst e1;go_wp2;go_ret;exact ⟨rfl,B2⟩
end
section
open Go.RowKit Go.Lib Go.Maps Go.Proofs.Tryz
theorem rate_laidOut:laidOutB prog=true:=by kernel_rfl
theorem pair_row:(188:TypeId)<prog.types.size:=of_decide_eq_true (by kernel_rfl)
theorem pair_wide:(match prog.underlying 188 with | some (.array _ _) | some (.struct _)=>true | _=>false)=true:=by kernel_rfl
set_option maxRecDepth 100000 in
theorem Qgy:Keyed prog 188:=Keyed.of_law (deep_law_laid rate_laidOut (m:=3) (by omega) pair_row (by kernel_rfl) pair_wide)
theorem pair_type:prog.keyType 188=true:=by kernel_rfl
theorem QiU:prog.cellsOf 188=3:=by kernel_rfl
theorem str_cells:prog.cellsOf 9=1:=by kernel_rfl
theorem int_cells:prog.cellsOf 3=1:=by kernel_rfl
theorem rate_types:prog.types.size=349:=by kernel_rfl
def Qgk (f t:ByteArray) (p:Int):Value:=.agg #[.string f,.string t,.int .i64 p]
def QaV (f t:ByteArray) (p:Int):Lit:=.string (keyBytes [.string f.data.toList,.string t.data.toList,.int .i64 p])
theorem Qbv {f t:ByteArray} {p:Int} (hf:f.size≤maxLen) (ht:t.size≤maxLen) (hp:(Lit.int .i64 p).wf=true):keyOf prog 188 (Qgk f t p)=some (QaV f t p):=by
 have k1:∀ d (s:ByteArray),s.size≤maxLen→prog.keyLits (d+1) 9 [.string s]=some [.string s.data.toList]:=fun d s hs=>by
  simp [Program.keyLits,underlying9,hs]
 have k2:∀ d,prog.keyLits (d+1) 3 [.int .i64 p]=some [.int .i64 p]:=fun d=>by
  simp [Program.keyLits,underlying3,hp]
 have k3:∀ d,prog.keyLits (d+1+1) 188 [.string f,.string t,.int .i64 p]=some [.string f.data.toList,.string t.data.toList,.int .i64 p]:=fun d=>by
  unfold Program.keyLits;simp [underlying188,QiU,str_cells,int_cells,k1 d f hf,k1 d t ht,k2 d]
 have k4:prog.types.size+1=prog.types.size - 1+1+1:=by rw [rate_types]
 unfold keyOf;rw [underlying188];simp only [pair_type,Value.formed,underlying188,Qgk,QiU,Value.cells];rw [k4,k3];rfl
theorem QaL (f t:ByteArray) (p:Int):WideAt.IsKeyLit (QaV f t p):=trivial
theorem keyL_inj {f t f' t':ByteArray} {p p':Int} (hf:f.size≤maxLen) (ht:t.size≤maxLen) (hp:(Lit.int .i64 p).wf=true) (hf':f'.size≤maxLen) (ht':t'.size≤maxLen) (hp':(Lit.int .i64 p').wf=true)
  (h:QaV f t p=QaV f' t' p'):f=f'∧t=t'∧p=p':=by
 have h1:=Qbv hf ht hp;have h2:=Qbv hf' ht' hp';rw [← h] at h2
 have:=Qgy.inj h1 h2
 simpa [Qgk] using this
def wD (n d:Int):DataW Unit:=.agg [.lit (.int .i64 n),.lit (.int .i64 d)]
def worthV (n d:Int):Value:=.agg #[.int .i64 n,.int .i64 d]
def worthR:Value→Option (DataW Unit×List MemPlace)
 | .agg xs=>match xs.toList with
  | [.int .i64 n,.int .i64 d]=>some (wD n d,[])
  | _=>none
 | _=>none
theorem QhJ (n d:Int):worthR (worthV n d)=some (wD n d,[]):=rfl
theorem worthR_inv {v:Value} {z:DataW Unit×List MemPlace} (h:worthR v=some z):∃ n d,v=worthV n d∧z=(wD n d,[]):=by
 unfold worthR at h;split at h
 ·rename_i xs;split at h
  ·rename_i n d hl;obtain ⟨l⟩:=xs;simp only at hl;subst hl;exact ⟨n,d,rfl,by simpa using h.symm⟩
  ·cases h
 ·cases h
theorem worth_zero (w:World):(zeroValue 190).run prog w=.ok (worthV 0 0) w:=by kernel_rfl
abbrev Qew (w:World) (b n:Nat) (D:DataW Unit):Prop:=w.ownsMap prog 188 worthR b n D
theorem QaK {P:Program} {ops:Array Oper} {rest:List Oper} {o:Oper} {a:Act} {Q:Exit→Act→World→Prop} (w:World) (hP:P=prog) (hg:o.guard=none) (m x:Operand) (hop:o.op=Op.lookup 153 m x true) (b n:Nat) (D:DataW Unit)
  (hm:a.eval m=.map (some b)) (hown:Qew w b n D) (key:Value) (kl:Lit) (hx:a.eval x=key) (hkey:keyOf prog 188 key=some kl)
  (hK:∀ p q:Int,D.atKey kl (wD 0 0)=wD p q→wpList P ops Q rest (a.put o.dst (.tuple #[.agg #[.int .i64 p,.int .i64 q],.bool (Maps.has D kl)])) w) :
  wpList P ops Q (o :: rest) a w:=by
 subst hP;refine wpList_lookup_own_ok w hg m x _ hop _ _ Qgy underlying153 worthR (worth_zero w) (wD 0 0) [] (QhJ 0 0) b n D hm hown key kl hx hkey (fun v ps hv=>?_)
 obtain ⟨p,q,rfl,hz⟩:=worthR_inv hv;exact hK p q (congrArg Prod.fst hz)
def QcE (D:DataW Unit) (r:Rt):DataW Unit:=(D.put (QaV r.frm r.dst r.per) (wD r.num r.den)).put (QaV r.dst r.frm r.per) (wD r.den r.num)
def QeR:DataW Unit→List Rt→Int×DataW Unit
 | D,[]=>(0,D)
 | D,r :: rs=>if QaO r≠0 then (QaO r,D) else if Maps.has D (QaV r.frm r.dst r.per)=true then (8,D) else QeR (QcE D r) rs
def QeW (rs:List Rt):Int×DataW Unit:=if 100<rs.length then (4,.map []) else QeR (.map []) rs
theorem tabGo_nil (D:DataW Unit):QeR D []=(0,D):=rfl
theorem tabGo_bad {D:DataW Unit} {r:Rt} {rs:List Rt} (h:QaO r≠0):QeR D (r :: rs)=(QaO r,D):=by simp [QeR,h]
theorem Qet {D:DataW Unit} {r:Rt} {rs:List Rt} (h:QaO r=0) (h2:Maps.has D (QaV r.frm r.dst r.per)=true):QeR D (r :: rs)=(8,D):=by simp [QeR,h,h2]
theorem QfO {D:DataW Unit} {r:Rt} {rs:List Rt} (h:QaO r=0) (h2:Maps.has D (QaV r.frm r.dst r.per)=false):QeR D (r :: rs)=QeR (QcE D r) rs:=by simp [QeR,h,h2]
theorem tabS_full {rs:List Rt} (h:100<rs.length):QeW rs=(4,.map []):=by simp [QeW,h]
theorem tabS_go {rs:List Rt} (h:¬ 100<rs.length):QeW rs=QeR (.map []) rs:=by simp [QeW,h]
end
end Go.Proofs.YtjifbbdkpanagaaGreatDoor
