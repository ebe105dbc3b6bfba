/-
  Part of a proof (see the last text).
-/
import Derived.Test.YtocjdhaedbplfaaGreatDoorZh14
import Derived.Test.YtocjdhaedbplfaaGreatDoorZh2
import Derived.Deep.RegionLaw
import Derived.Test.YtocjdhaedbplfaaGreatDoorProg
import Derived.WalkKit
import Derived.WalkSpells
import Derived.Lib.ItoaNum
import Derived.Test.YtocjdhaedbplfaaGreatDoorZh12
import Derived.Test.YtocjdhaedbplfaaGreatDoorZh6
import Derived.Laws.NewBlocks
import Derived.Test.YtocjdhaedbplfaaGreatDoorZh5
import Derived.Maps.OwnSet
import Derived.DeepKeys4
set_option linter.unusedVariables false
set_option linter.unusedSimpArgs false
set_option maxRecDepth 100000
namespace Go.Proofs.YtocjdhaedbplfaaGreatDoor
open Go.RowKit Go.Lib
def isNo (x:Ln):Bool:=decide (x.amt=0)
def toLn (p:Po) (has:Int) (i:Nat):Ln:=⟨p.tos.getD i ByteArray.empty,p.cur,shareI has p.ws i⟩
def allL (p:Po) (has:Int):List Ln:=(⟨p.acc,p.cur,-has⟩:Ln) :: (List.range p.tos.length).map (toLn p has)
def goL (p:Po) (has:Int):List Ln:=(allL p has).filter fun x=>!isNo x
theorem allL_len (p:Po) (has:Int):(allL p has).length=p.tos.length+1:=by simp [allL]
end Go.Proofs.YtocjdhaedbplfaaGreatDoor
namespace Go.Proofs.YtocjdhaedbplfaaGreatDoor
open Go.RowKit Go.Lib
def digS (i:Nat):ByteArray:=if i<10 then ⟨#[UInt8.ofNat (48+i)]⟩ else ⟨#[UInt8.ofNat (48+i / 10),UInt8.ofNat (48+i % 10)]⟩
end Go.Proofs.YtocjdhaedbplfaaGreatDoor
namespace Go.Proofs.YtocjdhaedbplfaaGreatDoor
open Go.RowKit Go.Lib
def refA (i:Nat):ByteArray:=(⟨#[97,108,108,111,116,45]⟩:ByteArray)++digS i
def poE (en pe:Int) (b:List Bl) (i:Nat) (p:Po):List Ep:=if getB b en p.acc p.cur=0 then [] else [⟨refA i,en,pe,goL p (getB b en p.acc p.cur)⟩]
def alTo (en pe:Int) (b:List Bl) (l:List Po) (k:Nat):List Ep:=(List.range k).flatMap fun i=>poE en pe b i (l.getD i po0)
theorem alTo_next (en pe:Int) (b:List Bl) (l:List Po) (k:Nat):alTo en pe b l (k+1)=alTo en pe b l k++poE en pe b k (l.getD k po0):=by
 unfold alTo;rw [List.range_succ,List.flatMap_append];simp
def isAmt (n:Int):Prop:=-1000000000000000≤n∧n≤1000000000000000
abbrev decAmt (n:Int):Decidable (isAmt n):=inferInstanceAs (Decidable (_∧_))
def hasBad (b:List Bl) (en:Int) (p:Po):Int:=@ite _ (isAmt (getB b en p.acc p.cur)) (decAmt _) 0 1
def alBad (c:List Ac) (l:List Po) (b:List Bl) (en pe:Int):Int:=
 if psBad c l≠0 then psBad c l else if chk b≠0 then chk b else if (upTo en 12 && upTo pe 120)=false then 1 else firstTo (fun k=>hasBad b en (l.getD k po0)) l.length
def AlEnd (c:List Ac) (l:List Po) (b:List Bl) (en pe:Int) (w:World) (e:Ending) (w':World):Prop:=
 Below w.heap.size w w'∧(alBad c l b en pe≠0→e=.returned (.tuple #[.slice none 0 0,chE (alBad c l b en pe)])) ∧
  (alBad c l b en pe=0→∃ v L,e=.returned (.tuple #[v,.nilIface])∧Made w' w.heap.size v L∧L.map Je.ep=alTo en pe b l l.length)
theorem poBad_ok {c:List Ac} {p:Po} (h:poBad c p=0):p.ws.length=p.tos.length∧0<p.tos.length∧p.tos.length≤19∧shBad p.ws=0∧(∀ k,k<p.tos.length→toBad c p.acc p.tos k=0)∧leafBad c p.acc=0∧isCur p.cur=true:=by
 unfold poBad at h
 split at h
 ·contradiction
 ·rename_i h1
  split at h
  ·omega
  ·rename_i h2
   split at h
   ·omega
   ·rename_i h3
    split at h
    ·omega
    ·rename_i h4
     split at h
     ·contradiction
     ·rename_i h5
      refine ⟨by omega,by omega,by omega,h,firstTo_zero (Decidable.of_not_not h5),Decidable.of_not_not h1,by simpa using h2⟩
theorem psBad_ok {c:List Ac} {l:List Po} (h:psBad c l=0):chBad c=0∧l.length≤20∧∀ k,k<l.length→poBad c (l.getD k po0)=0:=by
 unfold psBad at h
 split at h
 ·contradiction
 ·rename_i h1
  split at h
  ·omega
  ·exact ⟨Decidable.of_not_not h1,by omega,firstTo_zero h⟩
end Go.Proofs.YtocjdhaedbplfaaGreatDoor
namespace Go.Proofs.YtocjdhaedbplfaaGreatDoor
open Go.RowKit Go.Lib
theorem texts_ne {a b:ByteArray} (h:a≠b):(a.toList == b.toList)=false:=by
 rw [beq_eq_false_iff_ne]
 intro e
 rw [Lib.toList_data,Lib.toList_data] at e
 exact h (WideShapes.bytes_inj e)
structure Rt where
 frm:ByteArray
 dst:ByteArray
 per:Int
 num:Int
 den:Int
def Rt.cells (r:Rt):Array Value:=#[.string r.frm,.string r.dst,.int .i64 r.per,.int .i64 r.num,.int .i64 r.den]
def errV (n:Int):Value:=if n=0 then .nilIface else .iface 66 (.int .i64 n)
theorem errV_zero:errV 0=.nilIface:=rfl
def rateBad (r:Rt):Int:=
 if isCur r.frm=false∨isCur r.dst=false then 2
 else if r.frm=r.dst then 3
 else if upTo r.per 120=false∨upTo r.num 1000000000=false∨upTo r.den 1000000000=false then 1 else 0
structure RtAt (w:World) (b off:Nat) (r:Rt):Prop where
 c0:w.cell? ⟨b,off,none⟩=some (.string r.frm)
 c1:w.cell? ⟨b,off+1,none⟩=some (.string r.dst)
 c2:w.cell? ⟨b,off+2,none⟩=some (.int .i64 r.per)
 c3:w.cell? ⟨b,off+3,none⟩=some (.int .i64 r.num)
 c4:w.cell? ⟨b,off+4,none⟩=some (.int .i64 r.den)
theorem RtAt.below {w w':World} {b off n:Nat} {r:Rt} (h:RtAt w b off r) (hb:Below n w w') (hn:b<n):RtAt w' b off r:=
 ⟨(hb.cell (p:=⟨b,off,none⟩) hn).trans h.c0,(hb.cell (p:=⟨b,off+1,none⟩) hn).trans h.c1,(hb.cell (p:=⟨b,off+2,none⟩) hn).trans h.c2,(hb.cell (p:=⟨b,off+3,none⟩) hn).trans h.c3,(hb.cell (p:=⟨b,off+4,none⟩) hn).trans h.c4⟩
theorem RtAt.new (w:World) (r:Rt) (t:TypeId):RtAt (w.alloc (.cells r.cells t)) w.heap.size 0 r:=
 ⟨by simp [Rt.cells],by simp [Rt.cells],by simp [Rt.cells],by simp [Rt.cells],by simp [Rt.cells]⟩
set_option maxHeartbeats 2000000 in
theorem rtCheck_any (r:Rt) (w:World) :
  Calls Tryz.prog 116 #[.agg r.cells] w fun e w'=>e=.returned (errV (rateBad r))∧Below w.heap.size w w':=by
 have hn:=RtAt.new w r 116
 obtain ⟨f,t,p,n,d⟩:=r
 have b0:Below w.heap.size w (w.alloc (.cells #[.string f,.string t,.int .i64 p,.int .i64 n,.int .i64 d] 116)):=(Below.refl _ w).alloc (Nat.le_refl _) _
 have hsz:(w.alloc (.cells #[.string f,.string t,.int .i64 p,.int .i64 n,.int .i64 d] 116)).heap.size=w.heap.size+1:=by simp
 obtain ⟨res,hres⟩:∃ res,rateBad ⟨f,t,p,n,d⟩=res:=⟨_,rfl⟩
 simp only [Rt.cells] at hn ⊢
 rw [hres]
 have Hres:Hid (rateBad ⟨f,t,p,n,d⟩=res):=hres
 clear hres
 have hn0:=hn
 obtain ⟨c0,c1,c2,c3,c4⟩:=hn
 simp only [Nat.zero_add] at c0 c1 c2 c3 c4
 go_enter Tryz.func116,Tryz.ntmps116
 go_wp2_with fail
 refine (cur_any f _).mono ?_
 rintro e w1 ⟨rfl,hb1⟩
 rw [hsz] at hb1
 clear c0 c1 c2 c3 c4
 have hn1:=hn0.below hb1 (Nat.lt_succ_self _)
 have B1:=b0.trans (hb1.mono (Nat.le_succ _))
 clear b0 hn0
 cases h1:isCur f
 ·have e1:res=2:=by rw [← Hres.out];simp [rateBad,h1]
  subst e1
  go_wp2
  go_ret
  exact ⟨rfl,B1⟩
 obtain ⟨c0,c1,c2,c3,c4⟩:=hn1
 simp only [Nat.zero_add] at c0 c1 c2 c3 c4
 go_wp2_with fail
 refine (cur_any t _).mono ?_
 rintro e w2 ⟨rfl,hb2⟩
 have hn2:=(RtAt.mk c0 c1 c2 c3 c4:RtAt w1 w.heap.size 0 ⟨f,t,p,n,d⟩).below hb2 (by have:=hb1.size;omega)
 have B2:=B1.trans (hb2.mono (by have:=hb1.size;omega))
 clear c0 c1 c2 c3 c4 hb1 B1 hb2
 cases h2:isCur t
 ·have e1:res=2:=by rw [← Hres.out];simp [rateBad,h1,h2]
  subst e1
  go_wp2
  go_ret
  exact ⟨rfl,B2⟩
 obtain ⟨c0,c1,c2,c3,c4⟩:=hn2
 simp only [Nat.zero_add] at c0 c1 c2 c3 c4
 by_cases h3:f=t
 ·have e1:res=3:=by rw [← Hres.out];simp [rateBad,h2,h3]
  subst e1
  subst h3
  go_wp2
  go_ret
  exact ⟨rfl,B2⟩
 have h3':=texts_ne h3
 have eR:res=if upTo p 120=false∨upTo n 1000000000=false∨upTo d 1000000000=false then 1 else 0:=by
  rw [← Hres.out];simp [rateBad,h1,h2,h3]
 have ER:Hid (res=if upTo p 120=false∨upTo n 1000000000=false∨upTo d 1000000000=false then 1 else 0):=eR
 clear eR Hres
 go_wp2_with fail
 refine (upTo_any p 120 _).mono ?_
 rintro e w' ⟨rfl,hw⟩
 rw [hw];clear hw w'
 cases h4:upTo p 120
 ·have e1:res=1:=by rw [ER.out];simp [h4]
  subst e1
  go_wp2
  go_ret
  exact ⟨rfl,B2⟩
 go_wp2_with fail
 refine (upTo_any n 1000000000 _).mono ?_
 rintro e w' ⟨rfl,hw⟩
 rw [hw];clear hw w'
 cases h5:upTo n 1000000000
 ·have e1:res=1:=by rw [ER.out];simp [h5]
  subst e1
  go_wp2
  go_ret
  exact ⟨rfl,B2⟩
 go_wp2_with fail
 refine (upTo_any d 1000000000 _).mono ?_
 rintro e w' ⟨rfl,hw⟩
 rw [hw];clear hw w'
 cases h6:upTo d 1000000000
 ·have e1:res=1:=by rw [ER.out];simp [h6]
  subst e1
  go_wp2
  go_ret
  exact ⟨rfl,B2⟩
 have e1:res=0:=by rw [ER.out];simp [h4,h5,h6]
 subst e1
 go_wp2
 go_ret
 exact ⟨rfl,B2⟩
end Go.Proofs.YtocjdhaedbplfaaGreatDoor
namespace Go.Proofs.YtocjdhaedbplfaaGreatDoor
open Go.RowKit Go.Lib Go.Maps
theorem rate_laidOut:laidOutB Tryz.prog=true:=by kernel_rfl
theorem pair_row:(188:TypeId)<Tryz.prog.types.size:=of_decide_eq_true (by kernel_rfl)
theorem pair_wide:(match Tryz.prog.underlying 188 with | some (.array _ _) | some (.struct _)=>true | _=>false)=true:=by kernel_rfl
set_option maxRecDepth 100000 in
theorem pair_law:Keyed Tryz.prog 188:=Keyed.of_law (deep_law_laid rate_laidOut (m:=3) (by omega) pair_row (by kernel_rfl) pair_wide)
theorem pair_type:Tryz.prog.keyType 188=true:=by kernel_rfl
theorem pair_cells:Tryz.prog.cellsOf 188=3:=by kernel_rfl
theorem str_cells:Tryz.prog.cellsOf 9=1:=by kernel_rfl
theorem int_cells:Tryz.prog.cellsOf 3=1:=by kernel_rfl
theorem rate_types:Tryz.prog.types.size=349:=by kernel_rfl
def pairV (f t:ByteArray) (p:Int):Value:=.agg #[.string f,.string t,.int .i64 p]
def keyL (f t:ByteArray) (p:Int):Lit:=.string (keyBytes [.string f.data.toList,.string t.data.toList,.int .i64 p])
theorem keyOf_pair {f t:ByteArray} {p:Int} (hf:f.size≤maxLen) (ht:t.size≤maxLen) (hp:(Lit.int .i64 p).wf=true):keyOf Tryz.prog 188 (pairV f t p)=some (keyL f t p):=by
 have k1:∀ d (s:ByteArray),s.size≤maxLen→Tryz.prog.keyLits (d+1) 9 [.string s]=some [.string s.data.toList]:=fun d s hs=>by
  simp [Program.keyLits,Tryz.underlying9,hs]
 have k2:∀ d,Tryz.prog.keyLits (d+1) 3 [.int .i64 p]=some [.int .i64 p]:=fun d=>by
  simp [Program.keyLits,Tryz.underlying3,hp]
 have k3:∀ d,Tryz.prog.keyLits (d+1+1) 188 [.string f,.string t,.int .i64 p]=some [.string f.data.toList,.string t.data.toList,.int .i64 p]:=fun d=>by
  unfold Program.keyLits
  simp [Tryz.underlying188,pair_cells,str_cells,int_cells,k1 d f hf,k1 d t ht,k2 d]
 have k4:Tryz.prog.types.size+1=Tryz.prog.types.size - 1+1+1:=by rw [rate_types]
 unfold keyOf
 rw [Tryz.underlying188]
 simp only [pair_type,Value.formed,Tryz.underlying188,pairV,pair_cells,Value.cells]
 rw [k4,k3]
 rfl
theorem keyL_isKey (f t:ByteArray) (p:Int):WideAt.IsKeyLit (keyL f t p):=trivial
theorem keyL_inj {f t f' t':ByteArray} {p p':Int} (hf:f.size≤maxLen) (ht:t.size≤maxLen) (hp:(Lit.int .i64 p).wf=true) (hf':f'.size≤maxLen) (ht':t'.size≤maxLen) (hp':(Lit.int .i64 p').wf=true)
  (h:keyL f t p=keyL f' t' p'):f=f'∧t=t'∧p=p':=by
 have h1:=keyOf_pair hf ht hp
 have h2:=keyOf_pair hf' ht' hp'
 rw [← h] at h2
 have:=pair_law.inj h1 h2
 simpa [pairV] using this
def wD (n d:Int):DataW Unit:=.agg [.lit (.int .i64 n),.lit (.int .i64 d)]
def worthV (n d:Int):Value:=.agg #[.int .i64 n,.int .i64 d]
def worthR:Value→Option (DataW Unit×List MemPlace)
 | .agg xs=>match xs.toList with
  | [.int .i64 n,.int .i64 d]=>some (wD n d,[])
  | _=>none
 | _=>none
theorem worthR_mk (n d:Int):worthR (worthV n d)=some (wD n d,[]):=rfl
theorem worthR_inv {v:Value} {z:DataW Unit×List MemPlace} (h:worthR v=some z):∃ n d,v=worthV n d∧z=(wD n d,[]):=by
 unfold worthR at h
 split at h
 ·rename_i xs
  split at h
  ·rename_i n d hl
   obtain ⟨l⟩:=xs
   simp only at hl
   subst hl
   exact ⟨n,d,rfl,by simpa using h.symm⟩
  ·cases h
 ·cases h
theorem worth_zero (w:World):(zeroValue 190).run Tryz.prog w=.ok (worthV 0 0) w:=by kernel_rfl
abbrev TabAt (w:World) (b n:Nat) (D:DataW Unit):Prop:=w.ownsMap Tryz.prog 188 worthR b n D
theorem look_worth {P:Program} {ops:Array Oper} {rest:List Oper} {o:Oper} {a:Act} {Q:Exit→Act→World→Prop} (w:World) (hP:P=Tryz.prog) (hg:o.guard=none) (m x:Operand) (hop:o.op=Op.lookup 153 m x true) (b n:Nat) (D:DataW Unit)
  (hm:a.eval m=.map (some b)) (hown:TabAt w b n D) (key:Value) (kl:Lit) (hx:a.eval x=key) (hkey:keyOf Tryz.prog 188 key=some kl)
  (hK:∀ p q:Int,D.atKey kl (wD 0 0)=wD p q→wpList P ops Q rest (a.put o.dst (.tuple #[.agg #[.int .i64 p,.int .i64 q],.bool (Maps.has D kl)])) w) :
  wpList P ops Q (o :: rest) a w:=by
 subst hP
 refine wpList_lookup_own_ok w hg m x _ hop _ _ pair_law Tryz.underlying153 worthR (worth_zero w) (wD 0 0) [] (worthR_mk 0 0) b n D hm hown key kl hx hkey (fun v ps hv=>?_)
 obtain ⟨p,q,rfl,hz⟩:=worthR_inv hv
 exact hK p q (congrArg Prod.fst hz)
def tabPut (D:DataW Unit) (r:Rt):DataW Unit:=(D.put (keyL r.frm r.dst r.per) (wD r.num r.den)).put (keyL r.dst r.frm r.per) (wD r.den r.num)
def tabGo:DataW Unit→List Rt→Int×DataW Unit
 | D,[]=>(0,D)
 | D,r :: rs=>if rateBad r≠0 then (rateBad r,D) else if Maps.has D (keyL r.frm r.dst r.per)=true then (8,D) else tabGo (tabPut D r) rs
def tabS (rs:List Rt):Int×DataW Unit:=if 100<rs.length then (4,.map []) else tabGo (.map []) rs
theorem tabGo_nil (D:DataW Unit):tabGo D []=(0,D):=rfl
theorem tabGo_bad {D:DataW Unit} {r:Rt} {rs:List Rt} (h:rateBad r≠0):tabGo D (r :: rs)=(rateBad r,D):=by simp [tabGo,h]
theorem tabGo_clash {D:DataW Unit} {r:Rt} {rs:List Rt} (h:rateBad r=0) (h2:Maps.has D (keyL r.frm r.dst r.per)=true):tabGo D (r :: rs)=(8,D):=by simp [tabGo,h,h2]
theorem tabGo_step {D:DataW Unit} {r:Rt} {rs:List Rt} (h:rateBad r=0) (h2:Maps.has D (keyL r.frm r.dst r.per)=false):tabGo D (r :: rs)=tabGo (tabPut D r) rs:=by simp [tabGo,h,h2]
theorem tabS_full {rs:List Rt} (h:100<rs.length):tabS rs=(4,.map []):=by simp [tabS,h]
theorem tabS_go {rs:List Rt} (h:¬ 100<rs.length):tabS rs=tabGo (.map []) rs:=by simp [tabS,h]
end Go.Proofs.YtocjdhaedbplfaaGreatDoor
