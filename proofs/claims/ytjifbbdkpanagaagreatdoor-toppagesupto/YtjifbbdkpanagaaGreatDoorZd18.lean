/-
  Part of a proof (see the last text).
-/
import Derived.Test.YtjifbbdkpanagaaGreatDoorZd17
set_option linter.unusedVariables false
set_option linter.unusedSimpArgs false
set_option maxRecDepth 100000
namespace Go.Proofs.YtjifbbdkpanagaaGreatDoor
section
open Go.RowKit Go.Lib Go.Proofs.Tryz
theorem Qg0:∀ a:List UInt8,Op.bytesLess a a=false
 | []=>rfl
 | x :: a=>by
  have:=Qg0 a
  simp [Op.bytesLess,this]
theorem QiD:∀ a b:List UInt8,Op.bytesLess a b=false→a≠b→Op.bytesLess b a=true
 | [],[],_,h=>absurd rfl h
 | [],_ :: _,h,_=>by simp [Op.bytesLess] at h
 | _ :: _,[],_,_=>by simp [Op.bytesLess]
 | x :: a,y :: b,h,hne=>by
  simp only [Op.bytesLess,Bool.or_eq_false_iff,decide_eq_false_iff_not,Bool.and_eq_false_iff,beq_eq_false_iff_ne] at h;obtain ⟨h1,h2⟩:=h;by_cases e:x=y
  ·subst e
   have:=QiD a b (by simpa using h2) (fun e=>hne (by rw [e]))
   simp [Op.bytesLess,this]
  ·have:y<x:=by
    rw [UInt8.lt_iff_toNat_lt] at h1 ⊢
    have:x.toNat≠y.toNat:=fun h=>e (UInt8.toNat_inj.1 h)
    omega
   simp [Op.bytesLess,this]
theorem QiA:∀ a b c:List UInt8,Op.bytesLess a b=true→Op.bytesLess b c=true→Op.bytesLess a c=true
 | _,[],_,h,_=>by cases ‹List UInt8› <;> simp [Op.bytesLess] at h
 | _,_ :: _,[],_,h=>by simp [Op.bytesLess] at h
 | [],_ :: _,_ :: _,_,_=>by simp [Op.bytesLess]
 | x :: a,y :: b,z :: c,h1,h2=>by
  simp only [Op.bytesLess,Bool.or_eq_true,decide_eq_true_eq,Bool.and_eq_true,beq_iff_eq] at h1 h2 ⊢;simp only [UInt8.lt_iff_toNat_lt] at h1 h2 ⊢;rcases h1 with h1 | ⟨rfl,h1⟩
  ·rcases h2 with h2 | ⟨rfl,h2⟩
   ·exact .inl (by omega)
   ·exact .inl h1
  ·rcases h2 with h2 | ⟨rfl,h2⟩
   ·exact .inl h2
   ·exact .inr ⟨rfl,QiA a b c h1 h2⟩
theorem Qf6 {pre:List Ac} {x:Ac} (h:Qbm pre x=0):QhT x.code=true∧isNameB x.name=true∧1≤x.kind∧x.kind≤5∧(pre.length≠0→leB x.code (pre.getD (pre.length - 1) ac0).code=false)∧QcM pre x=0:=by
 unfold Qbm at h;split at h
 ·omega
 ·rename_i h1;simp only [not_or,Bool.not_eq_false] at h1;split at h
  ·omega
  ·rename_i h2;split at h
   ·omega
   ·rename_i h3;refine ⟨h1.1,h1.2,by omega,by omega,fun h0=>?_,h⟩
    cases hl:leB x.code (pre.getD (pre.length - 1) ac0).code
    ·rfl
    ·exact absurd ⟨h0,hl⟩ h3
theorem chGo_zero:∀ (r pre:List Ac),chGo pre r=0→∀ k,k<r.length→Qbm (pre++r.take k) (r.getD k ac0)=0
 | [],_,_,k,hk=>by simp at hk
 | x :: r,pre,h,k,hk=>by
  rw [chGo] at h;split at h
  ·rename_i hb;exact absurd h hb
  ·rename_i hb
   cases k with
   | zero=>simpa using hb
   | succ k=>
    have:=chGo_zero r (pre++[x]) h k (by simpa using hk)
    simpa using this
theorem QiV {l:List Ac} (h:QaC l=0) (k:Nat) (hk:k<l.length):Qbm (l.take k) (l.getD k ac0)=0:=by
 have hl:=Qcy h;unfold QaC at h;rw [if_neg (by omega)] at h
 have:=chGo_zero l [] h k hk
 simpa using this
theorem take_getD (l:List Ac) (k j:Nat) (h:j<k):(l.take k).getD j ac0=l.getD j ac0:=by
 rw [List.getD_eq_getElem?_getD,List.getD_eq_getElem?_getD,List.getElem?_take,if_pos h]
theorem code_step {l:List Ac} (h:QaC l=0) (k:Nat) (hk:k+1<l.length):Op.bytesLess (l.getD k ac0).code.toList (l.getD (k+1) ac0).code.toList=true:=by
 obtain ⟨_,_,_,_,h5,_⟩:=Qf6 (QiV h (k+1) hk);have hl:(l.take (k+1)).length=k+1:=by simp;omega
 have:=h5 (by omega)
 rw [hl,show k+1 - 1=k by omega,take_getD l (k+1) k (by omega)] at this
 simp only [leB,Bool.or_eq_false_iff,beq_eq_false_iff_ne] at this;exact QiD _ _ this.1 this.2
theorem Qg4 {l:List Ac} (h:QaC l=0) (i:Nat):∀ j,i<j→j<l.length→Op.bytesLess (l.getD i ac0).code.toList (l.getD j ac0).code.toList=true
 | 0,hi,_=>absurd hi (Nat.not_lt_zero _)
 | j+1,hi,hj=>by
  have hs:=code_step h j hj;by_cases e:i=j
  ·subst e;exact hs
  ·exact QiA _ _ _ (Qg4 h i j (by omega) (by omega)) hs
theorem code_inj {l:List Ac} (h:QaC l=0) {i j:Nat} (hi:i<l.length) (hj:j<l.length) (e:(l.getD i ac0).code=(l.getD j ac0).code):i=j:=by
 rcases Nat.lt_trichotomy i j with hlt | he | hlt
 ·have:=Qg4 h i j hlt hj
  rw [e,Qg0] at this;cases this
 ·exact he
 ·have:=Qg4 h j i hlt hi
  rw [e,Qg0] at this;cases this
end
section
open Go.RowKit Go.Lib Go.Maps Math Go.Proofs.Tryz
def refV (code:ByteArray):ByteArray:=(⟨#[118,97,108,117,101,45]⟩:ByteArray)++code
def Qe8 (f:Bl→Int) (base:ByteArray) (b:List Bl) (en:Int) (x:Ac):Int:=lkV (QbN f en x.code base b) (ltot (en,x.code,base) b)
def acErr (f:Bl→Int) (base:ByteArray) (b:List Bl) (en:Int) (x:Ac):Int:=lkE (QbN f en x.code base b) (ltot (en,x.code,base) b)
def QdJ (f:Bl→Int) (base gain:ByteArray) (b:List Bl) (en:Int) (x:Ac):Int:=if x.mon=false then 0 else if acErr f base b en x≠0 then acErr f base b en x else brBad (Qe8 f base b en x) x.code gain
def acE (f:Bl→Int) (base gain:ByteArray) (b:List Bl) (en pe:Int) (x:Ac):List Ep:=if x.mon=true∧Qe8 f base b en x≠0 then [⟨refV x.code,en,pe,brL (Qe8 f base b en x) base x.code gain⟩] else []
def QhL (f:Bl→Int) (base gain:ByteArray) (b:List Bl) (en pe:Int) (c:List Ac) (k:Nat):List Ep:=(List.range k).flatMap fun i=>acE f base gain b en pe (c.getD i ac0)
theorem rvTo_next (f:Bl→Int) (base gain:ByteArray) (b:List Bl) (en pe:Int) (c:List Ac) (k:Nat):QhL f base gain b en pe c (k+1)=QhL f base gain b en pe c k++acE f base gain b en pe (c.getD k ac0):=by
 unfold QhL;rw [List.range_succ,List.flatMap_append];simp
def Qch (S:Int×DataW Unit) (c:List Ac) (base gain:ByteArray) (b:List Bl) (en pe:Int):Int:=
 if QaC c≠0 then QaC c else if Qbs S base b en pe≠0 then Qbs S base b en pe else if Qaa c gain≠0 then Qaa c gain else if b.any (Qgq c en)=true then 6 else Qad (fun i=>QdJ (wV S base en pe) base gain b en (c.getD i ac0)) c.length
def Qhx (S:Int×DataW Unit) (c:List Ac) (base gain:ByteArray) (b:List Bl) (en pe:Int) (w:World) (e:Ending) (w':World):Prop:=
 Below w.heap.size w w'∧(Qch S c base gain b en pe≠0→e=.returned (.tuple #[.slice none 0 0,Qec (Qch S c base gain b en pe)])) ∧
  (Qch S c base gain b en pe=0→∃ v L,e=.returned (.tuple #[v,.nilIface])∧Qb3 w' w.heap.size v L∧L.map Je.ep=QhL (wV S base en pe) base gain b en pe c c.length∧L.length≤60)
theorem Qb3.mono {W:World} {n n':Nat} {v:Value} {L:List Je} (h:Qb3 W n v L) (hn:n'≤n):Qb3 W n' v L:=
 ⟨by
  have r:=h.row;rcases r.2 with ⟨hv,h0⟩ | ⟨g1,c1,cur,hv,hb1,r2⟩
  ·exact ⟨r.1,.inl ⟨hv,h0⟩⟩
  ·exact ⟨r.1,.inr ⟨g1,c1,cur,hv,by omega,r2⟩⟩,fun x hx=>(h.lns x hx).mono hn⟩
theorem code_six {c:List Ac} (h:QaC c=0) {k:Nat} (hk:k<c.length):(c.getD k ac0).code.size≤6:=by
 have h1:=(Qf6 (QiV h k hk)).1;unfold QhT Qem at h1;simp only [Bool.and_eq_true,decide_eq_true_eq] at h1;exact h1.2.1
theorem rv_build_en (x0:ByteArray) (x1 x2:Int) (a:Option Addr) (n c:Nat) (w:World):(Instr.build 59 #[(0,.string x0),(1,.int .i64 x1),(2,.int .i64 x2),(3,.slice a n c)]).run prog w=.ok (.agg #[.string x0,.int .i64 x1,.int .i64 x2,.slice a n c]) w:=by
 go_simp
set_option maxHeartbeats 8000000 in
theorem rvEntries_any (a a2 a3:Option Addr) (cap cap2 len cap3:Nat) (S:Int×DataW Unit) (c:List Ac) (base gain:ByteArray) (b:List Bl) (en pe:Int) (w:World) (h:Qcm w a c cap) (ht:∀ W,Below w.heap.size w W→Calls prog 76 #[.slice a3 len cap3] W (Qc0 W S)) (hg:QbU S.2) (hb:Qcn w a2 b cap2) (hbl:b.length≤9223372036854775807) :
  Calls prog 93 #[.slice a c.length cap,.slice a3 len cap3,.string base,.string gain,.slice a2 b.length cap2,.int .i64 en,.int .i64 pe] w (Qhx S c base gain b en pe w):=by
 have HErr:Hid (∀ z W,z≠0→Qch S c base gain b en pe=z→Below w.heap.size w W→Qhx S c base gain b en pe w (.returned (.tuple #[.slice none 0 0,.iface 66 (.int .i64 z)])) W):=fun z W h0 h1 h2=>by
  refine ⟨h2,fun _=>by rw [h1,QaU h0],fun e=>absurd (h1.symm.trans e) h0⟩
 have HOk:Hid (∀ v L W,Qch S c base gain b en pe=0→Below w.heap.size w W→Qb3 W w.heap.size v L→L.map Je.ep=QhL (wV S base en pe) base gain b en pe c c.length→L.length≤60→Qhx S c base gain b en pe w (.returned (.tuple #[v,.nilIface])) W):=fun v L W h1 h2 h3 h4 h5=>
  ⟨h2,fun h0=>absurd h1 h0,fun _=>⟨v,L,rfl,h3,h4,h5⟩⟩
 have eg:∀ args W,(callFunc 73 args).run prog W=.ok (.enter 73 args) W:=fun args W=>Qf9 func73 (by kernel_rfl) ⟨_,rfl⟩ args W
 have HFit:Hid (∀ x,QeJ (wV S base en pe x)):=fun x=>wV_fit hg base en pe x
 obtain ⟨V,hV⟩:∃ V,(w.alloc (.cells #[.slice a c.length cap] 49)).alloc (.cells #[.int .i64 en] 3)=V:=⟨_,rfl⟩;have b1:Below w.heap.size w (w.alloc (.cells #[.slice a c.length cap] 49)):=(Below.refl _ w).alloc (Nat.le_refl _) _;have bV:Below w.heap.size w V:=by rw [← hV];exact b1.alloc b1.size _
 have hs:V.heap.size=w.heap.size+2:=by rw [← hV];simp
 have k1:V.cell? ⟨w.heap.size,0,none⟩=some (.slice a c.length cap):=by
  rw [← hV];refine cell_grown (W:=w.alloc (.cells #[.slice a c.length cap] 49)) (by simp) (World.grownBy_alloc _ _ none) (by simp)
 have k2:V.cell? ⟨w.heap.size+1,0,none⟩=some (.int .i64 en):=by rw [← hV];simp
 have HBx:Hid (∀ W,Below V.heap.size V W→W.cell? ⟨w.heap.size,0,none⟩=some (.slice a c.length cap)∧W.cell? ⟨w.heap.size+1,0,none⟩=some (.int .i64 en)∧Below w.heap.size w W∧w.heap.size+2≤W.heap.size):=fun W hW=>
  ⟨(hW.cell (p:=⟨w.heap.size,0,none⟩) (by show w.heap.size<_;omega)).trans k1,(hW.cell (p:=⟨w.heap.size+1,0,none⟩) (by show w.heap.size+1<_;omega)).trans k2,bV.trans (hW.mono bV.size),by have:=hW.size;omega⟩
 have HW:Hid (∀ W,Below w.heap.size w W→Calls prog 134 #[.slice a3 len cap3,.string base,.slice a2 b.length cap2,.int .i64 en,.int .i64 pe] W (QcH S base b en pe W)):=fun W hW=>
  worth_any a3 a2 len cap3 cap2 S base b en pe W (fun W' hW'=>ht W' (hW.trans (hW'.mono hW.size))) hg (hb.below hW) hbl
 have HSl:Hid (Qcm w a c cap):=h;have HBl:Hid (Qcn w a2 b cap2):=hb;have HV:Hid (_=V):=hV;clear hV b1 bV ht hb;by_cases c1:QaC c≠0
 ·have HC:Hid (Calls prog 43 #[.slice a c.length cap] V fun e w'=>e=.returned (.tuple #[.nilFunc,.iface 66 (.int .i64 (QaC c))])∧Below V.heap.size V w'):=by
   have:=Qbx a cap c V (HSl.out.below (HBx.out V (Below.refl _ _)).2.2.1) c1
   rw [QaA c1] at this;exact this
  have HE:Hid (∀ W,Below V.heap.size V W→Qhx S c base gain b en pe w (.returned (.tuple #[.slice none 0 0,.iface 66 (.int .i64 (QaC c))])) W):=fun W hW=>HErr.out _ W c1 (by unfold Qch;rw [if_pos c1]) (HBx.out W hW).2.2.1
  clear HErr HOk HW h c1 hs;generalize QaC c=z at *
  go_enter func93,ntmps93
  go_upto_region 1 with fail
  rw [HV.out];clear HV;go_wp2_with fail;refine HC.out.mono ?_;rintro e w1 ⟨rfl,hb1⟩;have HE1:Hid _:=HE.out w1 hb1;clear HC HE hb1 k1 k2;go_wp2;go_ret2;exact HE1.out
 have c1':=Decidable.of_not_not c1;have hlen:=Qcy c1';have HC:Hid (Calls prog 43 #[.slice a c.length cap] V fun e w'=>∃ B1 B2,e=.returned (.tuple #[.func (.func 73) #[] #[.pointer (some ⟨B1,0,none⟩),.pointer (some ⟨B2,0,none⟩)],.nilIface])∧Lfs w' B1 B2 c∧Below V.heap.size V w'):=QbK a cap c V (HSl.out.below (HBx.out V (Below.refl _ _)).2.2.1) c1'
 have HR1:Hid (Qch S c base gain b en pe=if Qbs S base b en pe≠0 then Qbs S base b en pe else if Qaa c gain≠0 then Qaa c gain else if b.any (Qgq c en)=true then 6 else Qad (fun i=>QdJ (wV S base en pe) base gain b en (c.getD i ac0)) c.length):=by
  unfold Qch Hid;rw [if_neg c1]
 have HCo:Hid (QaC c=0):=c1';clear c1 c1' h;go_enter func93,ntmps93
 go_upto_region 1 with fail
 rw [HV.out];clear HV;obtain ⟨q2,hq2⟩:∃ q2,w.heap.size+1=q2:=⟨_,rfl⟩;rw [hq2] at HBx k2 ⊢;obtain ⟨q1,hq1⟩:∃ q1,w.heap.size=q1:=⟨_,rfl⟩;have Hq:Hid (w.heap.size=q1):=hq1;have hq12:q2=q1+1:=by omega
 have Hq12:Hid (q2=q1+1):=hq12;rw [hq1] at HBx k1 ⊢;clear hq12 hs;go_wp2_with fail;refine HC.out.mono ?_;rintro e w1 ⟨B1,B2,rfl,hL,hb1⟩;have HL1:Hid (Lfs w1 B1 B2 c):=hL;have HB1:Hid (Below V.heap.size V w1):=hb1;obtain ⟨x1,x2,x3,x4⟩:=HBx.out w1 hb1;have HWw:Hid (Calls prog 134 #[.slice a3 len cap3,.string base,.slice a2 b.length cap2,.int .i64 en,.int .i64 pe] w1 (QcH S base b en pe w1)):=HW.out w1 (by rw [Hq.out];exact x3)
 clear hL hb1 HC HW k1 k2 x3 x4;by_cases c2:Qbs S base b en pe≠0
 ·have HE:Hid (∀ W,Below w1.heap.size w1 W→Qhx S c base gain b en pe w (.returned (.tuple #[.slice none 0 0,.iface 66 (.int .i64 (Qbs S base b en pe))])) W):=fun W hW=>HErr.out _ W c2 (by rw [HR1.out,if_pos c2]) (by rw [Hq.out];exact (HBx.out W (HB1.out.trans (hW.mono HB1.out.size))).2.2.1)
  have HW2:Hid (Calls prog 134 #[.slice a3 len cap3,.string base,.slice a2 b.length cap2,.int .i64 en,.int .i64 pe] w1 fun e w'=>e=.returned (.tuple #[.slice none 0 0,.iface 66 (.int .i64 (Qbs S base b en pe))])∧Below w1.heap.size w1 w'):=by
   refine HWw.out.mono ?_;rintro e w' ⟨z1,z2,_⟩;have z3:=z2 c2;rw [QaU c2] at z3;exact ⟨z3,z1⟩
  clear HErr HOk HWw HR1 c2;generalize Qbs S base b en pe=z at *
  go_wp2_with fail;refine HW2.out.mono ?_;rintro e w2 ⟨rfl,hb2⟩;have HE2:Hid _:=HE.out w2 hb2;clear HW2 HE hb2;go_wp2;go_ret2;exact HE2.out
 have c2':=Decidable.of_not_not c2;have HR2:Hid (Qch S c base gain b en pe=if Qaa c gain≠0 then Qaa c gain else if b.any (Qgq c en)=true then 6 else Qad (fun i=>QdJ (wV S base en pe) base gain b en (c.getD i ac0)) c.length):=by
  unfold Hid;rw [HR1.out,if_neg c2]
 have HFi:Hid (Fine b):=by
  have h1:Qg6 S base b en pe=0:=by
   unfold Qbs at c2';split at c2'
   ·contradiction
   ·rename_i h;exact Decidable.of_not_not h
  exact (QeY.1 h1).1
 have HW2:Hid (Calls prog 134 #[.slice a3 len cap3,.string base,.slice a2 b.length cap2,.int .i64 en,.int .i64 pe] w1 fun e w'=>∃ g,e=.returned (.tuple #[.slice (some ⟨g,0,none⟩) b.length b.length,.nilIface])∧Qee w' g (b.map (wV S base en pe))∧Below w1.heap.size w1 w'):=by
  refine HWw.out.mono ?_;rintro e w' ⟨z1,_,z3⟩;obtain ⟨g,e1,_,e3⟩:=z3 c2';exact ⟨g,e1,e3,z1⟩
 clear HWw c2 c2' HR1;generalize wV S base en pe=f at *
 go_wp2_with fail;refine HW2.out.mono ?_;rintro e w2 ⟨g,rfl,hn2,hb2⟩;have HN2:Hid (Qee w2 g (b.map f)):=hn2;have HB2:Hid (Below V.heap.size V w2):=HB1.out.trans (hb2.mono HB1.out.size);have HLf:Hid (Calls prog 73 #[.string gain,.pointer (some ⟨B1,0,none⟩),.pointer (some ⟨B2,0,none⟩)] w2 fun e w'=>e=.returned (Qec (Qaa c gain))∧Below w2.heap.size w2 w'):=QgU c gain B1 B2 w2 (HL1.out.below hb2)
 clear HW2 hn2 hb2 HB1 HL1 x1 x2;by_cases c3:Qaa c gain≠0
 ·have HE:Hid (∀ W,Below w2.heap.size w2 W→Qhx S c base gain b en pe w (.returned (.tuple #[.slice none 0 0,.iface 66 (.int .i64 (Qaa c gain))])) W):=fun W hW=>HErr.out _ W c3 (by rw [HR2.out,if_pos c3]) (by rw [Hq.out];exact (HBx.out W (HB2.out.trans (hW.mono HB2.out.size))).2.2.1)
  rw [QaU c3] at HLf;clear HErr HOk HR2 c3;generalize Qaa c gain=z at *
  go_wp2_with fail;go_at_fn 73
  refine HLf.out.mono ?_;rintro e w3 ⟨rfl,hb3⟩;have HE3:Hid _:=HE.out w3 hb3;clear HLf HE hb3;go_wp2;go_ret2;exact HE3.out
 have HR3:Hid (Qch S c base gain b en pe=if b.any (Qgq c en)=true then 6 else Qad (fun i=>QdJ f base gain b en (c.getD i ac0)) c.length):=by
  unfold Hid;rw [HR2.out,if_neg c3]
 rw [Decidable.of_not_not c3,Qbk] at HLf;clear c3 HR2;go_wp2_with fail;go_at_fn 73
 refine HLf.out.mono ?_;rintro e w3 ⟨rfl,hb3⟩;have HB3:Hid (Below V.heap.size V w3):=HB2.out.trans (hb3.mono HB2.out.size);have HN3:Hid (Qee w3 g (b.map f)):=HN2.out.belowS hb3 HN2.out.ltS;clear HLf hb3 HN2 HB2;have HCt:Hid (Calls prog 135 #[.slice a2 b.length cap2,.func (.func 136) #[] #[.pointer (some ⟨q2,0,none⟩),.pointer (some ⟨q1,0,none⟩)]] w3 fun e w'=>e=.returned (.bool (b.any (Qgq c en)))∧Below w3.heap.size w3 w'):=by
  refine fContains_any _ _ _ (Qgq c en) a2 cap2 b w3 ⟨fun args W=>Qf9 func136 (by kernel_rfl) ⟨_,rfl⟩ args W,fun x W hW=>?_⟩ (by omega) (HBl.out.below (by rw [Hq.out];exact (HBx.out w3 HB3.out).2.2.1))
  obtain ⟨y1,y2,y3,y4⟩:=HBx.out W (HB3.out.trans (hW.mono HB3.out.size));have hq:=Hq12.out;exact rvEnt1_any x c a cap en q2 q1 W (by omega) (by omega) y2 y1 (by omega) (HSl.out.below (by rw [Hq.out];exact y3))
 by_cases c4:b.any (Qgq c en)=true
 ·have HE:Hid (∀ W,Below w3.heap.size w3 W→Qhx S c base gain b en pe w (.returned (.tuple #[.slice none 0 0,.iface 66 (.int .i64 6)])) W):=fun W hW=>HErr.out _ W (by decide) (by rw [HR3.out,if_pos c4]) (by rw [Hq.out];exact (HBx.out W (HB3.out.trans (hW.mono HB3.out.size))).2.2.1)
  rw [c4] at HCt;clear HErr HOk HR3 c4;go_wp2_with fail;refine HCt.out.mono ?_;rintro e w4 ⟨rfl,hb4⟩;have HE4:Hid _:=HE.out w4 hb4;clear HCt HE hb4;go_wp2;go_ret2;exact HE4.out
 have HR4:Hid (Qch S c base gain b en pe=Qad (fun i=>QdJ f base gain b en (c.getD i ac0)) c.length):=by
  unfold Hid;rw [HR3.out,if_neg c4]
 rw [Bool.eq_false_iff.2 c4] at HCt;clear c4 HR3;go_wp2_with fail;refine HCt.out.mono ?_;rintro e w4 ⟨rfl,hb4⟩;have HB4:Hid (Below V.heap.size V w4):=HB3.out.trans (hb4.mono HB3.out.size);have HN4:Hid (Qee w4 g (b.map f)):=HN3.out.belowS hb4 HN3.out.ltS;obtain ⟨x1,x2,x3,x4⟩:=HBx.out w4 HB4.out;have HSl4:Hid (Qcm w4 a c cap):=HSl.out.below (by rw [Hq.out];exact x3)
 have HBl4:Hid (Qcn w4 a2 b cap2):=HBl.out.below (by rw [Hq.out];exact x3)
 have HBw:Hid (Below w.heap.size w w4∧w.heap.size≤w4.heap.size):=by rw [Hq.out];exact ⟨x3,by omega⟩
 have HX4:Hid (∀ W,Below w4.heap.size w4 W→W.cell? ⟨q2,0,none⟩=some (.int .i64 en)):=fun W hW=>(HBx.out W (HB4.out.trans (hW.mono HB4.out.size))).2.1
 clear HCt hb4 HN3 HB3 HBx HSl HBl x2 x3 x4 HB4;obtain ⟨i0,hi,hz0,hz1,hz2⟩:=info_parts QeO;have i2:(c.length:Int)≤60:=by omega
 go_wp2;clear x1;go_loopw [20,57] (fun v i wr=>∃ (k:Nat) (L:List Je),k≤c.length∧i=.int .i64 k∧Hid (Qb3 wr w4.heap.size v L∧L.map Je.ep=QhL f base gain b en pe c k∧L.length≤k)∧Hid (Qad (fun i=>QdJ f base gain b en (c.getD i ac0)) k=0)∧Hid (Below w4.heap.size w4 wr)) (fun _ i _=>c.length - (RowKit.intOf i).toNat)
 case atStart=>exact ⟨0,[],Nat.zero_le _,rfl,⟨Qb3.nil _ _,rfl,Nat.le_refl _⟩,rfl,Below.refl _ _⟩
 case round=>
  obtain ⟨k,L,hk,rfl,HM,H0,HB⟩:=hrel;obtain ⟨av,cv,ev,_⟩:=HM.out.1.isJs;subst ev;by_cases hkn:k<c.length
  ·rcases HSl4.out.lies with h0 | ⟨bb,off,e,hblt,hcc⟩
   ·rw [h0] at hkn;simp at hkn
   subst e;have hx:=(hcc k hkn).below HB.out hblt;have HSz:Hid ((c.getD k ac0).code.size≤6):=code_six HCo.out hkn;obtain ⟨Z,hZ⟩:∃ Z,wr.alloc (.cells (c.getD k ac0).cells 48)=Z:=⟨_,rfl⟩;have bZ:Below wr.heap.size wr Z:=by rw [← hZ];exact (Below.refl _ wr).alloc (Nat.le_refl _) _
   have hsz:wr.heap.size<Z.heap.size:=by rw [← hZ];simp
   have hbt:AcAt Z wr.heap.size 0 (c.getD k ac0):=by rw [← hZ];exact AcAt.new wr (c.getD k ac0) 48
   have BZ:Below w4.heap.size w4 Z:=HB.out.trans (bZ.mono HB.out.size);have HKeep:Hid (∀ W,Below Z.heap.size Z W→Below w4.heap.size w4 W∧Below wr.heap.size wr W∧AcAt W wr.heap.size 0 (c.getD k ac0)∧W.cell? ⟨q2,0,none⟩=some (.int .i64 en)):=fun W hW=>by
    have h1:=BZ.trans (hW.mono BZ.size);exact ⟨h1,bZ.trans (hW.mono bZ.size),hbt.below hW hsz,HX4.out W h1⟩
   have HLk:Hid (Calls prog 138 #[.slice a2 b.length cap2,.slice (some ⟨g,0,none⟩) b.length b.length,.string base,.int .i64 en,.string (c.getD k ac0).code] Z fun e w'=>e=.returned (.tuple #[.int .i64 (Qe8 f base b en (c.getD k ac0)),Qec (acErr f base b en (c.getD k ac0))])∧Below Z.heap.size Z w'):=lacking_any a2 cap2 g b.length f base (c.getD k ac0).code b en Z (HBl4.out.below BZ) HFi.out HFit.out (HN4.out.belowS BZ HN4.out.ltS)
   have HNx:Hid (QhL f base gain b en pe c (k+1)=QhL f base gain b en pe c k++acE f base gain b en pe (c.getD k ac0)):=rvTo_next f base gain b en pe c k;have HAE:Hid (acE f base gain b en pe (c.getD k ac0)=if (c.getD k ac0).mon=true∧Qe8 f base b en (c.getD k ac0)≠0 then [⟨refV (c.getD k ac0).code,en,pe,brL (Qe8 f base b en (c.getD k ac0)) base (c.getD k ac0).code gain⟩] else []):=rfl
   have HAB:Hid (QdJ f base gain b en (c.getD k ac0)=if (c.getD k ac0).mon=false then 0 else if acErr f base b en (c.getD k ac0)≠0 then acErr f base b en (c.getD k ac0) else brBad (Qe8 f base b en (c.getD k ac0)) (c.getD k ac0).code gain):=rfl
   have HBd:Hid (QdJ f base gain b en (c.getD k ac0)=0→Qad (fun i=>QdJ f base gain b en (c.getD i ac0)) (k+1)=0):=fun h=>by rw [Qbo H0.out,h]
   have HBr:Hid (QdJ f base gain b en (c.getD k ac0)≠0→∀ W,Below w4.heap.size w4 W→Qhx S c base gain b en pe w (.returned (.tuple #[.slice none 0 0,.iface 66 (.int .i64 (QdJ f base gain b en (c.getD k ac0)))])) W):=fun h W hW=>
    HErr.out _ W h (by rw [HR4.out,Qcp H0.out h hkn]) (HBw.out.1.trans (hW.mono HBw.out.2))
   have HZ:Hid (wr.alloc (.cells (c.getD k ac0).cells 48)=Z):=hZ;have hcell:=HX4.out Z BZ;clear hZ bZ hsz BZ hcc;generalize Qe8 f base b en (c.getD k ac0)=am at *
   generalize acErr f base b en (c.getD k ac0)=ae at *
   generalize QdJ f base gain b en (c.getD k ac0)=abd at *
   generalize acE f base gain b en pe (c.getD k ac0)=aE at *
   generalize c.getD k ac0=x at *
   obtain ⟨code,name,kind,par,mon⟩:=x;obtain ⟨d0,d1,d2,d3,d4⟩:=hx;obtain ⟨f0,f1,f2,f3,f4⟩:=hbt;simp only [Ac.cells,Nat.zero_add] at d0 d1 d2 d3 d4 f0 f1 f2 f3 f4 HZ HKeep HLk HAE HAB HSz;have j0:(0:Int)≤k:=by omega
   have j1:(k:Int)<c.length:=by omega
   go_upto_region 16 with fail
   rw [HZ.out];clear HZ d0 d1 d2 d3 d4;cases mon
   ·have HM2:Hid (Qb3 Z w4.heap.size (.slice av L.length cv) L∧L.map Je.ep=QhL f base gain b en pe c (k+1)∧L.length≤k+1):=by
     obtain ⟨m1,m2,m3⟩:=HM.out;refine ⟨m1.below (HKeep.out Z (Below.refl _ _)).2.1,?_,by omega⟩
     rw [HNx.out,HAE.out,if_neg (by simp),List.append_nil,m2]
    have HN:Hid (Qad (fun i=>QdJ f base gain b en (c.getD i ac0)) (k+1)=0):=HBd.out (by rw [HAB.out,if_pos rfl])
    have HB5:Hid (Below w4.heap.size w4 Z):=(HKeep.out Z (Below.refl _ _)).1;clear HBd HBr HAB HAE HNx HM HOk HErr HLk HKeep;go_wp2;go_roundw
    case rel=>exact ⟨k+1,L,by omega,by go_num,HM2,HN,HB5⟩
    case measure=>simp [RowKit.intOf];omega
   by_cases g1:ae≠0
   ·have e1:abd=ae:=by rw [HAB.out,if_neg (by simp),if_pos g1]
    subst e1;rw [QaU g1] at HLk;have HE:Hid (∀ W,Below Z.heap.size Z W→Qhx S c base gain b en pe w (.returned (.tuple #[.slice none 0 0,.iface 66 (.int .i64 abd)])) W):=fun W hW=>HBr.out g1 W (HKeep.out W hW).1
    clear HBd HBr HAB HAE HNx HM HOk HErr HKeep g1;go_wp2_with fail;refine HLk.out.mono ?_;rintro e w5 ⟨rfl,hb5⟩;have HE5:Hid _:=HE.out w5 hb5;clear HLk HE hb5 f0 f1 f2 f3 f4 hcell;go_wp2;go_ret2;exact HE5.out
   have g1':=Decidable.of_not_not g1;rw [g1',Qbk] at HLk;have HAB2:Hid (abd=brBad am code gain):=by unfold Hid;rw [HAB.out,if_neg (by simp),if_neg g1]
   have HBo:Hid (∀ W,Calls prog 139 #[.int .i64 am,.string code,.string gain] W fun e w'=>e=.returned (Qec abd)∧w'=W):=fun W=>by rw [HAB2.out];exact brBad_any am code gain W
   clear g1 g1' HAB;go_wp2_with fail;refine HLk.out.mono ?_;rintro e w5 ⟨rfl,hb5⟩;obtain ⟨y1,y2,y3,y4⟩:=HKeep.out w5 hb5;have HY1:Hid (Below w4.heap.size w4 w5):=y1;have HY2:Hid (Below wr.heap.size wr w5):=y2;have HY3:Hid (∀ W,Below w5.heap.size w5 W→W.cell? ⟨wr.heap.size,0,none⟩=some (.string code)∧W.cell? ⟨q2,0,none⟩=some (.int .i64 en)):=fun W hW=>by
    obtain ⟨_,_,t3,t4⟩:=HKeep.out W (hb5.trans (hW.mono hb5.size));have t5:=t3.c0;simp only at t5;exact ⟨t5,t4⟩
   clear f0 f1 f2 f3 f4 hcell;obtain ⟨f0,f1,f2,f3,f4⟩:=y3;simp only [Nat.zero_add] at f0 f1 f2 f3 f4;clear HLk HKeep hb5 y1 y2;by_cases g2:abd≠0
   ·rw [QaU g2] at HBo;have HE:Hid (Qhx S c base gain b en pe w (.returned (.tuple #[.slice none 0 0,.iface 66 (.int .i64 abd)])) w5):=HBr.out g2 w5 HY1.out;clear HBd HBr HAB2 HAE HNx HM HOk HErr g2;go_wp2_with fail;refine (HBo.out _).mono ?_;rintro e w' ⟨rfl,hw⟩;rw [hw];clear hw w' HBo;go_wp2;go_ret2;exact HE.out
   have g2':=Decidable.of_not_not g2;have HN:Hid (Qad (fun i=>QdJ f base gain b en (c.getD i ac0)) (k+1)=0):=HBd.out g2'
   rw [g2',Qbk] at HBo;have hamt:QaJ am=true:=by
    have:=HAB2.out
    rw [g2'] at this;unfold brBad at this;split at this
    ·omega
    ·rename_i h;simpa using h
   have hamt2:=Qbl.1 hamt;unfold Qah at hamt2;clear HBd HBr HAB2 HErr g2 g2';go_wp2_with fail;refine (HBo.out _).mono ?_;rintro e w' ⟨rfl,hw⟩;rw [hw];clear hw w' HBo;by_cases g3:am=0
   ·subst g3;have HM2:Hid (Qb3 w5 w4.heap.size (.slice av L.length cv) L∧L.map Je.ep=QhL f base gain b en pe c (k+1)∧L.length≤k+1):=by
     obtain ⟨m1,m2,m3⟩:=HM.out;refine ⟨m1.below HY2.out,?_,by omega⟩
     rw [HNx.out,HAE.out,if_neg (by simp),List.append_nil,m2]
    clear HAE HNx HM HOk;go_wp2;go_roundw
    case rel=>exact ⟨k+1,L,by omega,by go_num,HM2,HN,HY1⟩
    case measure=>simp [RowKit.intOf];omega
   have g3':(am != 0)=true:=by simpa using g3
   have HP2:Hid (QhL f base gain b en pe c (k+1)=QhL f base gain b en pe c k++[⟨refV code,en,pe,brL am base code gain⟩]):=by
    rw [HNx.out,HAE.out,if_pos (by first | exact ⟨rfl,g3⟩ | exact ⟨trivial,g3⟩)];exact rfl
   have hd:Below w5.heap.size w5 w5.drew:=⟨rfl,rfl,rfl,Nat.le_refl _,fun _ _=>rfl⟩
   have HCell:Hid (∀ u,Below w5.drew.heap.size w5.drew u→u.cell? ⟨wr.heap.size,0,none⟩=some (.string code)∧u.cell? ⟨q2,0,none⟩=some (.int .i64 en)):=fun u hu=>HY3.out u (hd.trans hu)
   have HU1:Hid (Below w4.heap.size w4 w5.drew):=HY1.out.drew;have HU2:Hid (Below wr.heap.size wr w5.drew):=HY2.out.drew;have HBg:Hid (∀ W,Calls prog 140 #[.int .i64 am,.string base,.string code,.string gain] W fun e w'=>∃ adr cap,e=.returned (.slice adr 2 cap)∧Qag w' W.heap.size (.slice adr 2 cap) (brL am base code gain)∧Below W.heap.size W w'):=fun W=>brought_any am base code gain W (by omega) (by omega)
   have HRf:Hid (refV code=(⟨#[118,97,108,117,101,45]⟩:ByteArray)++code):=rfl;have HLen:Hid ((brL am base code gain).length=2):=rfl;generalize refV code=RF at *
   generalize brL am base code gain=gl at *
   have hsz6:=HSz.out;have s1:¬ 9223372036854775807<6+code.size:=by omega
   clear HAE HNx HOk HY1 HY2 HY3 hd g3 hamt hamt2 HSz hsz6;go_upto_region 23 with fail
   refine Qab (by kernel_rfl) ?_
   generalize w5.drew=U at *
   refine wpAny_take (i:=0) (v:=.slice av L.length cv) rfl (by kernel_rfl) (by kernel_rfl) (by kernel_rfl) (fun _ _ _ h=>h) (Or.inl ⟨by rfl,fun w=>by go_simp⟩) ?_
   simp only [Act.put,zq0,zq1,zq2,zq3,zq4,zq5];refine wpAny_take (i:=1) (v:=.pointer (some ⟨wr.heap.size,0,none⟩)) rfl (by kernel_rfl) (by kernel_rfl) (by kernel_rfl) (fun _ _ _ h=>h) (Or.inl ⟨by rfl,fun w=>by go_simp⟩) ?_
   simp only [Act.put,zq0,zq1,zq2,zq3,zq4,zq5];refine wpAny_take (i:=5) (v:=.int .i64 pe) rfl (by kernel_rfl) (by kernel_rfl) (by kernel_rfl) (fun _ _ _ h=>h) (Or.inl ⟨by rfl,fun w=>by go_simp⟩) ?_
   simp only [Act.put,zq0,zq1,zq2,zq3,zq4,zq5];refine wpAny_take (i:=6) (v:=.int .i64 am) rfl (by kernel_rfl) (by kernel_rfl) (by kernel_rfl) (fun _ _ _ h=>h) (Or.inl ⟨by rfl,fun w=>by go_simp⟩) ?_
   simp only [Act.put,zq0,zq1,zq2,zq3,zq4,zq5];refine wpAny_take (i:=7) (v:=.string base) rfl (by kernel_rfl) (by kernel_rfl) (by kernel_rfl) (fun _ _ _ h=>h) (Or.inl ⟨by rfl,fun w=>by go_simp⟩) ?_
   simp only [Act.put,zq0,zq1,zq2,zq3,zq4,zq5];refine wpAny_take (i:=8) (v:=.pointer (some ⟨wr.heap.size,0,none⟩)) rfl (by kernel_rfl) (by kernel_rfl) (by kernel_rfl) (fun _ _ _ h=>h) (Or.inl ⟨by rfl,fun w=>by go_simp⟩) ?_
   simp only [Act.put,zq0,zq1,zq2,zq3,zq4,zq5];refine wpAny_take (i:=10) (v:=.string gain) rfl (by kernel_rfl) (by kernel_rfl) (by kernel_rfl) (fun _ _ _ h=>h) (Or.inl ⟨by rfl,fun w=>by go_simp⟩) ?_
   simp only [Act.put,zq0,zq1,zq2,zq3,zq4,zq5];refine QaD (g:=14) (T:=fun u=>Below U.heap.size U u) _ _ _ _ ?_
   refine Qam [14,13,12,3] (i:=2) (v:=.string code) rfl (by kernel_rfl) (by kernel_rfl) (by decide) (by kernel_rfl) (by kernel_rfl) (by kernel_rfl) (by kernel_rfl) (fun _ _ _ h=>h) (Or.inl ⟨by rfl,fun w' hw'=>by have c0:=(HCell.out w' hw').1;clear hw';go_simp⟩) (Below.refl _ _) ?_
   simp only [Act.put,zq0,zq1,zq2,zq3,zq4,zq5];refine Qam [14,13,12] (i:=3) (v:=.string RF) rfl (by kernel_rfl) (by kernel_rfl) (by decide) (by kernel_rfl) (by kernel_rfl) (by kernel_rfl) (by kernel_rfl) (fun _ _ _ h=>h) (Or.inl ⟨by rfl,fun w' hw'=>by clear hw';rw [HRf.out];go_simp⟩) (Below.refl _ _) ?_
   simp only [Act.put,zq0,zq1,zq2,zq3,zq4,zq5];refine Qam [14,13,12] (i:=4) (v:=.int .i64 en) rfl (by kernel_rfl) (by kernel_rfl) (by decide) (by kernel_rfl) (by kernel_rfl) (by kernel_rfl) (by kernel_rfl) (fun _ _ _ h=>h) (Or.inl ⟨by rfl,fun w' hw'=>by have c0:=(HCell.out w' hw').2;clear hw';go_simp⟩) (Below.refl _ _) ?_
   simp only [Act.put,zq0,zq1,zq2,zq3,zq4,zq5];refine Qam [14,13,12,11] (i:=9) (v:=.string code) rfl (by kernel_rfl) (by kernel_rfl) (by decide) (by kernel_rfl) (by kernel_rfl) (by kernel_rfl) (by kernel_rfl) (fun _ _ _ h=>h) (Or.inl ⟨by rfl,fun w' hw'=>by have c0:=(HCell.out w' hw').1;clear hw';go_simp⟩) (Below.refl _ _) ?_
   simp only [Act.put,zq0,zq1,zq2,zq3,zq4,zq5];refine Qic (i:=11) (by kernel_rfl) ?_
   refine wpOp_step rfl ?_;intro K hK;rw [if_pos (by rfl)]
   have hK':Shut (∀ a w,_→K a w):=hK;clear hK;go_wp2_with fail;refine (HBg.out U).mono ?_;rintro e W1 ⟨a4,c4,rfl,hr4,hb4⟩;refine hK'.out _ _ ?_;clear hK' K;refine ⟨hb4,?_⟩
   try simp only [Act.put,zq0,zq1,zq2,zq3,zq4,zq5]
   refine Qam [14,13] (i:=12) (v:=.agg #[.string RF,.int .i64 en,.int .i64 pe,.slice a4 2 c4]) rfl (by kernel_rfl) (by kernel_rfl) (by decide) (by kernel_rfl) (by kernel_rfl) (by kernel_rfl) (by kernel_rfl) (fun _ _ _ h=>h) ?_ hb4 ?_
   ·exact Qcl (by rfl) 59 _ (by rfl) #[(0,.string RF),(1,.int .i64 en),(2,.int .i64 pe),(3,.slice a4 2 c4)] (by simp [Act.eval]) (fun w' _=>rv_build_en _ _ _ _ _ _ w')
   simp only [Act.put,zq0,zq1,zq2,zq3,zq4,zq5];have HR4':Hid (Qag W1 U.heap.size (.slice a4 gl.length c4) gl):=by rw [HLen.out];exact hr4
   have HB4:Hid (Below U.heap.size U W1):=hb4;have HAdd:Hid (∀ v' w6,World.ownsRow w6 w4.heap.size 59 4 v' (L.length+1) (Qby L++(Je.mk RF en pe a4 c4 gl).cells.toList)→(W1.alloc (.cells #[.string RF,.int .i64 en,.int .i64 pe,.slice a4 2 c4] 59)).grownBy w6 (Value.slice av L.length cv).ownBlock→(Qb3 w6 w4.heap.size v' (L++[Je.mk RF en pe a4 c4 gl])∧(L++[Je.mk RF en pe a4 c4 gl]).map Je.ep=QhL f base gain b en pe c (k+1)∧(L++[Je.mk RF en pe a4 c4 gl]).length≤k+1)∧Below w4.heap.size w4 w6):=fun v' w6 h1 h2=>by
    obtain ⟨m1,m2,m3⟩:=HM.out;have z1:=HU1.out.trans (HB4.out.mono HU1.out.size);have z2:=z1.alloc z1.size (.cells #[.string RF,.int .i64 en,.int .i64 pe,.slice a4 2 c4] 59);have z3:Below W1.heap.size W1 (W1.alloc (.cells #[.string RF,.int .i64 en,.int .i64 pe,.slice a4 2 c4] 59)):=(Below.refl _ W1).alloc (Nat.le_refl _) _;have m4:=((m1.below HU2.out).below HB4.out).below z3;refine ⟨⟨m4.add (x:=Je.mk RF en pe a4 c4 gl) ((HR4'.out.below z3).mono HU1.out.size) h1 h2,?_,?_⟩,z2.grown h2 z2.size fun j e=>m1.row.own j e⟩
    ·rw [List.map_append,m2,HP2.out];rfl
    ·rw [List.length_append];simp;exact m3
   have HRow:Hid (World.ownsRow (W1.alloc (.cells #[.string RF,.int .i64 en,.int .i64 pe,.slice a4 2 c4] 59)) w4.heap.size 59 4 (.slice av L.length cv) L.length (Qby L)):=by
    have m4:=(HM.out.1.below HU2.out).below HB4.out;exact World.ownsRow.alloc m4.row _
   have s2:Hid (L.length+1≤maxLen∧(L.length+1)*56≤140737488355328):=by
    have:=HM.out.2.2
    unfold Hid maxLen;omega
   have s4:Hid (w4.heap.size≤(W1.alloc (.cells #[.string RF,.int .i64 en,.int .i64 pe,.slice a4 2 c4] 59)).heap.size):=by
    have z1:=HU1.out.size;have z2:=HB4.out.size;unfold Hid;simp;omega
   have HCl:Hid ((Je.mk RF en pe a4 c4 gl).cells.toList=[.string RF,.int .i64 en,.int .i64 pe,.slice a4 2 c4]):=by unfold Je.cells Hid;simp only [HLen.out]
   have HOne:Hid (∀ u∈([.string RF,.int .i64 en,.int .i64 pe,.slice a4 2 c4]:List Value),u.oneCell'=true):=by rw [← HCl.out];exact je_one _
   rw [HCl.out] at HAdd;have hbA:Below U.heap.size U (W1.alloc (.cells #[.string RF,.int .i64 en,.int .i64 pe,.slice a4 2 c4] 59)):=hb4.alloc hb4.size _;clear hr4 hb4 HM HCl HBg HCell HU1 HU2 HR4' HB4;refine Qic (i:=13) (by kernel_rfl) ?_
   refine wpOp_step rfl ?_;intro K hK;rw [if_pos (by rfl)]
   have hK':Shut (∀ a w,_→K a w):=hK;clear hK;go_wp2_with fail;refine hK'.out _ _ ?_;clear hK' K;refine ⟨hbA,?_⟩
   try simp only [Act.put,zq0,zq1,zq2,zq3,zq4,zq5]
   refine Qhw (by kernel_rfl) (by kernel_rfl) ?_
   refine wpOp_step rfl (fun K hK=>?_)
   refine step_append_lies _ rfl (.tmp 86) (.tmp 99) 22 rfl w4.heap.size 59 i0 (.agg #[.string ByteArray.empty,.int .i64 0,.int .i64 0,.slice none 0 0]) 4 56 underlying22 hi hz0 hz1 hz2 rfl (Nat.zero_lt_succ _) (.slice av L.length cv) L.length (Qby L) rfl HRow.out ⟨W1.heap.size,0,none⟩ 1 1 [.string RF,.int .i64 en,.int .i64 pe,.slice a4 2 c4] rfl rfl (World.news_of_block (World.alloc_heap_new W1 _)) HOne.out (Nat.zero_lt_one) s2.out.1 s2.out.2 s4.out (W1.heap.size+1) (by simp) ?_
   intro g' cap' w6 hown' hgrow hat hlt2;obtain ⟨hm6,hb6⟩:=HAdd.out _ w6 hown' hgrow;have HM6:Hid _:=hm6;have HB6:Hid (Below w4.heap.size w4 w6):=hb6;refine hK _ _ ?_;clear hK K hown' hgrow hm6 hb6 HAdd HRow hat hlt2 hbA;refine wpAny_take (i:=15) (v:=.slice (some ⟨g',0,none⟩) (L.length+1) cap') rfl (by kernel_rfl) (by kernel_rfl) (by kernel_rfl) (fun _ _ _ h=>h) (Or.inl ⟨by rfl,fun w=>by go_simp⟩) ?_
   simp only [Act.put,zq0,zq1,zq2,zq3,zq4,zq5];refine wpAny_done (by kernel_rfl) ?_ _
   go_wp2;go_roundw
   case rel=>exact ⟨k+1,_,by omega,by go_num,HM6,HN,HB6⟩
   case measure=>simp [RowKit.intOf];omega
  ·have ek:k=c.length:=by omega
   subst ek;obtain ⟨m1,m2,m3⟩:=HM.out;have HE:Hid (Qhx S c base gain b en pe w (.returned (.tuple #[.slice av L.length cv,.nilIface])) wr):=HOk.out _ L wr (by rw [HR4.out,H0.out]) (HBw.out.1.trans (HB.out.mono HBw.out.2)) (m1.mono HBw.out.2) m2 (by omega)
   have j1:¬ (c.length:Int)<c.length:=by omega
   clear m1 m2 m3 HM HErr HOk;go_wp2;go_ret2;exact HE.out
end
section
open Go.RowKit Go.Lib Go.Proofs.Tryz
structure Pr where
 ea:Int
 eb:Int
 one:ByteArray
 oth:ByteArray
 dif:ByteArray
def Pr.cells (x:Pr):Array Value:=#[.int .i64 x.ea,.int .i64 x.eb,.string x.one,.string x.oth,.string x.dif]
def pr0:Pr:=⟨0,0,ByteArray.empty,ByteArray.empty,ByteArray.empty⟩
structure PrAt (w:World) (b off:Nat) (x:Pr):Prop where
 c0:w.cell? ⟨b,off,none⟩=some (.int .i64 x.ea)
 c1:w.cell? ⟨b,off+1,none⟩=some (.int .i64 x.eb)
 c2:w.cell? ⟨b,off+2,none⟩=some (.string x.one)
 c3:w.cell? ⟨b,off+3,none⟩=some (.string x.oth)
 c4:w.cell? ⟨b,off+4,none⟩=some (.string x.dif)
theorem PrAt.below {w w':World} {b off n:Nat} {a:Pr} (h:PrAt w b off a) (hb:Below n w w') (hn:b<n):PrAt w' b off a:=
 ⟨(hb.cell (p:=⟨b,off,none⟩) hn).trans h.c0,(hb.cell (p:=⟨b,off+1,none⟩) hn).trans h.c1,(hb.cell (p:=⟨b,off+2,none⟩) hn).trans h.c2,(hb.cell (p:=⟨b,off+3,none⟩) hn).trans h.c3,(hb.cell (p:=⟨b,off+4,none⟩) hn).trans h.c4⟩
theorem PrAt.new (w:World) (a:Pr) (t:TypeId):PrAt (w.alloc (.cells a.cells t)) w.heap.size 0 a:=
 ⟨by simp [Pr.cells],by simp [Pr.cells],by simp [Pr.cells],by simp [Pr.cells],by simp [Pr.cells]⟩
def PrsAt (w:World) (b off:Nat) (l:List Pr):Prop:=∀ k,k<l.length→PrAt w b (off+k*5) (l.getD k pr0)
structure IsPr (w:World) (a:Option Addr) (l:List Pr) (cap:Nat):Prop where
 cap:l.length≤cap
 lies:l=[]∨∃ b off,a=some ⟨b,off,none⟩∧b<w.heap.size∧PrsAt w b off l
theorem IsPr.below {w w':World} {a:Option Addr} {l:List Pr} {cap:Nat} (h:IsPr w a l cap) (hb:Below w.heap.size w w'):IsPr w' a l cap:=by
 refine ⟨h.cap,?_⟩;rcases h.lies with h | ⟨b,off,e,hlt,hc⟩
 ·exact .inl h
 ·exact .inr ⟨b,off,e,by have:=hb.size;omega,fun k hk=>(hc k hk).below hb hlt⟩
theorem isPr_nil (W:World):IsPr W none [] 0:=⟨Nat.le_refl _,.inl rfl⟩
end
section
open Go.RowKit Go.Lib Go.Proofs.Tryz
def prBad (c:List Ac) (p:Pr):Int:=
 if (Qav p.ea 12 && Qav p.eb 12)=false then 1 else if p.ea=p.eb then 8
 else if Qaa c p.one≠0 then Qaa c p.one else if Qaa c p.oth≠0 then Qaa c p.oth else if Qaa c p.dif≠0 then Qaa c p.dif
 else if p.dif=p.one∨p.dif=p.oth then 8 else 0
theorem prBad_ok {c:List Ac} {p:Pr} (h:prBad c p=0):Qav p.ea 12=true∧Qav p.eb 12=true∧p.ea≠p.eb∧p.dif≠p.one∧p.dif≠p.oth:=by
 unfold prBad at h;split at h
 ·cases h
 rename_i h1;split at h
 ·cases h
 rename_i h2;split at h
 ·rename_i h3;exact absurd h h3
 split at h
 ·rename_i h3;exact absurd h h3
 split at h
 ·rename_i h3;exact absurd h h3
 split at h
 ·cases h
 rename_i h6;have h1':(Qav p.ea 12 && Qav p.eb 12)=true:=by simpa using h1
 obtain ⟨u,v⟩:Qav p.ea 12=true∧Qav p.eb 12=true:=by simpa using h1'
 exact ⟨u,v,h2,fun e=>h6 (.inl e),fun e=>h6 (.inr e)⟩
end
end Go.Proofs.YtjifbbdkpanagaaGreatDoor
