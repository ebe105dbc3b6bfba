/-
  Part of a proof (see the last text).
-/
import Derived.Test.YtjifbbdkpanagaaGreatDoorZd18
set_option linter.unusedVariables false
set_option linter.unusedSimpArgs false
set_option maxRecDepth 100000
namespace Go.Proofs.YtjifbbdkpanagaaGreatDoor
section
open Go.RowKit Go.Lib Go.Proofs.Tryz
set_option maxHeartbeats 2000000 in
theorem sides_any (p:Pr) (w:World) :
  Calls prog 144 #[.agg p.cells] w fun e w'=>e=.returned (.agg #[.int .i64 p.ea,.string p.one,.int .i64 p.eb,.string p.oth])∧Below w.heap.size w w':=by
 have b0:Below w.heap.size w (w.alloc (.cells p.cells 220)):=(Below.refl _ w).alloc (Nat.le_refl _) _;obtain ⟨x0,x1,x2,x3,x4⟩:=p;simp only [Pr.cells] at b0 ⊢;go_enter func144,ntmps144
 go_wp2;refine bodyPost_ret (v:=.agg #[.int .i64 x0,.string x2,.int .i64 x1,.string x3]) (by simp [results,Tryz.results144,go_sem]) rfl ?_
 exact ⟨rfl,b0.alloc b0.size _⟩
def Qbn (w:World) (g:Nat) (x y:Int):Prop:=w.heap[g]? = some (.cells #[.int .i64 x,.int .i64 y] 221 (0,0))
theorem Qbn.lt {w:World} {g:Nat} {x y:Int} (h:Qbn w g x y):g<w.heap.size:=(Array.getElem?_eq_some_iff.1 h).1
theorem Qbn.below {w w':World} {g n:Nat} {x y:Int} (h:Qbn w g x y) (hb:Below n w w') (hg:g<n):Qbn w' g x y:=(hb.block g hg).trans h
theorem Qbn.c0 {w:World} {g:Nat} {x y:Int} (h:Qbn w g x y):w.cell? ⟨g,0,none⟩=some (.int .i64 x):=by unfold Qbn at h;simp [World.cell?,h]
theorem Qbn.c1 {w:World} {g:Nat} {x y:Int} (h:Qbn w g x y):w.cell? ⟨g,1,none⟩=some (.int .i64 y):=by unfold Qbn at h;simp [World.cell?,h]
theorem Qbn.frozen {w:World} {g:Nat} {x y:Int} (h:Qbn w g x y) (i:Nat):w.frozen? ⟨g,i,none⟩=false:=by unfold Qbn at h;simp [World.frozen?,h]
theorem Qbn.set0 {w:World} {g:Nat} {x y:Int} (h:Qbn w g x y) (z:Int):Qbn (w.setCell ⟨g,0,none⟩ (.int .i64 z)) g z y:=by
 unfold Qbn at *
 rw [setCell_eq_setRow w g 0 _ 221 (0,0) _ h,setRow_heap w g _ _ 221 (0,0) h];simp
theorem Qbn.set1 {w:World} {g:Nat} {x y:Int} (h:Qbn w g x y) (z:Int):Qbn (w.setCell ⟨g,1,none⟩ (.int .i64 z)) g x z:=by
 unfold Qbn at *
 rw [setCell_eq_setRow w g 1 _ 221 (0,0) _ h,setRow_heap w g _ _ 221 (0,0) h];simp
theorem Qbn.new (w:World) (x y:Int):Qbn (w.alloc (.cells #[.int .i64 x,.int .i64 y] 221)) w.heap.size x y:=by
 unfold Qbn World.alloc;simp only [Array.getElem?_push_size]
set_option maxHeartbeats 4000000 in
theorem had_any (a:Option Addr) (cap:Nat) (p:Pr) (b:List Bl) (cur:ByteArray) (w:World) (hlen:(b.length:Int)≤9223372036854775807) (h:Qcn w a b cap) :
  Calls prog 143 #[.agg p.cells,.slice a b.length cap,.string cur] w fun e w'=>e=.returned (.agg #[.int .i64 (QdS b p.ea p.one cur),.int .i64 (QdS b p.eb p.oth cur)])∧Below w.heap.size w w':=by
 obtain ⟨h0,e0⟩:∃ x,QdS b p.ea p.one cur=x:=⟨_,rfl⟩;obtain ⟨h1,e1⟩:∃ x,QdS b p.eb p.oth cur=x:=⟨_,rfl⟩;rw [e0,e1];have HH:Hid (∀ W en acc,Below w.heap.size w W→Calls prog 132 #[.slice a b.length cap,.int .i64 en,.string acc,.string cur] W fun e w'=>e=.returned (.int .i64 (QdS b en acc cur))∧Below W.heap.size W w'):=fun W en acc hW=>ldHas_any a cap b en acc cur W hlen (h.below hW)
 have E0:Hid (QdS b p.ea p.one cur=h0):=e0;have E1:Hid (QdS b p.eb p.oth cur=h1):=e1;obtain ⟨w1,hw1⟩:∃ w1,w.alloc (.cells p.cells 220)=w1:=⟨_,rfl⟩;obtain ⟨w2,hw2⟩:∃ w2,w1.alloc (.cells #[.int .i64 0,.int .i64 0] 221)=w2:=⟨_,rfl⟩;obtain ⟨G,hG⟩:∃ G,w1.heap.size=G:=⟨_,rfl⟩;have b1:Below w.heap.size w w1:=by rw [← hw1];exact (Below.refl _ w).alloc (Nat.le_refl _) _
 have b2:Below w.heap.size w w2:=by rw [← hw2];exact b1.alloc b1.size _
 have ht:Qbn w2 G 0 0:=by rw [← hw2,← hG];exact Qbn.new _ _ _
 have hGw:w.heap.size≤G:=by rw [← hG];exact b1.size
 have hp1:PrAt w1 w.heap.size 0 p:=by rw [← hw1];exact PrAt.new w p _
 have hs1:w.heap.size<w1.heap.size:=by rw [← hw1];simp
 have hp2:PrAt w2 w.heap.size 0 p:=by rw [← hw2];exact hp1.below ((Below.refl _ w1).alloc (Nat.le_refl _) _) hs1
 have hsg:w1.heap.size=w.heap.size+1:=by rw [← hw1];simp
 have HS:Hid (Calls _ _ _ _ _):=sides_any p w2;have HW1:Hid (w.alloc (.cells p.cells 220)=w1):=hw1;have HW2:Hid (w1.alloc (.cells #[.int .i64 0,.int .i64 0] 221)=w2):=hw2;have HT:Hid (Qbn w2 G 0 0∧Below w.heap.size w w2∧w.heap.size≤G):=⟨ht,b2,hGw⟩;have HG:Hid (w.heap.size+1=G):=by rw [← hG];exact hsg.symm
 clear e0 e1 h hw1 hw2 hG b1 b2 ht hGw hp1 hs1 hsg;obtain ⟨x0,x1,x2,x3,x4⟩:=p;obtain ⟨d0,d1,d2,d3,d4⟩:=hp2;simp only [Pr.cells,Nat.zero_add] at HW1 HS E0 E1 d0 d1 d2 d3 d4 ⊢;go_enter func143,ntmps143
 go_upto_region 1 with fail
 rw [HW1.out,HW2.out];have hT0:=HT.out;go_wp2_with fail;refine HS.out.mono ?_;rintro e w3 ⟨rfl,hb3⟩;have HT3:Hid (Qbn w3 G 0 0∧Below w.heap.size w w3∧w.heap.size≤G):=⟨HT.out.1.below hb3 HT.out.1.lt,HT.out.2.1.trans (hb3.mono HT.out.2.1.size),HT.out.2.2⟩;clear HS HT HW1 HW2 hb3 d0 d1 d2 d3 d4 hT0;have i0:∀ W,(Instr.index 225 (.agg #[.int .i64 x0,.string x2,.int .i64 x1,.string x3]) (.int .i64 0)).run prog W=.ok (.agg #[.int .i64 x0,.string x2]) W:=fun _=>by kernel_rfl
 have i1:∀ W,(Instr.index 225 (.agg #[.int .i64 x0,.string x2,.int .i64 x1,.string x3]) (.int .i64 1)).run prog W=.ok (.agg #[.int .i64 x1,.string x3]) W:=fun _=>by kernel_rfl
 rw [HG.out];have HC1:Hid (∀ W,Qbn W G 0 0∧Below w.heap.size w W→Calls prog 132 #[.slice a b.length cap,.int .i64 x0,.string x2,.string cur] W fun e w'=>e=.returned (.int .i64 h0)∧w'.cell? ⟨G,0,none⟩=some (.int .i64 0)∧w'.frozen? ⟨G,0,none⟩=false∧Hid (Qbn (w'.setCell ⟨G,0,none⟩ (.int .i64 h0)) G h0 0∧Below w.heap.size w (w'.setCell ⟨G,0,none⟩ (.int .i64 h0)))):=fun W hW=>by
  refine (HH.out W x0 x2 hW.2).mono ?_;rintro e w' ⟨rfl,hb⟩;have t:=hW.1.below hb hW.1.lt;refine ⟨by rw [E0.out],t.c0,t.frozen 0,t.set0 h0,(hW.2.trans (hb.mono hW.2.size)).setCell (p:=⟨G,0,none⟩) HT3.out.2.2 _⟩
 have HC2:Hid (∀ W,Qbn W G h0 0∧Below w.heap.size w W→Calls prog 132 #[.slice a b.length cap,.int .i64 x1,.string x3,.string cur] W fun e w'=>e=.returned (.int .i64 h1)∧w'.cell? ⟨G,1,none⟩=some (.int .i64 0)∧w'.frozen? ⟨G,1,none⟩=false∧Hid (Qbn (w'.setCell ⟨G,1,none⟩ (.int .i64 h1)) G h0 h1∧Below w.heap.size w (w'.setCell ⟨G,1,none⟩ (.int .i64 h1)))):=fun W hW=>by
  refine (HH.out W x1 x3 hW.2).mono ?_;rintro e w' ⟨rfl,hb⟩;have t:=hW.1.below hb hW.1.lt;refine ⟨by rw [E1.out],t.c1,t.frozen 1,t.set1 h1,(hW.2.trans (hb.mono hW.2.size)).setCell (p:=⟨G,1,none⟩) HT3.out.2.2 _⟩
 have HA1:Hid (Qbn (w3.alloc (.cells #[.int .i64 x0,.string x2] 224)) G 0 0∧Below w.heap.size w (w3.alloc (.cells #[.int .i64 x0,.string x2] 224))):=⟨HT3.out.1.below ((Below.refl _ w3).alloc (Nat.le_refl _) _) HT3.out.1.lt,HT3.out.2.1.alloc HT3.out.2.1.size _⟩;have HA2:Hid (∀ W,Qbn W G h0 0∧Below w.heap.size w W→Qbn (W.alloc (.cells #[.int .i64 x1,.string x3] 224)) G h0 0∧Below w.heap.size w (W.alloc (.cells #[.int .i64 x1,.string x3] 224))):=fun W hW=>⟨hW.1.below ((Below.refl _ W).alloc (Nat.le_refl _) _) hW.1.lt,hW.2.alloc hW.2.size _⟩
 clear HH E0 E1 HT3;go_wp2;refine wp_loop_rounds 3 ?_;rw [rounds_succ];go_wp2_with fail;refine (HC1.out _ HA1.out).mono ?_;rintro e w5 ⟨rfl,k0,k1,H5⟩;clear HC1 HA1;go_wp2_with fail;have HA3:Hid _:=HA2.out _ H5.out;clear HA2 H5 k0 k1;generalize w5.setCell ⟨G,0,none⟩ (.int .i64 h0)=w6 at *
 rw [rounds_succ];go_wp2_with fail;refine (HC2.out _ HA3.out).mono ?_;rintro e w7 ⟨rfl,k0,k1,H7⟩;clear HC2 HA3;go_wp2_with fail;clear k0 k1;generalize w7.setCell ⟨G,1,none⟩ (.int .i64 h1)=w8 at *
 have q0:=H7.out.1.c0;have q1:=H7.out.1.c1;have f0:=H7.out.1.frozen 0;have f1:=H7.out.1.frozen 1;rw [rounds_succ];go_wp2;have tF:=(H7.out.1.set0 h0).set1 h1;have t0:=tF.c0;have t1:=tF.c1;have hGw:w.heap.size≤G:=by have:=HG.out;omega
 refine bodyPost_ret (v:=.agg #[.int .i64 h0,.int .i64 h1]) (by simp [results,Tryz.results143,go_sem,t0,t1]) rfl ?_
 exact ⟨rfl,(H7.out.2.setCell (p:=⟨G,0,none⟩) hGw _).setCell (p:=⟨G,1,none⟩) hGw _⟩
end
section
open Go.RowKit Go.Lib Go.Proofs.Tryz
structure Sd where
 ent:Int
 acc:ByteArray
def sdB (s x:Sd):Bool:=decide (s.ent=x.ent) && decide (s.acc=x.acc)
end
section
open Go.RowKit Go.Lib Go.Proofs.Tryz
end
section
open Go.RowKit Go.Lib Go.Proofs.Tryz
def sidesL (l:List Pr):List Sd:=l.flatMap fun p=>[⟨p.ea,p.one⟩,⟨p.eb,p.oth⟩]
def Qfw (c:List Ac) (l:List Pr) (k:Nat):Int:=
 if prBad c (l.getD k pr0)≠0 then prBad c (l.getD k pr0)
 else if ((sidesL (l.take k)).any (sdB ⟨(l.getD k pr0).ea,(l.getD k pr0).one⟩) || (sidesL (l.take k)).any (sdB ⟨(l.getD k pr0).eb,(l.getD k pr0).oth⟩))=true then 8 else 0
def Qcw (c:List Ac) (l:List Pr):Int:=
 if QaC c≠0 then QaC c else if 20<l.length then 4 else Qad (Qfw c l) l.length
end
section
open Go.RowKit Go.Lib Math Go.Proofs.Tryz
def lfE (l:List Pr) (b:List Bl) (cur:ByteArray):Int:=if 20<l.length then 4 else if chk b≠0 then chk b else if Qat cur=true then 0 else 2
def lfV (b:List Bl) (cur:ByteArray) (p:Pr):Int:=QdS b p.ea p.one cur+QdS b p.eb p.oth cur
def QfM (l:List Pr) (b:List Bl) (cur:ByteArray) (w:World) (e:Ending) (w':World):Prop:=
 Below w.heap.size w w'∧(lfE l b cur≠0→e=.returned (.tuple #[.slice none 0 0,enE (lfE l b cur)]))∧(lfE l b cur=0→∃ g,e=.returned (.tuple #[.slice (some ⟨g,0,none⟩) l.length l.length,.nilIface])∧w.heap.size≤g∧Qee w' g (l.map (lfV b cur)))
theorem getB_bd {b:List Bl} (h:Fine b) (en:Int) (acc cur:ByteArray):-1000000000000000000≤QdS b en acc cur∧QdS b en acc cur≤1000000000000000000:=by
 unfold QdS
 cases hf:b.find? (hasB en acc cur) with
 | none=>simp
 | some x=>exact h.amt x (List.mem_of_find?_eq_some hf)
theorem lfE_ok {l:List Pr} {b:List Bl} {cur:ByteArray}:lfE l b cur=0↔l.length≤20∧Fine b∧Qat cur=true:=by
 unfold lfE;by_cases c1:20<l.length
 ·rw [if_pos c1];constructor
  ·intro h;cases h
  ·rintro ⟨h,_⟩;omega
 rw [if_neg c1];by_cases c2:chk b≠0
 ·rw [if_pos c2];constructor
  ·intro h;exact absurd h c2
  ·rintro ⟨_,h,_⟩;exact absurd (Qd7.2 h) c2
 rw [if_neg c2];have c2':=Qd7.1 (Decidable.of_not_not c2);by_cases c3:Qat cur=true
 ·rw [if_pos c3];exact ⟨fun _=>⟨by omega,c2',c3⟩,fun _=>rfl⟩
 ·rw [if_neg c3];constructor
  ·intro h;cases h
  ·rintro ⟨_,_,h⟩;exact absurd h c3
theorem pr_int:(prog.info? 3).map (fun i=>(i.zero,i.size,i.bytes))=some (some (.int .i64 0),1,8):=by kernel_rfl
end
section
open Go.RowKit Go.Lib Math Go.Proofs.Tryz
def mvL (n:Int) (cur code dif:ByteArray):List Ln:=[⟨code,cur,-n⟩,⟨dif,cur,n⟩]
def pdA (l:List Pr) (m:Nat):Pr:=l.getD (m / 2) pr0
def psd (l:List Pr) (m:Nat):Sd:=if m % 2=0 then ⟨(pdA l m).ea,(pdA l m).one⟩ else ⟨(pdA l m).eb,(pdA l m).oth⟩
def phas (b:List Bl) (cur:ByteArray) (l:List Pr) (m:Nat):Int:=QdS b (psd l m).ent (psd l m).acc cur
def tailP (j:Nat):ByteArray:=if j=0 then ⟨#[97]⟩ else ⟨#[98]⟩
def refP (i j:Nat):ByteArray:=((⟨#[112,97,105,114,45]⟩:ByteArray)++digS i)++tailP j
def peE (b:List Bl) (cur:ByteArray) (pe:Int) (l:List Pr) (m:Nat):List Ep:=
 if phas b cur l m=0 then [] else [⟨refP (m / 2) (m % 2),(psd l m).ent,pe,mvL (phas b cur l m) cur (psd l m).acc (pdA l m).dif⟩]
def peTo (b:List Bl) (cur:ByteArray) (pe:Int) (l:List Pr) (m:Nat):List Ep:=(List.range m).flatMap (peE b cur pe l)
def peAt (b:List Bl) (cur:ByteArray) (l:List Pr) (m:Nat):Int:=if QaJ (phas b cur l m)=true then 0 else 1
def Qd8 (c:List Ac) (l:List Pr) (b:List Bl) (cur:ByteArray) (pe:Int):Int:=
 if Qcw c l≠0 then Qcw c l else if lfE l b cur≠0 then lfE l b cur else if Qav pe 120=false then 1 else Qad (peAt b cur l) (l.length*2)
def PeEnd (c:List Ac) (l:List Pr) (b:List Bl) (cur:ByteArray) (pe:Int) (w:World) (e:Ending) (w':World):Prop:=
 Below w.heap.size w w'∧(Qd8 c l b cur pe≠0→e=.returned (.tuple #[.slice none 0 0,chE (Qd8 c l b cur pe)])) ∧
  (Qd8 c l b cur pe=0→∃ v L,e=.returned (.tuple #[v,.nilIface])∧Qb3 w' w.heap.size v L∧L.map Je.ep=peTo b cur pe l (l.length*2)∧L.length≤40)
theorem prsBad_ok {c:List Ac} {l:List Pr} (h:Qcw c l=0):QaC c=0∧l.length≤20∧∀ k,k<l.length→Qfw c l k=0:=by
 unfold Qcw at h;split at h
 ·contradiction
 ·rename_i h1;split at h
  ·omega
  ·exact ⟨Decidable.of_not_not h1,by omega,QaH h⟩
end
end Go.Proofs.YtjifbbdkpanagaaGreatDoor
