/-
  Part of a proof (see the last text).
-/
import Derived.Test.YtibhgngboljhfaaGreatDoorZp18
set_option linter.unusedVariables false
set_option linter.unusedSimpArgs false
set_option maxRecDepth 100000
namespace Go.Proofs.YtibhgngboljhfaaGreatDoor
section
open Go.RowKit Go.Lib Go.Proofs.Tryz
set_option maxHeartbeats 2000000 in
theorem Qin (p:Pr) (w:World) :
  Calls prog 89 #[.agg p.cells] w fun e w'=>e=.returned (.agg #[.int .i64 p.ea,.string p.one,.int .i64 p.eb,.string p.oth])∧Below w.heap.size w w':=by
 have b0:Below w.heap.size w (w.alloc (.cells p.cells 105)):=(Below.refl _ w).alloc (Nat.le_refl _) _;obtain ⟨x0,x1,x2,x3,x4⟩:=p;simp only [Pr.cells] at b0 ⊢;go_enter func89,ntmps89
 go_wp2;refine bodyPost_ret (v:=.agg #[.int .i64 x0,.string x2,.int .i64 x1,.string x3]) (by simp [results,Tryz.results89,go_sem]) rfl ?_
 exact ⟨rfl,b0.alloc b0.size _⟩
def Qbi (w:World) (g:Nat) (x y:Int):Prop:=w.heap[g]? = some (.cells #[.int .i64 x,.int .i64 y] 185 (0,0))
theorem Qbi.lt {w:World} {g:Nat} {x y:Int} (h:Qbi w g x y):g<w.heap.size:=(Array.getElem?_eq_some_iff.1 h).1
theorem Qbi.below {w w':World} {g n:Nat} {x y:Int} (h:Qbi w g x y) (hb:Below n w w') (hg:g<n):Qbi w' g x y:=(hb.block g hg).trans h
theorem Qbi.c0 {w:World} {g:Nat} {x y:Int} (h:Qbi w g x y):w.cell? ⟨g,0,none⟩=some (.int .i64 x):=by unfold Qbi at h;simp [World.cell?,h]
theorem Qbi.c1 {w:World} {g:Nat} {x y:Int} (h:Qbi w g x y):w.cell? ⟨g,1,none⟩=some (.int .i64 y):=by unfold Qbi at h;simp [World.cell?,h]
theorem Qbi.frozen {w:World} {g:Nat} {x y:Int} (h:Qbi w g x y) (i:Nat):w.frozen? ⟨g,i,none⟩=false:=by unfold Qbi at h;simp [World.frozen?,h]
theorem Qbi.set0 {w:World} {g:Nat} {x y:Int} (h:Qbi w g x y) (z:Int):Qbi (w.setCell ⟨g,0,none⟩ (.int .i64 z)) g z y:=by
 unfold Qbi at *
 rw [setCell_eq_setRow w g 0 _ 185 (0,0) _ h,setRow_heap w g _ _ 185 (0,0) h];simp
theorem Qbi.set1 {w:World} {g:Nat} {x y:Int} (h:Qbi w g x y) (z:Int):Qbi (w.setCell ⟨g,1,none⟩ (.int .i64 z)) g x z:=by
 unfold Qbi at *
 rw [setCell_eq_setRow w g 1 _ 185 (0,0) _ h,setRow_heap w g _ _ 185 (0,0) h];simp
theorem Qbi.new (w:World) (x y:Int):Qbi (w.alloc (.cells #[.int .i64 x,.int .i64 y] 185)) w.heap.size x y:=by
 unfold Qbi World.alloc;simp only [Array.getElem?_push_size]
set_option maxHeartbeats 4000000 in
theorem had_any (a:Option Addr) (cap:Nat) (p:Pr) (b:List Bl) (cur:ByteArray) (w:World) (hlen:(b.length:Int)≤9223372036854775807) (h:Qcp w a b cap) :
  Calls prog 127 #[.agg p.cells,.slice a b.length cap,.string cur] w fun e w'=>e=.returned (.agg #[.int .i64 (Qca b p.ea p.one cur),.int .i64 (Qca b p.eb p.oth cur)])∧Below w.heap.size w w':=by
 obtain ⟨h0,e0⟩:∃ x,Qca b p.ea p.one cur=x:=⟨_,rfl⟩;obtain ⟨h1,e1⟩:∃ x,Qca b p.eb p.oth cur=x:=⟨_,rfl⟩;rw [e0,e1];have HH:Hid (∀ W en acc,Below w.heap.size w W→Calls prog 117 #[.slice a b.length cap,.int .i64 en,.string acc,.string cur] W fun e w'=>e=.returned (.int .i64 (Qca b en acc cur))∧Below W.heap.size W w'):=fun W en acc hW=>ldHas_any a cap b en acc cur W hlen (h.below hW)
 have E0:Hid (Qca b p.ea p.one cur=h0):=e0;have E1:Hid (Qca b p.eb p.oth cur=h1):=e1;obtain ⟨w1,hw1⟩:∃ w1,w.alloc (.cells p.cells 105)=w1:=⟨_,rfl⟩;obtain ⟨w2,hw2⟩:∃ w2,w1.alloc (.cells #[.int .i64 0,.int .i64 0] 185)=w2:=⟨_,rfl⟩;obtain ⟨G,hG⟩:∃ G,w1.heap.size=G:=⟨_,rfl⟩;have b1:Below w.heap.size w w1:=by rw [← hw1];exact (Below.refl _ w).alloc (Nat.le_refl _) _
 have b2:Below w.heap.size w w2:=by rw [← hw2];exact b1.alloc b1.size _
 have ht:Qbi w2 G 0 0:=by rw [← hw2,← hG];exact Qbi.new _ _ _
 have hGw:w.heap.size≤G:=by rw [← hG];exact b1.size
 have hp1:Qhd w1 w.heap.size 0 p:=by rw [← hw1];exact Qhd.new w p _
 have hs1:w.heap.size<w1.heap.size:=by rw [← hw1];simp
 have hp2:Qhd w2 w.heap.size 0 p:=by rw [← hw2];exact hp1.below ((Below.refl _ w1).alloc (Nat.le_refl _) _) hs1
 have hsg:w1.heap.size=w.heap.size+1:=by rw [← hw1];simp
 have HS:Hid (Calls _ _ _ _ _):=Qin p w2;have HW1:Hid (w.alloc (.cells p.cells 105)=w1):=hw1;have HW2:Hid (w1.alloc (.cells #[.int .i64 0,.int .i64 0] 185)=w2):=hw2;have HT:Hid (Qbi w2 G 0 0∧Below w.heap.size w w2∧w.heap.size≤G):=⟨ht,b2,hGw⟩;have HG:Hid (w.heap.size+1=G):=by rw [← hG];exact hsg.symm
 clear e0 e1 h hw1 hw2 hG b1 b2 ht hGw hp1 hs1 hsg;obtain ⟨x0,x1,x2,x3,x4⟩:=p;obtain ⟨d0,d1,d2,d3,d4⟩:=hp2;simp only [Pr.cells,Nat.zero_add] at HW1 HS E0 E1 d0 d1 d2 d3 d4 ⊢;go_enter func127,ntmps127
 go_upto_region 1 with fail
 rw [HW1.out,HW2.out];have hT0:=HT.out;go_wp2_with fail;refine HS.out.mono ?_;rintro e w3 ⟨rfl,hb3⟩;have HT3:Hid (Qbi w3 G 0 0∧Below w.heap.size w w3∧w.heap.size≤G):=⟨HT.out.1.below hb3 HT.out.1.lt,HT.out.2.1.trans (hb3.mono HT.out.2.1.size),HT.out.2.2⟩;clear HS HT HW1 HW2 hb3 d0 d1 d2 d3 d4 hT0;have i0:∀ W,(Instr.index 142 (.agg #[.int .i64 x0,.string x2,.int .i64 x1,.string x3]) (.int .i64 0)).run prog W=.ok (.agg #[.int .i64 x0,.string x2]) W:=fun _=>by kernel_rfl
 have i1:∀ W,(Instr.index 142 (.agg #[.int .i64 x0,.string x2,.int .i64 x1,.string x3]) (.int .i64 1)).run prog W=.ok (.agg #[.int .i64 x1,.string x3]) W:=fun _=>by kernel_rfl
 rw [HG.out];have HC1:Hid (∀ W,Qbi W G 0 0∧Below w.heap.size w W→Calls prog 117 #[.slice a b.length cap,.int .i64 x0,.string x2,.string cur] W fun e w'=>e=.returned (.int .i64 h0)∧w'.cell? ⟨G,0,none⟩=some (.int .i64 0)∧w'.frozen? ⟨G,0,none⟩=false∧Hid (Qbi (w'.setCell ⟨G,0,none⟩ (.int .i64 h0)) G h0 0∧Below w.heap.size w (w'.setCell ⟨G,0,none⟩ (.int .i64 h0)))):=fun W hW=>by
  refine (HH.out W x0 x2 hW.2).mono ?_;rintro e w' ⟨rfl,hb⟩;have t:=hW.1.below hb hW.1.lt;refine ⟨by rw [E0.out],t.c0,t.frozen 0,t.set0 h0,(hW.2.trans (hb.mono hW.2.size)).setCell (p:=⟨G,0,none⟩) HT3.out.2.2 _⟩
 have HC2:Hid (∀ W,Qbi W G h0 0∧Below w.heap.size w W→Calls prog 117 #[.slice a b.length cap,.int .i64 x1,.string x3,.string cur] W fun e w'=>e=.returned (.int .i64 h1)∧w'.cell? ⟨G,1,none⟩=some (.int .i64 0)∧w'.frozen? ⟨G,1,none⟩=false∧Hid (Qbi (w'.setCell ⟨G,1,none⟩ (.int .i64 h1)) G h0 h1∧Below w.heap.size w (w'.setCell ⟨G,1,none⟩ (.int .i64 h1)))):=fun W hW=>by
  refine (HH.out W x1 x3 hW.2).mono ?_;rintro e w' ⟨rfl,hb⟩;have t:=hW.1.below hb hW.1.lt;refine ⟨by rw [E1.out],t.c1,t.frozen 1,t.set1 h1,(hW.2.trans (hb.mono hW.2.size)).setCell (p:=⟨G,1,none⟩) HT3.out.2.2 _⟩
 have HA1:Hid (Qbi (w3.alloc (.cells #[.int .i64 x0,.string x2] 141)) G 0 0∧Below w.heap.size w (w3.alloc (.cells #[.int .i64 x0,.string x2] 141))):=⟨HT3.out.1.below ((Below.refl _ w3).alloc (Nat.le_refl _) _) HT3.out.1.lt,HT3.out.2.1.alloc HT3.out.2.1.size _⟩;have HA2:Hid (∀ W,Qbi W G h0 0∧Below w.heap.size w W→Qbi (W.alloc (.cells #[.int .i64 x1,.string x3] 141)) G h0 0∧Below w.heap.size w (W.alloc (.cells #[.int .i64 x1,.string x3] 141))):=fun W hW=>⟨hW.1.below ((Below.refl _ W).alloc (Nat.le_refl _) _) hW.1.lt,hW.2.alloc hW.2.size _⟩
 clear HH E0 E1 HT3;go_wp2;refine wp_loop_rounds 3 ?_;rw [rounds_succ];go_wp2_with fail;refine (HC1.out _ HA1.out).mono ?_;rintro e w5 ⟨rfl,k0,k1,H5⟩;clear HC1 HA1;go_wp2_with fail;have HA3:Hid _:=HA2.out _ H5.out;clear HA2 H5 k0 k1;generalize w5.setCell ⟨G,0,none⟩ (.int .i64 h0)=w6 at *
 rw [rounds_succ];go_wp2_with fail;refine (HC2.out _ HA3.out).mono ?_;rintro e w7 ⟨rfl,k0,k1,H7⟩;clear HC2 HA3;go_wp2_with fail;clear k0 k1;generalize w7.setCell ⟨G,1,none⟩ (.int .i64 h1)=w8 at *
 have q0:=H7.out.1.c0;have q1:=H7.out.1.c1;have f0:=H7.out.1.frozen 0;have f1:=H7.out.1.frozen 1;rw [rounds_succ];go_wp2;have tF:=(H7.out.1.set0 h0).set1 h1;have t0:=tF.c0;have t1:=tF.c1;have hGw:w.heap.size≤G:=by have:=HG.out;omega
 refine bodyPost_ret (v:=.agg #[.int .i64 h0,.int .i64 h1]) (by simp [results,Tryz.results127,go_sem,t0,t1]) rfl ?_
 exact ⟨rfl,(H7.out.2.setCell (p:=⟨G,0,none⟩) hGw _).setCell (p:=⟨G,1,none⟩) hGw _⟩
end
section
open Go.RowKit Go.Lib Go.Proofs.Tryz
structure Sd where
 ent:Int
 acc:ByteArray
def Sd.cells (x:Sd):Array Value:=#[.int .i64 x.ent,.string x.acc]
def sd0:Sd:=⟨0,ByteArray.empty⟩
structure SdAt (w:World) (b off:Nat) (x:Sd):Prop where
 c0:w.cell? ⟨b,off,none⟩=some (.int .i64 x.ent)
 c1:w.cell? ⟨b,off+1,none⟩=some (.string x.acc)
theorem SdAt.below {w w':World} {b off n:Nat} {a:Sd} (h:SdAt w b off a) (hb:Below n w w') (hn:b<n):SdAt w' b off a:=
 ⟨(hb.cell (p:=⟨b,off,none⟩) hn).trans h.c0,(hb.cell (p:=⟨b,off+1,none⟩) hn).trans h.c1⟩
theorem SdAt.new (w:World) (a:Sd) (t:TypeId):SdAt (w.alloc (.cells a.cells t)) w.heap.size 0 a:=
 ⟨by simp [Sd.cells],by simp [Sd.cells]⟩
def SdsAt (w:World) (b off:Nat) (l:List Sd):Prop:=∀ k,k<l.length→SdAt w b (off+k*2) (l.getD k sd0)
structure IsSd (w:World) (a:Option Addr) (l:List Sd) (cap:Nat):Prop where
 cap:l.length≤cap
 lies:l=[]∨∃ b off,a=some ⟨b,off,none⟩∧b<w.heap.size∧SdsAt w b off l
theorem IsSd.below {w w':World} {a:Option Addr} {l:List Sd} {cap:Nat} (h:IsSd w a l cap) (hb:Below w.heap.size w w'):IsSd w' a l cap:=by
 refine ⟨h.cap,?_⟩;rcases h.lies with h | ⟨b,off,e,hlt,hc⟩
 ·exact .inl h
 ·exact .inr ⟨b,off,e,by have:=hb.size;omega,fun k hk=>(hc k hk).below hb hlt⟩
theorem sds_drop (l:List Sd) (k:Nat) (h:k<l.length):l.drop k=l.getD k sd0 :: l.drop (k+1):=by
 rw [List.drop_eq_getElem_cons h,List.getD_eq_getElem?_getD,List.getElem?_eq_getElem h];rfl
def QgB (l:List Sd):List Value:=l.flatMap fun x=>x.cells.toList
theorem Sd.cells_length (x:Sd):x.cells.toList.length=2:=rfl
theorem sdRow_append (l m:List Sd):QgB (l++m)=QgB l++QgB m:=by simp [QgB]
theorem sdRow_get:∀ (l:List Sd) (k j:Nat),k<l.length→j<2→(QgB l)[k*2+j]? = (l.getD k sd0).cells.toList[j]?
 | [],_,_,h,_=>absurd h (by simp)
 | x :: l,0,j,_,hj=>by
  simp only [QgB,List.flatMap_cons,Nat.zero_mul,Nat.zero_add,List.getD_cons_zero];rw [List.getElem?_append_left (by rw [Sd.cells_length];exact hj)]
 | x :: l,k+1,j,h,hj=>by
  have ih:=sdRow_get l k j (by simpa using h) hj
  simp only [QgB,List.flatMap_cons,List.getD_cons_succ] at ih ⊢;rw [List.getElem?_append_right (by rw [Sd.cells_length];omega),Sd.cells_length,← ih]
  congr 1;omega
def Qey (w:World) (n:Nat) (v:Value) (l:List Sd):Prop:=w.ownsRow n 141 2 v l.length (QgB l)
theorem Qey.nil (w:World) (n:Nat):Qey w n (.slice none 0 0) []:=World.ownsRow_nil _ _ _ _
theorem Qey.isSd {W:World} {n0:Nat} {v:Value} {l:List Sd} (h:Qey W n0 v l) :
  ∃ a cap,v=.slice a l.length cap∧IsSd W a l cap:=by
 obtain ⟨hlen,⟨rfl,h0⟩ | ⟨g,cap,cur,rfl,hb,hg,hc,hm,hs,ht⟩⟩:=h
 ·have:l=[]:=List.eq_nil_of_length_eq_zero h0
  subst this;exact ⟨none,0,rfl,Nat.le_refl _,.inl rfl⟩
 ·refine ⟨_,cap,rfl,hc,.inr ⟨g,0,rfl,(Array.getElem?_eq_some_iff.1 hg).1,?_⟩⟩;intro k hk;have C:∀ j,j<2→W.cell? ⟨g,0+k*2+j,none⟩=(l.getD k sd0).cells.toList[j]?:=fun j hj=>by
   have e1:(QgB l)[k*2+j]? = cur[k*2+j]?:=by
    rw [← ht,List.getElem?_take,if_pos (by omega)]
    simp
   rw [← sdRow_get l k j hk hj,e1];simp [World.cell?,hg]
  exact ⟨C 0 (by omega),C 1 (by omega)⟩
theorem Qey.below {w w':World} {n:Nat} {v:Value} {l:List Sd} (h:Qey w n v l) (hb:Below w.heap.size w w'):Qey w' n v l:=by
 rcases h.2 with ⟨hv,hn⟩ | ⟨g1,c1,cur,hv,hb1,hh,r⟩
 ·exact ⟨h.1,.inl ⟨hv,hn⟩⟩
 ·exact ⟨h.1,.inr ⟨g1,c1,cur,hv,hb1,(hb.block g1 (Array.getElem?_eq_some_iff.1 hh).1).trans hh,r⟩⟩
theorem Qey.own {w:World} {n:Nat} {v:Value} {xs:List Sd} (h:Qey w n v xs):∀ j,v.ownBlock=some j→n≤j:=fun j ej=>by
 rcases h.2 with ⟨rfl,_⟩ | ⟨g1,c1,cur,rfl,hg1,_⟩
 ·cases ej
 ·cases ej;exact hg1
theorem sd_info:(prog.info? 141).map (fun i=>(i.zero,i.size,i.bytes))=some (some (.agg #[.int .i64 0,.string ByteArray.empty]),2,24):=by kernel_rfl
def sdB (s x:Sd):Bool:=decide (s.ent=x.ent) && decide (s.acc=x.acc)
def Qdy (s:Sd):Nat→List Sd→Int
 | _,[]=>-1
 | k,x :: l=>if sdB s x=true then (k:Int) else Qdy s (k+1) l
theorem Qi5 (s:Sd):∀ (l:List Sd) (k:Nat),decide (0≤Qdy s k l)=l.any (sdB s)
 | [],k=>by simp [Qdy]
 | x :: l,k=>by
  rw [Qdy];cases h:sdB s x
  ·rw [if_neg (by simp),Qi5 s l (k+1)];simp [h]
  ·rw [if_pos rfl];simp [h]
theorem sd_struct:prog.underlying 141=some (.struct (prog.fieldsOf 141)):=by kernel_rfl
theorem sd_stood:prog.stoodInHeld 141=false:=by kernel_rfl
theorem sd_eql (x0 y0:Int) (x1 y1:ByteArray) (W:World):(binOp .eql 141 (.agg #[.int .i64 x0,.string x1]) (.agg #[.int .i64 y0,.string y1])).run prog W=.ok (.bool (sdB ⟨x0,x1⟩ ⟨y0,y1⟩)) W:=by
 rw [run_eql_struct,show (10000:Nat)=9998+1+1 from rfl,run_equalIn_agg W (9998+1) 141 _ _ sd_struct sd_stood]
 unfold Program.fieldsOf;rw [underlying141];simp [Op.eqFields,part,go_sem,run_equalIn_string W 9998 9 _ _ underlying9,run_equalIn_int W 9998 3 .i64 .i64 _ _ underlying3,Tryz.isAgg9,Tryz.isAgg3];unfold sdB;by_cases h0:x0=y0
 ·by_cases h1:x1=y1
  ·simp [h0,h1]
  ·have h2:¬ x1.toList=y1.toList:=fun e=>h1 (QbW e)
   simp [h0,h1,h2]
 ·simp [h0]
end
section
open Go.RowKit Go.Lib Go.Proofs.Tryz
set_option maxHeartbeats 2000000 in
theorem sdIndex_some (b off cap:Nat) (fs:List Sd) (s:Sd) (w:World) (hlen:fs.length≤1000) (hb:b<w.heap.size) (hc:SdsAt w b off fs) :
  Calls prog 139 #[.slice (some ⟨b,off,none⟩) fs.length cap,.agg s.cells] w fun e w'=>e=.returned (.int .i64 (Qdy s 0 fs))∧Below w.heap.size w w':=by
 obtain ⟨w0,hw0⟩:∃ w0,w.alloc (.cells s.cells 141)=w0:=⟨_,rfl⟩;have B0:Below w.heap.size w w0:=by rw [← hw0];exact (Below.refl _ w).alloc (Nat.le_refl _) _
 have hs0:w.heap.size<w0.heap.size:=by rw [← hw0];simp
 have HA:Hid (∀ W,Below w0.heap.size w0 W→SdAt W w.heap.size 0 s∧Below w.heap.size w W):=fun W hW=>
  ⟨(by rw [← hw0];exact SdAt.new w s _:SdAt w0 w.heap.size 0 s).below hW hs0,B0.trans (hW.mono (by omega))⟩
 have HC:Hid (∀ k W,k<fs.length→Below w0.heap.size w0 W→SdAt W b (off+k*2) (fs.getD k sd0)):=fun k W hk hW=>((hc k hk).below B0 hb).below hW (by omega)
 have Hlen:(fs.length:Int)≤1000:=by omega
 obtain ⟨res,hres⟩:∃ res,Qdy s 0 fs=res:=⟨_,rfl⟩;have Hres:Hid (Qdy s 0 fs=res):=hres;rw [hres];have HW0:Hid (w.alloc (.cells s.cells 141)=w0):=hw0;clear hres hc hw0 B0 hs0 hb;obtain ⟨s0,s1⟩:=s;simp only [Sd.cells] at HW0 ⊢;go_enter func139,ntmps139
 go_upto_region 1 with fail
 rw [HW0.out];clear HW0;go_wp2;go_loopw [8] (fun i wr=>∃ k:Nat,k≤fs.length∧i=.int .i64 k∧Hid (Qdy ⟨s0,s1⟩ k (fs.drop k)=res)∧Hid (Below w0.heap.size w0 wr)) (fun i _=>fs.length - (RowKit.intOf i).toNat)
 case atStart=>exact ⟨0,Nat.zero_le _,rfl,Hres.out,Below.refl _ _⟩
 case round=>
  obtain ⟨k,hk,rfl,H,HB⟩:=hrel;by_cases hlt:k<fs.length
  ·have hn:=HC.out k wr hlt HB.out;obtain ⟨⟨f0,f1⟩,hbw⟩:=HA.out wr HB.out;have E:Hid ((if sdB ⟨s0,s1⟩ (fs.getD k sd0)=true then (k:Int) else Qdy ⟨s0,s1⟩ (k+1) (fs.drop (k+1)))=res):=by
    have:=H.out
    rw [sds_drop fs k hlt] at this;exact this
   clear H;generalize fs.getD k sd0=x at *
   obtain ⟨x0,x1⟩:=x;obtain ⟨c0,c1⟩:=hn;simp only [Nat.zero_add] at c0 c1 f0 f1;have hq:=sd_eql s0 x0 s1 x1;have i0:(0:Int)≤k:=by omega
   have i1:(k:Int)<fs.length:=by omega
   have HB2:Hid (∀ n,Below w0.heap.size w0 (wr.drewN n)∧Below w.heap.size w (wr.drewN n)):=fun n=>⟨Qao HB.out n,Qao hbw n⟩
   clear HB hbw;cases hx:sdB ⟨s0,s1⟩ ⟨x0,x1⟩
   ·rw [hx] at hq;have HN:Hid (Qdy ⟨s0,s1⟩ (k+1) (fs.drop (k+1))=res):=by
     have:=E.out;rw [if_neg (by rw [hx];simp)] at this;exact this
    clear E hx;go_wp2_with fail;go_quiet (fail)
    rename Nat=>nq
    have HB3:Hid _:=HB2.out nq;clear HB2 c0 c1 f0 f1 hq;go_wp2;go_roundw
    case rel=>exact ⟨k+1,by omega,by go_num,HN,HB3.out.1⟩
    case measure=>simp [RowKit.intOf];omega
   ·rw [hx] at hq;have er:res=k:=by rw [← E.out,if_pos hx]
    subst er;clear E hx;go_wp2_with fail;go_quiet (fail)
    rename Nat=>nq
    have HB3:Hid _:=HB2.out nq;clear HB2 c0 c1 f0 f1 hq;go_wp2;go_ret;exact ⟨rfl,HB3.out.2⟩
  ·have hk2:k=fs.length:=by omega
   subst hk2;have er:res = -1:=by rw [← H.out,List.drop_length];rfl
   subst er;have hbw:=(HA.out wr HB.out).2;go_wp2;go_ret;exact ⟨rfl,hbw⟩
theorem sdIndex_none (a:Option Addr) (cap:Nat) (s:Sd) (w:World) :
  Calls prog 139 #[.slice a 0 cap,.agg s.cells] w fun e w'=>e=.returned (.int .i64 (-1))∧Below w.heap.size w w':=by
 have B0:Below w.heap.size w (w.alloc (.cells s.cells 141)):=(Below.refl _ w).alloc (Nat.le_refl _) _;obtain ⟨s0,s1⟩:=s;simp only [Sd.cells] at B0 ⊢;go_enter func139,ntmps139
 go_wp2;refine wp_loop_rounds 1 ?_;rw [rounds_succ];go_wp2;go_ret;exact ⟨rfl,B0⟩
theorem QiO (a:Option Addr) (cap:Nat) (fs:List Sd) (s:Sd) (w:World) (hlen:fs.length≤1000) (h:IsSd w a fs cap) :
  Calls prog 90 #[.slice a fs.length cap,.agg s.cells] w fun e w'=>e=.returned (.bool (fs.any (sdB s)))∧Below w.heap.size w w':=by
 rw [← Qi5 s fs 0];obtain ⟨w0,hw0⟩:∃ w0,w.alloc (.cells s.cells 141)=w0:=⟨_,rfl⟩;have B0:Below w.heap.size w w0:=by rw [← hw0];exact (Below.refl _ w).alloc (Nat.le_refl _) _
 have hx:SdAt w0 w.heap.size 0 s:=by rw [← hw0];exact SdAt.new w s _
 have HI:Hid (Calls prog 139 #[.slice a fs.length cap,.agg s.cells] w0 fun e w'=>e=.returned (.int .i64 (Qdy s 0 fs))∧Below w0.heap.size w0 w'):=by
  rcases (h.below B0).lies with rfl | ⟨b,off,rfl,hlt,hc⟩
  ·exact sdIndex_none a cap s w0
  ·exact sdIndex_some b off cap fs s w0 hlen hlt hc
 have HW0:Hid (w.alloc (.cells s.cells 141)=w0):=hw0;have HB0:Hid (Below w.heap.size w w0):=B0;clear h hw0 B0;generalize Qdy s 0 fs=z at *
 obtain ⟨s0,s1⟩:=s;obtain ⟨d0,d1⟩:=hx;simp only [Sd.cells,Nat.zero_add] at HW0 HI d0 d1 ⊢;go_enter func90,ntmps90
 go_upto_region 1 with fail
 rw [HW0.out];clear HW0;go_wp2_with fail;refine HI.out.mono ?_;rintro e w1 ⟨rfl,hb1⟩;have HB1:Hid (Below w.heap.size w w1):=HB0.out.trans (hb1.mono HB0.out.size);clear HI hb1 HB0 d0 d1;go_wp2;go_ret;exact ⟨rfl,HB1.out⟩
end
section
open Go.RowKit Go.Lib Go.Proofs.Tryz
def QbP (l:List Pr):List Sd:=l.flatMap fun p=>[⟨p.ea,p.one⟩,⟨p.eb,p.oth⟩]
theorem QiU:∀ l:List Pr,(QbP l).length=l.length*2
 | []=>rfl
 | x :: l=>by
  have:=QiU l
  unfold QbP at *
  simp only [List.flatMap_cons,List.length_append,this,List.length_cons,List.length_nil];omega
theorem sidesL_next (l:List Pr) (k:Nat) (h:k<l.length):QbP (l.take (k+1))=QbP (l.take k)++[⟨(l.getD k pr0).ea,(l.getD k pr0).one⟩,⟨(l.getD k pr0).eb,(l.getD k pr0).oth⟩]:=by
 rw [prs_take l k h];unfold QbP;rw [List.flatMap_append];rfl
def QbT (c:List Ac) (l:List Pr) (k:Nat):Int:=
 if QfI c (l.getD k pr0)≠0 then QfI c (l.getD k pr0)
 else if ((QbP (l.take k)).any (sdB ⟨(l.getD k pr0).ea,(l.getD k pr0).one⟩) || (QbP (l.take k)).any (sdB ⟨(l.getD k pr0).eb,(l.getD k pr0).oth⟩))=true then 8 else 0
def QaX (c:List Ac) (l:List Pr):Int:=
 if Qat c≠0 then Qat c else if 20<l.length then 4 else Qac (QbT c l) l.length
theorem QhD (w:World) (u0 u1 u2 u3:Value) (t:TypeId):(w.alloc (.cells #[u0,u1,u2,u3] t)).heap[w.heap.size]? = some (.cells #[u0,u1,u2,u3] t (0,0)):=by unfold World.alloc;simp only [Array.getElem?_push_size]
set_option maxHeartbeats 4000000 in
theorem Qis (a a2:Option Addr) (cap cap2:Nat) (c:List Ac) (l:List Pr) (w:World) (h:QbJ w a c cap) (hl:QfP w a2 l cap2) (hll:l.length≤9223372036854775807) :
  Calls prog 43 #[.slice a c.length cap,.slice a2 l.length cap2] w fun e w'=>e=.returned (chE (QaX c l))∧Below w.heap.size w w':=by
 by_cases c0:Qat c≠0
 ·have HC:Hid (Calls _ _ _ _ _):=QaS a cap c w h c0;have e0:QaX c l=Qat c:=by unfold QaX;rw [if_pos c0]
  rw [e0];rw [Qae c0] at HC ⊢;clear h hl e0 c0;go_enter func43,ntmps43
  go_wp2_with (go_at_call 22;refine HC.out.mono ?_;rintro e w1 ⟨rfl,hb1⟩);go_ret;exact ⟨rfl,hb1⟩
 have HC:Hid (Calls _ _ _ _ _):=Qbe a cap c w h (Decidable.of_not_not c0);obtain ⟨res,hres⟩:∃ res,chE (QaX c l)=res:=⟨_,rfl⟩;have HR1:Hid (chE (if 20<l.length then 4 else Qac (QbT c l) l.length)=res):=by
  rw [← hres];unfold QaX;rw [if_neg c0];exact rfl
 rw [hres];have HL:Hid (QfP w a2 l cap2):=hl;clear hres h hl c0;go_enter func43,ntmps43
 go_wp2_with fail;refine HC.out.mono ?_;rintro e w1 ⟨B1,B2,rfl,hlf,hb1⟩;have HLf:Hid (Lfs w1 B1 B2 c):=hlf;have HB1:Hid (Below w.heap.size w w1):=hb1;clear hlf hb1 HC;by_cases c1:20<l.length
 ·have er:res=chE 4:=by rw [← HR1.out,if_pos c1]
  rw [Qae (by decide)] at er
  subst er;have i1:(20:Int)<l.length:=by omega
  clear HR1;go_wp2;go_ret;exact ⟨rfl,HB1.out⟩
 have HR2:Hid (chE (Qac (QbT c l) l.length)=res):=by
  have:=HR1.out;rw [if_neg c1] at this;exact this
 have i1:¬ (20:Int)<l.length:=by omega
 have i2:(l.length:Int)≤20:=by omega
 have i3:l.length≤20:=by omega
 clear HR1 c1 hll;go_wp2;go_loopw [7,26] (fun v i wr=>∃ (k:Nat) (sa:Option Addr) (sn sc:Nat),k≤l.length∧i=.int .i64 k∧v=.slice sa sn sc∧Hid (sn=(QbP (l.take k)).length∧Qey wr w1.heap.size (.slice sa sn sc) (QbP (l.take k)))∧Hid (Qac (QbT c l) k=0)∧Hid (Below w1.heap.size w1 wr)) (fun _ i _=>l.length - (RowKit.intOf i).toNat)
 case atStart=>exact ⟨0,none,0,0,Nat.zero_le _,rfl,rfl,⟨rfl,Qey.nil _ _⟩,rfl,Below.refl _ _⟩
 case round=>
  obtain ⟨k,sa,sn,sc,hk,rfl,rfl,HS,H0,HB⟩:=hrel;by_cases hkn:k<l.length
  ·have hbw:Below w.heap.size w wr:=HB1.out.trans (HB.out.mono HB1.out.size);obtain ⟨b,off,e,hbl,hcc⟩:=((HL.out).below hbw).some hkn;subst e;have hc:=hcc k hkn;have HRet:Hid (∀ z,z≠0→QbT c l k=z→res=chE z):=fun z h0 h1=>by
    rw [← HR2.out,QaC H0.out (by rw [h1];exact h0) hkn,h1]
   have HNx:Hid (QbT c l k=0→Qac (QbT c l) (k+1)=0):=fun h=>by rw [Qaz H0.out,h]
   have hsl:=sidesL_next l k hkn;have hln:(QbP (l.take k)).length≤40:=by rw [QiU,List.length_take];omega
   have HE:Hid (QbT c l k=if QfI c (l.getD k pr0)≠0 then QfI c (l.getD k pr0) else if ((QbP (l.take k)).any (sdB ⟨(l.getD k pr0).ea,(l.getD k pr0).one⟩) || (QbP (l.take k)).any (sdB ⟨(l.getD k pr0).eb,(l.getD k pr0).oth⟩))=true then 8 else 0):=rfl
   have HSl:Hid (QbP (l.take (k+1))=QbP (l.take k)++[⟨(l.getD k pr0).ea,(l.getD k pr0).one⟩,⟨(l.getD k pr0).eb,(l.getD k pr0).oth⟩]):=hsl;obtain ⟨hsn,hsd⟩:=HS.out;clear hcc hsl HS;generalize l.getD k pr0=p at *
   generalize QbP (l.take k)=OL at *
   subst hsn;obtain ⟨wa,hwa⟩:∃ wa,wr.alloc (.cells p.cells 105)=wa:=⟨_,rfl⟩;have b11:Below wr.heap.size wr wa:=by rw [← hwa];exact (Below.refl _ wr).alloc (Nat.le_refl _) _
   have BB2:Below w1.heap.size w1 wa:=HB.out.trans (b11.mono HB.out.size);have hsa:wr.heap.size<wa.heap.size:=by rw [← hwa];simp
   have hx:Qhd wa wr.heap.size 0 p:=by rw [← hwa];exact Qhd.new wr p 105
   have HP:Hid (∀ W,Below wa.heap.size wa W→Qhd W wr.heap.size 0 p∧Below w1.heap.size w1 W∧Below w.heap.size w W∧Qey W w1.heap.size (.slice sa OL.length sc) OL):=fun W hW=>by
    have h3:=BB2.trans (hW.mono BB2.size);exact ⟨hx.below hW hsa,h3,HB1.out.trans (h3.mono HB1.out.size),(hsd.below b11).below hW⟩
   have HCp:Hid (Calls prog 88 #[.agg p.cells,.func (.func 59) #[] #[.pointer (some ⟨B1,0,none⟩),.pointer (some ⟨B2,0,none⟩)]] wa fun e w'=>e=.returned (chE (QfI c p))∧Below wa.heap.size wa w'):=checkPair_any c p B1 B2 wa (HLf.out.below BB2)
   have HSi:Hid (∀ W,Below wa.heap.size wa W→Calls prog 89 #[.agg p.cells] W fun e w'=>e=.returned (.agg #[.int .i64 p.ea,.string p.one,.int .i64 p.eb,.string p.oth])∧Below wa.heap.size wa w'):=fun W hW=>by
    refine (Qin p W).mono ?_;rintro e w' ⟨rfl,hb⟩;exact ⟨rfl,hW.trans (hb.mono hW.size)⟩
   have HCn:Hid (∀ (s:Sd) W V,Below wa.heap.size wa V→Below V.heap.size V W→Calls prog 90 #[.slice sa OL.length sc,.agg s.cells] W fun e w'=>e=.returned (.bool (OL.any (sdB s)))∧Below V.heap.size V w'):=fun s W V hV hW=>by
    obtain ⟨a',c',e',hs⟩:=(HP.out V hV).2.2.2.isSd;cases e';refine (QiO sa sc OL s W (by omega) (hs.below hW)).mono ?_
    rintro e w' ⟨rfl,hb⟩;exact ⟨rfl,hW.trans (hb.mono hW.size)⟩
   have HWa:Hid (wr.alloc (.cells p.cells 105)=wa):=hwa;have hx2:=hx;clear BB2 b11 hwa hx hsa hbw hsd;generalize QfI c p=pb at *
   obtain ⟨x0,x1,x2,x3,x4⟩:=p;obtain ⟨d0,d1,d2,d3,d4⟩:=hc;obtain ⟨f0,f1,f2,f3,f4⟩:=hx2;simp only [Pr.cells,Nat.zero_add] at d0 d1 d2 d3 d4 f0 f1 f2 f3 f4 HWa HP HCp HSi HE HSl;have j0:(0:Int)≤k:=by omega
   have j1:(k:Int)<l.length:=by omega
   go_upto_region 10 with fail
   rw [HWa.out];clear HWa d0 d1 d2 d3 d4;by_cases c2:pb≠0
   ·have er:res=chE pb:=HRet.out pb c2 (by rw [HE.out,if_pos c2])
    rw [Qae c2] at er HCp;subst er;clear HE HRet HNx HSi HCn HSl HR2;go_wp2_with fail;refine HCp.out.mono ?_;rintro e w2 ⟨rfl,hb2⟩;have hbw2:=(HP.out _ hb2).2.2.1;clear HP HCp f0 f1 f2 f3 f4 hb2;go_wp2;go_ret;exact ⟨rfl,hbw2⟩
   have c2':=Decidable.of_not_not c2;have HE2:Hid (QbT c l k=if (OL.any (sdB ⟨x0,x2⟩) || OL.any (sdB ⟨x1,x3⟩))=true then 8 else 0):=by
    have:=HE.out;rw [if_neg c2] at this;exact this
   rw [c2',Qaj] at HCp;clear HE c2 c2';go_wp2_with fail;refine HCp.out.mono ?_;rintro e w2 ⟨rfl,hb2⟩;have HB2:Hid (Below wa.heap.size wa w2):=hb2;clear f0 f1 f2 f3 f4 HCp hb2;obtain ⟨⟨f0,f1,f2,f3,f4⟩,_⟩:=HP.out w2 HB2.out;simp only [Nat.zero_add] at f0 f1 f2 f3 f4;have HSi2:Hid (Calls _ _ _ _ _):=HSi.out w2 HB2.out;clear HSi HB2;go_wp2_with fail;refine HSi2.out.mono ?_;rintro e w3 ⟨rfl,hb3⟩;clear f0 f1 f2 f3 f4 HSi2
   obtain ⟨w4,hw4⟩:∃ w4,w3.alloc (.cells #[.int .i64 x0,.string x2,.int .i64 x1,.string x3] 142)=w4:=⟨_,rfl⟩;have hb4:Below wa.heap.size wa w4:=by rw [← hw4];exact hb3.alloc hb3.size _
   have hblk:w4.heap[w3.heap.size]? = some (.cells #[.int .i64 x0,.string x2,.int .i64 x1,.string x3] 142 (0,0)):=by rw [← hw4];exact QhD _ _ _ _ _ _
   obtain ⟨G,hG⟩:∃ G,w3.heap.size=G:=⟨_,rfl⟩;rw [hG] at hblk;have HBk:Hid (∀ W,Below w4.heap.size w4 W→W.heap[G]? = some (.cells #[.int .i64 x0,.string x2,.int .i64 x1,.string x3] 142 (0,0))):=fun W hW=>(hW.block G (Array.getElem?_eq_some_iff.1 hblk).1).trans hblk
   have HCl:Hid (∀ W,Below w4.heap.size w4 W→W.cell? ⟨G,0,none⟩=some (.int .i64 x0)∧W.cell? ⟨G,1,none⟩=some (.string x2)∧W.cell? ⟨G,2,none⟩=some (.int .i64 x1)∧W.cell? ⟨G,3,none⟩=some (.string x3)):=fun W hW=>by
    have h:=HBk.out W hW;simp [World.cell?,h]
   have HB4:Hid (Below wa.heap.size wa w4):=hb4;have HW4:Hid (w3.alloc (.cells #[.int .i64 x0,.string x2,.int .i64 x1,.string x3] 142)=w4):=hw4;have HC1:Hid (Calls prog 90 #[.slice sa OL.length sc,.agg #[.int .i64 x0,.string x2]] w4 fun e w'=>e=.returned (.bool (OL.any (sdB ⟨x0,x2⟩)))∧Below w4.heap.size w4 w'):=HCn.out ⟨x0,x2⟩ w4 w4 HB4.out (Below.refl _ _)
   have HC2:Hid (∀ W,Below w4.heap.size w4 W→Calls prog 90 #[.slice sa OL.length sc,.agg #[.int .i64 x1,.string x3]] W fun e w'=>e=.returned (.bool (OL.any (sdB ⟨x1,x3⟩)))∧Below w4.heap.size w4 w'):=fun W hW=>HCn.out ⟨x1,x3⟩ W w4 HB4.out hW
   have HP4:Hid (∀ W,Below w4.heap.size w4 W→Below w1.heap.size w1 W∧Below w.heap.size w W∧Qey W w1.heap.size (.slice sa OL.length sc) OL):=fun W hW=>(HP.out W (HB4.out.trans (hW.mono HB4.out.size))).2
   obtain ⟨g0,g1,g2,g3⟩:=HCl.out w4 (Below.refl _ _);clear hb3 hb4 hblk hw4 HCn HP HB4;go_upto_region 14 with fail
   try rw [hG]
   rw [HW4.out];clear HW4 hG;go_wp2_with fail;refine HC1.out.mono ?_;rintro e w5 ⟨rfl,hb5⟩;obtain ⟨g0,g1,g2,g3⟩:=HCl.out w5 hb5;have HC25:Hid (Calls _ _ _ _ _):=HC2.out w5 hb5;have HB5:Hid (Below w.heap.size w w5):=(HP4.out w5 hb5).2.1;clear HC1 HC2 hb5;cases u1:OL.any (sdB ⟨x0,x2⟩)
   rotate_left
   ·have er:res=chE 8:=HRet.out 8 (by decide) (by rw [HE2.out,u1,Bool.true_or,if_pos rfl])
    rw [Qae (by decide)] at er
    subst er;clear HE2 HRet HNx HR2 HC25 HP4 HCl HBk;go_wp2;go_ret;exact ⟨rfl,HB5.out⟩
   rw [u1,Bool.false_or] at HE2;go_wp2_with fail;refine HC25.out.mono ?_;rintro e w6 ⟨rfl,hb6⟩;have hn6:=HBk.out w6 hb6;obtain ⟨hp1,hp2,hp3⟩:=HP4.out w6 hb6;have HB6:Hid (Below w1.heap.size w1 w6∧Below w.heap.size w w6):=⟨hp1,hp2⟩;have HRow:Hid (World.ownsRow w6 w1.heap.size 141 2 (.slice sa OL.length sc) OL.length (QgB OL)):=hp3;clear HC25 hb6 HBk HP4 HCl hp1 hp2 HB5 g0 g1 g2 g3;cases u2:OL.any (sdB ⟨x1,x3⟩)
   rotate_left
   ·have er:res=chE 8:=HRet.out 8 (by decide) (by rw [HE2.out,u2,if_pos rfl])
    rw [Qae (by decide)] at er
    subst er;clear HE2 HRet HNx HR2 hn6 hp3 HRow;go_wp2;go_ret;exact ⟨rfl,HB6.out.2⟩
   have HN:Hid (Qac (QbT c l) (k+1)=0):=HNx.out (by rw [HE2.out,u2,if_neg (by simp)])
   have HNw:Hid (∀ j u,([.int .i64 x0,.string x2,.int .i64 x1,.string x3]:List Value)[j]? = some u→w6.cell? ((⟨G,0,none⟩:Addr).add j)=some u):=World.news_of_block hn6;have HOne:Hid (∀ u∈([.int .i64 x0,.string x2,.int .i64 x1,.string x3]:List Value),u.oneCell'=true):=by intro u hu;simp at hu;rcases hu with rfl | rfl | rfl | rfl <;> rfl
   have HOwn:Hid (∀ j,(Value.slice sa OL.length sc).ownBlock=some j→w1.heap.size≤j):=fun j e=>hp3.own j e
   have HAdd:Hid (∀ v' w7,World.ownsRow w7 w1.heap.size 141 2 v' (OL.length+2) (QgB OL++[.int .i64 x0,.string x2,.int .i64 x1,.string x3])→w6.grownBy w7 (Value.slice sa OL.length sc).ownBlock→∃ ta tn tc,v'=.slice ta tn tc∧Hid (tn=(QbP (l.take (k+1))).length∧Qey w7 w1.heap.size (.slice ta tn tc) (QbP (l.take (k+1))))∧Hid (Below w1.heap.size w1 w7)):=fun v' w7 h1 h2=>by
    have h3:Qey w7 w1.heap.size v' (QbP (l.take (k+1))):=by
     rw [HSl.out];unfold Qey;rw [sdRow_append,List.length_append];exact h1
    obtain ⟨ta,tc,rfl,_⟩:=h3.isSd;exact ⟨ta,_,tc,rfl,⟨rfl,h3⟩,HB6.out.1.grown h2 HB6.out.1.size fun j e=>HOwn.out j e⟩
   have s2:Hid (OL.length+2≤maxLen∧(OL.length+2)*24≤140737488355328):=by unfold Hid maxLen;omega
   have s4:Hid (w1.heap.size≤w6.heap.size):=HB6.out.1.size;obtain ⟨qi,hq,hz0,hz1,hz2⟩:=info_parts sd_info;clear HE2 HRet HNx hn6 hp3;generalize QgB OL=RL at *
   go_wp2_with (at_builtin;refine wpList_append_own _ rfl _ _ 138 rfl w1.heap.size 141 qi (.agg #[.int .i64 0,.string ByteArray.empty]) 2 24 underlying138 hq hz0 hz1 hz2 rfl (by decide) _ _ _ rfl HRow.out ⟨G,0,none⟩ 2 2 [.int .i64 x0,.string x2,.int .i64 x1,.string x3] rfl rfl HNw.out HOne.out s2.out.1 s2.out.2 s4.out ?_)
   intro v' w7 hown' hgrow _;obtain ⟨ta,tn,tc,rfl,hn1,hn2⟩:=HAdd.out v' w7 hown' hgrow;clear HAdd HRow hown' hgrow HNw;go_wp2;go_roundw
   case rel=>exact ⟨k+1,ta,tn,tc,by omega,by go_num,rfl,hn1,HN,hn2⟩
   case measure=>simp [RowKit.intOf];omega
  ·have ek:k=l.length:=by omega
   subst ek;have er:res=chE 0:=by rw [← HR2.out,H0.out]
   rw [Qaj] at er;subst er;have hbw:Below w.heap.size w wr:=HB1.out.trans (HB.out.mono HB1.out.size);clear HR2;go_wp2;go_ret;exact ⟨rfl,hbw⟩
end
section
open Go.RowKit Go.Lib Math Go.Proofs.Tryz
def lfE (l:List Pr) (b:List Bl) (cur:ByteArray):Int:=if 20<l.length then 4 else if chk b≠0 then chk b else if Qam cur=true then 0 else 2
def lfV (b:List Bl) (cur:ByteArray) (p:Pr):Int:=Qca b p.ea p.one cur+Qca b p.eb p.oth cur
def Qcc (l:List Pr) (b:List Bl) (cur:ByteArray) (w:World) (e:Ending) (w':World):Prop:=
 Below w.heap.size w w'∧(lfE l b cur≠0→e=.returned (.tuple #[.slice none 0 0,enE (lfE l b cur)]))∧(lfE l b cur=0→∃ g,e=.returned (.tuple #[.slice (some ⟨g,0,none⟩) l.length l.length,.nilIface])∧w.heap.size≤g∧Qbj w' g (l.map (lfV b cur)))
theorem getB_bd {b:List Bl} (h:Fine b) (en:Int) (acc cur:ByteArray):-1000000000000000000≤Qca b en acc cur∧Qca b en acc cur≤1000000000000000000:=by
 unfold Qca
 cases hf:b.find? (hasB en acc cur) with
 | none=>simp
 | some x=>exact h.amt x (List.mem_of_find?_eq_some hf)
theorem lfE_ok {l:List Pr} {b:List Bl} {cur:ByteArray}:lfE l b cur=0↔l.length≤20∧Fine b∧Qam cur=true:=by
 unfold lfE;by_cases c1:20<l.length
 ·rw [if_pos c1];constructor
  ·intro h;cases h
  ·rintro ⟨h,_⟩;omega
 rw [if_neg c1];by_cases c2:chk b≠0
 ·rw [if_pos c2];constructor
  ·intro h;exact absurd h c2
  ·rintro ⟨_,h,_⟩;exact absurd (Qeh.2 h) c2
 rw [if_neg c2];have c2':=Qeh.1 (Decidable.of_not_not c2);by_cases c3:Qam cur=true
 ·rw [if_pos c3];exact ⟨fun _=>⟨by omega,c2',c3⟩,fun _=>rfl⟩
 ·rw [if_neg c3];constructor
  ·intro h;cases h
  ·rintro ⟨_,_,h⟩;exact absurd h c3
theorem pRow_next (f:Pr→Int) (b:List Pr) (k:Nat) (h:k<b.length):((b.take k).map f++List.replicate (b.length - k) 0).set k (f (b.getD k pr0))=(b.take (k+1)).map f++List.replicate (b.length - (k+1)) 0:=by
 have e:b.length - k=(b.length - (k+1))+1:=by omega
 have hl:((b.take k).map f).length=k:=by simp;omega
 rw [e,List.replicate_succ,List.set_append_right _ _ (by omega),hl,Nat.sub_self,List.set_cons_zero]
 rw [List.take_succ_eq_append_getElem h,List.map_append,List.append_assoc];congr 1;simp [List.getD_eq_getElem?_getD,List.getElem?_eq_getElem h]
theorem pr_int:(prog.info? 3).map (fun i=>(i.zero,i.size,i.bytes))=some (some (.int .i64 0),1,8):=by kernel_rfl
theorem sum_two (B:Nat) (x y:Int) (w:World) (hx:-1000000000000000000≤x∧x≤1000000000000000000) (hy:-1000000000000000000≤y∧y≤1000000000000000000) (h:Qbi w B x y) :
  Calls prog 142 #[.slice (some ⟨B,0,none⟩) 2 2] w fun e w'=>e=.returned (.tuple #[.int .i64 (x+y),.nilIface])∧w'=w:=by
 have hI:∀ i,i<[x,y].length→I64 ([x,y].getD i 0):=fun i hi=>by
  rcases i with _ | _ | i
  ·show I64 x;unfold I64;omega
  ·show I64 y;unfold I64;omega
  ·simp at hi;omega
 have hc:∀ i,i<[x,y].length→w.cell? ⟨B,0+i,none⟩=some (.int .i64 ([x,y].getD i 0)):=fun i hi=>by
  rcases i with _ | _ | i
  ·exact h.c0
  ·exact h.c1
  ·simp at hi;omega
 have e:([x,y]:List Int).sum=x+y:=by simp
 have hs:=sum_run B 0 2 2 [x,y] w rfl (by simp) hI hc
 rw [e] at hs;unfold sumV sumE at hs;rw [if_pos (by omega),if_pos (by omega)] at hs
 exact hs
set_option maxHeartbeats 4000000 in
theorem left_any (a a2:Option Addr) (cap cap2:Nat) (l:List Pr) (b:List Bl) (cur:ByteArray) (w:World) (hl:QfP w a l cap) (hlen:l.length≤9223372036854775807) (hb:Qcp w a2 b cap2) (hbl:b.length≤9223372036854775807) :
  Calls prog 126 #[.slice a l.length cap,.slice a2 b.length cap2,.string cur] w (Qcc l b cur w):=by
 by_cases c1:20<l.length
 ·have e1:lfE l b cur=4:=if_pos c1;unfold Qcc;rw [e1,Qbb (by decide)]
  have i1:(20:Int)<l.length:=by omega
  clear e1 hl hb;go_enter func126,ntmps126
  go_wp2;go_ret2;exact ⟨Below.refl _ _,fun _=>rfl,fun h=>absurd h (by decide)⟩
 have i1:¬ (20:Int)<l.length:=by omega
 have HC:Hid (Calls prog 116 #[.slice a2 b.length cap2] w fun e w'=>e=.returned (enE (chk b))∧Below w.heap.size w w'):=QcE a2 cap2 b w hbl hb
 by_cases c2:chk b≠0
 ·have e1:lfE l b cur=chk b:=by unfold lfE;rw [if_neg c1,if_pos c2]
  unfold Qcc;rw [e1,Qbb c2];rw [Qbb c2] at HC;clear e1 hl hb;generalize chk b=z at *
  go_enter func126,ntmps126
  go_wp2_with fail;refine HC.out.mono ?_;rintro e w1 ⟨rfl,hb1⟩;have HB1:Hid (Below w.heap.size w w1):=hb1;clear hb1;go_wp2;go_ret2;exact ⟨HB1.out,fun _=>rfl,fun h=>absurd h c2⟩
 have c2':=Decidable.of_not_not c2;rw [c2',QcR] at HC;have HU:Hid (∀ W,Calls prog 24 #[.string cur] W fun e w'=>e=.returned (.bool (Qam cur))∧Below W.heap.size W w'):=fun W=>Qcu cur W
 by_cases c3:Qam cur=true
 rotate_left
 ·have c3':Qam cur=false:=by simpa using c3
  have e1:lfE l b cur=2:=by unfold lfE;rw [if_neg c1,if_neg c2,if_neg c3]
  unfold Qcc;rw [e1,Qbb (by decide)]
  rw [c3'] at HU;clear e1 hl hb c3 c3' c2 c2';go_enter func126,ntmps126
  go_wp2_with fail;refine HC.out.mono ?_;rintro e w1 ⟨rfl,hb1⟩;go_wp2_with fail;refine (HU.out w1).mono ?_;rintro e w2 ⟨rfl,hb2⟩;have HB2:Hid (Below w.heap.size w w2):=hb1.trans (hb2.mono hb1.size);clear hb1 hb2 HC HU;go_wp2;go_ret2;exact ⟨HB2.out,fun _=>rfl,fun h=>absurd h (by decide)⟩
 rw [c3] at HU;have fn:=Qeh.1 c2';have e1:lfE l b cur=0:=lfE_ok.2 ⟨by omega,fn,c3⟩
 have HEnd:Hid (∀ g w',w.heap.size≤g→Below w.heap.size w w'→Qbj w' g (l.map (lfV b cur))→Qcc l b cur w (.returned (.tuple #[.slice (some ⟨g,0,none⟩) l.length l.length,.nilIface])) w'):=fun g w' h1 h2 h3=>⟨h2,fun h=>absurd e1 h,fun _=>⟨g,rfl,h1,h3⟩⟩
 have HBd:Hid (∀ en acc,-1000000000000000000≤Qca b en acc cur∧Qca b en acc cur≤1000000000000000000):=fun en acc=>getB_bd fn en acc cur
 have HHad:Hid (∀ (p:Pr) W,Below w.heap.size w W→Calls prog 127 #[.agg p.cells,.slice a2 b.length cap2,.string cur] W fun e w'=>e=.returned (.agg #[.int .i64 (Qca b p.ea p.one cur),.int .i64 (Qca b p.eb p.oth cur)])∧Below W.heap.size W w'):=fun p W hW=>had_any a2 cap2 p b cur W (by omega) (hb.below hW)
 have HPr:Hid (QfP w a l cap):=hl;have l20:l.length≤20:=by omega
 clear c1 c2 c2' c3 fn e1 hl hb;have hmk:=fun w=>run_make_row' (P:=prog) 97 3 (.int .i64 0) 8 underlying97 pr_int rfl .i64 .i64 l.length (by omega) (by omega) w
 go_enter func126,ntmps126
 go_wp2_with fail;refine HC.out.mono ?_;rintro e w1 ⟨rfl,hb1⟩;go_wp2_with fail;refine (HU.out w1).mono ?_;rintro e w2 ⟨rfl,hb2⟩;have HB2:Hid (Below w.heap.size w w2):=hb1.trans (hb2.mono hb1.size);clear hb1 hb2 HC HU;have HB0:Hid (Below w.heap.size w (w2.alloc (.cells (madeCells #[.int .i64 0] l.length) 3))):=HB2.out.alloc HB2.out.size _;have HR0:Hid (Qbj (w2.alloc (.cells (madeCells #[.int .i64 0] l.length) 3)) w2.heap.size ((l.take 0).map (lfV b cur)++List.replicate (l.length - 0) 0)):=by
  have hrow:=Qd1 w2 l.length;unfold Hid;rw [List.take_zero];exact hrow
 have HGw:Hid (w.heap.size≤w2.heap.size):=HB2.out.size;clear HB2;go_wp2_with fail;clear hmk;generalize w2.heap.size=G at *
 obtain ⟨fw,hfw⟩:∃ fw,lfV b cur=fw:=⟨_,rfl⟩;have HFw:Hid (∀ p:Pr,fw p=Qca b p.ea p.one cur+Qca b p.eb p.oth cur):=fun p=>by rw [← hfw];rfl
 rw [hfw] at HEnd HR0;clear hfw;go_loopw [33] (fun i wr=>∃ k:Nat,k≤l.length∧i=.int .i64 k∧Hid (Qbj wr G ((l.take k).map fw++List.replicate (l.length - k) 0)∧Below w.heap.size w wr)) (fun i _=>l.length - (RowKit.intOf i).toNat)
 case atStart=>exact ⟨0,Nat.zero_le _,rfl,HR0.out,HB0.out⟩
 case round=>
  obtain ⟨k,hk,rfl,HR⟩:=hrel;clear HR0 HB0;by_cases hlt:k<l.length
  ·obtain ⟨bb,off,rfl,hbb,hcc⟩:=HPr.out.some hlt;have hx:=(hcc k hlt).below HR.out.2 hbb;have i0:(0:Int)≤k:=by omega
   have i3:(k:Int)<l.length:=by omega
   have hsn:=pRow_next fw l k hlt;have hlen:k<((l.take k).map fw++List.replicate (l.length - k) 0).length:=by simp;omega
   obtain ⟨x,hxx⟩:∃ x,l.getD k pr0=x:=⟨_,rfl⟩;rw [hxx] at hx hsn;have HSn:Hid (((l.take k).map fw++List.replicate (l.length - k) 0).set k (fw x)=(l.take (k+1)).map fw++List.replicate (l.length - (k+1)) 0):=hsn;clear hxx hcc hsn;obtain ⟨Z,hZ⟩:∃ Z,wr.alloc (.cells x.cells 105)=Z:=⟨_,rfl⟩;have hbZ:Below wr.heap.size wr Z:=by rw [← hZ];exact (Below.refl _ _).alloc (Nat.le_refl _) _
   have hbt:Qhd Z wr.heap.size 0 x:=by rw [← hZ];exact Qhd.new wr x 105
   have hRZ:=HR.out.1.belowS hbZ HR.out.1.ltS;have hBZ:Below w.heap.size w Z:=HR.out.2.trans (hbZ.mono HR.out.2.size);have HZ:Hid (wr.alloc (.cells x.cells 105)=Z):=hZ;have HCx:Hid (Calls prog 127 #[.agg x.cells,.slice a2 b.length cap2,.string cur] Z fun e w'=>e=.returned (.agg #[.int .i64 (Qca b x.ea x.one cur),.int .i64 (Qca b x.eb x.oth cur)])∧Below Z.heap.size Z w'):=HHad.out x Z hBZ
   have hf:=HFw.out x;have q1:=HBd.out x.ea x.one;have q2:=HBd.out x.eb x.oth;generalize Qca b x.ea x.one cur=y0 at *
   generalize Qca b x.eb x.oth cur=y1 at *
   have HN:Hid (∀ U,Below Z.heap.size Z U→Calls prog 142 #[.slice (some ⟨U.heap.size,0,none⟩) 2 2] (U.alloc (.cells #[.int .i64 y0,.int .i64 y1] 185)) (fun e w'=>e=.returned (.tuple #[.int .i64 (fw x),.nilIface])∧w'=(U.alloc (.cells #[.int .i64 y0,.int .i64 y1] 185))∧(∃ z,w'.cell? ⟨G,k,none⟩=some (.int .i64 z))∧w'.frozen? ⟨G,k,none⟩=false∧Hid (Qbj (w'.setCell ⟨G,k,none⟩ (.int .i64 (fw x))) G ((l.take (k+1)).map fw++List.replicate (l.length - (k+1)) 0)∧Below w.heap.size w (w'.setCell ⟨G,k,none⟩ (.int .i64 (fw x)))))):=fun U hU=>by
    refine (sum_two U.heap.size y0 y1 _ q1 q2 (Qbi.new U y0 y1)).mono ?_;rintro e w' ⟨rfl,rfl⟩;have hRU:=(hRZ.belowS hU hRZ.ltS);have hRV:=hRU.belowS ((Below.refl _ U).alloc (Nat.le_refl _) (.cells #[.int .i64 y0,.int .i64 y1] 185)) hRU.ltS;have hBU:=hBZ.trans (hU.mono hBZ.size);have hs:=hRV.set k (fw x);rw [HSn.out] at hs;exact ⟨by rw [hf],rfl,⟨_,hRV.cell (i:=k) hlen⟩,hRV.frozen k,hs,(hBU.alloc hBU.size _).setCell (p:=⟨G,k,none⟩) HGw.out _⟩
   clear hZ hbZ hRZ hBZ hf q1 q2 HSn HR HFw HBd HHad;generalize fw x=z2 at HN;obtain ⟨x0,x1,x2,x3,x4⟩:=x;obtain ⟨d0,d1,d2,d3,d4⟩:=hx;obtain ⟨f0,f1,f2,f3,f4⟩:=hbt;simp only [Pr.cells,Nat.zero_add] at d0 d1 d2 d3 d4 f0 f1 f2 f3 f4 HCx HZ;clear hlen;go_upto_region 12 with fail
   rw [HZ.out];clear HZ d0 d1 d2 d3 d4;go_wp2_with fail;refine HCx.out.mono ?_;rintro e w3 ⟨rfl,hb3⟩;have HN2:Hid (Calls _ _ _ _ _):=HN.out w3 hb3;clear HN HCx hb3 f0 f1 f2 f3 f4;go_wp2_with fail;refine HN2.out.mono ?_;rintro e w4 ⟨rfl,hw4,⟨zz,k4⟩,k5,HN1⟩;clear HN2 hw4;go_wp2;go_roundw
   case rel=>exact ⟨k+1,by omega,by go_num,HN1.out⟩
   case measure=>simp [RowKit.intOf];omega
  ·obtain rfl:k=l.length:=by omega
   have h1:=HR.out;rw [List.take_length,Nat.sub_self,List.replicate_zero,List.append_nil] at h1;have HL:Hid (Qcc l b cur w (.returned (.tuple #[.slice (some ⟨G,0,none⟩) l.length l.length,.nilIface])) wr):=HEnd.out G wr HGw.out h1.2 h1.1;have i3:¬ (l.length:Int)<l.length:=by omega
   clear HR HEnd h1 HFw HBd HHad;go_wp2;go_ret2;exact HL.out
end
section
open Go.RowKit Go.Lib Math Go.Proofs.Tryz
def mvL (n:Int) (cur code dif:ByteArray):List Ln:=[⟨code,cur,-n⟩,⟨dif,cur,n⟩]
def pdA (l:List Pr) (m:Nat):Pr:=l.getD (m / 2) pr0
def psd (l:List Pr) (m:Nat):Sd:=if m % 2=0 then ⟨(pdA l m).ea,(pdA l m).one⟩ else ⟨(pdA l m).eb,(pdA l m).oth⟩
def phas (b:List Bl) (cur:ByteArray) (l:List Pr) (m:Nat):Int:=Qca b (psd l m).ent (psd l m).acc cur
def tailP (j:Nat):ByteArray:=if j=0 then ⟨#[97]⟩ else ⟨#[98]⟩
def refP (i j:Nat):ByteArray:=((⟨#[112,97,105,114,45]⟩:ByteArray)++QiG i)++tailP j
def peE (b:List Bl) (cur:ByteArray) (pe:Int) (l:List Pr) (m:Nat):List Ep:=
 if phas b cur l m=0 then [] else [⟨refP (m / 2) (m % 2),(psd l m).ent,pe,mvL (phas b cur l m) cur (psd l m).acc (pdA l m).dif⟩]
def QfO (b:List Bl) (cur:ByteArray) (pe:Int) (l:List Pr) (m:Nat):List Ep:=(List.range m).flatMap (peE b cur pe l)
theorem peTo_next (b:List Bl) (cur:ByteArray) (pe:Int) (l:List Pr) (m:Nat):QfO b cur pe l (m+1)=QfO b cur pe l m++peE b cur pe l m:=by
 unfold QfO;rw [List.range_succ,List.flatMap_append];simp
def Qiw (b:List Bl) (cur:ByteArray) (l:List Pr) (m:Nat):Int:=if Qas (phas b cur l m)=true then 0 else 1
def Qcq (c:List Ac) (l:List Pr) (b:List Bl) (cur:ByteArray) (pe:Int):Int:=
 if QaX c l≠0 then QaX c l else if lfE l b cur≠0 then lfE l b cur else if Qak pe 120=false then 1 else Qac (Qiw b cur l) (l.length*2)
def Qew (c:List Ac) (l:List Pr) (b:List Bl) (cur:ByteArray) (pe:Int) (w:World) (e:Ending) (w':World):Prop:=
 Below w.heap.size w w'∧(Qcq c l b cur pe≠0→e=.returned (.tuple #[.slice none 0 0,chE (Qcq c l b cur pe)])) ∧
  (Qcq c l b cur pe=0→∃ v L,e=.returned (.tuple #[v,.nilIface])∧Qbp w' w.heap.size v L∧L.map Je.ep=QfO b cur pe l (l.length*2)∧L.length≤40)
theorem QdQ {c:List Ac} {l:List Pr} (h:QaX c l=0):Qat c=0∧l.length≤20∧∀ k,k<l.length→QbT c l k=0:=by
 unfold QaX at h;split at h
 ·contradiction
 ·rename_i h1;split at h
  ·omega
  ·exact ⟨Decidable.of_not_not h1,by omega,QaK h⟩
theorem psd_even (l:List Pr) (k:Nat):pdA l (k*2+0)=l.getD k pr0∧psd l (k*2+0)=⟨(l.getD k pr0).ea,(l.getD k pr0).one⟩:=by
 have e1:(k*2+0) / 2=k:=by omega
 have e2:(k*2+0) % 2=0:=by omega
 unfold psd pdA;rw [e1,if_pos e2];exact ⟨rfl,rfl⟩
theorem psd_odd (l:List Pr) (k:Nat):pdA l (k*2+1)=l.getD k pr0∧psd l (k*2+1)=⟨(l.getD k pr0).eb,(l.getD k pr0).oth⟩:=by
 have e1:(k*2+1) / 2=k:=by omega
 have e2:¬ (k*2+1) % 2=0:=by omega
 unfold psd pdA;rw [e1,if_neg e2];exact ⟨rfl,rfl⟩
theorem QgS (i:Nat):(QiG i).size≤2:=by
 unfold QiG
 split
 ·exact Nat.le_succ 1
 ·exact Nat.le_refl 2
theorem pvRow_two (w:World) (n0:Nat) (x y:Ln) (hn:n0≤w.heap.size):Qab (w.alloc (.cells (x.cells++y.cells) 44)) n0 (.slice (some ⟨w.heap.size,0,none⟩) 2 2) [x,y]:=by
 refine ⟨rfl,.inr ⟨w.heap.size,2,x.cells++y.cells,rfl,hn,by unfold World.alloc;simp only [Array.getElem?_push_size],Nat.le_refl _,by unfold maxLen;omega,rfl,?_⟩⟩
 simp [Qah,Ln.cells]
theorem moved_any (n:Int) (cur code dif:ByteArray) (w:World) (h1:-9223372036854775807≤n) (h2:n≤9223372036854775807) :
  Calls prog 128 #[.int .i64 n,.string cur,.string code,.string dif] w fun e w'=>∃ adr cap,e=.returned (.slice adr 2 cap)∧Qab w' w.heap.size (.slice adr 2 cap) (mvL n cur code dif)∧Below w.heap.size w w':=by
 have wn:IntKind.i64.wrap (-n) = -n:=by
  simp only [IntKind.wrap,IntKind.bits,IntKind.signed];simp;omega
 have HE:Hid (Qab (w.alloc (.cells #[.string code,.string cur,.int .i64 (-n),.string dif,.string cur,.int .i64 n] 44)) w.heap.size (.slice (some ⟨w.heap.size,0,none⟩) 2 2) (mvL n cur code dif)∧Below w.heap.size w (w.alloc (.cells #[.string code,.string cur,.int .i64 (-n),.string dif,.string cur,.int .i64 n] 44))):=
  ⟨pvRow_two w w.heap.size ⟨code,cur,-n⟩ ⟨dif,cur,n⟩ (Nat.le_refl _),(Below.refl _ w).alloc (Nat.le_refl _) _⟩
 clear h1 h2;go_enter func128,ntmps128
 go_wp2;go_ret;exact ⟨_,_,rfl,HE.out.1,HE.out.2⟩
end
end Go.Proofs.YtibhgngboljhfaaGreatDoor
