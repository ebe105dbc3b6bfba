/-
  Part of a proof (see the last text).
-/
import Derived.Test.YtjdjfpkjikdkoaaGreatDoorZs13
import Derived.Test.YtjdjfpkjikdkoaaGreatDoorZs5
import Derived.Test.YtjdjfpkjikdkoaaGreatDoorZs1
import Derived.Test.YtjdjfpkjikdkoaaGreatDoorProg
import Derived.WalkKit
import Derived.WalkSpells
import Derived.Lib.OthersKept
import Derived.Lib.TrimU
import Derived.Deep.LoopGhost
import Derived.Conc.MuLone
import Derived.Shelf.Abstract
import Derived.Deep.QuietTactic
import Derived.BigQuiet
import Derived.Maps.AppendAt
import Derived.MapKept
import Derived.Deep.AppendLies
import Derived.Laws.NewBlocks
import Derived.Laws.StructEq
import Derived.Laws.Cover1
import Derived.Deep.RegionWith
import Derived.Deep.RegionHeld3
import Derived.BigRegion
set_option linter.unusedVariables false
set_option linter.unusedSimpArgs false
set_option maxRecDepth 100000
namespace Go.Proofs.YtjdjfpkjikdkoaaGreatDoor
open Go.RowKit Go.Lib
set_option maxHeartbeats 4000000 in
theorem alCheck_any (a a2:Option Addr) (cap cap2:Nat) (c:List Ac) (l:List Po) (w:World) (h:IsSl w a c cap) (hl:IsPs w a2 l cap2) (hll:l.length≤9223372036854775807) :
  Calls Tryz.prog 27 #[.slice a c.length cap,.slice a2 l.length cap2] w fun e w'=>e=.returned (chE (psBad c l))∧Below w.heap.size w w':=by
 by_cases c0:chBad c≠0
 ·have HC:Hid (Calls _ _ _ _ _):=leafCheck_bad a cap c w h c0
  have e0:psBad c l=chBad c:=by unfold psBad;rw [if_pos c0]
  rw [e0]
  rw [chE_ne c0] at HC ⊢
  clear h hl e0 c0
  go_enter Tryz.func27,Tryz.ntmps27
  go_wp2_with (go_at_call 13;refine HC.out.mono ?_;rintro e w1 ⟨rfl,hb1⟩)
  go_ret
  exact ⟨rfl,hb1⟩
 have HC:Hid (Calls _ _ _ _ _):=leafCheck_ok a cap c w h (Decidable.of_not_not c0)
 obtain ⟨res,hres⟩:∃ res,chE (psBad c l)=res:=⟨_,rfl⟩
 have HR1:Hid (chE (if 20<l.length then 4 else firstTo (fun k=>poBad c (l.getD k po0)) l.length)=res):=by
  rw [← hres];unfold psBad;rw [if_neg c0];exact rfl
 rw [hres]
 have HL:Hid (IsPs w a2 l cap2):=hl
 clear hres h hl c0
 go_enter Tryz.func27,Tryz.ntmps27
 go_wp2_with fail
 refine HC.out.mono ?_
 rintro e w1 ⟨B1,B2,rfl,hlf,hb1⟩
 have HLf:Hid (Lfs w1 B1 B2 c):=hlf
 have HB1:Hid (Below w.heap.size w w1):=hb1
 clear hlf hb1 HC
 by_cases c1:20<l.length
 ·have er:res=chE 4:=by rw [← HR1.out,if_pos c1]
  rw [chE_ne (by decide)] at er
  subst er
  have i1:(20:Int)<l.length:=by omega
  clear HR1
  go_wp2
  go_ret
  exact ⟨rfl,HB1.out⟩
 have HR2:Hid (chE (firstTo (fun k=>poBad c (l.getD k po0)) l.length)=res):=by
  have:=HR1.out;rw [if_neg c1] at this;exact this
 have i1:¬ (20:Int)<l.length:=by omega
 have i2:(l.length:Int)≤20:=by omega
 clear HR1
 go_wp2
 go_loopw [24] (fun i wr=>∃ k:Nat,k≤l.length∧i=.int .i64 k∧Hid (firstTo (fun k=>poBad c (l.getD k po0)) k=0)∧Hid (Below w1.heap.size w1 wr)) (fun i _=>l.length - (RowKit.intOf i).toNat)
 case atStart=>exact ⟨0,Nat.zero_le _,rfl,rfl,Below.refl _ _⟩
 case round=>
  obtain ⟨k,hk,rfl,H0,HB⟩:=hrel
  by_cases hkn:k<l.length
  ·have hbw:Below w.heap.size w wr:=HB1.out.trans (HB.out.mono HB1.out.size)
   obtain ⟨b,off,e,hbl,hc,hok⟩:=((HL.out).below hbw).at hkn
   subst e
   have HRet:Hid (∀ z,z≠0→poBad c (l.getD k po0)=z→res=chE z):=fun z h0 h1=>by
    rw [← HR2.out,firstTo_first H0.out (by rw [h1];exact h0) hkn,h1]
   have HNx:Hid (poBad c (l.getD k po0)=0→firstTo (fun k=>poBad c (l.getD k po0)) (k+1)=0):=fun h=>by rw [firstTo_next H0.out,h]
   have BB2:=HB.out.alloc HB.out.size (.cells (l.getD k po0).cells 82)
   have hx:=PoAt.new wr (l.getD k po0) 82
   have HCk:Hid (Calls _ _ _ _ _):=checkPool_any c (l.getD k po0) B1 B2 (wr.alloc (.cells (l.getD k po0).cells 82)) (HLf.out.below BB2) (hok.below ((Below.refl _ wr).alloc (Nat.le_refl _) _))
   have HBk:Hid (∀ w2,Below (wr.alloc (.cells (l.getD k po0).cells 82)).heap.size (wr.alloc (.cells (l.getD k po0).cells 82)) w2→Below w1.heap.size w1 w2∧Below w.heap.size w w2):=fun w2 h2=>by
    have h3:=BB2.trans (h2.mono BB2.size)
    exact ⟨h3,HB1.out.trans (h3.mono HB1.out.size)⟩
   clear BB2 hok
   generalize l.getD k po0=p at *
   obtain ⟨acc,cur,tA,tC,tos,wA,wC,ws⟩:=p
   obtain ⟨d0,d1,d2,d3⟩:=hc
   obtain ⟨f0,f1,f2,f3⟩:=hx
   simp only [Po.cells,Nat.zero_add] at d0 d1 d2 d3 f0 f1 f2 f3 HCk HBk
   have j0:(0:Int)≤k:=by omega
   have j1:(k:Int)<l.length:=by omega
   by_cases c2:poBad c ⟨acc,cur,tA,tC,tos,wA,wC,ws⟩=0
   ·have HN:Hid _:=HNx.out c2
    rw [c2,chE_zero] at HCk
    clear HRet HNx c2
    go_wp2_with fail
    refine HCk.out.mono ?_
    rintro e w2 ⟨rfl,hb2⟩
    have HB2:Hid _:=(HBk.out w2 hb2).1
    clear HCk HBk hb2
    go_wp2
    go_roundw
    case rel=>exact ⟨k+1,by omega,by go_num,HN,HB2⟩
    case measure=>simp [RowKit.intOf];omega
   ·have er:=HRet.out _ c2 rfl
    rw [chE_ne c2] at HCk er
    subst er
    clear HRet HNx HR2
    go_wp2_with fail
    refine HCk.out.mono ?_
    rintro e w2 ⟨rfl,hb2⟩
    have HB2:Hid _:=(HBk.out w2 hb2).2
    clear HCk HBk hb2
    go_wp2
    go_ret
    exact ⟨rfl,HB2.out⟩
  ·have ek:k=l.length:=by omega
   subst ek
   have er:res=chE 0:=by rw [← HR2.out,H0.out]
   rw [chE_zero] at er
   subst er
   have hbw:Below w.heap.size w wr:=HB1.out.trans (HB.out.mono HB1.out.size)
   clear HR2
   go_wp2
   go_ret
   exact ⟨rfl,hbw⟩
end Go.Proofs.YtjdjfpkjikdkoaaGreatDoor
namespace Go.Proofs.YtjdjfpkjikdkoaaGreatDoor
open Go.RowKit Go.Lib
structure Bl where
 ent:Int
 acc:ByteArray
 cur:ByteArray
 amt:Int
def Bl.cells (x:Bl):Array Value:=#[.int .i64 x.ent,.string x.acc,.string x.cur,.int .i64 x.amt]
def bl0:Bl:=⟨0,ByteArray.empty,ByteArray.empty,0⟩
def cmpI (a b:Int):Int:=if a<b then -1 else if b<a then 1 else 0
def cmpB (a b:Bl):Int:=if cmpI a.ent b.ent≠0 then cmpI a.ent b.ent else if cmpS a.acc b.acc≠0 then cmpS a.acc b.acc else cmpS a.cur b.cur
structure BlAt (w:World) (b off:Nat) (x:Bl):Prop where
 c0:w.cell? ⟨b,off,none⟩=some (.int .i64 x.ent)
 c1:w.cell? ⟨b,off+1,none⟩=some (.string x.acc)
 c2:w.cell? ⟨b,off+2,none⟩=some (.string x.cur)
 c3:w.cell? ⟨b,off+3,none⟩=some (.int .i64 x.amt)
theorem BlAt.below {w w':World} {b off n:Nat} {a:Bl} (h:BlAt w b off a) (hb:Below n w w') (hn:b<n):BlAt w' b off a:=
 ⟨(hb.cell (p:=⟨b,off,none⟩) hn).trans h.c0,(hb.cell (p:=⟨b,off+1,none⟩) hn).trans h.c1,(hb.cell (p:=⟨b,off+2,none⟩) hn).trans h.c2,(hb.cell (p:=⟨b,off+3,none⟩) hn).trans h.c3⟩
theorem BlAt.new (w:World) (a:Bl) (t:TypeId):BlAt (w.alloc (.cells a.cells t)) w.heap.size 0 a:=
 ⟨by simp [Bl.cells],by simp [Bl.cells],by simp [Bl.cells],by simp [Bl.cells]⟩
def BlsAt (w:World) (b off:Nat) (l:List Bl):Prop:=∀ k,k<l.length→BlAt w b (off+k*4) (l.getD k bl0)
structure IsBl (w:World) (a:Option Addr) (l:List Bl) (cap:Nat):Prop where
 cap:l.length≤cap
 lies:l=[]∨∃ b off,a=some ⟨b,off,none⟩∧b<w.heap.size∧BlsAt w b off l
theorem IsBl.below {w w':World} {a:Option Addr} {l:List Bl} {cap:Nat} (h:IsBl w a l cap) (hb:Below w.heap.size w w'):IsBl w' a l cap:=by
 refine ⟨h.cap,?_⟩
 rcases h.lies with h | ⟨b,off,e,hlt,hc⟩
 ·exact .inl h
 ·exact .inr ⟨b,off,e,by have:=hb.size;omega,fun k hk=>(hc k hk).below hb hlt⟩
theorem bls_drop (l:List Bl) (k:Nat) (h:k<l.length):l.drop k=l.getD k bl0 :: l.drop (k+1):=by
 rw [List.drop_eq_getElem_cons h,List.getD_eq_getElem?_getD,List.getElem?_eq_getElem h]
 rfl
theorem bls_take (l:List Bl) (k:Nat) (h:k<l.length):l.take (k+1)=l.take k++[l.getD k bl0]:=by
 rw [List.take_add_one,List.getElem?_eq_getElem h,List.getD_eq_getElem?_getD,List.getElem?_eq_getElem h]
 rfl
def blRow (l:List Bl):List Value:=l.flatMap fun x=>x.cells.toList
theorem Bl.cells_length (x:Bl):x.cells.toList.length=4:=rfl
theorem blRow_length:∀ l:List Bl,(blRow l).length=l.length*4
 | []=>rfl
 | x :: l=>by
  have:=blRow_length l
  unfold blRow at *
  simp only [List.flatMap_cons,List.length_append,Bl.cells_length,this,List.length_cons]
  omega
theorem blRow_append (l m:List Bl):blRow (l++m)=blRow l++blRow m:=by simp [blRow]
theorem blRow_one (x:Bl):blRow [x]=x.cells.toList:=by simp [blRow]
theorem blRow_get:∀ (l:List Bl) (k j:Nat),k<l.length→j<4→(blRow l)[k*4+j]? = (l.getD k bl0).cells.toList[j]?
 | [],_,_,h,_=>absurd h (by simp)
 | x :: l,0,j,_,hj=>by
  simp only [blRow,List.flatMap_cons,Nat.zero_mul,Nat.zero_add,List.getD_cons_zero]
  rw [List.getElem?_append_left (by rw [Bl.cells_length];exact hj)]
 | x :: l,k+1,j,h,hj=>by
  have ih:=blRow_get l k j (by simpa using h) hj
  simp only [blRow,List.flatMap_cons,List.getD_cons_succ] at ih ⊢
  rw [List.getElem?_append_right (by rw [Bl.cells_length];omega),Bl.cells_length,← ih]
  congr 1
  omega
def BlRow (w:World) (n:Nat) (v:Value) (l:List Bl):Prop:=w.ownsRow n 146 4 v l.length (blRow l)
theorem BlRow.nil (w:World) (n:Nat):BlRow w n (.slice none 0 0) []:=World.ownsRow_nil _ _ _ _
theorem BlRow.isBl {W:World} {n0:Nat} {v:Value} {l:List Bl} (h:BlRow W n0 v l) :
  ∃ a cap,v=.slice a l.length cap∧IsBl W a l cap:=by
 obtain ⟨hlen,⟨rfl,h0⟩ | ⟨g,cap,cur,rfl,hb,hg,hc,hm,hs,ht⟩⟩:=h
 ·have:l=[]:=List.eq_nil_of_length_eq_zero h0
  subst this
  exact ⟨none,0,rfl,Nat.le_refl _,.inl rfl⟩
 ·refine ⟨_,cap,rfl,hc,.inr ⟨g,0,rfl,(Array.getElem?_eq_some_iff.1 hg).1,?_⟩⟩
  intro k hk
  have C:∀ j,j<4→W.cell? ⟨g,0+k*4+j,none⟩=(l.getD k bl0).cells.toList[j]?:=fun j hj=>by
   have e1:(blRow l)[k*4+j]? = cur[k*4+j]?:=by
    rw [← ht,List.getElem?_take,if_pos (by omega)]
    simp
   rw [← blRow_get l k j hk hj,e1]
   simp [World.cell?,hg]
  exact ⟨C 0 (by omega),C 1 (by omega),C 2 (by omega),C 3 (by omega)⟩
theorem BlRow.below {w w':World} {n:Nat} {v:Value} {l:List Bl} (h:BlRow w n v l) (hb:Below w.heap.size w w'):BlRow w' n v l:=by
 rcases h.2 with ⟨hv,hn⟩ | ⟨g1,c1,cur,hv,hb1,hh,r⟩
 ·exact ⟨h.1,.inl ⟨hv,hn⟩⟩
 ·exact ⟨h.1,.inr ⟨g1,c1,cur,hv,hb1,(hb.block g1 (Array.getElem?_eq_some_iff.1 hh).1).trans hh,r⟩⟩
theorem bl_info:(Tryz.prog.info? 146).map (fun i=>(i.zero,i.size,i.bytes))=some (some (.agg #[.int .i64 0,.string ByteArray.empty,.string ByteArray.empty,.int .i64 0]),4,48):=by kernel_rfl
end Go.Proofs.YtjdjfpkjikdkoaaGreatDoor
