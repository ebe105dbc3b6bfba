/-
  Part of a proof (see the last text).
-/
import Derived.Test.YtjdjfpkjikdkoaaGreatDoorZs15
import Derived.Test.YtjdjfpkjikdkoaaGreatDoorZs13
import Derived.Test.YtjdjfpkjikdkoaaGreatDoorZs2
import Derived.Deep.RegionLaw
import Derived.Test.YtjdjfpkjikdkoaaGreatDoorProg
import Derived.WalkKit
import Derived.WalkSpells
import Derived.Lib.ItoaNum
import Derived.Test.YtjdjfpkjikdkoaaGreatDoorZs14
import Derived.Test.YtjdjfpkjikdkoaaGreatDoorZs6
import Derived.Laws.NewBlocks
set_option linter.unusedVariables false
set_option linter.unusedSimpArgs false
set_option maxRecDepth 100000
namespace Go.Proofs.YtjdjfpkjikdkoaaGreatDoor
open Go.RowKit Go.Lib
structure BTells3 (g:Nat) (u v z:Value) (p:Bl→Bool) (w:World):Prop where
 eg:∀ args W,(callFunc g args).run Tryz.prog W=.ok (.enter g args) W
 call:∀ (x:Bl) W,Below w.heap.size w W→Calls Tryz.prog g #[.agg x.cells,u,v,z] W fun e w'=>e=.returned (.bool (p x))∧Below W.heap.size W w'
set_option maxHeartbeats 1000000 in
theorem fidx3_some (g:Nat) (u v z:Value) (p:Bl→Bool) (b off cap:Nat) (l:List Bl) (w:World) (hp:BTells3 g u v z p w) (hb:b<w.heap.size) (hlen:(l.length:Int)≤9223372036854775807) (hc:BlsAt w b off l) :
  Calls Tryz.prog 120 #[.slice (some ⟨b,off,none⟩) l.length cap,.func (.func g) #[] #[u,v,z]] w fun e w'=>e=.returned (.int .i64 (fidx p 0 l))∧Below w.heap.size w w':=by
 have eg:=hp.eg
 have Hp:Hid (BTells3 g u v z p w):=hp
 have Hc:Hid (BlsAt w b off l):=hc
 clear hp hc
 obtain ⟨res,hres⟩:∃ res,fidx p 0 l=res:=⟨_,rfl⟩
 have Hres:Hid (fidx p 0 l=res):=hres
 rw [hres]
 clear hres
 go_enter Tryz.func120,Tryz.ntmps120
 go_wp2
 go_loopw [8] (fun i wr=>∃ k:Nat,k≤l.length∧i=.int .i64 k∧Hid (fidx p k (l.drop k)=res)∧Below w.heap.size w wr) (fun i _=>l.length - (RowKit.intOf i).toNat)
 case atStart=>exact ⟨0,Nat.zero_le _,rfl,Hres.out,Below.refl _ _⟩
 case round=>
  obtain ⟨k,hk,rfl,H,BW⟩:=hrel
  by_cases hlt:k<l.length
  ·have hn:=(Hc.out k hlt).below BW hb
   have hcall:=Hp.out.call (l.getD k bl0) wr BW
   have E:Hid ((if p (l.getD k bl0)=true then (k:Int) else fidx p (k+1) (l.drop (k+1)))=res):=by
    have:=H.out
    rw [bls_drop l k hlt] at this
    exact this
   clear H
   generalize l.getD k bl0=a at *
   obtain ⟨a0,a1,a2,a3⟩:=a
   obtain ⟨c0,c1,c2,c3⟩:=hn
   simp only [Bl.cells] at c0 c1 c2 c3 hcall
   have i0:(0:Int)≤k:=by omega
   have i1:(k:Int)<l.length:=by omega
   cases hq:p ⟨a0,a1,a2,a3⟩
   ·rw [hq] at hcall
    have HN:Hid (fidx p (k+1) (l.drop (k+1))=res):=by
     have:=E.out;rw [if_neg (by rw [hq];simp)] at this;exact this
    go_wp2_with (go_at_fn g;refine hcall.mono ?_;rintro e w' ⟨rfl,hb'⟩)
    go_roundw
    case rel=>exact ⟨k+1,by omega,by go_num,HN,BW.trans (hb'.mono BW.size)⟩
    case measure=>simp [RowKit.intOf];omega
   ·rw [hq] at hcall
    have er:res=k:=by rw [← E.out,if_pos hq]
    subst er
    go_wp2_with (go_at_fn g;refine hcall.mono ?_;rintro e w' ⟨rfl,hb'⟩)
    go_ret
    exact ⟨rfl,BW.trans (hb'.mono BW.size)⟩
  ·have hk2:k=l.length:=by omega
   subst hk2
   have er:res = -1:=by rw [← H.out,List.drop_length];rfl
   subst er
   go_wp2
   go_ret
   exact ⟨rfl,BW⟩
theorem fidx3_nil (a:Option Addr) (cap:Nat) (f:Value) (w:World) :
  Calls Tryz.prog 120 #[.slice a 0 cap,f] w fun e w'=>e=.returned (.int .i64 (-1))∧Below w.heap.size w w':=by
 go_enter Tryz.func120,Tryz.ntmps120
 go_wp2
 refine wp_loop_rounds 1 ?_
 rw [rounds_succ]
 go_wp2
 go_ret
 exact ⟨rfl,Below.refl _ _⟩
theorem fidx3_any (g:Nat) (u v z:Value) (p:Bl→Bool) (a:Option Addr) (cap:Nat) (l:List Bl) (w:World) (hp:BTells3 g u v z p w) (hlen:(l.length:Int)≤9223372036854775807) (h:IsBl w a l cap) :
  Calls Tryz.prog 120 #[.slice a l.length cap,.func (.func g) #[] #[u,v,z]] w fun e w'=>e=.returned (.int .i64 (fidx p 0 l))∧Below w.heap.size w w':=by
 rcases h.lies with rfl | ⟨b,off,rfl,hlt,hc⟩
 ·exact fidx3_nil a cap _ w
 ·exact fidx3_some g u v z p b off cap l w hp hlt hlen hc
set_option maxHeartbeats 2000000 in
theorem has1_any (x:Bl) (en:Int) (acc cur:ByteArray) (B1 B2 B3:Nat) (w:World) (h1:B1<w.heap.size) (h2:B2<w.heap.size) (h3:B3<w.heap.size) (hB1:w.cell? ⟨B1,0,none⟩=some (.int .i64 en)) (hB2:w.cell? ⟨B2,0,none⟩=some (.string acc)) (hB3:w.cell? ⟨B3,0,none⟩=some (.string cur)) :
  Calls Tryz.prog 121 #[.agg x.cells,.pointer (some ⟨B1,0,none⟩),.pointer (some ⟨B2,0,none⟩),.pointer (some ⟨B3,0,none⟩)] w fun e w'=>e=.returned (.bool (hasB en acc cur x))∧Below w.heap.size w w':=by
 obtain ⟨x0,x1,x2,x3⟩:=x
 have b0:Below w.heap.size w (w.alloc (.cells #[.int .i64 x0,.string x1,.string x2,.int .i64 x3] 146)):=(Below.refl _ w).alloc (Nat.le_refl _) _
 have k1:(w.alloc (.cells #[.int .i64 x0,.string x1,.string x2,.int .i64 x3] 146)).cell? ⟨B1,0,none⟩=some (.int .i64 en):=(b0.cell (p:=⟨B1,0,none⟩) h1).trans hB1
 have k2:(w.alloc (.cells #[.int .i64 x0,.string x1,.string x2,.int .i64 x3] 146)).cell? ⟨B2,0,none⟩=some (.string acc):=(b0.cell (p:=⟨B2,0,none⟩) h2).trans hB2
 have k3:(w.alloc (.cells #[.int .i64 x0,.string x1,.string x2,.int .i64 x3] 146)).cell? ⟨B3,0,none⟩=some (.string cur):=(b0.cell (p:=⟨B3,0,none⟩) h3).trans hB3
 simp only [Bl.cells]
 clear hB1 hB2 hB3
 by_cases c1:x0=en
 ·have c1':(x0 == en)=true:=by simp [c1]
  by_cases c2:x1=acc
  ·by_cases c3:x2=cur
   ·have e1:hasB en acc cur ⟨x0,x1,x2,x3⟩=true:=by simp [hasB,c1,c2,c3]
    rw [e1]
    subst c1
    subst c2
    subst c3
    go_enter Tryz.func121,Tryz.ntmps121
    go_wp2
    go_ret
    exact ⟨rfl,b0⟩
   ·have e1:hasB en acc cur ⟨x0,x1,x2,x3⟩=false:=by simp [hasB,c3]
    have c3':=ch_ne c3
    rw [e1]
    subst c1
    subst c2
    go_enter Tryz.func121,Tryz.ntmps121
    go_wp2
    go_ret
    exact ⟨by rw [← c3'];rfl,b0⟩
  ·have e1:hasB en acc cur ⟨x0,x1,x2,x3⟩=false:=by simp [hasB,c2]
   have c2':=ch_ne c2
   rw [e1]
   subst c1
   go_enter Tryz.func121,Tryz.ntmps121
   go_wp2
   go_ret
   exact ⟨rfl,b0⟩
 ·have e1:hasB en acc cur ⟨x0,x1,x2,x3⟩=false:=by simp [hasB,c1]
  have c1':(x0 == en)=false:=by rw [beq_eq_false_iff_ne];exact c1
  rw [e1]
  go_enter Tryz.func121,Tryz.ntmps121
  go_wp2
  go_ret
  exact ⟨rfl,b0⟩
theorem cell_new1 (w:World) (v:Value) (t:TypeId):(w.alloc (.cells #[v] t)).cell? ⟨w.heap.size,0,none⟩=some v:=by simp
set_option maxHeartbeats 2000000 in
theorem ldHas_any (a:Option Addr) (cap:Nat) (b:List Bl) (en:Int) (acc cur:ByteArray) (w:World) (hlen:(b.length:Int)≤9223372036854775807) (h:IsBl w a b cap) :
  Calls Tryz.prog 82 #[.slice a b.length cap,.int .i64 en,.string acc,.string cur] w fun e w'=>e=.returned (.int .i64 (getB b en acc cur))∧Below w.heap.size w w':=by
 obtain ⟨w0,hw0⟩:∃ w0,((w.alloc (.cells #[.int .i64 en] 3)).alloc (.cells #[.string acc] 9)).alloc (.cells #[.string cur] 9)=w0:=⟨_,rfl⟩
 have b1:Below w.heap.size w (w.alloc (.cells #[.int .i64 en] 3)):=(Below.refl _ w).alloc (Nat.le_refl _) _
 have b1':Below w.heap.size w ((w.alloc (.cells #[.int .i64 en] 3)).alloc (.cells #[.string acc] 9)):=b1.alloc b1.size _
 have b2:Below w.heap.size w w0:=by rw [← hw0];exact b1'.alloc b1'.size _
 have hs:w0.heap.size=w.heap.size+3:=by rw [← hw0];simp
 have q1:=cell_new1 w (.int .i64 en) 3
 have q2:=cell_new1 (w.alloc (.cells #[.int .i64 en] 3)) (.string acc) 9
 have q3:=cell_new1 ((w.alloc (.cells #[.int .i64 en] 3)).alloc (.cells #[.string acc] 9)) (.string cur) 9
 have z1:(w.alloc (.cells #[.int .i64 en] 3)).heap.size=w.heap.size+1:=by simp
 have z2:((w.alloc (.cells #[.int .i64 en] 3)).alloc (.cells #[.string acc] 9)).heap.size=w.heap.size+2:=by simp
 have k3:w0.cell? ⟨w.heap.size+2,0,none⟩=some (.string cur):=by rw [← hw0,← z2];exact q3
 have k2:w0.cell? ⟨w.heap.size+1,0,none⟩=some (.string acc):=by
  rw [← hw0,← z1]
  exact (((Below.refl _ _).alloc (Nat.le_refl _) _:Below _ ((w.alloc (.cells #[.int .i64 en] 3)).alloc (.cells #[.string acc] 9)) _).cell (p:=⟨_,0,none⟩) (by simp)).trans q2
 have k1:w0.cell? ⟨w.heap.size,0,none⟩=some (.int .i64 en):=by
  have d1:Below (w.heap.size+1) (w.alloc (.cells #[.int .i64 en] 3)) ((w.alloc (.cells #[.int .i64 en] 3)).alloc (.cells #[.string acc] 9)):=(Below.refl _ _).alloc (by simp) _
  have d2:=d1.alloc (by simp) (.cells #[.string cur] 9)
  rw [← hw0]
  exact (d2.cell (p:=⟨w.heap.size,0,none⟩) (by show w.heap.size<_;omega)).trans q1
 have T:BTells3 121 (.pointer (some ⟨w.heap.size,0,none⟩)) (.pointer (some ⟨w.heap.size+1,0,none⟩)) (.pointer (some ⟨w.heap.size+2,0,none⟩)) (hasB en acc cur) w0:=by
  refine ⟨fun args W=>enters Tryz.func121 (by kernel_rfl) ⟨_,rfl⟩ args W,fun x W hW=>?_⟩
  have hsz:=hW.size
  exact has1_any x en acc cur w.heap.size (w.heap.size+1) (w.heap.size+2) W (by omega) (by omega) (by omega) ((hW.cell (p:=⟨w.heap.size,0,none⟩) (by show w.heap.size<_;omega)).trans k1) ((hW.cell (p:=⟨w.heap.size+1,0,none⟩) (by show w.heap.size+1<_;omega)).trans k2) ((hW.cell (p:=⟨w.heap.size+2,0,none⟩) (by show w.heap.size+2<_;omega)).trans k3)
 have HI:Hid (Calls _ _ _ _ _):=fidx3_any _ _ _ _ _ a cap b w0 T hlen (h.below b2)
 obtain ⟨res,hres⟩:∃ res,getB b en acc cur=res:=⟨_,rfl⟩
 have Hres:Hid (getB b en acc cur=res):=hres
 rw [hres]
 have HW0:Hid (_=w0):=hw0
 have HB2:Hid (Below w.heap.size w w0):=b2
 have HH:Hid (IsBl w a b cap):=h
 clear hres T h hw0 b1 b2 b1' hs q1 q2 q3 z1 z2 k1 k2 k3
 rcases fidx_spec (hasB en acc cur) b 0 with ⟨e1,e2⟩ | ⟨j,hj,e1,e2⟩
 ·have er:res=0:=by rw [← Hres.out];unfold getB;rw [e2];rfl
  subst er
  rw [e1] at HI
  clear e1 e2 Hres HH
  go_enter Tryz.func82,Tryz.ntmps82
  go_upto_region 1 with fail
  rw [HW0.out]
  go_wp2_with (go_at_call 120;refine HI.out.mono ?_;rintro e w1 ⟨rfl,hb1⟩)
  go_ret
  exact ⟨rfl,HB2.out.trans (hb1.mono HB2.out.size)⟩
 ·have er:res=(b.getD j bl0).amt:=by rw [← Hres.out];unfold getB;rw [e2];rfl
  rw [e1,Nat.zero_add] at HI
  obtain ⟨bb,off,rfl,hlt,hc⟩:=HH.out.some hj
  have HC:Hid (∀ W,Below w.heap.size w W→W.cell? ⟨bb,off+j*4+3,none⟩=some (.int .i64 res)):=fun W hW=>by
   rw [er];exact ((hc j hj).below hW hlt).c3
  have j0:(0:Int)≤j:=by omega
  have j1:(j:Int)<b.length:=by omega
  have j2:¬ (j:Int)<0:=by omega
  clear e1 e2 Hres HH er hc
  go_enter Tryz.func82,Tryz.ntmps82
  go_upto_region 1 with fail
  rw [HW0.out]
  go_wp2_with fail
  refine HI.out.mono ?_
  rintro e w1 ⟨rfl,hb1⟩
  have B3:=HB2.out.trans (hb1.mono HB2.out.size)
  have c3:=HC.out w1 B3
  clear HC HI hb1 HB2 HW0
  go_wp2
  go_ret
  exact ⟨rfl,B3⟩
end Go.Proofs.YtjdjfpkjikdkoaaGreatDoor
namespace Go.Proofs.YtjdjfpkjikdkoaaGreatDoor
open Go.RowKit Go.Lib
theorem alWithin_any (n:Int) (w:World) :
  Calls Tryz.prog 95 #[.int .i64 n] w fun e w'=>e=.returned (.bool (decide (-(1000000000000000:Int)≤n∧n≤1000000000000000)))∧w'=w:=by
 have h:=isAmount_any n w
 have e:isAmtB n=decide (-(1000000000000000:Int)≤n∧n≤1000000000000000):=by unfold isAmtB;rw [Bool.decide_and]
 rw [e] at h
 exact h
end Go.Proofs.YtjdjfpkjikdkoaaGreatDoor
namespace Go.Proofs.YtjdjfpkjikdkoaaGreatDoor
open Go.RowKit Go.Lib
def isNo (x:Ln):Bool:=decide (x.amt=0)
def toLn (p:Po) (has:Int) (i:Nat):Ln:=⟨p.tos.getD i ByteArray.empty,p.cur,shareI has p.ws i⟩
def allL (p:Po) (has:Int):List Ln:=(⟨p.acc,p.cur,-has⟩:Ln) :: (List.range p.tos.length).map (toLn p has)
def goL (p:Po) (has:Int):List Ln:=(allL p has).filter fun x=>!isNo x
theorem allL_len (p:Po) (has:Int):(allL p has).length=p.tos.length+1:=by simp [allL]
theorem range_snoc {α:Type} (f:Nat→α) (k:Nat):(List.range (k+1)).map f=(List.range k).map f++[f k]:=by
 rw [List.range_succ,List.map_append];rfl
theorem given1_tells:LTells 123 isNo:=by
 refine ⟨fun args W=>enters Tryz.func123 (by kernel_rfl) ⟨_,rfl⟩ args W,fun x W=>?_⟩
 obtain ⟨x0,x1,x2⟩:=x
 have b0:Below W.heap.size W (W.alloc (.cells #[.string x0,.string x1,.int .i64 x2] 116)):=(Below.refl _ W).alloc (Nat.le_refl _) _
 simp only [Ln.cells]
 by_cases h:x2=0
 ·have e1:isNo ⟨x0,x1,x2⟩=true:=by simp [isNo,h]
  rw [e1]
  subst h
  go_enter Tryz.func123,Tryz.ntmps123
  go_wp2
  go_ret
  exact ⟨rfl,b0⟩
 ·have e1:isNo ⟨x0,x1,x2⟩=false:=by simp [isNo,h]
  have h':(x2 == 0)=false:=by rw [beq_eq_false_iff_ne];exact h
  rw [e1]
  go_enter Tryz.func123,Tryz.ntmps123
  go_wp2
  go_ret
  exact ⟨rfl,b0⟩
theorem given_bad (p:Po) (has:Int) (w:World) (h:¬ (-1000000000000000≤has∧has≤1000000000000000)) :
  Calls Tryz.prog 83 #[.agg p.cells,.int .i64 has] w fun e w'=>e=.returned (.tuple #[.slice none 0 0,chE 1])∧Below w.heap.size w w':=by
 have b0:Below w.heap.size w (w.alloc (.cells p.cells 82)):=(Below.refl _ w).alloc (Nat.le_refl _) _
 have HI:Hid (∀ W,Calls Tryz.prog 95 #[.int .i64 has] W fun e w'=>e=.returned (.bool false)∧w'=W):=fun W=>by
  have:=alWithin_any has W
  rw [decide_eq_false h] at this
  exact this
 rw [chE_ne (by decide)]
 obtain ⟨acc,cur,tA,tC,tos,wA,wC,ws⟩:=p
 simp only [Po.cells] at b0 ⊢
 clear h
 go_enter Tryz.func83,Tryz.ntmps83
 go_wp2_with (go_at_call 95;refine (HI.out _).mono ?_;rintro e w' ⟨rfl,rfl⟩)
 go_ret2
 exact ⟨rfl,b0⟩
theorem lnRow_new (w:World) (n0:Nat) (x:Ln) (hn:n0≤w.heap.size):LnRow (w.alloc (.cells x.cells 116)) n0 (.slice (some ⟨w.heap.size,0,none⟩) 1 1) [x]:=by
 refine ⟨rfl,.inr ⟨w.heap.size,1,x.cells,rfl,hn,by unfold World.alloc;simp only [Array.getElem?_push_size],Nat.le_refl _,by unfold maxLen;omega,rfl,?_⟩⟩
 simp [lnRow,Ln.cells]
set_option maxHeartbeats 8000000 in
theorem given_ok (p:Po) (has:Int) (w:World) (hp:PoOk w p) (he:p.ws.length=p.tos.length) (h19:p.tos.length≤19) (hs:shBad p.ws=0) (h:-1000000000000000≤has∧has≤1000000000000000) :
  Calls Tryz.prog 83 #[.agg p.cells,.int .i64 has] w fun e w'=>∃ v,e=.returned (.tuple #[v,.nilIface])∧LnRow w' w.heap.size v (goL p has)∧Below w.heap.size w w':=by
 obtain ⟨B,hB⟩:∃ B,w.heap.size=B:=⟨_,rfl⟩
 obtain ⟨w0,hw0⟩:∃ w0,w.alloc (.cells p.cells 82)=w0:=⟨_,rfl⟩
 have B0:Below w.heap.size w w0:=by rw [← hw0];exact (Below.refl _ w).alloc (Nat.le_refl _) _
 have hs0:B<w0.heap.size:=by rw [← hw0,← hB];simp
 have HA:Hid (∀ W,Below w0.heap.size w0 W→PoAt W B 0 p∧PoOk W p∧Below w.heap.size w W):=fun W hW=>by
  exact ⟨(by rw [← hw0,← hB];exact PoAt.new w p _:PoAt w0 B 0 p).below hW hs0,(hp.below B0).below hW,B0.trans (hW.mono (by omega))⟩
 have HI:Hid (∀ W,Calls Tryz.prog 95 #[.int .i64 has] W fun e w'=>e=.returned (.bool true)∧w'=W):=fun W=>by
  have:=alWithin_any has W
  rw [decide_eq_true h] at this
  exact this
 have HS:Hid (Calls Tryz.prog 106 #[.int .i64 has,.slice p.wA p.ws.length p.wC] w0 fun e w'=>∃ g,e=.returned (.tuple #[.slice (some ⟨g,0,none⟩) p.tos.length p.tos.length,.nilIface])∧NRow w' g ((List.range p.tos.length).map (shareI has p.ws))∧Below w0.heap.size w0 w'):=by
  refine (shares_any has p.wA p.ws p.wC w0 (hp.below B0).iw hp.lw (by unfold Math.I64;omega)).mono ?_
  rintro e w' ⟨hb,_,h2⟩
  obtain ⟨g,hg,rfl,hr⟩:=h2 hs
  rw [he] at hr ⊢
  exact ⟨g,rfl,hr,hb⟩
 have HD:Hid (∀ n1 v W,n1≤W.heap.size→LnRow W n1 v (allL p has)→Calls Tryz.prog 122 #[v,.func (.func 123) #[] #[]] W fun e w'=>∃ v',e=.returned v'∧LnRow w' n1 v' (goL p has)∧Below n1 W w'):=fun n1 v W hW hr=>
  delete_own 123 isNo n1 v (allL p has) W given1_tells (by rw [allL_len];omega) hW hr
 have HEnd:Hid (∀ w1 v W,LnRow W w1.heap.size v (goL p has)→Below w0.heap.size w0 w1→Below w1.heap.size w1 W→LnRow W w.heap.size v (goL p has)∧Below w.heap.size w W):=fun w1 v W h1 h2 h3=>by
  have:=h2.size
  exact ⟨h1.mono (by omega),(B0.trans (h2.mono (by omega))).trans (h3.mono (by omega))⟩
 have iw:IntKind.i64.wrap (-has) = -has:=by
  simp only [IntKind.wrap,IntKind.bits,IntKind.signed]
  simp
  omega
 have HW0:Hid (w.alloc (.cells p.cells 82)=w0):=hw0
 have hcap:p.tos.length≤p.tC:=hp.tx.cap
 have HSt:Hid (∀ k,(⟨p.acc,p.cur,-has⟩:Ln) :: (List.range (k+1)).map (toLn p has)=((⟨p.acc,p.cur,-has⟩:Ln) :: (List.range k).map (toLn p has))++[⟨p.tos.getD k ByteArray.empty,p.cur,shareI has p.ws k⟩]):=fun k=>by
  rw [range_snoc];rfl
 have HAll:Hid (allL p has=(⟨p.acc,p.cur,-has⟩:Ln) :: (List.range p.tos.length).map (toLn p has)):=rfl
 obtain ⟨all,hall⟩:∃ all,allL p has=all:=⟨_,rfl⟩
 obtain ⟨out,hout⟩:∃ out,goL p has=out:=⟨_,rfl⟩
 obtain ⟨tl,htl⟩:∃ tl,toLn p has=tl:=⟨_,rfl⟩
 rw [hall] at HAll
 rw [hall,hout] at HD
 rw [hout] at HEnd ⊢
 rw [htl] at HAll HSt
 clear hw0 hp hs B0 hall hout htl
 obtain ⟨i0,hi,hz0,hz1,hz2⟩:=info_parts ln_info
 obtain ⟨acc,cur,tA,tC,tos,wA,wC,ws⟩:=p
 simp only [Po.cells] at HW0 HA HS HD HEnd hcap HSt HAll h19 he ⊢
 obtain ⟨n,hn⟩:∃ n,tos.length=n:=⟨_,rfl⟩
 have Hn:Hid (tos.length=n):=hn
 rw [he] at HS HW0 ⊢
 have Hwn:Hid (ws.length=n):=he.trans hn
 rw [hn] at HS HW0 HAll h19 hcap ⊢
 clear he hn
 obtain ⟨⟨d0,d1,d2,d3⟩,_,_⟩:=HA.out w0 (Below.refl _ _)
 simp only [Nat.zero_add] at d0 d1 d2 d3
 rw [Hn.out] at d2
 rw [Hwn.out] at d3
 go_enter Tryz.func83,Tryz.ntmps83
 go_upto_region 1 with fail
 rw [HW0.out]
 clear HW0
 go_wp2_with fail
 refine (HI.out _).mono ?_
 rintro e w' ⟨rfl,hw⟩
 rw [hw];clear hw w' HI
 go_wp2_with fail
 refine HS.out.mono ?_
 rintro e w1 ⟨g,rfl,hr,hb1⟩
 have HR:Hid (NRow w1 g ((List.range n).map (shareI has ws))):=hr
 have HB1:Hid (Below w0.heap.size w0 w1):=hb1
 have hgl:g<w1.heap.size:=by
  unfold NRow at hr
  exact (Array.getElem?_eq_some_iff.1 hr).1
 clear HS hr hb1 d0 d1 d2 d3
 obtain ⟨⟨d0,d1,d2,d3⟩,_,_⟩:=HA.out w1 HB1.out
 simp only [Nat.zero_add] at d0 d1 d2 d3
 rw [Hn.out] at d2
 rw [Hwn.out] at d3
 have HN0:Hid (LnRow (w1.alloc (.cells #[.string acc,.string cur,.int .i64 (-has)] 116)) w1.heap.size (.slice (some ⟨w1.heap.size,0,none⟩) 1 1) [⟨acc,cur,-has⟩]):=lnRow_new w1 w1.heap.size ⟨acc,cur,-has⟩ (Nat.le_refl _)
 obtain ⟨w2,hw2⟩:∃ w2,w1.alloc (.cells #[.string acc,.string cur,.int .i64 (-has)] 116)=w2:=⟨_,rfl⟩
 rw [hw2] at HN0
 have HW2:Hid (w1.alloc (.cells #[.string acc,.string cur,.int .i64 (-has)] 116)=w2):=hw2
 have HB2:Hid (Below w1.heap.size w1 w2):=by rw [← hw2];exact (Below.refl _ w1).alloc (Nat.le_refl _) _
 clear hw2
 go_upto_region 7 with fail
 rw [HW2.out]
 clear HW2
 obtain ⟨n1,hn1⟩:∃ n1,w1.heap.size=n1:=⟨_,rfl⟩
 have Hn1:Hid (w1.heap.size=n1):=hn1
 rw [hn1] at HN0 HB2 hgl ⊢
 clear hn1
 have HX:Hid (∀ W,Below n1 w1 W→PoAt W B 0 ⟨acc,cur,tA,tC,tos,wA,wC,ws⟩∧PoOk W ⟨acc,cur,tA,tC,tos,wA,wC,ws⟩∧∀ k,k<n→W.cell? ⟨g,k,none⟩=some (.int .i64 (shareI has ws k))):=fun W hW=>by
  have h1:=HB1.out.trans (hW.mono (by have:=HB1.out.size;have:=Hn1.out;omega))
  obtain ⟨e1,e2,_⟩:=HA.out W h1
  refine ⟨e1,e2,fun k hk=>?_⟩
  rw [hW.cell (p:=⟨g,k,none⟩) hgl]
  have:=HR.out.cell (i:=k) (by simp;exact hk)
  rw [this]
  simp [List.getD_eq_getElem?_getD,hk]
 clear d0 d1 d2 d3
 obtain ⟨⟨d0,d1,d2,d3⟩,_,_⟩:=HX.out w2 HB2.out
 simp only [Nat.zero_add] at d0 d1 d2 d3
 rw [Hn.out] at d2
 rw [Hwn.out] at d3
 have i5:(n:Int)≤19:=by omega
 have hnw:n1≤w2.heap.size:=by have:=HB2.out.size;have:=Hn1.out;omega
 go_wp2
 go_loopw [8,36] (fun s8 i wr=>∃ k:Nat,k≤n∧i=.int .i64 k∧Hid (LnRow wr n1 s8 ((⟨acc,cur,-has⟩:Ln) :: (List.range k).map tl))∧Hid (Below n1 w1 wr)) (fun _ i _=>n - (RowKit.intOf i).toNat)
 case atStart=>exact ⟨0,Nat.zero_le _,rfl,HN0,HB2⟩
 case round=>
  obtain ⟨k,hk,rfl,R,HB⟩:=hrel
  clear d0 d1 d2 d3
  obtain ⟨⟨d0,d1,d2,d3⟩,hok,hsh⟩:=HX.out wr HB.out
  simp only [Nat.zero_add] at d0 d1 d2 d3
  rw [Hn.out] at d2
  rw [Hwn.out] at d3
  have hwr:n1≤wr.heap.size:=by have:=HB.out.size;have:=Hn1.out;omega
  by_cases hkn:k<n
  ·obtain ⟨b,off,e,hbl,hc⟩:=hok.tx.at (k:=k) (by show k<tos.length;rw [Hn.out];exact hkn)
   simp only at e hc
   subst e
   have cs:=hsh k hkn
   have hst:=HSt.out k
   have hfl:((⟨acc,cur,-has⟩:Ln) :: (List.range k).map tl).length=k+1:=by simp
   clear hok hsh
   generalize (⟨acc,cur,-has⟩:Ln) :: (List.range k).map tl=fs at *
   generalize tos.getD k ByteArray.empty=x0 at *
   generalize shareI has ws k=x2 at *
   obtain ⟨a,cq,rfl,_⟩:=R.out.isLn
   have Hfl:Hid (fs.length=k+1):=hfl
   rw [hfl] at R ⊢
   clear hfl
   have j0:(0:Int)≤k:=by omega
   have j1:(k:Int)<n:=by omega
   have Hst:Hid (_=_):=hst
   have hro:World.ownsRow (wr.alloc (.cells #[.string x0,.string cur,.int .i64 x2] 116)).drew n1 116 3 (.slice a (k+1) cq) (k+1) (lnRow fs):=by
    have:=World.ownsRow.drew (World.ownsRow.alloc R.out (.cells #[.string x0,.string cur,.int .i64 x2] 116))
    unfold LnRow at this
    rw [Hfl.out] at this
    exact this
   have HRO:Hid (World.ownsRow _ _ _ _ _ _ _):=hro
   have k1:∀ j u,([.string x0,.string cur,.int .i64 x2]:List Value)[j]? = some u→(wr.alloc (.cells #[.string x0,.string cur,.int .i64 x2] 116)).drew.cell? ((⟨wr.heap.size,0,none⟩:Addr).add j)=some u:=fun j u h=>cells_three wr x0 cur x2 wr.heap.size 116 rfl j u h
   have K1:Hid (∀ j u,([.string x0,.string cur,.int .i64 x2]:List Value)[j]? = some u→(wr.alloc (.cells #[.string x0,.string cur,.int .i64 x2] 116)).drew.cell? ((⟨wr.heap.size,0,none⟩:Addr).add j)=some u):=k1
   have s1:∀ u∈([.string x0,.string cur,.int .i64 x2]:List Value),u.oneCell'=true:=by intro u hu;simp at hu;rcases hu with rfl | rfl | rfl <;> rfl
   have s2:Hid (k+1+1≤maxLen):=by unfold Hid maxLen;omega
   have s3:Hid ((k+1+1)*40≤140737488355328):=by unfold Hid;omega
   have s4:Hid (n1≤(wr.alloc (.cells #[.string x0,.string cur,.int .i64 x2] 116)).drew.heap.size):=by unfold Hid;simp;omega
   have s5:Hid ((wr.alloc (.cells #[.string x0,.string cur,.int .i64 x2] 116)).drew.heap.size=wr.heap.size+1):=by unfold Hid;simp
   have B2:=(HB.out.alloc hwr (.cells #[.string x0,.string cur,.int .i64 x2] 116)).drew
   have hoj:∀ j,(Value.slice a (k+1) cq).ownBlock=some j→n1≤j:=fun j e=>(World.ownsRow.lt hro j e).1
   have HB2':Hid (Below n1 w1 _):=B2
   have HOJ:Hid (∀ j,(Value.slice a (k+1) cq).ownBlock=some j→n1≤j):=hoj
   have HWR:Hid (n1≤wr.heap.size):=hwr
   clear k1 hst hro R HB B2 hoj HX HSt HD HAll HEnd HA HN0 HR
   go_wp2_with fail
   go_region_law (refine step_append_lies _ rfl (.tmp 41) (.tmp 50) 40 rfl n1 116 i0 (.agg #[.string ByteArray.empty,.string ByteArray.empty,.int .i64 0]) 3 40 Tryz.underlying40 hi hz0 hz1 hz2 rfl (Nat.zero_lt_succ _) (.slice a (k+1) cq) (k+1) (lnRow fs) rfl HRO.out ⟨wr.heap.size,0,none⟩ 1 1 [.string x0,.string cur,.int .i64 x2] rfl rfl K1.out s1 (Nat.zero_lt_one) s2.out s3.out s4.out (wr.heap.size+1) s5.out ?_;intro g' cap' w3 hown' hgrow hat hlt2)
   all_goals
    have B3:=HB2'.out.grown hgrow (by have:=HWR.out;simp;omega) (fun j e=>by have:=HOJ.out j e;omega)
    have HR3:Hid (LnRow w3 n1 (.slice (some ⟨g',0,none⟩) (k+1+1) cap') ((⟨acc,cur,-has⟩:Ln) :: (List.range (k+1)).map tl)):=by
     unfold Hid
     rw [Hst.out]
     unfold LnRow
     rw [lnRow_append,lnRow_one,List.length_append,Hfl.out]
     exact hown'
    clear hown' hgrow hat
    go_wp2
    go_roundw
    case rel=>exact ⟨k+1,by omega,by go_num,HR3.out,B3⟩
    case measure=>simp [RowKit.intOf];omega
  ·have ek:k=n:=by omega
   subst ek
   have j1:¬ (k:Int)<k:=by omega
   obtain ⟨a,cq,e,_⟩:=R.out.isLn
   rw [show ((⟨acc,cur,-has⟩:Ln) :: (List.range k).map tl).length=k+1 by simp] at e
   subst e
   have R2:=R.out
   rw [← HAll.out] at R2
   have hDl:Hid (Calls Tryz.prog 122 #[.slice a (k+1) cq,.func (.func 123) #[] #[]] wr fun e w'=>∃ v',e=.returned v'∧LnRow w' n1 v' out∧Below n1 wr w'):=HD.out n1 _ wr hwr R2
   have HEn:Hid (∀ v W,LnRow W n1 v out→Below n1 wr W→LnRow W w.heap.size v out∧Below w.heap.size w W):=fun v W h1 h2=>HEnd.out w1 v W (by rw [Hn1.out];exact h1) HB1.out (by rw [Hn1.out];exact HB.out.trans h2)
   clear HD hok hsh R R2 HX HSt HA HN0 HR HEnd HAll HB HB2 hi hz0 hz1 hz2 hgl hnw hwr
   go_wp2_with fail
   refine hDl.out.mono ?_
   rintro e w3 ⟨v3,rfl,hr3,hb3⟩
   have HF:Hid (LnRow w3 w.heap.size v3 out∧Below w.heap.size w w3):=HEn.out v3 w3 hr3 hb3
   clear hDl hr3 hb3 HEn
   go_wp2
   go_ret2
   exact ⟨v3,rfl,HF.out⟩
end Go.Proofs.YtjdjfpkjikdkoaaGreatDoor
namespace Go.Proofs.YtjdjfpkjikdkoaaGreatDoor
open Go.RowKit Go.Lib
def digS (i:Nat):ByteArray:=if i<10 then ⟨#[UInt8.ofNat (48+i)]⟩ else ⟨#[UInt8.ofNat (48+i / 10),UInt8.ofNat (48+i % 10)]⟩
theorem lt20 {p:Nat→Prop} (h0:p 0) (h1:p 1) (h2:p 2) (h3:p 3) (h4:p 4) (h5:p 5) (h6:p 6) (h7:p 7) (h8:p 8) (h9:p 9) (h10:p 10) (h11:p 11) (h12:p 12) (h13:p 13) (h14:p 14) (h15:p 15) (h16:p 16) (h17:p 17) (h18:p 18) (h19:p 19):∀ i,i<20→p i:=by
 intro i hi
 rcases (by omega:i=0∨i=1∨i=2∨i=3∨i=4∨i=5∨i=6∨i=7∨i=8∨i=9∨i=10∨i=11∨i=12∨i=13∨i=14∨i=15∨i=16∨i=17∨i=18∨i=19) with rfl | rfl | rfl | rfl | rfl | rfl | rfl | rfl | rfl | rfl | rfl | rfl | rfl | rfl | rfl | rfl | rfl | rfl | rfl | rfl <;> assumption
set_option maxHeartbeats 4000000 in
theorem itoSmall_any:∀ i,i<20→∀ w,Calls Tryz.prog 137 #[.int .i64 ((i:Nat):Int)] w fun e w'=>e=.returned (.string (digS i))∧w'=w:=by
 apply lt20
 all_goals
  intro w
  go_enter Tryz.func137,Tryz.ntmps137
  go_wp2
  go_ret
  exact ⟨by first | rfl | kernel_rfl,rfl⟩
theorem itoa_any (i:Nat) (hi:i<20) (w:World):Calls Tryz.prog 23 #[.int .i64 ((i:Nat):Int)] w fun e w'=>e=.returned (.string (digS i))∧w'=w:=by
 have HS:Hid (∀ W,Calls Tryz.prog 137 #[.int .i64 ((i:Nat):Int)] W fun e w'=>e=.returned (.string (digS i))∧w'=W):=itoSmall_any i hi
 have h1:(i:Int)<100:=by omega
 have h0:(0:Int)≤i:=by omega
 have HF:Hid (∀ W,Calls Tryz.prog 102 #[.int .i64 ((i:Nat):Int),.int .i64 10] W fun e w'=>e=.returned (.string (digS i))∧w'=W):=fun W=>by
  go_enter Tryz.func102,Tryz.ntmps102
  go_wp2_with (go_at_call 137;refine (HS.out _).mono ?_;rintro e w' ⟨rfl,rfl⟩)
  go_ret
  exact ⟨rfl,rfl⟩
 have HI:Hid (∀ W,Calls Tryz.prog 55 #[.int .i64 ((i:Nat):Int)] W fun e w'=>e=.returned (.string (digS i))∧w'=W):=fun W=>by
  go_enter Tryz.func55,Tryz.ntmps55
  go_wp2_with (go_at_call 102;refine (HF.out _).mono ?_;rintro e w' ⟨rfl,rfl⟩)
  go_ret
  exact ⟨rfl,rfl⟩
 go_enter Tryz.func23,Tryz.ntmps23
 go_wp2_with (go_at_call 55;refine (HI.out _).mono ?_;rintro e w' ⟨rfl,rfl⟩)
 go_ret
 exact ⟨rfl,rfl⟩
end Go.Proofs.YtjdjfpkjikdkoaaGreatDoor
namespace Go.Proofs.YtjdjfpkjikdkoaaGreatDoor
open Go.RowKit Go.Lib
theorem digS_size (i:Nat):(digS i).size≤2:=by
 unfold digS
 split
 ·exact Nat.le_succ 1
 ·exact Nat.le_refl 2
def refA (i:Nat):ByteArray:=(⟨#[97,108,108,111,116,45]⟩:ByteArray)++digS i
def poE (en pe:Int) (b:List Bl) (i:Nat) (p:Po):List Ep:=if getB b en p.acc p.cur=0 then [] else [⟨refA i,en,pe,goL p (getB b en p.acc p.cur)⟩]
def alTo (en pe:Int) (b:List Bl) (l:List Po) (k:Nat):List Ep:=(List.range k).flatMap fun i=>poE en pe b i (l.getD i po0)
theorem alTo_next (en pe:Int) (b:List Bl) (l:List Po) (k:Nat):alTo en pe b l (k+1)=alTo en pe b l k++poE en pe b k (l.getD k po0):=by
 unfold alTo;rw [List.range_succ,List.flatMap_append];simp
def isAmt (n:Int):Prop:=-1000000000000000≤n∧n≤1000000000000000
abbrev decAmt (n:Int):Decidable (isAmt n):=inferInstanceAs (Decidable (_∧_))
def hasBad (b:List Bl) (en:Int) (p:Po):Int:=@ite _ (isAmt (getB b en p.acc p.cur)) (decAmt _) 0 1
def alBad (c:List Ac) (l:List Po) (b:List Bl) (en pe:Int):Int:=
 if psBad c l≠0 then psBad c l else if chk b≠0 then chk b else if (upTo en 12 && upTo pe 120)=false then 1 else firstTo (fun k=>hasBad b en (l.getD k po0)) l.length
def AlEnd (c:List Ac) (l:List Po) (b:List Bl) (en pe:Int) (w:World) (e:Ending) (w':World):Prop:=
 Below w.heap.size w w'∧(alBad c l b en pe≠0→e=.returned (.tuple #[.slice none 0 0,chE (alBad c l b en pe)])) ∧
  (alBad c l b en pe=0→∃ v L,e=.returned (.tuple #[v,.nilIface])∧Made w' w.heap.size v L∧L.map Je.ep=alTo en pe b l l.length)
theorem poBad_ok {c:List Ac} {p:Po} (h:poBad c p=0):p.ws.length=p.tos.length∧0<p.tos.length∧p.tos.length≤19∧shBad p.ws=0∧(∀ k,k<p.tos.length→toBad c p.acc p.tos k=0)∧leafBad c p.acc=0∧isCur p.cur=true:=by
 unfold poBad at h
 split at h
 ·contradiction
 ·rename_i h1
  split at h
  ·omega
  ·rename_i h2
   split at h
   ·omega
   ·rename_i h3
    split at h
    ·omega
    ·rename_i h4
     split at h
     ·contradiction
     ·rename_i h5
      refine ⟨by omega,by omega,by omega,h,firstTo_zero (Decidable.of_not_not h5),Decidable.of_not_not h1,by simpa using h2⟩
theorem psBad_ok {c:List Ac} {l:List Po} (h:psBad c l=0):chBad c=0∧l.length≤20∧∀ k,k<l.length→poBad c (l.getD k po0)=0:=by
 unfold psBad at h
 split at h
 ·contradiction
 ·rename_i h1
  split at h
  ·omega
  ·exact ⟨Decidable.of_not_not h1,by omega,firstTo_zero h⟩
set_option maxHeartbeats 8000000 in
theorem alEntries_any (a a2 a3:Option Addr) (cap cap2 cap3:Nat) (c:List Ac) (l:List Po) (b:List Bl) (en pe:Int) (w:World) (h:IsSl w a c cap) (hl:IsPs w a2 l cap2) (hll:l.length≤9223372036854775807) (hb:IsBl w a3 b cap3) (hbl:b.length≤9223372036854775807) :
  Calls Tryz.prog 50 #[.slice a c.length cap,.slice a2 l.length cap2,.slice a3 b.length cap3,.int .i64 en,.int .i64 pe] w (AlEnd c l b en pe w):=by
 have HErr:Hid (∀ z W,z≠0→alBad c l b en pe=z→Below w.heap.size w W→AlEnd c l b en pe w (.returned (.tuple #[.slice none 0 0,.iface 51 (.int .i64 z)])) W):=fun z W h0 h1 h2=>by
  refine ⟨h2,fun _=>by rw [h1,chE_ne h0],fun e=>absurd (h1.symm.trans e) h0⟩
 have HOk:Hid (∀ v L W,alBad c l b en pe=0→Below w.heap.size w W→Made W w.heap.size v L→L.map Je.ep=alTo en pe b l l.length→AlEnd c l b en pe w (.returned (.tuple #[v,.nilIface])) W):=fun v L W h1 h2 h3 h4=>
  ⟨h2,fun h0=>absurd h1 h0,fun _=>⟨v,L,rfl,h3,h4⟩⟩
 have HC:Hid (Calls _ _ _ _ _):=alCheck_any a a2 cap cap2 c l w h hl hll
 by_cases c1:psBad c l≠0
 ·have e1:alBad c l b en pe=psBad c l:=by unfold alBad;rw [if_pos c1]
  have HE:Hid (∀ W,Below w.heap.size w W→AlEnd c l b en pe w (.returned (.tuple #[.slice none 0 0,.iface 51 (.int .i64 (psBad c l))])) W):=fun W hW=>HErr.out _ W c1 e1 hW
  rw [chE_ne c1] at HC
  clear h hl hb c1 e1 HErr HOk
  generalize psBad c l=z at *
  go_enter Tryz.func50,Tryz.ntmps50
  go_wp2_with (go_at_call 27;refine HC.out.mono ?_;rintro e w1 ⟨rfl,hb1⟩)
  go_ret2
  exact HE.out _ hb1
 have c1':=Decidable.of_not_not c1
 rw [c1',chE_zero] at HC
 have HCb:Hid (∀ W,Below w.heap.size w W→Calls Tryz.prog 81 #[.slice a3 b.length cap3] W fun e w'=>e=.returned (chE (chk b))∧Below w.heap.size w w'):=fun W hW=>by
  refine (ldCheck_any a3 cap3 b W hbl (hb.below hW)).mono ?_
  rintro e w' ⟨rfl,h2⟩
  exact ⟨rfl,hW.trans (h2.mono hW.size)⟩
 by_cases c2:chk b≠0
 ·have e1:alBad c l b en pe=chk b:=by unfold alBad;rw [if_neg c1,if_pos c2]
  have HE:Hid (∀ W,Below w.heap.size w W→AlEnd c l b en pe w (.returned (.tuple #[.slice none 0 0,.iface 51 (.int .i64 (chk b))])) W):=fun W hW=>HErr.out _ W c2 e1 hW
  rw [chE_ne c2] at HCb
  clear h hl hb c1 c1' c2 e1 HErr HOk
  generalize chk b=z at *
  go_enter Tryz.func50,Tryz.ntmps50
  go_wp2_with (first | (go_at_call 27;refine HC.out.mono ?_;rintro e w1 ⟨rfl,hb1⟩) | (go_at_call 81;refine (HCb.out _ hb1).mono ?_;rintro e w2 ⟨rfl,hb2⟩))
  go_ret2
  exact HE.out _ hb2
 have c2':=Decidable.of_not_not c2
 rw [c2',chE_zero] at HCb
 have HU1:Hid (∀ W,Calls Tryz.prog 57 #[.int .i64 en] W fun e w'=>e=.returned (.bool (upTo en 12))∧w'=W):=fun W=>isEntity_any en W
 have HU2:Hid (∀ W,Calls Tryz.prog 19 #[.int .i64 pe] W fun e w'=>e=.returned (.bool (upTo pe 120))∧w'=W):=fun W=>isPeriod_any pe W
 by_cases c3:(upTo en 12 && upTo pe 120)=false
 ·have e1:alBad c l b en pe=1:=by unfold alBad;rw [if_neg c1,if_neg c2,if_pos c3]
  have HE:Hid (∀ W,Below w.heap.size w W→AlEnd c l b en pe w (.returned (.tuple #[.slice none 0 0,.iface 51 (.int .i64 1)])) W):=fun W hW=>HErr.out _ W (by decide) e1 hW
  clear h hl hb c1 c1' c2 c2' e1 HErr HOk
  cases u1:upTo en 12
  ·rw [u1] at HU1
   clear c3 u1
   go_enter Tryz.func50,Tryz.ntmps50
   go_wp2_with (first | (go_at_call 27;refine HC.out.mono ?_;rintro e w1 ⟨rfl,hb1⟩) | (go_at_call 81;refine (HCb.out _ hb1).mono ?_;rintro e w2 ⟨rfl,hb2⟩) | (go_at_call 57;refine (HU1.out _).mono ?_;rintro e w' ⟨rfl,rfl⟩))
   go_ret2
   exact HE.out _ hb2
  ·have u2:upTo pe 120=false:=by rw [u1] at c3;simpa using c3
   rw [u1] at HU1
   rw [u2] at HU2
   clear c3 u1 u2
   go_enter Tryz.func50,Tryz.ntmps50
   go_wp2_with fail
   refine HC.out.mono ?_
   rintro e w1 ⟨rfl,hb1⟩
   go_wp2_with fail
   refine (HCb.out _ hb1).mono ?_
   rintro e w2 ⟨rfl,hb2⟩
   go_wp2_with fail
   refine (HU1.out _).mono ?_
   rintro e w' ⟨rfl,hw⟩
   rw [hw];clear hw w'
   go_wp2_with fail
   refine (HU2.out _).mono ?_
   rintro e w' ⟨rfl,hw⟩
   rw [hw];clear hw w'
   go_wp2
   go_ret2
   exact HE.out _ hb2
 have c3':upTo en 12=true∧upTo pe 120=true:=by simpa using c3
 have HB0:Hid (alBad c l b en pe=firstTo (fun k=>hasBad b en (l.getD k po0)) l.length):=by unfold alBad Hid;rw [if_neg c1,if_neg c2,if_neg c3]
 rw [c3'.1] at HU1
 rw [c3'.2] at HU2
 obtain ⟨p1,p2,p3⟩:=psBad_ok c1'
 have HPo:Hid (∀ k,k<l.length→poBad c (l.getD k po0)=0):=p3
 have HPs:Hid (IsPs w a2 l cap2):=hl
 have HBl:Hid (IsBl w a3 b cap3∧(b.length:Int)≤9223372036854775807):=⟨hb,by omega⟩
 have i2:(l.length:Int)≤20:=by omega
 clear h hl hb c1 c1' c2 c2' c3 c3' p1 p3
 obtain ⟨i0,hi,hz0,hz1,hz2⟩:=info_parts je_info
 go_enter Tryz.func50,Tryz.ntmps50
 go_wp2_with fail
 refine HC.out.mono ?_
 rintro e w1 ⟨rfl,hb1⟩
 go_wp2_with fail
 refine (HCb.out _ hb1).mono ?_
 rintro e w2 ⟨rfl,hb2⟩
 clear HC HCb hb1
 go_wp2_with fail
 refine (HU1.out _).mono ?_
 rintro e w' ⟨rfl,hw⟩
 rw [hw];clear hw w' HU1
 go_wp2_with fail
 refine (HU2.out _).mono ?_
 rintro e w' ⟨rfl,hw⟩
 rw [hw];clear hw w' HU2
 have HB2:Hid (Below w.heap.size w w2):=hb2
 clear hb2
 go_wp2
 go_loopw [14,42] (fun v i wr=>∃ (k:Nat) (L:List Je),k≤l.length∧i=.int .i64 k∧Hid (Made wr w.heap.size v L∧L.map Je.ep=alTo en pe b l k∧L.length≤k)∧Hid (firstTo (fun k=>hasBad b en (l.getD k po0)) k=0)∧Hid (Below w.heap.size w wr)) (fun _ i _=>l.length - (RowKit.intOf i).toNat)
 case atStart=>exact ⟨0,[],Nat.zero_le _,rfl,⟨Made.nil _ _,rfl,Nat.le_refl _⟩,rfl,HB2⟩
 case round=>
  obtain ⟨k,L,hk,rfl,HM,H0,HB⟩:=hrel
  obtain ⟨av,cv,ev,_⟩:=HM.out.1.isJs
  subst ev
  by_cases hkn:k<l.length
  ·obtain ⟨bb,off,e,hblt,hc,hok⟩:=((HPs.out).below HB.out).at hkn
   subst e
   have hpo:=HPo.out k hkn
   obtain ⟨q1,q2,q3,q4,_⟩:=poBad_ok hpo
   have B1:=HB.out.alloc HB.out.size (.cells (l.getD k po0).cells 82)
   have b11:Below wr.heap.size wr (wr.alloc (.cells (l.getD k po0).cells 82)):=(Below.refl _ wr).alloc (Nat.le_refl _) _
   have hx:=PoAt.new wr (l.getD k po0) 82
   have HIn:Hid (Calls Tryz.prog 82 #[.slice a3 b.length cap3,.int .i64 en,.string (l.getD k po0).acc,.string (l.getD k po0).cur] (wr.alloc (.cells (l.getD k po0).cells 82)) fun e w'=>e=.returned (.int .i64 (getB b en (l.getD k po0).acc (l.getD k po0).cur))∧Below (wr.alloc (.cells (l.getD k po0).cells 82)).heap.size (wr.alloc (.cells (l.getD k po0).cells 82)) w'):=ldHas_any a3 cap3 b en (l.getD k po0).acc (l.getD k po0).cur _ HBl.out.2 (HBl.out.1.below B1)
   have HKeep:Hid (∀ W,Below (wr.alloc (.cells (l.getD k po0).cells 82)).heap.size (wr.alloc (.cells (l.getD k po0).cells 82)) W→Below w.heap.size w W∧Below wr.heap.size wr W∧PoAt W wr.heap.size 0 (l.getD k po0)∧PoOk W (l.getD k po0)):=fun W hW=>by
    have hs:wr.heap.size<(wr.alloc (.cells (l.getD k po0).cells 82)).heap.size:=by simp
    exact ⟨B1.trans (hW.mono B1.size),b11.trans (hW.mono b11.size),hx.below hW hs,(hok.below b11).below hW⟩
   have HNx:Hid (alTo en pe b l (k+1)=alTo en pe b l k++poE en pe b k (l.getD k po0)):=alTo_next en pe b l k
   have HBd:Hid (hasBad b en (l.getD k po0)=0→firstTo (fun k=>hasBad b en (l.getD k po0)) (k+1)=0):=fun h=>by rw [firstTo_next H0.out,h]
   have HBr:Hid (hasBad b en (l.getD k po0)=1→alBad c l b en pe=1):=fun h=>by
    rw [HB0.out,firstTo_first H0.out (by rw [h];decide) hkn,h]
   have HGo:Hid (∀ W has,PoOk W (l.getD k po0)→(¬ isAmt has→Calls Tryz.prog 83 #[.agg (l.getD k po0).cells,.int .i64 has] W fun e w'=>e=.returned (.tuple #[.slice none 0 0,chE 1])∧Below W.heap.size W w')∧(isAmt has→Calls Tryz.prog 83 #[.agg (l.getD k po0).cells,.int .i64 has] W fun e w'=>∃ v,e=.returned (.tuple #[v,.nilIface])∧LnRow w' W.heap.size v (goL (l.getD k po0) has)∧Below W.heap.size W w')):=fun W has hW=>⟨fun h=>given_bad _ has W h,fun h=>given_ok _ has W hW q1 q3 q4 h⟩
   have HGB:Hid (hasBad b en (l.getD k po0)=@ite _ (isAmt (getB b en (l.getD k po0).acc (l.getD k po0).cur)) (decAmt _) 0 1):=rfl
   have HPE:Hid (poE en pe b k (l.getD k po0)=if getB b en (l.getD k po0).acc (l.getD k po0).cur=0 then [] else [⟨refA k,en,pe,goL (l.getD k po0) (getB b en (l.getD k po0).acc (l.getD k po0).cur)⟩]):=rfl
   have f0:=hx.c0
   have f1:=hx.c1
   have f2:=hx.c2
   have f3:=hx.c3
   clear hok hx B1 b11 q1 q2 q3 q4 hpo
   generalize getB b en (l.getD k po0).acc (l.getD k po0).cur=has at *
   generalize hasBad b en (l.getD k po0)=hbd at *
   generalize goL (l.getD k po0)=gl at *
   generalize poE en pe b k (l.getD k po0)=pE at *
   generalize l.getD k po0=p at *
   obtain ⟨acc,cur,tA,tC,tos,wA,wC,ws⟩:=p
   obtain ⟨d0,d1,d2,d3⟩:=hc
   simp only [Po.cells,Nat.zero_add] at d0 d1 d2 d3 f0 f1 f2 f3 HIn HKeep HGo
   have j0:(0:Int)≤k:=by omega
   have j1:(k:Int)<l.length:=by omega
   by_cases g0:has=0
   ·subst g0
    have HM2:Hid (∀ W,Below wr.heap.size wr W→Made W w.heap.size (.slice av L.length cv) L∧L.map Je.ep=alTo en pe b l (k+1)∧L.length≤k+1):=fun W hW=>by
     obtain ⟨m1,m2,m3⟩:=HM.out
     refine ⟨m1.below hW,?_,by omega⟩
     rw [HNx.out,HPE.out,if_pos rfl,List.append_nil,m2]
    have HN:Hid (firstTo (fun k=>hasBad b en (l.getD k po0)) (k+1)=0):=HBd.out (by rw [HGB.out,if_pos (by unfold isAmt;omega)])
    clear HBd HBr HGo HGB HPE HNx HM HOk HErr
    go_wp2_with fail
    refine HIn.out.mono ?_
    rintro e w3 ⟨rfl,hb3⟩
    obtain ⟨k1,k2,_⟩:=HKeep.out w3 hb3
    have HF:Hid _:=HM2.out w3 k2
    have HB3:Hid (Below w.heap.size w w3):=k1
    clear HIn HKeep HM2 hb3 k1 k2
    go_wp2
    go_roundw
    case rel=>exact ⟨k+1,L,by omega,by go_num,HF,HN,HB3⟩
    case measure=>simp [RowKit.intOf];omega
   have g0':(has == 0)=false:=by rw [beq_eq_false_iff_ne];exact g0
   go_wp2_with fail
   refine HIn.out.mono ?_
   rintro e w3 ⟨rfl,hb3⟩
   obtain ⟨k1,k2,k3,k4⟩:=HKeep.out w3 hb3
   obtain ⟨f0,f1,f2,f3⟩:=k3
   simp only [Nat.zero_add] at f0 f1 f2 f3
   have HK1:Hid (Below w.heap.size w w3):=k1
   have HK2:Hid (Below wr.heap.size wr w3):=k2
   obtain ⟨gB,gG⟩:=HGo.out w3 has k4
   clear HIn HKeep hb3 d0 d1 d2 d3 k1 k2 k4 HGo
   by_cases c4:isAmt has
   ·have HG:Hid (Calls _ _ _ _ _):=gG c4
    have HN:Hid (firstTo (fun k=>hasBad b en (l.getD k po0)) (k+1)=0):=HBd.out (by rw [HGB.out,if_pos c4])
    have HP2:Hid (alTo en pe b l (k+1)=alTo en pe b l k++[⟨refA k,en,pe,gl has⟩]):=by
     rw [HNx.out,HPE.out,if_neg g0];exact rfl
    clear gB gG HBd HBr HGB HPE HNx HOk HErr
    go_wp2_with fail
    refine HG.out.mono ?_
    rintro e w4 ⟨v4,rfl,hr4,hb4⟩
    obtain ⟨a4,c4',e4,_⟩:=hr4.isLn
    subst e4
    have HR4:Hid (LnRow w4 w3.heap.size (.slice a4 (gl has).length c4') (gl has)):=hr4
    have HB4:Hid (Below w3.heap.size w3 w4):=hb4
    have HIt:Hid (∀ W,Calls Tryz.prog 23 #[.int .i64 ((k:Nat):Int)] W fun e w'=>e=.returned (.string (digS k))∧w'=W):=fun W=>itoa_any k (by omega) W
    have HAdd:Hid (∀ v' w6,World.ownsRow w6 w.heap.size 42 4 v' (L.length+1) (jeRow L++(Je.mk (refA k) en pe a4 c4' (gl has)).cells.toList)→(w4.alloc (.cells #[.string (refA k),.int .i64 en,.int .i64 pe,.slice a4 (gl has).length c4'] 42)).grownBy w6 (Value.slice av L.length cv).ownBlock→(Made w6 w.heap.size v' (L++[Je.mk (refA k) en pe a4 c4' (gl has)])∧(L++[Je.mk (refA k) en pe a4 c4' (gl has)]).map Je.ep=alTo en pe b l (k+1)∧(L++[Je.mk (refA k) en pe a4 c4' (gl has)]).length≤k+1)∧Below w.heap.size w w6):=fun v' w6 h1 h2=>by
     obtain ⟨m1,m2,m3⟩:=HM.out
     have z1:=HK1.out.trans (HB4.out.mono HK1.out.size)
     have z2:=z1.alloc z1.size (.cells #[.string (refA k),.int .i64 en,.int .i64 pe,.slice a4 (gl has).length c4'] 42)
     have z3:Below w4.heap.size w4 (w4.alloc (.cells #[.string (refA k),.int .i64 en,.int .i64 pe,.slice a4 (gl has).length c4'] 42)):=(Below.refl _ w4).alloc (Nat.le_refl _) _
     have m4:=((m1.below HK2.out).below HB4.out).below z3
     refine ⟨⟨m4.add (x:=Je.mk (refA k) en pe a4 c4' (gl has)) ((HR4.out.below z3).mono HK1.out.size) h1 h2,?_,?_⟩,z2.grown h2 z2.size fun j e=>m1.row.own j e⟩
     ·rw [List.map_append,m2,HP2.out];rfl
     ·rw [List.length_append];simp;exact m3
    have HRow:Hid (World.ownsRow (w4.alloc (.cells #[.string (refA k),.int .i64 en,.int .i64 pe,.slice a4 (gl has).length c4'] 42)) w.heap.size 42 4 (.slice av L.length cv) L.length (jeRow L)):=by
     have m4:=(HM.out.1.below HK2.out).below HB4.out
     exact World.ownsRow.alloc m4.row _
    have s2:Hid (L.length+1≤maxLen∧(L.length+1)*56≤140737488355328):=by
     have:=HM.out.2.2
     unfold Hid maxLen;omega
    have s4:Hid (w.heap.size≤(w4.alloc (.cells #[.string (refA k),.int .i64 en,.int .i64 pe,.slice a4 (gl has).length c4'] 42)).heap.size):=by
     have z1:=HK1.out.size
     have z2:=HB4.out.size
     unfold Hid;simp;omega
    have hds:¬ 9223372036854775807<6+(digS k).size:=by have:=digS_size k;omega
    clear HG hr4 hb4 HM f0 f1 f2 f3
    go_wp2_with fail
    refine (HIt.out _).mono ?_
    rintro e w' ⟨rfl,hw⟩
    rw [hw];clear hw w' HIt
    go_wp2_with (at_builtin;refine wpList_append_own _ rfl _ _ 26 rfl w.heap.size 42 i0 (.agg #[.string ByteArray.empty,.int .i64 0,.int .i64 0,.slice none 0 0]) 4 56 Tryz.underlying26 hi hz0 hz1 hz2 rfl (by decide) _ _ _ rfl HRow.out ⟨w4.heap.size,0,none⟩ 1 1 (Je.mk (refA k) en pe a4 c4' (gl has)).cells.toList rfl rfl (World.news_of_block (World.alloc_heap_new w4 _)) (je_one _) s2.out.1 s2.out.2 s4.out ?_)
    intro v' w6 hown' hgrow _
    obtain ⟨hm6,hb6⟩:=HAdd.out v' w6 hown' hgrow
    have HM6:Hid _:=hm6
    have HB6:Hid (Below w.heap.size w w6):=hb6
    clear hown' hgrow hm6 hb6 HAdd HRow
    go_wp2
    go_roundw
    case rel=>exact ⟨k+1,_,by omega,by go_num,HM6,HN,HB6⟩
    case measure=>simp [RowKit.intOf];omega
   ·have HG:Hid (Calls _ _ _ _ _):=gB c4
    have HE:Hid (∀ W,Below w.heap.size w W→AlEnd c l b en pe w (.returned (.tuple #[.slice none 0 0,.iface 51 (.int .i64 1)])) W):=fun W hW=>HErr.out _ W (by decide) (HBr.out (by rw [HGB.out,if_neg c4])) hW
    rw [chE_ne (by decide)] at HG
    clear gB gG HBd HBr HGB HPE HNx HOk HErr
    go_wp2_with fail
    refine HG.out.mono ?_
    rintro e w4 ⟨rfl,hb4⟩
    have HB4:Hid (Below w.heap.size w w4):=HK1.out.trans (hb4.mono HK1.out.size)
    clear hb4 HG
    go_wp2
    go_ret2
    exact HE.out _ HB4.out
  ·have ek:k=l.length:=by omega
   subst ek
   obtain ⟨m1,m2,m3⟩:=HM.out
   have HE:Hid (AlEnd c l b en pe w (.returned (.tuple #[.slice av L.length cv,.nilIface])) wr):=HOk.out _ L wr (by rw [HB0.out,H0.out]) HB.out m1 m2
   clear m1 m2 m3 HM HErr HOk HPo HPs HBl
   go_wp2
   go_ret2
   exact HE.out
end Go.Proofs.YtjdjfpkjikdkoaaGreatDoor
