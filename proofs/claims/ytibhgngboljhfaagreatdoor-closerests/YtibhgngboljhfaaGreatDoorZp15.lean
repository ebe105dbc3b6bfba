/-
  Part of a proof (see the last text).
-/
import Derived.Test.YtibhgngboljhfaaGreatDoorZp14
import Derived.DeepKeys4
set_option linter.unusedVariables false
set_option linter.unusedSimpArgs false
set_option maxRecDepth 100000
namespace Go.Proofs.YtibhgngboljhfaaGreatDoor
section
open Go.RowKit Go.Lib Go.Proofs.Tryz
def isNo (x:Ln):Bool:=decide (x.amt=0)
def toLn (p:Po) (has:Int) (i:Nat):Ln:=⟨p.tos.getD i ByteArray.empty,p.cur,Qa4 has p.ws i⟩
def allL (p:Po) (has:Int):List Ln:=(⟨p.acc,p.cur,-has⟩:Ln) :: (List.range p.tos.length).map (toLn p has)
def goL (p:Po) (has:Int):List Ln:=(allL p has).filter fun x=>!isNo x
theorem allL_len (p:Po) (has:Int):(allL p has).length=p.tos.length+1:=by simp [allL]
theorem range_snoc {α:Type} (f:Nat→α) (k:Nat):(List.range (k+1)).map f=(List.range k).map f++[f k]:=by
 rw [List.range_succ,List.map_append];rfl
theorem given1_tells:Qfc 160 isNo:=by
 refine ⟨fun args W=>QeL func160 (by kernel_rfl) ⟨_,rfl⟩ args W,fun x W=>?_⟩
 obtain ⟨x0,x1,x2⟩:=x;have b0:Below W.heap.size W (W.alloc (.cells #[.string x0,.string x1,.int .i64 x2] 44)):=(Below.refl _ W).alloc (Nat.le_refl _) _;simp only [Ln.cells];by_cases h:x2=0
 ·have e1:isNo ⟨x0,x1,x2⟩=true:=by simp [isNo,h]
  rw [e1];subst h;go_enter func160,ntmps160
  go_wp2;go_ret;exact ⟨rfl,b0⟩
 ·have e1:isNo ⟨x0,x1,x2⟩=false:=by simp [isNo,h]
  have h':(x2 == 0)=false:=by rw [beq_eq_false_iff_ne];exact h
  rw [e1];go_enter func160,ntmps160
  go_wp2;go_ret;exact ⟨rfl,b0⟩
theorem given_bad (p:Po) (has:Int) (w:World) (h:¬ (-1000000000000000≤has∧has≤1000000000000000)) :
  Calls prog 118 #[.agg p.cells,.int .i64 has] w fun e w'=>e=.returned (.tuple #[.slice none 0 0,chE 1])∧Below w.heap.size w w':=by
 have b0:Below w.heap.size w (w.alloc (.cells p.cells 99)):=(Below.refl _ w).alloc (Nat.le_refl _) _;have HI:Hid (∀ W,Calls prog 108 #[.int .i64 has] W fun e w'=>e=.returned (.bool false)∧w'=W):=fun W=>by
  have:=Qgt has W
  rw [decide_eq_false h] at this;exact this
 rw [Qae (by decide)]
 obtain ⟨acc,cur,tA,tC,tos,wA,wC,ws⟩:=p;simp only [Po.cells] at b0 ⊢;clear h;go_enter func118,ntmps118
 go_wp2_with (go_at_call 108;refine (HI.out _).mono ?_;rintro e w' ⟨rfl,rfl⟩);go_ret2;exact ⟨rfl,b0⟩
theorem lnRow_new (w:World) (n0:Nat) (x:Ln) (hn:n0≤w.heap.size):Qab (w.alloc (.cells x.cells 44)) n0 (.slice (some ⟨w.heap.size,0,none⟩) 1 1) [x]:=by
 refine ⟨rfl,.inr ⟨w.heap.size,1,x.cells,rfl,hn,by unfold World.alloc;simp only [Array.getElem?_push_size],Nat.le_refl _,by unfold maxLen;omega,rfl,?_⟩⟩
 simp [Qah,Ln.cells]
set_option maxHeartbeats 8000000 in
theorem given_ok (p:Po) (has:Int) (w:World) (hp:PoOk w p) (he:p.ws.length=p.tos.length) (h19:p.tos.length≤19) (hs:QbO p.ws=0) (h:-1000000000000000≤has∧has≤1000000000000000) :
  Calls prog 118 #[.agg p.cells,.int .i64 has] w fun e w'=>∃ v,e=.returned (.tuple #[v,.nilIface])∧Qab w' w.heap.size v (goL p has)∧Below w.heap.size w w':=by
 obtain ⟨B,hB⟩:∃ B,w.heap.size=B:=⟨_,rfl⟩;obtain ⟨w0,hw0⟩:∃ w0,w.alloc (.cells p.cells 99)=w0:=⟨_,rfl⟩;have B0:Below w.heap.size w w0:=by rw [← hw0];exact (Below.refl _ w).alloc (Nat.le_refl _) _
 have hs0:B<w0.heap.size:=by rw [← hw0,← hB];simp
 have HA:Hid (∀ W,Below w0.heap.size w0 W→Qix W B 0 p∧PoOk W p∧Below w.heap.size w W):=fun W hW=>by
  exact ⟨(by rw [← hw0,← hB];exact Qix.new w p _:Qix w0 B 0 p).below hW hs0,(hp.below B0).below hW,B0.trans (hW.mono (by omega))⟩
 have HI:Hid (∀ W,Calls prog 108 #[.int .i64 has] W fun e w'=>e=.returned (.bool true)∧w'=W):=fun W=>by
  have:=Qgt has W
  rw [decide_eq_true h] at this;exact this
 have HS:Hid (Calls prog 138 #[.int .i64 has,.slice p.wA p.ws.length p.wC] w0 fun e w'=>∃ g,e=.returned (.tuple #[.slice (some ⟨g,0,none⟩) p.tos.length p.tos.length,.nilIface])∧Qbj w' g ((List.range p.tos.length).map (Qa4 has p.ws))∧Below w0.heap.size w0 w'):=by
  refine (QiQ has p.wA p.ws p.wC w0 (hp.below B0).iw (by omega) (by unfold Math.I64;omega)).mono ?_
  rintro e w' ⟨hb,_,h2⟩;obtain ⟨g,hg,rfl,hr⟩:=h2 hs;rw [he] at hr ⊢;exact ⟨g,rfl,hr,hb⟩
 have HD:Hid (∀ n1 v W,n1≤W.heap.size→Qab W n1 v (allL p has)→Calls prog 159 #[v,.func (.func 160) #[] #[]] W fun e w'=>∃ v',e=.returned v'∧Qab w' n1 v' (goL p has)∧Below n1 W w'):=fun n1 v W hW hr=>
  delete_own 160 isNo n1 v (allL p has) W given1_tells (by rw [allL_len];omega) hW hr
 have HEnd:Hid (∀ w1 v W,Qab W w1.heap.size v (goL p has)→Below w0.heap.size w0 w1→Below w1.heap.size w1 W→Qab W w.heap.size v (goL p has)∧Below w.heap.size w W):=fun w1 v W h1 h2 h3=>by
  have:=h2.size
  exact ⟨h1.mono (by omega),(B0.trans (h2.mono (by omega))).trans (h3.mono (by omega))⟩
 have iw:IntKind.i64.wrap (-has) = -has:=by
  simp only [IntKind.wrap,IntKind.bits,IntKind.signed];simp;omega
 have HW0:Hid (w.alloc (.cells p.cells 99)=w0):=hw0;have hcap:p.tos.length≤p.tC:=hp.tx.cap;have HSt:Hid (∀ k,(⟨p.acc,p.cur,-has⟩:Ln) :: (List.range (k+1)).map (toLn p has)=((⟨p.acc,p.cur,-has⟩:Ln) :: (List.range k).map (toLn p has))++[⟨p.tos.getD k ByteArray.empty,p.cur,Qa4 has p.ws k⟩]):=fun k=>by
  rw [range_snoc];rfl
 have HAll:Hid (allL p has=(⟨p.acc,p.cur,-has⟩:Ln) :: (List.range p.tos.length).map (toLn p has)):=rfl;obtain ⟨all,hall⟩:∃ all,allL p has=all:=⟨_,rfl⟩;obtain ⟨out,hout⟩:∃ out,goL p has=out:=⟨_,rfl⟩;obtain ⟨tl,htl⟩:∃ tl,toLn p has=tl:=⟨_,rfl⟩;rw [hall] at HAll;rw [hall,hout] at HD;rw [hout] at HEnd ⊢;rw [htl] at HAll HSt;clear hw0 hp hs B0 hall hout htl;obtain ⟨i0,hi,hz0,hz1,hz2⟩:=info_parts QcF
 obtain ⟨acc,cur,tA,tC,tos,wA,wC,ws⟩:=p;simp only [Po.cells] at HW0 HA HS HD HEnd hcap HSt HAll h19 he ⊢;obtain ⟨n,hn⟩:∃ n,tos.length=n:=⟨_,rfl⟩;have Hn:Hid (tos.length=n):=hn;rw [he] at HS HW0 ⊢;have Hwn:Hid (ws.length=n):=he.trans hn;rw [hn] at HS HW0 HAll h19 hcap ⊢;clear he hn;obtain ⟨⟨d0,d1,d2,d3⟩,_,_⟩:=HA.out w0 (Below.refl _ _);simp only [Nat.zero_add] at d0 d1 d2 d3;rw [Hn.out] at d2;rw [Hwn.out] at d3
 go_enter func118,ntmps118
 go_upto_region 1 with fail
 rw [HW0.out];clear HW0;go_wp2_with fail;refine (HI.out _).mono ?_;rintro e w' ⟨rfl,hw⟩;rw [hw];clear hw w' HI;go_wp2_with fail;refine HS.out.mono ?_;rintro e w1 ⟨g,rfl,hr,hb1⟩;have HR:Hid (Qbj w1 g ((List.range n).map (Qa4 has ws))):=hr;have HB1:Hid (Below w0.heap.size w0 w1):=hb1;have hgl:g<w1.heap.size:=by
  unfold Qbj at hr;exact (Array.getElem?_eq_some_iff.1 hr).1
 clear HS hr hb1 d0 d1 d2 d3;obtain ⟨⟨d0,d1,d2,d3⟩,_,_⟩:=HA.out w1 HB1.out;simp only [Nat.zero_add] at d0 d1 d2 d3;rw [Hn.out] at d2;rw [Hwn.out] at d3;have HN0:Hid (Qab (w1.alloc (.cells #[.string acc,.string cur,.int .i64 (-has)] 44)) w1.heap.size (.slice (some ⟨w1.heap.size,0,none⟩) 1 1) [⟨acc,cur,-has⟩]):=lnRow_new w1 w1.heap.size ⟨acc,cur,-has⟩ (Nat.le_refl _);obtain ⟨w2,hw2⟩:∃ w2,w1.alloc (.cells #[.string acc,.string cur,.int .i64 (-has)] 44)=w2:=⟨_,rfl⟩
 rw [hw2] at HN0;have HW2:Hid (w1.alloc (.cells #[.string acc,.string cur,.int .i64 (-has)] 44)=w2):=hw2;have HB2:Hid (Below w1.heap.size w1 w2):=by rw [← hw2];exact (Below.refl _ w1).alloc (Nat.le_refl _) _
 clear hw2;go_upto_region 7 with fail
 rw [HW2.out];clear HW2;obtain ⟨n1,hn1⟩:∃ n1,w1.heap.size=n1:=⟨_,rfl⟩;have Hn1:Hid (w1.heap.size=n1):=hn1;rw [hn1] at HN0 HB2 hgl ⊢;clear hn1;have HX:Hid (∀ W,Below n1 w1 W→Qix W B 0 ⟨acc,cur,tA,tC,tos,wA,wC,ws⟩∧PoOk W ⟨acc,cur,tA,tC,tos,wA,wC,ws⟩∧∀ k,k<n→W.cell? ⟨g,k,none⟩=some (.int .i64 (Qa4 has ws k))):=fun W hW=>by
  have h1:=HB1.out.trans (hW.mono (by have:=HB1.out.size;have:=Hn1.out;omega))
  obtain ⟨e1,e2,_⟩:=HA.out W h1;refine ⟨e1,e2,fun k hk=>?_⟩
  rw [hW.cell (p:=⟨g,k,none⟩) hgl]
  have:=HR.out.cell (i:=k) (by simp;exact hk)
  rw [this];simp [List.getD_eq_getElem?_getD,hk]
 clear d0 d1 d2 d3;obtain ⟨⟨d0,d1,d2,d3⟩,_,_⟩:=HX.out w2 HB2.out;simp only [Nat.zero_add] at d0 d1 d2 d3;rw [Hn.out] at d2;rw [Hwn.out] at d3;have i5:(n:Int)≤19:=by omega
 have hnw:n1≤w2.heap.size:=by have:=HB2.out.size;have:=Hn1.out;omega
 go_wp2;go_loopw [8,36] (fun s8 i wr=>∃ k:Nat,k≤n∧i=.int .i64 k∧Hid (Qab wr n1 s8 ((⟨acc,cur,-has⟩:Ln) :: (List.range k).map tl))∧Hid (Below n1 w1 wr)) (fun _ i _=>n - (RowKit.intOf i).toNat)
 case atStart=>exact ⟨0,Nat.zero_le _,rfl,HN0,HB2⟩
 case round=>
  obtain ⟨k,hk,rfl,R,HB⟩:=hrel;clear d0 d1 d2 d3;obtain ⟨⟨d0,d1,d2,d3⟩,hok,hsh⟩:=HX.out wr HB.out;simp only [Nat.zero_add] at d0 d1 d2 d3;rw [Hn.out] at d2;rw [Hwn.out] at d3;have hwr:n1≤wr.heap.size:=by have:=HB.out.size;have:=Hn1.out;omega
  by_cases hkn:k<n
  ·obtain ⟨b,off,e,hbl,hc⟩:=hok.tx.at (k:=k) (by show k<tos.length;rw [Hn.out];exact hkn)
   simp only at e hc;subst e;have cs:=hsh k hkn;have hst:=HSt.out k;have hfl:((⟨acc,cur,-has⟩:Ln) :: (List.range k).map tl).length=k+1:=by simp
   clear hok hsh;generalize (⟨acc,cur,-has⟩:Ln) :: (List.range k).map tl=fs at *
   generalize tos.getD k ByteArray.empty=x0 at *
   generalize Qa4 has ws k=x2 at *
   obtain ⟨a,cq,rfl,_⟩:=R.out.isLn;have Hfl:Hid (fs.length=k+1):=hfl;rw [hfl] at R ⊢;clear hfl;have j0:(0:Int)≤k:=by omega
   have j1:(k:Int)<n:=by omega
   have Hst:Hid (_=_):=hst;have hro:World.ownsRow (wr.alloc (.cells #[.string x0,.string cur,.int .i64 x2] 44)).drew n1 44 3 (.slice a (k+1) cq) (k+1) (Qah fs):=by
    have:=World.ownsRow.drew (World.ownsRow.alloc R.out (.cells #[.string x0,.string cur,.int .i64 x2] 44))
    unfold Qab at this;rw [Hfl.out] at this;exact this
   have HRO:Hid (World.ownsRow _ _ _ _ _ _ _):=hro;have k1:∀ j u,([.string x0,.string cur,.int .i64 x2]:List Value)[j]? = some u→(wr.alloc (.cells #[.string x0,.string cur,.int .i64 x2] 44)).drew.cell? ((⟨wr.heap.size,0,none⟩:Addr).add j)=some u:=fun j u h=>QbD wr x0 cur x2 wr.heap.size 44 rfl j u h
   have K1:Hid (∀ j u,([.string x0,.string cur,.int .i64 x2]:List Value)[j]? = some u→(wr.alloc (.cells #[.string x0,.string cur,.int .i64 x2] 44)).drew.cell? ((⟨wr.heap.size,0,none⟩:Addr).add j)=some u):=k1;have s1:∀ u∈([.string x0,.string cur,.int .i64 x2]:List Value),u.oneCell'=true:=by intro u hu;simp at hu;rcases hu with rfl | rfl | rfl <;> rfl
   have s2:Hid (k+1+1≤maxLen):=by unfold Hid maxLen;omega
   have s3:Hid ((k+1+1)*40≤140737488355328):=by unfold Hid;omega
   have s4:Hid (n1≤(wr.alloc (.cells #[.string x0,.string cur,.int .i64 x2] 44)).drew.heap.size):=by unfold Hid;simp;omega
   have s5:Hid ((wr.alloc (.cells #[.string x0,.string cur,.int .i64 x2] 44)).drew.heap.size=wr.heap.size+1):=by unfold Hid;simp
   have B2:=(HB.out.alloc hwr (.cells #[.string x0,.string cur,.int .i64 x2] 44)).drew;have hoj:∀ j,(Value.slice a (k+1) cq).ownBlock=some j→n1≤j:=fun j e=>(World.ownsRow.lt hro j e).1
   have HB2':Hid (Below n1 w1 _):=B2;have HOJ:Hid (∀ j,(Value.slice a (k+1) cq).ownBlock=some j→n1≤j):=hoj;have HWR:Hid (n1≤wr.heap.size):=hwr;clear k1 hst hro R HB B2 hoj HX HSt HD HAll HEnd HA HN0 HR;go_wp2_with fail;go_region_law (refine step_append_lies _ rfl (.tmp 41) (.tmp 50) 36 rfl n1 44 i0 (.agg #[.string ByteArray.empty,.string ByteArray.empty,.int .i64 0]) 3 40 underlying36 hi hz0 hz1 hz2 rfl (Nat.zero_lt_succ _) (.slice a (k+1) cq) (k+1) (Qah fs) rfl HRO.out ⟨wr.heap.size,0,none⟩ 1 1 [.string x0,.string cur,.int .i64 x2] rfl rfl K1.out s1 (Nat.zero_lt_one) s2.out s3.out s4.out (wr.heap.size+1) s5.out ?_;intro g' cap' w3 hown' hgrow hat hlt2)
   all_goals
    have B3:=HB2'.out.grown hgrow (by have:=HWR.out;simp;omega) (fun j e=>by have:=HOJ.out j e;omega)
    have HR3:Hid (Qab w3 n1 (.slice (some ⟨g',0,none⟩) (k+1+1) cap') ((⟨acc,cur,-has⟩:Ln) :: (List.range (k+1)).map tl)):=by
     unfold Hid;rw [Hst.out];unfold Qab;rw [Qan,Qbh,List.length_append,Hfl.out];exact hown'
    clear hown' hgrow hat;go_wp2;go_roundw
    case rel=>exact ⟨k+1,by omega,by go_num,HR3.out,B3⟩
    case measure=>simp [RowKit.intOf];omega
  ·have ek:k=n:=by omega
   subst ek;have j1:¬ (k:Int)<k:=by omega
   obtain ⟨a,cq,e,_⟩:=R.out.isLn;rw [show ((⟨acc,cur,-has⟩:Ln) :: (List.range k).map tl).length=k+1 by simp] at e
   subst e;have R2:=R.out;rw [← HAll.out] at R2;have hDl:Hid (Calls prog 159 #[.slice a (k+1) cq,.func (.func 160) #[] #[]] wr fun e w'=>∃ v',e=.returned v'∧Qab w' n1 v' out∧Below n1 wr w'):=HD.out n1 _ wr hwr R2
   have HEn:Hid (∀ v W,Qab W n1 v out→Below n1 wr W→Qab W w.heap.size v out∧Below w.heap.size w W):=fun v W h1 h2=>HEnd.out w1 v W (by rw [Hn1.out];exact h1) HB1.out (by rw [Hn1.out];exact HB.out.trans h2)
   clear HD hok hsh R R2 HX HSt HA HN0 HR HEnd HAll HB HB2 hi hz0 hz1 hz2 hgl hnw hwr;go_wp2_with fail;refine hDl.out.mono ?_;rintro e w3 ⟨v3,rfl,hr3,hb3⟩;have HF:Hid (Qab w3 w.heap.size v3 out∧Below w.heap.size w w3):=HEn.out v3 w3 hr3 hb3;clear hDl hr3 hb3 HEn;go_wp2;go_ret2;exact ⟨v3,rfl,HF.out⟩
end
section
open Go.RowKit Go.Lib Go.Proofs.Tryz
def QiG (i:Nat):ByteArray:=if i<10 then ⟨#[UInt8.ofNat (48+i)]⟩ else ⟨#[UInt8.ofNat (48+i / 10),UInt8.ofNat (48+i % 10)]⟩
theorem lt20 {p:Nat→Prop} (h0:p 0) (h1:p 1) (h2:p 2) (h3:p 3) (h4:p 4) (h5:p 5) (h6:p 6) (h7:p 7) (h8:p 8) (h9:p 9) (h10:p 10) (h11:p 11) (h12:p 12) (h13:p 13) (h14:p 14) (h15:p 15) (h16:p 16) (h17:p 17) (h18:p 18) (h19:p 19):∀ i,i<20→p i:=by
 intro i hi;rcases (by omega:i=0∨i=1∨i=2∨i=3∨i=4∨i=5∨i=6∨i=7∨i=8∨i=9∨i=10∨i=11∨i=12∨i=13∨i=14∨i=15∨i=16∨i=17∨i=18∨i=19) with rfl | rfl | rfl | rfl | rfl | rfl | rfl | rfl | rfl | rfl | rfl | rfl | rfl | rfl | rfl | rfl | rfl | rfl | rfl | rfl <;> assumption
set_option maxHeartbeats 4000000 in
theorem itoSmall_any:∀ i,i<20→∀ w,Calls prog 171 #[.int .i64 ((i:Nat):Int)] w fun e w'=>e=.returned (.string (QiG i))∧w'=w:=by
 apply lt20
 all_goals
  intro w;go_enter func171,ntmps171
  go_wp2;go_ret;exact ⟨by first | rfl | kernel_rfl,rfl⟩
theorem itoa_any (i:Nat) (hi:i<20) (w:World):Calls prog 34 #[.int .i64 ((i:Nat):Int)] w fun e w'=>e=.returned (.string (QiG i))∧w'=w:=by
 have HS:Hid (∀ W,Calls prog 171 #[.int .i64 ((i:Nat):Int)] W fun e w'=>e=.returned (.string (QiG i))∧w'=W):=itoSmall_any i hi
 have h1:(i:Int)<100:=by omega
 have h0:(0:Int)≤i:=by omega
 have HF:Hid (∀ W,Calls prog 134 #[.int .i64 ((i:Nat):Int),.int .i64 10] W fun e w'=>e=.returned (.string (QiG i))∧w'=W):=fun W=>by
  go_enter func134,ntmps134
  go_wp2_with (go_at_call 171;refine (HS.out _).mono ?_;rintro e w' ⟨rfl,rfl⟩);go_ret;exact ⟨rfl,rfl⟩
 have HI:Hid (∀ W,Calls prog 81 #[.int .i64 ((i:Nat):Int)] W fun e w'=>e=.returned (.string (QiG i))∧w'=W):=fun W=>by
  go_enter func81,ntmps81
  go_wp2_with (go_at_call 134;refine (HF.out _).mono ?_;rintro e w' ⟨rfl,rfl⟩);go_ret;exact ⟨rfl,rfl⟩
 go_enter func34,ntmps34
 go_wp2_with (go_at_call 81;refine (HI.out _).mono ?_;rintro e w' ⟨rfl,rfl⟩);go_ret;exact ⟨rfl,rfl⟩
end
section
open Go.RowKit Go.Lib Go.Proofs.Tryz
theorem digS_size (i:Nat):(QiG i).size≤2:=by
 unfold QiG
 split
 ·exact Nat.le_succ 1
 ·exact Nat.le_refl 2
def refA (i:Nat):ByteArray:=(⟨#[97,108,108,111,116,45]⟩:ByteArray)++QiG i
def poE (en pe:Int) (b:List Bl) (i:Nat) (p:Po):List Ep:=if Qca b en p.acc p.cur=0 then [] else [⟨refA i,en,pe,goL p (Qca b en p.acc p.cur)⟩]
def QgA (en pe:Int) (b:List Bl) (l:List Po) (k:Nat):List Ep:=(List.range k).flatMap fun i=>poE en pe b i (l.getD i po0)
theorem alTo_next (en pe:Int) (b:List Bl) (l:List Po) (k:Nat):QgA en pe b l (k+1)=QgA en pe b l k++poE en pe b k (l.getD k po0):=by
 unfold QgA;rw [List.range_succ,List.flatMap_append];simp
def isAmt (n:Int):Prop:=-1000000000000000≤n∧n≤1000000000000000
abbrev decAmt (n:Int):Decidable (isAmt n):=inferInstanceAs (Decidable (_∧_))
def QdA (b:List Bl) (en:Int) (p:Po):Int:=@ite _ (isAmt (Qca b en p.acc p.cur)) (decAmt _) 0 1
def Qbs (c:List Ac) (l:List Po) (b:List Bl) (en pe:Int):Int:=
 if QbC c l≠0 then QbC c l else if chk b≠0 then chk b else if (Qak en 12 && Qak pe 120)=false then 1 else Qac (fun k=>QdA b en (l.getD k po0)) l.length
def QeZ (c:List Ac) (l:List Po) (b:List Bl) (en pe:Int) (w:World) (e:Ending) (w':World):Prop:=
 Below w.heap.size w w'∧(Qbs c l b en pe≠0→e=.returned (.tuple #[.slice none 0 0,chE (Qbs c l b en pe)])) ∧
  (Qbs c l b en pe=0→∃ v L,e=.returned (.tuple #[v,.nilIface])∧Qbp w' w.heap.size v L∧L.map Je.ep=QgA en pe b l l.length)
theorem QcY {c:List Ac} {p:Po} (h:Qcd c p=0):p.ws.length=p.tos.length∧0<p.tos.length∧p.tos.length≤19∧QbO p.ws=0∧(∀ k,k<p.tos.length→Qdn c p.acc p.tos k=0)∧Qaa c p.acc=0∧Qam p.cur=true:=by
 unfold Qcd at h;split at h
 ·contradiction
 ·rename_i h1;split at h
  ·omega
  ·rename_i h2;split at h
   ·omega
   ·rename_i h3;split at h
    ·omega
    ·rename_i h4;split at h
     ·contradiction
     ·rename_i h5;refine ⟨by omega,by omega,by omega,h,QaK (Decidable.of_not_not h5),Decidable.of_not_not h1,by simpa using h2⟩
theorem QcZ {c:List Ac} {l:List Po} (h:QbC c l=0):Qat c=0∧l.length≤20∧∀ k,k<l.length→Qcd c (l.getD k po0)=0:=by
 unfold QbC at h;split at h
 ·contradiction
 ·rename_i h1;split at h
  ·omega
  ·exact ⟨Decidable.of_not_not h1,by omega,QaK h⟩
set_option maxHeartbeats 8000000 in
theorem alEntries_any (a a2 a3:Option Addr) (cap cap2 cap3:Nat) (c:List Ac) (l:List Po) (b:List Bl) (en pe:Int) (w:World) (h:QbJ w a c cap) (hl:QgV w a2 l cap2) (hll:l.length≤9223372036854775807) (hb:Qcp w a3 b cap3) (hbl:b.length≤9223372036854775807) :
  Calls prog 76 #[.slice a c.length cap,.slice a2 l.length cap2,.slice a3 b.length cap3,.int .i64 en,.int .i64 pe] w (QeZ c l b en pe w):=by
 have HErr:Hid (∀ z W,z≠0→Qbs c l b en pe=z→Below w.heap.size w W→QeZ c l b en pe w (.returned (.tuple #[.slice none 0 0,.iface 68 (.int .i64 z)])) W):=fun z W h0 h1 h2=>by
  refine ⟨h2,fun _=>by rw [h1,Qae h0],fun e=>absurd (h1.symm.trans e) h0⟩
 have HOk:Hid (∀ v L W,Qbs c l b en pe=0→Below w.heap.size w W→Qbp W w.heap.size v L→L.map Je.ep=QgA en pe b l l.length→QeZ c l b en pe w (.returned (.tuple #[v,.nilIface])) W):=fun v L W h1 h2 h3 h4=>
  ⟨h2,fun h0=>absurd h1 h0,fun _=>⟨v,L,rfl,h3,h4⟩⟩
 have HC:Hid (Calls _ _ _ _ _):=QhC a a2 cap cap2 c l w h hl hll;by_cases c1:QbC c l≠0
 ·have e1:Qbs c l b en pe=QbC c l:=by unfold Qbs;rw [if_pos c1]
  have HE:Hid (∀ W,Below w.heap.size w W→QeZ c l b en pe w (.returned (.tuple #[.slice none 0 0,.iface 68 (.int .i64 (QbC c l))])) W):=fun W hW=>HErr.out _ W c1 e1 hW
  rw [Qae c1] at HC;clear h hl hb c1 e1 HErr HOk;generalize QbC c l=z at *
  go_enter func76,ntmps76
  go_wp2_with (go_at_call 39;refine HC.out.mono ?_;rintro e w1 ⟨rfl,hb1⟩);go_ret2;exact HE.out _ hb1
 have c1':=Decidable.of_not_not c1;rw [c1',Qaj] at HC;have HCb:Hid (∀ W,Below w.heap.size w W→Calls prog 116 #[.slice a3 b.length cap3] W fun e w'=>e=.returned (chE (chk b))∧Below w.heap.size w w'):=fun W hW=>by
  refine (QcE a3 cap3 b W hbl (hb.below hW)).mono ?_;rintro e w' ⟨rfl,h2⟩;exact ⟨rfl,hW.trans (h2.mono hW.size)⟩
 by_cases c2:chk b≠0
 ·have e1:Qbs c l b en pe=chk b:=by unfold Qbs;rw [if_neg c1,if_pos c2]
  have HE:Hid (∀ W,Below w.heap.size w W→QeZ c l b en pe w (.returned (.tuple #[.slice none 0 0,.iface 68 (.int .i64 (chk b))])) W):=fun W hW=>HErr.out _ W c2 e1 hW
  rw [Qae c2] at HCb;clear h hl hb c1 c1' c2 e1 HErr HOk;generalize chk b=z at *
  go_enter func76,ntmps76
  go_wp2_with (first | (go_at_call 39;refine HC.out.mono ?_;rintro e w1 ⟨rfl,hb1⟩) | (go_at_call 116;refine (HCb.out _ hb1).mono ?_;rintro e w2 ⟨rfl,hb2⟩));go_ret2;exact HE.out _ hb2
 have c2':=Decidable.of_not_not c2;rw [c2',Qaj] at HCb;have HU1:Hid (∀ W,Calls prog 84 #[.int .i64 en] W fun e w'=>e=.returned (.bool (Qak en 12))∧w'=W):=fun W=>Qbm en W
 have HU2:Hid (∀ W,Calls prog 31 #[.int .i64 pe] W fun e w'=>e=.returned (.bool (Qak pe 120))∧w'=W):=fun W=>QaM pe W
 by_cases c3:(Qak en 12 && Qak pe 120)=false
 ·have e1:Qbs c l b en pe=1:=by unfold Qbs;rw [if_neg c1,if_neg c2,if_pos c3]
  have HE:Hid (∀ W,Below w.heap.size w W→QeZ c l b en pe w (.returned (.tuple #[.slice none 0 0,.iface 68 (.int .i64 1)])) W):=fun W hW=>HErr.out _ W (by decide) e1 hW
  clear h hl hb c1 c1' c2 c2' e1 HErr HOk;cases u1:Qak en 12
  ·rw [u1] at HU1;clear c3 u1;go_enter func76,ntmps76
   go_wp2_with (first | (go_at_call 39;refine HC.out.mono ?_;rintro e w1 ⟨rfl,hb1⟩) | (go_at_call 116;refine (HCb.out _ hb1).mono ?_;rintro e w2 ⟨rfl,hb2⟩) | (go_at_call 84;refine (HU1.out _).mono ?_;rintro e w' ⟨rfl,rfl⟩));go_ret2;exact HE.out _ hb2
  ·have u2:Qak pe 120=false:=by rw [u1] at c3;simpa using c3
   rw [u1] at HU1;rw [u2] at HU2;clear c3 u1 u2;go_enter func76,ntmps76
   go_wp2_with fail;refine HC.out.mono ?_;rintro e w1 ⟨rfl,hb1⟩;go_wp2_with fail;refine (HCb.out _ hb1).mono ?_;rintro e w2 ⟨rfl,hb2⟩;go_wp2_with fail;refine (HU1.out _).mono ?_;rintro e w' ⟨rfl,hw⟩;rw [hw];clear hw w';go_wp2_with fail;refine (HU2.out _).mono ?_;rintro e w' ⟨rfl,hw⟩;rw [hw];clear hw w';go_wp2;go_ret2;exact HE.out _ hb2
 have c3':Qak en 12=true∧Qak pe 120=true:=by simpa using c3
 have HB0:Hid (Qbs c l b en pe=Qac (fun k=>QdA b en (l.getD k po0)) l.length):=by unfold Qbs Hid;rw [if_neg c1,if_neg c2,if_neg c3]
 rw [c3'.1] at HU1;rw [c3'.2] at HU2;obtain ⟨p1,p2,p3⟩:=QcZ c1';have HPo:Hid (∀ k,k<l.length→Qcd c (l.getD k po0)=0):=p3;have HPs:Hid (QgV w a2 l cap2):=hl;have HBl:Hid (Qcp w a3 b cap3∧(b.length:Int)≤9223372036854775807):=⟨hb,by omega⟩
 have i2:(l.length:Int)≤20:=by omega
 clear h hl hb c1 c1' c2 c2' c3 c3' p1 p3;obtain ⟨i0,hi,hz0,hz1,hz2⟩:=info_parts Qc0;go_enter func76,ntmps76
 go_wp2_with fail;refine HC.out.mono ?_;rintro e w1 ⟨rfl,hb1⟩;go_wp2_with fail;refine (HCb.out _ hb1).mono ?_;rintro e w2 ⟨rfl,hb2⟩;clear HC HCb hb1;go_wp2_with fail;refine (HU1.out _).mono ?_;rintro e w' ⟨rfl,hw⟩;rw [hw];clear hw w' HU1;go_wp2_with fail;refine (HU2.out _).mono ?_;rintro e w' ⟨rfl,hw⟩;rw [hw];clear hw w' HU2;have HB2:Hid (Below w.heap.size w w2):=hb2;clear hb2;go_wp2;go_loopw [14,42] (fun v i wr=>∃ (k:Nat) (L:List Je),k≤l.length∧i=.int .i64 k∧Hid (Qbp wr w.heap.size v L∧L.map Je.ep=QgA en pe b l k∧L.length≤k)∧Hid (Qac (fun k=>QdA b en (l.getD k po0)) k=0)∧Hid (Below w.heap.size w wr)) (fun _ i _=>l.length - (RowKit.intOf i).toNat)
 case atStart=>exact ⟨0,[],Nat.zero_le _,rfl,⟨Qbp.nil _ _,rfl,Nat.le_refl _⟩,rfl,HB2⟩
 case round=>
  obtain ⟨k,L,hk,rfl,HM,H0,HB⟩:=hrel;obtain ⟨av,cv,ev,_⟩:=HM.out.1.isJs;subst ev;by_cases hkn:k<l.length
  ·obtain ⟨bb,off,e,hblt,hc,hok⟩:=((HPs.out).below HB.out).at hkn;subst e;have hpo:=HPo.out k hkn;obtain ⟨q1,q2,q3,q4,_⟩:=QcY hpo;have B1:=HB.out.alloc HB.out.size (.cells (l.getD k po0).cells 99);have b11:Below wr.heap.size wr (wr.alloc (.cells (l.getD k po0).cells 99)):=(Below.refl _ wr).alloc (Nat.le_refl _) _;have hx:=Qix.new wr (l.getD k po0) 99;have HIn:Hid (Calls prog 117 #[.slice a3 b.length cap3,.int .i64 en,.string (l.getD k po0).acc,.string (l.getD k po0).cur] (wr.alloc (.cells (l.getD k po0).cells 99)) fun e w'=>e=.returned (.int .i64 (Qca b en (l.getD k po0).acc (l.getD k po0).cur))∧Below (wr.alloc (.cells (l.getD k po0).cells 99)).heap.size (wr.alloc (.cells (l.getD k po0).cells 99)) w'):=ldHas_any a3 cap3 b en (l.getD k po0).acc (l.getD k po0).cur _ HBl.out.2 (HBl.out.1.below B1)
   have HKeep:Hid (∀ W,Below (wr.alloc (.cells (l.getD k po0).cells 99)).heap.size (wr.alloc (.cells (l.getD k po0).cells 99)) W→Below w.heap.size w W∧Below wr.heap.size wr W∧Qix W wr.heap.size 0 (l.getD k po0)∧PoOk W (l.getD k po0)):=fun W hW=>by
    have hs:wr.heap.size<(wr.alloc (.cells (l.getD k po0).cells 99)).heap.size:=by simp
    exact ⟨B1.trans (hW.mono B1.size),b11.trans (hW.mono b11.size),hx.below hW hs,(hok.below b11).below hW⟩
   have HNx:Hid (QgA en pe b l (k+1)=QgA en pe b l k++poE en pe b k (l.getD k po0)):=alTo_next en pe b l k;have HBd:Hid (QdA b en (l.getD k po0)=0→Qac (fun k=>QdA b en (l.getD k po0)) (k+1)=0):=fun h=>by rw [Qaz H0.out,h]
   have HBr:Hid (QdA b en (l.getD k po0)=1→Qbs c l b en pe=1):=fun h=>by
    rw [HB0.out,QaC H0.out (by rw [h];decide) hkn,h]
   have HGo:Hid (∀ W has,PoOk W (l.getD k po0)→(¬ isAmt has→Calls prog 118 #[.agg (l.getD k po0).cells,.int .i64 has] W fun e w'=>e=.returned (.tuple #[.slice none 0 0,chE 1])∧Below W.heap.size W w')∧(isAmt has→Calls prog 118 #[.agg (l.getD k po0).cells,.int .i64 has] W fun e w'=>∃ v,e=.returned (.tuple #[v,.nilIface])∧Qab w' W.heap.size v (goL (l.getD k po0) has)∧Below W.heap.size W w')):=fun W has hW=>⟨fun h=>given_bad _ has W h,fun h=>given_ok _ has W hW q1 q3 q4 h⟩
   have HGB:Hid (QdA b en (l.getD k po0)=@ite _ (isAmt (Qca b en (l.getD k po0).acc (l.getD k po0).cur)) (decAmt _) 0 1):=rfl;have HPE:Hid (poE en pe b k (l.getD k po0)=if Qca b en (l.getD k po0).acc (l.getD k po0).cur=0 then [] else [⟨refA k,en,pe,goL (l.getD k po0) (Qca b en (l.getD k po0).acc (l.getD k po0).cur)⟩]):=rfl
   have f0:=hx.c0;have f1:=hx.c1;have f2:=hx.c2;have f3:=hx.c3;clear hok hx B1 b11 q1 q2 q3 q4 hpo;generalize Qca b en (l.getD k po0).acc (l.getD k po0).cur=has at *
   generalize QdA b en (l.getD k po0)=hbd at *
   generalize goL (l.getD k po0)=gl at *
   generalize poE en pe b k (l.getD k po0)=pE at *
   generalize l.getD k po0=p at *
   obtain ⟨acc,cur,tA,tC,tos,wA,wC,ws⟩:=p;obtain ⟨d0,d1,d2,d3⟩:=hc;simp only [Po.cells,Nat.zero_add] at d0 d1 d2 d3 f0 f1 f2 f3 HIn HKeep HGo;have j0:(0:Int)≤k:=by omega
   have j1:(k:Int)<l.length:=by omega
   by_cases g0:has=0
   ·subst g0;have HM2:Hid (∀ W,Below wr.heap.size wr W→Qbp W w.heap.size (.slice av L.length cv) L∧L.map Je.ep=QgA en pe b l (k+1)∧L.length≤k+1):=fun W hW=>by
     obtain ⟨m1,m2,m3⟩:=HM.out;refine ⟨m1.below hW,?_,by omega⟩
     rw [HNx.out,HPE.out,if_pos rfl,List.append_nil,m2]
    have HN:Hid (Qac (fun k=>QdA b en (l.getD k po0)) (k+1)=0):=HBd.out (by rw [HGB.out,if_pos (by unfold isAmt;omega)])
    clear HBd HBr HGo HGB HPE HNx HM HOk HErr;go_wp2_with fail;refine HIn.out.mono ?_;rintro e w3 ⟨rfl,hb3⟩;obtain ⟨k1,k2,_⟩:=HKeep.out w3 hb3;have HF:Hid _:=HM2.out w3 k2;have HB3:Hid (Below w.heap.size w w3):=k1;clear HIn HKeep HM2 hb3 k1 k2;go_wp2;go_roundw
    case rel=>exact ⟨k+1,L,by omega,by go_num,HF,HN,HB3⟩
    case measure=>simp [RowKit.intOf];omega
   have g0':(has == 0)=false:=by rw [beq_eq_false_iff_ne];exact g0
   go_wp2_with fail;refine HIn.out.mono ?_;rintro e w3 ⟨rfl,hb3⟩;obtain ⟨k1,k2,k3,k4⟩:=HKeep.out w3 hb3;obtain ⟨f0,f1,f2,f3⟩:=k3;simp only [Nat.zero_add] at f0 f1 f2 f3;have HK1:Hid (Below w.heap.size w w3):=k1;have HK2:Hid (Below wr.heap.size wr w3):=k2;obtain ⟨gB,gG⟩:=HGo.out w3 has k4;clear HIn HKeep hb3 d0 d1 d2 d3 k1 k2 k4 HGo;by_cases c4:isAmt has
   ·have HG:Hid (Calls _ _ _ _ _):=gG c4;have HN:Hid (Qac (fun k=>QdA b en (l.getD k po0)) (k+1)=0):=HBd.out (by rw [HGB.out,if_pos c4])
    have HP2:Hid (QgA en pe b l (k+1)=QgA en pe b l k++[⟨refA k,en,pe,gl has⟩]):=by
     rw [HNx.out,HPE.out,if_neg g0];exact rfl
    clear gB gG HBd HBr HGB HPE HNx HOk HErr;go_wp2_with fail;refine HG.out.mono ?_;rintro e w4 ⟨v4,rfl,hr4,hb4⟩;obtain ⟨a4,c4',e4,_⟩:=hr4.isLn;subst e4;have HR4:Hid (Qab w4 w3.heap.size (.slice a4 (gl has).length c4') (gl has)):=hr4;have HB4:Hid (Below w3.heap.size w3 w4):=hb4;have HIt:Hid (∀ W,Calls prog 34 #[.int .i64 ((k:Nat):Int)] W fun e w'=>e=.returned (.string (QiG k))∧w'=W):=fun W=>itoa_any k (by omega) W
    have HAdd:Hid (∀ v' w6,World.ownsRow w6 w.heap.size 38 4 v' (L.length+1) (QaR L++(Je.mk (refA k) en pe a4 c4' (gl has)).cells.toList)→(w4.alloc (.cells #[.string (refA k),.int .i64 en,.int .i64 pe,.slice a4 (gl has).length c4'] 38)).grownBy w6 (Value.slice av L.length cv).ownBlock→(Qbp w6 w.heap.size v' (L++[Je.mk (refA k) en pe a4 c4' (gl has)])∧(L++[Je.mk (refA k) en pe a4 c4' (gl has)]).map Je.ep=QgA en pe b l (k+1)∧(L++[Je.mk (refA k) en pe a4 c4' (gl has)]).length≤k+1)∧Below w.heap.size w w6):=fun v' w6 h1 h2=>by
     obtain ⟨m1,m2,m3⟩:=HM.out;have z1:=HK1.out.trans (HB4.out.mono HK1.out.size);have z2:=z1.alloc z1.size (.cells #[.string (refA k),.int .i64 en,.int .i64 pe,.slice a4 (gl has).length c4'] 38);have z3:Below w4.heap.size w4 (w4.alloc (.cells #[.string (refA k),.int .i64 en,.int .i64 pe,.slice a4 (gl has).length c4'] 38)):=(Below.refl _ w4).alloc (Nat.le_refl _) _;have m4:=((m1.below HK2.out).below HB4.out).below z3
     refine ⟨⟨m4.add (x:=Je.mk (refA k) en pe a4 c4' (gl has)) ((HR4.out.below z3).mono HK1.out.size) h1 h2,?_,?_⟩,z2.grown h2 z2.size fun j e=>m1.row.own j e⟩
     ·rw [List.map_append,m2,HP2.out];rfl
     ·rw [List.length_append];simp;exact m3
    have HRow:Hid (World.ownsRow (w4.alloc (.cells #[.string (refA k),.int .i64 en,.int .i64 pe,.slice a4 (gl has).length c4'] 38)) w.heap.size 38 4 (.slice av L.length cv) L.length (QaR L)):=by
     have m4:=(HM.out.1.below HK2.out).below HB4.out;exact World.ownsRow.alloc m4.row _
    have s2:Hid (L.length+1≤maxLen∧(L.length+1)*56≤140737488355328):=by
     have:=HM.out.2.2
     unfold Hid maxLen;omega
    have s4:Hid (w.heap.size≤(w4.alloc (.cells #[.string (refA k),.int .i64 en,.int .i64 pe,.slice a4 (gl has).length c4'] 38)).heap.size):=by
     have z1:=HK1.out.size;have z2:=HB4.out.size;unfold Hid;simp;omega
    have hds:¬ 9223372036854775807<6+(QiG k).size:=by have:=digS_size k;omega
    clear HG hr4 hb4 HM f0 f1 f2 f3;go_wp2_with fail;refine (HIt.out _).mono ?_;rintro e w' ⟨rfl,hw⟩;rw [hw];clear hw w' HIt;go_wp2_with (at_builtin;refine wpList_append_own _ rfl _ _ 27 rfl w.heap.size 38 i0 (.agg #[.string ByteArray.empty,.int .i64 0,.int .i64 0,.slice none 0 0]) 4 56 underlying27 hi hz0 hz1 hz2 rfl (by decide) _ _ _ rfl HRow.out ⟨w4.heap.size,0,none⟩ 1 1 (Je.mk (refA k) en pe a4 c4' (gl has)).cells.toList rfl rfl (World.news_of_block (World.alloc_heap_new w4 _)) (Qgi _) s2.out.1 s2.out.2 s4.out ?_)
    intro v' w6 hown' hgrow _;obtain ⟨hm6,hb6⟩:=HAdd.out v' w6 hown' hgrow;have HM6:Hid _:=hm6;have HB6:Hid (Below w.heap.size w w6):=hb6;clear hown' hgrow hm6 hb6 HAdd HRow;go_wp2;go_roundw
    case rel=>exact ⟨k+1,_,by omega,by go_num,HM6,HN,HB6⟩
    case measure=>simp [RowKit.intOf];omega
   ·have HG:Hid (Calls _ _ _ _ _):=gB c4;have HE:Hid (∀ W,Below w.heap.size w W→QeZ c l b en pe w (.returned (.tuple #[.slice none 0 0,.iface 68 (.int .i64 1)])) W):=fun W hW=>HErr.out _ W (by decide) (HBr.out (by rw [HGB.out,if_neg c4])) hW
    rw [Qae (by decide)] at HG
    clear gB gG HBd HBr HGB HPE HNx HOk HErr;go_wp2_with fail;refine HG.out.mono ?_;rintro e w4 ⟨rfl,hb4⟩;have HB4:Hid (Below w.heap.size w w4):=HK1.out.trans (hb4.mono HK1.out.size);clear hb4 HG;go_wp2;go_ret2;exact HE.out _ HB4.out
  ·have ek:k=l.length:=by omega
   subst ek;obtain ⟨m1,m2,m3⟩:=HM.out;have HE:Hid (QeZ c l b en pe w (.returned (.tuple #[.slice av L.length cv,.nilIface])) wr):=HOk.out _ L wr (by rw [HB0.out,H0.out]) HB.out m1 m2
   clear m1 m2 m3 HM HErr HOk HPo HPs HBl;go_wp2;go_ret2;exact HE.out
end
section
open Go.RowKit Go.Lib Go.Proofs.Tryz
theorem texts_ne {a b:ByteArray} (h:a≠b):(a.toList == b.toList)=false:=by
 rw [beq_eq_false_iff_ne];intro e;rw [Lib.toList_data,Lib.toList_data] at e;exact h (WideShapes.bytes_inj e)
structure Rt where
 frm:ByteArray
 dst:ByteArray
 per:Int
 num:Int
 den:Int
def Rt.cells (r:Rt):Array Value:=#[.string r.frm,.string r.dst,.int .i64 r.per,.int .i64 r.num,.int .i64 r.den]
def Qex (n:Int):Value:=if n=0 then .nilIface else .iface 68 (.int .i64 n)
theorem Qbu:Qex 0=.nilIface:=rfl
def Qa1 (r:Rt):Int:=
 if Qam r.frm=false∨Qam r.dst=false then 2
 else if r.frm=r.dst then 3
 else if Qak r.per 120=false∨Qak r.num 1000000000=false∨Qak r.den 1000000000=false then 1 else 0
structure RtAt (w:World) (b off:Nat) (r:Rt):Prop where
 c0:w.cell? ⟨b,off,none⟩=some (.string r.frm)
 c1:w.cell? ⟨b,off+1,none⟩=some (.string r.dst)
 c2:w.cell? ⟨b,off+2,none⟩=some (.int .i64 r.per)
 c3:w.cell? ⟨b,off+3,none⟩=some (.int .i64 r.num)
 c4:w.cell? ⟨b,off+4,none⟩=some (.int .i64 r.den)
theorem RtAt.below {w w':World} {b off n:Nat} {r:Rt} (h:RtAt w b off r) (hb:Below n w w') (hn:b<n):RtAt w' b off r:=
 ⟨(hb.cell (p:=⟨b,off,none⟩) hn).trans h.c0,(hb.cell (p:=⟨b,off+1,none⟩) hn).trans h.c1,(hb.cell (p:=⟨b,off+2,none⟩) hn).trans h.c2,(hb.cell (p:=⟨b,off+3,none⟩) hn).trans h.c3,(hb.cell (p:=⟨b,off+4,none⟩) hn).trans h.c4⟩
theorem RtAt.new (w:World) (r:Rt) (t:TypeId):RtAt (w.alloc (.cells r.cells t)) w.heap.size 0 r:=
 ⟨by simp [Rt.cells],by simp [Rt.cells],by simp [Rt.cells],by simp [Rt.cells],by simp [Rt.cells]⟩
set_option maxHeartbeats 2000000 in
theorem rtCheck_any (r:Rt) (w:World) :
  Calls prog 105 #[.agg r.cells] w fun e w'=>e=.returned (Qex (Qa1 r))∧Below w.heap.size w w':=by
 have hn:=RtAt.new w r 75;obtain ⟨f,t,p,n,d⟩:=r;have b0:Below w.heap.size w (w.alloc (.cells #[.string f,.string t,.int .i64 p,.int .i64 n,.int .i64 d] 75)):=(Below.refl _ w).alloc (Nat.le_refl _) _;have hsz:(w.alloc (.cells #[.string f,.string t,.int .i64 p,.int .i64 n,.int .i64 d] 75)).heap.size=w.heap.size+1:=by simp
 obtain ⟨res,hres⟩:∃ res,Qa1 ⟨f,t,p,n,d⟩=res:=⟨_,rfl⟩;simp only [Rt.cells] at hn ⊢;rw [hres];have Hres:Hid (Qa1 ⟨f,t,p,n,d⟩=res):=hres;clear hres;have hn0:=hn;obtain ⟨c0,c1,c2,c3,c4⟩:=hn;simp only [Nat.zero_add] at c0 c1 c2 c3 c4;go_enter func105,ntmps105
 go_wp2_with fail;refine (Qcu f _).mono ?_;rintro e w1 ⟨rfl,hb1⟩;rw [hsz] at hb1;clear c0 c1 c2 c3 c4;have hn1:=hn0.below hb1 (Nat.lt_succ_self _);have B1:=b0.trans (hb1.mono (Nat.le_succ _));clear b0 hn0;cases h1:Qam f
 ·have e1:res=2:=by rw [← Hres.out];simp [Qa1,h1]
  subst e1;go_wp2;go_ret;exact ⟨rfl,B1⟩
 obtain ⟨c0,c1,c2,c3,c4⟩:=hn1;simp only [Nat.zero_add] at c0 c1 c2 c3 c4;go_wp2_with fail;refine (Qcu t _).mono ?_;rintro e w2 ⟨rfl,hb2⟩;have hn2:=(RtAt.mk c0 c1 c2 c3 c4:RtAt w1 w.heap.size 0 ⟨f,t,p,n,d⟩).below hb2 (by have:=hb1.size;omega)
 have B2:=B1.trans (hb2.mono (by have:=hb1.size;omega))
 clear c0 c1 c2 c3 c4 hb1 B1 hb2;cases h2:Qam t
 ·have e1:res=2:=by rw [← Hres.out];simp [Qa1,h1,h2]
  subst e1;go_wp2;go_ret;exact ⟨rfl,B2⟩
 obtain ⟨c0,c1,c2,c3,c4⟩:=hn2;simp only [Nat.zero_add] at c0 c1 c2 c3 c4;by_cases h3:f=t
 ·have e1:res=3:=by rw [← Hres.out];simp [Qa1,h2,h3]
  subst e1;subst h3;go_wp2;go_ret;exact ⟨rfl,B2⟩
 have h3':=texts_ne h3;have eR:res=if Qak p 120=false∨Qak n 1000000000=false∨Qak d 1000000000=false then 1 else 0:=by
  rw [← Hres.out];simp [Qa1,h1,h2,h3]
 have ER:Hid (res=if Qak p 120=false∨Qak n 1000000000=false∨Qak d 1000000000=false then 1 else 0):=eR
 clear eR Hres;go_wp2_with fail;refine (QgN p 120 _).mono ?_;rintro e w' ⟨rfl,hw⟩;rw [hw];clear hw w';cases h4:Qak p 120
 ·have e1:res=1:=by rw [ER.out];simp [h4]
  subst e1;go_wp2;go_ret;exact ⟨rfl,B2⟩
 go_wp2_with fail;refine (QgN n 1000000000 _).mono ?_;rintro e w' ⟨rfl,hw⟩;rw [hw];clear hw w';cases h5:Qak n 1000000000
 ·have e1:res=1:=by rw [ER.out];simp [h5]
  subst e1;go_wp2;go_ret;exact ⟨rfl,B2⟩
 go_wp2_with fail;refine (QgN d 1000000000 _).mono ?_;rintro e w' ⟨rfl,hw⟩;rw [hw];clear hw w';cases h6:Qak d 1000000000
 ·have e1:res=1:=by rw [ER.out];simp [h6]
  subst e1;go_wp2;go_ret;exact ⟨rfl,B2⟩
 have e1:res=0:=by rw [ER.out];simp [h4,h5,h6]
 subst e1;go_wp2;go_ret;exact ⟨rfl,B2⟩
end
section
open Go.RowKit Go.Lib Go.Maps Go.Proofs.Tryz
theorem rate_laidOut:laidOutB prog=true:=by kernel_rfl
theorem pair_row:(161:TypeId)<prog.types.size:=of_decide_eq_true (by kernel_rfl)
theorem pair_wide:(match prog.underlying 161 with | some (.array _ _) | some (.struct _)=>true | _=>false)=true:=by kernel_rfl
set_option maxRecDepth 100000 in
theorem QgZ:Keyed prog 161:=Keyed.of_law (deep_law_laid rate_laidOut (m:=3) (by omega) pair_row (by kernel_rfl) pair_wide)
theorem pair_type:prog.keyType 161=true:=by kernel_rfl
theorem Qji:prog.cellsOf 161=3:=by kernel_rfl
theorem str_cells:prog.cellsOf 9=1:=by kernel_rfl
theorem int_cells:prog.cellsOf 3=1:=by kernel_rfl
theorem rate_types:prog.types.size=357:=by kernel_rfl
def Qgz (f t:ByteArray) (p:Int):Value:=.agg #[.string f,.string t,.int .i64 p]
def Qa5 (f t:ByteArray) (p:Int):Lit:=.string (keyBytes [.string f.data.toList,.string t.data.toList,.int .i64 p])
theorem QbK {f t:ByteArray} {p:Int} (hf:f.size≤maxLen) (ht:t.size≤maxLen) (hp:(Lit.int .i64 p).wf=true):keyOf prog 161 (Qgz f t p)=some (Qa5 f t p):=by
 have k1:∀ d (s:ByteArray),s.size≤maxLen→prog.keyLits (d+1) 9 [.string s]=some [.string s.data.toList]:=fun d s hs=>by
  simp [Program.keyLits,underlying9,hs]
 have k2:∀ d,prog.keyLits (d+1) 3 [.int .i64 p]=some [.int .i64 p]:=fun d=>by
  simp [Program.keyLits,underlying3,hp]
 have k3:∀ d,prog.keyLits (d+1+1) 161 [.string f,.string t,.int .i64 p]=some [.string f.data.toList,.string t.data.toList,.int .i64 p]:=fun d=>by
  unfold Program.keyLits;simp [underlying161,Qji,str_cells,int_cells,k1 d f hf,k1 d t ht,k2 d]
 have k4:prog.types.size+1=prog.types.size - 1+1+1:=by rw [rate_types]
 unfold keyOf;rw [underlying161];simp only [pair_type,Value.formed,underlying161,Qgz,Qji,Value.cells];rw [k4,k3];rfl
theorem QaN (f t:ByteArray) (p:Int):WideAt.IsKeyLit (Qa5 f t p):=trivial
theorem keyL_inj {f t f' t':ByteArray} {p p':Int} (hf:f.size≤maxLen) (ht:t.size≤maxLen) (hp:(Lit.int .i64 p).wf=true) (hf':f'.size≤maxLen) (ht':t'.size≤maxLen) (hp':(Lit.int .i64 p').wf=true)
  (h:Qa5 f t p=Qa5 f' t' p'):f=f'∧t=t'∧p=p':=by
 have h1:=QbK hf ht hp;have h2:=QbK hf' ht' hp';rw [← h] at h2
 have:=QgZ.inj h1 h2
 simpa [Qgz] using this
def wD (n d:Int):DataW Unit:=.agg [.lit (.int .i64 n),.lit (.int .i64 d)]
def worthV (n d:Int):Value:=.agg #[.int .i64 n,.int .i64 d]
def worthR:Value→Option (DataW Unit×List MemPlace)
 | .agg xs=>match xs.toList with
  | [.int .i64 n,.int .i64 d]=>some (wD n d,[])
  | _=>none
 | _=>none
theorem Qh9 (n d:Int):worthR (worthV n d)=some (wD n d,[]):=rfl
theorem worthR_inv {v:Value} {z:DataW Unit×List MemPlace} (h:worthR v=some z):∃ n d,v=worthV n d∧z=(wD n d,[]):=by
 unfold worthR at h;split at h
 ·rename_i xs;split at h
  ·rename_i n d hl;obtain ⟨l⟩:=xs;simp only at hl;subst hl;exact ⟨n,d,rfl,by simpa using h.symm⟩
  ·cases h
 ·cases h
theorem worth_zero (w:World):(zeroValue 163).run prog w=.ok (worthV 0 0) w:=by kernel_rfl
abbrev Qe2 (w:World) (b n:Nat) (D:DataW Unit):Prop:=w.ownsMap prog 161 worthR b n D
theorem QaO {P:Program} {ops:Array Oper} {rest:List Oper} {o:Oper} {a:Act} {Q:Exit→Act→World→Prop} (w:World) (hP:P=prog) (hg:o.guard=none) (m x:Operand) (hop:o.op=Op.lookup 116 m x true) (b n:Nat) (D:DataW Unit)
  (hm:a.eval m=.map (some b)) (hown:Qe2 w b n D) (key:Value) (kl:Lit) (hx:a.eval x=key) (hkey:keyOf prog 161 key=some kl)
  (hK:∀ p q:Int,D.atKey kl (wD 0 0)=wD p q→wpList P ops Q rest (a.put o.dst (.tuple #[.agg #[.int .i64 p,.int .i64 q],.bool (Maps.has D kl)])) w) :
  wpList P ops Q (o :: rest) a w:=by
 subst hP;refine wpList_lookup_own_ok w hg m x _ hop _ _ QgZ underlying116 worthR (worth_zero w) (wD 0 0) [] (Qh9 0 0) b n D hm hown key kl hx hkey (fun v ps hv=>?_)
 obtain ⟨p,q,rfl,hz⟩:=worthR_inv hv;exact hK p q (congrArg Prod.fst hz)
def QcS (D:DataW Unit) (r:Rt):DataW Unit:=(D.put (Qa5 r.frm r.dst r.per) (wD r.num r.den)).put (Qa5 r.dst r.frm r.per) (wD r.den r.num)
def QeO:DataW Unit→List Rt→Int×DataW Unit
 | D,[]=>(0,D)
 | D,r :: rs=>if Qa1 r≠0 then (Qa1 r,D) else if Maps.has D (Qa5 r.frm r.dst r.per)=true then (8,D) else QeO (QcS D r) rs
def Qfe (rs:List Rt):Int×DataW Unit:=if 100<rs.length then (4,.map []) else QeO (.map []) rs
theorem tabGo_nil (D:DataW Unit):QeO D []=(0,D):=rfl
theorem tabGo_bad {D:DataW Unit} {r:Rt} {rs:List Rt} (h:Qa1 r≠0):QeO D (r :: rs)=(Qa1 r,D):=by simp [QeO,h]
theorem Qe5 {D:DataW Unit} {r:Rt} {rs:List Rt} (h:Qa1 r=0) (h2:Maps.has D (Qa5 r.frm r.dst r.per)=true):QeO D (r :: rs)=(8,D):=by simp [QeO,h,h2]
theorem Qf3 {D:DataW Unit} {r:Rt} {rs:List Rt} (h:Qa1 r=0) (h2:Maps.has D (Qa5 r.frm r.dst r.per)=false):QeO D (r :: rs)=QeO (QcS D r) rs:=by simp [QeO,h,h2]
theorem tabS_full {rs:List Rt} (h:100<rs.length):Qfe rs=(4,.map []):=by simp [Qfe,h]
theorem tabS_go {rs:List Rt} (h:¬ 100<rs.length):Qfe rs=QeO (.map []) rs:=by simp [Qfe,h]
end
end Go.Proofs.YtibhgngboljhfaaGreatDoor
