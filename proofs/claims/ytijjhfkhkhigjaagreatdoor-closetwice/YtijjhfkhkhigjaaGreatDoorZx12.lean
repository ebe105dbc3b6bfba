/-
  Part of a proof (see the last text).
-/
import Derived.Test.YtijjhfkhkhigjaaGreatDoorZx11
import Derived.Test.YtijjhfkhkhigjaaGreatDoorZx9
import Derived.Test.YtijjhfkhkhigjaaGreatDoorZx4
import Derived.Test.YtijjhfkhkhigjaaGreatDoorZx5
import Derived.Deep.Cut
set_option linter.unusedVariables false
set_option linter.unusedSimpArgs false
set_option maxRecDepth 100000
namespace Go.Proofs.YtijjhfkhkhigjaaGreatDoor
open Go.RowKit Go.Lib Math
structure Two1 (w W:World) (g:Nat) (P C:List Int):Prop where
 p:URow W g P
 c:URow W (g+1) C
 b:Below g w W
 s:W.heap.size=g+2
theorem Two1.drewN {w W:World} {g:Nat} {P C:List Int} (h:Two1 w W g P C) (n:Nat):Two1 w (W.drewN n) g P C:=⟨h.p,h.c,h.b.trans ⟨rfl,rfl,rfl,Nat.le_refl _,fun _ _=>rfl⟩,h.s⟩
theorem Two1.step {w W:World} {g:Nat} {P C:List Int} (h:Two1 w W g P C) (k:Nat) (x y:Int):Two1 w ((W.setCell ⟨g,k,none⟩ (.int .u64 x)).setCell ⟨g+1,k,none⟩ (.int .u64 y)) g (P.set k x) (C.set k y):=
 ⟨(h.p.set k x).other (by omega) k _,(h.c.other (by omega) k _).set k y,(h.b.setCell (p:=⟨g,k,none⟩) (Nat.le_refl _) _).setCell (p:=⟨g+1,k,none⟩) (Nat.le_succ _) _,by simp [World.setCell,h.s]⟩
theorem shares_bad (t:Int) (a:Option Addr) (ws:List Int) (cap:Nat) (w:World) (h:IsW w a ws cap) (hl:ws.length≤9223372036854775807) (hb:shBad ws≠0) :
  Calls Tryz.prog 106 #[.int .i64 t,.slice a ws.length cap] w (SharesEnd t ws w):=by
 have HC:Hid (Calls _ _ _ _ _):=weigh_any a ws cap w h hl
 have eE:shE (shBad ws)=.iface 51 (.int .i64 (shBad ws)):=by unfold shE;rw [if_neg hb]
 rw [eE] at HC
 have HE:Hid (SharesEnd t ws w (.returned (.tuple #[.slice none 0 0,.iface 51 (.int .i64 (shBad ws))])) w):=⟨Below.refl _ _,fun _=>rfl,fun e=>absurd e hb⟩
 generalize shBad ws=n at *
 clear h eE
 go_enter Tryz.func106,Tryz.ntmps106
 go_wp2_with fail
 refine HC.out.mono ?_
 rintro e w' ⟨rfl,hw⟩
 rw [hw];clear hw w'
 go_wp2
 go_ret2
 exact HE.out
set_option maxHeartbeats 8000000 in
theorem shares_good_of (t:Int) (a:Option Addr) (ws:List Int) (cap:Nat) (w:World) (HBC:∀ (gc ccap:Nat) (cut:List Int) (w:World),cut.length=ws.length→gc<w.heap.size→(∀ i,i<cut.length→w.cell? ⟨gc,i,none⟩=some (.int .u64 (cut.getD i 0)))→0<cut.length→cut.length≤40→Calls Tryz.prog 146 #[.slice (some ⟨gc,0,none⟩) cut.length ccap] w fun e w'=>e=.returned (.slice (some ⟨w.heap.size+1,0,none⟩) cut.length cut.length)∧Hid (Below w.heap.size w w'∧∃ s:List Nat,s.Perm (List.range cut.length)∧s.Pairwise (LT cut)∧NRow w' (w.heap.size+1) (toI s))) (h:IsW w a ws cap) (hb:shBad ws=0) (ht:I64 t) :
  Calls Tryz.prog 106 #[.int .i64 t,.slice a ws.length cap] w (SharesEnd t ws w):=by
 have hG:=shBad_zero hb
 have HG:Hid (GoodW ws):=hG
 have hT0:=sizeI_nonneg t
 obtain ⟨n,hn⟩:∃ n,ws.length=n:=⟨_,rfl⟩
 have hn40:n≤40:=hn▸hG.1
 have hn1:0<n:=by
  rcases Nat.eq_zero_or_pos n with e | e
  ·rw [e] at hn
   have h3:=hG.2.2
   rw [List.length_eq_zero_iff.1 hn] at h3
   simp at h3
  ·exact e
 have HCw:Hid (Calls _ _ _ _ _):=weigh_any a ws cap w h (by omega)
 have eV:weighV ws=ws.sum:=by unfold weighV;rw [if_pos hb]
 have eE:shE (shBad ws)=.nilIface:=by unfold shE;rw [if_pos hb]
 rw [eV,eE] at HCw
 have HSz:Hid (∀ W,Calls Tryz.prog 144 #[.int .i64 t] W fun e w'=>e=.returned (.int .u64 (sizeI t))∧w'=W):=fun W=>size_any t W ht.1 ht.2
 have hTt:sizeI t≤9223372036854775808:=by have:=ht.1;have:=ht.2;unfold sizeI;split <;> omega
 have hA1:=hG.2.2
 have hA2:ws.sum≤40000000000:=by
  have:=sum_le (l:=ws) (M:=1000000000) fun x hx=>(hG.2.1 x hx).2
  omega
 have Hw:Hid (∀ k,k<n→0≤ws.getD k 0∧ws.getD k 0≤1000000000∧ws.getD k 0≤ws.sum):=fun k hk=>by
  have hm:=w_mem ws k (by omega)
  exact ⟨(hG.2.1 _ hm).1,(hG.2.1 _ hm).2,mem_le_sum (fun x hx=>(hG.2.1 x hx).1) hm⟩
 obtain ⟨T,hT⟩:∃ T,sizeI t=T:=⟨_,rfl⟩
 have HT:Hid (sizeI t=T):=hT
 rw [hT] at hT0 HSz hTt
 obtain ⟨A,hA⟩:∃ A,ws.sum=A:=⟨_,rfl⟩
 have HA:Hid (ws.sum=A):=hA
 rw [hA] at hA1 hA2 HCw Hw
 have HPt:Hid (∀ k W,k<n→Calls Tryz.prog 145 #[.int .u64 T,.int .u64 (ws.getD k 0),.int .u64 A] W fun e w'=>e=.returned (.tuple #[.int .u64 ((partL T ws).getD k 0),.int .u64 ((cutL T ws).getD k 0)])∧∃ n,w'=W.drewN n):=fun k W hk=>by
  obtain ⟨x0,x1,x2⟩:=Hw.out k hk
  have:=part_any T (ws.getD k 0) A W hT0 (by omega) x0 x2 (by omega) (by omega)
  rw [partL_at T ws (by omega),cutL_at T ws (by omega),hA]
  exact this
 have HL:Hid (∀ k,k≤n→0≤leftK T ws k∧leftK T ws k≤T):=fun k hk=>leftK_bd hT0 hG k (by omega)
 have HLs:Hid (∀ k,leftK T ws (k+1)=leftK T ws k - (partL T ws).getD k 0):=fun k=>leftK_succ T ws k
 have HP0:Hid (∀ k,k<n→0≤(partL T ws).getD k 0∧(partL T ws).getD k 0≤T):=fun k hk=>by
  have h1:=part_nonneg' hT0 hG (i:=k) (by omega)
  have h2:=leftK_bd hT0 hG k (by omega)
  have h3:=leftK_bd hT0 hG (k+1) (by omega)
  rw [leftK_succ] at h3
  omega
 have Hc:Hid (∀ W,Below w.heap.size w W→∀ k,k<n→∃ b off,a=some ⟨b,off,none⟩∧b<w.heap.size∧W.cell? ⟨b,off+k,none⟩=some (.int .i64 (ws.getD k 0))):=fun W hW k hk=>by
  obtain ⟨b,off,e,hlt,hc⟩:=h.at (k:=k) (by omega)
  exact ⟨b,off,e,hlt,(hW.cell (p:=⟨b,off+k,none⟩) hlt).trans hc⟩
 have hmk:=fun w=>run_make_row' (P:=Tryz.prog) 214 205 (.int .u64 0) 8 Tryz.underlying214 srt_u64 rfl .i64 .i64 n (by omega) (by omega) w
 have hmi:=fun w=>run_make_row' (P:=Tryz.prog) 27 3 (.int .i64 0) 8 Tryz.underlying27 srt_int rfl .i64 .i64 n (by omega) (by omega) w
 have H2:Hid (Two1 w ((w.alloc (.cells (madeCells #[.int .u64 0] n) 205)).alloc (.cells (madeCells #[.int .u64 0] n) 205)) w.heap.size (List.replicate n 0) (List.replicate n 0)):=by
  refine ⟨(URow.made w n).alloc _,?_,((Below.refl _ w).alloc (Nat.le_refl _) _).alloc (by simp) _,by simp⟩
  have:=URow.made (w.alloc (.cells (madeCells #[.int .u64 0] n) 205)) n
  rw [show (w.alloc (.cells (madeCells #[.int .u64 0] n) 205)).heap.size=w.heap.size+1 by simp] at this
  exact this
 have HBy:Hid (∀ W,Two1 w W w.heap.size (partL T ws) (cutL T ws)→Calls Tryz.prog 146 #[.slice (some ⟨w.heap.size+1,0,none⟩) n n] W fun e w'=>e=.returned (.slice (some ⟨w.heap.size+3,0,none⟩) n n)∧Hid (∃ s:List Nat,s.Perm (List.range n)∧s.Pairwise (LT (cutL T ws))∧NRow w' (w.heap.size+3) (toI s)∧URow w' w.heap.size (rowK T ws s 0)∧Below w.heap.size w w')):=fun W hW=>by
  have hcl:(cutL T ws).length=n:=by rw [cutL_len];exact hn
  have c:=HBC (w.heap.size+1) n (cutL T ws) W (by omega) (by have:=hW.s;omega) (fun i hi=>hW.c.cell hi) (by omega) (by omega)
  rw [hcl,hW.s] at c
  refine c.mono ?_
  rintro e w' ⟨rfl,hh⟩
  obtain ⟨hbl,s,p1,p2,p3⟩:=hh.out
  exact ⟨rfl,s,p1,p2,p3,by rw [rowK_zero];exact hW.p.below hbl (by omega),hW.b.trans (hbl.mono (by omega))⟩
 have HEnd:Hid (∀ g W,w.heap.size≤g→Below w.heap.size w W→NRow W g ((List.range n).map (shareI t ws))→SharesEnd t ws w (.returned (.tuple #[.slice (some ⟨g,0,none⟩) n n,.nilIface])) W):=fun g W h1 h2 h3=>⟨h2,fun e=>absurd hb e,fun _=>⟨g,h1,by rw [hn],by rw [hn];exact h3⟩⟩
 have HAll:Hid (∀ s:List Nat,s.Perm (List.range n)→s.Pairwise (LT (cutL T ws))→rowK T ws s (leftI T ws).toNat=(List.range n).map (grossI T ws)):=fun s h1 h2=>by
  rw [← hn];rw [← hn] at h1
  exact rowK_all hG h1 h2
 have HKa:Hid (leftK T ws n=((leftI T ws).toNat:Nat)∧(leftI T ws).toNat≤n):=by
  have h1:=leftK_all T ws
  rw [hn] at h1
  have h2:=left_nonneg (T:=T) hG
  have h3:=left_le (T:=T) hG
  refine ⟨by rw [h1];omega,by omega⟩
 have HRow0:Hid ((List.range n).map (fun i=>(partL T ws).getD i 0)=partL T ws∧(List.range n).map (fun i=>(cutL T ws).getD i 0)=cutL T ws):=by
  have h1:=range_getD (partL T ws)
  have h2:=range_getD (cutL T ws)
  rw [partL_len,hn] at h1
  rw [cutL_len,hn] at h2
  exact ⟨h1,h2⟩
 have HLen:Hid (ws.length=n):=hn
 have HGr:Hid (∀ k,k<n→0≤grossI T ws k∧grossI T ws k≤T):=fun k hk=>⟨gross_nonneg hT0 hG (by omega),gross_le hT0 hG (by omega)⟩
 have HSg:Hid (∀ k W,k<n→Calls Tryz.prog 147 #[.int .u64 (grossI T ws k),.bool (decide (t<0))] W fun e w'=>e=.returned (.int .i64 (shareI t ws k))∧w'=W):=fun k W hk=>by
  obtain ⟨g0,g1⟩:=HGr.out k hk
  rw [share_gross,hT]
  have h1:=ht.1
  have h2:=ht.2
  by_cases hneg:t<0
  ·rw [decide_eq_true hneg,if_pos hneg]
   exact withSign_yes _ W g0 (by omega)
  ·rw [decide_eq_false hneg,if_neg hneg]
   refine withSign_no _ W g0 ?_
   unfold sizeI at hT
   rw [if_neg hneg] at hT
   omega
 have n0:(0:Int)<n:=by omega
 have n1:(n:Int)≤40:=by omega
 obtain ⟨g,hg⟩:∃ g,w.heap.size=g:=⟨_,rfl⟩
 rw [hn]
 rw [hn] at HCw
 rw [hg] at H2 HBy HEnd Hc
 clear h hb hG eV eE hn hA hT HG
 go_enter Tryz.func106,Tryz.ntmps106
 go_wp2_with (first | (go_at_call 143;refine HCw.out.mono ?_;rintro e w' ⟨rfl,hw⟩;rw [hw];clear hw w') | (go_at_call 144;refine (HSz.out _).mono ?_;rintro e w' ⟨rfl,hw⟩;rw [hw];clear hw w'))
 clear hmk
 obtain ⟨wB,hwB⟩:∃ wB,(w.alloc (.cells (madeCells #[.int .u64 0] n) 205)).alloc (.cells (madeCells #[.int .u64 0] n) 205)=wB:=⟨_,rfl⟩
 rw [hwB] at H2 ⊢
 clear hwB
 go_loopw [10,36] (fun lf i wr=>∃ k:Nat,k≤n∧i=.int .i64 k∧lf=.int .u64 (leftK T ws k)∧Hid (Two1 w wr g ((List.range k).map (fun i=>(partL T ws).getD i 0)++List.replicate (n - k) 0) ((List.range k).map (fun i=>(cutL T ws).getD i 0)++List.replicate (n - k) 0))) (fun _ i _=>n - (RowKit.intOf i).toNat)
 case atStart=>exact ⟨0,Nat.zero_le _,rfl,by rw [leftK_zero],by unfold Hid;simpa using H2.out⟩
 case round=>
  obtain ⟨k,hk,rfl,rfl,H⟩:=hrel
  by_cases hlt:k<n
  ·obtain ⟨b,off,rfl,hb,hc⟩:=Hc.out wr H.out.b k hlt
   have HPk:Hid (∀ W,Calls _ _ _ W _):=fun W=>HPt.out k W hlt
   have HLk:=HLs.out k
   obtain ⟨x0,x1,x2⟩:=Hw.out k hlt
   obtain ⟨p0,p1⟩:=HP0.out k hlt
   obtain ⟨l0,l1⟩:=HL.out k hk
   have l2:=(HL.out (k+1) hlt).1
   rw [HLk] at l2
   have i0:(0:Int)≤k:=by omega
   have i1:(k:Int)<n:=by omega
   have HLk':Hid (leftK T ws (k+1)=leftK T ws k - (partL T ws).getD k 0):=HLk
   have HS:Hid (∀ m,Two1 w (((wr.drewN m).setCell ⟨g,k,none⟩ (.int .u64 ((partL T ws).getD k 0))).setCell ⟨g+1,k,none⟩ (.int .u64 ((cutL T ws).getD k 0))) g ((List.range (k+1)).map (fun i=>(partL T ws).getD i 0)++List.replicate (n - (k+1)) 0) ((List.range (k+1)).map (fun i=>(cutL T ws).getD i 0)++List.replicate (n - (k+1)) 0)):=fun m=>by
    have:=(H.out.drewN m).step k ((partL T ws).getD k 0) ((cutL T ws).getD k 0)
    rw [srow_step (fun i=>(partL T ws).getD i 0) n k hlt,srow_step (fun i=>(cutL T ws).getD i 0) n k hlt] at this
    exact this
   have hrl:∀ f:Nat→Int,((List.range k).map f++List.replicate (n - k) 0).length=n:=fun f=>by simp;omega
   have Hc1:Hid (∀ m,(∃ z,(wr.drewN m).cell? ⟨g,k,none⟩=some (.int .u64 z))∧(wr.drewN m).frozen? ⟨g,k,none⟩=false):=fun m=>⟨⟨_,(H.out.drewN m).p.cell (by rw [hrl];exact hlt)⟩,(H.out.drewN m).p.frozen k⟩
   have Hc2:Hid (∀ m x,(∃ z,((wr.drewN m).setCell ⟨g,k,none⟩ (.int .u64 x)).cell? ⟨g+1,k,none⟩=some (.int .u64 z))∧((wr.drewN m).setCell ⟨g,k,none⟩ (.int .u64 x)).frozen? ⟨g+1,k,none⟩=false):=fun m x=>by
    have:=(H.out.drewN m).c.other (g':=g) (by omega) k (.int .u64 x)
    exact ⟨⟨_,this.cell (by rw [hrl];exact hlt)⟩,this.frozen k⟩
   have Hc3:Hid (∀ m x y,(((wr.drewN m).setCell ⟨g,k,none⟩ (.int .u64 x)).setCell ⟨g+1,k,none⟩ (.int .u64 y)).cell? ⟨g,k,none⟩=some (.int .u64 x)):=fun m x y=>by
    have:=((H.out.drewN m).step k x y).p.cell (i:=k) (by rw [List.length_set,hrl];exact hlt)
    rw [List.getD_eq_getElem?_getD,List.getElem?_set_self (by rw [hrl];exact hlt)] at this
    exact this
   clear H HLk hrl
   generalize (partL T ws).getD k 0=P at *
   generalize (cutL T ws).getD k 0=C at *
   generalize leftK T ws k=Lk at *
   generalize ws.getD k 0=x at *
   go_wp2_with fail
   refine (HSz.out _).mono ?_
   rintro e w' ⟨rfl,hw⟩
   rw [hw];clear hw w'
   go_wp2_with fail
   go_at_call 145
   refine (HPk.out _).mono ?_
   rintro e w' ⟨rfl,m,hw⟩
   rw [hw];clear hw w'
   have HS1:=HS.out m
   obtain ⟨⟨z1,c1⟩,f1⟩:=Hc1.out m
   obtain ⟨⟨z2,c2⟩,f2⟩:=Hc2.out m P
   have c3:=Hc3.out m P C
   have HS2:Hid (Two1 _ _ _ _ _):=HS1
   clear HS HS1 Hc1 Hc2 Hc3
   obtain ⟨W1,hW1⟩:∃ W1,wr.drewN m=W1:=⟨_,rfl⟩
   rw [hW1] at c1 f1 c2 f2 c3 HS2 ⊢
   clear hW1 hc
   go_wp2
   go_roundw
   case rel=>exact ⟨k+1,by omega,by go_num,by rw [HLk'.out],HS2⟩
   case measure=>simp [RowKit.intOf];omega
  ·have ek:k=n:=by omega
   subst ek
   have HB2:Hid (Calls _ _ _ wr _):=HBy.out wr (by
    have h1:=H.out
    rw [Nat.sub_self,List.replicate_zero,List.append_nil,List.append_nil,HRow0.out.1,HRow0.out.2] at h1
    exact h1)
   obtain ⟨eL,hLn⟩:=HKa.out
   obtain ⟨Lf,hLf⟩:∃ Lf,(leftI T ws).toNat=Lf:=⟨_,rfl⟩
   rw [hLf] at eL hLn HAll
   rw [eL]
   have l0:(0:Int)≤Lf:=by omega
   have l1:(Lf:Int)≤k:=by omega
   have k1:¬ (k:Int)<k:=by omega
   clear H HBy HKa hLf H2
   go_wp2_with fail
   refine HB2.out.mono ?_
   rintro e wS ⟨rfl,hh⟩
   obtain ⟨s,s1,s2,s3,s4,s5⟩:=hh.out
   clear HB2 hh
   have sl:s.length=k:=by rw [s1.length_eq,List.length_range]
   have HAl:Hid (rowK T ws s Lf=(List.range k).map (grossI T ws)):=HAll.out s s1 s2
   have Hsb:Hid (∀ q,q<k→s.getD q 0<k):=fun q hq=>List.mem_range.1 (s1.mem_iff.1 (getD_mem0 (by omega)))
   have hnd:s.Nodup:=s1.symm.nodup List.nodup_range
   have Hst:Hid (∀ q,q<k→(rowK T ws s q).set (s.getD q 0) ((partL T ws).getD (s.getD q 0) 0+1)=rowK T ws s (q+1)):=fun q hq=>rowK_step T ws s q hnd (by omega) (by rw [HLen.out];exact Hsb.out q hq)
   have Hat:Hid (∀ q,q<k→(rowK T ws s q).getD (s.getD q 0) 0=(partL T ws).getD (s.getD q 0) 0):=fun q hq=>by
    rw [rowK_at T ws s q _ (by rw [HLen.out];exact Hsb.out q hq),if_neg (not_ahead hnd (by omega))]
    omega
   have Hrow:Hid (NRow wS (g+3) (toI s)∧URow wS g (rowK T ws s 0)∧Below g w wS):=⟨s3,s4,s5⟩
   have Hsl:Hid (s.length=k):=sl
   have Htoi:Hid (∀ q,q<k→(toI s).getD q 0=((s.getD q 0:Nat):Int)):=fun q hq=>by
    simp [toI,List.getD_eq_getElem?_getD,List.getElem?_map,List.getElem?_eq_getElem (show q<s.length by omega)]
   clear s1 s2 s3 s4 s5 sl HAll hnd
   go_wp2
   go_loopw [68] (fun i wr=>∃ q:Nat,q≤Lf∧i=.int .i64 q∧Hid (NRow wr (g+3) (toI s)∧URow wr g (rowK T ws s q)∧Below g w wr)) (fun i _=>Lf - (RowKit.intOf i).toNat)
   case atStart=>exact ⟨0,Nat.zero_le _,rfl,Hrow⟩
   case round=>
    rename World=>wq
    obtain ⟨q,hq,rfl,H⟩:=hrel
    by_cases hlt:q<Lf
    ·obtain ⟨r1,r2,r3⟩:=H.out
     have hqk:q<k:=by omega
     have cs:=r1.cell (i:=q) (by rw [toI_len,Hsl.out];exact hqk)
     rw [Htoi.out q hqk] at cs
     have hb:=Hsb.out q hqk
     have cp:=r2.cell (i:=s.getD q 0) (by rw [rowK_len,HLen.out];exact hb)
     have fp:=r2.frozen (s.getD q 0)
     rw [Hat.out q hqk] at cp
     have hst:=Hst.out q hqk
     have R2:=r2.set (s.getD q 0) ((partL T ws).getD (s.getD q 0) 0+1)
     rw [hst] at R2
     obtain ⟨p0,p1⟩:=HP0.out _ hb
     have HN:Hid (NRow (wq.setCell ⟨g,s.getD q 0,none⟩ (.int .u64 ((partL T ws).getD (s.getD q 0) 0+1))) (g+3) (toI s)∧URow (wq.setCell ⟨g,s.getD q 0,none⟩ (.int .u64 ((partL T ws).getD (s.getD q 0) 0+1))) g (rowK T ws s (q+1))∧Below g w (wq.setCell ⟨g,s.getD q 0,none⟩ (.int .u64 ((partL T ws).getD (s.getD q 0) 0+1)))):=⟨r1.other (by omega) _ _,R2,r3.setCell (p:=⟨g,s.getD q 0,none⟩) (Nat.le_refl _) _⟩
     have b0:(0:Int)≤(s.getD q 0:Nat):=by omega
     have b1:((s.getD q 0:Nat):Int)<k:=by omega
     have q0:(0:Int)≤q:=by omega
     have q1:(q:Int)<Lf:=by omega
     clear H r1 r2 r3 R2 hst
     generalize (partL T ws).getD (s.getD q 0) 0=P at *
     generalize s.getD q 0=j at *
     go_wp2
     go_roundw
     case rel=>exact ⟨q+1,by omega,by go_num,HN⟩
     case measure=>simp [RowKit.intOf];omega
    ·have ek:q=Lf:=by omega
     subst ek
     obtain ⟨r1,r2,r3⟩:=H.out
     rw [HAl.out] at r2
     have q1:¬ (q:Int)<q:=by omega
     have Hm:Hid (NRow (wq.alloc (.cells (madeCells #[.int .i64 0] k) 3)) wq.heap.size (List.replicate k 0)∧URow (wq.alloc (.cells (madeCells #[.int .i64 0] k) 3)) g ((List.range k).map (grossI T ws))∧Below g w (wq.alloc (.cells (madeCells #[.int .i64 0] k) 3))):=⟨nrow_made wq k,r2.alloc _,r3.alloc (by have:=r2.lt;omega) _⟩
     have hgm:g<wq.heap.size:=r2.lt
     clear H r1 r2 r3 HAl Hsb Hst Hat Hrow Htoi
     go_wp2
     obtain ⟨wC,hwC⟩:∃ wC,wq.alloc (.cells (madeCells #[.int .i64 0] k) 3)=wC:=⟨_,rfl⟩
     rw [hwC] at Hm ⊢
     obtain ⟨gm,hgm2⟩:∃ gm,wq.heap.size=gm:=⟨_,rfl⟩
     rw [hgm2] at Hm hgm ⊢
     clear hwC hmi
     go_loopw [84] (fun i wr=>∃ q:Nat,q≤k∧i=.int .i64 q∧Hid (NRow wr gm ((List.range q).map (shareI t ws)++List.replicate (k - q) 0)∧URow wr g ((List.range k).map (grossI T ws))∧Below g w wr)) (fun i _=>k - (RowKit.intOf i).toNat)
     case atStart=>exact ⟨0,Nat.zero_le _,rfl,by unfold Hid;simpa using Hm.out⟩
     case round=>
      rename World=>wv
      obtain ⟨q',hq',rfl,H⟩:=hrel
      by_cases hlt:q'<k
      ·obtain ⟨r1,r2,r3⟩:=H.out
       have cg:=r2.cell (i:=q') (by simp;exact hlt)
       rw [show ((List.range k).map (grossI T ws)).getD q' 0=grossI T ws q' by simp [List.getD_eq_getElem?_getD,hlt]] at cg
       have hrl:((List.range q').map (shareI t ws)++List.replicate (k - q') 0).length=k:=by simp;omega
       have cs:=r1.cell (i:=q') (by rw [hrl];exact hlt)
       have fs:=r1.frozen q'
       have R1:=r1.set q' (shareI t ws q')
       rw [srow_step (shareI t ws) k q' hlt] at R1
       have HSk:Hid (Calls _ _ _ wv _):=HSg.out q' wv hlt
       have HN:Hid (NRow (wv.setCell ⟨gm,q',none⟩ (.int .i64 (shareI t ws q'))) gm ((List.range (q'+1)).map (shareI t ws)++List.replicate (k - (q'+1)) 0)∧URow (wv.setCell ⟨gm,q',none⟩ (.int .i64 (shareI t ws q'))) g ((List.range k).map (grossI T ws))∧Below g w (wv.setCell ⟨gm,q',none⟩ (.int .i64 (shareI t ws q')))):=⟨R1,r2.other (by omega) _ _,r3.setCell (p:=⟨gm,q',none⟩) (by simp;omega) _⟩
       obtain ⟨g0,g1⟩:=HGr.out q' hlt
       have i0:(0:Int)≤q':=by omega
       have i1:(q':Int)<k:=by omega
       generalize ((List.range q').map (shareI t ws)++List.replicate (k - q') 0).getD q' 0=z at cs
       clear H r1 r2 r3 R1 hrl
       generalize grossI T ws q'=G at *
       generalize shareI t ws q'=V at *
       go_wp2_with fail
       refine HSk.out.mono ?_
       rintro e w' ⟨rfl,hw⟩
       rw [hw];clear hw w'
       go_wp2
       go_roundw
       case rel=>exact ⟨q'+1,by omega,by go_num,HN⟩
       case measure=>simp [RowKit.intOf];omega
      ·have ek:q'=k:=by omega
       subst ek
       obtain ⟨r1,r2,r3⟩:=H.out
       rw [Nat.sub_self,List.replicate_zero,List.append_nil] at r1
       have HE:Hid (SharesEnd _ _ _ _ _):=HEnd.out gm wv (by omega) r3 r1
       have i1:¬ (q':Int)<q':=by omega
       clear H r1 r2 r3
       go_wp2
       go_ret2
       exact HE.out
end Go.Proofs.YtijjhfkhkhigjaaGreatDoor
namespace Go.Proofs.YtijjhfkhkhigjaaGreatDoor
open Go.RowKit Go.Lib Math
end Go.Proofs.YtijjhfkhkhigjaaGreatDoor
namespace Go.Proofs.YtijjhfkhkhigjaaGreatDoor
open Go.RowKit Go.Lib
theorem byCut_few (gc ccap:Nat) (cut:List Int) (w:World) (hg:gc<w.heap.size) (hc:∀ i,i<cut.length→w.cell? ⟨gc,i,none⟩=some (.int .u64 (cut.getD i 0))) (hn0:0<cut.length) (hn:cut.length<20) :
  Calls Tryz.prog 146 #[.slice (some ⟨gc,0,none⟩) cut.length ccap] w fun e w'=>e=.returned (.slice (some ⟨w.heap.size+1,0,none⟩) cut.length cut.length)∧Hid (Below w.heap.size w w'∧∃ s:List Nat,s.Perm (List.range cut.length)∧s.Pairwise (LT cut)∧NRow w' (w.heap.size+1) (toI s)):=
 byCut_of gc ccap cut w (fun g cap cb s W h h0 hl hca h1 h2 hb hs=>sortStable_few g cap cb gc ccap cut s W h h0 (by omega) hca h1 h2 hb hs) hg hc hn0 (by omega)
end Go.Proofs.YtijjhfkhkhigjaaGreatDoor
namespace Go.Proofs.YtijjhfkhkhigjaaGreatDoor
open Go.RowKit Go.Lib Math
theorem shares_few (t:Int) (a:Option Addr) (ws:List Int) (cap:Nat) (w:World) (h:IsW w a ws cap) (hl:ws.length<20) (ht:I64 t) :
  Calls Tryz.prog 106 #[.int .i64 t,.slice a ws.length cap] w (SharesEnd t ws w):=by
 by_cases hb:shBad ws=0
 ·exact shares_good_of t a ws cap w (fun gc ccap cut w he hg hc h0 hn=>byCut_few gc ccap cut w hg hc h0 (by omega)) h hb ht
 ·exact shares_bad t a ws cap w h (by omega) hb
end Go.Proofs.YtijjhfkhkhigjaaGreatDoor
namespace Go.Proofs.YtijjhfkhkhigjaaGreatDoor
open Go.RowKit Go.Lib
structure Po where
 acc:ByteArray
 cur:ByteArray
 tA:Option Addr
 tC:Nat
 tos:List ByteArray
 wA:Option Addr
 wC:Nat
 ws:List Int
def po0:Po:=⟨ByteArray.empty,ByteArray.empty,none,0,[],none,0,[]⟩
def Po.cells (p:Po):Array Value:=#[.string p.acc,.string p.cur,.slice p.tA p.tos.length p.tC,.slice p.wA p.ws.length p.wC]
structure PoOk (w:World) (p:Po):Prop where
 tx:IsTx w p.tA p.tos p.tC
 iw:IsW w p.wA p.ws p.wC
 lt:p.tos.length≤9223372036854775807
 lw:p.ws.length≤9223372036854775807
theorem PoOk.below {w w':World} {p:Po} (h:PoOk w p) (hb:Below w.heap.size w w'):PoOk w' p:=⟨h.tx.below hb,h.iw.below hb,h.lt,h.lw⟩
structure PoAt (w:World) (b off:Nat) (p:Po):Prop where
 c0:w.cell? ⟨b,off,none⟩=some (.string p.acc)
 c1:w.cell? ⟨b,off+1,none⟩=some (.string p.cur)
 c2:w.cell? ⟨b,off+2,none⟩=some (.slice p.tA p.tos.length p.tC)
 c3:w.cell? ⟨b,off+3,none⟩=some (.slice p.wA p.ws.length p.wC)
theorem PoAt.below {w w':World} {b off n:Nat} {p:Po} (h:PoAt w b off p) (hb:Below n w w') (hn:b<n):PoAt w' b off p:=
 ⟨(hb.cell (p:=⟨b,off,none⟩) hn).trans h.c0,(hb.cell (p:=⟨b,off+1,none⟩) hn).trans h.c1,(hb.cell (p:=⟨b,off+2,none⟩) hn).trans h.c2,(hb.cell (p:=⟨b,off+3,none⟩) hn).trans h.c3⟩
theorem PoAt.new (w:World) (p:Po) (t:TypeId):PoAt (w.alloc (.cells p.cells t)) w.heap.size 0 p:=
 ⟨by simp [Po.cells],by simp [Po.cells],by simp [Po.cells],by simp [Po.cells]⟩
structure IsPs (w:World) (a:Option Addr) (l:List Po) (cap:Nat):Prop where
 cap:l.length≤cap
 lies:l=[]∨∃ b off,a=some ⟨b,off,none⟩∧b<w.heap.size∧∀ k,k<l.length→PoAt w b (off+k*4) (l.getD k po0)
 ok:∀ p∈l,PoOk w p
theorem IsPs.below {w w':World} {a:Option Addr} {l:List Po} {cap:Nat} (h:IsPs w a l cap) (hb:Below w.heap.size w w'):IsPs w' a l cap:=by
 refine ⟨h.cap,?_,fun p hp=>(h.ok p hp).below hb⟩
 rcases h.lies with h | ⟨b,off,e,hlt,hc⟩
 ·exact .inl h
 ·exact .inr ⟨b,off,e,by have:=hb.size;omega,fun k hk=>(hc k hk).below hb hlt⟩
theorem IsPs.at {w:World} {a:Option Addr} {l:List Po} {cap:Nat} (h:IsPs w a l cap) {k:Nat} (hk:k<l.length):∃ b off,a=some ⟨b,off,none⟩∧b<w.heap.size∧PoAt w b (off+k*4) (l.getD k po0)∧PoOk w (l.getD k po0):=by
 rcases h.lies with rfl | ⟨b,off,e,hlt,hc⟩
 ·simp at hk
 ·refine ⟨b,off,e,hlt,hc k hk,h.ok _ ?_⟩
  rw [List.getD_eq_getElem?_getD,List.getElem?_eq_getElem hk]
  exact List.getElem_mem hk
theorem IsPs.take {w:World} {a:Option Addr} {l:List Po} {cap:Nat} (h:IsPs w a l cap) (k:Nat):IsPs w a (l.take k) cap:=by
 refine ⟨by have:=h.cap;simp;omega,?_,fun p hp=>h.ok p (List.mem_of_mem_take hp)⟩
 rcases h.lies with h | ⟨b,off,e,hlt,hc⟩
 ·exact .inl (by rw [h];simp)
 ·refine .inr ⟨b,off,e,hlt,fun j hj=>?_⟩
  simp only [List.length_take] at hj
  have:(l.take k).getD j po0=l.getD j po0:=by
   rw [List.getD_eq_getElem?_getD,List.getD_eq_getElem?_getD,List.getElem?_take,if_pos (by omega)]
  rw [this]
  exact hc j (by omega)
structure PoTx (p:Po):Prop where
 acc:p.acc.size≤maxLen
 cur:p.cur.size≤maxLen
 tos:∀ t∈p.tos,t.size≤maxLen
def toBad (c:List Ac) (acc:ByteArray) (l:List ByteArray) (k:Nat):Int:=
 if leafBad c (l.getD k ByteArray.empty)≠0 then leafBad c (l.getD k ByteArray.empty)
 else if l.getD k ByteArray.empty=acc∨memB (l.getD k ByteArray.empty) (l.take k)=true then 8 else 0
def poBad (c:List Ac) (p:Po):Int:=
 if leafBad c p.acc≠0 then leafBad c p.acc
 else if isCur p.cur=false then 2
 else if p.tos.length=0∨p.tos.length≠p.ws.length then 3
 else if 19<p.tos.length then 4
 else if firstTo (toBad c p.acc p.tos) p.tos.length≠0 then firstTo (toBad c p.acc p.tos) p.tos.length
 else shBad p.ws
def psBad (c:List Ac) (l:List Po):Int:=
 if chBad c≠0 then chBad c else if 20<l.length then 4 else firstTo (fun k=>poBad c (l.getD k po0)) l.length
theorem shares_err (ws:List Int) (a:Option Addr) (cap:Nat) (w:World) (h:IsW w a ws cap) (hl:ws.length<20) :
  Calls Tryz.prog 106 #[.int .i64 0,.slice a ws.length cap] w fun e w'=>(∃ v,e=.returned (.tuple #[v,chE (shBad ws)]))∧Below w.heap.size w w':=by
 refine (shares_few 0 a ws cap w h hl ⟨by decide,by decide⟩).mono ?_
 rintro e w' ⟨hb,h1,h2⟩
 refine ⟨?_,hb⟩
 by_cases h0:shBad ws=0
 ·obtain ⟨g,_,rfl,_⟩:=h2 h0
  exact ⟨_,by rw [h0,chE_zero]⟩
 ·exact ⟨_,by rw [h1 h0,chE_ne h0]⟩
set_option maxHeartbeats 8000000 in
theorem checkPool_any (c:List Ac) (p:Po) (B1 B2:Nat) (w:World) (hL:Lfs w B1 B2 c) (hp:PoOk w p) :
  Calls Tryz.prog 60 #[.agg p.cells,.func (.func 37) #[] #[.pointer (some ⟨B1,0,none⟩),.pointer (some ⟨B2,0,none⟩)]] w fun e w'=>e=.returned (chE (poBad c p))∧Below w.heap.size w w':=by
 have eg:∀ args W,(callFunc 37 args).run Tryz.prog W=.ok (.enter 37 args) W:=fun args W=>enters Tryz.func37 (by kernel_rfl) ⟨_,rfl⟩ args W
 obtain ⟨B,hB⟩:∃ B,w.heap.size=B:=⟨_,rfl⟩
 obtain ⟨w0,hw0⟩:∃ w0,w.alloc (.cells p.cells 82)=w0:=⟨_,rfl⟩
 have B0:Below w.heap.size w w0:=by rw [← hw0];exact (Below.refl _ w).alloc (Nat.le_refl _) _
 have HA:Hid (∀ W,Below w0.heap.size w0 W→PoAt W B 0 p∧PoOk W p∧Below w.heap.size w W):=fun W hW=>by
  have hs:w.heap.size<w0.heap.size:=by rw [← hw0];simp
  exact ⟨hB▸(by rw [← hw0];exact PoAt.new w p _:PoAt w0 w.heap.size 0 p).below hW hs,(hp.below B0).below hW,B0.trans (hW.mono (by omega))⟩
 have HLf:Hid (∀ code W,Below w0.heap.size w0 W→Calls Tryz.prog 37 #[.string code,.pointer (some ⟨B1,0,none⟩),.pointer (some ⟨B2,0,none⟩)] W fun e w'=>e=.returned (chE (leafBad c code))∧Below w0.heap.size w0 w'):=fun code W hW=>by
  refine (leaf1_any c code B1 B2 W ((hL.below B0).below hW)).mono ?_
  rintro e w' ⟨rfl,hb⟩
  exact ⟨rfl,hW.trans (hb.mono hW.size)⟩
 have HCu:Hid (∀ W,Below w0.heap.size w0 W→Calls Tryz.prog 15 #[.string p.cur] W fun e w'=>e=.returned (.bool (isCur p.cur))∧Below w0.heap.size w0 w'):=fun W hW=>by
  refine (cur_any p.cur W).mono ?_
  rintro e w' ⟨rfl,hb⟩
  exact ⟨rfl,hW.trans (hb.mono hW.size)⟩
 have HSh:Hid (∀ W,Below w0.heap.size w0 W→p.ws.length<20→Calls Tryz.prog 106 #[.int .i64 0,.slice p.wA p.ws.length p.wC] W fun e w'=>(∃ v,e=.returned (.tuple #[v,chE (shBad p.ws)]))∧Below w0.heap.size w0 w'):=fun W hW hl20=>by
  refine (shares_err p.ws p.wA p.wC W ((hp.below B0).below hW).iw hl20).mono ?_
  rintro e w' ⟨he,hb⟩
  exact ⟨he,hW.trans (hb.mono hW.size)⟩
 have HCo:Hid (∀ k W,Below w0.heap.size w0 W→p.tos.length≤19→k≤p.tos.length→∀ code,Calls Tryz.prog 39 #[.slice p.tA k p.tC,.string code] W fun e w'=>e=.returned (.bool (memB code (p.tos.take k)))∧w'=W):=fun k W hW h19 hk code=>by
  have:=txContains_any p.tA p.tC (p.tos.take k) code W (by simp;omega) (((hp.below B0).below hW).tx.take k)
  rw [List.length_take,Nat.min_eq_left hk] at this
  exact this
 obtain ⟨res,hres⟩:∃ res,chE (poBad c p)=res:=⟨_,rfl⟩
 have Hres:Hid (chE (poBad c p)=res):=hres
 rw [hres]
 have hlt:=hp.lt
 have hlw:=hp.lw
 have hcap:p.tos.length≤p.tC:=hp.tx.cap
 clear hres hL hp
 have HW0:Hid (w.alloc (.cells p.cells 82)=w0):=hw0
 clear hw0
 obtain ⟨acc,cur,tA,tC,tos,wA,wC,ws⟩:=p
 simp only [Po.cells] at HW0 HA HLf HCu HSh HCo hlt hlw hcap ⊢
 have HF:=HLf.out acc w0 (Below.refl _ _)
 obtain ⟨⟨d0,d1,d2,d3⟩,_,_⟩:=HA.out w0 (Below.refl _ _)
 simp only [Nat.zero_add] at d0 d1 d2 d3
 have HFH:Hid (Calls _ _ _ _ _):=HF
 clear HF
 by_cases c1:leafBad c acc≠0
 ·have er:res=chE (leafBad c acc):=by rw [← Hres.out];unfold poBad;simp only;rw [if_pos c1]
  rw [chE_ne c1] at HFH er
  subst er
  clear HLf HCu HSh HCo Hres c1
  go_enter Tryz.func60,Tryz.ntmps60
  go_upto_region 1 with fail
  rw [HW0.out]
  clear HW0
  go_wp2_with (go_at_fn 37;refine HFH.out.mono ?_;rintro e w' ⟨rfl,hb'⟩)
  go_ret
  exact ⟨rfl,(HA.out _ hb').2.2⟩
 have c1':leafBad c acc=0:=Decidable.of_not_not c1
 have HR1:Hid (chE (if isCur cur=false then (2:Int) else if tos.length=0∨tos.length≠ws.length then 3 else if 19<tos.length then 4 else if firstTo (toBad c acc tos) tos.length≠0 then firstTo (toBad c acc tos) tos.length else shBad ws)=res):=by
  have:=Hres.out;unfold poBad at this;simp only at this;rw [if_neg c1] at this;exact this
 rw [c1',chE_zero] at HFH
 clear Hres c1 c1'
 go_enter Tryz.func60,Tryz.ntmps60
 go_upto_region 1 with fail
 rw [HW0.out]
 clear HW0
 go_wp2_with fail
 go_at_fn 37
 refine HFH.out.mono ?_
 rintro e w1 ⟨rfl,hb1⟩
 clear HFH d0 d1 d2 d3
 obtain ⟨⟨d0,d1,d2,d3⟩,_,_⟩:=HA.out w1 hb1
 simp only [Nat.zero_add] at d0 d1 d2 d3
 have HCu1:Hid (Calls _ _ _ _ _):=HCu.out w1 hb1
 clear HCu
 cases hcu:isCur cur
 ·have er:res=chE 2:=by rw [← HR1.out,if_pos hcu]
  rw [chE_ne (by decide)] at er
  subst er
  rw [hcu] at HCu1
  clear HR1 hcu
  go_wp2_with (go_at_call 15;refine HCu1.out.mono ?_;rintro e w2 ⟨rfl,hb2⟩)
  go_ret
  exact ⟨rfl,(HA.out _ hb2).2.2⟩
 have HR2:Hid (chE (if tos.length=0∨tos.length≠ws.length then (3:Int) else if 19<tos.length then 4 else if firstTo (toBad c acc tos) tos.length≠0 then firstTo (toBad c acc tos) tos.length else shBad ws)=res):=by
  have:=HR1.out;rw [if_neg (by rw [hcu];simp)] at this;exact this
 rw [hcu] at HCu1
 clear HR1 hcu
 go_wp2_with fail
 refine HCu1.out.mono ?_
 rintro e w2 ⟨rfl,hb2⟩
 clear d0 d1 d2 d3 HCu1 hb1
 obtain ⟨⟨d0,d1,d2,d3⟩,_,hbw⟩:=HA.out w2 hb2
 simp only [Nat.zero_add] at d0 d1 d2 d3
 by_cases c3:tos.length=0∨tos.length≠ws.length
 ·have er:res=chE 3:=by rw [← HR2.out,if_pos c3]
  rw [chE_ne (by decide)] at er
  subst er
  by_cases c30:tos.length=0
  ·obtain rfl:=List.eq_nil_of_length_eq_zero c30
   clear HR2 c3 c30 HLf HSh HCo HA
   simp only [List.length_nil] at d2
   go_wp2
   go_ret
   exact ⟨rfl,hbw⟩
  ·have n0:((tos.length:Int) == 0)=false:=by rw [beq_eq_false_iff_ne];omega
   have n1:((tos.length:Int) != (ws.length:Int))=true:=by
    rw [bne_iff_ne];intro e;rcases c3 with c3 | c3 <;> omega
   have n2:((tos.length:Int) == (ws.length:Int))=false:=by
    rw [beq_eq_false_iff_ne];intro e;rcases c3 with c3 | c3 <;> omega
   clear HR2 c3 HLf HSh HCo HA
   go_wp2
   go_ret
   exact ⟨rfl,hbw⟩
 have he:ws.length=tos.length:=by omega
 have hn0:tos.length≠0:=by omega
 have HR3:Hid (chE (if 19<tos.length then (4:Int) else if firstTo (toBad c acc tos) tos.length≠0 then firstTo (toBad c acc tos) tos.length else shBad ws)=res):=by
  have:=HR2.out;rw [if_neg c3] at this;exact this
 clear HR2 c3
 obtain ⟨n,hn⟩:∃ n,tos.length=n:=⟨_,rfl⟩
 rw [he] at d3 HSh
 rw [hn] at d2 d3 HSh HCo HR3 hcap hn0 hlt
 have Hn:Hid (tos.length=n):=hn
 have Hwn:Hid (ws.length=n):=he.trans hn
 clear he hn hlw
 have n0:((n:Int) == 0)=false:=by rw [beq_eq_false_iff_ne];omega
 have n1:(n:Int)≤tC:=by omega
 by_cases c4:19<n
 ·have er:res=chE 4:=by rw [← HR3.out,if_pos c4]
  rw [chE_ne (by decide)] at er
  subst er
  have i4:(19:Int)<n:=by omega
  clear HR3 HLf HSh HCo HA
  go_wp2
  go_ret
  exact ⟨rfl,hbw⟩
 have HR4:Hid (chE (if firstTo (toBad c acc tos) n≠0 then firstTo (toBad c acc tos) n else shBad ws)=res):=by
  have:=HR3.out;rw [if_neg c4] at this;exact this
 have i4:¬ (19:Int)<n:=by omega
 have i5:(n:Int)≤19:=by omega
 have h19:n≤19:=by omega
 clear HR3
 go_wp2
 go_loopw [45] (fun i wr=>∃ k:Nat,k≤n∧i=.int .i64 k∧Hid (firstTo (toBad c acc tos) k=0)∧Hid (Below w0.heap.size w0 wr)) (fun i _=>n - (RowKit.intOf i).toNat)
 case atStart=>exact ⟨0,Nat.zero_le _,rfl,rfl,hb2⟩
 case round=>
  obtain ⟨k,hk,rfl,H0,HB⟩:=hrel
  clear d0 d1 d2 d3
  obtain ⟨⟨d0,d1,d2,d3⟩,hok,hbr⟩:=HA.out wr HB.out
  simp only [Nat.zero_add] at d0 d1 d2 d3
  by_cases hkn:k<n
  ·obtain ⟨b,off,e,hbl,hc⟩:=hok.tx.at (k:=k) (by show k<tos.length;rw [Hn.out];exact hkn)
   simp only at e hc
   subst e
   have HL1:Hid (Calls _ _ _ _ _):=HLf.out (tos.getD k ByteArray.empty) wr HB.out
   have HE:Hid (toBad c acc tos k=if leafBad c (tos.getD k ByteArray.empty)≠0 then leafBad c (tos.getD k ByteArray.empty) else if tos.getD k ByteArray.empty=acc∨memB (tos.getD k ByteArray.empty) (tos.take k)=true then 8 else 0):=rfl
   have HRet:Hid (∀ z,z≠0→toBad c acc tos k=z→res=chE z):=fun z h0 h1=>by
    rw [← HR4.out,firstTo_first H0.out (by rw [h1];exact h0) hkn,if_pos (by rw [h1];exact h0),h1]
   have HCk:Hid (∀ W,Below w0.heap.size w0 W→Calls Tryz.prog 39 #[.slice (some ⟨b,off,none⟩) k tC,.string (tos.getD k ByteArray.empty)] W fun e w'=>e=.returned (.bool (memB (tos.getD k ByteArray.empty) (tos.take k)))∧w'=W):=fun W hW=>HCo.out k W hW h19 hk _
   have HNx:Hid (toBad c acc tos k=0→firstTo (toBad c acc tos) (k+1)=0):=fun h=>by rw [firstTo_next H0.out,h]
   rw [Hn.out] at d2
   rw [Hwn.out] at d3
   clear hok HSh HLf HCo
   generalize tos.getD k ByteArray.empty=code at *
   have j0:(0:Int)≤k:=by omega
   have j1:(k:Int)<n:=by omega
   have j2:(k:Int)≤tC:=by omega
   by_cases l1:leafBad c code≠0
   ·have er:res=chE (leafBad c code):=HRet.out _ l1 (by rw [HE.out,if_pos l1])
    rw [chE_ne l1] at er HL1
    subst er
    clear HE HRet HCk HNx HR4
    go_wp2_with (go_at_fn 37;refine HL1.out.mono ?_;rintro e w3 ⟨rfl,hb3⟩)
    go_ret
    exact ⟨rfl,(HA.out _ hb3).2.2⟩
   have l1':leafBad c code=0:=Decidable.of_not_not l1
   rw [l1',chE_zero] at HL1
   have HE2:Hid (toBad c acc tos k=if code=acc∨memB code (tos.take k)=true then 8 else 0):=by
    have:=HE.out;rw [if_neg l1] at this;exact this
   clear HE l1 l1'
   go_wp2_with fail
   go_at_fn 37
   refine HL1.out.mono ?_
   rintro e w3 ⟨rfl,hb3⟩
   clear d0 d1 d2 d3 HL1
   obtain ⟨⟨d0,d1,d2,d3⟩,_,hbr⟩:=HA.out w3 hb3
   simp only [Nat.zero_add] at d0 d1 d2 d3
   rw [Hn.out] at d2
   rw [Hwn.out] at d3
   have HC3:Hid (Calls _ _ _ _ _):=HCk.out w3 hb3
   clear HCk
   have HB3:Hid (Below w0.heap.size w0 w3):=hb3
   clear hb3
   by_cases l2:code=acc
   ·subst l2
    have er:res=chE 8:=HRet.out 8 (by decide) (by rw [HE2.out,if_pos (.inl rfl)])
    rw [chE_ne (by decide)] at er
    subst er
    clear HE2 HRet HC3 HNx HR4
    go_wp2
    go_ret
    exact ⟨rfl,hbr⟩
   have l2':=ch_ne l2
   cases hm:memB code (tos.take k)
   ·rw [hm] at HC3 HE2
    have HN:Hid (firstTo (toBad c acc tos) (k+1)=0):=HNx.out (by rw [HE2.out,if_neg (by simp [l2])])
    clear HE2 HRet HNx
    go_wp2_with (go_at_call 39;refine HC3.out.mono ?_;rintro e w' ⟨rfl,rfl⟩)
    go_roundw
    case rel=>exact ⟨k+1,by omega,by go_num,HN,HB3⟩
    case measure=>simp [RowKit.intOf];omega
   ·rw [hm] at HC3 HE2
    have er:res=chE 8:=HRet.out 8 (by decide) (by rw [HE2.out,if_pos (.inr rfl)])
    rw [chE_ne (by decide)] at er
    subst er
    clear HE2 HRet HNx HR4
    go_wp2_with (go_at_call 39;refine HC3.out.mono ?_;rintro e w' ⟨rfl,rfl⟩)
    go_ret
    exact ⟨rfl,hbr⟩
  ·have ek:k=n:=by omega
   subst ek
   have er:res=chE (shBad ws):=by rw [← HR4.out,if_neg (by simp [H0.out])]
   have HS1:Hid (Calls _ _ _ _ _):=HSh.out wr HB.out (by omega)
   rw [← er] at HS1
   have j1:¬ (k:Int)<k:=by omega
   rw [Hn.out] at d2
   rw [Hwn.out] at d3
   clear er HR4 HSh HLf HCo hok
   go_wp2_with fail
   refine HS1.out.mono ?_
   rintro e w3 ⟨⟨v,rfl⟩,hb3⟩
   have hbr3:=(HA.out _ hb3).2.2
   clear HS1 hb3 HA
   go_wp2
   go_ret
   exact ⟨rfl,hbr3⟩
end Go.Proofs.YtijjhfkhkhigjaaGreatDoor
namespace Go.Proofs.YtijjhfkhkhigjaaGreatDoor
open Go.RowKit Go.Lib
set_option maxHeartbeats 4000000 in
theorem alCheck_any (a a2:Option Addr) (cap cap2:Nat) (c:List Ac) (l:List Po) (w:World) (h:IsSl w a c cap) (hl:IsPs w a2 l cap2) (hll:l.length≤9223372036854775807) :
  Calls Tryz.prog 27 #[.slice a c.length cap,.slice a2 l.length cap2] w fun e w'=>e=.returned (chE (psBad c l))∧Below w.heap.size w w':=by
 by_cases c0:chBad c≠0
 ·have HC:Hid (Calls _ _ _ _ _):=leafCheck_bad a cap c w h c0
  have e0:psBad c l=chBad c:=by unfold psBad;rw [if_pos c0]
  rw [e0]
  rw [chE_ne c0] at HC ⊢
  clear h hl e0 c0
  go_enter Tryz.func27,Tryz.ntmps27
  go_wp2_with (go_at_call 13;refine HC.out.mono ?_;rintro e w1 ⟨rfl,hb1⟩)
  go_ret
  exact ⟨rfl,hb1⟩
 have HC:Hid (Calls _ _ _ _ _):=leafCheck_ok a cap c w h (Decidable.of_not_not c0)
 obtain ⟨res,hres⟩:∃ res,chE (psBad c l)=res:=⟨_,rfl⟩
 have HR1:Hid (chE (if 20<l.length then 4 else firstTo (fun k=>poBad c (l.getD k po0)) l.length)=res):=by
  rw [← hres];unfold psBad;rw [if_neg c0];exact rfl
 rw [hres]
 have HL:Hid (IsPs w a2 l cap2):=hl
 clear hres h hl c0
 go_enter Tryz.func27,Tryz.ntmps27
 go_wp2_with fail
 refine HC.out.mono ?_
 rintro e w1 ⟨B1,B2,rfl,hlf,hb1⟩
 have HLf:Hid (Lfs w1 B1 B2 c):=hlf
 have HB1:Hid (Below w.heap.size w w1):=hb1
 clear hlf hb1 HC
 by_cases c1:20<l.length
 ·have er:res=chE 4:=by rw [← HR1.out,if_pos c1]
  rw [chE_ne (by decide)] at er
  subst er
  have i1:(20:Int)<l.length:=by omega
  clear HR1
  go_wp2
  go_ret
  exact ⟨rfl,HB1.out⟩
 have HR2:Hid (chE (firstTo (fun k=>poBad c (l.getD k po0)) l.length)=res):=by
  have:=HR1.out;rw [if_neg c1] at this;exact this
 have i1:¬ (20:Int)<l.length:=by omega
 have i2:(l.length:Int)≤20:=by omega
 clear HR1
 go_wp2
 go_loopw [24] (fun i wr=>∃ k:Nat,k≤l.length∧i=.int .i64 k∧Hid (firstTo (fun k=>poBad c (l.getD k po0)) k=0)∧Hid (Below w1.heap.size w1 wr)) (fun i _=>l.length - (RowKit.intOf i).toNat)
 case atStart=>exact ⟨0,Nat.zero_le _,rfl,rfl,Below.refl _ _⟩
 case round=>
  obtain ⟨k,hk,rfl,H0,HB⟩:=hrel
  by_cases hkn:k<l.length
  ·have hbw:Below w.heap.size w wr:=HB1.out.trans (HB.out.mono HB1.out.size)
   obtain ⟨b,off,e,hbl,hc,hok⟩:=((HL.out).below hbw).at hkn
   subst e
   have HRet:Hid (∀ z,z≠0→poBad c (l.getD k po0)=z→res=chE z):=fun z h0 h1=>by
    rw [← HR2.out,firstTo_first H0.out (by rw [h1];exact h0) hkn,h1]
   have HNx:Hid (poBad c (l.getD k po0)=0→firstTo (fun k=>poBad c (l.getD k po0)) (k+1)=0):=fun h=>by rw [firstTo_next H0.out,h]
   have BB2:=HB.out.alloc HB.out.size (.cells (l.getD k po0).cells 82)
   have hx:=PoAt.new wr (l.getD k po0) 82
   have HCk:Hid (Calls _ _ _ _ _):=checkPool_any c (l.getD k po0) B1 B2 (wr.alloc (.cells (l.getD k po0).cells 82)) (HLf.out.below BB2) (hok.below ((Below.refl _ wr).alloc (Nat.le_refl _) _))
   have HBk:Hid (∀ w2,Below (wr.alloc (.cells (l.getD k po0).cells 82)).heap.size (wr.alloc (.cells (l.getD k po0).cells 82)) w2→Below w1.heap.size w1 w2∧Below w.heap.size w w2):=fun w2 h2=>by
    have h3:=BB2.trans (h2.mono BB2.size)
    exact ⟨h3,HB1.out.trans (h3.mono HB1.out.size)⟩
   clear BB2 hok
   generalize l.getD k po0=p at *
   obtain ⟨acc,cur,tA,tC,tos,wA,wC,ws⟩:=p
   obtain ⟨d0,d1,d2,d3⟩:=hc
   obtain ⟨f0,f1,f2,f3⟩:=hx
   simp only [Po.cells,Nat.zero_add] at d0 d1 d2 d3 f0 f1 f2 f3 HCk HBk
   have j0:(0:Int)≤k:=by omega
   have j1:(k:Int)<l.length:=by omega
   by_cases c2:poBad c ⟨acc,cur,tA,tC,tos,wA,wC,ws⟩=0
   ·have HN:Hid _:=HNx.out c2
    rw [c2,chE_zero] at HCk
    clear HRet HNx c2
    go_wp2_with fail
    refine HCk.out.mono ?_
    rintro e w2 ⟨rfl,hb2⟩
    have HB2:Hid _:=(HBk.out w2 hb2).1
    clear HCk HBk hb2
    go_wp2
    go_roundw
    case rel=>exact ⟨k+1,by omega,by go_num,HN,HB2⟩
    case measure=>simp [RowKit.intOf];omega
   ·have er:=HRet.out _ c2 rfl
    rw [chE_ne c2] at HCk er
    subst er
    clear HRet HNx HR2
    go_wp2_with fail
    refine HCk.out.mono ?_
    rintro e w2 ⟨rfl,hb2⟩
    have HB2:Hid _:=(HBk.out w2 hb2).2
    clear HCk HBk hb2
    go_wp2
    go_ret
    exact ⟨rfl,HB2.out⟩
  ·have ek:k=l.length:=by omega
   subst ek
   have er:res=chE 0:=by rw [← HR2.out,H0.out]
   rw [chE_zero] at er
   subst er
   have hbw:Below w.heap.size w wr:=HB1.out.trans (HB.out.mono HB1.out.size)
   clear HR2
   go_wp2
   go_ret
   exact ⟨rfl,hbw⟩
end Go.Proofs.YtijjhfkhkhigjaaGreatDoor
