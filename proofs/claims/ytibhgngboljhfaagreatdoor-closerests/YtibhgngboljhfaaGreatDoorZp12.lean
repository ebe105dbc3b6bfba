/-
  Part of a proof (see the last text).
-/
import Derived.Test.YtibhgngboljhfaaGreatDoorZp11
set_option linter.unusedVariables false
set_option linter.unusedSimpArgs false
set_option maxRecDepth 100000
namespace Go.Proofs.YtibhgngboljhfaaGreatDoor
section
open Go.RowKit Go.Lib Math Go.Proofs.Tryz
structure Two1 (w W:World) (g:Nat) (P C:List Int):Prop where
 p:QdL W g P
 c:QdL W (g+1) C
 b:Below g w W
 s:W.heap.size=g+2
theorem Two1.drewN {w W:World} {g:Nat} {P C:List Int} (h:Two1 w W g P C) (n:Nat):Two1 w (W.drewN n) g P C:=⟨h.p,h.c,h.b.trans ⟨rfl,rfl,rfl,Nat.le_refl _,fun _ _=>rfl⟩,h.s⟩
theorem Two1.step {w W:World} {g:Nat} {P C:List Int} (h:Two1 w W g P C) (k:Nat) (x y:Int):Two1 w ((W.setCell ⟨g,k,none⟩ (.int .u64 x)).setCell ⟨g+1,k,none⟩ (.int .u64 y)) g (P.set k x) (C.set k y):=
 ⟨(h.p.set k x).other (by omega) k _,(h.c.other (by omega) k _).set k y,(h.b.setCell (p:=⟨g,k,none⟩) (Nat.le_refl _) _).setCell (p:=⟨g+1,k,none⟩) (Nat.le_succ _) _,by simp [World.setCell,h.s]⟩
theorem shares_bad (t:Int) (a:Option Addr) (ws:List Int) (cap:Nat) (w:World) (h:IsW w a ws cap) (hl:ws.length≤9223372036854775807) (hb:QbO ws≠0) :
  Calls prog 138 #[.int .i64 t,.slice a ws.length cap] w (Qdf t ws w):=by
 have HC:Hid (Calls _ _ _ _ _):=weigh_any a ws cap w h hl;have eE:shE (QbO ws)=.iface 68 (.int .i64 (QbO ws)):=by unfold shE;rw [if_neg hb]
 rw [eE] at HC;have HE:Hid (Qdf t ws w (.returned (.tuple #[.slice none 0 0,.iface 68 (.int .i64 (QbO ws))])) w):=⟨Below.refl _ _,fun _=>rfl,fun e=>absurd e hb⟩
 generalize QbO ws=n at *
 clear h eE;go_enter func138,ntmps138
 go_wp2_with fail;refine HC.out.mono ?_;rintro e w' ⟨rfl,hw⟩;rw [hw];clear hw w';go_wp2;go_ret2;exact HE.out
set_option maxHeartbeats 8000000 in
theorem QiP (t:Int) (a:Option Addr) (ws:List Int) (cap:Nat) (w:World) (HBC:∀ (gc ccap:Nat) (cut:List Int) (w:World),cut.length=ws.length→gc<w.heap.size→(∀ i,i<cut.length→w.cell? ⟨gc,i,none⟩=some (.int .u64 (cut.getD i 0)))→0<cut.length→cut.length≤40→Calls prog 180 #[.slice (some ⟨gc,0,none⟩) cut.length ccap] w fun e w'=>e=.returned (.slice (some ⟨w.heap.size+1,0,none⟩) cut.length cut.length)∧Hid (Below w.heap.size w w'∧∃ s:List Nat,s.Perm (List.range cut.length)∧s.Pairwise (LT cut)∧Qbj w' (w.heap.size+1) (toI s))) (h:IsW w a ws cap) (hb:QbO ws=0) (ht:I64 t) :
  Calls prog 138 #[.int .i64 t,.slice a ws.length cap] w (Qdf t ws w):=by
 have hG:=QfZ hb;have HG:Hid (Qet ws):=hG;have hT0:=Qd0 t;obtain ⟨n,hn⟩:∃ n,ws.length=n:=⟨_,rfl⟩;have hn40:n≤40:=hn▸hG.1;have hn1:0<n:=by
  rcases Nat.eq_zero_or_pos n with e | e
  ·rw [e] at hn;have h3:=hG.2.2;rw [List.length_eq_zero_iff.1 hn] at h3;simp at h3
  ·exact e
 have HCw:Hid (Calls _ _ _ _ _):=weigh_any a ws cap w h (by omega)
 have eV:Qhn ws=ws.sum:=by unfold Qhn;rw [if_pos hb]
 have eE:shE (QbO ws)=.nilIface:=by unfold shE;rw [if_pos hb]
 rw [eV,eE] at HCw;have HSz:Hid (∀ W,Calls prog 178 #[.int .i64 t] W fun e w'=>e=.returned (.int .u64 (Qc4 t))∧w'=W):=fun W=>QgQ t W ht.1 ht.2
 have hTt:Qc4 t≤9223372036854775808:=by have:=ht.1;have:=ht.2;unfold Qc4;split <;> omega
 have hA1:=hG.2.2;have hA2:ws.sum≤40000000000:=by
  have:=sum_le (l:=ws) (M:=1000000000) fun x hx=>(hG.2.1 x hx).2
  omega
 have Hw:Hid (∀ k,k<n→0≤ws.getD k 0∧ws.getD k 0≤1000000000∧ws.getD k 0≤ws.sum):=fun k hk=>by
  have hm:=w_mem ws k (by omega)
  exact ⟨(hG.2.1 _ hm).1,(hG.2.1 _ hm).2,Qjd (fun x hx=>(hG.2.1 x hx).1) hm⟩
 obtain ⟨T,hT⟩:∃ T,Qc4 t=T:=⟨_,rfl⟩;have HT:Hid (Qc4 t=T):=hT;rw [hT] at hT0 HSz hTt;obtain ⟨A,hA⟩:∃ A,ws.sum=A:=⟨_,rfl⟩;have HA:Hid (ws.sum=A):=hA;rw [hA] at hA1 hA2 HCw Hw;have HPt:Hid (∀ k W,k<n→Calls prog 179 #[.int .u64 T,.int .u64 (ws.getD k 0),.int .u64 A] W fun e w'=>e=.returned (.tuple #[.int .u64 ((Qa2 T ws).getD k 0),.int .u64 ((QdE T ws).getD k 0)])∧∃ n,w'=W.drewN n):=fun k W hk=>by
  obtain ⟨x0,x1,x2⟩:=Hw.out k hk
  have:=part_any T (ws.getD k 0) A W hT0 (by omega) x0 x2 (by omega) (by omega)
  rw [partL_at T ws (by omega),cutL_at T ws (by omega),hA]
  exact this
 have HL:Hid (∀ k,k≤n→0≤Qdw T ws k∧Qdw T ws k≤T):=fun k hk=>leftK_bd hT0 hG k (by omega)
 have HLs:Hid (∀ k,Qdw T ws (k+1)=Qdw T ws k - (Qa2 T ws).getD k 0):=fun k=>Qi7 T ws k
 have HP0:Hid (∀ k,k<n→0≤(Qa2 T ws).getD k 0∧(Qa2 T ws).getD k 0≤T):=fun k hk=>by
  have h1:=part_nonneg' hT0 hG (i:=k) (by omega)
  have h2:=leftK_bd hT0 hG k (by omega)
  have h3:=leftK_bd hT0 hG (k+1) (by omega)
  rw [Qi7] at h3;omega
 have Hc:Hid (∀ W,Below w.heap.size w W→∀ k,k<n→∃ b off,a=some ⟨b,off,none⟩∧b<w.heap.size∧W.cell? ⟨b,off+k,none⟩=some (.int .i64 (ws.getD k 0))):=fun W hW k hk=>by
  obtain ⟨b,off,e,hlt,hc⟩:=h.at (k:=k) (by omega)
  exact ⟨b,off,e,hlt,(hW.cell (p:=⟨b,off+k,none⟩) hlt).trans hc⟩
 have hmk:=fun w=>run_make_row' (P:=prog) 251 242 (.int .u64 0) 8 underlying251 srt_u64 rfl .i64 .i64 n (by omega) (by omega) w
 have hmi:=fun w=>run_make_row' (P:=prog) 97 3 (.int .i64 0) 8 underlying97 srt_int rfl .i64 .i64 n (by omega) (by omega) w
 have H2:Hid (Two1 w ((w.alloc (.cells (madeCells #[.int .u64 0] n) 242)).alloc (.cells (madeCells #[.int .u64 0] n) 242)) w.heap.size (List.replicate n 0) (List.replicate n 0)):=by
  refine ⟨(QdL.made w n).alloc _,?_,((Below.refl _ w).alloc (Nat.le_refl _) _).alloc (by simp) _,by simp⟩
  have:=QdL.made (w.alloc (.cells (madeCells #[.int .u64 0] n) 242)) n
  rw [show (w.alloc (.cells (madeCells #[.int .u64 0] n) 242)).heap.size=w.heap.size+1 by simp] at this
  exact this
 have HBy:Hid (∀ W,Two1 w W w.heap.size (Qa2 T ws) (QdE T ws)→Calls prog 180 #[.slice (some ⟨w.heap.size+1,0,none⟩) n n] W fun e w'=>e=.returned (.slice (some ⟨w.heap.size+3,0,none⟩) n n)∧Hid (∃ s:List Nat,s.Perm (List.range n)∧s.Pairwise (LT (QdE T ws))∧Qbj w' (w.heap.size+3) (toI s)∧QdL w' w.heap.size (Qiv T ws s 0)∧Below w.heap.size w w')):=fun W hW=>by
  have hcl:(QdE T ws).length=n:=by rw [Qdo];exact hn
  have c:=HBC (w.heap.size+1) n (QdE T ws) W (by omega) (by have:=hW.s;omega) (fun i hi=>hW.c.cell hi) (by omega) (by omega)
  rw [hcl,hW.s] at c;refine c.mono ?_;rintro e w' ⟨rfl,hh⟩;obtain ⟨hbl,s,p1,p2,p3⟩:=hh.out;exact ⟨rfl,s,p1,p2,p3,by rw [rowK_zero];exact hW.p.below hbl (by omega),hW.b.trans (hbl.mono (by omega))⟩
 have HEnd:Hid (∀ g W,w.heap.size≤g→Below w.heap.size w W→Qbj W g ((List.range n).map (Qa4 t ws))→Qdf t ws w (.returned (.tuple #[.slice (some ⟨g,0,none⟩) n n,.nilIface])) W):=fun g W h1 h2 h3=>⟨h2,fun e=>absurd hb e,fun _=>⟨g,h1,by rw [hn],by rw [hn];exact h3⟩⟩
 have HAll:Hid (∀ s:List Nat,s.Perm (List.range n)→s.Pairwise (LT (QdE T ws))→Qiv T ws s (QcK T ws).toNat=(List.range n).map (Qbv T ws)):=fun s h1 h2=>by
  rw [← hn];rw [← hn] at h1;exact rowK_all hG h1 h2
 have HKa:Hid (Qdw T ws n=((QcK T ws).toNat:Nat)∧(QcK T ws).toNat≤n):=by
  have h1:=leftK_all T ws;rw [hn] at h1;have h2:=QcL (T:=T) hG;have h3:=left_le (T:=T) hG;refine ⟨by rw [h1];omega,by omega⟩
 have HRow0:Hid ((List.range n).map (fun i=>(Qa2 T ws).getD i 0)=Qa2 T ws∧(List.range n).map (fun i=>(QdE T ws).getD i 0)=QdE T ws):=by
  have h1:=Qde (Qa2 T ws);have h2:=Qde (QdE T ws);rw [Qd6,hn] at h1;rw [Qdo,hn] at h2;exact ⟨h1,h2⟩
 have HLen:Hid (ws.length=n):=hn;have HGr:Hid (∀ k,k<n→0≤Qbv T ws k∧Qbv T ws k≤T):=fun k hk=>⟨Qd5 hT0 hG (by omega),gross_le hT0 hG (by omega)⟩
 have HSg:Hid (∀ k W,k<n→Calls prog 181 #[.int .u64 (Qbv T ws k),.bool (decide (t<0))] W fun e w'=>e=.returned (.int .i64 (Qa4 t ws k))∧w'=W):=fun k W hk=>by
  obtain ⟨g0,g1⟩:=HGr.out k hk;rw [Qdt,hT];have h1:=ht.1;have h2:=ht.2;by_cases hneg:t<0
  ·rw [decide_eq_true hneg,if_pos hneg];exact Qgl _ W g0 (by omega)
  ·rw [decide_eq_false hneg,if_neg hneg];refine Qhz _ W g0 ?_;unfold Qc4 at hT;rw [if_neg hneg] at hT;omega
 have n0:(0:Int)<n:=by omega
 have n1:(n:Int)≤40:=by omega
 obtain ⟨g,hg⟩:∃ g,w.heap.size=g:=⟨_,rfl⟩;rw [hn];rw [hn] at HCw;rw [hg] at H2 HBy HEnd Hc;clear h hb hG eV eE hn hA hT HG;go_enter func138,ntmps138
 go_wp2_with (first | (go_at_call 177;refine HCw.out.mono ?_;rintro e w' ⟨rfl,hw⟩;rw [hw];clear hw w') | (go_at_call 178;refine (HSz.out _).mono ?_;rintro e w' ⟨rfl,hw⟩;rw [hw];clear hw w'));clear hmk;obtain ⟨wB,hwB⟩:∃ wB,(w.alloc (.cells (madeCells #[.int .u64 0] n) 242)).alloc (.cells (madeCells #[.int .u64 0] n) 242)=wB:=⟨_,rfl⟩;rw [hwB] at H2 ⊢;clear hwB;go_loopw [10,36] (fun lf i wr=>∃ k:Nat,k≤n∧i=.int .i64 k∧lf=.int .u64 (Qdw T ws k)∧Hid (Two1 w wr g ((List.range k).map (fun i=>(Qa2 T ws).getD i 0)++List.replicate (n - k) 0) ((List.range k).map (fun i=>(QdE T ws).getD i 0)++List.replicate (n - k) 0))) (fun _ i _=>n - (RowKit.intOf i).toNat)
 case atStart=>exact ⟨0,Nat.zero_le _,rfl,by rw [leftK_zero],by unfold Hid;simpa using H2.out⟩
 case round=>
  obtain ⟨k,hk,rfl,rfl,H⟩:=hrel;by_cases hlt:k<n
  ·obtain ⟨b,off,rfl,hb,hc⟩:=Hc.out wr H.out.b k hlt;have HPk:Hid (∀ W,Calls _ _ _ W _):=fun W=>HPt.out k W hlt
   have HLk:=HLs.out k;obtain ⟨x0,x1,x2⟩:=Hw.out k hlt;obtain ⟨p0,p1⟩:=HP0.out k hlt;obtain ⟨l0,l1⟩:=HL.out k hk;have l2:=(HL.out (k+1) hlt).1;rw [HLk] at l2;have i0:(0:Int)≤k:=by omega
   have i1:(k:Int)<n:=by omega
   have HLk':Hid (Qdw T ws (k+1)=Qdw T ws k - (Qa2 T ws).getD k 0):=HLk;have HS:Hid (∀ m,Two1 w (((wr.drewN m).setCell ⟨g,k,none⟩ (.int .u64 ((Qa2 T ws).getD k 0))).setCell ⟨g+1,k,none⟩ (.int .u64 ((QdE T ws).getD k 0))) g ((List.range (k+1)).map (fun i=>(Qa2 T ws).getD i 0)++List.replicate (n - (k+1)) 0) ((List.range (k+1)).map (fun i=>(QdE T ws).getD i 0)++List.replicate (n - (k+1)) 0)):=fun m=>by
    have:=(H.out.drewN m).step k ((Qa2 T ws).getD k 0) ((QdE T ws).getD k 0)
    rw [QfC (fun i=>(Qa2 T ws).getD i 0) n k hlt,QfC (fun i=>(QdE T ws).getD i 0) n k hlt] at this
    exact this
   have hrl:∀ f:Nat→Int,((List.range k).map f++List.replicate (n - k) 0).length=n:=fun f=>by simp;omega
   have Hc1:Hid (∀ m,(∃ z,(wr.drewN m).cell? ⟨g,k,none⟩=some (.int .u64 z))∧(wr.drewN m).frozen? ⟨g,k,none⟩=false):=fun m=>⟨⟨_,(H.out.drewN m).p.cell (by rw [hrl];exact hlt)⟩,(H.out.drewN m).p.frozen k⟩
   have Hc2:Hid (∀ m x,(∃ z,((wr.drewN m).setCell ⟨g,k,none⟩ (.int .u64 x)).cell? ⟨g+1,k,none⟩=some (.int .u64 z))∧((wr.drewN m).setCell ⟨g,k,none⟩ (.int .u64 x)).frozen? ⟨g+1,k,none⟩=false):=fun m x=>by
    have:=(H.out.drewN m).c.other (g':=g) (by omega) k (.int .u64 x)
    exact ⟨⟨_,this.cell (by rw [hrl];exact hlt)⟩,this.frozen k⟩
   have Hc3:Hid (∀ m x y,(((wr.drewN m).setCell ⟨g,k,none⟩ (.int .u64 x)).setCell ⟨g+1,k,none⟩ (.int .u64 y)).cell? ⟨g,k,none⟩=some (.int .u64 x)):=fun m x y=>by
    have:=((H.out.drewN m).step k x y).p.cell (i:=k) (by rw [List.length_set,hrl];exact hlt)
    rw [List.getD_eq_getElem?_getD,List.getElem?_set_self (by rw [hrl];exact hlt)] at this
    exact this
   clear H HLk hrl;generalize (Qa2 T ws).getD k 0=P at *
   generalize (QdE T ws).getD k 0=C at *
   generalize Qdw T ws k=Lk at *
   generalize ws.getD k 0=x at *
   go_wp2_with fail;refine (HSz.out _).mono ?_;rintro e w' ⟨rfl,hw⟩;rw [hw];clear hw w';go_wp2_with fail;go_at_call 179
   refine (HPk.out _).mono ?_;rintro e w' ⟨rfl,m,hw⟩;rw [hw];clear hw w';have HS1:=HS.out m;obtain ⟨⟨z1,c1⟩,f1⟩:=Hc1.out m;obtain ⟨⟨z2,c2⟩,f2⟩:=Hc2.out m P;have c3:=Hc3.out m P C;have HS2:Hid (Two1 _ _ _ _ _):=HS1;clear HS HS1 Hc1 Hc2 Hc3;obtain ⟨W1,hW1⟩:∃ W1,wr.drewN m=W1:=⟨_,rfl⟩;rw [hW1] at c1 f1 c2 f2 c3 HS2 ⊢;clear hW1 hc;go_wp2;go_roundw
   case rel=>exact ⟨k+1,by omega,by go_num,by rw [HLk'.out],HS2⟩
   case measure=>simp [RowKit.intOf];omega
  ·have ek:k=n:=by omega
   subst ek;have HB2:Hid (Calls _ _ _ wr _):=HBy.out wr (by
    have h1:=H.out;rw [Nat.sub_self,List.replicate_zero,List.append_nil,List.append_nil,HRow0.out.1,HRow0.out.2] at h1;exact h1)
   obtain ⟨eL,hLn⟩:=HKa.out;obtain ⟨Lf,hLf⟩:∃ Lf,(QcK T ws).toNat=Lf:=⟨_,rfl⟩;rw [hLf] at eL hLn HAll;rw [eL];have l0:(0:Int)≤Lf:=by omega
   have l1:(Lf:Int)≤k:=by omega
   have k1:¬ (k:Int)<k:=by omega
   clear H HBy HKa hLf H2;go_wp2_with fail;refine HB2.out.mono ?_;rintro e wS ⟨rfl,hh⟩;obtain ⟨s,s1,s2,s3,s4,s5⟩:=hh.out;clear HB2 hh;have sl:s.length=k:=by rw [s1.length_eq,List.length_range]
   have HAl:Hid (Qiv T ws s Lf=(List.range k).map (Qbv T ws)):=HAll.out s s1 s2;have Hsb:Hid (∀ q,q<k→s.getD q 0<k):=fun q hq=>List.mem_range.1 (s1.mem_iff.1 (getD_mem0 (by omega)))
   have hnd:s.Nodup:=s1.symm.nodup List.nodup_range;have Hst:Hid (∀ q,q<k→(Qiv T ws s q).set (s.getD q 0) ((Qa2 T ws).getD (s.getD q 0) 0+1)=Qiv T ws s (q+1)):=fun q hq=>rowK_step T ws s q hnd (by omega) (by rw [HLen.out];exact Hsb.out q hq)
   have Hat:Hid (∀ q,q<k→(Qiv T ws s q).getD (s.getD q 0) 0=(Qa2 T ws).getD (s.getD q 0) 0):=fun q hq=>by
    rw [rowK_at T ws s q _ (by rw [HLen.out];exact Hsb.out q hq),if_neg (not_ahead hnd (by omega))]
    omega
   have Hrow:Hid (Qbj wS (g+3) (toI s)∧QdL wS g (Qiv T ws s 0)∧Below g w wS):=⟨s3,s4,s5⟩;have Hsl:Hid (s.length=k):=sl;have Htoi:Hid (∀ q,q<k→(toI s).getD q 0=((s.getD q 0:Nat):Int)):=fun q hq=>by
    simp [toI,List.getD_eq_getElem?_getD,List.getElem?_map,List.getElem?_eq_getElem (show q<s.length by omega)]
   clear s1 s2 s3 s4 s5 sl HAll hnd;go_wp2;go_loopw [68] (fun i wr=>∃ q:Nat,q≤Lf∧i=.int .i64 q∧Hid (Qbj wr (g+3) (toI s)∧QdL wr g (Qiv T ws s q)∧Below g w wr)) (fun i _=>Lf - (RowKit.intOf i).toNat)
   case atStart=>exact ⟨0,Nat.zero_le _,rfl,Hrow⟩
   case round=>
    rename World=>wq
    obtain ⟨q,hq,rfl,H⟩:=hrel;by_cases hlt:q<Lf
    ·obtain ⟨r1,r2,r3⟩:=H.out;have hqk:q<k:=by omega
     have cs:=r1.cell (i:=q) (by rw [QhG,Hsl.out];exact hqk)
     rw [Htoi.out q hqk] at cs;have hb:=Hsb.out q hqk;have cp:=r2.cell (i:=s.getD q 0) (by rw [rowK_len,HLen.out];exact hb)
     have fp:=r2.frozen (s.getD q 0);rw [Hat.out q hqk] at cp;have hst:=Hst.out q hqk;have R2:=r2.set (s.getD q 0) ((Qa2 T ws).getD (s.getD q 0) 0+1);rw [hst] at R2;obtain ⟨p0,p1⟩:=HP0.out _ hb;have HN:Hid (Qbj (wq.setCell ⟨g,s.getD q 0,none⟩ (.int .u64 ((Qa2 T ws).getD (s.getD q 0) 0+1))) (g+3) (toI s)∧QdL (wq.setCell ⟨g,s.getD q 0,none⟩ (.int .u64 ((Qa2 T ws).getD (s.getD q 0) 0+1))) g (Qiv T ws s (q+1))∧Below g w (wq.setCell ⟨g,s.getD q 0,none⟩ (.int .u64 ((Qa2 T ws).getD (s.getD q 0) 0+1)))):=⟨r1.other (by omega) _ _,R2,r3.setCell (p:=⟨g,s.getD q 0,none⟩) (Nat.le_refl _) _⟩
     have b0:(0:Int)≤(s.getD q 0:Nat):=by omega
     have b1:((s.getD q 0:Nat):Int)<k:=by omega
     have q0:(0:Int)≤q:=by omega
     have q1:(q:Int)<Lf:=by omega
     clear H r1 r2 r3 R2 hst;generalize (Qa2 T ws).getD (s.getD q 0) 0=P at *
     generalize s.getD q 0=j at *
     go_wp2;go_roundw
     case rel=>exact ⟨q+1,by omega,by go_num,HN⟩
     case measure=>simp [RowKit.intOf];omega
    ·have ek:q=Lf:=by omega
     subst ek;obtain ⟨r1,r2,r3⟩:=H.out;rw [HAl.out] at r2;have q1:¬ (q:Int)<q:=by omega
     have Hm:Hid (Qbj (wq.alloc (.cells (madeCells #[.int .i64 0] k) 3)) wq.heap.size (List.replicate k 0)∧QdL (wq.alloc (.cells (madeCells #[.int .i64 0] k) 3)) g ((List.range k).map (Qbv T ws))∧Below g w (wq.alloc (.cells (madeCells #[.int .i64 0] k) 3))):=⟨Qd1 wq k,r2.alloc _,r3.alloc (by have:=r2.lt;omega) _⟩
     have hgm:g<wq.heap.size:=r2.lt;clear H r1 r2 r3 HAl Hsb Hst Hat Hrow Htoi;go_wp2;obtain ⟨wC,hwC⟩:∃ wC,wq.alloc (.cells (madeCells #[.int .i64 0] k) 3)=wC:=⟨_,rfl⟩;rw [hwC] at Hm ⊢;obtain ⟨gm,hgm2⟩:∃ gm,wq.heap.size=gm:=⟨_,rfl⟩;rw [hgm2] at Hm hgm ⊢;clear hwC hmi;go_loopw [84] (fun i wr=>∃ q:Nat,q≤k∧i=.int .i64 q∧Hid (Qbj wr gm ((List.range q).map (Qa4 t ws)++List.replicate (k - q) 0)∧QdL wr g ((List.range k).map (Qbv T ws))∧Below g w wr)) (fun i _=>k - (RowKit.intOf i).toNat)
     case atStart=>exact ⟨0,Nat.zero_le _,rfl,by unfold Hid;simpa using Hm.out⟩
     case round=>
      rename World=>wv
      obtain ⟨q',hq',rfl,H⟩:=hrel;by_cases hlt:q'<k
      ·obtain ⟨r1,r2,r3⟩:=H.out;have cg:=r2.cell (i:=q') (by simp;exact hlt)
       rw [show ((List.range k).map (Qbv T ws)).getD q' 0=Qbv T ws q' by simp [List.getD_eq_getElem?_getD,hlt]] at cg
       have hrl:((List.range q').map (Qa4 t ws)++List.replicate (k - q') 0).length=k:=by simp;omega
       have cs:=r1.cell (i:=q') (by rw [hrl];exact hlt)
       have fs:=r1.frozen q';have R1:=r1.set q' (Qa4 t ws q');rw [QfC (Qa4 t ws) k q' hlt] at R1;have HSk:Hid (Calls _ _ _ wv _):=HSg.out q' wv hlt;have HN:Hid (Qbj (wv.setCell ⟨gm,q',none⟩ (.int .i64 (Qa4 t ws q'))) gm ((List.range (q'+1)).map (Qa4 t ws)++List.replicate (k - (q'+1)) 0)∧QdL (wv.setCell ⟨gm,q',none⟩ (.int .i64 (Qa4 t ws q'))) g ((List.range k).map (Qbv T ws))∧Below g w (wv.setCell ⟨gm,q',none⟩ (.int .i64 (Qa4 t ws q')))):=⟨R1,r2.other (by omega) _ _,r3.setCell (p:=⟨gm,q',none⟩) (by simp;omega) _⟩
       obtain ⟨g0,g1⟩:=HGr.out q' hlt;have i0:(0:Int)≤q':=by omega
       have i1:(q':Int)<k:=by omega
       generalize ((List.range q').map (Qa4 t ws)++List.replicate (k - q') 0).getD q' 0=z at cs;clear H r1 r2 r3 R1 hrl;generalize Qbv T ws q'=G at *
       generalize Qa4 t ws q'=V at *
       go_wp2_with fail;refine HSk.out.mono ?_;rintro e w' ⟨rfl,hw⟩;rw [hw];clear hw w';go_wp2;go_roundw
       case rel=>exact ⟨q'+1,by omega,by go_num,HN⟩
       case measure=>simp [RowKit.intOf];omega
      ·have ek:q'=k:=by omega
       subst ek;obtain ⟨r1,r2,r3⟩:=H.out;rw [Nat.sub_self,List.replicate_zero,List.append_nil] at r1;have HE:Hid (Qdf _ _ _ _ _):=HEnd.out gm wv (by omega) r3 r1
       have i1:¬ (q':Int)<q':=by omega
       clear H r1 r2 r3;go_wp2;go_ret2;exact HE.out
end
section
open Go.RowKit Go.Lib Math Go.Proofs.Tryz
end
section
open Go.RowKit Go.Lib Go.Proofs.Tryz
theorem byCut_few (gc ccap:Nat) (cut:List Int) (w:World) (hg:gc<w.heap.size) (hc:∀ i,i<cut.length→w.cell? ⟨gc,i,none⟩=some (.int .u64 (cut.getD i 0))) (hn0:0<cut.length) (hn:cut.length<20) :
  Calls prog 180 #[.slice (some ⟨gc,0,none⟩) cut.length ccap] w fun e w'=>e=.returned (.slice (some ⟨w.heap.size+1,0,none⟩) cut.length cut.length)∧Hid (Below w.heap.size w w'∧∃ s:List Nat,s.Perm (List.range cut.length)∧s.Pairwise (LT cut)∧Qbj w' (w.heap.size+1) (toI s)):=
 byCut_of gc ccap cut w (fun g cap cb s W h h0 hl hca h1 h2 hb hs=>QiF g cap cb gc ccap cut s W h h0 (by omega) hca h1 h2 hb hs) hg hc hn0 (by omega)
end
section
open Go.RowKit Go.Lib Math Go.Proofs.Tryz
theorem QiQ (t:Int) (a:Option Addr) (ws:List Int) (cap:Nat) (w:World) (h:IsW w a ws cap) (hl:ws.length<20) (ht:I64 t) :
  Calls prog 138 #[.int .i64 t,.slice a ws.length cap] w (Qdf t ws w):=by
 by_cases hb:QbO ws=0
 ·exact QiP t a ws cap w (fun gc ccap cut w he hg hc h0 hn=>byCut_few gc ccap cut w hg hc h0 (by omega)) h hb ht
 ·exact shares_bad t a ws cap w h (by omega) hb
end
section
open Go.RowKit Go.Lib Go.Proofs.Tryz
structure Po where
 acc:ByteArray
 cur:ByteArray
 tA:Option Addr
 tC:Nat
 tos:List ByteArray
 wA:Option Addr
 wC:Nat
 ws:List Int
def po0:Po:=⟨ByteArray.empty,ByteArray.empty,none,0,[],none,0,[]⟩
def Po.cells (p:Po):Array Value:=#[.string p.acc,.string p.cur,.slice p.tA p.tos.length p.tC,.slice p.wA p.ws.length p.wC]
structure PoOk (w:World) (p:Po):Prop where
 tx:IsTx w p.tA p.tos p.tC
 iw:IsW w p.wA p.ws p.wC
 lt:p.tos.length≤9223372036854775807
 lw:p.ws.length≤9223372036854775807
theorem PoOk.below {w w':World} {p:Po} (h:PoOk w p) (hb:Below w.heap.size w w'):PoOk w' p:=⟨h.tx.below hb,h.iw.below hb,h.lt,h.lw⟩
structure Qix (w:World) (b off:Nat) (p:Po):Prop where
 c0:w.cell? ⟨b,off,none⟩=some (.string p.acc)
 c1:w.cell? ⟨b,off+1,none⟩=some (.string p.cur)
 c2:w.cell? ⟨b,off+2,none⟩=some (.slice p.tA p.tos.length p.tC)
 c3:w.cell? ⟨b,off+3,none⟩=some (.slice p.wA p.ws.length p.wC)
theorem Qix.below {w w':World} {b off n:Nat} {p:Po} (h:Qix w b off p) (hb:Below n w w') (hn:b<n):Qix w' b off p:=
 ⟨(hb.cell (p:=⟨b,off,none⟩) hn).trans h.c0,(hb.cell (p:=⟨b,off+1,none⟩) hn).trans h.c1,(hb.cell (p:=⟨b,off+2,none⟩) hn).trans h.c2,(hb.cell (p:=⟨b,off+3,none⟩) hn).trans h.c3⟩
theorem Qix.new (w:World) (p:Po) (t:TypeId):Qix (w.alloc (.cells p.cells t)) w.heap.size 0 p:=
 ⟨by simp [Po.cells],by simp [Po.cells],by simp [Po.cells],by simp [Po.cells]⟩
structure QgV (w:World) (a:Option Addr) (l:List Po) (cap:Nat):Prop where
 cap:l.length≤cap
 lies:l=[]∨∃ b off,a=some ⟨b,off,none⟩∧b<w.heap.size∧∀ k,k<l.length→Qix w b (off+k*4) (l.getD k po0)
 ok:∀ p∈l,PoOk w p
theorem QgV.below {w w':World} {a:Option Addr} {l:List Po} {cap:Nat} (h:QgV w a l cap) (hb:Below w.heap.size w w'):QgV w' a l cap:=by
 refine ⟨h.cap,?_,fun p hp=>(h.ok p hp).below hb⟩
 rcases h.lies with h | ⟨b,off,e,hlt,hc⟩
 ·exact .inl h
 ·exact .inr ⟨b,off,e,by have:=hb.size;omega,fun k hk=>(hc k hk).below hb hlt⟩
theorem QgV.at {w:World} {a:Option Addr} {l:List Po} {cap:Nat} (h:QgV w a l cap) {k:Nat} (hk:k<l.length):∃ b off,a=some ⟨b,off,none⟩∧b<w.heap.size∧Qix w b (off+k*4) (l.getD k po0)∧PoOk w (l.getD k po0):=by
 rcases h.lies with rfl | ⟨b,off,e,hlt,hc⟩
 ·simp at hk
 ·refine ⟨b,off,e,hlt,hc k hk,h.ok _ ?_⟩;rw [List.getD_eq_getElem?_getD,List.getElem?_eq_getElem hk];exact List.getElem_mem hk
structure PoTx (p:Po):Prop where
 acc:p.acc.size≤maxLen
 cur:p.cur.size≤maxLen
 tos:∀ t∈p.tos,t.size≤maxLen
def Qdn (c:List Ac) (acc:ByteArray) (l:List ByteArray) (k:Nat):Int:=
 if Qaa c (l.getD k ByteArray.empty)≠0 then Qaa c (l.getD k ByteArray.empty)
 else if l.getD k ByteArray.empty=acc∨Qhr (l.getD k ByteArray.empty) (l.take k)=true then 8 else 0
def Qcd (c:List Ac) (p:Po):Int:=
 if Qaa c p.acc≠0 then Qaa c p.acc
 else if Qam p.cur=false then 2
 else if p.tos.length=0∨p.tos.length≠p.ws.length then 3
 else if 19<p.tos.length then 4
 else if Qac (Qdn c p.acc p.tos) p.tos.length≠0 then Qac (Qdn c p.acc p.tos) p.tos.length
 else QbO p.ws
def QbC (c:List Ac) (l:List Po):Int:=
 if Qat c≠0 then Qat c else if 20<l.length then 4 else Qac (fun k=>Qcd c (l.getD k po0)) l.length
theorem shares_err (ws:List Int) (a:Option Addr) (cap:Nat) (w:World) (h:IsW w a ws cap) (hl:ws.length<20) :
  Calls prog 138 #[.int .i64 0,.slice a ws.length cap] w fun e w'=>(∃ v,e=.returned (.tuple #[v,chE (QbO ws)]))∧Below w.heap.size w w':=by
 refine (QiQ 0 a ws cap w h hl ⟨by decide,by decide⟩).mono ?_
 rintro e w' ⟨hb,h1,h2⟩;refine ⟨?_,hb⟩;by_cases h0:QbO ws=0
 ·obtain ⟨g,_,rfl,_⟩:=h2 h0;exact ⟨_,by rw [h0,Qaj]⟩
 ·exact ⟨_,by rw [h1 h0,Qae h0]⟩
set_option maxHeartbeats 8000000 in
theorem checkPool_any (c:List Ac) (p:Po) (B1 B2:Nat) (w:World) (hL:Lfs w B1 B2 c) (hp:PoOk w p) :
  Calls prog 87 #[.agg p.cells,.func (.func 59) #[] #[.pointer (some ⟨B1,0,none⟩),.pointer (some ⟨B2,0,none⟩)]] w fun e w'=>e=.returned (chE (Qcd c p))∧Below w.heap.size w w':=by
 have eg:∀ args W,(callFunc 59 args).run prog W=.ok (.enter 59 args) W:=fun args W=>QeL func59 (by kernel_rfl) ⟨_,rfl⟩ args W
 obtain ⟨B,hB⟩:∃ B,w.heap.size=B:=⟨_,rfl⟩;obtain ⟨w0,hw0⟩:∃ w0,w.alloc (.cells p.cells 99)=w0:=⟨_,rfl⟩;have B0:Below w.heap.size w w0:=by rw [← hw0];exact (Below.refl _ w).alloc (Nat.le_refl _) _
 have HA:Hid (∀ W,Below w0.heap.size w0 W→Qix W B 0 p∧PoOk W p∧Below w.heap.size w W):=fun W hW=>by
  have hs:w.heap.size<w0.heap.size:=by rw [← hw0];simp
  exact ⟨hB▸(by rw [← hw0];exact Qix.new w p _:Qix w0 w.heap.size 0 p).below hW hs,(hp.below B0).below hW,B0.trans (hW.mono (by omega))⟩
 have HLf:Hid (∀ code W,Below w0.heap.size w0 W→Calls prog 59 #[.string code,.pointer (some ⟨B1,0,none⟩),.pointer (some ⟨B2,0,none⟩)] W fun e w'=>e=.returned (chE (Qaa c code))∧Below w0.heap.size w0 w'):=fun code W hW=>by
  refine (Qdd c code B1 B2 W ((hL.below B0).below hW)).mono ?_;rintro e w' ⟨rfl,hb⟩;exact ⟨rfl,hW.trans (hb.mono hW.size)⟩
 have HCu:Hid (∀ W,Below w0.heap.size w0 W→Calls prog 24 #[.string p.cur] W fun e w'=>e=.returned (.bool (Qam p.cur))∧Below w0.heap.size w0 w'):=fun W hW=>by
  refine (Qcu p.cur W).mono ?_;rintro e w' ⟨rfl,hb⟩;exact ⟨rfl,hW.trans (hb.mono hW.size)⟩
 have HSh:Hid (∀ W,Below w0.heap.size w0 W→p.ws.length<20→Calls prog 138 #[.int .i64 0,.slice p.wA p.ws.length p.wC] W fun e w'=>(∃ v,e=.returned (.tuple #[v,chE (QbO p.ws)]))∧Below w0.heap.size w0 w'):=fun W hW hl20=>by
  refine (shares_err p.ws p.wA p.wC W ((hp.below B0).below hW).iw hl20).mono ?_;rintro e w' ⟨he,hb⟩;exact ⟨he,hW.trans (hb.mono hW.size)⟩
 have HCo:Hid (∀ k W,Below w0.heap.size w0 W→p.tos.length≤19→k≤p.tos.length→∀ code,Calls prog 61 #[.slice p.tA k p.tC,.string code] W fun e w'=>e=.returned (.bool (Qhr code (p.tos.take k)))∧w'=W):=fun k W hW h19 hk code=>by
  have:=QeH p.tA p.tC (p.tos.take k) code W (by simp;omega) (((hp.below B0).below hW).tx.take k)
  rw [List.length_take,Nat.min_eq_left hk] at this;exact this
 obtain ⟨res,hres⟩:∃ res,chE (Qcd c p)=res:=⟨_,rfl⟩;have Hres:Hid (chE (Qcd c p)=res):=hres;rw [hres];have hlt:=hp.lt;have hlw:=hp.lw;have hcap:p.tos.length≤p.tC:=hp.tx.cap;clear hres hL hp;have HW0:Hid (w.alloc (.cells p.cells 99)=w0):=hw0;clear hw0;obtain ⟨acc,cur,tA,tC,tos,wA,wC,ws⟩:=p;simp only [Po.cells] at HW0 HA HLf HCu HSh HCo hlt hlw hcap ⊢;have HF:=HLf.out acc w0 (Below.refl _ _);obtain ⟨⟨d0,d1,d2,d3⟩,_,_⟩:=HA.out w0 (Below.refl _ _)
 simp only [Nat.zero_add] at d0 d1 d2 d3;have HFH:Hid (Calls _ _ _ _ _):=HF;clear HF;by_cases c1:Qaa c acc≠0
 ·have er:res=chE (Qaa c acc):=by rw [← Hres.out];unfold Qcd;simp only;rw [if_pos c1]
  rw [Qae c1] at HFH er;subst er;clear HLf HCu HSh HCo Hres c1;go_enter func87,ntmps87
  go_upto_region 1 with fail
  rw [HW0.out];clear HW0;go_wp2_with (go_at_fn 59;refine HFH.out.mono ?_;rintro e w' ⟨rfl,hb'⟩);go_ret;exact ⟨rfl,(HA.out _ hb').2.2⟩
 have c1':Qaa c acc=0:=Decidable.of_not_not c1;have HR1:Hid (chE (if Qam cur=false then (2:Int) else if tos.length=0∨tos.length≠ws.length then 3 else if 19<tos.length then 4 else if Qac (Qdn c acc tos) tos.length≠0 then Qac (Qdn c acc tos) tos.length else QbO ws)=res):=by
  have:=Hres.out;unfold Qcd at this;simp only at this;rw [if_neg c1] at this;exact this
 rw [c1',Qaj] at HFH;clear Hres c1 c1';go_enter func87,ntmps87
 go_upto_region 1 with fail
 rw [HW0.out];clear HW0;go_wp2_with fail;go_at_fn 59
 refine HFH.out.mono ?_;rintro e w1 ⟨rfl,hb1⟩;clear HFH d0 d1 d2 d3;obtain ⟨⟨d0,d1,d2,d3⟩,_,_⟩:=HA.out w1 hb1;simp only [Nat.zero_add] at d0 d1 d2 d3;have HCu1:Hid (Calls _ _ _ _ _):=HCu.out w1 hb1;clear HCu;cases hcu:Qam cur
 ·have er:res=chE 2:=by rw [← HR1.out,if_pos hcu]
  rw [Qae (by decide)] at er
  subst er;rw [hcu] at HCu1;clear HR1 hcu;go_wp2_with (go_at_call 24;refine HCu1.out.mono ?_;rintro e w2 ⟨rfl,hb2⟩);go_ret;exact ⟨rfl,(HA.out _ hb2).2.2⟩
 have HR2:Hid (chE (if tos.length=0∨tos.length≠ws.length then (3:Int) else if 19<tos.length then 4 else if Qac (Qdn c acc tos) tos.length≠0 then Qac (Qdn c acc tos) tos.length else QbO ws)=res):=by
  have:=HR1.out;rw [if_neg (by rw [hcu];simp)] at this;exact this
 rw [hcu] at HCu1;clear HR1 hcu;go_wp2_with fail;refine HCu1.out.mono ?_;rintro e w2 ⟨rfl,hb2⟩;clear d0 d1 d2 d3 HCu1 hb1;obtain ⟨⟨d0,d1,d2,d3⟩,_,hbw⟩:=HA.out w2 hb2;simp only [Nat.zero_add] at d0 d1 d2 d3;by_cases c3:tos.length=0∨tos.length≠ws.length
 ·have er:res=chE 3:=by rw [← HR2.out,if_pos c3]
  rw [Qae (by decide)] at er
  subst er;by_cases c30:tos.length=0
  ·obtain rfl:=List.eq_nil_of_length_eq_zero c30;clear HR2 c3 c30 HLf HSh HCo HA;simp only [List.length_nil] at d2;go_wp2;go_ret;exact ⟨rfl,hbw⟩
  ·have n0:((tos.length:Int) == 0)=false:=by rw [beq_eq_false_iff_ne];omega
   have n1:((tos.length:Int) != (ws.length:Int))=true:=by
    rw [bne_iff_ne];intro e;rcases c3 with c3 | c3 <;> omega
   have n2:((tos.length:Int) == (ws.length:Int))=false:=by
    rw [beq_eq_false_iff_ne];intro e;rcases c3 with c3 | c3 <;> omega
   clear HR2 c3 HLf HSh HCo HA;go_wp2;go_ret;exact ⟨rfl,hbw⟩
 have he:ws.length=tos.length:=by omega
 have hn0:tos.length≠0:=by omega
 have HR3:Hid (chE (if 19<tos.length then (4:Int) else if Qac (Qdn c acc tos) tos.length≠0 then Qac (Qdn c acc tos) tos.length else QbO ws)=res):=by
  have:=HR2.out;rw [if_neg c3] at this;exact this
 clear HR2 c3;obtain ⟨n,hn⟩:∃ n,tos.length=n:=⟨_,rfl⟩;rw [he] at d3 HSh;rw [hn] at d2 d3 HSh HCo HR3 hcap hn0 hlt;have Hn:Hid (tos.length=n):=hn;have Hwn:Hid (ws.length=n):=he.trans hn;clear he hn hlw;have n0:((n:Int) == 0)=false:=by rw [beq_eq_false_iff_ne];omega
 have n1:(n:Int)≤tC:=by omega
 by_cases c4:19<n
 ·have er:res=chE 4:=by rw [← HR3.out,if_pos c4]
  rw [Qae (by decide)] at er
  subst er;have i4:(19:Int)<n:=by omega
  clear HR3 HLf HSh HCo HA;go_wp2;go_ret;exact ⟨rfl,hbw⟩
 have HR4:Hid (chE (if Qac (Qdn c acc tos) n≠0 then Qac (Qdn c acc tos) n else QbO ws)=res):=by
  have:=HR3.out;rw [if_neg c4] at this;exact this
 have i4:¬ (19:Int)<n:=by omega
 have i5:(n:Int)≤19:=by omega
 have h19:n≤19:=by omega
 clear HR3;go_wp2;go_loopw [45] (fun i wr=>∃ k:Nat,k≤n∧i=.int .i64 k∧Hid (Qac (Qdn c acc tos) k=0)∧Hid (Below w0.heap.size w0 wr)) (fun i _=>n - (RowKit.intOf i).toNat)
 case atStart=>exact ⟨0,Nat.zero_le _,rfl,rfl,hb2⟩
 case round=>
  obtain ⟨k,hk,rfl,H0,HB⟩:=hrel;clear d0 d1 d2 d3;obtain ⟨⟨d0,d1,d2,d3⟩,hok,hbr⟩:=HA.out wr HB.out;simp only [Nat.zero_add] at d0 d1 d2 d3;by_cases hkn:k<n
  ·obtain ⟨b,off,e,hbl,hc⟩:=hok.tx.at (k:=k) (by show k<tos.length;rw [Hn.out];exact hkn)
   simp only at e hc;subst e;have HL1:Hid (Calls _ _ _ _ _):=HLf.out (tos.getD k ByteArray.empty) wr HB.out;have HE:Hid (Qdn c acc tos k=if Qaa c (tos.getD k ByteArray.empty)≠0 then Qaa c (tos.getD k ByteArray.empty) else if tos.getD k ByteArray.empty=acc∨Qhr (tos.getD k ByteArray.empty) (tos.take k)=true then 8 else 0):=rfl
   have HRet:Hid (∀ z,z≠0→Qdn c acc tos k=z→res=chE z):=fun z h0 h1=>by
    rw [← HR4.out,QaC H0.out (by rw [h1];exact h0) hkn,if_pos (by rw [h1];exact h0),h1]
   have HCk:Hid (∀ W,Below w0.heap.size w0 W→Calls prog 61 #[.slice (some ⟨b,off,none⟩) k tC,.string (tos.getD k ByteArray.empty)] W fun e w'=>e=.returned (.bool (Qhr (tos.getD k ByteArray.empty) (tos.take k)))∧w'=W):=fun W hW=>HCo.out k W hW h19 hk _
   have HNx:Hid (Qdn c acc tos k=0→Qac (Qdn c acc tos) (k+1)=0):=fun h=>by rw [Qaz H0.out,h]
   rw [Hn.out] at d2;rw [Hwn.out] at d3;clear hok HSh HLf HCo;generalize tos.getD k ByteArray.empty=code at *
   have j0:(0:Int)≤k:=by omega
   have j1:(k:Int)<n:=by omega
   have j2:(k:Int)≤tC:=by omega
   by_cases l1:Qaa c code≠0
   ·have er:res=chE (Qaa c code):=HRet.out _ l1 (by rw [HE.out,if_pos l1])
    rw [Qae l1] at er HL1;subst er;clear HE HRet HCk HNx HR4;go_wp2_with (go_at_fn 59;refine HL1.out.mono ?_;rintro e w3 ⟨rfl,hb3⟩);go_ret;exact ⟨rfl,(HA.out _ hb3).2.2⟩
   have l1':Qaa c code=0:=Decidable.of_not_not l1;rw [l1',Qaj] at HL1;have HE2:Hid (Qdn c acc tos k=if code=acc∨Qhr code (tos.take k)=true then 8 else 0):=by
    have:=HE.out;rw [if_neg l1] at this;exact this
   clear HE l1 l1';go_wp2_with fail;go_at_fn 59
   refine HL1.out.mono ?_;rintro e w3 ⟨rfl,hb3⟩;clear d0 d1 d2 d3 HL1;obtain ⟨⟨d0,d1,d2,d3⟩,_,hbr⟩:=HA.out w3 hb3;simp only [Nat.zero_add] at d0 d1 d2 d3;rw [Hn.out] at d2;rw [Hwn.out] at d3;have HC3:Hid (Calls _ _ _ _ _):=HCk.out w3 hb3;clear HCk;have HB3:Hid (Below w0.heap.size w0 w3):=hb3;clear hb3;by_cases l2:code=acc
   ·subst l2;have er:res=chE 8:=HRet.out 8 (by decide) (by rw [HE2.out,if_pos (.inl rfl)])
    rw [Qae (by decide)] at er
    subst er;clear HE2 HRet HC3 HNx HR4;go_wp2;go_ret;exact ⟨rfl,hbr⟩
   have l2':=QeB l2;cases hm:Qhr code (tos.take k)
   ·rw [hm] at HC3 HE2;have HN:Hid (Qac (Qdn c acc tos) (k+1)=0):=HNx.out (by rw [HE2.out,if_neg (by simp [l2])])
    clear HE2 HRet HNx;go_wp2_with (go_at_call 61;refine HC3.out.mono ?_;rintro e w' ⟨rfl,rfl⟩);go_roundw
    case rel=>exact ⟨k+1,by omega,by go_num,HN,HB3⟩
    case measure=>simp [RowKit.intOf];omega
   ·rw [hm] at HC3 HE2;have er:res=chE 8:=HRet.out 8 (by decide) (by rw [HE2.out,if_pos (.inr rfl)])
    rw [Qae (by decide)] at er
    subst er;clear HE2 HRet HNx HR4;go_wp2_with (go_at_call 61;refine HC3.out.mono ?_;rintro e w' ⟨rfl,rfl⟩);go_ret;exact ⟨rfl,hbr⟩
  ·have ek:k=n:=by omega
   subst ek;have er:res=chE (QbO ws):=by rw [← HR4.out,if_neg (by simp [H0.out])]
   have HS1:Hid (Calls _ _ _ _ _):=HSh.out wr HB.out (by omega)
   rw [← er] at HS1;have j1:¬ (k:Int)<k:=by omega
   rw [Hn.out] at d2;rw [Hwn.out] at d3;clear er HR4 HSh HLf HCo hok;go_wp2_with fail;refine HS1.out.mono ?_;rintro e w3 ⟨⟨v,rfl⟩,hb3⟩;have hbr3:=(HA.out _ hb3).2.2;clear HS1 hb3 HA;go_wp2;go_ret;exact ⟨rfl,hbr3⟩
end
section
open Go.RowKit Go.Lib Go.Proofs.Tryz
set_option maxHeartbeats 4000000 in
theorem QhC (a a2:Option Addr) (cap cap2:Nat) (c:List Ac) (l:List Po) (w:World) (h:QbJ w a c cap) (hl:QgV w a2 l cap2) (hll:l.length≤9223372036854775807) :
  Calls prog 39 #[.slice a c.length cap,.slice a2 l.length cap2] w fun e w'=>e=.returned (chE (QbC c l))∧Below w.heap.size w w':=by
 by_cases c0:Qat c≠0
 ·have HC:Hid (Calls _ _ _ _ _):=QaS a cap c w h c0;have e0:QbC c l=Qat c:=by unfold QbC;rw [if_pos c0]
  rw [e0];rw [Qae c0] at HC ⊢;clear h hl e0 c0;go_enter func39,ntmps39
  go_wp2_with (go_at_call 22;refine HC.out.mono ?_;rintro e w1 ⟨rfl,hb1⟩);go_ret;exact ⟨rfl,hb1⟩
 have HC:Hid (Calls _ _ _ _ _):=Qbe a cap c w h (Decidable.of_not_not c0);obtain ⟨res,hres⟩:∃ res,chE (QbC c l)=res:=⟨_,rfl⟩;have HR1:Hid (chE (if 20<l.length then 4 else Qac (fun k=>Qcd c (l.getD k po0)) l.length)=res):=by
  rw [← hres];unfold QbC;rw [if_neg c0];exact rfl
 rw [hres];have HL:Hid (QgV w a2 l cap2):=hl;clear hres h hl c0;go_enter func39,ntmps39
 go_wp2_with fail;refine HC.out.mono ?_;rintro e w1 ⟨B1,B2,rfl,hlf,hb1⟩;have HLf:Hid (Lfs w1 B1 B2 c):=hlf;have HB1:Hid (Below w.heap.size w w1):=hb1;clear hlf hb1 HC;by_cases c1:20<l.length
 ·have er:res=chE 4:=by rw [← HR1.out,if_pos c1]
  rw [Qae (by decide)] at er
  subst er;have i1:(20:Int)<l.length:=by omega
  clear HR1;go_wp2;go_ret;exact ⟨rfl,HB1.out⟩
 have HR2:Hid (chE (Qac (fun k=>Qcd c (l.getD k po0)) l.length)=res):=by
  have:=HR1.out;rw [if_neg c1] at this;exact this
 have i1:¬ (20:Int)<l.length:=by omega
 have i2:(l.length:Int)≤20:=by omega
 clear HR1;go_wp2;go_loopw [24] (fun i wr=>∃ k:Nat,k≤l.length∧i=.int .i64 k∧Hid (Qac (fun k=>Qcd c (l.getD k po0)) k=0)∧Hid (Below w1.heap.size w1 wr)) (fun i _=>l.length - (RowKit.intOf i).toNat)
 case atStart=>exact ⟨0,Nat.zero_le _,rfl,rfl,Below.refl _ _⟩
 case round=>
  obtain ⟨k,hk,rfl,H0,HB⟩:=hrel;by_cases hkn:k<l.length
  ·have hbw:Below w.heap.size w wr:=HB1.out.trans (HB.out.mono HB1.out.size);obtain ⟨b,off,e,hbl,hc,hok⟩:=((HL.out).below hbw).at hkn;subst e;have HRet:Hid (∀ z,z≠0→Qcd c (l.getD k po0)=z→res=chE z):=fun z h0 h1=>by
    rw [← HR2.out,QaC H0.out (by rw [h1];exact h0) hkn,h1]
   have HNx:Hid (Qcd c (l.getD k po0)=0→Qac (fun k=>Qcd c (l.getD k po0)) (k+1)=0):=fun h=>by rw [Qaz H0.out,h]
   have BB2:=HB.out.alloc HB.out.size (.cells (l.getD k po0).cells 99);have hx:=Qix.new wr (l.getD k po0) 99;have HCk:Hid (Calls _ _ _ _ _):=checkPool_any c (l.getD k po0) B1 B2 (wr.alloc (.cells (l.getD k po0).cells 99)) (HLf.out.below BB2) (hok.below ((Below.refl _ wr).alloc (Nat.le_refl _) _));have HBk:Hid (∀ w2,Below (wr.alloc (.cells (l.getD k po0).cells 99)).heap.size (wr.alloc (.cells (l.getD k po0).cells 99)) w2→Below w1.heap.size w1 w2∧Below w.heap.size w w2):=fun w2 h2=>by
    have h3:=BB2.trans (h2.mono BB2.size);exact ⟨h3,HB1.out.trans (h3.mono HB1.out.size)⟩
   clear BB2 hok;generalize l.getD k po0=p at *
   obtain ⟨acc,cur,tA,tC,tos,wA,wC,ws⟩:=p;obtain ⟨d0,d1,d2,d3⟩:=hc;obtain ⟨f0,f1,f2,f3⟩:=hx;simp only [Po.cells,Nat.zero_add] at d0 d1 d2 d3 f0 f1 f2 f3 HCk HBk;have j0:(0:Int)≤k:=by omega
   have j1:(k:Int)<l.length:=by omega
   by_cases c2:Qcd c ⟨acc,cur,tA,tC,tos,wA,wC,ws⟩=0
   ·have HN:Hid _:=HNx.out c2;rw [c2,Qaj] at HCk;clear HRet HNx c2;go_wp2_with fail;refine HCk.out.mono ?_;rintro e w2 ⟨rfl,hb2⟩;have HB2:Hid _:=(HBk.out w2 hb2).1;clear HCk HBk hb2;go_wp2;go_roundw
    case rel=>exact ⟨k+1,by omega,by go_num,HN,HB2⟩
    case measure=>simp [RowKit.intOf];omega
   ·have er:=HRet.out _ c2 rfl;rw [Qae c2] at HCk er;subst er;clear HRet HNx HR2;go_wp2_with fail;refine HCk.out.mono ?_;rintro e w2 ⟨rfl,hb2⟩;have HB2:Hid _:=(HBk.out w2 hb2).2;clear HCk HBk hb2;go_wp2;go_ret;exact ⟨rfl,HB2.out⟩
  ·have ek:k=l.length:=by omega
   subst ek;have er:res=chE 0:=by rw [← HR2.out,H0.out]
   rw [Qaj] at er;subst er;have hbw:Below w.heap.size w wr:=HB1.out.trans (HB.out.mono HB1.out.size);clear HR2;go_wp2;go_ret;exact ⟨rfl,hbw⟩
end
end Go.Proofs.YtibhgngboljhfaaGreatDoor
