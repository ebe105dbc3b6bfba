/-
  Part of a proof (see the last text).
-/
import Derived.Test.YtjifbbdkpanagaaGreatDoorZd36
set_option linter.unusedVariables false
set_option linter.unusedSimpArgs false
set_option maxRecDepth 100000
namespace Go.Proofs.YtjifbbdkpanagaaGreatDoor
section
open Go.RowKit Go.Lib Go.Proofs.Tryz
def QcK (mk:List Bool) (torn:Int):Nat→List Cg→List Bk→List Bk
 | _,[],s=>s
 | k,c :: cs,s=>QcK mk torn (k+1) cs (if mk.getD k false=true then s.set c.at_ ⟨c.tgt.byt,decide ((k:Int)=torn)⟩ else s)
def Dk.crash (D:Dk) (keep:List Int) (torn:Int):Dk:=
 ⟨QcK (Qco keep D.chg.length) torn 0 D.chg D.safe,QcK (Qco keep D.chg.length) torn 0 D.chg D.safe,[],0,-1⟩
theorem crashS_ok (mk:List Bool) (torn:Int) (n:Nat):∀ (cs:List Cg) (k:Nat) (s:List Bk),s.length=n→(∀ x∈s,x.ok)→(∀ c∈cs,c.tgt.ok∧c.at_<n)→(QcK mk torn k cs s).length=n∧∀ x∈QcK mk torn k cs s,x.ok
 | [],_,s,h1,h2,_=>⟨h1,h2⟩
 | c :: cs,k,s,h1,h2,h3=>by
  unfold QcK;refine crashS_ok mk torn n cs (k+1) _ ?_ ?_ (fun x hx=>h3 x (by simp [hx]))
  ·split
   ·rw [List.length_set];exact h1
   ·exact h1
  ·intro x hx;split at hx
   ·rcases List.mem_or_eq_of_mem_set hx with hx | rfl
    ·exact h2 x hx
    ·exact (h3 c (by simp)).1
   ·exact h2 x hx
theorem crashS_step {mk:List Bool} {torn:Int} {l:List Cg} {k:Nat} {s:List Bk} (hk:k<l.length) :
  QcK mk torn k (l.drop k) s=QcK mk torn (k+1) (l.drop (k+1)) (if mk.getD k false=true then s.set (l.getD k cg0).at_ ⟨(l.getD k cg0).tgt.byt,decide ((k:Int)=torn)⟩ else s):=by
 have hc:l.getD k cg0=l[k]:=by rw [List.getD_eq_getElem?_getD,List.getElem?_eq_getElem hk];rfl
 rw [List.drop_eq_getElem_cons hk,hc];rfl
theorem set_torn (c:Cg) (h:c.tgt.ok) (b:Bool):c.cells.toArray.setIfInBounds 65 (.bool b)=(Cg.mk c.at_ ⟨c.tgt.byt,b⟩).cells.toArray:=by
 have hl:(byC c.tgt.byt).length=64:=by rw [Qaf];exact h
 simp only [List.setIfInBounds_toArray,Cg.cells,Bk.cells];congr 1;rw [List.set_cons_succ];congr 1;rw [List.set_append_right _ _ (by rw [hl];exact Nat.le_refl _),hl]
 rfl
theorem chg_range {w:World} {g:Nat} {cur:Array Value} {t:TypeId} {l:List Cg} (h:w.heap[g]? = some (.cells cur t (0,0))) (hr:cur.toList.take (l.length*66)=Qau Cg.cells l) (ho:∀ c∈l,c.tgt.ok) (k:Nat) (hk:k<l.length):w.rangeAt g (k*66) (l.getD k cg0).cells:=by
 intro j v hv;have hc:(l.getD k cg0)=l[k]:=by rw [List.getD_eq_getElem?_getD,List.getElem?_eq_getElem hk];rfl
 rw [hc] at hv;have hj:j<66:=by
  have:=(List.getElem?_eq_some_iff.1 hv).1
  rw [Cg.cells_length (ho _ (List.getElem_mem hk))] at this;exact this
 have e:=Qfa Cg.cells 66 l k j hk (fun x hx=>Cg.cells_length (ho x hx)) hj
 rw [← hr,List.getElem?_take,if_pos (by omega)] at e
 rw [cell_of_row w g _ _ t (0,0) h,← Array.getElem?_toList,e];exact hv
set_option maxHeartbeats 8000000 in
theorem crash_any (lo p nb sb:Nat) (cv:Value) (n:Nat) (D:Dk) (a:Option Addr) (keep:List Int) (cap:Nat) (torn:Int) (w:World) (h:QaT w lo p nb sb cv n D) (hlo:lo≤w.heap.size) (hc0:D.chg.length≤1000000) (hkl:keep.length≤9223372036854775807) (hin:IsIn w a keep cap) :
  Calls prog 12 #[.pointer (some ⟨p,0,none⟩),.slice a keep.length cap,.int .i64 torn] w fun e w'=>e=.returned (.tuple #[])∧Hid (QaT w' lo p nb sb (.slice none 0 0) n (D.crash keep torn)∧Qan lo dkT w w'):=by
 have HM:Hid (Calls _ _ _ _ _):=marked_any a keep cap D.chg.length w hin hc0 hkl;have HD:Hid (QaT w lo p nb sb cv n D):=h;obtain ⟨av,cpv,hcv⟩:∃ av cpv,cv=.slice av D.chg.length cpv:=by
  rcases h.chg.2 with ⟨rfl,e⟩ | ⟨g1,c1,cur,rfl,_⟩
  ·exact ⟨none,0,by rw [e]⟩
  ·exact ⟨_,_,rfl⟩
 have c2:=h.p2;rw [hcv] at c2;have HF:Hid (QcK (Qco keep D.chg.length) torn 0 D.chg D.safe=(D.crash keep torn).safe):=rfl;have HCO:Hid (∀ c∈D.chg,c.tgt.ok∧c.at_<n):=h.ok.chgO;have HFo:Hid ((D.crash keep torn).safe.length=n∧∀ x∈(D.crash keep torn).safe,x.ok):=crashS_ok _ _ _ _ _ _ h.ok.safeL h.ok.safeO h.ok.chgO;have HCR:Hid (D.crash keep torn=⟨(D.crash keep torn).safe,(D.crash keep torn).safe,[],0,-1⟩):=rfl
 generalize D.crash keep torn=DC at *
 generalize DC.safe=fin at *
 generalize hmk:Qco keep D.chg.length=mk at *
 have HML:Hid (mk.length=D.chg.length):=by rw [← hmk];exact Qf3 _ _
 clear hin hmk;go_enter func12,ntmps12
 go_wp2_with fail;refine HM.out.mono ?_;rintro e w1 ⟨rfl,hrow,hb1⟩;clear HM c2;have hd1:=HD.out.below hb1;have hk1:Qan lo dkT w w1:=Qan.of_below hb1;have c2:=hd1.p2;rw [hcv] at c2;have HR1:Hid (QbX w1 w.heap.size mk):=hrow;have HD1:Hid (QaT w1 lo p nb sb cv n D):=hd1;have HK1:Hid (Qan lo dkT w w1):=hk1;have Hcv:Hid (cv=.slice av D.chg.length cpv):=hcv;clear hrow hb1 hd1 hk1 hcv h;generalize w.heap.size=G at *
 go_wp2;clear c2;go_loopw [21] (fun i wr=>∃ k:Nat,k≤D.chg.length∧i=.int .i64 k∧Hid (∃ s,QcK mk torn k (D.chg.drop k) s=fin∧QaT wr lo p nb sb cv n { D with safe:=s }∧Qan lo dkT w wr∧QbX wr G mk)) (fun i _=>D.chg.length - (RowKit.intOf i).toNat)
 case atStart=>exact ⟨0,Nat.zero_le _,rfl,D.safe,HF.out,HD1.out,HK1.out,HR1.out⟩
 case round=>
  obtain ⟨k,hk,rfl,H⟩:=hrel;by_cases hlt:k<D.chg.length
  ·obtain ⟨s,hfin,hd,hkp,hbo⟩:=H.out;clear H;have hgk:D.chg.getD k cg0∈D.chg:=by
    rw [List.getD_eq_getElem?_getD,List.getElem?_eq_getElem hlt];exact List.getElem_mem hlt
   obtain ⟨hcok,hcat⟩:=HCO.out _ hgk;rw [crashS_step hlt] at hfin;have hldc:∃ g1,av=some ⟨g1,0,none⟩∧(Instr.loadAt 97 (.pointer (some ⟨g1,k*66,none⟩))).run prog wr=.ok (.agg (D.chg.getD k cg0).cells.toArray) wr:=by
    rcases hd.chg.2 with ⟨_,e⟩ | ⟨g1,c1,cur,e1,_,hh,_,_,_,ht⟩
    ·simp only at e;omega
    ·rw [Hcv.out] at e1;cases e1;exact ⟨g1,rfl,run_loadAt_mid wr g1 (k*66) 97 _ _ (chg_range hh ht (fun c hc=>(HCO.out c hc).1) k hlt) underlying97 rfl (by rw [Cg.cells_length hcok];exact Qda)⟩
   obtain ⟨g1,rfl,hld⟩:=hldc;have hmkc:=hbo.cell (i:=k) (by rw [HML.out];exact hlt)
   generalize D.chg.getD k cg0=c at *
   have hal:=QfX;have hstn:=fun W=>run_storeAt_new (P:=prog) W 97 cg0.cells.toArray c.cells.toArray (by rw [List.size_toArray,Cg.cells_length hcok];exact Qda) (by rw [List.size_toArray,List.size_toArray,Cg.cells_length Qej,Cg.cells_length hcok]) (all_oneCell_toArray (Cg.cells_one _))
   generalize cg0.cells.toArray=C0 at *
   have hb1:=Qai wr (.cells c.cells.toArray 97);have hbel1:=(Below.refl wr.heap.size wr).alloc (Nat.le_refl _) (.cells c.cells.toArray 97);have hm1:(wr.alloc (.cells c.cells.toArray 97)).cell? ⟨G,k,none⟩=some (.bool (mk.getD k false)):=(World.cell?_alloc_lt _ _ _ hbo.lt).trans hmkc;have j0:(0:Int)≤k:=by omega
   have j1:(k:Int)<D.chg.length:=by omega
   have HDr:Hid (QaT wr lo p nb sb cv n { D with safe:=s }):=hd
   have HKr:Hid (Qan lo dkT w wr):=hkp;have HBr:Hid (QbX wr G mk):=hbo;have Hfin:Hid (QcK mk torn (k+1) (D.chg.drop (k+1)) (if mk.getD k false=true then s.set c.at_ ⟨c.tgt.byt,decide ((k:Int)=torn)⟩ else s)=fin):=hfin
   have Hb1:Hid (_=_):=hb1;have HB1:Hid (Below _ _ _):=hbel1;have Hcok:Hid (c.tgt.ok):=hcok;generalize hC:c.cells.toArray=C at *
   have HCC:Hid (c.cells.toArray=C):=hC;clear hd hkp hbo hfin hmkc hb1 hbel1 hcok hC hgk;cases hmb:mk.getD k false
   ·rw [hmb] at hm1 Hfin;go_wp2_with (first | (refine Qao rfl 97 (.tmp 24) rfl (.pointer (some ⟨g1,k*66,none⟩)) rfl hld ?_) | (refine Qae rfl 97 rfl (hal _) ?_) | (refine Qac rfl 97 (.tmp 8) (.tmp 25) rfl (.pointer (some ⟨wr.heap.size,0,none⟩)) (.agg C) rfl rfl (hstn _) ?_));go_roundw
    case rel=>exact ⟨k+1,by omega,by go_num,s,Hfin.out,HDr.out.below HB1.out,HKr.out.trans (Qan.of_below HB1.out),by have:=HB1.out.block G HBr.out.lt;exact this.trans HBr.out⟩
    case measure=>simp [RowKit.intOf];omega
   ·rw [hmb] at hm1 Hfin;have Hfin2:Hid (QcK mk torn (k+1) (D.chg.drop (k+1)) (s.set c.at_ ⟨c.tgt.byt,decide ((k:Int)=torn)⟩)=fin):=Hfin.out;clear Hfin;obtain ⟨tt,htt⟩:∃ tt:Bool,decide ((k:Int)=torn)=tt:=⟨_,rfl⟩;have htt2:((k:Int) == torn)=tt:=by rw [← htt];rfl
    rw [htt] at Hfin2;have h65:C[65]? = some (.bool c.tgt.torn):=by
     have hk:=Hcok.out;unfold Bk.ok at hk;rw [← HCC.out];simp only [List.getElem?_toArray,Cg.cells,Bk.cells,List.getElem?_cons_succ];rw [List.getElem?_append_right (by rw [Qaf,hk];exact Nat.le_refl _),Qaf,hk]
     rfl
    obtain ⟨C',hC'⟩:∃ C',C.setIfInBounds 65 (.bool tt)=C':=⟨_,rfl⟩;obtain ⟨c',hc'⟩:∃ c',c'=Cg.mk c.at_ ⟨c.tgt.byt,tt⟩:=⟨_,rfl⟩;have HC':Hid (C'=c'.cells.toArray):=by
     unfold Hid;rw [← hC',← HCC.out,set_torn c Hcok.out,hc']
    have Hc':Hid (c'=Cg.mk c.at_ ⟨c.tgt.byt,tt⟩):=hc';clear hc' htt;go_wp2_with (first | (refine Qao rfl 97 (.tmp 24) rfl (.pointer (some ⟨g1,k*66,none⟩)) rfl hld ?_) | (refine Qae rfl 97 rfl (hal _) ?_) | (refine Qac rfl 97 (.tmp 8) (.tmp 25) rfl (.pointer (some ⟨wr.heap.size,0,none⟩)) (.agg C) rfl rfl (hstn _) ?_));have hok':c'.tgt.ok:=by rw [Hc'.out];exact Hcok.out
    have hat':c'.at_<n:=by rw [Hc'.out];exact hcat
    have hbel2:=(Below.refl wr.heap.size wr).alloc (Nat.le_refl _) (.cells C' 97);have hb2:=Qai wr (.cells C' 97);have hd2:=HDr.out.below hbel2;have hk2:Qan lo dkT w (wr.alloc (.cells C' 97)):=HKr.out.trans (Qan.of_below hbel2);have hr2:QbX (wr.alloc (.cells C' 97)) G mk:=(hbel2.block G HBr.out.lt).trans HBr.out;clear hld hal hstn hm1 h65 hC' HDr HKr HBr Hb1 HB1 HCC hbel2;generalize wr.alloc (.cells C' 97)=W2 at *
    generalize wr.heap.size=B at *
    rw [HC'.out] at hb2;have c1:W2.drew.cell? ⟨p,1,none⟩=some (.slice (some ⟨sb,0,none⟩) n n):=hd2.p1;have cB:W2.drew.cell? ⟨B,0,none⟩=some (.int .i64 (c'.at_:Int)):=by
     show W2.cell? _=_;rw [cell_of_row W2 B 0 _ _ (0,0) hb2];simp [Cg.cells]
    have hld1:(Instr.loadAt 95 (.pointer (some ⟨B,1,none⟩))).run prog W2.drew=.ok (.agg c'.tgt.cells.toArray) W2.drew:=load_to hok' hb2;have hst1:=Qhf (w:=W2.drew) (g:=sb) hd2.drew.safe hd2.ok.safeO c'.at_ (by rw [hd2.ok.safeL];exact hat') c'.tgt hok'
    have hd3:=hd2.drew.setSafe (s.set c'.at_ c'.tgt) (by rw [List.length_set];exact hd2.ok.safeL) (fun x hx=>by
     rcases List.mem_or_eq_of_mem_set hx with hx | rfl
     ·exact hd2.ok.safeO x hx
     ·exact hok')
    have hk3:=hk2.drew.setRow hd2.drew.safe (by simp [dkT]) hd2.ls (Qau Bk.cells (s.set c'.at_ c'.tgt)).toArray
    have hr3:QbX (W2.drew.setRow sb (Qau Bk.cells (s.set c'.at_ c'.tgt)).toArray) G mk:=(setRow_other _ _ _ _ (fun e=>by
     have h1:W2.heap[G]? = _:=hr2;rw [e,hd2.safe] at h1;simp at h1)).trans hr2
    have hfin3:QcK mk torn (k+1) (D.chg.drop (k+1)) (s.set c'.at_ c'.tgt)=fin:=by rw [Hc'.out];exact Hfin2.out
    have HS3:Hid (∃ s',QcK mk torn (k+1) (D.chg.drop (k+1)) s'=fin∧QaT (W2.drew.setRow sb (Qau Bk.cells (s.set c'.at_ c'.tgt)).toArray) lo p nb sb cv n { D with safe:=s' }∧Qan lo dkT w (W2.drew.setRow sb (Qau Bk.cells (s.set c'.at_ c'.tgt)).toArray)∧QbX (W2.drew.setRow sb (Qau Bk.cells (s.set c'.at_ c'.tgt)).toArray) G mk):=⟨_,hfin3,hd3,hk3,hr3⟩
    have a0:(0:Int)≤c'.at_:=by omega
    have a1:(c'.at_:Int)<n:=by omega
    simp only at hst1;generalize (Qau Bk.cells (s.set c'.at_ c'.tgt)).toArray=R at *
    generalize c'.tgt.cells.toArray=X at *
    generalize c'.at_=q at *
    clear hd3 hk3 hr3 hfin3 hd2 hk2 hr2 hb2 Hfin2 hok' Hc' HC' Hcok
    try simp only [Act.put,List.setIfInBounds_toArray,List.set_cons_zero,List.set_cons_succ]
    refine Qab (by kernel_rfl) ?_
    refine wpAny_take (i:=0) (v:=.pointer (some ⟨p,0,none⟩)) rfl (by kernel_rfl) (by kernel_rfl) (by kernel_rfl) (fun _ _ _ h=>h) (Or.inl ⟨by rfl,fun w=>by go_simp⟩) ?_
    simp only [Act.put,zq0,zq1,zq2,zq3,zq4,zq5];refine wpAny_take (i:=1) (v:=.pointer (some ⟨p,0,none⟩)) rfl (by kernel_rfl) (by kernel_rfl) (by kernel_rfl) (fun _ _ _ h=>h) (Or.inl ⟨by rfl,fun w=>by go_simp⟩) ?_
    simp only [Act.put,zq0,zq1,zq2,zq3,zq4,zq5];refine wpAny_take (i:=2) (v:=.pointer (some ⟨p,1,none⟩)) rfl (by kernel_rfl) (by kernel_rfl) (by kernel_rfl) (fun _ _ _ h=>h) (Or.inl ⟨by rfl,fun w=>by go_simp⟩) ?_
    simp only [Act.put,zq0,zq1,zq2,zq3,zq4,zq5];refine wpAny_take (i:=4) (v:=.pointer (some ⟨B,0,none⟩)) rfl (by kernel_rfl) (by kernel_rfl) (by kernel_rfl) (fun _ _ _ h=>h) (Or.inl ⟨by rfl,fun w=>by go_simp⟩) ?_
    simp only [Act.put,zq0,zq1,zq2,zq3,zq4,zq5];refine wpAny_take (i:=6) (v:=.pointer (some ⟨B,1,none⟩)) rfl (by kernel_rfl) (by kernel_rfl) (by kernel_rfl) (fun _ _ _ h=>h) (Or.inl ⟨by rfl,fun w=>by go_simp⟩) ?_
    simp only [Act.put,zq0,zq1,zq2,zq3,zq4,zq5];refine QaD (g:=9) (T:=fun u=>u=W2.drew) _ _ _ _ ?_
    refine Qaz (i:=3) (v:=.slice (some ⟨sb,0,none⟩) n n) rfl rfl (by kernel_rfl) (by decide) (by kernel_rfl) (by kernel_rfl) (by kernel_rfl) (by kernel_rfl) (fun _ _ _ h=>h) (Or.inl ⟨by rfl,fun w' hw'=>by subst hw';go_simp⟩) rfl ?_
    simp only [Act.put,zq0,zq1,zq2,zq3,zq4,zq5];refine Qaz (i:=5) (v:=.int .i64 q) rfl rfl (by kernel_rfl) (by decide) (by kernel_rfl) (by kernel_rfl) (by kernel_rfl) (by kernel_rfl) (fun _ _ _ h=>h) (Or.inl ⟨by rfl,fun w' hw'=>by subst hw';go_simp⟩) rfl ?_
    simp only [Act.put,zq0,zq1,zq2,zq3,zq4,zq5];refine Qaz (i:=7) (v:=.agg X) rfl rfl (by kernel_rfl) (by decide) (by kernel_rfl) (by kernel_rfl) (by kernel_rfl) (by kernel_rfl) (fun _ _ _ h=>h) ?_ rfl ?_
    ·refine QaQ (by rfl) 95 (.tmp 41) (by rfl) (.pointer (some ⟨B,1,none⟩)) (by rfl) ?_
     exact (fun u hu=>by subst hu;exact hld1)
    simp only [Act.put,zq0,zq1,zq2,zq3,zq4,zq5];refine Qaz (i:=8) (v:=.pointer (some ⟨sb,q*65,none⟩)) rfl rfl (by kernel_rfl) (by decide) (by kernel_rfl) (by kernel_rfl) (by kernel_rfl) (by kernel_rfl) (fun _ _ _ h=>h) (Or.inl ⟨by rfl,fun w' hw'=>by subst hw';go_simp⟩) rfl ?_
    simp only [Act.put,zq0,zq1,zq2,zq3,zq4,zq5];refine Qhw (by kernel_rfl) (by kernel_rfl) ?_
    refine wpOp_step rfl ?_;intro K hK;rw [if_pos (by rfl)]
    refine Qca 95 (.tmp 43) (.tmp 42) rfl (.pointer (some ⟨sb,q*65,none⟩)) (.agg X) rfl rfl hst1 ?_;refine hK _ _ ?_;clear hK K hst1 hld1 cB c1;refine wpAny_done (by kernel_rfl) ?_ _
    generalize W2.drew.setRow sb R=W3 at *
    go_wp2;go_roundw
    case rel=>exact ⟨k+1,by omega,by go_num,HS3⟩
    case measure=>simp [RowKit.intOf];omega
  ·have ek:k=D.chg.length:=by omega
   subst ek;obtain ⟨s,hfin,hd,hkp,hbo⟩:=H.out;clear H hbo;rw [List.drop_length] at hfin;have hsf:s=fin:=hfin;subst hsf;have j1:¬ (D.chg.length:Int)<D.chg.length:=by omega
   have c0:wr.drew.cell? ⟨p,0,none⟩=some (.slice (some ⟨nb,0,none⟩) n n):=hd.p0;have c1:wr.drew.cell? ⟨p,1,none⟩=some (.slice (some ⟨sb,0,none⟩) n n):=hd.p1;have hcp:=fun ty=>Qhu wr.drew nb sb n D.now s hd.ok.nowL hd.ok.safeL hd.ok.nowO hd.ok.safeO hd.drew.now hd.drew.safe ty
   have hd2:=hd.drew.setNow s hd.ok.safeL hd.ok.safeO;have hk2:=hkp.drew.setRow hd.drew.now (by simp [dkT]) hd.ln (Qau Bk.cells s).toArray
   have HD2:Hid (QaT _ _ _ _ _ _ _ _):=hd2;have HK2:Hid (Qan _ _ _ _):=hk2;generalize (Qau Bk.cells s).toArray=R at *
   clear hd2 hk2 hd hkp hfin;go_wp2;refine Qab (by kernel_rfl) ?_
   refine wpAny_take (i:=0) (v:=.pointer (some ⟨p,0,none⟩)) rfl (by kernel_rfl) (by kernel_rfl) (by kernel_rfl) (fun _ _ _ h=>h) (Or.inl ⟨by rfl,fun w=>by go_simp⟩) ?_
   simp only [Act.put,zq0,zq1,zq2,zq3,zq4,zq5];refine wpAny_take (i:=1) (v:=.pointer (some ⟨p,0,none⟩)) rfl (by kernel_rfl) (by kernel_rfl) (by kernel_rfl) (fun _ _ _ h=>h) (Or.inl ⟨by rfl,fun w=>by go_simp⟩) ?_
   simp only [Act.put,zq0,zq1,zq2,zq3,zq4,zq5];refine wpAny_take (i:=2) (v:=.pointer (some ⟨p,0,none⟩)) rfl (by kernel_rfl) (by kernel_rfl) (by kernel_rfl) (fun _ _ _ h=>h) (Or.inl ⟨by rfl,fun w=>by go_simp⟩) ?_
   simp only [Act.put,zq0,zq1,zq2,zq3,zq4,zq5];refine wpAny_take (i:=4) (v:=.pointer (some ⟨p,0,none⟩)) rfl (by kernel_rfl) (by kernel_rfl) (by kernel_rfl) (fun _ _ _ h=>h) (Or.inl ⟨by rfl,fun w=>by go_simp⟩) ?_
   simp only [Act.put,zq0,zq1,zq2,zq3,zq4,zq5];refine wpAny_take (i:=5) (v:=.pointer (some ⟨p,0,none⟩)) rfl (by kernel_rfl) (by kernel_rfl) (by kernel_rfl) (fun _ _ _ h=>h) (Or.inl ⟨by rfl,fun w=>by go_simp⟩) ?_
   simp only [Act.put,zq0,zq1,zq2,zq3,zq4,zq5];refine wpAny_take (i:=6) (v:=.pointer (some ⟨p,1,none⟩)) rfl (by kernel_rfl) (by kernel_rfl) (by kernel_rfl) (fun _ _ _ h=>h) (Or.inl ⟨by rfl,fun w=>by go_simp⟩) ?_
   simp only [Act.put,zq0,zq1,zq2,zq3,zq4,zq5];refine QaD (g:=8) (T:=fun u=>u=wr.drew) _ _ _ _ ?_
   refine Qaz (i:=3) (v:=.slice (some ⟨nb,0,none⟩) n n) rfl rfl (by kernel_rfl) (by decide) (by kernel_rfl) (by kernel_rfl) (by kernel_rfl) (by kernel_rfl) (fun _ _ _ h=>h) (Or.inl ⟨by rfl,fun w' hw'=>by subst hw';go_simp⟩) rfl ?_
   simp only [Act.put,zq0,zq1,zq2,zq3,zq4,zq5];refine Qaz (i:=7) (v:=.slice (some ⟨sb,0,none⟩) n n) rfl rfl (by kernel_rfl) (by decide) (by kernel_rfl) (by kernel_rfl) (by kernel_rfl) (by kernel_rfl) (fun _ _ _ h=>h) (Or.inl ⟨by rfl,fun w' hw'=>by subst hw';go_simp⟩) rfl ?_
   simp only [Act.put,zq0,zq1,zq2,zq3,zq4,zq5];refine Qhw (by kernel_rfl) (by kernel_rfl) ?_
   refine wpOp_step rfl ?_;intro K hK;rw [if_pos (by rfl)]
   refine Qdp (.tmp 48) (.tmp 52) 73 73 (by rfl) (.slice (some ⟨nb,0,none⟩) n n) (.slice (some ⟨sb,0,none⟩) n n) (by rfl) (by rfl) (hcp _) ?_
   refine hK _ _ ?_;clear hK K hcp c0 c1;refine wpAny_done (by kernel_rfl) ?_ _
   generalize wr.drew.setRow nb R=W2 at *
   have c2:=HD2.out.p2;have f2:=HD2.out.fz 2;have hd3:=HD2.out.setNone;have hk3:=HK2.out.setCell (o:=2) HD2.out.box (by simp [dkT]) HD2.out.lp (.slice none 0 0)
   have c3:=hd3.p3;have f3:=hd3.fz 3;have hd4:=hd3.setSteps 0;have hk4:=hk3.setCell (o:=3) hd3.box (by simp [dkT]) hd3.lp (.int .i64 ((0:Nat):Int))
   have c4:=hd4.p4;have f4:=hd4.fz 4;have hd5:=hd4.setFail (-1);have hk5:=hk4.setCell (o:=4) hd4.box (by simp [dkT]) hd4.lp (.int .i64 (-1))
   have HD5:Hid (QaT _ _ _ _ _ _ _ _):=hd5;have HK5:Hid (Qan _ _ _ _):=hk5;clear hd3 hk3 hd4 hk4 hd5 hk5 HD2 HK2;rw [Hcv.out] at c2;simp only [Int.natCast_zero] at HD5 HK5 c4 f4;go_wp2;go_end0
   refine ⟨rfl,?_,HK5.out⟩;rw [HCR.out];exact HD5.out
end
section
open Go.RowKit Go.Lib Go.Proofs.Tryz
def txt (l:List UInt8):ByteArray:=⟨l.toArray⟩
theorem strNums (l:List UInt8):strOfNums (l.map fun b=>(b.toNat:Int))=txt l:=by
 unfold strOfNums txt;congr 1;congr 1;rw [List.map_map]
 conv=>rhs;rw [← List.map_id l]
 apply List.map_congr_left;intro b _;simp
theorem run_str (W:World) (a:Option Addr) (l:List UInt8) (cap:Nat) (h:QcT W a l cap):(convert 29 9 (.slice a l.length cap)).run prog W=.ok (.string (txt l)) W:=by
 rcases h.lies with rfl | ⟨b,off,rfl,hlt,hc⟩
 ·cases a with
  | none=>exact run_convert_bytes_nil W 29 5 underlying29 underlying5 0 cap 9 underlying9
  | some ad=>
   rw [run_convert_bytes_string W 29 9 5 _ _ _ underlying29 underlying5 underlying9]
   have:=run_bytesToString (P:=prog) W ad 0 cap [] (by
    have:=run_loadCells_list (P:=prog) W ad [] (fun j v hj=>by simp at hj)
    simpa using this)
   exact this
 ·rw [run_convert_bytes_arg W 29 5 underlying29 underlying5 b off l.length cap (l.map fun b=>(b.toNat:Int)) (by simp) (fun i hi=>by
   rw [hc i hi];simp [List.getD,hi]) 9 underlying9,strNums]
theorem isBy_row {W:World} {g:Nat} {l:List UInt8} {t:TypeId} (h:W.heap[g]? = some (.cells (byC l).toArray t (0,0))) (m:Nat) (hm:m≤l.length) (cap:Nat) (hc:m≤cap):QcT W (some ⟨g,0,none⟩) (l.take m) cap:=by
 refine ⟨by rw [List.length_take];omega,.inr ⟨g,0,rfl,(Array.getElem?_eq_some_iff.1 h).1,fun k hk=>?_⟩⟩
 rw [List.length_take] at hk;rw [cell_of_row W g _ _ t (0,0) h]
 have:k<l.length:=by omega
 simp [byC,this]
def Tn (w W:World) (p nb sb:Nat) (cv:Value) (n:Nat) (D:Dk):Prop:=QaT W w.heap.size p nb sb cv n D∧Below w.heap.size w W
theorem Tn.still {w W U:World} {p nb sb:Nat} {cv:Value} {n:Nat} {D:Dk} (h:Tn w W p nb sb cv n D) (hs:Qbh W U):Tn w U p nb sb cv n D:=⟨h.1.still hs,h.2.trans (hs.below _)⟩
theorem Tn.below {w W U:World} {p nb sb:Nat} {cv:Value} {n:Nat} {D:Dk} (h:Tn w W p nb sb cv n D) (hs:Below W.heap.size W U):Tn w U p nb sb cv n D:=⟨h.1.below hs,h.2.trans (hs.mono h.2.size)⟩
theorem Tn.keeps {w W U:World} {p nb sb:Nat} {cv cv':Value} {n:Nat} {D D':Dk} (h:Tn w W p nb sb cv n D) (hd:QaT U w.heap.size p nb sb cv' n D') (hk:Qan w.heap.size dkT W U):Tn w U p nb sb cv' n D':=⟨hd,h.2.trans (hk.below h.2.size)⟩
section
variable {w W:World} {p nb sb:Nat} {cv:Value} {n:Nat} {D:Dk}
theorem tn_write (h:Tn w W p nb sb cv n D) (i:Nat) (a:Option Addr) (l:List UInt8) (cap:Nat) (hf:D.failing=false) (hi:i<n) (hl:l.length≤64) (hn:n≤200) (hs0:D.steps≤1000000) (hc0:D.chg.length≤1000000) (hB:QcT W a l cap) :
  Calls prog 65 #[.pointer (some ⟨p,0,none⟩),.int .i64 (i:Int),.slice a l.length cap] W fun e w'=>e=.returned .nilIface∧∃ cv',Hid (Tn w w' p nb sb cv' n (D.write i l))∧Hid (Qan w.heap.size dkT W w'):=by
 refine (write_ok w.heap.size p nb sb cv n D i a l cap W h.1 h.2.size hf hi hl hn hs0 hc0 hB).mono ?_;rintro e w' ⟨rfl,cv',hd,hk⟩;exact ⟨rfl,cv',h.keeps hd hk,hk⟩
theorem tn_writeBad (h:Tn w W p nb sb cv n D) (i:Int) (a:Option Addr) (l:List UInt8) (cap:Nat) (h0:wrBad D n i l≠0) :
  Calls prog 65 #[.pointer (some ⟨p,0,none⟩),.int .i64 i,.slice a l.length cap] W fun e w'=>e=.returned (enE (wrBad D n i l))∧Hid (Tn w w' p nb sb cv n D)∧Hid (Qbh W w'):=by
 refine (write_bad w.heap.size p nb sb cv n D i a l cap W h.1 h0).mono ?_;rintro e w' ⟨rfl,hs⟩;exact ⟨rfl,h.still hs,hs⟩
theorem tn_readTorn (h:Tn w W p nb sb cv n D) (i:Nat) (hi:i<n) (ht:(D.now.getD i bk0).torn=true) :
  Calls prog 69 #[.pointer (some ⟨p,0,none⟩),.int .i64 (i:Int)] W fun e w'=>e=.returned (.tuple #[.slice none 0 0,enE 9])∧Hid (Tn w w' p nb sb cv n D)∧Hid (Qbh W w'):=by
 refine (read_torn w.heap.size p nb sb cv n D i W h.1 hi ht).mono ?_;rintro e w' ⟨rfl,hs⟩;exact ⟨rfl,h.still hs,hs⟩
theorem tn_read (h:Tn w W p nb sb cv n D) (i:Nat) (hi:i<n) (ht:(D.now.getD i bk0).torn=false) :
  Calls prog 69 #[.pointer (some ⟨p,0,none⟩),.int .i64 (i:Int)] W fun e w'=>e=.returned (.tuple #[.slice (some ⟨W.heap.size,0,none⟩) 64 64,.nilIface])∧Hid (Tn w w' p nb sb cv n D)∧Hid (w'.heap[W.heap.size]? = some (.cells (byC (D.now.getD i bk0).byt).toArray 5 (0,0)))∧Hid (Below W.heap.size W w'):=by
 refine (read_ok w.heap.size p nb sb cv n D i W h.1 hi ht).mono ?_;rintro e w' ⟨rfl,h1,h2⟩;exact ⟨rfl,h.below h2,h1,h2⟩
theorem tn_crash (h:Tn w W p nb sb cv n D) (a:Option Addr) (keep:List Int) (cap:Nat) (torn:Int) (hc0:D.chg.length≤1000000) (hkl:keep.length≤9223372036854775807) (hin:IsIn W a keep cap) :
  Calls prog 12 #[.pointer (some ⟨p,0,none⟩),.slice a keep.length cap,.int .i64 torn] W fun e w'=>e=.returned (.tuple #[])∧Hid (Tn w w' p nb sb (.slice none 0 0) n (D.crash keep torn))∧Hid (Qan w.heap.size dkT W w'):=by
 refine (crash_any w.heap.size p nb sb cv n D a keep cap torn W h.1 h.2.size hc0 hkl hin).mono ?_;rintro e w' ⟨rfl,hh⟩;exact ⟨rfl,h.keeps hh.out.1 hh.out.2,hh.out.2⟩
end
theorem tn_new (n:Nat) (w:World) (h1:1≤n) (h2:n≤200) :
  Calls prog 7 #[.int .i64 (n:Int)] w fun e w'=>∃ p nb sb,e=.returned (.tuple #[.pointer (some ⟨p,0,none⟩),.nilIface])∧Hid (Tn w w' p nb sb (.slice none 0 0) n (dk0 n)):=by
 refine (new_ok n w h1 h2).mono ?_;rintro e w' ⟨p,nb,sb,rfl,hd,hb⟩;exact ⟨p,nb,sb,rfl,hd,hb⟩
end
section
open Go.RowKit Go.Proofs.Tryz
def encU (u:Nat):List UInt8:=if u<128 then [UInt8.ofNat u] else UInt8.ofNat (u % 128+128) :: encU (u / 128)
theorem Qeu {u:Nat} (h:u<128):encU u=[UInt8.ofNat u]:=by rw [encU,if_pos h]
theorem QfC {u:Nat} (h:128≤u):encU u=UInt8.ofNat (u % 128+128) :: encU (u / 128):=by rw [encU,if_neg (by omega)]
theorem encU_pos (u:Nat):1≤(encU u).length:=by
 rcases Nat.lt_or_ge u 128 with h | h
 ·rw [Qeu h];simp
 ·rw [QfC h];simp
theorem Qhj:∀ (f u:Nat),u<128 ^ (f+1)→(encU u).length≤f+1
 | 0,u,h=>by rw [Qeu (by omega)];simp
 | f+1,u,h=>by
  rcases Nat.lt_or_ge u 128 with h1 | h1
  ·rw [Qeu h1];simp
  ·rw [QfC h1,List.length_cons]
   have:=Qhj f (u / 128) (by rw [Nat.pow_succ] at h;omega)
   omega
def zig (n:Int):Nat:=if n<0 then (-2*n - 1).toNat else (2*n).toNat
def zag (u:Nat):Int:=if u % 2=1 then -((u / 2:Nat):Int) - 1 else ((u / 2:Nat):Int)
theorem zag_zig (n:Int):zag (zig n)=n:=by
 unfold zag zig;by_cases h:n<0
 ·rw [if_pos h,if_pos (by omega)];omega
 ·rw [if_neg h,if_neg (by omega)];omega
theorem zig_zag (u:Nat):zig (zag u)=u:=by
 unfold zag zig;by_cases h:u % 2=1
 ·rw [if_pos h,if_pos (by omega)];omega
 ·rw [if_neg h,if_neg (by omega)];omega
def Qd5 (n:Int):List UInt8:=encU (zig n)
theorem zig_lt {n:Int} (h1:-9223372036854775808≤n) (h2:n≤9223372036854775807):zig n<18446744073709551616:=by
 unfold zig;split <;> omega
theorem numB_length {n:Int} (h1:-9223372036854775808≤n) (h2:n≤9223372036854775807):(Qd5 n).length≤10:=
 Qhj 9 _ (by have:=zig_lt h1 h2;omega)
theorem numB_pos (n:Int):1≤(Qd5 n).length:=encU_pos _
def Qgn (s:ByteArray):List UInt8:=Qd5 s.size++s.data.toList
theorem QeN (s:ByteArray):s.data.toList.length=s.size:=by rw [Array.length_toList];rfl
theorem textB_length {s:ByteArray} (h:s.size≤24):(Qgn s).length≤34:=by
 have:=@numB_length s.size (by omega) (by omega)
 rw [Qgn,List.length_append,QeN];omega
def rdF:Nat→Bool→List UInt8→Option (Nat×List UInt8)
 | 0,_,_=>none
 | _+1,_,[]=>none
 | f+1,first,b :: r=>if 128≤b.toNat then (rdF f false r).map (fun x=>(b.toNat % 128+128*x.1,x.2)) else if b.toNat=0∧first=false then none else some (b.toNat,r)
theorem rdF_back:∀ (f:Nat) (q:Bool) (l:List UInt8) (u:Nat) (r:List UInt8),rdF f q l=some (u,r)→l=encU u++r∧(q=false→u≠0)
 | 0,_,_,_,_,h=>by simp [rdF] at h
 | f+1,q,[],_,_,h=>by simp [rdF] at h
 | f+1,q,b :: l,u,r,h=>by
  have hb:=b.toNat_lt;rw [rdF] at h;split at h
  ·rename_i h1
   cases hr:rdF f false l with
   | none=>simp [hr] at h
   | some x=>
    obtain ⟨u1,r1⟩:=x;obtain ⟨e,hn⟩:=rdF_back f false l u1 r1 hr;have hn:=hn rfl;simp [hr] at h;obtain ⟨rfl,rfl⟩:=h;have e1:(b.toNat % 128+128*u1) % 128+128=b.toNat:=by omega
    have e2:(b.toNat % 128+128*u1) / 128=u1:=by omega
    refine ⟨?_,fun _=>by omega⟩
    rw [QfC (by omega),e1,e2,e]
    simp
  ·rename_i h1;split at h
   ·cases h
   ·rename_i h2;simp at h;obtain ⟨rfl,rfl⟩:=h;refine ⟨?_,fun hq h0=>h2 ⟨h0,hq⟩⟩
    rw [Qeu (by omega)]
    simp
theorem rdF_enc:∀ (f:Nat) (q:Bool) (u:Nat) (r:List UInt8),u<128 ^ f→(q=false→u≠0)→1≤f→rdF f q (encU u++r)=some (u,r)
 | 0,_,_,_,_,_,hf=>absurd hf (by omega)
 | f+1,q,u,r,h,hq,_=>by
  rcases Nat.lt_or_ge u 128 with h1 | h1
  ·have e:(UInt8.ofNat u).toNat=u:=by simp;omega
   rw [Qeu h1,List.singleton_append,rdF,e,if_neg (by omega),if_neg (fun hh=>hq hh.2 hh.1)]
  ·have e:(UInt8.ofNat (u % 128+128)).toNat=u % 128+128:=by simp;omega
   rw [QfC h1,List.cons_append,rdF,e,if_pos (by omega)]
   have hf:1≤f:=by
    rcases f with _ | f
    ·simp at h;omega
    ·omega
   rw [rdF_enc f false (u / 128) r (by rw [Nat.pow_succ] at h;omega) (fun _=>by omega) hf]
   simp;omega
def rdN (lo hi:Int) (l:List UInt8):Option (Int×List UInt8):=
 match rdF 9 true l with
 | none=>none
 | some (u,r)=>if lo≤zag u∧zag u≤hi then some (zag u,r) else none
theorem rdN_back {lo hi:Int} {l r:List UInt8} {n:Int} (h:rdN lo hi l=some (n,r)):l=Qd5 n++r∧lo≤n∧n≤hi:=by
 unfold rdN at h
 cases hr:rdF 9 true l with
 | none=>simp [hr] at h
 | some x=>
  obtain ⟨u,r1⟩:=x;simp only [hr] at h;split at h
  ·rename_i h1;simp at h;obtain ⟨rfl,rfl⟩:=h;exact ⟨by rw [Qd5,zig_zag];exact (rdF_back 9 true l u r1 hr).1,h1.1,h1.2⟩
  ·cases h
theorem rdN_enc {lo hi n:Int} (r:List UInt8) (h1:lo≤n) (h2:n≤hi) (h3:-4611686018427387904≤n) (h4:n≤4611686018427387903):rdN lo hi (Qd5 n++r)=some (n,r):=by
 unfold rdN Qd5;rw [rdF_enc 9 true (zig n) r (by unfold zig;split <;> omega) (fun h=>by cases h) (by omega)]
 simp only [zag_zig];rw [if_pos ⟨h1,h2⟩]
theorem txt_size (l:List UInt8):(txt l).size=l.length:=by simp [txt,ByteArray.size]
theorem txt_data (l:List UInt8):(txt l).data.toList=l:=by simp [txt]
theorem data_txt (s:ByteArray):txt s.data.toList=s:=by simp [txt]
def rdT (l:List UInt8):Option (ByteArray×List UInt8):=
 match rdN 0 24 l with
 | none=>none
 | some (n,r)=>if n.toNat≤r.length then some (txt (r.take n.toNat),r.drop n.toNat) else none
theorem rdT_back {l r:List UInt8} {s:ByteArray} (h:rdT l=some (s,r)):l=Qgn s++r∧s.size≤24:=by
 unfold rdT at h
 cases hr:rdN 0 24 l with
 | none=>simp [hr] at h
 | some x=>
  obtain ⟨n,r1⟩:=x;obtain ⟨e,h1,h2⟩:=rdN_back hr;simp only [hr] at h;split at h
  ·rename_i h3;simp at h;obtain ⟨rfl,rfl⟩:=h;have hsz:(txt (r1.take n.toNat)).size=n.toNat:=by rw [txt_size,List.length_take];omega
   refine ⟨?_,by rw [hsz];omega⟩
   unfold Qgn;rw [hsz,txt_data,show ((n.toNat:Nat):Int)=n by omega,List.append_assoc,List.take_append_drop]
   exact e
  ·cases h
theorem rdT_enc {s:ByteArray} (r:List UInt8) (h:s.size≤24):rdT (Qgn s++r)=some (s,r):=by
 unfold rdT Qgn;rw [List.append_assoc,rdN_enc _ (by omega) (by omega) (by omega) (by omega)]
 simp only [Int.toNat_natCast];have hl:=QeN s;rw [if_pos (by rw [List.length_append,hl];omega),← hl,List.take_left,List.drop_left,data_txt]
end
section
open Go.RowKit Go.Lib Go.Proofs.Tryz
def Qaq (w:World) (n:Nat) (v:Value) (l:List UInt8):Prop:=w.ownsRow n 5 1 v l.length (byC l)
theorem Qaq.nil (w:World) (n:Nat):Qaq w n (.slice none 0 0) []:=World.ownsRow_nil _ _ _ _
theorem Qaq.isBy {W:World} {n0:Nat} {v:Value} {l:List UInt8} (h:Qaq W n0 v l):∃ a cap,v=.slice a l.length cap∧QcT W a l cap:=by
 obtain ⟨hlen,⟨rfl,h0⟩ | ⟨g,cap,cur,rfl,hb,hg,hc,hm,hs,ht⟩⟩:=h
 ·have:l=[]:=List.eq_nil_of_length_eq_zero h0
  subst this;exact ⟨none,0,rfl,Nat.le_refl _,.inl rfl⟩
 ·refine ⟨_,cap,rfl,hc,.inr ⟨g,0,rfl,(Array.getElem?_eq_some_iff.1 hg).1,?_⟩⟩;intro k hk;have e1:(byC l)[k]? = cur[k]?:=by
   rw [← ht,List.getElem?_take,if_pos (by omega)]
   simp
  rw [← Qb0 l k hk,e1];simp [World.cell?,hg]
theorem u8_tinfo:∃ q,prog.info? 5=some q∧q.zero=some (.int .u8 0)∧q.size=1∧q.bytes=1:=by
 obtain ⟨q,hq,hz⟩:=Option.map_eq_some_iff.1 u8_info;simp only [Prod.mk.injEq] at hz;exact ⟨q,hq,hz.1,hz.2.1,hz.2.2⟩
theorem Qc9 {D:Dk} (h:D.fail<0):D.failing=false:=by
 unfold Dk.failing;exact decide_eq_false (by omega)
theorem tn_flush {w W:World} {p nb sb:Nat} {cv:Value} {n:Nat} {D:Dk} (h:Tn w W p nb sb cv n D) (hf:D.failing=false) (hs0:D.steps≤1000000) :
  Calls prog 64 #[.pointer (some ⟨p,0,none⟩)] W fun e w'=>e=.returned .nilIface∧Hid (Tn w w' p nb sb (.slice none 0 0) n D.flush)∧Hid (Qan w.heap.size dkT W w'):=by
 refine (flush_ok w.heap.size p nb sb cv n D W h.1 hf hs0).mono ?_;rintro e w' ⟨rfl,hd,hk⟩;exact ⟨rfl,h.keeps hd hk,hk⟩
theorem Qaq.below {w W:World} {n0:Nat} {v:Value} {l:List UInt8} (h:Qaq w n0 v l) (hb:Below w.heap.size w W):Qaq W n0 v l:=
 Qa0 h (fun b cs e _=>hb.block b (Array.getElem?_eq_some_iff.1 e).1)
end
end Go.Proofs.YtjifbbdkpanagaaGreatDoor
