/-
  Part of a proof (see the last text).
-/
import Derived.Test.YtjifbbdkpanagaaGreatDoorZd35
import Derived.Deep.WholeRow
set_option linter.unusedVariables false
set_option linter.unusedSimpArgs false
set_option maxRecDepth 100000
namespace Go.Proofs.YtjifbbdkpanagaaGreatDoor
section
open Go.RowKit Go.Lib Go.Proofs.Tryz
section
variable {w w':World} {lo p nb sb:Nat} {cv:Value} {n:Nat} {D:Dk}
theorem QaT.alloc (h:QaT w lo p nb sb cv n D) (o:Obj):QaT (w.alloc o) lo p nb sb cv n D:=h.below ((Below.refl _ w).alloc (Nat.le_refl _) o)
theorem QaT.drew (h:QaT w lo p nb sb cv n D):QaT w.drew lo p nb sb cv n D:=h.still (Qbh.drew w)
theorem QaT.pnb (h:QaT w lo p nb sb cv n D):p≠nb:=fun e=>by
 have h1:=h.box;rw [e,h.now] at h1;simp at h1
theorem QaT.psb (h:QaT w lo p nb sb cv n D):p≠sb:=fun e=>by
 have h1:=h.box;rw [e,h.safe] at h1;simp at h1
theorem QaT.pcv (h:QaT w lo p nb sb cv n D) (j:Nat) (hj:cv.ownBlock=some j):j≠p∧j≠nb∧j≠sb∧lo≤j∧∃ cs,w.heap[j]? = some (.cells cs 97 (0,0)):=by
 rcases h.chg.2 with ⟨rfl,_⟩ | ⟨g1,c1,cur,rfl,hb1,hh,r⟩
 ·cases hj
 ·cases hj;refine ⟨fun e=>?_,fun e=>?_,fun e=>?_,hb1,_,hh⟩
  ·simp only at e;subst e;rw [h.box] at hh;simp at hh
  ·simp only at e;subst e;rw [h.now] at hh;simp at hh
  ·simp only at e;subst e;rw [h.safe] at hh;simp at hh
theorem QaT.setNow (h:QaT w lo p nb sb cv n D) (l:List Bk) (hl:l.length=n) (ho:∀ x∈l,x.ok):QaT (w.setRow nb (Qau Bk.cells l).toArray) lo p nb sb cv n { D with now:=l }:=
 ⟨(setRow_other _ _ _ _ h.pnb).trans h.box,setRow_heap w nb _ _ _ _ h.now,(setRow_other _ _ _ _ (fun e=>h.ne e.symm)).trans h.safe,h.ne,h.lp,h.ln,h.ls,
  Qa0 h.chg (fun b cs e _=>setRow_other _ _ _ _ (fun eb=>by subst eb;rw [h.now] at e;simp at e)),⟨hl,h.ok.safeL,ho,h.ok.safeO,h.ok.chgO⟩⟩
theorem QaT.setSafe (h:QaT w lo p nb sb cv n D) (l:List Bk) (hl:l.length=n) (ho:∀ x∈l,x.ok):QaT (w.setRow sb (Qau Bk.cells l).toArray) lo p nb sb cv n { D with safe:=l }:=
 ⟨(setRow_other _ _ _ _ h.psb).trans h.box,(setRow_other _ _ _ _ h.ne).trans h.now,setRow_heap w sb _ _ _ _ h.safe,h.ne,h.lp,h.ln,h.ls,
  Qa0 h.chg (fun b cs e _=>setRow_other _ _ _ _ (fun eb=>by subst eb;rw [h.safe] at e;simp at e)),⟨h.ok.nowL,hl,h.ok.nowO,ho,h.ok.chgO⟩⟩
theorem box_set {b:Nat} {v0 v1 v2 v3 v4:Value} {t:TypeId} (h:w.heap[b]? = some (.cells #[v0,v1,v2,v3,v4] t (0,0))) (o:Nat) (v:Value):(w.setCell ⟨b,o,none⟩ v).heap[b]? = some (.cells (#[v0,v1,v2,v3,v4].setIfInBounds o v) t (0,0)):=by
 rw [setCell_eq_setRow w b o _ t (0,0) _ h,setRow_heap w b _ _ t (0,0) h]
theorem QaT.setP (h:QaT w lo p nb sb cv n D) (o:Nat) (v:Value) (cv':Value) (D':Dk) (hb:(#[.slice (some ⟨nb,0,none⟩) n n,.slice (some ⟨sb,0,none⟩) n n,cv,.int .i64 (D.steps:Int),.int .i64 D.fail]:Array Value).setIfInBounds o v=#[.slice (some ⟨nb,0,none⟩) n n,.slice (some ⟨sb,0,none⟩) n n,cv',.int .i64 (D'.steps:Int),.int .i64 D'.fail])
  (h1:D'.now=D.now) (h2:D'.safe=D.safe) (h3:(w.setCell ⟨p,o,none⟩ v).ownsRow lo 97 66 cv' D'.chg.length (Qau Cg.cells D'.chg)) (h4:D'.ok n):QaT (w.setCell ⟨p,o,none⟩ v) lo p nb sb cv' n D':=
 ⟨(box_set h.box o v).trans (by rw [hb]),by rw [h1];exact (Below.heap_setCell _ _ _ _ (fun e=>h.pnb e.symm)).trans h.now,by rw [h2];exact (Below.heap_setCell _ _ _ _ (fun e=>h.psb e.symm)).trans h.safe,h.ne,h.lp,h.ln,h.ls,h3,h4⟩
theorem QaT.chgP (h:QaT w lo p nb sb cv n D) (o:Nat) (v:Value):(w.setCell ⟨p,o,none⟩ v).ownsRow lo 97 66 cv D.chg.length (Qau Cg.cells D.chg):=
 Qa0 h.chg (fun b cs e _=>Below.heap_setCell _ _ _ _ (fun eb=>by simp only at eb;subst eb;rw [h.box] at e;simp at e))
theorem QaT.setSteps (h:QaT w lo p nb sb cv n D) (s:Nat):QaT (w.setCell ⟨p,3,none⟩ (.int .i64 (s:Int))) lo p nb sb cv n { D with steps:=s }:=
 h.setP 3 _ cv _ rfl rfl rfl (h.chgP 3 _) ⟨h.ok.nowL,h.ok.safeL,h.ok.nowO,h.ok.safeO,h.ok.chgO⟩
theorem QaT.setFail (h:QaT w lo p nb sb cv n D) (f:Int):QaT (w.setCell ⟨p,4,none⟩ (.int .i64 f)) lo p nb sb cv n { D with fail:=f }:=
 h.setP 4 _ cv _ rfl rfl rfl (h.chgP 4 _) ⟨h.ok.nowL,h.ok.safeL,h.ok.nowO,h.ok.safeO,h.ok.chgO⟩
theorem QaT.setNone (h:QaT w lo p nb sb cv n D):QaT (w.setCell ⟨p,2,none⟩ (.slice none 0 0)) lo p nb sb (.slice none 0 0) n { D with chg:=[] }:=
 h.setP 2 _ (.slice none 0 0) _ rfl rfl rfl (World.ownsRow_nil _ _ _ _) ⟨h.ok.nowL,h.ok.safeL,h.ok.nowO,h.ok.safeO,by simp⟩
theorem QaT.more (h:QaT w lo p nb sb cv n D) (c:Cg) (hc:c.tgt.ok∧c.at_<n) (v:Value) (hg:w.grownBy w' cv.ownBlock) (hr:w'.ownsRow lo 97 66 v (D.chg.length+1) (Qau Cg.cells D.chg++c.cells)) :
  QaT (w'.setCell ⟨p,2,none⟩ v) lo p nb sb v n { D with chg:=D.chg++[c] }:=by
 have g1:w'.heap[p]? = w.heap[p]?:=hg.block p h.lt (fun e=>(h.pcv p e.symm).1 rfl)
 have g2:w'.heap[nb]? = w.heap[nb]?:=hg.block nb (Array.getElem?_eq_some_iff.1 h.now).1 (fun e=>(h.pcv nb e.symm).2.1 rfl)
 have g3:w'.heap[sb]? = w.heap[sb]?:=hg.block sb (Array.getElem?_eq_some_iff.1 h.safe).1 (fun e=>(h.pcv sb e.symm).2.2.1 rfl)
 have b1:=g1.trans h.box;refine ⟨(box_set b1 2 v).trans rfl,(Below.heap_setCell _ _ _ _ (fun e=>h.pnb e.symm)).trans (g2.trans h.now),(Below.heap_setCell _ _ _ _ (fun e=>h.psb e.symm)).trans (g3.trans h.safe),h.ne,h.lp,h.ln,h.ls,?_,⟨h.ok.nowL,h.ok.safeL,h.ok.nowO,h.ok.safeO,?_⟩⟩
 ·have e:Qau Cg.cells (D.chg++[c])=Qau Cg.cells D.chg++c.cells:=by rw [Qcb,rowOf_one]
  show (w'.setCell ⟨p,2,none⟩ v).ownsRow lo 97 66 v (D.chg++[c]).length (Qau Cg.cells (D.chg++[c]));rw [e,List.length_append,List.length_singleton];exact Qa0 hr (fun b cs e _=>Below.heap_setCell _ _ _ _ (fun eb=>by simp only at eb;subst eb;rw [b1] at e;simp at e))
 ·intro x hx;rcases List.mem_append.1 hx with hx | hx
  ·exact h.ok.chgO x hx
  ·rw [List.mem_singleton.1 hx];exact hc
end
theorem Qan.setCell {lo:Nat} {T:List TypeId} {V W:World} {b o:Nat} {cs:Array Value} {t:TypeId} (h:Qan lo T V W) (hb:W.heap[b]? = some (.cells cs t (0,0))) (ht:t∈T) (hl:lo≤b) (v:Value):Qan lo T V (W.setCell ⟨b,o,none⟩ v):=by
 rw [setCell_eq_setRow W b o cs t (0,0) v hb];exact h.setRow hb ht hl _
theorem getD_ok {l:List Bk} (h:∀ x∈l,x.ok) (i:Nat):(l.getD i bk0).ok:=by
 by_cases hi:i<l.length
 ·rw [List.getD_eq_getElem?_getD,List.getElem?_eq_getElem hi];exact h _ (List.getElem_mem hi)
 ·rw [List.getD_eq_getElem?_getD,List.getElem?_eq_none (by omega)];exact Qej
theorem row_range {w:World} {g:Nat} {l:List Bk} {t:TypeId} (h:w.heap[g]? = some (.cells (Qau Bk.cells l).toArray t (0,0))) (ho:∀ x∈l,x.ok) (i:Nat) (hi:i<l.length):w.rangeAt g (i*65) (l.getD i bk0).cells:=by
 intro j v hv;have hj:j<65:=by
  have:=(List.getElem?_eq_some_iff.1 hv).1
  rw [Bk.cells_length (getD_ok ho i)] at this;exact this
 have e:=Qfa Bk.cells 65 l i j hi (fun x hx=>Bk.cells_length (ho x hx)) hj
 rw [List.getD_eq_getElem?_getD,List.getElem?_eq_getElem hi] at hv;rw [cell_of_row w g _ _ t (0,0) h];simp only [List.getElem?_toArray];rw [e];exact hv
theorem QcJ:(prog.info? 95).map (·.size)=some 65:=by kernel_rfl
theorem Qda:(prog.info? 97).map (·.size)=some 66:=by kernel_rfl
theorem Qhf {w:World} {g:Nat} {l:List Bk} {t:TypeId} (h:w.heap[g]? = some (.cells (Qau Bk.cells l).toArray t (0,0))) (ho:∀ x∈l,x.ok) (i:Nat) (hi:i<l.length) (x:Bk) (hx:x.ok) :
  (Instr.storeAt 95 (.pointer (some ⟨g,i*65,none⟩)) (.agg x.cells.toArray)).run prog w=.ok () (w.setRow g (Qau Bk.cells (l.set i x)).toArray):=by
 have hL:=Qbu Bk.cells 65 l (fun y hy=>Bk.cells_length (ho y hy))
 have:=run_storeCells_at prog g (i*65) t x.cells 0 (Qau Bk.cells l).toArray w h (by rw [Bk.cells_length hx,List.size_toArray,hL];omega) x.cells_one
 rw [Nat.add_zero,Bk.cells_length hx,rowOf_set Bk.cells 65 l i x (fun y hy=>Bk.cells_length (ho y hy)) hi] at this
 cases hq:prog.info? 95 with
 | none=>have:=QcJ;simp [hq] at this
 | some q=>
  have hs:q.size=65:=by have:=QcJ;simpa [hq] using this
  simp [Instr.storeAt,Instr.sureAddr,storeVar,sizeOf,typeInfo,hq,Value.cells,hs,Bk.cells_length hx,this]
end
section
open Go.RowKit Go.Lib Go.Proofs.Tryz
structure QcT (w:World) (a:Option Addr) (l:List UInt8) (cap:Nat):Prop where
 cap:l.length≤cap
 lies:l=[]∨∃ b off,a=some ⟨b,off,none⟩∧b<w.heap.size∧∀ k (h:k<l.length),w.cell? ⟨b,off+k,none⟩=some (.int .u8 (l[k]'h).toNat)
theorem QcT.below {w w':World} {a:Option Addr} {l:List UInt8} {cap:Nat} (h:QcT w a l cap) (hb:Below w.heap.size w w'):QcT w' a l cap:=by
 refine ⟨h.cap,?_⟩;rcases h.lies with h | ⟨b,off,e,hlt,hc⟩
 ·exact .inl h
 ·exact .inr ⟨b,off,e,by have:=hb.size;omega,fun k hk=>(hb.cell (p:=⟨b,off+k,none⟩) hlt).trans (hc k hk)⟩
def QdN (l:List UInt8):List UInt8:=l++List.replicate (64 - l.length) 0
theorem QeI (l:List UInt8) (h:l.length≤64):(QdN l).length=64:=by simp [QdN];omega
def Dk.write (D:Dk) (i:Nat) (l:List UInt8):Dk:=⟨D.now.set i ⟨QdN l,false⟩,D.safe,D.chg++[⟨i,⟨QdN l,false⟩⟩],D.steps+1,D.fail⟩
def wrBad (D:Dk) (n:Nat) (i:Int) (l:List UInt8):Int:=if D.failing=true then 7 else if hasK n i=false then 1 else if 64<l.length then 4 else 0
theorem u8_one:(prog.info? 5).map (·.size)=some 1:=by kernel_rfl
theorem QgY:(prog.info? 97).map (·.zero)=some (some (.agg cg0.cells.toArray)):=by kernel_rfl
theorem QfX (w:World):(Instr.alloc 97 true (.tuple #[])).run prog w=.ok (.pointer (some ⟨w.heap.size,0,none⟩)) (w.alloc (.cells cg0.cells.toArray 97)):=by
 cases hq:prog.info? 97 with
 | none=>have:=QgY;simp [hq] at this
 | some q=>
  have hz:q.zero=some (.agg cg0.cells.toArray):=by have:=QgY;simpa [hq] using this
  simp [Instr.alloc,zeroValue,typeInfo,hq,hz,newVar,newRow,Value.cells]
theorem build_change (i:Nat) (w:World):(Instr.build 97 #[(0,.int .i64 (i:Int))]).run prog w=.ok (.agg (Cg.mk i bk0).cells.toArray) w:=by
 refine run_build w 97 _ _ ?_
 kernel_rfl
theorem copy_change (W:World) (i:Nat) (a:Option Addr) (l:List UInt8) (cap:Nat) (h:QcT W a l cap) (hl:l.length≤64) (ty:TypeId) :
  (Builtin.copy_ #[29,29] ty #[.slice (some ⟨W.heap.size,1,none⟩) 64 64,.slice a l.length cap]).run prog (W.alloc (.cells (Cg.mk i bk0).cells.toArray 97)) =
   .ok (goInt l.length) (W.alloc (.cells (Cg.mk i ⟨QdN l,false⟩).cells.toArray 97)):=by
 by_cases h0:l.length=0
 ·have e:l=[]:=List.eq_nil_of_length_eq_zero h0;subst e;exact run_copy_none (P:=prog) _ 29 29 ty 5 _ _ _ _ _ _ underlying29 u8_one (by simp)
 ·rcases h.lies with e | ⟨b,off,rfl,hlt,hc⟩
  ·subst e;simp at h0
  have hL:(byC l).length=l.length:=Qaf l
  have:=run_copy_row prog (W.alloc (.cells (Cg.mk i bk0).cells.toArray 97)) 29 29 ty 5 W.heap.size 1 64 64 ⟨b,off,none⟩ l.length cap (Cg.mk i bk0).cells.toArray 97 (byC l) underlying29 u8_one
   (Qai W _) (by rw [hL];simp only [Nat.min_def];rw [if_pos hl]) (fun j v hj=>by
    have hjl:j<l.length:=by
     rw [← hL];exact (List.getElem?_eq_some_iff.1 hj).1
    rw [Addr.add_mid,World.cell?_alloc_lt _ _ _ hlt,hc j hjl];rw [Qb0 l j hjl] at hj;exact hj) (by rw [hL,List.size_toArray,Cg.cells_length Qej];omega) (QfI l)
  rw [this,hL,World.setRow_alloc_new];congr 4;have e1:(Cg.mk i bk0).cells=.int .i64 (i:Int) :: (byC (List.replicate 64 0)++[.bool false]):=rfl;have e2:(Cg.mk i ⟨QdN l,false⟩).cells=.int .i64 (i:Int) :: (byC (QdN l)++[.bool false]):=rfl;have e3:(byC (List.replicate 64 0)++[Value.bool false]).drop l.length=byC (List.replicate (64 - l.length) 0)++[Value.bool false]:=by
   rw [List.drop_append_of_le_length (by rw [Qaf,List.length_replicate];exact hl)]
   simp only [byC,List.map_replicate,List.drop_replicate]
  rw [e1,e2];simp only [List.take_succ_cons,List.take_zero,Nat.add_comm 1,List.drop_succ_cons,e3];simp [QdN,QbJ]
theorem write_bad (lo p nb sb:Nat) (cv:Value) (n:Nat) (D:Dk) (i:Int) (a:Option Addr) (l:List UInt8) (cap:Nat) (w:World) (h:QaT w lo p nb sb cv n D) (h0:wrBad D n i l≠0) :
  Calls prog 65 #[.pointer (some ⟨p,0,none⟩),.int .i64 i,.slice a l.length cap] w fun e w'=>e=.returned (enE (wrBad D n i l))∧Qbh w w':=by
 rw [QaF h0];have HF:Hid (Calls _ _ _ _ _):=Qc8 lo p nb sb cv n D w h;have HH:Hid (∀ w',Qbh w w'→Calls _ _ _ _ _):=fun w' hs=>has_any lo p nb sb cv n D i w' (h.still hs)
 clear h;unfold wrBad at h0 ⊢;by_cases hf:D.failing=true
 ·rw [if_pos hf];rw [hf] at HF;clear HH h0;go_enter func65,ntmps65
  go_wp2_with fail;refine HF.out.mono ?_;rintro e w1 ⟨rfl,hs⟩;clear HF;go_wp2;go_ret;exact ⟨rfl,hs⟩
 ·rw [if_neg hf] at h0 ⊢;have hf':D.failing=false:=by simpa using hf
  rw [hf'] at HF;by_cases hh:hasK n i=false
  ·rw [if_pos hh];rw [hh] at HH;clear h0 hf hf';go_enter func65,ntmps65
   go_wp2_with fail;refine HF.out.mono ?_;rintro e w1 ⟨rfl,hs⟩;clear HF;go_wp2_with fail;refine (HH.out w1 hs).mono ?_;rintro e w2 ⟨rfl,hs2⟩;clear HH;go_wp2;go_ret;exact ⟨rfl,⟨hs2.os.trans hs.os,hs2.tape.trans hs.tape,hs2.output.trans hs.output,hs2.heap.trans hs.heap⟩⟩
  ·rw [if_neg hh] at h0 ⊢;have hh':hasK n i=true:=by simpa using hh
   rw [hh'] at HH;by_cases hl:64<l.length
   ·rw [if_pos hl];have hl':(64:Int)<l.length:=by omega
    clear h0 hf hf' hh hh';go_enter func65,ntmps65
    go_wp2_with fail;refine HF.out.mono ?_;rintro e w1 ⟨rfl,hs⟩;clear HF;go_wp2_with fail;refine (HH.out w1 hs).mono ?_;rintro e w2 ⟨rfl,hs2⟩;clear HH;go_wp2;go_ret;exact ⟨rfl,⟨hs2.os.trans hs.os,hs2.tape.trans hs.tape,hs2.output.trans hs.output,hs2.heap.trans hs.heap⟩⟩
   ·rw [if_neg hl] at h0;exact absurd rfl h0
theorem change_tinfo:∃ q,prog.info? 97=some q∧q.zero=some (.agg cg0.cells.toArray)∧q.size=66∧q.bytes=80:=by
 have h:(prog.info? 97).map (fun i=>(i.zero,i.size,i.bytes))=some (some (.agg cg0.cells.toArray),66,80):=by kernel_rfl
 obtain ⟨q,hq,hz⟩:=Option.map_eq_some_iff.1 h;simp only [Prod.mk.injEq] at hz;exact ⟨q,hq,hz.1,hz.2.1,hz.2.2⟩
theorem change_range {u:World} {B:Nat} {c:Cg} {t:TypeId} (h:u.heap[B]? = some (.cells c.cells.toArray t (0,0))):u.rangeAt B 1 c.tgt.cells:=by
 intro j v hv;rw [cell_of_row u B _ _ t (0,0) h];simpa [Cg.cells,Nat.add_comm 1] using hv
theorem change_range0 {u:World} {B:Nat} {c:Cg} {t:TypeId} (h:u.heap[B]? = some (.cells c.cells.toArray t (0,0))):u.rangeAt B 0 c.cells:=by
 intro j v hv;rw [cell_of_row u B _ _ t (0,0) h];simpa using hv
theorem load_to {u:World} {B:Nat} {c:Cg} {t:TypeId} (hc:c.tgt.ok) (h:u.heap[B]? = some (.cells c.cells.toArray t (0,0))) :
  (Instr.loadAt 95 (.pointer (some ⟨B,1,none⟩))).run prog u=.ok (.agg c.tgt.cells.toArray) u:=
 run_loadAt_mid u B 1 95 _ _ (change_range h) underlying95 rfl (by rw [Bk.cells_length hc];exact QcJ)
theorem load_change {u:World} {B:Nat} {c:Cg} {t:TypeId} (hc:c.tgt.ok) (h:u.heap[B]? = some (.cells c.cells.toArray t (0,0))) :
  (Instr.loadAt 97 (.pointer (some ⟨B,0,none⟩))).run prog u=.ok (.agg c.cells.toArray) u:=
 run_loadAt_mid u B 0 97 _ _ (change_range0 h) underlying97 rfl (by rw [Cg.cells_length hc];exact Qda)
set_option maxHeartbeats 4000000 in
theorem write_ok (lo p nb sb:Nat) (cv:Value) (n:Nat) (D:Dk) (i:Nat) (a:Option Addr) (l:List UInt8) (cap:Nat) (w:World) (h:QaT w lo p nb sb cv n D) (hlo:lo≤w.heap.size) (hf:D.failing=false) (hi:i<n) (hl:l.length≤64) (hn:n≤200) (hs0:D.steps≤1000000) (hc0:D.chg.length≤1000000) (hB:QcT w a l cap) :
  Calls prog 65 #[.pointer (some ⟨p,0,none⟩),.int .i64 (i:Int),.slice a l.length cap] w fun e w'=>e=.returned .nilIface∧∃ cv',QaT w' lo p nb sb cv' n (D.write i l)∧Qan lo dkT w w':=by
 have HF:Hid (Calls _ _ _ _ _):=Qc8 lo p nb sb cv n D w h;have HH:Hid (∀ w',Qbh w w'→Calls _ _ _ _ _):=fun w' hs=>has_any lo p nb sb cv n D (i:Int) w' (h.still hs)
 have hh:hasK n (i:Int)=true:=by simp [hasK];omega
 rw [hf] at HF;rw [hh] at HH;have HD:Hid (QaT w lo p nb sb cv n D):=h;have HBy:Hid (QcT w a l cap):=hB;have i0:(0:Int)≤i:=by omega
 have i1:(i:Int)<n:=by omega
 have l1:¬ (64:Int)<l.length:=by omega
 have hbd:=build_change i;have hal:=QfX;have hstn:=fun W=>run_storeAt_new (P:=prog) W 97 cg0.cells.toArray (Cg.mk i bk0).cells.toArray (by rw [List.size_toArray,Cg.cells_length Qej];exact Qda) (by rw [List.size_toArray,List.size_toArray,Cg.cells_length Qej,Cg.cells_length Qej]) (all_oneCell_toArray (Cg.cells_one _))
 have Hcp:Hid (∀ W,Qbh w W→∀ ty,_):=fun W hs ty=>copy_change W i a l cap (hB.below (hs.below _)) hl ty
 generalize (Cg.mk i bk0).cells.toArray=C1 at *
 generalize cg0.cells.toArray=C0 at *
 clear h hB hf hh;go_enter func65,ntmps65
 go_wp2_with fail;refine HF.out.mono ?_;rintro e w1 ⟨rfl,hs⟩;clear HF;go_wp2_with fail;refine (HH.out w1 hs).mono ?_;rintro e w2 ⟨rfl,hs2⟩;clear HH;have hs3:Qbh w w2:=⟨hs2.os.trans hs.os,hs2.tape.trans hs.tape,hs2.output.trans hs.output,hs2.heap.trans hs.heap⟩;have hcp:=Hcp.out w2 hs3;have HS3:Hid (Qbh w w2):=hs3;clear hs hs2 hs3 Hcp;go_wp2_with (first | (refine Qbj rfl 97 #[(0,.tmp 20)] rfl #[(0,.int .i64 (i:Int))] (by simp [Act.eval]) (hbd _) ?_) | (refine Qae rfl 97 rfl (hal _) ?_) | (refine Qac rfl 97 _ _ rfl _ _ rfl rfl (hstn _) ?_) | (refine QdK rfl _ _ _ _ rfl _ _ rfl rfl (hcp _) ?_))
 have ho2:(Cg.mk i ⟨QdN l,false⟩).tgt.ok:=QeI l hl;have hd3:QaT (w2.alloc (.cells (Cg.mk i ⟨QdN l,false⟩).cells.toArray 97)) lo p nb sb cv n D:=(HD.out.still HS3.out).alloc _;have hk3:Qan lo dkT w (w2.alloc (.cells (Cg.mk i ⟨QdN l,false⟩).cells.toArray 97)):=(HS3.out.keeps _ _).alloc _;have hb3:=Qai w2 (.cells (Cg.mk i ⟨QdN l,false⟩).cells.toArray 97);have hB3:lo≤w2.heap.size:=by have:=HS3.out.heap;rw [this];exact hlo
 generalize hc2:Cg.mk i ⟨QdN l,false⟩=c at *
 generalize w2.alloc (.cells c.cells.toArray 97)=W3 at *
 generalize w2.heap.size=B at *
 have e1:c.at_=i:=by rw [← hc2]
 have e2:c.tgt=⟨QdN l,false⟩:=by rw [← hc2]
 have c0:=hd3.p0;have hld1:(Instr.loadAt 95 (.pointer (some ⟨B,1,none⟩))).run prog W3.drew=.ok (.agg c.tgt.cells.toArray) W3.drew:=load_to ho2 hb3;have hst1:=Qhf (w:=W3.drew) (g:=nb) hd3.drew.now hd3.ok.nowO i (by rw [hd3.ok.nowL];exact hi) c.tgt ho2
 have HD3:Hid (QaT W3 lo p nb sb cv n D):=hd3;have HK3:Hid (Qan lo dkT w W3):=hk3;have HB3:Hid (W3.heap[B]? = some (.cells c.cells.toArray 97 (0,0))):=hb3;have HO2:Hid c.tgt.ok:=ho2;have HE:Hid (c=Cg.mk i ⟨QdN l,false⟩):=hc2.symm;generalize hX:c.tgt.cells.toArray=X at *
 generalize hR:Qau Bk.cells (D.now.set i c.tgt)=R at *
 have HR:Hid (Qau Bk.cells (D.now.set i c.tgt)=R):=hR;clear hR;clear hd3 hk3 hb3 hbd hal hstn hcp HS3 HBy HD ho2 hc2 e1 e2 hX;simp only [Act.put,List.setIfInBounds_toArray,List.set_cons_zero,List.set_cons_succ];refine Qab (by kernel_rfl) ?_
 refine wpAny_take (i:=0) (v:=.pointer (some ⟨p,0,none⟩)) rfl (by kernel_rfl) (by kernel_rfl) (by kernel_rfl) (fun _ _ _ h=>h) (Or.inl ⟨by rfl,fun w=>by go_simp⟩) ?_
 simp only [Act.put,zq0,zq1,zq2,zq3,zq4,zq5];refine wpAny_take (i:=1) (v:=.pointer (some ⟨p,0,none⟩)) rfl (by kernel_rfl) (by kernel_rfl) (by kernel_rfl) (fun _ _ _ h=>h) (Or.inl ⟨by rfl,fun w=>by go_simp⟩) ?_
 simp only [Act.put,zq0,zq1,zq2,zq3,zq4,zq5];refine wpAny_take (i:=2) (v:=.pointer (some ⟨p,0,none⟩)) rfl (by kernel_rfl) (by kernel_rfl) (by kernel_rfl) (fun _ _ _ h=>h) (Or.inl ⟨by rfl,fun w=>by go_simp⟩) ?_
 simp only [Act.put,zq0,zq1,zq2,zq3,zq4,zq5];refine wpAny_take (i:=4) (v:=.int .i64 i) rfl (by kernel_rfl) (by kernel_rfl) (by kernel_rfl) (fun _ _ _ h=>h) (Or.inl ⟨by rfl,fun w=>by go_simp⟩) ?_
 simp only [Act.put,zq0,zq1,zq2,zq3,zq4,zq5];refine wpAny_take (i:=5) (v:=.pointer (some ⟨B,1,none⟩)) rfl (by kernel_rfl) (by kernel_rfl) (by kernel_rfl) (fun _ _ _ h=>h) (Or.inl ⟨by rfl,fun w=>by go_simp⟩) ?_
 simp only [Act.put,zq0,zq1,zq2,zq3,zq4,zq5];refine QaD (g:=8) (T:=fun u=>u=W3.drew) _ _ _ _ ?_
 refine Qaz (i:=3) (v:=.slice (some ⟨nb,0,none⟩) n n) rfl rfl (by kernel_rfl) (by decide) (by kernel_rfl) (by kernel_rfl) (by kernel_rfl) (by kernel_rfl) (fun _ _ _ h=>h) (Or.inl ⟨by rfl,fun w' hw'=>by subst hw';go_simp⟩) rfl ?_
 simp only [Act.put,zq0,zq1,zq2,zq3,zq4,zq5];refine Qaz (i:=6) (v:=.agg X) rfl rfl (by kernel_rfl) (by decide) (by kernel_rfl) (by kernel_rfl) (by kernel_rfl) (by kernel_rfl) (fun _ _ _ h=>h) ?_ rfl ?_
 ·refine QaQ (by rfl) 95 (.tmp 32) (by rfl) (.pointer (some ⟨B,1,none⟩)) (by rfl) ?_
  exact (fun u hu=>by subst hu;exact hld1)
 simp only [Act.put,zq0,zq1,zq2,zq3,zq4,zq5];refine Qaz (i:=7) (v:=.pointer (some ⟨nb,i*65,none⟩)) rfl rfl (by kernel_rfl) (by decide) (by kernel_rfl) (by kernel_rfl) (by kernel_rfl) (by kernel_rfl) (fun _ _ _ h=>h) (Or.inl ⟨by rfl,fun w' hw'=>by subst hw';go_simp⟩) rfl ?_
 simp only [Act.put,zq0,zq1,zq2,zq3,zq4,zq5];refine Qhw (by kernel_rfl) (by kernel_rfl) ?_
 refine wpOp_step rfl ?_;intro K hK;rw [if_pos (by rfl)]
 refine Qca 95 (.tmp 34) (.tmp 33) rfl (.pointer (some ⟨nb,i*65,none⟩)) (.agg X) rfl rfl hst1 ?_;refine hK _ _ ?_;clear hK K;refine wpAny_done (by kernel_rfl) ?_ _
 go_wp2;have hnb:B≠nb:=fun e=>by
  have h1:=HB3.out;rw [e,HD3.out.now] at h1;simp at h1
 have hd4:QaT (W3.drew.setRow nb R.toArray) lo p nb sb cv n { D with now:=D.now.set i c.tgt }:=by
  rw [← HR.out];exact HD3.out.drew.setNow _ (by rw [List.length_set];exact HD3.out.ok.nowL) (fun x hx=>by
   rcases List.mem_or_eq_of_mem_set hx with hx | rfl
   ·exact HD3.out.ok.nowO x hx
   ·exact HO2.out)
 have hk4:Qan lo dkT w (W3.drew.setRow nb R.toArray):=HK3.out.drew.setRow HD3.out.drew.now (by simp [dkT]) HD3.out.ln _
 have hb4:(W3.drew.setRow nb R.toArray).heap[B]? = some (.cells c.cells.toArray 97 (0,0)):=(setRow_other _ _ _ _ hnb).trans HB3.out;have hld2:=fun (u:World) (hu:u.heap[B]? = some (.cells c.cells.toArray 97 (0,0)))=>load_change HO2.out hu
 obtain ⟨qi,hqi,hqz⟩:=change_tinfo;have hbs:=fun u=>Qib (P:=prog) 74 97 qi _ underlying74 hqi hqz.1 c.cells.toArray (by rw [List.size_toArray,Cg.cells_length HO2.out,hqz.2.1]) (by rw [hqz.2.1];omega) (by rw [hqz.2.1];omega) u
 have hN:=c.cells_one;have hNl:c.cells.length=1*66:=Cg.cells_length HO2.out;have HC:Hid (c.tgt.ok∧c.at_<n):=⟨HO2.out,by rw [HE.out];exact hi⟩
 obtain ⟨D4,hD4⟩:∃ D4:Dk,D4={ D with now:=D.now.set i c.tgt }:=⟨_,rfl⟩
 rw [← hD4] at hd4;have HD4:Hid (D4={ D with now:=D.now.set i c.tgt }):=hD4
 have hc4:D4.chg.length≤1000000:=by rw [hD4];exact hc0
 have hs4:D4.steps≤1000000:=by rw [hD4];exact hs0
 have hsz4:lo≤(W3.drew.setRow nb R.toArray).heap.size:=Nat.le_trans hlo hk4.size;clear hD4 hld1 hst1 HB3 HD3 HK3 c0 hnb HR;generalize W3.drew.setRow nb R.toArray=W4 at *
 generalize hC:c.cells=C at *
 have HCC:Hid (c.cells=C):=hC;clear hC;have c2:=hd4.p2;have hb5:W4.drew.heap[B]? = some (.cells C.toArray 97 (0,0)):=hb4;have c25:W4.drew.cell? ⟨p,2,none⟩=some cv:=c2;have HD5:Hid (QaT W4 lo p nb sb cv n D4):=hd4;have HK5:Hid (Qan lo dkT w W4):=hk4;clear hd4 hk4 hb4 c2;simp only [Act.put,List.setIfInBounds_toArray,List.set_cons_zero,List.set_cons_succ];refine Qab (by kernel_rfl) ?_
 refine wpAny_take (i:=0) (v:=.pointer (some ⟨p,0,none⟩)) rfl (by kernel_rfl) (by kernel_rfl) (by kernel_rfl) (fun _ _ _ h=>h) (Or.inl ⟨by rfl,fun w=>by go_simp⟩) ?_
 simp only [Act.put,zq0,zq1,zq2,zq3,zq4,zq5];refine wpAny_take (i:=1) (v:=.pointer (some ⟨p,0,none⟩)) rfl (by kernel_rfl) (by kernel_rfl) (by kernel_rfl) (fun _ _ _ h=>h) (Or.inl ⟨by rfl,fun w=>by go_simp⟩) ?_
 simp only [Act.put,zq0,zq1,zq2,zq3,zq4,zq5];refine wpAny_take (i:=2) (v:=.pointer (some ⟨p,0,none⟩)) rfl (by kernel_rfl) (by kernel_rfl) (by kernel_rfl) (fun _ _ _ h=>h) (Or.inl ⟨by rfl,fun w=>by go_simp⟩) ?_
 simp only [Act.put,zq0,zq1,zq2,zq3,zq4,zq5];refine wpAny_take (i:=3) (v:=.pointer (some ⟨p,2,none⟩)) rfl (by kernel_rfl) (by kernel_rfl) (by kernel_rfl) (fun _ _ _ h=>h) (Or.inl ⟨by rfl,fun w=>by go_simp⟩) ?_
 simp only [Act.put,zq0,zq1,zq2,zq3,zq4,zq5];refine QaD (g:=7) (T:=fun u=>u.cell? ⟨p,2,none⟩=some cv∧u.heap[B]? = some (.cells C.toArray 97 (0,0))) _ _ _ _ ?_
 refine Qaz (i:=4) (v:=cv) rfl rfl (by kernel_rfl) (by decide) (by kernel_rfl) (by kernel_rfl) (by kernel_rfl) (by kernel_rfl) (fun _ _ _ h=>h) (Or.inl ⟨by rfl,fun w' hw'=>by obtain ⟨h1,h2⟩:=hw';go_simp⟩) ⟨c25,hb5⟩ ?_
 simp only [Act.put,zq0,zq1,zq2,zq3,zq4,zq5];refine L_take2 (i:=5) (m:=6) (v:=.agg C.toArray) rfl rfl rfl (by kernel_rfl) (by kernel_rfl) (by decide) (by kernel_rfl) (by kernel_rfl) (by kernel_rfl) (by kernel_rfl) (by kernel_rfl) (fun _ _ _ h=>h) ?_ ⟨c25,hb5⟩ ?_
 ·refine QaQ (by rfl) 97 (.tmp 7) (by rfl) (.pointer (some ⟨B,0,none⟩)) (by rfl) ?_
  exact fun u hu=>hld2 u hu.2
 simp only [Act.put,zq0,zq1,zq2,zq3,zq4,zq5];refine Qic (i:=6) (by kernel_rfl) ?_
 refine wpOp_step rfl ?_;intro K hK;rw [if_pos (by rfl)]
 refine QfB 74 1 #[(0,.tmp 40)] (by rfl) #[(0,.agg C.toArray)] (by simp [Act.eval]) (hbs _) ?_
 have hBlt:B<W4.drew.heap.size:=(Array.getElem?_eq_some_iff.1 hb5).1;have hplt:p<W4.drew.heap.size:=HD5.out.lt;refine hK _ _ ⟨⟨(World.cell?_alloc_lt _ _ _ hplt).trans c25,(Below.heap_alloc _ _ _ hBlt).trans hb5⟩,?_⟩;clear hK K;simp only [Act.put,zq0,zq1,zq2,zq3,zq4,zq5];have hd5:=HD5.out.drew.alloc (.cells C.toArray 97);obtain ⟨v',w6,hrun,hr6,hg6,hv6,_⟩:=run_append_own_at (P:=prog) (W4.drew.alloc (.cells C.toArray 97)) lo 74 74 97 qi (.agg cg0.cells.toArray) 66 80 underlying74 hqi hqz.1 hqz.2.1 hqz.2.2 (by rw [Value.cells,List.size_toArray,Cg.cells_length Qej]) (by omega) cv D4.chg.length _ hd5.chg ⟨W4.drew.heap.size,0,none⟩ 1 1 C hNl (fun j u hj=>by
  rw [Addr.add_mid,cell_of_row _ _ _ _ _ (0,0) (Qai W4.drew _)];simpa using hj) hN (by unfold maxLen;omega) (by omega) (by rw [World.size_alloc];exact Nat.le_succ_of_le hsz4)
 refine Qhw (by kernel_rfl) (by kernel_rfl) ?_
 refine wpOp_step rfl ?_;intro K hK;rw [if_pos (by rfl)]
 refine Qdn (.tmp 39) (.tmp 41) 74 74 (by rfl) cv (.slice (some ⟨W4.drew.heap.size,0,none⟩) 1 1) (by rfl) (by rfl) hrun ?_
 refine hK _ _ ?_;clear hK K hrun;simp only [Act.put,zq0,zq1,zq2,zq3,zq4,zq5];have hrC:Qau Cg.cells D4.chg++C=Qau Cg.cells D4.chg++c.cells:=by rw [HCC.out]
 rw [hrC] at hr6;have hd6:=hd5.more c HC.out v' hg6 hr6;have hp6:w6.heap[p]? = _:=(hg6.block p hd5.lt (fun e=>(hd5.pcv p e.symm).1 rfl)).trans hd5.box
 have hk6:Qan lo dkT w w6:=(HK5.out.drew.alloc (.cells C.toArray 97)).grown hg6 (fun j hj=>by
  obtain ⟨_,_,_,h1,cs,h2⟩:=hd5.pcv j hj;exact ⟨h1,cs,_,_,h2,by simp [dkT]⟩)
 have HK7:Hid (Qan lo dkT w (w6.setCell ⟨p,2,none⟩ v')):=hk6.setCell hp6 (by simp [dkT]) HD5.out.lp v'
 have c26:w6.cell? ⟨p,2,none⟩=some cv:=by simp [World.cell?,hp6]
 have f26:w6.frozen? ⟨p,2,none⟩=false:=by simp [World.frozen?,hp6]
 have hv1:∃ av lv cpv,v'=.slice av lv cpv:=by
  rcases hr6.2 with ⟨rfl,_⟩ | ⟨_,_,_,rfl,_⟩
  ·exact ⟨_,_,_,rfl⟩
  ·exact ⟨_,_,_,rfl⟩
 obtain ⟨av,lv,cpv,rfl⟩:=hv1;have HD6:Hid (QaT _ lo p nb sb _ n _):=hd6;have c36:=hd6.p3;have f36:=hd6.fz 3;clear hr6 hg6 hv6 hp6 hk6 hd6 hd5 hbs hld2 hqz HD5 HK5 hb5 c25 hrC;refine Qbr (i:=8) (by kernel_rfl) ?_
 refine wpOp_step rfl ?_;intro K hK;rw [if_pos (by rfl)]
 have hK':Shut (∀ a w,_→K a w):=hK;clear hK;go_wp2;refine hK'.out _ _ ?_;clear hK' K;refine Qbr (i:=9) (by kernel_rfl) ?_
 refine wpOp_step rfl ?_;intro K hK;rw [if_pos (by rfl)]
 have hK':Shut (∀ a w,_→K a w):=hK;clear hK;go_wp2;refine hK'.out _ _ ?_;clear hK' K;refine Qbr (i:=10) (by kernel_rfl) ?_
 refine wpOp_step rfl ?_;intro K hK;rw [if_pos (by rfl)]
 have hK':Shut (∀ a w,_→K a w):=hK;clear hK;go_wp2;refine hK'.out _ _ ?_;clear hK' K;refine wpAny_done (by kernel_rfl) ?_ _
 generalize w6.setCell ⟨p,2,none⟩ (.slice av lv cpv)=W7 at *
 have hs7:(D4.steps:Int)≤1000000:=by omega
 have hst:(D4.steps:Int)+1=((D4.steps+1:Nat):Int):=by omega
 have hd8:=HD6.out.setSteps (D4.steps+1);have hk8:Qan lo dkT w (W7.setCell ⟨p,3,none⟩ (.int .i64 ((D4.steps+1:Nat):Int))):=HK7.out.setCell HD6.out.box (by simp [dkT]) HD6.out.lp _
 have HD8:Hid (QaT _ lo p nb sb _ n _):=hd8;have HK8:Hid (Qan _ _ _ _):=hk8;rw [← hst] at HD8 HK8;clear hd8 hk8 HD6 HK7 c26 f26 hst;go_wp2;go_ret;refine ⟨rfl,⟨.slice av lv cpv,?_⟩,HK8.out⟩;have eD:(⟨D4.now,D4.safe,D4.chg++[c],D4.steps+1,D4.fail⟩:Dk)=D.write i l:=by
  rw [HD4.out,HE.out];rfl
 rw [← eD];exact HD8.out
end
section
open Go.RowKit Go.Lib Go.Proofs.Tryz
theorem torn_cell {w:World} {g:Nat} {l:List Bk} {t:TypeId} (h:w.heap[g]? = some (.cells (Qau Bk.cells l).toArray t (0,0))) (ho:∀ x∈l,x.ok) (i:Nat) (hi:i<l.length):w.cell? ⟨g,i*65+64,none⟩=some (.bool (l.getD i bk0).torn):=by
 refine row_range h ho i hi 64 _ ?_;have hk:=getD_ok ho i;unfold Bk.ok at hk;generalize l.getD i bk0=b at *
 rw [Bk.cells,List.getElem?_append_right (by rw [Qaf,hk];exact Nat.le_refl _),Qaf,hk]
 rfl
theorem read_torn (lo p nb sb:Nat) (cv:Value) (n:Nat) (D:Dk) (i:Nat) (w:World) (h:QaT w lo p nb sb cv n D) (hi:i<n) (ht:(D.now.getD i bk0).torn=true) :
  Calls prog 69 #[.pointer (some ⟨p,0,none⟩),.int .i64 (i:Int)] w fun e w'=>e=.returned (.tuple #[.slice none 0 0,enE 9])∧Qbh w w':=by
 have HH:Hid (Calls _ _ _ _ _):=has_any lo p nb sb cv n D (i:Int) w h;have hh:hasK n (i:Int)=true:=by simp [hasK];omega
 rw [hh] at HH;rw [QaF (by decide)]
 have HC:Hid (∀ W,Qbh w W→W.cell? ⟨p,0,none⟩=some (.slice (some ⟨nb,0,none⟩) n n)∧W.cell? ⟨nb,i*65+64,none⟩=some (.bool true)):=fun W hW=>by
  have h':=h.still hW
  have:=torn_cell h'.now h'.ok.nowO i (by rw [h'.ok.nowL];exact hi)
  rw [ht] at this;exact ⟨h'.p0,this⟩
 have i0:(0:Int)≤i:=by omega
 have i1:(i:Int)<n:=by omega
 clear h ht hh;go_enter func69,ntmps69
 go_wp2_with fail;refine HH.out.mono ?_;rintro e w1 ⟨rfl,hs⟩;obtain ⟨c0,c1⟩:=HC.out w1 hs;clear HH HC;go_wp2;go_ret2;exact ⟨rfl,hs⟩
theorem u8_info:(prog.info? 5).map (fun i=>(i.zero,i.size,i.bytes))=some (some (.int .u8 0),1,1):=by kernel_rfl
theorem copy_read (W:World) (g i:Nat) (l:List Bk) (t:TypeId) (Z:Array Value) (hZ:Z.size=64) (h:W.heap[g]? = some (.cells (Qau Bk.cells l).toArray t (0,0))) (ho:∀ x∈l,x.ok) (hi:i<l.length) (ty:TypeId) :
  (Builtin.copy_ #[29,29] ty #[.slice (some ⟨W.heap.size,0,none⟩) 64 64,.slice (some ⟨g,i*65,none⟩) 64 64]).run prog (W.alloc (.cells Z 5)) =
   .ok (goInt 64) (W.alloc (.cells (byC (l.getD i bk0).byt).toArray 5)):=by
 have hb:=getD_ok ho i;have hL:(byC (l.getD i bk0).byt).length=64:=by rw [Qaf];exact hb
 have:=run_copy_row prog (W.alloc (.cells Z 5)) 29 29 ty 5 W.heap.size 0 64 64 ⟨g,i*65,none⟩ 64 64 Z 5 (byC (l.getD i bk0).byt) underlying29 u8_one
  (Qai W _) (by rw [hL];rfl) (fun j v hj=>by
   rw [Addr.add_mid,World.cell?_alloc_lt _ _ _ (show g<W.heap.size from (Array.getElem?_eq_some_iff.1 h).1)]
   refine row_range h ho i hi j v ?_;have hjl:=(List.getElem?_eq_some_iff.1 hj).1;rw [Bk.cells,List.getElem?_append_left hjl];exact hj) (by rw [hL];omega) (QfI _)
 rw [this,hL,World.setRow_alloc_new];have e:Z.toList.drop 64=[]:=List.drop_eq_nil_of_le (by simp [hZ])
 simp [e]
set_option maxHeartbeats 2000000 in
theorem read_ok (lo p nb sb:Nat) (cv:Value) (n:Nat) (D:Dk) (i:Nat) (w:World) (h:QaT w lo p nb sb cv n D) (hi:i<n) (ht:(D.now.getD i bk0).torn=false) :
  Calls prog 69 #[.pointer (some ⟨p,0,none⟩),.int .i64 (i:Int)] w fun e w'=>e=.returned (.tuple #[.slice (some ⟨w.heap.size,0,none⟩) 64 64,.nilIface])∧w'.heap[w.heap.size]? = some (.cells (byC (D.now.getD i bk0).byt).toArray 5 (0,0))∧Below w.heap.size w w':=by
 have HH:Hid (Calls _ _ _ _ _):=has_any lo p nb sb cv n D (i:Int) w h;have hh:hasK n (i:Int)=true:=by simp [hasK];omega
 rw [hh] at HH;have HC:Hid (∀ W,Qbh w W→W.cell? ⟨p,0,none⟩=some (.slice (some ⟨nb,0,none⟩) n n)∧W.cell? ⟨nb,i*65+64,none⟩=some (.bool false)∧p<W.heap.size):=fun W hW=>by
  have h':=h.still hW
  have:=torn_cell h'.now h'.ok.nowO i (by rw [h'.ok.nowL];exact hi)
  rw [ht] at this;exact ⟨h'.p0,this,h'.lt⟩
 have hmk:∀ W,(Instr.makeSlice 29 (.int .i64 64) (.int .i64 64)).run prog W=.ok (.slice (some ⟨W.heap.size,0,none⟩) 64 64) (W.alloc (.cells (madeCells #[.int .u8 0] 64) 5)):=fun W=>run_make_row' (P:=prog) 29 5 (.int .u8 0) 1 underlying29 u8_info rfl .i64 .i64 64 (by omega) (by omega) W
 have HP:Hid (∀ W,Qbh w W→∀ ty,(Builtin.copy_ #[29,29] ty #[.slice (some ⟨W.heap.size,0,none⟩) 64 64,.slice (some ⟨nb,i*65,none⟩) 64 64]).run prog (W.alloc (.cells (madeCells #[.int .u8 0] 64) 5)) =
   .ok (goInt 64) (W.alloc (.cells (byC (D.now.getD i bk0).byt).toArray 5))):=fun W hW ty=>by
  have h':=h.still hW;exact copy_read W nb i D.now 95 _ (size_madeCells _ _) h'.now h'.ok.nowO (by rw [h'.ok.nowL];exact hi) ty
 generalize madeCells #[.int .u8 0] 64=Z at *
 generalize (byC (D.now.getD i bk0).byt).toArray=X at *
 have i0:(0:Int)≤i:=by omega
 have i1:(i:Int)<n:=by omega
 clear h ht hh;go_enter func69,ntmps69
 go_wp2_with fail;refine HH.out.mono ?_;rintro e w1 ⟨rfl,hs⟩;obtain ⟨c0,c1,hp⟩:=HC.out w1 hs;have hcp:=HP.out w1 hs;have ez:w1.heap.size=w.heap.size:=by rw [hs.heap]
 have hend:(w1.alloc (.cells X 5)).heap[w.heap.size]? = some (.cells X 5 (0,0)):=by rw [← ez];exact Qai w1 _
 have hbel:Below w.heap.size w (w1.alloc (.cells X 5)):=(hs.below _).alloc (by rw [ez];exact Nat.le_refl _) _
 have HE:Hid (_∧_):=⟨hend,hbel⟩;have HZ:Hid (w1.heap.size=w.heap.size):=ez;clear HH HC HP hs hend hbel ez;go_wp2_with (refine QdK rfl (.tmp 22) (.tmp 30) _ _ rfl (.slice (some ⟨w1.heap.size,0,none⟩) 64 64) (.slice (some ⟨nb,i*65,none⟩) 64 64) rfl rfl (hcp _) ?_);go_ret2;rw [HZ.out];exact ⟨rfl,HE.out.1,HE.out.2⟩
theorem run_copyZ {P:Program} (w:World) (dT sT ty elem:TypeId) (z g o dLen dCap:Nat) (a:Addr) (sLen sCap:Nat) (cur:Array Value) (t:TypeId) (cs:List Value)
  (hu:P.underlying dT=some (.slice elem)) (hs:(P.info? elem).map (·.size)=some z)
  (hg:w.heap[g]? = some (.cells cur t (0,0))) (hn:Nat.min sLen dLen*z=cs.length)
  (hsrc:∀ j v,cs[j]? = some v→w.cell? (a.add j)=some v) (hfit:o+cs.length≤cur.size) (h1:∀ v∈cs,v.oneCell'=true) :
  (Builtin.copy_ #[dT,sT] ty #[.slice (some ⟨g,o,none⟩) dLen dCap,.slice (some a) sLen sCap]).run P w =
   .ok (goInt (Nat.min sLen dLen)) (w.setRow g (cur.toList.take o++cs++cur.toList.drop (o+cs.length)).toArray):=by
 have hl:=run_loadCells_list (P:=P) w a cs hsrc;have hst:=run_storeCells_at P g o t cs 0 cur w hg (by simpa using hfit) h1
 cases hq:P.info? elem with
 | none=>simp [hq] at hs
 | some i=>
  have hi:i.size=z:=by simpa [hq] using hs
  have hm:Nat.min sLen dLen*i.size=cs.length:=by rw [hi];exact hn
  simp only [hi] at hm;simp [Builtin.copy_,run_underlying hu,Builtin.lenOf,Builtin.firstCells,sizeOf,typeInfo,hq,hi,hm,hl,hst]
theorem Qhu (W:World) (g g' n:Nat) (l m:List Bk) (hl:l.length=n) (hm:m.length=n) (ol:∀ x∈l,x.ok) (om:∀ x∈m,x.ok) (h:W.heap[g]? = some (.cells (Qau Bk.cells l).toArray 95 (0,0))) (h':W.heap[g']? = some (.cells (Qau Bk.cells m).toArray 95 (0,0))) (ty:TypeId) :
  (Builtin.copy_ #[73,73] ty #[.slice (some ⟨g,0,none⟩) n n,.slice (some ⟨g',0,none⟩) n n]).run prog W=.ok (goInt n) (W.setRow g (Qau Bk.cells m).toArray):=by
 have L1:=Qbu Bk.cells 65 l (fun y hy=>Bk.cells_length (ol y hy))
 have L2:=Qbu Bk.cells 65 m (fun y hy=>Bk.cells_length (om y hy))
 have:=run_copyZ (P:=prog) W 73 73 ty 95 65 g 0 n n ⟨g',0,none⟩ n n (Qau Bk.cells l).toArray 95 (Qau Bk.cells m) underlying73 QcJ h (by rw [L2,hm];simp only [Nat.min_def,Nat.le_refl,if_true]) (fun j v hj=>by
  rw [Addr.add_mid,cell_of_row _ _ _ _ _ (0,0) h'];simpa using hj) (by rw [L2,hm,List.size_toArray,L1,hl];omega) (rowOf_oneC _ _ (fun x _=>x.cells_one))
 rw [this];have e:(Qau Bk.cells l).drop (0+(Qau Bk.cells m).length)=[]:=List.drop_eq_nil_of_le (by rw [L1,L2,hl,hm];omega)
 have en:Nat.min n n=n:=by simp only [Nat.min_def,Nat.le_refl,if_true]
 rw [en];rw [Nat.zero_add] at e;simp [e]
def Dk.flush (D:Dk):Dk:=⟨D.now,D.now,[],D.steps+1,D.fail⟩
theorem flush_bad (lo p nb sb:Nat) (cv:Value) (n:Nat) (D:Dk) (w:World) (h:QaT w lo p nb sb cv n D) (h0:D.failing=true) :
  Calls prog 64 #[.pointer (some ⟨p,0,none⟩)] w fun e w'=>e=.returned (enE 7)∧Qbh w w':=by
 have HF:Hid (Calls _ _ _ _ _):=Qc8 lo p nb sb cv n D w h;rw [h0] at HF;rw [QaF (by decide)]
 clear h h0;go_enter func64,ntmps64
 go_wp2_with fail;refine HF.out.mono ?_;rintro e w1 ⟨rfl,hs⟩;clear HF;go_wp2;go_ret;exact ⟨rfl,hs⟩
set_option maxHeartbeats 4000000 in
theorem flush_ok (lo p nb sb:Nat) (cv:Value) (n:Nat) (D:Dk) (w:World) (h:QaT w lo p nb sb cv n D) (hf:D.failing=false) (hs0:D.steps≤1000000) :
  Calls prog 64 #[.pointer (some ⟨p,0,none⟩)] w fun e w'=>e=.returned .nilIface∧QaT w' lo p nb sb (.slice none 0 0) n D.flush∧Qan lo dkT w w':=by
 have HF:Hid (Calls _ _ _ _ _):=Qc8 lo p nb sb cv n D w h;rw [hf] at HF;have HD:Hid (QaT w lo p nb sb cv n D):=h;clear h hf;go_enter func64,ntmps64
 go_wp2_with fail;refine HF.out.mono ?_;rintro e w1 ⟨rfl,hs⟩;clear HF;have hd1:=HD.out.still hs;have hk1:Qan lo dkT w w1:=hs.keeps _ _;have c0:w1.drew.cell? ⟨p,0,none⟩=some (.slice (some ⟨nb,0,none⟩) n n):=hd1.p0;have c1:w1.drew.cell? ⟨p,1,none⟩=some (.slice (some ⟨sb,0,none⟩) n n):=hd1.p1;have hcp:=fun ty=>Qhu w1.drew sb nb n D.safe D.now hd1.ok.safeL hd1.ok.nowL hd1.ok.safeO hd1.ok.nowO hd1.drew.safe hd1.drew.now ty
 have hd2:QaT (w1.drew.setRow sb (Qau Bk.cells D.now).toArray) lo p nb sb cv n { D with safe:=D.now }:=hd1.drew.setSafe D.now hd1.ok.nowL hd1.ok.nowO
 have hk2:Qan lo dkT w (w1.drew.setRow sb (Qau Bk.cells D.now).toArray):=hk1.drew.setRow hd1.drew.safe (by simp [dkT]) hd1.ls _
 have HD2:Hid (QaT _ _ _ _ _ _ _ _):=hd2;have HK2:Hid (Qan _ _ _ _):=hk2;generalize (Qau Bk.cells D.now).toArray=R at *
 clear hd1 hk1 hd2 hk2 HD hs;go_wp2;refine Qab (by kernel_rfl) ?_
 refine wpAny_take (i:=0) (v:=.pointer (some ⟨p,0,none⟩)) rfl (by kernel_rfl) (by kernel_rfl) (by kernel_rfl) (fun _ _ _ h=>h) (Or.inl ⟨by rfl,fun w=>by go_simp⟩) ?_
 simp only [Act.put,zq0,zq1,zq2,zq3,zq4,zq5];refine wpAny_take (i:=1) (v:=.pointer (some ⟨p,0,none⟩)) rfl (by kernel_rfl) (by kernel_rfl) (by kernel_rfl) (fun _ _ _ h=>h) (Or.inl ⟨by rfl,fun w=>by go_simp⟩) ?_
 simp only [Act.put,zq0,zq1,zq2,zq3,zq4,zq5];refine wpAny_take (i:=2) (v:=.pointer (some ⟨p,1,none⟩)) rfl (by kernel_rfl) (by kernel_rfl) (by kernel_rfl) (fun _ _ _ h=>h) (Or.inl ⟨by rfl,fun w=>by go_simp⟩) ?_
 simp only [Act.put,zq0,zq1,zq2,zq3,zq4,zq5];refine wpAny_take (i:=4) (v:=.pointer (some ⟨p,0,none⟩)) rfl (by kernel_rfl) (by kernel_rfl) (by kernel_rfl) (fun _ _ _ h=>h) (Or.inl ⟨by rfl,fun w=>by go_simp⟩) ?_
 simp only [Act.put,zq0,zq1,zq2,zq3,zq4,zq5];refine wpAny_take (i:=5) (v:=.pointer (some ⟨p,0,none⟩)) rfl (by kernel_rfl) (by kernel_rfl) (by kernel_rfl) (fun _ _ _ h=>h) (Or.inl ⟨by rfl,fun w=>by go_simp⟩) ?_
 simp only [Act.put,zq0,zq1,zq2,zq3,zq4,zq5];refine wpAny_take (i:=6) (v:=.pointer (some ⟨p,0,none⟩)) rfl (by kernel_rfl) (by kernel_rfl) (by kernel_rfl) (fun _ _ _ h=>h) (Or.inl ⟨by rfl,fun w=>by go_simp⟩) ?_
 simp only [Act.put,zq0,zq1,zq2,zq3,zq4,zq5];refine QaD (g:=8) (T:=fun u=>u=w1.drew) _ _ _ _ ?_
 refine Qaz (i:=3) (v:=.slice (some ⟨sb,0,none⟩) n n) rfl rfl (by kernel_rfl) (by decide) (by kernel_rfl) (by kernel_rfl) (by kernel_rfl) (by kernel_rfl) (fun _ _ _ h=>h) (Or.inl ⟨by rfl,fun w' hw'=>by subst hw';go_simp⟩) rfl ?_
 simp only [Act.put,zq0,zq1,zq2,zq3,zq4,zq5];refine Qaz (i:=7) (v:=.slice (some ⟨nb,0,none⟩) n n) rfl rfl (by kernel_rfl) (by decide) (by kernel_rfl) (by kernel_rfl) (by kernel_rfl) (by kernel_rfl) (fun _ _ _ h=>h) (Or.inl ⟨by rfl,fun w' hw'=>by subst hw';go_simp⟩) rfl ?_
 simp only [Act.put,zq0,zq1,zq2,zq3,zq4,zq5];refine Qhw (by kernel_rfl) (by kernel_rfl) ?_
 refine wpOp_step rfl ?_;intro K hK;rw [if_pos (by rfl)]
 refine Qdp (.tmp 9) (.tmp 13) 73 73 (by rfl) (.slice (some ⟨sb,0,none⟩) n n) (.slice (some ⟨nb,0,none⟩) n n) (by rfl) (by rfl) (hcp _) ?_
 refine hK _ _ ?_;clear hK K hcp c0 c1;refine wpAny_done (by kernel_rfl) ?_ _
 generalize w1.drew.setRow sb R=W2 at *
 have c2:=HD2.out.p2;have f2:=HD2.out.fz 2;have hd3:=HD2.out.setNone;have hk3:=HK2.out.setCell (o:=2) HD2.out.box (by simp [dkT]) HD2.out.lp (.slice none 0 0)
 have c3:=hd3.p3;have f3:=hd3.fz 3;have hst:(D.steps:Int)+1=((D.steps+1:Nat):Int):=by omega
 have hd4:=hd3.setSteps (D.steps+1);have hk4:=hk3.setCell (o:=3) hd3.box (by simp [dkT]) hd3.lp (.int .i64 ((D.steps+1:Nat):Int))
 have HD4:Hid (QaT _ _ _ _ _ _ _ _):=hd4;have HK4:Hid (Qan _ _ _ _):=hk4;rw [← hst] at HD4 HK4;have hs7:(D.steps:Int)≤1000000:=by omega
 clear hd3 hk3 hd4 hk4 hst HD2 HK2;go_wp2;go_ret;exact ⟨rfl,HD4.out,HK4.out⟩
end
end Go.Proofs.YtjifbbdkpanagaaGreatDoor
