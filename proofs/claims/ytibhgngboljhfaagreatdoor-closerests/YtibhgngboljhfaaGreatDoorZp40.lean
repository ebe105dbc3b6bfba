/-
  What is closed stays closed: for every chart, all rates, plans, pools, pairs, entries and any period debits are credits at any time, and what is closed has no income and no expense left, where the laid tables and the handle of errors hold what the program lays.
-/
import Derived.Test.YtibhgngboljhfaaGreatDoorCards
import Derived.Test.YtibhgngboljhfaaGreatDoorTie
import Derived.Test.YtibhgngboljhfaaGreatDoorZp39
import Derived.SevenTiedAt
import Derived.ProofKit
import Derived.ShutString
import Derived.Stop.LaidErr
set_option linter.unusedVariables false
set_option linter.unusedSimpArgs false
set_option maxRecDepth 100000
namespace Go.Proofs.YtibhgngboljhfaaGreatDoor
section
open Go.RowKit Go.Lib Go.Deep Go.Proofs.Tryz
section
variable {H:Type} {enc:TypeId×Value→H} {w:World} {base:Nat} {spare:Nat→Bool} {held:Bool}
theorem QfD {m:Nat} {c:Value} {y:DataW H×List MemPlace} (h:DataW.trod enc prog w base spare held m 9 [c]=some y):∃ s,c=.string s∧s.size≤maxLen:=by
 cases m with
 | zero=>simp [DataW.trod] at h
 | succ m=>
  rw [DataW.trod_step] at h;unfold DataW.trodStep at h;rw [underlying9] at h;cases c <;> simp at h
  exact ⟨_,rfl,h.1⟩
theorem pl_int {m:Nat} {c:Value} {y:DataW H×List MemPlace} (h:DataW.trod enc prog w base spare held m 3 [c]=some y):∃ n,c=.int .i64 n∧(Lit.int .i64 n).wf=true:=by
 cases m with
 | zero=>simp [DataW.trod] at h
 | succ m=>
  rw [DataW.trod_step] at h;unfold DataW.trodStep at h;rw [underlying3] at h;cases c <;> simp at h
  rename_i k n;obtain ⟨⟨rfl,h2⟩,_⟩:=h;exact ⟨n,rfl,h2⟩
structure PnOk (p:Pn):Prop where
 ref:p.ref.size≤maxLen
 src:p.src.size≤maxLen
 dst:p.dst.size≤maxLen
 cur:p.cur.size≤maxLen
 ent:(Lit.int .i64 p.ent).wf=true
 amt:(Lit.int .i64 p.amt).wf=true
 fst:(Lit.int .i64 p.fst).wf=true
 per:(Lit.int .i64 p.per).wf=true
theorem Qjq:prog.cellsOf 93=8:=by kernel_rfl
theorem plan_str:prog.cellsOf 9=1:=by kernel_rfl
theorem plan_int:prog.cellsOf 3=1:=by kernel_rfl
theorem open_plan {m:Nat} {cs:List Value} {x:DataW H×List MemPlace} (h:DataW.trod enc prog w base spare held m 93 cs=some x):∃ a:Pn,cs=a.cells.toList∧PnOk a:=by
 cases m with
 | zero=>simp [DataW.trod] at h
 | succ m=>
  rw [DataW.trod_step] at h;unfold DataW.trodStep at h;rw [underlying93] at h;simp only [Qjq] at h;split at h
  ·rename_i hl
   match cs,hl with
   | [c0,c1,c2,c3,c4,c5,c6,c7],_=>
    simp [plan_str,plan_int] at h;cases h0:DataW.trod enc prog w base spare held m 9 [c0]
    ·simp [h0] at h
    cases h1:DataW.trod enc prog w base spare held m 3 [c1]
    ·simp [h0,h1] at h
    cases h2:DataW.trod enc prog w base spare held m 9 [c2]
    ·simp [h0,h1,h2] at h
    cases h3:DataW.trod enc prog w base spare held m 9 [c3]
    ·simp [h0,h1,h2,h3] at h
    cases h4:DataW.trod enc prog w base spare held m 9 [c4]
    ·simp [h0,h1,h2,h3,h4] at h
    cases h5:DataW.trod enc prog w base spare held m 3 [c5]
    ·simp [h0,h1,h2,h3,h4,h5] at h
    cases h6:DataW.trod enc prog w base spare held m 3 [c6]
    ·simp [h0,h1,h2,h3,h4,h5,h6] at h
    cases h7:DataW.trod enc prog w base spare held m 3 [c7]
    ·simp [h0,h1,h2,h3,h4,h5,h6,h7] at h
    obtain ⟨x0,rfl,k0⟩:=QfD h0;obtain ⟨x1,rfl,k1⟩:=pl_int h1;obtain ⟨x2,rfl,k2⟩:=QfD h2;obtain ⟨x3,rfl,k3⟩:=QfD h3;obtain ⟨x4,rfl,k4⟩:=QfD h4;obtain ⟨x5,rfl,k5⟩:=pl_int h5;obtain ⟨x6,rfl,k6⟩:=pl_int h6;obtain ⟨x7,rfl,k7⟩:=pl_int h7;exact ⟨⟨x0,x1,x2,x3,x4,x5,x6,x7⟩,rfl,⟨k0,k2,k3,k4,k1,k5,k6,k7⟩⟩
  ·cases h
theorem pl_add (b off n:Nat):(⟨b,off,none⟩:Addr).add n=⟨b,off+n,none⟩:=by
 unfold Addr.add
 split
 ·rename_i h;subst h;rfl
 ·rfl
theorem pns_of_trod {W:World} {a:Option Addr} {len cap fuel:Nat} {x:DataW H×List MemPlace} (h:DataW.trod enc prog W 0 (fun _=>true) true fuel 24 [.slice a len cap]=some x) :
  ∃ l:List Pn,l.length=len∧Qe6 W a l cap∧(∀ x∈l,PnOk x)∧len≤maxLen:=by
 rcases open_slice underlying24 h with ⟨hcs,_⟩ | ⟨x,l,c,m,n,D,Pl,hcs,hz,hl,hm,hmm,_,hx⟩
 ·simp at hcs;obtain ⟨rfl,rfl,rfl⟩:=hcs;exact ⟨[],rfl,⟨by simp,.inl rfl⟩,by simp,by unfold maxLen;omega⟩
 ·simp at hcs;obtain ⟨rfl,rfl,rfl⟩:=hcs;have hmm2:m=cap:=hmm;rw [Qjq] at hx;have hr:∀ i,i<len→∃ r:Pn,(∀ j,j<8→W.cell? ((x.add (i*8)).add j)=r.cells.toList[j]?)∧PnOk r:=fun i hi=>by
   obtain ⟨cs',h1,h2⟩:=hx i (by omega)
   obtain ⟨r,rfl,hw⟩:=open_plan h2;exact ⟨r,(World.cells?_some h1).2.2,hw⟩
  obtain ⟨f,hf⟩:=@choose_lt Pn ⟨pn0⟩ _ _ hr;have hget:∀ k,k<len→((List.range len).map f).getD k pn0=f k:=fun k hk=>by simp [List.getD,hk]
  have hlen:((List.range len).map f).length=len:=by simp
  refine ⟨(List.range len).map f,hlen,⟨by rw [hlen];exact hl,?_⟩,?_,by omega⟩
  ·by_cases h0:len=0
   ·subst h0;exact .inl rfl
   ·right
    obtain ⟨b,off,spot⟩:=x;have hc:W.cell? ⟨b,off,spot⟩=some (.string (f 0).ref):=(hf 0 (by omega)).1 0 (by omega)
    have hspot:spot=none:=World.cell?_spot hc;subst hspot;have hlt:b<W.heap.size:=World.block_lt_of_cell? _ _ hc;refine ⟨b,off,rfl,hlt,fun k hk=>?_⟩
    rw [hlen] at hk;rw [hget k hk];have C:∀ i,i<8→W.cell? ⟨b,off+k*8+i,none⟩=(f k).cells.toList[i]?:=fun i hi=>by
     have:=(hf k hk).1 i hi
     rw [pl_add,pl_add] at this;exact this
    exact ⟨C 0 (by omega),C 1 (by omega),C 2 (by omega),C 3 (by omega),C 4 (by omega),C 5 (by omega),C 6 (by omega),C 7 (by omega)⟩
  ·intro y hy;obtain ⟨k,hk,rfl⟩:=List.mem_map.1 hy;exact (hf k (List.mem_range.1 hk)).2
end
end
section
open Go.RowKit Go.Lib Go.Proofs.Tryz
section
variable {H:Type} {enc:TypeId×Value→H}
theorem al_str_cells:prog.cellsOf 9=1:=by kernel_rfl
theorem al_int_cells:prog.cellsOf 3=1:=by kernel_rfl
theorem txs_of_trod {W:World} {a:Option Addr} {len cap fuel:Nat} {x:DataW H×List MemPlace} (h:DataW.trod enc prog W 0 (fun _=>true) true fuel 96 [.slice a len cap]=some x) :
  ∃ l:List ByteArray,l.length=len∧IsTx W a l cap∧(∀ t∈l,t.size≤maxLen)∧len≤maxLen:=by
 rcases Go.Deep.open_slice underlying96 h with ⟨hcs,_⟩ | ⟨x,l,c,m,n,D,Pl,hcs,_,hl,hm,hmm,_,hx⟩
 ·simp at hcs;obtain ⟨rfl,rfl,rfl⟩:=hcs;exact ⟨[],rfl,⟨by simp,.inl rfl⟩,by simp,by unfold maxLen;omega⟩
 ·simp at hcs;obtain ⟨rfl,rfl,rfl⟩:=hcs;have hmm2:m=cap:=hmm;rw [al_str_cells] at hx;have hr:∀ i,i<len→∃ r:ByteArray,W.cell? (x.add (i*1))=some (.string r)∧r.size≤maxLen:=fun i hi=>by
   obtain ⟨cs',h1,h2⟩:=hx i (by omega)
   have hl1:cs'.length=1:=(World.cells?_some h1).2.1
   match cs',hl1 with
   | [c0],_=>
    obtain ⟨s,rfl,hs⟩:=Qbx h2
    have:=(World.cells?_some h1).2.2 0 (by omega)
    simp [Addr.add] at this;refine ⟨s,?_,hs⟩;simpa [Addr.add] using this
  obtain ⟨f,hf⟩:=@Go.Deep.choose_lt ByteArray ⟨ByteArray.empty⟩ _ _ hr;have hget:∀ k,k<len→((List.range len).map f).getD k ByteArray.empty=f k:=fun k hk=>by simp [List.getD,hk]
  have hlen:((List.range len).map f).length=len:=by simp
  refine ⟨(List.range len).map f,hlen,⟨by rw [hlen];exact hl,?_⟩,?_,Nat.le_trans hl hm⟩
  ·by_cases h0:len=0
   ·subst h0;exact .inl rfl
   ·right
    obtain ⟨b,off,spot⟩:=x;have hc:=(hf 0 (by omega)).1
    simp only [Nat.zero_mul] at hc;have hc':W.cell? ⟨b,off,spot⟩=some (.string (f 0)):=by simpa [Addr.add] using hc
    have hspot:spot=none:=World.cell?_spot hc';subst hspot;refine ⟨b,off,rfl,World.block_lt_of_cell? _ _ hc',fun k hk=>?_⟩
    rw [hlen] at hk;rw [hget k hk]
    have:=(hf k hk).1
    rw [Nat.mul_one,Qjl] at this;exact this
  ·intro y hy;obtain ⟨k,hk,rfl⟩:=List.mem_map.1 hy;exact (hf k (List.mem_range.1 hk)).2
theorem ws_of_trod {W:World} {a:Option Addr} {len cap fuel:Nat} {x:DataW H×List MemPlace} (h:DataW.trod enc prog W 0 (fun _=>true) true fuel 97 [.slice a len cap]=some x) :
  ∃ l:List Int,l.length=len∧IsW W a l cap∧(∀ t∈l,-9223372036854775808≤t∧t≤9223372036854775807)∧len≤maxLen:=by
 rcases Go.Deep.open_slice underlying97 h with ⟨hcs,_⟩ | ⟨x,l,c,m,n,D,Pl,hcs,_,hl,hm,hmm,_,hx⟩
 ·simp at hcs;obtain ⟨rfl,rfl,rfl⟩:=hcs;exact ⟨[],rfl,⟨by simp,.inl rfl⟩,by simp,by unfold maxLen;omega⟩
 ·simp at hcs;obtain ⟨rfl,rfl,rfl⟩:=hcs;have hmm2:m=cap:=hmm;rw [al_int_cells] at hx;have hr:∀ i,i<len→∃ r:Int,W.cell? (x.add (i*1))=some (.int .i64 r)∧(-9223372036854775808≤r∧r≤9223372036854775807):=fun i hi=>by
   obtain ⟨cs',h1,h2⟩:=hx i (by omega)
   have hl1:cs'.length=1:=(World.cells?_some h1).2.1
   match cs',hl1 with
   | [c0],_=>
    obtain ⟨s,rfl,hs⟩:=Qe0 h2
    have:=(World.cells?_some h1).2.2 0 (by omega)
    simp [Addr.add] at this;refine ⟨s,?_,ld_wf hs⟩;simpa [Addr.add] using this
  obtain ⟨f,hf⟩:=@Go.Deep.choose_lt Int ⟨0⟩ _ _ hr;have hget:∀ k,k<len→((List.range len).map f).getD k 0=f k:=fun k hk=>by simp [List.getD,hk]
  have hlen:((List.range len).map f).length=len:=by simp
  refine ⟨(List.range len).map f,hlen,⟨by rw [hlen];exact hl,?_⟩,?_,Nat.le_trans hl hm⟩
  ·by_cases h0:len=0
   ·subst h0;exact .inl rfl
   ·right
    obtain ⟨b,off,spot⟩:=x;have hc:=(hf 0 (by omega)).1
    simp only [Nat.zero_mul] at hc;have hc':W.cell? ⟨b,off,spot⟩=some (.int .i64 (f 0)):=by simpa [Addr.add] using hc
    have hspot:spot=none:=World.cell?_spot hc';subst hspot;refine ⟨b,off,rfl,World.block_lt_of_cell? _ _ hc',fun k hk=>?_⟩
    rw [hlen] at hk;rw [hget k hk]
    have:=(hf k hk).1
    rw [Nat.mul_one,Qjl] at this;exact this
  ·intro y hy;obtain ⟨k,hk,rfl⟩:=List.mem_map.1 hy;exact (hf k (List.mem_range.1 hk)).2
theorem Qfm:prog.cellsOf 99=4:=by kernel_rfl
theorem al_txs_cells:prog.cellsOf 96=1:=by kernel_rfl
theorem al_ws_cells:prog.cellsOf 97=1:=by kernel_rfl
theorem al_cell_txs {w:World} {base:Nat} {spare:Nat→Bool} {held:Bool} {m:Nat} {c:Value} {y:DataW H×List MemPlace} (h:DataW.trod enc prog w base spare held m 96 [c]=some y):∃ a len cap,c=.slice a len cap:=by
 rcases Go.Deep.open_slice underlying96 h with ⟨hcs,_⟩ | ⟨x,l,c',m,n,D,Pl,hcs,_⟩
 ·simp at hcs;exact ⟨_,_,_,hcs⟩
 ·simp at hcs;exact ⟨_,_,_,hcs⟩
theorem al_cell_ws {w:World} {base:Nat} {spare:Nat→Bool} {held:Bool} {m:Nat} {c:Value} {y:DataW H×List MemPlace} (h:DataW.trod enc prog w base spare held m 97 [c]=some y):∃ a len cap,c=.slice a len cap:=by
 rcases Go.Deep.open_slice underlying97 h with ⟨hcs,_⟩ | ⟨x,l,c',m,n,D,Pl,hcs,_⟩
 ·simp at hcs;exact ⟨_,_,_,hcs⟩
 ·simp at hcs;exact ⟨_,_,_,hcs⟩
theorem al_open_pool {w:World} {m:Nat} {cs:List Value} {x:DataW H×List MemPlace} (h:DataW.trod enc prog w 0 (fun _=>true) true m 99 cs=some x) :
  ∃ p:Po,cs=p.cells.toList∧PoOk w p∧PoTx p:=by
 cases m with
 | zero=>simp [DataW.trod] at h
 | succ m=>
  rw [DataW.trod_step] at h;unfold DataW.trodStep at h;rw [underlying99] at h;simp only [Qfm] at h;split at h
  ·rename_i hl
   match cs,hl with
   | [c0,c1,c2,c3],_=>
    simp [ldP_str,al_txs_cells,al_ws_cells] at h;cases h0:DataW.trod enc prog w 0 (fun _=>true) true m 9 [c0]
    ·simp [h0] at h
    cases h1:DataW.trod enc prog w 0 (fun _=>true) true m 9 [c1]
    ·simp [h0,h1] at h
    cases h2:DataW.trod enc prog w 0 (fun _=>true) true m 96 [c2]
    ·simp [h0,h1,h2] at h
    cases h3:DataW.trod enc prog w 0 (fun _=>true) true m 97 [c3]
    ·simp [h0,h1,h2,h3] at h
    obtain ⟨s,rfl,hs⟩:=Qbx h0;obtain ⟨t,rfl,ht⟩:=Qbx h1;obtain ⟨a,len,cap,rfl⟩:=al_cell_txs h2;obtain ⟨l,rfl,g1,g2,g3⟩:=txs_of_trod h2;obtain ⟨a',len',cap',rfl⟩:=al_cell_ws h3;obtain ⟨l',rfl,k1,k2,k3⟩:=ws_of_trod h3;unfold maxLen at g3 k3;exact ⟨⟨s,t,a,cap,l,a',cap',l'⟩,rfl,⟨g1,k1,by show l.length≤_;omega,by show l'.length≤_;omega⟩,⟨hs,ht,g2⟩⟩
  ·cases h
theorem pos_of_trod {W:World} {a:Option Addr} {len cap fuel:Nat} {x:DataW H×List MemPlace} (h:DataW.trod enc prog W 0 (fun _=>true) true fuel 25 [.slice a len cap]=some x) :
  ∃ L:List Po,L.length=len∧QgV W a L cap∧(∀ p∈L,PoTx p)∧len≤maxLen:=by
 rcases Go.Deep.open_slice underlying25 h with ⟨hcs,_⟩ | ⟨x,l,c,m,n,D,Pl,hcs,_,hl,hm,hmm,hxx,hx⟩
 ·simp at hcs;obtain ⟨rfl,rfl,rfl⟩:=hcs;exact ⟨[],rfl,⟨by simp,.inl rfl,by simp⟩,by simp,by unfold maxLen;omega⟩
 ·simp at hcs;obtain ⟨rfl,rfl,rfl⟩:=hcs;have hmm2:m=cap:=hmm;rw [Qfm] at hx;have hr:∀ i,i<len→∃ r:Po,(∀ j,j<4→W.cell? ((x.add (i*4)).add j)=r.cells.toList[j]?)∧PoOk W r∧PoTx r:=fun i hi=>by
   obtain ⟨cs',h1,h2⟩:=hx i (by omega)
   obtain ⟨r,rfl,hw⟩:=al_open_pool h2;exact ⟨r,(World.cells?_some h1).2.2,hw⟩
  obtain ⟨f,hf⟩:=@Go.Deep.choose_lt Po ⟨po0⟩ _ _ hr;have hget:∀ k,k<len→((List.range len).map f).getD k po0=f k:=fun k hk=>by simp [List.getD,hk]
  have hlen:((List.range len).map f).length=len:=by simp
  refine ⟨(List.range len).map f,hlen,⟨by rw [hlen];exact hl,?_,?_⟩,?_,Nat.le_trans hl hm⟩
  ·by_cases h0:len=0
   ·subst h0;exact .inl rfl
   ·right
    obtain ⟨b,off,spot⟩:=x;have hc:W.cell? ⟨b,off,spot⟩=some (.string (f 0).acc):=(hf 0 (by omega)).1 0 (by omega)
    have hspot:spot=none:=World.cell?_spot hc;subst hspot;refine ⟨b,off,rfl,World.block_lt_of_cell? _ _ hc,fun k hk=>?_⟩
    rw [hlen] at hk;rw [hget k hk];have C:∀ i,i<4→W.cell? ⟨b,off+k*4+i,none⟩=(f k).cells.toList[i]?:=fun i hi=>by
     have:=(hf k hk).1 i hi
     rw [Qjl,Qjl] at this;exact this
    exact ⟨C 0 (by omega),C 1 (by omega),C 2 (by omega),C 3 (by omega)⟩
  ·intro y hy;obtain ⟨k,hk,rfl⟩:=List.mem_map.1 hy;exact (hf k (List.mem_range.1 hk)).2.1
  ·intro y hy;obtain ⟨k,hk,rfl⟩:=List.mem_map.1 hy;exact (hf k (List.mem_range.1 hk)).2.2
end
end
section
open Go.ChangeShapes Go.WideShapes Go.RowKit Go.ChangeAt Go.Deep Go.Proofs.Tryz
open Go.ChangeMaps (open_string shut_string)
theorem crp_own:ownKnob prog.godebug=none:=by kernel_rfl
theorem Qcb:laidOutB prog=true:=by kernel_rfl
def Qdj (d:DataW Unit):Array Value:=
 match d with
 | .agg l=>(l.map fun x=>match x with
  | .lit (.int k z)=>Value.int k z
  | _=>.bool false).toArray
 | _=>#[]
def QfS (cs:Array Value) (o:Obj):Obj:=
 match o with
 | .cells _ t frozen=>.cells cs t frozen
 | o=>o
theorem crp_et : prog.globalNamed "errors.errorType" = some 0 := by kernel_rfl
theorem crp_rt : (prog.cutTypes.find? (·.1 == "internal/reflectlite.rtype")).map (·.2) = some 261 := by kernel_rfl
theorem crp_oneRow:((List.range 357).filter fun t=>prog.rowNamed t [101,114,114,111,114])=[30]:=by kernel_rfl
theorem crp_size:prog.types.size=357:=by kernel_rfl
theorem crp_handle {W:World} (h:laidMetH prog Rows.closeRestsRow.laid W):ErrT W:=by
 have h' : laidMet prog [("math/bits.deBruijn32tab", Rows.laid_math_bits_deBruijn32tab), ("math/bits.deBruijn64tab", Rows.laid_math_bits_deBruijn64tab), ("internal/strconv.uint64pow10", Rows.laid_internal_strconv_uint64pow10)] W ∧ handlesMet prog [("errors.errorType", Rows.laid_errors_errorType)] W := h;obtain ⟨name,u,ty,e1,e2,e3,e4,e5⟩:=h'.2 _ (List.mem_singleton.2 rfl);have en:name=[101,114,114,111,114]:=(Option.some.inj e1).symm
 subst en;obtain rfl:=Option.some.inj (crp_rt.symm.trans e2);have hm:ty∈(List.range 357).filter fun t=>prog.rowNamed t [101,114,114,111,114]:=List.mem_filter.2 ⟨List.mem_range.2 (by rw [← crp_size];exact e3),e4⟩
 rw [crp_oneRow] at hm;obtain rfl:=List.mem_singleton.1 hm;have hh:typeHandle prog 30=.pointer (some ⟨6,30,none⟩):=by kernel_rfl
 rw [hh] at e5;unfold ErrT;simpa using World.var?_cell crp_et e5 0
theorem crp_gTab : prog.globalNamed "internal/strconv.uint64pow10" = some 1 := by kernel_rfl
theorem crp_gType:(prog.globals[1]?).map (·.type)=some 281:=by kernel_rfl
theorem crp_cellsT:prog.cellsOf 281=20:=by kernel_rfl
theorem crp_cellsE:prog.cellsOf 242=1:=by kernel_rfl
theorem crp_table {W:World} (h:laidMetH prog Rows.closeRestsRow.laid W):Qgj W:=by
 have h1 : laidMet prog [("math/bits.deBruijn32tab", Rows.laid_math_bits_deBruijn32tab), ("math/bits.deBruijn64tab", Rows.laid_math_bits_deBruijn64tab), ("internal/strconv.uint64pow10", Rows.laid_internal_strconv_uint64pow10)] W := (show laidMet prog [("math/bits.deBruijn32tab", Rows.laid_math_bits_deBruijn32tab), ("math/bits.deBruijn64tab", Rows.laid_math_bits_deBruijn64tab), ("internal/strconv.uint64pow10", Rows.laid_internal_strconv_uint64pow10)] W ∧ handlesMet prog [("errors.errorType", Rows.laid_errors_errorType)] W from h).1
 have h2 : laidMet prog (("internal/strconv.uint64pow10", Lib.tabData .u64 Lib.pow10Tab) :: []) W := (laidMet.tail (laidMet.tail h1));exact Lib.tabIs_of_head crp_gTab crp_gType underlying281 underlying242 crp_cellsE crp_cellsT h2
theorem crp_met (os:Os) (args:Array Value):laidMetH prog Rows.closeRestsRow.laid ((({ World.holding prog os ⟨#[],#[],[]⟩ with heap:=((((World.holding prog os ⟨#[],#[],[]⟩).heap.modify 4 (QfS (Qdj Rows.laid_math_bits_deBruijn32tab))).modify 5 (QfS (Qdj Rows.laid_math_bits_deBruijn64tab))).modify 1 (QfS (Qdj Rows.laid_internal_strconv_uint64pow10))).modify 0 fun | .cells _ t frozen=>.cells #[.iface 261 (.agg #[.pointer (some ⟨6,30,none⟩)])] t frozen | o=>o }:World).forCall (fun _ _=>0) ⟨#[],args,[]⟩).memory):=
 laidMetH_of_parts (laidMet_of_run' 8 (by kernel_rfl) (by kernel_rfl)) (by kernel_rfl)
set_option maxRecDepth 100000 in
theorem crp_lifted (os:Os) (started:os.Started) (H:Type) (enc:TypeId×Value→H) :
  ReturnsInHanded {} Tryz.checked os 3 .any (fun w args=>(Rows.closeRestsSpec.pre enc prog Tryz.f3 [] false w args∧laidMetH prog Rows.closeRestsRow.laid w)∧sizedMet enc prog Tryz.f3 (OpenSpec.ofChange Rows.closeRestsSpec) false w args)
   (Rows.closeRestsSpec.post enc prog Tryz.f3 false true false false):=by
 refine returnsInHanded_of_change_and (C:=Tryz.checked) (X:=fun w _=>laidMetH prog Rows.closeRestsRow.laid w) (fun _ _ _ hh h=>h.of_heap hh) crp_own started (by kernel_rfl) func3
  (ChangeSpec.witness_at (enc:=enc) (C:=Tryz.checked) (os:=os) (X:=fun w _=>laidMetH prog Rows.closeRestsRow.laid w) false ({ World.holding prog os ⟨#[],#[],[]⟩ with heap:=((((World.holding prog os ⟨#[],#[],[]⟩).heap.modify 4 (QfS (Qdj Rows.laid_math_bits_deBruijn32tab))).modify 5 (QfS (Qdj Rows.laid_math_bits_deBruijn64tab))).modify 1 (QfS (Qdj Rows.laid_internal_strconv_uint64pow10))).modify 0 fun | .cells _ t frozen=>.cells #[.iface 261 (.agg #[.pointer (some ⟨6,30,none⟩)])] t frozen | o=>o }:World) #[.slice none 0 0,.slice none 0 0,.slice none 0 0,.slice none 0 0,.slice none 0 0,.slice none 0 0,.int .i64 0] 8 rfl (by kernel_rfl) (by kernel_rfl) (by kernel_rfl) (by kernel_rfl) (by kernel_rfl) (crp_met os _)) ?_
 intro W base args ds gs before hval0 hW hcnd hsz0 hL _;have hg:=crp_handle hL;have ht:=crp_table hL;clear hsz0;have hval:∀ (j:Nat) t v,Tryz.f3.params[j]? = some t→args[j]? = some v→Value.okWide prog W .any base t v:=hval0;have hW':=hW;obtain ⟨p,q,hA0,hV,rfl,hfz,hnd⟩:=hW;have hA:DataW.TrodAll enc prog W 0 (fun _=>true) true Tryz.f3.params.toList args.toList ds p:=hA0
 rw [Tryz.params3] at hA hval;obtain ⟨v0,vs0,d0,ds0,p0,q0,hargs,rfl,rfl,h0,r0⟩:=trodAll_cons hA;obtain ⟨v1,vs1,d1,ds1,p1,q1,rfl,rfl,rfl,h1,r1⟩:=trodAll_cons r0;obtain ⟨v2,vs2,d2,ds2,p2,q2,rfl,rfl,rfl,h2,r2⟩:=trodAll_cons r1;obtain ⟨v3,vs3,d3,ds3,p3,q3,rfl,rfl,rfl,h3,r3⟩:=trodAll_cons r2;obtain ⟨v4,vs4,d4,ds4,p4,q4,rfl,rfl,rfl,h4,r4⟩:=trodAll_cons r3;obtain ⟨v5,vs5,d5,ds5,p5,q5,rfl,rfl,rfl,h5,r5⟩:=trodAll_cons r4
 obtain ⟨v6,vs6,d6,ds6,p6,q6,rfl,rfl,rfl,h6,r6⟩:=trodAll_cons r5;obtain ⟨rfl,rfl,rfl⟩:=trodAll_nil r6;obtain rfl:args=#[v0,v1,v2,v3,v4,v5,v6]:=by cases args;simp_all
 obtain ⟨rfl,rfl⟩:=trodVars_none hV;obtain ⟨a0,len0,cap0,rfl⟩:=okWide_slice underlying22 (hval 0 22 v0 rfl rfl);have k0:=h0;have lt0:∀ x∈p0,x.block<W.heap.size:=by obtain ⟨m,hm⟩:=k0;exact DataW.trod_lt m _ _ _ hm
 obtain ⟨l0,hl0,ho0,hi0⟩:∃ l:List Ac,l.length=len0∧(∀ k,k<l.length→AcOk (l.getD k ac0))∧QbJ W a0 l cap0:=by
  obtain ⟨fuel,hf⟩:=h0;exact acs_of_trod hf
 subst hl0;obtain ⟨a1,len1,cap1,rfl⟩:=okWide_slice underlying23 (hval 1 23 v1 rfl rfl);have k1:=h1;have lt1:∀ x∈p1,x.block<W.heap.size:=by obtain ⟨m,hm⟩:=k1;exact DataW.trod_lt m _ _ _ hm
 obtain ⟨l1,hl1,hi1,ho1,hm1⟩:∃ l:List Rt,l.length=len1∧IsRt W a1 l cap1∧RtsOk l∧len1≤maxLen:=by
  obtain ⟨fuel,hf⟩:=h1;exact rts_of_trod hf
 subst hl1;have hb1:l1.length≤9223372036854775807:=by unfold maxLen at hm1;exact hm1
 obtain ⟨a2,len2,cap2,rfl⟩:=okWide_slice underlying24 (hval 2 24 v2 rfl rfl);have k2:=h2;have lt2:∀ x∈p2,x.block<W.heap.size:=by obtain ⟨m,hm⟩:=k2;exact DataW.trod_lt m _ _ _ hm
 obtain ⟨l2,hl2,hi2,ho2,hm2⟩:∃ l:List Pn,l.length=len2∧Qe6 W a2 l cap2∧(∀ x∈l,PnOk x)∧len2≤maxLen:=by
  obtain ⟨fuel,hf⟩:=h2;exact pns_of_trod hf
 subst hl2;have hb2:l2.length≤9223372036854775807:=by unfold maxLen at hm2;exact hm2
 obtain ⟨a3,len3,cap3,rfl⟩:=okWide_slice underlying25 (hval 3 25 v3 rfl rfl);have k3:=h3;have lt3:∀ x∈p3,x.block<W.heap.size:=by obtain ⟨m,hm⟩:=k3;exact DataW.trod_lt m _ _ _ hm
 obtain ⟨l3,hl3,hi3,ho3,hm3⟩:∃ l:List Po,l.length=len3∧QgV W a3 l cap3∧(∀ p∈l,PoTx p)∧len3≤maxLen:=by
  obtain ⟨fuel,hf⟩:=h3;exact pos_of_trod hf
 subst hl3;have hb3:l3.length≤9223372036854775807:=by unfold maxLen at hm3;exact hm3
 obtain ⟨a4,len4,cap4,rfl⟩:=okWide_slice underlying26 (hval 4 26 v4 rfl rfl);have k4:=h4;have lt4:∀ x∈p4,x.block<W.heap.size:=by obtain ⟨m,hm⟩:=k4;exact DataW.trod_lt m _ _ _ hm
 obtain ⟨l4,hl4,hi4,ho4,hm4⟩:∃ l:List Pr,l.length=len4∧QfP W a4 l cap4∧(∀ x∈l,PrOk x)∧len4≤maxLen:=by
  obtain ⟨fuel,hf⟩:=h4;exact prs_of_trod hf
 subst hl4;have hb4:l4.length≤9223372036854775807:=by unfold maxLen at hm4;exact hm4
 obtain ⟨a5,len5,cap5,rfl⟩:=okWide_slice underlying27 (hval 5 27 v5 rfl rfl);have k5:=h5;have lt5:∀ x∈p5,x.block<W.heap.size:=by obtain ⟨m,hm⟩:=k5;exact DataW.trod_lt m _ _ _ hm
 obtain ⟨l5,hl5,hi5,ho5,hm5⟩:∃ l:List Je,l.length=len5∧QdF W a5 l cap5∧True∧len5≤maxLen:=by
  obtain ⟨fuel,hf⟩:=h5;exact jes3_of_trod hf
 subst hl5;have hb5:l5.length≤9223372036854775807:=by unfold maxLen at hm5;exact hm5
 obtain ⟨x6,rfl,rfl,rfl,w6⟩:=open_int underlying3 (hval 6 3 v6 rfl rfl) h6;have wb6:=bounds_i64 w6;clear hA0 hval0;refine (rests_walk_cl a0 a1 a2 a3 a4 a5 cap0 cap1 cap2 cap3 cap4 cap5 l0 l1 l2 l3 l4 l5 x6 W hi0 hi1 ho1 hi2 hb2 hi3 hb3 hi4 hb4 hi5 hb5 ht hg).mono fun e W' ⟨he,bel⟩=>?_
 subst he;exact ⟨_,rfl,_,_,_,[],_,[],hW',trodAll_mk1 (shut_bool underlying4 _),(trodAll_cons_mk (Below.trod Qcb (by kernel_rfl) (of_decide_eq_true (by kernel_rfl)) k0 bel lt0) (trodAll_cons_mk (Below.trod Qcb (by kernel_rfl) (of_decide_eq_true (by kernel_rfl)) k1 bel lt1) (trodAll_cons_mk (Below.trod Qcb (by kernel_rfl) (of_decide_eq_true (by kernel_rfl)) k2 bel lt2) (trodAll_cons_mk (Below.trod Qcb (by kernel_rfl) (of_decide_eq_true (by kernel_rfl)) k3 bel lt3) (trodAll_cons_mk (Below.trod Qcb (by kernel_rfl) (of_decide_eq_true (by kernel_rfl)) k4 bel lt4) (trodAll_cons_mk (Below.trod Qcb (by kernel_rfl) (of_decide_eq_true (by kernel_rfl)) k5 bel lt5) (trodAll_cons_mk (shut_int underlying3 w6) trodAll_mk0))))))),rfl,bel.frame _,fun h=>by cases h⟩
theorem crp_over:Rows.CloseRestsSaid:=
 OpenClaim.holds_of_wide 3 Tryz.f3 rfl rfl rfl rfl rfl rfl rfl ⟨rfl,rfl,rfl,rfl,rfl⟩ rfl rfl rfl rfl rfl (by kernel_rfl) func3 (by kernel_rfl)
  (of_decide_eq_true (by kernel_rfl)) (by unfold Func.isWrapper;first | (rw [if_pos (by decide +kernel)];kernel_rfl) | (rw [if_neg (by decide +kernel)];exact ⟨rfl,rfl⟩))
  (fun os started H enc _=>crp_lifted os started H enc)
theorem closeRests_holds:Rows.CloseRestsCardSaid:=
 Claim7.holds_tied_plain_at .later [] [.data,.data,.data,.handle] true _ true
  crp_over (fun _ h=>by cases h) (by kernel_rfl) (fun _ h=>by cases h) closeRests_row_tie rfl ⟨rfl,rfl⟩ (by kernel_rfl) rfl
  (fun f fn hf hfn=>by
   obtain rfl : f = 3 := Option.some.inj ((show prog.funcNamed "quarterday/daylaw3.CloseRests" = some 3 by kernel_rfl).symm.trans hf) |>.symm
   obtain rfl:fn=Tryz.f3:=(Option.some.inj (func3.symm.trans hfn)).symm;exact ⟨by kernel_rfl,fun j t ht=>by
    rw [Tryz.params3] at ht;have h3:t=22∨t=23∨t=24∨t=25∨t=26∨t=27∨t=3:=by
     rcases j with _ | _ | _ | _ | _ | _ | _ | j
     ·exact (.inl (by simpa using ht.symm))
     ·exact (.inr (.inl (by simpa using ht.symm)))
     ·exact (.inr (.inr (.inl (by simpa using ht.symm))))
     ·exact (.inr (.inr (.inr (.inl (by simpa using ht.symm)))))
     ·exact (.inr (.inr (.inr (.inr (.inl (by simpa using ht.symm))))))
     ·exact (.inr (.inr (.inr (.inr (.inr (.inl (by simpa using ht.symm)))))))
     ·exact (.inr (.inr (.inr (.inr (.inr (.inr (by simpa using ht.symm)))))))
     ·simp at ht
    rcases h3 with rfl | rfl | rfl | rfl | rfl | rfl | rfl
    ·exact (show prog.wantsStandIn 22=false by kernel_rfl)
    ·exact (show prog.wantsStandIn 23=false by kernel_rfl)
    ·exact (show prog.wantsStandIn 24=false by kernel_rfl)
    ·exact (show prog.wantsStandIn 25=false by kernel_rfl)
    ·exact (show prog.wantsStandIn 26=false by kernel_rfl)
    ·exact (show prog.wantsStandIn 27=false by kernel_rfl)
    ·exact (show prog.wantsStandIn 3=false by kernel_rfl)⟩)
  (by kernel_rfl)
#print axioms closeRests_holds
end
end Go.Proofs.YtibhgngboljhfaaGreatDoor
