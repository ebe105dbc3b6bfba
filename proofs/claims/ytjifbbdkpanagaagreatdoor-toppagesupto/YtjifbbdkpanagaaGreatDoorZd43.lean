/-
  Part of a proof (see the last text).
-/
import Derived.Test.YtjifbbdkpanagaaGreatDoorZd42
set_option linter.unusedVariables false
set_option linter.unusedSimpArgs false
set_option maxRecDepth 100000
namespace Go.Proofs.YtjifbbdkpanagaaGreatDoor
section
open Go.RowKit Go.Lib Go.Proofs.Tryz
theorem or_byte (x y:Nat) (h0:x<1000000000) (h1:y<256):bits .or .i64 ((x:Int)*256) (y:Int)=((x*256+y:Nat):Int):=by
 rw [show (x:Int)*256=((x*256:Nat):Int) by omega]
 have e1:(BitVec.ofInt 64 ((x*256:Nat):Int)).toNat=x*256:=by
  rw [BitVec.ofInt_natCast,BitVec.toNat_ofNat];exact Nat.mod_eq_of_lt (by omega)
 have e2:(BitVec.ofInt 64 (y:Int)).toNat=y:=by
  rw [BitVec.ofInt_natCast,BitVec.toNat_ofNat];exact Nat.mod_eq_of_lt (by omega)
 show IntKind.i64.wrap ((BitVec.ofInt 64 ((x*256:Nat):Int) ||| BitVec.ofInt 64 (y:Int)).toNat:Int)=_;have h3:=Nat.two_pow_add_eq_or_of_lt (i:=8) (b:=y) (by omega) x
 rw [show 2 ^ 8*x=x*256 by omega] at h3
 rw [BitVec.toNat_or,e1,e2,← h3,IntKind.wrap_i64];omega
theorem var_head {u:World} {B:Nat} {h:Hd} (k:h.ok) (hr:u.heap[B]? = some (.cells h.cells.toArray 80 (0,0))):(loadVar 80 ⟨B,0,none⟩).run prog u=.ok (.agg h.cells.toArray) u:=by
 have:=Qa5 k (QdG hr)
 simpa [Instr.loadAt,Instr.sureAddr] using this
theorem Qbp {fn:Func} {p u:Tmp} (hf:fn.results=#[.cell p 80,.tmp u]) (tmps:Array Value) {w:World} {B:Nat} {h:Hd} (k:h.ok) (hp:tmps.getD p undef=.pointer (some ⟨B,0,none⟩)) (hr:w.heap[B]? = some (.cells h.cells.toArray 80 (0,0))) :
  (results fn tmps).run prog w=.ok (.tuple #[.agg h.cells.toArray,tmps.getD u undef]) w:=by
 rw [results_cell_tmp hf,hp];simp [asAddr,var_head k hr,Result.andThen]
theorem Qc4 {u:World} {B:Nat} {h h':Hd} (k:h.ok) (k':h'.ok) (hb:u.heap[B]? = some (.cells h'.cells.toArray 80 (0,0))) :
  (Instr.storeAt 80 (.pointer (some ⟨B,0,none⟩)) (.agg h.cells.toArray)).run prog u=.ok () (u.setRow B h.cells.toArray):=by
 have:=QiH (o:=0) k hb (by rw [Hd.cells_length k'];omega)
 rw [this,List.take_zero,List.nil_append,List.drop_eq_nil_of_le (by rw [Hd.cells_length k'];omega),List.append_nil]
theorem Qbt {u w:World} {B:Nat} {cs:Array Value} (hb:Below w.heap.size w u) (hB:w.heap.size≤B):Below w.heap.size w (u.setRow B cs):=hb.trans ⟨rfl,rfl,rfl,by simp,fun k hk=>setRow_other _ _ _ _ (by omega)⟩
def hdAt (D:Dk) (i:Nat) (o:Option Hd):Prop:=match o with
 | none=>(D.now.getD i bk0).torn=true∨D.now.getD i bk0=bk0
 | some h=>D.now.getD i bk0=⟨QdN (hdB h),false⟩∧h.ok∧h.blk=i
def hdV (o:Option Hd):Value:=.agg ((o.getD hd0).cells).toArray
section
variable {w W:World} {p nb sb:Nat} {cv:Value} {n:Nat} {D:Dk}
theorem readHead_torn (a:Tn w W p nb sb cv n D) (i:Nat) (hi:i<n) (ht:(D.now.getD i bk0).torn=true) :
  Calls prog 63 #[.pointer (some ⟨p,0,none⟩),.int .i64 (i:Int)] W fun e w'=>e=.returned (.tuple #[.agg hd0.cells.toArray,.bool false])∧Hid (Below W.heap.size W w'):=by
 have hal:=Qb1;obtain ⟨W0,hW0⟩:∃ W0,W.alloc (.cells hd0.cells.toArray 80)=W0:=⟨_,rfl⟩;have hb0:Below W.heap.size W W0:=by rw [← hW0];exact (Below.refl _ W).alloc (Nat.le_refl _) _
 have hr0:W0.heap[W.heap.size]? = some (.cells hd0.cells.toArray 80 (0,0)):=by rw [← hW0];exact Qai W _
 have HR:Hid (Calls _ _ _ W0 _):=tn_readTorn (a.below hb0) i hi ht;rw [QaF (by decide)] at HR
 have hbd:=QhQ;have HB:Hid (Below W.heap.size W W0):=hb0;have Hr0:Hid (W0.heap[W.heap.size]? = some (.cells hd0.cells.toArray 80 (0,0))):=hr0;clear a ht hb0 hr0;go_enter func63,ntmps63
 go_wp2_with (refine Qae rfl 80 rfl (hal _) ?_);refine HR.out.mono ?_;rintro e w1 ⟨rfl,_,hs⟩;have hr1:w1.heap[W.heap.size]? = some (.cells hd0.cells.toArray 80 (0,0)):=by rw [hs.out.heap];exact Hr0.out
 have hst:=Qc4 Qb5 Qb5 hr1;have HE:Hid ((w1.setRow W.heap.size hd0.cells.toArray).heap[W.heap.size]? = some (.cells hd0.cells.toArray 80 (0,0))∧Below W.heap.size W (w1.setRow W.heap.size hd0.cells.toArray)):=⟨setRow_heap w1 _ _ _ _ _ hr1,Qbt (HB.out.trans (hs.out.below _)) (Nat.le_refl _)⟩;clear HR hr1;go_wp2_with (first | (refine Qbj rfl 80 #[] rfl #[] (by simp) (hbd _) ?_) | (refine Qac rfl 80 _ _ rfl _ _ (by rfl) (by rfl) hst ?_))
 refine bodyPost_ret (Qbp rfl _ Qb5 (by rfl) HE.out.1) rfl ?_
 exact ⟨rfl,HE.out.2⟩
theorem zero_mark:((txt (List.replicate 8 0)).toList == [113,100,32,112,97,103,101,115])=false:=by
 rw [ByteArray.toList_eq];decide
theorem mark_mark:((txt Qbz).toList == [113,100,32,112,97,103,101,115])=true:=by
 rw [ByteArray.toList_eq];decide
theorem readHead_zero (a:Tn w W p nb sb cv n D) (i:Nat) (hi:i<n) (ht:D.now.getD i bk0=bk0) :
  Calls prog 63 #[.pointer (some ⟨p,0,none⟩),.int .i64 (i:Int)] W fun e w'=>e=.returned (.tuple #[.agg hd0.cells.toArray,.bool false])∧Hid (Below W.heap.size W w'):=by
 have hal:=Qb1;obtain ⟨W0,hW0⟩:∃ W0,W.alloc (.cells hd0.cells.toArray 80)=W0:=⟨_,rfl⟩;have hb0:Below W.heap.size W W0:=by rw [← hW0];exact (Below.refl _ W).alloc (Nat.le_refl _) _
 have hr0:W0.heap[W.heap.size]? = some (.cells hd0.cells.toArray 80 (0,0)):=by rw [← hW0];exact Qai W _
 have HR:Hid (Calls _ _ _ W0 _):=tn_read (a.below hb0) i hi (by rw [ht];rfl)
 rw [ht] at HR;have hbd:=QhQ;have HB:Hid (Below W.heap.size W W0):=hb0;have Hr0:Hid (W0.heap[W.heap.size]? = some (.cells hd0.cells.toArray 80 (0,0))):=hr0;have hs0:W0.heap.size=W.heap.size+1:=by rw [← hW0];simp
 obtain ⟨T,hT⟩:∃ T,txt (List.replicate 8 0)=T:=⟨_,rfl⟩;have hmk:=zero_mark;rw [hT] at hmk;clear a ht hb0 hr0;go_enter func63,ntmps63
 go_wp2_with (refine Qae rfl 80 rfl (hal _) ?_);refine HR.out.mono ?_;rintro e w1 ⟨rfl,_,hrow,hs⟩;have hr1:w1.heap[W.heap.size]? = some (.cells hd0.cells.toArray 80 (0,0)):=(hs.out.block _ (by rw [hs0];exact Nat.lt_succ_self _)).trans Hr0.out
 have hst:=Qc4 Qb5 Qb5 hr1;have HE:Hid ((w1.setRow W.heap.size hd0.cells.toArray).heap[W.heap.size]? = some (.cells hd0.cells.toArray 80 (0,0))∧Below W.heap.size W (w1.setRow W.heap.size hd0.cells.toArray)):=⟨setRow_heap w1 _ _ _ _ _ hr1,Qbt (HB.out.trans (hs.out.mono HB.out.size)) (Nat.le_refl _)⟩;have hstr:=run_str w1 (some ⟨W0.heap.size,0,none⟩) (List.replicate 8 0) 64 (by
  have:=isBy_row hrow.out 8 (by simp [bk0]) 64 (by omega)
  simpa [bk0] using this)
 simp only [List.length_replicate] at hstr;rw [hs0,hT] at hstr;clear HR hr1 hrow;go_wp2_with (first | (refine Qbj rfl 80 #[] rfl #[] (by simp) (hbd _) ?_) | (refine Qac rfl 80 _ _ rfl _ _ (by rfl) (by rfl) hst ?_))
 refine bodyPost_ret (Qbp rfl _ Qb5 (by rfl) HE.out.1) rfl ?_
 exact ⟨rfl,HE.out.2⟩
theorem hd_take (h:Hd) (k:h.ok):(QdN (hdB h)).take 8=Qbz:=by
 unfold QdN hdB;rw [List.append_assoc,List.append_assoc,List.append_assoc,List.take_append_of_le_length (by decide)]
 rfl
theorem hd_turn (h:Hd) (k:h.ok):(QdN (hdB h))[8]? = some h.turn:=by
 unfold QdN hdB;rw [List.append_assoc,List.append_assoc,List.append_assoc];rfl
theorem hd_ver (h:Hd) (k:h.ok) (i:Nat) (hi:i<8):(QdN (hdB h))[9+i]? = some (UInt8.ofNat (h.ver / 2 ^ (56 - 8*i))):=by
 unfold QdN hdB;rw [List.append_assoc,List.append_assoc,List.getElem?_append_right (by simp [Qbz]),List.getElem?_append_left (by simp [Qbz,Qbe];omega)]
 simp [Qbz,verB,hi]
theorem hd_whr (h:Hd) (k:h.ok) (i:Nat) (hi:i<h.whr.length):(QdN (hdB h))[17+i]? = some h.whr[i]:=by
 unfold QdN hdB;rw [List.append_assoc,List.getElem?_append_right (by simp [Qbz,Qbe]),List.getElem?_append_left (by simp [Qbz,Qbe];omega)]
 simp [Qbz,Qbe,hi]
end
end
section
open Go.RowKit Go.Lib Go.Proofs.Tryz
section
variable {w W:World} {p nb sb:Nat} {cv:Value} {n:Nat} {D:Dk}
theorem ver_step (v k:Nat) (hv:v≤1000000) (hk:k<8):bits .or .i64 (((v / 2 ^ (64 - 8*k):Nat):Int)*256) ((v / 2 ^ (56 - 8*k) % 256:Nat):Int)=((v / 2 ^ (64 - 8*(k+1)):Nat):Int):=by
 have h1:v / 2 ^ (64 - 8*k)≤v:=Nat.div_le_self _ _;rw [or_byte _ _ (by omega) (by omega)]
 have e1:64 - 8*k=(56 - 8*k)+8:=by omega
 have e2:64 - 8*(k+1)=56 - 8*k:=by omega
 rw [e1,e2,Nat.pow_add,← Nat.div_div_eq_div_mul];omega
set_option maxHeartbeats 4000000 in
theorem readHead_some (a:Tn w W p nb sb cv n D) (i:Nat) (hi:i<n) (h:Hd) (k:h.ok) (hb:h.blk=i) (hp:D.now.getD i bk0=⟨QdN (hdB h),false⟩) :
  Calls prog 63 #[.pointer (some ⟨p,0,none⟩),.int .i64 (i:Int)] W fun e w'=>e=.returned (.tuple #[.agg h.cells.toArray,.bool true])∧Hid (Below W.heap.size W w'):=by
 have hal:=Qb1;obtain ⟨W0,hW0⟩:∃ W0,W.alloc (.cells hd0.cells.toArray 80)=W0:=⟨_,rfl⟩;have hb0:Below W.heap.size W W0:=by rw [← hW0];exact (Below.refl _ W).alloc (Nat.le_refl _) _
 have hr0:W0.heap[W.heap.size]? = some (.cells hd0.cells.toArray 80 (0,0)):=by rw [← hW0];exact Qai W _
 have HR:Hid (Calls _ _ _ W0 _):=tn_read (a.below hb0) i hi (by rw [hp])
 rw [hp] at HR;have hbd:=Qip i h.turn;have HB:Hid (Below W.heap.size W W0):=hb0;have Hr0:Hid (W0.heap[W.heap.size]? = some (.cells hd0.cells.toArray 80 (0,0))):=hr0;have hs0:W0.heap.size=W.heap.size+1:=by rw [← hW0];simp
 obtain ⟨T,hT⟩:∃ T,txt Qbz=T:=⟨_,rfl⟩;have hmk:=mark_mark;rw [hT] at hmk;obtain ⟨h1,hh1⟩:∃ h1:Hd,Hd.mk i h.turn 0 (List.replicate 40 0)=h1:=⟨_,rfl⟩;have k1:h1.ok:=by rw [← hh1];exact ⟨by rw [← hb];exact k.b,by simp,by simp⟩
 rw [hh1] at hbd;have HK:Hid h.ok:=k;clear a hp hb0 hr0;go_enter func63,ntmps63
 go_wp2_with (refine Qae rfl 80 rfl (hal _) ?_);refine HR.out.mono ?_;rintro e w1 ⟨rfl,_,hrow,hs⟩;have hr1:w1.heap[W.heap.size]? = some (.cells hd0.cells.toArray 80 (0,0)):=(hs.out.block _ (by rw [hs0];exact Nat.lt_succ_self _)).trans Hr0.out
 have hstr:=run_str w1 (some ⟨W0.heap.size,0,none⟩) Qbz 64 (by
  have:=isBy_row hrow.out 8 (by show 8≤(QdN (hdB h)).length;rw [QeI _ (by rw [QiS k];omega)];omega) 64 (by omega)
  rw [hd_take h k] at this;exact this)
 rw [hs0,hT] at hstr;have hstr8:(convert 29 9 (.slice (some ⟨W.heap.size+1,0,none⟩) 8 64)).run prog w1=.ok (.string T) w1:=hstr;have Hcell:Hid (∀ (U:World),U.heap[W.heap.size+1]? = w1.heap[W.heap.size+1]?→∀ j x,(QdN (hdB h))[j]? = some x→U.cell? ⟨W.heap.size+1,j,none⟩=some (.int .u8 (x.toNat:Int))):=fun U hU j x hx=>by
  rw [cell_of_row U _ _ _ _ (0,0) (hU.trans (by rw [← hs0];exact hrow.out)),List.getElem?_toArray]
  have hj:=(List.getElem?_eq_some_iff.1 hx).1;have he:=(List.getElem?_eq_some_iff.1 hx).2;rw [Qb0 _ _ hj,he]
 have c8:=Hcell.out w1 rfl 8 h.turn (hd_turn h k);have B1:Hid (Below W.heap.size W w1):=HB.out.trans (hs.out.mono HB.out.size);obtain ⟨B,hB⟩:∃ B,w1.heap.size=B:=⟨_,rfl⟩;have hB2:W.heap.size+1<B:=by
  have:=(Array.getElem?_eq_some_iff.1 hrow.out).1
  rw [hs0] at this;omega
 have hstn:=fun U=>run_storeAt_new (P:=prog) U 80 hd0.cells.toArray h1.cells.toArray (by rw [List.size_toArray,Hd.cells_length k1];exact QbT) (by rw [List.size_toArray,List.size_toArray,Hd.cells_length Qb5,Hd.cells_length k1]) (all_oneCell_toArray (Hd.cells_one _))
 have H1:Hid ((w1.alloc (.cells h1.cells.toArray 80)).heap[B]? = some (.cells (Hd.mk i h.turn (h.ver / 2 ^ 64) (List.replicate 40 0)).cells.toArray 80 (0,0))∧Below w1.heap.size w1 (w1.alloc (.cells h1.cells.toArray 80))):=by
  refine ⟨?_,(Below.refl _ w1).alloc (Nat.le_refl _) _⟩;rw [← hB,Qai,← hh1,show h.ver / 2 ^ 64=0 from Nat.div_eq_of_lt (by have:=k.v;omega)]
 have Hr1:Hid (w1.heap[W.heap.size]? = some (.cells hd0.cells.toArray 80 (0,0))):=hr1;clear HR hrow hs hstr HB Hr0 hr1;generalize h1.cells.toArray=C1 at *
 obtain ⟨C0,hC0⟩:∃ C0,hd0.cells.toArray=C0:=⟨_,rfl⟩;rw [hC0] at hal hstn hW0;clear hW0;go_wp2_with (first | (refine Qbj rfl 80 #[(0,.tmp 26),(1,.tmp 29)] rfl #[(0,.int .i64 (i:Int)),(1,.int .u8 (h.turn.toNat:Int))] (by simp [Act.eval]) (hbd _) ?_) | (refine Qae rfl 80 rfl (hal _) ?_) | (refine Qac rfl 80 _ _ rfl _ _ (by rfl) (by rfl) (hstn _) ?_))
 obtain ⟨w2,hw2⟩:∃ w2,w1.alloc (.cells C1 80)=w2:=⟨_,rfl⟩;rw [hw2] at H1 ⊢;clear hw2 hstn hbd hal hstr8 c8;go_loopw [34] (fun v wr=>∃ q:Nat,q≤8∧v=.int .i64 q∧Hid (wr.heap[B]? = some (.cells (Hd.mk i h.turn (h.ver / 2 ^ (64 - 8*q)) (List.replicate 40 0)).cells.toArray 80 (0,0))∧(∀ b,b≠B→b<wr.heap.size→wr.heap[b]? = w2.heap[b]?)∧wr.heap.size=w2.heap.size∧wr.os=w2.os∧wr.tape=w2.tape∧wr.output=w2.output)) (fun v _=>8 - (RowKit.intOf v).toNat)
 case atStart=>exact ⟨0,by omega,rfl,H1.out.1,fun _ _ _=>rfl,rfl,rfl,rfl,rfl⟩
 case round=>
  obtain ⟨q,hq,rfl,H⟩:=hrel;obtain ⟨r1,r2,r3,r4⟩:=H.out;have hBs:B<wr.heap.size:=(Array.getElem?_eq_some_iff.1 r1).1;have hrow:wr.heap[W.heap.size+1]? = w1.heap[W.heap.size+1]?:=(r2 _ (by omega) (by omega)).trans (H1.out.2.block _ (by omega))
  by_cases hlt:q<8
  ·have cx:=Hcell.out wr hrow (9+q) _ (hd_ver h HK.out q hlt);rw [UInt8.toNat_ofNat',show (2:Nat) ^ 8=256 from rfl] at cx
   have cv2:wr.cell? ⟨B,2,none⟩=some (.int .i64 ((h.ver / 2 ^ (64 - 8*q):Nat):Int)):=by
    rw [cell_of_row wr B _ _ _ (0,0) r1];rfl
   have fv2:wr.frozen? ⟨B,2,none⟩=false:=by simp [World.frozen?,r1]
   have hst:=ver_step h.ver q HK.out.v hlt;have hlev:h.ver / 2 ^ (64 - 8*q)≤1000000:=Nat.le_trans (Nat.div_le_self _ _) HK.out.v;have HN:Hid ((wr.setCell ⟨B,2,none⟩ (.int .i64 ((h.ver / 2 ^ (64 - 8*(q+1)):Nat):Int))).heap[B]? = some (.cells (Hd.mk i h.turn (h.ver / 2 ^ (64 - 8*(q+1))) (List.replicate 40 0)).cells.toArray 80 (0,0))∧(∀ b,b≠B→b<(wr.setCell ⟨B,2,none⟩ (.int .i64 ((h.ver / 2 ^ (64 - 8*(q+1)):Nat):Int))).heap.size→(wr.setCell ⟨B,2,none⟩ (.int .i64 ((h.ver / 2 ^ (64 - 8*(q+1)):Nat):Int))).heap[b]? = w2.heap[b]?)∧(wr.setCell ⟨B,2,none⟩ (.int .i64 ((h.ver / 2 ^ (64 - 8*(q+1)):Nat):Int))).heap.size=w2.heap.size∧wr.os=w2.os∧wr.tape=w2.tape∧wr.output=w2.output):=by
    refine ⟨?_,fun b hb hbs=>?_,?_,r4⟩
    ·rw [setCell_eq_setRow wr B 2 _ _ (0,0) _ r1,setRow_heap wr B _ _ _ (0,0) r1];simp [Hd.cells]
    ·rw [Below.heap_setCell _ _ _ _ hb];exact r2 b hb (by simpa [World.setCell] using hbs)
    ·rw [← r3];simp [World.setCell]
   have q0:(0:Int)≤q:=by omega
   have q1:(q:Int)<8:=by omega
   have q2:((9+q:Nat):Int)=9+(q:Int):=by omega
   clear H r1 r2 r3 r4 hrow;obtain ⟨V',hV'⟩:∃ V',h.ver / 2 ^ (64 - 8*(q+1))=V':=⟨_,rfl⟩;rw [hV'] at hst HN;have HV':Hid (h.ver / 2 ^ (64 - 8*(q+1))=V'):=hV';clear hV';generalize h.ver / 2 ^ (64 - 8*q)=V at *
   have hX:h.ver / 2 ^ (56 - 8*q) % 256<256:=Nat.mod_lt _ (by omega)
   generalize h.ver / 2 ^ (56 - 8*q) % 256=X at *
   have x0:(0:Int)≤X:=by omega
   have x1:(X:Int)<256:=by omega
   have v0:(0:Int)≤V:=by omega
   have v1:(V:Int)≤1000000:=by omega
   go_wp2;go_roundw
   case rel=>exact ⟨q+1,by omega,by go_num,by unfold Hid;rw [HV'.out];exact HN.out⟩
   case measure=>simp [RowKit.intOf];omega
  ·have eq:q=8:=by omega
   subst eq;rw [show h.ver / 2 ^ (64 - 8*8)=h.ver by simp] at r1
   have hcp:∀ ty,(Builtin.copy_ #[29,29] ty #[.slice (some ⟨B,3,none⟩) 40 40,.slice (some ⟨W.heap.size+1,17,none⟩) 40 47]).run prog wr.drew=.ok (goInt 40) (wr.drew.setRow B h.cells.toArray):=fun ty=>by
    have hw:=HK.out.w
    have:=run_copy_row prog wr.drew 29 29 ty 5 B 3 40 40 ⟨W.heap.size+1,17,none⟩ 40 47 _ 80 (byC h.whr) underlying29 u8_one r1 (by rw [Qaf,hw];rfl) (fun j v hj=>by
     have hjl:j<h.whr.length:=by
      have:=(List.getElem?_eq_some_iff.1 hj).1
      rwa [Qaf] at this
     rw [Addr.add_mid]
     have:=Hcell.out wr.drew hrow (17+j) _ (hd_whr h HK.out j hjl)
     rw [this];rw [Qb0 _ _ hjl] at hj;exact hj) (by rw [Qaf,hw,List.size_toArray,Hd.cells_length (h:=Hd.mk i h.turn h.ver (List.replicate 40 0)) ⟨by show i≤1;rw [← hb];exact HK.out.b,HK.out.v,by simp⟩];omega) (QfI _)
    rw [Qaf,hw] at this;rw [this];congr 3;have e1:(Hd.mk i h.turn h.ver (List.replicate 40 0)).cells=[.int .i64 (i:Int),.int .u8 (h.turn.toNat:Int),.int .i64 (h.ver:Int)]++byC (List.replicate 40 0):=rfl;have e2:h.cells=[.int .i64 (i:Int),.int .u8 (h.turn.toNat:Int),.int .i64 (h.ver:Int)]++byC h.whr:=by rw [← hb];rfl
    rw [List.toList_toArray,e1,e2,List.take_left' (by rfl),List.drop_eq_nil_of_le (by simp [Qaf]),List.append_nil]
   have HN:Hid ((wr.drew.setRow B h.cells.toArray).heap[B]? = some (.cells h.cells.toArray 80 (0,0))∧(wr.drew.setRow B h.cells.toArray).heap[W.heap.size]? = some (.cells hd0.cells.toArray 80 (0,0))∧Below W.heap.size W (wr.drew.setRow B h.cells.toArray)):=by
    have hx:(wr.drew.setRow B h.cells.toArray).heap[W.heap.size]? = w2.heap[W.heap.size]?:=(setRow_other _ _ _ _ (by omega)).trans (r2 _ (by omega) (by omega))
    refine ⟨setRow_heap wr.drew _ _ _ _ _ r1,hx.trans ((H1.out.2.block _ (by omega)).trans Hr1.out),?_⟩
    have hb2:=B1.out.trans (H1.out.2.mono (by have:=B1.out.size;omega))
    exact hb2.trans ⟨r4.1,r4.2.1,r4.2.2,by simp [r3],fun b hbb=>(setRow_other _ _ _ _ (by omega)).trans (r2 b (by omega) (by omega))⟩
   clear H r1 r2 r3 r4 hrow;go_wp2;refine Qab (by kernel_rfl) ?_
   refine wpAny_take (i:=0) (v:=.pointer (some ⟨B,3,none⟩)) rfl (by kernel_rfl) (by kernel_rfl) (by kernel_rfl) (fun _ _ _ h=>h) (Or.inl ⟨by rfl,fun w=>by go_simp⟩) ?_
   simp only [Act.put,zq0,zq1,zq2,zq3,zq4,zq5];refine wpAny_take (i:=1) (v:=.slice (some ⟨B,3,none⟩) 40 40) rfl (by kernel_rfl) (by kernel_rfl) (by kernel_rfl) (fun _ _ _ h=>h) (Or.inl ⟨by rfl,fun w=>by go_simp⟩) ?_
   simp only [Act.put,zq0,zq1,zq2,zq3,zq4,zq5];refine wpAny_take (i:=2) (v:=.slice (some ⟨W.heap.size+1,0,none⟩) 64 64) rfl (by kernel_rfl) (by kernel_rfl) (by kernel_rfl) (fun _ _ _ h=>h) (Or.inl ⟨by rfl,fun w=>by go_simp⟩) ?_
   simp only [Act.put,zq0,zq1,zq2,zq3,zq4,zq5];refine wpAny_take (i:=3) (v:=.slice (some ⟨W.heap.size+1,17,none⟩) 40 47) rfl (by kernel_rfl) (by kernel_rfl) (by kernel_rfl) (fun _ _ _ h=>h) (Or.inl ⟨by rfl,fun w=>by go_simp⟩) ?_
   simp only [Act.put,zq0,zq1,zq2,zq3,zq4,zq5];refine Qbr (i:=4) (by kernel_rfl) ?_
   refine wpOp_step rfl ?_;intro K hK;rw [if_pos (by rfl)]
   refine Qdp (.tmp 47) (.tmp 49) 29 29 (by rfl) (.slice (some ⟨B,3,none⟩) 40 40) (.slice (some ⟨W.heap.size+1,17,none⟩) 40 47) (by rfl) (by rfl) (hcp _) ?_
   refine hK _ _ ?_;clear hK K hcp;refine wpAny_done (by kernel_rfl) ?_ _
   have hld:=Qa5 (o:=0) HK.out (QdG HN.out.1);have hst:=Qc4 HK.out Qb5 HN.out.2.1;have HE:Hid (((wr.drew.setRow B h.cells.toArray).setRow W.heap.size h.cells.toArray).heap[W.heap.size]? = some (.cells h.cells.toArray 80 (0,0))∧Below W.heap.size W ((wr.drew.setRow B h.cells.toArray).setRow W.heap.size h.cells.toArray)):=⟨setRow_heap _ _ _ _ _ _ HN.out.2.1,Qbt HN.out.2.2 (Nat.le_refl _)⟩
   generalize wr.drew.setRow B h.cells.toArray=W3 at *
   go_wp2_with (first | (refine Qao rfl 80 _ rfl _ (by rfl) hld ?_) | (refine Qac rfl 80 _ _ rfl _ _ (by rfl) (by rfl) hst ?_))
   refine bodyPost_ret (Qbp rfl _ HK.out (by rfl) HE.out.1) rfl ?_
   exact ⟨rfl,HE.out.2⟩
end
end
section
open Go.RowKit Go.Lib Go.Proofs.Tryz
def flR (D:Dk):Int×Dk:=if D.failing=true then (7,D) else (0,D.flush)
def wrR (D:Dk) (i:Nat) (l:List UInt8):Int×Dk:=if D.failing=true then (7,D) else (0,D.write i l)
structure Dk.lim (D:Dk) (k:Nat):Prop where
 s:D.steps≤k
 c:D.chg.length≤k
theorem Dk.lim.mono {D:Dk} {j k:Nat} (h:D.lim j) (hk:j≤k):D.lim k:=⟨Nat.le_trans h.s hk,Nat.le_trans h.c hk⟩
theorem flR_lim {D:Dk} {k:Nat} (h:D.lim k):(flR D).2.lim (k+1):=by
 unfold flR
 split
 ·exact h.mono (Nat.le_succ _)
 ·exact ⟨Nat.succ_le_succ h.s,by simp [Dk.flush]⟩
theorem wrR_lim {D:Dk} {k:Nat} (h:D.lim k) (i:Nat) (l:List UInt8):(wrR D i l).2.lim (k+1):=by
 unfold wrR
 split
 ·exact h.mono (Nat.le_succ _)
 ·exact ⟨Nat.succ_le_succ h.s,by have:=h.c;simp [Dk.write];omega⟩
section
variable {w W:World} {p nb sb:Nat} {cv:Value} {n:Nat} {D:Dk}
theorem tn_fl (h:Tn w W p nb sb cv n D) (hs:D.lim 1000000) :
  Calls prog 64 #[.pointer (some ⟨p,0,none⟩)] W fun e w'=>e=.returned (enE (flR D).1)∧∃ cv',Hid (Tn w w' p nb sb cv' n (flR D).2)∧Hid (Qan w.heap.size dkT W w'):=by
 unfold flR;by_cases hf:D.failing=true
 ·rw [if_pos hf];refine (flush_bad w.heap.size p nb sb cv n D W h.1 hf).mono ?_;rintro e w' ⟨rfl,hs⟩;exact ⟨rfl,cv,h.still hs,hs.keeps _ _⟩
 ·rw [if_neg hf];refine (tn_flush h (by simpa using hf) hs.s).mono ?_
  rintro e w' ⟨rfl,h1,h2⟩;exact ⟨rfl,_,h1,h2⟩
theorem tn_wrR (h:Tn w W p nb sb cv n D) (i:Nat) (a:Option Addr) (l:List UInt8) (cap:Nat) (hi:i<n) (hl:l.length≤64) (hn:n≤200) (hs:D.lim 1000000) (hB:QcT W a l cap) :
  Calls prog 65 #[.pointer (some ⟨p,0,none⟩),.int .i64 (i:Int),.slice a l.length cap] W fun e w'=>e=.returned (enE (wrR D i l).1)∧∃ cv',Hid (Tn w w' p nb sb cv' n (wrR D i l).2)∧Hid (Qan w.heap.size dkT W w'):=by
 unfold wrR;by_cases hf:D.failing=true
 ·rw [if_pos hf];have e7:wrBad D n (i:Int) l=7:=by unfold wrBad;rw [if_pos hf]
  refine (tn_writeBad h i a l cap (by rw [e7];decide)).mono ?_
  rintro e w' ⟨rfl,h1,h2⟩;exact ⟨by rw [e7],cv,h1,h2.out.keeps _ _⟩
 ·rw [if_neg hf];refine (tn_write h i a l cap (by simpa using hf) hi hl hn hs.s hs.c hB).mono ?_
  rintro e w' ⟨rfl,h1⟩;exact ⟨rfl,h1⟩
def hwR (D:Dk) (h:Hd):Int×Dk:=
 let r1:=flR D
 if r1.1=0 then
  let r2:=wrR r1.2 h.blk (hdB h)
  if r2.1=0 then flR r2.2 else r2
 else r1
theorem flR_code (D:Dk):(flR D).1=0∨(flR D).1=7:=by unfold flR;split <;> simp
theorem wrR_code (D:Dk) (i:Nat) (l:List UInt8):(wrR D i l).1=0∨(wrR D i l).1=7:=by unfold wrR;split <;> simp
set_option maxHeartbeats 4000000 in
theorem QiZ (a:Tn w W p nb sb cv n D) (h:Hd) (k:h.ok) (hn:n≤200) (hn2:2≤n) (hs:D.lim 999990) :
  Calls prog 31 #[.agg h.cells.toArray,.pointer (some ⟨p,0,none⟩)] W fun e w'=>e=.returned (enE (hwR D h).1)∧∃ cv',Hid (Tn w w' p nb sb cv' n (hwR D h).2)∧Hid (Qan w.heap.size dkT W w'):=by
 obtain ⟨W0,hW0⟩:∃ W0,W.alloc (.cells h.cells.toArray 80)=W0:=⟨_,rfl⟩;have hb0:Below W.heap.size W W0:=by rw [← hW0];exact (Below.refl _ W).alloc (Nat.le_refl _) _
 have hr0:W0.heap[W.heap.size]? = some (.cells h.cells.toArray 80 (0,0)):=by rw [← hW0];exact Qai W _
 have HF1:Hid (Calls _ _ _ W0 _):=tn_fl (a.below hb0) (hs.mono (by omega))
 have Hk0:Hid (Qan w.heap.size dkT W W0):=Qan.of_below hb0;have Hr0:Hid (W0.heap[W.heap.size]? = some (.cells h.cells.toArray 80 (0,0))):=hr0;have L1:=flR_lim hs;rcases flR_code D with e1 | e1
 ·have eR:hwR D h=(if (wrR (flR D).2 h.blk (hdB h)).1=0 then flR (wrR (flR D).2 h.blk (hdB h)).2 else wrR (flR D).2 h.blk (hdB h)):=by
   unfold hwR;simp only;rw [if_pos e1]
  rw [eR];rw [e1] at HF1;have L2:=wrR_lim L1 h.blk (hdB h);have hblk:h.blk<n:=by have:=k.b;omega
  have HWr:Hid (∀ U V cv1 v,Tn w U p nb sb cv1 n (flR D).2→Below U.heap.size U V→Qaq V U.heap.size v (hdB h)→∃ a' c',v=.slice a' (hdB h).length c'∧Calls prog 65 #[.pointer (some ⟨p,0,none⟩),.int .i64 (h.blk:Int),.slice a' (hdB h).length c'] V fun e w'=>e=.returned (enE (wrR (flR D).2 h.blk (hdB h)).1)∧∃ cv',Hid (Tn w w' p nb sb cv' n (wrR (flR D).2 h.blk (hdB h)).2)∧Hid (Qan w.heap.size dkT V w')):=fun U V cv1 v hU hV hv=>by
   obtain ⟨a',c',rfl,hb⟩:=hv.isBy;exact ⟨a',c',rfl,tn_wrR (hU.below hV) h.blk a' (hdB h) c' hblk (by rw [QiS k];omega) hn (L1.mono (by omega)) hb⟩
  have HF2:Hid (∀ V cv2,Tn w V p nb sb cv2 n (wrR (flR D).2 h.blk (hdB h)).2→Calls _ _ _ V _):=fun V cv2 hV=>tn_fl hV (L2.mono (by omega))
  have HBy:Hid (∀ U,Calls _ _ _ U _):=fun U=>bytes_any h U k
  have HK:Hid h.ok:=k;generalize (flR D).2=D1 at *
  have HC:=wrR_code D1 h.blk (hdB h);have Hh:Hid (∀ u:World,u.heap[W.heap.size]? = some (.cells h.cells.toArray 80 (0,0))→u.cell? ⟨W.heap.size,0,none⟩=some (.int .i64 (h.blk:Int))∧(Instr.loadAt 80 (.pointer (some ⟨W.heap.size,0,none⟩))).run prog u=.ok (.agg h.cells.toArray) u):=fun u hu=>⟨by rw [cell_of_row u _ _ _ _ (0,0) hu];rfl,Qa5 HK.out (QdG hu)⟩
  clear a hs L1 L2 k hb0 hr0 e1 eR;generalize hA:h.cells.toArray=A0 at *
  clear hA;go_enter func31,ntmps31
  go_wp2_with fail;refine HF1.out.mono ?_;rintro e w1 ⟨rfl,cv1,ht1,hk1⟩;rw [QbE];have Hr1:Hid (w1.drew.heap[W.heap.size]? = some (.cells A0 80 (0,0))):=hk1.out.row Hr0.out (by decide)
  clear HF1;go_wp2;refine Qab (by kernel_rfl) ?_
  refine wpAny_take (i:=0) (v:=.pointer (some ⟨p,0,none⟩)) rfl (by kernel_rfl) (by kernel_rfl) (by kernel_rfl) (fun _ _ _ h=>h) (Or.inl ⟨by rfl,fun w=>by go_simp⟩) ?_
  simp only [Act.put,zq0,zq1,zq2,zq3,zq4,zq5];refine wpAny_take (i:=1) (v:=.pointer (some ⟨W.heap.size,0,none⟩)) rfl (by kernel_rfl) (by kernel_rfl) (by kernel_rfl) (fun _ _ _ h=>h) (Or.inl ⟨by rfl,fun w=>by go_simp⟩) ?_
  simp only [Act.put,zq0,zq1,zq2,zq3,zq4,zq5];refine QaD (g:=5) (T:=fun u=>u.heap[W.heap.size]? = some (.cells A0 80 (0,0))) _ _ _ _ ?_
  refine Qaz (i:=2) (v:=.int .i64 (h.blk:Int)) rfl rfl (by kernel_rfl) (by decide) (by kernel_rfl) (by kernel_rfl) (by kernel_rfl) (by kernel_rfl) (fun _ _ _ h=>h) (Or.inl ⟨by rfl,fun w' hw'=>by have c0:=(Hh.out w' hw').1;clear hw';go_simp⟩) Hr1.out ?_
  simp only [Act.put,zq0,zq1,zq2,zq3,zq4,zq5];refine L_take2 (i:=3) (m:=4) (v:=.agg A0) rfl rfl rfl (by kernel_rfl) (by kernel_rfl) (by decide) (by kernel_rfl) (by kernel_rfl) (by kernel_rfl) (by kernel_rfl) (by kernel_rfl) (fun _ _ _ h=>h) ?_ Hr1.out ?_
  ·refine QaQ (by rfl) 80 (.tmp 2) (by rfl) (.pointer (some ⟨W.heap.size,0,none⟩)) (by rfl) ?_
   exact fun u hu=>(Hh.out u hu).2
  simp only [Act.put,zq0,zq1,zq2,zq3,zq4,zq5];refine Qic (i:=4) (by kernel_rfl) ?_
  refine wpOp_step rfl (fun K hK=>?_)
  rw [if_pos (by rfl)]
  go_wp2_with fail;refine (HBy.out _).mono ?_;rintro e w2 ⟨v,rfl,hv,hb2⟩;have hr2:w2.heap[W.heap.size]? = some (.cells A0 80 (0,0)):=(hb2.out.block _ ((Array.getElem?_eq_some_iff.1 Hr1.out).1)).trans Hr1.out;have ht1d:Tn w w1.drew p nb sb cv1 n D1:=ht1.out.below ⟨rfl,rfl,rfl,Nat.le_refl _,fun _ _=>rfl⟩
  obtain ⟨a',c',rfl,hcall⟩:=HWr.out w1.drew w2 cv1 v ht1d hb2.out hv.out;have HCall:Hid (Calls _ _ _ w2 _):=hcall;have Hk2:Hid (Qan w.heap.size dkT W w2):=((Hk0.out.trans hk1.out).drew).trans (Qan.of_below hb2.out);refine hK _ _ ⟨hr2,?_⟩;clear hK K hr2 hcall hv hb2 ht1 ht1d hk1 HBy HWr
  try simp only [Act.put,zq0,zq1,zq2,zq3,zq4,zq5]
  refine Qhw (by kernel_rfl) (by kernel_rfl) ?_
  refine wpOp_step rfl (fun K hK=>?_)
  rw [if_pos (by rfl)]
  go_wp2_with fail;refine HCall.out.mono ?_;rintro e w3 ⟨rfl,cv3,ht3,hk3⟩;refine hK _ _ ?_;clear hK K HCall;refine Qbr (i:=6) (by kernel_rfl) ?_
  refine wpOp_step rfl ?_;intro K hK;rw [if_pos (by rfl)]
  have hK':Shut (∀ a w,_→K a w):=hK;clear hK;go_wp2;refine hK'.out _ _ ?_;clear hK' K;refine wpAny_done (by kernel_rfl) ?_ _
  have Hk4:Hid (Qan w.heap.size dkT W w3):=Hk2.out.trans hk3.out;rcases HC with e2 | e2
  ·have HF3:Hid (Calls _ _ _ w3 _):=HF2.out w3 cv3 ht3.out;have He2:Hid ((wrR D1 h.blk (hdB h)).1=0):=e2;rw [e2,QbE];clear HF2 hk3 ht3 e2;go_wp2_with fail;refine HF3.out.mono ?_;rintro e w5 ⟨rfl,cv5,ht5,hk5⟩;go_wp2;go_ret
   first | exact ⟨rfl,cv5,ht5,Hk4.out.trans hk5.out⟩ | exact ⟨rfl,⟨cv5,ht5⟩,Hk4.out.trans hk5.out⟩
  ·have He2:Hid ((wrR D1 h.blk (hdB h)).1=7):=e2;rw [e2,QaF (by decide)]
   clear HF2 hk3 e2;go_wp2;all_goals go_ret
   all_goals first | exact ⟨rfl,cv3,ht3,Hk4⟩ | exact ⟨rfl,⟨cv3,ht3⟩,Hk4⟩ | (rw [He2.out];exact ⟨rfl,⟨cv3,ht3⟩,Hk4⟩) | (exfalso;rw [He2.out] at h;revert h;decide)
 ·have eR:hwR D h=flR D:=by
   unfold hwR;simp only;rw [if_neg (by rw [e1];decide)]
  rw [eR];rw [e1] at HF1 ⊢;rw [QaF (by decide)] at HF1 ⊢
  generalize (flR D).2=D1 at *
  generalize h.cells.toArray=A0 at *
  clear a hs L1 k hb0 hr0 e1 eR;go_enter func31,ntmps31
  go_wp2_with fail;refine HF1.out.mono ?_;rintro e w1 ⟨rfl,cv1,ht1,hk1⟩;go_wp2;go_ret;exact ⟨rfl,cv1,ht1,Hk0.out.trans hk1.out⟩
end
end
section
open Go.RowKit Go.Lib Go.Proofs.Tryz
def QbC (a b:Option Hd):Option Hd:=match b with
 | none=>a
 | some y=>match a with
  | none=>some y
  | some x=>if y.turn=x.turn+1 then some y else some x
theorem QgL {o:Option Hd} (h:∀ x,o=some x→x.ok):(o.getD hd0).ok:=by
 cases o with
 | none=>exact Qb5
 | some x=>exact h x rfl
section
variable {w W:World} {p nb sb:Nat} {cv:Value} {n:Nat} {D:Dk}
theorem Qf7 (a:Tn w W p nb sb cv n D) (i:Nat) (hi:i<n) (o:Option Hd) (h:hdAt D i o) :
  Calls prog 63 #[.pointer (some ⟨p,0,none⟩),.int .i64 (i:Int)] W fun e w'=>e=.returned (.tuple #[hdV o,.bool o.isSome])∧Hid (Below W.heap.size W w'):=by
 cases o with
 | none=>
  rcases h with h | h
  ·exact readHead_torn a i hi h
  ·exact readHead_zero a i hi h
 | some x=>exact readHead_some a i hi x h.2.1 h.2.2 h.1
theorem QbR {o:Option Hd} {i:Nat} (h:hdAt D i o):∀ x,o=some x→x.ok:=fun x e=>by subst e;exact h.2.1
theorem turn_add (x:UInt8):((x+1).toNat:Int)=((x.toNat:Int)+1) % 256:=by
 rw [UInt8.toNat_add]
 have:(1:UInt8).toNat=1:=rfl
 rw [this];omega
set_option maxHeartbeats 4000000 in
theorem Qis (a:Tn w W p nb sb cv n D) (hn:2≤n) (o0 o1:Option Hd) (h0:hdAt D 0 o0) (h1:hdAt D 1 o1) :
  Calls prog 29 #[.pointer (some ⟨p,0,none⟩)] W fun e w'=>e=.returned (.tuple #[hdV (QbC o0 o1),.bool (QbC o0 o1).isSome])∧Hid (Below W.heap.size W w'):=by
 have hal:=Qb1;have k0:=QgL (QbR h0);have k1:=QgL (QbR h1);have kn:((QbC o0 o1).getD hd0).ok:=QgL (fun x e=>by
  unfold QbC at e
  cases o1 with
  | none=>exact QbR h0 x e
  | some y=>
   cases o0 with
   | none=>exact QbR h1 x e
   | some z=>
    simp only at e;split at e
    ·exact QbR h1 x e
    ·exact QbR h0 x e)
 have HR0:Hid (∀ U,Below W.heap.size W U→Calls prog 63 #[.pointer (some ⟨p,0,none⟩),.int .i64 0] U fun e w'=>e=.returned (.tuple #[hdV o0,.bool o0.isSome])∧Hid (Below U.heap.size U w')):=fun U hU=>Qf7 (a.below hU) 0 (by omega) o0 h0
 have HR1:Hid (∀ U,Below W.heap.size W U→Calls prog 63 #[.pointer (some ⟨p,0,none⟩),.int .i64 1] U fun e w'=>e=.returned (.tuple #[hdV o1,.bool o1.isSome])∧Hid (Below U.heap.size U w')):=fun U hU=>Qf7 (a.below hU) 1 (by omega) o1 h1
 obtain ⟨x0,hx0⟩:∃ x0,o0.getD hd0=x0:=⟨_,rfl⟩;obtain ⟨x1,hx1⟩:∃ x1,o1.getD hd0=x1:=⟨_,rfl⟩;have hsel:(QbC o0 o1).getD hd0=(if (o1.isSome && (!o0.isSome || ((x1.turn.toNat:Int) == ((x0.turn.toNat:Int)+1) % 256)))=true then x1 else x0)∧(QbC o0 o1).isSome=(if (o1.isSome && (!o0.isSome || ((x1.turn.toNat:Int) == ((x0.turn.toNat:Int)+1) % 256)))=true then true else o0.isSome):=by
  subst hx0 hx1
  cases o1 with
  | none=>simp [QbC]
  | some y=>
   cases o0 with
   | none=>simp [QbC]
   | some z=>
    have e:((y.turn.toNat:Int) == ((z.turn.toNat:Int)+1) % 256)=decide (y.turn=z.turn+1):=by
     rw [← turn_add];by_cases h:y.turn=z.turn+1
     ·rw [h];simp
     ·rw [decide_eq_false h,beq_eq_false_iff_ne];intro e;exact h (UInt8.toNat_inj.1 (by omega))
    simp only [QbC,Option.getD_some,Option.isSome_some,Bool.not_true,Bool.false_or,Bool.true_and,e,decide_eq_true_eq]
    split <;> simp
 have Hsel:Hid (_∧_):=hsel;have HK:Hid (x0.ok∧x1.ok):=⟨hx0▸k0,hx1▸k1⟩;unfold hdV at HR0 HR1;rw [hx0] at HR0;rw [hx1] at HR1;unfold hdV;rw [hsel.1,hsel.2];generalize o0.isSome=s0 at *
 generalize o1.isSome=s1 at *
 obtain ⟨C0,hC0⟩:∃ C0,hd0.cells.toArray=C0:=⟨_,rfl⟩;have HB0:Hid (Below W.heap.size W (W.alloc (.cells hd0.cells.toArray 80))):=(Below.refl _ W).alloc (Nat.le_refl _) _;have Hr0:Hid ((W.alloc (.cells hd0.cells.toArray 80)).heap[W.heap.size]? = some (.cells hd0.cells.toArray 80 (0,0))):=Qai W _;have hstn:=fun (x:Hd) (kx:x.ok) U=>run_storeAt_new (P:=prog) U 80 hd0.cells.toArray x.cells.toArray (by rw [List.size_toArray,Hd.cells_length kx];exact QbT) (by rw [List.size_toArray,List.size_toArray,Hd.cells_length Qb5,Hd.cells_length kx]) (all_oneCell_toArray (Hd.cells_one _))
 have hst0:=hstn x0 HK.out.1;have hst1:=hstn x1 HK.out.2;rw [hC0] at hal HB0 hst0 hst1;have Hr0':Hid ((W.alloc (.cells C0 80)).heap[W.heap.size]? = some (.cells hd0.cells.toArray 80 (0,0))):=by rw [← hC0];exact Qai W _
 obtain ⟨W0,hW0⟩:∃ W0,W.alloc (.cells C0 80)=W0:=⟨_,rfl⟩;rw [hW0] at HB0 Hr0';clear a h0 h1 k0 k1 kn hx0 hx1 hsel hstn Hr0;go_enter func29,ntmps29
 go_wp2_with (refine Qae rfl 80 rfl (hal _) ?_);refine (HR0.out W0 HB0.out).mono ?_;rintro e w1 ⟨rfl,hb1⟩;have hsz1:W.heap.size<w1.heap.size:=by
  have:=(Array.getElem?_eq_some_iff.1 Hr0'.out).1
  have:=hb1.out.size
  omega
 have B1:Hid (Below W.heap.size W (w1.alloc (.cells x0.cells.toArray 80))):=(HB0.out.trans (hb1.out.mono HB0.out.size)).alloc (by omega) _
 have H1:Hid ((w1.alloc (.cells x0.cells.toArray 80)).heap[w1.heap.size]? = some (.cells x0.cells.toArray 80 (0,0))∧(w1.alloc (.cells x0.cells.toArray 80)).heap[W.heap.size]? = some (.cells hd0.cells.toArray 80 (0,0))):=
  ⟨Qai w1 _,(Below.heap_alloc _ _ _ hsz1).trans ((hb1.out.block _ ((Array.getElem?_eq_some_iff.1 Hr0'.out).1)).trans Hr0'.out)⟩
 obtain ⟨B4,hB4⟩:∃ B4,w1.heap.size=B4:=⟨_,rfl⟩;obtain ⟨v1,hv1⟩:∃ v1,w1.alloc (.cells x0.cells.toArray 80)=v1:=⟨_,rfl⟩;rw [hv1,hB4] at H1;rw [hv1] at B1;have hst0':=hst0 w1;rw [hv1] at hst0';clear hb1 hst0;go_wp2_with (first | (refine Qae rfl 80 rfl (hal _) ?_) | (refine Qac rfl 80 _ _ rfl _ _ (by rfl) (by rfl) hst0' ?_))
 refine (HR1.out v1 B1.out).mono ?_;rintro e w2 ⟨rfl,hb2⟩;have hsv1:B4<v1.heap.size:=(Array.getElem?_eq_some_iff.1 H1.out.1).1;have hsz2:v1.heap.size≤w2.heap.size:=hb2.out.size;have B2:Hid (Below W.heap.size W (w2.alloc (.cells x1.cells.toArray 80))):=(B1.out.trans (hb2.out.mono B1.out.size)).alloc (by have:=B1.out.size;omega) _
 have H2:Hid ((w2.alloc (.cells x1.cells.toArray 80)).heap[w2.heap.size]? = some (.cells x1.cells.toArray 80 (0,0))∧(w2.alloc (.cells x1.cells.toArray 80)).heap[B4]? = some (.cells x0.cells.toArray 80 (0,0))∧(w2.alloc (.cells x1.cells.toArray 80)).heap[W.heap.size]? = some (.cells hd0.cells.toArray 80 (0,0))):=
  ⟨Qai w2 _,(Below.heap_alloc _ _ _ (by omega)).trans ((hb2.out.block _ hsv1).trans H1.out.1),(Below.heap_alloc _ _ _ (by omega)).trans ((hb2.out.block _ (by omega)).trans H1.out.2)⟩
 obtain ⟨B6,hB6⟩:∃ B6,w2.heap.size=B6:=⟨_,rfl⟩;obtain ⟨v2,hv2⟩:∃ v2,w2.alloc (.cells x1.cells.toArray 80)=v2:=⟨_,rfl⟩;rw [hv2,hB6] at H2;rw [hv2] at B2;have hst1':=hst1 w2;rw [hv2] at hst1';have c6:v2.cell? ⟨B6,1,none⟩=some (.int .u8 (x1.turn.toNat:Int)):=by
  rw [cell_of_row v2 _ _ _ _ (0,0) H2.out.1];rfl
 have c4:v2.cell? ⟨B4,1,none⟩=some (.int .u8 (x0.turn.toNat:Int)):=by
  rw [cell_of_row v2 _ _ _ _ (0,0) H2.out.2.1];rfl
 have hld1:=Qa5 (o:=0) HK.out.2 (QdG H2.out.1);have hld0:=Qa5 (o:=0) HK.out.1 (QdG H2.out.2.1);have hsr1:=Qc4 HK.out.2 Qb5 H2.out.2.2;have hsr0:=Qc4 HK.out.1 Qb5 H2.out.2.2;have HE1:Hid ((v2.setRow W.heap.size x1.cells.toArray).heap[W.heap.size]? = some (.cells x1.cells.toArray 80 (0,0))∧Below W.heap.size W (v2.setRow W.heap.size x1.cells.toArray)):=⟨setRow_heap _ _ _ _ _ _ H2.out.2.2,Qbt B2.out (Nat.le_refl _)⟩
 have HE0:Hid ((v2.setRow W.heap.size x0.cells.toArray).heap[W.heap.size]? = some (.cells x0.cells.toArray 80 (0,0))∧Below W.heap.size W (v2.setRow W.heap.size x0.cells.toArray)):=⟨setRow_heap _ _ _ _ _ _ H2.out.2.2,Qbt B2.out (Nat.le_refl _)⟩;have t0:=UInt8.toNat_lt x0.turn;have t1:=UInt8.toNat_lt x1.turn;have t0':(x0.turn.toNat:Int)<256:=by omega
 have t0'':(0:Int)≤(x0.turn.toNat:Int):=by omega
 clear hb2 hst1 H1 H2 B1 B2 t0 t1 Hsel HR0 HR1 hst0' HB0 Hr0';cases s1
 ·go_wp2_with (first | (refine Qae rfl 80 rfl (hal _) ?_) | (refine Qac rfl 80 _ _ rfl _ _ (by rfl) (by rfl) hst1' ?_) | (refine Qao rfl 80 _ rfl _ (by rfl) hld0 ?_) | (refine Qac rfl 80 _ _ rfl _ _ (by rfl) (by rfl) hsr0 ?_))
  refine bodyPost_ret (Qbp rfl _ HK.out.1 (by rfl) HE0.out.1) rfl ?_
  exact ⟨rfl,HE0.out.2⟩
 ·cases s0
  ·go_wp2_with (first | (refine Qae rfl 80 rfl (hal _) ?_) | (refine Qac rfl 80 _ _ rfl _ _ (by rfl) (by rfl) hst1' ?_) | (refine Qao rfl 80 _ rfl _ (by rfl) hld1 ?_) | (refine Qac rfl 80 _ _ rfl _ _ (by rfl) (by rfl) hsr1 ?_))
   refine bodyPost_ret (Qbp rfl _ HK.out.2 (by rfl) HE1.out.1) rfl ?_
   exact ⟨rfl,HE1.out.2⟩
  ·have hqq:((x1.turn.toNat:Int) == ((x0.turn.toNat:Int)+1) % 256)=false∨((x1.turn.toNat:Int) == ((x0.turn.toNat:Int)+1) % 256)=true:=by
    cases ((x1.turn.toNat:Int) == ((x0.turn.toNat:Int)+1) % 256)
    ·exact .inl rfl
    ·exact .inr rfl
   rcases hqq with hq | hq
   ·have Hq:Hid (((x1.turn.toNat:Int) == ((x0.turn.toNat:Int)+1) % 256)=false):=hq;go_wp2_with (first | (refine Qae rfl 80 rfl (hal _) ?_) | (refine Qac rfl 80 _ _ rfl _ _ (by rfl) (by rfl) hst1' ?_) | (refine Qao rfl 80 _ rfl _ (by rfl) hld0 ?_) | (refine Qac rfl 80 _ _ rfl _ _ (by rfl) (by rfl) hsr0 ?_))
    all_goals
     refine bodyPost_ret (Qbp rfl _ HK.out.1 (by rfl) HE0.out.1) rfl ?_
     exact ⟨rfl,HE0.out.2⟩
   ·have Hq:Hid (((x1.turn.toNat:Int) == ((x0.turn.toNat:Int)+1) % 256)=true):=hq;go_wp2_with (first | (refine Qae rfl 80 rfl (hal _) ?_) | (refine Qac rfl 80 _ _ rfl _ _ (by rfl) (by rfl) hst1' ?_) | (refine Qao rfl 80 _ rfl _ (by rfl) hld1 ?_) | (refine Qac rfl 80 _ _ rfl _ _ (by rfl) (by rfl) hsr1 ?_))
    all_goals
     refine bodyPost_ret (Qbp rfl _ HK.out.2 (by rfl) HE1.out.1) rfl ?_
     exact ⟨rfl,HE1.out.2⟩
end
end
section
open Go.RowKit Go.Lib Go.Proofs.Tryz
section
variable {w W:World} {p nb sb:Nat} {cv:Value} {n:Nat} {D:Dk}
def Qh3 (o:Option Hd):Hd:=⟨1 - (o.getD hd0).blk,(o.getD hd0).turn+1,0,List.replicate 40 0⟩
theorem fmtH_ok (o:Option Hd):(Qh3 o).ok:=⟨by unfold Qh3;simp,by simp [Qh3],by simp [Qh3]⟩
set_option maxHeartbeats 1000000 in
theorem format_any (a:Tn w W p nb sb cv n D) (hn:90≤n) (hn2:n≤200) (hs:D.lim 999980) (o0 o1:Option Hd) (h0:hdAt D 0 o0) (h1:hdAt D 1 o1) :
  Calls prog 8 #[.pointer (some ⟨p,0,none⟩)] W fun e w'=>e=.returned (enE (hwR D (Qh3 (QbC o0 o1))).1)∧∃ cv',Hid (Tn w w' p nb sb cv' n (hwR D (Qh3 (QbC o0 o1))).2)∧Hid (Qan w.heap.size dkT W w'):=by
 have HB:Hid (Calls _ _ _ _ _):=Qir a;have n1:¬ (n:Int)<90:=by omega
 have HN:Hid (∀ U,Qbh W U→Calls _ _ _ U _):=fun U hU=>Qis (a.still hU) (by omega) o0 o1 h0 h1
 have hal:=Qb1;have ko:((QbC o0 o1).getD hd0).ok:=QgL (fun x e=>by
  unfold QbC at e
  cases o1 with
  | none=>exact QbR h0 x e
  | some y=>
   cases o0 with
   | none=>exact QbR h1 x e
   | some z=>
    simp only at e;split at e
    ·exact QbR h1 x e
    ·exact QbR h0 x e)
 have HW:Hid (∀ U,Below W.heap.size W U→Calls _ _ _ U _):=fun U hU=>QiZ (a.below hU) (Qh3 (QbC o0 o1)) (fmtH_ok _) hn2 (by omega) (hs.mono (by omega))
 unfold hdV at HN;have eh0:Qh3 (QbC o0 o1)=⟨1 - ((QbC o0 o1).getD hd0).blk,((QbC o0 o1).getD hd0).turn+1,0,List.replicate 40 0⟩:=rfl;have kf:=fmtH_ok (QbC o0 o1);have eh:Hid (_=_):=eh0;clear eh0;generalize Qh3 (QbC o0 o1)=fh at *
 generalize (QbC o0 o1).isSome=sm at *
 generalize (QbC o0 o1).getD hd0=x at *
 have hst:=fun U=>run_storeAt_new (P:=prog) U 80 hd0.cells.toArray x.cells.toArray (by rw [List.size_toArray,Hd.cells_length ko];exact QbT) (by rw [List.size_toArray,List.size_toArray,Hd.cells_length Qb5,Hd.cells_length ko]) (all_oneCell_toArray (Hd.cells_one _))
 have HO:Hid (∀ U,Calls _ _ _ U _):=fun U=>other_any x U ko
 obtain ⟨C0,hC0⟩:∃ C0,hd0.cells.toArray=C0:=⟨_,rfl⟩;rw [hC0] at hal hst;clear a h0 h1;go_enter func8,ntmps8
 go_wp2_with fail;refine HB.out.mono ?_;rintro e w1 ⟨rfl,hs1⟩;clear HB;go_wp2_with fail;refine (HN.out w1 hs1).mono ?_;rintro e w2 ⟨rfl,hb2⟩;clear HN;go_wp2_with (first | (refine Qae rfl 80 rfl (hal _) ?_) | (refine Qac rfl 80 _ _ rfl _ _ (by rfl) (by rfl) (hst _) ?_))
 obtain ⟨B,hB⟩:∃ B,w2.heap.size=B:=⟨_,rfl⟩;obtain ⟨v2,hv2⟩:∃ v2,(w2.alloc (.cells x.cells.toArray 80)).drew=v2:=⟨_,rfl⟩;have hbW:Below W.heap.size W w2:=(hs1.below _).trans (hb2.out.mono (by rw [hs1.heap];exact Nat.le_refl _))
 have Hv2:Hid (v2.heap[B]? = some (.cells x.cells.toArray 80 (0,0))∧Below W.heap.size W v2∧B<v2.heap.size):=by
  rw [← hv2,← hB];refine ⟨Qai w2 _,(hbW.alloc hbW.size _).trans ⟨rfl,rfl,rfl,Nat.le_refl _,fun _ _=>rfl⟩,?_⟩
  show w2.heap.size<(w2.alloc (.cells x.cells.toArray 80)).heap.size;simp
 have Hx:Hid (∀ u:World,u.heap[B]? = some (.cells x.cells.toArray 80 (0,0))→u.cell? ⟨B,1,none⟩=some (.int .u8 (x.turn.toNat:Int))∧(Instr.loadAt 80 (.pointer (some ⟨B,0,none⟩))).run prog u=.ok (.agg x.cells.toArray) u):=fun u hu=>⟨by rw [cell_of_row u _ _ _ _ (0,0) hu];rfl,Qa5 ko (QdG hu)⟩
 have hbd:∀ u:World,(Instr.build 80 #[(0,.int .i64 ((1 - x.blk:Nat):Int)),(1,.int .u8 (((x.turn.toNat:Int)+1) % 256))]).run prog u=.ok (.agg fh.cells.toArray) u:=fun u=>by
  have:=Qip (1 - x.blk) (x.turn+1) u
  rw [← eh.out,turn_add] at this;exact this
 have hfst:=fun U=>run_storeAt_new (P:=prog) U 80 hd0.cells.toArray fh.cells.toArray (by rw [List.size_toArray,Hd.cells_length kf];exact QbT) (by rw [List.size_toArray,List.size_toArray,Hd.cells_length Qb5,Hd.cells_length kf]) (all_oneCell_toArray (Hd.cells_one _))
 have Hst5:Hid (∀ (U:World) (B5:Nat),U.heap[B5]? = some (.cells C0 80 (0,0))→(Instr.storeAt 80 (.pointer (some ⟨B5,0,none⟩)) (.agg fh.cells.toArray)).run prog U=.ok () (U.setRow B5 fh.cells.toArray)):=fun U B5 hU=>by
  rw [← hC0] at hU;exact Qc4 kf Qb5 hU
 refine Qab (by kernel_rfl) ?_
 rw [hv2,hB];have t0:(0:Int)≤(x.turn.toNat:Int):=by omega
 have t1:(x.turn.toNat:Int)<256:=by have:=UInt8.toNat_lt x.turn;omega
 clear hv2 hs1 hb2 hst hfst hbW;refine wpAny_take (i:=2) (v:=.pointer (some ⟨B,1,none⟩)) rfl (by kernel_rfl) (by kernel_rfl) (by kernel_rfl) (fun _ _ _ h=>h) (Or.inl ⟨by rfl,fun w=>by go_simp⟩) ?_
 simp only [Act.put,zq0,zq1,zq2,zq3,zq4,zq5];refine QaD (g:=7) (T:=fun u=>u.heap[B]? = some (.cells x.cells.toArray 80 (0,0))∧Below W.heap.size W u) _ _ _ _ ?_
 refine Qaz (i:=0) (v:=.agg x.cells.toArray) rfl rfl (by kernel_rfl) (by decide) (by kernel_rfl) (by kernel_rfl) (by kernel_rfl) (by kernel_rfl) (fun _ _ _ h=>h) ?_ ⟨Hv2.out.1,Hv2.out.2.1⟩ ?_
 ·refine QaQ (by rfl) 80 (.tmp 3) (by rfl) (.pointer (some ⟨B,0,none⟩)) (by rfl) ?_
  exact fun u hu=>(Hx.out u hu.1).2
 simp only [Act.put,zq0,zq1,zq2,zq3,zq4,zq5];refine Qaz (i:=3) (v:=.int .u8 (x.turn.toNat:Int)) rfl rfl (by kernel_rfl) (by decide) (by kernel_rfl) (by kernel_rfl) (by kernel_rfl) (by kernel_rfl) (fun _ _ _ h=>h) (Or.inl ⟨by rfl,fun w' hw'=>by have c0:=(Hx.out w' hw'.1).1;clear hw';go_simp⟩) ⟨Hv2.out.1,Hv2.out.2.1⟩ ?_
 simp only [Act.put,zq0,zq1,zq2,zq3,zq4,zq5];refine Qaz (i:=4) (v:=.int .u8 (((x.turn.toNat:Int)+1) % 256)) rfl rfl (by kernel_rfl) (by decide) (by kernel_rfl) (by kernel_rfl) (by kernel_rfl) (by kernel_rfl) (fun _ _ _ h=>h) (Or.inl ⟨by rfl,fun w' hw'=>by clear hw';go_simp;rw [IntKind.wrap_u8]⟩) ⟨Hv2.out.1,Hv2.out.2.1⟩ ?_
 simp only [Act.put,zq0,zq1,zq2,zq3,zq4,zq5];refine L_two (i:=1) (j:=6) (by kernel_rfl) ?_ ?_
 ·refine wpOp_step rfl (fun K hK=>?_)
  rw [if_pos (by rfl)]
  go_wp2_with fail;refine (HO.out v2).mono ?_;rintro e w3 ⟨rfl,hb3⟩;have H3:Hid (w3.heap[B]? = some (.cells x.cells.toArray 80 (0,0))∧Below W.heap.size W w3):=⟨(hb3.block _ Hv2.out.2.2).trans Hv2.out.1,Hv2.out.2.1.trans (hb3.mono Hv2.out.2.1.size)⟩;refine hK _ _ ⟨H3.out,?_⟩;clear hK K hb3;refine Qaz (i:=5) (v:=.agg fh.cells.toArray) rfl rfl (by kernel_rfl) (by decide) (by kernel_rfl) (by kernel_rfl) (by kernel_rfl) (by kernel_rfl) (fun _ _ _ h=>h) ?_ H3.out ?_
  ·refine Qcl (by rfl) 80 #[(0,.tmp 16),(1,.tmp 19)] (by rfl) #[(0,.int .i64 ((1 - x.blk:Nat):Int)),(1,.int .u8 (((x.turn.toNat:Int)+1) % 256))] (by simp [Act.eval]) ?_
   exact fun u _=>hbd u
  try simp only [Act.put,zq0,zq1,zq2,zq3,zq4,zq5]
  refine Qic (i:=6) (by kernel_rfl) ?_
  refine wpOp_step rfl (fun K hK=>?_)
  rw [if_pos (by rfl)]
  refine QdR 80 (by rfl) (hal _) ?_
  have hW3:=H3.out.2.size;obtain ⟨B5,hB5⟩:∃ B5,w3.heap.size=B5:=⟨_,rfl⟩;obtain ⟨V5,hV5⟩:∃ V5,w3.alloc (.cells C0 80)=V5:=⟨_,rfl⟩;have HE5:Hid (V5.heap[B5]? = some (.cells C0 80 (0,0))∧Below W.heap.size W V5∧W.heap.size≤B5):=by
   rw [← hV5,← hB5];exact ⟨Qai w3 _,H3.out.2.alloc hW3 _,hW3⟩
  have hT5:V5.heap[B]? = some (.cells x.cells.toArray 80 (0,0))∧Below W.heap.size W V5:=by
   rw [← hV5];exact ⟨(Below.heap_alloc _ _ _ (Array.getElem?_eq_some_iff.1 H3.out.1).1).trans H3.out.1,H3.out.2.alloc hW3 _⟩
  rw [hV5,hB5];refine hK _ _ ⟨hT5,?_⟩;clear hK K hT5 hV5
  try simp only [Act.put,zq0,zq1,zq2,zq3,zq4,zq5]
  refine Qhw (by kernel_rfl) (by kernel_rfl) ?_
  refine wpOp_step rfl (fun K hK=>?_)
  rw [if_pos (by rfl)]
  refine Qca 80 (.tmp 5) (.tmp 20) (by rfl) (.pointer (some ⟨B5,0,none⟩)) (.agg fh.cells.toArray) (by rfl) (by rfl) (Hst5.out V5 B5 HE5.out.1) ?_
  refine hK _ _ ?_;clear hK K;refine wpAny_done (by kernel_rfl) ?_ _
  have HE:Hid ((V5.setRow B5 fh.cells.toArray).heap[B5]? = some (.cells fh.cells.toArray 80 (0,0))∧Below W.heap.size W (V5.setRow B5 fh.cells.toArray)):=⟨setRow_heap _ _ _ _ _ _ HE5.out.1,Qbt HE5.out.2.1 HE5.out.2.2⟩;generalize V5.setRow B5 fh.cells.toArray=W9 at *
  have hld:=Qa5 (o:=0) kf (QdG HE.out.1);have HWc:Hid (Calls _ _ _ W9 _):=HW.out W9 HE.out.2;have Hk9:Hid (Qan w.heap.size dkT W W9):=Qan.of_below HE.out.2;clear HW;go_wp2_with (first | (refine Qao rfl 80 _ rfl _ (by rfl) hld ?_))
  refine HWc.out.mono ?_;rintro e w9 ⟨rfl,cv9,ht9,hk9⟩;go_wp2;go_ret
  first | exact ⟨rfl,cv9,ht9,Hk9.out.trans hk9.out⟩ | exact ⟨rfl,⟨cv9,ht9⟩,Hk9.out.trans hk9.out⟩
 ·refine wpOp_step rfl (fun K hK=>?_)
  rw [if_pos (by rfl)]
  refine QdR 80 (by rfl) (hal _) ?_
  have hW2:=Hv2.out.2.1.size;obtain ⟨B5,hB5⟩:∃ B5,v2.heap.size=B5:=⟨_,rfl⟩;obtain ⟨V4,hV4⟩:∃ V4,v2.alloc (.cells C0 80)=V4:=⟨_,rfl⟩;have HE4:Hid (V4.heap[B5]? = some (.cells C0 80 (0,0))∧Below W.heap.size W V4∧W.heap.size≤B5∧V4.heap[B]? = some (.cells x.cells.toArray 80 (0,0))):=by
   rw [← hV4,← hB5];exact ⟨Qai v2 _,Hv2.out.2.1.alloc hW2 _,hW2,(Below.heap_alloc _ _ _ Hv2.out.2.2).trans Hv2.out.1⟩
  rw [hV4,hB5];refine hK _ _ ⟨⟨HE4.out.2.2.2,HE4.out.2.1⟩,?_⟩;clear hK K hV4
  try simp only [Act.put,zq0,zq1,zq2,zq3,zq4,zq5]
  refine Qic (i:=1) (by kernel_rfl) ?_
  refine wpOp_step rfl (fun K hK=>?_)
  rw [if_pos (by rfl)]
  go_wp2_with fail;refine (HO.out V4).mono ?_;rintro e V5 ⟨rfl,hb3⟩;have HE5:Hid (V5.heap[B5]? = some (.cells C0 80 (0,0))∧Below W.heap.size W V5∧W.heap.size≤B5):=⟨(hb3.block _ (Array.getElem?_eq_some_iff.1 HE4.out.1).1).trans HE4.out.1,HE4.out.2.1.trans (hb3.mono HE4.out.2.1.size),HE4.out.2.2.1⟩;have H3:Hid (V5.heap[B]? = some (.cells x.cells.toArray 80 (0,0))∧Below W.heap.size W V5):=⟨(hb3.block _ (Array.getElem?_eq_some_iff.1 HE4.out.2.2.2).1).trans HE4.out.2.2.2,HE5.out.2.1⟩
  refine hK _ _ ⟨H3.out,?_⟩;clear hK K hb3;refine L_take1 (i:=5) (v:=.agg fh.cells.toArray) rfl (by kernel_rfl) ?_ H3.out ?_
  ·refine Qcl (by rfl) 80 #[(0,.tmp 16),(1,.tmp 19)] (by rfl) #[(0,.int .i64 ((1 - x.blk:Nat):Int)),(1,.int .u8 (((x.turn.toNat:Int)+1) % 256))] (by simp [Act.eval]) ?_
   exact fun u _=>hbd u
  try simp only [Act.put,zq0,zq1,zq2,zq3,zq4,zq5]
  refine Qhw (by kernel_rfl) (by kernel_rfl) ?_
  refine wpOp_step rfl (fun K hK=>?_)
  rw [if_pos (by rfl)]
  refine Qca 80 (.tmp 5) (.tmp 20) (by rfl) (.pointer (some ⟨B5,0,none⟩)) (.agg fh.cells.toArray) (by rfl) (by rfl) (Hst5.out V5 B5 HE5.out.1) ?_
  refine hK _ _ ?_;clear hK K;refine wpAny_done (by kernel_rfl) ?_ _
  have HE:Hid ((V5.setRow B5 fh.cells.toArray).heap[B5]? = some (.cells fh.cells.toArray 80 (0,0))∧Below W.heap.size W (V5.setRow B5 fh.cells.toArray)):=⟨setRow_heap _ _ _ _ _ _ HE5.out.1,Qbt HE5.out.2.1 HE5.out.2.2⟩;generalize V5.setRow B5 fh.cells.toArray=W9 at *
  have hld:=Qa5 (o:=0) kf (QdG HE.out.1);have HWc:Hid (Calls _ _ _ W9 _):=HW.out W9 HE.out.2;have Hk9:Hid (Qan w.heap.size dkT W W9):=Qan.of_below HE.out.2;clear HW;go_wp2_with (first | (refine Qao rfl 80 _ rfl _ (by rfl) hld ?_))
  refine HWc.out.mono ?_;rintro e w9 ⟨rfl,cv9,ht9,hk9⟩;go_wp2;go_ret
  first | exact ⟨rfl,cv9,ht9,Hk9.out.trans hk9.out⟩ | exact ⟨rfl,⟨cv9,ht9⟩,Hk9.out.trans hk9.out⟩
end
end
end Go.Proofs.YtjifbbdkpanagaaGreatDoor
