/-
  Part of a proof (see the last text).
-/
import Derived.Test.YtjifbbdkpanagaaGreatDoorZd39
set_option linter.unusedVariables false
set_option linter.unusedSimpArgs false
set_option maxRecDepth 100000
namespace Go.Proofs.YtjifbbdkpanagaaGreatDoor
section
open Go.RowKit Go.Lib Go.Proofs.Tryz
def I64 (n:Int):Prop:=-9223372036854775808≤n∧n≤9223372036854775807
theorem txtW_fit {s:ByteArray} (h:s.size≤24):txtW s=Qgn s:=if_neg (by omega)
end
section
open Go.RowKit Go.Lib Go.Proofs.Tryz
theorem Qaj.trans {tb:Nat} {V W X:World} (h:Qaj tb V W) (k:Qaj tb W X):Qaj tb V X:=
 ⟨k.os.trans h.os,k.tape.trans h.tape,k.output.trans h.output,Nat.le_trans h.size k.size,fun b hb hn=>(k.block b (Nat.lt_of_lt_of_le hb h.size) hn).trans (h.block b hb hn)⟩
theorem Qaj.cell {tb:Nat} {V W:World} (h:Qaj tb V W) {p:Addr} (hb:p.block<V.heap.size) (hn:p.block≠tb):W.cell? p=V.cell? p:=by
 unfold World.cell?;rw [h.block p.block hb hn]
theorem Qaj.toBelow {tb n:Nat} {V W:World} (h:Qaj tb V W) (hn:n≤tb) (hs:n≤V.heap.size):Below n V W:=
 ⟨h.os,h.tape,h.output,h.size,fun b hb=>h.block b (by omega) (by omega)⟩
structure Qia (w:World) (n:Nat) (a:Option Addr) (l:List UInt8) (cap:Nat):Prop where
 cap:l.length≤cap
 lies:l=[]∨∃ b off,a=some ⟨b,off,none⟩∧b<n∧∀ k (h:k<l.length),w.cell? ⟨b,off+k,none⟩=some (.int .u8 (l[k]'h).toNat)
theorem Qia.keep {w w':World} {n:Nat} {a:Option Addr} {l:List UInt8} {cap:Nat} (h:Qia w n a l cap) (hk:Qaj n w w') (hn:n≤w.heap.size):Qia w' n a l cap:=by
 refine ⟨h.cap,?_⟩;rcases h.lies with h | ⟨b,off,e,hlt,hc⟩
 ·exact .inl h
 ·exact .inr ⟨b,off,e,hlt,fun k hk'=>(hk.cell (p:=⟨b,off+k,none⟩) (by show b<_;omega) (by show b≠n;omega)).trans (hc k hk')⟩
theorem Qia.isBy {w:World} {n:Nat} {a:Option Addr} {l:List UInt8} {cap:Nat} (h:Qia w n a l cap) (hn:n≤w.heap.size):QcT w a l cap:=by
 refine ⟨h.cap,?_⟩;rcases h.lies with h | ⟨b,off,e,hlt,hc⟩
 ·exact .inl h
 ·exact .inr ⟨b,off,e,by omega,hc⟩
theorem QcT.isBN {w:World} {a:Option Addr} {l:List UInt8} {cap:Nat} (h:QcT w a l cap):Qia w w.heap.size a l cap:=⟨h.cap,h.lies⟩
theorem Qia.of {w w':World} {n:Nat} {a:Option Addr} {l:List UInt8} {cap:Nat} (h:Qia w n a l cap) (hb:Below n w w'):Qia w' n a l cap:=by
 refine ⟨h.cap,?_⟩;rcases h.lies with h | ⟨b,off,e,hlt,hc⟩
 ·exact .inl h
 ·exact .inr ⟨b,off,e,hlt,fun k hk'=>(hb.cell (p:=⟨b,off+k,none⟩) hlt).trans (hc k hk')⟩
theorem frBy_size:(sizeOf (prog.elem 29)).run prog=fun W=>.ok 1 W:=by
 funext W
 kernel_rfl
theorem QiW:prog.underlying 29=some (.slice (prog.elem 29)):=by kernel_rfl
theorem by_add (b off n:Nat):(⟨b,off,none⟩:Addr).add n=⟨b,off+n,none⟩:=by
 unfold Addr.add
 split
 ·rename_i h;subst h;rfl
 ·rfl
theorem QfS {w:World} {n:Nat} {a:Option Addr} {l:List UInt8} {cap:Nat} (h:Qia w n a l cap) (k:Nat) (hk:k≤l.length) :
  ∃ a' c',(∀ W,(Instr.slice 29 (.slice a l.length cap) (some (.int .i64 (k:Int))) none none).run prog W=.ok (.slice a' (l.length - k) c') W)∧Qia w n a' (l.drop k) c':=by
 have hc:=h.cap;refine ⟨if cap=k then a else a.map (·.add (k*1)),cap - k,fun W=>?_,?_,?_⟩
 ·rw [run_slice_l W 29 a l.length cap QiW .i64 k (by omega) (by omega),frBy_size]
  simp [Result.andThen,sliced]
 ·rw [List.length_drop];omega
 ·by_cases h0:l.drop k=[]
  ·exact .inl h0
  ·right
   have hl:0<(l.drop k).length:=List.length_pos_iff.2 h0;rw [List.length_drop] at hl;rcases h.lies with rfl | ⟨b,off,rfl,hlt,hcs⟩
   ·simp at hl
   ·refine ⟨b,off+k,?_,hlt,fun j hj=>?_⟩
    ·rw [if_neg (by omega)]
     simp [by_add]
    ·rw [List.length_drop] at hj;rw [List.getElem_drop,Nat.add_assoc];exact hcs (k+j) (by omega)
theorem run_byTake {w:World} {n:Nat} {a:Option Addr} {l:List UInt8} {cap:Nat} (h:Qia w n a l cap) (k:Nat) (hk:k≤l.length) :
  ∃ a' c',(∀ W,(Instr.slice 29 (.slice a l.length cap) none (some (.int .i64 (k:Int))) none).run prog W=.ok (.slice a' k c') W)∧Qia w n a' (l.take k) c':=by
 have hc:=h.cap;refine ⟨if cap=0 then a else a.map (·.add (0*1)),cap,fun W=>?_,?_,?_⟩
 ·rw [run_slice_h W 29 a l.length cap QiW .i64 k (by omega) (by omega),frBy_size]
  simp [Result.andThen,sliced]
 ·rw [List.length_take];omega
 ·by_cases h0:l.take k=[]
  ·exact .inl h0
  ·right
   have hl:0<(l.take k).length:=List.length_pos_iff.2 h0;rw [List.length_take] at hl;rcases h.lies with rfl | ⟨b,off,rfl,hlt,hcs⟩
   ·simp at hl
   ·refine ⟨b,off,?_,hlt,fun j hj=>?_⟩
    ·rw [if_neg (by omega)]
     simp [by_add]
    ·rw [List.length_take] at hj;rw [List.getElem_take];exact hcs j (by omega)
def Qes (W:World) (b:Nat) (v e:Value):Prop:=W.heap[b]? = some (.cells #[v,e] 101 (0,0))
theorem Qes.c0 {W:World} {b:Nat} {v e:Value} (h:Qes W b v e):W.cell? ⟨b,0,none⟩=some v:=by unfold Qes at h;simp [World.cell?,h]
theorem Qes.c1 {W:World} {b:Nat} {v e:Value} (h:Qes W b v e):W.cell? ⟨b,1,none⟩=some e:=by unfold Qes at h;simp [World.cell?,h]
theorem Qes.fz {W:World} {b:Nat} {v e:Value} (h:Qes W b v e) (o:Nat):W.frozen? ⟨b,o,none⟩=false:=by unfold Qes at h;simp [World.frozen?,h]
theorem Qes.lt {W:World} {b:Nat} {v e:Value} (h:Qes W b v e):b<W.heap.size:=(Array.getElem?_eq_some_iff.1 h).1
theorem Qes.new (W:World) (v e:Value):Qes (W.alloc (.cells #[v,e] 101)) W.heap.size v e:=Qai W _
theorem Qes.set0 {W:World} {b:Nat} {v e:Value} (h:Qes W b v e) (v':Value):Qes (W.setCell ⟨b,0,none⟩ v') b v' e:=by
 unfold Qes at *
 rw [setCell_eq_setRow W b 0 _ 101 (0,0) _ h,setRow_heap W b _ _ 101 (0,0) h];rfl
theorem Qes.set1 {W:World} {b:Nat} {v e:Value} (h:Qes W b v e) (e':Value):Qes (W.setCell ⟨b,1,none⟩ e') b v e':=by
 unfold Qes at *
 rw [setCell_eq_setRow W b 1 _ 101 (0,0) _ h,setRow_heap W b _ _ 101 (0,0) h];rfl
def QbM (W:World) (b:Nat):Option (List UInt8)→Prop
 | none=>Qes W b (.slice none 0 0) (.bool true)
 | some l=>∃ a cap,Qes W b (.slice a l.length cap) (.bool false)∧Qia W b a l cap
theorem QbM.lt {W:World} {b:Nat} {st:Option (List UInt8)} (h:QbM W b st):b<W.heap.size:=by
 cases st with
 | none=>exact Qes.lt h
 | some l=>obtain ⟨_,_,x,_⟩:=h;exact x.lt
theorem QdH (b:Nat) (v e0:Value) (w:World) (h:Qes w b v e0) :
  Calls prog 42 #[.pointer (some ⟨b,0,none⟩)] w fun e w'=>e=.returned (.tuple #[])∧QbM w' b none∧Qaj b w w':=by
 have f1:=h.fz 1;have c1:=h.c1;have x1:=h.set1 (.bool true);have f0:=x1.fz 0;have c0:=x1.c0;have x2:=x1.set0 (.slice none 0 0);have B:=((Qaj.refl b w).set 1 (.bool true)).set 0 (.slice none 0 0);have HX:Hid (QbM _ b none):=x2;clear h x1 x2;go_enter func42,ntmps42
 go_wp2;go_end0
 exact ⟨rfl,HX.out,B⟩
def numS:Option (List UInt8)→Int×Option (List UInt8)
 | none=>(0,none)
 | some l=>match rdF 9 true l with
  | none=>(0,none)
  | some (u,r)=>(zag u,some r)
theorem Qe3 {l:List UInt8} (h:rdF 9 true l=none):numS (some l)=(0,none):=by simp [numS,h]
theorem Qfl {l r:List UInt8} {u:Nat} (h:rdF 9 true l=some (u,r)):numS (some l)=(zag u,some r):=by simp [numS,h]
theorem rnumber_none (b:Nat) (w:World) (h:QbM w b none) :
  Calls prog 109 #[.pointer (some ⟨b,0,none⟩)] w fun e w'=>e=.returned (.int .i64 0)∧QbM w' b none∧Qaj b w w':=by
 have HF:Hid (Calls _ _ _ _ _):=QdH b _ _ w h;have c0:=Qes.c0 h;clear h;go_enter func109,ntmps109
 go_wp2;refine wp_loop_rounds 1 ?_;rw [rounds_succ];go_wp2_with fail;refine HF.out.mono ?_;rintro e w1 ⟨rfl,q1,q2⟩;have HQ:Hid (QbM w1 b none):=q1;clear q1 HF c0;go_wp2;go_ret;exact ⟨rfl,HQ.out,q2⟩
def RdI (l:List UInt8) (i u:Nat):Prop:=i≤9∧i≤l.length∧u<128 ^ i∧rdF 9 true l=(rdF (9 - i) (decide (i=0)) (l.drop i)).map (fun x=>(u+128 ^ i*x.1,x.2))
theorem rdI_start (l:List UInt8):RdI l 0 0:=by
 refine ⟨by omega,by omega,by omega,?_⟩
 simp
theorem rdI_more {l:List UInt8} {i u:Nat} (h:RdI l i u) (hi:i<9) (hl:i<l.length) (hb:128≤(l[i]'hl).toNat):RdI l (i+1) (u+128 ^ i*((l[i]'hl).toNat % 128)):=by
 obtain ⟨h1,h2,h3,h4⟩:=h;have hp:0<128 ^ i:=Nat.pow_pos (by omega)
 refine ⟨by omega,by omega,?_,?_⟩
 ·rw [Nat.pow_succ]
  have:128 ^ i*((l[i]'hl).toNat % 128)≤128 ^ i*127:=Nat.mul_le_mul_left _ (by omega)
  omega
 ·rw [h4,List.drop_eq_getElem_cons hl,show 9 - i=(9 - (i+1))+1 by omega,rdF,if_pos hb]
  simp only [Option.map_map,Nat.succ_ne_zero,decide_false];congr 1;funext x;simp only [Function.comp];congr 1;rw [Nat.mul_add,← Nat.mul_assoc,Nat.pow_succ,Nat.add_assoc]
theorem rdI_zero {l:List UInt8} {i u:Nat} (h:RdI l i u) (hi:i<9) (hl:i<l.length) (hb:(l[i]'hl).toNat=0) (h0:0<i):rdF 9 true l=none:=by
 obtain ⟨h1,h2,h3,h4⟩:=h;rw [h4,List.drop_eq_getElem_cons hl,show 9 - i=(9 - (i+1))+1 by omega,rdF,if_neg (by omega),if_pos ⟨hb,by simp;omega⟩]
 rfl
theorem rdI_done {l:List UInt8} {i u:Nat} (h:RdI l i u) (hi:i<9) (hl:i<l.length) (hb:(l[i]'hl).toNat<128) (h0:¬ ((l[i]'hl).toNat=0∧0<i)):rdF 9 true l=some (u+128 ^ i*(l[i]'hl).toNat,l.drop (i+1)):=by
 obtain ⟨h1,h2,h3,h4⟩:=h;rw [h4,List.drop_eq_getElem_cons hl,show 9 - i=(9 - (i+1))+1 by omega,rdF,if_neg (by omega),if_neg (fun hh=>h0 ⟨hh.1,by have:=hh.2;simp at this;omega⟩)]
 rfl
theorem rdI_end {l:List UInt8} {i u:Nat} (h:RdI l i u) (hi:¬ (i<9∧i<l.length)):rdF 9 true l=none:=by
 obtain ⟨h1,h2,h3,h4⟩:=h;rw [h4];by_cases h9:i=9
 ·subst h9;simp [rdF]
 ·have:l.drop i=[]:=List.drop_eq_nil_of_le (by omega)
  rw [this,show 9 - i=(9 - (i+1))+1 by omega,rdF]
  rfl
theorem pow7 (k:Nat):2 ^ (7*k)=128 ^ k:=by rw [Nat.pow_mul]
theorem pow7_le {k:Nat} (h:k<9):128 ^ k≤72057594037927936:=by
 have:=Nat.pow_le_pow_right (n:=128) (by omega) (show k≤8 by omega)
 omega
theorem or_seven (u c k:Nat) (hk:k<9) (hu:u<128 ^ k):bits .or .u64 (u:Int) (IntKind.u64.wrap ((c:Int) % 128*2 ^ (7*k)))=((u+128 ^ k*(c % 128):Nat):Int):=by
 have h1:=pow7_le hk;have h2:c % 128*2 ^ (7*k)≤127*72057594037927936:=by
  rw [pow7];exact Nat.mul_le_mul (by omega) h1
 have e1:(c:Int) % 128*2 ^ (7*k)=((c % 128*2 ^ (7*k):Nat):Int):=by push_cast;rfl
 have e2:IntKind.u64.wrap ((c % 128*2 ^ (7*k):Nat):Int)=((c % 128*2 ^ (7*k):Nat):Int):=by
  generalize c % 128*2 ^ (7*k)=m at *
  simp only [IntKind.wrap,IntKind.bits,IntKind.signed];simp;omega
 rw [e1,e2,bits_or_u64_nat _ _ (by omega) (by omega)]
 have:=Nat.two_pow_add_eq_or_of_lt (i:=7*k) (b:=u) (by rw [pow7];exact hu) (c % 128)
 rw [Nat.or_comm,Nat.mul_comm (c % 128),← this,pow7,Nat.add_comm]
theorem u_bound {u k c:Nat} (hk:k<9) (hu:u<128 ^ k):u+128 ^ k*(c % 128)<9223372036854775808:=by
 have h1:=pow7_le hk
 have:128 ^ k*(c % 128)≤128 ^ k*127:=Nat.mul_le_mul_left _ (by omega)
 omega
set_option maxHeartbeats 4000000 in
theorem rnumber_some (b:Nat) (l:List UInt8) (w:World) (h:QbM w b (some l)) (hl:l.length≤9223372036854775807) :
  Calls prog 109 #[.pointer (some ⟨b,0,none⟩)] w fun e w'=>e=.returned (.int .i64 (numS (some l)).1)∧QbM w' b (numS (some l)).2∧Qaj b w w':=by
 obtain ⟨a,cap,x,hby⟩:=h;have Hby:Hid (Qia w b a l cap):=hby;have HF:Hid (Calls _ _ _ _ _):=QdH b _ _ w x;have c0:=x.c0;have Hx:Hid (Qes w b _ _):=x;have hl':(l.length:Int)≤9223372036854775807:=by omega
 clear hby x;obtain ⟨res,hres⟩:∃ res,numS (some l)=res:=⟨_,rfl⟩;have Hres:Hid (numS (some l)=res):=hres;rw [hres];clear hres;by_cases hm:(9:Int)<l.length
 ·go_enter func109,ntmps109
  go_wp2;go_loopw [3,4,5,12] (fun uu _ _ ii wr=>wr=w∧∃ k u:Nat,k≤9∧ii=.int .i64 k∧uu=.int .u64 u∧Hid (RdI l k u)) (fun _ _ _ i _=>9 - (RowKit.intOf i).toNat)
  case atStart=>exact ⟨rfl,0,0,Nat.zero_le _,rfl,rfl,rdI_start l⟩
  case round=>
   obtain ⟨rfl,k,u,hk,rfl,rfl,R⟩:=hrel;by_cases hlt:k<9
   ·have hkl:k<l.length:=by omega
    have hk9:k<9:=by omega
    rcases Hby.out.lies with h0 | ⟨gb,go,rfl,hgb,hgc⟩
    ·rw [h0] at hkl;simp at hkl
    have ck:=hgc k hkl;obtain ⟨c,hc⟩:∃ c,(l[k]'hkl).toNat=c:=⟨_,rfl⟩;have hc256:c<256:=by rw [← hc];exact (l[k]'hkl).toNat_lt
    rw [hc] at ck;have j0:(0:Int)≤k:=by omega
    have j1:(k:Int)<l.length:=by omega
    have j2:(k:Int)<9:=by omega
    have hor:=or_seven u c k hk9 R.out.2.2.1;have hub:=@u_bound u k c hk9 R.out.2.2.1;by_cases h128:128≤c
    ·have h128':(128:Int)≤c:=by omega
     have HN:=rdI_more R.out hk9 hkl (by rw [hc];exact h128)
     rw [hc] at HN;have HN:Hid (RdI l (k+1) _):=HN;generalize u+128 ^ k*(c % 128)=uu at *
     clear hgc Hby HF hc R;go_wp2;go_roundw
     case rel=>exact ⟨trivial,k+1,uu,by omega,by go_num,rfl,HN⟩
     case measure=>simp [RowKit.intOf];omega
    ·have h128':¬ (128:Int)≤c:=by omega
     by_cases h0:c=0∧0<k
     ·have er:res=(0,none):=by
       rw [← Hres.out];exact Qe3 (rdI_zero R.out hk9 hkl (by rw [hc];exact h0.1) h0.2)
      subst er;obtain ⟨rfl,h0k⟩:=h0;have h0k':(0:Int)<k:=by omega
      generalize u+128 ^ k*(0 % 128)=uu at *
      clear hgc Hby hc R;go_wp2_with fail;refine HF.out.mono ?_;rintro e w1 ⟨rfl,q1,q2⟩;have HQ:Hid (QbM w1 b none):=q1;clear q1 HF;go_wp2;go_ret;exact ⟨rfl,HQ.out,q2⟩
     ·obtain ⟨a',c',hD2⟩:=QfS Hby.out (k+1) (by omega)
      have er:res=(zag (u+128 ^ k*(c % 128)),some (l.drop (k+1))):=by
       rw [← Hres.out]
       have:=Qfl (rdI_done R.out hk9 hkl (by omega) (by rw [hc];exact h0))
       rw [hc] at this;rw [this,Nat.mod_eq_of_lt (show c<128 by omega)]
      have h0':¬ ((c:Int)=0∧(0:Int)<k):=by omega
      by_cases hcz:c=0
      ·have hkz:¬ (0:Int)<k:=by omega
       have hcq:((c:Int) == 0)=true:=by simp;omega
       have HD:Hid (_∧_):=hD2;obtain ⟨hD0,hB⟩:=hD2;have hD:∀ W,(Instr.slice 29 (.slice (some ⟨gb,go,none⟩) l.length cap) (some (.int .i64 ((k:Int)+1))) none none).run prog W=.ok (.slice a' (l.length - (k+1)) c') W:=hD0;clear hD0;have f0:=Hx.out.fz 0;have x4:=Hx.out.set0 (.slice a' (l.length - (k+1)) c');have K4:=(Qaj.refl b wr).set 0 (.slice a' (l.length - (k+1)) c');have RA:Hid (QbM (wr.setCell ⟨b,0,none⟩ (.slice a' (l.length - (k+1)) c')) b (some (l.drop (k+1)))):=by
        refine ⟨a',c',?_,hB.keep K4 (by have:=Hx.out.lt;omega)⟩
        rw [List.length_drop];exact x4
       clear HD hB x4 hgc Hby HF hc R hcz h0 h0';by_cases hodd:(u+128 ^ k*(c % 128)) % 2=1
       ·have ez:zag (u+128 ^ k*(c % 128)) = -(((u+128 ^ k*(c % 128)) / 2:Nat):Int) - 1:=if_pos hodd;rw [ez] at er;clear ez;generalize u+128 ^ k*(c % 128)=uu at *
        have hodd':(uu:Int) % 2=1:=by omega
        subst er;clear hodd;go_wp2;go_ret;refine ⟨?_,RA.out,K4⟩;simp
       ·have ez:zag (u+128 ^ k*(c % 128))=(((u+128 ^ k*(c % 128)) / 2:Nat):Int):=if_neg hodd;rw [ez] at er;clear ez;generalize u+128 ^ k*(c % 128)=uu at *
        have hodd':(uu:Int) % 2=0:=by omega
        subst er;clear hodd;go_wp2;go_ret;refine ⟨?_,RA.out,K4⟩;simp
      ·have hcq:((c:Int) == 0)=false:=by simp;omega
       have HD:Hid (_∧_):=hD2;obtain ⟨hD0,hB⟩:=hD2;have hD:∀ W,(Instr.slice 29 (.slice (some ⟨gb,go,none⟩) l.length cap) (some (.int .i64 ((k:Int)+1))) none none).run prog W=.ok (.slice a' (l.length - (k+1)) c') W:=hD0;clear hD0;have f0:=Hx.out.fz 0;have x4:=Hx.out.set0 (.slice a' (l.length - (k+1)) c');have K4:=(Qaj.refl b wr).set 0 (.slice a' (l.length - (k+1)) c');have RA:Hid (QbM (wr.setCell ⟨b,0,none⟩ (.slice a' (l.length - (k+1)) c')) b (some (l.drop (k+1)))):=by
        refine ⟨a',c',?_,hB.keep K4 (by have:=Hx.out.lt;omega)⟩
        rw [List.length_drop];exact x4
       clear HD hB x4 hgc Hby HF hc R hcz h0 h0';by_cases hodd:(u+128 ^ k*(c % 128)) % 2=1
       ·have ez:zag (u+128 ^ k*(c % 128)) = -(((u+128 ^ k*(c % 128)) / 2:Nat):Int) - 1:=if_pos hodd;rw [ez] at er;clear ez;generalize u+128 ^ k*(c % 128)=uu at *
        have hodd':(uu:Int) % 2=1:=by omega
        subst er;clear hodd;go_wp2;go_ret;refine ⟨?_,RA.out,K4⟩;simp
       ·have ez:zag (u+128 ^ k*(c % 128))=(((u+128 ^ k*(c % 128)) / 2:Nat):Int):=if_neg hodd;rw [ez] at er;clear ez;generalize u+128 ^ k*(c % 128)=uu at *
        have hodd':(uu:Int) % 2=0:=by omega
        subst er;clear hodd;go_wp2;go_ret;refine ⟨?_,RA.out,K4⟩;simp
   ·have er:res=(0,none):=by
     rw [← Hres.out];exact Qe3 (rdI_end R.out (by omega))
    subst er;clear Hby R;go_wp2_with fail;refine HF.out.mono ?_;rintro e w1 ⟨rfl,q1,q2⟩;have HQ:Hid (QbM w1 b none):=q1;clear q1 HF;go_wp2;go_ret;exact ⟨rfl,HQ.out,q2⟩
 ·go_enter func109,ntmps109
  go_wp2;go_loopw [3,4,5,12] (fun uu _ _ ii wr=>wr=w∧∃ k u:Nat,k≤l.length∧ii=.int .i64 k∧uu=.int .u64 u∧Hid (RdI l k u)) (fun _ _ _ i _=>l.length - (RowKit.intOf i).toNat)
  case atStart=>exact ⟨rfl,0,0,Nat.zero_le _,rfl,rfl,rdI_start l⟩
  case round=>
   obtain ⟨rfl,k,u,hk,rfl,rfl,R⟩:=hrel;by_cases hlt:k<l.length
   ·have hkl:k<l.length:=by omega
    have hk9:k<9:=by omega
    rcases Hby.out.lies with h0 | ⟨gb,go,rfl,hgb,hgc⟩
    ·rw [h0] at hkl;simp at hkl
    have ck:=hgc k hkl;obtain ⟨c,hc⟩:∃ c,(l[k]'hkl).toNat=c:=⟨_,rfl⟩;have hc256:c<256:=by rw [← hc];exact (l[k]'hkl).toNat_lt
    rw [hc] at ck;have j0:(0:Int)≤k:=by omega
    have j1:(k:Int)<l.length:=by omega
    have j2:(k:Int)<9:=by omega
    have hor:=or_seven u c k hk9 R.out.2.2.1;have hub:=@u_bound u k c hk9 R.out.2.2.1;by_cases h128:128≤c
    ·have h128':(128:Int)≤c:=by omega
     have HN:=rdI_more R.out hk9 hkl (by rw [hc];exact h128)
     rw [hc] at HN;have HN:Hid (RdI l (k+1) _):=HN;generalize u+128 ^ k*(c % 128)=uu at *
     clear hgc Hby HF hc R;go_wp2;go_roundw
     case rel=>exact ⟨trivial,k+1,uu,by omega,by go_num,rfl,HN⟩
     case measure=>simp [RowKit.intOf];omega
    ·have h128':¬ (128:Int)≤c:=by omega
     by_cases h0:c=0∧0<k
     ·have er:res=(0,none):=by
       rw [← Hres.out];exact Qe3 (rdI_zero R.out hk9 hkl (by rw [hc];exact h0.1) h0.2)
      subst er;obtain ⟨rfl,h0k⟩:=h0;have h0k':(0:Int)<k:=by omega
      generalize u+128 ^ k*(0 % 128)=uu at *
      clear hgc Hby hc R;go_wp2_with fail;refine HF.out.mono ?_;rintro e w1 ⟨rfl,q1,q2⟩;have HQ:Hid (QbM w1 b none):=q1;clear q1 HF;go_wp2;go_ret;exact ⟨rfl,HQ.out,q2⟩
     ·obtain ⟨a',c',hD2⟩:=QfS Hby.out (k+1) (by omega)
      have er:res=(zag (u+128 ^ k*(c % 128)),some (l.drop (k+1))):=by
       rw [← Hres.out]
       have:=Qfl (rdI_done R.out hk9 hkl (by omega) (by rw [hc];exact h0))
       rw [hc] at this;rw [this,Nat.mod_eq_of_lt (show c<128 by omega)]
      have h0':¬ ((c:Int)=0∧(0:Int)<k):=by omega
      by_cases hcz:c=0
      ·have hkz:¬ (0:Int)<k:=by omega
       have hcq:((c:Int) == 0)=true:=by simp;omega
       have HD:Hid (_∧_):=hD2;obtain ⟨hD0,hB⟩:=hD2;have hD:∀ W,(Instr.slice 29 (.slice (some ⟨gb,go,none⟩) l.length cap) (some (.int .i64 ((k:Int)+1))) none none).run prog W=.ok (.slice a' (l.length - (k+1)) c') W:=hD0;clear hD0;have f0:=Hx.out.fz 0;have x4:=Hx.out.set0 (.slice a' (l.length - (k+1)) c');have K4:=(Qaj.refl b wr).set 0 (.slice a' (l.length - (k+1)) c');have RA:Hid (QbM (wr.setCell ⟨b,0,none⟩ (.slice a' (l.length - (k+1)) c')) b (some (l.drop (k+1)))):=by
        refine ⟨a',c',?_,hB.keep K4 (by have:=Hx.out.lt;omega)⟩
        rw [List.length_drop];exact x4
       clear HD hB x4 hgc Hby HF hc R hcz h0 h0';by_cases hodd:(u+128 ^ k*(c % 128)) % 2=1
       ·have ez:zag (u+128 ^ k*(c % 128)) = -(((u+128 ^ k*(c % 128)) / 2:Nat):Int) - 1:=if_pos hodd;rw [ez] at er;clear ez;generalize u+128 ^ k*(c % 128)=uu at *
        have hodd':(uu:Int) % 2=1:=by omega
        subst er;clear hodd;go_wp2;go_ret;refine ⟨?_,RA.out,K4⟩;simp
       ·have ez:zag (u+128 ^ k*(c % 128))=(((u+128 ^ k*(c % 128)) / 2:Nat):Int):=if_neg hodd;rw [ez] at er;clear ez;generalize u+128 ^ k*(c % 128)=uu at *
        have hodd':(uu:Int) % 2=0:=by omega
        subst er;clear hodd;go_wp2;go_ret;refine ⟨?_,RA.out,K4⟩;simp
      ·have hcq:((c:Int) == 0)=false:=by simp;omega
       have HD:Hid (_∧_):=hD2;obtain ⟨hD0,hB⟩:=hD2;have hD:∀ W,(Instr.slice 29 (.slice (some ⟨gb,go,none⟩) l.length cap) (some (.int .i64 ((k:Int)+1))) none none).run prog W=.ok (.slice a' (l.length - (k+1)) c') W:=hD0;clear hD0;have f0:=Hx.out.fz 0;have x4:=Hx.out.set0 (.slice a' (l.length - (k+1)) c');have K4:=(Qaj.refl b wr).set 0 (.slice a' (l.length - (k+1)) c');have RA:Hid (QbM (wr.setCell ⟨b,0,none⟩ (.slice a' (l.length - (k+1)) c')) b (some (l.drop (k+1)))):=by
        refine ⟨a',c',?_,hB.keep K4 (by have:=Hx.out.lt;omega)⟩
        rw [List.length_drop];exact x4
       clear HD hB x4 hgc Hby HF hc R hcz h0 h0';by_cases hodd:(u+128 ^ k*(c % 128)) % 2=1
       ·have ez:zag (u+128 ^ k*(c % 128)) = -(((u+128 ^ k*(c % 128)) / 2:Nat):Int) - 1:=if_pos hodd;rw [ez] at er;clear ez;generalize u+128 ^ k*(c % 128)=uu at *
        have hodd':(uu:Int) % 2=1:=by omega
        subst er;clear hodd;go_wp2;go_ret;refine ⟨?_,RA.out,K4⟩;simp
       ·have ez:zag (u+128 ^ k*(c % 128))=(((u+128 ^ k*(c % 128)) / 2:Nat):Int):=if_neg hodd;rw [ez] at er;clear ez;generalize u+128 ^ k*(c % 128)=uu at *
        have hodd':(uu:Int) % 2=0:=by omega
        subst er;clear hodd;go_wp2;go_ret;refine ⟨?_,RA.out,K4⟩;simp
   ·have er:res=(0,none):=by
     rw [← Hres.out];exact Qe3 (rdI_end R.out (by omega))
    subst er;clear Hby R;go_wp2_with fail;refine HF.out.mono ?_;rintro e w1 ⟨rfl,q1,q2⟩;have HQ:Hid (QbM w1 b none):=q1;clear q1 HF;go_wp2;go_ret;exact ⟨rfl,HQ.out,q2⟩
end
section
open Go.RowKit Go.Lib Go.Proofs.Tryz
def Qdw (st:Option (List UInt8)):Prop:=∀ l,st=some l→l.length≤9223372036854775807
theorem rnumber_any (b:Nat) (st:Option (List UInt8)) (w:World) (h:QbM w b st) (hl:Qdw st) :
  Calls prog 109 #[.pointer (some ⟨b,0,none⟩)] w fun e w'=>e=.returned (.int .i64 (numS st).1)∧QbM w' b (numS st).2∧Qaj b w w':=by
 cases st with
 | none=>exact rnumber_none b w h
 | some l=>exact rnumber_some b l w h (hl l rfl)
def Qcj (lo hi:Int):Option (List UInt8)→Int×Option (List UInt8)
 | none=>(0,none)
 | some l=>match rdN lo hi l with
  | none=>(0,none)
  | some (n,r)=>(n,some r)
theorem rdNS_in {lo hi:Int} {st:Option (List UInt8)} (h0:lo≤0) (h1:0≤hi) (h:lo≤(numS st).1∧(numS st).1≤hi):Qcj lo hi st=numS st:=by
 cases st with
 | none=>rfl
 | some l=>
  cases hr:rdF 9 true l with
  | none=>simp [Qcj,rdN,numS,hr]
  | some x=>
   obtain ⟨u,r⟩:=x;rw [Qfl hr] at h ⊢;simp only at h;simp [Qcj,rdN,hr,h]
theorem rdNS_out {lo hi:Int} {st:Option (List UInt8)} (h0:lo≤0) (h1:0≤hi) (h:¬ (lo≤(numS st).1∧(numS st).1≤hi)):Qcj lo hi st=(0,none):=by
 cases st with
 | none=>rfl
 | some l=>
  cases hr:rdF 9 true l with
  | none=>simp [Qcj,rdN,hr]
  | some x=>
   obtain ⟨u,r⟩:=x;rw [Qfl hr] at h;simp only at h;simp [Qcj,rdN,hr,h]
theorem Qey (b:Nat) (st:Option (List UInt8)) (lo hi:Int) (w:World) (h:QbM w b st) (hl:Qdw st) (h0:lo≤0) (h1:0≤hi) :
  Calls prog 70 #[.pointer (some ⟨b,0,none⟩),.int .i64 lo,.int .i64 hi] w fun e w'=>e=.returned (.int .i64 (Qcj lo hi st).1)∧QbM w' b (Qcj lo hi st).2∧Qaj b w w':=by
 have HN:Hid (Calls _ _ _ _ _):=rnumber_any b st w h hl;have hI:=@rdNS_in lo hi st h0 h1;have hO:=@rdNS_out lo hi st h0 h1;generalize numS st=x at *
 obtain ⟨n,s1⟩:=x;simp only at HN hI hO;by_cases ho:lo≤n∧n≤hi
 ·have er:=hI ho;rw [er];obtain ⟨o1,o2⟩:=ho;have o1':¬ n<lo:=by omega
  have o2':¬ hi<n:=by omega
  clear er hI hO h;go_enter func70,ntmps70
  go_wp2_with fail;refine HN.out.mono ?_;rintro e w1 ⟨rfl,q1,q2⟩;have HQ:Hid (QbM w1 b _):=q1;clear q1 HN;go_wp2;go_ret;exact ⟨rfl,HQ.out,q2⟩
 ·have er:=hO ho;rw [er];have ho':n<lo∨(¬ n<lo∧hi<n):=by omega
  have HF:Hid (∀ W,Qaj b w W→QbM W b s1→Calls prog 42 #[.pointer (some ⟨b,0,none⟩)] W fun e w'=>e=.returned (.tuple #[])∧QbM w' b none∧Qaj b w w'):=fun W hK hR=>by
   have:∃ v e0,Qes W b v e0:=by
    cases s1 with
    | none=>exact ⟨_,_,hR⟩
    | some l=>obtain ⟨_,_,x,_⟩:=hR;exact ⟨_,_,x⟩
   obtain ⟨v,e0,x⟩:=this;refine (QdH b v e0 W x).mono ?_;rintro e w' ⟨rfl,q1,q2⟩;exact ⟨rfl,q1,hK.trans q2⟩
  clear er hI hO h ho;rcases ho' with o1 | ⟨o1,o2⟩
  ·go_enter func70,ntmps70
   go_wp2_with fail;refine HN.out.mono ?_;rintro e w1 ⟨rfl,q1,q2⟩;have HF1:Hid (Calls _ _ _ _ _):=HF.out w1 q2 q1;clear q1 HN HF;go_wp2_with fail;refine HF1.out.mono ?_;rintro e w2 ⟨rfl,p1,p2⟩;have HQ:Hid (QbM w2 b _):=p1;clear HF1 p1;go_wp2;go_ret;exact ⟨rfl,HQ.out,p2⟩
  ·go_enter func70,ntmps70
   go_wp2_with fail;refine HN.out.mono ?_;rintro e w1 ⟨rfl,q1,q2⟩;have HF1:Hid (Calls _ _ _ _ _):=HF.out w1 q2 q1;clear q1 HN HF;go_wp2_with fail;refine HF1.out.mono ?_;rintro e w2 ⟨rfl,p1,p2⟩;have HQ:Hid (QbM w2 b _):=p1;clear HF1 p1;go_wp2;go_ret;exact ⟨rfl,HQ.out,p2⟩
theorem rsmall_any (b:Nat) (st:Option (List UInt8)) (w:World) (h:QbM w b st) (hl:Qdw st) :
  Calls prog 39 #[.pointer (some ⟨b,0,none⟩)] w fun e w'=>e=.returned (.int .i64 (Qcj 0 200 st).1)∧QbM w' b (Qcj 0 200 st).2∧Qaj b w w':=by
 have HN:Hid (Calls _ _ _ _ _):=Qey b st 0 200 w h hl (by omega) (by omega)
 generalize Qcj 0 200 st=x at *
 clear h;go_enter func39,ntmps39
 go_wp2_with fail;refine HN.out.mono ?_;rintro e w1 ⟨rfl,q1,q2⟩;have HQ:Hid (QbM w1 b _):=q1;clear q1 HN;go_wp2;go_ret;exact ⟨rfl,HQ.out,q2⟩
theorem ramount_any (b:Nat) (st:Option (List UInt8)) (w:World) (h:QbM w b st) (hl:Qdw st) :
  Calls prog 41 #[.pointer (some ⟨b,0,none⟩)] w fun e w'=>e=.returned (.int .i64 (Qcj (-Qah) Qah st).1)∧QbM w' b (Qcj (-Qah) Qah st).2∧Qaj b w w':=by
 have HN0:=Qey b st (-Qah) Qah w h hl (by unfold Qah;omega) (by unfold Qah;omega)
 generalize Qcj (-Qah) Qah st=x at *
 unfold Qah at HN0;have HN:Hid (Calls _ _ _ _ _):=HN0;clear h HN0;go_enter func41,ntmps41
 go_wp2_with fail;refine HN.out.mono ?_;rintro e w1 ⟨rfl,q1,q2⟩;have HQ:Hid (QbM w1 b _):=q1;clear q1 HN;go_wp2;go_ret;exact ⟨rfl,HQ.out,q2⟩
theorem QiQ (b:Nat) (st:Option (List UInt8)) (hi:Int) (w:World) (h:QbM w b st) (hl:Qdw st) (h1:0≤hi) :
  Calls prog 38 #[.pointer (some ⟨b,0,none⟩),.int .i64 hi] w fun e w'=>e=.returned (.int .i64 (Qcj 0 hi st).1)∧QbM w' b (Qcj 0 hi st).2∧Qaj b w w':=by
 have HN:Hid (Calls _ _ _ _ _):=Qey b st 0 hi w h hl (by omega) h1
 generalize Qcj 0 hi st=x at *
 clear h;go_enter func38,ntmps38
 go_wp2_with fail;refine HN.out.mono ?_;rintro e w1 ⟨rfl,q1,q2⟩;have HQ:Hid (QbM w1 b _):=q1;clear q1 HN;go_wp2;go_ret;exact ⟨rfl,HQ.out,q2⟩
def Qez (k:Nat):Option (List UInt8)→List UInt8×Option (List UInt8)
 | none=>([],none)
 | some l=>if k≤l.length then (l.take k,some (l.drop k)) else ([],none)
theorem rtake_none (b:Nat) (w:World) (h:QbM w b none) :
  Calls prog 71 #[.pointer (some ⟨b,0,none⟩),.int .i64 0] w fun e w'=>e=.returned (.slice none 0 0)∧QbM w' b none∧Qaj b w w':=by
 have x:Qes w b (.slice none 0 0) (.bool true):=h;have c0:=x.c0;have f0:=x.fz 0;have HX:Hid (QbM (w.setCell ⟨b,0,none⟩ (.slice none 0 0)) b none):=x.set0 (.slice none 0 0);have K:=(Qaj.refl b w).set 0 (.slice none 0 0);clear h x;go_enter func71,ntmps71
 go_wp2;go_ret;exact ⟨rfl,HX.out,K⟩
theorem rtake_some (b:Nat) (l:List UInt8) (k:Nat) (w:World) (h:QbM w b (some l)) (hl:l.length≤9223372036854775807) :
  Calls prog 71 #[.pointer (some ⟨b,0,none⟩),.int .i64 k] w fun e w'=>∃ a c,e=.returned (.slice a (Qez k (some l)).1.length c)∧Qia w' b a (Qez k (some l)).1 c∧QbM w' b (Qez k (some l)).2∧Qaj b w w':=by
 obtain ⟨a,cap,x,hby⟩:=h;have c0:=x.c0;have f0:=x.fz 0;have hlt:=x.lt;by_cases hk:k≤l.length
 ·have et:Qez k (some l)=(l.take k,some (l.drop k)):=by simp [Qez,hk]
  have hkl:(l.take k).length=k:=by rw [List.length_take];omega
  rw [et];simp only [hkl];obtain ⟨a1,c1,hT,hB1⟩:=run_byTake hby k hk;obtain ⟨a2,c2,hD,hB2⟩:=QfS hby k hk;have K:=(Qaj.refl b w).set 0 (.slice a2 (l.length - k) c2);have HB1:Hid (Qia _ b a1 (l.take k) c1):=hB1.keep K (by omega)
  have HR:Hid (QbM (w.setCell ⟨b,0,none⟩ (.slice a2 (l.length - k) c2)) b (some (l.drop k))):=by
   refine ⟨a2,c2,?_,hB2.keep K (by omega)⟩
   rw [List.length_drop];exact x.set0 _
  have hk':¬ ((l.length:Int)<k):=by omega
  clear hB1 hB2 hby x et;go_enter func71,ntmps71
  go_wp2;go_ret;exact ⟨_,_,rfl,HB1.out,HR.out,K⟩
 ·have et:Qez k (some l)=([],none):=by simp [Qez,hk]
  rw [et];have hk':((l.length:Int)<k):=by omega
  have HF:Hid (Calls _ _ _ _ _):=QdH b _ _ w x;clear x hby et;go_enter func71,ntmps71
  go_wp2_with fail;refine HF.out.mono ?_;rintro e w1 ⟨rfl,q1,q2⟩;have HQ:Hid (QbM w1 b none):=q1;clear q1 HF;go_wp2;go_ret;exact ⟨_,_,rfl,⟨Nat.le_refl _,.inl rfl⟩,HQ.out,q2⟩
def Qh2:Option (List UInt8)→ByteArray×Option (List UInt8)
 | none=>(ByteArray.empty,none)
 | some l=>match rdT l with
  | none=>(ByteArray.empty,none)
  | some (s,r)=>(s,some r)
theorem rdTS_eq (st:Option (List UInt8)):Qh2 st=(txt (Qez (Qcj 0 24 st).1.toNat (Qcj 0 24 st).2).1,(Qez (Qcj 0 24 st).1.toNat (Qcj 0 24 st).2).2):=by
 cases st with
 | none=>rfl
 | some l=>
  cases hr:rdN 0 24 l with
  | none=>simp only [Qh2,rdT,Qcj,hr,Qez];rfl
  | some x=>
   obtain ⟨n,r⟩:=x;simp only [Qh2,rdT,Qcj,hr,Qez];by_cases hk:n.toNat≤r.length
   ·simp [hk]
   ·simp only [if_neg hk];rfl
theorem rdNS_range {hi:Int} {st:Option (List UInt8)} (h1:0≤hi):0≤(Qcj 0 hi st).1∧(Qcj 0 hi st).1≤hi:=by
 cases st with
 | none=>exact ⟨Int.le_refl _,h1⟩
 | some l=>
  cases hr:rdN 0 hi l with
  | none=>simp [Qcj,hr,h1]
  | some x=>
   obtain ⟨n,r⟩:=x;obtain ⟨_,q1,q2⟩:=rdN_back hr;simp [Qcj,hr,q1,q2]
theorem rdNS_len {lo hi:Int} {st:Option (List UInt8)} (h:Qdw st):Qdw (Qcj lo hi st).2:=by
 cases st with
 | none=>intro l hl;cases hl
 | some l=>
  cases hr:rdN lo hi l with
  | none=>intro l hl;simp [Qcj,hr] at hl
  | some x=>
   obtain ⟨n,r⟩:=x;obtain ⟨e,q1,q2⟩:=rdN_back hr;intro l' hl';simp [Qcj,hr] at hl'
   have:=h l rfl
   rw [e,List.length_append] at this;rw [← hl'];omega
theorem rdTS_len {st:Option (List UInt8)} (h:Qdw st):Qdw (Qh2 st).2:=by
 cases st with
 | none=>intro l hl;cases hl
 | some l=>
  cases hr:rdT l with
  | none=>intro l hl;simp [Qh2,hr] at hl
  | some x=>
   obtain ⟨n,r⟩:=x;obtain ⟨e,q1⟩:=rdT_back hr;intro l' hl';simp [Qh2,hr] at hl'
   have:=h l rfl
   rw [e,List.length_append] at this;rw [← hl'];omega
theorem rtext_any (b:Nat) (st:Option (List UInt8)) (w:World) (h:QbM w b st) (hl:Qdw st) :
  Calls prog 40 #[.pointer (some ⟨b,0,none⟩)] w fun e w'=>e=.returned (.string (Qh2 st).1)∧QbM w' b (Qh2 st).2∧Qaj b w w':=by
 have hlt:=h.lt;have HC:Hid (Calls _ _ _ _ _):=QiQ b st 24 w h hl (by omega)
 have hrg:=@rdNS_range 24 st (by omega)
 have hln:=@rdNS_len 0 24 st hl;rw [rdTS_eq];have hz:(Qcj 0 24 st).2=none→(Qcj 0 24 st).1=0:=by
  intro hh
  cases st with
  | none=>rfl
  | some l=>
   cases hr:rdN 0 24 l with
   | none=>simp [Qcj,hr]
   | some x=>obtain ⟨n,r⟩:=x;simp [Qcj,hr] at hh
 generalize Qcj 0 24 st=x at *
 obtain ⟨n,s1⟩:=x;simp only at HC hrg hln hz ⊢;obtain ⟨k,hk⟩:∃ k:Nat,n=k:=⟨n.toNat,by omega⟩
 subst hk;simp only [Int.toNat_natCast];have HT:Hid (∀ W,Qaj b w W→QbM W b s1→Calls prog 71 #[.pointer (some ⟨b,0,none⟩),.int .i64 k] W fun e w'=>∃ a c,e=.returned (.slice a (Qez k s1).1.length c)∧Qia w' b a (Qez k s1).1 c∧QbM w' b (Qez k s1).2∧Qaj b w w'):=fun W hK hR=>by
  cases s1 with
  | none=>
   have hk0:k=0:=by have:=hz rfl;omega
   subst hk0;refine (rtake_none b W hR).mono ?_;rintro e w' ⟨rfl,q1,q2⟩;exact ⟨none,0,rfl,⟨Nat.le_refl _,.inl rfl⟩,q1,hK.trans q2⟩
  | some l=>
   refine (rtake_some b l k W hR (hln l rfl)).mono ?_;rintro e w' ⟨a,c,rfl,q0,q1,q2⟩;exact ⟨a,c,rfl,q0,q1,hK.trans q2⟩
 clear h hz hln;generalize Qez k s1=y at *
 obtain ⟨bl,s2⟩:=y;simp only at HT ⊢;go_enter func40,ntmps40
 go_wp2_with fail;refine HC.out.mono ?_;rintro e w1 ⟨rfl,q1,q2⟩;have HT1:Hid (Calls _ _ _ _ _):=HT.out w1 q2 q1;clear q1 HC HT;go_wp2_with fail;refine HT1.out.mono ?_;rintro e w2 ⟨a,c,rfl,p0,p1,p2⟩;have hS:=run_str w2 a bl c (p0.isBy (by have:=p2.size;omega))
 have HQ:Hid (QbM w2 b _):=p1;clear HT1 p1 p0;generalize bl.length=m at *
 go_wp2;go_ret;exact ⟨rfl,HQ.out,p2⟩
end
end Go.Proofs.YtjifbbdkpanagaaGreatDoor
