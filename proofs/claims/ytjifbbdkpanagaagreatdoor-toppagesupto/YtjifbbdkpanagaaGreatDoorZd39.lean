/-
  Part of a proof (see the last text).
-/
import Derived.Test.YtjifbbdkpanagaaGreatDoorZd38
set_option linter.unusedVariables false
set_option linter.unusedSimpArgs false
set_option maxRecDepth 100000
namespace Go.Proofs.YtjifbbdkpanagaaGreatDoor
section
open Go.RowKit Go.Lib Go.Proofs.Tryz
structure Qaj (tb:Nat) (V W:World):Prop where
 os:W.os=V.os
 tape:W.tape=V.tape
 output:W.output=V.output
 size:V.heap.size≤W.heap.size
 block:∀ b,b<V.heap.size→b≠tb→W.heap[b]? = V.heap[b]?
theorem Qaj.refl (tb:Nat) (V:World):Qaj tb V V:=⟨rfl,rfl,rfl,Nat.le_refl _,fun _ _ _=>rfl⟩
theorem Qaj.set {tb:Nat} {V W:World} (h:Qaj tb V W) (o:Nat) (v:Value):Qaj tb V (W.setCell ⟨tb,o,none⟩ v):=
 ⟨((Below.refl 0 W).setCell (p:=⟨tb,o,none⟩) (Nat.zero_le _) v).os.trans h.os,((Below.refl 0 W).setCell (p:=⟨tb,o,none⟩) (Nat.zero_le _) v).tape.trans h.tape,((Below.refl 0 W).setCell (p:=⟨tb,o,none⟩) (Nat.zero_le _) v).output.trans h.output,by have:=h.size;simp;omega,fun b hb hn=>(Below.heap_setCell _ _ _ b (fun e=>hn e)).trans (h.block b hb hn)⟩
theorem Qaq.mono {w:World} {n m:Nat} {v:Value} {l:List UInt8} (h:Qaq w n v l) (hm:m≤n):Qaq w m v l:=by
 rcases h.2 with ⟨hv,hn⟩ | ⟨g1,c1,cur,hv,hb1,r⟩
 ·exact ⟨h.1,.inl ⟨hv,hn⟩⟩
 ·exact ⟨h.1,.inr ⟨g1,c1,cur,hv,by omega,r⟩⟩
theorem Qaq.setOther {W:World} {n b o:Nat} {v u:Value} {l:List UInt8} (h:Qaq W n v l) (hb:b<n):Qaq (W.setCell ⟨b,o,none⟩ u) n v l:=by
 rcases h.2 with ⟨hv,hn⟩ | ⟨g1,c1,cur,hv,hb1,hh,r⟩
 ·exact ⟨h.1,.inl ⟨hv,hn⟩⟩
 ·exact ⟨h.1,.inr ⟨g1,c1,cur,hv,hb1,(Below.heap_setCell _ _ _ g1 (fun e=>by simp only at e;omega)).trans hh,r⟩⟩
theorem by_info:(prog.info? 5).map (fun i=>(i.zero,i.size,i.bytes))=some (some (.int .u8 0),1,1):=by kernel_rfl
theorem Qaj.brow {tb:Nat} {V W:World} (h:Qaj tb V W) {n:Nat} {v:Value} {l:List Bl} (hr:Qba V n v l) (hn:tb<n):Qba W n v l:=by
 rcases hr.2 with ⟨hv,h0⟩ | ⟨g1,c1,cur,hv,hb1,hh,r⟩
 ·exact ⟨hr.1,.inl ⟨hv,h0⟩⟩
 ·exact ⟨hr.1,.inr ⟨g1,c1,cur,hv,hb1,(h.block g1 (Array.getElem?_eq_some_iff.1 hh).1 (by omega)).trans hh,r⟩⟩
end
section
open Go.RowKit Go.Lib Go.Proofs.Tryz
def Qdq (W:World) (b:Nat) (v e:Value):Prop:=W.heap[b]? = some (.cells #[v,e] 68 (0,0))
theorem Qdq.c0 {W:World} {b:Nat} {v e:Value} (h:Qdq W b v e):W.cell? ⟨b,0,none⟩=some v:=by unfold Qdq at h;simp [World.cell?,h]
theorem Qdq.c1 {W:World} {b:Nat} {v e:Value} (h:Qdq W b v e):W.cell? ⟨b,1,none⟩=some e:=by unfold Qdq at h;simp [World.cell?,h]
theorem Qdq.fz {W:World} {b:Nat} {v e:Value} (h:Qdq W b v e) (o:Nat):W.frozen? ⟨b,o,none⟩=false:=by unfold Qdq at h;simp [World.frozen?,h]
theorem Qdq.lt {W:World} {b:Nat} {v e:Value} (h:Qdq W b v e):b<W.heap.size:=(Array.getElem?_eq_some_iff.1 h).1
theorem Qdq.below {W W':World} {b n:Nat} {v e:Value} (h:Qdq W b v e) (hb:Below n W W') (hn:b<n):Qdq W' b v e:=(hb.block b hn).trans h
theorem Qdq.new (W:World) (v e:Value):Qdq (W.alloc (.cells #[v,e] 68)) W.heap.size v e:=Qai W _
theorem Qdq.alloc {W:World} {b:Nat} {v e:Value} (h:Qdq W b v e) (o:Obj):Qdq (W.alloc o) b v e:=((World.grownBy_alloc W o none).block b h.lt (by simp)).trans h
theorem Qdq.grow {W W':World} {b:Nat} {row:Option Nat} {v e:Value} (h:Qdq W b v e) (hg:W.grownBy W' row) (hr:∀ j,row=some j→b<j):Qdq W' b v e:=
 (hg.block b h.lt (fun e=>by have:=hr b e.symm;omega)).trans h
theorem Qdq.set0 {W:World} {b:Nat} {v e:Value} (h:Qdq W b v e) (v':Value):Qdq (W.setCell ⟨b,0,none⟩ v') b v' e:=by
 unfold Qdq at *
 rw [setCell_eq_setRow W b 0 _ 68 (0,0) _ h,setRow_heap W b _ _ 68 (0,0) h];rfl
theorem Qdq.set1 {W:World} {b:Nat} {v e:Value} (h:Qdq W b v e) (e':Value):Qdq (W.setCell ⟨b,1,none⟩ e') b v e':=by
 unfold Qdq at *
 rw [setCell_eq_setRow W b 1 _ 68 (0,0) _ h,setRow_heap W b _ _ 68 (0,0) h];rfl
def Qc5 (W:World) (b:Nat) (bs:List UInt8) (err:Int):Prop:=∃ v,Qdq W b v (enE err)∧Qaq W (b+1) v bs
set_option maxHeartbeats 2000000 in
theorem QeL (b:Nat) (bs:List UInt8) (err n:Int) (w:World) (h1:-9223372036854775808≤n) (h2:n≤9223372036854775807) (hl:bs.length≤1099511627776) (h:Qc5 w b bs err) :
  Calls prog 22 #[.pointer (some ⟨b,0,none⟩),.int .i64 n] w fun e w'=>e=.returned (.tuple #[])∧Qc5 w' b (bs++Qd5 n) err∧Below b w w':=by
 have hz:=zig_lt h1 h2;have hlen:=numB_length h1 h2;have Hall:Hid ((bs++Qd5 n).length≤1099511627786):=by unfold Hid;rw [List.length_append];omega
 obtain ⟨all,hall⟩:∃ all,bs++Qd5 n=all:=⟨_,rfl⟩;have Hstart:Hid (bs++encU (zig n)=all):=hall;rw [hall] at Hall ⊢;have Hw:Hid (Qc5 w b bs err):=h;clear hall hlen hl h;obtain ⟨i0,hi,hz0,hz1,hz2⟩:=info_parts by_info;by_cases hn:n<0
 ·have ez:((zig n:Nat):Int) = -2*n - 1:=by unfold zig;rw [if_pos hn];omega
  generalize zig n=u at *
  have hw1:IntKind.u64.wrap (IntKind.u64.wrap (-IntKind.u64.wrap (2*IntKind.u64.wrap n)) - 1)=u:=by
   simp only [IntKind.wrap,IntKind.bits,IntKind.signed];simp;omega
  clear ez;go_enter func22,ntmps22
  go_wp2;go_loopw [4] (fun i wr=>∃ k:Nat,k<18446744073709551616∧i=.int .u64 k∧(∃ bs',Hid (bs'++encU k=all)∧Hid (Qc5 wr b bs' err))∧Below b w wr) (fun i _=>(RowKit.intOf i).toNat)
  case atStart=>exact ⟨u,hz,rfl,⟨bs,Hstart,Hw⟩,Below.refl _ _⟩
  case round=>
   obtain ⟨k,hk,rfl,⟨bs',E,R⟩,BW⟩:=hrel;obtain ⟨v,x,r⟩:=R.out;have hxlt:=x.lt;have c0:=x.c0;have hk':(k:Int)<18446744073709551616:=by omega
   have hblen:bs'.length+1≤1099511627786:=by
    have:=Hall.out
    rw [← E.out,List.length_append] at this
    have:=encU_pos k
    omega
   have Hm1:Hid (bs'.length+1≤maxLen):=by unfold Hid maxLen;omega
   have Hm2:Hid ((bs'.length+1)*1≤140737488355328):=by unfold Hid;omega
   have hoj:=r.own;by_cases hlt:128≤k
   ·have hlt':(128:Int)≤k:=by omega
    have hX:(k:Int) % 128+128=((UInt8.ofNat (k % 128+128)).toNat:Int):=by simp;omega
    have Hx:Hid (Qdq wr b v (enE err)):=x;have Hr:Hid (Qaq wr (b+1) v bs'):=r;have HX:Hid (_=_):=hX;clear R x r hX hblen;go_wp2_with (at_builtin;refine wpList_append_own _ rfl _ _ 29 rfl (b+1) 5 i0 (.int .u8 0) 1 1 underlying29 hi hz0 hz1 hz2 rfl (by decide) _ _ _ rfl (World.ownsRow.alloc Hr.out _) ⟨wr.heap.size,0,none⟩ 1 1 [.int .u8 ((k:Int) % 128+128)] rfl rfl (cell_one_new _ _ _) (by simp [Value.oneCell']) Hm1.out Hm2.out (by simp;omega) ?_)
    intro v' w3 hown hgrow _;have x3:=(Hx.out.alloc (.cells #[.int .u8 ((k:Int) % 128+128)] 5)).grow hgrow (fun j e=>by have:=hoj j e;omega)
    have B3:Below b w w3:=(BW.alloc (by omega) (.cells #[.int .u8 ((k:Int) % 128+128)] 5)).grown hgrow (by simp;omega) (fun j e=>by have:=hoj j e;omega)
    have d0:=x3.c0;have f0:=x3.fz 0;have x4:=x3.set0 v';have B4:=B3.setCell (p:=⟨b,0,none⟩) (Nat.le_refl b) v';have R4:Qaq (w3.setCell ⟨b,0,none⟩ v') (b+1) v' (bs'++[UInt8.ofNat (k % 128+128)]):=by
     refine Qaq.setOther ?_ (Nat.lt_succ_self b);unfold Qaq;rw [QbJ,List.length_append];have e1:byC [UInt8.ofNat (k % 128+128)]=[.int .u8 ((k:Int) % 128+128)]:=by rw [HX.out];rfl
     rw [e1];exact hown
    have E4:(bs'++[UInt8.ofNat (k % 128+128)])++encU (k / 128)=all:=by
     rw [← E.out,QfC hlt];simp
    have HE4:Hid (_=all):=E4;have HW4:Hid (Qc5 (w3.setCell ⟨b,0,none⟩ v') b (bs'++[UInt8.ofNat (k % 128+128)]) err):=⟨v',x4,R4⟩;obtain ⟨a4,c4,e4,_⟩:=R4.isBy;subst e4;generalize (bs'++[UInt8.ofNat (k % 128+128)]).length=m4 at *
    clear hown hgrow Hx Hr E E4 R4 x4 x3 B3 HX;go_wp2;go_roundw
    case rel=>exact ⟨k / 128,by omega,by go_num,⟨_,HE4,HW4⟩,B4⟩
    case measure=>simp [RowKit.intOf];omega
   ·have hlt':¬ (128:Int)≤k:=by omega
    have hX:(k:Int)=((UInt8.ofNat k).toNat:Int):=by simp;omega
    have Hx:Hid (Qdq wr b v (enE err)):=x;have Hr:Hid (Qaq wr (b+1) v bs'):=r;have HX:Hid (_=_):=hX;clear R x r hX hblen;go_wp2_with (at_builtin;refine wpList_append_own _ rfl _ _ 29 rfl (b+1) 5 i0 (.int .u8 0) 1 1 underlying29 hi hz0 hz1 hz2 rfl (by decide) _ _ _ rfl (World.ownsRow.alloc Hr.out _) ⟨wr.heap.size,0,none⟩ 1 1 [.int .u8 (k:Int)] rfl rfl (cell_one_new _ _ _) (by simp [Value.oneCell']) Hm1.out Hm2.out (by simp;omega) ?_)
    intro v' w3 hown hgrow _;have x3:=(Hx.out.alloc (.cells #[.int .u8 (k:Int)] 5)).grow hgrow (fun j e=>by have:=hoj j e;omega)
    have B3:Below b w w3:=(BW.alloc (by omega) (.cells #[.int .u8 (k:Int)] 5)).grown hgrow (by simp;omega) (fun j e=>by have:=hoj j e;omega)
    have d0:=x3.c0;have f0:=x3.fz 0;have x4:=x3.set0 v';have B4:=B3.setCell (p:=⟨b,0,none⟩) (Nat.le_refl b) v';have R4:Qaq (w3.setCell ⟨b,0,none⟩ v') (b+1) v' all:=by
     refine Qaq.setOther ?_ (Nat.lt_succ_self b);rw [← E.out,Qeu (by omega)]
     unfold Qaq;rw [QbJ,List.length_append];have e1:byC [UInt8.ofNat k]=[.int .u8 (k:Int)]:=by rw [HX.out];rfl
     rw [e1];exact hown
    have HW4:Hid (Qc5 (w3.setCell ⟨b,0,none⟩ v') b all err):=⟨v',x4,R4⟩;obtain ⟨a4,c4,e4,_⟩:=R4.isBy;subst e4;generalize all.length=m4 at *
    clear hown hgrow Hx Hr E R4 x4 x3 B3 HX;go_wp2;go_end0
    exact ⟨rfl,HW4.out,B4⟩
 ·have ez:((zig n:Nat):Int)=2*n:=by unfold zig;rw [if_neg hn];omega
  generalize zig n=u at *
  have ez2:2*n=(u:Int):=ez.symm;clear ez;go_enter func22,ntmps22
  go_wp2;go_loopw [4] (fun i wr=>∃ k:Nat,k<18446744073709551616∧i=.int .u64 k∧(∃ bs',Hid (bs'++encU k=all)∧Hid (Qc5 wr b bs' err))∧Below b w wr) (fun i _=>(RowKit.intOf i).toNat)
  case atStart=>exact ⟨u,hz,rfl,⟨bs,Hstart,Hw⟩,Below.refl _ _⟩
  case round=>
   obtain ⟨k,hk,rfl,⟨bs',E,R⟩,BW⟩:=hrel;obtain ⟨v,x,r⟩:=R.out;have hxlt:=x.lt;have c0:=x.c0;have hk':(k:Int)<18446744073709551616:=by omega
   have hblen:bs'.length+1≤1099511627786:=by
    have:=Hall.out
    rw [← E.out,List.length_append] at this
    have:=encU_pos k
    omega
   have Hm1:Hid (bs'.length+1≤maxLen):=by unfold Hid maxLen;omega
   have Hm2:Hid ((bs'.length+1)*1≤140737488355328):=by unfold Hid;omega
   have hoj:=r.own;by_cases hlt:128≤k
   ·have hlt':(128:Int)≤k:=by omega
    have hX:(k:Int) % 128+128=((UInt8.ofNat (k % 128+128)).toNat:Int):=by simp;omega
    have Hx:Hid (Qdq wr b v (enE err)):=x;have Hr:Hid (Qaq wr (b+1) v bs'):=r;have HX:Hid (_=_):=hX;clear R x r hX hblen;go_wp2_with (at_builtin;refine wpList_append_own _ rfl _ _ 29 rfl (b+1) 5 i0 (.int .u8 0) 1 1 underlying29 hi hz0 hz1 hz2 rfl (by decide) _ _ _ rfl (World.ownsRow.alloc Hr.out _) ⟨wr.heap.size,0,none⟩ 1 1 [.int .u8 ((k:Int) % 128+128)] rfl rfl (cell_one_new _ _ _) (by simp [Value.oneCell']) Hm1.out Hm2.out (by simp;omega) ?_)
    intro v' w3 hown hgrow _;have x3:=(Hx.out.alloc (.cells #[.int .u8 ((k:Int) % 128+128)] 5)).grow hgrow (fun j e=>by have:=hoj j e;omega)
    have B3:Below b w w3:=(BW.alloc (by omega) (.cells #[.int .u8 ((k:Int) % 128+128)] 5)).grown hgrow (by simp;omega) (fun j e=>by have:=hoj j e;omega)
    have d0:=x3.c0;have f0:=x3.fz 0;have x4:=x3.set0 v';have B4:=B3.setCell (p:=⟨b,0,none⟩) (Nat.le_refl b) v';have R4:Qaq (w3.setCell ⟨b,0,none⟩ v') (b+1) v' (bs'++[UInt8.ofNat (k % 128+128)]):=by
     refine Qaq.setOther ?_ (Nat.lt_succ_self b);unfold Qaq;rw [QbJ,List.length_append];have e1:byC [UInt8.ofNat (k % 128+128)]=[.int .u8 ((k:Int) % 128+128)]:=by rw [HX.out];rfl
     rw [e1];exact hown
    have E4:(bs'++[UInt8.ofNat (k % 128+128)])++encU (k / 128)=all:=by
     rw [← E.out,QfC hlt];simp
    have HE4:Hid (_=all):=E4;have HW4:Hid (Qc5 (w3.setCell ⟨b,0,none⟩ v') b (bs'++[UInt8.ofNat (k % 128+128)]) err):=⟨v',x4,R4⟩;obtain ⟨a4,c4,e4,_⟩:=R4.isBy;subst e4;generalize (bs'++[UInt8.ofNat (k % 128+128)]).length=m4 at *
    clear hown hgrow Hx Hr E E4 R4 x4 x3 B3 HX;go_wp2;go_roundw
    case rel=>exact ⟨k / 128,by omega,by go_num,⟨_,HE4,HW4⟩,B4⟩
    case measure=>simp [RowKit.intOf];omega
   ·have hlt':¬ (128:Int)≤k:=by omega
    have hX:(k:Int)=((UInt8.ofNat k).toNat:Int):=by simp;omega
    have Hx:Hid (Qdq wr b v (enE err)):=x;have Hr:Hid (Qaq wr (b+1) v bs'):=r;have HX:Hid (_=_):=hX;clear R x r hX hblen;go_wp2_with (at_builtin;refine wpList_append_own _ rfl _ _ 29 rfl (b+1) 5 i0 (.int .u8 0) 1 1 underlying29 hi hz0 hz1 hz2 rfl (by decide) _ _ _ rfl (World.ownsRow.alloc Hr.out _) ⟨wr.heap.size,0,none⟩ 1 1 [.int .u8 (k:Int)] rfl rfl (cell_one_new _ _ _) (by simp [Value.oneCell']) Hm1.out Hm2.out (by simp;omega) ?_)
    intro v' w3 hown hgrow _;have x3:=(Hx.out.alloc (.cells #[.int .u8 (k:Int)] 5)).grow hgrow (fun j e=>by have:=hoj j e;omega)
    have B3:Below b w w3:=(BW.alloc (by omega) (.cells #[.int .u8 (k:Int)] 5)).grown hgrow (by simp;omega) (fun j e=>by have:=hoj j e;omega)
    have d0:=x3.c0;have f0:=x3.fz 0;have x4:=x3.set0 v';have B4:=B3.setCell (p:=⟨b,0,none⟩) (Nat.le_refl b) v';have R4:Qaq (w3.setCell ⟨b,0,none⟩ v') (b+1) v' all:=by
     refine Qaq.setOther ?_ (Nat.lt_succ_self b);rw [← E.out,Qeu (by omega)]
     unfold Qaq;rw [QbJ,List.length_append];have e1:byC [UInt8.ofNat k]=[.int .u8 (k:Int)]:=by rw [HX.out];rfl
     rw [e1];exact hown
    have HW4:Hid (Qc5 (w3.setCell ⟨b,0,none⟩ v') b all err):=⟨v',x4,R4⟩;obtain ⟨a4,c4,e4,_⟩:=R4.isBy;subst e4;generalize all.length=m4 at *
    clear hown hgrow Hx Hr E R4 x4 x3 B3 HX;go_wp2;go_end0
    exact ⟨rfl,HW4.out,B4⟩
end
section
open Go.RowKit Go.Lib Go.Proofs.Tryz
def fo (a b:Int):Int:=if a=0 then b else a
theorem fo_zero (a:Int):fo a 0=a:=by unfold fo;split <;> omega
theorem QcZ {a b:Int}:fo a b=0↔a=0∧b=0:=by unfold fo;split <;> omega
theorem wfail_any (b:Nat) (bs:List UInt8) (err n:Int) (w:World) (h0:n≠0) (h:Qc5 w b bs err) :
  Calls prog 61 #[.pointer (some ⟨b,0,none⟩),.int .i64 n] w fun e w'=>e=.returned (.tuple #[])∧Qc5 w' b bs (fo err n)∧Below b w w':=by
 obtain ⟨v,x,r⟩:=h;have c1:=x.c1;have f1:=x.fz 1;by_cases he:err=0
 ·subst he;rw [QbE] at c1;have e1:fo 0 n=n:=rfl;have x4:=x.set1 (.iface 66 (.int .i64 n));have HW:Hid (Qc5 (w.setCell ⟨b,1,none⟩ (.iface 66 (.int .i64 n))) b bs n):=⟨v,by rw [QaF h0];exact x4,Qaq.setOther r (Nat.lt_succ_self b)⟩
  have B4:=(Below.refl b w).setCell (p:=⟨b,1,none⟩) (Nat.le_refl b) (.iface 66 (.int .i64 n));rw [e1];clear x x4 r e1;go_enter func61,ntmps61
  go_wp2;go_end0
  exact ⟨rfl,HW.out,B4⟩
 ·rw [QaF he] at c1;have e1:fo err n=err:=if_neg he;have HW:Hid (Qc5 w b bs err):=⟨v,x,r⟩;rw [e1];clear x r e1;go_enter func61,ntmps61
  go_wp2;go_end0
  exact ⟨rfl,HW.out,Below.refl _ _⟩
def outB (lo hi n:Int):Int:=if lo≤n∧n≤hi then 0 else 1
theorem Qhc (b:Nat) (bs:List UInt8) (err n lo hi:Int) (w:World) (h1:-9223372036854775808≤n) (h2:n≤9223372036854775807) (hl:bs.length≤1099511627776) (h:Qc5 w b bs err) :
  Calls prog 60 #[.pointer (some ⟨b,0,none⟩),.int .i64 n,.int .i64 lo,.int .i64 hi] w fun e w'=>e=.returned (.tuple #[])∧Qc5 w' b (bs++Qd5 n) (fo err (outB lo hi n))∧Below b w w':=by
 have HN:Hid (∀ err' W,Qc5 W b bs err'→Below b w W→Calls prog 22 #[.pointer (some ⟨b,0,none⟩),.int .i64 n] W fun e w'=>e=.returned (.tuple #[])∧Qc5 w' b (bs++Qd5 n) err'∧Below b w w'):=fun err' W hW hB=>by
  refine (QeL b bs err' n W h1 h2 hl hW).mono ?_;rintro e w' ⟨rfl,q1,q2⟩;exact ⟨rfl,q1,hB.trans q2⟩
 have HF:Hid (Calls _ _ _ _ _):=wfail_any b bs err 1 w (by decide) h
 have Hw:Hid (Qc5 w b bs err):=h;clear h;by_cases ho:lo≤n∧n≤hi
 ·have e1:fo err (outB lo hi n)=err:=by simp [outB,ho,fo_zero]
  obtain ⟨o1,o2⟩:=ho;have o1':¬ n<lo:=by omega
  have o2':¬ hi<n:=by omega
  rw [e1];clear e1 HF;go_enter func60,ntmps60
  go_wp2_with fail;refine (HN.out err w Hw.out (Below.refl _ _)).mono ?_;rintro e w1 ⟨rfl,q1,q2⟩;have HQ:Hid (Qc5 w1 b (bs++Qd5 n) err):=q1;clear q1 HN Hw;go_wp2;go_end0
  exact ⟨rfl,HQ.out,q2⟩
 ·have e1:outB lo hi n=1:=by simp only [outB];rw [if_neg ho]
  rw [e1];have ho':n<lo∨(¬ n<lo∧hi<n):=by omega
  clear e1 ho;rcases ho' with o1 | ⟨o1,o2⟩
  ·go_enter func60,ntmps60
   go_wp2_with fail;refine HF.out.mono ?_;rintro e w0 ⟨rfl,p1,p2⟩;have HN1:=HN.out _ _ p1 p2;clear HF HN p1;go_wp2_with fail;refine HN1.mono ?_;rintro e w1 ⟨rfl,q1,q2⟩;have HQ:Hid (Qc5 w1 b (bs++Qd5 n) _):=q1;clear q1 HN1 Hw;go_wp2;go_end0
   exact ⟨rfl,HQ.out,q2⟩
  ·go_enter func60,ntmps60
   go_wp2_with fail;refine HF.out.mono ?_;rintro e w0 ⟨rfl,p1,p2⟩;have HN1:=HN.out _ _ p1 p2;clear HF HN p1;go_wp2_with fail;refine HN1.mono ?_;rintro e w1 ⟨rfl,q1,q2⟩;have HQ:Hid (Qc5 w1 b (bs++Qd5 n) _):=q1;clear q1 HN1 Hw;go_wp2;go_end0
   exact ⟨rfl,HQ.out,q2⟩
theorem wsmall_any (b:Nat) (bs:List UInt8) (err n:Int) (w:World) (h1:-9223372036854775808≤n) (h2:n≤9223372036854775807) (hl:bs.length≤1099511627776) (h:Qc5 w b bs err) :
  Calls prog 23 #[.pointer (some ⟨b,0,none⟩),.int .i64 n] w fun e w'=>e=.returned (.tuple #[])∧Qc5 w' b (bs++Qd5 n) (fo err (outB 0 200 n))∧Below b w w':=by
 have HW:=Qhc b bs err n 0 200 w h1 h2 hl h;clear h;go_enter func23,ntmps23
 go_wp2_with fail;refine HW.mono ?_;rintro e w1 ⟨rfl,q1,q2⟩;have HQ:Hid (Qc5 w1 b _ _):=q1;clear q1 HW;go_wp2;go_end0
 exact ⟨rfl,HQ.out,q2⟩
theorem wamount_any (b:Nat) (bs:List UInt8) (err n:Int) (w:World) (h1:-9223372036854775808≤n) (h2:n≤9223372036854775807) (hl:bs.length≤1099511627776) (h:Qc5 w b bs err) :
  Calls prog 25 #[.pointer (some ⟨b,0,none⟩),.int .i64 n] w fun e w'=>e=.returned (.tuple #[])∧Qc5 w' b (bs++Qd5 n) (fo err (outB (-Qah) Qah n))∧Below b w w':=by
 have HW:=Qhc b bs err n (-Qah) Qah w h1 h2 hl h;clear h;unfold Qah at *
 go_enter func25,ntmps25
 go_wp2_with fail;refine HW.mono ?_;rintro e w1 ⟨rfl,q1,q2⟩;have HQ:Hid (Qc5 w1 b _ _):=q1;clear q1 HW;go_wp2;go_end0
 exact ⟨rfl,HQ.out,q2⟩
def longB (s:ByteArray):Int:=if 24<s.size then 4 else 0
def txtW (s:ByteArray):List UInt8:=if 24<s.size then [] else Qgn s
theorem Qdj (s:ByteArray):(txtW s).length≤34:=by
 unfold txtW
 split
 ·simp
 ·exact textB_length (by omega)
set_option maxHeartbeats 1000000 in
theorem wtext_any (b:Nat) (bs:List UInt8) (err:Int) (s:ByteArray) (w:World) (hl:bs.length≤549755813888) (h:Qc5 w b bs err) :
  Calls prog 24 #[.pointer (some ⟨b,0,none⟩),.string s] w fun e w'=>e=.returned (.tuple #[])∧Qc5 w' b (bs++txtW s) (fo err (longB s))∧Below b w w':=by
 by_cases hs:24<s.size
 ·have hs':(24:Int)<s.size:=by omega
  have HF:Hid (Calls _ _ _ _ _):=wfail_any b bs err 4 w (by decide) h
  have e1:longB s=4:=if_pos hs;have e2:bs++txtW s=bs:=by simp [txtW,hs]
  rw [e1,e2];clear e1 e2 h;go_enter func24,ntmps24
  go_wp2_with fail;refine HF.out.mono ?_;rintro e w1 ⟨rfl,q1,q2⟩;have HQ:Hid (Qc5 w1 b _ _):=q1;clear q1 HF;go_wp2;refine bodyPost_ret (results_none rfl _ _ _) rfl ?_;exact ⟨rfl,HQ.out,q2⟩
 ·have hs':¬ (24:Int)<s.size:=by omega
  have HN:Hid (Calls _ _ _ _ _):=QeL b bs err s.size w (by omega) (by omega) (by omega) h
  have e1:fo err (longB s)=err:=by simp [longB,hs,fo_zero]
  have e2:bs++txtW s=(bs++Qd5 s.size)++s.data.toList:=by simp [txtW,hs,Qgn]
  have hb1:(bs++Qd5 s.size).length≤549755813898:=by
   have:=@numB_length s.size (by omega) (by omega)
   rw [List.length_append];omega
  have Hm1:Hid ((bs++Qd5 s.size).length+s.size≤maxLen):=by unfold Hid maxLen;omega
  have Hm2:Hid ((bs++Qd5 s.size).length+s.size≤140737488355328):=by unfold Hid;omega
  rw [e1,e2];generalize bs++Qd5 s.size=cs at *
  clear e1 e2 h hb1;obtain ⟨i0,hi,hz0,hz1,hz2⟩:=info_parts by_info;go_enter func24,ntmps24
  go_wp2_with fail;refine HN.out.mono ?_;rintro e w1 ⟨rfl,⟨v,x,r⟩,BW⟩;have hxlt:=x.lt;have c0:=x.c0;have hoj:=r.own;have Hx:Hid (Qdq w1 b v (enE err)):=x;have Hr:Hid (Qaq w1 (b+1) v cs):=r;clear HN x r;go_wp2_with (at_builtin;refine wpList_append_own_string _ rfl _ _ 29 9 rfl (b+1) 5 i0 underlying29 underlying9 hi hz0 hz1 hz2 _ _ _ rfl Hr.out s rfl Hm1.out Hm2.out (by omega) ?_)
  intro v' w3 hown hgrow _;have x3:=Hx.out.grow hgrow (fun j e=>by have:=hoj j e;omega)
  have B3:Below b w w3:=BW.grown hgrow (by omega) (fun j e=>by have:=hoj j e;omega)
  have d0:=x3.c0;have f0:=x3.fz 0;have x4:=x3.set0 v';have B4:=B3.setCell (p:=⟨b,0,none⟩) (Nat.le_refl b) v';have R4:Qaq (w3.setCell ⟨b,0,none⟩ v') (b+1) v' (cs++s.data.toList):=by
   refine Qaq.setOther ?_ (Nat.lt_succ_self b);unfold Qaq;rw [QbJ,List.length_append,QeN];exact hown
  have HW4:Hid (Qc5 (w3.setCell ⟨b,0,none⟩ v') b (cs++s.data.toList) err):=⟨v',x4,R4⟩;obtain ⟨a4,c4,e4,_⟩:=R4.isBy;subst e4;generalize (cs++s.data.toList).length=m4 at *
  clear hown hgrow Hx Hr R4 x4 x3 B3;go_wp2;go_end0
  exact ⟨rfl,HW4.out,B4⟩
theorem wall_bad (b:Nat) (bs:List UInt8) (err:Int) (w:World) (he:err≠0) (h:Qc5 w b bs err) :
  Calls prog 27 #[.pointer (some ⟨b,0,none⟩)] w fun e w'=>e=.returned (.tuple #[.slice none 0 0,enE err])∧Below w.heap.size w w':=by
 obtain ⟨v,x,r⟩:=h;have c1:=x.c1;rw [QaF he] at c1 ⊢;clear x r;go_enter func27,ntmps27
 go_wp2_with fail;go_quiet (fail)
 go_wp2;go_ret2;exact ⟨rfl,QcF (Below.refl _ _) _⟩
theorem wall_ok (b:Nat) (bs:List UInt8) (w:World) (h:Qc5 w b bs 0) :
  Calls prog 27 #[.pointer (some ⟨b,0,none⟩)] w fun e w'=>∃ v,e=.returned (.tuple #[v,.nilIface])∧Qaq w' (b+1) v bs∧Below w.heap.size w w':=by
 obtain ⟨v,x,r⟩:=h;have c1:=x.c1;rw [QbE] at c1;have c0:=x.c0;obtain ⟨a4,c4,e4,_⟩:=r.isBy;subst e4;have Hr:Hid (Qaq w (b+1) (.slice a4 bs.length c4) bs):=r;generalize bs.length=m4 at *
 clear x r;go_enter func27,ntmps27
 go_wp2;go_ret2;exact ⟨_,rfl,Hr.out,Below.refl _ _⟩
end
end Go.Proofs.YtjifbbdkpanagaaGreatDoor
