/-
  Part of a proof (see the last text).
-/
import Derived.Test.YtjifbbdkpanagaaGreatDoorZd24
set_option linter.unusedVariables false
set_option linter.unusedSimpArgs false
set_option maxRecDepth 100000
namespace Go.Proofs.YtjifbbdkpanagaaGreatDoor
section
open Go.RowKit Go.Lib Go.Proofs.Tryz
theorem leaf_size {c:List Ac} {code:ByteArray} (h:Qaa c code=0) (hc:QaC c=0):code.size≤6:=by
 unfold Qaa at h;split at h
 ·omega
 ·split at h
  ·rename_i h2;unfold memB at h2;rw [List.any_eq_true] at h2;obtain ⟨x,hx,he⟩:=h2;have he':x=code:=by simpa using he
   subst he';unfold lvs at hx;obtain ⟨a,ha,rfl⟩:=List.mem_map.1 hx;have ha':=(List.mem_filter.1 ha).1;obtain ⟨k,hk,e⟩:=List.getElem_of_mem ha'
   have:=code_six hc hk
   rw [List.getD_eq_getElem?_getD,List.getElem?_eq_getElem hk] at this;simp only [Option.getD_some,e] at this;exact this
  ·omega
theorem sum_len (l:List Je) (n:Nat) (h:∀ x∈l,(Qif x).length≤n):(l.flatMap Qif).length≤l.length*n:=by
 induction l with
 | nil=>simp
 | cons x l ih=>
  rw [List.flatMap_cons,List.length_append,List.length_cons];have h1:=h x (by simp)
  have h2:=ih fun y hy=>h y (by simp [hy])
  have:(l.length+1)*n=l.length*n+n:=Nat.succ_mul _ _
  omega
theorem ClOk.js {S:Cs} (h:ClOk S):JsOk S.es:=by
 refine ⟨fun x hx=>?_,fun x hx=>?_,fun x hx y hy=>?_,?_⟩
 ·have:=(h.per x hx).2;simp [Qav] at this;omega
 ·have:=(h.per x hx).1;simp [Qav] at this;omega
 ·obtain ⟨_,h2,h3⟩:=(h.lns x hx).2 y hy;exact ⟨by have:=leaf_size h2 h.c;unfold maxLen;omega,QbP h3⟩
 ·have:=sum_len S.es 20 (fun x hx=>by unfold Qif;rw [List.length_map];exact (h.lns x hx).1)
  have:=h.len
  omega
section
variable {W:World} {n0 m0 B:Nat} {P:Cp} {S:Cs}
theorem clBal_any (h:Qcf W n0 m0 B P S) (ok:ClOk S) (p:Int) :
  Calls prog 19 #[.pointer (some ⟨B,0,none⟩),.int .i64 p] W fun e w'=>OeEnd (Qap p) S.es W e w':=by
 have c8:W.cell? ⟨B,8,none⟩=some (.slice P.ea S.es.length P.ec):=h.cell 8;have HO:Hid (Calls _ _ _ _ _):=QfZ P.ea P.ec S.es W p (by have:=ok.len;omega) h.isJs ok.js
 generalize S.es=es at *
 clear h ok;go_enter func19,ntmps19
 go_wp2_with fail;refine HO.out.mono ?_;rintro e w' hE;rcases hE with ⟨h0,rfl,hB⟩ | ⟨h0,sa,sc,R,rfl,hR⟩
 ·have HQ:Hid (OeEnd (Qap p) es W (.returned (.tuple #[.slice none 0 0,.iface 66 (.int .i64 (oeE (Qap p) es))])) w'):=.inl ⟨h0,rfl,hB⟩;clear HO h0 hB c8;generalize oeE (Qap p) es=oo at *
  go_wp2;go_ret2;exact HQ.out
 ·have HQ:Hid (OeEnd (Qap p) es W (.returned (.tuple #[.slice sa R.length sc,.nilIface])) w'):=.inr ⟨h0,sa,sc,R,rfl,hR⟩;clear HO h0 hR c8;go_wp2;go_ret2;exact HQ.out
def Qc3 (q:Int) (x:Je):Bool:=decide (x.per=q)
def jidx (p:Je→Bool):Nat→List Je→Int
 | _,[]=>-1
 | k,a :: l=>if p a=true then (k:Int) else jidx p (k+1) l
theorem jidx_any (p:Je→Bool):∀ (l:List Je) (k:Nat),decide (0≤jidx p k l)=l.any p
 | [],k=>by simp [jidx]
 | a :: l,k=>by
  rw [jidx,List.any_cons];cases h:p a
  ·rw [if_neg (by simp),jidx_any p l (k+1)];rfl
  ·rw [if_pos rfl];simp
theorem doneIs_any (x:Je) (q:Int) (D:Nat) (w:World) (hB:w.cell? ⟨D,0,none⟩=some (.int .i64 q)) (hlt:D<w.heap.size) :
  Calls prog 86 #[.agg x.cells,.pointer (some ⟨D,0,none⟩)] w fun e w'=>e=.returned (.bool (Qc3 q x))∧Below w.heap.size w w':=by
 have b0:Below w.heap.size w (w.alloc (.cells x.cells 59)):=(Below.refl _ w).alloc (Nat.le_refl _) _;have hB2:(w.alloc (.cells x.cells 59)).cell? ⟨D,0,none⟩=some (.int .i64 q):=(b0.cell (p:=⟨D,0,none⟩) hlt).trans hB;obtain ⟨a0,a1,a2,a3,a4,a5⟩:=x;simp only [Je.cells] at b0 hB2 ⊢;have e1:Qc3 q ⟨a0,a1,a2,a3,a4,a5⟩=(a2 == q):=by
  by_cases h:a2=q
  ·simp [Qc3,h]
  ·simp [Qc3,h]
 rw [e1];go_enter func86,ntmps86
 go_wp2;go_ret;exact ⟨rfl,b0⟩
set_option maxHeartbeats 1000000 in
theorem jeIdx_any (a:Option Addr) (cap:Nat) (l:List Je) (q:Int) (D:Nat) (w:World) (hlen:l.length≤1000) (h:Qha w a l cap) (hB:w.cell? ⟨D,0,none⟩=some (.int .i64 q)) (hlt:D<w.heap.size) :
  Calls prog 126 #[.slice a l.length cap,.func (.func 86) #[] #[.pointer (some ⟨D,0,none⟩)]] w fun e w'=>e=.returned (.int .i64 (jidx (Qc3 q) 0 l))∧Below w.heap.size w w':=by
 have eg:∀ args W,(callFunc 86 args).run prog W=.ok (.enter 86 args) W:=fun args W=>Qa8 func86 (by kernel_rfl) ⟨_,rfl⟩ args W
 have Hp:Hid (∀ x W,Below w.heap.size w W→Calls prog 86 #[.agg x.cells,.pointer (some ⟨D,0,none⟩)] W fun e w'=>e=.returned (.bool (Qc3 q x))∧Below W.heap.size W w'):=fun x W hW=>doneIs_any x q D W ((hW.cell (p:=⟨D,0,none⟩) hlt).trans hB) (by have:=hW.size;omega)
 have Hc:Hid (Qha w a l cap):=h;have hl1:(l.length:Int)≤1000:=by omega
 clear h hB;obtain ⟨res,hres⟩:∃ res,jidx (Qc3 q) 0 l=res:=⟨_,rfl⟩;have Hres:Hid (jidx (Qc3 q) 0 l=res):=hres;rw [hres];clear hres;go_enter func126,ntmps126
 go_wp2;go_loopw [8] (fun i wr=>∃ k:Nat,k≤l.length∧i=.int .i64 k∧Hid (jidx (Qc3 q) k (l.drop k)=res)∧Below w.heap.size w wr) (fun i _=>l.length - (RowKit.intOf i).toNat)
 case atStart=>exact ⟨0,Nat.zero_le _,rfl,Hres.out,Below.refl _ _⟩
 case round=>
  obtain ⟨k,hk,rfl,H,BW⟩:=hrel;by_cases hkl:k<l.length
  ·rcases (Hc.out.below BW).lies with h0 | ⟨b,off,e,hb,hcc⟩
   ·rw [h0] at hkl;simp at hkl
   subst e;have hn:=hcc k hkl;have hcall:=Hp.out (l.getD k je0) wr BW;have E:Hid ((if Qc3 q (l.getD k je0)=true then (k:Int) else jidx (Qc3 q) (k+1) (l.drop (k+1)))=res):=by
    have:=H.out
    rw [jes_drop l k hkl] at this;exact this
   clear H hcc;generalize l.getD k je0=x at *
   obtain ⟨a0,a1,a2,a3,a4,a5⟩:=x;obtain ⟨c0,c1,c2,c3⟩:=hn;simp only [Je.cells] at c0 c1 c2 c3 hcall;have i0:(0:Int)≤k:=by omega
   have i1:(k:Int)<l.length:=by omega
   cases hq:Qc3 q ⟨a0,a1,a2,a3,a4,a5⟩
   ·rw [hq] at hcall;have HN:Hid (jidx (Qc3 q) (k+1) (l.drop (k+1))=res):=by
     have:=E.out;rw [if_neg (by rw [hq];simp)] at this;exact this
    go_wp2_with (go_at_fn 86;refine hcall.mono ?_;rintro e w' ⟨rfl,hb'⟩);go_roundw
    case rel=>exact ⟨k+1,by omega,by go_num,HN,BW.trans (hb'.mono BW.size)⟩
    case measure=>simp [RowKit.intOf];omega
   ·rw [hq] at hcall;have er:res=k:=by rw [← E.out,if_pos hq]
    subst er;go_wp2_with (go_at_fn 86;refine hcall.mono ?_;rintro e w' ⟨rfl,hb'⟩);go_ret;exact ⟨rfl,BW.trans (hb'.mono BW.size)⟩
  ·have hk2:k=l.length:=by omega
   subst hk2;have er:res = -1:=by rw [← H.out,List.drop_length];rfl
   subst er;go_wp2;go_ret;exact ⟨rfl,BW⟩
theorem jeHas_any (a:Option Addr) (cap:Nat) (l:List Je) (q:Int) (D:Nat) (w:World) (hlen:l.length≤1000) (h:Qha w a l cap) (hB:w.cell? ⟨D,0,none⟩=some (.int .i64 q)) (hlt:D<w.heap.size) :
  Calls prog 85 #[.slice a l.length cap,.func (.func 86) #[] #[.pointer (some ⟨D,0,none⟩)]] w fun e w'=>e=.returned (.bool (l.any (Qc3 q)))∧Below w.heap.size w w':=by
 have HI:Hid (Calls _ _ _ _ _):=jeIdx_any a cap l q D w hlen h hB hlt;rw [← jidx_any (Qc3 q) l 0];clear h hB;generalize jidx (Qc3 q) 0 l=z at *
 go_enter func85,ntmps85
 go_wp2_with fail;refine HI.out.mono ?_;rintro e w' ⟨rfl,hb⟩;have HB:Hid (Below w.heap.size w w'):=hb;clear hb HI;go_wp2;go_ret;exact ⟨rfl,HB.out⟩
def doneAt (S:Cs) (q:Int):Bool:=if Qa2 S.st q=6 then true else if Qa2 S.st q=0 then !(S.es.any (Qc3 q)) else false
def Qb8 (S:Cs):Nat→Bool
 | 0=>true
 | k+1=>Qb8 S k && doneAt S ((k:Int)+1)
theorem doneTo_le (S:Cs) {k n:Nat} (h:Qb8 S k=false) (hk:k≤n):Qb8 S n=false:=by
 induction n with
 | zero=>
      have:k=0:=by omega
      rw [this] at h;cases h
 | succ n ih=>
  by_cases e:k=n+1
  ·rw [← e];exact h
  ·rw [Qb8,ih (by omega)];rfl
set_option maxHeartbeats 4000000 in
theorem doneAhead_any (h:Qcf W n0 m0 B P S) (ok:ClOk S) (p:Nat) (hp:1≤p∧p≤120) :
  Calls prog 54 #[.pointer (some ⟨B,0,none⟩),.int .i64 p] W fun e w'=>e=.returned (.bool (Qb8 S (p - 1)))∧Below W.heap.size W w':=by
 have HJ:Hid (Qcf W n0 m0 B P S):=h;have HSt:Hid (∀ q U,Below W.heap.size W U→Calls prog 50 #[.pointer (some ⟨B,0,none⟩),.int .i64 q] U fun e w'=>e=.returned (.int .i64 (Qa2 S.st q))∧w'=U):=fun q U hU=>Qhs (h.below hU) q
 have HHa:Hid (∀ q D U,Below W.heap.size W U→U.cell? ⟨D,0,none⟩=some (.int .i64 q)→D<U.heap.size→Calls prog 85 #[.slice P.ea S.es.length P.ec,.func (.func 86) #[] #[.pointer (some ⟨D,0,none⟩)]] U fun e w'=>e=.returned (.bool (S.es.any (Qc3 q)))∧Below U.heap.size U w'):=fun q D U hU h1 h2=>jeHas_any P.ea P.ec S.es q D U (by have:=ok.len;omega) (h.isJs.below hU) h1 h2
 obtain ⟨res,hres⟩:∃ res,Qb8 S (p - 1)=res:=⟨_,rfl⟩;have Hres:Hid (Qb8 S (p - 1)=res):=hres;rw [hres];have b0:Below W.heap.size W (W.alloc (.cells #[.int .i64 1] 3)):=(Below.refl _ W).alloc (Nat.le_refl _) _;have HB0:Hid (Below W.heap.size W (W.alloc (.cells #[.int .i64 1] 3))∧(W.alloc (.cells #[.int .i64 1] 3)).heap[W.heap.size]? = some (.cells #[.int .i64 ((0:Nat)+1:Int)] 3 (0,0))):=⟨b0,World.alloc_heap_new W _⟩
 have hp1:(p:Int)≤120:=by omega
 clear h hres ok b0;go_enter func54,ntmps54
 go_wp2;go_loopg [5] (p - 1) (fun gk v wr=>∃ (k D:Nat),k+1+gk=p∧v=.pointer (some ⟨D,0,none⟩)∧W.heap.size≤D∧Hid (Qb8 S k=true)∧Hid (Below W.heap.size W wr∧wr.heap[D]? = some (.cells #[.int .i64 ((k:Int)+1)] 3 (0,0))))
 case atStart=>exact ⟨0,W.heap.size,by omega,rfl,Nat.le_refl _,rfl,HB0⟩
 case round=>
  obtain ⟨k,D,hkp,rfl,hD,H0,HB⟩:=hrel;have hcell:wr.cell? ⟨D,0,none⟩=some (.int .i64 ((k:Int)+1)):=by simp [World.cell?,HB.out.2]
  have hlt:D<wr.heap.size:=(Array.getElem?_eq_some_iff.1 HB.out.2).1;have HB1:Hid (Below W.heap.size W wr):=HB.out.1;clear HB0;rcases Nat.eq_zero_or_pos gk with h0 | h0
  ·subst h0;have er:res=true:=by rw [← Hres.out,show p - 1=k by omega];exact H0.out
   subst er;have i1:¬ ((k:Int)+1<p):=by omega
   clear HSt HHa Hres HB;go_wp2;go_ret;exact ⟨rfl,HB1.out⟩
  have i1:(k:Int)+1<p:=by omega
  have HS:Hid (Calls _ _ _ _ _):=HSt.out ((k:Int)+1) wr HB1.out;have HH:Hid (Calls _ _ _ _ _):=HHa.out ((k:Int)+1) D wr HB1.out hcell hlt;have HDa:Hid (doneAt S ((k:Int)+1)=if Qa2 S.st ((k:Int)+1)=6 then true else if Qa2 S.st ((k:Int)+1)=0 then !(S.es.any (Qc3 ((k:Int)+1))) else false):=rfl
  have HYes:Hid (doneAt S ((k:Int)+1)=true→Qb8 S (k+1)=true):=fun h=>by rw [Qb8,H0.out,h];rfl
  have HNo:Hid (doneAt S ((k:Int)+1)=false→res=false):=fun h=>by rw [← Hres.out];exact doneTo_le S (k:=k+1) (by rw [Qb8,H0.out,h];rfl) (by omega)
  have c8:wr.cell? ⟨B,8,none⟩=some (.slice P.ea S.es.length P.ec):=(HJ.out.below HB1.out).cell 8;have HNx:Hid (∀ U,Below wr.heap.size wr U→W.heap.size≤U.heap.size∧(U.alloc (.cells #[.int .i64 ((k:Int)+1)] 3)).cell? ⟨U.heap.size,0,none⟩=some (.int .i64 ((k:Int)+1))∧(U.alloc (.cells #[.int .i64 ((k:Int)+1)] 3)).frozen? ⟨U.heap.size,0,none⟩=false∧Hid (Below W.heap.size W (U.alloc (.cells #[.int .i64 ((k:Int)+1+1)] 3))∧(U.alloc (.cells #[.int .i64 ((k:Int)+1+1)] 3)).heap[U.heap.size]? = some (.cells #[.int .i64 ((k:Int)+1+1)] 3 (0,0)))∧U.cell? ⟨D,0,none⟩=some (.int .i64 ((k:Int)+1))):=fun U hU=>by
   have z:=HB1.out.trans (hU.mono HB1.out.size);have hn:=World.alloc_heap_new U (.cells #[.int .i64 ((k:Int)+1)] 3);refine ⟨z.size,by unfold World.cell?;rw [hn];rfl,by unfold World.frozen?;rw [hn];rfl,⟨z.alloc z.size _,World.alloc_heap_new U _⟩,(hU.cell (p:=⟨D,0,none⟩) hlt).trans hcell⟩
  have hk2:((k:Int)+1+1)=((k+1:Nat):Int)+1:=by omega
  generalize Qa2 S.st ((k:Int)+1)=z at *
  generalize doneAt S ((k:Int)+1)=da at *
  by_cases g6:z=6
  ·subst g6;have HN:Hid (Qb8 S (k+1)=true):=HYes.out (by rw [HDa.out,if_pos rfl])
   obtain ⟨q1,q2,q3,q4,_⟩:=HNx.out wr (Below.refl _ _);clear HDa HYes HNo HH HB Hres HNx;go_wp2_with fail;refine HS.out.mono ?_;rintro e w' ⟨rfl,hw⟩;rw [hw];clear hw w' HS;go_wp2;go_roundg (gk - 1)
   case rel=>exact ⟨k+1,_,by omega,rfl,q1,HN,by rw [hk2] at q4;exact q4⟩
   case measure=>omega
  have g6':(z == 6)=false:=by rw [beq_eq_false_iff_ne];exact g6
  by_cases g0:z=0
  ·subst g0;cases ga:S.es.any (Qc3 ((k:Int)+1))
   ·rw [ga] at HH;have HN:Hid (Qb8 S (k+1)=true):=HYes.out (by rw [HDa.out,if_neg (by decide),if_pos rfl,ga];rfl)
    clear HDa HYes HNo HB Hres;go_wp2_with fail;refine HS.out.mono ?_;rintro e w' ⟨rfl,hw⟩;rw [hw];clear hw w' HS;go_wp2_with fail;refine HH.out.mono ?_;rintro e w3 ⟨rfl,hb3⟩;obtain ⟨q1,q2,q3,q4,q5⟩:=HNx.out w3 hb3;clear HH HNx hb3 hcell c8;go_wp2;go_roundg (gk - 1)
    case rel=>exact ⟨k+1,_,by omega,rfl,q1,HN,by rw [hk2] at q4;exact q4⟩
    case measure=>omega
   ·rw [ga] at HH;have er:res=false:=HNo.out (by rw [HDa.out,if_neg (by decide),if_pos rfl,ga];rfl)
    subst er;clear HDa HYes HNo HB Hres HNx;go_wp2_with fail;refine HS.out.mono ?_;rintro e w' ⟨rfl,hw⟩;rw [hw];clear hw w' HS;go_wp2_with fail;refine HH.out.mono ?_;rintro e w3 ⟨rfl,hb3⟩;have HB3:Hid (Below W.heap.size W w3):=HB1.out.trans (hb3.mono HB1.out.size);clear HH hb3;go_wp2;go_ret;exact ⟨rfl,HB3.out⟩
  ·have g0':(z == 0)=false:=by rw [beq_eq_false_iff_ne];exact g0
   have er:res=false:=HNo.out (by rw [HDa.out,if_neg g6,if_neg g0])
   subst er;clear HDa HYes HNo HB Hres HNx HH;go_wp2_with fail;refine HS.out.mono ?_;rintro e w' ⟨rfl,hw⟩;rw [hw];clear hw w' HS;go_wp2;go_ret;exact ⟨rfl,HB1.out⟩
theorem inext {mb r:Nat} {T:List (Int×Int)} (h:IMap W mb T) {sn:List Nat} (hr:W.heap[r]? = some (.mapIter (some mb) T.length sn.toArray T.length)) (ty:TypeId) :
  ((∀ i,i<T.length→i∈sn)∧(Instr.next (.pointer (some ⟨r,0,none⟩)) false ty).run prog W=.ok (.tuple #[.bool false]) W) ∨
  ∃ i,i<T.length∧i ∉ sn∧∃ W',(Instr.next (.pointer (some ⟨r,0,none⟩)) false ty).run prog W=.ok (.tuple #[.bool true,.int .i64 (T.getD i (0,0)).1,.int .i64 (T.getD i (0,0)).2]) W'∧W'.heap[r]? = some (.mapIter (some mb) T.length (sn++[i]).toArray T.length)∧W.grownBy W' (some r)∧W'.heap.size=W.heap.size ∧
   (Instr.entry (.pointer (some ⟨r,0,none⟩))).run prog W'=.ok (.tuple #[.int .i64 (T.getD i (0,0)).1,.int .i64 (T.getD i (0,0)).2]) W':=by
 have hold:∀ x∈(Qc6 T 0).toArray.toList,x.born<T.length:=fun x hx=>by
  obtain ⟨i,hi,rfl⟩:=ient_mem (by simpa using hx)
  exact hi
 have hne:r≠mb:=fun e=>by unfold IMap at h;rw [e,h] at hr;cases hr
 have hlt:r<W.heap.size:=(Array.getElem?_eq_some_iff.1 hr).1;rcases run_next_at (P:=prog) W ty r mb T.length T.length sn.toArray (Qc6 T 0).toArray T.length hr h hold (Nat.le_refl _) with ⟨h0,hrun⟩ | ⟨e,he,w1,hal,hrun⟩
 ·refine .inl ⟨fun i hi=>?_,hrun⟩
  have h1:=all_seen _ _ h0 ⟨.int .i64 (T.getD i (0,0)).1,.int .i64 (T.getD i (0,0)).2,i⟩ (by have:=List.mem_of_getElem? (ient_get T 0 i hi);simpa using this)
  simpa using h1
 ·obtain ⟨hem,hes⟩:=mem_left he;obtain ⟨i,hi,rfl⟩:=ient_mem (by simpa using hem)
  have hns:i ∉ sn:=by simpa using hes
  have hr1:w1.heap[r]? = some (.mapIter (some mb) T.length sn.toArray T.length):=by rcases hal with rfl | rfl <;> exact hr
  have hb1:w1.heap[mb]? = some (.map (Qc6 T 0).toArray T.length):=by rcases hal with rfl | rfl <;> exact h
  have hlt1:r<w1.heap.size:=(Array.getElem?_eq_some_iff.1 hr1).1;have hset:=QbH hlt1 (.mapIter (some mb) T.length (sn.toArray.push i) T.length);have hb':(ChangeMaps.setBlock w1 r (.mapIter (some mb) T.length (sn.toArray.push i) T.length)).heap[mb]? = some (.map (Qc6 T 0).toArray T.length):=(Qar hne _).trans hb1;refine .inr ⟨i,hi,hns,_,hrun,by rw [hset];simp,?_,?_,run_entry_at _ r mb T.length sn.toArray (Qc6 T 0).toArray T.length ⟨.int .i64 (T.getD i (0,0)).1,.int .i64 (T.getD i (0,0)).2,i⟩ hset hb' hem (by simp only [ient_born];exact List.nodup_range')⟩
  ·rcases hal with rfl | rfl <;> exact ⟨rfl,rfl,rfl,by simp [ChangeMaps.setBlock],fun b _ hb=>Qar (fun e1=>hb (by rw [e1])) _⟩
  ·rcases hal with rfl | rfl <;> simp [ChangeMaps.setBlock]
def Qei (S:Cs) (p:Int):Bool:=S.st.any fun x=>decide (p<x.1)
theorem begun_no {T:List (Int×Int)} {p:Int} {sn:List Nat} (h1:∀ i∈sn,¬ p<(T.getD i (0,0)).1) (h2:∀ i,i<T.length→i∈sn):(T.any fun x=>decide (p<x.1))=false:=by
 rw [List.any_eq_false];intro x hx;obtain ⟨i,hi,rfl⟩:=List.getElem_of_mem hx
 have:=h1 i (h2 i hi)
 rw [List.getD_eq_getElem?_getD,List.getElem?_eq_getElem hi] at this;simpa using this
theorem begun_yes {T:List (Int×Int)} {p:Int} {i:Nat} (hi:i<T.length) (h:p<(T.getD i (0,0)).1):(T.any fun x=>decide (p<x.1))=true:=by
 rw [List.any_eq_true];refine ⟨T[i],List.getElem_mem hi,?_⟩;rw [List.getD_eq_getElem?_getD,List.getElem?_eq_getElem hi] at h;simpa using h
set_option maxHeartbeats 4000000 in
theorem Qht (h:Qcf W n0 m0 B P S) (p:Int) :
  Calls prog 51 #[.pointer (some ⟨B,0,none⟩),.int .i64 p] W fun e w'=>e=.returned (.bool (Qei S p))∧Below W.heap.size W w':=by
 have c10:W.cell? ⟨B,10,none⟩=some (.map (some P.bs)):=h.cell 10;have hrg:=run_range_map W 118 3 3 P.bs _ _ underlying118 h.stg;have HT0:Hid (Below W.heap.size W (W.alloc (.mapIter (some P.bs) S.st.length #[] S.st.length))∧(W.alloc (.mapIter (some P.bs) S.st.length #[] S.st.length)).heap[W.heap.size]? = some (.mapIter (some P.bs) S.st.length ([]:List Nat).toArray S.st.length)):=⟨(Below.refl _ W).alloc (Nat.le_refl _) _,World.alloc_heap_new W _⟩
 obtain ⟨res,hres⟩:∃ res,Qei S p=res:=⟨_,rfl⟩;have Hres:Hid (Qei S p=res):=hres;rw [hres];have HI:Hid (IMap W P.bs S.st∧P.bs<W.heap.size):=⟨h.stg,h.stg.lt⟩;clear h hres;go_enter func51,ntmps51
 go_wp2_with fail;go_loopw [] (fun wr=>∃ sn:List Nat,Hid ((∀ i∈sn,i<S.st.length∧¬ p<(S.st.getD i (0,0)).1)∧sn.Nodup∧Below W.heap.size W wr∧wr.heap[W.heap.size]? = some (.mapIter (some P.bs) S.st.length sn.toArray S.st.length))) (fun wr=>S.st.length - QfT wr W.heap.size)
 case atStart=>exact ⟨[],by simp,List.nodup_nil,HT0.out⟩
 case round=>
  obtain ⟨sn,HS⟩:=hrel;obtain ⟨s1,s2,s3,s4⟩:=HS.out;have hI:IMap wr P.bs S.st:=(s3.block _ HI.out.2).trans HI.out.1;rcases inext hI s4 0 with ⟨hall,hrun⟩ | ⟨i,hi,hns,W1,hrun,hit,hgr,hsz,hent⟩
  ·have er:res=false:=by rw [← Hres.out];exact begun_no (fun i hi=>(s1 i hi).2) hall
   subst er;have HB:Hid (Below W.heap.size W wr):=s3;clear HS s1 s2 s3 s4 hI hall HT0 Hres;go_wp2;go_ret;exact ⟨rfl,HB.out⟩
  ·have hb1:Below W.heap.size W W1:=s3.grown hgr s3.size (fun j e=>by cases e;exact Nat.le_refl _)
   have hm:QfT W1 W.heap.size=sn.length+1:=by rw [Qfh hit,List.length_append];rfl
   have hm0:QfT wr W.heap.size=sn.length:=Qfh s4;by_cases g:p<(S.st.getD i (0,0)).1
   ·have er:res=true:=by rw [← Hres.out];exact begun_yes hi g
    subst er;have HB:Hid (Below W.heap.size W W1):=hb1;generalize (S.st.getD i (0,0)).1=y1 at *
    generalize (S.st.getD i (0,0)).2=y2 at *
    clear HS s1 s2 s3 s4 hI HT0 Hres hit hgr hsz hb1 hm hm0;go_wp2;go_ret;exact ⟨rfl,HB.out⟩
   ·have HN:Hid ((∀ j∈sn++[i],j<S.st.length∧¬ p<(S.st.getD j (0,0)).1)∧(sn++[i]).Nodup∧Below W.heap.size W W1∧W1.heap[W.heap.size]? = some (.mapIter (some P.bs) S.st.length (sn++[i]).toArray S.st.length)):=by
     refine ⟨fun j hj=>?_,?_,hb1,hit⟩
     ·rcases List.mem_append.1 hj with hj | hj
      ·exact s1 j hj
      ·rw [List.mem_singleton.1 hj];exact ⟨hi,g⟩
     ·rw [List.nodup_append];exact ⟨s2,by simp,fun a ha b hb e=>hns (by rw [List.mem_singleton.1 hb] at e;rw [← e];exact ha)⟩
    have hle:=seen_le HN.out.2.1 (fun j hj=>(HN.out.1 j hj).1)
    rw [List.length_append,List.length_singleton] at hle;generalize (S.st.getD i (0,0)).1=y1 at hrun hent g;generalize (S.st.getD i (0,0)).2=y2 at hrun hent;clear HS s1 s2 s3 s4 hI HT0 Hres hit hgr hsz hb1;go_wp2;go_roundw
    case rel=>exact ⟨_,HN⟩
    case measure=>rw [hm,hm0];omega
end
end
section
open Go.RowKit Go.Lib Go.Proofs.Tryz
theorem je_src {W:World} {b off:Nat} {l:List Je} (h:∀ k,k<l.length→JeAt W b (off+k*4) (l.getD k je0)):∀ j u,(Qby l)[j]? = some u→W.cell? ((⟨b,off,none⟩:Addr).add j)=some u:=by
 intro j u hj;rw [Addr.add_lit];obtain ⟨q,r,hr,rfl⟩:∃ q r,r<4∧j=q*4+r:=⟨j / 4,j % 4,Nat.mod_lt _ (by omega),by omega⟩
 have hlt:=(List.getElem?_eq_some_iff.1 hj).1;rw [QdT] at hlt;have hq:q<l.length:=by omega
 rw [Qhk l q r hq hr] at hj
 have:=h q hq
 rcases (by omega:r=0∨r=1∨r=2∨r=3) with rfl | rfl | rfl | rfl
 ·rw [← hj,Nat.add_zero,this.c0];rfl
 ·rw [← hj,← Nat.add_assoc,this.c1];rfl
 ·rw [← hj,← Nat.add_assoc,this.c2];rfl
 ·rw [← hj,← Nat.add_assoc,this.c3];rfl
theorem Qil (l:List Je):∀ u∈Qby l,u.oneCell'=true:=by
 intro u hu;obtain ⟨x,_,hx⟩:=List.mem_flatMap.1 hu;exact je_one x u hx
theorem run_appJe (ty:TypeId) (base:Nat) (v:Value) (l1:List Je) (w:World) (hown:QbG w base v l1) (a:Option Addr) (l2:List Je) (c:Nat) (h:Qha w a l2 c) (hlen:l1.length+l2.length≤100000) (hbase:base≤w.heap.size) :
  ∃ v' w',(Builtin.append_ #[22,22] ty #[v,.slice a l2.length c]).run prog w=.ok v' w'∧QbG w' base v' (l1++l2)∧w.grownBy w' v.ownBlock:=by
 obtain ⟨i,hi,hz0,hz1,hz2⟩:=info_parts QeO;rcases a with _ | ⟨b,off,f⟩
 ·have e:l2=[]:=by
   rcases h.lies with h | ⟨b,off,e,_⟩
   ·exact h
   ·cases e
  subst e;refine ⟨v,w,?_,by rw [List.append_nil];exact hown,⟨rfl,rfl,rfl,Nat.le_refl _,fun _ _ _=>rfl⟩⟩
  rcases hown.2 with ⟨rfl,hn⟩ | ⟨g,cap,cur,rfl,_,_,hnc,_⟩
  ·simp [Builtin.append_,run_underlying underlying22,sizeOf,typeInfo,hi,Builtin.lenOf,Builtin.firstCells]
  ·simp [Builtin.append_,run_underlying underlying22,sizeOf,typeInfo,hi,Builtin.lenOf,Builtin.firstCells,hnc,storeCells]
 ·have hn:∀ j u,(Qby l2)[j]? = some u→w.cell? ((⟨b,off,f⟩:Addr).add j)=some u:=by
   rcases h.lies with h | ⟨b',off',e,_,hc⟩
   ·subst h;intro j u hu;simp [Qby] at hu
   ·cases e;exact je_src hc
  obtain ⟨v',w',hr,h2,h3,_⟩:=run_append_own (P:=prog) w base 22 ty 59 i (.agg #[.string ByteArray.empty,.int .i64 0,.int .i64 0,.slice none 0 0]) 4 56 underlying22 hi hz0 hz1 hz2 rfl (by decide) v l1.length (Qby l1) hown ⟨b,off,f⟩ l2.length c (Qby l2) (QdT l2) hn (Qil l2) (by unfold maxLen;omega) (by omega) hbase
  refine ⟨v',w',hr,?_,h3⟩;unfold QbG;rw [QdF,List.length_append];exact h2
theorem wpList_appJe {w:World} {ops:Array Oper} {rest:List Oper} {o:Oper} {a:Act} {Q:Exit→Act→World→Prop} (hgd:o.guard=none) (s x:Operand)
  (ho:o.op=.call { callee:=.builtin .append,args:=#[s,x],argTypes:=#[22,22] })
  (base:Nat) (v:Value) (l1:List Je) (hs:a.eval s=v) (hown:QbG w base v l1) (ad:Option Addr) (m c:Nat) (l2:List Je) (hx:a.eval x=.slice ad m c) (hm:l2.length=m) (h:Qha w ad l2 c) (hlen:l1.length+l2.length≤100000) (hbase:base≤w.heap.size)
  (hh:∀ v' w',QbG w' base v' (l1++l2)→w.grownBy w' v.ownBlock→wpList prog ops Q rest (a.put o.dst v') w'):wpList prog ops Q (o :: rest) a w:=by
 subst hm;refine wpList_plain hgd fun K hK=>?_
 obtain ⟨v',w',hr,h2,h3⟩:=run_appJe o.type base v l1 w hown ad l2 c h hlen hbase;unfold Oper.wp execOp;simp only [ho,resolve,invoke,builtin,Sem.run_bind,Sem.run_pure,Result.andThen_ok,List.map_toArray,List.map_cons,List.map_nil,hs,hx,hr];exact hK _ _ (hh v' w' h2 h3)
theorem Qb3.join {W W1:World} {n0:Nat} {v v':Value} {L M:List Je} (h:Qb3 W n0 v L) (hM:∀ x∈M,Qag W n0 (.slice x.adr x.lns.length x.cap) x.lns) (ho:QbG W1 n0 v' (L++M)) (hg:W.grownBy W1 v.ownBlock):Qb3 W1 n0 v' (L++M):=by
 have keep:∀ y:Je,Qag W n0 (.slice y.adr y.lns.length y.cap) y.lns→Qag W1 n0 (.slice y.adr y.lns.length y.cap) y.lns:=fun y hy=>by
  rcases hy.2 with ⟨hv,hn⟩ | ⟨g1,c1,cur,hv,hb1,hh,r⟩
  ·exact ⟨hy.1,.inl ⟨hv,hn⟩⟩
  ·refine ⟨hy.1,.inr ⟨g1,c1,cur,hv,hb1,(hg.block g1 (Array.getElem?_eq_some_iff.1 hh).1 fun e=>?_).trans hh,r⟩⟩
   obtain ⟨cs,h2⟩:=made_typ h.row g1 e.symm;rw [hh] at h2;cases h2
 refine ⟨ho,fun y hy=>?_⟩
 rcases List.mem_append.1 hy with hy | hy
 ·exact keep y (h.lns y hy)
 ·exact keep y (hM y hy)
structure Each (g:Nat) (cb:Array Value) (bad:Int→Int) (ents:Int→List Ep) (W0:World):Prop where
 eg:∀ args W,(callFunc g args).run prog W=.ok (.enter g args) W
 call:∀ (en:Int) U,Below W0.heap.size W0 U→Calls prog g (#[.int .i64 en]++cb) U fun e w'=>Below U.heap.size U w'∧(bad en≠0→e=.returned (.tuple #[.slice none 0 0,chE (bad en)]))∧(bad en=0→∃ v L,e=.returned (.tuple #[v,.nilIface])∧Qb3 w' U.heap.size v L∧L.map Je.ep=ents en∧L.length≤60)
def Qbb (bad:Int→Int) (k:Nat):Int:=Qad (fun (i:Nat)=>bad ((i:Int)+1)) k
def QbA (ents:Int→List Ep) (k:Nat):List Ep:=(List.range k).flatMap fun (i:Nat)=>ents ((i:Int)+1)
theorem eachTo_next (ents:Int→List Ep) (k:Nat):QbA ents (k+1)=QbA ents k++ents ((k:Int)+1):=by
 unfold QbA;rw [List.range_succ,List.flatMap_append];simp
def QaS (bad:Int) (ents:List Ep) (w:World) (e:Ending) (w':World):Prop:=
 Below w.heap.size w w'∧(bad≠0→e=.returned (.tuple #[.slice none 0 0,chE bad]))∧(bad=0→∃ v L,e=.returned (.tuple #[v,.nilIface])∧Qb3 w' w.heap.size v L∧L.map Je.ep=ents∧L.length≤1000)
set_option maxHeartbeats 4000000 in
theorem QfK (g:Nat) (cb:Array Value) (bad:Int→Int) (ents:Int→List Ep) (W:World) (hE:Each g cb bad ents W) :
  Calls prog 87 #[.func (.func g) #[] cb] W (QaS (Qbb bad 12) (QbA ents 12) W):=by
 have eg:=hE.eg;have HC:Hid (∀ (en:Int) U,Below W.heap.size W U→Calls prog g (#[.int .i64 en]++cb) U fun e w'=>Below U.heap.size U w'∧(bad en≠0→e=.returned (.tuple #[.slice none 0 0,chE (bad en)]))∧(bad en=0→∃ v L,e=.returned (.tuple #[v,.nilIface])∧Qb3 w' U.heap.size v L∧L.map Je.ep=ents en∧L.length≤60)):=hE.call
 have HErr:Hid (∀ z U,z≠0→Qbb bad 12=z→Below W.heap.size W U→QaS (Qbb bad 12) (QbA ents 12) W (.returned (.tuple #[.slice none 0 0,.iface 66 (.int .i64 z)])) U):=fun z U h0 h1 h2=>
  ⟨h2,fun _=>by rw [h1,QaA h0],fun e=>absurd (h1.symm.trans e) h0⟩
 have HOk:Hid (∀ v L U,Qbb bad 12=0→Below W.heap.size W U→Qb3 U W.heap.size v L→L.map Je.ep=QbA ents 12→L.length≤1000→QaS (Qbb bad 12) (QbA ents 12) W (.returned (.tuple #[v,.nilIface])) U):=fun v L U h1 h2 h3 h4 h5=>
  ⟨h2,fun h0=>absurd h1 h0,fun _=>⟨v,L,rfl,h3,h4,h5⟩⟩
 clear hE;go_enter func87,ntmps87
 go_wp2;go_loopw [4,5] (fun v i wr=>∃ (k:Nat) (L:List Je),k≤12∧i=.int .i64 ((k:Int)+1)∧Hid (Qb3 wr W.heap.size v L∧L.map Je.ep=QbA ents k∧L.length≤k*60)∧Hid (Qbb bad k=0)∧Hid (Below W.heap.size W wr)) (fun _ i _=>13 - (RowKit.intOf i).toNat)
 case atStart=>exact ⟨0,[],by omega,rfl,⟨Qb3.nil _ _,rfl,Nat.le_refl _⟩,rfl,Below.refl _ _⟩
 case round=>
  obtain ⟨k,L,hk,rfl,HM,H0,HB⟩:=hrel;obtain ⟨av,cv,ev,_⟩:=HM.out.1.isJs;subst ev;by_cases hkn:k<12
  ·have i1:(k:Int)+1≤12:=by omega
   have HCk:Hid (Calls _ _ _ _ _):=HC.out ((k:Int)+1) wr HB.out;have HNx:Hid (QbA ents (k+1)=QbA ents k++ents ((k:Int)+1)):=eachTo_next ents k;have HBr:Hid (∀ U,bad ((k:Int)+1)≠0→Below W.heap.size W U→QaS (Qbb bad 12) (QbA ents 12) W (.returned (.tuple #[.slice none 0 0,.iface 66 (.int .i64 (bad ((k:Int)+1)))])) U):=fun U h hU=>HErr.out _ U h (by unfold Qbb;exact Qcp (f:=fun (i:Nat)=>bad ((i:Int)+1)) H0.out h hkn) hU
   have HBd:Hid (bad ((k:Int)+1)=0→Qbb bad (k+1)=0):=fun h=>by unfold Qbb;rw [Qbo (f:=fun (i:Nat)=>bad ((i:Int)+1)) H0.out];exact h
   generalize bad ((k:Int)+1)=bk at *
   generalize ents ((k:Int)+1)=ek at *
   by_cases hz:bk=0
   ·have HC2:Hid (Calls prog g (#[.int .i64 ((k:Int)+1)]++cb) wr fun e w'=>∃ a2 c2 M,e=.returned (.tuple #[.slice a2 M.length c2,.nilIface])∧Hid (Below wr.heap.size wr w'∧Qb3 w' wr.heap.size (.slice a2 M.length c2) M∧Qha w' a2 M c2∧M.map Je.ep=ek∧M.length≤60)):=by
     refine HCk.out.mono ?_;rintro e w' ⟨h1,_,h3⟩;obtain ⟨v,M,rfl,h4,h5,h6⟩:=h3 hz;obtain ⟨a2,c2,rfl,h7⟩:=h4.isJs;exact ⟨a2,c2,M,rfl,h1,h4,h7,h5,h6⟩
    have HN:Hid (Qbb bad (k+1)=0):=HBd.out hz;clear HCk HBr HBd HErr;go_wp2_with fail;go_at_fn g
    refine HC2.out.mono ?_;rintro e w3 ⟨a2,c2,M,rfl,h3⟩;have HRow:Hid (QbG w3 W.heap.size (.slice av L.length cv) L∧Qha w3 a2 M c2∧L.length+M.length≤100000∧W.heap.size≤w3.heap.size):=by
     obtain ⟨q1,q2,q3,q4,q5⟩:=h3.out;obtain ⟨m1,m2,m3⟩:=HM.out;refine ⟨m1.row.below q1,q3,by omega,?_⟩
     have:=HB.out.size
     have:=q1.size
     omega
    have HAdd:Hid (∀ v' w6,QbG w6 W.heap.size v' (L++M)→w3.grownBy w6 (Value.slice av L.length cv).ownBlock→(Qb3 w6 W.heap.size v' (L++M)∧(L++M).map Je.ep=QbA ents (k+1)∧(L++M).length≤(k+1)*60)∧Below W.heap.size W w6):=fun v' w6 h1 h2=>by
     obtain ⟨q1,q2,q3,q4,q5⟩:=h3.out;obtain ⟨m1,m2,m3⟩:=HM.out;have z:=HB.out.trans (q1.mono HB.out.size);refine ⟨⟨(m1.below q1).join (fun x hx=>(q2.lns x hx).mono HB.out.size) h1 h2,?_,?_⟩,z.grown h2 z.size fun i e=>m1.row.own i e⟩
     ·rw [List.map_append,m2,q4,HNx.out]
     ·rw [List.length_append];omega
    clear HC2 h3 HM HNx HB;go_wp2_with (at_builtin;refine wpList_appJe rfl _ _ rfl W.heap.size (.slice av L.length cv) L rfl HRow.out.1 a2 M.length c2 M rfl rfl HRow.out.2.1 HRow.out.2.2.1 HRow.out.2.2.2 ?_);intro v' w6 hown' hgrow;obtain ⟨hm6,hb6⟩:=HAdd.out v' w6 hown' hgrow;have HM6:Hid _:=hm6;have HB6:Hid (Below W.heap.size W w6):=hb6;obtain ⟨a6,c6,rfl,_⟩:=hm6.1.isJs;clear hown' hgrow hm6 hb6 HAdd HRow
    go_wp2;go_roundw
    case rel=>exact ⟨k+1,L++M,by omega,by go_num,HM6,HN,HB6⟩
    case measure=>simp [RowKit.intOf];omega
   ·have HC2:Hid (Calls prog g (#[.int .i64 ((k:Int)+1)]++cb) wr fun e w'=>e=.returned (.tuple #[.slice none 0 0,.iface 66 (.int .i64 bk)])∧Below wr.heap.size wr w'):=by
     refine HCk.out.mono ?_;rintro e w' ⟨h1,h2,_⟩
     have:=h2 hz
     rw [QaA hz] at this;exact ⟨this,h1⟩
    clear HCk HBd HErr HOk HM HNx H0;go_wp2_with fail;go_at_fn g
    refine HC2.out.mono ?_;rintro e w3 ⟨rfl,h3⟩;have HE:Hid _:=HBr.out w3 hz (HB.out.trans (h3.mono HB.out.size));clear HC2 h3 HBr;go_wp2;go_ret2;exact HE.out
  ·have ek:k=12:=by omega
   subst ek;obtain ⟨m1,m2,m3⟩:=HM.out;have HE:Hid (QaS (Qbb bad 12) (QbA ents 12) W (.returned (.tuple #[.slice av L.length cv,.nilIface])) wr):=HOk.out _ L wr H0.out HB.out m1 m2 (by omega)
   clear m1 m2 m3 HM HErr HOk HC H0;go_wp2;go_ret2;exact HE.out
end
section
open Go.RowKit Go.Lib Go.Proofs.Tryz
structure EntK (S:Cs):Prop where
 pl:∀ (a a2:Option Addr) (cap cap2:Nat) (en pe:Int) (w:World),Qcm w a S.c cap→IsPn w a2 S.pn cap2→Qh9 w→Calls prog 89 #[.slice a S.c.length cap,.slice a2 S.pn.length cap2,.int .i64 en,.int .i64 pe] w (PlEnd S.c S.pn en pe w)
 al:∀ (a a2 a3:Option Addr) (cap cap2 cap3:Nat) (b:List Bl) (en pe:Int) (w:World),Qcm w a S.c cap→IsPs w a2 S.po cap2→Qcn w a3 b cap3→b.length≤9223372036854775807→Calls prog 91 #[.slice a S.c.length cap,.slice a2 S.po.length cap2,.slice a3 b.length cap3,.int .i64 en,.int .i64 pe] w (AlEnd S.c S.po b en pe w)
 pe:∀ (a a2 a3:Option Addr) (cap cap2 cap3:Nat) (b:List Bl) (cur:ByteArray) (pe:Int) (w:World),Qcm w a S.c cap→IsPr w a2 S.pr cap2→Qcn w a3 b cap3→b.length≤9223372036854775807→Calls prog 94 #[.slice a S.c.length cap,.slice a2 S.pr.length cap2,.slice a3 b.length cap3,.string cur,.int .i64 pe] w (PeEnd S.c S.pr b cur pe w)
end
section
open Go.RowKit Go.Lib Go.Proofs.Tryz
structure StOn (W:World) (p4 p6 p7 B:Nat) (ab:Option Addr) (b:List Bl) (cab:Nat) (pe:Int):Prop where
 c4:W.cell? ⟨p4,0,none⟩=some (.pointer (some ⟨B,0,none⟩))
 c6:W.cell? ⟨p6,0,none⟩=some (.slice ab b.length cab)
 c7:W.cell? ⟨p7,0,none⟩=some (.int .i64 pe)
theorem StOn.below {W W':World} {p4 p6 p7 B:Nat} {ab:Option Addr} {b:List Bl} {cab:Nat} {pe:Int} (h:StOn W p4 p6 p7 B ab b cab pe) (hb:Below W.heap.size W W'):StOn W' p4 p6 p7 B ab b cab pe:=
 ⟨(hb.cell (p:=⟨p4,0,none⟩) (World.block_lt_of_cell? _ _ h.c4)).trans h.c4,(hb.cell (p:=⟨p6,0,none⟩) (World.block_lt_of_cell? _ _ h.c6)).trans h.c6,(hb.cell (p:=⟨p7,0,none⟩) (World.block_lt_of_cell? _ _ h.c7)).trans h.c7⟩
section
variable {W:World} {n0 m0 B:Nat} {P:Cp} {S:Cs}
theorem cc_alTo (en pe:Int) (b:List Bl) (l:List Po):∀ k,(alTo en pe b l k).length≤k
 | 0=>by simp [alTo]
 | k+1=>by
  have:=cc_alTo en pe b l k
  rw [alTo_next,List.length_append];unfold poE
  split
  ·simp;omega
  ·simp;omega
set_option maxHeartbeats 4000000 in
theorem each1_any (h:Qcf W n0 m0 B P S) (ok:ClOk S) (hk:EntK S) (ht:Qh9 W) {p4 p6 p7 cab:Nat} {ab:Option Addr} {b:List Bl} {pe:Int} (hs:StOn W p4 p6 p7 B ab b cab pe) (hb:Qcn W ab b cab) (hbl:b.length≤200) (en:Int) :
  Calls prog 88 (#[.int .i64 en]++#[.pointer (some ⟨p4,0,none⟩),.pointer (some ⟨p7,0,none⟩)]) W fun e w'=>Below W.heap.size W w'∧(Qci S.c S.pn en pe≠0→e=.returned (.tuple #[.slice none 0 0,chE (Qci S.c S.pn en pe)]))∧(Qci S.c S.pn en pe=0→∃ v L,e=.returned (.tuple #[v,.nilIface])∧Qb3 w' W.heap.size v L∧L.map Je.ep=plTo en pe S.pn S.pn.length∧L.length≤60):=by
 have HC:Hid (∀ U,Below W.heap.size W U→Calls prog 89 #[.slice P.ca S.c.length P.cc,.slice P.pna S.pn.length P.pnc,.int .i64 en,.int .i64 pe] U fun e w'=>∃ a n q E,e=.returned (.tuple #[.slice a n q,E])∧Hid (Below W.heap.size W w'∧(Qci S.c S.pn en pe≠0→Ending.returned (.tuple #[.slice a n q,E])=.returned (.tuple #[.slice none 0 0,chE (Qci S.c S.pn en pe)]))∧(Qci S.c S.pn en pe=0→∃ v L,Ending.returned (.tuple #[.slice a n q,E])=.returned (.tuple #[v,.nilIface])∧Qb3 w' W.heap.size v L∧L.map Je.ep=plTo en pe S.pn S.pn.length∧L.length≤60))):=fun U hU=>by
  have hd:=(h.below hU).dat;refine (hk.pl P.ca P.pna P.cc P.pnc en pe U hd.ch hd.pn (ht.below hU)).mono ?_;rintro e w' ⟨hb,e1,e2⟩;by_cases hz:Qci S.c S.pn en pe=0
  ·obtain ⟨v,L,rfl,m1,m2,m3⟩:=e2 hz;obtain ⟨a,q,rfl,_⟩:=m1.isJs;exact ⟨a,L.length,q,_,rfl,hU.trans (hb.mono hU.size),fun hn=>absurd hz hn,fun _=>⟨_,L,rfl,m1.mono hU.size,m2,by omega⟩⟩
  ·have:=e1 hz
   subst this;exact ⟨_,_,_,_,rfl,hU.trans (hb.mono hU.size),fun _=>rfl,fun hn=>absurd hn hz⟩
 have HBU:Hid (Below W.heap.size W W.drew):=(Below.refl _ W).drew;obtain ⟨c4,c6,c7⟩:=hs.below HBU.out;have hcu:=h.below HBU.out;have k0:W.drew.cell? ⟨B,0,none⟩=some (.slice P.ca S.c.length P.cc):=hcu.cell 0;have k5:W.drew.cell? ⟨B,5,none⟩=some (.slice P.pna S.pn.length P.pnc):=hcu.cell 5;clear h hk ok ht hs hcu hb;go_enter func88,ntmps88
 go_upto_region 1 with fail
 refine Qab (by kernel_rfl) ?_
 generalize W.drew=U at *
 refine wpAny_take (i:=8) (v:=.int .i64 en) rfl (by kernel_rfl) (by kernel_rfl) (by kernel_rfl) (fun _ _ _ h=>h) (Or.inl ⟨by rfl,fun w=>by go_simp⟩) ?_
 simp only [Act.put,zq0,zq1,zq2,zq3,zq4,zq5];refine QaD (g:=10) (T:=fun u=>u=U) _ _ _ _ ?_
 refine Qam [10,3,2,1] (i:=0) (v:=.pointer (some ⟨B,0,none⟩)) rfl (by kernel_rfl) (by kernel_rfl) (by decide) (by kernel_rfl) (by kernel_rfl) (by kernel_rfl) (by kernel_rfl) (fun _ _ _ h=>h) (Or.inl ⟨by rfl,fun w' hw'=>by rw [hw'];clear hw';go_simp⟩) rfl ?_
 simp only [Act.put,zq0,zq1,zq2,zq3,zq4,zq5];refine QaP (i:=1) (v:=.pointer (some ⟨B,0,none⟩)) rfl (by decide) (by kernel_rfl) (by kernel_rfl) (by kernel_rfl) (fun _ _ _ h=>h) (Or.inl ⟨by rfl,fun w' _=>by go_simp⟩) rfl ?_
 simp only [Act.put,zq0,zq1,zq2,zq3,zq4,zq5];refine QaP (i:=2) (v:=.pointer (some ⟨B,0,none⟩)) rfl (by decide) (by kernel_rfl) (by kernel_rfl) (by kernel_rfl) (fun _ _ _ h=>h) (Or.inl ⟨by rfl,fun w' _=>by go_simp⟩) rfl ?_
 simp only [Act.put,zq0,zq1,zq2,zq3,zq4,zq5];refine Qam [10] (i:=3) (v:=.slice P.ca S.c.length P.cc) rfl (by kernel_rfl) (by kernel_rfl) (by decide) (by kernel_rfl) (by kernel_rfl) (by kernel_rfl) (by kernel_rfl) (fun _ _ _ h=>h) (Or.inl ⟨by rfl,fun w' hw'=>by rw [hw'];clear hw';go_simp⟩) rfl ?_
 simp only [Act.put,zq0,zq1,zq2,zq3,zq4,zq5];refine Qam [10,7,6,5] (i:=4) (v:=.pointer (some ⟨B,0,none⟩)) rfl (by kernel_rfl) (by kernel_rfl) (by decide) (by kernel_rfl) (by kernel_rfl) (by kernel_rfl) (by kernel_rfl) (fun _ _ _ h=>h) (Or.inl ⟨by rfl,fun w' hw'=>by rw [hw'];clear hw';go_simp⟩) rfl ?_
 simp only [Act.put,zq0,zq1,zq2,zq3,zq4,zq5];refine QaP (i:=5) (v:=.pointer (some ⟨B,0,none⟩)) rfl (by decide) (by kernel_rfl) (by kernel_rfl) (by kernel_rfl) (fun _ _ _ h=>h) (Or.inl ⟨by rfl,fun w' _=>by go_simp⟩) rfl ?_
 simp only [Act.put,zq0,zq1,zq2,zq3,zq4,zq5];refine QaP (i:=6) (v:=.pointer (some ⟨B,5,none⟩)) rfl (by decide) (by kernel_rfl) (by kernel_rfl) (by kernel_rfl) (fun _ _ _ h=>h) (Or.inl ⟨by rfl,fun w' _=>by go_simp⟩) rfl ?_
 simp only [Act.put,zq0,zq1,zq2,zq3,zq4,zq5];refine Qam [10] (i:=7) (v:=.slice P.pna S.pn.length P.pnc) rfl (by kernel_rfl) (by kernel_rfl) (by decide) (by kernel_rfl) (by kernel_rfl) (by kernel_rfl) (by kernel_rfl) (fun _ _ _ h=>h) (Or.inl ⟨by rfl,fun w' hw'=>by rw [hw'];clear hw';go_simp⟩) rfl ?_
 simp only [Act.put,zq0,zq1,zq2,zq3,zq4,zq5];refine Qam [10] (i:=9) (v:=.int .i64 pe) rfl (by kernel_rfl) (by kernel_rfl) (by decide) (by kernel_rfl) (by kernel_rfl) (by kernel_rfl) (by kernel_rfl) (fun _ _ _ h=>h) (Or.inl ⟨by rfl,fun w' hw'=>by rw [hw'];clear hw';go_simp⟩) rfl ?_
 simp only [Act.put,zq0,zq1,zq2,zq3,zq4,zq5];refine Qhw (by kernel_rfl) (by kernel_rfl) ?_
 refine wpOp_step rfl ?_;intro K hK;rw [if_pos (by rfl)]
 have hK':Shut (∀ a w,_→K a w):=hK;clear hK;go_wp2_with fail;refine (HC.out U HBU.out).mono ?_;rintro e w2 ⟨a2,n2,q2,E2,rfl,h2⟩;refine hK'.out _ _ ?_;clear hK' K;clear HC HBU
 try simp only [Act.put,zq0,zq1,zq2,zq3,zq4,zq5]
 refine wpAny_take (i:=11) (v:=.slice a2 n2 q2) rfl (by kernel_rfl) (by kernel_rfl) (by kernel_rfl) (fun _ _ _ h=>h) (Or.inl ⟨by rfl,fun w=>by go_simp⟩) ?_
 simp only [Act.put,zq0,zq1,zq2,zq3,zq4,zq5];refine wpAny_take (i:=12) (v:=E2) rfl (by kernel_rfl) (by kernel_rfl) (by kernel_rfl) (fun _ _ _ h=>h) (Or.inl ⟨by rfl,fun w=>by go_simp⟩) ?_
 simp only [Act.put,zq0,zq1,zq2,zq3,zq4,zq5];refine wpAny_take (i:=13) (v:=.slice a2 n2 q2) rfl (by kernel_rfl) (by kernel_rfl) (by kernel_rfl) (fun _ _ _ h=>h) (Or.inl ⟨by rfl,fun w=>by go_simp⟩) ?_
 simp only [Act.put,zq0,zq1,zq2,zq3,zq4,zq5];refine wpAny_take (i:=14) (v:=E2) rfl (by kernel_rfl) (by kernel_rfl) (by kernel_rfl) (fun _ _ _ h=>h) (Or.inl ⟨by rfl,fun w=>by go_simp⟩) ?_
 simp only [Act.put,zq0,zq1,zq2,zq3,zq4,zq5];refine wpAny_done (by kernel_rfl) ?_ _
 clear c4 c6 c7;go_wp2;go_ret2;exact h2.out
set_option maxHeartbeats 4000000 in
theorem each2_any (h:Qcf W n0 m0 B P S) (ok:ClOk S) (hk:EntK S) (ht:Qh9 W) {p4 p6 p7 cab:Nat} {ab:Option Addr} {b:List Bl} {pe:Int} (hs:StOn W p4 p6 p7 B ab b cab pe) (hb:Qcn W ab b cab) (hbl:b.length≤200) (en:Int) :
  Calls prog 90 (#[.int .i64 en]++#[.pointer (some ⟨p4,0,none⟩),.pointer (some ⟨p6,0,none⟩),.pointer (some ⟨p7,0,none⟩)]) W fun e w'=>Below W.heap.size W w'∧(QbZ S.c S.po b en pe≠0→e=.returned (.tuple #[.slice none 0 0,chE (QbZ S.c S.po b en pe)]))∧(QbZ S.c S.po b en pe=0→∃ v L,e=.returned (.tuple #[v,.nilIface])∧Qb3 w' W.heap.size v L∧L.map Je.ep=alTo en pe b S.po S.po.length∧L.length≤60):=by
 have HC:Hid (∀ U,Below W.heap.size W U→Calls prog 91 #[.slice P.ca S.c.length P.cc,.slice P.poa S.po.length P.poc,.slice ab b.length cab,.int .i64 en,.int .i64 pe] U fun e w'=>∃ a n q E,e=.returned (.tuple #[.slice a n q,E])∧Hid (Below W.heap.size W w'∧(QbZ S.c S.po b en pe≠0→Ending.returned (.tuple #[.slice a n q,E])=.returned (.tuple #[.slice none 0 0,chE (QbZ S.c S.po b en pe)]))∧(QbZ S.c S.po b en pe=0→∃ v L,Ending.returned (.tuple #[.slice a n q,E])=.returned (.tuple #[v,.nilIface])∧Qb3 w' W.heap.size v L∧L.map Je.ep=alTo en pe b S.po S.po.length∧L.length≤60))):=fun U hU=>by
  have hd:=(h.below hU).dat;refine (hk.al P.ca P.poa ab P.cc P.poc cab b en pe U hd.ch hd.po (hb.below hU) (by omega)).mono ?_
  rintro e w' ⟨hb,e1,e2⟩;by_cases hz:QbZ S.c S.po b en pe=0
  ·obtain ⟨v,L,rfl,m1,m2⟩:=e2 hz;obtain ⟨a,q,rfl,_⟩:=m1.isJs;exact ⟨a,L.length,q,_,rfl,hU.trans (hb.mono hU.size),fun hn=>absurd hz hn,fun _=>⟨_,L,rfl,m1.mono hU.size,m2,by have h9:=congrArg List.length m2;rw [List.length_map] at h9;have h8:=cc_alTo en pe b S.po S.po.length;have h7:=(Qe4 ok.po).2.1;omega⟩⟩
  ·have:=e1 hz
   subst this;exact ⟨_,_,_,_,rfl,hU.trans (hb.mono hU.size),fun _=>rfl,fun hn=>absurd hn hz⟩
 have HBU:Hid (Below W.heap.size W W.drew):=(Below.refl _ W).drew;obtain ⟨c4,c6,c7⟩:=hs.below HBU.out;have hcu:=h.below HBU.out;have k0:W.drew.cell? ⟨B,0,none⟩=some (.slice P.ca S.c.length P.cc):=hcu.cell 0;have k5:W.drew.cell? ⟨B,6,none⟩=some (.slice P.poa S.po.length P.poc):=hcu.cell 6;clear h hk ok ht hs hcu hb;go_enter func90,ntmps90
 go_upto_region 1 with fail
 refine Qab (by kernel_rfl) ?_
 generalize W.drew=U at *
 refine wpAny_take (i:=9) (v:=.int .i64 en) rfl (by kernel_rfl) (by kernel_rfl) (by kernel_rfl) (fun _ _ _ h=>h) (Or.inl ⟨by rfl,fun w=>by go_simp⟩) ?_
 simp only [Act.put,zq0,zq1,zq2,zq3,zq4,zq5];refine QaD (g:=11) (T:=fun u=>u=U) _ _ _ _ ?_
 refine Qam [11,3,2,1] (i:=0) (v:=.pointer (some ⟨B,0,none⟩)) rfl (by kernel_rfl) (by kernel_rfl) (by decide) (by kernel_rfl) (by kernel_rfl) (by kernel_rfl) (by kernel_rfl) (fun _ _ _ h=>h) (Or.inl ⟨by rfl,fun w' hw'=>by rw [hw'];clear hw';go_simp⟩) rfl ?_
 simp only [Act.put,zq0,zq1,zq2,zq3,zq4,zq5];refine QaP (i:=1) (v:=.pointer (some ⟨B,0,none⟩)) rfl (by decide) (by kernel_rfl) (by kernel_rfl) (by kernel_rfl) (fun _ _ _ h=>h) (Or.inl ⟨by rfl,fun w' _=>by go_simp⟩) rfl ?_
 simp only [Act.put,zq0,zq1,zq2,zq3,zq4,zq5];refine QaP (i:=2) (v:=.pointer (some ⟨B,0,none⟩)) rfl (by decide) (by kernel_rfl) (by kernel_rfl) (by kernel_rfl) (fun _ _ _ h=>h) (Or.inl ⟨by rfl,fun w' _=>by go_simp⟩) rfl ?_
 simp only [Act.put,zq0,zq1,zq2,zq3,zq4,zq5];refine Qam [11] (i:=3) (v:=.slice P.ca S.c.length P.cc) rfl (by kernel_rfl) (by kernel_rfl) (by decide) (by kernel_rfl) (by kernel_rfl) (by kernel_rfl) (by kernel_rfl) (fun _ _ _ h=>h) (Or.inl ⟨by rfl,fun w' hw'=>by rw [hw'];clear hw';go_simp⟩) rfl ?_
 simp only [Act.put,zq0,zq1,zq2,zq3,zq4,zq5];refine Qam [11,7,6,5] (i:=4) (v:=.pointer (some ⟨B,0,none⟩)) rfl (by kernel_rfl) (by kernel_rfl) (by decide) (by kernel_rfl) (by kernel_rfl) (by kernel_rfl) (by kernel_rfl) (fun _ _ _ h=>h) (Or.inl ⟨by rfl,fun w' hw'=>by rw [hw'];clear hw';go_simp⟩) rfl ?_
 simp only [Act.put,zq0,zq1,zq2,zq3,zq4,zq5];refine QaP (i:=5) (v:=.pointer (some ⟨B,0,none⟩)) rfl (by decide) (by kernel_rfl) (by kernel_rfl) (by kernel_rfl) (fun _ _ _ h=>h) (Or.inl ⟨by rfl,fun w' _=>by go_simp⟩) rfl ?_
 simp only [Act.put,zq0,zq1,zq2,zq3,zq4,zq5];refine QaP (i:=6) (v:=.pointer (some ⟨B,6,none⟩)) rfl (by decide) (by kernel_rfl) (by kernel_rfl) (by kernel_rfl) (fun _ _ _ h=>h) (Or.inl ⟨by rfl,fun w' _=>by go_simp⟩) rfl ?_
 simp only [Act.put,zq0,zq1,zq2,zq3,zq4,zq5];refine Qam [11] (i:=7) (v:=.slice P.poa S.po.length P.poc) rfl (by kernel_rfl) (by kernel_rfl) (by decide) (by kernel_rfl) (by kernel_rfl) (by kernel_rfl) (by kernel_rfl) (fun _ _ _ h=>h) (Or.inl ⟨by rfl,fun w' hw'=>by rw [hw'];clear hw';go_simp⟩) rfl ?_
 simp only [Act.put,zq0,zq1,zq2,zq3,zq4,zq5];refine Qam [11] (i:=8) (v:=.slice ab b.length cab) rfl (by kernel_rfl) (by kernel_rfl) (by decide) (by kernel_rfl) (by kernel_rfl) (by kernel_rfl) (by kernel_rfl) (fun _ _ _ h=>h) (Or.inl ⟨by rfl,fun w' hw'=>by rw [hw'];clear hw';go_simp⟩) rfl ?_
 simp only [Act.put,zq0,zq1,zq2,zq3,zq4,zq5];refine Qam [11] (i:=10) (v:=.int .i64 pe) rfl (by kernel_rfl) (by kernel_rfl) (by decide) (by kernel_rfl) (by kernel_rfl) (by kernel_rfl) (by kernel_rfl) (fun _ _ _ h=>h) (Or.inl ⟨by rfl,fun w' hw'=>by rw [hw'];clear hw';go_simp⟩) rfl ?_
 simp only [Act.put,zq0,zq1,zq2,zq3,zq4,zq5];refine Qhw (by kernel_rfl) (by kernel_rfl) ?_
 refine wpOp_step rfl ?_;intro K hK;rw [if_pos (by rfl)]
 have hK':Shut (∀ a w,_→K a w):=hK;clear hK;go_wp2_with fail;refine (HC.out U HBU.out).mono ?_;rintro e w2 ⟨a2,n2,q2,E2,rfl,h2⟩;refine hK'.out _ _ ?_;clear hK' K;clear HC HBU
 try simp only [Act.put,zq0,zq1,zq2,zq3,zq4,zq5]
 refine wpAny_take (i:=12) (v:=.slice a2 n2 q2) rfl (by kernel_rfl) (by kernel_rfl) (by kernel_rfl) (fun _ _ _ h=>h) (Or.inl ⟨by rfl,fun w=>by go_simp⟩) ?_
 simp only [Act.put,zq0,zq1,zq2,zq3,zq4,zq5];refine wpAny_take (i:=13) (v:=E2) rfl (by kernel_rfl) (by kernel_rfl) (by kernel_rfl) (fun _ _ _ h=>h) (Or.inl ⟨by rfl,fun w=>by go_simp⟩) ?_
 simp only [Act.put,zq0,zq1,zq2,zq3,zq4,zq5];refine wpAny_take (i:=14) (v:=.slice a2 n2 q2) rfl (by kernel_rfl) (by kernel_rfl) (by kernel_rfl) (fun _ _ _ h=>h) (Or.inl ⟨by rfl,fun w=>by go_simp⟩) ?_
 simp only [Act.put,zq0,zq1,zq2,zq3,zq4,zq5];refine wpAny_take (i:=15) (v:=E2) rfl (by kernel_rfl) (by kernel_rfl) (by kernel_rfl) (fun _ _ _ h=>h) (Or.inl ⟨by rfl,fun w=>by go_simp⟩) ?_
 simp only [Act.put,zq0,zq1,zq2,zq3,zq4,zq5];refine wpAny_done (by kernel_rfl) ?_ _
 clear c4 c6 c7;go_wp2;go_ret2;exact h2.out
set_option maxHeartbeats 4000000 in
theorem each3_any (h:Qcf W n0 m0 B P S) (ok:ClOk S) (ht:Qh9 W) {p4 p6 p7 cab:Nat} {ab:Option Addr} {b:List Bl} {pe:Int} (hs:StOn W p4 p6 p7 B ab b cab pe) (hb:Qcn W ab b cab) (hbl:b.length≤200) (en:Int) :
  Calls prog 92 (#[.int .i64 en]++#[.pointer (some ⟨p4,0,none⟩),.pointer (some ⟨p6,0,none⟩),.pointer (some ⟨p7,0,none⟩)]) W fun e w'=>Below W.heap.size W w'∧(Qch S.T S.c S.base S.gain b en pe≠0→e=.returned (.tuple #[.slice none 0 0,chE (Qch S.T S.c S.base S.gain b en pe)]))∧(Qch S.T S.c S.base S.gain b en pe=0→∃ v L,e=.returned (.tuple #[v,.nilIface])∧Qb3 w' W.heap.size v L∧L.map Je.ep=QhL (wV S.T S.base en pe) S.base S.gain b en pe S.c S.c.length∧L.length≤60):=by
 have HC:Hid (∀ U,Below W.heap.size W U→Calls prog 93 #[.slice P.ca S.c.length P.cc,.slice P.ra P.rl P.rc,.string S.base,.string S.gain,.slice ab b.length cab,.int .i64 en,.int .i64 pe] U fun e w'=>∃ a n q E,e=.returned (.tuple #[.slice a n q,E])∧Hid (Below W.heap.size W w'∧(Qch S.T S.c S.base S.gain b en pe≠0→Ending.returned (.tuple #[.slice a n q,E])=.returned (.tuple #[.slice none 0 0,chE (Qch S.T S.c S.base S.gain b en pe)]))∧(Qch S.T S.c S.base S.gain b en pe=0→∃ v L,Ending.returned (.tuple #[.slice a n q,E])=.returned (.tuple #[v,.nilIface])∧Qb3 w' W.heap.size v L∧L.map Je.ep=QhL (wV S.T S.base en pe) S.base S.gain b en pe S.c S.c.length∧L.length≤60))):=fun U hU=>by
  have hd:=(h.below hU).dat;refine (rvEntries_any P.ca ab P.ra P.cc cab P.rl P.rc S.T S.c S.base S.gain b en pe U hd.ch hd.rt ok.g (hb.below hU) (by omega)).mono ?_
  rintro e w' ⟨hb,e1,e2⟩;by_cases hz:Qch S.T S.c S.base S.gain b en pe=0
  ·obtain ⟨v,L,rfl,m1,m2,m3⟩:=e2 hz;obtain ⟨a,q,rfl,_⟩:=m1.isJs;exact ⟨a,L.length,q,_,rfl,hU.trans (hb.mono hU.size),fun hn=>absurd hz hn,fun _=>⟨_,L,rfl,m1.mono hU.size,m2,by omega⟩⟩
  ·have:=e1 hz
   subst this;exact ⟨_,_,_,_,rfl,hU.trans (hb.mono hU.size),fun _=>rfl,fun hn=>absurd hn hz⟩
 have HBU:Hid (Below W.heap.size W W.drew):=(Below.refl _ W).drew;obtain ⟨c4,c6,c7⟩:=hs.below HBU.out;have hcu:=h.below HBU.out;have k0:W.drew.cell? ⟨B,0,none⟩=some (.slice P.ca S.c.length P.cc):=hcu.cell 0;have k5:W.drew.cell? ⟨B,1,none⟩=some (.slice P.ra P.rl P.rc):=hcu.cell 1;have k6:W.drew.cell? ⟨B,2,none⟩=some (.string S.base):=hcu.cell 2;have k7:W.drew.cell? ⟨B,3,none⟩=some (.string S.gain):=hcu.cell 3
 clear h ok ht hs hcu hb;go_enter func92,ntmps92
 go_upto_region 1 with fail
 refine Qab (by kernel_rfl) ?_
 generalize W.drew=U at *
 refine wpAny_take (i:=17) (v:=.int .i64 en) rfl (by kernel_rfl) (by kernel_rfl) (by kernel_rfl) (fun _ _ _ h=>h) (Or.inl ⟨by rfl,fun w=>by go_simp⟩) ?_
 simp only [Act.put,zq0,zq1,zq2,zq3,zq4,zq5];refine QaD (g:=19) (T:=fun u=>u=U) _ _ _ _ ?_
 refine Qam [19,3,2,1] (i:=0) (v:=.pointer (some ⟨B,0,none⟩)) rfl (by kernel_rfl) (by kernel_rfl) (by decide) (by kernel_rfl) (by kernel_rfl) (by kernel_rfl) (by kernel_rfl) (fun _ _ _ h=>h) (Or.inl ⟨by rfl,fun w' hw'=>by rw [hw'];clear hw';go_simp⟩) rfl ?_
 simp only [Act.put,zq0,zq1,zq2,zq3,zq4,zq5];refine QaP (i:=1) (v:=.pointer (some ⟨B,0,none⟩)) rfl (by decide) (by kernel_rfl) (by kernel_rfl) (by kernel_rfl) (fun _ _ _ h=>h) (Or.inl ⟨by rfl,fun w' _=>by go_simp⟩) rfl ?_
 simp only [Act.put,zq0,zq1,zq2,zq3,zq4,zq5];refine QaP (i:=2) (v:=.pointer (some ⟨B,0,none⟩)) rfl (by decide) (by kernel_rfl) (by kernel_rfl) (by kernel_rfl) (fun _ _ _ h=>h) (Or.inl ⟨by rfl,fun w' _=>by go_simp⟩) rfl ?_
 simp only [Act.put,zq0,zq1,zq2,zq3,zq4,zq5];refine Qam [19] (i:=3) (v:=.slice P.ca S.c.length P.cc) rfl (by kernel_rfl) (by kernel_rfl) (by decide) (by kernel_rfl) (by kernel_rfl) (by kernel_rfl) (by kernel_rfl) (fun _ _ _ h=>h) (Or.inl ⟨by rfl,fun w' hw'=>by rw [hw'];clear hw';go_simp⟩) rfl ?_
 simp only [Act.put,zq0,zq1,zq2,zq3,zq4,zq5];refine Qam [19,7,6,5] (i:=4) (v:=.pointer (some ⟨B,0,none⟩)) rfl (by kernel_rfl) (by kernel_rfl) (by decide) (by kernel_rfl) (by kernel_rfl) (by kernel_rfl) (by kernel_rfl) (fun _ _ _ h=>h) (Or.inl ⟨by rfl,fun w' hw'=>by rw [hw'];clear hw';go_simp⟩) rfl ?_
 simp only [Act.put,zq0,zq1,zq2,zq3,zq4,zq5];refine QaP (i:=5) (v:=.pointer (some ⟨B,0,none⟩)) rfl (by decide) (by kernel_rfl) (by kernel_rfl) (by kernel_rfl) (fun _ _ _ h=>h) (Or.inl ⟨by rfl,fun w' _=>by go_simp⟩) rfl ?_
 simp only [Act.put,zq0,zq1,zq2,zq3,zq4,zq5];refine QaP (i:=6) (v:=.pointer (some ⟨B,1,none⟩)) rfl (by decide) (by kernel_rfl) (by kernel_rfl) (by kernel_rfl) (fun _ _ _ h=>h) (Or.inl ⟨by rfl,fun w' _=>by go_simp⟩) rfl ?_
 simp only [Act.put,zq0,zq1,zq2,zq3,zq4,zq5];refine Qam [19] (i:=7) (v:=.slice P.ra P.rl P.rc) rfl (by kernel_rfl) (by kernel_rfl) (by decide) (by kernel_rfl) (by kernel_rfl) (by kernel_rfl) (by kernel_rfl) (fun _ _ _ h=>h) (Or.inl ⟨by rfl,fun w' hw'=>by rw [hw'];clear hw';go_simp⟩) rfl ?_
 simp only [Act.put,zq0,zq1,zq2,zq3,zq4,zq5];refine Qam [19,11,10,9] (i:=8) (v:=.pointer (some ⟨B,0,none⟩)) rfl (by kernel_rfl) (by kernel_rfl) (by decide) (by kernel_rfl) (by kernel_rfl) (by kernel_rfl) (by kernel_rfl) (fun _ _ _ h=>h) (Or.inl ⟨by rfl,fun w' hw'=>by rw [hw'];clear hw';go_simp⟩) rfl ?_
 simp only [Act.put,zq0,zq1,zq2,zq3,zq4,zq5];refine QaP (i:=9) (v:=.pointer (some ⟨B,0,none⟩)) rfl (by decide) (by kernel_rfl) (by kernel_rfl) (by kernel_rfl) (fun _ _ _ h=>h) (Or.inl ⟨by rfl,fun w' _=>by go_simp⟩) rfl ?_
 simp only [Act.put,zq0,zq1,zq2,zq3,zq4,zq5];refine QaP (i:=10) (v:=.pointer (some ⟨B,2,none⟩)) rfl (by decide) (by kernel_rfl) (by kernel_rfl) (by kernel_rfl) (fun _ _ _ h=>h) (Or.inl ⟨by rfl,fun w' _=>by go_simp⟩) rfl ?_
 simp only [Act.put,zq0,zq1,zq2,zq3,zq4,zq5];refine Qam [19] (i:=11) (v:=.string S.base) rfl (by kernel_rfl) (by kernel_rfl) (by decide) (by kernel_rfl) (by kernel_rfl) (by kernel_rfl) (by kernel_rfl) (fun _ _ _ h=>h) (Or.inl ⟨by rfl,fun w' hw'=>by rw [hw'];clear hw';go_simp⟩) rfl ?_
 simp only [Act.put,zq0,zq1,zq2,zq3,zq4,zq5];refine Qam [19,15,14,13] (i:=12) (v:=.pointer (some ⟨B,0,none⟩)) rfl (by kernel_rfl) (by kernel_rfl) (by decide) (by kernel_rfl) (by kernel_rfl) (by kernel_rfl) (by kernel_rfl) (fun _ _ _ h=>h) (Or.inl ⟨by rfl,fun w' hw'=>by rw [hw'];clear hw';go_simp⟩) rfl ?_
 simp only [Act.put,zq0,zq1,zq2,zq3,zq4,zq5];refine QaP (i:=13) (v:=.pointer (some ⟨B,0,none⟩)) rfl (by decide) (by kernel_rfl) (by kernel_rfl) (by kernel_rfl) (fun _ _ _ h=>h) (Or.inl ⟨by rfl,fun w' _=>by go_simp⟩) rfl ?_
 simp only [Act.put,zq0,zq1,zq2,zq3,zq4,zq5];refine QaP (i:=14) (v:=.pointer (some ⟨B,3,none⟩)) rfl (by decide) (by kernel_rfl) (by kernel_rfl) (by kernel_rfl) (fun _ _ _ h=>h) (Or.inl ⟨by rfl,fun w' _=>by go_simp⟩) rfl ?_
 simp only [Act.put,zq0,zq1,zq2,zq3,zq4,zq5];refine Qam [19] (i:=15) (v:=.string S.gain) rfl (by kernel_rfl) (by kernel_rfl) (by decide) (by kernel_rfl) (by kernel_rfl) (by kernel_rfl) (by kernel_rfl) (fun _ _ _ h=>h) (Or.inl ⟨by rfl,fun w' hw'=>by rw [hw'];clear hw';go_simp⟩) rfl ?_
 simp only [Act.put,zq0,zq1,zq2,zq3,zq4,zq5];refine Qam [19] (i:=16) (v:=.slice ab b.length cab) rfl (by kernel_rfl) (by kernel_rfl) (by decide) (by kernel_rfl) (by kernel_rfl) (by kernel_rfl) (by kernel_rfl) (fun _ _ _ h=>h) (Or.inl ⟨by rfl,fun w' hw'=>by rw [hw'];clear hw';go_simp⟩) rfl ?_
 simp only [Act.put,zq0,zq1,zq2,zq3,zq4,zq5];refine Qam [19] (i:=18) (v:=.int .i64 pe) rfl (by kernel_rfl) (by kernel_rfl) (by decide) (by kernel_rfl) (by kernel_rfl) (by kernel_rfl) (by kernel_rfl) (fun _ _ _ h=>h) (Or.inl ⟨by rfl,fun w' hw'=>by rw [hw'];clear hw';go_simp⟩) rfl ?_
 simp only [Act.put,zq0,zq1,zq2,zq3,zq4,zq5];refine Qhw (by kernel_rfl) (by kernel_rfl) ?_
 refine wpOp_step rfl ?_;intro K hK;rw [if_pos (by rfl)]
 have hK':Shut (∀ a w,_→K a w):=hK;clear hK;go_wp2_with fail;refine (HC.out U HBU.out).mono ?_;rintro e w2 ⟨a2,n2,q2,E2,rfl,h2⟩;refine hK'.out _ _ ?_;clear hK' K;clear HC HBU
 try simp only [Act.put,zq0,zq1,zq2,zq3,zq4,zq5]
 refine wpAny_take (i:=20) (v:=.slice a2 n2 q2) rfl (by kernel_rfl) (by kernel_rfl) (by kernel_rfl) (fun _ _ _ h=>h) (Or.inl ⟨by rfl,fun w=>by go_simp⟩) ?_
 simp only [Act.put,zq0,zq1,zq2,zq3,zq4,zq5];refine wpAny_take (i:=21) (v:=E2) rfl (by kernel_rfl) (by kernel_rfl) (by kernel_rfl) (fun _ _ _ h=>h) (Or.inl ⟨by rfl,fun w=>by go_simp⟩) ?_
 simp only [Act.put,zq0,zq1,zq2,zq3,zq4,zq5];refine wpAny_take (i:=22) (v:=.slice a2 n2 q2) rfl (by kernel_rfl) (by kernel_rfl) (by kernel_rfl) (fun _ _ _ h=>h) (Or.inl ⟨by rfl,fun w=>by go_simp⟩) ?_
 simp only [Act.put,zq0,zq1,zq2,zq3,zq4,zq5];refine wpAny_take (i:=23) (v:=E2) rfl (by kernel_rfl) (by kernel_rfl) (by kernel_rfl) (fun _ _ _ h=>h) (Or.inl ⟨by rfl,fun w=>by go_simp⟩) ?_
 simp only [Act.put,zq0,zq1,zq2,zq3,zq4,zq5];refine wpAny_done (by kernel_rfl) ?_ _
 clear c4 c6 c7;go_wp2;go_ret2;exact h2.out
end
end
end Go.Proofs.YtjifbbdkpanagaaGreatDoor
