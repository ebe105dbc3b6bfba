/-
  Part of a proof (see the last text).
-/
import Derived.Test.YtjifbbdkpanagaaGreatDoorZd40
set_option linter.unusedVariables false
set_option linter.unusedSimpArgs false
set_option maxRecDepth 100000
namespace Go.Proofs.YtjifbbdkpanagaaGreatDoor
section
open Go.RowKit Go.Proofs.Tryz
abbrev St:=Option (List UInt8)
end
section
open Go.RowKit Go.Proofs.Tryz
def QcP (l:List Bl) (k:Nat):Int:=if k=0∨Qc7 (l.getD (k - 1) bl0) (l.getD k bl0)<0 then 0 else 5
theorem ordAt_same {l m:List Bl} {k:Nat} (h1:l.getD k bl0=m.getD k bl0) (h2:l.getD (k - 1) bl0=m.getD (k - 1) bl0):QcP l k=QcP m k:=by unfold QcP;rw [h1,h2]
theorem getD_take (l:List Bl) (k j:Nat) (h:j<k):(l.take k).getD j bl0=l.getD j bl0:=by simp [List.getD,h]
theorem ordAt_take (l:List Bl) (k:Nat):QcP (l.take (k+1)) k=QcP l k:=ordAt_same (getD_take l _ _ (by omega)) (getD_take l _ _ (by omega))
def blB (x:Bl):List UInt8:=Qd5 x.ent++Qgn x.acc++Qgn x.cur++Qd5 x.amt
def blW (x:Bl):List UInt8:=Qd5 x.ent++txtW x.acc++txtW x.cur++Qd5 x.amt
def blErr (err:Int) (x:Bl):Int:=fo (fo (fo (fo err (outB 0 200 x.ent)) (longB x.acc)) (longB x.cur)) (outB (-Qah) Qah x.amt)
def BlFit (x:Bl):Prop:=(0≤x.ent∧x.ent≤200)∧x.acc.size≤24∧x.cur.size≤24∧-Qah≤x.amt∧x.amt≤Qah
def Qhm (l:List Bl):Prop:=l.length≤200∧∀ k,k<l.length→BlFit (l.getD k bl0)∧QcP l k=0
def blsB (l:List Bl):List UInt8:=l.flatMap blB
def Qi0 (l:List Bl):List UInt8:=l.flatMap blW
def balB (l:List Bl):List UInt8:=Qd5 l.length++blsB l
theorem blW_length {x:Bl} (h:I64B x):(blW x).length≤88:=by
 have h0:=numB_length h.1.1 h.1.2;have h1:=Qdj x.acc;have h2:=Qdj x.cur;have h3:=numB_length h.2.1 h.2.2;simp only [blW,List.length_append];omega
theorem Qhd:∀ (l:List Bl),(∀ x∈l,I64B x)→(Qi0 l).length≤88*l.length
 | [],_=>by simp [Qi0]
 | x :: l,h=>by
  have h1:=blW_length (h x (List.mem_cons_self ..));have h2:=Qhd l (fun y hy=>h y (List.mem_cons_of_mem _ hy))
  simp only [Qi0,List.flatMap_cons,List.length_append,List.length_cons] at h2 ⊢;omega
def Qcv (l:List Bl):Nat→Int
 | 0=>0
 | k+1=>fo (blErr (Qcv l k) (l.getD k bl0)) (QcP l k)
def Qf8 (l:List Bl):Int:=if 200<l.length then 4 else Qcv l l.length
theorem blErr_zero {err:Int} {x:Bl}:blErr err x=0↔err=0∧BlFit x:=by
 unfold blErr BlFit;rw [QcZ,QcZ,QcZ,QcZ];unfold longB outB;constructor
 ·rintro ⟨⟨⟨⟨h1,h0⟩,h2⟩,h3⟩,h4⟩;refine ⟨h1,?_,?_,?_,?_⟩
  ·split at h0
   ·assumption
   ·omega
  ·split at h2 <;> omega
  ·split at h3 <;> omega
  ·split at h4
   ·assumption
   ·omega
 ·rintro ⟨h1,h0,h2,h3,h4⟩;exact ⟨⟨⟨⟨h1,if_pos h0⟩,if_neg (by omega)⟩,if_neg (by omega)⟩,if_pos h4⟩
theorem Qho (l:List Bl):∀ k,Qcv l k=0↔∀ j,j<k→BlFit (l.getD j bl0)∧QcP l j=0
 | 0=>by simp [Qcv]
 | k+1=>by
  rw [Qcv,QcZ,blErr_zero,Qho l k];constructor
  ·rintro ⟨⟨h1,h2⟩,h3⟩ j hj;rcases (by omega:j<k∨j=k) with h | rfl
   ·exact h1 j h
   ·exact ⟨h2,h3⟩
  ·intro h;exact ⟨⟨fun j hj=>h j (by omega),(h k (by omega)).1⟩,(h k (by omega)).2⟩
theorem Qg1 {l:List Bl}:Qf8 l=0↔Qhm l:=by
 unfold Qf8 Qhm;by_cases h:200<l.length
 ·rw [if_pos h];constructor
  ·omega
  ·intro ⟨h4,_⟩;omega
 ·rw [if_neg h,Qho];exact ⟨fun h1=>⟨by omega,h1⟩,fun h1=>h1.2⟩
theorem blsW_fit:∀ (l:List Bl),(∀ x∈l,BlFit x)→Qi0 l=blsB l
 | [],_=>rfl
 | x :: l,h=>by
  have h1:=h x (List.mem_cons_self ..);have h2:=blsW_fit l (fun y hy=>h y (List.mem_cons_of_mem _ hy))
  simp only [Qi0,blsB,List.flatMap_cons] at h2 ⊢;rw [h2];simp only [blW,blB,txtW_fit h1.2.1,txtW_fit h1.2.2.1]
theorem fit_mem {l:List Bl} (h:Qhm l):∀ x∈l,BlFit x:=fun x hx=>by
 obtain ⟨k,hk,rfl⟩:=List.getElem_of_mem hx
 have:=(h.2 k hk).1
 rw [List.getD_eq_getElem?_getD,List.getElem?_eq_getElem hk] at this;exact this
theorem balW_fit {l:List Bl} (h:Qhm l):Qd5 l.length++Qi0 l=balB l:=by rw [blsW_fit l (fit_mem h)];rfl
theorem balB_pos (l:List Bl):1≤(balB l).length:=by
 have:=numB_pos l.length
 simp only [balB,List.length_append];omega
def blS (st:St):Bl×St:=(⟨(Qcj 0 200 st).1,(Qh2 (Qcj 0 200 st).2).1,(Qh2 (Qh2 (Qcj 0 200 st).2).2).1,(Qcj (-Qah) Qah (Qh2 (Qh2 (Qcj 0 200 st).2).2).2).1⟩,(Qcj (-Qah) Qah (Qh2 (Qh2 (Qcj 0 200 st).2).2).2).2)
theorem rdTS_enc {s:ByteArray} (r:List UInt8) (h:s.size≤24):Qh2 (some (Qgn s++r))=(s,some r):=by simp only [Qh2,rdT_enc r h]
theorem rdNS_enc {lo hi n:Int} (r:List UInt8) (h1:lo≤n) (h2:n≤hi) (h3:-4611686018427387904≤n) (h4:n≤4611686018427387903):Qcj lo hi (some (Qd5 n++r))=(n,some r):=by simp only [Qcj,rdN_enc r h1 h2 h3 h4]
theorem blS_enc {x:Bl} (r:List UInt8) (h:BlFit x):blS (some (blB x++r))=(x,some r):=by
 obtain ⟨⟨h0,h0'⟩,h1,h2,h3,h4⟩:=h;unfold Qah at h3 h4;unfold blB blS;simp only [List.append_assoc];rw [rdNS_enc _ h0 h0' (by omega) (by omega)]
 simp only;rw [rdTS_enc _ h1];simp only;rw [rdTS_enc _ h2];simp only;unfold Qah;rw [rdNS_enc _ h3 h4 (by omega) (by omega)]
def Qcd:Nat→St→List Bl×St
 | 0,st=>([],st)
 | k+1,st=>((Qcd k st).1++[(blS (Qcd k st).2).1],if QcP ((Qcd k st).1++[(blS (Qcd k st).2).1]) k=0 then (blS (Qcd k st).2).2 else none)
theorem Qgg:∀ (k:Nat) (st:St),(Qcd k st).1.length=k
 | 0,_=>rfl
 | k+1,st=>by simp [Qcd,Qgg k st]
theorem bls_split (l:List Bl) (k:Nat) (h:k<l.length):blsB (l.drop k)=blB (l.getD k bl0)++blsB (l.drop (k+1)):=by
 have e:l.getD k bl0=l[k]:=by rw [List.getD_eq_getElem?_getD,List.getElem?_eq_getElem h];rfl
 unfold blsB;rw [List.drop_eq_getElem_cons h,List.flatMap_cons,e]
theorem balsS_enc (l:List Bl) (r:List UInt8) (h:Qhm l):∀ k,k≤l.length→Qcd k (some (blsB l++r))=(l.take k,some (blsB (l.drop k)++r))
 | 0,_=>by simp [Qcd]
 | k+1,hk=>by
  have ih:=balsS_enc l r h k (by omega)
  have hlt:k<l.length:=by omega
  have e1:l.take k++[l.getD k bl0]=l.take (k+1):=by
   rw [List.take_add_one,List.getElem?_eq_getElem hlt,List.getD_eq_getElem?_getD,List.getElem?_eq_getElem hlt];rfl
  simp only [Qcd,ih];rw [bls_split l k hlt,List.append_assoc,blS_enc _ (h.2 k hlt).1];simp only [e1];rw [ordAt_take,(h.2 k hlt).2,if_pos rfl]
def balS (st:St):List Bl×St:=Qcd (Qcj 0 200 st).1.toNat (Qcj 0 200 st).2
theorem balS_enc (l:List Bl) (r:List UInt8) (h:Qhm l):balS (some (balB l++r))=(l,some r):=by
 have h2:=h.1;unfold balS balB;rw [List.append_assoc,rdNS_enc _ (by omega) (by omega) (by omega) (by omega)]
 simp only [Int.toNat_natCast];rw [balsS_enc l r h l.length (Nat.le_refl _),List.take_length,List.drop_length];rfl
end
section
open Go.RowKit Go.Lib Go.Proofs.Tryz
theorem QeS (n:Int) (w:World) :
  Calls prog 155 #[.int .i64 n] w fun e w'=>e=.returned (.bool false)∧w'=w:=by
 go_enter func155,ntmps155
 go_wp2;go_ret;exact ⟨rfl,rfl⟩
theorem Qh8 (a b:Int) (w:World) :
  Calls prog 103 #[.int .i64 a,.int .i64 b] w fun e w'=>e=.returned (.int .i64 (QcO a b))∧w'=w:=by
 by_cases h1:a<b
 ·have er:QcO a b = -1:=if_pos h1;rw [er];go_enter func103,ntmps103
  go_wp2_with (go_at_call 155;refine (QeS _ _).mono ?_;rintro e w' ⟨rfl,rfl⟩);go_ret;exact ⟨rfl,rfl⟩
 ·by_cases h2:b<a
  ·have er:QcO a b=1:=by unfold QcO;rw [if_neg h1,if_pos h2]
   rw [er];go_enter func103,ntmps103
   go_wp2_with (go_at_call 155;refine (QeS _ _).mono ?_;rintro e w' ⟨rfl,rfl⟩);go_ret;exact ⟨rfl,rfl⟩
  ·have er:QcO a b=0:=by unfold QcO;rw [if_neg h1,if_neg h2]
   rw [er];go_enter func103,ntmps103
   go_wp2_with (go_at_call 155;refine (QeS _ _).mono ?_;rintro e w' ⟨rfl,rfl⟩);go_ret;exact ⟨rfl,rfl⟩
theorem cmpOr3_any (b:Nat) (x y z:Int) (w:World) (h0:w.cell? ⟨b,0,none⟩=some (.int .i64 x)) (h1:w.cell? ⟨b,1,none⟩=some (.int .i64 y)) (h2:w.cell? ⟨b,2,none⟩=some (.int .i64 z)) :
  Calls prog 102 #[.slice (some ⟨b,0,none⟩) 3 3] w fun e w'=>e=.returned (.int .i64 (if x≠0 then x else if y≠0 then y else z))∧w'=w:=by
 by_cases hx:x=0
 ·subst hx;rw [if_neg (by simp)]
  by_cases hy:y=0
  ·subst hy;rw [if_neg (by simp)]
   by_cases hz:z=0
   ·subst hz;go_enter func102,ntmps102
    go_wp2;refine wp_loop_rounds 4 ?_;rw [rounds_succ];go_wp2;rw [rounds_succ];go_wp2;rw [rounds_succ];go_wp2;rw [rounds_succ];go_wp2;go_ret;exact ⟨rfl,rfl⟩
   ·have hz':(z != 0)=true:=by simp [hz]
    go_enter func102,ntmps102
    go_wp2;refine wp_loop_rounds 4 ?_;rw [rounds_succ];go_wp2;rw [rounds_succ];go_wp2;rw [rounds_succ];go_wp2;go_ret;exact ⟨rfl,rfl⟩
  ·rw [if_pos hy];have hy':(y != 0)=true:=by simp [hy]
   go_enter func102,ntmps102
   go_wp2;refine wp_loop_rounds 4 ?_;rw [rounds_succ];go_wp2;rw [rounds_succ];go_wp2;go_ret;exact ⟨rfl,rfl⟩
 ·rw [if_pos hx];have hx':(x != 0)=true:=by simp [hx]
  go_enter func102,ntmps102
  go_wp2;refine wp_loop_rounds 4 ?_;rw [rounds_succ];go_wp2;go_ret;exact ⟨rfl,rfl⟩
set_option maxHeartbeats 4000000 in
theorem compareB_any (x y:Bl) (w:World) :
  Calls prog 62 #[.agg x.cells,.agg y.cells] w fun e w'=>e=.returned (.int .i64 (Qc7 x y))∧Below w.heap.size w w':=by
 obtain ⟨x0,x1,x2,x3⟩:=x;obtain ⟨y0,y1,y2,y3⟩:=y;simp only [Bl.cells,Qc7];obtain ⟨V,hV⟩:∃ V,(w.alloc (.cells #[.int .i64 x0,.string x1,.string x2,.int .i64 x3] 63)).alloc (.cells #[.int .i64 y0,.string y1,.string y2,.int .i64 y3] 63)=V:=⟨_,rfl⟩;have c0:((V.alloc (.cells #[.int .i64 (QcO x0 y0),.int .i64 (Qa3 x1 y1),.int .i64 (Qa3 x2 y2)] 3)).drew).cell? ⟨w.heap.size+1+1,0,none⟩=some (.int .i64 (QcO x0 y0)):=Qfc _ _ _ _ _ _ (by rw [← hV];simp) rfl
 have c1:((V.alloc (.cells #[.int .i64 (QcO x0 y0),.int .i64 (Qa3 x1 y1),.int .i64 (Qa3 x2 y2)] 3)).drew).cell? ⟨w.heap.size+1+1,1,none⟩=some (.int .i64 (Qa3 x1 y1)):=Qfc _ _ _ _ _ _ (by rw [← hV];simp) rfl
 have c2:((V.alloc (.cells #[.int .i64 (QcO x0 y0),.int .i64 (Qa3 x1 y1),.int .i64 (Qa3 x2 y2)] 3)).drew).cell? ⟨w.heap.size+1+1,2,none⟩=some (.int .i64 (Qa3 x2 y2)):=Qfc _ _ _ _ _ _ (by rw [← hV];simp) rfl
 have hO:=cmpOr3_any _ _ _ _ _ c0 c1 c2;have bl:Below w.heap.size w ((V.alloc (.cells #[.int .i64 (QcO x0 y0),.int .i64 (Qa3 x1 y1),.int .i64 (Qa3 x2 y2)] 3)).drew):=by
  rw [← hV];exact ((((Below.refl _ w).alloc (Nat.le_refl _) _).alloc (by simp) _).alloc (by simp;omega) _).drew
 subst hV;clear c0 c1 c2;obtain ⟨r,hr⟩:∃ r,(if QcO x0 y0≠0 then QcO x0 y0 else if Qa3 x1 y1≠0 then Qa3 x1 y1 else Qa3 x2 y2)=r:=⟨_,rfl⟩
 rw [hr] at hO ⊢;clear hr;go_enter func62,ntmps62
 go_wp2;go_region_held3 (fun u=>(u.cell? ⟨w.heap.size,0,none⟩=some (.int .i64 x0)∧u.cell? ⟨w.heap.size,1,none⟩=some (.string x1)∧u.cell? ⟨w.heap.size,2,none⟩=some (.string x2))∧u.cell? ⟨w.heap.size+1,0,none⟩=some (.int .i64 y0)∧u.cell? ⟨w.heap.size+1,1,none⟩=some (.string y1)∧u.cell? ⟨w.heap.size+1,2,none⟩=some (.string y2)) (go_keep) (first | (go_at_call 103;refine (Qh8 _ _ _).mono ?_;rintro e w' ⟨rfl,rfl⟩) | (go_at_call 104;refine (Qef _ _ _).mono ?_;rintro e w' ⟨rfl,rfl⟩) | (go_at_call 102;refine hO.mono ?_;rintro e w' ⟨rfl,rfl⟩))
 all_goals
  go_wp2;go_ret;exact ⟨rfl,bl⟩
def Qeh (l:List Bl) (k:Nat):Bool:=decide (QcP l k=0)
theorem rises_zero (a:Option Addr) (cap n:Nat) (w:World) :
  Calls prog 26 #[.slice a n cap,.int .i64 0] w fun e w'=>e=.returned (.bool true)∧Below w.heap.size w w':=by
 go_enter func26,ntmps26
 go_wp2_with fail;go_quiet (fail)
 go_wp2;go_ret;exact ⟨rfl,QcF (Below.refl _ _) _⟩
set_option maxHeartbeats 4000000 in
theorem rises_succ (b off cap m:Nat) (l:List Bl) (w:World) (hb:b<w.heap.size) (hlen:l.length≤1000) (hm:m+1<l.length) (hc:BlsAt w b off l) :
  Calls prog 26 #[.slice (some ⟨b,off,none⟩) l.length cap,.int .i64 ((m:Int)+1)] w fun e w'=>e=.returned (.bool (Qeh l (m+1)))∧Below w.heap.size w w':=by
 have hx:=hc m (by omega)
 have hy:=hc (m+1) hm;have er:Qeh l (m+1)=decide (Qc7 (l.getD m bl0) (l.getD (m+1) bl0)<0):=by
  unfold Qeh QcP;simp only [Nat.add_sub_cancel];by_cases h:Qc7 (l.getD m bl0) (l.getD (m+1) bl0)<0
  ·rw [if_pos (.inr h),decide_eq_true h];rfl
  ·rw [if_neg (by rintro (h' | h');omega;exact h h'),decide_eq_false h];rfl
 rw [er];clear er hc;have e4:off+(m+1)*4=off+m*4+4:=by omega
 generalize l.getD m bl0=x at *
 generalize l.getD (m+1) bl0=y at *
 have HC:Hid (∀ W,Calls prog 62 #[.agg x.cells,.agg y.cells] W fun e w'=>e=.returned (.int .i64 (Qc7 x y))∧Below W.heap.size W w'):=fun W=>compareB_any x y W
 generalize Qc7 x y=c at *
 obtain ⟨x0,x1,x2,x3⟩:=x;obtain ⟨y0,y1,y2,y3⟩:=y;obtain ⟨d0,d1,d2,d3⟩:=hx;obtain ⟨f0,f1,f2,f3⟩:=hy;simp only [Bl.cells] at d0 d1 d2 d3 f0 f1 f2 f3 HC;have HK:Hid (∀ W V,Below W.heap.size W V→b<W.heap.size→(W.cell? ⟨b,off+m*4,none⟩=some (.int .i64 x0)∧W.cell? ⟨b,off+m*4+1,none⟩=some (.string x1)∧W.cell? ⟨b,off+m*4+2,none⟩=some (.string x2)∧W.cell? ⟨b,off+m*4+3,none⟩=some (.int .i64 x3))∧W.cell? ⟨b,off+(m+1)*4,none⟩=some (.int .i64 y0)∧W.cell? ⟨b,off+(m+1)*4+1,none⟩=some (.string y1)∧W.cell? ⟨b,off+(m+1)*4+2,none⟩=some (.string y2)∧W.cell? ⟨b,off+(m+1)*4+3,none⟩=some (.int .i64 y3)→(V.cell? ⟨b,off+m*4,none⟩=some (.int .i64 x0)∧V.cell? ⟨b,off+m*4+1,none⟩=some (.string x1)∧V.cell? ⟨b,off+m*4+2,none⟩=some (.string x2)∧V.cell? ⟨b,off+m*4+3,none⟩=some (.int .i64 x3))∧V.cell? ⟨b,off+(m+1)*4,none⟩=some (.int .i64 y0)∧V.cell? ⟨b,off+(m+1)*4+1,none⟩=some (.string y1)∧V.cell? ⟨b,off+(m+1)*4+2,none⟩=some (.string y2)∧V.cell? ⟨b,off+(m+1)*4+3,none⟩=some (.int .i64 y3)):=fun W V hB hlt hh=>by
  have C:∀ o,V.cell? ⟨b,o,none⟩=W.cell? ⟨b,o,none⟩:=fun o=>hB.cell (p:=⟨b,o,none⟩) hlt
  simp only [C];exact hh
 have i0:(0:Int)≤m:=by omega
 have i1:(m:Int)+1<l.length:=by omega
 have i2:(m:Int)<l.length:=by omega
 have i3:(l.length:Int)≤1000:=by omega
 have i4:¬ ((m:Int)+1=0):=by omega
 have i5:(((m:Int)+1) == 0)=false:=by simp;omega
 have i6:(m:Int)+1 - 1=m:=by omega
 have i7:((m:Int)+1).toNat=m+1:=by omega
 have i8:(0:Int)≤(m:Int)+1:=by omega
 have iw1:IntKind.i64.wrap (m:Int)=m:=by
  simp only [IntKind.wrap,IntKind.bits,IntKind.signed];simp;omega
 have iw2:IntKind.i64.wrap ((m:Int)+1 - 1)=m:=by rw [i6,iw1]
 clear e4;go_enter func26,ntmps26
 go_wp2_with fail;go_region_held3 (fun u=>(u.cell? ⟨b,off+m*4,none⟩=some (.int .i64 x0)∧u.cell? ⟨b,off+m*4+1,none⟩=some (.string x1)∧u.cell? ⟨b,off+m*4+2,none⟩=some (.string x2)∧u.cell? ⟨b,off+m*4+3,none⟩=some (.int .i64 x3))∧u.cell? ⟨b,off+(m+1)*4,none⟩=some (.int .i64 y0)∧u.cell? ⟨b,off+(m+1)*4+1,none⟩=some (.string y1)∧u.cell? ⟨b,off+(m+1)*4+2,none⟩=some (.string y2)∧u.cell? ⟨b,off+(m+1)*4+3,none⟩=some (.int .i64 y3)) (go_keep) (first | (go_at_call 62;refine (HC.out _).mono ?_;rintro e w' ⟨rfl,hb'⟩;obtain ⟨⟨p0,p1,p2,p3⟩,p4,p5,p6,p7⟩:=HK.out _ _ hb' (by simpa using hb) (by simpa using ⟨⟨d0,d1,d2,d3⟩,f0,f1,f2,f3⟩)))
 all_goals
  go_wp2;go_ret;exact ⟨rfl,(Below.refl _ _).drew.trans hb'⟩
theorem rises_any (a:Option Addr) (cap k:Nat) (l:List Bl) (w:World) (hlen:l.length≤1000) (hk:k<l.length) (h:Qcn w a l cap) :
  Calls prog 26 #[.slice a l.length cap,.int .i64 k] w fun e w'=>e=.returned (.bool (Qeh l k))∧Below w.heap.size w w':=by
 rcases h.lies with h0 | ⟨b,off,rfl,hlt,hc⟩
 ·rw [h0] at hk;simp at hk
 rcases k with _ | m
 ·have:Qeh l 0=true:=by simp [Qeh,QcP]
  rw [this];exact rises_zero _ _ _ w
 ·exact rises_succ b off cap m l w hlt hlen hk hc
end
section
open Go.RowKit Go.Lib Go.Proofs.Tryz
theorem blsW_snoc (l:List Bl) (x:Bl):Qi0 (l++[x])=Qi0 l++blW x:=by simp [Qi0]
set_option maxHeartbeats 4000000 in
theorem fBalances_any (a:Option Addr) (cap:Nat) (l:List Bl) (w:World) (hlen:l.length≤maxLen) (hwf:∀ x∈l,I64B x) (h:Qcn w a l cap) :
  Calls prog 6 #[.slice a l.length cap] w fun e w'=>
   ((Qf8 l≠0∧e=.returned (.tuple #[.slice none 0 0,enE (Qf8 l)]))∨(Qf8 l=0∧∃ v,e=.returned (.tuple #[v,.nilIface])∧Qaq w' w.heap.size v (balB l)))∧Below w.heap.size w w':=by
 have hlen':(l.length:Int)≤9223372036854775807:=by unfold maxLen at hlen;omega
 by_cases h1:200<l.length
 ·have h1':(200:Int)<l.length:=by omega
  have e1:Qf8 l=4:=if_pos h1;rw [e1];clear e1 h;go_enter func6,ntmps6
  go_wp2;go_ret2;exact ⟨.inl ⟨by decide,rfl⟩,Below.refl _ _⟩
 have h1':¬ (200:Int)<l.length:=by omega
 have HA:Hid (Qcn w a l cap):=h;have Hwf:Hid (∀ x∈l,I64B x):=hwf;obtain ⟨W1,hW1⟩:∃ W1,w.alloc (.cells #[.slice none 0 0,.nilIface] 68)=W1:=⟨_,rfl⟩;have y0:Qc5 W1 w.heap.size [] 0:=by rw [← hW1];exact ⟨_,Qdq.new _ _ _,Qaq.nil _ _⟩
 have B0:Below w.heap.size w W1:=by rw [← hW1];exact (Below.refl _ _).alloc (Nat.le_refl _) _
 have hn3:=@numB_length l.length (by omega) (by omega)
 have HN:Hid (Calls _ _ _ _ _):=QeL w.heap.size [] 0 l.length W1 (by omega) (by omega) (by simp) y0
 have HB0:Hid (Below w.heap.size w W1):=B0;have Hbad:Hid (Qf8 l=Qcv l l.length):=if_neg h1;have HeW:Hid (Qhm l→Qd5 l.length++Qi0 l=balB l):=fun hf=>balW_fit hf
 clear h hwf B0 y0;go_enter func6,ntmps6
 go_wp2_with fail;refine HN.out.mono ?_;rintro e w1 ⟨rfl,y1,B1⟩;have Hy1:Hid (Qc5 w1 w.heap.size (Qd5 l.length) 0):=y1;have HB1:Hid (Below w.heap.size w w1):=HB0.out.trans B1;generalize Qd5 l.length=hd at *
 clear HN y1 B1 HB0 hW1;go_wp2;go_loopw [5,15] (fun _ i wr=>∃ k:Nat,k≤l.length∧i=.int .i64 k∧Hid (Qc5 wr w.heap.size (hd++Qi0 (l.take k)) (Qcv l k))∧Below w.heap.size w wr) (fun _ i _=>l.length - (RowKit.intOf i).toNat)
 case atStart=>exact ⟨0,Nat.zero_le _,rfl,by unfold Hid;simpa [Qi0,Qcv] using Hy1.out,HB1.out⟩
 case round=>
  obtain ⟨k,hk,rfl,R,BW⟩:=hrel;by_cases hlt:k<l.length
  ·rcases HA.out.lies with h0 | ⟨gb,go,rfl,hgb,hgc⟩
   ·rw [h0] at hlt;simp at hlt
   have hn:=(hgc k hlt).below BW hgb;have hst:hd++Qi0 (l.take (k+1))=hd++Qi0 (l.take k)++blW (l.getD k bl0):=by rw [Qfd l k hlt,blsW_snoc,List.append_assoc]
   have hse:Qcv l (k+1)=fo (blErr (Qcv l k) (l.getD k bl0)) (QcP l k):=rfl;have hxw:=Hwf.out _ (bls_mem l k hlt);have hbl:(hd++Qi0 (l.take k)).length≤17610:=by
    have:=Qhd (l.take k) (fun y hy=>Hwf.out y (List.mem_of_mem_take hy))
    rw [List.length_take] at this;rw [List.length_append];omega
   have HRi:Hid (∀ W,Below w.heap.size w W→Calls prog 26 #[.slice (some ⟨gb,go,none⟩) l.length cap,.int .i64 k] W fun e w'=>e=.returned (.bool (Qeh l k))∧Below W.heap.size W w'):=fun W hW=>rises_any _ cap k l W (by omega) hlt (HA.out.below hW)
   have hro:Qeh l k=decide (QcP l k=0):=rfl;have ho5:QcP l k=0∨QcP l k=5:=by unfold QcP;split <;> simp
   generalize l.getD k bl0=x at *
   generalize hd++Qi0 (l.take k)=bk at *
   generalize Qcv l k=ek at *
   generalize QcP l k=ok at *
   generalize Qeh l k=rk at *
   have Hst:Hid (_=_):=hst;have Hse:Hid (_=_):=hse;have Hro:Hid (rk=decide (ok=0)):=hro;have Hn:Hid (BlAt wr gb (go+k*4) x):=hn;clear hst hse hgc hro;obtain ⟨x0,x1,x2,x3⟩:=x;obtain ⟨c0,c1,c2,c3⟩:=hn;simp only at c0 c1 c2 c3;obtain ⟨hx0,hx3⟩:=hxw;simp only at hx0 hx3;have j0:(0:Int)≤k:=by omega
   have j1:(k:Int)<l.length:=by omega
   have t0:=numB_length hx0.1 hx0.2;have t34a:=Qdj x1;have t34b:=Qdj x2;have HT0:Hid (Calls _ _ _ _ _):=wsmall_any w.heap.size bk ek x0 wr hx0.1 hx0.2 (by omega) R.out
   clear R c1 c2 c3;go_wp2_with fail;refine HT0.out.mono ?_;rintro e u1 ⟨rfl,y1,B1⟩;have n1:=Hn.out.below B1 hgb;have HT1:Hid (Calls _ _ _ _ _):=wtext_any w.heap.size _ _ x1 u1 (by rw [List.length_append];omega) y1
   have Hn1:Hid (BlAt u1 _ _ _):=n1;have HB1:Hid (Below w.heap.size wr u1):=B1;clear c0 HT0 Hn y1 B1;have c1:=n1.c1;simp only at c1;clear n1;go_wp2_with fail;refine HT1.out.mono ?_;rintro e u2 ⟨rfl,y2,B2⟩;have n2:=Hn1.out.below B2 hgb;have HT2:Hid (Calls _ _ _ _ _):=wtext_any w.heap.size _ _ x2 u2 (by rw [List.length_append,List.length_append];omega) y2
   have Hn2:Hid (BlAt u2 _ _ _):=n2;have HB2:Hid (Below w.heap.size wr u2):=HB1.out.trans B2;clear c1 HT1 Hn1 y2 B2 HB1;have c2:=n2.c2;simp only at c2;clear n2;go_wp2_with fail;refine HT2.out.mono ?_;rintro e u3 ⟨rfl,y3,B3⟩;have n3:=Hn2.out.below B3 hgb;have HT3:Hid (Calls _ _ _ _ _):=wamount_any w.heap.size _ _ x3 u3 hx3.1 hx3.2 (by rw [List.length_append,List.length_append,List.length_append];omega) y3
   have HB3:Hid (Below w.heap.size wr u3):=HB2.out.trans B3;clear c2 HT2 Hn2 y3 B3 HB2;have c3:=n3.c3;simp only at c3;clear n3;go_wp2_with fail;refine HT3.out.mono ?_;rintro e u4 ⟨rfl,y4,B4⟩;have BN:=BW.trans (HB3.out.trans B4);have HY:Qc5 u4 w.heap.size (hd++Qi0 (l.take (k+1))) (blErr ek ⟨x0,x1,x2,x3⟩):=by
    rw [Hst.out]
    have:blW ⟨x0,x1,x2,x3⟩=Qd5 x0++(txtW x1++(txtW x2++Qd5 x3)):=by simp [blW]
    rw [this,← List.append_assoc,← List.append_assoc,← List.append_assoc];exact y4
   generalize blErr ek ⟨x0,x1,x2,x3⟩=e4 at *
   obtain ⟨v4,x4,r4⟩:=HY;have d1:=x4.c1;have Hx4:Hid (Qdq u4 _ _ _):=x4;have Hr4:Hid (Qaq u4 _ _ _):=r4;clear c3 HT3 y4 B4 HB3 Hst x4 r4 t0 t34a t34b hx0 hx3 hbl;by_cases he:e4=0
   ·subst he;rw [QbE] at d1;have HRu:Hid (Calls _ _ _ _ _):=HRi.out u4 BN;rcases ho5 with rfl | rfl
    ·have hrk:rk=true:=by rw [Hro.out];rfl
     subst hrk;go_wp2_with fail;refine HRu.out.mono ?_;rintro e u5 ⟨rfl,B5⟩;have HYN:Hid (Qc5 u5 w.heap.size (hd++Qi0 (l.take (k+1))) (Qcv l (k+1))):=by
      unfold Hid;rw [Hse.out];exact ⟨v4,Hx4.out.below B5 Hx4.out.lt,Hr4.out.below B5⟩
     have BN5:=BN.trans (B5.mono BN.size);clear HRu HRi B5 Hx4 Hr4 d1;go_wp2;go_roundw
     case rel=>exact ⟨k+1,by omega,by go_num,HYN,BN5⟩
     case measure=>simp [RowKit.intOf];omega
    ·have hrk:rk=false:=by rw [Hro.out];rfl
     subst hrk;go_wp2_with fail;refine HRu.out.mono ?_;rintro e u5 ⟨rfl,B5⟩;have x5:=Hx4.out.below B5 Hx4.out.lt;have f5:=x5.fz 1;have g5:=x5.c1;have HYN:Hid (Qc5 (u5.setCell ⟨w.heap.size,1,none⟩ (.iface 66 (.int .i64 5))) w.heap.size (hd++Qi0 (l.take (k+1))) (Qcv l (k+1))):=by
      unfold Hid;rw [Hse.out];exact ⟨v4,x5.set1 _,Qaq.setOther (Hr4.out.below B5) (Nat.lt_succ_self _)⟩
     have BN5:=(BN.trans (B5.mono BN.size)).setCell (p:=⟨w.heap.size,1,none⟩) (Nat.le_refl _) (.iface 66 (.int .i64 5));clear HRu HRi B5 Hx4 Hr4 d1 x5;go_wp2;go_roundw
     case rel=>exact ⟨k+1,by omega,by go_num,HYN,BN5⟩
     case measure=>simp [RowKit.intOf];omega
   ·rw [QaF he] at d1;have HYN:Hid (Qc5 u4 w.heap.size (hd++Qi0 (l.take (k+1))) (Qcv l (k+1))):=by
     unfold Hid;rw [Hse.out]
     have:fo e4 ok=e4:=if_neg he
     rw [this];exact ⟨v4,Hx4.out,Hr4.out⟩
    clear HRi Hx4 Hr4;go_wp2;go_roundw
    case rel=>exact ⟨k+1,by omega,by go_num,HYN,BN⟩
    case measure=>simp [RowKit.intOf];omega
  ·have hk2:k=l.length:=by omega
   subst hk2;have R1:=R.out;rw [List.take_length] at R1;obtain ⟨bad,hbad⟩:∃ bad,Qcv l l.length=bad:=⟨_,rfl⟩;rw [hbad] at R1 Hbad;have hb:=Hbad.out;by_cases h0:bad=0
   ·subst h0;have HWA:Hid (Calls _ _ _ _ _):=wall_ok w.heap.size _ wr R1;have hW:=HeW.out (Qg1.1 hb);rw [hW] at HWA;clear R R1 hbad hb hW;go_wp2_with fail;refine HWA.out.mono ?_;rintro e u ⟨v,rfl,rr,bu⟩;obtain ⟨a4,c4,rfl,_⟩:=rr.isBy;have HR:Hid (Qaq u _ _ _):=rr;generalize (balB l).length=m4 at *
    clear HWA rr;go_wp2;go_ret2;exact ⟨.inr ⟨Hbad.out,_,rfl,Qaq.mono (n:=w.heap.size+1) (m:=w.heap.size) HR.out (by omega)⟩,BW.trans (bu.mono BW.size)⟩
   ·have HWA:Hid (Calls _ _ _ _ _):=wall_bad w.heap.size _ bad wr h0 R1;rw [QaF h0] at HWA;clear R R1 hbad hb HeW;go_wp2_with fail;refine HWA.out.mono ?_;rintro e u ⟨rfl,bu⟩;clear HWA;go_wp2;go_ret2;exact ⟨.inl ⟨by rw [Hbad.out];exact h0,by rw [Hbad.out,QaF h0];rfl⟩,BW.trans (bu.mono BW.size)⟩
end
end Go.Proofs.YtjifbbdkpanagaaGreatDoor
