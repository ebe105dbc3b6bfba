/-
  Part of a proof (see the last text).
-/
import Derived.Test.YtjifbbdkpanagaaGreatDoorZd30
set_option linter.unusedVariables false
set_option linter.unusedSimpArgs false
set_option maxRecDepth 100000
namespace Go.Proofs.YtjifbbdkpanagaaGreatDoor
section
open Go.RowKit Go.Lib Go.Proofs.Tryz
section
variable {W:World} {n0 m0 B:Nat} {P:Cp} {S:Cs}
end
end
section
open Go.RowKit Go.Lib Go.Proofs.Tryz
section
variable {W:World} {n0 m0 B:Nat} {P:Cp} {S:Cs}
end
end
section
open Go.RowKit Go.Lib Go.Proofs.Tryz
theorem tot_one {p:Ln→Bool} (cur:ByteArray) (hp:KeyP p):∀ l:List Ln,(∀ x∈l,x.cur=cur)→tot p (l.map Qb7)=if p ⟨ByteArray.empty,cur,0⟩=true then (l.map Ln.amt).sum else 0
 | [],_=>by simp [tot]
 | x :: l,h=>by
  have ih:=tot_one cur hp l fun y hy=>h y (List.mem_cons_of_mem _ hy)
  have hx:=h x (List.mem_cons_self ..);have e:p (Qb7 x)=p ⟨ByteArray.empty,cur,0⟩:=hp _ _ (by simp [QfN,Qb7,hx])
  rw [List.map_cons,tot,ih,e,List.map_cons,List.sum_cons]
  split <;> simp [Qb7]
theorem sum_noz:∀ l:List Ln,((l.filter fun x=>!isNo x).map Ln.amt).sum=(l.map Ln.amt).sum
 | []=>rfl
 | x :: l=>by
  have ih:=sum_noz l;rw [List.filter_cons]
  split
  ·rw [List.map_cons,List.sum_cons,ih,List.map_cons,List.sum_cons]
  ·rename_i h
   have:x.amt=0:=by simpa [isNo] using h
   rw [ih,List.map_cons,List.sum_cons,this];omega
theorem goL_cur {p:Po} {has:Int}:∀ x∈goL p has,x.cur=p.cur:=fun x hx=>by
 have hx:=(List.mem_filter.1 hx).1;rcases List.mem_cons.1 hx with rfl | hx
 ·rfl
 ·obtain ⟨k,_,rfl⟩:=List.mem_map.1 hx;rfl
theorem goL_sum {c:List Ac} {p:Po} {has:Int} (h:QhO c p=0):((goL p has).map Ln.amt).sum=0:=by
 obtain ⟨q1,q2,q3,q4,_⟩:=Qd4 h;unfold goL;rw [sum_noz];unfold allL;rw [List.map_cons,List.sum_cons,List.map_map];have e:(List.range p.tos.length).map (Ln.amt ∘ toLn p has)=(List.range p.ws.length).map (Qds has p.ws):=by rw [q1];rfl
 rw [e,share_sum (QiO q4)];show -has+has=0;omega
theorem goL_even {c:List Ac} {p:Po} {has:Int} (h:QhO c p=0):evenL (goL p has):=fun q hq=>by
 rw [tot_one p.cur hq _ goL_cur,goL_sum h]
 split <;> rfl
theorem ae_within {c:List Ac} {p:Po} {has:Int} (h:QhO c p=0) (ha:isAmt has):Qa7 Qah (goL p has):=fun x hx=>by
 have hx:=(List.mem_filter.1 hx).1;obtain ⟨q1,q2,q3,q4,_⟩:=Qd4 h;unfold isAmt at ha;unfold Qah;rcases List.mem_cons.1 hx with rfl | hx
 ·show -1000000000000000≤-has∧-has≤1000000000000000;omega
 ·obtain ⟨k,hk,rfl⟩:=List.mem_map.1 hx
  have:=share_bd (t:=has) (QiO q4) (i:=k) (by rw [q1];exact List.mem_range.1 hk)
  show -1000000000000000≤Qds has p.ws k∧Qds has p.ws k≤1000000000000000;by_cases h0:0≤has
  ·have:=this.1 h0;omega
  ·have:=this.2 (by omega);omega
theorem ae_len (p:Po) (has:Int):(goL p has).length≤p.tos.length+1:=by
 have:=List.length_filter_le (fun x=>!isNo x) (allL p has)
 rw [allL_len] at this;exact this
theorem goL_head (p:Po) {has:Int} (h0:has≠0):∃ t,goL p has=⟨p.acc,p.cur,-has⟩ :: t∧∀ x∈t,memB x.acc p.tos=true:=by
 unfold goL allL;rw [List.filter_cons,if_pos (by simp [isNo];omega)]
 refine ⟨_,rfl,fun x hx=>?_⟩
 obtain ⟨k,hk,rfl⟩:=List.mem_map.1 (List.mem_filter.1 hx).1;unfold memB;rw [List.any_eq_true];refine ⟨p.tos.getD k ByteArray.empty,?_,by simp [toLn]⟩
 rw [List.getD_eq_getElem?_getD,List.getElem?_eq_getElem (List.mem_range.1 hk)];exact List.getElem_mem _
theorem alTo_mem {en pe:Int} {b:List Bl} {l:List Po} {n:Nat} {x:Ep} (h:x∈alTo en pe b l n):∃ k,k<n∧QdS b en (l.getD k po0).acc (l.getD k po0).cur≠0∧x.lns=goL (l.getD k po0) (QdS b en (l.getD k po0).acc (l.getD k po0).cur):=by
 obtain ⟨k,hk,hx⟩:=List.mem_flatMap.1 h;refine ⟨k,List.mem_range.1 hk,?_⟩;unfold poE at hx;split at hx
 ·cases hx
 ·rename_i h0;rw [List.mem_singleton] at hx;subst hx;exact ⟨h0,rfl⟩
theorem all_even {c:List Ac} {l:List Po} {b:List Bl} {en pe:Int} (h:QbZ c l b en pe=0) {L:List Je} (hL:L.map Je.ep=alTo en pe b l l.length):∀ x∈L,0<x.lns.length∧x.lns.length≤20∧Qa7 Qah x.lns∧∀ y∈QaN x.lns,y.amt=0:=fun x hx=>by
 have hm:x.ep∈alTo en pe b l l.length:=by rw [← hL];exact List.mem_map_of_mem hx
 obtain ⟨k,hk,h0,e⟩:=alTo_mem hm;have e':x.lns=goL (l.getD k po0) (QdS b en (l.getD k po0).acc (l.getD k po0).cur):=e;unfold QbZ at h;split at h
 ·contradiction
 ·rename_i h1;have hps:=(Qe4 (Decidable.of_not_not h1)).2.2 k hk;split at h
  ·contradiction
  ·split at h
   ·omega
   ·have hz:=QaH h k hk;unfold hasBad at hz;split at hz
    ·rename_i ha;rw [e'];obtain ⟨t,ht,_⟩:=goL_head (l.getD k po0) h0;refine ⟨by rw [ht];simp,?_,ae_within hps ha,fun y hy=>?_⟩
     ·have:=ae_len (l.getD k po0) (QdS b en (l.getD k po0).acc (l.getD k po0).cur)
      have:=(Qd4 hps).2.2.1
      omega
     ·have:=(QgE (l:=goL (l.getD k po0) (QdS b en (l.getD k po0).acc (l.getD k po0).cur))).2 (goL_even hps)
      rw [List.any_eq_false] at this
      have:=this y hy
      simpa [nullL] using this
    ·omega
end
section
open Go.RowKit Go.Lib Go.Proofs.Tryz
theorem step_pos {a p x:Int} (ha:0≤a) (hp:1≤p) (hx:0≤x):a / p≤(x+a) / p - x / p∧(x+a) / p - x / p≤a / p+1∧(x+a) / p - x / p≤a:=by
 have e1:=Int.mul_ediv_add_emod x p;have e2:=Int.mul_ediv_add_emod a p;have e3:=Int.mul_ediv_add_emod (x+a) p;have r1:=Int.emod_nonneg x (by omega:p≠0)
 have r2:=Int.emod_nonneg a (by omega:p≠0)
 have r3:=Int.emod_nonneg (x+a) (by omega:p≠0)
 have t1:=Int.emod_lt_of_pos x (by omega:0<p)
 have t2:=Int.emod_lt_of_pos a (by omega:0<p)
 have t3:=Int.emod_lt_of_pos (x+a) (by omega:0<p)
 have q2:0≤a / p:=Int.ediv_nonneg ha (by omega)
 generalize (x+a) / p=s at *
 generalize x / p=t at *
 generalize a / p=u at *
 have k:p*(s - t - u)=x % p+a % p - (x+a) % p:=by rw [Int.mul_sub,Int.mul_sub];omega
 have k1:p*(s - t - u)<p*2:=by omega
 have k2:p*(-1)<p*(s - t - u):=by omega
 have j1:=Int.lt_of_mul_lt_mul_left k1 (by omega)
 have j2:=Int.lt_of_mul_lt_mul_left k2 (by omega)
 refine ⟨by omega,by omega,?_⟩
 by_cases hd:s - t - u=1
 ·by_cases ha0:u+1≤a
  ·omega
  ·exfalso
   -- u ≥ a: then p*u≤a gives p=1 or a=0
   have h1:p*u≤a:=by omega
   have h2:a≤u:=by omega
   rw [hd] at k;by_cases hp1:p=1
   ·subst hp1;omega
   ·have h3:2*u≤p*u:=Int.mul_le_mul_of_nonneg_right (by omega) q2
    have h4:u=0:=by omega
    subst h4;omega
 ·have hd0:s - t - u=0:=by omega
  have h5:u≤p*u:=by
   have:=Int.mul_le_mul_of_nonneg_right hp q2
   omega
  omega
def loN (am pr:Int):Int:=if 0<am then am / pr else -((-am) / pr) - 1
theorem part_is {am pr k:Int} (hp:1≤pr) (h0:0≤k):(0<am→(0≤(am*(k+1)).tdiv pr - (am*k).tdiv pr∧loN am pr≤(am*(k+1)).tdiv pr - (am*k).tdiv pr∧(am*(k+1)).tdiv pr - (am*k).tdiv pr≤loN am pr+1∧(am*(k+1)).tdiv pr - (am*k).tdiv pr≤am))∧(am<0→((am*(k+1)).tdiv pr - (am*k).tdiv pr≤0∧loN am pr≤(am*(k+1)).tdiv pr - (am*k).tdiv pr∧(am*(k+1)).tdiv pr - (am*k).tdiv pr≤loN am pr+1∧am≤(am*(k+1)).tdiv pr - (am*k).tdiv pr)):=by
 refine ⟨fun ha=>?_,fun ha=>?_⟩
 ·have m0:=Int.mul_nonneg (by omega:0≤am) h0
  have m1:am*(k+1)=am*k+am:=by rw [Int.mul_add,Int.mul_one]
  rw [m1,Int.tdiv_eq_ediv_of_nonneg (by omega),Int.tdiv_eq_ediv_of_nonneg m0]
  obtain ⟨s1,s2,s3⟩:=step_pos (by omega:0≤am) hp m0
  have q:0≤am / pr:=Int.ediv_nonneg (by omega) (by omega)
  unfold loN;rw [if_pos ha];omega
 ·have m0:=Int.mul_nonneg (by omega:0≤-am) h0
  have m1:-am*(k+1) = -am*k + -am:=by rw [Int.mul_add,Int.mul_one]
  have n1:am*(k+1) = -(-am*(k+1)):=by rw [Int.neg_mul,Int.neg_neg]
  have n0:am*k = -(-am*k):=by rw [Int.neg_mul,Int.neg_neg]
  rw [n1,n0,Int.neg_tdiv,Int.neg_tdiv,m1,Int.tdiv_eq_ediv_of_nonneg (by omega),Int.tdiv_eq_ediv_of_nonneg m0]
  obtain ⟨s1,s2,s3⟩:=step_pos (by omega:0≤-am) hp m0
  have q:0≤(-am) / pr:=Int.ediv_nonneg (by omega) (by omega)
  unfold loN;rw [if_neg (by omega)]
  omega
theorem part_most {am fs pr pe:Int} (h:QfG am fs pr=true) (hp:Qav pe 120=true):-Qah≤partN am fs pr pe∧partN am fs pr pe≤Qah:=by
 obtain ⟨h0,ha,hq,hf⟩:=spreadB_iff.1 h;unfold partN
 split
 ·unfold Qah;omega
 ·obtain ⟨p1,p2⟩:=part_is (am:=am) (pr:=pr) (k:=pe - fs) hq.1 (by omega)
  by_cases hs:0<am
  ·have:=p1 hs;omega
  ·have:=p2 (by omega);omega
theorem pl_zero (p:Pn) (n:Int) (h:-Qah≤n∧n≤Qah):0<(Qe1 p n).length∧(Qe1 p n).length≤20∧Qa7 Qah (Qe1 p n)∧∀ y∈QaN (Qe1 p n),y.amt=0:=by
 refine ⟨by simp [Qe1],by simp [Qe1],?_,?_⟩
 ·intro x hx;simp only [Qe1,List.mem_cons,List.not_mem_nil,or_false] at hx;rcases hx with rfl | rfl
  ·exact h
  ·show -Qah≤-n∧-n≤Qah;omega
 ·have key:∀ p':Ln→Bool,KeyP p'→tot p' ((Qe1 p n).map Qb7)=0:=fun p' hp=>by
   have e:(Qe1 p n).map Qb7=[Qb7 ⟨p.src,p.cur,n⟩]++[Qb7 ⟨p.src,p.cur,n⟩].map turnL:=rfl;rw [e,Qd3,QgG hp];omega
  exact QgB.2 key
theorem plTo_mem {en pe:Int} {l:List Pn} {n:Nat} {x:Ep} (h:x∈plTo en pe l n):∃ k,k<n∧x.lns=Qe1 (l.getD k pn0) (partN (l.getD k pn0).amt (l.getD k pn0).fst (l.getD k pn0).per pe):=by
 obtain ⟨k,hk,hx⟩:=List.mem_flatMap.1 h;refine ⟨k,List.mem_range.1 hk,?_⟩;unfold plE at hx;split at hx
 ·rw [List.mem_singleton] at hx;subst hx;rfl
 ·cases hx
theorem pl_even {c:List Ac} {l:List Pn} {en pe:Int} (h:Qci c l en pe=0) {L:List Je} (hL:L.map Je.ep=plTo en pe l l.length):∀ x∈L,0<x.lns.length∧x.lns.length≤20∧Qa7 Qah x.lns∧∀ y∈QaN x.lns,y.amt=0:=fun x hx=>by
 have hm:x.ep∈plTo en pe l l.length:=by rw [← hL];exact List.mem_map_of_mem hx
 obtain ⟨k,hk,e⟩:=plTo_mem hm;have e':x.lns=_:=e;unfold Qci at h;split at h
 ·contradiction
 ·rename_i h1;split at h
  ·omega
  ·rename_i h2;have h2':Qav en 12=true∧Qav pe 120=true:=by simpa using h2
   obtain ⟨_,_,p3⟩:=Qg7 (Decidable.of_not_not h1);obtain ⟨_,_,q3,_⟩:=pnBad_ok (p3 k hk);rw [e'];exact pl_zero _ _ (part_most q3 h2'.2)
end
section
open Go.RowKit Go.Lib Go.Maps Math Go.Proofs.Tryz
end
section
open Go.RowKit Go.Lib Go.Proofs.Tryz
end
end Go.Proofs.YtjifbbdkpanagaaGreatDoor
