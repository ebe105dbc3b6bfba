/-
  Part of a proof (see the last text).
-/
import Derived.Test.YtjdjfpkjikdkoaaGreatDoorZs8
import Derived.Shelf.Abstract
set_option linter.unusedVariables false
set_option linter.unusedSimpArgs false
set_option maxRecDepth 100000
namespace Go.Proofs.YtjdjfpkjikdkoaaGreatDoor
open Go.RowKit Go.Lib
theorem swp_get (l:List Int) (i j q:Nat) (hi:i<l.length) (hj:j<l.length):(swp l i j).getD q 0=if q=j then l.getD i 0 else if q=i then l.getD j 0 else l.getD q 0:=by
 unfold swp
 by_cases h1:q=j
 ·subst h1
  rw [if_pos rfl,List.getD_eq_getElem?_getD,List.getElem?_set_self (by simpa using hj)]
  rfl
 ·rw [if_neg h1,List.getD_eq_getElem?_getD,List.getElem?_set_ne (fun e=>h1 e.symm)]
  by_cases h2:q=i
  ·subst h2
   rw [if_pos rfl,List.getElem?_set_self hi]
   rfl
  ·rw [if_neg h2,List.getElem?_set_ne (fun e=>h2 e.symm),← List.getD_eq_getElem?_getD]
theorem swapR_get (l:List Int) (a b:Nat):∀ (n:Nat),a+n≤b→b+n≤l.length→∀ q,(swapR l a b n).getD q 0=if a≤q∧q<a+n then l.getD (q - a+b) 0 else if b≤q∧q<b+n then l.getD (q - b+a) 0 else l.getD q 0
 | 0,h1,h2,q=>by
  rw [if_neg (by omega),if_neg (by omega)]
  rfl
 | n+1,h1,h2,q=>by
  have ih:=swapR_get l a b n (by omega) (by omega)
  rw [swapR,swp_get _ _ _ _ (by rw [swapR_length];omega) (by rw [swapR_length];omega),ih,ih,ih]
  by_cases e1:q=b+n
  ·subst e1
   rw [if_pos rfl,if_neg (by omega),if_neg (by omega),if_neg (by omega),if_pos (by omega)]
   congr 1
   omega
  ·rw [if_neg e1]
   by_cases e2:q=a+n
   ·subst e2
    rw [if_pos rfl,if_neg (by omega),if_neg (by omega),if_pos (by omega)]
    congr 1
    omega
   ·rw [if_neg e2]
    by_cases e3:a≤q∧q<a+n
    ·rw [if_pos e3,if_pos (by omega)]
    ·rw [if_neg e3,if_neg (show ¬ (a≤q∧q<a+(n+1)) by omega)]
     by_cases e4:b≤q∧q<b+n
     ·rw [if_pos e4,if_pos (by omega)]
     ·rw [if_neg e4,if_neg (show ¬ (b≤q∧q<b+(n+1)) by omega)]
theorem getD_app (x y:List Int) (q:Nat):(x++y).getD q 0=if q<x.length then x.getD q 0 else y.getD (q - x.length) 0:=by
 by_cases h:q<x.length
 ·rw [if_pos h,List.getD_eq_getElem?_getD,List.getElem?_append_left h,← List.getD_eq_getElem?_getD]
 ·rw [if_neg h,List.getD_eq_getElem?_getD,List.getElem?_append_right (by omega),← List.getD_eq_getElem?_getD]
theorem ext_getD {x y:List Int} (hl:x.length=y.length) (h:∀ q,q<x.length→x.getD q 0=y.getD q 0):x=y:=by
 apply List.ext_getElem hl
 intro i h1 h2
 have:=h i h1
 rwa [List.getD_eq_getElem?_getD,List.getD_eq_getElem?_getD,List.getElem?_eq_getElem h1,List.getElem?_eq_getElem h2] at this
theorem swapR_parts (A x q y Z:List Int) (h:x.length=y.length):swapR (A++(x++(q++(y++Z)))) A.length (A.length+x.length+q.length) x.length=A++(y++(q++(x++Z))):=by
 apply ext_getD
 ·rw [swapR_length];simp;omega
 ·intro i hi
  rw [swapR_length] at hi
  simp only [List.length_append] at hi
  rw [swapR_get _ _ _ _ (by omega) (by simp only [List.length_append];omega)]
  simp only [getD_app]
  by_cases h1:i<A.length
  ·rw [if_neg (by omega),if_neg (by omega),if_pos h1,if_pos h1]
  ·by_cases h2:i<A.length+x.length
   ·rw [if_pos (by omega),if_neg (by omega),if_neg (by omega),if_neg (by omega),if_pos (by omega),if_neg h1,if_pos (by omega)]
    congr 1
    omega
   ·by_cases h3:i<A.length+x.length+q.length
    ·rw [if_neg (by omega),if_neg (by omega),if_neg h1,if_neg (by omega),if_pos (by omega),if_neg h1,if_neg (by omega),if_pos (by omega)]
     congr 1
     omega
    ·by_cases h4:i<A.length+x.length+q.length+x.length
     ·rw [if_neg (by omega),if_pos (by omega),if_neg (by omega),if_pos (by omega),if_neg h1,if_neg (by omega),if_neg (by omega),if_pos (by omega)]
      congr 1
      omega
     ·rw [if_neg (by omega),if_neg (by omega),if_neg h1,if_neg (by omega),if_neg (by omega),if_neg (by omega),if_neg h1,if_neg (by omega),if_neg (by omega),if_neg (by omega)]
      congr 1
      omega
def RotSt (wr w:World) (g L m i j:Nat) (F:List Int):Prop:=∃ A u v Z:List Int,NRow wr g (A++(u++(v++Z)))∧(A++(u++(v++Z))).length=L∧A.length+i=m∧u.length=i∧v.length=j∧A++(v++(u++Z))=F∧But g w wr
theorem RotSt.more {wr w:World} {g L m i j:Nat} {F:List Int} (h:RotSt wr w g L m i j F) (hij:j<i) (f:Value) (cap:Nat) (hL:L≤1000000) :
  Calls Tryz.prog 228 #[.slice (some ⟨g,0,none⟩) L cap,.int .i64 ((m:Int) - i),.int .i64 (m:Int),.int .i64 (j:Int),f] wr fun e w'=>e=.returned (.tuple #[])∧Hid (RotSt w' w g L m (i - j) j F):=by
 obtain ⟨A,u,v,Z,hr,hl,hA,hu,hv,hF,hB⟩:=h
 have hu2:u=u.take j++u.drop j:=(List.take_append_drop j u).symm
 have e1:A++(u++(v++Z))=A++(u.take j++(u.drop j++(v++Z))):=by rw [← List.append_assoc (u.take j),List.take_append_drop]
 rw [e1] at hr hl
 have c:=swapRange_any g cap A.length m j _ f wr hr (by omega) (by simp only [List.length_append] at hl ⊢;omega) (by simp only [List.length_append,List.length_take,List.length_drop] at hl ⊢;omega)
 rw [hl] at c
 rw [show (A.length:Int)=(m:Int) - i by omega] at c
 refine c.mono ?_
 rintro e w' ⟨rfl,h2⟩
 obtain ⟨h3,h4⟩:=h2.out
 have hx:(u.take j).length=j:=by rw [List.length_take];omega
 have sp:=swapR_parts A (u.take j) (u.drop j) v Z (by rw [hx,hv])
 rw [hx] at sp
 have em:A.length+j+(u.drop j).length=m:=by rw [List.length_drop];omega
 rw [em] at sp
 rw [sp] at h3
 refine ⟨rfl,A++v,u.drop j,u.take j,Z,?_,?_,?_,?_,hx,?_,hB.trans h4⟩
 ·rw [List.append_assoc];exact h3
 ·rw [List.append_assoc]
  simp only [List.length_append] at hl ⊢
  omega
 ·rw [List.length_append];omega
 ·rw [List.length_drop];omega
 ·rw [← hF,List.append_assoc,← List.append_assoc (u.take j),List.take_append_drop]
theorem RotSt.less {wr w:World} {g L m i j:Nat} {F:List Int} (h:RotSt wr w g L m i j F) (hij:i<j) (f:Value) (cap:Nat) (hL:L≤1000000) :
  Calls Tryz.prog 228 #[.slice (some ⟨g,0,none⟩) L cap,.int .i64 ((m:Int) - i),.int .i64 ((m:Int)+j - i),.int .i64 (i:Int),f] wr fun e w'=>e=.returned (.tuple #[])∧Hid (RotSt w' w g L m i (j - i) F):=by
 obtain ⟨A,u,v,Z,hr,hl,hA,hu,hv,hF,hB⟩:=h
 have e1:A++(u++(v++Z))=A++(u++(v.take (j - i)++(v.drop (j - i)++Z))):=by rw [← List.append_assoc (v.take (j - i)),List.take_append_drop]
 rw [e1] at hr hl
 have c:=swapRange_any g cap A.length (m+j - i) i _ f wr hr (by omega) (by simp only [List.length_append] at hl ⊢;omega) (by simp only [List.length_append,List.length_take,List.length_drop] at hl ⊢;omega)
 rw [hl] at c
 rw [show (A.length:Int)=(m:Int) - i by omega,show ((m+j - i:Nat):Int)=(m:Int)+j - i by omega] at c
 refine c.mono ?_
 rintro e w' ⟨rfl,h2⟩
 obtain ⟨h3,h4⟩:=h2.out
 have hx:(v.drop (j - i)).length=i:=by rw [List.length_drop];omega
 have sp:=swapR_parts A u (v.take (j - i)) (v.drop (j - i)) Z (by rw [hx,hu])
 rw [hu] at sp
 have em:A.length+i+(v.take (j - i)).length=m+j - i:=by rw [List.length_take];omega
 rw [em] at sp
 rw [sp] at h3
 refine ⟨rfl,A,v.drop (j - i),v.take (j - i),u++Z,h3,?_,hA,hx,?_,?_,hB.trans h4⟩
 ·simp only [List.length_append] at hl ⊢
  omega
 ·rw [List.length_take];omega
 ·rw [← hF,← List.append_assoc (v.take (j - i)),List.take_append_drop]
theorem RotSt.last {wr w:World} {g L m i:Nat} {F:List Int} (h:RotSt wr w g L m i i F) (f:Value) (cap:Nat) (hL:L≤1000000) :
  Calls Tryz.prog 228 #[.slice (some ⟨g,0,none⟩) L cap,.int .i64 ((m:Int) - i),.int .i64 (m:Int),.int .i64 (i:Int),f] wr fun e w'=>e=.returned (.tuple #[])∧Hid (NRow w' g F∧But g w w'):=by
 obtain ⟨A,u,v,Z,hr,hl,hA,hu,hv,hF,hB⟩:=h
 have c:=swapRange_any g cap A.length m i _ f wr hr (by omega) (by simp only [List.length_append] at hl ⊢;omega) (by simp only [List.length_append] at hl ⊢;omega)
 rw [hl] at c
 rw [show (A.length:Int)=(m:Int) - i by omega] at c
 refine c.mono ?_
 rintro e w' ⟨rfl,h2⟩
 obtain ⟨h3,h4⟩:=h2.out
 have sp:=swapR_parts A u [] v Z (by rw [hu,hv])
 rw [hu] at sp
 simp only [List.nil_append,List.length_nil,Nat.add_zero] at sp
 rw [hA] at sp
 rw [sp,hF] at h3
 exact ⟨rfl,h3,hB.trans h4⟩
set_option maxHeartbeats 4000000 in
theorem rotate_any (g cap:Nat) (A u v Z:List Int) (f:Value) (w:World) (h:NRow w g (A++(u++(v++Z)))) (hl:(A++(u++(v++Z))).length≤1000000) (hu:0<u.length) (hv:0<v.length) :
  Calls Tryz.prog 226 #[.slice (some ⟨g,0,none⟩) (A++(u++(v++Z))).length cap,.int .i64 (A.length:Int),.int .i64 ((A.length+u.length:Nat):Int),.int .i64 ((A.length+u.length+v.length:Nat):Int),f] w fun e w'=>e=.returned (.tuple #[])∧Hid (NRow w' g (A++(v++(u++Z)))∧But g w w'):=by
 have HS:Hid (RotSt w w g (A++(u++(v++Z))).length (A.length+u.length) u.length v.length (A++(v++(u++Z)))):=⟨A,u,v,Z,h,rfl,rfl,rfl,rfl,rfl,But.refl _ _⟩
 have hm:A.length+u.length+v.length≤(A++(u++(v++Z))).length:=by simp only [List.length_append];omega
 clear h
 generalize (A++(u++(v++Z))).length=L at *
 generalize A++(v++(u++Z))=F at *
 obtain ⟨m,hmm⟩:∃ m,A.length+u.length=m:=⟨_,rfl⟩
 rw [hmm] at HS hm ⊢
 obtain ⟨i0,hi0⟩:∃ i0,u.length=i0:=⟨_,rfl⟩
 obtain ⟨j0,hj0⟩:∃ j0,v.length=j0:=⟨_,rfl⟩
 rw [hi0] at HS hu hmm
 rw [hj0] at HS hv hm ⊢
 have e1:(A.length:Int)=(m:Int) - i0:=by omega
 rw [e1]
 have s1:(m:Int) - ((m:Int) - i0)=i0:=by omega
 have s2:(m:Int)+j0 - m=j0:=by omega
 have mL:(m:Int)≤1000000:=by omega
 have jL:(m:Int)+j0≤1000000:=by omega
 rw [show ((m+j0:Nat):Int)=(m:Int)+j0 by omega]
 have im:(i0:Int)≤m:=by omega
 have Him:Hid (m+j0≤L∧L≤1000000∧i0≤m):=⟨hm,hl,by omega⟩
 have i00:(0:Int)≤i0:=by omega
 clear e1 hmm hi0 hj0
 go_enter Tryz.func226,Tryz.ntmps226
 go_wp2
 go_loopw [10,11] (fun ti tj wr=>∃ i j:Nat,0<i∧0<j∧i≤m∧m+j≤L∧ti=.int .i64 i∧tj=.int .i64 j∧Hid (RotSt wr w g L m i j F)) (fun ti tj _=>(RowKit.intOf ti).toNat+(RowKit.intOf tj).toNat)
 case atStart=>exact ⟨i0,j0,hu,hv,Him.out.2.2,Him.out.1,by first | rfl | simp [s1],by first | rfl | simp [s2],HS⟩
 case round=>
  obtain ⟨i,j,hi,hj,him,hjL,rfl,rfl,H⟩:=hrel
  have i1:(i:Int)≤m:=by omega
  have i2:(0:Int)≤i:=by omega
  have j1:(m:Int)+j≤1000000:=by have:=Him.out.2.1;omega
  have j2:(0:Int)≤j:=by omega
  clear s1 s2
  by_cases hij:i=j
  ·subst hij
   have HC:Hid (Calls _ _ _ _ _):=H.out.last f cap Him.out.2.1
   have hne:((i:Int) != (i:Int))=false:=by simp
   go_wp2_with fail
   refine HC.out.mono ?_
   rintro e w' ⟨rfl,hh⟩
   go_wp2
   go_end0
   exact ⟨rfl,hh⟩
  ·have hne:((i:Int) == (j:Int))=false:=by rw [beq_eq_false_iff_ne];omega
   by_cases hgt:j<i
   ·have HC:Hid (Calls _ _ _ _ _):=H.out.more hgt f cap Him.out.2.1
    have hg1:(j:Int)<i:=by omega
    go_wp2_with fail
    refine HC.out.mono ?_
    rintro e w' ⟨rfl,hh⟩
    go_wp2_with fail
    refine ⟨⟨i - j,j,by omega,hj,by omega,hjL,by congr 1;omega,rfl,hh⟩,?_⟩
    simp [RowKit.intOf];omega
   ·have HC:Hid (Calls _ _ _ _ _):=H.out.less (by omega) f cap Him.out.2.1
    have hg1:¬ (j:Int)<i:=by omega
    have hg2:(i:Int)≤j:=by omega
    go_wp2_with fail
    refine HC.out.mono ?_
    rintro e w' ⟨rfl,hh⟩
    go_wp2_with fail
    refine ⟨⟨i,j - i,hi,by omega,him,by omega,rfl,by congr 1;omega,hh⟩,?_⟩
    simp [RowKit.intOf];omega
end Go.Proofs.YtjdjfpkjikdkoaaGreatDoor
namespace Go.Proofs.YtjdjfpkjikdkoaaGreatDoor
open Go.RowKit Go.Lib
def LT (cut:List Int) (i j:Nat):Prop:=cut.getD j 0<cut.getD i 0∨(cut.getD i 0=cut.getD j 0∧i<j)
theorem LT.trans {cut:List Int} {i j k:Nat} (h:LT cut i j) (h':LT cut j k):LT cut i k:=by unfold LT at *;omega
theorem cutC_neg (cut:List Int) (x y:Nat):cutC cut x y<0↔cut.getD y 0<cut.getD x 0:=by
 unfold cutC cmpN
 constructor
 ·intro h
  split at h
  ·assumption
  ·split at h <;> omega
 ·intro h
  rw [if_pos h]
  omega
def toI (l:List Nat):List Int:=l.map fun (i:Nat)=>(i:Int)
theorem toI_len (l:List Nat):(toI l).length=l.length:=by simp [toI]
theorem toI_app (a b:List Nat):toI (a++b)=toI a++toI b:=by simp [toI]
theorem toI_at (B:List Nat) (y:Nat) (R:List Nat):(toI (B++(y :: R))).getD B.length 0=(y:Int):=by
 simp [toI,List.getD_eq_getElem?_getD]
theorem adj_swap (B:List Nat) (x y:Nat) (R:List Nat):((toI (B++(x :: y :: R))).set (B.length+1) (x:Int)).set B.length (y:Int)=toI (B++(y :: x :: R)):=by
 rw [toI_app,toI_app,List.set_append_right _ _ (by rw [toI_len];omega),List.set_append_right _ _ (by rw [toI_len];omega),toI_len,show B.length+1 - B.length=1 by omega,Nat.sub_self]
 rfl
theorem put_sorted {cut:List Int} {P Q:List Nat} {x:Nat} (h:(P++Q).Pairwise (LT cut)) (hQ:∀ z∈Q,LT cut x z) (hP:∀ z∈P,LT cut z x):(P++(x :: Q)).Pairwise (LT cut):=by
 obtain ⟨h1,h2,h3⟩:=List.pairwise_append.1 h
 rw [List.pairwise_append]
 refine ⟨h1,List.pairwise_cons.2 ⟨hQ,h2⟩,?_⟩
 intro a ha b hb
 rcases List.mem_cons.1 hb with rfl | hb
 ·exact hP a ha
 ·exact h3 a ha b hb
theorem all_ahead {cut:List Int} {P:List Nat} {x y:Nat} (h:(P++[y]).Pairwise (LT cut)) (hy:LT cut y x):∀ z∈P++[y],LT cut z x:=by
 intro z hz
 rcases List.mem_append.1 hz with hz | hz
 ·exact ((List.pairwise_append.1 h).2.2 z hz y (by simp)).trans hy
 ·rw [List.mem_singleton.1 hz];exact hy
end Go.Proofs.YtjdjfpkjikdkoaaGreatDoor
namespace Go.Proofs.YtjdjfpkjikdkoaaGreatDoor
open Go.RowKit Go.Lib
def byF (cb:Nat):Value:=.func (.func 177) #[] #[.pointer (some ⟨cb,0,none⟩)]
theorem insSort_none (g cap L a:Nat) (f:Value) (w:World) (ha:a≤1000000) :
  Calls Tryz.prog 219 #[.slice (some ⟨g,0,none⟩) L cap,.int .i64 (a:Int),.int .i64 (a:Int),f] w fun e w'=>e=.returned (.tuple #[])∧w'=w:=by
 have a1:(a:Int)≤1000000:=by omega
 have a2:(0:Int)≤a:=by omega
 go_enter Tryz.func219,Tryz.ntmps219
 go_wp2
 refine wp_loop_rounds 1 ?_
 rw [rounds_succ]
 go_wp2
 go_end0
 exact ⟨rfl,rfl⟩
def InsSt (wq w:World) (g:Nat) (cut:List Int) (A T R:List Nat) (x q:Nat):Prop:=∃ P Q:List Nat,P.length=q∧P++Q=T∧(∀ z∈Q,LT cut x z)∧NRow wq g (toI (A++(P++(x :: (Q++R)))))∧But g w wq
theorem ins_done {cut:List Int} {s T P Q:List Nat} {x k:Nat} (hT1:T.Perm (s.take k)) (hT2:T.Pairwise (LT cut)) (hPQ:P++Q=T) (htk:s.take (k+1)=s.take k++[x]) (hQx:∀ z∈Q,LT cut x z) (hPx:∀ z∈P,LT cut z x) :
  (P++(x :: Q)).Perm (s.take (k+1))∧(P++(x :: Q)).Pairwise (LT cut):=by
 subst hPQ
 refine ⟨?_,put_sorted hT2 hQx hPx⟩
 rw [htk]
 refine List.perm_middle.trans ?_
 refine (List.Perm.cons x hT1).trans ?_
 exact (List.perm_append_singleton x _).symm
theorem But.drewN {g:Nat} {A B:World} (h:But g A B) (n:Nat):But g A (B.drewN n):=h.trans ⟨rfl,rfl,rfl,rfl,fun _ _=>rfl⟩
set_option maxHeartbeats 8000000 in
theorem insSort_any (g cap cb gc ccap:Nat) (cut:List Int) (A s Z:List Nat) (w:World) (h:NRow w g (toI (A++(s++Z)))) (hl:(A++(s++Z)).length≤1000000) (hc:CutAt w cb gc cut ccap) (h1:cb≠g) (h2:gc≠g) (hb:∀ z∈s,z<cut.length) (hs:s.Pairwise (·<·)) (hne:0<s.length) :
  Calls Tryz.prog 219 #[.slice (some ⟨g,0,none⟩) (A++(s++Z)).length cap,.int .i64 (A.length:Int),.int .i64 ((A.length+s.length:Nat):Int),byF cb] w fun e w'=>e=.returned (.tuple #[])∧Hid (∃ s':List Nat,s'.Perm s∧s'.Pairwise (LT cut)∧NRow w' g (toI (A++(s'++Z)))∧But g w w'):=by
 have H0:Hid (∃ T:List Nat,T.Perm (s.take 1)∧T.Pairwise (LT cut)∧NRow w g (toI (A++(T++(s.drop 1++Z))))∧But g w w):=by
  refine ⟨s.take 1,List.Perm.refl _,?_,?_,But.refl _ _⟩
  ·rcases s with _ | ⟨y,ys⟩
   ·simp
   ·simp
  ·rw [← List.append_assoc (s.take 1),List.take_append_drop];exact h
 have HCu:Hid (∀ W,But g w W→∀ x y,x<cut.length→y<cut.length→Calls Tryz.prog 177 #[.int .i64 (x:Int),.int .i64 (y:Int),.pointer (some ⟨cb,0,none⟩)] W fun e w'=>e=.returned (.int .i64 (cutC cut x y))∧∃ k,w'=W.drewN k):=fun W hW x y hx hy=>byCut1_any x y cb gc cut ccap W (hc.but hW h1 h2) hx hy
 have HB:Hid (∀ z∈s,z<cut.length):=hb
 have HS:Hid (s.Pairwise (·<·)):=hs
 obtain ⟨L,hL⟩:∃ L,(A++(s++Z)).length=L:=⟨_,rfl⟩
 rw [hL] at hl ⊢
 have hLs:A.length+s.length≤L:=by rw [← hL];simp only [List.length_append];omega
 rw [show ((A.length+s.length:Nat):Int)=(A.length:Int)+s.length by omega]
 obtain ⟨a,ha⟩:∃ a,A.length=a:=⟨_,rfl⟩
 rw [ha] at hLs ⊢
 have a0:(0:Int)≤a:=by omega
 have aL:(a:Int)+s.length≤L:=by omega
 have lL:(L:Int)≤1000000:=by omega
 have Hlen:Hid (∀ X:List Nat,X.length=s.length→(A++(X++Z)).length=L):=fun X hX=>by rw [← hL];simp only [List.length_append];omega
 have s0:(0:Int)≤s.length:=by omega
 have HA:Hid (A.length=a):=ha
 clear h hc hb hs hL ha
 unfold byF
 go_enter Tryz.func219,Tryz.ntmps219
 go_wp2
 go_loopw [8] (fun t wr=>∃ k:Nat,1≤k∧k≤s.length∧t=.int .i64 ((a:Int)+k)∧Hid (∃ T:List Nat,T.Perm (s.take k)∧T.Pairwise (LT cut)∧NRow wr g (toI (A++(T++(s.drop k++Z))))∧But g w wr)) (fun t _=>a+s.length - (RowKit.intOf t).toNat)
 case atStart=>exact ⟨1,by omega,by omega,by first | rfl | simp,H0⟩
 case round=>
  obtain ⟨k,hk1,hk,rfl,H⟩:=hrel
  obtain ⟨T,hT1,hT2,hR,hBt⟩:=H.out
  by_cases hlt:k<s.length
  ·have k1:(k:Int)<s.length:=by omega
   have k2:(a:Int)+k<(a:Int)+s.length:=by omega
   have k3:(0:Int)≤k:=by omega
   have hTl:T.length=k:=by rw [hT1.length_eq,List.length_take];omega
   obtain ⟨x,hx⟩:∃ x,s[k]=x:=⟨_,rfl⟩
   have hxs:x∈s:=by rw [← hx];exact List.getElem_mem hlt
   have hdr:s.drop k=x :: s.drop (k+1):=by rw [List.drop_eq_getElem_cons hlt,hx]
   rw [hdr] at hR
   have hTm:∀ z∈T,z<x∧z<cut.length:=fun z hz=>by
    have hz':z∈s.take k:=hT1.mem_iff.1 hz
    refine ⟨?_,HB.out z (List.mem_of_mem_take hz')⟩
    have hp:=HS.out
    rw [← List.take_append_drop k s,hdr] at hp
    exact (List.pairwise_append.1 hp).2.2 z hz' x (by simp)
   have hxc:x<cut.length:=HB.out x hxs
   have HI:Hid (InsSt wr w g cut A T (s.drop (k+1)++Z) x k):=⟨T,[],hTl,by simp,by simp,hR,hBt⟩
   have HT1:Hid (T.Perm (s.take k)):=hT1
   have HT2:Hid (T.Pairwise (LT cut)):=hT2
   have HTm:Hid (∀ z∈T,z<x∧z<cut.length):=hTm
   have Htk:Hid (s.take (k+1)=s.take k++[x]):=by
    unfold Hid
    rw [List.take_add_one,List.getElem?_eq_getElem hlt,hx];rfl
   have HLL:Hid (∀ P Q:List Nat,P++Q=T→(A++(P++(x :: (Q++(s.drop (k+1)++Z))))).length=L):=fun P Q hPQ=>by
    have:=Hlen.out (P++(x :: (Q++s.drop (k+1)))) (by
     have h3:=congrArg List.length hPQ
     simp only [List.length_append,List.length_cons,List.length_drop] at h3 ⊢
     omega)
    rw [← this]
    simp only [List.length_append,List.length_cons]
    omega
   clear hT1 hT2 hR hBt H hTm hdr hxs hTl
   go_wp2
   go_loopw [9] (fun t wq=>∃ q:Nat,q≤k∧t=.int .i64 ((a:Int)+q)∧Hid (InsSt wq w g cut A T (s.drop (k+1)++Z) x q)) (fun t _=>(RowKit.intOf t).toNat)
   case atStart=>exact ⟨k,Nat.le_refl _,rfl,HI⟩
   case round=>
    rename World=>wq
    obtain ⟨q,hq,rfl,HQ⟩:=hrel
    obtain ⟨P,Q,hPl,hPQ,hQx,hRow,hBq⟩:=HQ.out
    have q0:(0:Int)≤q:=by omega
    have q1:(q:Int)≤k:=by omega
    rcases List.eq_nil_or_concat P with hP | ⟨P',y,hP⟩
    ·subst hP
     have eq0:q=0:=by rw [← hPl];rfl
     subst eq0
     obtain ⟨d1,d2⟩:=ins_done HT1.out HT2.out hPQ Htk.out hQx (by simp)
     have hd0:decide ((a:Int)<(a:Int)+(0:Nat))=false:=decide_eq_false (by omega)
     have HE:Hid (∃ T:List Nat,T.Perm (s.take (k+1))∧T.Pairwise (LT cut)∧NRow wq g (toI (A++(T++(s.drop (k+1)++Z))))∧But g w wq):=⟨_,d1,d2,by simpa using hRow,hBq⟩
     clear d1 d2 hRow hBq hQx HQ
     go_wp2
     go_quiet (fail)
     rename Nat=>nk
     have HE2:Hid (∃ T:List Nat,T.Perm (s.take (k+1))∧T.Pairwise (LT cut)∧NRow (wq.drewN nk) g (toI (A++(T++(s.drop (k+1)++Z))))∧But g w (wq.drewN nk)):=by
      obtain ⟨T',e1,e2,e3,e4⟩:=HE.out
      exact ⟨T',e1,e2,e3,e4.drewN nk⟩
     clear HE
     go_wp2
     refine ⟨⟨k+1,by omega,by omega,by first | (congr 1;omega) | (congr 1),HE2⟩,?_⟩
     simp [RowKit.intOf];omega
    ·rw [List.concat_eq_append] at hP
     subst hP
     obtain ⟨p,hp⟩:∃ p,P'.length=p:=⟨_,rfl⟩
     have hqp:q=p+1:=by rw [← hPl,List.length_append,hp];rfl
     subst hqp
     have hyT:y∈T:=by rw [← hPQ];simp
     obtain ⟨hyx,hyc⟩:=HTm.out y hyT
     have hLL:=HLL.out _ _ hPQ
     have hsh:A++((P'++[y])++(x :: (Q++(s.drop (k+1)++Z))))=(A++P')++(y :: x :: (Q++(s.drop (k+1)++Z))):=by simp
     rw [hsh] at hRow hLL
     have hAP:(A++P').length=a+p:=by rw [List.length_append,HA.out,hp]
     have hlen2:(toI ((A++P')++(y :: x :: (Q++(s.drop (k+1)++Z))))).length=L:=by rw [toI_len];exact hLL
     have hapL:a+p+2≤L:=by rw [← hLL];simp only [List.length_append,List.length_cons] at hAP ⊢;omega
     have cy:wq.cell? ⟨g,a+p,none⟩=some (.int .i64 (y:Int)):=by
      have:=hRow.cell (i:=a+p) (by omega)
      rw [← hAP,toI_at] at this
      rw [← hAP];exact this
     have cx:wq.cell? ⟨g,a+p+1,none⟩=some (.int .i64 (x:Int)):=by
      have:=hRow.cell (i:=a+p+1) (by omega)
      rw [show (A++P')++(y :: x :: (Q++(s.drop (k+1)++Z)))=((A++P')++[y])++(x :: (Q++(s.drop (k+1)++Z))) by simp] at this
      have e2:a+p+1=((A++P')++[y]).length:=by rw [List.length_append,hAP];rfl
      rw [e2,toI_at] at this
      rw [e2];exact this
     have hdec:decide ((a:Int)<(a:Int)+((p+1:Nat):Int))=true:=decide_eq_true (by omega)
     have HCc:Hid (Calls _ _ _ _ _):=HCu.out wq.drew hBq.drew x y hxc hyc
     have i1:(0:Int)≤(a:Int)+((p+1:Nat):Int):=by omega
     have i2:(a:Int)+((p+1:Nat):Int)<L:=by omega
     have i3:(0:Int)≤(a:Int)+((p+1:Nat):Int) - 1:=by omega
     have i4:(a:Int)+((p+1:Nat):Int) - 1<L:=by omega
     have t1:((a:Int)+((p+1:Nat):Int)).toNat=a+p+1:=by omega
     have t2:((a:Int)+((p+1:Nat):Int) - 1).toNat=a+p:=by omega
     have wr1:IntKind.i64.wrap ((a:Int)+((p+1:Nat):Int) - 1)=(a:Int)+((p+1:Nat):Int) - 1:=by rw [IntKind.wrap_i64];omega
     obtain ⟨J,hJ⟩:∃ J:Int,(a:Int)+((p+1:Nat):Int)=J:=⟨_,rfl⟩
     rw [hJ] at hdec i1 i2 i3 i4 t1 t2 wr1 ⊢
     have HJ:Hid ((a:Int)+((p+1:Nat):Int)=J):=hJ
     obtain ⟨M,hM⟩:∃ M:Int,J - 1=M:=⟨_,rfl⟩
     have wr1':IntKind.i64.wrap (J - 1)=M:=wr1.trans hM
     rw [hM] at i3 i4 t2
     clear wr1
     have HM:Hid (J - 1=M):=hM
     clear hM
     have cxd:wq.drew.cell? ⟨g,a+p+1,none⟩=some (.int .i64 (x:Int)):=cx
     have cyd:wq.drew.cell? ⟨g,a+p,none⟩=some (.int .i64 (y:Int)):=cy
     clear hJ hsh
     have HCx:Hid (∀ n,(wq.drewN n).cell? ⟨g,a+p+1,none⟩=some (.int .i64 (x:Int))∧(wq.drewN n).cell? ⟨g,a+p,none⟩=some (.int .i64 (y:Int))):=fun n=>⟨cx,cy⟩
     have HRow:Hid (NRow wq g _):=hRow
     have HBq:Hid (But g w wq):=hBq
     have HAP:Hid ((A++P').length=a+p):=hAP
     by_cases hless:cutC cut x y<0
     ·have hd1:decide (cutC cut x y<0)=true:=decide_eq_true hless
      have hxy:LT cut x y:=Or.inl ((cutC_neg cut x y).1 hless)
      have HE:Hid (∀ W:World,W.heap=wq.heap→But g w W→NRow W g (toI ((A++P')++(y :: x :: (Q++(s.drop (k+1)++Z)))))):=fun W hW _=>by
       unfold NRow
       rw [hW]
       exact HRow.out
      have HF:Hid (∀ W:World,NRow W g (((toI ((A++P')++(y :: x :: (Q++(s.drop (k+1)++Z))))).set (a+p+1) (y:Int)).set (a+p) (x:Int))→But g w W→InsSt W w g cut A T (s.drop (k+1)++Z) x p):=fun W hW hB=>by
       rw [← HAP.out,adj_swap] at hW
       refine ⟨P',y :: Q,hp,by rw [← hPQ];simp,?_,by simpa using hW,hB⟩
       intro z hz
       rcases List.mem_cons.1 hz with rfl | hz
       ·exact hxy
       ·exact hQx z hz
      generalize cutC cut x y=r at *
      clear hRow hBq hAP hQx HQ hxy hless cx cy
      go_wp2
      go_region_held3 (fun u=>u.cell? ⟨g,a+p+1,none⟩=some (.int .i64 (x:Int))∧u.cell? ⟨g,a+p,none⟩=some (.int .i64 (y:Int))) ((first | exact HCx.out _ | exact ⟨cxd,cyd⟩ | go_keep)) ((go_at_call 177;refine HCc.out.mono ?_;rintro e w' ⟨rfl,kk,rfl⟩))
      rename Nat=>nk
      obtain ⟨W2,hW2⟩:∃ W2,wq.drewN (1+nk)=W2:=⟨_,rfl⟩
      have hB2:But g w W2:=by rw [← hW2];exact HBq.out.drewN _
      have hR2:=HE.out W2 (by rw [← hW2];rfl) hB2
      rw [hW2]
      clear hW2 HE
      have e1:(toI ((A++P')++(y :: x :: (Q++(s.drop (k+1)++Z))))).getD (a+p+1) 0=x:=by
       rw [show (A++P')++(y :: x :: (Q++(s.drop (k+1)++Z)))=((A++P')++[y])++(x :: (Q++(s.drop (k+1)++Z))) by simp,show a+p+1=((A++P')++[y]).length by rw [List.length_append,HAP.out];rfl,toI_at]
      have e2:(toI ((A++P')++(y :: x :: (Q++(s.drop (k+1)++Z))))).getD (a+p) 0=y:=by rw [← HAP.out,toI_at]
      have ca:W2.drew.cell? ⟨g,a+p+1,none⟩=some (.int .i64 (x:Int)):=by rw [← e1];exact hR2.cell (by omega)
      have cb2:W2.drew.cell? ⟨g,a+p,none⟩=some (.int .i64 (y:Int)):=by rw [← e2];exact hR2.cell (by omega)
      have fa:W2.drew.frozen? ⟨g,a+p+1,none⟩=false:=hR2.frozen _
      have R1:NRow (W2.drew.setCell ⟨g,a+p+1,none⟩ (.int .i64 (y:Int))) g _:=(show NRow W2.drew g _ from hR2).set (a+p+1) _
      have cb1:=R1.cell (i:=a+p) (by rw [List.length_set];omega)
      have fb1:=R1.frozen (a+p)
      have R2:=R1.set (a+p) (x:Int)
      have HR2:Hid (InsSt ((W2.drew.setCell ⟨g,a+p+1,none⟩ (.int .i64 (y:Int))).setCell ⟨g,a+p,none⟩ (.int .i64 (x:Int))) w g cut A T (s.drop (k+1)++Z) x p):=HF.out _ R2 ((hB2.drew.set (a+p+1) _).set (a+p) _)
      generalize (((toI ((A++P')++(y :: x :: (Q++(s.drop (k+1)++Z))))).set (a+p+1) (y:Int)).getD (a+p) 0)=z0 at *
      clear R1 R2 hR2 hB2 e1 e2 HF HCx HRow HBq HAP
      go_wp2
      refine wp_region_drawn (by kernel_rfl) ?_
      refine wpAny_take (i:=0) (v:=.slice (some ⟨g,0,none⟩) L cap) rfl (by kernel_rfl) (by kernel_rfl) (by kernel_rfl) (fun _ _ _ h=>h) (Or.inl ⟨by rfl,fun w=>by go_simp⟩) ?_
      simp only [Act.put,zq0,zq1,zq2,zq3,zq4,zq5]
      refine wpAny_take (i:=1) (v:=.int .i64 J) rfl (by kernel_rfl) (by kernel_rfl) (by kernel_rfl) (fun _ _ _ h=>h) (Or.inl ⟨by rfl,fun w=>by go_simp⟩) ?_
      simp only [Act.put,zq0,zq1,zq2,zq3,zq4,zq5]
      refine wpAny_take (i:=2) (v:=.slice (some ⟨g,0,none⟩) L cap) rfl (by kernel_rfl) (by kernel_rfl) (by kernel_rfl) (fun _ _ _ h=>h) (Or.inl ⟨by rfl,fun w=>by go_simp⟩) ?_
      simp only [Act.put,zq0,zq1,zq2,zq3,zq4,zq5]
      refine wpAny_take (i:=3) (v:=.int .i64 J) rfl (by kernel_rfl) (by kernel_rfl) (by kernel_rfl) (fun _ _ _ h=>h) (Or.inl ⟨by rfl,fun w=>by go_simp⟩) ?_
      simp only [Act.put,zq0,zq1,zq2,zq3,zq4,zq5]
      refine wpAny_take (i:=4) (v:=.int .i64 M) rfl (by kernel_rfl) (by kernel_rfl) (by kernel_rfl) (fun _ _ _ h=>h) (Or.inl ⟨by rfl,fun w=>by go_simp⟩) ?_
      simp only [Act.put,zq0,zq1,zq2,zq3,zq4,zq5]
      refine wpAny_take (i:=5) (v:=.slice (some ⟨g,0,none⟩) L cap) rfl (by kernel_rfl) (by kernel_rfl) (by kernel_rfl) (fun _ _ _ h=>h) (Or.inl ⟨by rfl,fun w=>by go_simp⟩) ?_
      simp only [Act.put,zq0,zq1,zq2,zq3,zq4,zq5]
      refine wpAny_take (i:=6) (v:=.int .i64 J) rfl (by kernel_rfl) (by kernel_rfl) (by kernel_rfl) (fun _ _ _ h=>h) (Or.inl ⟨by rfl,fun w=>by go_simp⟩) ?_
      simp only [Act.put,zq0,zq1,zq2,zq3,zq4,zq5]
      refine wpAny_take (i:=7) (v:=.int .i64 M) rfl (by kernel_rfl) (by kernel_rfl) (by kernel_rfl) (fun _ _ _ h=>h) (Or.inl ⟨by rfl,fun w=>by go_simp⟩) ?_
      simp only [Act.put,zq0,zq1,zq2,zq3,zq4,zq5]
      refine wpAny_take (i:=8) (v:=.pointer (some ⟨g,a+p,none⟩)) rfl (by kernel_rfl) (by kernel_rfl) (by kernel_rfl) (fun _ _ _ h=>h) (Or.inl ⟨by rfl,fun w=>by go_simp⟩) ?_
      simp only [Act.put,zq0,zq1,zq2,zq3,zq4,zq5]
      refine wpAny_take (i:=10) (v:=.slice (some ⟨g,0,none⟩) L cap) rfl (by kernel_rfl) (by kernel_rfl) (by kernel_rfl) (fun _ _ _ h=>h) (Or.inl ⟨by rfl,fun w=>by go_simp⟩) ?_
      simp only [Act.put,zq0,zq1,zq2,zq3,zq4,zq5]
      refine wpAny_take (i:=11) (v:=.int .i64 J) rfl (by kernel_rfl) (by kernel_rfl) (by kernel_rfl) (fun _ _ _ h=>h) (Or.inl ⟨by rfl,fun w=>by go_simp⟩) ?_
      simp only [Act.put,zq0,zq1,zq2,zq3,zq4,zq5]
      refine wpAny_take (i:=12) (v:=.pointer (some ⟨g,a+p+1,none⟩)) rfl (by kernel_rfl) (by kernel_rfl) (by kernel_rfl) (fun _ _ _ h=>h) (Or.inl ⟨by rfl,fun w=>by go_simp⟩) ?_
      simp only [Act.put,zq0,zq1,zq2,zq3,zq4,zq5]
      refine any_of_L (g:=15) (T:=fun u=>u=W2.drew) _ _ _ _ ?_
      refine L_take (i:=9) (v:=.int .i64 y) rfl rfl (by kernel_rfl) (by decide) (by kernel_rfl) (by kernel_rfl) (by kernel_rfl) (by kernel_rfl) (fun _ _ _ h=>h) (Or.inl ⟨by rfl,fun w' hw'=>by subst hw';go_simp⟩) rfl ?_
      simp only [Act.put,zq0,zq1,zq2,zq3,zq4,zq5]
      refine L_take (i:=13) (v:=.int .i64 x) rfl rfl (by kernel_rfl) (by decide) (by kernel_rfl) (by kernel_rfl) (by kernel_rfl) (by kernel_rfl) (fun _ _ _ h=>h) (Or.inl ⟨by rfl,fun w' hw'=>by subst hw';go_simp⟩) rfl ?_
      simp only [Act.put,zq0,zq1,zq2,zq3,zq4,zq5]
      refine L_take (i:=14) (v:=.pointer (some ⟨g,a+p+1,none⟩)) rfl rfl (by kernel_rfl) (by decide) (by kernel_rfl) (by kernel_rfl) (by kernel_rfl) (by kernel_rfl) (fun _ _ _ h=>h) (Or.inl ⟨by rfl,fun w' hw'=>by subst hw';go_simp⟩) rfl ?_
      simp only [Act.put,zq0,zq1,zq2,zq3,zq4,zq5]
      refine L_go (by kernel_rfl) (by kernel_rfl) ?_
      refine wpOp_step rfl ?_
      intro K hK
      rw [if_pos (by rfl)]
      have hK':Shut (∀ a w,_→K a w):=hK
      clear hK
      go_wp2
      refine hK'.out _ _ ?_
      clear hK' K
      have eW:W2.drew.setCell ⟨g,a+p+1,none⟩ (.int .i64 (y:Int))=(W2.setCell ⟨g,a+p+1,none⟩ (.int .i64 (y:Int))).drew:=rfl
      rw [eW] at cb1 fb1 HR2
      clear eW ca cb2 fa
      generalize (W2.setCell ⟨g,a+p+1,none⟩ (.int .i64 (y:Int))).drew=W1 at *
      refine any_one (i:=16) (by kernel_rfl) ?_
      refine wpOp_step rfl ?_
      intro K hK
      rw [if_pos (by rfl)]
      have hK':Shut (∀ a w,_→K a w):=hK
      clear hK
      go_wp2
      refine hK'.out _ _ ?_
      clear hK' K
      refine any_one (i:=17) (by kernel_rfl) ?_
      refine wpOp_step rfl ?_
      intro K hK
      rw [if_pos (by rfl)]
      have hK':Shut (∀ a w,_→K a w):=hK
      clear hK
      go_wp2
      refine hK'.out _ _ ?_
      clear hK' K
      refine wpAny_done (by kernel_rfl) ?_ _
      go_wp2
      go_roundw
      case rel=>exact ⟨p,by omega,by have:=HJ.out;have:=HM.out;first | (congr 1;omega) | go_num,HR2⟩
      case measure=>have:=HJ.out;have:=HM.out;simp [RowKit.intOf];omega
     ·have hd1:decide (cutC cut x y<0)=false:=decide_eq_false hless
      have hle:¬ cut.getD y 0<cut.getD x 0:=fun e=>hless ((cutC_neg cut x y).2 e)
      have hyx2:LT cut y x:=by unfold LT;omega
      have hpp:∀ z∈P'++[y],LT cut z x:=all_ahead (by have:=HT2.out;rw [← hPQ] at this;exact (List.pairwise_append.1 this).1) hyx2
      obtain ⟨d1,d2⟩:=ins_done HT1.out HT2.out hPQ Htk.out hQx hpp
      have HE:Hid (∀ W:World,W.heap=wq.heap→But g w W→∃ T:List Nat,T.Perm (s.take (k+1))∧T.Pairwise (LT cut)∧NRow W g (toI (A++(T++(s.drop (k+1)++Z))))∧But g w W):=fun W hW hB=>⟨_,d1,d2,by
       unfold NRow
       rw [hW]
       have:=HRow.out
       unfold NRow at this
       simpa using this,hB⟩
      generalize cutC cut x y=r at *
      clear hRow hBq hAP hQx HQ d1 d2 hpp hyx2 hle hless cx cy
      go_wp2
      go_region_held3 (fun u=>u.cell? ⟨g,a+p+1,none⟩=some (.int .i64 (x:Int))∧u.cell? ⟨g,a+p,none⟩=some (.int .i64 (y:Int))) ((first | exact HCx.out _ | exact ⟨cxd,cyd⟩ | go_keep)) ((go_at_call 177;refine HCc.out.mono ?_;rintro e w' ⟨rfl,kk,rfl⟩))
      rename Nat=>nk
      have HE2:Hid _:=HE.out (wq.drewN (1+nk)) rfl (HBq.out.drewN _)
      clear HE
      go_wp2
      go_roundw
      case rel=>exact ⟨k+1,by omega,by omega,by first | (congr 1;omega) | (congr 1) | go_num,HE2⟩
      case measure=>simp [RowKit.intOf];omega
  ·have ek:k=s.length:=by omega
   subst ek
   have k2:¬ (a:Int)+s.length<(a:Int)+s.length:=by omega
   have HE:Hid (∃ s':List Nat,s'.Perm s∧s'.Pairwise (LT cut)∧NRow wr g (toI (A++(s'++Z)))∧But g w wr):=by
    rw [List.take_length] at hT1
    rw [List.drop_length] at hR
    exact ⟨T,hT1,hT2,by simpa using hR,hBt⟩
   clear hT1 hT2 hR hBt H
   go_wp2
   go_end0
   exact ⟨rfl,HE⟩
end Go.Proofs.YtjdjfpkjikdkoaaGreatDoor
namespace Go.Proofs.YtjdjfpkjikdkoaaGreatDoor
open Go.RowKit Go.Lib
theorem adj_swap2 (B:List Nat) (x y:Nat) (R:List Nat):((toI (B++(x :: y :: R))).set B.length (y:Int)).set (B.length+1) (x:Int)=toI (B++(y :: x :: R)):=by
 rw [List.set_comm _ _ (by omega)]
 exact adj_swap B x y R
structure MG (cut:List Int) (u v:List Nat):Prop where
 su:u.Pairwise (LT cut)
 sv:v.Pairwise (LT cut)
 ap:∀ x∈u,∀ y∈v,x<y
 bu:∀ z∈u,z<cut.length
 bv:∀ z∈v,z<cut.length
def MOut (cut:List Int) (w w':World) (g:Nat) (A u v Z:List Nat):Prop:=∃ s':List Nat,s'.Perm (u++v)∧s'.Pairwise (LT cut)∧NRow w' g (toI (A++(s'++Z)))∧But g w w'
theorem MG.less {cut:List Int} {u v:List Nat} (h:MG cut u v) {x y:Nat} (hx:x∈u) (hy:y∈v) (hc:cutC cut y x<0):LT cut y x:=Or.inl ((cutC_neg cut y x).1 hc)
theorem MG.more {cut:List Int} {u v:List Nat} (h:MG cut u v) {x y:Nat} (hx:x∈u) (hy:y∈v) (hc:¬ cutC cut y x<0):LT cut x y:=by
 have h1:¬ cut.getD x 0<cut.getD y 0:=fun e=>hc ((cutC_neg cut y x).2 e)
 have h2:=h.ap x hx y hy
 unfold LT
 omega
theorem getD_mem0 {l:List Nat} {i:Nat} (h:i<l.length):l.getD i 0∈l:=by
 rw [List.getD_eq_getElem?_getD,List.getElem?_eq_getElem h]
 exact List.getElem_mem h
theorem getD_get0 {l:List Nat} {i:Nat} (h:i<l.length):l.getD i 0=l[i]:=by
 rw [List.getD_eq_getElem?_getD,List.getElem?_eq_getElem h];rfl
theorem take_one {l:List Nat} {i:Nat} (h:i<l.length):l.take (i+1)=l.take i++[l.getD i 0]:=by
 rw [getD_get0 h,List.take_add_one,List.getElem?_eq_getElem h];rfl
theorem drop_one {l:List Nat} {i:Nat} (h:i<l.length):l.drop i=l.getD i 0 :: l.drop (i+1):=by
 rw [getD_get0 h,List.drop_eq_getElem_cons h]
theorem take_lo {cut:List Int} {v:List Nat} {x i:Nat} (hv:v.Pairwise (LT cut)) (hi:i<v.length) (h:LT cut (v.getD i 0) x):∀ z∈v.take (i+1),LT cut z x:=by
 rw [take_one hi]
 exact all_ahead (by rw [← take_one hi];exact hv.sublist (List.take_sublist _ _)) h
theorem drop_hi {cut:List Int} {v:List Nat} {x i:Nat} (hv:v.Pairwise (LT cut)) (hi:i<v.length) (h:LT cut x (v.getD i 0)):∀ z∈v.drop i,LT cut x z:=by
 have hs:(v.drop i).Pairwise (LT cut):=hv.sublist (List.drop_sublist _ _)
 rw [drop_one hi] at hs ⊢
 intro z hz
 rcases List.mem_cons.1 hz with rfl | hz
 ·exact h
 ·exact h.trans ((List.pairwise_cons.1 hs).1 z hz)
theorem row_at (A u R:List Nat) {i:Nat} (h:i<u.length):(toI (A++(u++R))).getD (A.length+i) 0=((u.getD i 0:Nat):Int):=by
 rw [toI_app,getD_app,toI_len,if_neg (by omega),show A.length+i - A.length=i by omega,toI_app,getD_app,toI_len,if_pos h]
 simp [toI,List.getD_eq_getElem?_getD,List.getElem?_map,List.getElem?_eq_getElem h]
theorem cross {cut:List Int} {u v:List Nat} (hu:u.Pairwise (LT cut)) (hv:v.Pairwise (LT cut)) {i j:Nat} (hi:i≤u.length) (h:0<i→j<v.length→LT cut (u.getD (i - 1) 0) (v.getD j 0)):∀ x∈u.take i,∀ y∈v.drop j,LT cut x y:=by
 intro x hx y hy
 have hi0:0<i:=by rcases i with _ | i;(· simp at hx);(· omega)
 have hj:j<v.length:=by
  rcases Nat.lt_or_ge j v.length with h | h
  ·exact h
  ·rw [List.drop_eq_nil_of_le h] at hy;simp at hy
 have h0:=h hi0 hj
 have h1:=take_lo (x:=v.getD j 0) hu (show i - 1<u.length by omega) h0 x (by rw [show i - 1+1=i by omega];exact hx)
 have h2:∀ z∈v.drop j,LT cut x z:=drop_hi hv hj h1
 exact h2 y hy
theorem halves {cut:List Int} {u v s1 s2:List Nat} {i j:Nat} (hu:u.Pairwise (LT cut)) (hv:v.Pairwise (LT cut)) (h1:s1.Perm (u.take i++v.take j)) (h2:s2.Perm (u.drop i++v.drop j)) (p1:s1.Pairwise (LT cut)) (p2:s2.Pairwise (LT cut))
  (hx:∀ x∈u.take i,∀ y∈v.drop j,LT cut x y) (hy:∀ x∈v.take j,∀ y∈u.drop i,LT cut x y):(s1++s2).Perm (u++v)∧(s1++s2).Pairwise (LT cut):=by
 constructor
 ·refine (h1.append h2).trans ?_
  have e:u++v=(u.take i++u.drop i)++(v.take j++v.drop j):=by rw [List.take_append_drop,List.take_append_drop]
  rw [e,List.append_assoc,List.append_assoc]
  refine List.Perm.append_left _ ?_
  rw [← List.append_assoc,← List.append_assoc]
  exact List.Perm.append_right _ List.perm_append_comm
 ·rw [List.pairwise_append]
  refine ⟨p1,p2,fun x hx1 y hy1=>?_⟩
  have a1:=h1.mem_iff.1 hx1
  have a2:=h2.mem_iff.1 hy1
  have su:=hu
  have sv:=hv
  rw [← List.take_append_drop i u] at su
  rw [← List.take_append_drop j v] at sv
  rcases List.mem_append.1 a1 with a1 | a1 <;> rcases List.mem_append.1 a2 with a2 | a2
  ·exact (List.pairwise_append.1 su).2.2 x a1 y a2
  ·exact hx x a1 y a2
  ·exact hy x a1 y a2
  ·exact (List.pairwise_append.1 sv).2.2 x a1 y a2
theorem MG.parts {cut:List Int} {u v:List Nat} (h:MG cut u v) {u' v':List Nat} (hu:u'.Sublist u) (hv:v'.Sublist v):MG cut u' v':=
 ⟨h.su.sublist hu,h.sv.sublist hv,fun x hx y hy=>h.ap x (hu.subset hx) y (hv.subset hy),fun z hz=>h.bu z (hu.subset hz),fun z hz=>h.bv z (hv.subset hz)⟩
end Go.Proofs.YtjdjfpkjikdkoaaGreatDoor
namespace Go.Proofs.YtjdjfpkjikdkoaaGreatDoor
open Go.RowKit Go.Lib
set_option maxHeartbeats 8000000 in
theorem sym_left (g cap cb gc ccap:Nat) (cut:List Int) (A v Z:List Nat) (x:Nat) (w:World) (h:NRow w g (toI (A++([x]++(v++Z))))) (hl:(A++([x]++(v++Z))).length≤1000000) (hc:CutAt w cb gc cut ccap) (h1:cb≠g) (h2:gc≠g) (hM:MG cut [x] v) :
  Calls Tryz.prog 220 #[.slice (some ⟨g,0,none⟩) (A++([x]++(v++Z))).length cap,.int .i64 (A.length:Int),.int .i64 ((A.length+1:Nat):Int),.int .i64 ((A.length+1+v.length:Nat):Int),byF cb] w fun e w'=>e=.returned (.tuple #[])∧Hid (MOut cut w w' g A [x] v Z):=by
 have HR:Hid (NRow w g (toI (A++([x]++(v++Z))))):=h
 have HCu:Hid (∀ W,But g w W→∀ x y,x<cut.length→y<cut.length→Calls Tryz.prog 177 #[.int .i64 (x:Int),.int .i64 (y:Int),.pointer (some ⟨cb,0,none⟩)] W fun e w'=>e=.returned (.int .i64 (cutC cut x y))∧∃ k,w'=W.drewN k):=fun W hW x y hx hy=>byCut1_any x y cb gc cut ccap W (hc.but hW h1 h2) hx hy
 have HM:Hid (MG cut [x] v):=hM
 have HL:Hid ((A++([x]++(v++Z))).length=A.length+1+v.length+Z.length):=by unfold Hid;simp only [List.length_append,List.length_cons,List.length_nil];omega
 obtain ⟨L,hL⟩:∃ L,(A++([x]++(v++Z))).length=L:=⟨_,rfl⟩
 rw [hL] at hl HL ⊢
 have HLr:Hid ((toI (A++([x]++(v++Z)))).length=L):=by unfold Hid;rw [toI_len];exact hL
 obtain ⟨a,ha⟩:∃ a,A.length=a:=⟨_,rfl⟩
 obtain ⟨n,hn⟩:∃ n,v.length=n:=⟨_,rfl⟩
 obtain ⟨m,hm⟩:∃ m,a+1=m:=⟨_,rfl⟩
 obtain ⟨b,hb⟩:∃ b,m+n=b:=⟨_,rfl⟩
 rw [ha,hn,hm,hb] at HL ⊢
 have HA:Hid (A.length=a∧v.length=n):=⟨ha,hn⟩
 have hbL:b≤L:=by have:=HL.out;omega
 have cx0:w.cell? ⟨g,a,none⟩=some (.int .i64 (x:Int)):=by
  have:=h.cell (i:=a) (by rw [toI_len,hL];omega)
  rw [← ha] at this ⊢
  rwa [show A++([x]++(v++Z))=A++(x :: (v++Z)) by simp,toI_at] at this
 have ma:(m:Int) - a=1:=by omega
 have a0:(0:Int)≤a:=by omega
 have aL:(a:Int)<L:=by omega
 have bL:(b:Int)≤L:=by omega
 have lL:(L:Int)≤1000000:=by omega
 have m0:(0:Int)≤m:=by omega
 have am:(a:Int)<m:=by omega
 have mb:(m:Int)≤b:=by omega
 have HCx:Hid (∀ k,(w.drewN k).cell? ⟨g,a,none⟩=some (.int .i64 (x:Int))):=fun k=>cx0
 clear h hc hM hL ha hn h1 h2 cx0
 unfold byF
 go_enter Tryz.func220,Tryz.ntmps220
 go_wp2
 go_loopw [10,11] (fun ti tj wr=>∃ I J:Nat,m≤I∧I≤J∧J≤b∧ti=.int .i64 I∧tj=.int .i64 J∧Hid ((∀ z∈v.take (I - m),LT cut z x)∧(∀ z∈v.drop (J - m),LT cut x z))∧Hid (∃ k,wr=w.drewN k)) (fun ti tj _=>(RowKit.intOf tj).toNat - (RowKit.intOf ti).toNat)
 case atStart=>
  refine ⟨m,b,Nat.le_refl _,by omega,Nat.le_refl _,rfl,rfl,⟨by simp,?_⟩,⟨0,rfl⟩⟩
  rw [List.drop_eq_nil_of_le (by rw [HA.out.2];omega)];simp
 case round=>
  obtain ⟨I,J,hI,hIJ,hJ,rfl,rfl,HLo,HW⟩:=hrel
  obtain ⟨k,hk⟩:=HW.out
  have HkB:Hid (But g w wr):=by unfold Hid;rw [hk];exact (But.refl g w).drewN k
  have HkN:Hid (∀ n,∃ q,wr.drewN n=w.drewN q):=fun n=>⟨k+n,by rw [hk];exact World.drewN_drewN _ _ _⟩
  by_cases hlt:I<J
  ·obtain ⟨h,hh⟩:∃ h,(I+J) / 2=h:=⟨_,rfl⟩
   have rm:((I:Int)+(J:Int)) / 2=(h:Int):=by omega
   have h0:(0:Int)≤h:=by omega
   have hL2:(h:Int)<L:=by omega
   have i1:(I:Int)<J:=by omega
   have i2:(0:Int)≤I:=by omega
   have i3:(J:Int)≤1000000:=by omega
   have hv:h - m<v.length:=by rw [HA.out.2];omega
   have hym:v.getD (h - m) 0∈v:=getD_mem0 hv
   have cy:wr.cell? ⟨g,h,none⟩=some (.int .i64 ((v.getD (h - m) 0:Nat):Int)):=by
    have:=HR.out.cell (i:=h) (by rw [HLr.out];omega)
    rw [show A++([x]++(v++Z))=(A++[x])++(v++Z) by simp] at this
    have e:h=(A++[x]).length+(h - m):=by rw [List.length_append,HA.out.1];show h=a+1+(h - m);omega
    rw [e,row_at (A++[x]) v Z hv] at this
    rw [← e] at this
    rw [hk]
    exact this
   have cx:wr.cell? ⟨g,a,none⟩=some (.int .i64 (x:Int)):=by rw [hk];exact HCx.out k
   have HCc:Hid (∀ n,Calls Tryz.prog 177 #[.int .i64 ((v.getD (h - m) 0:Nat):Int),.int .i64 (x:Int),.pointer (some ⟨cb,0,none⟩)] (wr.drewN n) fun e w'=>e=.returned (.int .i64 (cutC cut (v.getD (h - m) 0) x))∧∃ q,w'=(wr.drewN n).drewN q):=fun n=>HCu.out _ (HkB.out.drewN n) _ _ (HM.out.bv _ hym) (HM.out.bu x (by simp))
   by_cases hless:cutC cut (v.getD (h - m) 0) x<0
   ·have hlo:∀ z∈v.take (h - m+1),LT cut z x:=take_lo HM.out.sv hv (HM.out.less (by simp) hym hless)
    have HN:Hid ((∀ z∈v.take (h+1 - m),LT cut z x)∧(∀ z∈v.drop (J - m),LT cut x z)):=⟨by rw [show h+1 - m=h - m+1 by omega];exact hlo,HLo.out.2⟩
    have hd:decide (cutC cut (v.getD (h - m) 0) x<0)=true:=decide_eq_true hless
    generalize cutC cut (v.getD (h - m) 0) x=r at *
    generalize v.getD (h - m) 0=y at *
    clear hlo hym HLo HW hless hk
    go_wp2
    go_quiet ((go_at_call 177;exact Calls.quiet_of (HCc.out _)))
    go_wp2
    go_roundw
    case rel=>exact ⟨h+1,J,by omega,by omega,hJ,by go_num,rfl,HN,HkN.out _⟩
    case measure=>simp [RowKit.intOf];omega
   ·have hhi:∀ z∈v.drop (h - m),LT cut x z:=drop_hi HM.out.sv hv (HM.out.more (by simp) hym hless)
    have HN:Hid ((∀ z∈v.take (I - m),LT cut z x)∧(∀ z∈v.drop (h - m),LT cut x z)):=⟨HLo.out.1,hhi⟩
    have hd:decide (cutC cut (v.getD (h - m) 0) x<0)=false:=decide_eq_false hless
    generalize cutC cut (v.getD (h - m) 0) x=r at *
    generalize v.getD (h - m) 0=y at *
    clear hhi hym HLo HW hless hk
    go_wp2
    go_quiet ((go_at_call 177;exact Calls.quiet_of (HCc.out _)))
    go_wp2
    go_roundw
    case rel=>exact ⟨I,h,hI,by omega,by omega,rfl,by go_num,HN,HkN.out _⟩
    case measure=>simp [RowKit.intOf];omega
  ·have eJ:J=I:=by omega
   subst eJ
   have i1:¬ (J:Int)<J:=by omega
   obtain ⟨i,hi⟩:∃ i,J - m=i:=⟨_,rfl⟩
   rw [hi] at HLo
   have HS:Hid ((v.take i++([x]++v.drop i)).Perm ([x]++v)∧(v.take i++([x]++v.drop i)).Pairwise (LT cut)):=by
    refine ⟨?_,?_⟩
    ·have:=List.perm_middle (a:=x) (l₁:=v.take i) (l₂:=v.drop i)
     rw [List.take_append_drop] at this
     exact this
    ·exact put_sorted (P:=v.take i) (Q:=v.drop i) (by rw [List.take_append_drop];exact HM.out.sv) HLo.out.2 HLo.out.1
   have in':i≤n:=by omega
   have ia:(J:Int) - 1=(a:Int)+i:=by omega
   have iL:(a:Int)+i<L:=by omega
   have HR2:Hid (NRow wr g (toI (A++(v.take 0++(x :: (v.drop 0++Z)))))∧But g w wr):=⟨by rw [hk];exact HR.out,HkB.out⟩
   have HJ:Hid (J=a+1+i):=by unfold Hid;omega
   have J0:(0:Int)≤J:=by omega
   have J1:(J:Int)≤1000000:=by omega
   clear HLo HW HR hi hk HkN HkB
   go_wp2
   go_loopw [13] (fun t wr=>∃ q:Nat,q≤i∧t=.int .i64 ((a:Int)+q)∧Hid (NRow wr g (toI (A++(v.take q++(x :: (v.drop q++Z)))))∧But g w wr)) (fun t _=>a+i - (RowKit.intOf t).toNat)
   case atStart=>exact ⟨0,Nat.zero_le _,by simp,HR2⟩
   case round=>
    rename World=>wr
    obtain ⟨q,hq,rfl,HQ⟩:=hrel
    by_cases hqi:q<i
    ·have k1:(a:Int)+q<(a:Int)+i:=by omega
     have hqv:q<v.length:=by rw [HA.out.2];omega
     obtain ⟨y,hy⟩:∃ y,v.getD q 0=y:=⟨_,rfl⟩
     obtain ⟨R,B⟩:=HQ.out
     have hAq:(A++v.take q).length=a+q:=by rw [List.length_append,HA.out.1,List.length_take];omega
     rw [drop_one hqv,hy] at R
     rw [show A++(v.take q++(x :: ((y :: v.drop (q+1))++Z)))=(A++v.take q)++(x :: y :: (v.drop (q+1)++Z)) by simp] at R
     have hlen:(toI ((A++v.take q)++(x :: y :: (v.drop (q+1)++Z)))).length=L:=by
      rw [toI_len,HL.out]
      simp only [List.length_append,List.length_cons,List.length_take,List.length_drop]
      have:=HA.out
      omega
     have hR2:NRow wr g (toI ((A++v.take q)++(x :: y :: (v.drop (q+1)++Z)))):=R
     have e1:(toI ((A++v.take q)++(x :: y :: (v.drop (q+1)++Z)))).getD (a+q) 0=x:=by rw [← hAq,toI_at]
     have e2:(toI ((A++v.take q)++(x :: y :: (v.drop (q+1)++Z)))).getD (a+q+1) 0=y:=by
      rw [show (A++v.take q)++(x :: y :: (v.drop (q+1)++Z))=((A++v.take q)++[x])++(y :: (v.drop (q+1)++Z)) by simp,show a+q+1=((A++v.take q)++[x]).length by rw [List.length_append,hAq];rfl,toI_at]
     have hapL:a+q+1<L:=by omega
     have ca:wr.drew.cell? ⟨g,a+q,none⟩=some (.int .i64 (x:Int)):=by rw [← e1];exact hR2.cell (by omega)
     have cb2:wr.drew.cell? ⟨g,a+q+1,none⟩=some (.int .i64 (y:Int)):=by rw [← e2];exact hR2.cell (by omega)
     have fa:wr.drew.frozen? ⟨g,a+q,none⟩=false:=hR2.frozen _
     have R1:NRow (wr.drew.setCell ⟨g,a+q,none⟩ (.int .i64 (y:Int))) g _:=(show NRow wr.drew g _ from hR2).set (a+q) _
     have cb1:=R1.cell (i:=a+q+1) (by rw [List.length_set];omega)
     have fb1:=R1.frozen (a+q+1)
     have R2:=R1.set (a+q+1) (x:Int)
     have HR3:Hid (NRow ((wr.drew.setCell ⟨g,a+q,none⟩ (.int .i64 (y:Int))).setCell ⟨g,a+q+1,none⟩ (.int .i64 (x:Int))) g (toI (A++(v.take (q+1)++(x :: (v.drop (q+1)++Z)))))∧But g w ((wr.drew.setCell ⟨g,a+q,none⟩ (.int .i64 (y:Int))).setCell ⟨g,a+q+1,none⟩ (.int .i64 (x:Int)))):=by
      refine ⟨?_,(B.drew.set (a+q) _).set (a+q+1) _⟩
      rw [take_one hqv,hy]
      have e3:=adj_swap2 (A++v.take q) x y (v.drop (q+1)++Z)
      rw [hAq] at e3
      rw [e3] at R2
      rw [show A++((v.take q++[y])++(x :: (v.drop (q+1)++Z)))=(A++v.take q)++(y :: x :: (v.drop (q+1)++Z)) by simp]
      exact R2
     generalize (((toI ((A++v.take q)++(x :: y :: (v.drop (q+1)++Z)))).set (a+q) (y:Int)).getD (a+q+1) 0)=z0 at *
     clear R1 R2 hR2 R B e1 e2 HQ hlen hAq HR2
     obtain ⟨K,hK⟩:∃ K:Int,(a:Int)+q=K:=⟨_,rfl⟩
     obtain ⟨M,hM⟩:∃ M:Int,K+1=M:=⟨_,rfl⟩
     have n1:(0:Int)≤K:=by omega
     have n2:K<L:=by omega
     have n3:(0:Int)≤M:=by omega
     have n4:M<L:=by omega
     have t1:K.toNat=a+q:=by omega
     have t2:M.toNat=a+q+1:=by omega
     have wr1:IntKind.i64.wrap (K+1)=M:=by rw [IntKind.wrap_i64];omega
     rw [hK] at k1 ⊢
     have HK:Hid ((a:Int)+q=K∧K+1=M):=⟨hK,hM⟩
     clear hK hM
     go_wp2
     refine wp_region_drawn (by kernel_rfl) ?_
     refine wpAny_take (i:=0) (v:=.slice (some ⟨g,0,none⟩) L cap) rfl (by kernel_rfl) (by kernel_rfl) (by kernel_rfl) (fun _ _ _ h=>h) (Or.inl ⟨by rfl,fun w=>by go_simp⟩) ?_
     simp only [Act.put,zq0,zq1,zq2,zq3,zq4,zq5]
     refine wpAny_take (i:=1) (v:=.int .i64 K) rfl (by kernel_rfl) (by kernel_rfl) (by kernel_rfl) (fun _ _ _ h=>h) (Or.inl ⟨by rfl,fun w=>by go_simp⟩) ?_
     simp only [Act.put,zq0,zq1,zq2,zq3,zq4,zq5]
     refine wpAny_take (i:=2) (v:=.slice (some ⟨g,0,none⟩) L cap) rfl (by kernel_rfl) (by kernel_rfl) (by kernel_rfl) (fun _ _ _ h=>h) (Or.inl ⟨by rfl,fun w=>by go_simp⟩) ?_
     simp only [Act.put,zq0,zq1,zq2,zq3,zq4,zq5]
     refine wpAny_take (i:=3) (v:=.int .i64 K) rfl (by kernel_rfl) (by kernel_rfl) (by kernel_rfl) (fun _ _ _ h=>h) (Or.inl ⟨by rfl,fun w=>by go_simp⟩) ?_
     simp only [Act.put,zq0,zq1,zq2,zq3,zq4,zq5]
     refine wpAny_take (i:=4) (v:=.int .i64 M) rfl (by kernel_rfl) (by kernel_rfl) (by kernel_rfl) (fun _ _ _ h=>h) (Or.inl ⟨by rfl,fun w=>by go_simp⟩) ?_
     simp only [Act.put,zq0,zq1,zq2,zq3,zq4,zq5]
     refine wpAny_take (i:=5) (v:=.slice (some ⟨g,0,none⟩) L cap) rfl (by kernel_rfl) (by kernel_rfl) (by kernel_rfl) (fun _ _ _ h=>h) (Or.inl ⟨by rfl,fun w=>by go_simp⟩) ?_
     simp only [Act.put,zq0,zq1,zq2,zq3,zq4,zq5]
     refine wpAny_take (i:=6) (v:=.int .i64 K) rfl (by kernel_rfl) (by kernel_rfl) (by kernel_rfl) (fun _ _ _ h=>h) (Or.inl ⟨by rfl,fun w=>by go_simp⟩) ?_
     simp only [Act.put,zq0,zq1,zq2,zq3,zq4,zq5]
     refine wpAny_take (i:=7) (v:=.int .i64 M) rfl (by kernel_rfl) (by kernel_rfl) (by kernel_rfl) (fun _ _ _ h=>h) (Or.inl ⟨by rfl,fun w=>by go_simp⟩) ?_
     simp only [Act.put,zq0,zq1,zq2,zq3,zq4,zq5]
     refine wpAny_take (i:=8) (v:=.pointer (some ⟨g,a+q+1,none⟩)) rfl (by kernel_rfl) (by kernel_rfl) (by kernel_rfl) (fun _ _ _ h=>h) (Or.inl ⟨by rfl,fun w=>by go_simp⟩) ?_
     simp only [Act.put,zq0,zq1,zq2,zq3,zq4,zq5]
     refine wpAny_take (i:=10) (v:=.slice (some ⟨g,0,none⟩) L cap) rfl (by kernel_rfl) (by kernel_rfl) (by kernel_rfl) (fun _ _ _ h=>h) (Or.inl ⟨by rfl,fun w=>by go_simp⟩) ?_
     simp only [Act.put,zq0,zq1,zq2,zq3,zq4,zq5]
     refine wpAny_take (i:=11) (v:=.int .i64 K) rfl (by kernel_rfl) (by kernel_rfl) (by kernel_rfl) (fun _ _ _ h=>h) (Or.inl ⟨by rfl,fun w=>by go_simp⟩) ?_
     simp only [Act.put,zq0,zq1,zq2,zq3,zq4,zq5]
     refine wpAny_take (i:=12) (v:=.pointer (some ⟨g,a+q,none⟩)) rfl (by kernel_rfl) (by kernel_rfl) (by kernel_rfl) (fun _ _ _ h=>h) (Or.inl ⟨by rfl,fun w=>by go_simp⟩) ?_
     simp only [Act.put,zq0,zq1,zq2,zq3,zq4,zq5]
     refine any_of_L (g:=15) (T:=fun u=>u=wr.drew) _ _ _ _ ?_
     refine L_take (i:=9) (v:=.int .i64 y) rfl rfl (by kernel_rfl) (by decide) (by kernel_rfl) (by kernel_rfl) (by kernel_rfl) (by kernel_rfl) (fun _ _ _ h=>h) (Or.inl ⟨by rfl,fun w' hw'=>by subst hw';go_simp⟩) rfl ?_
     simp only [Act.put,zq0,zq1,zq2,zq3,zq4,zq5]
     refine L_take (i:=13) (v:=.int .i64 x) rfl rfl (by kernel_rfl) (by decide) (by kernel_rfl) (by kernel_rfl) (by kernel_rfl) (by kernel_rfl) (fun _ _ _ h=>h) (Or.inl ⟨by rfl,fun w' hw'=>by subst hw';go_simp⟩) rfl ?_
     simp only [Act.put,zq0,zq1,zq2,zq3,zq4,zq5]
     refine L_take (i:=14) (v:=.pointer (some ⟨g,a+q,none⟩)) rfl rfl (by kernel_rfl) (by decide) (by kernel_rfl) (by kernel_rfl) (by kernel_rfl) (by kernel_rfl) (fun _ _ _ h=>h) (Or.inl ⟨by rfl,fun w' hw'=>by subst hw';go_simp⟩) rfl ?_
     simp only [Act.put,zq0,zq1,zq2,zq3,zq4,zq5]
     refine L_go (by kernel_rfl) (by kernel_rfl) ?_
     refine wpOp_step rfl ?_
     intro K hK
     rw [if_pos (by rfl)]
     have hK':Shut (∀ a w,_→K a w):=hK
     clear hK
     go_wp2
     refine hK'.out _ _ ?_
     clear hK' K
     have eW:wr.drew.setCell ⟨g,a+q,none⟩ (.int .i64 (y:Int))=(wr.setCell ⟨g,a+q,none⟩ (.int .i64 (y:Int))).drew:=rfl
     rw [eW] at cb1 fb1 HR3
     clear eW ca cb2 fa
     generalize (wr.setCell ⟨g,a+q,none⟩ (.int .i64 (y:Int))).drew=W1 at *
     refine any_one (i:=16) (by kernel_rfl) ?_
     refine wpOp_step rfl ?_
     intro K hK
     rw [if_pos (by rfl)]
     have hK':Shut (∀ a w,_→K a w):=hK
     clear hK
     go_wp2
     refine hK'.out _ _ ?_
     clear hK' K
     refine any_one (i:=17) (by kernel_rfl) ?_
     refine wpOp_step rfl ?_
     intro K hK
     rw [if_pos (by rfl)]
     have hK':Shut (∀ a w,_→K a w):=hK
     clear hK
     go_wp2
     refine hK'.out _ _ ?_
     clear hK' K
     refine wpAny_done (by kernel_rfl) ?_ _
     go_wp2
     go_roundw
     case rel=>exact ⟨q+1,by omega,by have:=HK.out;first | (congr 1;omega) | go_num,HR3⟩
     case measure=>have:=HK.out;simp [RowKit.intOf];omega
    ·have eq:q=i:=by omega
     subst eq
     have k1:¬ (a:Int)+q<(a:Int)+q:=by omega
     have HE:Hid (MOut cut w wr g A [x] v Z):=⟨v.take q++([x]++v.drop q),HS.out.1,HS.out.2,by
      have:=HQ.out.1
      rw [show A++(v.take q++(x :: (v.drop q++Z)))=A++((v.take q++([x]++v.drop q))++Z) by simp] at this
      exact this,HQ.out.2⟩
     clear HQ HS HR2
     go_wp2
     first | go_end0 | ((try simp only [Exit.inBlock,Exit.then]);refine bodyPost_ret (results_none rfl _ _ _) rfl ?_)
     exact ⟨rfl,HE⟩
end Go.Proofs.YtjdjfpkjikdkoaaGreatDoor
