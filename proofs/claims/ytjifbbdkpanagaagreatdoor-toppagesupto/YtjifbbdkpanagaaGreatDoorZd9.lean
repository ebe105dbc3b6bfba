/-
  Part of a proof (see the last text).
-/
import Derived.Test.YtjifbbdkpanagaaGreatDoorZd8
import Derived.Deep.OwnRows
set_option linter.unusedVariables false
set_option linter.unusedSimpArgs false
set_option maxRecDepth 100000
namespace Go.Proofs.YtjifbbdkpanagaaGreatDoor
section
open Go.RowKit Go.Lib Go.Proofs.Tryz
end
section
open Go.RowKit Go.Lib Go.Proofs.Tryz
def LT (cut:List Int) (i j:Nat):Prop:=cut.getD j 0<cut.getD i 0∨(cut.getD i 0=cut.getD j 0∧i<j)
end
section
open Go.RowKit Go.Lib Go.Proofs.Tryz
end
section
open Go.RowKit Go.Lib Go.Proofs.Tryz
end
section
open Go.RowKit Go.Lib Go.Proofs.Tryz
end
section
open Go.RowKit Go.Lib Go.Proofs.Tryz
abbrev decLT (cut:List Int) (i j:Nat):Decidable (LT cut i j):=by unfold LT;exact inferInstance
def rank (cut:List Int) (i:Nat):Nat:=(List.range cut.length).countP fun j=>@decide (LT cut j i) (decLT cut j i)
theorem LT.asymm {cut:List Int} {i j:Nat} (h:LT cut i j):¬ LT cut j i:=by unfold LT at *;omega
theorem LT.irrefl (cut:List Int) (i:Nat):¬ LT cut i i:=by unfold LT;omega
theorem rank_pos {cut:List Int} {l:List Nat} (hl:l.Pairwise (LT cut)) {p:Nat} (hp:p<l.length):(l.countP fun j=>@decide (LT cut j l[p]) (decLT cut j l[p]))=p:=by
 have e:l=l.take p++(l[p] :: l.drop (p+1)):=by rw [← List.drop_eq_getElem_cons hp,List.take_append_drop]
 have hs:=hl;rw [e] at hs;obtain ⟨s1,s2,s3⟩:=List.pairwise_append.1 hs;have s4:=(List.pairwise_cons.1 s2).1;generalize hx:l[p]=x at *
 rw [e,List.countP_append,List.countP_cons];have c1:(l.take p).countP (fun j=>@decide (LT cut j x) (decLT cut j x))=p:=by
  rw [List.countP_eq_length.2 (fun a ha=>by simpa using s3 a ha x (by simp)),List.length_take]
  omega
 have c2:(l.drop (p+1)).countP (fun j=>@decide (LT cut j x) (decLT cut j x))=0:=by
  rw [List.countP_eq_zero];intro a ha;simpa using (s4 a ha).asymm
 rw [c1,c2];simp [LT.irrefl]
theorem order_ex (cut:List Int):∃ l:List Nat,l.Perm (List.range cut.length)∧l.Pairwise (LT cut):=by
 let le:Nat→Nat→Bool:=fun i j=>@decide (¬ LT cut j i) (@instDecidableNot _ (decLT cut j i))
 refine ⟨(List.range cut.length).mergeSort le,List.mergeSort_perm _ _,?_⟩;have h1:=List.pairwise_mergeSort (le:=le) (fun a b c=>by
  simp only [le,decide_eq_true_eq];unfold LT;omega) (fun a b=>by
  simp only [le,Bool.or_eq_true,decide_eq_true_eq];unfold LT;omega) (List.range cut.length)
 have h2:((List.range cut.length).mergeSort le).Pairwise (·≠·):=(List.mergeSort_perm (List.range cut.length) le).symm.nodup List.nodup_range;refine (h1.and h2).imp ?_;rintro a b ⟨p1,p2⟩;simp only [le,decide_eq_true_eq] at p1;unfold LT at *
 omega
def Qgu (T:Int) (ws:List Int):List Int:=ws.map fun x=>T*x / ws.sum
def cutL (T:Int) (ws:List Int):List Int:=ws.map fun x=>T*x % ws.sum
def QfJ (T:Int) (ws:List Int):Int:=T - (Qgu T ws).sum
def moreI (T:Int) (ws:List Int) (i:Nat):Int:=if (rank (cutL T ws) i:Int)<QfJ T ws then 1 else 0
def QeC (t:Int):Int:=if t<0 then -t else t
def Qds (t:Int) (ws:List Int) (i:Nat):Int:=if t<0 then -((Qgu (QeC t) ws).getD i 0+moreI (QeC t) ws i) else (Qgu (QeC t) ws).getD i 0+moreI (QeC t) ws i
def shBad (ws:List Int):Int:=if 40<ws.length then 4 else if ws.any (fun x=>decide (x<0∨1000000000<x))=true then 1 else if ws.sum=0 then 6 else 0
theorem partL_len (T:Int) (ws:List Int):(Qgu T ws).length=ws.length:=by simp [Qgu]
theorem cutL_len (T:Int) (ws:List Int):(cutL T ws).length=ws.length:=by simp [cutL]
theorem partL_at (T:Int) (ws:List Int) {i:Nat} (h:i<ws.length):(Qgu T ws).getD i 0=T*ws.getD i 0 / ws.sum:=by
 simp [Qgu,List.getD_eq_getElem?_getD,List.getElem?_eq_getElem h]
def Qgm (ws:List Int):Prop:=ws.length≤40∧(∀ x∈ws,0≤x∧x≤1000000000)∧0<ws.sum
theorem Qfx {l:List Int} (h:∀ x∈l,0≤x):0≤l.sum:=by
 induction l with
 | nil=>simp
 | cons y ys ih=>
  rw [List.sum_cons];have h1:=h y (by simp)
  have h2:=ih (fun x hx=>h x (by simp [hx]))
  omega
theorem mem_le_sum {l:List Int} (h:∀ x∈l,0≤x) {x:Int} (hx:x∈l):x≤l.sum:=by
 induction l with
 | nil=>simp at hx
 | cons y ys ih=>
  rw [List.sum_cons];have h1:=h y (by simp)
  have h2:=Qfx (fun x hx=>h x (List.mem_cons_of_mem y hx))
  rcases List.mem_cons.1 hx with rfl | hx
  ·omega
  ·have:=ih (fun x hx=>h x (List.mem_cons_of_mem y hx)) hx
   omega
theorem QiO {ws:List Int} (h:shBad ws=0):Qgm ws:=by
 unfold shBad at h;by_cases h1:40<ws.length
 ·rw [if_pos h1] at h;exact absurd h (by decide)
 ·rw [if_neg h1] at h;by_cases h2:ws.any (fun x=>decide (x<0∨1000000000<x))=true
  ·rw [if_pos h2] at h;exact absurd h (by decide)
  ·rw [if_neg h2] at h;by_cases h3:ws.sum=0
   ·rw [if_pos h3] at h;exact absurd h (by decide)
   ·have h4:∀ x∈ws,0≤x∧x≤1000000000:=fun x hx=>by
     have:¬ (x<0∨1000000000<x):=fun e=>h2 (List.any_eq_true.2 ⟨x,hx,decide_eq_true e⟩)
     omega
    have h5:=Qfx (fun x hx=>(h4 x hx).1)
    exact ⟨by omega,h4,by omega⟩
theorem cut_sum (T S:Int) (ws:List Int) (hS:0<S):(ws.map fun x=>T*x % S).sum=T*ws.sum - S*(ws.map fun x=>T*x / S).sum:=by
 induction ws with
 | nil=>simp
 | cons y ys ih=>
  simp only [List.map_cons,List.sum_cons];rw [ih,Int.emod_def,Int.mul_add,Int.mul_add];omega
theorem left_cut {T:Int} {ws:List Int} (h:Qgm ws):(cutL T ws).sum=ws.sum*QfJ T ws:=by
 unfold cutL QfJ Qgu;rw [cut_sum T ws.sum ws h.2.2,Int.mul_sub,Int.mul_comm T]
theorem QiL {T:Int} {ws:List Int} (h:Qgm ws):∀ x∈cutL T ws,0≤x∧x≤ws.sum - 1:=by
 intro x hx;unfold cutL at hx;obtain ⟨y,hy,rfl⟩:=List.mem_map.1 hx
 have:=Int.emod_nonneg (T*y) (show ws.sum≠0 by have:=h.2.2;omega)
 have:=Int.emod_lt_of_pos (T*y) h.2.2
 omega
theorem QgT {T:Int} {ws:List Int} (h:Qgm ws):0≤QfJ T ws:=by
 have h1:=Qfx (fun x hx=>(QiL (T:=T) h x hx).1)
 rw [left_cut h] at h1;have h3:=h.2.2;rcases Int.lt_or_le (QfJ T ws) 0 with h2 | h2
 ·have:=Int.mul_neg_of_pos_of_neg h3 h2
  omega
 ·exact h2
def QeG (cut:List Int):Nat:=cut.countP fun x=>decide (0<x)
theorem sum_cut_le (l:List Int) (M:Int) (hM:0≤M) (h:∀ x∈l,0≤x∧x≤M):l.sum≤M*(QeG l):=by
 induction l with
 | nil=>simp [QeG]
 | cons y ys ih=>
  have h1:=h y (by simp)
  have h2:=ih (fun x hx=>h x (by simp [hx]))
  unfold QeG at *
  rw [List.sum_cons,List.countP_cons];by_cases h3:0<y
  ·simp only [h3,decide_true,if_true];rw [Int.natCast_add,Int.mul_add];simp;omega
  ·simp only [h3,decide_false,Bool.false_eq_true,if_false,Nat.add_zero];omega
theorem left_le_cut {T:Int} {ws:List Int} (h:Qgm ws):QfJ T ws≤QeG (cutL T ws):=by
 have h1:=sum_cut_le (cutL T ws) (ws.sum - 1) (by have:=h.2.2;omega) (QiL h)
 rw [left_cut h] at h1;have h3:=h.2.2;have h4:=QgT (T:=T) h;rcases Int.lt_or_le (QeG (cutL T ws):Int) (QfJ T ws) with h2 | h2
 ·exfalso;have h5:ws.sum*QfJ T ws ≥ ws.sum*((QeG (cutL T ws):Int)+1):=Int.mul_le_mul_of_nonneg_left (by omega) (by omega)
  rw [Int.mul_add] at h5;rw [Int.sub_mul] at h1;omega
 ·exact h2
theorem left_le {T:Int} {ws:List Int} (h:Qgm ws):QfJ T ws≤ws.length:=by
 have h1:=left_le_cut (T:=T) h;have h2:QeG (cutL T ws)≤(cutL T ws).length:=List.countP_le_length;rw [cutL_len] at h2;omega
end
end Go.Proofs.YtjifbbdkpanagaaGreatDoor
