/-
  Part of a proof (see the last text).
-/
import Derived.Test.YtjifbbdkpanagaaGreatDoorZd6
import Derived.Great.BuildSlice
set_option linter.unusedVariables false
set_option linter.unusedSimpArgs false
set_option maxRecDepth 100000
namespace Go.Proofs.YtjifbbdkpanagaaGreatDoor
section
open Go.RowKit Go.Lib Go.Proofs.Tryz
def accBad (c:List Ac) (p:Pn):Int:=if Qaa c p.src≠0 then Qaa c p.src else if Qaa c p.dst≠0 then Qaa c p.dst else if p.src=p.dst then 8 else 0
def pnBad (c:List Ac) (l:List Pn) (k:Nat):Int:=
 if refBad (l.take k) (l.getD k pn0).ref≠0 then refBad (l.take k) (l.getD k pn0).ref
 else if (Qav (l.getD k pn0).ent 12 && QfG (l.getD k pn0).amt (l.getD k pn0).fst (l.getD k pn0).per)=false then 1
 else if accBad c (l.getD k pn0)≠0 then accBad c (l.getD k pn0)
 else if Qat (l.getD k pn0).cur=false then 2 else 0
def Qcx (c:List Ac) (l:List Pn):Int:=
 if QaC c≠0 then QaC c else if 20<l.length then 4 else Qad (pnBad c l) l.length
end
section
open Go Go.Proofs.Tryz
section
variable {P:Program} {ops:Array Oper} {Q:Exit→Act→World→Prop} {md:Region.Mode} {T:World→Prop} {g:Nat}
def Qa1 (P:Program) (md:Region.Mode) (ops:Array Oper) (Q:Exit→Act→World→Prop) (g:Nat) (T:World→Prop):Nat→Array Bool→Act→World→Prop
 | 0,listed,a,w=>Region.ready md ops listed=[]∧Q .normal a w
 | fuel+1,listed,a,w=>
  (Region.ready md ops listed=[]→Q .normal a w) ∧
  ∀ i∈Region.ready md ops listed,wpOp P ops Q i (fun a' w'=>((listed.setIfInBounds i true).getD g true=false→T w')∧Qa1 P md ops Q g T fuel (listed.setIfInBounds i true) a' w') a w
theorem QaD:∀ (fuel:Nat) (listed:Array Bool) (a:Act) (w:World),Qa1 P md ops Q g T fuel listed a w→wpAny P md ops Q fuel listed a w
 | 0,_,_,_,h=>h
 | fuel+1,_,_,_,h=>⟨h.1,fun i hi=>wpOp_mono (fun a' w' h'=>QaD fuel _ a' w' h'.2) (h.2 i hi)⟩
theorem L_of_any:∀ (fuel:Nat) (listed:Array Bool) (a:Act) (w:World),listed.getD g true=true→wpAny P md ops Q fuel listed a w→Qa1 P md ops Q g T fuel listed a w
 | 0,_,_,_,_,h=>h
 | fuel+1,listed,_,_,hg,h=>⟨h.1,fun i hi=>wpOp_mono (fun a' w' h'=>by
   have hg':(listed.setIfInBounds i true).getD g true=true:=by
    by_cases e:i=g
    ·subst e;by_cases hs:i<listed.size
     ·simp [hs]
     ·simp [hs]
    ·rw [getD_set_ne true e];exact hg
   exact ⟨(fun h0=>by rw [hg'] at h0;cases h0),L_of_any fuel _ a' w' hg' h'⟩) (h.2 i hi)⟩
theorem L_first {i:Nat} {oi og:Oper} {v:Value} (hi:ops[i]? = some oi) (hgo:ops[g]? = some og) (hw:∃ e∈og.after,Region.binds md e=true∧e.on=i) (hgi:g≠i)
  (hsel:∀ (j:Nat) (o:Oper) cs b,ops[j]? = some o→o.op≠.select cs b) (hQ:∀ c a w,Q (.panic c) (a.put oi.dst v) w→Q (.panic c) a w) :
  ∀ (fuel:Nat) (listed:Array Bool) (a:Act) (w:World),
   (∀ j oj,ops[j]? = some oj→j≠i→listed.getD j true=false→(∀ e∈oj.after,Region.binds md e=true→e.on≠i)→oi.apart ops oj=true) →
   i∈Region.ready md ops listed→listed.getD g true=false→YieldsIf P ops T oi v a→T w →
   Qa1 P md ops Q g T fuel (listed.setIfInBounds i true) (a.put oi.dst v) w→Qa1 P md ops Q g T (fuel+1) listed a w:=by
 intro fuel
 induction fuel with
 | zero=>
  intro listed a w _ hr _ hy hT H;refine ⟨fun h=>(by rw [h] at hr;cases hr),fun j hj=>?_⟩
  by_cases hji:j=i
  ·subst hji;exact hy.wpOp hi hT ⟨fun _=>hT,H⟩
  ·have:=ready_mono hj hji
   rw [H.1] at this;cases this
 | succ fuel ih=>
  intro listed a w hfree hr hlg hy hT H;refine ⟨fun h=>(by rw [h] at hr;cases hr),fun j hj=>?_⟩
  by_cases hji:j=i
  ·subst hji;exact hy.wpOp hi hT ⟨fun _=>hT,H⟩
  ·have h1:=H.2 j (ready_mono hj hji);obtain ⟨hjun,oj,hoj,hall⟩:=mem_ready.1 hj;have hnot:∀ e∈oj.after,Region.binds md e=true→e.on≠i:=fun e he hb heq=>by
    have h1:=hall e he hb;have h0:=(mem_ready.1 hr).1;rw [heq] at h1;rcases Nat.lt_or_ge i listed.size with h' | h'
    ·simp [h'] at h0 h1;rw [h0] at h1;cases h1
    ·simp [Array.getElem?_eq_none h'] at h1
   have hjg:j≠g:=by
    rintro rfl;obtain ⟨e,he,hb,heq⟩:=hw;rw [hgo] at hoj;cases hoj;exact hnot e he hb heq
   have h2:=wpOp_putIf hoj (hfree j oj hoj hji hjun hnot) (fun cs b=>hsel i oi cs b hi) (fun cs b=>hsel j oj cs b hoj) hQ hy h1
   have hfree':∀ k ok,ops[k]? = some ok→k≠i→(listed.setIfInBounds j true).getD k true=false →
     (∀ e∈ok.after,Region.binds md e=true→e.on≠i)→oi.apart ops ok=true:=fun k ok hk hki hun hno=>by
    refine hfree k ok hk hki ?_ hno;by_cases hjk:j=k
    ·subst hjk;exact hjun
    ·rw [getD_set_ne true hjk] at hun;exact hun
   have hlg':(listed.setIfInBounds j true).getD g true=false:=by rw [getD_set_ne true hjg];exact hlg
   refine wpOp_mono (fun a' w' h3=>?_) h2
   have hT':T w':=h3.2.1 (by rw [getD_set_ne true hjg,getD_set_ne true (Ne.symm hgi)];exact hlg)
   refine ⟨fun _=>hT',ih (listed.setIfInBounds j true) a' w' hfree' (ready_mono hr (Ne.symm hji)) hlg' h3.1 hT' ?_⟩
   rw [Array.setIfInBounds_comm _ _ hji];exact h3.2.2
theorem Qhw {fuel:Nat} {listed:Array Bool} {a:Act} {w:World} (hr:Region.ready md ops listed=[g]) (hgs:(listed.setIfInBounds g true).getD g true=true)
  (h:wpOp P ops Q g (wpAny P md ops Q fuel (listed.setIfInBounds g true)) a w):Qa1 P md ops Q g T (fuel+1) listed a w:=by
 refine ⟨(fun h0=>by rw [hr] at h0;simp at h0),fun i hi=>?_⟩
 rw [hr] at hi;obtain rfl:=List.mem_singleton.1 hi;exact wpOp_mono (fun a' w' h'=>⟨(fun h0=>by rw [hgs] at h0;cases h0),L_of_any fuel _ a' w' hgs h'⟩) h
theorem L_take1 {i:Nat} {oi:Oper} {v:Value} {fuel:Nat} {listed:Array Bool} {a:Act} {w:World} (hi:ops[i]? = some oi) (hr:Region.ready md ops listed=[i]) (hy:YieldsIf P ops T oi v a) (hT:T w)
  (h:Qa1 P md ops Q g T fuel (listed.setIfInBounds i true) (a.put oi.dst v) w):Qa1 P md ops Q g T (fuel+1) listed a w:=by
 refine ⟨(fun h0=>by rw [hr] at h0;simp at h0),fun j hj=>?_⟩
 rw [hr] at hj;obtain rfl:=List.mem_singleton.1 hj;exact hy.wpOp hi hT ⟨fun _=>hT,h⟩
theorem Qbr {i fuel:Nat} {listed:Array Bool} {a:Act} {w:World} (hr:Region.ready md ops listed=[i])
  (h:wpOp P ops Q i (wpAny P md ops Q fuel (listed.setIfInBounds i true)) a w):wpAny P md ops Q (fuel+1) listed a w:=by
 refine ⟨(fun h0=>by rw [hr] at h0;simp at h0),fun j hj=>?_⟩
 rw [hr] at hj;obtain rfl:=List.mem_singleton.1 hj;exact h
theorem Qaz {i:Nat} {oi og:Oper} {v:Value} {fuel:Nat} {listed:Array Bool} {a:Act} {w:World} (hi:ops[i]? = some oi) (hgo:ops[g]? = some og)
  (hw:(og.after.any fun e=>Region.binds md e && e.on == i)=true) (hgi:g≠i)
  (hs:Region.noSelect ops=true) (hf:Region.free md ops listed i=true) (hr:(Region.ready md ops listed).contains i=true) (hlg:listed.getD g true=false)
  (hQ:∀ c a w,Q (.panic c) (a.put oi.dst v) w→Q (.panic c) a w) (hy:YieldsIf P ops T oi v a) (hT:T w)
  (h:Qa1 P md ops Q g T fuel (listed.setIfInBounds i true) (a.put oi.dst v) w):Qa1 P md ops Q g T (fuel+1) listed a w:=
 L_first hi hgo (by
  rw [Array.any_eq_true] at hw;obtain ⟨k,hk,he⟩:=hw;simp only [Bool.and_eq_true,beq_iff_eq] at he;exact ⟨og.after[k],Array.getElem_mem hk,he.1,he.2⟩) hgi (Region.noSelect_spec hs) hQ fuel listed a w (Region.free_spec hi hf) (by simpa using hr) hlg hy hT h
end
end
section
open Go Go.Proofs.Tryz
section
variable {P:Program} {ops:Array Oper} {Q:Exit→Act→World→Prop} {md:Region.Mode} {T:World→Prop} {g m:Nat}
theorem L_first2 {i:Nat} {oi om og:Oper} {v:Value} (hi:ops[i]? = some oi) (hmo:ops[m]? = some om) (hgo:ops[g]? = some og) (hwm:∃ e∈om.after,Region.binds md e=true∧e.on=i) (hwg:∃ e∈og.after,Region.binds md e=true∧e.on=m) (hgi:g≠i)
  (hsel:∀ (j:Nat) (o:Oper) cs b,ops[j]? = some o→o.op≠.select cs b) (hQ:∀ c a w,Q (.panic c) (a.put oi.dst v) w→Q (.panic c) a w) :
  ∀ (fuel:Nat) (listed:Array Bool) (a:Act) (w:World),
   (∀ j oj,ops[j]? = some oj→j≠i→listed.getD j true=false→(∀ e∈oj.after,Region.binds md e=true→e.on≠i)→oi.apart ops oj=true) →
   i∈Region.ready md ops listed→listed.getD g true=false→listed.getD m true=false→YieldsIf P ops T oi v a→T w →
   Qa1 P md ops Q g T fuel (listed.setIfInBounds i true) (a.put oi.dst v) w→Qa1 P md ops Q g T (fuel+1) listed a w:=by
 have unl:∀ (listed:Array Bool) (k:Nat),listed.getD k true=false→listed[k]?≠some true:=fun listed k h h'=>by
  rcases Nat.lt_or_ge k listed.size with h1 | h1
  ·simp [h1] at h h';rw [h] at h';cases h'
  ·simp [Array.getElem?_eq_none h1] at h'
 intro fuel
 induction fuel with
 | zero=>
  intro listed a w _ hr _ _ hy hT H;refine ⟨fun h=>(by rw [h] at hr;cases hr),fun j hj=>?_⟩
  by_cases hji:j=i
  ·subst hji;exact hy.wpOp hi hT ⟨fun _=>hT,H⟩
  ·have:=ready_mono hj hji
   rw [H.1] at this;cases this
 | succ fuel ih=>
  intro listed a w hfree hr hlg hlm hy hT H;refine ⟨fun h=>(by rw [h] at hr;cases hr),fun j hj=>?_⟩
  by_cases hji:j=i
  ·subst hji;exact hy.wpOp hi hT ⟨fun _=>hT,H⟩
  ·have h1:=H.2 j (ready_mono hj hji);obtain ⟨hjun,oj,hoj,hall⟩:=mem_ready.1 hj;have hnot:∀ e∈oj.after,Region.binds md e=true→e.on≠i:=fun e he hb heq=>by
    have h1:=hall e he hb;have h0:=(mem_ready.1 hr).1;rw [heq] at h1;rcases Nat.lt_or_ge i listed.size with h' | h'
    ·simp [h'] at h0 h1;rw [h0] at h1;cases h1
    ·simp [Array.getElem?_eq_none h'] at h1
   have hjg:j≠g:=by
    rintro rfl;obtain ⟨e,he,hb,heq⟩:=hwg;rw [hgo] at hoj;cases hoj;have h1:=hall e he hb;rw [heq] at h1;rcases Nat.lt_or_ge m listed.size with h' | h'
    ·simp [h'] at hlm h1;rw [hlm] at h1;cases h1
    ·simp [Array.getElem?_eq_none h'] at h1
   have hjm:j≠m:=by
    rintro rfl;obtain ⟨e,he,hb,heq⟩:=hwm;rw [hmo] at hoj;cases hoj;exact hnot e he hb heq
   have h2:=wpOp_putIf hoj (hfree j oj hoj hji hjun hnot) (fun cs b=>hsel i oi cs b hi) (fun cs b=>hsel j oj cs b hoj) hQ hy h1
   have hfree':∀ k ok,ops[k]? = some ok→k≠i→(listed.setIfInBounds j true).getD k true=false →
     (∀ e∈ok.after,Region.binds md e=true→e.on≠i)→oi.apart ops ok=true:=fun k ok hk hki hun hno=>by
    refine hfree k ok hk hki ?_ hno;by_cases hjk:j=k
    ·subst hjk;exact hjun
    ·rw [getD_set_ne true hjk] at hun;exact hun
   have hlg':(listed.setIfInBounds j true).getD g true=false:=by rw [getD_set_ne true hjg];exact hlg
   have hlm':(listed.setIfInBounds j true).getD m true=false:=by rw [getD_set_ne true hjm];exact hlm
   refine wpOp_mono (fun a' w' h3=>?_) h2
   have hT':T w':=h3.2.1 (by rw [getD_set_ne true hjg,getD_set_ne true (Ne.symm hgi)];exact hlg)
   refine ⟨fun _=>hT',ih (listed.setIfInBounds j true) a' w' hfree' (ready_mono hr (Ne.symm hji)) hlg' hlm' h3.1 hT' ?_⟩
   rw [Array.setIfInBounds_comm _ _ hji];exact h3.2.2
theorem L_take2 {i:Nat} {oi om og:Oper} {v:Value} {fuel:Nat} {listed:Array Bool} {a:Act} {w:World} (hi:ops[i]? = some oi) (hmo:ops[m]? = some om) (hgo:ops[g]? = some og)
  (hwm:(om.after.any fun e=>Region.binds md e && e.on == i)=true) (hwg:(og.after.any fun e=>Region.binds md e && e.on == m)=true) (hgi:g≠i)
  (hs:Region.noSelect ops=true) (hf:Region.free md ops listed i=true) (hr:(Region.ready md ops listed).contains i=true) (hlg:listed.getD g true=false) (hlm:listed.getD m true=false)
  (hQ:∀ c a w,Q (.panic c) (a.put oi.dst v) w→Q (.panic c) a w) (hy:YieldsIf P ops T oi v a) (hT:T w)
  (h:Qa1 P md ops Q g T fuel (listed.setIfInBounds i true) (a.put oi.dst v) w):Qa1 P md ops Q g T (fuel+1) listed a w:=by
 have any:∀ (o:Oper) (k:Nat),(o.after.any fun e=>Region.binds md e && e.on == k)=true→∃ e∈o.after,Region.binds md e=true∧e.on=k:=fun o k hw=>by
  rw [Array.any_eq_true] at hw;obtain ⟨q,hq,he⟩:=hw;simp only [Bool.and_eq_true,beq_iff_eq] at he;exact ⟨o.after[q],Array.getElem_mem hq,he.1,he.2⟩
 exact L_first2 hi hmo hgo (any om i hwm) (any og m hwg) hgi (Region.noSelect_spec hs) hQ fuel listed a w (Region.free_spec hi hf) (by simpa using hr) hlg hlm hy hT h
theorem Qic {i fuel:Nat} {listed:Array Bool} {a:Act} {w:World} (hr:Region.ready md ops listed=[i])
  (h:wpOp P ops Q i (fun a' w'=>T w'∧Qa1 P md ops Q g T fuel (listed.setIfInBounds i true) a' w') a w):Qa1 P md ops Q g T (fuel+1) listed a w:=by
 refine ⟨(fun h0=>by rw [hr] at h0;simp at h0),fun j hj=>?_⟩
 rw [hr] at hj;obtain rfl:=List.mem_singleton.1 hj;exact wpOp_mono (fun a' w' h'=>⟨fun _=>h'.1,h'.2⟩) h
theorem L_two {i j fuel:Nat} {listed:Array Bool} {a:Act} {w:World} (hr:Region.ready md ops listed=[i,j])
  (h1:wpOp P ops Q i (fun a' w'=>T w'∧Qa1 P md ops Q g T fuel (listed.setIfInBounds i true) a' w') a w)
  (h2:wpOp P ops Q j (fun a' w'=>T w'∧Qa1 P md ops Q g T fuel (listed.setIfInBounds j true) a' w') a w):Qa1 P md ops Q g T (fuel+1) listed a w:=by
 refine ⟨(fun h0=>by rw [hr] at h0;simp at h0),fun k hk=>?_⟩
 rw [hr] at hk;rcases List.mem_cons.1 hk with rfl | hk
 ·exact wpOp_mono (fun a' w' h'=>⟨fun _=>h'.1,h'.2⟩) h1
 ·obtain rfl:=List.mem_singleton.1 hk;exact wpOp_mono (fun a' w' h'=>⟨fun _=>h'.1,h'.2⟩) h2
end
end
section
open Go Go.Proofs.Tryz
section
variable {P:Program} {ops:Array Oper} {Q:Exit→Act→World→Prop} {md:Region.Mode} {T:World→Prop} {g:Nat}
theorem L_firstC {i:Nat} {oi:Oper} {v:Value} {C:List Nat} (hi:ops[i]? = some oi) (hC:∀ k∈C,∃ ok,ops[k]? = some ok∧∃ e∈ok.after,Region.binds md e=true∧(e.on=i∨e.on∈C)) (hgC:g∈C) (hgi:g≠i)
  (hsel:∀ (j:Nat) (o:Oper) cs b,ops[j]? = some o→o.op≠.select cs b) (hQ:∀ c a w,Q (.panic c) (a.put oi.dst v) w→Q (.panic c) a w) :
  ∀ (fuel:Nat) (listed:Array Bool) (a:Act) (w:World),
   (∀ j oj,ops[j]? = some oj→j≠i→listed.getD j true=false→(∀ e∈oj.after,Region.binds md e=true→e.on≠i)→oi.apart ops oj=true) →
   i∈Region.ready md ops listed→(∀ k∈C,listed.getD k true=false)→YieldsIf P ops T oi v a→T w →
   Qa1 P md ops Q g T fuel (listed.setIfInBounds i true) (a.put oi.dst v) w→Qa1 P md ops Q g T (fuel+1) listed a w:=by
 intro fuel
 induction fuel with
 | zero=>
  intro listed a w _ hr _ hy hT H;refine ⟨fun h=>(by rw [h] at hr;cases hr),fun j hj=>?_⟩
  by_cases hji:j=i
  ·subst hji;exact hy.wpOp hi hT ⟨fun _=>hT,H⟩
  ·have:=ready_mono hj hji
   rw [H.1] at this;cases this
 | succ fuel ih=>
  intro listed a w hfree hr hlC hy hT H;refine ⟨fun h=>(by rw [h] at hr;cases hr),fun j hj=>?_⟩
  by_cases hji:j=i
  ·subst hji;exact hy.wpOp hi hT ⟨fun _=>hT,H⟩
  ·have h1:=H.2 j (ready_mono hj hji);obtain ⟨hjun,oj,hoj,hall⟩:=mem_ready.1 hj;have hnot:∀ e∈oj.after,Region.binds md e=true→e.on≠i:=fun e he hb heq=>by
    have h1:=hall e he hb;have h0:=(mem_ready.1 hr).1;rw [heq] at h1;rcases Nat.lt_or_ge i listed.size with h' | h'
    ·simp [h'] at h0 h1;rw [h0] at h1;cases h1
    ·simp [Array.getElem?_eq_none h'] at h1
   have hjC:∀ k∈C,j≠k:=fun k hk hjk=>by
    obtain ⟨ok,hok,e,he,hb,ho⟩:=hC k hk;rw [← hjk,hoj] at hok;cases hok;rcases ho with ho | ho
    ·exact hnot e he hb ho
    ·have h1:=hall e he hb;have hl:=hlC _ ho;rcases Nat.lt_or_ge e.on listed.size with h' | h'
     ·simp [h'] at hl h1;rw [hl] at h1;cases h1
     ·simp [Array.getElem?_eq_none h'] at h1
   have h2:=wpOp_putIf hoj (hfree j oj hoj hji hjun hnot) (fun cs b=>hsel i oi cs b hi) (fun cs b=>hsel j oj cs b hoj) hQ hy h1
   have hfree':∀ k ok,ops[k]? = some ok→k≠i→(listed.setIfInBounds j true).getD k true=false →
     (∀ e∈ok.after,Region.binds md e=true→e.on≠i)→oi.apart ops ok=true:=fun k ok hk hki hun hno=>by
    refine hfree k ok hk hki ?_ hno;by_cases hjk:j=k
    ·subst hjk;exact hjun
    ·rw [getD_set_ne true hjk] at hun;exact hun
   have hlC':∀ k∈C,(listed.setIfInBounds j true).getD k true=false:=fun k hk=>by rw [getD_set_ne true (hjC k hk)];exact hlC k hk
   refine wpOp_mono (fun a' w' h3=>?_) h2
   have hT':T w':=h3.2.1 (by rw [getD_set_ne true (hjC g hgC),getD_set_ne true (Ne.symm hgi)];exact hlC g hgC)
   refine ⟨fun _=>hT',ih (listed.setIfInBounds j true) a' w' hfree' (ready_mono hr (Ne.symm hji)) hlC' h3.1 hT' ?_⟩
   rw [Array.setIfInBounds_comm _ _ hji];exact h3.2.2
def waits (md:Region.Mode) (ops:Array Oper) (i:Nat) (C:List Nat) (k:Nat):Bool:=match ops[k]? with
 | some ok=>ok.after.any fun e=>Region.binds md e && (e.on == i || C.contains e.on)
 | none=>false
theorem Qam (C:List Nat) {i:Nat} {oi:Oper} {v:Value} {fuel:Nat} {listed:Array Bool} {a:Act} {w:World} (hi:ops[i]? = some oi)
  (hC:C.all (waits md ops i C)=true) (hgC:C.contains g=true) (hgi:g≠i)
  (hs:Region.noSelect ops=true) (hf:Region.free md ops listed i=true) (hr:(Region.ready md ops listed).contains i=true) (hl:C.all (fun k=>!(listed.getD k true))=true)
  (hQ:∀ c a w,Q (.panic c) (a.put oi.dst v) w→Q (.panic c) a w) (hy:YieldsIf P ops T oi v a) (hT:T w)
  (h:Qa1 P md ops Q g T fuel (listed.setIfInBounds i true) (a.put oi.dst v) w):Qa1 P md ops Q g T (fuel+1) listed a w:=by
 refine L_firstC hi (fun k hk=>?_) (by simpa using hgC) hgi (Region.noSelect_spec hs) hQ fuel listed a w (Region.free_spec hi hf) (by simpa using hr) (fun k hk=>?_) hy hT h
 ·have:=List.all_eq_true.1 hC k hk
  unfold waits at this;split at this
  ·rename_i ok hok;rw [Array.any_eq_true] at this;obtain ⟨q,hq,he⟩:=this;simp only [Bool.and_eq_true,Bool.or_eq_true,beq_iff_eq,List.contains_iff_mem] at he;exact ⟨ok,hok,ok.after[q],Array.getElem_mem hq,he.1,he.2⟩
  ·cases this
 ·have:=List.all_eq_true.1 hl k hk
  simpa using this
end
end
section
open Go Go.Proofs.Tryz
section
variable {P:Program} {ops:Array Oper} {Q:Exit→Act→World→Prop} {md:Region.Mode} {T:World→Prop} {g:Nat}
theorem L_firstP {i:Nat} {oi:Oper} {v:Value} (hi:ops[i]? = some oi) (hgi:g≠i)
  (hsel:∀ (j:Nat) (o:Oper) cs b,ops[j]? = some o→o.op≠.select cs b) (hQ:∀ c a w,Q (.panic c) (a.put oi.dst v) w→Q (.panic c) a w) :
  ∀ (fuel:Nat) (listed:Array Bool) (a:Act) (w:World),
   (∀ j oj,ops[j]? = some oj→j≠i→listed.getD j true=false→(∀ e∈oj.after,Region.binds md e=true→e.on≠i)→oi.apart ops oj=true) →
   i∈Region.ready md ops listed→YieldsIf P ops (fun _=>True) oi v a→(listed.getD g true=false→T w) →
   Qa1 P md ops Q g T fuel (listed.setIfInBounds i true) (a.put oi.dst v) w→Qa1 P md ops Q g T (fuel+1) listed a w:=by
 have hset:∀ listed:Array Bool,(listed.setIfInBounds i true).getD g true=listed.getD g true:=fun listed=>getD_set_ne true (Ne.symm hgi)
 intro fuel
 induction fuel with
 | zero=>
  intro listed a w _ hr hy hT H;refine ⟨fun h=>(by rw [h] at hr;cases hr),fun j hj=>?_⟩
  by_cases hji:j=i
  ·subst hji;exact hy.wpOp hi trivial ⟨fun h=>hT (by rw [← hset];exact h),H⟩
  ·have:=ready_mono hj hji
   rw [H.1] at this;cases this
 | succ fuel ih=>
  intro listed a w hfree hr hy hT H;refine ⟨fun h=>(by rw [h] at hr;cases hr),fun j hj=>?_⟩
  by_cases hji:j=i
  ·subst hji;exact hy.wpOp hi trivial ⟨fun h=>hT (by rw [← hset];exact h),H⟩
  ·have h1:=H.2 j (ready_mono hj hji);obtain ⟨hjun,oj,hoj,hall⟩:=mem_ready.1 hj;have hnot:∀ e∈oj.after,Region.binds md e=true→e.on≠i:=fun e he hb heq=>by
    have h1:=hall e he hb;have h0:=(mem_ready.1 hr).1;rw [heq] at h1;rcases Nat.lt_or_ge i listed.size with h' | h'
    ·simp [h'] at h0 h1;rw [h0] at h1;cases h1
    ·simp [Array.getElem?_eq_none h'] at h1
   have h2:=wpOp_putIf hoj (hfree j oj hoj hji hjun hnot) (fun cs b=>hsel i oi cs b hi) (fun cs b=>hsel j oj cs b hoj) hQ hy h1
   have hfree':∀ k ok,ops[k]? = some ok→k≠i→(listed.setIfInBounds j true).getD k true=false →
     (∀ e∈ok.after,Region.binds md e=true→e.on≠i)→oi.apart ops ok=true:=fun k ok hk hki hun hno=>by
    refine hfree k ok hk hki ?_ hno;by_cases hjk:j=k
    ·subst hjk;exact hjun
    ·rw [getD_set_ne true hjk] at hun;exact hun
   refine wpOp_mono (fun a' w' h3=>?_) h2
   have hT':(listed.setIfInBounds j true).getD g true=false→T w':=fun hg=>h3.2.1 (by
    rw [Array.setIfInBounds_comm _ _ (Ne.symm hji),hset];exact hg)
   refine ⟨hT',ih (listed.setIfInBounds j true) a' w' hfree' (ready_mono hr (Ne.symm hji)) h3.1 hT' ?_⟩;rw [Array.setIfInBounds_comm _ _ hji];exact h3.2.2
theorem QaP {i:Nat} {oi:Oper} {v:Value} {fuel:Nat} {listed:Array Bool} {a:Act} {w:World} (hi:ops[i]? = some oi) (hgi:g≠i)
  (hs:Region.noSelect ops=true) (hf:Region.free md ops listed i=true) (hr:(Region.ready md ops listed).contains i=true)
  (hQ:∀ c a w,Q (.panic c) (a.put oi.dst v) w→Q (.panic c) a w) (hy:YieldsIf P ops (fun _=>True) oi v a) (hT:T w)
  (h:Qa1 P md ops Q g T fuel (listed.setIfInBounds i true) (a.put oi.dst v) w):Qa1 P md ops Q g T (fuel+1) listed a w:=
 L_firstP hi hgi (Region.noSelect_spec hs) hQ fuel listed a w (Region.free_spec hi hf) (by simpa using hr) hy (fun _=>hT) h
end
end
section
open Go Go.Proofs.Tryz
section
variable {P:Program} {ops:Array Oper} {rest:List Oper} {o:Oper} {a:Act} {w w':World} {K:Act→World→Prop} {Q:Exit→Act→World→Prop} {v:Value}
theorem wp_build_run (t:TypeId) (parts:Array (Nat×Operand)) (ho:o.op=.build t parts) (ps:Array (Nat×Value)) (hp:(parts.map fun (i,x)=>(i,a.eval x))=ps) (hr:(Instr.build t ps).run P w=.ok v w') (h:K (a.put o.dst v) w'):o.wp P a w K Q:=by
 unfold Oper.wp execOp;simp only [ho,Sem.run_bind,Sem.run_pure,Result.andThen_ok,hp,hr];exact h
theorem QfB (t:TypeId) (m:Nat) (parts:Array (Nat×Operand)) (ho:o.op=.buildSlice t m parts) (ps:Array (Nat×Value)) (hp:(parts.map fun (i,x)=>(i,a.eval x))=ps) (hr:(Instr.buildSlice t m ps).run P w=.ok v w') (h:K (a.put o.dst v) w'):o.wp P a w K Q:=by
 unfold Oper.wp execOp;simp only [ho,Sem.run_bind,Sem.run_pure,Result.andThen_ok,hp,hr];exact h
theorem QdR (t:TypeId) (ho:o.op=.alloc t) (hr:(Instr.alloc t true (.tuple #[])).run P w=.ok v w') (h:K (a.put o.dst v) w'):o.wp P a w K Q:=by
 unfold Oper.wp execOp;simp only [ho,Sem.run_bind,Sem.run_pure,Result.andThen_ok,hr];exact h
theorem wp_load_run (t:TypeId) (x:Operand) (ho:o.op=.load t x) (u:Value) (hx:a.eval x=u) (hr:(Instr.loadAt t u).run P w=.ok v w') (h:K (a.put o.dst v) w'):o.wp P a w K Q:=by
 unfold Oper.wp execOp;simp only [ho,Sem.run_bind,Sem.run_pure,Result.andThen_ok,hx,hr];exact h
theorem Qca (t:TypeId) (x y:Operand) (ho:o.op=.store t x y) (u z:Value) (hx:a.eval x=u) (hy:a.eval y=z) (hr:(Instr.storeAt t u z).run P w=.ok () w') (h:K (a.put o.dst undef) w'):o.wp P a w K Q:=by
 unfold Oper.wp execOp;simp only [ho,Sem.run_bind,Sem.run_pure,Result.andThen_ok,hx,hy,hr];exact h
theorem Qdp (d s:Operand) (t t':TypeId) (ho:o.op=.call { callee:=.builtin .copy,args:=#[d,s],argTypes:=#[t,t'] }) (u z:Value) (hd:a.eval d=u) (hs:a.eval s=z)
  (hr:(Builtin.copy_ #[t,t'] o.type #[u,z]).run P w=.ok v w') (h:K (a.put o.dst v) w'):o.wp P a w K Q:=by
 unfold Oper.wp execOp;simp only [ho,resolve,invoke,builtin,Sem.run_bind,Sem.run_pure,Result.andThen_ok,List.map_toArray,List.map_cons,List.map_nil,hd,hs,hr];exact h
theorem Qdn (d s:Operand) (t t':TypeId) (ho:o.op=.call { callee:=.builtin .append,args:=#[d,s],argTypes:=#[t,t'] }) (u z:Value) (hd:a.eval d=u) (hs:a.eval s=z)
  (hr:(Builtin.append_ #[t,t'] o.type #[u,z]).run P w=.ok v w') (h:K (a.put o.dst v) w'):o.wp P a w K Q:=by
 unfold Oper.wp execOp;simp only [ho,resolve,invoke,builtin,Sem.run_bind,Sem.run_pure,Result.andThen_ok,List.map_toArray,List.map_cons,List.map_nil,hd,hs,hr];exact h
theorem Qbj (hgd:o.guard=none) (t:TypeId) (parts:Array (Nat×Operand)) (ho:o.op=.build t parts) (ps:Array (Nat×Value)) (hp:(parts.map fun (i,x)=>(i,a.eval x))=ps) (hr:(Instr.build t ps).run P w=.ok v w') (h:wpList P ops Q rest (a.put o.dst v) w'):wpList P ops Q (o :: rest) a w:=
 wpList_plain hgd fun _ hK=>wp_build_run t parts ho ps hp hr (hK _ _ h)
theorem Qae (hgd:o.guard=none) (t:TypeId) (ho:o.op=.alloc t) (hr:(Instr.alloc t true (.tuple #[])).run P w=.ok v w') (h:wpList P ops Q rest (a.put o.dst v) w'):wpList P ops Q (o :: rest) a w:=
 wpList_plain hgd fun _ hK=>QdR t ho hr (hK _ _ h)
theorem Qao (hgd:o.guard=none) (t:TypeId) (x:Operand) (ho:o.op=.load t x) (u:Value) (hx:a.eval x=u) (hr:(Instr.loadAt t u).run P w=.ok v w') (h:wpList P ops Q rest (a.put o.dst v) w'):wpList P ops Q (o :: rest) a w:=
 wpList_plain hgd fun _ hK=>wp_load_run t x ho u hx hr (hK _ _ h)
theorem Qac (hgd:o.guard=none) (t:TypeId) (x y:Operand) (ho:o.op=.store t x y) (u z:Value) (hx:a.eval x=u) (hy:a.eval y=z) (hr:(Instr.storeAt t u z).run P w=.ok () w') (h:wpList P ops Q rest (a.put o.dst undef) w'):wpList P ops Q (o :: rest) a w:=
 wpList_plain hgd fun _ hK=>Qca t x y ho u z hx hy hr (hK _ _ h)
theorem QdK (hgd:o.guard=none) (d s:Operand) (t t':TypeId) (ho:o.op=.call { callee:=.builtin .copy,args:=#[d,s],argTypes:=#[t,t'] }) (u z:Value) (hd:a.eval d=u) (hs:a.eval s=z)
  (hr:(Builtin.copy_ #[t,t'] o.type #[u,z]).run P w=.ok v w') (h:wpList P ops Q rest (a.put o.dst v) w'):wpList P ops Q (o :: rest) a w:=
 wpList_plain hgd fun _ hK=>Qdp d s t t' ho u z hd hs hr (hK _ _ h)
theorem wpList_append_run (hgd:o.guard=none) (d s:Operand) (t t':TypeId) (ho:o.op=.call { callee:=.builtin .append,args:=#[d,s],argTypes:=#[t,t'] }) (u z:Value) (hd:a.eval d=u) (hs:a.eval s=z)
  (hr:(Builtin.append_ #[t,t'] o.type #[u,z]).run P w=.ok v w') (h:wpList P ops Q rest (a.put o.dst v) w'):wpList P ops Q (o :: rest) a w:=
 wpList_plain hgd fun _ hK=>Qdn d s t t' ho u z hd hs hr (hK _ _ h)
theorem Qab {id:Nat} (hm:P.follows .mixedOrders=true) (h:wpAny P .any ops Q ops.size (Array.replicate ops.size false) a w.drew):(Code.region id ops true).wp P Q a w:=wp_region_any hm h
theorem fold_sets:∀ (vs:List Value) (k:Nat) (cs:Array Value),k+vs.length=cs.size→(vs.zipIdx k).foldl (fun (c:Array Value) (x:Value×Nat)=>c.setIfInBounds (0+x.2) x.1) cs=(cs.toList.take k++vs).toArray
 | [],k,cs,h=>by
  simp only [List.zipIdx_nil,List.foldl_nil,List.append_nil];rw [List.take_of_length_le (by simp at h ⊢;omega)]
 | v :: vs,k,cs,h=>by
  simp only [List.zipIdx_cons,List.foldl_cons];rw [fold_sets vs (k+1) _ (by simp at h ⊢;omega)]
  congr 1;have hk:k<cs.toList.length:=by simp at h ⊢;omega
  simp only [Nat.zero_add,Array.toList_setIfInBounds];rw [List.take_add_one,List.getElem?_set_self hk,List.take_set_of_le (Nat.le_refl _)];simp
theorem Qib (t e:TypeId) (i:TypeInfo) (z:Value) (ht:P.underlying t=some (.slice e)) (hi:P.info? e=some i) (hz:i.zero=some z) (cs:Array Value) (hs:cs.size=i.size) (h0:0<i.size) (h1:i.size≤16777216) (w:World) :
  (Instr.buildSlice t 1 #[(0,.agg cs)]).run P w=.ok (.slice (some ⟨w.heap.size,0,none⟩) 1 1) (w.alloc (.cells cs e)):=by
 refine run_buildSlice w t e 1 _ cs i z ht hi hz (by omega) (by omega) ?_
 have hsz:∀ f:Nat→Value,((Array.range (1*i.size)).map f).size=i.size:=fun f=>by simp
 simp only [Instr.fill,Value.cells,Nat.zero_mul];rw [if_neg (by simp [hs])]
 rw [← Array.foldl_toList,Array.toList_zipIdx]
 have:=fold_sets cs.toList 0 ((Array.range (1*i.size)).map (z.cells[· % z.cells.size]!)) (by rw [hsz];simp [hs])
 simp only [List.take_zero,List.nil_append,Array.toArray_toList] at this;exact congrArg some this
theorem QaQ {S:World→Prop} (hw:Region.wanted o (yielded ops a.tmps)=true) (t:TypeId) (x:Operand) (ho:o.op=.load t x) (u:Value) (hx:a.eval x=u) (hr:∀ w,S w→(Instr.loadAt t u).run P w=.ok v w):YieldsIf P ops S o v a:=
 .inl ⟨hw,fun w hS=>by
  unfold execOp;simp only [ho,Sem.run_bind,Sem.run_pure,Result.andThen_ok,hx,hr w hS]⟩
theorem Qcl {S:World→Prop} (hw:Region.wanted o (yielded ops a.tmps)=true) (t:TypeId) (parts:Array (Nat×Operand)) (ho:o.op=.build t parts) (ps:Array (Nat×Value)) (hp:(parts.map fun (i,x)=>(i,a.eval x))=ps) (hr:∀ w,S w→(Instr.build t ps).run P w=.ok v w):YieldsIf P ops S o v a:=
 .inl ⟨hw,fun w hS=>by
  unfold execOp;simp only [ho,Sem.run_bind,Sem.run_pure,Result.andThen_ok,hp,hr w hS]⟩
end
end
end Go.Proofs.YtjifbbdkpanagaaGreatDoor
