/-
  Part of a proof (see the last text).
-/
import Derived.Test.YtbeanioeeaikkaaGreatDoorZm30
set_option linter.unusedVariables false
set_option linter.unusedSimpArgs false
set_option maxRecDepth 100000
namespace Go.Proofs.YtbeanioeeaikkaaGreatDoor
section
open Go.RowKit Go.Lib Go.Proofs.Tryz
section
variable {W:World} {n0 bj bm:Nat} {v:Value} {es:List Je}
def QhK (W:World) (n:Nat) (v:Value) (l:List Nat):Prop:=W.ownsRow n 3 1 v l.length (l.map fun i=>Value.int .i64 ((i:Nat):Int))
theorem QhK.nil (w:World) (n:Nat):QhK w n (.slice none 0 0) []:=World.ownsRow_nil _ _ _ _
theorem QhK.own {w:World} {n:Nat} {v:Value} {xs:List Nat} (h:QhK w n v xs):∀ j,v.ownBlock=some j→n≤j:=fun j ej=>by
 rcases h.2 with ⟨rfl,_⟩ | ⟨g,cp,cur,rfl,hg,_⟩
 ·cases ej
 ·cases ej;exact hg
theorem QhK.below {w w':World} {n:Nat} {v:Value} {l:List Nat} (h:QhK w n v l) (hb:Below w.heap.size w w'):QhK w' n v l:=by
 rcases h.2 with ⟨hv,hn⟩ | ⟨g1,c1,cur,hv,hb1,hh,r⟩
 ·exact ⟨h.1,.inl ⟨hv,hn⟩⟩
 ·exact ⟨h.1,.inr ⟨g1,c1,cur,hv,hb1,(hb.block g1 (Array.getElem?_eq_some_iff.1 hh).1).trans hh,r⟩⟩
theorem QhK.shape {w:World} {n:Nat} {v:Value} {l:List Nat} (h:QhK w n v l):∃ a cap,v=.slice a l.length cap:=by
 rcases h.2 with ⟨hv,hn⟩ | ⟨g1,c1,cur,hv,_⟩
 ·rw [hn];exact ⟨_,_,hv⟩
 ·exact ⟨_,_,hv⟩
theorem QhK.cell {W:World} {base:Nat} {v:Value} {l:List Nat} (h:QhK W base v l) (k:Nat) (hk:k<l.length):∃ g cap,v=.slice (some ⟨g,0,none⟩) l.length cap∧base≤g∧g<W.heap.size∧∀ k,k<l.length→W.cell? ⟨g,k,none⟩=some (.int .i64 ((l.getD k 0:Nat):Int)):=by
 rcases h.2 with ⟨hv,hn⟩ | ⟨g,cap,cur,hv,hb,hg,_,_,_,ht⟩
 ·omega
 ·refine ⟨g,cap,hv,hb,(Array.getElem?_eq_some_iff.1 hg).1,fun k hk=>?_⟩
  have e1:(l.map fun i=>Value.int .i64 ((i:Nat):Int))[k]? = cur[k]?:=by
   rw [← ht,List.getElem?_take,if_pos (by omega)]
   simp
  have e2:W.cell? ⟨g,k,none⟩=cur[k]?:=by simp [World.cell?,hg]
  rw [e2,← e1,List.getD_eq_getElem?_getD,List.getElem?_eq_getElem hk];simp [hk]
end
end
section
open Go.RowKit Go.Lib Go.Proofs.Tryz
theorem jpair_new (W:World) (x0 x1:ByteArray) (x2:Int) (y0 y1:ByteArray) (y2:Int) (b:Nat) (hb:b=W.heap.size) :
  Qc0 (W.alloc (.cells #[.string x0,.string x1,.int .i64 x2,.string y0,.string y1,.int .i64 y2] 44)) (some ⟨b,0,none⟩) [⟨x0,x1,x2⟩,⟨y0,y1,y2⟩] 2:=by
 subst hb;have h:=World.alloc_heap_new W (.cells #[.string x0,.string x1,.int .i64 x2,.string y0,.string y1,.int .i64 y2] 44);generalize W.alloc (.cells #[.string x0,.string x1,.int .i64 x2,.string y0,.string y1,.int .i64 y2] 44)=V at *
 generalize W.heap.size=b at *
 refine ⟨Nat.le_refl _,.inr ⟨b,0,rfl,(Array.getElem?_eq_some_iff.1 h).1,fun k hk=>?_⟩⟩
 rcases (by simp at hk;omega:k=0∨k=1) with rfl | rfl
 ·exact ⟨by simp [World.cell?,h],by simp [World.cell?,h],by simp [World.cell?,h]⟩
 ·exact ⟨by simp [World.cell?,h],by simp [World.cell?,h],by simp [World.cell?,h]⟩
theorem Qjg (ref:ByteArray) (en pe:Int) (tf fr cur:ByteArray) (n:Int) (w:World) (hn:IntKind.i64.wrap (-n) = -n) :
  Calls prog 7 #[.string ref,.int .i64 en,.int .i64 pe,.string tf,.string fr,.string cur,.int .i64 n] w fun e w'=>∃ a cap,e=.returned (.agg #[.string ref,.int .i64 en,.int .i64 pe,.slice a 2 cap])∧Qc0 w' a [⟨tf,cur,n⟩,⟨fr,cur,-n⟩] cap∧Below w.heap.size w w':=by
 go_enter func7,ntmps7
 go_wp2;have d0:((w.alloc (.cells #[.string ref,.int .i64 en,.int .i64 pe,.slice (some ⟨w.heap.size+1,0,none⟩) 2 2] 38)).alloc (.cells #[.string tf,.string cur,.int .i64 n,.string fr,.string cur,.int .i64 (-n)] 44)).heap[w.heap.size]? = some (.cells #[.string ref,.int .i64 en,.int .i64 pe,.slice (some ⟨w.heap.size+1,0,none⟩) 2 2] 38 (0,0)):=((World.grownBy_alloc _ _ none).block w.heap.size (by simp) (by simp)).trans (World.alloc_heap_new w _)
 have b4:Qcf _ _ _ _ _ _:=d0;have q0:=b4.c0;have q1:=b4.c1;have q2:=b4.c2;have q3:=b4.c3;exact bodyPost_ret (v:=.agg #[.string ref,.int .i64 en,.int .i64 pe,.slice (some ⟨w.heap.size+1,0,none⟩) 2 2]) (by simp [results,Tryz.results7,go_sem,q0,q1,q2,q3]) rfl ⟨_,_,rfl,jpair_new _ _ _ _ _ _ _ _ (by simp),((Below.refl _ w).alloc (Nat.le_refl _) _).alloc (by simp) _⟩
structure JGood (c:List Ac) (es:List Je):Prop where
 ok:∀ x∈es,QaL c x.ref x.ent x.per x.lns=0
 one:(es.map (·.ref)).Nodup
theorem JGood.nil (c:List Ac):JGood c []:=⟨by simp,by simp⟩
theorem JGood.push {c:List Ac} {es:List Je} {x:Je} (h:JGood c es) (h0:pBad c es x.ref x.ent x.per x.lns=0):JGood c (es++[x]):=by
 obtain ⟨h1,h2,_⟩:=pBad_zero.1 h0;refine ⟨fun y hy=>?_,?_⟩
 ·rcases List.mem_append.1 hy with hy | hy
  ·exact h.ok y hy
  ·rw [List.mem_singleton.1 hy];exact h1
 ·rw [List.map_append,List.nodup_append];refine ⟨h.one,by simp,fun a ha b hb e=>?_⟩
  simp only [List.map_cons,List.map_nil,List.mem_singleton] at hb;subst hb;subst e;exact Qfx.1 h2 ha
theorem JGood.lns {c:List Ac} {es:List Je} (h:JGood c es) {x:Je} (hx:x∈es):x.lns≠[]∧x.lns.length≤20:=by
 obtain ⟨_,h2,_⟩:=Qdr.1 (h.ok x hx)
 have:=Qdp h2
 exact ⟨fun e=>by rw [e] at this;simp at this,this.2⟩
theorem headBad_en {r:ByteArray} {en pe:Int} {n:Nat} (h:QaB r en pe n=0):1≤en∧en≤12∧1≤pe∧pe≤120:=by
 unfold QaB at h;split at h
 ·omega
 ·split at h
  ·omega
  ·rename_i h2;simp only [not_or,Qar,Bool.not_eq_false,Bool.and_eq_true,decide_eq_true_eq] at h2;omega
theorem JGood.ent {c:List Ac} {es:List Je} (h:JGood c es) {x:Je} (hx:x∈es):1≤x.ent∧x.ent≤12∧1≤x.per∧x.per≤120:=headBad_en (Qdr.1 (h.ok x hx)).2.1
end
section
open Go.RowKit Go.Lib Go.Proofs.Tryz
theorem en_get (s:ByteArray) (k:Nat) (h:k<s.size):s.get! k=s[k]'h:=by
 show s.data[k]! = s.data[k]'h;exact getElem!_pos s.data k h
theorem refAmount_any (n:Int) (w:World) :
  Calls prog 55 #[.int .i64 n] w fun e w'=>e=.returned (.bool (Qas n))∧w'=w:=by
 by_cases h:-1000000000000000≤n
 ·have:Qas n=decide (n≤1000000000000000):=by simp [Qas,h]
  rw [this];go_enter func55,ntmps55
  go_wp2;go_ret;exact ⟨rfl,rfl⟩
 ·have:Qas n=false:=by simp [Qas,h]
  rw [this];go_enter func55,ntmps55
  go_wp2;go_ret;exact ⟨rfl,rfl⟩
theorem refRef_any (s:ByteArray) (w:World) :
  Calls prog 50 #[.string s] w fun e w'=>e=.returned (.bool (Qbl s))∧w'=w:=by
 by_cases h0:s.size=0
 ·have e0:=en_empty h0;have e1:Qbl s=false:=by simp [Qbl,h0]
  rw [e1];go_enter func50,ntmps50
  go_wp2;go_ret;exact ⟨rfl,rfl⟩
 have e0:=en_some h0;have e0':s.toList.isEmpty=false:=by simpa using e0
 by_cases h1:s.size≤12
 ·have h1'':¬ ((12:Int)<s.size):=by omega
  have h2':(0:Int)<s.size:=by omega
  have hp:0<s.size:=by omega
  have hg:s.get! 0=s[0]'hp:=getElem!_pos s.data 0 hp;by_cases h2:(s.get! 0).toNat=45
  ·have er:Qbl s=false:=by simp [Qbl,h2]
   have h3:((s[0]'hp).toNat:Int)=45:=by rw [← hg,h2];rfl
   rw [er];clear h2 hg;go_enter func50,ntmps50
   go_wp2;go_ret;exact ⟨rfl,rfl⟩
  have h3:¬ ((s[0]'hp).toNat:Int)=45:=by rw [← hg];omega
  have h3b:(((s[0]'hp).toNat:Int) == 45)=false:=by simpa using h3
  have H2:Hid ((s.get! 0).toNat≠45):=h2;clear h2 hg;obtain ⟨res,hres⟩:∃ res,Qbl s=res:=⟨_,rfl⟩;have Hres:Hid (Qbl s=res):=hres;rw [hres];clear hres;go_enter func50,ntmps50
  go_wp2;go_loop [3] (fun i=>∃ k:Nat,k≤s.size∧i=.int .i64 k∧Hid (∀ j,j<k→Qdh (s.get! j).toNat=false)) (fun i=>s.size - (RowKit.intOf i).toNat)
  case atStart=>exact ⟨0,Nat.zero_le _,rfl,fun j hj=>absurd hj (Nat.not_lt_zero _)⟩
  case round=>
   obtain ⟨k,hk,rfl,Hk⟩:=hrel;by_cases hlt:k<s.size
   ·have i0:(0:Int)≤k:=by omega
    have i1:(k:Int)<s.size:=by omega
    obtain ⟨c,hc⟩:∃ c,(s[k]'hlt).toNat=c:=⟨_,rfl⟩;have Hg:Hid (Qdh (s.get! k).toNat=Qdh c):=by unfold Hid;rw [en_get s k hlt,hc]
    have bad:Qdh c=true→res=false:=fun hb=>by
     rw [← Hres.out];cases hm:Qbl s
     ·rfl
     ·have:=(Qi7.1 hm).2.2.2 k hlt
      rw [Hg.out,hb] at this;cases this
    have HN:Hid (Qdh c=false→∀ j,j<k+1→Qdh (s.get! j).toNat=false):=fun hb j hj=>by
     rcases (by omega:j<k∨j=k) with h' | rfl
     ·exact Hk.out j h'
     ·rw [Hg.out];exact hb
    have hcs:(c:Int)=45∨((c:Int)≠45∧(c:Int)<48)∨((48:Int)≤c∧(c:Int)≤57)∨((57:Int)<c∧(c:Int)<97)∨((97:Int)≤c∧(c:Int)≤122)∨(122:Int)<c:=by omega
    rcases hcs with a | ⟨a,b⟩ | ⟨a,b⟩ | ⟨a,b⟩ | ⟨a,b⟩ | a
    ·have HM:Hid _:=HN.out (by simp [Qdh];omega)
     clear bad HN;have q:((c:Int) != 45)=false:=by simp;omega
     go_wp2;go_round
     case rel=>exact ⟨k+1,by omega,by go_num,HM⟩
     case measure=>simp [RowKit.intOf];omega
    ·have e1:=bad (by simp [Qdh];omega)
     subst e1;clear bad HN;have q:((c:Int) != 45)=true:=by simp;omega
     have q2:(c:Int)<97:=by omega
     go_wp2;go_ret;exact ⟨rfl,rfl⟩
    ·have HM:Hid _:=HN.out (by simp [Qdh];omega)
     clear bad HN;have q:((c:Int) != 45)=true:=by simp;omega
     have q2:¬ (c:Int)<48:=by omega
     have q3:¬ (57:Int)<c:=by omega
     go_wp2;go_round
     case rel=>exact ⟨k+1,by omega,by go_num,HM⟩
     case measure=>simp [RowKit.intOf];omega
    ·have e1:=bad (by simp [Qdh];omega)
     subst e1;clear bad HN;have q:((c:Int) != 45)=true:=by simp;omega
     have q2:¬ (c:Int)<48:=by omega
     go_wp2;go_ret;exact ⟨rfl,rfl⟩
    ·have HM:Hid _:=HN.out (by simp [Qdh];omega)
     clear bad HN;have q:((c:Int) != 45)=true:=by simp;omega
     have q2:¬ (c:Int)<48:=by omega
     have q3:(57:Int)<c:=by omega
     have q4:¬ (c:Int)<97:=by omega
     have q5:¬ (122:Int)<c:=by omega
     go_wp2;go_round
     case rel=>exact ⟨k+1,by omega,by go_num,HM⟩
     case measure=>simp [RowKit.intOf];omega
    ·have e1:=bad (by simp [Qdh];omega)
     subst e1;clear bad HN;have q:((c:Int) != 45)=true:=by simp;omega
     have q2:¬ (c:Int)<48:=by omega
     have q3:(57:Int)<c:=by omega
     have q4:¬ (c:Int)<97:=by omega
     go_wp2;go_ret;exact ⟨rfl,rfl⟩
   ·have hk2:k=s.size:=by omega
    have er:res=true:=by
     rw [← Hres.out];exact Qi7.2 ⟨h0,h1,H2.out,fun i hi=>Hk.out i (by omega)⟩
    subst er;go_wp2;go_ret;exact ⟨rfl,rfl⟩
 ·have h1'':(12:Int)<s.size:=by omega
  have e1:Qbl s=false:=by simp [Qbl,h1]
  rw [e1];go_enter func50,ntmps50
  go_wp2;go_ret;exact ⟨rfl,rfl⟩
end
end Go.Proofs.YtbeanioeeaikkaaGreatDoor
