/-
  Part of a proof (see the last text).
-/
import Derived.Test.YtjifbbdkpanagaaGreatDoorZd22
set_option linter.unusedVariables false
set_option linter.unusedSimpArgs false
set_option maxRecDepth 100000
namespace Go.Proofs.YtjifbbdkpanagaaGreatDoor
section
open Go.RowKit Go.Lib Math Go.Proofs.Tryz
def tgE (ps:List Pt):Int:=if 200<ps.length then 4 else if ps.all (fun p=>decide (-9223372036854775808≤p.zs.sum∧p.zs.sum≤9223372036854775807))=true then 0 else 10
def Qcq (ps:List Pt) (i:Nat):Bl:=(ps.map Pt.bal).getD i bl0
theorem Qfk (ps:List Pt) (i:Nat) (h:i<ps.length):Qcq ps i=(ps[i]).bal:=by
 unfold Qcq;rw [List.getD_eq_getElem?_getD,List.getElem?_map,List.getElem?_eq_getElem h];rfl
theorem balAt_all (ps:List Pt):(List.range ps.length).map (Qcq ps)=ps.map Pt.bal:=by
 apply List.ext_getElem?;intro i;by_cases h:i<ps.length
 ·rw [List.getElem?_map,List.getElem?_range h,Option.map_some,Qfk ps i h,List.getElem?_map,List.getElem?_eq_getElem h];rfl
 ·rw [List.getElem?_eq_none (by simp;omega),List.getElem?_eq_none (by simp;omega)]
theorem seen_perm {n:Nat} {sn:List Nat} (h1:sn.Nodup) (h2:∀ i∈sn,i<n) (h3:∀ i,i<n→i∈sn):sn.Perm (List.range n):=
 (List.perm_ext_iff_of_nodup h1 List.nodup_range).2 (fun i=>⟨fun h=>List.mem_range.2 (h2 i h),fun h=>h3 i (List.mem_range.1 h)⟩)
theorem seen_le {n:Nat} {sn:List Nat} (h1:sn.Nodup) (h2:∀ i∈sn,i<n):sn.length≤n:=by
 have key:∀ (l m:List Nat),l.Nodup→(∀ k∈l,k∈m)→l.length≤m.length:=by
  intro l
  induction l with
  | nil=>intro m _ _;exact Nat.zero_le _
  | cons k l ih=>
   intro m h hs;obtain ⟨g1,g2⟩:=List.nodup_cons.1 h;obtain ⟨s,t,rfl⟩:=List.append_of_mem (hs k (List.mem_cons_self ..))
   have:=ih (s++t) g2 (fun q hq=>by
    have h3:=hs q (List.mem_cons_of_mem _ hq);simp only [List.mem_append,List.mem_cons] at h3 ⊢;rcases h3 with h3 | h3 | h3
    ·exact .inl h3
    ·exact absurd (h3▸hq) g1
    ·exact .inr h3)
   simp only [List.length_append,List.length_cons] at this ⊢;omega
 have:=key sn (List.range n) h1 (fun k hk=>List.mem_range.2 (h2 k hk))
 simpa using this
def QfT (W:World) (r:Nat):Nat:=match W.heap[r]? with | some (.mapIter _ _ seen _)=>seen.size | _=>0
theorem Qfh {W:World} {r:Nat} {m:Option Nat} {s c:Nat} {sn:List Nat} (h:W.heap[r]? = some (.mapIter m s sn.toArray c)):QfT W r=sn.length:=by
 unfold QfT;rw [h];simp
structure Tg (W:World) (n mb:Nat) (ps:List Pt) (vs:Nat→Value) (r:Nat) (sn:List Nat) (lv:Value) (U:World):Prop where
 nd:sn.Nodup
 lt:∀ i∈sn,i<ps.length
 ok:∀ i∈sn,-9223372036854775808≤(Qcq ps i).amt∧(Qcq ps i).amt≤9223372036854775807
 it:U.heap[r]? = some (.mapIter (some mb) ps.length sn.toArray ps.length)
 pm:PMp U n mb ps vs
 row:Qba U W.heap.size lv (QeV (sn.map (Qcq ps)))
 bel:Below W.heap.size W U
theorem full_len (l:List Bl):(QeV l).length≤l.length:=List.length_filter_le _ _
theorem run_pmlen {W:World} {n mb:Nat} {ps:List Pt} {vs:Nat→Value} (h:PMp W n mb ps vs) (ty:TypeId):(Builtin.len_ #[133] ty #[.map (some mb)]).run prog W=.ok (.int .i64 (ps.length:Int)) W:=by
 have e:(ents ps vs).toArray.size=ps.length:=by simp [QaM]
 simp [Builtin.len_,run_underlying Qgw,MapKept.run_getObj_map h.map,Result.andThen,goInt,QaM]
theorem PMp.keep {W U:World} {n mb:Nat} {ps:List Pt} {vs:Nat→Value} (h:PMp W n mb ps vs) (h1:∀ (es:Array MapEntry) (c:Nat),W.heap[mb]? = some (Obj.map es c)→U.heap[mb]? = W.heap[mb]?) (h2:∀ (g:Nat) (cs:Array Value),W.heap[g]? = some (Obj.cells cs 3 (0,0))→U.heap[g]? = W.heap[g]?):PMp U n mb ps vs:=
 ⟨(h1 _ _ h.map).trans h.map,h.mbn,h.keys,h.nodup,fun i hi=>Qd0 (h.rows i hi) (fun g eg=>by
  obtain ⟨_,_,cs,e⟩:=Qay (h.rows i hi) eg;exact h2 g cs e),h.apart,h.i64⟩
theorem full_snoc (l:List Bl) (x:Bl):QeV (l++[x])=if x.amt=0 then QeV l else QeV l++[x]:=by
 unfold QeV;rw [List.filter_append];by_cases h:x.amt=0
 ·rw [if_pos h];simp [h]
 ·rw [if_neg h];simp [h]
theorem Tg.more {W U:World} {n mb:Nat} {ps:List Pt} {vs:Nat→Value} {r:Nat} {sn:List Nat} {lv lv':Value} {V:World} (h:Tg W n mb ps vs r sn lv V) {i:Nat} (hi:i<ps.length) (hns:i ∉ sn) (hok:-9223372036854775808≤(ps[i]).zs.sum∧(ps[i]).zs.sum≤9223372036854775807)
  (hit:U.heap[r]? = some (.mapIter (some mb) ps.length (sn++[i]).toArray ps.length)) (hpm:PMp U n mb ps vs) (hrow:Qba U W.heap.size lv' (if (ps[i]).zs.sum=0 then QeV (sn.map (Qcq ps)) else QeV (sn.map (Qcq ps))++[(ps[i]).bal])) (hbel:Below W.heap.size W U):Tg W n mb ps vs r (sn++[i]) lv' U:=by
 refine ⟨?_,fun j hj=>?_,fun j hj=>?_,hit,hpm,?_,hbel⟩
 ·rw [List.nodup_append];exact ⟨h.nd,by simp,fun a ha b hb e=>hns (by rw [List.mem_singleton.1 hb] at e;rw [← e];exact ha)⟩
 ·rcases List.mem_append.1 hj with hj | hj
  ·exact h.lt j hj
  ·rw [List.mem_singleton.1 hj];exact hi
 ·rcases List.mem_append.1 hj with hj | hj
  ·exact h.ok j hj
  ·rw [List.mem_singleton.1 hj,Qfk ps i hi];exact hok
 ·rw [List.map_append,List.map_cons,List.map_nil,full_snoc,Qfk ps i hi];exact hrow
set_option maxHeartbeats 4000000 in
theorem Qii (W:World) (n mb:Nat) (ps:List Pt) (vs:Nat→Value) (h:PMp W n mb ps vs) (hz:∀ p∈ps,p.zs.length≤17592186044416) (hn:ps.length≤4611686018427387904) :
  Calls prog 59 #[.map (some mb)] W fun e w'=>Below W.heap.size W w'∧(tgE ps≠0→e=.returned (.tuple #[.slice none 0 0,enE (tgE ps)]))∧(tgE ps=0→∃ v R,e=.returned (.tuple #[v,.nilIface])∧Hid (Qba w' W.heap.size v R∧Qdx R∧R.Perm (QeV (ps.map Pt.bal)))):=by
 have hln:=fun ty=>run_pmlen h ty
 by_cases h2:200<ps.length
 ·have e4:tgE ps=4:=if_pos h2;rw [e4];have i1:(200:Int)<ps.length:=by omega
  clear h e4;go_enter func59,ntmps59
  go_wp2;go_ret2;exact ⟨Below.refl _ _,fun _=>rfl,fun h=>by cases h⟩
 have i1:¬ (200:Int)<ps.length:=by omega
 have hrg:=run_range_map W 133 174 90 mb _ _ Qgw h.map;have HT0:Hid (Tg W n mb ps vs W.heap.size [] (.slice none 0 0) (W.alloc (.mapIter (some mb) ps.length #[] ps.length))):=by
  have hb:Below W.heap.size W (W.alloc (.mapIter (some mb) ps.length #[] ps.length)):=(Below.refl _ W).alloc (Nat.le_refl _) _;exact ⟨List.nodup_nil,fun i hi=>by simp at hi,fun i hi=>by simp at hi,Qbg W _,h.below hb,Qba.nil _ _,hb⟩
 have Hz:Hid (∀ p∈ps,p.zs.length≤17592186044416):=hz;clear h hz;go_enter func59,ntmps59
 go_wp2_with fail;go_loopw [4] (fun lv wr=>∃ sn,Hid (Tg W n mb ps vs W.heap.size sn lv wr)) (fun _ wr=>ps.length - QfT wr W.heap.size)
 case atStart=>exact ⟨[],HT0⟩
 case round=>
  obtain ⟨sn,HT⟩:=hrel;obtain ⟨a4,c4,rfl,_⟩:=HT.out.row.isBl;obtain ⟨L4,hL4⟩:∃ L4,(QeV (sn.map (Qcq ps))).length=L4:=⟨_,rfl⟩;have HL4:Hid ((QeV (sn.map (Qcq ps))).length=L4):=hL4;rw [hL4] at HT ⊢;clear hL4;rcases parts_next HT.out.pm HT.out.it 0 with ⟨hall,hrun⟩ | ⟨i,hi,hns,W1,hrun,hit,hgr,hsz,hent⟩
  ·-- all were there
   have hok:tgE ps=0:=by
    unfold tgE;rw [if_neg h2,if_pos (List.all_eq_true.2 (fun p hp=>?_))]
    obtain ⟨i,hi,rfl⟩:=List.getElem_of_mem hp
    have:=HT.out.ok i (hall i hi)
    rw [Qfk ps i hi] at this;exact decide_eq_true this
   have hpm:(sn.map (Qcq ps)).Perm (ps.map Pt.bal):=by
    rw [← balAt_all];exact (seen_perm HT.out.nd HT.out.lt hall).map _
   have hfp:(QeV (sn.map (Qcq ps))).Perm (QeV (ps.map Pt.bal)):=hpm.filter _;have hnd:((QeV (sn.map (Qcq ps))).map Bl.key).Nodup:=by
    have h3:((ps.map Pt.bal).map Bl.key).Nodup:=by
     rw [List.map_map];exact HT.out.pm.nodup
    have h4:=((hpm.map Bl.key).nodup_iff).2 h3;exact (List.Sublist.map Bl.key List.filter_sublist).nodup h4
   have hle:(QeV (sn.map (Qcq ps))).length≤1000000:=by
    have h5:=full_len (sn.map (Qcq ps));have h6:=seen_le HT.out.nd HT.out.lt;simp only [List.length_map] at h5;omega
   have HS:Hid (Calls _ _ _ wr _):=sort_any wr W.heap.size (.slice a4 L4 c4) _ HT.out.row hle hnd;have HQ:Hid (Below W.heap.size W wr∧(∀ j,(Value.slice a4 L4 c4).ownBlock=some j→W.heap.size≤j)):=⟨HT.out.bel,fun j e=>(Qay HT.out.row e).1⟩
   have HP:Hid ((QeV (sn.map (Qcq ps))).Perm (QeV (ps.map Pt.bal))):=hfp;have HOK:Hid (tgE ps=0):=hok;clear HT hpm hfp hnd hle hall hln hrg HT0 hok;go_wp2_with (go_at_call 100;refine HS.out.mono ?_;rintro e w' ⟨rfl,R,hR1,hR2,hR3,hR4⟩);go_ret2;exact ⟨HQ.out.1.grown hR4 HQ.out.1.size HQ.out.2,fun h=>absurd HOK.out h,fun _=>⟨_,R,rfl,hR3,hR2,hR1.trans HP.out⟩⟩
  ·have hrI:=HT.out.it;have hrlt:W.heap.size<wr.heap.size:=(Array.getElem?_eq_some_iff.1 hrI).1;have hpm1:PMp W1 n mb ps vs:=HT.out.pm.keep (fun es c e=>hgr.block mb (Array.getElem?_eq_some_iff.1 e).1 (fun e2=>by cases e2;rw [hrI] at e;cases e)) (fun g cs e=>hgr.block g (Array.getElem?_eq_some_iff.1 e).1 (fun e2=>by cases e2;rw [hrI] at e;cases e))
   have hrow1:Qba W1 W.heap.size (.slice a4 L4 c4) (QeV (sn.map (Qcq ps))):=Qd0 HT.out.row (fun g eg=>by
    obtain ⟨_,g2,cs,e⟩:=Qay HT.out.row eg;exact hgr.block g g2 (fun e2=>by cases e2;rw [hrI] at e;cases e))
   have hbel1:Below W.heap.size W W1:=HT.out.bel.grown hgr HT.out.bel.size (fun j e=>by cases e;exact Nat.le_refl _)
   have HTg:Hid (Tg W n mb ps vs W.heap.size sn (.slice a4 L4 c4) wr):=HT;obtain ⟨⟨k0,k1,k2⟩,hkk⟩:∃ kk:Pk,(ps[i]).key=kk:=⟨_,rfl⟩;obtain ⟨V,hV⟩:∃ V,W1.alloc (.cells #[.int .i64 k0,.string k1,.string k2] 174)=V:=⟨_,rfl⟩;have hbV:Below W1.heap.size W1 V:=by rw [← hV];exact (Below.refl _ _).alloc (Nat.le_refl _) _
   have hVh:V.heap[W1.heap.size]? = some (.cells #[.int .i64 k0,.string k1,.string k2] 174 (0,0)):=by rw [← hV];exact Qbg W1 _
   have c0:V.cell? ⟨W1.heap.size,0,none⟩=some (.int .i64 k0):=by simp [World.cell?,hVh]
   have c1:V.cell? ⟨W1.heap.size,1,none⟩=some (.string k1):=by simp [World.cell?,hVh]
   have c2:V.cell? ⟨W1.heap.size,2,none⟩=some (.string k2):=by simp [World.cell?,hVh]
   have hpmV:=hpm1.below hbV;have hrowV:Qba V W.heap.size (.slice a4 L4 c4) (QeV (sn.map (Qcq ps))):=hrow1.below hbV;have hitV:V.heap[W.heap.size]? = some (.mapIter (some mb) ps.length (sn++[i]).toArray ps.length):=(hbV.block _ (Array.getElem?_eq_some_iff.1 hit).1).trans hit;have hbelV:Below W.heap.size W V:=hbel1.trans (hbV.mono hbel1.size);have HSum:Hid (Calls _ _ _ V _):=sum_own n (ps[i]).zs.length 3 (vs i) (ps[i]).zs V (by have:=Hz.out _ (List.getElem_mem hi);omega) (fun j hj=>hpmV.i64 _ (List.getElem_mem hi) _ (by rw [List.getD_eq_getElem?_getD,List.getElem?_eq_getElem hj];exact List.getElem_mem hj)) (hpmV.rows i hi)
   simp only [plV,hkk] at hrun hent;obtain ⟨S,hS⟩:∃ S,(ps[i]).zs.sum=S:=⟨_,rfl⟩;rw [hS] at HSum;have HV:Hid (W1.alloc (.cells #[.int .i64 k0,.string k1,.string k2] 174)=V):=hV;have HVS:Hid (PMp V n mb ps vs∧Qba V W.heap.size (.slice a4 L4 c4) (QeV (sn.map (Qcq ps)))∧V.heap[W.heap.size]? = some (.mapIter (some mb) ps.length (sn++[i]).toArray ps.length)∧Below W.heap.size W V):=⟨hpmV,hrowV,hitV,hbelV⟩
   have HI:Hid (QfT wr W.heap.size=sn.length∧sn.length+1≤ps.length):=⟨Qfh hrI,by
    have:=seen_le (n:=ps.length) (sn:=sn++[i]) (by
     rw [List.nodup_append];exact ⟨HTg.out.nd,by simp,fun a ha b hb e=>hns (by rw [List.mem_singleton.1 hb] at e;rw [← e];exact ha)⟩) (fun j hj=>by
     rcases List.mem_append.1 hj with hj | hj
     ·exact HTg.out.lt j hj
     ·rw [List.mem_singleton.1 hj];exact hi)
    simpa using this⟩
   clear hpmV hrowV hitV hbelV hpm1 hrow1 hbel1 hbV hV hit hgr hsz hrlt hrI HT HT0 hrg hln hVh;by_cases hfit:-9223372036854775808≤S∧S≤9223372036854775807
   ·obtain ⟨e1,e2⟩:=sum_fit S hfit;rw [e1,e2] at HSum;clear e1 e2;have HBal:Hid ((ps[i]).bal=⟨k0,k1,k2,S⟩):=by
     unfold Hid Pt.bal;rw [hkk,hS]
    by_cases h0:S=0
    ·subst h0;have HN:Hid (Tg W n mb ps vs W.heap.size (sn++[i]) (.slice a4 L4 c4) V):=HTg.out.more hi hns (by rw [hS];exact hfit) HVS.out.2.2.1 HVS.out.1 (by rw [hS,if_pos rfl];exact HVS.out.2.1) HVS.out.2.2.2
     have HM:Hid (ps.length - QfT V W.heap.size<ps.length - QfT wr W.heap.size):=by
      have e1:=Qfh HVS.out.2.2.1
      have:=HI.out
      unfold Hid;rw [e1,List.length_append];simp only [List.length_cons,List.length_nil];omega
     clear HVS HTg c0 c1 c2;go_wp2_with (first | (go_at_call 99;rw [HV.out];refine HSum.out.mono ?_;rintro e w' ⟨rfl,hw⟩;obtain rfl:=hw.symm));go_roundw
     case rel=>exact ⟨_,HN⟩
     case measure=>exact HM.out
    ·have h0':(S != 0)=true:=by simp [h0]
     obtain ⟨X,hX⟩:∃ X,V.alloc (.cells #[.int .i64 k0,.string k1,.string k2,.int .i64 S] 63)=X:=⟨_,rfl⟩;have hbX:Below V.heap.size V X:=by rw [← hX];exact (Below.refl _ _).alloc (Nat.le_refl _) _
     have hXh:X.heap[V.heap.size]? = some (.cells #[.int .i64 k0,.string k1,.string k2,.int .i64 S] 63 (0,0)):=by rw [← hX];exact Qbg V _
     have Hsrc:Hid (∀ j' u,[Value.int .i64 k0,.string k1,.string k2,.int .i64 S][j']? = some u→X.cell? ((⟨V.heap.size,0,none⟩:Addr).add j')=some u):=World.news_of_block hXh;have HXr:Hid (X.ownsRow W.heap.size 63 4 (.slice a4 L4 c4) L4 (Qb2 (QeV (sn.map (Qcq ps))))):=by
      have:=HVS.out.2.1.below hbX
      unfold Qba at this;rw [HL4.out] at this;exact this
     have Hle:Hid ((QeV (sn.map (Qcq ps))).length≤200):=by
      have h5:=full_len (sn.map (Qcq ps))
      have:=HI.out
      simp only [List.length_map] at h5;unfold Hid;omega
     have HN:Hid (∀ v' U,U.ownsRow W.heap.size 63 4 v' (L4+1) (Qb2 (QeV (sn.map (Qcq ps)))++[Value.int .i64 k0,.string k1,.string k2,.int .i64 S])→X.grownBy U (Value.slice a4 L4 c4).ownBlock→Tg W n mb ps vs W.heap.size (sn++[i]) v' U∧ps.length - QfT U W.heap.size<ps.length - QfT wr W.heap.size):=fun v' U ho hg=>by
      have hblk:∀ g,(Value.slice a4 L4 c4).ownBlock=some g→∃ cs,X.heap[g]? = some (.cells cs 63 (0,0)):=fun g e=>(Qay HXr.out e).2.2
      have hitX:X.heap[W.heap.size]? = some (.mapIter (some mb) ps.length (sn++[i]).toArray ps.length):=(hbX.block _ (Array.getElem?_eq_some_iff.1 HVS.out.2.2.1).1).trans HVS.out.2.2.1;have hitU:U.heap[W.heap.size]? = some (.mapIter (some mb) ps.length (sn++[i]).toArray ps.length):=(hg.block _ (Array.getElem?_eq_some_iff.1 hitX).1 (fun e=>by
       obtain ⟨cs,e2⟩:=hblk _ e.symm;rw [hitX] at e2;cases e2)).trans hitX
      have hpmU:PMp U n mb ps vs:=(HVS.out.1.below hbX).keep (fun es c e=>hg.block mb (Array.getElem?_eq_some_iff.1 e).1 (fun e1=>by
       obtain ⟨cs,e2⟩:=hblk _ e1.symm;rw [e] at e2;cases e2)) (fun g cs e=>hg.block g (Array.getElem?_eq_some_iff.1 e).1 (fun e1=>by
       obtain ⟨cs',e2⟩:=hblk _ e1.symm;rw [e] at e2;simp only [Option.some.injEq,Obj.cells.injEq] at e2;exact absurd e2.2.1 (by decide)))
      refine ⟨HTg.out.more hi hns (by rw [hS];exact hfit) hitU hpmU ?_ ?_,?_⟩
      ·rw [hS,if_neg h0,HBal.out];unfold Qba;rw [Qgb,blRow_one,List.length_append,HL4.out];exact ho
      ·exact (HVS.out.2.2.2.trans (hbX.mono HVS.out.2.2.2.size)).grown hg (Nat.le_trans HVS.out.2.2.2.size hbX.size) (fun g e=>(Qay HXr.out e).1)
      ·rw [Qfh hitU,List.length_append]
       have:=HI.out
       simp only [List.length_cons,List.length_nil];omega
     have Hsz:Hid (W.heap.size≤X.heap.size):=Nat.le_trans HVS.out.2.2.2.size hbX.size;have HX:Hid (V.alloc (.cells #[.int .i64 k0,.string k1,.string k2,.int .i64 S] 63)=X):=hX;obtain ⟨qi,hq,hz0,hz1,hz2⟩:=info_parts bl_info;have Hm1:Hid (L4+1≤maxLen):=by have:=Hle.out;rw [HL4.out] at this;unfold Hid maxLen;omega
     have Hm2:Hid ((L4+1)*48≤140737488355328):=by have:=Hle.out;rw [HL4.out] at this;unfold Hid;omega
     have Hs1:Hid (∀ u∈[Value.int .i64 k0,.string k1,.string k2,.int .i64 S],u.oneCell'=true):=by
      intro u hu;simp at hu;rcases hu with rfl | rfl | rfl | rfl <;> rfl
     clear hbX hXh hX HTg HVS Hle HBal HL4;generalize QeV (sn.map (Qcq ps))=F at *
     go_wp2_with (first | (go_at_call 99;rw [HV.out];refine HSum.out.mono ?_;rintro e w' ⟨rfl,hw⟩;obtain rfl:=hw.symm) | (at_builtin;rw [HX.out];refine wpList_append_own _ rfl _ _ 24 rfl W.heap.size 63 qi (.agg #[.int .i64 0,.string ByteArray.empty,.string ByteArray.empty,.int .i64 0]) 4 48 underlying24 hq hz0 hz1 hz2 rfl (by decide) _ _ _ rfl HXr.out ⟨V.heap.size,0,none⟩ 1 1 [Value.int .i64 k0,.string k1,.string k2,.int .i64 S] rfl rfl Hsrc.out Hs1.out Hm1.out Hm2.out Hsz.out ?_))
     intro v' U ho hg _;obtain ⟨g1,g2⟩:=HN.out v' U ho hg;have G1:Hid (Tg W n mb ps vs W.heap.size (sn++[i]) v' U):=g1;have G2:Hid (ps.length - QfT U W.heap.size<ps.length - QfT wr W.heap.size):=g2;clear g1 g2 ho hg HN Hsrc HXr;go_wp2_with fail;go_roundw
     case rel=>exact ⟨_,G1⟩
     case measure=>exact G2.out
   ·obtain ⟨e1,e2⟩:=QhU S hfit;rw [e1,e2] at HSum;have HE:Hid (tgE ps=10):=by
     unfold Hid tgE;rw [if_neg h2,if_neg];intro hall
     have:=List.all_eq_true.1 hall _ (List.getElem_mem hi)
     rw [hS] at this;exact hfit (of_decide_eq_true this)
    have HB:Hid (Below W.heap.size W V):=HVS.out.2.2.2;clear e1 e2 HVS HTg c0 c1 c2;go_wp2_with (first | (go_at_call 99;rw [HV.out];refine HSum.out.mono ?_;rintro e w' ⟨rfl,hw⟩;obtain rfl:=hw.symm));go_ret2;exact ⟨HB.out,fun _=>by rw [HE.out];rfl,fun h=>by rw [HE.out] at h;cases h⟩
end
section
open Go.RowKit Go.Lib Go.Proofs.Tryz
theorem addP_zs (x:Bl) (m:Nat):∀ ps:List Pt,(∀ p∈ps,p.zs.length≤m)→∀ p∈Qeo ps x,p.zs.length≤m+1
 | [],_,p,hp=>by
  rw [Qeo,List.mem_singleton] at hp;rw [hp];simp
 | q :: ps,h,p,hp=>by
  unfold Qeo at hp;split at hp
  ·rcases List.mem_cons.1 hp with rfl | hp
   ·have:=h q (List.mem_cons_self ..)
    simp;omega
   ·have:=h p (List.mem_cons_of_mem _ hp)
    omega
  ·rcases List.mem_cons.1 hp with rfl | hp
   ·have:=h p (List.mem_cons_self ..)
    omega
   ·exact addP_zs x m ps (fun q hq=>h q (List.mem_cons_of_mem _ hq)) p hp
theorem parts_zs (l:List Bl):∀ p∈parts l,p.zs.length≤l.length:=by
 have key:∀ (l:List Bl) (ps:List Pt) (m:Nat),(∀ p∈ps,p.zs.length≤m)→∀ p∈l.foldl Qeo ps,p.zs.length≤m+l.length:=by
  intro l
  induction l with
  | nil=>intro ps m h;simpa using h
  | cons x l ih=>
   intro ps m h p hp
   have:=ih (Qeo ps x) (m+1) (addP_zs x m ps h) p hp
   simp only [List.length_cons];omega
 have:=key l [] 0 (by simp)
 simpa [parts] using this
theorem sums_of_perm {l R:List Bl} (hr:Qdx R) (hp:R.Perm (QeV ((parts l).map Pt.bal))):Sums l R:=
 ⟨hr,fun x hx=>full_ne _ x (hp.mem_iff.1 hx),fun k=>by rw [ltot_perm k hp,ltot_full,ltot_bal,parts_tot]⟩
theorem ok_of_perm {l R:List Bl} (hp:R.Perm (QeV ((parts l).map Pt.bal))) (hok:∀ x∈l,BlOk x) (hi:∀ p∈parts l,-9223372036854775808≤p.zs.sum∧p.zs.sum≤9223372036854775807):∀ x∈R,BlOk x:=fun x hx=>by
 have h1:=(List.mem_filter.1 (hp.mem_iff.1 hx)).1;obtain ⟨p,hp1,rfl⟩:=List.mem_map.1 h1;obtain ⟨y,hy,e⟩:=(parts_keys p.key l).1 (List.mem_map.2 ⟨p,hp1,rfl⟩);exact ⟨by rw [bal_key,← e];exact (hok y hy).key,hi p hp1⟩
theorem len_of_perm {l R:List Bl} (hp:R.Perm (QeV ((parts l).map Pt.bal))):R.length≤(parts l).length:=by
 rw [hp.length_eq]
 have:=full_len ((parts l).map Pt.bal)
 simpa using this
end
section
open Go.RowKit Go.Lib Go.Proofs.Tryz
theorem PMp.new (W:World) (n:Nat) (hn:n≤W.heap.size) (vs:Nat→Value):PMp (W.alloc (.map #[] 0)) n W.heap.size [] vs:=
 ⟨Qbg W _,hn,fun p hp=>by simp at hp,by simp,fun i hi=>by simp at hi,fun i j hi=>by simp at hi,fun p hp=>by simp at hp⟩
theorem parts_take (l m:List Bl) (k:Nat) (h:k<m.length):parts (l++m.take (k+1))=Qeo (parts (l++m.take k)) (m.getD k bl0):=by
 rw [Qfd m k h,← List.append_assoc,parts_snoc]
end
end Go.Proofs.YtjifbbdkpanagaaGreatDoor
